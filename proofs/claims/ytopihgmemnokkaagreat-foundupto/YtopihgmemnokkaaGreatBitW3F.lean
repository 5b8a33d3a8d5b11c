import Derived.Test.YtopihgmemnokkaaGreatBitLF
import Derived.Test.YtopihgmemnokkaaGreatBitW2F
import Derived.RegionTactic
import Derived.BigRegion
namespace Go.Proofs.YtopihgmemnokkaaGreat
open Go.RowKit

set_option maxHeartbeats 1000000 in
theorem size_any (base : Nat) (w : World) (b o : Nat) (pre post : List Value) (ho : pre.length = o) (ty : TypeId) (wv av : Value) (p : Nat → Bool) (n : Nat) (h : BitL base w b pre post ty wv av p n) :
    Calls Tryz.prog 94 #[.pointer (some ⟨b, o, none⟩)] w fun e w' => e = .returned (.int .i64 (n : Nat)) ∧ w' = w := by
  have c2 := h.four.c2 ho
  go_enter Tryz.func94, Tryz.ntmps94
  go_wp2
  go_ret
  exact ⟨rfl, rfl⟩
set_option maxHeartbeats 1000000 in
theorem ones_any (base : Nat) (w : World) (b o : Nat) (pre post : List Value) (ho : pre.length = o) (ty : TypeId) (wv av : Value) (p : Nat → Bool) (n : Nat) (h : BitL base w b pre post ty wv av p n) :
    Calls Tryz.prog 96 #[.pointer (some ⟨b, o, none⟩)] w fun e w' => e = .returned (.int .i64 (Cc.cn n p : Nat)) ∧ w' = w := by
  have c3 := h.four.c3 ho
  go_enter Tryz.func96, Tryz.ntmps96
  go_wp2
  go_ret
  exact ⟨rfl, rfl⟩

theorem lay_word (p : Nat → Bool) (n q r X Y : Nat) (hn : n = 64 * q + r) (hr : r < 64) (hX : Bm.wordAt (fun i => p (64 * q + i)) r = X) (hY : (p n).toNat = Y) :
    bits .or .u64 (X : Int) (IntKind.u64.wrap ((Y : Int) * 2 ^ (63 - r))) = (Bm.wordAt (fun i => p (64 * q + i)) (r + 1) : Nat) := by
  have hx := Bm.wordAt_lt (fun i => p (64 * q + i)) (m := r) (by omega)
  have hy : (p n).toNat ≤ 1 := Bool.toNat_le _
  have hs := Bm.bit_or (s := 63 - r) (by omega)
  have hm : Y * 2 ^ (63 - r) ≤ 2 ^ (63 - r) := by
    rw [hY] at hy
    calc Y * 2 ^ (63 - r) ≤ 1 * 2 ^ (63 - r) := Nat.mul_le_mul_right _ hy
      _ = 2 ^ (63 - r) := by omega
  have e : IntKind.u64.wrap ((Y : Int) * 2 ^ (63 - r)) = ((Y * 2 ^ (63 - r) : Nat) : Int) := by
    have e1 : (Y : Int) * 2 ^ (63 - r) = ((Y * 2 ^ (63 - r) : Nat) : Int) := by rw [Int.natCast_mul, Int.natCast_pow]; rfl
    rw [e1, IntKind.wrap_u64]; omega
  rw [e, bits_or_u64_nat _ _ (by omega) (by omega), ← hX, ← hY, ← Bm.wordAt_or _ hr, hn]

theorem lay_end {base : Nat} {W : World} {b o : Nat} {pre post : List Value} {ty : TypeId} {g q cap : Nat} {av : Value} {p : Nat → Bool} {n r : Nat} {xs : List Value} {X Y : Nat} (ho : pre.length = o) (hn : n = 64 * q + r) (hr : r < 64)
    (hF : Four W b pre post ty (.slice (some ⟨g, 0, none⟩) (q + 1) cap) av (.int .i64 (n : Nat)) (.int .i64 (Cc.cn n p : Nat))) (hw : W.ownsRow base 112 1 (.slice (some ⟨g, 0, none⟩) (q + 1) cap) (q + 1) xs)
    (ha : W.ownsRow base 3 1 av (q + 1) (aheadL p (n + 1))) (low : base ≤ b) (t1 : 112 ≠ ty) (t2 : 3 ≠ ty) (hX : Bm.wordAt (fun i => p (64 * q + i)) r = X) (hY : (p n).toNat = Y)
    (hset : ∀ v, v = Value.int .u64 (Bm.wordAt (fun i => p (64 * (n / 64) + i)) (n % 64 + 1) : Nat) → xs.set (n / 64) v = wordsL p (n + 1)) :
    BitL base (((W.setCell ⟨g, q, none⟩ (.int .u64 (bits .or .u64 (X : Int) (IntKind.u64.wrap ((Y : Int) * 2 ^ (63 - r)))))).setCell ⟨b, o + 2, none⟩ (.int .i64 ((n : Int) + 1))).setCell ⟨b, o + 3, none⟩ (.int .i64 ((Cc.cn n p : Int) + Y))).drew
      b pre post ty (.slice (some ⟨g, 0, none⟩) (q + 1) cap) av p (n + 1) ∧
    Kept (bitP b (.slice (some ⟨g, 0, none⟩) (q + 1) cap) av) W (((W.setCell ⟨g, q, none⟩ (.int .u64 (bits .or .u64 (X : Int) (IntKind.u64.wrap ((Y : Int) * 2 ^ (63 - r)))))).setCell ⟨b, o + 2, none⟩ (.int .i64 ((n : Int) + 1))).setCell ⟨b, o + 3, none⟩ (.int .i64 ((Cc.cn n p : Int) + Y))).drew := by
  rw [lay_word p n q r X Y hn hr hX hY]
  have hdiv : n / 64 = q := by omega
  have hmod : n % 64 = r := by omega
  have hs := hset _ rfl
  rw [hdiv, hmod] at hs
  have hK : (n + 1 + 63) / 64 = q + 1 := by omega
  have hgb : g ≠ b := hF.ne hw t1 g rfl
  have hag : ∀ a, av.ownBlock = some a → ¬ a = g := fun a h1 h2 => by
    have := owns_ne (w := W) hw ha (by decide)
    rcases this with h3 | h3
    · rw [h3] at h1; cases h1
    · exact h3 (h1.trans (by rw [h2]; rfl))
  have hab := hF.ne ha t2
  have k1 : Kept (fun a => a = g) W (W.setCell ⟨g, q, none⟩ (.int .u64 (Bm.wordAt (fun i => p (64 * q + i)) (r + 1) : Nat))) := (Kept.refl _ _).setCell (by rfl) _
  have hF1 := hF.keep k1 (fun e => hgb e.symm)
  have hw1 := own_set hw q (.int .u64 (Bm.wordAt (fun i => p (64 * q + i)) (r + 1) : Nat))
  rw [hs] at hw1
  have ha1 := own_keep ha k1 hag
  generalize hW1 : W.setCell ⟨g, q, none⟩ (.int .u64 (Bm.wordAt (fun i => p (64 * q + i)) (r + 1) : Nat)) = W1 at *
  have hF2 := hF1.s2 ho (.int .i64 ((n : Int) + 1))
  have hF3 := hF2.s3 ho (.int .i64 ((Cc.cn n p : Int) + Y))
  have k2 : Kept (fun a => a = b) W1 ((W1.setCell ⟨b, o + 2, none⟩ (.int .i64 ((n : Int) + 1))).setCell ⟨b, o + 3, none⟩ (.int .i64 ((Cc.cn n p : Int) + Y))) :=
    ((Kept.refl (fun a => a = b) W1).setCell (by rfl) _).setCell (by rfl) _
  have hw2 := own_keep hw1 k2 (fun a h1 h2 => by
    have : a = g := by simpa [Value.ownBlock] using h1.symm
    exact hgb (this ▸ h2))
  have ha2 := own_keep ha1 k2 (fun a h1 h2 => hab a h1 h2)
  refine ⟨⟨?_, ?_, ?_, low, t1, t2⟩, ?_⟩
  · have e1 : Cc.cn (n + 1) p = Cc.cn n p + Y := by simp only [Cc.cn]; rw [hY]
    rw [e1]; exact hF3
  · rw [hK]; exact hw2
  · rw [hK]; exact ha2
  · have k3 : Kept (bitP b (.slice (some ⟨g, 0, none⟩) (q + 1) cap) av) W W1 := k1.mono (fun k _ h => .inr (.inl (by rw [h]; rfl)))
    exact (k3.trans' k2 (fun i _ h => .inl h)).drew

set_option maxHeartbeats 1000000 in
theorem layBit_in (base : Nat) (w : World) (b o : Nat) (pre post : List Value) (ho : pre.length = o) (ty : TypeId) (wv av : Value) (p : Nat → Bool) (n : Nat) (h : BitL base w b pre post ty wv av p n) (hn : n % 64 ≠ 0) (hb : n ≤ 1099511627776) :
    Calls Tryz.prog 124 #[.pointer (some ⟨b, o, none⟩), .int .u64 ((p n).toNat : Nat)] w fun e w' => e = .returned (.tuple #[]) ∧ BitL base w' b pre post ty wv av p (n + 1) ∧ Kept (bitP b wv av) w w' := by
  obtain ⟨q, hq⟩ : ∃ q, n / 64 = q := ⟨_, rfl⟩
  obtain ⟨r, hr⟩ : ∃ r, n % 64 = r := ⟨_, rfl⟩
  have hK : (n + 63) / 64 = q + 1 := by omega
  have hw := h.words
  rw [hK] at hw
  obtain ⟨g, cap, rfl, _, hgl⟩ := hw.form (by omega)
  have c0 := h.four.c0 ho
  have c2 := h.four.c2 ho
  have c3 := h.four.c3 ho
  have f0 := h.four.frozen (o + 2)
  have f1 := h.four.frozen (o + 3)
  have x1 := wordsL_get p (n := n) (j := q) (by omega)
  rw [show min 64 (n - 64 * q) = r by omega] at x1
  have d1 := own_cell hw x1
  have d2 := own_frozen hw q
  have hri : (n : Int) % 64 = (r : Nat) := by omega
  have hr0 : ((r : Int) == 0) = false := by simp; omega
  have hr64 : r < 64 := by omega
  have hne : b ≠ g := fun e => h.four.ne h.words h.t1 g rfl e.symm
  have hcn := Cc.cn_le n p
  generalize hX : Bm.wordAt (fun i => p (64 * q + i)) r = X at *
  have hX' : Hid (Bm.wordAt (fun i => p (64 * q + i)) r = X) := hX
  have hq' : Hid (n / 64 = q) := hq
  have hr' : Hid (n % 64 = r) := hr
  have hK' : Hid ((n + 63) / 64 = q + 1) := hK
  have hb1 : (p n).toNat ≤ 1 := Bool.toNat_le _
  generalize hY : (p n).toNat = Y at *
  have hY' : Hid ((p n).toNat = Y) := hY
  have hqb : q ≤ 17179869184 := by omega
  clear hX hq hr hK hw x1 hn hY
  go_enter Tryz.func124, Tryz.ntmps124
  go_wp2
  go_region
  all_goals go_wp2
  go_end0
  have := lay_end ho (q := q) (r := r) (by have := hq'.out; have := hr'.out; omega) hr64 h.four (by have := h.words; rw [hK'.out] at this; exact this)
    (by have := h.ahead; rw [hK'.out] at this; rw [aheadL_step p (by rw [hr'.out]; simp at hr0; omega)]; exact this) h.low h.t1 h.t2 hX'.out hY'.out (fun v hv => wordsL_step p (by rw [hr'.out]; simp at hr0; omega) v hv)
  exact ⟨rfl, this.1, this.2⟩

end Go.Proofs.YtopihgmemnokkaaGreat

