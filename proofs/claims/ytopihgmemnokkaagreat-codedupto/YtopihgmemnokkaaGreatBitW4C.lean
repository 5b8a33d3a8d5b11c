import Derived.Test.YtopihgmemnokkaaGreatBitW3C
import Derived.Deep.RegionHeld
namespace Go.Proofs.YtopihgmemnokkaaGreat
open Go.RowKit

theorem Tryz.info112 : (Tryz.prog.info? 112).map (fun i => (i.zero, i.size, i.bytes)) = some (some (.int .u64 0), 1, 8) := by kernel_rfl

theorem back_own {w w' : World} {v : Value} {g : Nat} {G : Prop} (h : (v.ownBlock = some g ∧ w.grownBy w' (some g)) ∨ (G ∧ w.grownBy w' none)) : Kept (fun a => v.ownBlock = some a) w w' :=
  (Kept.refl _ w).grown (two_grown h) (fun _ hk _ => hk)

set_option maxRecDepth 100000 in
set_option maxHeartbeats 2000000 in
theorem layBit_new (base : Nat) (w : World) (b o : Nat) (pre post : List Value) (ho : pre.length = o) (ty : TypeId) (wv av : Value) (p : Nat → Bool) (n : Nat) (h : BitL base w b pre post ty wv av p n) (hn : n % 64 = 0) (hb : n ≤ 1099511627776) :
    Calls Tryz.prog 124 #[.pointer (some ⟨b, o, none⟩), .int .u64 ((p n).toNat : Nat)] w fun e w' => e = .returned (.tuple #[]) ∧ ∃ wv' av', BitL base w' b pre post ty wv' av' p (n + 1) ∧ Kept (bitP b wv av) w w' ∧
      (∀ k, bitP b wv' av' k → bitP b wv av k ∨ w.heap.size ≤ k) := by
  obtain ⟨i0, hi, hz0, hz1, hz2⟩ := info_parts Tryz.info112
  obtain ⟨j0, hj, hy0, hy1, hy2⟩ := info_parts Tryz.info3
  obtain ⟨q, hq⟩ : ∃ q, n / 64 = q := ⟨_, rfl⟩
  have hK : (n + 63) / 64 = q := by omega
  have hw := h.words
  have ha := h.ahead
  rw [hK] at hw ha
  obtain ⟨a0, p0, hwv⟩ := own_slice hw
  obtain ⟨a1, p1, hav⟩ := own_slice ha
  have hF := h.four
  have c0 := h.four.c0 ho
  have c2 := h.four.c2 ho
  have hri : (n : Int) % 64 = 0 := by omega
  have hcn := Cc.cn_le n p
  have hqb : q ≤ 17179869184 := by omega
  have hb1 : (p n).toNat ≤ 1 := Bool.toNat_le _
  have hbw : base ≤ w.heap.size := by have := h.low; have := hF.lt; omega
  have hf0 := hF.frozen o
  rw [hwv] at c0
  have Hwv : Hid (wv = Value.slice a0 q p0) := hwv
  have Hav : Hid (av = Value.slice a1 q p1) := hav
  have Hn : Hid (n % 64 = 0) := hn
  have Hq : Hid (n / 64 = q) := hq
  have Hri : Hid ((n : Int) % 64 = 0) := hri
  generalize hY : (p n).toNat = Y at *
  have hY' : Hid ((p n).toNat = Y) := hY
  clear hwv hav hn hq hK hY
  go_enter Tryz.func124, Tryz.ntmps124
  go_wp2_with (at_builtin; refine wpList_append_two _ rfl _ _ 123 rfl base 112 i0 (.int .u64 0) 8 Tryz.underlying123 hi hz0 hz1 hz2 rfl _ _ _ rfl (by first | exact Hwv.out ▸ (hw.alloc _)) ⟨w.heap.size, 0, none⟩ 1 (.int .u64 0) rfl ?c1 ?c2 ?c3 ?c4 ?c5 ?_)
  case c1 => exact cell_one_new _ _ _
  case c2 => rfl
  case c3 => unfold maxLen; omega
  case c4 => omega
  case c5 => simp; omega
  intro g cap w1 hown hg1 hd
  have k0 : Kept (fun a => wv.ownBlock = some a) (w.alloc (.cells #[.int .u64 0] 112)) w1 := by rw [Hwv.out]; exact back_own hd
  have k1 : Kept (fun a => wv.ownBlock = some a) w w1 := ((Kept.refl _ w).alloc _).trans k0
  have hF1 := hF.keep k1 (fun e => hF.ne hw h.t1 b e rfl)
  have ha1 := own_keep ha k1 (fun a h1 h2 => by
    rcases owns_ne hw ha (by decide) with h3 | h3
    · rw [h3] at h1; cases h1
    · exact h3 (h1.trans h2.symm))
  have hgat : (wv.ownBlock = some g ∨ w.heap.size ≤ g) := by
    rcases hd with ⟨h1, _⟩ | ⟨h1, _⟩
    · exact .inl (by rw [Hwv.out]; exact h1)
    · exact .inr (by omega)
  have e0 := hF1.c0 ho
  have e1 := hF1.frozen o
  clear hd k0 c0 c2 hf0
  go_wp2
  have hF2 := hF1.s0 ho (.slice (some ⟨g, 0, none⟩) (q + 1) cap)
  have k2 : Kept (fun a => a = b) w1 (w1.setCell ⟨b, o, none⟩ (.slice (some ⟨g, 0, none⟩) (q + 1) cap)) := (Kept.refl (fun a => a = b) w1).setCell (show (⟨b, o, none⟩ : Addr).block = b from rfl) _
  have hw2 := own_keep hown k2 (fun a h1 h2 => hF1.ne hown h.t1 a h1 h2)
  have ha2 := own_keep ha1 k2 (fun a h1 h2 => hF1.ne ha1 h.t2 a h1 h2)
  have hz2' : w.heap.size ≤ w1.heap.size := k1.size
  have hz2 : (w1.setCell ⟨b, o, none⟩ (.slice (some ⟨g, 0, none⟩) (q + 1) cap)).heap.size = w1.heap.size := by simp
  have k12 : Kept (bitP b wv av) w (w1.setCell ⟨b, o, none⟩ (.slice (some ⟨g, 0, none⟩) (q + 1) cap)) := (k1.mono (fun k _ h => .inr (.inl h))).trans' k2 (fun k _ h => .inl h)
  generalize hw2e : w1.setCell ⟨b, o, none⟩ (.slice (some ⟨g, 0, none⟩) (q + 1) cap) = w2 at *
  have Hz2 : Hid (w2.heap.size = w1.heap.size) := hz2
  clear hw2e k1 k2 hF1 e0 e1 hown ha1 hz2
  have s1 := hF2.c1 ho
  have s2 := hF2.c3 ho
  rw [Hav.out] at s1
  have hS0 : w2.drew.cell? ⟨b, o + 3, none⟩ = some (.int .i64 (Cc.cn n p : Nat)) := s2
  have k3 : Kept (fun _ => False) w2 (w2.alloc (.cells #[.int .i64 (Cc.cn n p : Nat)] 3)).drew := ((Kept.refl (fun _ => False) w2).alloc _).drew
  have hF3 := hF2.keep k3 (fun h => h)
  have hw3 := own_keep hw2 k3 (fun _ _ h => h)
  have ha3 := own_keep ha2 k3 (fun _ _ h => h)
  have t1 := hF3.c1 ho
  have t2 := hF3.c3 ho
  rw [Hav.out] at t1
  have k13 : Kept (bitP b wv av) w (w2.alloc (.cells #[.int .i64 (Cc.cn n p : Nat)] 3)).drew := k12.trans' k3 (fun _ _ h => h.elim)
  have Hz3 : Hid ((w2.alloc (.cells #[.int .i64 (Cc.cn n p : Nat)] 3)).drew.heap.size = w2.heap.size + 1) := by show _ = _; simp
  have hcn1 : ∀ j x, [Value.int .i64 (Cc.cn n p : Nat)][j]? = some x → (w2.alloc (.cells #[.int .i64 (Cc.cn n p : Nat)] 3)).drew.cell? ((⟨w2.heap.size, 0, none⟩ : Addr).add j) = some x := cell_one_new w2 _ _
  refine wp_region_held_drew (S := fun w' => w'.cell? ⟨b, o + 3, none⟩ = some (.int .i64 (Cc.cn n p : Nat))) (by kernel_rfl) hS0 (fun _ => ?_)
  refine wpAnyH_take (i := 0) (v := ?v0) rfl (by kernel_rfl) (by kernel_rfl) (by kernel_rfl) (fun _ _ _ h => h) (Or.inl ⟨by rfl, ?h0⟩) hS0 ?_
  case h0 => intro wq hS; go_simp; with_reducible rfl
  refine wpAnyH_take (i := 1) (v := ?v1) rfl (by kernel_rfl) (by kernel_rfl) (by kernel_rfl) (fun _ _ _ h => h) (Or.inl ⟨by rfl, ?h1⟩) hS0 ?_
  case h1 => intro wq hS; go_simp; with_reducible rfl
  refine wpAnyH_take (i := 2) (v := ?v2) rfl (by kernel_rfl) (by kernel_rfl) (by kernel_rfl) (fun _ _ _ h => h) (Or.inl ⟨by rfl, ?h2⟩) hS0 ?_
  case h2 => intro wq hS; go_simp; with_reducible rfl
  refine wpAnyH_take (i := 3) (v := ?v3) rfl (by kernel_rfl) (by kernel_rfl) (by kernel_rfl) (fun _ _ _ h => h) (Or.inl ⟨by rfl, ?h3⟩) hS0 ?_
  case h3 => intro wq hS; go_simp; with_reducible rfl
  refine wpAnyH_take (i := 5) (v := ?v5) rfl (by kernel_rfl) (by kernel_rfl) (by kernel_rfl) (fun _ _ _ h => h) (Or.inl ⟨by rfl, ?h5⟩) hS0 ?_
  case h5 => intro wq hS; go_simp; with_reducible rfl
  refine wpAnyH_take (i := 6) (v := ?v6) rfl (by kernel_rfl) (by kernel_rfl) (by kernel_rfl) (fun _ _ _ h => h) (Or.inl ⟨by rfl, ?h6⟩) hS0 ?_
  case h6 => intro wq hS; go_simp; with_reducible rfl
  refine wpAnyH_take (i := 7) (v := ?v7) rfl (by kernel_rfl) (by kernel_rfl) (by kernel_rfl) (fun _ _ _ h => h) (Or.inl ⟨by rfl, ?h7⟩) hS0 ?_
  case h7 => intro wq hS; go_simp; with_reducible rfl
  refine wpAnyH_take (i := 8) (v := ?v8) rfl (by kernel_rfl) (by kernel_rfl) (by kernel_rfl) (fun _ _ _ h => h) (Or.inl ⟨by rfl, ?h8⟩) hS0 ?_
  case h8 => intro wq hS; go_simp; with_reducible rfl
  refine wpAnyH_ready (rs := [4, 9]) (by kernel_rfl) (by simp) ?_
  refine AllReadyH.cons rfl (fun K hK => ?_) (AllReadyH.cons rfl (fun K hK => ?_) AllReadyH.nil)
  focus
    go_simp
    refine hK.out _ _ hS0 (fun _ => ?_)
    clear hK K
    refine wpAnyH_ready (rs := [9]) (by kernel_rfl) (by simp) ?_
    refine AllReadyH.cons rfl (fun K hK => ?_) AllReadyH.nil
    go_simp
    refine hK.out _ _ t2 (fun _ => ?_)
  rotate_left
  focus
    go_simp
    refine hK.out _ _ t2 (fun _ => ?_)
    clear hK K
    refine wpAnyH_ready (rs := [4]) (by kernel_rfl) (by simp) ?_
    refine AllReadyH.cons rfl (fun K hK => ?_) AllReadyH.nil
    go_simp
    refine hK.out _ _ t2 (fun _ => ?_)
  all_goals
    clear hK K
    generalize (w2.alloc (.cells #[.int .i64 (Cc.cn n p : Nat)] 3)).drew = w3 at *
    refine wpAnyH_ready (rs := [10]) (by kernel_rfl) (by simp) ?_
    refine AllReadyH.cons rfl (fun K hK => ?_) AllReadyH.nil
    rw [if_pos (by rfl)]
    refine wp_append_two w3 (.tmp 25) (.tmp 30) 30 rfl base 3 j0 (.int .i64 0) 8 Tryz.underlying30 hj hy0 hy1 hy2 rfl (.slice a1 q p1) q (aheadL p n) rfl (by rw [← Hav.out]; exact ha3) ⟨w2.heap.size, 0, none⟩ 1 (.int .i64 (Cc.cn n p : Nat)) rfl hcn1 rfl (by unfold maxLen; omega) (by omega) (by have := k13.size; omega) ?_
    intro g2 cap2 w4 hown4 hg4 hd4
    have k4 : Kept (fun a => av.ownBlock = some a) w3 w4 := by rw [Hav.out]; exact back_own hd4
    have hF4 := hF3.keep k4 (fun e => hF3.ne ha3 h.t2 b e rfl)
    have hw4 := own_keep hw3 k4 (fun a h1 h2 => by
      rcases owns_ne ha3 hw3 (by decide) with h3 | h3
      · rw [h3] at h1; cases h1
      · exact h3 (h1.trans h2.symm))
    have hgat2 : (av.ownBlock = some g2 ∨ w.heap.size ≤ g2) := by
      rcases hd4 with ⟨h1, _⟩ | ⟨h1, _⟩
      · exact .inl (by rw [Hav.out]; exact h1)
      · exact .inr (by have := k13.size; omega)
    have k14 : Kept (bitP b wv av) w w4 := k13.trans' k4 (fun _ _ h => .inr (.inr h))
    have t3 := hF4.c1 ho
    have t4 := hF4.c3 ho
    have t5 := hF4.frozen (o + 1)
    rw [Hav.out] at t3
    refine hK.out _ _ t4 (fun _ => ?_)
    clear hK K hd4 k3 k12 hcn1 hS0 s1 s2 t1 t2 hF2 hw2 ha2
    refine wpAnyH_take (i := 11) (v := ?v11) rfl (by kernel_rfl) (by kernel_rfl) (by kernel_rfl) (fun _ _ _ h => h) (Or.inl ⟨by rfl, ?h11⟩) t4 ?_
    case h11 => intro wq hS; first | (go_simp; done) | (go_simp; with_reducible rfl)
    refine wpAnyH_take (i := 12) (v := ?v12) rfl (by kernel_rfl) (by kernel_rfl) (by kernel_rfl) (fun _ _ _ h => h) (Or.inl ⟨by rfl, ?h12⟩) t4 ?_
    case h12 => intro wq hS; first | (go_simp; done) | (go_simp; with_reducible rfl)
    refine wpAnyH_ready (rs := [13]) (by kernel_rfl) (by simp) ?_
    refine AllReadyH.cons rfl (fun K hK => ?_) AllReadyH.nil
    go_simp
    have hF5 := hF4.s1 ho (.slice (some ⟨g2, 0, none⟩) (q + 1) cap2)
    have k5 : Kept (fun a => a = b) w4 (w4.setCell ⟨b, o + 1, none⟩ (.slice (some ⟨g2, 0, none⟩) (q + 1) cap2)) := (Kept.refl (fun a => a = b) w4).setCell (show (⟨b, o + 1, none⟩ : Addr).block = b from rfl) _
    have hw5 := own_keep hw4 k5 (fun a h1 h2 => hF4.ne hw4 h.t1 a h1 h2)
    have ha5 := own_keep hown4 k5 (fun a h1 h2 => hF4.ne hown4 h.t2 a h1 h2)
    have k15 := k14.trans' k5 (fun _ _ h => .inl h)
    refine hK.out _ _ (hF5.c3 ho) (fun _ => ?_)
    clear hK K k5 t3 t4 t5 hF4 hw4 hown4 k4 k14 k13
    generalize w4.setCell ⟨b, o + 1, none⟩ (.slice (some ⟨g2, 0, none⟩) (q + 1) cap2) = w5 at *
    refine wpAnyH_done (by kernel_rfl) ?_ _
    have c0 := hF5.c0 ho
    have c2 := hF5.c2 ho
    have c3 := hF5.c3 ho
    have f0 := hF5.frozen (o + 2)
    have f1 := hF5.frozen (o + 3)
    have d1 : w5.cell? ⟨g, q, none⟩ = some (.int .u64 0) := own_cell hw5 (by
      have e1 : (wordsL p n).length = q := by unfold wordsL; have := Hq.out; have := Hn.out; simp; omega
      rw [List.getElem?_append_right (by omega), e1, Nat.sub_self]; rfl)
    have d2 := own_frozen hw5 q
    have hne : b ≠ g := fun e => hF5.ne hw5 h.t1 g rfl e.symm
    go_wp2
    go_region
    all_goals go_wp2
    go_end0
    have hfin := lay_end (base := base) (W := w5) (b := b) (o := o) (xs := wordsL p n ++ [Value.int .u64 0]) (X := 0) (Y := Y) ho (n := n) (q := q) (r := 0) (by have := Hq.out; have := Hn.out; omega) (by omega) hF5 hw5
      (by rw [aheadL_new p Hn.out] at ha5; exact ha5) h.low h.t1 h.t2 (Bm.wordAt_zero _) hY'.out (fun v hv => wordsL_new p Hn.out v hv)
    have ew : IntKind.u64.wrap ((Y : Int) * 2 ^ (63 - 0)) = (Y : Int) * 9223372036854775808 := by
      rw [IntKind.wrap_u64, show ((2 : Int) ^ (63 - 0)) = 9223372036854775808 from rfl]; omega
    rw [ew] at hfin
    have hat : ∀ k, bitP b (.slice (some ⟨g, 0, none⟩) (q + 1) cap) (.slice (some ⟨g2, 0, none⟩) (q + 1) cap2) k → bitP b wv av k ∨ w.heap.size ≤ k := by
      rintro k (h1 | h1 | h1)
      · exact .inl (.inl h1)
      · have e : g = k := by simpa [Value.ownBlock] using h1
        subst e
        exact hgat.imp (fun h => .inr (.inl h)) id
      · have e : g2 = k := by simpa [Value.ownBlock] using h1
        subst e
        exact hgat2.imp (fun h => .inr (.inr h)) id
    exact ⟨rfl, _, _, hfin.1, k15.trans' hfin.2 (fun i hi hp => (hat i hp).elim id (fun h => by omega)), hat⟩

theorem layBit_any (base : Nat) (w : World) (b o : Nat) (pre post : List Value) (ho : pre.length = o) (ty : TypeId) (wv av : Value) (p : Nat → Bool) (n : Nat) (h : BitL base w b pre post ty wv av p n) (hb : n ≤ 1099511627776) :
    Calls Tryz.prog 124 #[.pointer (some ⟨b, o, none⟩), .int .u64 ((p n).toNat : Nat)] w fun e w' => e = .returned (.tuple #[]) ∧ ∃ wv' av', BitL base w' b pre post ty wv' av' p (n + 1) ∧ Kept (bitP b wv av) w w' ∧
      (∀ k, bitP b wv' av' k → bitP b wv av k ∨ w.heap.size ≤ k) := by
  by_cases hn : n % 64 = 0
  · exact layBit_new base w b o pre post ho ty wv av p n h hn hb
  · refine (layBit_in base w b o pre post ho ty wv av p n h hn hb).mono ?_
    rintro e w' ⟨rfl, h1, h2⟩
    exact ⟨rfl, wv, av, h1, h2, fun k hk => .inl hk⟩

end Go.Proofs.YtopihgmemnokkaaGreat

namespace Go.Proofs.YtopihgmemnokkaaGreat
open Go.RowKit

/-- how many bits runs have together -/
def rsum (rs : List (Nat × Nat)) : Nat := (rs.map Prod.fst).sum

theorem rsum_take (rs : List (Nat × Nat)) {k : Nat} {x : Nat × Nat} (h : rs[k]? = some x) : rsum (rs.take (k + 1)) = rsum (rs.take k) + x.1 := by
  unfold rsum
  have hk := (List.getElem?_eq_some_iff.1 h).1
  have hx := (List.getElem?_eq_some_iff.1 h).2
  rw [List.take_succ_eq_append_getElem hk, hx]
  simp
theorem rsum_le (rs : List (Nat × Nat)) (k : Nat) : rsum (rs.take k) ≤ rsum rs := by
  unfold rsum
  rw [List.map_take]
  have := List.sum_append (l₁ := (rs.map Prod.fst).take k) (l₂ := (rs.map Prod.fst).drop k)
  rw [List.take_append_drop] at this
  omega

/-- runs lie in a row -/
def Runs (w : World) (g : Nat) (rs : List (Nat × Nat)) : Prop := ∀ k x, rs[k]? = some x → w.cell? ⟨g, k * 2, none⟩ = some (.int .i64 (x.1 : Nat)) ∧ w.cell? ⟨g, k * 2 + 1, none⟩ = some (.int .u64 (x.2 : Nat))

/-- the bits from n on are those of runs -/
def Spells (p : Nat → Bool) (n : Nat) (rs : List (Nat × Nat)) : Prop :=
  ∀ k x, rs[k]? = some x → x.1 ≤ 64 ∧ x.2 < 18446744073709551616 ∧ ∀ i, i < x.1 → (p (n + rsum (rs.take k) + i)).toNat = x.2 / 2 ^ (x.1 - 1 - i) % 2

theorem cell_keep {P : Nat → Prop} {w w' : World} (h : Kept P w w') {a : Addr} {v : Value} (hc : w.cell? a = some v) (hn : ¬ P a.block) : w'.cell? a = some v := by
  have hb := World.block_lt_of_cell? _ _ hc
  unfold World.cell? at *
  rw [h.block a.block hb hn]; exact hc

set_option maxRecDepth 100000 in
set_option maxHeartbeats 2000000 in
theorem lay_any (base : Nat) (w : World) (b o : Nat) (pre post : List Value) (ho : pre.length = o) (ty : TypeId) (wv av : Value) (p : Nat → Bool) (n g cap : Nat) (rs : List (Nat × Nat)) (h : BitL base w b pre post ty wv av p n)
    (hr : Runs w g rs) (hs : Spells p n rs) (hg : ¬ bitP b wv av g) (hb : n + rsum rs ≤ 1099511627776) (hl : rs.length ≤ 1099511627776) :
    Calls Tryz.prog 86 #[.pointer (some ⟨b, o, none⟩), .slice (some ⟨g, 0, none⟩) rs.length cap] w fun e w' => e = .returned (.tuple #[]) ∧ ∃ wv' av', BitL base w' b pre post ty wv' av' p (n + rsum rs) ∧ Kept (bitP b wv av) w w' ∧
      (∀ k, bitP b wv' av' k → bitP b wv av k ∨ w.heap.size ≤ k) := by
  go_enter Tryz.func86, Tryz.ntmps86
  go_wp2
  go_loopw [5, 6, 9] (fun _ _ i wr => ∃ (k : Nat) (wv' av' : Value), k ≤ rs.length ∧ i = .int .i64 k ∧ BitL base wr b pre post ty wv' av' p (n + rsum (rs.take k)) ∧ Kept (bitP b wv av) w wr ∧
      (∀ k, bitP b wv' av' k → bitP b wv av k ∨ w.heap.size ≤ k)) (fun _ _ i _ => rs.length - (intOf i).toNat)
  case atStart => exact ⟨0, wv, av, by omega, rfl, by simpa [rsum] using h, Kept.refl _ _, fun k hk => .inl hk⟩
  case round =>
    obtain ⟨k, wv1, av1, hk, rfl, hL, hK, hat⟩ := hrel
    rename World => wo
    by_cases hlt : k < rs.length
    · obtain ⟨⟨z, t⟩, hx⟩ : ∃ x, rs[k]? = some x := ⟨_, List.getElem?_eq_getElem hlt⟩
      obtain ⟨r1, r2⟩ := hr k _ hx
      have c1 := cell_keep hK r1 hg
      have c2 := cell_keep hK r2 hg
      obtain ⟨s1, s2, s3⟩ := hs k _ hx
      simp only at c1 c2 s1 s2
      have s3 : Hid (∀ i, i < z → (p (n + rsum (rs.take k) + i)).toNat = t / 2 ^ (z - 1 - i) % 2) := s3
      have hlow := hL.lt
      have hrt := rsum_take rs hx
      have hrl := rsum_le rs (k + 1)
      simp only at hrt
      clear hr r1 r2
      go_wp2
      have hL1 := hL.below (w' := wo.alloc (.cells #[.int .i64 (z : Nat), .int .u64 (t : Nat)] 114)) ((Below.refl _ _).alloc (Nat.le_refl _) _)
      have hbx : (wo.alloc (.cells #[.int .i64 (z : Nat), .int .u64 (t : Nat)] 114)).heap[wo.heap.size]? = some (.cells #[.int .i64 (z : Nat), .int .u64 (t : Nat)] 114 (0, 0)) := heap_alloc_new _ _
      have hbn : ¬ bitP b wv1 av1 wo.heap.size := fun hp => by have := (hlow _ hp).2; omega
      go_loopw [6, 15] (fun _ i wq => ∃ (j : Nat) (wv2 av2 : Value), j ≤ z ∧ i = .int .i64 j ∧ BitL base wq b pre post ty wv2 av2 p (n + rsum (rs.take k) + j) ∧ Kept (bitP b wv1 av1) (wo.alloc (.cells #[.int .i64 (z : Nat), .int .u64 (t : Nat)] 114)) wq ∧
          (∀ k, bitP b wv2 av2 k → bitP b wv1 av1 k ∨ wo.heap.size + 1 ≤ k)) (fun _ i _ => z - (intOf i).toNat)
      case atStart => exact ⟨0, wv1, av1, by omega, rfl, hL1, Kept.refl _ _, fun k hk => .inl hk⟩
      case round =>
        clear hL1
        obtain ⟨j, wv2, av2, hj, rfl, hL2, hK2, hat2⟩ := hrel
        have hB := hK2.block wo.heap.size (by simp) hbn
        rw [hbx] at hB
        have d1 : wr.cell? ⟨wo.heap.size, 0, none⟩ = some (.int .i64 (z : Nat)) := by simp [World.cell?, hB]
        have d2 : wr.cell? ⟨wo.heap.size, 1, none⟩ = some (.int .u64 (t : Nat)) := by simp [World.cell?, hB]
        clear hB
        by_cases hjz : j < z
        · go_wp2_with fail
          refine (bit_any z t j wr s1 hjz s2).mono ?_
          rintro e w3 ⟨rfl, hB3⟩
          have HY : Hid ((p (n + rsum (rs.take k) + j)).toNat = t / 2 ^ (z - 1 - j) % 2) := s3.out j hjz
          generalize t / 2 ^ (z - 1 - j) % 2 = Y at *
          go_wp2_with fail
          rw [← HY.out]
          refine (layBit_any base w3 b o pre post ho ty wv2 av2 p (n + rsum (rs.take k) + j) (hL2.below hB3) (by omega)).mono ?_
          rintro e w4 ⟨rfl, wv3, av3, hL4, hK4, hat4⟩
          have hz3 := hB3.size
          have hz2 := hK2.size
          simp only [World.size_alloc] at hz2
          have hk5 := (hK2.trans' (Kept.of_below hB3 (Nat.le_refl _) (fun _ => False)) (fun _ _ h => h.elim)).trans' hK4 (fun i hi hp => by
            rcases hat2 i hp with h1 | h1
            · exact h1
            · simp only [World.size_alloc] at hi; omega)
          have hat5 : ∀ k, bitP b wv3 av3 k → bitP b wv1 av1 k ∨ wo.heap.size + 1 ≤ k := fun k hp => by
            rcases hat4 k hp with h1 | h1
            · exact hat2 k h1
            · exact .inr (by omega)
          clear hK4 hat4 hB3 hat2 hK2
          go_wp2
          exact ⟨⟨j + 1, wv3, av3, by omega, by go_num, hL4, hk5, hat5⟩, by simp [intOf]; omega⟩
        · have hjz' : j = z := by omega
          subst hjz'
          have hz2 := hK2.size
          simp only [World.size_alloc] at hz2
          have hz1 := hK.size
          have hk6 := (hK.trans' ((Kept.refl (fun _ => False) wo).alloc (.cells #[.int .i64 (j : Nat), .int .u64 (t : Nat)] 114)) (fun _ _ h => h.elim)).trans' hK2 (fun i hi hp => by
            rcases hat i hp with h1 | h1
            · exact h1
            · omega)
          have hat6 : ∀ k, bitP b wv2 av2 k → bitP b wv av k ∨ w.heap.size ≤ k := fun k hp => by
            rcases hat2 k hp with h1 | h1
            · exact hat k h1
            · exact .inr (by omega)
          rw [Nat.add_assoc, ← hrt] at hL2
          clear hK2 hat2
          go_wp2
          exact ⟨⟨k + 1, wv2, av2, by omega, by go_num, hL2, hk6, hat6⟩, by simp [intOf]; omega⟩
    · have hk' : k = rs.length := by omega
      subst hk'
      rw [List.take_length] at hL
      go_wp2
      go_end0
      exact ⟨rfl, wv1, av1, hL, hK, hat⟩

end Go.Proofs.YtopihgmemnokkaaGreat

namespace Go.Proofs.YtopihgmemnokkaaGreat
open Go.RowKit

/-- a box of three -/
def Three (w : World) (b : Nat) (x y z : Value) : Prop := w.heap[b]? = some (.cells #[x, y, z] 209 (0, 0))
theorem Three.below {B : Nat} {w w' : World} {b : Nat} {x y z : Value} (h : Three w b x y z) (hb : Below B w w') (hlt : b < B) : Three w' b x y z := by
  unfold Three at *; rw [hb.block b hlt]; exact h
theorem Three.frozen {w : World} {b : Nat} {x y z : Value} (h : Three w b x y z) (i : Nat) : w.frozen? ⟨b, i, none⟩ = false := by
  unfold Three at h; simp [World.frozen?, h]
theorem Three.cell {w : World} {b : Nat} {x y z : Value} (h : Three w b x y z) (i : Nat) : w.cell? ⟨b, i, none⟩ = #[x, y, z][i]? := by
  unfold Three at h; simp [World.cell?, h]
theorem Three.set0 {w : World} {b : Nat} {x y z : Value} (h : Three w b x y z) (v : Value) : Three (w.setCell ⟨b, 0, none⟩ v) b v y z := by
  unfold Three at *; simp [World.setCell, Array.getElem?_modify, h]
theorem Three.set1 {w : World} {b : Nat} {x y z : Value} (h : Three w b x y z) (v : Value) : Three (w.setCell ⟨b, 1, none⟩ v) b x v z := by
  unfold Three at *; simp [World.setCell, Array.getElem?_modify, h]
theorem Three.set2 {w : World} {b : Nat} {x y z : Value} (h : Three w b x y z) (v : Value) : Three (w.setCell ⟨b, 2, none⟩ v) b x y v := by
  unfold Three at *; simp [World.setCell, Array.getElem?_modify, h]

theorem Three.ne {w : World} {b : Nat} {x y z : Value} (h : Three w b x y z) {base : Nat} {e : TypeId} {k : Nat} {v : Value} {m : Nat} {xs : List Value} (h1 : w.ownsRow base e k v m xs) (he : e ≠ 209) : v.ownBlock ≠ some b := by
  intro hb
  rcases h1.2 with ⟨rfl, _⟩ | ⟨g, cap, cur, rfl, _, hg, _⟩
  · cases hb
  · have : g = b := by simpa [Value.ownBlock] using hb
    subst this
    unfold Three at h
    rw [h] at hg
    simp at hg
    exact he hg.2.symm

/-- while two trees are joined -/
structure JN (w0 : World) (a0 v1 v2 b0 u1 u2 s xv yv : Value) (X Y : List Value) (w : World) : Prop where
  ta : Three w w0.heap.size a0 v1 v2
  tb : Three w (w0.heap.size + 1) b0 u1 u2
  tr : Three w (w0.heap.size + 1 + 1) (.int .i64 0) (.slice none 0 0) (.slice none 0 0)
  tg : Three w (w0.heap.size + 1 + 1 + 1) s xv yv
  rx : w.ownsRow (w0.heap.size + 4) 3 1 xv X.length X
  ry : w.ownsRow (w0.heap.size + 4) 9 1 yv Y.length Y
  bl : Below w0.heap.size w0 w
  top : w0.heap.size + 4 ≤ w.heap.size

section
variable {w0 : World} {a0 v1 v2 b0 u1 u2 s xv yv : Value} {X Y : List Value} {w : World}

theorem JN.below (J : JN w0 a0 v1 v2 b0 u1 u2 s xv yv X Y w) {w' : World} (hb : Below w.heap.size w w') : JN w0 a0 v1 v2 b0 u1 u2 s xv yv X Y w' := by
  have ht := J.top
  have hk := Kept.of_below hb (Nat.le_refl _) (fun _ => False)
  exact ⟨J.ta.below hb (by omega), J.tb.below hb (by omega), J.tr.below hb (by omega), J.tg.below hb (by omega), own_keep J.rx hk (fun _ _ h => h), own_keep J.ry hk (fun _ _ h => h), J.bl.trans (hb.mono (by omega)), Nat.le_trans ht hb.size⟩
theorem JN.read (J : JN w0 a0 v1 v2 b0 u1 u2 s xv yv X Y w) {a : Addr} {v : Value} (hc : w0.cell? a = some v) : w.cell? a = some v := by
  have hb := World.block_lt_of_cell? _ _ hc
  unfold World.cell? at *
  rw [J.bl.block a.block hb]; exact hc

theorem JN.grow1 (J : JN w0 a0 v1 v2 b0 u1 u2 s xv yv X Y w) {g cap : Nat} {w2 : World} {u : Value}
    (hown : w2.ownsRow (w0.heap.size + 4) 3 1 (.slice (some ⟨g, 0, none⟩) (X.length + 1) cap) (X.length + 1) (X ++ [u])) (hd : (xv.ownBlock = some g ∧ w.grownBy w2 (some g)) ∨ (g = w.heap.size ∧ w.grownBy w2 none)) :
    JN w0 a0 v1 v2 b0 u1 u2 s (.slice (some ⟨g, 0, none⟩) (X.length + 1) cap) yv (X ++ [u]) Y (w2.setCell ⟨w0.heap.size + 1 + 1 + 1, 1, none⟩ (.slice (some ⟨g, 0, none⟩) (X.length + 1) cap)) ∧ Three w2 (w0.heap.size + 1 + 1 + 1) s xv yv ∧ Below w0.heap.size w0 w2 ∧ Three w2 w0.heap.size a0 v1 v2 ∧ Three w2 (w0.heap.size + 1) b0 u1 u2 := by
  have ht := J.top
  have hk : Kept (fun a => xv.ownBlock = some a) w w2 := back_own hd
  have hb2 : Below (w0.heap.size + 4) w w2 := hk.below (fun k h => (J.rx.lt k h).1) ht
  have hry := own_keep J.ry hk (fun a h1 h2 => by
    rcases owns_ne J.rx J.ry (by decide) with h3 | h3
    · rw [h3] at h1; cases h1
    · exact h3 (h1.trans h2.symm))
  have tg2 := J.tg.below hb2 (by omega)
  have k2 : Kept (fun a => a = w0.heap.size + 1 + 1 + 1) w2 (w2.setCell ⟨w0.heap.size + 1 + 1 + 1, 1, none⟩ (.slice (some ⟨g, 0, none⟩) (X.length + 1) cap)) := (Kept.refl (fun a => a = w0.heap.size + 1 + 1 + 1) w2).setCell (show (⟨w0.heap.size + 1 + 1 + 1, _, none⟩ : Addr).block = w0.heap.size + 1 + 1 + 1 from rfl) _
  have b3 : Below (w0.heap.size + 1 + 1 + 1) w2 (w2.setCell ⟨w0.heap.size + 1 + 1 + 1, 1, none⟩ (.slice (some ⟨g, 0, none⟩) (X.length + 1) cap)) := k2.below (fun k h => by omega) (by have := hb2.size; omega)
  have far : ∀ {e : TypeId} {v : Value} {n : Nat} {xs : List Value}, w2.ownsRow (w0.heap.size + 4) e 1 v n xs → ∀ a, v.ownBlock = some a → ¬ a = w0.heap.size + 1 + 1 + 1 := fun h a h1 h2 => by
    have := (h.lt a h1).1; omega
  refine ⟨⟨(J.ta.below hb2 (by omega)).below b3 (by omega), (J.tb.below hb2 (by omega)).below b3 (by omega), (J.tr.below hb2 (by omega)).below b3 (by omega), tg2.set1 _, ?_, own_keep hry k2 (far hry), (J.bl.trans (hb2.mono (by omega))).trans (b3.mono (by omega)), by have := hb2.size; simp; omega⟩, tg2, J.bl.trans (hb2.mono (by omega)), J.ta.below hb2 (by omega), J.tb.below hb2 (by omega)⟩
  rw [List.length_append]
  exact own_keep hown k2 (far hown)
theorem JN.grow2 (J : JN w0 a0 v1 v2 b0 u1 u2 s xv yv X Y w) {g cap : Nat} {w2 : World} {u : Value}
    (hown : w2.ownsRow (w0.heap.size + 4) 9 1 (.slice (some ⟨g, 0, none⟩) (Y.length + 1) cap) (Y.length + 1) (Y ++ [u])) (hd : (yv.ownBlock = some g ∧ w.grownBy w2 (some g)) ∨ (g = w.heap.size ∧ w.grownBy w2 none)) :
    JN w0 a0 v1 v2 b0 u1 u2 s xv (.slice (some ⟨g, 0, none⟩) (Y.length + 1) cap) X (Y ++ [u]) (w2.setCell ⟨w0.heap.size + 1 + 1 + 1, 2, none⟩ (.slice (some ⟨g, 0, none⟩) (Y.length + 1) cap)) ∧ Three w2 (w0.heap.size + 1 + 1 + 1) s xv yv ∧ Below w0.heap.size w0 w2 ∧ Three w2 w0.heap.size a0 v1 v2 ∧ Three w2 (w0.heap.size + 1) b0 u1 u2 := by
  have ht := J.top
  have hk : Kept (fun a => yv.ownBlock = some a) w w2 := back_own hd
  have hb2 : Below (w0.heap.size + 4) w w2 := hk.below (fun k h => (J.ry.lt k h).1) ht
  have hrx := own_keep J.rx hk (fun a h1 h2 => by
    rcases owns_ne J.ry J.rx (by decide) with h3 | h3
    · rw [h3] at h1; cases h1
    · exact h3 (h1.trans h2.symm))
  have tg2 := J.tg.below hb2 (by omega)
  have k2 : Kept (fun a => a = w0.heap.size + 1 + 1 + 1) w2 (w2.setCell ⟨w0.heap.size + 1 + 1 + 1, 2, none⟩ (.slice (some ⟨g, 0, none⟩) (Y.length + 1) cap)) := (Kept.refl (fun a => a = w0.heap.size + 1 + 1 + 1) w2).setCell (show (⟨w0.heap.size + 1 + 1 + 1, _, none⟩ : Addr).block = w0.heap.size + 1 + 1 + 1 from rfl) _
  have b3 : Below (w0.heap.size + 1 + 1 + 1) w2 (w2.setCell ⟨w0.heap.size + 1 + 1 + 1, 2, none⟩ (.slice (some ⟨g, 0, none⟩) (Y.length + 1) cap)) := k2.below (fun k h => by omega) (by have := hb2.size; omega)
  have far : ∀ {e : TypeId} {v : Value} {n : Nat} {xs : List Value}, w2.ownsRow (w0.heap.size + 4) e 1 v n xs → ∀ a, v.ownBlock = some a → ¬ a = w0.heap.size + 1 + 1 + 1 := fun h a h1 h2 => by
    have := (h.lt a h1).1; omega
  refine ⟨⟨(J.ta.below hb2 (by omega)).below b3 (by omega), (J.tb.below hb2 (by omega)).below b3 (by omega), (J.tr.below hb2 (by omega)).below b3 (by omega), tg2.set2 _, own_keep hrx k2 (far hrx), ?_, (J.bl.trans (hb2.mono (by omega))).trans (b3.mono (by omega)), by have := hb2.size; simp; omega⟩, tg2, J.bl.trans (hb2.mono (by omega)), J.ta.below hb2 (by omega), J.tb.below hb2 (by omega)⟩
  rw [List.length_append]
  exact own_keep hown k2 (far hown)
end

end Go.Proofs.YtopihgmemnokkaaGreat

namespace Go.Proofs.YtopihgmemnokkaaGreat
open Go.RowKit

theorem rdB {w0 w : World} (h : Below w0.heap.size w0 w) {a : Addr} {v : Value} (hc : w0.cell? a = some v) : w.cell? a = some v := by
  have hb := World.block_lt_of_cell? _ _ hc
  unfold World.cell? at *
  rw [h.block a.block hb]; exact hc
def XR (f : Nat → Nat) (n : Nat) : List Value := (List.range n).map fun i => Value.int .i64 (f i : Nat)
def YR (b : ByteArray) (c : Nat → ByteArray) (n : Nat) : List Value := (List.range n).map fun i => Value.string (b ++ c i)
theorem XR_succ (f : Nat → Nat) (n : Nat) : XR f (n + 1) = XR f n ++ [Value.int .i64 (f n : Nat)] := by simp [XR, List.range_succ]
theorem YR_succ (b : ByteArray) (c : Nat → ByteArray) (n : Nat) : YR b c (n + 1) = YR b c n ++ [Value.string (b ++ c n)] := by simp [YR, List.range_succ]
theorem XR_len (f : Nat → Nat) (n : Nat) : (XR f n).length = n := by simp [XR]
theorem YR_len (b : ByteArray) (c : Nat → ByteArray) (n : Nat) : (YR b c n).length = n := by simp [YR]
theorem three_new (w : World) (x y z : Value) {b : Nat} (hb : b = w.heap.size) : Three (w.alloc (.cells #[x, y, z] 209)) b x y z := by
  subst hb
  show (w.heap.push _)[w.heap.size]? = _
  simp
theorem groveSize : (Tryz.prog.info? 209).map (·.size) = some 3 := by kernel_rfl
theorem jn_new (w : World) (a0 v1 v2 b0 u1 u2 s : Value) :
    JN w a0 v1 v2 b0 u1 u2 s (.slice none 0 0) (.slice none 0 0) [] [] ((((w.alloc (.cells #[a0, v1, v2] 209)).alloc (.cells #[b0, u1, u2] 209)).alloc (.cells #[.int .i64 0, .slice none 0 0, .slice none 0 0] 209)).alloc (.cells #[s, .slice none 0 0, .slice none 0 0] 209)) := by
  have b0' : Below w.heap.size w (w.alloc (.cells #[a0, v1, v2] 209)) := (Below.refl _ _).alloc (Nat.le_refl _) _
  have ba : ∀ (w : World) (o : Obj), Below w.heap.size w (w.alloc o) := fun w o => (Below.refl _ _).alloc (Nat.le_refl _) o
  refine ⟨?_, ?_, ?_, ?_, ⟨rfl, .inl ⟨rfl, rfl⟩⟩, ⟨rfl, .inl ⟨rfl, rfl⟩⟩, ((b0'.alloc (by simp) _).alloc (by simp; omega) _).alloc (by simp; omega) _, by simp⟩
  · exact (((three_new w a0 v1 v2 rfl).below (ba _ _) (by simp)).below (ba _ _) (by simp; omega)).below (ba _ _) (by simp; omega)
  · exact ((three_new _ b0 u1 u2 (by simp)).below (ba _ _) (by simp)).below (ba _ _) (by simp <;> omega)
  · exact (three_new _ _ _ _ (by simp)).below (ba _ _) (by simp)
  · exact three_new _ _ _ _ (by simp)
theorem Tryz.infoSt : (Tryz.prog.info? 9).map (fun i => (i.zero, i.size, i.bytes)) = some (some (.string ByteArray.empty), 1, 16) := by kernel_rfl

set_option maxRecDepth 100000 in
set_option maxHeartbeats 8000000 in
theorem joined_rows (n m : Nat) (fa fb : Nat → Nat) (ca cb : Nat → ByteArray) (ga gc ha hc k1 k2 k3 k4 : Nat) (wa wb : Nat) (w : World) (hn : n ≤ 100000) (hm : m ≤ 100000) (hwa : wa ≤ 1000000) (hwb : wb ≤ 1000000)
    (A1' : ∀ i, i < n → w.cell? ⟨ga, i, none⟩ = some (.int .i64 (fa i : Nat))) (A2' : ∀ i, i < n → w.cell? ⟨gc, i, none⟩ = some (.string (ca i))) (A3' : ∀ i, i < n → (ca i).size ≤ 100000)
    (B1' : ∀ i, i < m → w.cell? ⟨ha, i, none⟩ = some (.int .i64 (fb i : Nat))) (B2' : ∀ i, i < m → w.cell? ⟨hc, i, none⟩ = some (.string (cb i))) (B3' : ∀ i, i < m → (cb i).size ≤ 100000) :
    Calls Tryz.prog 137 #[.agg #[.int .i64 (wa : Nat), .slice (some ⟨ga, 0, none⟩) n k1, .slice (some ⟨gc, 0, none⟩) n k2], .agg #[.int .i64 (wb : Nat), .slice (some ⟨ha, 0, none⟩) m k3, .slice (some ⟨hc, 0, none⟩) m k4]] w fun e w' => ∃ xv yv, e = .returned (.agg #[.int .i64 ((wa + wb : Nat) : Int), xv, yv]) ∧
      w'.ownsRow (w.heap.size + 4) 3 1 xv (n + m) (XR fa n ++ XR fb m) ∧ w'.ownsRow (w.heap.size + 4) 9 1 yv (n + m) (YR ⟨#[48]⟩ ca n ++ YR ⟨#[49]⟩ cb m) ∧ Below w.heap.size w w' := by
  obtain ⟨i0, hi, hz0, hz1, hz2⟩ := info_parts Tryz.infoSt
  obtain ⟨j0, hj, hy0, hy1, hy2⟩ := info_parts Tryz.info3
  have A1 : Hid (∀ i, i < n → w.cell? ⟨ga, i, none⟩ = some (.int .i64 (fa i : Nat))) := A1'
  have A2 : Hid (∀ i, i < n → w.cell? ⟨gc, i, none⟩ = some (.string (ca i))) := A2'
  have A3 : Hid (∀ i, i < n → (ca i).size ≤ 100000) := A3'
  have B1 : Hid (∀ i, i < m → w.cell? ⟨ha, i, none⟩ = some (.int .i64 (fb i : Nat))) := B1'
  have B2 : Hid (∀ i, i < m → w.cell? ⟨hc, i, none⟩ = some (.string (cb i))) := B2'
  have B3 : Hid (∀ i, i < m → (cb i).size ≤ 100000) := B3'
  clear A1' A2' A3' B1' B2' B3'
  go_enter Tryz.func137, Tryz.ntmps137
  go_wp2
  go_loopw [6] (fun iv wr => ∃ p : Nat, p ≤ n ∧ iv = .int .i64 p ∧ ∃ xv yv, JN w (.int .i64 (wa : Nat)) (.slice (some ⟨ga, 0, none⟩) n k1) (.slice (some ⟨gc, 0, none⟩) n k2) (.int .i64 (wb : Nat)) (.slice (some ⟨ha, 0, none⟩) m k3) (.slice (some ⟨hc, 0, none⟩) m k4) (.int .i64 ((wa : Int) + (wb : Int))) xv yv (XR fa p) (YR ⟨#[48]⟩ ca p) wr) (fun iv _ => n - (intOf iv).toNat)
  case atStart => exact ⟨0, by omega, rfl, _, _, jn_new w _ _ _ _ _ _ _⟩
  case round =>
    obtain ⟨p, hp, rfl, xv, yv, J⟩ := hrel
    have HLX : Hid ((XR fa p).length = p) := XR_len fa p
    have HLY : Hid ((YR ⟨#[48]⟩ ca p).length = p) := YR_len ⟨#[48]⟩ ca p
    have c1 := J.ta.cell 1
    simp only [List.getElem?_toArray, List.getElem?_cons_succ, List.getElem?_cons_zero] at c1
    by_cases hlt : p < n
    · have hli : (p : Int) < (n : Int) := by omega
      have A1p := A1.out p hlt
      have A2p := A2.out p hlt
      have A3p := A3.out p hlt
      have XS' := XR_succ fa p
      have YS' := YR_succ ⟨#[48]⟩ ca p
      have XS : Hid (XR fa (p + 1) = XR fa p ++ [Value.int .i64 (fa p : Nat)]) := XS'
      have YS : Hid (YR ⟨#[48]⟩ ca (p + 1) = YR ⟨#[48]⟩ ca p ++ [Value.string (⟨#[48]⟩ ++ ca p)]) := YS'
      clear XS' YS'
      generalize hXg : XR fa p = X at *
      generalize hYg : YR ⟨#[48]⟩ ca p = Y at *
      clear hXg hYg
      have hxb : X.length ≤ 100000 := by rw [HLX.out]; omega
      have hyb : Y.length ≤ 100000 := by rw [HLY.out]; omega
      go_wp2_with fail
      clear c1
      have HA2 : Hid (w.cell? ⟨gc, p, none⟩ = some (.string (ca p))) := A2p
      clear A2p
      have SJ : Hid (∀ w', Below w.heap.size w w' → ∀ q0, Three w' w.heap.size q0 (.slice (some ⟨ga, 0, none⟩) n k1) (.slice (some ⟨gc, 0, none⟩) n k2) → (w'.cell? ⟨w.heap.size, 1, none⟩ = some (.slice (some ⟨ga, 0, none⟩) n k1) ∧ w'.cell? ⟨ga, p, none⟩ = some (.int .i64 (fa p : Nat)))) := fun w' hb q0 h => ⟨by rw [h.cell 1]; rfl, rdB hb A1p⟩
      have hS0 : wr.drew.cell? ⟨w.heap.size, 1, none⟩ = some (.slice (some ⟨ga, 0, none⟩) n k1) ∧ wr.drew.cell? ⟨ga, p, none⟩ = some (.int .i64 (fa p : Nat)) := SJ.out wr J.bl _ J.ta
      have g1 := J.tg.cell 1
      simp only [List.getElem?_toArray, List.getElem?_cons_succ, List.getElem?_cons_zero] at g1
      have J3 := J.below (w' := (wr.alloc (.cells #[.int .i64 (fa p : Nat)] 3)).drew) (below_drewN ((Below.refl wr.heap.size wr).alloc (Nat.le_refl _) _) 1)
      have t2 := SJ.out _ J3.bl _ J3.ta
      have g3 := J3.tg.cell 1
      simp only [List.getElem?_toArray, List.getElem?_cons_succ, List.getElem?_cons_zero] at g3
      have hcn1 : ∀ j x, [Value.int .i64 (fa p : Nat)][j]? = some x → (wr.alloc (.cells #[.int .i64 (fa p : Nat)] 3)).drew.cell? ((⟨wr.heap.size, 0, none⟩ : Addr).add j) = some x := cell_one_new wr _ _
      clear J
      refine wp_region_held_drew (S := fun w' => w'.cell? ⟨w.heap.size, 1, none⟩ = some (.slice (some ⟨ga, 0, none⟩) n k1) ∧ w'.cell? ⟨ga, p, none⟩ = some (.int .i64 (fa p : Nat))) (by kernel_rfl) hS0 (fun s0 => ?_)
      clear s0
      refine wpAnyH_take (i := 0) (v := ?v5a_0) rfl (by kernel_rfl) (by kernel_rfl) (by kernel_rfl) (fun _ _ _ h => h) (Or.inl ⟨by rfl, ?h5a_0⟩) hS0 ?_
      case h5a_0 => intro wq hS; first | (go_simp; done) | (go_simp; with_reducible rfl) | (go_simp; rw [if_neg (by omega)]) | (go_simp; omega)
      refine wpAnyH_take (i := 2) (v := ?v5a_2) rfl (by kernel_rfl) (by kernel_rfl) (by kernel_rfl) (fun _ _ _ h => h) (Or.inl ⟨by rfl, ?h5a_2⟩) hS0 ?_
      case h5a_2 => intro wq hS; first | (go_simp; done) | (go_simp; with_reducible rfl) | (go_simp; rw [if_neg (by omega)]) | (go_simp; omega)
      refine wpAnyH_take (i := 3) (v := ?v5a_3) rfl (by kernel_rfl) (by kernel_rfl) (by kernel_rfl) (fun _ _ _ h => h) (Or.inl ⟨by rfl, ?h5a_3⟩) hS0 ?_
      case h5a_3 => intro wq hS; first | (go_simp; done) | (go_simp; with_reducible rfl) | (go_simp; rw [if_neg (by omega)]) | (go_simp; omega)
      refine wpAnyH_take (i := 4) (v := ?v5a_4) rfl (by kernel_rfl) (by kernel_rfl) (by kernel_rfl) (fun _ _ _ h => h) (Or.inl ⟨by rfl, ?h5a_4⟩) hS0 ?_
      case h5a_4 => intro wq hS; first | (go_simp; done) | (go_simp; with_reducible rfl) | (go_simp; rw [if_neg (by omega)]) | (go_simp; omega)
      refine wpAnyH_take (i := 5) (v := ?v5a_5) rfl (by kernel_rfl) (by kernel_rfl) (by kernel_rfl) (fun _ _ _ h => h) (Or.inl ⟨by rfl, ?h5a_5⟩) hS0 ?_
      case h5a_5 => intro wq hS; first | (go_simp; done) | (go_simp; with_reducible rfl) | (go_simp; rw [if_neg (by omega)]) | (go_simp; omega)
      refine wpAnyH_take (i := 6) (v := ?v5a_6) rfl (by kernel_rfl) (by kernel_rfl) (by kernel_rfl) (fun _ _ _ h => h) (Or.inl ⟨by rfl, ?h5a_6⟩) hS0 ?_
      case h5a_6 => intro wq hS; first | (go_simp; done) | (go_simp; with_reducible rfl) | (go_simp; rw [if_neg (by omega)]) | (go_simp; omega)
      refine wpAnyH_ready (rs := [1, 7]) (by kernel_rfl) (by simp) ?_
      refine AllReadyH.cons rfl (fun K hK => ?_) (AllReadyH.cons rfl (fun K hK => ?_) AllReadyH.nil)
      focus
        go_simp
        refine hK.out _ _ hS0 (fun s1 => ?_)
        clear s1 hK K
        refine wpAnyH_ready (rs := [7]) (by kernel_rfl) (by simp) ?_
        refine AllReadyH.cons rfl (fun K hK => ?_) AllReadyH.nil
        go_simp
        refine hK.out _ _ t2 (fun s2 => ?_)
        clear s2
      rotate_left
      focus
        go_simp
        refine hK.out _ _ t2 (fun s2 => ?_)
        clear s2 hK K
        refine wpAnyH_ready (rs := [1]) (by kernel_rfl) (by simp) ?_
        refine AllReadyH.cons rfl (fun K hK => ?_) AllReadyH.nil
        go_simp
        refine hK.out _ _ t2 (fun s2 => ?_)
        clear s2
      all_goals
        clear hK K g1 hS0
        have hwz : Hid ((wr.alloc (.cells #[.int .i64 (fa p : Nat)] 3)).drew.heap.size = wr.heap.size + 1) := by show _ = _; simp
        generalize (wr.alloc (.cells #[.int .i64 (fa p : Nat)] 3)).drew = w3 at *
        refine wpAnyH_ready (rs := [8]) (by kernel_rfl) (by simp) ?_
        refine AllReadyH.cons rfl (fun K hK => ?_) AllReadyH.nil
        rw [if_pos (by rfl)]
        refine wp_append_two w3 (.tmp 22) (.tmp 28) 30 rfl (w.heap.size + 4) 3 j0 (.int .i64 0) 8 Tryz.underlying30 hj hy0 hy1 hy2 rfl xv X.length X rfl J3.rx ⟨wr.heap.size, 0, none⟩ 1 (.int .i64 (fa p : Nat)) rfl hcn1 rfl (by unfold maxLen; omega) (by omega) J3.top ?_
        intro g cap w4 hown4 hg4 hd4
        obtain ⟨J5, T4, b4, ta4, tb4⟩ := J3.grow1 hown4 hd4
        have t4 := SJ.out _ b4 _ ta4
        have t5 := SJ.out _ J5.bl _ J5.ta
        have g4 := T4.cell 1
        simp only [List.getElem?_toArray, List.getElem?_cons_succ, List.getElem?_cons_zero] at g4
        have f4 := T4.frozen 1
        refine hK.out _ _ t4 (fun s4 => ?_)
        clear s4 hK K hd4 hown4 hcn1 t2 g3 J3 b4 ta4 tb4 T4
        refine wpAnyH_take (i := 9) (v := ?v5a_9) rfl (by kernel_rfl) (by kernel_rfl) (by kernel_rfl) (fun _ _ _ h => h) (Or.inl ⟨by rfl, ?h5a_9⟩) t4 ?_
        case h5a_9 => intro wq hS; first | (go_simp; done) | (go_simp; with_reducible rfl) | (go_simp; rw [if_neg (by omega)]) | (go_simp; omega)
        refine wpAnyH_ready (rs := [10]) (by kernel_rfl) (by simp) ?_
        refine AllReadyH.cons rfl (fun K hK => ?_) AllReadyH.nil
        go_simp
        refine hK.out _ _ t5 (fun s5 => ?_)
        clear s5 hK K t4 t5 g4 f4
        generalize w4.setCell ⟨w.heap.size + 1 + 1 + 1, 1, none⟩ (.slice (some ⟨g, 0, none⟩) (X.length + 1) cap) = w5 at *
        refine wpAnyH_done (by kernel_rfl) ?_ _
      all_goals
        clear SJ A1p
        have A2p := HA2.out
        go_wp2_with fail
        clear hxb
        generalize hXg : X ++ [Value.int IntKind.i64 ((fa p : Nat) : Int)] = X2 at *
        generalize Value.slice (some ⟨g, 0, none⟩) (X.length + 1) cap = xv2 at *
        have HXE : Hid (X ++ [Value.int IntKind.i64 ((fa p : Nat) : Int)] = X2) := hXg
        clear hXg
        have J := J5
        clear J5
        clear hg4 hwz HA2
        generalize w5 = wr at *
        have SJ : Hid (∀ w', Below w.heap.size w w' → ∀ q0, Three w' w.heap.size q0 (.slice (some ⟨ga, 0, none⟩) n k1) (.slice (some ⟨gc, 0, none⟩) n k2) → (w'.cell? ⟨w.heap.size, 2, none⟩ = some (.slice (some ⟨gc, 0, none⟩) n k2) ∧ w'.cell? ⟨gc, p, none⟩ = some (.string (ca p)))) := fun w' hb q0 h => ⟨by rw [h.cell 2]; rfl, rdB hb A2p⟩
        have hS0 : wr.drew.cell? ⟨w.heap.size, 2, none⟩ = some (.slice (some ⟨gc, 0, none⟩) n k2) ∧ wr.drew.cell? ⟨gc, p, none⟩ = some (.string (ca p)) := SJ.out wr J.bl _ J.ta
        have g1 := J.tg.cell 2
        simp only [List.getElem?_toArray, List.getElem?_cons_succ, List.getElem?_cons_zero] at g1
        have J3 := J.below (w' := (wr.alloc (.cells #[.string (⟨#[48]⟩ ++ ca p)] 9)).drew) (below_drewN ((Below.refl wr.heap.size wr).alloc (Nat.le_refl _) _) 1)
        have t2 := SJ.out _ J3.bl _ J3.ta
        have g3 := J3.tg.cell 2
        simp only [List.getElem?_toArray, List.getElem?_cons_succ, List.getElem?_cons_zero] at g3
        have hcn1 : ∀ j x, [Value.string (⟨#[48]⟩ ++ ca p)][j]? = some x → (wr.alloc (.cells #[.string (⟨#[48]⟩ ++ ca p)] 9)).drew.cell? ((⟨wr.heap.size, 0, none⟩ : Addr).add j) = some x := cell_one_new wr _ _
        clear J
        refine wp_region_held_drew (S := fun w' => w'.cell? ⟨w.heap.size, 2, none⟩ = some (.slice (some ⟨gc, 0, none⟩) n k2) ∧ w'.cell? ⟨gc, p, none⟩ = some (.string (ca p))) (by kernel_rfl) hS0 (fun s0 => ?_)
        clear s0
        refine wpAnyH_take (i := 0) (v := ?v6a_0) rfl (by kernel_rfl) (by kernel_rfl) (by kernel_rfl) (fun _ _ _ h => h) (Or.inl ⟨by rfl, ?h6a_0⟩) hS0 ?_
        case h6a_0 => intro wq hS; first | (go_simp; done) | (go_simp; with_reducible rfl) | (go_simp; rw [if_neg (by omega)]) | (go_simp; omega)
        refine wpAnyH_take (i := 2) (v := ?v6a_2) rfl (by kernel_rfl) (by kernel_rfl) (by kernel_rfl) (fun _ _ _ h => h) (Or.inl ⟨by rfl, ?h6a_2⟩) hS0 ?_
        case h6a_2 => intro wq hS; first | (go_simp; done) | (go_simp; with_reducible rfl) | (go_simp; rw [if_neg (by omega)]) | (go_simp; omega)
        refine wpAnyH_take (i := 3) (v := ?v6a_3) rfl (by kernel_rfl) (by kernel_rfl) (by kernel_rfl) (fun _ _ _ h => h) (Or.inl ⟨by rfl, ?h6a_3⟩) hS0 ?_
        case h6a_3 => intro wq hS; first | (go_simp; done) | (go_simp; with_reducible rfl) | (go_simp; rw [if_neg (by omega)]) | (go_simp; omega)
        refine wpAnyH_take (i := 4) (v := ?v6a_4) rfl (by kernel_rfl) (by kernel_rfl) (by kernel_rfl) (fun _ _ _ h => h) (Or.inl ⟨by rfl, ?h6a_4⟩) hS0 ?_
        case h6a_4 => intro wq hS; first | (go_simp; done) | (go_simp; with_reducible rfl) | (go_simp; rw [if_neg (by omega)]) | (go_simp; omega)
        refine wpAnyH_take (i := 5) (v := ?v6a_5) rfl (by kernel_rfl) (by kernel_rfl) (by kernel_rfl) (fun _ _ _ h => h) (Or.inl ⟨by rfl, ?h6a_5⟩) hS0 ?_
        case h6a_5 => intro wq hS; first | (go_simp; done) | (go_simp; with_reducible rfl) | (go_simp; rw [if_neg (by omega)]) | (go_simp; omega)
        refine wpAnyH_take (i := 6) (v := ?v6a_6) rfl (by kernel_rfl) (by kernel_rfl) (by kernel_rfl) (fun _ _ _ h => h) (Or.inl ⟨by rfl, ?h6a_6⟩) hS0 ?_
        case h6a_6 => intro wq hS; first | (go_simp; done) | (go_simp; with_reducible rfl) | (go_simp; rw [if_neg (by omega)]) | (go_simp; omega)
        refine wpAnyH_take (i := 7) (v := ?v6a_7) rfl (by kernel_rfl) (by kernel_rfl) (by kernel_rfl) (fun _ _ _ h => h) (Or.inl ⟨by rfl, ?h6a_7⟩) hS0 ?_
        case h6a_7 => intro wq hS; first | (go_simp; done) | (go_simp; with_reducible rfl) | (go_simp; rw [if_neg (by omega)]) | (go_simp; omega)
        refine wpAnyH_ready (rs := [1, 8]) (by kernel_rfl) (by simp) ?_
        refine AllReadyH.cons rfl (fun K hK => ?_) (AllReadyH.cons rfl (fun K hK => ?_) AllReadyH.nil)
        focus
          go_simp
          refine hK.out _ _ hS0 (fun s1 => ?_)
          clear s1 hK K
          refine wpAnyH_ready (rs := [8]) (by kernel_rfl) (by simp) ?_
          refine AllReadyH.cons rfl (fun K hK => ?_) AllReadyH.nil
          go_simp
          refine hK.out _ _ t2 (fun s2 => ?_)
          clear s2
        rotate_left
        focus
          go_simp
          refine hK.out _ _ t2 (fun s2 => ?_)
          clear s2 hK K
          refine wpAnyH_ready (rs := [1]) (by kernel_rfl) (by simp) ?_
          refine AllReadyH.cons rfl (fun K hK => ?_) AllReadyH.nil
          go_simp
          refine hK.out _ _ t2 (fun s2 => ?_)
          clear s2
        all_goals
          clear hK K g1 hS0
          have hwz : Hid ((wr.alloc (.cells #[.string (⟨#[48]⟩ ++ ca p)] 9)).drew.heap.size = wr.heap.size + 1) := by show _ = _; simp
          generalize (wr.alloc (.cells #[.string (⟨#[48]⟩ ++ ca p)] 9)).drew = w3 at *
          refine wpAnyH_ready (rs := [9]) (by kernel_rfl) (by simp) ?_
          refine AllReadyH.cons rfl (fun K hK => ?_) AllReadyH.nil
          rw [if_pos (by rfl)]
          refine wp_append_two w3 (.tmp 32) (.tmp 39) 31 rfl (w.heap.size + 4) 9 i0 (.string ByteArray.empty) 16 Tryz.underlying31 hi hz0 hz1 hz2 rfl yv Y.length Y rfl J3.ry ⟨wr.heap.size, 0, none⟩ 1 (.string (⟨#[48]⟩ ++ ca p)) rfl hcn1 rfl (by unfold maxLen; omega) (by omega) J3.top ?_
          intro g cap w4 hown4 hg4 hd4
          obtain ⟨J5, T4, b4, ta4, tb4⟩ := J3.grow2 hown4 hd4
          have t4 := SJ.out _ b4 _ ta4
          have t5 := SJ.out _ J5.bl _ J5.ta
          have g4 := T4.cell 2
          simp only [List.getElem?_toArray, List.getElem?_cons_succ, List.getElem?_cons_zero] at g4
          have f4 := T4.frozen 2
          refine hK.out _ _ t4 (fun s4 => ?_)
          clear s4 hK K hd4 hown4 hcn1 t2 g3 J3 b4 ta4 tb4 T4
          refine wpAnyH_take (i := 10) (v := ?v6a_10) rfl (by kernel_rfl) (by kernel_rfl) (by kernel_rfl) (fun _ _ _ h => h) (Or.inl ⟨by rfl, ?h6a_10⟩) t4 ?_
          case h6a_10 => intro wq hS; first | (go_simp; done) | (go_simp; with_reducible rfl) | (go_simp; rw [if_neg (by omega)]) | (go_simp; omega)
          refine wpAnyH_ready (rs := [11]) (by kernel_rfl) (by simp) ?_
          refine AllReadyH.cons rfl (fun K hK => ?_) AllReadyH.nil
          go_simp
          refine hK.out _ _ t5 (fun s5 => ?_)
          clear s5 hK K t4 t5 g4 f4
          generalize w4.setCell ⟨w.heap.size + 1 + 1 + 1, 2, none⟩ (.slice (some ⟨g, 0, none⟩) (Y.length + 1) cap) = w5 at *
          refine wpAnyH_done (by kernel_rfl) ?_ _
        all_goals
          clear SJ A2p hyb A3p
          go_wp2
          exact ⟨⟨p + 1, by omega, by go_num, _, _, by rw [XS.out, YS.out]; exact J5⟩, by simp [intOf]; omega⟩
    · have hp' : n = p := by omega
      subst hp'
      go_wp2
      clear A1 A2 A3 c1 HLX HLY
      go_loopw [7] (fun iv wr => ∃ p : Nat, p ≤ m ∧ iv = .int .i64 p ∧ ∃ xv yv, JN w (.int .i64 (wa : Nat)) (.slice (some ⟨ga, 0, none⟩) n k1) (.slice (some ⟨gc, 0, none⟩) n k2) (.int .i64 (wb : Nat)) (.slice (some ⟨ha, 0, none⟩) m k3) (.slice (some ⟨hc, 0, none⟩) m k4) (.int .i64 ((wa : Int) + (wb : Int))) xv yv (XR fa n ++ XR fb p) (YR ⟨#[48]⟩ ca n ++ YR ⟨#[49]⟩ cb p) wr) (fun iv _ => m - (intOf iv).toNat)
      case atStart => exact ⟨0, by omega, rfl, xv, yv, by rw [show XR fb 0 = [] from rfl, show YR ⟨#[49]⟩ cb 0 = [] from rfl, List.append_nil, List.append_nil]; exact J⟩
      case round =>
        clear J xv yv
        obtain ⟨p, hp, rfl, xv, yv, J⟩ := hrel
        have HLX : Hid ((XR fa n ++ XR fb p).length = n + p) := by show _ = _; rw [List.length_append, XR_len, XR_len]
        have HLY : Hid ((YR ⟨#[48]⟩ ca n ++ YR ⟨#[49]⟩ cb p).length = n + p) := by show _ = _; rw [List.length_append, YR_len, YR_len]
        have c1 := J.tb.cell 1
        simp only [List.getElem?_toArray, List.getElem?_cons_succ, List.getElem?_cons_zero] at c1
        by_cases hlt : p < m
        · have hli : (p : Int) < (m : Int) := by omega
          have B1p := B1.out p hlt
          have B2p := B2.out p hlt
          have B3p := B3.out p hlt
          have XS : Hid (XR fa n ++ XR fb (p + 1) = XR fa n ++ XR fb p ++ [Value.int .i64 (fb p : Nat)]) := by show _ = _; rw [XR_succ, List.append_assoc]
          have YS : Hid (YR ⟨#[48]⟩ ca n ++ YR ⟨#[49]⟩ cb (p + 1) = YR ⟨#[48]⟩ ca n ++ YR ⟨#[49]⟩ cb p ++ [Value.string (⟨#[49]⟩ ++ cb p)]) := by show _ = _; rw [YR_succ, List.append_assoc]
          generalize hXg : XR fa n ++ XR fb p = X at *
          generalize hYg : YR ⟨#[48]⟩ ca n ++ YR ⟨#[49]⟩ cb p = Y at *
          clear hXg hYg
          have hxb : X.length ≤ 200000 := by rw [HLX.out]; omega
          have hyb : Y.length ≤ 200000 := by rw [HLY.out]; omega
          go_wp2_with fail
          clear c1
          have HB2 : Hid (w.cell? ⟨hc, p, none⟩ = some (.string (cb p))) := B2p
          clear B2p
          have SJ : Hid (∀ w', Below w.heap.size w w' → ∀ q0, Three w' (w.heap.size + 1) q0 (.slice (some ⟨ha, 0, none⟩) m k3) (.slice (some ⟨hc, 0, none⟩) m k4) → (w'.cell? ⟨(w.heap.size + 1), 1, none⟩ = some (.slice (some ⟨ha, 0, none⟩) m k3) ∧ w'.cell? ⟨ha, p, none⟩ = some (.int .i64 (fb p : Nat)))) := fun w' hb q0 h => ⟨by rw [h.cell 1]; rfl, rdB hb B1p⟩
          have hS0 : wr.drew.cell? ⟨(w.heap.size + 1), 1, none⟩ = some (.slice (some ⟨ha, 0, none⟩) m k3) ∧ wr.drew.cell? ⟨ha, p, none⟩ = some (.int .i64 (fb p : Nat)) := SJ.out wr J.bl _ J.tb
          have g1 := J.tg.cell 1
          simp only [List.getElem?_toArray, List.getElem?_cons_succ, List.getElem?_cons_zero] at g1
          have J3 := J.below (w' := (wr.alloc (.cells #[.int .i64 (fb p : Nat)] 3)).drew) (below_drewN ((Below.refl wr.heap.size wr).alloc (Nat.le_refl _) _) 1)
          have t2 := SJ.out _ J3.bl _ J3.tb
          have g3 := J3.tg.cell 1
          simp only [List.getElem?_toArray, List.getElem?_cons_succ, List.getElem?_cons_zero] at g3
          have hcn1 : ∀ j x, [Value.int .i64 (fb p : Nat)][j]? = some x → (wr.alloc (.cells #[.int .i64 (fb p : Nat)] 3)).drew.cell? ((⟨wr.heap.size, 0, none⟩ : Addr).add j) = some x := cell_one_new wr _ _
          clear J
          refine wp_region_held_drew (S := fun w' => w'.cell? ⟨(w.heap.size + 1), 1, none⟩ = some (.slice (some ⟨ha, 0, none⟩) m k3) ∧ w'.cell? ⟨ha, p, none⟩ = some (.int .i64 (fb p : Nat))) (by kernel_rfl) hS0 (fun s0 => ?_)
          clear s0
          refine wpAnyH_take (i := 0) (v := ?v10b_0) rfl (by kernel_rfl) (by kernel_rfl) (by kernel_rfl) (fun _ _ _ h => h) (Or.inl ⟨by rfl, ?h10b_0⟩) hS0 ?_
          case h10b_0 => intro wq hS; first | (go_simp; done) | (go_simp; with_reducible rfl) | (go_simp; rw [if_neg (by omega)]) | (go_simp; omega)
          refine wpAnyH_take (i := 2) (v := ?v10b_2) rfl (by kernel_rfl) (by kernel_rfl) (by kernel_rfl) (fun _ _ _ h => h) (Or.inl ⟨by rfl, ?h10b_2⟩) hS0 ?_
          case h10b_2 => intro wq hS; first | (go_simp; done) | (go_simp; with_reducible rfl) | (go_simp; rw [if_neg (by omega)]) | (go_simp; omega)
          refine wpAnyH_take (i := 3) (v := ?v10b_3) rfl (by kernel_rfl) (by kernel_rfl) (by kernel_rfl) (fun _ _ _ h => h) (Or.inl ⟨by rfl, ?h10b_3⟩) hS0 ?_
          case h10b_3 => intro wq hS; first | (go_simp; done) | (go_simp; with_reducible rfl) | (go_simp; rw [if_neg (by omega)]) | (go_simp; omega)
          refine wpAnyH_take (i := 4) (v := ?v10b_4) rfl (by kernel_rfl) (by kernel_rfl) (by kernel_rfl) (fun _ _ _ h => h) (Or.inl ⟨by rfl, ?h10b_4⟩) hS0 ?_
          case h10b_4 => intro wq hS; first | (go_simp; done) | (go_simp; with_reducible rfl) | (go_simp; rw [if_neg (by omega)]) | (go_simp; omega)
          refine wpAnyH_take (i := 5) (v := ?v10b_5) rfl (by kernel_rfl) (by kernel_rfl) (by kernel_rfl) (fun _ _ _ h => h) (Or.inl ⟨by rfl, ?h10b_5⟩) hS0 ?_
          case h10b_5 => intro wq hS; first | (go_simp; done) | (go_simp; with_reducible rfl) | (go_simp; rw [if_neg (by omega)]) | (go_simp; omega)
          refine wpAnyH_take (i := 6) (v := ?v10b_6) rfl (by kernel_rfl) (by kernel_rfl) (by kernel_rfl) (fun _ _ _ h => h) (Or.inl ⟨by rfl, ?h10b_6⟩) hS0 ?_
          case h10b_6 => intro wq hS; first | (go_simp; done) | (go_simp; with_reducible rfl) | (go_simp; rw [if_neg (by omega)]) | (go_simp; omega)
          refine wpAnyH_ready (rs := [1, 7]) (by kernel_rfl) (by simp) ?_
          refine AllReadyH.cons rfl (fun K hK => ?_) (AllReadyH.cons rfl (fun K hK => ?_) AllReadyH.nil)
          focus
            go_simp
            refine hK.out _ _ hS0 (fun s1 => ?_)
            clear s1 hK K
            refine wpAnyH_ready (rs := [7]) (by kernel_rfl) (by simp) ?_
            refine AllReadyH.cons rfl (fun K hK => ?_) AllReadyH.nil
            go_simp
            refine hK.out _ _ t2 (fun s2 => ?_)
            clear s2
          rotate_left
          focus
            go_simp
            refine hK.out _ _ t2 (fun s2 => ?_)
            clear s2 hK K
            refine wpAnyH_ready (rs := [1]) (by kernel_rfl) (by simp) ?_
            refine AllReadyH.cons rfl (fun K hK => ?_) AllReadyH.nil
            go_simp
            refine hK.out _ _ t2 (fun s2 => ?_)
            clear s2
          all_goals
            clear hK K g1 hS0
            have hwz : Hid ((wr.alloc (.cells #[.int .i64 (fb p : Nat)] 3)).drew.heap.size = wr.heap.size + 1) := by show _ = _; simp
            generalize (wr.alloc (.cells #[.int .i64 (fb p : Nat)] 3)).drew = w3 at *
            refine wpAnyH_ready (rs := [8]) (by kernel_rfl) (by simp) ?_
            refine AllReadyH.cons rfl (fun K hK => ?_) AllReadyH.nil
            rw [if_pos (by rfl)]
            refine wp_append_two w3 (.tmp 50) (.tmp 56) 30 rfl (w.heap.size + 4) 3 j0 (.int .i64 0) 8 Tryz.underlying30 hj hy0 hy1 hy2 rfl xv X.length X rfl J3.rx ⟨wr.heap.size, 0, none⟩ 1 (.int .i64 (fb p : Nat)) rfl hcn1 rfl (by unfold maxLen; omega) (by omega) J3.top ?_
            intro g cap w4 hown4 hg4 hd4
            obtain ⟨J5, T4, b4, ta4, tb4⟩ := J3.grow1 hown4 hd4
            have t4 := SJ.out _ b4 _ tb4
            have t5 := SJ.out _ J5.bl _ J5.tb
            have g4 := T4.cell 1
            simp only [List.getElem?_toArray, List.getElem?_cons_succ, List.getElem?_cons_zero] at g4
            have f4 := T4.frozen 1
            refine hK.out _ _ t4 (fun s4 => ?_)
            clear s4 hK K hd4 hown4 hcn1 t2 g3 J3 b4 ta4 tb4 T4
            refine wpAnyH_take (i := 9) (v := ?v10b_9) rfl (by kernel_rfl) (by kernel_rfl) (by kernel_rfl) (fun _ _ _ h => h) (Or.inl ⟨by rfl, ?h10b_9⟩) t4 ?_
            case h10b_9 => intro wq hS; first | (go_simp; done) | (go_simp; with_reducible rfl) | (go_simp; rw [if_neg (by omega)]) | (go_simp; omega)
            refine wpAnyH_ready (rs := [10]) (by kernel_rfl) (by simp) ?_
            refine AllReadyH.cons rfl (fun K hK => ?_) AllReadyH.nil
            go_simp
            refine hK.out _ _ t5 (fun s5 => ?_)
            clear s5 hK K t4 t5 g4 f4
            generalize w4.setCell ⟨w.heap.size + 1 + 1 + 1, 1, none⟩ (.slice (some ⟨g, 0, none⟩) (X.length + 1) cap) = w5 at *
            refine wpAnyH_done (by kernel_rfl) ?_ _
          all_goals
            clear SJ B1p
            have B2p := HB2.out
            go_wp2_with fail
            clear hxb
            generalize hXg : X ++ [Value.int IntKind.i64 ((fb p : Nat) : Int)] = X2 at *
            generalize Value.slice (some ⟨g, 0, none⟩) (X.length + 1) cap = xv2 at *
            have HXE : Hid (X ++ [Value.int IntKind.i64 ((fb p : Nat) : Int)] = X2) := hXg
            clear hXg
            have J := J5
            clear J5
            clear hg4 hwz HB2
            generalize w5 = wr at *
            have SJ : Hid (∀ w', Below w.heap.size w w' → ∀ q0, Three w' (w.heap.size + 1) q0 (.slice (some ⟨ha, 0, none⟩) m k3) (.slice (some ⟨hc, 0, none⟩) m k4) → (w'.cell? ⟨(w.heap.size + 1), 2, none⟩ = some (.slice (some ⟨hc, 0, none⟩) m k4) ∧ w'.cell? ⟨hc, p, none⟩ = some (.string (cb p)))) := fun w' hb q0 h => ⟨by rw [h.cell 2]; rfl, rdB hb B2p⟩
            have hS0 : wr.drew.cell? ⟨(w.heap.size + 1), 2, none⟩ = some (.slice (some ⟨hc, 0, none⟩) m k4) ∧ wr.drew.cell? ⟨hc, p, none⟩ = some (.string (cb p)) := SJ.out wr J.bl _ J.tb
            have g1 := J.tg.cell 2
            simp only [List.getElem?_toArray, List.getElem?_cons_succ, List.getElem?_cons_zero] at g1
            have J3 := J.below (w' := (wr.alloc (.cells #[.string (⟨#[49]⟩ ++ cb p)] 9)).drew) (below_drewN ((Below.refl wr.heap.size wr).alloc (Nat.le_refl _) _) 1)
            have t2 := SJ.out _ J3.bl _ J3.tb
            have g3 := J3.tg.cell 2
            simp only [List.getElem?_toArray, List.getElem?_cons_succ, List.getElem?_cons_zero] at g3
            have hcn1 : ∀ j x, [Value.string (⟨#[49]⟩ ++ cb p)][j]? = some x → (wr.alloc (.cells #[.string (⟨#[49]⟩ ++ cb p)] 9)).drew.cell? ((⟨wr.heap.size, 0, none⟩ : Addr).add j) = some x := cell_one_new wr _ _
            clear J
            refine wp_region_held_drew (S := fun w' => w'.cell? ⟨(w.heap.size + 1), 2, none⟩ = some (.slice (some ⟨hc, 0, none⟩) m k4) ∧ w'.cell? ⟨hc, p, none⟩ = some (.string (cb p))) (by kernel_rfl) hS0 (fun s0 => ?_)
            clear s0
            refine wpAnyH_take (i := 0) (v := ?v11b_0) rfl (by kernel_rfl) (by kernel_rfl) (by kernel_rfl) (fun _ _ _ h => h) (Or.inl ⟨by rfl, ?h11b_0⟩) hS0 ?_
            case h11b_0 => intro wq hS; first | (go_simp; done) | (go_simp; with_reducible rfl) | (go_simp; rw [if_neg (by omega)]) | (go_simp; omega)
            refine wpAnyH_take (i := 2) (v := ?v11b_2) rfl (by kernel_rfl) (by kernel_rfl) (by kernel_rfl) (fun _ _ _ h => h) (Or.inl ⟨by rfl, ?h11b_2⟩) hS0 ?_
            case h11b_2 => intro wq hS; first | (go_simp; done) | (go_simp; with_reducible rfl) | (go_simp; rw [if_neg (by omega)]) | (go_simp; omega)
            refine wpAnyH_take (i := 3) (v := ?v11b_3) rfl (by kernel_rfl) (by kernel_rfl) (by kernel_rfl) (fun _ _ _ h => h) (Or.inl ⟨by rfl, ?h11b_3⟩) hS0 ?_
            case h11b_3 => intro wq hS; first | (go_simp; done) | (go_simp; with_reducible rfl) | (go_simp; rw [if_neg (by omega)]) | (go_simp; omega)
            refine wpAnyH_take (i := 4) (v := ?v11b_4) rfl (by kernel_rfl) (by kernel_rfl) (by kernel_rfl) (fun _ _ _ h => h) (Or.inl ⟨by rfl, ?h11b_4⟩) hS0 ?_
            case h11b_4 => intro wq hS; first | (go_simp; done) | (go_simp; with_reducible rfl) | (go_simp; rw [if_neg (by omega)]) | (go_simp; omega)
            refine wpAnyH_take (i := 5) (v := ?v11b_5) rfl (by kernel_rfl) (by kernel_rfl) (by kernel_rfl) (fun _ _ _ h => h) (Or.inl ⟨by rfl, ?h11b_5⟩) hS0 ?_
            case h11b_5 => intro wq hS; first | (go_simp; done) | (go_simp; with_reducible rfl) | (go_simp; rw [if_neg (by omega)]) | (go_simp; omega)
            refine wpAnyH_take (i := 6) (v := ?v11b_6) rfl (by kernel_rfl) (by kernel_rfl) (by kernel_rfl) (fun _ _ _ h => h) (Or.inl ⟨by rfl, ?h11b_6⟩) hS0 ?_
            case h11b_6 => intro wq hS; first | (go_simp; done) | (go_simp; with_reducible rfl) | (go_simp; rw [if_neg (by omega)]) | (go_simp; omega)
            refine wpAnyH_take (i := 7) (v := ?v11b_7) rfl (by kernel_rfl) (by kernel_rfl) (by kernel_rfl) (fun _ _ _ h => h) (Or.inl ⟨by rfl, ?h11b_7⟩) hS0 ?_
            case h11b_7 => intro wq hS; first | (go_simp; done) | (go_simp; with_reducible rfl) | (go_simp; rw [if_neg (by omega)]) | (go_simp; omega)
            refine wpAnyH_ready (rs := [1, 8]) (by kernel_rfl) (by simp) ?_
            refine AllReadyH.cons rfl (fun K hK => ?_) (AllReadyH.cons rfl (fun K hK => ?_) AllReadyH.nil)
            focus
              go_simp
              refine hK.out _ _ hS0 (fun s1 => ?_)
              clear s1 hK K
              refine wpAnyH_ready (rs := [8]) (by kernel_rfl) (by simp) ?_
              refine AllReadyH.cons rfl (fun K hK => ?_) AllReadyH.nil
              go_simp
              refine hK.out _ _ t2 (fun s2 => ?_)
              clear s2
            rotate_left
            focus
              go_simp
              refine hK.out _ _ t2 (fun s2 => ?_)
              clear s2 hK K
              refine wpAnyH_ready (rs := [1]) (by kernel_rfl) (by simp) ?_
              refine AllReadyH.cons rfl (fun K hK => ?_) AllReadyH.nil
              go_simp
              refine hK.out _ _ t2 (fun s2 => ?_)
              clear s2
            all_goals
              clear hK K g1 hS0
              have hwz : Hid ((wr.alloc (.cells #[.string (⟨#[49]⟩ ++ cb p)] 9)).drew.heap.size = wr.heap.size + 1) := by show _ = _; simp
              generalize (wr.alloc (.cells #[.string (⟨#[49]⟩ ++ cb p)] 9)).drew = w3 at *
              refine wpAnyH_ready (rs := [9]) (by kernel_rfl) (by simp) ?_
              refine AllReadyH.cons rfl (fun K hK => ?_) AllReadyH.nil
              rw [if_pos (by rfl)]
              refine wp_append_two w3 (.tmp 60) (.tmp 67) 31 rfl (w.heap.size + 4) 9 i0 (.string ByteArray.empty) 16 Tryz.underlying31 hi hz0 hz1 hz2 rfl yv Y.length Y rfl J3.ry ⟨wr.heap.size, 0, none⟩ 1 (.string (⟨#[49]⟩ ++ cb p)) rfl hcn1 rfl (by unfold maxLen; omega) (by omega) J3.top ?_
              intro g cap w4 hown4 hg4 hd4
              obtain ⟨J5, T4, b4, ta4, tb4⟩ := J3.grow2 hown4 hd4
              have t4 := SJ.out _ b4 _ tb4
              have t5 := SJ.out _ J5.bl _ J5.tb
              have g4 := T4.cell 2
              simp only [List.getElem?_toArray, List.getElem?_cons_succ, List.getElem?_cons_zero] at g4
              have f4 := T4.frozen 2
              refine hK.out _ _ t4 (fun s4 => ?_)
              clear s4 hK K hd4 hown4 hcn1 t2 g3 J3 b4 ta4 tb4 T4
              refine wpAnyH_take (i := 10) (v := ?v11b_10) rfl (by kernel_rfl) (by kernel_rfl) (by kernel_rfl) (fun _ _ _ h => h) (Or.inl ⟨by rfl, ?h11b_10⟩) t4 ?_
              case h11b_10 => intro wq hS; first | (go_simp; done) | (go_simp; with_reducible rfl) | (go_simp; rw [if_neg (by omega)]) | (go_simp; omega)
              refine wpAnyH_ready (rs := [11]) (by kernel_rfl) (by simp) ?_
              refine AllReadyH.cons rfl (fun K hK => ?_) AllReadyH.nil
              go_simp
              refine hK.out _ _ t5 (fun s5 => ?_)
              clear s5 hK K t4 t5 g4 f4
              generalize w4.setCell ⟨w.heap.size + 1 + 1 + 1, 2, none⟩ (.slice (some ⟨g, 0, none⟩) (Y.length + 1) cap) = w5 at *
              refine wpAnyH_done (by kernel_rfl) ?_ _
            all_goals
              clear SJ B2p hyb B3p
              go_wp2
              exact ⟨⟨p + 1, by omega, by go_num, _, _, by rw [XS.out, YS.out]; exact J5⟩, by simp [intOf]; omega⟩
        · have hp' : m = p := by omega
          subst hp'
          obtain ⟨xa, xc, hx⟩ := own_slice J.rx
          obtain ⟨ya, yc, hy⟩ := own_slice J.ry
          rw [HLX.out] at hx
          rw [HLY.out] at hy
          subst hx hy
          have g0 := J.tg.cell 0
          have g1 := J.tg.cell 1
          have g2 := J.tg.cell 2
          have r0 := J.tr.cell 0
          simp only [List.getElem?_toArray, List.getElem?_cons_succ, List.getElem?_cons_zero] at g0 g1 g2 r0
          have f0 := J.tr.frozen 0
          have T1 := J.tr.set0 (.int .i64 ((wa : Int) + (wb : Int)))
          have T2 := T1.set1 (.slice xa (n + m) xc)
          have T3 := T2.set2 (.slice ya (n + m) yc)
          have f1 := T1.frozen 1
          have f2 := T2.frozen 2
          have r1 := T1.cell 1
          have r2 := T2.cell 2
          simp only [List.getElem?_toArray, List.getElem?_cons_succ, List.getElem?_cons_zero] at r1 r2
          have HT3 : Hid (Three (((wr.setCell ⟨w.heap.size + 1 + 1, 0, none⟩ (.int .i64 ((wa : Int) + (wb : Int)))).setCell ⟨w.heap.size + 1 + 1, 1, none⟩ (.slice xa (n + m) xc)).setCell ⟨w.heap.size + 1 + 1, 2, none⟩ (.slice ya (n + m) yc)) (w.heap.size + 1 + 1) (.int .i64 ((wa : Int) + (wb : Int))) (.slice xa (n + m) xc) (.slice ya (n + m) yc)) := T3
          clear T1 T2 T3
          have k3 : Kept (fun a => a = w.heap.size + 1 + 1) wr (((wr.setCell ⟨w.heap.size + 1 + 1, 0, none⟩ (.int .i64 ((wa : Int) + (wb : Int)))).setCell ⟨w.heap.size + 1 + 1, 1, none⟩ (.slice xa (n + m) xc)).setCell ⟨w.heap.size + 1 + 1, 2, none⟩ (.slice ya (n + m) yc)) :=
            (((Kept.refl (fun a => a = w.heap.size + 1 + 1) wr).setCell (show (⟨w.heap.size + 1 + 1, _, none⟩ : Addr).block = w.heap.size + 1 + 1 from rfl) _).setCell (show (⟨w.heap.size + 1 + 1, _, none⟩ : Addr).block = w.heap.size + 1 + 1 from rfl) _).setCell (show (⟨w.heap.size + 1 + 1, _, none⟩ : Addr).block = w.heap.size + 1 + 1 from rfl) _
          have far : ∀ {e : TypeId} {v : Value} {n : Nat} {xs : List Value}, wr.ownsRow (w.heap.size + 4) e 1 v n xs → ∀ a, v.ownBlock = some a → ¬ a = w.heap.size + 1 + 1 := fun h a h1 h2 => by
            have := (h.lt a h1).1; omega
          have ox := own_keep J.rx k3 (far J.rx)
          have oy := own_keep J.ry k3 (far J.ry)
          rw [HLX.out] at ox
          rw [HLY.out] at oy
          have hbl := J.bl.trans (k3.below (B := w.heap.size) (fun k h => by omega) (by have := J.top; omega))
          have HO : Hid (Below w.heap.size w (((wr.setCell ⟨w.heap.size + 1 + 1, 0, none⟩ (.int .i64 ((wa : Int) + (wb : Int)))).setCell ⟨w.heap.size + 1 + 1, 1, none⟩ (.slice xa (n + m) xc)).setCell ⟨w.heap.size + 1 + 1, 2, none⟩ (.slice ya (n + m) yc))) := hbl
          clear k3 far hbl
          go_wp2
          refine bodyPost_ret (results_cell_row Tryz.results137 _ _ (w.heap.size + 1 + 1) 209 _ (0, 0) _ rfl HT3.out Tryz.underlying209 rfl groveSize) rfl ⟨_, _, ?_, ox, oy, HO.out⟩
          rw [Int.natCast_add]

end Go.Proofs.YtopihgmemnokkaaGreat

