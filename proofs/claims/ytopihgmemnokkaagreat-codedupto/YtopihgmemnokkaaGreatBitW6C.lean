import Derived.Test.YtopihgmemnokkaaGreatBitW4C
import Derived.Test.YtopihgmemnokkaaGreatShelf2C
import Derived.BigQuiet
namespace Go.Proofs.YtopihgmemnokkaaGreat
open Go.RowKit

theorem cn_shift (p : Nat → Bool) (a r : Nat) : Cc.cn (a + r) p = Cc.cn a p + Cc.cn r (fun i => p (a + i)) := by
  induction r with
  | zero => simp [Cc.cn]
  | succ r ih => rw [← Nat.add_assoc]; simp only [Cc.cn]; rw [ih]; omega

theorem onesCount_at (x : Int) (k : Nat) (hk : x = (k : Nat)) (w : World) (hx : k < 18446744073709551616) :
    Calls Tryz.prog 139 #[.int .u64 x] w fun e w' => e = .returned (.int .i64 (Lib.popAux 64 k : Nat)) ∧ w' = w := by
  subst hk; exact onesCount_any k w hx

set_option maxRecDepth 100000 in
set_option maxHeartbeats 1000000 in
theorem rank_any (base : Nat) (w : World) (b o : Nat) (pre post : List Value) (ho : pre.length = o) (ty : TypeId) (wv av : Value) (p : Nat → Bool) (n i : Nat) (h : BitL base w b pre post ty wv av p n) (hi : i ≤ n) (hb : n ≤ 1099511627776) :
    Calls Tryz.prog 95 #[.pointer (some ⟨b, o, none⟩), .int .i64 (i : Nat)] w fun e w' => e = .returned (.int .i64 (Cc.cn i p : Nat)) ∧ Below w.heap.size w w' := by
  have c2 := h.four.c2 ho
  have c3 := h.four.c3 ho
  by_cases he : i = n
  · subst he
    have hii : ((i : Int) == (i : Int)) = true := by simp
    go_enter Tryz.func95, Tryz.ntmps95
    go_wp2
    go_ret
    exact ⟨rfl, Below.refl _ _⟩
  · have hii : ((i : Int) == (n : Int)) = false := by simp; omega
    obtain ⟨q, hq⟩ : ∃ q, i / 64 = q := ⟨_, rfl⟩
    obtain ⟨r, hr⟩ : ∃ r, i % 64 = r := ⟨_, rfl⟩
    have hw := h.words
    have ha := h.ahead
    obtain ⟨g, cap, rfl, _, _⟩ := hw.form (by omega)
    obtain ⟨g2, cap2, rfl, _, _⟩ := ha.form (by omega)
    have c0 := h.four.c0 ho
    have c1 := h.four.c1 ho
    have d1 := own_cell hw (wordsL_get p (n := n) (j := q) (by omega))
    have d2 := own_cell ha (aheadL_get p (n := n) (j := q) (by omega))
    have hx := Bm.wordAt_lt (fun i => p (64 * q + i)) (m := min 64 (n - 64 * q)) (by omega)
    have hs := Bm.wordAt_shr (fun i => p (64 * q + i)) (w := r) (m := min 64 (n - 64 * q)) (by omega) (by omega)
    have hp := Bm.pop_pre (fun i => p (64 * q + i)) 64 r (by omega)
    have hpl := Bm.pre_lt (fun i => p (64 * q + i)) r
    have hcn := cn_shift p (64 * q) r
    rw [show 64 * q + r = i by omega] at hcn
    have hcl := Cc.cn_le i p
    generalize Bm.wordAt (fun i => p (64 * q + i)) (min 64 (n - 64 * q)) = X at *
    generalize hB : Bm.pre (fun i => p (64 * q + i)) r = B at *
    generalize Cc.cn (64 * q) p = A at *
    have hqi : (i : Int) / 64 = (q : Nat) := by omega
    have hri : (i : Int) % 64 = (r : Nat) := by omega
    have hr64 : r < 64 := by omega
    have hqb : q ≤ 17179869184 := by omega
    obtain ⟨m, hm⟩ : ∃ m, (n + 63) / 64 = m := ⟨_, rfl⟩
    have hqm : (q : Int) < (m : Int) := by omega
    have Hs : Hid (X / 2 ^ (64 - r) = B) := hs
    have Hp : Hid (Lib.popAux 64 B = Cc.cn r (fun i => p (64 * q + i))) := hp
    have hB64 : B < 18446744073709551616 := by rw [← hs]; exact Nat.lt_of_le_of_lt (Nat.div_le_self _ _) hx
    have Hcn : Hid (Cc.cn i p = A + Cc.cn r (fun i => p (64 * q + i))) := hcn
    have hpop : Lib.popAux 64 B ≤ i := by rw [hp]; omega
    rw [hm] at c0 c1
    clear hs hp hB hcn hm hq hr hw ha h he hpl
    have hcall : ∀ W : World, Calls Tryz.prog 139 #[.int .u64 ((X : Int) / 2 ^ (64 - r))] W fun e w' => e = .returned (.int .i64 (Lib.popAux 64 B : Nat)) ∧ w' = W := fun W =>
      onesCount_at _ B (by rw [← Hs.out, Int.natCast_ediv, Int.natCast_pow]; rfl) W hB64
    go_enter Tryz.func95, Tryz.ntmps95
    go_wp2_with fail
    go_quiet ((go_at_call 139; exact Calls.quiet_of_same (hcall _)))
    go_wp2
    go_ret
    refine ⟨ret_int ?_, ⟨rfl, rfl, rfl, Nat.le_refl _, fun _ _ => rfl⟩⟩
    have e1 := Hp.out
    have e2 := Hcn.out
    simp only [wrap64]
    omega

end Go.Proofs.YtopihgmemnokkaaGreat

namespace Go.Proofs.YtopihgmemnokkaaGreat
open Go.RowKit

theorem cn_down {P : Nat → Bool} (h : ∀ a b, a ≤ b → P b = true → P a = true) (m : Nat) : ∀ j, j < m → (P j = true ↔ j < Cc.cn m P) := by
  induction m with
  | zero => intro j hj; omega
  | succ m ih =>
    intro j hj
    have hle := Cc.cn_le m P
    simp only [Cc.cn]
    cases hm : P m
    · simp
      by_cases e : j = m
      · subst e; rw [hm]; simp; omega
      · exact ih j (by omega)
    · have hall : Cc.cn m P = m := by
        have : Cc.cn m P = Cc.cn m (fun _ => true) := Cc.cn_congr (fun i hi => h i m (by omega) hm)
        rw [this, Cc.cn_true]
      rw [hall]
      simp
      exact ⟨fun _ => hj, fun _ => h j m (by omega) hm⟩

theorem lz_any (x i : Nat) (w : World) (hi : i ≤ 63) (h1 : 2 ^ (63 - i) ≤ x) (h2 : x < 2 ^ (64 - i)) :
    Calls Tryz.prog 141 #[.int .u64 (x : Nat)] w fun e w' => e = .returned (.int .i64 (i : Nat)) ∧ w' = w := by
  have hlt : x < 18446744073709551616 := Nat.lt_of_lt_of_le h2 (Nat.le_trans (Nat.pow_le_pow_right (by omega) (show 64 - i ≤ 64 by omega)) (by decide))
  refine (Any.bits_LeadingZeros64 Tryz.lays134 (x : Nat) w (by omega) (by omega)).mono ?_
  rintro e w' ⟨rfl, rfl⟩
  refine ⟨ret_int ?_, rfl⟩
  rw [show ((x : Int)).toNat = x from rfl, Bm.bitLen_hit hi h1 h2]
  omega

theorem search_any (w : World) (g cap k m : Nat) (f : Nat → Nat) (hc : ∀ j, j < m → w.cell? ⟨g, j, none⟩ = some (.int .i64 (f j : Nat))) (hg : g < w.heap.size) (hm : m < 4611686018427387904) (hf : ∀ a b, a ≤ b → f a ≤ f b) :
    Calls Tryz.prog 140 #[.slice (some ⟨g, 0, none⟩) m cap, .int .i64 ((k : Int) + 1)] w fun e w' => e = .returned (.int .i64 (Cc.cn m (fun j => decide (f j ≤ k)) : Nat)) ∧ Below w.heap.size w w' := by
  have hsz : (((List.range m).map fun j => (f j : Int)).toArray).size = m := by simp
  have hget : ∀ i, i < m → (((List.range m).map fun j => (f j : Int)).toArray)[i]! = (f i : Int) := fun i hi => by
    rw [getElem!_pos _ i (by simpa using hi)]; simp
  have := Any.sort_SearchInts Tryz.searchInts g 0 cap (((List.range m).map fun j => (f j : Int)).toArray) ((k : Int) + 1) w
    (fun i hi => by rw [hsz] at hi; rw [hget i hi, Nat.zero_add]; exact hc i hi) hg (by rw [hsz]; exact hm)
    (fun a b hab hb h => by rw [hsz] at hb; rw [hget a (by omega)] at h; rw [hget b hb]; have := hf a b hab; simp at *; omega)
  rw [hsz] at this
  refine this.mono ?_
  rintro e w' ⟨rfl, h⟩
  refine ⟨ret_int ?_, h⟩
  rw [Cc.cn_countP, List.countP_map]
  congr 1
  apply List.countP_congr
  intro a _
  simp
  omega

end Go.Proofs.YtopihgmemnokkaaGreat

namespace Go.Proofs.YtopihgmemnokkaaGreat
open Go.RowKit

theorem sel_word (p : Nat → Bool) {n k c m : Nat} (hm : (n + 63) / 64 = m) (hk : k < Cc.cn n p) (hc : Cc.cn m (fun j => decide (Cc.cn (64 * j) p ≤ k)) = c) :
    ∃ d, c = d + 1 ∧ d < m ∧ 64 * d < n ∧ Cc.cn (64 * d) p ≤ k ∧ k < Cc.cn (64 * d + min 64 (n - 64 * d)) p := by
  have hn : 0 < n := by have := Cc.cn_le n p; omega
  have hd := cn_down (P := fun j => decide (Cc.cn (64 * j) p ≤ k)) (fun a b hab h => by
    have := Cc.cn_le_bound (show 64 * a ≤ 64 * b by omega) p
    simp at *; omega) m
  rw [hc] at hd
  have h0 := (hd 0 (by omega)).1 (by simp [Cc.cn])
  have hcm : c ≤ m := by rw [← hc]; exact Cc.cn_le _ _
  refine ⟨c - 1, by omega, by omega, by omega, ?_, ?_⟩
  · have := (hd (c - 1) (by omega)).2 (by omega)
    simpa using this
  · by_cases e : c = m
    · rw [show 64 * (c - 1) + min 64 (n - 64 * (c - 1)) = n by omega]; exact hk
    · have h1 : ¬ c < c := by omega
      have := fun h => h1 ((hd c (by omega)).1 h)
      rw [show 64 * (c - 1) + min 64 (n - 64 * (c - 1)) = 64 * c by omega]
      simp at this; omega

theorem clear_bit {R i : Nat} (hi : i ≤ 63) (h1 : 2 ^ (63 - i) ≤ R) (h2 : R < 2 ^ (64 - i)) : bits .andNot .u64 (R : Int) (IntKind.u64.wrap (2 ^ (63 - i))) = ((R - 2 ^ (63 - i) : Nat) : Int) := by
  have hlt : R < 18446744073709551616 := Nat.lt_of_lt_of_le h2 (Nat.le_trans (Nat.pow_le_pow_right (by omega) (show 64 - i ≤ 64 by omega)) (by decide))
  have hs := Bm.bit_or (s := 63 - i) (by omega)
  have e : IntKind.u64.wrap (2 ^ (63 - i)) = ((2 ^ (63 - i) : Nat) : Int) := by
    have e1 : (2 : Int) ^ (63 - i) = ((2 ^ (63 - i) : Nat) : Int) := by rw [Int.natCast_pow]; rfl
    rw [e1, IntKind.wrap_u64]
    generalize 2 ^ (63 - i) = Z at *
    omega
  rw [e, u64_andNot_nat _ _ hlt hs, Bm.drop_hit (by omega) h1 (by rw [show 63 - i + 1 = 64 - i by omega]; exact h2)]

set_option maxRecDepth 100000 in
set_option maxHeartbeats 1000000 in
theorem select_any (base : Nat) (w : World) (b o : Nat) (pre post : List Value) (ho : pre.length = o) (ty : TypeId) (wv av : Value) (p : Nat → Bool) (n k : Nat) (h : BitL base w b pre post ty wv av p n) (hk : k < Cc.cn n p) (hb : n ≤ 1099511627776) :
    Calls Tryz.prog 97 #[.pointer (some ⟨b, o, none⟩), .int .i64 (k : Nat)] w fun e w' => (∃ j : Nat, e = .returned (.int .i64 (j : Nat)) ∧ j < n ∧ p j = true ∧ Cc.cn j p = k) ∧ Below w.heap.size w w' := by
  have hn : 0 < n := by have := Cc.cn_le n p; omega
  have hcl := Cc.cn_le n p
  have hw := h.words
  have ha := h.ahead
  obtain ⟨g, cap, rfl, _, _⟩ := hw.form (by omega)
  obtain ⟨g2, cap2, rfl, _, hg2⟩ := ha.form (by omega)
  obtain ⟨m, hm⟩ : ∃ m, (n + 63) / 64 = m := ⟨_, rfl⟩
  obtain ⟨c, hc⟩ : ∃ c, Cc.cn m (fun j => decide (Cc.cn (64 * j) p ≤ k)) = c := ⟨_, rfl⟩
  obtain ⟨d, rfl, hdm, hdn, hd1, hd2⟩ := sel_word p hm hk hc
  have hse := search_any w g2 cap2 k m (fun j => Cc.cn (64 * j) p) (fun j hj => own_cell ha (aheadL_get p (n := n) (j := j) (by omega))) hg2 (by omega) (fun a b hab => Cc.cn_le_bound (by omega) p)
  rw [hc] at hse
  have c0 := h.four.c0 ho
  have c1 := h.four.c1 ho
  have d1 := own_cell hw (wordsL_get p (n := n) (j := d) hdn)
  have d2 := own_cell ha (aheadL_get p (n := n) (j := d) hdn)
  have hmm : min 64 (n - 64 * d) ≤ 64 := by omega
  have hmn : 64 * d + min 64 (n - 64 * d) ≤ n := by omega
  generalize min 64 (n - 64 * d) = mm at *
  rw [cn_shift] at hd2
  rw [hm] at c0 c1
  obtain ⟨i0, _, hi0, hp0, hc0, hz0⟩ := Bm.next_one (fun i => p (64 * d + i)) (m := mm) (t := 0) mm 0 (by omega) rfl (by omega)
  have hr0 := Bm.rest_skip (fun i => p (64 * d + i)) hmm 0 i0 (by omega) (fun j _ hj => hz0 j (by omega) (by omega))
  have hwl := Bm.wordAt_lt (fun i => p (64 * d + i)) hmm
  rw [Nat.zero_add, Nat.mod_eq_of_lt (show Bm.wordAt (fun i => p (64 * d + i)) mm < 2 ^ (64 - 0) from hwl)] at hr0
  obtain ⟨A, hA⟩ : ∃ A, Cc.cn (64 * d) p = A := ⟨_, rfl⟩
  obtain ⟨W, hW⟩ : ∃ W, Bm.wordAt (fun i => p (64 * d + i)) mm = W := ⟨_, rfl⟩
  rw [hA] at d2 hd1 hd2
  rw [hW] at d1 hr0 hwl
  have HA : Hid (Cc.cn (64 * d) p = A) := hA
  have HW : Hid (Bm.wordAt (fun i => p (64 * d + i)) mm = W) := hW
  have Hr0 : Hid (W = W % 2 ^ (64 - i0)) := hr0
  have hdb : d ≤ 17179869184 := by omega
  have hAb : A ≤ 1099511627776 := by omega
  have hkb : k ≤ 1099511627776 := by omega
  have hdi : (d : Int) < (m : Int) := by omega
  have Hd2 : Hid (k < A + Cc.cn mm (fun i => p (64 * d + i))) := hd2
  have Hc0 : Hid (Cc.cn i0 (fun i => p (64 * d + i)) = 0) := hc0
  have Hp0 : Hid (p (64 * d + i0) = true) := hp0
  clear hA hW hr0 hd2 hc0 hp0 hz0 hc hm hw ha h
  go_enter Tryz.func97, Tryz.ntmps97
  go_wp2_with fail
  refine hse.mono ?_
  rintro e w1 ⟨rfl, hB⟩
  have kb := Kept.of_below hB (Nat.le_refl _) (fun _ => False)
  have c0 := cell_keep kb c0 (fun h => h)
  have c1 := cell_keep kb c1 (fun h => h)
  have d1 := cell_keep kb d1 (fun h => h)
  have d2 := cell_keep kb d2 (fun h => h)
  clear hse kb
  go_wp2
  go_loopw [6, 31] (fun r i wr => ∃ (t j R : Nat), t ≤ k - A ∧ i = .int .i64 t ∧ j < mm ∧ Hid (p (64 * d + j) = true) ∧ Hid (Cc.cn j (fun i => p (64 * d + i)) = t) ∧ r = .int .u64 (R : Nat) ∧ Hid (R = W % 2 ^ (64 - j)) ∧ wr = w1) (fun _ i _ => k - A - (intOf i).toNat)
  case atStart => exact ⟨0, i0, W, by omega, rfl, hi0, Hp0, Hc0, rfl, Hr0, rfl⟩
  case round =>
    obtain ⟨t, j, R, ht, rfl, hj, hpj, hcj, rfl, hR, rfl⟩ := hrel
    have hit := Bm.rest_hit (fun i => p (64 * d + i)) hj hmm hpj.out
    rw [HW.out, ← hR.out] at hit
    obtain ⟨g1, g2'⟩ := hit
    by_cases hlt : t < k - A
    · have hlt' : (t : Int) < (k : Int) - (A : Int) := by omega
      obtain ⟨j', j1, j2, j3, j4, j5⟩ := Bm.next_one (fun i => p (64 * d + i)) (m := mm) (t := t + 1) (mm - (j + 1)) (j + 1) (by omega) (by have := hcj.out; have := hpj.out; simp only [Cc.cn]; rw [hcj.out, hpj.out]; rfl) (by have := Hd2.out; omega)
      have hskip := Bm.rest_skip (fun i => p (64 * d + i)) hmm (j + 1) (j' - (j + 1)) (by omega) (fun i a b => j5 i a (by omega))
      have hstep := Bm.rest_step (fun i => p (64 * d + i)) hj hmm
      rw [HW.out] at hskip hstep
      rw [show j + 1 + (j' - (j + 1)) = j' by omega, show 64 - (j + 1) = 63 - j by omega] at hskip
      rw [hpj.out, ← hR.out] at hstep
      have hval := clear_bit (show j ≤ 63 by omega) g1 g2'
      have hfin : R - 2 ^ (63 - j) = W % 2 ^ (64 - j') := by rw [← hskip, hstep]; simp
      rw [hfin] at hval
      clear hskip hstep hfin
      have J3 : Hid (p (64 * d + j') = true) := j3
      have J4 : Hid (Cc.cn j' (fun i => p (64 * d + i)) = t + 1) := j4
      have Hval : Hid (bits .andNot .u64 (R : Int) (IntKind.u64.wrap (2 ^ (63 - j))) = ((W % 2 ^ (64 - j') : Nat) : Int)) := hval
      clear j3 j4 j5 hval
      go_wp2_with fail
      refine (lz_any R j _ (by omega) g1 g2').mono ?_
      rintro e w' ⟨rfl, rfl⟩
      go_wp2
      rw [Hval.out]
      exact ⟨⟨t + 1, j', _, by omega, by go_num, j2, J3, J4, rfl, rfl, trivial⟩, by simp [intOf]; omega⟩
    · have ht' : t = k - A := by omega
      have hlt' : ¬ (t : Int) < (k : Int) - (A : Int) := by omega
      go_wp2_with fail
      refine (lz_any R j _ (by omega) g1 g2').mono ?_
      rintro e w' ⟨rfl, rfl⟩
      go_wp2
      go_ret
      have e1 := cn_shift p (64 * d) j
      rw [HA.out, hcj.out] at e1
      exact ⟨⟨64 * d + j, ret_int (by omega), by omega, hpj.out, by omega⟩, hB⟩

end Go.Proofs.YtopihgmemnokkaaGreat

