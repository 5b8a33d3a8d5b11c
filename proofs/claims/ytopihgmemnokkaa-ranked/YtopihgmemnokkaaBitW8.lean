import Derived.Test.YtopihgmemnokkaaBitW7
namespace Go.Proofs.Ytopihgmemnokkaa
open Go.RowKit

theorem sel_word (p : Nat → Bool) {n k c m : Nat} (hm : (n + 63) / 64 = m) (hk : k < Cc.cn n p) (hc : Cc.cn m (fun j => decide (Cc.cn (64 * j) p ≤ k)) = c) :
    ∃ d, c = d + 1 ∧ d < m ∧ 64 * d < n ∧ Cc.cn (64 * d) p ≤ k ∧ k < Cc.cn (64 * d + min 64 (n - 64 * d)) p := by
  have hn : 0 < n := by have := Cc.cn_le n p; omega
  have hd := cn_down (P := fun j => decide (Cc.cn (64 * j) p ≤ k)) (fun a b hab h => by
    have := Cc.cn_le_bound (show 64 * a ≤ 64 * b by omega) p
    simp at *; omega) m
  rw [hc] at hd
  have h0 := (hd 0 (by omega)).1 (by simp [Cc.cn])
  have hcm : c ≤ m := by rw [← hc]; exact Cc.cn_le _ _
  refine ⟨c - 1, by omega, by omega, by omega, ?_, ?_⟩
  · have := (hd (c - 1) (by omega)).2 (by omega)
    simpa using this
  · by_cases e : c = m
    · rw [show 64 * (c - 1) + min 64 (n - 64 * (c - 1)) = n by omega]; exact hk
    · have h1 : ¬ c < c := by omega
      have := fun h => h1 ((hd c (by omega)).1 h)
      rw [show 64 * (c - 1) + min 64 (n - 64 * (c - 1)) = 64 * c by omega]
      simp at this; omega

theorem clear_bit {R i : Nat} (hi : i ≤ 63) (h1 : 2 ^ (63 - i) ≤ R) (h2 : R < 2 ^ (64 - i)) : bits .andNot .u64 (R : Int) (IntKind.u64.wrap (2 ^ (63 - i))) = ((R - 2 ^ (63 - i) : Nat) : Int) := by
  have hlt : R < 18446744073709551616 := Nat.lt_of_lt_of_le h2 (Nat.le_trans (Nat.pow_le_pow_right (by omega) (show 64 - i ≤ 64 by omega)) (by decide))
  have hs := Bm.bit_or (s := 63 - i) (by omega)
  have e : IntKind.u64.wrap (2 ^ (63 - i)) = ((2 ^ (63 - i) : Nat) : Int) := by
    have e1 : (2 : Int) ^ (63 - i) = ((2 ^ (63 - i) : Nat) : Int) := by rw [Int.natCast_pow]; rfl
    rw [e1, IntKind.wrap_u64]
    generalize 2 ^ (63 - i) = Z at *
    omega
  rw [e, u64_andNot_nat _ _ hlt hs, Bm.drop_hit (by omega) h1 (by rw [show 63 - i + 1 = 64 - i by omega]; exact h2)]

set_option maxRecDepth 100000 in
set_option maxHeartbeats 1000000 in
theorem select_any (base : Nat) (w : World) (b o : Nat) (pre post : List Value) (ho : pre.length = o) (ty : TypeId) (wv av : Value) (p : Nat → Bool) (n k : Nat) (h : BitL base w b pre post ty wv av p n) (hk : k < Cc.cn n p) (hb : n ≤ 1099511627776) :
    Calls Try.prog 28 #[.pointer (some ⟨b, o, none⟩), .int .i64 (k : Nat)] w fun e w' => (∃ j : Nat, e = .returned (.int .i64 (j : Nat)) ∧ j < n ∧ p j = true ∧ Cc.cn j p = k) ∧ Below w.heap.size w w' := by
  have hn : 0 < n := by have := Cc.cn_le n p; omega
  have hcl := Cc.cn_le n p
  have hw := h.words
  have ha := h.ahead
  obtain ⟨g, cap, rfl, _, _⟩ := hw.form (by omega)
  obtain ⟨g2, cap2, rfl, _, hg2⟩ := ha.form (by omega)
  obtain ⟨m, hm⟩ : ∃ m, (n + 63) / 64 = m := ⟨_, rfl⟩
  obtain ⟨c, hc⟩ : ∃ c, Cc.cn m (fun j => decide (Cc.cn (64 * j) p ≤ k)) = c := ⟨_, rfl⟩
  obtain ⟨d, rfl, hdm, hdn, hd1, hd2⟩ := sel_word p hm hk hc
  have hse := search_any w g2 cap2 k m (fun j => Cc.cn (64 * j) p) (fun j hj => own_cell ha (aheadL_get p (n := n) (j := j) (by omega))) hg2 (by omega) (fun a b hab => Cc.cn_le_bound (by omega) p)
  rw [hc] at hse
  have c0 := h.four.c0 ho
  have c1 := h.four.c1 ho
  have d1 := own_cell hw (wordsL_get p (n := n) (j := d) hdn)
  have d2 := own_cell ha (aheadL_get p (n := n) (j := d) hdn)
  have hmm : min 64 (n - 64 * d) ≤ 64 := by omega
  have hmn : 64 * d + min 64 (n - 64 * d) ≤ n := by omega
  generalize min 64 (n - 64 * d) = mm at *
  rw [cn_shift] at hd2
  rw [hm] at c0 c1
  obtain ⟨i0, _, hi0, hp0, hc0, hz0⟩ := Bm.next_one (fun i => p (64 * d + i)) (m := mm) (t := 0) mm 0 (by omega) rfl (by omega)
  have hr0 := Bm.rest_skip (fun i => p (64 * d + i)) hmm 0 i0 (by omega) (fun j _ hj => hz0 j (by omega) (by omega))
  have hwl := Bm.wordAt_lt (fun i => p (64 * d + i)) hmm
  rw [Nat.zero_add, Nat.mod_eq_of_lt (show Bm.wordAt (fun i => p (64 * d + i)) mm < 2 ^ (64 - 0) from hwl)] at hr0
  obtain ⟨A, hA⟩ : ∃ A, Cc.cn (64 * d) p = A := ⟨_, rfl⟩
  obtain ⟨W, hW⟩ : ∃ W, Bm.wordAt (fun i => p (64 * d + i)) mm = W := ⟨_, rfl⟩
  rw [hA] at d2 hd1 hd2
  rw [hW] at d1 hr0 hwl
  have HA : Hid (Cc.cn (64 * d) p = A) := hA
  have HW : Hid (Bm.wordAt (fun i => p (64 * d + i)) mm = W) := hW
  have Hr0 : Hid (W = W % 2 ^ (64 - i0)) := hr0
  have hdb : d ≤ 17179869184 := by omega
  have hAb : A ≤ 1099511627776 := by omega
  have hkb : k ≤ 1099511627776 := by omega
  have hdi : (d : Int) < (m : Int) := by omega
  have Hd2 : Hid (k < A + Cc.cn mm (fun i => p (64 * d + i))) := hd2
  have Hc0 : Hid (Cc.cn i0 (fun i => p (64 * d + i)) = 0) := hc0
  have Hp0 : Hid (p (64 * d + i0) = true) := hp0
  clear hA hW hr0 hd2 hc0 hp0 hz0 hc hm hw ha h
  go_enter Try.func28, Try.ntmps28
  go_wp2_with fail
  refine hse.mono ?_
  rintro e w1 ⟨rfl, hB⟩
  have kb := Kept.of_below hB (Nat.le_refl _) (fun _ => False)
  have c0 := cell_keep kb c0 (fun h => h)
  have c1 := cell_keep kb c1 (fun h => h)
  have d1 := cell_keep kb d1 (fun h => h)
  have d2 := cell_keep kb d2 (fun h => h)
  clear hse kb
  go_wp2
  go_loopw [6, 31] (fun r i wr => ∃ (t j R : Nat), t ≤ k - A ∧ i = .int .i64 t ∧ j < mm ∧ Hid (p (64 * d + j) = true) ∧ Hid (Cc.cn j (fun i => p (64 * d + i)) = t) ∧ r = .int .u64 (R : Nat) ∧ Hid (R = W % 2 ^ (64 - j)) ∧ wr = w1) (fun _ i _ => k - A - (intOf i).toNat)
  case atStart => exact ⟨0, i0, W, by omega, rfl, hi0, Hp0, Hc0, rfl, Hr0, rfl⟩
  case round =>
    obtain ⟨t, j, R, ht, rfl, hj, hpj, hcj, rfl, hR, rfl⟩ := hrel
    have hit := Bm.rest_hit (fun i => p (64 * d + i)) hj hmm hpj.out
    rw [HW.out, ← hR.out] at hit
    obtain ⟨g1, g2'⟩ := hit
    by_cases hlt : t < k - A
    · have hlt' : (t : Int) < (k : Int) - (A : Int) := by omega
      obtain ⟨j', j1, j2, j3, j4, j5⟩ := Bm.next_one (fun i => p (64 * d + i)) (m := mm) (t := t + 1) (mm - (j + 1)) (j + 1) (by omega) (by have := hcj.out; have := hpj.out; simp only [Cc.cn]; rw [hcj.out, hpj.out]; rfl) (by have := Hd2.out; omega)
      have hskip := Bm.rest_skip (fun i => p (64 * d + i)) hmm (j + 1) (j' - (j + 1)) (by omega) (fun i a b => j5 i a (by omega))
      have hstep := Bm.rest_step (fun i => p (64 * d + i)) hj hmm
      rw [HW.out] at hskip hstep
      rw [show j + 1 + (j' - (j + 1)) = j' by omega, show 64 - (j + 1) = 63 - j by omega] at hskip
      rw [hpj.out, ← hR.out] at hstep
      have hval := clear_bit (show j ≤ 63 by omega) g1 g2'
      have hfin : R - 2 ^ (63 - j) = W % 2 ^ (64 - j') := by rw [← hskip, hstep]; simp
      rw [hfin] at hval
      clear hskip hstep hfin
      have J3 : Hid (p (64 * d + j') = true) := j3
      have J4 : Hid (Cc.cn j' (fun i => p (64 * d + i)) = t + 1) := j4
      have Hval : Hid (bits .andNot .u64 (R : Int) (IntKind.u64.wrap (2 ^ (63 - j))) = ((W % 2 ^ (64 - j') : Nat) : Int)) := hval
      clear j3 j4 j5 hval
      go_wp2_with fail
      refine (lz_any R j _ (by omega) g1 g2').mono ?_
      rintro e w' ⟨rfl, rfl⟩
      go_wp2
      rw [Hval.out]
      exact ⟨⟨t + 1, j', _, by omega, by go_num, j2, J3, J4, rfl, rfl, trivial⟩, by simp [intOf]; omega⟩
    · have ht' : t = k - A := by omega
      have hlt' : ¬ (t : Int) < (k : Int) - (A : Int) := by omega
      go_wp2_with fail
      refine (lz_any R j _ (by omega) g1 g2').mono ?_
      rintro e w' ⟨rfl, rfl⟩
      go_wp2
      go_ret
      have e1 := cn_shift p (64 * d) j
      rw [HA.out, hcj.out] at e1
      exact ⟨⟨64 * d + j, ret_int (by omega), by omega, hpj.out, by omega⟩, hB⟩

end Go.Proofs.Ytopihgmemnokkaa
