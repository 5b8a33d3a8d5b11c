import Derived.Test.YtopihgmemnokkaaCodeW12
import Derived.Test.YtopihgmemnokkaaCut
namespace Go.Proofs.Ytopihgmemnokkaa
open Go.RowKit Go.Shelf Go.Lib

set_option maxRecDepth 100000 in
set_option maxHeartbeats 1000000 in
theorem keepRead_any (t : ByteArray) (w : World) :
    Calls Try.prog 7 #[.string t] w fun e w' => e = .returned (.bool true) ∧ Below w.heap.size w w' := by
  go_enter Try.func7, Try.ntmps7
  go_wp2_with fail
  refine (cut_any t 300 _ (by omega)).mono ?_
  rintro e w' ⟨rfl, rfl⟩
  have hs := cutS_size t 300
  generalize cutS t 300 = s at *
  go_wp2_with fail
  refine (coded_any s _ (by omega)).mono ?_
  rintro e w1 ⟨k, g, n, rfl, SR, CD, hn, hn2, hg, hB1⟩
  rw [sm_cat] at hn
  have hmax : ∀ p, cl k s p ≤ p * 64 := fun p => by rw [cl_ac]; exact ac_bound (fun c hc => CD.len c hc) p
  have HSR : Hid (SRow w1 g fun c => tx (k c)) := SR
  have HCD : Hid (Codes (cntB s s.size) k) := CD
  have HN : Hid (n = cl k s s.size) := hn
  have HM : Hid (∀ p, cl k s p ≤ p * 64) := hmax
  have HB1 : Hid (Below w'.heap.size w' w1) := hB1
  clear SR CD hn hB1 hmax
  go_wp2
  go_loopw [6, 7] (fun b i wr => wr = w1 ∧ ∃ p : Nat, p ≤ s.size ∧ i = .int .i64 p ∧ b = .string (tx (cat k s p))) (fun _ i _ => s.size - (intOf i).toNat)
  case atStart => exact ⟨rfl, 0, by omega, rfl, rfl⟩
  case round =>
    obtain ⟨rfl, p, hp, rfl, rfl⟩ := hrel
    by_cases hlt : p < s.size
    · have hby := BY_lt s hlt
      have hbl := BY_le s p
      have c0 := SRow.cell HSR.out (c := BY s p) (by omega)
      have ee : tx (cat k s (p + 1)) = tx (cat k s p) ++ tx (k (BY s p)) := tx_append _ _
      rw [hby] at c0 ee hbl
      have hx : (s[p].toNat : Int) < 256 := by omega
      have EE : Hid (tx (cat k s (p + 1)) = tx (cat k s p) ++ tx (k s[p].toNat)) := ee
      have hsz : (tx (cat k s p)).size ≤ 19200 := by rw [tx_size]; have := HM.out p; unfold cl at this; omega
      have hsz2 : (tx (k s[p].toNat)).size ≤ 64 := by rw [tx_size]; exact HCD.out.len _ (by omega)
      clear ee hby
      go_wp2
      exact ⟨⟨trivial, p + 1, by omega, by go_num, by rw [EE.out]⟩, by simp [intOf]; omega⟩
    · have hp' : p = s.size := by omega
      subst hp'
      obtain ⟨v, hv⟩ : ∃ v, v = tx (cat k s s.size) := ⟨_, rfl⟩
      have hvs : v.size = cl k s s.size := by rw [hv, tx_size]; rfl
      have hvm := HM.out s.size
      rw [← hv]
      have HV : Hid (v = tx (cat k s s.size)) := hv
      clear hv
      go_wp2
      go_loopw [8, 9, 10, 11] (fun o f i _ wr => ∃ q a : Nat, q ≤ s.size ∧ o = .int .i64 q ∧ f = .int .i64 (cl k s q) ∧ i = .int .i64 a ∧ cl k s q ≤ a ∧ (q < s.size → a ≤ cl k s (q + 1)) ∧ a ≤ cl k s s.size + 1 ∧ Hid (SRow wr g fun c => tx (k c)) ∧ Hid (Below w'.heap.size w' wr)) (fun _ _ i _ _ => cl k s s.size + 1 - (intOf i).toNat)
      case atStart => exact ⟨0, 0, by omega, rfl, rfl, rfl, by rw [cl_zero]; omega, fun _ => by omega, by omega, HSR, HB1⟩
      case round =>
        clear HSR HB1
        obtain ⟨q, a, hq, rfl, rfl, rfl, h1, h2, h3, HSR, HB1⟩ := hrel
        by_cases hlt2 : q < s.size
        · have h4 := h2 hlt2
          have h5 := cl_mono k s (show q + 1 ≤ s.size from hlt2)
          have h6 : a ≤ v.size := by omega
          go_wp2
          go_loopw [8, 9, 11] (fun o f i wr => ∃ b : Nat, b ≤ 256 ∧ i = .int .i64 b ∧ ((o = .int .i64 q ∧ f = .int .i64 (cl k s q) ∧ (a = cl k s (q + 1) → b ≤ BY s q)) ∨ (o = .int .i64 ((q + 1 : Nat) : Int) ∧ f = .int .i64 a ∧ a = cl k s (q + 1) ∧ BY s q < b)) ∧ Hid (SRow wr g fun c => tx (k c)) ∧ Hid (Below w'.heap.size w' wr)) (fun _ _ i _ => 256 - (intOf i).toNat)
          case atStart => exact ⟨0, by omega, rfl, .inl ⟨rfl, rfl, fun _ => by omega⟩, HSR, HB1⟩
          case round =>
            clear HSR HB1
            obtain ⟨b, hb, rfl, hst, HSR, HB1⟩ := hrel
            by_cases hb2 : b < 256
            · have c0 := SRow.cell HSR.out hb2
              have hbi : (b : Int) < 256 := by omega
              have LN : Hid (∀ nq : Nat, Hid (SRow (wr.drewN nq) g fun c => tx (k c)) ∧ Hid (Below w'.heap.size w' (wr.drewN nq))) := by
                intro nq
                exact ⟨SRow.keep HSR.out (keptN wr nq) (fun h => h), below_drewN HB1.out nq⟩
              have hby := BY_le s q
              have hkq := HCD.out.some (BY s q) (by omega) (cnt_there s hlt2)
              by_cases hk : k b = []
              · have hE : (tx (k b)).toList.isEmpty = true := by rw [tx_toList_isEmpty]; simp [hk]
                have hne : b ≠ BY s q := fun e => hkq (by rw [← e]; exact hk)
                have HNE : Hid (b ≠ BY s q) := hne
                clear hkq hk hby hne
                generalize tx (k b) = u at c0 hE
                rcases hst with ⟨rfl, rfl, h7⟩ | ⟨rfl, rfl, h7, h8⟩
                · go_wp2
                  go_quiet (fail)
                  obtain ⟨SR, BL⟩ := LN.out nq
                  go_wp2
                  exact ⟨⟨b + 1, by omega, by go_num, .inl ⟨rfl, rfl, fun h => by have := h7 h; have := HNE.out; omega⟩, SR, BL⟩, by simp [intOf]; omega⟩
                · go_wp2
                  go_quiet (fail)
                  obtain ⟨SR, BL⟩ := LN.out nq
                  go_wp2
                  exact ⟨⟨b + 1, by omega, by go_num, .inr ⟨rfl, rfl, h7, by omega⟩, SR, BL⟩, by simp [intOf]; omega⟩
              · have hE : (tx (k b)).toList.isEmpty = false := by rw [tx_toList_isEmpty]; simp [hk]
                rcases hst with ⟨rfl, rfl, h7⟩ | ⟨rfl, rfl, h7, h8⟩
                · have hm := code_match HCD.out hlt2 h1 h4 hb2 hk
                  rw [← HV.out] at hm
                  generalize tx (k b) = u at c0 hE hm
                  by_cases hy : b = BY s q ∧ a = cl k s (q + 1)
                  · have hm2 := hm.2 hy
                    have HY : Hid (b = BY s q ∧ a = cl k s (q + 1)) := hy
                    have hbs : s[q].toNat = b := by rw [hy.1, BY_lt s hlt2]
                    clear hm hkq hk hy h7
                    go_wp2
                    go_quiet (fail)
                    obtain ⟨SR, BL⟩ := LN.out nq
                    go_wp2
                    exact ⟨⟨b + 1, by omega, by go_num, .inr ⟨by go_num, rfl, HY.out.2, by have := HY.out.1; omega⟩, SR, BL⟩, by simp [intOf]; omega⟩
                  · have hm2 : ((v.extract (cl k s q) a).toList == u.toList) = false := by
                      rw [beq_eq_false_iff_ne]; exact fun h => hy (hm.1 h)
                    have HY : Hid (¬ (b = BY s q ∧ a = cl k s (q + 1))) := hy
                    clear hm hkq hk hy
                    go_wp2
                    go_quiet (fail)
                    obtain ⟨SR, BL⟩ := LN.out nq
                    go_wp2
                    exact ⟨⟨b + 1, by omega, by go_num, .inl ⟨rfl, rfl, fun h => by have := h7 h; have := HY.out; omega⟩, SR, BL⟩, by simp [intOf]; omega⟩
                · have hm2 := code_none (l := cat k s s.size) (i := a) hk
                  rw [← HV.out] at hm2
                  generalize tx (k b) = u at c0 hE hm2
                  clear hkq hk
                  go_wp2
                  go_quiet (fail)
                  obtain ⟨SR, BL⟩ := LN.out nq
                  go_wp2
                  exact ⟨⟨b + 1, by omega, by go_num, .inr ⟨rfl, rfl, h7, by omega⟩, SR, BL⟩, by simp [intOf]; omega⟩
            · have hb' : b = 256 := by omega
              subst hb'
              have hby := BY_le s q
              rcases hst with ⟨rfl, rfl, h7⟩ | ⟨rfl, rfl, h7, h8⟩
              · have h9 : a + 1 ≤ cl k s (q + 1) := by
                  rcases Nat.lt_or_ge a (cl k s (q + 1)) with h | h
                  · exact h
                  · have := h7 (by omega); omega
                go_wp2
                exact ⟨⟨q, a + 1, by omega, rfl, rfl, by go_num, by omega, fun _ => by omega, by omega, HSR, HB1⟩, by simp [intOf]; omega⟩
              · have h9 : q + 1 < s.size → a + 1 ≤ cl k s (q + 1 + 1) := fun h => by
                  have hby2 := BY_le s (q + 1)
                  have := HCD.out.some (BY s (q + 1)) (by omega) (cnt_there s h)
                  rw [cl_succ k s (q + 1)]
                  have h10 : 0 < (k (BY s (q + 1))).length := List.length_pos_iff.2 this
                  omega
                have H9 : Hid (q + 1 < s.size → a + 1 ≤ cl k s (q + 1 + 1)) := h9
                have H7 : Hid (a = cl k s (q + 1)) := h7
                clear h9 h7
                go_wp2
                exact ⟨⟨q + 1, a + 1, by omega, rfl, by rw [← H7.out], by go_num, by have := H7.out; omega, H9.out, by omega, HSR, HB1⟩, by simp [intOf]; omega⟩
        · have hq' : q = s.size := by omega
          subst hq'
          have hnv : n = v.size := by rw [HN.out, hvs]
          by_cases ha : a ≤ v.size
          · go_wp2
            go_ret
            exact ⟨by simp, HB1.out⟩
          · go_wp2
            go_ret
            exact ⟨by simp, HB1.out⟩

end Go.Proofs.Ytopihgmemnokkaa
