import Derived.Test.YtopihgmemnokkaaShortW1
namespace Go.Proofs.Ytopihgmemnokkaa
open Go.RowKit Go.Shelf Go.Lib

theorem not_begins {f : Nat → Nat} {k : Nat → List Bool} (CD : Codes f k) {c d : Nat} (hc : c < 256) (hd : d < 256) (hne : c ≠ d) (h1 : k c ≠ []) (h2 : k d ≠ []) :
    ¬ ((tx (k c)).size ≤ (tx (k d)).size ∧ ((tx (k d)).extract 0 (tx (k c)).size).toList = (tx (k c)).toList) := by
  rintro ⟨_, h⟩
  rw [tx_extract] at h
  have e := tx_inj (toList_inj' h)
  refine CD.free c d hc hd hne (CD.there hc h1) (CD.there hd h2) ?_
  rw [← e]
  exact List.take_prefix _ _

/-- the lengths that are tried, so far -/
structure Others (k : Nat → List Bool) (c : Nat) (O : Nat → Nat) : Prop where
  pos : ∀ d, d < c → k d ≠ [] → 1 ≤ O d ∧ O d ≤ 20
  zero : ∀ d, c ≤ d ∨ k d = [] → O d = 0
def takes (k : Nat → List Bool) (O : Nat → Nat) (c : Nat) : Nat := sm c fun d => if k d = [] then 0 else 2 ^ (20 - O d)
theorem Others.start (k : Nat → List Bool) : Others k 0 fun _ => 0 := ⟨fun d h => by omega, fun _ _ => rfl⟩
theorem Others.skip {k : Nat → List Bool} {c : Nat} {O : Nat → Nat} (h : Others k c O) (hk : k c = []) : Others k (c + 1) O :=
  ⟨fun d h1 h2 => h.pos d (by
    rcases Nat.lt_or_ge d c with h3 | h3
    · exact h3
    · have : d = c := by omega
      subst this; exact absurd hk h2) h2, fun d h1 => by
    rcases h1 with h1 | h1
    · exact h.zero d (.inl (by omega))
    · exact h.zero d (.inr h1)⟩
theorem Others.put {k : Nat → List Bool} {c : Nat} {O : Nat → Nat} (h : Others k c O) (hk : k c ≠ []) {x : Nat} (h1 : 1 ≤ x) (h2 : x ≤ 20) : Others k (c + 1) (Cc.put O c x) := by
  constructor
  · intro d hd hkd
    by_cases e : d = c
    · subst e; rw [Cc.put_same]; exact ⟨h1, h2⟩
    · rw [Cc.put_other _ _ e]; exact h.pos d (by omega) hkd
  · intro d hd
    have e : d ≠ c := by
      intro e
      subst e
      rcases hd with hd | hd
      · omega
      · exact hk hd
    rw [Cc.put_other _ _ e]
    rcases hd with hd | hd
    · exact h.zero d (.inl (by omega))
    · exact h.zero d (.inr hd)
theorem takes_skip {k : Nat → List Bool} {c : Nat} (O : Nat → Nat) (hk : k c = []) : takes k O (c + 1) = takes k O c := by
  unfold takes; simp [sm, hk]
theorem takes_put {k : Nat → List Bool} {c : Nat} (O : Nat → Nat) (hk : k c ≠ []) (x : Nat) : takes k (Cc.put O c x) (c + 1) = takes k O c + 2 ^ (20 - x) := by
  unfold takes
  simp only [sm]
  rw [if_neg hk, Cc.put_same]
  congr 1
  exact sm_congr fun d hd => by rw [Cc.put_other _ _ (by omega)]
theorem takes_le (k : Nat → List Bool) (O : Nat → Nat) (c : Nat) : takes k O c ≤ c * 1048576 := by
  unfold takes
  refine sm_bound fun d _ => ?_
  split
  · omega
  · exact Nat.le_trans (Nat.pow_le_pow_right (by omega) (show 20 - O d ≤ 20 by omega)) (Nat.le_refl _)
theorem Others.short {s : ByteArray} {k : Nat → List Bool} (CD : Codes (cntB s s.size) k) {O : Nat → Nat} (h : Others k 256 O) (hr : takes k O 256 ≤ 1048576) : cl k s s.size ≤ ac O s s.size := by
  have ho := CD.opt 20 O (fun c hc h0 => h.pos c hc (CD.some c hc h0)) (by
    have e : (sm 256 fun c => if 0 < cntB s s.size c then 2 ^ (20 - O c) else 0) = takes k O 256 := sm_congr fun c hc => by
      by_cases h0 : 0 < cntB s s.size c
      · rw [if_pos h0, if_neg (CD.some c hc h0)]
      · rw [if_neg h0, if_pos (CD.none c hc (by omega))]
    rw [e]; exact hr)
  rw [sm_cat] at ho
  refine Nat.le_trans ho (Nat.le_of_eq ?_)
  rw [← sm_ac]
  refine sm_congr fun c hc => ?_
  by_cases h0 : 0 < cntB s s.size c
  · rw [if_pos h0]
  · rw [if_neg h0]
    have : cntB s s.size c = 0 := by omega
    rw [this]; simp

set_option maxRecDepth 100000 in
set_option maxHeartbeats 2000000 in
theorem shortest_any (t : ByteArray) (rv : Value) (m : Nat) (w : World) (hr : IntsIn w rv m) :
    Calls Try.prog 6 #[.string t, rv] w fun e w' => e = .returned (.bool true) ∧ Below w.heap.size w w' := by
  have HR : Hid (IntsIn w rv m) := hr
  clear hr
  go_enter Try.func6, Try.ntmps6
  go_wp2_with fail
  refine (cut_any t 1000 _ (by omega)).mono ?_
  rintro e w' ⟨rfl, rfl⟩
  have hs := cutS_size t 1000
  generalize cutS t 1000 = s at *
  go_wp2_with fail
  refine (coded_any s _ (by omega)).mono ?_
  rintro e w1 ⟨k, g, n, rfl, SR, CD, hn, hn2, hg, hB1⟩
  rw [sm_cat] at hn
  have hmax : ∀ p, cl k s p ≤ p * 64 := fun p => by rw [cl_ac]; exact ac_bound (fun c hc => CD.len c hc) p
  have HSR : Hid (SRow w1 g fun c => tx (k c)) := SR
  have HCD : Hid (Codes (cntB s s.size) k) := CD
  have HN : Hid (n = cl k s s.size) := hn
  have HM : Hid (∀ p, cl k s p ≤ p * 64) := hmax
  have HB1 : Hid (Below w'.heap.size w' w1) := hB1
  have hgl : g < w1.heap.size := (Array.getElem?_eq_some_iff.1 SR).1
  have hz1 := hB1.size
  clear SR CD hn hB1 hmax
  go_wp2
  go_loopw [8, 9] (fun b i wr => wr = w1 ∧ ∃ p : Nat, p ≤ s.size ∧ i = .int .i64 p ∧ b = .int .i64 (cl k s p)) (fun _ i _ => s.size - (intOf i).toNat)
  case atStart => exact ⟨rfl, 0, by omega, rfl, rfl⟩
  case round =>
    obtain ⟨rfl, p, hp, rfl, rfl⟩ := hrel
    by_cases hlt : p < s.size
    · have hby := BY_lt s hlt
      have hbl := BY_le s p
      have c0 := SRow.cell HSR.out (c := BY s p) (by omega)
      have ee := cl_succ k s p
      have hm1 := HM.out p
      have hm2 := HCD.out.len (BY s p) (by omega)
      rw [← tx_size] at ee hm2
      rw [hby] at c0 ee hbl hm2
      have hx : (s[p].toNat : Int) < 256 := by omega
      have EE : Hid (cl k s (p + 1) = cl k s p + (tx (k s[p].toNat)).size) := ee
      clear ee hby
      generalize tx (k s[p].toNat) = u at c0 hm2 EE
      go_wp2
      exact ⟨⟨trivial, p + 1, by omega, by go_num, by rw [EE.out]; go_num⟩, by simp [intOf]; omega⟩
    · have hp' : p = s.size := by omega
      subst hp'
      have hnn : cl k s s.size = n := HN.out.symm
      rw [hnn]
      go_wp2
      go_loopw [10, 11, 12] (fun i _ _ wr => ∃ c : Nat, c ≤ 256 ∧ i = .int .i64 c ∧ Hid (SRow wr g fun c => tx (k c)) ∧ Hid (Below w'.heap.size w' wr)) (fun i _ _ _ => 256 - (intOf i).toNat)
      case atStart => exact ⟨0, by omega, rfl, HSR, HB1⟩
      case round =>
        clear HSR HB1
        obtain ⟨c, hc, rfl, HSR, HB1⟩ := hrel
        by_cases hc2 : c < 256
        · have HLN : Hid (∀ nq : Nat, Hid (SRow (wr.drewN nq) g fun c => tx (k c)) ∧ Hid (Below w'.heap.size w' (wr.drewN nq))) := by
            intro nq
            exact ⟨SRow.keep HSR.out (keptN wr nq) (fun h => h), below_drewN HB1.out nq⟩
          clear HLN
          go_wp2
          go_loopw [11, 12] (fun i _ wr => ∃ d : Nat, d ≤ 256 ∧ i = .int .i64 d ∧ Hid (SRow wr g fun c => tx (k c)) ∧ Hid (Below w'.heap.size w' wr)) (fun i _ _ => 256 - (intOf i).toNat)
          case atStart => exact ⟨0, by omega, rfl, HSR, HB1⟩
          case round =>
            clear HSR HB1
            obtain ⟨d, hd, rfl, HSR, HB1⟩ := hrel
            by_cases hd2 : d < 256
            · have c0 := SRow.cell HSR.out hc2
              have c1 := SRow.cell HSR.out hd2
              have hci : (c : Int) < 256 := by omega
              have hdi : (d : Int) < 256 := by omega
              have LN : Hid (∀ nq : Nat, Hid (SRow (wr.drewN nq) g fun c => tx (k c)) ∧ Hid (Below w'.heap.size w' (wr.drewN nq))) := by
                intro nq
                exact ⟨SRow.keep HSR.out (keptN wr nq) (fun h => h), below_drewN HB1.out nq⟩
              by_cases hcd : c = d
              · subst hcd
                have hcc : ((c : Int) != (c : Int)) = false := by simp
                clear c0 c1
                go_wp2
                exact ⟨⟨c + 1, by omega, by go_num, HSR, HB1⟩, by simp [intOf]; omega⟩
              · have hcc : ((c : Int) != (d : Int)) = true := by simp; omega
                by_cases hk : k c = []
                · have hE : (tx (k c)).toList.isEmpty = true := by rw [tx_toList_isEmpty]; simp [hk]
                  generalize tx (k c) = u at c0 hE
                  clear hcd hk c1
                  go_wp2
                  exact ⟨⟨d + 1, by omega, by go_num, HSR, HB1⟩, by simp [intOf]; omega⟩
                · have hE : (tx (k c)).toList.isEmpty = false := by rw [tx_toList_isEmpty]; simp [hk]
                  by_cases hk2 : k d = []
                  · have hE2 : (tx (k d)).toList.isEmpty = true := by rw [tx_toList_isEmpty]; simp [hk2]
                    generalize tx (k c) = u at c0 hE
                    generalize tx (k d) = u2 at c1 hE2
                    clear hcd hk hk2
                    go_wp2
                    exact ⟨⟨d + 1, by omega, by go_num, HSR, HB1⟩, by simp [intOf]; omega⟩
                  · have hE2 : (tx (k d)).toList.isEmpty = false := by rw [tx_toList_isEmpty]; simp [hk2]
                    have hbg := fun W => begins_any _ _ W (not_begins HCD.out hc2 hd2 hcd hk hk2)
                    generalize tx (k c) = u at c0 hE hbg
                    generalize tx (k d) = u2 at c1 hE2 hbg
                    clear hcd hk hk2
                    go_wp2
                    go_quiet ((go_at_call 18; exact Calls.quiet_of_same (hbg _)))
                    obtain ⟨SR, BL⟩ := LN.out nq
                    go_wp2
                    exact ⟨⟨d + 1, by omega, by go_num, SR, BL⟩, by simp [intOf]; omega⟩
            · have hd' : d = 256 := by omega
              subst hd'
              go_wp2
              exact ⟨⟨c + 1, by omega, by go_num, HSR, HB1⟩, by simp [intOf]; omega⟩
        · have hc' : c = 256 := by omega
          subst hc'
          go_wp2_with (refine wpList_alloc_row rfl 32 rfl _ zero256 ?_)
          have hgz : g < wr.heap.size := (Array.getElem?_eq_some_iff.1 HSR.out).1
          have hwz := HB1.out.size
          have hnew := Row.new wr 32 256 (fun _ => 0)
          have hbn := HB1.out.alloc hwz (.cells (rowC 256 fun _ => 0) 32)
          have hsn := HSR.out.keep ((Kept.refl (fun _ => False) wr).alloc (.cells (rowC 256 fun _ => 0) 32)) (fun h => h)
          generalize wr.heap.size = ob at *
          go_loopw [13, 16] (fun r i wr2 => ∃ (c : Nat) (O : Nat → Nat), c ≤ 256 ∧ i = .int .i64 c ∧ r = .int .i64 (1048576 - (takes k O c : Int)) ∧ Hid (Others k c O) ∧ Hid (Row wr2 ob 32 256 O) ∧ Hid (SRow wr2 g fun c => tx (k c)) ∧ Hid (Below w'.heap.size w' wr2)) (fun _ i _ => 256 - (intOf i).toNat)
          case atStart => exact ⟨0, fun _ => 0, by omega, rfl, rfl, Others.start k, hnew, hsn, hbn⟩
          case round =>
            clear HSR HB1 hnew hbn hsn
            obtain ⟨c, O, hc, rfl, rfl, HO, HW, HSR, HB1⟩ := hrel
            have htk := takes_le k O c
            by_cases hc2 : c < 256
            · have c0 := SRow.cell HSR.out hc2
              have hci : (c : Int) < 256 := by omega
              by_cases hk : k c = []
              · have hE : (tx (k c)).toList.isEmpty = true := by rw [tx_toList_isEmpty]; simp [hk]
                have hO2 : Hid (Others k (c + 1) O) := HO.out.skip hk
                have hT : Hid (takes k O (c + 1) = takes k O c) := takes_skip O hk
                generalize tx (k c) = u at c0 hE
                clear hk
                go_wp2
                exact ⟨⟨c + 1, O, by omega, by go_num, by rw [hT.out], hO2, HW, HSR, HB1⟩, by simp [intOf]; omega⟩
              · have hE : (tx (k c)).toList.isEmpty = false := by rw [tx_toList_isEmpty]; simp [hk]
                generalize tx (k c) = u at c0 hE
                go_wp2_with fail
                refine (at_any rv m c _ (HR.out.below HB1.out) (by omega)).mono ?_
                rintro e wx ⟨⟨x, rfl, x1, x2⟩, rfl⟩
                go_wp2_with fail
                refine (pick_any x 20 _ x1 x2 (by omega) (by omega)).mono ?_
                rintro e wx ⟨⟨v, rfl, hv⟩, rfl⟩
                have c1 := HW.out.cell hc2
                have f1 := HW.out.frozen c
                have e1 : (1 : Int) + (v : Int) = ((v + 1 : Nat) : Int) := by omega
                have k1 : Kept (fun k => k = ob) wx (wx.setCell ⟨ob, c, none⟩ (.int .i64 (1 + (v : Int)))) := (Kept.refl (fun k => k = ob) wx).setCell (show (⟨ob, c, none⟩ : Addr).block = ob from rfl) _
                have HW2 : Hid (Row (wx.setCell ⟨ob, c, none⟩ (.int .i64 (1 + (v : Int)))) ob 32 256 (Cc.put O c (v + 1))) := by
                  rw [e1]; exact HW.out.set c (v + 1)
                have HSR2 : Hid (SRow (wx.setCell ⟨ob, c, none⟩ (.int .i64 (1 + (v : Int)))) g fun c => tx (k c)) := SRow.keep HSR.out k1 (by omega)
                have HB2 : Hid (Below w'.heap.size w' (wx.setCell ⟨ob, c, none⟩ (.int .i64 (1 + (v : Int))))) := k1.bel HB1.out (Nat.le_refl _) (fun k hk => by omega)
                have c2 := HW2.out.cell hc2
                rw [Cc.put_same, ← e1] at c2
                have HO2 : Hid (Others k (c + 1) (Cc.put O c (v + 1))) := HO.out.put hk (by omega) (by omega)
                have HT2 : Hid (takes k (Cc.put O c (v + 1)) (c + 1) = takes k O c + 2 ^ (20 - (v + 1))) := takes_put O hk (v + 1)
                clear e1 k1 HW HSR HB1 HO hk c0
                go_wp2
                have hp2 : (2 : Nat) ^ (20 - (1 + v)) ≤ 524288 := Nat.le_trans (Nat.pow_le_pow_right (by omega) (show 20 - (1 + v) ≤ 19 by omega)) (Nat.le_refl _)
                have hp3 : ((2 : Int) ^ (20 - (1 + v))) = (((2 : Nat) ^ (20 - (1 + v)) : Nat) : Int) := by norm_cast
                have hfin : wrap64 (1048576 - ↑(takes k O c) - wrap64 (2 ^ (20 - (1 + v)))) = 1048576 - ((takes k (Cc.put O c (v + 1)) (c + 1) : Nat) : Int) := by
                  rw [HT2.out, hp3, Nat.add_comm v 1]
                  generalize (2 : Nat) ^ (20 - (1 + v)) = z at hp2
                  rw [IntWalk.wrap64_in (z : Int) (by omega), IntWalk.wrap64_in _ (by omega)]
                  omega
                exact ⟨⟨c + 1, Cc.put O c (v + 1), by omega, by go_num, by rw [hfin], HO2, HW2, HSR2, HB2⟩, by simp [intOf]; omega⟩
            · have hc' : c = 256 := by omega
              subst hc'
              have hac : ∀ p, ac O s p ≤ p * 20 := fun p => ac_bound (fun c hc => by
                by_cases hk : k c = []
                · rw [HO.out.zero c (.inr hk)]; omega
                · exact (HO.out.pos c hc hk).2) p
              have HA : Hid (∀ p, ac O s p ≤ p * 20) := hac
              clear hac
              go_wp2
              go_loopw [14, 17] (fun b i wr2 => wr2 = wr ∧ ∃ p : Nat, p ≤ s.size ∧ i = .int .i64 p ∧ b = .int .i64 (ac O s p)) (fun _ i _ => s.size - (intOf i).toNat)
              case atStart => exact ⟨rfl, 0, by omega, rfl, rfl⟩
              case round =>
                obtain ⟨rfl, p, hp, rfl, rfl⟩ := hrel
                by_cases hlt : p < s.size
                · have hby := BY_lt s hlt
                  have hbl := BY_le s p
                  have c0 := HW.out.cell (i := BY s p) (by omega)
                  have ee : ac O s (p + 1) = ac O s p + O (BY s p) := rfl
                  have hm1 := HA.out p
                  have hm2 := HA.out (p + 1)
                  have hm3 : O (BY s p) ≤ 20020 := by omega
                  rw [hby] at c0 ee hbl hm3
                  have hx : (s[p].toNat : Int) < 256 := by omega
                  have EE : Hid (ac O s (p + 1) = ac O s p + O s[p].toNat) := ee
                  clear ee hby hm2
                  generalize O s[p].toNat = y at c0 hm3 EE
                  go_wp2
                  exact ⟨⟨trivial, p + 1, by omega, by go_num, by rw [EE.out]; go_num⟩, by simp [intOf]; omega⟩
                · have hp' : p = s.size := by omega
                  subst hp'
                  by_cases hroom : takes k O 256 ≤ 1048576
                  · have hsh := HO.out.short HCD.out hroom
                    rw [hnn] at hsh
                    have hr1 : decide ((1048576 - (takes k O 256 : Int)) < 0) = false := by simp; omega
                    have hr2 : ¬ ((1048576 - (takes k O 256 : Int)) < 0) := by omega
                    go_wp2
                    go_ret
                    exact ⟨by simp; try omega, HB1.out⟩
                  · have hr1 : decide ((1048576 - (takes k O 256 : Int)) < 0) = true := by simp; omega
                    have hr2 : ((1048576 - (takes k O 256 : Int)) < 0) := by omega
                    go_wp2
                    go_ret
                    exact ⟨by simp, HB1.out⟩

end Go.Proofs.Ytopihgmemnokkaa
