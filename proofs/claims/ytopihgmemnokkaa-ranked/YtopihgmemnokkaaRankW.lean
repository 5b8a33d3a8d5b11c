import Derived.Test.YtopihgmemnokkaaBitW10
import Derived.Test.YtopihgmemnokkaaPick
import Derived.Test.YtopihgmemnokkaaInts
namespace Go.Proofs.Ytopihgmemnokkaa
open Go.RowKit

theorem BY_app_left (s t : ByteArray) {j : Nat} (h : j < s.size) : BY (s ++ t) j = BY s j := by
  have h2 : j < (s ++ t).size := by simp; omega
  rw [BY_lt _ h2, BY_lt _ h, ByteArray.getElem_append_left h]
theorem BY_app_right (s t : ByteArray) {j : Nat} (h : s.size ≤ j) (h2 : j < s.size + t.size) : BY (s ++ t) j = BY t (j - s.size) := by
  have h3 : j < (s ++ t).size := by simp; omega
  rw [BY_lt _ h3, BY_lt _ (show j - s.size < t.size by omega), ByteArray.getElem_append_right h]

theorem plain_push {s t : ByteArray} (hs : Plain s) (ht : t.size = 1) (h : BY t 0 = 48 ∨ BY t 0 = 49) : Plain (s ++ t) := by
  intro j hj
  simp [ht] at hj
  by_cases e : j < s.size
  · rw [BY_app_left s t e]; exact hs j e
  · have : j = s.size := by omega
    subst this
    rw [BY_app_right s t (Nat.le_refl _) (by omega), Nat.sub_self]; exact h

set_option maxRecDepth 100000 in
set_option maxHeartbeats 2000000 in
theorem ranked_any (rv : Value) (m : Nat) (at_ : Int) (w : World) (hr : IntsIn w rv m) (h1 : -9223372036854775808 ≤ at_) (h2 : at_ ≤ 9223372036854775807) :
    Calls Try.prog 5 #[rv, .int .i64 at_] w fun e w' => e = .returned (.bool true) ∧ Below w.heap.size w w' := by
  obtain ⟨a, cap, rfl⟩ : ∃ a cap, rv = .slice a m cap := by
    rcases hr with ⟨rfl, rfl⟩ | ⟨a, cap, rfl, _⟩
    · exact ⟨_, _, rfl⟩
    · exact ⟨_, _, rfl⟩
  go_enter Try.func5, Try.ntmps5
  go_wp2
  go_loopw [5, 6, 7] (fun sv i _ wr => ∃ (s : ByteArray), s.size ≤ 400 ∧ s.size ≤ m ∧ sv = .string s ∧ i = .int .i64 (s.size : Nat) ∧ Plain s ∧ wr = w) (fun _ i _ _ => 400 - (intOf i).toNat)
  case atStart => exact ⟨ByteArray.empty, by simp, by simp, rfl, rfl, fun i hi => by simp at hi, rfl⟩
  case round =>
    obtain ⟨s, hs4, hsm, rfl, rfl, hpl, rfl⟩ := hrel
    rename World => w
    by_cases hlt : s.size < m ∧ s.size < 400
    · obtain ⟨hlm, hl4⟩ := hlt
      obtain ⟨ad, x, rfl, c1, x1, x2⟩ : ∃ ad x, a = some ad ∧ w.cell? (ad.add s.size) = some (.int .i64 x) ∧ -9223372036854775808 ≤ x ∧ x ≤ 9223372036854775807 := by
        rcases hr with ⟨_, h⟩ | ⟨ad, cap', he, hc⟩
        · omega
        · obtain ⟨x, hx⟩ := hc s.size hlm
          injection he with he _ _
          exact ⟨ad, x, he, hx⟩
      go_wp2_with fail
      refine (pick_any x 2 _ x1 x2 (by omega) (by omega)).mono ?_
      rintro e w' ⟨⟨v, rfl, hv⟩, rfl⟩
      have hv2 : v = 0 ∨ v = 1 := by omega
      rcases hv2 with rfl | rfl
      · go_wp2
        refine ⟨⟨_, ?_, ?_, rfl, ?_, plain_push hpl rfl (.inl rfl), trivial⟩, by simp [intOf]; omega⟩
        · rw [ByteArray.size_append]; show s.size + 1 ≤ 400; omega
        · rw [ByteArray.size_append]; show s.size + 1 ≤ m; omega
        · rw [ByteArray.size_append]; rfl
      · go_wp2
        refine ⟨⟨_, ?_, ?_, rfl, ?_, plain_push hpl rfl (.inr rfl), trivial⟩, by simp [intOf]; omega⟩
        · rw [ByteArray.size_append]; show s.size + 1 ≤ 400; omega
        · rw [ByteArray.size_append]; show s.size + 1 ≤ m; omega
        · rw [ByteArray.size_append]; rfl
    · have hnew := newBits_any s w (by omega)
      have hex : decide ((s.size : Int) < (m : Int)) = false ∨ ((s.size : Int) < (m : Int) ∧ ¬ (s.size : Int) < 400 ∧ decide ((s.size : Int) < 400) = false) := by
        by_cases e : s.size < m
        · exact .inr ⟨by omega, by omega, by simp; omega⟩
        · exact .inl (by simp; omega)
      clear hlt
      rcases hex with e1 | ⟨e1, e2, e3⟩
      rotate_left
      focus
        have e400 : (s.size : Int) = 400 := by omega
        rw [e400]
        rw [e400] at e1 e2 e3
      rotate_left
      focus
        have em : m = s.size := by simp at e1; omega
        subst em
      all_goals
        go_wp2_with fail
        refine hnew.mono ?_
        rintro e w1 ⟨hB1, ⟨hn, rfl⟩ | ⟨_, b, rfl, hb⟩⟩
        · exact absurd hpl hn
        clear hnew
        go_wp2
        try clear e400 e2 e3
        clear e1 hr hsm
        go_loopw [10, 11, 12, 13, 14, 15] (fun o i _ _ _ _ wr => ∃ j : Nat, j ≤ s.size + 1 ∧ i = .int .i64 j ∧ o = .int .i64 (Cc.cn (min j s.size) (oneAt s) : Nat) ∧ BitsAt w.heap.size wr b (oneAt s) s.size ∧ Below w.heap.size w wr) (fun _ i _ _ _ _ _ => s.size + 1 - (intOf i).toNat)
        case atStart => exact ⟨0, by omega, rfl, by rw [Nat.zero_min]; rfl, hb, hB1⟩
        case round =>
          clear hb hB1
          obtain ⟨j, hj, rfl, rfl, hb, hB⟩ := hrel
          have hz := hB.size
          by_cases hjn : j ≤ s.size
          · have hrank := bitsRank_in w.heap.size wr b (oneAt s) s.size hb (by omega) j hjn
            have hmin : min j s.size = j := by omega
            rw [hmin]
            have hcl := Cc.cn_le j (oneAt s)
            generalize hC : Cc.cn j (oneAt s) = C at *
            have HC : Hid (Cc.cn j (oneAt s) = C) := hC
            have hcc : ((C : Int) != (C : Int)) = false := by simp
            have hji : (j : Int) ≤ (s.size : Int) := by omega
            clear hC hmin
            by_cases hlt : j < s.size
            · have hby := BY_lt s hlt
              by_cases h49 : BY s j = 49
              · have n1 : ((s[j].toNat : Int) == 49) = true := by simp; omega
                have hpj : oneAt s j = true := by unfold oneAt; simp [h49]
                have hlt' := Cc.cn_lt_bound hlt hpj
                have hjj : ((j : Int) != (j : Int)) = false := by simp
                have hnx : Cc.cn (min (j + 1) s.size) (oneAt s) = C + 1 := by
                  rw [show min (j + 1) s.size = j + 1 by omega]
                  simp only [Cc.cn]; rw [HC.out, hpj]; rfl
                have Hnx : Hid _ := hnx
                have Hpj : Hid (oneAt s j = true) := hpj
                clear hnx hby h49 hpj
                go_wp2_with fail
                refine hrank.mono ?_
                rintro e w2 ⟨hB2, rfl⟩
                have hb2 := hb.below hB2
                go_wp2_with fail
                refine (bitsSelect_in w.heap.size w2 b (oneAt s) s.size hb2 (by omega) C (by rw [← HC.out]; exact hlt')).mono ?_
                rintro e w3 ⟨hB3, j', rfl, j1, j2, j3⟩
                have ej : j' = j := by
                  have := HC.out
                  rcases Nat.lt_trichotomy j' j with h | h | h
                  · have := Cc.cn_lt_bound h j2; omega
                  · exact h
                  · have := Cc.cn_lt_bound h Hpj.out; omega
                subst ej
                have hb3 := hb2.below hB3
                have hB4 := (hB.trans (hB2.mono hz)).trans (hB3.mono (Nat.le_trans hz hB2.size))
                clear hB2 hB3 hb2 hb j1 j2 j3 hrank
                go_wp2
                exact ⟨⟨j' + 1, by omega, by go_num, by rw [Hnx.out]; rfl, hb3, hB4⟩, by simp [intOf]; omega⟩
              · have n1 : ((s[j].toNat : Int) == 49) = false := by simp; omega
                have hpj : oneAt s j = false := by unfold oneAt; simp [h49]
                have hnx : Cc.cn (min (j + 1) s.size) (oneAt s) = C := by
                  rw [show min (j + 1) s.size = j + 1 by omega]
                  simp only [Cc.cn]; rw [HC.out, hpj]; rfl
                have Hnx : Hid _ := hnx
                clear hnx hby h49 hpj
                go_wp2_with fail
                refine hrank.mono ?_
                rintro e w2 ⟨hB2, rfl⟩
                have hb2 := hb.below hB2
                have hB4 := (hB.trans (hB2.mono hz))
                clear hB2 hb hrank
                go_wp2
                exact ⟨⟨j + 1, by omega, by go_num, by rw [Hnx.out], hb2, hB4⟩, by simp [intOf]; omega⟩
            · have ej : j = s.size := by omega
              subst ej
              have hnx : Cc.cn (min (s.size + 1) s.size) (oneAt s) = C := by
                rw [show min (s.size + 1) s.size = s.size by omega]; exact HC.out
              have Hnx : Hid _ := hnx
              clear hnx
              go_wp2_with fail
              refine hrank.mono ?_
              rintro e w2 ⟨hB2, rfl⟩
              have hb2 := hb.below hB2
              have hB4 := (hB.trans (hB2.mono hz))
              clear hB2 hb hrank
              go_wp2
              exact ⟨⟨s.size + 1, by omega, by go_num, by rw [Hnx.out], hb2, hB4⟩, by simp [intOf]⟩
          · have ej : j = s.size + 1 := by omega
            subst ej
            have hmin : min (s.size + 1) s.size = s.size := by omega
            rw [hmin]
            have hcl := Cc.cn_le s.size (oneAt s)
            have hout1 := fun W (hb : BitsAt w.heap.size W b (oneAt s) s.size) => bitsSelect_out w.heap.size W b (oneAt s) s.size hb (Cc.cn s.size (oneAt s) : Nat) (.inr (by omega))
            have hout2 := fun W (hb : BitsAt w.heap.size W b (oneAt s) s.size) => bitsRank_out w.heap.size W b (oneAt s) s.size hb ((s.size : Int) + 1) (.inr (by omega))
            have hout3 := fun W (hb : BitsAt w.heap.size W b (oneAt s) s.size) => bitsRank_out w.heap.size W b (oneAt s) s.size hb (-1) (.inl (by omega))
            have hout4 := fun W (hb : BitsAt w.heap.size W b (oneAt s) s.size) => bitsSelect_out w.heap.size W b (oneAt s) s.size hb (-1) (.inl (by omega))
            have hrank := fun W (hb : BitsAt w.heap.size W b (oneAt s) s.size) v (hv : v ≤ s.size) => bitsRank_in w.heap.size W b (oneAt s) s.size hb (by omega) v hv
            have hmono : ∀ v, v ≤ s.size → Cc.cn v (oneAt s) ≤ Cc.cn s.size (oneAt s) := fun v hv => Cc.cn_le_bound hv _
            have Hmono : Hid (∀ v, v ≤ s.size → Cc.cn v (oneAt s) ≤ Cc.cn s.size (oneAt s)) := hmono
            generalize Cc.cn s.size (oneAt s) = C at *
            have hsz2 : (s ++ ByteArray.mk #[50]).size = s.size + 1 := by rw [ByteArray.size_append]; rfl
            have hnew := fun W => newBits_any (s ++ ByteArray.mk #[50]) W (by omega)
            have hnp : ¬ Plain (s ++ ByteArray.mk #[50]) := fun h => by
              have h2 := h s.size (by omega)
              rw [BY_app_right s _ (Nat.le_refl _) (by have : (ByteArray.mk #[50]).size = 1 := rfl
                                                       omega), Nat.sub_self] at h2
              have h3 : BY (ByteArray.mk #[50]) 0 = 50 := rfl
              omega
            clear hmono hmin hsz2 hj hjn
            go_wp2_with fail
            refine (hout1 _ hb).mono ?_
            rintro e w2 ⟨hB2, rfl⟩
            have hb := hb.below hB2
            have hB := hB.trans (hB2.mono hB.size)
            clear hB2
            go_wp2_with fail
            refine (hout2 _ hb).mono ?_
            rintro e w3 ⟨hB2, rfl⟩
            have hb := hb.below hB2
            have hB := hB.trans (hB2.mono hB.size)
            clear hB2
            go_wp2_with fail
            refine (hout3 _ hb).mono ?_
            rintro e w4 ⟨hB2, rfl⟩
            have hb := hb.below hB2
            have hB := hB.trans (hB2.mono hB.size)
            clear hB2
            go_wp2_with fail
            refine (hout4 _ hb).mono ?_
            rintro e w5 ⟨hB2, rfl⟩
            have hb := hb.below hB2
            have hB := hB.trans (hB2.mono hB.size)
            clear hB2
            go_wp2_with fail
            refine (pick_any at_ _ _ h1 h2 (by omega) (by omega)).mono ?_
            rintro e w6 ⟨⟨v, rfl, hv⟩, rfl⟩
            have hcv := Hmono.out v (by omega)
            go_wp2_with fail
            refine (hrank _ hb v (by omega)).mono ?_
            rintro e w7 ⟨hB2, rfl⟩
            have hb := hb.below hB2
            have hB := hB.trans (hB2.mono hB.size)
            clear hB2
            generalize Cc.cn v (oneAt s) = V at *
            have hVi : (V : Int) ≤ (C : Int) := by omega
            have hVd : decide ((V : Int) ≤ (C : Int)) = true := by simp; omega
            go_wp2_with fail
            refine (hnew _).mono ?_
            rintro e w8 ⟨hB2, ⟨_, rfl⟩ | ⟨hp, _⟩⟩
            · have hB := hB.trans (hB2.mono hB.size)
              clear hB2
              go_wp2
              go_ret
              exact ⟨rfl, hB⟩
            · exact absurd hp hnp

end Go.Proofs.Ytopihgmemnokkaa
