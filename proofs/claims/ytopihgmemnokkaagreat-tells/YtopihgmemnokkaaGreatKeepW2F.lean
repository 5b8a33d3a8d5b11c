import Derived.Test.YtopihgmemnokkaaGreatKeepW1F
namespace Go.Proofs.YtopihgmemnokkaaGreat
open Go.RowKit

theorem occT_prefix (t p : ByteArray) {i m : Nat} (h : i ≤ m) : occT t p i <+: occT t p m := by
  induction m with
  | zero => have : i = 0 := by omega
            subst this; exact List.prefix_refl _
  | succ m ih =>
    rcases Nat.lt_or_ge m i with h1 | h1
    · have : i = m + 1 := by omega
      subst this; exact List.prefix_refl _
    · rw [occT_succ]
      split
      · exact (ih h1).trans (List.prefix_append _ _)
      · exact ih h1
theorem occT_at (t p : ByteArray) {i m : Nat} (h : i < m) (ha : atB t p i = true) : (occT t p m)[(occT t p i).length]? = some i := by
  obtain ⟨l, hl⟩ := occT_prefix t p (show i + 1 ≤ m by omega)
  rw [← hl, occT_succ, if_pos ha, List.append_assoc, List.getElem?_append_right (Nat.le_refl _)]
  simp

/-- what the program's calls of an index answer, at words of any size -/
structure Lay.Wide (PI : Lay) : Prop where
  count : ∀ (a z b : Nat) (t p : ByteArray) (rate : Int) (w : World), PI a z b t rate w → BuildOk t rate → p.size ≤ 9223372036854775807 → Calls Tryz.prog 30 #[.pointer (some ⟨b, 0, none⟩), .string p] w fun e w' => e = .returned (.int .i64 ((occT t p (t.size + 1)).length : Nat)) ∧ Below w.heap.size w w'
  locate : ∀ (a z b : Nat) (t p : ByteArray) (rate : Int) (w : World), PI a z b t rate w → BuildOk t rate → p.size ≤ 9223372036854775807 → Calls Tryz.prog 31 #[.pointer (some ⟨b, 0, none⟩), .string p] w fun e w' => ∃ v, e = .returned v ∧ w'.ownsRow w.heap.size 3 1 v (occT t p (t.size + 1)).length (intsL (occT t p (t.size + 1))) ∧ Below w.heap.size w w'

set_option maxRecDepth 100000 in
set_option maxHeartbeats 2000000 in
theorem kright_any {PI : Lay} (hI : PI.Ok) (hS : PI.Wide) (t p : ByteArray) (ht : t.size ≤ 1000) (hp : p.size ≤ 9223372036854775807) (a z b : Nat) (rt : Int) (hok : BuildOk t rt) (w : World) (hP : PI a z b t rt w) :
    Calls Tryz.prog 17 #[.pointer (some ⟨b, 0, none⟩), .string t, .string p] w fun e w' => e = .returned (.bool true) ∧ Below w.heap.size w w' := by
  have hct := hS.count a z b t p rt w hP hok hp
  go_enter Tryz.func17, Tryz.ntmps17
  go_wp2_with fail
  refine hct.mono ?_
  rintro e w1 ⟨rfl, hB1⟩
  have hP1 := hI.keep (fun _ => False) _ _ _ _ _ _ _ hP (Kept.of_below hB1 (Nat.le_refl _) (fun _ => False)) (fun _ _ _ h => h)
  have hlc := hS.locate a z b t p rt w1 hP1 hok hp
  have hll := occT_len t p (t.size + 1)
  have HB1 : Hid (Below w.heap.size w w1) := hB1
  clear hct hP1 hB1 hP
  have HAT : Hid (∀ i, i < t.size + 1 → atB t p i = true → (occT t p (t.size + 1))[(occT t p i).length]? = some i) := fun i hi ha => occT_at t p hi ha
  have HEND : Hid (∀ i, t.size < i + p.size → i ≤ t.size + 1 → (occT t p (t.size + 1)).length = (occT t p i).length) := fun i hi ha => by rw [occT_end t p hi ha]
  have HLE : Hid (∀ i, i ≤ t.size + 1 → (occT t p i).length ≤ (occT t p (t.size + 1)).length) := fun i hi => (occT_prefix t p hi).length_le
  generalize hle : occT t p (t.size + 1) = L at *
  clear hle
  go_wp2_with fail
  refine hlc.mono ?_
  rintro e w2 ⟨lv, rfl, hL, hB2⟩
  obtain ⟨la, lc, rfl⟩ := own_slice hL
  have HL : Hid (w2.ownsRow w1.heap.size 3 1 (.slice la L.length lc) L.length (intsL L)) := hL
  have z1 := HB1.out.size
  have HB : Hid (Below w.heap.size w w2) := HB1.out.trans (hB2.mono z1)
  clear hlc hB2 hL HB1
  go_wp2
  go_loopw [9, 10] (fun kv iv wr => wr = w2 ∧ ∃ (i k : Nat), i ≤ t.size + 1 ∧ (i = 0 ∨ p.size ≤ t.size) ∧ iv = .int .i64 i ∧ kv = .int .i64 k ∧ k ≤ L.length ∧ Hid ((occT t p i).length = k)) (fun _ iv _ => t.size + 1 - (intOf iv).toNat)
  case atStart => exact ⟨rfl, 0, 0, by omega, .inl rfl, rfl, rfl, by omega, rfl⟩
  case round =>
    obtain ⟨rfl, i, k, hi, hi0, rfl, rfl, hk, HK⟩ := hrel
    have hsum : (i : Int) + (p.size : Int) ≤ 9223372036854775807 := by omega
    by_cases hlt : i + p.size ≤ t.size
    · have d0 : decide ((i : Int) + (p.size : Int) ≤ (t.size : Int)) = true := decide_eq_true (by omega)
      have hnr : ¬ t.size < i := by omega
      have OS := occT_succ t p i
      cases hm : ((t.extract i (i + p.size)).toList == p.toList)
      · have hat : ¬ atB t p i = true := by unfold atB; simp [hm]
        rw [if_neg hat] at OS
        have HOS : Hid (occT t p (i + 1) = occT t p i) := OS
        clear OS hat
        go_wp2
        exact ⟨⟨trivial, i + 1, k, by omega, .inr (by omega), by go_num, rfl, hk, by rw [HOS.out]; exact HK⟩, by simp [intOf]; omega⟩
      · have hat : atB t p i = true := by unfold atB; simp [hm, hlt]
        rw [if_pos hat] at OS
        have HOS : Hid (occT t p (i + 1) = occT t p i ++ [i]) := OS
        have hget := HAT.out i (by omega) hat
        rw [HK.out] at hget
        have hkl : k < L.length := (List.getElem?_eq_some_iff.1 hget).1
        obtain ⟨g, cap, hsl, _, _⟩ := HL.out.form (by omega)
        have hcell := HL.out.cells (g := g) (by rw [hsl]; rfl) k _ (intsL_get hget)
        injection hsl with e1 e2 e3
        subst e1 e3
        have e9 : (⟨g, 0, none⟩ : Addr).add k = ⟨g, k, none⟩ := by
          unfold Addr.add
          by_cases h0 : k = 0
          · subst h0; simp
          · simp [h0]
        rw [e9] at hcell
        have d1 : ¬ (k : Int) = (L.length : Int) := by omega
        have d2 : ((k : Int) == (L.length : Int)) = false := by simp; omega
        have d3 : (k : Int) < (L.length : Int) := by omega
        have d4 : ¬ k = L.length := by omega
        clear OS hat hget
        go_wp2
        refine ⟨⟨trivial, i + 1, k + 1, by omega, .inr (by omega), by go_num, by go_num, by omega, ?_⟩, by simp [intOf]; omega⟩
        show _ = _
        rw [HOS.out, List.length_append, HK.out]; rfl
    · have d0 : decide ((i : Int) + (p.size : Int) ≤ (t.size : Int)) = false := decide_eq_false (by omega)
      have he := HEND.out i (by omega) hi
      rw [HK.out] at he
      rw [he]
      go_wp2
      go_ret
      exact ⟨rfl, HB.out⟩

end Go.Proofs.YtopihgmemnokkaaGreat

