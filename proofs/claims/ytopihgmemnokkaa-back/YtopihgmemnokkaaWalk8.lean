import Derived.Test.YtopihgmemnokkaaWalk8a
import Derived.Test.YtopihgmemnokkaaCut
import Derived.Deep.QuietTactic
import Derived.BigQuiet
namespace Go.Proofs.Ytopihgmemnokkaa
open Go.RowKit

set_option maxRecDepth 100000 in
set_option maxHeartbeats 1000000 in
theorem keepSorted_any (t : ByteArray) (w : World) :
    Calls Try.prog 3 #[.string t] w fun e w' => e = .returned (.bool true) ∧ Below w.heap.size w w' := by
  go_enter Try.func3, Try.ntmps3
  go_wp2_with fail
  refine (cut_any t 1000 _ (by omega)).mono ?_
  rintro e w' ⟨rfl, rfl⟩
  have hs := cutS_size t 1000
  generalize cutS t 1000 = s at *
  go_wp2_with fail
  refine (suffixes_any s _ hs).mono ?_
  rintro e w1 ⟨rb, rows, B, rfl, h1, hR, hD, hB⟩
  have hb1 : ((s.size + 1 : Nat) : Int) = (s.size : Int) + 1 := by omega
  have hb2 : (((s.size + 1 : Nat) : Int) != (s.size : Int) + 1) = false := by simp
  go_wp2
  go_loopw [5] (fun i wr => ∃ p : Nat, p ≤ s.size + 1 ∧ i = .int .i64 p ∧ Row wr rb 3 (s.size + 1) rows ∧ Below w'.heap.size w' wr) (fun i _ => (s.size + 1) - (intOf i).toNat)
  case atStart => exact ⟨0, by omega, rfl, hR, hB⟩
  case round =>
    clear hb1 hb2 hR hB
    obtain ⟨p, hp, rfl, hR, hB⟩ := hrel
    by_cases hlt : p < s.size + 1
    · have cp : wr.cell? ⟨rb, p, none⟩ = some (.int .i64 (rows p : Nat)) := hR.cell hlt
      have hle := hD.le p (by omega)
      have hi1 : (p : Int) < (s.size : Int) + 1 := by omega
      cases p with
      | zero =>
        generalize rows 0 = x at cp hle
        have d1 : decide ((x : Int) < 0) = false := decide_eq_false (by omega)
        have d2 : decide ((s.size : Int) < (x : Int)) = false := decide_eq_false (by omega)
        go_wp2_with fail
        have d3 : decide (s.size < x) = false := decide_eq_false (by omega)
        go_quiet (fail)
        go_wp2
        exact ⟨⟨1, by omega, by go_num, hR, below_drewN hB nq⟩, by simp [intOf]⟩
      | succ q =>
        have cq : wr.cell? ⟨rb, q, none⟩ = some (.int .i64 (rows q : Nat)) := hR.cell (by omega)
        have hle2 := hD.le q (by omega)
        have hso := (hD.sorted (ord s) (p := q) (q := q + 1) (by omega) (by omega)).2.2
        unfold before at hso
        rw [← toList_extract, ← toList_extract] at hso
        generalize rows (q + 1) = x at cp hle hso
        generalize rows q = y at cq hle2 hso
        have d1 : decide ((x : Int) < 0) = false := decide_eq_false (by omega)
        have d2 : decide ((s.size : Int) < (x : Int)) = false := decide_eq_false (by omega)
        have d3 : decide (s.size < x) = false := decide_eq_false (by omega)
        have hx1 : (x : Int) ≤ (s.size : Int) := by omega
        have hy1 : (y : Int) ≤ (s.size : Int) := by omega
        have hqn : q < s.size := by omega
        go_wp2_with fail
        go_quiet (fail)
        go_wp2
        exact ⟨⟨q + 2, by omega, by go_num, hR, below_drewN hB nq⟩, by simp [intOf]; omega⟩
    · have hp' : p = s.size + 1 := by omega
      subst hp'
      go_wp2
      go_ret
      exact ⟨rfl, hB⟩

end Go.Proofs.Ytopihgmemnokkaa
