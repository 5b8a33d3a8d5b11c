import Derived.Test.YtopihgmemnokkaaGreatIntsF
import Derived.Deep.Slices
import Derived.JoinedCond
import Derived.OpenShut
namespace Go.Proofs.YtopihgmemnokkaaGreat
open Go.ChangeShapes Go.WideShapes Go.ChangeAt Go.RowKit

theorem Tryz.laidOut : laidOutB Tryz.prog = true := by kernel_rfl

theorem ints_of {H : Type} {enc : TypeId × Value → H} {W : World} {v : Value} {fuel : Nat} {x : DataW H × List MemPlace} (h : DataW.trod enc Tryz.prog W 0 (fun _ => true) true fuel 30 [v] = some x) : ∃ n, IntsIn W v n := by
  rcases Go.Deep.open_slice Tryz.underlying30 h with ⟨h0, _⟩ | ⟨a, len, cap, m, n, D, Pl, hcs, hb, hl, hm, hmm, _, hx⟩
  · exact ⟨0, .inl ⟨by simpa using h0, rfl⟩⟩
  · have hlm : len ≤ m := by rw [hmm]; split <;> omega
    have hv : v = .slice (some a) len cap := by simpa using hcs
    refine ⟨len, .inr ⟨a, cap, hv, fun i hi => ?_⟩⟩
    obtain ⟨cs', h1, h2⟩ := hx i (by omega)
    have ce : Tryz.prog.cellsOf 3 = 1 := by kernel_rfl
    rw [ce] at h1
    obtain ⟨_, hlen, hcell⟩ := World.cells?_some h1
    obtain ⟨K, rfl, _, wf⟩ := DataW.trod_int Tryz.underlying3 h2
    have e0 := hcell 0 (by omega)
    have hr : -9223372036854775808 ≤ K ∧ K ≤ 9223372036854775807 := by simpa [Lit.wf, IntKind.min, IntKind.max, IntKind.signed, IntKind.bits] using wf
    exact ⟨K, by simpa [Addr.add] using e0, hr.1, hr.2⟩

end Go.Proofs.YtopihgmemnokkaaGreat

