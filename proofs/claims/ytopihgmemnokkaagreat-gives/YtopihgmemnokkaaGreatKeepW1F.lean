import Derived.Test.YtopihgmemnokkaaGreatAppF
import Derived.Test.YtopihgmemnokkaaGreatWorldF
import Derived.Test.YtopihgmemnokkaaGreatIdxW4F
import Derived.Test.YtopihgmemnokkaaGreatPickF
import Derived.Test.YtopihgmemnokkaaGreatCutF
namespace Go.Proofs.YtopihgmemnokkaaGreat
open Go.RowKit

/-- the document's example -/
def abr : ByteArray := ⟨#[97, 98, 114, 97, 99, 97, 100, 97, 98, 114, 97]⟩
theorem abr_2 : (occT abr ⟨#[97, 98, 114, 97]⟩ (abr.size + 1)).length = 2 := by
  rw [← occ_text]; decide +kernel
theorem abr_a : occT abr ⟨#[97]⟩ (abr.size + 1) = [0, 3, 5, 7, 10] := by
  rw [← occ_text]; decide +kernel
theorem abr_x : abr.extract 3 7 = ⟨#[97, 99, 97, 100]⟩ := by decide +kernel
theorem abr_ok : BuildOk abr 3 := ⟨by decide, by decide, by decide⟩

set_option maxRecDepth 100000 in
set_option maxHeartbeats 2000000 in
theorem kindex_any {PI : Lay} (hI : PI.Ok) (hS : PI.Says) (t : ByteArray) (ht : t.size ≤ 1000) (rate : Int) (h1 : -9223372036854775808 ≤ rate) (h2 : rate ≤ 9223372036854775807) (w : World) :
    Calls Tryz.prog 14 #[.string t, .int .i64 rate] w fun e w' => ∃ (b : Nat) (rt : Int), e = .returned (.pointer (some ⟨b, 0, none⟩)) ∧ BuildOk t rt ∧ PI w.heap.size w'.heap.size b t rt w' ∧ Below w.heap.size w w' := by
  go_enter Tryz.func14, Tryz.ntmps14
  go_wp2_with fail
  refine (pick_any rate 64 w h1 h2 (by omega) (by omega)).mono ?_
  rintro e w' ⟨⟨v, rfl, hv⟩, rfl⟩
  have hok : BuildOk t (1 + (v : Int)) := ⟨ht, by omega, by omega⟩
  have hbd := hS.build t (1 + (v : Int)) w' (by omega) (by omega) (by omega)
  go_wp2_with fail
  refine hbd.mono ?_
  rintro e w1 (⟨hno, _⟩ | ⟨_, b, rfl, hP1, hB1⟩)
  · exact absurd hok hno
  have HP1 : Hid (PI w'.heap.size w1.heap.size b t (1 + (v : Int)) w1) := hP1
  have HB1 : Hid (Below w'.heap.size w' w1) := hB1
  have HOK : Hid (BuildOk t (1 + (v : Int))) := hok
  clear hbd hP1 hB1 hok
  have hbd := hS.build abr 3 w1 (by decide) (by omega) (by omega)
  go_wp2_with fail
  refine hbd.mono ?_
  rintro e w2 (⟨hno, _⟩ | ⟨_, y, rfl, hP2, hB2⟩)
  · exact absurd abr_ok hno
  have HP2 : Hid (PI w1.heap.size w2.heap.size y abr 3 w2) := hP2
  have HB2 : Hid (Below w1.heap.size w1 w2) := hB2
  clear hbd hP2 hB2
  have hct := hS.count w1.heap.size w2.heap.size y abr ⟨#[97, 98, 114, 97]⟩ 3 w2 HP2.out abr_ok (by decide)
  rw [abr_2] at hct
  go_wp2_with fail
  refine hct.mono ?_
  rintro e w3 ⟨rfl, hB3⟩
  have hP3 := hI.keep (fun _ => False) _ _ _ _ _ _ _ HP2.out (Kept.of_below hB3 (Nat.le_refl _) (fun _ => False)) (fun _ _ _ h => h)
  have HP3 : Hid (PI w1.heap.size w2.heap.size y abr 3 w3) := hP3
  have HB3 : Hid (Below w2.heap.size w2 w3) := hB3
  clear hct hP3 hB3
  have hlc := hS.locate w1.heap.size w2.heap.size y abr ⟨#[97]⟩ 3 w3 HP3.out abr_ok (by decide)
  rw [abr_a] at hlc
  go_wp2_with fail
  refine hlc.mono ?_
  rintro e w4 ⟨lv, rfl, hL4, hB4⟩
  obtain ⟨g, cap, rfl, _, _⟩ := hL4.form (by decide)
  have c4 := hL4.cells (g := g) rfl 4 _ rfl
  have hgl := (hL4.lt g rfl).2
  have hP4 := hI.keep (fun _ => False) _ _ _ _ _ _ _ HP3.out (Kept.of_below hB4 (Nat.le_refl _) (fun _ => False)) (fun _ _ _ h => h)
  have HP4 : Hid (PI w1.heap.size w2.heap.size y abr 3 w4) := hP4
  have HB4 : Hid (Below w3.heap.size w3 w4) := hB4
  have c4' : w4.cell? ⟨g, 4, none⟩ = some (.int .i64 10) := c4
  clear hlc hP4 hB4 hL4 c4
  have hex := hS.extract w1.heap.size w2.heap.size y abr 3 3 7 w4 HP4.out abr_ok (by omega) (by omega)
  go_wp2_with fail
  refine hex.mono ?_
  rintro e w5 ⟨⟨s, n, rfl, hA⟩, hB5⟩
  obtain ⟨rfl, rfl⟩ : s = ⟨#[97, 99, 97, 100]⟩ ∧ n = 0 := by
    rcases hA with ⟨_, _, _, hs, hn⟩ | ⟨hn, _⟩
    · exact ⟨hs.trans abr_x, hn⟩
    · exact absurd ⟨by omega, by omega, by decide⟩ hn
  have c5 : w5.cell? ⟨g, 4, none⟩ = some (.int .i64 10) := (hB5.cell (p := ⟨g, 4, none⟩) hgl).trans c4'
  have b1 := HB1.out
  have b2 := HB2.out
  have b3 := HB3.out
  have b4 := HB4.out
  have z1 := b1.size
  have z2 := b2.size
  have z3 := b3.size
  have z4 := b4.size
  have z5 := hB5.size
  have hB : Below w1.heap.size w1 w5 := ((b2.trans (b3.mono z2)).trans (b4.mono (by omega))).trans (hB5.mono (by omega))
  have hPx := hI.keep (fun _ => False) _ _ _ _ _ _ _ HP1.out (Kept.of_below hB (Nat.le_refl _) (fun _ => False)) (fun _ _ _ h => h)
  have HPX : Hid (PI w'.heap.size w5.heap.size b t (1 + (v : Int)) w5) := hI.more _ _ _ _ _ _ _ hPx hB.size (Nat.le_refl _)
  have HBX : Hid (Below w'.heap.size w' w5) := b1.trans (hB.mono z1)
  clear hex hA c4' b1 b2 b3 b4 hB hPx HP1 HP2 HP3 HP4 HB1 HB2 HB3 HB4 hB5 z1 z2 z3 z4 z5
  go_wp2
  go_ret
  exact ⟨b, _, rfl, HOK.out, HPX.out, HBX.out⟩

end Go.Proofs.YtopihgmemnokkaaGreat

