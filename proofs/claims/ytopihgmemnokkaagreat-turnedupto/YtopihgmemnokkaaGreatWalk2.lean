import Derived.Test.YtopihgmemnokkaaGreatWalk1
import Derived.Test.YtopihgmemnokkaaGreatSh3
import Derived.Test.YtopihgmemnokkaaGreatFacts
namespace Go.Proofs.YtopihgmemnokkaaGreat
open Go.RowKit

set_option maxRecDepth 100000 in
set_option maxHeartbeats 1000000 in
theorem shelves_any (fa fr F M B : Nat → Nat) (w : World) (h0 : F 0 = 0) (hB : ∀ c, c < 257 → F c + fa c = B c) (hF : ∀ c, c < 257 → F (c + 1) = B c) (hM : ∀ c, c < 257 → M c + fr c = B c) (hb : ∀ c, B c ≤ 1001) :
    Calls Tryz.prog 160 #[.agg (rowC 257 fa), .agg (rowC 257 fr)] w fun e w' => e = .returned (.agg (rowC 771 (sh3 F M B))) ∧ Below w.heap.size w w' := by
  have hF0 : Hid (F 0 = 0) := h0
  clear h0
  have hB' : Hid (∀ c, c < 257 → F c + fa c = B c) := hB
  have hM' : Hid (∀ c, c < 257 → M c + fr c = B c) := hM
  have hF' : Hid (∀ c, c < 257 → F (c + 1) = B c) := hF
  clear hB hM hF
  go_enter Tryz.func160, Tryz.ntmps160
  go_wp2_with (refine wpList_alloc_row rfl 199 rfl _ zero771 ?_)
  go_loopw [6, 7, 8, 9] (fun f c b i wr => ∃ p : Nat, p ≤ 257 ∧ i = .int .i64 p ∧ f = .int .i64 (F p : Nat) ∧
    Row wr w.heap.size 234 257 fa ∧ Row wr (w.heap.size + 1) 234 257 fr ∧ Row wr (w.heap.size + 2) 199 771 (fun _ => 0) ∧ Row wr (w.heap.size + 3) 199 771 (shPart F M B p) ∧
    Below w.heap.size w wr) (fun _ _ _ i _ => (257 - intOf i).toNat)
  case atStart =>
    refine ⟨0, by omega, rfl, by rw [hF0.out]; rfl, ?_, ?_, ?_, ?_, ?_⟩
    · exact (((Row.new' _ _ _ rfl).alloc _).alloc _).alloc _
    · exact ((Row.new' _ _ _ (by simp)).alloc _).alloc _
    · exact (Row.new' _ _ _ (by simp)).alloc _
    · exact (Row.new' _ 771 (fun _ => 0) (by simp)).congr fun k _ => by unfold shPart; rw [if_neg (by omega)]
    · exact ((((Below.refl _ _).alloc (Nat.le_refl _) _).alloc (by simp) _).alloc (by simp <;> omega) _).alloc (by simp <;> omega) _
  case round =>
    obtain ⟨p, hp, rfl, rfl, hR0, hR1, hR2, hR3, hBl⟩ := hrel
    by_cases hlt : p < 257
    · have c0 : wr.cell? ⟨w.heap.size, p, none⟩ = some (.int .i64 (fa p : Nat)) := hR0.cell hlt
      have c1 : wr.cell? ⟨w.heap.size + 1, p, none⟩ = some (.int .i64 (fr p : Nat)) := hR1.cell hlt
      have c2 := hR3.cell (i := p * 3) (by omega)
      have c3 := hR3.cell (i := p * 3 + 1) (by omega)
      have c4 := hR3.cell (i := p * 3 + 2) (by omega)
      have f2 := hR3.frozen (p * 3)
      have f3 := hR3.frozen (p * 3 + 1)
      have f4 := hR3.frozen (p * 3 + 2)
      have b1 := hb p
      have e1 := hB'.out p hlt
      have e2 := hM'.out p hlt
      have e3 := hF'.out p hlt
      have hg : Row (((wr.setCell ⟨w.heap.size + 3, p * 3, none⟩ (.int .i64 (F p : Nat))).setCell ⟨w.heap.size + 3, p * 3 + 1, none⟩ (.int .i64 (M p : Nat))).setCell ⟨w.heap.size + 3, p * 3 + 2, none⟩ (.int .i64 (B p : Nat))) (w.heap.size + 3) 199 771 (shPart F M B (p + 1)) :=
        (((hR3.set _ _).set _ _).set _ _).congr fun k _ => shPart_step F M B p k
      have q1 : (F p : Int) + (fa p : Int) = (B p : Nat) := by omega
      have q2 : (B p : Int) - (fr p : Int) = (M p : Nat) := by omega
      have e3' : Hid (F (p + 1) = B p) := e3
      clear e1 e2 e3 hF0
      go_wp2
      refine ⟨⟨p + 1, by omega, by go_num, by rw [e3'.out], ?_, ?_, ?_, hg, ?_⟩, by simp [intOf]; omega⟩
      · exact ((hR0.other (by simp <;> omega) _).other (by simp <;> omega) _).other (by simp <;> omega) _
      · exact ((hR1.other (by simp <;> omega) _).other (by simp <;> omega) _).other (by simp <;> omega) _
      · exact ((hR2.other (by simp <;> omega) _).other (by simp <;> omega) _).other (by simp <;> omega) _
      · exact ((hBl.setCell (by simp <;> omega) _).setCell (by simp <;> omega) _).setCell (by simp <;> omega) _
    · have hp' : p = 257 := by omega
      subst hp'
      go_wp2_with (first
        | (refine wpList_load_row rfl 199 _ rfl (w.heap.size + 3) rfl 199 (rowC 771 (shPart F M B 257)) (0, 0) _ (by exact hR3) Tryz.underlying199 rfl (by rw [size_rowC]; exact size771) ?_)
        | (refine wpList_store_row rfl 199 _ _ rfl (w.heap.size + 2) (rowC 771 (shPart F M B 257)) rfl rfl 199 (rowC 771 fun _ => 0) (by exact hR2) (by rw [size_rowC]; exact size771) (by rw [size_rowC, size_rowC]) (rowC_one _ _) ?_))
      have hfin : Row (wr.setRow (w.heap.size + 2) (rowC 771 (shPart F M B 257))) (w.heap.size + 2) 199 771 (shPart F M B 257) := hR2.setRow _
      refine bodyPost_ret (results_cell_row Tryz.results160 _ _ (w.heap.size + 2) 199 (rowC 771 (shPart F M B 257)) (0, 0) _ rfl hfin Tryz.underlying199 rfl (by rw [size_rowC]; exact size771)) rfl ⟨?_, ?_⟩
      · rw [rowC_congr fun k hk => shPart_all F M B hk]
      · exact below_setRow hBl (by omega) _

end Go.Proofs.YtopihgmemnokkaaGreat
