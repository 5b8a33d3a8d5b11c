import Derived.Test.YtopihgmemnokkaaGreatWalk6C
import Derived.Test.YtopihgmemnokkaaGreatBuiltC
import Derived.Deep.RegionHeld
import Derived.Deep.QuietTactic
import Derived.BigQuiet
namespace Go.Proofs.YtopihgmemnokkaaGreat
open Go.RowKit

theorem sort_one (s : ByteArray) (kb rb n : Nat) (X : Array Value) (h : X.all (·.oneCell') = true) :
    (#[Value.string s, Value.slice (some ⟨kb, 0, none⟩) n n] ++ X ++ #[Value.slice (some ⟨rb, 0, none⟩) n n]).all (·.oneCell') = true := by
  rw [Array.all_append, Array.all_append, h]
  simp [Value.oneCell']

set_option maxRecDepth 100000 in
set_option maxHeartbeats 2000000 in
theorem sorted_any (s : ByteArray) (w : World) (hs : s.size ≤ 1000) :
    Calls Tryz.prog 87 #[.string s] w fun e w' => ∃ (rb : Nat) (rows B : Nat → Nat), e = .returned (.slice (some ⟨rb, 0, none⟩) (s.size + 1) (s.size + 1)) ∧ w.heap.size ≤ rb ∧
      Row w' rb 3 (s.size + 1) rows ∧ Cc.Down s.size (LT s) (before s) 0 rows B ∧ Below w.heap.size w w' := by
  have hmf : ∀ (fn : Fn) (first cap : Array Value) (w : World), (Instr.makeFunc fn first cap).run Tryz.prog w = .ok (.func fn first cap) w := fun _ _ _ _ => rfl
  have hmk := fun w => make_rows (s.size + 1) (by omega) w
  have ec : ((s.size + 1 : Nat) : Int) = (s.size : Int) + 1 := by omega
  simp only [ec] at hmk
  clear ec
  go_enter Tryz.func87, Tryz.ntmps87
  go_wp2_with fail
  refine (kinds_any s _ hs).mono ?_
  rintro e w1 ⟨rfl, hK, hB1⟩
  have hs1 := hB1.size
  simp only [World.size_alloc] at hK hB1 hs1
  have ct1 : w1.cell? ⟨w.heap.size, 0, none⟩ = some (.string s) := by
    rw [hB1.cell (p := ⟨w.heap.size, 0, none⟩) (by simp)]; simp
  go_wp2_with fail
  have hsv := survey_any s (w.heap.size + 1) w1 hs hK
  refine hsv.mono ?_
  clear hsv
  rintro e w2 ⟨v, rfl, hown, hB2⟩
  have hvn : 0 < (valsTo s (s.size + 1)).length := by
    apply List.length_pos_of_mem (a := s.size)
    unfold valsTo
    rw [List.mem_filter, List.mem_range]
    exact ⟨by omega, by simp [Cc.val]⟩
  obtain ⟨vb, cap, rfl, hvb⟩ : ∃ vb cap, v = .slice (some ⟨vb, 0, none⟩) (valsTo s (s.size + 1)).length cap ∧ w1.heap.size + 3 ≤ vb := by
    rcases hown.2 with ⟨_, h0⟩ | ⟨g, cap, cur, rfl, hb, _⟩
    · omega
    · exact ⟨g, cap, rfl, hb⟩
  have hvb2 := (hown.lt vb rfl).2
  generalize hX : rowC 771 (sh3 (Cc.frontOf s.size (LT s)) (Cc.midOf s.size (LT s) (before s)) (Cc.backOf s.size (LT s))) = X
  have HX : Hid (rowC 771 (sh3 (Cc.frontOf s.size (LT s)) (Cc.midOf s.size (LT s) (before s)) (Cc.backOf s.size (LT s))) = X) := hX
  have hX1 : X.size = 771 := by rw [← hX, size_rowC]
  have hX2 : X.all (·.oneCell') = true := by rw [← hX]; exact rowC_one _ _
  clear hX
  have ct2 : w2.cell? ⟨w.heap.size, 0, none⟩ = some (.string s) := (hB2.cell (p := ⟨w.heap.size, 0, none⟩) (by simp; omega)).trans ct1
  have hnew : (w2.alloc (Obj.cells (rowC 771 fun _ => 0) 199)).heap[w2.heap.size]? = some (.cells (rowC 771 fun _ => 0) 199 (0, 0)) := heap_alloc_new w2 _
  go_wp2_with (first
    | (refine wpList_alloc_row rfl 199 rfl _ zero771 ?_)
    | (refine wpList_store_row rfl 199 _ _ rfl w2.heap.size X rfl rfl 199 (rowC 771 fun _ => 0) (by exact hnew) (by rw [hX1]; exact size771) (by rw [hX1, size_rowC]) hX2 ?_))
  have hz3 : ((w2.alloc (Obj.cells (rowC 771 fun _ => 0) 199)).setRow w2.heap.size X).heap.size = w2.heap.size + 1 := by simp
  have hX3 : ((w2.alloc (Obj.cells (rowC 771 fun _ => 0) 199)).setRow w2.heap.size X).heap[w2.heap.size]? = some (.cells X 199 (0, 0)) := setRow_heap _ _ _ X _ _ hnew
  have hB3 : Below w2.heap.size w2 ((w2.alloc (Obj.cells (rowC 771 fun _ => 0) 199)).setRow w2.heap.size X) := below_setRow ((Below.refl _ _).alloc (Nat.le_refl _) _) (Nat.le_refl _) _
  have hown3 := (hown.kept (w' := (w2.alloc (Obj.cells (rowC 771 fun _ => 0) 199)).setRow w2.heap.size X) (row := none) ⟨hB3.os, hB3.tape, hB3.output, hB3.size, fun k hk _ => hB3.block k hk⟩ (Or.inr (by simp [Value.ownBlock])))
  generalize (w2.alloc (Obj.cells (rowC 771 fun _ => 0) 199)).setRow w2.heap.size X = w3 at *
  have ct3 : w3.cell? ⟨w.heap.size, 0, none⟩ = some (.string s) := (hB3.cell (p := ⟨w.heap.size, 0, none⟩) (by have := hB2.size; simp; omega)).trans ct2
  have hK3 : Row w3 (w.heap.size + 1) 233 (s.size + 1) (kindN s) := (hK.below hB2 hK.lt).below hB3 (by have := hB2.size; have := hK.lt; omega)
  refine (sort_any s w.heap.size vb cap _ w3 hs ct3 (by omega) hown3).mono ?_
  rintro e w4 ⟨rfl, V, SV, hVl, hP, hK4⟩
  have hz2 := hB2.size
  have hkl := hK.lt
  have ct4 : w4.cell? ⟨w.heap.size, 0, none⟩ = some (.string s) := cell_kept hK4 ct3 (by simp; omega)
  have hKi4 : Row w4 (w.heap.size + 1) 233 (s.size + 1) (kindN s) := hK4.row hK3 (by omega)
  have hX4 : w4.heap[w2.heap.size]? = some (.cells X 199 (0, 0)) := by rw [hK4.block _ (by omega) (by omega)]; exact hX3
  clear hnew hX3 hown3 hown hK hK3 ct1 ct2 ct3 hz3
  have hXlt : w2.heap.size < w4.heap.size := (Array.getElem?_eq_some_iff.1 hX4).1
  go_wp2_with fail
  refine wp_region_held_drew (S := fun w' => w'.cell? ⟨w.heap.size, 0, none⟩ = some (.string s) ∧ w'.heap[w2.heap.size]? = some (.cells X 199 (0, 0))) (by kernel_rfl) ⟨ct4, hX4⟩ (fun hS0 => ?_)
  refine wpAnyH_take (i := 0) (v := .string s) rfl (by kernel_rfl) (by kernel_rfl) (by kernel_rfl) (fun _ _ _ h => h) (Or.inl ⟨by rfl, ?_⟩) hS0 ?_
  · intro wq hq; have hq1 := hq.1; clear hq; go_simp
  simp only [Act.put, List.setIfInBounds_toArray]
  refine wpAnyH_take (i := 1) (v := .slice (some ⟨w.heap.size + 1, 0, none⟩) (s.size + 1) (s.size + 1)) rfl (by kernel_rfl) (by kernel_rfl) (by kernel_rfl) (fun _ _ _ h => h) (Or.inl ⟨by rfl, ?_⟩) hS0 ?_
  · intro wq hq; clear hq; go_simp
  simp only [Act.put]
  refine wpAnyH_take (i := 2) (v := .agg X) rfl (by kernel_rfl) (by kernel_rfl) (by kernel_rfl) (fun _ _ _ h => h) (Or.inl ⟨by rfl, ?_⟩) hS0 ?_
  · intro wq hq; have hq2 := hq.2; clear hq; exact exec_load_row 199 (.tmp 4) rfl w2.heap.size rfl 199 X (0, 0) _ hq2 Tryz.underlying199 rfl (by rw [hX1]; exact size771)
  simp only [Act.put]
  refine wpAnyH_take (i := 3) (v := .string s) rfl (by kernel_rfl) (by kernel_rfl) (by kernel_rfl) (fun _ _ _ h => h) (Or.inl ⟨by rfl, ?_⟩) hS0 ?_
  · intro wq hq; have hq1 := hq.1; clear hq; go_simp
  simp only [Act.put]
  refine wpAnyH_take (i := 4) (v := .int .i64 (s.size : Int)) rfl (by kernel_rfl) (by kernel_rfl) (by kernel_rfl) (fun _ _ _ h => h) (Or.inl ⟨by rfl, ?_⟩) hS0 ?_
  · intro wq hq; clear hq; go_simp
  simp only [Act.put]
  refine wpAnyH_take (i := 5) (v := .int .i64 ((s.size : Int) + 1)) rfl (by kernel_rfl) (by kernel_rfl) (by kernel_rfl) (fun _ _ _ h => h) (Or.inl ⟨by rfl, ?_⟩) hS0 ?_
  · intro wq hq; clear hq; go_simp; rw [IntKind.wrap_i64]; omega
  simp only [Act.put]
  refine wpAnyH_ready (rs := [6, 8]) (by kernel_rfl) (by simp) ?_
  refine AllReadyH.cons rfl (fun K hK => ?_) (AllReadyH.cons rfl (fun K hK => ?_) AllReadyH.nil)
  · -- the rows are made first
    go_simp
    have hS1 : ((w4.alloc (Obj.cells (rowC (s.size + 1) fun _ => 0) 3)).drew).cell? ⟨w.heap.size, 0, none⟩ = some (.string s) ∧ ((w4.alloc (Obj.cells (rowC (s.size + 1) fun _ => 0) 3)).drew).heap[w2.heap.size]? = some (.cells X 199 (0, 0)) :=
      ⟨(World.cell?_alloc_lt _ _ _ (World.block_lt_of_cell? w4 _ ct4)).trans ct4, (Below.heap_alloc w4 _ _ hXlt).trans hX4⟩
    refine hK.out _ _ hS1 (fun _ => ?_)
    clear hK K
    refine wpAnyH_take (i := 7) (v := .agg (#[.string s, .slice (some ⟨w.heap.size + 1, 0, none⟩) (s.size + 1) (s.size + 1)] ++ X ++ #[.slice (some ⟨w4.heap.size, 0, none⟩) (s.size + 1) (s.size + 1)])) rfl (by kernel_rfl) (by kernel_rfl) (by kernel_rfl) (fun _ _ _ h => h) (Or.inl ⟨by rfl, ?_⟩) hS1 ?_
    · intro wq hq; clear hq; refine exec_build 205 _ rfl _ ?_; have hbs := built_sort s (w.heap.size + 1) w4.heap.size (s.size + 1) X hX1; simpa [Act.eval] using hbs
    simp only [Act.put, List.setIfInBounds_toArray]
    refine wpAnyH_ready (rs := [8]) (by kernel_rfl) (by simp) ?_
    refine AllReadyH.cons rfl (fun K hK => ?_) AllReadyH.nil
    rw [if_pos (by rfl)]
    refine wp_alloc_row 205 rfl sort0 zero774 ?_
    simp only [Act.put]
    have hS2 : (((w4.alloc (Obj.cells (rowC (s.size + 1) fun _ => 0) 3)).drew).alloc (Obj.cells sort0 205)).cell? ⟨w.heap.size, 0, none⟩ = some (.string s) ∧ (((w4.alloc (Obj.cells (rowC (s.size + 1) fun _ => 0) 3)).drew).alloc (Obj.cells sort0 205)).heap[w2.heap.size]? = some (.cells X 199 (0, 0)) :=
      ⟨(World.cell?_alloc_lt _ _ _ (World.block_lt_of_cell? _ _ hS1.1)).trans hS1.1, (Below.heap_alloc _ _ _ (by simp; omega)).trans hS1.2⟩
    refine hK.out _ _ hS2 (fun _ => ?_)
    clear hK K
    refine wpAnyH_ready (rs := [9]) (by kernel_rfl) (by simp) ?_
    refine AllReadyH.cons rfl (fun K hK => ?_) AllReadyH.nil
    rw [if_pos (by rfl)]
    have ez : ((w4.alloc (Obj.cells (rowC (s.size + 1) fun _ => 0) 3)).drew).heap.size = w4.heap.size + 1 := by simp
    rw [ez]
    refine wp_store_row 205 (.tmp 6) (.tmp 25) rfl (w4.heap.size + 1) _ rfl rfl 205 sort0 ?hg (by rw [show (_ : Array Value).size = 774 from by simp [hX1]]; exact size774) (by rw [sort0_size]; simp [hX1]) ?h1 ?_
    case hg => rw [← ez]; exact heap_alloc_new _ _
    case h1 => exact sort_one _ _ _ _ X hX2
    simp only [Act.put]
    have hrS : Row ((((w4.alloc (Obj.cells (rowC (s.size + 1) fun _ => 0) 3)).drew).alloc (Obj.cells sort0 205)).setRow (w4.heap.size + 1) (#[.string s, .slice (some ⟨w.heap.size + 1, 0, none⟩) (s.size + 1) (s.size + 1)] ++ X ++ #[.slice (some ⟨w4.heap.size, 0, none⟩) (s.size + 1) (s.size + 1)])) w4.heap.size 3 (s.size + 1) (fun _ => 0) :=
      (((Row.new w4 _ _ _).drew).alloc _).setRow_other (by omega) _
    have hsS : ((((w4.alloc (Obj.cells (rowC (s.size + 1) fun _ => 0) 3)).drew).alloc (Obj.cells sort0 205)).setRow (w4.heap.size + 1) (#[.string s, .slice (some ⟨w.heap.size + 1, 0, none⟩) (s.size + 1) (s.size + 1)] ++ X ++ #[.slice (some ⟨w4.heap.size, 0, none⟩) (s.size + 1) (s.size + 1)])).heap[w4.heap.size + 1]? = some (.cells (#[.string s, .slice (some ⟨w.heap.size + 1, 0, none⟩) (s.size + 1) (s.size + 1)] ++ X ++ #[.slice (some ⟨w4.heap.size, 0, none⟩) (s.size + 1) (s.size + 1)]) 205 (0, 0)) :=
      setRow_heap _ _ sort0 _ 205 (0, 0) (by rw [← ez]; exact heap_alloc_new _ _)
    have hBS : Below w4.heap.size w4 ((((w4.alloc (Obj.cells (rowC (s.size + 1) fun _ => 0) 3)).drew).alloc (Obj.cells sort0 205)).setRow (w4.heap.size + 1) (#[.string s, .slice (some ⟨w.heap.size + 1, 0, none⟩) (s.size + 1) (s.size + 1)] ++ X ++ #[.slice (some ⟨w4.heap.size, 0, none⟩) (s.size + 1) (s.size + 1)])) :=
      below_setRow ((((Below.refl _ _).alloc (Nat.le_refl _) _).drew).alloc (by simp) _) (by omega) _
    have hS3 := And.intro ((hBS.cell (p := ⟨w.heap.size, 0, none⟩) (World.block_lt_of_cell? w4 _ ct4)).trans ct4) ((hBS.block _ hXlt).trans hX4)
    generalize (((w4.alloc (Obj.cells (rowC (s.size + 1) fun _ => 0) 3)).drew).alloc (Obj.cells sort0 205)).setRow (w4.heap.size + 1) (#[.string s, .slice (some ⟨w.heap.size + 1, 0, none⟩) (s.size + 1) (s.size + 1)] ++ X ++ #[.slice (some ⟨w4.heap.size, 0, none⟩) (s.size + 1) (s.size + 1)]) = wS at *
    refine hK.out _ _ hS3 (fun _ => ?_)
    clear hK K hS1 hS2 hS3 ez
    refine wpAnyH_done (by kernel_rfl) ?_ _
    have hSrt : Srt s (w4.heap.size + 1) (w.heap.size + 1) (w4.heap.size) (Cc.frontOf s.size (LT s)) (Cc.midOf s.size (LT s) (before s)) (Cc.backOf s.size (LT s)) (fun _ => 0) wS := by
      refine ⟨?_, hKi4.below hBS hKi4.lt, hrS, by omega, by omega, by omega⟩
      rw [hsS, ← HX.out]; rfl
    have hPS : Places wS vb V := fun j i hj => (hBS.cell (p := ⟨vb, j, none⟩) (World.block_lt_of_cell? w4 _ (hP j i hj))).trans (hP j i hj)
    clear hS0 hmk hmf hX4 ct4 hKi4 hsS hrS
    go_wp2_with fail
    rw [← hVl]
    refine (valleys_any s (w4.heap.size + 1) (w.heap.size + 1) (w4.heap.size) vb cap V _ _ _ _ wS hs (by have := valsTo_le s (s.size + 1); omega) hSrt SV hPS (by omega) (by omega) (Cc.Vals.start V (fun _ => rfl) (fun _ => rfl))).mono ?_
    rintro e w6 ⟨rfl, rows1, M1, hSrt1, hV1, hKp1⟩
    go_wp2_with fail
    refine (falling_any s (w4.heap.size + 1) (w.heap.size + 1) (w4.heap.size) _ _ _ _ w6 hs hSrt1 (hV1.up SV (fun _ => rfl))).mono ?_
    rintro e w7 ⟨rfl, rows2, F2, hSrt2, hU2, hKp2⟩
    go_wp2_with fail
    refine (rising_any s (w4.heap.size + 1) (w.heap.size + 1) (w4.heap.size) _ _ _ _ w7 hs hSrt2 (hU2.down (ord s) (fun _ => rfl))).mono ?_
    rintro e w8 ⟨rfl, rows3, B3, hSrt3, hD3, hKp3⟩
    have cR8 := hSrt3.rowsV
    go_wp2
    go_ret
    have hall : Kept (fun k => k = w4.heap.size + 1 ∨ k = w4.heap.size) wS w8 := (hKp1.trans hKp2).trans hKp3
    refine ⟨w4.heap.size, rows3, B3, rfl, by omega, hSrt3.rws, hD3, ?_⟩
    have hz3 := hB3.size
    have hz4 := hK4.size
    have hz5 := hBS.size
    have hb4 : Below w.heap.size w3 w4 := hK4.below (fun k hk => by omega) (by omega)
    have hb0 : Below w.heap.size w w1 := ((Below.refl _ _).alloc (Nat.le_refl _) _).trans (hB1.mono (by omega))
    exact ((((hb0.trans (hB2.mono (by omega))).trans (hB3.mono (by omega))).trans hb4).trans (hBS.mono (by omega))).trans (hall.below (fun k hk => by omega) (by omega))
  · -- the sorting is made first
    rw [if_pos (by rfl)]
    refine wp_alloc_row 205 rfl sort0 zero774 ?_
    simp only [Act.put]
    have hS1 : (w4.drew.alloc (Obj.cells sort0 205)).cell? ⟨w.heap.size, 0, none⟩ = some (.string s) ∧ (w4.drew.alloc (Obj.cells sort0 205)).heap[w2.heap.size]? = some (.cells X 199 (0, 0)) :=
      ⟨(World.cell?_alloc_lt _ _ _ (World.block_lt_of_cell? w4 _ ct4)).trans ct4, (Below.heap_alloc w4.drew _ _ hXlt).trans hX4⟩
    refine hK.out _ _ hS1 (fun _ => ?_)
    clear hK K
    refine wpAnyH_ready (rs := [6]) (by kernel_rfl) (by simp) ?_
    refine AllReadyH.cons rfl (fun K hK => ?_) AllReadyH.nil
    go_simp
    have hB2' : Below w4.heap.size w4 (((w4.alloc (Obj.cells sort0 205)).alloc (Obj.cells (rowC (s.size + 1) fun _ => 0) 3)).drew) := (((Below.refl _ _).alloc (Nat.le_refl _) _).alloc (by simp) _).drew
    have hS2 : (((w4.alloc (Obj.cells sort0 205)).alloc (Obj.cells (rowC (s.size + 1) fun _ => 0) 3)).drew).cell? ⟨w.heap.size, 0, none⟩ = some (.string s) ∧ (((w4.alloc (Obj.cells sort0 205)).alloc (Obj.cells (rowC (s.size + 1) fun _ => 0) 3)).drew).heap[w2.heap.size]? = some (.cells X 199 (0, 0)) :=
      And.intro ((hB2'.cell (p := ⟨w.heap.size, 0, none⟩) (World.block_lt_of_cell? w4 _ ct4)).trans ct4) ((hB2'.block _ hXlt).trans hX4)
    refine hK.out _ _ hS2 (fun _ => ?_)
    clear hK K
    refine wpAnyH_take (i := 7) (v := .agg (#[.string s, .slice (some ⟨w.heap.size + 1, 0, none⟩) (s.size + 1) (s.size + 1)] ++ X ++ #[.slice (some ⟨w4.heap.size + 1, 0, none⟩) (s.size + 1) (s.size + 1)])) rfl (by kernel_rfl) (by kernel_rfl) (by kernel_rfl) (fun _ _ _ h => h) (Or.inl ⟨by rfl, ?_⟩) hS2 ?_
    · intro wq hq; clear hq; refine exec_build 205 _ rfl _ ?_; have hbs := built_sort s (w.heap.size + 1) (w4.heap.size + 1) (s.size + 1) X hX1; simpa [Act.eval] using hbs
    simp only [Act.put, List.setIfInBounds_toArray]
    refine wpAnyH_ready (rs := [9]) (by kernel_rfl) (by simp) ?_
    refine AllReadyH.cons rfl (fun K hK => ?_) AllReadyH.nil
    rw [if_pos (by rfl)]
    have hold : (((w4.alloc (Obj.cells sort0 205)).alloc (Obj.cells (rowC (s.size + 1) fun _ => 0) 3)).drew).heap[w4.heap.size]? = some (.cells sort0 205 (0, 0)) :=
      (Below.heap_alloc _ _ _ (by simp)).trans (heap_alloc_new w4 _)
    refine wp_store_row 205 (.tmp 6) (.tmp 25) rfl w4.heap.size _ rfl rfl 205 sort0 hold (by rw [show (_ : Array Value).size = 774 from by simp [hX1]]; exact size774) (by rw [sort0_size]; simp [hX1]) ?h1 ?_
    case h1 => exact sort_one _ _ _ _ X hX2
    simp only [Act.put]
    have hrS : Row ((((w4.alloc (Obj.cells sort0 205)).alloc (Obj.cells (rowC (s.size + 1) fun _ => 0) 3)).drew).setRow w4.heap.size (#[.string s, .slice (some ⟨w.heap.size + 1, 0, none⟩) (s.size + 1) (s.size + 1)] ++ X ++ #[.slice (some ⟨w4.heap.size + 1, 0, none⟩) (s.size + 1) (s.size + 1)])) (w4.heap.size + 1) 3 (s.size + 1) (fun _ => 0) :=
      ((Row.new' _ _ _ (by simp)).drew).setRow_other (by omega) _
    have hsS : ((((w4.alloc (Obj.cells sort0 205)).alloc (Obj.cells (rowC (s.size + 1) fun _ => 0) 3)).drew).setRow w4.heap.size (#[.string s, .slice (some ⟨w.heap.size + 1, 0, none⟩) (s.size + 1) (s.size + 1)] ++ X ++ #[.slice (some ⟨w4.heap.size + 1, 0, none⟩) (s.size + 1) (s.size + 1)])).heap[w4.heap.size]? = some (.cells (#[.string s, .slice (some ⟨w.heap.size + 1, 0, none⟩) (s.size + 1) (s.size + 1)] ++ X ++ #[.slice (some ⟨w4.heap.size + 1, 0, none⟩) (s.size + 1) (s.size + 1)]) 205 (0, 0)) :=
      setRow_heap _ _ sort0 _ 205 (0, 0) hold
    have hBS : Below w4.heap.size w4 ((((w4.alloc (Obj.cells sort0 205)).alloc (Obj.cells (rowC (s.size + 1) fun _ => 0) 3)).drew).setRow w4.heap.size (#[.string s, .slice (some ⟨w.heap.size + 1, 0, none⟩) (s.size + 1) (s.size + 1)] ++ X ++ #[.slice (some ⟨w4.heap.size + 1, 0, none⟩) (s.size + 1) (s.size + 1)])) := below_setRow hB2' (Nat.le_refl _) _
    have hS3 := And.intro ((hBS.cell (p := ⟨w.heap.size, 0, none⟩) (World.block_lt_of_cell? w4 _ ct4)).trans ct4) ((hBS.block _ hXlt).trans hX4)
    generalize ((((w4.alloc (Obj.cells sort0 205)).alloc (Obj.cells (rowC (s.size + 1) fun _ => 0) 3)).drew).setRow w4.heap.size (#[.string s, .slice (some ⟨w.heap.size + 1, 0, none⟩) (s.size + 1) (s.size + 1)] ++ X ++ #[.slice (some ⟨w4.heap.size + 1, 0, none⟩) (s.size + 1) (s.size + 1)])) = wS at *
    refine hK.out _ _ hS3 (fun _ => ?_)
    clear hK K hS1 hS2 hS3 hold hB2'
    refine wpAnyH_done (by kernel_rfl) ?_ _
    have hSrt : Srt s (w4.heap.size) (w.heap.size + 1) (w4.heap.size + 1) (Cc.frontOf s.size (LT s)) (Cc.midOf s.size (LT s) (before s)) (Cc.backOf s.size (LT s)) (fun _ => 0) wS := by
      refine ⟨?_, hKi4.below hBS hKi4.lt, hrS, by omega, by omega, by omega⟩
      rw [hsS, ← HX.out]; rfl
    have hPS : Places wS vb V := fun j i hj => (hBS.cell (p := ⟨vb, j, none⟩) (World.block_lt_of_cell? w4 _ (hP j i hj))).trans (hP j i hj)
    clear hS0 hmk hmf hX4 ct4 hKi4 hsS hrS
    go_wp2_with fail
    rw [← hVl]
    refine (valleys_any s (w4.heap.size) (w.heap.size + 1) (w4.heap.size + 1) vb cap V _ _ _ _ wS hs (by have := valsTo_le s (s.size + 1); omega) hSrt SV hPS (by omega) (by omega) (Cc.Vals.start V (fun _ => rfl) (fun _ => rfl))).mono ?_
    rintro e w6 ⟨rfl, rows1, M1, hSrt1, hV1, hKp1⟩
    go_wp2_with fail
    refine (falling_any s (w4.heap.size) (w.heap.size + 1) (w4.heap.size + 1) _ _ _ _ w6 hs hSrt1 (hV1.up SV (fun _ => rfl))).mono ?_
    rintro e w7 ⟨rfl, rows2, F2, hSrt2, hU2, hKp2⟩
    go_wp2_with fail
    refine (rising_any s (w4.heap.size) (w.heap.size + 1) (w4.heap.size + 1) _ _ _ _ w7 hs hSrt2 (hU2.down (ord s) (fun _ => rfl))).mono ?_
    rintro e w8 ⟨rfl, rows3, B3, hSrt3, hD3, hKp3⟩
    have cR8 := hSrt3.rowsV
    go_wp2
    go_ret
    have hall : Kept (fun k => k = w4.heap.size ∨ k = w4.heap.size + 1) wS w8 := (hKp1.trans hKp2).trans hKp3
    refine ⟨w4.heap.size + 1, rows3, B3, rfl, by omega, hSrt3.rws, hD3, ?_⟩
    have hz3 := hB3.size
    have hz4 := hK4.size
    have hz5 := hBS.size
    have hb4 : Below w.heap.size w3 w4 := hK4.below (fun k hk => by omega) (by omega)
    have hb0 : Below w.heap.size w w1 := ((Below.refl _ _).alloc (Nat.le_refl _) _).trans (hB1.mono (by omega))
    exact ((((hb0.trans (hB2.mono (by omega))).trans (hB3.mono (by omega))).trans hb4).trans (hBS.mono (by omega))).trans (hall.below (fun k hk => by omega) (by omega))

end Go.Proofs.YtopihgmemnokkaaGreat

namespace Go.Proofs.YtopihgmemnokkaaGreat
open Go.RowKit


theorem ret_str {a b : ByteArray} (h : a = b) : Ending.returned (.string a) = .returned (.string b) := by rw [h]


set_option maxHeartbeats 400000 in
theorem suffixes_any (s : ByteArray) (w : World) (hs : s.size ≤ 1000) :
    Calls Tryz.prog 39 #[.string s] w fun e w' => ∃ (rb : Nat) (rows B : Nat → Nat), e = .returned (.tuple #[.slice (some ⟨rb, 0, none⟩) (s.size + 1) (s.size + 1), .int .i64 0]) ∧ w.heap.size ≤ rb ∧
      Row w' rb 3 (s.size + 1) rows ∧ Cc.Down s.size (LT s) (before s) 0 rows B ∧ Below w.heap.size w w' := by
  go_enter Tryz.func39, Tryz.ntmps39
  go_wp2_with fail
  refine (sorted_any s _ hs).mono ?_
  rintro e w1 ⟨rb, rows, B, rfl, h1, h2, h3, h4⟩
  go_wp2
  go_ret2
  exact ⟨rb, rows, B, rfl, h1, h2, h3, h4⟩

theorem below_drewN {B : Nat} {a w : World} (h : Below B a w) (n : Nat) : Below B a (w.drewN n) := ⟨h.os, h.tape, h.output, h.size, h.block⟩

theorem toList_extract (s : ByteArray) (a : Nat) : (s.extract a s.size).toList = s.data.toList.drop a := by
  rw [ByteArray.toList_eq, Lib.extract_to_end]

end Go.Proofs.YtopihgmemnokkaaGreat

