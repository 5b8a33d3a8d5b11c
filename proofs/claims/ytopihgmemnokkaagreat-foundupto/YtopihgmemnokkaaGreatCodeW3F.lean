import Derived.Test.YtopihgmemnokkaaGreatCodeW2F
import Derived.Shelf.Spec.SlicesInsertGrow
import Derived.Deep.RegionLaw
namespace Go.Proofs.YtopihgmemnokkaaGreat
open Go.RowKit Go.Shelf Go.Lib

theorem Tryz.info178 : (Tryz.prog.info? 178).map (fun i => (i.zero, i.size, i.bytes)) = some (some (.pointer none), 1, 8) := by kernel_rfl
theorem size1T : (Tryz.prog.info? 178).map (·.size) = some 1 := by
  obtain ⟨i0, hi0, h0, h1, h2⟩ := info_parts Tryz.info178
  rw [hi0]; simp [h1]

/-- one thing goes in: at the end, in place -/
theorem ins_end_room (g off n c vb : Nat) (x : Value) (w : World) (hroom : n + 1 ≤ c) (hc63 : c ≤ 9223372036854775807) (hx1 : x.oneCell' = true)
    (hsp : (w.cell? ⟨g, off + n, none⟩).isSome = true) (hfz : w.frozen? ⟨g, off + n, none⟩ = false) (hv : w.cell? ⟨vb, 0, none⟩ = some x) :
    Calls Tryz.prog 155 #[.slice (some ⟨g, off, none⟩) n c, .int .i64 (n : Nat), .slice (some ⟨vb, 0, none⟩) 1 1] w fun e w' =>
      e = .returned (.slice (some ⟨g, off, none⟩) (n + 1) c) ∧ w' = w.setCells g (off + n) [x] := by
  have hsrc : Src Tryz.prog 1 175 (.slice (some ⟨vb, 0, none⟩) 1 1) 1 [x] w := Src.ofSlice w Tryz.underlying175 ⟨vb, 0, none⟩ 1 1 [x] rfl (fun j u hj => by
    have : j = 0 := by
      have := (List.getElem?_eq_some_iff.1 hj).1; simp at this; omega
    subst this
    have e : x = u := by simpa using hj
    rw [← e]; exact hv) (by simp [hx1])
  have hnn : ((n : Int) == (n : Int)) = true := by simp
  go_enter Tryz.func155, Tryz.ntmps155
  go_wp2_with (at_builtin; refine wpList_append_room1 _ rfl _ _ 175 175 rfl 178 _ _ Tryz.underlying175 Tryz.info178 g off n c rfl _ rfl 1 [x] hsrc hroom ?c1 ?c2 ?_)
  case c1 => intro j hj; have : j = 0 := by simp at hj; omega
             subst this; exact hsp
  case c2 => intro j hj; have : j = 0 := by simp at hj; omega
             subst this; exact hfz
  go_ret
  exact ⟨rfl, rfl⟩

/-- .. at the end, into a new row -/
theorem ins_end_grow (g off n c vb : Nat) (cs : List Value) (x : Value) (w : World) (hnc : n ≤ c) (hroom : c < n + 1) (hbig : n ≤ 1000) (hx1 : x.oneCell' = true) (hcl : cs.length = n)
    (hcs : ∀ j v, cs[j]? = some v → w.cell? ⟨g, off + j, none⟩ = some v) (hv : w.cell? ⟨vb, 0, none⟩ = some x) :
    Calls Tryz.prog 155 #[.slice (some ⟨g, off, none⟩) n c, .int .i64 (n : Nat), .slice (some ⟨vb, 0, none⟩) 1 1] w fun e w' =>
      e = .returned (.slice (some ⟨w.heap.size, 0, none⟩) (n + 1) (grownCap w (n + 1) c 178)) ∧
      w' = w.drew.alloc (.cells ((cs ++ [x]).toArray ++ Builtin.zeroCells (Value.pointer none).cells (grownCap w (n + 1) c 178 - (n + 1))) 178) := by
  obtain ⟨i0, hi0, hz0, hzs, hzb⟩ := info_parts Tryz.info178
  have hsrc : Src Tryz.prog i0.size 175 (.slice (some ⟨vb, 0, none⟩) 1 1) 1 [x] w := by
    rw [hzs]
    exact Src.ofSlice w Tryz.underlying175 ⟨vb, 0, none⟩ 1 1 [x] rfl (fun j u hj => by
      have : j = 0 := by
        have := (List.getElem?_eq_some_iff.1 hj).1; simp at this; omega
      subst this
      have e : x = u := by simpa using hj
      rw [← e]; exact hv) (by simp [hx1])
  have hold : (Builtin.firstCells i0.size n (.slice (some ⟨g, off, none⟩) n c)).run Tryz.prog w.drew = .ok cs.toArray w.drew := by
    rw [hzs]
    exact run_firstCells_some w.drew 1 n ⟨g, off, none⟩ n c cs (by omega) (fun j v hj => by rw [Addr.add_lit]; exact hcs j v hj)
  have hrun : ∀ ty, (Builtin.append_ #[175, 175] ty #[.slice (some ⟨g, off, none⟩) n c, .slice (some ⟨vb, 0, none⟩) 1 1]).run Tryz.prog w = _ := fun ty =>
    run_append_grow_src w 175 175 ty 178 i0 _ Tryz.underlying175 hi0 hz0 (some ⟨g, off, none⟩) n c cs hold _ 1 [x] hsrc hroom (by omega) (by rw [hzb]; exact growslice_fits hroom (by omega))
  have hnn : ((n : Int) == (n : Int)) = true := by simp
  have hcn : (c : Int) = (n : Int) := by omega
  go_enter Tryz.func155, Tryz.ntmps155
  go_wp2_with (at_builtin; refine Lib.wpList_append_run _ rfl _ _ _ _ rfl _ _ rfl rfl _ _ (hrun _) ?_)
  go_ret
  exact ⟨rfl, rfl⟩

set_option maxHeartbeats 1000000 in
set_option maxRecDepth 100000 in
/-- .. ahead of others, in place -/
theorem ins_shift (g off n c i vb : Nat) (cs : List Value) (x : Value) (w : World) (hi : i < n) (hroom : n + 1 ≤ c) (hc63 : c ≤ 9223372036854775807) (hvb : vb ≠ g) (hx1 : x.oneCell' = true) (hcl : cs.length = n) (h1c : ∀ v ∈ cs, v.oneCell' = true)
    (hcs : ∀ j v, cs[j]? = some v → w.cell? ⟨g, off + j, none⟩ = some v) (hsp : ∀ j, j < n + 1 → (w.cell? ⟨g, off + j, none⟩).isSome = true) (hfz : ∀ j, w.frozen? ⟨g, j, none⟩ = false) (hvz : ∀ j, w.frozen? ⟨vb, j, none⟩ = false)
    (hv : w.cell? ⟨vb, 0, none⟩ = some x) (tA tB : TypeId) (kA kB : Nat) (hsa : w.shape? vb = some (tA, kA)) (hsb : w.shape? g = some (tB, kB)) (hkB : kB ≠ 0) :
    Calls Tryz.prog 155 #[.slice (some ⟨g, off, none⟩) n c, .int .i64 (i : Nat), .slice (some ⟨vb, 0, none⟩) 1 1] w fun e w' =>
      e = .returned (.slice (some ⟨g, off, none⟩) (n + 1) c) ∧ w' = (w.drew.setCells g (off + (i + 1)) (cs.drop i)).setCells g (off + i) [x] := by
  have hov : ∀ lb cb, (callFunc 182 #[.slice (some ⟨vb, 0, none⟩) 1 1, .slice (some ⟨g, off + (i + 1), none⟩) lb cb]).run Tryz.prog w = .ok (.value (.bool false)) w := fun lb cb => by
    rw [run_callFunc_extern Tryz.func182 (by kernel_rfl) (by kernel_rfl) (by kernel_rfl) (e := Extern.SlicesOverlaps.overlaps #[175, 175] #[4]) (by kernel_rfl),
      Lib.run_overlaps_apart w 175 4 178 Tryz.underlying175 1 Tryz.sizeOf178 ⟨vb, 0, none⟩ ⟨g, off + (i + 1), none⟩ 1 1 lb cb hvb tA tB kA kB hsa hsb hkB (hvz _) (hvz _)]
    rfl
  have hdl : (cs.drop i).length = n - i := by rw [List.length_drop, hcl]
  have hcp1 : ∀ ty dc sc, (Builtin.copy_ #[175, 175] ty #[.slice (some ⟨g, off + (i + 1), none⟩) (n + 1 - (i + 1)) dc, .slice (some ⟨g, off + i, none⟩) (n + 1 - i) sc]).run Tryz.prog w.drew = .ok (goInt (cs.drop i).length) (w.drew.setCells g (off + (i + 1)) (cs.drop i)) := fun ty dc sc =>
    run_copy_cells w.drew _ _ ty 178 g (off + (i + 1)) (n + 1 - (i + 1)) dc ⟨g, off + i, none⟩ (n + 1 - i) sc (cs.drop i) Tryz.underlying175 size1T (by rw [hdl]; simp only [Nat.min_def]; split <;> omega)
      (fun j v hj => by rw [Addr.add_lit, Nat.add_assoc]; exact hcs (i + j) v (by rwa [List.getElem?_drop] at hj))
      (fun j hj => by rw [Nat.add_assoc]; exact hsp _ (by omega)) (fun j hj => hfz _) (fun v hv => h1c v (List.mem_of_mem_drop hv))
  obtain ⟨W1, hW1⟩ : ∃ W1, W1 = w.drew.setCells g (off + (i + 1)) (cs.drop i) := ⟨_, rfl⟩
  have hsp1 : ∀ k, k < n + 1 → (W1.cell? ⟨g, off + k, none⟩).isSome = true := fun k hk => by
    rw [hW1]
    exact isSome_setCells g _ _ _ (fun j hj => by rw [Nat.add_assoc]; exact hsp _ (by omega)) _ (hsp k hk)
  have hcp2 : ∀ (W : World), (∀ x, W.cell? x = W1.cell? x) → (∀ x, W.frozen? x = W1.frozen? x) → ∀ ty dc, (Builtin.copy_ #[175, 175] ty #[.slice (some ⟨g, off + i, none⟩) (n + 1 - i) dc, .slice (some ⟨vb, 0, none⟩) 1 1]).run Tryz.prog W = .ok (goInt [x].length) (W.setCells g (off + i) [x]) := fun W hWc hWf ty dc =>
    run_copy_cells W _ _ ty 178 g (off + i) (n + 1 - i) dc ⟨vb, 0, none⟩ 1 1 [x] Tryz.underlying175 size1T (by simp only [List.length_cons, List.length_nil, Nat.min_def]; split <;> omega)
      (fun j v hj => by
        have hj0 : j = 0 := by
          have := (List.getElem?_eq_some_iff.1 hj).1; simp at this; omega
        subst hj0
        have e : x = v := by simpa using hj
        rw [Addr.add_lit, hWc, hW1, World.cell?_setCells_out g _ _ _ _ (fun h _ => absurd h hvb), ← e]
        exact hv)
      (fun j hj => by simp at hj; rw [hWc, Nat.add_assoc]; exact hsp1 _ (by omega)) (fun j hj => by rw [hWf, hW1, World.frozen?_setCells]; exact hfz _) (by simp [hx1])
  rw [← hW1] at hcp1
  have hne : ((i : Int) == (n : Int)) = false := by simp; omega
  have hnc : ¬ ((c : Int) < (n : Int) + 1) := by omega
  have hin : (i : Int) ≤ (n : Int) := by omega
  have hic : ¬ (c = i + 1) := by omega
  have hic2 : ¬ (c = i) := by omega
  go_enter Tryz.func155, Tryz.ntmps155
  go_wp2_with (simp only [hov])
  have hw1 : IntKind.i64.wrap ((i : Int) + 1) = (i : Int) + 1 := by rw [IntKind.wrap_i64]; omega
  have hb1 : (0 : Int) ≤ (i : Int) + 1 := by omega
  have htn : ((i : Int) + 1).toNat = i + 1 := by omega
  have hb2 : (i : Int) + 1 ≤ (n : Int) + 1 := by omega
  have hb3 : (i : Int) ≤ (n : Int) + 1 := by omega
  go_region_law (refine step_copy_runI rfl _ _ 175 175 rfl (.slice (some ⟨g, off + (i + 1), none⟩) (n + 1 - (i + 1)) (c - (i + 1))) (.slice (some ⟨g, off + i, none⟩) (n + 1 - i) (c - i)) (by simp [Act.eval, Act.put]) (by simp [Act.eval, Act.put]) (hcp1 _ _ _) ?_)
  go_wp2_with (at_builtin; refine wpList_copy_runI _ rfl _ _ 175 175 rfl _ _ rfl rfl (hcp2 _ (fun _ => rfl) (fun _ => rfl) _ _) ?_)
  go_ret
  exact ⟨rfl, rfl⟩

set_option maxHeartbeats 1000000 in
set_option maxRecDepth 100000 in
/-- .. ahead of others, into a new row -/
theorem ins_grow (g off n c i vb : Nat) (cs : List Value) (x : Value) (w : World) (hi : i < n) (hnc : n ≤ c) (hroom : c < n + 1) (hbig : n ≤ 1000) (hx1 : x.oneCell' = true) (hcl : cs.length = n) (h1c : ∀ v ∈ cs, v.oneCell' = true)
    (hcs : ∀ j v, cs[j]? = some v → w.cell? ⟨g, off + j, none⟩ = some v) (hv : w.cell? ⟨vb, 0, none⟩ = some x) :
    Calls Tryz.prog 155 #[.slice (some ⟨g, off, none⟩) n c, .int .i64 (i : Nat), .slice (some ⟨vb, 0, none⟩) 1 1] w fun e w' =>
      ∃ (G : Nat) (ROW : Array Value), e = .returned (.slice (some ⟨w.heap.size, 0, none⟩) (n + 1) G) ∧ n + 1 ≤ G ∧ G ≤ 9223372036854775807 ∧ ROW.size = G ∧ ROW.toList.take i = cs.take i ∧
      w' = (((w.alloc (.cells ROW 178)).drew.setCells w.heap.size i [x]).drew).setCells w.heap.size (i + 1) (cs.drop i) := by
  obtain ⟨i0, hi0, hz0, hzs, hzb⟩ := info_parts Tryz.info178
  have hgw : g < w.heap.size := World.block_lt_of_cell? _ _ (hcs 0 _ (List.getElem?_eq_getElem (by omega)))
  have hvw : vb < w.heap.size := World.block_lt_of_cell? _ _ hv
  have hkk : (n : Int) + 1 - (i : Int) = ((n + 1 - i : Nat) : Int) := by omega
  have hik : i + (n + 1 - i) = n + 1 := by omega
  have hold : (Builtin.firstCells i0.size i (.slice (some ⟨g, off, none⟩) i c)).run Tryz.prog w.drew = .ok (cs.take i).toArray w.drew := by
    rw [hzs]
    exact run_firstCells_some w.drew 1 i ⟨g, off, none⟩ i c (cs.take i) (by rw [List.length_take]; omega) (fun j v hj => by
      rw [Addr.add_lit]
      rw [List.getElem?_take] at hj
      split at hj
      · exact hcs j v hj
      · cases hj)
  obtain ⟨G, hG⟩ : ∃ G, G = grownCap w (n + 1) c 178 := ⟨_, rfl⟩
  obtain ⟨ROW, hROW⟩ : ∃ ROW : Array Value, ROW = (cs.take i).toArray ++ Builtin.zeroCells (Value.pointer none).cells (n + 1 - i) ++ Builtin.zeroCells (Value.pointer none).cells (G - (n + 1)) := ⟨_, rfl⟩
  have hrz : ∀ ty, (Builtin.append_ #[175, 3] ty #[.slice (some ⟨g, off, none⟩) i c, .int .i64 ((n : Int) + 1 - (i : Int))]).run Tryz.prog w = .ok (.slice (some ⟨w.heap.size, 0, none⟩) (n + 1) G) (w.drew.alloc (.cells ROW 178)) := fun ty => by
    have h := Lib.run_append_grow_zeros w 175 3 ty 178 i0 _ .i64 .i64 Tryz.underlying175 Tryz.underlying3 hi0 hz0 (some ⟨g, off, none⟩) i c (cs.take i) hold (n + 1 - i) (by omega) (by omega) (by omega) (by omega) (by rw [hzb]; omega) (by rw [hzb, hik]; exact growslice_fits hroom (by omega))
    rw [hik] at h
    rw [hkk, hG, hROW, hG]
    exact h
  have hGn : n + 1 ≤ G := by rw [hG]; exact grownCap_ge w _ _ _
  have hG63 : G ≤ 9223372036854775807 := by
    have := grownCap_le_maxLen w (n + 1) c 178 (by unfold maxLen; omega)
    rw [← hG] at this
    unfold maxLen at this
    omega
  have hRs : ROW.size = G := by
    rw [hROW]
    simp [Builtin.zeroCells, Value.cells]
    omega
  have hRt : ROW.toList.take i = cs.take i := by
    rw [hROW]
    simp only [Array.toList_append, List.append_assoc]
    rw [List.take_append_of_le_length (by simp; omega), List.take_of_length_le (by simp; omega)]
  obtain ⟨W1, hW1⟩ : ∃ W1, W1 = w.drew.alloc (.cells ROW 178) := ⟨_, rfl⟩
  rw [← hW1] at hrz
  have hN : ∀ j, j < n + 1 → (W1.cell? ⟨w.heap.size, j, none⟩).isSome = true := fun j hj => by
    rw [hW1, World.cell?_alloc_at (w := w.drew) ROW _ w.heap.size j rfl, Array.getElem?_eq_getElem (by omega)]; rfl
  have hNf : ∀ j, W1.frozen? ⟨w.heap.size, j, none⟩ = false := fun j => by rw [hW1]; exact World.frozen?_alloc_at (w := w.drew) ROW _ w.heap.size j rfl
  have hOb : ∀ j v, w.cell? ⟨g, j, none⟩ = some v → W1.cell? ⟨g, j, none⟩ = some v := fun j v h => by rw [hW1, World.cell?_alloc_past (w := w.drew) _ g j hgw]; exact h
  have hOv : ∀ j v, w.cell? ⟨vb, j, none⟩ = some v → W1.cell? ⟨vb, j, none⟩ = some v := fun j v h => by rw [hW1, World.cell?_alloc_past (w := w.drew) _ vb j hvw]; exact h
  have hcpA : ∀ (W : World), (∀ x, W.cell? x = W1.cell? x) → (∀ x, W.frozen? x = W1.frozen? x) → ∀ ty dc, (Builtin.copy_ #[175, 175] ty #[.slice (some ⟨w.heap.size, i, none⟩) (n + 1 - i) dc, .slice (some ⟨vb, 0, none⟩) 1 1]).run Tryz.prog W = .ok (goInt [x].length) (W.setCells w.heap.size i [x]) := fun W hWc hWf ty dc =>
    run_copy_cells W _ _ ty 178 w.heap.size i (n + 1 - i) dc ⟨vb, 0, none⟩ 1 1 [x] Tryz.underlying175 size1T (by simp only [List.length_cons, List.length_nil, Nat.min_def]; split <;> omega)
      (fun j v hj => by
        have hj0 : j = 0 := by
          have := (List.getElem?_eq_some_iff.1 hj).1; simp at this; omega
        subst hj0
        have e : x = v := by simpa using hj
        rw [Addr.add_lit, hWc, ← e]
        exact hOv _ x hv)
      (fun j hj => by simp at hj; rw [hWc]; exact hN _ (by omega)) (fun j hj => by rw [hWf]; exact hNf _) (by simp [hx1])
  have hgN : g ≠ w.heap.size := by omega
  have hdl : (cs.drop i).length = n - i := by rw [List.length_drop, hcl]
  have hcpB : ∀ (W : World), (∀ y, W.cell? y = (W1.setCells w.heap.size i [x]).cell? y) → (∀ y, W.frozen? y = (W1.setCells w.heap.size i [x]).frozen? y) → ∀ ty dc sc, (Builtin.copy_ #[175, 175] ty #[.slice (some ⟨w.heap.size, i + 1, none⟩) (n + 1 - (i + 1)) dc, .slice (some ⟨g, off + i, none⟩) (n - i) sc]).run Tryz.prog W = .ok (goInt (cs.drop i).length) (W.setCells w.heap.size (i + 1) (cs.drop i)) := fun W hWc hWf ty dc sc =>
    run_copy_cells W _ _ ty 178 w.heap.size (i + 1) (n + 1 - (i + 1)) dc ⟨g, off + i, none⟩ (n - i) sc (cs.drop i) Tryz.underlying175 size1T (by rw [hdl]; simp only [Nat.min_def]; split <;> omega)
      (fun j v hj => by
        rw [Addr.add_lit, hWc, World.cell?_setCells_out _ _ _ _ _ (fun h _ => absurd h hgN), Nat.add_assoc]
        exact hOb _ v (hcs (i + j) v (by rwa [List.getElem?_drop] at hj)))
      (fun j hj => by rw [hWc]; exact isSome_setCells _ _ _ _ (fun t ht => hN _ (by simp at ht; omega)) _ (hN _ (by omega)))
      (fun j hj => by rw [hWf, World.frozen?_setCells]; exact hNf _) (fun v hv => h1c v (List.mem_of_mem_drop hv))
  subst hW1
  have hE1 : ∀ y, ((w.alloc (.cells ROW 178)).drew).cell? y = (w.drew.alloc (.cells ROW 178)).cell? y := fun _ => rfl
  have hE2 : ∀ y, ((w.alloc (.cells ROW 178)).drew).frozen? y = (w.drew.alloc (.cells ROW 178)).frozen? y := fun _ => rfl
  have hF1 : ∀ y, (((w.alloc (.cells ROW 178)).drew.setCells w.heap.size i [x]).drew).cell? y = ((w.drew.alloc (.cells ROW 178)).setCells w.heap.size i [x]).cell? y := fun _ => rfl
  have hF2 : ∀ y, (((w.alloc (.cells ROW 178)).drew.setCells w.heap.size i [x]).drew).frozen? y = ((w.drew.alloc (.cells ROW 178)).setCells w.heap.size i [x]).frozen? y := fun _ => rfl
  have hne : ((i : Int) == (n : Int)) = false := by simp; omega
  have hc3 : (c : Int) < (n : Int) + 1 := by omega
  have hin : (i : Int) ≤ (n : Int) := by omega
  have hic : ¬ (c = i) := by omega
  have hGi : ¬ (G = i) := by omega
  have hGi1 : ¬ (G = i + 1) := by omega
  have hw1 : IntKind.i64.wrap ((i : Int) + 1) = (i : Int) + 1 := by rw [IntKind.wrap_i64]; omega
  have hb1 : (0 : Int) ≤ (i : Int) + 1 := by omega
  have htn : ((i : Int) + 1).toNat = i + 1 := by omega
  have hb2 : (i : Int) + 1 ≤ (n : Int) + 1 := by omega
  have Hfin : Hid (n + 1 ≤ G ∧ G ≤ 9223372036854775807 ∧ ROW.size = G ∧ ROW.toList.take i = cs.take i) := ⟨hGn, hG63, hRs, hRt⟩
  clear hkk hik hold hROW hG hRs hRt
  go_enter Tryz.func155, Tryz.ntmps155
  go_wp2_with (first
    | (at_builtin; refine Lib.wpList_append_run _ rfl _ _ _ _ rfl _ _ rfl rfl _ _ (hrz _) ?_)
    | (at_builtin; refine wpList_copy_runI _ rfl _ _ 175 175 rfl _ _ rfl rfl (hcpA _ hE1 hE2 _ _) ?_))
  go_region_law (refine step_copy_runI rfl _ _ 175 175 rfl (.slice (some ⟨w.heap.size, i + 1, none⟩) (n + 1 - (i + 1)) (G - (i + 1))) (.slice (some ⟨g, off + i, none⟩) (n - i) (c - i)) (by simp [Act.eval, Act.put]) (by simp [Act.eval, Act.put]) (hcpB _ hF1 hF2 _ _ _) ?_)
  go_wp2
  go_ret
  obtain ⟨f1, f2, f3, f4⟩ := Hfin.out
  exact ⟨G, ROW, rfl, f1, f2, f3, f4, rfl⟩

end Go.Proofs.YtopihgmemnokkaaGreat

namespace Go.Proofs.YtopihgmemnokkaaGreat
open Go.RowKit Go.Shelf Go.Lib

/-- a list with one more at a place -/
def putAt (L : List Nat) (i b : Nat) : List Nat := L.take i ++ b :: L.drop i
theorem putAt_len (L : List Nat) (i b : Nat) : (putAt L i b).length = L.length + 1 := by unfold putAt; simp; omega
theorem putAt_get (L : List Nat) (i b j : Nat) (hi : i ≤ L.length) : (putAt L i b)[j]? = if j < i then L[j]? else if j = i then some b else L[j - 1]? := by
  unfold putAt
  by_cases h1 : j < i
  · rw [List.getElem?_append_left (by simp; omega), if_pos h1, List.getElem?_take, if_pos h1]
  · rw [if_neg h1, List.getElem?_append_right (by simp; omega)]
    by_cases h2 : j = i
    · subst h2
      have : j - (L.take j).length = 0 := by simp; omega
      rw [this]; simp
    · rw [if_neg h2]
      have : j - (L.take i).length = (j - 1 - i) + 1 := by simp; omega
      rw [this, List.getElem?_cons_succ, List.getElem?_drop]
      congr 1; omega

/-- pointers as values -/
def ptrs (L : List Nat) : List Value := L.map fun b => .pointer (some ⟨b, 0, none⟩)
theorem ptrs_get {L : List Nat} {j : Nat} {v : Value} (h : (ptrs L)[j]? = some v) : ∃ b, L[j]? = some b ∧ v = .pointer (some ⟨b, 0, none⟩) := by
  unfold ptrs at h
  rw [List.getElem?_map] at h
  cases hx : L[j]? with
  | none => rw [hx] at h; cases h
  | some b => rw [hx] at h; exact ⟨b, rfl, by simpa using h.symm⟩
theorem ptrs_one (L : List Nat) : ∀ v ∈ ptrs L, v.oneCell' = true := by
  intro v hv
  unfold ptrs at hv
  simp at hv
  obtain ⟨b, _, rfl⟩ := hv; rfl

set_option maxHeartbeats 1000000 in
theorem insertT_any (w : World) (g off cap : Nat) (L : List Nat) (h : PRow w g off cap L) (i : Nat) (hi : i ≤ L.length) (hl : L.length ≤ 256) (bx vb : Nat) (hv : w.heap[vb]? = some (.cells #[.pointer (some ⟨bx, 0, none⟩)] 178 (0, 0))) (hne : vb ≠ g) :
    Calls Tryz.prog 155 #[.slice (some ⟨g, off, none⟩) L.length cap, .int .i64 (i : Nat), .slice (some ⟨vb, 0, none⟩) 1 1] w fun e w' =>
      ∃ g' off' cap', e = .returned (.slice (some ⟨g', off', none⟩) (L.length + 1) cap') ∧ PRow w' g' off' cap' (putAt L i bx) ∧ Kept (fun k => k = g) w w' ∧ (g' = g ∨ w.heap.size ≤ g') := by
  obtain ⟨cur, hb1, hb2⟩ := h.blk
  have hgl := h.lt
  have hlen := h.len
  have h63 := h.cap63
  have hvc : w.cell? ⟨vb, 0, none⟩ = some (.pointer (some ⟨bx, 0, none⟩)) := by unfold World.cell?; rw [hv]; rfl
  have hpl : (ptrs L).length = L.length := by simp [ptrs]
  have hcs : ∀ j v, (ptrs L)[j]? = some v → w.cell? ⟨g, off + j, none⟩ = some v := fun j v hj => by
    obtain ⟨b, h1, rfl⟩ := ptrs_get hj; exact h.cells j b h1
  by_cases hin : i = L.length
  · subst hin
    by_cases hroom : L.length + 1 ≤ cap
    · refine (ins_end_room g off L.length cap vb (.pointer (some ⟨bx, 0, none⟩)) w hroom h63 rfl (h.there (by omega)) (h.frozen _) hvc).mono ?_
      rintro e w' ⟨rfl, rfl⟩
      obtain ⟨c2, k1, k2⟩ := setCells_block g 178 [.pointer (some ⟨bx, 0, none⟩)] (off + L.length) w cur hb1
      refine ⟨g, off, cap, rfl, ⟨⟨c2, k1, by omega⟩, ?_, by rw [putAt_len]; omega, h63⟩, setCells_kept _ _ _ _, .inl rfl⟩
      intro j b hj
      rw [putAt_get _ _ _ _ (Nat.le_refl _)] at hj
      by_cases e1 : j < L.length
      · rw [if_pos e1] at hj
        rw [World.cell?_setCells_out _ _ _ _ _ (fun _ _ => by simp; omega)]
        exact h.cells j b hj
      · rw [if_neg e1] at hj
        by_cases e2 : j = L.length
        · rw [if_pos e2] at hj
          subst e2
          have := World.cell?_setCells_in g [.pointer (some ⟨bx, 0, none⟩)] (off + L.length) w (fun t ht => h.there (by simp at ht; omega)) 0 (by simp)
          rw [Nat.add_zero] at this
          rw [this]
          have : bx = b := by simpa using hj
          rw [← this]; rfl
        · rw [if_neg e2, List.getElem?_eq_none (by omega)] at hj; cases hj
    · refine (ins_end_grow g off L.length cap vb (ptrs L) (.pointer (some ⟨bx, 0, none⟩)) w hlen (by omega) (by omega) rfl hpl hcs hvc).mono ?_
      rintro e w' ⟨rfl, rfl⟩
      have hGn := grownCap_ge w (L.length + 1) cap 178
      have hG63 : grownCap w (L.length + 1) cap 178 ≤ 9223372036854775807 := by
        have := grownCap_le_maxLen w (L.length + 1) cap 178 (by unfold maxLen; omega)
        unfold maxLen at this; omega
      generalize grownCap w (L.length + 1) cap 178 = G at *
      refine ⟨w.heap.size, 0, G, rfl, ⟨⟨_, heap_alloc_new w.drew _, by simp [ptrs, Builtin.zeroCells, Value.cells]; omega⟩, ?_, by rw [putAt_len]; omega, hG63⟩, (Kept.refl _ w).drew.alloc _, .inr (Nat.le_refl _)⟩
      intro j b hj
      have hjl : j < L.length + 1 := by rw [← putAt_len L L.length bx]; exact (List.getElem?_eq_some_iff.1 hj).1
      have e0 : putAt L L.length bx = L ++ [bx] := by unfold putAt; simp
      rw [e0] at hj
      rw [Nat.zero_add, World.cell?_alloc_at (w := w.drew) _ _ w.heap.size j rfl]
      rw [Array.getElem?_append_left (by simp [ptrs]; omega)]
      rw [List.getElem?_toArray]
      have e1 : ptrs L ++ [Value.pointer (some ⟨bx, 0, none⟩)] = (L ++ [bx]).map fun b => .pointer (some ⟨b, 0, none⟩) := by simp [ptrs]
      rw [e1, List.getElem?_map, hj]; rfl
  · by_cases hroom : L.length + 1 ≤ cap
    · refine (ins_shift g off L.length cap i vb (ptrs L) (.pointer (some ⟨bx, 0, none⟩)) w (by omega) hroom h63 hne rfl hpl (ptrs_one L) hcs (fun j hj => h.there (by omega)) (fun j => h.frozen j) (fun j => by simp [World.frozen?, hv]) hvc _ _ _ _ (by unfold World.shape?; rw [hv]) (by unfold World.shape?; rw [hb1]) (by omega)).mono ?_
      rintro e w' ⟨rfl, rfl⟩
      have hb1' : w.drew.heap[g]? = some (.cells cur 178 (0, 0)) := hb1
      obtain ⟨c2, k1, k2⟩ := setCells_block g 178 ((ptrs L).drop i) (off + (i + 1)) w.drew cur hb1'
      have hs1 : ∀ k, k < off + cap → ((w.drew.setCells g (off + (i + 1)) ((ptrs L).drop i)).cell? ⟨g, k, none⟩).isSome = true := fun k hk => by
        have : k < c2.size := by omega
        unfold World.cell?; rw [k1]; simp [this]
      obtain ⟨c3, k3, k4⟩ := setCells_block g 178 [.pointer (some ⟨bx, 0, none⟩)] (off + i) _ c2 k1
      refine ⟨g, off, cap, rfl, ⟨⟨c3, k3, by omega⟩, ?_, by rw [putAt_len]; omega, h63⟩, (((Kept.refl (fun k => k = g) w).drew).trans (setCells_kept _ _ _ _)).trans (setCells_kept _ _ _ _), .inl rfl⟩
      intro j b hj
      rw [putAt_get _ _ _ _ hi] at hj
      by_cases e1 : j < i
      · rw [if_pos e1] at hj
        rw [World.cell?_setCells_out _ _ _ _ _ (fun _ _ => by simp; omega), World.cell?_setCells_out _ _ _ _ _ (fun _ _ => by simp; omega)]
        exact h.cells j b hj
      · rw [if_neg e1] at hj
        by_cases e2 : j = i
        · rw [if_pos e2] at hj
          subst e2
          have := World.cell?_setCells_in g [.pointer (some ⟨bx, 0, none⟩)] (off + j) (w.drew.setCells g (off + (j + 1)) ((ptrs L).drop j)) (fun t ht => hs1 _ (by simp at ht; omega)) 0 (by simp)
          have e5 : bx = b := by simpa using hj
          rw [← e5]
          exact this
        · rw [if_neg e2] at hj
          have hjl : j - 1 < L.length := (List.getElem?_eq_some_iff.1 hj).1
          rw [World.cell?_setCells_out _ _ _ _ _ (fun _ _ => by simp; omega)]
          have := World.cell?_setCells_in g ((ptrs L).drop i) (off + (i + 1)) w.drew (fun t ht => h.there (by simp [hpl] at ht; omega)) (j - (i + 1)) (by simp [hpl]; omega)
          rw [show off + (i + 1) + (j - (i + 1)) = off + j by omega] at this
          rw [this, ← List.getElem?_eq_getElem, List.getElem?_drop]
          unfold ptrs
          rw [List.getElem?_map, show i + (j - (i + 1)) = j - 1 by omega, hj]; rfl
    · refine (ins_grow g off L.length cap i vb (ptrs L) (.pointer (some ⟨bx, 0, none⟩)) w (by omega) hlen (by omega) (by omega) rfl hpl (ptrs_one L) hcs hvc).mono ?_
      rintro e w' ⟨G, ROW, rfl, hG1, hG2, hR1, hR2, rfl⟩
      have hn0 : (w.alloc (.cells ROW 178)).drew.heap[w.heap.size]? = some (.cells ROW 178 (0, 0)) := heap_alloc_new w _
      obtain ⟨c2, k1, k2⟩ := setCells_block w.heap.size 178 [.pointer (some ⟨bx, 0, none⟩)] i _ ROW hn0
      have k1' : (((w.alloc (.cells ROW 178)).drew.setCells w.heap.size i [.pointer (some ⟨bx, 0, none⟩)]).drew).heap[w.heap.size]? = some (.cells c2 178 (0, 0)) := k1
      obtain ⟨c3, k3, k4⟩ := setCells_block w.heap.size 178 ((ptrs L).drop i) (i + 1) _ c2 k1'
      have hs0 : ∀ k, k < G → ((w.alloc (.cells ROW 178)).drew.cell? ⟨w.heap.size, k, none⟩).isSome = true := fun k hk => by
        unfold World.cell?; rw [hn0]; simp [hR1, hk]
      have hs1 : ∀ k, k < G → ((((w.alloc (.cells ROW 178)).drew.setCells w.heap.size i [.pointer (some ⟨bx, 0, none⟩)]).drew).cell? ⟨w.heap.size, k, none⟩).isSome = true := fun k hk => by
        have : k < c2.size := by omega
        unfold World.cell?; rw [k1']; simp [this]
      have q1 : Kept (fun k => k = w.heap.size) w (w.alloc (.cells ROW 178)).drew := ((Kept.refl _ w).alloc _).drew
      have q2 := (q1.trans (setCells_kept w.heap.size [.pointer (some ⟨bx, 0, none⟩)] i _)).drew.trans (setCells_kept w.heap.size ((ptrs L).drop i) (i + 1) _)
      refine ⟨w.heap.size, 0, G, rfl, ⟨⟨c3, k3, by omega⟩, ?_, by rw [putAt_len]; omega, hG2⟩, q2.mono (fun k hk e => by omega), .inr (Nat.le_refl _)⟩
      intro j b hj
      rw [putAt_get _ _ _ _ hi] at hj
      rw [Nat.zero_add]
      by_cases e1 : j < i
      · rw [if_pos e1] at hj
        rw [World.cell?_setCells_out _ _ _ _ _ (fun _ _ => by simp; omega)]
        show ((w.alloc (.cells ROW 178)).drew.setCells w.heap.size i [.pointer (some ⟨bx, 0, none⟩)]).cell? ⟨w.heap.size, j, none⟩ = _
        rw [World.cell?_setCells_out _ _ _ _ _ (fun _ _ => by simp; omega)]
        unfold World.cell?
        rw [hn0]
        have hr : (ROW.toList.take i)[j]? = ((ptrs L).take i)[j]? := by rw [hR2]
        rw [List.getElem?_take, List.getElem?_take, if_pos e1, if_pos e1] at hr
        have h5 : ROW[j]? = (ptrs L)[j]? := by simpa using hr
        show ROW[j]? = _
        rw [h5]
        unfold ptrs
        rw [List.getElem?_map, hj]; rfl
      · rw [if_neg e1] at hj
        by_cases e2 : j = i
        · rw [if_pos e2] at hj
          subst e2
          rw [World.cell?_setCells_out _ _ _ _ _ (fun _ _ => by simp)]
          have := World.cell?_setCells_in w.heap.size [.pointer (some ⟨bx, 0, none⟩)] j (w.alloc (.cells ROW 178)).drew (fun t ht => hs0 _ (by simp at ht; omega)) 0 (by simp)
          rw [Nat.add_zero] at this
          have e5 : bx = b := by simpa using hj
          rw [← e5]
          exact this
        · rw [if_neg e2] at hj
          have hjl : j - 1 < L.length := (List.getElem?_eq_some_iff.1 hj).1
          have := World.cell?_setCells_in w.heap.size ((ptrs L).drop i) (i + 1) (((w.alloc (.cells ROW 178)).drew.setCells w.heap.size i [.pointer (some ⟨bx, 0, none⟩)]).drew) (fun t ht => hs1 _ (by simp [hpl] at ht; omega)) (j - (i + 1)) (by simp [hpl]; omega)
          rw [show i + 1 + (j - (i + 1)) = j by omega] at this
          rw [this, ← List.getElem?_eq_getElem, List.getElem?_drop]
          unfold ptrs
          rw [List.getElem?_map, show i + (j - (i + 1)) = j - 1 by omega, hj]; rfl

end Go.Proofs.YtopihgmemnokkaaGreat

