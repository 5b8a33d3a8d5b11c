import Derived.Test.YtopihgmemnokkaaGreatCodeW5C
import Derived.Test.YtopihgmemnokkaaGreatBitW2C
import Derived.Test.YtopihgmemnokkaaGreatRowCC
namespace Go.Proofs.YtopihgmemnokkaaGreat
open Go.RowKit Go.Shelf Go.Lib

/-- the leaves of the bytes below k that are there -/
def leavesTo (f : Nat → Nat) (k : Nat) : List Hf.T := ((List.range k).filter fun c => decide (0 < f c)).map .leaf

theorem leavesTo_yes (f : Nat → Nat) {k : Nat} (h : 0 < f k) : leavesTo f (k + 1) = leavesTo f k ++ [.leaf k] := by
  unfold leavesTo; rw [List.range_succ, List.filter_append]; simp [h]
theorem leavesTo_no (f : Nat → Nat) {k : Nat} (h : f k = 0) : leavesTo f (k + 1) = leavesTo f k := by
  unfold leavesTo; rw [List.range_succ, List.filter_append]; simp [h]

theorem prow_own {w : World} {base g cap n : Nat} {L : List Nat} (h : w.ownsRow base 178 1 (.slice (some ⟨g, 0, none⟩) n cap) n (ptrs L)) (hn : L.length = n) : PRow w g 0 cap L := by
  have hc : ∀ (j b : Nat), L[j]? = some b → w.cell? ⟨g, 0 + j, none⟩ = some (.pointer (some ⟨b, 0, none⟩)) := fun j b hj => by
    rw [Nat.zero_add]
    refine own_cell h ?_
    unfold ptrs
    rw [List.getElem?_map, hj]; rfl
  rcases h.2 with ⟨h1, _⟩ | ⟨g', cap', cur, h1, h2, h3, h4, h5, h6, h7⟩
  · cases h1
  · injection h1 with e1 e2 e3
    injection e1 with e4
    injection e4 with e5
    subst e5; subst e3
    unfold maxLen at h5
    exact ⟨⟨cur, h3, by omega⟩, hc, by omega, by omega⟩

theorem own_not {w : World} {base : Nat} {e e2 : TypeId} {v : Value} {n : Nat} {xs : List Value} (h : w.ownsRow base e 1 v n xs) {b : Nat} {cs : Array Value} (hb : w.heap[b]? = some (.cells cs e2 (0, 0))) (he : e ≠ e2) : ¬ v.ownBlock = some b := by
  intro ho
  rcases h.2 with ⟨rfl, _⟩ | ⟨g, cap, cur, rfl, _, hg, _⟩
  · cases ho
  · have : g = b := by simpa [Value.ownBlock] using ho
    subst this
    rw [hb] at hg
    simp at hg
    exact he hg.2.symm

theorem Trees.snoc {f : Nat → Nat} {w : World} {L : List Nat} {l : List Hf.T} (h : Trees f w L l) {t : Hf.T} {b : Nat} (hb : TreeAt f w t b) : Trees f w (L ++ [b]) (l ++ [t]) := by
  refine ⟨by simp [h.1], fun j b' t' hj ht => ?_⟩
  by_cases e : j < L.length
  · rw [List.getElem?_append_left e] at hj
    rw [List.getElem?_append_left (by rw [← h.1]; exact e)] at ht
    exact h.2 j b' t' hj ht
  · rw [List.getElem?_append_right (by omega)] at hj
    rw [List.getElem?_append_right (by rw [← h.1]; omega)] at ht
    have e0 : j - L.length = 0 := by
      have := (List.getElem?_eq_some_iff.1 hj).1; simp at this; omega
    rw [← h.1, e0] at ht
    rw [e0] at hj
    have e1 : b = b' := by simpa using hj
    have e2 : t = t' := by simpa using ht
    rw [← e1, ← e2]; exact hb

theorem run_ix_row (cs : Array Value) (v : Value) (p : Nat) (hp : p < 256) (h : cs[p]? = some v) (w : World) :
    (Instr.index 120 (.agg cs) (.int .i64 (p : Int))).run Tryz.prog w = .ok v w := by
  simp [Instr.index, run_underlying Tryz.underlying120, asIntOf, part, Tryz.isAgg3, Tryz.sizeOf3, h]
  omega

set_option maxRecDepth 100000 in
set_option maxHeartbeats 1000000 in
theorem alone_any (f : Nat → Nat) (w : World) (hf : ∀ c, f c ≤ 1000000) :
    Calls Tryz.prog 115 #[.agg (rowC 256 f)] w fun e w' => ∃ v L, e = .returned v ∧ w'.ownsRow w.heap.size 178 1 v L.length (ptrs L) ∧ Trees f w' L (leavesTo f 256) ∧ Below w.heap.size w w' := by
  obtain ⟨i0, hi, hz0, hz1, hz2⟩ := info_parts Tryz.info178
  go_enter Tryz.func115, Tryz.ntmps115
  go_wp2_with (refine wpList_load_row rfl 120 _ rfl w.heap.size rfl 120 (rowC 256 f) (0, 0) _ (heap_alloc_new w _) Tryz.underlying120 rfl (by rw [size_rowC]; exact size256) ?_)
  go_loopw [3, 4, 5, 7] (fun v _ _ i wr => ∃ (k : Nat) (L : List Nat), k ≤ 256 ∧ i = .int .i64 k ∧ Hid (wr.ownsRow w.heap.size 178 1 v L.length (ptrs L)) ∧ Hid (Trees f wr L (leavesTo f k)) ∧ Hid (Below w.heap.size w wr)) (fun _ _ _ i _ => 256 - (intOf i).toNat)
  case atStart => exact ⟨0, [], by omega, rfl, World.ownsRow_nil _ _ _ _, ⟨rfl, fun j b t hj => by simp at hj⟩, (Below.refl _ _).alloc (Nat.le_refl _) _⟩
  case round =>
    obtain ⟨k, L, hk, rfl, OW, TR, BL⟩ := hrel
    by_cases hlt : k < 256
    · have hix : ∀ wz : World, (Instr.index 120 (.agg (rowC 256 f)) (.int .i64 (k : Int))).run Tryz.prog wz = .ok (.int .i64 (f k : Nat)) wz := fun wz => run_ix_row _ _ k hlt (rowC_get hlt) wz
      have hfk := hf k
      by_cases h0 : f k = 0
      · have hfx : Hid (leavesTo f (k + 1) = leavesTo f k) := leavesTo_no f h0
        rw [h0] at hix
        clear hf hfk h0
        go_wp2
        exact ⟨⟨k + 1, L, by omega, by go_num, OW, by rw [hfx.out]; exact TR, BL⟩, by simp [intOf]; omega⟩
      · have hfx : Hid (leavesTo f (k + 1) = leavesTo f k ++ [.leaf k]) := leavesTo_yes f (by omega)
        have hpos : (0 : Int) < (f k : Nat) := by omega
        have hLk : L.length ≤ 256 := by
          have := TR.out.1
          unfold leavesTo at this
          rw [List.length_map] at this
          have h2 := List.length_filter_le (fun c => decide (0 < f c)) (List.range k)
          rw [List.length_range] at h2
          omega
        obtain ⟨n, hn⟩ : ∃ n, f k = n := ⟨_, rfl⟩
        have HN : Hid (f k = n) := hn
        rw [hn] at hix hpos hfk
        obtain ⟨ua, ub, rfl⟩ := own_slice OW.out
        have hz := BL.out.size
        clear hf h0 hn
        have hkb : (k : Int) < 256 := by omega
        go_wp2_with (at_builtin; refine wpList_append_two _ rfl _ _ 175 rfl w.heap.size 178 i0 (.pointer none) 8 Tryz.underlying175 hi hz0 hz1 hz2 rfl _ _ _ rfl ((OW.out.alloc _).alloc _) ⟨wr.heap.size + 1, 0, none⟩ 1 (.pointer (some ⟨wr.heap.size, 0, none⟩)) rfl ?c1 ?c2 ?c3 ?c4 ?c5 ?_)
        case c1 => exact cell_one_at (by simp)
        case c2 => rfl
        case c3 => unfold maxLen; omega
        case c4 => omega
        case c5 => simp; omega
        intro g cap w4 hown hg4 hd
        have kv : Kept (fun a => (Value.slice ua L.length ub).ownBlock = some a) ((wr.alloc (.cells #[.int .i64 (n : Nat), .int .u8 (k : Nat), .pointer none, .pointer none] 181)).alloc (.cells #[.pointer (some ⟨wr.heap.size, 0, none⟩)] 178)) w4 := (Kept.refl _ _).grown (two_grown hd) (fun _ hk _ => hk)
        have k0 : Kept (fun a => (Value.slice ua L.length ub).ownBlock = some a) wr ((wr.alloc (.cells #[.int .i64 (n : Nat), .int .u8 (k : Nat), .pointer none, .pointer none] 181)).alloc (.cells #[.pointer (some ⟨wr.heap.size, 0, none⟩)] 178)) := ((Kept.refl _ wr).alloc _).alloc _
        have kall := k0.trans kv
        have hnt : ∀ (b : Nat) (cs : Array Value), wr.heap[b]? = some (.cells cs 181 (0, 0)) → ¬ (Value.slice ua L.length ub).ownBlock = some b := fun b cs hb => own_not OW.out hb (by decide)
        have hlow := OW.out.lt
        have hleaf : TreeAt f w4 (.leaf k) wr.heap.size := by
          unfold TreeAt
          rw [kv.block wr.heap.size (by simp; omega) (fun e => by have := (hlow _ e).2; omega), Below.heap_alloc _ _ _ (by simp), heap_alloc_new wr, HN.out]
        have htr : Trees f w4 (L ++ [wr.heap.size]) (leavesTo f (k + 1)) := by rw [hfx.out]; exact (Trees.keep TR.out kall hnt).snoc hleaf
        have hbl : Below w.heap.size w w4 := kv.bel ((BL.out.alloc hz _).alloc (by simp; omega) _) (Nat.le_refl _) (fun a ha => (hlow a ha).1)
        have how : w4.ownsRow w.heap.size 178 1 (.slice (some ⟨g, 0, none⟩) (L.length + 1) cap) (L ++ [wr.heap.size]).length (ptrs (L ++ [wr.heap.size])) := by
          have e1 : ptrs (L ++ [wr.heap.size]) = ptrs L ++ [.pointer (some ⟨wr.heap.size, 0, none⟩)] := by simp [ptrs]
          rw [e1, List.length_append]; exact hown
        have HTR : Hid _ := htr
        have HBL : Hid _ := hbl
        have HOW : Hid _ := how
        clear kv k0 kall hnt hlow hleaf htr hbl how hd hown OW TR BL
        go_wp2
        exact ⟨⟨k + 1, L ++ [wr.heap.size], by omega, by go_num, HOW, HTR, HBL⟩, by simp [intOf]; omega⟩
    · have hk' : k = 256 := by omega
      subst hk'
      go_wp2
      go_ret
      exact ⟨_, L, rfl, OW.out, TR.out, BL.out⟩

end Go.Proofs.YtopihgmemnokkaaGreat

