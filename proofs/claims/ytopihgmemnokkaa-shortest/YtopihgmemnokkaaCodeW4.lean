import Derived.Test.YtopihgmemnokkaaCodeW3
namespace Go.Proofs.Ytopihgmemnokkaa
open Go.RowKit Go.Shelf Go.Lib

/-- a list with one more at a place -/
def putAt (L : List Nat) (i b : Nat) : List Nat := L.take i ++ b :: L.drop i
theorem putAt_len (L : List Nat) (i b : Nat) : (putAt L i b).length = L.length + 1 := by unfold putAt; simp; omega
theorem putAt_get (L : List Nat) (i b j : Nat) (hi : i ≤ L.length) : (putAt L i b)[j]? = if j < i then L[j]? else if j = i then some b else L[j - 1]? := by
  unfold putAt
  by_cases h1 : j < i
  · rw [List.getElem?_append_left (by simp; omega), if_pos h1, List.getElem?_take, if_pos h1]
  · rw [if_neg h1, List.getElem?_append_right (by simp; omega)]
    by_cases h2 : j = i
    · subst h2
      have : j - (L.take j).length = 0 := by simp; omega
      rw [this]; simp
    · rw [if_neg h2]
      have : j - (L.take i).length = (j - 1 - i) + 1 := by simp; omega
      rw [this, List.getElem?_cons_succ, List.getElem?_drop]
      congr 1; omega

/-- pointers as values -/
def ptrs (L : List Nat) : List Value := L.map fun b => .pointer (some ⟨b, 0, none⟩)
theorem ptrs_get {L : List Nat} {j : Nat} {v : Value} (h : (ptrs L)[j]? = some v) : ∃ b, L[j]? = some b ∧ v = .pointer (some ⟨b, 0, none⟩) := by
  unfold ptrs at h
  rw [List.getElem?_map] at h
  cases hx : L[j]? with
  | none => rw [hx] at h; cases h
  | some b => rw [hx] at h; exact ⟨b, rfl, by simpa using h.symm⟩
theorem ptrs_one (L : List Nat) : ∀ v ∈ ptrs L, v.oneCell' = true := by
  intro v hv
  unfold ptrs at hv
  simp at hv
  obtain ⟨b, _, rfl⟩ := hv; rfl

set_option maxHeartbeats 1000000 in
theorem insertT_any (w : World) (g off cap : Nat) (L : List Nat) (h : PRow w g off cap L) (i : Nat) (hi : i ≤ L.length) (hl : L.length ≤ 256) (bx vb : Nat) (hv : w.heap[vb]? = some (.cells #[.pointer (some ⟨bx, 0, none⟩)] 104 (0, 0))) (hne : vb ≠ g) :
    Calls Try.prog 75 #[.slice (some ⟨g, off, none⟩) L.length cap, .int .i64 (i : Nat), .slice (some ⟨vb, 0, none⟩) 1 1] w fun e w' =>
      ∃ g' off' cap', e = .returned (.slice (some ⟨g', off', none⟩) (L.length + 1) cap') ∧ PRow w' g' off' cap' (putAt L i bx) ∧ Kept (fun k => k = g) w w' ∧ (g' = g ∨ w.heap.size ≤ g') := by
  obtain ⟨cur, hb1, hb2⟩ := h.blk
  have hgl := h.lt
  have hlen := h.len
  have h63 := h.cap63
  have hvc : w.cell? ⟨vb, 0, none⟩ = some (.pointer (some ⟨bx, 0, none⟩)) := by unfold World.cell?; rw [hv]; rfl
  have hpl : (ptrs L).length = L.length := by simp [ptrs]
  have hcs : ∀ j v, (ptrs L)[j]? = some v → w.cell? ⟨g, off + j, none⟩ = some v := fun j v hj => by
    obtain ⟨b, h1, rfl⟩ := ptrs_get hj; exact h.cells j b h1
  by_cases hin : i = L.length
  · subst hin
    by_cases hroom : L.length + 1 ≤ cap
    · refine (ins_end_room g off L.length cap vb (.pointer (some ⟨bx, 0, none⟩)) w hroom h63 rfl (h.there (by omega)) (h.frozen _) hvc).mono ?_
      rintro e w' ⟨rfl, rfl⟩
      obtain ⟨c2, k1, k2⟩ := setCells_block g 104 [.pointer (some ⟨bx, 0, none⟩)] (off + L.length) w cur hb1
      refine ⟨g, off, cap, rfl, ⟨⟨c2, k1, by omega⟩, ?_, by rw [putAt_len]; omega, h63⟩, setCells_kept _ _ _ _, .inl rfl⟩
      intro j b hj
      rw [putAt_get _ _ _ _ (Nat.le_refl _)] at hj
      by_cases e1 : j < L.length
      · rw [if_pos e1] at hj
        rw [World.cell?_setCells_out _ _ _ _ _ (fun _ _ => by simp; omega)]
        exact h.cells j b hj
      · rw [if_neg e1] at hj
        by_cases e2 : j = L.length
        · rw [if_pos e2] at hj
          subst e2
          have := World.cell?_setCells_in g [.pointer (some ⟨bx, 0, none⟩)] (off + L.length) w (fun t ht => h.there (by simp at ht; omega)) 0 (by simp)
          rw [Nat.add_zero] at this
          rw [this]
          have : bx = b := by simpa using hj
          rw [← this]; rfl
        · rw [if_neg e2, List.getElem?_eq_none (by omega)] at hj; cases hj
    · refine (ins_end_grow g off L.length cap vb (ptrs L) (.pointer (some ⟨bx, 0, none⟩)) w hlen (by omega) (by omega) rfl hpl hcs hvc).mono ?_
      rintro e w' ⟨rfl, rfl⟩
      have hGn := grownCap_ge w (L.length + 1) cap 104
      have hG63 : grownCap w (L.length + 1) cap 104 ≤ 9223372036854775807 := by
        have := grownCap_le_maxLen w (L.length + 1) cap 104 (by unfold maxLen; omega)
        unfold maxLen at this; omega
      generalize grownCap w (L.length + 1) cap 104 = G at *
      refine ⟨w.heap.size, 0, G, rfl, ⟨⟨_, heap_alloc_new w.drew _, by simp [ptrs, Builtin.zeroCells, Value.cells]; omega⟩, ?_, by rw [putAt_len]; omega, hG63⟩, (Kept.refl _ w).drew.alloc _, .inr (Nat.le_refl _)⟩
      intro j b hj
      have hjl : j < L.length + 1 := by rw [← putAt_len L L.length bx]; exact (List.getElem?_eq_some_iff.1 hj).1
      have e0 : putAt L L.length bx = L ++ [bx] := by unfold putAt; simp
      rw [e0] at hj
      rw [Nat.zero_add, World.cell?_alloc_at (w := w.drew) _ _ w.heap.size j rfl]
      rw [Array.getElem?_append_left (by simp [ptrs]; omega)]
      rw [List.getElem?_toArray]
      have e1 : ptrs L ++ [Value.pointer (some ⟨bx, 0, none⟩)] = (L ++ [bx]).map fun b => .pointer (some ⟨b, 0, none⟩) := by simp [ptrs]
      rw [e1, List.getElem?_map, hj]; rfl
  · by_cases hroom : L.length + 1 ≤ cap
    · refine (ins_shift g off L.length cap i vb (ptrs L) (.pointer (some ⟨bx, 0, none⟩)) w (by omega) hroom h63 hne rfl hpl (ptrs_one L) hcs (fun j hj => h.there (by omega)) (fun j => h.frozen j) (fun j => by simp [World.frozen?, hv]) hvc _ _ _ _ (by unfold World.shape?; rw [hv]) (by unfold World.shape?; rw [hb1]) (by omega)).mono ?_
      rintro e w' ⟨rfl, rfl⟩
      have hb1' : w.drew.heap[g]? = some (.cells cur 104 (0, 0)) := hb1
      obtain ⟨c2, k1, k2⟩ := setCells_block g 104 ((ptrs L).drop i) (off + (i + 1)) w.drew cur hb1'
      have hs1 : ∀ k, k < off + cap → ((w.drew.setCells g (off + (i + 1)) ((ptrs L).drop i)).cell? ⟨g, k, none⟩).isSome = true := fun k hk => by
        have : k < c2.size := by omega
        unfold World.cell?; rw [k1]; simp [this]
      obtain ⟨c3, k3, k4⟩ := setCells_block g 104 [.pointer (some ⟨bx, 0, none⟩)] (off + i) _ c2 k1
      refine ⟨g, off, cap, rfl, ⟨⟨c3, k3, by omega⟩, ?_, by rw [putAt_len]; omega, h63⟩, (((Kept.refl (fun k => k = g) w).drew).trans (setCells_kept _ _ _ _)).trans (setCells_kept _ _ _ _), .inl rfl⟩
      intro j b hj
      rw [putAt_get _ _ _ _ hi] at hj
      by_cases e1 : j < i
      · rw [if_pos e1] at hj
        rw [World.cell?_setCells_out _ _ _ _ _ (fun _ _ => by simp; omega), World.cell?_setCells_out _ _ _ _ _ (fun _ _ => by simp; omega)]
        exact h.cells j b hj
      · rw [if_neg e1] at hj
        by_cases e2 : j = i
        · rw [if_pos e2] at hj
          subst e2
          have := World.cell?_setCells_in g [.pointer (some ⟨bx, 0, none⟩)] (off + j) (w.drew.setCells g (off + (j + 1)) ((ptrs L).drop j)) (fun t ht => hs1 _ (by simp at ht; omega)) 0 (by simp)
          have e5 : bx = b := by simpa using hj
          rw [← e5]
          exact this
        · rw [if_neg e2] at hj
          have hjl : j - 1 < L.length := (List.getElem?_eq_some_iff.1 hj).1
          rw [World.cell?_setCells_out _ _ _ _ _ (fun _ _ => by simp; omega)]
          have := World.cell?_setCells_in g ((ptrs L).drop i) (off + (i + 1)) w.drew (fun t ht => h.there (by simp [hpl] at ht; omega)) (j - (i + 1)) (by simp [hpl]; omega)
          rw [show off + (i + 1) + (j - (i + 1)) = off + j by omega] at this
          rw [this, ← List.getElem?_eq_getElem, List.getElem?_drop]
          unfold ptrs
          rw [List.getElem?_map, show i + (j - (i + 1)) = j - 1 by omega, hj]; rfl
    · refine (ins_grow g off L.length cap i vb (ptrs L) (.pointer (some ⟨bx, 0, none⟩)) w (by omega) hlen (by omega) (by omega) rfl hpl (ptrs_one L) hcs hvc).mono ?_
      rintro e w' ⟨G, ROW, rfl, hG1, hG2, hR1, hR2, rfl⟩
      have hn0 : (w.alloc (.cells ROW 104)).drew.heap[w.heap.size]? = some (.cells ROW 104 (0, 0)) := heap_alloc_new w _
      obtain ⟨c2, k1, k2⟩ := setCells_block w.heap.size 104 [.pointer (some ⟨bx, 0, none⟩)] i _ ROW hn0
      have k1' : (((w.alloc (.cells ROW 104)).drew.setCells w.heap.size i [.pointer (some ⟨bx, 0, none⟩)]).drew).heap[w.heap.size]? = some (.cells c2 104 (0, 0)) := k1
      obtain ⟨c3, k3, k4⟩ := setCells_block w.heap.size 104 ((ptrs L).drop i) (i + 1) _ c2 k1'
      have hs0 : ∀ k, k < G → ((w.alloc (.cells ROW 104)).drew.cell? ⟨w.heap.size, k, none⟩).isSome = true := fun k hk => by
        unfold World.cell?; rw [hn0]; simp [hR1, hk]
      have hs1 : ∀ k, k < G → ((((w.alloc (.cells ROW 104)).drew.setCells w.heap.size i [.pointer (some ⟨bx, 0, none⟩)]).drew).cell? ⟨w.heap.size, k, none⟩).isSome = true := fun k hk => by
        have : k < c2.size := by omega
        unfold World.cell?; rw [k1']; simp [this]
      have q1 : Kept (fun k => k = w.heap.size) w (w.alloc (.cells ROW 104)).drew := ((Kept.refl _ w).alloc _).drew
      have q2 := (q1.trans (setCells_kept w.heap.size [.pointer (some ⟨bx, 0, none⟩)] i _)).drew.trans (setCells_kept w.heap.size ((ptrs L).drop i) (i + 1) _)
      refine ⟨w.heap.size, 0, G, rfl, ⟨⟨c3, k3, by omega⟩, ?_, by rw [putAt_len]; omega, hG2⟩, q2.mono (fun k hk e => by omega), .inr (Nat.le_refl _)⟩
      intro j b hj
      rw [putAt_get _ _ _ _ hi] at hj
      rw [Nat.zero_add]
      by_cases e1 : j < i
      · rw [if_pos e1] at hj
        rw [World.cell?_setCells_out _ _ _ _ _ (fun _ _ => by simp; omega)]
        show ((w.alloc (.cells ROW 104)).drew.setCells w.heap.size i [.pointer (some ⟨bx, 0, none⟩)]).cell? ⟨w.heap.size, j, none⟩ = _
        rw [World.cell?_setCells_out _ _ _ _ _ (fun _ _ => by simp; omega)]
        unfold World.cell?
        rw [hn0]
        have hr : (ROW.toList.take i)[j]? = ((ptrs L).take i)[j]? := by rw [hR2]
        rw [List.getElem?_take, List.getElem?_take, if_pos e1, if_pos e1] at hr
        have h5 : ROW[j]? = (ptrs L)[j]? := by simpa using hr
        show ROW[j]? = _
        rw [h5]
        unfold ptrs
        rw [List.getElem?_map, hj]; rfl
      · rw [if_neg e1] at hj
        by_cases e2 : j = i
        · rw [if_pos e2] at hj
          subst e2
          rw [World.cell?_setCells_out _ _ _ _ _ (fun _ _ => by simp)]
          have := World.cell?_setCells_in w.heap.size [.pointer (some ⟨bx, 0, none⟩)] j (w.alloc (.cells ROW 104)).drew (fun t ht => hs0 _ (by simp at ht; omega)) 0 (by simp)
          rw [Nat.add_zero] at this
          have e5 : bx = b := by simpa using hj
          rw [← e5]
          exact this
        · rw [if_neg e2] at hj
          have hjl : j - 1 < L.length := (List.getElem?_eq_some_iff.1 hj).1
          have := World.cell?_setCells_in w.heap.size ((ptrs L).drop i) (i + 1) (((w.alloc (.cells ROW 104)).drew.setCells w.heap.size i [.pointer (some ⟨bx, 0, none⟩)]).drew) (fun t ht => hs1 _ (by simp [hpl] at ht; omega)) (j - (i + 1)) (by simp [hpl]; omega)
          rw [show i + 1 + (j - (i + 1)) = j by omega] at this
          rw [this, ← List.getElem?_eq_getElem, List.getElem?_drop]
          unfold ptrs
          rw [List.getElem?_map, show i + (j - (i + 1)) = j - 1 by omega, hj]; rfl

end Go.Proofs.Ytopihgmemnokkaa
