import Derived.Test.YtopihgmemnokkaaGreatAppF
import Derived.Test.YtopihgmemnokkaaGreatBitmF
import Derived.Test.YtopihgmemnokkaaGreatHuffF
namespace Go.Proofs.YtopihgmemnokkaaGreat
open Go.RowKit

/-- four cells in a block, behind others -/
def Four (w : World) (b : Nat) (pre post : List Value) (ty : TypeId) (v0 v1 v2 v3 : Value) : Prop :=
  w.heap[b]? = some (.cells (pre ++ v0 :: v1 :: v2 :: v3 :: post).toArray ty (0, 0))

section
variable {w : World} {b : Nat} {pre post : List Value} {ty : TypeId} {v0 v1 v2 v3 : Value}

theorem Four.lt (h : Four w b pre post ty v0 v1 v2 v3) : b < w.heap.size := (Array.getElem?_eq_some_iff.1 h).1
theorem Four.frozen (h : Four w b pre post ty v0 v1 v2 v3) (i : Nat) : w.frozen? ⟨b, i, none⟩ = false := by
  unfold Four at h; simp [World.frozen?, h]
theorem Four.cell (h : Four w b pre post ty v0 v1 v2 v3) (i : Nat) : w.cell? ⟨b, pre.length + i, none⟩ = (v0 :: v1 :: v2 :: v3 :: post)[i]? := by
  unfold Four at h
  simp [World.cell?, h, List.getElem?_append_right]
theorem Four.c0 (h : Four w b pre post ty v0 v1 v2 v3) {o : Nat} (ho : pre.length = o) : w.cell? ⟨b, o, none⟩ = some v0 := by
  have := h.cell 0; rw [ho] at this; simpa using this
theorem Four.c1 (h : Four w b pre post ty v0 v1 v2 v3) {o : Nat} (ho : pre.length = o) : w.cell? ⟨b, o + 1, none⟩ = some v1 := by
  have := h.cell 1; rw [ho] at this; simpa using this
theorem Four.c2 (h : Four w b pre post ty v0 v1 v2 v3) {o : Nat} (ho : pre.length = o) : w.cell? ⟨b, o + 2, none⟩ = some v2 := by
  have := h.cell 2; rw [ho] at this; simpa using this
theorem Four.c3 (h : Four w b pre post ty v0 v1 v2 v3) {o : Nat} (ho : pre.length = o) : w.cell? ⟨b, o + 3, none⟩ = some v3 := by
  have := h.cell 3; rw [ho] at this; simpa using this
theorem Four.put (h : Four w b pre post ty v0 v1 v2 v3) (i : Nat) (v : Value) : (w.setCell ⟨b, pre.length + i, none⟩ v).heap[b]? = some (.cells (pre ++ (v0 :: v1 :: v2 :: v3 :: post).set i v).toArray ty (0, 0)) := by
  unfold Four at h
  simp [World.setCell, Array.getElem?_modify, h]
theorem Four.s0 (h : Four w b pre post ty v0 v1 v2 v3) {o : Nat} (ho : pre.length = o) (v : Value) : Four (w.setCell ⟨b, o, none⟩ v) b pre post ty v v1 v2 v3 := by
  have := h.put 0 v; rw [ho] at this; exact this
theorem Four.s1 (h : Four w b pre post ty v0 v1 v2 v3) {o : Nat} (ho : pre.length = o) (v : Value) : Four (w.setCell ⟨b, o + 1, none⟩ v) b pre post ty v0 v v2 v3 := by
  have := h.put 1 v; rw [ho] at this; exact this
theorem Four.s2 (h : Four w b pre post ty v0 v1 v2 v3) {o : Nat} (ho : pre.length = o) (v : Value) : Four (w.setCell ⟨b, o + 2, none⟩ v) b pre post ty v0 v1 v v3 := by
  have := h.put 2 v; rw [ho] at this; exact this
theorem Four.s3 (h : Four w b pre post ty v0 v1 v2 v3) {o : Nat} (ho : pre.length = o) (v : Value) : Four (w.setCell ⟨b, o + 3, none⟩ v) b pre post ty v0 v1 v2 v := by
  have := h.put 3 v; rw [ho] at this; exact this
theorem Four.keep {P : Nat → Prop} {w' : World} (h : Four w b pre post ty v0 v1 v2 v3) (hk : Kept P w w') (hr : ¬ P b) : Four w' b pre post ty v0 v1 v2 v3 := by
  have := h.lt
  unfold Four at *
  rw [hk.block b this hr]; exact h
theorem Four.ne (h : Four w b pre post ty v0 v1 v2 v3) {base : Nat} {e : TypeId} {v : Value} {n : Nat} {xs : List Value} (ho : w.ownsRow base e 1 v n xs) (he : e ≠ ty) : ∀ g, v.ownBlock = some g → g ≠ b := by
  intro g hg e1
  subst e1
  rcases ho.2 with ⟨rfl, _⟩ | ⟨g', cap, cur, rfl, _, hgg, _⟩
  · cases hg
  · have : g' = g := by simpa [Value.ownBlock] using hg
    subst this
    unfold Four at h
    rw [hgg] at h
    simp at h
    exact he h.2
end

theorem own_set {w : World} {base : Nat} {e : TypeId} {g n cap : Nat} {xs : List Value} (h : w.ownsRow base e 1 (.slice (some ⟨g, 0, none⟩) n cap) n xs) (i : Nat) (u : Value) :
    (w.setCell ⟨g, i, none⟩ u).ownsRow base e 1 (.slice (some ⟨g, 0, none⟩) n cap) n (xs.set i u) := by
  refine ⟨by simpa using h.1, ?_⟩
  rcases h.2 with ⟨h1, _⟩ | ⟨g', cap', cur, h1, h2, h3, h4, h5, h6, h7⟩
  · cases h1
  · injection h1 with e1 e2 e3
    injection e1 with e4
    injection e4 with e5
    subst e5; subst e3
    refine .inr ⟨g, cap, cur.setIfInBounds i u, rfl, h2, ?_, h4, h5, by simpa using h6, ?_⟩
    · simp [World.setCell, Array.getElem?_modify, h3]
    · rw [Array.toList_setIfInBounds, ← h7, List.take_set]
theorem own_cell {w : World} {base : Nat} {e : TypeId} {g n cap : Nat} {xs : List Value} (h : w.ownsRow base e 1 (.slice (some ⟨g, 0, none⟩) n cap) n xs) {i : Nat} {u : Value} (hu : xs[i]? = some u) : w.cell? ⟨g, i, none⟩ = some u := by
  have := h.cells (g := g) rfl i u hu
  have e : (⟨g, 0, none⟩ : Addr).add i = ⟨g, i, none⟩ := by
    unfold Addr.add
    by_cases h0 : i = 0
    · subst h0; simp
    · simp [h0]
  rw [← e]; exact this
theorem own_frozen {w : World} {base : Nat} {e : TypeId} {g n cap : Nat} {xs : List Value} (h : w.ownsRow base e 1 (.slice (some ⟨g, 0, none⟩) n cap) n xs) (i : Nat) : w.frozen? ⟨g, i, none⟩ = false := by
  rcases h.2 with ⟨h1, _⟩ | ⟨g', cap', cur, h1, h2, h3, _⟩
  · cases h1
  · injection h1 with e1 e2 e3
    injection e1 with e4
    injection e4 with e5
    subst e5
    simp [World.frozen?, h3]

/-- the words of so many bits, and how many ones stand ahead of each -/
def wordsL (p : Nat → Bool) (n : Nat) : List Value := (List.range ((n + 63) / 64)).map fun j => .int .u64 (Bm.wordAt (fun i => p (64 * j + i)) (min 64 (n - 64 * j)) : Nat)
def aheadL (p : Nat → Bool) (n : Nat) : List Value := (List.range ((n + 63) / 64)).map fun j => .int .i64 (Cc.cn (64 * j) p : Nat)

theorem wordsL_get (p : Nat → Bool) {n j : Nat} (h : 64 * j < n) : (wordsL p n)[j]? = some (.int .u64 (Bm.wordAt (fun i => p (64 * j + i)) (min 64 (n - 64 * j)) : Nat)) := by
  unfold wordsL
  rw [List.getElem?_map, List.getElem?_range (by omega)]; rfl
theorem aheadL_get (p : Nat → Bool) {n j : Nat} (h : 64 * j < n) : (aheadL p n)[j]? = some (.int .i64 (Cc.cn (64 * j) p : Nat)) := by
  unfold aheadL
  rw [List.getElem?_map, List.getElem?_range (by omega)]; rfl

theorem wordsL_step (p : Nat → Bool) {n : Nat} (h : n % 64 ≠ 0) (v : Value) (hv : v = .int .u64 (Bm.wordAt (fun i => p (64 * (n / 64) + i)) (n % 64 + 1) : Nat)) : (wordsL p n).set (n / 64) v = wordsL p (n + 1) := by
  have hl : (n + 1 + 63) / 64 = (n + 63) / 64 := by omega
  apply List.ext_getElem?
  intro j
  rw [List.getElem?_set]
  unfold wordsL
  rw [hl]
  simp only [List.length_map, List.length_range]
  by_cases hj : j < (n + 63) / 64
  · by_cases e : n / 64 = j
    · subst e
      rw [if_pos rfl, if_pos hj, List.getElem?_map, List.getElem?_range hj, hv]
      simp only [Option.map_some]
      congr 4
      omega
    · rw [if_neg e, List.getElem?_map, List.getElem?_range hj]
      simp only [List.getElem?_map, List.getElem?_range hj, Option.map_some]
      congr 4
      omega
  · by_cases e : n / 64 = j
    · omega
    · rw [if_neg e]
      simp [hj]
theorem aheadL_step (p : Nat → Bool) {n : Nat} (h : n % 64 ≠ 0) : aheadL p (n + 1) = aheadL p n := by
  unfold aheadL
  rw [show (n + 1 + 63) / 64 = (n + 63) / 64 by omega]
theorem wordsL_new (p : Nat → Bool) {n : Nat} (h : n % 64 = 0) (v : Value) (hv : v = .int .u64 (Bm.wordAt (fun i => p (64 * (n / 64) + i)) (n % 64 + 1) : Nat)) : (wordsL p n ++ [Value.int .u64 0]).set (n / 64) v = wordsL p (n + 1) := by
  have hl : (n + 1 + 63) / 64 = n / 64 + 1 := by omega
  have hl2 : (n + 63) / 64 = n / 64 := by omega
  unfold wordsL
  rw [hl, hl2, List.range_succ, List.map_append, List.set_append_right _ _ (by simp)]
  simp only [List.length_map, List.length_range, Nat.sub_self, List.set_cons_zero, List.map_cons, List.map_nil]
  congr 1
  · apply List.map_congr_left
    intro j hj
    have : j < n / 64 := by simpa using hj
    rw [show min 64 (n + 1 - 64 * j) = min 64 (n - 64 * j) by omega]
  · rw [hv]
    rw [show min 64 (n + 1 - 64 * (n / 64)) = n % 64 + 1 by omega]
theorem aheadL_new (p : Nat → Bool) {n : Nat} (h : n % 64 = 0) : aheadL p n ++ [Value.int .i64 (Cc.cn n p : Nat)] = aheadL p (n + 1) := by
  unfold aheadL
  rw [show (n + 1 + 63) / 64 = (n + 63) / 64 + 1 by omega, List.range_succ, List.map_append]
  rw [show (n + 63) / 64 = n / 64 by omega]
  simp only [List.map_cons, List.map_nil]
  rw [show 64 * (n / 64) = n by omega]

/-- bits, n of them, in a list that lies in block b -/
structure BitL (base : Nat) (w : World) (b : Nat) (pre post : List Value) (ty : TypeId) (wv av : Value) (p : Nat → Bool) (n : Nat) : Prop where
  four : Four w b pre post ty wv av (.int .i64 (n : Nat)) (.int .i64 (Cc.cn n p : Nat))
  words : w.ownsRow base 112 1 wv ((n + 63) / 64) (wordsL p n)
  ahead : w.ownsRow base 3 1 av ((n + 63) / 64) (aheadL p n)
  low : base ≤ b
  t1 : 112 ≠ ty
  t2 : 3 ≠ ty

/-- the blocks of a list of bits -/
def bitP (b : Nat) (wv av : Value) (k : Nat) : Prop := k = b ∨ wv.ownBlock = some k ∨ av.ownBlock = some k

theorem Kept.mono {P Q : Nat → Prop} {w w' : World} (h : Kept P w w') (hq : ∀ k, k < w.heap.size → P k → Q k) : Kept Q w w' :=
  ⟨h.os, h.tape, h.output, h.size, fun k hk hn => h.block k hk (fun hp => hn (hq k hk hp))⟩
theorem Kept.trans' {P Q : Nat → Prop} {a b c : World} (h : Kept P a b) (k : Kept Q b c) (hq : ∀ i, i < a.heap.size → Q i → P i) : Kept P a c :=
  ⟨k.os.trans h.os, k.tape.trans h.tape, k.output.trans h.output, Nat.le_trans h.size k.size, fun i hi hn => (k.block i (Nat.lt_of_lt_of_le hi h.size) (fun x => hn (hq i hi x))).trans (h.block i hi hn)⟩

theorem BitL.keep {P : Nat → Prop} {base : Nat} {w w' : World} {b : Nat} {pre post : List Value} {ty : TypeId} {wv av : Value} {p : Nat → Bool} {n : Nat} (h : BitL base w b pre post ty wv av p n) (hk : Kept P w w') (hn : ∀ k, bitP b wv av k → ¬ P k) : BitL base w' b pre post ty wv av p n :=
  ⟨h.four.keep hk (hn b (.inl rfl)), own_keep h.words hk (fun g hg => hn g (.inr (.inl hg))), own_keep h.ahead hk (fun g hg => hn g (.inr (.inr hg))), h.low, h.t1, h.t2⟩
theorem BitL.lt {base : Nat} {w : World} {b : Nat} {pre post : List Value} {ty : TypeId} {wv av : Value} {p : Nat → Bool} {n : Nat} (h : BitL base w b pre post ty wv av p n) : ∀ k, bitP b wv av k → base ≤ k ∧ k < w.heap.size := by
  rintro k (rfl | hk | hk)
  · exact ⟨h.low, h.four.lt⟩
  · exact h.words.lt k hk
  · exact h.ahead.lt k hk
theorem BitL.below {base : Nat} {w w' : World} {b : Nat} {pre post : List Value} {ty : TypeId} {wv av : Value} {p : Nat → Bool} {n : Nat} (h : BitL base w b pre post ty wv av p n) (hb : Below w.heap.size w w') : BitL base w' b pre post ty wv av p n :=
  h.keep (Kept.of_below hb (Nat.le_refl _) (fun _ => False)) (fun _ _ h => h)
theorem BitL.congr {base : Nat} {w : World} {b : Nat} {pre post : List Value} {ty : TypeId} {wv av : Value} {p q : Nat → Bool} {n : Nat} (h : BitL base w b pre post ty wv av p n) (hq : ∀ i, i < n → p i = q i) : BitL base w b pre post ty wv av q n := by
  have e1 : wordsL p n = wordsL q n := by
    unfold wordsL
    apply List.map_congr_left
    intro j hj
    have : j < (n + 63) / 64 := by simpa using hj
    rw [Bm.wordAt_congr (fun i hi => hq (64 * j + i) (by omega))]
  have e2 : aheadL p n = aheadL q n := by
    unfold aheadL
    apply List.map_congr_left
    intro j hj
    have : j < (n + 63) / 64 := by simpa using hj
    rw [Cc.cn_congr (fun i hi => hq i (by omega))]
  refine ⟨?_, e1 ▸ h.words, e2 ▸ h.ahead, h.low, h.t1, h.t2⟩
  rw [← Cc.cn_congr hq]; exact h.four

end Go.Proofs.YtopihgmemnokkaaGreat

namespace Go.Proofs.YtopihgmemnokkaaGreat
open Go.RowKit

theorem setCells_kept (b : Nat) : ∀ (vs : List Value) (o : Nat) (w : World), Kept (fun k => k = b) w (w.setCells b o vs)
  | [], _, w => Kept.refl _ w
  | v :: r, o, w => ((Kept.refl (fun k => k = b) w).setCell (show (⟨b, o, none⟩ : Addr).block = b from rfl) v).trans (setCells_kept b r (o + 1) _)
theorem setCells_block (b : Nat) (e : TypeId) : ∀ (vs : List Value) (o : Nat) (w : World) (cur : Array Value), w.heap[b]? = some (.cells cur e (0, 0)) → ∃ cur' : Array Value, (w.setCells b o vs).heap[b]? = some (.cells cur' e (0, 0)) ∧ cur'.size = cur.size
  | [], _, w, cur, h => ⟨cur, h, rfl⟩
  | v :: r, o, w, cur, h => by
    obtain ⟨c2, h1, h2⟩ := setCells_block b e r (o + 1) (w.setCell ⟨b, o, none⟩ v) (cur.setIfInBounds o v) (by simp [World.setCell, Array.getElem?_modify, h])
    exact ⟨c2, h1, by simpa using h2⟩

/-- a row of pointers to blocks, from a place on, with room -/
structure PRow (w : World) (g off cap : Nat) (L : List Nat) : Prop where
  blk : ∃ cur : Array Value, w.heap[g]? = some (.cells cur 178 (0, 0)) ∧ off + cap ≤ cur.size
  cells : ∀ (j b : Nat), L[j]? = some b → w.cell? ⟨g, off + j, none⟩ = some (.pointer (some ⟨b, 0, none⟩))
  len : L.length ≤ cap
  cap63 : cap ≤ 9223372036854775807

section
variable {w : World} {g off cap : Nat} {L : List Nat}
theorem PRow.lt (h : PRow w g off cap L) : g < w.heap.size := by
  obtain ⟨cur, h1, _⟩ := h.blk; exact (Array.getElem?_eq_some_iff.1 h1).1
theorem PRow.frozen (h : PRow w g off cap L) (i : Nat) : w.frozen? ⟨g, i, none⟩ = false := by
  obtain ⟨cur, h1, _⟩ := h.blk; simp [World.frozen?, h1]
theorem PRow.there (h : PRow w g off cap L) {i : Nat} (hi : i < off + cap) : (w.cell? ⟨g, i, none⟩).isSome = true := by
  obtain ⟨cur, h1, h2⟩ := h.blk
  have : i < cur.size := by omega
  simp [World.cell?, h1, this]
theorem PRow.keep {P : Nat → Prop} {w' : World} (h : PRow w g off cap L) (hk : Kept P w w') (hn : ¬ P g) : PRow w' g off cap L := by
  obtain ⟨cur, h1, h2⟩ := h.blk
  refine ⟨⟨cur, by rw [hk.block g h.lt hn]; exact h1, h2⟩, fun j b hj => ?_, h.len, h.cap63⟩
  have hc := h.cells j b hj
  unfold World.cell? at hc ⊢
  rw [hk.block g h.lt hn]; exact hc
/-- without the first ones -/
theorem PRow.drop (h : PRow w g off cap L) (k : Nat) (hk : k ≤ L.length) : PRow w g (off + k) (cap - k) (L.drop k) := by
  obtain ⟨cur, h1, h2⟩ := h.blk
  have hl := h.len
  have h63 := h.cap63
  refine ⟨⟨cur, h1, by omega⟩, fun j b hj => ?_, by rw [List.length_drop]; omega, by omega⟩
  rw [List.getElem?_drop] at hj
  have := h.cells (k + j) b hj
  rw [Nat.add_assoc]; exact this
end

/-- a tree in memory -/
def TreeAt (f : Nat → Nat) (w : World) : Hf.T → Nat → Prop
  | .leaf c, b => w.heap[b]? = some (.cells #[.int .i64 (f c : Nat), .int .u8 (c : Nat), .pointer none, .pointer none] 181 (0, 0))
  | .node l r, b => ∃ bl br, w.heap[b]? = some (.cells #[.int .i64 (Hf.wt f (.node l r) : Nat), .int .u8 (Hf.least (.node l r) : Nat), .pointer (some ⟨bl, 0, none⟩), .pointer (some ⟨br, 0, none⟩)] 181 (0, 0)) ∧ TreeAt f w l bl ∧ TreeAt f w r br

theorem TreeAt.block {f : Nat → Nat} {w : World} : ∀ {t : Hf.T} {b : Nat}, TreeAt f w t b → ∃ p0 p1, w.heap[b]? = some (.cells #[.int .i64 (Hf.wt f t : Nat), .int .u8 (Hf.least t : Nat), p0, p1] 181 (0, 0))
  | .leaf _, _, h => ⟨_, _, h⟩
  | .node _ _, _, ⟨_, _, h, _⟩ => ⟨_, _, h⟩
theorem TreeAt.lt {f : Nat → Nat} {w : World} {t : Hf.T} {b : Nat} (h : TreeAt f w t b) : b < w.heap.size := by
  obtain ⟨_, _, h1⟩ := h.block; exact (Array.getElem?_eq_some_iff.1 h1).1
theorem TreeAt.c0 {f : Nat → Nat} {w : World} {t : Hf.T} {b : Nat} (h : TreeAt f w t b) : w.cell? ⟨b, 0, none⟩ = some (.int .i64 (Hf.wt f t : Nat)) := by
  obtain ⟨_, _, h1⟩ := h.block; simp [World.cell?, h1]
theorem TreeAt.c1 {f : Nat → Nat} {w : World} {t : Hf.T} {b : Nat} (h : TreeAt f w t b) : w.cell? ⟨b, 1, none⟩ = some (.int .u8 (Hf.least t : Nat)) := by
  obtain ⟨_, _, h1⟩ := h.block; simp [World.cell?, h1]
theorem TreeAt.keep {f : Nat → Nat} {P : Nat → Prop} {w w' : World} (hk : Kept P w w') (hP : ∀ (b : Nat) (cs : Array Value), w.heap[b]? = some (.cells cs 181 (0, 0)) → ¬ P b) : ∀ {t : Hf.T} {b : Nat}, TreeAt f w t b → TreeAt f w' t b
  | .leaf _, b, h => by
    unfold TreeAt at *
    rw [hk.block b (Array.getElem?_eq_some_iff.1 h).1 (hP b _ h)]; exact h
  | .node _ _, b, h => by
    obtain ⟨bl, br, h1, h2, h3⟩ := h
    exact ⟨bl, br, by rw [hk.block b (Array.getElem?_eq_some_iff.1 h1).1 (hP b _ h1)]; exact h1, h2.keep hk hP, h3.keep hk hP⟩
theorem TreeAt.below {f : Nat → Nat} {w w' : World} {t : Hf.T} {b : Nat} (h : TreeAt f w t b) (hb : Below w.heap.size w w') : TreeAt f w' t b :=
  h.keep (Kept.of_below hb (Nat.le_refl _) (fun _ => False)) (fun _ _ _ h => h)
/-- a row of pointers is no tree -/
theorem PRow.tree {w : World} {g off cap : Nat} {L : List Nat} (h : PRow w g off cap L) : ∀ (b : Nat) (cs : Array Value), w.heap[b]? = some (.cells cs 181 (0, 0)) → ¬ b = g := by
  rintro b cs hb rfl
  obtain ⟨cur, h1, _⟩ := h.blk
  rw [hb] at h1
  simp at h1

/-- trees, one in each block of a list -/
def Trees (f : Nat → Nat) (w : World) (L : List Nat) (l : List Hf.T) : Prop := L.length = l.length ∧ ∀ (j b : Nat) (t : Hf.T), L[j]? = some b → l[j]? = some t → TreeAt f w t b

theorem Trees.keep {f : Nat → Nat} {P : Nat → Prop} {w w' : World} {L : List Nat} {l : List Hf.T} (h : Trees f w L l) (hk : Kept P w w') (hP : ∀ (b : Nat) (cs : Array Value), w.heap[b]? = some (.cells cs 181 (0, 0)) → ¬ P b) : Trees f w' L l :=
  ⟨h.1, fun j b t h1 h2 => (h.2 j b t h1 h2).keep hk hP⟩

end Go.Proofs.YtopihgmemnokkaaGreat

