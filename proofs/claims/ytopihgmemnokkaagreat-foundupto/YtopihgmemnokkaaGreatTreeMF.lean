import Derived.Test.YtopihgmemnokkaaGreatBitW4F
import Derived.Test.YtopihgmemnokkaaGreatHuffF
namespace Go.Proofs.YtopihgmemnokkaaGreat
open Go.RowKit

/-- a tree of bits in memory, with the blocks that it has -/
def BTree (base : Nat) : Nat → World → Value → List (List Bool) → (Nat → Prop) → Prop
  | 0, _, v, X, F => v = .pointer none ∧ (∀ x ∈ X, x = []) ∧ ∀ k, ¬ F k
  | d + 1, w, v, X, F => (v = .pointer none ∧ (∀ x ∈ X, x = []) ∧ ∀ k, ¬ F k) ∨
      ∃ (b : Nat) (wv av v0 v1 : Value) (F0 F1 : Nat → Prop), v = .pointer (some ⟨b, 0, none⟩) ∧ (∃ x ∈ X, x ≠ []) ∧ BitL base w b [] [v0, v1] 223 wv av (Wv.bitAt X) (Wv.bits X).length ∧
        BTree base d w v0 (Wv.child false X) F0 ∧ BTree base d w v1 (Wv.child true X) F1 ∧ (∀ k, bitP b wv av k → ¬ F0 k ∧ ¬ F1 k) ∧ (∀ k, F0 k → ¬ F1 k) ∧ ∀ k, F k ↔ (bitP b wv av k ∨ F0 k ∨ F1 k)

theorem BTree.keep {base : Nat} {P : Nat → Prop} {w w' : World} (hk : Kept P w w') : ∀ {d : Nat} {v : Value} {X : List (List Bool)} {F : Nat → Prop}, BTree base d w v X F → (∀ k, F k → ¬ P k) → BTree base d w' v X F
  | 0, _, _, _, h, _ => h
  | d + 1, v, X, F, h, hn => by
    rcases h with h | ⟨b, wv, av, v0, v1, F0, F1, h1, h2, h3, h4, h5, h6, h7, h8⟩
    · exact .inl h
    · exact .inr ⟨b, wv, av, v0, v1, F0, F1, h1, h2, h3.keep hk (fun k hp => hn k ((h8 k).2 (.inl hp))), BTree.keep hk h4 (fun k hp => hn k ((h8 k).2 (.inr (.inl hp)))), BTree.keep hk h5 (fun k hp => hn k ((h8 k).2 (.inr (.inr hp)))), h6, h7, h8⟩
theorem BTree.lt {base : Nat} {w : World} : ∀ {d : Nat} {v : Value} {X : List (List Bool)} {F : Nat → Prop}, BTree base d w v X F → ∀ k, F k → base ≤ k ∧ k < w.heap.size
  | 0, _, _, _, h, k, hk => absurd hk (h.2.2 k)
  | d + 1, v, X, F, h, k, hk => by
    rcases h with h | ⟨b, wv, av, v0, v1, F0, F1, h1, h2, h3, h4, h5, h6, h7, h8⟩
    · exact absurd hk (h.2.2 k)
    · rcases (h8 k).1 hk with hp | hp | hp
      · exact h3.lt k hp
      · exact BTree.lt h4 k hp
      · exact BTree.lt h5 k hp
theorem BTree.below {base : Nat} {w w' : World} (hb : Below w.heap.size w w') {d : Nat} {v : Value} {X : List (List Bool)} {F : Nat → Prop} (h : BTree base d w v X F) : BTree base d w' v X F :=
  h.keep (Kept.of_below hb (Nat.le_refl _) (fun _ => False)) (fun _ _ h => h)
theorem BTree.empty {base d : Nat} {w : World} {X : List (List Bool)} (h : ∀ x ∈ X, x = []) : BTree base d w (.pointer none) X (fun _ => False) := by
  cases d with
  | zero => exact ⟨rfl, h, fun _ h => h⟩
  | succ d => exact .inl ⟨rfl, h, fun _ h => h⟩
theorem bitAt_ext {X Y : List (List Bool)} (h : Wv.bits X = Wv.bits Y) : Wv.bitAt X = Wv.bitAt Y := by unfold Wv.bitAt; rw [h]
theorem BTree.more {base : Nat} {w : World} : ∀ {d : Nat} {v : Value} {X : List (List Bool)} {F : Nat → Prop}, BTree base d w v X F → BTree base d w v (X ++ [[]]) F
  | 0, _, X, _, h => ⟨h.1, fun x hx => by
    rcases List.mem_append.1 hx with h1 | h1
    · exact h.2.1 x h1
    · simpa using h1, h.2.2⟩
  | d + 1, v, X, F, h => by
    rcases h with h | ⟨b, wv, av, v0, v1, F0, F1, h1, ⟨x, hx, hx2⟩, h3, h4, h5, h6, h7, h8⟩
    · refine .inl ⟨h.1, fun x hx => ?_, h.2.2⟩
      rcases List.mem_append.1 hx with h1 | h1
      · exact h.2.1 x h1
      · simpa using h1
    · refine .inr ⟨b, wv, av, v0, v1, F0, F1, h1, ⟨x, by simp [hx], hx2⟩, ?_, ?_, ?_, h6, h7, h8⟩
      · rw [bitAt_ext (Wv.bits_nil X), Wv.bits_nil]; exact h3
      · rw [Wv.child_nil]; exact h4
      · rw [Wv.child_nil]; exact h5
/-- what a node that is there has -/
theorem BTree.node {base d : Nat} {w : World} {v : Value} {X : List (List Bool)} {F : Nat → Prop} (h : BTree base (d + 1) w v X F) (hx : ∃ x ∈ X, x ≠ []) :
    ∃ (b : Nat) (wv av v0 v1 : Value) (F0 F1 : Nat → Prop), v = .pointer (some ⟨b, 0, none⟩) ∧ BitL base w b [] [v0, v1] 223 wv av (Wv.bitAt X) (Wv.bits X).length ∧
        BTree base d w v0 (Wv.child false X) F0 ∧ BTree base d w v1 (Wv.child true X) F1 := by
  rcases h with h | ⟨b, wv, av, v0, v1, F0, F1, h1, h2, h3, h4, h5, _⟩
  · obtain ⟨x, hx, hn⟩ := hx
    exact absurd (h.2.1 x hx) hn
  · exact ⟨b, wv, av, v0, v1, F0, F1, h1, h3, h4, h5⟩

/-- a place in memory for a tree, and what comes of it when a way is laid there -/
def Hole (base d : Nat) (w : World) (ab ao : Nat) (x : List Bool) (Fin : World → Prop) : Prop :=
  ∃ (cs : Array Value) (ty : TypeId) (v : Value) (X : List (List Bool)) (F : Nat → Prop), w.heap[ab]? = some (.cells cs ty (0, 0)) ∧ cs[ao]? = some v ∧ BTree base d w v X F ∧ ¬ F ab ∧ X.length ≤ 1000000 ∧
    ∀ (w' : World) (v' : Value) (F' : Nat → Prop), w'.heap[ab]? = some (.cells (cs.setIfInBounds ao v') ty (0, 0)) → BTree base d w' v' (X ++ [x]) F' → Kept (fun k => k = ab ∨ F k) w w' → (∀ k, F' k → F k ∨ w.heap.size ≤ k) → Fin w'

theorem set_self {cs : Array Value} {i : Nat} {v : Value} (h : cs[i]? = some v) : cs.setIfInBounds i v = cs := by
  apply Array.ext_getElem?
  intro j
  rw [Array.getElem?_setIfInBounds]
  by_cases e : i = j
  · subst e
    have := (Array.getElem?_eq_some_iff.1 h).1
    rw [if_pos rfl, if_pos this, h]
  · rw [if_neg e]
theorem Hole.done {base d : Nat} {w : World} {ab ao : Nat} {Fin : World → Prop} (h : Hole base d w ab ao [] Fin) : Fin w := by
  obtain ⟨cs, ty, v, X, F, h1, h2, h3, h4, hN, h5⟩ := h
  exact h5 w v F (by rw [set_self h2]; exact h1) h3.more (Kept.refl _ _) (fun k hk => .inl hk)
theorem Hole.cell {base d : Nat} {w : World} {ab ao : Nat} {x : List Bool} {Fin : World → Prop} (h : Hole base d w ab ao x Fin) : ∃ v, w.cell? ⟨ab, ao, none⟩ = some v ∧ (v = .pointer none ∨ ∃ b, v = .pointer (some ⟨b, 0, none⟩)) ∧ w.frozen? ⟨ab, ao, none⟩ = false := by
  obtain ⟨cs, ty, v, X, F, h1, h2, h3, h4, hN, h5⟩ := h
  refine ⟨v, by simp [World.cell?, h1, h2], ?_, by simp [World.frozen?, h1]⟩
  cases d with
  | zero => exact .inl h3.1
  | succ d =>
    rcases h3 with h3 | ⟨b, _, _, _, _, _, _, h3, _⟩
    · exact .inl h3.1
    · exact .inr ⟨b, h3⟩
theorem Hole.below {base d : Nat} {w w1 : World} {ab ao : Nat} {x : List Bool} {Fin : World → Prop} (h : Hole base d w ab ao x Fin) (hb : Below w.heap.size w w1) : Hole base d w1 ab ao x Fin := by
  obtain ⟨cs, ty, v, X, F, h1, h2, h3, h4, hN, h5⟩ := h
  have hlt : ab < w.heap.size := (Array.getElem?_eq_some_iff.1 h1).1
  refine ⟨cs, ty, v, X, F, by rw [hb.block ab hlt]; exact h1, h2, h3.below hb, h4, hN, fun w' v' F' g1 g2 g3 g4 => h5 w' v' F' g1 g2 ?_ ?_⟩
  · exact (Kept.of_below hb (Nat.le_refl _) (fun k => k = ab ∨ F k)).trans g3
  · intro k hk
    rcases g4 k hk with h | h
    · exact .inl h
    · exact .inr (Nat.le_trans hb.size h)

/-- a node as it stands, in a hole: the way goes on -/
def Node (base d : Nat) (w : World) (ab ao b : Nat) (x : List Bool) (Fin : World → Prop) : Prop :=
  ∃ (cs : Array Value) (ty : TypeId) (X : List (List Bool)) (F : Nat → Prop) (wv av v0 v1 : Value) (F0 F1 : Nat → Prop), w.heap[ab]? = some (.cells cs ty (0, 0)) ∧ cs[ao]? = some (.pointer (some ⟨b, 0, none⟩)) ∧ ¬ F ab ∧ X.length ≤ 1000000 ∧
    BitL base w b [] [v0, v1] 223 wv av (Wv.bitAt X) (Wv.bits X).length ∧ BTree base d w v0 (Wv.child false X) F0 ∧ BTree base d w v1 (Wv.child true X) F1 ∧
    (∀ k, bitP b wv av k → ¬ F0 k ∧ ¬ F1 k) ∧ (∀ k, F0 k → ¬ F1 k) ∧ (∀ k, F k ↔ (bitP b wv av k ∨ F0 k ∨ F1 k)) ∧
    ∀ (w' : World) (F' : Nat → Prop), w'.heap[ab]? = some (.cells cs ty (0, 0)) → BTree base (d + 1) w' (.pointer (some ⟨b, 0, none⟩)) (X ++ [x]) F' → Kept F w w' → (∀ k, F' k → F k ∨ w.heap.size ≤ k) → Fin w'

theorem Hole.node {base d : Nat} {w : World} {ab ao b : Nat} {x : List Bool} {Fin : World → Prop} (h : Hole base (d + 1) w ab ao x Fin) (hc : w.cell? ⟨ab, ao, none⟩ = some (.pointer (some ⟨b, 0, none⟩))) : Node base d w ab ao b x Fin := by
  obtain ⟨cs, ty, v, X, F, h1, h2, h3, h4, hN, h5⟩ := h
  have hv : v = .pointer (some ⟨b, 0, none⟩) := by
    have : w.cell? ⟨ab, ao, none⟩ = some v := by simp [World.cell?, h1, h2]
    rw [hc] at this; exact (Option.some.inj this).symm
  subst hv
  rcases h3 with h3 | ⟨b', wv, av, v0, v1, F0, F1, g1, g2, g3, g4, g5, g6, g7, g8⟩
  · cases h3.1
  · have : b' = b := by injection g1 with e; injection e with e; injection e with e; exact e.symm
    subst this
    refine ⟨cs, ty, X, F, wv, av, v0, v1, F0, F1, h1, h2, h4, hN, g3, g4, g5, g6, g7, g8, fun w' F' k1 k2 k3 k4 => h5 w' _ F' (by rw [set_self h2]; exact k1) k2 (k3.mono (fun k _ hk => .inr hk)) k4⟩
def nodeCells : Array Value := #[.slice none 0 0, .slice none 0 0, .int .i64 0, .int .i64 0, .pointer none, .pointer none]
/-- a node is made -/
theorem Hole.made {base d : Nat} {w : World} {ab ao : Nat} {x : List Bool} {Fin : World → Prop} (h : Hole base (d + 1) w ab ao x Fin) (hc : w.cell? ⟨ab, ao, none⟩ = some (.pointer none)) (hbase : base ≤ w.heap.size) :
    Node base d ((w.alloc (.cells nodeCells 223)).setCell ⟨ab, ao, none⟩ (.pointer (some ⟨w.heap.size, 0, none⟩))) ab ao w.heap.size x Fin := by
  obtain ⟨cs, ty, v, X, F, h1, h2, h3, h4, hN, h5⟩ := h
  have hv : v = .pointer none := by
    have : w.cell? ⟨ab, ao, none⟩ = some v := by simp [World.cell?, h1, h2]
    rw [hc] at this; exact (Option.some.inj this).symm
  subst hv
  have hX : (∀ x ∈ X, x = []) ∧ ∀ k, ¬ F k := by
    rcases h3 with h3 | ⟨b', wv, av, v0, v1, F0, F1, g1, _⟩
    · exact h3.2
    · cases g1
  obtain ⟨hX, hF⟩ := hX
  have hlt : ab < w.heap.size := (Array.getElem?_eq_some_iff.1 h1).1
  have hao : ao < cs.size := (Array.getElem?_eq_some_iff.1 h2).1
  have h1a : (w.alloc (.cells nodeCells 223)).heap[ab]? = some (.cells cs ty (0, 0)) := by rw [Below.heap_alloc w _ ab hlt]; exact h1
  have hnew : (w.alloc (.cells nodeCells 223)).heap[w.heap.size]? = some (.cells nodeCells 223 (0, 0)) := heap_alloc_new _ _
  have hbits : Wv.bits X = [] := by
    unfold Wv.bits
    rw [List.filterMap_eq_nil_iff]
    intro a ha; rw [hX a ha]; rfl
  have hch : ∀ c, Wv.child c X = [] := fun c => by
    unfold Wv.child
    rw [List.filterMap_eq_nil_iff]
    intro a ha; rw [hX a ha]; rfl
  generalize hw2 : (w.alloc (.cells nodeCells 223)).setCell ⟨ab, ao, none⟩ (.pointer (some ⟨w.heap.size, 0, none⟩)) = w2
  have g1 : w2.heap[ab]? = some (.cells (cs.setIfInBounds ao (.pointer (some ⟨w.heap.size, 0, none⟩))) ty (0, 0)) := by
    subst hw2
    simp [World.setCell, Array.getElem?_modify, h1a]
  have g2 : w2.heap[w.heap.size]? = some (.cells nodeCells 223 (0, 0)) := by
    subst hw2
    rw [Below.heap_setCell _ _ _ _ (by intro e; simp at e; omega)]; exact hnew
  have g3 : Kept (fun k => k = ab) w w2 := by
    subst hw2
    exact ((Kept.refl _ w).alloc _).setCell (by rfl) _
  have hz : w2.heap.size = w.heap.size + 1 := by subst hw2; simp
  have hB : BitL base w2 w.heap.size [] [.pointer none, .pointer none] 223 (.slice none 0 0) (.slice none 0 0) (Wv.bitAt X) (Wv.bits X).length := by
    rw [hbits]
    refine ⟨?_, ⟨rfl, .inl ⟨rfl, rfl⟩⟩, ⟨rfl, .inl ⟨rfl, rfl⟩⟩, hbase, by decide, by decide⟩
    unfold Four
    rw [g2]; rfl
  refine ⟨cs.setIfInBounds ao (.pointer (some ⟨w.heap.size, 0, none⟩)), ty, X, fun k => k = w.heap.size, _, _, _, _, fun _ => False, fun _ => False, g1, by simp [hao], by omega, hN, hB, ?_, ?_, fun k _ => ⟨fun h => h, fun h => h⟩, fun _ h => h.elim, ?_, ?_⟩
  · rw [hch]; exact BTree.empty (fun x hx => by simp at hx)
  · rw [hch]; exact BTree.empty (fun x hx => by simp at hx)
  · intro k
    constructor
    · intro e; exact .inl (.inl e)
    · rintro ((e | e | e) | e | e)
      · exact e
      · cases e
      · cases e
      · exact e.elim
      · exact e.elim
  · intro w' F' k1 k2 k3 k4
    refine h5 w' _ F' k1 k2 ?_ ?_
    · refine (g3.mono (fun k _ hk => .inl hk)).trans' k3 (fun k hk e => ?_)
      omega
    · intro k hk
      rcases k4 k hk with e | e
      · exact .inr (by omega)
      · exact .inr (by omega)
theorem child_le (c : Bool) (X : List (List Bool)) : (Wv.child c X).length ≤ X.length := List.length_filterMap_le _ _
/-- the bit is laid in the node, and the way goes down -/
theorem Node.down {base d : Nat} {w : World} {ab ao b : Nat} {c : Bool} {r : List Bool} {Fin : World → Prop} (h : Node base d w ab ao b (c :: r) Fin) :
    ∃ (wv av v0 v1 : Value) (p : Nat → Bool) (n : Nat), BitL base w b [] [v0, v1] 223 wv av p n ∧ p n = c ∧ n ≤ 1000000 ∧ w.cell? ⟨ab, ao, none⟩ = some (.pointer (some ⟨b, 0, none⟩)) ∧ ¬ bitP b wv av ab ∧
      ∀ (w1 w' : World) (wv' av' : Value), Below w.heap.size w w1 → BitL base w' b [] [v0, v1] 223 wv' av' p (n + 1) → Kept (bitP b wv av) w1 w' → (∀ k, bitP b wv' av' k → bitP b wv av k ∨ w1.heap.size ≤ k) → Hole base d w' b (4 + c.toNat) r Fin := by
  obtain ⟨cs, ty, X, F, wv, av, v0, v1, F0, F1, h1, h2, h3, hN, hB, t0, t1, d1, d2, hF, h5⟩ := h
  have hbl := Wv.bits_le X
  have hbc := Wv.bits_cons X c r
  have hlen : (Wv.bits (X ++ [c :: r])).length = (Wv.bits X).length + 1 := by rw [hbc]; simp
  refine ⟨wv, av, v0, v1, Wv.bitAt (X ++ [c :: r]), (Wv.bits X).length, hB.congr ?_, ?_, by omega, by simp [World.cell?, h1, h2], fun hp => h3 ((hF ab).2 (.inl hp)), ?_⟩
  · intro i hi
    unfold Wv.bitAt
    rw [hbc, List.getD_eq_getElem?_getD, List.getD_eq_getElem?_getD, List.getElem?_append_left hi]
  · unfold Wv.bitAt
    rw [hbc, List.getD_eq_getElem?_getD, List.getElem?_append_right (Nat.le_refl _)]; simp
  · intro w1 w' wv' av' hb1 hB' hk hat
    have hab : ab < w.heap.size := (Array.getElem?_eq_some_iff.1 h1).1
    have hz1 := hb1.size
    have hz2 := hk.size
    have hbF : F b := (hF b).2 (.inl (.inl rfl))
    have habb : ab ≠ b := fun e => h3 (e ▸ hbF)
    have u0 := (t0.below hb1).keep hk (fun k hp hq => (d1 k hq).1 hp)
    have u1 := (t1.below hb1).keep hk (fun k hp hq => (d1 k hq).2 hp)
    have l0 := t0.lt
    have l1 := t1.lt
    have lB := hB'.lt
    have lB0 := hB.lt
    have hab1 : w'.heap[ab]? = some (.cells cs ty (0, 0)) := by
      rw [hk.block ab (by omega) (fun hp => h3 ((hF ab).2 (.inl hp))), hb1.block ab hab]; exact h1
    have hkw : Kept F w w' := (Kept.of_below hb1 (Nat.le_refl _) F).trans' hk (fun k _ hp => (hF k).2 (.inl hp))
    have hfour := hB'.four
    have hdis : ∀ k, bitP b wv' av' k → ¬ F0 k ∧ ¬ F1 k := fun k hp => by
      rcases hat k hp with h | h
      · exact d1 k h
      · exact ⟨fun e => by have := (l0 k e).2; omega, fun e => by have := (l1 k e).2; omega⟩
    unfold Four at hfour
    cases c with
    | false =>
      refine ⟨_, _, v0, Wv.child false X, F0, hfour, rfl, u0, fun e => (d1 b (.inl rfl)).1 e, by have := child_le false X; omega, ?_⟩
      intro w'' v'' F'' g1 g2 g3 g4
      have hrow : ∀ k, bitP b wv' av' k → k ≠ b → ¬ (k = b ∨ F0 k) := fun k hp hn hq => by
        rcases hq with hq | hq
        · exact hn hq
        · exact (hdis k hp).1 hq
      have hB2 : BitL base w'' b [] [v'', v1] 223 wv' av' (Wv.bitAt (X ++ [false :: r])) (Wv.bits (X ++ [false :: r])).length := by
        rw [hlen]
        refine ⟨?_, own_keep hB'.words g3 (fun g hg => hrow g (.inr (.inl hg)) (hB'.four.ne hB'.words hB'.t1 g hg)), own_keep hB'.ahead g3 (fun g hg => hrow g (.inr (.inr hg)) (hB'.four.ne hB'.ahead hB'.t2 g hg)), hB'.low, hB'.t1, hB'.t2⟩
        unfold Four
        rw [g1]; rfl
      refine h5 w'' (fun k => bitP b wv' av' k ∨ F'' k ∨ F1 k) ?_ (.inr ⟨b, wv', av', v'', v1, F'', F1, rfl, ⟨false :: r, by simp, by simp⟩, hB2, ?_, ?_, ?_, ?_, fun k => Iff.rfl⟩) ?_ ?_
      · rw [g3.block ab (by omega) (fun hq => by
          rcases hq with hq | hq
          · exact habb hq
          · exact h3 ((hF ab).2 (.inr (.inl hq))))]
        exact hab1
      · rw [Wv.child_same]; exact g2
      · rw [Wv.child_other _ _ (by decide)]
        exact u1.keep g3 (fun k hp hq => by
          rcases hq with hq | hq
          · subst hq; exact (d1 k (.inl rfl)).2 hp
          · exact d2 k hq hp)
      · intro k hp
        refine ⟨fun hq => ?_, (hdis k hp).2⟩
        rcases g4 k hq with h | h
        · exact (hdis k hp).1 h
        · have := (lB k hp).2; omega
      · intro k hp hq
        rcases g4 k hp with h | h
        · exact d2 k h hq
        · have := (l1 k hq).2; omega
      · refine hkw.trans' g3 (fun k _ hq => ?_)
        rcases hq with hq | hq
        · subst hq; exact hbF
        · exact (hF k).2 (.inr (.inl hq))
      · rintro k (hp | hp | hp)
        · rcases hat k hp with h | h
          · exact .inl ((hF k).2 (.inl h))
          · exact .inr (by omega)
        · rcases g4 k hp with h | h
          · exact .inl ((hF k).2 (.inr (.inl h)))
          · exact .inr (by omega)
        · exact .inl ((hF k).2 (.inr (.inr hp)))
    | true =>
      refine ⟨_, _, v1, Wv.child true X, F1, hfour, rfl, u1, fun e => (d1 b (.inl rfl)).2 e, by have := child_le true X; omega, ?_⟩
      intro w'' v'' F'' g1 g2 g3 g4
      have hrow : ∀ k, bitP b wv' av' k → k ≠ b → ¬ (k = b ∨ F1 k) := fun k hp hn hq => by
        rcases hq with hq | hq
        · exact hn hq
        · exact (hdis k hp).2 hq
      have hB2 : BitL base w'' b [] [v0, v''] 223 wv' av' (Wv.bitAt (X ++ [true :: r])) (Wv.bits (X ++ [true :: r])).length := by
        rw [hlen]
        refine ⟨?_, own_keep hB'.words g3 (fun g hg => hrow g (.inr (.inl hg)) (hB'.four.ne hB'.words hB'.t1 g hg)), own_keep hB'.ahead g3 (fun g hg => hrow g (.inr (.inr hg)) (hB'.four.ne hB'.ahead hB'.t2 g hg)), hB'.low, hB'.t1, hB'.t2⟩
        unfold Four
        rw [g1]; rfl
      refine h5 w'' (fun k => bitP b wv' av' k ∨ F0 k ∨ F'' k) ?_ (.inr ⟨b, wv', av', v0, v'', F0, F'', rfl, ⟨true :: r, by simp, by simp⟩, hB2, ?_, ?_, ?_, ?_, fun k => Iff.rfl⟩) ?_ ?_
      · rw [g3.block ab (by omega) (fun hq => by
          rcases hq with hq | hq
          · exact habb hq
          · exact h3 ((hF ab).2 (.inr (.inr hq))))]
        exact hab1
      · rw [Wv.child_other _ _ (by decide)]
        exact u0.keep g3 (fun k hp hq => by
          rcases hq with hq | hq
          · subst hq; exact (d1 k (.inl rfl)).1 hp
          · exact d2 k hp hq)
      · rw [Wv.child_same]; exact g2
      · intro k hp
        refine ⟨(hdis k hp).1, fun hq => ?_⟩
        rcases g4 k hq with h | h
        · exact (hdis k hp).2 h
        · have := (lB k hp).2; omega
      · intro k hp hq
        rcases g4 k hq with h | h
        · exact d2 k hp h
        · have := (l0 k hp).2; omega
      · refine hkw.trans' g3 (fun k _ hq => ?_)
        rcases hq with hq | hq
        · subst hq; exact hbF
        · exact (hF k).2 (.inr (.inr hq))
      · rintro k (hp | hp | hp)
        · rcases hat k hp with h | h
          · exact .inl ((hF k).2 (.inl h))
          · exact .inr (by omega)
        · exact .inl ((hF k).2 (.inr (.inl hp)))
        · rcases g4 k hp with h | h
          · exact .inl ((hF k).2 (.inr (.inr h)))
          · exact .inr (by omega)

end Go.Proofs.YtopihgmemnokkaaGreat

