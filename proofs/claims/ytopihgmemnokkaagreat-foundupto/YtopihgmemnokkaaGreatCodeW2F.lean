import Derived.Test.YtopihgmemnokkaaGreatCodeW1F
import Derived.Test.YtopihgmemnokkaaGreatShelf3F
namespace Go.Proofs.YtopihgmemnokkaaGreat
open Go.RowKit Go.Shelf Go.Lib Go.Sort

/-- a tree with its block -/
abbrev At2 (f : Nat → Nat) (w : World) : Type := {x : Nat × Hf.T // TreeAt f w x.2 x.1}
def encT {f : Nat → Nat} {w : World} (x : At2 f w) : Value := .pointer (some ⟨x.1.1, 0, none⟩)
def cfA {f : Nat → Nat} {w : World} (x y : At2 f w) : Int := cfT f x.1.2 y.1.2

theorem ltOf_cfA {f : Nat → Nat} {w : World} (x y : At2 f w) : ltOf cfA x y = Hf.lt f x.1.2 y.1.2 := cfT_lt f _ _

theorem swoA (f : Nat → Nat) (w : World) : SWO (ltOf (cfA (f := f) (w := w))) where
  irrefl x := by rw [ltOf_cfA]; simp [Hf.lt]
  trans x y z h1 h2 := by rw [ltOf_cfA] at *; exact Hf.lt_trans h1 h2
  ntrans x y z h1 h2 := by
    rw [ltOf_cfA] at *
    cases e : Hf.lt f x.1.2 z.1.2
    · rfl
    · have a1 : ¬ (Hf.lt f x.1.2 y.1.2 = true) := by rw [h1]; simp
      have a2 : ¬ (Hf.lt f y.1.2 z.1.2 = true) := by rw [h2]; simp
      rw [Hf.lt_iff] at a1 a2 e
      omega

theorem prow_sorted {α : Type} [Inhabited α] (enc : α → Value) (p : α → Nat) (he : ∀ x, enc x = .pointer (some ⟨p x, 0, none⟩)) {w : World} {g off cap : Nat} {L : List Nat} (h : PRow w g off cap L) (d0 : Array α) (hH : Holds enc w g off d0) (hd : d0.size = L.length)
    (n : Nat) (dk : Array α) (os : Array Obj) (hk : dk.size = d0.size) : PRow (sortWorld enc w g off n dk os) g off cap (dk.toList.map p) := by
  obtain ⟨cur, h1, h2⟩ := h.blk
  have hg := h.lt
  refine ⟨⟨putCells enc off dk cur, ?_, by simpa [putCells] using h2⟩, ?_, by simp [hk, hd, h.len], h.cap63⟩
  · unfold sortWorld
    rw [heap_grow_old _ os (by simpa using hg)]
    show ((w.drewN n).heap.modify g (onCells (putCells enc off dk)))[g]? = _
    rw [Array.getElem?_modify, if_pos rfl]
    show (w.heap[g]?).map _ = _
    rw [h1]; rfl
  · intro j b hj
    have hj' : j < dk.size := by
      have := (List.getElem?_eq_some_iff.1 hj).1; simpa using this
    have := (holds_sortWorld enc w g off n d0 dk os hg hH hk j hj').1
    rw [this, he, getElem!_pos dk j hj']
    rw [List.getElem?_map] at hj
    have e : p dk[j] = b := by simpa [hj'] using hj
    rw [e]

/-- the trees with their blocks, as an array -/
theorem pack {f : Nat → Nat} {w : World} : ∀ {L : List Nat} {l : List Hf.T}, Trees f w L l → ∃ d : List (At2 f w), d.map (fun x => x.1.1) = L ∧ d.map (fun x => x.1.2) = l
  | [], [], _ => ⟨[], rfl, rfl⟩
  | b :: L, t :: l, h => by
    obtain ⟨d, h1, h2⟩ := pack (L := L) (l := l) ⟨by simpa using h.1, fun j b t hj ht => h.2 (j + 1) b t (by simpa using hj) (by simpa using ht)⟩
    exact ⟨⟨(b, t), h.2 0 b t rfl rfl⟩ :: d, by simp [h1], by simp [h2]⟩
  | [], _ :: _, h => by have := h.1; simp at this
  | _ :: _, [], h => by have := h.1; simp at this

theorem unpack {f : Nat → Nat} {w w' : World} (d : List (At2 f w)) (h : ∀ x : At2 f w, TreeAt f w' x.1.2 x.1.1) : Trees f w' (d.map (fun x => x.1.1)) (d.map (fun x => x.1.2)) := by
  refine ⟨by simp, fun j b t hj ht => ?_⟩
  rw [List.getElem?_map] at hj ht
  cases hx : d[j]? with
  | none => rw [hx] at hj; cases hj
  | some x =>
    rw [hx] at hj ht
    have e1 : x.1.1 = b := by simpa using hj
    have e2 : x.1.2 = t := by simpa using ht
    rw [← e1, ← e2]; exact h x

theorem packed_holds {f : Nat → Nat} {w : World} [Inhabited (At2 f w)] {g off cap : Nat} {L : List Nat} (h : PRow w g off cap L) (d : List (At2 f w)) (hd : d.map (fun x => x.1.1) = L) : Holds encT w g off d.toArray := by
  intro j hj
  have hj' : j < d.length := by simpa using hj
  refine ⟨?_, h.frozen _⟩
  rw [getElem!_pos _ j hj]
  refine h.cells j _ ?_
  rw [← hd, List.getElem?_map, List.getElem?_eq_getElem hj']; rfl

theorem sortT_any (f : Nat → Nat) (w : World) (g off cap : Nat) (L : List Nat) (l : List Hf.T) (h : PRow w g off cap L) (ht : Trees f w L l) (hl : L.length ≤ 256) (hne : L ≠ []) :
    Calls Tryz.prog 152 #[.slice (some ⟨g, off, none⟩) L.length cap, .func (.func 153) #[] #[]] w fun e w' => e = .returned (.tuple #[]) ∧
      ∃ L' l', PRow w' g off cap L' ∧ Trees f w' L' l' ∧ l'.Perm l ∧ (l'.Pairwise fun a b => Hf.lt f b a = false) ∧ Kept (fun k => k = g) w w' := by
  obtain ⟨d, h1, h2⟩ := pack ht
  have hdl : d.length = L.length := by rw [← h1]; simp
  have hdne : d ≠ [] := fun e => hne (by rw [← h1, e]; rfl)
  haveI : Inhabited (At2 f w) := ⟨d.head hdne⟩
  have eg : ∀ args w, (callFunc 153 args).run Tryz.prog w = .ok (.enter 153 args) w := enters_of Tryz.func153 (by kernel_rfl) rfl
  have hH := packed_holds h d h1
  have hstill : ∀ (m : Nat) (os : Array Obj) (dk : Array (At2 f w)) (x : At2 f w), TreeAt f (sortWorld encT w g off m dk os) x.1.2 x.1.1 := fun m os dk x => x.2.keep (keptSrt encT w g off m dk os) h.tree
  have hcmp : CmpLays1 Tryz.prog 153 #[] (encT (f := f) (w := w)) cfA g off d.toArray.size w := fun m os dk _ x y => by
    have := order_any f x.1.2 y.1.2 x.1.1 y.1.1 (sortWorld encT w g off m dk os) (hstill m os dk x) (hstill m os dk y)
    exact this
  have hcon := Any.slices_SortFunc Tryz.sortTree (encT (f := f) (w := w)) (fun _ => rfl) cfA (swoA f w) 153 #[] g off cap d.toArray w eg hcmp hH h.lt (by simp; omega)
  change Calls Tryz.prog 152 _ _ _ at hcon
  have hsz0 : d.toArray.size = L.length := by simp [hdl]
  rw [hsz0] at hcon
  refine hcon.mono ?_
  rintro e w' ⟨rfl, d', n, os, hp, hsrt, rfl⟩
  obtain ⟨hsz, _, hpm⟩ := hp
  have hd'l : d'.size = L.length := by rw [hsz, hsz0]
  rw [← hd'l] at hpm
  rw [Array.extract_size] at hpm
  rw [show d'.size = d.toArray.size from hsz, Array.extract_size] at hpm
  refine ⟨rfl, d'.toList.map (fun x => x.1.1), d'.toList.map (fun x => x.1.2), prow_sorted encT (fun x => x.1.1) (fun _ => rfl) h d.toArray hH hsz0 n d' os hsz, unpack _ (fun x => hstill n os d' x), ?_, ?_, keptSrt _ _ _ _ _ _ _⟩
  · rw [← h2]
    have := hpm.map (fun x : At2 f w => x.1.2)
    simpa using this
  · rw [List.pairwise_iff_getElem]
    intro i j hi hj hij
    have hi' : i < d'.size := by simpa using hi
    have hj' : j < d'.size := by simpa using hj
    have h := hsrt i j (Nat.zero_le _) hij (by omega)
    rw [ltOf_cfA, getElem!_pos d' i hi', getElem!_pos d' j hj'] at h
    simpa using h

theorem searchT_any (f : Nat → Nat) (w : World) (g off cap : Nat) (L : List Nat) (l : List Hf.T) (h : PRow w g off cap L) (ht : Trees f w L l) (hl : L.length ≤ 256) (hne : L ≠ []) (x : Hf.T) (bx : Nat) (hx : TreeAt f w x bx) (hs : Hf.Srt f l) :
    Calls Tryz.prog 154 #[.slice (some ⟨g, off, none⟩) L.length cap, .pointer (some ⟨bx, 0, none⟩), .func (.func 153) #[] #[]] w fun e w' =>
      (∃ o, e = .returned (.tuple #[.int .i64 (l.countP (fun y => Hf.lt f y x) : Nat), .bool o])) ∧ PRow w' g off cap L ∧ Trees f w' L l ∧ TreeAt f w' x bx ∧ Kept (fun k => k = g) w w' := by
  obtain ⟨d, h1, h2⟩ := pack ht
  have hdl : d.length = L.length := by rw [← h1]; simp
  have hdne : d ≠ [] := fun e => hne (by rw [← h1, e]; rfl)
  haveI : Inhabited (At2 f w) := ⟨d.head hdne⟩
  have eg : ∀ args w, (callFunc 153 args).run Tryz.prog w = .ok (.enter 153 args) w := enters_of Tryz.func153 (by kernel_rfl) rfl
  have hH := packed_holds h d h1
  have hstill : ∀ (m : Nat) (os : Array Obj) (dk : Array (At2 f w)) (x : At2 f w), TreeAt f (sortWorld encT w g off m dk os) x.1.2 x.1.1 := fun m os dk x => x.2.keep (keptSrt encT w g off m dk os) h.tree
  have hsx : ∀ (m : Nat) (os : Array Obj) (dk : Array (At2 f w)), TreeAt f (sortWorld encT w g off m dk os) x bx := fun m os dk => hx.keep (keptSrt encT w g off m dk os) h.tree
  have hcmp : CmpLaysT Tryz.prog 153 #[] (encT (f := f) (w := w)) (.pointer (some ⟨bx, 0, none⟩)) (fun y => cfT f y.1.2 x) g off d.toArray.size w := fun m os dk _ y => by
    have := order_any f y.1.2 x y.1.1 bx (sortWorld encT w g off m dk os) (hstill m os dk y) (hsx m os dk)
    exact this
  have hsz0 : d.toArray.size = L.length := by simp [hdl]
  have hget : ∀ j (hj : j < d.toArray.size), (d.toArray)[j]!.1.2 = l[j]'(by rw [← h2]; simpa using hj) := fun j hj => by
    rw [getElem!_pos _ j hj]
    simp [← h2]
  have hcon := Any.slices_BinarySearchFunc Tryz.searchTree (encT (f := f) (w := w)) (fun _ => rfl) (.pointer (some ⟨bx, 0, none⟩)) (fun y => cfT f y.1.2 x) 153 #[] g off cap d.toArray w eg hcmp hH h.lt (by simp; omega)
    (fun a b hab hb h => by
      have ha : a < d.toArray.size := by omega
      have e : decide (cfT f (d.toArray)[b]!.1.2 x < 0) = true := by simpa using h
      rw [cfT_lt, hget b hb] at e
      have g1 : decide (cfT f (d.toArray)[a]!.1.2 x < 0) = true := by
        rw [cfT_lt, hget a ha]
        by_cases eab : a = b
        · subst eab; exact e
        · exact Hf.lt_trans ((List.pairwise_iff_getElem.1 hs) a b _ _ (by omega)) e
      simpa using g1)
  change Calls Tryz.prog 154 _ _ _ at hcon
  rw [hsz0] at hcon
  refine hcon.mono ?_
  rintro e w' ⟨rfl, n, os, rfl⟩
  have hcnt : d.toArray.toList.countP (fun y => decide (cfT f y.1.2 x < 0)) = l.countP (fun y => Hf.lt f y x) := by
    rw [← h2, List.countP_map]
    apply List.countP_congr
    intro y _
    simp only [Function.comp]
    rw [cfT_lt]
  refine ⟨⟨_, by rw [hcnt]⟩, ?_, ?_, hsx n os _, keptSrt _ _ _ _ _ _ _⟩
  · have := prow_sorted encT (fun x => x.1.1) (fun _ => rfl) h d.toArray hH hsz0 n d.toArray os rfl
    rw [show d.toArray.toList.map (fun x => x.1.1) = L from h1] at this
    exact this
  · have := unpack d (fun x => hstill n os d.toArray x)
    rw [h1, h2] at this
    exact this

end Go.Proofs.YtopihgmemnokkaaGreat

