import Derived.Test.YtopihgmemnokkaaPick
import Derived.Test.YtopihgmemnokkaaWalk8
import Derived.Test.YtopihgmemnokkaaWalk12
namespace Go.Proofs.Ytopihgmemnokkaa
open Go.RowKit

set_option maxRecDepth 100000 in
set_option maxHeartbeats 1000000 in
theorem taken_any (b : ByteArray) (row : Int) (w : World) :
    Calls Try.prog 12 #[.string b, .int .i64 row] w fun e w' => e = .returned (.bool true) ∧ Below w.heap.size w w' := by
  go_enter Try.func12, Try.ntmps12
  go_wp2_with fail
  refine (restore_any b row _).mono ?_
  rintro e w1 ⟨t, n, rfl, hsay, _, hB⟩
  rcases hsay with ⟨hl, rfl, rfl⟩ | ⟨hl, rfl, rfl⟩ | ⟨hl, r, rfl, ht, rfl, rfl⟩
  · have hd : decide ((1000 : Int) < (b.size : Int)) = true := by simp; omega
    go_wp2
    go_ret
    exact ⟨rfl, hB⟩
  · go_wp2
    go_ret
    exact ⟨rfl, hB⟩
  · obtain ⟨e1, e2⟩ := text_turned b r ht
    have hsz := textOf_size b r
    go_wp2_with fail
    refine (transform_any (textOf b r) _ (by omega)).mono ?_
    rintro e w2 ⟨rfl, hB2⟩
    rw [e1, e2]
    have hbb : (b.toList == b.toList) = true := by simp
    have hrr : ((r : Int) == (r : Int)) = true := by simp
    go_wp2
    go_ret
    exact ⟨rfl, hB.trans (hB2.mono hB.size)⟩


/-- a row of m whole numbers -/
def rowZ (m : Nat) (f : Nat → Int) : Array Value := (Array.range m).map fun i => .int .i64 (f i)
theorem size_rowZ (m : Nat) (f : Nat → Int) : (rowZ m f).size = m := by simp [rowZ]
theorem rowZ_get {m : Nat} {f : Nat → Int} {i : Nat} (h : i < m) : (rowZ m f)[i]? = some (.int .i64 (f i)) := by simp [rowZ, h]
theorem rowZ_congr {m : Nat} {f g : Nat → Int} (h : ∀ i, i < m → f i = g i) : rowZ m f = rowZ m g := by
  unfold rowZ
  apply Array.map_congr_left
  intro a ha
  rw [h a (by simpa using ha)]
def putZ (f : Nat → Int) (p : Nat) (v : Int) : Nat → Int := fun q => if q = p then v else f q
theorem rowZ_set {m : Nat} {f : Nat → Int} {i : Nat} {v : Int} : (rowZ m f).setIfInBounds i (.int .i64 v) = rowZ m (putZ f i v) := by
  apply Array.ext_getElem?
  intro j
  rw [Array.getElem?_setIfInBounds, size_rowZ]
  by_cases hj : j < m
  · by_cases e : i = j
    · subst e; rw [if_pos rfl, if_pos hj, rowZ_get hj]; simp [putZ]
    · have e' : ¬ j = i := fun x => e x.symm
      rw [if_neg e, rowZ_get hj, rowZ_get hj]; simp [putZ, e']
  · have h1 : (rowZ m f)[j]? = none := by simp [size_rowZ]; omega
    have h2 : (rowZ m (putZ f i v))[j]? = none := by simp [size_rowZ]; omega
    rw [h1, h2]
    by_cases e : i = j
    · subst e; simp [hj]
    · rw [if_neg e]
def RowZ (w : World) (b : Nat) (e : TypeId) (m : Nat) (f : Nat → Int) : Prop := w.heap[b]? = some (.cells (rowZ m f) e (0, 0))
theorem RowZ.cell {w : World} {b : Nat} {e : TypeId} {m : Nat} {f : Nat → Int} (h : RowZ w b e m f) {i : Nat} (hi : i < m) : w.cell? ⟨b, i, none⟩ = some (.int .i64 (f i)) := by
  unfold RowZ at h; simp [World.cell?, h, rowZ_get hi]
theorem RowZ.frozen {w : World} {b : Nat} {e : TypeId} {m : Nat} {f : Nat → Int} (h : RowZ w b e m f) (i : Nat) : w.frozen? ⟨b, i, none⟩ = false := by
  unfold RowZ at h; simp [World.frozen?, h]
theorem RowZ.congr {w : World} {b : Nat} {e : TypeId} {m : Nat} {f g : Nat → Int} (h : RowZ w b e m f) (hg : ∀ i, i < m → f i = g i) : RowZ w b e m g := by
  unfold RowZ at *; rw [h, rowZ_congr hg]
theorem RowZ.set {w : World} {b : Nat} {e : TypeId} {m : Nat} {f : Nat → Int} (h : RowZ w b e m f) (i : Nat) (v : Int) : RowZ (w.setCell ⟨b, i, none⟩ (.int .i64 v)) b e m (putZ f i v) := by
  unfold RowZ at *
  simp [World.setCell, Array.getElem?_modify, h, rowZ_set]
theorem RowZ.new (w : World) (e : TypeId) (m : Nat) : RowZ (w.alloc (.cells (rowC m fun _ => 0) e)) w.heap.size e m (fun _ => 0) := by
  unfold RowZ; exact heap_alloc_new w _

/-- how often a byte is in the text, less how often in the other -/
def diffTo (s t : ByteArray) (p c : Nat) : Int := ((Cc.cn p fun j => decide (BY s j = c) : Nat) : Int) - ((Cc.cn p fun j => decide (BY t j = c) : Nat) : Int)

theorem diffTo_step (s t : ByteArray) (p c : Nat) (x : Int) (hx : x = putZ (diffTo s t p) (BY s p) (diffTo s t p (BY s p) + 1) (BY t p) - 1) :
    putZ (putZ (diffTo s t p) (BY s p) (diffTo s t p (BY s p) + 1)) (BY t p) x c = diffTo s t (p + 1) c := by
  have e : ∀ c, diffTo s t (p + 1) c = diffTo s t p c + (if c = BY s p then 1 else 0) - (if c = BY t p then 1 else 0) := by
    intro c
    unfold diffTo
    simp only [Cc.cn]
    have h1 : ((decide (BY s p = c)).toNat : Int) = if c = BY s p then 1 else 0 := by
      by_cases h : c = BY s p
      · simp [h]
      · have : ¬ BY s p = c := fun x => h x.symm
        simp [h, this]
    have h2 : ((decide (BY t p = c)).toNat : Int) = if c = BY t p then 1 else 0 := by
      by_cases h : c = BY t p
      · simp [h]
      · have : ¬ BY t p = c := fun x => h x.symm
        simp [h, this]
    omega
  rw [e c]
  subst hx
  unfold putZ
  by_cases h1 : c = BY t p
  · by_cases h2 : BY t p = BY s p
    · simp [h1, h2]
    · simp [h1, h2]
  · by_cases h2 : c = BY s p
    · subst h2; simp [h1]
    · simp [h1, h2]

end Go.Proofs.Ytopihgmemnokkaa
