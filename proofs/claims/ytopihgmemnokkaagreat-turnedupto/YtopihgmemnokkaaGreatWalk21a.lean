import Derived.Test.YtopihgmemnokkaaGreatWalk20
namespace Go.Proofs.YtopihgmemnokkaaGreat
open Go.RowKit

theorem rows_place {s : ByteArray} {rows B : Nat → Nat} (hD : Cc.Down s.size (LT s) (before s) 0 rows B) {p : Nat} (hp : p ≤ s.size) : rows p = placeOf s p := by
  obtain ⟨i, hi, hip⟩ := (ord s).onto (r := p) hp
  have h1 := hD.done (ord s) hi
  have h2 := placeOf_rank s hi
  rw [hip] at h1 h2
  rw [h1, h2]

/-- a step, boxed -/
abbrev opBox (K A B C : Int) (s : ByteArray) : Obj := .cells #[.int .i64 K, .int .i64 A, .int .i64 B, .int .i64 C, .string s] 36

theorem box_cell (w : World) (K A B C : Int) (s : ByteArray) {w' : World} (hb : Below (w.heap.size + 1) (w.alloc (opBox K A B C s)) w') (i : Nat) : w'.cell? ⟨w.heap.size, i, none⟩ = #[.int .i64 K, .int .i64 A, .int .i64 B, .int .i64 C, .string s][i]? := by
  have h1 : (w.alloc (opBox K A B C s)).heap[w.heap.size]? = some (opBox K A B C s) := heap_alloc_new w _
  have h2 := hb.block w.heap.size (by omega)
  rw [h1] at h2
  simp [World.cell?, h2]

theorem still_below {w w' : World} (h : Still w w') (B : Nat) (hB : B ≤ w.heap.size) : Below B w w' := h.below (fun _ h => h.elim) hB

/-- what both answer -/
def RAns (b : ByteArray) (row : Int) (t : ByteArray) (n : Nat) : Prop :=
  (1000 < b.size ∧ t = ByteArray.empty ∧ n = 1) ∨ (b.size ≤ 1000 ∧ (∀ r : Nat, row = r → ¬ Cc.Takes b.size (BY b) r) ∧ t = ByteArray.empty ∧ n = 4) ∨
  (b.size ≤ 1000 ∧ ∃ r : Nat, row = r ∧ Cc.Takes b.size (BY b) r ∧ t = textOf b r ∧ n = 0)

theorem RAns.uniq {b : ByteArray} {row : Int} {t t' : ByteArray} {n n' : Nat} (h : RAns b row t n) (h' : RAns b row t' n') : t' = t ∧ n' = n := by
  rcases h with ⟨h1, h2, h3⟩ | ⟨h1, h2, h3, h4⟩ | ⟨h1, r, h2, h3, h4, h5⟩
  · rcases h' with ⟨k1, k2, k3⟩ | ⟨k1, k2, k3, k4⟩ | ⟨k1, r', k2, k3, k4, k5⟩
    · exact ⟨by rw [h2, k2], by omega⟩
    · omega
    · omega
  · rcases h' with ⟨k1, k2, k3⟩ | ⟨k1, k2, k3, k4⟩ | ⟨k1, r', k2, k3, k4, k5⟩
    · omega
    · exact ⟨by rw [h3, k3], by omega⟩
    · exact absurd k3 (h2 r' k2)
  · rcases h' with ⟨k1, k2, k3⟩ | ⟨k1, k2, k3, k4⟩ | ⟨k1, r', k2, k3, k4, k5⟩
    · omega
    · exact absurd h3 (k2 r h2)
    · have : r = r' := by omega
      subst this
      exact ⟨by rw [h4, k4], by omega⟩

theorem restore_ans (b : ByteArray) (row : Int) (w : World) :
    Calls Tryz.prog 50 #[.string b, .int .i64 row] w fun e w' => ∃ (t : ByteArray) (n : Nat), e = .returned (.tuple #[.string t, .int .i64 (n : Nat)]) ∧ RAns b row t n ∧ Below w.heap.size w w' := by
  refine (restore_any b row w).mono ?_
  rintro e w' ⟨t, n, he, hs, hr, hb⟩
  refine ⟨t, n, he, ?_, hb⟩
  rcases hs with ⟨h1, h2, h3⟩ | ⟨h1, h2, h3⟩ | ⟨h1, r, h2, h3, h4, h5⟩
  · exact .inl ⟨h1, h2, h3⟩
  · refine .inr (.inl ⟨h1, fun r hrr ht => ?_, h2, h3⟩)
    have := (hr r hrr h1 ht).2
    omega
  · exact .inr (.inr ⟨h1, r, h2, h3, h4, h5⟩)

theorem refrestore_ans (b : ByteArray) (row : Int) (w : World) :
    Calls Tryz.prog 51 #[.string b, .int .i64 row] w fun e w' => ∃ (t : ByteArray) (n : Nat), e = .returned (.tuple #[.string t, .int .i64 (n : Nat)]) ∧ RAns b row t n ∧ Below w.heap.size w w' := by
  by_cases hs : b.size ≤ 1000
  · by_cases ho : row < 0 ∨ (b.size : Int) < row
    · refine (refrestore_out b row w hs ho).mono ?_
      rintro e w' ⟨rfl, rfl⟩
      refine ⟨_, 4, rfl, .inr (.inl ⟨hs, fun r hr t => ?_, rfl, rfl⟩), Below.refl _ _⟩
      have := t.1; omega
    · obtain ⟨r, rfl⟩ : ∃ r : Nat, row = r := ⟨row.toNat, by omega⟩
      refine (refrestore_in b r w hs (by omega)).mono ?_
      rintro e w' ⟨hb, ⟨h1, rfl⟩ | ⟨h1, rfl⟩⟩
      · refine ⟨_, 4, rfl, .inr (.inl ⟨hs, fun r' hr t => ?_, rfl, rfl⟩), hb⟩
        have : r' = r := by omega
        subst this; exact h1 t
      · exact ⟨_, 0, rfl, .inr (.inr ⟨hs, r, rfl, h1, rfl, rfl⟩), hb⟩
  · refine (refrestore_long b row w (by omega)).mono ?_
    rintro e w' ⟨rfl, rfl⟩
    exact ⟨_, 1, rfl, .inl ⟨by omega, rfl, rfl⟩, Below.refl _ _⟩

end Go.Proofs.YtopihgmemnokkaaGreat
