import Derived.Test.YtopihgmemnokkaaGreatTurn
namespace Cc

/-- of two lists that are sorted one -/
def mrg (lt : Nat → Nat → Bool) (A B : List Nat) : List Nat := A.merge B (fun x y => !lt y x)

theorem mrg_nil_left (lt : Nat → Nat → Bool) (B : List Nat) : mrg lt [] B = B := by simp [mrg]
theorem mrg_nil_right (lt : Nat → Nat → Bool) (A : List Nat) : mrg lt A [] = A := by simp [mrg]
theorem mrg_cons (lt : Nat → Nat → Bool) (x y : Nat) (A B : List Nat) : mrg lt (x :: A) (y :: B) = if lt y x = false then x :: mrg lt A (y :: B) else y :: mrg lt (x :: A) B := by
  unfold mrg
  rw [List.cons_merge_cons]
  cases lt y x <;> simp
theorem mrg_perm (lt : Nat → Nat → Bool) (A B : List Nat) : (mrg lt A B).Perm (A ++ B) := List.merge_perm_append _
theorem mrg_length (lt : Nat → Nat → Bool) (A B : List Nat) : (mrg lt A B).length = A.length + B.length := by
  have := (mrg_perm lt A B).length_eq; simpa using this

section
variable {n : Nat} {L : Nat → Nat} {lt : Nat → Nat → Bool}

theorem mrg_sorted_aux (o : Ord n L lt) : ∀ (k : Nat) (A B : List Nat), A.length + B.length ≤ k → (∀ x, x ∈ A → x ≤ n) → (∀ x, x ∈ B → x ≤ n) → (∀ x, x ∈ A → ∀ y, y ∈ B → x ≠ y) →
    A.Pairwise (fun a b => lt a b = true) → B.Pairwise (fun a b => lt a b = true) → (mrg lt A B).Pairwise (fun a b => lt a b = true) := by
  intro k
  induction k with
  | zero =>
    intro A B h _ _ _ _ hB
    have : A = [] := List.length_eq_zero_iff.1 (by omega)
    subst this; rw [mrg_nil_left]; exact hB
  | succ k ih =>
    intro A B hk h1 h2 h3 hA hB
    cases A with
    | nil => rw [mrg_nil_left]; exact hB
    | cons x A =>
      cases B with
      | nil => rw [mrg_nil_right]; exact hA
      | cons y B =>
        simp only [List.length_cons] at hk
        rw [mrg_cons]
        have hA' := List.pairwise_cons.1 hA
        have hB' := List.pairwise_cons.1 hB
        cases h : lt y x
        · have hxy : lt x y = true := by
            rcases o.tri x y (h1 x (by simp)) (h2 y (by simp)) (h3 x (by simp) y (by simp)) with e | e
            · exact e
            · rw [h] at e; cases e
          rw [if_pos rfl, List.pairwise_cons]
          refine ⟨?_, ih A (y :: B) (by simp; omega) (fun z hz => h1 z (by simp [hz])) h2 (fun a ha b hb => h3 a (by simp [ha]) b hb) hA'.2 hB⟩
          intro z hz
          have hz' := (mrg_perm lt A (y :: B)).mem_iff.1 hz
          rw [List.mem_append] at hz'
          rcases hz' with hz' | hz'
          · exact hA'.1 z hz'
          · rw [List.mem_cons] at hz'
            rcases hz' with rfl | hz'
            · exact hxy
            · exact o.trans _ _ _ hxy (hB'.1 z hz')
        · rw [if_neg (by simp), List.pairwise_cons]
          refine ⟨?_, ih (x :: A) B (by simp; omega) h1 (fun z hz => h2 z (by simp [hz])) (fun a ha b hb => h3 a ha b (by simp [hb])) hA hB'.2⟩
          intro z hz
          have hz' := (mrg_perm lt (x :: A) B).mem_iff.1 hz
          rw [List.mem_append] at hz'
          rcases hz' with hz' | hz'
          · rw [List.mem_cons] at hz'
            rcases hz' with rfl | hz'
            · exact h
            · exact o.trans _ _ _ h (hA'.1 z hz')
          · exact hB'.1 z hz'

theorem mrg_sorted (o : Ord n L lt) {A B : List Nat} (h1 : ∀ x, x ∈ A → x ≤ n) (h2 : ∀ x, x ∈ B → x ≤ n) (h3 : ∀ x, x ∈ A → ∀ y, y ∈ B → x ≠ y)
    (hA : A.Pairwise (fun a b => lt a b = true)) (hB : B.Pairwise (fun a b => lt a b = true)) : (mrg lt A B).Pairwise (fun a b => lt a b = true) :=
  mrg_sorted_aux o _ A B (Nat.le_refl _) h1 h2 h3 hA hB

/-- each piece of so many is sorted -/
def Runs (lt : Nat → Nat → Bool) (size : Nat) (l : List Nat) : Prop := ∀ i j (hi : i < l.length) (hj : j < l.length), i < j → i / size = j / size → lt l[i] l[j] = true

/-- two pieces of a list in runs, merged, behind what is merged -/
theorem runs_step (o : Ord n L lt) {l out : List Nat} {size q : Nat} (hs : 0 < size) (hl : ∀ x, x ∈ l → x ≤ n) (hnd : l.Nodup) (hr : Runs lt size l) (hf : 2 * size * q < l.length)
    (hol : out.length = 2 * size * q) (hop : out.Perm (l.take (2 * size * q))) (hor : Runs lt (2 * size) out) (mid fin : Nat) (hm : mid = min (2 * size * q + size) l.length) (he : fin = min (2 * size * q + 2 * size) l.length) :
    (out ++ mrg lt ((l.drop (2 * size * q)).take (mid - 2 * size * q)) ((l.drop mid).take (fin - mid))).length = fin ∧
    (out ++ mrg lt ((l.drop (2 * size * q)).take (mid - 2 * size * q)) ((l.drop mid).take (fin - mid))).Perm (l.take fin) ∧
    Runs lt (2 * size) (out ++ mrg lt ((l.drop (2 * size * q)).take (mid - 2 * size * q)) ((l.drop mid).take (fin - mid))) := by
  generalize hF : 2 * size * q = f at *
  have hfm : f ≤ mid := by omega
  have hme : mid ≤ fin := by omega
  have hel : fin ≤ l.length := by omega
  have hA : ((l.drop f).take (mid - f)).length = mid - f := by simp; omega
  have hB : ((l.drop mid).take (fin - mid)).length = fin - mid := by simp; omega
  have hpA : ((l.drop f).take (mid - f)).Pairwise (fun a b => lt a b = true) := by
    rw [List.pairwise_iff_getElem]
    intro i j hi hj hij
    rw [hA] at hi hj
    simp only [List.getElem_take, List.getElem_drop]
    apply hr _ _ _ _ (by omega)
    have e1 : (f + i) / size = 2 * q := by
      rw [← hF, Nat.mul_comm 2 size, Nat.mul_assoc, Nat.mul_add_div hs, Nat.div_eq_of_lt (by omega)]; omega
    have e2 : (f + j) / size = 2 * q := by
      rw [← hF, Nat.mul_comm 2 size, Nat.mul_assoc, Nat.mul_add_div hs, Nat.div_eq_of_lt (by omega)]; omega
    rw [e1, e2]
  have hpB : ((l.drop mid).take (fin - mid)).Pairwise (fun a b => lt a b = true) := by
    rw [List.pairwise_iff_getElem]
    intro i j hi hj hij
    rw [hB] at hi hj
    have hmid : mid = f + size := by omega
    simp only [List.getElem_take, List.getElem_drop]
    apply hr _ _ _ _ (by omega)
    have e0 : mid = size * (2 * q + 1) := by rw [hmid, ← hF, Nat.mul_add, Nat.mul_one, ← Nat.mul_assoc, Nat.mul_comm size 2]
    have e1 : (mid + i) / size = 2 * q + 1 := by
      rw [e0, Nat.mul_add_div hs, Nat.div_eq_of_lt (by omega)]
    have e2 : (mid + j) / size = 2 * q + 1 := by
      rw [e0, Nat.mul_add_div hs, Nat.div_eq_of_lt (by omega)]
    rw [e1, e2]
  have hsplit : l.take fin = l.take f ++ ((l.drop f).take (mid - f) ++ (l.drop mid).take (fin - mid)) := by
    have h1 : l.take fin = l.take mid ++ (l.drop mid).take (fin - mid) := by
      rw [← List.take_add]; congr 1; omega
    have h2 : l.take mid = l.take f ++ (l.drop f).take (mid - f) := by
      rw [← List.take_add]; congr 1; omega
    rw [h1, h2, List.append_assoc]
  have hndT : (l.take fin).Nodup := hnd.sublist (List.take_sublist _ _)
  rw [hsplit] at hndT
  have hdis : ∀ x, x ∈ (l.drop f).take (mid - f) → ∀ y, y ∈ (l.drop mid).take (fin - mid) → x ≠ y := by
    have := (List.nodup_append.1 hndT).2.1
    exact (List.nodup_append.1 this).2.2
  have hms := mrg_sorted o (A := (l.drop f).take (mid - f)) (B := (l.drop mid).take (fin - mid))
    (fun x hx => hl x (List.mem_of_mem_drop (List.mem_of_mem_take hx))) (fun x hx => hl x (List.mem_of_mem_drop (List.mem_of_mem_take hx))) hdis hpA hpB
  have hml := mrg_length lt ((l.drop f).take (mid - f)) ((l.drop mid).take (fin - mid))
  have hmp := mrg_perm lt ((l.drop f).take (mid - f)) ((l.drop mid).take (fin - mid))
  generalize mrg lt ((l.drop f).take (mid - f)) ((l.drop mid).take (fin - mid)) = M at *
  rw [hA, hB] at hml
  refine ⟨by rw [List.length_append]; omega, ?_, ?_⟩
  · rw [hsplit]; exact hop.append hmp
  · intro i j hi hj hij hq
    rw [List.length_append] at hi hj
    have ediv : ∀ x, f ≤ x → x < fin → x / (2 * size) = q := by
      intro x h1 h2
      have : x = 2 * size * q + (x - f) := by omega
      rw [this, Nat.mul_add_div (by omega), Nat.div_eq_of_lt (by omega)]; omega
    by_cases h1 : j < out.length
    · rw [List.getElem_append_left (by omega), List.getElem_append_left h1]
      exact hor i j (by omega) h1 hij hq
    · by_cases h2 : i < out.length
      · exfalso
        rw [ediv j (by omega) (by omega)] at hq
        have : i / (2 * size) < q := by
          rw [Nat.div_lt_iff_lt_mul (by omega), Nat.mul_comm]; omega
        omega
      · rw [List.getElem_append_right (by omega), List.getElem_append_right (by omega)]
        exact (List.pairwise_iff_getElem.1 hms) _ _ (by omega) (by omega) (by omega)

/-- a list of all places in one run is the ends in their order -/
theorem runs_done (o : Ord n L lt) {l : List Nat} {size : Nat} (hl : l.length = n + 1) (hle : ∀ x, x ∈ l → x ≤ n) (hr : Runs lt size l) (hs : n + 1 ≤ size) {p : Nat} (hp : p < l.length) : rank n lt l[p] = p := by
  have h := mono_id (n := n + 1) (g := fun p => if h : p < l.length then rank n lt l[p] else 0) (by
    intro i j hij hj
    have hi' : i < l.length := by omega
    have hj' : j < l.length := by omega
    simp only [hi', hj', dite_true]
    apply o.rank_lt (hle _ (List.getElem_mem _))
    exact hr i j hi' hj' hij (by rw [Nat.div_eq_of_lt (by omega), Nat.div_eq_of_lt (by omega)])) (by
    intro i hi
    have hi' : i < l.length := by omega
    simp only [hi', dite_true]
    have := o.rank_le (hle _ (List.getElem_mem hi')); omega) p (by omega)
  simpa [hp] using h

theorem runs_one (l : List Nat) : Runs lt 1 l := by
  intro i j _ _ hij h
  rw [Nat.div_one, Nat.div_one] at h; omega

end
end Cc
