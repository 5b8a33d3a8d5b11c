import Derived.Test.YtopihgmemnokkaaGreatTurn
namespace Cc

/-- how many have been laid when byte c is sought from place k on -/
def mo (n : Nat) (b : Nat → Nat) (c k : Nat) : Nat := cn n (fun j => decide (b j < c)) + cn k (fun j => decide (b j = c))

theorem mo_lead (n : Nat) (b : Nat → Nat) (k : Nat) : mo n b (b k) k = lead n b k - 1 := by unfold mo lead; omega
theorem mo_hit {n : Nat} {b : Nat → Nat} {c k : Nat} (h : b k = c) : mo n b c (k + 1) = mo n b c k + 1 := by
  unfold mo; simp only [cn]; simp [h]; omega
theorem mo_miss {n : Nat} {b : Nat → Nat} {c k : Nat} (h : b k ≠ c) : mo n b c (k + 1) = mo n b c k := by
  unfold mo; simp only [cn]; simp [h]
theorem mo_next (n : Nat) (b : Nat → Nat) (c : Nat) : mo n b c n = mo n b (c + 1) 0 := by
  unfold mo
  simp only [cn, Nat.add_zero]
  symm
  apply cn_add
  intro i _
  by_cases e : b i < c
  · simp [e, show ¬ b i = c from by omega, show b i < c + 1 from by omega]
  · by_cases e2 : b i = c
    · simp [e2]
    · simp [e, e2, show ¬ b i < c + 1 from by omega]
theorem mo_zero (n : Nat) (b : Nat → Nat) : mo n b 0 0 = 0 := by
  unfold mo; simp only [cn, Nat.add_zero]; exact cn_zero fun i _ => by simp
theorem mo_end {n : Nat} {b : Nat → Nat} (h : ∀ j, b j ≤ 255) : mo n b 256 0 = n := by
  unfold mo; simp only [cn, Nat.add_zero]
  rw [cn_congr (Q := fun _ => true) (fun i _ => by have := h i; simp; omega), cn_true]
theorem mo_le {n : Nat} {b : Nat → Nat} {c k : Nat} (hk : k ≤ n) : mo n b c k ≤ n := by
  have h1 : cn n (fun j => decide (b j < c) || decide (b j = c)) = cn n (fun j => decide (b j < c)) + cn n (fun j => decide (b j = c)) := by
    apply cn_add
    intro i _
    by_cases e : b i < c
    · simp [e, show ¬ b i = c from by omega]
    · simp [e]
  have h2 := cn_le n (fun j => decide (b j < c) || decide (b j = c))
  have h3 := cn_le_bound hk (fun j => decide (b j = c))
  unfold mo; omega

/-- which place has a row's first byte -/
def kAt (n : Nat) (b : Nat → Nat) (i : Nat) : Nat := ((List.range n).find? fun k => lead n b k == i + 1).getD 0

theorem kAt_lead {n : Nat} {b : Nat → Nat} {k : Nat} (hk : k < n) : kAt n b (lead n b k - 1) = k := by
  have hp := lead_pos n b k
  unfold kAt
  rw [show lead n b k - 1 + 1 = lead n b k from by omega]
  cases hf : (List.range n).find? fun j => lead n b j == lead n b k with
  | none =>
    rw [List.find?_eq_none] at hf
    have := hf k (by rw [List.mem_range]; omega)
    simp at this
  | some j =>
    have h1 := List.find?_some hf
    have h2 := List.mem_of_find?_eq_some hf
    rw [List.mem_range] at h2
    simp at h1
    simp
    exact lead_inj h2 hk h1

theorem kAt_lt {n : Nat} {b : Nat → Nat} {i : Nat} (hi : i < n) : kAt n b i < n := by
  unfold kAt
  cases hf : (List.range n).find? fun j => lead n b j == i + 1 with
  | none => simp; omega
  | some j =>
    have h2 := List.mem_of_find?_eq_some hf
    rw [List.mem_range] at h2
    simpa using h2

/-- the rows that are met forward, from the whole text on -/
def ft (n : Nat) (b : Nat → Nat) (row : Nat) : Nat → Nat
  | 0 => row
  | i + 1 => un row (kAt n b (ft n b row i - 1))

theorem ft_le {n : Nat} {b : Nat → Nat} {row : Nat} (hr : row ≤ n) : ∀ i, (∀ j, j < i → ft n b row j ≠ 0) → ft n b row i ≤ n
  | 0, _ => hr
  | i + 1, h => by
    have h1 := ft_le hr i (fun j hj => h j (by omega))
    have h2 := h i (by omega)
    exact un_le (kAt_lt (by omega))

theorem Takes.fore {n : Nat} {b : Nat → Nat} {row : Nat} (t : Takes n b row) : ∀ i, i ≤ n → ft n b row i = trail n b row (n - i)
  | 0, _ => by rw [Nat.sub_zero, t.last]; rfl
  | i + 1, h => by
    have h1 := t.fore i (by omega)
    have h2 : trail n b row (n - i) = lead n b (ks row (trail n b row (n - (i + 1)))) := by
      rw [show n - i = (n - (i + 1)) + 1 from by omega]; rfl
    have h3 := t.2 (n - (i + 1)) (by omega)
    have h4 := t.le (m := n - (i + 1)) (by omega)
    show un row (kAt n b (ft n b row i - 1)) = _
    rw [h1, h2, kAt_lead (ks_lt h4 h3 t.1), un_ks h3]

theorem Takes.fore_byte {n : Nat} {b : Nat → Nat} {row : Nat} (t : Takes n b row) {i : Nat} (hi : i < n) : ft n b row i ≠ 0 ∧ kAt n b (ft n b row i - 1) = ks row (trail n b row (n - 1 - i)) := by
  have h1 := t.fore i (by omega)
  have h2 : trail n b row (n - i) = lead n b (ks row (trail n b row (n - 1 - i))) := by
    rw [show n - i = (n - 1 - i) + 1 from by omega]; rfl
  have h3 := t.2 (n - 1 - i) (by omega)
  have h4 := t.le (m := n - 1 - i) (by omega)
  have h5 := lead_pos n b (ks row (trail n b row (n - 1 - i)))
  rw [h1, h2]
  exact ⟨by omega, kAt_lead (ks_lt h4 h3 t.1)⟩

end Cc
