import Derived.Test.YtopihgmemnokkaaBitW6
namespace Go.Proofs.Ytopihgmemnokkaa
open Go.RowKit

theorem cn_down {P : Nat → Bool} (h : ∀ a b, a ≤ b → P b = true → P a = true) (m : Nat) : ∀ j, j < m → (P j = true ↔ j < Cc.cn m P) := by
  induction m with
  | zero => intro j hj; omega
  | succ m ih =>
    intro j hj
    have hle := Cc.cn_le m P
    simp only [Cc.cn]
    cases hm : P m
    · simp
      by_cases e : j = m
      · subst e; rw [hm]; simp; omega
      · exact ih j (by omega)
    · have hall : Cc.cn m P = m := by
        have : Cc.cn m P = Cc.cn m (fun _ => true) := Cc.cn_congr (fun i hi => h i m (by omega) hm)
        rw [this, Cc.cn_true]
      rw [hall]
      simp
      exact ⟨fun _ => hj, fun _ => h j m (by omega) hm⟩

theorem lz_any (x i : Nat) (w : World) (hi : i ≤ 63) (h1 : 2 ^ (63 - i) ≤ x) (h2 : x < 2 ^ (64 - i)) :
    Calls Try.prog 44 #[.int .u64 (x : Nat)] w fun e w' => e = .returned (.int .i64 (i : Nat)) ∧ w' = w := by
  have hlt : x < 18446744073709551616 := Nat.lt_of_lt_of_le h2 (Nat.le_trans (Nat.pow_le_pow_right (by omega) (show 64 - i ≤ 64 by omega)) (by decide))
  refine (Any.bits_LeadingZeros64 Try.lays134 (x : Nat) w (by omega) (by omega)).mono ?_
  rintro e w' ⟨rfl, rfl⟩
  refine ⟨ret_int ?_, rfl⟩
  rw [show ((x : Int)).toNat = x from rfl, Bm.bitLen_hit hi h1 h2]
  omega

theorem search_any (w : World) (g cap k m : Nat) (f : Nat → Nat) (hc : ∀ j, j < m → w.cell? ⟨g, j, none⟩ = some (.int .i64 (f j : Nat))) (hg : g < w.heap.size) (hm : m < 4611686018427387904) (hf : ∀ a b, a ≤ b → f a ≤ f b) :
    Calls Try.prog 43 #[.slice (some ⟨g, 0, none⟩) m cap, .int .i64 ((k : Int) + 1)] w fun e w' => e = .returned (.int .i64 (Cc.cn m (fun j => decide (f j ≤ k)) : Nat)) ∧ Below w.heap.size w w' := by
  have hsz : (((List.range m).map fun j => (f j : Int)).toArray).size = m := by simp
  have hget : ∀ i, i < m → (((List.range m).map fun j => (f j : Int)).toArray)[i]! = (f i : Int) := fun i hi => by
    rw [getElem!_pos _ i (by simpa using hi)]; simp
  have := Any.sort_SearchInts Try.searchInts g 0 cap (((List.range m).map fun j => (f j : Int)).toArray) ((k : Int) + 1) w
    (fun i hi => by rw [hsz] at hi; rw [hget i hi, Nat.zero_add]; exact hc i hi) hg (by rw [hsz]; exact hm)
    (fun a b hab hb h => by rw [hsz] at hb; rw [hget a (by omega)] at h; rw [hget b hb]; have := hf a b hab; simp at *; omega)
  rw [hsz] at this
  refine this.mono ?_
  rintro e w' ⟨rfl, h⟩
  refine ⟨ret_int ?_, h⟩
  rw [Cc.cn_countP, List.countP_map]
  congr 1
  apply List.countP_congr
  intro a _
  simp
  omega

end Go.Proofs.Ytopihgmemnokkaa
