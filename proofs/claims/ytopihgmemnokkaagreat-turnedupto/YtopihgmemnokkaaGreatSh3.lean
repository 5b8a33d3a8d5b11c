import Derived.Test.YtopihgmemnokkaaGreatEnds
namespace Go.Proofs.YtopihgmemnokkaaGreat

/-- three rows of numbers as one, cell by cell -/
def sh3 (F M B : Nat → Nat) (k : Nat) : Nat := if k % 3 = 0 then F (k / 3) else if k % 3 = 1 then M (k / 3) else B (k / 3)

theorem sh3_0 (F M B : Nat → Nat) (c : Nat) : sh3 F M B (c * 3) = F c := by
  unfold sh3; rw [if_pos (by omega), show c * 3 / 3 = c from by omega]
theorem sh3_1 (F M B : Nat → Nat) (c : Nat) : sh3 F M B (c * 3 + 1) = M c := by
  unfold sh3; rw [if_neg (by omega), if_pos (by omega), show (c * 3 + 1) / 3 = c from by omega]
theorem sh3_2 (F M B : Nat → Nat) (c : Nat) : sh3 F M B (c * 3 + 2) = B c := by
  unfold sh3; rw [if_neg (by omega), if_neg (by omega), show (c * 3 + 2) / 3 = c from by omega]

theorem three (k : Nat) : k = k / 3 * 3 ∨ k = k / 3 * 3 + 1 ∨ k = k / 3 * 3 + 2 := by omega

theorem sh3_put0 (F M B : Nat → Nat) (c v k : Nat) : Cc.put (sh3 F M B) (c * 3) v k = sh3 (Cc.put F c v) M B k := by
  rcases three k with h | h | h <;> generalize k / 3 = d at h <;> subst h
  · rw [sh3_0]
    by_cases e : d = c
    · subst e; rw [Cc.put_same, Cc.put_same]
    · rw [Cc.put_other _ _ (by omega), Cc.put_other _ _ e, sh3_0]
  · rw [sh3_1, Cc.put_other _ _ (by omega), sh3_1]
  · rw [sh3_2, Cc.put_other _ _ (by omega), sh3_2]
theorem sh3_put1 (F M B : Nat → Nat) (c v k : Nat) : Cc.put (sh3 F M B) (c * 3 + 1) v k = sh3 F (Cc.put M c v) B k := by
  rcases three k with h | h | h <;> generalize k / 3 = d at h <;> subst h
  · rw [sh3_0, Cc.put_other _ _ (by omega), sh3_0]
  · rw [sh3_1]
    by_cases e : d = c
    · subst e; rw [Cc.put_same, Cc.put_same]
    · rw [Cc.put_other _ _ (by omega), Cc.put_other _ _ e, sh3_1]
  · rw [sh3_2, Cc.put_other _ _ (by omega), sh3_2]
theorem sh3_put2 (F M B : Nat → Nat) (c v k : Nat) : Cc.put (sh3 F M B) (c * 3 + 2) v k = sh3 F M (Cc.put B c v) k := by
  rcases three k with h | h | h <;> generalize k / 3 = d at h <;> subst h
  · rw [sh3_0, Cc.put_other _ _ (by omega), sh3_0]
  · rw [sh3_1, Cc.put_other _ _ (by omega), sh3_1]
  · rw [sh3_2]
    by_cases e : d = c
    · subst e; rw [Cc.put_same, Cc.put_same]
    · rw [Cc.put_other _ _ (by omega), Cc.put_other _ _ e, sh3_2]

def shPart (F M B : Nat → Nat) (p k : Nat) : Nat := if k < 3 * p then sh3 F M B k else 0

theorem shPart_step (F M B : Nat → Nat) (p k : Nat) : Cc.put (Cc.put (Cc.put (shPart F M B p) (p * 3) (F p)) (p * 3 + 1) (M p)) (p * 3 + 2) (B p) k = shPart F M B (p + 1) k := by
  by_cases h2 : k = p * 3 + 2
  · subst h2; rw [Cc.put_same]; unfold shPart; rw [if_pos (by omega), sh3_2]
  · rw [Cc.put_other _ _ h2]
    by_cases h1 : k = p * 3 + 1
    · subst h1; rw [Cc.put_same]; unfold shPart; rw [if_pos (by omega), sh3_1]
    · rw [Cc.put_other _ _ h1]
      by_cases h0 : k = p * 3
      · subst h0; rw [Cc.put_same]; unfold shPart; rw [if_pos (by omega), sh3_0]
      · rw [Cc.put_other _ _ h0]
        unfold shPart
        by_cases h : k < 3 * p
        · rw [if_pos h, if_pos (by omega)]
        · rw [if_neg h, if_neg (by omega)]
theorem shPart_all (F M B : Nat → Nat) {k : Nat} (hk : k < 771) : shPart F M B 257 k = sh3 F M B k := by
  unfold shPart; rw [if_pos (by omega)]

end Go.Proofs.YtopihgmemnokkaaGreat
