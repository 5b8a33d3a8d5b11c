import Derived.Test.YtopihgmemnokkaaGreatEndsC
import Derived.Lib.BitFns
namespace Bm
open Cc

/-- the number of the first m bits, the first one highest -/
def pre (p : Nat → Bool) : Nat → Nat
  | 0 => 0
  | m + 1 => 2 * pre p m + (p m).toNat

theorem pre_lt (p : Nat → Bool) (m : Nat) : pre p m < 2 ^ m := by
  induction m with
  | zero => simp [pre]
  | succ m ih =>
    have : (p m).toNat ≤ 1 := Bool.toNat_le _
    simp only [pre, Nat.pow_succ]; omega

theorem pre_div (p : Nat → Bool) (w d : Nat) : pre p (w + d) / 2 ^ d = pre p w := by
  induction d with
  | zero => simp
  | succ d ih =>
    have : (p (w + d)).toNat ≤ 1 := Bool.toNat_le _
    rw [Nat.pow_succ, Nat.mul_comm, ← Nat.div_div_eq_div_mul, show w + (d + 1) = (w + d) + 1 from rfl]
    have e : pre p (w + d + 1) / 2 = pre p (w + d) := by simp only [pre]; omega
    rw [e, ih]

theorem pre_congr {p q : Nat → Bool} {m : Nat} (h : ∀ i, i < m → p i = q i) : pre p m = pre q m := by
  induction m with
  | zero => rfl
  | succ m ih => simp only [pre]; rw [ih (fun i hi => h i (by omega)), h m (by omega)]

/-- a word of which the first m bits are laid -/
def wordAt (p : Nat → Bool) (m : Nat) : Nat := pre p m * 2 ^ (64 - m)

theorem wordAt_zero (p : Nat → Bool) : wordAt p 0 = 0 := by simp [wordAt, pre]

theorem wordAt_congr {p q : Nat → Bool} {m : Nat} (h : ∀ i, i < m → p i = q i) : wordAt p m = wordAt q m := by
  unfold wordAt; rw [pre_congr h]

theorem wordAt_lt (p : Nat → Bool) {m : Nat} (hm : m ≤ 64) : wordAt p m < 18446744073709551616 := by
  have h1 := pre_lt p m
  have h2 : 0 < 2 ^ (64 - m) := Nat.pow_pos (by omega)
  have h3 : 2 ^ m * 2 ^ (64 - m) = 18446744073709551616 := by rw [← Nat.pow_add, show m + (64 - m) = 64 by omega]
  rw [← h3]; exact Nat.mul_lt_mul_of_pos_right h1 h2

theorem wordAt_shr (p : Nat → Bool) {w m : Nat} (hw : w ≤ m) (hm : m ≤ 64) : wordAt p m / 2 ^ (64 - w) = pre p w := by
  obtain ⟨d, rfl⟩ : ∃ d, m = w + d := ⟨m - w, by omega⟩
  unfold wordAt
  have e : 2 ^ (64 - w) = 2 ^ (64 - (w + d)) * 2 ^ d := by rw [← Nat.pow_add]; congr 1; omega
  rw [e, Nat.mul_comm (pre p (w + d)), Nat.mul_div_mul_left _ _ (Nat.pow_pos (by omega)), pre_div]

theorem two_or (a b : Nat) (hb : b ≤ 1) : 2 * a ||| b = 2 * a + b := by
  have := Nat.two_pow_add_eq_or_of_lt (i := 1) (b := b) (by omega) a
  simpa using this.symm

theorem wordAt_or (p : Nat → Bool) {m : Nat} (hm : m < 64) : wordAt p m ||| ((p m).toNat * 2 ^ (63 - m)) = wordAt p (m + 1) := by
  unfold wordAt
  have e : pre p m * 2 ^ (64 - m) = (2 * pre p m) * 2 ^ (63 - m) := by
    rw [show 64 - m = (63 - m) + 1 by omega, Nat.pow_succ]
    rw [Nat.mul_comm (2 ^ (63 - m)) 2, ← Nat.mul_assoc, Nat.mul_comm (pre p m) 2]
  have hb : (p m).toNat ≤ 1 := Bool.toNat_le _
  rw [e, ← Nat.shiftLeft_eq, ← Nat.shiftLeft_eq, ← Nat.shiftLeft_or_distrib, two_or _ _ hb, Nat.shiftLeft_eq]
  simp only [pre]
  rw [show 64 - (m + 1) = 63 - m by omega]

theorem pop_pre (p : Nat → Bool) : ∀ (f m : Nat), m ≤ f → Go.Lib.popAux f (pre p m) = cn m p
  | 0, 0, _ => rfl
  | f + 1, 0, _ => by
    have := pop_pre p f 0 (by omega)
    simp only [pre, cn] at *
    simp [Go.Lib.popAux, this]
  | f + 1, m + 1, h => by
    have hb : (p m).toNat ≤ 1 := Bool.toNat_le _
    have ih := pop_pre p f m (by omega)
    have e1 : pre p (m + 1) % 2 = (p m).toNat := by simp only [pre]; omega
    have e2 : pre p (m + 1) / 2 = pre p m := by simp only [pre]; omega
    rw [Go.Lib.popAux, e1, e2, ih]
    simp only [cn]; omega

/-- the bits from a place on -/
theorem rest_step (p : Nat → Bool) {i m : Nat} (hi : i < m) (hm : m ≤ 64) : wordAt p m % 2 ^ (64 - i) = (p i).toNat * 2 ^ (63 - i) + wordAt p m % 2 ^ (63 - i) := by
  have h := wordAt_shr p (w := i + 1) (by omega) hm
  rw [show 64 - (i + 1) = 63 - i by omega] at h
  have hb : (p i).toNat ≤ 1 := Bool.toNat_le _
  rw [show 64 - i = (63 - i) + 1 by omega, Nat.pow_succ, Nat.mod_mul, h]
  have : pre p (i + 1) % 2 = (p i).toNat := by simp only [pre]; omega
  rw [this, Nat.mul_comm (2 ^ (63 - i))]; omega

theorem rest_skip (p : Nat → Bool) {m : Nat} (hm : m ≤ 64) (a : Nat) : ∀ (d : Nat), a + d ≤ m → (∀ j, a ≤ j → j < a + d → p j = false) → wordAt p m % 2 ^ (64 - a) = wordAt p m % 2 ^ (64 - (a + d))
  | 0, _, _ => rfl
  | d + 1, h, hz => by
    rw [rest_skip p hm a d (by omega) (fun j h1 h2 => hz j h1 (by omega)), rest_step p (i := a + d) (by omega) hm, hz (a + d) (by omega) (by omega)]
    simp
    rw [show 64 - (a + (d + 1)) = 63 - (a + d) by omega]

theorem rest_hit (p : Nat → Bool) {i m : Nat} (hi : i < m) (hm : m ≤ 64) (hp : p i = true) : 2 ^ (63 - i) ≤ wordAt p m % 2 ^ (64 - i) ∧ wordAt p m % 2 ^ (64 - i) < 2 ^ (64 - i) := by
  refine ⟨?_, Nat.mod_lt _ (Nat.pow_pos (by omega))⟩
  rw [rest_step p hi hm, hp]; simp

/-- the next one -/
theorem next_one (p : Nat → Bool) {m t : Nat} : ∀ (d a : Nat), a + d = m → cn a p = t → t < cn m p → ∃ i, a ≤ i ∧ i < m ∧ p i = true ∧ cn i p = t ∧ ∀ j, a ≤ j → j < i → p j = false
  | 0, a, h, h1, h2 => by subst h; simp at h2; omega
  | d + 1, a, h, h1, h2 => by
    cases hp : p a
    · obtain ⟨i, i1, i2, i3, i4, i5⟩ := next_one p d (a + 1) (by omega) (by simp [cn, hp, h1]) h2
      exact ⟨i, by omega, i2, i3, i4, fun j j1 j2 => by
        by_cases e : j = a
        · rw [e, hp]
        · exact i5 j (by omega) j2⟩
    · exact ⟨a, by omega, by omega, hp, h1, fun j j1 j2 => by omega⟩

theorem bitLen_hit {y i : Nat} (hi : i ≤ 63) (h1 : 2 ^ (63 - i) ≤ y) (h2 : y < 2 ^ (64 - i)) : Go.Lib.bitLen y = 64 - i := by
  have hy : y < 2 ^ 64 := Nat.lt_of_lt_of_le h2 (Nat.pow_le_pow_right (by omega) (by omega))
  rw [Go.Lib.bitLen_shift (63 - i) y h1 hy]
  have e : y / 2 ^ (63 - i) = 1 := by
    have h3 : 2 ^ (64 - i) = 2 ^ (63 - i) * 2 := by rw [← Nat.pow_succ]; congr 1; omega
    rw [h3] at h2
    have hp : 0 < 2 ^ (63 - i) := Nat.pow_pos (by omega)
    have a1 : 1 ≤ y / 2 ^ (63 - i) := (Nat.le_div_iff_mul_le hp).2 (by omega)
    have a2 : y / 2 ^ (63 - i) < 2 := (Nat.div_lt_iff_lt_mul hp).2 (by omega)
    omega
  rw [e]
  have : Go.Lib.bitLen 1 = 1 := by decide
  omega

theorem drop_hit {y s : Nat} (hs : s ≤ 63) (h1 : 2 ^ s ≤ y) (h2 : y < 2 ^ (s + 1)) : y &&& (18446744073709551615 - 2 ^ s) = y - 2 ^ s := by
  have e : y - 2 ^ s = y % 2 ^ s := by
    rw [Nat.pow_succ] at h2
    rw [Nat.mod_eq_sub_mod h1, Nat.mod_eq_of_lt (by omega)]
  rw [e]
  have hlt : 2 ^ s < 2 ^ 64 := Nat.pow_lt_pow_right (by omega) (by omega)
  rw [show 18446744073709551615 - 2 ^ s = 2 ^ 64 - (2 ^ s + 1) by omega]
  apply Nat.eq_of_testBit_eq
  intro j
  rw [Nat.testBit_and, Nat.testBit_two_pow_sub_succ hlt, Nat.testBit_mod_two_pow]
  rcases Nat.lt_trichotomy j s with h | h | h
  · have e1 : (2 ^ s).testBit j = false := by rw [Nat.testBit_two_pow]; simp; omega
    have e2 : decide (j < 64) = true := by simp; omega
    rw [e1, e2]; simp [h]
  · subst h; simp [Nat.testBit_two_pow_self]
  · have e1 : y.testBit j = false := Nat.testBit_lt_two_pow (Nat.lt_of_lt_of_le h2 (Nat.pow_le_pow_right (by omega) (by omega)))
    rw [e1]; simp

theorem bit_or {s : Nat} (hs : s ≤ 63) : 2 ^ s < 18446744073709551616 := by
  have : 2 ^ s < 2 ^ 64 := Nat.pow_lt_pow_right (by omega) (by omega)
  omega

end Bm

