import Derived.Test.YtopihgmemnokkaaGreatEndsF
import Derived.Lib.BitFns
namespace Bm
open Cc

/-- the number of the first m bits, the first one highest -/
def pre (p : Nat → Bool) : Nat → Nat
  | 0 => 0
  | m + 1 => 2 * pre p m + (p m).toNat

theorem pre_lt (p : Nat → Bool) (m : Nat) : pre p m < 2 ^ m := by
  induction m with
  | zero => simp [pre]
  | succ m ih =>
    have : (p m).toNat ≤ 1 := Bool.toNat_le _
    simp only [pre, Nat.pow_succ]; omega

theorem pre_div (p : Nat → Bool) (w d : Nat) : pre p (w + d) / 2 ^ d = pre p w := by
  induction d with
  | zero => simp
  | succ d ih =>
    have : (p (w + d)).toNat ≤ 1 := Bool.toNat_le _
    rw [Nat.pow_succ, Nat.mul_comm, ← Nat.div_div_eq_div_mul, show w + (d + 1) = (w + d) + 1 from rfl]
    have e : pre p (w + d + 1) / 2 = pre p (w + d) := by simp only [pre]; omega
    rw [e, ih]

theorem pre_congr {p q : Nat → Bool} {m : Nat} (h : ∀ i, i < m → p i = q i) : pre p m = pre q m := by
  induction m with
  | zero => rfl
  | succ m ih => simp only [pre]; rw [ih (fun i hi => h i (by omega)), h m (by omega)]

/-- a word of which the first m bits are laid -/
def wordAt (p : Nat → Bool) (m : Nat) : Nat := pre p m * 2 ^ (64 - m)

theorem wordAt_zero (p : Nat → Bool) : wordAt p 0 = 0 := by simp [wordAt, pre]

theorem wordAt_congr {p q : Nat → Bool} {m : Nat} (h : ∀ i, i < m → p i = q i) : wordAt p m = wordAt q m := by
  unfold wordAt; rw [pre_congr h]

theorem wordAt_lt (p : Nat → Bool) {m : Nat} (hm : m ≤ 64) : wordAt p m < 18446744073709551616 := by
  have h1 := pre_lt p m
  have h2 : 0 < 2 ^ (64 - m) := Nat.pow_pos (by omega)
  have h3 : 2 ^ m * 2 ^ (64 - m) = 18446744073709551616 := by rw [← Nat.pow_add, show m + (64 - m) = 64 by omega]
  rw [← h3]; exact Nat.mul_lt_mul_of_pos_right h1 h2

theorem wordAt_shr (p : Nat → Bool) {w m : Nat} (hw : w ≤ m) (hm : m ≤ 64) : wordAt p m / 2 ^ (64 - w) = pre p w := by
  obtain ⟨d, rfl⟩ : ∃ d, m = w + d := ⟨m - w, by omega⟩
  unfold wordAt
  have e : 2 ^ (64 - w) = 2 ^ (64 - (w + d)) * 2 ^ d := by rw [← Nat.pow_add]; congr 1; omega
  rw [e, Nat.mul_comm (pre p (w + d)), Nat.mul_div_mul_left _ _ (Nat.pow_pos (by omega)), pre_div]

theorem two_or (a b : Nat) (hb : b ≤ 1) : 2 * a ||| b = 2 * a + b := by
  have := Nat.two_pow_add_eq_or_of_lt (i := 1) (b := b) (by omega) a
  simpa using this.symm

theorem wordAt_or (p : Nat → Bool) {m : Nat} (hm : m < 64) : wordAt p m ||| ((p m).toNat * 2 ^ (63 - m)) = wordAt p (m + 1) := by
  unfold wordAt
  have e : pre p m * 2 ^ (64 - m) = (2 * pre p m) * 2 ^ (63 - m) := by
    rw [show 64 - m = (63 - m) + 1 by omega, Nat.pow_succ]
    rw [Nat.mul_comm (2 ^ (63 - m)) 2, ← Nat.mul_assoc, Nat.mul_comm (pre p m) 2]
  have hb : (p m).toNat ≤ 1 := Bool.toNat_le _
  rw [e, ← Nat.shiftLeft_eq, ← Nat.shiftLeft_eq, ← Nat.shiftLeft_or_distrib, two_or _ _ hb, Nat.shiftLeft_eq]
  simp only [pre]
  rw [show 64 - (m + 1) = 63 - m by omega]

theorem pop_pre (p : Nat → Bool) : ∀ (f m : Nat), m ≤ f → Go.Lib.popAux f (pre p m) = cn m p
  | 0, 0, _ => rfl
  | f + 1, 0, _ => by
    have := pop_pre p f 0 (by omega)
    simp only [pre, cn] at *
    simp [Go.Lib.popAux, this]
  | f + 1, m + 1, h => by
    have hb : (p m).toNat ≤ 1 := Bool.toNat_le _
    have ih := pop_pre p f m (by omega)
    have e1 : pre p (m + 1) % 2 = (p m).toNat := by simp only [pre]; omega
    have e2 : pre p (m + 1) / 2 = pre p m := by simp only [pre]; omega
    rw [Go.Lib.popAux, e1, e2, ih]
    simp only [cn]; omega

/-- the bits from a place on -/
theorem rest_step (p : Nat → Bool) {i m : Nat} (hi : i < m) (hm : m ≤ 64) : wordAt p m % 2 ^ (64 - i) = (p i).toNat * 2 ^ (63 - i) + wordAt p m % 2 ^ (63 - i) := by
  have h := wordAt_shr p (w := i + 1) (by omega) hm
  rw [show 64 - (i + 1) = 63 - i by omega] at h
  have hb : (p i).toNat ≤ 1 := Bool.toNat_le _
  rw [show 64 - i = (63 - i) + 1 by omega, Nat.pow_succ, Nat.mod_mul, h]
  have : pre p (i + 1) % 2 = (p i).toNat := by simp only [pre]; omega
  rw [this, Nat.mul_comm (2 ^ (63 - i))]; omega

theorem rest_skip (p : Nat → Bool) {m : Nat} (hm : m ≤ 64) (a : Nat) : ∀ (d : Nat), a + d ≤ m → (∀ j, a ≤ j → j < a + d → p j = false) → wordAt p m % 2 ^ (64 - a) = wordAt p m % 2 ^ (64 - (a + d))
  | 0, _, _ => rfl
  | d + 1, h, hz => by
    rw [rest_skip p hm a d (by omega) (fun j h1 h2 => hz j h1 (by omega)), rest_step p (i := a + d) (by omega) hm, hz (a + d) (by omega) (by omega)]
    simp
    rw [show 64 - (a + (d + 1)) = 63 - (a + d) by omega]

theorem rest_hit (p : Nat → Bool) {i m : Nat} (hi : i < m) (hm : m ≤ 64) (hp : p i = true) : 2 ^ (63 - i) ≤ wordAt p m % 2 ^ (64 - i) ∧ wordAt p m % 2 ^ (64 - i) < 2 ^ (64 - i) := by
  refine ⟨?_, Nat.mod_lt _ (Nat.pow_pos (by omega))⟩
  rw [rest_step p hi hm, hp]; simp

/-- the next one -/
theorem next_one (p : Nat → Bool) {m t : Nat} : ∀ (d a : Nat), a + d = m → cn a p = t → t < cn m p → ∃ i, a ≤ i ∧ i < m ∧ p i = true ∧ cn i p = t ∧ ∀ j, a ≤ j → j < i → p j = false
  | 0, a, h, h1, h2 => by subst h; simp at h2; omega
  | d + 1, a, h, h1, h2 => by
    cases hp : p a
    · obtain ⟨i, i1, i2, i3, i4, i5⟩ := next_one p d (a + 1) (by omega) (by simp [cn, hp, h1]) h2
      exact ⟨i, by omega, i2, i3, i4, fun j j1 j2 => by
        by_cases e : j = a
        · rw [e, hp]
        · exact i5 j (by omega) j2⟩
    · exact ⟨a, by omega, by omega, hp, h1, fun j j1 j2 => by omega⟩

theorem bitLen_hit {y i : Nat} (hi : i ≤ 63) (h1 : 2 ^ (63 - i) ≤ y) (h2 : y < 2 ^ (64 - i)) : Go.Lib.bitLen y = 64 - i := by
  have hy : y < 2 ^ 64 := Nat.lt_of_lt_of_le h2 (Nat.pow_le_pow_right (by omega) (by omega))
  rw [Go.Lib.bitLen_shift (63 - i) y h1 hy]
  have e : y / 2 ^ (63 - i) = 1 := by
    have h3 : 2 ^ (64 - i) = 2 ^ (63 - i) * 2 := by rw [← Nat.pow_succ]; congr 1; omega
    rw [h3] at h2
    have hp : 0 < 2 ^ (63 - i) := Nat.pow_pos (by omega)
    have a1 : 1 ≤ y / 2 ^ (63 - i) := (Nat.le_div_iff_mul_le hp).2 (by omega)
    have a2 : y / 2 ^ (63 - i) < 2 := (Nat.div_lt_iff_lt_mul hp).2 (by omega)
    omega
  rw [e]
  have : Go.Lib.bitLen 1 = 1 := by decide
  omega

theorem drop_hit {y s : Nat} (hs : s ≤ 63) (h1 : 2 ^ s ≤ y) (h2 : y < 2 ^ (s + 1)) : y &&& (18446744073709551615 - 2 ^ s) = y - 2 ^ s := by
  have e : y - 2 ^ s = y % 2 ^ s := by
    rw [Nat.pow_succ] at h2
    rw [Nat.mod_eq_sub_mod h1, Nat.mod_eq_of_lt (by omega)]
  rw [e]
  have hlt : 2 ^ s < 2 ^ 64 := Nat.pow_lt_pow_right (by omega) (by omega)
  rw [show 18446744073709551615 - 2 ^ s = 2 ^ 64 - (2 ^ s + 1) by omega]
  apply Nat.eq_of_testBit_eq
  intro j
  rw [Nat.testBit_and, Nat.testBit_two_pow_sub_succ hlt, Nat.testBit_mod_two_pow]
  rcases Nat.lt_trichotomy j s with h | h | h
  · have e1 : (2 ^ s).testBit j = false := by rw [Nat.testBit_two_pow]; simp; omega
    have e2 : decide (j < 64) = true := by simp; omega
    rw [e1, e2]; simp [h]
  · subst h; simp [Nat.testBit_two_pow_self]
  · have e1 : y.testBit j = false := Nat.testBit_lt_two_pow (Nat.lt_of_lt_of_le h2 (Nat.pow_le_pow_right (by omega) (by omega)))
    rw [e1]; simp

theorem bit_or {s : Nat} (hs : s ≤ 63) : 2 ^ s < 18446744073709551616 := by
  have : 2 ^ s < 2 ^ 64 := Nat.pow_lt_pow_right (by omega) (by omega)
  omega

end Bm

namespace Bm
open Go.Lib

theorem and_byte (a M c d : Nat) (hc : c < 256) (hd : d < 256) : (256 * a + c) &&& (256 * M + d) = 256 * (a &&& M) + (c &&& d) := by
  have hcd : c &&& d < 2 ^ 8 := Nat.and_lt_two_pow _ (by omega)
  apply Nat.eq_of_testBit_eq
  intro j
  have e1 := Nat.testBit_two_pow_mul_add (i := 8) a (b := c) (by omega) j
  have e2 := Nat.testBit_two_pow_mul_add (i := 8) M (b := d) (by omega) j
  have e3 := Nat.testBit_two_pow_mul_add (i := 8) (a &&& M) (b := c &&& d) hcd j
  simp only [show (2 : Nat) ^ 8 = 256 from rfl] at e1 e2 e3
  rw [Nat.testBit_and, e1, e2, e3]
  by_cases h : j < 8
  · simp [h]
  · simp [h]

/-- a number byte by byte -/
def D (g : Nat → Nat) : Nat → Nat → Nat
  | 0, _ => 0
  | k + 1, x => 256 * D g k (x / 256) + g (x % 256)
/-- a mask, a byte again and again -/
def M (d : Nat) : Nat → Nat
  | 0 => 0
  | k + 1 => 256 * M d k + d

def g1 (c : Nat) : Nat := (c / 2 &&& 85) + (c &&& 85)
def g2 (c : Nat) : Nat := (c / 4 &&& 51) + (c &&& 51)
def g3 (c : Nat) : Nat := (c / 16 + c) % 16

theorem k1 : ∀ (e : Fin 2) (c : Fin 128), (128 * e.val + c.val) &&& 85 = c.val &&& 85 := by decide +kernel
theorem k2 : ∀ (e : Fin 4) (c : Fin 64), (64 * e.val + c.val) &&& 51 = c.val &&& 51 := by decide +kernel
theorem k3 : ∀ c : Fin 256, g1 c.val < 256 ∧ g2 (g1 c.val) < 256 ∧ g2 (g1 c.val) % 16 ≤ 4 ∧ g2 (g1 c.val) / 16 ≤ 4 ∧ g3 (g2 (g1 c.val)) = popAux 8 c.val := by decide +kernel

theorem D_step1 : ∀ (k x : Nat), (x / 2 &&& M 85 k) + (x &&& M 85 k) = D g1 k x
  | 0, x => by simp [M, D]
  | k + 1, x => by
    have ih := D_step1 k (x / 256)
    have e1 : x = 256 * (x / 256) + x % 256 := by omega
    have e2 : x / 2 = 256 * (x / 256 / 2) + (128 * (x / 256 % 2) + x % 256 / 2) := by omega
    have hk := k1 ⟨x / 256 % 2, by omega⟩ ⟨x % 256 / 2, by omega⟩
    have a1 := and_byte (x / 256 / 2) (M 85 k) (128 * (x / 256 % 2) + x % 256 / 2) 85 (by omega) (by omega)
    have a2 := and_byte (x / 256) (M 85 k) (x % 256) 85 (by omega) (by omega)
    rw [← e2] at a1
    rw [← e1] at a2
    simp only [M, D]
    rw [a1, a2, ← ih]
    simp only at hk
    rw [hk]
    unfold g1
    omega

theorem D_step2 : ∀ (k x : Nat), (x / 4 &&& M 51 k) + (x &&& M 51 k) = D g2 k x
  | 0, x => by simp [M, D]
  | k + 1, x => by
    have ih := D_step2 k (x / 256)
    have e1 : x = 256 * (x / 256) + x % 256 := by omega
    have e2 : x / 4 = 256 * (x / 256 / 4) + (64 * (x / 256 % 4) + x % 256 / 4) := by omega
    have hk := k2 ⟨x / 256 % 4, by omega⟩ ⟨x % 256 / 4, by omega⟩
    have a1 := and_byte (x / 256 / 4) (M 51 k) (64 * (x / 256 % 4) + x % 256 / 4) 51 (by omega) (by omega)
    have a2 := and_byte (x / 256) (M 51 k) (x % 256) 51 (by omega) (by omega)
    rw [← e2] at a1
    rw [← e1] at a2
    simp only [M, D]
    rw [a1, a2, ← ih]
    simp only at hk
    rw [hk]
    unfold g2
    omega

theorem D_comp (f g : Nat → Nat) (hf : ∀ c, c < 256 → f c < 256) : ∀ (k x : Nat), D g k (D f k x) = D (fun c => g (f c)) k x
  | 0, _ => rfl
  | k + 1, x => by
    have h := hf (x % 256) (by omega)
    simp only [D]
    rw [show (256 * D f k (x / 256) + f (x % 256)) / 256 = D f k (x / 256) by omega, show (256 * D f k (x / 256) + f (x % 256)) % 256 = f (x % 256) by omega, D_comp f g hf k]

theorem D_congr {f g : Nat → Nat} (h : ∀ c, c < 256 → f c = g c) : ∀ (k x : Nat), D f k x = D g k x
  | 0, _ => rfl
  | k + 1, x => by simp only [D]; rw [D_congr h k, h _ (by omega)]

theorem D_low (f : Nat → Nat) (hf : ∀ c, c < 256 → f c % 16 ≤ 4) : ∀ (k x : Nat), D f k x % 16 ≤ 4
  | 0, _ => by simp [D]
  | k + 1, x => by have := hf (x % 256) (by omega); simp only [D]; omega

theorem D_step3 (f : Nat → Nat) (hf : ∀ c, c < 256 → f c % 16 ≤ 4 ∧ f c / 16 ≤ 4) : ∀ (k x : Nat), (D f k x / 16 + D f k x) &&& M 15 k = D (fun c => g3 (f c)) k x
  | 0, x => by simp [M, D]
  | k + 1, x => by
    have ih := D_step3 f hf k (x / 256)
    have hl := D_low f (fun c hc => (hf c hc).1) k (x / 256)
    obtain ⟨h1, h2⟩ := hf (x % 256) (by omega)
    simp only [M, D]
    generalize hA : D f k (x / 256) = A at *
    generalize hy : f (x % 256) = y at *
    have e : (256 * A + y) / 16 + (256 * A + y) = 256 * (A / 16 + A) + (16 * (A % 16) + y / 16 + y) := by omega
    rw [e, and_byte _ _ _ _ (by omega) (by omega), ih]
    have e2 : (16 * (A % 16) + y / 16 + y) &&& 15 = (16 * (A % 16) + y / 16 + y) % 16 := Nat.and_two_pow_sub_one_eq_mod _ 4
    rw [e2]
    unfold g3
    omega

theorem pop_split : ∀ (a b x : Nat), popAux (a + b) x = popAux a (x % 2 ^ a) + popAux b (x / 2 ^ a)
  | 0, b, x => by simp [popAux]
  | a + 1, b, x => by
    rw [show a + 1 + b = (a + b) + 1 by omega]
    simp only [popAux]
    rw [pop_split a b (x / 2)]
    have e1 : x % 2 ^ (a + 1) % 2 = x % 2 := by rw [Nat.pow_succ, Nat.mul_comm, Nat.mod_mul_right_mod]
    have e2 : x % 2 ^ (a + 1) / 2 = x / 2 % 2 ^ a := by rw [Nat.pow_succ, Nat.mul_comm, Nat.mod_mul_right_div_self]
    have e3 : x / 2 / 2 ^ a = x / 2 ^ (a + 1) := by rw [Nat.div_div_eq_div_mul, Nat.pow_succ, Nat.mul_comm]
    rw [e1, e2, e3]; omega

theorem pop8_le (c : Nat) : popAux 8 c ≤ 8 := by
  have h : ∀ f c, popAux f c ≤ f := by
    intro f
    induction f with
    | zero => intro c; simp [popAux]
    | succ f ih => intro c; have := ih (c / 2); simp only [popAux]; omega
  exact h 8 c

def s3 (x : Nat) : Nat := D (popAux 8) 8 x

theorem swar3 (x : Nat) : ∀ x1 x2, x1 = (x / 2 &&& 6148914691236517205) + (x &&& 6148914691236517205) → x2 = (x1 / 4 &&& 3689348814741910323) + (x1 &&& 3689348814741910323) →
    ((x2 / 16 + x2) &&& 1085102592571150095) = s3 x ∧ x1 = D g1 8 x ∧ x2 = D (fun c => g2 (g1 c)) 8 x := by
  intro x1 x2 h1 h2
  have m0 : M 85 8 = 6148914691236517205 := by decide
  have m1 : M 51 8 = 3689348814741910323 := by decide
  have m2 : M 15 8 = 1085102592571150095 := by decide
  have e1 : x1 = D g1 8 x := by rw [h1, ← m0]; exact D_step1 8 x
  have e2 : x2 = D (fun c => g2 (g1 c)) 8 x := by
    rw [h2, ← m1, D_step2, e1, D_comp g1 g2 (fun c hc => (k3 ⟨c, hc⟩).1)]
  refine ⟨?_, e1, e2⟩
  rw [e2, ← m2, D_step3 _ (fun c hc => ⟨(k3 ⟨c, hc⟩).2.2.1, (k3 ⟨c, hc⟩).2.2.2.1⟩)]
  exact D_congr (fun c hc => (k3 ⟨c, hc⟩).2.2.2.2) 8 x

theorem D_lt (f : Nat → Nat) (hf : ∀ c, c < 256 → f c < 256) : ∀ (k x : Nat), D f k x < 256 ^ k
  | 0, _ => by simp [D]
  | k + 1, x => by have := D_lt f hf k (x / 256); have := hf (x % 256) (by omega); simp only [D, Nat.pow_succ]; omega

theorem pop64 (x : Nat) : popAux 64 x = popAux 8 (x % 256) + popAux 8 (x / 256 % 256) + popAux 8 (x / 256 / 256 % 256) + popAux 8 (x / 256 / 256 / 256 % 256) + popAux 8 (x / 256 / 256 / 256 / 256 % 256) + popAux 8 (x / 256 / 256 / 256 / 256 / 256 % 256) + popAux 8 (x / 256 / 256 / 256 / 256 / 256 / 256 % 256) + popAux 8 (x / 256 / 256 / 256 / 256 / 256 / 256 / 256 % 256) := by
  have h : ∀ b y, popAux (8 + b) y = popAux 8 (y % 256) + popAux b (y / 256) := fun b y => pop_split 8 b y
  have e1 : popAux 64 x = _ := h 56 x
  have e2 : popAux 56 (x / 256) = _ := h 48 _
  have e3 : popAux 48 (x / 256 / 256) = _ := h 40 _
  have e4 : popAux 40 (x / 256 / 256 / 256) = _ := h 32 _
  have e5 : popAux 32 (x / 256 / 256 / 256 / 256) = _ := h 24 _
  have e6 : popAux 24 (x / 256 / 256 / 256 / 256 / 256) = _ := h 16 _
  have e7 : popAux 16 (x / 256 / 256 / 256 / 256 / 256 / 256) = _ := h 8 _
  rw [e1, e2, e3, e4, e5, e6, e7]
  have e8 : popAux 8 (x / 256 / 256 / 256 / 256 / 256 / 256 / 256) = _ := h 0 _
  have e9 : popAux 0 (x / 256 / 256 / 256 / 256 / 256 / 256 / 256 / 256) = 0 := rfl
  rw [e8, e9]
  omega

theorem swar_end (x x3 x4 x5 x6 : Nat) (h3 : x3 = s3 x) (h4 : x4 = x3 + x3 / 256) (h5 : x5 = x4 + x4 / 65536) (h6 : x6 = x5 + x5 / 4294967296) :
    x6 % 128 = popAux 64 x ∧ x3 < 1000000000000000000 ∧ x4 < 2000000000000000000 ∧ x5 < 4000000000000000000 ∧ x6 < 8000000000000000000 ∧ popAux 64 x ≤ 64 := by
  rw [pop64]
  unfold s3 at h3
  simp only [D] at h3
  have l0 := pop8_le (x % 256)
  have l1 := pop8_le (x / 256 % 256)
  have l2 := pop8_le (x / 256 / 256 % 256)
  have l3 := pop8_le (x / 256 / 256 / 256 % 256)
  have l4 := pop8_le (x / 256 / 256 / 256 / 256 % 256)
  have l5 := pop8_le (x / 256 / 256 / 256 / 256 / 256 % 256)
  have l6 := pop8_le (x / 256 / 256 / 256 / 256 / 256 / 256 % 256)
  have l7 := pop8_le (x / 256 / 256 / 256 / 256 / 256 / 256 / 256 % 256)
  generalize popAux 8 (x % 256) = c0 at *
  generalize popAux 8 (x / 256 % 256) = c1 at *
  generalize popAux 8 (x / 256 / 256 % 256) = c2 at *
  generalize popAux 8 (x / 256 / 256 / 256 % 256) = c3 at *
  generalize popAux 8 (x / 256 / 256 / 256 / 256 % 256) = c4 at *
  generalize popAux 8 (x / 256 / 256 / 256 / 256 / 256 % 256) = c5 at *
  generalize popAux 8 (x / 256 / 256 / 256 / 256 / 256 / 256 % 256) = c6 at *
  generalize popAux 8 (x / 256 / 256 / 256 / 256 / 256 / 256 / 256 % 256) = c7 at *
  have d3 : x3 / 256 = c1 + 256 * (c2 + 256 * (c3 + 256 * (c4 + 256 * (c5 + 256 * (c6 + 256 * c7))))) := by omega
  have d4 : x4 / 65536 = (c2 + c3) + 256 * ((c3 + c4) + 256 * ((c4 + c5) + 256 * ((c5 + c6) + 256 * ((c6 + c7) + 256 * c7)))) := by omega
  have d5 : x5 / 4294967296 = (c4 + c5 + c6 + c7) + 256 * ((c5 + c6 + c7) + 256 * ((c6 + c7) + 256 * c7)) := by omega
  refine ⟨?_, ?_, ?_, ?_, ?_, ?_⟩ <;> omega

end Bm

