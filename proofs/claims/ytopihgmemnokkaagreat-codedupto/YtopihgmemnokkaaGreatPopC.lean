import Derived.Lib.BitFns
namespace Bm
open Go.Lib

theorem and_byte (a M c d : Nat) (hc : c < 256) (hd : d < 256) : (256 * a + c) &&& (256 * M + d) = 256 * (a &&& M) + (c &&& d) := by
  have hcd : c &&& d < 2 ^ 8 := Nat.and_lt_two_pow _ (by omega)
  apply Nat.eq_of_testBit_eq
  intro j
  have e1 := Nat.testBit_two_pow_mul_add (i := 8) a (b := c) (by omega) j
  have e2 := Nat.testBit_two_pow_mul_add (i := 8) M (b := d) (by omega) j
  have e3 := Nat.testBit_two_pow_mul_add (i := 8) (a &&& M) (b := c &&& d) hcd j
  simp only [show (2 : Nat) ^ 8 = 256 from rfl] at e1 e2 e3
  rw [Nat.testBit_and, e1, e2, e3]
  by_cases h : j < 8
  · simp [h]
  · simp [h]

/-- a number byte by byte -/
def D (g : Nat → Nat) : Nat → Nat → Nat
  | 0, _ => 0
  | k + 1, x => 256 * D g k (x / 256) + g (x % 256)
/-- a mask, a byte again and again -/
def M (d : Nat) : Nat → Nat
  | 0 => 0
  | k + 1 => 256 * M d k + d

def g1 (c : Nat) : Nat := (c / 2 &&& 85) + (c &&& 85)
def g2 (c : Nat) : Nat := (c / 4 &&& 51) + (c &&& 51)
def g3 (c : Nat) : Nat := (c / 16 + c) % 16

theorem k1 : ∀ (e : Fin 2) (c : Fin 128), (128 * e.val + c.val) &&& 85 = c.val &&& 85 := by decide +kernel
theorem k2 : ∀ (e : Fin 4) (c : Fin 64), (64 * e.val + c.val) &&& 51 = c.val &&& 51 := by decide +kernel
theorem k3 : ∀ c : Fin 256, g1 c.val < 256 ∧ g2 (g1 c.val) < 256 ∧ g2 (g1 c.val) % 16 ≤ 4 ∧ g2 (g1 c.val) / 16 ≤ 4 ∧ g3 (g2 (g1 c.val)) = popAux 8 c.val := by decide +kernel

theorem D_step1 : ∀ (k x : Nat), (x / 2 &&& M 85 k) + (x &&& M 85 k) = D g1 k x
  | 0, x => by simp [M, D]
  | k + 1, x => by
    have ih := D_step1 k (x / 256)
    have e1 : x = 256 * (x / 256) + x % 256 := by omega
    have e2 : x / 2 = 256 * (x / 256 / 2) + (128 * (x / 256 % 2) + x % 256 / 2) := by omega
    have hk := k1 ⟨x / 256 % 2, by omega⟩ ⟨x % 256 / 2, by omega⟩
    have a1 := and_byte (x / 256 / 2) (M 85 k) (128 * (x / 256 % 2) + x % 256 / 2) 85 (by omega) (by omega)
    have a2 := and_byte (x / 256) (M 85 k) (x % 256) 85 (by omega) (by omega)
    rw [← e2] at a1
    rw [← e1] at a2
    simp only [M, D]
    rw [a1, a2, ← ih]
    simp only at hk
    rw [hk]
    unfold g1
    omega

theorem D_step2 : ∀ (k x : Nat), (x / 4 &&& M 51 k) + (x &&& M 51 k) = D g2 k x
  | 0, x => by simp [M, D]
  | k + 1, x => by
    have ih := D_step2 k (x / 256)
    have e1 : x = 256 * (x / 256) + x % 256 := by omega
    have e2 : x / 4 = 256 * (x / 256 / 4) + (64 * (x / 256 % 4) + x % 256 / 4) := by omega
    have hk := k2 ⟨x / 256 % 4, by omega⟩ ⟨x % 256 / 4, by omega⟩
    have a1 := and_byte (x / 256 / 4) (M 51 k) (64 * (x / 256 % 4) + x % 256 / 4) 51 (by omega) (by omega)
    have a2 := and_byte (x / 256) (M 51 k) (x % 256) 51 (by omega) (by omega)
    rw [← e2] at a1
    rw [← e1] at a2
    simp only [M, D]
    rw [a1, a2, ← ih]
    simp only at hk
    rw [hk]
    unfold g2
    omega

theorem D_comp (f g : Nat → Nat) (hf : ∀ c, c < 256 → f c < 256) : ∀ (k x : Nat), D g k (D f k x) = D (fun c => g (f c)) k x
  | 0, _ => rfl
  | k + 1, x => by
    have h := hf (x % 256) (by omega)
    simp only [D]
    rw [show (256 * D f k (x / 256) + f (x % 256)) / 256 = D f k (x / 256) by omega, show (256 * D f k (x / 256) + f (x % 256)) % 256 = f (x % 256) by omega, D_comp f g hf k]

theorem D_congr {f g : Nat → Nat} (h : ∀ c, c < 256 → f c = g c) : ∀ (k x : Nat), D f k x = D g k x
  | 0, _ => rfl
  | k + 1, x => by simp only [D]; rw [D_congr h k, h _ (by omega)]

theorem D_low (f : Nat → Nat) (hf : ∀ c, c < 256 → f c % 16 ≤ 4) : ∀ (k x : Nat), D f k x % 16 ≤ 4
  | 0, _ => by simp [D]
  | k + 1, x => by have := hf (x % 256) (by omega); simp only [D]; omega

theorem D_step3 (f : Nat → Nat) (hf : ∀ c, c < 256 → f c % 16 ≤ 4 ∧ f c / 16 ≤ 4) : ∀ (k x : Nat), (D f k x / 16 + D f k x) &&& M 15 k = D (fun c => g3 (f c)) k x
  | 0, x => by simp [M, D]
  | k + 1, x => by
    have ih := D_step3 f hf k (x / 256)
    have hl := D_low f (fun c hc => (hf c hc).1) k (x / 256)
    obtain ⟨h1, h2⟩ := hf (x % 256) (by omega)
    simp only [M, D]
    generalize hA : D f k (x / 256) = A at *
    generalize hy : f (x % 256) = y at *
    have e : (256 * A + y) / 16 + (256 * A + y) = 256 * (A / 16 + A) + (16 * (A % 16) + y / 16 + y) := by omega
    rw [e, and_byte _ _ _ _ (by omega) (by omega), ih]
    have e2 : (16 * (A % 16) + y / 16 + y) &&& 15 = (16 * (A % 16) + y / 16 + y) % 16 := Nat.and_two_pow_sub_one_eq_mod _ 4
    rw [e2]
    unfold g3
    omega

theorem pop_split : ∀ (a b x : Nat), popAux (a + b) x = popAux a (x % 2 ^ a) + popAux b (x / 2 ^ a)
  | 0, b, x => by simp [popAux]
  | a + 1, b, x => by
    rw [show a + 1 + b = (a + b) + 1 by omega]
    simp only [popAux]
    rw [pop_split a b (x / 2)]
    have e1 : x % 2 ^ (a + 1) % 2 = x % 2 := by rw [Nat.pow_succ, Nat.mul_comm, Nat.mod_mul_right_mod]
    have e2 : x % 2 ^ (a + 1) / 2 = x / 2 % 2 ^ a := by rw [Nat.pow_succ, Nat.mul_comm, Nat.mod_mul_right_div_self]
    have e3 : x / 2 / 2 ^ a = x / 2 ^ (a + 1) := by rw [Nat.div_div_eq_div_mul, Nat.pow_succ, Nat.mul_comm]
    rw [e1, e2, e3]; omega

theorem pop8_le (c : Nat) : popAux 8 c ≤ 8 := by
  have h : ∀ f c, popAux f c ≤ f := by
    intro f
    induction f with
    | zero => intro c; simp [popAux]
    | succ f ih => intro c; have := ih (c / 2); simp only [popAux]; omega
  exact h 8 c

def s3 (x : Nat) : Nat := D (popAux 8) 8 x

theorem swar3 (x : Nat) : ∀ x1 x2, x1 = (x / 2 &&& 6148914691236517205) + (x &&& 6148914691236517205) → x2 = (x1 / 4 &&& 3689348814741910323) + (x1 &&& 3689348814741910323) →
    ((x2 / 16 + x2) &&& 1085102592571150095) = s3 x ∧ x1 = D g1 8 x ∧ x2 = D (fun c => g2 (g1 c)) 8 x := by
  intro x1 x2 h1 h2
  have m0 : M 85 8 = 6148914691236517205 := by decide
  have m1 : M 51 8 = 3689348814741910323 := by decide
  have m2 : M 15 8 = 1085102592571150095 := by decide
  have e1 : x1 = D g1 8 x := by rw [h1, ← m0]; exact D_step1 8 x
  have e2 : x2 = D (fun c => g2 (g1 c)) 8 x := by
    rw [h2, ← m1, D_step2, e1, D_comp g1 g2 (fun c hc => (k3 ⟨c, hc⟩).1)]
  refine ⟨?_, e1, e2⟩
  rw [e2, ← m2, D_step3 _ (fun c hc => ⟨(k3 ⟨c, hc⟩).2.2.1, (k3 ⟨c, hc⟩).2.2.2.1⟩)]
  exact D_congr (fun c hc => (k3 ⟨c, hc⟩).2.2.2.2) 8 x

theorem D_lt (f : Nat → Nat) (hf : ∀ c, c < 256 → f c < 256) : ∀ (k x : Nat), D f k x < 256 ^ k
  | 0, _ => by simp [D]
  | k + 1, x => by have := D_lt f hf k (x / 256); have := hf (x % 256) (by omega); simp only [D, Nat.pow_succ]; omega

theorem pop64 (x : Nat) : popAux 64 x = popAux 8 (x % 256) + popAux 8 (x / 256 % 256) + popAux 8 (x / 256 / 256 % 256) + popAux 8 (x / 256 / 256 / 256 % 256) + popAux 8 (x / 256 / 256 / 256 / 256 % 256) + popAux 8 (x / 256 / 256 / 256 / 256 / 256 % 256) + popAux 8 (x / 256 / 256 / 256 / 256 / 256 / 256 % 256) + popAux 8 (x / 256 / 256 / 256 / 256 / 256 / 256 / 256 % 256) := by
  have h : ∀ b y, popAux (8 + b) y = popAux 8 (y % 256) + popAux b (y / 256) := fun b y => pop_split 8 b y
  have e1 : popAux 64 x = _ := h 56 x
  have e2 : popAux 56 (x / 256) = _ := h 48 _
  have e3 : popAux 48 (x / 256 / 256) = _ := h 40 _
  have e4 : popAux 40 (x / 256 / 256 / 256) = _ := h 32 _
  have e5 : popAux 32 (x / 256 / 256 / 256 / 256) = _ := h 24 _
  have e6 : popAux 24 (x / 256 / 256 / 256 / 256 / 256) = _ := h 16 _
  have e7 : popAux 16 (x / 256 / 256 / 256 / 256 / 256 / 256) = _ := h 8 _
  rw [e1, e2, e3, e4, e5, e6, e7]
  have e8 : popAux 8 (x / 256 / 256 / 256 / 256 / 256 / 256 / 256) = _ := h 0 _
  have e9 : popAux 0 (x / 256 / 256 / 256 / 256 / 256 / 256 / 256 / 256) = 0 := rfl
  rw [e8, e9]
  omega

theorem swar_end (x x3 x4 x5 x6 : Nat) (h3 : x3 = s3 x) (h4 : x4 = x3 + x3 / 256) (h5 : x5 = x4 + x4 / 65536) (h6 : x6 = x5 + x5 / 4294967296) :
    x6 % 128 = popAux 64 x ∧ x3 < 1000000000000000000 ∧ x4 < 2000000000000000000 ∧ x5 < 4000000000000000000 ∧ x6 < 8000000000000000000 ∧ popAux 64 x ≤ 64 := by
  rw [pop64]
  unfold s3 at h3
  simp only [D] at h3
  have l0 := pop8_le (x % 256)
  have l1 := pop8_le (x / 256 % 256)
  have l2 := pop8_le (x / 256 / 256 % 256)
  have l3 := pop8_le (x / 256 / 256 / 256 % 256)
  have l4 := pop8_le (x / 256 / 256 / 256 / 256 % 256)
  have l5 := pop8_le (x / 256 / 256 / 256 / 256 / 256 % 256)
  have l6 := pop8_le (x / 256 / 256 / 256 / 256 / 256 / 256 % 256)
  have l7 := pop8_le (x / 256 / 256 / 256 / 256 / 256 / 256 / 256 % 256)
  generalize popAux 8 (x % 256) = c0 at *
  generalize popAux 8 (x / 256 % 256) = c1 at *
  generalize popAux 8 (x / 256 / 256 % 256) = c2 at *
  generalize popAux 8 (x / 256 / 256 / 256 % 256) = c3 at *
  generalize popAux 8 (x / 256 / 256 / 256 / 256 % 256) = c4 at *
  generalize popAux 8 (x / 256 / 256 / 256 / 256 / 256 % 256) = c5 at *
  generalize popAux 8 (x / 256 / 256 / 256 / 256 / 256 / 256 % 256) = c6 at *
  generalize popAux 8 (x / 256 / 256 / 256 / 256 / 256 / 256 / 256 % 256) = c7 at *
  have d3 : x3 / 256 = c1 + 256 * (c2 + 256 * (c3 + 256 * (c4 + 256 * (c5 + 256 * (c6 + 256 * c7))))) := by omega
  have d4 : x4 / 65536 = (c2 + c3) + 256 * ((c3 + c4) + 256 * ((c4 + c5) + 256 * ((c5 + c6) + 256 * ((c6 + c7) + 256 * c7)))) := by omega
  have d5 : x5 / 4294967296 = (c4 + c5 + c6 + c7) + 256 * ((c5 + c6 + c7) + 256 * ((c6 + c7) + 256 * c7)) := by omega
  refine ⟨?_, ?_, ?_, ?_, ?_, ?_⟩ <;> omega

end Bm

