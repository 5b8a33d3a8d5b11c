import Derived.Test.YtopihgmemnokkaaGreatMemF
import Derived.Test.YtopihgmemnokkaaGreatBitmF
import Derived.Laws.BitsAllLaws
import Derived.Laws.Bits64b
import Derived.Laws.Bits128
namespace Go.Proofs.YtopihgmemnokkaaGreat
open Go.RowKit

theorem wrap_nat {a b : Int} (n : Nat) (h : a + b = (n : Nat)) (hn : n < 18446744073709551616) : IntKind.u64.wrap (a + b) = (n : Nat) := by
  rw [h, IntKind.wrap_u64]; omega

theorem ones_num (x : Nat) (hx : x < 18446744073709551616) : ∀ x1 x2 x3 x4 x5 x6 : Int, x1 = IntKind.u64.wrap (bits .and .u64 ((x : Int) / 2) 6148914691236517205 + bits .and .u64 (x : Int) 6148914691236517205) →
    x2 = IntKind.u64.wrap (bits .and .u64 (x1 / 4) 3689348814741910323 + bits .and .u64 x1 3689348814741910323) → x3 = bits .and .u64 (IntKind.u64.wrap (x2 / 16 + x2)) 1085102592571150095 →
    x4 = IntKind.u64.wrap (x3 + x3 / 256) → x5 = IntKind.u64.wrap (x4 + x4 / 65536) → x6 = IntKind.u64.wrap (x5 + x5 / 4294967296) → bits .and .i64 (wrap64 x6) 127 = (Lib.popAux 64 x : Nat) := by
  intro x1 x2 x3 x4 x5 x6 h1 h2 h3 h4 h5 h6
  have A := fun (a b : Nat) (ha : a < 18446744073709551616) (hb : b < 18446744073709551616) => bits_and_u64_nat a b ha hb
  obtain ⟨s1, s2, s3⟩ := Bm.swar3 x _ _ rfl rfl
  have l1 := Bm.D_lt Bm.g1 (fun c hc => (Bm.k3 ⟨c, hc⟩).1) 8 x
  have l2 := Bm.D_lt (fun c => Bm.g2 (Bm.g1 c)) (fun c hc => (Bm.k3 ⟨c, hc⟩).2.1) 8 x
  have l3 : Bm.D (fun c => Bm.g2 (Bm.g1 c)) 8 x % 256 ≤ 68 ∧ Bm.D (fun c => Bm.g2 (Bm.g1 c)) 8 x < 69 * 72057594037927936 := by
    have hd : ∀ c, c < 256 → Bm.g2 (Bm.g1 c) ≤ 68 := fun c hc => by have := (Bm.k3 ⟨c, hc⟩).2.2; simp only at this; omega
    have hall : ∀ k y, Bm.D (fun c => Bm.g2 (Bm.g1 c)) (k + 1) y < 69 * 256 ^ k := by
      intro k
      induction k with
      | zero => intro y; have := hd (y % 256) (by omega); simp only [Bm.D]; omega
      | succ k ih =>
        intro y
        have h1 := ih (y / 256)
        have h2 := hd (y % 256) (by omega)
        rw [Bm.D, Nat.pow_succ]
        generalize Bm.D (fun c => Bm.g2 (Bm.g1 c)) (k + 1) (y / 256) = z at *
        omega
    refine ⟨?_, hall 7 x⟩
    have := hd (x % 256) (by omega)
    simp only [Bm.D]; omega
  have q1 : (x : Int) / 2 = ((x / 2 : Nat) : Int) := by omega
  rw [q1, show (6148914691236517205 : Int) = ((6148914691236517205 : Nat) : Int) from rfl, A _ _ (by omega) (by omega), A _ _ (by omega) (by omega), wrap_nat _ (by rw [← Int.natCast_add]) (by rw [s2]; exact l1)] at h1
  generalize hx1 : (x / 2 &&& 6148914691236517205) + (x &&& 6148914691236517205) = X1 at *
  have b1 : X1 < 18446744073709551616 := by rw [s2]; exact l1
  have q2 : x1 / 4 = ((X1 / 4 : Nat) : Int) := by omega
  rw [q2, h1, show (3689348814741910323 : Int) = ((3689348814741910323 : Nat) : Int) from rfl, A _ _ (by omega) (by omega), A _ _ (by omega) (by omega), wrap_nat _ (by rw [← Int.natCast_add]) (by rw [s3]; exact l2)] at h2
  generalize hx2 : (X1 / 4 &&& 3689348814741910323) + (X1 &&& 3689348814741910323) = X2 at *
  have b2 : X2 < 69 * 72057594037927936 := by rw [s3]; exact l3.2
  have q3 : IntKind.u64.wrap (x2 / 16 + x2) = ((X2 / 16 + X2 : Nat) : Int) := wrap_nat _ (by omega) (by omega)
  rw [q3, show (1085102592571150095 : Int) = ((1085102592571150095 : Nat) : Int) from rfl, A _ _ (by omega) (by omega), s1] at h3
  obtain ⟨e0, e3, e4, e5, e6, e7⟩ := Bm.swar_end x _ _ _ _ rfl rfl rfl rfl
  generalize hX3 : Bm.s3 x = X3 at *
  have r4 : x4 = ((X3 + X3 / 256 : Nat) : Int) := by rw [h4]; exact wrap_nat _ (by omega) (by omega)
  have r5 : x5 = ((X3 + X3 / 256 + (X3 + X3 / 256) / 65536 : Nat) : Int) := by rw [h5]; exact wrap_nat _ (by omega) (by omega)
  generalize hX4 : X3 + X3 / 256 = X4 at *
  generalize hX5 : X4 + X4 / 65536 = X5 at *
  have r6 : x6 = ((X5 + X5 / 4294967296 : Nat) : Int) := by rw [h6]; exact wrap_nat _ (by omega) (by omega)
  generalize hX6 : X5 + X5 / 4294967296 = X6 at *
  have r7 : wrap64 x6 = (X6 : Nat) := by rw [r6]; simp only [wrap64]; omega
  rw [r7, i64_and127]
  omega

set_option maxHeartbeats 1000000 in
theorem onesCount_any (x : Nat) (w : World) (hx : x < 18446744073709551616) :
    Calls Tryz.prog 139 #[.int .u64 (x : Nat)] w fun e w' => e = .returned (.int .i64 (Lib.popAux 64 x : Nat)) ∧ w' = w := by
  go_enter Tryz.func139, Tryz.ntmps139
  go_wp2
  go_ret
  exact ⟨ret_int (ones_num x hx _ _ _ _ _ _ rfl rfl rfl rfl rfl rfl), rfl⟩

end Go.Proofs.YtopihgmemnokkaaGreat

