import Derived.Test.YtopihgmemnokkaaGreatWalk22
namespace Go.Proofs.YtopihgmemnokkaaGreat
open Go.RowKit

/-- a script: a slice of steps, in old memory -/
structure Script (w : World) (v : Value) (n : Nat) : Prop where
  of : (v = .slice none 0 0 ∧ n = 0) ∨ ∃ a cap, v = .slice (some a) n cap ∧ n ≤ cap ∧ ∀ i, i < n → ∃ (K A B C : Int) (s : ByteArray),
    w.cell? (a.add (i * 5)) = some (.int .i64 K) ∧ w.cell? ((a.add (i * 5)).add 1) = some (.int .i64 A) ∧ w.cell? ((a.add (i * 5)).add 2) = some (.int .i64 B) ∧ w.cell? ((a.add (i * 5)).add 3) = some (.int .i64 C) ∧ w.cell? ((a.add (i * 5)).add 4) = some (.string s)

theorem add_pos (z : Addr) {k : Nat} (hk : k ≠ 0) : z.add k = ⟨z.block, z.off + k, none⟩ := by unfold Addr.add; rw [if_neg hk]
theorem add_block (a : Addr) (n : Nat) : (a.add n).block = a.block := by unfold Addr.add; split <;> rfl

set_option maxRecDepth 100000 in
set_option maxHeartbeats 2000000 in
theorem play_any (B0 : Nat) (b q r d : Value) (wb : Nat) (N : Nat) (v : Value) (n : Nat) (w : World) (L : LW B0 b q (.slice none 0 0) r (.slice none 0 0) d wb N w) (hB : B0 ≤ w.heap.size) (hS : Script w v n) (hlow : ∀ a, v.ownBlock = some a → 0 < n → a < B0) (hN : N + 4 * n ≤ 4900000) :
    Calls Tryz.prog 11 #[.pointer (some ⟨wb, 0, none⟩), v, .int .i64 3] w fun e w' => e = .returned (.bool true) ∧ Below B0 w w' := by
  obtain ⟨va, vc, hv⟩ : ∃ va vc, v = .slice va n vc := by
    rcases hS.of with ⟨rfl, rfl⟩ | ⟨a, cap, rfl, _⟩
    · exact ⟨_, _, rfl⟩
    · exact ⟨_, _, rfl⟩
  subst hv
  go_enter Tryz.func11, Tryz.ntmps11
  go_wp2
  go_loopw [7, 8, 9] (fun i _ _ wr => ∃ p : Nat, p ≤ n ∧ i = .int .i64 p ∧ LW B0 b q (.slice none 0 0) r (.slice none 0 0) d wb (N + 4 * p) wr ∧ Below B0 w wr) (fun i _ _ _ => n - (intOf i).toNat)
  case atStart => exact ⟨0, by omega, rfl, L, Below.refl _ _⟩
  case round =>
    clear L
    obtain ⟨p, hp, rfl, L, hb⟩ := hrel
    have hz := hb.size
    by_cases hlt : p < n
    · obtain ⟨a, rfl, hab, K, A, B, C, s, k0, k1, k2, k3, k4⟩ : ∃ a, va = some a ∧ a.block < B0 ∧ ∃ (K A B C : Int) (s : ByteArray), w.cell? (a.add (p * 5)) = some (.int .i64 K) ∧ w.cell? ((a.add (p * 5)).add 1) = some (.int .i64 A) ∧ w.cell? ((a.add (p * 5)).add 2) = some (.int .i64 B) ∧ w.cell? ((a.add (p * 5)).add 3) = some (.int .i64 C) ∧ w.cell? ((a.add (p * 5)).add 4) = some (.string s) := by
        rcases hS.of with ⟨_, h0⟩ | ⟨a, cap, e1, _, h1⟩
        · omega
        · injection e1 with e1
          subst e1
          exact ⟨a, rfl, hlow a.block rfl (by omega), h1 p hlt⟩
      have c0 := (hb.cell (p := a.add (p * 5)) (by rw [add_block]; exact hab)).trans k0
      have c1 := (hb.cell (p := (a.add (p * 5)).add 1) (by rw [add_block, add_block]; exact hab)).trans k1
      have c2 := (hb.cell (p := (a.add (p * 5)).add 2) (by rw [add_block, add_block]; exact hab)).trans k2
      have c3 := (hb.cell (p := (a.add (p * 5)).add 3) (by rw [add_block, add_block]; exact hab)).trans k3
      have c4 := (hb.cell (p := (a.add (p * 5)).add 4) (by rw [add_block, add_block]; exact hab)).trans k4
      clear k0 k1 k2 k3 k4
      rw [add_pos _ (by decide)] at c1 c2 c3 c4
      by_cases hK : 3 < K
      · go_wp2
        exact ⟨⟨p + 1, by omega, by go_num, L.more (by omega), hb⟩, by simp [intOf]; omega⟩
      · have hK3 : K ≤ 3 := by omega
        go_wp2_with fail
        refine (step_any B0 b q r _ d wb (N + 4 * p) wr L (by omega) (by omega) K A B C s hK3).mono ?_
        rintro e w1 ⟨rfl, L1, hb1⟩
        have hz1 := hb1.size
        clear c0 c1 c2 c3 c4
        go_wp2_with fail
        obtain ⟨h0, lv, mv, ls, ms, h1, h2, h3⟩ := L1
        refine (kept_any B0 wb b q _ r d lv mv ls ms w1 h1 h2 (by omega)).mono ?_
        rintro e w2 ⟨rfl, hst⟩
        have L2 : LW B0 b q (.slice none 0 0) r (.slice none 0 0) d wb (N + 4 * p + 4) w2 := LW.below ⟨h0, lv, mv, ls, ms, h1, h2, h3⟩ (still_below hst _ (Nat.le_refl _))
        have hb2 : Below B0 w w2 := (hb.trans hb1).trans (still_below hst _ (by omega))
        clear h1 h2 h3 hst
        go_wp2
        exact ⟨⟨p + 1, by omega, by go_num, L2.more (by omega), hb2⟩, by simp [intOf]; omega⟩
    · have hp' : p = n := by omega
      subst hp'
      go_wp2
      go_ret
      exact ⟨rfl, hb⟩

end Go.Proofs.YtopihgmemnokkaaGreat
