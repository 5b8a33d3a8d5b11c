import Derived.Test.YtopihgmemnokkaaGreatKeepW2F
import Derived.Test.YtopihgmemnokkaaGreatIntsF
import Derived.Deep.RegionHeld
namespace Go.Proofs.YtopihgmemnokkaaGreat
open Go.RowKit

theorem addPs (z : Addr) {k : Nat} (hk : k ≠ 0) : z.add k = ⟨z.block, z.off + k, none⟩ := by unfold Addr.add; rw [if_neg hk]
theorem addBlk (a : Addr) (n : Nat) : (a.add n).block = a.block := by unfold Addr.add; split <;> rfl

set_option maxRecDepth 100000 in
set_option maxHeartbeats 4000000 in
theorem keepGives_any {PI : Lay} (hI : PI.Ok) (hS : PI.Says) (t0 : ByteArray) (rate : Int) (h1 : -9223372036854775808 ≤ rate) (h2 : rate ≤ 9223372036854775807) (cv : Value) (m : Nat) (w : World) (hC : IntsIn w cv m) :
    Calls Tryz.prog 7 #[.string t0, .int .i64 rate, cv] w fun e w' => e = .returned (.bool true) ∧ Below w.heap.size w w' := by
  obtain ⟨ca, cc, rfl⟩ : ∃ ca cc, cv = .slice ca m cc := by
    rcases hC with ⟨rfl, rfl⟩ | ⟨a, cap, rfl, _⟩
    · exact ⟨_, _, rfl⟩
    · exact ⟨_, _, rfl⟩
  go_enter Tryz.func7, Tryz.ntmps7
  go_wp2_with fail
  refine (cut_any t0 1000 _ (by omega)).mono ?_
  rintro e w' ⟨rfl, rfl⟩
  have hs := cutS_size t0 1000
  generalize cutS t0 1000 = t at *
  go_wp2_with fail
  refine (kindex_any hI hS t hs rate h1 h2 _).mono ?_
  rintro e w1 ⟨b, rt, rfl, hok, hP1, hB1⟩
  have HP1 : Hid (PI w'.heap.size w1.heap.size b t rt w1) := hP1
  have HB1 : Hid (Below w'.heap.size w' w1) := hB1
  have HOK : Hid (BuildOk t rt) := hok
  have HC : Hid (IntsIn w' (.slice ca m cc) m) := hC
  clear hP1 hB1 hok hC
  have hex := hS.extract w'.heap.size w1.heap.size b t rt 0 (t.size : Nat) w1 HP1.out HOK.out (by omega) (by omega)
  go_wp2_with fail
  refine hex.mono ?_
  rintro e w2 ⟨⟨s, n, rfl, hA⟩, hB2⟩
  obtain ⟨rfl, rfl⟩ : s = t ∧ n = 0 := by
    rcases hA with ⟨_, _, _, hs2, hn⟩ | ⟨hn, _⟩
    · refine ⟨hs2.trans ?_, hn⟩
      simp
    · exact absurd ⟨by omega, by omega, by omega⟩ hn
  have hz1 := HB1.out.size
  have HB2 : Hid (Below w'.heap.size w' w2) := HB1.out.trans (hB2.mono hz1)
  have HP2 : Hid (PI w'.heap.size w1.heap.size b s rt w2) := hI.keep (fun _ => False) _ _ _ _ _ _ _ HP1.out (Kept.of_below hB2 (Nat.le_refl _) (fun _ => False)) (fun _ _ _ h => h)
  clear hex hA hB2 HP1 HB1
  go_wp2
  go_loopw [10, 11, 12, 13, 14, 15, 16, 17] (fun iv _ _ _ _ _ _ _ wr => ∃ i : Nat, i ≤ 41 ∧ iv = .int .i64 i ∧ Hid (PI w'.heap.size w1.heap.size b s rt wr) ∧ Hid (Below w'.heap.size w' wr)) (fun iv _ _ _ _ _ _ _ _ => 42 - (intOf iv).toNat)
  case atStart => exact ⟨0, by omega, rfl, HP2, HB2⟩
  case round =>
    clear HP2 HB2
    obtain ⟨i, hi, rfl, HP, HB⟩ := hrel
    by_cases hlt : i + 1 < m
    · by_cases h40 : i < 40
      · obtain ⟨a, rfl, x, y, hx0, hx1, hx2, hy0, hy1, hy2⟩ : ∃ a, ca = some a ∧ ∃ x y : Int, w'.cell? (a.add i) = some (.int .i64 x) ∧ -9223372036854775808 ≤ x ∧ x ≤ 9223372036854775807 ∧ w'.cell? (a.add (i + 1)) = some (.int .i64 y) ∧ -9223372036854775808 ≤ y ∧ y ≤ 9223372036854775807 := by
          rcases HC.out with ⟨_, h0⟩ | ⟨a, cap, e1, h3⟩
          · omega
          · injection e1 with e1
            subst e1
            obtain ⟨x, h4, h5, h6⟩ := h3 i (by omega)
            obtain ⟨y, h7, h8, h9⟩ := h3 (i + 1) hlt
            exact ⟨a, rfl, x, y, h4, h5, h6, h7, h8, h9⟩
        have hab := cell_block hx0
        rw [addBlk] at hab
        have kx := (HB.out.cell (p := a.add i) (by rw [addBlk]; exact hab)).trans hx0
        have ky := (HB.out.cell (p := a.add (i + 1)) (by rw [addBlk]; exact hab)).trans hy0
        have d0 : (i : Int) + 1 < (m : Int) := by omega
        have d1 : (i : Int) < 40 := by omega
        have d2 : (i : Int) < (m : Int) := by omega
        clear hx0 hy0
        rw [addPs a (show i + 1 ≠ 0 by omega)] at ky
        go_wp2_with fail
        refine (pick_any x ((s.size : Int) + 1) _ hx1 hx2 (by omega) (by omega)).mono ?_
        rintro e wp ⟨⟨u, rfl, hu⟩, rfl⟩
        have hu2 : u ≤ s.size := by omega
        have hu3 : (u : Int) ≤ (s.size : Int) := by omega
        go_wp2_with fail
        refine (pick_any y ((s.size : Int) - (u : Int) + 1) _ hy1 hy2 (by omega) (by omega)).mono ?_
        rintro e wq ⟨⟨v, rfl, hv⟩, rfl⟩
        have hv2 : u + v ≤ s.size := by omega
        have hv3 : (u : Int) + (v : Int) ≤ (s.size : Int) := by omega
        have hex := hS.extract w'.heap.size w1.heap.size b s rt (u : Nat) ((u : Int) + (v : Int)) wq HP.out HOK.out (by omega) (by omega)
        go_wp2_with fail
        refine hex.mono ?_
        rintro e w3 ⟨⟨p, n, rfl, hA⟩, hB3⟩
        obtain ⟨rfl, rfl⟩ : p = s.extract u (u + v) ∧ n = 0 := by
          rcases hA with ⟨_, _, _, hs2, hn⟩ | ⟨hn, _⟩
          · refine ⟨hs2.trans ?_, hn⟩
            have e1 : ((u : Int) + (v : Int)).toNat = u + v := by omega
            rw [e1]; simp
          · exact absurd ⟨by omega, by omega, by omega⟩ hn
        have hz3 := HB.out.size
        have HB3 : Hid (Below w'.heap.size w' w3) := HB.out.trans (hB3.mono hz3)
        have HP3 : Hid (PI w'.heap.size w1.heap.size b s rt w3) := hI.keep (fun _ => False) _ _ _ _ _ _ _ HP.out (Kept.of_below hB3 (Nat.le_refl _) (fun _ => False)) (fun _ _ _ h => h)
        have hx3 : w3.cell? (a.add i) = some (.int .i64 x) := (hB3.cell (p := a.add i) (cell_block kx)).trans kx
        have hy3 : w3.cell? ⟨a.block, a.off + (i + 1), none⟩ = some (.int .i64 y) := (hB3.cell (p := ⟨a.block, a.off + (i + 1), none⟩) (cell_block ky)).trans ky
        clear hex hA hB3 kx ky HP HB
        have HP3d : Hid (PI w'.heap.size w1.heap.size b s rt w3.drew) := hI.keep (fun _ => False) _ _ _ _ _ _ _ HP3.out ((Kept.refl _ _).drew) (fun _ _ _ h => h)
        have HEX : Hid (Calls Tryz.prog 18 #[.pointer (some ⟨b, 0, none⟩), .int .i64 x, .int .i64 y] w3.drew fun e W => (∃ (q : ByteArray) (n : Int), e = .returned (.tuple #[.string q, .int .i64 n]) ∧ ExtAns s x y q n) ∧ PI w'.heap.size w1.heap.size b s rt W ∧ Below w'.heap.size w' W ∧ (W.cell? (a.add i) = some (.int .i64 x) ∧ W.cell? ⟨a.block, a.off + (i + 1), none⟩ = some (.int .i64 y))) :=
          (hS.extract w'.heap.size w1.heap.size b s rt x y w3.drew HP3d.out HOK.out ⟨hx1, hx2⟩ ⟨hy1, hy2⟩).mono fun e W ⟨k1, k2⟩ => ⟨k1, hI.keep (fun _ => False) _ _ _ _ _ _ _ HP3d.out (Kept.of_below k2 (Nat.le_refl _) (fun _ => False)) (fun _ _ _ h => h), HB3.out.trans ((below_drewN (Below.refl w3.heap.size w3) 1).trans k2 |>.mono HB3.out.size), (k2.cell (p := a.add i) (cell_block hx3)).trans hx3, (k2.cell (p := ⟨a.block, a.off + (i + 1), none⟩) (cell_block hy3)).trans hy3⟩
        have s0 : w3.drew.cell? (a.add i) = some (.int .i64 x) ∧ w3.drew.cell? ⟨a.block, a.off + (i + 1), none⟩ = some (.int .i64 y) := ⟨hx3, hy3⟩
        have hwr : IntKind.i64.wrap ((i : Int) + 1) = (i : Int) + 1 := by unfold IntKind.wrap; simp [IntKind.bits, IntKind.signed]; omega
        have hi0 : (0 : Int) ≤ (i : Int) + 1 := by omega
        have hi1 : (0 : Int) ≤ (i : Int) := by omega
        clear HP3 HP3d HB3
        go_wp2_with fail
        go_region_held3 (fun W => W.cell? (a.add i) = some (.int .i64 x) ∧ W.cell? ⟨a.block, a.off + (i + 1), none⟩ = some (.int .i64 y)) (assumption) ((go_at_call 18; refine HEX.out.mono ?_; rintro e w4 ⟨⟨q, n4, rfl, hA4⟩, hP4, hB4, hS4⟩))
        have HP4 : Hid (PI w'.heap.size w1.heap.size b s rt w4) := hP4
        have HB4 : Hid (Below w'.heap.size w' w4) := hB4
        have HA4 : Hid (ExtAns s x y q n4) := hA4
        clear hP4 hB4 hA4 HEX s0 hx3 hy3
        obtain ⟨hx5, hy5⟩ := hS4
        by_cases c1 : 0 ≤ x
        · by_cases c2 : x ≤ y
          · by_cases c3 : y ≤ (s.size : Int)
            · have k1 : decide (0 ≤ x) = true := decide_eq_true c1
              have k2 : decide (x ≤ y) = true := decide_eq_true c2
              have k3 : decide (y ≤ (s.size : Int)) = true := decide_eq_true c3
              obtain ⟨rfl⟩ : n4 = 0 := by
                rcases HA4.out with ⟨_, _, _, _, hn⟩ | ⟨hn, _⟩
                · exact hn
                · exact absurd ⟨by omega, by omega, by omega⟩ hn
              go_wp2_with fail
              go_region
              go_wp2
              exact ⟨⟨i + 2, by omega, by go_num, hI.keep (fun _ => False) _ _ _ _ _ _ _ HP4.out ((Kept.refl _ _).drew) (fun _ _ _ h => h), below_drewN HB4.out 1⟩, by simp [intOf]; omega⟩
            · have k1 : decide (0 ≤ x) = true := decide_eq_true c1
              have k2 : decide (x ≤ y) = true := decide_eq_true c2
              have k3 : decide (y ≤ (s.size : Int)) = false := decide_eq_false c3
              obtain ⟨rfl, rfl⟩ : q = ByteArray.empty ∧ n4 = 3 := by
                rcases HA4.out with ⟨_, _, _, _, _⟩ | ⟨_, hq, hn⟩
                · omega
                · exact ⟨hq, hn⟩
              go_wp2_with fail
              go_region
              go_wp2
              exact ⟨⟨i + 2, by omega, by go_num, hI.keep (fun _ => False) _ _ _ _ _ _ _ HP4.out ((Kept.refl _ _).drew) (fun _ _ _ h => h), below_drewN HB4.out 1⟩, by simp [intOf]; omega⟩
          · have k1 : decide (0 ≤ x) = true := decide_eq_true c1
            have k2 : decide (x ≤ y) = false := decide_eq_false c2
            obtain ⟨rfl, rfl⟩ : q = ByteArray.empty ∧ n4 = 3 := by
              rcases HA4.out with ⟨_, _, _, _, _⟩ | ⟨_, hq, hn⟩
              · omega
              · exact ⟨hq, hn⟩
            go_wp2_with fail
            go_region
            go_wp2
            exact ⟨⟨i + 2, by omega, by go_num, hI.keep (fun _ => False) _ _ _ _ _ _ _ HP4.out ((Kept.refl _ _).drew) (fun _ _ _ h => h), below_drewN HB4.out 1⟩, by simp [intOf]; omega⟩
        · have k1 : decide (0 ≤ x) = false := decide_eq_false c1
          obtain ⟨rfl, rfl⟩ : q = ByteArray.empty ∧ n4 = 3 := by
            rcases HA4.out with ⟨_, _, _, _, _⟩ | ⟨_, hq, hn⟩
            · omega
            · exact ⟨hq, hn⟩
          go_wp2_with fail
          go_region
          go_wp2
          exact ⟨⟨i + 2, by omega, by go_num, hI.keep (fun _ => False) _ _ _ _ _ _ _ HP4.out ((Kept.refl _ _).drew) (fun _ _ _ h => h), below_drewN HB4.out 1⟩, by simp [intOf]; omega⟩
      · have d1 : ¬ (i : Int) < 40 := by omega
        have d0 : (i : Int) + 1 < (m : Int) := by omega
        go_wp2
        go_ret
        exact ⟨rfl, HB.out⟩
    · have d0 : ¬ (i : Int) + 1 < (m : Int) := by omega
      go_wp2
      go_ret
      exact ⟨rfl, HB.out⟩

end Go.Proofs.YtopihgmemnokkaaGreat

