import Derived.Test.YtopihgmemnokkaaGreatBitLF
import Derived.Test.YtopihgmemnokkaaGreatSortKF
import Derived.Test.YtopihgmemnokkaaGreatMemF
import Derived.Deep.QuietTactic
import Derived.BigQuiet
import Derived.RegionTactic
import Derived.BigRegion
import Derived.Handy
import Derived.Deep.RegionHeld
namespace Go.Proofs.YtopihgmemnokkaaGreat
open Go.RowKit Go.Sort

set_option maxHeartbeats 400000 in
theorem cmpb_any (a b : Int) (w : World) :
    Calls Tryz.prog 181 #[.int .u8 a, .int .u8 b] w fun e w' => e = .returned (.int .i64 (if a < b then -1 else if a = b then 0 else 1)) ∧ w' = w := by
  have hn1 : (a != a) = false := by simp
  have hn2 : (b != b) = false := by simp
  by_cases h : a < b
  · go_enter Tryz.func181, Tryz.ntmps181
    go_wp2
    go_ret
    exact ⟨rfl, rfl⟩
  · by_cases h2 : a = b
    · subst h2
      go_enter Tryz.func181, Tryz.ntmps181
      go_wp2
      go_ret
      exact ⟨rfl, rfl⟩
    · have h3 : b < a := by omega
      go_enter Tryz.func181, Tryz.ntmps181
      go_wp2
      go_ret
      exact ⟨rfl, rfl⟩

set_option maxHeartbeats 1000000 in
theorem or_any (x y : Int) (g : Nat) (w : World) (c0 : w.cell? ⟨g, 0, none⟩ = some (.int .i64 x)) (c1 : w.cell? ⟨g, 1, none⟩ = some (.int .i64 y)) :
    Calls Tryz.prog 180 #[.slice (some ⟨g, 0, none⟩) 2 2] w fun e w' => e = .returned (.int .i64 (if x = 0 then y else x)) ∧ w' = w := by
  by_cases hx : x = 0
  · subst hx
    by_cases hy : y = 0
    · subst hy
      go_enter Tryz.func180, Tryz.ntmps180
      go_wp2
      go_rounds 3
      all_goals (go_ret; exact ⟨rfl, rfl⟩)
    · have hy2 : (y != 0) = true := by simpa using hy
      go_enter Tryz.func180, Tryz.ntmps180
      go_wp2
      go_rounds 3
      all_goals (go_ret; exact ⟨rfl, rfl⟩)
  · have hx2 : (x != 0) = true := by simpa using hx
    go_enter Tryz.func180, Tryz.ntmps180
    go_wp2
    go_rounds 3
    all_goals (go_ret; exact ⟨rfl, rfl⟩)

/-- how two numbers compare -/
def cmpI (a b : Int) : Int := if a < b then -1 else if a = b then 0 else 1
/-- how two trees compare -/
def cfT (f : Nat → Nat) (a b : Hf.T) : Int := if cmpI (Hf.wt f a : Nat) (Hf.wt f b : Nat) = 0 then cmpI (Hf.least a : Nat) (Hf.least b : Nat) else cmpI (Hf.wt f a : Nat) (Hf.wt f b : Nat)
theorem cfT_lt (f : Nat → Nat) (a b : Hf.T) : decide (cfT f a b < 0) = Hf.lt f a b := by
  unfold cfT cmpI Hf.lt
  rcases Nat.lt_trichotomy (Hf.wt f a) (Hf.wt f b) with h | h | h
  · have h1 : ((Hf.wt f a : Nat) : Int) < (Hf.wt f b : Nat) := by omega
    simp [h1, h]
  · rw [h]
    rcases Nat.lt_trichotomy (Hf.least a) (Hf.least b) with h2 | h2 | h2
    · have h3 : ((Hf.least a : Nat) : Int) < (Hf.least b : Nat) := by omega
      simp [h3, h2]
    · rw [h2]; simp
    · have h3 : ¬ ((Hf.least a : Nat) : Int) < (Hf.least b : Nat) := by omega
      have h4 : ¬ ((Hf.least a : Nat) : Int) = (Hf.least b : Nat) := by omega
      have h5 : ¬ Hf.least a < Hf.least b := by omega
      rw [if_pos (by simp), if_neg h3, if_neg h4]; simp [h5]
  · have h1 : ¬ ((Hf.wt f a : Nat) : Int) < (Hf.wt f b : Nat) := by omega
    have h2 : ¬ ((Hf.wt f a : Nat) : Int) = (Hf.wt f b : Nat) := by omega
    have h3 : ¬ Hf.wt f a < Hf.wt f b := by omega
    have h4 : ¬ Hf.wt f a = Hf.wt f b := by omega
    rw [if_neg h1, if_neg h2]; simp [h3, h4]

set_option maxRecDepth 100000 in
set_option maxHeartbeats 2000000 in
theorem order_any (f : Nat → Nat) (a b : Hf.T) (ba bb : Nat) (w : World) (ha : TreeAt f w a ba) (hb : TreeAt f w b bb) :
    Calls Tryz.prog 153 #[.pointer (some ⟨ba, 0, none⟩), .pointer (some ⟨bb, 0, none⟩)] w fun e w' => e = .returned (.int .i64 (cfT f a b)) ∧ ∃ q os, w' = grow (w.drewN q) os := by
  have a0 := ha.c0
  have a1 := ha.c1
  have b0 := hb.c0
  have b1 := hb.c1
  have hc1 := cmp_any (Hf.wt f a : Nat) (Hf.wt f b : Nat)
  have hc2 := cmpb_any (Hf.least a : Nat) (Hf.least b : Nat)
  have hfin : (if cmpI (Hf.wt f a : Nat) (Hf.wt f b : Nat) = 0 then cmpI (Hf.least a : Nat) (Hf.least b : Nat) else cmpI (Hf.wt f a : Nat) (Hf.wt f b : Nat)) = cfT f a b := rfl
  change ∀ w, Calls Tryz.prog 158 #[.int .i64 (Hf.wt f a : Nat), .int .i64 (Hf.wt f b : Nat)] w fun e w' => e = .returned (.int .i64 (cmpI (Hf.wt f a : Nat) (Hf.wt f b : Nat))) ∧ w' = w at hc1
  change ∀ w, Calls Tryz.prog 181 #[.int .u8 (Hf.least a : Nat), .int .u8 (Hf.least b : Nat)] w fun e w' => e = .returned (.int .i64 (cmpI (Hf.least a : Nat) (Hf.least b : Nat))) ∧ w' = w at hc2
  rw [← hfin]
  clear hfin ha hb
  generalize cmpI (Hf.wt f a : Nat) (Hf.wt f b : Nat) = X at *
  generalize cmpI (Hf.least a : Nat) (Hf.least b : Nat) = Y at *
  generalize Hf.wt f a = p at *
  generalize Hf.wt f b = q at *
  generalize Hf.least a = r at *
  generalize Hf.least b = s at *
  have hor := fun g W h0 h1 => or_any X Y g W h0 h1
  generalize (if X = 0 then Y else X) = R at *
  go_enter Tryz.func153, Tryz.ntmps153
  go_wp2
  have hS0 : w.drew.cell? ⟨ba, 0, none⟩ = some (.int .i64 (p : Nat)) ∧ w.drew.cell? ⟨ba, 1, none⟩ = some (.int .u8 (r : Nat)) ∧ w.drew.cell? ⟨bb, 0, none⟩ = some (.int .i64 (q : Nat)) ∧ w.drew.cell? ⟨bb, 1, none⟩ = some (.int .u8 (s : Nat)) := ⟨a0, a1, b0, b1⟩
  have kk : Kept (fun _ => False) w (w.alloc (.cells #[.int .i64 X, .int .i64 Y] 3)).drew := ((Kept.refl (fun _ => False) w).alloc _).drew
  have hS1 : (w.alloc (.cells #[.int .i64 X, .int .i64 Y] 3)).drew.cell? ⟨ba, 0, none⟩ = some (.int .i64 (p : Nat)) ∧ (w.alloc (.cells #[.int .i64 X, .int .i64 Y] 3)).drew.cell? ⟨ba, 1, none⟩ = some (.int .u8 (r : Nat)) ∧ (w.alloc (.cells #[.int .i64 X, .int .i64 Y] 3)).drew.cell? ⟨bb, 0, none⟩ = some (.int .i64 (q : Nat)) ∧ (w.alloc (.cells #[.int .i64 X, .int .i64 Y] 3)).drew.cell? ⟨bb, 1, none⟩ = some (.int .u8 (s : Nat)) :=
    ⟨cellK kk a0 (fun h => h), cellK kk a1 (fun h => h), cellK kk b0 (fun h => h), cellK kk b1 (fun h => h)⟩
  have hnew : (w.alloc (.cells #[.int .i64 X, .int .i64 Y] 3)).drew.heap[w.heap.size]? = some (.cells #[.int .i64 X, .int .i64 Y] 3 (0, 0)) := heap_alloc_new w _
  have n0 : (w.alloc (.cells #[.int .i64 X, .int .i64 Y] 3)).drew.cell? ⟨w.heap.size, 0, none⟩ = some (.int .i64 X) := by unfold World.cell?; rw [hnew]; rfl
  have n1 : (w.alloc (.cells #[.int .i64 X, .int .i64 Y] 3)).drew.cell? ⟨w.heap.size, 1, none⟩ = some (.int .i64 Y) := by unfold World.cell?; rw [hnew]; rfl
  have hgr : (w.alloc (.cells #[.int .i64 X, .int .i64 Y] 3)).drew = grow (w.drewN 1) #[.cells #[.int .i64 X, .int .i64 Y] 3] := by rw [alloc_eq_grow]; rfl
  have Hgr : Hid _ := hgr
  clear hnew kk hgr
  refine wp_region_held_drew (S := fun w' => w'.cell? ⟨ba, 0, none⟩ = some (.int .i64 (p : Nat)) ∧ w'.cell? ⟨ba, 1, none⟩ = some (.int .u8 (r : Nat)) ∧ w'.cell? ⟨bb, 0, none⟩ = some (.int .i64 (q : Nat)) ∧ w'.cell? ⟨bb, 1, none⟩ = some (.int .u8 (s : Nat))) (by kernel_rfl) hS0 (fun _ => ?_)
  refine wpAnyH_take (i := 0) (v := ?v0) rfl (by kernel_rfl) (by kernel_rfl) (by kernel_rfl) (fun _ _ _ h => h) (Or.inl ⟨by rfl, ?h0⟩) hS0 ?_
  case h0 => intro wq hS; obtain ⟨s1, s2, s3, s4⟩ := hS; go_simp; with_reducible rfl
  refine wpAnyH_take (i := 1) (v := ?v1) rfl (by kernel_rfl) (by kernel_rfl) (by kernel_rfl) (fun _ _ _ h => h) (Or.inl ⟨by rfl, ?h1⟩) hS0 ?_
  case h1 => intro wq hS; obtain ⟨s1, s2, s3, s4⟩ := hS; go_simp; with_reducible rfl
  refine wpAnyH_take (i := 2) (v := ?v2) rfl (by kernel_rfl) (by kernel_rfl) (by kernel_rfl) (fun _ _ _ h => h) (Or.inl ⟨by rfl, ?h2⟩) hS0 ?_
  case h2 => intro wq hS; obtain ⟨s1, s2, s3, s4⟩ := hS; go_simp; with_reducible rfl
  refine wpAnyH_take (i := 3) (v := ?v3) rfl (by kernel_rfl) (by kernel_rfl) (by kernel_rfl) (fun _ _ _ h => h) (Or.inl ⟨by rfl, ?h3⟩) hS0 ?_
  case h3 => intro wq hS; obtain ⟨s1, s2, s3, s4⟩ := hS; go_simp; with_reducible rfl
  refine wpAnyH_take (i := 4) (v := ?v4) rfl (by kernel_rfl) (by kernel_rfl) (by kernel_rfl) (fun _ _ _ h => h) (Or.inl ⟨by rfl, ?h4⟩) hS0 ?_
  case h4 => intro wq hS; obtain ⟨s1, s2, s3, s4⟩ := hS; go_simp; with_reducible rfl
  refine wpAnyH_take (i := 5) (v := ?v5) rfl (by kernel_rfl) (by kernel_rfl) (by kernel_rfl) (fun _ _ _ h => h) (Or.inl ⟨by rfl, ?h5⟩) hS0 ?_
  case h5 => intro wq hS; obtain ⟨s1, s2, s3, s4⟩ := hS; go_simp; with_reducible rfl
  refine wpAnyH_take (i := 6) (v := ?v6) rfl (by kernel_rfl) (by kernel_rfl) (by kernel_rfl) (fun _ _ _ h => h) (Or.inl ⟨by rfl, ?h6⟩) hS0 ?_
  case h6 => intro wq hS; obtain ⟨s1, s2, s3, s4⟩ := hS; go_simp; with_reducible rfl
  refine wpAnyH_take (i := 7) (v := ?v7) rfl (by kernel_rfl) (by kernel_rfl) (by kernel_rfl) (fun _ _ _ h => h) (Or.inl ⟨by rfl, ?h7⟩) hS0 ?_
  case h7 => intro wq hS; obtain ⟨s1, s2, s3, s4⟩ := hS; go_simp; with_reducible rfl
  refine wpAnyH_take (i := 9) (v := ?v9) rfl (by kernel_rfl) (by kernel_rfl) (by kernel_rfl) (fun _ _ _ h => h) (Or.inl ⟨by rfl, ?h9⟩) hS0 ?_
  case h9 => intro wq hS; obtain ⟨s1, s2, s3, s4⟩ := hS; go_simp; with_reducible rfl
  refine wpAnyH_take (i := 10) (v := ?v10) rfl (by kernel_rfl) (by kernel_rfl) (by kernel_rfl) (fun _ _ _ h => h) (Or.inl ⟨by rfl, ?h10⟩) hS0 ?_
  case h10 => intro wq hS; obtain ⟨s1, s2, s3, s4⟩ := hS; go_simp; with_reducible rfl
  refine wpAnyH_take (i := 11) (v := ?v11) rfl (by kernel_rfl) (by kernel_rfl) (by kernel_rfl) (fun _ _ _ h => h) (Or.inl ⟨by rfl, ?h11⟩) hS0 ?_
  case h11 => intro wq hS; obtain ⟨s1, s2, s3, s4⟩ := hS; go_simp; with_reducible rfl
  refine wpAnyH_take (i := 12) (v := ?v12) rfl (by kernel_rfl) (by kernel_rfl) (by kernel_rfl) (fun _ _ _ h => h) (Or.inl ⟨by rfl, ?h12⟩) hS0 ?_
  case h12 => intro wq hS; obtain ⟨s1, s2, s3, s4⟩ := hS; go_simp; with_reducible rfl
  refine wpAnyH_take (i := 13) (v := ?v13) rfl (by kernel_rfl) (by kernel_rfl) (by kernel_rfl) (fun _ _ _ h => h) (Or.inl ⟨by rfl, ?h13⟩) hS0 ?_
  case h13 => intro wq hS; obtain ⟨s1, s2, s3, s4⟩ := hS; go_simp; with_reducible rfl
  refine wpAnyH_take (i := 14) (v := ?v14) rfl (by kernel_rfl) (by kernel_rfl) (by kernel_rfl) (fun _ _ _ h => h) (Or.inl ⟨by rfl, ?h14⟩) hS0 ?_
  case h14 => intro wq hS; obtain ⟨s1, s2, s3, s4⟩ := hS; go_simp; with_reducible rfl
  refine wpAnyH_take (i := 15) (v := ?v15) rfl (by kernel_rfl) (by kernel_rfl) (by kernel_rfl) (fun _ _ _ h => h) (Or.inl ⟨by rfl, ?h15⟩) hS0 ?_
  case h15 => intro wq hS; obtain ⟨s1, s2, s3, s4⟩ := hS; go_simp; with_reducible rfl
  refine wpAnyH_take (i := 16) (v := ?v16) rfl (by kernel_rfl) (by kernel_rfl) (by kernel_rfl) (fun _ _ _ h => h) (Or.inl ⟨by rfl, ?h16⟩) hS0 ?_
  case h16 => intro wq hS; obtain ⟨s1, s2, s3, s4⟩ := hS; go_simp; with_reducible rfl
  refine wpAnyH_ready (rs := [8]) (by kernel_rfl) (by simp) ?_
  refine AllReadyH.cons rfl (fun K hK => ?_) AllReadyH.nil
  focus
    go_simp
    refine (hc1 _).mono ?_
    rintro e w' ⟨rfl, rfl⟩
    refine hK.out _ _ hS0 (fun _ => ?_)
    clear hK K
    refine wpAnyH_ready (rs := [17]) (by kernel_rfl) (by simp) ?_
    refine AllReadyH.cons rfl (fun K hK => ?_) AllReadyH.nil
    go_simp
    refine (hc2 _).mono ?_
    rintro e w' ⟨rfl, rfl⟩
    refine hK.out _ _ hS0 (fun _ => ?_)
    clear hK K
    refine wpAnyH_ready (rs := [18]) (by kernel_rfl) (by simp) ?_
    refine AllReadyH.cons rfl (fun K hK => ?_) AllReadyH.nil
    go_simp
    refine hK.out _ _ hS1 (fun _ => ?_)
    clear hK K
    refine wpAnyH_ready (rs := [19]) (by kernel_rfl) (by simp) ?_
    refine AllReadyH.cons rfl (fun K hK => ?_) AllReadyH.nil
    go_simp
    refine (hor w.heap.size _ n0 n1).mono ?_
    rintro e w' ⟨rfl, hw'⟩
    subst hw'
    refine hK.out _ _ hS1 (fun _ => ?_)
    clear hK K
    refine wpAnyH_take (i := 20) (v := ?v20) rfl (by kernel_rfl) (by kernel_rfl) (by kernel_rfl) (fun _ _ _ h => h) (Or.inl ⟨by rfl, ?h20⟩) hS1 ?_
    case h20 => intro wq hS; first | (go_simp; done) | (go_simp; with_reducible rfl)
    refine wpAnyH_done (by kernel_rfl) ?_ _
    go_wp2
    go_ret
    exact ⟨rfl, 1, _, Hgr.out⟩

end Go.Proofs.YtopihgmemnokkaaGreat

