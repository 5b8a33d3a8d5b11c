import Derived.Test.YtopihgmemnokkaaGreatRefC1C
import Derived.Deep.RegionHeld3
namespace Go.Proofs.YtopihgmemnokkaaGreat
open Go.RowKit Go.Shelf Go.Lib

/-- a row of the document's trees: block g -/
def GRow (f : Nat → Nat) (w : World) (g : Nat) (ts : List Hf.T) : Prop :=
  ∀ i t, ts[i]? = some t → ∃ v1 v2, w.cell? ⟨g, i * 3, none⟩ = some (.int .i64 (Hf.wt f t : Nat)) ∧ w.cell? ⟨g, i * 3 + 1, none⟩ = some v1 ∧ w.cell? ⟨g, i * 3 + 2, none⟩ = some v2 ∧ GV w t v1 v2
theorem GRow.below {f : Nat → Nat} {w w' : World} {g : Nat} {ts : List Hf.T} (h : GRow f w g ts) (hb : Below w.heap.size w w') : GRow f w' g ts := by
  intro i t ht
  obtain ⟨v1, v2, h1, h2, h3, h4⟩ := h i t ht
  have hk := Kept.of_below hb (Nat.le_refl _) (fun _ => False)
  exact ⟨v1, v2, cellK hk h1 (fun h => h), cellK hk h2 (fun h => h), cellK hk h3 (fun h => h), h4.below hb⟩

/-- trees that can be told apart -/
structure Forest (ts : List Hf.T) : Prop where
  ne : ∀ (i j : Nat) (a b : Hf.T), ts[i]? = some a → ts[j]? = some b → i ≠ j → Hf.least a ≠ Hf.least b
  bd : ∀ t ∈ ts, ∀ c ∈ Hf.bytes t, c ≤ 255
  len : ∀ t ∈ ts, (Hf.paths t).length ≤ 100000

/-- the tree that goes first of the first n, but for one place -/
def FirstOf (f : Nat → Nat) (ts : List Hf.T) (but : Int) (n : Nat) (b : Nat) : Prop :=
  b < n ∧ (b : Int) ≠ but ∧ ∀ j, j < n → (j : Int) ≠ but → j ≠ b → ∀ x y, ts[b]? = some x → ts[j]? = some y → Hf.lt f x y = true

theorem FirstOf.skip {f : Nat → Nat} {ts : List Hf.T} {but : Int} {n b : Nat} (h : FirstOf f ts but n b) (hn : (n : Int) = but) : FirstOf f ts but (n + 1) b :=
  ⟨by have := h.1; omega, h.2.1, fun j hj hb hne => h.2.2 j (by omega) hb hne⟩
theorem FirstOf.stay {f : Nat → Nat} {ts : List Hf.T} {but : Int} {n b : Nat} (h : FirstOf f ts but n b) {x y : Hf.T} (hx : ts[b]? = some x) (hy : ts[n]? = some y) (hl : Hf.lt f x y = true) : FirstOf f ts but (n + 1) b := by
  refine ⟨by have := h.1; omega, h.2.1, fun j hj hb hne u v hu hv => ?_⟩
  rcases Nat.lt_or_ge j n with h1 | h1
  · exact h.2.2 j h1 hb hne u v hu hv
  · have : j = n := by omega
    subst this
    rw [hx] at hu
    rw [hy] at hv
    cases hu; cases hv; exact hl
theorem FirstOf.turn {f : Nat → Nat} {ts : List Hf.T} {but : Int} {n b : Nat} (h : FirstOf f ts but n b) (hnb : (n : Int) ≠ but) {x y : Hf.T} (hx : ts[b]? = some x) (hy : ts[n]? = some y) (hl : Hf.lt f y x = true) : FirstOf f ts but (n + 1) n := by
  refine ⟨by omega, hnb, fun j hj hb hne u v hu hv => ?_⟩
  rw [hy] at hu
  cases hu
  by_cases e : j = b
  · subst e
    rw [hx] at hv
    cases hv; exact hl
  · exact Hf.lt_trans hl (h.2.2 j (by omega) hb e x v hx hv)

set_option maxRecDepth 100000 in
set_option maxHeartbeats 4000000 in
theorem first_any (f : Nat → Nat) (ts : List Hf.T) (g cap : Nat) (but : Int) (w : World) (hR : GRow f w g ts) (hF : Forest ts) (hlen : ts.length ≤ 256) (hex : ∃ i, i < ts.length ∧ (i : Int) ≠ but) (hwt : ∀ t ∈ ts, Hf.wt f t ≤ 1000000) :
    Calls Tryz.prog 136 #[.slice (some ⟨g, 0, none⟩) ts.length cap, .int .i64 but] w fun e w' => (∃ b : Nat, e = .returned (.int .i64 (b : Nat)) ∧ FirstOf f ts but ts.length b) ∧ Below w.heap.size w w' := by
  have HR : Hid (GRow f w g ts) := hR
  have HF : Hid (Forest ts) := hF
  have HE : Hid (∃ i, i < ts.length ∧ (i : Int) ≠ but) := hex
  have HW : Hid (∀ t ∈ ts, Hf.wt f t ≤ 1000000) := hwt
  clear hR hF hex hwt
  generalize hL : ts.length = L at *
  have HL : Hid (ts.length = L) := hL
  clear hL
  go_enter Tryz.func136, Tryz.ntmps136
  go_wp2
  go_loopw [5, 6] (fun bv iv wr => ∃ i : Nat, i ≤ L ∧ iv = .int .i64 i ∧ Hid (Below w.heap.size w wr) ∧ ((bv = .int .i64 (-1) ∧ Hid (∀ j : Nat, j < i → (j : Int) = but)) ∨ ∃ b : Nat, bv = .int .i64 b ∧ b < L ∧ Hid (FirstOf f ts but i b))) (fun _ iv _ => L - (intOf iv).toNat)
  case atStart => exact ⟨0, by omega, rfl, Below.refl _ _, .inl ⟨rfl, fun j h => by omega⟩⟩
  case round =>
    obtain ⟨i, hi, rfl, BL, hst⟩ := hrel
    by_cases hlt : i < L
    · have hli : (i : Int) < (L : Int) := by omega
      by_cases hbut : (i : Int) = but
      · have d1 : ((i : Int) == but) = true := by simp [hbut]
        have HBT : Hid ((i : Int) = but) := hbut
        clear hbut
        rcases hst with ⟨rfl, h1⟩ | ⟨b, rfl, hbL, h1⟩
        · go_wp2
          exact ⟨⟨i + 1, by omega, by go_num, BL, .inl ⟨rfl, fun j hj => by
            rcases Nat.lt_or_ge j i with h | h
            · exact h1.out j h
            · have : j = i := by omega
              subst this; exact HBT.out⟩⟩, by simp [intOf]; omega⟩
        · go_wp2
          exact ⟨⟨i + 1, by omega, by go_num, BL, .inr ⟨b, rfl, hbL, h1.out.skip HBT.out⟩⟩, by simp [intOf]; omega⟩
      · have d1 : ((i : Int) == but) = false := beq_eq_false_iff_ne.2 hbut
        have HBT : Hid ((i : Int) ≠ but) := hbut
        clear hbut
        rcases hst with ⟨rfl, h1⟩ | ⟨b, rfl, hbL, h1⟩
        · go_wp2
          go_quiet (fail)
          have BL2 := below_drewN BL.out nq
          go_wp2
          refine ⟨⟨i + 1, by omega, by go_num, BL2, .inr ⟨i, rfl, hlt, by omega, HBT.out, fun j hj hjb hne => ?_⟩⟩, by simp [intOf]; omega⟩
          have := h1.out j (by omega)
          exact absurd this hjb
        · obtain ⟨y, hy⟩ : ∃ y, ts[i]? = some y := ⟨_, List.getElem?_eq_getElem (by rw [HL.out]; exact hlt)⟩
          obtain ⟨x, hx⟩ : ∃ x, ts[b]? = some x := ⟨_, List.getElem?_eq_getElem (by rw [HL.out]; exact hbL)⟩
          obtain ⟨p1, p2, y0, y1, y2, y3⟩ := HR.out i y hy
          obtain ⟨q1, q2, x0, x1, x2, x3⟩ := HR.out b x hx
          have hwy := HW.out y (List.mem_of_getElem? hy)
          have hwx := HW.out x (List.mem_of_getElem? hx)
          have hk := Kept.of_below BL.out (Nat.le_refl _) (fun _ => False)
          have y0 := cellK hk y0 (fun h => h)
          have x0 := cellK hk x0 (fun h => h)
          have hbi : (b : Int) < (L : Int) := by omega
          have d2 : decide ((b : Int) < 0) = false := by simp
          have HFI : Hid (FirstOf f ts but i b) := h1
          have HX : Hid (ts[b]? = some x) := hx
          have HY : Hid (ts[i]? = some y) := hy
          have y1' := cellK hk y1 (fun h => h)
          have y2' := cellK hk y2 (fun h => h)
          have x1' := cellK hk x1 (fun h => h)
          have x2' := cellK hk x2 (fun h => h)
          have YV : Hid (GV w y p1 p2) := y3
          have XV : Hid (GV w x q1 q2) := x3
          clear hy hx hk y1 y2 y3 x1 x2 x3
          rename_i hx0_ hy0_
          rcases Nat.lt_trichotomy (Hf.wt f y) (Hf.wt f x) with hc | hc | hc
          · have HLT : Hid (Hf.lt f y x = true) := (Hf.lt_iff f y x).2 (.inl hc)
            generalize Hf.wt f y = wy at *
            generalize Hf.wt f x = wx at *
            have d3 : decide ((wy : Int) < (wx : Int)) = true := by simp; omega
            clear y1' y2' x1' x2'
            go_wp2
            go_quiet (fail)
            have BL2 := below_drewN BL.out nq
            go_wp2
            exact ⟨⟨i + 1, by omega, by go_num, BL2, .inr ⟨i, rfl, hlt, HFI.out.turn HBT.out HX.out HY.out HLT.out⟩⟩, by simp [intOf]; omega⟩
          · have hne := HF.out.ne i b y x HY.out HX.out (by have := HFI.out.1; omega)
            have LY := fun W (hW : Below wr.heap.size wr W) => lowest_any y (Hf.wt f y : Nat) p1 p2 W ((YV.out.below BL.out).below hW) (HF.out.len y (List.mem_of_getElem? HY.out)) (HF.out.bd y (List.mem_of_getElem? HY.out))
            have LX := fun W (hW : Below wr.heap.size wr W) => lowest_any x (Hf.wt f x : Nat) q1 q2 W ((XV.out.below BL.out).below hW) (HF.out.len x (List.mem_of_getElem? HX.out)) (HF.out.bd x (List.mem_of_getElem? HX.out))
            have BY1 := HF.out.bd y (List.mem_of_getElem? HY.out) _ (Hf.least_mem y)
            have BX1 := HF.out.bd x (List.mem_of_getElem? HX.out) _ (Hf.least_mem x)
            have HA : Hid (Hf.least y < Hf.least x → FirstOf f ts but (i + 1) i) := fun h => HFI.out.turn HBT.out HX.out HY.out ((Hf.lt_iff f y x).2 (.inr ⟨hc, h⟩))
            have HBb : Hid (¬ Hf.least y < Hf.least x → FirstOf f ts but (i + 1) b) := fun h => HFI.out.stay HX.out HY.out ((Hf.lt_iff f x y).2 (.inr ⟨hc.symm, by omega⟩))
            rw [hc] at y0 LY
            clear hwy hc hne HFI YV XV HF
            generalize Hf.wt f x = wx at *
            generalize Hf.least y = ly at *
            generalize Hf.least x = lx at *
            have d3 : decide ((wx : Int) < (wx : Int)) = false := by simp
            have d4 : ((wx : Int) == (wx : Int)) = true := by simp
            have KEEP : ∀ W, Below wr.heap.size wr W → (W.cell? ⟨g, i * 3, none⟩ = some (.int .i64 (wx : Nat)) ∧ W.cell? ⟨g, i * 3 + 1, none⟩ = some p1 ∧ W.cell? ⟨g, i * 3 + 2, none⟩ = some p2 ∧ W.cell? ⟨g, b * 3, none⟩ = some (.int .i64 (wx : Nat)) ∧ W.cell? ⟨g, b * 3 + 1, none⟩ = some q1 ∧ W.cell? ⟨g, b * 3 + 2, none⟩ = some q2) := fun W hW => by
              have hk := Kept.of_below hW (Nat.le_refl _) (fun _ => False)
              exact ⟨cellK hk y0 (fun h => h), cellK hk y1' (fun h => h), cellK hk y2' (fun h => h), cellK hk x0 (fun h => h), cellK hk x1' (fun h => h), cellK hk x2' (fun h => h)⟩
            have LY2 : Hid (∀ W, Below wr.heap.size wr W → Calls Tryz.prog 163 #[.agg #[.int .i64 (wx : Nat), p1, p2]] W fun e w' => e = .returned (.int .i64 (ly : Nat)) ∧ Below wr.heap.size wr w' ∧ (w'.cell? ⟨g, i * 3, none⟩ = some (.int .i64 (wx : Nat)) ∧ w'.cell? ⟨g, i * 3 + 1, none⟩ = some p1 ∧ w'.cell? ⟨g, i * 3 + 2, none⟩ = some p2 ∧ w'.cell? ⟨g, b * 3, none⟩ = some (.int .i64 (wx : Nat)) ∧ w'.cell? ⟨g, b * 3 + 1, none⟩ = some q1 ∧ w'.cell? ⟨g, b * 3 + 2, none⟩ = some q2)) := fun W hW =>
              (LY W hW).mono fun e w' ⟨he, hb⟩ => ⟨he, hW.trans (hb.mono hW.size), KEEP w' (hW.trans (hb.mono hW.size))⟩
            have LX2 : Hid (∀ W, Below wr.heap.size wr W → Calls Tryz.prog 163 #[.agg #[.int .i64 (wx : Nat), q1, q2]] W fun e w' => e = .returned (.int .i64 (lx : Nat)) ∧ Below wr.heap.size wr w' ∧ (w'.cell? ⟨g, i * 3, none⟩ = some (.int .i64 (wx : Nat)) ∧ w'.cell? ⟨g, i * 3 + 1, none⟩ = some p1 ∧ w'.cell? ⟨g, i * 3 + 2, none⟩ = some p2 ∧ w'.cell? ⟨g, b * 3, none⟩ = some (.int .i64 (wx : Nat)) ∧ w'.cell? ⟨g, b * 3 + 1, none⟩ = some q1 ∧ w'.cell? ⟨g, b * 3 + 2, none⟩ = some q2)) := fun W hW =>
              (LX W hW).mono fun e w' ⟨he, hb⟩ => ⟨he, hW.trans (hb.mono hW.size), KEEP w' (hW.trans (hb.mono hW.size))⟩
            have bd0 : Below wr.heap.size wr wr.drew := below_drewN (Below.refl _ _) 1
            have s0 := KEEP wr.drew bd0
            clear LY LX KEEP hx0_ hy0_
            by_cases hll : ly < lx
            · have d5 : decide ((ly : Int) < (lx : Int)) = true := by simp; omega
              go_wp2_with fail
              go_region_held3 (fun w' => w'.cell? ⟨g, i * 3, none⟩ = some (.int .i64 (wx : Nat)) ∧ w'.cell? ⟨g, i * 3 + 1, none⟩ = some p1 ∧ w'.cell? ⟨g, i * 3 + 2, none⟩ = some p2 ∧ w'.cell? ⟨g, b * 3, none⟩ = some (.int .i64 (wx : Nat)) ∧ w'.cell? ⟨g, b * 3 + 1, none⟩ = some q1 ∧ w'.cell? ⟨g, b * 3 + 2, none⟩ = some q2) (assumption) ((first
                | (go_at_call_of 163 p1; refine (LY2.out _ (by assumption)).mono ?_; rintro e w2 ⟨rfl, hb2', hS2⟩)
                | (go_at_call_of 163 q1; refine (LX2.out _ (by assumption)).mono ?_; rintro e w2 ⟨rfl, hb2', hS2⟩)))
              all_goals
                have BL2 : Hid (Below w.heap.size w w2) := BL.out.trans (hb2'.mono BL.out.size)
                clear LY2 LX2 s0 bd0 y0 y1' y2' x0 x1' x2'
                go_wp2
                exact ⟨⟨i + 1, by omega, by go_num, BL2, .inr ⟨i, rfl, hlt, HA.out hll⟩⟩, by simp [intOf]; omega⟩
            · have d5 : decide ((ly : Int) < (lx : Int)) = false := by simp; omega
              go_wp2_with fail
              go_region_held3 (fun w' => w'.cell? ⟨g, i * 3, none⟩ = some (.int .i64 (wx : Nat)) ∧ w'.cell? ⟨g, i * 3 + 1, none⟩ = some p1 ∧ w'.cell? ⟨g, i * 3 + 2, none⟩ = some p2 ∧ w'.cell? ⟨g, b * 3, none⟩ = some (.int .i64 (wx : Nat)) ∧ w'.cell? ⟨g, b * 3 + 1, none⟩ = some q1 ∧ w'.cell? ⟨g, b * 3 + 2, none⟩ = some q2) (assumption) ((first
                | (go_at_call_of 163 p1; refine (LY2.out _ (by assumption)).mono ?_; rintro e w2 ⟨rfl, hb2', hS2⟩)
                | (go_at_call_of 163 q1; refine (LX2.out _ (by assumption)).mono ?_; rintro e w2 ⟨rfl, hb2', hS2⟩)))
              all_goals
                have BL2 : Hid (Below w.heap.size w w2) := BL.out.trans (hb2'.mono BL.out.size)
                clear LY2 LX2 s0 bd0 y0 y1' y2' x0 x1' x2'
                go_wp2
                exact ⟨⟨i + 1, by omega, by go_num, BL2, .inr ⟨b, rfl, hbL, HBb.out hll⟩⟩, by simp [intOf]; omega⟩
          · have HLT : Hid (Hf.lt f x y = true) := (Hf.lt_iff f x y).2 (.inl hc)
            generalize Hf.wt f y = wy at *
            generalize Hf.wt f x = wx at *
            have d3 : decide ((wy : Int) < (wx : Int)) = false := by simp; omega
            have d4 : ((wy : Int) == (wx : Int)) = false := beq_eq_false_iff_ne.2 (by omega)
            have d5 : (wy == wx) = false := beq_eq_false_iff_ne.2 (by omega)
            have d6 : decide (wy < wx) = false := decide_eq_false (by omega)
            have d7 : decide (wy = wx) = false := decide_eq_false (by omega)
            clear hc
            clear y1' y2' x1' x2'
            go_wp2
            go_quiet (fail)
            have BL2 := below_drewN BL.out nq
            go_wp2
            exact ⟨⟨i + 1, by omega, by go_num, BL2, .inr ⟨b, rfl, hbL, HFI.out.stay HX.out HY.out HLT.out⟩⟩, by simp [intOf]; omega⟩
    · have hi' : i = L := by omega
      subst hi'
      rcases hst with ⟨rfl, h1⟩ | ⟨b, rfl, hbL, h1⟩
      · obtain ⟨j, hj, hjb⟩ := HE.out
        exact absurd (h1.out j hj) hjb
      · go_wp2
        go_ret
        exact ⟨⟨b, rfl, h1.out⟩, BL.out⟩

end Go.Proofs.YtopihgmemnokkaaGreat

