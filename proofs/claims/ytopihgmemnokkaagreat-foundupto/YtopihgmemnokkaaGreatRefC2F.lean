import Derived.Test.YtopihgmemnokkaaGreatTWalk19F
import Derived.Deep.RegionHeld3
import Derived.Test.YtopihgmemnokkaaGreatBitW4F
namespace Go.Proofs.YtopihgmemnokkaaGreat
open Go.RowKit Go.Shelf Go.Lib

/-- a row of the document's trees: block g -/
def GRow (f : Nat → Nat) (w : World) (g : Nat) (ts : List Hf.T) : Prop :=
  ∀ i t, ts[i]? = some t → ∃ v1 v2, w.cell? ⟨g, i * 3, none⟩ = some (.int .i64 (Hf.wt f t : Nat)) ∧ w.cell? ⟨g, i * 3 + 1, none⟩ = some v1 ∧ w.cell? ⟨g, i * 3 + 2, none⟩ = some v2 ∧ GV w t v1 v2
theorem GRow.below {f : Nat → Nat} {w w' : World} {g : Nat} {ts : List Hf.T} (h : GRow f w g ts) (hb : Below w.heap.size w w') : GRow f w' g ts := by
  intro i t ht
  obtain ⟨v1, v2, h1, h2, h3, h4⟩ := h i t ht
  have hk := Kept.of_below hb (Nat.le_refl _) (fun _ => False)
  exact ⟨v1, v2, cellK hk h1 (fun h => h), cellK hk h2 (fun h => h), cellK hk h3 (fun h => h), h4.below hb⟩

/-- trees that can be told apart -/
structure Forest (ts : List Hf.T) : Prop where
  ne : ∀ (i j : Nat) (a b : Hf.T), ts[i]? = some a → ts[j]? = some b → i ≠ j → Hf.least a ≠ Hf.least b
  bd : ∀ t ∈ ts, ∀ c ∈ Hf.bytes t, c ≤ 255
  len : ∀ t ∈ ts, (Hf.paths t).length ≤ 100000

/-- the tree that goes first of the first n, but for one place -/
def FirstOf (f : Nat → Nat) (ts : List Hf.T) (but : Int) (n : Nat) (b : Nat) : Prop :=
  b < n ∧ (b : Int) ≠ but ∧ ∀ j, j < n → (j : Int) ≠ but → j ≠ b → ∀ x y, ts[b]? = some x → ts[j]? = some y → Hf.lt f x y = true

theorem FirstOf.skip {f : Nat → Nat} {ts : List Hf.T} {but : Int} {n b : Nat} (h : FirstOf f ts but n b) (hn : (n : Int) = but) : FirstOf f ts but (n + 1) b :=
  ⟨by have := h.1; omega, h.2.1, fun j hj hb hne => h.2.2 j (by omega) hb hne⟩
theorem FirstOf.stay {f : Nat → Nat} {ts : List Hf.T} {but : Int} {n b : Nat} (h : FirstOf f ts but n b) {x y : Hf.T} (hx : ts[b]? = some x) (hy : ts[n]? = some y) (hl : Hf.lt f x y = true) : FirstOf f ts but (n + 1) b := by
  refine ⟨by have := h.1; omega, h.2.1, fun j hj hb hne u v hu hv => ?_⟩
  rcases Nat.lt_or_ge j n with h1 | h1
  · exact h.2.2 j h1 hb hne u v hu hv
  · have : j = n := by omega
    subst this
    rw [hx] at hu
    rw [hy] at hv
    cases hu; cases hv; exact hl
theorem FirstOf.turn {f : Nat → Nat} {ts : List Hf.T} {but : Int} {n b : Nat} (h : FirstOf f ts but n b) (hnb : (n : Int) ≠ but) {x y : Hf.T} (hx : ts[b]? = some x) (hy : ts[n]? = some y) (hl : Hf.lt f y x = true) : FirstOf f ts but (n + 1) n := by
  refine ⟨by omega, hnb, fun j hj hb hne u v hu hv => ?_⟩
  rw [hy] at hu
  cases hu
  by_cases e : j = b
  · subst e
    rw [hx] at hv
    cases hv; exact hl
  · exact Hf.lt_trans hl (h.2.2 j (by omega) hb e x v hx hv)

set_option maxRecDepth 100000 in
set_option maxHeartbeats 4000000 in
theorem first_any (f : Nat → Nat) (ts : List Hf.T) (g cap : Nat) (but : Int) (w : World) (hR : GRow f w g ts) (hF : Forest ts) (hlen : ts.length ≤ 256) (hex : ∃ i, i < ts.length ∧ (i : Int) ≠ but) (hwt : ∀ t ∈ ts, Hf.wt f t ≤ 1000000) :
    Calls Tryz.prog 136 #[.slice (some ⟨g, 0, none⟩) ts.length cap, .int .i64 but] w fun e w' => (∃ b : Nat, e = .returned (.int .i64 (b : Nat)) ∧ FirstOf f ts but ts.length b) ∧ Below w.heap.size w w' := by
  have HR : Hid (GRow f w g ts) := hR
  have HF : Hid (Forest ts) := hF
  have HE : Hid (∃ i, i < ts.length ∧ (i : Int) ≠ but) := hex
  have HW : Hid (∀ t ∈ ts, Hf.wt f t ≤ 1000000) := hwt
  clear hR hF hex hwt
  generalize hL : ts.length = L at *
  have HL : Hid (ts.length = L) := hL
  clear hL
  go_enter Tryz.func136, Tryz.ntmps136
  go_wp2
  go_loopw [5, 6] (fun bv iv wr => ∃ i : Nat, i ≤ L ∧ iv = .int .i64 i ∧ Hid (Below w.heap.size w wr) ∧ ((bv = .int .i64 (-1) ∧ Hid (∀ j : Nat, j < i → (j : Int) = but)) ∨ ∃ b : Nat, bv = .int .i64 b ∧ b < L ∧ Hid (FirstOf f ts but i b))) (fun _ iv _ => L - (intOf iv).toNat)
  case atStart => exact ⟨0, by omega, rfl, Below.refl _ _, .inl ⟨rfl, fun j h => by omega⟩⟩
  case round =>
    obtain ⟨i, hi, rfl, BL, hst⟩ := hrel
    by_cases hlt : i < L
    · have hli : (i : Int) < (L : Int) := by omega
      by_cases hbut : (i : Int) = but
      · have d1 : ((i : Int) == but) = true := by simp [hbut]
        have HBT : Hid ((i : Int) = but) := hbut
        clear hbut
        rcases hst with ⟨rfl, h1⟩ | ⟨b, rfl, hbL, h1⟩
        · go_wp2
          exact ⟨⟨i + 1, by omega, by go_num, BL, .inl ⟨rfl, fun j hj => by
            rcases Nat.lt_or_ge j i with h | h
            · exact h1.out j h
            · have : j = i := by omega
              subst this; exact HBT.out⟩⟩, by simp [intOf]; omega⟩
        · go_wp2
          exact ⟨⟨i + 1, by omega, by go_num, BL, .inr ⟨b, rfl, hbL, h1.out.skip HBT.out⟩⟩, by simp [intOf]; omega⟩
      · have d1 : ((i : Int) == but) = false := beq_eq_false_iff_ne.2 hbut
        have HBT : Hid ((i : Int) ≠ but) := hbut
        clear hbut
        rcases hst with ⟨rfl, h1⟩ | ⟨b, rfl, hbL, h1⟩
        · go_wp2
          go_quiet (fail)
          have BL2 := below_drewN BL.out nq
          go_wp2
          refine ⟨⟨i + 1, by omega, by go_num, BL2, .inr ⟨i, rfl, hlt, by omega, HBT.out, fun j hj hjb hne => ?_⟩⟩, by simp [intOf]; omega⟩
          have := h1.out j (by omega)
          exact absurd this hjb
        · obtain ⟨y, hy⟩ : ∃ y, ts[i]? = some y := ⟨_, List.getElem?_eq_getElem (by rw [HL.out]; exact hlt)⟩
          obtain ⟨x, hx⟩ : ∃ x, ts[b]? = some x := ⟨_, List.getElem?_eq_getElem (by rw [HL.out]; exact hbL)⟩
          obtain ⟨p1, p2, y0, y1, y2, y3⟩ := HR.out i y hy
          obtain ⟨q1, q2, x0, x1, x2, x3⟩ := HR.out b x hx
          have hwy := HW.out y (List.mem_of_getElem? hy)
          have hwx := HW.out x (List.mem_of_getElem? hx)
          have hk := Kept.of_below BL.out (Nat.le_refl _) (fun _ => False)
          have y0 := cellK hk y0 (fun h => h)
          have x0 := cellK hk x0 (fun h => h)
          have hbi : (b : Int) < (L : Int) := by omega
          have d2 : decide ((b : Int) < 0) = false := by simp
          have HFI : Hid (FirstOf f ts but i b) := h1
          have HX : Hid (ts[b]? = some x) := hx
          have HY : Hid (ts[i]? = some y) := hy
          have y1' := cellK hk y1 (fun h => h)
          have y2' := cellK hk y2 (fun h => h)
          have x1' := cellK hk x1 (fun h => h)
          have x2' := cellK hk x2 (fun h => h)
          have YV : Hid (GV w y p1 p2) := y3
          have XV : Hid (GV w x q1 q2) := x3
          clear hy hx hk y1 y2 y3 x1 x2 x3
          rename_i hx0_ hy0_
          rcases Nat.lt_trichotomy (Hf.wt f y) (Hf.wt f x) with hc | hc | hc
          · have HLT : Hid (Hf.lt f y x = true) := (Hf.lt_iff f y x).2 (.inl hc)
            generalize Hf.wt f y = wy at *
            generalize Hf.wt f x = wx at *
            have d3 : decide ((wy : Int) < (wx : Int)) = true := by simp; omega
            clear y1' y2' x1' x2'
            go_wp2
            go_quiet (fail)
            have BL2 := below_drewN BL.out nq
            go_wp2
            exact ⟨⟨i + 1, by omega, by go_num, BL2, .inr ⟨i, rfl, hlt, HFI.out.turn HBT.out HX.out HY.out HLT.out⟩⟩, by simp [intOf]; omega⟩
          · have hne := HF.out.ne i b y x HY.out HX.out (by have := HFI.out.1; omega)
            have LY := fun W (hW : Below wr.heap.size wr W) => lowest_any y (Hf.wt f y : Nat) p1 p2 W ((YV.out.below BL.out).below hW) (HF.out.len y (List.mem_of_getElem? HY.out)) (HF.out.bd y (List.mem_of_getElem? HY.out))
            have LX := fun W (hW : Below wr.heap.size wr W) => lowest_any x (Hf.wt f x : Nat) q1 q2 W ((XV.out.below BL.out).below hW) (HF.out.len x (List.mem_of_getElem? HX.out)) (HF.out.bd x (List.mem_of_getElem? HX.out))
            have BY1 := HF.out.bd y (List.mem_of_getElem? HY.out) _ (Hf.least_mem y)
            have BX1 := HF.out.bd x (List.mem_of_getElem? HX.out) _ (Hf.least_mem x)
            have HA : Hid (Hf.least y < Hf.least x → FirstOf f ts but (i + 1) i) := fun h => HFI.out.turn HBT.out HX.out HY.out ((Hf.lt_iff f y x).2 (.inr ⟨hc, h⟩))
            have HBb : Hid (¬ Hf.least y < Hf.least x → FirstOf f ts but (i + 1) b) := fun h => HFI.out.stay HX.out HY.out ((Hf.lt_iff f x y).2 (.inr ⟨hc.symm, by omega⟩))
            rw [hc] at y0 LY
            clear hwy hc hne HFI YV XV HF
            generalize Hf.wt f x = wx at *
            generalize Hf.least y = ly at *
            generalize Hf.least x = lx at *
            have d3 : decide ((wx : Int) < (wx : Int)) = false := by simp
            have d4 : ((wx : Int) == (wx : Int)) = true := by simp
            have KEEP : ∀ W, Below wr.heap.size wr W → (W.cell? ⟨g, i * 3, none⟩ = some (.int .i64 (wx : Nat)) ∧ W.cell? ⟨g, i * 3 + 1, none⟩ = some p1 ∧ W.cell? ⟨g, i * 3 + 2, none⟩ = some p2 ∧ W.cell? ⟨g, b * 3, none⟩ = some (.int .i64 (wx : Nat)) ∧ W.cell? ⟨g, b * 3 + 1, none⟩ = some q1 ∧ W.cell? ⟨g, b * 3 + 2, none⟩ = some q2) := fun W hW => by
              have hk := Kept.of_below hW (Nat.le_refl _) (fun _ => False)
              exact ⟨cellK hk y0 (fun h => h), cellK hk y1' (fun h => h), cellK hk y2' (fun h => h), cellK hk x0 (fun h => h), cellK hk x1' (fun h => h), cellK hk x2' (fun h => h)⟩
            have LY2 : Hid (∀ W, Below wr.heap.size wr W → Calls Tryz.prog 163 #[.agg #[.int .i64 (wx : Nat), p1, p2]] W fun e w' => e = .returned (.int .i64 (ly : Nat)) ∧ Below wr.heap.size wr w' ∧ (w'.cell? ⟨g, i * 3, none⟩ = some (.int .i64 (wx : Nat)) ∧ w'.cell? ⟨g, i * 3 + 1, none⟩ = some p1 ∧ w'.cell? ⟨g, i * 3 + 2, none⟩ = some p2 ∧ w'.cell? ⟨g, b * 3, none⟩ = some (.int .i64 (wx : Nat)) ∧ w'.cell? ⟨g, b * 3 + 1, none⟩ = some q1 ∧ w'.cell? ⟨g, b * 3 + 2, none⟩ = some q2)) := fun W hW =>
              (LY W hW).mono fun e w' ⟨he, hb⟩ => ⟨he, hW.trans (hb.mono hW.size), KEEP w' (hW.trans (hb.mono hW.size))⟩
            have LX2 : Hid (∀ W, Below wr.heap.size wr W → Calls Tryz.prog 163 #[.agg #[.int .i64 (wx : Nat), q1, q2]] W fun e w' => e = .returned (.int .i64 (lx : Nat)) ∧ Below wr.heap.size wr w' ∧ (w'.cell? ⟨g, i * 3, none⟩ = some (.int .i64 (wx : Nat)) ∧ w'.cell? ⟨g, i * 3 + 1, none⟩ = some p1 ∧ w'.cell? ⟨g, i * 3 + 2, none⟩ = some p2 ∧ w'.cell? ⟨g, b * 3, none⟩ = some (.int .i64 (wx : Nat)) ∧ w'.cell? ⟨g, b * 3 + 1, none⟩ = some q1 ∧ w'.cell? ⟨g, b * 3 + 2, none⟩ = some q2)) := fun W hW =>
              (LX W hW).mono fun e w' ⟨he, hb⟩ => ⟨he, hW.trans (hb.mono hW.size), KEEP w' (hW.trans (hb.mono hW.size))⟩
            have bd0 : Below wr.heap.size wr wr.drew := below_drewN (Below.refl _ _) 1
            have s0 := KEEP wr.drew bd0
            clear LY LX KEEP hx0_ hy0_
            by_cases hll : ly < lx
            · have d5 : decide ((ly : Int) < (lx : Int)) = true := by simp; omega
              go_wp2_with fail
              go_region_held3 (fun w' => w'.cell? ⟨g, i * 3, none⟩ = some (.int .i64 (wx : Nat)) ∧ w'.cell? ⟨g, i * 3 + 1, none⟩ = some p1 ∧ w'.cell? ⟨g, i * 3 + 2, none⟩ = some p2 ∧ w'.cell? ⟨g, b * 3, none⟩ = some (.int .i64 (wx : Nat)) ∧ w'.cell? ⟨g, b * 3 + 1, none⟩ = some q1 ∧ w'.cell? ⟨g, b * 3 + 2, none⟩ = some q2) (assumption) ((first
                | (go_at_call_of 163 p1; refine (LY2.out _ (by assumption)).mono ?_; rintro e w2 ⟨rfl, hb2', hS2⟩)
                | (go_at_call_of 163 q1; refine (LX2.out _ (by assumption)).mono ?_; rintro e w2 ⟨rfl, hb2', hS2⟩)))
              all_goals
                have BL2 : Hid (Below w.heap.size w w2) := BL.out.trans (hb2'.mono BL.out.size)
                clear LY2 LX2 s0 bd0 y0 y1' y2' x0 x1' x2'
                go_wp2
                exact ⟨⟨i + 1, by omega, by go_num, BL2, .inr ⟨i, rfl, hlt, HA.out hll⟩⟩, by simp [intOf]; omega⟩
            · have d5 : decide ((ly : Int) < (lx : Int)) = false := by simp; omega
              go_wp2_with fail
              go_region_held3 (fun w' => w'.cell? ⟨g, i * 3, none⟩ = some (.int .i64 (wx : Nat)) ∧ w'.cell? ⟨g, i * 3 + 1, none⟩ = some p1 ∧ w'.cell? ⟨g, i * 3 + 2, none⟩ = some p2 ∧ w'.cell? ⟨g, b * 3, none⟩ = some (.int .i64 (wx : Nat)) ∧ w'.cell? ⟨g, b * 3 + 1, none⟩ = some q1 ∧ w'.cell? ⟨g, b * 3 + 2, none⟩ = some q2) (assumption) ((first
                | (go_at_call_of 163 p1; refine (LY2.out _ (by assumption)).mono ?_; rintro e w2 ⟨rfl, hb2', hS2⟩)
                | (go_at_call_of 163 q1; refine (LX2.out _ (by assumption)).mono ?_; rintro e w2 ⟨rfl, hb2', hS2⟩)))
              all_goals
                have BL2 : Hid (Below w.heap.size w w2) := BL.out.trans (hb2'.mono BL.out.size)
                clear LY2 LX2 s0 bd0 y0 y1' y2' x0 x1' x2'
                go_wp2
                exact ⟨⟨i + 1, by omega, by go_num, BL2, .inr ⟨b, rfl, hbL, HBb.out hll⟩⟩, by simp [intOf]; omega⟩
          · have HLT : Hid (Hf.lt f x y = true) := (Hf.lt_iff f x y).2 (.inl hc)
            generalize Hf.wt f y = wy at *
            generalize Hf.wt f x = wx at *
            have d3 : decide ((wy : Int) < (wx : Int)) = false := by simp; omega
            have d4 : ((wy : Int) == (wx : Int)) = false := beq_eq_false_iff_ne.2 (by omega)
            have d5 : (wy == wx) = false := beq_eq_false_iff_ne.2 (by omega)
            have d6 : decide (wy < wx) = false := decide_eq_false (by omega)
            have d7 : decide (wy = wx) = false := decide_eq_false (by omega)
            clear hc
            clear y1' y2' x1' x2'
            go_wp2
            go_quiet (fail)
            have BL2 := below_drewN BL.out nq
            go_wp2
            exact ⟨⟨i + 1, by omega, by go_num, BL2, .inr ⟨b, rfl, hbL, HFI.out.stay HX.out HY.out HLT.out⟩⟩, by simp [intOf]; omega⟩
    · have hi' : i = L := by omega
      subst hi'
      rcases hst with ⟨rfl, h1⟩ | ⟨b, rfl, hbL, h1⟩
      · obtain ⟨j, hj, hjb⟩ := HE.out
        exact absurd (h1.out j hj) hjb
      · go_wp2
        go_ret
        exact ⟨⟨b, rfl, h1.out⟩, BL.out⟩

end Go.Proofs.YtopihgmemnokkaaGreat

namespace Go.Proofs.YtopihgmemnokkaaGreat
open Go.RowKit Go.Shelf Go.Lib

/-- all but two, of the first so many -/
def restTo {α : Type} (a b : Nat) (ts : List α) : Nat → List α
  | 0 => []
  | i + 1 => if i ≠ a ∧ i ≠ b then restTo a b ts i ++ (ts[i]?).toList else restTo a b ts i

theorem restTo_perm {α : Type} (a b : Nat) (hab : a ≠ b) (ts : List α) (x y : α) (ha : ts[a]? = some x) (hb : ts[b]? = some y) :
    ∀ i, i ≤ ts.length → (restTo a b ts i ++ ((if a < i then [x] else []) ++ (if b < i then [y] else []))).Perm (ts.take i)
  | 0, _ => by simp [restTo]
  | i + 1, h => by
    have IH := restTo_perm a b hab ts x y ha hb i (by omega)
    rw [List.take_succ_eq_append_getElem (by omega)]
    simp only [restTo]
    by_cases e1 : i = a
    · subst e1
      have hx : ts[i] = x := by
        rw [List.getElem?_eq_getElem (by omega)] at ha; simpa using ha
      rw [if_neg (by simp), hx, if_pos (by omega)]
      rw [if_neg (by omega)] at IH
      have e2 : (b < i + 1) = (b < i) := by simp; omega
      simp only [e2]
      rw [List.nil_append] at IH
      refine List.Perm.trans ?_ (IH.append_right [x])
      rw [List.append_assoc]
      exact List.Perm.append_left _ List.perm_append_comm
    · by_cases e2 : i = b
      · subst e2
        have hy : ts[i] = y := by
          rw [List.getElem?_eq_getElem (by omega)] at hb; simpa using hb
        rw [if_neg (by simp), hy, if_pos (by omega : i < i + 1)]
        rw [if_neg (by omega : ¬ i < i), List.append_nil] at IH
        have e3 : (a < i + 1) = (a < i) := by simp; omega
        simp only [e3]
        rw [← List.append_assoc]
        exact IH.append_right [y]
      · rw [if_pos ⟨e1, e2⟩, List.getElem?_eq_getElem (by omega)]
        have e3 : (a < i + 1) = (a < i) := by simp; omega
        have e4 : (b < i + 1) = (b < i) := by simp; omega
        simp only [e3, e4, Option.toList_some]
        refine List.Perm.trans ?_ (IH.append_right [ts[i]])
        rw [List.append_assoc, List.append_assoc]
        exact List.Perm.append_left _ List.perm_append_comm

theorem restTo_all {α : Type} {a b : Nat} (hab : a ≠ b) {ts : List α} {x y : α} (ha : ts[a]? = some x) (hb : ts[b]? = some y) : (restTo a b ts ts.length ++ [x, y]).Perm ts := by
  have h := restTo_perm a b hab ts x y ha hb ts.length (Nat.le_refl _)
  rw [if_pos (List.getElem?_eq_some_iff.1 ha).1, if_pos (List.getElem?_eq_some_iff.1 hb).1, List.take_length] at h
  exact h
theorem restTo_map {α β : Type} (g : α → β) (a b : Nat) (ts : List α) : ∀ i, (restTo a b ts i).map g = restTo a b (ts.map g) i
  | 0 => rfl
  | i + 1 => by
    have IH := restTo_map g a b ts i
    simp only [restTo]
    by_cases h : i ≠ a ∧ i ≠ b
    · rw [if_pos h, if_pos h, List.map_append, IH, List.getElem?_map]
      cases ts[i]? <;> rfl
    · rw [if_neg h, if_neg h, IH]
theorem restTo_mem {α : Type} {a b : Nat} {ts : List α} {t : α} : ∀ {i : Nat}, t ∈ restTo a b ts i → t ∈ ts
  | 0, h => by simp [restTo] at h
  | i + 1, h => by
    simp only [restTo] at h
    by_cases e : i ≠ a ∧ i ≠ b
    · rw [if_pos e, List.mem_append] at h
      rcases h with h | h
      · exact restTo_mem h
      · rcases he : ts[i]? with _ | u
        · rw [he] at h; simp at h
        · rw [he] at h
          have : t = u := by simpa using h
          rw [this]; exact List.mem_of_getElem? he
    · rw [if_neg e] at h; exact restTo_mem h
theorem restTo_len {α : Type} (a b : Nat) (ts : List α) : ∀ i, (restTo a b ts i).length ≤ i
  | 0 => by simp [restTo]
  | i + 1 => by
    have IH := restTo_len a b ts i
    simp only [restTo]
    by_cases e : i ≠ a ∧ i ≠ b
    · rw [if_pos e, List.length_append]
      have : (ts[i]?).toList.length ≤ 1 := by cases ts[i]? <;> simp
      omega
    · rw [if_neg e]; omega

theorem lt_irr (f : Nat → Nat) (t : Hf.T) : ¬ Hf.lt f t t = true := by rw [Hf.lt_iff]; omega

/-- the two that go first -/
theorem first_two {f : Nat → Nat} {ts L : List Hf.T} (hp : ts.Perm L) (hs : Hf.Srt f L) {a b : Nat} {x y : Hf.T} (ha : ts[a]? = some x) (hb : ts[b]? = some y) (h1 : FirstOf f ts (-1) ts.length a) (h2 : FirstOf f ts (a : Int) ts.length b) :
    ∃ l, L = x :: y :: l := by
  have hab : b ≠ a := by have := h2.2.1; omega
  have hl := hp.length_eq
  have hla := h1.1
  have hlb := h2.1
  match L, hp, hs, hl with
  | [], _, _, hl => simp only [List.length_nil] at hl; omega
  | [_], _, _, hl => simp only [List.length_cons, List.length_nil] at hl; omega
  | u :: v :: l, hp, hs, _ =>
    have hs1 := List.pairwise_cons.1 hs
    have hs2 := List.pairwise_cons.1 hs1.2
    have xu : x = u := by
      have hu : u ∈ ts := hp.mem_iff.2 (by simp)
      obtain ⟨i, hi, hie⟩ := List.mem_iff_getElem.1 hu
      have hi' : ts[i]? = some u := by rw [List.getElem?_eq_getElem hi, hie]
      by_cases e : i = a
      · subst e; rw [ha] at hi'; exact Option.some.inj hi'
      · have hlt := h1.2.2 i hi (by omega) e x u ha hi'
        have hx : x ∈ u :: v :: l := hp.mem_iff.1 (List.mem_of_getElem? ha)
        rcases List.mem_cons.1 hx with hx | hx
        · exact hx
        · exact absurd (Hf.lt_trans hlt (hs1.1 x hx)) (lt_irr f x)
    have nb : ∀ t ∈ v :: l, t ≠ u := fun t ht e => lt_irr f u (by have := hs1.1 t ht; rwa [e] at this)
    have hyu : y ∈ v :: l := by
      have hy : y ∈ u :: v :: l := hp.mem_iff.1 (List.mem_of_getElem? hb)
      rcases List.mem_cons.1 hy with hy | hy
      · exfalso
        have hn : (u :: v :: l).Nodup := List.Pairwise.imp (S := fun s t => s ≠ t) (fun {s t} h (e : s = t) => lt_irr f s (by rwa [← e] at h)) hs
        have hn2 : ts.Nodup := hp.nodup_iff.2 hn
        have e2 : ts[b]? = ts[a]? := by rw [ha, hb, hy, xu]
        exact hab ((List.getElem?_inj hlb hn2).1 e2)
      · exact hy
    have yv : y = v := by
      have hv : v ∈ ts := hp.mem_iff.2 (by simp)
      obtain ⟨i, hi, hie⟩ := List.mem_iff_getElem.1 hv
      have hi' : ts[i]? = some v := by rw [List.getElem?_eq_getElem hi, hie]
      by_cases e : i = b
      · subst e; rw [hb] at hi'; exact Option.some.inj hi'
      · have hia : i ≠ a := by
          rintro rfl
          rw [ha] at hi'
          exact nb v (by simp) ((Option.some.inj hi').symm.trans xu)
        have hlt := h2.2.2 i hi (by omega) e y v hb hi'
        rcases List.mem_cons.1 hyu with hy | hy
        · exact hy
        · exact absurd (Hf.lt_trans hlt (hs2.1 y hy)) (lt_irr f y)
    exact ⟨l, by rw [xu, yv]⟩

/-- trees, in whatever order, that come to the tree J -/
structure Grv (f : Nat → Nat) (J : Hf.T) (ts : List Hf.T) : Prop where
  ex : ∃ L, ts.Perm L ∧ Hf.Inv f L ∧ Hf.join f L = J
  bd : ∀ t ∈ ts, ∀ c ∈ Hf.bytes t, c ≤ 255

theorem Grv.step {f : Nat → Nat} {J : Hf.T} {ts : List Hf.T} (h : Grv f J ts) {a b : Nat} {x y : Hf.T} (ha : ts[a]? = some x) (hb : ts[b]? = some y) (h1 : FirstOf f ts (-1) ts.length a) (h2 : FirstOf f ts (a : Int) ts.length b) :
    Grv f J (restTo a b ts ts.length ++ [.node x y]) := by
  obtain ⟨L, hp, hI, hJ⟩ := h.ex
  have hab : a ≠ b := by have := h2.2.1; omega
  obtain ⟨l, rfl⟩ := first_two hp hI.srt ha hb h1 h2
  refine ⟨⟨Hf.put f (.node x y) l, ?_, hI.step, by rw [← Hf.join_step]; exact hJ⟩, fun t ht c hc => ?_⟩
  · have h3 : (restTo a b ts ts.length ++ [x, y]).Perm (x :: y :: l) := (restTo_all hab ha hb).trans hp
    have h4 : (x :: y :: restTo a b ts ts.length).Perm (x :: y :: l) := (List.perm_append_comm (l₁ := [x, y])).trans h3
    have h5 : (restTo a b ts ts.length).Perm l := h4.cons_inv.cons_inv
    exact (List.perm_append_comm.trans (h5.cons _)).trans (Hf.put_perm f _ l).symm
  · rw [List.mem_append] at ht
    rcases ht with ht | ht
    · exact h.bd t (restTo_mem ht) c hc
    · have : t = .node x y := by simpa using ht
      subst this
      simp only [Hf.bytes, List.mem_append] at hc
      rcases hc with hc | hc
      · exact h.bd x (List.mem_of_getElem? ha) c hc
      · exact h.bd y (List.mem_of_getElem? hb) c hc
theorem step_len {α : Type} {a b : Nat} (hab : a ≠ b) {ts : List α} {x y z : α} (ha : ts[a]? = some x) (hb : ts[b]? = some y) : (restTo a b ts ts.length ++ [z]).length + 1 = ts.length := by
  have := (restTo_all hab ha hb).length_eq
  simp at *; omega

theorem nd_ne : ∀ (ts : List Hf.T), (ts.flatMap Hf.bytes).Nodup → ∀ (i j : Nat) (a b : Hf.T), ts[i]? = some a → ts[j]? = some b → i < j → Hf.least a ≠ Hf.least b
  | [], _, i, _, _, _, h, _, _ => by simp at h
  | t :: l, hn, i, j, a, b, ha, hb, hij => by
    match j, hb, hij with
    | j + 1, hb, hij =>
      rw [List.getElem?_cons_succ] at hb
      match i, ha, hij with
      | 0, ha, _ =>
        have : t = a := by simpa using ha
        subst this
        intro e
        exact Hf.nd_least hn (List.mem_of_getElem? hb) _ (Hf.least_mem t) (by rw [e]; exact Hf.least_mem b)
      | i + 1, ha, hij =>
        rw [List.getElem?_cons_succ] at ha
        rw [List.flatMap_cons, List.nodup_append] at hn
        exact nd_ne l hn.2.1 i j a b ha hb (by omega)
theorem nd_one {ts : List Hf.T} (hn : (ts.flatMap Hf.bytes).Nodup) {t : Hf.T} (ht : t ∈ ts) : (Hf.bytes t).Nodup := by
  induction ts with
  | nil => simp at ht
  | cons u l ih =>
    rw [List.flatMap_cons, List.nodup_append] at hn
    rcases List.mem_cons.1 ht with rfl | ht
    · exact hn.1
    · exact ih hn.2.1 ht

theorem sum_len (f : Nat → Nat) : ∀ l : List Nat, (∀ c ∈ l, 0 < f c) → l.length ≤ (l.map f).sum
  | [], _ => by simp
  | c :: l, h => by
    have := sum_len f l (fun d hd => h d (by simp [hd]))
    have := h c (by simp)
    simp; omega

/-- what is known of each tree -/
structure Fit (f : Nat → Nat) (t : Hf.T) : Prop where
  nd : (Hf.bytes t).Nodup
  wt : Hf.wt f t ≤ 1000
  len : (Hf.paths t).length ≤ 1000
  path : ∀ x ∈ Hf.paths t, x.2.length ≤ 14

theorem Grv.nd {f : Nat → Nat} {J : Hf.T} {ts : List Hf.T} (h : Grv f J ts) : (ts.flatMap Hf.bytes).Nodup := by
  obtain ⟨L, hp, hI, _⟩ := h.ex
  exact (Hf.flat_perm hp).nodup_iff.2 hI.nd
theorem Grv.fit {f : Nat → Nat} {J : Hf.T} {ts : List Hf.T} (h : Grv f J ts) (hw : ∀ t, (Hf.bytes t).Nodup → (∀ c ∈ Hf.bytes t, c < 256) → Hf.wt f t ≤ 1000) {t : Hf.T} (ht : t ∈ ts) : Fit f t := by
  obtain ⟨L, hp, hI, _⟩ := h.ex
  have hn := nd_one h.nd ht
  have hm := hp.mem_iff.1 ht
  have hwt := hw t hn (fun c hc => by have := h.bd t ht c hc; omega)
  have hht := Hf.ht_le (hI.gd t hm) (hI.pos t hm) hwt
  refine ⟨hn, hwt, ?_, fun x hx => Nat.le_trans (Hf.paths_len t x hx) hht⟩
  have h1 := congrArg List.length (Hf.paths_bytes t)
  rw [List.length_map] at h1
  have h2 := sum_len f (Hf.bytes t) (hI.pos t hm)
  rw [← wt_list] at h2
  omega
theorem Grv.forest {f : Nat → Nat} {J : Hf.T} {ts : List Hf.T} (h : Grv f J ts) (hw : ∀ t, (Hf.bytes t).Nodup → (∀ c ∈ Hf.bytes t, c < 256) → Hf.wt f t ≤ 1000) : Forest ts := by
  refine ⟨fun i j a b ha hb hij => ?_, h.bd, fun t ht => by have := (h.fit hw ht).len; omega⟩
  rcases Nat.lt_or_gt_of_ne hij with e | e
  · exact nd_ne ts h.nd i j a b ha hb e
  · exact fun e2 => nd_ne ts h.nd j i b a hb ha e e2.symm
theorem Grv.one {f : Nat → Nat} {J t : Hf.T} (h : Grv f J [t]) : t = J := by
  obtain ⟨L, hp, _, hJ⟩ := h.ex
  have : L = [t] := List.perm_singleton.1 hp.symm
  subst this
  exact hJ

end Go.Proofs.YtopihgmemnokkaaGreat

namespace Go.Proofs.YtopihgmemnokkaaGreat
open Go.RowKit Go.Shelf Go.Lib

theorem own_low {w : World} {base B : Nat} {e : TypeId} {k : Nat} {v : Value} {n : Nat} {xs : List Value} (h : w.ownsRow base e k v n xs) (hB : B ≤ base) : w.ownsRow B e k v n xs := by
  refine ⟨h.1, ?_⟩
  rcases h.2 with h2 | ⟨g, cap, cur, h1, h2, h3⟩
  · exact .inl h2
  · exact .inr ⟨g, cap, cur, h1, Nat.le_trans hB h2, h3⟩
theorem own_shape {w : World} {base : Nat} {e : TypeId} {k : Nat} {v : Value} {n : Nat} {xs : List Value} (h : w.ownsRow base e k v n xs) : ∃ a p, v = .slice a n p := by
  rcases h.2 with ⟨rfl, rfl⟩ | ⟨g, cap, cur, rfl, _⟩
  · exact ⟨_, _, rfl⟩
  · exact ⟨_, _, rfl⟩
theorem own_top {w : World} {base : Nat} {e : TypeId} {k : Nat} {v : Value} {n : Nat} {xs : List Value} (h : w.ownsRow base e k v n xs) {g : Nat} (hg : v.ownBlock = some g) : base ≤ g ∧ g < w.heap.size := by
  rcases h.2 with ⟨rfl, _⟩ | ⟨g', cap, cur, rfl, h1, h2, _⟩
  · cases hg
  · have : g' = g := by simpa [Value.ownBlock] using hg
    subst this
    exact ⟨h1, (Array.getElem?_eq_some_iff.1 h2).1⟩

/-- a tree of the document's in memory: its bytes and its codes, each in a row -/
structure GO (base : Nat) (w : World) (t : Hf.T) (v1 v2 : Value) : Prop where
  b : w.ownsRow base 3 1 v1 (Hf.paths t).length ((Hf.paths t).map fun x => .int .i64 (x.1 : Nat))
  c : w.ownsRow base 9 1 v2 (Hf.paths t).length ((Hf.paths t).map fun x => .string (tx x.2))

theorem GO.low {base B : Nat} {w : World} {t : Hf.T} {v1 v2 : Value} (h : GO base w t v1 v2) (hB : B ≤ base) : GO B w t v1 v2 := ⟨own_low h.b hB, own_low h.c hB⟩
theorem GO.keep {base : Nat} {w w' : World} {t : Hf.T} {v1 v2 : Value} (h : GO base w t v1 v2) {P : Nat → Prop} (hk : Kept P w w') (h1 : ∀ g, v1.ownBlock = some g → ¬ P g) (h2 : ∀ g, v2.ownBlock = some g → ¬ P g) : GO base w' t v1 v2 :=
  ⟨own_keep h.b hk h1, own_keep h.c hk h2⟩
theorem GO.below {base : Nat} {w w' : World} {t : Hf.T} {v1 v2 : Value} (h : GO base w t v1 v2) (hb : Below w.heap.size w w') : GO base w' t v1 v2 :=
  h.keep (Kept.of_below hb (Nat.le_refl _) (fun _ => False)) (fun _ _ h => h) (fun _ _ h => h)
theorem GO.slices {base : Nat} {w : World} {t : Hf.T} {v1 v2 : Value} (h : GO base w t v1 v2) : ∃ g1 c1 g2 c2, v1 = .slice (some ⟨g1, 0, none⟩) (Hf.paths t).length c1 ∧ v2 = .slice (some ⟨g2, 0, none⟩) (Hf.paths t).length c2 ∧
    (∀ i x, (Hf.paths t)[i]? = some x → w.cell? ⟨g1, i, none⟩ = some (.int .i64 (x.1 : Nat)) ∧ w.cell? ⟨g2, i, none⟩ = some (.string (tx x.2))) := by
  have hp := paths_pos t
  obtain ⟨g1, c1, rfl, _⟩ := h.b.form hp
  obtain ⟨g2, c2, rfl, _⟩ := h.c.form hp
  refine ⟨g1, c1, g2, c2, rfl, rfl, fun i x hx => ⟨own_cell h.b ?_, own_cell h.c ?_⟩⟩
  · rw [List.getElem?_map, hx]; rfl
  · rw [List.getElem?_map, hx]; rfl
theorem GO.gv {base : Nat} {w : World} {t : Hf.T} {v1 v2 : Value} (h : GO base w t v1 v2) : GV w t v1 v2 := by
  obtain ⟨g1, c1, g2, c2, h1, h2, h3⟩ := h.slices
  exact ⟨g1, c1, g2, c2, h1, h2, h3⟩

theorem range_map {α β : Type} (l : List α) (d : α) (g : α → β) : ((List.range l.length).map fun i => g (l[i]?.getD d)) = l.map g := by
  apply List.ext_getElem
  · simp
  · intro i h1 h2
    simp at h1
    simp [h1]

theorem tx_false (p : List Bool) : (⟨#[48]⟩ : ByteArray) ++ tx p = tx (false :: p) := by
  rw [show false :: p = [false] ++ p from rfl, tx_append]; rfl
theorem tx_true (p : List Bool) : (⟨#[49]⟩ : ByteArray) ++ tx p = tx (true :: p) := by
  rw [show true :: p = [true] ++ p from rfl, tx_append]; rfl

theorem joined_any (f : Nat → Nat) (a b : Hf.T) (base : Nat) (v1 v2 u1 u2 : Value) (w : World) (ha : GO base w a v1 v2) (hb : GO base w b u1 u2) (fa : Fit f a) (fb : Fit f b) :
    Calls Tryz.prog 137 #[.agg #[.int .i64 (Hf.wt f a : Nat), v1, v2], .agg #[.int .i64 (Hf.wt f b : Nat), u1, u2]] w fun e w' => ∃ x1 x2, e = .returned (.agg #[.int .i64 ((Hf.wt f (.node a b) : Nat) : Int), x1, x2]) ∧ GO w.heap.size w' (.node a b) x1 x2 ∧ Below w.heap.size w w' := by
  obtain ⟨g1, c1, g2, c2, rfl, rfl, h3⟩ := ha.slices
  obtain ⟨g3, c3, g4, c4, rfl, rfl, h4⟩ := hb.slices
  have get : ∀ (t : Hf.T) (i : Nat), i < (Hf.paths t).length → (Hf.paths t)[i]? = some ((Hf.paths t)[i]?.getD (0, [])) := fun t i hi => by rw [List.getElem?_eq_getElem hi]; rfl
  have l1 := fa.len
  have l2 := fb.len
  have l3 := fa.wt
  have l4 := fb.wt
  have sz : ∀ {t : Hf.T}, Fit f t → ∀ i, i < (Hf.paths t).length → (tx ((Hf.paths t)[i]?.getD (0, [])).2).size ≤ 100000 := fun {t} ft i hi => by
    rw [tx_size]
    have := ft.path _ (List.mem_of_getElem? (get t i hi))
    omega
  refine (joined_rows (Hf.paths a).length (Hf.paths b).length (fun i => ((Hf.paths a)[i]?.getD (0, [])).1) (fun i => ((Hf.paths b)[i]?.getD (0, [])).1) (fun i => tx ((Hf.paths a)[i]?.getD (0, [])).2) (fun i => tx ((Hf.paths b)[i]?.getD (0, [])).2)
    g1 g2 g3 g4 c1 c2 c3 c4 (Hf.wt f a) (Hf.wt f b) w (by omega) (by omega) (by omega) (by omega) (fun i hi => (h3 i _ (get a i hi)).1) (fun i hi => (h3 i _ (get a i hi)).2) (sz fa) (fun i hi => (h4 i _ (get b i hi)).1) (fun i hi => (h4 i _ (get b i hi)).2) (sz fb)).mono ?_
  rintro e w' ⟨xv, yv, he, hx, hy, hbl⟩
  refine ⟨xv, yv, he, ⟨?_, ?_⟩, hbl⟩
  · have e1 : XR (fun i => ((Hf.paths a)[i]?.getD (0, [])).1) (Hf.paths a).length ++ XR (fun i => ((Hf.paths b)[i]?.getD (0, [])).1) (Hf.paths b).length = (Hf.paths (.node a b)).map fun x => .int .i64 (x.1 : Nat) := by
      unfold XR
      rw [range_map (Hf.paths a) (0, []) (fun x => Value.int .i64 (x.1 : Nat)), range_map (Hf.paths b) (0, []) (fun x => Value.int .i64 (x.1 : Nat))]
      simp only [Hf.paths, List.map_append, List.map_map]; rfl
    rw [e1] at hx
    have e2 : (Hf.paths (.node a b)).length = (Hf.paths a).length + (Hf.paths b).length := by simp [Hf.paths]
    rw [e2]
    exact own_low hx (by omega)
  · have e1 : YR ⟨#[48]⟩ (fun i => tx ((Hf.paths a)[i]?.getD (0, [])).2) (Hf.paths a).length ++ YR ⟨#[49]⟩ (fun i => tx ((Hf.paths b)[i]?.getD (0, [])).2) (Hf.paths b).length = (Hf.paths (.node a b)).map fun x => .string (tx x.2) := by
      unfold YR
      rw [range_map (Hf.paths a) (0, []) (fun x => Value.string (⟨#[48]⟩ ++ tx x.2)), range_map (Hf.paths b) (0, []) (fun x => Value.string (⟨#[49]⟩ ++ tx x.2))]
      simp only [Hf.paths, List.map_append, List.map_map, tx_false, tx_true]; rfl
    rw [e1] at hy
    have e2 : (Hf.paths (.node a b)).length = (Hf.paths a).length + (Hf.paths b).length := by simp [Hf.paths]
    rw [e2]
    exact own_low hy (by omega)

/-- the cells of a tree of the document's -/
def cellP (f : Nat → Nat) (p : Hf.T × Value × Value) : List Value := [.int .i64 (Hf.wt f p.1 : Nat), p.2.1, p.2.2]
theorem flat3 (f : Nat → Nat) : ∀ (ps : List (Hf.T × Value × Value)) (i : Nat) (p : Hf.T × Value × Value), ps[i]? = some p →
    (ps.flatMap (cellP f))[i * 3]? = some (.int .i64 (Hf.wt f p.1 : Nat)) ∧ (ps.flatMap (cellP f))[i * 3 + 1]? = some p.2.1 ∧ (ps.flatMap (cellP f))[i * 3 + 2]? = some p.2.2
  | [], i, p, h => by simp at h
  | q :: ps, 0, p, h => by
    have : q = p := by simpa using h
    subst this
    simp [cellP]
  | q :: ps, i + 1, p, h => by
    rw [List.getElem?_cons_succ] at h
    obtain ⟨h1, h2, h3⟩ := flat3 f ps i p h
    rw [List.flatMap_cons]
    have hl : (cellP f q).length = 3 := rfl
    refine ⟨?_, ?_, ?_⟩
    · rw [List.getElem?_append_right (by omega), hl, show (i + 1) * 3 - 3 = i * 3 by omega]; exact h1
    · rw [List.getElem?_append_right (by omega), hl, show (i + 1) * 3 + 1 - 3 = i * 3 + 1 by omega]; exact h2
    · rw [List.getElem?_append_right (by omega), hl, show (i + 1) * 3 + 2 - 3 = i * 3 + 2 by omega]; exact h3

/-- a row of trees in memory -/
structure FR (f : Nat → Nat) (base : Nat) (w : World) (lv : Value) (ps : List (Hf.T × Value × Value)) : Prop where
  own : w.ownsRow base 209 3 lv ps.length (ps.flatMap (cellP f))
  all : ∀ p ∈ ps, GO base w p.1 p.2.1 p.2.2

theorem FR.below {f : Nat → Nat} {base : Nat} {w w' : World} {lv : Value} {ps : List (Hf.T × Value × Value)} (h : FR f base w lv ps) (hb : Below w.heap.size w w') : FR f base w' lv ps :=
  ⟨own_keep h.own (Kept.of_below hb (Nat.le_refl _) (fun _ => False)) (fun _ _ h => h), fun p hp => (h.all p hp).below hb⟩
theorem own3_cells {w : World} {base : Nat} {e : TypeId} {g n cap : Nat} {xs : List Value} (h : w.ownsRow base e 3 (.slice (some ⟨g, 0, none⟩) n cap) n xs) {i : Nat} {u : Value} (hu : xs[i]? = some u) : w.cell? ⟨g, i, none⟩ = some u := by
  have := h.cells (g := g) rfl i u hu
  have e : (⟨g, 0, none⟩ : Addr).add i = ⟨g, i, none⟩ := by
    unfold Addr.add
    simp; omega
  rw [e] at this; exact this
theorem FR.row {f : Nat → Nat} {base : Nat} {w : World} {lv : Value} {ps : List (Hf.T × Value × Value)} (h : FR f base w lv ps) (hp : 0 < ps.length) :
    ∃ g cap, lv = .slice (some ⟨g, 0, none⟩) ps.length cap ∧ base ≤ g ∧ g < w.heap.size ∧
      (∀ i p, ps[i]? = some p → w.cell? ⟨g, i * 3, none⟩ = some (.int .i64 (Hf.wt f p.1 : Nat)) ∧ w.cell? ⟨g, i * 3 + 1, none⟩ = some p.2.1 ∧ w.cell? ⟨g, i * 3 + 2, none⟩ = some p.2.2) ∧ GRow f w g (ps.map Prod.fst) := by
  obtain ⟨g, cap, rfl, _⟩ := h.own.form hp
  have hc : ∀ i p, ps[i]? = some p → w.cell? ⟨g, i * 3, none⟩ = some (.int .i64 (Hf.wt f p.1 : Nat)) ∧ w.cell? ⟨g, i * 3 + 1, none⟩ = some p.2.1 ∧ w.cell? ⟨g, i * 3 + 2, none⟩ = some p.2.2 := fun i p hi => by
    obtain ⟨h1, h2, h3⟩ := flat3 f ps i p hi
    exact ⟨own3_cells h.own h1, own3_cells h.own h2, own3_cells h.own h3⟩
  refine ⟨g, cap, rfl, (own_top h.own rfl).1, (own_top h.own rfl).2, hc, fun i t ht => ?_⟩
  rw [List.getElem?_map] at ht
  rcases hi : ps[i]? with _ | p
  · rw [hi] at ht; simp at ht
  · rw [hi] at ht
    have : p.1 = t := by simpa using ht
    subst this
    obtain ⟨h1, h2, h3⟩ := hc i p hi
    exact ⟨p.2.1, p.2.2, h1, h2, h3, (h.all p (List.mem_of_getElem? hi)).gv⟩

/-- one tree more in the row itself -/
theorem FR.more {f : Nat → Nat} {base : Nat} {w w2 : World} {lv : Value} {ps : List (Hf.T × Value × Value)} (h : FR f base w lv ps) {p : Hf.T × Value × Value} (hp : GO base w p.1 p.2.1 p.2.2) {g cap : Nat}
    (hown : w2.ownsRow base 209 3 (.slice (some ⟨g, 0, none⟩) (ps.length + 1) cap) (ps.length + 1) (ps.flatMap (cellP f) ++ cellP f p)) (hg : w.grownBy w2 lv.ownBlock) : FR f base w2 (.slice (some ⟨g, 0, none⟩) (ps.length + 1) cap) (ps ++ [p]) := by
  have hk : Kept (fun a => some a = lv.ownBlock) w w2 := (Kept.refl _ w).grown hg (fun a h _ => h.symm)
  refine ⟨?_, fun q hq => ?_⟩
  · rw [List.length_append, List.flatMap_append]
    simpa using hown
  · have hG : GO base w q.1 q.2.1 q.2.2 := by
      rw [List.mem_append] at hq
      rcases hq with hq | hq
      · exact h.all q hq
      · have : q = p := by simpa using hq
        rw [this]; exact hp
    exact hG.keep hk (ne_of (owns_ne h.own hG.b (by decide))) (ne_of (owns_ne h.own hG.c (by decide)))

theorem new_row (w : World) (base : Nat) (hb : base ≤ w.heap.size) (e : TypeId) (u : Value) {g : Nat} (hg : w.heap.size = g) : (w.alloc (.cells #[u] e)).ownsRow base e 1 (.slice (some ⟨g, 0, none⟩) 1 1) 1 [u] := by
  subst hg
  exact ⟨rfl, .inr ⟨w.heap.size, 1, #[u], rfl, hb, heap_alloc_new w _, Nat.le_refl _, by decide, rfl, rfl⟩⟩
theorem below_alloc (w : World) (o : Obj) : Below w.heap.size w (w.alloc o) := (Below.refl _ _).alloc (Nat.le_refl _) o
/-- a leaf, as it is made -/
theorem leaf_go (base : Nat) (w : World) (c : Nat) (hb : base ≤ w.heap.size) (o : Obj) :
    GO base (((w.alloc (.cells #[.int .i64 (c : Nat)] 3)).alloc (.cells #[.string ⟨#[]⟩] 9)).alloc o) (.leaf c) (.slice (some ⟨w.heap.size, 0, none⟩) 1 1) (.slice (some ⟨w.heap.size + 1, 0, none⟩) 1 1) := by
  have h1 := new_row w base hb 3 (.int .i64 (c : Nat)) rfl
  have h2 := new_row (w.alloc (.cells #[.int .i64 (c : Nat)] 3)) base (by simp; omega) 9 (.string ⟨#[]⟩) (g := w.heap.size + 1) (by simp)
  have k : ∀ (w : World) (o : Obj), Kept (fun _ => False) w (w.alloc o) := fun w o => Kept.of_below (below_alloc w o) (Nat.le_refl _) _
  exact ⟨own_keep (own_keep h1 (k _ _) (fun _ _ h => h)) (k _ _) (fun _ _ h => h), own_keep h2 (k _ _) (fun _ _ h => h)⟩

theorem SRow.frozen {w : World} {g : Nat} {t : Nat → ByteArray} (h : SRow w g t) (c : Nat) : w.frozen? ⟨g, c, none⟩ = false := by
  unfold SRow at h; simp [World.frozen?, h]
theorem SRow.set {w : World} {g : Nat} {t : Nat → ByteArray} (h : SRow w g t) (c : Nat) (v : ByteArray) : SRow (w.setCell ⟨g, c, none⟩ (.string v)) g (putS t c v) := by
  unfold SRow at *
  rw [← rowS_set]
  simp [World.setCell, Array.getElem?_modify, h]
theorem SRow.ne {w : World} {b : Nat} {t : Nat → ByteArray} (h : SRow w b t) {base : Nat} {e : TypeId} {k : Nat} {v : Value} {m : Nat} {xs : List Value} (h1 : w.ownsRow base e k v m xs) (he : e ≠ 9) : v.ownBlock ≠ some b := by
  intro hb
  rcases h1.2 with ⟨rfl, _⟩ | ⟨g, cap, cur, rfl, _, hg, _⟩
  · cases hb
  · have : g = b := by simpa [Value.ownBlock] using hb
    subst this
    unfold SRow at h
    rw [h] at hg
    simp at hg
    exact he hg.2.symm
theorem SRow.new (w : World) : SRow (w.alloc (.cells (rowS fun _ => ByteArray.empty) 9)) w.heap.size (fun _ => ByteArray.empty) := heap_alloc_new w _

/-- codes laid, of the first so many -/
def layTo (ps : List (Nat × List Bool)) : Nat → (Nat → ByteArray)
  | 0 => fun _ => ByteArray.empty
  | i + 1 => match ps[i]? with
    | some x => putS (layTo ps i) x.1 (tx x.2)
    | none => layTo ps i
theorem layTo_succ {ps : List (Nat × List Bool)} {i : Nat} {x : Nat × List Bool} (h : ps[i]? = some x) : layTo ps (i + 1) = putS (layTo ps i) x.1 (tx x.2) := by
  simp only [layTo, h]
theorem leaves_succ (f : Nat → Nat) (k : Nat) : leavesTo f (k + 1) = if 0 < f k then leavesTo f k ++ [.leaf k] else leavesTo f k := by
  unfold leavesTo
  rw [List.range_succ, List.filter_append, List.map_append]
  by_cases h : 0 < f k
  · simp [h]
  · simp [h]

end Go.Proofs.YtopihgmemnokkaaGreat

