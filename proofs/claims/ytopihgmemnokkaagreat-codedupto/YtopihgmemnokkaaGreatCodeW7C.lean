import Derived.Test.YtopihgmemnokkaaGreatCodeW6C
import Derived.Test.YtopihgmemnokkaaGreatRowCC
namespace Go.Proofs.YtopihgmemnokkaaGreat
open Go.RowKit Go.Shelf Go.Lib

theorem size_rowR (g : Nat → Nat × Nat) : (rowR g).size = 512 := by simp [rowR]
theorem rowR_get0 (g : Nat → Nat × Nat) {c : Nat} (h : c < 256) : (rowR g)[c * 2]? = some (.int .i64 ((g c).1 : Nat)) := by
  unfold rowR
  rw [Array.getElem?_map, Array.getElem?_range, if_pos (by omega)]
  simp
theorem rowR_get1 (g : Nat → Nat × Nat) {c : Nat} (h : c < 256) : (rowR g)[c * 2 + 1]? = some (.int .u64 ((g c).2 : Nat)) := by
  unfold rowR
  rw [Array.getElem?_map, Array.getElem?_range, if_pos (by omega)]
  simp only [Option.map_some]
  rw [if_neg (by omega), show (c * 2 + 1) / 2 = c by omega]
def updR (g : Nat → Nat × Nat) (c : Nat) (x : Nat × Nat) : Nat → Nat × Nat := fun d => if d = c then x else g d
theorem rowR_set (g : Nat → Nat × Nat) {c : Nat} (h : c < 256) (x : Nat × Nat) : ((rowR g).setIfInBounds (c * 2) (.int .i64 (x.1 : Nat))).setIfInBounds (c * 2 + 1) (.int .u64 (x.2 : Nat)) = rowR (updR g c x) := by
  apply Array.ext_getElem?
  intro j
  rw [Array.getElem?_setIfInBounds, Array.getElem?_setIfInBounds]
  simp only [Array.size_setIfInBounds, size_rowR]
  by_cases hj : j < 512
  · have e0 : ∀ G, (rowR G)[j]? = some (if j % 2 = 0 then .int .i64 ((G (j / 2)).1 : Nat) else .int .u64 ((G (j / 2)).2 : Nat)) := fun G => by
      unfold rowR; rw [Array.getElem?_map, Array.getElem?_range, if_pos hj]; rfl
    rw [e0, e0]
    by_cases h1 : c * 2 + 1 = j
    · rw [if_pos h1, if_pos (by omega), if_neg (by omega), show j / 2 = c by omega]; simp [updR]
    · rw [if_neg h1]
      by_cases h2 : c * 2 = j
      · rw [if_pos h2, if_pos (show c * 2 < 512 by omega), if_pos (show j % 2 = 0 by omega), show j / 2 = c by omega]; simp [updR]
      · rw [if_neg h2]
        have : ¬ j / 2 = c := by omega
        simp [updR, this]
  · have h1 : ∀ G, (rowR G)[j]? = none := fun G => by simp [size_rowR]; omega
    rw [h1, h1, if_neg (by omega), if_neg (by omega)]

/-- the codes, as they are made -/
def Made (w : World) (M : Nat) (g : Nat → Nat × Nat) : Prop := w.heap[M]? = some (.cells (rowR g) 115 (0, 0))
theorem Made.lt {w : World} {M : Nat} {g : Nat → Nat × Nat} (h : Made w M g) : M < w.heap.size := (Array.getElem?_eq_some_iff.1 h).1
theorem Made.c0 {w : World} {M : Nat} {g : Nat → Nat × Nat} (h : Made w M g) {c : Nat} (hc : c < 256) : w.cell? ⟨M, c * 2, none⟩ = some (.int .i64 ((g c).1 : Nat)) := by
  unfold Made at h; simp [World.cell?, h, rowR_get0 g hc]
theorem Made.c1 {w : World} {M : Nat} {g : Nat → Nat × Nat} (h : Made w M g) {c : Nat} (hc : c < 256) : w.cell? ⟨M, c * 2 + 1, none⟩ = some (.int .u64 ((g c).2 : Nat)) := by
  unfold Made at h; simp [World.cell?, h, rowR_get1 g hc]
theorem Made.frozen {w : World} {M : Nat} {g : Nat → Nat × Nat} (h : Made w M g) (i : Nat) : w.frozen? ⟨M, i, none⟩ = false := by
  unfold Made at h; simp [World.frozen?, h]
theorem Made.keep {P : Nat → Prop} {w w' : World} {M : Nat} {g : Nat → Nat × Nat} (h : Made w M g) (hk : Kept P w w') (hn : ¬ P M) : Made w' M g := by
  have := h.lt
  unfold Made at *; rw [hk.block M this hn]; exact h
theorem Made.put {w : World} {M : Nat} {g : Nat → Nat × Nat} (h : Made w M g) {c : Nat} (hc : c < 256) (x : Nat × Nat) : Made ((w.setCell ⟨M, c * 2, none⟩ (.int .i64 (x.1 : Nat))).setCell ⟨M, c * 2 + 1, none⟩ (.int .u64 (x.2 : Nat))) M (updR g c x) := by
  unfold Made at *
  rw [← rowR_set g hc x]
  simp [World.setCell, Array.getElem?_modify, h]
theorem Made.tree {w : World} {M : Nat} {g : Nat → Nat × Nat} (h : Made w M g) : ∀ (b : Nat) (cs : Array Value), w.heap[b]? = some (.cells cs 181 (0, 0)) → ¬ b = M := by
  rintro b cs hb rfl
  unfold Made at h
  rw [hb] at h
  simp at h

/-- the codes of a tree's bytes, behind a way -/
def spellF : Hf.T → Nat → Nat → (Nat → Nat × Nat) → (Nat → Nat × Nat)
  | .leaf c, n, v, g => updR g c (n, v)
  | .node l r, n, v, g => spellF r (n + 1) (2 * v + 1) (spellF l (n + 1) (2 * v) g)

set_option maxRecDepth 100000 in
set_option maxHeartbeats 1000000 in
theorem spell_leaf (f : Nat → Nat) (c b M n v : Nat) (g : Nat → Nat × Nat) (w : World) (ht : TreeAt f w (.leaf c) b) (hm : Made w M g) (hc : c < 256) :
    Calls Tryz.prog 117 #[.pointer (some ⟨b, 0, none⟩), runV n v, .pointer (some ⟨M, 0, none⟩)] w fun e w' => e = .returned (.tuple #[]) ∧ Made w' M (updR g c (n, v)) ∧ Kept (fun k => k = M) w w' := by
  have hml := hm.lt
  have hne : b ≠ M := hm.tree b _ ht
  unfold TreeAt at ht
  have hbl : b < w.heap.size := (Array.getElem?_eq_some_iff.1 ht).1
  have c1 : w.cell? ⟨b, 1, none⟩ = some (.int .u8 (c : Nat)) := by simp [World.cell?, ht]
  have c2 : w.cell? ⟨b, 2, none⟩ = some (.pointer none) := by simp [World.cell?, ht]
  have m0 := hm.c0 hc
  have m1 := hm.c1 hc
  have f0 := hm.frozen (c * 2)
  have f1 := hm.frozen (c * 2 + 1)
  have HM : Hid _ := hm
  generalize (g c).1 = g1 at *
  generalize (g c).2 = g2 at *
  have hci : (c : Int) < 256 := by omega
  clear hm ht
  unfold runV
  go_enter Tryz.func117, Tryz.ntmps117
  go_wp2
  go_region
  all_goals go_wp2
  have k1 : Kept (fun k => k = M) w ((((w.setCell ⟨M, c * 2, none⟩ (.int .i64 (n : Nat))).setCell ⟨M, c * 2 + 1, none⟩ (.int .u64 (v : Nat))).alloc (.cells #[.int .i64 (n : Nat), .int .u64 (v : Nat)] 114)).drew) :=
    ((((Kept.refl (fun k => k = M) w).setCell (show (⟨M, c * 2, none⟩ : Addr).block = M from rfl) _).setCell (show (⟨M, c * 2 + 1, none⟩ : Addr).block = M from rfl) _).alloc _).drew
  have h1 := Made.put HM.out hc (n, v)
  have h2 : Made ((((w.setCell ⟨M, c * 2, none⟩ (.int .i64 (n : Nat))).setCell ⟨M, c * 2 + 1, none⟩ (.int .u64 (v : Nat))).alloc (.cells #[.int .i64 (n : Nat), .int .u64 (v : Nat)] 114)).drew) M (updR g c (n, v)) :=
    h1.keep (((Kept.refl (fun _ => False) _).alloc _).drew) (fun h => h)
  refine bodyPost_ret (results_none rfl _ _ _) rfl ?_
  exact ⟨rfl, h2, k1⟩

theorem run_ix_two0 (a b : Value) (w : World) : (Instr.index 179 (.agg #[a, b]) (.int .i64 0)).run Tryz.prog w = .ok a w := by
  simp [Instr.index, run_underlying Tryz.underlying179, asIntOf, part, Tryz.isAgg178, Tryz.sizeOf178]
theorem run_ix_two1 (a b : Value) (w : World) : (Instr.index 179 (.agg #[a, b]) (.int .i64 1)).run Tryz.prog w = .ok b w := by
  simp [Instr.index, run_underlying Tryz.underlying179, asIntOf, part, Tryz.isAgg178, Tryz.sizeOf178]

set_option maxRecDepth 100000 in
set_option maxHeartbeats 1000000 in
theorem spell_any (f : Nat → Nat) : ∀ (t : Hf.T) (b M n v : Nat) (g : Nat → Nat × Nat) (w : World), TreeAt f w t b → Made w M g → (∀ c ∈ Hf.bytes t, c < 256) → n + Hf.ht t ≤ 64 → v < 2 ^ n →
    Calls Tryz.prog 117 #[.pointer (some ⟨b, 0, none⟩), runV n v, .pointer (some ⟨M, 0, none⟩)] w fun e w' => e = .returned (.tuple #[]) ∧ Made w' M (spellF t n v g) ∧ Kept (fun k => k = M) w w'
  | .leaf c, b, M, n, v, g, w, ht, hm, hc, _, _ => spell_leaf f c b M n v g w ht hm (hc c (by simp [Hf.bytes]))
  | .node l r, b, M, n, v, g, w, ht, hm, hc, hn, hv => by
    obtain ⟨bl, br, h1, hl, hr⟩ := ht
    have hml := hm.lt
    have hbl : b < w.heap.size := (Array.getElem?_eq_some_iff.1 h1).1
    have c2 : w.cell? ⟨b, 2, none⟩ = some (.pointer (some ⟨bl, 0, none⟩)) := by simp [World.cell?, h1]
    have c3 : w.cell? ⟨b, 3, none⟩ = some (.pointer (some ⟨br, 0, none⟩)) := by simp [World.cell?, h1]
    simp only [Hf.ht] at hn
    have hn63 : n < 64 := by omega
    have ihl := fun g w' h1 h2 => spell_any f l bl M (n + 1) (2 * v) g w' h1 h2 (fun c hx => hc c (by simp [Hf.bytes, hx])) (by omega) (by rw [Nat.pow_succ]; omega)
    have ihr := fun g w' h1 h2 => spell_any f r br M (n + 1) (2 * v + 1) g w' h1 h2 (fun c hx => hc c (by simp [Hf.bytes, hx])) (by omega) (by rw [Nat.pow_succ]; omega)
    have IHL : Hid _ := ihl
    have IHR : Hid _ := ihr
    have HM : Hid (Made w M g) := hm
    have HL : Hid (TreeAt f w l bl) := hl
    have HR : Hid (TreeAt f w r br) := hr
    have HV : Hid (v < 2 ^ n) := hv
    have hbx : (w.alloc (.cells #[.int .i64 (n : Nat), .int .u64 (v : Nat)] 114)).heap[w.heap.size]? = some (.cells #[.int .i64 (n : Nat), .int .u64 (v : Nat)] 114 (0, 0)) := heap_alloc_new w _
    have HBX : Hid _ := hbx
    clear h1 hl hr ihl ihr hm hc hv hn hbx
    show Calls Tryz.prog 117 #[.pointer (some ⟨b, 0, none⟩), .agg #[.int .i64 (n : Nat), .int .u64 (v : Nat)], .pointer (some ⟨M, 0, none⟩)] w _
    go_enter Tryz.func117, Tryz.ntmps117
    go_wp2
    go_loopw [6, 7, 26] (fun _ _ i wr => ∃ j : Nat, j ≤ 2 ∧ i = .int .i64 j ∧ Hid (Made wr M (if j = 0 then g else if j = 1 then spellF l (n + 1) (2 * v) g else spellF (.node l r) n v g)) ∧ Hid (Kept (fun k => k = M) (w.alloc (.cells #[.int .i64 (n : Nat), .int .u64 (v : Nat)] 114)) wr)) (fun _ _ i _ => 2 - (intOf i).toNat)
    case atStart => exact ⟨0, by omega, rfl, HM.out.keep ((Kept.refl (fun _ => False) w).alloc _) (fun h => h), Kept.refl _ _⟩
    case round =>
      obtain ⟨i, hi, rfl, MD, KE⟩ := hrel
      have hbx := KE.out.block w.heap.size (by simp) (by omega)
      rw [HBX.out] at hbx
      have d1 : wr.cell? ⟨w.heap.size, 0, none⟩ = some (.int .i64 (n : Nat)) := by simp [World.cell?, hbx]
      have d2 : wr.cell? ⟨w.heap.size, 1, none⟩ = some (.int .u64 (v : Nat)) := by simp [World.cell?, hbx]
      have hnt : ∀ (b : Nat) (cs : Array Value), (w.alloc (.cells #[.int .i64 (n : Nat), .int .u64 (v : Nat)] 114)).heap[b]? = some (.cells cs 181 (0, 0)) → ¬ b = M := Made.tree (HM.out.keep ((Kept.refl (fun _ => False) w).alloc _) (fun h => h))
      have hix0 := run_ix_two0 (.pointer (some ⟨bl, 0, none⟩)) (.pointer (some ⟨br, 0, none⟩))
      have hix1 := run_ix_two1 (.pointer (some ⟨bl, 0, none⟩)) (.pointer (some ⟨br, 0, none⟩))
      clear hbx c2 c3
      have hi3 : i = 0 ∨ i = 1 ∨ i = 2 := by omega
      rcases hi3 with hi3 | hi3 | hi3
      · obtain rfl : i = 0 := by omega
        have hmd : Made wr M (g) := MD.out
        have htr : TreeAt f wr l bl := TreeAt.keep KE.out hnt (HL.out.keep ((Kept.refl (fun _ => False) w).alloc _) (fun _ _ _ h => h))
        have HMD : Hid _ := hmd
        have HTR : Hid _ := htr
        clear hmd htr hnt MD
        go_wp2_with fail
        refine (with_any n v 0 _ hn63 HV.out (by omega)).mono ?_
        rintro e w2 ⟨rfl, hB2⟩
        have K2 : Hid _ := Kept.of_below hB2 (Nat.le_refl _) (fun _ => False)
        clear hB2
        go_wp2_with fail
        refine (IHL.out _ w2 (TreeAt.keep K2.out (fun _ _ _ h => h) HTR.out) (Made.keep HMD.out K2.out (fun h => h))).mono ?_
        rintro e w3 ⟨rfl, hm3, hk3⟩
        have HM3 : Hid _ := hm3
        have HK3 : Hid (Kept (fun k => k = M) (w.alloc (.cells #[.int .i64 (n : Nat), .int .u64 (v : Nat)] 114)) w3) := (KE.out.trans' K2.out (fun _ _ h => h.elim)).trans hk3
        clear hm3 hk3 K2 HMD HTR
        go_wp2
        exact ⟨⟨1, by omega, by go_num, HM3, HK3⟩, by simp [intOf]⟩
      · obtain rfl : i = 1 := by omega
        have hmd : Made wr M (spellF l (n + 1) (2 * v) g) := MD.out
        have htr : TreeAt f wr r br := TreeAt.keep KE.out hnt (HR.out.keep ((Kept.refl (fun _ => False) w).alloc _) (fun _ _ _ h => h))
        have HMD : Hid _ := hmd
        have HTR : Hid _ := htr
        clear hmd htr hnt MD
        go_wp2_with fail
        refine (with_any n v 1 _ hn63 HV.out (by omega)).mono ?_
        rintro e w2 ⟨rfl, hB2⟩
        have K2 : Hid _ := Kept.of_below hB2 (Nat.le_refl _) (fun _ => False)
        clear hB2
        go_wp2_with fail
        refine (IHR.out _ w2 (TreeAt.keep K2.out (fun _ _ _ h => h) HTR.out) (Made.keep HMD.out K2.out (fun h => h))).mono ?_
        rintro e w3 ⟨rfl, hm3, hk3⟩
        have HM3 : Hid _ := hm3
        have HK3 : Hid (Kept (fun k => k = M) (w.alloc (.cells #[.int .i64 (n : Nat), .int .u64 (v : Nat)] 114)) w3) := (KE.out.trans' K2.out (fun _ _ h => h.elim)).trans hk3
        clear hm3 hk3 K2 HMD HTR
        go_wp2
        exact ⟨⟨2, by omega, by go_num, HM3, HK3⟩, by simp [intOf]⟩
      · obtain rfl : i = 2 := by omega
        clear hnt d1 d2
        go_wp2
        go_end0
        exact ⟨rfl, MD.out, ((Kept.refl (fun k => k = M) w).alloc _).trans KE.out⟩

end Go.Proofs.YtopihgmemnokkaaGreat

