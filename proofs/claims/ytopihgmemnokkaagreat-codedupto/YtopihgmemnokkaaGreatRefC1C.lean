import Derived.Test.YtopihgmemnokkaaGreatCodeW8C
import Derived.Test.YtopihgmemnokkaaGreatWalk15C
namespace Go.Proofs.YtopihgmemnokkaaGreat
open Go.RowKit Go.Shelf Go.Lib

/-- a tree of the document's: its bytes and their codes -/
def GV (w : World) (t : Hf.T) (v1 v2 : Value) : Prop :=
  ∃ g1 c1 g2 c2, v1 = .slice (some ⟨g1, 0, none⟩) (Hf.paths t).length c1 ∧ v2 = .slice (some ⟨g2, 0, none⟩) (Hf.paths t).length c2 ∧
    ∀ i x, (Hf.paths t)[i]? = some x → w.cell? ⟨g1, i, none⟩ = some (.int .i64 (x.1 : Nat)) ∧ w.cell? ⟨g2, i, none⟩ = some (.string (tx x.2))
theorem GV.keep {P : Nat → Prop} {w w' : World} {t : Hf.T} {v1 v2 : Value} (h : GV w t v1 v2) (hk : Kept P w w') (hP : ∀ k, k < w.heap.size → ¬ P k) : GV w' t v1 v2 := by
  obtain ⟨g1, c1, g2, c2, h1, h2, h3⟩ := h
  refine ⟨g1, c1, g2, c2, h1, h2, fun i x hx => ?_⟩
  obtain ⟨k1, k2⟩ := h3 i x hx
  exact ⟨cellK hk k1 (hP _ (World.block_lt_of_cell? w _ k1)), cellK hk k2 (hP _ (World.block_lt_of_cell? w _ k2))⟩
theorem GV.below {w w' : World} {t : Hf.T} {v1 v2 : Value} (h : GV w t v1 v2) (hb : Below w.heap.size w w') : GV w' t v1 v2 :=
  h.keep (Kept.of_below hb (Nat.le_refl _) (fun _ => False)) (fun _ _ h => h)
theorem paths_pos (t : Hf.T) : 0 < (Hf.paths t).length := by
  have h := congrArg List.length (Hf.paths_bytes t)
  rw [List.length_map] at h
  rw [h]
  exact List.length_pos_of_mem (Hf.least_mem t)
theorem paths_mem {t : Hf.T} {i : Nat} {x : Nat × List Bool} (h : (Hf.paths t)[i]? = some x) : x.1 ∈ Hf.bytes t := by
  rw [← Hf.paths_bytes]
  exact List.mem_map_of_mem (f := Prod.fst) (List.mem_of_getElem? h)

set_option maxRecDepth 100000 in
set_option maxHeartbeats 1000000 in
theorem lowest_any (t : Hf.T) (W0 : Int) (v1 v2 : Value) (w : World) (h : GV w t v1 v2) (hlen : (Hf.paths t).length ≤ 100000) (hbd : ∀ c ∈ Hf.bytes t, c ≤ 255) :
    Calls Tryz.prog 163 #[.agg #[.int .i64 W0, v1, v2]] w fun e w' => e = .returned (.int .i64 (Hf.least t : Nat)) ∧ Below w.heap.size w w' := by
  have hpos := paths_pos t
  have hb0 : Below w.heap.size w (w.alloc (.cells #[.int .i64 W0, v1, v2] 209)) := (Below.refl _ _).alloc (Nat.le_refl _) _
  obtain ⟨g1, c1, g2, c2, rfl, rfl, h3⟩ := h.below hb0
  clear h
  have hfin : ∀ n : Nat, n ∈ Hf.bytes t → (∀ (i : Nat) (x : Nat × List Bool), (Hf.paths t)[i]? = some x → n ≤ x.1) → n = Hf.least t := by
    intro n h1 h2
    have h4 := Hf.least_le t n h1
    obtain ⟨x, hx, hxe⟩ : ∃ x, x ∈ Hf.paths t ∧ x.1 = Hf.least t := by
      have := Hf.least_mem t
      rw [← Hf.paths_bytes] at this
      obtain ⟨x, hx, hxe⟩ := List.mem_map.1 this
      exact ⟨x, hx, hxe⟩
    obtain ⟨i, hi, hie⟩ := List.mem_iff_getElem.1 hx
    have := h2 i x (by rw [List.getElem?_eq_getElem hi, hie])
    omega
  have HF : Hid (∀ n : Nat, n ∈ Hf.bytes t → (∀ (i : Nat) (x : Nat × List Bool), (Hf.paths t)[i]? = some x → n ≤ x.1) → n = Hf.least t) := hfin
  have H3 : Hid (∀ i x, (Hf.paths t)[i]? = some x → (w.alloc (.cells #[.int .i64 W0, .slice (some ⟨g1, 0, none⟩) (Hf.paths t).length c1, .slice (some ⟨g2, 0, none⟩) (Hf.paths t).length c2] 209)).cell? ⟨g1, i, none⟩ = some (.int .i64 (x.1 : Nat))) := fun i x hx => (h3 i x hx).1
  have HBD : Hid (∀ c ∈ Hf.bytes t, c ≤ 255) := hbd
  have HB0 : Hid (Below w.heap.size w (w.alloc (.cells #[.int .i64 W0, .slice (some ⟨g1, 0, none⟩) (Hf.paths t).length c1, .slice (some ⟨g2, 0, none⟩) (Hf.paths t).length c2] 209))) := hb0
  obtain ⟨x0, hx0⟩ : ∃ x0, (Hf.paths t)[0]? = some x0 := ⟨_, List.getElem?_eq_getElem hpos⟩
  have k0 := (h3 0 x0 hx0).1
  have HX0 : Hid ((Hf.paths t)[0]? = some x0) := hx0
  clear h3 hfin hbd hb0 hx0
  generalize hL : (Hf.paths t).length = L at *
  have HL : Hid ((Hf.paths t).length = L) := hL
  clear hL
  have hL0 : (0 : Int) < (L : Int) := by omega
  go_enter Tryz.func163, Tryz.ntmps163
  go_wp2
  go_loopw [3, 4] (fun nv iv wr => wr = w.alloc (.cells #[.int .i64 W0, .slice (some ⟨g1, 0, none⟩) L c1, .slice (some ⟨g2, 0, none⟩) L c2] 209) ∧ ∃ n i : Nat, nv = .int .i64 n ∧ iv = .int .i64 i ∧ i ≤ L ∧ Hid (n ∈ Hf.bytes t ∧ ∀ (j : Nat) (x : Nat × List Bool), j < i → (Hf.paths t)[j]? = some x → n ≤ x.1)) (fun _ iv _ => L - (intOf iv).toNat)
  case atStart =>
    refine ⟨rfl, x0.1, 1, rfl, rfl, by omega, paths_mem HX0.out, fun j x hj hx => ?_⟩
    have : j = 0 := by omega
    subst this
    rw [HX0.out] at hx
    have : x = x0 := by simpa using hx.symm
    subst this; exact Nat.le_refl _
  case round =>
    obtain ⟨rfl, n, i, rfl, rfl, hi, HN⟩ := hrel
    by_cases hlt : i < L
    · obtain ⟨x, hx⟩ : ∃ x, (Hf.paths t)[i]? = some x := ⟨_, List.getElem?_eq_getElem (by rw [HL.out]; exact hlt)⟩
      have k1 := H3.out i x hx
      have hn := HBD.out n HN.out.1
      have hx2 := HBD.out x.1 (paths_mem hx)
      have NX : Hid (min n x.1 ∈ Hf.bytes t ∧ ∀ (j : Nat) (y : Nat × List Bool), j < i + 1 → (Hf.paths t)[j]? = some y → min n x.1 ≤ y.1) := by
        refine ⟨?_, fun j y hj hy => ?_⟩
        · rcases Nat.le_total n x.1 with h | h
          · rw [Nat.min_eq_left h]; exact HN.out.1
          · rw [Nat.min_eq_right h]; exact paths_mem hx
        · rcases Nat.lt_or_ge j i with h | h
          · have := HN.out.2 j y h hy; omega
          · have : j = i := by omega
            subst this
            rw [hx] at hy
            have : y = x := by simpa using hy.symm
            subst this; omega
      clear HN hx
      generalize x.1 = y at *
      have hli : (i : Int) < (L : Int) := by omega
      go_wp2_with fail
      refine (least_any n y _).mono ?_
      rintro e w5 ⟨rfl, hw5⟩
      subst hw5
      generalize min n y = z at *
      go_wp2
      exact ⟨⟨trivial, z, i + 1, rfl, by go_num, by omega, NX⟩, by simp [intOf]; omega⟩
    · have hi' : i = L := by omega
      subst hi'
      go_wp2
      go_ret
      refine ⟨?_, HB0.out⟩
      rw [← HF.out n HN.out.1 (fun j x hx => HN.out.2 j x (by
        have := (List.getElem?_eq_some_iff.1 hx).1
        rw [HL.out] at this; exact this) hx)]
      rfl

set_option maxRecDepth 100000 in
set_option maxHeartbeats 1000000 in
theorem freqs_any (s : ByteArray) (w : World) (hs : s.size ≤ 1000) :
    Calls Tryz.prog 91 #[.string s] w fun e w' => e = .returned (.slice (some ⟨w.heap.size, 0, none⟩) 256 256) ∧ Row w' w.heap.size 3 256 (cntB s s.size) ∧ Below w.heap.size w w' := by
  have hmk : ∀ w : World, (Instr.makeSlice 30 (.int .i64 256) (.int .i64 256)).run Tryz.prog w = .ok (.slice (some ⟨w.heap.size, 0, none⟩) 256 256) (w.alloc (.cells (rowC 256 fun _ => 0) 3)) := fun w => make_rows 256 (by omega) w
  go_enter Tryz.func91, Tryz.ntmps91
  go_wp2
  go_loopw [4] (fun i wr => ∃ p : Nat, p ≤ s.size ∧ i = .int .i64 p ∧ Row wr w.heap.size 3 256 (cntB s p) ∧ Below w.heap.size w wr) (fun i _ => s.size - (intOf i).toNat)
  case atStart => exact ⟨0, by omega, rfl, (Row.new w _ _ _).congr fun c _ => by simp [cntB, Cc.cn], (Below.refl _ _).alloc (Nat.le_refl _) _⟩
  case round =>
    clear hmk
    obtain ⟨p, hp, rfl, hR1, hBl⟩ := hrel
    by_cases hlt : p < s.size
    · have hby := BY_le s p
      have hbv := BY_lt s hlt
      have c0 := hR1.cell (i := BY s p) (by omega)
      have f0 := hR1.frozen (BY s p)
      have hcl : cntB s p (BY s p) ≤ p := Cc.cn_le p _
      have hg : Row (wr.setCell ⟨w.heap.size, BY s p, none⟩ (.int .i64 ((cntB s p (BY s p) + 1 : Nat) : Int))) w.heap.size 3 256 (cntB s (p + 1)) :=
        (hR1.set (BY s p) _).congr fun c _ => cntB_succ s p c
      rw [hbv] at c0 f0 hcl hg hby
      have hx : (s[p].toNat : Int) < 256 := by omega
      clear hbv hby
      generalize cntB s p s[p].toNat = q at c0 hcl hg
      go_wp2
      exact ⟨⟨p + 1, by omega, by go_num, hg, hBl.setCell (by simp) _⟩, by simp [intOf]; omega⟩
    · have hp' : p = s.size := by omega
      subst hp'
      go_wp2
      go_ret
      exact ⟨rfl, hR1, hBl⟩

end Go.Proofs.YtopihgmemnokkaaGreat

