import Derived.Test.YtopihgmemnokkaaGreatWorldF
import Derived.Test.YtopihgmemnokkaaGreatCodeW11F
import Derived.Test.YtopihgmemnokkaaGreatWalk15F
namespace Go.Proofs.YtopihgmemnokkaaGreat
open Go.RowKit

theorem Tryz.infoSlS : (Tryz.prog.info? 31).map (fun i => (i.zero, i.size, i.bytes)) = some (some (.slice none 0 0), 1, 24) := by kernel_rfl

set_option maxRecDepth 100000 in
set_option maxHeartbeats 2000000 in
theorem keepTexts_any (F : Nat → Prop) (B0 wb : Nat) (b q x r t d lv mv l : Value) (ls0 : List Value) (ms0 : List ByteArray) (n : Nat) (xs : List Value) (w : World) (hw : Wd w wb b q x r t lv d mv) (hB : B0 ≤ wb) (L : Texts B0 w lv mv ls0 ms0)
    (hl : w.ownsRow B0 9 1 l n xs) (hne : l.ownBlock = none ∨ l.ownBlock ≠ mv.ownBlock) (hold : ∀ y, y ∈ ls0 → y.ownBlock = none ∨ y.ownBlock ≠ l.ownBlock) (hbb : B0 ≤ w.heap.size) (hlen : ls0.length ≤ 5000000) (hn : n ≤ 5000)
    (hF : ∀ a, F a → a < w.heap.size ∧ a ≠ wb ∧ lv.ownBlock ≠ some a ∧ mv.ownBlock ≠ some a ∧ l.ownBlock ≠ some a) :
    Calls Tryz.prog 49 #[.pointer (some ⟨wb, 0, none⟩), l] w fun e w' => e = .returned (.tuple #[]) ∧ ∃ lv' mv' ls ms, Wd w' wb b q x r t lv' d mv' ∧ Texts B0 w' lv' mv' ls ms ∧ ls.length = ls0.length + 4 ∧ Below B0 w w' ∧ Away F w w' lv' mv' ls0 ls := by
  obtain ⟨i0, hi, hz0, hz1, hz2⟩ := info_parts Tryz.infoSlS
  obtain ⟨j0, hj, hy0, hy1, hy2⟩ := info_parts Tryz.infoStr
  have hms : ms0.length ≤ 5000000 := by rw [← L.len]; exact hlen
  have c6 := hw.cell 7
  simp only [List.getElem?_toArray, List.getElem?_cons_succ, List.getElem?_cons_zero] at c6
  obtain ⟨ma, mc, hmv⟩ := own_slice L.mar
  obtain ⟨la, lc, hlv⟩ := own_slice hl
  have S0 : ∀ w2 m, Kept (fun a => some a = l.ownBlock) w w2 → w2.ownsRow B0 9 1 l n (List.replicate n (.string m)) → TS F B0 w wb b q x r t d ls0 ms0 m n 0 0 0 l lv mv [] w2 := by
    intro w2 m hk hr
    refine ⟨hw.keep hk (fun e => hw.ne hl (by decide) e.symm), hB, ?_, rfl, ?_, hr, hne, ?_, ?_, ?_, fun y hy => by simp at hy, ?_, hbb, ?_⟩
    · rw [List.append_nil]; exact own_keep L.own hk (ne_of (owns_ne hl L.own (by decide)))
    · simp only [List.replicate_zero, List.append_nil]; exact own_keep L.mar hk (ne_of (ne_swap hne))
    · intro a y c h1 h2
      exact (L.all a y c h1 h2).keep hk (ne_of (hold y (List.mem_of_getElem? h1)))
    · intro y hy
      obtain ⟨c, hc⟩ := L.mem hy; exact ⟨c, hc.keep hk (ne_of (hold y hy))⟩
    · intro y hy; exact ⟨L.ne y hy, hold y hy⟩
    · exact hk.bel (Below.refl _ _) hbb (fun a ha => (hl.lt a ha.symm).1)
    · intro a ha
      obtain ⟨f1, f2, f3, f4, f5⟩ := hF a ha
      exact ⟨f1, hk.block a f1 (fun e => f5 e.symm), f2, f3, f4, f5, fun y hy => by simp at hy⟩
  have hfin : ∀ w2 l m lv' mv' new, TS F B0 w wb b q x r t d ls0 ms0 m n 4 4 4 l lv' mv' new w2 → ∃ lv' mv' ls ms, Wd w2 wb b q x r t lv' d mv' ∧ Texts B0 w2 lv' mv' ls ms ∧ ls.length = ls0.length + 4 ∧ Below B0 w w2 ∧ Away F w w2 lv' mv' ls0 ls := by
    intro w2 l m lv' mv' new S
    refine ⟨lv', mv', _, _, S.wd, S.lists L.len, by rw [List.length_append, S.nl], S.bl, fun a ha => ?_⟩
    obtain ⟨f1, f2, f3, f4, f5, f6, f7⟩ := S.fr a ha
    exact ⟨f2, f4, f5, fun y hy => (List.mem_append.1 hy).imp id (f7 y)⟩
  have hxl : xs.length = n := by have := hl.1; omega
  have hl0 : Kept (fun a => some a = l.ownBlock) w w ∧ w.ownsRow B0 9 1 l n xs := ⟨Kept.refl _ _, hl⟩
  rw [hmv] at c6
  clear hmv hw L hne hold hl hF
  subst hlv
  go_enter Tryz.func49, Tryz.ntmps49
  go_wp2
  clear c6
  go_loopw [4, 5] (fun mx nx wr => wr = w ∧ ∃ (m : ByteArray) (c : Nat), mx = .string m ∧ nx = .int .i64 c ∧ m.size + c ≤ 5000004) (fun _ nx _ => (intOf nx).toNat)
  case atStart => exact ⟨rfl, _, ms0.length, rfl, rfl, by show 4 + ms0.length ≤ 5000004; omega⟩
  case round =>
  obtain ⟨rfl, m, c, rfl, rfl, hmc⟩ := hrel
  rename World => w
  by_cases hc0 : 0 < c
  · clear hfin S0 hl0
    have hm5 : m.size ≤ 5000004 := by omega
    rcases Nat.mod_two_eq_zero_or_one c with h2 | h2
    · have e1 : ((c : Int) % 2) = 0 := by omega
      go_wp2
      refine ⟨⟨trivial, _, c / 2, rfl, by go_num, ?_⟩, by simp [intOf]; omega⟩
      rw [ByteArray.size_append]; show m.size + 1 + c / 2 ≤ 5000004; omega
    · have e1 : ((c : Int) % 2) = 1 := by omega
      go_wp2
      refine ⟨⟨trivial, _, c / 2, rfl, by go_num, ?_⟩, by simp [intOf]; omega⟩
      rw [ByteArray.size_append]; show m.size + 1 + c / 2 ≤ 5000004; omega
  have hc1 : c = 0 := by omega
  subst hc1
  rw [show ((0 : Nat) : Int) = 0 from rfl]
  go_wp2
  go_loopw [6] (fun iv wr => ∃ p : Nat, p ≤ n ∧ iv = .int .i64 p ∧ Kept (fun a => some a = (Value.slice la n lc).ownBlock) w wr ∧ wr.ownsRow B0 9 1 (.slice la n lc) n (List.replicate p (.string m) ++ xs.drop p)) (fun iv _ => n - (intOf iv).toNat)
  case atStart => exact ⟨0, by omega, rfl, hl0.1, by simpa using hl0.2⟩
  case round =>
    clear hl0
    obtain ⟨p, hp, rfl, hk, ho⟩ := hrel
    by_cases hlt : p < n
    · obtain ⟨g, rfl⟩ : ∃ g, la = some ⟨g, 0, none⟩ := by
        rcases ho.2 with ⟨h1, h2⟩ | ⟨g, _, _, h1, _⟩
        · omega
        · injection h1 with h1 _ _; exact ⟨g, h1⟩
      have hst := ho.stored p (.string m)
      rw [set_rep p n xs _ hxl hlt] at hst
      have hc := ho.cellAt p (by omega)
      have hfz := ho.frozenAt p
      have hcx : ∃ u, wr.cell? ⟨g, p, none⟩ = some u := by
        rw [hc]; exact ⟨_, List.getElem?_eq_getElem (by simp; omega)⟩
      obtain ⟨u, hcu⟩ := hcx
      clear hc
      have hk2 := hk.grown hst.2 (fun k e _ => by rw [← e]; rfl)
      have hlt' : (p : Int) < (n : Int) := by omega
      go_wp2
      exact ⟨⟨p + 1, by omega, by go_num, hk2, hst.1⟩, by simp [intOf]; omega⟩
    · have hp' : p = n := by omega
      subst hp'
      rw [List.drop_eq_nil_of_le (by omega), List.append_nil] at ho
      have S := S0 wr m hk ho
      clear S0 hk ho
      go_wp2
      go_loopw [1, 7, 8] (fun l iv _ wr => ∃ i : Nat, i ≤ 4 ∧ iv = .int .i64 i ∧ ∃ lv mv new, TS F B0 w wb b q x r t d ls0 ms0 m p i i i l lv mv new wr) (fun _ iv _ _ => 4 - (intOf iv).toNat)
      case atStart => exact ⟨0, by omega, rfl, lv, mv, [], S⟩
      case round =>
        clear S
        obtain ⟨i, hi4, rfl, lv, mv, new, S⟩ := hrel
        by_cases hlt4 : i < 4
        · obtain ⟨la, lc, rfl⟩ := own_slice S.row
          have c4 := S.wd.cell 5
          simp only [List.getElem?_toArray, List.getElem?_cons_succ, List.getElem?_cons_zero] at c4
          have A := fun g cap w' => S.s1 (g := g) (cap := cap) (w' := w') (Obj.cells #[Value.slice la (p + i) lc] 31)
          have A2 := fun w' => S.wd1 (w' := w') (Obj.cells #[Value.slice la (p + i) lc] 31)
          have hz := Nat.le_trans S.bb S.bl.size
          go_wp2_with (at_builtin; refine wpList_append_two _ rfl _ _ 29 rfl B0 31 i0 (.slice none 0 0) 24 Tryz.underlying29 hi hz0 hz1 hz2 rfl _ _ _ rfl (S.own.alloc _) ⟨wr.heap.size, 0, none⟩ 1 (.slice la (p + i) lc) rfl ?c1 ?c2 ?c3 ?c4 ?c5 ?_)
          case c1 => exact cell_one_new _ _ _
          case c2 => rfl
          case c3 => unfold maxLen; omega
          case c4 => omega
          case c5 => simp; omega
          intro g cap w1 hown hlt1 hd
          have hg := two_grown hd
          have S1 := A g cap w1 (by rw [List.append_assoc]; exact hown) hg (hd.elim (fun h => .inl h.1) (fun h => .inr (by simpa using h.1)))
          have W1 := A2 w1 hg
          clear A A2 hown hd hg c4 S
          have c4 := W1.cell 5
          simp only [List.getElem?_toArray, List.getElem?_cons_succ, List.getElem?_cons_zero] at c4
          have f4 := W1.frozen 5
          clear W1
          have c6 := S1.wd.cell 7
          simp only [List.getElem?_toArray, List.getElem?_cons_succ, List.getElem?_cons_zero] at c6
          have A := fun g cap w' => S1.s2 (g := g) (cap := cap) (w' := w') (Obj.cells #[Value.string m] 9)
          have A2 := fun w' => S1.wd2 (w' := w') (Obj.cells #[Value.string m] 9)
          have hz := Nat.le_trans S1.bb S1.bl.size
          go_wp2_with (at_builtin; refine wpList_append_two _ rfl _ _ 31 rfl B0 9 j0 (.string ByteArray.empty) 16 Tryz.underlying31 hj hy0 hy1 hy2 rfl _ _ _ rfl (S1.mar.alloc _) ⟨w1.heap.size, 0, none⟩ 1 (.string m) rfl ?d1 ?d2 ?d3 ?d4 ?d5 ?_)
          case d1 => exact cell_one_at (by simp)
          case d2 => rfl
          case d3 => unfold maxLen; omega
          case d4 => omega
          case d5 => simp at hz ⊢; omega
          intro g2 cap2 w2 hown hlt2 hd
          have hg := two_grown hd
          have S2 := A g2 cap2 w2 (by first | exact hown | simpa using hown) hg (hd.elim (fun h => .inl h.1) (fun h => .inr (by simpa using h.1)))
          have W2 := A2 w2 hg
          clear A A2 hown hd hg c6 S1 c4 f4
          have c6 := W2.cell 7
          simp only [List.getElem?_toArray, List.getElem?_cons_succ, List.getElem?_cons_zero] at c6
          have f6 := W2.frozen 7
          clear W2
          have A := fun g cap w' => S2.s3 (g := g) (cap := cap) (w' := w') (Obj.cells #[Value.string m] 9)
          have hz := Nat.le_trans S2.bb S2.bl.size
          go_wp2_with (at_builtin; refine wpList_append_two _ rfl _ _ 31 rfl B0 9 j0 (.string ByteArray.empty) 16 Tryz.underlying31 hj hy0 hy1 hy2 rfl _ _ _ rfl (S2.row.alloc _) ⟨w2.heap.size, 0, none⟩ 1 (.string m) rfl ?e1 ?e2 ?e3 ?e4 ?e5 ?_)
          case e1 => exact cell_one_at (by simp)
          case e2 => rfl
          case e3 => unfold maxLen; omega
          case e4 => omega
          case e5 => simp at hz ⊢; omega
          intro g3 cap3 w3 hown hlt3 hd
          have S3 := A g3 cap3 w3 hown (hd.imp id (fun h => ⟨by simpa using h.1, h.2⟩))
          clear A hown hd S2 c6 f6
          go_wp2
          exact ⟨⟨i + 1, by omega, by go_num, _, _, _, S3⟩, by simp [intOf]; omega⟩
        · have hi' : i = 4 := by omega
          subst hi'
          have hf := hfin _ _ _ _ _ _ S
          clear S hfin
          go_wp2
          go_end0
          exact ⟨rfl, hf⟩

end Go.Proofs.YtopihgmemnokkaaGreat

namespace Go.Proofs.YtopihgmemnokkaaGreat
open Go.RowKit Go.Shelf Go.Lib

/-- a tree of the document's: its bytes and their codes -/
def GV (w : World) (t : Hf.T) (v1 v2 : Value) : Prop :=
  ∃ g1 c1 g2 c2, v1 = .slice (some ⟨g1, 0, none⟩) (Hf.paths t).length c1 ∧ v2 = .slice (some ⟨g2, 0, none⟩) (Hf.paths t).length c2 ∧
    ∀ i x, (Hf.paths t)[i]? = some x → w.cell? ⟨g1, i, none⟩ = some (.int .i64 (x.1 : Nat)) ∧ w.cell? ⟨g2, i, none⟩ = some (.string (tx x.2))
theorem GV.keep {P : Nat → Prop} {w w' : World} {t : Hf.T} {v1 v2 : Value} (h : GV w t v1 v2) (hk : Kept P w w') (hP : ∀ k, k < w.heap.size → ¬ P k) : GV w' t v1 v2 := by
  obtain ⟨g1, c1, g2, c2, h1, h2, h3⟩ := h
  refine ⟨g1, c1, g2, c2, h1, h2, fun i x hx => ?_⟩
  obtain ⟨k1, k2⟩ := h3 i x hx
  exact ⟨cellK hk k1 (hP _ (World.block_lt_of_cell? w _ k1)), cellK hk k2 (hP _ (World.block_lt_of_cell? w _ k2))⟩
theorem GV.below {w w' : World} {t : Hf.T} {v1 v2 : Value} (h : GV w t v1 v2) (hb : Below w.heap.size w w') : GV w' t v1 v2 :=
  h.keep (Kept.of_below hb (Nat.le_refl _) (fun _ => False)) (fun _ _ h => h)
theorem paths_pos (t : Hf.T) : 0 < (Hf.paths t).length := by
  have h := congrArg List.length (Hf.paths_bytes t)
  rw [List.length_map] at h
  rw [h]
  exact List.length_pos_of_mem (Hf.least_mem t)
theorem paths_mem {t : Hf.T} {i : Nat} {x : Nat × List Bool} (h : (Hf.paths t)[i]? = some x) : x.1 ∈ Hf.bytes t := by
  rw [← Hf.paths_bytes]
  exact List.mem_map_of_mem (f := Prod.fst) (List.mem_of_getElem? h)

set_option maxRecDepth 100000 in
set_option maxHeartbeats 1000000 in
theorem lowest_any (t : Hf.T) (W0 : Int) (v1 v2 : Value) (w : World) (h : GV w t v1 v2) (hlen : (Hf.paths t).length ≤ 100000) (hbd : ∀ c ∈ Hf.bytes t, c ≤ 255) :
    Calls Tryz.prog 163 #[.agg #[.int .i64 W0, v1, v2]] w fun e w' => e = .returned (.int .i64 (Hf.least t : Nat)) ∧ Below w.heap.size w w' := by
  have hpos := paths_pos t
  have hb0 : Below w.heap.size w (w.alloc (.cells #[.int .i64 W0, v1, v2] 209)) := (Below.refl _ _).alloc (Nat.le_refl _) _
  obtain ⟨g1, c1, g2, c2, rfl, rfl, h3⟩ := h.below hb0
  clear h
  have hfin : ∀ n : Nat, n ∈ Hf.bytes t → (∀ (i : Nat) (x : Nat × List Bool), (Hf.paths t)[i]? = some x → n ≤ x.1) → n = Hf.least t := by
    intro n h1 h2
    have h4 := Hf.least_le t n h1
    obtain ⟨x, hx, hxe⟩ : ∃ x, x ∈ Hf.paths t ∧ x.1 = Hf.least t := by
      have := Hf.least_mem t
      rw [← Hf.paths_bytes] at this
      obtain ⟨x, hx, hxe⟩ := List.mem_map.1 this
      exact ⟨x, hx, hxe⟩
    obtain ⟨i, hi, hie⟩ := List.mem_iff_getElem.1 hx
    have := h2 i x (by rw [List.getElem?_eq_getElem hi, hie])
    omega
  have HF : Hid (∀ n : Nat, n ∈ Hf.bytes t → (∀ (i : Nat) (x : Nat × List Bool), (Hf.paths t)[i]? = some x → n ≤ x.1) → n = Hf.least t) := hfin
  have H3 : Hid (∀ i x, (Hf.paths t)[i]? = some x → (w.alloc (.cells #[.int .i64 W0, .slice (some ⟨g1, 0, none⟩) (Hf.paths t).length c1, .slice (some ⟨g2, 0, none⟩) (Hf.paths t).length c2] 209)).cell? ⟨g1, i, none⟩ = some (.int .i64 (x.1 : Nat))) := fun i x hx => (h3 i x hx).1
  have HBD : Hid (∀ c ∈ Hf.bytes t, c ≤ 255) := hbd
  have HB0 : Hid (Below w.heap.size w (w.alloc (.cells #[.int .i64 W0, .slice (some ⟨g1, 0, none⟩) (Hf.paths t).length c1, .slice (some ⟨g2, 0, none⟩) (Hf.paths t).length c2] 209))) := hb0
  obtain ⟨x0, hx0⟩ : ∃ x0, (Hf.paths t)[0]? = some x0 := ⟨_, List.getElem?_eq_getElem hpos⟩
  have k0 := (h3 0 x0 hx0).1
  have HX0 : Hid ((Hf.paths t)[0]? = some x0) := hx0
  clear h3 hfin hbd hb0 hx0
  generalize hL : (Hf.paths t).length = L at *
  have HL : Hid ((Hf.paths t).length = L) := hL
  clear hL
  have hL0 : (0 : Int) < (L : Int) := by omega
  go_enter Tryz.func163, Tryz.ntmps163
  go_wp2
  go_loopw [3, 4] (fun nv iv wr => wr = w.alloc (.cells #[.int .i64 W0, .slice (some ⟨g1, 0, none⟩) L c1, .slice (some ⟨g2, 0, none⟩) L c2] 209) ∧ ∃ n i : Nat, nv = .int .i64 n ∧ iv = .int .i64 i ∧ i ≤ L ∧ Hid (n ∈ Hf.bytes t ∧ ∀ (j : Nat) (x : Nat × List Bool), j < i → (Hf.paths t)[j]? = some x → n ≤ x.1)) (fun _ iv _ => L - (intOf iv).toNat)
  case atStart =>
    refine ⟨rfl, x0.1, 1, rfl, rfl, by omega, paths_mem HX0.out, fun j x hj hx => ?_⟩
    have : j = 0 := by omega
    subst this
    rw [HX0.out] at hx
    have : x = x0 := by simpa using hx.symm
    subst this; exact Nat.le_refl _
  case round =>
    obtain ⟨rfl, n, i, rfl, rfl, hi, HN⟩ := hrel
    by_cases hlt : i < L
    · obtain ⟨x, hx⟩ : ∃ x, (Hf.paths t)[i]? = some x := ⟨_, List.getElem?_eq_getElem (by rw [HL.out]; exact hlt)⟩
      have k1 := H3.out i x hx
      have hn := HBD.out n HN.out.1
      have hx2 := HBD.out x.1 (paths_mem hx)
      have NX : Hid (min n x.1 ∈ Hf.bytes t ∧ ∀ (j : Nat) (y : Nat × List Bool), j < i + 1 → (Hf.paths t)[j]? = some y → min n x.1 ≤ y.1) := by
        refine ⟨?_, fun j y hj hy => ?_⟩
        · rcases Nat.le_total n x.1 with h | h
          · rw [Nat.min_eq_left h]; exact HN.out.1
          · rw [Nat.min_eq_right h]; exact paths_mem hx
        · rcases Nat.lt_or_ge j i with h | h
          · have := HN.out.2 j y h hy; omega
          · have : j = i := by omega
            subst this
            rw [hx] at hy
            have : y = x := by simpa using hy.symm
            subst this; omega
      clear HN hx
      generalize x.1 = y at *
      have hli : (i : Int) < (L : Int) := by omega
      go_wp2_with fail
      refine (least_any n y _).mono ?_
      rintro e w5 ⟨rfl, hw5⟩
      subst hw5
      generalize min n y = z at *
      go_wp2
      exact ⟨⟨trivial, z, i + 1, rfl, by go_num, by omega, NX⟩, by simp [intOf]; omega⟩
    · have hi' : i = L := by omega
      subst hi'
      go_wp2
      go_ret
      refine ⟨?_, HB0.out⟩
      rw [← HF.out n HN.out.1 (fun j x hx => HN.out.2 j x (by
        have := (List.getElem?_eq_some_iff.1 hx).1
        rw [HL.out] at this; exact this) hx)]
      rfl

set_option maxRecDepth 100000 in
set_option maxHeartbeats 1000000 in
theorem freqs_any (s : ByteArray) (w : World) (hs : s.size ≤ 1000) :
    Calls Tryz.prog 91 #[.string s] w fun e w' => e = .returned (.slice (some ⟨w.heap.size, 0, none⟩) 256 256) ∧ Row w' w.heap.size 3 256 (cntB s s.size) ∧ Below w.heap.size w w' := by
  have hmk : ∀ w : World, (Instr.makeSlice 30 (.int .i64 256) (.int .i64 256)).run Tryz.prog w = .ok (.slice (some ⟨w.heap.size, 0, none⟩) 256 256) (w.alloc (.cells (rowC 256 fun _ => 0) 3)) := fun w => make_rows 256 (by omega) w
  go_enter Tryz.func91, Tryz.ntmps91
  go_wp2
  go_loopw [4] (fun i wr => ∃ p : Nat, p ≤ s.size ∧ i = .int .i64 p ∧ Row wr w.heap.size 3 256 (cntB s p) ∧ Below w.heap.size w wr) (fun i _ => s.size - (intOf i).toNat)
  case atStart => exact ⟨0, by omega, rfl, (Row.new w _ _ _).congr fun c _ => by simp [cntB, Cc.cn], (Below.refl _ _).alloc (Nat.le_refl _) _⟩
  case round =>
    clear hmk
    obtain ⟨p, hp, rfl, hR1, hBl⟩ := hrel
    by_cases hlt : p < s.size
    · have hby := BY_le s p
      have hbv := BY_lt s hlt
      have c0 := hR1.cell (i := BY s p) (by omega)
      have f0 := hR1.frozen (BY s p)
      have hcl : cntB s p (BY s p) ≤ p := Cc.cn_le p _
      have hg : Row (wr.setCell ⟨w.heap.size, BY s p, none⟩ (.int .i64 ((cntB s p (BY s p) + 1 : Nat) : Int))) w.heap.size 3 256 (cntB s (p + 1)) :=
        (hR1.set (BY s p) _).congr fun c _ => cntB_succ s p c
      rw [hbv] at c0 f0 hcl hg hby
      have hx : (s[p].toNat : Int) < 256 := by omega
      clear hbv hby
      generalize cntB s p s[p].toNat = q at c0 hcl hg
      go_wp2
      exact ⟨⟨p + 1, by omega, by go_num, hg, hBl.setCell (by simp) _⟩, by simp [intOf]; omega⟩
    · have hp' : p = s.size := by omega
      subst hp'
      go_wp2
      go_ret
      exact ⟨rfl, hR1, hBl⟩

end Go.Proofs.YtopihgmemnokkaaGreat

