import Derived.Test.YtopihgmemnokkaaGreatWalk3
import Derived.BigRegion
namespace Go.Proofs.YtopihgmemnokkaaGreat
open Go.RowKit

/-- the cells of a sorting -/
def sortC (s : ByteArray) (kb rb : Nat) (F M B : Nat → Nat) : Array Value :=
  #[.string s, .slice (some ⟨kb, 0, none⟩) (s.size + 1) (s.size + 1)] ++ rowC 771 (sh3 F M B) ++ #[.slice (some ⟨rb, 0, none⟩) (s.size + 1) (s.size + 1)]

theorem sortC_size (s : ByteArray) (kb rb : Nat) (F M B : Nat → Nat) : (sortC s kb rb F M B).size = 774 := by
  simp [sortC, size_rowC]
theorem sortC_0 (s : ByteArray) (kb rb : Nat) (F M B : Nat → Nat) : (sortC s kb rb F M B)[0]? = some (.string s) := by
  simp [sortC, size_rowC]
theorem sortC_1 (s : ByteArray) (kb rb : Nat) (F M B : Nat → Nat) : (sortC s kb rb F M B)[1]? = some (.slice (some ⟨kb, 0, none⟩) (s.size + 1) (s.size + 1)) := by
  simp [sortC, size_rowC]
theorem sortC_last (s : ByteArray) (kb rb : Nat) (F M B : Nat → Nat) : (sortC s kb rb F M B)[773]? = some (.slice (some ⟨rb, 0, none⟩) (s.size + 1) (s.size + 1)) := by
  unfold sortC
  rw [Array.getElem?_append_right (by simp [size_rowC])]
  have : 773 - (#[Value.string s, Value.slice (some ⟨kb, 0, none⟩) (s.size + 1) (s.size + 1)] ++ rowC 771 (sh3 F M B)).size = 0 := by simp [size_rowC]
  rw [this]; rfl
theorem sortC_in (s : ByteArray) (kb rb : Nat) (F M B : Nat → Nat) {k : Nat} (hk : k < 771) : (sortC s kb rb F M B)[2 + k]? = some (.int .i64 (sh3 F M B k : Nat)) := by
  have h : (rowC 771 (sh3 F M B))[k]? = some (.int .i64 (sh3 F M B k : Nat)) := rowC_get hk
  unfold sortC
  rw [Array.getElem?_append_left (by simp [size_rowC]; omega), Array.getElem?_append_right (by simp)]
  simp only [List.size_toArray, List.length_cons, List.length_nil]
  rw [show 2 + k - (0 + 1 + 1) = k from by omega]
  exact h
theorem sortC_set (s : ByteArray) (kb rb : Nat) (F M B F' M' B' : Nat → Nat) {k v : Nat} (hk : k < 771) (h : ∀ j, Cc.put (sh3 F M B) k v j = sh3 F' M' B' j) :
    (sortC s kb rb F M B).setIfInBounds (2 + k) (.int .i64 (v : Nat)) = sortC s kb rb F' M' B' := by
  apply Array.ext_getElem?
  intro j
  rw [Array.getElem?_setIfInBounds, sortC_size]
  by_cases e : 2 + k = j
  · subst e
    rw [if_pos rfl, if_pos (by omega), sortC_in s kb rb F' M' B' hk, ← h k, Cc.put_same]
  · rw [if_neg e]
    by_cases h0 : j = 0
    · subst h0; rw [sortC_0, sortC_0]
    · by_cases h1 : j = 1
      · subst h1; rw [sortC_1, sortC_1]
      · by_cases h2 : j < 773
        · obtain ⟨i, rfl⟩ : ∃ i, j = 2 + i := ⟨j - 2, by omega⟩
          rw [sortC_in _ _ _ _ _ _ (by omega), sortC_in _ _ _ _ _ _ (by omega), ← h i, Cc.put_other _ _ (by omega)]
        · by_cases h3 : j = 773
          · subst h3; rw [sortC_last, sortC_last]
          · rw [Array.getElem?_eq_none (by rw [sortC_size]; omega), Array.getElem?_eq_none (by rw [sortC_size]; omega)]

structure Srt (s : ByteArray) (sb kb rb : Nat) (F M B rows : Nat → Nat) (w : World) : Prop where
  blk : w.heap[sb]? = some (.cells (sortC s kb rb F M B) 205 (0, 0))
  kinds : Row w kb 233 (s.size + 1) (kindN s)
  rws : Row w rb 3 (s.size + 1) rows
  n1 : sb ≠ kb
  n2 : sb ≠ rb
  n3 : kb ≠ rb

theorem Srt.text {s : ByteArray} {sb kb rb : Nat} {F M B rows : Nat → Nat} {w : World} (S : Srt s sb kb rb F M B rows w) : w.cell? ⟨sb, 0, none⟩ = some (.string s) := by
  rw [cell_of_row w sb 0 _ _ _ S.blk, sortC_0]
theorem Srt.kindsV {s : ByteArray} {sb kb rb : Nat} {F M B rows : Nat → Nat} {w : World} (S : Srt s sb kb rb F M B rows w) : w.cell? ⟨sb, 1, none⟩ = some (.slice (some ⟨kb, 0, none⟩) (s.size + 1) (s.size + 1)) := by
  rw [cell_of_row w sb 1 _ _ _ S.blk, sortC_1]
theorem Srt.rowsV {s : ByteArray} {sb kb rb : Nat} {F M B rows : Nat → Nat} {w : World} (S : Srt s sb kb rb F M B rows w) : w.cell? ⟨sb, 773, none⟩ = some (.slice (some ⟨rb, 0, none⟩) (s.size + 1) (s.size + 1)) := by
  rw [cell_of_row w sb 773 _ _ _ S.blk, sortC_last]
theorem Srt.shelf {s : ByteArray} {sb kb rb : Nat} {F M B rows : Nat → Nat} {w : World} (S : Srt s sb kb rb F M B rows w) {k : Nat} (hk : k < 771) : w.cell? ⟨sb, 2 + k, none⟩ = some (.int .i64 (sh3 F M B k : Nat)) := by
  rw [cell_of_row w sb _ _ _ _ S.blk, sortC_in s kb rb F M B hk]
theorem Srt.frozen {s : ByteArray} {sb kb rb : Nat} {F M B rows : Nat → Nat} {w : World} (S : Srt s sb kb rb F M B rows w) (k : Nat) : w.frozen? ⟨sb, k, none⟩ = false :=
  frozen_of_row w sb k _ _ S.blk

theorem Srt.setShelf {s : ByteArray} {sb kb rb : Nat} {F M B F' M' B' rows : Nat → Nat} {w : World} (S : Srt s sb kb rb F M B rows w) {k v : Nat} (hk : k < 771) (h : ∀ j, Cc.put (sh3 F M B) k v j = sh3 F' M' B' j) :
    Srt s sb kb rb F' M' B' rows (w.setCell ⟨sb, 2 + k, none⟩ (.int .i64 (v : Nat))) := by
  refine ⟨?_, S.kinds.other S.n1 _, S.rws.other S.n2 _, S.n1, S.n2, S.n3⟩
  rw [heap_setCell_same w sb _ _ _ _ S.blk, sortC_set s kb rb F M B F' M' B' hk h]
theorem Srt.setRow {s : ByteArray} {sb kb rb : Nat} {F M B rows : Nat → Nat} {w : World} (S : Srt s sb kb rb F M B rows w) (p v : Nat) :
    Srt s sb kb rb F M B (Cc.put rows p v) (w.setCell ⟨rb, p, none⟩ (.int .i64 (v : Nat))) :=
  ⟨by rw [heap_setCell_other w _ _ _ S.n2]; exact S.blk, S.kinds.other (fun e => S.n3 e.symm) _, S.rws.set p v, S.n1, S.n2, S.n3⟩
theorem Srt.drew {s : ByteArray} {sb kb rb : Nat} {F M B rows : Nat → Nat} {w : World} (S : Srt s sb kb rb F M B rows w) : Srt s sb kb rb F M B rows w.drew := ⟨S.blk, S.kinds, S.rws, S.n1, S.n2, S.n3⟩

set_option maxRecDepth 100000 in
set_option maxHeartbeats 1000000 in
theorem falling_any (s : ByteArray) (sb kb rb : Nat) (F M B rows : Nat → Nat) (w : World) (hs : s.size ≤ 1000) (S : Srt s sb kb rb F M B rows w) (U : Cc.Up s.size (LT s) (before s) 0 rows F) :
    Calls Tryz.prog 132 #[.pointer (some ⟨sb, 0, none⟩)] w fun e w' => e = .returned (.tuple #[]) ∧
      ∃ rows' F', Srt s sb kb rb F' M B rows' w' ∧ Cc.Up s.size (LT s) (before s) (s.size + 1) rows' F' ∧ Kept (fun k => k = sb ∨ k = rb) w w' := by
  go_enter Tryz.func132, Tryz.ntmps132
  go_wp2
  go_loopw [2, 3, 4] (fun r b c wr => ∃ (p : Nat) (rows' F' : Nat → Nat), p ≤ s.size + 1 ∧ r = .int .i64 p ∧ Srt s sb kb rb F' M B rows' wr ∧ Cc.Up s.size (LT s) (before s) p rows' F' ∧ Kept (fun k => k = sb ∨ k = rb) w wr) (fun r _ _ _ => (s.size + 1) - (intOf r).toNat)
  case atStart => exact ⟨0, rows, F, by omega, rfl, S, U, Kept.refl _ _⟩
  case round =>
    obtain ⟨p, rows', F', hp, rfl, S', U', hk⟩ := hrel
    have cT := S'.text
    have cK := S'.kindsV
    have cR := S'.rowsV
    by_cases hlt : p < s.size + 1
    · have cp : wr.cell? ⟨rb, p, none⟩ = some (.int .i64 (rows' p : Nat)) := S'.rws.cell hlt
      have hle := U'.le (p := p) (by omega)
      generalize hv : rows' p = v at cp hle
      have Hv : Hid (rows' p = v) := hv
      clear hv
      cases v with
      | zero =>
        have U2 := U'.skip (ord s) (Or.inl Hv.out)
        go_wp2
        exact ⟨⟨p + 1, rows', F', by omega, by go_num, S', U2, hk⟩, by simp [intOf]; omega⟩
      | succ b =>
        have ck : wr.cell? ⟨kb, b, none⟩ = some (.int .i64 (kindN s b : Nat)) := S'.kinds.cell (by omega)
        cases hf : Cc.fall s.size (before s) b
        · have U2 := U'.skip (ord s) (Or.inr (by rw [Hv.out]; exact hf))
          have hkv : kindN s b = 1 ∨ kindN s b = 2 := by
            unfold kindN; rw [hf]; simp
          clear hf
          rcases hkv with hkv | hkv
          all_goals
            rw [hkv] at ck
            clear hkv
            go_wp2
            exact ⟨⟨p + 1, rows', F', by omega, by go_num, S', U2, hk⟩, by simp [intOf]; omega⟩
        · rw [(kind_0 s b hf).1] at ck
          have hll := LT_le s b
          have cF := S'.shelf (k := LT s b * 3) (by omega)
          have fF := S'.frozen (2 + LT s b * 3)
          rw [sh3_0] at cF
          have hpl : F' (LT s b) = Cc.rank s.size (before s) b := by
            have := U'.place (ord s) (by omega) (by rw [Hv.out]; omega) (by rw [Hv.out]; exact hf)
            rw [Hv.out] at this; exact this
          have hrk := (ord s).rank_le (i := b) (by have := Cc.fall_lt hf; omega)
          have hb : F' (LT s b) ≤ s.size := by omega
          have cO := S'.rws.cell (i := F' (LT s b)) (by omega)
          have fO := S'.rws.frozen (F' (LT s b))
          clear hpl hrk
          have hfin : Srt s sb kb rb (Cc.put F' (LT s b) (F' (LT s b) + 1)) M B (Cc.put rows' (F' (LT s b)) b) ((wr.setCell ⟨rb, F' (LT s b), none⟩ (.int .i64 (b : Nat))).setCell ⟨sb, 2 + LT s b * 3, none⟩ (.int .i64 ((F' (LT s b) + 1 : Nat) : Int))).drew.drew :=
            ((S'.setRow _ b).setShelf (by omega) (fun j => sh3_put0 F' M B (LT s b) _ j)).drew.drew
          have U2 : Cc.Up s.size (LT s) (before s) (p + 1) (Cc.put rows' (F' (LT s b)) b) (Cc.put F' (LT s b) (F' (LT s b) + 1)) := by
            have := U'.lay (ord s) (by omega) (by rw [Hv.out]; omega) (by rw [Hv.out]; exact hf)
            rw [Hv.out] at this; exact this
          have n2 : ¬ sb = rb := S'.n2
          have n2' : ¬ rb = sb := fun e => n2 e.symm
          generalize hq : F' (LT s b) = q at *
          have Hq : Hid (F' (LT s b) = q) := hq
          clear hq
          go_wp2_with (go_at_call 159; refine (letter_any s b _ (by omega)).mono ?_; rintro e w' ⟨rfl, rfl⟩)
          go_region
          go_wp2
          go_region
          go_wp2
          exact ⟨⟨p + 1, _, _, by omega, by go_num, hfin, U2, (((hk.setCell (Or.inr rfl) _).setCell (Or.inl rfl) _).drew).drew⟩, by simp [intOf]; omega⟩
    · have hp' : p = s.size + 1 := by omega
      subst hp'
      go_wp2
      go_end0
      exact ⟨rfl, rows', F', S', U', hk⟩


set_option maxRecDepth 100000 in
set_option maxHeartbeats 1000000 in
theorem rising_any (s : ByteArray) (sb kb rb : Nat) (F M B rows : Nat → Nat) (w : World) (hs : s.size ≤ 1000) (S : Srt s sb kb rb F M B rows w) (D : Cc.Down s.size (LT s) (before s) (s.size + 1) rows B) :
    Calls Tryz.prog 133 #[.pointer (some ⟨sb, 0, none⟩)] w fun e w' => e = .returned (.tuple #[]) ∧
      ∃ rows' B', Srt s sb kb rb F M B' rows' w' ∧ Cc.Down s.size (LT s) (before s) 0 rows' B' ∧ Kept (fun k => k = sb ∨ k = rb) w w' := by
  have cR0 := S.rowsV
  go_enter Tryz.func133, Tryz.ntmps133
  go_wp2
  go_loopw [2, 3, 4] (fun r b c wr => ∃ (p : Nat) (rows' B' : Nat → Nat), p ≤ s.size + 1 ∧ r = .int .i64 ((p : Int) - 1) ∧ Srt s sb kb rb F M B' rows' wr ∧ Cc.Down s.size (LT s) (before s) p rows' B' ∧ Kept (fun k => k = sb ∨ k = rb) w wr) (fun r _ _ _ => (intOf r + 1).toNat)
  case atStart => exact ⟨s.size + 1, rows, B, by omega, by go_num, S, D, Kept.refl _ _⟩
  case round =>
    obtain ⟨p, rows', B', hp, rfl, S', D', hk⟩ := hrel
    clear cR0
    have cT := S'.text
    have cK := S'.kindsV
    have cR := S'.rowsV
    cases p with
    | zero =>
      go_wp2
      go_end0
      exact ⟨rfl, rows', B', S', D', hk⟩
    | succ p =>
      have ep : ((p + 1 : Nat) : Int) - 1 = (p : Int) := by omega
      have cp : wr.cell? ⟨rb, p, none⟩ = some (.int .i64 (rows' p : Nat)) := S'.rws.cell (by omega)
      have hle := D'.le p (by omega)
      generalize hv : rows' p = v at cp hle
      have Hv : Hid (rows' p = v) := hv
      clear hv
      rw [ep]
      clear ep
      cases v with
      | zero =>
        have D2 := D'.skip (ord s) (Or.inl Hv.out)
        go_wp2
        exact ⟨⟨p, rows', B', by omega, rfl, S', D2, hk⟩, by simp [intOf]⟩
      | succ b =>
        have ck : wr.cell? ⟨kb, b, none⟩ = some (.int .i64 (kindN s b : Nat)) := S'.kinds.cell (by omega)
        cases hf : Cc.fall s.size (before s) b
        · have hkv : kindN s b = 1 ∨ kindN s b = 2 := by
            unfold kindN; rw [hf]; simp
          have hll := LT_le s b
          have hpl : B' (LT s b) = Cc.rank s.size (before s) b + 1 := by
            have := D'.place (ord s) (by omega) (by rw [Hv.out]; omega) (by rw [Hv.out]; exact hf)
            rw [Hv.out] at this; exact this
          have hrk := (ord s).rank_le (i := b) (by omega)
          obtain ⟨q, hq⟩ : ∃ q, B' (LT s b) = q + 1 := ⟨_, hpl⟩
          have hqs : q ≤ s.size := by omega
          have cB := S'.shelf (k := LT s b * 3 + 2) (by omega)
          have fB := S'.frozen (2 + (LT s b * 3 + 2))
          rw [sh3_2, hq] at cB
          rw [show 2 + (LT s b * 3 + 2) = 2 + LT s b * 3 + 2 from by omega] at cB fB
          have cO := S'.rws.cell (i := q) (by omega)
          have fO := S'.rws.frozen q
          have hfin : Srt s sb kb rb F M (Cc.put B' (LT s b) q) (Cc.put rows' q b) ((wr.setCell ⟨sb, 2 + LT s b * 3 + 2, none⟩ (.int .i64 (q : Nat))).setCell ⟨rb, q, none⟩ (.int .i64 (b : Nat))).drew.drew :=
            ((S'.setShelf (k := LT s b * 3 + 2) (by omega) (fun j => sh3_put2 F M B' (LT s b) q j)).setRow q b).drew.drew
          have D2 : Cc.Down s.size (LT s) (before s) p (Cc.put rows' q b) (Cc.put B' (LT s b) q) := by
            have := D'.lay (ord s) (by omega) (by rw [Hv.out]; omega) (by rw [Hv.out]; exact hf)
            rw [Hv.out] at this
            simp only [Nat.add_sub_cancel] at this
            rw [hq] at this
            simpa using this
          have n2 : ¬ sb = rb := S'.n2
          have n2' : ¬ rb = sb := fun e => n2 e.symm
          clear hpl hrk hf hq
          rcases hkv with hkv | hkv
          all_goals
            rw [hkv] at ck
            clear hkv
            go_wp2_with (go_at_call 159; refine (letter_any s b _ (by omega)).mono ?_; rintro e w' ⟨rfl, rfl⟩)
            go_region
            go_wp2
            go_region
            go_wp2
            exact ⟨⟨p, _, _, by omega, rfl, hfin, D2, (((hk.setCell (Or.inl rfl) _).setCell (Or.inr rfl) _).drew).drew⟩, by simp [intOf]⟩
        · have D2 := D'.skip (ord s) (Or.inr (by rw [Hv.out]; exact hf))
          rw [(kind_0 s b hf).1] at ck
          clear hf
          go_wp2
          exact ⟨⟨p, rows', B', by omega, rfl, S', D2, hk⟩, by simp [intOf]⟩

end Go.Proofs.YtopihgmemnokkaaGreat
