import Derived.Test.YtopihgmemnokkaaGreatWalk4
import Derived.BigRegion
namespace Go.Proofs.YtopihgmemnokkaaGreat
open Go.RowKit

/-- the cells of a list of places -/
def Places (w : World) (vb : Nat) (V : List Nat) : Prop := ∀ j i, V[j]? = some i → w.cell? ⟨vb, j, none⟩ = some (.int .i64 (i : Nat))

theorem Places.setCell {w : World} {vb : Nat} {V : List Nat} (h : Places w vb V) {a : Addr} (ha : a.block ≠ vb) (u : Value) : Places (w.setCell a u) vb V := fun j i hj =>
  (World.cell?_of_block (a := ⟨vb, j, none⟩) (Below.heap_setCell w a u vb (fun e => ha e.symm))).trans (h j i hj)
theorem Places.drew {w : World} {vb : Nat} {V : List Nat} (h : Places w vb V) : Places w.drew vb V := h

set_option maxRecDepth 100000 in
set_option maxHeartbeats 1000000 in
theorem valleys_any (s : ByteArray) (sb kb rb vb cap : Nat) (V : List Nat) (F M B rows : Nat → Nat) (w : World) (hs : s.size ≤ 1000) (hV : V.length ≤ 1001) (S : Srt s sb kb rb F M B rows w) (SV : Cc.SortedVals s.size (before s) V)
    (P : Places w vb V) (v1 : vb ≠ sb) (v2 : vb ≠ rb) (Vl : Cc.Vals s.size (LT s) (before s) V 0 rows M) :
    Calls Tryz.prog 131 #[.pointer (some ⟨sb, 0, none⟩), .slice (some ⟨vb, 0, none⟩) V.length cap] w fun e w' => e = .returned (.tuple #[]) ∧
      ∃ rows' M', Srt s sb kb rb F M' B rows' w' ∧ Cc.Vals s.size (LT s) (before s) V V.length rows' M' ∧ Kept (fun k => k = sb ∨ k = rb) w w' := by
  go_enter Tryz.func131, Tryz.ntmps131
  go_wp2
  go_loopw [5, 6, 9] (fun pl c i wr => ∃ (k : Nat) (rows' M' : Nat → Nat), k ≤ V.length ∧ i = .int .i64 k ∧ Srt s sb kb rb F M' B rows' wr ∧ Cc.Vals s.size (LT s) (before s) V k rows' M' ∧ Places wr vb V ∧ Kept (fun k => k = sb ∨ k = rb) w wr) (fun _ _ i _ => V.length - (intOf i).toNat)
  case atStart => exact ⟨0, rows, M, by omega, rfl, S, Vl, P, Kept.refl _ _⟩
  case round =>
    obtain ⟨k, rows', M', hk, rfl, S', Vl', P', hK⟩ := hrel
    have cT := S'.text
    have cR := S'.rowsV
    by_cases hlt : k < V.length
    · obtain ⟨b, hb⟩ : ∃ b, V[k]? = some b := ⟨V[k], List.getElem?_eq_getElem hlt⟩
      have cv := P' k b hb
      have hval : Cc.val s.size (before s) b = true := SV.mem.1 (List.mem_of_getElem? hb)
      have hbn := Cc.val_le hval
      have hll := LT_le s b
      have hpl := Vl'.place (ord s) SV hb
      have hpb := (ord s).vpos_lt_back hval
      have hbk := Cc.backOf_le s.size (LT s) (LT s b)
      have hq : M' (LT s b) ≤ s.size := by omega
      have cM := S'.shelf (k := LT s b * 3 + 1) (by omega)
      have fM := S'.frozen (2 + (LT s b * 3 + 1))
      rw [sh3_1] at cM
      rw [show 2 + (LT s b * 3 + 1) = 2 + LT s b * 3 + 1 from by omega] at cM fM
      have cO := S'.rws.cell (i := M' (LT s b)) (by omega)
      have fO := S'.rws.frozen (M' (LT s b))
      have hfin : Srt s sb kb rb F (Cc.put M' (LT s b) (M' (LT s b) + 1)) B (Cc.put rows' (M' (LT s b)) b) ((wr.setCell ⟨rb, M' (LT s b), none⟩ (.int .i64 (b : Nat))).setCell ⟨sb, 2 + LT s b * 3 + 1, none⟩ (.int .i64 ((M' (LT s b) + 1 : Nat) : Int))).drew.drew :=
        ((S'.setRow _ b).setShelf (k := LT s b * 3 + 1) (by omega) (fun j => sh3_put1 F M' B (LT s b) _ j)).drew.drew
      have V2 := Vl'.lay (ord s) SV hb
      have P2 : Places ((wr.setCell ⟨rb, M' (LT s b), none⟩ (.int .i64 (b : Nat))).setCell ⟨sb, 2 + LT s b * 3 + 1, none⟩ (.int .i64 ((M' (LT s b) + 1 : Nat) : Int))).drew.drew vb V :=
        (((P'.setCell (fun e => v2 e.symm) _).setCell (fun e => v1 e.symm) _).drew).drew
      have n2 : ¬ sb = rb := S'.n2
      have n2' : ¬ rb = sb := fun e => n2 e.symm
      clear hpl hpb hbk hb hval P'
      generalize hqq : M' (LT s b) = q at *
      have Hq : Hid (M' (LT s b) = q) := hqq
      clear hqq
      go_wp2_with (go_at_call 159; refine (letter_any s b _ (by omega)).mono ?_; rintro e w' ⟨rfl, rfl⟩)
      go_region
      go_wp2
      go_region
      go_wp2
      exact ⟨⟨k + 1, _, _, by omega, by go_num, hfin, V2, P2, (((hK.setCell (Or.inr rfl) _).setCell (Or.inl rfl) _).drew).drew⟩, by simp [intOf]; omega⟩
    · have hk' : k = V.length := by omega
      subst hk'
      go_wp2
      go_end0
      exact ⟨rfl, rows', M', S', Vl', hK⟩

end Go.Proofs.YtopihgmemnokkaaGreat
