import Derived.Test.YtopihgmemnokkaaGreatWalk17
import Derived.Test.YtopihgmemnokkaaGreatFore
namespace Go.Proofs.YtopihgmemnokkaaGreat
open Go.RowKit

abbrev kA (b : ByteArray) (i : Nat) : Nat := Cc.kAt b.size (BY b) i
def firstL (b : ByteArray) (m : Nat) : List Value := (List.range m).map fun i => Value.int .u8 (BY b (kA b i) : Nat)
def behindL (b : ByteArray) (row m : Nat) : List Value := (List.range m).map fun i => Value.int .i64 (Cc.un row (kA b i) : Nat)

theorem firstL_succ (b : ByteArray) (m : Nat) : firstL b (m + 1) = firstL b m ++ [.int .u8 (BY b (kA b m) : Nat)] := by
  unfold firstL; rw [List.range_succ, List.map_append]; rfl
theorem behindL_succ (b : ByteArray) (row m : Nat) : behindL b row (m + 1) = behindL b row m ++ [.int .i64 (Cc.un row (kA b m) : Nat)] := by
  unfold behindL; rw [List.range_succ, List.map_append]; rfl

/-- the first bytes of rows, and the rows behind them, as far as they are laid -/
structure Rf (b : ByteArray) (row : Nat) (w : World) (mf mb : Nat) (vf vb : Value) (wr : World) : Prop where
  fo : wr.ownsRow w.heap.size 5 1 vf mf (firstL b mf)
  be : wr.ownsRow w.heap.size 3 1 vb mb (behindL b row mb)
  bl : Below w.heap.size w wr

theorem Rf.first {b : ByteArray} {row : Nat} {w : World} {mf mb : Nat} {vf vf' vb : Value} {wr w1 : World} (S : Rf b row w mf mb vf vb wr) (o : Obj)
    {x : Nat} (hx : x = BY b (kA b mf)) (hown : w1.ownsRow w.heap.size 5 1 vf' (mf + 1) (firstL b mf ++ [.int .u8 (x : Nat)])) (hg : (wr.alloc o).grownBy w1 vf.ownBlock) : Rf b row w (mf + 1) mb vf' vb w1 := by
  have hz := S.bl.size
  refine ⟨?_, (S.be.alloc o).kept hg (owns_ne S.fo S.be (by decide)), (S.bl.alloc hz o).grown hg (by simp; omega) (fun k h => (S.fo.lt k h).1)⟩
  rw [firstL_succ, ← hx]; exact hown

theorem Rf.behind {b : ByteArray} {row : Nat} {w : World} {mf mb : Nat} {vf vb vb' : Value} {wr w1 : World} (S : Rf b row w mf mb vf vb wr) (o : Obj)
    {x : Int} (hx : x = (Cc.un row (kA b mb) : Nat)) (hown : w1.ownsRow w.heap.size 3 1 vb' (mb + 1) (behindL b row mb ++ [.int .i64 x])) (hg : (wr.alloc o).grownBy w1 vb.ownBlock) : Rf b row w mf (mb + 1) vf vb' w1 := by
  have hz := S.bl.size
  refine ⟨(S.fo.alloc o).kept hg (owns_ne S.be S.fo (by decide)), ?_, (S.bl.alloc hz o).grown hg (by simp; omega) (fun k h => (S.be.lt k h).1)⟩
  rw [behindL_succ, ← hx]; exact hown

theorem wrap64_byte (x : UInt8) : wrap64 ((x.toNat : Nat) : Int) = x.toNat := by
  have := x.toNat_lt
  unfold wrap64; omega

set_option maxHeartbeats 400000 in
theorem refrestore_long (b : ByteArray) (row : Int) (w : World) (hs : 1000 < b.size) :
    Calls Tryz.prog 51 #[.string b, .int .i64 row] w fun e w' => e = .returned (.tuple #[.string ByteArray.empty, .int .i64 1]) ∧ w' = w := by
  go_enter Tryz.func51, Tryz.ntmps51
  go_wp2
  go_ret2
  exact ⟨rfl, rfl⟩

set_option maxHeartbeats 400000 in
theorem refrestore_out (b : ByteArray) (row : Int) (w : World) (hs : b.size ≤ 1000) (hr : row < 0 ∨ (b.size : Int) < row) :
    Calls Tryz.prog 51 #[.string b, .int .i64 row] w fun e w' => e = .returned (.tuple #[.string ByteArray.empty, .int .i64 4]) ∧ w' = w := by
  by_cases h : row < 0
  · go_enter Tryz.func51, Tryz.ntmps51
    go_wp2
    go_ret2
    exact ⟨rfl, rfl⟩
  · have h2 : (b.size : Int) < row := by omega
    go_enter Tryz.func51, Tryz.ntmps51
    go_wp2
    go_ret2
    exact ⟨rfl, rfl⟩

/-- the text read forward -/
def foreByte (b : ByteArray) (row i : Nat) : Nat := BY b (kA b (Cc.ft b.size (BY b) row i - 1))
def foreL (b : ByteArray) (row m : Nat) : List Value := (List.range m).map fun i => Value.int .u8 (foreByte b row i : Nat)
theorem foreL_succ (b : ByteArray) (row m : Nat) : foreL b row (m + 1) = foreL b row m ++ [.int .u8 (foreByte b row m : Nat)] := by
  unfold foreL; rw [List.range_succ, List.map_append]; rfl

def foreText (b : ByteArray) (row : Nat) : ByteArray := strOfNums ((List.range b.size).map fun k => ((foreByte b row k : Nat) : Int))
theorem foreText_size (b : ByteArray) (row : Nat) : (foreText b row).size = b.size := by unfold foreText; rw [strOfNums_size]; simp

theorem foreText_takes (b : ByteArray) (row : Nat) (t : Cc.Takes b.size (BY b) row) : foreText b row = textOf b row := by
  apply BY_ext
  · rw [foreText_size, textOf_size]
  · intro k hk
    rw [foreText_size] at hk
    rw [textOf_BY b row hk]
    have h1 := strOfNums_f (foreByte b row) b.size hk (BY_le _ _)
    unfold foreText
    rw [h1]
    unfold foreByte textTo
    rw [if_pos (by omega)]
    exact congrArg (BY b) (t.fore_byte hk).2

theorem strOfNums_nil : strOfNums [] = ByteArray.empty := by
  apply BY_ext
  · rw [strOfNums_size]; rfl
  · intro k hk
    rw [strOfNums_size] at hk
    simp at hk

/-- bytes of one's own as a text -/
theorem conv_own {w : World} {base : Nat} {v : Value} {n : Nat} {f : Nat → Nat} (h : w.ownsRow base 5 1 v n ((List.range n).map fun i => Value.int .u8 (f i : Nat))) :
    (convert 55 9 v).run Tryz.prog w = .ok (.string (strOfNums ((List.range n).map fun k => ((f k : Nat) : Int)))) w := by
  rcases h.2 with ⟨hv, h0⟩ | ⟨g, cap, cur, hv, _⟩
  · subst hv; subst h0
    rw [List.range_zero, List.map_nil, strOfNums_nil]
    exact run_convert_bytes_nil (P := Tryz.prog) (w := w) 55 5 Tryz.underlying55 Tryz.underlying5 0 0 9 Tryz.underlying9
  · subst hv
    exact run_convert_bytes_arg (P := Tryz.prog) w 55 5 Tryz.underlying55 Tryz.underlying5 g 0 n cap ((List.range n).map fun k => ((f k : Nat) : Int)) (by simp) (by
          intro i hi
          rw [Nat.zero_add, h.cellAt i (by omega)]
          simp [hi]) 9 Tryz.underlying9

theorem bytes_eq {a b : ByteArray} (h : a.toList = b.toList) : a = b := by
  rw [ByteArray.toList_eq, ByteArray.toList_eq] at h
  exact ByteArray.ext (Array.ext' h)

structure Rt (b : ByteArray) (row : Nat) (w : World) (i : Nat) (vt : Value) (wr : World) : Prop where
  tx : wr.ownsRow w.heap.size 5 1 vt i (foreL b row i)
  bl : Below w.heap.size w wr

theorem Rt.step {b : ByteArray} {row : Nat} {w : World} {i : Nat} {vt vt' : Value} {wr w1 : World} (S : Rt b row w i vt wr) (o : Obj)
    {x : Nat} (hx : foreByte b row i = x) (hown : w1.ownsRow w.heap.size 5 1 vt' (i + 1) (foreL b row i ++ [.int .u8 (x : Nat)])) (hg : (wr.alloc o).grownBy w1 vt.ownBlock) : Rt b row w (i + 1) vt' w1 := by
  have hz := S.bl.size
  refine ⟨?_, (S.bl.alloc hz o).grown hg (by simp; omega) (fun k h => (S.tx.lt k h).1)⟩
  rw [foreL_succ, hx]; exact hown

set_option maxRecDepth 100000 in
set_option maxHeartbeats 2000000 in
theorem refrestore_in (b : ByteArray) (row : Nat) (w : World) (hs : b.size ≤ 1000) (hr : row ≤ b.size) :
    Calls Tryz.prog 51 #[.string b, .int .i64 (row : Nat)] w fun e w' => Below w.heap.size w w' ∧
      ((¬ Cc.Takes b.size (BY b) row ∧ e = .returned (.tuple #[.string ByteArray.empty, .int .i64 4])) ∨
       (Cc.Takes b.size (BY b) row ∧ e = .returned (.tuple #[.string (textOf b row), .int .i64 0]))) := by
  obtain ⟨i0, hi, hz0, hz1, hz2⟩ := info_parts Tryz.info5
  obtain ⟨j0, hj, hy0, hy1, hy2⟩ := info_parts Tryz.info3
  have d0 : decide ((1000 : Int) < (b.size : Int)) = false := decide_eq_false (by omega)
  have d1 : decide ((row : Int) < 0) = false := decide_eq_false (by omega)
  have d2 : decide (b.size < row) = false := decide_eq_false (by omega)
  go_enter Tryz.func51, Tryz.ntmps51
  go_wp2
  go_loopw [6, 7, 8, 9, 10] (fun vf vb c _ _ wr => ∃ q : Nat, q ≤ 256 ∧ c = .int .i64 q ∧ Rf b row w (Cc.mo b.size (BY b) q 0) (Cc.mo b.size (BY b) q 0) vf vb wr) (fun _ _ c _ _ _ => 256 - (intOf c).toNat)
  case atStart =>
    refine ⟨0, by omega, rfl, ?_⟩
    rw [Cc.mo_zero]
    exact ⟨World.ownsRow_nil _ _ _ _, World.ownsRow_nil _ _ _ _, Below.refl _ _⟩
  case round =>
    obtain ⟨c, hc, rfl, S⟩ := hrel
    by_cases hlt : c < 256
    · have dc : decide ((c : Int) < 256) = true := decide_eq_true (by omega)
      go_wp2
      go_loopw [6, 7, 9, 10] (fun vf vb kk _ wr => ∃ k : Nat, k ≤ b.size ∧ kk = .int .i64 k ∧ Rf b row w (Cc.mo b.size (BY b) c k) (Cc.mo b.size (BY b) c k) vf vb wr) (fun _ _ kk _ _ => b.size - (intOf kk).toNat)
      case atStart => exact ⟨0, by omega, rfl, S⟩
      case round =>
        clear S
        obtain ⟨k, hk, rfl, S⟩ := hrel
        have hmo := Cc.mo_le (b := BY b) (c := c) hk
        have hwb := S.bl.size
        by_cases hkl : k < b.size
        · by_cases hbk : BY b k = c
          · have hnext := Cc.mo_hit (n := b.size) hbk
            have hka : kA b (Cc.mo b.size (BY b) c k) = k := by
              have h1 := Cc.mo_lead b.size (BY b) k
              rw [hbk] at h1
              show Cc.kAt _ _ _ = k
              rw [h1]; exact Cc.kAt_lead hkl
            have Hn : Hid (Cc.mo b.size (BY b) c (k + 1) = Cc.mo b.size (BY b) c k + 1) := hnext
            clear hnext
            obtain ⟨m, hm⟩ : ∃ m, m = Cc.mo b.size (BY b) c k := ⟨_, rfl⟩
            rw [← hm] at S hmo hka Hn
            clear hm
            have hbv := BY_lt b hkl
            have hbe : (wrap64 (b[k].toNat : Int) == (c : Int)) = true := by rw [wrap64_byte]; simp; omega
            have F := fun v' w1 => S.first (vf' := v') (w1 := w1) (Obj.cells #[Value.int IntKind.u8 b[k].toNat] 5) (x := b[k].toNat) (by rw [hka, hbv])
            clear hbv
            go_wp2_with (at_builtin; refine wpList_append_own _ rfl _ _ 55 rfl w.heap.size 5 i0 (.int .u8 0) 1 1 Tryz.underlying55 hi hz0 hz1 hz2 rfl (by decide) _ _ _ rfl (S.fo.alloc _) ⟨wr.heap.size, 0, none⟩ 1 1 [.int .u8 (b[k].toNat : Int)] rfl rfl ?c1 ?c2 ?c3 ?c4 ?c5 ?_)
            case c1 => exact cell_one_new _ _ _
            case c2 => intro u hu; simp at hu; subst hu; rfl
            case c3 => unfold maxLen; omega
            case c4 => omega
            case c5 => simp; omega
            intro v' w2 hown hgrow _
            have S1 := F v' w2 hown hgrow
            clear F hown hgrow hbe S
            have hw2 := S1.bl.size
            by_cases hkr : row ≤ k
            · have B := fun v' w1 => S1.behind (vb' := v') (w1 := w1) (Obj.cells #[Value.int IntKind.i64 ((k : Int) + 1)] 3) (x := (k : Int) + 1) (by rw [hka]; unfold Cc.un; rw [if_neg (by omega)]; omega)
              have hkr' : (row : Int) ≤ (k : Int) := by omega
              clear hka
              go_wp2_with (at_builtin; refine wpList_append_own _ rfl _ _ 30 rfl w.heap.size 3 j0 (.int .i64 0) 1 8 Tryz.underlying30 hj hy0 hy1 hy2 rfl (by decide) _ _ _ rfl (S1.be.alloc _) ⟨w2.heap.size, 0, none⟩ 1 1 [.int .i64 ((k : Int) + 1)] rfl rfl ?d1 ?d2 ?d3 ?d4 ?d5 ?_)
              case d1 => exact cell_one_new _ _ _
              case d2 => intro u hu; simp at hu; subst hu; rfl
              case d3 => unfold maxLen; omega
              case d4 => omega
              case d5 => simp; omega
              intro v3 w3 hown hgrow _
              have S2 := B v3 w3 hown hgrow
              clear B hown hgrow S1
              go_wp2
              exact ⟨⟨k + 1, by omega, by go_num, by rw [Hn.out]; exact S2⟩, by simp [intOf]; omega⟩
            · have B := fun v' w1 => S1.behind (vb' := v') (w1 := w1) (Obj.cells #[Value.int IntKind.i64 (k : Int)] 3) (x := (k : Int)) (by rw [hka]; unfold Cc.un; rw [if_pos (by omega)])
              have hkr' : ¬ (row : Int) ≤ (k : Int) := by omega
              clear hka
              go_wp2_with (at_builtin; refine wpList_append_own _ rfl _ _ 30 rfl w.heap.size 3 j0 (.int .i64 0) 1 8 Tryz.underlying30 hj hy0 hy1 hy2 rfl (by decide) _ _ _ rfl (S1.be.alloc _) ⟨w2.heap.size, 0, none⟩ 1 1 [.int .i64 (k : Int)] rfl rfl ?e1 ?e2 ?e3 ?e4 ?e5 ?_)
              case e2 => first | rfl | (intro u hu; simp at hu; subst hu; rfl)
              case e3 => unfold maxLen; omega
              case e4 => omega
              case e5 => first | omega | (simp; omega)
              intro v3 w3 hown hgrow _
              have S2 := B v3 w3 hown hgrow
              clear B hown hgrow S1
              go_wp2
              exact ⟨⟨k + 1, by omega, by go_num, by rw [Hn.out]; exact S2⟩, by simp [intOf]; omega⟩
          · have Hn : Hid (Cc.mo b.size (BY b) c (k + 1) = Cc.mo b.size (BY b) c k) := Cc.mo_miss hbk
            have hbv := BY_lt b hkl
            have hbe : (wrap64 (b[k].toNat : Int) == (c : Int)) = false := by rw [wrap64_byte]; simp; omega
            clear hbv
            go_wp2
            exact ⟨⟨k + 1, by omega, by go_num, by rw [Hn.out]; exact S⟩, by simp [intOf]; omega⟩
        · have hk' : k = b.size := by omega
          subst hk'
          have Hn : Hid (Cc.mo b.size (BY b) c b.size = Cc.mo b.size (BY b) (c + 1) 0) := Cc.mo_next _ _ _
          go_wp2
          exact ⟨⟨c + 1, by omega, by go_num, by rw [← Hn.out]; exact S⟩, by simp [intOf]; omega⟩
    · have hc' : c = 256 := by omega
      subst hc'
      rw [Cc.mo_end (fun j => BY_le b j)] at S
      rw [show ((256 : Nat) : Int) = 256 from rfl]
      obtain ⟨w5, hw5⟩ : ∃ w5 : World, w5 = wr := ⟨_, rfl⟩
      subst hw5
      have hwb5 := S.bl.size
      go_wp2
      go_loopw [11, 12, 13] (fun vt r i wr => ∃ p : Nat, p ≤ b.size ∧ i = .int .i64 p ∧ r = .int .i64 ((Cc.ft b.size (BY b) row p : Nat) : Int) ∧ (∀ m, m < p → Cc.ft b.size (BY b) row m ≠ 0) ∧ Rt b row w5 p vt wr) (fun _ _ i _ => b.size - (intOf i).toNat)
      case atStart => exact ⟨0, by omega, rfl, rfl, fun m hm => by omega, ⟨World.ownsRow_nil _ _ _ _, Below.refl _ _⟩⟩
      case round =>
        obtain ⟨p, hp, rfl, rfl, hT, T⟩ := hrel
        have hwb := T.bl.size
        have hft := Cc.ft_le (b := BY b) hr p hT
        have hbl : Below w.heap.size w wr := S.bl.trans (T.bl.mono hwb5)
        by_cases hpl : p < b.size
        · by_cases hz : Cc.ft b.size (BY b) row p = 0
          · have hno : ¬ Cc.Takes b.size (BY b) row := fun t => (t.fore_byte hpl).1 hz
            rw [hz]
            clear hz hft hT S T
            go_wp2
            go_ret2
            exact ⟨hbl, .inl ⟨hno, rfl⟩⟩
          · have Hn : Hid (Cc.ft b.size (BY b) row (p + 1) = Cc.un row (kA b (Cc.ft b.size (BY b) row p - 1))) := rfl
            have hT2 : ∀ m, m < p + 1 → Cc.ft b.size (BY b) row m ≠ 0 := fun m hm => by
              by_cases e : m = p
              · rw [e]; exact hz
              · exact hT m (by omega)
            have Hb : Hid (foreByte b row p = BY b (kA b (Cc.ft b.size (BY b) row p - 1))) := rfl
            clear hT
            generalize Cc.ft b.size (BY b) row p = r at *
            obtain ⟨q, rfl⟩ : ∃ q, r = q + 1 := ⟨r - 1, by omega⟩
            rw [Nat.add_sub_cancel] at Hn Hb
            obtain ⟨g, cap, hvf, hcf⟩ : ∃ g cap, u6 = .slice (some ⟨g, 0, none⟩) b.size cap ∧ wr.cell? ⟨g, q, none⟩ = some (.int .u8 (BY b (kA b q) : Nat)) := by
              have h1 := S.fo
              rcases h1.2 with ⟨_, h0⟩ | ⟨g, cap, _, e1, _⟩
              · omega
              · refine ⟨g, cap, e1, ?_⟩
                rw [e1] at h1
                rw [T.bl.cell (p := ⟨g, q, none⟩) (h1.lt g rfl).2, h1.cellAt q (by omega)]
                simp [firstL, show q < b.size from by omega]
            obtain ⟨g2, cap2, hvb, hcb, hg2⟩ : ∃ g cap, u7 = .slice (some ⟨g, 0, none⟩) b.size cap ∧ w5.cell? ⟨g, q, none⟩ = some (.int .i64 (Cc.un row (kA b q) : Nat)) ∧ g < w5.heap.size := by
              have h1 := S.be
              rcases h1.2 with ⟨_, h0⟩ | ⟨g, cap, _, e1, _⟩
              · omega
              · refine ⟨g, cap, e1, ?_⟩
                rw [e1] at h1
                rw [h1.cellAt q (by omega)]
                exact ⟨by simp [behindL, show q < b.size from by omega], (h1.lt g rfl).2⟩
            clear S
            subst hvf hvb
            generalize hun : Cc.un row (kA b q) = y at *
            generalize BY b (kA b q) = x at *
            clear hun
            have F := fun v' w1 => T.step (vt' := v') (w1 := w1) (Obj.cells #[Value.int IntKind.u8 (x : Int)] 5) Hb.out
            go_wp2_with (at_builtin; refine wpList_append_own _ rfl _ _ 55 rfl w5.heap.size 5 i0 (.int .u8 0) 1 1 Tryz.underlying55 hi hz0 hz1 hz2 rfl (by decide) _ _ _ rfl (T.tx.alloc _) ⟨wr.heap.size, 0, none⟩ 1 1 [.int .u8 (x : Int)] rfl rfl ?k1 ?k2 ?k3 ?k4 ?k5 ?_)
            case k1 => exact cell_one_new _ _ _
            case k2 => first | rfl | (intro u hu; simp at hu; subst hu; rfl)
            case k3 => unfold maxLen; omega
            case k4 => omega
            case k5 => first | omega | (simp; omega)
            intro v' w2 hown hgrow _
            have T1 := F v' w2 hown hgrow
            clear F hown hgrow T hcf
            have hcb' : w2.cell? ⟨g2, q, none⟩ = some (.int .i64 (y : Nat)) := (T1.bl.cell (p := ⟨g2, q, none⟩) hg2).trans hcb
            go_wp2
            exact ⟨⟨p + 1, by omega, by go_num, by rw [Hn.out], hT2, T1⟩, by simp [intOf]; omega⟩
        · have hp' : p = b.size := by omega
          subst hp'
          have hcv := conv_own (f := foreByte b row) T.tx
          have hfs := foreText_size b row
          have Hft : Hid (Cc.Takes b.size (BY b) row → Cc.ft b.size (BY b) row b.size = 0) := fun t => by
            have h1 := t.fore b.size (Nat.le_refl _)
            rw [Nat.sub_self] at h1; exact h1
          have hf : strOfNums ((List.range b.size).map fun k => ((foreByte b row k : Nat) : Int)) = foreText b row := rfl
          rw [hf] at hcv
          have Hf : Hid (strOfNums ((List.range b.size).map fun k => ((foreByte b row k : Nat) : Int)) = foreText b row) := hf
          clear hf
          have Ht := foreText_takes b row
          have hmn := reftransform_any (foreText b row) wr (by omega)
          have hdr := trn_back (foreText b row)
          have htt := text_turned b row
          clear hT
          generalize Cc.ft b.size (BY b) row b.size = r at *
          generalize foreText b row = t at *
          go_wp2_with fail
          refine hmn.mono ?_
          rintro e w6 ⟨rfl, hB6⟩
          have hcv6 := conv_own (f := foreByte b row) (T.tx.kept (w' := w6) (row := none) ⟨hB6.os, hB6.tape, hB6.output, hB6.size, fun k hk _ => hB6.block k hk⟩ (by cases u11.ownBlock <;> simp))
          rw [Hf.out] at hcv6
          have hbl6 : Below w.heap.size w w6 := hbl.trans (hB6.mono hbl.size)
          clear hmn hcv T S hB6
          by_cases h0 : r = 0
          · by_cases h1 : trn t = b
            · by_cases h2 : fw t = row
              · have htk : Cc.Takes b.size (BY b) row := by
                  have := hdr.1
                  rw [h1, h2] at this; exact this
                have ht := Ht htk
                rw [h0, h1, h2]
                clear h0 h1 h2 Ht hdr htt Hft
                go_wp2
                go_ret2
                exact ⟨hbl6, .inr ⟨htk, rfl⟩⟩
              · have hno : ¬ Cc.Takes b.size (BY b) row := fun k => h2 (by rw [Ht k]; exact (htt k).1)
                have h2' : (((fw t : Nat) : Int) != (row : Int)) = true := by simp; omega
                rw [h0, h1]
                clear h0 h1 Ht hdr htt Hft
                generalize fw t = y at *
                go_wp2
                go_ret2
                exact ⟨hbl6, .inl ⟨hno, rfl⟩⟩
            · have hno : ¬ Cc.Takes b.size (BY b) row := fun k => h1 (by rw [Ht k]; exact (htt k).2)
              rw [h0]
              clear h0 Ht hdr htt Hft
              generalize trn t = y at *
              generalize fw t = z at *
              have h1' : ¬ y.toList = b.toList := fun e => h1 (bytes_eq e)
              go_wp2
              go_ret2
              exact ⟨hbl6, .inl ⟨hno, rfl⟩⟩
          · have hno : ¬ Cc.Takes b.size (BY b) row := fun k => h0 (Hft.out k)
            clear Ht hdr htt Hft
            generalize trn t = y at *
            generalize fw t = z at *
            have h0' : ((r : Int) != 0) = true := by simp; omega
            go_wp2
            go_ret2
            exact ⟨hbl6, .inl ⟨hno, rfl⟩⟩

end Go.Proofs.YtopihgmemnokkaaGreat
