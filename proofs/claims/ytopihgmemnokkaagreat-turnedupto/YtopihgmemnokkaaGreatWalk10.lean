import Derived.Test.YtopihgmemnokkaaGreatWalk9
namespace Go.Proofs.YtopihgmemnokkaaGreat
open Go.RowKit

theorem Tryz.info5 : (Tryz.prog.info? 5).map (fun i => (i.zero, i.size, i.bytes)) = some (some (.int .u8 0), 1, 1) := by kernel_rfl

/-- the row of the whole text -/
abbrev fw (s : ByteArray) : Nat := Cc.rank s.size (before s) 0
/-- the bytes of a turned text -/
def tb (s : ByteArray) (rows : Nat → Nat) (k : Nat) : Nat := BY s (rows (Cc.un (fw s) k) - 1)
def tv (s : ByteArray) (rows : Nat → Nat) (p : Nat) : List Value := (List.range (Cc.ks (fw s) p)).map fun k => Value.int .u8 (tb s rows k : Nat)

theorem ks_succ {row p : Nat} (h : p ≠ row) : Cc.ks row (p + 1) = Cc.ks row p + 1 := by
  unfold Cc.ks
  by_cases e : row < p
  · rw [if_pos e, if_pos (by omega)]; omega
  · rw [if_neg e, if_neg (by omega)]
theorem ks_same (row : Nat) : Cc.ks row (row + 1) = Cc.ks row row := by
  unfold Cc.ks; rw [if_pos (by omega), if_neg (by omega)]; omega
theorem ks_le (row p : Nat) : Cc.ks row p ≤ p := by unfold Cc.ks; split <;> omega

theorem tv_hit (s : ByteArray) (rows : Nat → Nat) {p : Nat} (h : p ≠ fw s) : tv s rows (p + 1) = tv s rows p ++ [.int .u8 (BY s (rows p - 1) : Nat)] := by
  unfold tv
  rw [ks_succ h, List.range_succ, List.map_append]
  simp only [List.map_cons, List.map_nil]
  unfold tb
  rw [Cc.un_ks h]
theorem tv_length (s : ByteArray) (rows : Nat → Nat) (p : Nat) : (tv s rows p).length = Cc.ks (fw s) p := by simp [tv]

theorem ownsRow_ne_row {w : World} {base : Nat} {v : Value} {m : Nat} {xs : List Value} (h : w.ownsRow base 5 1 v m xs) {rb M : Nat} {f : Nat → Nat} (hr : Row w rb 3 M f) : some rb ≠ v.ownBlock := by
  intro e
  rcases h.2 with ⟨rfl, _⟩ | ⟨g, cap, cur, rfl, _, hg, _⟩
  · simp [Value.ownBlock] at e
  · simp [Value.ownBlock] at e
    subst e
    unfold Row at hr
    rw [hr] at hg
    simp at hg

structure Fth (s : ByteArray) (w : World) (rb : Nat) (rows : Nat → Nat) (p : Nat) (v : Value) (wr : World) : Prop where
  own : wr.ownsRow w.heap.size 5 1 v (Cc.ks (fw s) p) (tv s rows p)
  row : Row wr rb 3 (s.size + 1) rows
  bl : Below w.heap.size w wr

theorem strOfNums_BY (s : ByteArray) (rows : Nat → Nat) (n : Nat) {k : Nat} (hk : k < n) : BY (strOfNums ((List.range n).map fun k => ((tb s rows k : Nat) : Int))) k = tb s rows k := by
  have hsz : (strOfNums ((List.range n).map fun k => ((tb s rows k : Nat) : Int))).size = n := by rw [strOfNums_size]; simp
  rw [BY_lt _ (by omega)]
  have hb : tb s rows k ≤ 255 := BY_le _ _
  have hl : k < (strOfNums ((List.range n).map fun k => ((tb s rows k : Nat) : Int))).data.toList.length := by rw [strOfNums_data]; simp [hk]
  have h1 : (strOfNums ((List.range n).map fun k => ((tb s rows k : Nat) : Int))).data.toList[k] = UInt8.ofNat (tb s rows k) := by
    rw [List.getElem_of_eq (strOfNums_data _) hl]
    simp only [List.getElem_map, List.getElem_range, Int.toNat_natCast]
  have h2 : (strOfNums ((List.range n).map fun k => ((tb s rows k : Nat) : Int)))[k] = UInt8.ofNat (tb s rows k) := h1
  rw [h2, UInt8.toNat_ofNat']
  exact Nat.mod_eq_of_lt (by omega)

theorem Fth.skip {s : ByteArray} {w : World} {rb : Nat} {rows : Nat → Nat} {v : Value} {wr : World} (S : Fth s w rb rows (fw s) v wr) : Fth s w rb rows (fw s + 1) v wr := by
  refine ⟨?_, S.row, S.bl⟩
  have := S.own
  unfold tv at *
  rw [ks_same]; exact this

theorem Fth.hit {s : ByteArray} {w : World} {rb : Nat} {rows : Nat → Nat} {p : Nat} {v v' : Value} {wr w1 : World} (S : Fth s w rb rows p v wr) (hp : p ≠ fw s) (o : Obj) (hwb : w.heap.size ≤ wr.heap.size)
    (hown : w1.ownsRow w.heap.size 5 1 v' (Cc.ks (fw s) p + 1) (tv s rows p ++ [.int .u8 (BY s (rows p - 1) : Nat)])) (hg : (wr.alloc o).grownBy w1 v.ownBlock) : Fth s w rb rows (p + 1) v' w1 := by
  refine ⟨?_, (S.row.alloc o).grown hg (ownsRow_ne_row S.own S.row), (S.bl.alloc hwb o).grown hg (by simp; omega) (fun k h => (S.own.lt k h).1)⟩
  rw [tv_hit s rows hp, ks_succ hp]; exact hown

set_option maxRecDepth 100000 in
set_option maxHeartbeats 1000000 in
theorem forth_any (s : ByteArray) (w : World) (hs : s.size ≤ 1000) :
    Calls Tryz.prog 67 #[.string s] w fun e w' => ∃ (b : ByteArray) (rows : Nat → Nat), e = .returned (.tuple #[.string b, .int .i64 (fw s : Nat)]) ∧ b.size = s.size ∧
      (∀ i, i ≤ s.size → rows (Cc.rank s.size (before s) i) = i) ∧ (∀ k, k < s.size → BY b k = tb s rows k) ∧ Below w.heap.size w w' := by
  obtain ⟨i0, hi, hz0, hz1, hz2⟩ := info_parts Tryz.info5
  go_enter Tryz.func67, Tryz.ntmps67
  go_wp2_with (at_make; refine wpList_make_own _ rfl _ _ 55 rfl w.heap.size 5 i0 (.int .u8 0) 1 Tryz.underlying55 hi hz0 hz1 _ _ _ s.size rfl rfl rfl ?c1 ?c2 (Nat.le_refl _) ?_)
  case c1 => rw [hz2]; omega
  case c2 => unfold maxLen; omega
  intro w0 hown0 hgr0
  have hB0 : Below w.heap.size w w0 := (Below.refl _ _).grown hgr0 (Nat.le_refl _) (fun k h => by cases h)
  have hz := (hown0.lt w.heap.size rfl).2
  go_wp2_with fail
  refine (sorted_any s _ hs).mono ?_
  rintro e w1 ⟨rb, rows, B, rfl, hrb, hR, hD, hB1⟩
  have hrows : ∀ i, i ≤ s.size → rows (Cc.rank s.size (before s) i) = i := fun i hi => hD.done (ord s) hi
  have hown1 := (hown0.kept (w' := w1) (row := none) ⟨hB1.os, hB1.tape, hB1.output, hB1.size, fun k hk _ => hB1.block k hk⟩ (Or.inr (by simp [Value.ownBlock])))
  have hBl : Below w.heap.size w w1 := hB0.trans (hB1.mono (by omega))
  have hfwn := (ord s).rank_le (i := 0) (by omega)
  have hrow0 := hrows 0 (by omega)
  go_wp2
  go_loopw [4, 5, 6, 7, 14] (fun v wh r pl i wr => ∃ p : Nat, p ≤ s.size + 1 ∧ i = .int .i64 p ∧ wh = .int .i64 ((if fw s < p then fw s else 0 : Nat) : Int) ∧ Fth s w rb rows p v wr) (fun _ _ _ _ i _ => (s.size + 1) - (intOf i).toNat)
  case atStart =>
    refine ⟨0, by omega, rfl, rfl, ⟨?_, hR, hBl⟩⟩
    have : Cc.ks (fw s) 0 = 0 := by unfold Cc.ks; rw [if_neg (by omega)]
    unfold tv; rw [this]; exact hown1
  case round =>
    obtain ⟨p, hp, rfl, rfl, S⟩ := hrel
    have hBs := S.bl.size
    by_cases hlt : p < s.size + 1
    · obtain ⟨i, hin, hip⟩ := (ord s).onto (r := p) (by omega)
      have hrp := hrows i hin
      rw [hip] at hrp
      have cp : wr.cell? ⟨rb, p, none⟩ = some (.int .i64 (rows p : Nat)) := S.row.cell hlt
      rw [hrp] at cp
      cases i with
      | zero =>
        have hpf : p = fw s := hip.symm
        have S2 : Fth s w rb rows (p + 1) u4 wr := by rw [hpf] at S ⊢; exact S.skip
        have hwh : (.int .i64 (p : Int) : Value) = .int .i64 ((if fw s < p + 1 then fw s else 0 : Nat) : Int) := by rw [if_pos (by omega), hpf]
        have Hwh : Hid ((.int .i64 (p : Int) : Value) = .int .i64 ((if fw s < p + 1 then fw s else 0 : Nat) : Int)) := hwh
        clear hwh hpf hip hrp hrow0 hrows hown0 hown1 hgr0
        go_wp2
        exact ⟨⟨p + 1, by omega, by go_num, Hwh.out, S2⟩, by simp [intOf]; omega⟩
      | succ j =>
        have hpf : p ≠ fw s := fun e => by
          have := (ord s).rank_inj (i := j + 1) (j := 0) hin (by omega) (by rw [hip, e]); omega
        have hj : j < s.size := by omega
        have hjb : BY s (rows p - 1) = s[j].toNat := by rw [hrp]; exact BY_lt s hj
        have R := fun v' w1 => S.hit (v' := v') (w1 := w1) hpf (Obj.cells #[Value.int IntKind.u8 s[j].toNat] 5) hBs
        rw [hjb] at R
        have hkl := ks_le (fw s) p
        have hwh : (if fw s < p then fw s else 0) = (if fw s < p + 1 then fw s else 0) := by
          by_cases e : fw s < p
          · rw [if_pos e, if_pos (by omega)]
          · rw [if_neg e, if_neg (by omega)]
        have Hwh : Hid ((if fw s < p then fw s else 0) = (if fw s < p + 1 then fw s else 0)) := hwh
        clear hwh hpf hip hrp hrow0 hrows hown0 hown1 hgr0 hjb
        generalize (if fw s < p then fw s else 0) = q at *
        go_wp2_with (at_builtin; refine wpList_append_own _ rfl _ _ 55 rfl w.heap.size 5 i0 (.int .u8 0) 1 1 Tryz.underlying55 hi hz0 hz1 hz2 rfl (by decide) _ _ _ rfl (S.own.alloc _) ⟨wr.heap.size, 0, none⟩ 1 1 [.int .u8 (s[j].toNat : Int)] rfl rfl ?c1 ?c2 ?c3 ?c4 ?c5 ?_)
        case c1 => exact cell_one_new _ _ _
        case c2 => intro u hu; simp at hu; subst hu; rfl
        case c3 => unfold maxLen; omega
        case c4 => omega
        case c5 => simp; omega
        intro v' w2 hown hgrow _
        have R1 := R v' w2 hown hgrow
        clear R hown hgrow cp
        go_wp2
        exact ⟨⟨p + 1, by omega, by go_num, by rw [Hwh.out], R1⟩, by simp [intOf]; omega⟩
    · have hp' : p = s.size + 1 := by omega
      subst hp'
      have hks : Cc.ks (fw s) (s.size + 1) = s.size := by have hfw : fw s ≤ s.size := hfwn; unfold Cc.ks; rw [if_pos (by omega)]; omega
      have hown := S.own
      unfold tv at hown
      rw [hks] at hown
      have hfw : fw s ≤ s.size := hfwn
      have hwf : (if fw s < s.size + 1 then fw s else 0) = fw s := by rw [if_pos (by omega)]
      rw [hwf]
      rcases hown.2 with ⟨hv, h0⟩ | ⟨g, cap, cur, hv, hgb, hcell, hcap, hmx, hsz, htk⟩
      · subst hv
        have hcv := run_convert_bytes_nil (P := Tryz.prog) (w := wr) 55 5 Tryz.underlying55 Tryz.underlying5 0 0 9 Tryz.underlying9
        go_wp2
        go_ret2
        refine ⟨ByteArray.empty, rows, rfl, by simp [h0], hrows, fun k hk => by omega, S.bl⟩
      · subst hv
        have hcv := run_convert_bytes_arg (P := Tryz.prog) wr 55 5 Tryz.underlying55 Tryz.underlying5 g 0 s.size cap ((List.range s.size).map fun k => ((tb s rows k : Nat) : Int)) (by simp) (by
          intro i hi
          rw [Nat.zero_add, hown.cellAt i (by omega)]
          simp [hi]) 9 Tryz.underlying9
        clear hcell htk
        go_wp2
        go_ret2
        refine ⟨_, rows, rfl, by rw [strOfNums_size]; simp, hrows, fun k hk => strOfNums_BY s rows s.size hk, S.bl⟩

end Go.Proofs.YtopihgmemnokkaaGreat
