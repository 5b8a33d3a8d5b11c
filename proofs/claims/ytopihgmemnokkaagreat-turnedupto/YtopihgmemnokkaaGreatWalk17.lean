import Derived.Test.YtopihgmemnokkaaGreatWalk16
namespace Go.Proofs.YtopihgmemnokkaaGreat
open Go.RowKit

set_option maxHeartbeats 400000 in
theorem refsuffixes_any (s : ByteArray) (w : World) (hs : s.size ≤ 1000) :
    Calls Tryz.prog 40 #[.string s] w fun e w' => ∃ v, e = .returned (.tuple #[v, .int .i64 0]) ∧ w'.ownsRow w.heap.size 3 1 v (s.size + 1) (vals (sortedL s)) ∧ Below w.heap.size w w' := by
  go_enter Tryz.func40, Tryz.ntmps40
  go_wp2_with fail
  refine (refsorted_any s _ hs).mono ?_
  rintro e w1 ⟨v, rfl, h1, h2⟩
  go_wp2
  go_ret2
  exact ⟨v, rfl, h1, h2⟩

set_option maxHeartbeats 400000 in
theorem refsuffixes_long (s : ByteArray) (w : World) (hs : 1000 < s.size) :
    Calls Tryz.prog 40 #[.string s] w fun e w' => e = .returned (.tuple #[.slice none 0 0, .int .i64 1]) ∧ w' = w := by
  go_enter Tryz.func40, Tryz.ntmps40
  go_wp2
  go_ret2
  exact ⟨rfl, rfl⟩

set_option maxHeartbeats 400000 in
theorem suffixes_long (s : ByteArray) (w : World) (hs : 1000 < s.size) :
    Calls Tryz.prog 39 #[.string s] w fun e w' => e = .returned (.tuple #[.slice none 0 0, .int .i64 1]) ∧ w' = w := by
  go_enter Tryz.func39, Tryz.ntmps39
  go_wp2
  go_ret2
  exact ⟨rfl, rfl⟩

set_option maxHeartbeats 400000 in
theorem transform_long (s : ByteArray) (w : World) (hs : 1000 < s.size) :
    Calls Tryz.prog 44 #[.string s] w fun e w' => e = .returned (.tuple #[.string ByteArray.empty, .int .i64 0, .int .i64 1]) ∧ w' = w := by
  go_enter Tryz.func44, Tryz.ntmps44
  go_wp2
  go_ret3
  exact ⟨rfl, rfl⟩

set_option maxHeartbeats 400000 in
theorem reftransform_long (s : ByteArray) (w : World) (hs : 1000 < s.size) :
    Calls Tryz.prog 45 #[.string s] w fun e w' => e = .returned (.tuple #[.string ByteArray.empty, .int .i64 0, .int .i64 1]) ∧ w' = w := by
  go_enter Tryz.func45, Tryz.ntmps45
  go_wp2
  go_ret3
  exact ⟨rfl, rfl⟩

/-- the bytes laid, and the list that is read -/
structure Fr (s : ByteArray) (w : World) (lv : Value) (p : Nat) (v : Value) (wr : World) : Prop where
  own : wr.ownsRow w.heap.size 5 1 v (Cc.ks (fw s) p) (tv s (placeOf s) p)
  list : wr.ownsRow w.heap.size 3 1 lv (s.size + 1) (vals (sortedL s))
  bl : Below w.heap.size w wr

theorem Fr.skip {s : ByteArray} {w : World} {lv v : Value} {wr : World} (S : Fr s w lv (fw s) v wr) : Fr s w lv (fw s + 1) v wr := by
  refine ⟨?_, S.list, S.bl⟩
  have := S.own
  unfold tv at *
  rw [ks_same]; exact this

theorem Fr.hit {s : ByteArray} {w : World} {lv : Value} {p : Nat} {v v' : Value} {wr w1 : World} (S : Fr s w lv p v wr) (hp : p ≠ fw s) (o : Obj) (hwb : w.heap.size ≤ wr.heap.size)
    (hown : w1.ownsRow w.heap.size 5 1 v' (Cc.ks (fw s) p + 1) (tv s (placeOf s) p ++ [.int .u8 (BY s (placeOf s p - 1) : Nat)])) (hg : (wr.alloc o).grownBy w1 v.ownBlock) : Fr s w lv (p + 1) v' w1 := by
  refine ⟨?_, (S.list.alloc o).kept hg (owns_ne S.own S.list (by decide)), (S.bl.alloc hwb o).grown hg (by simp; omega) (fun k h => (S.own.lt k h).1)⟩
  rw [tv_hit s _ hp, ks_succ hp]; exact hown

theorem sortedL_get (s : ByteArray) {p : Nat} (hp : p < s.size + 1) : (vals (sortedL s))[p]? = some (.int .i64 (placeOf s p : Nat)) := by
  simp [vals, sortedL, hp]

set_option maxRecDepth 100000 in
set_option maxHeartbeats 1000000 in
theorem reftransform_any (s : ByteArray) (w : World) (hs : s.size ≤ 1000) :
    Calls Tryz.prog 45 #[.string s] w fun e w' => e = .returned (.tuple #[.string (trn s), .int .i64 (fw s : Nat), .int .i64 0]) ∧ Below w.heap.size w w' := by
  obtain ⟨i0, hi, hz0, hz1, hz2⟩ := info_parts Tryz.info5
  go_enter Tryz.func45, Tryz.ntmps45
  go_wp2_with fail
  refine (refsorted_any s _ hs).mono ?_
  rintro e w1 ⟨lv, rfl, hl, hB1⟩
  obtain ⟨g, cap, rfl⟩ : ∃ g cap, lv = .slice (some ⟨g, 0, none⟩) (s.size + 1) cap := by
    rcases hl.2 with ⟨_, h0⟩ | ⟨g, cap, _, e1, _⟩
    · omega
    · exact ⟨g, cap, e1⟩
  have hfwn : fw s ≤ s.size := (ord s).rank_le (i := 0) (by omega)
  have hks0 : Cc.ks (fw s) 0 = 0 := by unfold Cc.ks; rw [if_neg (by omega)]
  go_wp2
  go_loopw [6, 7, 8] (fun v wh i wr => ∃ p : Nat, p ≤ s.size + 1 ∧ i = .int .i64 p ∧ wh = .int .i64 ((if fw s < p then fw s else 0 : Nat) : Int) ∧ Fr s w (.slice (some ⟨g, 0, none⟩) (s.size + 1) cap) p v wr) (fun _ _ i _ => (s.size + 1) - (intOf i).toNat)
  case atStart =>
    refine ⟨0, by omega, rfl, rfl, ⟨?_, hl, hB1⟩⟩
    unfold tv; rw [hks0]; exact World.ownsRow_nil _ _ _ _
  case round =>
    clear hl hks0
    obtain ⟨p, hp, rfl, rfl, S⟩ := hrel
    have hBs := S.bl.size
    by_cases hlt : p < s.size + 1
    · obtain ⟨i, hin, hip⟩ := (ord s).onto (r := p) (by omega)
      have hrp := placeOf_rank s hin
      rw [hip] at hrp
      have cp : wr.cell? ⟨g, p, none⟩ = some (.int .i64 (placeOf s p : Nat)) := by
        rw [S.list.cellAt p (by omega)]; exact sortedL_get s hlt
      rw [hrp] at cp
      cases i with
      | zero =>
        have hpf : p = fw s := hip.symm
        have S2 : Fr s w (.slice (some ⟨g, 0, none⟩) (s.size + 1) cap) (p + 1) u6 wr := by rw [hpf] at S ⊢; exact S.skip
        have Hwh : Hid ((.int .i64 (p : Int) : Value) = .int .i64 ((if fw s < p + 1 then fw s else 0 : Nat) : Int)) := by show (_ : Value) = _; rw [if_pos (by omega), hpf]
        clear hpf hip hrp
        go_wp2
        exact ⟨⟨p + 1, by omega, by go_num, Hwh.out, S2⟩, by simp [intOf]; omega⟩
      | succ j =>
        have hpf : p ≠ fw s := fun e => by
          have := (ord s).rank_inj (i := j + 1) (j := 0) hin (by omega) (by rw [hip, e]); omega
        have hj : j < s.size := by omega
        have hjb : BY s (placeOf s p - 1) = s[j].toNat := by rw [hrp]; exact BY_lt s hj
        have R := fun v' w1 => S.hit (v' := v') (w1 := w1) hpf (Obj.cells #[Value.int IntKind.u8 s[j].toNat] 5) hBs
        rw [hjb] at R
        have hkl := ks_le (fw s) p
        have Hwh : Hid ((if fw s < p then fw s else 0) = (if fw s < p + 1 then fw s else 0)) := by
          show _ = _
          by_cases e : fw s < p
          · rw [if_pos e, if_pos (by omega)]
          · rw [if_neg e, if_neg (by omega)]
        clear hpf hip hrp hjb
        generalize (if fw s < p then fw s else 0) = q at *
        go_wp2_with (at_builtin; refine wpList_append_own _ rfl _ _ 55 rfl w.heap.size 5 i0 (.int .u8 0) 1 1 Tryz.underlying55 hi hz0 hz1 hz2 rfl (by decide) _ _ _ rfl (S.own.alloc _) ⟨wr.heap.size, 0, none⟩ 1 1 [.int .u8 (s[j].toNat : Int)] rfl rfl ?c1 ?c2 ?c3 ?c4 ?c5 ?_)
        case c1 => exact cell_one_new _ _ _
        case c2 => intro u hu; simp at hu; subst hu; rfl
        case c3 => unfold maxLen; omega
        case c4 => omega
        case c5 => simp; omega
        intro v' w2 hown hgrow _
        have R1 := R v' w2 hown hgrow
        clear R hown hgrow cp
        go_wp2
        exact ⟨⟨p + 1, by omega, by go_num, by rw [Hwh.out], R1⟩, by simp [intOf]; omega⟩
    · have hp' : p = s.size + 1 := by omega
      subst hp'
      have hks : Cc.ks (fw s) (s.size + 1) = s.size := by unfold Cc.ks; rw [if_pos (by omega)]; omega
      have hown := S.own
      unfold tv at hown
      rw [hks] at hown
      have hwf : (if fw s < s.size + 1 then fw s else 0) = fw s := by rw [if_pos (by omega)]
      rw [hwf]
      have hbl := S.bl
      clear S hwf
      rcases hown.2 with ⟨hv, h0⟩ | ⟨g', cap', cur, hv, hgb, hcell, hcap, hmx, hsz, htk⟩
      · subst hv
        have hcv := run_convert_bytes_nil (P := Tryz.prog) (w := wr) 55 5 Tryz.underlying55 Tryz.underlying5 0 0 9 Tryz.underlying9
        have ht : trn s = ByteArray.empty := BY_ext (by rw [trn_size, h0]; rfl) fun k hk => by rw [trn_size] at hk; omega
        have Ht : Hid (trn s = ByteArray.empty) := ht
        clear ht
        go_wp2
        go_ret3
        exact ⟨by rw [Ht.out]; rfl, hbl⟩
      · subst hv
        have hcv := run_convert_bytes_arg (P := Tryz.prog) wr 55 5 Tryz.underlying55 Tryz.underlying5 g' 0 s.size cap' ((List.range s.size).map fun k => ((tb s (placeOf s) k : Nat) : Int)) (by simp) (by
          intro i hi
          rw [Nat.zero_add, hown.cellAt i (by omega)]
          simp [hi]) 9 Tryz.underlying9
        clear hcell htk
        go_wp2
        go_ret3
        exact ⟨rfl, hbl⟩

end Go.Proofs.YtopihgmemnokkaaGreat
