import Derived.Test.YtopihgmemnokkaaGreatMemF
import Derived.Test.YtopihgmemnokkaaGreatShelfF
import Derived.Lib.IndexBytes
import Derived.Deep.QuietTactic
import Derived.BigQuiet
namespace Go.Proofs.YtopihgmemnokkaaGreat
open Go.RowKit Go.Shelf Go.Sort

/-- the comparison of two ends, as a number -/
def cf (s : ByteArray) (x y : Fin (s.size + 1)) : Int := Lib.compareBytes (s.data.toList.drop x.val) (s.data.toList.drop y.val)

theorem cmp_neg : ∀ x y : List UInt8, decide (Lib.compareBytes x y < 0) = Op.bytesLess x y
  | [], [] => rfl
  | [], _ :: _ => rfl
  | _ :: _, [] => rfl
  | a :: x, b :: y => by
    simp only [Lib.compareBytes, Op.bytesLess]
    by_cases h1 : a < b
    · simp [h1]
    · by_cases h2 : b < a
      · have h3 : (a == b) = false := by
          simp; intro e; subst e; exact h1 h2
        simp [h1, h2, h3]
      · have h3 : a = b := by
          rw [UInt8.lt_iff_toNat_lt] at h1 h2
          exact UInt8.toNat_inj.1 (by omega)
        subst h3
        simp only [h1, if_false, decide_false, Bool.false_or, BEq.rfl, Bool.true_and]
        exact cmp_neg x y

theorem ltOf_cf (s : ByteArray) (x y : Fin (s.size + 1)) : ltOf (cf s) x y = before s x.val y.val := by
  unfold ltOf cf before; exact cmp_neg _ _

theorem swo (s : ByteArray) : SWO (ltOf (cf s)) where
  irrefl x := by rw [ltOf_cf]; exact (ord s).irr _
  trans x y z h1 h2 := by rw [ltOf_cf] at *; exact (ord s).trans _ _ _ h1 h2
  ntrans x y z h1 h2 := by
    rw [ltOf_cf] at *
    cases e : before s x.val z.val
    · rfl
    · by_cases h3 : x = y
      · subst h3; rw [e] at h2; cases h2
      · have hx := x.isLt
        have hy := y.isLt
        rcases (ord s).tri x.val y.val (by omega) (by omega) (fun h => h3 (Fin.ext h)) with h | h
        · rw [h] at h1; cases h1
        · rw [(ord s).trans _ _ _ h e] at h2; cases h2

def encF (n : Nat) (x : Fin (n + 1)) : Value := .int .i64 (x.val : Nat)

set_option maxRecDepth 100000 in
set_option maxHeartbeats 400000 in
theorem closure_any (s : ByteArray) (tb : Nat) (x y : Fin (s.size + 1)) (W : World) (hc : W.cell? ⟨tb, 0, none⟩ = some (.string s)) :
    Calls Tryz.prog 129 #[.int .i64 (x.val : Nat), .int .i64 (y.val : Nat), .pointer (some ⟨tb, 0, none⟩)] W fun e w' => e = .returned (.int .i64 (cf s x y)) ∧ ∃ q, w' = W.drewN q := by
  have hx := x.isLt
  have hy := y.isLt
  unfold cf
  generalize x.val = a at *
  generalize y.val = b at *
  have ha : (a : Int) ≤ s.size := by omega
  have hb : (b : Int) ≤ s.size := by omega
  go_enter Tryz.func129, Tryz.ntmps129
  go_wp2_with fail
  go_quiet ((go_at_call 130; exact Calls.quiet_of_same (Any.strings_Compare Tryz.lays106 _ _ _)))
  go_wp2
  go_ret
  exact ⟨ret_int (by rw [Lib.extract_to_end, Lib.extract_to_end]), nq, rfl⟩

theorem keptSort {α : Type} [Inhabited α] (enc : α → Value) (w : World) (blk off n : Nat) (dk : Array α) (os : Array Obj) : Kept (fun k => k = blk) w (sortWorld enc w blk off n dk os) := by
  refine ⟨rfl, rfl, rfl, ?_, ?_⟩
  · unfold sortWorld; simp
  · intro k hk hn
    unfold sortWorld
    rw [heap_grow_old _ os (by simpa using hk)]
    unfold putRow mapBlock
    rw [Array.getElem?_modify, if_neg (fun e => hn e.symm)]
    rfl

theorem cell_kept {P : Nat → Prop} {w w' : World} (h : Kept P w w') {a : Addr} {v : Value} (hc : w.cell? a = some v) (hn : ¬ P a.block) : w'.cell? a = some v :=
  (World.cell?_of_block (h.block a.block (World.block_lt_of_cell? w a hc) hn)).trans hc

theorem cmpReads (s : ByteArray) (tb vb size : Nat) (w : World) (hc : w.cell? ⟨tb, 0, none⟩ = some (.string s)) (hne : tb ≠ vb) :
    CmpReads Tryz.prog 129 #[.pointer (some ⟨tb, 0, none⟩)] (encF s.size) (cf s) vb 0 size w :=
  fun m os dk _ x y => closure_any s tb x y _ (cell_kept (keptSort _ w vb 0 m dk os) hc hne)

/-- places as numbers below n + 1 -/
def fins (s : ByteArray) (l : List Nat) : Array (Fin (s.size + 1)) := (l.map fun i => Fin.ofNat (s.size + 1) i).toArray

set_option maxHeartbeats 400000 in
theorem sort_any (s : ByteArray) (tb vb cap base : Nat) (w : World) (hs : s.size ≤ 1000) (hc : w.cell? ⟨tb, 0, none⟩ = some (.string s)) (hne : tb ≠ vb)
    (hown : w.ownsRow base 3 1 (.slice (some ⟨vb, 0, none⟩) (valsTo s (s.size + 1)).length cap) (valsTo s (s.size + 1)).length (valV s (s.size + 1))) :
    Calls Tryz.prog 128 #[.slice (some ⟨vb, 0, none⟩) (valsTo s (s.size + 1)).length cap, .func (.func 129) #[] #[.pointer (some ⟨tb, 0, none⟩)]] w fun e w' => e = .returned (.tuple #[]) ∧
      ∃ V, Cc.SortedVals s.size (before s) V ∧ V.length = (valsTo s (s.size + 1)).length ∧ Places w' vb V ∧ Kept (fun k => k = vb) w w' := by
  have eg : ∀ args w, (callFunc 129 args).run Tryz.prog w = .ok (.enter 129 args) w := enters_of Tryz.func129 (by kernel_rfl) rfl
  have hlen := valsTo_le s (s.size + 1)
  have hdl : (fins s (valsTo s (s.size + 1))).size = (valsTo s (s.size + 1)).length := by simp [fins]
  have hmem : ∀ i, i ∈ valsTo s (s.size + 1) → i < s.size + 1 := by
    intro i hi; unfold valsTo at hi; rw [List.mem_filter, List.mem_range] at hi; exact hi.1
  have hget : ∀ j, j < (valsTo s (s.size + 1)).length → (fins s (valsTo s (s.size + 1)))[j]!.val = (valsTo s (s.size + 1))[j]! := by
    intro j hj
    have h1 : j < (fins s (valsTo s (s.size + 1))).size := by omega
    rw [getElem!_pos _ j h1, getElem!_pos _ j hj]
    simp only [fins, List.getElem_toArray, List.getElem_map, Fin.val_ofNat]
    exact Nat.mod_eq_of_lt (hmem _ (List.getElem_mem hj))
  have hH : Holds (encF s.size) w vb 0 (fins s (valsTo s (s.size + 1))) := by
    intro j hj
    rw [hdl] at hj
    refine ⟨?_, hown.frozenAt (0 + j)⟩
    rw [Nat.zero_add, hown.cellAt j (by omega)]
    unfold encF
    rw [hget j hj]
    unfold valV
    rw [List.getElem?_map, List.getElem?_eq_getElem hj, getElem!_pos _ j hj]; rfl
  have hblk : vb < w.heap.size := (hown.lt vb rfl).2
  have hcon := Any.slices_SortFunc Tryz.laysSlF6_f128 (encF s.size) (fun _ => rfl) (cf s) (swo s) 129 #[.pointer (some ⟨tb, 0, none⟩)] vb 0 cap (fins s (valsTo s (s.size + 1))) w eg (cmpReads s tb vb _ w hc hne).lays hH hblk (by rw [hdl]; omega)
  change Calls Tryz.prog 128 _ _ _ at hcon
  rw [hdl] at hcon
  refine hcon.mono ?_
  rintro e w' ⟨rfl, d', n, os, hp, hsrt, rfl⟩
  obtain ⟨hsz, _, hpm⟩ := hp
  have hd'l : d'.size = (valsTo s (s.size + 1)).length := by rw [hsz, hdl]
  rw [← hd'l] at hpm
  rw [Array.extract_size] at hpm
  rw [show d'.size = (fins s (valsTo s (s.size + 1))).size from hsz, Array.extract_size] at hpm
  have hmap : (fins s (valsTo s (s.size + 1))).toList.map Fin.val = valsTo s (s.size + 1) := by
    simp only [fins, List.map_map]
    conv => rhs; rw [← List.map_id (valsTo s (s.size + 1))]
    apply List.map_congr_left
    intro i hi
    simp only [Function.comp, Fin.val_ofNat, id]
    exact Nat.mod_eq_of_lt (hmem i hi)
  have hperm : (d'.toList.map Fin.val).Perm (valsTo s (s.size + 1)) := by
    rw [← hmap]; exact hpm.map _
  have hnd : (d'.toList.map Fin.val).Nodup := by
    rw [hperm.nodup_iff]; exact List.Pairwise.filter _ List.nodup_range
  have hVl : (d'.toList.map Fin.val).length = (valsTo s (s.size + 1)).length := by simp [hd'l]
  refine ⟨rfl, d'.toList.map Fin.val, ⟨hperm, ?_⟩, hVl, ?_, keptSort _ _ _ _ _ _ _⟩
  · rw [List.pairwise_iff_getElem]
    intro i j hi hj hij
    have hi' : i < d'.size := by simpa using hi
    have hj' : j < d'.size := by simpa using hj
    have h := hsrt i j (Nat.zero_le _) hij (by omega)
    rw [ltOf_cf, getElem!_pos d' i hi', getElem!_pos d' j hj'] at h
    simp only [List.getElem_map, Array.getElem_toList]
    have hne2 : d'[i].val ≠ d'[j].val := by
      intro e
      have := (List.pairwise_iff_getElem.1 hnd) i j hi hj hij
      apply this
      simp only [List.getElem_map, Array.getElem_toList, e]
    have b1 := d'[i].isLt
    have b2 := d'[j].isLt
    rcases (ord s).tri d'[i].val d'[j].val (by omega) (by omega) hne2 with h2 | h2
    · exact h2
    · rw [h2] at h; cases h
  · have hh := holds_sortWorld (encF s.size) w vb 0 n (fins s (valsTo s (s.size + 1))) d' os hblk hH hsz
    intro j i hj
    have hj' : j < d'.size := by
      rcases List.getElem?_eq_some_iff.1 hj with ⟨h, _⟩; simpa using h
    have := (hh j hj').1
    rw [Nat.zero_add, getElem!_pos d' j hj'] at this
    rw [this]
    have e : d'[j].val = i := by
      rw [List.getElem?_map] at hj
      simpa [hj'] using hj
    unfold encF; rw [e]


theorem make_rows (n : Nat) (hn : n ≤ 1001) (w : World) : (Instr.makeSlice 30 (.int .i64 (n : Int)) (.int .i64 (n : Int))).run Tryz.prog w
    = .ok (.slice (some ⟨w.heap.size, 0, none⟩) n n) (w.alloc (.cells (rowC n fun _ => 0) 3)) := by
  obtain ⟨i, hi, hz0, hz1, hz2⟩ := info_parts Tryz.info3
  have h := run_make (P := Tryz.prog) w 30 3 i _ Tryz.underlying30 hi hz0 .i64 .i64 n n (by omega) (by omega) (by rw [hz2]; omega) (by omega)
  rw [hz1] at h
  simp only [Int.toNat_natCast, Nat.mul_one] at h
  have hc : (Value.int .i64 0).cells = #[.int .i64 0] := rfl
  rw [hc, rowC_made] at h
  exact h

end Go.Proofs.YtopihgmemnokkaaGreat

