import Derived.Test.YtopihgmemnokkaaGreatOrderC
import Derived.Test.YtopihgmemnokkaaGreatBuildC
import Derived.WalkKit
import Derived.WalkSpells
import Derived.WalkLawsBesides
namespace Go.Proofs.YtopihgmemnokkaaGreat
open Go.RowKit

theorem size_rowC (m : Nat) (f : Nat → Nat) : (rowC m f).size = m := by simp [rowC]

theorem rowC_get {m : Nat} {f : Nat → Nat} {i : Nat} (h : i < m) : (rowC m f)[i]? = some (.int .i64 (f i : Nat)) := by
  simp [rowC, h]

theorem rowC_congr {m : Nat} {f g : Nat → Nat} (h : ∀ i, i < m → f i = g i) : rowC m f = rowC m g := by
  unfold rowC
  apply Array.map_congr_left
  intro a ha
  rw [h a (by simpa using ha)]

theorem rowC_set {m : Nat} {f : Nat → Nat} {i v : Nat} : (rowC m f).setIfInBounds i (.int .i64 (v : Nat)) = rowC m (Cc.put f i v) := by
  apply Array.ext_getElem?
  intro j
  rw [Array.getElem?_setIfInBounds, size_rowC]
  by_cases hj : j < m
  · rw [rowC_get hj]
    by_cases e : i = j
    · subst e; simp [hj, rowC_get hj, Cc.put]
    · have e' : ¬ j = i := fun x => e x.symm
      rw [if_neg e, rowC_get hj]; simp [Cc.put, e']
  · have h1 : (rowC m f)[j]? = none := by simp [size_rowC]; omega
    have h2 : (rowC m (Cc.put f i v))[j]? = none := by simp [size_rowC]; omega
    rw [h1, h2]
    by_cases e : i = j
    · subst e; simp [hj]
    · rw [if_neg e]

theorem rowC_made (m : Nat) : madeCells #[.int .i64 0] m = rowC m fun _ => 0 := by
  unfold madeCells rowC
  apply Array.map_congr_left
  intro a _
  have : a % (#[Value.int .i64 0] : Array Value).size = 0 := by simp [Nat.mod_one]
  rw [this]; rfl

/-- block b holds m numbers -/
def Row (w : World) (b : Nat) (e : TypeId) (m : Nat) (f : Nat → Nat) : Prop := w.heap[b]? = some (.cells (rowC m f) e (0, 0))

theorem Row.cell {w : World} {b : Nat} {e : TypeId} {m : Nat} {f : Nat → Nat} (h : Row w b e m f) {i : Nat} (hi : i < m) : w.cell? ⟨b, i, none⟩ = some (.int .i64 (f i : Nat)) := by
  unfold Row at h
  simp [World.cell?, h, rowC_get hi]

theorem Row.frozen {w : World} {b : Nat} {e : TypeId} {m : Nat} {f : Nat → Nat} (h : Row w b e m f) (i : Nat) : w.frozen? ⟨b, i, none⟩ = false := by
  unfold Row at h
  simp [World.frozen?, h]

theorem Row.lt {w : World} {b : Nat} {e : TypeId} {m : Nat} {f : Nat → Nat} (h : Row w b e m f) : b < w.heap.size := by
  unfold Row at h
  exact (Array.getElem?_eq_some_iff.1 h).1

theorem Row.congr {w : World} {b : Nat} {e : TypeId} {m : Nat} {f g : Nat → Nat} (h : Row w b e m f) (hg : ∀ i, i < m → f i = g i) : Row w b e m g := by
  unfold Row at *; rw [h, rowC_congr hg]

theorem Row.set {w : World} {b : Nat} {e : TypeId} {m : Nat} {f : Nat → Nat} (h : Row w b e m f) (i v : Nat) : Row (w.setCell ⟨b, i, none⟩ (.int .i64 (v : Nat))) b e m (Cc.put f i v) := by
  unfold Row at *
  have hb := (Array.getElem?_eq_some_iff.1 h).1
  have hb2 := (Array.getElem?_eq_some_iff.1 h).2
  simp [World.setCell, Array.getElem?_modify, h, rowC_set]

theorem Row.other {w : World} {b : Nat} {e : TypeId} {m : Nat} {f : Nat → Nat} (h : Row w b e m f) {a : Addr} (ha : a.block ≠ b) (v : Value) : Row (w.setCell a v) b e m f := by
  unfold Row at *
  rw [Below.heap_setCell w a v b (fun e => ha e.symm)]; exact h

theorem Row.alloc {w : World} {b : Nat} {e : TypeId} {m : Nat} {f : Nat → Nat} (h : Row w b e m f) (o : Obj) : Row (w.alloc o) b e m f := by
  have := h.lt
  unfold Row at *
  rw [Below.heap_alloc w o b this]; exact h

theorem Row.drew {w : World} {b : Nat} {e : TypeId} {m : Nat} {f : Nat → Nat} (h : Row w b e m f) : Row w.drew b e m f := h

theorem Row.new (w : World) (e : TypeId) (m : Nat) (f : Nat → Nat) : Row (w.alloc (.cells (rowC m f) e)) w.heap.size e m f := by
  unfold Row; exact heap_alloc_new w _

theorem Row.new' {w : World} {b : Nat} (e : TypeId) (m : Nat) (f : Nat → Nat) (hb : w.heap.size = b) : Row (w.alloc (.cells (rowC m f) e)) b e m f := by
  subst hb; exact Row.new w e m f

theorem Row.below {w w' : World} {b B : Nat} {e : TypeId} {m : Nat} {f : Nat → Nat} (h : Row w b e m f) (hb : Below B w w') (hlt : b < B) : Row w' b e m f := by
  unfold Row at *; rw [hb.block b hlt]; exact h

/-- nothing but blocks of P has turned -/
structure Kept (P : Nat → Prop) (w w' : World) : Prop where
  os : w'.os = w.os
  tape : w'.tape = w.tape
  output : w'.output = w.output
  size : w.heap.size ≤ w'.heap.size
  block : ∀ k, k < w.heap.size → ¬ P k → w'.heap[k]? = w.heap[k]?

theorem Kept.refl (P : Nat → Prop) (w : World) : Kept P w w := ⟨rfl, rfl, rfl, Nat.le_refl _, fun _ _ _ => rfl⟩
theorem Kept.drew {P : Nat → Prop} {a w : World} (h : Kept P a w) : Kept P a w.drew := ⟨h.os, h.tape, h.output, h.size, h.block⟩
theorem Kept.setCell {P : Nat → Prop} {a w : World} (h : Kept P a w) {p : Addr} (hp : P p.block) (u : Value) : Kept P a (w.setCell p u) :=
  ⟨h.os, h.tape, h.output, by simp; exact h.size, fun k hk hn => by
    rw [Below.heap_setCell w p u k (fun e => hn (e ▸ hp))]; exact h.block k hk hn⟩
theorem Kept.trans {P : Nat → Prop} {a b c : World} (h : Kept P a b) (k : Kept P b c) : Kept P a c :=
  ⟨k.os.trans h.os, k.tape.trans h.tape, k.output.trans h.output, Nat.le_trans h.size k.size, fun i hi hn => (k.block i (Nat.lt_of_lt_of_le hi h.size) hn).trans (h.block i hi hn)⟩
theorem Kept.row {P : Nat → Prop} {w w' : World} (h : Kept P w w') {b : Nat} {e : TypeId} {m : Nat} {f : Nat → Nat} (hr : Row w b e m f) (hn : ¬ P b) : Row w' b e m f := by
  have := hr.lt
  unfold Row at *; rw [h.block b this hn]; exact hr
theorem Kept.below {P : Nat → Prop} {w w' : World} {B : Nat} (h : Kept P w w') (hP : ∀ k, P k → B ≤ k) (hB : B ≤ w.heap.size) : Below B w w' :=
  ⟨h.os, h.tape, h.output, h.size, fun k hk => h.block k (by omega) (fun p => by have := hP k p; omega)⟩


theorem rowC_one (m : Nat) (f : Nat → Nat) : (rowC m f).all (·.oneCell') = true := by
  rw [Array.all_eq_true_iff_forall_mem]
  intro x hx
  unfold rowC at hx
  simp at hx
  obtain ⟨a, _, rfl⟩ := hx
  rfl

/-- a variable of many cells is made -/
theorem wpList_alloc_row {P : Program} {ops : Array Oper} {rest : List Oper} {o : Oper} {a : Act} {w : World} {Q : Exit → Act → World → Prop} (hgd : o.guard = none) (t : TypeId) (ho : o.op = .alloc t)
    (cs : Array Value) (hz : (P.info? t).map (·.zero) = some (some (.agg cs)))
    (h : wpList P ops Q rest (a.put o.dst (.pointer (some ⟨w.heap.size, 0, none⟩))) (w.alloc (.cells cs t))) : wpList P ops Q (o :: rest) a w := by
  refine wpList_plain hgd fun K hK => ?_
  unfold Oper.wp execOp
  simp only [ho, Sem.run_bind, Sem.run_pure, Result.andThen_ok, run_alloc_row w t cs hz]
  exact hK _ _ h

theorem Row.setRow {w : World} {b : Nat} {e : TypeId} {m : Nat} {f : Nat → Nat} (h : Row w b e m f) (g : Nat → Nat) : Row (w.setRow b (rowC m g)) b e m g := by
  unfold Row at *; exact setRow_heap w b _ _ e _ h
theorem Row.setRow_other {w : World} {b c : Nat} {e : TypeId} {m : Nat} {f : Nat → Nat} (h : Row w b e m f) (hc : b ≠ c) (cs : Array Value) : Row (w.setRow c cs) b e m f := by
  unfold Row at *; rw [Go.setRow_other w c b cs hc]; exact h
theorem below_setRow {B : Nat} {a w : World} (h : Below B a w) {b : Nat} (hb : B ≤ b) (cs : Array Value) : Below B a (w.setRow b cs) :=
  ⟨h.os, h.tape, h.output, by simp; exact h.size, fun k hk => by rw [Go.setRow_other w b k cs (by omega)]; exact h.block k hk⟩

/-- a result that lies in memory, and one that doesn't -/
theorem results_row_tmp {P : Program} {fn : Func} {p u : Tmp} {ty : TypeId} (h : fn.results = #[.cell p ty, .tmp u]) (tmps : Array Value) (w : World) (g : Nat) (t : TypeId) (cs : Array Value) (fr : Nat × Nat) (d : TypeDesc)
    (hp : tmps.getD p undef = .pointer (some ⟨g, 0, none⟩)) (hg : w.heap[g]? = some (.cells cs t fr))
    (hu : P.underlying ty = some d) (hd : (match d with | .struct _ | .array _ _ => true | _ => false) = true) (hi : (P.info? ty).map (·.size) = some cs.size) :
    (results fn tmps).run P w = .ok (.tuple #[.agg cs, tmps.getD u undef]) w := by
  rw [results_cell_tmp h, hp]
  simp [asAddr, Result.andThen, run_loadVar_row w g t ty cs fr d hg hu hd hi]

end Go.Proofs.YtopihgmemnokkaaGreat

namespace Go.Proofs.YtopihgmemnokkaaGreat
open Go.RowKit

theorem ret_int {k : IntKind} {a b : Int} (h : a = b) : Ending.returned (.int k a) = .returned (.int k b) := by rw [h]

set_option maxHeartbeats 400000 in
theorem letter_any (s : ByteArray) (i : Nat) (w : World) (h1 : i ≤ s.size) :
    Calls Tryz.prog 159 #[.string s, .int .i64 i] w fun e w' => e = .returned (.int .i64 (LT s i : Nat)) ∧ w' = w := by
  by_cases h : i = s.size
  · subst h
    have hb : ((s.size : Int) == (s.size : Int)) = true := by simp
    go_enter Tryz.func159, Tryz.ntmps159
    go_wp2
    go_ret
    exact ⟨ret_int (by unfold LT; simp), rfl⟩
  · have hb : ((i : Int) == (s.size : Int)) = false := by simp; omega
    have hlt : i < s.size := by omega
    go_enter Tryz.func159, Tryz.ntmps159
    go_wp2
    go_ret
    exact ⟨ret_int (by rw [LT_lt s hlt]; simp only [wrap64]; have := UInt8.toNat_lt s[i]; omega), rfl⟩


theorem Tryz.info233 : (Tryz.prog.info? 233).map (fun i => (i.zero, i.size, i.bytes)) = some (some (.int .i64 0), 1, 8) := by kernel_rfl
theorem Tryz.info3 : (Tryz.prog.info? 3).map (fun i => (i.zero, i.size, i.bytes)) = some (some (.int .i64 0), 1, 8) := by kernel_rfl

set_option maxHeartbeats 400000 in
theorem cmp_any (a b : Int) (w : World) :
    Calls Tryz.prog 158 #[.int .i64 a, .int .i64 b] w fun e w' => e = .returned (.int .i64 (if a < b then -1 else if a = b then 0 else 1)) ∧ w' = w := by
  have hn1 : (a != a) = false := by simp
  have hn2 : (b != b) = false := by simp
  by_cases h : a < b
  · go_enter Tryz.func158, Tryz.ntmps158
    go_wp2
    go_ret
    exact ⟨rfl, rfl⟩
  · by_cases h2 : a = b
    · subst h2
      go_enter Tryz.func158, Tryz.ntmps158
      go_wp2
      go_ret
      exact ⟨rfl, rfl⟩
    · have h3 : b < a := by omega
      go_enter Tryz.func158, Tryz.ntmps158
      go_wp2
      go_ret
      exact ⟨rfl, rfl⟩


theorem cmp_lt (a b : Int) (w : World) (h : a < b) :
    Calls Tryz.prog 158 #[.int .i64 a, .int .i64 b] w fun e w' => e = .returned (.int .i64 (-1)) ∧ w' = w :=
  (cmp_any a b w).mono fun e w' ⟨he, hw⟩ => ⟨by rw [he, if_pos h], hw⟩
theorem cmp_eq (a b : Int) (w : World) (h : a = b) :
    Calls Tryz.prog 158 #[.int .i64 a, .int .i64 b] w fun e w' => e = .returned (.int .i64 0) ∧ w' = w :=
  (cmp_any a b w).mono fun e w' ⟨he, hw⟩ => ⟨by rw [he, if_neg (by omega), if_pos h], hw⟩
theorem cmp_gt (a b : Int) (w : World) (h : b < a) :
    Calls Tryz.prog 158 #[.int .i64 a, .int .i64 b] w fun e w' => e = .returned (.int .i64 1) ∧ w' = w :=
  (cmp_any a b w).mono fun e w' ⟨he, hw⟩ => ⟨by rw [he, if_neg (by omega), if_neg (by omega)], hw⟩

theorem make_kinds (n : Nat) (hn : n ≤ 1001) (w : World) : (Instr.makeSlice 195 (.int .i64 (n : Int)) (.int .i64 (n : Int))).run Tryz.prog w
    = .ok (.slice (some ⟨w.heap.size, 0, none⟩) n n) (w.alloc (.cells (rowC n fun _ => 0) 233)) := by
  obtain ⟨i, hi, hz0, hz1, hz2⟩ := info_parts Tryz.info233
  have h := run_make (P := Tryz.prog) w 195 233 i _ Tryz.underlying195 hi hz0 .i64 .i64 n n (by omega) (by omega) (by rw [hz2]; omega) (by omega)
  rw [hz1] at h
  simp only [Int.toNat_natCast, Nat.mul_one] at h
  have hc : (Value.int .i64 0).cells = #[.int .i64 0] := rfl
  rw [hc, rowC_made] at h
  exact h

set_option maxHeartbeats 1000000 in
theorem kinds_any (s : ByteArray) (w : World) (hs : s.size ≤ 1000) :
    Calls Tryz.prog 126 #[.string s] w fun e w' => e = .returned (.slice (some ⟨w.heap.size, 0, none⟩) (s.size + 1) (s.size + 1)) ∧ Row w' w.heap.size 233 (s.size + 1) (kindN s) ∧ Below w.heap.size w w' := by
  have hmk := fun w => make_kinds (s.size + 1) (by omega) w
  have ec : ((s.size + 1 : Nat) : Int) = (s.size : Int) + 1 := by omega
  simp only [ec] at hmk
  clear ec
  have hg : (rowC (s.size + 1) fun _ => 0)[s.size]? = some (.int .i64 0) := rowC_get (by omega)
  have hrow : Row (w.alloc (Obj.cells ((rowC (s.size + 1) fun _ => 0).setIfInBounds s.size (Value.int IntKind.i64 2)) 233)) w.heap.size 233 (s.size + 1) (kindAt s s.size) := by
    have h : (rowC (s.size + 1) fun _ => 0).setIfInBounds s.size (Value.int IntKind.i64 2) = rowC (s.size + 1) (Cc.put (fun _ => 0) s.size 2) := rowC_set (v := 2)
    rw [h]
    exact (Row.new w _ _ _).congr fun i hi => kindAt_top s hi
  go_enter Tryz.func126, Tryz.ntmps126
  go_wp2
  go_loopw [4] (fun i wr => ∃ k : Nat, k ≤ s.size ∧ i = .int .i64 ((k : Int) - 1) ∧ Row wr w.heap.size 233 (s.size + 1) (kindAt s k) ∧ Below w.heap.size w wr) (fun i _ => (intOf i + 1).toNat)
  case atStart => exact ⟨s.size, Nat.le_refl _, rfl, hrow, (Below.refl _ _).alloc (Nat.le_refl _) _⟩
  case round =>
    obtain ⟨k, hk, rfl, hR, hB⟩ := hrel
    clear hrow hmk hg
    cases k with
    | zero =>
      go_wp2
      go_ret
      exact ⟨rfl, hR.congr fun i _ => kindAt_zero s, hB⟩
    | succ k =>
      have hk' : k < s.size := by omega
      have c0 : wr.cell? ⟨w.heap.size, k, none⟩ = some (.int .i64 (kindAt s (k + 1) k : Nat)) := hR.cell (by omega)
      have c1 : wr.cell? ⟨w.heap.size, k + 1, none⟩ = some (.int .i64 (kindAt s (k + 1) (k + 1) : Nat)) := hR.cell (by omega)
      have f0 : wr.frozen? ⟨w.heap.size, k, none⟩ = false := hR.frozen _
      have f1 : wr.frozen? ⟨w.heap.size, k + 1, none⟩ = false := hR.frozen _
      generalize hx : kindAt s (k + 1) k = x at c0
      generalize hy : kindAt s (k + 1) (k + 1) = y at c1
      have Hy : Hid (kindAt s (k + 1) (k + 1) = y) := hy
      clear hx hy
      rcases Nat.lt_trichotomy (LT s k) (LT s (k + 1)) with hl | hl | hl
      · have hf := fall_of_lt s hk' hl
        have hg : Row (wr.setCell ⟨w.heap.size, k, none⟩ (.int .i64 1)) w.heap.size 233 (s.size + 1) (kindAt s k) :=
          (hR.set k 1).congr fun j hj => kindAt_plain s hk' (by rw [hf]; rfl) (by omega) hj
        clear hR
        go_wp2_with fail
        rw [show ((k + 1 : Nat) : Int) - 1 = (k : Int) from by omega]
        refine (letter_any s k _ (by omega)).mono ?_
        rintro e w' ⟨rfl, rfl⟩
        go_wp2_with fail
        rw [show (k : Int) + 1 = ((k + 1 : Nat) : Int) from rfl]
        refine (letter_any s (k + 1) _ (by omega)).mono ?_
        rintro e w' ⟨rfl, rfl⟩
        go_wp2_with fail
        refine (cmp_lt _ _ _ (by omega)).mono ?_
        rintro e w' ⟨rfl, rfl⟩
        go_wp2
        exact ⟨⟨k, by omega, rfl, hg, hB.setCell (Nat.le_refl _) _⟩, by simp [intOf]⟩
      · obtain ⟨hk2, hf⟩ := fall_of_eq s hk' hl
        have hn := kindAt_next s hk2
        rw [Hy.out, ← hf] at hn
        cases hfk : Cc.fall s.size (before s) k
        · rw [hfk] at hn
          have hn' : y = 1 := hn
          clear hn
          have hg : Row (wr.setCell ⟨w.heap.size, k, none⟩ (.int .i64 1)) w.heap.size 233 (s.size + 1) (kindAt s k) :=
            (hR.set k 1).congr fun j hj => kindAt_plain s hk' (by rw [hfk]; rfl) (by omega) hj
          subst hn'
          clear hR hf hfk
          go_wp2_with fail
          rw [show ((k + 1 : Nat) : Int) - 1 = (k : Int) from by omega]
          refine (letter_any s k _ (by omega)).mono ?_
          rintro e w' ⟨rfl, rfl⟩
          go_wp2_with fail
          rw [show (k : Int) + 1 = ((k + 1 : Nat) : Int) from rfl]
          refine (letter_any s (k + 1) _ (by omega)).mono ?_
          rintro e w' ⟨rfl, rfl⟩
          go_wp2_with fail
          refine (cmp_eq _ _ _ (by omega)).mono ?_
          rintro e w' ⟨rfl, rfl⟩
          go_wp2
          exact ⟨⟨k, by omega, rfl, hg, hB.setCell (Nat.le_refl _) _⟩, by simp [intOf]⟩
        · rw [hfk] at hn
          have hn' : y = 0 := hn
          clear hn
          have hg : Row (wr.setCell ⟨w.heap.size, k, none⟩ (.int .i64 0)) w.heap.size 233 (s.size + 1) (kindAt s k) :=
            (hR.set k 0).congr fun j hj => kindAt_plain s hk' (by rw [hfk]; rfl) (by rw [Hy.out]; omega) hj
          subst hn'
          clear hR hf hfk
          go_wp2_with fail
          rw [show ((k + 1 : Nat) : Int) - 1 = (k : Int) from by omega]
          refine (letter_any s k _ (by omega)).mono ?_
          rintro e w' ⟨rfl, rfl⟩
          go_wp2_with fail
          rw [show (k : Int) + 1 = ((k + 1 : Nat) : Int) from rfl]
          refine (letter_any s (k + 1) _ (by omega)).mono ?_
          rintro e w' ⟨rfl, rfl⟩
          go_wp2_with fail
          refine (cmp_eq _ _ _ (by omega)).mono ?_
          rintro e w' ⟨rfl, rfl⟩
          go_wp2
          exact ⟨⟨k, by omega, rfl, hg, hB.setCell (Nat.le_refl _) _⟩, by simp [intOf]⟩
      · have hf := fall_of_gt s hk' hl
        by_cases hy1 : y = 1
        · subst hy1
          have hg : Row ((wr.setCell ⟨w.heap.size, k, none⟩ (.int .i64 0)).setCell ⟨w.heap.size, k + 1, none⟩ (.int .i64 2)) w.heap.size 233 (s.size + 1) (kindAt s k) :=
            ((hR.set k 0).set (k + 1) 2).congr fun j hj => kindAt_valley s hk' hf Hy.out hj
          clear hR hf
          go_wp2_with fail
          rw [show ((k + 1 : Nat) : Int) - 1 = (k : Int) from by omega]
          refine (letter_any s k _ (by omega)).mono ?_
          rintro e w' ⟨rfl, rfl⟩
          go_wp2_with fail
          rw [show (k : Int) + 1 = ((k + 1 : Nat) : Int) from rfl]
          refine (letter_any s (k + 1) _ (by omega)).mono ?_
          rintro e w' ⟨rfl, rfl⟩
          go_wp2_with fail
          refine (cmp_gt _ _ _ (by omega)).mono ?_
          rintro e w' ⟨rfl, rfl⟩
          go_wp2
          exact ⟨⟨k, by omega, rfl, hg, (hB.setCell (Nat.le_refl _) _).setCell (Nat.le_refl _) _⟩, by simp [intOf]⟩
        · have hg : Row (wr.setCell ⟨w.heap.size, k, none⟩ (.int .i64 0)) w.heap.size 233 (s.size + 1) (kindAt s k) :=
            (hR.set k 0).congr fun j hj => kindAt_plain s hk' (by rw [hf]; rfl) (by rw [Hy.out]; omega) hj
          have hyb : ((y : Int) == 1) = false := by simp; omega
          clear hR hf hy1
          go_wp2_with fail
          rw [show ((k + 1 : Nat) : Int) - 1 = (k : Int) from by omega]
          refine (letter_any s k _ (by omega)).mono ?_
          rintro e w' ⟨rfl, rfl⟩
          go_wp2_with fail
          rw [show (k : Int) + 1 = ((k + 1 : Nat) : Int) from rfl]
          refine (letter_any s (k + 1) _ (by omega)).mono ?_
          rintro e w' ⟨rfl, rfl⟩
          go_wp2_with fail
          refine (cmp_gt _ _ _ (by omega)).mono ?_
          rintro e w' ⟨rfl, rfl⟩
          go_wp2
          exact ⟨⟨k, by omega, rfl, hg, hB.setCell (Nat.le_refl _) _⟩, by simp [intOf]⟩

end Go.Proofs.YtopihgmemnokkaaGreat

