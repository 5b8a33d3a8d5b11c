import Derived.Test.YtopihgmemnokkaaGreatWalk2
namespace Go.Proofs.YtopihgmemnokkaaGreat
open Go.RowKit

abbrev fallS (s : ByteArray) (i : Nat) : Bool := Cc.fall s.size (before s) i
abbrev valS (s : ByteArray) (i : Nat) : Bool := Cc.val s.size (before s) i
def cntAll (s : ByteArray) (p c : Nat) : Nat := Cc.cn p fun j => decide (LT s j = c)
def cntRise (s : ByteArray) (p c : Nat) : Nat := Cc.cn p fun j => decide (LT s j = c) && !Cc.fall s.size (before s) j
def valsTo (s : ByteArray) (p : Nat) : List Nat := (List.range p).filter (Cc.val s.size (before s))
def valV (s : ByteArray) (p : Nat) : List Value := (valsTo s p).map fun i => Value.int .i64 (i : Nat)

theorem cntAll_succ (s : ByteArray) (p c : Nat) : Cc.put (cntAll s p) (LT s p) (cntAll s p (LT s p) + 1) c = cntAll s (p + 1) c := by
  by_cases h : c = LT s p
  · subst h; rw [Cc.put_same]; simp [cntAll, Cc.cn]
  · rw [Cc.put_other _ _ h]
    have h' : ¬ LT s p = c := fun e => h e.symm
    simp [cntAll, Cc.cn, h']
theorem cntRise_succ (s : ByteArray) (p c : Nat) (hf : Cc.fall s.size (before s) p = false) : Cc.put (cntRise s p) (LT s p) (cntRise s p (LT s p) + 1) c = cntRise s (p + 1) c := by
  by_cases h : c = LT s p
  · subst h; rw [Cc.put_same]; simp [cntRise, Cc.cn, hf]
  · rw [Cc.put_other _ _ h]
    have h' : ¬ LT s p = c := fun e => h e.symm
    simp [cntRise, Cc.cn, h']
theorem cntRise_same (s : ByteArray) (p c : Nat) (hf : Cc.fall s.size (before s) p = true) : cntRise s p c = cntRise s (p + 1) c := by
  simp [cntRise, Cc.cn, hf]
theorem valsTo_hit (s : ByteArray) (p : Nat) (h : Cc.val s.size (before s) p = true) : valsTo s (p + 1) = valsTo s p ++ [p] := by
  simp [valsTo, List.range_succ, List.filter_append, h]
theorem valsTo_miss (s : ByteArray) (p : Nat) (h : Cc.val s.size (before s) p = false) : valsTo s (p + 1) = valsTo s p := by
  simp [valsTo, List.range_succ, List.filter_append, h]
theorem valsTo_le (s : ByteArray) (p : Nat) : (valsTo s p).length ≤ p := by
  have := List.length_filter_le (Cc.val s.size (before s)) (List.range p)
  simpa [valsTo] using this
theorem cntAll_le (s : ByteArray) (p c : Nat) : cntAll s p c ≤ p := Cc.cn_le _ _
theorem cntRise_le (s : ByteArray) (p c : Nat) : cntRise s p c ≤ p := Cc.cn_le _ _

theorem kind_0 (s : ByteArray) (p : Nat) (h : Cc.fall s.size (before s) p = true) : kindN s p = 0 ∧ Cc.val s.size (before s) p = false := by
  refine ⟨by simp [kindN, h], ?_⟩
  cases e : Cc.val s.size (before s) p
  · rfl
  · rw [Cc.val_not_fall e] at h; cases h
theorem kind_2 (s : ByteArray) (p : Nat) (h : Cc.val s.size (before s) p = true) : kindN s p = 2 := by
  simp [kindN, h, Cc.val_not_fall h]
theorem kind_1 (s : ByteArray) (p : Nat) (h : Cc.fall s.size (before s) p = false) (h2 : Cc.val s.size (before s) p = false) : kindN s p = 1 := by
  simp [kindN, h, h2]

theorem Row.grown {w w' : World} {row : Option Nat} {b : Nat} {e : TypeId} {m : Nat} {f : Nat → Nat} (h : Row w b e m f) (hg : w.grownBy w' row) (hn : some b ≠ row) : Row w' b e m f := by
  have hl := h.lt
  unfold Row at *
  rw [hg.block b hl hn]; exact h

theorem ownsRow_setRow_below {w : World} {base : Nat} {e : TypeId} {size : Nat} {v : Value} {n : Nat} {xs : List Value} (h : w.ownsRow base e size v n xs) {g : Nat} (hg : g < base) (cs : Array Value) : (w.setRow g cs).ownsRow base e size v n xs := by
  obtain ⟨h1, h2⟩ := h
  refine ⟨h1, ?_⟩
  rcases h2 with h2 | ⟨g', cap, cur, e1, e2, e3, e4⟩
  · exact .inl h2
  · exact .inr ⟨g', cap, cur, e1, e2, by rw [setRow_other w g g' cs (by omega)]; exact e3, e4⟩

/-- what survey has found behind p places -/
structure Surv (s : ByteArray) (w : World) (p : Nat) (v : Value) (wr : World) : Prop where
  own : wr.ownsRow (w.heap.size + 3) 3 1 v (valsTo s p).length (valV s p)
  r0 : Row wr w.heap.size 199 771 (fun _ => 0)
  r1 : Row wr (w.heap.size + 1) 234 257 (cntAll s p)
  r2 : Row wr (w.heap.size + 2) 234 257 (cntRise s p)
  bl : Below w.heap.size w wr

theorem Surv.fall {s : ByteArray} {w : World} {p : Nat} {v : Value} {wr : World} (S : Surv s w p v wr) (hf : Cc.fall s.size (before s) p = true) :
    Surv s w (p + 1) v (wr.setCell ⟨w.heap.size + 1, LT s p, none⟩ (.int .i64 ((cntAll s p (LT s p) : Int) + 1))) := by
  have hv := (kind_0 s p hf).2
  have e := valsTo_miss s p hv
  refine ⟨?_, S.r0.other (by simp) _, (S.r1.set (LT s p) (cntAll s p (LT s p) + 1)).congr fun c _ => cntAll_succ s p c, (S.r2.other (by simp) _).congr fun c _ => cntRise_same s p c hf, S.bl.setCell (by simp) _⟩
  unfold valV; rw [e]
  exact ownsRow_setCell_below S.own (by simp) _

theorem Surv.rise {s : ByteArray} {w : World} {p : Nat} {v : Value} {wr : World} (S : Surv s w p v wr) (hf : Cc.fall s.size (before s) p = false) (hv : Cc.val s.size (before s) p = false) :
    Surv s w (p + 1) v ((wr.setCell ⟨w.heap.size + 2, LT s p, none⟩ (.int .i64 ((cntRise s p (LT s p) : Int) + 1))).setCell ⟨w.heap.size + 1, LT s p, none⟩ (.int .i64 ((cntAll s p (LT s p) : Int) + 1))) := by
  have e := valsTo_miss s p hv
  refine ⟨?_, (S.r0.other (by simp) _).other (by simp) _, ((S.r1.other (by simp) _).set (LT s p) (cntAll s p (LT s p) + 1)).congr fun c _ => cntAll_succ s p c,
    ((S.r2.set (LT s p) (cntRise s p (LT s p) + 1)).other (by simp) _).congr fun c _ => cntRise_succ s p c hf, (S.bl.setCell (by simp) _).setCell (by simp) _⟩
  unfold valV; rw [e]
  exact ownsRow_setCell_below (ownsRow_setCell_below S.own (by simp) _) (by simp) _

theorem Surv.val {s : ByteArray} {w : World} {p : Nat} {v v' : Value} {wr w1 : World} (S : Surv s w p v wr) (hf : Cc.fall s.size (before s) p = false) (hv : Cc.val s.size (before s) p = true) (o : Obj)
    (hown : w1.ownsRow (w.heap.size + 3) 3 1 v' ((valsTo s p).length + 1) (valV s p ++ [.int .i64 (p : Nat)])) (hg : (wr.alloc o).grownBy w1 v.ownBlock) :
    Surv s w (p + 1) v' ((w1.setCell ⟨w.heap.size + 2, LT s p, none⟩ (.int .i64 ((cntRise s p (LT s p) : Int) + 1))).setCell ⟨w.heap.size + 1, LT s p, none⟩ (.int .i64 ((cntAll s p (LT s p) : Int) + 1))) ∧
    Row w1 (w.heap.size + 1) 234 257 (cntAll s p) ∧ Row w1 (w.heap.size + 2) 234 257 (cntRise s p) := by
  have e := valsTo_hit s p hv
  have hb : ∀ k, k < w.heap.size + 3 → some k ≠ v.ownBlock := fun k hk h => by
    have := (S.own.lt k h.symm).1; omega
  have hsz := S.bl.size
  have q0 := (S.r0.alloc o).grown hg (hb _ (by omega))
  have q1 := (S.r1.alloc o).grown hg (hb _ (by omega))
  have q2 := (S.r2.alloc o).grown hg (hb _ (by omega))
  have qb : Below w.heap.size w w1 := (S.bl.alloc hsz o).grown hg (by simp; omega) (fun k h => by have := (S.own.lt k h).1; omega)
  refine ⟨⟨?_, (q0.other (by simp) _).other (by simp) _, ((q1.other (by simp) _).set (LT s p) (cntAll s p (LT s p) + 1)).congr fun c _ => cntAll_succ s p c,
    ((q2.set (LT s p) (cntRise s p (LT s p) + 1)).other (by simp) _).congr fun c _ => cntRise_succ s p c hf, (qb.setCell (by simp) _).setCell (by simp) _⟩, q1, q2⟩
  unfold valV at *; rw [e]
  simp only [List.length_append, List.length_singleton, List.map_append, List.map_cons, List.map_nil]
  exact ownsRow_setCell_below (ownsRow_setCell_below hown (by simp) _) (by simp) _

set_option maxRecDepth 100000 in
set_option maxHeartbeats 1000000 in
theorem survey_any (s : ByteArray) (kb : Nat) (w : World) (hs : s.size ≤ 1000) (hK : Row w kb 233 (s.size + 1) (kindN s)) :
    Calls Tryz.prog 127 #[.string s, .slice (some ⟨kb, 0, none⟩) (s.size + 1) (s.size + 1)] w fun e w' =>
      ∃ v, e = .returned (.tuple #[.agg (rowC 771 (sh3 (Cc.frontOf s.size (LT s)) (Cc.midOf s.size (LT s) (before s)) (Cc.backOf s.size (LT s)))), v]) ∧
        w'.ownsRow (w.heap.size + 3) 3 1 v (valsTo s (s.size + 1)).length (valV s (s.size + 1)) ∧ Below w.heap.size w w' := by
  obtain ⟨i0, hi, hz0, hz1, hz2⟩ := info_parts Tryz.info3
  have hkb := hK.lt
  go_enter Tryz.func127, Tryz.ntmps127
  go_wp2_with (first
    | (refine wpList_alloc_row rfl 199 rfl _ zero771 ?_)
    | (refine wpList_alloc_row rfl 234 rfl _ zero257 ?_))
  go_loopw [8, 9, 10, 11, 14] (fun v pl k c i wr => ∃ p : Nat, p ≤ s.size + 1 ∧ i = .int .i64 p ∧ Surv s w p v wr) (fun _ _ _ _ i _ => (s.size + 1) - (intOf i).toNat)
  case atStart =>
    refine ⟨0, by omega, rfl, World.ownsRow_nil _ _ _ _, ?_, ?_, ?_, ?_⟩
    · exact ((Row.new' _ _ _ rfl).alloc _).alloc _
    · exact ((Row.new' _ _ (fun _ => 0) (by simp)).alloc _).congr fun _ _ => rfl
    · exact (Row.new' _ _ (fun _ => 0) (by simp)).congr fun _ _ => rfl
    · exact (((Below.refl _ _).alloc (Nat.le_refl _) _).alloc (by simp) _).alloc (by simp <;> omega) _
  case round =>
    obtain ⟨p, hp, rfl, S⟩ := hrel
    by_cases hlt : p < s.size + 1
    · have hKr : Row wr kb 233 (s.size + 1) (kindN s) := hK.below S.bl hkb
      have ck : wr.cell? ⟨kb, p, none⟩ = some (.int .i64 (kindN s p : Nat)) := hKr.cell hlt
      have hll := LT_le s p
      have c1 := S.r1.cell (i := LT s p) (by omega)
      have c2 := S.r2.cell (i := LT s p) (by omega)
      have f1 := S.r1.frozen (LT s p)
      have f2 := S.r2.frozen (LT s p)
      have b1 := cntAll_le s p (LT s p)
      have b2 := cntRise_le s p (LT s p)
      cases hf : Cc.fall s.size (before s) p
      · cases hv : Cc.val s.size (before s) p
        · rw [kind_1 s p hf hv] at ck
          have R := S.rise hf hv
          clear hf hv
          go_wp2_with (go_at_call 159; refine (letter_any s p _ (by omega)).mono ?_; rintro e w' ⟨rfl, rfl⟩)
          exact ⟨⟨p + 1, by omega, by go_num, R⟩, by simp [intOf]; omega⟩
        · rw [kind_2 s p hv] at ck
          have R := fun v' w1 => S.val (v' := v') (w1 := w1) hf hv (Obj.cells #[Value.int IntKind.i64 p] 3)
          have hsz := S.bl.size
          have hvl := valsTo_le s p
          clear hf hv
          go_wp2_with (first
            | (go_at_call 159; refine (letter_any s p _ (by omega)).mono ?_; rintro e w' ⟨rfl, rfl⟩)
            | (at_builtin; refine wpList_append_own _ rfl _ _ 30 rfl (w.heap.size + 3) 3 i0 (.int .i64 0) 1 8 Tryz.underlying30 hi hz0 hz1 hz2 rfl (by decide) _ _ _ rfl (S.own.alloc _) ⟨w'.heap.size, 0, none⟩ 1 1 [.int .i64 (p : Int)] rfl rfl ?c1 ?c2 ?c3 ?c4 ?c5 ?_))
          case c1 => exact cell_one_new _ _ _
          case c2 => intro u hu; simp at hu; subst hu; rfl
          case c3 => unfold maxLen; omega
          case c4 => omega
          case c5 => have := S.r2.lt; simp; omega
          intro v' w1 hown hgrow _
          obtain ⟨R1, q1, q2⟩ := R v' w1 hown hgrow
          have d1 := q1.cell (i := LT s p) (by omega)
          have d2 := q2.cell (i := LT s p) (by omega)
          have g1 := q1.frozen (LT s p)
          have g2 := q2.frozen (LT s p)
          clear R hown hgrow q1 q2 c1 c2 f1 f2 ck hKr
          go_wp2
          exact ⟨⟨p + 1, by omega, by go_num, R1⟩, by simp [intOf]; omega⟩
      · obtain ⟨k0, hv⟩ := kind_0 s p hf
        rw [k0] at ck
        have R := S.fall hf
        clear k0 hf hv
        go_wp2_with (go_at_call 159; refine (letter_any s p _ (by omega)).mono ?_; rintro e w' ⟨rfl, rfl⟩)
        exact ⟨⟨p + 1, by omega, by go_num, R⟩, by simp [intOf]; omega⟩
    · have hp' : p = s.size + 1 := by omega
      subst hp'
      go_wp2_with (first
        | (refine wpList_load_row rfl 234 _ rfl (w.heap.size + 1) rfl 234 (rowC 257 (cntAll s (s.size + 1))) (0, 0) _ (by exact S.r1) Tryz.underlying234 rfl (by rw [size_rowC]; exact size257) ?_)
        | (refine wpList_load_row rfl 234 _ rfl (w.heap.size + 2) rfl 234 (rowC 257 (cntRise s (s.size + 1))) (0, 0) _ (by exact S.r2) Tryz.underlying234 rfl (by rw [size_rowC]; exact size257) ?_))
      refine (shelves_any (cntAll s (s.size + 1)) (cntRise s (s.size + 1)) (Cc.frontOf s.size (LT s)) (Cc.midOf s.size (LT s) (before s)) (Cc.backOf s.size (LT s)) _ (Cc.frontOf_zero _ _) ?_ ?_ ?_ ?_).mono ?_
      · intro c _; rw [Cc.backOf_eq, Cc.frontOf_succ]; rfl
      · intro c _; rw [Cc.backOf_eq]
      · intro c _; exact Cc.midOf_eq _ _ _ _
      · intro c; have := Cc.backOf_le s.size (LT s) c; omega
      rintro e w2 ⟨rfl, hB2⟩
      have q0 : Row w2 w.heap.size 199 771 (fun _ => 0) := S.r0.below hB2 S.r0.lt
      generalize hX : rowC 771 (sh3 (Cc.frontOf s.size (LT s)) (Cc.midOf s.size (LT s) (before s)) (Cc.backOf s.size (LT s))) = X
      have hX1 : X.size = 771 := by rw [← hX, size_rowC]
      have hX2 : X.all (·.oneCell') = true := by rw [← hX]; exact rowC_one _ _
      have HX : Hid (rowC 771 (sh3 (Cc.frontOf s.size (LT s)) (Cc.midOf s.size (LT s) (before s)) (Cc.backOf s.size (LT s))) = X) := hX
      clear hX
      go_wp2_with (refine wpList_store_row rfl 199 _ _ rfl w.heap.size X rfl rfl 199 (rowC 771 fun _ => 0) (by exact q0) (by rw [hX1]; exact size771) (by rw [hX1, size_rowC]) hX2 ?_)
      have hfin : (w2.setRow w.heap.size X).heap[w.heap.size]? = some (.cells X 199 (0, 0)) := setRow_heap w2 w.heap.size _ X 199 _ q0
      have hsz := S.r2.lt
      refine bodyPost_ret (results_row_tmp Tryz.results127 _ _ w.heap.size 199 X (0, 0) _ rfl hfin Tryz.underlying199 rfl (by rw [hX1]; exact size771)) rfl ⟨u8, ?_, ?_, ?_⟩
      · rw [HX.out]; rfl
      · refine ownsRow_setRow_below (S.own.kept (w' := w2) (row := none) ⟨hB2.os, hB2.tape, hB2.output, hB2.size, fun k hk _ => hB2.block k hk⟩ ?_) (by omega) _
        cases u8.ownBlock <;> simp
      · exact below_setRow (S.bl.trans (hB2.mono S.bl.size)) (Nat.le_refl _) _

end Go.Proofs.YtopihgmemnokkaaGreat
