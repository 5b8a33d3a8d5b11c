import Derived.Test.YtopihgmemnokkaaGreatCodeW5F
namespace Go.Proofs.YtopihgmemnokkaaGreat
open Go.RowKit Go.Shelf Go.Lib

/-- bits as a text -/
def tx (p : List Bool) : ByteArray := ⟨(p.map fun b => if b then (49 : UInt8) else 48).toArray⟩
theorem runText_tx (n v : Nat) : runText n v = tx (bl (n, v)) := by
  unfold runText tx bl strOfNums
  congr 2
  rw [List.map_map, List.map_map]
  apply List.map_congr_left
  intro i _
  simp only [Function.comp, bitB, Int.toNat_natCast]
  rcases Nat.mod_two_eq_zero_or_one (v / 2 ^ (n - 1 - i)) with h | h
  · simp [h]
  · simp [h]
theorem tx_size (p : List Bool) : (tx p).size = p.length := by simp [tx, ByteArray.size]

/-- a row of 256 texts -/
def rowS (t : Nat → ByteArray) : Array Value := (Array.range 256).map fun c => .string (t c)
theorem size_rowS (t : Nat → ByteArray) : (rowS t).size = 256 := by simp [rowS]
theorem rowS_get {t : Nat → ByteArray} {c : Nat} (h : c < 256) : (rowS t)[c]? = some (.string (t c)) := by simp [rowS, h]
theorem rowS_congr {t u : Nat → ByteArray} (h : ∀ c, c < 256 → t c = u c) : rowS t = rowS u := by
  unfold rowS
  apply Array.map_congr_left
  intro a ha
  rw [h a (by simpa using ha)]
def putS (t : Nat → ByteArray) (p : Nat) (v : ByteArray) : Nat → ByteArray := fun c => if c = p then v else t c
theorem rowS_set {t : Nat → ByteArray} {i : Nat} {v : ByteArray} : (rowS t).setIfInBounds i (.string v) = rowS (putS t i v) := by
  apply Array.ext_getElem?
  intro j
  rw [Array.getElem?_setIfInBounds, size_rowS]
  by_cases hj : j < 256
  · rw [rowS_get hj]
    by_cases e : i = j
    · subst e; simp [hj, rowS_get hj, putS]
    · have e' : ¬ j = i := fun x => e x.symm
      rw [if_neg e, rowS_get hj]; simp [putS, e']
  · have h1 : (rowS t)[j]? = none := by simp [size_rowS]; omega
    have h2 : (rowS (putS t i v))[j]? = none := by simp [size_rowS]; omega
    rw [h1, h2]
    by_cases e : i = j
    · subst e; simp [hj]
    · rw [if_neg e]
theorem rowS_made : madeCells #[.string ByteArray.empty] 256 = rowS fun _ => ByteArray.empty := by
  unfold madeCells rowS
  apply Array.map_congr_left
  intro a _
  have : a % (#[Value.string ByteArray.empty] : Array Value).size = 0 := by simp [Nat.mod_one]
  rw [this]; rfl
def SRow (w : World) (g : Nat) (t : Nat → ByteArray) : Prop := w.heap[g]? = some (.cells (rowS t) 9 (0, 0))
theorem SRow.cell {w : World} {g : Nat} {t : Nat → ByteArray} (h : SRow w g t) {c : Nat} (hc : c < 256) : w.cell? ⟨g, c, none⟩ = some (.string (t c)) := by
  unfold SRow at h; unfold World.cell?; rw [h]; exact rowS_get hc
theorem SRow.keep {P : Nat → Prop} {w w' : World} {g : Nat} {t : Nat → ByteArray} (h : SRow w g t) (hk : Kept P w w') (hn : ¬ P g) : SRow w' g t := by
  unfold SRow at *
  rw [hk.block g (Array.getElem?_eq_some_iff.1 h).1 hn]; exact h
theorem SRow.below {w w' : World} {g : Nat} {t : Nat → ByteArray} (h : SRow w g t) (hb : Below w.heap.size w w') : SRow w' g t :=
  h.keep (Kept.of_below hb (Nat.le_refl _) (fun _ => False)) (fun h => h)

theorem Tryz.infoStr : (Tryz.prog.info? 9).map (fun i => (i.zero, i.size, i.bytes)) = some (some (.string ByteArray.empty), 1, 16) := by kernel_rfl
theorem make_texts (w : World) : (Instr.makeSlice 31 (.int .i64 256) (.int .i64 256)).run Tryz.prog w
    = .ok (.slice (some ⟨w.heap.size, 0, none⟩) 256 256) (w.alloc (.cells (rowS fun _ => ByteArray.empty) 9)) := by
  obtain ⟨i, hi, hz0, hz1, hz2⟩ := info_parts Tryz.infoStr
  have h := run_make (P := Tryz.prog) w 31 9 i _ Tryz.underlying31 hi hz0 .i64 .i64 256 256 (by omega) (by omega) (by rw [hz2]; decide) (by omega)
  rw [hz1] at h
  have hc : (Value.string ByteArray.empty).cells = #[.string ByteArray.empty] := rfl
  rw [hc] at h
  simp only [Nat.mul_one] at h
  rw [show (256 : Int).toNat = 256 from rfl, rowS_made] at h
  exact h

theorem run_ix_run (G : Nat → Nat × Nat) (c : Nat) (hc : c < 256) (w : World) :
    (Instr.index 115 (.agg (rowR G)) (.int .i64 (c : Int))).run Tryz.prog w = .ok (.agg #[.int .i64 ((G c).1 : Nat), .int .u64 ((G c).2 : Nat)]) w := by
  have e0 := rowR_get0 G hc
  have e1 := rowR_get1 G hc
  have hx : (rowR G).extract (c * 2) (c * 2 + 2) = #[.int .i64 ((G c).1 : Nat), .int .u64 ((G c).2 : Nat)] := by
    apply Array.ext_getElem?
    intro j
    rw [Array.getElem?_extract, size_rowR]
    have hm : min (c * 2 + 2) 512 - c * 2 = 2 := by omega
    rw [hm]
    match j with
    | 0 => simpa using e0
    | 1 => simpa using e1
    | j + 2 => simp; omega
  simp [Instr.index, run_underlying Tryz.underlying115, asIntOf, part, Tryz.isAgg114, Tryz.sizeOf114, hx]
  omega

theorem sm_bound {k B : Nat} {g : Nat → Nat} (h : ∀ c, c < k → g c ≤ B) : sm k g ≤ k * B := by
  induction k with
  | zero => simp [sm]
  | succ k ih => simp only [sm]; have := ih (fun c hc => h c (by omega)); have := h k (by omega); rw [Nat.succ_mul]; omega

theorem spellF_small : ∀ (t : Hf.T) (n v : Nat) (g : Nat → Nat × Nat), v < 2 ^ n → (∀ c, (g c).2 < 2 ^ (g c).1) → ∀ c, (spellF t n v g c).2 < 2 ^ (spellF t n v g c).1
  | .leaf d, n, v, g, hv, hg, c => by
    simp only [spellF, updR]
    by_cases h : c = d
    · simp [h, hv]
    · simp [h]; exact hg c
  | .node l r, n, v, g, hv, hg, c =>
    spellF_small r (n + 1) (2 * v + 1) _ (by rw [Nat.pow_succ]; omega) (spellF_small l (n + 1) (2 * v) g (by rw [Nat.pow_succ]; omega) hg) c
theorem codes_small {f : Nat → Nat} {G : Nat → Nat × Nat} (h : CodesOf f G) (c : Nat) : (G c).2 < 2 ^ (G c).1 := by
  have h0 : ∀ c, (noRun c).2 < 2 ^ (noRun c).1 := fun c => by simp [noRun]
  rcases h with ⟨_, rfl⟩ | ⟨c0, _, _, rfl⟩ | ⟨_, l, _, _, rfl⟩
  · exact h0 c
  · exact spellF_small (.leaf c0) 1 0 noRun (by decide) h0 c
  · exact spellF_small _ 0 0 noRun (by decide) h0 c

/-- texts, as far as they are made -/
def txtTo (G : Nat → Nat × Nat) (p c : Nat) : ByteArray := if c < p then runText (G c).1 (G c).2 else ByteArray.empty
theorem txtTo_succ (G : Nat → Nat × Nat) (p c : Nat) : putS (txtTo G p) p (runText (G p).1 (G p).2) c = txtTo G (p + 1) c := by
  unfold putS txtTo
  by_cases h : c = p
  · subst h; simp
  · rw [if_neg h]
    by_cases h1 : c < p
    · rw [if_pos h1, if_pos (by omega)]
    · rw [if_neg h1, if_neg (by omega)]

/-- counts are no more than there is -/
theorem cnt_list (s : ByteArray) (n : Nat) (l : List Nat) (hl : l.Nodup) : (l.map (cntB s n)).sum ≤ n := by
  induction n with
  | zero =>
    have : ∀ l : List Nat, (l.map (cntB s 0)).sum = 0 := fun l => by
      induction l with
      | nil => rfl
      | cons a l ih => rw [List.map_cons, List.sum_cons, ih]; rfl
    rw [this]; exact Nat.le_refl _
  | succ n ih =>
    have h1 : ∀ l : List Nat, (l.map (cntB s (n + 1))).sum = (l.map (cntB s n)).sum + l.count (BY s n) := fun l => by
      induction l with
      | nil => rfl
      | cons a l ih =>
        rw [List.map_cons, List.sum_cons, ih, List.map_cons, List.sum_cons, List.count_cons]
        have : cntB s (n + 1) a = cntB s n a + (if a == BY s n then 1 else 0) := by
          unfold cntB
          simp only [Cc.cn]
          by_cases e : BY s n = a
          · subst e; simp
          · have e' : ¬ a = BY s n := fun x => e x.symm
            simp [e, e']
        omega
    have h2 := List.nodup_iff_count.1 hl (BY s n)
    rw [h1]; omega
theorem wt_list (f : Nat → Nat) : ∀ t : Hf.T, Hf.wt f t = ((Hf.bytes t).map f).sum
  | .leaf c => by simp [Hf.wt, Hf.bytes]
  | .node l r => by simp only [Hf.wt, Hf.bytes, List.map_append, List.sum_append]; rw [wt_list f l, wt_list f r]

set_option maxRecDepth 100000 in
set_option maxHeartbeats 1000000 in
theorem codes_any2 (s : ByteArray) (w : World) (hs : s.size ≤ 1000) :
    Calls Tryz.prog 46 #[.string s] w fun e w' => ∃ (G : Nat → Nat × Nat) (g n : Nat), e = .returned (.tuple #[.slice (some ⟨g, 0, none⟩) 256 256, .int .i64 (n : Nat), .int .i64 0]) ∧ SRow w' g (fun c => tx (bl (G c))) ∧
      CodesOf (cntB s s.size) G ∧ Codes (cntB s s.size) (fun c => bl (G c)) ∧ n = (sm 256 fun c => cntB s s.size c * (bl (G c)).length) ∧ n ≤ 16384000 ∧ w.heap.size ≤ g ∧ Below w.heap.size w w' := by
  have hfle : ∀ c, cntB s s.size c ≤ 1000 := fun c => Nat.le_trans (Cc.cn_le _ _) hs
  have hw : ∀ t, (Hf.bytes t).Nodup → (∀ c ∈ Hf.bytes t, c < 256) → Hf.wt (cntB s s.size) t ≤ 1000 := fun t hn _ => by
    rw [wt_list]; exact Nat.le_trans (cnt_list s s.size _ hn) hs
  have hcnt := fun W => count_any s W hs
  have HF : Hid (∀ c, cntB s s.size c ≤ 1000) := hfle
  have HW : Hid _ := hw
  generalize cntB s s.size = f at *
  have hof := fun W => of_any f W HW.out (fun c => by have := HF.out c; omega)
  have hmk := make_texts
  have hdec : decide ((1000 : Int) < (s.size : Int)) = false := by simp; omega
  clear hfle hw
  go_enter Tryz.func46, Tryz.ntmps46
  go_wp2_with fail
  refine (hcnt _).mono ?_
  rintro e w1 ⟨rfl, hB1⟩
  clear hcnt
  have hR0 : (((w1.alloc (.cells (rowC 256 fun _ => 0) 120)).setRow w1.heap.size (rowC 256 f)).alloc (.cells (rowS fun _ => ByteArray.empty) 9)).heap[w1.heap.size]? = some (.cells (rowC 256 f) 120 (0, 0)) := by
    rw [Below.heap_alloc _ _ _ (by simp)]
    exact setRow_heap _ _ _ _ _ _ (heap_alloc_new w1 _)
  have hS0 : SRow (((w1.alloc (.cells (rowC 256 fun _ => 0) 120)).setRow w1.heap.size (rowC 256 f)).alloc (.cells (rowS fun _ => ByteArray.empty) 9)) (w1.heap.size + 1) (fun _ => ByteArray.empty) := heap_alloc_new' _ _ (by simp)
  have hB2 : Below w.heap.size w (((w1.alloc (.cells (rowC 256 fun _ => 0) 120)).setRow w1.heap.size (rowC 256 f)).alloc (.cells (rowS fun _ => ByteArray.empty) 9)) := (below_setRow (hB1.alloc hB1.size _) hB1.size _).alloc (by have := hB1.size; simp; omega) _
  have hz2 : (((w1.alloc (.cells (rowC 256 fun _ => 0) 120)).setRow w1.heap.size (rowC 256 f)).alloc (.cells (rowS fun _ => ByteArray.empty) 9)).heap.size = w1.heap.size + 2 := by simp
  have HR0 : Hid _ := hR0
  have HS0 : Hid _ := hS0
  have HB2 : Hid _ := hB2
  have HZ2 : Hid _ := hz2
  have hz1 := hB1.size
  clear hR0 hS0 hB2 hz2
  go_wp2_with (first
    | (refine wpList_load_row rfl 120 _ rfl w1.heap.size rfl 120 (rowC 256 f) (0, 0) _ (by exact HR0.out) Tryz.underlying120 rfl (by rw [size_rowC]; exact size256) ?_)
    | (refine wpList_alloc_row rfl 120 rfl _ zero256 ?_)
    | (refine wpList_store_row rfl 120 _ _ rfl w1.heap.size (rowC 256 f) rfl rfl 120 (rowC 256 fun _ => 0) (by exact heap_alloc_new w1 _) (by rw [size_rowC]; exact size256) (by rw [size_rowC, size_rowC]) (rowC_one _ _) ?_)
    | fail)
  refine (hof _).mono ?_
  rintro e w2 ⟨⟨G, rfl, hG⟩, hB3⟩
  have hcd := codes_of hG HW.out
  have HCO : Hid (CodesOf f G) := hG
  have HCD : Hid _ := hcd
  have hG64 : ∀ c, c < 256 → (G c).1 ≤ 64 := fun c hc => by have := hcd.len c hc; rw [bl_len] at this; exact this
  have hGv : ∀ c, c < 256 → (G c).2 < 18446744073709551616 := fun c hc => Nat.lt_of_lt_of_le (codes_small hG c) (Nat.le_trans (Nat.pow_le_pow_right (by omega) (hG64 c hc)) (by decide))
  have k3 := Kept.of_below hB3 (Nat.le_refl _) (fun _ => False)
  have HR3 : Hid (Row w2 w1.heap.size 120 256 f) := Kept.row k3 (show Row _ w1.heap.size 120 256 f from HR0.out) (fun h => h)
  have HS3 : Hid (SRow w2 (w1.heap.size + 1) (fun _ => ByteArray.empty)) := SRow.keep HS0.out k3 (fun h => h)
  have HB4 : Hid (Below w.heap.size w w2) := HB2.out.trans (hB3.mono HB2.out.size)
  have hz3 : w1.heap.size + 2 ≤ w2.heap.size := by have := hB3.size; rw [HZ2.out] at this; exact this
  have HZ3 : Hid _ := hz3
  have G64 : Hid _ := hG64
  have GV : Hid _ := hGv
  clear hcd hG hG64 hGv k3 hB3 HR0 HS0 HB2 HZ2 hof hmk hz3 HW
  go_wp2
  go_loopw [7, 8, 9, 18] (fun n _ _ i wr => ∃ p : Nat, p ≤ 256 ∧ i = .int .i64 p ∧ n = .int .i64 ((sm p fun c => f c * (G c).1 : Nat) : Int) ∧ Hid (Row wr w1.heap.size 120 256 f) ∧ Hid (SRow wr (w1.heap.size + 1) (txtTo G p)) ∧ Hid (Below w.heap.size w wr) ∧ Hid (w1.heap.size + 2 ≤ wr.heap.size)) (fun _ _ _ i _ => 256 - (intOf i).toNat)
  case atStart => exact ⟨0, by omega, rfl, rfl, HR3, HS3, HB4, HZ3⟩
  case round =>
    clear HR3 HS3 HB4 HZ3
    obtain ⟨p, hp, rfl, rfl, RW, SW, BL, HZ⟩ := hrel
    by_cases hlt : p < 256
    · have hix := run_ix_run G p hlt
      have htext := fun W => text_any (G p).1 (G p).2 W (G64.out p hlt) (GV.out p hlt)
      have hsmb : (sm p fun c => f c * (G c).1) ≤ p * 64000 := sm_bound fun c hc => by
        have h1 := HF.out c
        have h2 := G64.out c (by omega)
        exact Nat.le_trans (Nat.mul_le_mul h1 h2) (by decide)
      have hmul : f p * (G p).1 ≤ 64000 := Nat.le_trans (Nat.mul_le_mul (HF.out p) (G64.out p hlt)) (by decide)
      have hnext : Hid ((sm (p + 1) fun c => f c * (G c).1) = (sm p fun c => f c * (G c).1) + f p * (G p).1) := rfl
      have cf : wr.cell? ⟨w1.heap.size, p, none⟩ = some (.int .i64 (f p : Nat)) := Row.cell RW.out hlt
      have TS : Hid (∀ c, putS (txtTo G p) p (runText (G p).1 (G p).2) c = txtTo G (p + 1) c) := txtTo_succ G p
      have HT : Hid (∃ x, x = txtTo G p) := ⟨_, rfl⟩
      generalize (sm p fun c => f c * (G c).1) = S at *
      obtain ⟨gn, hgn⟩ : ∃ gn, (G p).1 = gn := ⟨_, rfl⟩
      obtain ⟨gv, hgv⟩ : ∃ gv, (G p).2 = gv := ⟨_, rfl⟩
      obtain ⟨fp, hfp⟩ : ∃ fp, f p = fp := ⟨_, rfl⟩
      rw [hgn, hgv] at hix htext TS
      rw [hgn] at hmul hnext
      rw [hfp] at hmul hnext cf
      have hm1 : (0 : Int) ≤ (fp : Int) * (gn : Int) := Int.mul_nonneg (by omega) (by omega)
      have hm2 : (fp : Int) * (gn : Int) ≤ 64000 := by have : ((fp * gn : Nat) : Int) ≤ 64000 := by omega
                                                       rw [Int.natCast_mul] at this; exact this
      have hS : S ≤ 16384000 := by omega
      clear hgn hgv hfp hmul hsmb HT
      have hdp : decide ((p : Int) < 256) = true := by simp; omega
      go_wp2_with fail
      refine (htext _).mono ?_
      rintro e w3 ⟨rfl, hB3⟩
      have k0 : Kept (fun _ => False) wr (wr.alloc (.cells #[.int .i64 (gn : Nat), .int .u64 (gv : Nat)] 114)) := (Kept.refl (fun _ => False) wr).alloc _
      have k3 : Kept (fun _ => False) (wr.alloc (.cells #[.int .i64 (gn : Nat), .int .u64 (gv : Nat)] 114)) w3 := Kept.of_below hB3 (Nat.le_refl _) (fun _ => False)
      have kall := k0.trans k3
      have hbox : w3.heap[wr.heap.size]? = some (.cells #[.int .i64 (gn : Nat), .int .u64 (gv : Nat)] 114 (0, 0)) := by
        rw [hB3.block _ (by simp)]; exact heap_alloc_new wr _
      have RW3 := Kept.row kall RW.out (fun h => h)
      have SW3 : SRow w3 (w1.heap.size + 1) (txtTo G p) := SRow.keep SW.out kall (fun h => h)
      have hz4 := kall.size
      have e1 : w3.cell? ⟨w1.heap.size + 1, p, none⟩ = some (.string (txtTo G p p)) := SW3.cell hlt
      have e2 : w3.frozen? ⟨w1.heap.size + 1, p, none⟩ = false := by unfold SRow at SW3; simp [World.frozen?, SW3]
      have kst : Kept (fun k => k = w1.heap.size + 1) w3 (w3.setCell ⟨w1.heap.size + 1, p, none⟩ (.string (runText gn gv))) := (Kept.refl (fun k => k = w1.heap.size + 1) w3).setCell (show (⟨w1.heap.size + 1, p, none⟩ : Addr).block = w1.heap.size + 1 from rfl) _
      have RW4 : Hid (Row (w3.setCell ⟨w1.heap.size + 1, p, none⟩ (.string (runText gn gv))) w1.heap.size 120 256 f) := Kept.row kst RW3 (by omega)
      have SW4 : Hid (SRow (w3.setCell ⟨w1.heap.size + 1, p, none⟩ (.string (runText gn gv))) (w1.heap.size + 1) (txtTo G (p + 1))) := by
        show _ = _
        rw [← rowS_congr (fun c _ => TS.out c), ← rowS_set]
        unfold SRow at SW3
        simp [World.setCell, Array.getElem?_modify, SW3]
      have BL4 : Hid (Below w.heap.size w (w3.setCell ⟨w1.heap.size + 1, p, none⟩ (.string (runText gn gv)))) := kst.bel ((BL.out.alloc BL.out.size _).trans (hB3.mono (by have := BL.out.size; simp; omega))) (Nat.le_refl _) (fun k hk => by omega)
      have HZ4 : Hid (w1.heap.size + 2 ≤ (w3.setCell ⟨w1.heap.size + 1, p, none⟩ (.string (runText gn gv))).heap.size) := by
        show _ ≤ _
        have := HZ.out
        simp; omega
      have x1 : (w3.setCell ⟨w1.heap.size + 1, p, none⟩ (.string (runText gn gv))).cell? ⟨w1.heap.size, p, none⟩ = some (.int .i64 (fp : Nat)) := cellK kst (cellK kall cf (fun h => h)) (by show ¬ w1.heap.size = _; omega)
      have x2 : (w3.setCell ⟨w1.heap.size + 1, p, none⟩ (.string (runText gn gv))).cell? ⟨wr.heap.size, 0, none⟩ = some (.int .i64 (gn : Nat)) := cellK kst (by simp [World.cell?, hbox]) (by have := HZ.out; show ¬ wr.heap.size = _; omega)
      have kst' : Hid _ := kst
      generalize runText gn gv = tt at *
      generalize txtTo G p p = old at *
      clear kall k0 k3 hbox RW3 SW3 hB3 cf RW SW BL htext kst
      go_wp2
      generalize hw4 : w3.setCell ⟨w1.heap.size + 1, p, none⟩ (.string tt) = w4 at *
      clear hw4 e1 e2
      go_quiet (fail)
      have kq : Kept (fun _ => False) w4 (w4.drewN nq) := ⟨rfl, rfl, rfl, Nat.le_refl _, fun _ _ _ => rfl⟩
      have RW5 : Hid (Row (w4.drewN nq) w1.heap.size 120 256 f) := Kept.row kq RW4.out (fun h => h)
      have SW5 : Hid (SRow (w4.drewN nq) (w1.heap.size + 1) (txtTo G (p + 1))) := SRow.keep SW4.out kq (fun h => h)
      have BL5 : Hid (Below w.heap.size w (w4.drewN nq)) := kq.bel BL4.out (Nat.le_refl _) (fun _ h => h.elim)
      have HZ5 : Hid (w1.heap.size + 2 ≤ (w4.drewN nq).heap.size) := HZ4.out
      clear kq RW4 SW4 BL4 HZ4 x1 x2
      go_wp2
      refine ⟨⟨p + 1, by omega, by go_num, congrArg (Value.int .i64) ?_, RW5, SW5, BL5, HZ5⟩, by simp [intOf]; omega⟩
      rw [hnext.out, Int.natCast_add, Int.natCast_mul]
    · have hp' : p = 256 := by omega
      subst hp'
      go_wp2
      go_ret3
      have hall : rowS (txtTo G 256) = rowS (fun c => tx (bl (G c))) := rowS_congr fun c hc => by
        unfold txtTo; rw [if_pos hc, runText_tx]
      refine ⟨G, w1.heap.size + 1, _, rfl, ?_, HCO.out, HCD.out, ?_, ?_, by omega, BL.out⟩
      · have := SW.out
        unfold SRow at *
        rw [← hall]; exact this
      · exact sm_congr fun c _ => by rw [bl_len]
      · have := sm_bound (k := 256) (B := 64000) (g := fun c => f c * (G c).1) fun c hc => Nat.le_trans (Nat.mul_le_mul (HF.out c) (G64.out c hc)) (by decide)
        exact Nat.le_trans this (by decide)

theorem codes_any (s : ByteArray) (w : World) (hs : s.size ≤ 1000) :
    Calls Tryz.prog 46 #[.string s] w fun e w' => ∃ (k : Nat → List Bool) (g n : Nat), e = .returned (.tuple #[.slice (some ⟨g, 0, none⟩) 256 256, .int .i64 (n : Nat), .int .i64 0]) ∧ SRow w' g (fun c => tx (k c)) ∧
      Codes (cntB s s.size) k ∧ n = (sm 256 fun c => cntB s s.size c * (k c).length) ∧ n ≤ 16384000 ∧ w.heap.size ≤ g ∧ Below w.heap.size w w' :=
  (codes_any2 s w hs).mono fun _ _ ⟨G, g, n, h1, h2, _, h3⟩ => ⟨fun c => bl (G c), g, n, h1, h2, h3⟩

set_option maxRecDepth 100000 in
set_option maxHeartbeats 1000000 in
theorem codes_long (s : ByteArray) (w : World) (hs : 1000 < s.size) :
    Calls Tryz.prog 46 #[.string s] w fun e w' => e = .returned (.tuple #[.slice none 0 0, .int .i64 0, .int .i64 1]) ∧ w' = w := by
  have hdec : decide ((1000 : Int) < (s.size : Int)) = true := by simp; omega
  go_enter Tryz.func46, Tryz.ntmps46
  go_wp2
  go_ret3
  exact ⟨rfl, rfl⟩

end Go.Proofs.YtopihgmemnokkaaGreat

namespace Go.Proofs.YtopihgmemnokkaaGreat
open Go.RowKit Go.Shelf Go.Lib

theorem tx_byte (p : List Bool) {i : Nat} (h : i < (tx p).size) : (tx p)[i].toNat = 48 ∨ (tx p)[i].toNat = 49 := by
  have hl : i < p.length := by rw [← tx_size]; exact h
  have : (tx p)[i] = if p[i] then (49 : UInt8) else 48 := by
    show (tx p).data[i]'h = _
    simp [tx]
  rw [this]
  cases p[i]
  · exact .inl rfl
  · exact .inr rfl
theorem toList_isEmpty (a : ByteArray) : a.toList.isEmpty = decide (a.size = 0) := by
  rw [ByteArray.toList_eq]
  show a.data.toList.isEmpty = decide (a.data.size = 0)
  cases h : a.data with
  | mk l => cases l <;> simp
theorem tx_toList_isEmpty (p : List Bool) : (tx p).toList.isEmpty = decide (p = []) := by
  rw [toList_isEmpty, tx_size]
  cases p <;> simp

theorem tx_append (a b : List Bool) : tx (a ++ b) = tx a ++ tx b := by
  apply ByteArray.ext
  rw [ByteArray.data_append]
  simp [tx]
theorem tx_inj {a b : List Bool} (h : tx a = tx b) : a = b := by
  have h1 : (a.map fun b => if b then (49 : UInt8) else 48) = b.map fun b => if b then (49 : UInt8) else 48 := by
    have := congrArg (fun x => x.data.toList) h
    simpa [tx] using this
  refine List.map_inj_right ?_ |>.1 h1
  intro x y e
  cases x <;> cases y <;> simp at e ⊢
theorem tx_extract (l : List Bool) (a b : Nat) : (tx l).extract a b = tx ((l.drop a).take (b - a)) := by
  apply ByteArray.ext
  rw [ByteArray.data_extract]
  apply Array.toList_inj.1
  simp [tx, List.map_drop, List.map_take]
theorem toList_inj' {a b : ByteArray} (h : a.toList = b.toList) : a = b := by
  rw [ByteArray.toList_eq, ByteArray.toList_eq] at h
  exact ByteArray.ext (Array.toList_inj.1 h)

/-- the codes of the first bytes of a text, one behind the other -/
def cat (k : Nat → List Bool) (s : ByteArray) : Nat → List Bool
  | 0 => []
  | p + 1 => cat k s p ++ k (BY s p)
/-- how many bits they have -/
def cl (k : Nat → List Bool) (s : ByteArray) (p : Nat) : Nat := (cat k s p).length
theorem cl_zero (k : Nat → List Bool) (s : ByteArray) : cl k s 0 = 0 := rfl
theorem cl_succ (k : Nat → List Bool) (s : ByteArray) (p : Nat) : cl k s (p + 1) = cl k s p + (k (BY s p)).length := by simp [cl, cat]
theorem cl_mono (k : Nat → List Bool) (s : ByteArray) {p q : Nat} (h : p ≤ q) : cl k s p ≤ cl k s q := by
  induction h with
  | refl => exact Nat.le_refl _
  | step h ih => rw [cl_succ]; omega
theorem cat_to (k : Nat → List Bool) (s : ByteArray) {p q : Nat} (h : p ≤ q) : ∃ r, cat k s q = cat k s p ++ r := by
  induction h with
  | refl => exact ⟨[], by simp⟩
  | step h ih => obtain ⟨r, hr⟩ := ih; exact ⟨r ++ k (BY s _), by rw [cat, hr, List.append_assoc]⟩
theorem cat_piece (k : Nat → List Bool) (s : ByteArray) {p q i : Nat} (h : p < q) (h1 : cl k s p ≤ i) (h2 : i ≤ cl k s (p + 1)) :
    ((cat k s q).drop (cl k s p)).take (i - cl k s p) = (k (BY s p)).take (i - cl k s p) := by
  obtain ⟨r, hr⟩ := cat_to k s (show p + 1 ≤ q from h)
  rw [hr, cat, List.append_assoc]
  have hd : (cat k s p ++ (k (BY s p) ++ r)).drop (cl k s p) = k (BY s p) ++ r := by
    unfold cl
    rw [List.drop_append_of_le_length (Nat.le_refl _), List.drop_length, List.nil_append]
  rw [hd]
  rw [List.take_append_of_le_length]
  rw [cl_succ] at h2; omega

theorem sm_add (n : Nat) (f g : Nat → Nat) : (sm n fun c => f c + g c) = sm n f + sm n g := by
  induction n with
  | zero => rfl
  | succ n ih => simp only [sm] at *; omega
theorem sm_one (n b : Nat) (L : Nat → Nat) (h : b < n) : (sm n fun c => if b = c then L c else 0) = L b := by
  induction n with
  | zero => omega
  | succ n ih =>
    simp only [sm]
    by_cases e : b = n
    · subst e
      have : (sm b fun c => if b = c then L c else 0) = 0 := by
        have h0 : (sm b fun c => if b = c then L c else 0) = sm b fun _ => 0 := sm_congr fun c hc => by rw [if_neg (by omega)]
        rw [h0]
        have hz : ∀ m, (sm m fun _ => 0) = 0 := fun m => by induction m with
          | zero => rfl
          | succ m ih => simp [sm, ih]
        exact hz b
      simp [this]
    · rw [ih (by omega), if_neg e]; omega
/-- the sum over the first bytes of a text -/
def ac (L : Nat → Nat) (s : ByteArray) : Nat → Nat
  | 0 => 0
  | p + 1 => ac L s p + L (BY s p)
theorem sm_ac (L : Nat → Nat) (s : ByteArray) (p : Nat) : (sm 256 fun c => cntB s p c * L c) = ac L s p := by
  induction p with
  | zero =>
    have h0 : (sm 256 fun c => cntB s 0 c * L c) = sm 256 fun _ => 0 := sm_congr fun c hc => by simp [cntB, Cc.cn]
    have hz : ∀ m, (sm m fun _ => 0) = 0 := fun m => by induction m with
      | zero => rfl
      | succ m ih => simp [sm, ih]
    rw [h0, hz]; rfl
  | succ p ih =>
    have h1 : (sm 256 fun c => cntB s (p + 1) c * L c) = sm 256 fun c => cntB s p c * L c + if BY s p = c then L c else 0 := sm_congr fun c hc => by
      rw [← cntB_succ]
      by_cases e : c = BY s p
      · subst e; rw [Cc.put_same, if_pos rfl, Nat.add_mul, Nat.one_mul]
      · rw [Cc.put_other _ _ e, if_neg (fun x => e x.symm)]; omega
    have hb := BY_le s p
    rw [h1, sm_add, ih, sm_one _ _ _ (by omega)]; rfl
theorem cl_ac (k : Nat → List Bool) (s : ByteArray) (p : Nat) : cl k s p = ac (fun c => (k c).length) s p := by
  induction p with
  | zero => rfl
  | succ p ih => rw [cl_succ, ih]; rfl
theorem sm_cat (k : Nat → List Bool) (s : ByteArray) (p : Nat) : (sm 256 fun c => cntB s p c * (k c).length) = cl k s p := by
  rw [cl_ac]; exact sm_ac (fun c => (k c).length) s p
theorem ac_bound {L : Nat → Nat} {s : ByteArray} {B : Nat} (h : ∀ c, c < 256 → L c ≤ B) (p : Nat) : ac L s p ≤ p * B := by
  induction p with
  | zero => simp [ac]
  | succ p ih =>
    have hb := BY_le s p
    have := h (BY s p) (by omega)
    simp only [ac, Nat.add_mul]; omega

theorem cnt_there (s : ByteArray) {p q : Nat} (h : p < q) : 0 < cntB s q (BY s p) := by
  induction q with
  | zero => omega
  | succ q ih =>
    rw [← cntB_succ]
    by_cases e : BY s p = BY s q
    · rw [e, Cc.put_same]; omega
    · rw [Cc.put_other _ _ e]
      refine ih ?_
      rcases Nat.lt_or_ge p q with h1 | h1
      · exact h1
      · have : p = q := by omega
        subst this; exact absurd rfl e
theorem Codes.there {f : Nat → Nat} {k : Nat → List Bool} (h : Codes f k) {c : Nat} (hc : c < 256) (hk : k c ≠ []) : 0 < f c := by
  rcases Nat.eq_zero_or_pos (f c) with h0 | h0
  · exact absurd (h.none c hc h0) hk
  · exact h0

theorem code_match {s : ByteArray} {k : Nat → List Bool} (CD : Codes (cntB s s.size) k) {p i c : Nat} (hp : p < s.size) (h1 : cl k s p ≤ i) (h2 : i ≤ cl k s (p + 1)) (hc : c < 256) (hk : k c ≠ []) :
    ((tx (cat k s s.size)).extract (cl k s p) i).toList = (tx (k c)).toList ↔ (c = BY s p ∧ i = cl k s (p + 1)) := by
  rw [tx_extract, cat_piece k s hp h1 h2]
  have hb := BY_le s p
  constructor
  · intro h
    have e := tx_inj (toList_inj' h)
    have hpre : k c <+: k (BY s p) := by rw [← e]; exact List.take_prefix _ _
    have hcb : c = BY s p := by
      rcases Nat.decEq c (BY s p) with h3 | h3
      · exact absurd hpre (CD.free c (BY s p) hc (by omega) h3 (CD.there hc hk) (cnt_there s hp))
      · exact h3
    refine ⟨hcb, ?_⟩
    have hl := congrArg List.length e
    rw [List.length_take, ← hcb] at hl
    rw [cl_succ, ← hcb] at h2 ⊢
    omega
  · rintro ⟨rfl, rfl⟩
    rw [cl_succ, Nat.add_sub_cancel_left, List.take_of_length_le (Nat.le_refl _)]
theorem code_none {k : Nat → List Bool} {l : List Bool} {i c : Nat} (hk : k c ≠ []) : ¬ ((tx l).extract i i).toList = (tx (k c)).toList := by
  rw [tx_extract, Nat.sub_self, List.take_zero]
  intro h
  exact hk (tx_inj (toList_inj' h)).symm

end Go.Proofs.YtopihgmemnokkaaGreat

