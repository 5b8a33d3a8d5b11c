import Derived.Test.YtopihgmemnokkaaGreatWalk15
import Derived.Deep.RegionHeld
import Derived.Deep.Onto
namespace Go.Proofs.YtopihgmemnokkaaGreat
open Go.RowKit

set_option maxHeartbeats 400000 in
theorem least_any (a b : Nat) (w : World) :
    Calls Tryz.prog 134 #[.int .i64 (a : Nat), .int .i64 (b : Nat)] w fun e w' => e = .returned (.int .i64 ((min a b : Nat) : Int)) ∧ w' = w := by
  by_cases h : a < b
  · go_enter Tryz.func134, Tryz.ntmps134
    go_wp2
    go_ret
    exact ⟨ret_int (by omega), rfl⟩
  · go_enter Tryz.func134, Tryz.ntmps134
    go_wp2
    go_ret
    exact ⟨ret_int (by omega), rfl⟩

theorem ownsRow_of_row {w : World} {b base m : Nat} {f : Nat → Nat} (h : Row w b 3 m f) (hb : base ≤ b) (hm : m ≤ maxLen) : w.ownsRow base 3 1 (.slice (some ⟨b, 0, none⟩) m m) m (vals ((List.range m).map f)) := by
  refine ⟨by simp [vals], .inr ⟨b, m, rowC m f, rfl, hb, h, Nat.le_refl _, hm, by rw [size_rowC, Nat.mul_one], ?_⟩⟩
  rw [Nat.mul_one, List.take_of_length_le (by simp [size_rowC])]
  simp [rowC, vals, Array.toList_map, Array.toList_range]

theorem at_of_own {w : World} {base g cap : Nat} {l : List Nat} (h : w.ownsRow base 3 1 (.slice (some ⟨g, 0, none⟩) l.length cap) l.length (vals l)) (f k : Nat) : At w g f ((l.drop f).take k) := by
  intro j x hj
  have hj1 : l[f + j]? = some x := by
    rw [List.getElem?_take] at hj
    split at hj
    · rw [List.getElem?_drop] at hj; exact hj
    · cases hj
  have hlt : f + j < l.length := (List.getElem?_eq_some_iff.1 hj1).1
  rw [h.cellAt (f + j) (by omega)]
  unfold vals
  rw [List.getElem?_map, hj1]; rfl

def sortedL (s : ByteArray) : List Nat := (List.range (s.size + 1)).map (placeOf s)

theorem sorted_eq (s : ByteArray) {l : List Nat} {size : Nat} (hl : l.length = s.size + 1) (hle : ∀ x, x ∈ l → x ≤ s.size) (hr : Cc.Runs (before s) size l) (hs : s.size + 1 ≤ size) : l = sortedL s := by
  apply List.ext_getElem
  · simp [sortedL, hl]
  · intro i h1 h2
    have := Cc.runs_done (ord s) hl hle hr hs h1
    simp only [sortedL, List.getElem_map, List.getElem_range]
    conv => rhs; rw [← this]
    rw [placeOf_rank s (hle _ (List.getElem_mem h1))]

theorem cons_eq {a b : Value} {l m : List Value} (h : a = b) (h2 : l = m) : a :: l = b :: m := by rw [h, h2]

theorem frame_eq {a b : List Value} (h : a = b) : ({ tmps := a.toArray, defers := [] } : Act) = { tmps := b.toArray, defers := [] } := by rw [h]

set_option maxRecDepth 100000 in
set_option maxHeartbeats 2000000 in
theorem refsorted_any (s : ByteArray) (w : World) (hs : s.size ≤ 1000) :
    Calls Tryz.prog 88 #[.string s] w fun e w' => ∃ v, e = .returned v ∧ w'.ownsRow w.heap.size 3 1 v (s.size + 1) (vals (sortedL s)) ∧ Below w.heap.size w w' := by
  obtain ⟨i0, hi, hz0, hz1, hz2⟩ := info_parts Tryz.info3
  have hmk := fun w => make_rows (s.size + 1) (by omega) w
  have ec : ((s.size + 1 : Nat) : Int) = (s.size : Int) + 1 := by omega
  simp only [ec] at hmk
  clear ec
  go_enter Tryz.func88, Tryz.ntmps88
  go_wp2
  go_loopw [4] (fun i wr => ∃ p : Nat, p ≤ s.size + 1 ∧ i = .int .i64 p ∧ Row wr w.heap.size 3 (s.size + 1) (fun j => if j < p then j else 0) ∧ Below w.heap.size w wr) (fun i _ => (s.size + 1) - (intOf i).toNat)
  case atStart => exact ⟨0, by omega, rfl, (Row.new w _ _ _).congr fun j _ => by simp, (Below.refl _ _).alloc (Nat.le_refl _) _⟩
  case round =>
    clear hmk
    obtain ⟨p, hp, rfl, hR, hBl⟩ := hrel
    by_cases hlt : p < s.size + 1
    · have c0 := hR.cell (i := p) hlt
      have f0 := hR.frozen p
      have hg := (hR.set p p).congr (g := fun j => if j < p + 1 then j else 0) fun j _ => by
        by_cases e : j = p
        · subst e; rw [Cc.put_same, if_pos (by omega)]
        · rw [Cc.put_other _ _ e]
          by_cases e2 : j < p
          · rw [if_pos e2, if_pos (by omega)]
          · rw [if_neg e2, if_neg (by omega)]
      go_wp2
      exact ⟨⟨p + 1, by omega, by go_num, hg, hBl.setCell (Nat.le_refl _) _⟩, by simp [intOf]; omega⟩
    · have hp' : p = s.size + 1 := by omega
      subst hp'
      have hown0 := ownsRow_of_row (base := w.heap.size) (hR.congr (g := fun j => j) fun j hj => by rw [if_pos hj]) (Nat.le_refl _) (by unfold maxLen; omega)
      go_wp2
      go_loopw [3, 5, 6, 7, 8, 9] (fun lv sz ov fr mi en wr => ∃ (l : List Nat) (size : Nat), sz = .int .i64 size ∧ 0 < size ∧ size ≤ 2 * (s.size + 1) ∧ l.length = s.size + 1 ∧ l.Perm (List.range (s.size + 1)) ∧ Cc.Runs (before s) size l ∧ wr.ownsRow w.heap.size 3 1 lv (s.size + 1) (vals l) ∧ Below w.heap.size w wr) (fun _ sz _ _ _ _ _ => 4 * (s.size + 1) - (intOf sz).toNat)
      case atStart => exact ⟨List.range (s.size + 1), 1, rfl, by omega, by omega, by simp, List.Perm.refl _, Cc.runs_one _, by simpa using hown0, hBl⟩
      case round =>
        clear hown0 hR hBl
        obtain ⟨l, size, rfl, hs0, hs1, hll, hlp, hlr, hown, hBl⟩ := hrel
        have hle : ∀ x, x ∈ l → x ≤ s.size := fun x hx => by have := hlp.mem_iff.1 hx; rw [List.mem_range] at this; omega
        have hnd : l.Nodup := by rw [hlp.nodup_iff]; exact List.nodup_range
        obtain ⟨g, cap, cur, rfl, hgb, hgl⟩ : ∃ g cap cur, u3 = .slice (some ⟨g, 0, none⟩) (s.size + 1) cap ∧ w.heap.size ≤ g ∧ (wr.heap[g]? = some (.cells cur 3 (0, 0)) ∧ s.size + 1 ≤ cap) := by
          rcases hown.2 with ⟨_, h0⟩ | ⟨g, cap, cur, e1, e2, e3, e4, _⟩
          · omega
          · exact ⟨g, cap, cur, e1, e2, e3, e4⟩
        obtain ⟨hgl, hcap⟩ := hgl
        have hgs : g < wr.heap.size := (Array.getElem?_eq_some_iff.1 hgl).1
        clear hgl
        by_cases hlt2 : size < s.size + 1
        · obtain ⟨wo, hwo⟩ : ∃ wo : World, wo = wr := ⟨_, rfl⟩
          subst hwo
          have hzo := hBl.size
          go_wp2
          go_loopw [6, 7, 8, 9] (fun ov fr mi en wq => ∃ (q : Nat) (out : List Nat), fr = .int .i64 ((2 * size * q : Nat) : Int) ∧ 2 * size * q ≤ 6 * (s.size + 1) ∧ out.length = min (2 * size * q) (s.size + 1) ∧ out.Perm (l.take (min (2 * size * q) (s.size + 1))) ∧ Cc.Runs (before s) (2 * size) out ∧
            wq.ownsRow wo.heap.size 3 1 ov out.length (vals out) ∧ Below wo.heap.size wo wq) (fun _ fr _ _ _ => 6 * (s.size + 1) - (intOf fr).toNat)
          case atStart =>
            refine ⟨0, [], rfl, by omega, by simp, by simp, ?_, World.ownsRow_nil _ _ _ _, Below.refl _ _⟩
            intro i j hi; simp at hi
          case round =>
            obtain ⟨q, out, rfl, hq6, hol, hop, hor, hoo, hBo⟩ := hrel
            have hzq := hBo.size
            by_cases hf : 2 * size * q < s.size + 1
            · have hmin : min (2 * size * q) (s.size + 1) = 2 * size * q := by omega
              rw [hmin] at hol hop
              clear hmin
              have hstep := Cc.runs_step (ord s) hs0 hle hnd hlr (by omega) hol hop hor (min (2 * size * q + size) (s.size + 1)) (min (2 * size * q + 2 * size) (s.size + 1)) (by rw [hll]) (by rw [hll])
              have hnxt : min (2 * size * (q + 1)) (s.size + 1) = min (2 * size * q + 2 * size) (s.size + 1) := by rw [Nat.mul_add, Nat.mul_one]
              have hnx2 : 2 * size * (q + 1) = 2 * size * q + 2 * size := by rw [Nat.mul_add, Nat.mul_one]
              have Hnxt : Hid (min (2 * size * (q + 1)) (s.size + 1) = min (2 * size * q + 2 * size) (s.size + 1) ∧ 2 * size * (q + 1) = 2 * size * q + 2 * size) := ⟨hnxt, hnx2⟩
              clear hnxt hnx2 hop hor
              generalize 2 * size * q = f at *
              have c1 := fun w => least_any (f + size) (s.size + 1) w
              have c2 := fun w => least_any (f + 2 * size) (s.size + 1) w
              have e1 : ((f + size : Nat) : Int) = (f : Int) + (size : Int) := by omega
              have e2 : ((s.size + 1 : Nat) : Int) = (s.size : Int) + 1 := by omega
              have e3 : ((f + 2 * size : Nat) : Int) = (f : Int) + 2 * (size : Int) := by omega
              simp only [e1, e2, e3] at c1 c2
              clear e1 e2 e3
              generalize hmid : min (f + size) (s.size + 1) = mid at *
              generalize hfin : min (f + 2 * size) (s.size + 1) = fin at *
              have hm1 : f ≤ mid := by omega
              have hm2 : mid ≤ fin := by omega
              have hm3 : fin ≤ s.size + 1 := by omega
              have hm4 : f < fin := by omega
              have hm5 : mid < f + 2000 := by omega
              have Hmf : Hid (min (f + size) (s.size + 1) = mid ∧ min (f + 2 * size) (s.size + 1) = fin) := ⟨hmid, hfin⟩
              clear hmid hfin
              go_wp2_with fail
              refine (c1 _).mono ?_
              rintro e w9 ⟨rfl, rfl⟩
              go_wp2_with fail
              refine (c2 _).mono ?_
              rintro e w9 ⟨rfl, rfl⟩
              clear c1 c2
              go_wp2_with fail
              have hi1 : (f : Int) ≤ (mid : Int) := by omega
              have hi2 : (mid : Int) ≤ (cap : Int) := by omega
              have hi3 : (mid : Int) ≤ (fin : Int) := by omega
              have hi4 : (fin : Int) ≤ (cap : Int) := by omega
              have hfc : ¬ cap = f := by omega
              have hAl : ((l.drop f).take (mid - f)).length = mid - f := by simp; omega
              have hBl' : ((l.drop mid).take (fin - mid)).length = fin - mid := by simp; omega
              have hown' : wo.ownsRow w.heap.size 3 1 (.slice (some ⟨g, 0, none⟩) l.length cap) l.length (vals l) := by rw [hll]; exact hown
              have hAat : At w9.drew g f ((l.drop f).take (mid - f)) := (at_of_own hown' f (mid - f)).below hBo.drew hgs
              have hBat : At w9.drew g mid ((l.drop mid).take (fin - mid)) := (at_of_own hown' mid (fin - mid)).below hBo.drew hgs
              have hdis : ∀ x, x ∈ (l.drop f).take (mid - f) → ∀ y, y ∈ (l.drop mid).take (fin - mid) → x ≠ y := by
                have hsp : l.take fin = l.take f ++ ((l.drop f).take (mid - f) ++ (l.drop mid).take (fin - mid)) := by
                  have h1 : l.take fin = l.take mid ++ (l.drop mid).take (fin - mid) := by
                    rw [← List.take_add]; congr 1; omega
                  have h2 : l.take mid = l.take f ++ (l.drop f).take (mid - f) := by
                    rw [← List.take_add]; congr 1; omega
                  rw [h1, h2, List.append_assoc]
                have hndT : (l.take fin).Nodup := hnd.sublist (List.take_sublist _ _)
                rw [hsp] at hndT
                exact (List.nodup_append.1 (List.nodup_append.1 hndT).2.1).2.2
              have hgq : g < w9.drew.heap.size := by simp; omega
              have hcall : ∀ bo, At w9.drew g bo ((l.drop mid).take (fin - mid)) → Calls Tryz.prog 135 #[.string s, .slice (some ⟨g, f, none⟩) (mid - f) (cap - f), .slice (some ⟨g, bo, none⟩) (fin - mid) (cap - mid)] w9.drew fun e w' =>
                  ∃ v, e = .returned v ∧ w'.ownsRow w9.drew.heap.size 3 1 v (mid - f + (fin - mid)) (vals (Cc.mrg (before s) ((l.drop f).take (mid - f)) ((l.drop mid).take (fin - mid)))) ∧ Below w9.drew.heap.size w9.drew w' := by
                intro bo hBo'
                have hc := merged_any s g f (cap - f) g bo (cap - mid) ((l.drop f).take (mid - f)) ((l.drop mid).take (fin - mid)) w9.drew hAat hBo' hgq hgq (by rw [hAl]; omega) (by rw [hBl']; omega) (by rw [hAl]; omega) (by rw [hBl']; omega)
                  (fun x hx => hle x (List.mem_of_mem_drop (List.mem_of_mem_take hx))) (fun x hx => hle x (List.mem_of_mem_drop (List.mem_of_mem_take hx))) hdis
                rw [hAl, hBl'] at hc
                exact hc
              have hMl : (Cc.mrg (before s) ((l.drop f).take (mid - f)) ((l.drop mid).take (fin - mid))).length = fin - f := by rw [Cc.mrg_length, hAl, hBl']; omega
              have hsum : mid - f + (fin - mid) = fin - f := by omega
              rw [hsum] at hcall
              clear hsum hdis hAat
              generalize Cc.mrg (before s) ((l.drop f).take (mid - f)) ((l.drop mid).take (fin - mid)) = M at *
              generalize hBl0 : (l.drop mid).take (fin - mid) = Bl at *
              by_cases hmc : cap = mid
              · have hBnil : At w9.drew g 0 Bl := by
                  have : Bl = [] := List.length_eq_zero_iff.1 (by omega)
                  rw [this]; exact At.nil _ _ _
                subst hmc
                refine wp_region_held_drew (S := fun _ => True) (by kernel_rfl) trivial (fun _ => ?_)
                refine wpAnyH_take (i := 0) (v := ?v0) rfl (by kernel_rfl) (by kernel_rfl) (by kernel_rfl) (fun _ _ _ h => h) (Or.inl ⟨by rfl, ?h0⟩) trivial ?_
                case h0 => intro wq _; go_simp; with_reducible rfl
                refine wpAnyH_take (i := 1) (v := ?v1) rfl (by kernel_rfl) (by kernel_rfl) (by kernel_rfl) (fun _ _ _ h => h) (Or.inl ⟨by rfl, ?h1⟩) trivial ?_
                case h1 => intro wq _; go_simp; with_reducible rfl
                refine wpAnyH_take (i := 2) (v := ?v2) rfl (by kernel_rfl) (by kernel_rfl) (by kernel_rfl) (fun _ _ _ h => h) (Or.inl ⟨by rfl, ?h2⟩) trivial ?_
                case h2 => intro wq _; go_simp; with_reducible rfl
                refine wpAnyH_take (i := 3) (v := ?v3) rfl (by kernel_rfl) (by kernel_rfl) (by kernel_rfl) (fun _ _ _ h => h) (Or.inl ⟨by rfl, ?h3⟩) trivial ?_
                case h3 => intro wq _; go_simp; with_reducible rfl
                refine wpAnyH_take (i := 4) (v := ?v4) rfl (by kernel_rfl) (by kernel_rfl) (by kernel_rfl) (fun _ _ _ h => h) (Or.inl ⟨by rfl, ?h4⟩) trivial ?_
                case h4 => intro wq _; go_simp; with_reducible rfl
                refine wpAnyH_take (i := 5) (v := ?v5) rfl (by kernel_rfl) (by kernel_rfl) (by kernel_rfl) (fun _ _ _ h => h) (Or.inl ⟨by rfl, ?h5⟩) trivial ?_
                case h5 => intro wq _; go_simp; with_reducible rfl
                refine wpAnyH_take (i := 6) (v := ?v6) rfl (by kernel_rfl) (by kernel_rfl) (by kernel_rfl) (fun _ _ _ h => h) (Or.inl ⟨by rfl, ?h6⟩) trivial ?_
                case h6 => intro wq _; go_simp; with_reducible rfl
                refine wpAnyH_take (i := 7) (v := ?v7) rfl (by kernel_rfl) (by kernel_rfl) (by kernel_rfl) (fun _ _ _ h => h) (Or.inl ⟨by rfl, ?h7⟩) trivial ?_
                case h7 => intro wq _; go_simp; with_reducible rfl
                refine wpAnyH_take (i := 8) (v := ?v8) rfl (by kernel_rfl) (by kernel_rfl) (by kernel_rfl) (fun _ _ _ h => h) (Or.inl ⟨by rfl, ?h8⟩) trivial ?_
                case h8 => intro wq _; go_simp; with_reducible rfl
                refine wpAnyH_take (i := 9) (v := ?v9) rfl (by kernel_rfl) (by kernel_rfl) (by kernel_rfl) (fun _ _ _ h => h) (Or.inl ⟨by rfl, ?h9⟩) trivial ?_
                case h9 => intro wq _; go_simp; with_reducible rfl
                refine wpAnyH_ready (rs := [10]) (by kernel_rfl) (by simp) ?_
                refine AllReadyH.cons rfl (fun K hK => ?_) AllReadyH.nil
                go_simp
                have hc0 := hcall 0 hBnil
                rw [Nat.sub_self] at hc0
                refine hc0.mono ?_
                rintro e w10 ⟨v, rfl, hvo, hB10⟩
                refine hK.out _ _ trivial (fun _ => ?_)
                clear hK K
                obtain ⟨vg, vc, rfl⟩ : ∃ vg vc, v = .slice (some ⟨vg, 0, none⟩) (fin - f) vc := by
                  rcases hvo.2 with ⟨_, h0⟩ | ⟨vg, vc, _, e1, _⟩
                  · omega
                  · exact ⟨vg, vc, by rw [e1]⟩
                have hoo2 := hoo.kept (w' := w10) (row := none) ⟨hB10.os, hB10.tape, hB10.output, hB10.size, fun k hk _ => hB10.block k hk⟩ (by cases u6.ownBlock <;> simp)
                have hB10' : Below wo.heap.size wo w10 := hBo.drew.trans (hB10.mono hzq)
                have hvAt : At w10 vg 0 M := by
                  intro j x hj
                  have hjl : j < fin - f := by
                    have := (List.getElem?_eq_some_iff.1 hj).1
                    rw [hMl] at this; omega
                  rw [Nat.zero_add, hvo.cellAt j (by omega)]
                  unfold vals
                  rw [List.getElem?_map, hj]; rfl
                refine wpAnyH_ready (rs := [11]) (by kernel_rfl) (by simp) ?_
                refine AllReadyH.cons rfl (fun K hK => ?_) AllReadyH.nil
                rw [if_pos (by rfl)]
                refine wp_append_own w10 (.tmp 51) (.tmp 61) 30 rfl wo.heap.size 3 i0 (.int .i64 0) 1 8 Tryz.underlying30 hi hz0 hz1 hz2 rfl (by decide) u6 out.length (vals out) rfl hoo2 ⟨vg, 0, none⟩ (fin - f) vc (vals M) rfl (by simp [vals, hMl]) hvAt.vals (vals_one _) (by unfold maxLen; omega) (by omega) hB10'.size ?_
                intro v2 w11 hown2 hgrow2 _
                refine hK.out _ _ trivial (fun _ => ?_)
                clear hK K
                refine wpAnyH_take (i := 12) (v := ?v12) rfl (by kernel_rfl) (by kernel_rfl) (by kernel_rfl) (fun _ _ _ h => h) (Or.inl ⟨by rfl, ?h12⟩) trivial ?_
                case h12 => intro wq _; go_simp; with_reducible rfl
                refine wpAnyH_done (by kernel_rfl) ?_ _
                have hB11 : Below wo.heap.size wo w11 := hB10'.grown hgrow2 hB10'.size (fun k hk => (hoo2.lt k hk).1)
                have hown3 : w11.ownsRow wo.heap.size 3 1 v2 (out ++ M).length (vals (out ++ M)) := by
                  have e1 : (out ++ M).length = out.length + (fin - f) := by rw [hstep.1]; omega
                  have e2 : vals (out ++ M) = vals out ++ vals M := by simp [vals]
                  rw [e1, e2]; exact hown2
                clear hown2 hgrow2 hvAt hoo2 hvo hoo
                obtain ⟨hn1, hn2⟩ := Hnxt.out
                go_wp2
                refine ⟨?relA, ?meaA⟩
                case relA =>
                  repeat apply Exists.intro
                  exact ⟨⟨q + 1, out ++ M, by rw [hn2], by omega, by rw [hn1]; exact hstep.1, by rw [hn1]; exact hstep.2.1, hstep.2.2, hown3, hB11⟩, frame_eq (by
                    repeat (first | refine cons_eq rfl ?_ | refine cons_eq (congrArg Value.bool (decide_eq_true (by assumption)).symm) ?_)
                    rfl)⟩
                case meaA => simp [intOf]; omega
              · refine wp_region_held_drew (S := fun _ => True) (by kernel_rfl) trivial (fun _ => ?_)
                refine wpAnyH_take (i := 0) (v := ?vb0) rfl (by kernel_rfl) (by kernel_rfl) (by kernel_rfl) (fun _ _ _ h => h) (Or.inl ⟨by rfl, ?hb0⟩) trivial ?_
                case hb0 => intro wq _; go_simp; with_reducible rfl
                refine wpAnyH_take (i := 1) (v := ?vb1) rfl (by kernel_rfl) (by kernel_rfl) (by kernel_rfl) (fun _ _ _ h => h) (Or.inl ⟨by rfl, ?hb1⟩) trivial ?_
                case hb1 => intro wq _; go_simp; with_reducible rfl
                refine wpAnyH_take (i := 2) (v := ?vb2) rfl (by kernel_rfl) (by kernel_rfl) (by kernel_rfl) (fun _ _ _ h => h) (Or.inl ⟨by rfl, ?hb2⟩) trivial ?_
                case hb2 => intro wq _; go_simp; with_reducible rfl
                refine wpAnyH_take (i := 3) (v := ?vb3) rfl (by kernel_rfl) (by kernel_rfl) (by kernel_rfl) (fun _ _ _ h => h) (Or.inl ⟨by rfl, ?hb3⟩) trivial ?_
                case hb3 => intro wq _; go_simp; with_reducible rfl
                refine wpAnyH_take (i := 4) (v := ?vb4) rfl (by kernel_rfl) (by kernel_rfl) (by kernel_rfl) (fun _ _ _ h => h) (Or.inl ⟨by rfl, ?hb4⟩) trivial ?_
                case hb4 => intro wq _; go_simp; with_reducible rfl
                refine wpAnyH_take (i := 5) (v := ?vb5) rfl (by kernel_rfl) (by kernel_rfl) (by kernel_rfl) (fun _ _ _ h => h) (Or.inl ⟨by rfl, ?hb5⟩) trivial ?_
                case hb5 => intro wq _; go_simp; with_reducible rfl
                refine wpAnyH_take (i := 6) (v := ?vb6) rfl (by kernel_rfl) (by kernel_rfl) (by kernel_rfl) (fun _ _ _ h => h) (Or.inl ⟨by rfl, ?hb6⟩) trivial ?_
                case hb6 => intro wq _; go_simp; with_reducible rfl
                refine wpAnyH_take (i := 7) (v := ?vb7) rfl (by kernel_rfl) (by kernel_rfl) (by kernel_rfl) (fun _ _ _ h => h) (Or.inl ⟨by rfl, ?hb7⟩) trivial ?_
                case hb7 => intro wq _; go_simp; with_reducible rfl
                refine wpAnyH_take (i := 8) (v := ?vb8) rfl (by kernel_rfl) (by kernel_rfl) (by kernel_rfl) (fun _ _ _ h => h) (Or.inl ⟨by rfl, ?hb8⟩) trivial ?_
                case hb8 => intro wq _; go_simp; with_reducible rfl
                refine wpAnyH_take (i := 9) (v := ?vb9) rfl (by kernel_rfl) (by kernel_rfl) (by kernel_rfl) (fun _ _ _ h => h) (Or.inl ⟨by rfl, ?hb9⟩) trivial ?_
                case hb9 => intro wq _; go_simp; with_reducible rfl
                refine wpAnyH_ready (rs := [10]) (by kernel_rfl) (by simp) ?_
                refine AllReadyH.cons rfl (fun K hK => ?_) AllReadyH.nil
                go_simp
                refine (hcall mid hBat).mono ?_
                rintro e w10 ⟨v, rfl, hvo, hB10⟩
                refine hK.out _ _ trivial (fun _ => ?_)
                clear hK K
                obtain ⟨vg, vc, rfl⟩ : ∃ vg vc, v = .slice (some ⟨vg, 0, none⟩) (fin - f) vc := by
                  rcases hvo.2 with ⟨_, h0⟩ | ⟨vg, vc, _, e1, _⟩
                  · omega
                  · exact ⟨vg, vc, by rw [e1]⟩
                have hoo2 := hoo.kept (w' := w10) (row := none) ⟨hB10.os, hB10.tape, hB10.output, hB10.size, fun k hk _ => hB10.block k hk⟩ (by cases u6.ownBlock <;> simp)
                have hB10' : Below wo.heap.size wo w10 := hBo.drew.trans (hB10.mono hzq)
                have hvAt : At w10 vg 0 M := by
                  intro j x hj
                  have hjl : j < fin - f := by
                    have := (List.getElem?_eq_some_iff.1 hj).1
                    rw [hMl] at this; omega
                  rw [Nat.zero_add, hvo.cellAt j (by omega)]
                  unfold vals
                  rw [List.getElem?_map, hj]; rfl
                refine wpAnyH_ready (rs := [11]) (by kernel_rfl) (by simp) ?_
                refine AllReadyH.cons rfl (fun K hK => ?_) AllReadyH.nil
                rw [if_pos (by rfl)]
                refine wp_append_own w10 (.tmp 51) (.tmp 61) 30 rfl wo.heap.size 3 i0 (.int .i64 0) 1 8 Tryz.underlying30 hi hz0 hz1 hz2 rfl (by decide) u6 out.length (vals out) rfl hoo2 ⟨vg, 0, none⟩ (fin - f) vc (vals M) rfl (by simp [vals, hMl]) hvAt.vals (vals_one _) (by unfold maxLen; omega) (by omega) hB10'.size ?_
                intro v2 w11 hown2 hgrow2 _
                refine hK.out _ _ trivial (fun _ => ?_)
                clear hK K
                refine wpAnyH_take (i := 12) (v := ?vb12) rfl (by kernel_rfl) (by kernel_rfl) (by kernel_rfl) (fun _ _ _ h => h) (Or.inl ⟨by rfl, ?hb12⟩) trivial ?_
                case hb12 => intro wq _; go_simp; with_reducible rfl
                refine wpAnyH_done (by kernel_rfl) ?_ _
                have hB11 : Below wo.heap.size wo w11 := hB10'.grown hgrow2 hB10'.size (fun k hk => (hoo2.lt k hk).1)
                have hown3 : w11.ownsRow wo.heap.size 3 1 v2 (out ++ M).length (vals (out ++ M)) := by
                  have e1 : (out ++ M).length = out.length + (fin - f) := by rw [hstep.1]; omega
                  have e2 : vals (out ++ M) = vals out ++ vals M := by simp [vals]
                  rw [e1, e2]; exact hown2
                clear hown2 hgrow2 hvAt hoo2 hvo hoo
                obtain ⟨hn1, hn2⟩ := Hnxt.out
                go_wp2
                refine ⟨?relB, ?meaB⟩
                case relB =>
                  repeat apply Exists.intro
                  exact ⟨⟨q + 1, out ++ M, by rw [hn2], by omega, by rw [hn1]; exact hstep.1, by rw [hn1]; exact hstep.2.1, hstep.2.2, hown3, hB11⟩, frame_eq (by
                    repeat (first | refine cons_eq rfl ?_ | refine cons_eq (congrArg Value.bool (decide_eq_true (by assumption)).symm) ?_)
                    rfl)⟩
                case meaB => simp [intOf]; omega
            · have hmin : min (2 * size * q) (s.size + 1) = s.size + 1 := by omega
              rw [hmin] at hol hop
              rw [List.take_of_length_le (by omega)] at hop
              rw [hol] at hoo
              have hoo' := hoo.mono hzo
              have hfi : ¬ ((2 * size * q : Nat) : Int) < (s.size : Int) + 1 := by omega
              clear hmin
              generalize 2 * size * q = f at *
              go_wp2
              have e2 : (intOf (Value.int IntKind.i64 (2 * (size : Int)))).toNat = 2 * size := by simp only [intOf]; omega
              have e1 : (intOf (Value.int IntKind.i64 (size : Int))).toNat = size := by simp only [intOf]; omega
              exact ⟨⟨out, 2 * size, by go_num, by omega, by omega, hol, hop.trans hlp, hor, hoo', hBl.trans (hBo.mono hzo)⟩, by rw [e2, e1]; omega⟩
        · have hfin := sorted_eq s hll hle hlr (by omega)
          rw [hfin] at hown
          clear hfin
          go_wp2
          go_ret
          exact ⟨_, rfl, hown, hBl⟩

end Go.Proofs.YtopihgmemnokkaaGreat
