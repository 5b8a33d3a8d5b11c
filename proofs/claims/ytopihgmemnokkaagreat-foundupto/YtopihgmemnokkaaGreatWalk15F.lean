import Derived.Test.YtopihgmemnokkaaGreatWalk7F
import Derived.Test.YtopihgmemnokkaaGreatAppF
import Derived.Test.YtopihgmemnokkaaGreatEndsF
import Derived.Deep.RegionHeld
import Derived.Deep.Onto
namespace Go.Proofs.YtopihgmemnokkaaGreat
open Go.RowKit

/-- the cells from an address on hold these places -/
def At (w : World) (b o : Nat) (A : List Nat) : Prop := ∀ j x, A[j]? = some x → w.cell? ⟨b, o + j, none⟩ = some (.int .i64 (x : Nat))

theorem At.below {w w' : World} {b o B : Nat} {A : List Nat} (h : At w b o A) (hb : Below B w w') (hlt : b < B) : At w' b o A := fun j x hj =>
  (hb.cell (p := ⟨b, o + j, none⟩) hlt).trans (h j x hj)
theorem At.head {w : World} {b o x : Nat} {A : List Nat} (h : At w b o (x :: A)) : w.cell? ⟨b, o, none⟩ = some (.int .i64 (x : Nat)) := h 0 x rfl
theorem At.tail {w : World} {b o x : Nat} {A : List Nat} (h : At w b o (x :: A)) : At w b (o + 1) A := fun j y hj => by
  have := h (j + 1) y (by simpa using hj)
  rw [show o + 1 + j = o + (j + 1) from by omega]; exact this
theorem At.nil (w : World) (b o : Nat) : At w b o [] := fun j x hj => by simp at hj

def vals (l : List Nat) : List Value := l.map fun i => Value.int .i64 (i : Nat)

theorem vals_one (l : List Nat) : ∀ u ∈ vals l, u.oneCell' = true := by
  intro u hu
  unfold vals at hu
  rw [List.mem_map] at hu
  obtain ⟨x, _, rfl⟩ := hu
  rfl
theorem At.vals {w : World} {b o : Nat} {A : List Nat} (h : At w b o A) : ∀ j u, (Go.Proofs.YtopihgmemnokkaaGreat.vals A)[j]? = some u → w.cell? ((⟨b, o, none⟩ : Addr).add j) = some u := by
  intro j u hj
  unfold Go.Proofs.YtopihgmemnokkaaGreat.vals at hj
  rw [List.getElem?_map] at hj
  cases hx : A[j]? with
  | none => rw [hx] at hj; cases hj
  | some x =>
    rw [hx] at hj
    have hu : u = .int .i64 (x : Nat) := by simpa using hj.symm
    subst hu
    have := h j x hx
    unfold Addr.add
    split
    · rename_i e; subst e; simpa using this
    · exact this

theorem slLen_slice (a : Option Addr) (n c : Nat) : slLen (.slice a n c) = n := rfl

/-- what the merging has done: O is laid, A and B are left -/
structure Mg (s : ByteArray) (w : World) (A0 B0 A B O : List Nat) (v : Value) (wr : World) : Prop where
  all : Cc.mrg (before s) A0 B0 = O ++ Cc.mrg (before s) A B
  own : wr.ownsRow w.heap.size 3 1 v O.length (vals O)
  bl : Below w.heap.size w wr

theorem vals_snoc (O : List Nat) (x : Nat) : vals (O ++ [x]) = vals O ++ [.int .i64 (x : Nat)] := by simp [vals]

theorem Mg.drewN {s : ByteArray} {w : World} {A0 B0 A B O : List Nat} {v : Value} {wr : World} (M : Mg s w A0 B0 A B O v wr) (n : Nat) : Mg s w A0 B0 A B O v (wr.drewN n) := ⟨M.all, M.own, below_drewN M.bl n⟩

theorem Mg.left {s : ByteArray} {w : World} {A0 B0 A B O : List Nat} {x y : Nat} {v v' : Value} {wr w1 : World} (M : Mg s w A0 B0 (x :: A) (y :: B) O v wr) (h : before s y x = false) (o : Obj) (hwb : w.heap.size ≤ wr.heap.size)
    (hown : w1.ownsRow w.heap.size 3 1 v' (O.length + 1) (vals O ++ [.int .i64 (x : Nat)])) (hg : (wr.alloc o).grownBy w1 v.ownBlock) : Mg s w A0 B0 A (y :: B) (O ++ [x]) v' w1 := by
  refine ⟨?_, ?_, (M.bl.alloc hwb o).grown hg (by simp; omega) (fun k hk => (M.own.lt k hk).1)⟩
  · rw [M.all, Cc.mrg_cons, if_pos h]; simp
  · rw [vals_snoc, List.length_append, List.length_singleton]; exact hown
theorem Mg.right {s : ByteArray} {w : World} {A0 B0 A B O : List Nat} {x y : Nat} {v v' : Value} {wr w1 : World} (M : Mg s w A0 B0 (x :: A) (y :: B) O v wr) (h : before s y x = true) (o : Obj) (hwb : w.heap.size ≤ wr.heap.size)
    (hown : w1.ownsRow w.heap.size 3 1 v' (O.length + 1) (vals O ++ [.int .i64 (y : Nat)])) (hg : (wr.alloc o).grownBy w1 v.ownBlock) : Mg s w A0 B0 (x :: A) B (O ++ [y]) v' w1 := by
  refine ⟨?_, ?_, (M.bl.alloc hwb o).grown hg (by simp; omega) (fun k hk => (M.own.lt k hk).1)⟩
  · rw [M.all, Cc.mrg_cons, if_neg (by rw [h]; simp)]; simp
  · rw [vals_snoc, List.length_append, List.length_singleton]; exact hown

set_option maxRecDepth 100000 in
set_option maxHeartbeats 2000000 in
theorem merged_any (s : ByteArray) (ab ao ac bb bo bc : Nat) (A0 B0 : List Nat) (w : World) (hA : At w ab ao A0) (hB : At w bb bo B0) (hab : ab < w.heap.size) (hbb : bb < w.heap.size)
    (hac : A0.length ≤ ac) (hbc : B0.length ≤ bc) (hA9 : A0.length ≤ 2000) (hB9 : B0.length ≤ 2000) (hlA : ∀ x, x ∈ A0 → x ≤ s.size) (hlB : ∀ x, x ∈ B0 → x ≤ s.size) (hdis : ∀ x, x ∈ A0 → ∀ y, y ∈ B0 → x ≠ y) :
    Calls Tryz.prog 135 #[.string s, .slice (some ⟨ab, ao, none⟩) A0.length ac, .slice (some ⟨bb, bo, none⟩) B0.length bc] w fun e w' =>
      ∃ v, e = .returned v ∧ w'.ownsRow w.heap.size 3 1 v (A0.length + B0.length) (vals (Cc.mrg (before s) A0 B0)) ∧ Below w.heap.size w w' := by
  obtain ⟨i0, hi, hz0, hz1, hz2⟩ := info_parts Tryz.info3
  have hlen := Cc.mrg_length (before s) A0 B0
  go_enter Tryz.func135, Tryz.ntmps135
  go_wp2
  go_loopw [1, 2, 7] (fun va vb v wr => ∃ (A B O : List Nat) (ao' ac' bo' bc' : Nat), va = .slice (some ⟨ab, ao', none⟩) A.length ac' ∧ vb = .slice (some ⟨bb, bo', none⟩) B.length bc' ∧ At w ab ao' A ∧ At w bb bo' B ∧ A.length ≤ ac' ∧ B.length ≤ bc' ∧
    (∀ x, x ∈ A → x ∈ A0) ∧ (∀ x, x ∈ B → x ∈ B0) ∧ A.length ≤ A0.length ∧ B.length ≤ B0.length ∧ Mg s w A0 B0 A B O v wr) (fun va vb _ _ => slLen va + slLen vb)
  case atStart => exact ⟨A0, B0, [], ao, ac, bo, bc, rfl, rfl, hA, hB, hac, hbc, fun _ h => h, fun _ h => h, Nat.le_refl _, Nat.le_refl _, rfl, World.ownsRow_nil _ _ _ _, Below.refl _ _⟩
  case round =>
    obtain ⟨A, B, O, ao', ac', bo', bc', rfl, rfl, hA', hB', hac', hbc', hsA, hsB, hlA', hlB', M⟩ := hrel
    have hwb := M.bl.size
    have hol : O.length ≤ 200000 := by
      have := congrArg List.length M.all
      rw [List.length_append, hlen] at this; omega
    by_cases hboth : A ≠ [] ∧ B ≠ []
    · obtain ⟨x, A, rfl⟩ : ∃ x A', A = x :: A' := by
        cases A with
        | nil => exact absurd rfl hboth.1
        | cons x A => exact ⟨x, A, rfl⟩
      obtain ⟨y, B, rfl⟩ : ∃ y B', B = y :: B' := by
        cases B with
        | nil => exact absurd rfl hboth.2
        | cons y B => exact ⟨y, B, rfl⟩
      clear hboth
      have cx := (M.bl.cell (p := ⟨ab, ao', none⟩) hab).trans hA'.head
      have cy := (M.bl.cell (p := ⟨bb, bo', none⟩) hbb).trans hB'.head
      have hx := hlA x (hsA x (by simp))
      have hy := hlB y (hsB y (by simp))
      have hne := hdis x (hsA x (by simp)) y (hsB y (by simp))
      have hx1 : (x : Int) ≤ (s.size : Int) := by omega
      have hy1 : (y : Int) ≤ (s.size : Int) := by omega
      have hsA2 : ∀ z, z ∈ A → z ∈ A0 := fun z hz => hsA z (by simp [hz])
      have hsB2 : ∀ z, z ∈ B → z ∈ B0 := fun z hz => hsB z (by simp [hz])
      have hA2 := hA'.tail
      have hB2 := hB'.tail
      simp only [List.length_cons] at *
      cases hxy : before s y x
      · have hlt : Op.bytesLess (s.extract x s.size).toList (s.extract y s.size).toList = true := by
          rw [toList_extract, toList_extract]
          rcases (ord s).tri x y hx hy hne with h | h
          · exact h
          · rw [hxy] at h; cases h
        have R0 := fun nq v' w1 => (M.drewN nq).left (v' := v') (w1 := w1) hxy (Obj.cells #[Value.int IntKind.i64 x] 3) hwb
        clear hxy
        go_wp2_with fail
        go_quiet (fail)
        have R := R0 nq
        clear R0
        by_cases hc : ac' = 1
        · have hAe : A = [] := List.length_eq_zero_iff.1 (by omega)
          subst hAe
          subst hc
          go_wp2_with (at_builtin; refine wpList_append_own _ rfl _ _ 30 rfl w.heap.size 3 i0 (.int .i64 0) 1 8 Tryz.underlying30 hi hz0 hz1 hz2 rfl (by decide) _ _ _ rfl ((M.drewN nq).own.alloc _) ⟨wr.heap.size, 0, none⟩ 1 1 [.int .i64 (x : Int)] rfl rfl ?c1 ?c2 ?c3 ?c4 ?c5 ?_)
          case c1 => exact cell_one_new _ _ _
          case c2 => intro u hu; simp at hu; subst hu; rfl
          case c3 => unfold maxLen; omega
          case c4 => omega
          case c5 => simp; omega
          intro v' w2 hown hgrow _
          have R1 := R v' w2 hown hgrow
          clear R hown hgrow
          go_wp2
          exact ⟨⟨[], y :: B, O ++ [x], ao', 0, bo', bc', rfl, rfl, At.nil _ _ _, hB', by simp, by simp; omega, fun z hz => by simp at hz, hsB, by simp, by simp; omega, R1⟩, by simp [slLen_slice]⟩
        · go_wp2_with (at_builtin; refine wpList_append_own _ rfl _ _ 30 rfl w.heap.size 3 i0 (.int .i64 0) 1 8 Tryz.underlying30 hi hz0 hz1 hz2 rfl (by decide) _ _ _ rfl ((M.drewN nq).own.alloc _) ⟨wr.heap.size, 0, none⟩ 1 1 [.int .i64 (x : Int)] rfl rfl ?c1 ?c2 ?c3 ?c4 ?c5 ?_)
          case c1 => exact cell_one_new _ _ _
          case c2 => intro u hu; simp at hu; subst hu; rfl
          case c3 => unfold maxLen; omega
          case c4 => omega
          case c5 => simp; omega
          intro v' w2 hown hgrow _
          have R1 := R v' w2 hown hgrow
          clear R hown hgrow
          go_wp2
          exact ⟨⟨A, y :: B, O ++ [x], ao' + 1, ac' - 1, bo', bc', rfl, rfl, hA2, hB', by omega, by simp; omega, hsA2, hsB, by omega, by simp; omega, R1⟩, by simp [slLen_slice]⟩
      · have hlt : Op.bytesLess (s.extract x s.size).toList (s.extract y s.size).toList = false := by
          rw [toList_extract, toList_extract]
          exact (ord s).asym hxy
        have R0 := fun nq v' w1 => (M.drewN nq).right (v' := v') (w1 := w1) hxy (Obj.cells #[Value.int IntKind.i64 y] 3) hwb
        clear hxy
        go_wp2_with fail
        go_quiet (fail)
        have R := R0 nq
        clear R0
        by_cases hc : bc' = 1
        · have hBe : B = [] := List.length_eq_zero_iff.1 (by omega)
          subst hBe
          subst hc
          go_wp2_with (at_builtin; refine wpList_append_own _ rfl _ _ 30 rfl w.heap.size 3 i0 (.int .i64 0) 1 8 Tryz.underlying30 hi hz0 hz1 hz2 rfl (by decide) _ _ _ rfl ((M.drewN nq).own.alloc _) ⟨wr.heap.size, 0, none⟩ 1 1 [.int .i64 (y : Int)] rfl rfl ?c1 ?c2 ?c3 ?c4 ?c5 ?_)
          case c1 => exact cell_one_new _ _ _
          case c2 => intro u hu; simp at hu; subst hu; rfl
          case c3 => unfold maxLen; omega
          case c4 => omega
          case c5 => simp; omega
          intro v' w2 hown hgrow _
          have R1 := R v' w2 hown hgrow
          clear R hown hgrow
          go_wp2
          exact ⟨⟨x :: A, [], O ++ [y], ao', ac', bo', 0, rfl, rfl, hA', At.nil _ _ _, by simp; omega, by simp, hsA, fun z hz => by simp at hz, by simp; omega, by simp, R1⟩, by simp [slLen_slice]⟩
        · go_wp2_with (at_builtin; refine wpList_append_own _ rfl _ _ 30 rfl w.heap.size 3 i0 (.int .i64 0) 1 8 Tryz.underlying30 hi hz0 hz1 hz2 rfl (by decide) _ _ _ rfl ((M.drewN nq).own.alloc _) ⟨wr.heap.size, 0, none⟩ 1 1 [.int .i64 (y : Int)] rfl rfl ?c1 ?c2 ?c3 ?c4 ?c5 ?_)
          case c1 => exact cell_one_new _ _ _
          case c2 => intro u hu; simp at hu; subst hu; rfl
          case c3 => unfold maxLen; omega
          case c4 => omega
          case c5 => simp; omega
          intro v' w2 hown hgrow _
          have R1 := R v' w2 hown hgrow
          clear R hown hgrow
          go_wp2
          exact ⟨⟨x :: A, B, O ++ [y], ao', ac', bo' + 1, bc' - 1, rfl, rfl, hA', hB2, by simp; omega, by omega, hsA, hsB2, by simp; omega, by omega, R1⟩, by simp [slLen_slice]⟩
    · have hmg : Cc.mrg (before s) A B = A ++ B := by
        cases A with
        | nil => rw [Cc.mrg_nil_left]; rfl
        | cons x A =>
          cases B with
          | nil => rw [Cc.mrg_nil_right]; simp
          | cons y B => exact absurd ⟨by simp, by simp⟩ hboth
      have hall := M.all
      rw [hmg] at hall
      have hAr : At wr ab ao' A := hA'.below M.bl hab
      have hfin : ∀ (v' : Value) (w2 : World), w2.ownsRow w.heap.size 3 1 v' (O.length + A.length + B.length) (vals O ++ vals A ++ vals B) → w2.ownsRow w.heap.size 3 1 v' (A0.length + B0.length) (vals (Cc.mrg (before s) A0 B0)) := by
        intro v' w2 h
        have e1 : vals (Cc.mrg (before s) A0 B0) = vals O ++ vals A ++ vals B := by rw [hall]; simp [vals]
        have e2 : A0.length + B0.length = O.length + A.length + B.length := by rw [← hlen, hall]; simp; omega
        rw [e1, e2]; exact h
      clear hall hmg hlen
      have hbd : (O.length + A.length + B.length) * 8 ≤ 140737488355328 := by omega
      by_cases hAe : A = []
      · subst hAe
        clear hboth
        go_wp2_with (at_builtin; refine wpList_append_own _ rfl _ _ 30 rfl w.heap.size 3 i0 (.int .i64 0) 1 8 Tryz.underlying30 hi hz0 hz1 hz2 rfl (by decide) _ _ _ rfl M.own ⟨ab, ao', none⟩ 0 ac' (vals []) rfl rfl hAr.vals (vals_one _) ?c3 ?c4 hwb ?_)
        case c3 => unfold maxLen; omega
        case c4 => omega
        intro v1 w1 hown1 hgrow1 _
        have hb1 : Below w.heap.size w w1 := M.bl.grown hgrow1 hwb (fun k hk => (M.own.lt k hk).1)
        have hz1' := hb1.size
        have hBr : At w1 bb bo' B := hB'.below hb1 hbb
        go_wp2_with (at_builtin; refine wpList_append_own _ rfl _ _ 30 rfl w.heap.size 3 i0 (.int .i64 0) 1 8 Tryz.underlying30 hi hz0 hz1 hz2 rfl (by decide) _ _ _ rfl hown1 ⟨bb, bo', none⟩ B.length bc' (vals B) rfl (by simp [vals]) hBr.vals (vals_one _) ?c3 ?c4 hz1' ?_)
        case c3 => unfold maxLen; omega
        case c4 => omega
        intro v2 w2 hown2 hgrow2 _
        have hb2 : Below w.heap.size w w2 := hb1.grown hgrow2 hz1' (fun k hk => (hown1.lt k hk).1)
        have R := hfin v2 w2 (by simpa [List.append_assoc] using hown2)
        clear hown1 hown2 hgrow1 hgrow2 hfin
        go_wp2
        go_ret
        exact ⟨v2, rfl, R, hb2⟩
      · have hBe : B = [] := by
          cases B with
          | nil => rfl
          | cons y B => exact absurd ⟨hAe, by simp⟩ hboth
        subst hBe
        clear hboth
        have hAl : (0 : Int) < (A.length : Int) := by
          cases A with
          | nil => exact absurd rfl hAe
          | cons x A => simp
        clear hAe
        go_wp2_with (at_builtin; refine wpList_append_own _ rfl _ _ 30 rfl w.heap.size 3 i0 (.int .i64 0) 1 8 Tryz.underlying30 hi hz0 hz1 hz2 rfl (by decide) _ _ _ rfl M.own ⟨ab, ao', none⟩ A.length ac' (vals A) rfl (by simp [vals]) hAr.vals (vals_one _) ?c3 ?c4 hwb ?_)
        case c3 => unfold maxLen; omega
        case c4 => simpa using hbd
        intro v1 w1 hown1 hgrow1 _
        have hb1 : Below w.heap.size w w1 := M.bl.grown hgrow1 hwb (fun k hk => (M.own.lt k hk).1)
        have hz1' := hb1.size
        have hBr : At w1 bb bo' [] := At.nil _ _ _
        go_wp2_with (at_builtin; refine wpList_append_own _ rfl _ _ 30 rfl w.heap.size 3 i0 (.int .i64 0) 1 8 Tryz.underlying30 hi hz0 hz1 hz2 rfl (by decide) _ _ _ rfl hown1 ⟨bb, bo', none⟩ 0 bc' (vals []) rfl rfl hBr.vals (vals_one _) ?c3 ?c4 hz1' ?_)
        case c3 => unfold maxLen; omega
        case c4 => simpa using hbd
        intro v2 w2 hown2 hgrow2 _
        have hb2 : Below w.heap.size w w2 := hb1.grown hgrow2 hz1' (fun k hk => (hown1.lt k hk).1)
        have R := hfin v2 w2 (by simpa [List.append_assoc] using hown2)
        clear hown1 hown2 hgrow1 hgrow2 hfin
        go_wp2
        go_ret
        exact ⟨v2, rfl, R, hb2⟩

end Go.Proofs.YtopihgmemnokkaaGreat

namespace Go.Proofs.YtopihgmemnokkaaGreat
open Go.RowKit

set_option maxHeartbeats 400000 in
theorem least_any (a b : Nat) (w : World) :
    Calls Tryz.prog 134 #[.int .i64 (a : Nat), .int .i64 (b : Nat)] w fun e w' => e = .returned (.int .i64 ((min a b : Nat) : Int)) ∧ w' = w := by
  by_cases h : a < b
  · go_enter Tryz.func134, Tryz.ntmps134
    go_wp2
    go_ret
    exact ⟨ret_int (by omega), rfl⟩
  · go_enter Tryz.func134, Tryz.ntmps134
    go_wp2
    go_ret
    exact ⟨ret_int (by omega), rfl⟩

theorem ownsRow_of_row {w : World} {b base m : Nat} {f : Nat → Nat} (h : Row w b 3 m f) (hb : base ≤ b) (hm : m ≤ maxLen) : w.ownsRow base 3 1 (.slice (some ⟨b, 0, none⟩) m m) m (vals ((List.range m).map f)) := by
  refine ⟨by simp [vals], .inr ⟨b, m, rowC m f, rfl, hb, h, Nat.le_refl _, hm, by rw [size_rowC, Nat.mul_one], ?_⟩⟩
  rw [Nat.mul_one, List.take_of_length_le (by simp [size_rowC])]
  simp [rowC, vals, Array.toList_map, Array.toList_range]

theorem at_of_own {w : World} {base g cap : Nat} {l : List Nat} (h : w.ownsRow base 3 1 (.slice (some ⟨g, 0, none⟩) l.length cap) l.length (vals l)) (f k : Nat) : At w g f ((l.drop f).take k) := by
  intro j x hj
  have hj1 : l[f + j]? = some x := by
    rw [List.getElem?_take] at hj
    split at hj
    · rw [List.getElem?_drop] at hj; exact hj
    · cases hj
  have hlt : f + j < l.length := (List.getElem?_eq_some_iff.1 hj1).1
  rw [h.cellAt (f + j) (by omega)]
  unfold vals
  rw [List.getElem?_map, hj1]; rfl

def sortedL (s : ByteArray) : List Nat := (List.range (s.size + 1)).map (placeOf s)

theorem sorted_eq (s : ByteArray) {l : List Nat} {size : Nat} (hl : l.length = s.size + 1) (hle : ∀ x, x ∈ l → x ≤ s.size) (hr : Cc.Runs (before s) size l) (hs : s.size + 1 ≤ size) : l = sortedL s := by
  apply List.ext_getElem
  · simp [sortedL, hl]
  · intro i h1 h2
    have := Cc.runs_done (ord s) hl hle hr hs h1
    simp only [sortedL, List.getElem_map, List.getElem_range]
    conv => rhs; rw [← this]
    rw [placeOf_rank s (hle _ (List.getElem_mem h1))]

theorem cons_eq {a b : Value} {l m : List Value} (h : a = b) (h2 : l = m) : a :: l = b :: m := by rw [h, h2]

theorem frame_eq {a b : List Value} (h : a = b) : ({ tmps := a.toArray, defers := [] } : Act) = { tmps := b.toArray, defers := [] } := by rw [h]

set_option maxRecDepth 100000 in
set_option maxHeartbeats 2000000 in
theorem refsorted_any (s : ByteArray) (w : World) (hs : s.size ≤ 1000) :
    Calls Tryz.prog 88 #[.string s] w fun e w' => ∃ v, e = .returned v ∧ w'.ownsRow w.heap.size 3 1 v (s.size + 1) (vals (sortedL s)) ∧ Below w.heap.size w w' := by
  obtain ⟨i0, hi, hz0, hz1, hz2⟩ := info_parts Tryz.info3
  have hmk := fun w => make_rows (s.size + 1) (by omega) w
  have ec : ((s.size + 1 : Nat) : Int) = (s.size : Int) + 1 := by omega
  simp only [ec] at hmk
  clear ec
  go_enter Tryz.func88, Tryz.ntmps88
  go_wp2
  go_loopw [4] (fun i wr => ∃ p : Nat, p ≤ s.size + 1 ∧ i = .int .i64 p ∧ Row wr w.heap.size 3 (s.size + 1) (fun j => if j < p then j else 0) ∧ Below w.heap.size w wr) (fun i _ => (s.size + 1) - (intOf i).toNat)
  case atStart => exact ⟨0, by omega, rfl, (Row.new w _ _ _).congr fun j _ => by simp, (Below.refl _ _).alloc (Nat.le_refl _) _⟩
  case round =>
    clear hmk
    obtain ⟨p, hp, rfl, hR, hBl⟩ := hrel
    by_cases hlt : p < s.size + 1
    · have c0 := hR.cell (i := p) hlt
      have f0 := hR.frozen p
      have hg := (hR.set p p).congr (g := fun j => if j < p + 1 then j else 0) fun j _ => by
        by_cases e : j = p
        · subst e; rw [Cc.put_same, if_pos (by omega)]
        · rw [Cc.put_other _ _ e]
          by_cases e2 : j < p
          · rw [if_pos e2, if_pos (by omega)]
          · rw [if_neg e2, if_neg (by omega)]
      go_wp2
      exact ⟨⟨p + 1, by omega, by go_num, hg, hBl.setCell (Nat.le_refl _) _⟩, by simp [intOf]; omega⟩
    · have hp' : p = s.size + 1 := by omega
      subst hp'
      have hown0 := ownsRow_of_row (base := w.heap.size) (hR.congr (g := fun j => j) fun j hj => by rw [if_pos hj]) (Nat.le_refl _) (by unfold maxLen; omega)
      go_wp2
      go_loopw [3, 5, 6, 7, 8, 9] (fun lv sz ov fr mi en wr => ∃ (l : List Nat) (size : Nat), sz = .int .i64 size ∧ 0 < size ∧ size ≤ 2 * (s.size + 1) ∧ l.length = s.size + 1 ∧ l.Perm (List.range (s.size + 1)) ∧ Cc.Runs (before s) size l ∧ wr.ownsRow w.heap.size 3 1 lv (s.size + 1) (vals l) ∧ Below w.heap.size w wr) (fun _ sz _ _ _ _ _ => 4 * (s.size + 1) - (intOf sz).toNat)
      case atStart => exact ⟨List.range (s.size + 1), 1, rfl, by omega, by omega, by simp, List.Perm.refl _, Cc.runs_one _, by simpa using hown0, hBl⟩
      case round =>
        clear hown0 hR hBl
        obtain ⟨l, size, rfl, hs0, hs1, hll, hlp, hlr, hown, hBl⟩ := hrel
        have hle : ∀ x, x ∈ l → x ≤ s.size := fun x hx => by have := hlp.mem_iff.1 hx; rw [List.mem_range] at this; omega
        have hnd : l.Nodup := by rw [hlp.nodup_iff]; exact List.nodup_range
        obtain ⟨g, cap, cur, rfl, hgb, hgl⟩ : ∃ g cap cur, u3 = .slice (some ⟨g, 0, none⟩) (s.size + 1) cap ∧ w.heap.size ≤ g ∧ (wr.heap[g]? = some (.cells cur 3 (0, 0)) ∧ s.size + 1 ≤ cap) := by
          rcases hown.2 with ⟨_, h0⟩ | ⟨g, cap, cur, e1, e2, e3, e4, _⟩
          · omega
          · exact ⟨g, cap, cur, e1, e2, e3, e4⟩
        obtain ⟨hgl, hcap⟩ := hgl
        have hgs : g < wr.heap.size := (Array.getElem?_eq_some_iff.1 hgl).1
        clear hgl
        by_cases hlt2 : size < s.size + 1
        · obtain ⟨wo, hwo⟩ : ∃ wo : World, wo = wr := ⟨_, rfl⟩
          subst hwo
          have hzo := hBl.size
          go_wp2
          go_loopw [6, 7, 8, 9] (fun ov fr mi en wq => ∃ (q : Nat) (out : List Nat), fr = .int .i64 ((2 * size * q : Nat) : Int) ∧ 2 * size * q ≤ 6 * (s.size + 1) ∧ out.length = min (2 * size * q) (s.size + 1) ∧ out.Perm (l.take (min (2 * size * q) (s.size + 1))) ∧ Cc.Runs (before s) (2 * size) out ∧
            wq.ownsRow wo.heap.size 3 1 ov out.length (vals out) ∧ Below wo.heap.size wo wq) (fun _ fr _ _ _ => 6 * (s.size + 1) - (intOf fr).toNat)
          case atStart =>
            refine ⟨0, [], rfl, by omega, by simp, by simp, ?_, World.ownsRow_nil _ _ _ _, Below.refl _ _⟩
            intro i j hi; simp at hi
          case round =>
            obtain ⟨q, out, rfl, hq6, hol, hop, hor, hoo, hBo⟩ := hrel
            have hzq := hBo.size
            by_cases hf : 2 * size * q < s.size + 1
            · have hmin : min (2 * size * q) (s.size + 1) = 2 * size * q := by omega
              rw [hmin] at hol hop
              clear hmin
              have hstep := Cc.runs_step (ord s) hs0 hle hnd hlr (by omega) hol hop hor (min (2 * size * q + size) (s.size + 1)) (min (2 * size * q + 2 * size) (s.size + 1)) (by rw [hll]) (by rw [hll])
              have hnxt : min (2 * size * (q + 1)) (s.size + 1) = min (2 * size * q + 2 * size) (s.size + 1) := by rw [Nat.mul_add, Nat.mul_one]
              have hnx2 : 2 * size * (q + 1) = 2 * size * q + 2 * size := by rw [Nat.mul_add, Nat.mul_one]
              have Hnxt : Hid (min (2 * size * (q + 1)) (s.size + 1) = min (2 * size * q + 2 * size) (s.size + 1) ∧ 2 * size * (q + 1) = 2 * size * q + 2 * size) := ⟨hnxt, hnx2⟩
              clear hnxt hnx2 hop hor
              generalize 2 * size * q = f at *
              have c1 := fun w => least_any (f + size) (s.size + 1) w
              have c2 := fun w => least_any (f + 2 * size) (s.size + 1) w
              have e1 : ((f + size : Nat) : Int) = (f : Int) + (size : Int) := by omega
              have e2 : ((s.size + 1 : Nat) : Int) = (s.size : Int) + 1 := by omega
              have e3 : ((f + 2 * size : Nat) : Int) = (f : Int) + 2 * (size : Int) := by omega
              simp only [e1, e2, e3] at c1 c2
              clear e1 e2 e3
              generalize hmid : min (f + size) (s.size + 1) = mid at *
              generalize hfin : min (f + 2 * size) (s.size + 1) = fin at *
              have hm1 : f ≤ mid := by omega
              have hm2 : mid ≤ fin := by omega
              have hm3 : fin ≤ s.size + 1 := by omega
              have hm4 : f < fin := by omega
              have hm5 : mid < f + 2000 := by omega
              have Hmf : Hid (min (f + size) (s.size + 1) = mid ∧ min (f + 2 * size) (s.size + 1) = fin) := ⟨hmid, hfin⟩
              clear hmid hfin
              go_wp2_with fail
              refine (c1 _).mono ?_
              rintro e w9 ⟨rfl, rfl⟩
              go_wp2_with fail
              refine (c2 _).mono ?_
              rintro e w9 ⟨rfl, rfl⟩
              clear c1 c2
              go_wp2_with fail
              have hi1 : (f : Int) ≤ (mid : Int) := by omega
              have hi2 : (mid : Int) ≤ (cap : Int) := by omega
              have hi3 : (mid : Int) ≤ (fin : Int) := by omega
              have hi4 : (fin : Int) ≤ (cap : Int) := by omega
              have hfc : ¬ cap = f := by omega
              have hAl : ((l.drop f).take (mid - f)).length = mid - f := by simp; omega
              have hBl' : ((l.drop mid).take (fin - mid)).length = fin - mid := by simp; omega
              have hown' : wo.ownsRow w.heap.size 3 1 (.slice (some ⟨g, 0, none⟩) l.length cap) l.length (vals l) := by rw [hll]; exact hown
              have hAat : At w9.drew g f ((l.drop f).take (mid - f)) := (at_of_own hown' f (mid - f)).below hBo.drew hgs
              have hBat : At w9.drew g mid ((l.drop mid).take (fin - mid)) := (at_of_own hown' mid (fin - mid)).below hBo.drew hgs
              have hdis : ∀ x, x ∈ (l.drop f).take (mid - f) → ∀ y, y ∈ (l.drop mid).take (fin - mid) → x ≠ y := by
                have hsp : l.take fin = l.take f ++ ((l.drop f).take (mid - f) ++ (l.drop mid).take (fin - mid)) := by
                  have h1 : l.take fin = l.take mid ++ (l.drop mid).take (fin - mid) := by
                    rw [← List.take_add]; congr 1; omega
                  have h2 : l.take mid = l.take f ++ (l.drop f).take (mid - f) := by
                    rw [← List.take_add]; congr 1; omega
                  rw [h1, h2, List.append_assoc]
                have hndT : (l.take fin).Nodup := hnd.sublist (List.take_sublist _ _)
                rw [hsp] at hndT
                exact (List.nodup_append.1 (List.nodup_append.1 hndT).2.1).2.2
              have hgq : g < w9.drew.heap.size := by simp; omega
              have hcall : ∀ bo, At w9.drew g bo ((l.drop mid).take (fin - mid)) → Calls Tryz.prog 135 #[.string s, .slice (some ⟨g, f, none⟩) (mid - f) (cap - f), .slice (some ⟨g, bo, none⟩) (fin - mid) (cap - mid)] w9.drew fun e w' =>
                  ∃ v, e = .returned v ∧ w'.ownsRow w9.drew.heap.size 3 1 v (mid - f + (fin - mid)) (vals (Cc.mrg (before s) ((l.drop f).take (mid - f)) ((l.drop mid).take (fin - mid)))) ∧ Below w9.drew.heap.size w9.drew w' := by
                intro bo hBo'
                have hc := merged_any s g f (cap - f) g bo (cap - mid) ((l.drop f).take (mid - f)) ((l.drop mid).take (fin - mid)) w9.drew hAat hBo' hgq hgq (by rw [hAl]; omega) (by rw [hBl']; omega) (by rw [hAl]; omega) (by rw [hBl']; omega)
                  (fun x hx => hle x (List.mem_of_mem_drop (List.mem_of_mem_take hx))) (fun x hx => hle x (List.mem_of_mem_drop (List.mem_of_mem_take hx))) hdis
                rw [hAl, hBl'] at hc
                exact hc
              have hMl : (Cc.mrg (before s) ((l.drop f).take (mid - f)) ((l.drop mid).take (fin - mid))).length = fin - f := by rw [Cc.mrg_length, hAl, hBl']; omega
              have hsum : mid - f + (fin - mid) = fin - f := by omega
              rw [hsum] at hcall
              clear hsum hdis hAat
              generalize Cc.mrg (before s) ((l.drop f).take (mid - f)) ((l.drop mid).take (fin - mid)) = M at *
              generalize hBl0 : (l.drop mid).take (fin - mid) = Bl at *
              by_cases hmc : cap = mid
              · have hBnil : At w9.drew g 0 Bl := by
                  have : Bl = [] := List.length_eq_zero_iff.1 (by omega)
                  rw [this]; exact At.nil _ _ _
                subst hmc
                refine wp_region_held_drew (S := fun _ => True) (by kernel_rfl) trivial (fun _ => ?_)
                refine wpAnyH_take (i := 0) (v := ?v0) rfl (by kernel_rfl) (by kernel_rfl) (by kernel_rfl) (fun _ _ _ h => h) (Or.inl ⟨by rfl, ?h0⟩) trivial ?_
                case h0 => intro wq _; go_simp; with_reducible rfl
                refine wpAnyH_take (i := 1) (v := ?v1) rfl (by kernel_rfl) (by kernel_rfl) (by kernel_rfl) (fun _ _ _ h => h) (Or.inl ⟨by rfl, ?h1⟩) trivial ?_
                case h1 => intro wq _; go_simp; with_reducible rfl
                refine wpAnyH_take (i := 2) (v := ?v2) rfl (by kernel_rfl) (by kernel_rfl) (by kernel_rfl) (fun _ _ _ h => h) (Or.inl ⟨by rfl, ?h2⟩) trivial ?_
                case h2 => intro wq _; go_simp; with_reducible rfl
                refine wpAnyH_take (i := 3) (v := ?v3) rfl (by kernel_rfl) (by kernel_rfl) (by kernel_rfl) (fun _ _ _ h => h) (Or.inl ⟨by rfl, ?h3⟩) trivial ?_
                case h3 => intro wq _; go_simp; with_reducible rfl
                refine wpAnyH_take (i := 4) (v := ?v4) rfl (by kernel_rfl) (by kernel_rfl) (by kernel_rfl) (fun _ _ _ h => h) (Or.inl ⟨by rfl, ?h4⟩) trivial ?_
                case h4 => intro wq _; go_simp; with_reducible rfl
                refine wpAnyH_take (i := 5) (v := ?v5) rfl (by kernel_rfl) (by kernel_rfl) (by kernel_rfl) (fun _ _ _ h => h) (Or.inl ⟨by rfl, ?h5⟩) trivial ?_
                case h5 => intro wq _; go_simp; with_reducible rfl
                refine wpAnyH_take (i := 6) (v := ?v6) rfl (by kernel_rfl) (by kernel_rfl) (by kernel_rfl) (fun _ _ _ h => h) (Or.inl ⟨by rfl, ?h6⟩) trivial ?_
                case h6 => intro wq _; go_simp; with_reducible rfl
                refine wpAnyH_take (i := 7) (v := ?v7) rfl (by kernel_rfl) (by kernel_rfl) (by kernel_rfl) (fun _ _ _ h => h) (Or.inl ⟨by rfl, ?h7⟩) trivial ?_
                case h7 => intro wq _; go_simp; with_reducible rfl
                refine wpAnyH_take (i := 8) (v := ?v8) rfl (by kernel_rfl) (by kernel_rfl) (by kernel_rfl) (fun _ _ _ h => h) (Or.inl ⟨by rfl, ?h8⟩) trivial ?_
                case h8 => intro wq _; go_simp; with_reducible rfl
                refine wpAnyH_take (i := 9) (v := ?v9) rfl (by kernel_rfl) (by kernel_rfl) (by kernel_rfl) (fun _ _ _ h => h) (Or.inl ⟨by rfl, ?h9⟩) trivial ?_
                case h9 => intro wq _; go_simp; with_reducible rfl
                refine wpAnyH_ready (rs := [10]) (by kernel_rfl) (by simp) ?_
                refine AllReadyH.cons rfl (fun K hK => ?_) AllReadyH.nil
                go_simp
                have hc0 := hcall 0 hBnil
                rw [Nat.sub_self] at hc0
                refine hc0.mono ?_
                rintro e w10 ⟨v, rfl, hvo, hB10⟩
                refine hK.out _ _ trivial (fun _ => ?_)
                clear hK K
                obtain ⟨vg, vc, rfl⟩ : ∃ vg vc, v = .slice (some ⟨vg, 0, none⟩) (fin - f) vc := by
                  rcases hvo.2 with ⟨_, h0⟩ | ⟨vg, vc, _, e1, _⟩
                  · omega
                  · exact ⟨vg, vc, by rw [e1]⟩
                have hoo2 := hoo.kept (w' := w10) (row := none) ⟨hB10.os, hB10.tape, hB10.output, hB10.size, fun k hk _ => hB10.block k hk⟩ (by cases u6.ownBlock <;> simp)
                have hB10' : Below wo.heap.size wo w10 := hBo.drew.trans (hB10.mono hzq)
                have hvAt : At w10 vg 0 M := by
                  intro j x hj
                  have hjl : j < fin - f := by
                    have := (List.getElem?_eq_some_iff.1 hj).1
                    rw [hMl] at this; omega
                  rw [Nat.zero_add, hvo.cellAt j (by omega)]
                  unfold vals
                  rw [List.getElem?_map, hj]; rfl
                refine wpAnyH_ready (rs := [11]) (by kernel_rfl) (by simp) ?_
                refine AllReadyH.cons rfl (fun K hK => ?_) AllReadyH.nil
                rw [if_pos (by rfl)]
                refine wp_append_own w10 (.tmp 51) (.tmp 61) 30 rfl wo.heap.size 3 i0 (.int .i64 0) 1 8 Tryz.underlying30 hi hz0 hz1 hz2 rfl (by decide) u6 out.length (vals out) rfl hoo2 ⟨vg, 0, none⟩ (fin - f) vc (vals M) rfl (by simp [vals, hMl]) hvAt.vals (vals_one _) (by unfold maxLen; omega) (by omega) hB10'.size ?_
                intro v2 w11 hown2 hgrow2 _
                refine hK.out _ _ trivial (fun _ => ?_)
                clear hK K
                refine wpAnyH_take (i := 12) (v := ?v12) rfl (by kernel_rfl) (by kernel_rfl) (by kernel_rfl) (fun _ _ _ h => h) (Or.inl ⟨by rfl, ?h12⟩) trivial ?_
                case h12 => intro wq _; go_simp; with_reducible rfl
                refine wpAnyH_done (by kernel_rfl) ?_ _
                have hB11 : Below wo.heap.size wo w11 := hB10'.grown hgrow2 hB10'.size (fun k hk => (hoo2.lt k hk).1)
                have hown3 : w11.ownsRow wo.heap.size 3 1 v2 (out ++ M).length (vals (out ++ M)) := by
                  have e1 : (out ++ M).length = out.length + (fin - f) := by rw [hstep.1]; omega
                  have e2 : vals (out ++ M) = vals out ++ vals M := by simp [vals]
                  rw [e1, e2]; exact hown2
                clear hown2 hgrow2 hvAt hoo2 hvo hoo
                obtain ⟨hn1, hn2⟩ := Hnxt.out
                go_wp2
                refine ⟨?relA, ?meaA⟩
                case relA =>
                  repeat apply Exists.intro
                  exact ⟨⟨q + 1, out ++ M, by rw [hn2], by omega, by rw [hn1]; exact hstep.1, by rw [hn1]; exact hstep.2.1, hstep.2.2, hown3, hB11⟩, frame_eq (by
                    repeat (first | refine cons_eq rfl ?_ | refine cons_eq (congrArg Value.bool (decide_eq_true (by assumption)).symm) ?_)
                    rfl)⟩
                case meaA => simp [intOf]; omega
              · refine wp_region_held_drew (S := fun _ => True) (by kernel_rfl) trivial (fun _ => ?_)
                refine wpAnyH_take (i := 0) (v := ?vb0) rfl (by kernel_rfl) (by kernel_rfl) (by kernel_rfl) (fun _ _ _ h => h) (Or.inl ⟨by rfl, ?hb0⟩) trivial ?_
                case hb0 => intro wq _; go_simp; with_reducible rfl
                refine wpAnyH_take (i := 1) (v := ?vb1) rfl (by kernel_rfl) (by kernel_rfl) (by kernel_rfl) (fun _ _ _ h => h) (Or.inl ⟨by rfl, ?hb1⟩) trivial ?_
                case hb1 => intro wq _; go_simp; with_reducible rfl
                refine wpAnyH_take (i := 2) (v := ?vb2) rfl (by kernel_rfl) (by kernel_rfl) (by kernel_rfl) (fun _ _ _ h => h) (Or.inl ⟨by rfl, ?hb2⟩) trivial ?_
                case hb2 => intro wq _; go_simp; with_reducible rfl
                refine wpAnyH_take (i := 3) (v := ?vb3) rfl (by kernel_rfl) (by kernel_rfl) (by kernel_rfl) (fun _ _ _ h => h) (Or.inl ⟨by rfl, ?hb3⟩) trivial ?_
                case hb3 => intro wq _; go_simp; with_reducible rfl
                refine wpAnyH_take (i := 4) (v := ?vb4) rfl (by kernel_rfl) (by kernel_rfl) (by kernel_rfl) (fun _ _ _ h => h) (Or.inl ⟨by rfl, ?hb4⟩) trivial ?_
                case hb4 => intro wq _; go_simp; with_reducible rfl
                refine wpAnyH_take (i := 5) (v := ?vb5) rfl (by kernel_rfl) (by kernel_rfl) (by kernel_rfl) (fun _ _ _ h => h) (Or.inl ⟨by rfl, ?hb5⟩) trivial ?_
                case hb5 => intro wq _; go_simp; with_reducible rfl
                refine wpAnyH_take (i := 6) (v := ?vb6) rfl (by kernel_rfl) (by kernel_rfl) (by kernel_rfl) (fun _ _ _ h => h) (Or.inl ⟨by rfl, ?hb6⟩) trivial ?_
                case hb6 => intro wq _; go_simp; with_reducible rfl
                refine wpAnyH_take (i := 7) (v := ?vb7) rfl (by kernel_rfl) (by kernel_rfl) (by kernel_rfl) (fun _ _ _ h => h) (Or.inl ⟨by rfl, ?hb7⟩) trivial ?_
                case hb7 => intro wq _; go_simp; with_reducible rfl
                refine wpAnyH_take (i := 8) (v := ?vb8) rfl (by kernel_rfl) (by kernel_rfl) (by kernel_rfl) (fun _ _ _ h => h) (Or.inl ⟨by rfl, ?hb8⟩) trivial ?_
                case hb8 => intro wq _; go_simp; with_reducible rfl
                refine wpAnyH_take (i := 9) (v := ?vb9) rfl (by kernel_rfl) (by kernel_rfl) (by kernel_rfl) (fun _ _ _ h => h) (Or.inl ⟨by rfl, ?hb9⟩) trivial ?_
                case hb9 => intro wq _; go_simp; with_reducible rfl
                refine wpAnyH_ready (rs := [10]) (by kernel_rfl) (by simp) ?_
                refine AllReadyH.cons rfl (fun K hK => ?_) AllReadyH.nil
                go_simp
                refine (hcall mid hBat).mono ?_
                rintro e w10 ⟨v, rfl, hvo, hB10⟩
                refine hK.out _ _ trivial (fun _ => ?_)
                clear hK K
                obtain ⟨vg, vc, rfl⟩ : ∃ vg vc, v = .slice (some ⟨vg, 0, none⟩) (fin - f) vc := by
                  rcases hvo.2 with ⟨_, h0⟩ | ⟨vg, vc, _, e1, _⟩
                  · omega
                  · exact ⟨vg, vc, by rw [e1]⟩
                have hoo2 := hoo.kept (w' := w10) (row := none) ⟨hB10.os, hB10.tape, hB10.output, hB10.size, fun k hk _ => hB10.block k hk⟩ (by cases u6.ownBlock <;> simp)
                have hB10' : Below wo.heap.size wo w10 := hBo.drew.trans (hB10.mono hzq)
                have hvAt : At w10 vg 0 M := by
                  intro j x hj
                  have hjl : j < fin - f := by
                    have := (List.getElem?_eq_some_iff.1 hj).1
                    rw [hMl] at this; omega
                  rw [Nat.zero_add, hvo.cellAt j (by omega)]
                  unfold vals
                  rw [List.getElem?_map, hj]; rfl
                refine wpAnyH_ready (rs := [11]) (by kernel_rfl) (by simp) ?_
                refine AllReadyH.cons rfl (fun K hK => ?_) AllReadyH.nil
                rw [if_pos (by rfl)]
                refine wp_append_own w10 (.tmp 51) (.tmp 61) 30 rfl wo.heap.size 3 i0 (.int .i64 0) 1 8 Tryz.underlying30 hi hz0 hz1 hz2 rfl (by decide) u6 out.length (vals out) rfl hoo2 ⟨vg, 0, none⟩ (fin - f) vc (vals M) rfl (by simp [vals, hMl]) hvAt.vals (vals_one _) (by unfold maxLen; omega) (by omega) hB10'.size ?_
                intro v2 w11 hown2 hgrow2 _
                refine hK.out _ _ trivial (fun _ => ?_)
                clear hK K
                refine wpAnyH_take (i := 12) (v := ?vb12) rfl (by kernel_rfl) (by kernel_rfl) (by kernel_rfl) (fun _ _ _ h => h) (Or.inl ⟨by rfl, ?hb12⟩) trivial ?_
                case hb12 => intro wq _; go_simp; with_reducible rfl
                refine wpAnyH_done (by kernel_rfl) ?_ _
                have hB11 : Below wo.heap.size wo w11 := hB10'.grown hgrow2 hB10'.size (fun k hk => (hoo2.lt k hk).1)
                have hown3 : w11.ownsRow wo.heap.size 3 1 v2 (out ++ M).length (vals (out ++ M)) := by
                  have e1 : (out ++ M).length = out.length + (fin - f) := by rw [hstep.1]; omega
                  have e2 : vals (out ++ M) = vals out ++ vals M := by simp [vals]
                  rw [e1, e2]; exact hown2
                clear hown2 hgrow2 hvAt hoo2 hvo hoo
                obtain ⟨hn1, hn2⟩ := Hnxt.out
                go_wp2
                refine ⟨?relB, ?meaB⟩
                case relB =>
                  repeat apply Exists.intro
                  exact ⟨⟨q + 1, out ++ M, by rw [hn2], by omega, by rw [hn1]; exact hstep.1, by rw [hn1]; exact hstep.2.1, hstep.2.2, hown3, hB11⟩, frame_eq (by
                    repeat (first | refine cons_eq rfl ?_ | refine cons_eq (congrArg Value.bool (decide_eq_true (by assumption)).symm) ?_)
                    rfl)⟩
                case meaB => simp [intOf]; omega
            · have hmin : min (2 * size * q) (s.size + 1) = s.size + 1 := by omega
              rw [hmin] at hol hop
              rw [List.take_of_length_le (by omega)] at hop
              rw [hol] at hoo
              have hoo' := hoo.mono hzo
              have hfi : ¬ ((2 * size * q : Nat) : Int) < (s.size : Int) + 1 := by omega
              clear hmin
              generalize 2 * size * q = f at *
              go_wp2
              have e2 : (intOf (Value.int IntKind.i64 (2 * (size : Int)))).toNat = 2 * size := by simp only [intOf]; omega
              have e1 : (intOf (Value.int IntKind.i64 (size : Int))).toNat = size := by simp only [intOf]; omega
              exact ⟨⟨out, 2 * size, by go_num, by omega, by omega, hol, hop.trans hlp, hor, hoo', hBl.trans (hBo.mono hzo)⟩, by rw [e2, e1]; omega⟩
        · have hfin := sorted_eq s hll hle hlr (by omega)
          rw [hfin] at hown
          clear hfin
          go_wp2
          go_ret
          exact ⟨_, rfl, hown, hBl⟩

end Go.Proofs.YtopihgmemnokkaaGreat

namespace Go.Proofs.YtopihgmemnokkaaGreat
open Go.RowKit

set_option maxHeartbeats 400000 in
theorem refsuffixes_any (s : ByteArray) (w : World) (hs : s.size ≤ 1000) :
    Calls Tryz.prog 40 #[.string s] w fun e w' => ∃ v, e = .returned (.tuple #[v, .int .i64 0]) ∧ w'.ownsRow w.heap.size 3 1 v (s.size + 1) (vals (sortedL s)) ∧ Below w.heap.size w w' := by
  go_enter Tryz.func40, Tryz.ntmps40
  go_wp2_with fail
  refine (refsorted_any s _ hs).mono ?_
  rintro e w1 ⟨v, rfl, h1, h2⟩
  go_wp2
  go_ret2
  exact ⟨v, rfl, h1, h2⟩

set_option maxHeartbeats 400000 in
theorem refsuffixes_long (s : ByteArray) (w : World) (hs : 1000 < s.size) :
    Calls Tryz.prog 40 #[.string s] w fun e w' => e = .returned (.tuple #[.slice none 0 0, .int .i64 1]) ∧ w' = w := by
  go_enter Tryz.func40, Tryz.ntmps40
  go_wp2
  go_ret2
  exact ⟨rfl, rfl⟩

set_option maxHeartbeats 400000 in
theorem suffixes_long (s : ByteArray) (w : World) (hs : 1000 < s.size) :
    Calls Tryz.prog 39 #[.string s] w fun e w' => e = .returned (.tuple #[.slice none 0 0, .int .i64 1]) ∧ w' = w := by
  go_enter Tryz.func39, Tryz.ntmps39
  go_wp2
  go_ret2
  exact ⟨rfl, rfl⟩

set_option maxHeartbeats 400000 in
theorem transform_long (s : ByteArray) (w : World) (hs : 1000 < s.size) :
    Calls Tryz.prog 44 #[.string s] w fun e w' => e = .returned (.tuple #[.string ByteArray.empty, .int .i64 0, .int .i64 1]) ∧ w' = w := by
  go_enter Tryz.func44, Tryz.ntmps44
  go_wp2
  go_ret3
  exact ⟨rfl, rfl⟩

set_option maxHeartbeats 400000 in
theorem reftransform_long (s : ByteArray) (w : World) (hs : 1000 < s.size) :
    Calls Tryz.prog 45 #[.string s] w fun e w' => e = .returned (.tuple #[.string ByteArray.empty, .int .i64 0, .int .i64 1]) ∧ w' = w := by
  go_enter Tryz.func45, Tryz.ntmps45
  go_wp2
  go_ret3
  exact ⟨rfl, rfl⟩

/-- the bytes laid, and the list that is read -/
structure Fr (s : ByteArray) (w : World) (lv : Value) (p : Nat) (v : Value) (wr : World) : Prop where
  own : wr.ownsRow w.heap.size 5 1 v (Cc.ks (fw s) p) (tv s (placeOf s) p)
  list : wr.ownsRow w.heap.size 3 1 lv (s.size + 1) (vals (sortedL s))
  bl : Below w.heap.size w wr

theorem Fr.skip {s : ByteArray} {w : World} {lv v : Value} {wr : World} (S : Fr s w lv (fw s) v wr) : Fr s w lv (fw s + 1) v wr := by
  refine ⟨?_, S.list, S.bl⟩
  have := S.own
  unfold tv at *
  rw [ks_same]; exact this

theorem Fr.hit {s : ByteArray} {w : World} {lv : Value} {p : Nat} {v v' : Value} {wr w1 : World} (S : Fr s w lv p v wr) (hp : p ≠ fw s) (o : Obj) (hwb : w.heap.size ≤ wr.heap.size)
    (hown : w1.ownsRow w.heap.size 5 1 v' (Cc.ks (fw s) p + 1) (tv s (placeOf s) p ++ [.int .u8 (BY s (placeOf s p - 1) : Nat)])) (hg : (wr.alloc o).grownBy w1 v.ownBlock) : Fr s w lv (p + 1) v' w1 := by
  refine ⟨?_, (S.list.alloc o).kept hg (owns_ne S.own S.list (by decide)), (S.bl.alloc hwb o).grown hg (by simp; omega) (fun k h => (S.own.lt k h).1)⟩
  rw [tv_hit s _ hp, ks_succ hp]; exact hown

theorem sortedL_get (s : ByteArray) {p : Nat} (hp : p < s.size + 1) : (vals (sortedL s))[p]? = some (.int .i64 (placeOf s p : Nat)) := by
  simp [vals, sortedL, hp]

set_option maxRecDepth 100000 in
set_option maxHeartbeats 1000000 in
theorem reftransform_any (s : ByteArray) (w : World) (hs : s.size ≤ 1000) :
    Calls Tryz.prog 45 #[.string s] w fun e w' => e = .returned (.tuple #[.string (trn s), .int .i64 (fw s : Nat), .int .i64 0]) ∧ Below w.heap.size w w' := by
  obtain ⟨i0, hi, hz0, hz1, hz2⟩ := info_parts Tryz.info5
  go_enter Tryz.func45, Tryz.ntmps45
  go_wp2_with fail
  refine (refsorted_any s _ hs).mono ?_
  rintro e w1 ⟨lv, rfl, hl, hB1⟩
  obtain ⟨g, cap, rfl⟩ : ∃ g cap, lv = .slice (some ⟨g, 0, none⟩) (s.size + 1) cap := by
    rcases hl.2 with ⟨_, h0⟩ | ⟨g, cap, _, e1, _⟩
    · omega
    · exact ⟨g, cap, e1⟩
  have hfwn : fw s ≤ s.size := (ord s).rank_le (i := 0) (by omega)
  have hks0 : Cc.ks (fw s) 0 = 0 := by unfold Cc.ks; rw [if_neg (by omega)]
  go_wp2
  go_loopw [6, 7, 8] (fun v wh i wr => ∃ p : Nat, p ≤ s.size + 1 ∧ i = .int .i64 p ∧ wh = .int .i64 ((if fw s < p then fw s else 0 : Nat) : Int) ∧ Fr s w (.slice (some ⟨g, 0, none⟩) (s.size + 1) cap) p v wr) (fun _ _ i _ => (s.size + 1) - (intOf i).toNat)
  case atStart =>
    refine ⟨0, by omega, rfl, rfl, ⟨?_, hl, hB1⟩⟩
    unfold tv; rw [hks0]; exact World.ownsRow_nil _ _ _ _
  case round =>
    clear hl hks0
    obtain ⟨p, hp, rfl, rfl, S⟩ := hrel
    have hBs := S.bl.size
    by_cases hlt : p < s.size + 1
    · obtain ⟨i, hin, hip⟩ := (ord s).onto (r := p) (by omega)
      have hrp := placeOf_rank s hin
      rw [hip] at hrp
      have cp : wr.cell? ⟨g, p, none⟩ = some (.int .i64 (placeOf s p : Nat)) := by
        rw [S.list.cellAt p (by omega)]; exact sortedL_get s hlt
      rw [hrp] at cp
      cases i with
      | zero =>
        have hpf : p = fw s := hip.symm
        have S2 : Fr s w (.slice (some ⟨g, 0, none⟩) (s.size + 1) cap) (p + 1) u6 wr := by rw [hpf] at S ⊢; exact S.skip
        have Hwh : Hid ((.int .i64 (p : Int) : Value) = .int .i64 ((if fw s < p + 1 then fw s else 0 : Nat) : Int)) := by show (_ : Value) = _; rw [if_pos (by omega), hpf]
        clear hpf hip hrp
        go_wp2
        exact ⟨⟨p + 1, by omega, by go_num, Hwh.out, S2⟩, by simp [intOf]; omega⟩
      | succ j =>
        have hpf : p ≠ fw s := fun e => by
          have := (ord s).rank_inj (i := j + 1) (j := 0) hin (by omega) (by rw [hip, e]); omega
        have hj : j < s.size := by omega
        have hjb : BY s (placeOf s p - 1) = s[j].toNat := by rw [hrp]; exact BY_lt s hj
        have R := fun v' w1 => S.hit (v' := v') (w1 := w1) hpf (Obj.cells #[Value.int IntKind.u8 s[j].toNat] 5) hBs
        rw [hjb] at R
        have hkl := ks_le (fw s) p
        have Hwh : Hid ((if fw s < p then fw s else 0) = (if fw s < p + 1 then fw s else 0)) := by
          show _ = _
          by_cases e : fw s < p
          · rw [if_pos e, if_pos (by omega)]
          · rw [if_neg e, if_neg (by omega)]
        clear hpf hip hrp hjb
        generalize (if fw s < p then fw s else 0) = q at *
        go_wp2_with (at_builtin; refine wpList_append_own _ rfl _ _ 55 rfl w.heap.size 5 i0 (.int .u8 0) 1 1 Tryz.underlying55 hi hz0 hz1 hz2 rfl (by decide) _ _ _ rfl (S.own.alloc _) ⟨wr.heap.size, 0, none⟩ 1 1 [.int .u8 (s[j].toNat : Int)] rfl rfl ?c1 ?c2 ?c3 ?c4 ?c5 ?_)
        case c1 => exact cell_one_new _ _ _
        case c2 => intro u hu; simp at hu; subst hu; rfl
        case c3 => unfold maxLen; omega
        case c4 => omega
        case c5 => simp; omega
        intro v' w2 hown hgrow _
        have R1 := R v' w2 hown hgrow
        clear R hown hgrow cp
        go_wp2
        exact ⟨⟨p + 1, by omega, by go_num, by rw [Hwh.out], R1⟩, by simp [intOf]; omega⟩
    · have hp' : p = s.size + 1 := by omega
      subst hp'
      have hks : Cc.ks (fw s) (s.size + 1) = s.size := by unfold Cc.ks; rw [if_pos (by omega)]; omega
      have hown := S.own
      unfold tv at hown
      rw [hks] at hown
      have hwf : (if fw s < s.size + 1 then fw s else 0) = fw s := by rw [if_pos (by omega)]
      rw [hwf]
      have hbl := S.bl
      clear S hwf
      rcases hown.2 with ⟨hv, h0⟩ | ⟨g', cap', cur, hv, hgb, hcell, hcap, hmx, hsz, htk⟩
      · subst hv
        have hcv := run_convert_bytes_nil (P := Tryz.prog) (w := wr) 55 5 Tryz.underlying55 Tryz.underlying5 0 0 9 Tryz.underlying9
        have ht : trn s = ByteArray.empty := BY_ext (by rw [trn_size, h0]; rfl) fun k hk => by rw [trn_size] at hk; omega
        have Ht : Hid (trn s = ByteArray.empty) := ht
        clear ht
        go_wp2
        go_ret3
        exact ⟨by rw [Ht.out]; rfl, hbl⟩
      · subst hv
        have hcv := run_convert_bytes_arg (P := Tryz.prog) wr 55 5 Tryz.underlying55 Tryz.underlying5 g' 0 s.size cap' ((List.range s.size).map fun k => ((tb s (placeOf s) k : Nat) : Int)) (by simp) (by
          intro i hi
          rw [Nat.zero_add, hown.cellAt i (by omega)]
          simp [hi]) 9 Tryz.underlying9
        clear hcell htk
        go_wp2
        go_ret3
        exact ⟨rfl, hbl⟩

end Go.Proofs.YtopihgmemnokkaaGreat

namespace Go.Proofs.YtopihgmemnokkaaGreat
open Go.RowKit

abbrev kA (b : ByteArray) (i : Nat) : Nat := Cc.kAt b.size (BY b) i
def firstL (b : ByteArray) (m : Nat) : List Value := (List.range m).map fun i => Value.int .u8 (BY b (kA b i) : Nat)
def behindL (b : ByteArray) (row m : Nat) : List Value := (List.range m).map fun i => Value.int .i64 (Cc.un row (kA b i) : Nat)

theorem firstL_succ (b : ByteArray) (m : Nat) : firstL b (m + 1) = firstL b m ++ [.int .u8 (BY b (kA b m) : Nat)] := by
  unfold firstL; rw [List.range_succ, List.map_append]; rfl
theorem behindL_succ (b : ByteArray) (row m : Nat) : behindL b row (m + 1) = behindL b row m ++ [.int .i64 (Cc.un row (kA b m) : Nat)] := by
  unfold behindL; rw [List.range_succ, List.map_append]; rfl

/-- the first bytes of rows, and the rows behind them, as far as they are laid -/
structure Rf (b : ByteArray) (row : Nat) (w : World) (mf mb : Nat) (vf vb : Value) (wr : World) : Prop where
  fo : wr.ownsRow w.heap.size 5 1 vf mf (firstL b mf)
  be : wr.ownsRow w.heap.size 3 1 vb mb (behindL b row mb)
  bl : Below w.heap.size w wr

theorem Rf.first {b : ByteArray} {row : Nat} {w : World} {mf mb : Nat} {vf vf' vb : Value} {wr w1 : World} (S : Rf b row w mf mb vf vb wr) (o : Obj)
    {x : Nat} (hx : x = BY b (kA b mf)) (hown : w1.ownsRow w.heap.size 5 1 vf' (mf + 1) (firstL b mf ++ [.int .u8 (x : Nat)])) (hg : (wr.alloc o).grownBy w1 vf.ownBlock) : Rf b row w (mf + 1) mb vf' vb w1 := by
  have hz := S.bl.size
  refine ⟨?_, (S.be.alloc o).kept hg (owns_ne S.fo S.be (by decide)), (S.bl.alloc hz o).grown hg (by simp; omega) (fun k h => (S.fo.lt k h).1)⟩
  rw [firstL_succ, ← hx]; exact hown

theorem Rf.behind {b : ByteArray} {row : Nat} {w : World} {mf mb : Nat} {vf vb vb' : Value} {wr w1 : World} (S : Rf b row w mf mb vf vb wr) (o : Obj)
    {x : Int} (hx : x = (Cc.un row (kA b mb) : Nat)) (hown : w1.ownsRow w.heap.size 3 1 vb' (mb + 1) (behindL b row mb ++ [.int .i64 x])) (hg : (wr.alloc o).grownBy w1 vb.ownBlock) : Rf b row w mf (mb + 1) vf vb' w1 := by
  have hz := S.bl.size
  refine ⟨(S.fo.alloc o).kept hg (owns_ne S.be S.fo (by decide)), ?_, (S.bl.alloc hz o).grown hg (by simp; omega) (fun k h => (S.be.lt k h).1)⟩
  rw [behindL_succ, ← hx]; exact hown

theorem wrap64_byte (x : UInt8) : wrap64 ((x.toNat : Nat) : Int) = x.toNat := by
  have := x.toNat_lt
  unfold wrap64; omega

set_option maxHeartbeats 400000 in
theorem refrestore_long (b : ByteArray) (row : Int) (w : World) (hs : 1000 < b.size) :
    Calls Tryz.prog 51 #[.string b, .int .i64 row] w fun e w' => e = .returned (.tuple #[.string ByteArray.empty, .int .i64 1]) ∧ w' = w := by
  go_enter Tryz.func51, Tryz.ntmps51
  go_wp2
  go_ret2
  exact ⟨rfl, rfl⟩

set_option maxHeartbeats 400000 in
theorem refrestore_out (b : ByteArray) (row : Int) (w : World) (hs : b.size ≤ 1000) (hr : row < 0 ∨ (b.size : Int) < row) :
    Calls Tryz.prog 51 #[.string b, .int .i64 row] w fun e w' => e = .returned (.tuple #[.string ByteArray.empty, .int .i64 4]) ∧ w' = w := by
  by_cases h : row < 0
  · go_enter Tryz.func51, Tryz.ntmps51
    go_wp2
    go_ret2
    exact ⟨rfl, rfl⟩
  · have h2 : (b.size : Int) < row := by omega
    go_enter Tryz.func51, Tryz.ntmps51
    go_wp2
    go_ret2
    exact ⟨rfl, rfl⟩

/-- the text read forward -/
def foreByte (b : ByteArray) (row i : Nat) : Nat := BY b (kA b (Cc.ft b.size (BY b) row i - 1))
def foreL (b : ByteArray) (row m : Nat) : List Value := (List.range m).map fun i => Value.int .u8 (foreByte b row i : Nat)
theorem foreL_succ (b : ByteArray) (row m : Nat) : foreL b row (m + 1) = foreL b row m ++ [.int .u8 (foreByte b row m : Nat)] := by
  unfold foreL; rw [List.range_succ, List.map_append]; rfl

def foreText (b : ByteArray) (row : Nat) : ByteArray := strOfNums ((List.range b.size).map fun k => ((foreByte b row k : Nat) : Int))
theorem foreText_size (b : ByteArray) (row : Nat) : (foreText b row).size = b.size := by unfold foreText; rw [strOfNums_size]; simp

theorem foreText_takes (b : ByteArray) (row : Nat) (t : Cc.Takes b.size (BY b) row) : foreText b row = textOf b row := by
  apply BY_ext
  · rw [foreText_size, textOf_size]
  · intro k hk
    rw [foreText_size] at hk
    rw [textOf_BY b row hk]
    have h1 := strOfNums_f (foreByte b row) b.size hk (BY_le _ _)
    unfold foreText
    rw [h1]
    unfold foreByte textTo
    rw [if_pos (by omega)]
    exact congrArg (BY b) (t.fore_byte hk).2

theorem strOfNums_nil : strOfNums [] = ByteArray.empty := by
  apply BY_ext
  · rw [strOfNums_size]; rfl
  · intro k hk
    rw [strOfNums_size] at hk
    simp at hk

/-- bytes of one's own as a text -/
theorem conv_own {w : World} {base : Nat} {v : Value} {n : Nat} {f : Nat → Nat} (h : w.ownsRow base 5 1 v n ((List.range n).map fun i => Value.int .u8 (f i : Nat))) :
    (convert 55 9 v).run Tryz.prog w = .ok (.string (strOfNums ((List.range n).map fun k => ((f k : Nat) : Int)))) w := by
  rcases h.2 with ⟨hv, h0⟩ | ⟨g, cap, cur, hv, _⟩
  · subst hv; subst h0
    rw [List.range_zero, List.map_nil, strOfNums_nil]
    exact run_convert_bytes_nil (P := Tryz.prog) (w := w) 55 5 Tryz.underlying55 Tryz.underlying5 0 0 9 Tryz.underlying9
  · subst hv
    exact run_convert_bytes_arg (P := Tryz.prog) w 55 5 Tryz.underlying55 Tryz.underlying5 g 0 n cap ((List.range n).map fun k => ((f k : Nat) : Int)) (by simp) (by
          intro i hi
          rw [Nat.zero_add, h.cellAt i (by omega)]
          simp [hi]) 9 Tryz.underlying9

theorem bytes_eq {a b : ByteArray} (h : a.toList = b.toList) : a = b := by
  rw [ByteArray.toList_eq, ByteArray.toList_eq] at h
  exact ByteArray.ext (Array.ext' h)

structure Rt (b : ByteArray) (row : Nat) (w : World) (i : Nat) (vt : Value) (wr : World) : Prop where
  tx : wr.ownsRow w.heap.size 5 1 vt i (foreL b row i)
  bl : Below w.heap.size w wr

theorem Rt.step {b : ByteArray} {row : Nat} {w : World} {i : Nat} {vt vt' : Value} {wr w1 : World} (S : Rt b row w i vt wr) (o : Obj)
    {x : Nat} (hx : foreByte b row i = x) (hown : w1.ownsRow w.heap.size 5 1 vt' (i + 1) (foreL b row i ++ [.int .u8 (x : Nat)])) (hg : (wr.alloc o).grownBy w1 vt.ownBlock) : Rt b row w (i + 1) vt' w1 := by
  have hz := S.bl.size
  refine ⟨?_, (S.bl.alloc hz o).grown hg (by simp; omega) (fun k h => (S.tx.lt k h).1)⟩
  rw [foreL_succ, hx]; exact hown

set_option maxRecDepth 100000 in
set_option maxHeartbeats 2000000 in
theorem refrestore_in (b : ByteArray) (row : Nat) (w : World) (hs : b.size ≤ 1000) (hr : row ≤ b.size) :
    Calls Tryz.prog 51 #[.string b, .int .i64 (row : Nat)] w fun e w' => Below w.heap.size w w' ∧
      ((¬ Cc.Takes b.size (BY b) row ∧ e = .returned (.tuple #[.string ByteArray.empty, .int .i64 4])) ∨
       (Cc.Takes b.size (BY b) row ∧ e = .returned (.tuple #[.string (textOf b row), .int .i64 0]))) := by
  obtain ⟨i0, hi, hz0, hz1, hz2⟩ := info_parts Tryz.info5
  obtain ⟨j0, hj, hy0, hy1, hy2⟩ := info_parts Tryz.info3
  have d0 : decide ((1000 : Int) < (b.size : Int)) = false := decide_eq_false (by omega)
  have d1 : decide ((row : Int) < 0) = false := decide_eq_false (by omega)
  have d2 : decide (b.size < row) = false := decide_eq_false (by omega)
  go_enter Tryz.func51, Tryz.ntmps51
  go_wp2
  go_loopw [6, 7, 8, 9, 10] (fun vf vb c _ _ wr => ∃ q : Nat, q ≤ 256 ∧ c = .int .i64 q ∧ Rf b row w (Cc.mo b.size (BY b) q 0) (Cc.mo b.size (BY b) q 0) vf vb wr) (fun _ _ c _ _ _ => 256 - (intOf c).toNat)
  case atStart =>
    refine ⟨0, by omega, rfl, ?_⟩
    rw [Cc.mo_zero]
    exact ⟨World.ownsRow_nil _ _ _ _, World.ownsRow_nil _ _ _ _, Below.refl _ _⟩
  case round =>
    obtain ⟨c, hc, rfl, S⟩ := hrel
    by_cases hlt : c < 256
    · have dc : decide ((c : Int) < 256) = true := decide_eq_true (by omega)
      go_wp2
      go_loopw [6, 7, 9, 10] (fun vf vb kk _ wr => ∃ k : Nat, k ≤ b.size ∧ kk = .int .i64 k ∧ Rf b row w (Cc.mo b.size (BY b) c k) (Cc.mo b.size (BY b) c k) vf vb wr) (fun _ _ kk _ _ => b.size - (intOf kk).toNat)
      case atStart => exact ⟨0, by omega, rfl, S⟩
      case round =>
        clear S
        obtain ⟨k, hk, rfl, S⟩ := hrel
        have hmo := Cc.mo_le (b := BY b) (c := c) hk
        have hwb := S.bl.size
        by_cases hkl : k < b.size
        · by_cases hbk : BY b k = c
          · have hnext := Cc.mo_hit (n := b.size) hbk
            have hka : kA b (Cc.mo b.size (BY b) c k) = k := by
              have h1 := Cc.mo_lead b.size (BY b) k
              rw [hbk] at h1
              show Cc.kAt _ _ _ = k
              rw [h1]; exact Cc.kAt_lead hkl
            have Hn : Hid (Cc.mo b.size (BY b) c (k + 1) = Cc.mo b.size (BY b) c k + 1) := hnext
            clear hnext
            obtain ⟨m, hm⟩ : ∃ m, m = Cc.mo b.size (BY b) c k := ⟨_, rfl⟩
            rw [← hm] at S hmo hka Hn
            clear hm
            have hbv := BY_lt b hkl
            have hbe : (wrap64 (b[k].toNat : Int) == (c : Int)) = true := by rw [wrap64_byte]; simp; omega
            have F := fun v' w1 => S.first (vf' := v') (w1 := w1) (Obj.cells #[Value.int IntKind.u8 b[k].toNat] 5) (x := b[k].toNat) (by rw [hka, hbv])
            clear hbv
            go_wp2_with (at_builtin; refine wpList_append_own _ rfl _ _ 55 rfl w.heap.size 5 i0 (.int .u8 0) 1 1 Tryz.underlying55 hi hz0 hz1 hz2 rfl (by decide) _ _ _ rfl (S.fo.alloc _) ⟨wr.heap.size, 0, none⟩ 1 1 [.int .u8 (b[k].toNat : Int)] rfl rfl ?c1 ?c2 ?c3 ?c4 ?c5 ?_)
            case c1 => exact cell_one_new _ _ _
            case c2 => intro u hu; simp at hu; subst hu; rfl
            case c3 => unfold maxLen; omega
            case c4 => omega
            case c5 => simp; omega
            intro v' w2 hown hgrow _
            have S1 := F v' w2 hown hgrow
            clear F hown hgrow hbe S
            have hw2 := S1.bl.size
            by_cases hkr : row ≤ k
            · have B := fun v' w1 => S1.behind (vb' := v') (w1 := w1) (Obj.cells #[Value.int IntKind.i64 ((k : Int) + 1)] 3) (x := (k : Int) + 1) (by rw [hka]; unfold Cc.un; rw [if_neg (by omega)]; omega)
              have hkr' : (row : Int) ≤ (k : Int) := by omega
              clear hka
              go_wp2_with (at_builtin; refine wpList_append_own _ rfl _ _ 30 rfl w.heap.size 3 j0 (.int .i64 0) 1 8 Tryz.underlying30 hj hy0 hy1 hy2 rfl (by decide) _ _ _ rfl (S1.be.alloc _) ⟨w2.heap.size, 0, none⟩ 1 1 [.int .i64 ((k : Int) + 1)] rfl rfl ?d1 ?d2 ?d3 ?d4 ?d5 ?_)
              case d1 => exact cell_one_new _ _ _
              case d2 => intro u hu; simp at hu; subst hu; rfl
              case d3 => unfold maxLen; omega
              case d4 => omega
              case d5 => simp; omega
              intro v3 w3 hown hgrow _
              have S2 := B v3 w3 hown hgrow
              clear B hown hgrow S1
              go_wp2
              exact ⟨⟨k + 1, by omega, by go_num, by rw [Hn.out]; exact S2⟩, by simp [intOf]; omega⟩
            · have B := fun v' w1 => S1.behind (vb' := v') (w1 := w1) (Obj.cells #[Value.int IntKind.i64 (k : Int)] 3) (x := (k : Int)) (by rw [hka]; unfold Cc.un; rw [if_pos (by omega)])
              have hkr' : ¬ (row : Int) ≤ (k : Int) := by omega
              clear hka
              go_wp2_with (at_builtin; refine wpList_append_own _ rfl _ _ 30 rfl w.heap.size 3 j0 (.int .i64 0) 1 8 Tryz.underlying30 hj hy0 hy1 hy2 rfl (by decide) _ _ _ rfl (S1.be.alloc _) ⟨w2.heap.size, 0, none⟩ 1 1 [.int .i64 (k : Int)] rfl rfl ?e1 ?e2 ?e3 ?e4 ?e5 ?_)
              case e2 => first | rfl | (intro u hu; simp at hu; subst hu; rfl)
              case e3 => unfold maxLen; omega
              case e4 => omega
              case e5 => first | omega | (simp; omega)
              intro v3 w3 hown hgrow _
              have S2 := B v3 w3 hown hgrow
              clear B hown hgrow S1
              go_wp2
              exact ⟨⟨k + 1, by omega, by go_num, by rw [Hn.out]; exact S2⟩, by simp [intOf]; omega⟩
          · have Hn : Hid (Cc.mo b.size (BY b) c (k + 1) = Cc.mo b.size (BY b) c k) := Cc.mo_miss hbk
            have hbv := BY_lt b hkl
            have hbe : (wrap64 (b[k].toNat : Int) == (c : Int)) = false := by rw [wrap64_byte]; simp; omega
            clear hbv
            go_wp2
            exact ⟨⟨k + 1, by omega, by go_num, by rw [Hn.out]; exact S⟩, by simp [intOf]; omega⟩
        · have hk' : k = b.size := by omega
          subst hk'
          have Hn : Hid (Cc.mo b.size (BY b) c b.size = Cc.mo b.size (BY b) (c + 1) 0) := Cc.mo_next _ _ _
          go_wp2
          exact ⟨⟨c + 1, by omega, by go_num, by rw [← Hn.out]; exact S⟩, by simp [intOf]; omega⟩
    · have hc' : c = 256 := by omega
      subst hc'
      rw [Cc.mo_end (fun j => BY_le b j)] at S
      rw [show ((256 : Nat) : Int) = 256 from rfl]
      obtain ⟨w5, hw5⟩ : ∃ w5 : World, w5 = wr := ⟨_, rfl⟩
      subst hw5
      have hwb5 := S.bl.size
      go_wp2
      go_loopw [11, 12, 13] (fun vt r i wr => ∃ p : Nat, p ≤ b.size ∧ i = .int .i64 p ∧ r = .int .i64 ((Cc.ft b.size (BY b) row p : Nat) : Int) ∧ (∀ m, m < p → Cc.ft b.size (BY b) row m ≠ 0) ∧ Rt b row w5 p vt wr) (fun _ _ i _ => b.size - (intOf i).toNat)
      case atStart => exact ⟨0, by omega, rfl, rfl, fun m hm => by omega, ⟨World.ownsRow_nil _ _ _ _, Below.refl _ _⟩⟩
      case round =>
        obtain ⟨p, hp, rfl, rfl, hT, T⟩ := hrel
        have hwb := T.bl.size
        have hft := Cc.ft_le (b := BY b) hr p hT
        have hbl : Below w.heap.size w wr := S.bl.trans (T.bl.mono hwb5)
        by_cases hpl : p < b.size
        · by_cases hz : Cc.ft b.size (BY b) row p = 0
          · have hno : ¬ Cc.Takes b.size (BY b) row := fun t => (t.fore_byte hpl).1 hz
            rw [hz]
            clear hz hft hT S T
            go_wp2
            go_ret2
            exact ⟨hbl, .inl ⟨hno, rfl⟩⟩
          · have Hn : Hid (Cc.ft b.size (BY b) row (p + 1) = Cc.un row (kA b (Cc.ft b.size (BY b) row p - 1))) := rfl
            have hT2 : ∀ m, m < p + 1 → Cc.ft b.size (BY b) row m ≠ 0 := fun m hm => by
              by_cases e : m = p
              · rw [e]; exact hz
              · exact hT m (by omega)
            have Hb : Hid (foreByte b row p = BY b (kA b (Cc.ft b.size (BY b) row p - 1))) := rfl
            clear hT
            generalize Cc.ft b.size (BY b) row p = r at *
            obtain ⟨q, rfl⟩ : ∃ q, r = q + 1 := ⟨r - 1, by omega⟩
            rw [Nat.add_sub_cancel] at Hn Hb
            obtain ⟨g, cap, hvf, hcf⟩ : ∃ g cap, u6 = .slice (some ⟨g, 0, none⟩) b.size cap ∧ wr.cell? ⟨g, q, none⟩ = some (.int .u8 (BY b (kA b q) : Nat)) := by
              have h1 := S.fo
              rcases h1.2 with ⟨_, h0⟩ | ⟨g, cap, _, e1, _⟩
              · omega
              · refine ⟨g, cap, e1, ?_⟩
                rw [e1] at h1
                rw [T.bl.cell (p := ⟨g, q, none⟩) (h1.lt g rfl).2, h1.cellAt q (by omega)]
                simp [firstL, show q < b.size from by omega]
            obtain ⟨g2, cap2, hvb, hcb, hg2⟩ : ∃ g cap, u7 = .slice (some ⟨g, 0, none⟩) b.size cap ∧ w5.cell? ⟨g, q, none⟩ = some (.int .i64 (Cc.un row (kA b q) : Nat)) ∧ g < w5.heap.size := by
              have h1 := S.be
              rcases h1.2 with ⟨_, h0⟩ | ⟨g, cap, _, e1, _⟩
              · omega
              · refine ⟨g, cap, e1, ?_⟩
                rw [e1] at h1
                rw [h1.cellAt q (by omega)]
                exact ⟨by simp [behindL, show q < b.size from by omega], (h1.lt g rfl).2⟩
            clear S
            subst hvf hvb
            generalize hun : Cc.un row (kA b q) = y at *
            generalize BY b (kA b q) = x at *
            clear hun
            have F := fun v' w1 => T.step (vt' := v') (w1 := w1) (Obj.cells #[Value.int IntKind.u8 (x : Int)] 5) Hb.out
            go_wp2_with (at_builtin; refine wpList_append_own _ rfl _ _ 55 rfl w5.heap.size 5 i0 (.int .u8 0) 1 1 Tryz.underlying55 hi hz0 hz1 hz2 rfl (by decide) _ _ _ rfl (T.tx.alloc _) ⟨wr.heap.size, 0, none⟩ 1 1 [.int .u8 (x : Int)] rfl rfl ?k1 ?k2 ?k3 ?k4 ?k5 ?_)
            case k1 => exact cell_one_new _ _ _
            case k2 => first | rfl | (intro u hu; simp at hu; subst hu; rfl)
            case k3 => unfold maxLen; omega
            case k4 => omega
            case k5 => first | omega | (simp; omega)
            intro v' w2 hown hgrow _
            have T1 := F v' w2 hown hgrow
            clear F hown hgrow T hcf
            have hcb' : w2.cell? ⟨g2, q, none⟩ = some (.int .i64 (y : Nat)) := (T1.bl.cell (p := ⟨g2, q, none⟩) hg2).trans hcb
            go_wp2
            exact ⟨⟨p + 1, by omega, by go_num, by rw [Hn.out], hT2, T1⟩, by simp [intOf]; omega⟩
        · have hp' : p = b.size := by omega
          subst hp'
          have hcv := conv_own (f := foreByte b row) T.tx
          have hfs := foreText_size b row
          have Hft : Hid (Cc.Takes b.size (BY b) row → Cc.ft b.size (BY b) row b.size = 0) := fun t => by
            have h1 := t.fore b.size (Nat.le_refl _)
            rw [Nat.sub_self] at h1; exact h1
          have hf : strOfNums ((List.range b.size).map fun k => ((foreByte b row k : Nat) : Int)) = foreText b row := rfl
          rw [hf] at hcv
          have Hf : Hid (strOfNums ((List.range b.size).map fun k => ((foreByte b row k : Nat) : Int)) = foreText b row) := hf
          clear hf
          have Ht := foreText_takes b row
          have hmn := reftransform_any (foreText b row) wr (by omega)
          have hdr := trn_back (foreText b row)
          have htt := text_turned b row
          clear hT
          generalize Cc.ft b.size (BY b) row b.size = r at *
          generalize foreText b row = t at *
          go_wp2_with fail
          refine hmn.mono ?_
          rintro e w6 ⟨rfl, hB6⟩
          have hcv6 := conv_own (f := foreByte b row) (T.tx.kept (w' := w6) (row := none) ⟨hB6.os, hB6.tape, hB6.output, hB6.size, fun k hk _ => hB6.block k hk⟩ (by cases u11.ownBlock <;> simp))
          rw [Hf.out] at hcv6
          have hbl6 : Below w.heap.size w w6 := hbl.trans (hB6.mono hbl.size)
          clear hmn hcv T S hB6
          by_cases h0 : r = 0
          · by_cases h1 : trn t = b
            · by_cases h2 : fw t = row
              · have htk : Cc.Takes b.size (BY b) row := by
                  have := hdr.1
                  rw [h1, h2] at this; exact this
                have ht := Ht htk
                rw [h0, h1, h2]
                clear h0 h1 h2 Ht hdr htt Hft
                go_wp2
                go_ret2
                exact ⟨hbl6, .inr ⟨htk, rfl⟩⟩
              · have hno : ¬ Cc.Takes b.size (BY b) row := fun k => h2 (by rw [Ht k]; exact (htt k).1)
                have h2' : (((fw t : Nat) : Int) != (row : Int)) = true := by simp; omega
                rw [h0, h1]
                clear h0 h1 Ht hdr htt Hft
                generalize fw t = y at *
                go_wp2
                go_ret2
                exact ⟨hbl6, .inl ⟨hno, rfl⟩⟩
            · have hno : ¬ Cc.Takes b.size (BY b) row := fun k => h1 (by rw [Ht k]; exact (htt k).2)
              rw [h0]
              clear h0 Ht hdr htt Hft
              generalize trn t = y at *
              generalize fw t = z at *
              have h1' : ¬ y.toList = b.toList := fun e => h1 (bytes_eq e)
              go_wp2
              go_ret2
              exact ⟨hbl6, .inl ⟨hno, rfl⟩⟩
          · have hno : ¬ Cc.Takes b.size (BY b) row := fun k => h0 (Hft.out k)
            clear Ht hdr htt Hft
            generalize trn t = y at *
            generalize fw t = z at *
            have h0' : ((r : Int) != 0) = true := by simp; omega
            go_wp2
            go_ret2
            exact ⟨hbl6, .inl ⟨hno, rfl⟩⟩

end Go.Proofs.YtopihgmemnokkaaGreat

