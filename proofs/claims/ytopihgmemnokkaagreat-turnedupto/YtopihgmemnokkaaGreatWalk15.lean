import Derived.Test.YtopihgmemnokkaaGreatWalk12
import Derived.Test.YtopihgmemnokkaaGreatApp
import Derived.Test.YtopihgmemnokkaaGreatMerge
namespace Go.Proofs.YtopihgmemnokkaaGreat
open Go.RowKit

/-- the cells from an address on hold these places -/
def At (w : World) (b o : Nat) (A : List Nat) : Prop := ∀ j x, A[j]? = some x → w.cell? ⟨b, o + j, none⟩ = some (.int .i64 (x : Nat))

theorem At.below {w w' : World} {b o B : Nat} {A : List Nat} (h : At w b o A) (hb : Below B w w') (hlt : b < B) : At w' b o A := fun j x hj =>
  (hb.cell (p := ⟨b, o + j, none⟩) hlt).trans (h j x hj)
theorem At.head {w : World} {b o x : Nat} {A : List Nat} (h : At w b o (x :: A)) : w.cell? ⟨b, o, none⟩ = some (.int .i64 (x : Nat)) := h 0 x rfl
theorem At.tail {w : World} {b o x : Nat} {A : List Nat} (h : At w b o (x :: A)) : At w b (o + 1) A := fun j y hj => by
  have := h (j + 1) y (by simpa using hj)
  rw [show o + 1 + j = o + (j + 1) from by omega]; exact this
theorem At.nil (w : World) (b o : Nat) : At w b o [] := fun j x hj => by simp at hj

def vals (l : List Nat) : List Value := l.map fun i => Value.int .i64 (i : Nat)

theorem vals_one (l : List Nat) : ∀ u ∈ vals l, u.oneCell' = true := by
  intro u hu
  unfold vals at hu
  rw [List.mem_map] at hu
  obtain ⟨x, _, rfl⟩ := hu
  rfl
theorem At.vals {w : World} {b o : Nat} {A : List Nat} (h : At w b o A) : ∀ j u, (Go.Proofs.YtopihgmemnokkaaGreat.vals A)[j]? = some u → w.cell? ((⟨b, o, none⟩ : Addr).add j) = some u := by
  intro j u hj
  unfold Go.Proofs.YtopihgmemnokkaaGreat.vals at hj
  rw [List.getElem?_map] at hj
  cases hx : A[j]? with
  | none => rw [hx] at hj; cases hj
  | some x =>
    rw [hx] at hj
    have hu : u = .int .i64 (x : Nat) := by simpa using hj.symm
    subst hu
    have := h j x hx
    unfold Addr.add
    split
    · rename_i e; subst e; simpa using this
    · exact this

theorem slLen_slice (a : Option Addr) (n c : Nat) : slLen (.slice a n c) = n := rfl

/-- what the merging has done: O is laid, A and B are left -/
structure Mg (s : ByteArray) (w : World) (A0 B0 A B O : List Nat) (v : Value) (wr : World) : Prop where
  all : Cc.mrg (before s) A0 B0 = O ++ Cc.mrg (before s) A B
  own : wr.ownsRow w.heap.size 3 1 v O.length (vals O)
  bl : Below w.heap.size w wr

theorem vals_snoc (O : List Nat) (x : Nat) : vals (O ++ [x]) = vals O ++ [.int .i64 (x : Nat)] := by simp [vals]

theorem Mg.drewN {s : ByteArray} {w : World} {A0 B0 A B O : List Nat} {v : Value} {wr : World} (M : Mg s w A0 B0 A B O v wr) (n : Nat) : Mg s w A0 B0 A B O v (wr.drewN n) := ⟨M.all, M.own, below_drewN M.bl n⟩

theorem Mg.left {s : ByteArray} {w : World} {A0 B0 A B O : List Nat} {x y : Nat} {v v' : Value} {wr w1 : World} (M : Mg s w A0 B0 (x :: A) (y :: B) O v wr) (h : before s y x = false) (o : Obj) (hwb : w.heap.size ≤ wr.heap.size)
    (hown : w1.ownsRow w.heap.size 3 1 v' (O.length + 1) (vals O ++ [.int .i64 (x : Nat)])) (hg : (wr.alloc o).grownBy w1 v.ownBlock) : Mg s w A0 B0 A (y :: B) (O ++ [x]) v' w1 := by
  refine ⟨?_, ?_, (M.bl.alloc hwb o).grown hg (by simp; omega) (fun k hk => (M.own.lt k hk).1)⟩
  · rw [M.all, Cc.mrg_cons, if_pos h]; simp
  · rw [vals_snoc, List.length_append, List.length_singleton]; exact hown
theorem Mg.right {s : ByteArray} {w : World} {A0 B0 A B O : List Nat} {x y : Nat} {v v' : Value} {wr w1 : World} (M : Mg s w A0 B0 (x :: A) (y :: B) O v wr) (h : before s y x = true) (o : Obj) (hwb : w.heap.size ≤ wr.heap.size)
    (hown : w1.ownsRow w.heap.size 3 1 v' (O.length + 1) (vals O ++ [.int .i64 (y : Nat)])) (hg : (wr.alloc o).grownBy w1 v.ownBlock) : Mg s w A0 B0 (x :: A) B (O ++ [y]) v' w1 := by
  refine ⟨?_, ?_, (M.bl.alloc hwb o).grown hg (by simp; omega) (fun k hk => (M.own.lt k hk).1)⟩
  · rw [M.all, Cc.mrg_cons, if_neg (by rw [h]; simp)]; simp
  · rw [vals_snoc, List.length_append, List.length_singleton]; exact hown

set_option maxRecDepth 100000 in
set_option maxHeartbeats 2000000 in
theorem merged_any (s : ByteArray) (ab ao ac bb bo bc : Nat) (A0 B0 : List Nat) (w : World) (hA : At w ab ao A0) (hB : At w bb bo B0) (hab : ab < w.heap.size) (hbb : bb < w.heap.size)
    (hac : A0.length ≤ ac) (hbc : B0.length ≤ bc) (hA9 : A0.length ≤ 2000) (hB9 : B0.length ≤ 2000) (hlA : ∀ x, x ∈ A0 → x ≤ s.size) (hlB : ∀ x, x ∈ B0 → x ≤ s.size) (hdis : ∀ x, x ∈ A0 → ∀ y, y ∈ B0 → x ≠ y) :
    Calls Tryz.prog 135 #[.string s, .slice (some ⟨ab, ao, none⟩) A0.length ac, .slice (some ⟨bb, bo, none⟩) B0.length bc] w fun e w' =>
      ∃ v, e = .returned v ∧ w'.ownsRow w.heap.size 3 1 v (A0.length + B0.length) (vals (Cc.mrg (before s) A0 B0)) ∧ Below w.heap.size w w' := by
  obtain ⟨i0, hi, hz0, hz1, hz2⟩ := info_parts Tryz.info3
  have hlen := Cc.mrg_length (before s) A0 B0
  go_enter Tryz.func135, Tryz.ntmps135
  go_wp2
  go_loopw [1, 2, 7] (fun va vb v wr => ∃ (A B O : List Nat) (ao' ac' bo' bc' : Nat), va = .slice (some ⟨ab, ao', none⟩) A.length ac' ∧ vb = .slice (some ⟨bb, bo', none⟩) B.length bc' ∧ At w ab ao' A ∧ At w bb bo' B ∧ A.length ≤ ac' ∧ B.length ≤ bc' ∧
    (∀ x, x ∈ A → x ∈ A0) ∧ (∀ x, x ∈ B → x ∈ B0) ∧ A.length ≤ A0.length ∧ B.length ≤ B0.length ∧ Mg s w A0 B0 A B O v wr) (fun va vb _ _ => slLen va + slLen vb)
  case atStart => exact ⟨A0, B0, [], ao, ac, bo, bc, rfl, rfl, hA, hB, hac, hbc, fun _ h => h, fun _ h => h, Nat.le_refl _, Nat.le_refl _, rfl, World.ownsRow_nil _ _ _ _, Below.refl _ _⟩
  case round =>
    obtain ⟨A, B, O, ao', ac', bo', bc', rfl, rfl, hA', hB', hac', hbc', hsA, hsB, hlA', hlB', M⟩ := hrel
    have hwb := M.bl.size
    have hol : O.length ≤ 200000 := by
      have := congrArg List.length M.all
      rw [List.length_append, hlen] at this; omega
    by_cases hboth : A ≠ [] ∧ B ≠ []
    · obtain ⟨x, A, rfl⟩ : ∃ x A', A = x :: A' := by
        cases A with
        | nil => exact absurd rfl hboth.1
        | cons x A => exact ⟨x, A, rfl⟩
      obtain ⟨y, B, rfl⟩ : ∃ y B', B = y :: B' := by
        cases B with
        | nil => exact absurd rfl hboth.2
        | cons y B => exact ⟨y, B, rfl⟩
      clear hboth
      have cx := (M.bl.cell (p := ⟨ab, ao', none⟩) hab).trans hA'.head
      have cy := (M.bl.cell (p := ⟨bb, bo', none⟩) hbb).trans hB'.head
      have hx := hlA x (hsA x (by simp))
      have hy := hlB y (hsB y (by simp))
      have hne := hdis x (hsA x (by simp)) y (hsB y (by simp))
      have hx1 : (x : Int) ≤ (s.size : Int) := by omega
      have hy1 : (y : Int) ≤ (s.size : Int) := by omega
      have hsA2 : ∀ z, z ∈ A → z ∈ A0 := fun z hz => hsA z (by simp [hz])
      have hsB2 : ∀ z, z ∈ B → z ∈ B0 := fun z hz => hsB z (by simp [hz])
      have hA2 := hA'.tail
      have hB2 := hB'.tail
      simp only [List.length_cons] at *
      cases hxy : before s y x
      · have hlt : Op.bytesLess (s.extract x s.size).toList (s.extract y s.size).toList = true := by
          rw [toList_extract, toList_extract]
          rcases (ord s).tri x y hx hy hne with h | h
          · exact h
          · rw [hxy] at h; cases h
        have R0 := fun nq v' w1 => (M.drewN nq).left (v' := v') (w1 := w1) hxy (Obj.cells #[Value.int IntKind.i64 x] 3) hwb
        clear hxy
        go_wp2_with fail
        go_quiet (fail)
        have R := R0 nq
        clear R0
        by_cases hc : ac' = 1
        · have hAe : A = [] := List.length_eq_zero_iff.1 (by omega)
          subst hAe
          subst hc
          go_wp2_with (at_builtin; refine wpList_append_own _ rfl _ _ 30 rfl w.heap.size 3 i0 (.int .i64 0) 1 8 Tryz.underlying30 hi hz0 hz1 hz2 rfl (by decide) _ _ _ rfl ((M.drewN nq).own.alloc _) ⟨wr.heap.size, 0, none⟩ 1 1 [.int .i64 (x : Int)] rfl rfl ?c1 ?c2 ?c3 ?c4 ?c5 ?_)
          case c1 => exact cell_one_new _ _ _
          case c2 => intro u hu; simp at hu; subst hu; rfl
          case c3 => unfold maxLen; omega
          case c4 => omega
          case c5 => simp; omega
          intro v' w2 hown hgrow _
          have R1 := R v' w2 hown hgrow
          clear R hown hgrow
          go_wp2
          exact ⟨⟨[], y :: B, O ++ [x], ao', 0, bo', bc', rfl, rfl, At.nil _ _ _, hB', by simp, by simp; omega, fun z hz => by simp at hz, hsB, by simp, by simp; omega, R1⟩, by simp [slLen_slice]⟩
        · go_wp2_with (at_builtin; refine wpList_append_own _ rfl _ _ 30 rfl w.heap.size 3 i0 (.int .i64 0) 1 8 Tryz.underlying30 hi hz0 hz1 hz2 rfl (by decide) _ _ _ rfl ((M.drewN nq).own.alloc _) ⟨wr.heap.size, 0, none⟩ 1 1 [.int .i64 (x : Int)] rfl rfl ?c1 ?c2 ?c3 ?c4 ?c5 ?_)
          case c1 => exact cell_one_new _ _ _
          case c2 => intro u hu; simp at hu; subst hu; rfl
          case c3 => unfold maxLen; omega
          case c4 => omega
          case c5 => simp; omega
          intro v' w2 hown hgrow _
          have R1 := R v' w2 hown hgrow
          clear R hown hgrow
          go_wp2
          exact ⟨⟨A, y :: B, O ++ [x], ao' + 1, ac' - 1, bo', bc', rfl, rfl, hA2, hB', by omega, by simp; omega, hsA2, hsB, by omega, by simp; omega, R1⟩, by simp [slLen_slice]⟩
      · have hlt : Op.bytesLess (s.extract x s.size).toList (s.extract y s.size).toList = false := by
          rw [toList_extract, toList_extract]
          exact (ord s).asym hxy
        have R0 := fun nq v' w1 => (M.drewN nq).right (v' := v') (w1 := w1) hxy (Obj.cells #[Value.int IntKind.i64 y] 3) hwb
        clear hxy
        go_wp2_with fail
        go_quiet (fail)
        have R := R0 nq
        clear R0
        by_cases hc : bc' = 1
        · have hBe : B = [] := List.length_eq_zero_iff.1 (by omega)
          subst hBe
          subst hc
          go_wp2_with (at_builtin; refine wpList_append_own _ rfl _ _ 30 rfl w.heap.size 3 i0 (.int .i64 0) 1 8 Tryz.underlying30 hi hz0 hz1 hz2 rfl (by decide) _ _ _ rfl ((M.drewN nq).own.alloc _) ⟨wr.heap.size, 0, none⟩ 1 1 [.int .i64 (y : Int)] rfl rfl ?c1 ?c2 ?c3 ?c4 ?c5 ?_)
          case c1 => exact cell_one_new _ _ _
          case c2 => intro u hu; simp at hu; subst hu; rfl
          case c3 => unfold maxLen; omega
          case c4 => omega
          case c5 => simp; omega
          intro v' w2 hown hgrow _
          have R1 := R v' w2 hown hgrow
          clear R hown hgrow
          go_wp2
          exact ⟨⟨x :: A, [], O ++ [y], ao', ac', bo', 0, rfl, rfl, hA', At.nil _ _ _, by simp; omega, by simp, hsA, fun z hz => by simp at hz, by simp; omega, by simp, R1⟩, by simp [slLen_slice]⟩
        · go_wp2_with (at_builtin; refine wpList_append_own _ rfl _ _ 30 rfl w.heap.size 3 i0 (.int .i64 0) 1 8 Tryz.underlying30 hi hz0 hz1 hz2 rfl (by decide) _ _ _ rfl ((M.drewN nq).own.alloc _) ⟨wr.heap.size, 0, none⟩ 1 1 [.int .i64 (y : Int)] rfl rfl ?c1 ?c2 ?c3 ?c4 ?c5 ?_)
          case c1 => exact cell_one_new _ _ _
          case c2 => intro u hu; simp at hu; subst hu; rfl
          case c3 => unfold maxLen; omega
          case c4 => omega
          case c5 => simp; omega
          intro v' w2 hown hgrow _
          have R1 := R v' w2 hown hgrow
          clear R hown hgrow
          go_wp2
          exact ⟨⟨x :: A, B, O ++ [y], ao', ac', bo' + 1, bc' - 1, rfl, rfl, hA', hB2, by simp; omega, by omega, hsA, hsB2, by simp; omega, by omega, R1⟩, by simp [slLen_slice]⟩
    · have hmg : Cc.mrg (before s) A B = A ++ B := by
        cases A with
        | nil => rw [Cc.mrg_nil_left]; rfl
        | cons x A =>
          cases B with
          | nil => rw [Cc.mrg_nil_right]; simp
          | cons y B => exact absurd ⟨by simp, by simp⟩ hboth
      have hall := M.all
      rw [hmg] at hall
      have hAr : At wr ab ao' A := hA'.below M.bl hab
      have hfin : ∀ (v' : Value) (w2 : World), w2.ownsRow w.heap.size 3 1 v' (O.length + A.length + B.length) (vals O ++ vals A ++ vals B) → w2.ownsRow w.heap.size 3 1 v' (A0.length + B0.length) (vals (Cc.mrg (before s) A0 B0)) := by
        intro v' w2 h
        have e1 : vals (Cc.mrg (before s) A0 B0) = vals O ++ vals A ++ vals B := by rw [hall]; simp [vals]
        have e2 : A0.length + B0.length = O.length + A.length + B.length := by rw [← hlen, hall]; simp; omega
        rw [e1, e2]; exact h
      clear hall hmg hlen
      have hbd : (O.length + A.length + B.length) * 8 ≤ 140737488355328 := by omega
      by_cases hAe : A = []
      · subst hAe
        clear hboth
        go_wp2_with (at_builtin; refine wpList_append_own _ rfl _ _ 30 rfl w.heap.size 3 i0 (.int .i64 0) 1 8 Tryz.underlying30 hi hz0 hz1 hz2 rfl (by decide) _ _ _ rfl M.own ⟨ab, ao', none⟩ 0 ac' (vals []) rfl rfl hAr.vals (vals_one _) ?c3 ?c4 hwb ?_)
        case c3 => unfold maxLen; omega
        case c4 => omega
        intro v1 w1 hown1 hgrow1 _
        have hb1 : Below w.heap.size w w1 := M.bl.grown hgrow1 hwb (fun k hk => (M.own.lt k hk).1)
        have hz1' := hb1.size
        have hBr : At w1 bb bo' B := hB'.below hb1 hbb
        go_wp2_with (at_builtin; refine wpList_append_own _ rfl _ _ 30 rfl w.heap.size 3 i0 (.int .i64 0) 1 8 Tryz.underlying30 hi hz0 hz1 hz2 rfl (by decide) _ _ _ rfl hown1 ⟨bb, bo', none⟩ B.length bc' (vals B) rfl (by simp [vals]) hBr.vals (vals_one _) ?c3 ?c4 hz1' ?_)
        case c3 => unfold maxLen; omega
        case c4 => omega
        intro v2 w2 hown2 hgrow2 _
        have hb2 : Below w.heap.size w w2 := hb1.grown hgrow2 hz1' (fun k hk => (hown1.lt k hk).1)
        have R := hfin v2 w2 (by simpa [List.append_assoc] using hown2)
        clear hown1 hown2 hgrow1 hgrow2 hfin
        go_wp2
        go_ret
        exact ⟨v2, rfl, R, hb2⟩
      · have hBe : B = [] := by
          cases B with
          | nil => rfl
          | cons y B => exact absurd ⟨hAe, by simp⟩ hboth
        subst hBe
        clear hboth
        have hAl : (0 : Int) < (A.length : Int) := by
          cases A with
          | nil => exact absurd rfl hAe
          | cons x A => simp
        clear hAe
        go_wp2_with (at_builtin; refine wpList_append_own _ rfl _ _ 30 rfl w.heap.size 3 i0 (.int .i64 0) 1 8 Tryz.underlying30 hi hz0 hz1 hz2 rfl (by decide) _ _ _ rfl M.own ⟨ab, ao', none⟩ A.length ac' (vals A) rfl (by simp [vals]) hAr.vals (vals_one _) ?c3 ?c4 hwb ?_)
        case c3 => unfold maxLen; omega
        case c4 => simpa using hbd
        intro v1 w1 hown1 hgrow1 _
        have hb1 : Below w.heap.size w w1 := M.bl.grown hgrow1 hwb (fun k hk => (M.own.lt k hk).1)
        have hz1' := hb1.size
        have hBr : At w1 bb bo' [] := At.nil _ _ _
        go_wp2_with (at_builtin; refine wpList_append_own _ rfl _ _ 30 rfl w.heap.size 3 i0 (.int .i64 0) 1 8 Tryz.underlying30 hi hz0 hz1 hz2 rfl (by decide) _ _ _ rfl hown1 ⟨bb, bo', none⟩ 0 bc' (vals []) rfl rfl hBr.vals (vals_one _) ?c3 ?c4 hz1' ?_)
        case c3 => unfold maxLen; omega
        case c4 => simpa using hbd
        intro v2 w2 hown2 hgrow2 _
        have hb2 : Below w.heap.size w w2 := hb1.grown hgrow2 hz1' (fun k hk => (hown1.lt k hk).1)
        have R := hfin v2 w2 (by simpa [List.append_assoc] using hown2)
        clear hown1 hown2 hgrow1 hgrow2 hfin
        go_wp2
        go_ret
        exact ⟨v2, rfl, R, hb2⟩

end Go.Proofs.YtopihgmemnokkaaGreat
