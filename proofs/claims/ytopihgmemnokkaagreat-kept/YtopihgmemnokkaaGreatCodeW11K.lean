import Derived.Test.YtopihgmemnokkaaGreatCodeW5K
namespace Go.Proofs.YtopihgmemnokkaaGreat
open Go.RowKit Go.Shelf Go.Lib
def tx (p : List Bool) : ByteArray := ⟨(p.map fun b => if b then (49 : UInt8) else 48).toArray⟩
def rowS (t : Nat → ByteArray) : Array Value := (Array.range 256).map fun c => .string (t c)
theorem rowS_get {t : Nat → ByteArray} {c : Nat} (h : c < 256) : (rowS t)[c]? = some (.string (t c)) := by simp [rowS, h]
def SRow (w : World) (g : Nat) (t : Nat → ByteArray) : Prop := w.heap[g]? = some (.cells (rowS t) 9 (0, 0))
theorem SRow.cell {w : World} {g : Nat} {t : Nat → ByteArray} (h : SRow w g t) {c : Nat} (hc : c < 256) : w.cell? ⟨g, c, none⟩ = some (.string (t c)) := by
  unfold SRow at h; unfold World.cell?; rw [h]; exact rowS_get hc
theorem SRow.keep {P : Nat → Prop} {w w' : World} {g : Nat} {t : Nat → ByteArray} (h : SRow w g t) (hk : Kept P w w') (hn : ¬ P g) : SRow w' g t := by
  unfold SRow at *
  rw [hk.block g (Array.getElem?_eq_some_iff.1 h).1 hn]; exact h
theorem SRow.below {w w' : World} {g : Nat} {t : Nat → ByteArray} (h : SRow w g t) (hb : Below w.heap.size w w') : SRow w' g t :=
  h.keep (Kept.of_below hb (Nat.le_refl _) (fun _ => False)) (fun h => h)
theorem Tryz.infoStr : (Tryz.prog.info? 9).map (fun i => (i.zero, i.size, i.bytes)) = some (some (.string ByteArray.empty), 1, 16) := by kernel_rfl
theorem run_ix_run (G : Nat → Nat × Nat) (c : Nat) (hc : c < 256) (w : World) :
    (Instr.index 115 (.agg (rowR G)) (.int .i64 (c : Int))).run Tryz.prog w = .ok (.agg #[.int .i64 ((G c).1 : Nat), .int .u64 ((G c).2 : Nat)]) w := by
  have e0 := rowR_get0 G hc
  have e1 := rowR_get1 G hc
  have hx : (rowR G).extract (c * 2) (c * 2 + 2) = #[.int .i64 ((G c).1 : Nat), .int .u64 ((G c).2 : Nat)] := by
    apply Array.ext_getElem?
    intro j
    rw [Array.getElem?_extract, size_rowR]
    have hm : min (c * 2 + 2) 512 - c * 2 = 2 := by omega
    rw [hm]
    match j with
    | 0 => simpa using e0
    | 1 => simpa using e1
    | j + 2 => simp; omega
  simp [Instr.index, run_underlying Tryz.underlying115, asIntOf, part, Tryz.isAgg114, Tryz.sizeOf114, hx]
  omega
theorem sm_bound {k B : Nat} {g : Nat → Nat} (h : ∀ c, c < k → g c ≤ B) : sm k g ≤ k * B := by
  induction k with
  | zero => simp [sm]
  | succ k ih => simp only [sm]; have := ih (fun c hc => h c (by omega)); have := h k (by omega); rw [Nat.succ_mul]; omega
theorem spellF_small : ∀ (t : Hf.T) (n v : Nat) (g : Nat → Nat × Nat), v < 2 ^ n → (∀ c, (g c).2 < 2 ^ (g c).1) → ∀ c, (spellF t n v g c).2 < 2 ^ (spellF t n v g c).1
  | .leaf d, n, v, g, hv, hg, c => by
    simp only [spellF, updR]
    by_cases h : c = d
    · simp [h, hv]
    · simp [h]; exact hg c
  | .node l r, n, v, g, hv, hg, c =>
    spellF_small r (n + 1) (2 * v + 1) _ (by rw [Nat.pow_succ]; omega) (spellF_small l (n + 1) (2 * v) g (by rw [Nat.pow_succ]; omega) hg) c
theorem codes_small {f : Nat → Nat} {G : Nat → Nat × Nat} (h : CodesOf f G) (c : Nat) : (G c).2 < 2 ^ (G c).1 := by
  have h0 : ∀ c, (noRun c).2 < 2 ^ (noRun c).1 := fun c => by simp [noRun]
  rcases h with ⟨_, rfl⟩ | ⟨c0, _, _, rfl⟩ | ⟨_, l, _, _, rfl⟩
  · exact h0 c
  · exact spellF_small (.leaf c0) 1 0 noRun (by decide) h0 c
  · exact spellF_small _ 0 0 noRun (by decide) h0 c
theorem cnt_list (s : ByteArray) (n : Nat) (l : List Nat) (hl : l.Nodup) : (l.map (cntB s n)).sum ≤ n := by
  induction n with
  | zero =>
    have : ∀ l : List Nat, (l.map (cntB s 0)).sum = 0 := fun l => by
      induction l with
      | nil => rfl
      | cons a l ih => rw [List.map_cons, List.sum_cons, ih]; rfl
    rw [this]; exact Nat.le_refl _
  | succ n ih =>
    have h1 : ∀ l : List Nat, (l.map (cntB s (n + 1))).sum = (l.map (cntB s n)).sum + l.count (BY s n) := fun l => by
      induction l with
      | nil => rfl
      | cons a l ih =>
        rw [List.map_cons, List.sum_cons, ih, List.map_cons, List.sum_cons, List.count_cons]
        have : cntB s (n + 1) a = cntB s n a + (if a == BY s n then 1 else 0) := by
          unfold cntB
          simp only [Cc.cn]
          by_cases e : BY s n = a
          · subst e; simp
          · have e' : ¬ a = BY s n := fun x => e x.symm
            simp [e, e']
        omega
    have h2 := List.nodup_iff_count.1 hl (BY s n)
    rw [h1]; omega
theorem wt_list (f : Nat → Nat) : ∀ t : Hf.T, Hf.wt f t = ((Hf.bytes t).map f).sum
  | .leaf c => by simp [Hf.wt, Hf.bytes]
  | .node l r => by simp only [Hf.wt, Hf.bytes, List.map_append, List.sum_append]; rw [wt_list f l, wt_list f r]
end Go.Proofs.YtopihgmemnokkaaGreat
namespace Go.Proofs.YtopihgmemnokkaaGreat
open Go.RowKit Go.Shelf Go.Lib
theorem tx_inj {a b : List Bool} (h : tx a = tx b) : a = b := by
  have h1 : (a.map fun b => if b then (49 : UInt8) else 48) = b.map fun b => if b then (49 : UInt8) else 48 := by
    have := congrArg (fun x => x.data.toList) h
    simpa [tx] using this
  refine List.map_inj_right ?_ |>.1 h1
  intro x y e
  cases x <;> cases y <;> simp at e ⊢
theorem tx_extract (l : List Bool) (a b : Nat) : (tx l).extract a b = tx ((l.drop a).take (b - a)) := by
  apply ByteArray.ext
  rw [ByteArray.data_extract]
  apply Array.toList_inj.1
  simp [tx, List.map_drop, List.map_take]
theorem toList_inj' {a b : ByteArray} (h : a.toList = b.toList) : a = b := by
  rw [ByteArray.toList_eq, ByteArray.toList_eq] at h
  exact ByteArray.ext (Array.toList_inj.1 h)
def cat (k : Nat → List Bool) (s : ByteArray) : Nat → List Bool
  | 0 => []
  | p + 1 => cat k s p ++ k (BY s p)
def cl (k : Nat → List Bool) (s : ByteArray) (p : Nat) : Nat := (cat k s p).length
theorem cl_zero (k : Nat → List Bool) (s : ByteArray) : cl k s 0 = 0 := rfl
theorem cl_succ (k : Nat → List Bool) (s : ByteArray) (p : Nat) : cl k s (p + 1) = cl k s p + (k (BY s p)).length := by simp [cl, cat]
theorem cl_mono (k : Nat → List Bool) (s : ByteArray) {p q : Nat} (h : p ≤ q) : cl k s p ≤ cl k s q := by
  induction h with
  | refl => exact Nat.le_refl _
  | step h ih => rw [cl_succ]; omega
theorem cat_to (k : Nat → List Bool) (s : ByteArray) {p q : Nat} (h : p ≤ q) : ∃ r, cat k s q = cat k s p ++ r := by
  induction h with
  | refl => exact ⟨[], by simp⟩
  | step h ih => obtain ⟨r, hr⟩ := ih; exact ⟨r ++ k (BY s _), by rw [cat, hr, List.append_assoc]⟩
theorem cat_piece (k : Nat → List Bool) (s : ByteArray) {p q i : Nat} (h : p < q) (h1 : cl k s p ≤ i) (h2 : i ≤ cl k s (p + 1)) :
    ((cat k s q).drop (cl k s p)).take (i - cl k s p) = (k (BY s p)).take (i - cl k s p) := by
  obtain ⟨r, hr⟩ := cat_to k s (show p + 1 ≤ q from h)
  rw [hr, cat, List.append_assoc]
  have hd : (cat k s p ++ (k (BY s p) ++ r)).drop (cl k s p) = k (BY s p) ++ r := by
    unfold cl
    rw [List.drop_append_of_le_length (Nat.le_refl _), List.drop_length, List.nil_append]
  rw [hd]
  rw [List.take_append_of_le_length]
  rw [cl_succ] at h2; omega
theorem sm_add (n : Nat) (f g : Nat → Nat) : (sm n fun c => f c + g c) = sm n f + sm n g := by
  induction n with
  | zero => rfl
  | succ n ih => simp only [sm] at *; omega
theorem sm_one (n b : Nat) (L : Nat → Nat) (h : b < n) : (sm n fun c => if b = c then L c else 0) = L b := by
  induction n with
  | zero => omega
  | succ n ih =>
    simp only [sm]
    by_cases e : b = n
    · subst e
      have : (sm b fun c => if b = c then L c else 0) = 0 := by
        have h0 : (sm b fun c => if b = c then L c else 0) = sm b fun _ => 0 := sm_congr fun c hc => by rw [if_neg (by omega)]
        rw [h0]
        have hz : ∀ m, (sm m fun _ => 0) = 0 := fun m => by induction m with
          | zero => rfl
          | succ m ih => simp [sm, ih]
        exact hz b
      simp [this]
    · rw [ih (by omega), if_neg e]; omega
def ac (L : Nat → Nat) (s : ByteArray) : Nat → Nat
  | 0 => 0
  | p + 1 => ac L s p + L (BY s p)
theorem sm_ac (L : Nat → Nat) (s : ByteArray) (p : Nat) : (sm 256 fun c => cntB s p c * L c) = ac L s p := by
  induction p with
  | zero =>
    have h0 : (sm 256 fun c => cntB s 0 c * L c) = sm 256 fun _ => 0 := sm_congr fun c hc => by simp [cntB, Cc.cn]
    have hz : ∀ m, (sm m fun _ => 0) = 0 := fun m => by induction m with
      | zero => rfl
      | succ m ih => simp [sm, ih]
    rw [h0, hz]; rfl
  | succ p ih =>
    have h1 : (sm 256 fun c => cntB s (p + 1) c * L c) = sm 256 fun c => cntB s p c * L c + if BY s p = c then L c else 0 := sm_congr fun c hc => by
      rw [← cntB_succ]
      by_cases e : c = BY s p
      · subst e; rw [Cc.put_same, if_pos rfl, Nat.add_mul, Nat.one_mul]
      · rw [Cc.put_other _ _ e, if_neg (fun x => e x.symm)]; omega
    have hb := BY_le s p
    rw [h1, sm_add, ih, sm_one _ _ _ (by omega)]; rfl
theorem cl_ac (k : Nat → List Bool) (s : ByteArray) (p : Nat) : cl k s p = ac (fun c => (k c).length) s p := by
  induction p with
  | zero => rfl
  | succ p ih => rw [cl_succ, ih]; rfl
theorem sm_cat (k : Nat → List Bool) (s : ByteArray) (p : Nat) : (sm 256 fun c => cntB s p c * (k c).length) = cl k s p := by
  rw [cl_ac]; exact sm_ac (fun c => (k c).length) s p
theorem cnt_there (s : ByteArray) {p q : Nat} (h : p < q) : 0 < cntB s q (BY s p) := by
  induction q with
  | zero => omega
  | succ q ih =>
    rw [← cntB_succ]
    by_cases e : BY s p = BY s q
    · rw [e, Cc.put_same]; omega
    · rw [Cc.put_other _ _ e]
      refine ih ?_
      rcases Nat.lt_or_ge p q with h1 | h1
      · exact h1
      · have : p = q := by omega
        subst this; exact absurd rfl e
theorem Codes.there {f : Nat → Nat} {k : Nat → List Bool} (h : Codes f k) {c : Nat} (hc : c < 256) (hk : k c ≠ []) : 0 < f c := by
  rcases Nat.eq_zero_or_pos (f c) with h0 | h0
  · exact absurd (h.none c hc h0) hk
  · exact h0
theorem code_match {s : ByteArray} {k : Nat → List Bool} (CD : Codes (cntB s s.size) k) {p i c : Nat} (hp : p < s.size) (h1 : cl k s p ≤ i) (h2 : i ≤ cl k s (p + 1)) (hc : c < 256) (hk : k c ≠ []) :
    ((tx (cat k s s.size)).extract (cl k s p) i).toList = (tx (k c)).toList ↔ (c = BY s p ∧ i = cl k s (p + 1)) := by
  rw [tx_extract, cat_piece k s hp h1 h2]
  have hb := BY_le s p
  constructor
  · intro h
    have e := tx_inj (toList_inj' h)
    have hpre : k c <+: k (BY s p) := by rw [← e]; exact List.take_prefix _ _
    have hcb : c = BY s p := by
      rcases Nat.decEq c (BY s p) with h3 | h3
      · exact absurd hpre (CD.free c (BY s p) hc (by omega) h3 (CD.there hc hk) (cnt_there s hp))
      · exact h3
    refine ⟨hcb, ?_⟩
    have hl := congrArg List.length e
    rw [List.length_take, ← hcb] at hl
    rw [cl_succ, ← hcb] at h2 ⊢
    omega
  · rintro ⟨rfl, rfl⟩
    rw [cl_succ, Nat.add_sub_cancel_left, List.take_of_length_le (Nat.le_refl _)]
end Go.Proofs.YtopihgmemnokkaaGreat
namespace Go.Proofs.YtopihgmemnokkaaGreat
def sortL (f : Nat → Nat) : List Hf.T → List Hf.T
  | [] => []
  | t :: l => Hf.put f t (sortL f l)
theorem sortL_perm (f : Nat → Nat) : ∀ l : List Hf.T, (sortL f l).Perm l
  | [] => List.Perm.refl _
  | t :: l => (Hf.put_perm f t (sortL f l)).trans ((sortL_perm f l).cons t)
theorem sortL_srt (f : Nat → Nat) : ∀ l : List Hf.T, (l.flatMap Hf.bytes).Nodup → Hf.Srt f (sortL f l)
  | [], _ => List.Pairwise.nil
  | t :: l, h => by
    have h2 := h
    rw [List.flatMap_cons, List.nodup_append] at h
    refine Hf.put_srt (sortL_srt f l h.2.1) (fun y hy e => ?_)
    have hyl : y ∈ l := (sortL_perm f l).mem_iff.1 hy
    exact Hf.nd_least h2 hyl _ (Hf.least_mem t) (by rw [← e]; exact Hf.least_mem y)
theorem leaves_inv (f : Nat → Nat) : Hf.Inv f (sortL f (leavesTo f 256)) := by
  have hp := sortL_perm f (leavesTo f 256)
  have hl : ∀ t ∈ sortL f (leavesTo f 256), ∃ c, t = .leaf c ∧ c < 256 ∧ 0 < f c := fun t ht => leaves_mem (hp.mem_iff.1 ht)
  refine ⟨sortL_srt f _ (leaves_nodup f 256), ?_, (Hf.flat_perm hp).nodup_iff.2 (leaves_nodup f 256), ?_, ?_⟩
  · intro t ht c hc
    obtain ⟨d, rfl, _, h⟩ := hl t ht
    have : c = d := by simpa [Hf.bytes] using hc
    rw [this]; exact h
  · intro t ht
    obtain ⟨d, rfl, _, _⟩ := hl t ht
    exact trivial
  · intro t ht u _
    obtain ⟨d, rfl, _, _⟩ := hl t ht
    exact Nat.zero_le _
def codesG (f : Nat → Nat) : Nat → Nat × Nat :=
  match leavesTo f 256 with
  | [] => noRun
  | [.leaf c] => updR noRun c (1, 0)
  | _ => spellF (Hf.join f (sortL f (leavesTo f 256))) 0 0 noRun
theorem codesG_of (f : Nat → Nat) : CodesOf f (codesG f) := by
  unfold codesG
  split
  · next h => exact .inl ⟨h, rfl⟩
  · next c h =>
    refine .inr (.inl ⟨c, ?_, h, rfl⟩)
    obtain ⟨d, e, hd, _⟩ := leaves_mem (f := f) (k := 256) (t := .leaf c) (by rw [h]; simp)
    have : c = d := by simpa using e
    rw [this]; exact hd
  · next h1 h2 =>
    refine .inr (.inr ⟨?_, _, sortL_perm f _, leaves_inv f, rfl⟩)
    match h : leavesTo f 256 with
    | [] => exact absurd h h1
    | [t] =>
      obtain ⟨c, rfl, _, _⟩ := leaves_mem (f := f) (k := 256) (t := t) (by rw [h]; simp)
      exact absurd h (h2 c)
    | _ :: _ :: _ => simp
theorem lt_asymm {f : Nat → Nat} {a b : Hf.T} (h : Hf.lt f a b = true) : ¬ Hf.lt f b a = true := by
  rw [Hf.lt_iff] at h ⊢; omega
theorem srt_uniq {f : Nat → Nat} : ∀ {l m : List Hf.T}, Hf.Srt f l → Hf.Srt f m → l.Perm m → l = m
  | [], m, _, _, h => (List.Perm.nil_eq h)
  | a :: l, [], _, _, h => by have := h.length_eq; simp at this
  | a :: l, b :: m, hl, hm, h => by
    have h1 := List.pairwise_cons.1 hl
    have h2 := List.pairwise_cons.1 hm
    have hab : a = b := by
      have ha : a ∈ b :: m := h.mem_iff.1 (by simp)
      have hb : b ∈ a :: l := h.mem_iff.2 (by simp)
      rcases List.mem_cons.1 ha with e | ha
      · exact e
      · rcases List.mem_cons.1 hb with e | hb
        · exact e.symm
        · exact absurd (h1.1 b hb) (lt_asymm (h2.1 a ha))
    subst hab
    rw [srt_uniq h1.2 h2.2 h.cons_inv]
theorem codes_uniq {f : Nat → Nat} {G : Nat → Nat × Nat} (h : CodesOf f G) : G = codesG f := by
  have h' := codesG_of f
  rcases h with ⟨h0, rfl⟩ | ⟨c, _, h1, rfl⟩ | ⟨h2, l, hp, hI, rfl⟩
  · rcases h' with ⟨_, e⟩ | ⟨d, _, e, _⟩ | ⟨e, _⟩
    · exact e.symm
    · rw [h0] at e; simp at e
    · rw [h0] at e; simp at e
  · rcases h' with ⟨e, _⟩ | ⟨d, _, e, e2⟩ | ⟨e, _⟩
    · rw [h1] at e; simp at e
    · rw [h1] at e
      have : c = d := by simpa using e
      rw [e2, this]
    · rw [h1] at e; simp at e
  · rcases h' with ⟨e, _⟩ | ⟨d, _, e, _⟩ | ⟨_, l', hp', hI', e⟩
    · rw [e] at h2; simp at h2
    · rw [e] at h2; simp at h2
    · rw [e, srt_uniq hI.srt hI'.srt (hp.trans hp'.symm)]
end Go.Proofs.YtopihgmemnokkaaGreat
