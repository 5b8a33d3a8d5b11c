import Derived.Test.YtopihgmemnokkaaCodeW11
namespace Go.Proofs.Ytopihgmemnokkaa
open Go.RowKit Go.Shelf Go.Lib

theorem tx_byte (p : List Bool) {i : Nat} (h : i < (tx p).size) : (tx p)[i].toNat = 48 ∨ (tx p)[i].toNat = 49 := by
  have hl : i < p.length := by rw [← tx_size]; exact h
  have : (tx p)[i] = if p[i] then (49 : UInt8) else 48 := by
    show (tx p).data[i]'h = _
    simp [tx]
  rw [this]
  cases p[i]
  · exact .inl rfl
  · exact .inr rfl
theorem toList_isEmpty (a : ByteArray) : a.toList.isEmpty = decide (a.size = 0) := by
  rw [ByteArray.toList_eq]
  show a.data.toList.isEmpty = decide (a.data.size = 0)
  cases h : a.data with
  | mk l => cases l <;> simp
theorem tx_toList_isEmpty (p : List Bool) : (tx p).toList.isEmpty = decide (p = []) := by
  rw [toList_isEmpty, tx_size]
  cases p <;> simp

theorem tx_append (a b : List Bool) : tx (a ++ b) = tx a ++ tx b := by
  apply ByteArray.ext
  rw [ByteArray.data_append]
  simp [tx]
theorem tx_inj {a b : List Bool} (h : tx a = tx b) : a = b := by
  have h1 : (a.map fun b => if b then (49 : UInt8) else 48) = b.map fun b => if b then (49 : UInt8) else 48 := by
    have := congrArg (fun x => x.data.toList) h
    simpa [tx] using this
  refine List.map_inj_right ?_ |>.1 h1
  intro x y e
  cases x <;> cases y <;> simp at e ⊢
theorem tx_extract (l : List Bool) (a b : Nat) : (tx l).extract a b = tx ((l.drop a).take (b - a)) := by
  apply ByteArray.ext
  rw [ByteArray.data_extract]
  apply Array.toList_inj.1
  simp [tx, List.map_drop, List.map_take]
theorem toList_inj' {a b : ByteArray} (h : a.toList = b.toList) : a = b := by
  rw [ByteArray.toList_eq, ByteArray.toList_eq] at h
  exact ByteArray.ext (Array.toList_inj.1 h)

/-- the codes of the first bytes of a text, one behind the other -/
def cat (k : Nat → List Bool) (s : ByteArray) : Nat → List Bool
  | 0 => []
  | p + 1 => cat k s p ++ k (BY s p)
/-- how many bits they have -/
def cl (k : Nat → List Bool) (s : ByteArray) (p : Nat) : Nat := (cat k s p).length
theorem cl_zero (k : Nat → List Bool) (s : ByteArray) : cl k s 0 = 0 := rfl
theorem cl_succ (k : Nat → List Bool) (s : ByteArray) (p : Nat) : cl k s (p + 1) = cl k s p + (k (BY s p)).length := by simp [cl, cat]
theorem cl_mono (k : Nat → List Bool) (s : ByteArray) {p q : Nat} (h : p ≤ q) : cl k s p ≤ cl k s q := by
  induction h with
  | refl => exact Nat.le_refl _
  | step h ih => rw [cl_succ]; omega
theorem cat_to (k : Nat → List Bool) (s : ByteArray) {p q : Nat} (h : p ≤ q) : ∃ r, cat k s q = cat k s p ++ r := by
  induction h with
  | refl => exact ⟨[], by simp⟩
  | step h ih => obtain ⟨r, hr⟩ := ih; exact ⟨r ++ k (BY s _), by rw [cat, hr, List.append_assoc]⟩
theorem cat_piece (k : Nat → List Bool) (s : ByteArray) {p q i : Nat} (h : p < q) (h1 : cl k s p ≤ i) (h2 : i ≤ cl k s (p + 1)) :
    ((cat k s q).drop (cl k s p)).take (i - cl k s p) = (k (BY s p)).take (i - cl k s p) := by
  obtain ⟨r, hr⟩ := cat_to k s (show p + 1 ≤ q from h)
  rw [hr, cat, List.append_assoc]
  have hd : (cat k s p ++ (k (BY s p) ++ r)).drop (cl k s p) = k (BY s p) ++ r := by
    unfold cl
    rw [List.drop_append_of_le_length (Nat.le_refl _), List.drop_length, List.nil_append]
  rw [hd]
  rw [List.take_append_of_le_length]
  rw [cl_succ] at h2; omega

theorem sm_add (n : Nat) (f g : Nat → Nat) : (sm n fun c => f c + g c) = sm n f + sm n g := by
  induction n with
  | zero => rfl
  | succ n ih => simp only [sm] at *; omega
theorem sm_one (n b : Nat) (L : Nat → Nat) (h : b < n) : (sm n fun c => if b = c then L c else 0) = L b := by
  induction n with
  | zero => omega
  | succ n ih =>
    simp only [sm]
    by_cases e : b = n
    · subst e
      have : (sm b fun c => if b = c then L c else 0) = 0 := by
        have h0 : (sm b fun c => if b = c then L c else 0) = sm b fun _ => 0 := sm_congr fun c hc => by rw [if_neg (by omega)]
        rw [h0]
        have hz : ∀ m, (sm m fun _ => 0) = 0 := fun m => by induction m with
          | zero => rfl
          | succ m ih => simp [sm, ih]
        exact hz b
      simp [this]
    · rw [ih (by omega), if_neg e]; omega
/-- the sum over the first bytes of a text -/
def ac (L : Nat → Nat) (s : ByteArray) : Nat → Nat
  | 0 => 0
  | p + 1 => ac L s p + L (BY s p)
theorem sm_ac (L : Nat → Nat) (s : ByteArray) (p : Nat) : (sm 256 fun c => cntB s p c * L c) = ac L s p := by
  induction p with
  | zero =>
    have h0 : (sm 256 fun c => cntB s 0 c * L c) = sm 256 fun _ => 0 := sm_congr fun c hc => by simp [cntB, Cc.cn]
    have hz : ∀ m, (sm m fun _ => 0) = 0 := fun m => by induction m with
      | zero => rfl
      | succ m ih => simp [sm, ih]
    rw [h0, hz]; rfl
  | succ p ih =>
    have h1 : (sm 256 fun c => cntB s (p + 1) c * L c) = sm 256 fun c => cntB s p c * L c + if BY s p = c then L c else 0 := sm_congr fun c hc => by
      rw [← cntB_succ]
      by_cases e : c = BY s p
      · subst e; rw [Cc.put_same, if_pos rfl, Nat.add_mul, Nat.one_mul]
      · rw [Cc.put_other _ _ e, if_neg (fun x => e x.symm)]; omega
    have hb := BY_le s p
    rw [h1, sm_add, ih, sm_one _ _ _ (by omega)]; rfl
theorem cl_ac (k : Nat → List Bool) (s : ByteArray) (p : Nat) : cl k s p = ac (fun c => (k c).length) s p := by
  induction p with
  | zero => rfl
  | succ p ih => rw [cl_succ, ih]; rfl
theorem sm_cat (k : Nat → List Bool) (s : ByteArray) (p : Nat) : (sm 256 fun c => cntB s p c * (k c).length) = cl k s p := by
  rw [cl_ac]; exact sm_ac (fun c => (k c).length) s p
theorem ac_bound {L : Nat → Nat} {s : ByteArray} {B : Nat} (h : ∀ c, c < 256 → L c ≤ B) (p : Nat) : ac L s p ≤ p * B := by
  induction p with
  | zero => simp [ac]
  | succ p ih =>
    have hb := BY_le s p
    have := h (BY s p) (by omega)
    simp only [ac, Nat.add_mul]; omega

theorem cnt_there (s : ByteArray) {p q : Nat} (h : p < q) : 0 < cntB s q (BY s p) := by
  induction q with
  | zero => omega
  | succ q ih =>
    rw [← cntB_succ]
    by_cases e : BY s p = BY s q
    · rw [e, Cc.put_same]; omega
    · rw [Cc.put_other _ _ e]
      refine ih ?_
      rcases Nat.lt_or_ge p q with h1 | h1
      · exact h1
      · have : p = q := by omega
        subst this; exact absurd rfl e
theorem Codes.there {f : Nat → Nat} {k : Nat → List Bool} (h : Codes f k) {c : Nat} (hc : c < 256) (hk : k c ≠ []) : 0 < f c := by
  rcases Nat.eq_zero_or_pos (f c) with h0 | h0
  · exact absurd (h.none c hc h0) hk
  · exact h0

theorem code_match {s : ByteArray} {k : Nat → List Bool} (CD : Codes (cntB s s.size) k) {p i c : Nat} (hp : p < s.size) (h1 : cl k s p ≤ i) (h2 : i ≤ cl k s (p + 1)) (hc : c < 256) (hk : k c ≠ []) :
    ((tx (cat k s s.size)).extract (cl k s p) i).toList = (tx (k c)).toList ↔ (c = BY s p ∧ i = cl k s (p + 1)) := by
  rw [tx_extract, cat_piece k s hp h1 h2]
  have hb := BY_le s p
  constructor
  · intro h
    have e := tx_inj (toList_inj' h)
    have hpre : k c <+: k (BY s p) := by rw [← e]; exact List.take_prefix _ _
    have hcb : c = BY s p := by
      rcases Nat.decEq c (BY s p) with h3 | h3
      · exact absurd hpre (CD.free c (BY s p) hc (by omega) h3 (CD.there hc hk) (cnt_there s hp))
      · exact h3
    refine ⟨hcb, ?_⟩
    have hl := congrArg List.length e
    rw [List.length_take, ← hcb] at hl
    rw [cl_succ, ← hcb] at h2 ⊢
    omega
  · rintro ⟨rfl, rfl⟩
    rw [cl_succ, Nat.add_sub_cancel_left, List.take_of_length_le (Nat.le_refl _)]
theorem code_none {k : Nat → List Bool} {l : List Bool} {i c : Nat} (hk : k c ≠ []) : ¬ ((tx l).extract i i).toList = (tx (k c)).toList := by
  rw [tx_extract, Nat.sub_self, List.take_zero]
  intro h
  exact hk (tx_inj (toList_inj' h)).symm

end Go.Proofs.Ytopihgmemnokkaa
