import Derived.Test.YtopihgmemnokkaaGreatAppK
import Derived.Test.YtopihgmemnokkaaGreatWalk7K
namespace Go.Proofs.YtopihgmemnokkaaGreat
open Go.RowKit
def wd (p : ByteArray) : List Nat := p.data.toList.map UInt8.toNat
theorem mt_prefix (t : ByteArray) : ∀ (q : List UInt8) (i : Nat), Cc.mt (LT t) (q.map UInt8.toNat) i = true ↔ q <+: t.data.toList.drop i
  | [], i => by simp [Cc.mt]
  | c :: q, i => by
    have IH := mt_prefix t q (i + 1)
    simp only [List.map_cons, Cc.mt, Bool.and_eq_true, decide_eq_true_eq]
    rw [IH]
    by_cases h : i < t.size
    · rw [LT_lt t h, drop_cons t h, List.cons_prefix_cons]
      constructor
      · rintro ⟨h1, h2⟩
        exact ⟨UInt8.toNat_inj.1 (by omega), h2⟩
      · rintro ⟨h1, h2⟩
        exact ⟨by rw [h1], h2⟩
    · rw [drop_all t (by omega)]
      constructor
      · rintro ⟨h1, _⟩
        unfold LT at h1
        simp [h] at h1
      · intro h1
        have := h1.length_le
        simp at this
        omega
theorem toList_ext (t : ByteArray) (i n : Nat) : (t.extract i (i + n)).toList = (t.data.toList.drop i).take n := by
  rw [ByteArray.toList_eq, ByteArray.data_extract, Array.toList_extract, List.extract_eq_take_drop]
  congr 1
  omega
theorem mt_atB (t p : ByteArray) {i : Nat} (hi : i ≤ t.size) : Cc.mt (LT t) (wd p) i = atB t p i := by
  have h := mt_prefix t p.data.toList i
  have hl : p.data.toList.length = p.size := by rw [Array.length_toList]; rfl
  have hd : (t.data.toList.drop i).length = t.size - i := by rw [List.length_drop, Array.length_toList]; rfl
  rw [Bool.eq_iff_iff]
  unfold wd
  rw [h]
  unfold atB
  rw [Bool.and_eq_true, decide_eq_true_eq, beq_iff_eq]
  constructor
  · intro hp
    have h1 := hp.length_le
    rw [hl, hd] at h1
    have h2 : i + p.size ≤ t.size := by omega
    refine ⟨h2, ?_⟩
    rw [toList_ext t i p.size, ByteArray.toList_eq]
    have h3 := List.prefix_iff_eq_take.1 hp
    rw [hl] at h3
    exact h3.symm
  · rintro ⟨h1, h2⟩
    rw [toList_ext t i p.size, ByteArray.toList_eq] at h2
    rw [List.prefix_iff_eq_take, hl]
    exact h2.symm
theorem rank_ahead (s : ByteArray) {i : Nat} (hi : i < s.size) :
    Cc.rank s.size (before s) i = Cc.lead s.size (BY (trn s)) (Cc.ks (fw s) (Cc.rank s.size (before s) (i + 1))) ∧ Cc.rank s.size (before s) (i + 1) ≠ fw s ∧ BY (trn s) (Cc.ks (fw s) (Cc.rank s.size (before s) (i + 1))) = BY s i := by
  obtain ⟨h1, h2, h3⟩ := (ord s).ahead (rows := placeOf s) (fun _ h => placeOf_rank s h) (b := BY (trn s)) (fun _ hk => trn_LT s hk) hi
  refine ⟨h1, h2, ?_⟩
  have h4 : LT s i = BY s i + 1 := by rw [LT_lt s hi, BY_lt s hi]
  have h5 : BY (trn s) (Cc.ks (fw s) (Cc.rank s.size (before s) (i + 1))) + 1 = LT s i := h3
  omega
theorem place_le (s : ByteArray) {r : Nat} (hr : r ≤ s.size) : placeOf s r ≤ s.size ∧ Cc.rank s.size (before s) (placeOf s r) = r := by
  obtain ⟨j, hj, hp⟩ := (ord s).onto (r := r) hr
  rw [← hp, placeOf_rank s hj]
  exact ⟨hj, rfl⟩
theorem place_inj (s : ByteArray) {r q : Nat} (hr : r ≤ s.size) (hq : q ≤ s.size) (h : placeOf s r = placeOf s q) : r = q := by
  rw [← (place_le s hr).2, ← (place_le s hq).2, h]
end Go.Proofs.YtopihgmemnokkaaGreat
