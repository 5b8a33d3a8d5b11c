import Derived.Test.YtopihgmemnokkaaGreatRows
import Derived.Test.YtopihgmemnokkaaGreatEndsF
namespace Go.Proofs.YtopihgmemnokkaaGreat

/-- the first letter of an end: 0 for the empty one -/
def LT (s : ByteArray) (k : Nat) : Nat := if h : k < s.size then s[k].toNat + 1 else 0

theorem LT_le (s : ByteArray) (k : Nat) : LT s k ≤ 256 := by
  unfold LT; split
  · have := UInt8.toNat_lt s[k]; omega
  · omega

/-- an end stands ahead of another -/
def before (s : ByteArray) (a b : Nat) : Bool := Op.bytesLess (s.data.toList.drop a) (s.data.toList.drop b)

theorem bl_irr : ∀ l : List UInt8, Op.bytesLess l l = false
  | [] => rfl
  | a :: l => by simp [Op.bytesLess, bl_irr l]

theorem bl_trans : ∀ x y z : List UInt8, Op.bytesLess x y = true → Op.bytesLess y z = true → Op.bytesLess x z = true
  | _, _, [], _, h => by simp [Op.bytesLess] at h
  | _, [], _ :: _, h, _ => by simp [Op.bytesLess] at h
  | [], _ :: _, _ :: _, _, _ => rfl
  | a :: x, b :: y, c :: z, h1, h2 => by
    simp [Op.bytesLess] at h1 h2 ⊢
    rcases h1 with h1 | ⟨h1, h1'⟩
    · rcases h2 with h2 | ⟨h2, _⟩
      · left; rw [UInt8.lt_iff_toNat_lt] at *; omega
      · left; rw [← h2]; exact h1
    · rcases h2 with h2 | ⟨h2, h2'⟩
      · left; rw [h1]; exact h2
      · right; exact ⟨h1.trans h2, bl_trans x y z h1' h2'⟩

theorem bl_tri : ∀ x y : List UInt8, x = y ∨ Op.bytesLess x y = true ∨ Op.bytesLess y x = true
  | [], [] => Or.inl rfl
  | [], _ :: _ => Or.inr (Or.inl rfl)
  | _ :: _, [] => Or.inr (Or.inr rfl)
  | a :: x, b :: y => by
    simp [Op.bytesLess]
    by_cases h : a = b
    · subst h
      rcases bl_tri x y with h | h | h
      · left; exact ⟨rfl, h⟩
      · right; left; right; exact ⟨rfl, h⟩
      · right; right; right; exact ⟨rfl, h⟩
    · have h' : ¬ b = a := fun e => h e.symm
      have : a < b ∨ b < a := by
        rw [UInt8.lt_iff_toNat_lt, UInt8.lt_iff_toNat_lt]
        have : a.toNat ≠ b.toNat := fun e => h (UInt8.toNat_inj.1 e)
        omega
      rcases this with e | e
      · right; left; left; exact e
      · right; right; left; exact e

theorem drop_cons (s : ByteArray) {a : Nat} (h : a < s.size) : s.data.toList.drop a = s[a] :: s.data.toList.drop (a + 1) := by
  have h' : a < s.data.toList.length := by simpa using h
  rw [List.drop_eq_getElem_cons h']; rfl

theorem drop_all (s : ByteArray) {a : Nat} (h : s.size ≤ a) : s.data.toList.drop a = [] := by
  apply List.drop_of_length_le; simpa using h

theorem LT_lt (s : ByteArray) {a : Nat} (h : a < s.size) : LT s a = s[a].toNat + 1 := by unfold LT; simp [h]

theorem ord (s : ByteArray) : Cc.Ord s.size (LT s) (before s) where
  irr a := bl_irr _
  tri a b ha hb hne := by
    unfold before
    rcases bl_tri (s.data.toList.drop a) (s.data.toList.drop b) with h | h | h
    · exfalso
      have := congrArg List.length h
      simp at this
      have e : s.data.size = s.size := rfl
      omega
    · left; exact h
    · right; exact h
  trans a b c h1 h2 := bl_trans _ _ _ h1 h2
  Ln := by unfold LT; simp
  Lpos a h := by rw [LT_lt s h]; omega
  recur a b ha hb h := by
    unfold before
    rw [drop_cons s ha, drop_cons s hb]
    rw [LT_lt s ha, LT_lt s hb] at h
    have h' : s[a] = s[b] := UInt8.toNat_inj.1 (by omega)
    simp [Op.bytesLess, h']
  less a b ha hb h := by
    unfold before
    have hb' : b < s.size := by
      by_cases e : b < s.size
      · exact e
      · rw [show LT s b = 0 from by unfold LT; simp [e]] at h; omega
    rw [drop_cons s hb']
    by_cases ha' : a < s.size
    · rw [drop_cons s ha']
      rw [LT_lt s ha', LT_lt s hb'] at h
      simp [Op.bytesLess, UInt8.lt_iff_toNat_lt]
      left; omega
    · rw [drop_all s (by omega)]; rfl

/-- the kinds, as numbers -/
def kindN (s : ByteArray) (i : Nat) : Nat := if Cc.fall s.size (before s) i = true then 0 else if Cc.val s.size (before s) i = true then 2 else 1

/-- what is known of the kinds where all from k on are met -/
def kindAt (s : ByteArray) (k j : Nat) : Nat := if j < k then 0 else if j = k ∧ j < s.size then (if Cc.fall s.size (before s) j = true then 0 else 1) else kindN s j

theorem fall_of_gt (s : ByteArray) {k : Nat} (h : k < s.size) (hl : LT s (k + 1) < LT s k) : Cc.fall s.size (before s) k = true := by
  unfold Cc.fall; simp [h]; exact (ord s).less _ _ (by omega) (by omega) hl
theorem fall_of_lt (s : ByteArray) {k : Nat} (h : k < s.size) (hl : LT s k < LT s (k + 1)) : Cc.fall s.size (before s) k = false := by
  unfold Cc.fall; simp [h]; exact (ord s).more (by omega) (by omega) hl
theorem fall_of_eq (s : ByteArray) {k : Nat} (h : k < s.size) (hl : LT s k = LT s (k + 1)) : k + 1 < s.size ∧ Cc.fall s.size (before s) k = Cc.fall s.size (before s) (k + 1) := by
  have h1 : k + 1 < s.size := by
    by_cases e : k + 1 = s.size
    · rw [e, (ord s).Ln] at hl; have := (ord s).Lpos k h; omega
    · omega
  refine ⟨h1, ?_⟩
  unfold Cc.fall; simp [h, h1]
  exact (ord s).recur (k + 1) k h1 h hl.symm

theorem kindAt_top (s : ByteArray) {j : Nat} (hj : j < s.size + 1) : Cc.put (fun _ => 0) s.size 2 j = kindAt s s.size j := by
  unfold kindAt Cc.put
  by_cases h1 : j < s.size
  · have : ¬ j = s.size := by omega
    simp [h1, this]
  · have h2 : j = s.size := by omega
    subst h2; simp [kindN, Cc.fall, Cc.val]

theorem kindAt_next (s : ByteArray) {k : Nat} (h : k + 1 < s.size) : kindAt s (k + 1) (k + 1) = if Cc.fall s.size (before s) (k + 1) = true then 0 else 1 := by
  unfold kindAt; simp [h]
theorem kindAt_last (s : ByteArray) {k : Nat} (h : k + 1 = s.size) : kindAt s (k + 1) (k + 1) = 2 := by
  unfold kindAt; simp [h, kindN, Cc.fall, Cc.val]

theorem kindAt_behind (s : ByteArray) (k : Nat) : kindAt s k (k + 1) = kindN s (k + 1) := by
  unfold kindAt
  rw [if_neg (by omega), if_neg (by omega)]

/-- one more kind is known: the end behind it is no valley -/
theorem kindAt_plain (s : ByteArray) {k v : Nat} (h : k < s.size) (hv : v = if Cc.fall s.size (before s) k = true then 0 else 1) (hn : ¬ (v = 0 ∧ kindAt s (k + 1) (k + 1) = 1)) {j : Nat} (hj : j < s.size + 1) :
    Cc.put (kindAt s (k + 1)) k v j = kindAt s k j := by
  unfold Cc.put
  by_cases h1 : j = k
  · subst h1; rw [hv]; unfold kindAt; simp [h]
  · rw [if_neg h1]
    by_cases h2 : j = k + 1
    · subst h2
      by_cases h3 : k + 1 < s.size
      · rw [kindAt_next s h3] at hn ⊢
        rw [kindAt_behind]
        unfold kindN
        cases h4 : Cc.fall s.size (before s) (k + 1)
        · simp
          simp [h4] at hn
          have h5 : Cc.fall s.size (before s) k = false := by
            cases h6 : Cc.fall s.size (before s) k
            · rfl
            · simp [h6] at hv; exact absurd hv hn
          simp [Cc.val, h5]; omega
        · simp
      · have h4 : k + 1 = s.size := by omega
        rw [kindAt_last s h4, kindAt_behind]
        simp [kindN, h4, Cc.fall, Cc.val]
    · unfold kindAt
      by_cases h3 : j < k
      · rw [if_pos (by omega), if_pos h3]
      · rw [if_neg (by omega), if_neg (by omega), if_neg (by omega), if_neg (by omega)]

/-- one more kind is known: the end behind it is a valley -/
theorem kindAt_valley (s : ByteArray) {k : Nat} (h : k < s.size) (hv : Cc.fall s.size (before s) k = true) (hn : kindAt s (k + 1) (k + 1) = 1) {j : Nat} (hj : j < s.size + 1) :
    Cc.put (Cc.put (kindAt s (k + 1)) k 0) (k + 1) 2 j = kindAt s k j := by
  have h3 : k + 1 < s.size := by
    by_cases e : k + 1 < s.size
    · exact e
    · rw [kindAt_last s (by omega)] at hn; omega
  rw [kindAt_next s h3] at hn
  have h4 : Cc.fall s.size (before s) (k + 1) = false := by
    cases h4 : Cc.fall s.size (before s) (k + 1)
    · rfl
    · simp [h4] at hn
  unfold Cc.put
  by_cases h1 : j = k + 1
  · subst h1
    rw [if_pos rfl, kindAt_behind]
    simp [kindN, h4, Cc.val, hv]
  · rw [if_neg h1]
    by_cases h2 : j = k
    · subst h2; simp; unfold kindAt; simp [h, hv]
    · rw [if_neg h2]
      unfold kindAt
      by_cases h3 : j < k
      · rw [if_pos (by omega), if_pos h3]
      · rw [if_neg (by omega), if_neg (by omega), if_neg (by omega), if_neg (by omega)]

theorem kindAt_zero (s : ByteArray) {j : Nat} : kindAt s 0 j = kindN s j := by
  unfold kindAt
  rw [if_neg (by omega)]
  by_cases h : j = 0 ∧ j < s.size
  · rw [if_pos h]
    obtain ⟨h1, h2⟩ := h
    subst h1
    unfold kindN
    cases Cc.fall s.size (before s) 0
    · simp [Cc.val]; omega
    · simp
  · rw [if_neg h]

end Go.Proofs.YtopihgmemnokkaaGreat

namespace Go.Proofs.YtopihgmemnokkaaGreat

/-- a row of m numbers -/
def rowC (m : Nat) (f : Nat → Nat) : Array Value := (Array.range m).map fun i => .int .i64 (f i : Nat)

end Go.Proofs.YtopihgmemnokkaaGreat

namespace Go.Proofs.YtopihgmemnokkaaGreat

theorem zero257 : (Tryz.prog.info? 234).map (·.zero) = some (some (.agg (rowC 257 fun _ => 0))) := by kernel_rfl
theorem zero771 : (Tryz.prog.info? 199).map (·.zero) = some (some (.agg (rowC 771 fun _ => 0))) := by kernel_rfl
theorem size257 : (Tryz.prog.info? 234).map (·.size) = some 257 := by kernel_rfl
theorem size771 : (Tryz.prog.info? 199).map (·.size) = some 771 := by kernel_rfl

end Go.Proofs.YtopihgmemnokkaaGreat

namespace Go.Proofs.YtopihgmemnokkaaGreat

theorem zero256 : (Tryz.prog.info? 120).map (·.zero) = some (some (.agg (rowC 256 fun _ => 0))) := by kernel_rfl
theorem size256 : (Tryz.prog.info? 120).map (·.size) = some 256 := by kernel_rfl

end Go.Proofs.YtopihgmemnokkaaGreat

namespace Go.Proofs.YtopihgmemnokkaaGreat

/-- a row of 256 runs -/
def rowR (g : Nat → Nat × Nat) : Array Value := (Array.range 512).map fun i => if i % 2 = 0 then .int .i64 ((g (i / 2)).1 : Nat) else .int .u64 ((g (i / 2)).2 : Nat)

end Go.Proofs.YtopihgmemnokkaaGreat

namespace Go.Proofs.YtopihgmemnokkaaGreat

theorem zero512 : (Tryz.prog.info? 115).map (·.zero) = some (some (.agg (rowR fun _ => (0, 0)))) := by kernel_rfl
theorem size512 : (Tryz.prog.info? 115).map (·.size) = some 512 := by kernel_rfl

end Go.Proofs.YtopihgmemnokkaaGreat

