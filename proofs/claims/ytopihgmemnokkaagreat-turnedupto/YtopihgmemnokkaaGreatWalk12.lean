import Derived.Test.YtopihgmemnokkaaGreatWalk11
namespace Go.Proofs.YtopihgmemnokkaaGreat
open Go.RowKit

theorem BY_ext {a b : ByteArray} (hs : a.size = b.size) (h : ∀ k, k < a.size → BY a k = BY b k) : a = b := by
  apply ByteArray.ext
  apply Array.ext
  · exact hs
  · intro i h1 h2
    have h3 := h i h1
    rw [BY_lt a h1, BY_lt b h2] at h3
    exact UInt8.toNat_inj.1 h3

/-- the place of a row -/
def placeOf (s : ByteArray) (p : Nat) : Nat := ((List.range (s.size + 1)).find? fun i => Cc.rank s.size (before s) i == p).getD 0

theorem placeOf_rank (s : ByteArray) {i : Nat} (hi : i ≤ s.size) : placeOf s (Cc.rank s.size (before s) i) = i := by
  unfold placeOf
  cases hf : (List.range (s.size + 1)).find? fun j => Cc.rank s.size (before s) j == Cc.rank s.size (before s) i with
  | none =>
    rw [List.find?_eq_none] at hf
    have := hf i (by rw [List.mem_range]; omega)
    simp at this
  | some j =>
    have h1 := List.find?_some hf
    have h2 := List.mem_of_find?_eq_some hf
    rw [List.mem_range] at h2
    simp at h1
    simp
    exact (ord s).rank_inj (by omega) hi h1

/-- a text turned -/
def trn (s : ByteArray) : ByteArray := strOfNums ((List.range s.size).map fun k => ((tb s (placeOf s) k : Nat) : Int))
/-- the text that was turned -/
def textOf (b : ByteArray) (row : Nat) : ByteArray := strOfNums ((List.range b.size).map fun j => ((textTo b row 0 j : Nat) : Int))

theorem trn_size (s : ByteArray) : (trn s).size = s.size := by unfold trn; rw [strOfNums_size]; simp
theorem textOf_size (b : ByteArray) (row : Nat) : (textOf b row).size = b.size := by unfold textOf; rw [strOfNums_size]; simp
theorem trn_BY (s : ByteArray) {k : Nat} (hk : k < s.size) : BY (trn s) k = tb s (placeOf s) k := strOfNums_BY s _ _ hk
theorem textOf_BY (b : ByteArray) (row : Nat) {j : Nat} (hj : j < b.size) : BY (textOf b row) j = textTo b row 0 j := strOfNums_f _ _ hj (textTo_le _ _ _ _)

/-- what is in a row but the whole text's -/
theorem place_un (s : ByteArray) {k : Nat} (hk : k < s.size) : ∃ i, i < s.size ∧ Cc.rank s.size (before s) (i + 1) = Cc.un (fw s) k := by
  obtain ⟨j, hj, hp⟩ := (ord s).onto (r := Cc.un (fw s) k) (Cc.un_le hk)
  have hj0 : j ≠ 0 := fun e => by subst e; exact Cc.un_ne _ _ hp.symm
  exact ⟨j - 1, by omega, by rw [← hp]; congr 1; omega⟩

theorem tb_of (s : ByteArray) {rows : Nat → Nat} (hrows : ∀ i, i ≤ s.size → rows (Cc.rank s.size (before s) i) = i) {k : Nat} (hk : k < s.size) : tb s rows k = tb s (placeOf s) k := by
  obtain ⟨i, hi, hu⟩ := place_un s hk
  unfold tb
  rw [← hu, hrows _ (by omega), placeOf_rank s (by omega)]

theorem trn_LT (s : ByteArray) {k : Nat} (hk : k < s.size) : BY (trn s) k + 1 = LT s (placeOf s (Cc.un (fw s) k) - 1) := by
  obtain ⟨i, hi, hu⟩ := place_un s hk
  rw [trn_BY s hk]
  unfold tb
  rw [← hu, placeOf_rank s (by omega), LT_BY s (by omega)]

theorem trn_back (s : ByteArray) : Cc.Takes (trn s).size (BY (trn s)) (fw s) ∧ textOf (trn s) (fw s) = s := by
  have h := Cc.back_takes (b := BY (trn s)) (ord s) (rows := placeOf s) (fun i hi => placeOf_rank s hi) (fun k hk => trn_LT s hk)
  rw [trn_size]
  refine ⟨h.1, ?_⟩
  apply BY_ext
  · rw [textOf_size, trn_size]
  · intro k hk
    rw [textOf_size, trn_size] at hk
    rw [textOf_BY _ _ (by rw [trn_size]; exact hk)]
    unfold textTo
    rw [if_pos (by omega), trn_size]
    have h2 : LT s (s.size - 1 - (s.size - 1 - k)) = BY (trn s) (Cc.ks (fw s) (Cc.trail s.size (BY (trn s)) (fw s) (s.size - 1 - k))) + 1 := h.2 (s.size - 1 - k) (by omega)
    rw [show s.size - 1 - (s.size - 1 - k) = k from by omega, LT_BY s hk] at h2
    omega

theorem text_turned (b : ByteArray) (row : Nat) (t : Cc.Takes b.size (BY b) row) : fw (textOf b row) = row ∧ trn (textOf b row) = b := by
  have hz := textOf_size b row
  have o := ord (textOf b row)
  have hpl : ∀ i, i ≤ (textOf b row).size → placeOf (textOf b row) (Cc.rank (textOf b row).size (before (textOf b row)) i) = i := fun i hi => placeOf_rank _ hi
  have hL : ∀ m, m < b.size → LT (textOf b row) (b.size - 1 - m) = BY b (Cc.ks row (Cc.trail b.size (BY b) row m)) + 1 := by
    intro m hm
    rw [LT_BY _ (by rw [hz]; omega), textOf_BY _ _ (by omega)]
    unfold textTo
    rw [if_pos (by omega), show b.size - 1 - (b.size - 1 - m) = m from by omega]
  have hfw : fw (textOf b row) = Cc.rank b.size (before (textOf b row)) 0 := by unfold fw; rw [hz]
  rw [hz] at o hpl
  obtain ⟨h1, h2⟩ := t.made o hL (rows := placeOf (textOf b row)) hpl
  refine ⟨by rw [hfw, h1], ?_⟩
  apply BY_ext
  · rw [trn_size, hz]
  · intro k hk
    rw [trn_size, hz] at hk
    rw [trn_BY _ (by rw [hz]; exact hk)]
    unfold tb
    rw [hfw, h1]
    obtain ⟨e1, e2, e3⟩ := h2 k hk
    rw [LT_BY _ (by rw [hz]; omega)] at e3
    omega

/-- the bytes of a text turned are the text's -/
theorem trn_count (s : ByteArray) (c : Nat) : (Cc.cn s.size fun j => decide (BY (trn s) j = c)) = Cc.cn s.size fun j => decide (BY s j = c) := by
  have h := Cc.cn_perm (n := s.size) (σ := fun k => placeOf s (Cc.un (fw s) k) - 1) (fun j => decide (BY s j = c)) (by
    intro i j hi hj e
    obtain ⟨a, ha, hu⟩ := place_un s hi
    obtain ⟨b, hb, hv⟩ := place_un s hj
    have e : placeOf s (Cc.un (fw s) i) - 1 = placeOf s (Cc.un (fw s) j) - 1 := e
    rw [← hu, ← hv, placeOf_rank s (by omega), placeOf_rank s (by omega)] at e
    have : a = b := by omega
    subst this
    have := congrArg (Cc.ks (fw s)) (hu.symm.trans hv)
    rw [Cc.ks_un, Cc.ks_un] at this; exact this) (by
    intro i hi
    obtain ⟨a, ha, hu⟩ := place_un s hi
    show placeOf s (Cc.un (fw s) i) - 1 < s.size
    rw [← hu, placeOf_rank s (by omega)]; omega)
  rw [← h]
  apply Cc.cn_congr
  intro i hi
  rw [trn_BY s hi]; rfl

set_option maxHeartbeats 400000 in
theorem transform_any (s : ByteArray) (w : World) (hs : s.size ≤ 1000) :
    Calls Tryz.prog 44 #[.string s] w fun e w' => e = .returned (.tuple #[.string (trn s), .int .i64 (fw s : Nat), .int .i64 0]) ∧ Below w.heap.size w w' := by
  go_enter Tryz.func44, Tryz.ntmps44
  go_wp2_with fail
  refine (forth_any s _ hs).mono ?_
  rintro e w1 ⟨b, rows, rfl, hsz, hrows, hb, hB⟩
  have hbt : b = trn s := BY_ext (by rw [hsz, trn_size]) fun k hk => by rw [hb k (by omega), trn_BY s (by omega), tb_of s hrows (by omega)]
  subst hbt
  clear hb hrows hsz
  go_wp2
  go_ret3
  exact ⟨rfl, hB⟩

theorem Takes.decide (n : Nat) (b : Nat → Nat) (row : Nat) : Cc.Takes n b row ∨ ¬ Cc.Takes n b row := Classical.em _

/-- what Restore answers -/
def RestoreSays (b : ByteArray) (row : Int) (t : ByteArray) (e : Nat) : Prop :=
  (1000 < b.size ∧ t = ByteArray.empty ∧ e = 1) ∨ (b.size ≤ 1000 ∧ t = ByteArray.empty ∧ e = 4) ∨
  (b.size ≤ 1000 ∧ ∃ r : Nat, row = r ∧ Cc.Takes b.size (BY b) r ∧ t = textOf b r ∧ e = 0)

set_option maxHeartbeats 400000 in
theorem restore_any (b : ByteArray) (row : Int) (w : World) :
    Calls Tryz.prog 50 #[.string b, .int .i64 row] w fun e w' => ∃ (t : ByteArray) (n : Nat), e = .returned (.tuple #[.string t, .int .i64 (n : Nat)]) ∧ RestoreSays b row t n ∧
      (∀ r : Nat, row = r → b.size ≤ 1000 → Cc.Takes b.size (BY b) r → t = textOf b r ∧ n = 0) ∧ Below w.heap.size w w' := by
  by_cases hl : 1000 < b.size
  · go_enter Tryz.func50, Tryz.ntmps50
    go_wp2
    go_ret2
    exact ⟨_, 1, rfl, .inl ⟨hl, rfl, rfl⟩, fun r _ h => by omega, Below.refl _ _⟩
  · have hs : b.size ≤ 1000 := by omega
    by_cases ho : row < 0 ∨ (b.size : Int) < row
    · have hc := back_out b row w ho
      have hno : ∀ r : Nat, row = r → ¬ Cc.Takes b.size (BY b) r := fun r hr t => by have := t.1; omega
      go_enter Tryz.func50, Tryz.ntmps50
      go_wp2_with fail
      refine hc.mono ?_
      rintro e w' ⟨rfl, rfl⟩
      go_wp2
      go_ret2
      exact ⟨_, 4, rfl, .inr (.inl ⟨hs, rfl, rfl⟩), fun r hr _ t => absurd t (hno r hr), Below.refl _ _⟩
    · obtain ⟨r, rfl⟩ : ∃ r : Nat, row = r := ⟨row.toNat, by omega⟩
      have hr : r ≤ b.size := by omega
      go_enter Tryz.func50, Tryz.ntmps50
      go_wp2_with fail
      refine (back_in b r _ hs hr).mono ?_
      rintro e w1 ⟨hB, ⟨hno, rfl⟩ | ⟨ht, t, rfl, hsz, hby⟩⟩
      · have hno' : ∀ r' : Nat, (r : Int) = r' → ¬ Cc.Takes b.size (BY b) r' := by
          intro r' hr'
          have : r' = r := by omega
          subst this; exact hno
        go_wp2
        go_ret2
        exact ⟨_, 4, rfl, .inr (.inl ⟨hs, rfl, rfl⟩), fun r' hr' _ t => absurd t (hno' r' hr'), hB⟩
      · have htt : t = textOf b r := BY_ext (by rw [hsz, textOf_size]) fun k hk => by rw [hby k (by omega), textOf_BY b r (by omega)]
        subst htt
        clear hby hsz
        have hyes : ∀ r' : Nat, (r : Int) = r' → textOf b r = textOf b r' ∧ 0 = 0 := by
          intro r' hr'
          have : r' = r := by omega
          subst this; exact ⟨rfl, rfl⟩
        go_wp2
        go_ret2
        exact ⟨_, 0, rfl, .inr (.inr ⟨hs, r, rfl, ht, rfl, rfl⟩), fun r' hr' _ _ => ⟨(hyes r' hr').1, rfl⟩, hB⟩

end Go.Proofs.YtopihgmemnokkaaGreat
