import Derived.Test.YtopihgmemnokkaaBitW9
namespace Go.Proofs.Ytopihgmemnokkaa
open Go.RowKit

theorem pre_bit (q : Nat → Bool) {i m : Nat} (h : i < m) : Bm.pre q m / 2 ^ (m - 1 - i) % 2 = (q i).toNat := by
  have := Bm.pre_div q (i + 1) (m - 1 - i)
  rw [show i + 1 + (m - 1 - i) = m by omega] at this
  rw [this]
  have hb : (q i).toNat ≤ 1 := Bool.toNat_le _
  simp only [Bm.pre]; omega

theorem runsOf_len (p : Nat → Bool) (n : Nat) : (runsOf p n).length = n / 64 := by simp [runsOf]
theorem rsum_runs (p : Nat → Bool) (n k : Nat) (h : k ≤ n / 64) (l : List (Nat × Nat)) : rsum ((runsOf p n ++ l).take k) = 64 * k := by
  induction k with
  | zero => simp [rsum]
  | succ k ih =>
    have hx : (runsOf p n ++ l)[k]? = some (64, Bm.pre (fun i => p (64 * k + i)) 64) := by
      rw [List.getElem?_append_left (by rw [runsOf_len]; omega)]
      unfold runsOf
      rw [List.getElem?_map, List.getElem?_range (by omega)]; rfl
    rw [rsum_take _ hx, ih (by omega)]
    simp only; omega
theorem rsum_all (p : Nat → Bool) (n : Nat) : rsum (runsOf p n ++ [(n % 64, lastOf p n)]) = n := by
  have h := rsum_runs p n (n / 64) (Nat.le_refl _) [(n % 64, lastOf p n)]
  have hx : (runsOf p n ++ [(n % 64, lastOf p n)])[n / 64]? = some (n % 64, lastOf p n) := by
    rw [List.getElem?_append_right (by rw [runsOf_len]; omega), runsOf_len, Nat.sub_self]; rfl
  have h2 := rsum_take _ hx
  rw [h, List.take_of_length_le (by simp [runsOf_len])] at h2
  rw [h2]; simp only; omega
theorem spells_of (p : Nat → Bool) (n : Nat) : Spells p 0 (runsOf p n ++ [(n % 64, lastOf p n)]) := by
  intro k x hx
  by_cases hk : k < n / 64
  · rw [List.getElem?_append_left (by rw [runsOf_len]; omega)] at hx
    have hx2 : x = (64, Bm.pre (fun i => p (64 * k + i)) 64) := by
      unfold runsOf at hx
      rw [List.getElem?_map, List.getElem?_range hk] at hx
      simpa using hx.symm
    subst hx2
    refine ⟨by simp only; omega, by have := Bm.pre_lt (fun i => p (64 * k + i)) 64; simp only; omega, fun i hi => ?_⟩
    simp only at hi ⊢
    rw [rsum_runs p n k (by omega), pre_bit _ hi, Nat.zero_add]
  · have hl := (List.getElem?_eq_some_iff.1 hx).1
    simp [runsOf_len] at hl
    have hk' : k = n / 64 := by omega
    subst hk'
    rw [List.getElem?_append_right (by rw [runsOf_len]; omega), runsOf_len, Nat.sub_self] at hx
    have hx2 : x = (n % 64, lastOf p n) := by simpa using hx.symm
    subst hx2
    have hlt := Bm.pre_lt (fun i => p (64 * (n / 64) + i)) (n % 64)
    have hpw : 2 ^ (n % 64) ≤ 2 ^ 63 := Nat.pow_le_pow_right (by omega) (by omega)
    refine ⟨by simp only; omega, by unfold lastOf; simp only; omega, fun i hi => ?_⟩
    simp only at hi ⊢
    rw [rsum_runs p n (n / 64) (by omega), Nat.zero_add]
    unfold lastOf
    rw [pre_bit _ hi]

/-- bits that NewBits gave: block b -/
def BitsAt (base : Nat) (w : World) (b : Nat) (p : Nat → Bool) (n : Nat) : Prop := ∃ wv av, BitL base w b [] [] 60 wv av p n

theorem BitsAt.below {base : Nat} {w w' : World} {b : Nat} {p : Nat → Bool} {n : Nat} (h : BitsAt base w b p n) (hb : Below w.heap.size w w') : BitsAt base w' b p n := by
  obtain ⟨wv, av, h⟩ := h; exact ⟨wv, av, h.below hb⟩

set_option maxRecDepth 100000 in
set_option maxHeartbeats 1000000 in
theorem newBits_any (s : ByteArray) (w : World) (hs : s.size ≤ 1099511627776) :
    Calls Try.prog 14 #[.string s] w fun e w' => Below w.heap.size w w' ∧
      ((¬ Plain s ∧ e = .returned (.tuple #[.pointer none, .int .i64 4])) ∨
       (Plain s ∧ ∃ b, e = .returned (.tuple #[.pointer (some ⟨b, 0, none⟩), .int .i64 0]) ∧ BitsAt w.heap.size w' b (oneAt s) s.size)) := by
  go_enter Try.func14, Try.ntmps14
  go_wp2_with fail
  refine (read_any s _ hs).mono ?_
  rintro e w1 ⟨hB, ⟨hn, rfl⟩ | ⟨hp, g, cap, rfl, hg, hr⟩⟩
  · go_wp2
    go_ret2
    exact ⟨hB, .inl ⟨hn, rfl⟩⟩
  · have hlen : (runsOf (oneAt s) s.size ++ [(s.size % 64, lastOf (oneAt s) s.size)]).length = s.size / 64 + 1 := by simp [runsOf_len]
    have hz := hB.size
    have hB2 : Below w.heap.size w (w1.alloc (Obj.cells #[.slice none 0 0, .slice none 0 0, .int .i64 0, .int .i64 0] 60)) := hB.alloc hz _
    have hL0 : BitL w.heap.size (w1.alloc (Obj.cells #[.slice none 0 0, .slice none 0 0, .int .i64 0, .int .i64 0] 60)) w1.heap.size [] [] 60 (.slice none 0 0) (.slice none 0 0) (oneAt s) 0 :=
      ⟨heap_alloc_new w1 _, World.ownsRow_nil _ _ _ _, World.ownsRow_nil _ _ _ _, hz, by decide, by decide⟩
    have hr2 : Runs (w1.alloc (Obj.cells #[.slice none 0 0, .slice none 0 0, .int .i64 0, .int .i64 0] 60)) g (runsOf (oneAt s) s.size ++ [(s.size % 64, lastOf (oneAt s) s.size)]) := fun k x hx =>
      have hk : Kept (fun _ => False) w1 (w1.alloc (Obj.cells #[.slice none 0 0, .slice none 0 0, .int .i64 0, .int .i64 0] 60)) := (Kept.refl _ _).alloc _
      ⟨cell_keep hk (hr k x hx).1 (fun h => h), cell_keep hk (hr k x hx).2 (fun h => h)⟩
    have hlay := lay_any w.heap.size _ w1.heap.size 0 [] [] rfl 60 _ _ (oneAt s) 0 g cap _ hL0 hr2 (spells_of (oneAt s) s.size) (by rintro (h | h | h) <;> first | omega | cases h) (by rw [rsum_all]; omega) (by rw [hlen]; omega)
    rw [hlen, rsum_all, Nat.zero_add] at hlay
    clear hlen hr hr2 hL0
    go_wp2_with fail
    refine hlay.mono ?_
    rintro e w3 ⟨rfl, wv, av, hL, hK, _⟩
    go_wp2
    go_ret2
    exact ⟨hK.bel hB2 (Nat.le_refl _) (by rintro k (h | h | h) <;> first | omega | cases h), .inr ⟨hp, _, rfl, wv, av, hL⟩⟩

set_option maxRecDepth 100000 in
set_option maxHeartbeats 1000000 in
theorem bitsRank_in (base : Nat) (w : World) (b : Nat) (p : Nat → Bool) (n : Nat) (h : BitsAt base w b p n) (hn : n ≤ 1099511627776) (i : Nat) (hi : i ≤ n) :
    Calls Try.prog 15 #[.pointer (some ⟨b, 0, none⟩), .int .i64 (i : Nat)] w fun e w' => Below w.heap.size w w' ∧ e = .returned (.tuple #[.int .i64 (Cc.cn i p : Nat), .int .i64 0]) := by
  obtain ⟨wv, av, hL⟩ := h
  have h1 : decide ((i : Int) < 0) = false := by simp
  have h2 : decide ((n : Int) < (i : Int)) = false := by simp; omega
  go_enter Try.func15, Try.ntmps15
  go_wp2_with fail
  refine (size_any base w b 0 [] [] rfl _ _ _ p n hL).mono ?_
  rintro e w1 ⟨rfl, rfl⟩
  go_wp2_with fail
  refine (rank_any base w1 b 0 [] [] rfl _ _ _ p n i hL hi hn).mono ?_
  rintro e w2 ⟨rfl, hB⟩
  go_wp2
  go_ret2
  exact ⟨hB, rfl⟩

set_option maxRecDepth 100000 in
set_option maxHeartbeats 1000000 in
theorem bitsRank_out (base : Nat) (w : World) (b : Nat) (p : Nat → Bool) (n : Nat) (h : BitsAt base w b p n) (i : Int) (hi : i < 0 ∨ (n : Int) < i) :
    Calls Try.prog 15 #[.pointer (some ⟨b, 0, none⟩), .int .i64 i] w fun e w' => Below w.heap.size w w' ∧ e = .returned (.tuple #[.int .i64 0, .int .i64 3]) := by
  obtain ⟨wv, av, hL⟩ := h
  by_cases h0 : i < 0
  · have h1 : decide (i < 0) = true := by simp; omega
    go_enter Try.func15, Try.ntmps15
    go_wp2
    go_ret2
    exact ⟨Below.refl _ _, rfl⟩
  · have h1 : decide (i < 0) = false := by simp; omega
    have h2 : decide ((n : Int) < i) = true := by simp; omega
    go_enter Try.func15, Try.ntmps15
    go_wp2_with fail
    refine (size_any base w b 0 [] [] rfl _ _ _ p n hL).mono ?_
    rintro e w1 ⟨rfl, rfl⟩
    go_wp2
    go_ret2
    exact ⟨Below.refl _ _, rfl⟩

set_option maxRecDepth 100000 in
set_option maxHeartbeats 1000000 in
theorem bitsSelect_in (base : Nat) (w : World) (b : Nat) (p : Nat → Bool) (n : Nat) (h : BitsAt base w b p n) (hn : n ≤ 1099511627776) (k : Nat) (hk : k < Cc.cn n p) :
    Calls Try.prog 16 #[.pointer (some ⟨b, 0, none⟩), .int .i64 (k : Nat)] w fun e w' => Below w.heap.size w w' ∧ ∃ j : Nat, e = .returned (.tuple #[.int .i64 (j : Nat), .int .i64 0]) ∧ j < n ∧ p j = true ∧ Cc.cn j p = k := by
  obtain ⟨wv, av, hL⟩ := h
  have h1 : decide ((k : Int) < 0) = false := by simp
  have h2 : decide ((Cc.cn n p : Int) ≤ (k : Int)) = false := by simp; omega
  go_enter Try.func16, Try.ntmps16
  go_wp2_with fail
  refine (ones_any base w b 0 [] [] rfl _ _ _ p n hL).mono ?_
  rintro e w1 ⟨rfl, rfl⟩
  go_wp2_with fail
  refine (select_any base w1 b 0 [] [] rfl _ _ _ p n k hL hk hn).mono ?_
  rintro e w2 ⟨⟨j, rfl, j1, j2, j3⟩, hB⟩
  go_wp2
  go_ret2
  exact ⟨hB, j, rfl, j1, j2, j3⟩

set_option maxRecDepth 100000 in
set_option maxHeartbeats 1000000 in
theorem bitsSelect_out (base : Nat) (w : World) (b : Nat) (p : Nat → Bool) (n : Nat) (h : BitsAt base w b p n) (k : Int) (hk : k < 0 ∨ (Cc.cn n p : Int) ≤ k) :
    Calls Try.prog 16 #[.pointer (some ⟨b, 0, none⟩), .int .i64 k] w fun e w' => Below w.heap.size w w' ∧ e = .returned (.tuple #[.int .i64 0, .int .i64 3]) := by
  obtain ⟨wv, av, hL⟩ := h
  by_cases h0 : k < 0
  · have h1 : decide (k < 0) = true := by simp; omega
    go_enter Try.func16, Try.ntmps16
    go_wp2
    go_ret2
    exact ⟨Below.refl _ _, rfl⟩
  · have h1 : decide (k < 0) = false := by simp; omega
    have h2 : decide ((Cc.cn n p : Int) ≤ k) = true := by simp; omega
    go_enter Try.func16, Try.ntmps16
    go_wp2_with fail
    refine (ones_any base w b 0 [] [] rfl _ _ _ p n hL).mono ?_
    rintro e w1 ⟨rfl, rfl⟩
    go_wp2
    go_ret2
    exact ⟨Below.refl _ _, rfl⟩

end Go.Proofs.Ytopihgmemnokkaa
