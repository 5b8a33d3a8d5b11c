import Derived.Test.YtopihgmemnokkaaGreatMem
namespace Go.Proofs.YtopihgmemnokkaaGreat
open Go.RowKit

theorem ret_int {k : IntKind} {a b : Int} (h : a = b) : Ending.returned (.int k a) = .returned (.int k b) := by rw [h]

set_option maxHeartbeats 400000 in
theorem letter_any (s : ByteArray) (i : Nat) (w : World) (h1 : i ≤ s.size) :
    Calls Tryz.prog 159 #[.string s, .int .i64 i] w fun e w' => e = .returned (.int .i64 (LT s i : Nat)) ∧ w' = w := by
  by_cases h : i = s.size
  · subst h
    have hb : ((s.size : Int) == (s.size : Int)) = true := by simp
    go_enter Tryz.func159, Tryz.ntmps159
    go_wp2
    go_ret
    exact ⟨ret_int (by unfold LT; simp), rfl⟩
  · have hb : ((i : Int) == (s.size : Int)) = false := by simp; omega
    have hlt : i < s.size := by omega
    go_enter Tryz.func159, Tryz.ntmps159
    go_wp2
    go_ret
    exact ⟨ret_int (by rw [LT_lt s hlt]; simp only [wrap64]; have := UInt8.toNat_lt s[i]; omega), rfl⟩


theorem Tryz.info233 : (Tryz.prog.info? 233).map (fun i => (i.zero, i.size, i.bytes)) = some (some (.int .i64 0), 1, 8) := by kernel_rfl
theorem Tryz.info3 : (Tryz.prog.info? 3).map (fun i => (i.zero, i.size, i.bytes)) = some (some (.int .i64 0), 1, 8) := by kernel_rfl

set_option maxHeartbeats 400000 in
theorem cmp_any (a b : Int) (w : World) :
    Calls Tryz.prog 158 #[.int .i64 a, .int .i64 b] w fun e w' => e = .returned (.int .i64 (if a < b then -1 else if a = b then 0 else 1)) ∧ w' = w := by
  have hn1 : (a != a) = false := by simp
  have hn2 : (b != b) = false := by simp
  by_cases h : a < b
  · go_enter Tryz.func158, Tryz.ntmps158
    go_wp2
    go_ret
    exact ⟨rfl, rfl⟩
  · by_cases h2 : a = b
    · subst h2
      go_enter Tryz.func158, Tryz.ntmps158
      go_wp2
      go_ret
      exact ⟨rfl, rfl⟩
    · have h3 : b < a := by omega
      go_enter Tryz.func158, Tryz.ntmps158
      go_wp2
      go_ret
      exact ⟨rfl, rfl⟩


theorem cmp_lt (a b : Int) (w : World) (h : a < b) :
    Calls Tryz.prog 158 #[.int .i64 a, .int .i64 b] w fun e w' => e = .returned (.int .i64 (-1)) ∧ w' = w :=
  (cmp_any a b w).mono fun e w' ⟨he, hw⟩ => ⟨by rw [he, if_pos h], hw⟩
theorem cmp_eq (a b : Int) (w : World) (h : a = b) :
    Calls Tryz.prog 158 #[.int .i64 a, .int .i64 b] w fun e w' => e = .returned (.int .i64 0) ∧ w' = w :=
  (cmp_any a b w).mono fun e w' ⟨he, hw⟩ => ⟨by rw [he, if_neg (by omega), if_pos h], hw⟩
theorem cmp_gt (a b : Int) (w : World) (h : b < a) :
    Calls Tryz.prog 158 #[.int .i64 a, .int .i64 b] w fun e w' => e = .returned (.int .i64 1) ∧ w' = w :=
  (cmp_any a b w).mono fun e w' ⟨he, hw⟩ => ⟨by rw [he, if_neg (by omega), if_neg (by omega)], hw⟩

theorem make_kinds (n : Nat) (hn : n ≤ 1001) (w : World) : (Instr.makeSlice 195 (.int .i64 (n : Int)) (.int .i64 (n : Int))).run Tryz.prog w
    = .ok (.slice (some ⟨w.heap.size, 0, none⟩) n n) (w.alloc (.cells (rowC n fun _ => 0) 233)) := by
  obtain ⟨i, hi, hz0, hz1, hz2⟩ := info_parts Tryz.info233
  have h := run_make (P := Tryz.prog) w 195 233 i _ Tryz.underlying195 hi hz0 .i64 .i64 n n (by omega) (by omega) (by rw [hz2]; omega) (by omega)
  rw [hz1] at h
  simp only [Int.toNat_natCast, Nat.mul_one] at h
  have hc : (Value.int .i64 0).cells = #[.int .i64 0] := rfl
  rw [hc, rowC_made] at h
  exact h

set_option maxHeartbeats 1000000 in
theorem kinds_any (s : ByteArray) (w : World) (hs : s.size ≤ 1000) :
    Calls Tryz.prog 126 #[.string s] w fun e w' => e = .returned (.slice (some ⟨w.heap.size, 0, none⟩) (s.size + 1) (s.size + 1)) ∧ Row w' w.heap.size 233 (s.size + 1) (kindN s) ∧ Below w.heap.size w w' := by
  have hmk := fun w => make_kinds (s.size + 1) (by omega) w
  have ec : ((s.size + 1 : Nat) : Int) = (s.size : Int) + 1 := by omega
  simp only [ec] at hmk
  clear ec
  have hg : (rowC (s.size + 1) fun _ => 0)[s.size]? = some (.int .i64 0) := rowC_get (by omega)
  have hrow : Row (w.alloc (Obj.cells ((rowC (s.size + 1) fun _ => 0).setIfInBounds s.size (Value.int IntKind.i64 2)) 233)) w.heap.size 233 (s.size + 1) (kindAt s s.size) := by
    have h : (rowC (s.size + 1) fun _ => 0).setIfInBounds s.size (Value.int IntKind.i64 2) = rowC (s.size + 1) (Cc.put (fun _ => 0) s.size 2) := rowC_set (v := 2)
    rw [h]
    exact (Row.new w _ _ _).congr fun i hi => kindAt_top s hi
  go_enter Tryz.func126, Tryz.ntmps126
  go_wp2
  go_loopw [4] (fun i wr => ∃ k : Nat, k ≤ s.size ∧ i = .int .i64 ((k : Int) - 1) ∧ Row wr w.heap.size 233 (s.size + 1) (kindAt s k) ∧ Below w.heap.size w wr) (fun i _ => (intOf i + 1).toNat)
  case atStart => exact ⟨s.size, Nat.le_refl _, rfl, hrow, (Below.refl _ _).alloc (Nat.le_refl _) _⟩
  case round =>
    obtain ⟨k, hk, rfl, hR, hB⟩ := hrel
    clear hrow hmk hg
    cases k with
    | zero =>
      go_wp2
      go_ret
      exact ⟨rfl, hR.congr fun i _ => kindAt_zero s, hB⟩
    | succ k =>
      have hk' : k < s.size := by omega
      have c0 : wr.cell? ⟨w.heap.size, k, none⟩ = some (.int .i64 (kindAt s (k + 1) k : Nat)) := hR.cell (by omega)
      have c1 : wr.cell? ⟨w.heap.size, k + 1, none⟩ = some (.int .i64 (kindAt s (k + 1) (k + 1) : Nat)) := hR.cell (by omega)
      have f0 : wr.frozen? ⟨w.heap.size, k, none⟩ = false := hR.frozen _
      have f1 : wr.frozen? ⟨w.heap.size, k + 1, none⟩ = false := hR.frozen _
      generalize hx : kindAt s (k + 1) k = x at c0
      generalize hy : kindAt s (k + 1) (k + 1) = y at c1
      have Hy : Hid (kindAt s (k + 1) (k + 1) = y) := hy
      clear hx hy
      rcases Nat.lt_trichotomy (LT s k) (LT s (k + 1)) with hl | hl | hl
      · have hf := fall_of_lt s hk' hl
        have hg : Row (wr.setCell ⟨w.heap.size, k, none⟩ (.int .i64 1)) w.heap.size 233 (s.size + 1) (kindAt s k) :=
          (hR.set k 1).congr fun j hj => kindAt_plain s hk' (by rw [hf]; rfl) (by omega) hj
        clear hR
        go_wp2_with fail
        rw [show ((k + 1 : Nat) : Int) - 1 = (k : Int) from by omega]
        refine (letter_any s k _ (by omega)).mono ?_
        rintro e w' ⟨rfl, rfl⟩
        go_wp2_with fail
        rw [show (k : Int) + 1 = ((k + 1 : Nat) : Int) from rfl]
        refine (letter_any s (k + 1) _ (by omega)).mono ?_
        rintro e w' ⟨rfl, rfl⟩
        go_wp2_with fail
        refine (cmp_lt _ _ _ (by omega)).mono ?_
        rintro e w' ⟨rfl, rfl⟩
        go_wp2
        exact ⟨⟨k, by omega, rfl, hg, hB.setCell (Nat.le_refl _) _⟩, by simp [intOf]⟩
      · obtain ⟨hk2, hf⟩ := fall_of_eq s hk' hl
        have hn := kindAt_next s hk2
        rw [Hy.out, ← hf] at hn
        cases hfk : Cc.fall s.size (before s) k
        · rw [hfk] at hn
          have hn' : y = 1 := hn
          clear hn
          have hg : Row (wr.setCell ⟨w.heap.size, k, none⟩ (.int .i64 1)) w.heap.size 233 (s.size + 1) (kindAt s k) :=
            (hR.set k 1).congr fun j hj => kindAt_plain s hk' (by rw [hfk]; rfl) (by omega) hj
          subst hn'
          clear hR hf hfk
          go_wp2_with fail
          rw [show ((k + 1 : Nat) : Int) - 1 = (k : Int) from by omega]
          refine (letter_any s k _ (by omega)).mono ?_
          rintro e w' ⟨rfl, rfl⟩
          go_wp2_with fail
          rw [show (k : Int) + 1 = ((k + 1 : Nat) : Int) from rfl]
          refine (letter_any s (k + 1) _ (by omega)).mono ?_
          rintro e w' ⟨rfl, rfl⟩
          go_wp2_with fail
          refine (cmp_eq _ _ _ (by omega)).mono ?_
          rintro e w' ⟨rfl, rfl⟩
          go_wp2
          exact ⟨⟨k, by omega, rfl, hg, hB.setCell (Nat.le_refl _) _⟩, by simp [intOf]⟩
        · rw [hfk] at hn
          have hn' : y = 0 := hn
          clear hn
          have hg : Row (wr.setCell ⟨w.heap.size, k, none⟩ (.int .i64 0)) w.heap.size 233 (s.size + 1) (kindAt s k) :=
            (hR.set k 0).congr fun j hj => kindAt_plain s hk' (by rw [hfk]; rfl) (by rw [Hy.out]; omega) hj
          subst hn'
          clear hR hf hfk
          go_wp2_with fail
          rw [show ((k + 1 : Nat) : Int) - 1 = (k : Int) from by omega]
          refine (letter_any s k _ (by omega)).mono ?_
          rintro e w' ⟨rfl, rfl⟩
          go_wp2_with fail
          rw [show (k : Int) + 1 = ((k + 1 : Nat) : Int) from rfl]
          refine (letter_any s (k + 1) _ (by omega)).mono ?_
          rintro e w' ⟨rfl, rfl⟩
          go_wp2_with fail
          refine (cmp_eq _ _ _ (by omega)).mono ?_
          rintro e w' ⟨rfl, rfl⟩
          go_wp2
          exact ⟨⟨k, by omega, rfl, hg, hB.setCell (Nat.le_refl _) _⟩, by simp [intOf]⟩
      · have hf := fall_of_gt s hk' hl
        by_cases hy1 : y = 1
        · subst hy1
          have hg : Row ((wr.setCell ⟨w.heap.size, k, none⟩ (.int .i64 0)).setCell ⟨w.heap.size, k + 1, none⟩ (.int .i64 2)) w.heap.size 233 (s.size + 1) (kindAt s k) :=
            ((hR.set k 0).set (k + 1) 2).congr fun j hj => kindAt_valley s hk' hf Hy.out hj
          clear hR hf
          go_wp2_with fail
          rw [show ((k + 1 : Nat) : Int) - 1 = (k : Int) from by omega]
          refine (letter_any s k _ (by omega)).mono ?_
          rintro e w' ⟨rfl, rfl⟩
          go_wp2_with fail
          rw [show (k : Int) + 1 = ((k + 1 : Nat) : Int) from rfl]
          refine (letter_any s (k + 1) _ (by omega)).mono ?_
          rintro e w' ⟨rfl, rfl⟩
          go_wp2_with fail
          refine (cmp_gt _ _ _ (by omega)).mono ?_
          rintro e w' ⟨rfl, rfl⟩
          go_wp2
          exact ⟨⟨k, by omega, rfl, hg, (hB.setCell (Nat.le_refl _) _).setCell (Nat.le_refl _) _⟩, by simp [intOf]⟩
        · have hg : Row (wr.setCell ⟨w.heap.size, k, none⟩ (.int .i64 0)) w.heap.size 233 (s.size + 1) (kindAt s k) :=
            (hR.set k 0).congr fun j hj => kindAt_plain s hk' (by rw [hf]; rfl) (by rw [Hy.out]; omega) hj
          have hyb : ((y : Int) == 1) = false := by simp; omega
          clear hR hf hy1
          go_wp2_with fail
          rw [show ((k + 1 : Nat) : Int) - 1 = (k : Int) from by omega]
          refine (letter_any s k _ (by omega)).mono ?_
          rintro e w' ⟨rfl, rfl⟩
          go_wp2_with fail
          rw [show (k : Int) + 1 = ((k + 1 : Nat) : Int) from rfl]
          refine (letter_any s (k + 1) _ (by omega)).mono ?_
          rintro e w' ⟨rfl, rfl⟩
          go_wp2_with fail
          refine (cmp_gt _ _ _ (by omega)).mono ?_
          rintro e w' ⟨rfl, rfl⟩
          go_wp2
          exact ⟨⟨k, by omega, rfl, hg, hB.setCell (Nat.le_refl _) _⟩, by simp [intOf]⟩

end Go.Proofs.YtopihgmemnokkaaGreat
