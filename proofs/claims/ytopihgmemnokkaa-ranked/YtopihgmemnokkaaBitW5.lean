import Derived.Test.YtopihgmemnokkaaBitW4
namespace Go.Proofs.Ytopihgmemnokkaa
open Go.RowKit

/-- how many bits runs have together -/
def rsum (rs : List (Nat × Nat)) : Nat := (rs.map Prod.fst).sum

theorem rsum_take (rs : List (Nat × Nat)) {k : Nat} {x : Nat × Nat} (h : rs[k]? = some x) : rsum (rs.take (k + 1)) = rsum (rs.take k) + x.1 := by
  unfold rsum
  have hk := (List.getElem?_eq_some_iff.1 h).1
  have hx := (List.getElem?_eq_some_iff.1 h).2
  rw [List.take_succ_eq_append_getElem hk, hx]
  simp
theorem rsum_le (rs : List (Nat × Nat)) (k : Nat) : rsum (rs.take k) ≤ rsum rs := by
  unfold rsum
  rw [List.map_take]
  have := List.sum_append (l₁ := (rs.map Prod.fst).take k) (l₂ := (rs.map Prod.fst).drop k)
  rw [List.take_append_drop] at this
  omega

/-- runs lie in a row -/
def Runs (w : World) (g : Nat) (rs : List (Nat × Nat)) : Prop := ∀ k x, rs[k]? = some x → w.cell? ⟨g, k * 2, none⟩ = some (.int .i64 (x.1 : Nat)) ∧ w.cell? ⟨g, k * 2 + 1, none⟩ = some (.int .u64 (x.2 : Nat))

/-- the bits from n on are those of runs -/
def Spells (p : Nat → Bool) (n : Nat) (rs : List (Nat × Nat)) : Prop :=
  ∀ k x, rs[k]? = some x → x.1 ≤ 64 ∧ x.2 < 18446744073709551616 ∧ ∀ i, i < x.1 → (p (n + rsum (rs.take k) + i)).toNat = x.2 / 2 ^ (x.1 - 1 - i) % 2

theorem cell_keep {P : Nat → Prop} {w w' : World} (h : Kept P w w') {a : Addr} {v : Value} (hc : w.cell? a = some v) (hn : ¬ P a.block) : w'.cell? a = some v := by
  have hb := World.block_lt_of_cell? _ _ hc
  unfold World.cell? at *
  rw [h.block a.block hb hn]; exact hc

set_option maxRecDepth 100000 in
set_option maxHeartbeats 2000000 in
theorem lay_any (base : Nat) (w : World) (b o : Nat) (pre post : List Value) (ho : pre.length = o) (ty : TypeId) (wv av : Value) (p : Nat → Bool) (n g cap : Nat) (rs : List (Nat × Nat)) (h : BitL base w b pre post ty wv av p n)
    (hr : Runs w g rs) (hs : Spells p n rs) (hg : ¬ bitP b wv av g) (hb : n + rsum rs ≤ 1099511627776) (hl : rs.length ≤ 1099511627776) :
    Calls Try.prog 24 #[.pointer (some ⟨b, o, none⟩), .slice (some ⟨g, 0, none⟩) rs.length cap] w fun e w' => e = .returned (.tuple #[]) ∧ ∃ wv' av', BitL base w' b pre post ty wv' av' p (n + rsum rs) ∧ Kept (bitP b wv av) w w' ∧
      (∀ k, bitP b wv' av' k → bitP b wv av k ∨ w.heap.size ≤ k) := by
  go_enter Try.func24, Try.ntmps24
  go_wp2
  go_loopw [5, 6, 9] (fun _ _ i wr => ∃ (k : Nat) (wv' av' : Value), k ≤ rs.length ∧ i = .int .i64 k ∧ BitL base wr b pre post ty wv' av' p (n + rsum (rs.take k)) ∧ Kept (bitP b wv av) w wr ∧
      (∀ k, bitP b wv' av' k → bitP b wv av k ∨ w.heap.size ≤ k)) (fun _ _ i _ => rs.length - (intOf i).toNat)
  case atStart => exact ⟨0, wv, av, by omega, rfl, by simpa [rsum] using h, Kept.refl _ _, fun k hk => .inl hk⟩
  case round =>
    obtain ⟨k, wv1, av1, hk, rfl, hL, hK, hat⟩ := hrel
    rename World => wo
    by_cases hlt : k < rs.length
    · obtain ⟨⟨z, t⟩, hx⟩ : ∃ x, rs[k]? = some x := ⟨_, List.getElem?_eq_getElem hlt⟩
      obtain ⟨r1, r2⟩ := hr k _ hx
      have c1 := cell_keep hK r1 hg
      have c2 := cell_keep hK r2 hg
      obtain ⟨s1, s2, s3⟩ := hs k _ hx
      simp only at c1 c2 s1 s2
      have s3 : Hid (∀ i, i < z → (p (n + rsum (rs.take k) + i)).toNat = t / 2 ^ (z - 1 - i) % 2) := s3
      have hlow := hL.lt
      have hrt := rsum_take rs hx
      have hrl := rsum_le rs (k + 1)
      simp only at hrt
      clear hr r1 r2
      go_wp2
      have hL1 := hL.below (w' := wo.alloc (.cells #[.int .i64 (z : Nat), .int .u64 (t : Nat)] 82)) ((Below.refl _ _).alloc (Nat.le_refl _) _)
      have hbx : (wo.alloc (.cells #[.int .i64 (z : Nat), .int .u64 (t : Nat)] 82)).heap[wo.heap.size]? = some (.cells #[.int .i64 (z : Nat), .int .u64 (t : Nat)] 82 (0, 0)) := heap_alloc_new _ _
      have hbn : ¬ bitP b wv1 av1 wo.heap.size := fun hp => by have := (hlow _ hp).2; omega
      go_loopw [6, 15] (fun _ i wq => ∃ (j : Nat) (wv2 av2 : Value), j ≤ z ∧ i = .int .i64 j ∧ BitL base wq b pre post ty wv2 av2 p (n + rsum (rs.take k) + j) ∧ Kept (bitP b wv1 av1) (wo.alloc (.cells #[.int .i64 (z : Nat), .int .u64 (t : Nat)] 82)) wq ∧
          (∀ k, bitP b wv2 av2 k → bitP b wv1 av1 k ∨ wo.heap.size + 1 ≤ k)) (fun _ i _ => z - (intOf i).toNat)
      case atStart => exact ⟨0, wv1, av1, by omega, rfl, hL1, Kept.refl _ _, fun k hk => .inl hk⟩
      case round =>
        clear hL1
        obtain ⟨j, wv2, av2, hj, rfl, hL2, hK2, hat2⟩ := hrel
        have hB := hK2.block wo.heap.size (by simp) hbn
        rw [hbx] at hB
        have d1 : wr.cell? ⟨wo.heap.size, 0, none⟩ = some (.int .i64 (z : Nat)) := by simp [World.cell?, hB]
        have d2 : wr.cell? ⟨wo.heap.size, 1, none⟩ = some (.int .u64 (t : Nat)) := by simp [World.cell?, hB]
        clear hB
        by_cases hjz : j < z
        · go_wp2_with fail
          refine (bit_any z t j wr s1 hjz s2).mono ?_
          rintro e w3 ⟨rfl, hB3⟩
          have HY : Hid ((p (n + rsum (rs.take k) + j)).toNat = t / 2 ^ (z - 1 - j) % 2) := s3.out j hjz
          generalize t / 2 ^ (z - 1 - j) % 2 = Y at *
          go_wp2_with fail
          rw [← HY.out]
          refine (layBit_any base w3 b o pre post ho ty wv2 av2 p (n + rsum (rs.take k) + j) (hL2.below hB3) (by omega)).mono ?_
          rintro e w4 ⟨rfl, wv3, av3, hL4, hK4, hat4⟩
          have hz3 := hB3.size
          have hz2 := hK2.size
          simp only [World.size_alloc] at hz2
          have hk5 := (hK2.trans' (Kept.of_below hB3 (Nat.le_refl _) (fun _ => False)) (fun _ _ h => h.elim)).trans' hK4 (fun i hi hp => by
            rcases hat2 i hp with h1 | h1
            · exact h1
            · simp only [World.size_alloc] at hi; omega)
          have hat5 : ∀ k, bitP b wv3 av3 k → bitP b wv1 av1 k ∨ wo.heap.size + 1 ≤ k := fun k hp => by
            rcases hat4 k hp with h1 | h1
            · exact hat2 k h1
            · exact .inr (by omega)
          clear hK4 hat4 hB3 hat2 hK2
          go_wp2
          exact ⟨⟨j + 1, wv3, av3, by omega, by go_num, hL4, hk5, hat5⟩, by simp [intOf]; omega⟩
        · have hjz' : j = z := by omega
          subst hjz'
          have hz2 := hK2.size
          simp only [World.size_alloc] at hz2
          have hz1 := hK.size
          have hk6 := (hK.trans' ((Kept.refl (fun _ => False) wo).alloc (.cells #[.int .i64 (j : Nat), .int .u64 (t : Nat)] 82)) (fun _ _ h => h.elim)).trans' hK2 (fun i hi hp => by
            rcases hat i hp with h1 | h1
            · exact h1
            · omega)
          have hat6 : ∀ k, bitP b wv2 av2 k → bitP b wv av k ∨ w.heap.size ≤ k := fun k hp => by
            rcases hat2 k hp with h1 | h1
            · exact hat k h1
            · exact .inr (by omega)
          rw [Nat.add_assoc, ← hrt] at hL2
          clear hK2 hat2
          go_wp2
          exact ⟨⟨k + 1, wv2, av2, by omega, by go_num, hL2, hk6, hat6⟩, by simp [intOf]; omega⟩
    · have hk' : k = rs.length := by omega
      subst hk'
      rw [List.take_length] at hL
      go_wp2
      go_end0
      exact ⟨rfl, wv1, av1, hL, hK, hat⟩

end Go.Proofs.Ytopihgmemnokkaa
