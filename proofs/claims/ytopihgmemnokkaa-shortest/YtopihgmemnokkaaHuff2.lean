import Derived.Test.YtopihgmemnokkaaHuff
namespace Hf

/-- trees with lengths: how much room they take (of 2 ^ N), and what they cost -/
def kr (N : Nat) (P : List (T × Nat)) : Nat := (P.map fun p => 2 ^ (N - p.2)).sum
def cs (f : Nat → Nat) (P : List (T × Nat)) : Nat := (P.map fun p => cost f p.1 + wt f p.1 * p.2).sum

theorem kr_cons (N : Nat) (p : T × Nat) (P : List (T × Nat)) : kr N (p :: P) = 2 ^ (N - p.2) + kr N P := by simp [kr]
theorem cs_cons (f : Nat → Nat) (p : T × Nat) (P : List (T × Nat)) : cs f (p :: P) = cost f p.1 + wt f p.1 * p.2 + cs f P := by simp [cs]
theorem kr_put (N k : Nat) (x : T × Nat) (R : List (T × Nat)) : kr N (R.take k ++ x :: R.drop k) = 2 ^ (N - x.2) + kr N R := by
  have h : kr N R = kr N (R.take k) + kr N (R.drop k) := by
    unfold kr; rw [← List.sum_append, ← List.map_append, List.take_append_drop]
  rw [h]
  unfold kr; simp; omega
theorem cs_put (f : Nat → Nat) (k : Nat) (x : T × Nat) (R : List (T × Nat)) : cs f (R.take k ++ x :: R.drop k) = cost f x.1 + wt f x.1 * x.2 + cs f R := by
  have h : cs f R = cs f (R.take k) + cs f (R.drop k) := by
    unfold cs; rw [← List.sum_append, ← List.map_append, List.take_append_drop]
  rw [h]
  unfold cs; simp; omega

theorem swap_le {a c x z : Nat} (h1 : a ≤ c) (h2 : x ≤ z) : a * z + c * x ≤ a * x + c * z := by
  obtain ⟨e, rfl⟩ : ∃ e, c = a + e := ⟨c - a, by omega⟩
  obtain ⟨d, rfl⟩ : ∃ d, z = x + d := ⟨z - x, by omega⟩
  simp only [Nat.mul_add, Nat.add_mul]
  omega

theorem exch (f : Nat → Nat) (N : Nat) (a : T) : ∀ (R : List (T × Nat)) (x : Nat), (∀ p ∈ R, wt f a ≤ wt f p.1) →
    ∃ (x' : Nat) (R' : List (T × Nat)), R'.map Prod.fst = R.map Prod.fst ∧ (∀ p ∈ R', p.2 ≤ x') ∧ (∀ B, x ≤ B → (∀ p ∈ R, p.2 ≤ B) → x' ≤ B ∧ ∀ p ∈ R', p.2 ≤ B) ∧
      2 ^ (N - x') + kr N R' = 2 ^ (N - x) + kr N R ∧ wt f a * x' + cs f R' ≤ wt f a * x + cs f R
  | [], x, _ => ⟨x, [], rfl, by simp, fun B h _ => ⟨h, by simp⟩, rfl, Nat.le_refl _⟩
  | (c, z) :: R, x, h => by
    obtain ⟨x1, R1, e1, e2, e3, e4, e5⟩ := exch f N a R x (fun p hp => h p (by simp [hp]))
    have hc := h (c, z) (by simp)
    by_cases hz : z ≤ x1
    · refine ⟨x1, (c, z) :: R1, by simp [e1], ?_, ?_, ?_, ?_⟩
      · intro p hp
        simp only [List.mem_cons] at hp
        rcases hp with rfl | hp
        · exact hz
        · exact e2 p hp
      · intro B hx hB
        obtain ⟨b1, b2⟩ := e3 B hx (fun p hp => hB p (by simp [hp]))
        refine ⟨b1, fun p hp => ?_⟩
        simp only [List.mem_cons] at hp
        rcases hp with rfl | hp
        · exact hB (c, z) (by simp)
        · exact b2 p hp
      · rw [kr_cons, kr_cons]; omega
      · rw [cs_cons, cs_cons]; omega
    · refine ⟨z, (c, x1) :: R1, by simp [e1], ?_, ?_, ?_, ?_⟩
      · intro p hp
        simp only [List.mem_cons] at hp
        rcases hp with rfl | hp
        · simp only; omega
        · have := e2 p hp; omega
      · intro B hx hB
        obtain ⟨b1, b2⟩ := e3 B hx (fun p hp => hB p (by simp [hp]))
        refine ⟨hB (c, z) (by simp), fun p hp => ?_⟩
        simp only [List.mem_cons] at hp
        rcases hp with rfl | hp
        · exact b1
        · exact b2 p hp
      · rw [kr_cons, kr_cons]; simp only; omega
      · rw [cs_cons, cs_cons]
        have := swap_le hc (show x1 ≤ z by omega)
        simp only at *
        omega

theorem kr_dvd (N y : Nat) : ∀ (R : List (T × Nat)), (∀ p ∈ R, p.2 ≤ y) → y ≤ N → 2 ^ (N - y) ∣ kr N R
  | [], _, _ => by simp [kr]
  | p :: R, h, hy => by
    rw [kr_cons]
    refine Nat.dvd_add ?_ (kr_dvd N y R (fun q hq => h q (by simp [hq])) hy)
    have := h p (by simp)
    exact Nat.pow_dvd_pow 2 (by omega)

theorem room (N x y : Nat) (R : List (T × Nat)) (hR : ∀ p ∈ R, p.2 ≤ y) (hy : y ≤ x) (hx : x ≤ N) (hk : 2 ^ (N - x) + (2 ^ (N - y) + kr N R) ≤ 2 ^ N) : 2 ^ (N - y) + (2 ^ (N - y) + kr N R) ≤ 2 ^ N := by
  by_cases e : x = y
  · subst e; exact hk
  · have hp : 0 < 2 ^ (N - x) := Nat.pow_pos (by omega)
    obtain ⟨s, hs⟩ := Nat.dvd_add (Nat.dvd_refl (2 ^ (N - y))) (kr_dvd N y R hR (by omega))
    have hN : 2 ^ N = 2 ^ (N - y) * 2 ^ y := by rw [← Nat.pow_add]; congr 1; omega
    rw [hs, hN] at hk ⊢
    have hlt : s < 2 ^ y := by
      apply Nat.lt_of_mul_lt_mul_left (a := 2 ^ (N - y))
      omega
    have := Nat.mul_le_mul_left (2 ^ (N - y)) (show s + 1 ≤ 2 ^ y from hlt)
    rw [Nat.mul_add] at this
    omega

/-- no lengths that fit cost less -/
theorem opt (f : Nat → Nat) (N : Nat) : ∀ (n : Nat) (P : List (T × Nat)), P.length = n + 1 → Inv f (P.map Prod.fst) → (∀ p ∈ P, p.2 ≤ N) → kr N P ≤ 2 ^ N → cost f (join f (P.map Prod.fst)) ≤ cs f P
  | 0, [(a, x)], _, _, _, _ => by simp [join_one, cs]
  | n + 1, (a, x) :: (b, y) :: R, hl, hI, hN, hk => by
    have hI' : Inv f (a :: b :: R.map Prod.fst) := hI
    have hs1 := List.pairwise_cons.1 hI'.srt
    have hs2 := List.pairwise_cons.1 hs1.2
    have hab : ∀ p ∈ (b, y) :: R, wt f a ≤ wt f p.1 := by
      intro p hp
      have : p.1 ∈ b :: R.map Prod.fst := by
        have := List.mem_map_of_mem (f := Prod.fst) hp
        simpa using this
      exact lt_le (hs1.1 p.1 this)
    obtain ⟨x1, R1, e1, e2, e3, e4, e5⟩ := exch f N a ((b, y) :: R) x hab
    match R1, e1 with
    | (b', y1) :: R2, e1 =>
      have eb : b' = b := by simpa using (List.cons.inj e1).1
      have er : R2.map Prod.fst = R.map Prod.fst := by simpa using (List.cons.inj e1).2
      subst eb
      have hb2 : ∀ p ∈ R2, wt f b' ≤ wt f p.1 := by
        intro p hp
        have : p.1 ∈ R2.map Prod.fst := List.mem_map_of_mem (f := Prod.fst) hp
        rw [er] at this
        exact lt_le (hs2.1 p.1 this)
      obtain ⟨y2, R3, d1, d2, d3, d4, d5⟩ := exch f N b' R2 y1 hb2
      have hx1 : x1 ≤ N ∧ ∀ p ∈ (b', y1) :: R2, p.2 ≤ N := e3 N (hN (a, x) (by simp)) (fun p hp => hN p (by simp only [List.mem_cons] at hp ⊢; exact .inr hp))
      have hy2 := d3 x1 (e2 (b', y1) (by simp)) (fun p hp => e2 p (by simp [hp]))
      have hR3N : ∀ p ∈ R3, p.2 ≤ N := fun p hp => Nat.le_trans (hy2.2 p hp) hx1.1
      have hk2 : 2 ^ (N - x1) + (2 ^ (N - y2) + kr N R3) ≤ 2 ^ N := by
        rw [kr_cons, kr_cons] at hk
        rw [kr_cons, kr_cons] at e4
        simp only at *
        omega
      have hroom := room N x1 y2 R3 d2 hy2.1 hx1.1 hk2
      have hy1 : 1 ≤ y2 := by
        rcases Nat.eq_zero_or_pos y2 with h | h
        · subst h
          have : 0 < 2 ^ N := Nat.pow_pos (by omega)
          simp only [Nat.sub_zero] at hroom
          omega
        · exact h
      have hpw : 2 ^ (N - (y2 - 1)) = 2 ^ (N - y2) + 2 ^ (N - y2) := by
        rw [show N - (y2 - 1) = (N - y2) + 1 by omega, Nat.pow_succ]; omega
      have hput : ((R3.take ((R.map Prod.fst).countP fun z => lt f z (.node a b'))) ++ (.node a b', y2 - 1) :: R3.drop ((R.map Prod.fst).countP fun z => lt f z (.node a b'))).map Prod.fst = put f (.node a b') (R.map Prod.fst) := by
        unfold put
        rw [List.map_append, List.map_cons, List.map_take, List.map_drop, d1, er]
      have hl3 : R3.length = n := by
        have h1 := congrArg List.length d1
        have h2 := congrArg List.length er
        simp only [List.length_map, List.length_cons] at h1 h2 hl
        omega
      have ih := opt f N n _ (by
          have := congrArg List.length hput
          rw [List.length_map, put_length] at this
          rw [this]
          have h1 := congrArg List.length d1
          have h2 := congrArg List.length er
          simp only [List.length_map] at h1 h2 ⊢
          omega) (by rw [hput]; exact hI'.step) (by
          intro p hp
          simp only [List.mem_append, List.mem_cons] at hp
          rcases hp with hp | rfl | hp
          · exact hR3N p (List.mem_of_mem_take hp)
          · simp only; omega
          · exact hR3N p (List.mem_of_mem_drop hp)) (by rw [kr_put]; simp only; rw [hpw]; omega)
      rw [hput, cs_put] at ih
      have hj : join f (List.map Prod.fst ((a, x) :: (b', y) :: R)) = join f (put f (.node a b') (R.map Prod.fst)) := join_step f a b' _
      rw [hj]
      refine Nat.le_trans ih ?_
      simp only [cost, wt]
      have hm : (wt f a + wt f b') * (y2 - 1) + (wt f a + wt f b') = wt f a * y2 + wt f b' * y2 := by
        obtain ⟨z, rfl⟩ : ∃ z, y2 = z + 1 := ⟨y2 - 1, by omega⟩
        simp only [Nat.add_sub_cancel, Nat.mul_add, Nat.add_mul]; omega
      have hx2 : wt f a * y2 ≤ wt f a * x1 := Nat.mul_le_mul_left _ hy2.1
      rw [cs_cons, cs_cons]
      rw [cs_cons, cs_cons] at e5
      simp only at *
      omega
  | 0, [], h, _, _, _ => by simp at h
  | 0, _ :: _ :: _, h, _, _, _ => by simp at h
  | n + 1, [], h, _, _, _ => by simp at h
  | n + 1, [_], h, _, _, _ => by simp at h

/-- the ways to the bytes of a tree -/
def paths : T → List (Nat × List Bool)
  | .leaf c => [(c, [])]
  | .node l r => (paths l).map (fun x => (x.1, false :: x.2)) ++ (paths r).map (fun x => (x.1, true :: x.2))

theorem paths_bytes : ∀ t : T, (paths t).map Prod.fst = bytes t
  | .leaf c => rfl
  | .node l r => by
    simp only [paths, bytes, List.map_append, List.map_map]
    rw [← paths_bytes l, ← paths_bytes r]; rfl
theorem paths_len : ∀ (t : T) (x : Nat × List Bool), x ∈ paths t → x.2.length ≤ ht t
  | .leaf c, x, h => by simp [paths] at h; subst h; simp
  | .node l r, x, h => by
    simp only [paths, List.mem_append, List.mem_map] at h
    simp only [ht]
    rcases h with ⟨y, hy, rfl⟩ | ⟨y, hy, rfl⟩
    · have := paths_len l y hy; simp only [List.length_cons]; omega
    · have := paths_len r y hy; simp only [List.length_cons]; omega
theorem paths_wt (f : Nat → Nat) : ∀ t : T, ((paths t).map fun x => f x.1).sum = wt f t
  | .leaf c => by simp [paths, wt]
  | .node l r => by
    simp only [paths, wt, List.map_append, List.map_map, List.sum_append]
    rw [← paths_wt f l, ← paths_wt f r]; rfl
theorem sum_succ (f : Nat → Nat) (b : Bool) : ∀ l : List (Nat × List Bool), ((l.map (fun x => (x.1, b :: x.2))).map fun x => f x.1 * x.2.length).sum = (l.map fun x => f x.1 * x.2.length).sum + (l.map fun x => f x.1).sum
  | [] => rfl
  | x :: l => by
    have := sum_succ f b l
    simp only [List.map_cons, List.sum_cons, List.length_cons] at *
    rw [this, Nat.mul_add]; omega
theorem paths_cost (f : Nat → Nat) : ∀ t : T, ((paths t).map fun x => f x.1 * x.2.length).sum = cost f t
  | .leaf c => by simp [paths, cost]
  | .node l r => by
    have h1 := paths_cost f l
    have h2 := paths_cost f r
    have h3 := paths_wt f l
    have h4 := paths_wt f r
    simp only [paths, cost]
    rw [List.map_append, List.sum_append, sum_succ, sum_succ, h1, h2, h3, h4]; omega
theorem paths_free : ∀ (t : T) (x y : Nat × List Bool), x ∈ paths t → y ∈ paths t → x.1 ≠ y.1 → ¬ x.2 <+: y.2
  | .leaf c, x, y, hx, hy, hne => by simp [paths] at hx hy; subst hx; subst hy; exact absurd rfl hne
  | .node l r, x, y, hx, hy, hne => by
    simp only [paths, List.mem_append, List.mem_map] at hx hy
    rcases hx with ⟨u, hu, rfl⟩ | ⟨u, hu, rfl⟩ <;> rcases hy with ⟨v, hv, rfl⟩ | ⟨v, hv, rfl⟩
    · intro h; exact paths_free l u v hu hv hne (List.cons_prefix_cons.1 h).2
    · intro h; have := (List.cons_prefix_cons.1 h).1; cases this
    · intro h; have := (List.cons_prefix_cons.1 h).1; cases this
    · intro h; exact paths_free r u v hu hv hne (List.cons_prefix_cons.1 h).2

end Hf
