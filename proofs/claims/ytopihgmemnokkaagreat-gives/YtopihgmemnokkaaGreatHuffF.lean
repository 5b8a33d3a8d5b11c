import Derived.Test.YtopihgmemnokkaaGreatEndsF
namespace Hf

/-- trees of bytes -/
inductive T where
  | leaf (c : Nat)
  | node (l r : T)

def wt (f : Nat → Nat) : T → Nat
  | .leaf c => f c
  | .node l r => wt f l + wt f r
def least : T → Nat
  | .leaf c => c
  | .node l r => min (least l) (least r)
def bytes : T → List Nat
  | .leaf c => [c]
  | .node l r => bytes l ++ bytes r
def ht : T → Nat
  | .leaf _ => 0
  | .node l r => max (ht l) (ht r) + 1
def cost (f : Nat → Nat) : T → Nat
  | .leaf _ => 0
  | .node l r => cost f l + cost f r + wt f l + wt f r
def kid (f : Nat → Nat) : T → Nat
  | .leaf _ => 0
  | .node l r => max (wt f l) (wt f r)
def good (f : Nat → Nat) : T → Prop
  | .leaf _ => True
  | .node l r => good f l ∧ good f r ∧ kid f l ≤ wt f r ∧ kid f r ≤ wt f l

theorem least_mem : ∀ t : T, least t ∈ bytes t
  | .leaf c => by simp [least, bytes]
  | .node l r => by
    have h1 := least_mem l
    have h2 := least_mem r
    simp only [least, bytes, List.mem_append]
    rcases Nat.le_total (least l) (least r) with h | h
    · rw [Nat.min_eq_left h]; exact .inl h1
    · rw [Nat.min_eq_right h]; exact .inr h2
theorem least_le : ∀ (t : T) (c : Nat), c ∈ bytes t → least t ≤ c
  | .leaf d, c, h => by simp [bytes] at h; subst h; exact Nat.le_refl _
  | .node l r, c, h => by
    simp only [bytes, List.mem_append] at h
    simp only [least]
    rcases h with h | h
    · have := least_le l c h; omega
    · have := least_le r c h; omega

/-- a tree goes ahead of another -/
def lt (f : Nat → Nat) (a b : T) : Bool := decide (wt f a < wt f b) || (decide (wt f a = wt f b) && decide (least a < least b))

theorem lt_iff (f : Nat → Nat) (a b : T) : lt f a b = true ↔ wt f a < wt f b ∨ (wt f a = wt f b ∧ least a < least b) := by simp [lt]
theorem lt_trans {f : Nat → Nat} {a b c : T} (h1 : lt f a b = true) (h2 : lt f b c = true) : lt f a c = true := by
  rw [lt_iff] at *; omega
theorem lt_le {f : Nat → Nat} {a b : T} (h : lt f a b = true) : wt f a ≤ wt f b := by rw [lt_iff] at h; omega
theorem not_lt_le {f : Nat → Nat} {a b : T} (h : lt f a b = false) : wt f b ≤ wt f a := by
  have : ¬ (lt f a b = true) := by rw [h]; simp
  rw [lt_iff] at this; omega
theorem lt_total {f : Nat → Nat} {a b : T} (h : least a ≠ least b) (h2 : lt f a b = false) : lt f b a = true := by
  have : ¬ (lt f a b = true) := by rw [h2]; simp
  rw [lt_iff] at *; omega

/-- in order -/
def Srt (f : Nat → Nat) (l : List T) : Prop := l.Pairwise fun a b => lt f a b = true

/-- a tree is put where it belongs -/
def put (f : Nat → Nat) (x : T) (l : List T) : List T := l.take (l.countP fun y => lt f y x) ++ x :: l.drop (l.countP fun y => lt f y x)

theorem put_cons (f : Nat → Nat) (x y : T) (l : List T) (h : lt f y x = true) : put f x (y :: l) = y :: put f x l := by
  unfold put
  rw [List.countP_cons_of_pos (p := fun z => lt f z x) h]; rfl
theorem put_head (f : Nat → Nat) (x y : T) (l : List T) (hs : Srt f (y :: l)) (h : lt f y x = false) : put f x (y :: l) = x :: y :: l := by
  unfold put
  have h0 : (y :: l).countP (fun z => lt f z x) = 0 := by
    rw [List.countP_eq_zero]
    intro z hz
    simp only [List.mem_cons] at hz
    rcases hz with rfl | hz
    · rw [h]; simp
    · intro hz2
      have := (List.pairwise_cons.1 hs).1 z hz
      rw [lt_trans this hz2] at h; cases h
  rw [h0]; rfl
theorem put_nil (f : Nat → Nat) (x : T) : put f x [] = [x] := rfl

theorem put_perm (f : Nat → Nat) (x : T) (l : List T) : (put f x l).Perm (x :: l) := by
  unfold put
  have h := List.perm_middle (a := x) (l₁ := l.take (l.countP fun y => lt f y x)) (l₂ := l.drop (l.countP fun y => lt f y x))
  rw [List.take_append_drop] at h
  exact h
theorem put_length (f : Nat → Nat) (x : T) (l : List T) : (put f x l).length = l.length + 1 := by rw [(put_perm f x l).length_eq]; rfl
theorem put_mem {f : Nat → Nat} {x : T} {l : List T} {z : T} (h : z ∈ put f x l) : z = x ∨ z ∈ l := by
  have := (put_perm f x l).mem_iff.1 h
  simpa using this

theorem put_srt {f : Nat → Nat} {x : T} : ∀ {l : List T}, Srt f l → (∀ y ∈ l, least y ≠ least x) → Srt f (put f x l)
  | [], _, _ => by rw [put_nil]; exact List.pairwise_singleton _ _
  | y :: l, hs, hd => by
    have hs2 := List.pairwise_cons.1 hs
    cases h : lt f y x
    · rw [put_head f x y l hs h]
      have hxy := lt_total (hd y (by simp)) h
      refine List.pairwise_cons.2 ⟨?_, hs⟩
      intro z hz
      simp only [List.mem_cons] at hz
      rcases hz with rfl | hz
      · exact hxy
      · exact lt_trans hxy (hs2.1 z hz)
    · rw [put_cons f x y l h]
      refine List.pairwise_cons.2 ⟨?_, put_srt hs2.2 (fun z hz => hd z (by simp [hz]))⟩
      intro z hz
      rcases put_mem hz with rfl | hz
      · exact h
      · exact hs2.1 z hz

/-- all trees as one: always the two that go first -/
def joinN (f : Nat → Nat) : Nat → List T → T
  | 0, [] => .leaf 0
  | 0, a :: _ => a
  | _ + 1, [] => .leaf 0
  | _ + 1, [a] => a
  | n + 1, a :: b :: l => joinN f n (put f (.node a b) l)
def join (f : Nat → Nat) (l : List T) : T := joinN f l.length l
theorem join_step (f : Nat → Nat) (a b : T) (l : List T) : join f (a :: b :: l) = join f (put f (.node a b) l) := by
  unfold join
  simp only [List.length_cons, joinN]
  rw [put_length]
theorem join_one (f : Nat → Nat) (a : T) : join f [a] = a := rfl

/-- what is kept while trees are put together -/
structure Inv (f : Nat → Nat) (l : List T) : Prop where
  srt : Srt f l
  pos : ∀ t ∈ l, ∀ c ∈ bytes t, 0 < f c
  nd : (l.flatMap bytes).Nodup
  gd : ∀ t ∈ l, good f t
  kd : ∀ t ∈ l, ∀ u ∈ l, kid f t ≤ wt f u

theorem wt_pos {f : Nat → Nat} : ∀ t : T, (∀ c ∈ bytes t, 0 < f c) → 0 < wt f t
  | .leaf c, h => h c (by simp [bytes])
  | .node l r, h => by
    have := wt_pos l (fun c hc => h c (by simp [bytes, hc]))
    simp only [wt]; omega

theorem nd_least {l : List T} {a b : T} (h : (a :: l).flatMap bytes |>.Nodup) (hb : b ∈ l) : ∀ c ∈ bytes a, c ∉ bytes b := by
  intro c hc hcb
  rw [List.flatMap_cons, List.nodup_append] at h
  exact h.2.2 c hc c (List.mem_flatMap.2 ⟨b, hb, hcb⟩) rfl

theorem flat_perm {l m : List T} (h : l.Perm m) : (l.flatMap bytes).Perm (m.flatMap bytes) := h.flatMap_right bytes

theorem step_perm (f : Nat → Nat) (a b : T) (l : List T) : ((put f (.node a b) l).flatMap bytes).Perm ((a :: b :: l).flatMap bytes) := by
  refine (flat_perm (put_perm f (.node a b) l)).trans ?_
  simp [bytes]

theorem Inv.step {f : Nat → Nat} {a b : T} {l : List T} (h : Inv f (a :: b :: l)) : Inv f (put f (.node a b) l) := by
  have hs1 := List.pairwise_cons.1 h.srt
  have hs2 := List.pairwise_cons.1 hs1.2
  have hab : wt f a ≤ wt f b := lt_le (hs1.1 b (by simp))
  have hbl : ∀ u ∈ l, wt f b ≤ wt f u := fun u hu => lt_le (hs2.1 u hu)
  have hndb : ((b :: l).flatMap bytes).Nodup := by
    have := h.nd; rw [List.flatMap_cons, List.nodup_append] at this; exact this.2.1
  refine ⟨put_srt hs2.2 ?_, ?_, ?_, ?_, ?_⟩
  · intro y hy e
    have hm := least_mem y
    have hx := least_mem (.node a b)
    rw [e] at hm
    simp only [bytes, List.mem_append] at hx
    rcases hx with hx | hx
    · exact nd_least h.nd (by simp [hy] : y ∈ b :: l) _ hx hm
    · exact nd_least hndb hy _ hx hm
  · intro t ht c hc
    rcases put_mem ht with rfl | ht
    · simp only [bytes, List.mem_append] at hc
      rcases hc with hc | hc
      · exact h.pos a (by simp) c hc
      · exact h.pos b (by simp) c hc
    · exact h.pos t (by simp [ht]) c hc
  · exact (step_perm f a b l).nodup_iff.2 h.nd
  · intro t ht
    rcases put_mem ht with rfl | ht
    · exact ⟨h.gd a (by simp), h.gd b (by simp), h.kd a (by simp) b (by simp), h.kd b (by simp) a (by simp)⟩
    · exact h.gd t (by simp [ht])
  · intro t ht u hu
    have hk : kid f (.node a b) = wt f b := by simp only [kid]; omega
    rcases put_mem ht with rfl | ht <;> rcases put_mem hu with rfl | hu
    · rw [hk]; simp only [wt]; omega
    · rw [hk]; exact hbl u hu
    · have := h.kd t (by simp [ht]) a (by simp)
      simp only [wt]; omega
    · exact h.kd t (by simp [ht]) u (by simp [hu])

theorem join_good {f : Nat → Nat} : ∀ (n : Nat) (l : List T), l.length = n + 1 → Inv f l → Inv f [join f l] ∧ (bytes (join f l)).Perm (l.flatMap bytes)
  | 0, [a], _, h => by rw [join_one]; exact ⟨h, by simp⟩
  | n + 1, a :: b :: l, hl, h => by
    rw [join_step]
    simp only [List.length_cons] at hl
    obtain ⟨h1, h2⟩ := join_good n (put f (.node a b) l) (by rw [put_length]; omega) h.step
    exact ⟨h1, h2.trans (step_perm f a b l)⟩
  | 0, [], h, _ => by simp at h
  | 0, _ :: _ :: _, h, _ => by simp at h
  | n + 1, [], h, _ => by simp at h
  | n + 1, [_], h, _ => by simp at h

/-- how much a tree of a height weighs at least -/
def fib : Nat → Nat
  | 0 => 1
  | 1 => 2
  | n + 2 => fib (n + 1) + fib n
theorem fib_pos : ∀ n, 0 < fib n
  | 0 => by simp [fib]
  | 1 => by simp [fib]
  | n + 2 => by have := fib_pos (n + 1); simp only [fib]; omega
theorem fib_mono : ∀ {a b : Nat}, a ≤ b → fib a ≤ fib b := by
  intro a b h
  induction b with
  | zero => have : a = 0 := by omega
            subst this; exact Nat.le_refl _
  | succ b ih =>
    by_cases e : a = b + 1
    · subst e; exact Nat.le_refl _
    · have h1 := ih (by omega)
      have h2 : fib b ≤ fib (b + 1) := by
        cases b with
        | zero => simp [fib]
        | succ b => simp only [fib]; omega
      omega
theorem fib_wt {f : Nat → Nat} : ∀ t : T, good f t → (∀ c ∈ bytes t, 0 < f c) → fib (ht t) ≤ wt f t ∧ (0 < ht t → fib (ht t - 1) ≤ kid f t)
  | .leaf c, _, h => ⟨h c (by simp [bytes]), fun h => by simp [ht] at h⟩
  | .node l r, hg, h => by
    obtain ⟨g1, g2, g3, g4⟩ := hg
    obtain ⟨a1, a2⟩ := fib_wt l g1 (fun c hc => h c (by simp [bytes, hc]))
    obtain ⟨b1, b2⟩ := fib_wt r g2 (fun c hc => h c (by simp [bytes, hc]))
    have p1 := fib_pos (ht r)
    have p2 := fib_pos (ht l)
    simp only [ht, wt, kid]
    rcases Nat.le_total (ht r) (ht l) with hh | hh
    · rw [Nat.max_eq_left hh]
      refine ⟨?_, fun _ => by simp only [Nat.add_sub_cancel]; omega⟩
      cases hl : ht l with
      | zero => rw [hl] at a1; simp only [fib] at *; omega
      | succ k =>
        have := a2 (by omega)
        rw [hl] at a1 this
        simp only [Nat.add_sub_cancel] at this
        simp only [fib]; omega
    · rw [Nat.max_eq_right hh]
      refine ⟨?_, fun _ => by simp only [Nat.add_sub_cancel]; omega⟩
      cases hl : ht r with
      | zero => rw [hl] at b1; simp only [fib] at *; omega
      | succ k =>
        have := b2 (by omega)
        rw [hl] at b1 this
        simp only [Nat.add_sub_cancel] at this
        simp only [fib]; omega
theorem ht_le {f : Nat → Nat} {t : T} (hg : good f t) (h : ∀ c ∈ bytes t, 0 < f c) (hw : wt f t ≤ 1000) : ht t ≤ 14 := by
  have h1 := (fib_wt t hg h).1
  rcases Nat.lt_or_ge (ht t) 15 with h2 | h2
  · omega
  · have := fib_mono h2
    have h3 : fib 15 = 1597 := by decide
    omega
theorem fib_two (n : Nat) : 2 * fib n ≤ fib (n + 2) := by
  have h := fib_mono (show n ≤ n + 1 by omega)
  simp only [fib]; omega
theorem fib_far (n : Nat) : ∀ k, 2 ^ k * fib n ≤ fib (n + 2 * k)
  | 0 => by simp
  | k + 1 => by
    have h1 := fib_far n k
    have h2 := fib_two (n + 2 * k)
    rw [show n + 2 * (k + 1) = n + 2 * k + 2 by omega, Nat.pow_succ, Nat.mul_comm (2 ^ k) 2, Nat.mul_assoc]; omega
theorem ht_leG {f : Nat → Nat} {t : T} (hg : good f t) (h : ∀ c ∈ bytes t, 0 < f c) (hw : wt f t ≤ 17000000) : ht t ≤ 42 := by
  have h1 := (fib_wt t hg h).1
  rcases Nat.lt_or_ge (ht t) 43 with h2 | h2
  · omega
  · have h4 := fib_mono h2
    have h3 : fib 15 = 1597 := by decide
    have h5 := fib_far 15 14
    rw [h3] at h5
    have h6 : (2 : Nat) ^ 14 * 1597 = 26165248 := by decide
    rw [h6] at h5
    have h7 : fib (15 + 2 * 14) = fib 43 := rfl
    rw [h7] at h5
    omega

end Hf

namespace Hf

/-- trees with lengths: how much room they take (of 2 ^ N), and what they cost -/
def kr (N : Nat) (P : List (T × Nat)) : Nat := (P.map fun p => 2 ^ (N - p.2)).sum
def cs (f : Nat → Nat) (P : List (T × Nat)) : Nat := (P.map fun p => cost f p.1 + wt f p.1 * p.2).sum

theorem kr_cons (N : Nat) (p : T × Nat) (P : List (T × Nat)) : kr N (p :: P) = 2 ^ (N - p.2) + kr N P := by simp [kr]
theorem cs_cons (f : Nat → Nat) (p : T × Nat) (P : List (T × Nat)) : cs f (p :: P) = cost f p.1 + wt f p.1 * p.2 + cs f P := by simp [cs]
theorem kr_put (N k : Nat) (x : T × Nat) (R : List (T × Nat)) : kr N (R.take k ++ x :: R.drop k) = 2 ^ (N - x.2) + kr N R := by
  have h : kr N R = kr N (R.take k) + kr N (R.drop k) := by
    unfold kr; rw [← List.sum_append, ← List.map_append, List.take_append_drop]
  rw [h]
  unfold kr; simp; omega
theorem cs_put (f : Nat → Nat) (k : Nat) (x : T × Nat) (R : List (T × Nat)) : cs f (R.take k ++ x :: R.drop k) = cost f x.1 + wt f x.1 * x.2 + cs f R := by
  have h : cs f R = cs f (R.take k) + cs f (R.drop k) := by
    unfold cs; rw [← List.sum_append, ← List.map_append, List.take_append_drop]
  rw [h]
  unfold cs; simp; omega

theorem swap_le {a c x z : Nat} (h1 : a ≤ c) (h2 : x ≤ z) : a * z + c * x ≤ a * x + c * z := by
  obtain ⟨e, rfl⟩ : ∃ e, c = a + e := ⟨c - a, by omega⟩
  obtain ⟨d, rfl⟩ : ∃ d, z = x + d := ⟨z - x, by omega⟩
  simp only [Nat.mul_add, Nat.add_mul]
  omega

theorem exch (f : Nat → Nat) (N : Nat) (a : T) : ∀ (R : List (T × Nat)) (x : Nat), (∀ p ∈ R, wt f a ≤ wt f p.1) →
    ∃ (x' : Nat) (R' : List (T × Nat)), R'.map Prod.fst = R.map Prod.fst ∧ (∀ p ∈ R', p.2 ≤ x') ∧ (∀ B, x ≤ B → (∀ p ∈ R, p.2 ≤ B) → x' ≤ B ∧ ∀ p ∈ R', p.2 ≤ B) ∧
      2 ^ (N - x') + kr N R' = 2 ^ (N - x) + kr N R ∧ wt f a * x' + cs f R' ≤ wt f a * x + cs f R
  | [], x, _ => ⟨x, [], rfl, by simp, fun B h _ => ⟨h, by simp⟩, rfl, Nat.le_refl _⟩
  | (c, z) :: R, x, h => by
    obtain ⟨x1, R1, e1, e2, e3, e4, e5⟩ := exch f N a R x (fun p hp => h p (by simp [hp]))
    have hc := h (c, z) (by simp)
    by_cases hz : z ≤ x1
    · refine ⟨x1, (c, z) :: R1, by simp [e1], ?_, ?_, ?_, ?_⟩
      · intro p hp
        simp only [List.mem_cons] at hp
        rcases hp with rfl | hp
        · exact hz
        · exact e2 p hp
      · intro B hx hB
        obtain ⟨b1, b2⟩ := e3 B hx (fun p hp => hB p (by simp [hp]))
        refine ⟨b1, fun p hp => ?_⟩
        simp only [List.mem_cons] at hp
        rcases hp with rfl | hp
        · exact hB (c, z) (by simp)
        · exact b2 p hp
      · rw [kr_cons, kr_cons]; omega
      · rw [cs_cons, cs_cons]; omega
    · refine ⟨z, (c, x1) :: R1, by simp [e1], ?_, ?_, ?_, ?_⟩
      · intro p hp
        simp only [List.mem_cons] at hp
        rcases hp with rfl | hp
        · simp only; omega
        · have := e2 p hp; omega
      · intro B hx hB
        obtain ⟨b1, b2⟩ := e3 B hx (fun p hp => hB p (by simp [hp]))
        refine ⟨hB (c, z) (by simp), fun p hp => ?_⟩
        simp only [List.mem_cons] at hp
        rcases hp with rfl | hp
        · exact b1
        · exact b2 p hp
      · rw [kr_cons, kr_cons]; simp only; omega
      · rw [cs_cons, cs_cons]
        have := swap_le hc (show x1 ≤ z by omega)
        simp only at *
        omega

theorem kr_dvd (N y : Nat) : ∀ (R : List (T × Nat)), (∀ p ∈ R, p.2 ≤ y) → y ≤ N → 2 ^ (N - y) ∣ kr N R
  | [], _, _ => by simp [kr]
  | p :: R, h, hy => by
    rw [kr_cons]
    refine Nat.dvd_add ?_ (kr_dvd N y R (fun q hq => h q (by simp [hq])) hy)
    have := h p (by simp)
    exact Nat.pow_dvd_pow 2 (by omega)

theorem room (N x y : Nat) (R : List (T × Nat)) (hR : ∀ p ∈ R, p.2 ≤ y) (hy : y ≤ x) (hx : x ≤ N) (hk : 2 ^ (N - x) + (2 ^ (N - y) + kr N R) ≤ 2 ^ N) : 2 ^ (N - y) + (2 ^ (N - y) + kr N R) ≤ 2 ^ N := by
  by_cases e : x = y
  · subst e; exact hk
  · have hp : 0 < 2 ^ (N - x) := Nat.pow_pos (by omega)
    obtain ⟨s, hs⟩ := Nat.dvd_add (Nat.dvd_refl (2 ^ (N - y))) (kr_dvd N y R hR (by omega))
    have hN : 2 ^ N = 2 ^ (N - y) * 2 ^ y := by rw [← Nat.pow_add]; congr 1; omega
    rw [hs, hN] at hk ⊢
    have hlt : s < 2 ^ y := by
      apply Nat.lt_of_mul_lt_mul_left (a := 2 ^ (N - y))
      omega
    have := Nat.mul_le_mul_left (2 ^ (N - y)) (show s + 1 ≤ 2 ^ y from hlt)
    rw [Nat.mul_add] at this
    omega

/-- no lengths that fit cost less -/
theorem opt (f : Nat → Nat) (N : Nat) : ∀ (n : Nat) (P : List (T × Nat)), P.length = n + 1 → Inv f (P.map Prod.fst) → (∀ p ∈ P, p.2 ≤ N) → kr N P ≤ 2 ^ N → cost f (join f (P.map Prod.fst)) ≤ cs f P
  | 0, [(a, x)], _, _, _, _ => by simp [join_one, cs]
  | n + 1, (a, x) :: (b, y) :: R, hl, hI, hN, hk => by
    have hI' : Inv f (a :: b :: R.map Prod.fst) := hI
    have hs1 := List.pairwise_cons.1 hI'.srt
    have hs2 := List.pairwise_cons.1 hs1.2
    have hab : ∀ p ∈ (b, y) :: R, wt f a ≤ wt f p.1 := by
      intro p hp
      have : p.1 ∈ b :: R.map Prod.fst := by
        have := List.mem_map_of_mem (f := Prod.fst) hp
        simpa using this
      exact lt_le (hs1.1 p.1 this)
    obtain ⟨x1, R1, e1, e2, e3, e4, e5⟩ := exch f N a ((b, y) :: R) x hab
    match R1, e1 with
    | (b', y1) :: R2, e1 =>
      have eb : b' = b := by simpa using (List.cons.inj e1).1
      have er : R2.map Prod.fst = R.map Prod.fst := by simpa using (List.cons.inj e1).2
      subst eb
      have hb2 : ∀ p ∈ R2, wt f b' ≤ wt f p.1 := by
        intro p hp
        have : p.1 ∈ R2.map Prod.fst := List.mem_map_of_mem (f := Prod.fst) hp
        rw [er] at this
        exact lt_le (hs2.1 p.1 this)
      obtain ⟨y2, R3, d1, d2, d3, d4, d5⟩ := exch f N b' R2 y1 hb2
      have hx1 : x1 ≤ N ∧ ∀ p ∈ (b', y1) :: R2, p.2 ≤ N := e3 N (hN (a, x) (by simp)) (fun p hp => hN p (by simp only [List.mem_cons] at hp ⊢; exact .inr hp))
      have hy2 := d3 x1 (e2 (b', y1) (by simp)) (fun p hp => e2 p (by simp [hp]))
      have hR3N : ∀ p ∈ R3, p.2 ≤ N := fun p hp => Nat.le_trans (hy2.2 p hp) hx1.1
      have hk2 : 2 ^ (N - x1) + (2 ^ (N - y2) + kr N R3) ≤ 2 ^ N := by
        rw [kr_cons, kr_cons] at hk
        rw [kr_cons, kr_cons] at e4
        simp only at *
        omega
      have hroom := room N x1 y2 R3 d2 hy2.1 hx1.1 hk2
      have hy1 : 1 ≤ y2 := by
        rcases Nat.eq_zero_or_pos y2 with h | h
        · subst h
          have : 0 < 2 ^ N := Nat.pow_pos (by omega)
          simp only [Nat.sub_zero] at hroom
          omega
        · exact h
      have hpw : 2 ^ (N - (y2 - 1)) = 2 ^ (N - y2) + 2 ^ (N - y2) := by
        rw [show N - (y2 - 1) = (N - y2) + 1 by omega, Nat.pow_succ]; omega
      have hput : ((R3.take ((R.map Prod.fst).countP fun z => lt f z (.node a b'))) ++ (.node a b', y2 - 1) :: R3.drop ((R.map Prod.fst).countP fun z => lt f z (.node a b'))).map Prod.fst = put f (.node a b') (R.map Prod.fst) := by
        unfold put
        rw [List.map_append, List.map_cons, List.map_take, List.map_drop, d1, er]
      have hl3 : R3.length = n := by
        have h1 := congrArg List.length d1
        have h2 := congrArg List.length er
        simp only [List.length_map, List.length_cons] at h1 h2 hl
        omega
      have ih := opt f N n _ (by
          have := congrArg List.length hput
          rw [List.length_map, put_length] at this
          rw [this]
          have h1 := congrArg List.length d1
          have h2 := congrArg List.length er
          simp only [List.length_map] at h1 h2 ⊢
          omega) (by rw [hput]; exact hI'.step) (by
          intro p hp
          simp only [List.mem_append, List.mem_cons] at hp
          rcases hp with hp | rfl | hp
          · exact hR3N p (List.mem_of_mem_take hp)
          · simp only; omega
          · exact hR3N p (List.mem_of_mem_drop hp)) (by rw [kr_put]; simp only; rw [hpw]; omega)
      rw [hput, cs_put] at ih
      have hj : join f (List.map Prod.fst ((a, x) :: (b', y) :: R)) = join f (put f (.node a b') (R.map Prod.fst)) := join_step f a b' _
      rw [hj]
      refine Nat.le_trans ih ?_
      simp only [cost, wt]
      have hm : (wt f a + wt f b') * (y2 - 1) + (wt f a + wt f b') = wt f a * y2 + wt f b' * y2 := by
        obtain ⟨z, rfl⟩ : ∃ z, y2 = z + 1 := ⟨y2 - 1, by omega⟩
        simp only [Nat.add_sub_cancel, Nat.mul_add, Nat.add_mul]; omega
      have hx2 : wt f a * y2 ≤ wt f a * x1 := Nat.mul_le_mul_left _ hy2.1
      rw [cs_cons, cs_cons]
      rw [cs_cons, cs_cons] at e5
      simp only at *
      omega
  | 0, [], h, _, _, _ => by simp at h
  | 0, _ :: _ :: _, h, _, _, _ => by simp at h
  | n + 1, [], h, _, _, _ => by simp at h
  | n + 1, [_], h, _, _, _ => by simp at h

/-- the ways to the bytes of a tree -/
def paths : T → List (Nat × List Bool)
  | .leaf c => [(c, [])]
  | .node l r => (paths l).map (fun x => (x.1, false :: x.2)) ++ (paths r).map (fun x => (x.1, true :: x.2))

theorem paths_bytes : ∀ t : T, (paths t).map Prod.fst = bytes t
  | .leaf c => rfl
  | .node l r => by
    simp only [paths, bytes, List.map_append, List.map_map]
    rw [← paths_bytes l, ← paths_bytes r]; rfl
theorem paths_len : ∀ (t : T) (x : Nat × List Bool), x ∈ paths t → x.2.length ≤ ht t
  | .leaf c, x, h => by simp [paths] at h; subst h; simp
  | .node l r, x, h => by
    simp only [paths, List.mem_append, List.mem_map] at h
    simp only [ht]
    rcases h with ⟨y, hy, rfl⟩ | ⟨y, hy, rfl⟩
    · have := paths_len l y hy; simp only [List.length_cons]; omega
    · have := paths_len r y hy; simp only [List.length_cons]; omega
theorem paths_wt (f : Nat → Nat) : ∀ t : T, ((paths t).map fun x => f x.1).sum = wt f t
  | .leaf c => by simp [paths, wt]
  | .node l r => by
    simp only [paths, wt, List.map_append, List.map_map, List.sum_append]
    rw [← paths_wt f l, ← paths_wt f r]; rfl
theorem sum_succ (f : Nat → Nat) (b : Bool) : ∀ l : List (Nat × List Bool), ((l.map (fun x => (x.1, b :: x.2))).map fun x => f x.1 * x.2.length).sum = (l.map fun x => f x.1 * x.2.length).sum + (l.map fun x => f x.1).sum
  | [] => rfl
  | x :: l => by
    have := sum_succ f b l
    simp only [List.map_cons, List.sum_cons, List.length_cons] at *
    rw [this, Nat.mul_add]; omega
theorem paths_cost (f : Nat → Nat) : ∀ t : T, ((paths t).map fun x => f x.1 * x.2.length).sum = cost f t
  | .leaf c => by simp [paths, cost]
  | .node l r => by
    have h1 := paths_cost f l
    have h2 := paths_cost f r
    have h3 := paths_wt f l
    have h4 := paths_wt f r
    simp only [paths, cost]
    rw [List.map_append, List.sum_append, sum_succ, sum_succ, h1, h2, h3, h4]; omega
theorem paths_free : ∀ (t : T) (x y : Nat × List Bool), x ∈ paths t → y ∈ paths t → x.1 ≠ y.1 → ¬ x.2 <+: y.2
  | .leaf c, x, y, hx, hy, hne => by simp [paths] at hx hy; subst hx; subst hy; exact absurd rfl hne
  | .node l r, x, y, hx, hy, hne => by
    simp only [paths, List.mem_append, List.mem_map] at hx hy
    rcases hx with ⟨u, hu, rfl⟩ | ⟨u, hu, rfl⟩ <;> rcases hy with ⟨v, hv, rfl⟩ | ⟨v, hv, rfl⟩
    · intro h; exact paths_free l u v hu hv hne (List.cons_prefix_cons.1 h).2
    · intro h; have := (List.cons_prefix_cons.1 h).1; cases this
    · intro h; have := (List.cons_prefix_cons.1 h).1; cases this
    · intro h; exact paths_free r u v hu hv hne (List.cons_prefix_cons.1 h).2

end Hf

namespace Cc

/-- an end that goes ahead of a word, and of all that begins with it -/
def ls (L : Nat → Nat) : List Nat → Nat → Bool
  | [], _ => false
  | c :: p, i => decide (L i < c + 1) || (decide (L i = c + 1) && ls L p (i + 1))
/-- an end that goes ahead of a word, or begins with it -/
def le (L : Nat → Nat) : List Nat → Nat → Bool
  | [], _ => true
  | c :: p, i => decide (L i < c + 1) || (decide (L i = c + 1) && le L p (i + 1))
/-- a word begins at a place -/
def mt (L : Nat → Nat) : List Nat → Nat → Bool
  | [], _ => true
  | c :: p, i => decide (L i = c + 1) && mt L p (i + 1)
/-- rows ahead of those that begin with a word -/
def lo (n : Nat) (L : Nat → Nat) (p : List Nat) : Nat := cn (n + 1) (ls L p)
/-- .. and with those -/
def hi (n : Nat) (L : Nat → Nat) (p : List Nat) : Nat := cn (n + 1) (le L p)

theorem mt_le (L : Nat → Nat) : ∀ (p : List Nat) (i : Nat), mt L p i = (le L p i && !ls L p i)
  | [], _ => rfl
  | c :: p, i => by
    have IH := mt_le L p (i + 1)
    simp only [mt, le, ls]
    rw [IH]
    by_cases h1 : L i < c + 1
    · have : ¬ L i = c + 1 := by omega
      simp [h1, this]
    · by_cases h2 : L i = c + 1
      · simp [h2]
      · simp [h1, h2]
theorem ls_le (L : Nat → Nat) : ∀ (p : List Nat) (i : Nat), ls L p i = true → le L p i = true
  | [], _, h => by simp [ls] at h
  | c :: p, i, h => by
    simp only [ls, Bool.or_eq_true, Bool.and_eq_true] at h
    simp only [le, Bool.or_eq_true, Bool.and_eq_true]
    rcases h with h | ⟨h1, h2⟩
    · exact .inl h
    · exact .inr ⟨h1, ls_le L p (i + 1) h2⟩

theorem cn_split (k : Nat) (P Q : Nat → Bool) (h : ∀ i, i < k → P i = true → Q i = false) : cn k (fun i => P i || Q i) = cn k P + cn k Q := by
  refine cn_add fun i hi => ?_
  cases hp : P i
  · cases Q i <;> rfl
  · rw [h i hi hp]; rfl

section
variable {n : Nat} {L : Nat → Nat} {lt : Nat → Nat → Bool} {b : Nat → Nat}

theorem Ord.Lin (o : Ord n L lt) {i c : Nat} (hi : i ≤ n) (h : L i = c + 1) : i < n := by
  rcases Nat.lt_or_ge i n with h1 | h1
  · exact h1
  · have : i = n := by omega
    rw [this, o.Ln] at h; omega

/-- a set of ends with all that go ahead of them -/
def Low (n : Nat) (lt : Nat → Nat → Bool) (D : Nat → Bool) : Prop := ∀ i j, i ≤ n → j ≤ n → lt i j = true → D j = true → D i = true

theorem Ord.low_ls (o : Ord n L lt) : ∀ p : List Nat, Low n lt (ls L p)
  | [], _, _, _, _, _, h => by simp [ls] at h
  | c :: p, i, j, hi, hj, hlt, h => by
    have h0 := o.Lle hi hj hlt
    simp only [ls, Bool.or_eq_true, Bool.and_eq_true, decide_eq_true_eq] at h ⊢
    rcases h with h | ⟨h1, h2⟩
    · exact .inl (by omega)
    · rcases Nat.lt_or_ge (L i) (c + 1) with h3 | h3
      · exact .inl h3
      · have h4 : L i = c + 1 := by omega
        have hin := o.Lin hi h4
        have hjn := o.Lin hj h1
        rw [o.recur i j hin hjn (by omega)] at hlt
        exact .inr ⟨h4, o.low_ls p (i + 1) (j + 1) (by omega) (by omega) hlt h2⟩
theorem Ord.low_le (o : Ord n L lt) : ∀ p : List Nat, Low n lt (le L p)
  | [], _, _, _, _, _, _ => rfl
  | c :: p, i, j, hi, hj, hlt, h => by
    have h0 := o.Lle hi hj hlt
    simp only [le, Bool.or_eq_true, Bool.and_eq_true, decide_eq_true_eq] at h ⊢
    rcases h with h | ⟨h1, h2⟩
    · exact .inl (by omega)
    · rcases Nat.lt_or_ge (L i) (c + 1) with h3 | h3
      · exact .inl h3
      · have h4 : L i = c + 1 := by omega
        have hin := o.Lin hi h4
        have hjn := o.Lin hj h1
        rw [o.recur i j hin hjn (by omega)] at hlt
        exact .inr ⟨h4, o.low_le p (i + 1) (j + 1) (by omega) (by omega) hlt h2⟩

/-- such a set is the first rows -/
theorem Low.rows {D : Nat → Bool} (h : Low n lt D) (o : Ord n L lt) {i : Nat} (hi : i ≤ n) : D i = true ↔ rank n lt i < cn (n + 1) D := by
  constructor
  · intro hd
    unfold rank
    have h1 : cn (n + 1) (fun j => lt j i || j == i) = cn (n + 1) (fun j => lt j i) + cn (n + 1) (fun j => j == i) := cn_split _ _ _ fun j _ hj => by
      by_cases e : j = i
      · subst e; rw [o.irr] at hj; cases hj
      · simp [e]
    rw [cn_one (n + 1) i (by omega)] at h1
    have h2 : cn (n + 1) (fun j => lt j i || j == i) ≤ cn (n + 1) D := cn_mono fun j hj hp => by
      simp only [Bool.or_eq_true, beq_iff_eq] at hp
      rcases hp with hp | rfl
      · exact h j i (by omega) hi hp hd
      · exact hd
    omega
  · intro hr
    cases hd : D i
    · exfalso
      have h2 : cn (n + 1) D ≤ cn (n + 1) (fun j => lt j i) := cn_mono fun j hj hp => by
        have hne : j ≠ i := by rintro rfl; rw [hd] at hp; cases hp
        rcases o.tri j i (by omega) hi hne with h3 | h3
        · exact h3
        · have := h i j hi (by omega) h3 hp
          rw [hd] at this; cases this
      unfold rank at hr
      omega
    · rfl

/-- the rows of a word -/
theorem Ord.word (o : Ord n L lt) (p : List Nat) {i : Nat} (hi : i ≤ n) : mt L p i = true ↔ lo n L p ≤ rank n lt i ∧ rank n lt i < Cc.hi n L p := by
  rw [mt_le]
  have h1 := (o.low_ls p).rows o hi
  have h2 := (o.low_le p).rows o hi
  unfold lo Cc.hi
  rw [Bool.and_eq_true, h2]
  cases h : ls L p i
  · rw [h] at h1
    have : ¬ rank n lt i < cn (n + 1) (ls L p) := fun x => by have := h1.2 x; cases this
    simp; omega
  · rw [h] at h1
    have := h1.1 rfl
    simp; omega
theorem lo_le_hi (n : Nat) (L : Nat → Nat) (p : List Nat) : lo n L p ≤ Cc.hi n L p := cn_mono fun i _ h => ls_le L p i h
theorem lo_nil (n : Nat) (L : Nat → Nat) : lo n L [] = 0 := by unfold lo; exact cn_zero fun _ _ => rfl
theorem hi_nil (n : Nat) (L : Nat → Nat) : Cc.hi n L [] = n + 1 := by
  unfold Cc.hi
  have : ∀ k, cn k (le L []) = k := fun k => by
    induction k with
    | zero => rfl
    | succ k ih => rw [cn, ih]; rfl
  exact this _
theorem hi_le (n : Nat) (L : Nat → Nat) (p : List Nat) : Cc.hi n L p ≤ n + 1 := cn_le _ _

/-- how many of so many places hold a byte: told by the turned text -/
theorem Ord.narrow (o : Ord n L lt) {rows : Nat → Nat} (hrows : ∀ i, i ≤ n → rows (Cc.rank n lt i) = i) (hb : ∀ k, k < n → b k + 1 = L (rows (un (Cc.rank n lt 0) k) - 1))
    {E : Nat → Bool} (hE : Low n lt E) (c : Nat) :
    cn (n + 1) (fun i => decide (L i < c + 1) || (decide (L i = c + 1) && E (i + 1))) = 1 + cn n (fun k => decide (b k < c)) + cn (ks (Cc.rank n lt 0) (cn (n + 1) E)) (fun k => decide (b k = c)) := by
  have hr0 := o.rank_le (i := 0) (by omega)
  have place : ∀ k, k < n → ∃ i, i < n ∧ un (Cc.rank n lt 0) k = Cc.rank n lt (i + 1) ∧ b k + 1 = L i ∧ rows (un (Cc.rank n lt 0) k) - 1 = i := by
    intro k hk
    obtain ⟨j, hj, hp⟩ := o.onto (r := un (Cc.rank n lt 0) k) (un_le hk)
    have hj0 : j ≠ 0 := fun e => by subst e; exact un_ne _ _ hp.symm
    have hrj : rows (un (Cc.rank n lt 0) k) = j := by rw [← hp, hrows j hj]
    refine ⟨j - 1, by omega, by rw [← hp]; congr 1; omega, by rw [hb k hk, hrj], by rw [hrj]⟩
  have inj : ∀ x y, x < n → y < n → rows (un (Cc.rank n lt 0) x) - 1 = rows (un (Cc.rank n lt 0) y) - 1 → x = y := by
    intro x y hx hy e
    obtain ⟨i, hi, h1, _, h2⟩ := place x hx
    obtain ⟨j, hj, h3, _, h4⟩ := place y hy
    have hij : i = j := by rw [← h2, ← h4, e]
    subst hij
    have h5 : un (Cc.rank n lt 0) x = un (Cc.rank n lt 0) y := by rw [h1, h3]
    rw [← ks_un (Cc.rank n lt 0) x, ← ks_un (Cc.rank n lt 0) y, h5]
  have bnd : ∀ x, x < n → rows (un (Cc.rank n lt 0) x) - 1 < n := by
    intro x hx
    obtain ⟨i, hi, _, _, h2⟩ := place x hx
    omega
  rw [cn_split _ _ _ (fun i _ h => by
    have h1 : L i < c + 1 := by simpa using h
    have h2 : ¬ L i = c + 1 := by omega
    simp [h2])]
  congr 1
  · rw [cn]
    have hn : (decide (L n < c + 1)).toNat = 1 := by rw [o.Ln]; simp
    rw [hn, ← cn_perm (fun i => decide (L i < c + 1)) inj bnd, Nat.add_comm]
    congr 1
    refine cn_congr fun k hk => ?_
    rw [← hb k hk]
    simp
  · rw [cn]
    have hn : (decide (L n = c + 1) && E (n + 1)).toNat = 0 := by rw [o.Ln]; simp
    rw [hn, Nat.add_zero, ← cn_perm (fun i => decide (L i = c + 1) && E (i + 1)) inj bnd]
    have hkn : ks (Cc.rank n lt 0) (cn (n + 1) E) ≤ n := by
      have := cn_le (n + 1) E
      unfold ks
      split <;> omega
    have hun : ∀ k, un (Cc.rank n lt 0) k < cn (n + 1) E ↔ k < ks (Cc.rank n lt 0) (cn (n + 1) E) := by
      intro k
      unfold un ks
      split <;> split <;> omega
    have e1 : cn n (fun k => decide (L (rows (un (Cc.rank n lt 0) k) - 1) = c + 1) && E (rows (un (Cc.rank n lt 0) k) - 1 + 1)) = cn n (fun k => decide (b k = c) && decide (k < ks (Cc.rank n lt 0) (cn (n + 1) E))) := cn_congr fun k hk => by
      obtain ⟨i, hi, h1, h2, h3⟩ := place k hk
      rw [h3, ← h2]
      have h4 := hE.rows o (i := i + 1) (by omega)
      rw [← h1, hun] at h4
      have h5 : E (i + 1) = decide (k < ks (Cc.rank n lt 0) (cn (n + 1) E)) := by
        cases h6 : E (i + 1)
        · rw [h6] at h4
          symm; apply decide_eq_false; intro x; have := h4.2 x; cases this
        · symm; exact decide_eq_true (h4.1 h6)
      rw [h5]; simp
    rw [e1]
    -- only the first count
    have : ∀ m K, K ≤ m → cn m (fun k => decide (b k = c) && decide (k < K)) = cn K (fun k => decide (b k = c)) := by
      intro m K hK
      induction m with
      | zero => have : K = 0 := by omega
                subst this; rfl
      | succ m ih =>
        rcases Nat.lt_or_ge m K with h | h
        · have : K = m + 1 := by omega
          subst this
          exact cn_congr fun k hk => by simp [hk]
        · rw [cn, ih h]
          simp; omega
    exact this n _ hkn

theorem Ord.lo_cons (o : Ord n L lt) {rows : Nat → Nat} (hrows : ∀ i, i ≤ n → rows (Cc.rank n lt i) = i) (hb : ∀ k, k < n → b k + 1 = L (rows (un (Cc.rank n lt 0) k) - 1)) (c : Nat) (p : List Nat) :
    lo n L (c :: p) = 1 + cn n (fun k => decide (b k < c)) + cn (ks (Cc.rank n lt 0) (lo n L p)) (fun k => decide (b k = c)) := o.narrow hrows hb (o.low_ls p) c
theorem Ord.hi_cons (o : Ord n L lt) {rows : Nat → Nat} (hrows : ∀ i, i ≤ n → rows (Cc.rank n lt i) = i) (hb : ∀ k, k < n → b k + 1 = L (rows (un (Cc.rank n lt 0) k) - 1)) (c : Nat) (p : List Nat) :
    Cc.hi n L (c :: p) = 1 + cn n (fun k => decide (b k < c)) + cn (ks (Cc.rank n lt 0) (Cc.hi n L p)) (fun k => decide (b k = c)) := o.narrow hrows hb (o.low_le p) c

/-- the row of the end one byte ahead -/
theorem Ord.ahead (o : Ord n L lt) {rows : Nat → Nat} (hrows : ∀ i, i ≤ n → rows (Cc.rank n lt i) = i) (hb : ∀ k, k < n → b k + 1 = L (rows (un (Cc.rank n lt 0) k) - 1)) {i : Nat} (hi : i < n) :
    rank n lt i = lead n b (ks (rank n lt 0) (rank n lt (i + 1))) ∧ rank n lt (i + 1) ≠ rank n lt 0 ∧ b (ks (rank n lt 0) (rank n lt (i + 1))) + 1 = L i := by
  have h1 := back o hrows hb (n - i) (by omega)
  have h2 := back o hrows hb (n - i - 1) (by omega)
  have hne : rank n lt (i + 1) ≠ rank n lt 0 := fun e => by
    have := o.rank_inj (i := i + 1) (j := 0) (by omega) (by omega) e; omega
  have e1 : n - i = (n - i - 1) + 1 := by omega
  rw [e1] at h1
  simp only [trail] at h1
  rw [h2, show n - (n - i - 1) = i + 1 by omega, show n - (n - i - 1 + 1) = i by omega] at h1
  refine ⟨h1.symm, hne, ?_⟩
  rw [hb _ (ks_lt (o.rank_le (by omega)) hne (o.rank_le (by omega))), un_ks hne, hrows (i + 1) (by omega)]
  rfl
end
end Cc

namespace Wv
open Cc

/-- the numbers in ranges -/
def flat (rs : List (Nat × Nat)) : List Nat := rs.flatMap fun r => List.range' r.1 (r.2 - r.1)
theorem flat_nil : flat [] = [] := rfl
theorem flat_cons (r : Nat × Nat) (rs : List (Nat × Nat)) : flat (r :: rs) = List.range' r.1 (r.2 - r.1) ++ flat rs := rfl
theorem flat_app (a b : List (Nat × Nat)) : flat (a ++ b) = flat a ++ flat b := by simp [flat]
/-- ranges up to a number, and none is empty -/
def Full (n : Nat) (rs : List (Nat × Nat)) : Prop := ∀ r ∈ rs, r.1 < r.2 ∧ r.2 ≤ n
/-- ranges up to a number -/
def Upto (n : Nat) (rs : List (Nat × Nat)) : Prop := ∀ r ∈ rs, r.1 ≤ r.2 ∧ r.2 ≤ n
theorem Full.upto {n : Nat} {rs : List (Nat × Nat)} (h : Full n rs) : Upto n rs := fun r hr => ⟨Nat.le_of_lt (h r hr).1, (h r hr).2⟩
theorem Full.len {n : Nat} : ∀ {rs : List (Nat × Nat)}, Full n rs → rs.length ≤ (flat rs).length
  | [], _ => Nat.le_refl _
  | r :: rs, h => by
    have h1 := (h r (by simp)).1
    have h2 := Full.len (rs := rs) (fun x hx => h x (by simp [hx]))
    rw [flat_cons, List.length_append, List.length_range', List.length_cons]
    omega
theorem Full.app {n : Nat} {a b : List (Nat × Nat)} (ha : Full n a) (hb : Full n b) : Full n (a ++ b) := fun r hr => by
  rcases List.mem_append.1 hr with h | h
  · exact ha r h
  · exact hb r h
theorem Upto.lt {n : Nat} {rs : List (Nat × Nat)} (h : Upto n rs) : ∀ i ∈ flat rs, i < n := by
  intro i hi
  obtain ⟨r, hr, hi⟩ := List.mem_flatMap.1 hi
  have h1 := h r hr
  have h2 := List.mem_range'_1.1 hi
  omega
theorem Full.empty {n : Nat} {rs : List (Nat × Nat)} (h : Full n rs) (he : flat rs = []) : rs = [] := by
  have := h.len
  rw [he] at this
  exact List.length_eq_zero_iff.1 (by simpa using this)
theorem flat_len : ∀ (rs : List (Nat × Nat)), (flat rs).length = (rs.map fun r => r.2 - r.1).sum
  | [] => rfl
  | r :: rs => by rw [flat_cons, List.length_append, List.length_range', flat_len rs]; simp

/-- one range more -/
def amStep (rk : Nat → Nat) (acc : List (Nat × Nat)) (r : Nat × Nat) : List (Nat × Nat) :=
  if rk r.1 = rk r.2 then acc
  else if 0 < acc.length ∧ (acc.getD (acc.length - 1) (0, 0)).2 = rk r.1 then acc.set (acc.length - 1) ((acc.getD (acc.length - 1) (0, 0)).1, rk r.2)
  else acc ++ [(rk r.1, rk r.2)]
def am (rk : Nat → Nat) (rs : List (Nat × Nat)) : List (Nat × Nat) := rs.foldl (amStep rk) []

theorem am_take (rk : Nat → Nat) (rs : List (Nat × Nat)) {k : Nat} {r : Nat × Nat} (h : rs[k]? = some r) : am rk (rs.take (k + 1)) = amStep rk (am rk (rs.take k)) r := by
  unfold am
  have hk := (List.getElem?_eq_some_iff.1 h).1
  have hx := (List.getElem?_eq_some_iff.1 h).2
  rw [List.take_succ_eq_append_getElem hk, hx, List.foldl_append]; rfl
theorem amStep_len (rk : Nat → Nat) (acc : List (Nat × Nat)) (r : Nat × Nat) : (amStep rk acc r).length ≤ acc.length + 1 := by
  unfold amStep
  split
  · omega
  · split
    · simp
    · simp
theorem foldl_len (rk : Nat → Nat) : ∀ (rs acc : List (Nat × Nat)), (rs.foldl (amStep rk) acc).length ≤ acc.length + rs.length
  | [], acc => by simp
  | r :: rs, acc => by
    have h1 := foldl_len rk rs (amStep rk acc r)
    have h2 := amStep_len rk acc r
    simp only [List.foldl_cons, List.length_cons]; omega
theorem am_len (rk : Nat → Nat) (rs : List (Nat × Nat)) : (am rk rs).length ≤ rs.length := by
  have := foldl_len rk rs []
  simpa [am] using this

theorem last_split {acc : List (Nat × Nat)} (h : 0 < acc.length) : ∃ l x, acc = l ++ [x] := ⟨acc.dropLast, acc.getLast (by intro e; subst e; simp at h), (List.dropLast_concat_getLast _).symm⟩
theorem amStep_good {rk : Nat → Nat} {m : Nat} {acc : List (Nat × Nat)} {r : Nat × Nat} (ha : Full m acc) (h1 : rk r.1 ≤ rk r.2) (h2 : rk r.2 ≤ m) :
    Full m (amStep rk acc r) ∧ flat (amStep rk acc r) = flat acc ++ List.range' (rk r.1) (rk r.2 - rk r.1) := by
  unfold amStep
  by_cases e : rk r.1 = rk r.2
  · rw [if_pos e, e]; simp [ha]
  · rw [if_neg e]
    by_cases hc : 0 < acc.length ∧ (acc.getD (acc.length - 1) (0, 0)).2 = rk r.1
    · rw [if_pos hc]
      obtain ⟨l, x, rfl⟩ := last_split hc.1
      have hx := ha x (by simp)
      have hc2 := hc.2
      simp at hc2
      have es : (l ++ [x]).set ((l ++ [x]).length - 1) (((l ++ [x]).getD ((l ++ [x]).length - 1) (0, 0)).1, rk r.2) = l ++ [(x.1, rk r.2)] := by
        simp
      rw [es]
      refine ⟨fun y hy => ?_, ?_⟩
      · rcases List.mem_append.1 hy with h | h
        · exact ha y (by simp [h])
        · simp at h; subst h; simp only; omega
      · rw [flat_app, flat_app, List.append_assoc]
        congr 1
        rw [flat_cons, flat_cons, flat_nil, List.append_nil, List.append_nil]
        rw [show rk r.2 - x.1 = (x.2 - x.1) + (rk r.2 - rk r.1) by omega, ← List.range'_append_1, show x.1 + (x.2 - x.1) = rk r.1 by omega]
    · rw [if_neg hc]
      refine ⟨ha.app (fun y hy => by simp at hy; subst hy; simp only; omega), ?_⟩
      rw [flat_app, flat_cons, flat_nil, List.append_nil]
theorem foldl_good {rk : Nat → Nat} {n : Nat} (hm : ∀ a b, a ≤ b → rk a ≤ rk b) : ∀ (rs acc : List (Nat × Nat)), Upto n rs → Full (rk n) acc →
    Full (rk n) (rs.foldl (amStep rk) acc) ∧ flat (rs.foldl (amStep rk) acc) = flat acc ++ rs.flatMap fun r => List.range' (rk r.1) (rk r.2 - rk r.1)
  | [], acc, _, ha => by simp [ha]
  | r :: rs, acc, hr, ha => by
    have h0 := hr r (by simp)
    obtain ⟨g1, g2⟩ := amStep_good (rk := rk) ha (hm _ _ h0.1) (hm _ _ h0.2)
    obtain ⟨g3, g4⟩ := foldl_good hm rs (amStep rk acc r) (fun x hx => hr x (by simp [hx])) g1
    refine ⟨g3, ?_⟩
    rw [List.foldl_cons, g4, g2, List.flatMap_cons, List.append_assoc]

/-- how many like a bit stand ahead -/
def rkb (p : Nat → Bool) (c : Bool) (i : Nat) : Nat := cn i fun j => p j == c
theorem rkb_true (p : Nat → Bool) (i : Nat) : rkb p true i = cn i p := by unfold rkb; exact cn_congr fun j _ => by cases p j <;> rfl
theorem rkb_false (p : Nat → Bool) (i : Nat) : rkb p false i = i - cn i p := by
  have : rkb p false i + cn i p = i := by
    unfold rkb
    have h := cn_add (k := i) (P := fun _ => true) (Q := fun j => p j == false) (R := p) (fun j _ => by cases p j <;> rfl)
    rw [cn_true] at h; omega
  omega
theorem rkb_mono (p : Nat → Bool) (c : Bool) (a b : Nat) (h : a ≤ b) : rkb p c a ≤ rkb p c b := cn_le_bound h _
theorem rkb_succ (p : Nat → Bool) (c : Bool) (i : Nat) : rkb p c (i + 1) = rkb p c i + (p i == c).toNat := rfl
theorem rkb_lt (p : Nat → Bool) (c : Bool) {i n : Nat} (h : i < n) (hp : p i = c) : rkb p c i < rkb p c n := cn_lt_bound h (by simp [hp])
theorem rkb_le (p : Nat → Bool) (c : Bool) (n : Nat) : rkb p c n ≤ n := cn_le _ _
theorem rkb_congr {p q : Nat → Bool} {c : Bool} {n : Nat} (h : ∀ i, i < n → p i = q i) : rkb p c n = rkb q c n := cn_congr fun i hi => by rw [h i hi]

theorem range_rkb (p : Nat → Bool) (c : Bool) (a : Nat) : ∀ d, ((List.range' a d).filter fun i => p i == c).map (rkb p c) = List.range' (rkb p c a) (rkb p c (a + d) - rkb p c a)
  | 0 => by simp
  | d + 1 => by
    have hm := rkb_mono p c a (a + d) (by omega)
    rw [List.range'_1_concat, List.filter_append, List.map_append, range_rkb p c a d, ← Nat.add_assoc, rkb_succ]
    by_cases h : p (a + d) = c
    · have e : (p (a + d) == c) = true := by simp [h]
      rw [show rkb p c (a + d) + (p (a + d) == c).toNat - rkb p c a = (rkb p c (a + d) - rkb p c a) + 1 by rw [e]; simp only [Bool.toNat_true]; omega, List.range'_1_concat]
      simp [h]; omega
    · have e : (p (a + d) == c) = false := by simp [h]
      rw [e]; simp [h]
theorem am_bits (p : Nat → Bool) (c : Bool) {n : Nat} {rs : List (Nat × Nat)} (h : Upto n rs) : Full (rkb p c n) (am (rkb p c) rs) ∧ flat (am (rkb p c) rs) = ((flat rs).filter fun i => p i == c).map (rkb p c) := by
  obtain ⟨g1, g2⟩ := foldl_good (rk := rkb p c) (fun a b hab => rkb_mono p c a b hab) rs [] h (fun r hr => by simp at hr)
  refine ⟨g1, ?_⟩
  unfold am
  rw [g2, flat_nil, List.nil_append]
  clear g1 g2
  induction rs with
  | nil => rfl
  | cons r rs ih =>
    have h0 := h r (by simp)
    rw [List.flatMap_cons, ih (fun x hx => h x (by simp [hx])), flat_cons, List.filter_append, List.map_append, range_rkb, show r.1 + (r.2 - r.1) = r.2 by omega]

/-- bits and what is below, of ways -/
def bits (X : List (List Bool)) : List Bool := X.filterMap List.head?
def down (c : Bool) : List Bool → Option (List Bool)
  | [] => none
  | d :: r => if d = c then some r else none
def child (c : Bool) (X : List (List Bool)) : List (List Bool) := X.filterMap (down c)
def bitAt (X : List (List Bool)) (i : Nat) : Bool := (bits X).getD i false

theorem bits_app (X Y : List (List Bool)) : bits (X ++ Y) = bits X ++ bits Y := by simp [bits]
theorem child_app (c : Bool) (X Y : List (List Bool)) : child c (X ++ Y) = child c X ++ child c Y := by simp [child]
theorem bits_nil (X : List (List Bool)) : bits (X ++ [[]]) = bits X := by simp [bits]
theorem child_nil (c : Bool) (X : List (List Bool)) : child c (X ++ [[]]) = child c X := by simp [child, down]
theorem bits_cons (X : List (List Bool)) (c : Bool) (r : List Bool) : bits (X ++ [c :: r]) = bits X ++ [c] := by simp [bits]
theorem child_same (X : List (List Bool)) (c : Bool) (r : List Bool) : child c (X ++ [c :: r]) = child c X ++ [r] := by simp [child, down]
theorem child_other (X : List (List Bool)) {c d : Bool} (r : List Bool) (h : c ≠ d) : child d (X ++ [c :: r]) = child d X := by simp [child, down, h]
theorem child_mem {c : Bool} {X : List (List Bool)} {r : List Bool} : r ∈ child c X ↔ (c :: r) ∈ X := by
  unfold child
  rw [List.mem_filterMap]
  constructor
  · rintro ⟨x, hx, h⟩
    cases x with
    | nil => cases h
    | cons d q =>
      simp only [down] at h
      split at h
      · next e => subst e; injection h with h; subst h; exact hx
      · cases h
  · intro h
    exact ⟨_, h, by simp [down]⟩
theorem child_len {c : Bool} {X : List (List Bool)} {d : Nat} (h : ∀ x ∈ X, x.length ≤ d + 1) : ∀ x ∈ child c X, x.length ≤ d := fun x hx => by
  have := h _ (child_mem.1 hx)
  simpa using this
theorem bits_len {X : List (List Bool)} (h : [] ∉ X) : (bits X).length = X.length := by
  induction X with
  | nil => rfl
  | cons x X ih =>
    cases x with
    | nil => simp at h
    | cons c r =>
      have : [] ∉ X := fun hm => h (by simp [hm])
      have := ih this
      unfold bits at *
      simp [this]
theorem bits_le (X : List (List Bool)) : (bits X).length ≤ X.length := List.length_filterMap_le _ _
theorem bits_get {X : List (List Bool)} (h : [] ∉ X) {i : Nat} {c : Bool} {r : List Bool} (hi : X[i]? = some (c :: r)) : (bits X)[i]? = some c := by
  induction X generalizing i with
  | nil => simp at hi
  | cons x X ih =>
    cases x with
    | nil => simp at h
    | cons d q =>
      have hX : [] ∉ X := fun hm => h (by simp [hm])
      have e : bits ((d :: q) :: X) = d :: bits X := by simp [bits]
      rw [e]
      cases i with
      | zero => simp at hi; simp [hi.1]
      | succ i => simp at hi; simpa using ih hX hi
theorem bitAt_get {X : List (List Bool)} (h : [] ∉ X) {i : Nat} {c : Bool} {r : List Bool} (hi : X[i]? = some (c :: r)) : bitAt X i = c := by
  unfold bitAt
  rw [List.getD_eq_getElem?_getD, bits_get h hi]; rfl
theorem child_take (c : Bool) {X : List (List Bool)} (h : [] ∉ X) : ∀ i, i ≤ X.length → (child c (X.take i)).length = rkb (bitAt X) c i
  | 0, _ => by simp [child, rkb, cn]
  | i + 1, hi => by
    have ih := child_take c h i (by omega)
    have hx : X[i]? = some X[i] := List.getElem?_eq_getElem (by omega)
    rw [List.take_succ_eq_append_getElem (by omega), rkb_succ]
    cases hX : X[i] with
    | nil => exact absurd (hX ▸ List.getElem_mem (by omega)) h
    | cons d r =>
      rw [hX] at hx
      rw [bitAt_get h hx]
      by_cases e : d = c
      · subst e; rw [child_same]; simp [ih]
      · rw [child_other _ _ e, ih]; simp [e]
theorem child_at {c : Bool} {X : List (List Bool)} (h : [] ∉ X) {i : Nat} {r : List Bool} (hi : X[i]? = some (c :: r)) :
    (child c X)[rkb (bitAt X) c i]? = some r ∧ (child c X).take (rkb (bitAt X) c i) = child c (X.take i) := by
  have hl := (List.getElem?_eq_some_iff.1 hi).1
  have hx := (List.getElem?_eq_some_iff.1 hi).2
  have e : child c X = child c (X.take i) ++ (r :: child c (X.drop (i + 1))) := by
    conv => lhs; rw [← List.take_append_drop i X, child_app, List.drop_eq_getElem_cons hl, hx]
    congr 1
    simp [child, down]
  have hn := child_take c h i (by omega)
  refine ⟨?_, ?_⟩
  · rw [e, List.getElem?_append_right (by omega), hn]; simp
  · rw [e, List.take_append_of_le_length (by omega), List.take_of_length_le (by omega)]
theorem child_count (c : Bool) (r : List Bool) (X : List (List Bool)) : (child c X).count r = X.count (c :: r) := by
  induction X with
  | nil => rfl
  | cons x X ih =>
    cases x with
    | nil =>
      have e1 : child c ([] :: X) = child c X := rfl
      rw [e1, ih, List.count_cons]; simp
    | cons d q =>
      by_cases e : d = c
      · subst e
        have e1 : child d ((d :: q) :: X) = q :: child d X := by simp [child, down]
        rw [e1, List.count_cons, List.count_cons, ih]
        by_cases h : q = r <;> simp [h]
      · have e1 : child c ((d :: q) :: X) = child c X := by simp [child, down, e]
        rw [e1, ih, List.count_cons]; simp [e]
/-- of places those with a way, numbered among all like it -/
def sel (x : List Bool) (X : List (List Bool)) (L : List Nat) : List Nat := (L.filter fun i => X[i]? == some x).map fun i => (X.take i).count x
theorem sel_nil (x : List Bool) (X : List (List Bool)) : sel x X [] = [] := rfl
theorem sel_down {c : Bool} {r : List Bool} {X : List (List Bool)} (h : [] ∉ X) : ∀ (L : List Nat), (∀ i ∈ L, i < X.length) →
    sel r (child c X) ((L.filter fun i => bitAt X i == c).map (rkb (bitAt X) c)) = sel (c :: r) X L
  | [], _ => rfl
  | i :: L, hL => by
    have ih := sel_down (c := c) (r := r) h L (fun j hj => hL j (by simp [hj]))
    have hi := hL i (by simp)
    have hx : X[i]? = some X[i] := List.getElem?_eq_getElem hi
    cases hX : X[i] with
    | nil => exact absurd (hX ▸ List.getElem_mem hi) h
    | cons d q =>
      rw [hX] at hx
      have hb := bitAt_get h hx
      by_cases e : d = c
      · subst e
        obtain ⟨a1, a2⟩ := child_at h hx
        have e1 : ((i :: L).filter fun i => bitAt X i == d) = i :: L.filter fun i => bitAt X i == d := by simp [hb]
        rw [e1, List.map_cons]
        by_cases hq : q = r
        · subst hq
          have e2 : sel (d :: q) X (i :: L) = (X.take i).count (d :: q) :: sel (d :: q) X L := by simp [sel, hx]
          have e3 : sel q (child d X) (rkb (bitAt X) d i :: (L.filter fun i => bitAt X i == d).map (rkb (bitAt X) d)) = ((child d X).take (rkb (bitAt X) d i)).count q :: sel q (child d X) ((L.filter fun i => bitAt X i == d).map (rkb (bitAt X) d)) := by simp [sel, a1]
          rw [e2, e3, ih, a2, child_count]
        · have e2 : sel (d :: r) X (i :: L) = sel (d :: r) X L := by simp [sel, hx, hq]
          have e3 : sel r (child d X) (rkb (bitAt X) d i :: (L.filter fun i => bitAt X i == d).map (rkb (bitAt X) d)) = sel r (child d X) ((L.filter fun i => bitAt X i == d).map (rkb (bitAt X) d)) := by simp [sel, a1, hq]
          rw [e2, e3, ih]
      · have e1 : ((i :: L).filter fun i => bitAt X i == c) = L.filter fun i => bitAt X i == c := by simp [hb, e]
        have e2 : sel (c :: r) X (i :: L) = sel (c :: r) X L := by simp [sel, hx, e]
        rw [e1, e2, ih]
theorem down_lt {c : Bool} {X : List (List Bool)} (h : [] ∉ X) {L : List Nat} (hL : ∀ i ∈ L, i < X.length) : ∀ j ∈ (L.filter fun i => bitAt X i == c).map (rkb (bitAt X) c), j < (child c X).length := by
  intro j hj
  obtain ⟨i, hi, rfl⟩ := List.mem_map.1 hj
  have h1 := List.mem_filter.1 hi
  have h2 : bitAt X i = c := by simpa using h1.2
  have h3 := child_take c h X.length (Nat.le_refl _)
  rw [List.take_length] at h3
  rw [h3]
  exact rkb_lt _ _ (hL i h1.1) h2
theorem sel_end {X : List (List Bool)} (h : ∀ x ∈ X, x = []) : ∀ {L : List Nat}, (∀ i ∈ L, i < X.length) → sel [] X L = L
  | [], _ => rfl
  | i :: L, hL => by
    have ih := sel_end h (L := L) (fun j hj => hL j (by simp [hj]))
    have hi := hL i (by simp)
    have hx : X[i]? = some [] := by rw [List.getElem?_eq_getElem hi, h _ (List.getElem_mem hi)]
    have hc : (X.take i).count [] = i := by
      rw [List.count_eq_length.2]
      · simp; omega
      · intro b hb; exact (h b (List.mem_of_mem_take hb)).symm
    have e : sel [] X (i :: L) = (X.take i).count [] :: sel [] X L := by simp [sel, hx]
    rw [e, hc, ih]
/-- no way begins another -/
def PF (X : List (List Bool)) : Prop := ∀ x ∈ X, ∀ y ∈ X, x <+: y → x = y
theorem PF.child {X : List (List Bool)} (h : PF X) (c : Bool) : PF (child c X) := fun x hx y hy hp => by
  have := h _ (child_mem.1 hx) _ (child_mem.1 hy) (by rw [List.cons_prefix_cons]; exact ⟨rfl, hp⟩)
  simpa using this
theorem PF.no_nil {X : List (List Bool)} (h : PF X) {c : Bool} {r : List Bool} (hm : (c :: r) ∈ X) : [] ∉ X := fun hn => by
  have := h _ hn _ hm (List.nil_prefix)
  cases this
theorem PF.all_nil {X : List (List Bool)} (h : PF X) (hm : [] ∈ X) : ∀ x ∈ X, x = [] := fun _ hx => (h _ hm _ hx List.nil_prefix).symm

/-- ranges none of which is empty -/
def Pos (rs : List (Nat × Nat)) : Prop := ∀ r ∈ rs, r.1 < r.2
theorem Full.pos {n : Nat} {rs : List (Nat × Nat)} (h : Full n rs) : Pos rs := fun r hr => (h r hr).1
theorem Pos.full {n : Nat} {rs : List (Nat × Nat)} (h : Pos rs) (hf : ∀ i ∈ flat rs, i < n) : Full n rs := fun r hr => by
  have h1 := h r hr
  refine ⟨h1, ?_⟩
  have := hf (r.2 - 1) (List.mem_flatMap.2 ⟨r, hr, List.mem_range'_1.2 (by omega)⟩)
  omega
theorem Pos.app {a b : List (Nat × Nat)} (ha : Pos a) (hb : Pos b) : Pos (a ++ b) := fun r hr => by
  rcases List.mem_append.1 hr with h | h
  · exact ha r h
  · exact hb r h
theorem sel_lt {x : List Bool} {X : List (List Bool)} {L : List Nat} : ∀ i ∈ sel x X L, i < X.count x := by
  intro i hi
  obtain ⟨j, hj, rfl⟩ := List.mem_map.1 hi
  have h1 : X[j]? = some x := by have := (List.mem_filter.1 hj).2; simpa using this
  have hl := (List.getElem?_eq_some_iff.1 h1).1
  have hx := (List.getElem?_eq_some_iff.1 h1).2
  have e : X = X.take j ++ (x :: X.drop (j + 1)) := by
    conv => lhs; rw [← List.take_append_drop j X, List.drop_eq_getElem_cons hl, hx]
  conv => rhs; rw [e]
  rw [List.count_append, List.count_cons]
  simp
theorem flat_map_add (k : Nat) : ∀ (rs : List (Nat × Nat)), flat (rs.map fun r => (k + r.1, k + r.2)) = (flat rs).map fun i => k + i
  | [] => rfl
  | r :: rs => by
    rw [List.map_cons, flat_cons, flat_cons, List.map_append, flat_map_add k rs, List.map_add_range' ]
    congr 2
    omega
/-- ranges of rows, turned to ranges of places -/
theorem flat_places (fw : Nat) {n : Nat} : ∀ {rs : List (Nat × Nat)}, Upto (n + 1) rs → fw ≤ n →
    flat (rs.map fun r => (ks fw r.1, ks fw r.2)) = ((flat rs).filter fun r => decide (r ≠ fw)).map (ks fw)
  | [], _, _ => rfl
  | r :: rs, h, hf => by
    have h0 := h r (by simp)
    rw [List.map_cons, flat_cons, flat_cons, List.filter_append, List.map_append, flat_places fw (rs := rs) (fun x hx => h x (by simp [hx])) hf]
    congr 1
    simp only
    have : ∀ d a, ((List.range' a d).filter fun r => decide (r ≠ fw)).map (ks fw) = List.range' (ks fw a) (ks fw (a + d) - ks fw a) := by
      intro d
      induction d with
      | zero => intro a; simp
      | succ d ih =>
        intro a
        rw [List.range'_1_concat, List.filter_append, List.map_append, ih a, ← Nat.add_assoc]
        by_cases e : a + d = fw
        · have e1 : ks fw (a + d + 1) = ks fw (a + d) := by unfold ks; rw [if_pos (by omega), if_neg (by omega)]; omega
          rw [e1]
          simp [e]
        · have e2 : ks fw (a + d + 1) = ks fw (a + d) + 1 := by
            unfold ks
            by_cases h1 : fw < a + d
            · rw [if_pos (by omega), if_pos h1]; omega
            · rw [if_neg (by omega), if_neg h1]
          have e3 : ks fw a ≤ ks fw (a + d) := by
            unfold ks
            by_cases h1 : fw < a
            · rw [if_pos h1, if_pos (by omega)]; omega
            · rw [if_neg h1]; split <;> omega
          rw [e2, show ks fw (a + d) + 1 - ks fw a = (ks fw (a + d) - ks fw a) + 1 by omega, List.range'_1_concat]
          simp [e]
          omega
    rw [this, show r.1 + (r.2 - r.1) = r.2 by omega]
theorem upto_places (fw : Nat) {n : Nat} {rs : List (Nat × Nat)} (h : Upto (n + 1) rs) (hf : fw ≤ n) : Upto n (rs.map fun r => (ks fw r.1, ks fw r.2)) := fun x hx => by
  obtain ⟨r, hr, rfl⟩ := List.mem_map.1 hx
  have h0 := h r hr
  simp only
  unfold ks
  constructor
  · split <;> split <;> omega
  · split <;> omega

end Wv

namespace Wv
open Cc

/-- rows and the places of their ends -/
structure Rw (n : Nat) (L b : Nat → Nat) (fw : Nat) (pl : Nat → Nat) : Prop where
  le : ∀ r, r ≤ n → pl r ≤ n
  inj : ∀ r q, r ≤ n → q ≤ n → pl r = pl q → r = q
  fwle : fw ≤ n
  zero : pl fw = 0
  first : pl 0 = n
  last : L n = 0
  step : ∀ r, r ≤ n → r ≠ fw → lead n b (ks fw r) ≤ n ∧ pl (lead n b (ks fw r)) + 1 = pl r ∧ L (pl (lead n b (ks fw r))) = b (ks fw r) + 1

section
variable {n : Nat} {L b : Nat → Nat} {fw : Nat} {pl : Nat → Nat}

theorem Rw.ne (h : Rw n L b fw pl) {r : Nat} (hr : r ≤ n) : r ≠ fw ↔ 0 < pl r := by
  constructor
  · intro e
    have := (h.step r hr e).2.1
    omega
  · intro e he
    rw [he, h.zero] at e; omega
/-- the rows of longer ends -/
def lgb (n : Nat) (b : Nat → Nat) (fw c : Nat) (R : List Nat) : List Nat := (R.filter fun r => decide (r ≠ fw) && decide (b (ks fw r) = c)).map fun r => lead n b (ks fw r)
def lga (n : Nat) (b : Nat → Nat) (fw : Nat) (R : List Nat) : List Nat := (R.filter fun r => decide (r ≠ fw)).map fun r => lead n b (ks fw r)

theorem Rw.lgb_pl (h : Rw n L b fw pl) (c : Nat) : ∀ {R : List Nat}, (∀ r ∈ R, r ≤ n) → (lgb n b fw c R).map pl = ((R.map pl).filter fun i => decide (0 < i) && decide (L (i - 1) = c + 1)).map fun i => i - 1
  | [], _ => rfl
  | r :: R, hR => by
    have ih := Rw.lgb_pl h c (R := R) (fun q hq => hR q (by simp [hq]))
    have hr := hR r (by simp)
    unfold lgb at *
    by_cases e : r = fw
    · have h0 : pl r = 0 := by rw [e, h.zero]
      simp only [List.filter_cons, List.map_cons, h0]
      simp [e]
      simpa using ih
    · obtain ⟨s1, s2, s3⟩ := h.step r hr e
      have e1 : pl r - 1 = pl (lead n b (ks fw r)) := by omega
      by_cases hc : b (ks fw r) = c
      · simp only [List.filter_cons, List.map_cons]
        rw [if_pos (by simp [e, hc]), if_pos (by simp; exact ⟨by omega, by rw [e1, s3, hc]⟩), List.map_cons, List.map_cons, List.map_cons, ih, e1]
      · simp only [List.filter_cons, List.map_cons]
        rw [if_neg (by simp [hc]), if_neg (by simp; intro _; rw [e1, s3]; omega), ih]
theorem Rw.lgb_le (h : Rw n L b fw pl) (c : Nat) {R : List Nat} (hR : ∀ r ∈ R, r ≤ n) : ∀ r ∈ lgb n b fw c R, r ≤ n := by
  intro r hr
  obtain ⟨q, hq, rfl⟩ := List.mem_map.1 hr
  have h1 := List.mem_filter.1 hq
  have h2 : q ≠ fw := by have := h1.2; simp at this; exact this.1
  exact (h.step q (hR q h1.1) h2).1
theorem Rw.lga_pl (h : Rw n L b fw pl) : ∀ {R : List Nat}, (∀ r ∈ R, r ≤ n) → (lga n b fw R).map pl = ((R.map pl).filter fun i => decide (0 < i)).map fun i => i - 1
  | [], _ => rfl
  | r :: R, hR => by
    have ih := Rw.lga_pl h (R := R) (fun q hq => hR q (by simp [hq]))
    have hr := hR r (by simp)
    unfold lga at *
    by_cases e : r = fw
    · have h0 : pl r = 0 := by rw [e, h.zero]
      simp only [List.filter_cons, List.map_cons, h0]
      simp [e]
      simpa using ih
    · obtain ⟨s1, s2, s3⟩ := h.step r hr e
      have e1 : pl r - 1 = pl (lead n b (ks fw r)) := by omega
      simp only [List.filter_cons, List.map_cons]
      rw [if_pos (by simp [e]), if_pos (by simp; omega), List.map_cons, List.map_cons, List.map_cons, ih, e1]
theorem Rw.lga_le (h : Rw n L b fw pl) {R : List Nat} (hR : ∀ r ∈ R, r ≤ n) : ∀ r ∈ lga n b fw R, r ≤ n := by
  intro r hr
  obtain ⟨q, hq, rfl⟩ := List.mem_map.1 hr
  have h1 := List.mem_filter.1 hq
  exact (h.step q (hR q h1.1) (by simpa using h1.2)).1

/-- the places of a word -/
def occ (n : Nat) (L : Nat → Nat) (q : List Nat) : List Nat := (List.range (n + 1)).filter (mt L q)
theorem occ_cons (hl : L n = 0) (c : Nat) (q : List Nat) : occ n L (c :: q) = ((occ n L q).filter fun i => decide (0 < i) && decide (L (i - 1) = c + 1)).map fun i => i - 1 := by
  unfold occ
  have e1 : (List.range (n + 1)).filter (mt L (c :: q)) = (List.range n).filter (mt L (c :: q)) := by
    rw [List.range_succ, List.filter_append]
    simp [Cc.mt, hl]
  have e2 : List.range (n + 1) = 0 :: (List.range n).map Nat.succ := List.range_succ_eq_map
  rw [e1, e2, List.filter_filter, List.filter_cons, if_neg (by simp), List.filter_map, List.map_map]
  have e3 : ((fun i => i - 1) ∘ Nat.succ) = (id : Nat → Nat) := by funext i; simp
  rw [e3, List.map_id]
  apply List.filter_congr
  intro i _
  simp [Cc.mt]
theorem occ_nil (n : Nat) (L : Nat → Nat) : occ n L [] = List.range (n + 1) := by
  unfold occ
  rw [List.filter_eq_self]
  intro a _; rfl

theorem Rw.all (h : Rw n L b fw pl) : ((List.range (n + 1)).map pl).Perm (List.range (n + 1)) := by
  rw [List.perm_iff_count]
  intro a
  have := cn_perm (n := n + 1) (σ := pl) (fun j => j == a) (fun i j hi hj e => h.inj i j (by omega) (by omega) e) (fun i hi => by have := h.le i (by omega); omega)
  rw [cn_countP, cn_countP] at this
  rw [List.count_eq_countP, List.count_eq_countP, List.countP_map]
  exact this
/-- rows are those of a word -/
def Hits (n : Nat) (L pl : Nat → Nat) (q : List Nat) (R : List Nat) : Prop := (R.map pl).Perm (occ n L q) ∧ ∀ r ∈ R, r ≤ n
theorem Rw.hits_nil (h : Rw n L b fw pl) : Hits n L pl [] (List.range (n + 1)) := by
  refine ⟨?_, fun r hr => by have := List.mem_range.1 hr; omega⟩
  rw [occ_nil]; exact h.all
theorem Rw.hits_cons (h : Rw n L b fw pl) {q R : List Nat} (hR : Hits n L pl q R) (c : Nat) : Hits n L pl (c :: q) (lgb n b fw c R) := by
  refine ⟨?_, h.lgb_le c hR.2⟩
  rw [h.lgb_pl c hR.2, occ_cons h.last]
  exact (hR.1.filter _).map _
theorem Hits.len {q R : List Nat} (h : Hits n L pl q R) : R.length = (occ n L q).length := by
  have := h.1.length_eq
  rwa [List.length_map] at this

theorem filter_split {α : Type} (f : α → Nat) (m : Nat) : ∀ l : List α, (l.filter fun x => decide (f x < m + 1)).Perm ((l.filter fun x => decide (f x < m)) ++ l.filter fun x => decide (f x = m))
  | [] => List.Perm.refl _
  | x :: l => by
    have ih := filter_split f m l
    simp only [List.filter_cons]
    by_cases h1 : f x < m
    · rw [if_pos (by simp; omega), if_pos (by simpa using h1), if_neg (by simp; omega)]
      exact ih.cons x
    · by_cases h2 : f x = m
      · rw [if_pos (by simp; omega), if_neg (by simpa using h1), if_pos (by simpa using h2)]
        exact (ih.cons x).trans List.perm_middle.symm
      · rw [if_neg (by simp; omega), if_neg (by simpa using h1), if_neg (by simpa using h2)]
        exact ih
theorem flat_split {α β : Type} (f : α → Nat) (g : α → β) (l : List α) : ∀ m, ((List.range m).flatMap fun c => (l.filter fun x => decide (f x = c)).map g).Perm ((l.filter fun x => decide (f x < m)).map g)
  | 0 => by
    have : (l.filter fun x => decide (f x < 0)) = [] := by simp
    rw [this]; exact List.Perm.refl _
  | m + 1 => by
    rw [List.range_succ, List.flatMap_append]
    have ih := flat_split f g l m
    have h := (filter_split f m l).map g
    rw [List.map_append] at h
    refine List.Perm.trans ?_ h.symm
    simp only [List.flatMap_cons, List.flatMap_nil, List.append_nil]
    exact ih.append_right _
theorem Rw.longer {R : List Nat} (hb : ∀ r ∈ R, r ≠ fw → b (ks fw r) < 256) : ((List.range 256).flatMap fun c => lgb n b fw c R).Perm (lga n b fw R) := by
  have h := flat_split (fun r => b (ks fw r)) (fun r => lead n b (ks fw r)) (R.filter fun r => decide (r ≠ fw)) 256
  have e1 : (R.filter fun r => decide (r ≠ fw)).filter (fun x => decide (b (ks fw x) < 256)) = R.filter fun r => decide (r ≠ fw) := by
    rw [List.filter_eq_self]
    intro r hr
    have := List.mem_filter.1 hr
    simp
    exact hb r this.1 (by simpa using this.2)
  rw [e1] at h
  have e2 : ∀ c, lgb n b fw c R = ((R.filter fun r => decide (r ≠ fw)).filter fun x => decide (b (ks fw x) = c)).map fun r => lead n b (ks fw r) := by
    intro c
    unfold lgb
    rw [List.filter_filter]
    congr 1
    apply List.filter_congr
    intro x _
    rw [Bool.and_comm]
  simp only [e2]
  exact h

/-- the rows that were gone back to -/
def Bk (pl : Nat → Nat) (P0 : List Nat) (k : Nat) (R : List Nat) : Prop := (R.map pl).Perm ((P0.filter fun i => decide (k ≤ i)).map fun i => i - k)
theorem Bk.zero {R P0 : List Nat} (h : (R.map pl).Perm P0) : Bk pl P0 0 R := by
  unfold Bk
  have e1 : (P0.filter fun i => decide (0 ≤ i)) = P0 := by rw [List.filter_eq_self]; intro a _; simp
  have e2 : (fun i : Nat => i - 0) = id := by funext i; rfl
  rw [e1, e2, List.map_id]; exact h
theorem Rw.back (h : Rw n L b fw pl) {P0 R R' : List Nat} {k : Nat} (hR : ∀ r ∈ R, r ≤ n) (hk : Bk pl P0 k R) (hp : R'.Perm (lga n b fw R)) : Bk pl P0 (k + 1) R' := by
  unfold Bk at *
  refine (hp.map pl).trans ?_
  rw [h.lga_pl hR]
  refine ((hk.filter _).map _).trans ?_
  rw [List.filter_map, List.map_map, List.filter_filter]
  have e : (P0.filter fun i => ((fun i => decide (0 < i)) ∘ fun i => i - k) i && decide (k ≤ i)) = P0.filter fun i => decide (k + 1 ≤ i) := by
    apply List.filter_congr
    intro i _
    rw [Bool.eq_iff_iff]; simp; omega
  rw [e]
  have e2 : ((fun i => i - 1) ∘ fun i => i - k) = fun i => i - (k + 1) := by funext i; simp; omega
  rw [e2]
/-- the known ones among them -/
def kn (pl : Nat → Nat) (rate k : Nat) (R : List Nat) : List Nat := (R.filter fun r => decide (pl r % rate = 0)).map fun r => pl r + k
theorem kn_perm {P0 R : List Nat} {rate k : Nat} (hk : Bk pl P0 k R) (hr : k < rate) : (kn pl rate k R).Perm (P0.filter fun i => decide (i % rate = k)) := by
  have e1 : kn pl rate k R = ((R.map pl).filter fun i => decide (i % rate = 0)).map fun i => i + k := by
    unfold kn
    rw [List.filter_map, List.map_map]; rfl
  rw [e1]
  unfold Bk at hk
  refine ((hk.filter _).map _).trans ?_
  rw [List.filter_map, List.map_map, List.filter_filter]
  have e2 : (P0.filter fun i => ((fun i => decide (i % rate = 0)) ∘ fun i => i - k) i && decide (k ≤ i)) = P0.filter fun i => decide (i % rate = k) := by
    apply List.filter_congr
    intro i _
    rw [Bool.eq_iff_iff]
    simp only [Function.comp, Bool.and_eq_true, decide_eq_true_eq]
    constructor
    · rintro ⟨h1, h2⟩
      obtain ⟨q, hq⟩ := Nat.dvd_of_mod_eq_zero h1
      have : i = k + rate * q := by omega
      rw [this, Nat.add_mul_mod_self_left, Nat.mod_eq_of_lt hr]
    · intro h1
      have hle : k ≤ i := by rw [← h1]; exact Nat.mod_le _ _
      refine ⟨?_, hle⟩
      have := Nat.div_add_mod i rate
      rw [h1] at this
      rw [show i - k = rate * (i / rate) by omega, Nat.mul_mod_right]
  rw [e2]
  have e3 : ∀ l : List Nat, (∀ i ∈ l, k ≤ i) → l.map ((fun i => i + k) ∘ fun i => i - k) = l := fun l hl => by
    conv => rhs; rw [← List.map_id l]
    apply List.map_congr_left
    intro i hi
    have := hl i hi
    simp; omega
  rw [e3]
  intro i hi
  have := (List.mem_filter.1 hi).2
  simp at this
  rw [← this]; exact Nat.mod_le _ _
theorem kn_more {P0 A R : List Nat} {rate k : Nat} (hk : Bk pl P0 k R) (hr : k < rate) (hA : A.Perm (P0.filter fun i => decide (i % rate < k))) : (A ++ kn pl rate k R).Perm (P0.filter fun i => decide (i % rate < k + 1)) :=
  (hA.append (kn_perm hk hr)).trans (filter_split (fun i => i % rate) k P0).symm
theorem kn_end {P0 A R : List Nat} {rate k : Nat} (hr : 0 < rate) (hA : A.Perm (P0.filter fun i => decide (i % rate < k + 1))) (h : rate ≤ k + 1 ∨ (Bk pl P0 k R ∧ R = [])) : A.Perm P0 := by
  have e : (P0.filter fun i => decide (i % rate < k + 1)) = P0 := by
    rw [List.filter_eq_self]
    intro i hi
    simp only [decide_eq_true_eq]
    rcases h with h | ⟨h, rfl⟩
    · have := Nat.mod_lt i hr; omega
    · unfold Bk at h
      have hl := h.length_eq
      simp only [List.map_nil, List.length_nil, List.length_map] at hl
      by_cases hik : k ≤ i
      · have h0 := List.length_eq_zero_iff.1 hl.symm
        have hm : i ∈ P0.filter fun i => decide (k ≤ i) := List.mem_filter.2 ⟨hi, by simpa using hik⟩
        rw [h0] at hm; simp at hm
      · have := Nat.mod_le i rate; omega
  rw [e] at hA; exact hA

theorem occ_sorted (n : Nat) (L : Nat → Nat) (q : List Nat) : (occ n L q).Pairwise (· < ·) := List.Pairwise.filter _ List.pairwise_lt_range
theorem sort_eq {A : List Nat} {n : Nat} {L : Nat → Nat} {q : List Nat} (h : A.Perm (occ n L q)) : ((A.map fun i : Nat => (i : Int)).mergeSort fun x y => decide (x ≤ y)) = (occ n L q).map fun i : Nat => (i : Int) := by
  have hp := (List.mergeSort_perm (A.map fun i : Nat => (i : Int)) fun x y => decide (x ≤ y)).trans (h.map _)
  have hs := List.pairwise_mergeSort (le := fun x y : Int => decide (x ≤ y)) (by intro a b c h1 h2; simp at *; omega) (by intro a b; simp; omega) (A.map fun i : Nat => (i : Int))
  refine hp.eq_of_pairwise (le := fun x y : Int => decide (x ≤ y) = true) ?_ hs ?_
  · intro a b _ _ h1 h2; simp at h1 h2; omega
  · rw [List.pairwise_map]
    exact (occ_sorted n L q).imp (by intro a b h; simp; omega)

end
end Wv

namespace Wv
open Cc

/-- the ways of a text's bytes -/
def waysOf (k : Nat → List Bool) (b : Nat → Nat) (n : Nat) : List (List Bool) := (List.range n).map fun i => k (b i)
theorem waysOf_len (k : Nat → List Bool) (b : Nat → Nat) (n : Nat) : (waysOf k b n).length = n := by simp [waysOf]
theorem waysOf_get (k : Nat → List Bool) (b : Nat → Nat) {n i : Nat} (h : i < n) : (waysOf k b n)[i]? = some (k (b i)) := by simp [waysOf, h]
theorem waysOf_succ (k : Nat → List Bool) (b : Nat → Nat) (n : Nat) : waysOf k b (n + 1) = waysOf k b n ++ [k (b n)] := by simp [waysOf, List.range_succ]
theorem waysOf_take (k : Nat → List Bool) (b : Nat → Nat) {n i : Nat} (h : i ≤ n) : (waysOf k b n).take i = waysOf k b i := by
  unfold waysOf
  rw [← List.map_take, List.take_range, Nat.min_eq_left h]
theorem ways_count {k : Nat → List Bool} {b : Nat → Nat} {c : Nat} : ∀ {i : Nat}, (∀ j, j < i → k (b j) = k c → b j = c) → (waysOf k b i).count (k c) = cn i fun j => decide (b j = c)
  | 0, _ => rfl
  | i + 1, h => by
    have ih := ways_count (k := k) (b := b) (c := c) (i := i) (fun j hj => h j (by omega))
    rw [waysOf_succ, List.count_append, ih]
    simp only [cn]
    congr 1
    rw [List.count_cons]
    by_cases e : b i = c
    · simp [e]
    · have : ¬ k (b i) = k c := fun e2 => e (h i (by omega) e2)
      simp [e, this]
theorem sel_ways {k : Nat → List Bool} {b : Nat → Nat} {c n : Nat} (h : ∀ j, j < n → k (b j) = k c → b j = c) {L : List Nat} (hL : ∀ i ∈ L, i < n) :
    sel (k c) (waysOf k b n) L = (L.filter fun i => decide (b i = c)).map fun i => cn i fun j => decide (b j = c) := by
  unfold sel
  have e : (L.filter fun i => (waysOf k b n)[i]? == some (k c)) = L.filter fun i => decide (b i = c) := by
    apply List.filter_congr
    intro i hi
    rw [waysOf_get k b (hL i hi), Bool.eq_iff_iff]
    simp
    exact ⟨fun e => h i (hL i hi) e, fun e => by rw [e]⟩
  rw [e]
  apply List.map_congr_left
  intro i hi
  have hi' := hL i (List.mem_filter.1 hi).1
  rw [waysOf_take k b (Nat.le_of_lt hi')]
  exact ways_count fun j hj => h j (by omega)
/-- rows from which on ends with a byte stand -/
def st (n : Nat) (b : Nat → Nat) (c : Nat) : Nat := 1 + cn n fun j => decide (b j < c)
theorem lgb_flat (n : Nat) (b : Nat → Nat) (fw c : Nat) (R : List Nat) :
    ((((R.filter fun r => decide (r ≠ fw)).map (ks fw)).filter fun i => decide (b i = c)).map fun i => cn i fun j => decide (b j = c)).map (fun i => st n b c + i) = lgb n b fw c R := by
  unfold lgb
  induction R with
  | nil => rfl
  | cons r R ih =>
    by_cases e : r = fw
    · simp only [List.filter_cons]
      rw [if_neg (by simp [e]), if_neg (by simp [e])]
      exact ih
    · by_cases hc : b (ks fw r) = c
      · simp only [List.filter_cons]
        rw [if_pos (by simp [e]), if_pos (by simp [e, hc]), List.map_cons, List.filter_cons, if_pos (by simp [hc]), List.map_cons, List.map_cons, List.map_cons, ih]
        congr 1
        unfold lead st
        rw [hc]
      · simp only [List.filter_cons]
        rw [if_pos (by simp [e]), if_neg (by simp [hc]), List.map_cons, List.filter_cons, if_neg (by simp [hc])]
        exact ih
theorem st_cnt {n : Nat} {b : Nat → Nat} (c : Nat) : st n b c + (cn n fun j => decide (b j = c)) ≤ n + 1 := by
  unfold st
  have h := cn_add (k := n) (P := fun j => decide (b j < c + 1)) (Q := fun j => decide (b j < c)) (R := fun j => decide (b j = c)) (fun i _ => by
    by_cases h1 : b i < c
    · simp [h1, show b i < c + 1 from by omega, show ¬ b i = c from by omega]
    · by_cases h2 : b i = c
      · simp [h2]
      · simp [h1, h2, show ¬ b i < c + 1 from by omega])
  have := cn_le n fun j => decide (b j < c + 1)
  omega
/-- the known places -/
def knL (pl : Nat → Nat) (rate : Nat) (m : Nat) : List Nat := ((List.range m).filter fun r => decide (pl r % rate = 0)).map pl
theorem knL_succ (pl : Nat → Nat) (rate m : Nat) : knL pl rate (m + 1) = if pl m % rate = 0 then knL pl rate m ++ [pl m] else knL pl rate m := by
  unfold knL
  rw [List.range_succ, List.filter_append, List.map_append]
  by_cases h : pl m % rate = 0
  · rw [if_pos h]; simp [h]
  · rw [if_neg h]; simp [h]
theorem knL_len (pl : Nat → Nat) (rate m : Nat) : (knL pl rate m).length = cn m fun r => decide (pl r % rate = 0) := by
  induction m with
  | zero => rfl
  | succ m ih =>
    rw [knL_succ]
    simp only [cn]
    by_cases h : pl m % rate = 0
    · rw [if_pos h, List.length_append, ih]; simp [h]
    · rw [if_neg h, ih]; simp [h]
theorem knL_get (pl : Nat → Nat) (rate : Nat) {m r : Nat} (hr : r < m) (h : pl r % rate = 0) : (knL pl rate m)[cn r fun r => decide (pl r % rate = 0)]? = some (pl r) := by
  induction m with
  | zero => omega
  | succ m ih =>
    rw [knL_succ]
    by_cases e : r = m
    · subst e
      rw [if_pos h, List.getElem?_append_right (by rw [knL_len]; exact Nat.le_refl _), knL_len]
      simp
    · have h1 := ih (by omega)
      have hl := (List.getElem?_eq_some_iff.1 h1).1
      by_cases h2 : pl m % rate = 0
      · rw [if_pos h2, List.getElem?_append_left hl]; exact h1
      · rw [if_neg h2]; exact h1
/-- what knownIn gives -/
theorem kn_flat (pl : Nat → Nat) (rate k : Nat) {n : Nat} {R : List Nat} (hR : ∀ r ∈ R, r ≤ n) :
    (((R.filter fun i => (decide (pl i % rate = 0)) == true).map (rkb (fun r => decide (pl r % rate = 0)) true)).map fun j => (knL pl rate (n + 1)).getD j 0 + k) = kn pl rate k R := by
  unfold kn
  rw [List.map_map]
  have e : (R.filter fun i => (decide (pl i % rate = 0)) == true) = R.filter fun r => decide (pl r % rate = 0) := by
    apply List.filter_congr
    intro i _
    simp
  rw [e]
  apply List.map_congr_left
  intro r hr
  have h1 := List.mem_filter.1 hr
  have h2 : pl r % rate = 0 := by simpa using h1.2
  simp only [Function.comp]
  rw [rkb_true, List.getD_eq_getElem?_getD, knL_get pl rate (by have := hR r h1.1; omega) h2]
  rfl

end Wv

