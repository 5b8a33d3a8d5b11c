namespace Hf

/-- trees of bytes -/
inductive T where
  | leaf (c : Nat)
  | node (l r : T)

def wt (f : Nat → Nat) : T → Nat
  | .leaf c => f c
  | .node l r => wt f l + wt f r
def least : T → Nat
  | .leaf c => c
  | .node l r => min (least l) (least r)
def bytes : T → List Nat
  | .leaf c => [c]
  | .node l r => bytes l ++ bytes r
def ht : T → Nat
  | .leaf _ => 0
  | .node l r => max (ht l) (ht r) + 1
def cost (f : Nat → Nat) : T → Nat
  | .leaf _ => 0
  | .node l r => cost f l + cost f r + wt f l + wt f r
def kid (f : Nat → Nat) : T → Nat
  | .leaf _ => 0
  | .node l r => max (wt f l) (wt f r)
def good (f : Nat → Nat) : T → Prop
  | .leaf _ => True
  | .node l r => good f l ∧ good f r ∧ kid f l ≤ wt f r ∧ kid f r ≤ wt f l

theorem least_mem : ∀ t : T, least t ∈ bytes t
  | .leaf c => by simp [least, bytes]
  | .node l r => by
    have h1 := least_mem l
    have h2 := least_mem r
    simp only [least, bytes, List.mem_append]
    rcases Nat.le_total (least l) (least r) with h | h
    · rw [Nat.min_eq_left h]; exact .inl h1
    · rw [Nat.min_eq_right h]; exact .inr h2
theorem least_le : ∀ (t : T) (c : Nat), c ∈ bytes t → least t ≤ c
  | .leaf d, c, h => by simp [bytes] at h; subst h; exact Nat.le_refl _
  | .node l r, c, h => by
    simp only [bytes, List.mem_append] at h
    simp only [least]
    rcases h with h | h
    · have := least_le l c h; omega
    · have := least_le r c h; omega

/-- a tree goes ahead of another -/
def lt (f : Nat → Nat) (a b : T) : Bool := decide (wt f a < wt f b) || (decide (wt f a = wt f b) && decide (least a < least b))

theorem lt_iff (f : Nat → Nat) (a b : T) : lt f a b = true ↔ wt f a < wt f b ∨ (wt f a = wt f b ∧ least a < least b) := by simp [lt]
theorem lt_trans {f : Nat → Nat} {a b c : T} (h1 : lt f a b = true) (h2 : lt f b c = true) : lt f a c = true := by
  rw [lt_iff] at *; omega
theorem lt_le {f : Nat → Nat} {a b : T} (h : lt f a b = true) : wt f a ≤ wt f b := by rw [lt_iff] at h; omega
theorem not_lt_le {f : Nat → Nat} {a b : T} (h : lt f a b = false) : wt f b ≤ wt f a := by
  have : ¬ (lt f a b = true) := by rw [h]; simp
  rw [lt_iff] at this; omega
theorem lt_total {f : Nat → Nat} {a b : T} (h : least a ≠ least b) (h2 : lt f a b = false) : lt f b a = true := by
  have : ¬ (lt f a b = true) := by rw [h2]; simp
  rw [lt_iff] at *; omega

/-- in order -/
def Srt (f : Nat → Nat) (l : List T) : Prop := l.Pairwise fun a b => lt f a b = true

/-- a tree is put where it belongs -/
def put (f : Nat → Nat) (x : T) (l : List T) : List T := l.take (l.countP fun y => lt f y x) ++ x :: l.drop (l.countP fun y => lt f y x)

theorem put_cons (f : Nat → Nat) (x y : T) (l : List T) (h : lt f y x = true) : put f x (y :: l) = y :: put f x l := by
  unfold put
  rw [List.countP_cons_of_pos (p := fun z => lt f z x) h]; rfl
theorem put_head (f : Nat → Nat) (x y : T) (l : List T) (hs : Srt f (y :: l)) (h : lt f y x = false) : put f x (y :: l) = x :: y :: l := by
  unfold put
  have h0 : (y :: l).countP (fun z => lt f z x) = 0 := by
    rw [List.countP_eq_zero]
    intro z hz
    simp only [List.mem_cons] at hz
    rcases hz with rfl | hz
    · rw [h]; simp
    · intro hz2
      have := (List.pairwise_cons.1 hs).1 z hz
      rw [lt_trans this hz2] at h; cases h
  rw [h0]; rfl
theorem put_nil (f : Nat → Nat) (x : T) : put f x [] = [x] := rfl

theorem put_perm (f : Nat → Nat) (x : T) (l : List T) : (put f x l).Perm (x :: l) := by
  unfold put
  have h := List.perm_middle (a := x) (l₁ := l.take (l.countP fun y => lt f y x)) (l₂ := l.drop (l.countP fun y => lt f y x))
  rw [List.take_append_drop] at h
  exact h
theorem put_length (f : Nat → Nat) (x : T) (l : List T) : (put f x l).length = l.length + 1 := by rw [(put_perm f x l).length_eq]; rfl
theorem put_mem {f : Nat → Nat} {x : T} {l : List T} {z : T} (h : z ∈ put f x l) : z = x ∨ z ∈ l := by
  have := (put_perm f x l).mem_iff.1 h
  simpa using this

theorem put_srt {f : Nat → Nat} {x : T} : ∀ {l : List T}, Srt f l → (∀ y ∈ l, least y ≠ least x) → Srt f (put f x l)
  | [], _, _ => by rw [put_nil]; exact List.pairwise_singleton _ _
  | y :: l, hs, hd => by
    have hs2 := List.pairwise_cons.1 hs
    cases h : lt f y x
    · rw [put_head f x y l hs h]
      have hxy := lt_total (hd y (by simp)) h
      refine List.pairwise_cons.2 ⟨?_, hs⟩
      intro z hz
      simp only [List.mem_cons] at hz
      rcases hz with rfl | hz
      · exact hxy
      · exact lt_trans hxy (hs2.1 z hz)
    · rw [put_cons f x y l h]
      refine List.pairwise_cons.2 ⟨?_, put_srt hs2.2 (fun z hz => hd z (by simp [hz]))⟩
      intro z hz
      rcases put_mem hz with rfl | hz
      · exact h
      · exact hs2.1 z hz

/-- all trees as one: always the two that go first -/
def joinN (f : Nat → Nat) : Nat → List T → T
  | 0, [] => .leaf 0
  | 0, a :: _ => a
  | _ + 1, [] => .leaf 0
  | _ + 1, [a] => a
  | n + 1, a :: b :: l => joinN f n (put f (.node a b) l)
def join (f : Nat → Nat) (l : List T) : T := joinN f l.length l
theorem join_step (f : Nat → Nat) (a b : T) (l : List T) : join f (a :: b :: l) = join f (put f (.node a b) l) := by
  unfold join
  simp only [List.length_cons, joinN]
  rw [put_length]
theorem join_one (f : Nat → Nat) (a : T) : join f [a] = a := rfl

/-- what is kept while trees are put together -/
structure Inv (f : Nat → Nat) (l : List T) : Prop where
  srt : Srt f l
  pos : ∀ t ∈ l, ∀ c ∈ bytes t, 0 < f c
  nd : (l.flatMap bytes).Nodup
  gd : ∀ t ∈ l, good f t
  kd : ∀ t ∈ l, ∀ u ∈ l, kid f t ≤ wt f u

theorem wt_pos {f : Nat → Nat} : ∀ t : T, (∀ c ∈ bytes t, 0 < f c) → 0 < wt f t
  | .leaf c, h => h c (by simp [bytes])
  | .node l r, h => by
    have := wt_pos l (fun c hc => h c (by simp [bytes, hc]))
    simp only [wt]; omega

theorem nd_least {l : List T} {a b : T} (h : (a :: l).flatMap bytes |>.Nodup) (hb : b ∈ l) : ∀ c ∈ bytes a, c ∉ bytes b := by
  intro c hc hcb
  rw [List.flatMap_cons, List.nodup_append] at h
  exact h.2.2 c hc c (List.mem_flatMap.2 ⟨b, hb, hcb⟩) rfl

theorem flat_perm {l m : List T} (h : l.Perm m) : (l.flatMap bytes).Perm (m.flatMap bytes) := h.flatMap_right bytes

theorem step_perm (f : Nat → Nat) (a b : T) (l : List T) : ((put f (.node a b) l).flatMap bytes).Perm ((a :: b :: l).flatMap bytes) := by
  refine (flat_perm (put_perm f (.node a b) l)).trans ?_
  simp [bytes]

theorem Inv.step {f : Nat → Nat} {a b : T} {l : List T} (h : Inv f (a :: b :: l)) : Inv f (put f (.node a b) l) := by
  have hs1 := List.pairwise_cons.1 h.srt
  have hs2 := List.pairwise_cons.1 hs1.2
  have hab : wt f a ≤ wt f b := lt_le (hs1.1 b (by simp))
  have hbl : ∀ u ∈ l, wt f b ≤ wt f u := fun u hu => lt_le (hs2.1 u hu)
  have hndb : ((b :: l).flatMap bytes).Nodup := by
    have := h.nd; rw [List.flatMap_cons, List.nodup_append] at this; exact this.2.1
  refine ⟨put_srt hs2.2 ?_, ?_, ?_, ?_, ?_⟩
  · intro y hy e
    have hm := least_mem y
    have hx := least_mem (.node a b)
    rw [e] at hm
    simp only [bytes, List.mem_append] at hx
    rcases hx with hx | hx
    · exact nd_least h.nd (by simp [hy] : y ∈ b :: l) _ hx hm
    · exact nd_least hndb hy _ hx hm
  · intro t ht c hc
    rcases put_mem ht with rfl | ht
    · simp only [bytes, List.mem_append] at hc
      rcases hc with hc | hc
      · exact h.pos a (by simp) c hc
      · exact h.pos b (by simp) c hc
    · exact h.pos t (by simp [ht]) c hc
  · exact (step_perm f a b l).nodup_iff.2 h.nd
  · intro t ht
    rcases put_mem ht with rfl | ht
    · exact ⟨h.gd a (by simp), h.gd b (by simp), h.kd a (by simp) b (by simp), h.kd b (by simp) a (by simp)⟩
    · exact h.gd t (by simp [ht])
  · intro t ht u hu
    have hk : kid f (.node a b) = wt f b := by simp only [kid]; omega
    rcases put_mem ht with rfl | ht <;> rcases put_mem hu with rfl | hu
    · rw [hk]; simp only [wt]; omega
    · rw [hk]; exact hbl u hu
    · have := h.kd t (by simp [ht]) a (by simp)
      simp only [wt]; omega
    · exact h.kd t (by simp [ht]) u (by simp [hu])

theorem join_good {f : Nat → Nat} : ∀ (n : Nat) (l : List T), l.length = n + 1 → Inv f l → Inv f [join f l] ∧ (bytes (join f l)).Perm (l.flatMap bytes)
  | 0, [a], _, h => by rw [join_one]; exact ⟨h, by simp⟩
  | n + 1, a :: b :: l, hl, h => by
    rw [join_step]
    simp only [List.length_cons] at hl
    obtain ⟨h1, h2⟩ := join_good n (put f (.node a b) l) (by rw [put_length]; omega) h.step
    exact ⟨h1, h2.trans (step_perm f a b l)⟩
  | 0, [], h, _ => by simp at h
  | 0, _ :: _ :: _, h, _ => by simp at h
  | n + 1, [], h, _ => by simp at h
  | n + 1, [_], h, _ => by simp at h

/-- how much a tree of a height weighs at least -/
def fib : Nat → Nat
  | 0 => 1
  | 1 => 2
  | n + 2 => fib (n + 1) + fib n
theorem fib_pos : ∀ n, 0 < fib n
  | 0 => by simp [fib]
  | 1 => by simp [fib]
  | n + 2 => by have := fib_pos (n + 1); simp only [fib]; omega
theorem fib_mono : ∀ {a b : Nat}, a ≤ b → fib a ≤ fib b := by
  intro a b h
  induction b with
  | zero => have : a = 0 := by omega
            subst this; exact Nat.le_refl _
  | succ b ih =>
    by_cases e : a = b + 1
    · subst e; exact Nat.le_refl _
    · have h1 := ih (by omega)
      have h2 : fib b ≤ fib (b + 1) := by
        cases b with
        | zero => simp [fib]
        | succ b => simp only [fib]; omega
      omega
theorem fib_wt {f : Nat → Nat} : ∀ t : T, good f t → (∀ c ∈ bytes t, 0 < f c) → fib (ht t) ≤ wt f t ∧ (0 < ht t → fib (ht t - 1) ≤ kid f t)
  | .leaf c, _, h => ⟨h c (by simp [bytes]), fun h => by simp [ht] at h⟩
  | .node l r, hg, h => by
    obtain ⟨g1, g2, g3, g4⟩ := hg
    obtain ⟨a1, a2⟩ := fib_wt l g1 (fun c hc => h c (by simp [bytes, hc]))
    obtain ⟨b1, b2⟩ := fib_wt r g2 (fun c hc => h c (by simp [bytes, hc]))
    have p1 := fib_pos (ht r)
    have p2 := fib_pos (ht l)
    simp only [ht, wt, kid]
    rcases Nat.le_total (ht r) (ht l) with hh | hh
    · rw [Nat.max_eq_left hh]
      refine ⟨?_, fun _ => by simp only [Nat.add_sub_cancel]; omega⟩
      cases hl : ht l with
      | zero => rw [hl] at a1; simp only [fib] at *; omega
      | succ k =>
        have := a2 (by omega)
        rw [hl] at a1 this
        simp only [Nat.add_sub_cancel] at this
        simp only [fib]; omega
    · rw [Nat.max_eq_right hh]
      refine ⟨?_, fun _ => by simp only [Nat.add_sub_cancel]; omega⟩
      cases hl : ht r with
      | zero => rw [hl] at b1; simp only [fib] at *; omega
      | succ k =>
        have := b2 (by omega)
        rw [hl] at b1 this
        simp only [Nat.add_sub_cancel] at this
        simp only [fib]; omega
theorem ht_le {f : Nat → Nat} {t : T} (hg : good f t) (h : ∀ c ∈ bytes t, 0 < f c) (hw : wt f t ≤ 1000) : ht t ≤ 14 := by
  have h1 := (fib_wt t hg h).1
  rcases Nat.lt_or_ge (ht t) 15 with h2 | h2
  · omega
  · have := fib_mono h2
    have h3 : fib 15 = 1597 := by decide
    omega
theorem fib_two (n : Nat) : 2 * fib n ≤ fib (n + 2) := by
  have h := fib_mono (show n ≤ n + 1 by omega)
  simp only [fib]; omega
theorem fib_far (n : Nat) : ∀ k, 2 ^ k * fib n ≤ fib (n + 2 * k)
  | 0 => by simp
  | k + 1 => by
    have h1 := fib_far n k
    have h2 := fib_two (n + 2 * k)
    rw [show n + 2 * (k + 1) = n + 2 * k + 2 by omega, Nat.pow_succ, Nat.mul_comm (2 ^ k) 2, Nat.mul_assoc]; omega
theorem ht_leG {f : Nat → Nat} {t : T} (hg : good f t) (h : ∀ c ∈ bytes t, 0 < f c) (hw : wt f t ≤ 17000000) : ht t ≤ 42 := by
  have h1 := (fib_wt t hg h).1
  rcases Nat.lt_or_ge (ht t) 43 with h2 | h2
  · omega
  · have h4 := fib_mono h2
    have h3 : fib 15 = 1597 := by decide
    have h5 := fib_far 15 14
    rw [h3] at h5
    have h6 : (2 : Nat) ^ 14 * 1597 = 26165248 := by decide
    rw [h6] at h5
    have h7 : fib (15 + 2 * 14) = fib 43 := rfl
    rw [h7] at h5
    omega

end Hf
