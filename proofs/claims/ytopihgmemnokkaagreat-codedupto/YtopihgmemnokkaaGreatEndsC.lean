namespace Cc

/-- how many numbers below k there are of which P holds -/
def cn : Nat → (Nat → Bool) → Nat
  | 0, _ => 0
  | k + 1, P => cn k P + (P k).toNat

theorem cn_congr {k : Nat} {P Q : Nat → Bool} (h : ∀ i, i < k → P i = Q i) : cn k P = cn k Q := by
  induction k with
  | zero => rfl
  | succ k ih => simp only [cn]; rw [ih (fun i hi => h i (by omega)), h k (by omega)]

theorem cn_add {k : Nat} {P Q R : Nat → Bool} (h : ∀ i, i < k → (P i).toNat = (Q i).toNat + (R i).toNat) : cn k P = cn k Q + cn k R := by
  induction k with
  | zero => rfl
  | succ k ih => simp only [cn]; have := ih (fun i hi => h i (by omega)); have := h k (by omega); omega

theorem cn_mono {k : Nat} {P Q : Nat → Bool} (h : ∀ i, i < k → P i = true → Q i = true) : cn k P ≤ cn k Q := by
  induction k with
  | zero => exact Nat.le_refl _
  | succ k ih =>
    simp only [cn]
    have h1 := ih (fun i hi => h i (by omega))
    have h2 := h k (by omega)
    have : (P k).toNat ≤ (Q k).toNat := by
      cases hp : P k <;> simp_all
    omega

theorem cn_strict {k : Nat} {P Q : Nat → Bool} (h : ∀ i, i < k → P i = true → Q i = true) {a : Nat} (ha : a < k) (hq : Q a = true) (hp : P a = false) : cn k P < cn k Q := by
  induction k with
  | zero => omega
  | succ k ih =>
    simp only [cn]
    by_cases e : a = k
    · subst e
      have h1 := cn_mono (k := a) (P := P) (Q := Q) (fun i hi => h i (by omega))
      rw [hp, hq]; simp; omega
    · have h1 := ih (fun i hi => h i (by omega)) (by omega)
      have h2 := h k (by omega)
      have : (P k).toNat ≤ (Q k).toNat := by
        cases hp : P k <;> simp_all
      omega

theorem cn_le (k : Nat) (P : Nat → Bool) : cn k P ≤ k := by
  induction k with
  | zero => exact Nat.le_refl _
  | succ k ih => simp only [cn]; have := Bool.toNat_le (P k); omega

theorem cn_true (k : Nat) : cn k (fun _ => true) = k := by
  induction k with
  | zero => rfl
  | succ k ih => simp only [cn, ih]; rfl

theorem cn_false (k : Nat) : cn k (fun _ => false) = 0 := by
  induction k with
  | zero => rfl
  | succ k ih => simp only [cn, ih]; rfl

theorem cn_zero {k : Nat} {P : Nat → Bool} (h : ∀ i, i < k → P i = false) : cn k P = 0 := by
  rw [cn_congr (Q := fun _ => false) h]; exact cn_false k

theorem cn_one (k a : Nat) (h : a < k) : cn k (fun i => i == a) = 1 := by
  induction k with
  | zero => omega
  | succ k ih =>
    simp only [cn]
    by_cases e : a = k
    · subst e
      rw [cn_zero (fun i hi => by simp; omega)]; simp
    · rw [ih (by omega)]; simp; omega

theorem cn_plus_one {k a : Nat} {P Q : Nat → Bool} (ha : a < k) (h : ∀ i, i < k → (P i).toNat = (Q i).toNat + (i == a).toNat) : cn k P = cn k Q + 1 := by
  have e := cn_add (k := k) (P := P) (Q := Q) (R := fun i => i == a) h
  rw [cn_one k a ha] at e; exact e

theorem cn_countP (k : Nat) (P : Nat → Bool) : cn k P = (List.range k).countP P := by
  induction k with
  | zero => rfl
  | succ k ih => rw [List.range_succ, List.countP_append, cn, ih]; cases h : P k <;> simp [h]

/-- a text's letters and the order of its ends, as the sorting uses them -/
structure Ord (n : Nat) (L : Nat → Nat) (lt : Nat → Nat → Bool) : Prop where
  irr : ∀ a, lt a a = false
  tri : ∀ a b, a ≤ n → b ≤ n → a ≠ b → lt a b = true ∨ lt b a = true
  trans : ∀ a b c, lt a b = true → lt b c = true → lt a c = true
  Ln : L n = 0
  Lpos : ∀ a, a < n → 0 < L a
  recur : ∀ a b, a < n → b < n → L a = L b → lt a b = lt (a + 1) (b + 1)
  less : ∀ a b, a ≤ n → b ≤ n → L a < L b → lt a b = true

def fall (n : Nat) (lt : Nat → Nat → Bool) (i : Nat) : Bool := decide (i < n) && lt (i + 1) i

/-- a valley: the empty end, or an end that does not fall behind one that does -/
def val (n : Nat) (lt : Nat → Nat → Bool) (i : Nat) : Bool :=
  decide (i = n) || (decide (0 < i) && fall n lt (i - 1) && !fall n lt i)

def rank (n : Nat) (lt : Nat → Nat → Bool) (i : Nat) : Nat := cn (n + 1) fun j => lt j i
def frontOf (n : Nat) (L : Nat → Nat) (c : Nat) : Nat := cn (n + 1) fun j => decide (L j < c)
def backOf (n : Nat) (L : Nat → Nat) (c : Nat) : Nat := cn (n + 1) fun j => decide (L j ≤ c)
def midOf (n : Nat) (L : Nat → Nat) (lt : Nat → Nat → Bool) (c : Nat) : Nat := frontOf n L c + cn (n + 1) fun j => decide (L j = c) && fall n lt j
/-- where the valleys are laid first -/
def vpos (n : Nat) (L : Nat → Nat) (lt : Nat → Nat → Bool) (i : Nat) : Nat :=
  midOf n L lt (L i) + cn (n + 1) fun j => val n lt j && (decide (L j = L i) && lt j i)
def pos (n : Nat) (L : Nat → Nat) (lt : Nat → Nat → Bool) (i : Nat) : Nat :=
  if fall n lt i = true then rank n lt i else vpos n L lt i

section
variable {n : Nat} {L : Nat → Nat} {lt : Nat → Nat → Bool}

theorem Ord.asym (o : Ord n L lt) {a b : Nat} (h : lt a b = true) : lt b a = false := by
  cases e : lt b a
  · rfl
  · have := o.trans _ _ _ h e; rw [o.irr] at this; exact this.symm

theorem Ord.more (o : Ord n L lt) {a b : Nat} (ha : a ≤ n) (hb : b ≤ n) (h : L b < L a) : lt a b = false :=
  o.asym (o.less _ _ hb ha h)

theorem Ord.Lle (o : Ord n L lt) {a b : Nat} (ha : a ≤ n) (hb : b ≤ n) (h : lt a b = true) : L a ≤ L b := by
  by_cases e : L b < L a
  · rw [o.more ha hb e] at h; cases h
  · omega

theorem Ord.zero (o : Ord n L lt) {a : Nat} (ha : a ≤ n) (h : L a = 0) : a = n := by
  by_cases e : a < n
  · have := o.Lpos a e; omega
  · omega

theorem fall_lt {i : Nat} (h : fall n lt i = true) : i < n := by
  unfold fall at h; simp at h; exact h.1
theorem fall_desc {i : Nat} (h : fall n lt i = true) : lt (i + 1) i = true := by
  unfold fall at h; simp at h; exact h.2

theorem Ord.not_fall (o : Ord n L lt) {i : Nat} (hi : i < n) (h : fall n lt i = false) : lt i (i + 1) = true := by
  unfold fall at h; simp [hi] at h
  rcases o.tri i (i + 1) (by omega) (by omega) (by omega) with e | e
  · exact e
  · rw [h] at e; cases e

/-- of two ends with one first letter the falling one stands ahead of the other -/
theorem Ord.key (o : Ord n L lt) : ∀ (k i j : Nat), n - i ≤ k → j ≤ n → L i = L j → fall n lt i = true → fall n lt j = false → lt i j = true := by
  intro k
  induction k with
  | zero => intro i j h1 _ _ h2; have := fall_lt h2; omega
  | succ k ih =>
    intro i j h1 hj he hf hg
    have hi := fall_lt hf
    have hp := o.Lpos i hi
    have hjn : j < n := by
      by_cases e : j = n
      · subst e; rw [o.Ln] at he; omega
      · omega
    have hd := fall_desc hf
    have hu := o.not_fall hjn hg
    have l1 := o.Lle (by omega) (by omega) hd
    have l2 := o.Lle (by omega) (by omega) hu
    rw [o.recur i j hi hjn he]
    by_cases hlt : L (i + 1) < L (j + 1)
    · exact o.less _ _ (by omega) (by omega) hlt
    · have hi1 : i + 1 < n := by
        by_cases e : i + 1 = n
        · rw [e, o.Ln] at hlt; omega
        · omega
      have hj1 : j + 1 < n := by
        by_cases e : j + 1 = n
        · rw [e, o.Ln] at l2; omega
        · omega
      apply ih (i + 1) (j + 1) (by omega) (by omega) (by omega)
      · unfold fall; simp [hi1]; rw [← o.recur (i + 1) i hi1 hi (by omega)]; exact hd
      · unfold fall; simp [hj1]
        have := o.recur j (j + 1) hjn hj1 (by omega)
        rw [hu] at this
        exact o.asym this.symm

theorem Ord.key' (o : Ord n L lt) {i j : Nat} (hj : j ≤ n) (he : L i = L j) (hf : fall n lt i = true) (hg : fall n lt j = false) : lt i j = true :=
  o.key _ i j (Nat.le_refl _) hj he hf hg

/-- a comparison of ends with one first letter -/
theorem Ord.step (o : Ord n L lt) {i j : Nat} (hi : i < n) (hj : j < n) (h : L i = L j) : lt i j = lt (i + 1) (j + 1) := o.recur i j hi hj h

theorem Ord.rank_lt (o : Ord n L lt) {i j : Nat} (hi : i ≤ n) (h : lt i j = true) : rank n lt i < rank n lt j := by
  unfold rank
  exact cn_strict (fun a _ ha => o.trans _ _ _ ha h) (a := i) (by omega) h (o.irr i)

theorem Ord.rank_lt_iff (o : Ord n L lt) {i j : Nat} (hi : i ≤ n) (hj : j ≤ n) : lt i j = true ↔ rank n lt i < rank n lt j := by
  constructor
  · exact o.rank_lt hi
  · intro h
    by_cases e : i = j
    · subst e; omega
    · rcases o.tri i j hi hj e with h1 | h1
      · exact h1
      · have := o.rank_lt hj h1; omega

theorem Ord.rank_inj (o : Ord n L lt) {i j : Nat} (hi : i ≤ n) (hj : j ≤ n) (h : rank n lt i = rank n lt j) : i = j := by
  by_cases e : i = j
  · exact e
  · rcases o.tri i j hi hj e with h1 | h1
    · have := o.rank_lt hi h1; omega
    · have := o.rank_lt hj h1; omega

theorem Ord.rank_le (o : Ord n L lt) {i : Nat} (hi : i ≤ n) : rank n lt i ≤ n := by
  have : rank n lt i < cn (n + 1) (fun _ => true) := by
    unfold rank
    exact cn_strict (fun _ _ _ => rfl) (a := i) (by omega) rfl (o.irr i)
  rw [cn_true] at this; omega

theorem frontOf_succ (n : Nat) (L : Nat → Nat) (c : Nat) : frontOf n L (c + 1) = frontOf n L c + cn (n + 1) fun j => decide (L j = c) := by
  unfold frontOf
  apply cn_add
  intro i _
  by_cases h1 : L i < c
  · simp [h1, show L i < c + 1 from by omega, show ¬ L i = c from by omega]
  · by_cases h2 : L i = c
    · simp [h2]
    · simp [h1, h2, show ¬ L i < c + 1 from by omega]

theorem frontOf_zero (n : Nat) (L : Nat → Nat) : frontOf n L 0 = 0 := by
  unfold frontOf; exact cn_zero (fun i _ => by simp)

theorem backOf_eq (n : Nat) (L : Nat → Nat) (c : Nat) : backOf n L c = frontOf n L (c + 1) := by
  unfold backOf frontOf
  exact cn_congr (fun i _ => by by_cases h : L i ≤ c <;> simp [h] <;> omega)

theorem frontOf_mono (n : Nat) (L : Nat → Nat) {c d : Nat} (h : c ≤ d) : frontOf n L c ≤ frontOf n L d := by
  unfold frontOf
  apply cn_mono
  intro i _ hi
  simp at hi ⊢; omega

theorem backOf_le (n : Nat) (L : Nat → Nat) (c : Nat) : backOf n L c ≤ n + 1 := cn_le _ _

theorem all_split (n : Nat) (L : Nat → Nat) (lt : Nat → Nat → Bool) (c : Nat) : (cn (n + 1) fun j => decide (L j = c)) = (cn (n + 1) fun j => decide (L j = c) && fall n lt j) + cn (n + 1) fun j => decide (L j = c) && !fall n lt j := by
  apply cn_add
  intro i _
  cases fall n lt i <;> simp

/-- the middle as the program reckons it: so many from the back as do not fall -/
theorem midOf_eq (n : Nat) (L : Nat → Nat) (lt : Nat → Nat → Bool) (c : Nat) : midOf n L lt c + (cn (n + 1) fun j => decide (L j = c) && !fall n lt j) = backOf n L c := by
  rw [backOf_eq, frontOf_succ, all_split n L lt c]; unfold midOf; omega

theorem Ord.rank_fall (o : Ord n L lt) {i : Nat} (h : fall n lt i = true) : rank n lt i = frontOf n L (L i) + cn (n + 1) fun j => decide (L j = L i) && (fall n lt j && lt j i) := by
  have hi := fall_lt h
  unfold rank frontOf
  apply cn_add
  intro j hj
  by_cases h1 : L j < L i
  · simp [h1, o.less j i (by omega) (by omega) h1, show ¬ L j = L i from by omega]
  · by_cases h2 : L j = L i
    · simp only [h2]
      cases hf : fall n lt j
      · have := o.asym (o.key' (i := i) (j := j) (by omega) h2.symm h hf)
        simp [this]
      · simp
    · simp [h1, h2, o.more (a := j) (b := i) (by omega) (by omega) (by omega)]

theorem Ord.rank_rise (o : Ord n L lt) {i : Nat} (hi : i ≤ n) (h : fall n lt i = false) : rank n lt i + 1 + (cn (n + 1) fun j => decide (L j = L i) && (!fall n lt j && lt i j)) = backOf n L (L i) := by
  have e1 : backOf n L (L i) = (cn (n + 1) fun j => lt j i || j == i) + cn (n + 1) fun j => decide (L j = L i) && (!fall n lt j && lt i j) := by
    unfold backOf
    apply cn_add
    intro j hj
    by_cases hji : j = i
    · subst hji; simp [o.irr]
    · by_cases h1 : L j < L i
      · simp [o.less j i (by omega) hi h1, show L j ≤ L i from by omega, show ¬ L j = L i from by omega]
      · by_cases h2 : L j = L i
        · rcases o.tri j i (by omega) hi hji with e | e
          · simp [h2, e, o.asym e]
          · have hfj : fall n lt j = false := by
              cases hf : fall n lt j
              · rfl
              · have := o.key' (i := j) (j := i) hi h2 hf h
                rw [o.asym this] at e; cases e
            simp [h2, e, hfj, o.asym e, hji]
        · have hji' : (j == i) = false := by simp [hji]
          simp [o.more (a := j) (b := i) (by omega) hi (by omega), h2, hji', show ¬ L j ≤ L i from by omega]
  have e2 : (cn (n + 1) fun j => lt j i || j == i) = rank n lt i + 1 := by
    apply cn_plus_one (a := i) (by omega)
    intro j _
    by_cases hji : j = i
    · subst hji; simp [o.irr]
    · have hji' : (j == i) = false := by simp [hji]
      simp [hji']
  omega

theorem val_le {i : Nat} (h : val n lt i = true) : i ≤ n := by
  unfold val at h
  simp at h
  rcases h with h | ⟨⟨h1, h2⟩, h3⟩
  · omega
  · have := fall_lt h2; omega

theorem val_not_fall {i : Nat} (h : val n lt i = true) : fall n lt i = false := by
  unfold val at h
  simp at h
  rcases h with h | ⟨⟨h1, h2⟩, h3⟩
  · unfold fall; simp [h]
  · exact h3

theorem Ord.fall_lt_mid (o : Ord n L lt) {i : Nat} (h : fall n lt i = true) : rank n lt i < midOf n L lt (L i) := by
  have hi := fall_lt h
  rw [o.rank_fall h]
  unfold midOf
  have := cn_strict (k := n + 1) (P := fun j => decide (L j = L i) && (fall n lt j && lt j i)) (Q := fun j => decide (L j = L i) && fall n lt j)
    (fun j _ hj => by simp at hj ⊢; exact ⟨hj.1, hj.2.1⟩) (a := i) (by omega) (by simp [h]) (by simp [o.irr])
  omega

theorem Ord.vpos_lt_back (o : Ord n L lt) {i : Nat} (h : val n lt i = true) : vpos n L lt i < backOf n L (L i) := by
  have hi := val_le h
  rw [← midOf_eq n L lt (L i)]
  unfold vpos
  have := cn_strict (k := n + 1) (P := fun j => val n lt j && (decide (L j = L i) && lt j i)) (Q := fun j => decide (L j = L i) && !fall n lt j)
    (fun j _ hj => by simp at hj ⊢; exact ⟨hj.2.1, val_not_fall hj.1⟩) (a := i) (by omega) (by simp [val_not_fall h]) (by simp [o.irr])
  omega

theorem mid_le_vpos (i : Nat) : midOf n L lt (L i) ≤ vpos n L lt i := by unfold vpos; omega
theorem front_le_mid (c : Nat) : frontOf n L c ≤ midOf n L lt c := by unfold midOf; omega

/-- falling ends and valleys: those that are met on the way up -/
def met (n : Nat) (lt : Nat → Nat → Bool) (i : Nat) : Bool := fall n lt i || val n lt i

theorem met_le {i : Nat} (h : met n lt i = true) : i ≤ n := by
  unfold met at h; simp at h
  rcases h with h | h
  · have := fall_lt h; omega
  · exact val_le h

/-- behind a falling end stands a falling one or a valley -/
theorem met_succ {i : Nat} (h : fall n lt i = true) : met n lt (i + 1) = true := by
  have hi := fall_lt h
  unfold met
  cases e : fall n lt (i + 1)
  · unfold val; simp [h, e]
  · rfl

theorem Ord.pos_bounds (o : Ord n L lt) {i : Nat} (h : met n lt i = true) : frontOf n L (L i) ≤ pos n L lt i ∧ pos n L lt i < backOf n L (L i) := by
  unfold pos
  cases hf : fall n lt i
  · simp
    have hv : val n lt i = true := by unfold met at h; simpa [hf] using h
    have := o.vpos_lt_back hv
    have := mid_le_vpos (n := n) (L := L) (lt := lt) i
    have := front_le_mid (n := n) (L := L) (lt := lt) (L i)
    omega
  · simp
    have := o.fall_lt_mid hf
    have := midOf_eq n L lt (L i)
    have := o.rank_fall hf
    omega

theorem Ord.pos_le (o : Ord n L lt) {i : Nat} (h : met n lt i = true) : pos n L lt i ≤ n := by
  have := (o.pos_bounds h).2
  have := backOf_le n L (L i)
  omega

theorem Ord.pos_lt (o : Ord n L lt) {i j : Nat} (hi : met n lt i = true) (hj : met n lt j = true) (h : lt i j = true) : pos n L lt i < pos n L lt j := by
  have li := met_le hi
  have lj := met_le hj
  have bi := o.pos_bounds hi
  have bj := o.pos_bounds hj
  have hle := o.Lle li lj h
  by_cases hlt : L i < L j
  · have h1 := backOf_eq n L (L i)
    have h2 := frontOf_mono n L (c := L i + 1) (d := L j) (by omega)
    omega
  · have he : L i = L j := by omega
    unfold pos
    cases hf : fall n lt i
    · have hv : val n lt i = true := by unfold met at hi; simpa [hf] using hi
      cases hg : fall n lt j
      · have hw : val n lt j = true := by unfold met at hj; simpa [hg] using hj
        simp
        unfold vpos
        rw [he]
        have := cn_strict (k := n + 1) (P := fun a => val n lt a && (decide (L a = L j) && lt a i)) (Q := fun a => val n lt a && (decide (L a = L j) && lt a j))
          (fun a _ ha => by simp at ha ⊢; exact ⟨ha.1, ha.2.1, o.trans _ _ _ ha.2.2 h⟩) (a := i) (by omega) (by simp [hv, he, h]) (by simp [o.irr])
        omega
      · have := o.asym (o.key' (i := j) (j := i) li he.symm hg hf)
        rw [h] at this; cases this
    · cases hg : fall n lt j
      · simp
        have h1 := o.fall_lt_mid hf
        have h2 := mid_le_vpos (n := n) (L := L) (lt := lt) j
        rw [he] at h1
        omega
      · simp
        exact o.rank_lt li h

theorem Ord.pos_lt_iff (o : Ord n L lt) {i j : Nat} (hi : met n lt i = true) (hj : met n lt j = true) : lt i j = true ↔ pos n L lt i < pos n L lt j := by
  constructor
  · exact o.pos_lt hi hj
  · intro h
    by_cases e : i = j
    · subst e; omega
    · rcases o.tri i j (met_le hi) (met_le hj) e with h1 | h1
      · exact h1
      · have := o.pos_lt hj hi h1; omega

theorem Ord.pos_inj (o : Ord n L lt) {i j : Nat} (hi : met n lt i = true) (hj : met n lt j = true) (h : pos n L lt i = pos n L lt j) : i = j := by
  by_cases e : i = j
  · exact e
  · rcases o.tri i j (met_le hi) (met_le hj) e with h1 | h1
    · have := o.pos_lt hi hj h1; omega
    · have := o.pos_lt hj hi h1; omega

/-! ### the way up: falling ends -/

/-- behind the rows below r: what the rows hold, and where the next falling end of each letter goes -/
structure Up (n : Nat) (L : Nat → Nat) (lt : Nat → Nat → Bool) (r : Nat) (rows front : Nat → Nat) : Prop where
  vals : ∀ i, val n lt i = true → rows (vpos n L lt i) = i
  falls : ∀ i, fall n lt i = true → pos n L lt (i + 1) < r → rows (rank n lt i) = i
  only : ∀ p, p ≤ n → rows p = 0 ∨ (met n lt (rows p) = true ∧ pos n L lt (rows p) = p)
  fronts : ∀ c, front c = frontOf n L c + cn (n + 1) fun j => decide (L j = c) && (fall n lt j && decide (pos n L lt (j + 1) < r))

def put (f : Nat → Nat) (p v : Nat) : Nat → Nat := fun q => if q = p then v else f q

theorem put_same (f : Nat → Nat) (p v : Nat) : put f p v p = v := by unfold put; rw [if_pos rfl]
theorem put_other (f : Nat → Nat) {p q : Nat} (v : Nat) (h : q ≠ p) : put f p v q = f q := by unfold put; rw [if_neg h]

theorem pos_fall {i : Nat} (h : fall n lt i = true) : pos n L lt i = rank n lt i := by unfold pos; simp [h]
theorem pos_val {i : Nat} (h : val n lt i = true) : pos n L lt i = vpos n L lt i := by unfold pos; simp [val_not_fall h]

/-- what is met in row r, where one belongs there -/
theorem Up.here (o : Ord n L lt) {r : Nat} {rows front : Nat → Nat} (u : Up n L lt r rows front) {i : Nat} (h : met n lt i = true) (hp : pos n L lt i = r) : rows r = i := by
  cases hf : fall n lt i
  · have hv : val n lt i = true := by unfold met at h; simpa [hf] using h
    rw [← hp, pos_val hv]; exact u.vals i hv
  · have h1 := o.pos_lt (met_succ hf) h (fall_desc hf)
    rw [← hp, pos_fall hf]; exact u.falls i hf (by omega)

theorem Up.le {r : Nat} {rows front : Nat → Nat} (u : Up n L lt r rows front) {p : Nat} (hp : p ≤ n) : rows p ≤ n := by
  rcases u.only p hp with h | ⟨h, _⟩
  · omega
  · exact met_le h

/-- nothing is laid -/
theorem Up.skip (o : Ord n L lt) {r : Nat} {rows front : Nat → Nat} (u : Up n L lt r rows front) (h : rows r = 0 ∨ fall n lt (rows r - 1) = false) : Up n L lt (r + 1) rows front := by
  have key : ∀ i, fall n lt i = true → ¬ pos n L lt (i + 1) = r := by
    intro i hi he
    have h1 := u.here o (met_succ hi) he
    rcases h with h | h
    · omega
    · rw [h1] at h; simp [hi] at h
  refine ⟨u.vals, ?_, u.only, ?_⟩
  · intro i hi hp
    exact u.falls i hi (by have := key i hi; omega)
  · intro c
    rw [u.fronts c]
    congr 1
    apply cn_congr
    intro j _
    cases hj : fall n lt j
    · simp
    · have := key j hj
      have e : decide (pos n L lt (j + 1) < r) = decide (pos n L lt (j + 1) < r + 1) := by
        apply decide_eq_decide.2; omega
      rw [e]

/-- the place where a falling end is laid is its own -/
theorem Up.place (o : Ord n L lt) {r : Nat} {rows front : Nat → Nat} (u : Up n L lt r rows front) (hr : r ≤ n) (h0 : rows r ≠ 0) (hf : fall n lt (rows r - 1) = true) :
    front (L (rows r - 1)) = rank n lt (rows r - 1) := by
  rcases u.only r hr with h | ⟨hm, hp⟩
  · exact absurd h h0
  rw [u.fronts, o.rank_fall hf]
  congr 1
  apply cn_congr
  intro j _
  by_cases hl : L j = L (rows r - 1)
  · cases hj : fall n lt j
    · simp
    · have e1 := o.step (fall_lt hj) (fall_lt hf) hl
      have e2 : rows r - 1 + 1 = rows r := by omega
      rw [e2] at e1
      have e3 := o.pos_lt_iff (met_succ hj) hm
      rw [hp] at e3
      have e4 : decide (pos n L lt (j + 1) < r) = lt j (rows r - 1) := by
        rw [e1]; cases hx : lt (j + 1) (rows r)
        · simp; rw [hx] at e3; simp at e3; exact e3
        · simp; exact e3.1 hx
      rw [e4]
  · simp [hl]

theorem Up.lay (o : Ord n L lt) {r : Nat} {rows front : Nat → Nat} (u : Up n L lt r rows front) (hr : r ≤ n) (h0 : rows r ≠ 0) (hf : fall n lt (rows r - 1) = true) :
    Up n L lt (r + 1) (put rows (front (L (rows r - 1))) (rows r - 1)) (put front (L (rows r - 1)) (front (L (rows r - 1)) + 1)) := by
  have hpl := u.place o hr h0 hf
  rcases u.only r hr with h | ⟨hm, hp⟩
  · exact absurd h h0
  generalize hb : rows r - 1 = b at *
  have hrb : rows r = b + 1 := by omega
  have hmb : met n lt b = true := by unfold met; simp [hf]
  rw [hpl]
  refine ⟨?_, ?_, ?_, ?_⟩
  · intro i hi
    unfold put
    split
    · rename_i e
      have hmi : met n lt i = true := by unfold met; simp [hi]
      exact (o.pos_inj hmi hmb (by rw [pos_val hi, pos_fall hf, e])).symm
    · exact u.vals i hi
  · intro i hi hpi
    unfold put
    split
    · rename_i e
      exact (o.rank_inj (by have := fall_lt hi; omega) (by have := fall_lt hf; omega) e).symm
    · rename_i e
      apply u.falls i hi
      by_cases e2 : pos n L lt (i + 1) = r
      · have := u.here o (met_succ hi) e2
        have : i = b := by omega
        rw [this] at e; exact absurd rfl e
      · omega
  · intro p hpn
    unfold put
    split
    · rename_i e
      right
      refine ⟨hmb, ?_⟩
      rw [pos_fall hf, e]
    · exact u.only p hpn
  · intro c
    have hx : ∀ j, fall n lt j = true → (pos n L lt (j + 1) = r ↔ j = b) := by
      intro j hj
      constructor
      · intro e
        have := u.here o (met_succ hj) e
        omega
      · intro e
        subst e; rw [← hrb]; exact hp
    unfold put
    split
    · rename_i e
      subst e
      rw [← hpl, u.fronts]
      rw [Nat.add_assoc]
      congr 1
      symm
      apply cn_plus_one (a := b) (by have := fall_lt hf; omega)
      intro j hj
      by_cases hjb : j = b
      · subst hjb
        have := (hx j hf).2 rfl
        simp [hf, this]
      · have hjb' : (j == b) = false := by simp [hjb]
        cases hfj : fall n lt j
        · simp [hjb']
        · have h1 := hx j hfj
          have e : decide (pos n L lt (j + 1) < r) = decide (pos n L lt (j + 1) < r + 1) := by
            apply decide_eq_decide.2; omega
          simp [hjb', e]
    · rename_i e
      rw [u.fronts c]
      congr 1
      apply cn_congr
      intro j hj
      by_cases hjb : j = b
      · subst hjb; simp [show ¬ L j = c from fun h => e h.symm]
      · cases hfj : fall n lt j
        · simp
        · have h1 := hx j hfj
          have e : decide (pos n L lt (j + 1) < r) = decide (pos n L lt (j + 1) < r + 1) := by
            apply decide_eq_decide.2; omega
          rw [e]

/-! ### the way down: rising ends -/

/-- all rows from r on are met (r counts down) -/
structure Down (n : Nat) (L : Nat → Nat) (lt : Nat → Nat → Bool) (r : Nat) (rows back : Nat → Nat) : Prop where
  falls : ∀ i, fall n lt i = true → rows (rank n lt i) = i
  last : rows (rank n lt n) = n
  rises : ∀ i, i < n → fall n lt i = false → r ≤ rank n lt (i + 1) → rows (rank n lt i) = i
  le : ∀ p, p ≤ n → rows p ≤ n
  backs : ∀ c, back c + (cn (n + 1) fun j => decide (L j = c) && (decide (j < n) && (!fall n lt j && decide (r ≤ rank n lt (j + 1))))) = backOf n L c

theorem Down.here (o : Ord n L lt) {r : Nat} {rows back : Nat → Nat} (d : Down n L lt (r + 1) rows back) {i : Nat} (hi : i ≤ n) (hp : rank n lt i = r) : rows r = i := by
  cases hf : fall n lt i
  · by_cases e : i = n
    · subst e; rw [← hp]; exact d.last
    · have h1 := o.rank_lt (i := i) (j := i + 1) hi (o.not_fall (by omega) hf)
      rw [← hp]; exact d.rises i (by omega) hf (by omega)
  · rw [← hp]; exact d.falls i hf

/-- each row is some end's -/
theorem Ord.onto (o : Ord n L lt) {r : Nat} (hr : r ≤ n) : ∃ i, i ≤ n ∧ rank n lt i = r := by
  by_cases h : ∃ i, i ≤ n ∧ rank n lt i = r
  · exact h
  · exfalso
    have hno : ∀ i, i ≤ n → ¬ rank n lt i = r := fun i hi e => h ⟨i, hi, e⟩
    clear h
    -- an injection of n + 1 numbers into n
    have inj : ∀ (m : Nat) (f : Nat → Nat), (∀ i j, i < m + 1 → j < m + 1 → f i = f j → i = j) → (∀ i, i < m + 1 → f i < m) → False := by
      intro m
      induction m with
      | zero => intro f _ hb; have := hb 0 (by omega); omega
      | succ m ih =>
        intro f hi hb
        -- the last one's value is given to whoever has the greatest
        apply ih (fun i => if f i = m then f (m + 1) else f i)
        · intro i j hii hjj e
          by_cases e1 : f i = m
          · by_cases e2 : f j = m
            · exact hi i j (by omega) (by omega) (by omega)
            · simp [e1, e2] at e
              have := hi (m + 1) j (by omega) (by omega) e
              omega
          · by_cases e2 : f j = m
            · simp [e1, e2] at e
              have := hi i (m + 1) (by omega) (by omega) e
              omega
            · simp [e1, e2] at e
              exact hi i j (by omega) (by omega) e
        · intro i hii
          have h1 := hb i (by omega)
          have h2 := hb (m + 1) (by omega)
          by_cases e1 : f i = m
          · simp [e1]
            by_cases e2 : f (m + 1) = m
            · have := hi i (m + 1) (by omega) (by omega) (by omega); omega
            · omega
          · simp [e1]; omega
    apply inj n (fun i => if rank n lt i < r then rank n lt i else rank n lt i - 1)
    · intro i j hi hj e
      have h1 := hno i (by omega)
      have h2 := hno j (by omega)
      apply o.rank_inj (by omega) (by omega)
      by_cases e1 : rank n lt i < r <;> by_cases e2 : rank n lt j < r <;> simp [e1, e2] at e <;> omega
    · intro i hi
      have h1 := hno i (by omega)
      have h2 := o.rank_le (i := i) (by omega)
      by_cases e1 : rank n lt i < r <;> simp [e1] <;> omega

theorem Down.skip (o : Ord n L lt) {r : Nat} {rows back : Nat → Nat} (d : Down n L lt (r + 1) rows back) (h : rows r = 0 ∨ fall n lt (rows r - 1) = true) : Down n L lt r rows back := by
  have key : ∀ i, i < n → fall n lt i = false → ¬ rank n lt (i + 1) = r := by
    intro i hi hf he
    have h1 := d.here o (i := i + 1) (by omega) he
    rcases h with h | h
    · omega
    · rw [h1] at h; simp [hf] at h
  refine ⟨d.falls, d.last, ?_, d.le, ?_⟩
  · intro i hi hf hp
    exact d.rises i hi hf (by have := key i hi hf; omega)
  · intro c
    rw [← d.backs c]
    congr 1
    apply cn_congr
    intro j _
    by_cases hjn : j < n
    · cases hj : fall n lt j
      · have := key j hjn hj
        have e : decide (r ≤ rank n lt (j + 1)) = decide (r + 1 ≤ rank n lt (j + 1)) := by
          apply decide_eq_decide.2; omega
        rw [e]
      · simp
    · simp [hjn]

theorem Down.place (o : Ord n L lt) {r : Nat} {rows back : Nat → Nat} (d : Down n L lt (r + 1) rows back) (hr : r ≤ n) (h0 : rows r ≠ 0) (hf : fall n lt (rows r - 1) = false) :
    back (L (rows r - 1)) = rank n lt (rows r - 1) + 1 := by
  obtain ⟨i, hi, hp⟩ := o.onto hr
  have hv := d.here o hi hp
  have h1 := d.backs (L (rows r - 1))
  have h2 := o.rank_rise (i := rows r - 1) (by have := d.le r hr; omega) hf
  have hbn : rows r - 1 < n := by have := d.le r hr; omega
  have e : (cn (n + 1) fun j => decide (L j = L (rows r - 1)) && (decide (j < n) && (!fall n lt j && decide (r + 1 ≤ rank n lt (j + 1)))))
      = (cn (n + 1) fun j => decide (L j = L (rows r - 1)) && (!fall n lt j && lt (rows r - 1) j)) := by
    apply cn_congr
    intro j hj
    by_cases hl : L j = L (rows r - 1)
    · have hjn : j < n := by
        by_cases e : j = n
        · subst e; rw [o.Ln] at hl; have := o.Lpos _ hbn; omega
        · omega
      have e1 := o.step hbn hjn hl.symm
      have e2 : rows r - 1 + 1 = rows r := by omega
      rw [e2] at e1
      have e3 := o.rank_lt_iff (i := rows r) (j := j + 1) (by omega) (by omega)
      rw [hv, hp] at e3
      have e4 : decide (r + 1 ≤ rank n lt (j + 1)) = lt (rows r - 1) j := by
        rw [e1, hv]; cases hx : lt i (j + 1)
        · simp; rw [hx] at e3; simp at e3; omega
        · simp; have := e3.1 hx; omega
      rw [e4]; simp [hjn]
    · simp [hl]
  omega

theorem Down.lay (o : Ord n L lt) {r : Nat} {rows back : Nat → Nat} (d : Down n L lt (r + 1) rows back) (hr : r ≤ n) (h0 : rows r ≠ 0) (hf : fall n lt (rows r - 1) = false) :
    Down n L lt r (put rows (back (L (rows r - 1)) - 1) (rows r - 1)) (put back (L (rows r - 1)) (back (L (rows r - 1)) - 1)) := by
  have hpl := d.place o hr h0 hf
  obtain ⟨i, hi, hp⟩ := o.onto hr
  have hv := d.here o hi hp
  have hbn : rows r - 1 < n := by have := d.le r hr; omega
  generalize hb : rows r - 1 = b at *
  have hrb : i = b + 1 := by omega
  have hplace : back (L b) - 1 = rank n lt b := by omega
  rw [hplace]
  refine ⟨?_, ?_, ?_, ?_, ?_⟩
  · intro j hj
    unfold put
    split
    · rename_i e
      exact (o.rank_inj (by have := fall_lt hj; omega) (by omega) e).symm
    · exact d.falls j hj
  · unfold put
    split
    · rename_i e
      exact (o.rank_inj (by omega) (by omega) e).symm
    · exact d.last
  · intro j hj hfj hpj
    unfold put
    split
    · rename_i e
      exact (o.rank_inj (by omega) (by omega) e).symm
    · rename_i e
      apply d.rises j hj hfj
      by_cases e2 : rank n lt (j + 1) = r
      · have := o.rank_inj (i := j + 1) (j := i) (by omega) hi (by omega)
        have : j = b := by omega
        rw [this] at e; exact absurd rfl e
      · omega
  · intro p hpn
    unfold put
    split
    · omega
    · exact d.le p hpn
  · intro c
    have hx : ∀ j, j < n → (rank n lt (j + 1) = r ↔ j = b) := by
      intro j hj
      constructor
      · intro e
        have := o.rank_inj (i := j + 1) (j := i) (by omega) hi (by omega)
        omega
      · intro e
        subst e; rw [← hrb]; exact hp
    unfold put
    split
    · rename_i e
      subst e
      have h1 := d.backs (L b)
      have h2 : (cn (n + 1) fun j => decide (L j = L b) && (decide (j < n) && (!fall n lt j && decide (r ≤ rank n lt (j + 1)))))
          = (cn (n + 1) fun j => decide (L j = L b) && (decide (j < n) && (!fall n lt j && decide (r + 1 ≤ rank n lt (j + 1))))) + 1 := by
        apply cn_plus_one (a := b) (by omega)
        intro j hj
        by_cases hjb : j = b
        · subst hjb
          have := (hx j hbn).2 rfl
          simp [hf, this, hbn]
        · have hjb' : (j == b) = false := by simp [hjb]
          by_cases hjn : j < n
          · have h1 := hx j hjn
            have e : decide (r ≤ rank n lt (j + 1)) = decide (r + 1 ≤ rank n lt (j + 1)) := by
              apply decide_eq_decide.2; omega
            simp [hjb', e]
          · simp [hjb', hjn]
      omega
    · rename_i e
      rw [← d.backs c]
      congr 1
      apply cn_congr
      intro j hj
      by_cases hjb : j = b
      · subst hjb; simp [show ¬ L j = c from fun h => e h.symm]
      · by_cases hjn : j < n
        · have h1 := hx j hjn
          have e : decide (r ≤ rank n lt (j + 1)) = decide (r + 1 ≤ rank n lt (j + 1)) := by
            apply decide_eq_decide.2; omega
          rw [e]
        · simp [hjn]

/-- all rows are met: the rows are the ends in their order -/
theorem Down.done (o : Ord n L lt) {rows back : Nat → Nat} (d : Down n L lt 0 rows back) {i : Nat} (hi : i ≤ n) : rows (rank n lt i) = i := by
  cases hf : fall n lt i
  · by_cases e : i = n
    · subst e; exact d.last
    · exact d.rises i (by omega) hf (by omega)
  · exact d.falls i hf

theorem Down.sorted (o : Ord n L lt) {rows back : Nat → Nat} (d : Down n L lt 0 rows back) {p q : Nat} (hpq : p < q) (hq : q ≤ n) : rows p ≤ n ∧ rows q ≤ n ∧ lt (rows p) (rows q) = true := by
  obtain ⟨i, hi, hpi⟩ := o.onto (r := p) (by omega)
  obtain ⟨j, hj, hqj⟩ := o.onto (r := q) hq
  have h1 := d.done o hi
  have h2 := d.done o hj
  rw [hpi] at h1; rw [hqj] at h2
  rw [h1, h2]
  exact ⟨hi, hj, (o.rank_lt_iff hi hj).2 (by omega)⟩

theorem Ord.rank_last (o : Ord n L lt) : rank n lt n = 0 := by
  unfold rank
  apply cn_zero
  intro j hj
  by_cases e : j = n
  · subst e; exact o.irr j
  · exact o.more (by omega) (by omega) (by rw [o.Ln]; exact o.Lpos j (by omega))

/-- from the way up to the way down -/
theorem Up.down (o : Ord n L lt) {rows front back : Nat → Nat} (u : Up n L lt (n + 1) rows front) (hb : ∀ c, back c = backOf n L c) : Down n L lt (n + 1) rows back := by
  have hvn : val n lt n = true := by unfold val; simp
  refine ⟨?_, ?_, ?_, ?_, ?_⟩
  · intro i hi
    exact u.falls i hi (by have := o.pos_le (met_succ hi); omega)
  · have h1 := u.vals n hvn
    have h2 : vpos n L lt n = 0 := by
      have h3 := o.vpos_lt_back hvn
      have h4 : backOf n L (L n) ≤ 1 := by
        rw [o.Ln, backOf_eq, frontOf_succ, frontOf_zero]
        have : (cn (n + 1) fun j => decide (L j = 0)) = cn (n + 1) fun j => j == n := by
          apply cn_congr
          intro j hj
          by_cases e : j = n
          · subst e; simp [o.Ln]
          · have := o.Lpos j (by omega)
            have e' : (j == n) = false := by simp [e]
            rw [e']; simp; omega
        rw [this, cn_one _ _ (by omega)]; omega
      omega
    rw [h2] at h1; rw [o.rank_last]; exact h1
  · intro i hi _ hp
    have := o.rank_le (i := i + 1) (by omega); omega
  · intro p hp; exact u.le hp
  · intro c
    rw [hb c]
    have : (cn (n + 1) fun j => decide (L j = c) && (decide (j < n) && (!fall n lt j && decide (n + 1 ≤ rank n lt (j + 1))))) = 0 := by
      apply cn_zero
      intro j hj
      by_cases e : j < n
      · have := o.rank_le (i := j + 1) (by omega)
        have e2 : decide (n + 1 ≤ rank n lt (j + 1)) = false := by simp; omega
        simp [e2]
      · simp [e]
    omega

/-! ### the valleys -/

/-- behind k of the sorted valleys V -/
structure Vals (n : Nat) (L : Nat → Nat) (lt : Nat → Nat → Bool) (V : List Nat) (k : Nat) (rows mid : Nat → Nat) : Prop where
  laid : ∀ i, i ∈ V.take k → rows (vpos n L lt i) = i
  only : ∀ p, p ≤ n → rows p = 0 ∨ (val n lt (rows p) = true ∧ vpos n L lt (rows p) = p)
  mids : ∀ c, mid c = midOf n L lt c + (V.take k).countP fun i => decide (L i = c)

/-- the valleys, sorted -/
structure SortedVals (n : Nat) (lt : Nat → Nat → Bool) (V : List Nat) : Prop where
  perm : V.Perm ((List.range (n + 1)).filter (val n lt))
  sorted : V.Pairwise fun a b => lt a b = true

theorem SortedVals.mem {V : List Nat} (s : SortedVals n lt V) {i : Nat} : i ∈ V ↔ val n lt i = true := by
  rw [s.perm.mem_iff, List.mem_filter, List.mem_range]
  constructor
  · exact fun h => h.2
  · intro h; have := val_le h; exact ⟨by omega, h⟩

theorem Vals.place (o : Ord n L lt) {V : List Nat} (s : SortedVals n lt V) {k : Nat} {rows mid : Nat → Nat} (v : Vals n L lt V k rows mid) {i : Nat} (hi : V[k]? = some i) : mid (L i) = vpos n L lt i := by
  rw [v.mids]
  unfold vpos
  congr 1
  have e : (cn (n + 1) fun j => val n lt j && (decide (L j = L i) && lt j i)) = V.countP fun j => decide (L j = L i) && lt j i := by
    rw [cn_countP, s.perm.countP_eq, List.countP_filter]
    apply List.countP_congr
    intro x _
    simp [and_comm]
  rw [e]
  have hk : k < V.length := by
    rcases List.getElem?_eq_some_iff.1 hi with ⟨h, _⟩; exact h
  have hVk : V[k] = i := by
    rcases List.getElem?_eq_some_iff.1 hi with ⟨_, h⟩; exact h
  have hsplit : V = V.take k ++ i :: V.drop (k + 1) := by
    rw [← hVk, ← List.drop_eq_getElem_cons hk, List.take_append_drop]
  have hs := s.sorted
  rw [hsplit, List.pairwise_append] at hs
  obtain ⟨_, hs2, hs3⟩ := hs
  rw [List.pairwise_cons] at hs2
  conv => rhs; rw [hsplit]
  rw [List.countP_append, List.countP_cons]
  have h1 : (List.countP (fun j => decide (L j = L i) && lt j i) (V.take k)) = List.countP (fun j => decide (L j = L i)) (V.take k) := by
    apply List.countP_congr
    intro x hx
    have := hs3 x hx i (by simp)
    simp [this]
  have h2 : (List.countP (fun j => decide (L j = L i) && lt j i) (V.drop (k + 1))) = 0 := by
    rw [List.countP_eq_zero]
    intro x hx
    have := o.asym (hs2.1 x hx)
    simp [this]
  rw [h1, h2]; simp [o.irr]

theorem Vals.lay (o : Ord n L lt) {V : List Nat} (s : SortedVals n lt V) {k : Nat} {rows mid : Nat → Nat} (v : Vals n L lt V k rows mid) {i : Nat} (hi : V[k]? = some i) :
    Vals n L lt V (k + 1) (put rows (mid (L i)) i) (put mid (L i) (mid (L i) + 1)) := by
  have hpl := v.place o s hi
  have hk : k < V.length := by
    rcases List.getElem?_eq_some_iff.1 hi with ⟨h, _⟩; exact h
  have hVk : V[k] = i := by
    rcases List.getElem?_eq_some_iff.1 hi with ⟨_, h⟩; exact h
  have htake : V.take (k + 1) = V.take k ++ [i] := by
    rw [List.take_succ_eq_append_getElem hk, hVk]
  have hiv : val n lt i = true := s.mem.1 (by rw [← hVk]; exact List.getElem_mem hk)
  have hmi : met n lt i = true := by unfold met; simp [hiv]
  rw [hpl]
  refine ⟨?_, ?_, ?_⟩
  · intro j hj
    unfold put
    split
    · rename_i e
      have hjv : val n lt j = true := s.mem.1 (List.mem_of_mem_take hj)
      have hmj : met n lt j = true := by unfold met; simp [hjv]
      exact (o.pos_inj hmj hmi (by rw [pos_val hjv, pos_val hiv, e])).symm
    · rename_i e
      rw [htake, List.mem_append] at hj
      rcases hj with hj | hj
      · exact v.laid j hj
      · simp at hj; subst hj; exact absurd rfl e
  · intro p hp
    unfold put
    split
    · rename_i e; right; exact ⟨hiv, e.symm⟩
    · exact v.only p hp
  · intro c
    rw [htake, List.countP_append]
    unfold put
    split
    · rename_i e; subst e; simp; rw [← hpl, v.mids]; omega
    · rename_i e
      have : ¬ L i = c := fun h => e h.symm
      rw [v.mids]; simp [this]

theorem Vals.up {V : List Nat} (s : SortedVals n lt V) {rows mid front : Nat → Nat} (v : Vals n L lt V V.length rows mid) (hf : ∀ c, front c = frontOf n L c) : Up n L lt 0 rows front := by
  refine ⟨?_, ?_, ?_, ?_⟩
  · intro i hi; exact v.laid i (by rw [List.take_length]; exact s.mem.2 hi)
  · intro i _ h; omega
  · intro p hp
    rcases v.only p hp with h | ⟨h1, h2⟩
    · left; exact h
    · right; exact ⟨by unfold met; simp [h1], by rw [pos_val h1]; exact h2⟩
  · intro c
    rw [hf c, cn_zero]
    · omega
    · intro j _; simp

theorem Vals.start (V : List Nat) {rows mid : Nat → Nat} (hr : ∀ p, rows p = 0) (hm : ∀ c, mid c = midOf n L lt c) : Vals n L lt V 0 rows mid :=
  ⟨fun i h => by simp at h, fun p _ => Or.inl (hr p), fun c => by rw [hm]; simp⟩

end
end Cc

namespace Go.Proofs.YtopihgmemnokkaaGreat

/-- three rows of numbers as one, cell by cell -/
def sh3 (F M B : Nat → Nat) (k : Nat) : Nat := if k % 3 = 0 then F (k / 3) else if k % 3 = 1 then M (k / 3) else B (k / 3)

theorem sh3_0 (F M B : Nat → Nat) (c : Nat) : sh3 F M B (c * 3) = F c := by
  unfold sh3; rw [if_pos (by omega), show c * 3 / 3 = c from by omega]
theorem sh3_1 (F M B : Nat → Nat) (c : Nat) : sh3 F M B (c * 3 + 1) = M c := by
  unfold sh3; rw [if_neg (by omega), if_pos (by omega), show (c * 3 + 1) / 3 = c from by omega]
theorem sh3_2 (F M B : Nat → Nat) (c : Nat) : sh3 F M B (c * 3 + 2) = B c := by
  unfold sh3; rw [if_neg (by omega), if_neg (by omega), show (c * 3 + 2) / 3 = c from by omega]

theorem three (k : Nat) : k = k / 3 * 3 ∨ k = k / 3 * 3 + 1 ∨ k = k / 3 * 3 + 2 := by omega

theorem sh3_put0 (F M B : Nat → Nat) (c v k : Nat) : Cc.put (sh3 F M B) (c * 3) v k = sh3 (Cc.put F c v) M B k := by
  rcases three k with h | h | h <;> generalize k / 3 = d at h <;> subst h
  · rw [sh3_0]
    by_cases e : d = c
    · subst e; rw [Cc.put_same, Cc.put_same]
    · rw [Cc.put_other _ _ (by omega), Cc.put_other _ _ e, sh3_0]
  · rw [sh3_1, Cc.put_other _ _ (by omega), sh3_1]
  · rw [sh3_2, Cc.put_other _ _ (by omega), sh3_2]
theorem sh3_put1 (F M B : Nat → Nat) (c v k : Nat) : Cc.put (sh3 F M B) (c * 3 + 1) v k = sh3 F (Cc.put M c v) B k := by
  rcases three k with h | h | h <;> generalize k / 3 = d at h <;> subst h
  · rw [sh3_0, Cc.put_other _ _ (by omega), sh3_0]
  · rw [sh3_1]
    by_cases e : d = c
    · subst e; rw [Cc.put_same, Cc.put_same]
    · rw [Cc.put_other _ _ (by omega), Cc.put_other _ _ e, sh3_1]
  · rw [sh3_2, Cc.put_other _ _ (by omega), sh3_2]
theorem sh3_put2 (F M B : Nat → Nat) (c v k : Nat) : Cc.put (sh3 F M B) (c * 3 + 2) v k = sh3 F M (Cc.put B c v) k := by
  rcases three k with h | h | h <;> generalize k / 3 = d at h <;> subst h
  · rw [sh3_0, Cc.put_other _ _ (by omega), sh3_0]
  · rw [sh3_1, Cc.put_other _ _ (by omega), sh3_1]
  · rw [sh3_2]
    by_cases e : d = c
    · subst e; rw [Cc.put_same, Cc.put_same]
    · rw [Cc.put_other _ _ (by omega), Cc.put_other _ _ e, sh3_2]

def shPart (F M B : Nat → Nat) (p k : Nat) : Nat := if k < 3 * p then sh3 F M B k else 0

theorem shPart_step (F M B : Nat → Nat) (p k : Nat) : Cc.put (Cc.put (Cc.put (shPart F M B p) (p * 3) (F p)) (p * 3 + 1) (M p)) (p * 3 + 2) (B p) k = shPart F M B (p + 1) k := by
  by_cases h2 : k = p * 3 + 2
  · subst h2; rw [Cc.put_same]; unfold shPart; rw [if_pos (by omega), sh3_2]
  · rw [Cc.put_other _ _ h2]
    by_cases h1 : k = p * 3 + 1
    · subst h1; rw [Cc.put_same]; unfold shPart; rw [if_pos (by omega), sh3_1]
    · rw [Cc.put_other _ _ h1]
      by_cases h0 : k = p * 3
      · subst h0; rw [Cc.put_same]; unfold shPart; rw [if_pos (by omega), sh3_0]
      · rw [Cc.put_other _ _ h0]
        unfold shPart
        by_cases h : k < 3 * p
        · rw [if_pos h, if_pos (by omega)]
        · rw [if_neg h, if_neg (by omega)]
theorem shPart_all (F M B : Nat → Nat) {k : Nat} (hk : k < 771) : shPart F M B 257 k = sh3 F M B k := by
  unfold shPart; rw [if_pos (by omega)]

end Go.Proofs.YtopihgmemnokkaaGreat

namespace Go.Proofs.YtopihgmemnokkaaGreat

/-- a text's bytes, as numbers -/
def BY (s : ByteArray) (k : Nat) : Nat := if h : k < s.size then s[k].toNat else 0

theorem BY_lt (s : ByteArray) {k : Nat} (h : k < s.size) : BY s k = s[k].toNat := by unfold BY; simp [h]
theorem BY_le (s : ByteArray) (k : Nat) : BY s k ≤ 255 := by
  unfold BY; split
  · have := UInt8.toNat_lt s[k]; omega
  · omega

end Go.Proofs.YtopihgmemnokkaaGreat

namespace Cc

theorem cn_le_bound {k k' : Nat} (h : k ≤ k') (P : Nat → Bool) : cn k P ≤ cn k' P := by
  induction k' with
  | zero => have : k = 0 := by omega
            subst this; exact Nat.le_refl _
  | succ k' ih =>
    by_cases e : k = k' + 1
    · subst e; exact Nat.le_refl _
    · have := ih (by omega); simp only [cn]; omega

theorem cn_lt_bound {k k' : Nat} (h : k < k') {P : Nat → Bool} (hp : P k = true) : cn k P < cn k' P := by
  have h1 := cn_le_bound (k := k + 1) (k' := k') (by omega) P
  simp only [cn, hp, Bool.toNat_true] at h1
  omega

/-- no n + 1 numbers that differ lie below n -/
theorem pigeon : ∀ (m : Nat) (f : Nat → Nat), (∀ i j, i < m + 1 → j < m + 1 → f i = f j → i = j) → (∀ i, i < m + 1 → f i < m) → False := by
  intro m
  induction m with
  | zero => intro f _ hb; have := hb 0 (by omega); omega
  | succ m ih =>
    intro f hi hb
    apply ih (fun i => if f i = m then f (m + 1) else f i)
    · intro i j hii hjj e
      by_cases e1 : f i = m
      · by_cases e2 : f j = m
        · exact hi i j (by omega) (by omega) (by omega)
        · simp [e1, e2] at e
          have := hi (m + 1) j (by omega) (by omega) e
          omega
      · by_cases e2 : f j = m
        · simp [e1, e2] at e
          have := hi i (m + 1) (by omega) (by omega) e
          omega
        · simp [e1, e2] at e
          exact hi i j (by omega) (by omega) e
    · intro i hii
      have h1 := hb i (by omega)
      have h2 := hb (m + 1) (by omega)
      by_cases e1 : f i = m
      · simp [e1]
        by_cases e2 : f (m + 1) = m
        · have := hi i (m + 1) (by omega) (by omega) (by omega); omega
        · omega
      · simp [e1]; omega

/-- what is one to one among n numbers meets them all -/
theorem onto_of_inj {n : Nat} {f : Nat → Nat} (hi : ∀ i j, i < n → j < n → f i = f j → i = j) (hb : ∀ i, i < n → f i < n) {p : Nat} (hp : p < n) : ∃ i, i < n ∧ f i = p := by
  by_cases h : ∃ i, i < n ∧ f i = p
  · exact h
  · exfalso
    have hno : ∀ i, i < n → ¬ f i = p := fun i hi e => h ⟨i, hi, e⟩
    obtain ⟨m, rfl⟩ : ∃ m, n = m + 1 := ⟨n - 1, by omega⟩
    apply pigeon m (fun i => if f i < p then f i else f i - 1)
    · intro i j h1 h2 e
      have n1 := hno i h1
      have n2 := hno j h2
      apply hi i j h1 h2
      by_cases e1 : f i < p <;> by_cases e2 : f j < p <;> simp [e1, e2] at e <;> omega
    · intro i h1
      have n1 := hno i h1
      have b1 := hb i h1
      by_cases e1 : f i < p <;> simp [e1] <;> omega

theorem mono_id {n : Nat} {g : Nat → Nat} (hm : ∀ i j, i < j → j < n → g i < g j) (hb : ∀ i, i < n → g i < n) : ∀ i, i < n → g i = i := by
  have up : ∀ i, i < n → i ≤ g i := by
    intro i
    induction i with
    | zero => intro _; omega
    | succ i ih => intro h; have h1 := ih (by omega); have h2 := hm i (i + 1) (by omega) h; omega
  have down : ∀ d i, i + d + 1 = n → g i + d + 1 ≤ n := by
    intro d
    induction d with
    | zero => intro i h; have := hb i (by omega); omega
    | succ d ih => intro i h; have h1 := ih (i + 1) (by omega); have h2 := hm i (i + 1) (by omega) (by omega); omega
  intro i h
  have h1 := up i h
  have h2 := down (n - i - 1) i (by omega)
  omega

/-- two numberings in one order are one -/
theorem uniq {n : Nat} {f g : Nat → Nat} (fi : ∀ i j, i < n → j < n → f i = f j → i = j) (fb : ∀ i, i < n → f i < n) (gb : ∀ i, i < n → g i < n)
    (hm : ∀ i j, i < n → j < n → f i < f j → g i < g j) {a : Nat} (ha : a < n) : f a = g a := by
  have key : ∀ v, v < n → ∃ i, i < n ∧ f i = v := fun v hv => onto_of_inj fi fb hv
  let h : Nat → Nat := fun v => if hv : v < n then g (key v hv).choose else 0
  have hh : ∀ i, i < n → h (f i) = g i := by
    intro i hi
    have hf := fb i hi
    have hc := (key (f i) hf).choose_spec
    have : (key (f i) hf).choose = i := fi _ _ hc.1 hi hc.2
    simp only [h, hf, dite_true, this]
  have hid := mono_id (n := n) (g := h) (by
    intro u v huv hv
    obtain ⟨i, hi, rfl⟩ := key u (by omega)
    obtain ⟨j, hj, rfl⟩ := key v hv
    rw [hh i hi, hh j hj]; exact hm i j hi hj huv) (by
    intro v hv
    obtain ⟨i, hi, rfl⟩ := key v hv
    rw [hh i hi]; exact gb i hi)
  have := hid (f a) (fb a ha)
  rw [hh a ha] at this
  exact this.symm

/-- counting does not hang on the order -/
theorem cn_inj_le : ∀ (n m : Nat) (σ : Nat → Nat) (P : Nat → Bool), (∀ i j, i < n → j < n → σ i = σ j → i = j) → (∀ i, i < n → σ i < m) → cn n (fun i => P (σ i)) ≤ cn m P := by
  intro n
  induction n with
  | zero => intro m σ P _ _; simp [cn]
  | succ n ih =>
    intro m σ P hi hb
    have hlt := hb n (by omega)
    have h1 := ih m σ (fun x => P x && !(x == σ n)) (fun i j h1 h2 => hi i j (by omega) (by omega)) (fun i h => hb i (by omega))
    have h2 : cn n (fun i => P (σ i) && !(σ i == σ n)) = cn n (fun i => P (σ i)) := by
      apply cn_congr
      intro i hin
      have : ¬ σ i = σ n := fun e => by have := hi i n (by omega) (by omega) e; omega
      have : (σ i == σ n) = false := by simp [this]
      simp [this]
    rw [h2] at h1
    simp only [cn]
    cases hp : P (σ n)
    · have : cn m (fun x => P x && !(x == σ n)) ≤ cn m P := cn_mono (fun i _ h => by simp at h; exact h.1)
      simp; omega
    · have : cn m P = cn m (fun x => P x && !(x == σ n)) + 1 := by
        apply cn_plus_one hlt
        intro i _
        by_cases e : i = σ n
        · subst e; simp [hp]
        · have e' : (i == σ n) = false := by simp [e]
          simp [e']
      simp; omega

theorem cn_perm {n : Nat} {σ : Nat → Nat} (P : Nat → Bool) (hi : ∀ i j, i < n → j < n → σ i = σ j → i = j) (hb : ∀ i, i < n → σ i < n) : cn n (fun i => P (σ i)) = cn n P := by
  have h1 := cn_inj_le n n σ P hi hb
  have h2 := cn_inj_le n n σ (fun x => !P x) hi hb
  have e1 : cn n (fun _ => true) = cn n P + cn n (fun x => !P x) := cn_add (fun i _ => by cases P i <;> simp)
  have e2 : cn n (fun _ => true) = cn n (fun i => P (σ i)) + cn n (fun i => !P (σ i)) := cn_add (fun i _ => by cases P (σ i) <;> simp)
  omega

/-- of a row, which byte of the turned text is its -/
def ks (row p : Nat) : Nat := if row < p then p - 1 else p
/-- and back -/
def un (row k : Nat) : Nat := if k < row then k else k + 1

theorem un_ks {row p : Nat} (h : p ≠ row) : un row (ks row p) = p := by
  unfold un ks
  by_cases e : row < p
  · rw [if_pos e, if_neg (by omega)]; omega
  · rw [if_neg e, if_pos (by omega)]
theorem ks_un (row k : Nat) : ks row (un row k) = k := by
  unfold un ks
  by_cases e : k < row
  · rw [if_pos e, if_neg (by omega)]
  · rw [if_neg e, if_pos (by omega)]; omega
theorem un_ne (row k : Nat) : un row k ≠ row := by
  unfold un
  by_cases e : k < row
  · rw [if_pos e]; omega
  · rw [if_neg e]; omega
theorem un_lt {row k k' : Nat} (h : k < k') : un row k < un row k' := by
  unfold un
  by_cases e : k < row <;> by_cases e' : k' < row <;> simp [e, e'] <;> omega
theorem ks_lt {row p n : Nat} (hp : p ≤ n) (h : p ≠ row) (hr : row ≤ n) : ks row p < n := by
  unfold ks
  by_cases e : row < p
  · rw [if_pos e]; omega
  · rw [if_neg e]; omega
theorem un_le {row k n : Nat} (hk : k < n) : un row k ≤ n := by
  unfold un
  by_cases e : k < row
  · rw [if_pos e]; omega
  · rw [if_neg e]; omega
theorem ks_mono {row p q : Nat} (hp : p ≠ row) (hq : q ≠ row) (h : ks row p < ks row q) : p < q := by
  have := un_lt (row := row) h
  rw [un_ks hp, un_ks hq] at this; exact this

/-- of a byte of a turned text, the row of the end that begins with it -/
def lead (n : Nat) (b : Nat → Nat) (k : Nat) : Nat := 1 + cn n (fun j => decide (b j < b k)) + cn k (fun j => decide (b j = b k))

theorem lead_step (n : Nat) (b : Nat → Nat) {k k' : Nat} (hk : k < n) (h : b k < b k') : lead n b k < lead n b k' := by
  unfold lead
  have h1 : cn k (fun j => decide (b j = b k)) < cn n (fun j => decide (b j = b k)) := cn_lt_bound hk (by simp)
  have h2 : cn n (fun j => decide (b j < b k) || decide (b j = b k)) = cn n (fun j => decide (b j < b k)) + cn n (fun j => decide (b j = b k)) := by
    apply cn_add
    intro i _
    by_cases e : b i < b k
    · simp [e, show ¬ b i = b k from by omega]
    · simp [e]
  have h3 : cn n (fun j => decide (b j < b k) || decide (b j = b k)) ≤ cn n (fun j => decide (b j < b k')) := cn_mono (fun i _ hi => by
    simp at hi ⊢; omega)
  omega
theorem lead_same (n : Nat) (b : Nat → Nat) {k k' : Nat} (h : b k = b k') (hl : k < k') : lead n b k < lead n b k' := by
  unfold lead
  rw [h]
  have h1 : cn k (fun j => decide (b j = b k')) < cn k' (fun j => decide (b j = b k')) := cn_lt_bound hl (by simp [h])
  omega
theorem lead_lt {n : Nat} {b : Nat → Nat} {k k' : Nat} (hk : k < n) (h : lead n b k' < lead n b k) (hk' : k' < n) : b k' < b k ∨ (b k' = b k ∧ k' < k) := by
  by_cases e : b k' < b k
  · exact .inl e
  · by_cases e2 : b k < b k'
    · have := lead_step n b hk e2; omega
    · right
      refine ⟨by omega, ?_⟩
      by_cases e3 : k < k'
      · have := lead_same n b (k := k) (k' := k') (by omega) e3; omega
      · by_cases e4 : k = k'
        · subst e4; omega
        · omega
theorem lead_inj {n : Nat} {b : Nat → Nat} {k k' : Nat} (hk : k < n) (hk' : k' < n) (h : lead n b k = lead n b k') : k = k' := by
  by_cases e : k = k'
  · exact e
  · by_cases e1 : b k < b k'
    · have := lead_step n b hk e1; omega
    · by_cases e2 : b k' < b k
      · have := lead_step n b hk' e2; omega
      · by_cases e3 : k < k'
        · have := lead_same n b (k := k) (k' := k') (by omega) e3; omega
        · have := lead_same n b (k := k') (k' := k) (by omega) (by omega); omega
theorem lead_pos (n : Nat) (b : Nat → Nat) (k : Nat) : 1 ≤ lead n b k := by unfold lead; omega
theorem lead_le {n : Nat} {b : Nat → Nat} {k : Nat} (hk : k < n) : lead n b k ≤ n := by
  unfold lead
  have h1 : cn k (fun j => decide (b j = b k)) < cn n (fun j => decide (b j = b k)) := cn_lt_bound hk (by simp)
  have h2 : cn n (fun j => decide (b j < b k) || decide (b j = b k)) = cn n (fun j => decide (b j < b k)) + cn n (fun j => decide (b j = b k)) := by
    apply cn_add
    intro i _
    by_cases e : b i < b k
    · simp [e, show ¬ b i = b k from by omega]
    · simp [e]
  have h3 := cn_le n (fun j => decide (b j < b k) || decide (b j = b k))
  omega

/-- the rows that are met, from the empty end on -/
def trail (n : Nat) (b : Nat → Nat) (row : Nat) : Nat → Nat
  | 0 => 0
  | m + 1 => lead n b (ks row (trail n b row m))

/-- the whole text's row is not met too soon -/
def Takes (n : Nat) (b : Nat → Nat) (row : Nat) : Prop := row ≤ n ∧ ∀ m, m < n → trail n b row m ≠ row

section
variable {n : Nat} {b : Nat → Nat} {row : Nat}

theorem trail_le (hr : row ≤ n) : ∀ m, (∀ j, j < m → trail n b row j ≠ row) → trail n b row m ≤ n
  | 0, _ => Nat.zero_le _
  | m + 1, h => by
    have h1 := trail_le hr m (fun j hj => h j (by omega))
    exact lead_le (ks_lt h1 (h m (by omega)) hr)

theorem Takes.le (t : Takes n b row) {m : Nat} (hm : m ≤ n) : trail n b row m ≤ n := trail_le t.1 m (fun j hj => t.2 j (by omega))

theorem Takes.inj (t : Takes n b row) : ∀ i d, i + d ≤ n → trail n b row i = trail n b row (i + d) → d = 0
  | 0, d, _, h => by
    cases d with
    | zero => rfl
    | succ d =>
      have := lead_pos n b (ks row (trail n b row d))
      rw [Nat.zero_add] at h
      simp only [trail] at h; omega
  | i + 1, d, hd, h => by
    rw [show i + 1 + d = (i + d) + 1 from by omega] at h
    simp only [trail] at h
    have n1 := t.2 i (by omega)
    have n2 := t.2 (i + d) (by omega)
    have h1 := lead_inj (ks_lt (t.le (by omega)) n1 t.1) (ks_lt (t.le (by omega)) n2 t.1) h
    have h2 := congrArg (un row) h1
    rw [un_ks n1, un_ks n2] at h2
    exact t.inj i d (by omega) h2

theorem Takes.inj' (t : Takes n b row) {i j : Nat} (hi : i < n + 1) (hj : j < n + 1) (h : trail n b row i = trail n b row j) : i = j := by
  by_cases e : i ≤ j
  · have := t.inj i (j - i) (by omega) (by rw [h]; congr 1; omega); omega
  · have := t.inj j (i - j) (by omega) (by rw [← h]; congr 1; omega); omega

theorem Takes.last (t : Takes n b row) : trail n b row n = row := by
  obtain ⟨i, hi, h⟩ := onto_of_inj (n := n + 1) (f := trail n b row) (fun i j => t.inj') (fun i hi => by have := t.le (m := i) (by omega); omega) (p := row) (by have := t.1; omega)
  by_cases e : i < n
  · exact absurd h (t.2 i e)
  · have : i = n := by omega
    rw [this] at h; exact h

variable {L : Nat → Nat} {lt : Nat → Nat → Bool}

/-- the rows that are met stand as the ends do -/
theorem Takes.order (t : Takes n b row) (o : Ord n L lt) (hL : ∀ m, m < n → L (n - 1 - m) = b (ks row (trail n b row m)) + 1) :
    ∀ (i j : Nat), i ≤ n → j ≤ n → trail n b row i < trail n b row j → lt (n - i) (n - j) = true
  | 0, j, _, hj, h => by
    have : j ≠ 0 := fun e => by subst e; omega
    apply o.less _ _ (by omega) (by omega)
    rw [Nat.sub_zero, o.Ln]
    exact o.Lpos _ (by omega)
  | i + 1, 0, _, _, h => by simp [trail] at h
  | i + 1, j + 1, hi, hj, h => by
    simp only [trail] at h
    have n1 := t.2 i (by omega)
    have n2 := t.2 j (by omega)
    have k1 := ks_lt (t.le (m := i) (by omega)) n1 t.1
    have k2 := ks_lt (t.le (m := j) (by omega)) n2 t.1
    have e1 := hL i (by omega)
    have e2 := hL j (by omega)
    rw [show n - 1 - i = n - (i + 1) from by omega] at e1
    rw [show n - 1 - j = n - (j + 1) from by omega] at e2
    rcases lead_lt k2 h k1 with c | ⟨c, c'⟩
    · exact o.less _ _ (by omega) (by omega) (by omega)
    · rw [o.recur (n - (i + 1)) (n - (j + 1)) (by omega) (by omega) (by omega)]
      rw [show n - (i + 1) + 1 = n - i from by omega, show n - (j + 1) + 1 = n - j from by omega]
      exact t.order o hL i j (by omega) (by omega) (ks_mono n1 n2 c')

theorem Takes.rank (t : Takes n b row) (o : Ord n L lt) (hL : ∀ m, m < n → L (n - 1 - m) = b (ks row (trail n b row m)) + 1) {m : Nat} (hm : m ≤ n) : Cc.rank n lt (n - m) = trail n b row m := by
  symm
  apply uniq (n := n + 1) (f := trail n b row) (g := fun m => Cc.rank n lt (n - m)) (fun i j => t.inj') (fun i hi => by have := t.le (m := i) (by omega); omega)
    (fun i _ => by have := o.rank_le (i := n - i) (by omega); omega) ?_ (a := m) (by omega)
  intro i j hi hj h
  exact o.rank_lt (by omega) (t.order o hL i j (by omega) (by omega) h)

/-- what is taken is what is made of it -/
theorem Takes.made (t : Takes n b row) (o : Ord n L lt) (hL : ∀ m, m < n → L (n - 1 - m) = b (ks row (trail n b row m)) + 1) {rows : Nat → Nat} (hrows : ∀ i, i ≤ n → rows (Cc.rank n lt i) = i) :
    Cc.rank n lt 0 = row ∧ ∀ k, k < n → rows (un row k) ≠ 0 ∧ rows (un row k) ≤ n ∧ L (rows (un row k) - 1) = b k + 1 := by
  have h0 := t.rank o hL (m := n) (Nat.le_refl _)
  rw [Nat.sub_self, t.last] at h0
  refine ⟨h0, fun k hk => ?_⟩
  obtain ⟨m, hm, hp⟩ := onto_of_inj (n := n + 1) (f := trail n b row) (fun i j => t.inj') (fun i hi => by have := t.le (m := i) (by omega); omega) (p := un row k) (by have := un_le (row := row) hk; omega)
  have hne := un_ne row k
  have hmn : m < n := by
    by_cases e : m < n
    · exact e
    · have : m = n := by omega
      subst this; rw [t.last] at hp; exact absurd hp.symm hne
  have h1 := hrows (n - m) (by omega)
  rw [t.rank o hL (m := m) (by omega), hp] at h1
  rw [h1]
  refine ⟨by omega, by omega, ?_⟩
  have h2 := hL m hmn
  rw [hp, ks_un] at h2
  rw [show n - m - 1 = n - 1 - m from by omega]; exact h2

/-- a turned text is turned back -/
theorem back (o : Ord n L lt) {rows : Nat → Nat} (hrows : ∀ i, i ≤ n → rows (Cc.rank n lt i) = i)
    (hb : ∀ k, k < n → b k + 1 = L (rows (un (Cc.rank n lt 0) k) - 1)) : ∀ m, m ≤ n → trail n b (Cc.rank n lt 0) m = Cc.rank n lt (n - m) := by
  have hr0 := o.rank_le (i := 0) (by omega)
  -- of each row: its place
  have place : ∀ k, k < n → ∃ i, i < n ∧ un (Cc.rank n lt 0) k = Cc.rank n lt (i + 1) ∧ b k + 1 = L i := by
    intro k hk
    obtain ⟨j, hj, hp⟩ := o.onto (r := un (Cc.rank n lt 0) k) (un_le hk)
    have hj0 : j ≠ 0 := fun e => by subst e; exact un_ne _ _ hp.symm
    refine ⟨j - 1, by omega, by rw [← hp]; congr 1; omega, ?_⟩
    rw [hb k hk, ← hp, hrows j hj]
  have hlead : ∀ k, k < n → ∀ i, i < n → un (Cc.rank n lt 0) k = Cc.rank n lt (i + 1) → lead n b k = Cc.rank n lt i := by
    intro k hk i hi hu
    -- both number the bytes in one order
    let g : Nat → Nat := fun k => if hk : k < n then Cc.rank n lt (place k hk).choose - 1 else 0
    have gval : ∀ k i, k < n → i < n → un (Cc.rank n lt 0) k = Cc.rank n lt (i + 1) → g k = Cc.rank n lt i - 1 := by
      intro k i hk hi hu
      have hc := (place k hk).choose_spec
      have : (place k hk).choose = i := by
        have := o.rank_inj (i := (place k hk).choose + 1) (j := i + 1) (by omega) (by omega) (by rw [← hc.2.1, hu])
        omega
      simp only [g, hk, dite_true, this]
    have rpos : ∀ i, i < n → 1 ≤ Cc.rank n lt i := by
      intro i hi
      have := o.rank_lt (i := n) (j := i) (by omega) (o.less _ _ (by omega) (by omega) (by rw [o.Ln]; exact o.Lpos i hi))
      omega
    have hu2 := uniq (n := n) (f := fun k => lead n b k - 1) (g := g)
      (fun x y hx hy e => lead_inj (b := b) hx hy (by have e' : lead n b x - 1 = lead n b y - 1 := e; have := lead_pos n b x; have := lead_pos n b y; omega))
      (fun x hx => by have := lead_pos n b x; have := lead_le (b := b) hx; omega)
      (fun x hx => by
        obtain ⟨i, hi, h1, _⟩ := place x hx
        rw [gval x i hx hi h1]
        have := rpos i hi; have := o.rank_le (i := i) (by omega); omega)
      (by
        intro x y hx hy hlt
        obtain ⟨i, hi, h1, h2⟩ := place x hx
        obtain ⟨j, hj, h3, h4⟩ := place y hy
        rw [gval x i hx hi h1, gval y j hy hj h3]
        have p1 := rpos i hi
        have p2 := rpos j hj
        have q1 := lead_pos n b x
        have hlt' : lead n b x < lead n b y := by omega
        have : lt i j = true := by
          rcases lead_lt hy hlt' hx with c | ⟨c, c'⟩
          · exact o.less _ _ (by omega) (by omega) (by omega)
          · rw [o.recur i j hi hj (by omega)]
            rw [o.rank_lt_iff (by omega) (by omega), ← h1, ← h3]
            exact un_lt c'
        have := o.rank_lt (i := i) (j := j) (by omega) this
        omega) hk
    rw [gval k i hk hi hu] at hu2
    have := lead_pos n b k
    have := rpos i hi
    have hu3 : lead n b k - 1 = Cc.rank n lt i - 1 := hu2
    omega
  intro m
  induction m with
  | zero => intro _; rw [Nat.sub_zero, o.rank_last]; rfl
  | succ m ih =>
    intro hm
    have h := ih (by omega)
    simp only [trail]
    rw [h]
    have hne : Cc.rank n lt (n - m) ≠ Cc.rank n lt 0 := fun e => by
      have := o.rank_inj (i := n - m) (j := 0) (by omega) (by omega) e; omega
    apply hlead _ (ks_lt (o.rank_le (by omega)) hne hr0) (n - (m + 1)) (by omega)
    rw [un_ks hne]; congr 1; omega

theorem back_takes (o : Ord n L lt) {rows : Nat → Nat} (hrows : ∀ i, i ≤ n → rows (Cc.rank n lt i) = i)
    (hb : ∀ k, k < n → b k + 1 = L (rows (un (Cc.rank n lt 0) k) - 1)) : Takes n b (Cc.rank n lt 0) ∧ ∀ m, m < n → L (n - 1 - m) = b (ks (Cc.rank n lt 0) (trail n b (Cc.rank n lt 0) m)) + 1 := by
  have hr0 := o.rank_le (i := 0) (by omega)
  have h := back o hrows hb
  have hne : ∀ m, m < n → trail n b (Cc.rank n lt 0) m ≠ Cc.rank n lt 0 := fun m hm e => by
    rw [h m (by omega)] at e
    have := o.rank_inj (i := n - m) (j := 0) (by omega) (by omega) e; omega
  refine ⟨⟨hr0, hne⟩, fun m hm => ?_⟩
  have hne' : Cc.rank n lt (n - m) ≠ Cc.rank n lt 0 := by rw [← h m (by omega)]; exact hne m hm
  rw [h m (by omega), hb _ (ks_lt (o.rank_le (by omega)) hne' hr0), un_ks hne', hrows _ (by omega)]
  congr 1; omega

end
end Cc

namespace Cc

/-- of two lists that are sorted one -/
def mrg (lt : Nat → Nat → Bool) (A B : List Nat) : List Nat := A.merge B (fun x y => !lt y x)

theorem mrg_nil_left (lt : Nat → Nat → Bool) (B : List Nat) : mrg lt [] B = B := by simp [mrg]
theorem mrg_nil_right (lt : Nat → Nat → Bool) (A : List Nat) : mrg lt A [] = A := by simp [mrg]
theorem mrg_cons (lt : Nat → Nat → Bool) (x y : Nat) (A B : List Nat) : mrg lt (x :: A) (y :: B) = if lt y x = false then x :: mrg lt A (y :: B) else y :: mrg lt (x :: A) B := by
  unfold mrg
  rw [List.cons_merge_cons]
  cases lt y x <;> simp
theorem mrg_perm (lt : Nat → Nat → Bool) (A B : List Nat) : (mrg lt A B).Perm (A ++ B) := List.merge_perm_append _
theorem mrg_length (lt : Nat → Nat → Bool) (A B : List Nat) : (mrg lt A B).length = A.length + B.length := by
  have := (mrg_perm lt A B).length_eq; simpa using this

section
variable {n : Nat} {L : Nat → Nat} {lt : Nat → Nat → Bool}

theorem mrg_sorted_aux (o : Ord n L lt) : ∀ (k : Nat) (A B : List Nat), A.length + B.length ≤ k → (∀ x, x ∈ A → x ≤ n) → (∀ x, x ∈ B → x ≤ n) → (∀ x, x ∈ A → ∀ y, y ∈ B → x ≠ y) →
    A.Pairwise (fun a b => lt a b = true) → B.Pairwise (fun a b => lt a b = true) → (mrg lt A B).Pairwise (fun a b => lt a b = true) := by
  intro k
  induction k with
  | zero =>
    intro A B h _ _ _ _ hB
    have : A = [] := List.length_eq_zero_iff.1 (by omega)
    subst this; rw [mrg_nil_left]; exact hB
  | succ k ih =>
    intro A B hk h1 h2 h3 hA hB
    cases A with
    | nil => rw [mrg_nil_left]; exact hB
    | cons x A =>
      cases B with
      | nil => rw [mrg_nil_right]; exact hA
      | cons y B =>
        simp only [List.length_cons] at hk
        rw [mrg_cons]
        have hA' := List.pairwise_cons.1 hA
        have hB' := List.pairwise_cons.1 hB
        cases h : lt y x
        · have hxy : lt x y = true := by
            rcases o.tri x y (h1 x (by simp)) (h2 y (by simp)) (h3 x (by simp) y (by simp)) with e | e
            · exact e
            · rw [h] at e; cases e
          rw [if_pos rfl, List.pairwise_cons]
          refine ⟨?_, ih A (y :: B) (by simp; omega) (fun z hz => h1 z (by simp [hz])) h2 (fun a ha b hb => h3 a (by simp [ha]) b hb) hA'.2 hB⟩
          intro z hz
          have hz' := (mrg_perm lt A (y :: B)).mem_iff.1 hz
          rw [List.mem_append] at hz'
          rcases hz' with hz' | hz'
          · exact hA'.1 z hz'
          · rw [List.mem_cons] at hz'
            rcases hz' with rfl | hz'
            · exact hxy
            · exact o.trans _ _ _ hxy (hB'.1 z hz')
        · rw [if_neg (by simp), List.pairwise_cons]
          refine ⟨?_, ih (x :: A) B (by simp; omega) h1 (fun z hz => h2 z (by simp [hz])) (fun a ha b hb => h3 a ha b (by simp [hb])) hA hB'.2⟩
          intro z hz
          have hz' := (mrg_perm lt (x :: A) B).mem_iff.1 hz
          rw [List.mem_append] at hz'
          rcases hz' with hz' | hz'
          · rw [List.mem_cons] at hz'
            rcases hz' with rfl | hz'
            · exact h
            · exact o.trans _ _ _ h (hA'.1 z hz')
          · exact hB'.1 z hz'

theorem mrg_sorted (o : Ord n L lt) {A B : List Nat} (h1 : ∀ x, x ∈ A → x ≤ n) (h2 : ∀ x, x ∈ B → x ≤ n) (h3 : ∀ x, x ∈ A → ∀ y, y ∈ B → x ≠ y)
    (hA : A.Pairwise (fun a b => lt a b = true)) (hB : B.Pairwise (fun a b => lt a b = true)) : (mrg lt A B).Pairwise (fun a b => lt a b = true) :=
  mrg_sorted_aux o _ A B (Nat.le_refl _) h1 h2 h3 hA hB

/-- each piece of so many is sorted -/
def Runs (lt : Nat → Nat → Bool) (size : Nat) (l : List Nat) : Prop := ∀ i j (hi : i < l.length) (hj : j < l.length), i < j → i / size = j / size → lt l[i] l[j] = true

/-- two pieces of a list in runs, merged, behind what is merged -/
theorem runs_step (o : Ord n L lt) {l out : List Nat} {size q : Nat} (hs : 0 < size) (hl : ∀ x, x ∈ l → x ≤ n) (hnd : l.Nodup) (hr : Runs lt size l) (hf : 2 * size * q < l.length)
    (hol : out.length = 2 * size * q) (hop : out.Perm (l.take (2 * size * q))) (hor : Runs lt (2 * size) out) (mid fin : Nat) (hm : mid = min (2 * size * q + size) l.length) (he : fin = min (2 * size * q + 2 * size) l.length) :
    (out ++ mrg lt ((l.drop (2 * size * q)).take (mid - 2 * size * q)) ((l.drop mid).take (fin - mid))).length = fin ∧
    (out ++ mrg lt ((l.drop (2 * size * q)).take (mid - 2 * size * q)) ((l.drop mid).take (fin - mid))).Perm (l.take fin) ∧
    Runs lt (2 * size) (out ++ mrg lt ((l.drop (2 * size * q)).take (mid - 2 * size * q)) ((l.drop mid).take (fin - mid))) := by
  generalize hF : 2 * size * q = f at *
  have hfm : f ≤ mid := by omega
  have hme : mid ≤ fin := by omega
  have hel : fin ≤ l.length := by omega
  have hA : ((l.drop f).take (mid - f)).length = mid - f := by simp; omega
  have hB : ((l.drop mid).take (fin - mid)).length = fin - mid := by simp; omega
  have hpA : ((l.drop f).take (mid - f)).Pairwise (fun a b => lt a b = true) := by
    rw [List.pairwise_iff_getElem]
    intro i j hi hj hij
    rw [hA] at hi hj
    simp only [List.getElem_take, List.getElem_drop]
    apply hr _ _ _ _ (by omega)
    have e1 : (f + i) / size = 2 * q := by
      rw [← hF, Nat.mul_comm 2 size, Nat.mul_assoc, Nat.mul_add_div hs, Nat.div_eq_of_lt (by omega)]; omega
    have e2 : (f + j) / size = 2 * q := by
      rw [← hF, Nat.mul_comm 2 size, Nat.mul_assoc, Nat.mul_add_div hs, Nat.div_eq_of_lt (by omega)]; omega
    rw [e1, e2]
  have hpB : ((l.drop mid).take (fin - mid)).Pairwise (fun a b => lt a b = true) := by
    rw [List.pairwise_iff_getElem]
    intro i j hi hj hij
    rw [hB] at hi hj
    have hmid : mid = f + size := by omega
    simp only [List.getElem_take, List.getElem_drop]
    apply hr _ _ _ _ (by omega)
    have e0 : mid = size * (2 * q + 1) := by rw [hmid, ← hF, Nat.mul_add, Nat.mul_one, ← Nat.mul_assoc, Nat.mul_comm size 2]
    have e1 : (mid + i) / size = 2 * q + 1 := by
      rw [e0, Nat.mul_add_div hs, Nat.div_eq_of_lt (by omega)]
    have e2 : (mid + j) / size = 2 * q + 1 := by
      rw [e0, Nat.mul_add_div hs, Nat.div_eq_of_lt (by omega)]
    rw [e1, e2]
  have hsplit : l.take fin = l.take f ++ ((l.drop f).take (mid - f) ++ (l.drop mid).take (fin - mid)) := by
    have h1 : l.take fin = l.take mid ++ (l.drop mid).take (fin - mid) := by
      rw [← List.take_add]; congr 1; omega
    have h2 : l.take mid = l.take f ++ (l.drop f).take (mid - f) := by
      rw [← List.take_add]; congr 1; omega
    rw [h1, h2, List.append_assoc]
  have hndT : (l.take fin).Nodup := hnd.sublist (List.take_sublist _ _)
  rw [hsplit] at hndT
  have hdis : ∀ x, x ∈ (l.drop f).take (mid - f) → ∀ y, y ∈ (l.drop mid).take (fin - mid) → x ≠ y := by
    have := (List.nodup_append.1 hndT).2.1
    exact (List.nodup_append.1 this).2.2
  have hms := mrg_sorted o (A := (l.drop f).take (mid - f)) (B := (l.drop mid).take (fin - mid))
    (fun x hx => hl x (List.mem_of_mem_drop (List.mem_of_mem_take hx))) (fun x hx => hl x (List.mem_of_mem_drop (List.mem_of_mem_take hx))) hdis hpA hpB
  have hml := mrg_length lt ((l.drop f).take (mid - f)) ((l.drop mid).take (fin - mid))
  have hmp := mrg_perm lt ((l.drop f).take (mid - f)) ((l.drop mid).take (fin - mid))
  generalize mrg lt ((l.drop f).take (mid - f)) ((l.drop mid).take (fin - mid)) = M at *
  rw [hA, hB] at hml
  refine ⟨by rw [List.length_append]; omega, ?_, ?_⟩
  · rw [hsplit]; exact hop.append hmp
  · intro i j hi hj hij hq
    rw [List.length_append] at hi hj
    have ediv : ∀ x, f ≤ x → x < fin → x / (2 * size) = q := by
      intro x h1 h2
      have : x = 2 * size * q + (x - f) := by omega
      rw [this, Nat.mul_add_div (by omega), Nat.div_eq_of_lt (by omega)]; omega
    by_cases h1 : j < out.length
    · rw [List.getElem_append_left (by omega), List.getElem_append_left h1]
      exact hor i j (by omega) h1 hij hq
    · by_cases h2 : i < out.length
      · exfalso
        rw [ediv j (by omega) (by omega)] at hq
        have : i / (2 * size) < q := by
          rw [Nat.div_lt_iff_lt_mul (by omega), Nat.mul_comm]; omega
        omega
      · rw [List.getElem_append_right (by omega), List.getElem_append_right (by omega)]
        exact (List.pairwise_iff_getElem.1 hms) _ _ (by omega) (by omega) (by omega)

/-- a list of all places in one run is the ends in their order -/
theorem runs_done (o : Ord n L lt) {l : List Nat} {size : Nat} (hl : l.length = n + 1) (hle : ∀ x, x ∈ l → x ≤ n) (hr : Runs lt size l) (hs : n + 1 ≤ size) {p : Nat} (hp : p < l.length) : rank n lt l[p] = p := by
  have h := mono_id (n := n + 1) (g := fun p => if h : p < l.length then rank n lt l[p] else 0) (by
    intro i j hij hj
    have hi' : i < l.length := by omega
    have hj' : j < l.length := by omega
    simp only [hi', hj', dite_true]
    apply o.rank_lt (hle _ (List.getElem_mem _))
    exact hr i j hi' hj' hij (by rw [Nat.div_eq_of_lt (by omega), Nat.div_eq_of_lt (by omega)])) (by
    intro i hi
    have hi' : i < l.length := by omega
    simp only [hi', dite_true]
    have := o.rank_le (hle _ (List.getElem_mem hi')); omega) p (by omega)
  simpa [hp] using h

theorem runs_one (l : List Nat) : Runs lt 1 l := by
  intro i j _ _ hij h
  rw [Nat.div_one, Nat.div_one] at h; omega

end
end Cc

namespace Cc

/-- how many have been laid when byte c is sought from place k on -/
def mo (n : Nat) (b : Nat → Nat) (c k : Nat) : Nat := cn n (fun j => decide (b j < c)) + cn k (fun j => decide (b j = c))

theorem mo_lead (n : Nat) (b : Nat → Nat) (k : Nat) : mo n b (b k) k = lead n b k - 1 := by unfold mo lead; omega
theorem mo_hit {n : Nat} {b : Nat → Nat} {c k : Nat} (h : b k = c) : mo n b c (k + 1) = mo n b c k + 1 := by
  unfold mo; simp only [cn]; simp [h]; omega
theorem mo_miss {n : Nat} {b : Nat → Nat} {c k : Nat} (h : b k ≠ c) : mo n b c (k + 1) = mo n b c k := by
  unfold mo; simp only [cn]; simp [h]
theorem mo_next (n : Nat) (b : Nat → Nat) (c : Nat) : mo n b c n = mo n b (c + 1) 0 := by
  unfold mo
  simp only [cn, Nat.add_zero]
  symm
  apply cn_add
  intro i _
  by_cases e : b i < c
  · simp [e, show ¬ b i = c from by omega, show b i < c + 1 from by omega]
  · by_cases e2 : b i = c
    · simp [e2]
    · simp [e, e2, show ¬ b i < c + 1 from by omega]
theorem mo_zero (n : Nat) (b : Nat → Nat) : mo n b 0 0 = 0 := by
  unfold mo; simp only [cn, Nat.add_zero]; exact cn_zero fun i _ => by simp
theorem mo_end {n : Nat} {b : Nat → Nat} (h : ∀ j, b j ≤ 255) : mo n b 256 0 = n := by
  unfold mo; simp only [cn, Nat.add_zero]
  rw [cn_congr (Q := fun _ => true) (fun i _ => by have := h i; simp; omega), cn_true]
theorem mo_le {n : Nat} {b : Nat → Nat} {c k : Nat} (hk : k ≤ n) : mo n b c k ≤ n := by
  have h1 : cn n (fun j => decide (b j < c) || decide (b j = c)) = cn n (fun j => decide (b j < c)) + cn n (fun j => decide (b j = c)) := by
    apply cn_add
    intro i _
    by_cases e : b i < c
    · simp [e, show ¬ b i = c from by omega]
    · simp [e]
  have h2 := cn_le n (fun j => decide (b j < c) || decide (b j = c))
  have h3 := cn_le_bound hk (fun j => decide (b j = c))
  unfold mo; omega

/-- which place has a row's first byte -/
def kAt (n : Nat) (b : Nat → Nat) (i : Nat) : Nat := ((List.range n).find? fun k => lead n b k == i + 1).getD 0

theorem kAt_lead {n : Nat} {b : Nat → Nat} {k : Nat} (hk : k < n) : kAt n b (lead n b k - 1) = k := by
  have hp := lead_pos n b k
  unfold kAt
  rw [show lead n b k - 1 + 1 = lead n b k from by omega]
  cases hf : (List.range n).find? fun j => lead n b j == lead n b k with
  | none =>
    rw [List.find?_eq_none] at hf
    have := hf k (by rw [List.mem_range]; omega)
    simp at this
  | some j =>
    have h1 := List.find?_some hf
    have h2 := List.mem_of_find?_eq_some hf
    rw [List.mem_range] at h2
    simp at h1
    simp
    exact lead_inj h2 hk h1

theorem kAt_lt {n : Nat} {b : Nat → Nat} {i : Nat} (hi : i < n) : kAt n b i < n := by
  unfold kAt
  cases hf : (List.range n).find? fun j => lead n b j == i + 1 with
  | none => simp; omega
  | some j =>
    have h2 := List.mem_of_find?_eq_some hf
    rw [List.mem_range] at h2
    simpa using h2

/-- the rows that are met forward, from the whole text on -/
def ft (n : Nat) (b : Nat → Nat) (row : Nat) : Nat → Nat
  | 0 => row
  | i + 1 => un row (kAt n b (ft n b row i - 1))

theorem ft_le {n : Nat} {b : Nat → Nat} {row : Nat} (hr : row ≤ n) : ∀ i, (∀ j, j < i → ft n b row j ≠ 0) → ft n b row i ≤ n
  | 0, _ => hr
  | i + 1, h => by
    have h1 := ft_le hr i (fun j hj => h j (by omega))
    have h2 := h i (by omega)
    exact un_le (kAt_lt (by omega))

theorem Takes.fore {n : Nat} {b : Nat → Nat} {row : Nat} (t : Takes n b row) : ∀ i, i ≤ n → ft n b row i = trail n b row (n - i)
  | 0, _ => by rw [Nat.sub_zero, t.last]; rfl
  | i + 1, h => by
    have h1 := t.fore i (by omega)
    have h2 : trail n b row (n - i) = lead n b (ks row (trail n b row (n - (i + 1)))) := by
      rw [show n - i = (n - (i + 1)) + 1 from by omega]; rfl
    have h3 := t.2 (n - (i + 1)) (by omega)
    have h4 := t.le (m := n - (i + 1)) (by omega)
    show un row (kAt n b (ft n b row i - 1)) = _
    rw [h1, h2, kAt_lead (ks_lt h4 h3 t.1), un_ks h3]

theorem Takes.fore_byte {n : Nat} {b : Nat → Nat} {row : Nat} (t : Takes n b row) {i : Nat} (hi : i < n) : ft n b row i ≠ 0 ∧ kAt n b (ft n b row i - 1) = ks row (trail n b row (n - 1 - i)) := by
  have h1 := t.fore i (by omega)
  have h2 : trail n b row (n - i) = lead n b (ks row (trail n b row (n - 1 - i))) := by
    rw [show n - i = (n - 1 - i) + 1 from by omega]; rfl
  have h3 := t.2 (n - 1 - i) (by omega)
  have h4 := t.le (m := n - 1 - i) (by omega)
  have h5 := lead_pos n b (ks row (trail n b row (n - 1 - i)))
  rw [h1, h2]
  exact ⟨by omega, kAt_lead (ks_lt h4 h3 t.1)⟩

end Cc

namespace Hf

/-- trees of bytes -/
inductive T where
  | leaf (c : Nat)
  | node (l r : T)

def wt (f : Nat → Nat) : T → Nat
  | .leaf c => f c
  | .node l r => wt f l + wt f r
def least : T → Nat
  | .leaf c => c
  | .node l r => min (least l) (least r)
def bytes : T → List Nat
  | .leaf c => [c]
  | .node l r => bytes l ++ bytes r
def ht : T → Nat
  | .leaf _ => 0
  | .node l r => max (ht l) (ht r) + 1
def cost (f : Nat → Nat) : T → Nat
  | .leaf _ => 0
  | .node l r => cost f l + cost f r + wt f l + wt f r
def kid (f : Nat → Nat) : T → Nat
  | .leaf _ => 0
  | .node l r => max (wt f l) (wt f r)
def good (f : Nat → Nat) : T → Prop
  | .leaf _ => True
  | .node l r => good f l ∧ good f r ∧ kid f l ≤ wt f r ∧ kid f r ≤ wt f l

theorem least_mem : ∀ t : T, least t ∈ bytes t
  | .leaf c => by simp [least, bytes]
  | .node l r => by
    have h1 := least_mem l
    have h2 := least_mem r
    simp only [least, bytes, List.mem_append]
    rcases Nat.le_total (least l) (least r) with h | h
    · rw [Nat.min_eq_left h]; exact .inl h1
    · rw [Nat.min_eq_right h]; exact .inr h2
theorem least_le : ∀ (t : T) (c : Nat), c ∈ bytes t → least t ≤ c
  | .leaf d, c, h => by simp [bytes] at h; subst h; exact Nat.le_refl _
  | .node l r, c, h => by
    simp only [bytes, List.mem_append] at h
    simp only [least]
    rcases h with h | h
    · have := least_le l c h; omega
    · have := least_le r c h; omega

/-- a tree goes ahead of another -/
def lt (f : Nat → Nat) (a b : T) : Bool := decide (wt f a < wt f b) || (decide (wt f a = wt f b) && decide (least a < least b))

theorem lt_iff (f : Nat → Nat) (a b : T) : lt f a b = true ↔ wt f a < wt f b ∨ (wt f a = wt f b ∧ least a < least b) := by simp [lt]
theorem lt_trans {f : Nat → Nat} {a b c : T} (h1 : lt f a b = true) (h2 : lt f b c = true) : lt f a c = true := by
  rw [lt_iff] at *; omega
theorem lt_le {f : Nat → Nat} {a b : T} (h : lt f a b = true) : wt f a ≤ wt f b := by rw [lt_iff] at h; omega
theorem not_lt_le {f : Nat → Nat} {a b : T} (h : lt f a b = false) : wt f b ≤ wt f a := by
  have : ¬ (lt f a b = true) := by rw [h]; simp
  rw [lt_iff] at this; omega
theorem lt_total {f : Nat → Nat} {a b : T} (h : least a ≠ least b) (h2 : lt f a b = false) : lt f b a = true := by
  have : ¬ (lt f a b = true) := by rw [h2]; simp
  rw [lt_iff] at *; omega

/-- in order -/
def Srt (f : Nat → Nat) (l : List T) : Prop := l.Pairwise fun a b => lt f a b = true

/-- a tree is put where it belongs -/
def put (f : Nat → Nat) (x : T) (l : List T) : List T := l.take (l.countP fun y => lt f y x) ++ x :: l.drop (l.countP fun y => lt f y x)

theorem put_cons (f : Nat → Nat) (x y : T) (l : List T) (h : lt f y x = true) : put f x (y :: l) = y :: put f x l := by
  unfold put
  rw [List.countP_cons_of_pos (p := fun z => lt f z x) h]; rfl
theorem put_head (f : Nat → Nat) (x y : T) (l : List T) (hs : Srt f (y :: l)) (h : lt f y x = false) : put f x (y :: l) = x :: y :: l := by
  unfold put
  have h0 : (y :: l).countP (fun z => lt f z x) = 0 := by
    rw [List.countP_eq_zero]
    intro z hz
    simp only [List.mem_cons] at hz
    rcases hz with rfl | hz
    · rw [h]; simp
    · intro hz2
      have := (List.pairwise_cons.1 hs).1 z hz
      rw [lt_trans this hz2] at h; cases h
  rw [h0]; rfl
theorem put_nil (f : Nat → Nat) (x : T) : put f x [] = [x] := rfl

theorem put_perm (f : Nat → Nat) (x : T) (l : List T) : (put f x l).Perm (x :: l) := by
  unfold put
  have h := List.perm_middle (a := x) (l₁ := l.take (l.countP fun y => lt f y x)) (l₂ := l.drop (l.countP fun y => lt f y x))
  rw [List.take_append_drop] at h
  exact h
theorem put_length (f : Nat → Nat) (x : T) (l : List T) : (put f x l).length = l.length + 1 := by rw [(put_perm f x l).length_eq]; rfl
theorem put_mem {f : Nat → Nat} {x : T} {l : List T} {z : T} (h : z ∈ put f x l) : z = x ∨ z ∈ l := by
  have := (put_perm f x l).mem_iff.1 h
  simpa using this

theorem put_srt {f : Nat → Nat} {x : T} : ∀ {l : List T}, Srt f l → (∀ y ∈ l, least y ≠ least x) → Srt f (put f x l)
  | [], _, _ => by rw [put_nil]; exact List.pairwise_singleton _ _
  | y :: l, hs, hd => by
    have hs2 := List.pairwise_cons.1 hs
    cases h : lt f y x
    · rw [put_head f x y l hs h]
      have hxy := lt_total (hd y (by simp)) h
      refine List.pairwise_cons.2 ⟨?_, hs⟩
      intro z hz
      simp only [List.mem_cons] at hz
      rcases hz with rfl | hz
      · exact hxy
      · exact lt_trans hxy (hs2.1 z hz)
    · rw [put_cons f x y l h]
      refine List.pairwise_cons.2 ⟨?_, put_srt hs2.2 (fun z hz => hd z (by simp [hz]))⟩
      intro z hz
      rcases put_mem hz with rfl | hz
      · exact h
      · exact hs2.1 z hz

/-- all trees as one: always the two that go first -/
def joinN (f : Nat → Nat) : Nat → List T → T
  | 0, [] => .leaf 0
  | 0, a :: _ => a
  | _ + 1, [] => .leaf 0
  | _ + 1, [a] => a
  | n + 1, a :: b :: l => joinN f n (put f (.node a b) l)
def join (f : Nat → Nat) (l : List T) : T := joinN f l.length l
theorem join_step (f : Nat → Nat) (a b : T) (l : List T) : join f (a :: b :: l) = join f (put f (.node a b) l) := by
  unfold join
  simp only [List.length_cons, joinN]
  rw [put_length]
theorem join_one (f : Nat → Nat) (a : T) : join f [a] = a := rfl

/-- what is kept while trees are put together -/
structure Inv (f : Nat → Nat) (l : List T) : Prop where
  srt : Srt f l
  pos : ∀ t ∈ l, ∀ c ∈ bytes t, 0 < f c
  nd : (l.flatMap bytes).Nodup
  gd : ∀ t ∈ l, good f t
  kd : ∀ t ∈ l, ∀ u ∈ l, kid f t ≤ wt f u

theorem wt_pos {f : Nat → Nat} : ∀ t : T, (∀ c ∈ bytes t, 0 < f c) → 0 < wt f t
  | .leaf c, h => h c (by simp [bytes])
  | .node l r, h => by
    have := wt_pos l (fun c hc => h c (by simp [bytes, hc]))
    simp only [wt]; omega

theorem nd_least {l : List T} {a b : T} (h : (a :: l).flatMap bytes |>.Nodup) (hb : b ∈ l) : ∀ c ∈ bytes a, c ∉ bytes b := by
  intro c hc hcb
  rw [List.flatMap_cons, List.nodup_append] at h
  exact h.2.2 c hc c (List.mem_flatMap.2 ⟨b, hb, hcb⟩) rfl

theorem flat_perm {l m : List T} (h : l.Perm m) : (l.flatMap bytes).Perm (m.flatMap bytes) := h.flatMap_right bytes

theorem step_perm (f : Nat → Nat) (a b : T) (l : List T) : ((put f (.node a b) l).flatMap bytes).Perm ((a :: b :: l).flatMap bytes) := by
  refine (flat_perm (put_perm f (.node a b) l)).trans ?_
  simp [bytes]

theorem Inv.step {f : Nat → Nat} {a b : T} {l : List T} (h : Inv f (a :: b :: l)) : Inv f (put f (.node a b) l) := by
  have hs1 := List.pairwise_cons.1 h.srt
  have hs2 := List.pairwise_cons.1 hs1.2
  have hab : wt f a ≤ wt f b := lt_le (hs1.1 b (by simp))
  have hbl : ∀ u ∈ l, wt f b ≤ wt f u := fun u hu => lt_le (hs2.1 u hu)
  have hndb : ((b :: l).flatMap bytes).Nodup := by
    have := h.nd; rw [List.flatMap_cons, List.nodup_append] at this; exact this.2.1
  refine ⟨put_srt hs2.2 ?_, ?_, ?_, ?_, ?_⟩
  · intro y hy e
    have hm := least_mem y
    have hx := least_mem (.node a b)
    rw [e] at hm
    simp only [bytes, List.mem_append] at hx
    rcases hx with hx | hx
    · exact nd_least h.nd (by simp [hy] : y ∈ b :: l) _ hx hm
    · exact nd_least hndb hy _ hx hm
  · intro t ht c hc
    rcases put_mem ht with rfl | ht
    · simp only [bytes, List.mem_append] at hc
      rcases hc with hc | hc
      · exact h.pos a (by simp) c hc
      · exact h.pos b (by simp) c hc
    · exact h.pos t (by simp [ht]) c hc
  · exact (step_perm f a b l).nodup_iff.2 h.nd
  · intro t ht
    rcases put_mem ht with rfl | ht
    · exact ⟨h.gd a (by simp), h.gd b (by simp), h.kd a (by simp) b (by simp), h.kd b (by simp) a (by simp)⟩
    · exact h.gd t (by simp [ht])
  · intro t ht u hu
    have hk : kid f (.node a b) = wt f b := by simp only [kid]; omega
    rcases put_mem ht with rfl | ht <;> rcases put_mem hu with rfl | hu
    · rw [hk]; simp only [wt]; omega
    · rw [hk]; exact hbl u hu
    · have := h.kd t (by simp [ht]) a (by simp)
      simp only [wt]; omega
    · exact h.kd t (by simp [ht]) u (by simp [hu])

theorem join_good {f : Nat → Nat} : ∀ (n : Nat) (l : List T), l.length = n + 1 → Inv f l → Inv f [join f l] ∧ (bytes (join f l)).Perm (l.flatMap bytes)
  | 0, [a], _, h => by rw [join_one]; exact ⟨h, by simp⟩
  | n + 1, a :: b :: l, hl, h => by
    rw [join_step]
    simp only [List.length_cons] at hl
    obtain ⟨h1, h2⟩ := join_good n (put f (.node a b) l) (by rw [put_length]; omega) h.step
    exact ⟨h1, h2.trans (step_perm f a b l)⟩
  | 0, [], h, _ => by simp at h
  | 0, _ :: _ :: _, h, _ => by simp at h
  | n + 1, [], h, _ => by simp at h
  | n + 1, [_], h, _ => by simp at h

/-- how much a tree of a height weighs at least -/
def fib : Nat → Nat
  | 0 => 1
  | 1 => 2
  | n + 2 => fib (n + 1) + fib n
theorem fib_pos : ∀ n, 0 < fib n
  | 0 => by simp [fib]
  | 1 => by simp [fib]
  | n + 2 => by have := fib_pos (n + 1); simp only [fib]; omega
theorem fib_mono : ∀ {a b : Nat}, a ≤ b → fib a ≤ fib b := by
  intro a b h
  induction b with
  | zero => have : a = 0 := by omega
            subst this; exact Nat.le_refl _
  | succ b ih =>
    by_cases e : a = b + 1
    · subst e; exact Nat.le_refl _
    · have h1 := ih (by omega)
      have h2 : fib b ≤ fib (b + 1) := by
        cases b with
        | zero => simp [fib]
        | succ b => simp only [fib]; omega
      omega
theorem fib_wt {f : Nat → Nat} : ∀ t : T, good f t → (∀ c ∈ bytes t, 0 < f c) → fib (ht t) ≤ wt f t ∧ (0 < ht t → fib (ht t - 1) ≤ kid f t)
  | .leaf c, _, h => ⟨h c (by simp [bytes]), fun h => by simp [ht] at h⟩
  | .node l r, hg, h => by
    obtain ⟨g1, g2, g3, g4⟩ := hg
    obtain ⟨a1, a2⟩ := fib_wt l g1 (fun c hc => h c (by simp [bytes, hc]))
    obtain ⟨b1, b2⟩ := fib_wt r g2 (fun c hc => h c (by simp [bytes, hc]))
    have p1 := fib_pos (ht r)
    have p2 := fib_pos (ht l)
    simp only [ht, wt, kid]
    rcases Nat.le_total (ht r) (ht l) with hh | hh
    · rw [Nat.max_eq_left hh]
      refine ⟨?_, fun _ => by simp only [Nat.add_sub_cancel]; omega⟩
      cases hl : ht l with
      | zero => rw [hl] at a1; simp only [fib] at *; omega
      | succ k =>
        have := a2 (by omega)
        rw [hl] at a1 this
        simp only [Nat.add_sub_cancel] at this
        simp only [fib]; omega
    · rw [Nat.max_eq_right hh]
      refine ⟨?_, fun _ => by simp only [Nat.add_sub_cancel]; omega⟩
      cases hl : ht r with
      | zero => rw [hl] at b1; simp only [fib] at *; omega
      | succ k =>
        have := b2 (by omega)
        rw [hl] at b1 this
        simp only [Nat.add_sub_cancel] at this
        simp only [fib]; omega
theorem ht_le {f : Nat → Nat} {t : T} (hg : good f t) (h : ∀ c ∈ bytes t, 0 < f c) (hw : wt f t ≤ 1000) : ht t ≤ 14 := by
  have h1 := (fib_wt t hg h).1
  rcases Nat.lt_or_ge (ht t) 15 with h2 | h2
  · omega
  · have := fib_mono h2
    have h3 : fib 15 = 1597 := by decide
    omega
theorem fib_two (n : Nat) : 2 * fib n ≤ fib (n + 2) := by
  have h := fib_mono (show n ≤ n + 1 by omega)
  simp only [fib]; omega
theorem fib_far (n : Nat) : ∀ k, 2 ^ k * fib n ≤ fib (n + 2 * k)
  | 0 => by simp
  | k + 1 => by
    have h1 := fib_far n k
    have h2 := fib_two (n + 2 * k)
    rw [show n + 2 * (k + 1) = n + 2 * k + 2 by omega, Nat.pow_succ, Nat.mul_comm (2 ^ k) 2, Nat.mul_assoc]; omega
theorem ht_leG {f : Nat → Nat} {t : T} (hg : good f t) (h : ∀ c ∈ bytes t, 0 < f c) (hw : wt f t ≤ 17000000) : ht t ≤ 42 := by
  have h1 := (fib_wt t hg h).1
  rcases Nat.lt_or_ge (ht t) 43 with h2 | h2
  · omega
  · have h4 := fib_mono h2
    have h3 : fib 15 = 1597 := by decide
    have h5 := fib_far 15 14
    rw [h3] at h5
    have h6 : (2 : Nat) ^ 14 * 1597 = 26165248 := by decide
    rw [h6] at h5
    have h7 : fib (15 + 2 * 14) = fib 43 := rfl
    rw [h7] at h5
    omega

end Hf

namespace Hf

/-- trees with lengths: how much room they take (of 2 ^ N), and what they cost -/
def kr (N : Nat) (P : List (T × Nat)) : Nat := (P.map fun p => 2 ^ (N - p.2)).sum
def cs (f : Nat → Nat) (P : List (T × Nat)) : Nat := (P.map fun p => cost f p.1 + wt f p.1 * p.2).sum

theorem kr_cons (N : Nat) (p : T × Nat) (P : List (T × Nat)) : kr N (p :: P) = 2 ^ (N - p.2) + kr N P := by simp [kr]
theorem cs_cons (f : Nat → Nat) (p : T × Nat) (P : List (T × Nat)) : cs f (p :: P) = cost f p.1 + wt f p.1 * p.2 + cs f P := by simp [cs]
theorem kr_put (N k : Nat) (x : T × Nat) (R : List (T × Nat)) : kr N (R.take k ++ x :: R.drop k) = 2 ^ (N - x.2) + kr N R := by
  have h : kr N R = kr N (R.take k) + kr N (R.drop k) := by
    unfold kr; rw [← List.sum_append, ← List.map_append, List.take_append_drop]
  rw [h]
  unfold kr; simp; omega
theorem cs_put (f : Nat → Nat) (k : Nat) (x : T × Nat) (R : List (T × Nat)) : cs f (R.take k ++ x :: R.drop k) = cost f x.1 + wt f x.1 * x.2 + cs f R := by
  have h : cs f R = cs f (R.take k) + cs f (R.drop k) := by
    unfold cs; rw [← List.sum_append, ← List.map_append, List.take_append_drop]
  rw [h]
  unfold cs; simp; omega

theorem swap_le {a c x z : Nat} (h1 : a ≤ c) (h2 : x ≤ z) : a * z + c * x ≤ a * x + c * z := by
  obtain ⟨e, rfl⟩ : ∃ e, c = a + e := ⟨c - a, by omega⟩
  obtain ⟨d, rfl⟩ : ∃ d, z = x + d := ⟨z - x, by omega⟩
  simp only [Nat.mul_add, Nat.add_mul]
  omega

theorem exch (f : Nat → Nat) (N : Nat) (a : T) : ∀ (R : List (T × Nat)) (x : Nat), (∀ p ∈ R, wt f a ≤ wt f p.1) →
    ∃ (x' : Nat) (R' : List (T × Nat)), R'.map Prod.fst = R.map Prod.fst ∧ (∀ p ∈ R', p.2 ≤ x') ∧ (∀ B, x ≤ B → (∀ p ∈ R, p.2 ≤ B) → x' ≤ B ∧ ∀ p ∈ R', p.2 ≤ B) ∧
      2 ^ (N - x') + kr N R' = 2 ^ (N - x) + kr N R ∧ wt f a * x' + cs f R' ≤ wt f a * x + cs f R
  | [], x, _ => ⟨x, [], rfl, by simp, fun B h _ => ⟨h, by simp⟩, rfl, Nat.le_refl _⟩
  | (c, z) :: R, x, h => by
    obtain ⟨x1, R1, e1, e2, e3, e4, e5⟩ := exch f N a R x (fun p hp => h p (by simp [hp]))
    have hc := h (c, z) (by simp)
    by_cases hz : z ≤ x1
    · refine ⟨x1, (c, z) :: R1, by simp [e1], ?_, ?_, ?_, ?_⟩
      · intro p hp
        simp only [List.mem_cons] at hp
        rcases hp with rfl | hp
        · exact hz
        · exact e2 p hp
      · intro B hx hB
        obtain ⟨b1, b2⟩ := e3 B hx (fun p hp => hB p (by simp [hp]))
        refine ⟨b1, fun p hp => ?_⟩
        simp only [List.mem_cons] at hp
        rcases hp with rfl | hp
        · exact hB (c, z) (by simp)
        · exact b2 p hp
      · rw [kr_cons, kr_cons]; omega
      · rw [cs_cons, cs_cons]; omega
    · refine ⟨z, (c, x1) :: R1, by simp [e1], ?_, ?_, ?_, ?_⟩
      · intro p hp
        simp only [List.mem_cons] at hp
        rcases hp with rfl | hp
        · simp only; omega
        · have := e2 p hp; omega
      · intro B hx hB
        obtain ⟨b1, b2⟩ := e3 B hx (fun p hp => hB p (by simp [hp]))
        refine ⟨hB (c, z) (by simp), fun p hp => ?_⟩
        simp only [List.mem_cons] at hp
        rcases hp with rfl | hp
        · exact b1
        · exact b2 p hp
      · rw [kr_cons, kr_cons]; simp only; omega
      · rw [cs_cons, cs_cons]
        have := swap_le hc (show x1 ≤ z by omega)
        simp only at *
        omega

theorem kr_dvd (N y : Nat) : ∀ (R : List (T × Nat)), (∀ p ∈ R, p.2 ≤ y) → y ≤ N → 2 ^ (N - y) ∣ kr N R
  | [], _, _ => by simp [kr]
  | p :: R, h, hy => by
    rw [kr_cons]
    refine Nat.dvd_add ?_ (kr_dvd N y R (fun q hq => h q (by simp [hq])) hy)
    have := h p (by simp)
    exact Nat.pow_dvd_pow 2 (by omega)

theorem room (N x y : Nat) (R : List (T × Nat)) (hR : ∀ p ∈ R, p.2 ≤ y) (hy : y ≤ x) (hx : x ≤ N) (hk : 2 ^ (N - x) + (2 ^ (N - y) + kr N R) ≤ 2 ^ N) : 2 ^ (N - y) + (2 ^ (N - y) + kr N R) ≤ 2 ^ N := by
  by_cases e : x = y
  · subst e; exact hk
  · have hp : 0 < 2 ^ (N - x) := Nat.pow_pos (by omega)
    obtain ⟨s, hs⟩ := Nat.dvd_add (Nat.dvd_refl (2 ^ (N - y))) (kr_dvd N y R hR (by omega))
    have hN : 2 ^ N = 2 ^ (N - y) * 2 ^ y := by rw [← Nat.pow_add]; congr 1; omega
    rw [hs, hN] at hk ⊢
    have hlt : s < 2 ^ y := by
      apply Nat.lt_of_mul_lt_mul_left (a := 2 ^ (N - y))
      omega
    have := Nat.mul_le_mul_left (2 ^ (N - y)) (show s + 1 ≤ 2 ^ y from hlt)
    rw [Nat.mul_add] at this
    omega

/-- no lengths that fit cost less -/
theorem opt (f : Nat → Nat) (N : Nat) : ∀ (n : Nat) (P : List (T × Nat)), P.length = n + 1 → Inv f (P.map Prod.fst) → (∀ p ∈ P, p.2 ≤ N) → kr N P ≤ 2 ^ N → cost f (join f (P.map Prod.fst)) ≤ cs f P
  | 0, [(a, x)], _, _, _, _ => by simp [join_one, cs]
  | n + 1, (a, x) :: (b, y) :: R, hl, hI, hN, hk => by
    have hI' : Inv f (a :: b :: R.map Prod.fst) := hI
    have hs1 := List.pairwise_cons.1 hI'.srt
    have hs2 := List.pairwise_cons.1 hs1.2
    have hab : ∀ p ∈ (b, y) :: R, wt f a ≤ wt f p.1 := by
      intro p hp
      have : p.1 ∈ b :: R.map Prod.fst := by
        have := List.mem_map_of_mem (f := Prod.fst) hp
        simpa using this
      exact lt_le (hs1.1 p.1 this)
    obtain ⟨x1, R1, e1, e2, e3, e4, e5⟩ := exch f N a ((b, y) :: R) x hab
    match R1, e1 with
    | (b', y1) :: R2, e1 =>
      have eb : b' = b := by simpa using (List.cons.inj e1).1
      have er : R2.map Prod.fst = R.map Prod.fst := by simpa using (List.cons.inj e1).2
      subst eb
      have hb2 : ∀ p ∈ R2, wt f b' ≤ wt f p.1 := by
        intro p hp
        have : p.1 ∈ R2.map Prod.fst := List.mem_map_of_mem (f := Prod.fst) hp
        rw [er] at this
        exact lt_le (hs2.1 p.1 this)
      obtain ⟨y2, R3, d1, d2, d3, d4, d5⟩ := exch f N b' R2 y1 hb2
      have hx1 : x1 ≤ N ∧ ∀ p ∈ (b', y1) :: R2, p.2 ≤ N := e3 N (hN (a, x) (by simp)) (fun p hp => hN p (by simp only [List.mem_cons] at hp ⊢; exact .inr hp))
      have hy2 := d3 x1 (e2 (b', y1) (by simp)) (fun p hp => e2 p (by simp [hp]))
      have hR3N : ∀ p ∈ R3, p.2 ≤ N := fun p hp => Nat.le_trans (hy2.2 p hp) hx1.1
      have hk2 : 2 ^ (N - x1) + (2 ^ (N - y2) + kr N R3) ≤ 2 ^ N := by
        rw [kr_cons, kr_cons] at hk
        rw [kr_cons, kr_cons] at e4
        simp only at *
        omega
      have hroom := room N x1 y2 R3 d2 hy2.1 hx1.1 hk2
      have hy1 : 1 ≤ y2 := by
        rcases Nat.eq_zero_or_pos y2 with h | h
        · subst h
          have : 0 < 2 ^ N := Nat.pow_pos (by omega)
          simp only [Nat.sub_zero] at hroom
          omega
        · exact h
      have hpw : 2 ^ (N - (y2 - 1)) = 2 ^ (N - y2) + 2 ^ (N - y2) := by
        rw [show N - (y2 - 1) = (N - y2) + 1 by omega, Nat.pow_succ]; omega
      have hput : ((R3.take ((R.map Prod.fst).countP fun z => lt f z (.node a b'))) ++ (.node a b', y2 - 1) :: R3.drop ((R.map Prod.fst).countP fun z => lt f z (.node a b'))).map Prod.fst = put f (.node a b') (R.map Prod.fst) := by
        unfold put
        rw [List.map_append, List.map_cons, List.map_take, List.map_drop, d1, er]
      have hl3 : R3.length = n := by
        have h1 := congrArg List.length d1
        have h2 := congrArg List.length er
        simp only [List.length_map, List.length_cons] at h1 h2 hl
        omega
      have ih := opt f N n _ (by
          have := congrArg List.length hput
          rw [List.length_map, put_length] at this
          rw [this]
          have h1 := congrArg List.length d1
          have h2 := congrArg List.length er
          simp only [List.length_map] at h1 h2 ⊢
          omega) (by rw [hput]; exact hI'.step) (by
          intro p hp
          simp only [List.mem_append, List.mem_cons] at hp
          rcases hp with hp | rfl | hp
          · exact hR3N p (List.mem_of_mem_take hp)
          · simp only; omega
          · exact hR3N p (List.mem_of_mem_drop hp)) (by rw [kr_put]; simp only; rw [hpw]; omega)
      rw [hput, cs_put] at ih
      have hj : join f (List.map Prod.fst ((a, x) :: (b', y) :: R)) = join f (put f (.node a b') (R.map Prod.fst)) := join_step f a b' _
      rw [hj]
      refine Nat.le_trans ih ?_
      simp only [cost, wt]
      have hm : (wt f a + wt f b') * (y2 - 1) + (wt f a + wt f b') = wt f a * y2 + wt f b' * y2 := by
        obtain ⟨z, rfl⟩ : ∃ z, y2 = z + 1 := ⟨y2 - 1, by omega⟩
        simp only [Nat.add_sub_cancel, Nat.mul_add, Nat.add_mul]; omega
      have hx2 : wt f a * y2 ≤ wt f a * x1 := Nat.mul_le_mul_left _ hy2.1
      rw [cs_cons, cs_cons]
      rw [cs_cons, cs_cons] at e5
      simp only at *
      omega
  | 0, [], h, _, _, _ => by simp at h
  | 0, _ :: _ :: _, h, _, _, _ => by simp at h
  | n + 1, [], h, _, _, _ => by simp at h
  | n + 1, [_], h, _, _, _ => by simp at h

/-- the ways to the bytes of a tree -/
def paths : T → List (Nat × List Bool)
  | .leaf c => [(c, [])]
  | .node l r => (paths l).map (fun x => (x.1, false :: x.2)) ++ (paths r).map (fun x => (x.1, true :: x.2))

theorem paths_bytes : ∀ t : T, (paths t).map Prod.fst = bytes t
  | .leaf c => rfl
  | .node l r => by
    simp only [paths, bytes, List.map_append, List.map_map]
    rw [← paths_bytes l, ← paths_bytes r]; rfl
theorem paths_len : ∀ (t : T) (x : Nat × List Bool), x ∈ paths t → x.2.length ≤ ht t
  | .leaf c, x, h => by simp [paths] at h; subst h; simp
  | .node l r, x, h => by
    simp only [paths, List.mem_append, List.mem_map] at h
    simp only [ht]
    rcases h with ⟨y, hy, rfl⟩ | ⟨y, hy, rfl⟩
    · have := paths_len l y hy; simp only [List.length_cons]; omega
    · have := paths_len r y hy; simp only [List.length_cons]; omega
theorem paths_wt (f : Nat → Nat) : ∀ t : T, ((paths t).map fun x => f x.1).sum = wt f t
  | .leaf c => by simp [paths, wt]
  | .node l r => by
    simp only [paths, wt, List.map_append, List.map_map, List.sum_append]
    rw [← paths_wt f l, ← paths_wt f r]; rfl
theorem sum_succ (f : Nat → Nat) (b : Bool) : ∀ l : List (Nat × List Bool), ((l.map (fun x => (x.1, b :: x.2))).map fun x => f x.1 * x.2.length).sum = (l.map fun x => f x.1 * x.2.length).sum + (l.map fun x => f x.1).sum
  | [] => rfl
  | x :: l => by
    have := sum_succ f b l
    simp only [List.map_cons, List.sum_cons, List.length_cons] at *
    rw [this, Nat.mul_add]; omega
theorem paths_cost (f : Nat → Nat) : ∀ t : T, ((paths t).map fun x => f x.1 * x.2.length).sum = cost f t
  | .leaf c => by simp [paths, cost]
  | .node l r => by
    have h1 := paths_cost f l
    have h2 := paths_cost f r
    have h3 := paths_wt f l
    have h4 := paths_wt f r
    simp only [paths, cost]
    rw [List.map_append, List.sum_append, sum_succ, sum_succ, h1, h2, h3, h4]; omega
theorem paths_free : ∀ (t : T) (x y : Nat × List Bool), x ∈ paths t → y ∈ paths t → x.1 ≠ y.1 → ¬ x.2 <+: y.2
  | .leaf c, x, y, hx, hy, hne => by simp [paths] at hx hy; subst hx; subst hy; exact absurd rfl hne
  | .node l r, x, y, hx, hy, hne => by
    simp only [paths, List.mem_append, List.mem_map] at hx hy
    rcases hx with ⟨u, hu, rfl⟩ | ⟨u, hu, rfl⟩ <;> rcases hy with ⟨v, hv, rfl⟩ | ⟨v, hv, rfl⟩
    · intro h; exact paths_free l u v hu hv hne (List.cons_prefix_cons.1 h).2
    · intro h; have := (List.cons_prefix_cons.1 h).1; cases this
    · intro h; have := (List.cons_prefix_cons.1 h).1; cases this
    · intro h; exact paths_free r u v hu hv hne (List.cons_prefix_cons.1 h).2

end Hf

