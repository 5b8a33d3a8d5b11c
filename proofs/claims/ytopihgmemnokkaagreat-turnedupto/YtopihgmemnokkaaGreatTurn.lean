import Derived.Test.YtopihgmemnokkaaGreatEnds
namespace Cc

theorem cn_le_bound {k k' : Nat} (h : k ≤ k') (P : Nat → Bool) : cn k P ≤ cn k' P := by
  induction k' with
  | zero => have : k = 0 := by omega
            subst this; exact Nat.le_refl _
  | succ k' ih =>
    by_cases e : k = k' + 1
    · subst e; exact Nat.le_refl _
    · have := ih (by omega); simp only [cn]; omega

theorem cn_lt_bound {k k' : Nat} (h : k < k') {P : Nat → Bool} (hp : P k = true) : cn k P < cn k' P := by
  have h1 := cn_le_bound (k := k + 1) (k' := k') (by omega) P
  simp only [cn, hp, Bool.toNat_true] at h1
  omega

/-- no n + 1 numbers that differ lie below n -/
theorem pigeon : ∀ (m : Nat) (f : Nat → Nat), (∀ i j, i < m + 1 → j < m + 1 → f i = f j → i = j) → (∀ i, i < m + 1 → f i < m) → False := by
  intro m
  induction m with
  | zero => intro f _ hb; have := hb 0 (by omega); omega
  | succ m ih =>
    intro f hi hb
    apply ih (fun i => if f i = m then f (m + 1) else f i)
    · intro i j hii hjj e
      by_cases e1 : f i = m
      · by_cases e2 : f j = m
        · exact hi i j (by omega) (by omega) (by omega)
        · simp [e1, e2] at e
          have := hi (m + 1) j (by omega) (by omega) e
          omega
      · by_cases e2 : f j = m
        · simp [e1, e2] at e
          have := hi i (m + 1) (by omega) (by omega) e
          omega
        · simp [e1, e2] at e
          exact hi i j (by omega) (by omega) e
    · intro i hii
      have h1 := hb i (by omega)
      have h2 := hb (m + 1) (by omega)
      by_cases e1 : f i = m
      · simp [e1]
        by_cases e2 : f (m + 1) = m
        · have := hi i (m + 1) (by omega) (by omega) (by omega); omega
        · omega
      · simp [e1]; omega

/-- what is one to one among n numbers meets them all -/
theorem onto_of_inj {n : Nat} {f : Nat → Nat} (hi : ∀ i j, i < n → j < n → f i = f j → i = j) (hb : ∀ i, i < n → f i < n) {p : Nat} (hp : p < n) : ∃ i, i < n ∧ f i = p := by
  by_cases h : ∃ i, i < n ∧ f i = p
  · exact h
  · exfalso
    have hno : ∀ i, i < n → ¬ f i = p := fun i hi e => h ⟨i, hi, e⟩
    obtain ⟨m, rfl⟩ : ∃ m, n = m + 1 := ⟨n - 1, by omega⟩
    apply pigeon m (fun i => if f i < p then f i else f i - 1)
    · intro i j h1 h2 e
      have n1 := hno i h1
      have n2 := hno j h2
      apply hi i j h1 h2
      by_cases e1 : f i < p <;> by_cases e2 : f j < p <;> simp [e1, e2] at e <;> omega
    · intro i h1
      have n1 := hno i h1
      have b1 := hb i h1
      by_cases e1 : f i < p <;> simp [e1] <;> omega

theorem mono_id {n : Nat} {g : Nat → Nat} (hm : ∀ i j, i < j → j < n → g i < g j) (hb : ∀ i, i < n → g i < n) : ∀ i, i < n → g i = i := by
  have up : ∀ i, i < n → i ≤ g i := by
    intro i
    induction i with
    | zero => intro _; omega
    | succ i ih => intro h; have h1 := ih (by omega); have h2 := hm i (i + 1) (by omega) h; omega
  have down : ∀ d i, i + d + 1 = n → g i + d + 1 ≤ n := by
    intro d
    induction d with
    | zero => intro i h; have := hb i (by omega); omega
    | succ d ih => intro i h; have h1 := ih (i + 1) (by omega); have h2 := hm i (i + 1) (by omega) (by omega); omega
  intro i h
  have h1 := up i h
  have h2 := down (n - i - 1) i (by omega)
  omega

/-- two numberings in one order are one -/
theorem uniq {n : Nat} {f g : Nat → Nat} (fi : ∀ i j, i < n → j < n → f i = f j → i = j) (fb : ∀ i, i < n → f i < n) (gb : ∀ i, i < n → g i < n)
    (hm : ∀ i j, i < n → j < n → f i < f j → g i < g j) {a : Nat} (ha : a < n) : f a = g a := by
  have key : ∀ v, v < n → ∃ i, i < n ∧ f i = v := fun v hv => onto_of_inj fi fb hv
  let h : Nat → Nat := fun v => if hv : v < n then g (key v hv).choose else 0
  have hh : ∀ i, i < n → h (f i) = g i := by
    intro i hi
    have hf := fb i hi
    have hc := (key (f i) hf).choose_spec
    have : (key (f i) hf).choose = i := fi _ _ hc.1 hi hc.2
    simp only [h, hf, dite_true, this]
  have hid := mono_id (n := n) (g := h) (by
    intro u v huv hv
    obtain ⟨i, hi, rfl⟩ := key u (by omega)
    obtain ⟨j, hj, rfl⟩ := key v hv
    rw [hh i hi, hh j hj]; exact hm i j hi hj huv) (by
    intro v hv
    obtain ⟨i, hi, rfl⟩ := key v hv
    rw [hh i hi]; exact gb i hi)
  have := hid (f a) (fb a ha)
  rw [hh a ha] at this
  exact this.symm

/-- counting does not hang on the order -/
theorem cn_inj_le : ∀ (n m : Nat) (σ : Nat → Nat) (P : Nat → Bool), (∀ i j, i < n → j < n → σ i = σ j → i = j) → (∀ i, i < n → σ i < m) → cn n (fun i => P (σ i)) ≤ cn m P := by
  intro n
  induction n with
  | zero => intro m σ P _ _; simp [cn]
  | succ n ih =>
    intro m σ P hi hb
    have hlt := hb n (by omega)
    have h1 := ih m σ (fun x => P x && !(x == σ n)) (fun i j h1 h2 => hi i j (by omega) (by omega)) (fun i h => hb i (by omega))
    have h2 : cn n (fun i => P (σ i) && !(σ i == σ n)) = cn n (fun i => P (σ i)) := by
      apply cn_congr
      intro i hin
      have : ¬ σ i = σ n := fun e => by have := hi i n (by omega) (by omega) e; omega
      have : (σ i == σ n) = false := by simp [this]
      simp [this]
    rw [h2] at h1
    simp only [cn]
    cases hp : P (σ n)
    · have : cn m (fun x => P x && !(x == σ n)) ≤ cn m P := cn_mono (fun i _ h => by simp at h; exact h.1)
      simp; omega
    · have : cn m P = cn m (fun x => P x && !(x == σ n)) + 1 := by
        apply cn_plus_one hlt
        intro i _
        by_cases e : i = σ n
        · subst e; simp [hp]
        · have e' : (i == σ n) = false := by simp [e]
          simp [e']
      simp; omega

theorem cn_perm {n : Nat} {σ : Nat → Nat} (P : Nat → Bool) (hi : ∀ i j, i < n → j < n → σ i = σ j → i = j) (hb : ∀ i, i < n → σ i < n) : cn n (fun i => P (σ i)) = cn n P := by
  have h1 := cn_inj_le n n σ P hi hb
  have h2 := cn_inj_le n n σ (fun x => !P x) hi hb
  have e1 : cn n (fun _ => true) = cn n P + cn n (fun x => !P x) := cn_add (fun i _ => by cases P i <;> simp)
  have e2 : cn n (fun _ => true) = cn n (fun i => P (σ i)) + cn n (fun i => !P (σ i)) := cn_add (fun i _ => by cases P (σ i) <;> simp)
  omega

/-- of a row, which byte of the turned text is its -/
def ks (row p : Nat) : Nat := if row < p then p - 1 else p
/-- and back -/
def un (row k : Nat) : Nat := if k < row then k else k + 1

theorem un_ks {row p : Nat} (h : p ≠ row) : un row (ks row p) = p := by
  unfold un ks
  by_cases e : row < p
  · rw [if_pos e, if_neg (by omega)]; omega
  · rw [if_neg e, if_pos (by omega)]
theorem ks_un (row k : Nat) : ks row (un row k) = k := by
  unfold un ks
  by_cases e : k < row
  · rw [if_pos e, if_neg (by omega)]
  · rw [if_neg e, if_pos (by omega)]; omega
theorem un_ne (row k : Nat) : un row k ≠ row := by
  unfold un
  by_cases e : k < row
  · rw [if_pos e]; omega
  · rw [if_neg e]; omega
theorem un_lt {row k k' : Nat} (h : k < k') : un row k < un row k' := by
  unfold un
  by_cases e : k < row <;> by_cases e' : k' < row <;> simp [e, e'] <;> omega
theorem ks_lt {row p n : Nat} (hp : p ≤ n) (h : p ≠ row) (hr : row ≤ n) : ks row p < n := by
  unfold ks
  by_cases e : row < p
  · rw [if_pos e]; omega
  · rw [if_neg e]; omega
theorem un_le {row k n : Nat} (hk : k < n) : un row k ≤ n := by
  unfold un
  by_cases e : k < row
  · rw [if_pos e]; omega
  · rw [if_neg e]; omega
theorem ks_mono {row p q : Nat} (hp : p ≠ row) (hq : q ≠ row) (h : ks row p < ks row q) : p < q := by
  have := un_lt (row := row) h
  rw [un_ks hp, un_ks hq] at this; exact this

/-- of a byte of a turned text, the row of the end that begins with it -/
def lead (n : Nat) (b : Nat → Nat) (k : Nat) : Nat := 1 + cn n (fun j => decide (b j < b k)) + cn k (fun j => decide (b j = b k))

theorem lead_step (n : Nat) (b : Nat → Nat) {k k' : Nat} (hk : k < n) (h : b k < b k') : lead n b k < lead n b k' := by
  unfold lead
  have h1 : cn k (fun j => decide (b j = b k)) < cn n (fun j => decide (b j = b k)) := cn_lt_bound hk (by simp)
  have h2 : cn n (fun j => decide (b j < b k) || decide (b j = b k)) = cn n (fun j => decide (b j < b k)) + cn n (fun j => decide (b j = b k)) := by
    apply cn_add
    intro i _
    by_cases e : b i < b k
    · simp [e, show ¬ b i = b k from by omega]
    · simp [e]
  have h3 : cn n (fun j => decide (b j < b k) || decide (b j = b k)) ≤ cn n (fun j => decide (b j < b k')) := cn_mono (fun i _ hi => by
    simp at hi ⊢; omega)
  omega
theorem lead_same (n : Nat) (b : Nat → Nat) {k k' : Nat} (h : b k = b k') (hl : k < k') : lead n b k < lead n b k' := by
  unfold lead
  rw [h]
  have h1 : cn k (fun j => decide (b j = b k')) < cn k' (fun j => decide (b j = b k')) := cn_lt_bound hl (by simp [h])
  omega
theorem lead_lt {n : Nat} {b : Nat → Nat} {k k' : Nat} (hk : k < n) (h : lead n b k' < lead n b k) (hk' : k' < n) : b k' < b k ∨ (b k' = b k ∧ k' < k) := by
  by_cases e : b k' < b k
  · exact .inl e
  · by_cases e2 : b k < b k'
    · have := lead_step n b hk e2; omega
    · right
      refine ⟨by omega, ?_⟩
      by_cases e3 : k < k'
      · have := lead_same n b (k := k) (k' := k') (by omega) e3; omega
      · by_cases e4 : k = k'
        · subst e4; omega
        · omega
theorem lead_inj {n : Nat} {b : Nat → Nat} {k k' : Nat} (hk : k < n) (hk' : k' < n) (h : lead n b k = lead n b k') : k = k' := by
  by_cases e : k = k'
  · exact e
  · by_cases e1 : b k < b k'
    · have := lead_step n b hk e1; omega
    · by_cases e2 : b k' < b k
      · have := lead_step n b hk' e2; omega
      · by_cases e3 : k < k'
        · have := lead_same n b (k := k) (k' := k') (by omega) e3; omega
        · have := lead_same n b (k := k') (k' := k) (by omega) (by omega); omega
theorem lead_pos (n : Nat) (b : Nat → Nat) (k : Nat) : 1 ≤ lead n b k := by unfold lead; omega
theorem lead_le {n : Nat} {b : Nat → Nat} {k : Nat} (hk : k < n) : lead n b k ≤ n := by
  unfold lead
  have h1 : cn k (fun j => decide (b j = b k)) < cn n (fun j => decide (b j = b k)) := cn_lt_bound hk (by simp)
  have h2 : cn n (fun j => decide (b j < b k) || decide (b j = b k)) = cn n (fun j => decide (b j < b k)) + cn n (fun j => decide (b j = b k)) := by
    apply cn_add
    intro i _
    by_cases e : b i < b k
    · simp [e, show ¬ b i = b k from by omega]
    · simp [e]
  have h3 := cn_le n (fun j => decide (b j < b k) || decide (b j = b k))
  omega

/-- the rows that are met, from the empty end on -/
def trail (n : Nat) (b : Nat → Nat) (row : Nat) : Nat → Nat
  | 0 => 0
  | m + 1 => lead n b (ks row (trail n b row m))

/-- the whole text's row is not met too soon -/
def Takes (n : Nat) (b : Nat → Nat) (row : Nat) : Prop := row ≤ n ∧ ∀ m, m < n → trail n b row m ≠ row

section
variable {n : Nat} {b : Nat → Nat} {row : Nat}

theorem trail_le (hr : row ≤ n) : ∀ m, (∀ j, j < m → trail n b row j ≠ row) → trail n b row m ≤ n
  | 0, _ => Nat.zero_le _
  | m + 1, h => by
    have h1 := trail_le hr m (fun j hj => h j (by omega))
    exact lead_le (ks_lt h1 (h m (by omega)) hr)

theorem Takes.le (t : Takes n b row) {m : Nat} (hm : m ≤ n) : trail n b row m ≤ n := trail_le t.1 m (fun j hj => t.2 j (by omega))

theorem Takes.inj (t : Takes n b row) : ∀ i d, i + d ≤ n → trail n b row i = trail n b row (i + d) → d = 0
  | 0, d, _, h => by
    cases d with
    | zero => rfl
    | succ d =>
      have := lead_pos n b (ks row (trail n b row d))
      rw [Nat.zero_add] at h
      simp only [trail] at h; omega
  | i + 1, d, hd, h => by
    rw [show i + 1 + d = (i + d) + 1 from by omega] at h
    simp only [trail] at h
    have n1 := t.2 i (by omega)
    have n2 := t.2 (i + d) (by omega)
    have h1 := lead_inj (ks_lt (t.le (by omega)) n1 t.1) (ks_lt (t.le (by omega)) n2 t.1) h
    have h2 := congrArg (un row) h1
    rw [un_ks n1, un_ks n2] at h2
    exact t.inj i d (by omega) h2

theorem Takes.inj' (t : Takes n b row) {i j : Nat} (hi : i < n + 1) (hj : j < n + 1) (h : trail n b row i = trail n b row j) : i = j := by
  by_cases e : i ≤ j
  · have := t.inj i (j - i) (by omega) (by rw [h]; congr 1; omega); omega
  · have := t.inj j (i - j) (by omega) (by rw [← h]; congr 1; omega); omega

theorem Takes.last (t : Takes n b row) : trail n b row n = row := by
  obtain ⟨i, hi, h⟩ := onto_of_inj (n := n + 1) (f := trail n b row) (fun i j => t.inj') (fun i hi => by have := t.le (m := i) (by omega); omega) (p := row) (by have := t.1; omega)
  by_cases e : i < n
  · exact absurd h (t.2 i e)
  · have : i = n := by omega
    rw [this] at h; exact h

variable {L : Nat → Nat} {lt : Nat → Nat → Bool}

/-- the rows that are met stand as the ends do -/
theorem Takes.order (t : Takes n b row) (o : Ord n L lt) (hL : ∀ m, m < n → L (n - 1 - m) = b (ks row (trail n b row m)) + 1) :
    ∀ (i j : Nat), i ≤ n → j ≤ n → trail n b row i < trail n b row j → lt (n - i) (n - j) = true
  | 0, j, _, hj, h => by
    have : j ≠ 0 := fun e => by subst e; omega
    apply o.less _ _ (by omega) (by omega)
    rw [Nat.sub_zero, o.Ln]
    exact o.Lpos _ (by omega)
  | i + 1, 0, _, _, h => by simp [trail] at h
  | i + 1, j + 1, hi, hj, h => by
    simp only [trail] at h
    have n1 := t.2 i (by omega)
    have n2 := t.2 j (by omega)
    have k1 := ks_lt (t.le (m := i) (by omega)) n1 t.1
    have k2 := ks_lt (t.le (m := j) (by omega)) n2 t.1
    have e1 := hL i (by omega)
    have e2 := hL j (by omega)
    rw [show n - 1 - i = n - (i + 1) from by omega] at e1
    rw [show n - 1 - j = n - (j + 1) from by omega] at e2
    rcases lead_lt k2 h k1 with c | ⟨c, c'⟩
    · exact o.less _ _ (by omega) (by omega) (by omega)
    · rw [o.recur (n - (i + 1)) (n - (j + 1)) (by omega) (by omega) (by omega)]
      rw [show n - (i + 1) + 1 = n - i from by omega, show n - (j + 1) + 1 = n - j from by omega]
      exact t.order o hL i j (by omega) (by omega) (ks_mono n1 n2 c')

theorem Takes.rank (t : Takes n b row) (o : Ord n L lt) (hL : ∀ m, m < n → L (n - 1 - m) = b (ks row (trail n b row m)) + 1) {m : Nat} (hm : m ≤ n) : Cc.rank n lt (n - m) = trail n b row m := by
  symm
  apply uniq (n := n + 1) (f := trail n b row) (g := fun m => Cc.rank n lt (n - m)) (fun i j => t.inj') (fun i hi => by have := t.le (m := i) (by omega); omega)
    (fun i _ => by have := o.rank_le (i := n - i) (by omega); omega) ?_ (a := m) (by omega)
  intro i j hi hj h
  exact o.rank_lt (by omega) (t.order o hL i j (by omega) (by omega) h)

/-- what is taken is what is made of it -/
theorem Takes.made (t : Takes n b row) (o : Ord n L lt) (hL : ∀ m, m < n → L (n - 1 - m) = b (ks row (trail n b row m)) + 1) {rows : Nat → Nat} (hrows : ∀ i, i ≤ n → rows (Cc.rank n lt i) = i) :
    Cc.rank n lt 0 = row ∧ ∀ k, k < n → rows (un row k) ≠ 0 ∧ rows (un row k) ≤ n ∧ L (rows (un row k) - 1) = b k + 1 := by
  have h0 := t.rank o hL (m := n) (Nat.le_refl _)
  rw [Nat.sub_self, t.last] at h0
  refine ⟨h0, fun k hk => ?_⟩
  obtain ⟨m, hm, hp⟩ := onto_of_inj (n := n + 1) (f := trail n b row) (fun i j => t.inj') (fun i hi => by have := t.le (m := i) (by omega); omega) (p := un row k) (by have := un_le (row := row) hk; omega)
  have hne := un_ne row k
  have hmn : m < n := by
    by_cases e : m < n
    · exact e
    · have : m = n := by omega
      subst this; rw [t.last] at hp; exact absurd hp.symm hne
  have h1 := hrows (n - m) (by omega)
  rw [t.rank o hL (m := m) (by omega), hp] at h1
  rw [h1]
  refine ⟨by omega, by omega, ?_⟩
  have h2 := hL m hmn
  rw [hp, ks_un] at h2
  rw [show n - m - 1 = n - 1 - m from by omega]; exact h2

/-- a turned text is turned back -/
theorem back (o : Ord n L lt) {rows : Nat → Nat} (hrows : ∀ i, i ≤ n → rows (Cc.rank n lt i) = i)
    (hb : ∀ k, k < n → b k + 1 = L (rows (un (Cc.rank n lt 0) k) - 1)) : ∀ m, m ≤ n → trail n b (Cc.rank n lt 0) m = Cc.rank n lt (n - m) := by
  have hr0 := o.rank_le (i := 0) (by omega)
  -- of each row: its place
  have place : ∀ k, k < n → ∃ i, i < n ∧ un (Cc.rank n lt 0) k = Cc.rank n lt (i + 1) ∧ b k + 1 = L i := by
    intro k hk
    obtain ⟨j, hj, hp⟩ := o.onto (r := un (Cc.rank n lt 0) k) (un_le hk)
    have hj0 : j ≠ 0 := fun e => by subst e; exact un_ne _ _ hp.symm
    refine ⟨j - 1, by omega, by rw [← hp]; congr 1; omega, ?_⟩
    rw [hb k hk, ← hp, hrows j hj]
  have hlead : ∀ k, k < n → ∀ i, i < n → un (Cc.rank n lt 0) k = Cc.rank n lt (i + 1) → lead n b k = Cc.rank n lt i := by
    intro k hk i hi hu
    -- both number the bytes in one order
    let g : Nat → Nat := fun k => if hk : k < n then Cc.rank n lt (place k hk).choose - 1 else 0
    have gval : ∀ k i, k < n → i < n → un (Cc.rank n lt 0) k = Cc.rank n lt (i + 1) → g k = Cc.rank n lt i - 1 := by
      intro k i hk hi hu
      have hc := (place k hk).choose_spec
      have : (place k hk).choose = i := by
        have := o.rank_inj (i := (place k hk).choose + 1) (j := i + 1) (by omega) (by omega) (by rw [← hc.2.1, hu])
        omega
      simp only [g, hk, dite_true, this]
    have rpos : ∀ i, i < n → 1 ≤ Cc.rank n lt i := by
      intro i hi
      have := o.rank_lt (i := n) (j := i) (by omega) (o.less _ _ (by omega) (by omega) (by rw [o.Ln]; exact o.Lpos i hi))
      omega
    have hu2 := uniq (n := n) (f := fun k => lead n b k - 1) (g := g)
      (fun x y hx hy e => lead_inj (b := b) hx hy (by have e' : lead n b x - 1 = lead n b y - 1 := e; have := lead_pos n b x; have := lead_pos n b y; omega))
      (fun x hx => by have := lead_pos n b x; have := lead_le (b := b) hx; omega)
      (fun x hx => by
        obtain ⟨i, hi, h1, _⟩ := place x hx
        rw [gval x i hx hi h1]
        have := rpos i hi; have := o.rank_le (i := i) (by omega); omega)
      (by
        intro x y hx hy hlt
        obtain ⟨i, hi, h1, h2⟩ := place x hx
        obtain ⟨j, hj, h3, h4⟩ := place y hy
        rw [gval x i hx hi h1, gval y j hy hj h3]
        have p1 := rpos i hi
        have p2 := rpos j hj
        have q1 := lead_pos n b x
        have hlt' : lead n b x < lead n b y := by omega
        have : lt i j = true := by
          rcases lead_lt hy hlt' hx with c | ⟨c, c'⟩
          · exact o.less _ _ (by omega) (by omega) (by omega)
          · rw [o.recur i j hi hj (by omega)]
            rw [o.rank_lt_iff (by omega) (by omega), ← h1, ← h3]
            exact un_lt c'
        have := o.rank_lt (i := i) (j := j) (by omega) this
        omega) hk
    rw [gval k i hk hi hu] at hu2
    have := lead_pos n b k
    have := rpos i hi
    have hu3 : lead n b k - 1 = Cc.rank n lt i - 1 := hu2
    omega
  intro m
  induction m with
  | zero => intro _; rw [Nat.sub_zero, o.rank_last]; rfl
  | succ m ih =>
    intro hm
    have h := ih (by omega)
    simp only [trail]
    rw [h]
    have hne : Cc.rank n lt (n - m) ≠ Cc.rank n lt 0 := fun e => by
      have := o.rank_inj (i := n - m) (j := 0) (by omega) (by omega) e; omega
    apply hlead _ (ks_lt (o.rank_le (by omega)) hne hr0) (n - (m + 1)) (by omega)
    rw [un_ks hne]; congr 1; omega

theorem back_takes (o : Ord n L lt) {rows : Nat → Nat} (hrows : ∀ i, i ≤ n → rows (Cc.rank n lt i) = i)
    (hb : ∀ k, k < n → b k + 1 = L (rows (un (Cc.rank n lt 0) k) - 1)) : Takes n b (Cc.rank n lt 0) ∧ ∀ m, m < n → L (n - 1 - m) = b (ks (Cc.rank n lt 0) (trail n b (Cc.rank n lt 0) m)) + 1 := by
  have hr0 := o.rank_le (i := 0) (by omega)
  have h := back o hrows hb
  have hne : ∀ m, m < n → trail n b (Cc.rank n lt 0) m ≠ Cc.rank n lt 0 := fun m hm e => by
    rw [h m (by omega)] at e
    have := o.rank_inj (i := n - m) (j := 0) (by omega) (by omega) e; omega
  refine ⟨⟨hr0, hne⟩, fun m hm => ?_⟩
  have hne' : Cc.rank n lt (n - m) ≠ Cc.rank n lt 0 := by rw [← h m (by omega)]; exact hne m hm
  rw [h m (by omega), hb _ (ks_lt (o.rank_le (by omega)) hne' hr0), un_ks hne', hrows _ (by omega)]
  congr 1; omega

end
end Cc
