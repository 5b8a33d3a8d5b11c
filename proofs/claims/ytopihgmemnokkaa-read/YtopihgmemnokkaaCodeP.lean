import Derived.Test.YtopihgmemnokkaaCodeW10
namespace Go.Proofs.Ytopihgmemnokkaa
open Go.RowKit

/-- a run's bits -/
def bl (x : Nat × Nat) : List Bool := (List.range x.1).map fun i => decide (x.2 / 2 ^ (x.1 - 1 - i) % 2 = 1)
theorem bl_len (x : Nat × Nat) : (bl x).length = x.1 := by simp [bl]
theorem bl_snoc (n v : Nat) (b : Bool) : bl (n + 1, 2 * v + b.toNat) = bl (n, v) ++ [b] := by
  have hb : b.toNat ≤ 1 := Bool.toNat_le _
  unfold bl
  simp only
  rw [List.range_succ, List.map_append]
  congr 1
  · apply List.map_congr_left
    intro i hi
    have hi' : i < n := by simpa using hi
    have e : (2 * v + b.toNat) / 2 ^ (n + 1 - 1 - i) = v / 2 ^ (n - 1 - i) := by
      rw [show n + 1 - 1 - i = (n - 1 - i) + 1 by omega, Nat.pow_succ, Nat.mul_comm (2 ^ (n - 1 - i)) 2, ← Nat.div_div_eq_div_mul]
      congr 1; omega
    rw [e]
  · simp only [List.map_cons, List.map_nil]
    rw [show n + 1 - 1 - n = 0 by omega, Nat.pow_zero, Nat.div_one]
    congr 1
    cases b
    · simp
    · simp

def numv (v : Nat) : List Bool → Nat
  | [] => v
  | b :: p => numv (2 * v + b.toNat) p
theorem bl_app : ∀ (p : List Bool) (n v : Nat), bl (n + p.length, numv v p) = bl (n, v) ++ p
  | [], n, v => by simp [numv]
  | b :: p, n, v => by
    have := bl_app p (n + 1) (2 * v + b.toNat)
    rw [bl_snoc, List.append_assoc] at this
    simp only [numv, List.length_cons]
    rw [show n + (p.length + 1) = n + 1 + p.length by omega, this]; rfl

theorem spellF_spec : ∀ (t : Hf.T) (n v : Nat) (g : Nat → Nat × Nat), (Hf.bytes t).Nodup →
    (∀ x ∈ Hf.paths t, spellF t n v g x.1 = (n + x.2.length, numv v x.2)) ∧ (∀ c, c ∉ Hf.bytes t → spellF t n v g c = g c)
  | .leaf c, n, v, g, _ => by
    refine ⟨fun x hx => ?_, fun d hd => ?_⟩
    · simp [Hf.paths] at hx; subst hx; simp [spellF, updR, numv]
    · simp [Hf.bytes] at hd; simp [spellF, updR, hd]
  | .node l r, n, v, g, hn => by
    have hn' := List.nodup_append.1 hn
    obtain ⟨l1, l2⟩ := spellF_spec l (n + 1) (2 * v) g hn'.1
    obtain ⟨r1, r2⟩ := spellF_spec r (n + 1) (2 * v + 1) (spellF l (n + 1) (2 * v) g) hn'.2.1
    refine ⟨fun x hx => ?_, fun c hc => ?_⟩
    · simp only [Hf.paths, List.mem_append, List.mem_map] at hx
      simp only [spellF]
      rcases hx with ⟨y, hy, rfl⟩ | ⟨y, hy, rfl⟩
      · have hyb : y.1 ∈ Hf.bytes l := by rw [← Hf.paths_bytes]; exact List.mem_map_of_mem (f := Prod.fst) hy
        have hyr : y.1 ∉ Hf.bytes r := fun h => hn'.2.2 _ hyb _ h rfl
        rw [r2 y.1 hyr, l1 y hy]
        simp [numv]; omega
      · rw [r1 y hy]
        simp [numv]; omega
    · simp only [Hf.bytes, List.mem_append, not_or] at hc
      simp only [spellF]
      rw [r2 c hc.2, l2 c hc.1]

/-- a sum -/
def sm : Nat → (Nat → Nat) → Nat
  | 0, _ => 0
  | k + 1, g => sm k g + g k
theorem sm_congr {k : Nat} {g h : Nat → Nat} (e : ∀ c, c < k → g c = h c) : sm k g = sm k h := by
  induction k with
  | zero => rfl
  | succ k ih => simp only [sm]; rw [ih (fun c hc => e c (by omega)), e k (by omega)]
theorem sm_le {k : Nat} {g h : Nat → Nat} (e : ∀ c, c < k → g c ≤ h c) : sm k g ≤ sm k h := by
  induction k with
  | zero => exact Nat.le_refl _
  | succ k ih => simp only [sm]; have := ih (fun c hc => e c (by omega)); have := e k (by omega); omega
theorem sm_filter (f g : Nat → Nat) (k : Nat) : (((List.range k).filter fun c => decide (0 < f c)).map g).sum = sm k fun c => if 0 < f c then g c else 0 := by
  induction k with
  | zero => rfl
  | succ k ih =>
    rw [List.range_succ, List.filter_append, List.map_append, List.sum_append, ih]
    simp only [sm]
    by_cases h : 0 < f k <;> simp [h]

/-- what codes are -/
structure Codes (f : Nat → Nat) (k : Nat → List Bool) : Prop where
  none : ∀ c, c < 256 → f c = 0 → k c = []
  some : ∀ c, c < 256 → 0 < f c → k c ≠ []
  free : ∀ c d, c < 256 → d < 256 → c ≠ d → 0 < f c → 0 < f d → ¬ k c <+: k d
  len : ∀ c, c < 256 → (k c).length ≤ 64
  opt : ∀ (N : Nat) (ℓ : Nat → Nat), (∀ c, c < 256 → 0 < f c → 1 ≤ ℓ c ∧ ℓ c ≤ N) → (sm 256 fun c => if 0 < f c then 2 ^ (N - ℓ c) else 0) ≤ 2 ^ N →
    (sm 256 fun c => f c * (k c).length) ≤ sm 256 fun c => if 0 < f c then f c * ℓ c else 0

theorem leaf_there {f : Nat → Nat} {c : Nat} (hc : c < 256) (h : 0 < f c) : Hf.T.leaf c ∈ leavesTo f 256 := by
  unfold leavesTo; simp [hc, h]

theorem codes_ofG {f : Nat → Nat} {G : Nat → Nat × Nat} (h : CodesOf f G) (hw : ∀ t, (Hf.bytes t).Nodup → (∀ c ∈ Hf.bytes t, c < 256) → Hf.wt f t ≤ 17000000) : Codes f (fun c => bl (G c)) := by
  rcases h with ⟨h0, rfl⟩ | ⟨c0, hc0, h1, rfl⟩ | ⟨h2, l, hperm, hinv, rfl⟩
  · have hno : ∀ c, c < 256 → f c = 0 := fun c hc => by
      rcases Nat.eq_zero_or_pos (f c) with h | h
      · exact h
      · have := leaf_there hc h; rw [h0] at this; simp at this
    refine ⟨fun c _ _ => rfl, fun c hc h => by have := hno c hc; omega, fun c d hc _ _ h => by have := hno c hc; omega, fun c _ => by simp [noRun, bl], fun N ℓ _ _ => ?_⟩
    rw [sm_congr (h := fun _ => 0) (fun c hc => by rw [hno c hc]; simp)]
    exact sm_le (fun c _ => Nat.zero_le _)
  · have hno : ∀ c, c < 256 → 0 < f c → c = c0 := fun c hc h => by
      have := leaf_there hc h; rw [h1] at this; simpa using this
    have hb : bl (updR noRun c0 (1, 0) c0) = [false] := by simp [updR, bl]
    have hz : ∀ c, c ≠ c0 → bl (updR noRun c0 (1, 0) c) = [] := fun c hc => by simp [updR, noRun, bl, hc]
    have hf0 : 0 < f c0 := by
      obtain ⟨c, e, _, h⟩ := leaves_mem (f := f) (k := 256) (t := .leaf c0) (by rw [h1]; simp)
      have : c0 = c := by simpa using e
      rw [this]; exact h
    refine ⟨fun c hc h => ?_, fun c hc h => ?_, fun c d hc hd hne h1 h2 => ?_, fun c hc => ?_, fun N ℓ hℓ _ => ?_⟩
    · by_cases e : c = c0
      · subst e; omega
      · exact hz c e
    · rw [hno c hc h, hb]; simp
    · exact absurd ((hno c hc h1).trans (hno d hd h2).symm) hne
    · by_cases e : c = c0
      · subst e; rw [hb]; simp
      · rw [hz c e]; simp
    · refine sm_le (fun c hc => ?_)
      by_cases e : c = c0
      · subst e
        rw [hb, if_pos hf0]
        exact Nat.mul_le_mul_left _ (by have := (hℓ c hc hf0).1; simpa using this)
      · rw [hz c e]; simp
  · have hl2 : l.length = (l.length - 1) + 1 := by have := hperm.length_eq; omega
    obtain ⟨hI, hB⟩ := Hf.join_good (l.length - 1) l hl2 hinv
    have hBf : (Hf.bytes (Hf.join f l)).Perm ((List.range 256).filter fun c => decide (0 < f c)) := by
      rw [← leaves_flat]; exact hB.trans (Hf.flat_perm hperm)
    have hbytes : ∀ c ∈ Hf.bytes (Hf.join f l), c < 256 ∧ 0 < f c := fun c hc => by
      have := hBf.mem_iff.1 hc; simpa using this
    have hnd : (Hf.bytes (Hf.join f l)).Nodup := by have := hI.nd; simpa using this
    obtain ⟨sp1, sp2⟩ := spellF_spec (Hf.join f l) 0 0 noRun hnd
    have hht := Hf.ht_leG (hI.gd _ (by simp)) (fun c hc => hI.pos _ (by simp) c hc) (hw _ hnd (fun c hc => (hbytes c hc).1))
    have hcode : ∀ x ∈ Hf.paths (Hf.join f l), bl (spellF (Hf.join f l) 0 0 noRun x.1) = x.2 := fun x hx => by
      rw [sp1 x hx, bl_app]; simp [bl]
    have hget : ∀ c, c < 256 → 0 < f c → ∃ p, (c, p) ∈ Hf.paths (Hf.join f l) := fun c hc h => by
      have : c ∈ Hf.bytes (Hf.join f l) := hBf.mem_iff.2 (by simp [hc, h])
      rw [← Hf.paths_bytes] at this
      obtain ⟨x, hx, rfl⟩ := List.mem_map.1 this
      exact ⟨x.2, hx⟩
    have hnone : ∀ c, c < 256 → f c = 0 → bl (spellF (Hf.join f l) 0 0 noRun c) = [] := fun c hc h => by
      rw [sp2 c (fun hm => by have := (hbytes c hm).2; omega)]; simp [noRun, bl]
    have hnode : ∃ a b, Hf.join f l = .node a b := by
      cases ht : Hf.join f l with
      | node a b => exact ⟨a, b, rfl⟩
      | leaf c =>
        have h3 := hBf.length_eq
        rw [ht, ← leaves_flat] at h3
        have h4 : ((leavesTo f 256).flatMap Hf.bytes).length = (leavesTo f 256).length := by rw [leaves_flat]; unfold leavesTo; simp
        rw [h4] at h3
        simp [Hf.bytes] at h3
        omega
    refine ⟨hnone, fun c hc h => ?_, fun c d hc hd hne h1 h2 => ?_, fun c hc => ?_, fun N ℓ hℓ hk => ?_⟩
    · obtain ⟨p, hp⟩ := hget c hc h
      have := hcode _ hp
      simp only at this ⊢
      rw [this]
      obtain ⟨a, b, hab⟩ := hnode
      rw [hab] at hp
      simp only [Hf.paths, List.mem_append, List.mem_map] at hp
      rcases hp with ⟨y, _, e⟩ | ⟨y, _, e⟩
      · have := congrArg Prod.snd e; simp only at this; rw [← this]; simp
      · have := congrArg Prod.snd e; simp only at this; rw [← this]; simp
    · obtain ⟨p, hp⟩ := hget c hc h1
      obtain ⟨q, hq⟩ := hget d hd h2
      have e1 := hcode _ hp
      have e2 := hcode _ hq
      simp only at e1 e2 ⊢
      rw [e1, e2]
      exact Hf.paths_free _ _ _ hp hq hne
    · rcases Nat.eq_zero_or_pos (f c) with h | h
      · rw [hnone c hc h]; simp
      · obtain ⟨p, hp⟩ := hget c hc h
        have e1 := hcode _ hp
        have := Hf.paths_len _ _ hp
        simp only at e1 this ⊢
        rw [e1]; omega
    · have hcost := Hf.paths_cost f (Hf.join f l)
      have hmap : (Hf.paths (Hf.join f l)).map (fun x => f x.1 * x.2.length) = (Hf.bytes (Hf.join f l)).map (fun c => f c * (bl (spellF (Hf.join f l) 0 0 noRun c)).length) := by
        rw [← Hf.paths_bytes, List.map_map]
        apply List.map_congr_left
        intro x hx
        simp only [Function.comp]
        rw [hcode x hx]
      rw [hmap, (hBf.map _).sum_nat, sm_filter] at hcost
      have hs1 : (sm 256 fun c => f c * (bl (spellF (Hf.join f l) 0 0 noRun c)).length) = Hf.cost f (Hf.join f l) := by
        rw [← hcost]
        apply sm_congr
        intro c _
        by_cases h : 0 < f c
        · simp [h]
        · have : f c = 0 := by omega
          simp [this]
      rw [hs1]
      have hleaf : ∀ t ∈ l, ∃ c, t = .leaf c ∧ c < 256 ∧ 0 < f c := fun t ht => leaves_mem (hperm.mem_iff.1 ht)
      have hm : (l.map fun t => (t, ℓ (Hf.least t))).map Prod.fst = l := by rw [List.map_map]; exact List.map_id _
      have hopt := Hf.opt f N (l.length - 1) (l.map fun t => (t, ℓ (Hf.least t))) (by simpa using hl2) (by rw [hm]; exact hinv) (fun p hp => by
          obtain ⟨t, ht, rfl⟩ := List.mem_map.1 hp
          obtain ⟨c, rfl, hc, h⟩ := hleaf t ht
          exact (hℓ c hc h).2) (by
          unfold Hf.kr
          rw [List.map_map, (hperm.map _).sum_nat]
          unfold leavesTo
          rw [List.map_map, sm_filter]
          refine Nat.le_trans (Nat.le_of_eq ?_) hk
          apply sm_congr
          intro c _
          rfl)
      rw [hm] at hopt
      refine Nat.le_trans hopt ?_
      unfold Hf.cs
      rw [List.map_map, (hperm.map _).sum_nat]
      unfold leavesTo
      rw [List.map_map, sm_filter]
      refine Nat.le_of_eq (sm_congr fun c _ => ?_)
      by_cases h : 0 < f c
      · simp [h, Hf.cost, Hf.wt, Hf.least]
      · simp [h]
theorem codes_of {f : Nat → Nat} {G : Nat → Nat × Nat} (h : CodesOf f G) (hw : ∀ t, (Hf.bytes t).Nodup → (∀ c ∈ Hf.bytes t, c < 256) → Hf.wt f t ≤ 1000) : Codes f (fun c => bl (G c)) :=
  codes_ofG h fun t a b => Nat.le_trans (hw t a b) (by omega)

end Go.Proofs.Ytopihgmemnokkaa
