import Derived.Test.YtopihgmemnokkaaGreatRefC2C
import Derived.Test.YtopihgmemnokkaaGreatBitW4C
namespace Go.Proofs.YtopihgmemnokkaaGreat
open Go.RowKit Go.Shelf Go.Lib

/-- all but two, of the first so many -/
def restTo {α : Type} (a b : Nat) (ts : List α) : Nat → List α
  | 0 => []
  | i + 1 => if i ≠ a ∧ i ≠ b then restTo a b ts i ++ (ts[i]?).toList else restTo a b ts i

theorem restTo_perm {α : Type} (a b : Nat) (hab : a ≠ b) (ts : List α) (x y : α) (ha : ts[a]? = some x) (hb : ts[b]? = some y) :
    ∀ i, i ≤ ts.length → (restTo a b ts i ++ ((if a < i then [x] else []) ++ (if b < i then [y] else []))).Perm (ts.take i)
  | 0, _ => by simp [restTo]
  | i + 1, h => by
    have IH := restTo_perm a b hab ts x y ha hb i (by omega)
    rw [List.take_succ_eq_append_getElem (by omega)]
    simp only [restTo]
    by_cases e1 : i = a
    · subst e1
      have hx : ts[i] = x := by
        rw [List.getElem?_eq_getElem (by omega)] at ha; simpa using ha
      rw [if_neg (by simp), hx, if_pos (by omega)]
      rw [if_neg (by omega)] at IH
      have e2 : (b < i + 1) = (b < i) := by simp; omega
      simp only [e2]
      rw [List.nil_append] at IH
      refine List.Perm.trans ?_ (IH.append_right [x])
      rw [List.append_assoc]
      exact List.Perm.append_left _ List.perm_append_comm
    · by_cases e2 : i = b
      · subst e2
        have hy : ts[i] = y := by
          rw [List.getElem?_eq_getElem (by omega)] at hb; simpa using hb
        rw [if_neg (by simp), hy, if_pos (by omega : i < i + 1)]
        rw [if_neg (by omega : ¬ i < i), List.append_nil] at IH
        have e3 : (a < i + 1) = (a < i) := by simp; omega
        simp only [e3]
        rw [← List.append_assoc]
        exact IH.append_right [y]
      · rw [if_pos ⟨e1, e2⟩, List.getElem?_eq_getElem (by omega)]
        have e3 : (a < i + 1) = (a < i) := by simp; omega
        have e4 : (b < i + 1) = (b < i) := by simp; omega
        simp only [e3, e4, Option.toList_some]
        refine List.Perm.trans ?_ (IH.append_right [ts[i]])
        rw [List.append_assoc, List.append_assoc]
        exact List.Perm.append_left _ List.perm_append_comm

theorem restTo_all {α : Type} {a b : Nat} (hab : a ≠ b) {ts : List α} {x y : α} (ha : ts[a]? = some x) (hb : ts[b]? = some y) : (restTo a b ts ts.length ++ [x, y]).Perm ts := by
  have h := restTo_perm a b hab ts x y ha hb ts.length (Nat.le_refl _)
  rw [if_pos (List.getElem?_eq_some_iff.1 ha).1, if_pos (List.getElem?_eq_some_iff.1 hb).1, List.take_length] at h
  exact h
theorem restTo_map {α β : Type} (g : α → β) (a b : Nat) (ts : List α) : ∀ i, (restTo a b ts i).map g = restTo a b (ts.map g) i
  | 0 => rfl
  | i + 1 => by
    have IH := restTo_map g a b ts i
    simp only [restTo]
    by_cases h : i ≠ a ∧ i ≠ b
    · rw [if_pos h, if_pos h, List.map_append, IH, List.getElem?_map]
      cases ts[i]? <;> rfl
    · rw [if_neg h, if_neg h, IH]
theorem restTo_mem {α : Type} {a b : Nat} {ts : List α} {t : α} : ∀ {i : Nat}, t ∈ restTo a b ts i → t ∈ ts
  | 0, h => by simp [restTo] at h
  | i + 1, h => by
    simp only [restTo] at h
    by_cases e : i ≠ a ∧ i ≠ b
    · rw [if_pos e, List.mem_append] at h
      rcases h with h | h
      · exact restTo_mem h
      · rcases he : ts[i]? with _ | u
        · rw [he] at h; simp at h
        · rw [he] at h
          have : t = u := by simpa using h
          rw [this]; exact List.mem_of_getElem? he
    · rw [if_neg e] at h; exact restTo_mem h
theorem restTo_len {α : Type} (a b : Nat) (ts : List α) : ∀ i, (restTo a b ts i).length ≤ i
  | 0 => by simp [restTo]
  | i + 1 => by
    have IH := restTo_len a b ts i
    simp only [restTo]
    by_cases e : i ≠ a ∧ i ≠ b
    · rw [if_pos e, List.length_append]
      have : (ts[i]?).toList.length ≤ 1 := by cases ts[i]? <;> simp
      omega
    · rw [if_neg e]; omega

theorem lt_irr (f : Nat → Nat) (t : Hf.T) : ¬ Hf.lt f t t = true := by rw [Hf.lt_iff]; omega

/-- the two that go first -/
theorem first_two {f : Nat → Nat} {ts L : List Hf.T} (hp : ts.Perm L) (hs : Hf.Srt f L) {a b : Nat} {x y : Hf.T} (ha : ts[a]? = some x) (hb : ts[b]? = some y) (h1 : FirstOf f ts (-1) ts.length a) (h2 : FirstOf f ts (a : Int) ts.length b) :
    ∃ l, L = x :: y :: l := by
  have hab : b ≠ a := by have := h2.2.1; omega
  have hl := hp.length_eq
  have hla := h1.1
  have hlb := h2.1
  match L, hp, hs, hl with
  | [], _, _, hl => simp only [List.length_nil] at hl; omega
  | [_], _, _, hl => simp only [List.length_cons, List.length_nil] at hl; omega
  | u :: v :: l, hp, hs, _ =>
    have hs1 := List.pairwise_cons.1 hs
    have hs2 := List.pairwise_cons.1 hs1.2
    have xu : x = u := by
      have hu : u ∈ ts := hp.mem_iff.2 (by simp)
      obtain ⟨i, hi, hie⟩ := List.mem_iff_getElem.1 hu
      have hi' : ts[i]? = some u := by rw [List.getElem?_eq_getElem hi, hie]
      by_cases e : i = a
      · subst e; rw [ha] at hi'; exact Option.some.inj hi'
      · have hlt := h1.2.2 i hi (by omega) e x u ha hi'
        have hx : x ∈ u :: v :: l := hp.mem_iff.1 (List.mem_of_getElem? ha)
        rcases List.mem_cons.1 hx with hx | hx
        · exact hx
        · exact absurd (Hf.lt_trans hlt (hs1.1 x hx)) (lt_irr f x)
    have nb : ∀ t ∈ v :: l, t ≠ u := fun t ht e => lt_irr f u (by have := hs1.1 t ht; rwa [e] at this)
    have hyu : y ∈ v :: l := by
      have hy : y ∈ u :: v :: l := hp.mem_iff.1 (List.mem_of_getElem? hb)
      rcases List.mem_cons.1 hy with hy | hy
      · exfalso
        have hn : (u :: v :: l).Nodup := List.Pairwise.imp (S := fun s t => s ≠ t) (fun {s t} h (e : s = t) => lt_irr f s (by rwa [← e] at h)) hs
        have hn2 : ts.Nodup := hp.nodup_iff.2 hn
        have e2 : ts[b]? = ts[a]? := by rw [ha, hb, hy, xu]
        exact hab ((List.getElem?_inj hlb hn2).1 e2)
      · exact hy
    have yv : y = v := by
      have hv : v ∈ ts := hp.mem_iff.2 (by simp)
      obtain ⟨i, hi, hie⟩ := List.mem_iff_getElem.1 hv
      have hi' : ts[i]? = some v := by rw [List.getElem?_eq_getElem hi, hie]
      by_cases e : i = b
      · subst e; rw [hb] at hi'; exact Option.some.inj hi'
      · have hia : i ≠ a := by
          rintro rfl
          rw [ha] at hi'
          exact nb v (by simp) ((Option.some.inj hi').symm.trans xu)
        have hlt := h2.2.2 i hi (by omega) e y v hb hi'
        rcases List.mem_cons.1 hyu with hy | hy
        · exact hy
        · exact absurd (Hf.lt_trans hlt (hs2.1 y hy)) (lt_irr f y)
    exact ⟨l, by rw [xu, yv]⟩

/-- trees, in whatever order, that come to the tree J -/
structure Grv (f : Nat → Nat) (J : Hf.T) (ts : List Hf.T) : Prop where
  ex : ∃ L, ts.Perm L ∧ Hf.Inv f L ∧ Hf.join f L = J
  bd : ∀ t ∈ ts, ∀ c ∈ Hf.bytes t, c ≤ 255

theorem Grv.step {f : Nat → Nat} {J : Hf.T} {ts : List Hf.T} (h : Grv f J ts) {a b : Nat} {x y : Hf.T} (ha : ts[a]? = some x) (hb : ts[b]? = some y) (h1 : FirstOf f ts (-1) ts.length a) (h2 : FirstOf f ts (a : Int) ts.length b) :
    Grv f J (restTo a b ts ts.length ++ [.node x y]) := by
  obtain ⟨L, hp, hI, hJ⟩ := h.ex
  have hab : a ≠ b := by have := h2.2.1; omega
  obtain ⟨l, rfl⟩ := first_two hp hI.srt ha hb h1 h2
  refine ⟨⟨Hf.put f (.node x y) l, ?_, hI.step, by rw [← Hf.join_step]; exact hJ⟩, fun t ht c hc => ?_⟩
  · have h3 : (restTo a b ts ts.length ++ [x, y]).Perm (x :: y :: l) := (restTo_all hab ha hb).trans hp
    have h4 : (x :: y :: restTo a b ts ts.length).Perm (x :: y :: l) := (List.perm_append_comm (l₁ := [x, y])).trans h3
    have h5 : (restTo a b ts ts.length).Perm l := h4.cons_inv.cons_inv
    exact (List.perm_append_comm.trans (h5.cons _)).trans (Hf.put_perm f _ l).symm
  · rw [List.mem_append] at ht
    rcases ht with ht | ht
    · exact h.bd t (restTo_mem ht) c hc
    · have : t = .node x y := by simpa using ht
      subst this
      simp only [Hf.bytes, List.mem_append] at hc
      rcases hc with hc | hc
      · exact h.bd x (List.mem_of_getElem? ha) c hc
      · exact h.bd y (List.mem_of_getElem? hb) c hc
theorem step_len {α : Type} {a b : Nat} (hab : a ≠ b) {ts : List α} {x y z : α} (ha : ts[a]? = some x) (hb : ts[b]? = some y) : (restTo a b ts ts.length ++ [z]).length + 1 = ts.length := by
  have := (restTo_all hab ha hb).length_eq
  simp at *; omega

theorem nd_ne : ∀ (ts : List Hf.T), (ts.flatMap Hf.bytes).Nodup → ∀ (i j : Nat) (a b : Hf.T), ts[i]? = some a → ts[j]? = some b → i < j → Hf.least a ≠ Hf.least b
  | [], _, i, _, _, _, h, _, _ => by simp at h
  | t :: l, hn, i, j, a, b, ha, hb, hij => by
    match j, hb, hij with
    | j + 1, hb, hij =>
      rw [List.getElem?_cons_succ] at hb
      match i, ha, hij with
      | 0, ha, _ =>
        have : t = a := by simpa using ha
        subst this
        intro e
        exact Hf.nd_least hn (List.mem_of_getElem? hb) _ (Hf.least_mem t) (by rw [e]; exact Hf.least_mem b)
      | i + 1, ha, hij =>
        rw [List.getElem?_cons_succ] at ha
        rw [List.flatMap_cons, List.nodup_append] at hn
        exact nd_ne l hn.2.1 i j a b ha hb (by omega)
theorem nd_one {ts : List Hf.T} (hn : (ts.flatMap Hf.bytes).Nodup) {t : Hf.T} (ht : t ∈ ts) : (Hf.bytes t).Nodup := by
  induction ts with
  | nil => simp at ht
  | cons u l ih =>
    rw [List.flatMap_cons, List.nodup_append] at hn
    rcases List.mem_cons.1 ht with rfl | ht
    · exact hn.1
    · exact ih hn.2.1 ht

theorem sum_len (f : Nat → Nat) : ∀ l : List Nat, (∀ c ∈ l, 0 < f c) → l.length ≤ (l.map f).sum
  | [], _ => by simp
  | c :: l, h => by
    have := sum_len f l (fun d hd => h d (by simp [hd]))
    have := h c (by simp)
    simp; omega

/-- what is known of each tree -/
structure Fit (f : Nat → Nat) (t : Hf.T) : Prop where
  nd : (Hf.bytes t).Nodup
  wt : Hf.wt f t ≤ 1000
  len : (Hf.paths t).length ≤ 1000
  path : ∀ x ∈ Hf.paths t, x.2.length ≤ 14

theorem Grv.nd {f : Nat → Nat} {J : Hf.T} {ts : List Hf.T} (h : Grv f J ts) : (ts.flatMap Hf.bytes).Nodup := by
  obtain ⟨L, hp, hI, _⟩ := h.ex
  exact (Hf.flat_perm hp).nodup_iff.2 hI.nd
theorem Grv.fit {f : Nat → Nat} {J : Hf.T} {ts : List Hf.T} (h : Grv f J ts) (hw : ∀ t, (Hf.bytes t).Nodup → (∀ c ∈ Hf.bytes t, c < 256) → Hf.wt f t ≤ 1000) {t : Hf.T} (ht : t ∈ ts) : Fit f t := by
  obtain ⟨L, hp, hI, _⟩ := h.ex
  have hn := nd_one h.nd ht
  have hm := hp.mem_iff.1 ht
  have hwt := hw t hn (fun c hc => by have := h.bd t ht c hc; omega)
  have hht := Hf.ht_le (hI.gd t hm) (hI.pos t hm) hwt
  refine ⟨hn, hwt, ?_, fun x hx => Nat.le_trans (Hf.paths_len t x hx) hht⟩
  have h1 := congrArg List.length (Hf.paths_bytes t)
  rw [List.length_map] at h1
  have h2 := sum_len f (Hf.bytes t) (hI.pos t hm)
  rw [← wt_list] at h2
  omega
theorem Grv.forest {f : Nat → Nat} {J : Hf.T} {ts : List Hf.T} (h : Grv f J ts) (hw : ∀ t, (Hf.bytes t).Nodup → (∀ c ∈ Hf.bytes t, c < 256) → Hf.wt f t ≤ 1000) : Forest ts := by
  refine ⟨fun i j a b ha hb hij => ?_, h.bd, fun t ht => by have := (h.fit hw ht).len; omega⟩
  rcases Nat.lt_or_gt_of_ne hij with e | e
  · exact nd_ne ts h.nd i j a b ha hb e
  · exact fun e2 => nd_ne ts h.nd j i b a hb ha e e2.symm
theorem Grv.one {f : Nat → Nat} {J t : Hf.T} (h : Grv f J [t]) : t = J := by
  obtain ⟨L, hp, _, hJ⟩ := h.ex
  have : L = [t] := List.perm_singleton.1 hp.symm
  subst this
  exact hJ

end Go.Proofs.YtopihgmemnokkaaGreat

namespace Go.Proofs.YtopihgmemnokkaaGreat
open Go.RowKit Go.Shelf Go.Lib

theorem own_low {w : World} {base B : Nat} {e : TypeId} {k : Nat} {v : Value} {n : Nat} {xs : List Value} (h : w.ownsRow base e k v n xs) (hB : B ≤ base) : w.ownsRow B e k v n xs := by
  refine ⟨h.1, ?_⟩
  rcases h.2 with h2 | ⟨g, cap, cur, h1, h2, h3⟩
  · exact .inl h2
  · exact .inr ⟨g, cap, cur, h1, Nat.le_trans hB h2, h3⟩
theorem own_shape {w : World} {base : Nat} {e : TypeId} {k : Nat} {v : Value} {n : Nat} {xs : List Value} (h : w.ownsRow base e k v n xs) : ∃ a p, v = .slice a n p := by
  rcases h.2 with ⟨rfl, rfl⟩ | ⟨g, cap, cur, rfl, _⟩
  · exact ⟨_, _, rfl⟩
  · exact ⟨_, _, rfl⟩
theorem own_top {w : World} {base : Nat} {e : TypeId} {k : Nat} {v : Value} {n : Nat} {xs : List Value} (h : w.ownsRow base e k v n xs) {g : Nat} (hg : v.ownBlock = some g) : base ≤ g ∧ g < w.heap.size := by
  rcases h.2 with ⟨rfl, _⟩ | ⟨g', cap, cur, rfl, h1, h2, _⟩
  · cases hg
  · have : g' = g := by simpa [Value.ownBlock] using hg
    subst this
    exact ⟨h1, (Array.getElem?_eq_some_iff.1 h2).1⟩

/-- a tree of the document's in memory: its bytes and its codes, each in a row -/
structure GO (base : Nat) (w : World) (t : Hf.T) (v1 v2 : Value) : Prop where
  b : w.ownsRow base 3 1 v1 (Hf.paths t).length ((Hf.paths t).map fun x => .int .i64 (x.1 : Nat))
  c : w.ownsRow base 9 1 v2 (Hf.paths t).length ((Hf.paths t).map fun x => .string (tx x.2))

theorem GO.low {base B : Nat} {w : World} {t : Hf.T} {v1 v2 : Value} (h : GO base w t v1 v2) (hB : B ≤ base) : GO B w t v1 v2 := ⟨own_low h.b hB, own_low h.c hB⟩
theorem GO.keep {base : Nat} {w w' : World} {t : Hf.T} {v1 v2 : Value} (h : GO base w t v1 v2) {P : Nat → Prop} (hk : Kept P w w') (h1 : ∀ g, v1.ownBlock = some g → ¬ P g) (h2 : ∀ g, v2.ownBlock = some g → ¬ P g) : GO base w' t v1 v2 :=
  ⟨own_keep h.b hk h1, own_keep h.c hk h2⟩
theorem GO.below {base : Nat} {w w' : World} {t : Hf.T} {v1 v2 : Value} (h : GO base w t v1 v2) (hb : Below w.heap.size w w') : GO base w' t v1 v2 :=
  h.keep (Kept.of_below hb (Nat.le_refl _) (fun _ => False)) (fun _ _ h => h) (fun _ _ h => h)
theorem GO.slices {base : Nat} {w : World} {t : Hf.T} {v1 v2 : Value} (h : GO base w t v1 v2) : ∃ g1 c1 g2 c2, v1 = .slice (some ⟨g1, 0, none⟩) (Hf.paths t).length c1 ∧ v2 = .slice (some ⟨g2, 0, none⟩) (Hf.paths t).length c2 ∧
    (∀ i x, (Hf.paths t)[i]? = some x → w.cell? ⟨g1, i, none⟩ = some (.int .i64 (x.1 : Nat)) ∧ w.cell? ⟨g2, i, none⟩ = some (.string (tx x.2))) := by
  have hp := paths_pos t
  obtain ⟨g1, c1, rfl, _⟩ := h.b.form hp
  obtain ⟨g2, c2, rfl, _⟩ := h.c.form hp
  refine ⟨g1, c1, g2, c2, rfl, rfl, fun i x hx => ⟨own_cell h.b ?_, own_cell h.c ?_⟩⟩
  · rw [List.getElem?_map, hx]; rfl
  · rw [List.getElem?_map, hx]; rfl
theorem GO.gv {base : Nat} {w : World} {t : Hf.T} {v1 v2 : Value} (h : GO base w t v1 v2) : GV w t v1 v2 := by
  obtain ⟨g1, c1, g2, c2, h1, h2, h3⟩ := h.slices
  exact ⟨g1, c1, g2, c2, h1, h2, h3⟩

theorem range_map {α β : Type} (l : List α) (d : α) (g : α → β) : ((List.range l.length).map fun i => g (l[i]?.getD d)) = l.map g := by
  apply List.ext_getElem
  · simp
  · intro i h1 h2
    simp at h1
    simp [h1]

theorem tx_false (p : List Bool) : (⟨#[48]⟩ : ByteArray) ++ tx p = tx (false :: p) := by
  rw [show false :: p = [false] ++ p from rfl, tx_append]; rfl
theorem tx_true (p : List Bool) : (⟨#[49]⟩ : ByteArray) ++ tx p = tx (true :: p) := by
  rw [show true :: p = [true] ++ p from rfl, tx_append]; rfl

theorem joined_any (f : Nat → Nat) (a b : Hf.T) (base : Nat) (v1 v2 u1 u2 : Value) (w : World) (ha : GO base w a v1 v2) (hb : GO base w b u1 u2) (fa : Fit f a) (fb : Fit f b) :
    Calls Tryz.prog 137 #[.agg #[.int .i64 (Hf.wt f a : Nat), v1, v2], .agg #[.int .i64 (Hf.wt f b : Nat), u1, u2]] w fun e w' => ∃ x1 x2, e = .returned (.agg #[.int .i64 ((Hf.wt f (.node a b) : Nat) : Int), x1, x2]) ∧ GO w.heap.size w' (.node a b) x1 x2 ∧ Below w.heap.size w w' := by
  obtain ⟨g1, c1, g2, c2, rfl, rfl, h3⟩ := ha.slices
  obtain ⟨g3, c3, g4, c4, rfl, rfl, h4⟩ := hb.slices
  have get : ∀ (t : Hf.T) (i : Nat), i < (Hf.paths t).length → (Hf.paths t)[i]? = some ((Hf.paths t)[i]?.getD (0, [])) := fun t i hi => by rw [List.getElem?_eq_getElem hi]; rfl
  have l1 := fa.len
  have l2 := fb.len
  have l3 := fa.wt
  have l4 := fb.wt
  have sz : ∀ {t : Hf.T}, Fit f t → ∀ i, i < (Hf.paths t).length → (tx ((Hf.paths t)[i]?.getD (0, [])).2).size ≤ 100000 := fun {t} ft i hi => by
    rw [tx_size]
    have := ft.path _ (List.mem_of_getElem? (get t i hi))
    omega
  refine (joined_rows (Hf.paths a).length (Hf.paths b).length (fun i => ((Hf.paths a)[i]?.getD (0, [])).1) (fun i => ((Hf.paths b)[i]?.getD (0, [])).1) (fun i => tx ((Hf.paths a)[i]?.getD (0, [])).2) (fun i => tx ((Hf.paths b)[i]?.getD (0, [])).2)
    g1 g2 g3 g4 c1 c2 c3 c4 (Hf.wt f a) (Hf.wt f b) w (by omega) (by omega) (by omega) (by omega) (fun i hi => (h3 i _ (get a i hi)).1) (fun i hi => (h3 i _ (get a i hi)).2) (sz fa) (fun i hi => (h4 i _ (get b i hi)).1) (fun i hi => (h4 i _ (get b i hi)).2) (sz fb)).mono ?_
  rintro e w' ⟨xv, yv, he, hx, hy, hbl⟩
  refine ⟨xv, yv, he, ⟨?_, ?_⟩, hbl⟩
  · have e1 : XR (fun i => ((Hf.paths a)[i]?.getD (0, [])).1) (Hf.paths a).length ++ XR (fun i => ((Hf.paths b)[i]?.getD (0, [])).1) (Hf.paths b).length = (Hf.paths (.node a b)).map fun x => .int .i64 (x.1 : Nat) := by
      unfold XR
      rw [range_map (Hf.paths a) (0, []) (fun x => Value.int .i64 (x.1 : Nat)), range_map (Hf.paths b) (0, []) (fun x => Value.int .i64 (x.1 : Nat))]
      simp only [Hf.paths, List.map_append, List.map_map]; rfl
    rw [e1] at hx
    have e2 : (Hf.paths (.node a b)).length = (Hf.paths a).length + (Hf.paths b).length := by simp [Hf.paths]
    rw [e2]
    exact own_low hx (by omega)
  · have e1 : YR ⟨#[48]⟩ (fun i => tx ((Hf.paths a)[i]?.getD (0, [])).2) (Hf.paths a).length ++ YR ⟨#[49]⟩ (fun i => tx ((Hf.paths b)[i]?.getD (0, [])).2) (Hf.paths b).length = (Hf.paths (.node a b)).map fun x => .string (tx x.2) := by
      unfold YR
      rw [range_map (Hf.paths a) (0, []) (fun x => Value.string (⟨#[48]⟩ ++ tx x.2)), range_map (Hf.paths b) (0, []) (fun x => Value.string (⟨#[49]⟩ ++ tx x.2))]
      simp only [Hf.paths, List.map_append, List.map_map, tx_false, tx_true]; rfl
    rw [e1] at hy
    have e2 : (Hf.paths (.node a b)).length = (Hf.paths a).length + (Hf.paths b).length := by simp [Hf.paths]
    rw [e2]
    exact own_low hy (by omega)

/-- the cells of a tree of the document's -/
def cellP (f : Nat → Nat) (p : Hf.T × Value × Value) : List Value := [.int .i64 (Hf.wt f p.1 : Nat), p.2.1, p.2.2]
theorem flat3 (f : Nat → Nat) : ∀ (ps : List (Hf.T × Value × Value)) (i : Nat) (p : Hf.T × Value × Value), ps[i]? = some p →
    (ps.flatMap (cellP f))[i * 3]? = some (.int .i64 (Hf.wt f p.1 : Nat)) ∧ (ps.flatMap (cellP f))[i * 3 + 1]? = some p.2.1 ∧ (ps.flatMap (cellP f))[i * 3 + 2]? = some p.2.2
  | [], i, p, h => by simp at h
  | q :: ps, 0, p, h => by
    have : q = p := by simpa using h
    subst this
    simp [cellP]
  | q :: ps, i + 1, p, h => by
    rw [List.getElem?_cons_succ] at h
    obtain ⟨h1, h2, h3⟩ := flat3 f ps i p h
    rw [List.flatMap_cons]
    have hl : (cellP f q).length = 3 := rfl
    refine ⟨?_, ?_, ?_⟩
    · rw [List.getElem?_append_right (by omega), hl, show (i + 1) * 3 - 3 = i * 3 by omega]; exact h1
    · rw [List.getElem?_append_right (by omega), hl, show (i + 1) * 3 + 1 - 3 = i * 3 + 1 by omega]; exact h2
    · rw [List.getElem?_append_right (by omega), hl, show (i + 1) * 3 + 2 - 3 = i * 3 + 2 by omega]; exact h3

/-- a row of trees in memory -/
structure FR (f : Nat → Nat) (base : Nat) (w : World) (lv : Value) (ps : List (Hf.T × Value × Value)) : Prop where
  own : w.ownsRow base 209 3 lv ps.length (ps.flatMap (cellP f))
  all : ∀ p ∈ ps, GO base w p.1 p.2.1 p.2.2

theorem FR.below {f : Nat → Nat} {base : Nat} {w w' : World} {lv : Value} {ps : List (Hf.T × Value × Value)} (h : FR f base w lv ps) (hb : Below w.heap.size w w') : FR f base w' lv ps :=
  ⟨own_keep h.own (Kept.of_below hb (Nat.le_refl _) (fun _ => False)) (fun _ _ h => h), fun p hp => (h.all p hp).below hb⟩
theorem own3_cells {w : World} {base : Nat} {e : TypeId} {g n cap : Nat} {xs : List Value} (h : w.ownsRow base e 3 (.slice (some ⟨g, 0, none⟩) n cap) n xs) {i : Nat} {u : Value} (hu : xs[i]? = some u) : w.cell? ⟨g, i, none⟩ = some u := by
  have := h.cells (g := g) rfl i u hu
  have e : (⟨g, 0, none⟩ : Addr).add i = ⟨g, i, none⟩ := by
    unfold Addr.add
    simp; omega
  rw [e] at this; exact this
theorem FR.row {f : Nat → Nat} {base : Nat} {w : World} {lv : Value} {ps : List (Hf.T × Value × Value)} (h : FR f base w lv ps) (hp : 0 < ps.length) :
    ∃ g cap, lv = .slice (some ⟨g, 0, none⟩) ps.length cap ∧ base ≤ g ∧ g < w.heap.size ∧
      (∀ i p, ps[i]? = some p → w.cell? ⟨g, i * 3, none⟩ = some (.int .i64 (Hf.wt f p.1 : Nat)) ∧ w.cell? ⟨g, i * 3 + 1, none⟩ = some p.2.1 ∧ w.cell? ⟨g, i * 3 + 2, none⟩ = some p.2.2) ∧ GRow f w g (ps.map Prod.fst) := by
  obtain ⟨g, cap, rfl, _⟩ := h.own.form hp
  have hc : ∀ i p, ps[i]? = some p → w.cell? ⟨g, i * 3, none⟩ = some (.int .i64 (Hf.wt f p.1 : Nat)) ∧ w.cell? ⟨g, i * 3 + 1, none⟩ = some p.2.1 ∧ w.cell? ⟨g, i * 3 + 2, none⟩ = some p.2.2 := fun i p hi => by
    obtain ⟨h1, h2, h3⟩ := flat3 f ps i p hi
    exact ⟨own3_cells h.own h1, own3_cells h.own h2, own3_cells h.own h3⟩
  refine ⟨g, cap, rfl, (own_top h.own rfl).1, (own_top h.own rfl).2, hc, fun i t ht => ?_⟩
  rw [List.getElem?_map] at ht
  rcases hi : ps[i]? with _ | p
  · rw [hi] at ht; simp at ht
  · rw [hi] at ht
    have : p.1 = t := by simpa using ht
    subst this
    obtain ⟨h1, h2, h3⟩ := hc i p hi
    exact ⟨p.2.1, p.2.2, h1, h2, h3, (h.all p (List.mem_of_getElem? hi)).gv⟩

/-- one tree more in the row itself -/
theorem FR.more {f : Nat → Nat} {base : Nat} {w w2 : World} {lv : Value} {ps : List (Hf.T × Value × Value)} (h : FR f base w lv ps) {p : Hf.T × Value × Value} (hp : GO base w p.1 p.2.1 p.2.2) {g cap : Nat}
    (hown : w2.ownsRow base 209 3 (.slice (some ⟨g, 0, none⟩) (ps.length + 1) cap) (ps.length + 1) (ps.flatMap (cellP f) ++ cellP f p)) (hg : w.grownBy w2 lv.ownBlock) : FR f base w2 (.slice (some ⟨g, 0, none⟩) (ps.length + 1) cap) (ps ++ [p]) := by
  have hk : Kept (fun a => some a = lv.ownBlock) w w2 := (Kept.refl _ w).grown hg (fun a h _ => h.symm)
  refine ⟨?_, fun q hq => ?_⟩
  · rw [List.length_append, List.flatMap_append]
    simpa using hown
  · have hG : GO base w q.1 q.2.1 q.2.2 := by
      rw [List.mem_append] at hq
      rcases hq with hq | hq
      · exact h.all q hq
      · have : q = p := by simpa using hq
        rw [this]; exact hp
    exact hG.keep hk (ne_of (owns_ne h.own hG.b (by decide))) (ne_of (owns_ne h.own hG.c (by decide)))

theorem new_row (w : World) (base : Nat) (hb : base ≤ w.heap.size) (e : TypeId) (u : Value) {g : Nat} (hg : w.heap.size = g) : (w.alloc (.cells #[u] e)).ownsRow base e 1 (.slice (some ⟨g, 0, none⟩) 1 1) 1 [u] := by
  subst hg
  exact ⟨rfl, .inr ⟨w.heap.size, 1, #[u], rfl, hb, heap_alloc_new w _, Nat.le_refl _, by decide, rfl, rfl⟩⟩
theorem below_alloc (w : World) (o : Obj) : Below w.heap.size w (w.alloc o) := (Below.refl _ _).alloc (Nat.le_refl _) o
/-- a leaf, as it is made -/
theorem leaf_go (base : Nat) (w : World) (c : Nat) (hb : base ≤ w.heap.size) (o : Obj) :
    GO base (((w.alloc (.cells #[.int .i64 (c : Nat)] 3)).alloc (.cells #[.string ⟨#[]⟩] 9)).alloc o) (.leaf c) (.slice (some ⟨w.heap.size, 0, none⟩) 1 1) (.slice (some ⟨w.heap.size + 1, 0, none⟩) 1 1) := by
  have h1 := new_row w base hb 3 (.int .i64 (c : Nat)) rfl
  have h2 := new_row (w.alloc (.cells #[.int .i64 (c : Nat)] 3)) base (by simp; omega) 9 (.string ⟨#[]⟩) (g := w.heap.size + 1) (by simp)
  have k : ∀ (w : World) (o : Obj), Kept (fun _ => False) w (w.alloc o) := fun w o => Kept.of_below (below_alloc w o) (Nat.le_refl _) _
  exact ⟨own_keep (own_keep h1 (k _ _) (fun _ _ h => h)) (k _ _) (fun _ _ h => h), own_keep h2 (k _ _) (fun _ _ h => h)⟩

theorem SRow.frozen {w : World} {g : Nat} {t : Nat → ByteArray} (h : SRow w g t) (c : Nat) : w.frozen? ⟨g, c, none⟩ = false := by
  unfold SRow at h; simp [World.frozen?, h]
theorem SRow.set {w : World} {g : Nat} {t : Nat → ByteArray} (h : SRow w g t) (c : Nat) (v : ByteArray) : SRow (w.setCell ⟨g, c, none⟩ (.string v)) g (putS t c v) := by
  unfold SRow at *
  rw [← rowS_set]
  simp [World.setCell, Array.getElem?_modify, h]
theorem SRow.ne {w : World} {b : Nat} {t : Nat → ByteArray} (h : SRow w b t) {base : Nat} {e : TypeId} {k : Nat} {v : Value} {m : Nat} {xs : List Value} (h1 : w.ownsRow base e k v m xs) (he : e ≠ 9) : v.ownBlock ≠ some b := by
  intro hb
  rcases h1.2 with ⟨rfl, _⟩ | ⟨g, cap, cur, rfl, _, hg, _⟩
  · cases hb
  · have : g = b := by simpa [Value.ownBlock] using hb
    subst this
    unfold SRow at h
    rw [h] at hg
    simp at hg
    exact he hg.2.symm
theorem SRow.new (w : World) : SRow (w.alloc (.cells (rowS fun _ => ByteArray.empty) 9)) w.heap.size (fun _ => ByteArray.empty) := heap_alloc_new w _

/-- codes laid, of the first so many -/
def layTo (ps : List (Nat × List Bool)) : Nat → (Nat → ByteArray)
  | 0 => fun _ => ByteArray.empty
  | i + 1 => match ps[i]? with
    | some x => putS (layTo ps i) x.1 (tx x.2)
    | none => layTo ps i
theorem layTo_succ {ps : List (Nat × List Bool)} {i : Nat} {x : Nat × List Bool} (h : ps[i]? = some x) : layTo ps (i + 1) = putS (layTo ps i) x.1 (tx x.2) := by
  simp only [layTo, h]
theorem leaves_succ (f : Nat → Nat) (k : Nat) : leavesTo f (k + 1) = if 0 < f k then leavesTo f k ++ [.leaf k] else leavesTo f k := by
  unfold leavesTo
  rw [List.range_succ, List.filter_append, List.map_append]
  by_cases h : 0 < f k
  · simp [h]
  · simp [h]

end Go.Proofs.YtopihgmemnokkaaGreat

namespace Go.Proofs.YtopihgmemnokkaaGreat
open Go.RowKit Go.Shelf Go.Lib

theorem Tryz.infoGr : (Tryz.prog.info? 209).map (fun i => (i.zero, i.size, i.bytes)) = some (some (.agg #[.int .i64 0, .slice none 0 0, .slice none 0 0]), 3, 56) := by kernel_rfl

/-- what the document's codes are -/
def RC (f : Nat → Nat) (L : List Hf.T) (t : Nat → ByteArray) : Prop :=
  (leavesTo f 256 = [] ∧ t = fun _ => ByteArray.empty) ∨ (∃ c, c < 256 ∧ leavesTo f 256 = [.leaf c] ∧ t = putS (fun _ => ByteArray.empty) c ⟨#[48]⟩) ∨
  (2 ≤ (leavesTo f 256).length ∧ t = layTo (Hf.paths (Hf.join f L)) (Hf.paths (Hf.join f L)).length)

/-- .. in memory -/
def RA (f : Nat → Nat) (L : List Hf.T) (w : World) (g : Nat) (w' : World) : Prop := ∃ t, SRow w' g t ∧ RC f L t ∧ w.heap.size ≤ g ∧ Below w.heap.size w w'

set_option maxRecDepth 100000 in
set_option maxHeartbeats 8000000 in
theorem refcodes_any (f : Nat → Nat) (L : List Hf.T) (gf : Nat) (w : World) (hR : Row w gf 3 256 f) (hw : ∀ t, (Hf.bytes t).Nodup → (∀ c ∈ Hf.bytes t, c < 256) → Hf.wt f t ≤ 1000) (hf : ∀ c, f c ≤ 1000000)
    (hL : 2 ≤ (leavesTo f 256).length → L.Perm (leavesTo f 256) ∧ Hf.Inv f L) :
    Calls Tryz.prog 90 #[.slice (some ⟨gf, 0, none⟩) 256 256] w fun e w' => ∃ g, e = .returned (.slice (some ⟨g, 0, none⟩) 256 256) ∧ RA f L w g w' := by
  obtain ⟨i0, hi, hz0, hz1, hz2⟩ := info_parts Tryz.infoGr
  have hmk := make_texts
  have HR : Hid (Row w gf 3 256 f) := hR
  have HW : Hid (∀ t, (Hf.bytes t).Nodup → (∀ c ∈ Hf.bytes t, c < 256) → Hf.wt f t ≤ 1000) := hw
  have HF : Hid (∀ c, f c ≤ 1000000) := hf
  have HL : Hid (2 ≤ (leavesTo f 256).length → L.Perm (leavesTo f 256) ∧ Hf.Inv f L) := hL
  have hgf : Hid (gf < w.heap.size) := (Array.getElem?_eq_some_iff.1 hR).1
  clear hR hw hf hL
  go_enter Tryz.func90, Tryz.ntmps90
  go_wp2
  go_loopw [3, 4] (fun lv cv wr => ∃ (c n q : Nat) (a : Option Addr), c ≤ 256 ∧ n ≤ c ∧ cv = .int .i64 c ∧ lv = .slice a n q ∧ Hid (∃ ps, ps.length = n ∧ FR f w.heap.size wr (.slice a n q) ps ∧ ps.map Prod.fst = leavesTo f c) ∧ Hid (Below w.heap.size w wr)) (fun _ cv _ => 256 - (intOf cv).toNat)
  case atStart => exact ⟨0, 0, 0, none, by omega, by omega, rfl, rfl, ⟨[], rfl, ⟨⟨rfl, .inl ⟨rfl, rfl⟩⟩, fun p hp => by simp at hp⟩, rfl⟩, Below.refl _ _⟩
  case round =>
    obtain ⟨c, n, q, a, hc, hn, rfl, rfl, HP, HB⟩ := hrel
    by_cases hlt : c < 256
    · have r0 := (HR.out.below HB.out hgf.out).cell hlt
      have hfc := HF.out c
      have LS0 := leaves_succ f c
      have hci : (c : Int) < 256 := by omega
      by_cases hpos : 0 < f c
      · rw [if_pos hpos] at LS0
        have LS : Hid (leavesTo f (c + 1) = leavesTo f c ++ [.leaf c]) := LS0
        clear LS0
        have d1 : decide ((0 : Int) < ((f c : Nat) : Int)) = true := by simp; omega
        obtain ⟨ps, hpl, hps, hpe⟩ := HP.out
        have HPL : Hid (ps.length = n) := hpl
        have HPE : Hid (ps.map Prod.fst = leavesTo f c) := hpe
        have HPS : Hid (FR f w.heap.size wr (.slice a n q) ps) := hps
        have hbz : w.heap.size ≤ wr.heap.size := HB.out.size
        have B3 := ((below_alloc wr (.cells #[.int .i64 (c : Nat)] 3)).alloc (by simp) (.cells #[.string ⟨#[]⟩] 9)).alloc (by simp; omega) (.cells #[.int .i64 (f c : Nat), .slice (some ⟨wr.heap.size, 0, none⟩) 1 1, .slice (some ⟨wr.heap.size + 1, 0, none⟩) 1 1] 209)
        have F3 := hps.below B3
        have B3' : Hid (Below w.heap.size w (((wr.alloc (.cells #[.int .i64 (c : Nat)] 3)).alloc (.cells #[.string ⟨#[]⟩] 9)).alloc (.cells #[.int .i64 (f c : Nat), .slice (some ⟨wr.heap.size, 0, none⟩) 1 1, .slice (some ⟨wr.heap.size + 1, 0, none⟩) 1 1] 209))) := HB.out.trans (B3.mono hbz)
        have L3 := leaf_go w.heap.size wr c hbz (.cells #[.int .i64 (f c : Nat), .slice (some ⟨wr.heap.size, 0, none⟩) 1 1, .slice (some ⟨wr.heap.size + 1, 0, none⟩) 1 1] 209)
        have O3 := F3.own
        rw [HPL.out] at O3
        clear hpe hps hpl B3
        go_wp2_with (at_builtin; refine wpList_append_lies _ rfl _ _ 207 rfl w.heap.size 209 i0 (.agg #[.int .i64 0, .slice none 0 0, .slice none 0 0]) 3 56 Tryz.underlying207 hi hz0 hz1 hz2 rfl (by decide) _ n (ps.flatMap (cellP f)) rfl O3 ⟨wr.heap.size + 1 + 1, 0, none⟩ 1 1 (cellP f (.leaf c, .slice (some ⟨wr.heap.size, 0, none⟩) 1 1, .slice (some ⟨wr.heap.size + 1, 0, none⟩) 1 1)) rfl rfl ?c1 ?c2 (by decide) ?c3 ?c4 ?c5 _ rfl ?_)
        case c1 => exact World.news_of_block (heap_alloc_new' _ _ (by simp))
        case c2 =>
          intro u hu
          simp [cellP] at hu
          rcases hu with rfl | rfl | rfl <;> rfl
        case c3 => unfold maxLen; omega
        case c4 => omega
        case c5 => simp; omega
        intro g cap w2 hown hg hat hlt2
        rw [← HPL.out] at hown
        have F4 := F3.more (p := (.leaf c, .slice (some ⟨wr.heap.size, 0, none⟩) 1 1, .slice (some ⟨wr.heap.size + 1, 0, none⟩) 1 1)) L3 hown hg
        rw [HPL.out] at F4
        have B4 : Hid (Below w.heap.size w w2) := B3'.out.trans (((Kept.refl (fun k => some k = (Value.slice a n q).ownBlock) _).grown hg (fun a h _ => h.symm)).below (fun k h => (own_top O3 h.symm).1) B3'.out.size)
        clear hown hg hat F3 O3 L3
        go_wp2
        exact ⟨⟨c + 1, n + 1, cap, some ⟨g, 0, none⟩, by omega, by omega, by go_num, rfl, ⟨ps ++ [(.leaf c, .slice (some ⟨wr.heap.size, 0, none⟩) 1 1, .slice (some ⟨wr.heap.size + 1, 0, none⟩) 1 1)], by rw [List.length_append, HPL.out]; rfl, F4, by rw [List.map_append, HPE.out, LS.out]; rfl⟩, B4⟩, by simp [intOf]; omega⟩
      · rw [if_neg hpos] at LS0
        have LS : Hid (leavesTo f (c + 1) = leavesTo f c) := LS0
        clear LS0
        have hz : f c = 0 := by omega
        rw [hz] at r0
        clear hpos hfc
        go_wp2
        exact ⟨⟨c + 1, n, q, a, by omega, by omega, by go_num, rfl, by
          obtain ⟨ps, h1, h2, h3⟩ := HP.out
          exact ⟨ps, h1, h2, by rw [LS.out]; exact h3⟩, HB⟩, by simp [intOf]; omega⟩
    · have hc' : 256 = c := by omega
      subst hc'
      obtain ⟨ps, hpl, hps, hpe⟩ := HP.out
      have HPL : Hid (ps.length = n) := hpl
      have HPE : Hid (ps.map Prod.fst = leavesTo f 256) := hpe
      have HLN : Hid ((leavesTo f 256).length = n) := by show _ = _; rw [← hpe, List.length_map, hpl]
      have FS := hps.below (below_alloc wr (.cells (rowS fun _ => ByteArray.empty) 9))
      have BS : Hid (Below w.heap.size w (wr.alloc (.cells (rowS fun _ => ByteArray.empty) 9))) := HB.out.trans ((below_alloc wr _).mono HB.out.size)
      have SN : Hid (SRow (wr.alloc (.cells (rowS fun _ => ByteArray.empty) 9)) wr.heap.size (fun _ => ByteArray.empty)) := SRow.new wr
      have hbz : Hid (w.heap.size ≤ wr.heap.size) := HB.out.size
      have GLT : Hid (∀ p ∈ ps, ∀ k, p.2.2.ownBlock = some k → k < wr.heap.size) := fun p hp k hk => (own_top (hps.all p hp).c hk).2
      have hm1 := hmk wr
      have S5 : ∀ k, k < wr.heap.size → k < (wr.alloc (.cells (rowS fun _ => ByteArray.empty) 9)).heap.size := fun k hk => by simp; omega
      have S6 : wr.heap.size < (wr.alloc (.cells (rowS fun _ => ByteArray.empty) 9)).heap.size := by simp
      clear HP hps hpl hpe HB HR hgf hmk
      generalize wr.alloc (.cells (rowS fun _ => ByteArray.empty) 9) = w1 at *
      have HS6 : Hid (wr.heap.size < w1.heap.size) := S6
      clear S5 S6
      by_cases h0 : n = 0
      · subst h0
        have HN0 : Hid (leavesTo f 256 = []) := List.eq_nil_of_length_eq_zero HLN.out
        go_wp2
        clear hm1
        go_loopw [3] (fun lv wq => lv = .slice a 0 q ∧ wq = w1) (fun _ _ => 0)
        case atStart => exact ⟨rfl, rfl⟩
        case round =>
          obtain ⟨rfl, rfl⟩ := hrel
          go_wp2
          go_loopw [11] (fun iv wq => iv = .int .i64 0 ∧ wq = wr) (fun _ _ => 0)
          case atStart => exact ⟨rfl, rfl⟩
          case round =>
            obtain ⟨rfl, rfl⟩ := hrel
            go_wp2
            go_ret
            exact ⟨_, rfl, _, SN.out, .inl ⟨HN0.out, rfl⟩, hbz.out, BS.out⟩
      · by_cases h1 : n = 1
        · subst h1
          obtain ⟨p, hp⟩ : ∃ p, ps = [p] := List.length_eq_one_iff.1 HPL.out
          subst hp
          obtain ⟨c0, hc0, hc1, _⟩ := leaves_mem (f := f) (k := 256) (t := p.1) (by rw [← HPE.out]; simp)
          have HN1 : Hid (leavesTo f 256 = [.leaf c0]) := by show _ = _; rw [← HPE.out, ← hc0]; rfl
          obtain ⟨g, cap, hlv, _, _, hcell, _⟩ := FS.row (by simp)
          obtain ⟨_, k1, _⟩ := hcell 0 p rfl
          obtain ⟨g1, c1, g2, c2, e1, e2, e3⟩ := (FS.all p (by simp)).slices
          rw [hc0] at e1 e3
          have k2 := (e3 0 (c0, []) rfl).1
          rw [e1] at k1
          injection hlv with hlv1 hlv2 hlv3
          clear hlv2
          subst hlv1 hlv3
          have s1 := SN.out.cell hc1
          have s2 := SN.out.frozen c0
          have HS : Hid (SRow (w1.setCell ⟨wr.heap.size, c0, none⟩ (.string ⟨#[48]⟩)) wr.heap.size (putS (fun _ => ByteArray.empty) c0 ⟨#[48]⟩)) := SN.out.set c0 _
          have HBB : Hid (Below w.heap.size w (w1.setCell ⟨wr.heap.size, c0, none⟩ (.string ⟨#[48]⟩))) := BS.out.setCell hbz.out _
          have hci : (c0 : Int) < 256 := by omega
          simp only [Hf.paths, List.length_cons, List.length_nil] at k1
          clear hcell e1 e2 e3 hc0
          go_wp2
          go_ret
          exact ⟨_, rfl, _, HS.out, .inr (.inl ⟨c0, hc1, HN1.out, rfl⟩), hbz.out, HBB.out⟩
        · have hn2 : 2 ≤ n := by omega
          obtain ⟨hLp, hLI⟩ := HL.out (by rw [HLN.out]; exact hn2)
          have GV0 : Hid (Grv f (Hf.join f L) (ps.map Prod.fst)) := ⟨⟨L, by rw [HPE.out]; exact hLp.symm, hLI, rfl⟩, fun t ht c hc => by
            rw [HPE.out] at ht
            obtain ⟨c', rfl, h1, _⟩ := leaves_mem ht
            have : c = c' := by simpa [Hf.bytes] using hc
            omega⟩
          have HN2 : Hid (2 ≤ (leavesTo f 256).length) := by show _ ≤ _; rw [HLN.out]; exact hn2
          have GNE : Hid (∀ p ∈ ps, p.2.2.ownBlock ≠ some wr.heap.size) := fun p hp e => by have := GLT.out p hp _ e; omega
          have d1 : ((n : Int) == 1) = false := beq_eq_false_iff_ne.2 (by omega)
          have d2 : (n == 1) = false := beq_eq_false_iff_ne.2 (by omega)
          have FS' : Hid (FR f w.heap.size w1 (.slice a n q) ps) := FS
          clear FS hLp hLI HL GLT HPE HLN
          go_wp2
          clear hm1
          generalize hog : wr.heap.size = og at *
          clear hog
          rw [show ((256 : Nat) : Int) = 256 from rfl]
          clear hc hlt h0 h1
          go_loopw [3] (fun lv wq => ∃ (m q : Nat) (a : Option Addr), m ≤ 256 ∧ 1 ≤ m ∧ lv = .slice a m q ∧ Hid (∃ ps, ps.length = m ∧ FR f w.heap.size wq (.slice a m q) ps ∧ Grv f (Hf.join f L) (ps.map Prod.fst) ∧ ∀ p ∈ ps, p.2.2.ownBlock ≠ some og) ∧ Hid (Below w.heap.size w wq) ∧ Hid (SRow wq og (fun _ => ByteArray.empty))) (fun lv _ => slLen lv)
          case atStart => exact ⟨n, q, a, by omega, by omega, rfl, ⟨ps, HPL.out, FS'.out, GV0.out, GNE.out⟩, BS, SN⟩
          case round =>
            clear FS' GV0 GNE BS SN d1 d2
            obtain ⟨m, q, a, hm, hm1, rfl, HP, HB, HS⟩ := hrel
            obtain ⟨ps, hpl, hps, hgr, hne⟩ := HP.out
            by_cases hgt : 1 < m
            · obtain ⟨g, cap, hlv, hg1, hg2, hcell, hrow⟩ := hps.row (by omega)
              injection hlv with e1 e2 e3
              clear e2 cap e3
              subst e1
              have FO := hgr.forest HW.out
              have hlm : (ps.map Prod.fst).length = m := by rw [List.length_map, hpl]
              have hwt : ∀ t ∈ ps.map Prod.fst, Hf.wt f t ≤ 1000000 := fun t ht => by have := (hgr.fit HW.out ht).wt; omega
              have FA := first_any f (ps.map Prod.fst) g q (-1) wr hrow FO (by omega) ⟨0, by omega, by omega⟩ hwt
              rw [hlm] at FA
              have FB : Hid (∀ (x : Nat) (W : World), Below wr.heap.size wr W → Calls Tryz.prog 136 #[.slice (some ⟨g, 0, none⟩) m q, .int .i64 (x : Nat)] W fun e w' => (∃ b : Nat, e = .returned (.int .i64 (b : Nat)) ∧ FirstOf f (ps.map Prod.fst) (x : Int) m b) ∧ Below W.heap.size W w') := fun x W hW => by
                have h := first_any f (ps.map Prod.fst) g q (x : Int) W (hrow.below hW) FO (by omega) ⟨if x = 0 then 1 else 0, by split <;> omega, by split <;> omega⟩ hwt
                rwa [hlm] at h
              have HFA : Hid (Calls Tryz.prog 136 #[.slice (some ⟨g, 0, none⟩) m q, .int .i64 (-1)] wr fun e w' => (∃ b : Nat, e = .returned (.int .i64 (b : Nat)) ∧ FirstOf f (ps.map Prod.fst) (-1) m b) ∧ Below wr.heap.size wr w') := FA
              have HPL : Hid (ps.length = m) := hpl
              have HLM : Hid ((ps.map Prod.fst).length = m) := hlm
              have HPS : Hid (FR f w.heap.size wr (.slice (some ⟨g, 0, none⟩) m q) ps) := hps
              have HGR : Hid (Grv f (Hf.join f L) (ps.map Prod.fst)) := hgr
              have HNE : Hid (∀ p ∈ ps, p.2.2.ownBlock ≠ some og) := hne
              have HCE : Hid (∀ i p, ps[i]? = some p → wr.cell? ⟨g, i * 3, none⟩ = some (.int .i64 (Hf.wt f p.1 : Nat)) ∧ wr.cell? ⟨g, i * 3 + 1, none⟩ = some p.2.1 ∧ wr.cell? ⟨g, i * 3 + 2, none⟩ = some p.2.2) := hcell
              have hmi : (1 : Int) < (m : Int) := by omega
              clear HP FO hlm hwt FA hrow hcell hne hgr hps hpl hg1 hg2
              go_wp2_with fail
              refine HFA.out.mono ?_
              rintro e w2 ⟨⟨x, rfl, hx⟩, hb2⟩
              have HX : Hid (FirstOf f (ps.map Prod.fst) (-1) m x) := hx
              have HB2 : Hid (Below wr.heap.size wr w2) := hb2
              have hxm : x < m := hx.1
              clear hx hb2 HFA
              go_wp2_with fail
              refine (FB.out x w2 HB2.out).mono ?_
              rintro e w3 ⟨⟨y, rfl, hy⟩, hb3⟩
              have HY : Hid (FirstOf f (ps.map Prod.fst) (x : Int) m y) := hy
              have hym : y < m := hy.1
              have HXY : Hid (x ≠ y) := by show ¬ _; have := hy.2.1; omega
              have HB3 : Hid (Below wr.heap.size wr w3) := HB2.out.trans (hb3.mono HB2.out.size)
              clear hy hb3 FB HB2
              obtain ⟨p1, hp1⟩ : ∃ p, ps[x]? = some p := ⟨_, List.getElem?_eq_getElem (by rw [HPL.out]; exact hxm)⟩
              obtain ⟨p2, hp2⟩ : ∃ p, ps[y]? = some p := ⟨_, List.getElem?_eq_getElem (by rw [HPL.out]; exact hym)⟩
              have HP1 : Hid (ps[x]? = some p1) := hp1
              have HP2 : Hid (ps[y]? = some p2) := hp2
              have hxi : (x : Int) < (m : Int) := by omega
              have hyi : (y : Int) < (m : Int) := by omega
              have HSS : Hid (∀ w', Below wr.heap.size wr w' → (w'.cell? ⟨g, x * 3, none⟩ = some (.int .i64 (Hf.wt f p1.1 : Nat)) ∧ w'.cell? ⟨g, x * 3 + 1, none⟩ = some p1.2.1 ∧ w'.cell? ⟨g, x * 3 + 2, none⟩ = some p1.2.2 ∧ w'.cell? ⟨g, y * 3, none⟩ = some (.int .i64 (Hf.wt f p2.1 : Nat)) ∧ w'.cell? ⟨g, y * 3 + 1, none⟩ = some p2.2.1 ∧ w'.cell? ⟨g, y * 3 + 2, none⟩ = some p2.2.2)) := fun w' hb => by
                obtain ⟨a1, a2, a3⟩ := HCE.out x p1 HP1.out
                obtain ⟨b1, b2, b3⟩ := HCE.out y p2 HP2.out
                exact ⟨rdB hb a1, rdB hb a2, rdB hb a3, rdB hb b1, rdB hb b2, rdB hb b3⟩
              have hS0 := HSS.out w3.drew (below_drewN HB3.out 1)
              have JA : Hid (∀ W, Below wr.heap.size wr W → Calls Tryz.prog 137 #[.agg #[.int .i64 (Hf.wt f p1.1 : Nat), p1.2.1, p1.2.2], .agg #[.int .i64 (Hf.wt f p2.1 : Nat), p2.2.1, p2.2.2]] W fun e w' => ∃ x1 x2, e = .returned (.agg #[.int .i64 ((Hf.wt f (.node p1.1 p2.1) : Nat) : Int), x1, x2]) ∧ GO W.heap.size w' (.node p1.1 p2.1) x1 x2 ∧ Below W.heap.size W w') := fun W hW =>
                joined_any f p1.1 p2.1 w.heap.size _ _ _ _ W ((HPS.out.all p1 (List.mem_of_getElem? HP1.out)).below hW) ((HPS.out.all p2 (List.mem_of_getElem? HP2.out)).below hW) (HGR.out.fit HW.out (List.mem_map_of_mem (f := Prod.fst) (List.mem_of_getElem? HP1.out))) (HGR.out.fit HW.out (List.mem_map_of_mem (f := Prod.fst) (List.mem_of_getElem? HP2.out)))
              clear hp1 hp2
              go_wp2_with fail
              refine wp_region_held_drew (S := fun w' => w'.cell? ⟨g, x * 3, none⟩ = some (.int .i64 (Hf.wt f p1.1 : Nat)) ∧ w'.cell? ⟨g, x * 3 + 1, none⟩ = some p1.2.1 ∧ w'.cell? ⟨g, x * 3 + 2, none⟩ = some p1.2.2 ∧ w'.cell? ⟨g, y * 3, none⟩ = some (.int .i64 (Hf.wt f p2.1 : Nat)) ∧ w'.cell? ⟨g, y * 3 + 1, none⟩ = some p2.2.1 ∧ w'.cell? ⟨g, y * 3 + 2, none⟩ = some p2.2.2) (by kernel_rfl) hS0 (fun s0 => ?_)
              clear s0
              refine wpAnyH_take (i := 0) (v := ?vR14_0) rfl (by kernel_rfl) (by kernel_rfl) (by kernel_rfl) (fun _ _ _ h => h) (Or.inl ⟨by rfl, ?hR14_0⟩) hS0 ?_
              case hR14_0 => intro wq hS; obtain ⟨s1, s2, s3, s4, s5, s6⟩ := hS; first | (go_simp; done) | (go_simp; with_reducible rfl)
              refine wpAnyH_take (i := 1) (v := ?vR14_1) rfl (by kernel_rfl) (by kernel_rfl) (by kernel_rfl) (fun _ _ _ h => h) (Or.inl ⟨by rfl, ?hR14_1⟩) hS0 ?_
              case hR14_1 => intro wq hS; obtain ⟨s1, s2, s3, s4, s5, s6⟩ := hS; first | (go_simp; done) | (go_simp; with_reducible rfl)
              refine wpAnyH_take (i := 2) (v := ?vR14_2) rfl (by kernel_rfl) (by kernel_rfl) (by kernel_rfl) (fun _ _ _ h => h) (Or.inl ⟨by rfl, ?hR14_2⟩) hS0 ?_
              case hR14_2 => intro wq hS; obtain ⟨s1, s2, s3, s4, s5, s6⟩ := hS; first | (go_simp; done) | (go_simp; with_reducible rfl)
              refine wpAnyH_take (i := 3) (v := ?vR14_3) rfl (by kernel_rfl) (by kernel_rfl) (by kernel_rfl) (fun _ _ _ h => h) (Or.inl ⟨by rfl, ?hR14_3⟩) hS0 ?_
              case hR14_3 => intro wq hS; obtain ⟨s1, s2, s3, s4, s5, s6⟩ := hS; first | (go_simp; done) | (go_simp; with_reducible rfl)
              refine wpAnyH_take (i := 4) (v := ?vR14_4) rfl (by kernel_rfl) (by kernel_rfl) (by kernel_rfl) (fun _ _ _ h => h) (Or.inl ⟨by rfl, ?hR14_4⟩) hS0 ?_
              case hR14_4 => intro wq hS; obtain ⟨s1, s2, s3, s4, s5, s6⟩ := hS; first | (go_simp; done) | (go_simp; with_reducible rfl)
              refine wpAnyH_take (i := 5) (v := ?vR14_5) rfl (by kernel_rfl) (by kernel_rfl) (by kernel_rfl) (fun _ _ _ h => h) (Or.inl ⟨by rfl, ?hR14_5⟩) hS0 ?_
              case hR14_5 => intro wq hS; obtain ⟨s1, s2, s3, s4, s5, s6⟩ := hS; first | (go_simp; done) | (go_simp; with_reducible rfl)
              refine wpAnyH_take (i := 6) (v := ?vR14_6) rfl (by kernel_rfl) (by kernel_rfl) (by kernel_rfl) (fun _ _ _ h => h) (Or.inl ⟨by rfl, ?hR14_6⟩) hS0 ?_
              case hR14_6 => intro wq hS; obtain ⟨s1, s2, s3, s4, s5, s6⟩ := hS; first | (go_simp; done) | (go_simp; with_reducible rfl)
              refine wpAnyH_take (i := 7) (v := ?vR14_7) rfl (by kernel_rfl) (by kernel_rfl) (by kernel_rfl) (fun _ _ _ h => h) (Or.inl ⟨by rfl, ?hR14_7⟩) hS0 ?_
              case hR14_7 => intro wq hS; obtain ⟨s1, s2, s3, s4, s5, s6⟩ := hS; first | (go_simp; done) | (go_simp; with_reducible rfl)
              refine wpAnyH_ready (rs := [8, 9]) (by kernel_rfl) (by simp) ?_
              refine AllReadyH.cons rfl (fun K hK => ?_) (AllReadyH.cons rfl (fun K hK => ?_) AllReadyH.nil)
              focus
                go_simp
                refine (JA.out w3.drew (below_drewN HB3.out 1)).mono ?_
                rintro e w4 ⟨x1, x2, rfl, hgo, hb4⟩
                have HB4 : Hid (Below wr.heap.size wr w4) := (below_drewN HB3.out 1).trans (hb4.mono HB3.out.size)
                have hS4 := HSS.out w4 HB4.out
                refine hK.out _ _ hS4 (fun s0 => ?_)
                clear s0 hK K
                have HB5 : Hid (Below wr.heap.size wr (w4.alloc (.cells #[.int .i64 0, .slice none 0 0, .slice none 0 0] 209))) := HB4.out.alloc HB4.out.size _
                have hS5 := HSS.out _ HB5.out
                refine wpAnyH_ready (rs := [9]) (by kernel_rfl) (by simp) ?_
                refine AllReadyH.cons rfl (fun K hK => ?_) AllReadyH.nil
                go_simp
                refine hK.out _ _ hS5 (fun s0 => ?_)
                clear s0 hK K hS0 hS4
                have HT : Hid (Three (w4.alloc (.cells #[.int .i64 0, .slice none 0 0, .slice none 0 0] 209)) w4.heap.size (.int .i64 0) (.slice none 0 0) (.slice none 0 0)) := three_new w4 _ _ _ rfl
                have HG : Hid (GO wr.heap.size (w4.alloc (.cells #[.int .i64 0, .slice none 0 0, .slice none 0 0] 209)) (.node p1.1 p2.1) x1 x2) := (hgo.below (below_alloc w4 _)).low HB3.out.size
                have HBX : Hid (wr.heap.size ≤ w4.heap.size) := HB4.out.size
                clear hgo hb4 HB4
                generalize w4.alloc (.cells #[.int .i64 0, .slice none 0 0, .slice none 0 0] 209) = w5 at *
                generalize w4.heap.size = bx at *
              rotate_left
              focus
                have HB4 : Hid (Below wr.heap.size wr (w3.alloc (.cells #[.int .i64 0, .slice none 0 0, .slice none 0 0] 209)).drew) := below_drewN (HB3.out.alloc HB3.out.size _) 1
                have hS4 := HSS.out _ HB4.out
                go_simp
                refine hK.out _ _ hS4 (fun s0 => ?_)
                clear s0 hK K
                refine wpAnyH_ready (rs := [8]) (by kernel_rfl) (by simp) ?_
                refine AllReadyH.cons rfl (fun K hK => ?_) AllReadyH.nil
                go_simp
                have HT4 : Three (w3.alloc (.cells #[.int .i64 0, .slice none 0 0, .slice none 0 0] 209)).drew w3.heap.size (.int .i64 0) (.slice none 0 0) (.slice none 0 0) := three_new w3 _ _ _ rfl
                have hlt4 : w3.heap.size < (w3.alloc (.cells #[.int .i64 0, .slice none 0 0, .slice none 0 0] 209)).drew.heap.size := by show _ < (w3.alloc _).heap.size; simp
                refine (JA.out _ HB4.out).mono ?_
                rintro e w5 ⟨x1, x2, rfl, hgo, hb4⟩
                have HB5 : Hid (Below wr.heap.size wr w5) := HB4.out.trans (hb4.mono HB4.out.size)
                have hS5 := HSS.out w5 HB5.out
                refine hK.out _ _ hS5 (fun s0 => ?_)
                clear s0 hK K hS0 hS4
                have HT : Hid (Three w5 w3.heap.size (.int .i64 0) (.slice none 0 0) (.slice none 0 0)) := HT4.below hb4 hlt4
                have HG : Hid (GO wr.heap.size w5 (.node p1.1 p2.1) x1 x2) := hgo.low HB4.out.size
                have HBX : Hid (wr.heap.size ≤ w3.heap.size) := HB3.out.size
                clear hgo hb4 HB4 HT4 hlt4
                generalize w3.heap.size = bx at *
              all_goals
                clear JA
                obtain ⟨g1, c1, g2, c2, hx1, hx2, _⟩ := HG.out.slices
                subst hx1 hx2
                generalize hln : (Hf.paths (.node p1.1 p2.1)).length = ln at *
                generalize hwn : Hf.wt f (.node p1.1 p2.1) = wn at *
                have HLNN : Hid ((Hf.paths (.node p1.1 p2.1)).length = ln) := hln
                have HWN : Hid (Hf.wt f (.node p1.1 p2.1) = wn) := hwn
                clear hln hwn
                have f0 := HT.out.frozen 0
                have r0 := HT.out.cell 0
                have T1 := HT.out.set0 (.int .i64 (wn : Nat))
                have T2 := T1.set1 (.slice (some ⟨g1, 0, none⟩) ln c1)
                have T3 := T2.set2 (.slice (some ⟨g2, 0, none⟩) ln c2)
                have f1 := T1.frozen 1
                have f2 := T2.frozen 2
                have r1 := T1.cell 1
                have r2 := T2.cell 2
                simp only [List.getElem?_toArray, List.getElem?_cons_succ, List.getElem?_cons_zero] at r0 r1 r2
                have K6 : Kept (fun k => k = bx) w5 (((w5.setCell ⟨bx, 0, none⟩ (.int .i64 (wn : Nat))).setCell ⟨bx, 1, none⟩ (.slice (some ⟨g1, 0, none⟩) ln c1)).setCell ⟨bx, 2, none⟩ (.slice (some ⟨g2, 0, none⟩) ln c2)) :=
                  (((Kept.refl (fun k => k = bx) w5).setCell (show (⟨bx, _, none⟩ : Addr).block = bx from rfl) _).setCell (show (⟨bx, _, none⟩ : Addr).block = bx from rfl) _).setCell (show (⟨bx, _, none⟩ : Addr).block = bx from rfl) _
                have HB6 : Hid (Below wr.heap.size wr (((w5.setCell ⟨bx, 0, none⟩ (.int .i64 (wn : Nat))).setCell ⟨bx, 1, none⟩ (.slice (some ⟨g1, 0, none⟩) ln c1)).setCell ⟨bx, 2, none⟩ (.slice (some ⟨g2, 0, none⟩) ln c2))) := HB5.out.trans (K6.below (fun k h => by have := HBX.out; omega) HB5.out.size)
                have hS6 := HSS.out _ HB6.out
                have HG6 : Hid (GO wr.heap.size (((w5.setCell ⟨bx, 0, none⟩ (.int .i64 (wn : Nat))).setCell ⟨bx, 1, none⟩ (.slice (some ⟨g1, 0, none⟩) ln c1)).setCell ⟨bx, 2, none⟩ (.slice (some ⟨g2, 0, none⟩) ln c2)) (.node p1.1 p2.1) (.slice (some ⟨g1, 0, none⟩) ln c1) (.slice (some ⟨g2, 0, none⟩) ln c2)) := HG.out.keep K6 (fun k h1 h2 => HT.out.ne HG.out.b (by decide) (by rw [h1, h2])) (fun k h1 h2 => HT.out.ne HG.out.c (by decide) (by rw [h1, h2]))
                have HT6 : Hid (Three (((w5.setCell ⟨bx, 0, none⟩ (.int .i64 (wn : Nat))).setCell ⟨bx, 1, none⟩ (.slice (some ⟨g1, 0, none⟩) ln c1)).setCell ⟨bx, 2, none⟩ (.slice (some ⟨g2, 0, none⟩) ln c2)) bx (.int .i64 (wn : Nat)) (.slice (some ⟨g1, 0, none⟩) ln c1) (.slice (some ⟨g2, 0, none⟩) ln c2)) := T3
                clear K6 T1 T2 T3 HT HG HB5
                refine wpAnyH_ready (rs := [10]) (by kernel_rfl) (by simp) ?_
                refine AllReadyH.cons rfl (fun K hK => ?_) AllReadyH.nil
                go_simp
                refine hK.out _ _ hS6 (fun s0 => ?_)
                clear s0 hK K hS6 hS5 f0 f1 f2 r0 r1 r2 HSS
                generalize ((w5.setCell ⟨bx, 0, none⟩ (.int .i64 (wn : Nat))).setCell ⟨bx, 1, none⟩ (.slice (some ⟨g1, 0, none⟩) ln c1)).setCell ⟨bx, 2, none⟩ (.slice (some ⟨g2, 0, none⟩) ln c2) = w6 at *
                refine wpAnyH_done (by kernel_rfl) ?_ _
                have FR6 : Hid (FR f w.heap.size w6 (.slice (some ⟨g, 0, none⟩) m q) ps) := HPS.out.below HB6.out
                have SR6 : Hid (SRow w6 og (fun _ => ByteArray.empty)) := HS.out.below HB6.out
                have BW6 : Hid (Below w.heap.size w w6) := HB.out.trans (HB6.out.mono HB.out.size)
                have HOG : Hid (og < wr.heap.size) := (Array.getElem?_eq_some_iff.1 HS.out).1
                have HC6 : Hid (∀ i p, ps[i]? = some p → w6.cell? ⟨g, i * 3, none⟩ = some (.int .i64 (Hf.wt f p.1 : Nat)) ∧ w6.cell? ⟨g, i * 3 + 1, none⟩ = some p.2.1 ∧ w6.cell? ⟨g, i * 3 + 2, none⟩ = some p.2.2) := fun i p hp => by
                  obtain ⟨a1, a2, a3⟩ := HCE.out i p hp
                  exact ⟨rdB HB6.out a1, rdB HB6.out a2, rdB HB6.out a3⟩
                have WT6 : Hid (∀ (i : Nat) (p : Hf.T × Value × Value), ps[i]? = some p → ∃ b1 d1 b2 d2 ll, p.2.1 = .slice (some ⟨b1, 0, none⟩) ll d1 ∧ p.2.2 = .slice (some ⟨b2, 0, none⟩) ll d2) := fun i p hp => by
                  obtain ⟨b1, d1, b2, d2, e1, e2, _⟩ := (HPS.out.all p (List.mem_of_getElem? hp)).slices
                  exact ⟨b1, d1, b2, d2, _, e1, e2⟩
                have HBZ : Hid (w.heap.size ≤ wr.heap.size) := HB.out.size
                clear HCE HPS HS HB3 HB
                go_wp2
                go_loopw [9, 10] (fun rv iv wq => ∃ (i k q2 : Nat) (a2 : Option Addr), i ≤ m ∧ k ≤ i ∧ iv = .int .i64 i ∧ rv = .slice a2 k q2 ∧ Hid ((restTo x y ps i).length = k) ∧ Hid (wq.ownsRow w6.heap.size 209 3 (.slice a2 k q2) k ((restTo x y ps i).flatMap (cellP f))) ∧ Hid (Below w6.heap.size w6 wq)) (fun _ iv _ => m - (intOf iv).toNat)
                case atStart => exact ⟨0, 0, 0, none, by omega, by omega, rfl, rfl, rfl, ⟨rfl, .inl ⟨rfl, rfl⟩⟩, Below.refl _ _⟩
                case round =>
                  obtain ⟨i, k, q2, a2, him, hki, rfl, rfl, HKL, HOW, HBQ⟩ := hrel
                  by_cases hlt : i < m
                  · obtain ⟨pi, hpi⟩ : ∃ p, ps[i]? = some p := ⟨_, List.getElem?_eq_getElem (by rw [HPL.out]; exact hlt)⟩
                    have hii : (i : Int) < (m : Int) := by omega
                    have HPI : Hid (ps[i]? = some pi) := hpi
                    clear hpi
                    by_cases hix : i = x
                    · have e1 : ((i : Int) != (x : Int)) = false := by simp [hix]
                      have HR1 : Hid (restTo x y ps (i + 1) = restTo x y ps i) := by show _ = _; simp only [restTo]; rw [if_neg (by simp [hix])]
                      clear hix
                      go_wp2
                      exact ⟨⟨i + 1, k, q2, a2, by omega, by omega, by go_num, rfl, by rw [HR1.out]; exact HKL, by rw [HR1.out]; exact HOW, HBQ⟩, by simp [intOf]; omega⟩
                    · have e1 : ((i : Int) != (x : Int)) = true := by simp; omega
                      by_cases hiy : i = y
                      · have e2 : ((i : Int) != (y : Int)) = false := by simp [hiy]
                        have HR1 : Hid (restTo x y ps (i + 1) = restTo x y ps i) := by show _ = _; simp only [restTo]; rw [if_neg (by simp [hiy])]
                        clear hix hiy
                        go_wp2
                        exact ⟨⟨i + 1, k, q2, a2, by omega, by omega, by go_num, rfl, by rw [HR1.out]; exact HKL, by rw [HR1.out]; exact HOW, HBQ⟩, by simp [intOf]; omega⟩
                      · have e2 : ((i : Int) != (y : Int)) = true := by simp; omega
                        have HR1 : Hid (restTo x y ps (i + 1) = restTo x y ps i ++ [pi]) := by show _ = _; simp only [restTo]; rw [if_pos ⟨hix, hiy⟩, HPI.out]; rfl
                        clear hix hiy
                        obtain ⟨a1', a2', a3'⟩ := HC6.out i pi HPI.out
                        obtain ⟨b1, d1, b2, d2, ll, s1, s2⟩ := WT6.out i pi HPI.out
                        have y0 := rdB HBQ.out a1'
                        have y1 := rdB HBQ.out a2'
                        have y2 := rdB HBQ.out a3'
                        have HCP : Hid (cellP f pi = [.int .i64 (Hf.wt f pi.1 : Nat), .slice (some ⟨b1, 0, none⟩) ll d1, .slice (some ⟨b2, 0, none⟩) ll d2]) := by show _ = _; unfold cellP; rw [s1, s2]
                        rw [s1] at y1
                        rw [s2] at y2
                        clear a1' a2' a3' s1 s2
                        generalize Hf.wt f pi.1 = wi at *
                        have B7 : Below w6.heap.size w6 (wr.alloc (.cells #[.int .i64 (wi : Nat), .slice (some ⟨b1, 0, none⟩) ll d1, .slice (some ⟨b2, 0, none⟩) ll d2] 209)) := HBQ.out.alloc HBQ.out.size _
                        have O7 := own_keep HOW.out (Kept.of_below (below_alloc wr (.cells #[.int .i64 (wi : Nat), .slice (some ⟨b1, 0, none⟩) ll d1, .slice (some ⟨b2, 0, none⟩) ll d2] 209)) (Nat.le_refl _) (fun _ => False)) (fun _ _ h => h)
                        have HB7 : Hid (Below w6.heap.size w6 (wr.alloc (.cells #[.int .i64 (wi : Nat), .slice (some ⟨b1, 0, none⟩) ll d1, .slice (some ⟨b2, 0, none⟩) ll d2] 209))) := B7
                        clear B7
                        go_wp2_with (at_builtin; refine wpList_append_lies _ rfl _ _ 207 rfl w6.heap.size 209 i0 (.agg #[.int .i64 0, .slice none 0 0, .slice none 0 0]) 3 56 Tryz.underlying207 hi hz0 hz1 hz2 rfl (by decide) _ k ((restTo x y ps i).flatMap (cellP f)) rfl O7 ⟨wr.heap.size, 0, none⟩ 1 1 [.int .i64 (wi : Nat), .slice (some ⟨b1, 0, none⟩) ll d1, .slice (some ⟨b2, 0, none⟩) ll d2] rfl rfl ?c1 ?c2 (by decide) ?c3 ?c4 ?c5 _ rfl ?_)
                        case c1 => exact World.news_of_block (heap_alloc_new' _ _ rfl)
                        case c2 =>
                          intro u hu
                          simp at hu
                          rcases hu with rfl | rfl | rfl <;> rfl
                        case c3 => unfold maxLen; omega
                        case c4 => omega
                        case c5 => exact HB7.out.size
                        intro g3 cap3 w8 hown hg hat hlt8
                        have B8 : Hid (Below w6.heap.size w6 w8) := HB7.out.trans (((Kept.refl (fun z => some z = (Value.slice a2 k q2).ownBlock) _).grown hg (fun z h _ => h.symm)).below (fun z h => (own_top O7 h.symm).1) HB7.out.size)
                        have O8 : Hid (w8.ownsRow w6.heap.size 209 3 (.slice (some ⟨g3, 0, none⟩) (k + 1) cap3) (k + 1) ((restTo x y ps (i + 1)).flatMap (cellP f))) := by
                          show World.ownsRow _ _ _ _ _ _ _
                          rw [HR1.out, List.flatMap_append, List.flatMap_cons, List.flatMap_nil, List.append_nil, HCP.out]; exact hown
                        have L8 : Hid ((restTo x y ps (i + 1)).length = k + 1) := by show _ = _; rw [HR1.out, List.length_append, HKL.out]; rfl
                        clear hown hg hat hlt8 O7
                        go_wp2
                        exact ⟨⟨i + 1, k + 1, cap3, some ⟨g3, 0, none⟩, by omega, by omega, by go_num, rfl, L8, O8, B8⟩, by simp [intOf]; omega⟩
                  · have hi' : m = i := by omega
                    subst hi'
                    have T9 := HT6.out.below HBQ.out (Array.getElem?_eq_some_iff.1 HT6.out).1
                    have z0 := T9.cell 0
                    have z1 := T9.cell 1
                    have z2 := T9.cell 2
                    simp only [List.getElem?_toArray, List.getElem?_cons_succ, List.getElem?_cons_zero] at z0 z1 z2
                    clear T9 hlt
                    have O7 := own_keep HOW.out (Kept.of_below (below_alloc wr (.cells #[.int .i64 (wn : Nat), .slice (some ⟨g1, 0, none⟩) ln c1, .slice (some ⟨g2, 0, none⟩) ln c2] 209)) (Nat.le_refl _) (fun _ => False)) (fun _ _ h => h)
                    have HB7 : Hid (Below w6.heap.size w6 (wr.alloc (.cells #[.int .i64 (wn : Nat), .slice (some ⟨g1, 0, none⟩) ln c1, .slice (some ⟨g2, 0, none⟩) ln c2] 209))) := HBQ.out.alloc HBQ.out.size _
                    go_wp2_with (at_builtin; refine wpList_append_lies _ rfl _ _ 207 rfl w6.heap.size 209 i0 (.agg #[.int .i64 0, .slice none 0 0, .slice none 0 0]) 3 56 Tryz.underlying207 hi hz0 hz1 hz2 rfl (by decide) _ k ((restTo x y ps m).flatMap (cellP f)) rfl O7 ⟨wr.heap.size, 0, none⟩ 1 1 [.int .i64 (wn : Nat), .slice (some ⟨g1, 0, none⟩) ln c1, .slice (some ⟨g2, 0, none⟩) ln c2] rfl rfl ?c1 ?c2 (by decide) ?c3 ?c4 ?c5 _ rfl ?_)
                    case c1 => exact World.news_of_block (heap_alloc_new' _ _ rfl)
                    case c2 =>
                      intro u hu
                      simp at hu
                      rcases hu with rfl | rfl | rfl <;> rfl
                    case c3 => unfold maxLen; omega
                    case c4 => omega
                    case c5 => exact HB7.out.size
                    intro g3 cap3 w8 hown hg hat hlt8
                    have B8 : Below w6.heap.size w6 w8 := HB7.out.trans (((Kept.refl (fun z => some z = (Value.slice a2 k q2).ownBlock) _).grown hg (fun z h _ => h.symm)).below (fun z h => (own_top O7 h.symm).1) HB7.out.size)
                    have hsl := step_len HXY.out (z := (Hf.T.node p1.1 p2.1, Value.slice (some ⟨g1, 0, none⟩) ln c1, Value.slice (some ⟨g2, 0, none⟩) ln c2)) HP1.out HP2.out
                    rw [HPL.out] at hsl
                    have hkl : (restTo x y ps m ++ [(Hf.T.node p1.1 p2.1, Value.slice (some ⟨g1, 0, none⟩) ln c1, Value.slice (some ⟨g2, 0, none⟩) ln c2)]).length = k + 1 := by rw [List.length_append, HKL.out]; rfl
                    have hkm : k + 1 + 1 = m := by rw [← hkl]; exact hsl
                    have FN : Hid (∃ ps, ps.length = k + 1 ∧ FR f w.heap.size w8 (.slice (some ⟨g3, 0, none⟩) (k + 1) cap3) ps ∧ Grv f (Hf.join f L) (ps.map Prod.fst) ∧ ∀ p ∈ ps, p.2.2.ownBlock ≠ some og) := by
                      refine ⟨_, hkl, ⟨?_, fun p hp => ?_⟩, ?_, fun p hp => ?_⟩
                      · rw [hkl, List.flatMap_append, List.flatMap_cons, List.flatMap_nil, List.append_nil]
                        unfold cellP at hown ⊢
                        rw [HWN.out]
                        exact own_low hown (by have := BW6.out.size; omega)
                      · rw [List.mem_append] at hp
                        rcases hp with hp | hp
                        · exact (FR6.out.all p (restTo_mem hp)).below B8
                        · have hpe : p = (Hf.T.node p1.1 p2.1, Value.slice (some ⟨g1, 0, none⟩) ln c1, Value.slice (some ⟨g2, 0, none⟩) ln c2) := by simpa using hp
                          rw [hpe]
                          exact (HG6.out.low HBZ.out).below B8
                      · have hgs := HGR.out.step (a := x) (b := y) (x := p1.1) (y := p2.1) (by rw [List.getElem?_map, HP1.out]; rfl) (by rw [List.getElem?_map, HP2.out]; rfl) (by rw [HLM.out]; exact HX.out) (by rw [HLM.out]; exact HY.out)
                        rw [HLM.out] at hgs
                        rw [List.map_append, restTo_map]
                        exact hgs
                      · rw [List.mem_append] at hp
                        rcases hp with hp | hp
                        · exact HNE.out p (restTo_mem hp)
                        · have hpe : p = (Hf.T.node p1.1 p2.1, Value.slice (some ⟨g1, 0, none⟩) ln c1, Value.slice (some ⟨g2, 0, none⟩) ln c2) := by simpa using hp
                          rw [hpe]
                          intro e
                          have h1 := (own_top HG6.out.c e).1
                          have h2 := HOG.out
                          omega
                    have SR8 : Hid (SRow w8 og (fun _ => ByteArray.empty)) := SR6.out.below B8
                    have BW8 : Hid (Below w.heap.size w w8) := BW6.out.trans (B8.mono BW6.out.size)
                    clear hown hg hat hlt8 O7 B8 hsl hkl z0 z1 z2
                    go_wp2
                    exact ⟨⟨k + 1, cap3, some ⟨g3, 0, none⟩, by omega, by omega, rfl, FN, BW8, SR8⟩, by simp [slLen]; omega⟩
            · have hm' : m = 1 := by omega
              subst hm'
              obtain ⟨p, hp⟩ : ∃ p, ps = [p] := List.length_eq_one_iff.1 hpl
              subst hp
              have hJ : p.1 = Hf.join f L := Grv.one hgr
              have hfit := hgr.fit HW.out (t := p.1) (by simp)
              have hbd := hgr.bd p.1 (by simp)
              obtain ⟨g, cap, hlv, _, _, hcell, _⟩ := hps.row (by simp)
              injection hlv with e1 e2 e3
              clear e2 e3 cap
              subst e1
              obtain ⟨_, k1, k2⟩ := hcell 0 p rfl
              obtain ⟨b1, d1, b2, d2, e1, e2, e3⟩ := (hps.all p (by simp)).slices
              have n1 : g ≠ og := fun e => HS.out.ne hps.own (by decide) (by rw [e]; rfl)
              have n2 : b1 ≠ og := fun e => HS.out.ne (hps.all p (by simp)).b (by decide) (by rw [e1, e]; rfl)
              have n3 : b2 ≠ og := fun e => hne p (by simp) (by rw [e2, e]; rfl)
              rw [e1] at k1
              rw [e2] at k2
              rw [hJ] at e3 k1 k2 hfit hbd
              have hl := hfit.len
              generalize hpp : Hf.paths (Hf.join f L) = pp at *
              have HPP : Hid (Hf.paths (Hf.join f L) = pp) := hpp
              have HPB : Hid (∀ (i : Nat) (x : Nat × List Bool), pp[i]? = some x → x.1 < 256) := fun i x hx => by
                have := hbd x.1 (by rw [← hpp] at hx; exact paths_mem hx)
                omega
              generalize hln : pp.length = ln at *
              have HLNN : Hid (pp.length = ln) := hln
              have HRD : Hid (∀ (W : World) (i : Nat) (x : Nat × List Bool), Kept (fun k => k = og) wr W → pp[i]? = some x → (W.cell? ⟨g, 1, none⟩ = some (.slice (some ⟨b1, 0, none⟩) ln d1) ∧ W.cell? ⟨g, 2, none⟩ = some (.slice (some ⟨b2, 0, none⟩) ln d2) ∧ W.cell? ⟨b1, i, none⟩ = some (.int .i64 (x.1 : Nat)) ∧ W.cell? ⟨b2, i, none⟩ = some (.string (tx x.2)))) := fun W i x hk hx => by
                obtain ⟨r1, r2⟩ := e3 i x hx
                exact ⟨cellK hk k1 n1, cellK hk k2 n1, cellK hk r1 n2, cellK hk r2 n3⟩
              have HK1 : Hid (∀ (W : World), Kept (fun k => k = og) wr W → W.cell? ⟨g, 1, none⟩ = some (.slice (some ⟨b1, 0, none⟩) ln d1)) := fun W hk => cellK hk k1 n1
              have HOG : Hid (w.heap.size ≤ og) := hbz
              clear hps hgr hne hcell e3 k1 k2 n1 n2 n3 hpp hln hfit hbd hJ e1 e2 hgt HP hpl hm hm1
              go_wp2
              have ⟨wr_, hwr_⟩ : ∃ wr_, wr_ = wr := ⟨wr, rfl⟩
              rw [← hwr_] at HRD HK1 HB HS
              go_loopw [11] (fun iv wq => ∃ i : Nat, i ≤ ln ∧ iv = .int .i64 i ∧ Hid (SRow wq og (layTo pp i)) ∧ Hid (Kept (fun k => k = og) wr_ wq)) (fun iv _ => ln - (intOf iv).toNat)
              case atStart => exact ⟨0, by omega, rfl, by rw [← hwr_]; exact HS, by rw [← hwr_]; exact Kept.refl _ _⟩
              case round =>
                clear HS hwr_
                obtain ⟨i, hil, rfl, HS, HK⟩ := hrel
                have c1 := HK1.out _ HK.out
                by_cases hlt : i < ln
                · obtain ⟨x, hx⟩ : ∃ x, pp[i]? = some x := ⟨_, List.getElem?_eq_getElem (by rw [HLNN.out]; exact hlt)⟩
                  have hii : (i : Int) < (ln : Int) := by omega
                  have hxb := HPB.out i x hx
                  have hS0 := HRD.out wr.drew i x HK.out.drew hx
                  have s1 := HS.out.cell hxb
                  have s2 := HS.out.frozen x.1
                  have HSN : Hid (SRow ((wr.setCell ⟨og, x.1, none⟩ (.string (tx x.2))).drew) og (layTo pp (i + 1))) := by
                    show SRow _ _ _
                    rw [layTo_succ hx]
                    exact SRow.set (w := wr) HS.out x.1 (tx x.2)
                  have HKN : Hid (Kept (fun k => k = og) wr_ ((wr.setCell ⟨og, x.1, none⟩ (.string (tx x.2))).drew)) := (HK.out.setCell (show (⟨og, x.1, none⟩ : Addr).block = og from rfl) _).drew
                  have hS1 := HRD.out _ i x HKN.out hx
                  clear hx
                  have hxi : ((x.1 : Nat) : Int) < 256 := by omega
                  obtain ⟨xb, xp⟩ := x
                  simp only at hxb hS0 hS1 s1 s2 HSN HKN hxi
                  generalize tx xp = xs at *
                  have s1' : wr.drew.cell? ⟨og, xb, none⟩ = some (.string (layTo pp i xb)) := s1
                  have s2' : wr.drew.frozen? ⟨og, xb, none⟩ = false := s2
                  clear s1 s2
                  go_wp2_with fail
                  refine wp_region_held_drew (S := fun w' => w'.cell? ⟨g, 1, none⟩ = some (.slice (some ⟨b1, 0, none⟩) ln d1) ∧ w'.cell? ⟨g, 2, none⟩ = some (.slice (some ⟨b2, 0, none⟩) ln d2) ∧ w'.cell? ⟨b1, i, none⟩ = some (.int .i64 (xb : Nat)) ∧ w'.cell? ⟨b2, i, none⟩ = some (.string xs)) (by kernel_rfl) hS0 (fun s0 => ?_)
                  clear s0
                  refine wpAnyH_take (i := 0) (v := ?vR25_0) rfl (by kernel_rfl) (by kernel_rfl) (by kernel_rfl) (fun _ _ _ h => h) (Or.inl ⟨by rfl, ?hR25_0⟩) hS0 ?_
                  case hR25_0 => intro wq hS; obtain ⟨s1, s2, s3, s4⟩ := hS; first | (go_simp; done) | (go_simp; with_reducible rfl)
                  refine wpAnyH_take (i := 1) (v := ?vR25_1) rfl (by kernel_rfl) (by kernel_rfl) (by kernel_rfl) (fun _ _ _ h => h) (Or.inl ⟨by rfl, ?hR25_1⟩) hS0 ?_
                  case hR25_1 => intro wq hS; obtain ⟨s1, s2, s3, s4⟩ := hS; first | (go_simp; done) | (go_simp; with_reducible rfl)
                  refine wpAnyH_take (i := 2) (v := ?vR25_2) rfl (by kernel_rfl) (by kernel_rfl) (by kernel_rfl) (fun _ _ _ h => h) (Or.inl ⟨by rfl, ?hR25_2⟩) hS0 ?_
                  case hR25_2 => intro wq hS; obtain ⟨s1, s2, s3, s4⟩ := hS; first | (go_simp; done) | (go_simp; with_reducible rfl)
                  refine wpAnyH_take (i := 3) (v := ?vR25_3) rfl (by kernel_rfl) (by kernel_rfl) (by kernel_rfl) (fun _ _ _ h => h) (Or.inl ⟨by rfl, ?hR25_3⟩) hS0 ?_
                  case hR25_3 => intro wq hS; obtain ⟨s1, s2, s3, s4⟩ := hS; first | (go_simp; done) | (go_simp; with_reducible rfl)
                  refine wpAnyH_take (i := 4) (v := ?vR25_4) rfl (by kernel_rfl) (by kernel_rfl) (by kernel_rfl) (fun _ _ _ h => h) (Or.inl ⟨by rfl, ?hR25_4⟩) hS0 ?_
                  case hR25_4 => intro wq hS; obtain ⟨s1, s2, s3, s4⟩ := hS; first | (go_simp; done) | (go_simp; with_reducible rfl)
                  refine wpAnyH_take (i := 5) (v := ?vR25_5) rfl (by kernel_rfl) (by kernel_rfl) (by kernel_rfl) (fun _ _ _ h => h) (Or.inl ⟨by rfl, ?hR25_5⟩) hS0 ?_
                  case hR25_5 => intro wq hS; obtain ⟨s1, s2, s3, s4⟩ := hS; first | (go_simp; done) | (go_simp; with_reducible rfl)
                  refine wpAnyH_take (i := 6) (v := ?vR25_6) rfl (by kernel_rfl) (by kernel_rfl) (by kernel_rfl) (fun _ _ _ h => h) (Or.inl ⟨by rfl, ?hR25_6⟩) hS0 ?_
                  case hR25_6 => intro wq hS; obtain ⟨s1, s2, s3, s4⟩ := hS; first | (go_simp; done) | (go_simp; with_reducible rfl)
                  refine wpAnyH_take (i := 7) (v := ?vR25_7) rfl (by kernel_rfl) (by kernel_rfl) (by kernel_rfl) (fun _ _ _ h => h) (Or.inl ⟨by rfl, ?hR25_7⟩) hS0 ?_
                  case hR25_7 => intro wq hS; obtain ⟨s1, s2, s3, s4⟩ := hS; first | (go_simp; done) | (go_simp; with_reducible rfl)
                  refine wpAnyH_take (i := 8) (v := ?vR25_8) rfl (by kernel_rfl) (by kernel_rfl) (by kernel_rfl) (fun _ _ _ h => h) (Or.inl ⟨by rfl, ?hR25_8⟩) hS0 ?_
                  case hR25_8 => intro wq hS; obtain ⟨s1, s2, s3, s4⟩ := hS; first | (go_simp; done) | (go_simp; with_reducible rfl)
                  refine wpAnyH_take (i := 9) (v := ?vR25_9) rfl (by kernel_rfl) (by kernel_rfl) (by kernel_rfl) (fun _ _ _ h => h) (Or.inl ⟨by rfl, ?hR25_9⟩) hS0 ?_
                  case hR25_9 => intro wq hS; obtain ⟨s1, s2, s3, s4⟩ := hS; first | (go_simp; done) | (go_simp; with_reducible rfl)
                  refine wpAnyH_take (i := 10) (v := ?vR25_10) rfl (by kernel_rfl) (by kernel_rfl) (by kernel_rfl) (fun _ _ _ h => h) (Or.inl ⟨by rfl, ?hR25_10⟩) hS0 ?_
                  case hR25_10 => intro wq hS; obtain ⟨s1, s2, s3, s4⟩ := hS; first | (go_simp; done) | (go_simp; with_reducible rfl)
                  refine wpAnyH_take (i := 11) (v := ?vR25_11) rfl (by kernel_rfl) (by kernel_rfl) (by kernel_rfl) (fun _ _ _ h => h) (Or.inl ⟨by rfl, ?hR25_11⟩) hS0 ?_
                  case hR25_11 => intro wq hS; obtain ⟨s1, s2, s3, s4⟩ := hS; first | (go_simp; done) | (go_simp; with_reducible rfl)
                  refine wpAnyH_take (i := 12) (v := ?vR25_12) rfl (by kernel_rfl) (by kernel_rfl) (by kernel_rfl) (fun _ _ _ h => h) (Or.inl ⟨by rfl, ?hR25_12⟩) hS0 ?_
                  case hR25_12 => intro wq hS; obtain ⟨s1, s2, s3, s4⟩ := hS; first | (go_simp; done) | (go_simp; with_reducible rfl)
                  refine wpAnyH_take (i := 13) (v := ?vR25_13) rfl (by kernel_rfl) (by kernel_rfl) (by kernel_rfl) (fun _ _ _ h => h) (Or.inl ⟨by rfl, ?hR25_13⟩) hS0 ?_
                  case hR25_13 => intro wq hS; obtain ⟨s1, s2, s3, s4⟩ := hS; first | (go_simp; done) | (go_simp; with_reducible rfl)
                  refine wpAnyH_take (i := 14) (v := ?vR25_14) rfl (by kernel_rfl) (by kernel_rfl) (by kernel_rfl) (fun _ _ _ h => h) (Or.inl ⟨by rfl, ?hR25_14⟩) hS0 ?_
                  case hR25_14 => intro wq hS; obtain ⟨s1, s2, s3, s4⟩ := hS; first | (go_simp; done) | (go_simp; with_reducible rfl)
                  refine wpAnyH_take (i := 15) (v := ?vR25_15) rfl (by kernel_rfl) (by kernel_rfl) (by kernel_rfl) (fun _ _ _ h => h) (Or.inl ⟨by rfl, ?hR25_15⟩) hS0 ?_
                  case hR25_15 => intro wq hS; obtain ⟨s1, s2, s3, s4⟩ := hS; first | (go_simp; done) | (go_simp; with_reducible rfl)
                  refine wpAnyH_ready (rs := [16]) (by kernel_rfl) (by simp) ?_
                  refine AllReadyH.cons rfl (fun K hK => ?_) AllReadyH.nil
                  go_simp
                  refine hK.out _ _ hS1 (fun s0 => ?_)
                  clear s0 hK K hS0 hS1 s1' s2'
                  generalize (wr.setCell ⟨og, xb, none⟩ (.string xs)).drew = w9 at *
                  refine wpAnyH_done (by kernel_rfl) ?_ _
                  go_wp2
                  exact ⟨⟨i + 1, by omega, by go_num, HSN, HKN⟩, by simp [intOf]; omega⟩
                · have hi' : ln = i := by omega
                  subst hi'
                  go_wp2
                  go_ret
                  refine ⟨_, rfl, _, HS.out, .inr (.inr ⟨HN2.out, ?_⟩), hbz.out, HB.out.trans (HK.out.below (fun k h => by rw [h]; exact hbz.out) HB.out.size)⟩
                  rw [HPP.out, HLNN.out]

end Go.Proofs.YtopihgmemnokkaaGreat

namespace Go.Proofs.YtopihgmemnokkaaGreat
open Go.RowKit Go.Shelf Go.Lib

theorem layTo_not (ps : List (Nat × List Bool)) (c : Nat) : ∀ i, (∀ x ∈ ps, x.1 ≠ c) → layTo ps i c = ByteArray.empty
  | 0, _ => rfl
  | i + 1, h => by
    simp only [layTo]
    rcases hx : ps[i]? with _ | x
    · exact layTo_not ps c i h
    · have := h x (List.mem_of_getElem? hx)
      simp only [putS]
      rw [if_neg (fun e => this e.symm)]
      exact layTo_not ps c i h
theorem layTo_at (ps : List (Nat × List Bool)) (hn : (ps.map Prod.fst).Nodup) : ∀ (i j : Nat) (x : Nat × List Bool), j < i → ps[j]? = some x → layTo ps i x.1 = tx x.2
  | 0, _, _, h, _ => by omega
  | i + 1, j, x, h, hx => by
    simp only [layTo]
    rcases hy : ps[i]? with _ | y
    · refine layTo_at ps hn i j x ?_ hx
      have h1 := (List.getElem?_eq_some_iff.1 hx).1
      have h2 := List.getElem?_eq_none_iff.1 hy
      omega
    · simp only [putS]
      by_cases e : x.1 = y.1
      · rw [if_pos e]
        have h1 : (ps.map Prod.fst)[j]? = (ps.map Prod.fst)[i]? := by rw [List.getElem?_map, List.getElem?_map, hx, hy]; simp [e]
        have h2 : j < (ps.map Prod.fst).length := by rw [List.length_map]; exact (List.getElem?_eq_some_iff.1 hx).1
        have h3 : j = i := (List.getElem?_inj h2 hn).1 h1
        subst h3
        rw [hx] at hy
        have : x = y := by simpa using hy
        rw [this]
      · rw [if_neg e]
        refine layTo_at ps hn i j x ?_ hx
        rcases Nat.lt_or_ge j i with h1 | h1
        · exact h1
        · have : j = i := by omega
          subst this
          rw [hx] at hy
          have : x = y := by simpa using hy
          rw [this] at e; exact absurd rfl e

/-- the document's codes are the program's -/
theorem rc_eq {f : Nat → Nat} {G : Nat → Nat × Nat} (h : CodesOf f G) : ∃ L, (2 ≤ (leavesTo f 256).length → L.Perm (leavesTo f 256) ∧ Hf.Inv f L) ∧ ∀ t, RC f L t → ∀ c, c < 256 → t c = tx (bl (G c)) := by
  rcases h with ⟨h0, rfl⟩ | ⟨c0, hc0, h1, rfl⟩ | ⟨h2, L, hp, hI, rfl⟩
  · refine ⟨[], fun h => by rw [h0] at h; simp at h, fun t ht c hc => ?_⟩
    rcases ht with ⟨_, rfl⟩ | ⟨c1, _, h1, _⟩ | ⟨h1, _⟩
    · rfl
    · rw [h0] at h1; simp at h1
    · rw [h0] at h1; simp at h1
  · refine ⟨[], fun h => by rw [h1] at h; simp at h, fun t ht c hc => ?_⟩
    rcases ht with ⟨h0, _⟩ | ⟨c1, _, h3, rfl⟩ | ⟨h3, _⟩
    · rw [h1] at h0; simp at h0
    · have hcc : c0 = c1 := by rw [h1] at h3; simpa using h3
      subst hcc
      by_cases e : c = c0
      · subst e
        simp only [putS, updR, if_pos]
        rfl
      · simp only [putS, updR, if_neg e]
        rfl
    · rw [h1] at h3; simp at h3
  · refine ⟨L, fun _ => ⟨hp, hI⟩, fun t ht c hc => ?_⟩
    rcases ht with ⟨h0, _⟩ | ⟨c1, _, h3, _⟩ | ⟨_, rfl⟩
    · rw [h0] at h2; simp at h2
    · rw [h3] at h2; simp at h2
    · have hl2 : L.length = (L.length - 1) + 1 := by have := hp.length_eq; omega
      obtain ⟨hI2, _⟩ := Hf.join_good (L.length - 1) L hl2 hI
      have hn : (Hf.bytes (Hf.join f L)).Nodup := by
        have := hI2.nd; simpa using this
      obtain ⟨s1, s2⟩ := spellF_spec (Hf.join f L) 0 0 noRun hn
      have hn' : ((Hf.paths (Hf.join f L)).map Prod.fst).Nodup := by rw [Hf.paths_bytes]; exact hn
      by_cases hm : c ∈ Hf.bytes (Hf.join f L)
      · rw [← Hf.paths_bytes] at hm
        obtain ⟨x, hx, rfl⟩ := List.mem_map.1 hm
        rw [s1 x hx, bl_app]
        obtain ⟨j, hj, hje⟩ := List.mem_iff_getElem.1 hx
        exact layTo_at _ hn' _ j x hj (by rw [List.getElem?_eq_getElem hj, hje])
      · rw [s2 c hm]
        refine layTo_not _ c _ (fun x hx e => hm ?_)
        rw [← Hf.paths_bytes, ← e]
        exact List.mem_map_of_mem (f := Prod.fst) hx

/-- codes in memory -/
def RS (G : Nat → Nat × Nat) (w : World) (g : Nat) (w' : World) : Prop := SRow w' g (fun c => tx (bl (G c))) ∧ w.heap.size ≤ g ∧ Below w.heap.size w w'

set_option maxRecDepth 100000 in
set_option maxHeartbeats 2000000 in
theorem refCodes_any (s : ByteArray) (G : Nat → Nat × Nat) (w : World) (hs : s.size ≤ 1000) (hC : CodesOf (cntB s s.size) G) (hD : Codes (cntB s s.size) (fun c => bl (G c))) :
    Calls Tryz.prog 47 #[.string s] w fun e w' => ∃ g, e = .returned (.tuple #[.slice (some ⟨g, 0, none⟩) 256 256, .int .i64 ((ac (fun c => (bl (G c)).length) s s.size : Nat) : Int), .int .i64 0]) ∧ RS G w g w' := by
  obtain ⟨L, hL, hE⟩ := rc_eq hC
  have hfle : ∀ c, cntB s s.size c ≤ 1000 := fun c => Nat.le_trans (Cc.cn_le _ _) hs
  have hw : ∀ t, (Hf.bytes t).Nodup → (∀ c ∈ Hf.bytes t, c < 256) → Hf.wt (cntB s s.size) t ≤ 1000 := fun t hn _ => by
    rw [wt_list]; exact Nat.le_trans (cnt_list s s.size _ hn) hs
  have HFQ : Hid (Calls Tryz.prog 91 #[.string s] w fun e w' => e = .returned (.slice (some ⟨w.heap.size, 0, none⟩) 256 256) ∧ Row w' w.heap.size 3 256 (cntB s s.size) ∧ Below w.heap.size w w') := freqs_any s w hs
  have HCD : Hid (∀ (W : World), Row W w.heap.size 3 256 (cntB s s.size) → Calls Tryz.prog 90 #[.slice (some ⟨w.heap.size, 0, none⟩) 256 256] W fun e w' => ∃ g, e = .returned (.slice (some ⟨g, 0, none⟩) 256 256) ∧ RA (cntB s s.size) L W g w') := fun W hR => refcodes_any _ L _ W hR hw (fun c => by have := hfle c; omega) hL
  have HE : Hid (∀ t, RC (cntB s s.size) L t → ∀ c, c < 256 → t c = tx (bl (G c))) := hE
  have H64 : Hid (∀ c, c < 256 → (bl (G c)).length ≤ 64) := hD.len
  have hdec : decide ((1000 : Int) < (s.size : Int)) = false := by simp; omega
  clear hL hE hw hfle hC hD
  go_enter Tryz.func47, Tryz.ntmps47
  go_wp2_with fail
  refine HFQ.out.mono ?_
  rintro e w1 ⟨rfl, hR1, hb1⟩
  have HR1 : Hid (Row w1 w.heap.size 3 256 (cntB s s.size)) := hR1
  have HB1 : Hid (Below w.heap.size w w1) := hb1
  clear hR1 hb1 HFQ hdec
  go_wp2_with fail
  refine (HCD.out w1 HR1.out).mono ?_
  rintro e w2 ⟨g, rfl, hRA⟩
  obtain ⟨t, hS, hRC, hg, hb2⟩ := hRA
  have HS : Hid (SRow w2 g (fun c => tx (bl (G c)))) := by
    show SRow _ _ _
    unfold SRow at *
    rw [← rowS_congr (HE.out t hRC)]; exact hS
  have HRS : Hid (RS G w g w2) := ⟨HS.out, Nat.le_trans HB1.out.size hg, HB1.out.trans (hb2.mono HB1.out.size)⟩
  clear hS hRC hg hb2 HE HCD HR1 HB1
  go_wp2
  go_loopw [6, 7] (fun nv iv wr => ∃ p : Nat, p ≤ s.size ∧ iv = .int .i64 p ∧ nv = .int .i64 ((ac (fun c => (bl (G c)).length) s p : Nat) : Int) ∧ wr = w2) (fun _ iv _ => s.size - (intOf iv).toNat)
  case atStart => exact ⟨0, by omega, rfl, rfl, rfl⟩
  case round =>
    obtain ⟨p, hp, rfl, rfl, rfl⟩ := hrel
    have hab := ac_bound (L := fun c => (bl (G c)).length) (s := s) H64.out p
    by_cases hlt : p < s.size
    · have hby := BY_le s p
      have hbv := BY_lt s hlt
      have c0 := HS.out.cell (c := BY s p) (by omega)
      have h64 := H64.out (BY s p) (by omega)
      have hac : ac (fun c => (bl (G c)).length) s (p + 1) = ac (fun c => (bl (G c)).length) s p + (bl (G (BY s p))).length := rfl
      have HAC : Hid (ac (fun c => (bl (G c)).length) s (p + 1) = ac (fun c => (bl (G c)).length) s p + (bl (G (BY s p))).length) := hac
      have hsz := tx_size (bl (G (BY s p)))
      clear hac
      rw [hbv] at c0 hby h64 hsz HAC
      have hx : (s[p].toNat : Int) < 256 := by omega
      clear hbv
      generalize hv : bl (G s[p].toNat) = v at *
      clear hv
      generalize ac (fun c => (bl (G c)).length) s p = z at *
      go_wp2
      exact ⟨⟨p + 1, by omega, by go_num, by rw [HAC.out]; first | go_num | (simp; done) | (congr 1), trivial⟩, by simp [intOf]; omega⟩
    · have hp' : p = s.size := by omega
      subst hp'
      go_wp2
      go_ret3
      exact ⟨_, rfl, HRS.out⟩

set_option maxRecDepth 100000 in
set_option maxHeartbeats 1000000 in
theorem refCodes_long (s : ByteArray) (w : World) (hs : 1000 < s.size) :
    Calls Tryz.prog 47 #[.string s] w fun e w' => e = .returned (.tuple #[.slice none 0 0, .int .i64 0, .int .i64 1]) ∧ w' = w := by
  have hdec : decide ((1000 : Int) < (s.size : Int)) = true := by simp; omega
  go_enter Tryz.func47, Tryz.ntmps47
  go_wp2
  go_ret3
  exact ⟨rfl, rfl⟩

end Go.Proofs.YtopihgmemnokkaaGreat

