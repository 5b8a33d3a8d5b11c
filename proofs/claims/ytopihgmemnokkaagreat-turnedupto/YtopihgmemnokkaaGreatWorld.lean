import Derived.Test.YtopihgmemnokkaaGreatWalk18
import Derived.Test.YtopihgmemnokkaaGreatApp
namespace Go.Proofs.YtopihgmemnokkaaGreat
open Go.RowKit

/-- the World of the law: eight fields -/
def Wd (w : World) (wb : Nat) (v0 v1 v2 v3 v4 v5 v6 v7 : Value) : Prop := w.heap[wb]? = some (.cells #[v0, v1, v2, v3, v4, v5, v6, v7] 33 (0, 0))

theorem Wd.keep {P : Nat → Prop} {w w' : World} {wb : Nat} {v0 v1 v2 v3 v4 v5 v6 v7 : Value} (h : Wd w wb v0 v1 v2 v3 v4 v5 v6 v7) (hk : Kept P w w') (hr : ¬ P wb) : Wd w' wb v0 v1 v2 v3 v4 v5 v6 v7 := by
  unfold Wd at *
  rw [hk.block wb (Array.getElem?_eq_some_iff.1 h).1 hr]; exact h
theorem Wd.lt {w : World} {wb : Nat} {v0 v1 v2 v3 v4 v5 v6 v7 : Value} (h : Wd w wb v0 v1 v2 v3 v4 v5 v6 v7) : wb < w.heap.size := (Array.getElem?_eq_some_iff.1 h).1
theorem Wd.frozen {w : World} {wb : Nat} {v0 v1 v2 v3 v4 v5 v6 v7 : Value} (h : Wd w wb v0 v1 v2 v3 v4 v5 v6 v7) (i : Nat) : w.frozen? ⟨wb, i, none⟩ = false := by
  unfold Wd at h; simp [World.frozen?, h]
theorem Wd.cell {w : World} {wb : Nat} {v0 v1 v2 v3 v4 v5 v6 v7 : Value} (h : Wd w wb v0 v1 v2 v3 v4 v5 v6 v7) (i : Nat) : w.cell? ⟨wb, i, none⟩ = #[v0, v1, v2, v3, v4, v5, v6, v7][i]? := by
  unfold Wd at h; simp [World.cell?, h]
theorem Wd.set4 {w : World} {wb : Nat} {v0 v1 v2 v3 v4 v5 v6 v7 : Value} (h : Wd w wb v0 v1 v2 v3 v4 v5 v6 v7) (v : Value) : Wd (w.setCell ⟨wb, 4, none⟩ v) wb v0 v1 v2 v3 v v5 v6 v7 := by
  unfold Wd at *; simp [World.setCell, Array.getElem?_modify, h]
theorem Wd.set6 {w : World} {wb : Nat} {v0 v1 v2 v3 v4 v5 v6 v7 : Value} (h : Wd w wb v0 v1 v2 v3 v4 v5 v6 v7) (v : Value) : Wd (w.setCell ⟨wb, 6, none⟩ v) wb v0 v1 v2 v3 v4 v5 v v7 := by
  unfold Wd at *; simp [World.setCell, Array.getElem?_modify, h]

theorem Wd.ne {w : World} {wb : Nat} {v0 v1 v2 v3 v4 v5 v6 v7 : Value} (h : Wd w wb v0 v1 v2 v3 v4 v5 v6 v7) {base : Nat} {e : TypeId} {k : Nat} {v : Value} {m : Nat} {x : List Value} (h1 : w.ownsRow base e k v m x) (he : e ≠ 33) : v.ownBlock ≠ some wb := by
  intro e1
  rcases h1.2 with ⟨rfl, _⟩ | ⟨g, cap, cur, rfl, _, hg, _⟩
  · cases e1
  · simp [Value.ownBlock] at e1
    subst e1
    unfold Wd at h
    rw [h] at hg
    simp at hg
    exact he hg.2.symm

/-- a list that came out: all over with its mark -/
def Lst (w : World) (l : Value) (m : Int) : Prop :=
  l = .slice none 0 0 ∨ ∃ g n cap cur, l = .slice (some ⟨g, 0, none⟩) n cap ∧ w.heap[g]? = some (.cells cur 3 (0, 0)) ∧ (n ≤ cap ∧ cap ≤ maxLen) ∧ ∀ k, k < n → cur[k]? = some (.int .i64 m)

theorem Lst.keep {P : Nat → Prop} {w w' : World} {l : Value} {m : Int} (h : Lst w l m) (hk : Kept P w w') (hn : ∀ g, l.ownBlock = some g → ¬ P g) : Lst w' l m := by
  rcases h with h | ⟨g, n, cap, cur, rfl, h1, h2, h3⟩
  · exact .inl h
  · exact .inr ⟨g, n, cap, cur, rfl, by rw [hk.block g (Array.getElem?_eq_some_iff.1 h1).1 (hn g rfl)]; exact h1, h2, h3⟩
theorem Lst.lt {w : World} {l : Value} {m : Int} (h : Lst w l m) : ∀ g, l.ownBlock = some g → g < w.heap.size := by
  intro g hg
  rcases h with rfl | ⟨g', n, cap, cur, rfl, h1, _⟩
  · cases hg
  · simp [Value.ownBlock] at hg
    subst hg
    exact (Array.getElem?_eq_some_iff.1 h1).1
theorem Lst.wd {w : World} {l : Value} {m : Int} (h : Lst w l m) {wb : Nat} {v0 v1 v2 v3 v4 v5 v6 v7 : Value} (hw : Wd w wb v0 v1 v2 v3 v4 v5 v6 v7) : l.ownBlock ≠ some wb := by
  intro e
  rcases h with rfl | ⟨g', n, cap, cur, rfl, h1, _⟩
  · cases e
  · simp [Value.ownBlock] at e
    subst e
    unfold Wd at hw
    rw [hw] at h1
    simp at h1
theorem Lst.row {w : World} {l : Value} {m : Int} (h : Lst w l m) {base : Nat} {e : TypeId} {k : Nat} {v : Value} {n : Nat} {x : List Value} (h1 : w.ownsRow base e k v n x) (he : e ≠ 3) : l.ownBlock = none ∨ l.ownBlock ≠ v.ownBlock := by
  rcases h with rfl | ⟨g', n, cap, cur, rfl, h2, _⟩
  · exact .inl rfl
  · refine .inr fun e1 => ?_
    rcases h1.2 with ⟨rfl, _⟩ | ⟨g, cap, cur, rfl, _, hg, _⟩
    · cases e1
    · simp [Value.ownBlock] at e1
      subst e1
      rw [h2] at hg
      simp at hg
      exact he hg.2.symm

theorem lst_of_own {w : World} {base : Nat} {l : Value} {n : Nat} {m : Int} (h : w.ownsRow base 3 1 l n (List.replicate n (.int .i64 m))) : Lst w l m := by
  rcases h.2 with ⟨rfl, _⟩ | ⟨g, cap, cur, rfl, _, hg, hc, hc2, hs, ht⟩
  · exact .inl rfl
  · refine .inr ⟨g, n, cap, cur, rfl, hg, ⟨hc, hc2⟩, fun k hk => ?_⟩
    have h1 : (cur.toList.take (n * 1))[k]? = some (.int .i64 m) := by rw [ht]; simp [hk]
    rw [List.getElem?_take] at h1
    rw [if_pos (by omega)] at h1
    simpa using h1

/-- the lists that came out, and their marks -/
structure Lists (B0 : Nat) (w : World) (lv mv : Value) (ls : List Value) (ms : List Int) : Prop where
  len : ls.length = ms.length
  own : w.ownsRow B0 30 1 lv ls.length ls
  mar : w.ownsRow B0 3 1 mv ms.length (ms.map (Value.int .i64))
  all : ∀ (i : Nat) (l : Value) (m : Int), ls[i]? = some l → ms[i]? = some m → Lst w l m
  ne : ∀ l, l ∈ ls → l.ownBlock = none ∨ l.ownBlock ≠ mv.ownBlock

theorem Lists.mem {B0 : Nat} {w : World} {lv mv : Value} {ls : List Value} {ms : List Int} (h : Lists B0 w lv mv ls ms) {l : Value} (hl : l ∈ ls) : ∃ m, Lst w l m := by
  obtain ⟨i, hi, rfl⟩ := List.mem_iff_getElem.1 hl
  have h2 : i < ms.length := by rw [← h.len]; exact hi
  exact ⟨ms[i], h.all i _ _ (List.getElem?_eq_getElem hi) (List.getElem?_eq_getElem h2)⟩

theorem Lists.keep {P : Nat → Prop} {B0 : Nat} {w w' : World} {lv mv : Value} {ls : List Value} {ms : List Int} (h : Lists B0 w lv mv ls ms) (hk : Kept P w w') (hP : ∀ k, P k → w.heap.size ≤ k) : Lists B0 w' lv mv ls ms :=
  ⟨h.len, own_keep h.own hk (fun g hg hp => by have := hP g hp; have := (h.own.lt g hg).2; omega), own_keep h.mar hk (fun g hg hp => by have := hP g hp; have := (h.mar.lt g hg).2; omega),
   fun i l m hl hm => (h.all i l m hl hm).keep hk (fun g hg hp => by have := hP g hp; have := (h.all i l m hl hm).lt g hg; omega), h.ne⟩

/-- while a list is kept: so many lists, marks, and places more -/
structure KS (F : Nat → Prop) (B0 : Nat) (W : World) (wb : Nat) (b q x r t d : Value) (ls0 : List Value) (ms0 : List Int) (m : Int) (n i j k : Nat) (l lv mv : Value) (new : List Value) (w : World) : Prop where
  wd : Wd w wb b q x r lv t mv d
  wb0 : B0 ≤ wb
  own : w.ownsRow B0 30 1 lv (ls0.length + i) (ls0 ++ new)
  nl : new.length = i
  mar : w.ownsRow B0 3 1 mv (ms0.length + j) ((ms0 ++ List.replicate j m).map (Value.int .i64))
  row : w.ownsRow B0 3 1 l (n + k) (List.replicate (n + k) (.int .i64 m))
  ne1 : l.ownBlock = none ∨ l.ownBlock ≠ mv.ownBlock
  old : ∀ (a : Nat) (y : Value) (m' : Int), ls0[a]? = some y → ms0[a]? = some m' → Lst w y m'
  any : ∀ y, y ∈ ls0 → ∃ m', Lst w y m'
  olk : ∀ y, y ∈ ls0 → (y.ownBlock = none ∨ y.ownBlock ≠ mv.ownBlock) ∧ (y.ownBlock = none ∨ y.ownBlock ≠ l.ownBlock)
  nw : ∀ y, y ∈ new → Lst w y m ∧ slLen y ≤ n + k ∧ (y.ownBlock = none ∨ y.ownBlock ≠ mv.ownBlock)
  bl : Below B0 W w
  bb : B0 ≤ W.heap.size
  fr : ∀ a, F a → a < W.heap.size ∧ w.heap[a]? = W.heap[a]? ∧ a ≠ wb ∧ lv.ownBlock ≠ some a ∧ mv.ownBlock ≠ some a ∧ l.ownBlock ≠ some a ∧ ∀ y, y ∈ new → y.ownBlock ≠ some a

theorem own_far {v : Value} {g a n' cap : Nat} {G : Prop} (h : v.ownBlock = some g ∨ G) (hG : G → a < g) (hv : v.ownBlock ≠ some a) : (Value.slice (some ⟨g, 0, none⟩) n' cap).ownBlock ≠ some a := by
  intro e
  have e' : g = a := by simpa [Value.ownBlock] using e
  subst e'
  rcases h with h | h
  · exact hv h
  · have := hG h; omega

section
variable {F : Nat → Prop} {B0 : Nat} {W : World} {wb : Nat} {b q x r t d : Value} {ls0 : List Value} {ms0 : List Int} {m : Int} {n i j k : Nat} {l lv mv : Value} {new : List Value} {w : World}

theorem KS.wd1 (S : KS F B0 W wb b q x r t d ls0 ms0 m n i j k l lv mv new w) (o : Obj) {w' : World} (hg : (w.alloc o).grownBy w' lv.ownBlock) : Wd w' wb b q x r lv t mv d := by
  have hk : Kept (fun a => some a = lv.ownBlock) w w' := ((Kept.refl _ w).alloc o).grown hg (fun a h _ => h.symm)
  exact S.wd.keep hk (fun e => S.wd.ne S.own (by decide) e.symm)
theorem KS.wd2 (S : KS F B0 W wb b q x r t d ls0 ms0 m n i j k l lv mv new w) (o : Obj) {w' : World} (hg : (w.alloc o).grownBy w' mv.ownBlock) : Wd w' wb b q x r lv t mv d := by
  have hk : Kept (fun a => some a = mv.ownBlock) w w' := ((Kept.refl _ w).alloc o).grown hg (fun a h _ => h.symm)
  exact S.wd.keep hk (fun e => S.wd.ne S.mar (by decide) e.symm)

theorem KS.lists (S : KS F B0 W wb b q x r t d ls0 ms0 m n i i k l lv mv new w) (hlen : ls0.length = ms0.length) : Lists B0 w lv mv (ls0 ++ new) (ms0 ++ List.replicate i m) := by
  refine ⟨by simp [S.nl, hlen], by rw [List.length_append, S.nl]; exact S.own, by rw [List.length_append, List.length_replicate]; exact S.mar, ?_, ?_⟩
  · intro a y c h1 h2
    by_cases ha : a < ls0.length
    · rw [List.getElem?_append_left ha] at h1
      rw [List.getElem?_append_left (by omega)] at h2
      exact S.old a y c h1 h2
    · rw [List.getElem?_append_right (by omega)] at h1
      rw [List.getElem?_append_right (by omega)] at h2
      have hc : c = m := by
        have := List.mem_of_getElem? h2
        exact List.eq_of_mem_replicate this
      rw [hc]
      exact (S.nw y (List.mem_of_getElem? h1)).1
  · intro y hy
    rw [List.mem_append] at hy
    rcases hy with hy | hy
    · exact (S.olk y hy).1
    · exact (S.nw y hy).2.2

theorem KS.s1 (S : KS F B0 W wb b q x r t d ls0 ms0 m n i j k l lv mv new w) (o : Obj) {g cap : Nat} {w' : World} (hown : w'.ownsRow B0 30 1 (.slice (some ⟨g, 0, none⟩) (ls0.length + i + 1) cap) (ls0.length + i + 1) ((ls0 ++ new) ++ [l]))
    (hg : (w.alloc o).grownBy w' lv.ownBlock) (hat : lv.ownBlock = some g ∨ g = w.heap.size + 1) : KS F B0 W wb b q x r t d ls0 ms0 m n (i + 1) j k l (.slice (some ⟨g, 0, none⟩) (ls0.length + i + 1) cap) mv (new ++ [l]) (w'.setCell ⟨wb, 4, none⟩ (.slice (some ⟨g, 0, none⟩) (ls0.length + i + 1) cap)) := by
  have hk : Kept (fun a => some a = lv.ownBlock) w w' := ((Kept.refl _ w).alloc o).grown hg (fun a h _ => h.symm)
  have hk2 : Kept (fun a => a = wb) w' (w'.setCell ⟨wb, 4, none⟩ (.slice (some ⟨g, 0, none⟩) (ls0.length + i + 1) cap)) := (Kept.refl (fun a => a = wb) w').setCell (show (⟨wb, _, none⟩ : Addr).block = wb from rfl) _
  have hwd : Wd w' wb b q x r lv t mv d := S.wd.keep hk (fun e => S.wd.ne S.own (by decide) e.symm)
  have two : ∀ {y : Value} {c : Int}, Lst w y c → Lst (w'.setCell ⟨wb, 4, none⟩ (.slice (some ⟨g, 0, none⟩) (ls0.length + i + 1) cap)) y c := fun {y c} h =>
    have h1 := h.keep hk (ne_of (h.row S.own (by decide)))
    h1.keep hk2 (fun a ha e => h1.wd hwd (by rw [ha, e]))
  have own2 : ∀ {v : Value} {c : Nat} {xs : List Value}, w.ownsRow B0 3 1 v c xs → (w'.setCell ⟨wb, 4, none⟩ (.slice (some ⟨g, 0, none⟩) (ls0.length + i + 1) cap)).ownsRow B0 3 1 v c xs := fun {v c xs} h =>
    have h1 := own_keep h hk (ne_of (owns_ne S.own h (by decide)))
    own_keep h1 hk2 (fun a ha e => hwd.ne h1 (by decide) (by rw [ha, e]))
  refine ⟨hwd.set4 _, S.wb0, ?_, by simp [S.nl], own2 S.mar, own2 S.row, S.ne1, fun a y c h1 h2 => two (S.old a y c h1 h2), fun y hy => by obtain ⟨c, hc⟩ := S.any y hy; exact ⟨c, two hc⟩, S.olk, ?_, ?_, S.bb, ?_⟩
  · have h1 := own_keep hown hk2 (fun a ha e => hwd.ne hown (by decide) (by rw [ha, e]))
    rw [← List.append_assoc]; exact h1
  · intro y hy
    rw [List.mem_append] at hy
    rcases hy with hy | hy
    · obtain ⟨h1, h2, h3⟩ := S.nw y hy; exact ⟨two h1, h2, h3⟩
    · have : y = l := by simpa using hy
      subst this
      exact ⟨two (lst_of_own S.row), by rw [own_len S.row]; omega, S.ne1⟩
  · exact hk2.bel (hk.bel S.bl S.bb (fun a ha => (S.own.lt a ha.symm).1)) S.bb (fun a ha => by rw [ha]; exact S.wb0)
  · intro a ha
    obtain ⟨f1, f2, f3, f4, f5, f6, f7⟩ := S.fr a ha
    have hz := S.bl.size
    have hz1 := hk.size
    refine ⟨f1, ?_, f3, own_far hat (fun h => by omega) f4, f5, f6, fun y hy => ?_⟩
    · rw [hk2.block a (by omega) (fun e => f3 e), hk.block a (by omega) (fun e => f4 e.symm)]; exact f2
    · rw [List.mem_append] at hy
      rcases hy with hy | hy
      · exact f7 y hy
      · have : y = l := by simpa using hy
        subst this; exact f6

theorem KS.s2 (S : KS F B0 W wb b q x r t d ls0 ms0 m n i j k l lv mv new w) (o : Obj) {g cap : Nat} {w' : World} (hown : w'.ownsRow B0 3 1 (.slice (some ⟨g, 0, none⟩) (ms0.length + j + 1) cap) (ms0.length + j + 1) ((ms0 ++ List.replicate j m).map (Value.int .i64) ++ [.int .i64 m]))
    (hg : (w.alloc o).grownBy w' mv.ownBlock) (hat : mv.ownBlock = some g ∨ g = w.heap.size + 1) : KS F B0 W wb b q x r t d ls0 ms0 m n i (j + 1) k l lv (.slice (some ⟨g, 0, none⟩) (ms0.length + j + 1) cap) new (w'.setCell ⟨wb, 6, none⟩ (.slice (some ⟨g, 0, none⟩) (ms0.length + j + 1) cap)) := by
  have hk : Kept (fun a => some a = mv.ownBlock) w w' := ((Kept.refl _ w).alloc o).grown hg (fun a h _ => h.symm)
  have hk2 : Kept (fun a => a = wb) w' (w'.setCell ⟨wb, 6, none⟩ (.slice (some ⟨g, 0, none⟩) (ms0.length + j + 1) cap)) := (Kept.refl (fun a => a = wb) w').setCell (show (⟨wb, _, none⟩ : Addr).block = wb from rfl) _
  have hwd : Wd w' wb b q x r lv t mv d := S.wd.keep hk (fun e => S.wd.ne S.mar (by decide) e.symm)
  have two : ∀ {y : Value} {c : Int}, Lst w y c → (y.ownBlock = none ∨ y.ownBlock ≠ mv.ownBlock) → Lst (w'.setCell ⟨wb, 6, none⟩ (.slice (some ⟨g, 0, none⟩) (ms0.length + j + 1) cap)) y c := fun {y c} h hn =>
    have h1 := h.keep hk (ne_of hn)
    h1.keep hk2 (fun a ha e => h1.wd hwd (by rw [ha, e]))
  have own2 : ∀ {e : TypeId} {v : Value} {c : Nat} {xs : List Value}, w.ownsRow B0 e 1 v c xs → e ≠ 33 → (v.ownBlock = none ∨ v.ownBlock ≠ mv.ownBlock) → (w'.setCell ⟨wb, 6, none⟩ (.slice (some ⟨g, 0, none⟩) (ms0.length + j + 1) cap)).ownsRow B0 e 1 v c xs := fun {e v c xs} h he hn =>
    have h1 := own_keep h hk (ne_of hn)
    own_keep h1 hk2 (fun a ha e => hwd.ne h1 he (by rw [ha, e]))
  have away : ∀ {y : Value}, (y.ownBlock = none ∨ y.ownBlock ≠ mv.ownBlock) → (∀ a, y.ownBlock = some a → a < w.heap.size) → (y.ownBlock = none ∨ y.ownBlock ≠ (Value.slice (some ⟨g, 0, none⟩) (ms0.length + j + 1) cap).ownBlock) := fun {y} h1 h2 => by
    rcases h1 with h1 | h1
    · exact .inl h1
    · refine .inr fun e => ?_
      have e' : y.ownBlock = some g := e
      rcases hat with hat | hat
      · exact h1 (e'.trans hat.symm)
      · have := h2 g e'; omega
  refine ⟨hwd.set6 _, S.wb0, own2 S.own (by decide) (owns_ne S.mar S.own (by decide)), S.nl, ?_, own2 S.row (by decide) S.ne1, away S.ne1 (fun a ha => (S.row.lt a ha).2), ?_, ?_, ?_, ?_, ?_, S.bb, ?_⟩
  · have h1 := own_keep hown hk2 (fun a ha e => hwd.ne hown (by decide) (by rw [ha, e]))
    have e1 : (ms0 ++ List.replicate (j + 1) m).map (Value.int .i64) = (ms0 ++ List.replicate j m).map (Value.int .i64) ++ [.int .i64 m] := by
      rw [List.replicate_succ']; simp
    rw [e1]; exact h1
  · intro a y c h1 h2
    exact two (S.old a y c h1 h2) (S.olk y (List.mem_of_getElem? h1)).1
  · intro y hy
    obtain ⟨c, hc⟩ := S.any y hy; exact ⟨c, two hc (S.olk y hy).1⟩
  · intro y hy
    obtain ⟨c, hc⟩ := S.any y hy
    exact ⟨away (S.olk y hy).1 hc.lt, (S.olk y hy).2⟩
  · intro y hy
    obtain ⟨h1, h2, h3⟩ := S.nw y hy
    exact ⟨two h1 h3, h2, away h3 h1.lt⟩
  · exact hk2.bel (hk.bel S.bl S.bb (fun a ha => (S.mar.lt a ha.symm).1)) S.bb (fun a ha => by rw [ha]; exact S.wb0)
  · intro a ha
    obtain ⟨f1, f2, f3, f4, f5, f6, f7⟩ := S.fr a ha
    have hz := S.bl.size
    have hz1 := hk.size
    refine ⟨f1, ?_, f3, f4, own_far hat (fun h => by omega) f5, f6, f7⟩
    rw [hk2.block a (by omega) (fun e => f3 e), hk.block a (by omega) (fun e => f5 e.symm)]; exact f2

theorem KS.s3 (S : KS F B0 W wb b q x r t d ls0 ms0 m n i j k l lv mv new w) (o : Obj) {g cap : Nat} {w' : World} (hown : w'.ownsRow B0 3 1 (.slice (some ⟨g, 0, none⟩) (n + k + 1) cap) (n + k + 1) (List.replicate (n + k) (.int .i64 m) ++ [.int .i64 m]))
    (hd : (l.ownBlock = some g ∧ (w.alloc o).grownBy w' (some g)) ∨ (g = w.heap.size + 1 ∧ (w.alloc o).grownBy w' none)) : KS F B0 W wb b q x r t d ls0 ms0 m n i j (k + 1) (.slice (some ⟨g, 0, none⟩) (n + k + 1) cap) lv mv new w' := by
  have hrep : List.replicate (n + k) (Value.int .i64 m) ++ [.int .i64 m] = List.replicate (n + (k + 1)) (.int .i64 m) := by
    rw [← Nat.add_assoc, List.replicate_succ']
  rw [hrep] at hown
  have hnr := lst_of_own hown
  rcases hd with ⟨hl, hg⟩ | ⟨hg0, hg⟩
  · have hk : Kept (fun a => some a = l.ownBlock) w w' := ((Kept.refl _ w).alloc o).grown hg (fun a h _ => by rw [hl, h])
    refine ⟨S.wd.keep hk (fun e => S.wd.ne S.row (by decide) e.symm), S.wb0, own_keep S.own hk (ne_of (owns_ne S.row S.own (by decide))), S.nl, own_keep S.mar hk (ne_of (ne_swap S.ne1)), hown, ?_, ?_, ?_, ?_, ?_, ?_, S.bb, ?_⟩
    · rcases S.ne1 with h | h
      · rw [hl] at h; cases h
      · exact .inr (by rw [hl] at h; exact h)
    · intro a y c h1 h2
      exact (S.old a y c h1 h2).keep hk (ne_of (S.olk y (List.mem_of_getElem? h1)).2)
    · intro y hy
      obtain ⟨c, hc⟩ := S.any y hy; exact ⟨c, hc.keep hk (ne_of (S.olk y hy).2)⟩
    · intro y hy
      refine ⟨(S.olk y hy).1, ?_⟩
      have := (S.olk y hy).2
      rw [hl] at this; exact this
    · intro y hy
      obtain ⟨h1, h2, h3⟩ := S.nw y hy
      refine ⟨?_, by omega, h3⟩
      by_cases e : y.ownBlock = some g
      · rcases h1 with h1 | ⟨g', n', cap', cur, rfl, _, hc', _⟩
        · exact .inl h1
        · have hgg : g' = g := by simpa [Value.ownBlock] using e
          subst hgg
          rcases hnr with hnr | ⟨g2, n2, cap2, cur2, e2, e3, _, e5⟩
          · cases hnr
          · injection e2 with e6 e7 e8
            injection e6 with e9
            injection e9 with e10
            subst e10
            have h2' : n' ≤ n + k := h2
            exact .inr ⟨g', n', cap', cur2, rfl, e3, hc', fun a ha => e5 a (by omega)⟩
      · exact h1.keep hk (fun a ha e2 => e (by rw [ha, e2, hl]))
    · exact hk.bel S.bl S.bb (fun a ha => (S.row.lt a ha.symm).1)
    · intro a ha
      obtain ⟨f1, f2, f3, f4, f5, f6, f7⟩ := S.fr a ha
      have hz := S.bl.size
      refine ⟨f1, ?_, f3, f4, f5, own_far (G := False) (.inl hl) (fun h => h.elim) f6, f7⟩
      rw [hk.block a (by omega) (fun e => f6 e.symm)]; exact f2
  · have hk : Kept (fun _ => False) w w' := ((Kept.refl _ w).alloc o).grown hg (fun a h _ => by cases h)
    have nf : ∀ {v : Value}, ∀ a, v.ownBlock = some a → ¬ False := fun a _ h => h
    have far : ∀ {y : Value}, (∀ a, y.ownBlock = some a → a < w.heap.size) → (y.ownBlock = none ∨ y.ownBlock ≠ (Value.slice (some ⟨g, 0, none⟩) (n + k + 1) cap).ownBlock) := fun {y} h2 => by
      cases hy : y.ownBlock with
      | none => exact .inl rfl
      | some a =>
        refine .inr fun e => ?_
        have : a = g := by simpa [Value.ownBlock] using e
        have := h2 a hy; omega
    refine ⟨S.wd.keep hk (fun h => h), S.wb0, own_keep S.own hk (nf (v := lv)), S.nl, own_keep S.mar hk (nf (v := mv)), hown, ne_swap (far (fun a ha => (S.mar.lt a ha).2)), ?_, ?_, ?_, ?_, ?_, S.bb, ?_⟩
    · intro a y c h1 h2
      exact (S.old a y c h1 h2).keep hk (nf (v := y))
    · intro y hy
      obtain ⟨c, hc⟩ := S.any y hy; exact ⟨c, hc.keep hk (nf (v := y))⟩
    · intro y hy
      obtain ⟨c, hc⟩ := S.any y hy
      exact ⟨(S.olk y hy).1, far hc.lt⟩
    · intro y hy
      obtain ⟨h1, h2, h3⟩ := S.nw y hy
      exact ⟨h1.keep hk (nf (v := y)), by omega, h3⟩
    · exact hk.bel S.bl S.bb (fun a h => h.elim)
    · intro a ha
      obtain ⟨f1, f2, f3, f4, f5, f6, f7⟩ := S.fr a ha
      have hz := S.bl.size
      refine ⟨f1, ?_, f3, f4, f5, own_far (v := .slice none 0 0) (G := True) (.inr trivial) (fun h => by omega) (by simp [Value.ownBlock]), f7⟩
      rw [hk.block a (by omega) (fun e => e)]; exact f2

end

end Go.Proofs.YtopihgmemnokkaaGreat
