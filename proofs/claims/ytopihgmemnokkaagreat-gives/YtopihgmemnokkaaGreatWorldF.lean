import Derived.Test.YtopihgmemnokkaaGreatWalk15F
import Derived.Test.YtopihgmemnokkaaGreatAppF
import Derived.Test.YtopihgmemnokkaaGreatWalk7F
namespace Go.Proofs.YtopihgmemnokkaaGreat
open Go.RowKit

/-- the World of the law: eight fields -/
def Wd (w : World) (wb : Nat) (v0 v1 v2 v3 v4 v5 v6 v7 : Value) : Prop := w.heap[wb]? = some (.cells #[v0, v1, v2, v3, v4, v5, v6, v7] 33 (0, 0))

theorem Wd.keep {P : Nat → Prop} {w w' : World} {wb : Nat} {v0 v1 v2 v3 v4 v5 v6 v7 : Value} (h : Wd w wb v0 v1 v2 v3 v4 v5 v6 v7) (hk : Kept P w w') (hr : ¬ P wb) : Wd w' wb v0 v1 v2 v3 v4 v5 v6 v7 := by
  unfold Wd at *
  rw [hk.block wb (Array.getElem?_eq_some_iff.1 h).1 hr]; exact h
theorem Wd.lt {w : World} {wb : Nat} {v0 v1 v2 v3 v4 v5 v6 v7 : Value} (h : Wd w wb v0 v1 v2 v3 v4 v5 v6 v7) : wb < w.heap.size := (Array.getElem?_eq_some_iff.1 h).1
theorem Wd.frozen {w : World} {wb : Nat} {v0 v1 v2 v3 v4 v5 v6 v7 : Value} (h : Wd w wb v0 v1 v2 v3 v4 v5 v6 v7) (i : Nat) : w.frozen? ⟨wb, i, none⟩ = false := by
  unfold Wd at h; simp [World.frozen?, h]
theorem Wd.cell {w : World} {wb : Nat} {v0 v1 v2 v3 v4 v5 v6 v7 : Value} (h : Wd w wb v0 v1 v2 v3 v4 v5 v6 v7) (i : Nat) : w.cell? ⟨wb, i, none⟩ = #[v0, v1, v2, v3, v4, v5, v6, v7][i]? := by
  unfold Wd at h; simp [World.cell?, h]
theorem Wd.set4 {w : World} {wb : Nat} {v0 v1 v2 v3 v4 v5 v6 v7 : Value} (h : Wd w wb v0 v1 v2 v3 v4 v5 v6 v7) (v : Value) : Wd (w.setCell ⟨wb, 4, none⟩ v) wb v0 v1 v2 v3 v v5 v6 v7 := by
  unfold Wd at *; simp [World.setCell, Array.getElem?_modify, h]
theorem Wd.set6 {w : World} {wb : Nat} {v0 v1 v2 v3 v4 v5 v6 v7 : Value} (h : Wd w wb v0 v1 v2 v3 v4 v5 v6 v7) (v : Value) : Wd (w.setCell ⟨wb, 6, none⟩ v) wb v0 v1 v2 v3 v4 v5 v v7 := by
  unfold Wd at *; simp [World.setCell, Array.getElem?_modify, h]

theorem Wd.ne {w : World} {wb : Nat} {v0 v1 v2 v3 v4 v5 v6 v7 : Value} (h : Wd w wb v0 v1 v2 v3 v4 v5 v6 v7) {base : Nat} {e : TypeId} {k : Nat} {v : Value} {m : Nat} {x : List Value} (h1 : w.ownsRow base e k v m x) (he : e ≠ 33) : v.ownBlock ≠ some wb := by
  intro e1
  rcases h1.2 with ⟨rfl, _⟩ | ⟨g, cap, cur, rfl, _, hg, _⟩
  · cases e1
  · simp [Value.ownBlock] at e1
    subst e1
    unfold Wd at h
    rw [h] at hg
    simp at hg
    exact he hg.2.symm

/-- a list that came out: all over with its mark -/
def Lst (w : World) (l : Value) (m : Int) : Prop :=
  l = .slice none 0 0 ∨ ∃ g n cap cur, l = .slice (some ⟨g, 0, none⟩) n cap ∧ w.heap[g]? = some (.cells cur 3 (0, 0)) ∧ (n ≤ cap ∧ cap ≤ maxLen) ∧ ∀ k, k < n → cur[k]? = some (.int .i64 m)

theorem Lst.keep {P : Nat → Prop} {w w' : World} {l : Value} {m : Int} (h : Lst w l m) (hk : Kept P w w') (hn : ∀ g, l.ownBlock = some g → ¬ P g) : Lst w' l m := by
  rcases h with h | ⟨g, n, cap, cur, rfl, h1, h2, h3⟩
  · exact .inl h
  · exact .inr ⟨g, n, cap, cur, rfl, by rw [hk.block g (Array.getElem?_eq_some_iff.1 h1).1 (hn g rfl)]; exact h1, h2, h3⟩
theorem Lst.lt {w : World} {l : Value} {m : Int} (h : Lst w l m) : ∀ g, l.ownBlock = some g → g < w.heap.size := by
  intro g hg
  rcases h with rfl | ⟨g', n, cap, cur, rfl, h1, _⟩
  · cases hg
  · simp [Value.ownBlock] at hg
    subst hg
    exact (Array.getElem?_eq_some_iff.1 h1).1
theorem Lst.wd {w : World} {l : Value} {m : Int} (h : Lst w l m) {wb : Nat} {v0 v1 v2 v3 v4 v5 v6 v7 : Value} (hw : Wd w wb v0 v1 v2 v3 v4 v5 v6 v7) : l.ownBlock ≠ some wb := by
  intro e
  rcases h with rfl | ⟨g', n, cap, cur, rfl, h1, _⟩
  · cases e
  · simp [Value.ownBlock] at e
    subst e
    unfold Wd at hw
    rw [hw] at h1
    simp at h1
theorem Lst.row {w : World} {l : Value} {m : Int} (h : Lst w l m) {base : Nat} {e : TypeId} {k : Nat} {v : Value} {n : Nat} {x : List Value} (h1 : w.ownsRow base e k v n x) (he : e ≠ 3) : l.ownBlock = none ∨ l.ownBlock ≠ v.ownBlock := by
  rcases h with rfl | ⟨g', n, cap, cur, rfl, h2, _⟩
  · exact .inl rfl
  · refine .inr fun e1 => ?_
    rcases h1.2 with ⟨rfl, _⟩ | ⟨g, cap, cur, rfl, _, hg, _⟩
    · cases e1
    · simp [Value.ownBlock] at e1
      subst e1
      rw [h2] at hg
      simp at hg
      exact he hg.2.symm

theorem lst_of_own {w : World} {base : Nat} {l : Value} {n : Nat} {m : Int} (h : w.ownsRow base 3 1 l n (List.replicate n (.int .i64 m))) : Lst w l m := by
  rcases h.2 with ⟨rfl, _⟩ | ⟨g, cap, cur, rfl, _, hg, hc, hc2, hs, ht⟩
  · exact .inl rfl
  · refine .inr ⟨g, n, cap, cur, rfl, hg, ⟨hc, hc2⟩, fun k hk => ?_⟩
    have h1 : (cur.toList.take (n * 1))[k]? = some (.int .i64 m) := by rw [ht]; simp [hk]
    rw [List.getElem?_take] at h1
    rw [if_pos (by omega)] at h1
    simpa using h1

/-- the lists that came out, and their marks -/
structure Lists (B0 : Nat) (w : World) (lv mv : Value) (ls : List Value) (ms : List Int) : Prop where
  len : ls.length = ms.length
  own : w.ownsRow B0 30 1 lv ls.length ls
  mar : w.ownsRow B0 3 1 mv ms.length (ms.map (Value.int .i64))
  all : ∀ (i : Nat) (l : Value) (m : Int), ls[i]? = some l → ms[i]? = some m → Lst w l m
  ne : ∀ l, l ∈ ls → l.ownBlock = none ∨ l.ownBlock ≠ mv.ownBlock

theorem Lists.mem {B0 : Nat} {w : World} {lv mv : Value} {ls : List Value} {ms : List Int} (h : Lists B0 w lv mv ls ms) {l : Value} (hl : l ∈ ls) : ∃ m, Lst w l m := by
  obtain ⟨i, hi, rfl⟩ := List.mem_iff_getElem.1 hl
  have h2 : i < ms.length := by rw [← h.len]; exact hi
  exact ⟨ms[i], h.all i _ _ (List.getElem?_eq_getElem hi) (List.getElem?_eq_getElem h2)⟩

theorem Lists.keep {P : Nat → Prop} {B0 : Nat} {w w' : World} {lv mv : Value} {ls : List Value} {ms : List Int} (h : Lists B0 w lv mv ls ms) (hk : Kept P w w') (hP : ∀ k, P k → w.heap.size ≤ k) : Lists B0 w' lv mv ls ms :=
  ⟨h.len, own_keep h.own hk (fun g hg hp => by have := hP g hp; have := (h.own.lt g hg).2; omega), own_keep h.mar hk (fun g hg hp => by have := hP g hp; have := (h.mar.lt g hg).2; omega),
   fun i l m hl hm => (h.all i l m hl hm).keep hk (fun g hg hp => by have := hP g hp; have := (h.all i l m hl hm).lt g hg; omega), h.ne⟩

/-- while a list is kept: so many lists, marks, and places more -/
structure KS (F : Nat → Prop) (B0 : Nat) (W : World) (wb : Nat) (b q x r t d : Value) (ls0 : List Value) (ms0 : List Int) (m : Int) (n i j k : Nat) (l lv mv : Value) (new : List Value) (w : World) : Prop where
  wd : Wd w wb b q x r lv t mv d
  wb0 : B0 ≤ wb
  own : w.ownsRow B0 30 1 lv (ls0.length + i) (ls0 ++ new)
  nl : new.length = i
  mar : w.ownsRow B0 3 1 mv (ms0.length + j) ((ms0 ++ List.replicate j m).map (Value.int .i64))
  row : w.ownsRow B0 3 1 l (n + k) (List.replicate (n + k) (.int .i64 m))
  ne1 : l.ownBlock = none ∨ l.ownBlock ≠ mv.ownBlock
  old : ∀ (a : Nat) (y : Value) (m' : Int), ls0[a]? = some y → ms0[a]? = some m' → Lst w y m'
  any : ∀ y, y ∈ ls0 → ∃ m', Lst w y m'
  olk : ∀ y, y ∈ ls0 → (y.ownBlock = none ∨ y.ownBlock ≠ mv.ownBlock) ∧ (y.ownBlock = none ∨ y.ownBlock ≠ l.ownBlock)
  nw : ∀ y, y ∈ new → Lst w y m ∧ slLen y ≤ n + k ∧ (y.ownBlock = none ∨ y.ownBlock ≠ mv.ownBlock)
  bl : Below B0 W w
  bb : B0 ≤ W.heap.size
  fr : ∀ a, F a → a < W.heap.size ∧ w.heap[a]? = W.heap[a]? ∧ a ≠ wb ∧ lv.ownBlock ≠ some a ∧ mv.ownBlock ≠ some a ∧ l.ownBlock ≠ some a ∧ ∀ y, y ∈ new → y.ownBlock ≠ some a

theorem own_far {v : Value} {g a n' cap : Nat} {G : Prop} (h : v.ownBlock = some g ∨ G) (hG : G → a < g) (hv : v.ownBlock ≠ some a) : (Value.slice (some ⟨g, 0, none⟩) n' cap).ownBlock ≠ some a := by
  intro e
  have e' : g = a := by simpa [Value.ownBlock] using e
  subst e'
  rcases h with h | h
  · exact hv h
  · have := hG h; omega

section
variable {F : Nat → Prop} {B0 : Nat} {W : World} {wb : Nat} {b q x r t d : Value} {ls0 : List Value} {ms0 : List Int} {m : Int} {n i j k : Nat} {l lv mv : Value} {new : List Value} {w : World}

theorem KS.wd1 (S : KS F B0 W wb b q x r t d ls0 ms0 m n i j k l lv mv new w) (o : Obj) {w' : World} (hg : (w.alloc o).grownBy w' lv.ownBlock) : Wd w' wb b q x r lv t mv d := by
  have hk : Kept (fun a => some a = lv.ownBlock) w w' := ((Kept.refl _ w).alloc o).grown hg (fun a h _ => h.symm)
  exact S.wd.keep hk (fun e => S.wd.ne S.own (by decide) e.symm)
theorem KS.wd2 (S : KS F B0 W wb b q x r t d ls0 ms0 m n i j k l lv mv new w) (o : Obj) {w' : World} (hg : (w.alloc o).grownBy w' mv.ownBlock) : Wd w' wb b q x r lv t mv d := by
  have hk : Kept (fun a => some a = mv.ownBlock) w w' := ((Kept.refl _ w).alloc o).grown hg (fun a h _ => h.symm)
  exact S.wd.keep hk (fun e => S.wd.ne S.mar (by decide) e.symm)

theorem KS.lists (S : KS F B0 W wb b q x r t d ls0 ms0 m n i i k l lv mv new w) (hlen : ls0.length = ms0.length) : Lists B0 w lv mv (ls0 ++ new) (ms0 ++ List.replicate i m) := by
  refine ⟨by simp [S.nl, hlen], by rw [List.length_append, S.nl]; exact S.own, by rw [List.length_append, List.length_replicate]; exact S.mar, ?_, ?_⟩
  · intro a y c h1 h2
    by_cases ha : a < ls0.length
    · rw [List.getElem?_append_left ha] at h1
      rw [List.getElem?_append_left (by omega)] at h2
      exact S.old a y c h1 h2
    · rw [List.getElem?_append_right (by omega)] at h1
      rw [List.getElem?_append_right (by omega)] at h2
      have hc : c = m := by
        have := List.mem_of_getElem? h2
        exact List.eq_of_mem_replicate this
      rw [hc]
      exact (S.nw y (List.mem_of_getElem? h1)).1
  · intro y hy
    rw [List.mem_append] at hy
    rcases hy with hy | hy
    · exact (S.olk y hy).1
    · exact (S.nw y hy).2.2

theorem KS.s1 (S : KS F B0 W wb b q x r t d ls0 ms0 m n i j k l lv mv new w) (o : Obj) {g cap : Nat} {w' : World} (hown : w'.ownsRow B0 30 1 (.slice (some ⟨g, 0, none⟩) (ls0.length + i + 1) cap) (ls0.length + i + 1) ((ls0 ++ new) ++ [l]))
    (hg : (w.alloc o).grownBy w' lv.ownBlock) (hat : lv.ownBlock = some g ∨ g = w.heap.size + 1) : KS F B0 W wb b q x r t d ls0 ms0 m n (i + 1) j k l (.slice (some ⟨g, 0, none⟩) (ls0.length + i + 1) cap) mv (new ++ [l]) (w'.setCell ⟨wb, 4, none⟩ (.slice (some ⟨g, 0, none⟩) (ls0.length + i + 1) cap)) := by
  have hk : Kept (fun a => some a = lv.ownBlock) w w' := ((Kept.refl _ w).alloc o).grown hg (fun a h _ => h.symm)
  have hk2 : Kept (fun a => a = wb) w' (w'.setCell ⟨wb, 4, none⟩ (.slice (some ⟨g, 0, none⟩) (ls0.length + i + 1) cap)) := (Kept.refl (fun a => a = wb) w').setCell (show (⟨wb, _, none⟩ : Addr).block = wb from rfl) _
  have hwd : Wd w' wb b q x r lv t mv d := S.wd.keep hk (fun e => S.wd.ne S.own (by decide) e.symm)
  have two : ∀ {y : Value} {c : Int}, Lst w y c → Lst (w'.setCell ⟨wb, 4, none⟩ (.slice (some ⟨g, 0, none⟩) (ls0.length + i + 1) cap)) y c := fun {y c} h =>
    have h1 := h.keep hk (ne_of (h.row S.own (by decide)))
    h1.keep hk2 (fun a ha e => h1.wd hwd (by rw [ha, e]))
  have own2 : ∀ {v : Value} {c : Nat} {xs : List Value}, w.ownsRow B0 3 1 v c xs → (w'.setCell ⟨wb, 4, none⟩ (.slice (some ⟨g, 0, none⟩) (ls0.length + i + 1) cap)).ownsRow B0 3 1 v c xs := fun {v c xs} h =>
    have h1 := own_keep h hk (ne_of (owns_ne S.own h (by decide)))
    own_keep h1 hk2 (fun a ha e => hwd.ne h1 (by decide) (by rw [ha, e]))
  refine ⟨hwd.set4 _, S.wb0, ?_, by simp [S.nl], own2 S.mar, own2 S.row, S.ne1, fun a y c h1 h2 => two (S.old a y c h1 h2), fun y hy => by obtain ⟨c, hc⟩ := S.any y hy; exact ⟨c, two hc⟩, S.olk, ?_, ?_, S.bb, ?_⟩
  · have h1 := own_keep hown hk2 (fun a ha e => hwd.ne hown (by decide) (by rw [ha, e]))
    rw [← List.append_assoc]; exact h1
  · intro y hy
    rw [List.mem_append] at hy
    rcases hy with hy | hy
    · obtain ⟨h1, h2, h3⟩ := S.nw y hy; exact ⟨two h1, h2, h3⟩
    · have : y = l := by simpa using hy
      subst this
      exact ⟨two (lst_of_own S.row), by rw [own_len S.row]; omega, S.ne1⟩
  · exact hk2.bel (hk.bel S.bl S.bb (fun a ha => (S.own.lt a ha.symm).1)) S.bb (fun a ha => by rw [ha]; exact S.wb0)
  · intro a ha
    obtain ⟨f1, f2, f3, f4, f5, f6, f7⟩ := S.fr a ha
    have hz := S.bl.size
    have hz1 := hk.size
    refine ⟨f1, ?_, f3, own_far hat (fun h => by omega) f4, f5, f6, fun y hy => ?_⟩
    · rw [hk2.block a (by omega) (fun e => f3 e), hk.block a (by omega) (fun e => f4 e.symm)]; exact f2
    · rw [List.mem_append] at hy
      rcases hy with hy | hy
      · exact f7 y hy
      · have : y = l := by simpa using hy
        subst this; exact f6

theorem KS.s2 (S : KS F B0 W wb b q x r t d ls0 ms0 m n i j k l lv mv new w) (o : Obj) {g cap : Nat} {w' : World} (hown : w'.ownsRow B0 3 1 (.slice (some ⟨g, 0, none⟩) (ms0.length + j + 1) cap) (ms0.length + j + 1) ((ms0 ++ List.replicate j m).map (Value.int .i64) ++ [.int .i64 m]))
    (hg : (w.alloc o).grownBy w' mv.ownBlock) (hat : mv.ownBlock = some g ∨ g = w.heap.size + 1) : KS F B0 W wb b q x r t d ls0 ms0 m n i (j + 1) k l lv (.slice (some ⟨g, 0, none⟩) (ms0.length + j + 1) cap) new (w'.setCell ⟨wb, 6, none⟩ (.slice (some ⟨g, 0, none⟩) (ms0.length + j + 1) cap)) := by
  have hk : Kept (fun a => some a = mv.ownBlock) w w' := ((Kept.refl _ w).alloc o).grown hg (fun a h _ => h.symm)
  have hk2 : Kept (fun a => a = wb) w' (w'.setCell ⟨wb, 6, none⟩ (.slice (some ⟨g, 0, none⟩) (ms0.length + j + 1) cap)) := (Kept.refl (fun a => a = wb) w').setCell (show (⟨wb, _, none⟩ : Addr).block = wb from rfl) _
  have hwd : Wd w' wb b q x r lv t mv d := S.wd.keep hk (fun e => S.wd.ne S.mar (by decide) e.symm)
  have two : ∀ {y : Value} {c : Int}, Lst w y c → (y.ownBlock = none ∨ y.ownBlock ≠ mv.ownBlock) → Lst (w'.setCell ⟨wb, 6, none⟩ (.slice (some ⟨g, 0, none⟩) (ms0.length + j + 1) cap)) y c := fun {y c} h hn =>
    have h1 := h.keep hk (ne_of hn)
    h1.keep hk2 (fun a ha e => h1.wd hwd (by rw [ha, e]))
  have own2 : ∀ {e : TypeId} {v : Value} {c : Nat} {xs : List Value}, w.ownsRow B0 e 1 v c xs → e ≠ 33 → (v.ownBlock = none ∨ v.ownBlock ≠ mv.ownBlock) → (w'.setCell ⟨wb, 6, none⟩ (.slice (some ⟨g, 0, none⟩) (ms0.length + j + 1) cap)).ownsRow B0 e 1 v c xs := fun {e v c xs} h he hn =>
    have h1 := own_keep h hk (ne_of hn)
    own_keep h1 hk2 (fun a ha e => hwd.ne h1 he (by rw [ha, e]))
  have away : ∀ {y : Value}, (y.ownBlock = none ∨ y.ownBlock ≠ mv.ownBlock) → (∀ a, y.ownBlock = some a → a < w.heap.size) → (y.ownBlock = none ∨ y.ownBlock ≠ (Value.slice (some ⟨g, 0, none⟩) (ms0.length + j + 1) cap).ownBlock) := fun {y} h1 h2 => by
    rcases h1 with h1 | h1
    · exact .inl h1
    · refine .inr fun e => ?_
      have e' : y.ownBlock = some g := e
      rcases hat with hat | hat
      · exact h1 (e'.trans hat.symm)
      · have := h2 g e'; omega
  refine ⟨hwd.set6 _, S.wb0, own2 S.own (by decide) (owns_ne S.mar S.own (by decide)), S.nl, ?_, own2 S.row (by decide) S.ne1, away S.ne1 (fun a ha => (S.row.lt a ha).2), ?_, ?_, ?_, ?_, ?_, S.bb, ?_⟩
  · have h1 := own_keep hown hk2 (fun a ha e => hwd.ne hown (by decide) (by rw [ha, e]))
    have e1 : (ms0 ++ List.replicate (j + 1) m).map (Value.int .i64) = (ms0 ++ List.replicate j m).map (Value.int .i64) ++ [.int .i64 m] := by
      rw [List.replicate_succ']; simp
    rw [e1]; exact h1
  · intro a y c h1 h2
    exact two (S.old a y c h1 h2) (S.olk y (List.mem_of_getElem? h1)).1
  · intro y hy
    obtain ⟨c, hc⟩ := S.any y hy; exact ⟨c, two hc (S.olk y hy).1⟩
  · intro y hy
    obtain ⟨c, hc⟩ := S.any y hy
    exact ⟨away (S.olk y hy).1 hc.lt, (S.olk y hy).2⟩
  · intro y hy
    obtain ⟨h1, h2, h3⟩ := S.nw y hy
    exact ⟨two h1 h3, h2, away h3 h1.lt⟩
  · exact hk2.bel (hk.bel S.bl S.bb (fun a ha => (S.mar.lt a ha.symm).1)) S.bb (fun a ha => by rw [ha]; exact S.wb0)
  · intro a ha
    obtain ⟨f1, f2, f3, f4, f5, f6, f7⟩ := S.fr a ha
    have hz := S.bl.size
    have hz1 := hk.size
    refine ⟨f1, ?_, f3, f4, own_far hat (fun h => by omega) f5, f6, f7⟩
    rw [hk2.block a (by omega) (fun e => f3 e), hk.block a (by omega) (fun e => f5 e.symm)]; exact f2

theorem KS.s3 (S : KS F B0 W wb b q x r t d ls0 ms0 m n i j k l lv mv new w) (o : Obj) {g cap : Nat} {w' : World} (hown : w'.ownsRow B0 3 1 (.slice (some ⟨g, 0, none⟩) (n + k + 1) cap) (n + k + 1) (List.replicate (n + k) (.int .i64 m) ++ [.int .i64 m]))
    (hd : (l.ownBlock = some g ∧ (w.alloc o).grownBy w' (some g)) ∨ (g = w.heap.size + 1 ∧ (w.alloc o).grownBy w' none)) : KS F B0 W wb b q x r t d ls0 ms0 m n i j (k + 1) (.slice (some ⟨g, 0, none⟩) (n + k + 1) cap) lv mv new w' := by
  have hrep : List.replicate (n + k) (Value.int .i64 m) ++ [.int .i64 m] = List.replicate (n + (k + 1)) (.int .i64 m) := by
    rw [← Nat.add_assoc, List.replicate_succ']
  rw [hrep] at hown
  have hnr := lst_of_own hown
  rcases hd with ⟨hl, hg⟩ | ⟨hg0, hg⟩
  · have hk : Kept (fun a => some a = l.ownBlock) w w' := ((Kept.refl _ w).alloc o).grown hg (fun a h _ => by rw [hl, h])
    refine ⟨S.wd.keep hk (fun e => S.wd.ne S.row (by decide) e.symm), S.wb0, own_keep S.own hk (ne_of (owns_ne S.row S.own (by decide))), S.nl, own_keep S.mar hk (ne_of (ne_swap S.ne1)), hown, ?_, ?_, ?_, ?_, ?_, ?_, S.bb, ?_⟩
    · rcases S.ne1 with h | h
      · rw [hl] at h; cases h
      · exact .inr (by rw [hl] at h; exact h)
    · intro a y c h1 h2
      exact (S.old a y c h1 h2).keep hk (ne_of (S.olk y (List.mem_of_getElem? h1)).2)
    · intro y hy
      obtain ⟨c, hc⟩ := S.any y hy; exact ⟨c, hc.keep hk (ne_of (S.olk y hy).2)⟩
    · intro y hy
      refine ⟨(S.olk y hy).1, ?_⟩
      have := (S.olk y hy).2
      rw [hl] at this; exact this
    · intro y hy
      obtain ⟨h1, h2, h3⟩ := S.nw y hy
      refine ⟨?_, by omega, h3⟩
      by_cases e : y.ownBlock = some g
      · rcases h1 with h1 | ⟨g', n', cap', cur, rfl, _, hc', _⟩
        · exact .inl h1
        · have hgg : g' = g := by simpa [Value.ownBlock] using e
          subst hgg
          rcases hnr with hnr | ⟨g2, n2, cap2, cur2, e2, e3, _, e5⟩
          · cases hnr
          · injection e2 with e6 e7 e8
            injection e6 with e9
            injection e9 with e10
            subst e10
            have h2' : n' ≤ n + k := h2
            exact .inr ⟨g', n', cap', cur2, rfl, e3, hc', fun a ha => e5 a (by omega)⟩
      · exact h1.keep hk (fun a ha e2 => e (by rw [ha, e2, hl]))
    · exact hk.bel S.bl S.bb (fun a ha => (S.row.lt a ha.symm).1)
    · intro a ha
      obtain ⟨f1, f2, f3, f4, f5, f6, f7⟩ := S.fr a ha
      have hz := S.bl.size
      refine ⟨f1, ?_, f3, f4, f5, own_far (G := False) (.inl hl) (fun h => h.elim) f6, f7⟩
      rw [hk.block a (by omega) (fun e => f6 e.symm)]; exact f2
  · have hk : Kept (fun _ => False) w w' := ((Kept.refl _ w).alloc o).grown hg (fun a h _ => by cases h)
    have nf : ∀ {v : Value}, ∀ a, v.ownBlock = some a → ¬ False := fun a _ h => h
    have far : ∀ {y : Value}, (∀ a, y.ownBlock = some a → a < w.heap.size) → (y.ownBlock = none ∨ y.ownBlock ≠ (Value.slice (some ⟨g, 0, none⟩) (n + k + 1) cap).ownBlock) := fun {y} h2 => by
      cases hy : y.ownBlock with
      | none => exact .inl rfl
      | some a =>
        refine .inr fun e => ?_
        have : a = g := by simpa [Value.ownBlock] using e
        have := h2 a hy; omega
    refine ⟨S.wd.keep hk (fun h => h), S.wb0, own_keep S.own hk (nf (v := lv)), S.nl, own_keep S.mar hk (nf (v := mv)), hown, ne_swap (far (fun a ha => (S.mar.lt a ha).2)), ?_, ?_, ?_, ?_, ?_, S.bb, ?_⟩
    · intro a y c h1 h2
      exact (S.old a y c h1 h2).keep hk (nf (v := y))
    · intro y hy
      obtain ⟨c, hc⟩ := S.any y hy; exact ⟨c, hc.keep hk (nf (v := y))⟩
    · intro y hy
      obtain ⟨c, hc⟩ := S.any y hy
      exact ⟨(S.olk y hy).1, far hc.lt⟩
    · intro y hy
      obtain ⟨h1, h2, h3⟩ := S.nw y hy
      exact ⟨h1.keep hk (nf (v := y)), by omega, h3⟩
    · exact hk.bel S.bl S.bb (fun a h => h.elim)
    · intro a ha
      obtain ⟨f1, f2, f3, f4, f5, f6, f7⟩ := S.fr a ha
      have hz := S.bl.size
      refine ⟨f1, ?_, f3, f4, f5, own_far (v := .slice none 0 0) (G := True) (.inr trivial) (fun h => by omega) (by simp [Value.ownBlock]), f7⟩
      rw [hk.block a (by omega) (fun e => e)]; exact f2

end

end Go.Proofs.YtopihgmemnokkaaGreat

namespace Go.Proofs.YtopihgmemnokkaaGreat
open Go.RowKit

theorem Wd.set5 {w : World} {wb : Nat} {v0 v1 v2 v3 v4 v5 v6 v7 : Value} (h : Wd w wb v0 v1 v2 v3 v4 v5 v6 v7) (v : Value) : Wd (w.setCell ⟨wb, 5, none⟩ v) wb v0 v1 v2 v3 v4 v v6 v7 := by
  unfold Wd at *; simp [World.setCell, Array.getElem?_modify, h]
theorem Wd.set7 {w : World} {wb : Nat} {v0 v1 v2 v3 v4 v5 v6 v7 : Value} (h : Wd w wb v0 v1 v2 v3 v4 v5 v6 v7) (v : Value) : Wd (w.setCell ⟨wb, 7, none⟩ v) wb v0 v1 v2 v3 v4 v5 v6 v := by
  unfold Wd at *; simp [World.setCell, Array.getElem?_modify, h]

/-- a list that came out: all over with its mark -/
def Txt (w : World) (l : Value) (m : ByteArray) : Prop :=
  l = .slice none 0 0 ∨ ∃ g n cap cur, l = .slice (some ⟨g, 0, none⟩) n cap ∧ w.heap[g]? = some (.cells cur 9 (0, 0)) ∧ (n ≤ cap ∧ cap ≤ maxLen) ∧ ∀ k, k < n → cur[k]? = some (.string m)

theorem Txt.keep {P : Nat → Prop} {w w' : World} {l : Value} {m : ByteArray} (h : Txt w l m) (hk : Kept P w w') (hn : ∀ g, l.ownBlock = some g → ¬ P g) : Txt w' l m := by
  rcases h with h | ⟨g, n, cap, cur, rfl, h1, h2, h3⟩
  · exact .inl h
  · exact .inr ⟨g, n, cap, cur, rfl, by rw [hk.block g (Array.getElem?_eq_some_iff.1 h1).1 (hn g rfl)]; exact h1, h2, h3⟩
theorem Txt.lt {w : World} {l : Value} {m : ByteArray} (h : Txt w l m) : ∀ g, l.ownBlock = some g → g < w.heap.size := by
  intro g hg
  rcases h with rfl | ⟨g', n, cap, cur, rfl, h1, _⟩
  · cases hg
  · simp [Value.ownBlock] at hg
    subst hg
    exact (Array.getElem?_eq_some_iff.1 h1).1
theorem Txt.wd {w : World} {l : Value} {m : ByteArray} (h : Txt w l m) {wb : Nat} {v0 v1 v2 v3 v4 v5 v6 v7 : Value} (hw : Wd w wb v0 v1 v2 v3 v4 v5 v6 v7) : l.ownBlock ≠ some wb := by
  intro e
  rcases h with rfl | ⟨g', n, cap, cur, rfl, h1, _⟩
  · cases e
  · simp [Value.ownBlock] at e
    subst e
    unfold Wd at hw
    rw [hw] at h1
    simp at h1
theorem Txt.row {w : World} {l : Value} {m : ByteArray} (h : Txt w l m) {base : Nat} {e : TypeId} {k : Nat} {v : Value} {n : Nat} {x : List Value} (h1 : w.ownsRow base e k v n x) (he : e ≠ 9) : l.ownBlock = none ∨ l.ownBlock ≠ v.ownBlock := by
  rcases h with rfl | ⟨g', n, cap, cur, rfl, h2, _⟩
  · exact .inl rfl
  · refine .inr fun e1 => ?_
    rcases h1.2 with ⟨rfl, _⟩ | ⟨g, cap, cur, rfl, _, hg, _⟩
    · cases e1
    · simp [Value.ownBlock] at e1
      subst e1
      rw [h2] at hg
      simp at hg
      exact he hg.2.symm

theorem txt_of_own {w : World} {base : Nat} {l : Value} {n : Nat} {m : ByteArray} (h : w.ownsRow base 9 1 l n (List.replicate n (.string m))) : Txt w l m := by
  rcases h.2 with ⟨rfl, _⟩ | ⟨g, cap, cur, rfl, _, hg, hc, hc2, hs, ht⟩
  · exact .inl rfl
  · refine .inr ⟨g, n, cap, cur, rfl, hg, ⟨hc, hc2⟩, fun k hk => ?_⟩
    have h1 : (cur.toList.take (n * 1))[k]? = some (.string m) := by rw [ht]; simp [hk]
    rw [List.getElem?_take] at h1
    rw [if_pos (by omega)] at h1
    simpa using h1

/-- the lists that came out, and their marks -/
structure Texts (B0 : Nat) (w : World) (lv mv : Value) (ls : List Value) (ms : List ByteArray) : Prop where
  len : ls.length = ms.length
  own : w.ownsRow B0 31 1 lv ls.length ls
  mar : w.ownsRow B0 9 1 mv ms.length (ms.map Value.string)
  all : ∀ (i : Nat) (l : Value) (m : ByteArray), ls[i]? = some l → ms[i]? = some m → Txt w l m
  ne : ∀ l, l ∈ ls → l.ownBlock = none ∨ l.ownBlock ≠ mv.ownBlock

theorem Texts.mem {B0 : Nat} {w : World} {lv mv : Value} {ls : List Value} {ms : List ByteArray} (h : Texts B0 w lv mv ls ms) {l : Value} (hl : l ∈ ls) : ∃ m, Txt w l m := by
  obtain ⟨i, hi, rfl⟩ := List.mem_iff_getElem.1 hl
  have h2 : i < ms.length := by rw [← h.len]; exact hi
  exact ⟨ms[i], h.all i _ _ (List.getElem?_eq_getElem hi) (List.getElem?_eq_getElem h2)⟩

theorem Texts.keep {P : Nat → Prop} {B0 : Nat} {w w' : World} {lv mv : Value} {ls : List Value} {ms : List ByteArray} (h : Texts B0 w lv mv ls ms) (hk : Kept P w w') (hP : ∀ k, P k → w.heap.size ≤ k) : Texts B0 w' lv mv ls ms :=
  ⟨h.len, own_keep h.own hk (fun g hg hp => by have := hP g hp; have := (h.own.lt g hg).2; omega), own_keep h.mar hk (fun g hg hp => by have := hP g hp; have := (h.mar.lt g hg).2; omega),
   fun i l m hl hm => (h.all i l m hl hm).keep hk (fun g hg hp => by have := hP g hp; have := (h.all i l m hl hm).lt g hg; omega), h.ne⟩

/-- while a list is kept: so many lists, marks, and places more -/
structure TS (F : Nat → Prop) (B0 : Nat) (W : World) (wb : Nat) (b q x r t d : Value) (ls0 : List Value) (ms0 : List ByteArray) (m : ByteArray) (n i j k : Nat) (l lv mv : Value) (new : List Value) (w : World) : Prop where
  wd : Wd w wb b q x r t lv d mv
  wb0 : B0 ≤ wb
  own : w.ownsRow B0 31 1 lv (ls0.length + i) (ls0 ++ new)
  nl : new.length = i
  mar : w.ownsRow B0 9 1 mv (ms0.length + j) ((ms0 ++ List.replicate j m).map Value.string)
  row : w.ownsRow B0 9 1 l (n + k) (List.replicate (n + k) (.string m))
  ne1 : l.ownBlock = none ∨ l.ownBlock ≠ mv.ownBlock
  old : ∀ (a : Nat) (y : Value) (m' : ByteArray), ls0[a]? = some y → ms0[a]? = some m' → Txt w y m'
  any : ∀ y, y ∈ ls0 → ∃ m', Txt w y m'
  olk : ∀ y, y ∈ ls0 → (y.ownBlock = none ∨ y.ownBlock ≠ mv.ownBlock) ∧ (y.ownBlock = none ∨ y.ownBlock ≠ l.ownBlock)
  nw : ∀ y, y ∈ new → Txt w y m ∧ slLen y ≤ n + k ∧ (y.ownBlock = none ∨ y.ownBlock ≠ mv.ownBlock)
  bl : Below B0 W w
  bb : B0 ≤ W.heap.size
  fr : ∀ a, F a → a < W.heap.size ∧ w.heap[a]? = W.heap[a]? ∧ a ≠ wb ∧ lv.ownBlock ≠ some a ∧ mv.ownBlock ≠ some a ∧ l.ownBlock ≠ some a ∧ ∀ y, y ∈ new → y.ownBlock ≠ some a

section
variable {F : Nat → Prop} {B0 : Nat} {W : World} {wb : Nat} {b q x r t d : Value} {ls0 : List Value} {ms0 : List ByteArray} {m : ByteArray} {n i j k : Nat} {l lv mv : Value} {new : List Value} {w : World}

theorem TS.wd1 (S : TS F B0 W wb b q x r t d ls0 ms0 m n i j k l lv mv new w) (o : Obj) {w' : World} (hg : (w.alloc o).grownBy w' lv.ownBlock) : Wd w' wb b q x r t lv d mv := by
  have hk : Kept (fun a => some a = lv.ownBlock) w w' := ((Kept.refl _ w).alloc o).grown hg (fun a h _ => h.symm)
  exact S.wd.keep hk (fun e => S.wd.ne S.own (by decide) e.symm)
theorem TS.wd2 (S : TS F B0 W wb b q x r t d ls0 ms0 m n i j k l lv mv new w) (o : Obj) {w' : World} (hg : (w.alloc o).grownBy w' mv.ownBlock) : Wd w' wb b q x r t lv d mv := by
  have hk : Kept (fun a => some a = mv.ownBlock) w w' := ((Kept.refl _ w).alloc o).grown hg (fun a h _ => h.symm)
  exact S.wd.keep hk (fun e => S.wd.ne S.mar (by decide) e.symm)

theorem TS.lists (S : TS F B0 W wb b q x r t d ls0 ms0 m n i i k l lv mv new w) (hlen : ls0.length = ms0.length) : Texts B0 w lv mv (ls0 ++ new) (ms0 ++ List.replicate i m) := by
  refine ⟨by simp [S.nl, hlen], by rw [List.length_append, S.nl]; exact S.own, by rw [List.length_append, List.length_replicate]; exact S.mar, ?_, ?_⟩
  · intro a y c h1 h2
    by_cases ha : a < ls0.length
    · rw [List.getElem?_append_left ha] at h1
      rw [List.getElem?_append_left (by omega)] at h2
      exact S.old a y c h1 h2
    · rw [List.getElem?_append_right (by omega)] at h1
      rw [List.getElem?_append_right (by omega)] at h2
      have hc : c = m := by
        have := List.mem_of_getElem? h2
        exact List.eq_of_mem_replicate this
      rw [hc]
      exact (S.nw y (List.mem_of_getElem? h1)).1
  · intro y hy
    rw [List.mem_append] at hy
    rcases hy with hy | hy
    · exact (S.olk y hy).1
    · exact (S.nw y hy).2.2

theorem TS.s1 (S : TS F B0 W wb b q x r t d ls0 ms0 m n i j k l lv mv new w) (o : Obj) {g cap : Nat} {w' : World} (hown : w'.ownsRow B0 31 1 (.slice (some ⟨g, 0, none⟩) (ls0.length + i + 1) cap) (ls0.length + i + 1) ((ls0 ++ new) ++ [l]))
    (hg : (w.alloc o).grownBy w' lv.ownBlock) (hat : lv.ownBlock = some g ∨ g = w.heap.size + 1) : TS F B0 W wb b q x r t d ls0 ms0 m n (i + 1) j k l (.slice (some ⟨g, 0, none⟩) (ls0.length + i + 1) cap) mv (new ++ [l]) (w'.setCell ⟨wb, 5, none⟩ (.slice (some ⟨g, 0, none⟩) (ls0.length + i + 1) cap)) := by
  have hk : Kept (fun a => some a = lv.ownBlock) w w' := ((Kept.refl _ w).alloc o).grown hg (fun a h _ => h.symm)
  have hk2 : Kept (fun a => a = wb) w' (w'.setCell ⟨wb, 5, none⟩ (.slice (some ⟨g, 0, none⟩) (ls0.length + i + 1) cap)) := (Kept.refl (fun a => a = wb) w').setCell (show (⟨wb, _, none⟩ : Addr).block = wb from rfl) _
  have hwd : Wd w' wb b q x r t lv d mv := S.wd.keep hk (fun e => S.wd.ne S.own (by decide) e.symm)
  have two : ∀ {y : Value} {c : ByteArray}, Txt w y c → Txt (w'.setCell ⟨wb, 5, none⟩ (.slice (some ⟨g, 0, none⟩) (ls0.length + i + 1) cap)) y c := fun {y c} h =>
    have h1 := h.keep hk (ne_of (h.row S.own (by decide)))
    h1.keep hk2 (fun a ha e => h1.wd hwd (by rw [ha, e]))
  have own2 : ∀ {v : Value} {c : Nat} {xs : List Value}, w.ownsRow B0 9 1 v c xs → (w'.setCell ⟨wb, 5, none⟩ (.slice (some ⟨g, 0, none⟩) (ls0.length + i + 1) cap)).ownsRow B0 9 1 v c xs := fun {v c xs} h =>
    have h1 := own_keep h hk (ne_of (owns_ne S.own h (by decide)))
    own_keep h1 hk2 (fun a ha e => hwd.ne h1 (by decide) (by rw [ha, e]))
  refine ⟨hwd.set5 _, S.wb0, ?_, by simp [S.nl], own2 S.mar, own2 S.row, S.ne1, fun a y c h1 h2 => two (S.old a y c h1 h2), fun y hy => by obtain ⟨c, hc⟩ := S.any y hy; exact ⟨c, two hc⟩, S.olk, ?_, ?_, S.bb, ?_⟩
  · have h1 := own_keep hown hk2 (fun a ha e => hwd.ne hown (by decide) (by rw [ha, e]))
    rw [← List.append_assoc]; exact h1
  · intro y hy
    rw [List.mem_append] at hy
    rcases hy with hy | hy
    · obtain ⟨h1, h2, h3⟩ := S.nw y hy; exact ⟨two h1, h2, h3⟩
    · have : y = l := by simpa using hy
      subst this
      exact ⟨two (txt_of_own S.row), by rw [own_len S.row]; omega, S.ne1⟩
  · exact hk2.bel (hk.bel S.bl S.bb (fun a ha => (S.own.lt a ha.symm).1)) S.bb (fun a ha => by rw [ha]; exact S.wb0)
  · intro a ha
    obtain ⟨f1, f2, f3, f4, f5, f6, f7⟩ := S.fr a ha
    have hz := S.bl.size
    have hz1 := hk.size
    refine ⟨f1, ?_, f3, own_far hat (fun h => by omega) f4, f5, f6, fun y hy => ?_⟩
    · rw [hk2.block a (by omega) (fun e => f3 e), hk.block a (by omega) (fun e => f4 e.symm)]; exact f2
    · rw [List.mem_append] at hy
      rcases hy with hy | hy
      · exact f7 y hy
      · have : y = l := by simpa using hy
        subst this; exact f6

theorem TS.s2 (S : TS F B0 W wb b q x r t d ls0 ms0 m n i j k l lv mv new w) (o : Obj) {g cap : Nat} {w' : World} (hown : w'.ownsRow B0 9 1 (.slice (some ⟨g, 0, none⟩) (ms0.length + j + 1) cap) (ms0.length + j + 1) ((ms0 ++ List.replicate j m).map Value.string ++ [.string m]))
    (hg : (w.alloc o).grownBy w' mv.ownBlock) (hat : mv.ownBlock = some g ∨ g = w.heap.size + 1) : TS F B0 W wb b q x r t d ls0 ms0 m n i (j + 1) k l lv (.slice (some ⟨g, 0, none⟩) (ms0.length + j + 1) cap) new (w'.setCell ⟨wb, 7, none⟩ (.slice (some ⟨g, 0, none⟩) (ms0.length + j + 1) cap)) := by
  have hk : Kept (fun a => some a = mv.ownBlock) w w' := ((Kept.refl _ w).alloc o).grown hg (fun a h _ => h.symm)
  have hk2 : Kept (fun a => a = wb) w' (w'.setCell ⟨wb, 7, none⟩ (.slice (some ⟨g, 0, none⟩) (ms0.length + j + 1) cap)) := (Kept.refl (fun a => a = wb) w').setCell (show (⟨wb, _, none⟩ : Addr).block = wb from rfl) _
  have hwd : Wd w' wb b q x r t lv d mv := S.wd.keep hk (fun e => S.wd.ne S.mar (by decide) e.symm)
  have two : ∀ {y : Value} {c : ByteArray}, Txt w y c → (y.ownBlock = none ∨ y.ownBlock ≠ mv.ownBlock) → Txt (w'.setCell ⟨wb, 7, none⟩ (.slice (some ⟨g, 0, none⟩) (ms0.length + j + 1) cap)) y c := fun {y c} h hn =>
    have h1 := h.keep hk (ne_of hn)
    h1.keep hk2 (fun a ha e => h1.wd hwd (by rw [ha, e]))
  have own2 : ∀ {e : TypeId} {v : Value} {c : Nat} {xs : List Value}, w.ownsRow B0 e 1 v c xs → e ≠ 33 → (v.ownBlock = none ∨ v.ownBlock ≠ mv.ownBlock) → (w'.setCell ⟨wb, 7, none⟩ (.slice (some ⟨g, 0, none⟩) (ms0.length + j + 1) cap)).ownsRow B0 e 1 v c xs := fun {e v c xs} h he hn =>
    have h1 := own_keep h hk (ne_of hn)
    own_keep h1 hk2 (fun a ha e => hwd.ne h1 he (by rw [ha, e]))
  have away : ∀ {y : Value}, (y.ownBlock = none ∨ y.ownBlock ≠ mv.ownBlock) → (∀ a, y.ownBlock = some a → a < w.heap.size) → (y.ownBlock = none ∨ y.ownBlock ≠ (Value.slice (some ⟨g, 0, none⟩) (ms0.length + j + 1) cap).ownBlock) := fun {y} h1 h2 => by
    rcases h1 with h1 | h1
    · exact .inl h1
    · refine .inr fun e => ?_
      have e' : y.ownBlock = some g := e
      rcases hat with hat | hat
      · exact h1 (e'.trans hat.symm)
      · have := h2 g e'; omega
  refine ⟨hwd.set7 _, S.wb0, own2 S.own (by decide) (owns_ne S.mar S.own (by decide)), S.nl, ?_, own2 S.row (by decide) S.ne1, away S.ne1 (fun a ha => (S.row.lt a ha).2), ?_, ?_, ?_, ?_, ?_, S.bb, ?_⟩
  · have h1 := own_keep hown hk2 (fun a ha e => hwd.ne hown (by decide) (by rw [ha, e]))
    have e1 : (ms0 ++ List.replicate (j + 1) m).map Value.string = (ms0 ++ List.replicate j m).map Value.string ++ [.string m] := by
      rw [List.replicate_succ']; simp
    rw [e1]; exact h1
  · intro a y c h1 h2
    exact two (S.old a y c h1 h2) (S.olk y (List.mem_of_getElem? h1)).1
  · intro y hy
    obtain ⟨c, hc⟩ := S.any y hy; exact ⟨c, two hc (S.olk y hy).1⟩
  · intro y hy
    obtain ⟨c, hc⟩ := S.any y hy
    exact ⟨away (S.olk y hy).1 hc.lt, (S.olk y hy).2⟩
  · intro y hy
    obtain ⟨h1, h2, h3⟩ := S.nw y hy
    exact ⟨two h1 h3, h2, away h3 h1.lt⟩
  · exact hk2.bel (hk.bel S.bl S.bb (fun a ha => (S.mar.lt a ha.symm).1)) S.bb (fun a ha => by rw [ha]; exact S.wb0)
  · intro a ha
    obtain ⟨f1, f2, f3, f4, f5, f6, f7⟩ := S.fr a ha
    have hz := S.bl.size
    have hz1 := hk.size
    refine ⟨f1, ?_, f3, f4, own_far hat (fun h => by omega) f5, f6, f7⟩
    rw [hk2.block a (by omega) (fun e => f3 e), hk.block a (by omega) (fun e => f5 e.symm)]; exact f2

theorem TS.s3 (S : TS F B0 W wb b q x r t d ls0 ms0 m n i j k l lv mv new w) (o : Obj) {g cap : Nat} {w' : World} (hown : w'.ownsRow B0 9 1 (.slice (some ⟨g, 0, none⟩) (n + k + 1) cap) (n + k + 1) (List.replicate (n + k) (.string m) ++ [.string m]))
    (hd : (l.ownBlock = some g ∧ (w.alloc o).grownBy w' (some g)) ∨ (g = w.heap.size + 1 ∧ (w.alloc o).grownBy w' none)) : TS F B0 W wb b q x r t d ls0 ms0 m n i j (k + 1) (.slice (some ⟨g, 0, none⟩) (n + k + 1) cap) lv mv new w' := by
  have hrep : List.replicate (n + k) (Value.string m) ++ [.string m] = List.replicate (n + (k + 1)) (.string m) := by
    rw [← Nat.add_assoc, List.replicate_succ']
  rw [hrep] at hown
  have hnr := txt_of_own hown
  rcases hd with ⟨hl, hg⟩ | ⟨hg0, hg⟩
  · have hk : Kept (fun a => some a = l.ownBlock) w w' := ((Kept.refl _ w).alloc o).grown hg (fun a h _ => by rw [hl, h])
    refine ⟨S.wd.keep hk (fun e => S.wd.ne S.row (by decide) e.symm), S.wb0, own_keep S.own hk (ne_of (owns_ne S.row S.own (by decide))), S.nl, own_keep S.mar hk (ne_of (ne_swap S.ne1)), hown, ?_, ?_, ?_, ?_, ?_, ?_, S.bb, ?_⟩
    · rcases S.ne1 with h | h
      · rw [hl] at h; cases h
      · exact .inr (by rw [hl] at h; exact h)
    · intro a y c h1 h2
      exact (S.old a y c h1 h2).keep hk (ne_of (S.olk y (List.mem_of_getElem? h1)).2)
    · intro y hy
      obtain ⟨c, hc⟩ := S.any y hy; exact ⟨c, hc.keep hk (ne_of (S.olk y hy).2)⟩
    · intro y hy
      refine ⟨(S.olk y hy).1, ?_⟩
      have := (S.olk y hy).2
      rw [hl] at this; exact this
    · intro y hy
      obtain ⟨h1, h2, h3⟩ := S.nw y hy
      refine ⟨?_, by omega, h3⟩
      by_cases e : y.ownBlock = some g
      · rcases h1 with h1 | ⟨g', n', cap', cur, rfl, _, hc', _⟩
        · exact .inl h1
        · have hgg : g' = g := by simpa [Value.ownBlock] using e
          subst hgg
          rcases hnr with hnr | ⟨g2, n2, cap2, cur2, e2, e3, _, e5⟩
          · cases hnr
          · injection e2 with e6 e7 e8
            injection e6 with e9
            injection e9 with e10
            subst e10
            have h2' : n' ≤ n + k := h2
            exact .inr ⟨g', n', cap', cur2, rfl, e3, hc', fun a ha => e5 a (by omega)⟩
      · exact h1.keep hk (fun a ha e2 => e (by rw [ha, e2, hl]))
    · exact hk.bel S.bl S.bb (fun a ha => (S.row.lt a ha.symm).1)
    · intro a ha
      obtain ⟨f1, f2, f3, f4, f5, f6, f7⟩ := S.fr a ha
      have hz := S.bl.size
      refine ⟨f1, ?_, f3, f4, f5, own_far (G := False) (.inl hl) (fun h => h.elim) f6, f7⟩
      rw [hk.block a (by omega) (fun e => f6 e.symm)]; exact f2
  · have hk : Kept (fun _ => False) w w' := ((Kept.refl _ w).alloc o).grown hg (fun a h _ => by cases h)
    have nf : ∀ {v : Value}, ∀ a, v.ownBlock = some a → ¬ False := fun a _ h => h
    have far : ∀ {y : Value}, (∀ a, y.ownBlock = some a → a < w.heap.size) → (y.ownBlock = none ∨ y.ownBlock ≠ (Value.slice (some ⟨g, 0, none⟩) (n + k + 1) cap).ownBlock) := fun {y} h2 => by
      cases hy : y.ownBlock with
      | none => exact .inl rfl
      | some a =>
        refine .inr fun e => ?_
        have : a = g := by simpa [Value.ownBlock] using e
        have := h2 a hy; omega
    refine ⟨S.wd.keep hk (fun h => h), S.wb0, own_keep S.own hk (nf (v := lv)), S.nl, own_keep S.mar hk (nf (v := mv)), hown, ne_swap (far (fun a ha => (S.mar.lt a ha).2)), ?_, ?_, ?_, ?_, ?_, S.bb, ?_⟩
    · intro a y c h1 h2
      exact (S.old a y c h1 h2).keep hk (nf (v := y))
    · intro y hy
      obtain ⟨c, hc⟩ := S.any y hy; exact ⟨c, hc.keep hk (nf (v := y))⟩
    · intro y hy
      obtain ⟨c, hc⟩ := S.any y hy
      exact ⟨(S.olk y hy).1, far hc.lt⟩
    · intro y hy
      obtain ⟨h1, h2, h3⟩ := S.nw y hy
      exact ⟨h1.keep hk (nf (v := y)), by omega, h3⟩
    · exact hk.bel S.bl S.bb (fun a h => h.elim)
    · intro a ha
      obtain ⟨f1, f2, f3, f4, f5, f6, f7⟩ := S.fr a ha
      have hz := S.bl.size
      refine ⟨f1, ?_, f3, f4, f5, own_far (v := .slice none 0 0) (G := True) (.inr trivial) (fun h => by omega) (by simp [Value.ownBlock]), f7⟩
      rw [hk.block a (by omega) (fun e => e)]; exact f2

end

end Go.Proofs.YtopihgmemnokkaaGreat

namespace Go.Proofs.YtopihgmemnokkaaGreat
open Go.RowKit

theorem Tryz.info30 : (Tryz.prog.info? 30).map (fun i => (i.zero, i.size, i.bytes)) = some (some (.slice none 0 0), 1, 24) := by kernel_rfl

/-- nothing has turned -/
abbrev Still (w w' : World) : Prop := Kept (fun _ => False) w w'
theorem Kept.drewN {P : Nat → Prop} {a w : World} (h : Kept P a w) (n : Nat) : Kept P a (w.drewN n) := ⟨h.os, h.tape, h.output, h.size, h.block⟩
theorem Kept.cell {P : Nat → Prop} {w w' : World} (h : Kept P w w') {a : Addr} {v : Value} (hc : w.cell? a = some v) (hn : ¬ P a.block) : w'.cell? a = some v :=
  (World.cell?_of_block (h.block a.block (World.block_lt_of_cell? w a hc) hn)).trans hc

set_option maxHeartbeats 400000 in
theorem num_any (e : Int) (w : World) :
    Calls Tryz.prog 43 #[.int .i64 e] w fun x w' => x = .returned (.int .i64 e) ∧ w' = w := by
  go_enter Tryz.func43, Tryz.ntmps43
  go_wp2
  go_ret
  exact ⟨rfl, rfl⟩

/-- a value whose cells read so -/
def Reads (w : World) (v : Value) (n : Nat) (f : Nat → Int) : Prop :=
  (v = .slice none 0 0 ∧ n = 0) ∨ ∃ g cap, v = .slice (some ⟨g, 0, none⟩) n cap ∧ ∀ k, k < n → w.cell? ⟨g, k, none⟩ = some (.int .i64 (f k))

theorem Reads.still {w w' : World} {v : Value} {n : Nat} {f : Nat → Int} (h : Reads w v n f) (hk : Still w w') : Reads w' v n f := by
  rcases h with h | ⟨g, cap, rfl, hg⟩
  · exact .inl h
  · exact .inr ⟨g, cap, rfl, fun k hk' => hk.cell (hg k hk') (fun h => h)⟩

set_option maxRecDepth 100000 in
set_option maxHeartbeats 1000000 in
theorem same_any (u v : Value) (n : Nat) (f : Nat → Int) (w : World) (hu : Reads w u n f) (hv : Reads w v n f) (hn : n ≤ 5000) :
    Calls Tryz.prog 41 #[u, v] w fun e w' => e = .returned (.bool true) ∧ Still w w' := by
  rcases hu with ⟨rfl, rfl⟩ | ⟨g, cap, rfl, hg⟩
  · rcases hv with ⟨rfl, _⟩ | ⟨g', cap', rfl, hg'⟩
    · go_enter Tryz.func41, Tryz.ntmps41
      go_wp2
      go_loopw [5] (fun i wr => i = .int .i64 0 ∧ wr = w) (fun _ _ => 0)
      case atStart => exact ⟨rfl, rfl⟩
      case round =>
        obtain ⟨rfl, rfl⟩ := hrel
        go_wp2
        go_ret
        exact ⟨rfl, Kept.refl _ _⟩
    · go_enter Tryz.func41, Tryz.ntmps41
      go_wp2
      go_loopw [5] (fun i wr => i = .int .i64 0 ∧ wr = w) (fun _ _ => 0)
      case atStart => exact ⟨rfl, rfl⟩
      case round =>
        obtain ⟨rfl, rfl⟩ := hrel
        go_wp2
        go_ret
        exact ⟨rfl, Kept.refl _ _⟩
  · rcases hv with ⟨rfl, rfl⟩ | ⟨g', cap', rfl, hg'⟩
    · go_enter Tryz.func41, Tryz.ntmps41
      go_wp2
      go_loopw [5] (fun i wr => i = .int .i64 0 ∧ wr = w) (fun _ _ => 0)
      case atStart => exact ⟨rfl, rfl⟩
      case round =>
        obtain ⟨rfl, rfl⟩ := hrel
        go_wp2
        go_ret
        exact ⟨rfl, Kept.refl _ _⟩
    · have hd : (((n : Nat) : Int) != ((n : Nat) : Int)) = false := by simp
      go_enter Tryz.func41, Tryz.ntmps41
      go_wp2
      go_loopw [5] (fun i wr => ∃ p : Nat, p ≤ n ∧ i = .int .i64 p ∧ Still w wr) (fun i _ => n - (intOf i).toNat)
      case atStart => exact ⟨0, by omega, rfl, Kept.refl _ _⟩
      case round =>
        obtain ⟨p, hp, rfl, hk⟩ := hrel
        by_cases hlt : p < n
        · have c1 := hk.cell (hg p hlt) (fun h => h)
          have c2 := hk.cell (hg' p hlt) (fun h => h)
          generalize f p = y at c1 c2
          have hy : (y != y) = false := by simp
          have hlt' : (p : Int) < (n : Int) := by omega
          go_wp2_with fail
          go_quiet (fail)
          go_wp2
          exact ⟨⟨p + 1, by omega, by go_num, hk.drewN nq⟩, by simp [intOf]; omega⟩
        · have hp' : p = n := by omega
          subst hp'
          go_wp2
          go_ret
          exact ⟨rfl, hk⟩

/-- other blocks are as they were, and are none of ours -/
def Away (F : Nat → Prop) (w w' : World) (lv mv : Value) (ls0 ls : List Value) : Prop := ∀ a, F a → w'.heap[a]? = w.heap[a]? ∧ lv.ownBlock ≠ some a ∧ mv.ownBlock ≠ some a ∧ ∀ y, y ∈ ls → y ∈ ls0 ∨ y.ownBlock ≠ some a

theorem set_rep (p n : Nat) (xs : List Value) (u : Value) (hl : xs.length = n) (hp : p < n) : (List.replicate p u ++ xs.drop p).set p u = List.replicate (p + 1) u ++ xs.drop (p + 1) := by
  rw [List.set_append_right _ _ (by simp), List.length_replicate, Nat.sub_self, List.replicate_succ', List.append_assoc]
  congr 1
  rw [List.drop_eq_getElem_cons (by omega)]
  rfl

set_option maxRecDepth 100000 in
set_option maxHeartbeats 2000000 in
theorem keep_any (F : Nat → Prop) (B0 wb : Nat) (b q x r t d lv mv l : Value) (ls0 : List Value) (ms0 : List Int) (n : Nat) (xs : List Value) (w : World) (hw : Wd w wb b q x r lv t mv d) (hB : B0 ≤ wb) (L : Lists B0 w lv mv ls0 ms0)
    (hl : w.ownsRow B0 3 1 l n xs) (hne : l.ownBlock = none ∨ l.ownBlock ≠ mv.ownBlock) (hold : ∀ y, y ∈ ls0 → y.ownBlock = none ∨ y.ownBlock ≠ l.ownBlock) (hbb : B0 ≤ w.heap.size) (hlen : ls0.length ≤ 5000000) (hn : n ≤ 5000)
    (hF : ∀ a, F a → a < w.heap.size ∧ a ≠ wb ∧ lv.ownBlock ≠ some a ∧ mv.ownBlock ≠ some a ∧ l.ownBlock ≠ some a) :
    Calls Tryz.prog 42 #[.pointer (some ⟨wb, 0, none⟩), l] w fun e w' => e = .returned (.tuple #[]) ∧ ∃ lv' mv' ls ms, Wd w' wb b q x r lv' t mv' d ∧ Lists B0 w' lv' mv' ls ms ∧ ls.length = ls0.length + 4 ∧ Below B0 w w' ∧ Away F w w' lv' mv' ls0 ls := by
  obtain ⟨i0, hi, hz0, hz1, hz2⟩ := info_parts Tryz.info30
  obtain ⟨j0, hj, hy0, hy1, hy2⟩ := info_parts Tryz.info3
  have hms : ms0.length ≤ 5000000 := by rw [← L.len]; exact hlen
  have c6 := hw.cell 6
  simp only [List.getElem?_toArray, List.getElem?_cons_succ, List.getElem?_cons_zero] at c6
  obtain ⟨ma, mc, hmv⟩ := own_slice L.mar
  obtain ⟨la, lc, hlv⟩ := own_slice hl
  have S0 : ∀ w2 m, Kept (fun a => some a = l.ownBlock) w w2 → w2.ownsRow B0 3 1 l n (List.replicate n (.int .i64 m)) → KS F B0 w wb b q x r t d ls0 ms0 m n 0 0 0 l lv mv [] w2 := by
    intro w2 m hk hr
    refine ⟨hw.keep hk (fun e => hw.ne hl (by decide) e.symm), hB, ?_, rfl, ?_, hr, hne, ?_, ?_, ?_, fun y hy => by simp at hy, ?_, hbb, ?_⟩
    · rw [List.append_nil]; exact own_keep L.own hk (ne_of (owns_ne hl L.own (by decide)))
    · simp only [List.replicate_zero, List.append_nil]; exact own_keep L.mar hk (ne_of (ne_swap hne))
    · intro a y c h1 h2
      exact (L.all a y c h1 h2).keep hk (ne_of (hold y (List.mem_of_getElem? h1)))
    · intro y hy
      obtain ⟨c, hc⟩ := L.mem hy; exact ⟨c, hc.keep hk (ne_of (hold y hy))⟩
    · intro y hy; exact ⟨L.ne y hy, hold y hy⟩
    · exact hk.bel (Below.refl _ _) hbb (fun a ha => (hl.lt a ha.symm).1)
    · intro a ha
      obtain ⟨f1, f2, f3, f4, f5⟩ := hF a ha
      exact ⟨f1, hk.block a f1 (fun e => f5 e.symm), f2, f3, f4, f5, fun y hy => by simp at hy⟩
  have hfin : ∀ w2 l m lv' mv' new, KS F B0 w wb b q x r t d ls0 ms0 m n 4 4 4 l lv' mv' new w2 → ∃ lv' mv' ls ms, Wd w2 wb b q x r lv' t mv' d ∧ Lists B0 w2 lv' mv' ls ms ∧ ls.length = ls0.length + 4 ∧ Below B0 w w2 ∧ Away F w w2 lv' mv' ls0 ls := by
    intro w2 l m lv' mv' new S
    refine ⟨lv', mv', _, _, S.wd, S.lists L.len, by rw [List.length_append, S.nl], S.bl, fun a ha => ?_⟩
    obtain ⟨f1, f2, f3, f4, f5, f6, f7⟩ := S.fr a ha
    exact ⟨f2, f4, f5, fun y hy => (List.mem_append.1 hy).imp id (f7 y)⟩
  have hxl : xs.length = n := by have := hl.1; omega
  have hl0 : Kept (fun a => some a = l.ownBlock) w w ∧ w.ownsRow B0 3 1 l n xs := ⟨Kept.refl _ _, hl⟩
  rw [hmv] at c6
  clear hmv hw L hne hold hl hF
  subst hlv
  go_enter Tryz.func42, Tryz.ntmps42
  go_wp2
  clear c6
  generalize (-1 - (ms0.length : Int)) = m at *
  go_loopw [5] (fun iv wr => ∃ p : Nat, p ≤ n ∧ iv = .int .i64 p ∧ Kept (fun a => some a = (Value.slice la n lc).ownBlock) w wr ∧ wr.ownsRow B0 3 1 (.slice la n lc) n (List.replicate p (.int .i64 m) ++ xs.drop p)) (fun iv _ => n - (intOf iv).toNat)
  case atStart => exact ⟨0, by omega, rfl, hl0.1, by simpa using hl0.2⟩
  case round =>
    clear hl0
    obtain ⟨p, hp, rfl, hk, ho⟩ := hrel
    by_cases hlt : p < n
    · obtain ⟨g, rfl⟩ : ∃ g, la = some ⟨g, 0, none⟩ := by
        rcases ho.2 with ⟨h1, h2⟩ | ⟨g, _, _, h1, _⟩
        · omega
        · injection h1 with h1 _ _; exact ⟨g, h1⟩
      have hst := ho.stored p (.int .i64 m)
      rw [set_rep p n xs _ hxl hlt] at hst
      have hc := ho.cellAt p (by omega)
      have hfz := ho.frozenAt p
      have hcx : ∃ u, wr.cell? ⟨g, p, none⟩ = some u := by
        rw [hc]; exact ⟨_, List.getElem?_eq_getElem (by simp; omega)⟩
      obtain ⟨u, hcu⟩ := hcx
      clear hc
      have hk2 := hk.grown hst.2 (fun k e _ => by rw [← e]; rfl)
      have hlt' : (p : Int) < (n : Int) := by omega
      go_wp2
      exact ⟨⟨p + 1, by omega, by go_num, hk2, hst.1⟩, by simp [intOf]; omega⟩
    · have hp' : p = n := by omega
      subst hp'
      rw [List.drop_eq_nil_of_le (by omega), List.append_nil] at ho
      have S := S0 wr m hk ho
      clear S0 hk ho
      go_wp2
      go_loopw [1, 6, 7] (fun l iv _ wr => ∃ i : Nat, i ≤ 4 ∧ iv = .int .i64 i ∧ ∃ lv mv new, KS F B0 w wb b q x r t d ls0 ms0 m p i i i l lv mv new wr) (fun _ iv _ _ => 4 - (intOf iv).toNat)
      case atStart => exact ⟨0, by omega, rfl, lv, mv, [], S⟩
      case round =>
        clear S
        obtain ⟨i, hi4, rfl, lv, mv, new, S⟩ := hrel
        by_cases hlt4 : i < 4
        · obtain ⟨la, lc, rfl⟩ := own_slice S.row
          have c4 := S.wd.cell 4
          simp only [List.getElem?_toArray, List.getElem?_cons_succ, List.getElem?_cons_zero] at c4
          have A := fun g cap w' => S.s1 (g := g) (cap := cap) (w' := w') (Obj.cells #[Value.slice la (p + i) lc] 30)
          have A2 := fun w' => S.wd1 (w' := w') (Obj.cells #[Value.slice la (p + i) lc] 30)
          have hz := Nat.le_trans S.bb S.bl.size
          go_wp2_with (at_builtin; refine wpList_append_two _ rfl _ _ 28 rfl B0 30 i0 (.slice none 0 0) 24 Tryz.underlying28 hi hz0 hz1 hz2 rfl _ _ _ rfl (S.own.alloc _) ⟨wr.heap.size, 0, none⟩ 1 (.slice la (p + i) lc) rfl ?c1 ?c2 ?c3 ?c4 ?c5 ?_)
          case c1 => exact cell_one_new _ _ _
          case c2 => rfl
          case c3 => unfold maxLen; omega
          case c4 => omega
          case c5 => simp; omega
          intro g cap w1 hown hlt1 hd
          have hg := two_grown hd
          have S1 := A g cap w1 (by rw [List.append_assoc]; exact hown) hg (hd.elim (fun h => .inl h.1) (fun h => .inr (by simpa using h.1)))
          have W1 := A2 w1 hg
          clear A A2 hown hd hg c4 S
          have c4 := W1.cell 4
          simp only [List.getElem?_toArray, List.getElem?_cons_succ, List.getElem?_cons_zero] at c4
          have f4 := W1.frozen 4
          clear W1
          have c6 := S1.wd.cell 6
          simp only [List.getElem?_toArray, List.getElem?_cons_succ, List.getElem?_cons_zero] at c6
          have A := fun g cap w' => S1.s2 (g := g) (cap := cap) (w' := w') (Obj.cells #[Value.int .i64 m] 3)
          have A2 := fun w' => S1.wd2 (w' := w') (Obj.cells #[Value.int .i64 m] 3)
          have hz := Nat.le_trans S1.bb S1.bl.size
          go_wp2_with (at_builtin; refine wpList_append_two _ rfl _ _ 30 rfl B0 3 j0 (.int .i64 0) 8 Tryz.underlying30 hj hy0 hy1 hy2 rfl _ _ _ rfl (S1.mar.alloc _) ⟨w1.heap.size, 0, none⟩ 1 (.int .i64 m) rfl ?d1 ?d2 ?d3 ?d4 ?d5 ?_)
          case d1 => exact cell_one_at (by simp)
          case d2 => rfl
          case d3 => unfold maxLen; omega
          case d4 => omega
          case d5 => simp at hz ⊢; omega
          intro g2 cap2 w2 hown hlt2 hd
          have hg := two_grown hd
          have S2 := A g2 cap2 w2 (by first | exact hown | simpa using hown) hg (hd.elim (fun h => .inl h.1) (fun h => .inr (by simpa using h.1)))
          have W2 := A2 w2 hg
          clear A A2 hown hd hg c6 S1 c4 f4
          have c6 := W2.cell 6
          simp only [List.getElem?_toArray, List.getElem?_cons_succ, List.getElem?_cons_zero] at c6
          have f6 := W2.frozen 6
          clear W2
          have A := fun g cap w' => S2.s3 (g := g) (cap := cap) (w' := w') (Obj.cells #[Value.int .i64 m] 3)
          have hz := Nat.le_trans S2.bb S2.bl.size
          go_wp2_with (at_builtin; refine wpList_append_two _ rfl _ _ 30 rfl B0 3 j0 (.int .i64 0) 8 Tryz.underlying30 hj hy0 hy1 hy2 rfl _ _ _ rfl (S2.row.alloc _) ⟨w2.heap.size, 0, none⟩ 1 (.int .i64 m) rfl ?e1 ?e2 ?e3 ?e4 ?e5 ?_)
          case e1 => exact cell_one_at (by simp)
          case e2 => rfl
          case e3 => unfold maxLen; omega
          case e4 => omega
          case e5 => simp at hz ⊢; omega
          intro g3 cap3 w3 hown hlt3 hd
          have S3 := A g3 cap3 w3 hown (hd.imp id (fun h => ⟨by simpa using h.1, h.2⟩))
          clear A hown hd S2 c6 f6
          go_wp2
          exact ⟨⟨i + 1, by omega, by go_num, _, _, _, S3⟩, by simp [intOf]; omega⟩
        · have hi' : i = 4 := by omega
          subst hi'
          have hf := hfin _ _ _ _ _ _ S
          clear S hfin
          go_wp2
          go_end0
          exact ⟨rfl, hf⟩

end Go.Proofs.YtopihgmemnokkaaGreat

namespace Go.Proofs.YtopihgmemnokkaaGreat
open Go.RowKit

theorem own_at {w : World} {base : Nat} {e : TypeId} {v : Value} {n : Nat} {xs : List Value} (h : w.ownsRow base e 1 v n xs) {p : Nat} (hp : p < n) : ∃ g cap x, v = .slice (some ⟨g, 0, none⟩) n cap ∧ xs[p]? = some x ∧ w.cell? ⟨g, p, none⟩ = some x := by
  have hl := h.1
  obtain ⟨g, cap, hv, _, _⟩ := h.form (by omega)
  have h' := h
  rw [hv] at h'
  refine ⟨g, cap, xs[p], hv, List.getElem?_eq_getElem (by omega), ?_⟩
  rw [h'.cellAt p (by omega)]; exact List.getElem?_eq_getElem (by omega)

theorem Lst.slice {w : World} {l : Value} {m : Int} (h : Lst w l m) : ∃ la n lc, l = .slice la n lc ∧ n ≤ 9223372036854775807 ∧ ∀ k, k < n → ∃ g, la = some ⟨g, 0, none⟩ ∧ w.cell? ⟨g, k, none⟩ = some (.int .i64 m) := by
  rcases h with rfl | ⟨g, n, cap, cur, rfl, h1, h2, h3⟩
  · exact ⟨none, 0, 0, rfl, by omega, fun k hk => by omega⟩
  · refine ⟨_, n, cap, rfl, by have := h2.2; unfold maxLen at this; omega, fun k hk => ⟨g, rfl, ?_⟩⟩
    have := h3 k hk
    simp [World.cell?, h1, this]

set_option maxRecDepth 100000 in
set_option maxHeartbeats 2000000 in
theorem kept_any (B0 wb : Nat) (b q x r d lv mv : Value) (ls : List Value) (ms : List Int) (w : World) (hw : Wd w wb b q x r lv (.slice none 0 0) mv d) (L : Lists B0 w lv mv ls ms) (hlen : ls.length ≤ 8000000) :
    Calls Tryz.prog 28 #[.pointer (some ⟨wb, 0, none⟩)] w fun e w' => e = .returned (.bool true) ∧ Still w w' := by
  have hwc := fun {w' : World} (hk : Still w w') => hw.keep hk (fun h => h)
  obtain ⟨la, lc, hlv⟩ := own_slice L.own
  obtain ⟨ma, mc, hmv⟩ := own_slice L.mar
  have hll := L.len
  have C : ∀ p, p < ls.length → ∃ g1 g2 m l, la = some ⟨g1, 0, none⟩ ∧ ma = some ⟨g2, 0, none⟩ ∧ w.cell? ⟨g1, p, none⟩ = some l ∧ w.cell? ⟨g2, p, none⟩ = some (.int .i64 m) ∧ Lst w l m := by
    intro p hp
    obtain ⟨g1, c1, l, e1, h1, h2⟩ := own_at L.own hp
    obtain ⟨g2, c2, y, e2, h3, h4⟩ := own_at L.mar (p := p) (by omega)
    rw [List.getElem?_map] at h3
    cases hm : ms[p]? with
    | none => rw [hm] at h3; cases h3
    | some m =>
      rw [hm] at h3
      have hy : y = .int .i64 m := by simpa using h3.symm
      subst hy
      rw [hlv] at e1
      rw [hmv] at e2
      injection e1 with e1
      injection e2 with e2
      exact ⟨g1, g2, m, l, e1, e2, h2, h4, L.all p l m h1 hm⟩
  rw [← hll] at hmv
  clear L hw hll
  subst hlv hmv
  go_enter Tryz.func28, Tryz.ntmps28
  go_wp2
  go_loopw [3, 4] (fun i _ wr => ∃ p : Nat, p ≤ ls.length ∧ i = .int .i64 p ∧ Still w wr) (fun i _ _ => ls.length - (intOf i).toNat)
  case atStart => exact ⟨0, by omega, rfl, Kept.refl _ _⟩
  case round =>
    obtain ⟨p, hp, rfl, hk⟩ := hrel
    have W := hwc hk
    have c4 := W.cell 4
    have c5 := W.cell 5
    simp only [List.getElem?_toArray, List.getElem?_cons_succ, List.getElem?_cons_zero] at c4 c5
    clear W
    by_cases hlt : p < ls.length
    · obtain ⟨g1, g2, m, l, rfl, rfl, h1, h2, hL⟩ := C p hlt
      obtain ⟨na, n, nc, rfl, hn9, hn⟩ := hL.slice
      have hlt' : decide ((p : Int) < (ls.length : Int)) = true := decide_eq_true (by omega)
      clear C c5
      go_wp2
      clear c4
      go_loopw [4] (fun kk wr => ∃ k : Nat, k ≤ n ∧ kk = .int .i64 k ∧ Still w wr) (fun kk _ => n - (intOf kk).toNat)
      case atStart => exact ⟨0, by omega, rfl, hk⟩
      case round =>
        clear hk
        obtain ⟨k, hkn, rfl, hk⟩ := hrel
        have W := hwc hk
        have c4 := W.cell 4
        have c6 := W.cell 6
        simp only [List.getElem?_toArray, List.getElem?_cons_succ, List.getElem?_cons_zero] at c4 c6
        clear W
        have k1 := hk.cell h1 (fun h => h)
        have k2 := hk.cell h2 (fun h => h)
        by_cases hkl : k < n
        · obtain ⟨g3, rfl, h3⟩ := hn k hkl
          have k3 := hk.cell h3 (fun h => h)
          have hmm : (m != m) = false := by simp
          have hkl' : (k : Int) < (n : Int) := by omega
          have hlt2 : (p : Int) < (ls.length : Int) := by omega
          go_wp2_with fail
          go_quiet (fail)
          go_wp2
          exact ⟨⟨k + 1, by omega, by go_num, hk.drewN nq⟩, by simp [intOf]; omega⟩
        · have hk' : k = n := by omega
          subst hk'
          go_wp2
          exact ⟨⟨p + 1, by omega, by go_num, hk⟩, by simp [intOf]; omega⟩
    · have hp' : p = ls.length := by omega
      subst hp'
      clear C
      go_wp2
      go_loopw [5, 6] (fun i _ wr => i = .int .i64 0 ∧ Still w wr) (fun _ _ _ => 0)
      case atStart => exact ⟨rfl, hk⟩
      case round =>
        clear hk
        obtain ⟨rfl, hk⟩ := hrel
        have W := hwc hk
        have c5 := W.cell 5
        simp only [List.getElem?_toArray, List.getElem?_cons_succ, List.getElem?_cons_zero] at c5
        clear W
        go_wp2
        go_ret
        exact ⟨rfl, hk⟩

end Go.Proofs.YtopihgmemnokkaaGreat

namespace Go.Proofs.YtopihgmemnokkaaGreat
open Go.RowKit

theorem rows_place {s : ByteArray} {rows B : Nat → Nat} (hD : Cc.Down s.size (LT s) (before s) 0 rows B) {p : Nat} (hp : p ≤ s.size) : rows p = placeOf s p := by
  obtain ⟨i, hi, hip⟩ := (ord s).onto (r := p) hp
  have h1 := hD.done (ord s) hi
  have h2 := placeOf_rank s hi
  rw [hip] at h1 h2
  rw [h1, h2]

/-- a step, boxed -/
abbrev opBox (K A B C : Int) (s : ByteArray) : Obj := .cells #[.int .i64 K, .int .i64 A, .int .i64 B, .int .i64 C, .string s] 36

theorem box_cell (w : World) (K A B C : Int) (s : ByteArray) {w' : World} (hb : Below (w.heap.size + 1) (w.alloc (opBox K A B C s)) w') (i : Nat) : w'.cell? ⟨w.heap.size, i, none⟩ = #[.int .i64 K, .int .i64 A, .int .i64 B, .int .i64 C, .string s][i]? := by
  have h1 : (w.alloc (opBox K A B C s)).heap[w.heap.size]? = some (opBox K A B C s) := heap_alloc_new w _
  have h2 := hb.block w.heap.size (by omega)
  rw [h1] at h2
  simp [World.cell?, h2]

theorem still_below {w w' : World} (h : Still w w') (B : Nat) (hB : B ≤ w.heap.size) : Below B w w' := h.below (fun _ h => h.elim) hB

/-- what both answer -/
def RAns (b : ByteArray) (row : Int) (t : ByteArray) (n : Nat) : Prop :=
  (1000 < b.size ∧ t = ByteArray.empty ∧ n = 1) ∨ (b.size ≤ 1000 ∧ (∀ r : Nat, row = r → ¬ Cc.Takes b.size (BY b) r) ∧ t = ByteArray.empty ∧ n = 4) ∨
  (b.size ≤ 1000 ∧ ∃ r : Nat, row = r ∧ Cc.Takes b.size (BY b) r ∧ t = textOf b r ∧ n = 0)

theorem RAns.uniq {b : ByteArray} {row : Int} {t t' : ByteArray} {n n' : Nat} (h : RAns b row t n) (h' : RAns b row t' n') : t' = t ∧ n' = n := by
  rcases h with ⟨h1, h2, h3⟩ | ⟨h1, h2, h3, h4⟩ | ⟨h1, r, h2, h3, h4, h5⟩
  · rcases h' with ⟨k1, k2, k3⟩ | ⟨k1, k2, k3, k4⟩ | ⟨k1, r', k2, k3, k4, k5⟩
    · exact ⟨by rw [h2, k2], by omega⟩
    · omega
    · omega
  · rcases h' with ⟨k1, k2, k3⟩ | ⟨k1, k2, k3, k4⟩ | ⟨k1, r', k2, k3, k4, k5⟩
    · omega
    · exact ⟨by rw [h3, k3], by omega⟩
    · exact absurd k3 (h2 r' k2)
  · rcases h' with ⟨k1, k2, k3⟩ | ⟨k1, k2, k3, k4⟩ | ⟨k1, r', k2, k3, k4, k5⟩
    · omega
    · exact absurd h3 (k2 r h2)
    · have : r = r' := by omega
      subst this
      exact ⟨by rw [h4, k4], by omega⟩

theorem restore_ans (b : ByteArray) (row : Int) (w : World) :
    Calls Tryz.prog 50 #[.string b, .int .i64 row] w fun e w' => ∃ (t : ByteArray) (n : Nat), e = .returned (.tuple #[.string t, .int .i64 (n : Nat)]) ∧ RAns b row t n ∧ Below w.heap.size w w' := by
  refine (restore_any b row w).mono ?_
  rintro e w' ⟨t, n, he, hs, hr, hb⟩
  refine ⟨t, n, he, ?_, hb⟩
  rcases hs with ⟨h1, h2, h3⟩ | ⟨h1, h2, h3⟩ | ⟨h1, r, h2, h3, h4, h5⟩
  · exact .inl ⟨h1, h2, h3⟩
  · refine .inr (.inl ⟨h1, fun r hrr ht => ?_, h2, h3⟩)
    have := (hr r hrr h1 ht).2
    omega
  · exact .inr (.inr ⟨h1, r, h2, h3, h4, h5⟩)

theorem refrestore_ans (b : ByteArray) (row : Int) (w : World) :
    Calls Tryz.prog 51 #[.string b, .int .i64 row] w fun e w' => ∃ (t : ByteArray) (n : Nat), e = .returned (.tuple #[.string t, .int .i64 (n : Nat)]) ∧ RAns b row t n ∧ Below w.heap.size w w' := by
  by_cases hs : b.size ≤ 1000
  · by_cases ho : row < 0 ∨ (b.size : Int) < row
    · refine (refrestore_out b row w hs ho).mono ?_
      rintro e w' ⟨rfl, rfl⟩
      refine ⟨_, 4, rfl, .inr (.inl ⟨hs, fun r hr t => ?_, rfl, rfl⟩), Below.refl _ _⟩
      have := t.1; omega
    · obtain ⟨r, rfl⟩ : ∃ r : Nat, row = r := ⟨row.toNat, by omega⟩
      refine (refrestore_in b r w hs (by omega)).mono ?_
      rintro e w' ⟨hb, ⟨h1, rfl⟩ | ⟨h1, rfl⟩⟩
      · refine ⟨_, 4, rfl, .inr (.inl ⟨hs, fun r' hr t => ?_, rfl, rfl⟩), hb⟩
        have : r' = r := by omega
        subst this; exact h1 t
      · exact ⟨_, 0, rfl, .inr (.inr ⟨hs, r, rfl, h1, rfl, rfl⟩), hb⟩
  · refine (refrestore_long b row w (by omega)).mono ?_
    rintro e w' ⟨rfl, rfl⟩
    exact ⟨_, 1, rfl, .inl ⟨by omega, rfl, rfl⟩, Below.refl _ _⟩

end Go.Proofs.YtopihgmemnokkaaGreat

namespace Go.Proofs.YtopihgmemnokkaaGreat
open Go.RowKit

/-- an index of the document's -/
def IAt (w : World) (b : Nat) (t : ByteArray) (rate : Int) : Prop := w.heap[b]? = some (.cells #[.string t, .int .i64 rate] 159 (0, 0))
theorem IAt.keep {P : Nat → Prop} {w w' : World} {b : Nat} {t : ByteArray} {rate : Int} (h : IAt w b t rate) (hk : Kept P w w') (hn : ¬ P b) : IAt w' b t rate := by
  unfold IAt at *
  rw [hk.block b (Array.getElem?_eq_some_iff.1 h).1 hn]; exact h
theorem IAt.below {B : Nat} {w w' : World} {b : Nat} {t : ByteArray} {rate : Int} (h : IAt w b t rate) (hb : Below B w w') (hlt : b < B) : IAt w' b t rate := by
  unfold IAt at *; rw [hb.block b hlt]; exact h
theorem IAt.lt {w : World} {b : Nat} {t : ByteArray} {rate : Int} (h : IAt w b t rate) : b < w.heap.size := (Array.getElem?_eq_some_iff.1 h).1
theorem IAt.cell {w : World} {b : Nat} {t : ByteArray} {rate : Int} (h : IAt w b t rate) (i : Nat) : w.cell? ⟨b, i, none⟩ = #[.string t, .int .i64 rate][i]? := by
  unfold IAt at h; simp [World.cell?, h]
set_option maxRecDepth 100000 in
set_option maxHeartbeats 2000000 in
theorem refLocate_any (t p : ByteArray) (rate : Int) (b : Nat) (w : World) (h : IAt w b t rate) (hs : t.size ≤ 1000) (hp : p.size ≤ 1099511627776) :
    Calls Tryz.prog 63 #[.pointer (some ⟨b, 0, none⟩), .string p] w fun e w' => ∃ v, e = .returned v ∧ w'.ownsRow w.heap.size 3 1 v (occT t p (t.size + 1)).length (intsL (occT t p (t.size + 1))) ∧ Below w.heap.size w w' := by
  obtain ⟨j0, hj, hy0, hy1, hy2⟩ := info_parts Tryz.info3
  have HI : Hid (IAt w b t rate) := h
  have hlt0 := h.lt
  clear h
  go_enter Tryz.func63, Tryz.ntmps63
  go_wp2
  go_loopw [5, 6] (fun lv iv wr => ∃ (i n q : Nat) (a : Option Addr), i ≤ t.size + 1 ∧ n ≤ i ∧ iv = .int .i64 i ∧ lv = .slice a n q ∧ Hid ((occT t p i).length = n) ∧ Hid (wr.ownsRow w.heap.size 3 1 (.slice a n q) n (intsL (occT t p i))) ∧ Hid (Below w.heap.size w wr)) (fun _ iv _ => t.size + 1 - (intOf iv).toNat)
  case atStart => exact ⟨0, 0, 0, none, by omega, by omega, rfl, rfl, rfl, ⟨rfl, .inl ⟨rfl, rfl⟩⟩, Below.refl _ _⟩
  case round =>
    obtain ⟨i, n, q, a, hi, hn, rfl, rfl, HL, HO, HB⟩ := hrel
    have c0 := (HI.out.below HB.out hlt0).cell 0
    simp only [List.getElem?_toArray, List.getElem?_cons_zero] at c0
    by_cases hlt : i + p.size ≤ t.size
    · have d0 : decide ((i : Int) + (p.size : Int) ≤ (t.size : Int)) = true := decide_eq_true (by omega)
      have hnr : ¬ t.size < i := by omega
      have OS := occT_succ t p i
      cases hm : ((t.extract i (i + p.size)).toList == p.toList)
      · have hat : ¬ atB t p i = true := by unfold atB; simp [hm]
        rw [if_neg hat] at OS
        have HOS : Hid (occT t p (i + 1) = occT t p i) := OS
        clear OS hat
        go_wp2
        exact ⟨⟨i + 1, n, q, a, by omega, by omega, by go_num, rfl, by rw [HOS.out]; exact HL, by rw [HOS.out]; exact HO, HB⟩, by simp [intOf]; omega⟩
      · have hat : atB t p i = true := by unfold atB; simp [hm, hlt]
        rw [if_pos hat] at OS
        have HOS : Hid (occT t p (i + 1) = occT t p i ++ [i]) := OS
        clear OS hat
        have hz : w.heap.size ≤ wr.heap.size := HB.out.size
        go_wp2_with (at_builtin; refine wpList_append_two _ rfl _ _ 30 rfl w.heap.size 3 j0 (.int .i64 0) 8 Tryz.underlying30 hj hy0 hy1 hy2 rfl _ n (intsL (occT t p i)) rfl (HO.out.alloc _) ⟨wr.heap.size, 0, none⟩ 1 (.int .i64 (i : Nat)) rfl ?c1 ?c2 ?c3 ?c4 ?c5 ?_)
        case c1 => exact cell_one_new _ _ _
        case c2 => rfl
        case c3 => unfold maxLen; omega
        case c4 => omega
        case c5 => simp; omega
        intro g cap w1 hown hlt1 hd
        have hk : Kept (fun k => some k = (Value.slice a n q).ownBlock) wr w1 := ((Kept.refl _ wr).alloc _).grown (two_grown hd) (fun k h _ => h.symm)
        have HB1 : Hid (Below w.heap.size w w1) := hk.bel HB.out (Nat.le_refl _) (fun k hk => (HO.out.lt k hk.symm).1)
        have HO1 : Hid (w1.ownsRow w.heap.size 3 1 (.slice (some ⟨g, 0, none⟩) (n + 1) cap) (n + 1) (intsL (occT t p (i + 1)))) := by
          show World.ownsRow _ _ _ _ _ _ _
          rw [HOS.out]
          unfold intsL at hown ⊢
          rw [List.map_append]; exact hown
        have HL1 : Hid ((occT t p (i + 1)).length = n + 1) := by show _ = _; rw [HOS.out, List.length_append, HL.out]; rfl
        clear hown hd hk hlt1
        go_wp2
        exact ⟨⟨i + 1, n + 1, cap, some ⟨g, 0, none⟩, by omega, by omega, by go_num, rfl, HL1, HO1, HB1⟩, by simp [intOf]; omega⟩
    · have d0 : decide ((i : Int) + (p.size : Int) ≤ (t.size : Int)) = false := decide_eq_false (by omega)
      have HE : Hid (occT t p (t.size + 1) = occT t p i) := occT_end t p (by omega) hi
      go_wp2
      go_ret
      refine ⟨_, rfl, ?_, HB.out⟩
      rw [HE.out, HL.out]; exact HO.out
set_option maxHeartbeats 1000000 in
theorem refCount_any (t p : ByteArray) (rate : Int) (b : Nat) (w : World) (h : IAt w b t rate) (hs : t.size ≤ 1000) (hp : p.size ≤ 1099511627776) :
    Calls Tryz.prog 62 #[.pointer (some ⟨b, 0, none⟩), .string p] w fun e w' => e = .returned (.int .i64 ((occT t p (t.size + 1)).length : Nat)) ∧ Below w.heap.size w w' := by
  have HLo : Hid (Calls Tryz.prog 63 #[.pointer (some ⟨b, 0, none⟩), .string p] w fun e w' => ∃ v, e = .returned v ∧ w'.ownsRow w.heap.size 3 1 v (occT t p (t.size + 1)).length (intsL (occT t p (t.size + 1))) ∧ Below w.heap.size w w') := refLocate_any t p rate b w h hs hp
  have hl := occT_len t p (t.size + 1)
  clear h
  generalize occT t p (t.size + 1) = l at *
  go_enter Tryz.func62, Tryz.ntmps62
  go_wp2_with fail
  refine HLo.out.mono ?_
  rintro e w1 ⟨v, rfl, ho, hb⟩
  obtain ⟨a, q, rfl⟩ := own_slice ho
  have HB : Hid (Below w.heap.size w w1) := hb
  clear ho hb
  go_wp2
  go_ret
  exact ⟨rfl, HB.out⟩
set_option maxHeartbeats 1000000 in
theorem refLen_any (t : ByteArray) (rate : Int) (b : Nat) (w : World) (h : IAt w b t rate) :
    Calls Tryz.prog 61 #[.pointer (some ⟨b, 0, none⟩)] w fun e w' => e = .returned (.int .i64 (t.size : Nat)) ∧ w' = w := by
  have c0 := h.cell 0
  simp only [List.getElem?_toArray, List.getElem?_cons_zero] at c0
  go_enter Tryz.func61, Tryz.ntmps61
  go_wp2
  go_ret
  exact ⟨rfl, rfl⟩
set_option maxRecDepth 100000 in
set_option maxHeartbeats 2000000 in
theorem refExtract_any (t : ByteArray) (rate : Int) (b : Nat) (x y : Int) (w : World) (h : IAt w b t rate) :
    Calls Tryz.prog 64 #[.pointer (some ⟨b, 0, none⟩), .int .i64 x, .int .i64 y] w fun e w' => (∃ (s : ByteArray) (n : Int), e = .returned (.tuple #[.string s, .int .i64 n]) ∧ ExtAns t x y s n) ∧ w' = w := by
  have c0 := h.cell 0
  simp only [List.getElem?_toArray, List.getElem?_cons_zero] at c0
  clear h
  by_cases h1 : x < 0
  · have d1 : decide (x < 0) = true := decide_eq_true h1
    go_enter Tryz.func64, Tryz.ntmps64
    go_wp2
    go_ret2
    exact ⟨⟨_, _, rfl, .inr ⟨by omega, rfl, rfl⟩⟩, rfl⟩
  · have d1 : decide (x < 0) = false := decide_eq_false h1
    by_cases h2 : (t.size : Int) < y
    · have d2 : decide ((t.size : Int) < y) = true := decide_eq_true h2
      go_enter Tryz.func64, Tryz.ntmps64
      go_wp2
      go_ret2
      exact ⟨⟨_, _, rfl, .inr ⟨by omega, rfl, rfl⟩⟩, rfl⟩
    · have d2 : decide ((t.size : Int) < y) = false := decide_eq_false h2
      by_cases h3 : y < x
      · have d3 : decide (y < x) = true := decide_eq_true h3
        go_enter Tryz.func64, Tryz.ntmps64
        go_wp2
        go_ret2
        exact ⟨⟨_, _, rfl, .inr ⟨by omega, rfl, rfl⟩⟩, rfl⟩
      · have d3 : decide (y < x) = false := decide_eq_false h3
        obtain ⟨xn, rfl⟩ := Int.eq_ofNat_of_zero_le (a := x) (by omega)
        obtain ⟨yn, rfl⟩ := Int.eq_ofNat_of_zero_le (a := y) (by omega)
        go_enter Tryz.func64, Tryz.ntmps64
        go_wp2
        go_ret2
        exact ⟨⟨_, _, rfl, .inl ⟨by omega, by omega, by omega, rfl, rfl⟩⟩, rfl⟩
set_option maxRecDepth 100000 in
set_option maxHeartbeats 2000000 in
theorem refBuild_any (t : ByteArray) (rate : Int) (w : World) :
    Calls Tryz.prog 58 #[.string t, .int .i64 rate] w fun e w' => (¬ BuildOk t rate ∧ e = .returned (.tuple #[.pointer none, .int .i64 (buildErr t rate)]) ∧ w' = w) ∨
      (BuildOk t rate ∧ ∃ b, e = .returned (.tuple #[.pointer (some ⟨b, 0, none⟩), .int .i64 0]) ∧ IAt w' b t rate ∧ w.heap.size ≤ b ∧ Below w.heap.size w w') := by
  by_cases h1 : 1000 < t.size
  · have d1 : decide ((1000 : Int) < (t.size : Int)) = true := decide_eq_true (by omega)
    have hb : buildErr t rate = 1 := by unfold buildErr; rw [if_pos h1]
    rw [hb]
    go_enter Tryz.func58, Tryz.ntmps58
    go_wp2
    go_ret2
    exact .inl ⟨fun h => by have := h.1; omega, rfl, rfl⟩
  · have d1 : decide ((1000 : Int) < (t.size : Int)) = false := decide_eq_false (by omega)
    by_cases h2 : rate < 1
    · have d2 : decide (rate < 1) = true := decide_eq_true h2
      have hb : buildErr t rate = 2 := by unfold buildErr; rw [if_neg h1, if_pos (.inl h2)]
      rw [hb]
      go_enter Tryz.func58, Tryz.ntmps58
      go_wp2
      go_ret2
      exact .inl ⟨fun h => by have := h.2.1; omega, rfl, rfl⟩
    · have d2 : decide (rate < 1) = false := decide_eq_false h2
      by_cases h3 : 64 < rate
      · have d3 : decide ((64 : Int) < rate) = true := decide_eq_true h3
        have hb : buildErr t rate = 2 := by unfold buildErr; rw [if_neg h1, if_pos (.inr h3)]
        rw [hb]
        go_enter Tryz.func58, Tryz.ntmps58
        go_wp2
        go_ret2
        exact .inl ⟨fun h => by have := h.2.2; omega, rfl, rfl⟩
      · have d3 : decide ((64 : Int) < rate) = false := decide_eq_false h3
        go_enter Tryz.func58, Tryz.ntmps58
        go_wp2
        go_ret2
        exact .inr ⟨⟨by omega, by omega, by omega⟩, _, rfl, heap_alloc_new w _, Nat.le_refl _, (Below.refl _ _).alloc (Nat.le_refl _) _⟩

end Go.Proofs.YtopihgmemnokkaaGreat

namespace Go.Proofs.YtopihgmemnokkaaGreat
open Go.RowKit

/-- a word's bytes -/
def wd (p : ByteArray) : List Nat := p.data.toList.map UInt8.toNat
theorem mt_prefix (t : ByteArray) : ∀ (q : List UInt8) (i : Nat), Cc.mt (LT t) (q.map UInt8.toNat) i = true ↔ q <+: t.data.toList.drop i
  | [], i => by simp [Cc.mt]
  | c :: q, i => by
    have IH := mt_prefix t q (i + 1)
    simp only [List.map_cons, Cc.mt, Bool.and_eq_true, decide_eq_true_eq]
    rw [IH]
    by_cases h : i < t.size
    · rw [LT_lt t h, drop_cons t h, List.cons_prefix_cons]
      constructor
      · rintro ⟨h1, h2⟩
        exact ⟨UInt8.toNat_inj.1 (by omega), h2⟩
      · rintro ⟨h1, h2⟩
        exact ⟨by rw [h1], h2⟩
    · rw [drop_all t (by omega)]
      constructor
      · rintro ⟨h1, _⟩
        unfold LT at h1
        simp [h] at h1
      · intro h1
        have := h1.length_le
        simp at this
        omega
theorem toList_ext (t : ByteArray) (i n : Nat) : (t.extract i (i + n)).toList = (t.data.toList.drop i).take n := by
  rw [ByteArray.toList_eq, ByteArray.data_extract, Array.toList_extract, List.extract_eq_take_drop]
  congr 1
  omega
theorem mt_atB (t p : ByteArray) {i : Nat} (hi : i ≤ t.size) : Cc.mt (LT t) (wd p) i = atB t p i := by
  have h := mt_prefix t p.data.toList i
  have hl : p.data.toList.length = p.size := by rw [Array.length_toList]; rfl
  have hd : (t.data.toList.drop i).length = t.size - i := by rw [List.length_drop, Array.length_toList]; rfl
  rw [Bool.eq_iff_iff]
  unfold wd
  rw [h]
  unfold atB
  rw [Bool.and_eq_true, decide_eq_true_eq, beq_iff_eq]
  constructor
  · intro hp
    have h1 := hp.length_le
    rw [hl, hd] at h1
    have h2 : i + p.size ≤ t.size := by omega
    refine ⟨h2, ?_⟩
    rw [toList_ext t i p.size, ByteArray.toList_eq]
    have h3 := List.prefix_iff_eq_take.1 hp
    rw [hl] at h3
    exact h3.symm
  · rintro ⟨h1, h2⟩
    rw [toList_ext t i p.size, ByteArray.toList_eq] at h2
    rw [List.prefix_iff_eq_take, hl]
    exact h2.symm
/-- the rows of a word: from lo up to hi -/
def loB (s p : ByteArray) : Nat := Cc.lo s.size (LT s) (wd p)
def hiB (s p : ByteArray) : Nat := Cc.hi s.size (LT s) (wd p)
/-- the rows of a word that is a list of bytes -/
def loL (s : ByteArray) (l : List Nat) : Nat := Cc.lo s.size (LT s) l
def hiL (s : ByteArray) (l : List Nat) : Nat := Cc.hi s.size (LT s) l
theorem loL_nil (s : ByteArray) : loL s [] = 0 := Cc.lo_nil _ _
theorem hiL_nil (s : ByteArray) : hiL s [] = s.size + 1 := Cc.hi_nil _ _
theorem loL_cons (s : ByteArray) (c : Nat) (l : List Nat) : loL s (c :: l) = 1 + Cc.cn s.size (fun k => decide (BY (trn s) k < c)) + Cc.cn (Cc.ks (fw s) (loL s l)) (fun k => decide (BY (trn s) k = c)) :=
  (ord s).lo_cons (rows := placeOf s) (fun _ hi => placeOf_rank s hi) (fun _ hk => trn_LT s hk) c l
theorem hiL_cons (s : ByteArray) (c : Nat) (l : List Nat) : hiL s (c :: l) = 1 + Cc.cn s.size (fun k => decide (BY (trn s) k < c)) + Cc.cn (Cc.ks (fw s) (hiL s l)) (fun k => decide (BY (trn s) k = c)) :=
  (ord s).hi_cons (rows := placeOf s) (fun _ hi => placeOf_rank s hi) (fun _ hk => trn_LT s hk) c l
theorem lo_hiL (s : ByteArray) (l : List Nat) : loL s l ≤ hiL s l := Cc.lo_le_hi _ _ _
theorem hiL_le (s : ByteArray) (l : List Nat) : hiL s l ≤ s.size + 1 := Cc.hi_le _ _ _
/-- a word is at a place just where the place's row is one of its rows -/
theorem rows_word (s p : ByteArray) {i : Nat} (hi : i ≤ s.size) : atB s p i = true ↔ loB s p ≤ Cc.rank s.size (before s) i ∧ Cc.rank s.size (before s) i < hiB s p := by
  rw [← mt_atB s p hi]; exact (ord s).word (wd p) hi
/-- the row of the end one byte ahead -/
theorem rank_ahead (s : ByteArray) {i : Nat} (hi : i < s.size) :
    Cc.rank s.size (before s) i = Cc.lead s.size (BY (trn s)) (Cc.ks (fw s) (Cc.rank s.size (before s) (i + 1))) ∧ Cc.rank s.size (before s) (i + 1) ≠ fw s ∧ BY (trn s) (Cc.ks (fw s) (Cc.rank s.size (before s) (i + 1))) = BY s i := by
  obtain ⟨h1, h2, h3⟩ := (ord s).ahead (rows := placeOf s) (fun _ h => placeOf_rank s h) (b := BY (trn s)) (fun _ hk => trn_LT s hk) hi
  refine ⟨h1, h2, ?_⟩
  have h4 : LT s i = BY s i + 1 := by rw [LT_lt s hi, BY_lt s hi]
  have h5 : BY (trn s) (Cc.ks (fw s) (Cc.rank s.size (before s) (i + 1))) + 1 = LT s i := h3
  omega
theorem place_le (s : ByteArray) {r : Nat} (hr : r ≤ s.size) : placeOf s r ≤ s.size ∧ Cc.rank s.size (before s) (placeOf s r) = r := by
  obtain ⟨j, hj, hp⟩ := (ord s).onto (r := r) hr
  rw [← hp, placeOf_rank s hj]
  exact ⟨hj, rfl⟩
theorem place_inj (s : ByteArray) {r q : Nat} (hr : r ≤ s.size) (hq : q ≤ s.size) (h : placeOf s r = placeOf s q) : r = q := by
  rw [← (place_le s hr).2, ← (place_le s hq).2, h]
/-- how many places a word has -/
theorem occ_count (s p : ByteArray) : (occT s p (s.size + 1)).length = hiB s p - loB s p := by
  have h1 : (occT s p (s.size + 1)).length = Cc.cn (s.size + 1) (atB s p) := by
    unfold occT
    rw [Cc.cn_countP, List.countP_eq_length_filter]
  have h2 : Cc.cn (s.size + 1) (Cc.le (LT s) (wd p)) = Cc.cn (s.size + 1) (Cc.ls (LT s) (wd p)) + Cc.cn (s.size + 1) (atB s p) := by
    rw [← Cc.cn_split (s.size + 1) (Cc.ls (LT s) (wd p)) (atB s p)]
    · refine Cc.cn_congr fun i hi => ?_
      rw [← mt_atB s p (by omega), Cc.mt_le]
      have := Cc.ls_le (LT s) (wd p) i
      cases h3 : Cc.ls (LT s) (wd p) i
      · simp
      · rw [this h3]; simp
    · intro i hi h
      rw [← mt_atB s p (by omega), Cc.mt_le, h]; simp
  unfold hiB loB Cc.hi Cc.lo
  omega

end Go.Proofs.YtopihgmemnokkaaGreat

