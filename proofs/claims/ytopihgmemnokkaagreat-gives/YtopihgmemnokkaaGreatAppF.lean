import Derived.Test.YtopihgmemnokkaaGreatMemF
import Derived.Deep.AppendLies
import Derived.Deep.Onto
import Derived.Test.YtopihgmemnokkaaGreatHuffF
import Derived.Test.YtopihgmemnokkaaGreatEndsF
namespace Go.Proofs.YtopihgmemnokkaaGreat
open Go.RowKit

/-- one thing appended: into the old row, or all is as it was and a new row is made -/
theorem run_append_two {P : Program} (w : World) (t ty : TypeId) (base : Nat) (e : TypeId) (i : TypeInfo) (z : Value) (bytes : Nat) (ht : P.underlying t = some (.slice e)) (hi : P.info? e = some i) (hz : i.zero = some z)
    (hsize : i.size = 1) (hby : i.bytes = bytes) (hzs : z.cells.size = 1) (v : Value) (n : Nat) (xs : List Value) (hown : w.ownsRow base e 1 v n xs) (ad : Addr) (c : Nat) (u : Value)
    (hnews : ∀ j x, [u][j]? = some x → w.cell? (ad.add j) = some x) (h1 : u.oneCell' = true) (h63 : n + 1 ≤ maxLen) (hbytes : (n + 1) * bytes ≤ 140737488355328) (hbase : base ≤ w.heap.size) :
    ∃ g cap w', (Builtin.append_ #[t, t] ty #[v, .slice (some ad) 1 c]).run P w = .ok (.slice (some ⟨g, 0, none⟩) (n + 1) cap) w' ∧
      w'.ownsRow base e 1 (.slice (some ⟨g, 0, none⟩) (n + 1) cap) (n + 1) (xs ++ [u]) ∧ g < w'.heap.size ∧ ((v.ownBlock = some g ∧ w.grownBy w' (some g)) ∨ (g = w.heap.size ∧ w.grownBy w' none)) := by
  obtain ⟨g, cap, w', hr, h2, h3, h4, h5⟩ := run_append_lies (P := P) w t ty base e i z 1 bytes ht hi hz hsize hby hzs (by decide) v n xs hown ad 1 c [u] (by simp) hnews (by simp [h1]) (by decide) h63 hbytes hbase w.heap.size rfl
  refine ⟨g, cap, w', hr, h2, h5, ?_⟩
  have hl : [u].length = 1 * i.size := by rw [hsize]; rfl
  rcases hown.2 with ⟨rfl, rfl⟩ | ⟨g0, cap0, cur, rfl, hbg, hg, hnc, hcm, hcs, htake⟩
  · rcases h4 with h4 | h4
    · cases h4
    · exact .inr ⟨h4, h3⟩
  · by_cases hroom : n + 1 ≤ cap0
    · have hfit : n * i.size + [u].length ≤ cur.size := by rw [hsize, hcs]; simp; omega
      have hr2 := run_append_room (P := P) w t ty e i ht hi g0 n cap0 cur hg ad 1 c [u] hl hnews (by simp [h1]) hroom hfit
      rw [hr] at hr2
      injection hr2 with e1 e2
      injection e1 with e3 e4 e5
      injection e3 with e6
      injection e6 with e7
      subst e7
      exact .inl ⟨rfl, h3⟩
    · have hxl : xs.length = n * i.size := by rw [hsize]; exact hown.1
      have hr2 := run_append_grow (P := P) w t ty e i z ht hi hz ⟨g0, 0, none⟩ n cap0 xs hxl (hown.cells (g := g0) rfl) ad 1 c [u] hl hnews (by omega) (by simp only [maxLen] at h63; omega) (growslice_fits (by omega) (by rw [hby]; exact hbytes))
      rw [hr] at hr2
      injection hr2 with e1 e2
      injection e1 with e3 e4 e5
      injection e3 with e6
      injection e6 with e7
      subst e2
      exact .inr ⟨e7, ⟨rfl, rfl, rfl, by simp, fun k hk _ => Below.heap_alloc w.drew _ k hk⟩⟩

theorem wpList_append_two {P : Program} (w : World) {ops : Array Oper} {rest : List Oper} {o : Oper} {a : Act} {Q : Exit → Act → World → Prop} (hgd : o.guard = none) (s x : Operand) (t : TypeId)
    (ho : o.op = .call { callee := .builtin .append, args := #[s, x], argTypes := #[t, t] })
    (base : Nat) (e : TypeId) (i : TypeInfo) (z : Value) (bytes : Nat) (ht : P.underlying t = some (.slice e)) (hi : P.info? e = some i) (hz : i.zero = some z)
    (hsize : i.size = 1) (hby : i.bytes = bytes) (hzs : z.cells.size = 1) (v : Value) (n : Nat) (xs : List Value) (hs : a.eval s = v) (hown : w.ownsRow base e 1 v n xs) (ad : Addr) (c : Nat) (u : Value) (hx : a.eval x = .slice (some ad) 1 c)
    (hnews : ∀ j x, [u][j]? = some x → w.cell? (ad.add j) = some x) (h1 : u.oneCell' = true) (h63 : n + 1 ≤ maxLen) (hbytes : (n + 1) * bytes ≤ 140737488355328) (hbase : base ≤ w.heap.size)
    (h : ∀ g cap w', w'.ownsRow base e 1 (.slice (some ⟨g, 0, none⟩) (n + 1) cap) (n + 1) (xs ++ [u]) → g < w'.heap.size → ((v.ownBlock = some g ∧ w.grownBy w' (some g)) ∨ (g = w.heap.size ∧ w.grownBy w' none)) → wpList P ops Q rest (a.put o.dst (.slice (some ⟨g, 0, none⟩) (n + 1) cap)) w') : wpList P ops Q (o :: rest) a w := by
  refine wpList_plain hgd fun K hK => ?_
  obtain ⟨g, cap, w', hr, h2, h3, h4⟩ := run_append_two (P := P) w t o.type base e i z bytes ht hi hz hsize hby hzs v n xs hown ad c u hnews h1 h63 hbytes hbase
  unfold Oper.wp execOp
  simp only [ho, resolve, invoke, builtin, Sem.run_bind, Sem.run_pure, Result.andThen_ok, List.map_toArray, List.map_cons, List.map_nil, hs, hx, hr]
  exact hK _ _ (h g cap w' h2 h3 h4)

theorem cell_one_at {w : World} {u : Value} {e : TypeId} {b : Nat} (hb : w.heap.size = b) : ∀ j x, [u][j]? = some x → (w.alloc (.cells #[u] e)).cell? ((⟨b, 0, none⟩ : Addr).add j) = some x := by
  subst hb; exact cell_one_new _ _ _

theorem wp_append_two {P : Program} (w : World) {o : Oper} {a : Act} {K : Act → World → Prop} {Q : Exit → Act → World → Prop} (s x : Operand) (t : TypeId)
    (ho : o.op = .call { callee := .builtin .append, args := #[s, x], argTypes := #[t, t] })
    (base : Nat) (e : TypeId) (i : TypeInfo) (z : Value) (bytes : Nat) (ht : P.underlying t = some (.slice e)) (hi : P.info? e = some i) (hz : i.zero = some z)
    (hsize : i.size = 1) (hby : i.bytes = bytes) (hzs : z.cells.size = 1) (v : Value) (n : Nat) (xs : List Value) (hs : a.eval s = v) (hown : w.ownsRow base e 1 v n xs) (ad : Addr) (c : Nat) (u : Value) (hx : a.eval x = .slice (some ad) 1 c)
    (hnews : ∀ j x, [u][j]? = some x → w.cell? (ad.add j) = some x) (h1 : u.oneCell' = true) (h63 : n + 1 ≤ maxLen) (hbytes : (n + 1) * bytes ≤ 140737488355328) (hbase : base ≤ w.heap.size)
    (h : ∀ g cap w', w'.ownsRow base e 1 (.slice (some ⟨g, 0, none⟩) (n + 1) cap) (n + 1) (xs ++ [u]) → g < w'.heap.size → ((v.ownBlock = some g ∧ w.grownBy w' (some g)) ∨ (g = w.heap.size ∧ w.grownBy w' none)) → K (a.put o.dst (.slice (some ⟨g, 0, none⟩) (n + 1) cap)) w') : Oper.wp P o a w K Q := by
  obtain ⟨g, cap, w', hr, h2, h3, h4⟩ := run_append_two (P := P) w t o.type base e i z bytes ht hi hz hsize hby hzs v n xs hown ad c u hnews h1 h63 hbytes hbase
  unfold Oper.wp execOp
  simp only [ho, resolve, invoke, builtin, Sem.run_bind, Sem.run_pure, Result.andThen_ok, List.map_toArray, List.map_cons, List.map_nil, hs, hx, hr]
  exact h g cap w' h2 h3 h4

/-- nothing but blocks of P has turned: more -/
theorem Kept.grown {P : Nat → Prop} {a w w' : World} (h : Kept P a w) {row : Option Nat} (hg : w.grownBy w' row) (hr : ∀ k, row = some k → k < a.heap.size → P k) : Kept P a w' :=
  ⟨hg.os.trans h.os, hg.tape.trans h.tape, hg.output.trans h.output, Nat.le_trans h.size hg.size, fun k hk hn =>
    (hg.block k (Nat.lt_of_lt_of_le hk h.size) (fun e => hn (hr k e.symm hk))).trans (h.block k hk hn)⟩
theorem Kept.alloc {P : Nat → Prop} {a w : World} (h : Kept P a w) (o : Obj) : Kept P a (w.alloc o) :=
  ⟨h.os, h.tape, h.output, Nat.le_trans h.size (by simp), fun k hk hn => (Below.heap_alloc w o k (Nat.lt_of_lt_of_le hk h.size)).trans (h.block k hk hn)⟩
theorem Kept.of_below {B : Nat} {w w' : World} (h : Below B w w') (hB : w.heap.size ≤ B) (P : Nat → Prop) : Kept P w w' := ⟨h.os, h.tape, h.output, h.size, fun k hk _ => h.block k (by omega)⟩
theorem Kept.bel {P : Nat → Prop} {B : Nat} {a w w' : World} (h : Kept P w w') (hb : Below B a w) (hB : B ≤ a.heap.size) (hP : ∀ k, P k → B ≤ k) : Below B a w' :=
  hb.trans (h.below hP (Nat.le_trans hB hb.size))

theorem own_keep {P : Nat → Prop} {w w' : World} {base : Nat} {e : TypeId} {k : Nat} {v : Value} {m : Nat} {x : List Value} (h : w.ownsRow base e k v m x) (hk : Kept P w w') (hn : ∀ g, v.ownBlock = some g → ¬ P g) : w'.ownsRow base e k v m x := by
  refine ⟨h.1, ?_⟩
  rcases h.2 with h2 | ⟨g, cap, cur, rfl, h3, hg, h4⟩
  · exact .inl h2
  · exact .inr ⟨g, cap, cur, rfl, h3, by rw [hk.block g (Array.getElem?_eq_some_iff.1 hg).1 (hn g rfl)]; exact hg, h4⟩

theorem owns_ne {w : World} {b1 b2 : Nat} {e1 e2 : TypeId} {k1 k2 : Nat} {v1 v2 : Value} {m1 m2 : Nat} {x1 x2 : List Value} (h1 : w.ownsRow b1 e1 k1 v1 m1 x1) (h2 : w.ownsRow b2 e2 k2 v2 m2 x2) (he : e1 ≠ e2) : v2.ownBlock = none ∨ v2.ownBlock ≠ v1.ownBlock := by
  rcases h2.2 with ⟨rfl, _⟩ | ⟨g, cap, cur, rfl, _, hg, _⟩
  · exact .inl rfl
  · refine .inr fun e => ?_
    rcases h1.2 with ⟨rfl, _⟩ | ⟨g', cap', cur', rfl, _, hg', _⟩
    · simp [Value.ownBlock] at e
    · simp [Value.ownBlock] at e
      subst e
      rw [hg] at hg'
      simp at hg'
      exact he hg'.2.symm

theorem none_or (a : Option Nat) : a = none ∨ a ≠ none := by cases a <;> simp

theorem ne_of {a b : Option Nat} (h : a = none ∨ a ≠ b) : ∀ g, a = some g → ¬ some g = b := by
  intro g hg e
  rcases h with h | h
  · rw [h] at hg; cases hg
  · exact h (hg.trans e)
theorem ne_swap {a b : Option Nat} (h : a = none ∨ a ≠ b) : b = none ∨ b ≠ a := by
  rcases h with rfl | h
  · exact none_or _
  · exact .inr (fun e => h e.symm)

/-- how long a slice is -/
def slLen (v : Value) : Nat := match v with | .slice _ n _ => n | _ => 0

theorem own_len {w : World} {base : Nat} {e : TypeId} {v : Value} {c : Nat} {xs : List Value} (h : w.ownsRow base e 1 v c xs) : slLen v = c := by
  rcases h.2 with ⟨rfl, rfl⟩ | ⟨g, cap, cur, rfl, _⟩ <;> rfl

theorem two_grown {v : Value} {g : Nat} {w w' : World} {G : Prop} (h : (v.ownBlock = some g ∧ w.grownBy w' (some g)) ∨ (G ∧ w.grownBy w' none)) : w.grownBy w' v.ownBlock := by
  rcases h with ⟨h1, h2⟩ | ⟨_, h2⟩
  · rw [h1]; exact h2
  · exact ⟨h2.os, h2.tape, h2.output, h2.size, fun k hk _ => h2.block k hk (by simp)⟩

theorem own_slice {w : World} {base : Nat} {e : TypeId} {v : Value} {c : Nat} {xs : List Value} (h : w.ownsRow base e 1 v c xs) : ∃ a p, v = .slice a c p := by
  rcases h.2 with ⟨rfl, rfl⟩ | ⟨g, cap, cur, rfl, _⟩
  · exact ⟨_, _, rfl⟩
  · exact ⟨_, _, rfl⟩

end Go.Proofs.YtopihgmemnokkaaGreat

namespace Go.Proofs.YtopihgmemnokkaaGreat
open Go.RowKit

/-- a word is at a place -/
def atB (t p : ByteArray) (i : Nat) : Bool := decide (i + p.size ≤ t.size) && ((t.extract i (i + p.size)).toList == p.toList)
/-- the places of a word, of the first so many -/
def occT (t p : ByteArray) (n : Nat) : List Nat := (List.range n).filter (atB t p)
theorem occT_succ (t p : ByteArray) (n : Nat) : occT t p (n + 1) = if atB t p n = true then occT t p n ++ [n] else occT t p n := by
  unfold occT
  rw [List.range_succ, List.filter_append]
  by_cases h : atB t p n = true
  · rw [if_pos h]; simp [h]
  · rw [if_neg h]; simp [h]
theorem occT_len (t p : ByteArray) (n : Nat) : (occT t p n).length ≤ n := by
  unfold occT
  exact Nat.le_trans (List.length_filter_le _ _) (by simp)
theorem occT_end (t p : ByteArray) {n : Nat} (h : t.size < n + p.size) (hn : n ≤ t.size + 1) : occT t p (t.size + 1) = occT t p n := by
  have : ∀ m, n ≤ m → occT t p m = occT t p n := by
    intro m hm
    induction m with
    | zero => have : n = 0 := by omega
              subst this; rfl
    | succ m ih =>
      rcases Nat.lt_or_ge m n with h1 | h1
      · have : n = m + 1 := by omega
        subst this; rfl
      · rw [occT_succ, if_neg (by unfold atB; simp; omega), ih h1]
  exact this _ hn
def intsL (l : List Nat) : List Value := l.map fun i => Value.int .i64 (i : Nat)
/-- what Extract answers -/
def ExtAns (t : ByteArray) (a b : Int) (s : ByteArray) (e : Int) : Prop := (0 ≤ a ∧ a ≤ b ∧ b ≤ t.size ∧ s = t.extract a.toNat b.toNat ∧ e = 0) ∨ (¬ (0 ≤ a ∧ a ≤ b ∧ b ≤ t.size) ∧ s = ByteArray.empty ∧ e = 3)
theorem ExtAns.uniq {t : ByteArray} {a b : Int} {s s' : ByteArray} {e e' : Int} (h : ExtAns t a b s e) (h' : ExtAns t a b s' e') : s' = s ∧ e' = e := by
  rcases h with ⟨h1, h2, h3, rfl, rfl⟩ | ⟨h1, rfl, rfl⟩ <;> rcases h' with ⟨g1, g2, g3, rfl, rfl⟩ | ⟨g1, rfl, rfl⟩
  · exact ⟨rfl, rfl⟩
  · exact absurd ⟨h1, h2, h3⟩ g1
  · exact absurd ⟨g1, g2, g3⟩ h1
  · exact ⟨rfl, rfl⟩
/-- may there be an index? -/
def BuildOk (t : ByteArray) (rate : Int) : Prop := t.size ≤ 1000 ∧ 1 ≤ rate ∧ rate ≤ 64
def buildErr (t : ByteArray) (rate : Int) : Int := if 1000 < t.size then 1 else if rate < 1 ∨ 64 < rate then 2 else 0
/-- how an index of the program lies in memory: its blocks from a up to z, its box, its text and rate -/
abbrev Lay := Nat → Nat → Nat → ByteArray → Int → World → Prop
structure Lay.Ok (PI : Lay) : Prop where
  keep : ∀ (P : Nat → Prop) (a z b : Nat) (t : ByteArray) (rate : Int) (w w' : World), PI a z b t rate w → Kept P w w' → (∀ k, a ≤ k → k < z → ¬ P k) → PI a z b t rate w'
  more : ∀ (a z z' b : Nat) (t : ByteArray) (rate : Int) (w : World), PI a z b t rate w → z ≤ z' → z' ≤ w.heap.size → PI a z' b t rate w
/-- what the program's calls of an index answer -/
structure Lay.Says (PI : Lay) : Prop where
  build : ∀ (t : ByteArray) (rate : Int) (w : World), t.size ≤ 1099511627776 → -9223372036854775808 ≤ rate → rate ≤ 9223372036854775807 → Calls Tryz.prog 29 #[.string t, .int .i64 rate] w fun e w' =>
    (¬ BuildOk t rate ∧ e = .returned (.tuple #[.pointer none, .int .i64 (buildErr t rate)]) ∧ Below w.heap.size w w') ∨
    (BuildOk t rate ∧ ∃ b, e = .returned (.tuple #[.pointer (some ⟨b, 0, none⟩), .int .i64 0]) ∧ PI w.heap.size w'.heap.size b t rate w' ∧ Below w.heap.size w w')
  len : ∀ (a z b : Nat) (t : ByteArray) (rate : Int) (w : World), PI a z b t rate w → BuildOk t rate → Calls Tryz.prog 15 #[.pointer (some ⟨b, 0, none⟩)] w fun e w' => e = .returned (.int .i64 (t.size : Nat)) ∧ Below w.heap.size w w'
  count : ∀ (a z b : Nat) (t p : ByteArray) (rate : Int) (w : World), PI a z b t rate w → BuildOk t rate → p.size ≤ 1099511627776 → Calls Tryz.prog 30 #[.pointer (some ⟨b, 0, none⟩), .string p] w fun e w' => e = .returned (.int .i64 ((occT t p (t.size + 1)).length : Nat)) ∧ Below w.heap.size w w'
  locate : ∀ (a z b : Nat) (t p : ByteArray) (rate : Int) (w : World), PI a z b t rate w → BuildOk t rate → p.size ≤ 1099511627776 → Calls Tryz.prog 31 #[.pointer (some ⟨b, 0, none⟩), .string p] w fun e w' => ∃ v, e = .returned v ∧ w'.ownsRow w.heap.size 3 1 v (occT t p (t.size + 1)).length (intsL (occT t p (t.size + 1))) ∧ Below w.heap.size w w'
  extract : ∀ (a z b : Nat) (t : ByteArray) (rate x y : Int) (w : World), PI a z b t rate w → BuildOk t rate → (-9223372036854775808 ≤ x ∧ x ≤ 9223372036854775807) → (-9223372036854775808 ≤ y ∧ y ≤ 9223372036854775807) → Calls Tryz.prog 18 #[.pointer (some ⟨b, 0, none⟩), .int .i64 x, .int .i64 y] w fun e w' => (∃ (s : ByteArray) (n : Int), e = .returned (.tuple #[.string s, .int .i64 n]) ∧ ExtAns t x y s n) ∧ Below w.heap.size w w'

end Go.Proofs.YtopihgmemnokkaaGreat

