import Derived.Test.YtopihgmemnokkaaGreatTWalk19F
import Derived.Test.YtopihgmemnokkaaGreatWorldF
import Derived.Test.YtopihgmemnokkaaGreatBitW6F
namespace Go.Proofs.YtopihgmemnokkaaGreat
open Go.RowKit

/-- the blocks of the lists that came out -/
def FL (lv mv : Value) (ls : List Value) (k : Nat) : Prop := lv.ownBlock = some k ∨ mv.ownBlock = some k ∨ ∃ l, l ∈ ls ∧ l.ownBlock = some k

theorem Lists.keepO {P : Nat → Prop} {B0 : Nat} {w w' : World} {lv mv : Value} {ls : List Value} {ms : List Int} (h : Lists B0 w lv mv ls ms) (hk : Kept P w w') (hP : ∀ k, FL lv mv ls k → ¬ P k) : Lists B0 w' lv mv ls ms :=
  ⟨h.len, own_keep h.own hk (fun g hg => hP g (.inl hg)), own_keep h.mar hk (fun g hg => hP g (.inr (.inl hg))),
   fun i l m hl hm => (h.all i l m hl hm).keep hk (fun g hg => hP g (.inr (.inr ⟨l, List.mem_of_getElem? hl, hg⟩))), h.ne⟩
theorem Lists.lt {B0 : Nat} {w : World} {lv mv : Value} {ls : List Value} {ms : List Int} (h : Lists B0 w lv mv ls ms) (k : Nat) (hk : FL lv mv ls k) : k < w.heap.size := by
  rcases hk with hk | hk | ⟨l, hl, hk⟩
  · exact (h.own.lt k hk).2
  · exact (h.mar.lt k hk).2
  · obtain ⟨m, hm⟩ := h.mem hl
    exact hm.lt k hk
theorem Lists.wd {B0 : Nat} {w : World} {lv mv : Value} {ls : List Value} {ms : List Int} (h : Lists B0 w lv mv ls ms) {wb : Nat} {v0 v1 v2 v3 v4 v5 v6 v7 : Value} (hw : Wd w wb v0 v1 v2 v3 v4 v5 v6 v7) (k : Nat) (hk : FL lv mv ls k) : k ≠ wb := by
  rintro rfl
  rcases hk with hk | hk | ⟨l, hl, hk⟩
  · exact hw.ne h.own (by decide) hk
  · exact hw.ne h.mar (by decide) hk
  · obtain ⟨m, hm⟩ := h.mem hl
    exact hm.wd hw hk
theorem Texts.keepO {P : Nat → Prop} {B0 : Nat} {w w' : World} {lv mv : Value} {ls : List Value} {ms : List ByteArray} (h : Texts B0 w lv mv ls ms) (hk : Kept P w w') (hP : ∀ k, FL lv mv ls k → ¬ P k) : Texts B0 w' lv mv ls ms :=
  ⟨h.len, own_keep h.own hk (fun g hg => hP g (.inl hg)), own_keep h.mar hk (fun g hg => hP g (.inr (.inl hg))),
   fun i l m hl hm => (h.all i l m hl hm).keep hk (fun g hg => hP g (.inr (.inr ⟨l, List.mem_of_getElem? hl, hg⟩))), h.ne⟩
theorem Texts.lt {B0 : Nat} {w : World} {lv mv : Value} {ls : List Value} {ms : List ByteArray} (h : Texts B0 w lv mv ls ms) (k : Nat) (hk : FL lv mv ls k) : k < w.heap.size := by
  rcases hk with hk | hk | ⟨l, hl, hk⟩
  · exact (h.own.lt k hk).2
  · exact (h.mar.lt k hk).2
  · obtain ⟨m, hm⟩ := h.mem hl
    exact hm.lt k hk
theorem Texts.wd {B0 : Nat} {w : World} {lv mv : Value} {ls : List Value} {ms : List ByteArray} (h : Texts B0 w lv mv ls ms) {wb : Nat} {v0 v1 v2 v3 v4 v5 v6 v7 : Value} (hw : Wd w wb v0 v1 v2 v3 v4 v5 v6 v7) (k : Nat) (hk : FL lv mv ls k) : k ≠ wb := by
  rintro rfl
  rcases hk with hk | hk | ⟨l, hl, hk⟩
  · exact hw.ne h.own (by decide) hk
  · exact hw.ne h.mar (by decide) hk
  · obtain ⟨m, hm⟩ := h.mem hl
    exact hm.wd hw hk

/-- bits, the program's (block b) and the document's (block q), in the blocks from a up to z -/
structure BI where
  a : Nat
  z : Nat
  b : Nat
  q : Nat
  s : ByteArray

structure BI.At (i : BI) (w : World) : Prop where
  bits : ∃ wv av, BitL i.a w i.b [] [] 154 wv av (oneAt i.s) i.s.size ∧ ∀ k, bitP i.b wv av k → i.a ≤ k ∧ k < i.z
  refb : QAt w i.q i.s
  rq : i.a ≤ i.q ∧ i.q < i.z
  top : i.z ≤ w.heap.size
  small : i.s.size ≤ 1099511627776

theorem BI.At.bitsAt {i : BI} {w : World} (h : i.At w) : BitsAt i.a w i.b (oneAt i.s) i.s.size := by
  obtain ⟨wv, av, h1, _⟩ := h.bits; exact ⟨wv, av, h1⟩
theorem BI.At.keep {i : BI} {P : Nat → Prop} {w w' : World} (h : i.At w) (hk : Kept P w w') (hP : ∀ k, i.a ≤ k → k < i.z → ¬ P k) : i.At w' := by
  obtain ⟨wv, av, h1, h2⟩ := h.bits
  exact ⟨⟨wv, av, h1.keep hk (fun k hb => hP k (h2 k hb).1 (h2 k hb).2), h2⟩, h.refb.keep hk (hP _ h.rq.1 h.rq.2), h.rq, Nat.le_trans h.top hk.size, h.small⟩

/-- the bits that came out: the program's list, the document's -/
structure BitsP (B0 : Nat) (w : World) (bv qv : Value) (its : List BI) : Prop where
  own : w.ownsRow B0 95 1 bv its.length (its.map fun i => .pointer (some ⟨i.b, 0, none⟩))
  ref : w.ownsRow B0 98 1 qv its.length (its.map fun i => .pointer (some ⟨i.q, 0, none⟩))
  all : ∀ i, i ∈ its → i.At w
  sep : ∀ i, i ∈ its → ∀ k, i.a ≤ k → k < i.z → bv.ownBlock ≠ some k ∧ qv.ownBlock ≠ some k

/-- their blocks -/
def FB (bv qv : Value) (its : List BI) (k : Nat) : Prop := bv.ownBlock = some k ∨ qv.ownBlock = some k ∨ ∃ i, i ∈ its ∧ i.a ≤ k ∧ k < i.z

theorem BitsP.keepO {P : Nat → Prop} {B0 : Nat} {w w' : World} {bv qv : Value} {its : List BI} (h : BitsP B0 w bv qv its) (hk : Kept P w w') (hP : ∀ k, FB bv qv its k → ¬ P k) : BitsP B0 w' bv qv its :=
  ⟨own_keep h.own hk (fun g hg => hP g (.inl hg)), own_keep h.ref hk (fun g hg => hP g (.inr (.inl hg))), fun i hi => (h.all i hi).keep hk (fun k h1 h2 => hP k (.inr (.inr ⟨i, hi, h1, h2⟩))), h.sep⟩
theorem BitsP.lt {B0 : Nat} {w : World} {bv qv : Value} {its : List BI} (h : BitsP B0 w bv qv its) (k : Nat) (hk : FB bv qv its k) : k < w.heap.size := by
  rcases hk with hk | hk | ⟨i, hi, _, hk⟩
  · exact (h.own.lt k hk).2
  · exact (h.ref.lt k hk).2
  · exact Nat.lt_of_lt_of_le hk (h.all i hi).top

/-- a thing that is known of some blocks alone -/
structure Closed (F : Nat → Prop) (X : World → Prop) : Prop where
  keep : ∀ (P : Nat → Prop) (w w' : World), X w → Kept P w w' → (∀ k, F k → ¬ P k) → X w'
  lt : ∀ w, X w → ∀ k, F k → k < w.heap.size

/-- the law's World: lists and texts that came out, bits, and whatever else (X, in the blocks FX) -/
structure LXat (B0 wb : Nat) (xv rv : Value) (FX : Nat → Prop) (X : World → Prop) (w : World) (bv qv lv tv mv dv : Value) (ls ts : List Value) (ms : List Int) (ds : List ByteArray) (its : List BI) : Prop where
  low : B0 ≤ wb
  wd : Wd w wb bv qv xv rv lv tv mv dv
  lists : Lists B0 w lv mv ls ms
  texts : Texts B0 w tv dv ts ds
  bits : BitsP B0 w bv qv its
  more : X w
  cl : Closed FX X
  d1 : ∀ k, FL lv mv ls k → ¬ FL tv dv ts k ∧ ¬ FB bv qv its k ∧ ¬ FX k
  d2 : ∀ k, FL tv dv ts k → ¬ FB bv qv its k ∧ ¬ FX k
  d3 : ∀ k, FB bv qv its k → ¬ FX k ∧ k ≠ wb
  d4 : ∀ k, FX k → k ≠ wb

def LX (B0 wb : Nat) (xv rv : Value) (FX : Nat → Prop) (X : World → Prop) (N : Nat) (w : World) : Prop :=
  ∃ bv qv lv tv mv dv ls ts ms ds its, LXat B0 wb xv rv FX X w bv qv lv tv mv dv ls ts ms ds its ∧ ls.length ≤ N ∧ ts.length ≤ N ∧ its.length ≤ N

section
variable {B0 wb : Nat} {xv rv : Value} {FX : Nat → Prop} {X : World → Prop} {w : World} {bv qv lv tv mv dv : Value} {ls ts : List Value} {ms : List Int} {ds : List ByteArray} {its : List BI} {N : Nat}

theorem LXat.below {w' : World} (h : LXat B0 wb xv rv FX X w bv qv lv tv mv dv ls ts ms ds its) (hb : Below w.heap.size w w') : LXat B0 wb xv rv FX X w' bv qv lv tv mv dv ls ts ms ds its := by
  have hk := Kept.of_below hb (Nat.le_refl _) (fun _ => False)
  exact ⟨h.low, h.wd.keep hk (fun h => h), h.lists.keepO hk (fun _ _ h => h), h.texts.keepO hk (fun _ _ h => h), h.bits.keepO hk (fun _ _ h => h), h.cl.keep _ _ _ h.more hk (fun _ _ h => h), h.cl, h.d1, h.d2, h.d3, h.d4⟩
theorem LX.below {w' : World} (h : LX B0 wb xv rv FX X N w) (hb : Below w.heap.size w w') : LX B0 wb xv rv FX X N w' := by
  obtain ⟨bv, qv, lv, tv, mv, dv, ls, ts, ms, ds, its, h1, h2⟩ := h
  exact ⟨bv, qv, lv, tv, mv, dv, ls, ts, ms, ds, its, h1.below hb, h2⟩
theorem LX.mono {M : Nat} (h : LX B0 wb xv rv FX X N w) (hm : N ≤ M) : LX B0 wb xv rv FX X M w := by
  obtain ⟨bv, qv, lv, tv, mv, dv, ls, ts, ms, ds, its, h1, h2, h3, h4⟩ := h
  exact ⟨bv, qv, lv, tv, mv, dv, ls, ts, ms, ds, its, h1, by omega, by omega, by omega⟩
theorem LX.low (h : LX B0 wb xv rv FX X N w) : B0 ≤ wb := by
  obtain ⟨bv, qv, lv, tv, mv, dv, ls, ts, ms, ds, its, h1, _⟩ := h; exact h1.low
end

/-- a list that came out is kept -/
theorem keep_lx (B0 wb : Nat) (xv rv : Value) (FX : Nat → Prop) (X : World → Prop) (N : Nat) (w0 w : World) (L : LX B0 wb xv rv FX X N w0) (hb : Below w0.heap.size w0 w) (l : Value) (n : Nat) (xs : List Value) (hl : w.ownsRow w0.heap.size 3 1 l n xs)
    (hB : B0 ≤ w0.heap.size) (hN : N ≤ 5000000) (hn : n ≤ 5000) :
    Calls Tryz.prog 42 #[.pointer (some ⟨wb, 0, none⟩), l] w fun e w' => e = .returned (.tuple #[]) ∧ LX B0 wb xv rv FX X (N + 4) w' ∧ Below B0 w w' := by
  have hz := hb.size
  obtain ⟨bv, qv, lv, tv, mv, dv, ls, ts, ms, ds, its, h1, h2, h3, h4⟩ := L
  have h0 := h1.below hb
  have hlb := hl.lt
  have hl0 := hl.mono hB
  have hF1 := h1.lists.lt
  refine (keep_any (fun k => FL tv dv ts k ∨ FB bv qv its k ∨ FX k) B0 wb bv qv xv rv tv dv lv mv l ls ms n xs w h0.wd h1.low h0.lists hl0 ?_ ?_ (by omega) (by omega) hn ?_).mono ?_
  · cases hx : l.ownBlock with
    | none => exact .inl rfl
    | some g =>
      refine .inr fun e => ?_
      have := (hlb g hx).1
      have := hF1 g (.inr (.inl e.symm))
      omega
  · intro y hy
    cases hx : y.ownBlock with
    | none => exact .inl rfl
    | some g =>
      refine .inr fun e => ?_
      have := (hlb g e.symm).1
      have := hF1 g (.inr (.inr ⟨y, hy, hx⟩))
      omega
  · intro a ha
    have hlt : a < w0.heap.size ∧ a ≠ wb ∧ ¬ FL lv mv ls a := by
      rcases ha with ha | ha | ha
      · exact ⟨h1.texts.lt a ha, h1.texts.wd h1.wd a ha, fun e => (h1.d1 a e).1 ha⟩
      · exact ⟨h1.bits.lt a ha, (h1.d3 a ha).2, fun e => (h1.d1 a e).2.1 ha⟩
      · exact ⟨h1.cl.lt _ h1.more a ha, h1.d4 a ha, fun e => (h1.d1 a e).2.2 ha⟩
    refine ⟨by omega, hlt.2.1, fun e => hlt.2.2 (.inl e), fun e => hlt.2.2 (.inr (.inl e)), fun e => ?_⟩
    have := (hlb a e).1
    omega
  · rintro e w' ⟨he, lv', mv', ls', ms', k1, k2, k3, k4, k5⟩
    have hk : Kept (fun k => ¬ (FL tv dv ts k ∨ FB bv qv its k ∨ FX k)) w w' := ⟨k4.os, k4.tape, k4.output, k4.size, fun k hk hn => (k5 k (Classical.not_not.1 hn)).1⟩
    have fl : ∀ k, FL lv' mv' ls' k → ¬ (FL tv dv ts k ∨ FB bv qv its k ∨ FX k) := by
      intro k hk2 hF
      obtain ⟨_, f2, f3, f4⟩ := k5 k hF
      rcases hk2 with hk2 | hk2 | ⟨y, hy, hk2⟩
      · exact f2 hk2
      · exact f3 hk2
      · rcases f4 y hy with h | h
        · have hd := h1.d1 k (.inr (.inr ⟨y, h, hk2⟩))
          rcases hF with hF | hF | hF
          · exact hd.1 hF
          · exact hd.2.1 hF
          · exact hd.2.2 hF
        · exact h hk2
    refine ⟨he, ⟨bv, qv, lv', tv, mv', dv, ls', ts, ms', ds, its, ?_, by omega, by omega, by omega⟩, k4⟩
    refine ⟨h1.low, k1, k2, h0.texts.keepO hk (fun k h hn => hn (.inl h)), h0.bits.keepO hk (fun k h hn => hn (.inr (.inl h))), h1.cl.keep _ _ _ h0.more hk (fun k h hn => hn (.inr (.inr h))), h1.cl, ?_, h1.d2, h1.d3, h1.d4⟩
    intro k hk2
    have := fl k hk2
    exact ⟨fun h => this (.inl h), fun h => this (.inr (.inl h)), fun h => this (.inr (.inr h))⟩

/-- texts that came out are kept -/
theorem keepTexts_lx (B0 wb : Nat) (xv rv : Value) (FX : Nat → Prop) (X : World → Prop) (N : Nat) (w0 w : World) (L : LX B0 wb xv rv FX X N w0) (hb : Below w0.heap.size w0 w) (l : Value) (n : Nat) (xs : List Value) (hl : w.ownsRow w0.heap.size 9 1 l n xs)
    (hB : B0 ≤ w0.heap.size) (hN : N ≤ 5000000) (hn : n ≤ 5000) :
    Calls Tryz.prog 49 #[.pointer (some ⟨wb, 0, none⟩), l] w fun e w' => e = .returned (.tuple #[]) ∧ LX B0 wb xv rv FX X (N + 4) w' ∧ Below B0 w w' := by
  have hz := hb.size
  obtain ⟨bv, qv, lv, tv, mv, dv, ls, ts, ms, ds, its, h1, h2, h3, h4⟩ := L
  have h0 := h1.below hb
  have hlb := hl.lt
  have hl0 := hl.mono hB
  have hF1 := h1.texts.lt
  refine (keepTexts_any (fun k => FL lv mv ls k ∨ FB bv qv its k ∨ FX k) B0 wb bv qv xv rv lv mv tv dv l ts ds n xs w h0.wd h1.low h0.texts hl0 ?_ ?_ (by omega) (by omega) hn ?_).mono ?_
  · cases hx : l.ownBlock with
    | none => exact .inl rfl
    | some g =>
      refine .inr fun e => ?_
      have := (hlb g hx).1
      have := hF1 g (.inr (.inl e.symm))
      omega
  · intro y hy
    cases hx : y.ownBlock with
    | none => exact .inl rfl
    | some g =>
      refine .inr fun e => ?_
      have := (hlb g e.symm).1
      have := hF1 g (.inr (.inr ⟨y, hy, hx⟩))
      omega
  · intro a ha
    have hlt : a < w0.heap.size ∧ a ≠ wb ∧ ¬ FL tv dv ts a := by
      rcases ha with ha | ha | ha
      · exact ⟨h1.lists.lt a ha, h1.lists.wd h1.wd a ha, (h1.d1 a ha).1⟩
      · exact ⟨h1.bits.lt a ha, (h1.d3 a ha).2, fun e => (h1.d2 a e).1 ha⟩
      · exact ⟨h1.cl.lt _ h1.more a ha, h1.d4 a ha, fun e => (h1.d2 a e).2 ha⟩
    refine ⟨by omega, hlt.2.1, fun e => hlt.2.2 (.inl e), fun e => hlt.2.2 (.inr (.inl e)), fun e => ?_⟩
    have := (hlb a e).1
    omega
  · rintro e w' ⟨he, lv', mv', ls', ms', k1, k2, k3, k4, k5⟩
    have hk : Kept (fun k => ¬ (FL lv mv ls k ∨ FB bv qv its k ∨ FX k)) w w' := ⟨k4.os, k4.tape, k4.output, k4.size, fun k hk hn => (k5 k (Classical.not_not.1 hn)).1⟩
    have fl : ∀ k, FL lv' mv' ls' k → ¬ (FL lv mv ls k ∨ FB bv qv its k ∨ FX k) := by
      intro k hk2 hF
      obtain ⟨_, f2, f3, f4⟩ := k5 k hF
      rcases hk2 with hk2 | hk2 | ⟨y, hy, hk2⟩
      · exact f2 hk2
      · exact f3 hk2
      · rcases f4 y hy with h | h
        · have hd := h1.d2 k (.inr (.inr ⟨y, h, hk2⟩))
          rcases hF with hF | hF | hF
          · exact (h1.d1 k hF).1 (.inr (.inr ⟨y, h, hk2⟩))
          · exact hd.1 hF
          · exact hd.2 hF
        · exact h hk2
    refine ⟨he, ⟨bv, qv, lv, lv', mv, mv', ls, ls', ms, ms', its, ?_, by omega, by omega, by omega⟩, k4⟩
    refine ⟨h1.low, k1, h0.lists.keepO hk (fun k h hn => hn (.inl h)), k2, h0.bits.keepO hk (fun k h hn => hn (.inr (.inl h))), h1.cl.keep _ _ _ h0.more hk (fun k h hn => hn (.inr (.inr h))), h1.cl, ?_, ?_, h1.d3, h1.d4⟩
    · intro k hk2
      exact ⟨fun h => fl k h (.inl hk2), (h1.d1 k hk2).2.1, (h1.d1 k hk2).2.2⟩
    · intro k hk2
      have := fl k hk2
      exact ⟨fun h => this (.inr (.inl h)), fun h => this (.inr (.inr h))⟩

end Go.Proofs.YtopihgmemnokkaaGreat

namespace Go.Proofs.YtopihgmemnokkaaGreat
open Go.RowKit

/-- a value whose cells read so -/
def ReadsS (w : World) (v : Value) (n : Nat) (f : Nat → ByteArray) : Prop :=
  (v = .slice none 0 0 ∧ n = 0) ∨ ∃ g cap, v = .slice (some ⟨g, 0, none⟩) n cap ∧ ∀ k, k < n → w.cell? ⟨g, k, none⟩ = some (.string (f k))

theorem ReadsS.still {w w' : World} {v : Value} {n : Nat} {f : Nat → ByteArray} (h : ReadsS w v n f) (hk : Still w w') : ReadsS w' v n f := by
  rcases h with h | ⟨g, cap, rfl, hg⟩
  · exact .inl h
  · exact .inr ⟨g, cap, rfl, fun k hk' => hk.cell (hg k hk') (fun h => h)⟩

set_option maxRecDepth 100000 in
set_option maxHeartbeats 1000000 in
theorem sameTexts_any (u v : Value) (n : Nat) (f : Nat → ByteArray) (w : World) (hu : ReadsS w u n f) (hv : ReadsS w v n f) (hn : n ≤ 5000) :
    Calls Tryz.prog 48 #[u, v] w fun e w' => e = .returned (.bool true) ∧ Still w w' := by
  rcases hu with ⟨rfl, rfl⟩ | ⟨g, cap, rfl, hg⟩
  · rcases hv with ⟨rfl, _⟩ | ⟨g', cap', rfl, hg'⟩
    · go_enter Tryz.func48, Tryz.ntmps48
      go_wp2
      go_loopw [5] (fun i wr => i = .int .i64 0 ∧ wr = w) (fun _ _ => 0)
      case atStart => exact ⟨rfl, rfl⟩
      case round =>
        obtain ⟨rfl, rfl⟩ := hrel
        go_wp2
        go_ret
        exact ⟨rfl, Kept.refl _ _⟩
    · go_enter Tryz.func48, Tryz.ntmps48
      go_wp2
      go_loopw [5] (fun i wr => i = .int .i64 0 ∧ wr = w) (fun _ _ => 0)
      case atStart => exact ⟨rfl, rfl⟩
      case round =>
        obtain ⟨rfl, rfl⟩ := hrel
        go_wp2
        go_ret
        exact ⟨rfl, Kept.refl _ _⟩
  · rcases hv with ⟨rfl, rfl⟩ | ⟨g', cap', rfl, hg'⟩
    · go_enter Tryz.func48, Tryz.ntmps48
      go_wp2
      go_loopw [5] (fun i wr => i = .int .i64 0 ∧ wr = w) (fun _ _ => 0)
      case atStart => exact ⟨rfl, rfl⟩
      case round =>
        obtain ⟨rfl, rfl⟩ := hrel
        go_wp2
        go_ret
        exact ⟨rfl, Kept.refl _ _⟩
    · have hd : (((n : Nat) : Int) != ((n : Nat) : Int)) = false := by simp
      go_enter Tryz.func48, Tryz.ntmps48
      go_wp2
      go_loopw [5] (fun i wr => ∃ p : Nat, p ≤ n ∧ i = .int .i64 p ∧ Still w wr) (fun i _ => n - (intOf i).toNat)
      case atStart => exact ⟨0, by omega, rfl, Kept.refl _ _⟩
      case round =>
        obtain ⟨p, hp, rfl, hk⟩ := hrel
        by_cases hlt : p < n
        · have c1 := hk.cell (hg p hlt) (fun h => h)
          have c2 := hk.cell (hg' p hlt) (fun h => h)
          generalize f p = y at c1 c2
          have hy : (y.toList == y.toList) = true := by simp
          have hlt' : (p : Int) < (n : Int) := by omega
          go_wp2_with fail
          go_quiet (fail)
          go_wp2
          exact ⟨⟨p + 1, by omega, by go_num, hk.drewN nq⟩, by simp [intOf]; omega⟩
        · have hp' : p = n := by omega
          subst hp'
          go_wp2
          go_ret
          exact ⟨rfl, hk⟩

theorem Txt.slice {w : World} {l : Value} {m : ByteArray} (h : Txt w l m) : ∃ la n lc, l = .slice la n lc ∧ n ≤ 9223372036854775807 ∧ ∀ k, k < n → ∃ g, la = some ⟨g, 0, none⟩ ∧ w.cell? ⟨g, k, none⟩ = some (.string m) := by
  rcases h with rfl | ⟨g, n, cap, cur, rfl, h1, h2, h3⟩
  · exact ⟨none, 0, 0, rfl, by omega, fun k hk => by omega⟩
  · refine ⟨_, n, cap, rfl, by have := h2.2; unfold maxLen at this; omega, fun k hk => ⟨g, rfl, ?_⟩⟩
    have := h3 k hk
    simp [World.cell?, h1, this]

set_option maxRecDepth 100000 in
set_option maxHeartbeats 2000000 in
theorem kept2_any (B0 wb : Nat) (b q x r lv tv mv dv : Value) (ls ts : List Value) (ms : List Int) (ds : List ByteArray) (w : World) (hw : Wd w wb b q x r lv tv mv dv) (L : Lists B0 w lv mv ls ms) (T : Texts B0 w tv dv ts ds) (hlen : ls.length ≤ 8000000) (hlen2 : ts.length ≤ 8000000) :
    Calls Tryz.prog 28 #[.pointer (some ⟨wb, 0, none⟩)] w fun e w' => e = .returned (.bool true) ∧ Still w w' := by
  have hwc := fun {w' : World} (hk : Still w w') => hw.keep hk (fun h => h)
  obtain ⟨la, lc, hlv⟩ := own_slice L.own
  obtain ⟨ma, mc, hmv⟩ := own_slice L.mar
  have hll := L.len
  have C : ∀ p, p < ls.length → ∃ g1 g2 m l, la = some ⟨g1, 0, none⟩ ∧ ma = some ⟨g2, 0, none⟩ ∧ w.cell? ⟨g1, p, none⟩ = some l ∧ w.cell? ⟨g2, p, none⟩ = some (.int .i64 m) ∧ Lst w l m := by
    intro p hp
    obtain ⟨g1, c1, l, e1, h1, h2⟩ := own_at L.own hp
    obtain ⟨g2, c2, y, e2, h3, h4⟩ := own_at L.mar (p := p) (by omega)
    rw [List.getElem?_map] at h3
    cases hm : ms[p]? with
    | none => rw [hm] at h3; cases h3
    | some m =>
      rw [hm] at h3
      have hy : y = .int .i64 m := by simpa using h3.symm
      subst hy
      rw [hlv] at e1
      rw [hmv] at e2
      injection e1 with e1
      injection e2 with e2
      exact ⟨g1, g2, m, l, e1, e2, h2, h4, L.all p l m h1 hm⟩
  obtain ⟨ta, tc, htv⟩ := own_slice T.own
  obtain ⟨da, dc, hdv⟩ := own_slice T.mar
  have htl := T.len
  have D : ∀ p, p < ts.length → ∃ g1 g2 m l, ta = some ⟨g1, 0, none⟩ ∧ da = some ⟨g2, 0, none⟩ ∧ w.cell? ⟨g1, p, none⟩ = some l ∧ w.cell? ⟨g2, p, none⟩ = some (.string m) ∧ Txt w l m := by
    intro p hp
    obtain ⟨g1, c1, l, e1, h1, h2⟩ := own_at T.own hp
    obtain ⟨g2, c2, y, e2, h3, h4⟩ := own_at T.mar (p := p) (by omega)
    rw [List.getElem?_map] at h3
    cases hm : ds[p]? with
    | none => rw [hm] at h3; cases h3
    | some m =>
      rw [hm] at h3
      have hy : y = .string m := by simpa using h3.symm
      subst hy
      rw [htv] at e1
      rw [hdv] at e2
      injection e1 with e1
      injection e2 with e2
      exact ⟨g1, g2, m, l, e1, e2, h2, h4, T.all p l m h1 hm⟩
  rw [← hll] at hmv
  rw [← htl] at hdv
  clear L T hw hll htl
  subst hlv hmv htv hdv
  have DD : Hid (∀ p, p < ts.length → ∃ g1 g2 m l, ta = some ⟨g1, 0, none⟩ ∧ da = some ⟨g2, 0, none⟩ ∧ w.cell? ⟨g1, p, none⟩ = some l ∧ w.cell? ⟨g2, p, none⟩ = some (.string m) ∧ Txt w l m) := D
  clear D
  go_enter Tryz.func28, Tryz.ntmps28
  go_wp2
  go_loopw [3, 4] (fun i _ wr => ∃ p : Nat, p ≤ ls.length ∧ i = .int .i64 p ∧ Still w wr) (fun i _ _ => ls.length - (intOf i).toNat)
  case atStart => exact ⟨0, by omega, rfl, Kept.refl _ _⟩
  case round =>
    obtain ⟨p, hp, rfl, hk⟩ := hrel
    have W := hwc hk
    have c4 := W.cell 4
    have c5 := W.cell 5
    simp only [List.getElem?_toArray, List.getElem?_cons_succ, List.getElem?_cons_zero] at c4 c5
    clear W
    by_cases hlt : p < ls.length
    · obtain ⟨g1, g2, m, l, rfl, rfl, h1, h2, hL⟩ := C p hlt
      obtain ⟨na, n, nc, rfl, hn9, hn⟩ := hL.slice
      have hlt' : decide ((p : Int) < (ls.length : Int)) = true := decide_eq_true (by omega)
      clear C c5
      go_wp2
      clear c4
      go_loopw [4] (fun kk wr => ∃ k : Nat, k ≤ n ∧ kk = .int .i64 k ∧ Still w wr) (fun kk _ => n - (intOf kk).toNat)
      case atStart => exact ⟨0, by omega, rfl, hk⟩
      case round =>
        clear hk
        obtain ⟨k, hkn, rfl, hk⟩ := hrel
        have W := hwc hk
        have c4 := W.cell 4
        have c6 := W.cell 6
        simp only [List.getElem?_toArray, List.getElem?_cons_succ, List.getElem?_cons_zero] at c4 c6
        clear W
        have k1 := hk.cell h1 (fun h => h)
        have k2 := hk.cell h2 (fun h => h)
        by_cases hkl : k < n
        · obtain ⟨g3, rfl, h3⟩ := hn k hkl
          have k3 := hk.cell h3 (fun h => h)
          have hmm : (m != m) = false := by simp
          have hkl' : (k : Int) < (n : Int) := by omega
          have hlt2 : (p : Int) < (ls.length : Int) := by omega
          go_wp2_with fail
          go_quiet (fail)
          go_wp2
          exact ⟨⟨k + 1, by omega, by go_num, hk.drewN nq⟩, by simp [intOf]; omega⟩
        · have hk' : k = n := by omega
          subst hk'
          go_wp2
          exact ⟨⟨p + 1, by omega, by go_num, hk⟩, by simp [intOf]; omega⟩
    · have hp' : p = ls.length := by omega
      subst hp'
      clear C
      go_wp2
      go_loopw [5, 6] (fun i _ wr => ∃ p : Nat, p ≤ ts.length ∧ i = .int .i64 p ∧ Still w wr) (fun i _ _ => ts.length - (intOf i).toNat)
      case atStart => exact ⟨0, by omega, rfl, hk⟩
      case round =>
        clear hk c4 c5
        obtain ⟨p, hp, rfl, hk⟩ := hrel
        have W := hwc hk
        have c5 := W.cell 5
        simp only [List.getElem?_toArray, List.getElem?_cons_succ, List.getElem?_cons_zero] at c5
        clear W
        by_cases hlt : p < ts.length
        · obtain ⟨g1, g2, m, l, rfl, rfl, h1, h2, hL⟩ := DD.out p hlt
          obtain ⟨na, n, nc, rfl, hn9, hn⟩ := hL.slice
          have hlt' : decide ((p : Int) < (ts.length : Int)) = true := decide_eq_true (by omega)
          clear DD
          go_wp2
          clear c5
          go_loopw [6] (fun kk wr => ∃ k : Nat, k ≤ n ∧ kk = .int .i64 k ∧ Still w wr) (fun kk _ => n - (intOf kk).toNat)
          case atStart => exact ⟨0, by omega, rfl, hk⟩
          case round =>
            clear hk
            obtain ⟨k, hkn, rfl, hk⟩ := hrel
            have W := hwc hk
            have c5 := W.cell 5
            have c7 := W.cell 7
            simp only [List.getElem?_toArray, List.getElem?_cons_succ, List.getElem?_cons_zero] at c5 c7
            clear W
            have k1 := hk.cell h1 (fun h => h)
            have k2 := hk.cell h2 (fun h => h)
            by_cases hkl : k < n
            · obtain ⟨g3, rfl, h3⟩ := hn k hkl
              have k3 := hk.cell h3 (fun h => h)
              have hmm : (m.toList == m.toList) = true := by simp
              have hkl' : (k : Int) < (n : Int) := by omega
              have hlt2 : (p : Int) < (ts.length : Int) := by omega
              go_wp2_with fail
              go_quiet (fail)
              go_wp2
              exact ⟨⟨k + 1, by omega, by go_num, hk.drewN nq⟩, by simp [intOf]; omega⟩
            · have hk' : k = n := by omega
              subst hk'
              go_wp2
              exact ⟨⟨p + 1, by omega, by go_num, hk⟩, by simp [intOf]; omega⟩
        · have hp' : p = ts.length := by omega
          subst hp'
          clear DD
          go_wp2
          go_ret
          exact ⟨rfl, hk⟩

end Go.Proofs.YtopihgmemnokkaaGreat

namespace Go.Proofs.YtopihgmemnokkaaGreat
open Go.RowKit

set_option maxRecDepth 100000 in
set_option maxHeartbeats 2000000 in
theorem turns2_suffixes (B0 wb : Nat) (xv rv : Value) (FX : Nat → Prop) (X : World → Prop) (N : Nat) (w : World) (L : LX B0 wb xv rv FX X N w) (hB : B0 ≤ w.heap.size) (hN : N ≤ 5000000) (A B C : Int) (s : ByteArray) :
    Calls Tryz.prog 21 #[.pointer (some ⟨wb, 0, none⟩), .agg #[.int .i64 1, .int .i64 A, .int .i64 B, .int .i64 C, .string s]] w fun e w' => e = .returned (.bool true) ∧ LX B0 wb xv rv FX X (N + 4) w' ∧ Below B0 w w' := by
  have hbx := fun w' hb => box_cell w 1 A B C s (w' := w') hb 4
  simp only [List.getElem?_toArray, List.getElem?_cons_succ, List.getElem?_cons_zero] at hbx
  have hW : Below B0 w (w.alloc (opBox 1 A B C s)) := (Below.refl _ _).alloc (by omega) _
  have hL0 : LX B0 wb xv rv FX X N (w.alloc (opBox 1 A B C s)) := L.below ((Below.refl _ _).alloc (Nat.le_refl _) _)
  have hsz : (w.alloc (opBox 1 A B C s)).heap.size = w.heap.size + 1 := by simp
  clear L
  by_cases hs : s.size ≤ 1000
  · go_enter Tryz.func21, Tryz.ntmps21
    go_wp2_with fail
    obtain ⟨W0, hW0⟩ : ∃ W0, W0 = w.alloc (opBox 1 A B C s) := ⟨_, rfl⟩
    rw [← hW0] at hbx hW hL0 hsz ⊢
    clear hW0
    refine (suffixes_any s W0 hs).mono ?_
    rintro e w1 ⟨rb, rows, D, rfl, h1, hR, hD, hB1⟩
    have c4 := hbx w1 (hsz ▸ hB1)
    have hz1 := hB1.size
    have hl1 := ownsRow_of_row hR h1 (by unfold maxLen; omega)
    go_wp2_with fail
    refine (refsuffixes_any s w1 hs).mono ?_
    rintro e w2 ⟨v, rfl, hv, hB2⟩
    have hz2 := hB2.size
    go_wp2_with fail
    have hr1 : Reads w2 (.slice (some ⟨rb, 0, none⟩) (s.size + 1) (s.size + 1)) (s.size + 1) (fun k => ((placeOf s k : Nat) : Int)) := by
      refine .inr ⟨rb, _, rfl, fun k hk => ?_⟩
      rw [hB2.cell (p := ⟨rb, k, none⟩) hR.lt, hR.cell hk, rows_place hD (by omega)]
    have hr2 : Reads w2 v (s.size + 1) (fun k => ((placeOf s k : Nat) : Int)) := by
      obtain ⟨g, cap, e1, _, _⟩ := hv.form (by omega)
      subst e1
      refine .inr ⟨g, cap, rfl, fun k hk => ?_⟩
      rw [hv.cellAt k (by omega)]
      exact sortedL_get s hk
    refine (same_any _ _ (s.size + 1) _ w2 hr1 hr2 (by omega)).mono ?_
    rintro e w3 ⟨rfl, hS3⟩
    have hz3 := hS3.size
    clear hr1 hr2 c4
    go_wp2_with fail
    have hl3 := own_keep (own_keep hl1 (Kept.of_below hB2 (Nat.le_refl _) (fun _ => False)) (fun _ _ h => h)) hS3 (fun _ _ h => h)
    have hb3 : Below W0.heap.size W0 w3 := (hB1.trans (hB2.mono hz1)).trans (still_below hS3 _ (by omega))
    refine (keep_lx B0 wb xv rv FX X N W0 w3 hL0 hb3 _ (s.size + 1) _ hl3 (by omega) hN (by omega)).mono ?_
    rintro e w4 ⟨rfl, hL4, hB4⟩
    go_wp2_with fail
    refine (num_any 0 _).mono ?_
    rintro e w5 ⟨rfl, rfl⟩
    go_wp2
    go_ret
    exact ⟨rfl, hL4, (hW.trans (hb3.mono (by omega))).trans hB4⟩
  · go_enter Tryz.func21, Tryz.ntmps21
    go_wp2_with fail
    obtain ⟨W0, hW0⟩ : ∃ W0, W0 = w.alloc (opBox 1 A B C s) := ⟨_, rfl⟩
    rw [← hW0] at hbx hW hL0 hsz ⊢
    clear hW0
    refine (suffixes_long s W0 (by omega)).mono ?_
    rintro e w1 ⟨rfl, rfl⟩
    have c4 := hbx w1 (Below.refl _ _)
    go_wp2_with fail
    refine (refsuffixes_long s w1 (by omega)).mono ?_
    rintro e w2 ⟨rfl, rfl⟩
    go_wp2_with fail
    refine (same_any _ _ 0 (fun _ => 0) w2 (.inl ⟨rfl, rfl⟩) (.inl ⟨rfl, rfl⟩) (by omega)).mono ?_
    rintro e w3 ⟨rfl, hS3⟩
    have hz3 := hS3.size
    clear c4
    go_wp2_with fail
    have hb3 : Below w2.heap.size w2 w3 := still_below hS3 _ (by omega)
    refine (keep_lx B0 wb xv rv FX X N w2 w3 hL0 hb3 _ 0 [] (World.ownsRow_nil _ _ _ _) (by omega) hN (by omega)).mono ?_
    rintro e w4 ⟨rfl, hL4, hB4⟩
    go_wp2_with fail
    refine (num_any 1 _).mono ?_
    rintro e w5 ⟨rfl, rfl⟩
    go_wp2
    go_ret
    exact ⟨rfl, hL4, (hW.trans (hb3.mono (by omega))).trans hB4⟩

set_option maxRecDepth 100000 in
set_option maxHeartbeats 2000000 in
theorem turns2_transform (B0 wb : Nat) (xv rv : Value) (FX : Nat → Prop) (X : World → Prop) (N : Nat) (w : World) (L : LX B0 wb xv rv FX X N w) (hB : B0 ≤ w.heap.size) (A B C : Int) (s : ByteArray) :
    Calls Tryz.prog 21 #[.pointer (some ⟨wb, 0, none⟩), .agg #[.int .i64 2, .int .i64 A, .int .i64 B, .int .i64 C, .string s]] w fun e w' => e = .returned (.bool true) ∧ LX B0 wb xv rv FX X N w' ∧ Below B0 w w' := by
  have hbx := fun w' hb => box_cell w 2 A B C s (w' := w') hb 4
  simp only [List.getElem?_toArray, List.getElem?_cons_succ, List.getElem?_cons_zero] at hbx
  have hW : Below B0 w (w.alloc (opBox 2 A B C s)) := (Below.refl _ _).alloc (by omega) _
  have hL0 : LX B0 wb xv rv FX X N (w.alloc (opBox 2 A B C s)) := L.below ((Below.refl _ _).alloc (Nat.le_refl _) _)
  have hsz : (w.alloc (opBox 2 A B C s)).heap.size = w.heap.size + 1 := by simp
  clear L
  by_cases hs : s.size ≤ 1000
  · go_enter Tryz.func21, Tryz.ntmps21
    go_wp2_with fail
    obtain ⟨W0, hW0⟩ : ∃ W0, W0 = w.alloc (opBox 2 A B C s) := ⟨_, rfl⟩
    rw [← hW0] at hbx hW hL0 hsz ⊢
    clear hW0
    refine (transform_any s W0 hs).mono ?_
    rintro e w1 ⟨rfl, hB1⟩
    have c4 := hbx w1 (hsz ▸ hB1)
    have hz1 := hB1.size
    go_wp2_with fail
    refine (reftransform_any s w1 hs).mono ?_
    rintro e w2 ⟨rfl, hB2⟩
    clear c4
    have hb2 : Below W0.heap.size W0 w2 := hB1.trans (hB2.mono hz1)
    have hL2 := hL0.below hb2
    generalize trn s = y
    generalize fw s = z
    go_wp2_with fail
    refine (num_any 0 _).mono ?_
    rintro e w5 ⟨rfl, rfl⟩
    go_wp2
    go_ret
    exact ⟨rfl, hL2, hW.trans (hb2.mono (by omega))⟩
  · go_enter Tryz.func21, Tryz.ntmps21
    go_wp2_with fail
    obtain ⟨W0, hW0⟩ : ∃ W0, W0 = w.alloc (opBox 2 A B C s) := ⟨_, rfl⟩
    rw [← hW0] at hbx hW hL0 hsz ⊢
    clear hW0
    refine (transform_long s W0 (by omega)).mono ?_
    rintro e w1 ⟨rfl, rfl⟩
    have c4 := hbx w1 (Below.refl _ _)
    go_wp2_with fail
    refine (reftransform_long s w1 (by omega)).mono ?_
    rintro e w2 ⟨rfl, rfl⟩
    clear c4
    go_wp2_with fail
    refine (num_any 1 _).mono ?_
    rintro e w5 ⟨rfl, rfl⟩
    go_wp2
    go_ret
    exact ⟨rfl, hL0, hW⟩

set_option maxRecDepth 100000 in
set_option maxHeartbeats 2000000 in
theorem turns2_restore (B0 wb : Nat) (xv rv : Value) (FX : Nat → Prop) (X : World → Prop) (N : Nat) (w : World) (L : LX B0 wb xv rv FX X N w) (hB : B0 ≤ w.heap.size) (A B C : Int) (s : ByteArray) :
    Calls Tryz.prog 21 #[.pointer (some ⟨wb, 0, none⟩), .agg #[.int .i64 3, .int .i64 A, .int .i64 B, .int .i64 C, .string s]] w fun e w' => e = .returned (.bool true) ∧ LX B0 wb xv rv FX X N w' ∧ Below B0 w w' := by
  have hbx := fun w' hb => box_cell w 3 A B C s (w' := w') hb 4
  have hbx1 := fun w' hb => box_cell w 3 A B C s (w' := w') hb 1
  simp only [List.getElem?_toArray, List.getElem?_cons_succ, List.getElem?_cons_zero] at hbx hbx1
  have hW : Below B0 w (w.alloc (opBox 3 A B C s)) := (Below.refl _ _).alloc (by omega) _
  have hL0 : LX B0 wb xv rv FX X N (w.alloc (opBox 3 A B C s)) := L.below ((Below.refl _ _).alloc (Nat.le_refl _) _)
  have hsz : (w.alloc (opBox 3 A B C s)).heap.size = w.heap.size + 1 := by simp
  clear L
  go_enter Tryz.func21, Tryz.ntmps21
  go_wp2_with fail
  obtain ⟨W0, hW0⟩ : ∃ W0, W0 = w.alloc (opBox 3 A B C s) := ⟨_, rfl⟩
  rw [← hW0] at hbx hbx1 hW hL0 hsz ⊢
  clear hW0
  refine (restore_ans s A W0).mono ?_
  rintro e w1 ⟨t1, n1, rfl, ha1, hB1⟩
  have c4 := hbx w1 (hsz ▸ hB1)
  have c1 := hbx1 w1 (hsz ▸ hB1)
  have hz1 := hB1.size
  go_wp2_with fail
  refine (refrestore_ans s A w1).mono ?_
  rintro e w2 ⟨t2, n2, rfl, ha2, hB2⟩
  obtain ⟨rfl, rfl⟩ := ha1.uniq ha2
  clear c4 c1 ha1 ha2
  have hb2 : Below W0.heap.size W0 w2 := hB1.trans (hB2.mono hz1)
  have hL2 := hL0.below hb2
  go_wp2_with fail
  refine (num_any _ _).mono ?_
  rintro e w5 ⟨rfl, rfl⟩
  go_wp2
  go_ret
  exact ⟨rfl, hL2, hW.trans (hb2.mono (by omega))⟩

end Go.Proofs.YtopihgmemnokkaaGreat

namespace Go.Proofs.YtopihgmemnokkaaGreat
open Go.RowKit

theorem Wd.set0 {w : World} {wb : Nat} {v0 v1 v2 v3 v4 v5 v6 v7 : Value} (h : Wd w wb v0 v1 v2 v3 v4 v5 v6 v7) (v : Value) : Wd (w.setCell ⟨wb, 0, none⟩ v) wb v v1 v2 v3 v4 v5 v6 v7 := by
  unfold Wd at *; simp [World.setCell, Array.getElem?_modify, h]
theorem Wd.set1 {w : World} {wb : Nat} {v0 v1 v2 v3 v4 v5 v6 v7 : Value} (h : Wd w wb v0 v1 v2 v3 v4 v5 v6 v7) (v : Value) : Wd (w.setCell ⟨wb, 1, none⟩ v) wb v0 v v2 v3 v4 v5 v6 v7 := by
  unfold Wd at *; simp [World.setCell, Array.getElem?_modify, h]

/-- one thing more in a row of the law's World -/
theorem push_row {w w' : World} {B0 wb : Nat} {v0 v1 v2 v3 v4 v5 v6 v7 : Value} (hW : Wd w wb v0 v1 v2 v3 v4 v5 v6 v7) {e : TypeId} {v : Value} {n : Nat} {xs : List Value} (h : w.ownsRow B0 e 1 v n xs) (he : e ≠ 33) (o : Obj) {g cap : Nat} {u : Value}
    (hown : w'.ownsRow B0 e 1 (.slice (some ⟨g, 0, none⟩) (n + 1) cap) (n + 1) (xs ++ [u])) (hd : (v.ownBlock = some g ∧ (w.alloc o).grownBy w' (some g)) ∨ (g = w.heap.size + 1 ∧ (w.alloc o).grownBy w' none)) (f : Nat) :
    Wd w' wb v0 v1 v2 v3 v4 v5 v6 v7 ∧ Kept (fun k => v.ownBlock = some k ∨ k = wb) w (w'.setCell ⟨wb, f, none⟩ (.slice (some ⟨g, 0, none⟩) (n + 1) cap)) ∧
      (w'.setCell ⟨wb, f, none⟩ (.slice (some ⟨g, 0, none⟩) (n + 1) cap)).ownsRow B0 e 1 (.slice (some ⟨g, 0, none⟩) (n + 1) cap) (n + 1) (xs ++ [u]) ∧ (v.ownBlock = some g ∨ w.heap.size < g) := by
  have hg := two_grown hd
  have hk : Kept (fun a => some a = v.ownBlock) w w' := ((Kept.refl _ w).alloc o).grown hg (fun a h _ => h.symm)
  have hwd : Wd w' wb v0 v1 v2 v3 v4 v5 v6 v7 := hW.keep hk (fun e => hW.ne h he e.symm)
  have hk2 : Kept (fun a => a = wb) w' (w'.setCell ⟨wb, f, none⟩ (.slice (some ⟨g, 0, none⟩) (n + 1) cap)) := (Kept.refl (fun a => a = wb) w').setCell (show (⟨wb, _, none⟩ : Addr).block = wb from rfl) _
  refine ⟨hwd, ?_, own_keep hown hk2 (fun a ha e => hwd.ne hown he (by rw [ha, e])), hd.imp (fun h => h.1) (fun h => by omega)⟩
  refine Kept.trans' (P := fun k => v.ownBlock = some k ∨ k = wb) (hk.mono (fun k _ h => .inl h.symm)) hk2 (fun i _ h => .inr h)

theorem Tryz.infoPB : (Tryz.prog.info? 95).map (fun i => (i.zero, i.size, i.bytes)) = some (some (.pointer none), 1, 8) := by kernel_rfl
theorem Tryz.infoPQ : (Tryz.prog.info? 98).map (fun i => (i.zero, i.size, i.bytes)) = some (some (.pointer none), 1, 8) := by kernel_rfl

section
variable {B0 wb : Nat} {xv rv : Value} {FX : Nat → Prop} {X : World → Prop} {w : World} {bv qv lv tv mv dv : Value} {ls ts : List Value} {ms : List Int} {ds : List ByteArray} {its : List BI} {N : Nat}

/-- all blocks of the law's World lie under its world's top -/
theorem LXat.lts (h : LXat B0 wb xv rv FX X w bv qv lv tv mv dv ls ts ms ds its) (k : Nat) (hk : FL lv mv ls k ∨ FL tv dv ts k ∨ FB bv qv its k ∨ FX k) : k < w.heap.size := by
  rcases hk with hk | hk | hk | hk
  · exact h.lists.lt k hk
  · exact h.texts.lt k hk
  · exact h.bits.lt k hk
  · exact h.cl.lt _ h.more k hk

/-- bits more -/
theorem LXat.push (h : LXat B0 wb xv rv FX X w bv qv lv tv mv dv ls ts ms ds its) (it : BI) (hit : it.At w) (hlow : ∀ k, FL lv mv ls k ∨ FL tv dv ts k ∨ FB bv qv its k ∨ FX k → k < it.a) (hwb : wb < it.a)
    {wA wB : World} {g1 c1 g2 c2 : Nat} (kA : Kept (fun k => bv.ownBlock = some k ∨ k = wb) w wA) (kB : Kept (fun k => qv.ownBlock = some k ∨ k = wb) wA wB)
    (oA : wA.ownsRow B0 95 1 (.slice (some ⟨g1, 0, none⟩) (its.length + 1) c1) (its.length + 1) ((its.map fun i => .pointer (some ⟨i.b, 0, none⟩)) ++ [.pointer (some ⟨it.b, 0, none⟩)]))
    (oB : wB.ownsRow B0 98 1 (.slice (some ⟨g2, 0, none⟩) (its.length + 1) c2) (its.length + 1) ((its.map fun i => .pointer (some ⟨i.q, 0, none⟩)) ++ [.pointer (some ⟨it.q, 0, none⟩)]))
    (hA : bv.ownBlock = some g1 ∨ w.heap.size < g1) (hB : qv.ownBlock = some g2 ∨ wA.heap.size < g2)
    (hw : Wd wB wb (.slice (some ⟨g1, 0, none⟩) (its.length + 1) c1) (.slice (some ⟨g2, 0, none⟩) (its.length + 1) c2) xv rv lv tv mv dv) (qA : wA.ownsRow B0 98 1 qv its.length (its.map fun i => .pointer (some ⟨i.q, 0, none⟩))) :
    LXat B0 wb xv rv FX X wB (.slice (some ⟨g1, 0, none⟩) (its.length + 1) c1) (.slice (some ⟨g2, 0, none⟩) (its.length + 1) c2) lv tv mv dv ls ts ms ds (its ++ [it]) := by
  have hAs := kA.size
  have htop := hit.top
  have hk : Kept (fun k => bv.ownBlock = some k ∨ qv.ownBlock = some k ∨ k = wb) w wB :=
    Kept.trans' (kA.mono (Q := fun k => bv.ownBlock = some k ∨ qv.ownBlock = some k ∨ k = wb) (fun k _ h => h.elim .inl (fun h => .inr (.inr h)))) kB (fun i _ h => h.elim (fun h => .inr (.inl h)) (fun h => .inr (.inr h)))
  have fbn : ∀ k, FB (.slice (some ⟨g1, 0, none⟩) (its.length + 1) c1) (.slice (some ⟨g2, 0, none⟩) (its.length + 1) c2) (its ++ [it]) k → FB bv qv its k ∨ it.a ≤ k := by
    intro k hk2
    rcases hk2 with hk2 | hk2 | ⟨i, hi, h1, h2⟩
    · have : g1 = k := by simpa [Value.ownBlock] using hk2
      subst this
      rcases hA with hA | hA
      · exact .inl (.inl hA)
      · exact .inr (by have := hit.rq; omega)
    · have : g2 = k := by simpa [Value.ownBlock] using hk2
      subst this
      rcases hB with hB | hB
      · exact .inl (.inr (.inl hB))
      · exact .inr (by have := hit.rq; omega)
    · rw [List.mem_append] at hi
      rcases hi with hi | hi
      · exact .inl (.inr (.inr ⟨i, hi, h1, h2⟩))
      · have : i = it := by simpa using hi
        subst this
        exact .inr h1
  have notP : ∀ k, (FL lv mv ls k ∨ FL tv dv ts k ∨ FX k) → ¬ (bv.ownBlock = some k ∨ qv.ownBlock = some k ∨ k = wb) := by
    intro k hk2 hP
    have hFB : k ≠ wb → FB bv qv its k := fun hn => by
      rcases hP with h1 | h1 | h1
      · exact .inl h1
      · exact .inr (.inl h1)
      · exact absurd h1 hn
    rcases hk2 with hk2 | hk2 | hk2
    · exact (h.d1 k hk2).2.1 (hFB (h.lists.wd h.wd k hk2))
    · exact (h.d2 k hk2).1 (hFB (h.texts.wd h.wd k hk2))
    · exact (h.d3 k (hFB (h.d4 k hk2))).1 hk2
  have new : ∀ k, it.a ≤ k → ¬ (FL lv mv ls k ∨ FL tv dv ts k ∨ FB bv qv its k ∨ FX k) ∧ k ≠ wb := by
    intro k h1
    exact ⟨fun h2 => by have := hlow k h2; omega, by omega⟩
  have itk : ∀ i, i ∈ its ++ [it] → i.At wB := by
    intro i hi
    rw [List.mem_append] at hi
    rcases hi with hi | hi
    · refine (h.bits.all i hi).keep hk (fun k h1 h2 hP => ?_)
      have hF : FB bv qv its k := .inr (.inr ⟨i, hi, h1, h2⟩)
      have hs := h.bits.sep i hi k h1 h2
      rcases hP with h3 | h3 | h3
      · exact hs.1 h3
      · exact hs.2 h3
      · exact (h.d3 k hF).2 h3
    · have : i = it := by simpa using hi
      subst this
      refine hit.keep hk (fun k h1 h2 hP => ?_)
      have hn := new k h1
      rcases hP with h3 | h3 | h3
      · exact hn.1 (.inr (.inr (.inl (.inl h3))))
      · exact hn.1 (.inr (.inr (.inl (.inr (.inl h3)))))
      · exact hn.2 h3
  have sep : ∀ i, i ∈ its ++ [it] → ∀ k, i.a ≤ k → k < i.z → (Value.slice (some ⟨g1, 0, none⟩) (its.length + 1) c1).ownBlock ≠ some k ∧ (Value.slice (some ⟨g2, 0, none⟩) (its.length + 1) c2).ownBlock ≠ some k := by
    intro i hi k h1 h2
    have hz : k < w.heap.size ∧ bv.ownBlock ≠ some k ∧ qv.ownBlock ≠ some k := by
      rw [List.mem_append] at hi
      rcases hi with hi | hi
      · exact ⟨Nat.lt_of_lt_of_le h2 (h.bits.all i hi).top, h.bits.sep i hi k h1 h2⟩
      · have : i = it := by simpa using hi
        subst this
        have hn := (new k h1).1
        exact ⟨by omega, fun e => hn (.inr (.inr (.inl (.inl e)))), fun e => hn (.inr (.inr (.inl (.inr (.inl e)))))⟩
    exact ⟨own_far hA (fun h => by omega) hz.2.1, own_far hB (fun h => by omega) hz.2.2⟩
  refine ⟨h.low, hw, h.lists.keepO hk (fun k h1 => notP k (.inl h1)), h.texts.keepO hk (fun k h1 => notP k (.inr (.inl h1))), ⟨?_, ?_, itk, sep⟩, h.cl.keep _ _ _ h.more hk (fun k h1 => notP k (.inr (.inr h1))), h.cl, ?_, ?_, ?_, h.d4⟩
  · rw [List.length_append, List.map_append]
    exact own_keep oA kB (fun a ha hP => by
      rcases hP with hP | hP
      · have := ne_of (owns_ne qA oA (by decide)) a ha
        exact this hP.symm
      · have hg : g1 = a := by simpa [Value.ownBlock] using ha
        subst hg hP
        rcases hA with hA | hA
        · exact (h.d3 _ (.inl hA)).2 rfl
        · have := hit.rq; omega)
  · rw [List.length_append, List.map_append]; exact oB
  · intro k hk2
    refine ⟨(h.d1 k hk2).1, fun h2 => ?_, (h.d1 k hk2).2.2⟩
    rcases fbn k h2 with h2 | h2
    · exact (h.d1 k hk2).2.1 h2
    · exact (new k h2).1 (.inl hk2)
  · intro k hk2
    refine ⟨fun h2 => ?_, (h.d2 k hk2).2⟩
    rcases fbn k h2 with h2 | h2
    · exact (h.d2 k hk2).1 h2
    · exact (new k h2).1 (.inr (.inl hk2))
  · intro k hk2
    rcases fbn k hk2 with h2 | h2
    · exact h.d3 k h2
    · exact ⟨fun h3 => (new k h2).1 (.inr (.inr (.inr h3))), (new k h2).2⟩
end

end Go.Proofs.YtopihgmemnokkaaGreat

