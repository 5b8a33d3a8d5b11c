import Derived.Test.YtopihgmemnokkaaGreatLaw5F
import Derived.Test.YtopihgmemnokkaaGreatTreeW2F
import Derived.Test.YtopihgmemnokkaaGreatWalk7F
import Derived.Test.YtopihgmemnokkaaGreatHuffF
namespace Go.Proofs.YtopihgmemnokkaaGreat
open Go.RowKit

theorem reads_of {w : World} {base : Nat} {v : Value} {l : List Nat} (h : w.ownsRow base 3 1 v l.length (intsL l)) : Reads w v l.length (fun k => ((l[k]?.getD 0 : Nat) : Int)) := by
  rcases h.2 with ⟨rfl, h0⟩ | ⟨g, cap, cur, rfl, h1⟩
  · exact .inl ⟨rfl, h0⟩
  · refine .inr ⟨g, cap, rfl, fun k hk => ?_⟩
    have hu : (intsL l)[k]? = some (.int .i64 ((l[k]?.getD 0 : Nat) : Int)) := by
      unfold intsL
      rw [List.getElem?_map, List.getElem?_eq_getElem hk]; rfl
    have := h.cells (g := g) rfl k _ hu
    have e : (⟨g, 0, none⟩ : Addr).add k = ⟨g, k, none⟩ := by
      unfold Addr.add
      split
      · simp [*]
      · simp
    rw [e] at this; exact this

section
variable {PI : Lay}

set_option maxRecDepth 100000 in
set_option maxHeartbeats 2000000 in
theorem asks_len (hI : PI.Ok) (hS : PI.Says) (B0 wb : Nat) (xv rv : Value) (FX : Nat → Prop) (X : World → Prop) (N : Nat) (w : World) (L : LX B0 wb xv rv FX X N w) (hB : B0 ≤ w.heap.size) (it : II) (hit : it.At PI w) (A B C : Int) (s : ByteArray) :
    Calls Tryz.prog 26 #[.pointer (some ⟨wb, 0, none⟩), .pointer (some ⟨it.b, 0, none⟩), .pointer (some ⟨it.q, 0, none⟩), .agg #[.int .i64 9, .int .i64 A, .int .i64 B, .int .i64 C, .string s]] w fun e w' => e = .returned (.bool true) ∧ LX B0 wb xv rv FX X N w' ∧ Below B0 w w' := by
  have hW : Below w.heap.size w (w.alloc (opBox 9 A B C s)) := (Below.refl _ _).alloc (Nat.le_refl _) _
  have hi0 := hit.keep hI (Kept.of_below hW (Nat.le_refl _) (fun _ => False)) (fun _ _ _ h => h)
  have HL : Hid (LX B0 wb xv rv FX X N w) := L
  have HI : Hid (it.At PI (w.alloc (opBox 9 A B C s))) := hi0
  have HW : Hid (Below w.heap.size w (w.alloc (opBox 9 A B C s))) := hW
  clear L hit hW hi0
  go_enter Tryz.func26, Tryz.ntmps26
  go_wp2_with fail
  obtain ⟨W0, hW0⟩ : ∃ W0, W0 = w.alloc (opBox 9 A B C s) := ⟨_, rfl⟩
  rw [← hW0] at HI HW ⊢
  clear hW0
  refine (hS.len _ _ _ _ _ W0 HI.out.idx HI.out.ok).mono ?_
  rintro e w1 ⟨rfl, hb1⟩
  have HB1 : Hid (Below W0.heap.size W0 w1) := hb1
  have HI1 : Hid (IAt w1 it.q it.t it.rate) := HI.out.ref.below hb1 HI.out.ref.lt
  clear hb1
  go_wp2_with fail
  refine (refLen_any _ _ _ w1 HI1.out).mono ?_
  rintro e w2 ⟨rfl, hw2⟩
  have hw2 := hw2.symm
  subst hw2
  have HB2 : Hid (Below w.heap.size w w1) := HW.out.trans (HB1.out.mono HW.out.size)
  have hnn : ((it.t.size : Int) == (it.t.size : Int)) = true := by simp
  go_wp2
  go_ret
  exact ⟨by simp, HL.out.below HB2.out, HB2.out.mono hB⟩

set_option maxRecDepth 100000 in
set_option maxHeartbeats 2000000 in
theorem asks_count (hI : PI.Ok) (hS : PI.Says) (B0 wb : Nat) (xv rv : Value) (FX : Nat → Prop) (X : World → Prop) (N : Nat) (w : World) (L : LX B0 wb xv rv FX X N w) (hB : B0 ≤ w.heap.size) (it : II) (hit : it.At PI w) (A B C : Int) (s : ByteArray) (hs : s.size ≤ 1099511627776) :
    Calls Tryz.prog 26 #[.pointer (some ⟨wb, 0, none⟩), .pointer (some ⟨it.b, 0, none⟩), .pointer (some ⟨it.q, 0, none⟩), .agg #[.int .i64 10, .int .i64 A, .int .i64 B, .int .i64 C, .string s]] w fun e w' => e = .returned (.bool true) ∧ LX B0 wb xv rv FX X N w' ∧ Below B0 w w' := by
  have hbx := fun w' hb => box_cell w 10 A B C s (w' := w') hb 4
  simp only [List.getElem?_toArray, List.getElem?_cons_succ, List.getElem?_cons_zero] at hbx
  have hW : Below w.heap.size w (w.alloc (opBox 10 A B C s)) := (Below.refl _ _).alloc (Nat.le_refl _) _
  have hi0 := hit.keep hI (Kept.of_below hW (Nat.le_refl _) (fun _ => False)) (fun _ _ _ h => h)
  have hsz : (w.alloc (opBox 10 A B C s)).heap.size = w.heap.size + 1 := by simp
  have HL : Hid (LX B0 wb xv rv FX X N w) := L
  have HI : Hid (it.At PI (w.alloc (opBox 10 A B C s))) := hi0
  have HW : Hid (Below w.heap.size w (w.alloc (opBox 10 A B C s))) := hW
  clear L hit hW hi0
  go_enter Tryz.func26, Tryz.ntmps26
  go_wp2_with fail
  obtain ⟨W0, hW0⟩ : ∃ W0, W0 = w.alloc (opBox 10 A B C s) := ⟨_, rfl⟩
  rw [← hW0] at HI HW hbx hsz ⊢
  clear hW0
  refine (hS.count _ _ _ _ s _ W0 HI.out.idx HI.out.ok hs).mono ?_
  rintro e w1 ⟨rfl, hb1⟩
  have c4 := hbx w1 (hsz ▸ hb1)
  have HB1 : Hid (Below W0.heap.size W0 w1) := hb1
  have HI1 : Hid (IAt w1 it.q it.t it.rate) := HI.out.ref.below hb1 HI.out.ref.lt
  clear hb1
  go_wp2_with fail
  refine (refCount_any _ s _ _ w1 HI1.out HI.out.ok.1 hs).mono ?_
  rintro e w2 ⟨rfl, hb2⟩
  have HB2 : Hid (Below w.heap.size w w2) := (HW.out.trans (HB1.out.mono HW.out.size)).trans (hb2.mono (Nat.le_trans HW.out.size HB1.out.size))
  clear hb2 c4
  generalize (occT it.t s (it.t.size + 1)).length = n at *
  have hnn : ((n : Int) == (n : Int)) = true := by simp
  go_wp2
  go_ret
  exact ⟨by simp, HL.out.below HB2.out, HB2.out.mono hB⟩

set_option maxRecDepth 100000 in
set_option maxHeartbeats 2000000 in
theorem asks_locate (hI : PI.Ok) (hS : PI.Says) (B0 wb : Nat) (xv rv : Value) (FX : Nat → Prop) (X : World → Prop) (N : Nat) (w : World) (L : LX B0 wb xv rv FX X N w) (hB : B0 ≤ w.heap.size) (hN : N ≤ 5000000) (it : II) (hit : it.At PI w) (A B C : Int) (s : ByteArray) (hs : s.size ≤ 1099511627776) :
    Calls Tryz.prog 26 #[.pointer (some ⟨wb, 0, none⟩), .pointer (some ⟨it.b, 0, none⟩), .pointer (some ⟨it.q, 0, none⟩), .agg #[.int .i64 11, .int .i64 A, .int .i64 B, .int .i64 C, .string s]] w fun e w' => e = .returned (.bool true) ∧ LX B0 wb xv rv FX X (N + 4) w' ∧ Below B0 w w' := by
  have hbx := fun w' hb => box_cell w 11 A B C s (w' := w') hb 4
  simp only [List.getElem?_toArray, List.getElem?_cons_succ, List.getElem?_cons_zero] at hbx
  have hW : Below w.heap.size w (w.alloc (opBox 11 A B C s)) := (Below.refl _ _).alloc (Nat.le_refl _) _
  have hi0 := hit.keep hI (Kept.of_below hW (Nat.le_refl _) (fun _ => False)) (fun _ _ _ h => h)
  have hsz : (w.alloc (opBox 11 A B C s)).heap.size = w.heap.size + 1 := by simp
  have HL : Hid (LX B0 wb xv rv FX X N (w.alloc (opBox 11 A B C s))) := L.below hW
  have HI : Hid (it.At PI (w.alloc (opBox 11 A B C s))) := hi0
  have HW : Hid (Below w.heap.size w (w.alloc (opBox 11 A B C s))) := hW
  clear L hit hW hi0
  go_enter Tryz.func26, Tryz.ntmps26
  go_wp2_with fail
  obtain ⟨W0, hW0⟩ : ∃ W0, W0 = w.alloc (opBox 11 A B C s) := ⟨_, rfl⟩
  rw [← hW0] at HI HW HL hbx hsz ⊢
  clear hW0
  have HOK : Hid (it.t.size ≤ 1000) := HI.out.ok.1
  have HLen : Hid ((occT it.t s (it.t.size + 1)).length ≤ 5000) := by
    have h1 := occT_len it.t s (it.t.size + 1)
    have h2 := HOK.out
    show _ ≤ _; omega
  refine (hS.locate _ _ _ _ s _ W0 HI.out.idx HI.out.ok hs).mono ?_
  rintro e w1 ⟨v, rfl, ho1, hb1⟩
  have c4 := hbx w1 (hsz ▸ hb1)
  have HB1 : Hid (Below W0.heap.size W0 w1) := hb1
  have HI1 : Hid (IAt w1 it.q it.t it.rate) := HI.out.ref.below hb1 HI.out.ref.lt
  have HO1 : Hid (w1.ownsRow W0.heap.size 3 1 v (occT it.t s (it.t.size + 1)).length (intsL (occT it.t s (it.t.size + 1)))) := ho1
  clear hb1 ho1
  go_wp2_with fail
  refine (refLocate_any _ s _ _ w1 HI1.out HOK.out hs).mono ?_
  rintro e w2 ⟨v2, rfl, ho2, hb2⟩
  have HO2 : Hid (w2.ownsRow w1.heap.size 3 1 v2 (occT it.t s (it.t.size + 1)).length (intsL (occT it.t s (it.t.size + 1)))) := ho2
  have HO12 : Hid (w2.ownsRow W0.heap.size 3 1 v (occT it.t s (it.t.size + 1)).length (intsL (occT it.t s (it.t.size + 1)))) := own_keep HO1.out (Kept.of_below hb2 (Nat.le_refl _) (fun _ => False)) (fun _ _ h => h)
  have HB2 : Hid (Below W0.heap.size W0 w2) := HB1.out.trans (hb2.mono HB1.out.size)
  clear hb2 ho2 c4 hbx
  generalize occT it.t s (it.t.size + 1) = l at *
  go_wp2_with fail
  refine (same_any _ _ l.length _ w2 (reads_of HO12.out) (reads_of HO2.out) HLen.out).mono ?_
  rintro e w3 ⟨rfl, hS3⟩
  have HB3 : Hid (Below W0.heap.size W0 w3) := HB2.out.trans (still_below hS3 _ HB2.out.size)
  have HO3 : Hid (w3.ownsRow W0.heap.size 3 1 v l.length (intsL l)) := own_keep HO12.out hS3 (fun _ _ h => h)
  clear hS3
  go_wp2_with fail
  refine (keep_lx B0 wb xv rv _ _ N W0 w3 HL.out HB3.out v l.length _ HO3.out (by have := HW.out.size; omega) hN HLen.out).mono ?_
  rintro e w4 ⟨rfl, hL4, hB4⟩
  have HL4 : Hid (LX B0 wb xv rv FX X (N + 4) w4) := hL4
  have HB4 : Hid (Below B0 w w4) := ((HW.out.mono hB).trans (HB3.out.mono (by have := HW.out.size; omega))).trans hB4
  clear hL4 hB4
  go_wp2
  go_ret
  exact ⟨rfl, HL4.out, HB4.out⟩

set_option maxRecDepth 100000 in
set_option maxHeartbeats 2000000 in
theorem asks_extract (hI : PI.Ok) (hS : PI.Says) (B0 wb : Nat) (xv rv : Value) (FX : Nat → Prop) (X : World → Prop) (N : Nat) (w : World) (L : LX B0 wb xv rv FX X N w) (hB : B0 ≤ w.heap.size) (it : II) (hit : it.At PI w) (A B C : Int) (s : ByteArray) (hA : -9223372036854775808 ≤ A ∧ A ≤ 9223372036854775807) (hB2 : -9223372036854775808 ≤ B ∧ B ≤ 9223372036854775807) :
    Calls Tryz.prog 26 #[.pointer (some ⟨wb, 0, none⟩), .pointer (some ⟨it.b, 0, none⟩), .pointer (some ⟨it.q, 0, none⟩), .agg #[.int .i64 12, .int .i64 A, .int .i64 B, .int .i64 C, .string s]] w fun e w' => e = .returned (.bool true) ∧ LX B0 wb xv rv FX X N w' ∧ Below B0 w w' := by
  have hbx1 := fun w' hb => box_cell w 12 A B C s (w' := w') hb 1
  have hbx2 := fun w' hb => box_cell w 12 A B C s (w' := w') hb 2
  simp only [List.getElem?_toArray, List.getElem?_cons_succ, List.getElem?_cons_zero] at hbx1 hbx2
  have hW : Below w.heap.size w (w.alloc (opBox 12 A B C s)) := (Below.refl _ _).alloc (Nat.le_refl _) _
  have hi0 := hit.keep hI (Kept.of_below hW (Nat.le_refl _) (fun _ => False)) (fun _ _ _ h => h)
  have hsz : (w.alloc (opBox 12 A B C s)).heap.size = w.heap.size + 1 := by simp
  have HL : Hid (LX B0 wb xv rv FX X N w) := L
  have HI : Hid (it.At PI (w.alloc (opBox 12 A B C s))) := hi0
  have HW : Hid (Below w.heap.size w (w.alloc (opBox 12 A B C s))) := hW
  have HA : Hid (-9223372036854775808 ≤ A ∧ A ≤ 9223372036854775807) := hA
  have HB' : Hid (-9223372036854775808 ≤ B ∧ B ≤ 9223372036854775807) := hB2
  clear L hit hW hi0 hA hB2
  go_enter Tryz.func26, Tryz.ntmps26
  go_wp2_with fail
  obtain ⟨W0, hW0⟩ : ∃ W0, W0 = w.alloc (opBox 12 A B C s) := ⟨_, rfl⟩
  rw [← hW0] at HI HW hbx1 hbx2 hsz ⊢
  clear hW0
  refine (hS.extract _ _ _ _ _ A B W0 HI.out.idx HI.out.ok HA.out HB'.out).mono ?_
  rintro e w1 ⟨⟨s1, n1, rfl, ha1⟩, hb1⟩
  have c1 := hbx1 w1 (hsz ▸ hb1)
  have c2 := hbx2 w1 (hsz ▸ hb1)
  have HB1 : Hid (Below W0.heap.size W0 w1) := hb1
  have HI1 : Hid (IAt w1 it.q it.t it.rate) := HI.out.ref.below hb1 HI.out.ref.lt
  have HA1 : Hid (ExtAns it.t A B s1 n1) := ha1
  clear hb1 ha1
  go_wp2_with fail
  refine (refExtract_any _ _ _ A B w1 HI1.out).mono ?_
  rintro e w2 ⟨⟨s2, n2, rfl, ha2⟩, hw2⟩
  have hw2 := hw2.symm
  subst hw2
  obtain ⟨rfl, rfl⟩ := HA1.out.uniq ha2
  have HB2 : Hid (Below w.heap.size w w1) := HW.out.trans (HB1.out.mono HW.out.size)
  clear c1 c2 ha2 HA1
  go_wp2_with fail
  refine (num_any _ _).mono ?_
  rintro e w3 ⟨rfl, hw3⟩
  have hw3 := hw3.symm
  subst hw3
  go_wp2
  go_ret
  exact ⟨by simp, HL.out.below HB2.out, HB2.out.mono hB⟩
end

end Go.Proofs.YtopihgmemnokkaaGreat

namespace Go.Proofs.YtopihgmemnokkaaGreat
open Go.RowKit

section
variable {PI : Lay} {B0 wb : Nat} {xv rv : Value} {FX : Nat → Prop} {X : World → Prop} {N : Nat} {w : World}

/-- .. with a box beside it -/
theorem LX.box (L : LX B0 wb xv rv FX X N w) (o : Obj) : LX B0 wb xv rv (fun k => FX k ∨ k = w.heap.size) (fun W => X W ∧ W.heap[w.heap.size]? = some o) N (w.alloc o) := by
  obtain ⟨bv, qv, lv, tv, mv, dv, ls, ts, ms, ds, its, h1, h2⟩ := L
  have hl := h1.lts
  have hwl := h1.wd.lt
  have h := h1.below ((Below.refl _ _).alloc (Nat.le_refl _) o)
  refine ⟨bv, qv, lv, tv, mv, dv, ls, ts, ms, ds, its, ⟨h.low, h.wd, h.lists, h.texts, h.bits, ⟨h.more, heap_alloc_new w o⟩, ⟨?_, ?_⟩, ?_, ?_, ?_, ?_⟩, h2⟩
  · intro P a b hx hk hP
    refine ⟨h1.cl.keep _ _ _ hx.1 hk (fun k hk2 => hP k (.inl hk2)), ?_⟩
    rw [hk.block _ (Array.getElem?_eq_some_iff.1 hx.2).1 (hP _ (.inr rfl))]
    exact hx.2
  · intro a hx k hk
    rcases hk with hk | rfl
    · exact h1.cl.lt _ hx.1 k hk
    · exact (Array.getElem?_eq_some_iff.1 hx.2).1
  · intro k hk
    refine ⟨(h1.d1 k hk).1, (h1.d1 k hk).2.1, ?_⟩
    rintro (h3 | rfl)
    · exact (h1.d1 k hk).2.2 h3
    · have := hl _ (.inl hk); omega
  · intro k hk
    refine ⟨(h1.d2 k hk).1, ?_⟩
    rintro (h3 | rfl)
    · exact (h1.d2 k hk).2 h3
    · have := hl _ (.inr (.inl hk)); omega
  · intro k hk
    refine ⟨?_, (h1.d3 k hk).2⟩
    rintro (h3 | rfl)
    · exact (h1.d3 k hk).1 h3
    · have := hl _ (.inr (.inr (.inl hk))); omega
  · rintro k (h3 | rfl)
    · exact h1.d4 k h3
    · omega
theorem LX.unbox {kb : Nat} {o : Obj} (L : LX B0 wb xv rv (fun k => FX k ∨ k = kb) (fun W => X W ∧ W.heap[kb]? = some o) N w) (hc : Closed FX X) : LX B0 wb xv rv FX X N w := by
  obtain ⟨bv, qv, lv, tv, mv, dv, ls, ts, ms, ds, its, h, h2⟩ := L
  exact ⟨bv, qv, lv, tv, mv, dv, ls, ts, ms, ds, its, ⟨h.low, h.wd, h.lists, h.texts, h.bits, h.more.1, hc, fun k hk => ⟨(h.d1 k hk).1, (h.d1 k hk).2.1, fun h3 => (h.d1 k hk).2.2 (.inl h3)⟩, fun k hk => ⟨(h.d2 k hk).1, fun h3 => (h.d2 k hk).2 (.inl h3)⟩, fun k hk => ⟨fun h3 => (h.d3 k hk).1 (.inl h3), (h.d3 k hk).2⟩, fun k hk => h.d4 k (.inl hk)⟩, h2⟩

/-- what is read of it -/
theorem LX.reads {iis : List II} {kb g1 c1 g2 c2 k : Nat} {K A B C : Int} {s : ByteArray} {it : II}
    (L : LX B0 wb (.slice (some ⟨g1, 0, none⟩) iis.length c1) (.slice (some ⟨g2, 0, none⟩) iis.length c2) (fun k => FX k ∨ k = kb) (fun W => IdxP PI B0 (.slice (some ⟨g1, 0, none⟩) iis.length c1) (.slice (some ⟨g2, 0, none⟩) iis.length c2) iis W ∧ W.heap[kb]? = some (opBox K A B C s)) N w) (hk : iis[k]? = some it) :
    w.cell? ⟨wb, 2, none⟩ = some (.slice (some ⟨g1, 0, none⟩) iis.length c1) ∧ w.cell? ⟨wb, 3, none⟩ = some (.slice (some ⟨g2, 0, none⟩) iis.length c2) ∧ w.cell? ⟨g1, k, none⟩ = some (.pointer (some ⟨it.b, 0, none⟩)) ∧ w.cell? ⟨g2, k, none⟩ = some (.pointer (some ⟨it.q, 0, none⟩)) ∧
      w.cell? ⟨kb, 0, none⟩ = some (.int .i64 K) ∧ w.cell? ⟨kb, 1, none⟩ = some (.int .i64 A) ∧ w.cell? ⟨kb, 2, none⟩ = some (.int .i64 B) ∧ w.cell? ⟨kb, 3, none⟩ = some (.int .i64 C) ∧ w.cell? ⟨kb, 4, none⟩ = some (.string s) := by
  obtain ⟨bv, qv, lv, tv, mv, dv, ls, ts, ms, ds, its, h, h2⟩ := L
  have c2' := h.wd.cell 2
  have c3' := h.wd.cell 3
  simp only [List.getElem?_toArray, List.getElem?_cons_succ, List.getElem?_cons_zero] at c2' c3'
  have hb := h.more.2
  refine ⟨c2', c3', own_cell h.more.1.own (by rw [List.getElem?_map, hk]; rfl), own_cell h.more.1.ref (by rw [List.getElem?_map, hk]; rfl), ?_, ?_, ?_, ?_, ?_⟩
  all_goals (simp [World.cell?, hb, opBox])
theorem LX.at_ {iis : List II} {kb : Nat} {o : Obj} {it : II} (L : LX B0 wb xv rv (fun k => FX k ∨ k = kb) (fun W => IdxP PI B0 xv rv iis W ∧ W.heap[kb]? = some o) N w) (hk : it ∈ iis) : it.At PI w := by
  obtain ⟨bv, qv, lv, tv, mv, dv, ls, ts, ms, ds, its, h, h2⟩ := L
  exact h.more.1.all it hk
end

theorem asks_any {PI : Lay} (hI : PI.Ok) (hS : PI.Says) (B0 wb : Nat) (xv rv : Value) (FX : Nat → Prop) (X : World → Prop) (N : Nat) (w : World) (L : LX B0 wb xv rv FX X N w) (hB : B0 ≤ w.heap.size) (hN : N ≤ 5000000) (it : II) (hit : it.At PI w) (K A B C : Int) (s : ByteArray)
    (hK1 : 9 ≤ K) (hK2 : K ≤ 12) (hs : s.size ≤ 1099511627776) (hA : -9223372036854775808 ≤ A ∧ A ≤ 9223372036854775807) (hB2 : -9223372036854775808 ≤ B ∧ B ≤ 9223372036854775807) :
    Calls Tryz.prog 26 #[.pointer (some ⟨wb, 0, none⟩), .pointer (some ⟨it.b, 0, none⟩), .pointer (some ⟨it.q, 0, none⟩), .agg #[.int .i64 K, .int .i64 A, .int .i64 B, .int .i64 C, .string s]] w fun e w' => e = .returned (.bool true) ∧ LX B0 wb xv rv FX X (N + 4) w' ∧ Below B0 w w' := by
  have hcs : K = 9 ∨ K = 10 ∨ K = 11 ∨ K = 12 := by omega
  rcases hcs with e | e | e | e
  · subst e; exact (asks_len hI hS B0 wb xv rv FX X N w L hB it hit A B C s).mono fun e w' ⟨h1, h2, h3⟩ => ⟨h1, h2.mono (by omega), h3⟩
  · subst e; exact (asks_count hI hS B0 wb xv rv FX X N w L hB it hit A B C s hs).mono fun e w' ⟨h1, h2, h3⟩ => ⟨h1, h2.mono (by omega), h3⟩
  · subst e; exact asks_locate hI hS B0 wb xv rv FX X N w L hB hN it hit A B C s hs
  · subst e; exact (asks_extract hI hS B0 wb xv rv FX X N w L hB it hit A B C s hA hB2).mono fun e w' ⟨h1, h2, h3⟩ => ⟨h1, h2.mono (by omega), h3⟩

set_option maxRecDepth 100000 in
set_option maxHeartbeats 4000000 in
theorem step3_ask (PI : Lay) (hI : PI.Ok) (hS : PI.Says) (B0 wb N : Nat) (w : World) (L : LY PI B0 wb N w) (hB : B0 ≤ w.heap.size) (hN : N ≤ 5000000) (K A B C : Int) (s : ByteArray) (hK1 : 9 ≤ K) (hK2 : K ≤ 12)
    (hs : s.size ≤ 1099511627776) (hC1 : -9223372036854775808 ≤ C) (hC2 : C ≤ 9223372036854775807) (hA : -9223372036854775808 ≤ A ∧ A ≤ 9223372036854775807) (hB2 : -9223372036854775808 ≤ B ∧ B ≤ 9223372036854775807) :
    Calls Tryz.prog 10 #[.pointer (some ⟨wb, 0, none⟩), .agg #[.int .i64 K, .int .i64 A, .int .i64 B, .int .i64 C, .string s]] w fun e w' => e = .returned (.bool true) ∧ LY PI B0 wb (N + 4) w' ∧ Below B0 w w' := by
  have d1 : decide ((1 : Int) ≤ K) = true := decide_eq_true (by omega)
  have d1' : decide (K ≤ 3) = false := decide_eq_false (by omega)
  have d2 : (K == 7) = false := by simp; omega
  have d3 : decide ((4 : Int) ≤ K) = true := decide_eq_true (by omega)
  have d3' : decide (K ≤ 6) = false := decide_eq_false (by omega)
  have d4 : (K == 8) = false := by simp; omega
  have d5 : (K == 14) = false := by simp; omega
  have d6 : decide (K < 1) = false := decide_eq_false (by omega)
  have d7 : decide ((15 : Int) < K) = false := decide_eq_false (by omega)
  have d8 : decide (K ≤ 12) = true := decide_eq_true (by omega)
  obtain ⟨xv, rv, iis, hLX, hil⟩ := L
  have HLB := hLX.box (opBox K A B C s)
  have hW : Below B0 w (w.alloc (opBox K A B C s)) := (Below.refl _ _).alloc (by omega) _
  obtain ⟨bv, qv, lv, tv, mv, dv, ls, ts, ms, ds, its, h1, h2⟩ := hLX
  have hO := h1.more.own
  have hRf := h1.more.ref
  have HCL : Hid (Closed (FI xv rv iis) (IdxP PI B0 xv rv iis)) := h1.cl
  by_cases hz : iis.length = 0
  · obtain ⟨ba, bc, rfl⟩ := own_slice hO
    rw [hz] at *
    have HL2 : Hid (LY PI B0 wb (N + 4) (w.alloc (opBox K A B C s))) := (LY.mono ⟨_, rv, iis, HLB.unbox HCL.out, by omega⟩ (by omega))
    obtain ⟨bv, qv, lv, tv, mv, dv, ls, ts, ms, ds, its, h1', h2'⟩ := HLB
    have c2 := h1'.wd.cell 2
    simp only [List.getElem?_toArray, List.getElem?_cons_succ, List.getElem?_cons_zero] at c2
    clear h1 h2 h1' h2' hO hRf HCL
    go_enter Tryz.func10, Tryz.ntmps10
    go_wp2
    go_ret
    exact ⟨rfl, HL2.out, hW⟩
  · obtain ⟨g1, bc, hx, _⟩ := hO.form (by omega)
    obtain ⟨g2, qc, hr, _⟩ := hRf.form (by omega)
    subst hx hr
    have hpk := fun W => lawpick_any C (iis.length : Nat) W hC1 hC2 (by omega) (by omega)
    have hklt := pickV_lt C (n := iis.length) (by omega)
    generalize hkk : pickV C iis.length = k at *
    obtain ⟨it, hit⟩ : ∃ it, iis[k]? = some it := ⟨_, List.getElem?_eq_getElem hklt⟩
    have HIT : Hid (iis[k]? = some it) := hit
    have d9 : ((iis.length : Int) == 0) = false := beq_eq_false_iff_ne.2 (by omega)
    have d10 : (iis.length == 0) = false := beq_eq_false_iff_ne.2 hz
    have hki : (k : Int) < (iis.length : Int) := by omega
    have hil2 : iis.length ≤ 5000000 := by omega
    have HN0 : Hid (iis.length ≤ N) := hil
    have HLB' : Hid (LX B0 wb (.slice (some ⟨g1, 0, none⟩) iis.length bc) (.slice (some ⟨g2, 0, none⟩) iis.length qc) (fun k => FI (.slice (some ⟨g1, 0, none⟩) iis.length bc) (.slice (some ⟨g2, 0, none⟩) iis.length qc) iis k ∨ k = w.heap.size)
      (fun W => IdxP PI B0 (.slice (some ⟨g1, 0, none⟩) iis.length bc) (.slice (some ⟨g2, 0, none⟩) iis.length qc) iis W ∧ W.heap[w.heap.size]? = some (opBox K A B C s)) N (w.alloc (opBox K A B C s))) := HLB
    have HW : Hid (Below B0 w (w.alloc (opBox K A B C s))) := hW
    have HS0 : Hid (w.heap.size ≤ (w.alloc (opBox K A B C s)).heap.size) := by show _ ≤ _; simp
    obtain ⟨r2, r3, r4, r5, b0, b1, b2, b3, b4⟩ := HLB.reads hit
    clear h1 h2 hO hRf hit hil HLB hW
    go_enter Tryz.func10, Tryz.ntmps10
    go_wp2
    obtain ⟨W0, hW0⟩ : ∃ W0, W0 = w.alloc (opBox K A B C s) := ⟨_, rfl⟩
    rw [← hW0] at HLB' HW HS0 r2 r3 r4 r5 b0 b1 b2 b3 b4 ⊢
    clear hW0
    go_quiet ((go_at_call 25; exact Calls.quiet_of_same (hpk _)))
    have hb1 : Below W0.heap.size W0 (W0.drewN nq) := below_drewN (Below.refl _ _) nq
    have HL1 : Hid (LX B0 wb (.slice (some ⟨g1, 0, none⟩) iis.length bc) (.slice (some ⟨g2, 0, none⟩) iis.length qc) (fun k => FI (.slice (some ⟨g1, 0, none⟩) iis.length bc) (.slice (some ⟨g2, 0, none⟩) iis.length qc) iis k ∨ k = w.heap.size) (fun W => IdxP PI B0 (.slice (some ⟨g1, 0, none⟩) iis.length bc) (.slice (some ⟨g2, 0, none⟩) iis.length qc) iis W ∧ W.heap[w.heap.size]? = some (opBox K A B C s)) N (W0.drewN nq).drew) := HLB'.out.below (below_drew hb1)
    have HB1 : Hid (Below B0 w (W0.drewN nq).drew) := below_drew (HW.out.trans (hb1.mono (by have := HS0.out; omega)))
    have e0 : (W0.drewN nq).cell? ⟨w.heap.size, 0, none⟩ = some (.int .i64 K) := b0
    have HAK : Hid (Calls Tryz.prog 26 #[.pointer (some ⟨wb, 0, none⟩), .pointer (some ⟨it.b, 0, none⟩), .pointer (some ⟨it.q, 0, none⟩), .agg #[.int .i64 K, .int .i64 A, .int .i64 B, .int .i64 C, .string s]] (W0.drewN nq).drew fun e w' => e = .returned (.bool true) ∧ LX B0 wb (.slice (some ⟨g1, 0, none⟩) iis.length bc) (.slice (some ⟨g2, 0, none⟩) iis.length qc) (fun k => FI (.slice (some ⟨g1, 0, none⟩) iis.length bc) (.slice (some ⟨g2, 0, none⟩) iis.length qc) iis k ∨ k = w.heap.size) (fun W => IdxP PI B0 (.slice (some ⟨g1, 0, none⟩) iis.length bc) (.slice (some ⟨g2, 0, none⟩) iis.length qc) iis W ∧ W.heap[w.heap.size]? = some (opBox K A B C s)) (N + 4) w' ∧ Below B0 w w' ∧ (w'.cell? ⟨wb, 2, none⟩ = some (.slice (some ⟨g1, 0, none⟩) iis.length bc) ∧ w'.cell? ⟨wb, 3, none⟩ = some (.slice (some ⟨g2, 0, none⟩) iis.length qc) ∧ w'.cell? ⟨g1, k, none⟩ = some (.pointer (some ⟨it.b, 0, none⟩)) ∧ w'.cell? ⟨g2, k, none⟩ = some (.pointer (some ⟨it.q, 0, none⟩)) ∧ w'.cell? ⟨w.heap.size, 0, none⟩ = some (.int .i64 K) ∧ w'.cell? ⟨w.heap.size, 1, none⟩ = some (.int .i64 A) ∧ w'.cell? ⟨w.heap.size, 2, none⟩ = some (.int .i64 B) ∧ w'.cell? ⟨w.heap.size, 3, none⟩ = some (.int .i64 C) ∧ w'.cell? ⟨w.heap.size, 4, none⟩ = some (.string s))) :=
      (asks_any hI hS B0 wb _ _ _ _ N _ HL1.out (Nat.le_trans hB (Nat.le_trans HS0.out hb1.size)) hN it (HL1.out.at_ (List.mem_of_getElem? HIT.out)) K A B C s hK1 hK2 hs hA hB2).mono fun e w' ⟨h1, h2, h3⟩ => ⟨h1, h2, HB1.out.trans h3, h2.reads HIT.out⟩
    have s0 : (W0.drewN nq).drew.cell? ⟨wb, 2, none⟩ = some (.slice (some ⟨g1, 0, none⟩) iis.length bc) ∧ (W0.drewN nq).drew.cell? ⟨wb, 3, none⟩ = some (.slice (some ⟨g2, 0, none⟩) iis.length qc) ∧ (W0.drewN nq).drew.cell? ⟨g1, k, none⟩ = some (.pointer (some ⟨it.b, 0, none⟩)) ∧ (W0.drewN nq).drew.cell? ⟨g2, k, none⟩ = some (.pointer (some ⟨it.q, 0, none⟩)) ∧ (W0.drewN nq).drew.cell? ⟨w.heap.size, 0, none⟩ = some (.int .i64 K) ∧ (W0.drewN nq).drew.cell? ⟨w.heap.size, 1, none⟩ = some (.int .i64 A) ∧ (W0.drewN nq).drew.cell? ⟨w.heap.size, 2, none⟩ = some (.int .i64 B) ∧ (W0.drewN nq).drew.cell? ⟨w.heap.size, 3, none⟩ = some (.int .i64 C) ∧ (W0.drewN nq).drew.cell? ⟨w.heap.size, 4, none⟩ = some (.string s) := HL1.out.reads HIT.out
    clear hpk hkk r2 r3 r4 r5 b0 b1 b2 b3 b4 HLB' HL1 hb1
    generalize W0.drewN nq = W1 at *
    go_wp2_with fail
    go_region_held3 (fun w' => w'.cell? ⟨wb, 2, none⟩ = some (.slice (some ⟨g1, 0, none⟩) iis.length bc) ∧ w'.cell? ⟨wb, 3, none⟩ = some (.slice (some ⟨g2, 0, none⟩) iis.length qc) ∧ w'.cell? ⟨g1, k, none⟩ = some (.pointer (some ⟨it.b, 0, none⟩)) ∧ w'.cell? ⟨g2, k, none⟩ = some (.pointer (some ⟨it.q, 0, none⟩)) ∧ w'.cell? ⟨w.heap.size, 0, none⟩ = some (.int .i64 K) ∧ w'.cell? ⟨w.heap.size, 1, none⟩ = some (.int .i64 A) ∧ w'.cell? ⟨w.heap.size, 2, none⟩ = some (.int .i64 B) ∧ w'.cell? ⟨w.heap.size, 3, none⟩ = some (.int .i64 C) ∧ w'.cell? ⟨w.heap.size, 4, none⟩ = some (.string s)) (assumption) ((go_at_call 26; refine HAK.out.mono ?_; rintro e w2 ⟨rfl, hL2, hb2, hS2⟩))
    have HL2 : Hid (LY PI B0 wb (N + 4) w2) := ⟨_, _, iis, hL2.unbox HCL.out, by have := HN0.out; omega⟩
    have HB2 : Hid (Below B0 w w2) := hb2
    clear hL2 hb2 hS2 s0 e0 HAK
    go_wp2
    go_ret
    exact ⟨rfl, HL2.out, HB2.out⟩

end Go.Proofs.YtopihgmemnokkaaGreat

namespace Go.Proofs.YtopihgmemnokkaaGreat
open Go.RowKit

theorem LY.lx {PI : Lay} {B0 wb N : Nat} {w : World} (h : LY PI B0 wb N w) : ∃ xv rv iis, LX B0 wb xv rv (FI xv rv iis) (IdxP PI B0 xv rv iis) N w ∧ iis.length ≤ N := h

set_option maxRecDepth 100000 in
set_option maxHeartbeats 4000000 in
theorem step3_any (PI : Lay) (hI : PI.Ok) (hS : PI.Says) (B0 wb N : Nat) (w : World) (L : LY PI B0 wb N w) (hB : B0 ≤ w.heap.size) (hN : N ≤ 5000000) (K A B C : Int) (s : ByteArray) (hK : K ≤ 12)
    (hs : s.size ≤ 1099511627776) (hC : -9223372036854775808 ≤ C ∧ C ≤ 9223372036854775807) (hA : -9223372036854775808 ≤ A ∧ A ≤ 9223372036854775807) (hB2 : -9223372036854775808 ≤ B ∧ B ≤ 9223372036854775807) :
    Calls Tryz.prog 10 #[.pointer (some ⟨wb, 0, none⟩), .agg #[.int .i64 K, .int .i64 A, .int .i64 B, .int .i64 C, .string s]] w fun e w' => e = .returned (.bool true) ∧ LY PI B0 wb (N + 4) w' ∧ Below B0 w w' := by
  by_cases hK9 : 9 ≤ K
  · exact step3_ask PI hI hS B0 wb N w L hB hN K A B C s hK9 hK hs hC.1 hC.2 hA hB2
  have hW : Below B0 w (w.alloc (opBox K A B C s)) := (Below.refl _ _).alloc (by omega) _
  have hLY : LY PI B0 wb N (w.alloc (opBox K A B C s)) := L.below ((Below.refl _ _).alloc (Nat.le_refl _) _)
  have hsz : (w.alloc (opBox K A B C s)).heap.size = w.heap.size + 1 := by simp
  by_cases hK8 : K = 8
  · subst hK8
    clear L
    have HLY : Hid (LY PI B0 wb N (w.alloc (opBox 8 A B C s))) := hLY
    clear hLY
    go_enter Tryz.func10, Tryz.ntmps10
    go_wp2_with fail
    refine (builds_any PI hI hS B0 wb N _ HLY.out (by omega) hN s A hs hA.1 hA.2).mono ?_
    rintro e w1 ⟨rfl, hL1, hB1⟩
    have HL1 : Hid (LY PI B0 wb (N + 1) w1) := hL1
    clear hL1
    go_wp2
    go_ret
    exact ⟨rfl, HL1.out.mono (by omega), hW.trans hB1⟩
  obtain ⟨xv, rv, iis, hL0, hil⟩ := hLY
  clear L
  by_cases hlow : K < 1
  · have d1 : decide ((1 : Int) ≤ K) = false := decide_eq_false (by omega)
    have d2 : (K == 7) = false := by simp; omega
    have d3 : decide ((4 : Int) ≤ K) = false := decide_eq_false (by omega)
    have d4 : (K == 8) = false := by simp; omega
    have d5 : (K == 14) = false := by simp; omega
    have d6 : decide (K < 1) = true := decide_eq_true hlow
    have HL : Hid (LY PI B0 wb N (w.alloc (opBox K A B C s))) := ⟨xv, rv, iis, hL0, hil⟩
    obtain ⟨bv, qv, lv, tv, mv, dv, ls, ts, ms, ds, its, h1, h2⟩ := hL0
    obtain ⟨xa, xc, rfl⟩ := own_slice h1.more.own
    have c2 := h1.wd.cell 2
    simp only [List.getElem?_toArray, List.getElem?_cons_succ, List.getElem?_cons_zero] at c2
    clear h1 h2
    by_cases hz : iis.length = 0
    · rw [hz] at c2
      go_enter Tryz.func10, Tryz.ntmps10
      go_wp2
      go_ret
      exact ⟨rfl, HL.out.mono (by omega), hW⟩
    · have d9 : ((iis.length : Int) == 0) = false := beq_eq_false_iff_ne.2 (by omega)
      have d10 : (iis.length == 0) = false := beq_eq_false_iff_ne.2 hz
      go_enter Tryz.func10, Tryz.ntmps10
      go_wp2
      go_ret
      exact ⟨rfl, HL.out.mono (by omega), hW⟩
  · have hcs : K = 1 ∨ K = 2 ∨ K = 3 ∨ K = 4 ∨ K = 5 ∨ K = 6 ∨ K = 7 := by omega
    rcases hcs with e | e | e | e | e | e | e
    · subst e
      go_enter Tryz.func10, Tryz.ntmps10
      go_wp2_with fail
      refine (turns2_suffixes B0 wb _ _ _ _ N _ hL0 (by omega) hN A B C s).mono ?_
      rintro e w1 ⟨rfl, hL1, hB1⟩
      have HL : Hid (LY PI B0 wb (N + 4) w1) := ⟨xv, rv, iis, hL1, by omega⟩
      clear hL1 hL0
      go_wp2
      go_ret
      exact ⟨rfl, HL.out, hW.trans hB1⟩
    · subst e
      go_enter Tryz.func10, Tryz.ntmps10
      go_wp2_with fail
      refine (turns2_transform B0 wb _ _ _ _ N _ hL0 (by omega) A B C s).mono ?_
      rintro e w1 ⟨rfl, hL1, hB1⟩
      have HL : Hid (LY PI B0 wb (N + 4) w1) := ⟨xv, rv, iis, hL1.mono (by omega), by omega⟩
      clear hL1 hL0
      go_wp2
      go_ret
      exact ⟨rfl, HL.out, hW.trans hB1⟩
    · subst e
      go_enter Tryz.func10, Tryz.ntmps10
      go_wp2_with fail
      refine (turns2_restore B0 wb _ _ _ _ N _ hL0 (by omega) A B C s).mono ?_
      rintro e w1 ⟨rfl, hL1, hB1⟩
      have HL : Hid (LY PI B0 wb (N + 4) w1) := ⟨xv, rv, iis, hL1.mono (by omega), by omega⟩
      clear hL1 hL0
      go_wp2
      go_ret
      exact ⟨rfl, HL.out, hW.trans hB1⟩
    · subst e
      go_enter Tryz.func10, Tryz.ntmps10
      go_wp2_with fail
      refine (bits_new B0 wb _ _ _ _ N _ hL0 (by omega) hN A B C s hs).mono ?_
      rintro e w1 ⟨rfl, hL1, hB1⟩
      have HL : Hid (LY PI B0 wb (N + 4) w1) := ⟨xv, rv, iis, hL1.mono (by omega), by omega⟩
      clear hL1 hL0
      go_wp2
      go_ret
      exact ⟨rfl, HL.out, hW.trans hB1⟩
    · subst e
      go_enter Tryz.func10, Tryz.ntmps10
      go_wp2_with fail
      refine (bits_rank B0 wb _ _ _ _ N _ hL0 (by omega) hN A B C s hC.1 hC.2).mono ?_
      rintro e w1 ⟨rfl, hL1, hB1⟩
      have HL : Hid (LY PI B0 wb (N + 4) w1) := ⟨xv, rv, iis, hL1.mono (by omega), by omega⟩
      clear hL1 hL0
      go_wp2
      go_ret
      exact ⟨rfl, HL.out, hW.trans hB1⟩
    · subst e
      go_enter Tryz.func10, Tryz.ntmps10
      go_wp2_with fail
      refine (bits_select B0 wb _ _ _ _ N _ hL0 (by omega) hN A B C s hC.1 hC.2 hA.1 hA.2).mono ?_
      rintro e w1 ⟨rfl, hL1, hB1⟩
      have HL : Hid (LY PI B0 wb (N + 4) w1) := ⟨xv, rv, iis, hL1.mono (by omega), by omega⟩
      clear hL1 hL0
      go_wp2
      go_ret
      exact ⟨rfl, HL.out, hW.trans hB1⟩
    · subst e
      go_enter Tryz.func10, Tryz.ntmps10
      go_wp2_with fail
      refine (turns2_codes B0 wb _ _ _ _ N _ hL0 (by omega) hN A B C s).mono ?_
      rintro e w1 ⟨rfl, hL1, hB1⟩
      have HL : Hid (LY PI B0 wb (N + 4) w1) := ⟨xv, rv, iis, hL1, by omega⟩
      clear hL1 hL0
      go_wp2
      go_ret
      exact ⟨rfl, HL.out, hW.trans hB1⟩

/-- a step of a kind up to h -/
def Steps (PI : Lay) (h : Int) : Prop := ∀ (B0 wb N : Nat) (w : World), LY PI B0 wb N w → B0 ≤ w.heap.size → N ≤ 5000000 → ∀ (K A B C : Int) (s : ByteArray), K ≤ h → s.size ≤ 1099511627776 →
  (-9223372036854775808 ≤ C ∧ C ≤ 9223372036854775807) → (-9223372036854775808 ≤ A ∧ A ≤ 9223372036854775807) → (-9223372036854775808 ≤ B ∧ B ≤ 9223372036854775807) →
  Calls Tryz.prog 10 #[.pointer (some ⟨wb, 0, none⟩), .agg #[.int .i64 K, .int .i64 A, .int .i64 B, .int .i64 C, .string s]] w fun e w' => e = .returned (.bool true) ∧ LY PI B0 wb (N + 4) w' ∧ Below B0 w w'
theorem steps3 (PI : Lay) (hI : PI.Ok) (hS : PI.Says) : Steps PI 12 := fun B0 wb N w L hB hN K A B C s hK hs hC hA hB2 => step3_any PI hI hS B0 wb N w L hB hN K A B C s hK hs hC hA hB2

set_option maxRecDepth 100000 in
set_option maxHeartbeats 2000000 in
theorem play3_any (PI : Lay) (h : Int) (hST : Steps PI h) (B0 wb N : Nat) (v : Value) (n : Nat) (w : World) (L : LY PI B0 wb N w) (hB : B0 ≤ w.heap.size) (hS : Script2 w v n) (hlow : ∀ a, v.ownBlock = some a → 0 < n → a < B0) (hN : N + 4 * n ≤ 4900000) :
    Calls Tryz.prog 11 #[.pointer (some ⟨wb, 0, none⟩), v, .int .i64 h] w fun e w' => e = .returned (.bool true) ∧ Below B0 w w' := by
  obtain ⟨va, vc, hv⟩ : ∃ va vc, v = .slice va n vc := by
    rcases hS.of with ⟨rfl, rfl⟩ | ⟨a, cap, rfl, _⟩
    · exact ⟨_, _, rfl⟩
    · exact ⟨_, _, rfl⟩
  subst hv
  go_enter Tryz.func11, Tryz.ntmps11
  go_wp2
  go_loopw [7, 8, 9] (fun i _ _ wr => ∃ p : Nat, p ≤ n ∧ i = .int .i64 p ∧ Hid (LY PI B0 wb (N + 4 * p) wr) ∧ Below B0 w wr) (fun i _ _ _ => n - (intOf i).toNat)
  case atStart => exact ⟨0, by omega, rfl, L, Below.refl _ _⟩
  case round =>
    clear L
    obtain ⟨p, hp, rfl, L, hb⟩ := hrel
    have hz := hb.size
    by_cases hlt : p < n
    · obtain ⟨a, rfl, hab, K, A, B, C, s, k0, k1, k2, k3, k4, hss, hCC, hAA, hBB⟩ : ∃ a, va = some a ∧ a.block < B0 ∧ ∃ (K A B C : Int) (s : ByteArray), w.cell? (a.add (p * 5)) = some (.int .i64 K) ∧ w.cell? ((a.add (p * 5)).add 1) = some (.int .i64 A) ∧ w.cell? ((a.add (p * 5)).add 2) = some (.int .i64 B) ∧ w.cell? ((a.add (p * 5)).add 3) = some (.int .i64 C) ∧ w.cell? ((a.add (p * 5)).add 4) = some (.string s) ∧
          s.size ≤ 1099511627776 ∧ (-9223372036854775808 ≤ C ∧ C ≤ 9223372036854775807) ∧ (-9223372036854775808 ≤ A ∧ A ≤ 9223372036854775807) ∧ (-9223372036854775808 ≤ B ∧ B ≤ 9223372036854775807) := by
        rcases hS.of with ⟨_, h0⟩ | ⟨a, cap, e1, _, h1⟩
        · omega
        · injection e1 with e1
          subst e1
          exact ⟨a, rfl, hlow a.block rfl (by omega), h1 p hlt⟩
      have c0 := (hb.cell (p := a.add (p * 5)) (by rw [addBlock]; exact hab)).trans k0
      have c1 := (hb.cell (p := (a.add (p * 5)).add 1) (by rw [addBlock, addBlock]; exact hab)).trans k1
      have c2 := (hb.cell (p := (a.add (p * 5)).add 2) (by rw [addBlock, addBlock]; exact hab)).trans k2
      have c3 := (hb.cell (p := (a.add (p * 5)).add 3) (by rw [addBlock, addBlock]; exact hab)).trans k3
      have c4 := (hb.cell (p := (a.add (p * 5)).add 4) (by rw [addBlock, addBlock]; exact hab)).trans k4
      have HSS : Hid (s.size ≤ 1099511627776) := hss
      have HCC : Hid (-9223372036854775808 ≤ C ∧ C ≤ 9223372036854775807) := hCC
      have HAA : Hid (-9223372036854775808 ≤ A ∧ A ≤ 9223372036854775807) := hAA
      have HBB : Hid (-9223372036854775808 ≤ B ∧ B ≤ 9223372036854775807) := hBB
      clear k0 k1 k2 k3 k4 hss hCC hAA hBB
      rw [addPos _ (by decide)] at c1 c2 c3 c4
      by_cases hK : h < K
      · have dk : decide (h < K) = true := decide_eq_true hK
        go_wp2
        exact ⟨⟨p + 1, by omega, by go_num, L.out.mono (by omega), hb⟩, by simp [intOf]; omega⟩
      · have dk : decide (h < K) = false := decide_eq_false hK
        have hK3 : K ≤ h := by omega
        go_wp2_with fail
        refine (hST B0 wb (N + 4 * p) wr L.out (by omega) (by omega) K A B C s hK3 HSS.out HCC.out HAA.out HBB.out).mono ?_
        rintro e w1 ⟨rfl, L1, hb1⟩
        have hz1 := hb1.size
        clear c0 c1 c2 c3 c4
        go_wp2_with fail
        obtain ⟨xv, rv, iis, ⟨bv, qv, lv, tv, mv, dv, ls, ts, ms, ds, its, h1, h2, h3, h4⟩, h5⟩ := L1
        refine (kept2_any B0 wb bv qv _ rv lv tv mv dv ls ts ms ds w1 h1.wd h1.lists h1.texts (by omega) (by omega)).mono ?_
        rintro e w2 ⟨rfl, hst⟩
        have L2 : Hid (LY PI B0 wb (N + 4 * p + 4) w2) := LY.below ⟨xv, rv, iis, ⟨bv, qv, lv, tv, mv, dv, ls, ts, ms, ds, its, h1, h2, h3, h4⟩, h5⟩ (still_below hst _ (Nat.le_refl _))
        have hb2 : Below B0 w w2 := (hb.trans hb1).trans (still_below hst _ (by omega))
        clear h1 h2 h3 h4 h5 hst
        go_wp2
        exact ⟨⟨p + 1, by omega, by go_num, L2.out.mono (by omega), hb2⟩, by simp [intOf]; omega⟩
    · have hp' : p = n := by omega
      subst hp'
      go_wp2
      go_ret
      exact ⟨rfl, hb⟩

end Go.Proofs.YtopihgmemnokkaaGreat

namespace Go.Proofs.YtopihgmemnokkaaGreat
open Go.RowKit

set_option maxRecDepth 100000 in
set_option maxHeartbeats 2000000 in
theorem plays_any (PI : Lay) (hI : PI.Ok) (hS : PI.Says) (h : Int) (hST : Steps PI h) (t : ByteArray) (rate : Int) (v : Value) (n : Nat) (w : World) (hSc : Script2 w v n) (hlow : ∀ a, v.ownBlock = some a → 0 < n → a < w.heap.size) (hn : n ≤ 1048576)
    (ht : t.size ≤ 1099511627776) (hr1 : -9223372036854775808 ≤ rate) (hr2 : rate ≤ 9223372036854775807) :
    Calls Tryz.prog 12 #[.string t, .int .i64 rate, v, .int .i64 h] w fun e w' => e = .returned (.bool true) ∧ Below w.heap.size w w' := by
  have L0 : Hid (LY PI w.heap.size w.heap.size 0 (w.alloc (.cells #[nilW, nilW, nilW, nilW, nilW, nilW, nilW, nilW] 33))) := ly_new hI w
  have hb0 : Below w.heap.size w (w.alloc (.cells #[nilW, nilW, nilW, nilW, nilW, nilW, nilW, nilW] 33)) := (Below.refl _ _).alloc (Nat.le_refl _) _
  go_enter Tryz.func12, Tryz.ntmps12
  go_wp2_with fail
  refine (builds_any PI hI hS w.heap.size w.heap.size 0 _ L0.out (by simp) (by omega) t rate ht hr1 hr2).mono ?_
  rintro e w1 ⟨rfl, L1, hb1⟩
  have hb2 := hb0.trans hb1
  have hz := hb2.size
  have HL1 : Hid (LY PI w.heap.size w.heap.size (0 + 1) w1) := L1
  clear L1
  go_wp2_with fail
  refine (play3_any PI h hST w.heap.size w.heap.size (0 + 1) v n w1 HL1.out hz (hSc.below hb2 hlow) hlow (by omega)).mono ?_
  rintro e w2 ⟨rfl, hb3⟩
  go_wp2
  go_ret
  exact ⟨rfl, hb2.trans hb3⟩

end Go.Proofs.YtopihgmemnokkaaGreat

namespace Go.Proofs.YtopihgmemnokkaaGreat
open Go.RowKit

/-- what split asks of memory -/
structure SplitAt (base d : Nat) (w : World) (tb o fb r : Nat) (G : Nat → Nat × Nat) (v : Value) (W : List Bool) (Z : List (List Bool)) (F : Nat → Prop) : Prop where
  map : w.cell? ⟨tb, o + 513, none⟩ = some (.map (some r))
  ne1 : tb ≠ fb
  ne2 : r ≠ fb
  ne3 : ¬ F fb
  byt : Byt w r G 256
  cod : Cod G
  tree : BTree base d w v Z F
  ways : ∀ y ∈ Z, ∃ c, c < 256 ∧ 0 < (G c).1 ∧ bl (G c) = W ++ y
  deep : d + W.length = 64
  most : Z.length ≤ 1000000
  live : [] ∉ Z
theorem SplitAt.keep {base d : Nat} {w w' : World} {tb o fb r : Nat} {G : Nat → Nat × Nat} {v : Value} {W : List Bool} {Z : List (List Bool)} {F : Nat → Prop} (h : SplitAt base d w tb o fb r G v W Z F) (hk : Kept (fun k => k = fb) w w') : SplitAt base d w' tb o fb r G v W Z F :=
  ⟨cell_keep hk h.map h.ne1, h.ne1, h.ne2, h.ne3, h.byt.keep hk h.ne2, h.cod, h.tree.keep hk (fun _ hF e => h.ne3 (e ▸ hF)), h.ways, h.deep, h.most, h.live⟩

theorem empty_sel {Z : List (List Bool)} {rs : List (Nat × Nat)} (hu : Wv.Upto Z.length rs) (h : Z = [] ∨ rs = []) : Wv.flat rs = [] := by
  rcases h with rfl | rfl
  · apply List.eq_nil_iff_forall_not_mem.2
    intro i hi
    have := hu.lt i hi
    simp at this
  · rfl
theorem BTree.none_nil {base d : Nat} {w : World} {Z : List (List Bool)} {F : Nat → Prop} (h : BTree base d w (.pointer none) Z F) (hl : [] ∉ Z) : Z = [] := by
  have hall : ∀ x ∈ Z, x = [] := by
    cases d with
    | zero => exact h.2.1
    | succ d =>
      rcases h with h | ⟨b, wv, av, v0, v1, F0, F1, h1, _⟩
      · exact h.2.1
      · cases h1
  apply List.eq_nil_iff_forall_not_mem.2
  intro x hx
  have := hall x hx
  subst this; exact hl hx

theorem run_index_two (v0 v1 : Value) (d : Bool) (w : World) : (Instr.index 221 (.agg #[v0, v1]) (.int .i64 ((d.toNat : Nat) : Int))).run Tryz.prog w = .ok (if d then v1 else v0) w := by
  cases d <;> simp [Instr.index, run_underlying Tryz.underlying221, asIntOf, part, Tryz.isAgg117, Tryz.sizeOf117]

/-- what split leaves -/
def SplitPost (w : World) (fb : Nat) (G : Nat → Nat × Nat) (W : List Bool) (Z : List (List Bool)) (L : List Nat) (rf : Nat → List (Nat × Nat)) (e : Ending) (w' : World) : Prop :=
  e = .returned (.tuple #[]) ∧ ∃ (vf' : Nat → Value) (rf' : Nat → List (Nat × Nat)), FoundAt w' fb vf' rf' ∧ Kept (fun k => k = fb) w w' ∧ Told G W Z L rf rf'

set_option maxRecDepth 100000 in
set_option maxHeartbeats 2000000 in
theorem split_none (tb o fb : Nat) (v : Value) (W : List Bool) (rv : Value) (rs : List (Nat × Nat)) (w : World) (hr : RgAt w rv rs) (h : v = .pointer none ∨ (∃ b, v = .pointer (some ⟨b, 0, none⟩)) ∧ rs = []) :
    Calls Tryz.prog 168 #[.pointer (some ⟨tb, o, none⟩), v, runV (wayR W).1 (wayR W).2, .pointer (some ⟨fb, 0, none⟩), rv] w fun e w' => e = .returned (.tuple #[]) ∧ Below w.heap.size w w' := by
  unfold runV
  rcases h with rfl | ⟨⟨b, rfl⟩, rfl⟩
  · go_enter Tryz.func168, Tryz.ntmps168
    go_wp2
    (try simp only [Exit.inBlock, Exit.then])
    refine bodyPost_ret (results_none rfl _ _ _) rfl ?_
    exact ⟨rfl, (Below.refl _ _).alloc (Nat.le_refl _) _⟩
  · obtain ⟨a, c, rfl⟩ := hr.len
    go_enter Tryz.func168, Tryz.ntmps168
    go_wp2
    (try simp only [Exit.inBlock, Exit.then])
    refine bodyPost_ret (results_none rfl _ _ _) rfl ?_
    exact ⟨rfl, (Below.refl _ _).alloc (Nat.le_refl _) _⟩

theorem split_quiet {w w' : World} {fb : Nat} {G : Nat → Nat × Nat} {W : List Bool} {Z : List (List Bool)} {rs : List (Nat × Nat)} {vf : Nat → Value} {rf : Nat → List (Nat × Nat)} (hf : FoundAt w fb vf rf) (h0 : ∀ c, c < 256 → 0 < (G c).1 → ∀ y, y ≠ [] → bl (G c) = W ++ y → rf c = [])
    (hb : Below w.heap.size w w') (he : Wv.flat rs = []) : SplitPost w fb G W Z (Wv.flat rs) rf (.returned (.tuple #[])) w' := by
  refine ⟨rfl, vf, rf, hf.below hb, Kept.of_below hb (Nat.le_refl _) _, fun c hc hp y hy hw => ?_, fun _ _ _ => rfl⟩
  rw [h0 c hc hp y hy hw, he]
  exact ⟨fun r hr => by simp at hr, rfl⟩

set_option maxRecDepth 100000 in
set_option maxHeartbeats 4000000 in
theorem split_any (base tb o fb r : Nat) (G : Nat → Nat × Nat) : ∀ (d : Nat) (w : World) (v : Value) (W : List Bool) (Z : List (List Bool)) (F : Nat → Prop) (rv : Value) (rs : List (Nat × Nat)) (vf : Nat → Value) (rf : Nat → List (Nat × Nat)), SplitAt base d w tb o fb r G v W Z F →
    RgAt w rv rs → rv.ownBlock ≠ some fb → Wv.Upto Z.length rs → rs.length ≤ 1000000 → FoundAt w fb vf rf → (∀ c, c < 256 → 0 < (G c).1 → ∀ y, y ≠ [] → bl (G c) = W ++ y → rf c = []) →
    Calls Tryz.prog 168 #[.pointer (some ⟨tb, o, none⟩), v, runV (wayR W).1 (wayR W).2, .pointer (some ⟨fb, 0, none⟩), rv] w (SplitPost w fb G W Z (Wv.flat rs) rf)
  | 0, w, v, W, Z, F, rv, rs, vf, rf, h, hr, hrn, hu, hl, hf, h0 => by
    have hv := h.tree.1
    subst hv
    refine (split_none tb o fb _ W rv rs w hr (.inl rfl)).mono ?_
    rintro e w' ⟨rfl, hb⟩
    exact split_quiet hf h0 hb (empty_sel hu (.inl (h.tree.none_nil h.live)))
  | d + 1, w, v, W, Z, F, rv, rs, vf, rf, h, hr, hrn, hu, hl, hf, h0 => by
    have IH := split_any base tb o fb r G d
    rcases h.tree with ht | ⟨b, wv, av, v0, v1, F0, F1, rfl, hne, hL, t0, t1, d1, d2, hF⟩
    · have hv := ht.1
      subst hv
      refine (split_none tb o fb _ W rv rs w hr (.inl rfl)).mono ?_
      rintro e w' ⟨rfl, hb⟩
      exact split_quiet hf h0 hb (empty_sel hu (.inl (h.tree.none_nil h.live)))
    by_cases hrs : rs = []
    · subst hrs
      refine (split_none tb o fb _ W rv [] w hr (.inr ⟨⟨b, rfl⟩, rfl⟩)).mono ?_
      rintro e w' ⟨rfl, hb⟩
      exact split_quiet hf h0 hb rfl
    rw [Wv.bits_len h.live] at hL
    have hrl : 0 < rs.length := List.length_pos_iff.2 hrs
    obtain ⟨ra, rc, rfl⟩ := hr.len
    have hW64 : W.length + 1 ≤ 64 := by have := h.deep; omega
    have hnum := numv_lt0 W
    have hbfb : b ≠ fb := fun e => h.ne3 (e ▸ (hF b).2 (.inl (.inl rfl)))
    have hbP : ∀ k, bitP b wv av k → k ≠ fb := fun k hk e => h.ne3 (e ▸ (hF k).2 (.inl hk))
    have hm := h.map
    have hblt : b < w.heap.size := hL.four.lt
    have hfbl : fb < w.heap.size := (Array.getElem?_eq_some_iff.1 hf.1).1
    have htbl : tb < w.heap.size := World.block_lt_of_cell? _ _ hm
    have s0 : w.cell? ⟨b, 4, none⟩ = some v0 := by have := hL.four.cell 4; exact this
    have s1 : w.cell? ⟨b, 5, none⟩ = some v1 := by have := hL.four.cell 5; exact this
    have hix := run_index_two v0 v1
    have HSA : Hid (SplitAt base (d + 1) w tb o fb r G (.pointer (some ⟨b, 0, none⟩)) W Z F) := h
    have HSub : Hid (∀ (x : Bool) (w' : World), Kept (fun k => k = fb) w w' → (∀ c, c < 256 → 0 < (G c).1 → bl (G c) ≠ W ++ [x]) → SplitAt base d w' tb o fb r G (if x then v1 else v0) (W ++ [x]) (Wv.child x Z) (if x then F1 else F0)) := by
      intro x w' hk hno
      have h' := h.keep hk
      have hwy : ∀ y ∈ Wv.child x Z, ∃ c, c < 256 ∧ 0 < (G c).1 ∧ bl (G c) = (W ++ [x]) ++ y := fun y hy => by
        obtain ⟨c, hc, hp, he⟩ := h.ways _ (Wv.child_mem.1 hy)
        exact ⟨c, hc, hp, by rw [he]; simp⟩
      have hlive : [] ∉ Wv.child x Z := fun hm => by
        obtain ⟨c, hc, hp, he⟩ := hwy _ hm
        exact hno c hc hp (by rw [he]; simp)
      have hdeep : d + (W ++ [x]).length = 64 := by have := h.deep; simp; omega
      have hmost : (Wv.child x Z).length ≤ 1000000 := Nat.le_trans (child_le x Z) h.most
      cases x with
      | false => exact ⟨h'.map, h.ne1, h.ne2, fun e => h.ne3 ((hF fb).2 (.inr (.inl e))), h'.byt, h.cod, t0.keep hk (fun k hp e => h.ne3 (e ▸ (hF k).2 (.inr (.inl hp)))), hwy, hdeep, hmost, hlive⟩
      | true => exact ⟨h'.map, h.ne1, h.ne2, fun e => h.ne3 ((hF fb).2 (.inr (.inr e))), h'.byt, h.cod, t1.keep hk (fun k hp e => h.ne3 (e ▸ (hF k).2 (.inr (.inr hp)))), hwy, hdeep, hmost, hlive⟩
    have HIH : Hid _ := IH
    have HL : Hid (BitL base w b [] [v0, v1] 223 wv av (Wv.bitAt Z) Z.length) := hL
    have HR : Hid (RgAt w (.slice ra rs.length rc) rs) := hr
    have HU : Hid (Wv.Upto Z.length rs) := hu
    have HFD : Hid (FoundAt w fb vf rf) := hf
    have H0 : Hid _ := h0
    have HBP : Hid _ := hbP
    have hZm := h.most
    have hne0 : ((rs.length : Int) == 0) = false := by simp; omega
    clear h hL hr hu hf h0 hbP IH t0 t1 d1 d2 hF hne hrs
    have hwr1 : (wayR W).1 = W.length := rfl
    have hwr2 : (wayR W).2 = numv 0 W := rfl
    have HSN := wayR_snoc W
    rw [hwr1, hwr2]
    simp only [hwr1, hwr2] at HSN
    generalize numv 0 W = x at *
    clear hwr1 hwr2
    unfold runV
    go_enter Tryz.func168, Tryz.ntmps168
    go_wp2
    have hal : Below w.heap.size w (w.alloc (.cells #[.int .i64 (W.length : Nat), .int .u64 (x : Nat)] 114)) := (Below.refl _ _).alloc (Nat.le_refl _) _
    go_loopw [10, 11, 12, 13, 14, 15, 16, 28] (fun _ _ _ _ _ _ _ i wr => ∃ (k : Nat) (vf' : Nat → Value) (rf' : Nat → List (Nat × Nat)), k ≤ 2 ∧ i = .int .i64 k ∧ Hid (FoundAt wr fb vf' rf') ∧ Hid (Kept (fun k => k = fb) w wr) ∧ Hid (ToldTo k G W Z (Wv.flat rs) rf rf') ∧
        wr.heap[w.heap.size]? = some (.cells #[.int .i64 (W.length : Nat), .int .u64 (x : Nat)] 114 (0, 0)) ∧ w.heap.size < wr.heap.size) (fun _ _ _ _ _ _ _ i _ => 2 - (intOf i).toNat)
    case atStart => exact ⟨0, vf, rf, by omega, rfl, HFD.out.below hal, Kept.of_below hal (Nat.le_refl _) _, ToldTo.zero _ _ _ _ _, heap_alloc_new _ _, by simp⟩
    case round =>
      clear hal s0 s1
      obtain ⟨k, vf1, rf1, hk, rfl, hF1, hK1, hT1, hbx, hsz⟩ := hrel
      have b1 := cell_of hbx (i := 0) rfl
      have b2 := cell_of hbx (i := 1) rfl
      by_cases hlt : k < 2
      · obtain ⟨y, hy⟩ : ∃ y : Bool, y.toNat = k := by
          have : k = 0 ∨ k = 1 := by omega
          rcases this with rfl | rfl
          · exact ⟨false, rfl⟩
          · exact ⟨true, rfl⟩
        have hixy := hix y
        rw [hy] at hixy
        have HAM := fun (W' : World) (hW : Kept (fun k => k = fb) w W') => among_any base W' b 0 [] [v0, v1] rfl _ wv av (Wv.bitAt Z) Z.length y (.slice ra rs.length rc) rs (HL.out.keep hW HBP.out) (HR.out.keep hW (fun g hg e => hrn (by rw [hg, e]))) HU.out hZm hl
        rw [hy] at HAM
        have hki : (k : Int) < 2 := by omega
        have hk1 : k ≤ 1 := by omega
        have HAM' : Hid _ := HAM
        obtain ⟨q1, q2⟩ := Wv.am_bits (Wv.bitAt Z) y HU.out
        have q3 := Wv.am_len (Wv.rkb (Wv.bitAt Z) y) rs
        rw [← child_all y HSA.out.live] at q1
        have HSEL : Hid (∀ z, Wv.sel z (Wv.child y Z) (Wv.flat (Wv.am (Wv.rkb (Wv.bitAt Z) y) rs)) = Wv.sel (y :: z) Z (Wv.flat rs)) := fun z => by
          rw [q2, Wv.sel_down HSA.out.live _ HU.out.lt]
        have HFU : Hid (Wv.Full (Wv.child y Z).length (Wv.am (Wv.rkb (Wv.bitAt Z) y) rs)) := q1
        have HWY : Hid (wayR (W ++ [y]) = (W.length + 1, 2 * x + k)) := by show _ = _; rw [HSN y, hy]
        have HY : Hid (y.toNat = k) := hy
        generalize hvn : (if y then v1 else v0) = vn at *
        have HVN : Hid ((if y then v1 else v0) = vn) := hvn
        generalize Wv.am (Wv.rkb (Wv.bitAt Z) y) rs = rm at *
        clear hix HAM q1 q2 HSN hvn hy HL HR HU HFD HBP
        go_wp2_with fail
        refine (HAM'.out wr hK1.out).mono ?_
        rintro e w2 ⟨v', rfl, hown, hB2⟩
        obtain ⟨hR2, _⟩ := RgAt.own hown
        have hz2 := hB2.size
        have hbx2 : w2.heap[w.heap.size]? = some (.cells #[.int .i64 (W.length : Nat), .int .u64 (x : Nat)] 114 (0, 0)) := by rw [hB2.block _ hsz]; exact hbx
        have b1 := cell_of hbx2 (i := 0) rfl
        have b2 := cell_of hbx2 (i := 1) rfl
        have hvlt : ∀ g, v'.ownBlock = some g → fb < g := fun g e => by have h1 := (hown.lt g e).1; have h2 := hK1.out.size; omega
        have hvfb : v'.ownBlock ≠ some fb := fun e => by have := hvlt fb e; omega
        have HVLT : Hid _ := hvlt
        clear hvlt
        obtain ⟨va, vc, hve⟩ := hR2.len
        have HF2 : Hid (FoundAt w2 fb vf1 rf1) := hF1.out.below hB2
        have HK2 : Hid (Kept (fun k => k = fb) w w2) := hK1.out.trans' (Kept.of_below hB2 (Nat.le_refl _) (fun _ => False)) (fun _ _ h => h.elim)
        have HR2 : Hid (RgAt w2 v' rm) := hR2
        clear HAM' hown hB2 hF1 hK1 hbx hR2
        go_wp2_with fail
        refine (with_any W.length x k w2 (by omega) hnum hk1).mono ?_
        rintro e w3 ⟨rfl, hB3⟩
        have hz3 := hB3.size
        unfold runV
        have hal4 : Below w2.heap.size w2 (w3.alloc (.cells #[.int .i64 ((W.length : Int) + 1), .int .u64 (2 * (x : Int) + (k : Int))] 114)) := hB3.alloc hz3 _
        have hnb : (w3.alloc (.cells #[.int .i64 ((W.length : Int) + 1), .int .u64 (2 * (x : Int) + (k : Int))] 114)).heap[w3.heap.size]? = some (.cells #[.int .i64 ((W.length : Int) + 1), .int .u64 (2 * (x : Int) + (k : Int))] 114 (0, 0)) := heap_alloc_new _ _
        subst hve
        clear b1 b2
        go_wp2_with fail
        generalize w3.alloc (.cells #[.int .i64 ((W.length : Int) + 1), .int .u64 (2 * (x : Int) + (k : Int))] 114) = w4 at *
        have HF4 : Hid (FoundAt w4 fb vf1 rf1) := HF2.out.below hal4
        have HK4 : Hid (Kept (fun k => k = fb) w w4) := HK2.out.trans' (Kept.of_below hal4 (Nat.le_refl _) (fun _ => False)) (fun _ _ h => h.elim)
        have HR4 : Hid (RgAt w4 (.slice va rm.length vc) rm) := HR2.out.below hal4
        have hbx4 : w4.heap[w.heap.size]? = some (.cells #[.int .i64 (W.length : Nat), .int .u64 (x : Nat)] 114 (0, 0)) := by rw [hal4.block _ (by omega)]; exact hbx2
        have c1 := cell_of hnb (i := 0) rfl
        have c2 := cell_of hnb (i := 1) rfl
        have hm4 := cell_keep HK4.out hm HSA.out.ne1
        have hz4 := hal4.size
        have BYT : ∀ q : Nat, Byt (w4.drewN q) r G 256 := fun q => HSA.out.byt.keep (w' := w4.drewN q) ⟨HK4.out.os, HK4.out.tape, HK4.out.output, HK4.out.size, HK4.out.block⟩ HSA.out.ne2
        have hff := unfrozen HF4.out.1
        clear HF2 HK2 HR2 hbx2 hal4 hB3 hnb
        by_cases hhit : ∃ c0, c0 < 256 ∧ 0 < (G c0).1 ∧ G c0 = (W.length + 1, 2 * x + k)
        · obtain ⟨c0, hc0, hp0, hg0⟩ := hhit
          have hlk : ∀ q : Nat, (Instr.lookup 116 (.map (some r)) (.agg #[.int .i64 ((W.length : Int) + 1), .int .u64 (2 * (x : Int) + (k : Int))]) true).run Tryz.prog (w4.drewN q) = .ok (.tuple #[.int .u8 (c0 : Nat), .bool true]) (w4.drewN q) := fun q => by
            have := (BYT q).hit HSA.out.cod.sized HSA.out.cod.inj hc0 hp0 true
            rw [hg0] at this
            exact this
          have hcf := HF4.out.1
          have hcc := cell_of hcf (rowV_get vf1 hc0)
          have hfc := hff c0
          have hc0i : (c0 : Int) < 256 := by omega
          have HBL : Hid (bl (G c0) = W ++ [y]) := by
            show _ = _
            have := HWY.out
            rw [← hg0] at this
            have hw := HSA.out.cod.way c0
            have e1 : (wayR (W ++ [y])) = wayR (bl (G c0)) := by rw [this, hw]
            have e2 : (W ++ [y]).length = (bl (G c0)).length := congrArg Prod.fst e1
            have e3 : numv 0 (W ++ [y]) = numv 0 (bl (G c0)) := congrArg Prod.snd e1
            have e4 := bl_app (W ++ [y]) 0 0
            have e5 := bl_app (bl (G c0)) 0 0
            rw [e2, e3, e5] at e4
            simpa using e4
          clear BYT hff hcf
          have HALL : Hid (∀ z ∈ Wv.child y Z, z = []) := fun z hz => by
            obtain ⟨c, hc, hp, he⟩ := HSA.out.ways _ (Wv.child_mem.1 hz)
            have : c0 = c := HSA.out.cod.free c0 c hc0 hc hp0 hp (by rw [HBL.out, he]; exact ⟨z, by simp⟩)
            subst this
            rw [HBL.out] at he
            exact (way_cancel he).2.symm
          have HFL : Hid (Wv.flat rm = Wv.sel [y] Z (Wv.flat rs)) := by
            show _ = _
            rw [← HSEL.out [], Wv.sel_end HALL.out HFU.out.upto.lt]
          go_quiet (fail)
          go_wp2
          have kd : Kept (fun _ => False) w4 (w4.drewN nq) := ⟨rfl, rfl, rfl, Nat.le_refl _, fun _ _ _ => rfl⟩
          refine ⟨⟨k + 1, putV vf1 c0 (.slice va rm.length vc), _, by omega, by go_num, (HF4.out.keep kd (fun _ h => h)).put (HR4.out.keep kd (fun _ _ h => h)) HVLT.out, (HK4.out.trans' kd (fun _ _ h => h.elim)).setCell (by rfl) _,
            hT1.out.hit HY.out HSA.out.cod hc0 hp0 HBL.out HFU.out.pos HFL.out, ?_, by simp; omega⟩, by simp [intOf]; omega⟩
          rw [Below.heap_setCell _ _ _ _ (by simp; omega)]
          exact hbx4
        · have HNO : Hid (∀ c, c < 256 → 0 < (G c).1 → bl (G c) ≠ W ++ [y]) := fun c hc hp he => hhit ⟨c, hc, hp, by rw [← HSA.out.cod.way c, he]; exact HWY.out⟩
          have hx64 : 2 * x + k < 18446744073709551616 := by
            have h1 : 2 ^ W.length ≤ 2 ^ 63 := Nat.pow_le_pow_right (by omega) (by omega)
            omega
          have hlk : ∀ q : Nat, (Instr.lookup 116 (.map (some r)) (.agg #[.int .i64 ((W.length : Int) + 1), .int .u64 (2 * (x : Int) + (k : Int))]) true).run Tryz.prog (w4.drewN q) = .ok (.tuple #[.int .u8 0, .bool false]) (w4.drewN q) := fun q => by
            have := (BYT q).miss HSA.out.cod.sized (n := W.length + 1) (b := 2 * x + k) (by omega) hx64 (fun c hc hp he => hhit ⟨c, hc, hp, he⟩) true
            exact this
          clear BYT hff hhit
          go_quiet (fail)
          have kd : Kept (fun _ => False) w4 (w4.drewN nq) := ⟨rfl, rfl, rfl, Nat.le_refl _, fun _ _ _ => rfl⟩
          have HK5 : Hid (Kept (fun k => k = fb) w (w4.drewN nq)) := HK4.out.trans' kd (fun _ _ h => h.elim)
          have hsub := HSub.out y (w4.drewN nq) HK5.out HNO.out
          rw [HVN.out] at hsub
          have hcall := HIH.out (w4.drewN nq) vn (W ++ [y]) (Wv.child y Z) _ (.slice va rm.length vc) rm vf1 rf1 hsub (HR4.out.keep kd (fun _ _ h => h)) hvfb HFU.out.upto (by omega) (HF4.out.keep kd (fun _ h => h)) (fun c hc hp z hz he => by
            have he' : bl (G c) = W ++ y :: z := by rw [he]; simp
            rw [hT1.out.2 c hc (fun b u hb _ hu => by
              rw [he'] at hu
              have := (way_cancel hu).1
              subst this
              have := HY.out
              omega)]
            exact H0.out c hc hp (y :: z) (by simp) he')
          rw [HWY.out] at hcall
          unfold runV at hcall
          have HC : Hid (Calls Tryz.prog 168 #[.pointer (some ⟨tb, o, none⟩), vn, .agg #[.int .i64 ((W.length : Int) + 1), .int .u64 (2 * (x : Int) + (k : Int))], .pointer (some ⟨fb, 0, none⟩), .slice va rm.length vc] (w4.drewN nq) (SplitPost (w4.drewN nq) fb G (W ++ [y]) (Wv.child y Z) (Wv.flat rm) rf1)) := hcall
          have hd4 : (w4.drewN nq).heap.size = w4.heap.size := rfl
          have hbx5 : (w4.drewN nq).heap[w.heap.size]? = some (.cells #[.int .i64 (W.length : Nat), .int .u64 (x : Nat)] 114 (0, 0)) := hbx4
          clear hcall hsub kd hlk hbx4
          go_wp2_with fail
          refine HC.out.mono ?_
          rintro e w5 ⟨rfl, vf2, rf2, hF5, hK5, hT5⟩
          have hfin : w5.heap[w.heap.size]? = some (.cells #[.int .i64 (W.length : Nat), .int .u64 (x : Nat)] 114 (0, 0)) := by
            rw [hK5.block _ (by rw [hd4]; omega) (by omega)]; exact hbx5
          have hz5 := hK5.size
          have HF5 : Hid (FoundAt w5 fb vf2 rf2) := hF5
          have HK6 : Hid (Kept (fun k => k = fb) w w5) := HK5.out.trans hK5
          have HT6 : Hid (ToldTo (k + 1) G W Z (Wv.flat rs) rf rf2) := hT1.out.more HY.out HNO.out hT5 HSEL.out
          clear hF5 hK5 hT5 HC hbx5
          go_wp2
          exact ⟨⟨k + 1, vf2, rf2, by omega, by go_num, HF5, HK6, HT6, hfin, by omega⟩, by simp [intOf]; omega⟩
      · have hk2 : k = 2 := by omega
        subst hk2
        have hA := hT1.out.all
        have HA : Hid _ := hA
        clear hA hT1 hix
        have c2 : ((2 : Nat) : Int) = 2 := rfl
        rw [c2]
        go_wp2
        go_end0
        exact ⟨rfl, vf1, rf1, hF1.out, hK1.out, HA.out⟩

end Go.Proofs.YtopihgmemnokkaaGreat

namespace Go.Proofs.YtopihgmemnokkaaGreat
open Go.RowKit

theorem zeroV256 : (Tryz.prog.info? 216).map (·.zero) = some (some (.agg (rowV fun _ => .slice none 0 0))) := by kernel_rfl
theorem sizeV256 : (Tryz.prog.info? 216).map (·.size) = some 256 := by kernel_rfl
theorem rowV_one {f : Nat → Value} (h : ∀ c, c < 256 → (f c).oneCell' = true) : (rowV f).all (·.oneCell') = true := by
  rw [Array.all_eq_true_iff_forall_mem]
  intro x hx
  unfold rowV at hx
  simp at hx
  obtain ⟨a, ha, rfl⟩ := hx
  exact h a ha
theorem RgAt.one {w : World} {v : Value} {rs : List (Nat × Nat)} (h : RgAt w v rs) : v.oneCell' = true := by
  obtain ⟨a, c, rfl⟩ := h.len
  rfl

set_option maxRecDepth 100000 in
set_option maxHeartbeats 2000000 in
theorem Split_any (base : Nat) (w : World) (tb o : Nat) (G : Nat → Nat × Nat) (X : List (List Bool)) (r : Nat) (root : Value) (F : Nat → Prop) (h : Tre base w tb o G X r root F) (v : Value) (rs : List (Nat × Nat)) (hr : RgAt w v rs) (hu : Wv.Upto X.length rs) (hl : rs.length ≤ 1000000) :
    Calls Tryz.prog 145 #[.pointer (some ⟨tb, o, none⟩), v] w fun e w' => (∃ (vf : Nat → Value) (rf : Nat → List (Nat × Nat)), e = .returned (.agg (rowV vf)) ∧ ∀ c, c < 256 → RgAt w' (vf c) (rf c) ∧ Wv.Pos (rf c) ∧ Wv.flat (rf c) = (if 0 < (G c).1 then Wv.sel (bl (G c)) X (Wv.flat rs) else [])) ∧ Below w.heap.size w w' := by
  have m1 := h.rootc
  have htb : tb < w.heap.size := World.block_lt_of_cell? _ _ m1
  have hlt := h.tree.lt
  obtain ⟨a, cp, rfl⟩ := hr.len
  have hb2 : Below w.heap.size w ((w.alloc (.cells (rowV fun _ => .slice none 0 0) 216)).alloc (.cells (rowV fun _ => .slice none 0 0) 216)) := ((Below.refl _ _).alloc (Nat.le_refl _) _).alloc (by simp) _
  have hf1 : ((w.alloc (.cells (rowV fun _ => .slice none 0 0) 216)).alloc (.cells (rowV fun _ => .slice none 0 0) 216)).heap[w.heap.size + 1]? = some (.cells (rowV fun _ => .slice none 0 0) 216 (0, 0)) := heap_alloc_new' _ _ (by simp)
  have hf0 : ((w.alloc (.cells (rowV fun _ => .slice none 0 0) 216)).alloc (.cells (rowV fun _ => .slice none 0 0) 216)).heap[w.heap.size]? = some (.cells (rowV fun _ => .slice none 0 0) 216 (0, 0)) := by
    rw [Below.heap_alloc _ _ _ (by simp)]; exact heap_alloc_new _ _
  have hz2 : ((w.alloc (.cells (rowV fun _ => .slice none 0 0) 216)).alloc (.cells (rowV fun _ => .slice none 0 0) 216)).heap.size = w.heap.size + 2 := by simp
  have hrn : (Value.slice a rs.length cp).ownBlock ≠ some (w.heap.size + 1) := fun e => by
    rcases hr with ⟨h1, _⟩ | ⟨g, cap, h1, h2, _⟩
    · rw [h1] at e; cases e
    · rw [h1] at e
      have : g = w.heap.size + 1 := by simpa [Value.ownBlock] using e
      omega
  have m2 := cell_keep (Kept.of_below hb2 (Nat.le_refl _) (fun _ => False)) m1 (fun h => h)
  have hr2 := hr.below hb2
  have h2 := h.below hb2
  have hbl : ∀ c, 0 < (G c).1 → bl (G c) ≠ [] := fun c hp e => by
    have := congrArg List.length e
    rw [bl_len] at this
    simp at this
    omega
  have HBLN : Hid _ := hbl
  generalize hw2 : ((w.alloc (.cells (rowV fun _ => .slice none 0 0) 216)).alloc (.cells (rowV fun _ => .slice none 0 0) 216)) = w2 at *
  have HSA : SplitAt base 64 w2 tb o (w.heap.size + 1) r G root [] X F :=
    ⟨h2.map, by omega, by have := h.byt.lt; omega, fun e => by have := (hlt _ e).2; omega, h2.byt, h.cod, h2.tree, fun x hx => by
      obtain ⟨c, hc, hp, he⟩ := h.ways x hx
      exact ⟨c, hc, hp, by rw [he]; rfl⟩, rfl, h.most, fun hx => by
      obtain ⟨c, hc, hp, he⟩ := h.ways _ hx
      exact hbl c hp he.symm⟩
  have HFD : FoundAt w2 (w.heap.size + 1) (fun _ => .slice none 0 0) (fun _ => []) := ⟨hf1, fun c _ => ⟨.inl ⟨rfl, rfl⟩, fun g hg => by cases hg⟩⟩
  have hcall := split_any base tb o (w.heap.size + 1) r G 64 w2 root [] X F (.slice a rs.length cp) rs _ _ HSA hr2 hrn hu hl HFD (fun _ _ _ _ _ _ => rfl)
  have HC : Hid (Calls Tryz.prog 168 #[.pointer (some ⟨tb, o, none⟩), root, .agg #[.int .i64 0, .int .u64 0], .pointer (some ⟨w.heap.size + 1, 0, none⟩), .slice a rs.length cp] w2 (SplitPost w2 (w.heap.size + 1) G [] X (Wv.flat rs) (fun _ => []))) := hcall
  have HB2 : Hid (Below w.heap.size w w2) := hb2
  have HF0 : Hid (w2.heap[w.heap.size]? = some (.cells (rowV fun _ => .slice none 0 0) 216 (0, 0))) := hf0
  have HW2 : Hid (((w.alloc (.cells (rowV fun _ => .slice none 0 0) 216)).alloc (.cells (rowV fun _ => .slice none 0 0) 216)) = w2) := hw2
  clear hcall HFD HSA h2 hr2 m2 hf1 hf0 hb2 hw2 hlt hbl hrn h
  go_enter Tryz.func145, Tryz.ntmps145
  go_wp2_with (first
    | (refine wpList_alloc_row rfl 216 rfl _ zeroV256 ?_)
    | fail)
  rw [HW2.out]
  refine HC.out.mono ?_
  rintro e w3 ⟨rfl, vf, rf, hF, hK, hT⟩
  have hz3 := hK.size
  have h03 : w3.heap[w.heap.size]? = some (.cells (rowV fun _ => .slice none 0 0) 216 (0, 0)) := by rw [hK.block _ (by omega) (by omega)]; exact HF0.out
  have hF1 := hF.1
  have hone := rowV_one (f := vf) (fun c hc => (hF.2 c hc).1.one)
  go_wp2_with (first
    | (refine wpList_load_row rfl 216 _ rfl (w.heap.size + 1) rfl 216 (rowV vf) (0, 0) _ (by exact hF1) Tryz.underlying216 rfl (by rw [size_rowV]; exact sizeV256) ?_)
    | (refine wpList_store_row rfl 216 _ _ rfl w.heap.size (rowV vf) rfl rfl 216 (rowV fun _ => .slice none 0 0) (by exact h03) (by rw [size_rowV]; exact sizeV256) (by rw [size_rowV, size_rowV]) hone ?_))
  refine bodyPost_ret (results_cell_row Tryz.results145 _ _ w.heap.size 216 (rowV vf) (0, 0) _ rfl (setRow_heap _ _ _ _ _ _ h03) Tryz.underlying216 rfl (by rw [size_rowV]; exact sizeV256)) rfl ?_
  refine ⟨⟨vf, rf, rfl, fun c hc => ?_⟩, ?_⟩
  · have hks : Kept (fun k => k = w.heap.size) w3 (w3.setRow w.heap.size (rowV vf)) := ⟨rfl, rfl, rfl, by simp, fun k _ hn => Go.setRow_other w3 w.heap.size k _ hn⟩
    refine ⟨(hF.2 c hc).1.keep hks (fun g hg e => by have := (hF.2 c hc).2 g hg; omega), ?_⟩
    by_cases hp : 0 < (G c).1
    · rw [if_pos hp]
      exact hT.1 c hc hp (bl (G c)) (HBLN.out c hp) rfl
    · rw [if_neg hp, hT.2 c hc (fun y _ h _ => hp h)]
      exact ⟨fun r hr => by simp at hr, rfl⟩
  · exact below_setRow (hK.bel HB2.out (Nat.le_refl _) (fun k hk => by omega)) (Nat.le_refl _) _

end Go.Proofs.YtopihgmemnokkaaGreat

namespace Go.Proofs.YtopihgmemnokkaaGreat
open Go.RowKit

/-- rows of a turned text in memory -/
structure Rws (base : Nat) (w : World) (rb o : Nat) (G : Nat → Nat × Nat) (r : Nat) (root : Value) (F : Nat → Prop) (n : Nat) (b : Nat → Nat) (fw : Nat) : Prop where
  tre : Tre base w rb o G (Wv.waysOf (fun c => bl (G c)) b n) r root F
  starts : ∀ c, c < 256 → w.cell? ⟨rb, o + 515 + c, none⟩ = some (.int .i64 (Wv.st n b c : Nat))
  whole : w.cell? ⟨rb, o + 771, none⟩ = some (.int .i64 (fw : Nat))
  byte : ∀ i, i < n → b i < 256
  live : ∀ i, i < n → 0 < (G (b i)).1
  fwle : fw ≤ n
  nle : n ≤ 1000

section
variable {base : Nat} {w : World} {rb o : Nat} {G : Nat → Nat × Nat} {r : Nat} {root : Value} {F : Nat → Prop} {n : Nat} {b : Nat → Nat} {fw : Nat}

theorem Rws.below {w' : World} (h : Rws base w rb o G r root F n b fw) (hb : Below w.heap.size w w') : Rws base w' rb o G r root F n b fw := by
  have hk := Kept.of_below hb (Nat.le_refl _) (fun _ => False)
  exact ⟨h.tre.below hb, fun c hc => cell_keep hk (h.starts c hc) (fun h => h), cell_keep hk h.whole (fun h => h), h.byte, h.live, h.fwle, h.nle⟩
theorem Rws.lt (h : Rws base w rb o G r root F n b fw) : rb < w.heap.size := World.block_lt_of_cell? _ _ h.whole
theorem Rws.inj (h : Rws base w rb o G r root F n b fw) {c : Nat} (hc : c < 256) : ∀ j, j < n → bl (G (b j)) = bl (G c) → b j = c := fun j hj he => by
  have hp := h.live j hj
  have hl : (G (b j)).1 = (G c).1 := by have := congrArg List.length he; rwa [bl_len, bl_len] at this
  exact h.tre.cod.free (b j) c (h.byte j hj) hc hp (by omega) (by rw [he]; exact List.prefix_rfl)
theorem Rws.dead (h : Rws base w rb o G r root F n b fw) {c : Nat} (h0 : ¬ 0 < (G c).1) : ∀ j, j < n → b j ≠ c := fun j hj e => h0 (e ▸ h.live j hj)
theorem Rws.sel (h : Rws base w rb o G r root F n b fw) {c : Nat} (hc : c < 256) {L : List Nat} (hL : ∀ i ∈ L, i < n) :
    (if 0 < (G c).1 then Wv.sel (bl (G c)) (Wv.waysOf (fun c => bl (G c)) b n) L else []) = (L.filter fun i => decide (b i = c)).map fun i => Cc.cn i fun j => decide (b j = c) := by
  by_cases hp : 0 < (G c).1
  · rw [if_pos hp]
    exact Wv.sel_ways (k := fun c => bl (G c)) (h.inj hc) hL
  · rw [if_neg hp]
    have : (L.filter fun i => decide (b i = c)) = [] := by
      rw [List.filter_eq_nil_iff]
      intro i hi
      simpa using h.dead hp i (hL i hi)
    rw [this]; rfl

set_option maxHeartbeats 1000000 in
theorem place_any (h : Rws base w rb o G r root F n b fw) (row : Nat) (hr : row ≤ 1000000) :
    Calls Tryz.prog 111 #[.pointer (some ⟨rb, o, none⟩), .int .i64 (row : Nat)] w fun e w' => e = .returned (.int .i64 (Cc.ks fw row : Nat)) ∧ w' = w := by
  have c1 := h.whole
  by_cases hlt : fw < row
  · have hd : (fw : Int) < (row : Int) := by omega
    go_enter Tryz.func111, Tryz.ntmps111
    go_wp2
    go_ret
    exact ⟨ret_int (by unfold Cc.ks; rw [if_pos hlt]; omega), rfl⟩
  · have hd : ¬ (fw : Int) < (row : Int) := by omega
    go_enter Tryz.func111, Tryz.ntmps111
    go_wp2
    go_ret
    exact ⟨ret_int (by unfold Cc.ks; rw [if_neg hlt]), rfl⟩
set_option maxHeartbeats 1000000 in
theorem rlen_any (h : Rws base w rb o G r root F n b fw) :
    Calls Tryz.prog 70 #[.pointer (some ⟨rb, o, none⟩)] w fun e w' => e = .returned (.int .i64 (n : Nat)) ∧ w' = w := by
  have c1 := h.tre.size
  rw [Wv.waysOf_len] at c1
  go_enter Tryz.func70, Tryz.ntmps70
  go_wp2
  go_ret
  exact ⟨rfl, rfl⟩
theorem rangeSize : (Tryz.prog.info? 167).map (·.size) = some 2 := by kernel_rfl
set_option maxHeartbeats 1000000 in
theorem all_any (h : Rws base w rb o G r root F n b fw) :
    Calls Tryz.prog 142 #[.pointer (some ⟨rb, o, none⟩)] w fun e w' => e = .returned (.agg #[.int .i64 0, .int .i64 ((n : Int) + 1)]) ∧ Below w.heap.size w w' := by
  have hn := h.nle
  have hb1 : Below w.heap.size w (w.alloc (.cells #[.int .i64 0, .int .i64 0] 167)) := (Below.refl _ _).alloc (Nat.le_refl _) _
  have hc := rlen_any (h.below hb1)
  have hB : Below w.heap.size w (w.alloc (.cells #[.int .i64 0, .int .i64 ((n : Int) + 1)] 167)) := (Below.refl _ _).alloc (Nat.le_refl _) _
  have hnew : (w.alloc (.cells #[.int .i64 0, .int .i64 ((n : Int) + 1)] 167)).heap[w.heap.size]? = some (.cells #[.int .i64 0, .int .i64 ((n : Int) + 1)] 167 (0, 0)) := heap_alloc_new _ _
  clear hb1
  go_enter Tryz.func142, Tryz.ntmps142
  go_wp2_with fail
  refine hc.mono ?_
  rintro e w' ⟨rfl, rfl⟩
  go_wp2
  refine bodyPost_ret (results_cell_row Tryz.results142 _ _ w.heap.size 167 _ (0, 0) _ rfl hnew Tryz.underlying167 rfl rangeSize) rfl ⟨rfl, hB⟩

end

end Go.Proofs.YtopihgmemnokkaaGreat

namespace Go.Proofs.YtopihgmemnokkaaGreat
open Go.RowKit

section
variable {base : Nat} {w : World} {rb o : Nat} {G : Nat → Nat × Nat} {r : Nat} {root : Value} {F : Nat → Prop} {n : Nat} {b : Nat → Nat} {fw : Nat}

set_option maxRecDepth 100000 in
set_option maxHeartbeats 1000000 in
theorem ahead_any (h : Rws base w rb o G r root F n b fw) (row : Nat) (hr : row ≤ n) (hne : row ≠ fw) :
    Calls Tryz.prog 72 #[.pointer (some ⟨rb, o, none⟩), .int .i64 (row : Nat)] w fun e w' => e = .returned (.tuple #[.int .u8 (b (Cc.ks fw row) : Nat), .int .i64 (Cc.lead n b (Cc.ks fw row) : Nat)]) ∧ Below w.heap.size w w' := by
  have hk : Cc.ks fw row < n := Cc.ks_lt hr hne h.fwle
  have hc := h.byte _ hk
  have hp := h.live _ hk
  have hn := h.nle
  have hX := Wv.waysOf_get (fun c => bl (G c)) b hk
  have hcnt : ((Wv.waysOf (fun c => bl (G c)) b n).take (Cc.ks fw row)).count (bl (G (b (Cc.ks fw row)))) = Cc.cn (Cc.ks fw row) fun j => decide (b j = b (Cc.ks fw row)) := by
    rw [Wv.waysOf_take _ _ (Nat.le_of_lt hk)]
    exact Wv.ways_count (k := fun c => bl (G c)) fun j hj => h.inj hc j (by omega)
  have hat := fun W (hW : Below w.heap.size w W) => at_any base W rb o G _ r root F (h.tre.below hW) (Cc.ks fw row) _ hc hp hX
  rw [hcnt] at hat
  have hpl := fun W (hW : Below w.heap.size w W) => place_any (h.below hW) row (by omega)
  have hst := h.starts _ hc
  have hs1 := Wv.st_cnt (n := n) (b := b) (b (Cc.ks fw row))
  have hs2 : (Cc.cn (Cc.ks fw row) fun j => decide (b j = b (Cc.ks fw row))) ≤ Cc.ks fw row := Cc.cn_le _ _
  have hs3 := Cc.cn_le n fun j => decide (b j = b (Cc.ks fw row))
  have hlead : Cc.lead n b (Cc.ks fw row) = Wv.st n b (b (Cc.ks fw row)) + Cc.cn (Cc.ks fw row) fun j => decide (b j = b (Cc.ks fw row)) := rfl
  rw [hlead]
  have HAT : Hid (∀ W, Below w.heap.size w W → Calls Tryz.prog 110 #[.pointer (some ⟨rb, o, none⟩), .int .i64 (Cc.ks fw row : Nat)] W fun e w' => e = .returned (.tuple #[.int .u8 (b (Cc.ks fw row) : Nat), .int .i64 ((Cc.cn (Cc.ks fw row) fun j => decide (b j = b (Cc.ks fw row)) : Nat) : Int)]) ∧ Below w.heap.size w w' ∧ True) := fun W hW =>
    (hat W hW).mono fun e w' ⟨he, hb⟩ => ⟨he, hW.trans (hb.mono hW.size), trivial⟩
  have HPL : Hid (∀ W, Below w.heap.size w W → Calls Tryz.prog 111 #[.pointer (some ⟨rb, o, none⟩), .int .i64 (row : Nat)] W fun e w' => e = .returned (.int .i64 (Cc.ks fw row : Nat)) ∧ Below w.heap.size w w' ∧ True) := fun W hW =>
    (hpl W hW).mono fun e w' ⟨he, hb⟩ => ⟨he, hb ▸ hW, trivial⟩
  have hrb := h.lt
  generalize (Cc.cn (Cc.ks fw row) fun j => decide (b j = b (Cc.ks fw row))) = q at *
  generalize Wv.st n b (b (Cc.ks fw row)) = s at *
  generalize b (Cc.ks fw row) = c at *
  have hci : (c : Int) < 256 := by omega
  clear hlead hX hp hcnt hat hpl
  generalize Cc.ks fw row = k at *
  go_enter Tryz.func72, Tryz.ntmps72
  have s0 : True := trivial
  have bd0 : Below w.heap.size w w.drew := bdrew (Below.refl _ _)
  go_wp2_with fail
  go_region_held3 (fun _ => True) (assumption) ((first
    | (go_at_call 111; refine (HPL.out _ (by assumption)).mono ?_; rintro e w2 ⟨rfl, hb2, hS2⟩)
    | (go_at_call 110; refine (HAT.out _ (by assumption)).mono ?_; rintro e w3 ⟨rfl, hb3, hS3⟩)))
  have hst3 := cell_keep (Kept.of_below hb3 (Nat.le_refl _) (fun _ => False)) hst (fun h => h)
  clear HPL HAT hst hb2 s0 bd0
  go_wp2_with fail
  go_quiet (fail)
  go_wp2
  go_ret2
  exact ⟨rfl, below_drewN hb3 nq⟩

end

end Go.Proofs.YtopihgmemnokkaaGreat

