import Derived.Test.YtopihgmemnokkaaGreatCodeW3F
import Derived.Shelf.SlCmpFuncs.None
import Derived.Test.YtopihgmemnokkaaGreatBitW2F
import Derived.Test.YtopihgmemnokkaaGreatOrderF
import Derived.Test.YtopihgmemnokkaaGreatEndsF
namespace Go.Proofs.YtopihgmemnokkaaGreat
open Go.RowKit Go.Shelf Go.Lib

theorem Trees.putAt {f : Nat → Nat} {w : World} {L : List Nat} {l : List Hf.T} (h : Trees f w L l) (x : Hf.T) (bx : Nat) (hx : TreeAt f w x bx) : Trees f w (Go.Proofs.YtopihgmemnokkaaGreat.putAt L (l.countP fun y => Hf.lt f y x) bx) (Hf.put f x l) := by
  have hc : (l.countP fun y => Hf.lt f y x) ≤ l.length := List.countP_le_length
  generalize hk : (l.countP fun y => Hf.lt f y x) = k at *
  have hput : Hf.put f x l = l.take k ++ x :: l.drop k := by unfold Hf.put; rw [hk]
  have hgt : ∀ j, (Hf.put f x l)[j]? = if j < k then l[j]? else if j = k then some x else l[j - 1]? := by
    intro j
    rw [hput]
    by_cases h1 : j < k
    · rw [List.getElem?_append_left (by simp; omega), if_pos h1, List.getElem?_take, if_pos h1]
    · rw [if_neg h1, List.getElem?_append_right (by simp; omega)]
      by_cases h2 : j = k
      · subst h2
        have : j - (l.take j).length = 0 := by simp; omega
        rw [this]; simp
      · rw [if_neg h2]
        have : j - (l.take k).length = (j - 1 - k) + 1 := by simp; omega
        rw [this, List.getElem?_cons_succ, List.getElem?_drop]
        congr 1; omega
  refine ⟨by rw [putAt_len, Hf.put_length, h.1], fun j b t hj ht => ?_⟩
  rw [putAt_get _ _ _ _ (by rw [h.1]; exact hc)] at hj
  rw [hgt] at ht
  by_cases h1 : j < k
  · rw [if_pos h1] at hj ht; exact h.2 j b t hj ht
  · rw [if_neg h1] at hj ht
    by_cases h2 : j = k
    · rw [if_pos h2] at hj ht
      have e1 : bx = b := by simpa using hj
      have e2 : x = t := by simpa using ht
      rw [← e1, ← e2]; exact hx
    · rw [if_neg h2] at hj ht; exact h.2 (j - 1) b t hj ht

/-- search among trees, also among none -/
theorem search_all (f : Nat → Nat) (w : World) (g off cap : Nat) (L : List Nat) (l : List Hf.T) (h : PRow w g off cap L) (ht : Trees f w L l) (hl : L.length ≤ 256) (x : Hf.T) (bx : Nat) (hx : TreeAt f w x bx) (hs : Hf.Srt f l) :
    Calls Tryz.prog 154 #[.slice (some ⟨g, off, none⟩) L.length cap, .pointer (some ⟨bx, 0, none⟩), .func (.func 153) #[] #[]] w fun e w' =>
      (∃ o, e = .returned (.tuple #[.int .i64 (l.countP (fun y => Hf.lt f y x) : Nat), .bool o])) ∧ PRow w' g off cap L ∧ Trees f w' L l ∧ TreeAt f w' x bx ∧ Kept (fun k => k = g) w w' := by
  by_cases hne : L = []
  · subst hne
    have hl0 : l = [] := List.length_eq_zero_iff.1 (by have := ht.1; simpa using this.symm)
    subst hl0
    refine (Any.slices_BinarySearchFunc_none Tryz.searchTree (some ⟨g, off, none⟩) cap _ _ w).mono ?_
    rintro e w' ⟨rfl, rfl⟩
    exact ⟨⟨false, rfl⟩, h, ht, hx, Kept.refl _ _⟩
  · exact searchT_any f w g off cap L l h ht hl hne x bx hx hs

theorem srt_of {f : Nat → Nat} {l : List Hf.T} (h : l.Pairwise fun a b => Hf.lt f b a = false) (hd : (l.flatMap Hf.bytes).Nodup) : Hf.Srt f l := by
  induction l with
  | nil => exact List.Pairwise.nil
  | cons a l ih =>
    have h1 := List.pairwise_cons.1 h
    refine List.pairwise_cons.2 ⟨fun b hb => ?_, ih h1.2 (by rw [List.flatMap_cons, List.nodup_append] at hd; exact hd.2.1)⟩
    refine Hf.lt_total ?_ (h1.1 b hb)
    intro e
    exact Hf.nd_least hd hb _ (Hf.least_mem a) (by rw [← e]; exact Hf.least_mem b)

/-- leaves that are all there is -/
theorem inv_leaves {f : Nat → Nat} {l : List Hf.T} (hl : ∀ t ∈ l, ∃ c, t = .leaf c ∧ 0 < f c) (hd : (l.flatMap Hf.bytes).Nodup) (hs : Hf.Srt f l) : Hf.Inv f l := by
  refine ⟨hs, ?_, hd, ?_, ?_⟩
  · intro t ht c hc
    obtain ⟨d, rfl, hf⟩ := hl t ht
    simp [Hf.bytes] at hc
    rw [hc]; exact hf
  · intro t ht
    obtain ⟨d, rfl, _⟩ := hl t ht
    trivial
  · intro t ht u _
    obtain ⟨d, rfl, _⟩ := hl t ht
    exact Nat.zero_le _

/-- how long a slice is -/
def lenOf (v : Value) : Nat := match v with | .slice _ n _ => n | _ => 0

/-- what is kept in the loop of join -/
structure JS (f : Nat → Nat) (w : World) (g0 : Nat) (t0 : Hf.T) (tv : Value) (wr : World) (l : List Hf.T) (L : List Nat) (g off cap : Nat) : Prop where
  tv : tv = .slice (some ⟨g, off, none⟩) L.length cap
  row : PRow wr g off cap L
  trees : Trees f wr L l
  inv : Hf.Inv f l
  len : l.length ≤ 256
  ne : l ≠ []
  end_ : Hf.join f l = t0
  kept : Kept (fun k => k = g0) w wr
  at_ : g = g0 ∨ w.heap.size ≤ g

theorem keptN (w : World) (n : Nat) : Kept (fun _ => False) w (w.drewN n) := ⟨rfl, rfl, rfl, Nat.le_refl _, fun _ _ _ => rfl⟩

theorem one_or_more {L : List Nat} {l : List Hf.T} (h : L.length = l.length) (hn : l ≠ []) : (∃ a ba, l = [a] ∧ L = [ba]) ∨ ∃ a b l3 ba bb L3, l = a :: b :: l3 ∧ L = ba :: bb :: L3 := by
  match l, L, h with
  | [], _, _ => exact absurd rfl hn
  | [a], [ba], _ => exact .inl ⟨a, ba, rfl, rfl⟩
  | a :: b :: l3, ba :: bb :: L3, _ => exact .inr ⟨a, b, l3, ba, bb, L3, rfl, rfl⟩

set_option maxRecDepth 100000 in
set_option maxHeartbeats 1000000 in
theorem join_any (f : Nat → Nat) (w : World) (g cap : Nat) (L : List Nat) (l : List Hf.T) (h : PRow w g 0 cap L) (ht : Trees f w L l) (hne : l ≠ []) (hl : l.length ≤ 256) (hlv : ∀ t ∈ l, ∃ c, t = .leaf c ∧ 0 < f c) (hd : (l.flatMap Hf.bytes).Nodup) (hw : ∀ t, (∀ c ∈ Hf.bytes t, c ∈ l.flatMap Hf.bytes) → (Hf.bytes t).Nodup → Hf.wt f t ≤ 17000000) (hb : ∀ c ∈ l.flatMap Hf.bytes, c < 256) :
    Calls Tryz.prog 118 #[.slice (some ⟨g, 0, none⟩) L.length cap] w fun e w' => ∃ b l', e = .returned (.pointer (some ⟨b, 0, none⟩)) ∧ l'.Perm l ∧ Hf.Inv f l' ∧ TreeAt f w' (Hf.join f l') b ∧ Kept (fun k => k = g) w w' := by
  have hLl : L.length = l.length := ht.1
  have HW : Hid _ := hw
  have HB : Hid _ := hb
  have HLV : Hid _ := hlv
  have HD : Hid _ := hd
  have HH : Hid _ := h
  have HT : Hid _ := ht
  have hL256 : L.length ≤ 256 := by omega
  have hL0 : L ≠ [] := fun e => hne (List.length_eq_zero_iff.1 (by rw [← hLl, e]; rfl))
  have HLl : Hid (L.length = l.length) := hLl
  have HNE : Hid (l ≠ []) := hne
  clear hw hb hlv hd h ht hLl hne
  go_enter Tryz.func118, Tryz.ntmps118
  go_wp2_with fail
  refine (sortT_any f w g 0 cap L l HH.out HT.out hL256 hL0).mono ?_
  rintro e w1 ⟨rfl, L1, l1, r1, t1, p1, s1, k1⟩
  have hd1 : (l1.flatMap Hf.bytes).Nodup := (Hf.flat_perm p1).nodup_iff.2 HD.out
  have hlv1 : ∀ t ∈ l1, ∃ c, t = .leaf c ∧ 0 < f c := fun t h => HLV.out t (p1.mem_iff.1 h)
  have HI1 : Hid _ := inv_leaves hlv1 hd1 (srt_of s1 hd1)
  have hL1 : L1.length = L.length := by rw [t1.1, p1.length_eq, HLl.out]
  have HNE1 : Hid (l1 ≠ []) := fun e => HNE.out (List.length_eq_zero_iff.1 (by rw [← p1.length_eq, e]; rfl))
  have hl1 : l1.length ≤ 256 := by rw [p1.length_eq]; exact hl
  rw [← hL1]
  have R1 : Hid _ := r1
  have T1 : Hid _ := t1
  have P1 : Hid _ := p1
  have K1 : Hid _ := k1
  clear hlv1 s1 hL1 hd1 r1 t1 p1 k1 HH HT
  go_wp2
  go_loopw [0, 3, 4, 5, 6, 7] (fun tv _ _ _ _ _ wr => ∃ (l : List Hf.T) (L : List Nat) (g2 off cap2 : Nat), JS f w g (Hf.join f l1) tv wr l L g2 off cap2 ∧ (l.flatMap Hf.bytes).Perm (l1.flatMap Hf.bytes)) (fun tv _ _ _ _ _ _ => lenOf tv)
  case atStart => exact ⟨l1, L1, g, 0, cap, ⟨rfl, R1.out, T1.out, HI1.out, hl1, HNE1.out, rfl, K1.out, .inl rfl⟩, List.Perm.refl _⟩
  case round =>
    clear R1 T1 hl1 HNE1 K1
    obtain ⟨l2, L2, g2, off, cap2, J, hp2⟩ := hrel
    obtain ⟨rfl, row, trees, inv, len, ne, end_, kept, at_⟩ := J
    rcases one_or_more trees.1 ne with ⟨a, ba, rfl, rfl⟩ | ⟨a, b, l3, ba, bb, L3, rfl, rfl⟩
    · have c0 : wr.cell? ⟨g2, off, none⟩ = some (.pointer (some ⟨ba, 0, none⟩)) := row.cells 0 ba rfl
      have ta := trees.2 0 ba a rfl rfl
      have TA : Hid _ := ta
      have KE : Hid _ := kept
      have EN : Hid _ := end_
      rw [show [ba].length = 1 from rfl]
      clear hp2 inv len ne end_ row trees ta kept at_
      go_wp2
      go_ret
      exact ⟨ba, l1, rfl, P1.out, HI1.out, by rw [← EN.out]; exact TA.out, KE.out⟩
    · have c0 : wr.cell? ⟨g2, off, none⟩ = some (.pointer (some ⟨ba, 0, none⟩)) := row.cells 0 ba rfl
      have c1 := row.cells 1 bb rfl
      have ta := trees.2 0 ba a rfl rfl
      have tb := trees.2 1 bb b rfl rfl
      have a0 := ta.c0
      have a1 := ta.c1
      have b0 := tb.c0
      have b1 := tb.c1
      have hall : ∀ c ∈ Hf.bytes (.node a b), c ∈ l.flatMap Hf.bytes := fun c hc => by
        have h1 : c ∈ (a :: b :: l3).flatMap Hf.bytes := by
          simp only [Hf.bytes, List.mem_append] at hc
          simp only [List.flatMap_cons, List.mem_append]
          rcases hc with h | h
          · exact .inl h
          · exact .inr (.inl h)
        exact (Hf.flat_perm P1.out).mem_iff.1 (hp2.mem_iff.1 h1)
      have hnd : (Hf.bytes (.node a b)).Nodup := by
        have := inv.nd
        simp only [List.flatMap_cons] at this
        rw [← List.append_assoc] at this
        exact (List.nodup_append.1 this).1
      have hwab := HW.out (.node a b) hall hnd
      simp only [Hf.wt] at hwab
      have hla : Hf.least a < 256 := HB.out _ (hall _ (by simp [Hf.bytes, Hf.least_mem]))
      have hlb : Hf.least b < 256 := HB.out _ (hall _ (by simp [Hf.bytes, Hf.least_mem]))
      have hL3 : (ba :: bb :: L3).length = L3.length + 2 := rfl
      have hL3b : L3.length ≤ 254 := by have := trees.1; simp at this len; omega
      rw [hL3]
      have hrow3 := row.drop 2 (by simp)
      have hcap := row.len
      rw [hL3] at hcap
      have h63 := row.cap63
      have HP : Hid _ := hp2
      have IN : Hid _ := inv
      have TR : Hid _ := trees
      have RW : Hid _ := row
      have EN : Hid _ := end_
      have KE : Hid _ := kept
      have AT : Hid _ := at_
      have R3 : Hid _ := hrow3
      have TA : Hid _ := ta
      have TB : Hid _ := tb
      have LE : Hid _ := len
      clear hp2 inv trees row end_ kept at_ hrow3 ta tb hall hnd len ne hL3
      have WA : ∃ p, Hf.wt f a = p := ⟨_, rfl⟩
      obtain ⟨p, hp⟩ := WA
      obtain ⟨q, hq⟩ : ∃ q, Hf.wt f b = q := ⟨_, rfl⟩
      obtain ⟨r, hr⟩ : ∃ r, Hf.least a = r := ⟨_, rfl⟩
      obtain ⟨s, hs⟩ : ∃ s, Hf.least b = s := ⟨_, rfl⟩
      rw [hp] at a0 hwab
      rw [hq] at b0 hwab
      rw [hr] at a1 hla
      rw [hs] at b1 hlb
      have HP1 : Hid (Hf.wt f a = p) := hp
      have HQ1 : Hid (Hf.wt f b = q) := hq
      have HR1 : Hid (Hf.least a = r) := hr
      have HS1 : Hid (Hf.least b = s) := hs
      have hi0 : (0 : Int) < (L3.length : Int) + 2 := by omega
      have hi1 : (1 : Int) < (L3.length : Int) + 2 := by omega
      clear hp hq hr hs
      go_wp2
      go_quiet (fail)
      have kn := keptN wr nq
      have R3' : Hid (PRow (wr.drewN nq) g2 (off + 2) (cap2 - 2) L3) := R3.out.keep kn (fun h => h)
      have TR' : Hid (Trees f (wr.drewN nq) (ba :: bb :: L3) (a :: b :: l3)) := Trees.keep TR.out kn (fun _ _ _ h => h)
      have KE' : Hid (Kept (fun k => k = g) w (wr.drewN nq)) := KE.out.trans' kn (fun _ _ h => h.elim)
      have a0 := cellK kn a0 (fun h => h)
      have a1 := cellK kn a1 (fun h => h)
      have b0 := cellK kn b0 (fun h => h)
      have b1 := cellK kn b1 (fun h => h)
      clear kn R3 TR KE c0 c1 RW TA TB
      generalize wr.drewN nq = wd at *
      have R3x : Hid (∃ o3, (cap2 = 2 → o3 = off) ∧ (cap2 ≠ 2 → o3 = off + 2) ∧ PRow wd g2 o3 (cap2 - 2) L3) := by
        by_cases hc2 : cap2 = 2
        · have e0 : L3 = [] := List.length_eq_zero_iff.1 (by omega)
          obtain ⟨cur, q1, q2⟩ := R3'.out.blk
          refine ⟨off, fun _ => rfl, fun h => absurd hc2 h, ⟨⟨cur, q1, by omega⟩, fun j b hj => by rw [e0] at hj; simp at hj, by rw [e0]; simp, by omega⟩⟩
        · exact ⟨off + 2, fun h => absurd h hc2, fun _ => rfl, R3'.out⟩
      obtain ⟨o3, ho1, ho2, r3⟩ := R3x.out
      have R3 : Hid _ := r3
      clear R3x R3' r3
      have kw : Kept (fun _ => False) wd (wd.alloc (.cells #[.int .i64 ((p : Int) + (q : Int)), .int .u8 (min (r : Int) (s : Int)), .pointer (some ⟨ba, 0, none⟩), .pointer (some ⟨bb, 0, none⟩)] 181)).drew := ((Kept.refl (fun _ => False) wd).alloc _).drew
      have hsz : wd.heap.size < (wd.alloc (.cells #[.int .i64 ((p : Int) + (q : Int)), .int .u8 (min (r : Int) (s : Int)), .pointer (some ⟨ba, 0, none⟩), .pointer (some ⟨bb, 0, none⟩)] 181)).drew.heap.size := by simp
      have hTA : TreeAt f wd a ba := TR'.out.2 0 ba a rfl rfl
      have hTB : TreeAt f wd b bb := TR'.out.2 1 bb b rfl rfl
      have TN : Hid (TreeAt f (wd.alloc (.cells #[.int .i64 ((p : Int) + (q : Int)), .int .u8 (min (r : Int) (s : Int)), .pointer (some ⟨ba, 0, none⟩), .pointer (some ⟨bb, 0, none⟩)] 181)).drew (.node a b) wd.heap.size) := by
        refine ⟨ba, bb, ?_, hTA.keep kw (fun _ _ _ h => h), hTB.keep kw (fun _ _ _ h => h)⟩
        have h1 : (wd.alloc (.cells #[.int .i64 ((p : Int) + (q : Int)), .int .u8 (min (r : Int) (s : Int)), .pointer (some ⟨ba, 0, none⟩), .pointer (some ⟨bb, 0, none⟩)] 181)).drew.heap[wd.heap.size]? = some (.cells #[.int .i64 ((p : Int) + (q : Int)), .int .u8 (min (r : Int) (s : Int)), .pointer (some ⟨ba, 0, none⟩), .pointer (some ⟨bb, 0, none⟩)] 181 (0, 0)) := heap_alloc_new wd _
        rw [h1]
        have e1 : ((Hf.wt f (.node a b) : Nat) : Int) = (p : Int) + (q : Int) := by simp only [Hf.wt]; rw [HP1.out, HQ1.out]; omega
        have e2 : ((Hf.least (.node a b) : Nat) : Int) = min (r : Int) (s : Int) := by simp only [Hf.least]; rw [HR1.out, HS1.out]; omega
        rw [e1, e2]
      have RN : Hid (PRow (wd.alloc (.cells #[.int .i64 ((p : Int) + (q : Int)), .int .u8 (min (r : Int) (s : Int)), .pointer (some ⟨ba, 0, none⟩), .pointer (some ⟨bb, 0, none⟩)] 181)).drew g2 o3 (cap2 - 2) L3) := R3.out.keep kw (fun h => h)
      have TL : Hid (Trees f (wd.alloc (.cells #[.int .i64 ((p : Int) + (q : Int)), .int .u8 (min (r : Int) (s : Int)), .pointer (some ⟨ba, 0, none⟩), .pointer (some ⟨bb, 0, none⟩)] 181)).drew L3 l3) := by
        have h := Trees.keep TR'.out kw (fun _ _ _ h => h)
        exact ⟨by have := h.1; simpa using this, fun j b t hj ht => h.2 (j + 2) b t (by simpa using hj) (by simpa using ht)⟩
      have KN : Hid (Kept (fun k => k = g) w (wd.alloc (.cells #[.int .i64 ((p : Int) + (q : Int)), .int .u8 (min (r : Int) (s : Int)), .pointer (some ⟨ba, 0, none⟩), .pointer (some ⟨bb, 0, none⟩)] 181)).drew) := KE'.out.trans' kw (fun _ _ h => h.elim)
      have hs3 : Hid (Hf.Srt f l3) := (List.pairwise_cons.1 (List.pairwise_cons.1 IN.out.srt).2).2
      have hl3 : l3.length = L3.length := by have := TL.out.1; omega
      have hcnt : (l3.countP fun y => Hf.lt f y (.node a b)) ≤ L3.length := by rw [← hl3]; exact List.countP_le_length
      have HL3 : Hid (l3.length = L3.length) := hl3
      clear kw hTA hTB TR' KE' R3 hl3
      by_cases hc2 : cap2 = 2
      focus
        obtain rfl := ho1 hc2
        subst hc2
        have HC : Hid _ := hcap
        clear hcap
        have RN : Hid (PRow (wd.alloc (.cells #[.int .i64 ((p : Int) + (q : Int)), .int .u8 (min (r : Int) (s : Int)), .pointer (some ⟨ba, 0, none⟩), .pointer (some ⟨bb, 0, none⟩)] 181)).drew g2 o3 0 L3) := RN
        go_wp2
        go_region
        all_goals go_wp2_with fail
      rotate_left
      focus
        obtain rfl := ho2 hc2
        go_wp2
        go_region
        all_goals go_wp2_with fail
      all_goals
        clear a0 a1 b0 b1
        generalize (wd.alloc (.cells #[.int .i64 ((p : Int) + (q : Int)), .int .u8 (min (r : Int) (s : Int)), .pointer (some ⟨ba, 0, none⟩), .pointer (some ⟨bb, 0, none⟩)] 181)).drew = wq at *
        generalize wd.heap.size = nb at *
        refine (search_all f wq g2 _ _ L3 l3 RN.out TL.out (by omega) (.node a b) nb TN.out hs3.out).mono ?_
        rintro e w2 ⟨⟨o, rfl⟩, row2, tr2, tn2, k2⟩
        have ROW2 : Hid _ := row2
        have TR2 : Hid _ := tr2
        have TN2 : Hid (TreeAt f w2 (.node a b) nb) := tn2
        have K2 : Hid _ := k2
        clear row2 tr2 tn2 k2 RN TL TN
        have PUT : Hid (∀ k, k = (l3.countP fun y => Hf.lt f y (.node a b)) → ∀ W', Trees f W' L3 l3 → TreeAt f W' (.node a b) nb → Trees f W' (putAt L3 k nb) (Hf.put f (.node a b) l3)) := fun k hk W' h1 h2 => by
          rw [hk]; exact h1.putAt _ _ h2
        obtain ⟨k, hk⟩ : ∃ k, k = (l3.countP fun y => Hf.lt f y (.node a b)) := ⟨_, rfl⟩
        have HK : Hid _ := hk
        rw [← hk] at hcnt ⊢
        clear hk
        go_wp2_with fail
        have kv : Kept (fun _ => False) w2 (w2.alloc (.cells #[.pointer (some ⟨nb, 0, none⟩)] 178)) := (Kept.refl (fun _ => False) w2).alloc _
        have hvb := heap_alloc_new w2 (.cells #[.pointer (some ⟨nb, 0, none⟩)] 178)
        have hgl := ROW2.out.lt
        refine (insertT_any _ g2 _ _ L3 (ROW2.out.keep kv (fun h => h)) k hcnt (by omega) nb w2.heap.size hvb (by omega)).mono ?_
        rintro e w4 ⟨g', off', cap', rfl, row4, k4, at4⟩
        have hPT := (ROW2.out.keep kv (fun h => h)).tree
        have tr4 : Trees f w4 L3 l3 := (Trees.keep TR2.out kv (fun _ _ _ h => h)).keep k4 hPT
        have tn4 : TreeAt f w4 (.node a b) nb := TreeAt.keep k4 hPT (TreeAt.keep kv (fun _ _ _ h => h) TN2.out)
        have kk : Kept (fun k => k = g) w w4 := (((KN.out.trans' K2.out (fun i hi e => by rcases AT.out with h | h <;> omega)).trans' kv (fun _ _ h => h.elim)).trans' k4 (fun i hi e => by rcases AT.out with h | h <;> omega))
        have hz2 := (KN.out.trans' K2.out (fun i hi e => by rcases AT.out with h | h <;> omega)).size
        simp only [World.size_alloc] at at4
        have hat : g' = g ∨ w.heap.size ≤ g' := by
          rcases at4 with h | h
          · rw [h]; exact AT.out
          · exact .inr (by omega)
        have J : JS f w g (Hf.join f l1) (.slice (some ⟨g', off', none⟩) (L3.length + 1) cap') w4 (Hf.put f (.node a b) l3) (putAt L3 k nb) g' off' cap' :=
          ⟨by rw [putAt_len], row4, PUT.out k HK.out w4 tr4 tn4, IN.out.step, by rw [Hf.put_length, HL3.out]; omega, fun e => by have := congrArg List.length e; rw [Hf.put_length] at this; simp at this, by rw [← Hf.join_step]; exact EN.out, kk, hat⟩
        have JH : Hid _ := J
        have PH : Hid _ := (Hf.step_perm f a b l3).trans HP.out
        clear kv hvb hgl row4 k4 at4 hPT tr4 tn4 kk hz2 hat J ROW2 TR2 TN2 K2 PUT HK KN
        go_wp2
        exact ⟨⟨_, _, _, _, _, JH.out, PH.out⟩, by simp [lenOf]⟩

end Go.Proofs.YtopihgmemnokkaaGreat

namespace Go.Proofs.YtopihgmemnokkaaGreat
open Go.RowKit Go.Shelf Go.Lib

/-- the leaves of the bytes below k that are there -/
def leavesTo (f : Nat → Nat) (k : Nat) : List Hf.T := ((List.range k).filter fun c => decide (0 < f c)).map .leaf

theorem leavesTo_yes (f : Nat → Nat) {k : Nat} (h : 0 < f k) : leavesTo f (k + 1) = leavesTo f k ++ [.leaf k] := by
  unfold leavesTo; rw [List.range_succ, List.filter_append]; simp [h]
theorem leavesTo_no (f : Nat → Nat) {k : Nat} (h : f k = 0) : leavesTo f (k + 1) = leavesTo f k := by
  unfold leavesTo; rw [List.range_succ, List.filter_append]; simp [h]

theorem prow_own {w : World} {base g cap n : Nat} {L : List Nat} (h : w.ownsRow base 178 1 (.slice (some ⟨g, 0, none⟩) n cap) n (ptrs L)) (hn : L.length = n) : PRow w g 0 cap L := by
  have hc : ∀ (j b : Nat), L[j]? = some b → w.cell? ⟨g, 0 + j, none⟩ = some (.pointer (some ⟨b, 0, none⟩)) := fun j b hj => by
    rw [Nat.zero_add]
    refine own_cell h ?_
    unfold ptrs
    rw [List.getElem?_map, hj]; rfl
  rcases h.2 with ⟨h1, _⟩ | ⟨g', cap', cur, h1, h2, h3, h4, h5, h6, h7⟩
  · cases h1
  · injection h1 with e1 e2 e3
    injection e1 with e4
    injection e4 with e5
    subst e5; subst e3
    unfold maxLen at h5
    exact ⟨⟨cur, h3, by omega⟩, hc, by omega, by omega⟩

theorem own_not {w : World} {base : Nat} {e e2 : TypeId} {v : Value} {n : Nat} {xs : List Value} (h : w.ownsRow base e 1 v n xs) {b : Nat} {cs : Array Value} (hb : w.heap[b]? = some (.cells cs e2 (0, 0))) (he : e ≠ e2) : ¬ v.ownBlock = some b := by
  intro ho
  rcases h.2 with ⟨rfl, _⟩ | ⟨g, cap, cur, rfl, _, hg, _⟩
  · cases ho
  · have : g = b := by simpa [Value.ownBlock] using ho
    subst this
    rw [hb] at hg
    simp at hg
    exact he hg.2.symm

theorem Trees.snoc {f : Nat → Nat} {w : World} {L : List Nat} {l : List Hf.T} (h : Trees f w L l) {t : Hf.T} {b : Nat} (hb : TreeAt f w t b) : Trees f w (L ++ [b]) (l ++ [t]) := by
  refine ⟨by simp [h.1], fun j b' t' hj ht => ?_⟩
  by_cases e : j < L.length
  · rw [List.getElem?_append_left e] at hj
    rw [List.getElem?_append_left (by rw [← h.1]; exact e)] at ht
    exact h.2 j b' t' hj ht
  · rw [List.getElem?_append_right (by omega)] at hj
    rw [List.getElem?_append_right (by rw [← h.1]; omega)] at ht
    have e0 : j - L.length = 0 := by
      have := (List.getElem?_eq_some_iff.1 hj).1; simp at this; omega
    rw [← h.1, e0] at ht
    rw [e0] at hj
    have e1 : b = b' := by simpa using hj
    have e2 : t = t' := by simpa using ht
    rw [← e1, ← e2]; exact hb

theorem run_ix_row (cs : Array Value) (v : Value) (p : Nat) (hp : p < 256) (h : cs[p]? = some v) (w : World) :
    (Instr.index 120 (.agg cs) (.int .i64 (p : Int))).run Tryz.prog w = .ok v w := by
  simp [Instr.index, run_underlying Tryz.underlying120, asIntOf, part, Tryz.isAgg3, Tryz.sizeOf3, h]
  omega

set_option maxRecDepth 100000 in
set_option maxHeartbeats 1000000 in
theorem alone_any (f : Nat → Nat) (w : World) (hf : ∀ c, f c ≤ 1000000) :
    Calls Tryz.prog 115 #[.agg (rowC 256 f)] w fun e w' => ∃ v L, e = .returned v ∧ w'.ownsRow w.heap.size 178 1 v L.length (ptrs L) ∧ Trees f w' L (leavesTo f 256) ∧ Below w.heap.size w w' := by
  obtain ⟨i0, hi, hz0, hz1, hz2⟩ := info_parts Tryz.info178
  go_enter Tryz.func115, Tryz.ntmps115
  go_wp2_with (refine wpList_load_row rfl 120 _ rfl w.heap.size rfl 120 (rowC 256 f) (0, 0) _ (heap_alloc_new w _) Tryz.underlying120 rfl (by rw [size_rowC]; exact size256) ?_)
  go_loopw [3, 4, 5, 7] (fun v _ _ i wr => ∃ (k : Nat) (L : List Nat), k ≤ 256 ∧ i = .int .i64 k ∧ Hid (wr.ownsRow w.heap.size 178 1 v L.length (ptrs L)) ∧ Hid (Trees f wr L (leavesTo f k)) ∧ Hid (Below w.heap.size w wr)) (fun _ _ _ i _ => 256 - (intOf i).toNat)
  case atStart => exact ⟨0, [], by omega, rfl, World.ownsRow_nil _ _ _ _, ⟨rfl, fun j b t hj => by simp at hj⟩, (Below.refl _ _).alloc (Nat.le_refl _) _⟩
  case round =>
    obtain ⟨k, L, hk, rfl, OW, TR, BL⟩ := hrel
    by_cases hlt : k < 256
    · have hix : ∀ wz : World, (Instr.index 120 (.agg (rowC 256 f)) (.int .i64 (k : Int))).run Tryz.prog wz = .ok (.int .i64 (f k : Nat)) wz := fun wz => run_ix_row _ _ k hlt (rowC_get hlt) wz
      have hfk := hf k
      by_cases h0 : f k = 0
      · have hfx : Hid (leavesTo f (k + 1) = leavesTo f k) := leavesTo_no f h0
        rw [h0] at hix
        clear hf hfk h0
        go_wp2
        exact ⟨⟨k + 1, L, by omega, by go_num, OW, by rw [hfx.out]; exact TR, BL⟩, by simp [intOf]; omega⟩
      · have hfx : Hid (leavesTo f (k + 1) = leavesTo f k ++ [.leaf k]) := leavesTo_yes f (by omega)
        have hpos : (0 : Int) < (f k : Nat) := by omega
        have hLk : L.length ≤ 256 := by
          have := TR.out.1
          unfold leavesTo at this
          rw [List.length_map] at this
          have h2 := List.length_filter_le (fun c => decide (0 < f c)) (List.range k)
          rw [List.length_range] at h2
          omega
        obtain ⟨n, hn⟩ : ∃ n, f k = n := ⟨_, rfl⟩
        have HN : Hid (f k = n) := hn
        rw [hn] at hix hpos hfk
        obtain ⟨ua, ub, rfl⟩ := own_slice OW.out
        have hz := BL.out.size
        clear hf h0 hn
        have hkb : (k : Int) < 256 := by omega
        go_wp2_with (at_builtin; refine wpList_append_two _ rfl _ _ 175 rfl w.heap.size 178 i0 (.pointer none) 8 Tryz.underlying175 hi hz0 hz1 hz2 rfl _ _ _ rfl ((OW.out.alloc _).alloc _) ⟨wr.heap.size + 1, 0, none⟩ 1 (.pointer (some ⟨wr.heap.size, 0, none⟩)) rfl ?c1 ?c2 ?c3 ?c4 ?c5 ?_)
        case c1 => exact cell_one_at (by simp)
        case c2 => rfl
        case c3 => unfold maxLen; omega
        case c4 => omega
        case c5 => simp; omega
        intro g cap w4 hown hg4 hd
        have kv : Kept (fun a => (Value.slice ua L.length ub).ownBlock = some a) ((wr.alloc (.cells #[.int .i64 (n : Nat), .int .u8 (k : Nat), .pointer none, .pointer none] 181)).alloc (.cells #[.pointer (some ⟨wr.heap.size, 0, none⟩)] 178)) w4 := (Kept.refl _ _).grown (two_grown hd) (fun _ hk _ => hk)
        have k0 : Kept (fun a => (Value.slice ua L.length ub).ownBlock = some a) wr ((wr.alloc (.cells #[.int .i64 (n : Nat), .int .u8 (k : Nat), .pointer none, .pointer none] 181)).alloc (.cells #[.pointer (some ⟨wr.heap.size, 0, none⟩)] 178)) := ((Kept.refl _ wr).alloc _).alloc _
        have kall := k0.trans kv
        have hnt : ∀ (b : Nat) (cs : Array Value), wr.heap[b]? = some (.cells cs 181 (0, 0)) → ¬ (Value.slice ua L.length ub).ownBlock = some b := fun b cs hb => own_not OW.out hb (by decide)
        have hlow := OW.out.lt
        have hleaf : TreeAt f w4 (.leaf k) wr.heap.size := by
          unfold TreeAt
          rw [kv.block wr.heap.size (by simp; omega) (fun e => by have := (hlow _ e).2; omega), Below.heap_alloc _ _ _ (by simp), heap_alloc_new wr, HN.out]
        have htr : Trees f w4 (L ++ [wr.heap.size]) (leavesTo f (k + 1)) := by rw [hfx.out]; exact (Trees.keep TR.out kall hnt).snoc hleaf
        have hbl : Below w.heap.size w w4 := kv.bel ((BL.out.alloc hz _).alloc (by simp; omega) _) (Nat.le_refl _) (fun a ha => (hlow a ha).1)
        have how : w4.ownsRow w.heap.size 178 1 (.slice (some ⟨g, 0, none⟩) (L.length + 1) cap) (L ++ [wr.heap.size]).length (ptrs (L ++ [wr.heap.size])) := by
          have e1 : ptrs (L ++ [wr.heap.size]) = ptrs L ++ [.pointer (some ⟨wr.heap.size, 0, none⟩)] := by simp [ptrs]
          rw [e1, List.length_append]; exact hown
        have HTR : Hid _ := htr
        have HBL : Hid _ := hbl
        have HOW : Hid _ := how
        clear kv k0 kall hnt hlow hleaf htr hbl how hd hown OW TR BL
        go_wp2
        exact ⟨⟨k + 1, L ++ [wr.heap.size], by omega, by go_num, HOW, HTR, HBL⟩, by simp [intOf]; omega⟩
    · have hk' : k = 256 := by omega
      subst hk'
      go_wp2
      go_ret
      exact ⟨_, L, rfl, OW.out, TR.out, BL.out⟩

end Go.Proofs.YtopihgmemnokkaaGreat

namespace Go.Proofs.YtopihgmemnokkaaGreat
open Go.RowKit Go.Shelf Go.Lib

theorem size_rowR (g : Nat → Nat × Nat) : (rowR g).size = 512 := by simp [rowR]
theorem rowR_get0 (g : Nat → Nat × Nat) {c : Nat} (h : c < 256) : (rowR g)[c * 2]? = some (.int .i64 ((g c).1 : Nat)) := by
  unfold rowR
  rw [Array.getElem?_map, Array.getElem?_range, if_pos (by omega)]
  simp
theorem rowR_get1 (g : Nat → Nat × Nat) {c : Nat} (h : c < 256) : (rowR g)[c * 2 + 1]? = some (.int .u64 ((g c).2 : Nat)) := by
  unfold rowR
  rw [Array.getElem?_map, Array.getElem?_range, if_pos (by omega)]
  simp only [Option.map_some]
  rw [if_neg (by omega), show (c * 2 + 1) / 2 = c by omega]
def updR (g : Nat → Nat × Nat) (c : Nat) (x : Nat × Nat) : Nat → Nat × Nat := fun d => if d = c then x else g d
theorem rowR_set (g : Nat → Nat × Nat) {c : Nat} (h : c < 256) (x : Nat × Nat) : ((rowR g).setIfInBounds (c * 2) (.int .i64 (x.1 : Nat))).setIfInBounds (c * 2 + 1) (.int .u64 (x.2 : Nat)) = rowR (updR g c x) := by
  apply Array.ext_getElem?
  intro j
  rw [Array.getElem?_setIfInBounds, Array.getElem?_setIfInBounds]
  simp only [Array.size_setIfInBounds, size_rowR]
  by_cases hj : j < 512
  · have e0 : ∀ G, (rowR G)[j]? = some (if j % 2 = 0 then .int .i64 ((G (j / 2)).1 : Nat) else .int .u64 ((G (j / 2)).2 : Nat)) := fun G => by
      unfold rowR; rw [Array.getElem?_map, Array.getElem?_range, if_pos hj]; rfl
    rw [e0, e0]
    by_cases h1 : c * 2 + 1 = j
    · rw [if_pos h1, if_pos (by omega), if_neg (by omega), show j / 2 = c by omega]; simp [updR]
    · rw [if_neg h1]
      by_cases h2 : c * 2 = j
      · rw [if_pos h2, if_pos (show c * 2 < 512 by omega), if_pos (show j % 2 = 0 by omega), show j / 2 = c by omega]; simp [updR]
      · rw [if_neg h2]
        have : ¬ j / 2 = c := by omega
        simp [updR, this]
  · have h1 : ∀ G, (rowR G)[j]? = none := fun G => by simp [size_rowR]; omega
    rw [h1, h1, if_neg (by omega), if_neg (by omega)]

/-- the codes, as they are made -/
def Made (w : World) (M : Nat) (g : Nat → Nat × Nat) : Prop := w.heap[M]? = some (.cells (rowR g) 115 (0, 0))
theorem Made.lt {w : World} {M : Nat} {g : Nat → Nat × Nat} (h : Made w M g) : M < w.heap.size := (Array.getElem?_eq_some_iff.1 h).1
theorem Made.c0 {w : World} {M : Nat} {g : Nat → Nat × Nat} (h : Made w M g) {c : Nat} (hc : c < 256) : w.cell? ⟨M, c * 2, none⟩ = some (.int .i64 ((g c).1 : Nat)) := by
  unfold Made at h; simp [World.cell?, h, rowR_get0 g hc]
theorem Made.c1 {w : World} {M : Nat} {g : Nat → Nat × Nat} (h : Made w M g) {c : Nat} (hc : c < 256) : w.cell? ⟨M, c * 2 + 1, none⟩ = some (.int .u64 ((g c).2 : Nat)) := by
  unfold Made at h; simp [World.cell?, h, rowR_get1 g hc]
theorem Made.frozen {w : World} {M : Nat} {g : Nat → Nat × Nat} (h : Made w M g) (i : Nat) : w.frozen? ⟨M, i, none⟩ = false := by
  unfold Made at h; simp [World.frozen?, h]
theorem Made.keep {P : Nat → Prop} {w w' : World} {M : Nat} {g : Nat → Nat × Nat} (h : Made w M g) (hk : Kept P w w') (hn : ¬ P M) : Made w' M g := by
  have := h.lt
  unfold Made at *; rw [hk.block M this hn]; exact h
theorem Made.put {w : World} {M : Nat} {g : Nat → Nat × Nat} (h : Made w M g) {c : Nat} (hc : c < 256) (x : Nat × Nat) : Made ((w.setCell ⟨M, c * 2, none⟩ (.int .i64 (x.1 : Nat))).setCell ⟨M, c * 2 + 1, none⟩ (.int .u64 (x.2 : Nat))) M (updR g c x) := by
  unfold Made at *
  rw [← rowR_set g hc x]
  simp [World.setCell, Array.getElem?_modify, h]
theorem Made.tree {w : World} {M : Nat} {g : Nat → Nat × Nat} (h : Made w M g) : ∀ (b : Nat) (cs : Array Value), w.heap[b]? = some (.cells cs 181 (0, 0)) → ¬ b = M := by
  rintro b cs hb rfl
  unfold Made at h
  rw [hb] at h
  simp at h

/-- the codes of a tree's bytes, behind a way -/
def spellF : Hf.T → Nat → Nat → (Nat → Nat × Nat) → (Nat → Nat × Nat)
  | .leaf c, n, v, g => updR g c (n, v)
  | .node l r, n, v, g => spellF r (n + 1) (2 * v + 1) (spellF l (n + 1) (2 * v) g)

set_option maxRecDepth 100000 in
set_option maxHeartbeats 1000000 in
theorem spell_leaf (f : Nat → Nat) (c b M n v : Nat) (g : Nat → Nat × Nat) (w : World) (ht : TreeAt f w (.leaf c) b) (hm : Made w M g) (hc : c < 256) :
    Calls Tryz.prog 117 #[.pointer (some ⟨b, 0, none⟩), runV n v, .pointer (some ⟨M, 0, none⟩)] w fun e w' => e = .returned (.tuple #[]) ∧ Made w' M (updR g c (n, v)) ∧ Kept (fun k => k = M) w w' := by
  have hml := hm.lt
  have hne : b ≠ M := hm.tree b _ ht
  unfold TreeAt at ht
  have hbl : b < w.heap.size := (Array.getElem?_eq_some_iff.1 ht).1
  have c1 : w.cell? ⟨b, 1, none⟩ = some (.int .u8 (c : Nat)) := by simp [World.cell?, ht]
  have c2 : w.cell? ⟨b, 2, none⟩ = some (.pointer none) := by simp [World.cell?, ht]
  have m0 := hm.c0 hc
  have m1 := hm.c1 hc
  have f0 := hm.frozen (c * 2)
  have f1 := hm.frozen (c * 2 + 1)
  have HM : Hid _ := hm
  generalize (g c).1 = g1 at *
  generalize (g c).2 = g2 at *
  have hci : (c : Int) < 256 := by omega
  clear hm ht
  unfold runV
  go_enter Tryz.func117, Tryz.ntmps117
  go_wp2
  go_region
  all_goals go_wp2
  have k1 : Kept (fun k => k = M) w ((((w.setCell ⟨M, c * 2, none⟩ (.int .i64 (n : Nat))).setCell ⟨M, c * 2 + 1, none⟩ (.int .u64 (v : Nat))).alloc (.cells #[.int .i64 (n : Nat), .int .u64 (v : Nat)] 114)).drew) :=
    ((((Kept.refl (fun k => k = M) w).setCell (show (⟨M, c * 2, none⟩ : Addr).block = M from rfl) _).setCell (show (⟨M, c * 2 + 1, none⟩ : Addr).block = M from rfl) _).alloc _).drew
  have h1 := Made.put HM.out hc (n, v)
  have h2 : Made ((((w.setCell ⟨M, c * 2, none⟩ (.int .i64 (n : Nat))).setCell ⟨M, c * 2 + 1, none⟩ (.int .u64 (v : Nat))).alloc (.cells #[.int .i64 (n : Nat), .int .u64 (v : Nat)] 114)).drew) M (updR g c (n, v)) :=
    h1.keep (((Kept.refl (fun _ => False) _).alloc _).drew) (fun h => h)
  refine bodyPost_ret (results_none rfl _ _ _) rfl ?_
  exact ⟨rfl, h2, k1⟩

theorem run_ix_two0 (a b : Value) (w : World) : (Instr.index 179 (.agg #[a, b]) (.int .i64 0)).run Tryz.prog w = .ok a w := by
  simp [Instr.index, run_underlying Tryz.underlying179, asIntOf, part, Tryz.isAgg178, Tryz.sizeOf178]
theorem run_ix_two1 (a b : Value) (w : World) : (Instr.index 179 (.agg #[a, b]) (.int .i64 1)).run Tryz.prog w = .ok b w := by
  simp [Instr.index, run_underlying Tryz.underlying179, asIntOf, part, Tryz.isAgg178, Tryz.sizeOf178]

set_option maxRecDepth 100000 in
set_option maxHeartbeats 1000000 in
theorem spell_any (f : Nat → Nat) : ∀ (t : Hf.T) (b M n v : Nat) (g : Nat → Nat × Nat) (w : World), TreeAt f w t b → Made w M g → (∀ c ∈ Hf.bytes t, c < 256) → n + Hf.ht t ≤ 64 → v < 2 ^ n →
    Calls Tryz.prog 117 #[.pointer (some ⟨b, 0, none⟩), runV n v, .pointer (some ⟨M, 0, none⟩)] w fun e w' => e = .returned (.tuple #[]) ∧ Made w' M (spellF t n v g) ∧ Kept (fun k => k = M) w w'
  | .leaf c, b, M, n, v, g, w, ht, hm, hc, _, _ => spell_leaf f c b M n v g w ht hm (hc c (by simp [Hf.bytes]))
  | .node l r, b, M, n, v, g, w, ht, hm, hc, hn, hv => by
    obtain ⟨bl, br, h1, hl, hr⟩ := ht
    have hml := hm.lt
    have hbl : b < w.heap.size := (Array.getElem?_eq_some_iff.1 h1).1
    have c2 : w.cell? ⟨b, 2, none⟩ = some (.pointer (some ⟨bl, 0, none⟩)) := by simp [World.cell?, h1]
    have c3 : w.cell? ⟨b, 3, none⟩ = some (.pointer (some ⟨br, 0, none⟩)) := by simp [World.cell?, h1]
    simp only [Hf.ht] at hn
    have hn63 : n < 64 := by omega
    have ihl := fun g w' h1 h2 => spell_any f l bl M (n + 1) (2 * v) g w' h1 h2 (fun c hx => hc c (by simp [Hf.bytes, hx])) (by omega) (by rw [Nat.pow_succ]; omega)
    have ihr := fun g w' h1 h2 => spell_any f r br M (n + 1) (2 * v + 1) g w' h1 h2 (fun c hx => hc c (by simp [Hf.bytes, hx])) (by omega) (by rw [Nat.pow_succ]; omega)
    have IHL : Hid _ := ihl
    have IHR : Hid _ := ihr
    have HM : Hid (Made w M g) := hm
    have HL : Hid (TreeAt f w l bl) := hl
    have HR : Hid (TreeAt f w r br) := hr
    have HV : Hid (v < 2 ^ n) := hv
    have hbx : (w.alloc (.cells #[.int .i64 (n : Nat), .int .u64 (v : Nat)] 114)).heap[w.heap.size]? = some (.cells #[.int .i64 (n : Nat), .int .u64 (v : Nat)] 114 (0, 0)) := heap_alloc_new w _
    have HBX : Hid _ := hbx
    clear h1 hl hr ihl ihr hm hc hv hn hbx
    show Calls Tryz.prog 117 #[.pointer (some ⟨b, 0, none⟩), .agg #[.int .i64 (n : Nat), .int .u64 (v : Nat)], .pointer (some ⟨M, 0, none⟩)] w _
    go_enter Tryz.func117, Tryz.ntmps117
    go_wp2
    go_loopw [6, 7, 26] (fun _ _ i wr => ∃ j : Nat, j ≤ 2 ∧ i = .int .i64 j ∧ Hid (Made wr M (if j = 0 then g else if j = 1 then spellF l (n + 1) (2 * v) g else spellF (.node l r) n v g)) ∧ Hid (Kept (fun k => k = M) (w.alloc (.cells #[.int .i64 (n : Nat), .int .u64 (v : Nat)] 114)) wr)) (fun _ _ i _ => 2 - (intOf i).toNat)
    case atStart => exact ⟨0, by omega, rfl, HM.out.keep ((Kept.refl (fun _ => False) w).alloc _) (fun h => h), Kept.refl _ _⟩
    case round =>
      obtain ⟨i, hi, rfl, MD, KE⟩ := hrel
      have hbx := KE.out.block w.heap.size (by simp) (by omega)
      rw [HBX.out] at hbx
      have d1 : wr.cell? ⟨w.heap.size, 0, none⟩ = some (.int .i64 (n : Nat)) := by simp [World.cell?, hbx]
      have d2 : wr.cell? ⟨w.heap.size, 1, none⟩ = some (.int .u64 (v : Nat)) := by simp [World.cell?, hbx]
      have hnt : ∀ (b : Nat) (cs : Array Value), (w.alloc (.cells #[.int .i64 (n : Nat), .int .u64 (v : Nat)] 114)).heap[b]? = some (.cells cs 181 (0, 0)) → ¬ b = M := Made.tree (HM.out.keep ((Kept.refl (fun _ => False) w).alloc _) (fun h => h))
      have hix0 := run_ix_two0 (.pointer (some ⟨bl, 0, none⟩)) (.pointer (some ⟨br, 0, none⟩))
      have hix1 := run_ix_two1 (.pointer (some ⟨bl, 0, none⟩)) (.pointer (some ⟨br, 0, none⟩))
      clear hbx c2 c3
      have hi3 : i = 0 ∨ i = 1 ∨ i = 2 := by omega
      rcases hi3 with hi3 | hi3 | hi3
      · obtain rfl : i = 0 := by omega
        have hmd : Made wr M (g) := MD.out
        have htr : TreeAt f wr l bl := TreeAt.keep KE.out hnt (HL.out.keep ((Kept.refl (fun _ => False) w).alloc _) (fun _ _ _ h => h))
        have HMD : Hid _ := hmd
        have HTR : Hid _ := htr
        clear hmd htr hnt MD
        go_wp2_with fail
        refine (with_any n v 0 _ hn63 HV.out (by omega)).mono ?_
        rintro e w2 ⟨rfl, hB2⟩
        have K2 : Hid _ := Kept.of_below hB2 (Nat.le_refl _) (fun _ => False)
        clear hB2
        go_wp2_with fail
        refine (IHL.out _ w2 (TreeAt.keep K2.out (fun _ _ _ h => h) HTR.out) (Made.keep HMD.out K2.out (fun h => h))).mono ?_
        rintro e w3 ⟨rfl, hm3, hk3⟩
        have HM3 : Hid _ := hm3
        have HK3 : Hid (Kept (fun k => k = M) (w.alloc (.cells #[.int .i64 (n : Nat), .int .u64 (v : Nat)] 114)) w3) := (KE.out.trans' K2.out (fun _ _ h => h.elim)).trans hk3
        clear hm3 hk3 K2 HMD HTR
        go_wp2
        exact ⟨⟨1, by omega, by go_num, HM3, HK3⟩, by simp [intOf]⟩
      · obtain rfl : i = 1 := by omega
        have hmd : Made wr M (spellF l (n + 1) (2 * v) g) := MD.out
        have htr : TreeAt f wr r br := TreeAt.keep KE.out hnt (HR.out.keep ((Kept.refl (fun _ => False) w).alloc _) (fun _ _ _ h => h))
        have HMD : Hid _ := hmd
        have HTR : Hid _ := htr
        clear hmd htr hnt MD
        go_wp2_with fail
        refine (with_any n v 1 _ hn63 HV.out (by omega)).mono ?_
        rintro e w2 ⟨rfl, hB2⟩
        have K2 : Hid _ := Kept.of_below hB2 (Nat.le_refl _) (fun _ => False)
        clear hB2
        go_wp2_with fail
        refine (IHR.out _ w2 (TreeAt.keep K2.out (fun _ _ _ h => h) HTR.out) (Made.keep HMD.out K2.out (fun h => h))).mono ?_
        rintro e w3 ⟨rfl, hm3, hk3⟩
        have HM3 : Hid _ := hm3
        have HK3 : Hid (Kept (fun k => k = M) (w.alloc (.cells #[.int .i64 (n : Nat), .int .u64 (v : Nat)] 114)) w3) := (KE.out.trans' K2.out (fun _ _ h => h.elim)).trans hk3
        clear hm3 hk3 K2 HMD HTR
        go_wp2
        exact ⟨⟨2, by omega, by go_num, HM3, HK3⟩, by simp [intOf]⟩
      · obtain rfl : i = 2 := by omega
        clear hnt d1 d2
        go_wp2
        go_end0
        exact ⟨rfl, MD.out, ((Kept.refl (fun k => k = M) w).alloc _).trans KE.out⟩

end Go.Proofs.YtopihgmemnokkaaGreat

namespace Go.Proofs.YtopihgmemnokkaaGreat
open Go.RowKit Go.Shelf Go.Lib

/-- how often a byte is among the first p of a text -/
def cntB (s : ByteArray) (p c : Nat) : Nat := Cc.cn p fun j => decide (BY s j = c)
theorem cntB_succ (s : ByteArray) (p c : Nat) : Cc.put (cntB s p) (BY s p) (cntB s p (BY s p) + 1) c = cntB s (p + 1) c := by
  unfold cntB
  by_cases h : c = BY s p
  · subst h; rw [Cc.put_same]; simp [Cc.cn]
  · rw [Cc.put_other _ _ h]
    have h' : ¬ BY s p = c := fun e => h e.symm
    simp [Cc.cn, h']

set_option maxRecDepth 100000 in
set_option maxHeartbeats 1000000 in
theorem count_any (s : ByteArray) (w : World) (hs : s.size ≤ 1000) :
    Calls Tryz.prog 74 #[.string s] w fun e w' => e = .returned (.agg (rowC 256 (cntB s s.size))) ∧ Below w.heap.size w w' := by
  go_enter Tryz.func74, Tryz.ntmps74
  go_wp2_with (refine wpList_alloc_row rfl 120 rfl _ zero256 ?_)
  go_loopw [4, 7] (fun _ i wr => ∃ p : Nat, p ≤ s.size ∧ i = .int .i64 p ∧ Row wr w.heap.size 120 256 (fun _ => 0) ∧ Row wr (w.heap.size + 1) 120 256 (cntB s p) ∧ Below w.heap.size w wr) (fun _ i _ => s.size - (intOf i).toNat)
  case atStart =>
    refine ⟨0, by omega, rfl, (Row.new w _ _ _).alloc _, (Row.new' _ 256 (fun _ => 0) (by simp)).congr fun c _ => by simp [cntB, Cc.cn], ((Below.refl _ _).alloc (Nat.le_refl _) _).alloc (by simp) _⟩
  case round =>
    obtain ⟨p, hp, rfl, hR0, hR1, hBl⟩ := hrel
    by_cases hlt : p < s.size
    · have hby := BY_le s p
      have hbv := BY_lt s hlt
      have c0 := hR1.cell (i := BY s p) (by omega)
      have f0 := hR1.frozen (BY s p)
      have hcl : cntB s p (BY s p) ≤ p := Cc.cn_le p _
      have hg : Row (wr.setCell ⟨w.heap.size + 1, BY s p, none⟩ (.int .i64 ((cntB s p (BY s p) + 1 : Nat) : Int))) (w.heap.size + 1) 120 256 (cntB s (p + 1)) :=
        (hR1.set (BY s p) _).congr fun c _ => cntB_succ s p c
      rw [hbv] at c0 f0 hcl hg hby
      have hx : (s[p].toNat : Int) < 256 := by omega
      clear hbv hby
      generalize cntB s p s[p].toNat = q at c0 hcl hg
      go_wp2
      exact ⟨⟨p + 1, by omega, by go_num, hR0.other (by simp) _, hg, hBl.setCell (by simp) _⟩, by simp [intOf]; omega⟩
    · have hp' : p = s.size := by omega
      subst hp'
      go_wp2_with (first
        | (refine wpList_load_row rfl 120 _ rfl (w.heap.size + 1) rfl 120 (rowC 256 (cntB s s.size)) (0, 0) _ (by exact hR1) Tryz.underlying120 rfl (by rw [size_rowC]; exact size256) ?_)
        | (refine wpList_store_row rfl 120 _ _ rfl w.heap.size (rowC 256 (cntB s s.size)) rfl rfl 120 (rowC 256 fun _ => 0) (by exact hR0) (by rw [size_rowC]; exact size256) (by rw [size_rowC, size_rowC]) (rowC_one _ _) ?_))
      have hfin : Row (wr.setRow w.heap.size (rowC 256 (cntB s s.size))) w.heap.size 120 256 (cntB s s.size) := hR0.setRow _
      refine bodyPost_ret (results_cell_row Tryz.results74 _ _ w.heap.size 120 (rowC 256 (cntB s s.size)) (0, 0) _ rfl hfin Tryz.underlying120 rfl (by rw [size_rowC]; exact size256)) rfl ⟨rfl, ?_⟩
      exact below_setRow hBl (by omega) _

end Go.Proofs.YtopihgmemnokkaaGreat

namespace Go.Proofs.YtopihgmemnokkaaGreat
open Go.RowKit Go.Shelf Go.Lib

/-- a row of m bytes -/
def rowU (m : Nat) (f : Nat → Nat) : Array Value := (Array.range m).map fun i => .int .u8 (f i : Nat)
theorem size_rowU (m : Nat) (f : Nat → Nat) : (rowU m f).size = m := by simp [rowU]
theorem rowU_get {m : Nat} {f : Nat → Nat} {i : Nat} (h : i < m) : (rowU m f)[i]? = some (.int .u8 (f i : Nat)) := by simp [rowU, h]
theorem rowU_congr {m : Nat} {f g : Nat → Nat} (h : ∀ i, i < m → f i = g i) : rowU m f = rowU m g := by
  unfold rowU
  apply Array.map_congr_left
  intro a ha
  rw [h a (by simpa using ha)]
theorem rowU_set {m : Nat} {f : Nat → Nat} {i v : Nat} : (rowU m f).setIfInBounds i (.int .u8 (v : Nat)) = rowU m (Cc.put f i v) := by
  apply Array.ext_getElem?
  intro j
  rw [Array.getElem?_setIfInBounds, size_rowU]
  by_cases hj : j < m
  · rw [rowU_get hj]
    by_cases e : i = j
    · subst e; simp [hj, rowU_get hj, Cc.put]
    · have e' : ¬ j = i := fun x => e x.symm
      rw [if_neg e, rowU_get hj]; simp [Cc.put, e']
  · have h1 : (rowU m f)[j]? = none := by simp [size_rowU]; omega
    have h2 : (rowU m (Cc.put f i v))[j]? = none := by simp [size_rowU]; omega
    rw [h1, h2]
    by_cases e : i = j
    · subst e; simp [hj]
    · rw [if_neg e]
theorem rowU_made (m : Nat) : madeCells #[.int .u8 0] m = rowU m fun _ => 0 := by
  unfold madeCells rowU
  apply Array.map_congr_left
  intro a _
  have : a % (#[Value.int .u8 0] : Array Value).size = 0 := by simp [Nat.mod_one]
  rw [this]; rfl

theorem Tryz.infoU8 : (Tryz.prog.info? 5).map (fun i => (i.zero, i.size, i.bytes)) = some (some (.int .u8 0), 1, 1) := by kernel_rfl
theorem make_bytesU (n : Nat) (hn : n ≤ 1001) (w : World) : (Instr.makeSlice 55 (.int .i64 (n : Int)) (.int .i64 (n : Int))).run Tryz.prog w
    = .ok (.slice (some ⟨w.heap.size, 0, none⟩) n n) (w.alloc (.cells (rowU n fun _ => 0) 5)) := by
  obtain ⟨i, hi, hz0, hz1, hz2⟩ := info_parts Tryz.infoU8
  have h := run_make (P := Tryz.prog) w 55 5 i _ Tryz.underlying55 hi hz0 .i64 .i64 n n (by omega) (by omega) (by rw [hz2]; omega) (by omega)
  rw [hz1] at h
  simp only [Int.toNat_natCast, Nat.mul_one] at h
  have hc : (Value.int .u8 0).cells = #[.int .u8 0] := rfl
  rw [hc, rowU_made] at h
  exact h

/-- the noughts and ones of a run -/
def bitB (n v i : Nat) : Nat := 48 + v / 2 ^ (n - 1 - i) % 2
def bitTo (n v k i : Nat) : Nat := if i < k then bitB n v i else 0
/-- a run as a text -/
def runText (n v : Nat) : ByteArray := strOfNums ((List.range n).map fun i => ((bitB n v i : Nat) : Int))

theorem bitTo_succ (n v k i : Nat) : Cc.put (bitTo n v k) k (bitB n v k) i = bitTo n v (k + 1) i := by
  by_cases h : i = k
  · subst h; rw [Cc.put_same]; unfold bitTo; rw [if_pos (by omega)]
  · rw [Cc.put_other _ _ h]; unfold bitTo
    by_cases h1 : i < k
    · rw [if_pos h1, if_pos (by omega)]
    · rw [if_neg h1, if_neg (by omega)]

def RowU (w : World) (b m : Nat) (f : Nat → Nat) : Prop := w.heap[b]? = some (.cells (rowU m f) 5 (0, 0))

set_option maxRecDepth 100000 in
set_option maxHeartbeats 1000000 in
theorem text_any (n v : Nat) (w : World) (hn : n ≤ 64) (hv : v < 18446744073709551616) :
    Calls Tryz.prog 89 #[runV n v] w fun e w' => e = .returned (.string (runText n v)) ∧ Below w.heap.size w w' := by
  have hmk := fun w => make_bytesU n (by omega) w
  show Calls Tryz.prog 89 #[.agg #[.int .i64 (n : Nat), .int .u64 (v : Nat)]] w _
  have hbx : ∀ wr, Below (w.heap.size + 1) (w.alloc (.cells #[.int .i64 (n : Nat), .int .u64 (v : Nat)] 114)) wr → wr.cell? ⟨w.heap.size, 0, none⟩ = some (.int .i64 (n : Nat)) ∧ wr.cell? ⟨w.heap.size, 1, none⟩ = some (.int .u64 (v : Nat)) := fun wr hb => by
    have h1 := hb.block w.heap.size (by omega)
    rw [heap_alloc_new w] at h1
    exact ⟨by simp [World.cell?, h1], by simp [World.cell?, h1]⟩
  have HBX : Hid _ := hbx
  have hz : (w.alloc (.cells #[.int .i64 (n : Nat), .int .u64 (v : Nat)] 114)).heap.size = w.heap.size + 1 := by simp
  have Hz : Hid _ := hz
  clear hbx hz
  go_enter Tryz.func89, Tryz.ntmps89
  go_wp2
  go_loopw [4, 10] (fun _ i wr => ∃ k : Nat, k ≤ n ∧ i = .int .i64 k ∧ Hid (RowU wr (w.heap.size + 1) n (bitTo n v k)) ∧ Hid (Below (w.heap.size + 1) (w.alloc (.cells #[.int .i64 (n : Nat), .int .u64 (v : Nat)] 114)) wr)) (fun _ i _ => n - (intOf i).toNat)
  case atStart => exact ⟨0, by omega, rfl, heap_alloc_new' _ _ (by simp), (Below.refl _ _).alloc (by simp) _⟩
  case round =>
    obtain ⟨k, hk, rfl, RU, BL⟩ := hrel
    obtain ⟨c0, c1⟩ := HBX.out wr BL.out
    have hru : wr.heap[w.heap.size + 1]? = some (.cells (rowU n (bitTo n v k)) 5 (0, 0)) := RU.out
    have hlt1 : w.heap.size + 1 < wr.heap.size := (Array.getElem?_eq_some_iff.1 hru).1
    by_cases hlt : k < n
    · have d0 : wr.cell? ⟨w.heap.size + 1, k, none⟩ = some (.int .u8 (bitTo n v k k : Nat)) := by unfold World.cell?; rw [hru]; exact rowU_get hlt
      clear hru
      generalize bitTo n v k k = old at d0
      go_wp2_with fail
      refine (bit_any n v k wr hn hlt hv).mono ?_
      rintro e w2 ⟨rfl, hB2⟩
      have hru2 : w2.heap[w.heap.size + 1]? = some (.cells (rowU n (bitTo n v k)) 5 (0, 0)) := by rw [hB2.block _ hlt1]; exact RU.out
      have d0 : w2.cell? ⟨w.heap.size + 1, k, none⟩ = some (.int .u8 (bitTo n v k k : Nat)) := by unfold World.cell?; rw [hru2]; exact rowU_get hlt
      have d1 : w2.frozen? ⟨w.heap.size + 1, k, none⟩ = false := by simp [World.frozen?, hru2]
      have hgo : RowU (w2.setCell ⟨w.heap.size + 1, k, none⟩ (.int .u8 (bitB n v k : Nat))) (w.heap.size + 1) n (bitTo n v (k + 1)) := by
        unfold RowU
        rw [← rowU_congr (fun i _ => bitTo_succ n v k i), ← rowU_set]
        simp [World.setCell, Array.getElem?_modify, hru2]
      have hbl : Below (w.heap.size + 1) (w.alloc (.cells #[.int .i64 (n : Nat), .int .u64 (v : Nat)] 114)) (w2.setCell ⟨w.heap.size + 1, k, none⟩ (.int .u8 (bitB n v k : Nat))) :=
        (BL.out.trans (hB2.mono (by omega))).setCell (Nat.le_refl _) _
      have hb48 : ((bitB n v k : Nat) : Int) = 48 + ((v / 2 ^ (n - 1 - k) % 2 : Nat) : Int) := by unfold bitB; omega
      rw [hb48] at hgo hbl
      have HGO : Hid _ := hgo
      have HBL : Hid _ := hbl
      have hbit : v / 2 ^ (n - 1 - k) % 2 < 2 := Nat.mod_lt _ (by omega)
      generalize bitTo n v k k = old2 at d0
      generalize v / 2 ^ (n - 1 - k) % 2 = Y at *
      clear hgo hbl hru2 hB2 hb48 c0 c1
      go_wp2
      exact ⟨⟨k + 1, by omega, by go_num, HGO, HBL⟩, by simp [intOf]; omega⟩
    · have hk' : k = n := by omega
      subst hk'
      have hcv := run_convert_bytes_arg (P := Tryz.prog) wr 55 5 Tryz.underlying55 Tryz.underlying5 (w.heap.size + 1) 0 k k ((List.range k).map fun i => ((bitB k v i : Nat) : Int)) (by simp) (by
        intro i hi
        rw [Nat.zero_add]
        unfold World.cell?
        rw [hru]
        show (rowU k (bitTo k v k))[i]? = _
        have hi' : i < k := by simpa using hi
        rw [rowU_get hi']
        unfold bitTo
        rw [if_pos hi']
        simp [hi']) 9 Tryz.underlying9
      clear hru c0 c1
      go_wp2
      go_ret
      exact ⟨rfl, ((Below.refl _ _).alloc (Nat.le_refl _) _).trans (BL.out.mono (by omega))⟩

end Go.Proofs.YtopihgmemnokkaaGreat

namespace Go.Proofs.YtopihgmemnokkaaGreat
open Go.RowKit Go.Shelf Go.Lib

def noRun : Nat → Nat × Nat := fun _ => (0, 0)

/-- the codes of bytes that are there so often -/
def CodesOf (f : Nat → Nat) (G : Nat → Nat × Nat) : Prop :=
  (leavesTo f 256 = [] ∧ G = noRun) ∨ (∃ c, c < 256 ∧ leavesTo f 256 = [.leaf c] ∧ G = updR noRun c (1, 0)) ∨
  (2 ≤ (leavesTo f 256).length ∧ ∃ l, l.Perm (leavesTo f 256) ∧ Hf.Inv f l ∧ G = spellF (Hf.join f l) 0 0 noRun)

theorem leaves_mem {f : Nat → Nat} {k : Nat} {t : Hf.T} (h : t ∈ leavesTo f k) : ∃ c, t = .leaf c ∧ c < k ∧ 0 < f c := by
  unfold leavesTo at h
  simp at h
  obtain ⟨c, ⟨h1, h2⟩, rfl⟩ := h
  exact ⟨c, rfl, h1, h2⟩
theorem leaves_flat (f : Nat → Nat) (k : Nat) : (leavesTo f k).flatMap Hf.bytes = (List.range k).filter fun c => decide (0 < f c) := by
  unfold leavesTo
  rw [List.flatMap_map]
  have : ∀ l : List Nat, l.flatMap (fun c => Hf.bytes (.leaf c)) = l := fun l => by
    induction l with
    | nil => rfl
    | cons a l ih => rw [List.flatMap_cons, ih]; rfl
  exact this _
theorem leaves_nodup (f : Nat → Nat) (k : Nat) : ((leavesTo f k).flatMap Hf.bytes).Nodup := by
  rw [leaves_flat]; exact List.Pairwise.filter _ List.nodup_range
theorem leaves_len (f : Nat → Nat) (k : Nat) : (leavesTo f k).length ≤ k := by
  unfold leavesTo
  rw [List.length_map]
  have h2 := List.length_filter_le (fun c => decide (0 < f c)) (List.range k)
  rw [List.length_range] at h2
  omega

theorem rowR_one (g : Nat → Nat × Nat) : (rowR g).all (·.oneCell') = true := by
  rw [Array.all_eq_true_iff_forall_mem]
  intro x hx
  unfold rowR at hx
  simp at hx
  obtain ⟨a, _, rfl⟩ := hx
  split <;> rfl

set_option maxRecDepth 100000 in
set_option maxHeartbeats 1000000 in
theorem of_anyG (f : Nat → Nat) (w : World) (hw : ∀ t, (Hf.bytes t).Nodup → (∀ c ∈ Hf.bytes t, c < 256) → Hf.wt f t ≤ 17000000) (hf : ∀ c, f c ≤ 1000000) :
    Calls Tryz.prog 79 #[.agg (rowC 256 f)] w fun e w' => (∃ G, e = .returned (.agg (rowR G)) ∧ CodesOf f G) ∧ Below w.heap.size w w' := by
  have HW : Hid _ := hw
  have HF : Hid _ := hf
  clear hw hf
  go_enter Tryz.func79, Tryz.ntmps79
  go_wp2_with (first
    | (refine wpList_alloc_row rfl 115 rfl _ zero512 ?_)
    | (refine wpList_load_row rfl 120 _ rfl w.heap.size rfl 120 (rowC 256 f) (0, 0) _ (by rw [Below.heap_alloc _ _ _ (by simp; omega), Below.heap_alloc _ _ _ (by simp)]; exact heap_alloc_new w _) Tryz.underlying120 rfl (by rw [size_rowC]; exact size256) ?_)
    | fail)
  have hm2 : Made (((w.alloc (.cells (rowC 256 f) 120)).alloc (.cells (rowR fun _ => (0, 0)) 115)).alloc (.cells (rowR fun _ => (0, 0)) 115)) (w.heap.size + 2) noRun := heap_alloc_new' _ _ (by simp)
  have hm1 : Made (((w.alloc (.cells (rowC 256 f) 120)).alloc (.cells (rowR fun _ => (0, 0)) 115)).alloc (.cells (rowR fun _ => (0, 0)) 115)) (w.heap.size + 1) noRun := by
    unfold Made; rw [Below.heap_alloc _ _ _ (by simp)]; exact heap_alloc_new' _ _ (by simp)
  have hb0 : Below w.heap.size w (((w.alloc (.cells (rowC 256 f) 120)).alloc (.cells (rowR fun _ => (0, 0)) 115)).alloc (.cells (rowR fun _ => (0, 0)) 115)) :=
    (((Below.refl _ _).alloc (Nat.le_refl _) _).alloc (by simp) _).alloc (by simp; omega) _
  have hz0 : (((w.alloc (.cells (rowC 256 f) 120)).alloc (.cells (rowR fun _ => (0, 0)) 115)).alloc (.cells (rowR fun _ => (0, 0)) 115)).heap.size = w.heap.size + 3 := by simp
  refine (alone_any f _ HF.out).mono ?_
  generalize (((w.alloc (.cells (rowC 256 f) 120)).alloc (.cells (rowR fun _ => (0, 0)) 115)).alloc (.cells (rowR fun _ => (0, 0)) 115)) = w0 at *
  rintro e w1 ⟨vv, L, rfl, own, tr, bl1⟩
  have k1 := Kept.of_below bl1 (Nat.le_refl _) (fun _ => False)
  have HM2 : Hid (Made w1 (w.heap.size + 2) noRun) := hm2.keep k1 (fun h => h)
  have HM1 : Hid (Made w1 (w.heap.size + 1) noRun) := hm1.keep k1 (fun h => h)
  have HBL : Hid (Below w.heap.size w w1) := hb0.trans (bl1.mono (by omega))
  have HB1 : Hid (Below (w.heap.size + 3) w0 w1) := by rw [hz0] at bl1; exact bl1
  obtain ⟨va, vc, rfl⟩ := own_slice own
  have OW : Hid (w1.ownsRow w0.heap.size 178 1 (.slice va L.length vc) L.length (ptrs L)) := own
  have TR : Hid (Trees f w1 L (leavesTo f 256)) := tr
  have HLL : Hid (L.length = (leavesTo f 256).length) := tr.1
  have hL : L.length ≤ 256 := by rw [HLL.out]; exact leaves_len f 256
  have hz1 := bl1.size
  have HZ : Hid (w.heap.size + 3 ≤ w1.heap.size) := by show _ ≤ _; omega
  rw [hz0] at own
  have hlow := own.lt
  have HLOW : Hid _ := hlow
  clear own tr bl1 k1 hm1 hm2 hb0 hz0 hz1 hlow
  have h3 : L.length = 0 ∨ L.length = 1 ∨ 2 ≤ L.length := by omega
  rcases h3 with h0 | h1 | h2
  · have hnil : leavesTo f 256 = [] := List.length_eq_zero_iff.1 (by rw [← HLL.out]; exact h0)
    rw [h0]
    clear hL h0
    go_wp2_with (first
      | (refine wpList_load_row rfl 115 _ rfl (w.heap.size + 2) rfl 115 (rowR (noRun)) (0, 0) _ (by exact HM2.out) Tryz.underlying115 rfl (by rw [size_rowR]; exact size512) ?_)
      | (refine wpList_store_row rfl 115 _ _ rfl (w.heap.size + 1) (rowR (noRun)) rfl rfl 115 (rowR noRun) (by exact HM1.out) (by rw [size_rowR]; exact size512) (by simp only [size_rowR]) (rowR_one _) ?_))
    refine bodyPost_ret (results_cell_row Tryz.results79 _ _ (w.heap.size + 1) 115 (rowR (noRun)) (0, 0) _ rfl (setRow_heap _ _ _ _ _ _ HM1.out) Tryz.underlying115 rfl (by rw [size_rowR]; exact size512)) rfl ⟨⟨_, rfl, .inl ⟨hnil, rfl⟩⟩, ?_⟩
    exact below_setRow HBL.out (by omega) _
  · obtain ⟨b, hb⟩ : ∃ b, L = [b] := List.length_eq_one_iff.1 h1
    obtain ⟨t, ht⟩ : ∃ t, leavesTo f 256 = [t] := List.length_eq_one_iff.1 (by rw [← HLL.out]; exact h1)
    obtain ⟨c, rfl, hc, hfc⟩ := leaves_mem (f := f) (k := 256) (t := t) (by rw [ht]; simp)
    have hta : TreeAt f w1 (.leaf c) b := TR.out.2 0 b _ (by rw [hb]; rfl) (by rw [ht]; rfl)
    obtain ⟨g, cap, hva, _, hgl⟩ := OW.out.form (by omega)
    have hrow := prow_own (hva ▸ OW.out) rfl
    have c0 : w1.cell? ⟨g, 0, none⟩ = some (.pointer (some ⟨b, 0, none⟩)) := hrow.cells 0 b (by rw [hb]; rfl)
    have c1 := hta.c1
    have HT : Hid (leavesTo f 256 = [.leaf c]) := ht
    have HROW : Hid _ := hrow
    have hgM : g ≠ w.heap.size + 2 := by have := (HLOW.out g (by rw [hva]; rfl)).1; omega
    have hbM : b ≠ w.heap.size + 2 := by
      have := Made.tree HM2.out b _ hta
      exact this
    have hci : (c : Int) < 256 := by omega
    rw [hva, h1]
    clear ht hrow hta OW TR HLOW HLL hva hb h1 hL
    go_wp2
    have hS0 : w1.drew.cell? ⟨g, 0, none⟩ = some (.pointer (some ⟨b, 0, none⟩)) ∧ w1.drew.cell? ⟨b, 1, none⟩ = some (.int .u8 (c : Nat)) := ⟨c0, c1⟩
    refine wp_region_held_drew (S := fun w' => w'.cell? ⟨g, 0, none⟩ = some (.pointer (some ⟨b, 0, none⟩)) ∧ w'.cell? ⟨b, 1, none⟩ = some (.int .u8 (c : Nat))) (by kernel_rfl) hS0 (fun _ => ?_)
    refine wpAnyH_take (i := 0) (v := ?v0) rfl (by kernel_rfl) (by kernel_rfl) (by kernel_rfl) (fun _ _ _ h => h) (Or.inl ⟨by rfl, ?h0⟩) hS0 ?_
    case h0 => intro wq hS; obtain ⟨s1, s2⟩ := hS; go_simp; with_reducible rfl
    refine wpAnyH_take (i := 1) (v := ?v1) rfl (by kernel_rfl) (by kernel_rfl) (by kernel_rfl) (fun _ _ _ h => h) (Or.inl ⟨by rfl, ?h1⟩) hS0 ?_
    case h1 => intro wq hS; obtain ⟨s1, s2⟩ := hS; go_simp; with_reducible rfl
    refine wpAnyH_take (i := 2) (v := ?v2) rfl (by kernel_rfl) (by kernel_rfl) (by kernel_rfl) (fun _ _ _ h => h) (Or.inl ⟨by rfl, ?h2⟩) hS0 ?_
    case h2 => intro wq hS; obtain ⟨s1, s2⟩ := hS; go_simp; with_reducible rfl
    refine wpAnyH_take (i := 3) (v := ?v3) rfl (by kernel_rfl) (by kernel_rfl) (by kernel_rfl) (fun _ _ _ h => h) (Or.inl ⟨by rfl, ?h3⟩) hS0 ?_
    case h3 => intro wq hS; obtain ⟨s1, s2⟩ := hS; go_simp; with_reducible rfl
    refine wpAnyH_take (i := 4) (v := ?v4) rfl (by kernel_rfl) (by kernel_rfl) (by kernel_rfl) (fun _ _ _ h => h) (Or.inl ⟨by rfl, ?h4⟩) hS0 ?_
    case h4 => intro wq hS; obtain ⟨s1, s2⟩ := hS; go_simp; with_reducible rfl
    refine wpAnyH_take (i := 5) (v := ?v5) rfl (by kernel_rfl) (by kernel_rfl) (by kernel_rfl) (fun _ _ _ h => h) (Or.inl ⟨by rfl, ?h5⟩) hS0 ?_
    case h5 => intro wq hS; obtain ⟨s1, s2⟩ := hS; go_simp; with_reducible rfl
    refine wpAnyH_take (i := 6) (v := ?v6) rfl (by kernel_rfl) (by kernel_rfl) (by kernel_rfl) (fun _ _ _ h => h) (Or.inl ⟨by rfl, ?h6⟩) hS0 ?_
    case h6 => intro wq hS; obtain ⟨s1, s2⟩ := hS; go_simp; with_reducible rfl
    refine wpAnyH_ready (rs := [7]) (by kernel_rfl) (by simp) ?_
    refine AllReadyH.cons rfl (fun K hK => ?_) AllReadyH.nil
    go_simp
    refine (with_any 0 0 0 _ (by omega) (by omega) (by omega)).mono ?_
    rintro e w2 ⟨rfl, hB2⟩
    have k2 : Kept (fun _ => False) w1 w2 := ((Kept.refl (fun _ => False) w1).drew).trans (Kept.of_below hB2 (Nat.le_refl _) (fun _ => False))
    have c0 := cellK k2 c0 (fun h => h)
    have c1 := cellK k2 c1 (fun h => h)
    have hm2 : Made w2 (w.heap.size + 2) noRun := Made.keep HM2.out k2 (fun h => h)
    have HM1' : Hid (Made w2 (w.heap.size + 1) noRun) := Made.keep HM1.out k2 (fun h => h)
    have HBL' : Hid (Below w.heap.size w w2) := (HBL.out.drew).trans (hB2.mono (by have := HZ.out; show _ ≤ w1.heap.size; omega))
    have m0 := hm2.c0 hc
    have m1 := hm2.c1 hc
    have f0 := hm2.frozen (c * 2)
    have f1 := hm2.frozen (c * 2 + 1)
    have HP : Hid _ := hm2.put hc (1, 0)
    clear hB2 k2 hm2 HM2 HM1 HBL hS0
    refine hK.out _ _ ⟨c0, c1⟩ (fun _ => ?_)
    clear hK K
    unfold runV
    refine wpAnyH_take (i := 8) (v := ?v8) rfl (by kernel_rfl) (by kernel_rfl) (by kernel_rfl) (fun _ _ _ h => h) (Or.inl ⟨by rfl, ?h8⟩) ⟨c0, c1⟩ ?_
    case h8 => intro wq hS; obtain ⟨s1, s2⟩ := hS; go_simp; with_reducible rfl
    refine wpAnyH_ready (rs := [9]) (by kernel_rfl) (by simp) ?_
    refine AllReadyH.cons rfl (fun K hK => ?_) AllReadyH.nil
    go_simp
    have kp : Kept (fun k => k = w.heap.size + 2) w2 ((w2.setCell ⟨w.heap.size + 2, c * 2, none⟩ (.int .i64 1)).setCell ⟨w.heap.size + 2, c * 2 + 1, none⟩ (.int .u64 0)) := ((Kept.refl (fun k => k = w.heap.size + 2) w2).setCell (show (⟨w.heap.size + 2, c * 2, none⟩ : Addr).block = w.heap.size + 2 from rfl) _).setCell (show (⟨w.heap.size + 2, c * 2 + 1, none⟩ : Addr).block = w.heap.size + 2 from rfl) _
    have HM2 : Hid (Made ((w2.setCell ⟨w.heap.size + 2, c * 2, none⟩ (.int .i64 1)).setCell ⟨w.heap.size + 2, c * 2 + 1, none⟩ (.int .u64 0)) (w.heap.size + 2) (updR noRun c (1, 0))) := HP
    have HM1 : Hid (Made ((w2.setCell ⟨w.heap.size + 2, c * 2, none⟩ (.int .i64 1)).setCell ⟨w.heap.size + 2, c * 2 + 1, none⟩ (.int .u64 0)) (w.heap.size + 1) noRun) := Made.keep HM1'.out kp (by omega)
    have HBL : Hid (Below w.heap.size w ((w2.setCell ⟨w.heap.size + 2, c * 2, none⟩ (.int .i64 1)).setCell ⟨w.heap.size + 2, c * 2 + 1, none⟩ (.int .u64 0))) := kp.bel HBL'.out (Nat.le_refl _) (fun k hk => by omega)
    refine hK.out _ _ ⟨cellK kp c0 hgM, cellK kp c1 hbM⟩ (fun _ => ?_)
    clear hK K kp HP HM1' HBL' c0 c1 m0 m1 f0 f1
    generalize ((w2.setCell ⟨w.heap.size + 2, c * 2, none⟩ (.int .i64 1)).setCell ⟨w.heap.size + 2, c * 2 + 1, none⟩ (.int .u64 0)) = w3 at *
    refine wpAnyH_done (by kernel_rfl) ?_ _
    go_wp2_with (first
      | (refine wpList_load_row rfl 115 _ rfl (w.heap.size + 2) rfl 115 (rowR (updR noRun c (1, 0))) (0, 0) _ (by exact HM2.out) Tryz.underlying115 rfl (by rw [size_rowR]; exact size512) ?_)
      | (refine wpList_store_row rfl 115 _ _ rfl (w.heap.size + 1) (rowR (updR noRun c (1, 0))) rfl rfl 115 (rowR noRun) (by exact HM1.out) (by rw [size_rowR]; exact size512) (by simp only [size_rowR]) (rowR_one _) ?_))
    refine bodyPost_ret (results_cell_row Tryz.results79 _ _ (w.heap.size + 1) 115 (rowR (updR noRun c (1, 0))) (0, 0) _ rfl (setRow_heap _ _ _ _ _ _ HM1.out) Tryz.underlying115 rfl (by rw [size_rowR]; exact size512)) rfl ⟨⟨_, rfl, .inr (.inl ⟨c, hc, HT.out, rfl⟩)⟩, ?_⟩
    exact below_setRow HBL.out (by omega) _
  · obtain ⟨g, cap, hva, _, hgl⟩ := OW.out.form (by omega)
    have hrow := prow_own (hva ▸ OW.out) rfl
    have hgM1 : w.heap.size + 3 ≤ g := (HLOW.out g (by rw [hva]; rfl)).1
    have hjoin := join_any f w1 g cap L (leavesTo f 256) hrow TR.out (fun e => by rw [HLL.out, e] at h2; simp at h2) (leaves_len f 256)
      (fun t ht => by obtain ⟨c, e, _, h⟩ := leaves_mem ht; exact ⟨c, e, h⟩) (leaves_nodup f 256)
      (fun t ht hnd => Nat.le_trans (HW.out t hnd (fun c hc => by have := ht c hc; rw [leaves_flat] at this; simp at this; exact this.1)) (by omega))
      (fun c hc => by rw [leaves_flat] at hc; simp at hc; exact hc.1)
    have h2i : (2 : Int) ≤ (L.length : Int) := by omega
    have h20 : ((L.length : Int) == 0) = false := beq_false_of_ne (by omega)
    have h21 : ((L.length : Int) == 1) = false := beq_false_of_ne (by omega)
    have H2L : Hid (2 ≤ (leavesTo f 256).length) := by rw [← HLL.out]; exact h2
    rw [hva]
    clear hrow hva OW TR HLOW HLL HF
    go_wp2_with fail
    refine hjoin.mono ?_
    rintro e w2 ⟨b, l2, rfl, hperm, hinv, htree, hk2⟩
    have hl2 : l2.length = (l2.length - 1) + 1 := by
      have h3 := hperm.length_eq
      have h4 := H2L.out
      omega
    obtain ⟨hI, hB⟩ := Hf.join_good (l2.length - 1) l2 hl2 hinv
    have hbytes : ∀ c ∈ Hf.bytes (Hf.join f l2), c < 256 := fun c hc => by
      have h3 := (Hf.flat_perm hperm).mem_iff.1 (hB.mem_iff.1 hc)
      rw [leaves_flat] at h3
      simp at h3
      exact h3.1
    have hnd : (Hf.bytes (Hf.join f l2)).Nodup := by
      have := hI.nd
      simpa using this
    have hht := Hf.ht_leG (hI.gd _ (by simp)) (fun c hc => hI.pos _ (by simp) c hc) (HW.out _ hnd hbytes)
    have hm2 : Made w2 (w.heap.size + 2) noRun := Made.keep HM2.out hk2 (by omega)
    have hspell := spell_any f (Hf.join f l2) b (w.heap.size + 2) 0 0 noRun w2 htree hm2 hbytes (by omega) (by omega)
    have HM1' : Hid (Made w2 (w.heap.size + 1) noRun) := Made.keep HM1.out hk2 (by omega)
    have HBL' : Hid (Below w.heap.size w w2) := hk2.bel HBL.out (Nat.le_refl _) (fun k hk => by omega)
    have HC : Hid (CodesOf f (spellF (Hf.join f l2) 0 0 noRun)) := .inr (.inr ⟨H2L.out, l2, hperm, hinv, rfl⟩)
    clear hperm hinv htree hk2 hl2 hI hB hbytes hnd hht hm2 hjoin HM1 HM2 HBL H2L
    go_wp2_with fail
    refine hspell.mono ?_
    rintro e w3 ⟨rfl, hm3, hk3⟩
    have HM2 : Hid _ := hm3
    have HM1 : Hid (Made w3 (w.heap.size + 1) noRun) := Made.keep HM1'.out hk3 (by omega)
    have HBL : Hid (Below w.heap.size w w3) := hk3.bel HBL'.out (Nat.le_refl _) (fun k hk => by omega)
    clear hm3 hk3 hspell HM1' HBL'
    go_wp2_with (first
      | (refine wpList_load_row rfl 115 _ rfl (w.heap.size + 2) rfl 115 (rowR (spellF (Hf.join f l2) 0 0 noRun)) (0, 0) _ (by exact HM2.out) Tryz.underlying115 rfl (by rw [size_rowR]; exact size512) ?_)
      | (refine wpList_store_row rfl 115 _ _ rfl (w.heap.size + 1) (rowR (spellF (Hf.join f l2) 0 0 noRun)) rfl rfl 115 (rowR noRun) (by exact HM1.out) (by rw [size_rowR]; exact size512) (by simp only [size_rowR]) (rowR_one _) ?_))
    refine bodyPost_ret (results_cell_row Tryz.results79 _ _ (w.heap.size + 1) 115 (rowR (spellF (Hf.join f l2) 0 0 noRun)) (0, 0) _ rfl (setRow_heap _ _ _ _ _ _ HM1.out) Tryz.underlying115 rfl (by rw [size_rowR]; exact size512)) rfl ⟨⟨_, rfl, HC.out⟩, ?_⟩
    exact below_setRow HBL.out (by omega) _

theorem of_any (f : Nat → Nat) (w : World) (hw : ∀ t, (Hf.bytes t).Nodup → (∀ c ∈ Hf.bytes t, c < 256) → Hf.wt f t ≤ 1000) (hf : ∀ c, f c ≤ 1000000) :
    Calls Tryz.prog 79 #[.agg (rowC 256 f)] w fun e w' => (∃ G, e = .returned (.agg (rowR G)) ∧ CodesOf f G) ∧ Below w.heap.size w w' :=
  of_anyG f w (fun t a b => Nat.le_trans (hw t a b) (by omega)) hf

end Go.Proofs.YtopihgmemnokkaaGreat

namespace Go.Proofs.YtopihgmemnokkaaGreat
open Go.RowKit

/-- a run's bits -/
def bl (x : Nat × Nat) : List Bool := (List.range x.1).map fun i => decide (x.2 / 2 ^ (x.1 - 1 - i) % 2 = 1)
theorem bl_len (x : Nat × Nat) : (bl x).length = x.1 := by simp [bl]
theorem bl_snoc (n v : Nat) (b : Bool) : bl (n + 1, 2 * v + b.toNat) = bl (n, v) ++ [b] := by
  have hb : b.toNat ≤ 1 := Bool.toNat_le _
  unfold bl
  simp only
  rw [List.range_succ, List.map_append]
  congr 1
  · apply List.map_congr_left
    intro i hi
    have hi' : i < n := by simpa using hi
    have e : (2 * v + b.toNat) / 2 ^ (n + 1 - 1 - i) = v / 2 ^ (n - 1 - i) := by
      rw [show n + 1 - 1 - i = (n - 1 - i) + 1 by omega, Nat.pow_succ, Nat.mul_comm (2 ^ (n - 1 - i)) 2, ← Nat.div_div_eq_div_mul]
      congr 1; omega
    rw [e]
  · simp only [List.map_cons, List.map_nil]
    rw [show n + 1 - 1 - n = 0 by omega, Nat.pow_zero, Nat.div_one]
    congr 1
    cases b
    · simp
    · simp

def numv (v : Nat) : List Bool → Nat
  | [] => v
  | b :: p => numv (2 * v + b.toNat) p
theorem bl_app : ∀ (p : List Bool) (n v : Nat), bl (n + p.length, numv v p) = bl (n, v) ++ p
  | [], n, v => by simp [numv]
  | b :: p, n, v => by
    have := bl_app p (n + 1) (2 * v + b.toNat)
    rw [bl_snoc, List.append_assoc] at this
    simp only [numv, List.length_cons]
    rw [show n + (p.length + 1) = n + 1 + p.length by omega, this]; rfl

theorem spellF_spec : ∀ (t : Hf.T) (n v : Nat) (g : Nat → Nat × Nat), (Hf.bytes t).Nodup →
    (∀ x ∈ Hf.paths t, spellF t n v g x.1 = (n + x.2.length, numv v x.2)) ∧ (∀ c, c ∉ Hf.bytes t → spellF t n v g c = g c)
  | .leaf c, n, v, g, _ => by
    refine ⟨fun x hx => ?_, fun d hd => ?_⟩
    · simp [Hf.paths] at hx; subst hx; simp [spellF, updR, numv]
    · simp [Hf.bytes] at hd; simp [spellF, updR, hd]
  | .node l r, n, v, g, hn => by
    have hn' := List.nodup_append.1 hn
    obtain ⟨l1, l2⟩ := spellF_spec l (n + 1) (2 * v) g hn'.1
    obtain ⟨r1, r2⟩ := spellF_spec r (n + 1) (2 * v + 1) (spellF l (n + 1) (2 * v) g) hn'.2.1
    refine ⟨fun x hx => ?_, fun c hc => ?_⟩
    · simp only [Hf.paths, List.mem_append, List.mem_map] at hx
      simp only [spellF]
      rcases hx with ⟨y, hy, rfl⟩ | ⟨y, hy, rfl⟩
      · have hyb : y.1 ∈ Hf.bytes l := by rw [← Hf.paths_bytes]; exact List.mem_map_of_mem (f := Prod.fst) hy
        have hyr : y.1 ∉ Hf.bytes r := fun h => hn'.2.2 _ hyb _ h rfl
        rw [r2 y.1 hyr, l1 y hy]
        simp [numv]; omega
      · rw [r1 y hy]
        simp [numv]; omega
    · simp only [Hf.bytes, List.mem_append, not_or] at hc
      simp only [spellF]
      rw [r2 c hc.2, l2 c hc.1]

/-- a sum -/
def sm : Nat → (Nat → Nat) → Nat
  | 0, _ => 0
  | k + 1, g => sm k g + g k
theorem sm_congr {k : Nat} {g h : Nat → Nat} (e : ∀ c, c < k → g c = h c) : sm k g = sm k h := by
  induction k with
  | zero => rfl
  | succ k ih => simp only [sm]; rw [ih (fun c hc => e c (by omega)), e k (by omega)]
theorem sm_le {k : Nat} {g h : Nat → Nat} (e : ∀ c, c < k → g c ≤ h c) : sm k g ≤ sm k h := by
  induction k with
  | zero => exact Nat.le_refl _
  | succ k ih => simp only [sm]; have := ih (fun c hc => e c (by omega)); have := e k (by omega); omega
theorem sm_filter (f g : Nat → Nat) (k : Nat) : (((List.range k).filter fun c => decide (0 < f c)).map g).sum = sm k fun c => if 0 < f c then g c else 0 := by
  induction k with
  | zero => rfl
  | succ k ih =>
    rw [List.range_succ, List.filter_append, List.map_append, List.sum_append, ih]
    simp only [sm]
    by_cases h : 0 < f k <;> simp [h]

/-- what codes are -/
structure Codes (f : Nat → Nat) (k : Nat → List Bool) : Prop where
  none : ∀ c, c < 256 → f c = 0 → k c = []
  some : ∀ c, c < 256 → 0 < f c → k c ≠ []
  free : ∀ c d, c < 256 → d < 256 → c ≠ d → 0 < f c → 0 < f d → ¬ k c <+: k d
  len : ∀ c, c < 256 → (k c).length ≤ 64
  opt : ∀ (N : Nat) (ℓ : Nat → Nat), (∀ c, c < 256 → 0 < f c → 1 ≤ ℓ c ∧ ℓ c ≤ N) → (sm 256 fun c => if 0 < f c then 2 ^ (N - ℓ c) else 0) ≤ 2 ^ N →
    (sm 256 fun c => f c * (k c).length) ≤ sm 256 fun c => if 0 < f c then f c * ℓ c else 0

theorem leaf_there {f : Nat → Nat} {c : Nat} (hc : c < 256) (h : 0 < f c) : Hf.T.leaf c ∈ leavesTo f 256 := by
  unfold leavesTo; simp [hc, h]

theorem codes_ofG {f : Nat → Nat} {G : Nat → Nat × Nat} (h : CodesOf f G) (hw : ∀ t, (Hf.bytes t).Nodup → (∀ c ∈ Hf.bytes t, c < 256) → Hf.wt f t ≤ 17000000) : Codes f (fun c => bl (G c)) := by
  rcases h with ⟨h0, rfl⟩ | ⟨c0, hc0, h1, rfl⟩ | ⟨h2, l, hperm, hinv, rfl⟩
  · have hno : ∀ c, c < 256 → f c = 0 := fun c hc => by
      rcases Nat.eq_zero_or_pos (f c) with h | h
      · exact h
      · have := leaf_there hc h; rw [h0] at this; simp at this
    refine ⟨fun c _ _ => rfl, fun c hc h => by have := hno c hc; omega, fun c d hc _ _ h => by have := hno c hc; omega, fun c _ => by simp [noRun, bl], fun N ℓ _ _ => ?_⟩
    rw [sm_congr (h := fun _ => 0) (fun c hc => by rw [hno c hc]; simp)]
    exact sm_le (fun c _ => Nat.zero_le _)
  · have hno : ∀ c, c < 256 → 0 < f c → c = c0 := fun c hc h => by
      have := leaf_there hc h; rw [h1] at this; simpa using this
    have hb : bl (updR noRun c0 (1, 0) c0) = [false] := by simp [updR, bl]
    have hz : ∀ c, c ≠ c0 → bl (updR noRun c0 (1, 0) c) = [] := fun c hc => by simp [updR, noRun, bl, hc]
    have hf0 : 0 < f c0 := by
      obtain ⟨c, e, _, h⟩ := leaves_mem (f := f) (k := 256) (t := .leaf c0) (by rw [h1]; simp)
      have : c0 = c := by simpa using e
      rw [this]; exact h
    refine ⟨fun c hc h => ?_, fun c hc h => ?_, fun c d hc hd hne h1 h2 => ?_, fun c hc => ?_, fun N ℓ hℓ _ => ?_⟩
    · by_cases e : c = c0
      · subst e; omega
      · exact hz c e
    · rw [hno c hc h, hb]; simp
    · exact absurd ((hno c hc h1).trans (hno d hd h2).symm) hne
    · by_cases e : c = c0
      · subst e; rw [hb]; simp
      · rw [hz c e]; simp
    · refine sm_le (fun c hc => ?_)
      by_cases e : c = c0
      · subst e
        rw [hb, if_pos hf0]
        exact Nat.mul_le_mul_left _ (by have := (hℓ c hc hf0).1; simpa using this)
      · rw [hz c e]; simp
  · have hl2 : l.length = (l.length - 1) + 1 := by have := hperm.length_eq; omega
    obtain ⟨hI, hB⟩ := Hf.join_good (l.length - 1) l hl2 hinv
    have hBf : (Hf.bytes (Hf.join f l)).Perm ((List.range 256).filter fun c => decide (0 < f c)) := by
      rw [← leaves_flat]; exact hB.trans (Hf.flat_perm hperm)
    have hbytes : ∀ c ∈ Hf.bytes (Hf.join f l), c < 256 ∧ 0 < f c := fun c hc => by
      have := hBf.mem_iff.1 hc; simpa using this
    have hnd : (Hf.bytes (Hf.join f l)).Nodup := by have := hI.nd; simpa using this
    obtain ⟨sp1, sp2⟩ := spellF_spec (Hf.join f l) 0 0 noRun hnd
    have hht := Hf.ht_leG (hI.gd _ (by simp)) (fun c hc => hI.pos _ (by simp) c hc) (hw _ hnd (fun c hc => (hbytes c hc).1))
    have hcode : ∀ x ∈ Hf.paths (Hf.join f l), bl (spellF (Hf.join f l) 0 0 noRun x.1) = x.2 := fun x hx => by
      rw [sp1 x hx, bl_app]; simp [bl]
    have hget : ∀ c, c < 256 → 0 < f c → ∃ p, (c, p) ∈ Hf.paths (Hf.join f l) := fun c hc h => by
      have : c ∈ Hf.bytes (Hf.join f l) := hBf.mem_iff.2 (by simp [hc, h])
      rw [← Hf.paths_bytes] at this
      obtain ⟨x, hx, rfl⟩ := List.mem_map.1 this
      exact ⟨x.2, hx⟩
    have hnone : ∀ c, c < 256 → f c = 0 → bl (spellF (Hf.join f l) 0 0 noRun c) = [] := fun c hc h => by
      rw [sp2 c (fun hm => by have := (hbytes c hm).2; omega)]; simp [noRun, bl]
    have hnode : ∃ a b, Hf.join f l = .node a b := by
      cases ht : Hf.join f l with
      | node a b => exact ⟨a, b, rfl⟩
      | leaf c =>
        have h3 := hBf.length_eq
        rw [ht, ← leaves_flat] at h3
        have h4 : ((leavesTo f 256).flatMap Hf.bytes).length = (leavesTo f 256).length := by rw [leaves_flat]; unfold leavesTo; simp
        rw [h4] at h3
        simp [Hf.bytes] at h3
        omega
    refine ⟨hnone, fun c hc h => ?_, fun c d hc hd hne h1 h2 => ?_, fun c hc => ?_, fun N ℓ hℓ hk => ?_⟩
    · obtain ⟨p, hp⟩ := hget c hc h
      have := hcode _ hp
      simp only at this ⊢
      rw [this]
      obtain ⟨a, b, hab⟩ := hnode
      rw [hab] at hp
      simp only [Hf.paths, List.mem_append, List.mem_map] at hp
      rcases hp with ⟨y, _, e⟩ | ⟨y, _, e⟩
      · have := congrArg Prod.snd e; simp only at this; rw [← this]; simp
      · have := congrArg Prod.snd e; simp only at this; rw [← this]; simp
    · obtain ⟨p, hp⟩ := hget c hc h1
      obtain ⟨q, hq⟩ := hget d hd h2
      have e1 := hcode _ hp
      have e2 := hcode _ hq
      simp only at e1 e2 ⊢
      rw [e1, e2]
      exact Hf.paths_free _ _ _ hp hq hne
    · rcases Nat.eq_zero_or_pos (f c) with h | h
      · rw [hnone c hc h]; simp
      · obtain ⟨p, hp⟩ := hget c hc h
        have e1 := hcode _ hp
        have := Hf.paths_len _ _ hp
        simp only at e1 this ⊢
        rw [e1]; omega
    · have hcost := Hf.paths_cost f (Hf.join f l)
      have hmap : (Hf.paths (Hf.join f l)).map (fun x => f x.1 * x.2.length) = (Hf.bytes (Hf.join f l)).map (fun c => f c * (bl (spellF (Hf.join f l) 0 0 noRun c)).length) := by
        rw [← Hf.paths_bytes, List.map_map]
        apply List.map_congr_left
        intro x hx
        simp only [Function.comp]
        rw [hcode x hx]
      rw [hmap, (hBf.map _).sum_nat, sm_filter] at hcost
      have hs1 : (sm 256 fun c => f c * (bl (spellF (Hf.join f l) 0 0 noRun c)).length) = Hf.cost f (Hf.join f l) := by
        rw [← hcost]
        apply sm_congr
        intro c _
        by_cases h : 0 < f c
        · simp [h]
        · have : f c = 0 := by omega
          simp [this]
      rw [hs1]
      have hleaf : ∀ t ∈ l, ∃ c, t = .leaf c ∧ c < 256 ∧ 0 < f c := fun t ht => leaves_mem (hperm.mem_iff.1 ht)
      have hm : (l.map fun t => (t, ℓ (Hf.least t))).map Prod.fst = l := by rw [List.map_map]; exact List.map_id _
      have hopt := Hf.opt f N (l.length - 1) (l.map fun t => (t, ℓ (Hf.least t))) (by simpa using hl2) (by rw [hm]; exact hinv) (fun p hp => by
          obtain ⟨t, ht, rfl⟩ := List.mem_map.1 hp
          obtain ⟨c, rfl, hc, h⟩ := hleaf t ht
          exact (hℓ c hc h).2) (by
          unfold Hf.kr
          rw [List.map_map, (hperm.map _).sum_nat]
          unfold leavesTo
          rw [List.map_map, sm_filter]
          refine Nat.le_trans (Nat.le_of_eq ?_) hk
          apply sm_congr
          intro c _
          rfl)
      rw [hm] at hopt
      refine Nat.le_trans hopt ?_
      unfold Hf.cs
      rw [List.map_map, (hperm.map _).sum_nat]
      unfold leavesTo
      rw [List.map_map, sm_filter]
      refine Nat.le_of_eq (sm_congr fun c _ => ?_)
      by_cases h : 0 < f c
      · simp [h, Hf.cost, Hf.wt, Hf.least]
      · simp [h]
theorem codes_of {f : Nat → Nat} {G : Nat → Nat × Nat} (h : CodesOf f G) (hw : ∀ t, (Hf.bytes t).Nodup → (∀ c ∈ Hf.bytes t, c < 256) → Hf.wt f t ≤ 1000) : Codes f (fun c => bl (G c)) :=
  codes_ofG h fun t a b => Nat.le_trans (hw t a b) (by omega)

end Go.Proofs.YtopihgmemnokkaaGreat

