import Derived.Test.YtopihgmemnokkaaGreatCodeW3C
import Derived.Shelf.SlCmpFuncs.None
namespace Go.Proofs.YtopihgmemnokkaaGreat
open Go.RowKit Go.Shelf Go.Lib

theorem Trees.putAt {f : Nat → Nat} {w : World} {L : List Nat} {l : List Hf.T} (h : Trees f w L l) (x : Hf.T) (bx : Nat) (hx : TreeAt f w x bx) : Trees f w (Go.Proofs.YtopihgmemnokkaaGreat.putAt L (l.countP fun y => Hf.lt f y x) bx) (Hf.put f x l) := by
  have hc : (l.countP fun y => Hf.lt f y x) ≤ l.length := List.countP_le_length
  generalize hk : (l.countP fun y => Hf.lt f y x) = k at *
  have hput : Hf.put f x l = l.take k ++ x :: l.drop k := by unfold Hf.put; rw [hk]
  have hgt : ∀ j, (Hf.put f x l)[j]? = if j < k then l[j]? else if j = k then some x else l[j - 1]? := by
    intro j
    rw [hput]
    by_cases h1 : j < k
    · rw [List.getElem?_append_left (by simp; omega), if_pos h1, List.getElem?_take, if_pos h1]
    · rw [if_neg h1, List.getElem?_append_right (by simp; omega)]
      by_cases h2 : j = k
      · subst h2
        have : j - (l.take j).length = 0 := by simp; omega
        rw [this]; simp
      · rw [if_neg h2]
        have : j - (l.take k).length = (j - 1 - k) + 1 := by simp; omega
        rw [this, List.getElem?_cons_succ, List.getElem?_drop]
        congr 1; omega
  refine ⟨by rw [putAt_len, Hf.put_length, h.1], fun j b t hj ht => ?_⟩
  rw [putAt_get _ _ _ _ (by rw [h.1]; exact hc)] at hj
  rw [hgt] at ht
  by_cases h1 : j < k
  · rw [if_pos h1] at hj ht; exact h.2 j b t hj ht
  · rw [if_neg h1] at hj ht
    by_cases h2 : j = k
    · rw [if_pos h2] at hj ht
      have e1 : bx = b := by simpa using hj
      have e2 : x = t := by simpa using ht
      rw [← e1, ← e2]; exact hx
    · rw [if_neg h2] at hj ht; exact h.2 (j - 1) b t hj ht

/-- search among trees, also among none -/
theorem search_all (f : Nat → Nat) (w : World) (g off cap : Nat) (L : List Nat) (l : List Hf.T) (h : PRow w g off cap L) (ht : Trees f w L l) (hl : L.length ≤ 256) (x : Hf.T) (bx : Nat) (hx : TreeAt f w x bx) (hs : Hf.Srt f l) :
    Calls Tryz.prog 154 #[.slice (some ⟨g, off, none⟩) L.length cap, .pointer (some ⟨bx, 0, none⟩), .func (.func 153) #[] #[]] w fun e w' =>
      (∃ o, e = .returned (.tuple #[.int .i64 (l.countP (fun y => Hf.lt f y x) : Nat), .bool o])) ∧ PRow w' g off cap L ∧ Trees f w' L l ∧ TreeAt f w' x bx ∧ Kept (fun k => k = g) w w' := by
  by_cases hne : L = []
  · subst hne
    have hl0 : l = [] := List.length_eq_zero_iff.1 (by have := ht.1; simpa using this.symm)
    subst hl0
    refine (Any.slices_BinarySearchFunc_none Tryz.searchTree (some ⟨g, off, none⟩) cap _ _ w).mono ?_
    rintro e w' ⟨rfl, rfl⟩
    exact ⟨⟨false, rfl⟩, h, ht, hx, Kept.refl _ _⟩
  · exact searchT_any f w g off cap L l h ht hl hne x bx hx hs

theorem srt_of {f : Nat → Nat} {l : List Hf.T} (h : l.Pairwise fun a b => Hf.lt f b a = false) (hd : (l.flatMap Hf.bytes).Nodup) : Hf.Srt f l := by
  induction l with
  | nil => exact List.Pairwise.nil
  | cons a l ih =>
    have h1 := List.pairwise_cons.1 h
    refine List.pairwise_cons.2 ⟨fun b hb => ?_, ih h1.2 (by rw [List.flatMap_cons, List.nodup_append] at hd; exact hd.2.1)⟩
    refine Hf.lt_total ?_ (h1.1 b hb)
    intro e
    exact Hf.nd_least hd hb _ (Hf.least_mem a) (by rw [← e]; exact Hf.least_mem b)

/-- leaves that are all there is -/
theorem inv_leaves {f : Nat → Nat} {l : List Hf.T} (hl : ∀ t ∈ l, ∃ c, t = .leaf c ∧ 0 < f c) (hd : (l.flatMap Hf.bytes).Nodup) (hs : Hf.Srt f l) : Hf.Inv f l := by
  refine ⟨hs, ?_, hd, ?_, ?_⟩
  · intro t ht c hc
    obtain ⟨d, rfl, hf⟩ := hl t ht
    simp [Hf.bytes] at hc
    rw [hc]; exact hf
  · intro t ht
    obtain ⟨d, rfl, _⟩ := hl t ht
    trivial
  · intro t ht u _
    obtain ⟨d, rfl, _⟩ := hl t ht
    exact Nat.zero_le _

/-- how long a slice is -/
def lenOf (v : Value) : Nat := match v with | .slice _ n _ => n | _ => 0

/-- what is kept in the loop of join -/
structure JS (f : Nat → Nat) (w : World) (g0 : Nat) (t0 : Hf.T) (tv : Value) (wr : World) (l : List Hf.T) (L : List Nat) (g off cap : Nat) : Prop where
  tv : tv = .slice (some ⟨g, off, none⟩) L.length cap
  row : PRow wr g off cap L
  trees : Trees f wr L l
  inv : Hf.Inv f l
  len : l.length ≤ 256
  ne : l ≠ []
  end_ : Hf.join f l = t0
  kept : Kept (fun k => k = g0) w wr
  at_ : g = g0 ∨ w.heap.size ≤ g

theorem keptN (w : World) (n : Nat) : Kept (fun _ => False) w (w.drewN n) := ⟨rfl, rfl, rfl, Nat.le_refl _, fun _ _ _ => rfl⟩

theorem one_or_more {L : List Nat} {l : List Hf.T} (h : L.length = l.length) (hn : l ≠ []) : (∃ a ba, l = [a] ∧ L = [ba]) ∨ ∃ a b l3 ba bb L3, l = a :: b :: l3 ∧ L = ba :: bb :: L3 := by
  match l, L, h with
  | [], _, _ => exact absurd rfl hn
  | [a], [ba], _ => exact .inl ⟨a, ba, rfl, rfl⟩
  | a :: b :: l3, ba :: bb :: L3, _ => exact .inr ⟨a, b, l3, ba, bb, L3, rfl, rfl⟩

set_option maxRecDepth 100000 in
set_option maxHeartbeats 1000000 in
theorem join_any (f : Nat → Nat) (w : World) (g cap : Nat) (L : List Nat) (l : List Hf.T) (h : PRow w g 0 cap L) (ht : Trees f w L l) (hne : l ≠ []) (hl : l.length ≤ 256) (hlv : ∀ t ∈ l, ∃ c, t = .leaf c ∧ 0 < f c) (hd : (l.flatMap Hf.bytes).Nodup) (hw : ∀ t, (∀ c ∈ Hf.bytes t, c ∈ l.flatMap Hf.bytes) → (Hf.bytes t).Nodup → Hf.wt f t ≤ 17000000) (hb : ∀ c ∈ l.flatMap Hf.bytes, c < 256) :
    Calls Tryz.prog 118 #[.slice (some ⟨g, 0, none⟩) L.length cap] w fun e w' => ∃ b l', e = .returned (.pointer (some ⟨b, 0, none⟩)) ∧ l'.Perm l ∧ Hf.Inv f l' ∧ TreeAt f w' (Hf.join f l') b ∧ Kept (fun k => k = g) w w' := by
  have hLl : L.length = l.length := ht.1
  have HW : Hid _ := hw
  have HB : Hid _ := hb
  have HLV : Hid _ := hlv
  have HD : Hid _ := hd
  have HH : Hid _ := h
  have HT : Hid _ := ht
  have hL256 : L.length ≤ 256 := by omega
  have hL0 : L ≠ [] := fun e => hne (List.length_eq_zero_iff.1 (by rw [← hLl, e]; rfl))
  have HLl : Hid (L.length = l.length) := hLl
  have HNE : Hid (l ≠ []) := hne
  clear hw hb hlv hd h ht hLl hne
  go_enter Tryz.func118, Tryz.ntmps118
  go_wp2_with fail
  refine (sortT_any f w g 0 cap L l HH.out HT.out hL256 hL0).mono ?_
  rintro e w1 ⟨rfl, L1, l1, r1, t1, p1, s1, k1⟩
  have hd1 : (l1.flatMap Hf.bytes).Nodup := (Hf.flat_perm p1).nodup_iff.2 HD.out
  have hlv1 : ∀ t ∈ l1, ∃ c, t = .leaf c ∧ 0 < f c := fun t h => HLV.out t (p1.mem_iff.1 h)
  have HI1 : Hid _ := inv_leaves hlv1 hd1 (srt_of s1 hd1)
  have hL1 : L1.length = L.length := by rw [t1.1, p1.length_eq, HLl.out]
  have HNE1 : Hid (l1 ≠ []) := fun e => HNE.out (List.length_eq_zero_iff.1 (by rw [← p1.length_eq, e]; rfl))
  have hl1 : l1.length ≤ 256 := by rw [p1.length_eq]; exact hl
  rw [← hL1]
  have R1 : Hid _ := r1
  have T1 : Hid _ := t1
  have P1 : Hid _ := p1
  have K1 : Hid _ := k1
  clear hlv1 s1 hL1 hd1 r1 t1 p1 k1 HH HT
  go_wp2
  go_loopw [0, 3, 4, 5, 6, 7] (fun tv _ _ _ _ _ wr => ∃ (l : List Hf.T) (L : List Nat) (g2 off cap2 : Nat), JS f w g (Hf.join f l1) tv wr l L g2 off cap2 ∧ (l.flatMap Hf.bytes).Perm (l1.flatMap Hf.bytes)) (fun tv _ _ _ _ _ _ => lenOf tv)
  case atStart => exact ⟨l1, L1, g, 0, cap, ⟨rfl, R1.out, T1.out, HI1.out, hl1, HNE1.out, rfl, K1.out, .inl rfl⟩, List.Perm.refl _⟩
  case round =>
    clear R1 T1 hl1 HNE1 K1
    obtain ⟨l2, L2, g2, off, cap2, J, hp2⟩ := hrel
    obtain ⟨rfl, row, trees, inv, len, ne, end_, kept, at_⟩ := J
    rcases one_or_more trees.1 ne with ⟨a, ba, rfl, rfl⟩ | ⟨a, b, l3, ba, bb, L3, rfl, rfl⟩
    · have c0 : wr.cell? ⟨g2, off, none⟩ = some (.pointer (some ⟨ba, 0, none⟩)) := row.cells 0 ba rfl
      have ta := trees.2 0 ba a rfl rfl
      have TA : Hid _ := ta
      have KE : Hid _ := kept
      have EN : Hid _ := end_
      rw [show [ba].length = 1 from rfl]
      clear hp2 inv len ne end_ row trees ta kept at_
      go_wp2
      go_ret
      exact ⟨ba, l1, rfl, P1.out, HI1.out, by rw [← EN.out]; exact TA.out, KE.out⟩
    · have c0 : wr.cell? ⟨g2, off, none⟩ = some (.pointer (some ⟨ba, 0, none⟩)) := row.cells 0 ba rfl
      have c1 := row.cells 1 bb rfl
      have ta := trees.2 0 ba a rfl rfl
      have tb := trees.2 1 bb b rfl rfl
      have a0 := ta.c0
      have a1 := ta.c1
      have b0 := tb.c0
      have b1 := tb.c1
      have hall : ∀ c ∈ Hf.bytes (.node a b), c ∈ l.flatMap Hf.bytes := fun c hc => by
        have h1 : c ∈ (a :: b :: l3).flatMap Hf.bytes := by
          simp only [Hf.bytes, List.mem_append] at hc
          simp only [List.flatMap_cons, List.mem_append]
          rcases hc with h | h
          · exact .inl h
          · exact .inr (.inl h)
        exact (Hf.flat_perm P1.out).mem_iff.1 (hp2.mem_iff.1 h1)
      have hnd : (Hf.bytes (.node a b)).Nodup := by
        have := inv.nd
        simp only [List.flatMap_cons] at this
        rw [← List.append_assoc] at this
        exact (List.nodup_append.1 this).1
      have hwab := HW.out (.node a b) hall hnd
      simp only [Hf.wt] at hwab
      have hla : Hf.least a < 256 := HB.out _ (hall _ (by simp [Hf.bytes, Hf.least_mem]))
      have hlb : Hf.least b < 256 := HB.out _ (hall _ (by simp [Hf.bytes, Hf.least_mem]))
      have hL3 : (ba :: bb :: L3).length = L3.length + 2 := rfl
      have hL3b : L3.length ≤ 254 := by have := trees.1; simp at this len; omega
      rw [hL3]
      have hrow3 := row.drop 2 (by simp)
      have hcap := row.len
      rw [hL3] at hcap
      have h63 := row.cap63
      have HP : Hid _ := hp2
      have IN : Hid _ := inv
      have TR : Hid _ := trees
      have RW : Hid _ := row
      have EN : Hid _ := end_
      have KE : Hid _ := kept
      have AT : Hid _ := at_
      have R3 : Hid _ := hrow3
      have TA : Hid _ := ta
      have TB : Hid _ := tb
      have LE : Hid _ := len
      clear hp2 inv trees row end_ kept at_ hrow3 ta tb hall hnd len ne hL3
      have WA : ∃ p, Hf.wt f a = p := ⟨_, rfl⟩
      obtain ⟨p, hp⟩ := WA
      obtain ⟨q, hq⟩ : ∃ q, Hf.wt f b = q := ⟨_, rfl⟩
      obtain ⟨r, hr⟩ : ∃ r, Hf.least a = r := ⟨_, rfl⟩
      obtain ⟨s, hs⟩ : ∃ s, Hf.least b = s := ⟨_, rfl⟩
      rw [hp] at a0 hwab
      rw [hq] at b0 hwab
      rw [hr] at a1 hla
      rw [hs] at b1 hlb
      have HP1 : Hid (Hf.wt f a = p) := hp
      have HQ1 : Hid (Hf.wt f b = q) := hq
      have HR1 : Hid (Hf.least a = r) := hr
      have HS1 : Hid (Hf.least b = s) := hs
      have hi0 : (0 : Int) < (L3.length : Int) + 2 := by omega
      have hi1 : (1 : Int) < (L3.length : Int) + 2 := by omega
      clear hp hq hr hs
      go_wp2
      go_quiet (fail)
      have kn := keptN wr nq
      have R3' : Hid (PRow (wr.drewN nq) g2 (off + 2) (cap2 - 2) L3) := R3.out.keep kn (fun h => h)
      have TR' : Hid (Trees f (wr.drewN nq) (ba :: bb :: L3) (a :: b :: l3)) := Trees.keep TR.out kn (fun _ _ _ h => h)
      have KE' : Hid (Kept (fun k => k = g) w (wr.drewN nq)) := KE.out.trans' kn (fun _ _ h => h.elim)
      have a0 := cellK kn a0 (fun h => h)
      have a1 := cellK kn a1 (fun h => h)
      have b0 := cellK kn b0 (fun h => h)
      have b1 := cellK kn b1 (fun h => h)
      clear kn R3 TR KE c0 c1 RW TA TB
      generalize wr.drewN nq = wd at *
      have R3x : Hid (∃ o3, (cap2 = 2 → o3 = off) ∧ (cap2 ≠ 2 → o3 = off + 2) ∧ PRow wd g2 o3 (cap2 - 2) L3) := by
        by_cases hc2 : cap2 = 2
        · have e0 : L3 = [] := List.length_eq_zero_iff.1 (by omega)
          obtain ⟨cur, q1, q2⟩ := R3'.out.blk
          refine ⟨off, fun _ => rfl, fun h => absurd hc2 h, ⟨⟨cur, q1, by omega⟩, fun j b hj => by rw [e0] at hj; simp at hj, by rw [e0]; simp, by omega⟩⟩
        · exact ⟨off + 2, fun h => absurd h hc2, fun _ => rfl, R3'.out⟩
      obtain ⟨o3, ho1, ho2, r3⟩ := R3x.out
      have R3 : Hid _ := r3
      clear R3x R3' r3
      have kw : Kept (fun _ => False) wd (wd.alloc (.cells #[.int .i64 ((p : Int) + (q : Int)), .int .u8 (min (r : Int) (s : Int)), .pointer (some ⟨ba, 0, none⟩), .pointer (some ⟨bb, 0, none⟩)] 181)).drew := ((Kept.refl (fun _ => False) wd).alloc _).drew
      have hsz : wd.heap.size < (wd.alloc (.cells #[.int .i64 ((p : Int) + (q : Int)), .int .u8 (min (r : Int) (s : Int)), .pointer (some ⟨ba, 0, none⟩), .pointer (some ⟨bb, 0, none⟩)] 181)).drew.heap.size := by simp
      have hTA : TreeAt f wd a ba := TR'.out.2 0 ba a rfl rfl
      have hTB : TreeAt f wd b bb := TR'.out.2 1 bb b rfl rfl
      have TN : Hid (TreeAt f (wd.alloc (.cells #[.int .i64 ((p : Int) + (q : Int)), .int .u8 (min (r : Int) (s : Int)), .pointer (some ⟨ba, 0, none⟩), .pointer (some ⟨bb, 0, none⟩)] 181)).drew (.node a b) wd.heap.size) := by
        refine ⟨ba, bb, ?_, hTA.keep kw (fun _ _ _ h => h), hTB.keep kw (fun _ _ _ h => h)⟩
        have h1 : (wd.alloc (.cells #[.int .i64 ((p : Int) + (q : Int)), .int .u8 (min (r : Int) (s : Int)), .pointer (some ⟨ba, 0, none⟩), .pointer (some ⟨bb, 0, none⟩)] 181)).drew.heap[wd.heap.size]? = some (.cells #[.int .i64 ((p : Int) + (q : Int)), .int .u8 (min (r : Int) (s : Int)), .pointer (some ⟨ba, 0, none⟩), .pointer (some ⟨bb, 0, none⟩)] 181 (0, 0)) := heap_alloc_new wd _
        rw [h1]
        have e1 : ((Hf.wt f (.node a b) : Nat) : Int) = (p : Int) + (q : Int) := by simp only [Hf.wt]; rw [HP1.out, HQ1.out]; omega
        have e2 : ((Hf.least (.node a b) : Nat) : Int) = min (r : Int) (s : Int) := by simp only [Hf.least]; rw [HR1.out, HS1.out]; omega
        rw [e1, e2]
      have RN : Hid (PRow (wd.alloc (.cells #[.int .i64 ((p : Int) + (q : Int)), .int .u8 (min (r : Int) (s : Int)), .pointer (some ⟨ba, 0, none⟩), .pointer (some ⟨bb, 0, none⟩)] 181)).drew g2 o3 (cap2 - 2) L3) := R3.out.keep kw (fun h => h)
      have TL : Hid (Trees f (wd.alloc (.cells #[.int .i64 ((p : Int) + (q : Int)), .int .u8 (min (r : Int) (s : Int)), .pointer (some ⟨ba, 0, none⟩), .pointer (some ⟨bb, 0, none⟩)] 181)).drew L3 l3) := by
        have h := Trees.keep TR'.out kw (fun _ _ _ h => h)
        exact ⟨by have := h.1; simpa using this, fun j b t hj ht => h.2 (j + 2) b t (by simpa using hj) (by simpa using ht)⟩
      have KN : Hid (Kept (fun k => k = g) w (wd.alloc (.cells #[.int .i64 ((p : Int) + (q : Int)), .int .u8 (min (r : Int) (s : Int)), .pointer (some ⟨ba, 0, none⟩), .pointer (some ⟨bb, 0, none⟩)] 181)).drew) := KE'.out.trans' kw (fun _ _ h => h.elim)
      have hs3 : Hid (Hf.Srt f l3) := (List.pairwise_cons.1 (List.pairwise_cons.1 IN.out.srt).2).2
      have hl3 : l3.length = L3.length := by have := TL.out.1; omega
      have hcnt : (l3.countP fun y => Hf.lt f y (.node a b)) ≤ L3.length := by rw [← hl3]; exact List.countP_le_length
      have HL3 : Hid (l3.length = L3.length) := hl3
      clear kw hTA hTB TR' KE' R3 hl3
      by_cases hc2 : cap2 = 2
      focus
        obtain rfl := ho1 hc2
        subst hc2
        have HC : Hid _ := hcap
        clear hcap
        have RN : Hid (PRow (wd.alloc (.cells #[.int .i64 ((p : Int) + (q : Int)), .int .u8 (min (r : Int) (s : Int)), .pointer (some ⟨ba, 0, none⟩), .pointer (some ⟨bb, 0, none⟩)] 181)).drew g2 o3 0 L3) := RN
        go_wp2
        go_region
        all_goals go_wp2_with fail
      rotate_left
      focus
        obtain rfl := ho2 hc2
        go_wp2
        go_region
        all_goals go_wp2_with fail
      all_goals
        clear a0 a1 b0 b1
        generalize (wd.alloc (.cells #[.int .i64 ((p : Int) + (q : Int)), .int .u8 (min (r : Int) (s : Int)), .pointer (some ⟨ba, 0, none⟩), .pointer (some ⟨bb, 0, none⟩)] 181)).drew = wq at *
        generalize wd.heap.size = nb at *
        refine (search_all f wq g2 _ _ L3 l3 RN.out TL.out (by omega) (.node a b) nb TN.out hs3.out).mono ?_
        rintro e w2 ⟨⟨o, rfl⟩, row2, tr2, tn2, k2⟩
        have ROW2 : Hid _ := row2
        have TR2 : Hid _ := tr2
        have TN2 : Hid (TreeAt f w2 (.node a b) nb) := tn2
        have K2 : Hid _ := k2
        clear row2 tr2 tn2 k2 RN TL TN
        have PUT : Hid (∀ k, k = (l3.countP fun y => Hf.lt f y (.node a b)) → ∀ W', Trees f W' L3 l3 → TreeAt f W' (.node a b) nb → Trees f W' (putAt L3 k nb) (Hf.put f (.node a b) l3)) := fun k hk W' h1 h2 => by
          rw [hk]; exact h1.putAt _ _ h2
        obtain ⟨k, hk⟩ : ∃ k, k = (l3.countP fun y => Hf.lt f y (.node a b)) := ⟨_, rfl⟩
        have HK : Hid _ := hk
        rw [← hk] at hcnt ⊢
        clear hk
        go_wp2_with fail
        have kv : Kept (fun _ => False) w2 (w2.alloc (.cells #[.pointer (some ⟨nb, 0, none⟩)] 178)) := (Kept.refl (fun _ => False) w2).alloc _
        have hvb := heap_alloc_new w2 (.cells #[.pointer (some ⟨nb, 0, none⟩)] 178)
        have hgl := ROW2.out.lt
        refine (insertT_any _ g2 _ _ L3 (ROW2.out.keep kv (fun h => h)) k hcnt (by omega) nb w2.heap.size hvb (by omega)).mono ?_
        rintro e w4 ⟨g', off', cap', rfl, row4, k4, at4⟩
        have hPT := (ROW2.out.keep kv (fun h => h)).tree
        have tr4 : Trees f w4 L3 l3 := (Trees.keep TR2.out kv (fun _ _ _ h => h)).keep k4 hPT
        have tn4 : TreeAt f w4 (.node a b) nb := TreeAt.keep k4 hPT (TreeAt.keep kv (fun _ _ _ h => h) TN2.out)
        have kk : Kept (fun k => k = g) w w4 := (((KN.out.trans' K2.out (fun i hi e => by rcases AT.out with h | h <;> omega)).trans' kv (fun _ _ h => h.elim)).trans' k4 (fun i hi e => by rcases AT.out with h | h <;> omega))
        have hz2 := (KN.out.trans' K2.out (fun i hi e => by rcases AT.out with h | h <;> omega)).size
        simp only [World.size_alloc] at at4
        have hat : g' = g ∨ w.heap.size ≤ g' := by
          rcases at4 with h | h
          · rw [h]; exact AT.out
          · exact .inr (by omega)
        have J : JS f w g (Hf.join f l1) (.slice (some ⟨g', off', none⟩) (L3.length + 1) cap') w4 (Hf.put f (.node a b) l3) (putAt L3 k nb) g' off' cap' :=
          ⟨by rw [putAt_len], row4, PUT.out k HK.out w4 tr4 tn4, IN.out.step, by rw [Hf.put_length, HL3.out]; omega, fun e => by have := congrArg List.length e; rw [Hf.put_length] at this; simp at this, by rw [← Hf.join_step]; exact EN.out, kk, hat⟩
        have JH : Hid _ := J
        have PH : Hid _ := (Hf.step_perm f a b l3).trans HP.out
        clear kv hvb hgl row4 k4 at4 hPT tr4 tn4 kk hz2 hat J ROW2 TR2 TN2 K2 PUT HK KN
        go_wp2
        exact ⟨⟨_, _, _, _, _, JH.out, PH.out⟩, by simp [lenOf]⟩

end Go.Proofs.YtopihgmemnokkaaGreat

