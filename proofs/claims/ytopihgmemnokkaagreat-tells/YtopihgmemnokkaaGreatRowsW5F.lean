import Derived.Test.YtopihgmemnokkaaGreatRowsW3F
import Derived.Test.YtopihgmemnokkaaGreatAppMF
import Derived.Test.YtopihgmemnokkaaGreatTreeW2F
import Derived.Test.YtopihgmemnokkaaGreatBuildF
import Derived.Test.YtopihgmemnokkaaGreatWalk7F
import Derived.Test.YtopihgmemnokkaaGreatAppF
namespace Go.Proofs.YtopihgmemnokkaaGreat
open Go.RowKit

theorem run_index_rowV (vf : Nat → Value) (p : Nat) (hp : p < 256) (w : World) :
    (Instr.index 216 (.agg (rowV vf)) (.int .i64 (p : Int))).run Tryz.prog w = .ok (vf p) w := by
  have h := rowV_get vf hp
  simp [Instr.index, run_underlying Tryz.underlying216, asIntOf, part, Tryz.isAgg164, Tryz.sizeOf164, h]
  intro hc; omega
theorem lgb_len (n : Nat) (b : Nat → Nat) (fw c : Nat) (R : List Nat) : (Wv.lgb n b fw c R).length ≤ R.length := by
  unfold Wv.lgb
  rw [List.length_map]; exact List.length_filter_le _ _
theorem flatMap_len {f : Nat → List Nat} {M : Nat} (h : ∀ c, (f c).length ≤ M) : ∀ p, ((List.range p).flatMap f).length ≤ p * M
  | 0 => by simp
  | p + 1 => by
    have := flatMap_len h p
    have := h p
    rw [List.range_succ, List.flatMap_append, List.length_append, Nat.succ_mul]
    simp only [List.flatMap_cons, List.flatMap_nil, List.append_nil]
    omega

section
variable {base : Nat} {w : World} {rb o : Nat} {G : Nat → Nat × Nat} {r : Nat} {root : Value} {F : Nat → Prop} {n : Nat} {b : Nat → Nat} {fw : Nat}

set_option maxRecDepth 100000 in
set_option maxHeartbeats 2000000 in
theorem longer_any (h : Rws base w rb o G r root F n b fw) (v : Value) (rs : List (Nat × Nat)) (hr : RgAt w v rs) (hu : Wv.Upto (n + 1) rs) (hl : rs.length ≤ 1000000) (hl2 : (Wv.flat rs).length ≤ 1001) :
    Calls Tryz.prog 106 #[.pointer (some ⟨rb, o, none⟩), v] w fun e w' => (∃ v' rs', e = .returned v' ∧ RgAt w' v' rs' ∧ Wv.Full (n + 1) rs' ∧ Wv.flat rs' = ((List.range 256).flatMap fun c => Wv.lgb n b fw c (Wv.flat rs)) ∧ ∀ q, v'.ownBlock = some q → w.heap.size ≤ q) ∧ Below w.heap.size w w' := by
  obtain ⟨i0, hi, hz0, hz1, hz2⟩ := info_parts Tryz.info167
  have L1 : Hid (∀ W, Below w.heap.size w W → Calls Tryz.prog 146 #[.pointer (some ⟨rb, o, none⟩), v] W fun e w' => ∃ v1, e = .returned v1 ∧ Below w.heap.size w w' ∧ RgAt w' v1 (plR fw rs) ∧ True) := fun W hW =>
    (places_any (h.below hW) v rs (hr.below hW) hu hl).mono fun e w' ⟨v1, he, ho, hb⟩ => ⟨v1, he, hW.trans (hb.mono hW.size), (RgAt.own ho).1, trivial⟩
  have hpl := Wv.upto_places fw hu h.fwle
  have L2 : Hid (∀ W v1, Below w.heap.size w W → RgAt W v1 (plR fw rs) → Calls Tryz.prog 145 #[.pointer (some ⟨rb, o, none⟩), v1] W fun e w' => ∃ (vf : Nat → Value) (rf : Nat → List (Nat × Nat)), e = .returned (.agg (rowV vf)) ∧ Below w.heap.size w w' ∧ (∀ c, c < 256 → RgAt w' (vf c) (rf c) ∧ Wv.Pos (rf c) ∧ Wv.flat (rf c) = (if 0 < (G c).1 then Wv.sel (bl (G c)) (Wv.waysOf (fun c => bl (G c)) b n) (Wv.flat (plR fw rs)) else [])) ∧ True) := fun W v1 hW h1 =>
    (Split_any base W rb o G _ r root F (h.tre.below hW) v1 (plR fw rs) h1 (by rw [Wv.waysOf_len]; exact hpl) (by unfold plR; simpa using hl)).mono fun e w' ⟨⟨vf, rf, he, ha⟩, hb⟩ => ⟨vf, rf, he, hW.trans (hb.mono hW.size), ha, trivial⟩
  have HH : Hid (Rws base w rb o G r root F n b fw) := h
  have HU : Hid (Wv.Upto (n + 1) rs) := hu
  have s0 : True := trivial
  have bd0 : Below w.heap.size w w.drew := bdrew (Below.refl _ _)
  obtain ⟨a, cp, rfl⟩ := hr.len
  clear h hr hu hpl
  go_enter Tryz.func106, Tryz.ntmps106
  go_wp2_with fail
  go_region_held3 (fun _ => True) (assumption) ((first
    | (go_at_call 146; refine (L1.out _ (by assumption)).mono ?_; rintro e w2 ⟨v1, rfl, hb2, hr2, hS2⟩)
    | (go_at_call 145; refine (L2.out _ _ (by assumption) (by assumption)).mono ?_; rintro e w3 ⟨vf, rf, rfl, hb3, hq3, hS3⟩)))
  clear L1 L2 s0 bd0 hb2 hr2
  have HB3 : Hid (Below w.heap.size w w3) := hb3
  have HONE : Hid (∀ c, c < 256 → RgAt w3 (vf c) (rf c) ∧ Wv.flat (bgR n b c (rf c)) = Wv.lgb n b fw c (Wv.flat rs) ∧ (∀ x ∈ rf c, x.1 ≤ 1000000 ∧ x.2 ≤ 1000000) ∧ Wv.Full (n + 1) (bgR n b c (rf c)) ∧ (rf c).length ≤ 1001) := fun c hc => by
    obtain ⟨q1, q2, q3⟩ := hq3 c hc
    obtain ⟨p1, p2, p3, p4⟩ := HH.out.one hc HU.out q2 q3
    refine ⟨q1, p2, p3, p4, ?_⟩
    have h1 := p4.len
    rw [p2] at h1
    have h2 := lgb_len n b fw c (Wv.flat rs)
    unfold bgR at h1
    rw [List.length_map] at h1
    omega
  clear hq3 hb3
  go_wp2
  go_loopw [5, 6, 7, 15] (fun lv _ _ i wr => ∃ (p : Nat) (acc : List (Nat × Nat)), p ≤ 256 ∧ i = .int .i64 p ∧ wr.ownsRow w3.heap.size 167 2 lv acc.length (rgL acc) ∧ Hid (Wv.Full (n + 1) acc) ∧ Hid (Wv.flat acc = (List.range p).flatMap fun c => Wv.lgb n b fw c (Wv.flat rs)) ∧ Below w3.heap.size w3 wr) (fun _ _ _ i _ => 256 - (intOf i).toNat)
  case atStart => exact ⟨0, [], by omega, rfl, World.ownsRow_nil _ _ _ _, fun r hr => by simp at hr, rfl, Below.refl _ _⟩
  case round =>
    obtain ⟨p, acc, hp, rfl, hown, hFu, hFl, hBl⟩ := hrel
    by_cases hlt : p < 256
    · obtain ⟨q1, q2, q3, q4, q5⟩ := HONE.out p hlt
      have hix := run_index_rowV vf p hlt
      have hwr : Below w.heap.size w wr := HB3.out.trans (hBl.mono HB3.out.size)
      have hcall := beginning_any (HH.out.below hwr) p hlt (vf p) (rf p) (q1.below hBl) q3 (by omega)
      obtain ⟨va, vc, hve⟩ := q1.len
      have HCL : Hid _ := hcall
      have HQ2 : Hid _ := q2
      have HQ4 : Hid _ := q4
      have hal : acc.length ≤ 256256 := by
        have h1 := hFu.out.len
        rw [hFl.out] at h1
        have h2 := flatMap_len (f := fun c => Wv.lgb n b fw c (Wv.flat rs)) (M := 1001) (fun c => Nat.le_trans (lgb_len n b fw c _) hl2) p
        have h3 : p * 1001 ≤ 256 * 1001 := Nat.mul_le_mul_right _ hp
        omega
      have hbl : (bgR n b p (rf p)).length ≤ 1001 := by unfold bgR; rw [List.length_map]; exact q5
      have hbl2 : (bgR n b p (rf p)).length = (rf p).length := by unfold bgR; rw [List.length_map]
      have HC2 : Hid (Calls Tryz.prog 147 #[.pointer (some ⟨rb, o, none⟩), .int .u8 (p : Nat), vf p] wr fun e w' => ∃ v', e = .returned v' ∧ w'.ownsRow wr.heap.size 167 2 v' (bgR n b p (rf p)).length (rgL (bgR n b p (rf p))) ∧ Below wr.heap.size wr w') := by
        rw [hbl2] at *
        exact hcall
      generalize hbg : bgR n b p (rf p) = bg at *
      have hpi : (p : Int) < 256 := by omega
      clear hcall HCL q1 q2 q3 q4 hbl2 hbg
      generalize vf p = vp at *
      subst hve
      obtain ⟨a5, p5, rfl⟩ := own_slice2 hown
      have hz := hBl.size
      go_wp2_with fail
      refine HC2.out.mono ?_
      rintro e w5 ⟨v5, rfl, hown5, hB5⟩
      have hown6 := own_keep hown (Kept.of_below hB5 (Nat.le_refl _) (fun _ => False)) (fun _ _ h => h)
      have hB6 : Below w3.heap.size w3 w5 := hBl.trans (hB5.mono hBl.size)
      have hz5 := hB5.size
      clear HC2 hix hB5 hown hBl
      go_wp2_with (at_builtin; refine wpList_append_srcs _ rfl _ _ 164 rfl w3.heap.size 167 i0 _ 2 16 Tryz.underlying164 hi hz0 hz1 hz2 rfl (by decide) _ _ _ rfl hown6 _ _ _ rfl (Srcs.own hown5) (rgL_one _) ?d1 ?d2 ?d3 ?_)
      case d1 => first | omega | (unfold maxLen; omega)
      case d2 => omega
      case d3 => omega
      intro v' w6 hown7 hg7 _
      have hB7 : Below w3.heap.size w3 w6 := hB6.grown hg7 (by omega) (fun q hq => (hown6.lt q hq).1)
      have HF7 : Hid (Wv.Full (n + 1) (acc ++ bg)) := hFu.out.app HQ4.out
      have HL7 : Hid (Wv.flat (acc ++ bg) = (List.range (p + 1)).flatMap fun c => Wv.lgb n b fw c (Wv.flat rs)) := by
        show _ = _
        rw [Wv.flat_app, hFl.out, HQ2.out, List.range_succ, List.flatMap_append]
        simp
      clear hg7 hown6 hown5 hFu hFl HQ2 HQ4
      go_wp2
      exact ⟨⟨p + 1, acc ++ bg, by omega, by go_num, by rw [rgL_app, List.length_append]; exact hown7, HF7, HL7, hB7⟩, by simp [intOf]; omega⟩
    · have hp2 : p = 256 := by omega
      subst hp2
      have hra := (RgAt.own hown).1
      have HLT : Hid _ := hown.lt
      have hz3w := HB3.out.size
      have HFin : Hid (Below w.heap.size w wr) := HB3.out.trans (hBl.mono HB3.out.size)
      have c256 : ((256 : Nat) : Int) = 256 := rfl
      rw [c256]
      clear HONE
      go_wp2
      go_ret
      exact ⟨⟨_, acc, rfl, hra, hFu.out, hFl.out, fun q hq => Nat.le_trans hz3w (HLT.out q hq).1⟩, HFin.out⟩

end

end Go.Proofs.YtopihgmemnokkaaGreat

namespace Go.Proofs.YtopihgmemnokkaaGreat
open Go.RowKit

theorem rwsC_size (T : Array Value) (st : Nat → Nat) (fw : Nat) (hT : T.size = 515) : (rwsC T st fw).size = 772 := by simp [rwsC, size_rowC, hT]
theorem rwsC_lo (T : Array Value) (st : Nat → Nat) (fw : Nat) (hT : T.size = 515) {i : Nat} (h : i < 515) : (rwsC T st fw)[i]? = T[i]? := by
  unfold rwsC
  rw [Array.getElem?_append_left (by simp [size_rowC, hT]; omega), Array.getElem?_append_left (by omega)]
theorem rwsC_mid (T : Array Value) (st : Nat → Nat) (fw : Nat) (hT : T.size = 515) {c : Nat} (h : c < 256) : (rwsC T st fw)[515 + c]? = some (.int .i64 (st c : Nat)) := by
  unfold rwsC
  rw [Array.getElem?_append_left (by simp [size_rowC, hT]; omega), Array.getElem?_append_right (by omega), hT, show 515 + c - 515 = c by omega, rowC_get h]
theorem rwsC_fw (T : Array Value) (st : Nat → Nat) (fw : Nat) (hT : T.size = 515) : (rwsC T st fw)[771]? = some (.int .i64 (fw : Nat)) := by
  unfold rwsC
  rw [Array.getElem?_append_right (by simp [size_rowC, hT])]
  simp [size_rowC, hT]
theorem rwsC_one (T : Array Value) (st : Nat → Nat) (fw : Nat) (h : T.all (·.oneCell') = true) : (rwsC T st fw).all (·.oneCell') = true := by
  unfold rwsC
  have e1 : (#[Value.int .i64 (fw : Nat)] : Array Value).all (·.oneCell') = true := by simp [Value.oneCell']
  rw [Array.all_append, Array.all_append, h, rowC_one, e1]; rfl
theorem built_rows (T : Array Value) (st : Nat → Nat) (fw : Nat) (hT : T.size = 515) :
    Tryz.prog.built 122 [(0, .agg T), (1, .agg (rowC 256 st)), (2, .int .i64 (fw : Nat))] = some (rwsC T st fw) := by
  refine built_of zero772 places772 ?_
  have hs0 := rwsC_size (treC 0 (fun _ => (0, 0)) (.map none) (.pointer none)) (fun _ => 0) 0 (treC_size _ _ _ _)
  generalize rwsC (treC 0 (fun _ => (0, 0)) (.map none) (.pointer none)) (fun _ => 0) 0 = z at *
  have hcT : Value.cells (.agg T) = T := rfl
  have hcX : Value.cells (.agg (rowC 256 st)) = rowC 256 st := rfl
  have hX := size_rowC 256 st
  have e0 : (splice z 0 (Value.cells (.agg T))).size = 772 := by rw [splice_size _ _ _ (by rw [hs0, hcT, hT]; decide), hs0]
  have e1 : (splice (splice z 0 (Value.cells (.agg T))) 515 (Value.cells (.agg (rowC 256 st)))).size = 772 := by rw [splice_size _ _ _ (by rw [e0, hcX, hX]; decide), e0]
  rw [fill_step (off := 0) (size := 515) (v := .agg T) rfl hT (by rw [hs0]; decide), fill_step (off := 515) (size := 256) (v := .agg (rowC 256 st)) rfl hX (by rw [e0]; decide), fill_step (off := 771) (size := 1) rfl rfl (by rw [e1]; decide)]
  simp only [Instr.fill]
  congr 1
  apply Array.ext_getElem?
  intro k
  rw [splice_get _ _ _ (by rw [e1]; simp [Value.cells]), splice_get _ _ _ (by rw [e0, hcX, hX]; decide), splice_get _ _ _ (by rw [hs0, hcT, hT]; decide)]
  rw [hcX, hX, hcT, hT]
  simp only [Value.cells, List.size_toArray, List.length_cons, List.length_nil]
  by_cases k3 : k = 771
  · subst k3
    rw [if_pos (by omega), rwsC_fw _ _ _ hT]; rfl
  · rw [if_neg (by omega)]
    by_cases k2 : 515 ≤ k ∧ k < 771
    · rw [if_pos (by omega)]
      have := rwsC_mid T st fw hT (c := k - 515) (by omega)
      rw [show 515 + (k - 515) = k by omega] at this
      rw [this, rowC_get (by omega)]
    · rw [if_neg (by omega)]
      by_cases k0 : k < 515
      · rw [if_pos (by omega), rwsC_lo _ _ _ hT k0]; rfl
      · rw [if_neg (by omega), Array.getElem?_eq_none (by rw [hs0]; omega), Array.getElem?_eq_none (by rw [rwsC_size _ _ _ hT]; omega)]
theorem nextAt_st (s : ByteArray) : nextAt s 0 = Wv.st s.size (BY s) := by
  funext c
  simp [nextAt, Wv.st, Cc.cn]

/-- what rows.Of leaves -/
def RowsPost (s : ByteArray) (fw : Nat) (w : World) (e : Ending) (w' : World) : Prop :=
  ∃ (G : Nat → Nat × Nat) (r : Nat) (root : Value) (F : Nat → Prop), e = .returned (.agg (rwsC (treC s.size G (.map (some r)) root) (Wv.st s.size (BY s)) fw)) ∧ Cod G ∧ (∀ c, c < 256 → (0 < (G c).1 ↔ ∃ i, i < s.size ∧ BY s i = c)) ∧ Byt w' r G 256 ∧ w.heap.size ≤ r ∧
    BTree w.heap.size 64 w' root (Wv.waysOf (fun c => bl (G c)) (BY s) s.size) F ∧ Below w.heap.size w w'
theorem BTree.mono {base base' : Nat} (hb : base' ≤ base) {w : World} : ∀ {d : Nat} {v : Value} {X : List (List Bool)} {F : Nat → Prop}, BTree base d w v X F → BTree base' d w v X F
  | 0, _, _, _, h => h
  | d + 1, v, X, F, h => by
    rcases h with h | ⟨b, wv, av, v0, v1, F0, F1, h1, h2, h3, h4, h5, h6⟩
    · exact .inl h
    · exact .inr ⟨b, wv, av, v0, v1, F0, F1, h1, h2, ⟨h3.four, h3.words.mono hb, h3.ahead.mono hb, Nat.le_trans hb h3.low, h3.t1, h3.t2⟩, BTree.mono hb h4, BTree.mono hb h5, h6⟩
theorem BTree.one {base d : Nat} {w : World} {v : Value} {X : List (List Bool)} {F : Nat → Prop} (h : BTree base d w v X F) : v.oneCell' = true := by
  cases d with
  | zero => rw [h.1]; rfl
  | succ d =>
    rcases h with h1 | ⟨b, _, _, _, _, _, _, h1, _⟩
    · rw [h1.1]; rfl
    · rw [h1]; rfl

set_option maxRecDepth 100000 in
set_option maxHeartbeats 4000000 in
theorem rowsOf_any (s : ByteArray) (fw : Nat) (w : World) (hs : s.size ≤ 1000) : Calls Tryz.prog 84 #[.string s, .int .i64 (fw : Nat)] w (RowsPost s fw w) := by
  have hR0 : (w.alloc (.cells (rwsC (treC 0 (fun _ => (0, 0)) (.map none) (.pointer none)) (fun _ => 0) 0) 122)).heap[w.heap.size]? = some (.cells (rwsC (treC 0 (fun _ => (0, 0)) (.map none) (.pointer none)) (fun _ => 0) 0) 122 (0, 0)) := heap_alloc_new _ _
  have hal : Below w.heap.size w (w.alloc (.cells (rwsC (treC 0 (fun _ => (0, 0)) (.map none) (.pointer none)) (fun _ => 0) 0) 122)) := (Below.refl _ _).alloc (Nat.le_refl _) _
  have hz0 : (w.alloc (.cells (rwsC (treC 0 (fun _ => (0, 0)) (.map none) (.pointer none)) (fun _ => 0) 0) 122)).heap.size = w.heap.size + 1 := by simp
  have hzz := rwsC_size (treC 0 (fun _ => (0, 0)) (.map none) (.pointer none)) (fun _ => 0) 0 (treC_size _ _ _ _)
  go_enter Tryz.func84, Tryz.ntmps84
  go_wp2_with (first
    | (refine wpList_alloc_row rfl 122 rfl _ zero772 ?_)
    | fail)
  generalize rwsC (treC 0 (fun _ => (0, 0)) (.map none) (.pointer none)) (fun _ => 0) 0 = Z at *
  generalize w.alloc (.cells Z 122) = w0 at *
  refine (treeOf_any s w0 hs).mono ?_
  rintro e w1 ⟨G, r, root, F, rfl, hG, hlv, hY, hr, hT, hB1⟩
  have hR1 : w1.heap[w.heap.size]? = some (.cells Z 122 (0, 0)) := by rw [hB1.block _ (by omega)]; exact hR0
  have HB1 : Hid (Below w.heap.size w w1) := hal.trans (hB1.mono (by omega))
  have hz1 := hB1.size
  have HY : Hid (Byt w1 r G 256) := hY
  have HT : Hid (BTree w0.heap.size 64 w1 root (Wv.waysOf (fun c => bl (G c)) (BY s) s.size) F) := hT
  have HR1 : Hid _ := hR1
  have HLV : Hid _ := hlv
  have HG : Hid _ := hG
  clear hR0 hal hB1 hY hT hR1 hlv hG
  go_wp2_with fail
  refine (starts_any s w1 hs).mono ?_
  rintro e w2 ⟨rfl, hB2⟩
  have hz2 := hB2.size
  have hR2 : w2.heap[w.heap.size]? = some (.cells Z 122 (0, 0)) := by rw [hB2.block _ (by omega)]; exact HR1.out
  have HB2 : Hid (Below w.heap.size w w2) := HB1.out.trans (hB2.mono (by omega))
  have HY2 : Hid (Byt w2 r G 256) := HY.out.keep (Kept.of_below hB2 (Nat.le_refl _) (fun _ => False)) (fun h => h)
  have HT2 := HT.out.below hB2
  have hlt := HT2.lt
  have HTT : Hid (BTree w0.heap.size 64 w2 root (Wv.waysOf (fun c => bl (G c)) (BY s) s.size) F) := HT2
  have hns := nextAt_st s
  have hTz := treC_size s.size G (.map (some r)) root
  have hTo := treC_one s.size G (mv := .map (some r)) (rv := root) rfl HT2.one
  rw [hns]
  generalize hTT : treC s.size G (.map (some r)) root = T at *
  have hbs := built_rows T (Wv.st s.size (BY s)) fw hTz
  have HBS : Hid _ := hbs
  have hone := rwsC_one T (Wv.st s.size (BY s)) fw hTo
  have hsz := rwsC_size T (Wv.st s.size (BY s)) fw hTz
  clear HT HT2 hB2 HY HB1 HR1 hbs hns
  generalize hRR : rwsC T (Wv.st s.size (BY s)) fw = R at *
  have HRR : Hid (rwsC T (Wv.st s.size (BY s)) fw = R) := hRR
  have HTT2 : Hid (treC s.size G (.map (some r)) root = T) := hTT
  clear hRR hTT
  generalize hS : Wv.st s.size (BY s) = S at *
  have HS : Hid (Wv.st s.size (BY s) = S) := hS
  clear hS
  go_wp2_with (first
    | (refine wpList_build rfl 122 _ rfl R (by simpa [Act.eval] using HBS.out) ?_)
    | (refine wpList_store_row rfl 122 _ _ rfl w.heap.size R rfl rfl 122 Z (by exact hR2) (by rw [hsz]; exact size772) (by rw [hsz, hzz]) hone ?_))
  have hks : Kept (fun k => k = w.heap.size) w2 (w2.setRow w.heap.size R) := ⟨rfl, rfl, rfl, by simp, fun k _ hn => Go.setRow_other w2 w.heap.size k _ hn⟩
  refine bodyPost_ret (results_cell_row Tryz.results84 _ _ w.heap.size 122 R (0, 0) _ rfl (setRow_heap _ _ _ _ _ _ hR2) Tryz.underlying122 rfl (by rw [hsz]; exact size772)) rfl ?_
  refine ⟨G, r, root, F, ?_, HG.out, HLV.out, HY2.out.keep hks (by omega), by omega, (HTT.out.mono (by omega)).keep hks (fun k hk e => by have := (hlt k hk).1; omega), below_setRow HB2.out (Nat.le_refl _) _⟩
  rw [HTT2.out, HS.out, HRR.out]

end Go.Proofs.YtopihgmemnokkaaGreat

namespace Go.Proofs.YtopihgmemnokkaaGreat
open Go.RowKit

/-- the cells of an index ahead of its marks -/
def idxP (rate : Nat) (n : Nat) (G : Nat → Nat × Nat) (r : Nat) (root : Value) (b : Nat → Nat) (fw : Nat) : List Value := .int .i64 (rate : Nat) :: (rwsC (treC n G (.map (some r)) root) (Wv.st n b) fw).toList
theorem idxP_len (rate n : Nat) (G : Nat → Nat × Nat) (r : Nat) (root : Value) (b : Nat → Nat) (fw : Nat) : (idxP rate n G r root b fw).length = 773 := by
  unfold idxP
  rw [List.length_cons, Array.length_toList, rwsC_size _ _ _ (treC_size _ _ _ _)]
theorem four_cell {w : World} {ib : Nat} {pre post : List Value} {ty : TypeId} {v0 v1 v2 v3 : Value} (h : Four w ib pre post ty v0 v1 v2 v3) {i : Nat} {v : Value} (hi : pre[i]? = some v) : w.cell? ⟨ib, i, none⟩ = some v := by
  unfold Four at h
  have hl := (List.getElem?_eq_some_iff.1 hi).1
  refine cell_of h ?_
  rw [List.getElem?_toArray, List.getElem?_append_left hl]; exact hi
section
variable {w : World} {ib : Nat} {post : List Value} {ty : TypeId} {v0 v1 v2 v3 : Value} {rate n : Nat} {G : Nat → Nat × Nat} {r : Nat} {root : Value} {b : Nat → Nat} {fw : Nat}
theorem idx_rate (h : Four w ib (idxP rate n G r root b fw) post ty v0 v1 v2 v3) : w.cell? ⟨ib, 0, none⟩ = some (.int .i64 (rate : Nat)) := four_cell h rfl
theorem idx_at (h : Four w ib (idxP rate n G r root b fw) post ty v0 v1 v2 v3) {i : Nat} {v : Value} (hi : (rwsC (treC n G (.map (some r)) root) (Wv.st n b) fw)[i]? = some v) : w.cell? ⟨ib, 1 + i, none⟩ = some v := by
  refine four_cell h ?_
  unfold idxP
  rw [Nat.add_comm, List.getElem?_cons_succ]
  simpa using hi
theorem idx_rws {base : Nat} {F : Nat → Prop} (h : Four w ib (idxP rate n G r root b fw) post ty v0 v1 v2 v3) (hY : Byt w r G 256) (hT : BTree base 64 w root (Wv.waysOf (fun c => bl (G c)) b n) F) (hG : Cod G) (hb : ∀ i, i < n → b i < 256)
    (hlv : ∀ c, c < 256 → (0 < (G c).1 ↔ ∃ i, i < n ∧ b i = c)) (hf : fw ≤ n) (hn : n ≤ 1000) : Rws base w ib 1 G r root F n b fw := by
  have hTz := treC_size n G (.map (some r)) root
  have hlo : ∀ {i : Nat} {v : Value}, i < 515 → (treC n G (.map (some r)) root)[i]? = some v → w.cell? ⟨ib, 1 + i, none⟩ = some v := fun hi hv => idx_at h (by rw [rwsC_lo _ _ _ hTz hi]; exact hv)
  have hlive : ∀ i, i < n → 0 < (G (b i)).1 := fun i hi => (hlv (b i) (hb i hi)).2 ⟨i, hi, rfl⟩
  refine ⟨⟨?_, fun c hc => ?_, fun c hc => ?_, ?_, ?_, hY, hT, hG, fun x hx => ?_, fun c hc hp => ?_, by rw [Wv.waysOf_len]; omega⟩, fun c hc => ?_, ?_, hb, hlive, hf, hn⟩
  · rw [Wv.waysOf_len]; exact hlo (by omega) (treC_0 _ _ _ _)
  · have := hlo (i := 1 + c * 2) (by omega) (by rw [treC_mid _ _ _ _ (by omega)]; exact rowR_get0 G hc)
    rw [show 1 + 1 + c * 2 = 1 + (1 + c * 2) by omega]; exact this
  · have := hlo (i := 1 + (c * 2 + 1)) (by omega) (by rw [treC_mid _ _ _ _ (by omega)]; exact rowR_get1 G hc)
    rw [show 1 + 1 + c * 2 + 1 = 1 + (1 + (c * 2 + 1)) by omega]; exact this
  · exact hlo (by omega) (treC_map _ _ _ _)
  · exact hlo (by omega) (treC_root _ _ _ _)
  · unfold Wv.waysOf at hx
    obtain ⟨i, hi, rfl⟩ := List.mem_map.1 hx
    have hi' := List.mem_range.1 hi
    exact ⟨b i, hb i hi', hlive i hi', rfl⟩
  · obtain ⟨i, hi, rfl⟩ := (hlv c hc).1 hp
    unfold Wv.waysOf
    exact List.mem_map.2 ⟨i, List.mem_range.2 hi, rfl⟩
  · have := idx_at h (rwsC_mid (treC n G (.map (some r)) root) (Wv.st n b) fw hTz hc)
    rw [show 1 + 515 + c = 1 + (515 + c) by omega]; exact this
  · exact idx_at h (rwsC_fw _ _ _ hTz)
end

section
variable {base : Nat} {w : World} {ib : Nat} {G : Nat → Nat × Nat} {r : Nat} {root : Value} {F : Nat → Prop} {n : Nat} {b : Nat → Nat} {fw : Nat} {L pl : Nat → Nat}

set_option maxHeartbeats 1000000 in
theorem ilen_any (h : Rws base w ib 1 G r root F n b fw) :
    Calls Tryz.prog 33 #[.pointer (some ⟨ib, 0, none⟩)] w fun e w' => e = .returned (.int .i64 (n : Nat)) ∧ w' = w := by
  have hc := rlen_any h
  go_enter Tryz.func33, Tryz.ntmps33
  go_wp2_with fail
  refine hc.mono ?_
  rintro e w' ⟨rfl, rfl⟩
  go_wp2
  go_ret
  exact ⟨rfl, rfl⟩

set_option maxRecDepth 100000 in
set_option maxHeartbeats 1000000 in
theorem iplaces_any (h : Rws base w ib 1 G r root F n b fw) (hw : Wv.Rw n L b fw pl) :
    Calls Tryz.prog 85 #[.pointer (some ⟨ib, 0, none⟩)] w fun e w' => ∃ g, e = .returned (.slice (some ⟨g, 0, none⟩) (n + 1) (n + 1)) ∧ w.heap.size ≤ g ∧ Row w' g 3 (n + 1) pl ∧ Below w.heap.size w w' := by
  have hn := h.nle
  have hmk := make_rows (n + 1) (by omega) w
  have hlen := fun W (hW : Below w.heap.size w W) => ilen_any (h.below hW)
  have hah := fun W (hW : Below w.heap.size w W) (row : Nat) (h1 : row ≤ n) (h2 : row ≠ fw) => ahead_any (h.below hW) row h1 h2
  have HLEN : Hid _ := hlen
  have HAH : Hid _ := hah
  have HW : Hid (Wv.Rw n L b fw pl) := hw
  have hib := h.lt
  have hal : Below w.heap.size w (w.alloc (.cells (rowC (n + 1) fun _ => 0) 3)) := (Below.refl _ _).alloc (Nat.le_refl _) _
  have hcast : ((n + 1 : Nat) : Int) = (n : Int) + 1 := by omega
  rw [hcast] at hmk
  clear h hw hlen hah hcast
  go_enter Tryz.func85, Tryz.ntmps85
  go_wp2_with fail
  refine (HLEN.out w (Below.refl _ _)).mono ?_
  rintro e w' ⟨rfl, rfl⟩
  go_wp2_with fail
  refine (HLEN.out _ hal).mono ?_
  rintro e w' ⟨rfl, rfl⟩
  clear HLEN hmk
  go_wp2
  go_loopw [4, 5] (fun rv pv wr => ∃ k row : Nat, k ≤ n ∧ row ≤ n ∧ pv = .int .i64 (k : Nat) ∧ rv = .int .i64 (row : Nat) ∧ Hid (pl row = k) ∧ Hid (Row wr w'.heap.size 3 (n + 1) (fun r => if k < pl r then pl r else 0)) ∧ Hid (Below w'.heap.size w' wr)) (fun _ pv _ => (intOf pv).toNat)
  case atStart =>
    refine ⟨n, 0, by omega, by omega, rfl, rfl, HW.out.first, ?_, hal⟩
    refine (Row.new w' 3 (n + 1) (fun _ => 0)).congr fun q hq => ?_
    have := HW.out.le q (by omega)
    rw [if_neg (by omega)]
  case round =>
    obtain ⟨k, row, hk, hrow, rfl, rfl, hpl, hR, hB⟩ := hrel
    by_cases hk0 : 0 < k
    · have hne : row ≠ fw := (HW.out.ne hrow).2 (by rw [hpl.out]; exact hk0)
      obtain ⟨t1, t2, t3⟩ := HW.out.step row hrow hne
      have hi0 : (0 : Int) < (k : Int) := by omega
      have c0 := hR.out.cell (i := row) (by omega)
      have f0 := hR.out.frozen row
      have hset := (hR.out.set row k).congr (g := fun r => if k - 1 < pl r then pl r else 0) fun q hq => by
        unfold Cc.put
        by_cases e : q = row
        · subst e
          rw [if_pos rfl, hpl.out, if_pos (by omega)]
        · have e2 : pl q ≠ k := fun e2 => e (HW.out.inj q row (by omega) hrow (by rw [e2, hpl.out]))
          have e3 : (k < pl q) = (k - 1 < pl q) := by apply propext; omega
          simp only [if_neg e, e3]
      have hB2 : Below w'.heap.size w' (wr.setCell ⟨w'.heap.size, row, none⟩ (.int .i64 (k : Nat))) := hB.out.setCell (Nat.le_refl _) _
      have hcall := HAH.out _ hB2 row hrow hne
      have HS : Hid (Row (wr.setCell ⟨w'.heap.size, row, none⟩ (.int .i64 (k : Nat))) w'.heap.size 3 (n + 1) (fun r => if k - 1 < pl r then pl r else 0)) := hset
      have hb2 : Hid _ := hB2
      have T2 : Hid (pl (Cc.lead n b (Cc.ks fw row)) + 1 = k) := by show _ = _; rw [t2]; exact hpl.out
      have hri : (row : Int) < (n : Int) + 1 := by omega
      clear hset hB2 t2 t3 hpl hR hB
      go_wp2_with fail
      refine hcall.mono ?_
      rintro e w3 ⟨rfl, hB3⟩
      have hrow3 : Row w3 w'.heap.size 3 (n + 1) (fun r => if k - 1 < pl r then pl r else 0) := by
        refine HS.out.below hB3 ?_
        have := HS.out.lt
        exact this
      have HR3 : Hid (Row w3 w'.heap.size 3 (n + 1) (fun r => if k - 1 < pl r then pl r else 0)) := hrow3
      have HB3 : Hid (Below w'.heap.size w' w3) := hb2.out.trans (hB3.mono hb2.out.size)
      generalize Cc.lead n b (Cc.ks fw row) = row' at *
      clear hcall HS hb2 hB3 hrow3 c0 f0
      go_wp2
      exact ⟨⟨k - 1, row', by omega, t1, by rw [show ((k - 1 : Nat) : Int) = (k : Int) - 1 by omega], rfl, by have := T2.out; show _ = _; omega, HR3, HB3⟩, by simp [intOf]; omega⟩
    · have hk0' : k = 0 := by omega
      subst hk0'
      have HFin : Hid (Row wr w'.heap.size 3 (n + 1) pl) := hR.out.congr fun q _ => by
        by_cases e : 0 < pl q
        · rw [if_pos e]
        · rw [if_neg e]; omega
      go_wp2
      go_ret
      exact ⟨w'.heap.size, rfl, Nat.le_refl _, HFin.out, hB.out⟩

end

end Go.Proofs.YtopihgmemnokkaaGreat

namespace Go.Proofs.YtopihgmemnokkaaGreat
open Go.RowKit

theorem idxC_list (rate : Nat) (R : Array Value) (wv av : Value) (n m : Int) (kv : Value) : idxC (rate : Nat) R wv av n m kv = ((.int .i64 (rate : Nat) :: R.toList) ++ wv :: av :: .int .i64 n :: .int .i64 m :: [kv]).toArray := by
  unfold idxC
  apply Array.ext'
  simp
theorem built_idx (rate : Nat) (R : Array Value) (hR : R.size = 772) : Tryz.prog.built 127 [(0, .int .i64 (rate : Nat)), (1, .agg R)] = some (idxC (rate : Nat) R (.slice none 0 0) (.slice none 0 0) 0 0 (.slice none 0 0)) := by
  obtain ⟨z, hz, hs0, z0, z1, z2, z3, z4⟩ := zero778
  refine built_of hz places778 ?_
  have hcX : Value.cells (.agg R) = R := rfl
  have e0 : (splice z 0 (Value.cells (.int .i64 (rate : Nat)))).size = 778 := by rw [splice_size _ _ _ (by rw [hs0]; simp [Value.cells]), hs0]
  rw [fill_step (off := 0) (size := 1) rfl rfl (by rw [hs0]; decide), fill_step (off := 1) (size := 772) (v := .agg R) rfl hR (by rw [e0]; decide)]
  simp only [Instr.fill]
  refine congrArg some ?_
  apply Array.ext_getElem?
  intro k
  rw [splice_get _ _ _ (by rw [e0, hcX, hR]; decide), splice_get _ _ _ (by rw [hs0]; simp [Value.cells])]
  rw [hcX, hR]
  simp only [Value.cells, List.size_toArray, List.length_cons, List.length_nil]
  have hlast : ∀ j, j < 5 → (idxC (rate : Nat) R (.slice none 0 0) (.slice none 0 0) 0 0 (.slice none 0 0))[773 + j]? = (#[Value.slice none 0 0, .slice none 0 0, .int .i64 0, .int .i64 0, .slice none 0 0] : Array Value)[j]? := fun j _ => by
    unfold idxC
    have e : 773 + j - (#[Value.int .i64 ((rate : Nat) : Int)] ++ R).size = j := by
      rw [Array.size_append, hR]; show 773 + j - (1 + 772) = j; omega
    rw [Array.getElem?_append_right (by rw [Array.size_append, hR]; show 1 + 772 ≤ 773 + j; omega), e]
  by_cases k2 : 1 ≤ k ∧ k < 773
  · rw [if_pos (by omega)]
    unfold idxC
    rw [Array.getElem?_append_left (by simp [hR]; omega), Array.getElem?_append_right (by simp; omega)]
    rfl
  · rw [if_neg (by omega)]
    by_cases k0 : k = 0
    · subst k0
      rw [if_pos (by omega)]
      unfold idxC
      rw [Array.append_assoc, Array.getElem?_append_left (by simp)]
    · rw [if_neg (by omega)]
      by_cases h5 : k < 778
      · obtain ⟨j, rfl⟩ : ∃ j, k = 773 + j := ⟨k - 773, by omega⟩
        rw [hlast j (by omega)]
        have : j = 0 ∨ j = 1 ∨ j = 2 ∨ j = 3 ∨ j = 4 := by omega
        rcases this with rfl | rfl | rfl | rfl | rfl
        · rw [z0]; rfl
        · rw [z1]; rfl
        · rw [z2]; rfl
        · rw [z3]; rfl
        · rw [z4]; rfl
      · rw [Array.getElem?_eq_none (by rw [hs0]; omega), Array.getElem?_eq_none (by simp [idxC, hR]; omega)]
theorem Four.s4 {w : World} {b : Nat} {pre : List Value} {ty : TypeId} {v0 v1 v2 v3 u : Value} (h : Four w b pre [u] ty v0 v1 v2 v3) {o : Nat} (ho : pre.length = o) (v : Value) : Four (w.setCell ⟨b, o + 4, none⟩ v) b pre [v] ty v0 v1 v2 v3 := by
  have := h.put 4 v; rw [ho] at this; exact this
theorem BitL.post {base : Nat} {w : World} {b : Nat} {pre : List Value} {u : Value} {ty : TypeId} {wv av : Value} {p : Nat → Bool} {n o : Nat} (h : BitL base w b pre [u] ty wv av p n) (ho : pre.length = o) (v : Value) : BitL base (w.setCell ⟨b, o + 4, none⟩ v) b pre [v] ty wv av p n := by
  have hk : Kept (fun k => k = b) w (w.setCell ⟨b, o + 4, none⟩ v) := (Kept.refl _ w).setCell (by rfl) _
  exact ⟨h.four.s4 ho v, own_keep h.words hk (fun g hg e => h.four.ne h.words h.t1 g hg e), own_keep h.ahead hk (fun g hg e => h.four.ne h.ahead h.t2 g hg e), h.low, h.t1, h.t2⟩

/-- an index in memory: its marks, the known places; how its rows lie is told apart -/
structure Mrk (w : World) (ib : Nat) (pre : List Value) (wv av kv : Value) (rate : Nat) (pl : Nat → Nat) (q : Nat) : Prop where
  bits : BitL ib w ib pre [kv] 127 wv av (fun r => decide (pl r % rate = 0)) q
  known : w.ownsRow ib 3 1 kv (Wv.knL pl rate q).length (intsL (Wv.knL pl rate q))
  apart : ∀ k, kv.ownBlock = some k → ¬ bitP ib wv av k
/-- the blocks of it -/
def mrkP (ib : Nat) (wv av kv : Value) (k : Nat) : Prop := bitP ib wv av k ∨ kv.ownBlock = some k
theorem Mrk.keep {P : Nat → Prop} {w w' : World} {ib : Nat} {pre : List Value} {wv av kv : Value} {rate : Nat} {pl : Nat → Nat} {q : Nat} (h : Mrk w ib pre wv av kv rate pl q) (hk : Kept P w w') (hn : ∀ k, mrkP ib wv av kv k → ¬ P k) : Mrk w' ib pre wv av kv rate pl q :=
  ⟨h.bits.keep hk (fun k hp => hn k (.inl hp)), own_keep h.known hk (fun g hg => hn g (.inr hg)), h.apart⟩
theorem Mrk.lt {w : World} {ib : Nat} {pre : List Value} {wv av kv : Value} {rate : Nat} {pl : Nat → Nat} {q : Nat} (h : Mrk w ib pre wv av kv rate pl q) : ∀ k, mrkP ib wv av kv k → ib ≤ k ∧ k < w.heap.size := by
  rintro k (hk | hk)
  · exact h.bits.lt k hk
  · exact h.known.lt k hk
theorem intsL_app (a b : List Nat) : intsL (a ++ b) = intsL a ++ intsL b := by simp [intsL]
theorem intsL_len (a : List Nat) : (intsL a).length = a.length := by simp [intsL]

end Go.Proofs.YtopihgmemnokkaaGreat

namespace Go.Proofs.YtopihgmemnokkaaGreat
open Go.RowKit

/-- how an index lies in memory -/
structure Ixs (w : World) (ib rate n : Nat) (b : Nat → Nat) (fw : Nat) (pl : Nat → Nat) (base : Nat) (G : Nat → Nat × Nat) (r : Nat) (root : Value) (F : Nat → Prop) (wv av kv : Value) : Prop where
  rws : Rws base w ib 1 G r root F n b fw
  mrk : Mrk w ib (idxP rate n G r root b fw) wv av kv rate pl (n + 1)
  low : base ≤ r ∧ r < ib

set_option maxRecDepth 100000 in
set_option maxHeartbeats 4000000 in
theorem indexOf_any (s : ByteArray) (fw rate : Nat) (L pl : Nat → Nat) (w : World) (hs : s.size ≤ 1000) (hf : fw ≤ s.size) (hw : Wv.Rw s.size L (BY s) fw pl) (hr0 : 0 < rate) (hr1 : rate ≤ 64) :
    Calls Tryz.prog 38 #[.string s, .int .i64 (fw : Nat), .int .i64 (rate : Nat)] w fun e w' => ∃ (ib : Nat) (G : Nat → Nat × Nat) (r : Nat) (root : Value) (F : Nat → Prop) (wv av kv : Value), e = .returned (.pointer (some ⟨ib, 0, none⟩)) ∧ Ixs w' ib rate s.size (BY s) fw pl w.heap.size G r root F wv av kv ∧ Below w.heap.size w w' := by
  obtain ⟨j0, hj, hy0, hy1, hy2⟩ := info_parts Tryz.info3
  go_enter Tryz.func38, Tryz.ntmps38
  go_wp2_with fail
  refine (rowsOf_any s fw w hs).mono ?_
  rintro e w1 ⟨G, r, root, F, rfl, hG, hlv, hY, hrb, hT, hB1⟩
  have hsz := rwsC_size (treC s.size G (.map (some r)) root) (Wv.st s.size (BY s)) fw (treC_size _ _ _ _)
  have hbs := built_idx rate (rwsC (treC s.size G (.map (some r)) root) (Wv.st s.size (BY s)) fw) hsz
  have HBS : Hid _ := hbs
  have hlist := idxC_list rate (rwsC (treC s.size G (.map (some r)) root) (Wv.st s.size (BY s)) fw) (.slice none 0 0) (.slice none 0 0) 0 0 (.slice none 0 0)
  have hz1 := hB1.size
  clear hbs
  go_wp2_with (first
    | (refine wpList_build rfl 127 _ rfl _ (by simpa [Act.eval] using HBS.out) ?_)
    | fail)
  have hF0 : Four (w1.alloc (.cells (.int .i64 (rate : Nat) :: ((rwsC (treC s.size G (.map (some r)) root) (Wv.st s.size (BY s)) fw).toList ++ [.slice none 0 0, .slice none 0 0, .int .i64 0, .int .i64 0, .slice none 0 0])).toArray 127)) w1.heap.size (idxP rate s.size G r root (BY s) fw) [.slice none 0 0] 127 (.slice none 0 0) (.slice none 0 0) (.int .i64 0) (.int .i64 0) := heap_alloc_new _ _
  have hal : Below w1.heap.size w1 (w1.alloc (.cells (.int .i64 (rate : Nat) :: ((rwsC (treC s.size G (.map (some r)) root) (Wv.st s.size (BY s)) fw).toList ++ [.slice none 0 0, .slice none 0 0, .int .i64 0, .int .i64 0, .slice none 0 0])).toArray 127)) := (Below.refl _ _).alloc (Nat.le_refl _) _
  have hzI : (w1.alloc (.cells (.int .i64 (rate : Nat) :: ((rwsC (treC s.size G (.map (some r)) root) (Wv.st s.size (BY s)) fw).toList ++ [.slice none 0 0, .slice none 0 0, .int .i64 0, .int .i64 0, .slice none 0 0])).toArray 127)).heap.size = w1.heap.size + 1 := by simp
  generalize (w1.alloc (.cells (.int .i64 (rate : Nat) :: ((rwsC (treC s.size G (.map (some r)) root) (Wv.st s.size (BY s)) fw).toList ++ [.slice none 0 0, .slice none 0 0, .int .i64 0, .int .i64 0, .slice none 0 0])).toArray 127)) = wI at *
  have hYI := hY.keep (Kept.of_below hal (Nat.le_refl _) (fun _ => False)) (fun h => h)
  have hTI := hT.below hal
  have hFlt : ∀ k, F k → w.heap.size ≤ k ∧ k < w1.heap.size := hT.lt
  have hrlt : r < w1.heap.size := hY.lt
  have hbyt : ∀ i, i < s.size → BY s i < 256 := fun i _ => by have := BY_le s i; omega
  have hRI := idx_rws hF0 hYI hTI hG hbyt hlv hf hs
  have hM0 : Mrk wI w1.heap.size (idxP rate s.size G r root (BY s) fw) (.slice none 0 0) (.slice none 0 0) (.slice none 0 0) rate pl 0 := by
    refine ⟨⟨hF0, ⟨rfl, .inl ⟨rfl, rfl⟩⟩, ⟨rfl, .inl ⟨rfl, rfl⟩⟩, Nat.le_refl _, by decide, by decide⟩, ⟨rfl, .inl ⟨rfl, rfl⟩⟩, fun k hk => by cases hk⟩
  have hBI : Below w.heap.size w wI := hB1.trans (hal.mono hz1)
  refine (iplaces_any hRI hw).mono ?_
  rintro e w5 ⟨g, rfl, hgI, hgR, hB5⟩
  have hz5 := hB5.size
  have hgl := hgR.lt
  have HK5 : Hid (Below w.heap.size w w5) := hBI.trans (hB5.mono hBI.size)
  have hk5 := Kept.of_below hB5 (Nat.le_refl _) (fun _ => False)
  have HM5 : Hid (Mrk w5 w1.heap.size (idxP rate s.size G r root (BY s) fw) (.slice none 0 0) (.slice none 0 0) (.slice none 0 0) rate pl 0) := hM0.keep hk5 (fun _ _ h => h)
  have HR5 : Hid (Byt w5 r G 256 ∧ BTree w.heap.size 64 w5 root (Wv.waysOf (fun c => bl (G c)) (BY s) s.size) F ∧ Row w5 g 3 (s.size + 1) pl) := ⟨hYI.keep hk5 (fun h => h), hTI.below hB5, hgR⟩
  have HCON : Hid (∀ (W : World) (post : List Value) (v0 v1 v2 v3 : Value), Four W w1.heap.size (idxP rate s.size G r root (BY s) fw) post 127 v0 v1 v2 v3 → Byt W r G 256 → BTree w.heap.size 64 W root (Wv.waysOf (fun c => bl (G c)) (BY s) s.size) F → Rws w.heap.size W w1.heap.size 1 G r root F s.size (BY s) fw) := fun W post v0 v1 v2 v3 h1 h2 h3 => idx_rws h1 h2 h3 hG hbyt hlv hf hs
  have HFL : Hid _ := hFlt
  have HPL : Hid (∀ i, i ≤ s.size → pl i ≤ s.size) := hw.le
  have hpre := idxP_len rate s.size G r root (BY s) fw
  clear hF0 hal hYI hTI hRI hM0 hBI hB5 hk5 hgR hY hT hB1 hG hlv HBS hlist hsz hFlt hw hbyt
  generalize hpq : idxP rate s.size G r root (BY s) fw = pre at *
  have HPQ : Hid (idxP rate s.size G r root (BY s) fw = pre) := hpq
  clear hpq
  generalize w1.heap.size = ib at *
  go_wp2
  go_loopw [9, 10, 20] (fun _ _ i wr => ∃ (q : Nat) (wv av kv : Value), q ≤ s.size + 1 ∧ i = .int .i64 q ∧ Hid (Mrk wr ib pre wv av kv rate pl q) ∧ Hid (∀ k, mrkP ib wv av kv k → k = ib ∨ w5.heap.size ≤ k) ∧ Hid (Byt wr r G 256 ∧ BTree w.heap.size 64 wr root (Wv.waysOf (fun c => bl (G c)) (BY s) s.size) F ∧ Row wr g 3 (s.size + 1) pl) ∧ Hid (Below w.heap.size w wr) ∧ w5.heap.size ≤ wr.heap.size) (fun _ _ i _ => s.size + 1 - (intOf i).toNat)
  case atStart =>
    refine ⟨0, _, _, _, by omega, rfl, HM5, fun k hk => ?_, HR5, HK5, Nat.le_refl _⟩
    rcases hk with (h | h | h) | h
    · exact .inl h
    · cases h
    · cases h
    · cases h
  case round =>
    clear HM5 HR5 HK5
    obtain ⟨q, wv, av, kv, hq, rfl, HM, HLW, HR, HB, hzr⟩ := hrel
    by_cases hlt : q < s.size + 1
    · have hplq := HPL.out q (by omega)
      have c0 := HR.out.2.2.cell (i := q) hlt
      have hqi : (q : Int) < ((s.size + 1 : Nat) : Int) := by omega
      have hqi2 : (q : Int) < (s.size : Int) + 1 := by omega
      have hrn : ((rate : Int) == 0) = false := by simp; omega
      have hrn2 : ¬ (rate : Int) = 0 := by omega
      have hkc := HM.out.bits.four.cell 4
      rw [hpre] at hkc
      have hkc' : wr.cell? ⟨ib, 777, none⟩ = some kv := hkc
      have hkf : wr.frozen? ⟨ib, 777, none⟩ = false := HM.out.bits.four.frozen 777
      obtain ⟨ka, kc, hkv⟩ := own_slice HM.out.known
      have hibl : ib < wr.heap.size := HM.out.bits.four.lt
      have hknb : (Wv.knL pl rate q).length ≤ q := by rw [Wv.knL_len]; exact Cc.cn_le q _
      have HSU := Wv.knL_succ pl rate q
      have hmodn : ((pl q : Nat) : Int) % (rate : Int) = ((pl q % rate : Nat) : Int) := by omega
      have hlow0 := HM.out.known.lt
      clear hkc
      -- what is left when the mark is laid
      have FIN : Hid (∀ (W : World) (kv' : Value) (Y : Nat), BitL ib W ib pre [kv'] 127 wv av (fun r => decide (pl r % rate = 0)) q → W.ownsRow ib 3 1 kv' (Wv.knL pl rate (q + 1)).length (intsL (Wv.knL pl rate (q + 1))) → (∀ k, kv'.ownBlock = some k → ¬ bitP ib wv av k) → (∀ k, kv'.ownBlock = some k → w5.heap.size ≤ k) →
          (decide (pl q % rate = 0)).toNat = Y → Byt W r G 256 ∧ BTree w.heap.size 64 W root (Wv.waysOf (fun c => bl (G c)) (BY s) s.size) F ∧ Row W g 3 (s.size + 1) pl → Below w.heap.size w W → w5.heap.size ≤ W.heap.size →
          Calls Tryz.prog 86 #[.pointer (some ⟨ib, 773, none⟩), .slice (some ⟨W.heap.size, 0, none⟩) 1 1] (W.alloc (.cells #[.int .i64 1, .int .u64 (Y : Nat)] 114)) fun e w' => e = .returned (.tuple #[]) ∧ ∃ wv' av', Mrk w' ib pre wv' av' kv' rate pl (q + 1) ∧ (∀ k, mrkP ib wv' av' kv' k → k = ib ∨ w5.heap.size ≤ k) ∧
            (Byt w' r G 256 ∧ BTree w.heap.size 64 w' root (Wv.waysOf (fun c => bl (G c)) (BY s) s.size) F ∧ Row w' g 3 (s.size + 1) pl) ∧ Below w.heap.size w w' ∧ w5.heap.size ≤ w'.heap.size) := by
        intro W kv' Y hL hK hA hlow hY hR hBW hzW
        have hn3 : (W.alloc (.cells #[.int .i64 1, .int .u64 (Y : Nat)] 114)).heap[W.heap.size]? = some (.cells #[.int .i64 1, .int .u64 (Y : Nat)] 114 (0, 0)) := heap_alloc_new _ _
        have hb4 : Below W.heap.size W (W.alloc (.cells #[.int .i64 1, .int .u64 (Y : Nat)] 114)) := (Below.refl _ _).alloc (Nat.le_refl _) _
        have hL4 := hL.below hb4
        have ka4 := Kept.of_below hb4 (Nat.le_refl _) (fun _ => False)
        have hlt4 := hL.lt
        have hKl := hK.lt
        refine (lay_one ib _ ib 773 pre [kv'] hpre 127 wv av _ q W.heap.size 1 Y hL4 hY (cell_of hn3 rfl) (cell_of hn3 rfl) (fun hp => by have := (hlt4 _ hp).2; omega) (by omega)).mono ?_
        rintro e w' ⟨rfl, wv', av', hL5, hK5, hat5⟩
        have hz4 : (W.alloc (.cells #[.int .i64 1, .int .u64 (Y : Nat)] 114)).heap.size = W.heap.size + 1 := by simp
        have hz5' := hK5.size
        have hP : ∀ k, bitP ib wv av k → k = ib ∨ w5.heap.size ≤ k := fun k hk => HLW.out k (.inl hk)
        have hgn : ¬ bitP ib wv av g := fun h => by
          rcases hP g h with h | h
          · omega
          · omega
        refine ⟨rfl, wv', av', ⟨hL5, own_keep (own_keep hK ka4 (fun _ _ h => h)) hK5 hA, fun k hk hb => ?_⟩, fun k hk => ?_, ⟨(hR.1.keep ka4 (fun h => h)).keep hK5 (fun h => ?_), (hR.2.1.below hb4).keep hK5 (fun k hk h => ?_), Kept.row hK5 (Kept.row ka4 hR.2.2 (fun h => h)) hgn⟩, ?_, by omega⟩
        · rcases hat5 k hb with h | h
          · exact hA k hk h
          · have := (hKl k hk).2; omega
        · rcases hk with hk | hk
          · rcases hat5 k hk with h | h
            · exact hP k h
            · exact .inr (by omega)
          · exact .inr (hlow k hk)
        · rcases hP r h with h | h
          · omega
          · omega
        · have h1 := (HFL.out k hk).2
          rcases hP k h with h | h
          · omega
          · omega
        · exact hK5.bel (hBW.trans (hb4.mono hBW.size)) (Nat.le_refl _) (fun k hk => by
            rcases hP k hk with h | h
            · omega
            · omega)
      by_cases hz : pl q % rate = 0
      · rw [if_pos hz] at HSU
        have HSU' : Hid (Wv.knL pl rate (q + 1) = Wv.knL pl rate q ++ [pl q]) := HSU
        have hm0 : ((pl q : Nat) : Int) % (rate : Int) = 0 := by rw [hmodn, hz]; rfl
        have HMZ : Hid ((decide (pl q % rate = 0)).toNat = 1) := by show _ = _; simp [hz]
        have hown0 := HM.out.known
        have hlow1 : ∀ k, kv.ownBlock = some k → w5.heap.size ≤ k := fun k hk => by
          rcases HLW.out k (.inr hk) with h | h
          · exact absurd (.inl h) (HM.out.apart k hk)
          · exact h
        have hne1 : ∀ k, kv.ownBlock = some k → k ≠ ib := fun k hk h => HM.out.apart k hk (.inl h)
        have hgk : ∀ k, kv.ownBlock = some k → k ≠ g := fun k hk h => by have := hlow1 k hk; omega
        subst hkv
        clear HSU hmodn hz
        go_wp2_with (at_builtin; refine wpList_append_own_at _ rfl _ _ 30 rfl ib 3 j0 (.int .i64 0) 1 8 Tryz.underlying30 hj hy0 hy1 hy2 rfl (by decide) _ _ _ rfl (hown0.alloc _) ⟨wr.heap.size, 0, none⟩ 1 1 [.int .i64 (pl q : Nat)] rfl rfl ?c1 ?c2 ?c3 ?c4 ?c5 ?_)
        case c1 => exact cell_one_new _ _ _
        case c2 => first | rfl | (intro u hu; simp at hu; subst hu; rfl)
        case c3 => first | omega | (unfold maxLen; omega)
        case c4 => omega
        case c5 => first | omega | (simp; omega)
        intro v' w6 hown6 hg6 _ hat6
        have ka6 : Kept (fun k => (Value.slice ka (Wv.knL pl rate q).length kc).ownBlock = some k) wr w6 := ((Kept.refl _ wr).alloc _).grown hg6 (fun k hk _ => hk)
        have bits6 := HM.out.bits.keep ka6 (fun k hp e => HM.out.apart k e hp)
        have hk6 : w6.cell? ⟨ib, 777, none⟩ = some (.slice ka (Wv.knL pl rate q).length kc) := by have := bits6.four.cell 4; rw [hpre] at this; exact this
        have hf6 := bits6.four.frozen 777
        have hz6 := ka6.size
        have hv6 : ∀ k, v'.ownBlock = some k → ((Value.slice ka (Wv.knL pl rate q).length kc).ownBlock = some k ∨ k = wr.heap.size + 1) := fun k hk => by
          rcases hat6 with h | h
          · exact .inl (by rw [← h]; exact hk)
          · rw [hk] at h
            simp at h
            exact .inr (by omega)
        have hks : Kept (fun k => k = ib) w6 (w6.setCell ⟨ib, 777, none⟩ v') := (Kept.refl _ w6).setCell (by rfl) _
        have hv7 : ∀ k, v'.ownBlock = some k → k ≠ ib := fun k hk h => by
          rcases hv6 k hk with h1 | h1
          · exact hne1 k h1 h
          · omega
        have hbitlt := HM.out.bits.lt
        have hc : Calls Tryz.prog 86 #[.pointer (some ⟨ib, 773, none⟩), .slice (some ⟨(w6.setCell ⟨ib, 777, none⟩ v').heap.size, 0, none⟩) 1 1] ((w6.setCell ⟨ib, 777, none⟩ v').alloc (.cells #[.int .i64 1, .int .u64 1] 114)) _ :=
          FIN.out (w6.setCell ⟨ib, 777, none⟩ v') v' 1 (bits6.post hpre v') (by
            rw [HSU'.out, intsL_app, List.length_append]
            exact own_keep hown6 hks (fun k hk => hv7 k hk)) (fun k hk hb => by
            rcases hv6 k hk with h1 | h1
            · exact HM.out.apart k h1 hb
            · have := (hbitlt k hb).2; omega) (fun k hk => by
            rcases hv6 k hk with h1 | h1
            · exact hlow1 k h1
            · omega) HMZ.out
            ⟨(HR.out.1.keep ka6 (fun h => by have := hlow1 r h; omega)).keep hks (by omega), (HR.out.2.1.keep ka6 (fun k hk h => by have := hlow1 k h; have := (HFL.out k hk).2; omega)).keep hks (fun k hk h => by have := (HFL.out k hk).2; omega), Kept.row hks (Kept.row ka6 HR.out.2.2 (fun h => hgk g h rfl)) (by omega)⟩
            (hks.bel (ka6.bel HB.out (Nat.le_refl _) (fun k hk => by have := hlow1 k hk; omega)) (Nat.le_refl _) (fun k hk => by omega)) (by simp; omega)
        obtain ⟨va, vc, rfl⟩ := own_slice hown6
        have hszw : (w6.setCell ⟨ib, 777, none⟩ (.slice va ((Wv.knL pl rate q).length + 1) vc)).heap.size = w6.heap.size := by simp
        rw [hszw] at hc
        clear FIN bits6 hown6 hg6 hat6 hv6 hv7 hks ka6 HM HR HB HLW hown0 hlow1 hne1 hgk c0 hkc' hkf
        go_wp2_with fail
        refine hc.mono ?_
        rintro e w7 ⟨rfl, wv', av', hM7, hl7, hr7, hb7, hz7⟩
        have HM7 : Hid (Mrk w7 ib pre wv' av' (.slice va ((Wv.knL pl rate q).length + 1) vc) rate pl (q + 1)) := hM7
        have HR7 : Hid (Byt w7 r G 256 ∧ BTree w.heap.size 64 w7 root (Wv.waysOf (fun c => bl (G c)) (BY s) s.size) F ∧ Row w7 g 3 (s.size + 1) pl) := hr7
        clear hc hM7 hr7 hk6 hf6
        go_wp2
        exact ⟨⟨q + 1, wv', av', _, by omega, by go_num, HM7, hl7, HR7, hb7, hz7⟩, by simp [intOf]; omega⟩
      · rw [if_neg hz] at HSU
        have hm0 : ¬ ((pl q : Nat) : Int) % (rate : Int) = 0 := by rw [hmodn]; omega
        have hmb : (((pl q : Nat) : Int) % (rate : Int) == 0) = false := by simp; exact hm0
        have hlow1 : ∀ k, kv.ownBlock = some k → w5.heap.size ≤ k := fun k hk => by
          rcases HLW.out k (.inr hk) with h | h
          · exact absurd (.inl h) (HM.out.apart k hk)
          · exact h
        have hc : Calls Tryz.prog 86 #[.pointer (some ⟨ib, 773, none⟩), .slice (some ⟨wr.heap.size, 0, none⟩) 1 1] (wr.alloc (.cells #[.int .i64 1, .int .u64 0] 114)) _ :=
          FIN.out wr kv 0 HM.out.bits (by rw [HSU]; exact HM.out.known) HM.out.apart hlow1 (by simp [hz]) HR.out HB.out hzr
        clear FIN HM HR HB HLW HSU hlow1 hmodn hkv
        go_wp2_with fail
        refine hc.mono ?_
        rintro e w7 ⟨rfl, wv', av', hM7, hl7, hr7, hb7, hz7⟩
        have HM7 : Hid (Mrk w7 ib pre wv' av' kv rate pl (q + 1)) := hM7
        have HR7 : Hid (Byt w7 r G 256 ∧ BTree w.heap.size 64 w7 root (Wv.waysOf (fun c => bl (G c)) (BY s) s.size) F ∧ Row w7 g 3 (s.size + 1) pl) := hr7
        clear hc hM7 hr7
        go_wp2
        exact ⟨⟨q + 1, wv', av', _, by omega, by go_num, HM7, hl7, HR7, hb7, hz7⟩, by simp [intOf]; omega⟩
    · have hq2 : q = s.size + 1 := by omega
      subst hq2
      have HFI := HCON.out wr _ _ _ _ _ HM.out.bits.four HR.out.1 HR.out.2.1
      have hci : ((s.size + 1 : Nat) : Int) = (s.size : Int) + 1 := by omega
      rw [hci]
      have HM2 : Hid (Mrk wr ib (idxP rate s.size G r root (BY s) fw) wv av kv rate pl (s.size + 1)) := by
        show Mrk _ _ _ _ _ _ _ _ _
        rw [HPQ.out]; exact HM.out
      clear HM HR HCON
      go_wp2
      go_ret
      exact ⟨ib, G, r, root, F, wv, av, kv, rfl, ⟨HFI, HM2.out, hrb, hrlt⟩, HB.out⟩

end Go.Proofs.YtopihgmemnokkaaGreat

