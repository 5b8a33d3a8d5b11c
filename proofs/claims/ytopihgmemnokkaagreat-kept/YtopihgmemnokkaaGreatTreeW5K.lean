import Derived.Test.YtopihgmemnokkaaGreatTreeW2K
import Derived.Test.YtopihgmemnokkaaGreatWalk7K
import Derived.Test.YtopihgmemnokkaaGreatWvK
import Derived.Test.YtopihgmemnokkaaGreatRecBK
import Derived.Test.YtopihgmemnokkaaGreatIxW1K
namespace Go.Proofs.YtopihgmemnokkaaGreat
open Go.RowKit
structure SplitAt (base d : Nat) (w : World) (tb o fb r : Nat) (G : Nat → Nat × Nat) (v : Value) (W : List Bool) (Z : List (List Bool)) (F : Nat → Prop) : Prop where
  map : w.cell? ⟨tb, o + 513, none⟩ = some (.map (some r))
  ne1 : tb ≠ fb
  ne2 : r ≠ fb
  ne3 : ¬ F fb
  byt : Byt w r G 256
  cod : Cod G
  tree : BTree base d w v Z F
  ways : ∀ y ∈ Z, ∃ c, c < 256 ∧ 0 < (G c).1 ∧ bl (G c) = W ++ y
  deep : d + W.length = 64
  most : Z.length ≤ 1000000
  live : [] ∉ Z
theorem SplitAt.keep {base d : Nat} {w w' : World} {tb o fb r : Nat} {G : Nat → Nat × Nat} {v : Value} {W : List Bool} {Z : List (List Bool)} {F : Nat → Prop} (h : SplitAt base d w tb o fb r G v W Z F) (hk : Kept (fun k => k = fb) w w') : SplitAt base d w' tb o fb r G v W Z F :=
  ⟨cell_keep hk h.map h.ne1, h.ne1, h.ne2, h.ne3, h.byt.keep hk h.ne2, h.cod, h.tree.keep hk (fun _ hF e => h.ne3 (e ▸ hF)), h.ways, h.deep, h.most, h.live⟩
theorem empty_sel {Z : List (List Bool)} {rs : List (Nat × Nat)} (hu : Wv.Upto Z.length rs) (h : Z = [] ∨ rs = []) : Wv.flat rs = [] := by
  rcases h with rfl | rfl
  · apply List.eq_nil_iff_forall_not_mem.2
    intro i hi
    have := hu.lt i hi
    simp at this
  · rfl
theorem BTree.none_nil {base d : Nat} {w : World} {Z : List (List Bool)} {F : Nat → Prop} (h : BTree base d w (.pointer none) Z F) (hl : [] ∉ Z) : Z = [] := by
  have hall : ∀ x ∈ Z, x = [] := by
    cases d with
    | zero => exact h.2.1
    | succ d =>
      rcases h with h | ⟨b, wv, av, v0, v1, F0, F1, h1, _⟩
      · exact h.2.1
      · cases h1
  apply List.eq_nil_iff_forall_not_mem.2
  intro x hx
  have := hall x hx
  subst this; exact hl hx
theorem run_index_two (v0 v1 : Value) (d : Bool) (w : World) : (Instr.index 221 (.agg #[v0, v1]) (.int .i64 ((d.toNat : Nat) : Int))).run Tryz.prog w = .ok (if d then v1 else v0) w := by
  cases d <;> simp [Instr.index, run_underlying Tryz.underlying221, asIntOf, part, Tryz.isAgg117, Tryz.sizeOf117]
def SplitPost (w : World) (fb : Nat) (G : Nat → Nat × Nat) (W : List Bool) (Z : List (List Bool)) (L : List Nat) (rf : Nat → List (Nat × Nat)) (e : Ending) (w' : World) : Prop :=
  e = .returned (.tuple #[]) ∧ ∃ (vf' : Nat → Value) (rf' : Nat → List (Nat × Nat)), FoundAt w' fb vf' rf' ∧ Kept (fun k => k = fb) w w' ∧ Told G W Z L rf rf'
set_option maxRecDepth 100000 in
set_option maxHeartbeats 2000000 in
theorem split_none (tb o fb : Nat) (v : Value) (W : List Bool) (rv : Value) (rs : List (Nat × Nat)) (w : World) (hr : RgAt w rv rs) (h : v = .pointer none ∨ (∃ b, v = .pointer (some ⟨b, 0, none⟩)) ∧ rs = []) :
    Calls Tryz.prog 168 #[.pointer (some ⟨tb, o, none⟩), v, runV (wayR W).1 (wayR W).2, .pointer (some ⟨fb, 0, none⟩), rv] w fun e w' => e = .returned (.tuple #[]) ∧ Below w.heap.size w w' := by
  unfold runV
  rcases h with rfl | ⟨⟨b, rfl⟩, rfl⟩
  · go_enter Tryz.func168, Tryz.ntmps168
    go_wp2
    (try simp only [Exit.inBlock, Exit.then])
    refine bodyPost_ret (results_none rfl _ _ _) rfl ?_
    exact ⟨rfl, (Below.refl _ _).alloc (Nat.le_refl _) _⟩
  · obtain ⟨a, c, rfl⟩ := hr.len
    go_enter Tryz.func168, Tryz.ntmps168
    go_wp2
    (try simp only [Exit.inBlock, Exit.then])
    refine bodyPost_ret (results_none rfl _ _ _) rfl ?_
    exact ⟨rfl, (Below.refl _ _).alloc (Nat.le_refl _) _⟩
theorem split_quiet {w w' : World} {fb : Nat} {G : Nat → Nat × Nat} {W : List Bool} {Z : List (List Bool)} {rs : List (Nat × Nat)} {vf : Nat → Value} {rf : Nat → List (Nat × Nat)} (hf : FoundAt w fb vf rf) (h0 : ∀ c, c < 256 → 0 < (G c).1 → ∀ y, y ≠ [] → bl (G c) = W ++ y → rf c = [])
    (hb : Below w.heap.size w w') (he : Wv.flat rs = []) : SplitPost w fb G W Z (Wv.flat rs) rf (.returned (.tuple #[])) w' := by
  refine ⟨rfl, vf, rf, hf.below hb, Kept.of_below hb (Nat.le_refl _) _, fun c hc hp y hy hw => ?_, fun _ _ _ => rfl⟩
  rw [h0 c hc hp y hy hw, he]
  exact ⟨fun r hr => by simp at hr, rfl⟩
set_option maxRecDepth 100000 in
set_option maxHeartbeats 4000000 in
theorem split_any (base tb o fb r : Nat) (G : Nat → Nat × Nat) : ∀ (d : Nat) (w : World) (v : Value) (W : List Bool) (Z : List (List Bool)) (F : Nat → Prop) (rv : Value) (rs : List (Nat × Nat)) (vf : Nat → Value) (rf : Nat → List (Nat × Nat)), SplitAt base d w tb o fb r G v W Z F →
    RgAt w rv rs → rv.ownBlock ≠ some fb → Wv.Upto Z.length rs → rs.length ≤ 1000000 → FoundAt w fb vf rf → (∀ c, c < 256 → 0 < (G c).1 → ∀ y, y ≠ [] → bl (G c) = W ++ y → rf c = []) →
    Calls Tryz.prog 168 #[.pointer (some ⟨tb, o, none⟩), v, runV (wayR W).1 (wayR W).2, .pointer (some ⟨fb, 0, none⟩), rv] w (SplitPost w fb G W Z (Wv.flat rs) rf)
  | 0, w, v, W, Z, F, rv, rs, vf, rf, h, hr, hrn, hu, hl, hf, h0 => by
    have hv := h.tree.1
    subst hv
    refine (split_none tb o fb _ W rv rs w hr (.inl rfl)).mono ?_
    rintro e w' ⟨rfl, hb⟩
    exact split_quiet hf h0 hb (empty_sel hu (.inl (h.tree.none_nil h.live)))
  | d + 1, w, v, W, Z, F, rv, rs, vf, rf, h, hr, hrn, hu, hl, hf, h0 => by
    have IH := split_any base tb o fb r G d
    rcases h.tree with ht | ⟨b, wv, av, v0, v1, F0, F1, rfl, hne, hL, t0, t1, d1, d2, hF⟩
    · have hv := ht.1
      subst hv
      refine (split_none tb o fb _ W rv rs w hr (.inl rfl)).mono ?_
      rintro e w' ⟨rfl, hb⟩
      exact split_quiet hf h0 hb (empty_sel hu (.inl (h.tree.none_nil h.live)))
    by_cases hrs : rs = []
    · subst hrs
      refine (split_none tb o fb _ W rv [] w hr (.inr ⟨⟨b, rfl⟩, rfl⟩)).mono ?_
      rintro e w' ⟨rfl, hb⟩
      exact split_quiet hf h0 hb rfl
    rw [Wv.bits_len h.live] at hL
    have hrl : 0 < rs.length := List.length_pos_iff.2 hrs
    obtain ⟨ra, rc, rfl⟩ := hr.len
    have hW64 : W.length + 1 ≤ 64 := by have := h.deep; omega
    have hnum := numv_lt0 W
    have hbfb : b ≠ fb := fun e => h.ne3 (e ▸ (hF b).2 (.inl (.inl rfl)))
    have hbP : ∀ k, bitP b wv av k → k ≠ fb := fun k hk e => h.ne3 (e ▸ (hF k).2 (.inl hk))
    have hm := h.map
    have hblt : b < w.heap.size := hL.four.lt
    have hfbl : fb < w.heap.size := (Array.getElem?_eq_some_iff.1 hf.1).1
    have htbl : tb < w.heap.size := World.block_lt_of_cell? _ _ hm
    have s0 : w.cell? ⟨b, 4, none⟩ = some v0 := by have := hL.four.cell 4; exact this
    have s1 : w.cell? ⟨b, 5, none⟩ = some v1 := by have := hL.four.cell 5; exact this
    have hix := run_index_two v0 v1
    have HSA : Hid (SplitAt base (d + 1) w tb o fb r G (.pointer (some ⟨b, 0, none⟩)) W Z F) := h
    have HSub : Hid (∀ (x : Bool) (w' : World), Kept (fun k => k = fb) w w' → (∀ c, c < 256 → 0 < (G c).1 → bl (G c) ≠ W ++ [x]) → SplitAt base d w' tb o fb r G (if x then v1 else v0) (W ++ [x]) (Wv.child x Z) (if x then F1 else F0)) := by
      intro x w' hk hno
      have h' := h.keep hk
      have hwy : ∀ y ∈ Wv.child x Z, ∃ c, c < 256 ∧ 0 < (G c).1 ∧ bl (G c) = (W ++ [x]) ++ y := fun y hy => by
        obtain ⟨c, hc, hp, he⟩ := h.ways _ (Wv.child_mem.1 hy)
        exact ⟨c, hc, hp, by rw [he]; simp⟩
      have hlive : [] ∉ Wv.child x Z := fun hm => by
        obtain ⟨c, hc, hp, he⟩ := hwy _ hm
        exact hno c hc hp (by rw [he]; simp)
      have hdeep : d + (W ++ [x]).length = 64 := by have := h.deep; simp; omega
      have hmost : (Wv.child x Z).length ≤ 1000000 := Nat.le_trans (child_le x Z) h.most
      cases x with
      | false => exact ⟨h'.map, h.ne1, h.ne2, fun e => h.ne3 ((hF fb).2 (.inr (.inl e))), h'.byt, h.cod, t0.keep hk (fun k hp e => h.ne3 (e ▸ (hF k).2 (.inr (.inl hp)))), hwy, hdeep, hmost, hlive⟩
      | true => exact ⟨h'.map, h.ne1, h.ne2, fun e => h.ne3 ((hF fb).2 (.inr (.inr e))), h'.byt, h.cod, t1.keep hk (fun k hp e => h.ne3 (e ▸ (hF k).2 (.inr (.inr hp)))), hwy, hdeep, hmost, hlive⟩
    have HIH : Hid _ := IH
    have HL : Hid (BitL base w b [] [v0, v1] 223 wv av (Wv.bitAt Z) Z.length) := hL
    have HR : Hid (RgAt w (.slice ra rs.length rc) rs) := hr
    have HU : Hid (Wv.Upto Z.length rs) := hu
    have HFD : Hid (FoundAt w fb vf rf) := hf
    have H0 : Hid _ := h0
    have HBP : Hid _ := hbP
    have hZm := h.most
    have hne0 : ((rs.length : Int) == 0) = false := by simp; omega
    clear h hL hr hu hf h0 hbP IH t0 t1 d1 d2 hF hne hrs
    have hwr1 : (wayR W).1 = W.length := rfl
    have hwr2 : (wayR W).2 = numv 0 W := rfl
    have HSN := wayR_snoc W
    rw [hwr1, hwr2]
    simp only [hwr1, hwr2] at HSN
    generalize numv 0 W = x at *
    clear hwr1 hwr2
    unfold runV
    go_enter Tryz.func168, Tryz.ntmps168
    go_wp2
    have hal : Below w.heap.size w (w.alloc (.cells #[.int .i64 (W.length : Nat), .int .u64 (x : Nat)] 114)) := (Below.refl _ _).alloc (Nat.le_refl _) _
    go_loopw [10, 11, 12, 13, 14, 15, 16, 28] (fun _ _ _ _ _ _ _ i wr => ∃ (k : Nat) (vf' : Nat → Value) (rf' : Nat → List (Nat × Nat)), k ≤ 2 ∧ i = .int .i64 k ∧ Hid (FoundAt wr fb vf' rf') ∧ Hid (Kept (fun k => k = fb) w wr) ∧ Hid (ToldTo k G W Z (Wv.flat rs) rf rf') ∧
        wr.heap[w.heap.size]? = some (.cells #[.int .i64 (W.length : Nat), .int .u64 (x : Nat)] 114 (0, 0)) ∧ w.heap.size < wr.heap.size) (fun _ _ _ _ _ _ _ i _ => 2 - (intOf i).toNat)
    case atStart => exact ⟨0, vf, rf, by omega, rfl, HFD.out.below hal, Kept.of_below hal (Nat.le_refl _) _, ToldTo.zero _ _ _ _ _, heap_alloc_new _ _, by simp⟩
    case round =>
      clear hal s0 s1
      obtain ⟨k, vf1, rf1, hk, rfl, hF1, hK1, hT1, hbx, hsz⟩ := hrel
      have b1 := cell_of hbx (i := 0) rfl
      have b2 := cell_of hbx (i := 1) rfl
      by_cases hlt : k < 2
      · obtain ⟨y, hy⟩ : ∃ y : Bool, y.toNat = k := by
          have : k = 0 ∨ k = 1 := by omega
          rcases this with rfl | rfl
          · exact ⟨false, rfl⟩
          · exact ⟨true, rfl⟩
        have hixy := hix y
        rw [hy] at hixy
        have HAM := fun (W' : World) (hW : Kept (fun k => k = fb) w W') => among_any base W' b 0 [] [v0, v1] rfl _ wv av (Wv.bitAt Z) Z.length y (.slice ra rs.length rc) rs (HL.out.keep hW HBP.out) (HR.out.keep hW (fun g hg e => hrn (by rw [hg, e]))) HU.out hZm hl
        rw [hy] at HAM
        have hki : (k : Int) < 2 := by omega
        have hk1 : k ≤ 1 := by omega
        have HAM' : Hid _ := HAM
        obtain ⟨q1, q2⟩ := Wv.am_bits (Wv.bitAt Z) y HU.out
        have q3 := Wv.am_len (Wv.rkb (Wv.bitAt Z) y) rs
        rw [← child_all y HSA.out.live] at q1
        have HSEL : Hid (∀ z, Wv.sel z (Wv.child y Z) (Wv.flat (Wv.am (Wv.rkb (Wv.bitAt Z) y) rs)) = Wv.sel (y :: z) Z (Wv.flat rs)) := fun z => by
          rw [q2, Wv.sel_down HSA.out.live _ HU.out.lt]
        have HFU : Hid (Wv.Full (Wv.child y Z).length (Wv.am (Wv.rkb (Wv.bitAt Z) y) rs)) := q1
        have HWY : Hid (wayR (W ++ [y]) = (W.length + 1, 2 * x + k)) := by show _ = _; rw [HSN y, hy]
        have HY : Hid (y.toNat = k) := hy
        generalize hvn : (if y then v1 else v0) = vn at *
        have HVN : Hid ((if y then v1 else v0) = vn) := hvn
        generalize Wv.am (Wv.rkb (Wv.bitAt Z) y) rs = rm at *
        clear hix HAM q1 q2 HSN hvn hy HL HR HU HFD HBP
        go_wp2_with fail
        refine (HAM'.out wr hK1.out).mono ?_
        rintro e w2 ⟨v', rfl, hown, hB2⟩
        obtain ⟨hR2, _⟩ := RgAt.own hown
        have hz2 := hB2.size
        have hbx2 : w2.heap[w.heap.size]? = some (.cells #[.int .i64 (W.length : Nat), .int .u64 (x : Nat)] 114 (0, 0)) := by rw [hB2.block _ hsz]; exact hbx
        have b1 := cell_of hbx2 (i := 0) rfl
        have b2 := cell_of hbx2 (i := 1) rfl
        have hvlt : ∀ g, v'.ownBlock = some g → fb < g := fun g e => by have h1 := (hown.lt g e).1; have h2 := hK1.out.size; omega
        have hvfb : v'.ownBlock ≠ some fb := fun e => by have := hvlt fb e; omega
        have HVLT : Hid _ := hvlt
        clear hvlt
        obtain ⟨va, vc, hve⟩ := hR2.len
        have HF2 : Hid (FoundAt w2 fb vf1 rf1) := hF1.out.below hB2
        have HK2 : Hid (Kept (fun k => k = fb) w w2) := hK1.out.trans' (Kept.of_below hB2 (Nat.le_refl _) (fun _ => False)) (fun _ _ h => h.elim)
        have HR2 : Hid (RgAt w2 v' rm) := hR2
        clear HAM' hown hB2 hF1 hK1 hbx hR2
        go_wp2_with fail
        refine (with_any W.length x k w2 (by omega) hnum hk1).mono ?_
        rintro e w3 ⟨rfl, hB3⟩
        have hz3 := hB3.size
        unfold runV
        have hal4 : Below w2.heap.size w2 (w3.alloc (.cells #[.int .i64 ((W.length : Int) + 1), .int .u64 (2 * (x : Int) + (k : Int))] 114)) := hB3.alloc hz3 _
        have hnb : (w3.alloc (.cells #[.int .i64 ((W.length : Int) + 1), .int .u64 (2 * (x : Int) + (k : Int))] 114)).heap[w3.heap.size]? = some (.cells #[.int .i64 ((W.length : Int) + 1), .int .u64 (2 * (x : Int) + (k : Int))] 114 (0, 0)) := heap_alloc_new _ _
        subst hve
        clear b1 b2
        go_wp2_with fail
        generalize w3.alloc (.cells #[.int .i64 ((W.length : Int) + 1), .int .u64 (2 * (x : Int) + (k : Int))] 114) = w4 at *
        have HF4 : Hid (FoundAt w4 fb vf1 rf1) := HF2.out.below hal4
        have HK4 : Hid (Kept (fun k => k = fb) w w4) := HK2.out.trans' (Kept.of_below hal4 (Nat.le_refl _) (fun _ => False)) (fun _ _ h => h.elim)
        have HR4 : Hid (RgAt w4 (.slice va rm.length vc) rm) := HR2.out.below hal4
        have hbx4 : w4.heap[w.heap.size]? = some (.cells #[.int .i64 (W.length : Nat), .int .u64 (x : Nat)] 114 (0, 0)) := by rw [hal4.block _ (by omega)]; exact hbx2
        have c1 := cell_of hnb (i := 0) rfl
        have c2 := cell_of hnb (i := 1) rfl
        have hm4 := cell_keep HK4.out hm HSA.out.ne1
        have hz4 := hal4.size
        have BYT : ∀ q : Nat, Byt (w4.drewN q) r G 256 := fun q => HSA.out.byt.keep (w' := w4.drewN q) ⟨HK4.out.os, HK4.out.tape, HK4.out.output, HK4.out.size, HK4.out.block⟩ HSA.out.ne2
        have hff := unfrozen HF4.out.1
        clear HF2 HK2 HR2 hbx2 hal4 hB3 hnb
        by_cases hhit : ∃ c0, c0 < 256 ∧ 0 < (G c0).1 ∧ G c0 = (W.length + 1, 2 * x + k)
        · obtain ⟨c0, hc0, hp0, hg0⟩ := hhit
          have hlk : ∀ q : Nat, (Instr.lookup 116 (.map (some r)) (.agg #[.int .i64 ((W.length : Int) + 1), .int .u64 (2 * (x : Int) + (k : Int))]) true).run Tryz.prog (w4.drewN q) = .ok (.tuple #[.int .u8 (c0 : Nat), .bool true]) (w4.drewN q) := fun q => by
            have := (BYT q).hit HSA.out.cod.sized HSA.out.cod.inj hc0 hp0 true
            rw [hg0] at this
            exact this
          have hcf := HF4.out.1
          have hcc := cell_of hcf (rowV_get vf1 hc0)
          have hfc := hff c0
          have hc0i : (c0 : Int) < 256 := by omega
          have HBL : Hid (bl (G c0) = W ++ [y]) := by
            show _ = _
            have := HWY.out
            rw [← hg0] at this
            have hw := HSA.out.cod.way c0
            have e1 : (wayR (W ++ [y])) = wayR (bl (G c0)) := by rw [this, hw]
            have e2 : (W ++ [y]).length = (bl (G c0)).length := congrArg Prod.fst e1
            have e3 : numv 0 (W ++ [y]) = numv 0 (bl (G c0)) := congrArg Prod.snd e1
            have e4 := bl_app (W ++ [y]) 0 0
            have e5 := bl_app (bl (G c0)) 0 0
            rw [e2, e3, e5] at e4
            simpa using e4
          clear BYT hff hcf
          have HALL : Hid (∀ z ∈ Wv.child y Z, z = []) := fun z hz => by
            obtain ⟨c, hc, hp, he⟩ := HSA.out.ways _ (Wv.child_mem.1 hz)
            have : c0 = c := HSA.out.cod.free c0 c hc0 hc hp0 hp (by rw [HBL.out, he]; exact ⟨z, by simp⟩)
            subst this
            rw [HBL.out] at he
            exact (way_cancel he).2.symm
          have HFL : Hid (Wv.flat rm = Wv.sel [y] Z (Wv.flat rs)) := by
            show _ = _
            rw [← HSEL.out [], Wv.sel_end HALL.out HFU.out.upto.lt]
          go_quiet (fail)
          go_wp2
          have kd : Kept (fun _ => False) w4 (w4.drewN nq) := ⟨rfl, rfl, rfl, Nat.le_refl _, fun _ _ _ => rfl⟩
          refine ⟨⟨k + 1, putV vf1 c0 (.slice va rm.length vc), _, by omega, by go_num, (HF4.out.keep kd (fun _ h => h)).put (HR4.out.keep kd (fun _ _ h => h)) HVLT.out, (HK4.out.trans' kd (fun _ _ h => h.elim)).setCell (by rfl) _,
            hT1.out.hit HY.out HSA.out.cod hc0 hp0 HBL.out HFU.out.pos HFL.out, ?_, by simp; omega⟩, by simp [intOf]; omega⟩
          rw [Below.heap_setCell _ _ _ _ (by simp; omega)]
          exact hbx4
        · have HNO : Hid (∀ c, c < 256 → 0 < (G c).1 → bl (G c) ≠ W ++ [y]) := fun c hc hp he => hhit ⟨c, hc, hp, by rw [← HSA.out.cod.way c, he]; exact HWY.out⟩
          have hx64 : 2 * x + k < 18446744073709551616 := by
            have h1 : 2 ^ W.length ≤ 2 ^ 63 := Nat.pow_le_pow_right (by omega) (by omega)
            omega
          have hlk : ∀ q : Nat, (Instr.lookup 116 (.map (some r)) (.agg #[.int .i64 ((W.length : Int) + 1), .int .u64 (2 * (x : Int) + (k : Int))]) true).run Tryz.prog (w4.drewN q) = .ok (.tuple #[.int .u8 0, .bool false]) (w4.drewN q) := fun q => by
            have := (BYT q).miss HSA.out.cod.sized (n := W.length + 1) (b := 2 * x + k) (by omega) hx64 (fun c hc hp he => hhit ⟨c, hc, hp, he⟩) true
            exact this
          clear BYT hff hhit
          go_quiet (fail)
          have kd : Kept (fun _ => False) w4 (w4.drewN nq) := ⟨rfl, rfl, rfl, Nat.le_refl _, fun _ _ _ => rfl⟩
          have HK5 : Hid (Kept (fun k => k = fb) w (w4.drewN nq)) := HK4.out.trans' kd (fun _ _ h => h.elim)
          have hsub := HSub.out y (w4.drewN nq) HK5.out HNO.out
          rw [HVN.out] at hsub
          have hcall := HIH.out (w4.drewN nq) vn (W ++ [y]) (Wv.child y Z) _ (.slice va rm.length vc) rm vf1 rf1 hsub (HR4.out.keep kd (fun _ _ h => h)) hvfb HFU.out.upto (by omega) (HF4.out.keep kd (fun _ h => h)) (fun c hc hp z hz he => by
            have he' : bl (G c) = W ++ y :: z := by rw [he]; simp
            rw [hT1.out.2 c hc (fun b u hb _ hu => by
              rw [he'] at hu
              have := (way_cancel hu).1
              subst this
              have := HY.out
              omega)]
            exact H0.out c hc hp (y :: z) (by simp) he')
          rw [HWY.out] at hcall
          unfold runV at hcall
          have HC : Hid (Calls Tryz.prog 168 #[.pointer (some ⟨tb, o, none⟩), vn, .agg #[.int .i64 ((W.length : Int) + 1), .int .u64 (2 * (x : Int) + (k : Int))], .pointer (some ⟨fb, 0, none⟩), .slice va rm.length vc] (w4.drewN nq) (SplitPost (w4.drewN nq) fb G (W ++ [y]) (Wv.child y Z) (Wv.flat rm) rf1)) := hcall
          have hd4 : (w4.drewN nq).heap.size = w4.heap.size := rfl
          have hbx5 : (w4.drewN nq).heap[w.heap.size]? = some (.cells #[.int .i64 (W.length : Nat), .int .u64 (x : Nat)] 114 (0, 0)) := hbx4
          clear hcall hsub kd hlk hbx4
          go_wp2_with fail
          refine HC.out.mono ?_
          rintro e w5 ⟨rfl, vf2, rf2, hF5, hK5, hT5⟩
          have hfin : w5.heap[w.heap.size]? = some (.cells #[.int .i64 (W.length : Nat), .int .u64 (x : Nat)] 114 (0, 0)) := by
            rw [hK5.block _ (by rw [hd4]; omega) (by omega)]; exact hbx5
          have hz5 := hK5.size
          have HF5 : Hid (FoundAt w5 fb vf2 rf2) := hF5
          have HK6 : Hid (Kept (fun k => k = fb) w w5) := HK5.out.trans hK5
          have HT6 : Hid (ToldTo (k + 1) G W Z (Wv.flat rs) rf rf2) := hT1.out.more HY.out HNO.out hT5 HSEL.out
          clear hF5 hK5 hT5 HC hbx5
          go_wp2
          exact ⟨⟨k + 1, vf2, rf2, by omega, by go_num, HF5, HK6, HT6, hfin, by omega⟩, by simp [intOf]; omega⟩
      · have hk2 : k = 2 := by omega
        subst hk2
        have hA := hT1.out.all
        have HA : Hid _ := hA
        clear hA hT1 hix
        have c2 : ((2 : Nat) : Int) = 2 := rfl
        rw [c2]
        go_wp2
        go_end0
        exact ⟨rfl, vf1, rf1, hF1.out, hK1.out, HA.out⟩
end Go.Proofs.YtopihgmemnokkaaGreat
namespace Go.Proofs.YtopihgmemnokkaaGreat
open Go.RowKit
theorem zeroV256 : (Tryz.prog.info? 216).map (·.zero) = some (some (.agg (rowV fun _ => .slice none 0 0))) := by kernel_rfl
theorem sizeV256 : (Tryz.prog.info? 216).map (·.size) = some 256 := by kernel_rfl
theorem rowV_one {f : Nat → Value} (h : ∀ c, c < 256 → (f c).oneCell' = true) : (rowV f).all (·.oneCell') = true := by
  rw [Array.all_eq_true_iff_forall_mem]
  intro x hx
  unfold rowV at hx
  simp at hx
  obtain ⟨a, ha, rfl⟩ := hx
  exact h a ha
theorem RgAt.one {w : World} {v : Value} {rs : List (Nat × Nat)} (h : RgAt w v rs) : v.oneCell' = true := by
  obtain ⟨a, c, rfl⟩ := h.len
  rfl
set_option maxRecDepth 100000 in
set_option maxHeartbeats 2000000 in
theorem Split_any (base : Nat) (w : World) (tb o : Nat) (G : Nat → Nat × Nat) (X : List (List Bool)) (r : Nat) (root : Value) (F : Nat → Prop) (h : Tre base w tb o G X r root F) (v : Value) (rs : List (Nat × Nat)) (hr : RgAt w v rs) (hu : Wv.Upto X.length rs) (hl : rs.length ≤ 1000000) :
    Calls Tryz.prog 145 #[.pointer (some ⟨tb, o, none⟩), v] w fun e w' => (∃ (vf : Nat → Value) (rf : Nat → List (Nat × Nat)), e = .returned (.agg (rowV vf)) ∧ ∀ c, c < 256 → RgAt w' (vf c) (rf c) ∧ Wv.Pos (rf c) ∧ Wv.flat (rf c) = (if 0 < (G c).1 then Wv.sel (bl (G c)) X (Wv.flat rs) else [])) ∧ Below w.heap.size w w' := by
  have m1 := h.rootc
  have htb : tb < w.heap.size := World.block_lt_of_cell? _ _ m1
  have hlt := h.tree.lt
  obtain ⟨a, cp, rfl⟩ := hr.len
  have hb2 : Below w.heap.size w ((w.alloc (.cells (rowV fun _ => .slice none 0 0) 216)).alloc (.cells (rowV fun _ => .slice none 0 0) 216)) := ((Below.refl _ _).alloc (Nat.le_refl _) _).alloc (by simp) _
  have hf1 : ((w.alloc (.cells (rowV fun _ => .slice none 0 0) 216)).alloc (.cells (rowV fun _ => .slice none 0 0) 216)).heap[w.heap.size + 1]? = some (.cells (rowV fun _ => .slice none 0 0) 216 (0, 0)) := heap_alloc_new' _ _ (by simp)
  have hf0 : ((w.alloc (.cells (rowV fun _ => .slice none 0 0) 216)).alloc (.cells (rowV fun _ => .slice none 0 0) 216)).heap[w.heap.size]? = some (.cells (rowV fun _ => .slice none 0 0) 216 (0, 0)) := by
    rw [Below.heap_alloc _ _ _ (by simp)]; exact heap_alloc_new _ _
  have hz2 : ((w.alloc (.cells (rowV fun _ => .slice none 0 0) 216)).alloc (.cells (rowV fun _ => .slice none 0 0) 216)).heap.size = w.heap.size + 2 := by simp
  have hrn : (Value.slice a rs.length cp).ownBlock ≠ some (w.heap.size + 1) := fun e => by
    rcases hr with ⟨h1, _⟩ | ⟨g, cap, h1, h2, _⟩
    · rw [h1] at e; cases e
    · rw [h1] at e
      have : g = w.heap.size + 1 := by simpa [Value.ownBlock] using e
      omega
  have m2 := cell_keep (Kept.of_below hb2 (Nat.le_refl _) (fun _ => False)) m1 (fun h => h)
  have hr2 := hr.below hb2
  have h2 := h.below hb2
  have hbl : ∀ c, 0 < (G c).1 → bl (G c) ≠ [] := fun c hp e => by
    have := congrArg List.length e
    rw [bl_len] at this
    simp at this
    omega
  have HBLN : Hid _ := hbl
  generalize hw2 : ((w.alloc (.cells (rowV fun _ => .slice none 0 0) 216)).alloc (.cells (rowV fun _ => .slice none 0 0) 216)) = w2 at *
  have HSA : SplitAt base 64 w2 tb o (w.heap.size + 1) r G root [] X F :=
    ⟨h2.map, by omega, by have := h.byt.lt; omega, fun e => by have := (hlt _ e).2; omega, h2.byt, h.cod, h2.tree, fun x hx => by
      obtain ⟨c, hc, hp, he⟩ := h.ways x hx
      exact ⟨c, hc, hp, by rw [he]; rfl⟩, rfl, h.most, fun hx => by
      obtain ⟨c, hc, hp, he⟩ := h.ways _ hx
      exact hbl c hp he.symm⟩
  have HFD : FoundAt w2 (w.heap.size + 1) (fun _ => .slice none 0 0) (fun _ => []) := ⟨hf1, fun c _ => ⟨.inl ⟨rfl, rfl⟩, fun g hg => by cases hg⟩⟩
  have hcall := split_any base tb o (w.heap.size + 1) r G 64 w2 root [] X F (.slice a rs.length cp) rs _ _ HSA hr2 hrn hu hl HFD (fun _ _ _ _ _ _ => rfl)
  have HC : Hid (Calls Tryz.prog 168 #[.pointer (some ⟨tb, o, none⟩), root, .agg #[.int .i64 0, .int .u64 0], .pointer (some ⟨w.heap.size + 1, 0, none⟩), .slice a rs.length cp] w2 (SplitPost w2 (w.heap.size + 1) G [] X (Wv.flat rs) (fun _ => []))) := hcall
  have HB2 : Hid (Below w.heap.size w w2) := hb2
  have HF0 : Hid (w2.heap[w.heap.size]? = some (.cells (rowV fun _ => .slice none 0 0) 216 (0, 0))) := hf0
  have HW2 : Hid (((w.alloc (.cells (rowV fun _ => .slice none 0 0) 216)).alloc (.cells (rowV fun _ => .slice none 0 0) 216)) = w2) := hw2
  clear hcall HFD HSA h2 hr2 m2 hf1 hf0 hb2 hw2 hlt hbl hrn h
  go_enter Tryz.func145, Tryz.ntmps145
  go_wp2_with (first
    | (refine wpList_alloc_row rfl 216 rfl _ zeroV256 ?_)
    | fail)
  rw [HW2.out]
  refine HC.out.mono ?_
  rintro e w3 ⟨rfl, vf, rf, hF, hK, hT⟩
  have hz3 := hK.size
  have h03 : w3.heap[w.heap.size]? = some (.cells (rowV fun _ => .slice none 0 0) 216 (0, 0)) := by rw [hK.block _ (by omega) (by omega)]; exact HF0.out
  have hF1 := hF.1
  have hone := rowV_one (f := vf) (fun c hc => (hF.2 c hc).1.one)
  go_wp2_with (first
    | (refine wpList_load_row rfl 216 _ rfl (w.heap.size + 1) rfl 216 (rowV vf) (0, 0) _ (by exact hF1) Tryz.underlying216 rfl (by rw [size_rowV]; exact sizeV256) ?_)
    | (refine wpList_store_row rfl 216 _ _ rfl w.heap.size (rowV vf) rfl rfl 216 (rowV fun _ => .slice none 0 0) (by exact h03) (by rw [size_rowV]; exact sizeV256) (by rw [size_rowV, size_rowV]) hone ?_))
  refine bodyPost_ret (results_cell_row Tryz.results145 _ _ w.heap.size 216 (rowV vf) (0, 0) _ rfl (setRow_heap _ _ _ _ _ _ h03) Tryz.underlying216 rfl (by rw [size_rowV]; exact sizeV256)) rfl ?_
  refine ⟨⟨vf, rf, rfl, fun c hc => ?_⟩, ?_⟩
  · have hks : Kept (fun k => k = w.heap.size) w3 (w3.setRow w.heap.size (rowV vf)) := ⟨rfl, rfl, rfl, by simp, fun k _ hn => Go.setRow_other w3 w.heap.size k _ hn⟩
    refine ⟨(hF.2 c hc).1.keep hks (fun g hg e => by have := (hF.2 c hc).2 g hg; omega), ?_⟩
    by_cases hp : 0 < (G c).1
    · rw [if_pos hp]
      exact hT.1 c hc hp (bl (G c)) (HBLN.out c hp) rfl
    · rw [if_neg hp, hT.2 c hc (fun y _ h _ => hp h)]
      exact ⟨fun r hr => by simp at hr, rfl⟩
  · exact below_setRow (hK.bel HB2.out (Nat.le_refl _) (fun k hk => by omega)) (Nat.le_refl _) _
end Go.Proofs.YtopihgmemnokkaaGreat
namespace Go.Proofs.YtopihgmemnokkaaGreat
open Go.RowKit
structure Rws (base : Nat) (w : World) (rb o : Nat) (G : Nat → Nat × Nat) (r : Nat) (root : Value) (F : Nat → Prop) (n : Nat) (b : Nat → Nat) (fw : Nat) : Prop where
  tre : Tre base w rb o G (Wv.waysOf (fun c => bl (G c)) b n) r root F
  starts : ∀ c, c < 256 → w.cell? ⟨rb, o + 515 + c, none⟩ = some (.int .i64 (Wv.st n b c : Nat))
  whole : w.cell? ⟨rb, o + 771, none⟩ = some (.int .i64 (fw : Nat))
  byte : ∀ i, i < n → b i < 256
  live : ∀ i, i < n → 0 < (G (b i)).1
  fwle : fw ≤ n
  nle : n ≤ 1000
section
variable {base : Nat} {w : World} {rb o : Nat} {G : Nat → Nat × Nat} {r : Nat} {root : Value} {F : Nat → Prop} {n : Nat} {b : Nat → Nat} {fw : Nat}
theorem Rws.below {w' : World} (h : Rws base w rb o G r root F n b fw) (hb : Below w.heap.size w w') : Rws base w' rb o G r root F n b fw := by
  have hk := Kept.of_below hb (Nat.le_refl _) (fun _ => False)
  exact ⟨h.tre.below hb, fun c hc => cell_keep hk (h.starts c hc) (fun h => h), cell_keep hk h.whole (fun h => h), h.byte, h.live, h.fwle, h.nle⟩
theorem Rws.lt (h : Rws base w rb o G r root F n b fw) : rb < w.heap.size := World.block_lt_of_cell? _ _ h.whole
theorem Rws.inj (h : Rws base w rb o G r root F n b fw) {c : Nat} (hc : c < 256) : ∀ j, j < n → bl (G (b j)) = bl (G c) → b j = c := fun j hj he => by
  have hp := h.live j hj
  have hl : (G (b j)).1 = (G c).1 := by have := congrArg List.length he; rwa [bl_len, bl_len] at this
  exact h.tre.cod.free (b j) c (h.byte j hj) hc hp (by omega) (by rw [he]; exact List.prefix_rfl)
theorem Rws.dead (h : Rws base w rb o G r root F n b fw) {c : Nat} (h0 : ¬ 0 < (G c).1) : ∀ j, j < n → b j ≠ c := fun j hj e => h0 (e ▸ h.live j hj)
theorem Rws.sel (h : Rws base w rb o G r root F n b fw) {c : Nat} (hc : c < 256) {L : List Nat} (hL : ∀ i ∈ L, i < n) :
    (if 0 < (G c).1 then Wv.sel (bl (G c)) (Wv.waysOf (fun c => bl (G c)) b n) L else []) = (L.filter fun i => decide (b i = c)).map fun i => Cc.cn i fun j => decide (b j = c) := by
  by_cases hp : 0 < (G c).1
  · rw [if_pos hp]
    exact Wv.sel_ways (k := fun c => bl (G c)) (h.inj hc) hL
  · rw [if_neg hp]
    have : (L.filter fun i => decide (b i = c)) = [] := by
      rw [List.filter_eq_nil_iff]
      intro i hi
      simpa using h.dead hp i (hL i hi)
    rw [this]; rfl
set_option maxHeartbeats 1000000 in
theorem place_any (h : Rws base w rb o G r root F n b fw) (row : Nat) (hr : row ≤ 1000000) :
    Calls Tryz.prog 111 #[.pointer (some ⟨rb, o, none⟩), .int .i64 (row : Nat)] w fun e w' => e = .returned (.int .i64 (Cc.ks fw row : Nat)) ∧ w' = w := by
  have c1 := h.whole
  by_cases hlt : fw < row
  · have hd : (fw : Int) < (row : Int) := by omega
    go_enter Tryz.func111, Tryz.ntmps111
    go_wp2
    go_ret
    exact ⟨ret_int (by unfold Cc.ks; rw [if_pos hlt]; omega), rfl⟩
  · have hd : ¬ (fw : Int) < (row : Int) := by omega
    go_enter Tryz.func111, Tryz.ntmps111
    go_wp2
    go_ret
    exact ⟨ret_int (by unfold Cc.ks; rw [if_neg hlt]), rfl⟩
set_option maxHeartbeats 1000000 in
theorem rlen_any (h : Rws base w rb o G r root F n b fw) :
    Calls Tryz.prog 70 #[.pointer (some ⟨rb, o, none⟩)] w fun e w' => e = .returned (.int .i64 (n : Nat)) ∧ w' = w := by
  have c1 := h.tre.size
  rw [Wv.waysOf_len] at c1
  go_enter Tryz.func70, Tryz.ntmps70
  go_wp2
  go_ret
  exact ⟨rfl, rfl⟩
theorem rangeSize : (Tryz.prog.info? 167).map (·.size) = some 2 := by kernel_rfl
set_option maxHeartbeats 1000000 in
theorem all_any (h : Rws base w rb o G r root F n b fw) :
    Calls Tryz.prog 142 #[.pointer (some ⟨rb, o, none⟩)] w fun e w' => e = .returned (.agg #[.int .i64 0, .int .i64 ((n : Int) + 1)]) ∧ Below w.heap.size w w' := by
  have hn := h.nle
  have hb1 : Below w.heap.size w (w.alloc (.cells #[.int .i64 0, .int .i64 0] 167)) := (Below.refl _ _).alloc (Nat.le_refl _) _
  have hc := rlen_any (h.below hb1)
  have hB : Below w.heap.size w (w.alloc (.cells #[.int .i64 0, .int .i64 ((n : Int) + 1)] 167)) := (Below.refl _ _).alloc (Nat.le_refl _) _
  have hnew : (w.alloc (.cells #[.int .i64 0, .int .i64 ((n : Int) + 1)] 167)).heap[w.heap.size]? = some (.cells #[.int .i64 0, .int .i64 ((n : Int) + 1)] 167 (0, 0)) := heap_alloc_new _ _
  clear hb1
  go_enter Tryz.func142, Tryz.ntmps142
  go_wp2_with fail
  refine hc.mono ?_
  rintro e w' ⟨rfl, rfl⟩
  go_wp2
  refine bodyPost_ret (results_cell_row Tryz.results142 _ _ w.heap.size 167 _ (0, 0) _ rfl hnew Tryz.underlying167 rfl rangeSize) rfl ⟨rfl, hB⟩
end
end Go.Proofs.YtopihgmemnokkaaGreat
namespace Go.Proofs.YtopihgmemnokkaaGreat
open Go.RowKit
section
variable {base : Nat} {w : World} {rb o : Nat} {G : Nat → Nat × Nat} {r : Nat} {root : Value} {F : Nat → Prop} {n : Nat} {b : Nat → Nat} {fw : Nat}
set_option maxRecDepth 100000 in
set_option maxHeartbeats 1000000 in
theorem ahead_any (h : Rws base w rb o G r root F n b fw) (row : Nat) (hr : row ≤ n) (hne : row ≠ fw) :
    Calls Tryz.prog 72 #[.pointer (some ⟨rb, o, none⟩), .int .i64 (row : Nat)] w fun e w' => e = .returned (.tuple #[.int .u8 (b (Cc.ks fw row) : Nat), .int .i64 (Cc.lead n b (Cc.ks fw row) : Nat)]) ∧ Below w.heap.size w w' := by
  have hk : Cc.ks fw row < n := Cc.ks_lt hr hne h.fwle
  have hc := h.byte _ hk
  have hp := h.live _ hk
  have hn := h.nle
  have hX := Wv.waysOf_get (fun c => bl (G c)) b hk
  have hcnt : ((Wv.waysOf (fun c => bl (G c)) b n).take (Cc.ks fw row)).count (bl (G (b (Cc.ks fw row)))) = Cc.cn (Cc.ks fw row) fun j => decide (b j = b (Cc.ks fw row)) := by
    rw [Wv.waysOf_take _ _ (Nat.le_of_lt hk)]
    exact Wv.ways_count (k := fun c => bl (G c)) fun j hj => h.inj hc j (by omega)
  have hat := fun W (hW : Below w.heap.size w W) => at_any base W rb o G _ r root F (h.tre.below hW) (Cc.ks fw row) _ hc hp hX
  rw [hcnt] at hat
  have hpl := fun W (hW : Below w.heap.size w W) => place_any (h.below hW) row (by omega)
  have hst := h.starts _ hc
  have hs1 := Wv.st_cnt (n := n) (b := b) (b (Cc.ks fw row))
  have hs2 : (Cc.cn (Cc.ks fw row) fun j => decide (b j = b (Cc.ks fw row))) ≤ Cc.ks fw row := Cc.cn_le _ _
  have hs3 := Cc.cn_le n fun j => decide (b j = b (Cc.ks fw row))
  have hlead : Cc.lead n b (Cc.ks fw row) = Wv.st n b (b (Cc.ks fw row)) + Cc.cn (Cc.ks fw row) fun j => decide (b j = b (Cc.ks fw row)) := rfl
  rw [hlead]
  have HAT : Hid (∀ W, Below w.heap.size w W → Calls Tryz.prog 110 #[.pointer (some ⟨rb, o, none⟩), .int .i64 (Cc.ks fw row : Nat)] W fun e w' => e = .returned (.tuple #[.int .u8 (b (Cc.ks fw row) : Nat), .int .i64 ((Cc.cn (Cc.ks fw row) fun j => decide (b j = b (Cc.ks fw row)) : Nat) : Int)]) ∧ Below w.heap.size w w' ∧ True) := fun W hW =>
    (hat W hW).mono fun e w' ⟨he, hb⟩ => ⟨he, hW.trans (hb.mono hW.size), trivial⟩
  have HPL : Hid (∀ W, Below w.heap.size w W → Calls Tryz.prog 111 #[.pointer (some ⟨rb, o, none⟩), .int .i64 (row : Nat)] W fun e w' => e = .returned (.int .i64 (Cc.ks fw row : Nat)) ∧ Below w.heap.size w w' ∧ True) := fun W hW =>
    (hpl W hW).mono fun e w' ⟨he, hb⟩ => ⟨he, hb ▸ hW, trivial⟩
  have hrb := h.lt
  generalize (Cc.cn (Cc.ks fw row) fun j => decide (b j = b (Cc.ks fw row))) = q at *
  generalize Wv.st n b (b (Cc.ks fw row)) = s at *
  generalize b (Cc.ks fw row) = c at *
  have hci : (c : Int) < 256 := by omega
  clear hlead hX hp hcnt hat hpl
  generalize Cc.ks fw row = k at *
  go_enter Tryz.func72, Tryz.ntmps72
  have s0 : True := trivial
  have bd0 : Below w.heap.size w w.drew := bdrew (Below.refl _ _)
  go_wp2_with fail
  go_region_held3 (fun _ => True) (assumption) ((first
    | (go_at_call 111; refine (HPL.out _ (by assumption)).mono ?_; rintro e w2 ⟨rfl, hb2, hS2⟩)
    | (go_at_call 110; refine (HAT.out _ (by assumption)).mono ?_; rintro e w3 ⟨rfl, hb3, hS3⟩)))
  have hst3 := cell_keep (Kept.of_below hb3 (Nat.le_refl _) (fun _ => False)) hst (fun h => h)
  clear HPL HAT hst hb2 s0 bd0
  go_wp2_with fail
  go_quiet (fail)
  go_wp2
  go_ret2
  exact ⟨rfl, below_drewN hb3 nq⟩
end
end Go.Proofs.YtopihgmemnokkaaGreat
namespace Go.Proofs.YtopihgmemnokkaaGreat
open Go.RowKit
theorem RgAt.at {w : World} {a : Option Addr} {cp : Nat} {rs : List (Nat × Nat)} (h : RgAt w (.slice a rs.length cp) rs) {k f t : Nat} (hx : rs[k]? = some (f, t)) : ∃ g, a = some ⟨g, 0, none⟩ ∧ g < w.heap.size ∧ w.cell? ⟨g, k * 2, none⟩ = some (.int .i64 (f : Nat)) ∧ w.cell? ⟨g, k * 2 + 1, none⟩ = some (.int .i64 (t : Nat)) := by
  rcases h with ⟨_, h0⟩ | ⟨g, cap, he, h2, h3⟩
  · subst h0; simp at hx
  · injection he with e1 e2 e3
    exact ⟨g, e1, h2, h3 k _ hx⟩
theorem wrap_small {x : Int} (h1 : 0 ≤ x) (h2 : x ≤ 9223372036854775807) : IntKind.i64.wrap x = x := by
  rw [IntKind.wrap_i64]; omega
theorem take_map_succ {α β : Type} (f : α → β) {l : List α} {k : Nat} {x : α} (h : l[k]? = some x) : (l.take (k + 1)).map f = (l.take k).map f ++ [f x] := by
  have hk := (List.getElem?_eq_some_iff.1 h).1
  have hx := (List.getElem?_eq_some_iff.1 h).2
  rw [List.take_succ_eq_append_getElem hk, hx]; simp
section
variable {base : Nat} {w : World} {rb o : Nat} {G : Nat → Nat × Nat} {r : Nat} {root : Value} {F : Nat → Prop} {n : Nat} {b : Nat → Nat} {fw : Nat}
set_option maxRecDepth 100000 in
set_option maxHeartbeats 2000000 in
theorem places_any (h : Rws base w rb o G r root F n b fw) (v : Value) (rs : List (Nat × Nat)) (hr : RgAt w v rs) (hu : Wv.Upto (n + 1) rs) (hl : rs.length ≤ 1000000) :
    Calls Tryz.prog 146 #[.pointer (some ⟨rb, o, none⟩), v] w fun e w' => ∃ v', e = .returned v' ∧ w'.ownsRow w.heap.size 167 2 v' rs.length (rgL (rs.map fun r => (Cc.ks fw r.1, Cc.ks fw r.2))) ∧ Below w.heap.size w w' := by
  obtain ⟨i0, hi, hz0, hz1, hz2⟩ := info_parts Tryz.info167
  obtain ⟨a, cp, rfl⟩ := hr.len
  have HR : Hid (RgAt w (.slice a rs.length cp) rs) := hr
  have HU : Hid (Wv.Upto (n + 1) rs) := hu
  have HH : Hid (Rws base w rb o G r root F n b fw) := h
  have hn := h.nle
  clear hr hu h
  go_enter Tryz.func146, Tryz.ntmps146
  go_wp2
  go_loopw [5, 7, 10] (fun fv _ i wr => ∃ k : Nat, k ≤ rs.length ∧ i = .int .i64 k ∧ wr.ownsRow w.heap.size 167 2 fv k (rgL ((rs.take k).map fun r => (Cc.ks fw r.1, Cc.ks fw r.2))) ∧ Below w.heap.size w wr) (fun _ _ i _ => rs.length - (intOf i).toNat)
  case atStart => exact ⟨0, by omega, rfl, World.ownsRow_nil _ _ _ _, Below.refl _ _⟩
  case round =>
    obtain ⟨k, hk, rfl, hown, hBl⟩ := hrel
    rename World => wo
    by_cases hlt : k < rs.length
    · obtain ⟨⟨f, t⟩, hx⟩ : ∃ x, rs[k]? = some x := ⟨_, List.getElem?_eq_getElem hlt⟩
      obtain ⟨g, hag, hgl, c1, c2⟩ := (HR.out.below hBl).at hx
      subst hag
      have hft := HU.out _ (List.mem_of_getElem? hx)
      simp only at hft
      have HST : Hid ((rs.take (k + 1)).map (fun r => (Cc.ks fw r.1, Cc.ks fw r.2)) = (rs.take k).map (fun r => (Cc.ks fw r.1, Cc.ks fw r.2)) ++ [(Cc.ks fw f, Cc.ks fw t)]) := take_map_succ _ hx
      generalize (rs.take k).map (fun r => (Cc.ks fw r.1, Cc.ks fw r.2)) = acc at *
      obtain ⟨a5, p5, rfl⟩ := own_slice2 hown
      have HB : Hid (Below w.heap.size w wo) := hBl
      have hbz := hBl.size
      have hLB : ∀ W, Below wo.heap.size wo W → Rws base W rb o G r root F n b fw := fun W hW => HH.out.below (hBl.trans (hW.mono hBl.size))
      clear hx hBl
      go_wp2_with fail
      have hnb : (wo.alloc (.cells #[.int .i64 (f : Nat), .int .i64 (t : Nat)] 167)).heap[wo.heap.size]? = some (.cells #[.int .i64 (f : Nat), .int .i64 (t : Nat)] 167 (0, 0)) := heap_alloc_new _ _
      have d1 := cell_of hnb (i := 0) rfl
      have d2 := cell_of hnb (i := 1) rfl
      have s0 : (wo.alloc (.cells #[.int .i64 (f : Nat), .int .i64 (t : Nat)] 167)).drew.cell? ⟨wo.heap.size, 0, none⟩ = some (.int .i64 (f : Nat)) ∧ (wo.alloc (.cells #[.int .i64 (f : Nat), .int .i64 (t : Nat)] 167)).drew.cell? ⟨wo.heap.size, 1, none⟩ = some (.int .i64 (t : Nat)) := ⟨d1, d2⟩
      have bd0 : Below (wo.heap.size + 1) (wo.alloc (.cells #[.int .i64 (f : Nat), .int .i64 (t : Nat)] 167)) (wo.alloc (.cells #[.int .i64 (f : Nat), .int .i64 (t : Nat)] 167)).drew := bdrew (Below.refl _ _)
      have hza : (wo.alloc (.cells #[.int .i64 (f : Nat), .int .i64 (t : Nat)] 167)).heap.size = wo.heap.size + 1 := by simp
      have hba : Below wo.heap.size wo (wo.alloc (.cells #[.int .i64 (f : Nat), .int .i64 (t : Nat)] 167)) := (Below.refl _ _).alloc (Nat.le_refl _) _
      have hown2 := hown.alloc (o := .cells #[.int .i64 (f : Nat), .int .i64 (t : Nat)] 167)
      generalize wo.alloc (.cells #[.int .i64 (f : Nat), .int .i64 (t : Nat)] 167) = wa at *
      have KEEP : ∀ W, Below (wo.heap.size + 1) wa W → (W.cell? ⟨wo.heap.size, 0, none⟩ = some (.int .i64 (f : Nat)) ∧ W.cell? ⟨wo.heap.size, 1, none⟩ = some (.int .i64 (t : Nat))) := fun W hW => by
        have hk := Kept.of_below hW (by omega) (fun _ => False)
        exact ⟨cell_keep hk d1 (fun h => h), cell_keep hk d2 (fun h => h)⟩
      have LAW : ∀ i, i ≤ 1000000 → ∀ W, Below (wo.heap.size + 1) wa W → Calls Tryz.prog 111 #[.pointer (some ⟨rb, o, none⟩), .int .i64 (i : Nat)] W fun e w' => e = .returned (.int .i64 (Cc.ks fw i : Nat)) ∧ Below (wo.heap.size + 1) wa w' ∧ (w'.cell? ⟨wo.heap.size, 0, none⟩ = some (.int .i64 (f : Nat)) ∧ w'.cell? ⟨wo.heap.size, 1, none⟩ = some (.int .i64 (t : Nat))) := fun i hi W hW =>
        (place_any (hLB W (hba.trans (hW.mono (by omega)))) i hi).mono fun e w' ⟨he, hb⟩ => by
          subst hb
          exact ⟨he, hW, KEEP _ hW⟩
      have L1 : Hid _ := LAW f (by omega)
      have L2 : Hid _ := LAW t (by omega)
      have OWN : Hid (∀ (W : World) (ob : Obj), Below (wo.heap.size + 1) wa W → (W.alloc ob).ownsRow w.heap.size 167 2 (.slice a5 k p5) k (rgL acc)) := fun W ob hW => (own_keep hown2 (Kept.of_below hW (by omega) (fun _ => False)) (fun _ _ h => h)).alloc ob
      have KA : Hid (∀ (W : World) (ob : Obj), Below (wo.heap.size + 1) wa W → ((W.alloc ob).cell? ⟨wo.heap.size, 0, none⟩ = some (.int .i64 (f : Nat)) ∧ (W.alloc ob).cell? ⟨wo.heap.size, 1, none⟩ = some (.int .i64 (t : Nat)))) := fun W ob hW => KEEP _ (hW.alloc (by have := hW.size; omega) ob)
      have hlow : ∀ q, (Value.slice a5 k p5).ownBlock = some q → w.heap.size ≤ q ∧ q < wo.heap.size := hown.lt
      have KG : Hid (∀ (W W' : World) (ob : Obj), Below (wo.heap.size + 1) wa W → (W.alloc ob).grownBy W' (Value.slice a5 k p5).ownBlock → (W'.cell? ⟨wo.heap.size, 0, none⟩ = some (.int .i64 (f : Nat)) ∧ W'.cell? ⟨wo.heap.size, 1, none⟩ = some (.int .i64 (t : Nat)))) := fun W W' ob hW hg => by
        have h0 := KEEP _ (hW.alloc (by have := hW.size; omega) ob)
        have hz := hW.size
        have hne : some wo.heap.size ≠ (Value.slice a5 k p5).ownBlock := fun e => by have := (hlow _ e.symm).2; omega
        rw [hg.cell_far ⟨wo.heap.size, 0, none⟩ (by simp; omega) hne, hg.cell_far ⟨wo.heap.size, 1, none⟩ (by simp; omega) hne]
        exact h0
      have KB : Hid (∀ (W W' : World) (ob : Obj), Below (wo.heap.size + 1) wa W → (W.alloc ob).grownBy W' (Value.slice a5 k p5).ownBlock → Below w.heap.size w W') := fun W W' ob hW hg =>
        ((HB.out.trans ((hba.trans (hW.mono (by omega))).mono hbz)).alloc (by have := hW.size; omega) ob).grown hg (by simp; have := hW.size; omega) (fun q hq => (hlow q hq).1)
      have hks1 : Cc.ks fw f ≤ f := by unfold Cc.ks; split <;> omega
      have hks2 : Cc.ks fw t ≤ t := by unfold Cc.ks; split <;> omega
      generalize Cc.ks fw f = A at *
      generalize Cc.ks fw t = B at *
      clear LAW KEEP hLB d1 d2 hnb HH hown hown2 hlow
      go_region_held3 (fun w' => w'.cell? ⟨wo.heap.size, 0, none⟩ = some (.int .i64 (f : Nat)) ∧ w'.cell? ⟨wo.heap.size, 1, none⟩ = some (.int .i64 (t : Nat))) (first | assumption | exact KA.out _ _ (by assumption)) ((first
        | (go_at_call_of 111 (Value.int .i64 (f : Int)); refine (L1.out _ (by assumption)).mono ?_; rintro e w2 ⟨rfl, hb2, hS2⟩)
        | (go_at_call_of 111 (Value.int .i64 (t : Int)); refine (L2.out _ (by assumption)).mono ?_; rintro e w3 ⟨rfl, hb3, hS3⟩)
        | (refine step_append_lies _ (by rfl) _ _ 164 (by rfl) w.heap.size 167 i0 _ 2 16 Tryz.underlying164 hi hz0 hz1 hz2 rfl (by decide) _ _ _ rfl (OWN.out _ _ (by assumption)) ⟨_, 0, none⟩ 1 1 [.int .i64 (A : Nat), .int .i64 (B : Nat)] rfl rfl (World.news_of_block (heap_alloc_new _ _)) (by intro u hu; simp at hu; rcases hu with rfl | rfl <;> rfl) (by omega) (by unfold maxLen; omega) (by omega) (by simp; have := (‹Below (wo.heap.size + 1) wa w3›).size; omega) _ rfl ?_; intro g2 cap2 w5 hown5 hgrow5 hat5 hlt5; have hS5 := KG.out _ _ _ (by assumption) hgrow5)))
      have hB5 := KB.out _ _ _ hb3 hgrow5
      clear L1 L2 KA KB KG OWN hgrow5 hat5 hb2 hS2 hS3 hS5 s0 bd0
      go_wp2
      exact ⟨⟨k + 1, by omega, by go_num, by rw [HST.out, rgL_app]; exact hown5, hB5⟩, by simp [intOf]; omega⟩
    · have hk' : k = rs.length := by omega
      subst hk'
      rw [List.take_length] at hown
      go_wp2
      go_ret
      exact ⟨_, rfl, hown, hBl⟩
set_option maxRecDepth 100000 in
set_option maxHeartbeats 2000000 in
theorem beginning_any (h : Rws base w rb o G r root F n b fw) (c : Nat) (hc : c < 256) (v : Value) (rs : List (Nat × Nat)) (hr : RgAt w v rs) (hu : ∀ x ∈ rs, x.1 ≤ 1000000 ∧ x.2 ≤ 1000000) (hl : rs.length ≤ 1000000) :
    Calls Tryz.prog 147 #[.pointer (some ⟨rb, o, none⟩), .int .u8 (c : Nat), v] w fun e w' => ∃ v', e = .returned v' ∧ w'.ownsRow w.heap.size 167 2 v' rs.length (rgL (rs.map fun r => (Wv.st n b c + r.1, Wv.st n b c + r.2))) ∧ Below w.heap.size w w' := by
  obtain ⟨i0, hi, hz0, hz1, hz2⟩ := info_parts Tryz.info167
  obtain ⟨a, cp, rfl⟩ := hr.len
  have HR : Hid (RgAt w (.slice a rs.length cp) rs) := hr
  have HU : Hid (∀ x ∈ rs, x.1 ≤ 1000000 ∧ x.2 ≤ 1000000) := hu
  have hst := h.starts c hc
  have hn := h.nle
  have hrb := h.lt
  have hcn := Wv.st_cnt (n := n) (b := b) c
  have hci : (c : Int) < 256 := by omega
  have hsb : Wv.st n b c ≤ 1001 := by omega
  generalize Wv.st n b c = s at *
  clear hr hu h
  go_enter Tryz.func147, Tryz.ntmps147
  go_wp2
  go_loopw [7, 9, 12] (fun fv _ i wr => ∃ k : Nat, k ≤ rs.length ∧ i = .int .i64 k ∧ wr.ownsRow w.heap.size 167 2 fv k (rgL ((rs.take k).map fun r => (s + r.1, s + r.2))) ∧ Below w.heap.size w wr) (fun _ _ i _ => rs.length - (intOf i).toNat)
  case atStart => exact ⟨0, by omega, rfl, World.ownsRow_nil _ _ _ _, Below.refl _ _⟩
  case round =>
    obtain ⟨k, hk, rfl, hown, hBl⟩ := hrel
    rename World => wo
    by_cases hlt : k < rs.length
    · obtain ⟨⟨f, t⟩, hx⟩ : ∃ x, rs[k]? = some x := ⟨_, List.getElem?_eq_getElem hlt⟩
      obtain ⟨g, hag, hgl, c1, c2⟩ := (HR.out.below hBl).at hx
      subst hag
      have hft := HU.out _ (List.mem_of_getElem? hx)
      simp only at hft
      have HST : Hid ((rs.take (k + 1)).map (fun r => (s + r.1, s + r.2)) = (rs.take k).map (fun r => (s + r.1, s + r.2)) ++ [(s + f, s + t)]) := take_map_succ _ hx
      generalize (rs.take k).map (fun r => (s + r.1, s + r.2)) = acc at *
      obtain ⟨a5, p5, rfl⟩ := own_slice2 hown
      have HB : Hid (Below w.heap.size w wo) := hBl
      have hbz := hBl.size
      have hst1 := cell_keep (Kept.of_below hBl (Nat.le_refl _) (fun _ => False)) hst (fun h => h)
      clear hx hBl
      go_wp2_with fail
      have hnb : (wo.alloc (.cells #[.int .i64 (f : Nat), .int .i64 (t : Nat)] 167)).heap[wo.heap.size]? = some (.cells #[.int .i64 (f : Nat), .int .i64 (t : Nat)] 167 (0, 0)) := heap_alloc_new _ _
      have d1 := cell_of hnb (i := 0) rfl
      have d2 := cell_of hnb (i := 1) rfl
      have hba : Below wo.heap.size wo (wo.alloc (.cells #[.int .i64 (f : Nat), .int .i64 (t : Nat)] 167)) := (Below.refl _ _).alloc (Nat.le_refl _) _
      have d3 := cell_keep (Kept.of_below hba (Nat.le_refl _) (fun _ => False)) hst1 (fun h => h)
      have s0 : (wo.alloc (.cells #[.int .i64 (f : Nat), .int .i64 (t : Nat)] 167)).drew.cell? ⟨wo.heap.size, 0, none⟩ = some (.int .i64 (f : Nat)) ∧ (wo.alloc (.cells #[.int .i64 (f : Nat), .int .i64 (t : Nat)] 167)).drew.cell? ⟨wo.heap.size, 1, none⟩ = some (.int .i64 (t : Nat)) ∧ (wo.alloc (.cells #[.int .i64 (f : Nat), .int .i64 (t : Nat)] 167)).drew.cell? ⟨rb, o + 515 + c, none⟩ = some (.int .i64 (s : Nat)) := ⟨d1, d2, d3⟩
      have bd0 : Below (wo.heap.size + 1) (wo.alloc (.cells #[.int .i64 (f : Nat), .int .i64 (t : Nat)] 167)) (wo.alloc (.cells #[.int .i64 (f : Nat), .int .i64 (t : Nat)] 167)).drew := bdrew (Below.refl _ _)
      have hza : (wo.alloc (.cells #[.int .i64 (f : Nat), .int .i64 (t : Nat)] 167)).heap.size = wo.heap.size + 1 := by simp
      have hown2 := hown.alloc (o := .cells #[.int .i64 (f : Nat), .int .i64 (t : Nat)] 167)
      generalize wo.alloc (.cells #[.int .i64 (f : Nat), .int .i64 (t : Nat)] 167) = wa at *
      have KEEP : ∀ W, Below (wo.heap.size + 1) wa W → (W.cell? ⟨wo.heap.size, 0, none⟩ = some (.int .i64 (f : Nat)) ∧ W.cell? ⟨wo.heap.size, 1, none⟩ = some (.int .i64 (t : Nat)) ∧ W.cell? ⟨rb, o + 515 + c, none⟩ = some (.int .i64 (s : Nat))) := fun W hW => by
        have hk := Kept.of_below hW (by omega) (fun _ => False)
        exact ⟨cell_keep hk d1 (fun h => h), cell_keep hk d2 (fun h => h), cell_keep hk d3 (fun h => h)⟩
      have OWN : Hid (∀ V : World, Below (wo.heap.size + 1) wa V → V.ownsRow w.heap.size 167 2 (.slice a5 k p5) k (rgL acc)) := fun V hV => own_keep hown2 (Kept.of_below hV (by omega) (fun _ => False)) (fun _ _ h => h)
      have BA : Hid (∀ ob : Obj, Below (wo.heap.size + 1) wa (wa.alloc ob).drew) := fun ob => bdrew ((Below.refl _ _).alloc (by omega) ob)
      have BA2 : Hid (∀ ob : Obj, Below (wo.heap.size + 1) wa (wa.drew.alloc ob)) := fun ob => bd0.alloc (by have := bd0.size; omega) ob
      have KA : Hid (∀ V : World, Below (wo.heap.size + 1) wa V → (V.cell? ⟨wo.heap.size, 0, none⟩ = some (.int .i64 (f : Nat)) ∧ V.cell? ⟨wo.heap.size, 1, none⟩ = some (.int .i64 (t : Nat)) ∧ V.cell? ⟨rb, o + 515 + c, none⟩ = some (.int .i64 (s : Nat)))) := KEEP
      have hlow : ∀ q, (Value.slice a5 k p5).ownBlock = some q → w.heap.size ≤ q ∧ q < wo.heap.size := hown.lt
      have KG : Hid (∀ V W' : World, Below (wo.heap.size + 1) wa V → V.grownBy W' (Value.slice a5 k p5).ownBlock → (W'.cell? ⟨wo.heap.size, 0, none⟩ = some (.int .i64 (f : Nat)) ∧ W'.cell? ⟨wo.heap.size, 1, none⟩ = some (.int .i64 (t : Nat)) ∧ W'.cell? ⟨rb, o + 515 + c, none⟩ = some (.int .i64 (s : Nat)))) := fun V W' hW hg => by
        have h0 := KEEP _ hW
        have hz := hW.size
        have hne : some wo.heap.size ≠ (Value.slice a5 k p5).ownBlock := fun e => by have := (hlow _ e.symm).2; omega
        have hne2 : some rb ≠ (Value.slice a5 k p5).ownBlock := fun e => by have := (hlow _ e.symm).1; omega
        rw [hg.cell_far ⟨wo.heap.size, 0, none⟩ (by simp; omega) hne, hg.cell_far ⟨wo.heap.size, 1, none⟩ (by simp; omega) hne, hg.cell_far ⟨rb, o + 515 + c, none⟩ (by simp; omega) hne2]
        exact h0
      have KB : Hid (∀ V W' : World, Below (wo.heap.size + 1) wa V → V.grownBy W' (Value.slice a5 k p5).ownBlock → Below w.heap.size w W') := fun V W' hW hg =>
        (HB.out.trans ((hba.trans (hW.mono (by omega))).mono hbz)).grown hg (by have := hW.size; omega) (fun q hq => (hlow q hq).1)
      have HBS : Hid (∀ V : World, Below (wo.heap.size + 1) wa V → w.heap.size ≤ V.heap.size) := fun V hV => by have := hV.size; omega
      have BV : Below (wo.heap.size + 1) wa (wa.alloc (.cells #[.int .i64 ((s : Int) + (f : Int)), .int .i64 ((s : Int) + (t : Int))] 167)).drew := BA.out _
      have OWNV : Hid ((wa.alloc (.cells #[.int .i64 ((s : Int) + (f : Int)), .int .i64 ((s : Int) + (t : Int))] 167)).drew.ownsRow w.heap.size 167 2 (.slice a5 k p5) k (rgL acc)) := OWN.out _ BV
      have HBSV : Hid (w.heap.size ≤ (wa.alloc (.cells #[.int .i64 ((s : Int) + (f : Int)), .int .i64 ((s : Int) + (t : Int))] 167)).drew.heap.size) := HBS.out _ BV
      have KGV : Hid _ := fun W' => KG.out _ W' BV
      have KBV : Hid _ := fun W' => KB.out _ W' BV
      have NEWV : Hid (∀ j u, [Value.int .i64 ((s : Int) + (f : Int)), Value.int .i64 ((s : Int) + (t : Int))][j]? = some u → (wa.alloc (.cells #[.int .i64 ((s : Int) + (f : Int)), .int .i64 ((s : Int) + (t : Int))] 167)).drew.cell? ((⟨wa.heap.size, 0, none⟩ : Addr).add j) = some u) := World.news_of_block (heap_alloc_new wa _)
      have hwr1 : IntKind.i64.wrap ((s : Int) + (f : Int)) = (s : Int) + (f : Int) := wrap_small (by omega) (by omega)
      have hwr2 : IntKind.i64.wrap ((s : Int) + (t : Int)) = (s : Int) + (t : Int) := wrap_small (by omega) (by omega)
      clear KEEP d1 d2 d3 hnb hown hown2 hlow hst1 hza
      go_region_held3 (fun w' => w'.cell? ⟨wo.heap.size, 0, none⟩ = some (.int .i64 (f : Nat)) ∧ w'.cell? ⟨wo.heap.size, 1, none⟩ = some (.int .i64 (t : Nat)) ∧ w'.cell? ⟨rb, o + 515 + c, none⟩ = some (.int .i64 (s : Nat))) (first | assumption | exact KA.out _ (BA.out _) | exact KA.out _ (BA2.out _)) ((rw [if_pos (by rfl)]; refine wp_append_lies _ (.tmp 16) (.tmp 36) 164 rfl w.heap.size 167 i0 (.agg #[.int .i64 0, .int .i64 0]) 2 16 Tryz.underlying164 hi hz0 hz1 hz2 rfl (by decide) (.slice a5 k p5) k (rgL acc) rfl OWNV.out ⟨wa.heap.size, 0, none⟩ 1 1 [.int .i64 ((s : Int) + (f : Int)), .int .i64 ((s : Int) + (t : Int))] rfl rfl NEWV.out (by intro u hu; simp at hu; rcases hu with rfl | rfl <;> rfl) (by omega) (by unfold maxLen; omega) (by omega) HBSV.out _ rfl ?_; intro g2 cap2 w5 hown5 hgrow5 hat5 hlt5; have hS5 := KGV.out _ hgrow5; have hB5 := KBV.out _ hgrow5))
      clear KA KB KG OWN BA BA2 HBS OWNV HBSV KGV KBV NEWV BV hgrow5 hat5 hS5 s0 bd0
      go_wp2
      exact ⟨⟨k + 1, by omega, by go_num, by rw [HST.out, rgL_app]; exact hown5, hB5⟩, by simp [intOf]; omega⟩
    · have hk' : k = rs.length := by omega
      subst hk'
      rw [List.take_length] at hown
      go_wp2
      go_ret
      exact ⟨_, rfl, hown, hBl⟩
end
end Go.Proofs.YtopihgmemnokkaaGreat
namespace Go.Proofs.YtopihgmemnokkaaGreat
open Go.RowKit
section
variable {base : Nat} {w : World} {rb o : Nat} {G : Nat → Nat × Nat} {r : Nat} {root : Value} {F : Nat → Prop} {n : Nat} {b : Nat → Nat} {fw : Nat}
def plR (fw : Nat) (rs : List (Nat × Nat)) : List (Nat × Nat) := rs.map fun r => (Cc.ks fw r.1, Cc.ks fw r.2)
def bgR (n : Nat) (b : Nat → Nat) (c : Nat) (rs : List (Nat × Nat)) : List (Nat × Nat) := rs.map fun r => (Wv.st n b c + r.1, Wv.st n b c + r.2)
theorem Rws.one (h : Rws base w rb o G r root F n b fw) {c : Nat} (hc : c < 256) {rs rt : List (Nat × Nat)} (hu : Wv.Upto (n + 1) rs) (hp : Wv.Pos rt)
    (hf : Wv.flat rt = (if 0 < (G c).1 then Wv.sel (bl (G c)) (Wv.waysOf (fun c => bl (G c)) b n) (Wv.flat (plR fw rs)) else [])) :
    Wv.Pos (bgR n b c rt) ∧ Wv.flat (bgR n b c rt) = Wv.lgb n b fw c (Wv.flat rs) ∧ (∀ x ∈ rt, x.1 ≤ 1000000 ∧ x.2 ≤ 1000000) ∧ Wv.Full (n + 1) (bgR n b c rt) := by
  have hpl := Wv.upto_places fw hu h.fwle
  have hfp := Wv.flat_places fw hu h.fwle
  unfold plR at hf
  rw [h.sel hc hpl.lt] at hf
  have hlt : ∀ i ∈ Wv.flat rt, i < Cc.cn n fun j => decide (b j = c) := by
    intro i hi
    rw [hf] at hi
    obtain ⟨j, hj, rfl⟩ := List.mem_map.1 hi
    have h1 := List.mem_filter.1 hj
    exact Cc.cn_lt_bound (hpl.lt j h1.1) (by simpa using h1.2)
  have hfull := hp.full hlt
  have hcn := Wv.st_cnt (n := n) (b := b) c
  have hn := h.nle
  have hpos : Wv.Pos (bgR n b c rt) := fun x hx => by
    obtain ⟨y, hy, rfl⟩ := List.mem_map.1 hx
    have := hp y hy
    simp only; omega
  refine ⟨hpos, ?_, fun x hx => ?_, fun x hx => ?_⟩
  · unfold bgR
    rw [Wv.flat_map_add, hf, hfp]
    exact Wv.lgb_flat n b fw c (Wv.flat rs)
  · have := hfull x hx
    omega
  · obtain ⟨y, hy, rfl⟩ := List.mem_map.1 hx
    have := hfull y hy
    simp only; omega
set_option maxRecDepth 100000 in
set_option maxHeartbeats 2000000 in
theorem longerBy_any (h : Rws base w rb o G r root F n b fw) (c : Nat) (hc : c < 256) (v : Value) (rs : List (Nat × Nat)) (hr : RgAt w v rs) (hu : Wv.Upto (n + 1) rs) (hl : rs.length ≤ 1000000) :
    Calls Tryz.prog 143 #[.pointer (some ⟨rb, o, none⟩), .int .u8 (c : Nat), v] w fun e w' => (∃ v' rs', e = .returned v' ∧ RgAt w' v' rs' ∧ Wv.Full (n + 1) rs' ∧ Wv.flat rs' = Wv.lgb n b fw c (Wv.flat rs) ∧ rs'.length ≤ rs.length) ∧ Below w.heap.size w w' := by
  have L1 : Hid (∀ W, Below w.heap.size w W → Calls Tryz.prog 146 #[.pointer (some ⟨rb, o, none⟩), v] W fun e w' => ∃ v1, e = .returned v1 ∧ Below w.heap.size w w' ∧ RgAt w' v1 (plR fw rs) ∧ True) := fun W hW =>
    (places_any (h.below hW) v rs (hr.below hW) hu hl).mono fun e w' ⟨v1, he, ho, hb⟩ => ⟨v1, he, hW.trans (hb.mono hW.size), (RgAt.own ho).1, trivial⟩
  have hpl := Wv.upto_places fw hu h.fwle
  have L2 : Hid (∀ W v1, Below w.heap.size w W → RgAt W v1 (plR fw rs) → Calls Tryz.prog 167 #[.pointer (some ⟨rb, o, none⟩), .int .u8 (c : Nat), v1] W fun e w' => ∃ v2 r2, e = .returned v2 ∧ Below w.heap.size w w' ∧ RgAt w' v2 r2 ∧ (Wv.Pos r2 ∧ r2.length ≤ rs.length ∧ Wv.flat r2 = (if 0 < (G c).1 then Wv.sel (bl (G c)) (Wv.waysOf (fun c => bl (G c)) b n) (Wv.flat (plR fw rs)) else [])) ∧ True) := fun W v1 hW h1 =>
    (tamong_any base W rb o G _ r root F (h.tre.below hW) c hc v1 (plR fw rs) h1 (by rw [Wv.waysOf_len]; exact hpl) (by unfold plR; simpa using hl)).mono fun e w' ⟨⟨v2, r2, he, ha, hp, hll, hf⟩, hb⟩ => ⟨v2, r2, he, hW.trans (hb.mono hW.size), ha, ⟨hp, by unfold plR at hll; simpa using hll, hf⟩, trivial⟩
  have L3 : Hid (∀ W v2 r2, Below w.heap.size w W → RgAt W v2 r2 → (Wv.Pos r2 ∧ r2.length ≤ rs.length ∧ Wv.flat r2 = (if 0 < (G c).1 then Wv.sel (bl (G c)) (Wv.waysOf (fun c => bl (G c)) b n) (Wv.flat (plR fw rs)) else [])) → Calls Tryz.prog 147 #[.pointer (some ⟨rb, o, none⟩), .int .u8 (c : Nat), v2] W fun e w' => ∃ v3, e = .returned v3 ∧ Below w.heap.size w w' ∧ RgAt w' v3 (bgR n b c r2) ∧ True) := fun W v2 r2 hW h1 h2 =>
    (beginning_any (h.below hW) c hc v2 r2 h1 (h.one hc hu h2.1 h2.2.2).2.2.1 (by omega)).mono fun e w' ⟨v3, he, ho, hb⟩ => ⟨v3, he, hW.trans (hb.mono hW.size), (RgAt.own ho).1, trivial⟩
  have HH : Hid (Rws base w rb o G r root F n b fw) := h
  have HU : Hid (Wv.Upto (n + 1) rs) := hu
  have s0 : True := trivial
  have bd0 : Below w.heap.size w w.drew := bdrew (Below.refl _ _)
  obtain ⟨a, cp, rfl⟩ := hr.len
  clear h hr hu hpl
  go_enter Tryz.func143, Tryz.ntmps143
  go_wp2_with fail
  go_region_held3 (fun _ => True) (assumption) ((first
    | (go_at_call 146; refine (L1.out _ (by assumption)).mono ?_; rintro e w2 ⟨v1, rfl, hb2, hr2, hS2⟩)
    | (go_at_call 167; refine (L2.out _ _ (by assumption) (by assumption)).mono ?_; rintro e w3 ⟨v2, r2, rfl, hb3, hr3, hq3, hS3⟩)
    | (go_at_call 147; refine (L3.out _ _ _ (by assumption) (by assumption) (by assumption)).mono ?_; rintro e w4 ⟨v3, rfl, hb4, hr4, hS4⟩)))
  clear L1 L2 L3 s0 bd0
  have hone := HH.out.one hc HU.out hq3.1 hq3.2.2
  go_wp2
  go_ret
  exact ⟨⟨_, _, rfl, hr4, hone.2.2.2, hone.2.1, by unfold bgR; simpa using hq3.2.1⟩, hb4⟩
end
end Go.Proofs.YtopihgmemnokkaaGreat
namespace Go.Proofs.YtopihgmemnokkaaGreat
open Go.RowKit
theorem rowB_own {w : World} {b m base : Nat} {f : Nat → Nat} (h : RowB w b m f) (hb : base ≤ b) (hm : m ≤ 1000000) : w.ownsRow base 5 1 (.slice (some ⟨b, 0, none⟩) m m) m (u8L ((List.range m).map f)) := by
  refine ⟨by simp [u8L], .inr ⟨b, m, rowB m f, rfl, hb, h, Nat.le_refl _, by unfold maxLen; omega, by simp [rowB], ?_⟩⟩
  simp only [rowB, u8L, Nat.mul_one, Array.toList_map, Array.toList_range, List.map_map]
  rw [List.take_of_length_le (by simp)]
  rfl
set_option maxRecDepth 100000 in
set_option maxHeartbeats 2000000 in
theorem lbytes_any (base : Nat) (w : World) (b o : Nat) (pre post : List Value) (ho : pre.length = o) (ty : TypeId) (wv av : Value) (l : List Bool) (h : BitL base w b pre post ty wv av (bitF l) l.length) (hb : l.length ≤ 8000) :
    Calls Tryz.prog 114 #[.pointer (some ⟨b, o, none⟩)] w fun e w' => ∃ v, e = .returned v ∧ w'.ownsRow w.heap.size 5 1 v (packL l).length (u8L (packL l)) ∧ Below w.heap.size w w' := by
  obtain ⟨m, hm⟩ : ∃ m, (l.length + 7) / 8 = m := ⟨_, rfl⟩
  have hmk := fun w => make_bytes m (by omega) w
  have HL : Hid (BitL base w b pre post ty wv av (bitF l) l.length) := h
  have c2 := h.four.c2 ho
  have hbl := h.four.lt
  have hmi : ((l.length : Int) + 7) / 8 = (m : Int) := by omega
  have HP : Hid ((packL l) = (List.range m).map fun i => bv l i 8) := by
    show _ = _
    unfold packL; rw [hm]
  clear h
  go_enter Tryz.func114, Tryz.ntmps114
  go_wp2
  go_loopw [15] (fun iv wr => ∃ i : Nat, i ≤ m ∧ iv = .int .i64 i ∧ Hid (RowB wr w.heap.size m (fun k => if k < i then bv l k 8 else 0)) ∧ Hid (Below w.heap.size w wr)) (fun iv _ => m - (intOf iv).toNat)
  case atStart => exact ⟨0, by omega, rfl, (RowB.new' m (fun _ => 0) rfl).congr fun j _ => by simp, (Below.refl _ _).alloc (Nat.le_refl _) _⟩
  case round =>
    clear hmk c2 hmi
    obtain ⟨i, hi, rfl, HR, HB⟩ := hrel
    by_cases hlt : i < m
    · have hL := HL.out.below HB.out
      have hw := hL.words
      obtain ⟨g, cap, rfl, _, _⟩ := hw.form (by omega)
      have c0 := hL.four.c0 ho
      have d1 := own_cell hw (wordsL_get (bitF l) (n := l.length) (j := i / 8) (by omega))
      have hfin := word_byte l (i := i) (by omega)
      have hX := Bm.wordAt_lt (fun q => bitF l (64 * (i / 8) + q)) (m := min 64 (l.length - 64 * (i / 8))) (by omega)
      generalize Bm.wordAt (fun q => bitF l (64 * (i / 8) + q)) (min 64 (l.length - 64 * (i / 8))) = X at *
      obtain ⟨q, hq⟩ : ∃ q, i / 8 = q := ⟨_, rfl⟩
      obtain ⟨r, hr⟩ : ∃ r, i % 8 = r := ⟨_, rfl⟩
      rw [hq] at d1
      rw [hr] at hfin
      have e1 : (i : Int) * 8 / 64 = (q : Nat) := by omega
      have e2 : (i : Int) * 8 % 64 = ((8 * r : Nat) : Int) := by omega
      have hr8 : r < 8 := by omega
      obtain ⟨mm, hmm⟩ : ∃ mm, (l.length + 63) / 64 = mm := ⟨_, rfl⟩
      have hqm : (q : Int) < (mm : Int) := by omega
      have hq1 : q ≤ 1000 := by omega
      rw [hmm] at c0
      have r0 := HR.out.frozen i
      have t0 := HR.out.cell (i := i) hlt
      have HS : Hid (∀ z : Nat, z = bv l i 8 → RowB (wr.setCell ⟨w.heap.size, i, none⟩ (.int .u8 (z : Nat))) w.heap.size m (fun k => if k < i + 1 then bv l k 8 else 0)) := fun z hz =>
        (HR.out.set i z).congr fun k _ => by
          unfold Cc.put
          by_cases e : k = i
          · subst e; rw [if_pos rfl, if_pos (by omega), hz]
          · rw [if_neg e]
            show (if k < i then bv l k 8 else 0) = _
            by_cases e2 : k < i
            · rw [if_pos e2, if_pos (by omega)]
            · rw [if_neg e2, if_neg (by omega)]
      have HFIN : Hid (X / 2 ^ (56 - 8 * r) % 256 = bv l i 8) := hfin
      have him : (i : Int) < (m : Int) := by omega
      clear hfin hq hr hmm hw hL
      go_wp2
      have e : (X : Int) / 2 ^ (56 - 8 * r) % 256 = ((X / 2 ^ (56 - 8 * r) % 256 : Nat) : Int) := by rw [Int.natCast_emod, Int.natCast_ediv, Int.natCast_pow]; rfl
      exact ⟨⟨i + 1, by omega, by go_num, by rw [e]; exact HS.out _ HFIN.out, HB.out.setCell (by simp) _⟩, by simp [intOf]; omega⟩
    · have hi' : i = m := by omega
      subst hi'
      go_wp2
      go_ret
      refine ⟨_, rfl, ?_, HB.out⟩
      rw [HP.out, List.length_map, List.length_range]
      have := rowB_own (base := w.heap.size) (HR.out.congr (g := fun k => bv l k 8) (fun k hk => by rw [if_pos hk])) (Nat.le_refl _) (by omega)
      exact this
end Go.Proofs.YtopihgmemnokkaaGreat
namespace Go.Proofs.YtopihgmemnokkaaGreat
open Go.RowKit
theorem or_u8 (a m : Nat) (ha : a < 2 ^ m) (hm : m < 8) : bits .or .u8 (a : Int) ((2 ^ m : Nat) : Int) = ((a + 2 ^ m : Nat) : Int) := by
  have hp : 2 ^ m ≤ 2 ^ 7 := Nat.pow_le_pow_right (by omega) (by omega)
  have h1 : (BitVec.ofInt 8 (a : Int)).toNat = a := by
    rw [BitVec.ofInt_natCast, BitVec.toNat_ofNat]; exact Nat.mod_eq_of_lt (by omega)
  have h2 : (BitVec.ofInt 8 ((2 ^ m : Nat) : Int)).toNat = 2 ^ m := by
    rw [BitVec.ofInt_natCast, BitVec.toNat_ofNat]; exact Nat.mod_eq_of_lt (by omega)
  show IntKind.u8.wrap ((BitVec.ofInt 8 (a : Int) ||| BitVec.ofInt 8 ((2 ^ m : Nat) : Int)).toNat : Int) = _
  rw [BitVec.toNat_or, h1, h2]
  have h3 := Nat.two_pow_add_eq_or_of_lt ha 1
  rw [Nat.mul_one] at h3
  rw [Nat.or_comm, ← h3, Nat.add_comm]
  have hy : a + 2 ^ m < 256 := by omega
  generalize a + 2 ^ m = y at *
  simp [IntKind.wrap, IntKind.bits, IntKind.signed]
  omega
set_option maxRecDepth 100000 in
set_option maxHeartbeats 2000000 in
theorem present_any (f : Nat → Nat) (hf : ∀ c, f c ≤ 1000000) (w : World) :
    Calls Tryz.prog 75 #[.agg (rowC 256 f)] w fun e w' => ∃ v, e = .returned (.tuple #[.slice (some ⟨w.heap.size + 1, 0, none⟩) 32 32, v]) ∧ RowB w' (w.heap.size + 1) 32 (flgA f 256) ∧ w'.ownsRow w.heap.size 3 1 v (ofA f 256).length (intsL (ofA f 256)) ∧ Below w.heap.size w w' := by
  obtain ⟨j0, hj, hy0, hy1, hy2⟩ := info_parts Tryz.info3
  have hmk : ∀ w, (Instr.makeSlice 55 (.int .i64 32) (.int .i64 32)).run Tryz.prog w = .ok (.slice (some ⟨w.heap.size, 0, none⟩) 32 32) (w.alloc (.cells (rowB 32 fun _ => 0) 5)) := fun w => make_bytes 32 (by omega) w
  have HF : Hid (∀ c, f c ≤ 1000000) := hf
  clear hf
  go_enter Tryz.func75, Tryz.ntmps75
  go_wp2_with (refine wpList_load_row rfl 120 _ rfl w.heap.size rfl 120 (rowC 256 f) (0, 0) _ (by rw [Below.heap_alloc _ _ _ (by simp)]; exact heap_alloc_new w _) Tryz.underlying120 rfl (by rw [size_rowC]; exact size256) ?_)
  go_loopw [5, 10] (fun v i wr => ∃ k : Nat, k ≤ 256 ∧ i = .int .i64 k ∧ Hid (wr.ownsRow w.heap.size 3 1 v (ofA f k).length (intsL (ofA f k))) ∧ Hid (RowB wr (w.heap.size + 1) 32 (flgA f k)) ∧ Hid (Below w.heap.size w wr)) (fun _ i _ => 256 - (intOf i).toNat)
  case atStart => exact ⟨0, by omega, rfl, World.ownsRow_nil _ _ _ _, (RowB.new' 32 (fun _ => 0) (by simp)).congr (fun j _ => (flgA_zero f j).symm), ((Below.refl _ _).alloc (Nat.le_refl _) _).alloc (by simp) _⟩
  case round =>
    clear hmk
    obtain ⟨k, hk, rfl, OW, RB, BL⟩ := hrel
    by_cases hlt : k < 256
    · have hix : ∀ wz : World, (Instr.index 120 (.agg (rowC 256 f)) (.int .i64 (k : Int))).run Tryz.prog wz = .ok (.int .i64 (f k : Nat)) wz := fun wz => run_ix_row _ _ k hlt (rowC_get hlt) wz
      have hfk := HF.out k
      by_cases h0 : f k = 0
      · have hfx : Hid (ofA f (k + 1) = ofA f k) := by show (if 0 < f k then _ else _) = _; rw [if_neg (by omega)]
        have RB2 : Hid (RowB wr (w.heap.size + 1) 32 (flgA f (k + 1))) := RB.out.congr fun j _ => by
          by_cases e : j = k / 8
          · subst e; rw [flgA_here, if_neg (by omega)]; omega
          · exact (flgA_other f e).symm
        rw [h0] at hix
        clear hfk h0
        go_wp2
        exact ⟨⟨k + 1, by omega, by go_num, by rw [hfx.out]; exact OW, RB2, BL⟩, by simp [intOf]; omega⟩
      · have hfx : Hid (ofA f (k + 1) = ofA f k ++ [f k]) := by show (if 0 < f k then _ else _) = _; rw [if_pos (by omega)]
        have hpos : (0 : Int) < (f k : Nat) := by omega
        have hol := ofA_len f k
        obtain ⟨q, hq⟩ : ∃ q, k / 8 = q := ⟨_, rfl⟩
        obtain ⟨m, hm⟩ : ∃ m, k % 8 = m := ⟨_, rfl⟩
        have hm8 : m < 8 := by omega
        have hq32 : q < 32 := by omega
        have e1 : (k : Int) / 8 = (q : Nat) := by omega
        have e2 : (k : Int) % 8 = (m : Nat) := by omega
        have hlow := flgA_low f k
        have hhere := flgA_here f k
        rw [hq, hm] at hlow hhere
        rw [if_pos (by omega), Nat.one_mul] at hhere
        have c0 := RB.out.cell (i := q) hq32
        have f0 := RB.out.frozen q
        have hor := or_u8 (flgA f k q) m hlow hm8
        have hpow : (2 : Nat) ^ m ≤ 2 ^ 7 := Nat.pow_le_pow_right (by omega) (by omega)
        have RB2 : Hid (RowB (wr.setCell ⟨w.heap.size + 1, q, none⟩ (.int .u8 ((flgA f k q + 2 ^ m : Nat) : Int))) (w.heap.size + 1) 32 (flgA f (k + 1))) := (RB.out.set q _).congr fun j _ => by
          unfold Cc.put
          by_cases e : j = q
          · subst e; rw [if_pos rfl, hhere]
          · rw [if_neg e]; exact (flgA_other f (by omega)).symm
        have hne : ∀ g, (Value.slice none 0 0).ownBlock = some g → False := fun g h => by cases h
        obtain ⟨n, hn⟩ : ∃ n, f k = n := ⟨_, rfl⟩
        rw [hn] at hix hpos hfk hfx
        obtain ⟨ua, ub, rfl⟩ := own_slice OW.out
        have hz := BL.out.size
        have hkb : (k : Int) < 256 := by omega
        have hrl := (Array.getElem?_eq_some_iff.1 RB.out).1
        generalize flgA f k q = y at *
        generalize ofA f k = acc at *
        clear hq hm hn hhere hne h0
        go_wp2
        go_region
        have hv : bits .or .u8 (y : Int) ((2 : Int) ^ m % 256) = ((y + 2 ^ m : Nat) : Int) := by
          rw [← hor]
          congr 1
          have : (2 : Int) ^ m = ((2 ^ m : Nat) : Int) := by rw [Int.natCast_pow]; rfl
          omega
        rw [hv]
        have hks : Kept (fun k => k = w.heap.size + 1) wr (wr.setCell ⟨w.heap.size + 1, q, none⟩ (.int .u8 ((y + 2 ^ m : Nat) : Int))).drew := ((Kept.refl _ wr).setCell (by rfl) _).drew
        have hno := own_not OW.out RB.out (by decide)
        have OW3 : Hid ((wr.setCell ⟨w.heap.size + 1, q, none⟩ (.int .u8 ((y + 2 ^ m : Nat) : Int))).drew.ownsRow w.heap.size 3 1 (.slice ua acc.length ub) acc.length (intsL acc)) := own_keep OW.out hks (fun g hg e => hno (by rw [← e]; exact hg))
        have RB3 : Hid (RowB (wr.setCell ⟨w.heap.size + 1, q, none⟩ (.int .u8 ((y + 2 ^ m : Nat) : Int))).drew (w.heap.size + 1) 32 (flgA f (k + 1))) := RB2.out
        have BL3 : Hid (Below w.heap.size w (wr.setCell ⟨w.heap.size + 1, q, none⟩ (.int .u8 ((y + 2 ^ m : Nat) : Int))).drew) := (BL.out.setCell (by simp) _).drew
        have hz3 : w.heap.size + 1 < (wr.setCell ⟨w.heap.size + 1, q, none⟩ (.int .u8 ((y + 2 ^ m : Nat) : Int))).drew.heap.size := by simpa using hrl
        generalize (wr.setCell ⟨w.heap.size + 1, q, none⟩ (.int .u8 ((y + 2 ^ m : Nat) : Int))).drew = w3 at *
        clear hv hks hno OW RB RB2 BL hor c0 f0 hpow hlow
        go_wp2_with (at_builtin; refine wpList_append_two _ rfl _ _ 30 rfl w.heap.size 3 j0 (.int .i64 0) 8 Tryz.underlying30 hj hy0 hy1 hy2 rfl _ acc.length (intsL acc) rfl (OW3.out.alloc _) ⟨w3.heap.size, 0, none⟩ 1 (.int .i64 (n : Nat)) rfl ?d1 ?d2 ?d3 ?d4 ?d5 ?_)
        case d1 => exact World.news_of_block (heap_alloc_new _ _)
        case d2 => rfl
        case d3 => unfold maxLen; omega
        case d4 => omega
        case d5 => simp; omega
        intro g2 cap2 w4 hown hlt2 hd
        have hkk : Kept (fun k => some k = (Value.slice ua acc.length ub).ownBlock) w3 w4 := ((Kept.refl _ w3).alloc _).grown (two_grown hd) (fun k h _ => h.symm)
        have HB2 : Hid (Below w.heap.size w w4) := hkk.bel BL3.out (Nat.le_refl _) (fun k hk => (OW3.out.lt k hk.symm).1)
        have RB4 : Hid (RowB w4 (w.heap.size + 1) 32 (flgA f (k + 1))) := by
          show RowB _ _ _ _
          unfold RowB
          rw [hkk.block _ (by omega) (fun e => own_not OW3.out RB3.out (by decide) e.symm)]; exact RB3.out
        have HO2 : Hid (w4.ownsRow w.heap.size 3 1 (.slice (some ⟨g2, 0, none⟩) (acc.length + 1) cap2) (ofA f (k + 1)).length (intsL (ofA f (k + 1)))) := by
          show World.ownsRow _ _ _ _ _ _ _
          rw [hfx.out, List.length_append, show intsL (acc ++ [n]) = intsL acc ++ [.int .i64 (n : Nat)] by simp [intsL]]; exact hown
        clear hown hd hkk hlt2 RB3 OW3 BL3
        go_wp2
        exact ⟨⟨k + 1, by omega, by go_num, HO2, RB4, HB2⟩, by simp [intOf]; omega⟩
    · have hk' : k = 256 := by omega
      subst hk'
      have c256 : ((256 : Nat) : Int) = 256 := rfl
      rw [c256]
      go_wp2
      go_ret2
      exact ⟨_, rfl, RB.out, OW.out, BL.out⟩
end Go.Proofs.YtopihgmemnokkaaGreat
