import Derived.Test.YtopihgmemnokkaaGreatLaw13F
namespace Go.Proofs.YtopihgmemnokkaaGreat
open Go.RowKit

/-- what was read of ranges, in a slice -/
theorem RgAt.at {w : World} {a : Option Addr} {cp : Nat} {rs : List (Nat × Nat)} (h : RgAt w (.slice a rs.length cp) rs) {k f t : Nat} (hx : rs[k]? = some (f, t)) : ∃ g, a = some ⟨g, 0, none⟩ ∧ g < w.heap.size ∧ w.cell? ⟨g, k * 2, none⟩ = some (.int .i64 (f : Nat)) ∧ w.cell? ⟨g, k * 2 + 1, none⟩ = some (.int .i64 (t : Nat)) := by
  rcases h with ⟨_, h0⟩ | ⟨g, cap, he, h2, h3⟩
  · subst h0; simp at hx
  · injection he with e1 e2 e3
    exact ⟨g, e1, h2, h3 k _ hx⟩
theorem wrap_small {x : Int} (h1 : 0 ≤ x) (h2 : x ≤ 9223372036854775807) : IntKind.i64.wrap x = x := by
  rw [IntKind.wrap_i64]; omega
theorem take_map_succ {α β : Type} (f : α → β) {l : List α} {k : Nat} {x : α} (h : l[k]? = some x) : (l.take (k + 1)).map f = (l.take k).map f ++ [f x] := by
  have hk := (List.getElem?_eq_some_iff.1 h).1
  have hx := (List.getElem?_eq_some_iff.1 h).2
  rw [List.take_succ_eq_append_getElem hk, hx]; simp

section
variable {base : Nat} {w : World} {rb o : Nat} {G : Nat → Nat × Nat} {r : Nat} {root : Value} {F : Nat → Prop} {n : Nat} {b : Nat → Nat} {fw : Nat}

set_option maxRecDepth 100000 in
set_option maxHeartbeats 2000000 in
theorem places_any (h : Rws base w rb o G r root F n b fw) (v : Value) (rs : List (Nat × Nat)) (hr : RgAt w v rs) (hu : Wv.Upto (n + 1) rs) (hl : rs.length ≤ 1000000) :
    Calls Tryz.prog 146 #[.pointer (some ⟨rb, o, none⟩), v] w fun e w' => ∃ v', e = .returned v' ∧ w'.ownsRow w.heap.size 167 2 v' rs.length (rgL (rs.map fun r => (Cc.ks fw r.1, Cc.ks fw r.2))) ∧ Below w.heap.size w w' := by
  obtain ⟨i0, hi, hz0, hz1, hz2⟩ := info_parts Tryz.info167
  obtain ⟨a, cp, rfl⟩ := hr.len
  have HR : Hid (RgAt w (.slice a rs.length cp) rs) := hr
  have HU : Hid (Wv.Upto (n + 1) rs) := hu
  have HH : Hid (Rws base w rb o G r root F n b fw) := h
  have hn := h.nle
  clear hr hu h
  go_enter Tryz.func146, Tryz.ntmps146
  go_wp2
  go_loopw [5, 7, 10] (fun fv _ i wr => ∃ k : Nat, k ≤ rs.length ∧ i = .int .i64 k ∧ wr.ownsRow w.heap.size 167 2 fv k (rgL ((rs.take k).map fun r => (Cc.ks fw r.1, Cc.ks fw r.2))) ∧ Below w.heap.size w wr) (fun _ _ i _ => rs.length - (intOf i).toNat)
  case atStart => exact ⟨0, by omega, rfl, World.ownsRow_nil _ _ _ _, Below.refl _ _⟩
  case round =>
    obtain ⟨k, hk, rfl, hown, hBl⟩ := hrel
    rename World => wo
    by_cases hlt : k < rs.length
    · obtain ⟨⟨f, t⟩, hx⟩ : ∃ x, rs[k]? = some x := ⟨_, List.getElem?_eq_getElem hlt⟩
      obtain ⟨g, hag, hgl, c1, c2⟩ := (HR.out.below hBl).at hx
      subst hag
      have hft := HU.out _ (List.mem_of_getElem? hx)
      simp only at hft
      have HST : Hid ((rs.take (k + 1)).map (fun r => (Cc.ks fw r.1, Cc.ks fw r.2)) = (rs.take k).map (fun r => (Cc.ks fw r.1, Cc.ks fw r.2)) ++ [(Cc.ks fw f, Cc.ks fw t)]) := take_map_succ _ hx
      generalize (rs.take k).map (fun r => (Cc.ks fw r.1, Cc.ks fw r.2)) = acc at *
      obtain ⟨a5, p5, rfl⟩ := own_slice2 hown
      have HB : Hid (Below w.heap.size w wo) := hBl
      have hbz := hBl.size
      have hLB : ∀ W, Below wo.heap.size wo W → Rws base W rb o G r root F n b fw := fun W hW => HH.out.below (hBl.trans (hW.mono hBl.size))
      clear hx hBl
      go_wp2_with fail
      have hnb : (wo.alloc (.cells #[.int .i64 (f : Nat), .int .i64 (t : Nat)] 167)).heap[wo.heap.size]? = some (.cells #[.int .i64 (f : Nat), .int .i64 (t : Nat)] 167 (0, 0)) := heap_alloc_new _ _
      have d1 := cell_of hnb (i := 0) rfl
      have d2 := cell_of hnb (i := 1) rfl
      have s0 : (wo.alloc (.cells #[.int .i64 (f : Nat), .int .i64 (t : Nat)] 167)).drew.cell? ⟨wo.heap.size, 0, none⟩ = some (.int .i64 (f : Nat)) ∧ (wo.alloc (.cells #[.int .i64 (f : Nat), .int .i64 (t : Nat)] 167)).drew.cell? ⟨wo.heap.size, 1, none⟩ = some (.int .i64 (t : Nat)) := ⟨d1, d2⟩
      have bd0 : Below (wo.heap.size + 1) (wo.alloc (.cells #[.int .i64 (f : Nat), .int .i64 (t : Nat)] 167)) (wo.alloc (.cells #[.int .i64 (f : Nat), .int .i64 (t : Nat)] 167)).drew := bdrew (Below.refl _ _)
      have hza : (wo.alloc (.cells #[.int .i64 (f : Nat), .int .i64 (t : Nat)] 167)).heap.size = wo.heap.size + 1 := by simp
      have hba : Below wo.heap.size wo (wo.alloc (.cells #[.int .i64 (f : Nat), .int .i64 (t : Nat)] 167)) := (Below.refl _ _).alloc (Nat.le_refl _) _
      have hown2 := hown.alloc (o := .cells #[.int .i64 (f : Nat), .int .i64 (t : Nat)] 167)
      generalize wo.alloc (.cells #[.int .i64 (f : Nat), .int .i64 (t : Nat)] 167) = wa at *
      have KEEP : ∀ W, Below (wo.heap.size + 1) wa W → (W.cell? ⟨wo.heap.size, 0, none⟩ = some (.int .i64 (f : Nat)) ∧ W.cell? ⟨wo.heap.size, 1, none⟩ = some (.int .i64 (t : Nat))) := fun W hW => by
        have hk := Kept.of_below hW (by omega) (fun _ => False)
        exact ⟨cell_keep hk d1 (fun h => h), cell_keep hk d2 (fun h => h)⟩
      have LAW : ∀ i, i ≤ 1000000 → ∀ W, Below (wo.heap.size + 1) wa W → Calls Tryz.prog 111 #[.pointer (some ⟨rb, o, none⟩), .int .i64 (i : Nat)] W fun e w' => e = .returned (.int .i64 (Cc.ks fw i : Nat)) ∧ Below (wo.heap.size + 1) wa w' ∧ (w'.cell? ⟨wo.heap.size, 0, none⟩ = some (.int .i64 (f : Nat)) ∧ w'.cell? ⟨wo.heap.size, 1, none⟩ = some (.int .i64 (t : Nat))) := fun i hi W hW =>
        (place_any (hLB W (hba.trans (hW.mono (by omega)))) i hi).mono fun e w' ⟨he, hb⟩ => by
          subst hb
          exact ⟨he, hW, KEEP _ hW⟩
      have L1 : Hid _ := LAW f (by omega)
      have L2 : Hid _ := LAW t (by omega)
      have OWN : Hid (∀ (W : World) (ob : Obj), Below (wo.heap.size + 1) wa W → (W.alloc ob).ownsRow w.heap.size 167 2 (.slice a5 k p5) k (rgL acc)) := fun W ob hW => (own_keep hown2 (Kept.of_below hW (by omega) (fun _ => False)) (fun _ _ h => h)).alloc ob
      have KA : Hid (∀ (W : World) (ob : Obj), Below (wo.heap.size + 1) wa W → ((W.alloc ob).cell? ⟨wo.heap.size, 0, none⟩ = some (.int .i64 (f : Nat)) ∧ (W.alloc ob).cell? ⟨wo.heap.size, 1, none⟩ = some (.int .i64 (t : Nat)))) := fun W ob hW => KEEP _ (hW.alloc (by have := hW.size; omega) ob)
      have hlow : ∀ q, (Value.slice a5 k p5).ownBlock = some q → w.heap.size ≤ q ∧ q < wo.heap.size := hown.lt
      have KG : Hid (∀ (W W' : World) (ob : Obj), Below (wo.heap.size + 1) wa W → (W.alloc ob).grownBy W' (Value.slice a5 k p5).ownBlock → (W'.cell? ⟨wo.heap.size, 0, none⟩ = some (.int .i64 (f : Nat)) ∧ W'.cell? ⟨wo.heap.size, 1, none⟩ = some (.int .i64 (t : Nat)))) := fun W W' ob hW hg => by
        have h0 := KEEP _ (hW.alloc (by have := hW.size; omega) ob)
        have hz := hW.size
        have hne : some wo.heap.size ≠ (Value.slice a5 k p5).ownBlock := fun e => by have := (hlow _ e.symm).2; omega
        rw [hg.cell_far ⟨wo.heap.size, 0, none⟩ (by simp; omega) hne, hg.cell_far ⟨wo.heap.size, 1, none⟩ (by simp; omega) hne]
        exact h0
      have KB : Hid (∀ (W W' : World) (ob : Obj), Below (wo.heap.size + 1) wa W → (W.alloc ob).grownBy W' (Value.slice a5 k p5).ownBlock → Below w.heap.size w W') := fun W W' ob hW hg =>
        ((HB.out.trans ((hba.trans (hW.mono (by omega))).mono hbz)).alloc (by have := hW.size; omega) ob).grown hg (by simp; have := hW.size; omega) (fun q hq => (hlow q hq).1)
      have hks1 : Cc.ks fw f ≤ f := by unfold Cc.ks; split <;> omega
      have hks2 : Cc.ks fw t ≤ t := by unfold Cc.ks; split <;> omega
      generalize Cc.ks fw f = A at *
      generalize Cc.ks fw t = B at *
      clear LAW KEEP hLB d1 d2 hnb HH hown hown2 hlow
      go_region_held3 (fun w' => w'.cell? ⟨wo.heap.size, 0, none⟩ = some (.int .i64 (f : Nat)) ∧ w'.cell? ⟨wo.heap.size, 1, none⟩ = some (.int .i64 (t : Nat))) (first | assumption | exact KA.out _ _ (by assumption)) ((first
        | (go_at_call_of 111 (Value.int .i64 (f : Int)); refine (L1.out _ (by assumption)).mono ?_; rintro e w2 ⟨rfl, hb2, hS2⟩)
        | (go_at_call_of 111 (Value.int .i64 (t : Int)); refine (L2.out _ (by assumption)).mono ?_; rintro e w3 ⟨rfl, hb3, hS3⟩)
        | (refine step_append_lies _ (by rfl) _ _ 164 (by rfl) w.heap.size 167 i0 _ 2 16 Tryz.underlying164 hi hz0 hz1 hz2 rfl (by decide) _ _ _ rfl (OWN.out _ _ (by assumption)) ⟨_, 0, none⟩ 1 1 [.int .i64 (A : Nat), .int .i64 (B : Nat)] rfl rfl (World.news_of_block (heap_alloc_new _ _)) (by intro u hu; simp at hu; rcases hu with rfl | rfl <;> rfl) (by omega) (by unfold maxLen; omega) (by omega) (by simp; have := (‹Below (wo.heap.size + 1) wa w3›).size; omega) _ rfl ?_; intro g2 cap2 w5 hown5 hgrow5 hat5 hlt5; have hS5 := KG.out _ _ _ (by assumption) hgrow5)))
      have hB5 := KB.out _ _ _ hb3 hgrow5
      clear L1 L2 KA KB KG OWN hgrow5 hat5 hb2 hS2 hS3 hS5 s0 bd0
      go_wp2
      exact ⟨⟨k + 1, by omega, by go_num, by rw [HST.out, rgL_app]; exact hown5, hB5⟩, by simp [intOf]; omega⟩
    · have hk' : k = rs.length := by omega
      subst hk'
      rw [List.take_length] at hown
      go_wp2
      go_ret
      exact ⟨_, rfl, hown, hBl⟩

set_option maxRecDepth 100000 in
set_option maxHeartbeats 2000000 in
theorem beginning_any (h : Rws base w rb o G r root F n b fw) (c : Nat) (hc : c < 256) (v : Value) (rs : List (Nat × Nat)) (hr : RgAt w v rs) (hu : ∀ x ∈ rs, x.1 ≤ 1000000 ∧ x.2 ≤ 1000000) (hl : rs.length ≤ 1000000) :
    Calls Tryz.prog 147 #[.pointer (some ⟨rb, o, none⟩), .int .u8 (c : Nat), v] w fun e w' => ∃ v', e = .returned v' ∧ w'.ownsRow w.heap.size 167 2 v' rs.length (rgL (rs.map fun r => (Wv.st n b c + r.1, Wv.st n b c + r.2))) ∧ Below w.heap.size w w' := by
  obtain ⟨i0, hi, hz0, hz1, hz2⟩ := info_parts Tryz.info167
  obtain ⟨a, cp, rfl⟩ := hr.len
  have HR : Hid (RgAt w (.slice a rs.length cp) rs) := hr
  have HU : Hid (∀ x ∈ rs, x.1 ≤ 1000000 ∧ x.2 ≤ 1000000) := hu
  have hst := h.starts c hc
  have hn := h.nle
  have hrb := h.lt
  have hcn := Wv.st_cnt (n := n) (b := b) c
  have hci : (c : Int) < 256 := by omega
  have hsb : Wv.st n b c ≤ 1001 := by omega
  generalize Wv.st n b c = s at *
  clear hr hu h
  go_enter Tryz.func147, Tryz.ntmps147
  go_wp2
  go_loopw [7, 9, 12] (fun fv _ i wr => ∃ k : Nat, k ≤ rs.length ∧ i = .int .i64 k ∧ wr.ownsRow w.heap.size 167 2 fv k (rgL ((rs.take k).map fun r => (s + r.1, s + r.2))) ∧ Below w.heap.size w wr) (fun _ _ i _ => rs.length - (intOf i).toNat)
  case atStart => exact ⟨0, by omega, rfl, World.ownsRow_nil _ _ _ _, Below.refl _ _⟩
  case round =>
    obtain ⟨k, hk, rfl, hown, hBl⟩ := hrel
    rename World => wo
    by_cases hlt : k < rs.length
    · obtain ⟨⟨f, t⟩, hx⟩ : ∃ x, rs[k]? = some x := ⟨_, List.getElem?_eq_getElem hlt⟩
      obtain ⟨g, hag, hgl, c1, c2⟩ := (HR.out.below hBl).at hx
      subst hag
      have hft := HU.out _ (List.mem_of_getElem? hx)
      simp only at hft
      have HST : Hid ((rs.take (k + 1)).map (fun r => (s + r.1, s + r.2)) = (rs.take k).map (fun r => (s + r.1, s + r.2)) ++ [(s + f, s + t)]) := take_map_succ _ hx
      generalize (rs.take k).map (fun r => (s + r.1, s + r.2)) = acc at *
      obtain ⟨a5, p5, rfl⟩ := own_slice2 hown
      have HB : Hid (Below w.heap.size w wo) := hBl
      have hbz := hBl.size
      have hst1 := cell_keep (Kept.of_below hBl (Nat.le_refl _) (fun _ => False)) hst (fun h => h)
      clear hx hBl
      go_wp2_with fail
      have hnb : (wo.alloc (.cells #[.int .i64 (f : Nat), .int .i64 (t : Nat)] 167)).heap[wo.heap.size]? = some (.cells #[.int .i64 (f : Nat), .int .i64 (t : Nat)] 167 (0, 0)) := heap_alloc_new _ _
      have d1 := cell_of hnb (i := 0) rfl
      have d2 := cell_of hnb (i := 1) rfl
      have hba : Below wo.heap.size wo (wo.alloc (.cells #[.int .i64 (f : Nat), .int .i64 (t : Nat)] 167)) := (Below.refl _ _).alloc (Nat.le_refl _) _
      have d3 := cell_keep (Kept.of_below hba (Nat.le_refl _) (fun _ => False)) hst1 (fun h => h)
      have s0 : (wo.alloc (.cells #[.int .i64 (f : Nat), .int .i64 (t : Nat)] 167)).drew.cell? ⟨wo.heap.size, 0, none⟩ = some (.int .i64 (f : Nat)) ∧ (wo.alloc (.cells #[.int .i64 (f : Nat), .int .i64 (t : Nat)] 167)).drew.cell? ⟨wo.heap.size, 1, none⟩ = some (.int .i64 (t : Nat)) ∧ (wo.alloc (.cells #[.int .i64 (f : Nat), .int .i64 (t : Nat)] 167)).drew.cell? ⟨rb, o + 515 + c, none⟩ = some (.int .i64 (s : Nat)) := ⟨d1, d2, d3⟩
      have bd0 : Below (wo.heap.size + 1) (wo.alloc (.cells #[.int .i64 (f : Nat), .int .i64 (t : Nat)] 167)) (wo.alloc (.cells #[.int .i64 (f : Nat), .int .i64 (t : Nat)] 167)).drew := bdrew (Below.refl _ _)
      have hza : (wo.alloc (.cells #[.int .i64 (f : Nat), .int .i64 (t : Nat)] 167)).heap.size = wo.heap.size + 1 := by simp
      have hown2 := hown.alloc (o := .cells #[.int .i64 (f : Nat), .int .i64 (t : Nat)] 167)
      generalize wo.alloc (.cells #[.int .i64 (f : Nat), .int .i64 (t : Nat)] 167) = wa at *
      have KEEP : ∀ W, Below (wo.heap.size + 1) wa W → (W.cell? ⟨wo.heap.size, 0, none⟩ = some (.int .i64 (f : Nat)) ∧ W.cell? ⟨wo.heap.size, 1, none⟩ = some (.int .i64 (t : Nat)) ∧ W.cell? ⟨rb, o + 515 + c, none⟩ = some (.int .i64 (s : Nat))) := fun W hW => by
        have hk := Kept.of_below hW (by omega) (fun _ => False)
        exact ⟨cell_keep hk d1 (fun h => h), cell_keep hk d2 (fun h => h), cell_keep hk d3 (fun h => h)⟩
      have OWN : Hid (∀ V : World, Below (wo.heap.size + 1) wa V → V.ownsRow w.heap.size 167 2 (.slice a5 k p5) k (rgL acc)) := fun V hV => own_keep hown2 (Kept.of_below hV (by omega) (fun _ => False)) (fun _ _ h => h)
      have BA : Hid (∀ ob : Obj, Below (wo.heap.size + 1) wa (wa.alloc ob).drew) := fun ob => bdrew ((Below.refl _ _).alloc (by omega) ob)
      have BA2 : Hid (∀ ob : Obj, Below (wo.heap.size + 1) wa (wa.drew.alloc ob)) := fun ob => bd0.alloc (by have := bd0.size; omega) ob
      have KA : Hid (∀ V : World, Below (wo.heap.size + 1) wa V → (V.cell? ⟨wo.heap.size, 0, none⟩ = some (.int .i64 (f : Nat)) ∧ V.cell? ⟨wo.heap.size, 1, none⟩ = some (.int .i64 (t : Nat)) ∧ V.cell? ⟨rb, o + 515 + c, none⟩ = some (.int .i64 (s : Nat)))) := KEEP
      have hlow : ∀ q, (Value.slice a5 k p5).ownBlock = some q → w.heap.size ≤ q ∧ q < wo.heap.size := hown.lt
      have KG : Hid (∀ V W' : World, Below (wo.heap.size + 1) wa V → V.grownBy W' (Value.slice a5 k p5).ownBlock → (W'.cell? ⟨wo.heap.size, 0, none⟩ = some (.int .i64 (f : Nat)) ∧ W'.cell? ⟨wo.heap.size, 1, none⟩ = some (.int .i64 (t : Nat)) ∧ W'.cell? ⟨rb, o + 515 + c, none⟩ = some (.int .i64 (s : Nat)))) := fun V W' hW hg => by
        have h0 := KEEP _ hW
        have hz := hW.size
        have hne : some wo.heap.size ≠ (Value.slice a5 k p5).ownBlock := fun e => by have := (hlow _ e.symm).2; omega
        have hne2 : some rb ≠ (Value.slice a5 k p5).ownBlock := fun e => by have := (hlow _ e.symm).1; omega
        rw [hg.cell_far ⟨wo.heap.size, 0, none⟩ (by simp; omega) hne, hg.cell_far ⟨wo.heap.size, 1, none⟩ (by simp; omega) hne, hg.cell_far ⟨rb, o + 515 + c, none⟩ (by simp; omega) hne2]
        exact h0
      have KB : Hid (∀ V W' : World, Below (wo.heap.size + 1) wa V → V.grownBy W' (Value.slice a5 k p5).ownBlock → Below w.heap.size w W') := fun V W' hW hg =>
        (HB.out.trans ((hba.trans (hW.mono (by omega))).mono hbz)).grown hg (by have := hW.size; omega) (fun q hq => (hlow q hq).1)
      have HBS : Hid (∀ V : World, Below (wo.heap.size + 1) wa V → w.heap.size ≤ V.heap.size) := fun V hV => by have := hV.size; omega
      have BV : Below (wo.heap.size + 1) wa (wa.alloc (.cells #[.int .i64 ((s : Int) + (f : Int)), .int .i64 ((s : Int) + (t : Int))] 167)).drew := BA.out _
      have OWNV : Hid ((wa.alloc (.cells #[.int .i64 ((s : Int) + (f : Int)), .int .i64 ((s : Int) + (t : Int))] 167)).drew.ownsRow w.heap.size 167 2 (.slice a5 k p5) k (rgL acc)) := OWN.out _ BV
      have HBSV : Hid (w.heap.size ≤ (wa.alloc (.cells #[.int .i64 ((s : Int) + (f : Int)), .int .i64 ((s : Int) + (t : Int))] 167)).drew.heap.size) := HBS.out _ BV
      have KGV : Hid _ := fun W' => KG.out _ W' BV
      have KBV : Hid _ := fun W' => KB.out _ W' BV
      have NEWV : Hid (∀ j u, [Value.int .i64 ((s : Int) + (f : Int)), Value.int .i64 ((s : Int) + (t : Int))][j]? = some u → (wa.alloc (.cells #[.int .i64 ((s : Int) + (f : Int)), .int .i64 ((s : Int) + (t : Int))] 167)).drew.cell? ((⟨wa.heap.size, 0, none⟩ : Addr).add j) = some u) := World.news_of_block (heap_alloc_new wa _)
      have hwr1 : IntKind.i64.wrap ((s : Int) + (f : Int)) = (s : Int) + (f : Int) := wrap_small (by omega) (by omega)
      have hwr2 : IntKind.i64.wrap ((s : Int) + (t : Int)) = (s : Int) + (t : Int) := wrap_small (by omega) (by omega)
      clear KEEP d1 d2 d3 hnb hown hown2 hlow hst1 hza
      go_region_held3 (fun w' => w'.cell? ⟨wo.heap.size, 0, none⟩ = some (.int .i64 (f : Nat)) ∧ w'.cell? ⟨wo.heap.size, 1, none⟩ = some (.int .i64 (t : Nat)) ∧ w'.cell? ⟨rb, o + 515 + c, none⟩ = some (.int .i64 (s : Nat))) (first | assumption | exact KA.out _ (BA.out _) | exact KA.out _ (BA2.out _)) ((rw [if_pos (by rfl)]; refine wp_append_lies _ (.tmp 16) (.tmp 36) 164 rfl w.heap.size 167 i0 (.agg #[.int .i64 0, .int .i64 0]) 2 16 Tryz.underlying164 hi hz0 hz1 hz2 rfl (by decide) (.slice a5 k p5) k (rgL acc) rfl OWNV.out ⟨wa.heap.size, 0, none⟩ 1 1 [.int .i64 ((s : Int) + (f : Int)), .int .i64 ((s : Int) + (t : Int))] rfl rfl NEWV.out (by intro u hu; simp at hu; rcases hu with rfl | rfl <;> rfl) (by omega) (by unfold maxLen; omega) (by omega) HBSV.out _ rfl ?_; intro g2 cap2 w5 hown5 hgrow5 hat5 hlt5; have hS5 := KGV.out _ hgrow5; have hB5 := KBV.out _ hgrow5))
      clear KA KB KG OWN BA BA2 HBS OWNV HBSV KGV KBV NEWV BV hgrow5 hat5 hS5 s0 bd0
      go_wp2
      exact ⟨⟨k + 1, by omega, by go_num, by rw [HST.out, rgL_app]; exact hown5, hB5⟩, by simp [intOf]; omega⟩
    · have hk' : k = rs.length := by omega
      subst hk'
      rw [List.take_length] at hown
      go_wp2
      go_ret
      exact ⟨_, rfl, hown, hBl⟩

end

end Go.Proofs.YtopihgmemnokkaaGreat

namespace Go.Proofs.YtopihgmemnokkaaGreat
open Go.RowKit

section
variable {base : Nat} {w : World} {rb o : Nat} {G : Nat → Nat × Nat} {r : Nat} {root : Value} {F : Nat → Prop} {n : Nat} {b : Nat → Nat} {fw : Nat}

/-- the places of ranges of rows -/
def plR (fw : Nat) (rs : List (Nat × Nat)) : List (Nat × Nat) := rs.map fun r => (Cc.ks fw r.1, Cc.ks fw r.2)
/-- numbers of a byte moved to its rows -/
def bgR (n : Nat) (b : Nat → Nat) (c : Nat) (rs : List (Nat × Nat)) : List (Nat × Nat) := rs.map fun r => (Wv.st n b c + r.1, Wv.st n b c + r.2)

/-- what comes of one byte's numbers -/
theorem Rws.one (h : Rws base w rb o G r root F n b fw) {c : Nat} (hc : c < 256) {rs rt : List (Nat × Nat)} (hu : Wv.Upto (n + 1) rs) (hp : Wv.Pos rt)
    (hf : Wv.flat rt = (if 0 < (G c).1 then Wv.sel (bl (G c)) (Wv.waysOf (fun c => bl (G c)) b n) (Wv.flat (plR fw rs)) else [])) :
    Wv.Pos (bgR n b c rt) ∧ Wv.flat (bgR n b c rt) = Wv.lgb n b fw c (Wv.flat rs) ∧ (∀ x ∈ rt, x.1 ≤ 1000000 ∧ x.2 ≤ 1000000) ∧ Wv.Full (n + 1) (bgR n b c rt) := by
  have hpl := Wv.upto_places fw hu h.fwle
  have hfp := Wv.flat_places fw hu h.fwle
  unfold plR at hf
  rw [h.sel hc hpl.lt] at hf
  have hlt : ∀ i ∈ Wv.flat rt, i < Cc.cn n fun j => decide (b j = c) := by
    intro i hi
    rw [hf] at hi
    obtain ⟨j, hj, rfl⟩ := List.mem_map.1 hi
    have h1 := List.mem_filter.1 hj
    exact Cc.cn_lt_bound (hpl.lt j h1.1) (by simpa using h1.2)
  have hfull := hp.full hlt
  have hcn := Wv.st_cnt (n := n) (b := b) c
  have hn := h.nle
  have hpos : Wv.Pos (bgR n b c rt) := fun x hx => by
    obtain ⟨y, hy, rfl⟩ := List.mem_map.1 hx
    have := hp y hy
    simp only; omega
  refine ⟨hpos, ?_, fun x hx => ?_, fun x hx => ?_⟩
  · unfold bgR
    rw [Wv.flat_map_add, hf, hfp]
    exact Wv.lgb_flat n b fw c (Wv.flat rs)
  · have := hfull x hx
    omega
  · obtain ⟨y, hy, rfl⟩ := List.mem_map.1 hx
    have := hfull y hy
    simp only; omega

set_option maxRecDepth 100000 in
set_option maxHeartbeats 2000000 in
theorem longerBy_any (h : Rws base w rb o G r root F n b fw) (c : Nat) (hc : c < 256) (v : Value) (rs : List (Nat × Nat)) (hr : RgAt w v rs) (hu : Wv.Upto (n + 1) rs) (hl : rs.length ≤ 1000000) :
    Calls Tryz.prog 143 #[.pointer (some ⟨rb, o, none⟩), .int .u8 (c : Nat), v] w fun e w' => (∃ v' rs', e = .returned v' ∧ RgAt w' v' rs' ∧ Wv.Full (n + 1) rs' ∧ Wv.flat rs' = Wv.lgb n b fw c (Wv.flat rs) ∧ rs'.length ≤ rs.length) ∧ Below w.heap.size w w' := by
  have L1 : Hid (∀ W, Below w.heap.size w W → Calls Tryz.prog 146 #[.pointer (some ⟨rb, o, none⟩), v] W fun e w' => ∃ v1, e = .returned v1 ∧ Below w.heap.size w w' ∧ RgAt w' v1 (plR fw rs) ∧ True) := fun W hW =>
    (places_any (h.below hW) v rs (hr.below hW) hu hl).mono fun e w' ⟨v1, he, ho, hb⟩ => ⟨v1, he, hW.trans (hb.mono hW.size), (RgAt.own ho).1, trivial⟩
  have hpl := Wv.upto_places fw hu h.fwle
  have L2 : Hid (∀ W v1, Below w.heap.size w W → RgAt W v1 (plR fw rs) → Calls Tryz.prog 167 #[.pointer (some ⟨rb, o, none⟩), .int .u8 (c : Nat), v1] W fun e w' => ∃ v2 r2, e = .returned v2 ∧ Below w.heap.size w w' ∧ RgAt w' v2 r2 ∧ (Wv.Pos r2 ∧ r2.length ≤ rs.length ∧ Wv.flat r2 = (if 0 < (G c).1 then Wv.sel (bl (G c)) (Wv.waysOf (fun c => bl (G c)) b n) (Wv.flat (plR fw rs)) else [])) ∧ True) := fun W v1 hW h1 =>
    (tamong_any base W rb o G _ r root F (h.tre.below hW) c hc v1 (plR fw rs) h1 (by rw [Wv.waysOf_len]; exact hpl) (by unfold plR; simpa using hl)).mono fun e w' ⟨⟨v2, r2, he, ha, hp, hll, hf⟩, hb⟩ => ⟨v2, r2, he, hW.trans (hb.mono hW.size), ha, ⟨hp, by unfold plR at hll; simpa using hll, hf⟩, trivial⟩
  have L3 : Hid (∀ W v2 r2, Below w.heap.size w W → RgAt W v2 r2 → (Wv.Pos r2 ∧ r2.length ≤ rs.length ∧ Wv.flat r2 = (if 0 < (G c).1 then Wv.sel (bl (G c)) (Wv.waysOf (fun c => bl (G c)) b n) (Wv.flat (plR fw rs)) else [])) → Calls Tryz.prog 147 #[.pointer (some ⟨rb, o, none⟩), .int .u8 (c : Nat), v2] W fun e w' => ∃ v3, e = .returned v3 ∧ Below w.heap.size w w' ∧ RgAt w' v3 (bgR n b c r2) ∧ True) := fun W v2 r2 hW h1 h2 =>
    (beginning_any (h.below hW) c hc v2 r2 h1 (h.one hc hu h2.1 h2.2.2).2.2.1 (by omega)).mono fun e w' ⟨v3, he, ho, hb⟩ => ⟨v3, he, hW.trans (hb.mono hW.size), (RgAt.own ho).1, trivial⟩
  have HH : Hid (Rws base w rb o G r root F n b fw) := h
  have HU : Hid (Wv.Upto (n + 1) rs) := hu
  have s0 : True := trivial
  have bd0 : Below w.heap.size w w.drew := bdrew (Below.refl _ _)
  obtain ⟨a, cp, rfl⟩ := hr.len
  clear h hr hu hpl
  go_enter Tryz.func143, Tryz.ntmps143
  go_wp2_with fail
  go_region_held3 (fun _ => True) (assumption) ((first
    | (go_at_call 146; refine (L1.out _ (by assumption)).mono ?_; rintro e w2 ⟨v1, rfl, hb2, hr2, hS2⟩)
    | (go_at_call 167; refine (L2.out _ _ (by assumption) (by assumption)).mono ?_; rintro e w3 ⟨v2, r2, rfl, hb3, hr3, hq3, hS3⟩)
    | (go_at_call 147; refine (L3.out _ _ _ (by assumption) (by assumption) (by assumption)).mono ?_; rintro e w4 ⟨v3, rfl, hb4, hr4, hS4⟩)))
  clear L1 L2 L3 s0 bd0
  have hone := HH.out.one hc HU.out hq3.1 hq3.2.2
  go_wp2
  go_ret
  exact ⟨⟨_, _, rfl, hr4, hone.2.2.2, hone.2.1, by unfold bgR; simpa using hq3.2.1⟩, hb4⟩

end

end Go.Proofs.YtopihgmemnokkaaGreat

