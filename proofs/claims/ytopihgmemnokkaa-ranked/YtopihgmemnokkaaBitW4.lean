import Derived.Test.YtopihgmemnokkaaBitW3
import Derived.Deep.RegionHeld
namespace Go.Proofs.Ytopihgmemnokkaa
open Go.RowKit

theorem Try.info80 : (Try.prog.info? 80).map (fun i => (i.zero, i.size, i.bytes)) = some (some (.int .u64 0), 1, 8) := by kernel_rfl

theorem back_own {w w' : World} {v : Value} {g : Nat} {G : Prop} (h : (v.ownBlock = some g ∧ w.grownBy w' (some g)) ∨ (G ∧ w.grownBy w' none)) : Kept (fun a => v.ownBlock = some a) w w' :=
  (Kept.refl _ w).grown (two_grown h) (fun _ hk _ => hk)

set_option maxRecDepth 100000 in
set_option maxHeartbeats 2000000 in
theorem layBit_new (base : Nat) (w : World) (b o : Nat) (pre post : List Value) (ho : pre.length = o) (ty : TypeId) (wv av : Value) (p : Nat → Bool) (n : Nat) (h : BitL base w b pre post ty wv av p n) (hn : n % 64 = 0) (hb : n ≤ 1099511627776) :
    Calls Try.prog 40 #[.pointer (some ⟨b, o, none⟩), .int .u64 ((p n).toNat : Nat)] w fun e w' => e = .returned (.tuple #[]) ∧ ∃ wv' av', BitL base w' b pre post ty wv' av' p (n + 1) ∧ Kept (bitP b wv av) w w' ∧
      (∀ k, bitP b wv' av' k → bitP b wv av k ∨ w.heap.size ≤ k) := by
  obtain ⟨i0, hi, hz0, hz1, hz2⟩ := info_parts Try.info80
  obtain ⟨j0, hj, hy0, hy1, hy2⟩ := info_parts Try.info3
  obtain ⟨q, hq⟩ : ∃ q, n / 64 = q := ⟨_, rfl⟩
  have hK : (n + 63) / 64 = q := by omega
  have hw := h.words
  have ha := h.ahead
  rw [hK] at hw ha
  obtain ⟨a0, p0, hwv⟩ := own_slice hw
  obtain ⟨a1, p1, hav⟩ := own_slice ha
  have hF := h.four
  have c0 := h.four.c0 ho
  have c2 := h.four.c2 ho
  have hri : (n : Int) % 64 = 0 := by omega
  have hcn := Cc.cn_le n p
  have hqb : q ≤ 17179869184 := by omega
  have hb1 : (p n).toNat ≤ 1 := Bool.toNat_le _
  have hbw : base ≤ w.heap.size := by have := h.low; have := hF.lt; omega
  have hf0 := hF.frozen o
  rw [hwv] at c0
  have Hwv : Hid (wv = Value.slice a0 q p0) := hwv
  have Hav : Hid (av = Value.slice a1 q p1) := hav
  have Hn : Hid (n % 64 = 0) := hn
  have Hq : Hid (n / 64 = q) := hq
  have Hri : Hid ((n : Int) % 64 = 0) := hri
  generalize hY : (p n).toNat = Y at *
  have hY' : Hid ((p n).toNat = Y) := hY
  clear hwv hav hn hq hK hY
  go_enter Try.func40, Try.ntmps40
  go_wp2_with (at_builtin; refine wpList_append_two _ rfl _ _ 56 rfl base 80 i0 (.int .u64 0) 8 Try.underlying56 hi hz0 hz1 hz2 rfl _ _ _ rfl (by first | exact Hwv.out ▸ (hw.alloc _)) ⟨w.heap.size, 0, none⟩ 1 (.int .u64 0) rfl ?c1 ?c2 ?c3 ?c4 ?c5 ?_)
  case c1 => exact cell_one_new _ _ _
  case c2 => rfl
  case c3 => unfold maxLen; omega
  case c4 => omega
  case c5 => simp; omega
  intro g cap w1 hown hg1 hd
  have k0 : Kept (fun a => wv.ownBlock = some a) (w.alloc (.cells #[.int .u64 0] 80)) w1 := by rw [Hwv.out]; exact back_own hd
  have k1 : Kept (fun a => wv.ownBlock = some a) w w1 := ((Kept.refl _ w).alloc _).trans k0
  have hF1 := hF.keep k1 (fun e => hF.ne hw h.t1 b e rfl)
  have ha1 := own_keep ha k1 (fun a h1 h2 => by
    rcases owns_ne hw ha (by decide) with h3 | h3
    · rw [h3] at h1; cases h1
    · exact h3 (h1.trans h2.symm))
  have hgat : (wv.ownBlock = some g ∨ w.heap.size ≤ g) := by
    rcases hd with ⟨h1, _⟩ | ⟨h1, _⟩
    · exact .inl (by rw [Hwv.out]; exact h1)
    · exact .inr (by omega)
  have e0 := hF1.c0 ho
  have e1 := hF1.frozen o
  clear hd k0 c0 c2 hf0
  go_wp2
  have hF2 := hF1.s0 ho (.slice (some ⟨g, 0, none⟩) (q + 1) cap)
  have k2 : Kept (fun a => a = b) w1 (w1.setCell ⟨b, o, none⟩ (.slice (some ⟨g, 0, none⟩) (q + 1) cap)) := (Kept.refl (fun a => a = b) w1).setCell (show (⟨b, o, none⟩ : Addr).block = b from rfl) _
  have hw2 := own_keep hown k2 (fun a h1 h2 => hF1.ne hown h.t1 a h1 h2)
  have ha2 := own_keep ha1 k2 (fun a h1 h2 => hF1.ne ha1 h.t2 a h1 h2)
  have hz2' : w.heap.size ≤ w1.heap.size := k1.size
  have hz2 : (w1.setCell ⟨b, o, none⟩ (.slice (some ⟨g, 0, none⟩) (q + 1) cap)).heap.size = w1.heap.size := by simp
  have k12 : Kept (bitP b wv av) w (w1.setCell ⟨b, o, none⟩ (.slice (some ⟨g, 0, none⟩) (q + 1) cap)) := (k1.mono (fun k _ h => .inr (.inl h))).trans' k2 (fun k _ h => .inl h)
  generalize hw2e : w1.setCell ⟨b, o, none⟩ (.slice (some ⟨g, 0, none⟩) (q + 1) cap) = w2 at *
  have Hz2 : Hid (w2.heap.size = w1.heap.size) := hz2
  clear hw2e k1 k2 hF1 e0 e1 hown ha1 hz2
  have s1 := hF2.c1 ho
  have s2 := hF2.c3 ho
  rw [Hav.out] at s1
  have hS0 : w2.drew.cell? ⟨b, o + 3, none⟩ = some (.int .i64 (Cc.cn n p : Nat)) := s2
  have k3 : Kept (fun _ => False) w2 (w2.alloc (.cells #[.int .i64 (Cc.cn n p : Nat)] 3)).drew := ((Kept.refl (fun _ => False) w2).alloc _).drew
  have hF3 := hF2.keep k3 (fun h => h)
  have hw3 := own_keep hw2 k3 (fun _ _ h => h)
  have ha3 := own_keep ha2 k3 (fun _ _ h => h)
  have t1 := hF3.c1 ho
  have t2 := hF3.c3 ho
  rw [Hav.out] at t1
  have k13 : Kept (bitP b wv av) w (w2.alloc (.cells #[.int .i64 (Cc.cn n p : Nat)] 3)).drew := k12.trans' k3 (fun _ _ h => h.elim)
  have Hz3 : Hid ((w2.alloc (.cells #[.int .i64 (Cc.cn n p : Nat)] 3)).drew.heap.size = w2.heap.size + 1) := by show _ = _; simp
  have hcn1 : ∀ j x, [Value.int .i64 (Cc.cn n p : Nat)][j]? = some x → (w2.alloc (.cells #[.int .i64 (Cc.cn n p : Nat)] 3)).drew.cell? ((⟨w2.heap.size, 0, none⟩ : Addr).add j) = some x := cell_one_new w2 _ _
  refine wp_region_held_drew (S := fun w' => w'.cell? ⟨b, o + 3, none⟩ = some (.int .i64 (Cc.cn n p : Nat))) (by kernel_rfl) hS0 (fun _ => ?_)
  refine wpAnyH_take (i := 0) (v := ?v0) rfl (by kernel_rfl) (by kernel_rfl) (by kernel_rfl) (fun _ _ _ h => h) (Or.inl ⟨by rfl, ?h0⟩) hS0 ?_
  case h0 => intro wq hS; go_simp; with_reducible rfl
  refine wpAnyH_take (i := 1) (v := ?v1) rfl (by kernel_rfl) (by kernel_rfl) (by kernel_rfl) (fun _ _ _ h => h) (Or.inl ⟨by rfl, ?h1⟩) hS0 ?_
  case h1 => intro wq hS; go_simp; with_reducible rfl
  refine wpAnyH_take (i := 2) (v := ?v2) rfl (by kernel_rfl) (by kernel_rfl) (by kernel_rfl) (fun _ _ _ h => h) (Or.inl ⟨by rfl, ?h2⟩) hS0 ?_
  case h2 => intro wq hS; go_simp; with_reducible rfl
  refine wpAnyH_take (i := 3) (v := ?v3) rfl (by kernel_rfl) (by kernel_rfl) (by kernel_rfl) (fun _ _ _ h => h) (Or.inl ⟨by rfl, ?h3⟩) hS0 ?_
  case h3 => intro wq hS; go_simp; with_reducible rfl
  refine wpAnyH_take (i := 5) (v := ?v5) rfl (by kernel_rfl) (by kernel_rfl) (by kernel_rfl) (fun _ _ _ h => h) (Or.inl ⟨by rfl, ?h5⟩) hS0 ?_
  case h5 => intro wq hS; go_simp; with_reducible rfl
  refine wpAnyH_take (i := 6) (v := ?v6) rfl (by kernel_rfl) (by kernel_rfl) (by kernel_rfl) (fun _ _ _ h => h) (Or.inl ⟨by rfl, ?h6⟩) hS0 ?_
  case h6 => intro wq hS; go_simp; with_reducible rfl
  refine wpAnyH_take (i := 7) (v := ?v7) rfl (by kernel_rfl) (by kernel_rfl) (by kernel_rfl) (fun _ _ _ h => h) (Or.inl ⟨by rfl, ?h7⟩) hS0 ?_
  case h7 => intro wq hS; go_simp; with_reducible rfl
  refine wpAnyH_take (i := 8) (v := ?v8) rfl (by kernel_rfl) (by kernel_rfl) (by kernel_rfl) (fun _ _ _ h => h) (Or.inl ⟨by rfl, ?h8⟩) hS0 ?_
  case h8 => intro wq hS; go_simp; with_reducible rfl
  refine wpAnyH_ready (rs := [4, 9]) (by kernel_rfl) (by simp) ?_
  refine AllReadyH.cons rfl (fun K hK => ?_) (AllReadyH.cons rfl (fun K hK => ?_) AllReadyH.nil)
  focus
    go_simp
    refine hK.out _ _ hS0 (fun _ => ?_)
    clear hK K
    refine wpAnyH_ready (rs := [9]) (by kernel_rfl) (by simp) ?_
    refine AllReadyH.cons rfl (fun K hK => ?_) AllReadyH.nil
    go_simp
    refine hK.out _ _ t2 (fun _ => ?_)
  rotate_left
  focus
    go_simp
    refine hK.out _ _ t2 (fun _ => ?_)
    clear hK K
    refine wpAnyH_ready (rs := [4]) (by kernel_rfl) (by simp) ?_
    refine AllReadyH.cons rfl (fun K hK => ?_) AllReadyH.nil
    go_simp
    refine hK.out _ _ t2 (fun _ => ?_)
  all_goals
    clear hK K
    generalize (w2.alloc (.cells #[.int .i64 (Cc.cn n p : Nat)] 3)).drew = w3 at *
    refine wpAnyH_ready (rs := [10]) (by kernel_rfl) (by simp) ?_
    refine AllReadyH.cons rfl (fun K hK => ?_) AllReadyH.nil
    rw [if_pos (by rfl)]
    refine wp_append_two w3 (.tmp 25) (.tmp 30) 23 rfl base 3 j0 (.int .i64 0) 8 Try.underlying23 hj hy0 hy1 hy2 rfl (.slice a1 q p1) q (aheadL p n) rfl (by rw [← Hav.out]; exact ha3) ⟨w2.heap.size, 0, none⟩ 1 (.int .i64 (Cc.cn n p : Nat)) rfl hcn1 rfl (by unfold maxLen; omega) (by omega) (by have := k13.size; omega) ?_
    intro g2 cap2 w4 hown4 hg4 hd4
    have k4 : Kept (fun a => av.ownBlock = some a) w3 w4 := by rw [Hav.out]; exact back_own hd4
    have hF4 := hF3.keep k4 (fun e => hF3.ne ha3 h.t2 b e rfl)
    have hw4 := own_keep hw3 k4 (fun a h1 h2 => by
      rcases owns_ne ha3 hw3 (by decide) with h3 | h3
      · rw [h3] at h1; cases h1
      · exact h3 (h1.trans h2.symm))
    have hgat2 : (av.ownBlock = some g2 ∨ w.heap.size ≤ g2) := by
      rcases hd4 with ⟨h1, _⟩ | ⟨h1, _⟩
      · exact .inl (by rw [Hav.out]; exact h1)
      · exact .inr (by have := k13.size; omega)
    have k14 : Kept (bitP b wv av) w w4 := k13.trans' k4 (fun _ _ h => .inr (.inr h))
    have t3 := hF4.c1 ho
    have t4 := hF4.c3 ho
    have t5 := hF4.frozen (o + 1)
    rw [Hav.out] at t3
    refine hK.out _ _ t4 (fun _ => ?_)
    clear hK K hd4 k3 k12 hcn1 hS0 s1 s2 t1 t2 hF2 hw2 ha2
    refine wpAnyH_take (i := 11) (v := ?v11) rfl (by kernel_rfl) (by kernel_rfl) (by kernel_rfl) (fun _ _ _ h => h) (Or.inl ⟨by rfl, ?h11⟩) t4 ?_
    case h11 => intro wq hS; first | (go_simp; done) | (go_simp; with_reducible rfl)
    refine wpAnyH_take (i := 12) (v := ?v12) rfl (by kernel_rfl) (by kernel_rfl) (by kernel_rfl) (fun _ _ _ h => h) (Or.inl ⟨by rfl, ?h12⟩) t4 ?_
    case h12 => intro wq hS; first | (go_simp; done) | (go_simp; with_reducible rfl)
    refine wpAnyH_ready (rs := [13]) (by kernel_rfl) (by simp) ?_
    refine AllReadyH.cons rfl (fun K hK => ?_) AllReadyH.nil
    go_simp
    have hF5 := hF4.s1 ho (.slice (some ⟨g2, 0, none⟩) (q + 1) cap2)
    have k5 : Kept (fun a => a = b) w4 (w4.setCell ⟨b, o + 1, none⟩ (.slice (some ⟨g2, 0, none⟩) (q + 1) cap2)) := (Kept.refl (fun a => a = b) w4).setCell (show (⟨b, o + 1, none⟩ : Addr).block = b from rfl) _
    have hw5 := own_keep hw4 k5 (fun a h1 h2 => hF4.ne hw4 h.t1 a h1 h2)
    have ha5 := own_keep hown4 k5 (fun a h1 h2 => hF4.ne hown4 h.t2 a h1 h2)
    have k15 := k14.trans' k5 (fun _ _ h => .inl h)
    refine hK.out _ _ (hF5.c3 ho) (fun _ => ?_)
    clear hK K k5 t3 t4 t5 hF4 hw4 hown4 k4 k14 k13
    generalize w4.setCell ⟨b, o + 1, none⟩ (.slice (some ⟨g2, 0, none⟩) (q + 1) cap2) = w5 at *
    refine wpAnyH_done (by kernel_rfl) ?_ _
    have c0 := hF5.c0 ho
    have c2 := hF5.c2 ho
    have c3 := hF5.c3 ho
    have f0 := hF5.frozen (o + 2)
    have f1 := hF5.frozen (o + 3)
    have d1 : w5.cell? ⟨g, q, none⟩ = some (.int .u64 0) := own_cell hw5 (by
      have e1 : (wordsL p n).length = q := by unfold wordsL; have := Hq.out; have := Hn.out; simp; omega
      rw [List.getElem?_append_right (by omega), e1, Nat.sub_self]; rfl)
    have d2 := own_frozen hw5 q
    have hne : b ≠ g := fun e => hF5.ne hw5 h.t1 g rfl e.symm
    go_wp2
    go_region
    all_goals go_wp2
    go_end0
    have hfin := lay_end (base := base) (W := w5) (b := b) (o := o) (xs := wordsL p n ++ [Value.int .u64 0]) (X := 0) (Y := Y) ho (n := n) (q := q) (r := 0) (by have := Hq.out; have := Hn.out; omega) (by omega) hF5 hw5
      (by rw [aheadL_new p Hn.out] at ha5; exact ha5) h.low h.t1 h.t2 (Bm.wordAt_zero _) hY'.out (fun v hv => wordsL_new p Hn.out v hv)
    have ew : IntKind.u64.wrap ((Y : Int) * 2 ^ (63 - 0)) = (Y : Int) * 9223372036854775808 := by
      rw [IntKind.wrap_u64, show ((2 : Int) ^ (63 - 0)) = 9223372036854775808 from rfl]; omega
    rw [ew] at hfin
    have hat : ∀ k, bitP b (.slice (some ⟨g, 0, none⟩) (q + 1) cap) (.slice (some ⟨g2, 0, none⟩) (q + 1) cap2) k → bitP b wv av k ∨ w.heap.size ≤ k := by
      rintro k (h1 | h1 | h1)
      · exact .inl (.inl h1)
      · have e : g = k := by simpa [Value.ownBlock] using h1
        subst e
        exact hgat.imp (fun h => .inr (.inl h)) id
      · have e : g2 = k := by simpa [Value.ownBlock] using h1
        subst e
        exact hgat2.imp (fun h => .inr (.inr h)) id
    exact ⟨rfl, _, _, hfin.1, k15.trans' hfin.2 (fun i hi hp => (hat i hp).elim id (fun h => by omega)), hat⟩

theorem layBit_any (base : Nat) (w : World) (b o : Nat) (pre post : List Value) (ho : pre.length = o) (ty : TypeId) (wv av : Value) (p : Nat → Bool) (n : Nat) (h : BitL base w b pre post ty wv av p n) (hb : n ≤ 1099511627776) :
    Calls Try.prog 40 #[.pointer (some ⟨b, o, none⟩), .int .u64 ((p n).toNat : Nat)] w fun e w' => e = .returned (.tuple #[]) ∧ ∃ wv' av', BitL base w' b pre post ty wv' av' p (n + 1) ∧ Kept (bitP b wv av) w w' ∧
      (∀ k, bitP b wv' av' k → bitP b wv av k ∨ w.heap.size ≤ k) := by
  by_cases hn : n % 64 = 0
  · exact layBit_new base w b o pre post ho ty wv av p n h hn hb
  · refine (layBit_in base w b o pre post ho ty wv av p n h hn hb).mono ?_
    rintro e w' ⟨rfl, h1, h2⟩
    exact ⟨rfl, wv, av, h1, h2, fun k hk => .inl hk⟩

end Go.Proofs.Ytopihgmemnokkaa
