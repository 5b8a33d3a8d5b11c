import Derived.Test.YtopihgmemnokkaaGreatBitW3K
import Derived.Deep.RegionHeld
import Derived.Test.YtopihgmemnokkaaGreatWvK
namespace Go.Proofs.YtopihgmemnokkaaGreat
open Go.RowKit
theorem Tryz.info112 : (Tryz.prog.info? 112).map (fun i => (i.zero, i.size, i.bytes)) = some (some (.int .u64 0), 1, 8) := by kernel_rfl
theorem back_own {w w' : World} {v : Value} {g : Nat} {G : Prop} (h : (v.ownBlock = some g ∧ w.grownBy w' (some g)) ∨ (G ∧ w.grownBy w' none)) : Kept (fun a => v.ownBlock = some a) w w' :=
  (Kept.refl _ w).grown (two_grown h) (fun _ hk _ => hk)
set_option maxRecDepth 100000 in
set_option maxHeartbeats 2000000 in
theorem layBit_new (base : Nat) (w : World) (b o : Nat) (pre post : List Value) (ho : pre.length = o) (ty : TypeId) (wv av : Value) (p : Nat → Bool) (n : Nat) (h : BitL base w b pre post ty wv av p n) (hn : n % 64 = 0) (hb : n ≤ 1099511627776) :
    Calls Tryz.prog 124 #[.pointer (some ⟨b, o, none⟩), .int .u64 ((p n).toNat : Nat)] w fun e w' => e = .returned (.tuple #[]) ∧ ∃ wv' av', BitL base w' b pre post ty wv' av' p (n + 1) ∧ Kept (bitP b wv av) w w' ∧
      (∀ k, bitP b wv' av' k → bitP b wv av k ∨ w.heap.size ≤ k) := by
  obtain ⟨i0, hi, hz0, hz1, hz2⟩ := info_parts Tryz.info112
  obtain ⟨j0, hj, hy0, hy1, hy2⟩ := info_parts Tryz.info3
  obtain ⟨q, hq⟩ : ∃ q, n / 64 = q := ⟨_, rfl⟩
  have hK : (n + 63) / 64 = q := by omega
  have hw := h.words
  have ha := h.ahead
  rw [hK] at hw ha
  obtain ⟨a0, p0, hwv⟩ := own_slice hw
  obtain ⟨a1, p1, hav⟩ := own_slice ha
  have hF := h.four
  have c0 := h.four.c0 ho
  have c2 := h.four.c2 ho
  have hri : (n : Int) % 64 = 0 := by omega
  have hcn := Cc.cn_le n p
  have hqb : q ≤ 17179869184 := by omega
  have hb1 : (p n).toNat ≤ 1 := Bool.toNat_le _
  have hbw : base ≤ w.heap.size := by have := h.low; have := hF.lt; omega
  have hf0 := hF.frozen o
  rw [hwv] at c0
  have Hwv : Hid (wv = Value.slice a0 q p0) := hwv
  have Hav : Hid (av = Value.slice a1 q p1) := hav
  have Hn : Hid (n % 64 = 0) := hn
  have Hq : Hid (n / 64 = q) := hq
  have Hri : Hid ((n : Int) % 64 = 0) := hri
  generalize hY : (p n).toNat = Y at *
  have hY' : Hid ((p n).toNat = Y) := hY
  clear hwv hav hn hq hK hY
  go_enter Tryz.func124, Tryz.ntmps124
  go_wp2_with (at_builtin; refine wpList_append_two _ rfl _ _ 123 rfl base 112 i0 (.int .u64 0) 8 Tryz.underlying123 hi hz0 hz1 hz2 rfl _ _ _ rfl (by first | exact Hwv.out ▸ (hw.alloc _)) ⟨w.heap.size, 0, none⟩ 1 (.int .u64 0) rfl ?c1 ?c2 ?c3 ?c4 ?c5 ?_)
  case c1 => exact cell_one_new _ _ _
  case c2 => rfl
  case c3 => unfold maxLen; omega
  case c4 => omega
  case c5 => simp; omega
  intro g cap w1 hown hg1 hd
  have k0 : Kept (fun a => wv.ownBlock = some a) (w.alloc (.cells #[.int .u64 0] 112)) w1 := by rw [Hwv.out]; exact back_own hd
  have k1 : Kept (fun a => wv.ownBlock = some a) w w1 := ((Kept.refl _ w).alloc _).trans k0
  have hF1 := hF.keep k1 (fun e => hF.ne hw h.t1 b e rfl)
  have ha1 := own_keep ha k1 (fun a h1 h2 => by
    rcases owns_ne hw ha (by decide) with h3 | h3
    · rw [h3] at h1; cases h1
    · exact h3 (h1.trans h2.symm))
  have hgat : (wv.ownBlock = some g ∨ w.heap.size ≤ g) := by
    rcases hd with ⟨h1, _⟩ | ⟨h1, _⟩
    · exact .inl (by rw [Hwv.out]; exact h1)
    · exact .inr (by omega)
  have e0 := hF1.c0 ho
  have e1 := hF1.frozen o
  clear hd k0 c0 c2 hf0
  go_wp2
  have hF2 := hF1.s0 ho (.slice (some ⟨g, 0, none⟩) (q + 1) cap)
  have k2 : Kept (fun a => a = b) w1 (w1.setCell ⟨b, o, none⟩ (.slice (some ⟨g, 0, none⟩) (q + 1) cap)) := (Kept.refl (fun a => a = b) w1).setCell (show (⟨b, o, none⟩ : Addr).block = b from rfl) _
  have hw2 := own_keep hown k2 (fun a h1 h2 => hF1.ne hown h.t1 a h1 h2)
  have ha2 := own_keep ha1 k2 (fun a h1 h2 => hF1.ne ha1 h.t2 a h1 h2)
  have hz2' : w.heap.size ≤ w1.heap.size := k1.size
  have hz2 : (w1.setCell ⟨b, o, none⟩ (.slice (some ⟨g, 0, none⟩) (q + 1) cap)).heap.size = w1.heap.size := by simp
  have k12 : Kept (bitP b wv av) w (w1.setCell ⟨b, o, none⟩ (.slice (some ⟨g, 0, none⟩) (q + 1) cap)) := (k1.mono (fun k _ h => .inr (.inl h))).trans' k2 (fun k _ h => .inl h)
  generalize hw2e : w1.setCell ⟨b, o, none⟩ (.slice (some ⟨g, 0, none⟩) (q + 1) cap) = w2 at *
  have Hz2 : Hid (w2.heap.size = w1.heap.size) := hz2
  clear hw2e k1 k2 hF1 e0 e1 hown ha1 hz2
  have s1 := hF2.c1 ho
  have s2 := hF2.c3 ho
  rw [Hav.out] at s1
  have hS0 : w2.drew.cell? ⟨b, o + 3, none⟩ = some (.int .i64 (Cc.cn n p : Nat)) := s2
  have k3 : Kept (fun _ => False) w2 (w2.alloc (.cells #[.int .i64 (Cc.cn n p : Nat)] 3)).drew := ((Kept.refl (fun _ => False) w2).alloc _).drew
  have hF3 := hF2.keep k3 (fun h => h)
  have hw3 := own_keep hw2 k3 (fun _ _ h => h)
  have ha3 := own_keep ha2 k3 (fun _ _ h => h)
  have t1 := hF3.c1 ho
  have t2 := hF3.c3 ho
  rw [Hav.out] at t1
  have k13 : Kept (bitP b wv av) w (w2.alloc (.cells #[.int .i64 (Cc.cn n p : Nat)] 3)).drew := k12.trans' k3 (fun _ _ h => h.elim)
  have Hz3 : Hid ((w2.alloc (.cells #[.int .i64 (Cc.cn n p : Nat)] 3)).drew.heap.size = w2.heap.size + 1) := by show _ = _; simp
  have hcn1 : ∀ j x, [Value.int .i64 (Cc.cn n p : Nat)][j]? = some x → (w2.alloc (.cells #[.int .i64 (Cc.cn n p : Nat)] 3)).drew.cell? ((⟨w2.heap.size, 0, none⟩ : Addr).add j) = some x := cell_one_new w2 _ _
  refine wp_region_held_drew (S := fun w' => w'.cell? ⟨b, o + 3, none⟩ = some (.int .i64 (Cc.cn n p : Nat))) (by kernel_rfl) hS0 (fun _ => ?_)
  refine wpAnyH_take (i := 0) (v := ?v0) rfl (by kernel_rfl) (by kernel_rfl) (by kernel_rfl) (fun _ _ _ h => h) (Or.inl ⟨by rfl, ?h0⟩) hS0 ?_
  case h0 => intro wq hS; go_simp; with_reducible rfl
  refine wpAnyH_take (i := 1) (v := ?v1) rfl (by kernel_rfl) (by kernel_rfl) (by kernel_rfl) (fun _ _ _ h => h) (Or.inl ⟨by rfl, ?h1⟩) hS0 ?_
  case h1 => intro wq hS; go_simp; with_reducible rfl
  refine wpAnyH_take (i := 2) (v := ?v2) rfl (by kernel_rfl) (by kernel_rfl) (by kernel_rfl) (fun _ _ _ h => h) (Or.inl ⟨by rfl, ?h2⟩) hS0 ?_
  case h2 => intro wq hS; go_simp; with_reducible rfl
  refine wpAnyH_take (i := 3) (v := ?v3) rfl (by kernel_rfl) (by kernel_rfl) (by kernel_rfl) (fun _ _ _ h => h) (Or.inl ⟨by rfl, ?h3⟩) hS0 ?_
  case h3 => intro wq hS; go_simp; with_reducible rfl
  refine wpAnyH_take (i := 5) (v := ?v5) rfl (by kernel_rfl) (by kernel_rfl) (by kernel_rfl) (fun _ _ _ h => h) (Or.inl ⟨by rfl, ?h5⟩) hS0 ?_
  case h5 => intro wq hS; go_simp; with_reducible rfl
  refine wpAnyH_take (i := 6) (v := ?v6) rfl (by kernel_rfl) (by kernel_rfl) (by kernel_rfl) (fun _ _ _ h => h) (Or.inl ⟨by rfl, ?h6⟩) hS0 ?_
  case h6 => intro wq hS; go_simp; with_reducible rfl
  refine wpAnyH_take (i := 7) (v := ?v7) rfl (by kernel_rfl) (by kernel_rfl) (by kernel_rfl) (fun _ _ _ h => h) (Or.inl ⟨by rfl, ?h7⟩) hS0 ?_
  case h7 => intro wq hS; go_simp; with_reducible rfl
  refine wpAnyH_take (i := 8) (v := ?v8) rfl (by kernel_rfl) (by kernel_rfl) (by kernel_rfl) (fun _ _ _ h => h) (Or.inl ⟨by rfl, ?h8⟩) hS0 ?_
  case h8 => intro wq hS; go_simp; with_reducible rfl
  refine wpAnyH_ready (rs := [4, 9]) (by kernel_rfl) (by simp) ?_
  refine AllReadyH.cons rfl (fun K hK => ?_) (AllReadyH.cons rfl (fun K hK => ?_) AllReadyH.nil)
  focus
    go_simp
    refine hK.out _ _ hS0 (fun _ => ?_)
    clear hK K
    refine wpAnyH_ready (rs := [9]) (by kernel_rfl) (by simp) ?_
    refine AllReadyH.cons rfl (fun K hK => ?_) AllReadyH.nil
    go_simp
    refine hK.out _ _ t2 (fun _ => ?_)
  rotate_left
  focus
    go_simp
    refine hK.out _ _ t2 (fun _ => ?_)
    clear hK K
    refine wpAnyH_ready (rs := [4]) (by kernel_rfl) (by simp) ?_
    refine AllReadyH.cons rfl (fun K hK => ?_) AllReadyH.nil
    go_simp
    refine hK.out _ _ t2 (fun _ => ?_)
  all_goals
    clear hK K
    generalize (w2.alloc (.cells #[.int .i64 (Cc.cn n p : Nat)] 3)).drew = w3 at *
    refine wpAnyH_ready (rs := [10]) (by kernel_rfl) (by simp) ?_
    refine AllReadyH.cons rfl (fun K hK => ?_) AllReadyH.nil
    rw [if_pos (by rfl)]
    refine wp_append_two w3 (.tmp 25) (.tmp 30) 30 rfl base 3 j0 (.int .i64 0) 8 Tryz.underlying30 hj hy0 hy1 hy2 rfl (.slice a1 q p1) q (aheadL p n) rfl (by rw [← Hav.out]; exact ha3) ⟨w2.heap.size, 0, none⟩ 1 (.int .i64 (Cc.cn n p : Nat)) rfl hcn1 rfl (by unfold maxLen; omega) (by omega) (by have := k13.size; omega) ?_
    intro g2 cap2 w4 hown4 hg4 hd4
    have k4 : Kept (fun a => av.ownBlock = some a) w3 w4 := by rw [Hav.out]; exact back_own hd4
    have hF4 := hF3.keep k4 (fun e => hF3.ne ha3 h.t2 b e rfl)
    have hw4 := own_keep hw3 k4 (fun a h1 h2 => by
      rcases owns_ne ha3 hw3 (by decide) with h3 | h3
      · rw [h3] at h1; cases h1
      · exact h3 (h1.trans h2.symm))
    have hgat2 : (av.ownBlock = some g2 ∨ w.heap.size ≤ g2) := by
      rcases hd4 with ⟨h1, _⟩ | ⟨h1, _⟩
      · exact .inl (by rw [Hav.out]; exact h1)
      · exact .inr (by have := k13.size; omega)
    have k14 : Kept (bitP b wv av) w w4 := k13.trans' k4 (fun _ _ h => .inr (.inr h))
    have t3 := hF4.c1 ho
    have t4 := hF4.c3 ho
    have t5 := hF4.frozen (o + 1)
    rw [Hav.out] at t3
    refine hK.out _ _ t4 (fun _ => ?_)
    clear hK K hd4 k3 k12 hcn1 hS0 s1 s2 t1 t2 hF2 hw2 ha2
    refine wpAnyH_take (i := 11) (v := ?v11) rfl (by kernel_rfl) (by kernel_rfl) (by kernel_rfl) (fun _ _ _ h => h) (Or.inl ⟨by rfl, ?h11⟩) t4 ?_
    case h11 => intro wq hS; first | (go_simp; done) | (go_simp; with_reducible rfl)
    refine wpAnyH_take (i := 12) (v := ?v12) rfl (by kernel_rfl) (by kernel_rfl) (by kernel_rfl) (fun _ _ _ h => h) (Or.inl ⟨by rfl, ?h12⟩) t4 ?_
    case h12 => intro wq hS; first | (go_simp; done) | (go_simp; with_reducible rfl)
    refine wpAnyH_ready (rs := [13]) (by kernel_rfl) (by simp) ?_
    refine AllReadyH.cons rfl (fun K hK => ?_) AllReadyH.nil
    go_simp
    have hF5 := hF4.s1 ho (.slice (some ⟨g2, 0, none⟩) (q + 1) cap2)
    have k5 : Kept (fun a => a = b) w4 (w4.setCell ⟨b, o + 1, none⟩ (.slice (some ⟨g2, 0, none⟩) (q + 1) cap2)) := (Kept.refl (fun a => a = b) w4).setCell (show (⟨b, o + 1, none⟩ : Addr).block = b from rfl) _
    have hw5 := own_keep hw4 k5 (fun a h1 h2 => hF4.ne hw4 h.t1 a h1 h2)
    have ha5 := own_keep hown4 k5 (fun a h1 h2 => hF4.ne hown4 h.t2 a h1 h2)
    have k15 := k14.trans' k5 (fun _ _ h => .inl h)
    refine hK.out _ _ (hF5.c3 ho) (fun _ => ?_)
    clear hK K k5 t3 t4 t5 hF4 hw4 hown4 k4 k14 k13
    generalize w4.setCell ⟨b, o + 1, none⟩ (.slice (some ⟨g2, 0, none⟩) (q + 1) cap2) = w5 at *
    refine wpAnyH_done (by kernel_rfl) ?_ _
    have c0 := hF5.c0 ho
    have c2 := hF5.c2 ho
    have c3 := hF5.c3 ho
    have f0 := hF5.frozen (o + 2)
    have f1 := hF5.frozen (o + 3)
    have d1 : w5.cell? ⟨g, q, none⟩ = some (.int .u64 0) := own_cell hw5 (by
      have e1 : (wordsL p n).length = q := by unfold wordsL; have := Hq.out; have := Hn.out; simp; omega
      rw [List.getElem?_append_right (by omega), e1, Nat.sub_self]; rfl)
    have d2 := own_frozen hw5 q
    have hne : b ≠ g := fun e => hF5.ne hw5 h.t1 g rfl e.symm
    go_wp2
    go_region
    all_goals go_wp2
    go_end0
    have hfin := lay_end (base := base) (W := w5) (b := b) (o := o) (xs := wordsL p n ++ [Value.int .u64 0]) (X := 0) (Y := Y) ho (n := n) (q := q) (r := 0) (by have := Hq.out; have := Hn.out; omega) (by omega) hF5 hw5
      (by rw [aheadL_new p Hn.out] at ha5; exact ha5) h.low h.t1 h.t2 (Bm.wordAt_zero _) hY'.out (fun v hv => wordsL_new p Hn.out v hv)
    have ew : IntKind.u64.wrap ((Y : Int) * 2 ^ (63 - 0)) = (Y : Int) * 9223372036854775808 := by
      rw [IntKind.wrap_u64, show ((2 : Int) ^ (63 - 0)) = 9223372036854775808 from rfl]; omega
    rw [ew] at hfin
    have hat : ∀ k, bitP b (.slice (some ⟨g, 0, none⟩) (q + 1) cap) (.slice (some ⟨g2, 0, none⟩) (q + 1) cap2) k → bitP b wv av k ∨ w.heap.size ≤ k := by
      rintro k (h1 | h1 | h1)
      · exact .inl (.inl h1)
      · have e : g = k := by simpa [Value.ownBlock] using h1
        subst e
        exact hgat.imp (fun h => .inr (.inl h)) id
      · have e : g2 = k := by simpa [Value.ownBlock] using h1
        subst e
        exact hgat2.imp (fun h => .inr (.inr h)) id
    exact ⟨rfl, _, _, hfin.1, k15.trans' hfin.2 (fun i hi hp => (hat i hp).elim id (fun h => by omega)), hat⟩
theorem layBit_any (base : Nat) (w : World) (b o : Nat) (pre post : List Value) (ho : pre.length = o) (ty : TypeId) (wv av : Value) (p : Nat → Bool) (n : Nat) (h : BitL base w b pre post ty wv av p n) (hb : n ≤ 1099511627776) :
    Calls Tryz.prog 124 #[.pointer (some ⟨b, o, none⟩), .int .u64 ((p n).toNat : Nat)] w fun e w' => e = .returned (.tuple #[]) ∧ ∃ wv' av', BitL base w' b pre post ty wv' av' p (n + 1) ∧ Kept (bitP b wv av) w w' ∧
      (∀ k, bitP b wv' av' k → bitP b wv av k ∨ w.heap.size ≤ k) := by
  by_cases hn : n % 64 = 0
  · exact layBit_new base w b o pre post ho ty wv av p n h hn hb
  · refine (layBit_in base w b o pre post ho ty wv av p n h hn hb).mono ?_
    rintro e w' ⟨rfl, h1, h2⟩
    exact ⟨rfl, wv, av, h1, h2, fun k hk => .inl hk⟩
end Go.Proofs.YtopihgmemnokkaaGreat
namespace Go.Proofs.YtopihgmemnokkaaGreat
open Go.RowKit
def rsum (rs : List (Nat × Nat)) : Nat := (rs.map Prod.fst).sum
theorem rsum_take (rs : List (Nat × Nat)) {k : Nat} {x : Nat × Nat} (h : rs[k]? = some x) : rsum (rs.take (k + 1)) = rsum (rs.take k) + x.1 := by
  unfold rsum
  have hk := (List.getElem?_eq_some_iff.1 h).1
  have hx := (List.getElem?_eq_some_iff.1 h).2
  rw [List.take_succ_eq_append_getElem hk, hx]
  simp
theorem rsum_le (rs : List (Nat × Nat)) (k : Nat) : rsum (rs.take k) ≤ rsum rs := by
  unfold rsum
  rw [List.map_take]
  have := List.sum_append (l₁ := (rs.map Prod.fst).take k) (l₂ := (rs.map Prod.fst).drop k)
  rw [List.take_append_drop] at this
  omega
def Runs (w : World) (g : Nat) (rs : List (Nat × Nat)) : Prop := ∀ k x, rs[k]? = some x → w.cell? ⟨g, k * 2, none⟩ = some (.int .i64 (x.1 : Nat)) ∧ w.cell? ⟨g, k * 2 + 1, none⟩ = some (.int .u64 (x.2 : Nat))
def Spells (p : Nat → Bool) (n : Nat) (rs : List (Nat × Nat)) : Prop :=
  ∀ k x, rs[k]? = some x → x.1 ≤ 64 ∧ x.2 < 18446744073709551616 ∧ ∀ i, i < x.1 → (p (n + rsum (rs.take k) + i)).toNat = x.2 / 2 ^ (x.1 - 1 - i) % 2
theorem cell_keep {P : Nat → Prop} {w w' : World} (h : Kept P w w') {a : Addr} {v : Value} (hc : w.cell? a = some v) (hn : ¬ P a.block) : w'.cell? a = some v := by
  have hb := World.block_lt_of_cell? _ _ hc
  unfold World.cell? at *
  rw [h.block a.block hb hn]; exact hc
set_option maxRecDepth 100000 in
set_option maxHeartbeats 2000000 in
theorem lay_any (base : Nat) (w : World) (b o : Nat) (pre post : List Value) (ho : pre.length = o) (ty : TypeId) (wv av : Value) (p : Nat → Bool) (n g cap : Nat) (rs : List (Nat × Nat)) (h : BitL base w b pre post ty wv av p n)
    (hr : Runs w g rs) (hs : Spells p n rs) (hg : ¬ bitP b wv av g) (hb : n + rsum rs ≤ 1099511627776) (hl : rs.length ≤ 1099511627776) :
    Calls Tryz.prog 86 #[.pointer (some ⟨b, o, none⟩), .slice (some ⟨g, 0, none⟩) rs.length cap] w fun e w' => e = .returned (.tuple #[]) ∧ ∃ wv' av', BitL base w' b pre post ty wv' av' p (n + rsum rs) ∧ Kept (bitP b wv av) w w' ∧
      (∀ k, bitP b wv' av' k → bitP b wv av k ∨ w.heap.size ≤ k) := by
  go_enter Tryz.func86, Tryz.ntmps86
  go_wp2
  go_loopw [5, 6, 9] (fun _ _ i wr => ∃ (k : Nat) (wv' av' : Value), k ≤ rs.length ∧ i = .int .i64 k ∧ BitL base wr b pre post ty wv' av' p (n + rsum (rs.take k)) ∧ Kept (bitP b wv av) w wr ∧
      (∀ k, bitP b wv' av' k → bitP b wv av k ∨ w.heap.size ≤ k)) (fun _ _ i _ => rs.length - (intOf i).toNat)
  case atStart => exact ⟨0, wv, av, by omega, rfl, by simpa [rsum] using h, Kept.refl _ _, fun k hk => .inl hk⟩
  case round =>
    obtain ⟨k, wv1, av1, hk, rfl, hL, hK, hat⟩ := hrel
    rename World => wo
    by_cases hlt : k < rs.length
    · obtain ⟨⟨z, t⟩, hx⟩ : ∃ x, rs[k]? = some x := ⟨_, List.getElem?_eq_getElem hlt⟩
      obtain ⟨r1, r2⟩ := hr k _ hx
      have c1 := cell_keep hK r1 hg
      have c2 := cell_keep hK r2 hg
      obtain ⟨s1, s2, s3⟩ := hs k _ hx
      simp only at c1 c2 s1 s2
      have s3 : Hid (∀ i, i < z → (p (n + rsum (rs.take k) + i)).toNat = t / 2 ^ (z - 1 - i) % 2) := s3
      have hlow := hL.lt
      have hrt := rsum_take rs hx
      have hrl := rsum_le rs (k + 1)
      simp only at hrt
      clear hr r1 r2
      go_wp2
      have hL1 := hL.below (w' := wo.alloc (.cells #[.int .i64 (z : Nat), .int .u64 (t : Nat)] 114)) ((Below.refl _ _).alloc (Nat.le_refl _) _)
      have hbx : (wo.alloc (.cells #[.int .i64 (z : Nat), .int .u64 (t : Nat)] 114)).heap[wo.heap.size]? = some (.cells #[.int .i64 (z : Nat), .int .u64 (t : Nat)] 114 (0, 0)) := heap_alloc_new _ _
      have hbn : ¬ bitP b wv1 av1 wo.heap.size := fun hp => by have := (hlow _ hp).2; omega
      go_loopw [6, 15] (fun _ i wq => ∃ (j : Nat) (wv2 av2 : Value), j ≤ z ∧ i = .int .i64 j ∧ BitL base wq b pre post ty wv2 av2 p (n + rsum (rs.take k) + j) ∧ Kept (bitP b wv1 av1) (wo.alloc (.cells #[.int .i64 (z : Nat), .int .u64 (t : Nat)] 114)) wq ∧
          (∀ k, bitP b wv2 av2 k → bitP b wv1 av1 k ∨ wo.heap.size + 1 ≤ k)) (fun _ i _ => z - (intOf i).toNat)
      case atStart => exact ⟨0, wv1, av1, by omega, rfl, hL1, Kept.refl _ _, fun k hk => .inl hk⟩
      case round =>
        clear hL1
        obtain ⟨j, wv2, av2, hj, rfl, hL2, hK2, hat2⟩ := hrel
        have hB := hK2.block wo.heap.size (by simp) hbn
        rw [hbx] at hB
        have d1 : wr.cell? ⟨wo.heap.size, 0, none⟩ = some (.int .i64 (z : Nat)) := by simp [World.cell?, hB]
        have d2 : wr.cell? ⟨wo.heap.size, 1, none⟩ = some (.int .u64 (t : Nat)) := by simp [World.cell?, hB]
        clear hB
        by_cases hjz : j < z
        · go_wp2_with fail
          refine (bit_any z t j wr s1 hjz s2).mono ?_
          rintro e w3 ⟨rfl, hB3⟩
          have HY : Hid ((p (n + rsum (rs.take k) + j)).toNat = t / 2 ^ (z - 1 - j) % 2) := s3.out j hjz
          generalize t / 2 ^ (z - 1 - j) % 2 = Y at *
          go_wp2_with fail
          rw [← HY.out]
          refine (layBit_any base w3 b o pre post ho ty wv2 av2 p (n + rsum (rs.take k) + j) (hL2.below hB3) (by omega)).mono ?_
          rintro e w4 ⟨rfl, wv3, av3, hL4, hK4, hat4⟩
          have hz3 := hB3.size
          have hz2 := hK2.size
          simp only [World.size_alloc] at hz2
          have hk5 := (hK2.trans' (Kept.of_below hB3 (Nat.le_refl _) (fun _ => False)) (fun _ _ h => h.elim)).trans' hK4 (fun i hi hp => by
            rcases hat2 i hp with h1 | h1
            · exact h1
            · simp only [World.size_alloc] at hi; omega)
          have hat5 : ∀ k, bitP b wv3 av3 k → bitP b wv1 av1 k ∨ wo.heap.size + 1 ≤ k := fun k hp => by
            rcases hat4 k hp with h1 | h1
            · exact hat2 k h1
            · exact .inr (by omega)
          clear hK4 hat4 hB3 hat2 hK2
          go_wp2
          exact ⟨⟨j + 1, wv3, av3, by omega, by go_num, hL4, hk5, hat5⟩, by simp [intOf]; omega⟩
        · have hjz' : j = z := by omega
          subst hjz'
          have hz2 := hK2.size
          simp only [World.size_alloc] at hz2
          have hz1 := hK.size
          have hk6 := (hK.trans' ((Kept.refl (fun _ => False) wo).alloc (.cells #[.int .i64 (j : Nat), .int .u64 (t : Nat)] 114)) (fun _ _ h => h.elim)).trans' hK2 (fun i hi hp => by
            rcases hat i hp with h1 | h1
            · exact h1
            · omega)
          have hat6 : ∀ k, bitP b wv2 av2 k → bitP b wv av k ∨ w.heap.size ≤ k := fun k hp => by
            rcases hat2 k hp with h1 | h1
            · exact hat k h1
            · exact .inr (by omega)
          rw [Nat.add_assoc, ← hrt] at hL2
          clear hK2 hat2
          go_wp2
          exact ⟨⟨k + 1, wv2, av2, by omega, by go_num, hL2, hk6, hat6⟩, by simp [intOf]; omega⟩
    · have hk' : k = rs.length := by omega
      subst hk'
      rw [List.take_length] at hL
      go_wp2
      go_end0
      exact ⟨rfl, wv1, av1, hL, hK, hat⟩
end Go.Proofs.YtopihgmemnokkaaGreat
namespace Go.Proofs.YtopihgmemnokkaaGreat
open Go.RowKit
def BTree (base : Nat) : Nat → World → Value → List (List Bool) → (Nat → Prop) → Prop
  | 0, _, v, X, F => v = .pointer none ∧ (∀ x ∈ X, x = []) ∧ ∀ k, ¬ F k
  | d + 1, w, v, X, F => (v = .pointer none ∧ (∀ x ∈ X, x = []) ∧ ∀ k, ¬ F k) ∨
      ∃ (b : Nat) (wv av v0 v1 : Value) (F0 F1 : Nat → Prop), v = .pointer (some ⟨b, 0, none⟩) ∧ (∃ x ∈ X, x ≠ []) ∧ BitL base w b [] [v0, v1] 223 wv av (Wv.bitAt X) (Wv.bits X).length ∧
        BTree base d w v0 (Wv.child false X) F0 ∧ BTree base d w v1 (Wv.child true X) F1 ∧ (∀ k, bitP b wv av k → ¬ F0 k ∧ ¬ F1 k) ∧ (∀ k, F0 k → ¬ F1 k) ∧ ∀ k, F k ↔ (bitP b wv av k ∨ F0 k ∨ F1 k)
theorem BTree.keep {base : Nat} {P : Nat → Prop} {w w' : World} (hk : Kept P w w') : ∀ {d : Nat} {v : Value} {X : List (List Bool)} {F : Nat → Prop}, BTree base d w v X F → (∀ k, F k → ¬ P k) → BTree base d w' v X F
  | 0, _, _, _, h, _ => h
  | d + 1, v, X, F, h, hn => by
    rcases h with h | ⟨b, wv, av, v0, v1, F0, F1, h1, h2, h3, h4, h5, h6, h7, h8⟩
    · exact .inl h
    · exact .inr ⟨b, wv, av, v0, v1, F0, F1, h1, h2, h3.keep hk (fun k hp => hn k ((h8 k).2 (.inl hp))), BTree.keep hk h4 (fun k hp => hn k ((h8 k).2 (.inr (.inl hp)))), BTree.keep hk h5 (fun k hp => hn k ((h8 k).2 (.inr (.inr hp)))), h6, h7, h8⟩
theorem BTree.lt {base : Nat} {w : World} : ∀ {d : Nat} {v : Value} {X : List (List Bool)} {F : Nat → Prop}, BTree base d w v X F → ∀ k, F k → base ≤ k ∧ k < w.heap.size
  | 0, _, _, _, h, k, hk => absurd hk (h.2.2 k)
  | d + 1, v, X, F, h, k, hk => by
    rcases h with h | ⟨b, wv, av, v0, v1, F0, F1, h1, h2, h3, h4, h5, h6, h7, h8⟩
    · exact absurd hk (h.2.2 k)
    · rcases (h8 k).1 hk with hp | hp | hp
      · exact h3.lt k hp
      · exact BTree.lt h4 k hp
      · exact BTree.lt h5 k hp
theorem BTree.below {base : Nat} {w w' : World} (hb : Below w.heap.size w w') {d : Nat} {v : Value} {X : List (List Bool)} {F : Nat → Prop} (h : BTree base d w v X F) : BTree base d w' v X F :=
  h.keep (Kept.of_below hb (Nat.le_refl _) (fun _ => False)) (fun _ _ h => h)
theorem BTree.empty {base d : Nat} {w : World} {X : List (List Bool)} (h : ∀ x ∈ X, x = []) : BTree base d w (.pointer none) X (fun _ => False) := by
  cases d with
  | zero => exact ⟨rfl, h, fun _ h => h⟩
  | succ d => exact .inl ⟨rfl, h, fun _ h => h⟩
theorem bitAt_ext {X Y : List (List Bool)} (h : Wv.bits X = Wv.bits Y) : Wv.bitAt X = Wv.bitAt Y := by unfold Wv.bitAt; rw [h]
theorem BTree.more {base : Nat} {w : World} : ∀ {d : Nat} {v : Value} {X : List (List Bool)} {F : Nat → Prop}, BTree base d w v X F → BTree base d w v (X ++ [[]]) F
  | 0, _, X, _, h => ⟨h.1, fun x hx => by
    rcases List.mem_append.1 hx with h1 | h1
    · exact h.2.1 x h1
    · simpa using h1, h.2.2⟩
  | d + 1, v, X, F, h => by
    rcases h with h | ⟨b, wv, av, v0, v1, F0, F1, h1, ⟨x, hx, hx2⟩, h3, h4, h5, h6, h7, h8⟩
    · refine .inl ⟨h.1, fun x hx => ?_, h.2.2⟩
      rcases List.mem_append.1 hx with h1 | h1
      · exact h.2.1 x h1
      · simpa using h1
    · refine .inr ⟨b, wv, av, v0, v1, F0, F1, h1, ⟨x, by simp [hx], hx2⟩, ?_, ?_, ?_, h6, h7, h8⟩
      · rw [bitAt_ext (Wv.bits_nil X), Wv.bits_nil]; exact h3
      · rw [Wv.child_nil]; exact h4
      · rw [Wv.child_nil]; exact h5
theorem BTree.node {base d : Nat} {w : World} {v : Value} {X : List (List Bool)} {F : Nat → Prop} (h : BTree base (d + 1) w v X F) (hx : ∃ x ∈ X, x ≠ []) :
    ∃ (b : Nat) (wv av v0 v1 : Value) (F0 F1 : Nat → Prop), v = .pointer (some ⟨b, 0, none⟩) ∧ BitL base w b [] [v0, v1] 223 wv av (Wv.bitAt X) (Wv.bits X).length ∧
        BTree base d w v0 (Wv.child false X) F0 ∧ BTree base d w v1 (Wv.child true X) F1 := by
  rcases h with h | ⟨b, wv, av, v0, v1, F0, F1, h1, h2, h3, h4, h5, _⟩
  · obtain ⟨x, hx, hn⟩ := hx
    exact absurd (h.2.1 x hx) hn
  · exact ⟨b, wv, av, v0, v1, F0, F1, h1, h3, h4, h5⟩
def Hole (base d : Nat) (w : World) (ab ao : Nat) (x : List Bool) (Fin : World → Prop) : Prop :=
  ∃ (cs : Array Value) (ty : TypeId) (v : Value) (X : List (List Bool)) (F : Nat → Prop), w.heap[ab]? = some (.cells cs ty (0, 0)) ∧ cs[ao]? = some v ∧ BTree base d w v X F ∧ ¬ F ab ∧ X.length ≤ 1000000 ∧
    ∀ (w' : World) (v' : Value) (F' : Nat → Prop), w'.heap[ab]? = some (.cells (cs.setIfInBounds ao v') ty (0, 0)) → BTree base d w' v' (X ++ [x]) F' → Kept (fun k => k = ab ∨ F k) w w' → (∀ k, F' k → F k ∨ w.heap.size ≤ k) → Fin w'
theorem set_self {cs : Array Value} {i : Nat} {v : Value} (h : cs[i]? = some v) : cs.setIfInBounds i v = cs := by
  apply Array.ext_getElem?
  intro j
  rw [Array.getElem?_setIfInBounds]
  by_cases e : i = j
  · subst e
    have := (Array.getElem?_eq_some_iff.1 h).1
    rw [if_pos rfl, if_pos this, h]
  · rw [if_neg e]
theorem Hole.done {base d : Nat} {w : World} {ab ao : Nat} {Fin : World → Prop} (h : Hole base d w ab ao [] Fin) : Fin w := by
  obtain ⟨cs, ty, v, X, F, h1, h2, h3, h4, hN, h5⟩ := h
  exact h5 w v F (by rw [set_self h2]; exact h1) h3.more (Kept.refl _ _) (fun k hk => .inl hk)
theorem Hole.cell {base d : Nat} {w : World} {ab ao : Nat} {x : List Bool} {Fin : World → Prop} (h : Hole base d w ab ao x Fin) : ∃ v, w.cell? ⟨ab, ao, none⟩ = some v ∧ (v = .pointer none ∨ ∃ b, v = .pointer (some ⟨b, 0, none⟩)) ∧ w.frozen? ⟨ab, ao, none⟩ = false := by
  obtain ⟨cs, ty, v, X, F, h1, h2, h3, h4, hN, h5⟩ := h
  refine ⟨v, by simp [World.cell?, h1, h2], ?_, by simp [World.frozen?, h1]⟩
  cases d with
  | zero => exact .inl h3.1
  | succ d =>
    rcases h3 with h3 | ⟨b, _, _, _, _, _, _, h3, _⟩
    · exact .inl h3.1
    · exact .inr ⟨b, h3⟩
theorem Hole.below {base d : Nat} {w w1 : World} {ab ao : Nat} {x : List Bool} {Fin : World → Prop} (h : Hole base d w ab ao x Fin) (hb : Below w.heap.size w w1) : Hole base d w1 ab ao x Fin := by
  obtain ⟨cs, ty, v, X, F, h1, h2, h3, h4, hN, h5⟩ := h
  have hlt : ab < w.heap.size := (Array.getElem?_eq_some_iff.1 h1).1
  refine ⟨cs, ty, v, X, F, by rw [hb.block ab hlt]; exact h1, h2, h3.below hb, h4, hN, fun w' v' F' g1 g2 g3 g4 => h5 w' v' F' g1 g2 ?_ ?_⟩
  · exact (Kept.of_below hb (Nat.le_refl _) (fun k => k = ab ∨ F k)).trans g3
  · intro k hk
    rcases g4 k hk with h | h
    · exact .inl h
    · exact .inr (Nat.le_trans hb.size h)
def Node (base d : Nat) (w : World) (ab ao b : Nat) (x : List Bool) (Fin : World → Prop) : Prop :=
  ∃ (cs : Array Value) (ty : TypeId) (X : List (List Bool)) (F : Nat → Prop) (wv av v0 v1 : Value) (F0 F1 : Nat → Prop), w.heap[ab]? = some (.cells cs ty (0, 0)) ∧ cs[ao]? = some (.pointer (some ⟨b, 0, none⟩)) ∧ ¬ F ab ∧ X.length ≤ 1000000 ∧
    BitL base w b [] [v0, v1] 223 wv av (Wv.bitAt X) (Wv.bits X).length ∧ BTree base d w v0 (Wv.child false X) F0 ∧ BTree base d w v1 (Wv.child true X) F1 ∧
    (∀ k, bitP b wv av k → ¬ F0 k ∧ ¬ F1 k) ∧ (∀ k, F0 k → ¬ F1 k) ∧ (∀ k, F k ↔ (bitP b wv av k ∨ F0 k ∨ F1 k)) ∧
    ∀ (w' : World) (F' : Nat → Prop), w'.heap[ab]? = some (.cells cs ty (0, 0)) → BTree base (d + 1) w' (.pointer (some ⟨b, 0, none⟩)) (X ++ [x]) F' → Kept F w w' → (∀ k, F' k → F k ∨ w.heap.size ≤ k) → Fin w'
theorem Hole.node {base d : Nat} {w : World} {ab ao b : Nat} {x : List Bool} {Fin : World → Prop} (h : Hole base (d + 1) w ab ao x Fin) (hc : w.cell? ⟨ab, ao, none⟩ = some (.pointer (some ⟨b, 0, none⟩))) : Node base d w ab ao b x Fin := by
  obtain ⟨cs, ty, v, X, F, h1, h2, h3, h4, hN, h5⟩ := h
  have hv : v = .pointer (some ⟨b, 0, none⟩) := by
    have : w.cell? ⟨ab, ao, none⟩ = some v := by simp [World.cell?, h1, h2]
    rw [hc] at this; exact (Option.some.inj this).symm
  subst hv
  rcases h3 with h3 | ⟨b', wv, av, v0, v1, F0, F1, g1, g2, g3, g4, g5, g6, g7, g8⟩
  · cases h3.1
  · have : b' = b := by injection g1 with e; injection e with e; injection e with e; exact e.symm
    subst this
    refine ⟨cs, ty, X, F, wv, av, v0, v1, F0, F1, h1, h2, h4, hN, g3, g4, g5, g6, g7, g8, fun w' F' k1 k2 k3 k4 => h5 w' _ F' (by rw [set_self h2]; exact k1) k2 (k3.mono (fun k _ hk => .inr hk)) k4⟩
def nodeCells : Array Value := #[.slice none 0 0, .slice none 0 0, .int .i64 0, .int .i64 0, .pointer none, .pointer none]
theorem Hole.made {base d : Nat} {w : World} {ab ao : Nat} {x : List Bool} {Fin : World → Prop} (h : Hole base (d + 1) w ab ao x Fin) (hc : w.cell? ⟨ab, ao, none⟩ = some (.pointer none)) (hbase : base ≤ w.heap.size) :
    Node base d ((w.alloc (.cells nodeCells 223)).setCell ⟨ab, ao, none⟩ (.pointer (some ⟨w.heap.size, 0, none⟩))) ab ao w.heap.size x Fin := by
  obtain ⟨cs, ty, v, X, F, h1, h2, h3, h4, hN, h5⟩ := h
  have hv : v = .pointer none := by
    have : w.cell? ⟨ab, ao, none⟩ = some v := by simp [World.cell?, h1, h2]
    rw [hc] at this; exact (Option.some.inj this).symm
  subst hv
  have hX : (∀ x ∈ X, x = []) ∧ ∀ k, ¬ F k := by
    rcases h3 with h3 | ⟨b', wv, av, v0, v1, F0, F1, g1, _⟩
    · exact h3.2
    · cases g1
  obtain ⟨hX, hF⟩ := hX
  have hlt : ab < w.heap.size := (Array.getElem?_eq_some_iff.1 h1).1
  have hao : ao < cs.size := (Array.getElem?_eq_some_iff.1 h2).1
  have h1a : (w.alloc (.cells nodeCells 223)).heap[ab]? = some (.cells cs ty (0, 0)) := by rw [Below.heap_alloc w _ ab hlt]; exact h1
  have hnew : (w.alloc (.cells nodeCells 223)).heap[w.heap.size]? = some (.cells nodeCells 223 (0, 0)) := heap_alloc_new _ _
  have hbits : Wv.bits X = [] := by
    unfold Wv.bits
    rw [List.filterMap_eq_nil_iff]
    intro a ha; rw [hX a ha]; rfl
  have hch : ∀ c, Wv.child c X = [] := fun c => by
    unfold Wv.child
    rw [List.filterMap_eq_nil_iff]
    intro a ha; rw [hX a ha]; rfl
  generalize hw2 : (w.alloc (.cells nodeCells 223)).setCell ⟨ab, ao, none⟩ (.pointer (some ⟨w.heap.size, 0, none⟩)) = w2
  have g1 : w2.heap[ab]? = some (.cells (cs.setIfInBounds ao (.pointer (some ⟨w.heap.size, 0, none⟩))) ty (0, 0)) := by
    subst hw2
    simp [World.setCell, Array.getElem?_modify, h1a]
  have g2 : w2.heap[w.heap.size]? = some (.cells nodeCells 223 (0, 0)) := by
    subst hw2
    rw [Below.heap_setCell _ _ _ _ (by intro e; simp at e; omega)]; exact hnew
  have g3 : Kept (fun k => k = ab) w w2 := by
    subst hw2
    exact ((Kept.refl _ w).alloc _).setCell (by rfl) _
  have hz : w2.heap.size = w.heap.size + 1 := by subst hw2; simp
  have hB : BitL base w2 w.heap.size [] [.pointer none, .pointer none] 223 (.slice none 0 0) (.slice none 0 0) (Wv.bitAt X) (Wv.bits X).length := by
    rw [hbits]
    refine ⟨?_, ⟨rfl, .inl ⟨rfl, rfl⟩⟩, ⟨rfl, .inl ⟨rfl, rfl⟩⟩, hbase, by decide, by decide⟩
    unfold Four
    rw [g2]; rfl
  refine ⟨cs.setIfInBounds ao (.pointer (some ⟨w.heap.size, 0, none⟩)), ty, X, fun k => k = w.heap.size, _, _, _, _, fun _ => False, fun _ => False, g1, by simp [hao], by omega, hN, hB, ?_, ?_, fun k _ => ⟨fun h => h, fun h => h⟩, fun _ h => h.elim, ?_, ?_⟩
  · rw [hch]; exact BTree.empty (fun x hx => by simp at hx)
  · rw [hch]; exact BTree.empty (fun x hx => by simp at hx)
  · intro k
    constructor
    · intro e; exact .inl (.inl e)
    · rintro ((e | e | e) | e | e)
      · exact e
      · cases e
      · cases e
      · exact e.elim
      · exact e.elim
  · intro w' F' k1 k2 k3 k4
    refine h5 w' _ F' k1 k2 ?_ ?_
    · refine (g3.mono (fun k _ hk => .inl hk)).trans' k3 (fun k hk e => ?_)
      omega
    · intro k hk
      rcases k4 k hk with e | e
      · exact .inr (by omega)
      · exact .inr (by omega)
theorem child_le (c : Bool) (X : List (List Bool)) : (Wv.child c X).length ≤ X.length := List.length_filterMap_le _ _
theorem Node.down {base d : Nat} {w : World} {ab ao b : Nat} {c : Bool} {r : List Bool} {Fin : World → Prop} (h : Node base d w ab ao b (c :: r) Fin) :
    ∃ (wv av v0 v1 : Value) (p : Nat → Bool) (n : Nat), BitL base w b [] [v0, v1] 223 wv av p n ∧ p n = c ∧ n ≤ 1000000 ∧ w.cell? ⟨ab, ao, none⟩ = some (.pointer (some ⟨b, 0, none⟩)) ∧ ¬ bitP b wv av ab ∧
      ∀ (w1 w' : World) (wv' av' : Value), Below w.heap.size w w1 → BitL base w' b [] [v0, v1] 223 wv' av' p (n + 1) → Kept (bitP b wv av) w1 w' → (∀ k, bitP b wv' av' k → bitP b wv av k ∨ w1.heap.size ≤ k) → Hole base d w' b (4 + c.toNat) r Fin := by
  obtain ⟨cs, ty, X, F, wv, av, v0, v1, F0, F1, h1, h2, h3, hN, hB, t0, t1, d1, d2, hF, h5⟩ := h
  have hbl := Wv.bits_le X
  have hbc := Wv.bits_cons X c r
  have hlen : (Wv.bits (X ++ [c :: r])).length = (Wv.bits X).length + 1 := by rw [hbc]; simp
  refine ⟨wv, av, v0, v1, Wv.bitAt (X ++ [c :: r]), (Wv.bits X).length, hB.congr ?_, ?_, by omega, by simp [World.cell?, h1, h2], fun hp => h3 ((hF ab).2 (.inl hp)), ?_⟩
  · intro i hi
    unfold Wv.bitAt
    rw [hbc, List.getD_eq_getElem?_getD, List.getD_eq_getElem?_getD, List.getElem?_append_left hi]
  · unfold Wv.bitAt
    rw [hbc, List.getD_eq_getElem?_getD, List.getElem?_append_right (Nat.le_refl _)]; simp
  · intro w1 w' wv' av' hb1 hB' hk hat
    have hab : ab < w.heap.size := (Array.getElem?_eq_some_iff.1 h1).1
    have hz1 := hb1.size
    have hz2 := hk.size
    have hbF : F b := (hF b).2 (.inl (.inl rfl))
    have habb : ab ≠ b := fun e => h3 (e ▸ hbF)
    have u0 := (t0.below hb1).keep hk (fun k hp hq => (d1 k hq).1 hp)
    have u1 := (t1.below hb1).keep hk (fun k hp hq => (d1 k hq).2 hp)
    have l0 := t0.lt
    have l1 := t1.lt
    have lB := hB'.lt
    have lB0 := hB.lt
    have hab1 : w'.heap[ab]? = some (.cells cs ty (0, 0)) := by
      rw [hk.block ab (by omega) (fun hp => h3 ((hF ab).2 (.inl hp))), hb1.block ab hab]; exact h1
    have hkw : Kept F w w' := (Kept.of_below hb1 (Nat.le_refl _) F).trans' hk (fun k _ hp => (hF k).2 (.inl hp))
    have hfour := hB'.four
    have hdis : ∀ k, bitP b wv' av' k → ¬ F0 k ∧ ¬ F1 k := fun k hp => by
      rcases hat k hp with h | h
      · exact d1 k h
      · exact ⟨fun e => by have := (l0 k e).2; omega, fun e => by have := (l1 k e).2; omega⟩
    unfold Four at hfour
    cases c with
    | false =>
      refine ⟨_, _, v0, Wv.child false X, F0, hfour, rfl, u0, fun e => (d1 b (.inl rfl)).1 e, by have := child_le false X; omega, ?_⟩
      intro w'' v'' F'' g1 g2 g3 g4
      have hrow : ∀ k, bitP b wv' av' k → k ≠ b → ¬ (k = b ∨ F0 k) := fun k hp hn hq => by
        rcases hq with hq | hq
        · exact hn hq
        · exact (hdis k hp).1 hq
      have hB2 : BitL base w'' b [] [v'', v1] 223 wv' av' (Wv.bitAt (X ++ [false :: r])) (Wv.bits (X ++ [false :: r])).length := by
        rw [hlen]
        refine ⟨?_, own_keep hB'.words g3 (fun g hg => hrow g (.inr (.inl hg)) (hB'.four.ne hB'.words hB'.t1 g hg)), own_keep hB'.ahead g3 (fun g hg => hrow g (.inr (.inr hg)) (hB'.four.ne hB'.ahead hB'.t2 g hg)), hB'.low, hB'.t1, hB'.t2⟩
        unfold Four
        rw [g1]; rfl
      refine h5 w'' (fun k => bitP b wv' av' k ∨ F'' k ∨ F1 k) ?_ (.inr ⟨b, wv', av', v'', v1, F'', F1, rfl, ⟨false :: r, by simp, by simp⟩, hB2, ?_, ?_, ?_, ?_, fun k => Iff.rfl⟩) ?_ ?_
      · rw [g3.block ab (by omega) (fun hq => by
          rcases hq with hq | hq
          · exact habb hq
          · exact h3 ((hF ab).2 (.inr (.inl hq))))]
        exact hab1
      · rw [Wv.child_same]; exact g2
      · rw [Wv.child_other _ _ (by decide)]
        exact u1.keep g3 (fun k hp hq => by
          rcases hq with hq | hq
          · subst hq; exact (d1 k (.inl rfl)).2 hp
          · exact d2 k hq hp)
      · intro k hp
        refine ⟨fun hq => ?_, (hdis k hp).2⟩
        rcases g4 k hq with h | h
        · exact (hdis k hp).1 h
        · have := (lB k hp).2; omega
      · intro k hp hq
        rcases g4 k hp with h | h
        · exact d2 k h hq
        · have := (l1 k hq).2; omega
      · refine hkw.trans' g3 (fun k _ hq => ?_)
        rcases hq with hq | hq
        · subst hq; exact hbF
        · exact (hF k).2 (.inr (.inl hq))
      · rintro k (hp | hp | hp)
        · rcases hat k hp with h | h
          · exact .inl ((hF k).2 (.inl h))
          · exact .inr (by omega)
        · rcases g4 k hp with h | h
          · exact .inl ((hF k).2 (.inr (.inl h)))
          · exact .inr (by omega)
        · exact .inl ((hF k).2 (.inr (.inr hp)))
    | true =>
      refine ⟨_, _, v1, Wv.child true X, F1, hfour, rfl, u1, fun e => (d1 b (.inl rfl)).2 e, by have := child_le true X; omega, ?_⟩
      intro w'' v'' F'' g1 g2 g3 g4
      have hrow : ∀ k, bitP b wv' av' k → k ≠ b → ¬ (k = b ∨ F1 k) := fun k hp hn hq => by
        rcases hq with hq | hq
        · exact hn hq
        · exact (hdis k hp).2 hq
      have hB2 : BitL base w'' b [] [v0, v''] 223 wv' av' (Wv.bitAt (X ++ [true :: r])) (Wv.bits (X ++ [true :: r])).length := by
        rw [hlen]
        refine ⟨?_, own_keep hB'.words g3 (fun g hg => hrow g (.inr (.inl hg)) (hB'.four.ne hB'.words hB'.t1 g hg)), own_keep hB'.ahead g3 (fun g hg => hrow g (.inr (.inr hg)) (hB'.four.ne hB'.ahead hB'.t2 g hg)), hB'.low, hB'.t1, hB'.t2⟩
        unfold Four
        rw [g1]; rfl
      refine h5 w'' (fun k => bitP b wv' av' k ∨ F0 k ∨ F'' k) ?_ (.inr ⟨b, wv', av', v0, v'', F0, F'', rfl, ⟨true :: r, by simp, by simp⟩, hB2, ?_, ?_, ?_, ?_, fun k => Iff.rfl⟩) ?_ ?_
      · rw [g3.block ab (by omega) (fun hq => by
          rcases hq with hq | hq
          · exact habb hq
          · exact h3 ((hF ab).2 (.inr (.inr hq))))]
        exact hab1
      · rw [Wv.child_other _ _ (by decide)]
        exact u0.keep g3 (fun k hp hq => by
          rcases hq with hq | hq
          · subst hq; exact (d1 k (.inl rfl)).1 hp
          · exact d2 k hp hq)
      · rw [Wv.child_same]; exact g2
      · intro k hp
        refine ⟨(hdis k hp).1, fun hq => ?_⟩
        rcases g4 k hq with h | h
        · exact (hdis k hp).2 h
        · have := (lB k hp).2; omega
      · intro k hp hq
        rcases g4 k hq with h | h
        · exact d2 k hp h
        · have := (l0 k hp).2; omega
      · refine hkw.trans' g3 (fun k _ hq => ?_)
        rcases hq with hq | hq
        · subst hq; exact hbF
        · exact (hF k).2 (.inr (.inr hq))
      · rintro k (hp | hp | hp)
        · rcases hat k hp with h | h
          · exact .inl ((hF k).2 (.inl h))
          · exact .inr (by omega)
        · exact .inl ((hF k).2 (.inr (.inl hp)))
        · rcases g4 k hp with h | h
          · exact .inl ((hF k).2 (.inr (.inr h)))
          · exact .inr (by omega)
end Go.Proofs.YtopihgmemnokkaaGreat
