import Derived.Test.YtopihgmemnokkaaGreatBitW6F
import Derived.Test.YtopihgmemnokkaaGreatHuffF
import Derived.Deep.RegionHeld3
import Derived.Deep.RegionWith
namespace Go.Proofs.YtopihgmemnokkaaGreat
open Go.RowKit

/-- ranges as cells -/
def rgL : List (Nat × Nat) → List Value
  | [] => []
  | x :: l => .int .i64 (x.1 : Nat) :: .int .i64 (x.2 : Nat) :: rgL l
theorem rgL_app (a b : List (Nat × Nat)) : rgL (a ++ b) = rgL a ++ rgL b := by
  induction a with
  | nil => rfl
  | cons x a ih => simp [rgL, ih]
theorem rgL_len : ∀ (l : List (Nat × Nat)), (rgL l).length = l.length * 2
  | [] => rfl
  | x :: l => by simp [rgL, rgL_len l]; omega
theorem rgL_get : ∀ (l : List (Nat × Nat)) (k : Nat) (x : Nat × Nat), l[k]? = some x → (rgL l)[k * 2]? = some (.int .i64 (x.1 : Nat)) ∧ (rgL l)[k * 2 + 1]? = some (.int .i64 (x.2 : Nat))
  | [], k, x, h => by simp at h
  | y :: l, 0, x, h => by simp at h; subst h; exact ⟨rfl, rfl⟩
  | y :: l, k + 1, x, h => by
    have := rgL_get l k x (by simpa using h)
    simp only [rgL]
    rw [show (k + 1) * 2 = k * 2 + 1 + 1 by omega]
    simpa using this
theorem rgL_set : ∀ (l : List (Nat × Nat)) (k : Nat) (x : Nat × Nat) (t : Nat), l[k]? = some x → (rgL l).set (k * 2 + 1) (.int .i64 (t : Nat)) = rgL (l.set k (x.1, t))
  | [], k, x, t, h => by simp at h
  | y :: l, 0, x, t, h => by simp at h; subst h; rfl
  | y :: l, k + 1, x, t, h => by
    have := rgL_set l k x t (by simpa using h)
    rw [show (k + 1) * 2 + 1 = (k * 2 + 1) + 1 + 1 by omega]
    simp only [rgL, List.set_cons_succ, this]
theorem rgL_one (l : List (Nat × Nat)) : ∀ u ∈ rgL l, u.oneCell' = true := by
  induction l with
  | nil => intro u hu; simp [rgL] at hu
  | cons x l ih =>
    intro u hu
    simp only [rgL, List.mem_cons] at hu
    rcases hu with rfl | rfl | hu
    · rfl
    · rfl
    · exact ih u hu
theorem add_addr (g i : Nat) : (⟨g, 0, none⟩ : Addr).add i = ⟨g, i, none⟩ := by
  unfold Addr.add
  by_cases h0 : i = 0
  · subst h0; simp
  · simp [h0]

/-- ranges that can be read in memory -/
def RgAt (w : World) (v : Value) (rs : List (Nat × Nat)) : Prop :=
  (v = .slice none 0 0 ∧ rs = []) ∨ ∃ g cap, v = .slice (some ⟨g, 0, none⟩) rs.length cap ∧ g < w.heap.size ∧ ∀ k x, rs[k]? = some x → w.cell? ⟨g, k * 2, none⟩ = some (.int .i64 (x.1 : Nat)) ∧ w.cell? ⟨g, k * 2 + 1, none⟩ = some (.int .i64 (x.2 : Nat))
theorem RgAt.keep {P : Nat → Prop} {w w' : World} {v : Value} {rs : List (Nat × Nat)} (h : RgAt w v rs) (hk : Kept P w w') (hn : ∀ g, v.ownBlock = some g → ¬ P g) : RgAt w' v rs := by
  rcases h with h | ⟨g, cap, rfl, h2, h3⟩
  · exact .inl h
  · refine .inr ⟨g, cap, rfl, Nat.lt_of_lt_of_le h2 hk.size, fun k x hx => ?_⟩
    obtain ⟨a1, a2⟩ := h3 k x hx
    exact ⟨cell_keep hk a1 (hn g rfl), cell_keep hk a2 (hn g rfl)⟩
theorem RgAt.below {w w' : World} {v : Value} {rs : List (Nat × Nat)} (h : RgAt w v rs) (hb : Below w.heap.size w w') : RgAt w' v rs :=
  h.keep (Kept.of_below hb (Nat.le_refl _) (fun _ => False)) (fun _ _ h => h)
theorem RgAt.len {w : World} {v : Value} {rs : List (Nat × Nat)} (h : RgAt w v rs) : ∃ a c, v = .slice a rs.length c := by
  rcases h with ⟨rfl, rfl⟩ | ⟨g, cap, rfl, _⟩
  · exact ⟨_, _, rfl⟩
  · exact ⟨_, _, rfl⟩
theorem RgAt.own {w : World} {base : Nat} {v : Value} {n : Nat} {rs : List (Nat × Nat)} (h : w.ownsRow base 167 2 v n (rgL rs)) : RgAt w v rs ∧ n = rs.length := by
  have hn : n = rs.length := by have := h.1; rw [rgL_len] at this; omega
  refine ⟨?_, hn⟩
  rcases h.2 with ⟨rfl, h0⟩ | ⟨g, cap, cur, rfl, _, hg, _⟩
  · exact .inl ⟨rfl, List.length_eq_zero_iff.1 (by omega)⟩
  · refine .inr ⟨g, cap, by rw [hn], (Array.getElem?_eq_some_iff.1 hg).1, fun k x hx => ?_⟩
    obtain ⟨h1, h2⟩ := rgL_get rs k x hx
    have a1 := h.cells (g := g) rfl _ _ h1
    have a2 := h.cells (g := g) rfl _ _ h2
    rw [add_addr] at a1 a2
    exact ⟨a1, a2⟩
theorem own_set2 {w : World} {base : Nat} {e : TypeId} {g n cap z : Nat} {xs : List Value} (h : w.ownsRow base e z (.slice (some ⟨g, 0, none⟩) n cap) n xs) (i : Nat) (u : Value) :
    (w.setCell ⟨g, i, none⟩ u).ownsRow base e z (.slice (some ⟨g, 0, none⟩) n cap) n (xs.set i u) := by
  refine ⟨by simpa using h.1, ?_⟩
  rcases h.2 with ⟨h1, _⟩ | ⟨g', cap', cur, h1, h2, h3, h4, h5, h6, h7⟩
  · cases h1
  · injection h1 with e1 e2 e3
    injection e1 with e4
    injection e4 with e5
    subst e5; subst e3
    refine .inr ⟨g, cap, cur.setIfInBounds i u, rfl, h2, ?_, h4, h5, by simpa using h6, ?_⟩
    · simp [World.setCell, Array.getElem?_modify, h3]
    · rw [Array.toList_setIfInBounds, ← h7, List.take_set]
theorem own_frozen2 {w : World} {base : Nat} {e : TypeId} {g n cap z : Nat} {xs : List Value} (h : w.ownsRow base e z (.slice (some ⟨g, 0, none⟩) n cap) n xs) (i : Nat) : w.frozen? ⟨g, i, none⟩ = false := by
  rcases h.2 with ⟨h1, _⟩ | ⟨g', cap', cur, h1, h2, h3, _⟩
  · cases h1
  · injection h1 with e1 e2 e3
    injection e1 with e4
    injection e4 with e5
    subst e5
    simp [World.frozen?, h3]
theorem own_slice2 {w : World} {base : Nat} {e : TypeId} {z : Nat} {v : Value} {c : Nat} {xs : List Value} (h : w.ownsRow base e z v c xs) : ∃ a p, v = .slice a c p := by
  rcases h.2 with ⟨rfl, rfl⟩ | ⟨g, cap, cur, rfl, _⟩
  · exact ⟨_, _, rfl⟩
  · exact ⟨_, _, rfl⟩
theorem two_new {w : World} {a b : Value} {e : TypeId} {g : Nat} (hg : w.heap.size = g) : ∀ j x, [a, b][j]? = some x → (w.alloc (.cells #[a, b] e)).cell? ((⟨g, 0, none⟩ : Addr).add j) = some x := by
  subst hg
  exact World.news_of_block (heap_alloc_new w _)

theorem cell_of {w : World} {b i : Nat} {cs : Array Value} {t : TypeId} {fr : Nat × Nat} {v : Value} (h : w.heap[b]? = some (.cells cs t fr)) (hi : cs[i]? = some v) : w.cell? ⟨b, i, none⟩ = some v := by
  simp [World.cell?, h, hi]
theorem unfrozen {w : World} {b : Nat} {cs : Array Value} {t : TypeId} (h : w.heap[b]? = some (.cells cs t (0, 0))) (i : Nat) : w.frozen? ⟨b, i, none⟩ = false := by
  simp [World.frozen?, h]
theorem bdrew {B : Nat} {a w : World} (h : Below B a w) : Below B a w.drew := ⟨h.os, h.tape, h.output, h.size, h.block⟩

/-- one bit of a list -/
theorem lbit_num (p : Nat → Bool) (q r m X : Nat) (hr : r < m) (hm : m ≤ 64) (hX : Bm.wordAt (fun i => p (64 * q + i)) m = X) : bits .and .u64 ((X : Int) / 2 ^ (63 - r)) 1 = ((p (64 * q + r)).toNat : Nat) := by
  have hs := Bm.wordAt_shr (fun i => p (64 * q + i)) (w := r + 1) (m := m) (by omega) hm
  rw [show 64 - (r + 1) = 63 - r by omega, hX] at hs
  have hx := Bm.wordAt_lt (fun i => p (64 * q + i)) hm
  rw [hX] at hx
  have hlt : X / 2 ^ (63 - r) < 18446744073709551616 := Nat.lt_of_le_of_lt (Nat.div_le_self _ _) hx
  rw [show ((X : Int) / 2 ^ (63 - r)) = ((X / 2 ^ (63 - r) : Nat) : Int) by rw [Int.natCast_ediv, Int.natCast_pow]; rfl, show (1 : Int) = ((1 : Nat) : Int) from rfl, bits_and_u64_nat _ _ hlt (by omega), Nat.and_one_is_mod, hs]
  have hb : (p (64 * q + r)).toNat ≤ 1 := Bool.toNat_le _
  simp only [Bm.pre]
  congr 1
  omega
set_option maxRecDepth 100000 in
set_option maxHeartbeats 1000000 in
theorem lbit_any (base : Nat) (w : World) (b o : Nat) (pre post : List Value) (ho : pre.length = o) (ty : TypeId) (wv av : Value) (p : Nat → Bool) (n i : Nat) (h : BitL base w b pre post ty wv av p n) (hi : i < n) (hb : n ≤ 1099511627776) :
    Calls Tryz.prog 150 #[.pointer (some ⟨b, o, none⟩), .int .i64 (i : Nat)] w fun e w' => e = .returned (.int .u64 ((p i).toNat : Nat)) ∧ w' = w := by
  obtain ⟨q, hq⟩ : ∃ q, i / 64 = q := ⟨_, rfl⟩
  obtain ⟨r, hr⟩ : ∃ r, i % 64 = r := ⟨_, rfl⟩
  have hw := h.words
  obtain ⟨g, cap, rfl, _, _⟩ := hw.form (by omega)
  have c0 := h.four.c0 ho
  have d1 := own_cell hw (wordsL_get p (n := n) (j := q) (by omega))
  have hfin := lbit_num p q r (min 64 (n - 64 * q)) _ (by omega) (by omega) rfl
  rw [show 64 * q + r = i by omega] at hfin
  generalize Bm.wordAt (fun i => p (64 * q + i)) (min 64 (n - 64 * q)) = X at *
  have hqi : (i : Int) / 64 = (q : Nat) := by omega
  have hri : (i : Int) % 64 = (r : Nat) := by omega
  have hr64 : r < 64 := by omega
  have hqb : q ≤ 17179869184 := by omega
  obtain ⟨m, hm⟩ : ∃ m, (n + 63) / 64 = m := ⟨_, rfl⟩
  have hqm : (q : Int) < (m : Int) := by omega
  have Hfin : Hid (bits .and .u64 ((X : Int) / 2 ^ (63 - r)) 1 = ((p i).toNat : Nat)) := hfin
  rw [hm] at c0
  clear hfin hm hq hr hw h
  go_enter Tryz.func150, Tryz.ntmps150
  go_wp2
  go_ret
  exact ⟨ret_int Hfin.out, rfl⟩
set_option maxHeartbeats 1000000 in
theorem rankOf_any (base : Nat) (w : World) (b o : Nat) (pre post : List Value) (ho : pre.length = o) (ty : TypeId) (wv av : Value) (p : Nat → Bool) (n i : Nat) (c : Bool) (h : BitL base w b pre post ty wv av p n) (hi : i ≤ n) (hb : n ≤ 1099511627776) :
    Calls Tryz.prog 151 #[.pointer (some ⟨b, o, none⟩), .int .u64 (c.toNat : Nat), .int .i64 (i : Nat)] w fun e w' => e = .returned (.int .i64 (Wv.rkb p c i : Nat)) ∧ Below w.heap.size w w' := by
  have hcl := Cc.cn_le i p
  cases c with
  | false =>
    go_enter Tryz.func151, Tryz.ntmps151
    go_wp2_with fail
    refine (rank_any base w b o pre post ho ty wv av p n i h hi hb).mono ?_
    rintro e w1 ⟨rfl, hB⟩
    go_wp2
    go_ret
    refine ⟨ret_int ?_, hB⟩
    rw [Wv.rkb_false]
    first | omega | (simp only [wrap64]; omega)
  | true =>
    go_enter Tryz.func151, Tryz.ntmps151
    go_wp2_with fail
    refine (rank_any base w b o pre post ho ty wv av p n i h hi hb).mono ?_
    rintro e w1 ⟨rfl, hB⟩
    go_wp2
    go_ret
    exact ⟨ret_int (by rw [Wv.rkb_true]), hB⟩

end Go.Proofs.YtopihgmemnokkaaGreat

namespace Go.Proofs.YtopihgmemnokkaaGreat
open Go.RowKit

theorem Tryz.info167 : (Tryz.prog.info? 167).map (fun i => (i.zero, i.size, i.bytes)) = some (some (.agg #[.int .i64 0, .int .i64 0]), 2, 16) := by kernel_rfl

theorem amStep_skip {rk : Nat → Nat} {acc : List (Nat × Nat)} {f t : Nat} (h : rk f = rk t) : Wv.amStep rk acc (f, t) = acc := by unfold Wv.amStep; rw [if_pos h]
theorem amStep_join {rk : Nat → Nat} {acc : List (Nat × Nat)} {f t : Nat} (h : rk f ≠ rk t) {m : Nat} {x : Nat × Nat} (hm : acc.length = m + 1) (hx : acc[m]? = some x) (he : x.2 = rk f) : Wv.amStep rk acc (f, t) = acc.set m (x.1, rk t) := by
  unfold Wv.amStep
  have e1 : acc.length - 1 = m := by omega
  have e2 : acc.getD m (0, 0) = x := by rw [List.getD_eq_getElem?_getD, hx]; rfl
  rw [if_neg h, e1, e2, if_pos ⟨by omega, he⟩]
theorem amStep_new {rk : Nat → Nat} {acc : List (Nat × Nat)} {f t : Nat} (h : rk f ≠ rk t) (hn : ∀ m x, acc.length = m + 1 → acc[m]? = some x → x.2 ≠ rk f) : Wv.amStep rk acc (f, t) = acc ++ [(rk f, rk t)] := by
  unfold Wv.amStep
  rw [if_neg h]
  rw [if_neg]
  rintro ⟨h1, h2⟩
  have hlt : acc.length - 1 < acc.length := by omega
  have hx : acc[acc.length - 1]? = some acc[acc.length - 1] := List.getElem?_eq_getElem hlt
  refine hn (acc.length - 1) _ (by omega) hx ?_
  rw [List.getD_eq_getElem?_getD, hx] at h2
  exact h2

set_option maxRecDepth 100000 in
set_option maxHeartbeats 2000000 in
theorem among_any (base : Nat) (w : World) (b o : Nat) (pre post : List Value) (ho : pre.length = o) (ty : TypeId) (wv av : Value) (p : Nat → Bool) (n : Nat) (c : Bool) (v : Value) (rs : List (Nat × Nat)) (h : BitL base w b pre post ty wv av p n)
    (hr : RgAt w v rs) (hu : Wv.Upto n rs) (hb : n ≤ 1000000) (hl : rs.length ≤ 1000000) :
    Calls Tryz.prog 144 #[.pointer (some ⟨b, o, none⟩), .int .u64 (c.toNat : Nat), v] w fun e w' => ∃ v', e = .returned v' ∧ w'.ownsRow w.heap.size 167 2 v' (Wv.am (Wv.rkb p c) rs).length (rgL (Wv.am (Wv.rkb p c) rs)) ∧ Below w.heap.size w w' := by
  obtain ⟨i0, hi, hz0, hz1, hz2⟩ := info_parts Tryz.info167
  obtain ⟨a, cp, rfl⟩ := hr.len
  have HR : Hid (RgAt w (.slice a rs.length cp) rs) := hr
  have HU : Hid (Wv.Upto n rs) := hu
  have HL : Hid (BitL base w b pre post ty wv av p n) := h
  clear hr hu h
  go_enter Tryz.func144, Tryz.ntmps144
  go_wp2
  go_loopw [7, 9, 10, 11, 12, 15] (fun fv _ _ _ _ i wr => ∃ k : Nat, k ≤ rs.length ∧ i = .int .i64 k ∧ wr.ownsRow w.heap.size 167 2 fv (Wv.am (Wv.rkb p c) (rs.take k)).length (rgL (Wv.am (Wv.rkb p c) (rs.take k))) ∧ Below w.heap.size w wr) (fun _ _ _ _ _ i _ => rs.length - (intOf i).toNat)
  case atStart => exact ⟨0, by omega, rfl, World.ownsRow_nil _ _ _ _, Below.refl _ _⟩
  case round =>
    obtain ⟨k, hk, rfl, hown, hBl⟩ := hrel
    rename World => wo
    by_cases hlt : k < rs.length
    · obtain ⟨⟨f, t⟩, hx⟩ : ∃ x, rs[k]? = some x := ⟨_, List.getElem?_eq_getElem hlt⟩
      have hra := HR.out.below hBl
      obtain ⟨g, hag, hgl, c1, c2⟩ : ∃ g, a = some ⟨g, 0, none⟩ ∧ g < wo.heap.size ∧ wo.cell? ⟨g, k * 2, none⟩ = some (.int .i64 (f : Nat)) ∧ wo.cell? ⟨g, k * 2 + 1, none⟩ = some (.int .i64 (t : Nat)) := by
        rcases hra with ⟨_, h0⟩ | ⟨g, cap, he, h2, h3⟩
        · subst h0; simp at hlt
        · injection he with e1 e2 e3
          exact ⟨g, e1, h2, h3 k _ hx⟩
      subst hag
      have hft := HU.out _ (List.mem_of_getElem? hx)
      have hmono := Wv.rkb_mono p c f t hft.1
      have hle1 := Wv.rkb_le p c t
      have hacc := Wv.am_len (Wv.rkb p c) (rs.take k)
      rw [List.length_take] at hacc
      have HST : Hid (Wv.am (Wv.rkb p c) (rs.take (k + 1)) = Wv.amStep (Wv.rkb p c) (Wv.am (Wv.rkb p c) (rs.take k)) (f, t)) := Wv.am_take _ _ hx
      simp only at hft
      have hLB : ∀ W, Below wo.heap.size wo W → BitL base W b pre post ty wv av p n := fun W hW => HL.out.below (hBl.trans (hW.mono hBl.size))
      generalize hacc' : Wv.am (Wv.rkb p c) (rs.take k) = acc at *
      have HB : Hid (Below w.heap.size w wo) := hBl
      have hbz := hBl.size
      clear hx hra hacc' hBl
      go_wp2_with fail
      have hnb : (wo.alloc (.cells #[.int .i64 (f : Nat), .int .i64 (t : Nat)] 167)).heap[wo.heap.size]? = some (.cells #[.int .i64 (f : Nat), .int .i64 (t : Nat)] 167 (0, 0)) := heap_alloc_new _ _
      have d1 := cell_of hnb (i := 0) rfl
      have d2 := cell_of hnb (i := 1) rfl
      have s0 : (wo.alloc (.cells #[.int .i64 (f : Nat), .int .i64 (t : Nat)] 167)).drew.cell? ⟨wo.heap.size, 0, none⟩ = some (.int .i64 (f : Nat)) ∧ (wo.alloc (.cells #[.int .i64 (f : Nat), .int .i64 (t : Nat)] 167)).drew.cell? ⟨wo.heap.size, 1, none⟩ = some (.int .i64 (t : Nat)) := ⟨d1, d2⟩
      have bd0 : Below (wo.heap.size + 1) (wo.alloc (.cells #[.int .i64 (f : Nat), .int .i64 (t : Nat)] 167)) (wo.alloc (.cells #[.int .i64 (f : Nat), .int .i64 (t : Nat)] 167)).drew := bdrew (Below.refl _ _)
      have hza : (wo.alloc (.cells #[.int .i64 (f : Nat), .int .i64 (t : Nat)] 167)).heap.size = wo.heap.size + 1 := by simp
      have hba : Below wo.heap.size wo (wo.alloc (.cells #[.int .i64 (f : Nat), .int .i64 (t : Nat)] 167)) := (Below.refl _ _).alloc (Nat.le_refl _) _
      have hown2 := hown.alloc (o := .cells #[.int .i64 (f : Nat), .int .i64 (t : Nat)] 167)
      generalize wo.alloc (.cells #[.int .i64 (f : Nat), .int .i64 (t : Nat)] 167) = wa at *
      have KEEP : ∀ W, Below (wo.heap.size + 1) wa W → (W.cell? ⟨wo.heap.size, 0, none⟩ = some (.int .i64 (f : Nat)) ∧ W.cell? ⟨wo.heap.size, 1, none⟩ = some (.int .i64 (t : Nat))) := fun W hW => by
        have hk := Kept.of_below hW (by omega) (fun _ => False)
        exact ⟨cell_keep hk d1 (fun h => h), cell_keep hk d2 (fun h => h)⟩
      have LAW : ∀ i, i ≤ n → ∀ W, Below (wo.heap.size + 1) wa W → Calls Tryz.prog 151 #[.pointer (some ⟨b, o, none⟩), .int .u64 (c.toNat : Nat), .int .i64 (i : Nat)] W fun e w' => e = .returned (.int .i64 (Wv.rkb p c i : Nat)) ∧ Below (wo.heap.size + 1) wa w' ∧ (w'.cell? ⟨wo.heap.size, 0, none⟩ = some (.int .i64 (f : Nat)) ∧ w'.cell? ⟨wo.heap.size, 1, none⟩ = some (.int .i64 (t : Nat))) := fun i hi W hW =>
        (rankOf_any base W b o pre post ho ty wv av p n i c (hLB W (hba.trans (hW.mono (by omega)))) hi (by omega)).mono fun e w' ⟨he, hb⟩ => by
          have hb' : Below (wo.heap.size + 1) wa w' := hW.trans (hb.mono (by have := hW.size; omega))
          exact ⟨he, hb', KEEP w' hb'⟩
      have L1 : Hid _ := LAW f (by omega)
      have L2 : Hid _ := LAW t (by omega)
      have HLB : Hid _ := hLB
      clear LAW KEEP hLB d1 d2 hnb
      go_region_held3 (fun w' => w'.cell? ⟨wo.heap.size, 0, none⟩ = some (.int .i64 (f : Nat)) ∧ w'.cell? ⟨wo.heap.size, 1, none⟩ = some (.int .i64 (t : Nat))) (assumption) ((first
        | (go_at_call_of 151 (Value.int .i64 (f : Int)); refine (L1.out _ (by assumption)).mono ?_; rintro e w2 ⟨rfl, hb2, hS2⟩)
        | (go_at_call_of 151 (Value.int .i64 (t : Int)); refine (L2.out _ (by assumption)).mono ?_; rintro e w3 ⟨rfl, hb3, hS3⟩)))
      rename_i hHeld
      have hb4 : Below wo.heap.size wo w3 := hba.trans (hb3.mono (by omega))
      have HB4 : Hid (Below w.heap.size w w3) := HB.out.trans (hb4.mono hbz)
      have hown3 := own_keep hown2 (Kept.of_below hb3 (by omega) (fun _ => False)) (fun _ _ h => h)
      have hz3 := hb3.size
      have S1 : Hid (Wv.rkb p c f = Wv.rkb p c t → Wv.am (Wv.rkb p c) (List.take (k + 1) rs) = acc) := fun h => by rw [HST.out]; exact amStep_skip h
      have S2 : Hid (Wv.rkb p c f ≠ Wv.rkb p c t → ∀ (m : Nat) (x : Nat × Nat), acc.length = m + 1 → acc[m]? = some x → x.2 = Wv.rkb p c f → Wv.am (Wv.rkb p c) (List.take (k + 1) rs) = acc.set m (x.1, Wv.rkb p c t)) := fun h m x h1 h2 h3 => by rw [HST.out]; exact amStep_join h h1 h2 h3
      have S3 : Hid (Wv.rkb p c f ≠ Wv.rkb p c t → (∀ (m : Nat) (x : Nat × Nat), acc.length = m + 1 → acc[m]? = some x → x.2 ≠ Wv.rkb p c f) → Wv.am (Wv.rkb p c) (List.take (k + 1) rs) = acc ++ [(Wv.rkb p c f, Wv.rkb p c t)]) := fun h h1 => by rw [HST.out]; exact amStep_new h h1
      clear L1 L2 s0 bd0 hS2 hS3 hb2 HLB HL HU HR c1 c2 HST hown hown2 hb4 hb3 hba hHeld
      generalize Wv.rkb p c f = A at *
      generalize Wv.rkb p c t = B at *
      have hacc2 : acc.length ≤ 1000000 := by omega
      obtain ⟨a7, p7, rfl⟩ := own_slice2 hown3
      by_cases hAB : A = B
      · subst hAB
        have dd : ((A : Int) == (A : Int)) = true := by simp
        go_wp2
        exact ⟨⟨k + 1, by omega, by go_num, by rw [S1.out rfl]; exact hown3, HB4.out⟩, by simp [intOf]; omega⟩
      · have dd : ((A : Int) == (B : Int)) = false := by simp; omega
        obtain hm | ⟨m, hm⟩ : acc.length = 0 ∨ ∃ m, acc.length = m + 1 := by
          cases h : acc.length with
          | zero => exact .inl rfl
          | succ m => exact .inr ⟨m, rfl⟩
        · rw [hm] at hown3
          have S3' : Hid (Wv.am (Wv.rkb p c) (List.take (k + 1) rs) = acc ++ [(A, B)]) := S3.out hAB (fun m x h1 _ => by omega)
          rw [hm]
          clear S1 S2 S3
          go_wp2_with (at_builtin; refine wpList_append_own _ rfl _ _ 164 rfl w.heap.size 167 i0 _ 2 16 Tryz.underlying164 hi hz0 hz1 hz2 rfl (by decide) _ _ _ rfl (hown3.alloc _) ⟨w3.heap.size, 0, none⟩ 1 1 [.int .i64 (A : Nat), .int .i64 (B : Nat)] rfl rfl ?c11 ?c21 ?c31 ?c41 ?c51 ?_)
          case c11 => exact two_new rfl
          case c21 => intro u hu; simp at hu; rcases hu with rfl | rfl <;> rfl
          case c31 => unfold maxLen; omega
          case c41 => omega
          case c51 => simp; omega
          intro v' w4 hown4 hg4 _
          have hB5 : Below w.heap.size w w4 := (HB4.out.alloc (by omega) _).grown hg4 (by simp; omega) (fun a ha => by have := (hown3.lt a ha).1; omega)
          clear hg4
          go_wp2
          exact ⟨⟨k + 1, by omega, by go_num, by rw [S3'.out, rgL_app, List.length_append, hm]; exact hown4, hB5⟩, by simp [intOf]; omega⟩
        · obtain ⟨x, hx⟩ : ∃ x, acc[m]? = some x := ⟨_, List.getElem?_eq_getElem (by omega)⟩
          rw [hm] at hown3
          obtain ⟨g2, cap2, he2, _, hg2⟩ := hown3.form (by omega)
          injection he2 with e1 e2 e3
          subst e1; subst e3
          have cx := hown3.cells (g := g2) rfl _ _ (rgL_get acc m x hx).2
          rw [add_addr] at cx
          have fx := own_frozen2 hown3 (m * 2 + 1)
          rw [hm]
          by_cases hxA : x.2 = A
          · have S2' : Hid (Wv.am (Wv.rkb p c) (List.take (k + 1) rs) = acc.set m (x.1, B)) := S2.out hAB m x hm hx hxA
            have hown4 := own_set2 hown3 (m * 2 + 1) (.int .i64 (B : Nat))
            rw [rgL_set acc m x B hx] at hown4
            rw [hxA] at cx
            have dm : ((A : Int) == (A : Int)) = true := by simp
            have hB5 : Below w.heap.size w (w3.setCell ⟨g2, m * 2 + 1, none⟩ (.int .i64 (B : Nat))) := HB4.out.setCell (by have := (hown3.lt g2 rfl).1; exact this) _
            clear S1 S2 S3 hx hxA
            go_wp2
            exact ⟨⟨k + 1, by omega, by go_num, by rw [S2'.out, List.length_set, hm]; exact hown4, hB5⟩, by simp [intOf]; omega⟩
          · have S3' : Hid (Wv.am (Wv.rkb p c) (List.take (k + 1) rs) = acc ++ [(A, B)]) := S3.out hAB (fun m' x' h1 h2 => by
              have : m' = m := by omega
              subst this
              rw [hx] at h2
              have : x = x' := Option.some.inj h2
              rw [← this]; exact hxA)
            have dm : ((x.2 : Int) == (A : Int)) = false := by simp; omega
            clear S1 S2 S3 hx hxA
            go_wp2_with (at_builtin; refine wpList_append_own _ rfl _ _ 164 rfl w.heap.size 167 i0 _ 2 16 Tryz.underlying164 hi hz0 hz1 hz2 rfl (by decide) _ _ _ rfl (hown3.alloc _) ⟨w3.heap.size, 0, none⟩ 1 1 [.int .i64 (A : Nat), .int .i64 (B : Nat)] rfl rfl ?c12 ?c22 ?c32 ?c42 ?c52 ?_)
            case c22 => first | exact ⟨rfl, rfl⟩ | (intro u hu; simp at hu; rcases hu with rfl | rfl <;> rfl)
            case c32 => first | omega | (unfold maxLen; omega)
            case c42 => omega
            case c52 => first | omega | (simp; omega)
            intro v' w4 hown4 hg4 _
            have hB5 : Below w.heap.size w w4 := (HB4.out.alloc (by omega) _).grown hg4 (by simp; omega) (fun a ha => by have := (hown3.lt a ha).1; omega)
            clear hg4
            go_wp2
            exact ⟨⟨k + 1, by omega, by go_num, by rw [S3'.out, rgL_app, List.length_append, hm]; exact hown4, hB5⟩, by simp [intOf]; omega⟩
    · have hk' : k = rs.length := by omega
      subst hk'
      rw [List.take_length] at hown
      go_wp2
      go_ret
      exact ⟨_, rfl, hown, hBl⟩

end Go.Proofs.YtopihgmemnokkaaGreat

