import Derived.Test.YtopihgmemnokkaaGreatIdxW4K
import Derived.Test.YtopihgmemnokkaaGreatMemK
import Derived.Test.YtopihgmemnokkaaGreatAppK
import Derived.Test.YtopihgmemnokkaaGreatRecW7K
namespace Go.Proofs.YtopihgmemnokkaaGreat
open Go.RowKit
def StrsIn (w : World) (v : Value) (m : Nat) : Prop := (v = .slice none 0 0 ∧ m = 0) ∨ ∃ a cap, v = .slice (some a) m cap ∧ ∀ i, i < m → ∃ s : ByteArray, w.cell? (a.add i) = some (.string s) ∧ s.size ≤ 9223372036854775807
theorem infoStr : (Tryz.prog.info? 9).map (fun i => (i.zero, i.size, i.bytes)) = some (some (.string ByteArray.empty), 1, 16) := by kernel_rfl
end Go.Proofs.YtopihgmemnokkaaGreat
namespace Go.Proofs.YtopihgmemnokkaaGreat
open Go.RowKit
set_option maxHeartbeats 400000 in
theorem none_any (w : World) (bx ib : Nat) (h : w.cell? ⟨bx, 0, none⟩ = some (.pointer (some ⟨ib, 0, none⟩))) :
    Calls Tryz.prog 32 #[.pointer (some ⟨bx, 0, none⟩)] w fun e w' => e = .returned (.bool false) ∧ w' = w := by
  go_enter Tryz.func32, Tryz.ntmps32
  go_wp2
  go_ret
  exact ⟨rfl, rfl⟩
set_option maxRecDepth 100000 in
set_option maxHeartbeats 1000000 in
theorem xlen_any (a z bx : Nat) (t : ByteArray) (rate : Int) (w : World) (h : PIx a z bx t rate w) :
    Calls Tryz.prog 15 #[.pointer (some ⟨bx, 0, none⟩)] w fun e w' => e = .returned (.int .i64 (t.size : Nat)) ∧ w' = w := by
  obtain ⟨bs, ib, rt, G, r, root, F, wv, av, kv, rfl, h2, h3, h4⟩ := h
  have c0 : w.cell? ⟨bx, 0, none⟩ = some (.pointer (some ⟨ib, 0, none⟩)) := cell_of h2 rfl
  have hl := ilen_any h3.rws
  have hno := none_any w bx ib c0
  clear h2 h3 h4
  go_enter Tryz.func15, Tryz.ntmps15
  go_wp2_with fail
  refine hno.mono ?_
  rintro e w' ⟨rfl, rfl⟩
  go_wp2_with fail
  refine hl.mono ?_
  rintro e w' ⟨rfl, rfl⟩
  go_wp2
  go_ret
  exact ⟨rfl, rfl⟩
set_option maxRecDepth 100000 in
set_option maxHeartbeats 1000000 in
theorem xcount_any (a z bx : Nat) (t p : ByteArray) (rate : Int) (w : World) (h : PIx a z bx t rate w) (hp : p.size ≤ 9223372036854775807) :
    Calls Tryz.prog 30 #[.pointer (some ⟨bx, 0, none⟩), .string p] w fun e w' => e = .returned (.int .i64 ((occT t p (t.size + 1)).length : Nat)) ∧ Below w.heap.size w w' := by
  obtain ⟨bs, ib, rt, G, r, root, F, wv, av, kv, rfl, h2, h3, h4⟩ := h
  have c0 : w.cell? ⟨bx, 0, none⟩ = some (.pointer (some ⟨ib, 0, none⟩)) := cell_of h2 rfl
  have hl := icount_any h3 (rw_text t) p hp
  rw [occ_text] at hl
  have hno := none_any w bx ib c0
  clear h2 h3 h4
  go_enter Tryz.func30, Tryz.ntmps30
  go_wp2_with fail
  refine hno.mono ?_
  rintro e w' ⟨rfl, rfl⟩
  go_wp2_with fail
  refine hl.mono ?_
  rintro e w' ⟨rfl, hb⟩
  clear hl
  go_wp2
  go_ret
  exact ⟨rfl, hb⟩
set_option maxRecDepth 100000 in
set_option maxHeartbeats 1000000 in
theorem xlocate_any (a z bx : Nat) (t p : ByteArray) (rate : Int) (w : World) (h : PIx a z bx t rate w) (hr : 1 ≤ rate ∧ rate ≤ 64) (hp : p.size ≤ 9223372036854775807) :
    Calls Tryz.prog 31 #[.pointer (some ⟨bx, 0, none⟩), .string p] w fun e w' => ∃ v, e = .returned v ∧ w'.ownsRow w.heap.size 3 1 v (occT t p (t.size + 1)).length (intsL (occT t p (t.size + 1))) ∧ Below w.heap.size w w' := by
  obtain ⟨bs, ib, rt, G, r, root, F, wv, av, kv, rfl, h2, h3, h4⟩ := h
  have c0 : w.cell? ⟨bx, 0, none⟩ = some (.pointer (some ⟨ib, 0, none⟩)) := cell_of h2 rfl
  have hl := ilocate_any h3 (rw_text t) (by omega) (by omega) p hp
  rw [occ_text] at hl
  have hno := none_any w bx ib c0
  clear h2 h3 h4
  go_enter Tryz.func31, Tryz.ntmps31
  go_wp2_with fail
  refine hno.mono ?_
  rintro e w' ⟨rfl, rfl⟩
  go_wp2_with fail
  refine hl.mono ?_
  rintro e w' ⟨v, rfl, hv, hb⟩
  obtain ⟨va, vc, rfl⟩ := own_slice hv
  clear hl
  go_wp2
  go_ret
  exact ⟨_, rfl, hv, hb⟩
set_option maxRecDepth 100000 in
set_option maxHeartbeats 1000000 in
theorem xextract_any (a z bx : Nat) (t : ByteArray) (rate x y : Int) (w : World) (h : PIx a z bx t rate w) (hr : 1 ≤ rate ∧ rate ≤ 64) :
    Calls Tryz.prog 18 #[.pointer (some ⟨bx, 0, none⟩), .int .i64 x, .int .i64 y] w fun e w' => (∃ (s : ByteArray) (n : Int), e = .returned (.tuple #[.string s, .int .i64 n]) ∧ ExtAns t x y s n) ∧ Below w.heap.size w w' := by
  have hlen := xlen_any a z bx t rate w h
  obtain ⟨bs, ib, rt, G, r, root, F, wv, av, kv, rfl, h2, h3, h4⟩ := h
  have c0 : w.cell? ⟨bx, 0, none⟩ = some (.pointer (some ⟨ib, 0, none⟩)) := cell_of h2 rfl
  have hno := none_any w bx ib c0
  have hex := fun (u v : Nat) (huv : u ≤ v) (hv : v ≤ t.size) => iextract_any h3 (rw_text t) (fun i hi => by rw [LT_lt t hi, BY_lt t hi]) (by omega) (by omega) u v huv hv
  have HEX : Hid _ := hex
  clear h2 h3 h4 hex
  by_cases hx : x < 0
  · have d1 : decide (x < 0) = true := decide_eq_true hx
    go_enter Tryz.func18, Tryz.ntmps18
    go_wp2_with fail
    refine hno.mono ?_
    rintro e w' ⟨rfl, rfl⟩
    clear hlen
    go_wp2
    go_ret2
    exact ⟨⟨_, 3, rfl, .inr ⟨by omega, rfl, rfl⟩⟩, Below.refl _ _⟩
  · have d1 : decide (x < 0) = false := decide_eq_false hx
    by_cases hy : (t.size : Int) < y
    · have d2 : decide ((t.size : Int) < y) = true := decide_eq_true hy
      go_enter Tryz.func18, Tryz.ntmps18
      go_wp2_with fail
      refine hno.mono ?_
      rintro e w' ⟨rfl, rfl⟩
      go_wp2_with fail
      refine hlen.mono ?_
      rintro e w' ⟨rfl, rfl⟩
      go_wp2
      go_ret2
      exact ⟨⟨_, 3, rfl, .inr ⟨by omega, rfl, rfl⟩⟩, Below.refl _ _⟩
    · have d2 : decide ((t.size : Int) < y) = false := decide_eq_false hy
      by_cases hz : y < x
      · have d3 : decide (y < x) = true := decide_eq_true hz
        go_enter Tryz.func18, Tryz.ntmps18
        go_wp2_with fail
        refine hno.mono ?_
        rintro e w' ⟨rfl, rfl⟩
        go_wp2_with fail
        refine hlen.mono ?_
        rintro e w' ⟨rfl, rfl⟩
        go_wp2
        go_ret2
        exact ⟨⟨_, 3, rfl, .inr ⟨by omega, rfl, rfl⟩⟩, Below.refl _ _⟩
      · have d3 : decide (y < x) = false := decide_eq_false hz
        obtain ⟨u, rfl⟩ : ∃ u : Nat, x = u := ⟨x.toNat, by omega⟩
        obtain ⟨v, rfl⟩ : ∃ v : Nat, y = v := ⟨y.toNat, by omega⟩
        have hc := HEX.out u v (by omega) (by omega)
        go_enter Tryz.func18, Tryz.ntmps18
        go_wp2_with fail
        refine hno.mono ?_
        rintro e w' ⟨rfl, rfl⟩
        go_wp2_with fail
        refine hlen.mono ?_
        rintro e w' ⟨rfl, rfl⟩
        go_wp2_with fail
        refine hc.mono ?_
        rintro e w' ⟨rfl, hb⟩
        clear hc
        go_wp2
        go_ret2
        exact ⟨⟨_, 0, rfl, .inl ⟨by omega, by omega, by omega, by simp, rfl⟩⟩, hb⟩
end Go.Proofs.YtopihgmemnokkaaGreat
namespace Go.Proofs.YtopihgmemnokkaaGreat
open Go.RowKit
set_option maxRecDepth 100000 in
set_option maxHeartbeats 1000000 in
theorem xbuild_any (t : ByteArray) (rate : Int) (w : World) (hr1 : -9223372036854775808 ≤ rate) (hr2 : rate ≤ 9223372036854775807) : Calls Tryz.prog 29 #[.string t, .int .i64 rate] w fun e w' =>
    (¬ BuildOk t rate ∧ e = .returned (.tuple #[.pointer none, .int .i64 (buildErr t rate)]) ∧ Below w.heap.size w w') ∨
    (BuildOk t rate ∧ ∃ b, e = .returned (.tuple #[.pointer (some ⟨b, 0, none⟩), .int .i64 0]) ∧ PIx w.heap.size w'.heap.size b t rate w' ∧ Below w.heap.size w w') := by
  by_cases hs : 1000 < t.size
  · have d1 : decide ((1000 : Int) < (t.size : Int)) = true := decide_eq_true (by omega)
    have he : buildErr t rate = 1 := by unfold buildErr; rw [if_pos hs]
    go_enter Tryz.func29, Tryz.ntmps29
    go_wp2
    go_ret2
    refine .inl ⟨fun h => ?_, by first | rfl | (rw [he]; rfl), Below.refl _ _⟩
    have := h.1; omega
  · have d1 : decide ((1000 : Int) < (t.size : Int)) = false := decide_eq_false (by omega)
    by_cases h1 : rate < 1
    · have d2 : decide (rate < 1) = true := decide_eq_true h1
      have he : buildErr t rate = 2 := by unfold buildErr; rw [if_neg hs, if_pos (.inl h1)]
      go_enter Tryz.func29, Tryz.ntmps29
      go_wp2
      go_ret2
      refine .inl ⟨fun h => ?_, by first | rfl | (rw [he]; rfl), Below.refl _ _⟩
      have := h.2.1; omega
    · have d2 : decide (rate < 1) = false := decide_eq_false h1
      by_cases h2 : 64 < rate
      · have d3 : decide (64 < rate) = true := decide_eq_true h2
        have he : buildErr t rate = 2 := by unfold buildErr; rw [if_neg hs, if_pos (.inr h2)]
        go_enter Tryz.func29, Tryz.ntmps29
        go_wp2
        go_ret2
        refine .inl ⟨fun h => ?_, by first | rfl | (rw [he]; rfl), Below.refl _ _⟩
        have := h.2.2; omega
      · have d3 : decide (64 < rate) = false := decide_eq_false h2
        have hts : t.size ≤ 1000 := by omega
        obtain ⟨rt, rfl⟩ : ∃ rt : Nat, rate = rt := ⟨rate.toNat, by omega⟩
        go_enter Tryz.func29, Tryz.ntmps29
        go_wp2_with fail
        refine (forth_any t _ hts).mono ?_
        rintro e w1 ⟨b, rows, rfl, hsz, hrows, hb, hB⟩
        have hbt : b = trn t := BY_ext (by rw [hsz, trn_size]) fun k hk => by rw [hb k (by omega), trn_BY t (by omega), tb_of t hrows (by omega)]
        subst hbt
        clear hb hrows hsz
        have hz1 := hB.size
        have hts2 : (trn t).size = t.size := trn_size t
        have hrw := rw_text t
        have hof := indexOf_any (trn t) (fw t) rt (LT t) (placeOf t) w1 (by rw [hts2]; exact hts) (by rw [hts2]; exact hrw.fwle) (by rw [hts2]; exact hrw) (by omega) (by omega)
        rw [hts2] at hof
        clear hrw hts2
        go_wp2_with fail
        refine hof.mono ?_
        rintro e w2 ⟨ib, G, r, root, F, wv, av, kv, rfl, hI, hB2⟩
        have hz2 := hB2.size
        have HI : Hid (Ixs w2 ib rt t.size (BY (trn t)) (fw t) (placeOf t) w1.heap.size G r root F wv av kv) := hI
        clear hof hI
        go_wp2
        go_ret2
        refine .inr ⟨⟨hts, by omega, by omega⟩, w2.heap.size, rfl, ?_, ?_⟩
        · have hal : Below w2.heap.size w2 (w2.alloc (.cells #[.pointer (some ⟨ib, 0, none⟩)] 67)) := (Below.refl _ _).alloc (Nat.le_refl _) _
          have hI2 := HI.out.below hal
          have hml := HI.out.mrk.lt
          have hTl := HI.out.rws.tre.tree.lt
          have hlo := HI.out.low
          have hibl := HI.out.rws.lt
          refine ⟨w1.heap.size, ib, rt, G, r, root, F, wv, av, kv, rfl, heap_alloc_new _ _, hI2, fun k hk => ?_⟩
          have hzz : (w2.alloc (.cells #[.pointer (some ⟨ib, 0, none⟩)] 67)).heap.size = w2.heap.size + 1 := by simp
          rw [hzz]
          rcases hk with h | h | h | h
          · omega
          · omega
          · have := hTl k h; omega
          · have := hml k h; omega
        · exact hB.trans ((hB2.trans ((Below.refl _ _).alloc hz2 _)).mono hz1)
theorem PIx.says : Lay.Says PIx where
  build := fun t rate w _ h1 h2 => xbuild_any t rate w h1 h2
  len := fun a z b t rate w h _ => (xlen_any a z b t rate w h).mono fun _ _ ⟨h1, h2⟩ => ⟨h1, h2 ▸ Below.refl _ _⟩
  count := fun a z b t p rate w h _ hp => xcount_any a z b t p rate w h (by omega)
  locate := fun a z b t p rate w h hk hp => xlocate_any a z b t p rate w h hk.2 (by omega)
  extract := fun a z b t rate x y w h hk _ _ => xextract_any a z b t rate x y w h hk.2
end Go.Proofs.YtopihgmemnokkaaGreat
namespace Go.Proofs.YtopihgmemnokkaaGreat
open Go.RowKit
section
variable {base : Nat} {w : World} {rb o : Nat} {G : Nat → Nat × Nat} {r : Nat} {root : Value} {F : Nat → Prop} {fw : Nat}
set_option maxRecDepth 100000 in
set_option maxHeartbeats 1000000 in
theorem ttext_any (s : ByteArray) (h : Rws base w rb o G r root F s.size (BY s) fw) :
    Calls Tryz.prog 112 #[.pointer (some ⟨rb, o, none⟩)] w fun e w' => e = .returned (.string s) ∧ Below w.heap.size w w' := by
  have hn := h.nle
  have hmk := fun w => make_bytes s.size (by omega) w
  have c0 := h.tre.size
  rw [Wv.waysOf_len] at c0
  have HH : Hid (Rws base w rb o G r root F s.size (BY s) fw) := h
  clear h
  go_enter Tryz.func112, Tryz.ntmps112
  go_wp2
  go_loopw [12] (fun iv wr => ∃ i : Nat, i ≤ s.size ∧ iv = .int .i64 i ∧ Hid (RowB wr w.heap.size s.size (fun k => if k < i then BY s k else 0)) ∧ Hid (Below w.heap.size w wr)) (fun iv _ => s.size - (intOf iv).toNat)
  case atStart => exact ⟨0, by omega, rfl, (RowB.new' s.size (fun _ => 0) rfl).congr fun j _ => by simp, (Below.refl _ _).alloc (Nat.le_refl _) _⟩
  case round =>
    clear hmk c0
    obtain ⟨i, hi, rfl, HR, HB⟩ := hrel
    by_cases hlt : i < s.size
    · have hX := Wv.waysOf_get (fun c => bl (G c)) (BY s) hlt
      have hat := at_any base wr rb o G _ r root F (HH.out.below HB.out).tre i _ (HH.out.byte i hlt) (HH.out.live i hlt) hX
      have hby := BY_le s i
      have HAT : Hid (Calls Tryz.prog 110 #[.pointer (some ⟨rb, o, none⟩), .int .i64 (i : Nat)] wr fun e w' => ∃ q : Nat, e = .returned (.tuple #[.int .u8 (BY s i : Nat), .int .i64 (q : Nat)]) ∧ Below wr.heap.size wr w') := hat.mono fun e w' ⟨h1, h2⟩ => ⟨_, h1, h2⟩
      have hli : (i : Int) < (s.size : Int) := by omega
      have hrl := (Array.getElem?_eq_some_iff.1 HR.out).1
      have HST : Hid (∀ W, RowB W w.heap.size s.size (fun k => if k < i then BY s k else 0) → RowB (W.setCell ⟨w.heap.size, i, none⟩ (.int .u8 (BY s i : Nat))) w.heap.size s.size (fun k => if k < i + 1 then BY s k else 0)) := fun W hW => (hW.set i (BY s i)).congr fun k _ => by
        unfold Cc.put
        by_cases e : k = i
        · subst e; rw [if_pos rfl, if_pos (by omega)]
        · rw [if_neg e]
          show (if k < i then BY s k else 0) = _
          by_cases e2 : k < i
          · rw [if_pos e2, if_pos (by omega)]
          · rw [if_neg e2, if_neg (by omega)]
      clear hat hX
      generalize BY s i = c at *
      go_wp2_with fail
      refine HAT.out.mono ?_
      rintro e w2 ⟨q, rfl, hb2⟩
      have hR2 : RowB w2 w.heap.size s.size (fun k => if k < i then BY s k else 0) := by
        unfold RowB
        rw [hb2.block _ hrl]; exact HR.out
      have t0 := hR2.cell (i := i) hlt
      have f0 := hR2.frozen i
      have HR3 : Hid (RowB (w2.setCell ⟨w.heap.size, i, none⟩ (.int .u8 (c : Nat))) w.heap.size s.size (fun k => if k < i + 1 then BY s k else 0)) := HST.out w2 hR2
      have HB3 : Hid (Below w.heap.size w (w2.setCell ⟨w.heap.size, i, none⟩ (.int .u8 (c : Nat)))) := (HB.out.trans (hb2.mono HB.out.size)).setCell (by simp) _
      clear hb2 hR2 HR HB HST HAT
      go_wp2
      exact ⟨⟨i + 1, by omega, by go_num, HR3, HB3⟩, by simp [intOf]; omega⟩
    · have hi' : i = s.size := by omega
      subst hi'
      have hown := rowB_own (base := w.heap.size) (HR.out.congr (g := BY s) (fun k hk => by rw [if_pos hk])) (Nat.le_refl _) (by omega)
      have hl : ((List.range s.size).map (BY s)).length = s.size := by simp
      have hcv := conv_bys (l := (List.range s.size).map (BY s)) (v := .slice (some ⟨w.heap.size, 0, none⟩) s.size s.size) (w := wr) (base := w.heap.size) (by rw [hl]; exact hown)
      have hs : bys ((List.range s.size).map (BY s)) = s := by
        refine BY_ext (by rw [bys_size, hl]) fun k hk => ?_
        rw [bys_size, hl] at hk
        exact bys_BY _ (by simp [hk]) (BY_le s k)
      rw [hs] at hcv
      clear hown hl hs
      go_wp2
      go_ret
      exact ⟨rfl, HB.out⟩
set_option maxRecDepth 100000 in
set_option maxHeartbeats 1000000 in
theorem rturned_any (s : ByteArray) (h : Rws base w rb o G r root F s.size (BY s) fw) :
    Calls Tryz.prog 73 #[.pointer (some ⟨rb, o, none⟩)] w fun e w' => e = .returned (.tuple #[.string s, .int .i64 (fw : Nat)]) ∧ Below w.heap.size w w' := by
  have hwh := h.whole
  have HT : Hid (∀ W, Below w.heap.size w W → Calls Tryz.prog 112 #[.pointer (some ⟨rb, o, none⟩)] W fun e w' => e = .returned (.string s) ∧ Below w.heap.size w w' ∧ w'.cell? ⟨rb, o + 771, none⟩ = some (.int .i64 (fw : Nat))) := fun W hW =>
    (ttext_any s (h.below hW)).mono fun e w' ⟨he, hb⟩ => by
      have h2 := hW.trans (hb.mono hW.size)
      exact ⟨he, h2, cell_keep (Kept.of_below h2 (Nat.le_refl _) (fun _ => False)) hwh (fun h => h)⟩
  have bd0 : Below w.heap.size w w.drew := bdrew (Below.refl _ _)
  have s0 : w.drew.cell? ⟨rb, o + 771, none⟩ = some (.int .i64 (fw : Nat)) := hwh
  clear h
  go_enter Tryz.func73, Tryz.ntmps73
  go_wp2_with fail
  go_region_held3 (fun w' => w'.cell? ⟨rb, o + 771, none⟩ = some (.int .i64 (fw : Nat))) (assumption) ((go_at_call 112; refine (HT.out _ (by assumption)).mono ?_; rintro e w3 ⟨rfl, hb3, hS3⟩))
  clear HT s0 bd0
  go_wp2
  go_ret2
  exact ⟨rfl, hb3⟩
end
end Go.Proofs.YtopihgmemnokkaaGreat
namespace Go.Proofs.YtopihgmemnokkaaGreat
open Go.RowKit
set_option maxRecDepth 100000 in
set_option maxHeartbeats 1000000 in
theorem parts_any {w : World} {ib rate : Nat} {s : ByteArray} {fw : Nat} {pl : Nat → Nat} {base : Nat} {G : Nat → Nat × Nat} {r : Nat} {root : Value} {F : Nat → Prop} {wv av kv : Value} (h : Ixs w ib rate s.size (BY s) fw pl base G r root F wv av kv) :
    Calls Tryz.prog 35 #[.pointer (some ⟨ib, 0, none⟩)] w fun e w' => e = .returned (.tuple #[.string s, .int .i64 (fw : Nat), .int .i64 (rate : Nat)]) ∧ Below w.heap.size w w' := by
  have ht := rturned_any s h.rws
  have hr := idx_rate h.mrk.bits.four
  clear h
  go_enter Tryz.func35, Tryz.ntmps35
  go_wp2_with fail
  refine ht.mono ?_
  rintro e w2 ⟨rfl, hb2⟩
  have hr2 := cell_keep (Kept.of_below hb2 (Nat.le_refl _) (fun _ => False)) hr (fun h => h)
  clear ht hr
  go_wp2_with fail
  go_quiet (fail)
  go_wp2
  refine bodyPost_ret (results_tmp3 Tryz.results35 _ _ _) rfl ⟨rfl, ?_⟩
  exact below_drewN hb2 nq
set_option maxRecDepth 100000 in
set_option maxHeartbeats 1000000 in
theorem marshal_any (a z bx : Nat) (t : ByteArray) (rate : Int) (w : World) (h : PIx a z bx t rate w) (hbo : BuildOk t rate) :
    Calls Tryz.prog 19 #[.pointer (some ⟨bx, 0, none⟩)] w fun e w' => e = .returned (.string (mar t rate.toNat)) ∧ Below w.heap.size w w' := by
  obtain ⟨bs, ib, rt, G, r, root, F, wv, av, kv, rfl, h2, h3, h4⟩ := h
  have c0 : w.cell? ⟨bx, 0, none⟩ = some (.pointer (some ⟨ib, 0, none⟩)) := cell_of h2 rfl
  have hno := none_any w bx ib c0
  have hts := trn_size t
  have h3' : Ixs w ib rt (trn t).size (BY (trn t)) (fw t) (placeOf t) bs G r root F wv av kv := by rw [hts]; exact h3
  have hp := parts_any h3'
  have HW : Hid (∀ W, Calls Tryz.prog 36 #[.agg #[.int .i64 (rt : Nat), .int .i64 (fw t : Nat), .string (trn t)]] W fun e w' => e = .returned (.string (mar t rt)) ∧ Below W.heap.size W w') := fun W => write_any t rt W hbo
  rw [show ((rt : Nat) : Int).toNat = rt by simp]
  clear h2 h3 h3' h4 hts hbo
  go_enter Tryz.func19, Tryz.ntmps19
  go_wp2_with fail
  refine hno.mono ?_
  rintro e w1 ⟨rfl, hw⟩
  have hw2 := hw.symm
  clear hw
  subst hw2
  clear hno
  go_wp2_with fail
  refine hp.mono ?_
  rintro e w2 ⟨rfl, hb2⟩
  clear hp c0
  go_wp2_with fail
  refine (HW.out w2).mono ?_
  rintro e w3 ⟨rfl, hb3⟩
  have hall := hb2.trans (hb3.mono hb2.size)
  clear HW hb2 hb3
  go_wp2
  go_ret
  exact ⟨rfl, hall⟩
set_option maxRecDepth 100000 in
set_option maxHeartbeats 1000000 in
theorem unmarshal_any (d : ByteArray) (w : World) : Calls Tryz.prog 20 #[.string d] w fun e w' =>
    ((∃ t r b, Mar d t r ∧ e = .returned (.tuple #[.pointer (some ⟨b, 0, none⟩), .int .i64 0]) ∧ PIx w.heap.size w'.heap.size b t (r : Nat) w') ∨ ((∀ t r, ¬ Mar d t r) ∧ e = .returned (.tuple #[.pointer none, .int .i64 4]))) ∧ Below w.heap.size w w' := by
  have hrd := recRead_any d w
  go_enter Tryz.func20, Tryz.ntmps20
  go_wp2_with fail
  refine hrd.mono ?_
  rintro e w1 ⟨hb1, ⟨t, rt, hm, rfl⟩ | ⟨hno, rfl⟩⟩
  · have hbo := hm.1
    have hts : t.size ≤ 1000 := hbo.1
    have hr1 : 0 < rt := by have := hbo.2.1; omega
    have hr2 : rt ≤ 64 := by have := hbo.2.2; omega
    have HM : Hid (Mar d t rt) := hm
    have hts2 : (trn t).size = t.size := trn_size t
    have hz1 := hb1.size
    have hal : Below w.heap.size w (w1.alloc (.cells #[.int .i64 (rt : Nat), .int .i64 (fw t : Nat), .string (trn t)] 72)) := hb1.alloc hz1 _
    have HAL : Hid (Below w.heap.size w (w1.alloc (.cells #[.int .i64 (rt : Nat), .int .i64 (fw t : Nat), .string (trn t)] 72))) := hal
    have hza : (w1.alloc (.cells #[.int .i64 (rt : Nat), .int .i64 (fw t : Nat), .string (trn t)] 72)).heap.size = w1.heap.size + 1 := by simp
    have hrw := rw_text t
    have hof := indexOf_any (trn t) (fw t) rt (LT t) (placeOf t) (w1.alloc (.cells #[.int .i64 (rt : Nat), .int .i64 (fw t : Nat), .string (trn t)] 72)) (by rw [hts2]; exact hts) (by rw [hts2]; exact hrw.fwle) (by rw [hts2]; exact hrw) hr1 hr2
    rw [hts2] at hof
    clear hrd hm hbo hb1 hal hrw hts2
    go_wp2_with fail
    generalize w1.alloc (.cells #[.int .i64 (rt : Nat), .int .i64 (fw t : Nat), .string (trn t)] 72) = wa at *
    refine hof.mono ?_
    rintro e w2 ⟨ib, G, r, root, F, wv, av, kv, rfl, hI, hB2⟩
    have hz2 := hB2.size
    have HI : Hid (Ixs w2 ib rt t.size (BY (trn t)) (fw t) (placeOf t) wa.heap.size G r root F wv av kv) := hI
    clear hof hI
    go_wp2
    go_ret2
    refine ⟨.inl ⟨t, rt, w2.heap.size, HM.out, rfl, ?_⟩, ?_⟩
    · have hal : Below w2.heap.size w2 (w2.alloc (.cells #[.pointer (some ⟨ib, 0, none⟩)] 67)) := (Below.refl _ _).alloc (Nat.le_refl _) _
      have hI2 := HI.out.below hal
      have hml := HI.out.mrk.lt
      have hTl := HI.out.rws.tre.tree.lt
      have hlo := HI.out.low
      have hibl := HI.out.rws.lt
      refine ⟨wa.heap.size, ib, rt, G, r, root, F, wv, av, kv, rfl, heap_alloc_new _ _, hI2, fun k hk => ?_⟩
      have hzz : (w2.alloc (.cells #[.pointer (some ⟨ib, 0, none⟩)] 67)).heap.size = w2.heap.size + 1 := by simp
      rw [hzz]
      rcases hk with h | h | h | h
      · omega
      · omega
      · have := hTl k h; omega
      · have := hml k h; omega
    · exact HAL.out.trans ((hB2.trans ((Below.refl _ _).alloc hz2 _)).mono (by omega))
  · have hz1 := hb1.size
    have HNO : Hid (∀ t r, ¬ Mar d t r) := hno
    have hal : Below w.heap.size w (w1.alloc (.cells #[.int .i64 0, .int .i64 0, .string ⟨#[]⟩] 72)) := hb1.alloc hz1 _
    clear hrd hno
    go_wp2
    go_ret2
    exact ⟨.inr ⟨HNO.out, rfl⟩, hal⟩
end Go.Proofs.YtopihgmemnokkaaGreat
namespace Go.Proofs.YtopihgmemnokkaaGreat
open Go.RowKit
theorem kone_byte (w : World) (z : Int) : (convert 55 9 (.slice (some ⟨w.heap.size, 0, none⟩) 1 1)).run Tryz.prog (w.alloc (.cells #[.int .u8 z] 5)) = .ok (.string (strOfNums [z])) (w.alloc (.cells #[.int .u8 z] 5)) :=
  run_convert_bytes_arg (P := Tryz.prog) (w.alloc (.cells #[.int .u8 z] 5)) 55 5 Tryz.underlying55 Tryz.underlying5 w.heap.size 0 1 1 [z] rfl (by
    intro i hi
    have h1 : (w.alloc (.cells #[.int .u8 z] 5)).heap[w.heap.size]? = some (.cells #[.int .u8 z] 5 (0, 0)) := heap_alloc_new w _
    rw [Nat.zero_add]
    unfold World.cell?
    rw [h1]
    have hi2 : i < 1 := by simpa using hi
    match i, hi2 with
    | 0, _ => rfl) 9 Tryz.underlying9
theorem turn_byte (D : ByteArray) {u z : Nat} (hu : u < D.size) (hz : z ≤ 255) (hne : z ≠ BY D u) :
    (D.extract 0 u ++ strOfNums [(z : Int)] ++ D.extract (u + 1) D.size).size = D.size ∧ BY (D.extract 0 u ++ strOfNums [(z : Int)] ++ D.extract (u + 1) D.size) u ≠ BY D u ∧
      ∀ j, j ≠ u → BY (D.extract 0 u ++ strOfNums [(z : Int)] ++ D.extract (u + 1) D.size) j = BY D j := by
  have h1 : (D.extract 0 u).size = u := by rw [ByteArray.size_extract]; omega
  have h2 : (strOfNums [(z : Int)]).size = 1 := by rw [strOfNums_size]; rfl
  have h3 : (D.extract (u + 1) D.size).size = D.size - (u + 1) := by rw [ByteArray.size_extract]; omega
  have hb : strOfNums [(z : Int)] = bys [z] := rfl
  have h4 : (D.extract 0 u ++ strOfNums [(z : Int)]).size = u + 1 := by rw [ByteArray.size_append, h1, h2]
  have hsz : (D.extract 0 u ++ strOfNums [(z : Int)] ++ D.extract (u + 1) D.size).size = D.size := by rw [ByteArray.size_append, h4, h3]; omega
  refine ⟨hsz, ?_, fun j hj => ?_⟩
  · rw [by_left _ _ (by omega)]
    have := by_right (D.extract 0 u) (strOfNums [(z : Int)]) (j := 0) (by omega)
    rw [h1, Nat.add_zero] at this
    rw [this, hb, bys_BY [z] rfl hz]; exact hne
  · rcases Nat.lt_or_ge j u with hl | hl
    · rw [by_left _ _ (by omega), by_left _ _ (by omega), by_extract D (by omega) (by omega), Nat.zero_add]
    · obtain ⟨q, rfl⟩ : ∃ q, j = u + 1 + q := ⟨j - (u + 1), by omega⟩
      rcases Nat.lt_or_ge (u + 1 + q) D.size with hq | hq
      · have := by_right (D.extract 0 u ++ strOfNums [(z : Int)]) (D.extract (u + 1) D.size) (j := q) (by omega)
        rw [h4] at this
        rw [this, by_extract D (by omega) (Nat.le_refl _)]
      · unfold BY
        rw [dif_neg (by omega), dif_neg (by omega)]
theorem no_turned {t : ByteArray} {r : Nat} {X : ByteArray} {u : Nat} (hs : X.size = (mar t r).size) (hne : BY X u ≠ BY (mar t r) u) (hsame : ∀ j, j ≠ u → BY X j = BY (mar t r) j) : ∀ t' r', ¬ Mar X t' r' := fun t' r' hm => by
  rw [hm.2] at hs hne hsame
  exact mar_turned t' t r' r hs hne hsame
theorem no_more {t : ByteArray} {r : Nat} (h : BuildOk t (r : Nat)) {x : ByteArray} (hx : 0 < x.size) : ∀ t' r', ¬ Mar (mar t r ++ x) t' r' := fun t' r' hm => by
  have := mar_more h hm.1 hm.2; omega
theorem cut_last (D : ByteArray) (h : 1 ≤ D.size) : D.extract 0 (D.size - 1) ++ D.extract (D.size - 1) D.size = D ∧ (D.extract (D.size - 1) D.size).size = 1 := by
  have h1 : (D.extract 0 (D.size - 1)).size = D.size - 1 := by rw [ByteArray.size_extract]; omega
  have h2 : (D.extract (D.size - 1) D.size).size = 1 := by rw [ByteArray.size_extract]; omega
  refine ⟨by_ext (by rw [ByteArray.size_append, h1, h2]; omega) fun j hj => ?_, h2⟩
  rw [ByteArray.size_append, h1, h2] at hj
  rcases Nat.lt_or_ge j (D.size - 1) with hl | hl
  · rw [by_left _ _ (by omega), by_extract _ (by omega) (by omega), Nat.zero_add]
  · have := by_right (D.extract 0 (D.size - 1)) (D.extract (D.size - 1) D.size) (j := j - (D.size - 1)) (by omega)
    rw [h1, show D.size - 1 + (j - (D.size - 1)) = j by omega] at this
    rw [this, by_extract _ (by omega) (Nat.le_refl _)]
    congr 1; omega
theorem no_less {t : ByteArray} {r : Nat} (h : BuildOk t (r : Nat)) : ∀ t' r', ¬ Mar ((mar t r).extract 0 ((mar t r).size - 1)) t' r' := fun t' r' hm => by
  have hs := mar_size t r
  obtain ⟨e, h2⟩ := cut_last (mar t r) (by omega)
  rw [hm.2] at e
  have := mar_more hm.1 h e
  omega
theorem unmarshal_not {d : ByteArray} (h : ∀ t r, ¬ Mar d t r) (w : World) : Calls Tryz.prog 20 #[.string d] w fun e w' => e = .returned (.tuple #[.pointer none, .int .i64 4]) ∧ Below w.heap.size w w' :=
  (unmarshal_any d w).mono fun e w' ⟨hc, hb⟩ => by
    rcases hc with ⟨t, r, b, hm, _⟩ | ⟨_, he⟩
    · exact absurd hm (h t r)
    · exact ⟨he, hb⟩
theorem unmarshal_is {t : ByteArray} {r : Nat} (h : BuildOk t (r : Nat)) (w : World) : Calls Tryz.prog 20 #[.string (mar t r)] w fun e w' => ∃ b, e = .returned (.tuple #[.pointer (some ⟨b, 0, none⟩), .int .i64 0]) ∧ PIx w.heap.size w'.heap.size b t (r : Nat) w' ∧ Below w.heap.size w w' :=
  (unmarshal_any (mar t r) w).mono fun e w' ⟨hc, hb⟩ => by
    rcases hc with ⟨t', r', b, hm, he, hp⟩ | ⟨hn, _⟩
    · obtain ⟨h1, h2⟩ := Mar.uniq hm ⟨h, rfl⟩
      subst h1; subst h2
      exact ⟨b, he, hp, hb⟩
    · exact absurd ⟨h, rfl⟩ (hn t r)
theorem PIx.go {a z b : Nat} {t : ByteArray} {rate : Int} {w w' : World} (h : PIx a z b t rate w) (hb : Below w.heap.size w w') : PIx a z b t rate w' :=
  PIx.ok.keep (fun _ => False) _ _ _ _ _ _ _ h (Kept.of_below hb (Nat.le_refl _) (fun _ => False)) (fun _ _ _ h => h)
theorem PIx.wideK : Lay.Wide PIx where
  count := fun a z b t p rate w h _ hp => xcount_any a z b t p rate w h hp
  locate := fun a z b t p rate w h hk hp => xlocate_any a z b t p rate w h hk.2 hp
set_option maxRecDepth 100000 in
set_option maxHeartbeats 4000000 in
theorem keepKept_any (t0 : ByteArray) (rate at_ by_ : Int) (h1 : -9223372036854775808 ≤ rate ∧ rate ≤ 9223372036854775807) (h2 : -9223372036854775808 ≤ at_ ∧ at_ ≤ 9223372036854775807) (h3 : -9223372036854775808 ≤ by_ ∧ by_ ≤ 9223372036854775807) (sv : Value) (k : Nat) (raw : ByteArray) (w : World) (hT : StrsIn w sv k) :
    Calls Tryz.prog 8 #[.string t0, .int .i64 rate, sv, .int .i64 at_, .int .i64 by_, .string raw] w fun e w' => e = .returned (.bool true) ∧ Below w.heap.size w w' := by
  obtain ⟨sa, sc, rfl⟩ : ∃ sa sc, sv = .slice sa k sc := by
    rcases hT with ⟨rfl, rfl⟩ | ⟨a, cap, rfl, _⟩
    · exact ⟨_, _, rfl⟩
    · exact ⟨_, _, rfl⟩
  have HT : Hid (StrsIn w (.slice sa k sc) k) := hT
  clear hT
  go_enter Tryz.func8, Tryz.ntmps8
  go_wp2_with fail
  refine (cut_any t0 1000 _ (by omega)).mono ?_
  rintro e w' ⟨rfl, hw⟩
  have hw2 := hw.symm
  clear hw
  subst hw2
  have hs := cutS_size t0 1000
  generalize cutS t0 1000 = t at *
  go_wp2_with fail
  refine (kindex_any PIx.ok PIx.says t hs rate h1.1 h1.2 _).mono ?_
  rintro e w1 ⟨bx, rt, rfl, hok, hP1, hB1⟩
  obtain ⟨r, rfl⟩ : ∃ r : Nat, rt = r := ⟨rt.toNat, by have := hok.2.1; omega⟩
  have HOK : Hid (BuildOk t (r : Nat)) := hok
  have HB1 : Hid (Below w.heap.size w w1) := hB1
  have hmar := marshal_any _ _ bx t (r : Nat) w1 hP1 hok
  rw [show ((r : Nat) : Int).toNat = r by simp] at hmar
  obtain ⟨hd43, hd15⟩ := mar_least hok
  clear hP1 hB1 hok
  go_wp2_with fail
  refine hmar.mono ?_
  rintro e w2 ⟨rfl, hB2⟩
  have HB2 : Hid (Below w.heap.size w w2) := HB1.out.trans (hB2.mono HB1.out.size)
  have hun := unmarshal_is HOK.out w2
  clear hmar hB2 HB1
  have HLESS : Hid (∀ t' r', ¬ Mar ((mar t r).extract 0 ((mar t r).size - 1)) t' r') := no_less HOK.out
  have HMORE : Hid (∀ t' r', ¬ Mar (mar t r ++ ⟨#[120]⟩) t' r') := no_more HOK.out (by decide)
  have HTURN : Hid (∀ (u z : Nat), u < (mar t r).size → z ≤ 255 → z ≠ BY (mar t r) u → ∀ t' r', ¬ Mar ((mar t r).extract 0 u ++ strOfNums [(z : Int)] ++ (mar t r).extract (u + 1) (mar t r).size) t' r') := fun u z hu hz hne => by
    obtain ⟨q1, q2, q3⟩ := turn_byte (mar t r) hu hz hne
    exact no_turned q1 q2 q3
  have HMM : Hid (∀ (a z b : Nat) (w : World), PIx a z b t (r : Nat) w → Calls Tryz.prog 19 #[.pointer (some ⟨b, 0, none⟩)] w fun e w' => e = .returned (.string (mar t r)) ∧ Below w.heap.size w w') := fun a z b w hp => by
    have := marshal_any a z b t (r : Nat) w hp HOK.out
    rw [show ((r : Nat) : Int).toNat = r by simp] at this
    exact this
  generalize mar t r = D at *
  go_wp2_with fail
  refine hun.mono ?_
  rintro e w3 ⟨b, rfl, hP3, hB3⟩
  have HB3 : Hid (Below w.heap.size w w3) := HB2.out.trans (hB3.mono HB2.out.size)
  have hle := xlen_any _ _ b t (r : Nat) w3 hP3
  have hma := HMM.out _ _ b w3 hP3
  have HP3 : Hid (PIx w2.heap.size w3.heap.size b t (r : Nat) w3) := hP3
  have d43 : decide ((D.size : Int) < 43) = false := decide_eq_false (by omega)
  have d43' : ¬ (D.size : Int) < 43 := by omega
  clear hun hP3 hB3 HB2
  go_wp2_with fail
  refine hle.mono ?_
  rintro e w4 ⟨rfl, hw⟩
  have hw2 := hw.symm
  clear hw
  subst hw2
  clear hle
  go_wp2_with fail
  refine hma.mono ?_
  rintro e w4 ⟨rfl, hB4⟩
  have HP4 : Hid (PIx w2.heap.size w3.heap.size b t (r : Nat) w4) := HP3.out.go hB4
  have HB4 : Hid (Below w.heap.size w w4) := HB3.out.trans (hB4.mono HB3.out.size)
  clear hma hB4 HP3 HB3 d43 d43'
  go_wp2
  go_loopw [17] (fun iv wr => ∃ i : Nat, i ≤ 10 ∧ iv = .int .i64 i ∧ Hid (PIx w2.heap.size w3.heap.size b t (r : Nat) wr) ∧ Hid (Below w.heap.size w wr)) (fun iv _ => 11 - (intOf iv).toNat)
  case atStart => exact ⟨0, by omega, rfl, HP4, HB4⟩
  case round =>
    clear HP4 HB4
    obtain ⟨i, hi, rfl, HP, HB⟩ := hrel
    by_cases hlt : i < k ∧ i < 10
    · have d1 : (i : Int) < (k : Int) := by omega
      have d2 : (i : Int) < 10 := by omega
      obtain ⟨a, rfl, s, hs0, hss⟩ : ∃ a, sa = some a ∧ ∃ s : ByteArray, w.cell? (a.add i) = some (.string s) ∧ s.size ≤ 9223372036854775807 := by
        rcases HT.out with ⟨_, h0⟩ | ⟨a, cap, e1, h3⟩
        · omega
        · injection e1 with e1
          subst e1
          exact ⟨a, rfl, h3 i hlt.1⟩
      have kx := (HB.out.cell (p := a.add i) (cell_block hs0)).trans hs0
      have hrt := kright_any PIx.ok PIx.wideK t s hs hss _ _ b (r : Nat) HOK.out wr HP.out
      clear hs0 hss
      go_wp2_with fail
      refine hrt.mono ?_
      rintro e w5 ⟨rfl, hB5⟩
      have HP5 : Hid (PIx w2.heap.size w3.heap.size b t (r : Nat) w5) := HP.out.go hB5
      have HB5 : Hid (Below w.heap.size w w5) := HB.out.trans (hB5.mono HB.out.size)
      clear hrt hB5 HP HB kx
      go_wp2
      exact ⟨⟨i + 1, by omega, by go_num, HP5, HB5⟩, by simp [intOf]; omega⟩
    · have hout : ¬ (i : Int) < (k : Int) ∨ ((i : Int) < (k : Int) ∧ ¬ (i : Int) < 10) := by omega
      clear hlt
      have hex := xextract_any _ _ b t (r : Nat) 0 (t.size : Nat) wr HP.out HOK.out.2
      rcases hout with d1 | ⟨d1, d2⟩
      all_goals
        go_wp2_with fail
        refine hex.mono ?_
        rintro e w5 ⟨⟨s, n, rfl, hA⟩, hB5⟩
        obtain ⟨rfl, rfl⟩ : s = t ∧ n = 0 := by
          rcases hA with ⟨_, _, _, hs2, hn⟩ | ⟨hn, _⟩
          · refine ⟨hs2.trans ?_, hn⟩
            simp
          · exact absurd ⟨by omega, by omega, by omega⟩ hn
        have HB5 : Hid (Below w.heap.size w w5) := HB.out.trans (hB5.mono HB.out.size)
        clear hex hA hB5 HP HB
        go_wp2_with fail
        refine (pick_any at_ (D.size : Nat) _ h2.1 h2.2 (by omega) (by omega)).mono ?_
        rintro e w6 ⟨⟨u, rfl, hu⟩, hw⟩
        have hw2 := hw.symm
        clear hw
        subst hw2
        have hud : u < D.size := by omega
        have hui : (u : Int) < (D.size : Int) := by omega
        have hu1 : (u : Int) + 1 ≤ (D.size : Int) := by omega
        go_wp2_with fail
        have hbu := BY_lt D hud
        have hbl := BY_le D u
        have hcv : ∀ z : Int, (convert 55 9 (.slice (some ⟨w5.heap.size, 0, none⟩) 1 1)).run Tryz.prog ((w5.alloc (.cells #[.int .u8 z] 5)).drew) = .ok (.string (strOfNums [z])) ((w5.alloc (.cells #[.int .u8 z] 5)).drew) := fun z => kone_byte w5.drew z
        have HPK : Hid (∀ W, Calls Tryz.prog 16 #[.int .i64 by_, .int .i64 255] W fun e w' => (∃ v : Nat, e = .returned (.int .i64 (v : Nat)) ∧ v < 255) ∧ w' = W) := fun W => (pick_any by_ 255 W h3.1 h3.2 (by omega) (by omega)).mono fun e w' ⟨⟨v, he, hv⟩, hw⟩ => ⟨⟨v, he, by omega⟩, hw⟩
        have hn1 : ¬ D.size < u := by omega
        have hn2 : ¬ D.size < u + 1 := by omega
        have hn3 : (0 : Int) ≤ (u : Int) := by omega
        have hn4 : (0 : Int) ≤ (u : Int) + 1 := by omega
        have hn5 : (u : Int) ≤ (D.size : Int) := by omega
        have hwu : IntKind.i64.wrap ((u : Int) + 1) = (u : Int) + 1 := by rw [IntKind.wrap_i64]; omega
        have z1 : (D.extract 0 u).size ≤ 1555 := by rw [ByteArray.size_extract]; omega
        have z2 : (D.extract (u + 1) D.size).size ≤ 1555 := by rw [ByteArray.size_extract]; omega
        have HTU := HTURN.out u
        rw [hbu] at HTU
        have HTU2 : Hid (∀ z : Nat, u < D.size → z ≤ 255 → z ≠ D[u].toNat → ∀ t' r', ¬ Mar (D.extract 0 u ++ strOfNums [(z : Int)] ++ D.extract (u + 1) D.size) t' r') := HTU
        have hby : D[u].toNat ≤ 255 := by rw [← hbu]; exact hbl
        clear HTU hbu hbl
        generalize hcc : D[u].toNat = c at *
        refine wp_region_held_drew (S := fun _ => True) (by kernel_rfl) trivial (fun _ => ?_)
        refine wpAnyH_take (i := 0) (v := .string D) rfl (by kernel_rfl) (by kernel_rfl) (by kernel_rfl) (fun _ _ _ h => h) (Or.inl ⟨by rfl, ?_⟩) trivial ?_
        · intro wq _; go_simp
        simp only [Act.put, List.getElem_toArray, List.getElem_cons_zero, List.setIfInBounds_toArray, List.set_cons_succ, List.set_cons_zero]
        refine wpAnyH_take (i := 1) (v := .int .i64 (u : Nat)) rfl (by kernel_rfl) (by kernel_rfl) (by kernel_rfl) (fun _ _ _ h => h) (Or.inl ⟨by rfl, ?_⟩) trivial ?_
        · intro wq _; go_simp
        simp only [Act.put, List.getElem_toArray, List.getElem_cons_succ, List.getElem_cons_zero, List.setIfInBounds_toArray, List.set_cons_succ, List.set_cons_zero]
        refine wpAnyH_take (i := 2) (v := .string (D.extract 0 u)) rfl (by kernel_rfl) (by kernel_rfl) (by kernel_rfl) (fun _ _ _ h => h) (Or.inl ⟨by rfl, ?_⟩) trivial ?_
        · intro wq _; go_simp
        simp only [Act.put, List.getElem_toArray, List.getElem_cons_succ, List.getElem_cons_zero, List.setIfInBounds_toArray, List.set_cons_succ, List.set_cons_zero]
        refine wpAnyH_take (i := 3) (v := .string D) rfl (by kernel_rfl) (by kernel_rfl) (by kernel_rfl) (fun _ _ _ h => h) (Or.inl ⟨by rfl, ?_⟩) trivial ?_
        · intro wq _; go_simp
        simp only [Act.put, List.getElem_toArray, List.getElem_cons_succ, List.getElem_cons_zero, List.setIfInBounds_toArray, List.set_cons_succ, List.set_cons_zero]
        refine wpAnyH_take (i := 4) (v := .int .i64 (u : Nat)) rfl (by kernel_rfl) (by kernel_rfl) (by kernel_rfl) (fun _ _ _ h => h) (Or.inl ⟨by rfl, ?_⟩) trivial ?_
        · intro wq _; go_simp
        simp only [Act.put, List.getElem_toArray, List.getElem_cons_succ, List.getElem_cons_zero, List.setIfInBounds_toArray, List.set_cons_succ, List.set_cons_zero]
        refine wpAnyH_take (i := 5) (v := .int .u8 (c : Nat)) rfl (by kernel_rfl) (by kernel_rfl) (by kernel_rfl) (fun _ _ _ h => h) (Or.inl ⟨by rfl, ?_⟩) trivial ?_
        · intro wq _; go_simp
        simp only [Act.put, List.getElem_toArray, List.getElem_cons_succ, List.getElem_cons_zero, List.setIfInBounds_toArray, List.set_cons_succ, List.set_cons_zero]
        refine wpAnyH_take (i := 6) (v := .int .i64 by_) rfl (by kernel_rfl) (by kernel_rfl) (by kernel_rfl) (fun _ _ _ h => h) (Or.inl ⟨by rfl, ?_⟩) trivial ?_
        · intro wq _; go_simp
        simp only [Act.put, List.getElem_toArray, List.getElem_cons_succ, List.getElem_cons_zero, List.setIfInBounds_toArray, List.set_cons_succ, List.set_cons_zero]
        refine wpAnyH_take (i := 14) (v := .string D) rfl (by kernel_rfl) (by kernel_rfl) (by kernel_rfl) (fun _ _ _ h => h) (Or.inl ⟨by rfl, ?_⟩) trivial ?_
        · intro wq _; go_simp
        simp only [Act.put, List.getElem_toArray, List.getElem_cons_succ, List.getElem_cons_zero, List.setIfInBounds_toArray, List.set_cons_succ, List.set_cons_zero]
        refine wpAnyH_take (i := 15) (v := .int .i64 (u : Nat)) rfl (by kernel_rfl) (by kernel_rfl) (by kernel_rfl) (fun _ _ _ h => h) (Or.inl ⟨by rfl, ?_⟩) trivial ?_
        · intro wq _; go_simp
        simp only [Act.put, List.getElem_toArray, List.getElem_cons_succ, List.getElem_cons_zero, List.setIfInBounds_toArray, List.set_cons_succ, List.set_cons_zero]
        refine wpAnyH_take (i := 16) (v := .int .i64 ((u : Int) + 1)) rfl (by kernel_rfl) (by kernel_rfl) (by kernel_rfl) (fun _ _ _ h => h) (Or.inl ⟨by rfl, ?_⟩) trivial ?_
        · intro wq _; go_simp
        simp only [Act.put, List.getElem_toArray, List.getElem_cons_succ, List.getElem_cons_zero, List.setIfInBounds_toArray, List.set_cons_succ, List.set_cons_zero]
        refine wpAnyH_take (i := 17) (v := .string (D.extract (u + 1) D.size)) rfl (by kernel_rfl) (by kernel_rfl) (by kernel_rfl) (fun _ _ _ h => h) (Or.inl ⟨by rfl, ?_⟩) trivial ?_
        · intro wq _; go_simp
        simp only [Act.put, List.getElem_toArray, List.getElem_cons_succ, List.getElem_cons_zero, List.setIfInBounds_toArray, List.set_cons_succ, List.set_cons_zero]
        refine wpAnyH_ready (rs := [7]) (by kernel_rfl) (by simp) ?_
        refine AllReadyH.cons rfl (fun K hK => ?_) AllReadyH.nil
        go_simp
        refine (HPK.out _).mono ?_
        rintro e w7 ⟨⟨v, rfl, hv⟩, rfl⟩
        refine hK.out _ _ trivial (fun _ => ?_)
        clear hK K
        have hwv : IntKind.i64.wrap (1 + (v : Int)) = 1 + (v : Int) := by rw [IntKind.wrap_i64]; omega
        have hwv2 : IntKind.u8.wrap (1 + (v : Int)) = 1 + (v : Int) := by rw [IntKind.wrap_u8]; omega
        obtain ⟨z, hz⟩ : ∃ z : Nat, (c + (1 + v)) % 256 = z := ⟨_, rfl⟩
        have hwz : IntKind.u8.wrap ((c : Int) + (1 + (v : Int))) = (z : Int) := by rw [IntKind.wrap_u8]; omega
        have hnm := HTU2.out z hud (by omega) (by omega)
        have z3 : (strOfNums [(z : Int)]).size ≤ 1 := by rw [strOfNums_size]; exact Nat.le_refl _
        have HNM : Hid (∀ t' r', ¬ Mar (D.extract 0 u ++ strOfNums [(z : Int)] ++ D.extract (u + 1) D.size) t' r') := hnm
        clear hnm hz
        refine wpAnyH_take (i := 8) (v := .int .i64 (1 + (v : Int))) rfl (by kernel_rfl) (by kernel_rfl) (by kernel_rfl) (fun _ _ _ h => h) (Or.inl ⟨by rfl, ?_⟩) trivial ?_
        · intro wq _; go_simp
        simp only [Act.put, List.getElem_toArray, List.getElem_cons_succ, List.getElem_cons_zero, List.setIfInBounds_toArray, List.set_cons_succ, List.set_cons_zero]
        refine wpAnyH_take (i := 9) (v := .int .u8 (1 + (v : Int))) rfl (by kernel_rfl) (by kernel_rfl) (by kernel_rfl) (fun _ _ _ h => h) (Or.inl ⟨by rfl, ?_⟩) trivial ?_
        · intro wq _; go_simp
        simp only [Act.put, List.getElem_toArray, List.getElem_cons_succ, List.getElem_cons_zero, List.setIfInBounds_toArray, List.set_cons_succ, List.set_cons_zero]
        refine wpAnyH_take (i := 10) (v := .int .u8 (z : Int)) rfl (by kernel_rfl) (by kernel_rfl) (by kernel_rfl) (fun _ _ _ h => h) (Or.inl ⟨by rfl, ?_⟩) trivial ?_
        · intro wq _; go_simp
        simp only [Act.put, List.getElem_toArray, List.getElem_cons_succ, List.getElem_cons_zero, List.setIfInBounds_toArray, List.set_cons_succ, List.set_cons_zero]
        refine wpAnyH_ready (rs := [11]) (by kernel_rfl) (by simp) ?_
        refine AllReadyH.cons rfl (fun K hK => ?_) AllReadyH.nil
        go_simp
        refine hK.out _ _ trivial (fun _ => ?_)
        clear hK K
        refine wpAnyH_ready (rs := [12]) (by kernel_rfl) (by simp) ?_
        refine AllReadyH.cons rfl (fun K hK => ?_) AllReadyH.nil
        go_simp
        refine hK.out _ _ trivial (fun _ => ?_)
        clear hK K
        have hk1 : ¬ 9223372036854775807 < (D.extract 0 u).size + (strOfNums [(z : Int)]).size := by omega
        have hk2 : ¬ 9223372036854775807 < (D.extract 0 u).size + (strOfNums [(z : Int)]).size + (D.extract (u + 1) D.size).size := by omega
        refine wpAnyH_take (i := 13) (v := .string (D.extract 0 u ++ strOfNums [(z : Int)])) rfl (by kernel_rfl) (by kernel_rfl) (by kernel_rfl) (fun _ _ _ h => h) (Or.inl ⟨by rfl, ?_⟩) trivial ?_
        · intro wq _; go_simp; omega
        simp only [Act.put, List.getElem_toArray, List.getElem_cons_succ, List.getElem_cons_zero, List.setIfInBounds_toArray, List.set_cons_succ, List.set_cons_zero]
        refine wpAnyH_take (i := 18) (v := .string (D.extract 0 u ++ strOfNums [(z : Int)] ++ D.extract (u + 1) D.size)) rfl (by kernel_rfl) (by kernel_rfl) (by kernel_rfl) (fun _ _ _ h => h) (Or.inl ⟨by rfl, ?_⟩) trivial ?_
        · intro wq _; go_simp; omega
        simp only [Act.put, List.getElem_toArray, List.getElem_cons_succ, List.getElem_cons_zero, List.setIfInBounds_toArray, List.set_cons_succ, List.set_cons_zero]
        refine wpAnyH_ready (rs := [19]) (by kernel_rfl) (by simp) ?_
        refine AllReadyH.cons rfl (fun K hK => ?_) AllReadyH.nil
        go_simp
        refine (unmarshal_not HNM.out _).mono ?_
        rintro e w8 ⟨rfl, hb8⟩
        refine hK.out _ _ trivial (fun _ => ?_)
        clear hK K
        refine wpAnyH_take (i := 20) (v := .tuple #[.pointer none, .int .i64 4]) rfl (by kernel_rfl) (by kernel_rfl) (by kernel_rfl) (fun _ _ _ h => h) (Or.inl ⟨by rfl, ?_⟩) trivial ?_
        · intro wq _; go_simp
        simp only [Act.put, List.getElem_toArray, List.getElem_cons_succ, List.getElem_cons_zero, List.setIfInBounds_toArray, List.set_cons_succ, List.set_cons_zero]
        refine wpAnyH_take (i := 21) (v := .pointer none) rfl (by kernel_rfl) (by kernel_rfl) (by kernel_rfl) (fun _ _ _ h => h) (Or.inl ⟨by rfl, ?_⟩) trivial ?_
        · intro wq _; go_simp
        simp only [Act.put, List.getElem_toArray, List.getElem_cons_succ, List.getElem_cons_zero, List.setIfInBounds_toArray, List.set_cons_succ, List.set_cons_zero]
        refine wpAnyH_take (i := 22) (v := .int .i64 4) rfl (by kernel_rfl) (by kernel_rfl) (by kernel_rfl) (fun _ _ _ h => h) (Or.inl ⟨by rfl, ?_⟩) trivial ?_
        · intro wq _; go_simp
        simp only [Act.put, List.getElem_toArray, List.getElem_cons_succ, List.getElem_cons_zero, List.setIfInBounds_toArray, List.set_cons_succ, List.set_cons_zero]
        refine wpAnyH_take (i := 23) (v := .pointer none) rfl (by kernel_rfl) (by kernel_rfl) (by kernel_rfl) (fun _ _ _ h => h) (Or.inl ⟨by rfl, ?_⟩) trivial ?_
        · intro wq _; go_simp
        simp only [Act.put, List.getElem_toArray, List.getElem_cons_succ, List.getElem_cons_zero, List.setIfInBounds_toArray, List.set_cons_succ, List.set_cons_zero]
        refine wpAnyH_take (i := 24) (v := .int .i64 4) rfl (by kernel_rfl) (by kernel_rfl) (by kernel_rfl) (fun _ _ _ h => h) (Or.inl ⟨by rfl, ?_⟩) trivial ?_
        · intro wq _; go_simp
        simp only [Act.put, List.getElem_toArray, List.getElem_cons_succ, List.getElem_cons_zero, List.setIfInBounds_toArray, List.set_cons_succ, List.set_cons_zero]
        refine wpAnyH_done (by kernel_rfl) ?_ _
        have HB8 : Hid (Below w.heap.size w w8) := ((HB5.out.drew).alloc (by show _ ≤ w5.heap.size; exact HB5.out.size) (.cells #[.int .u8 (z : Int)] 5)).trans (hb8.mono (by simp; have := HB5.out.size; omega))
        clear hb8 HB5 hcv HPK hn1 hn2 hn3 hn4 hn5 hwu z1 z2 HTU2 hwv hwv2 hwz z3 HNM hk1 hk2 hcc hud hui hu1 hu hv hby HTURN
        have hk3 : ¬ 9223372036854775807 < D.size + 1 := by omega
        go_wp2_with fail
        refine (unmarshal_not HMORE.out _).mono ?_
        rintro e w9 ⟨rfl, hb9⟩
        have HB9 : Hid (Below w.heap.size w w9) := HB8.out.trans (hb9.mono HB8.out.size)
        clear hb9 HB8 HMORE hk3
        have hl1 : (1 : Int) ≤ (D.size : Int) := by omega
        have hl2 : (0 : Int) ≤ (D.size : Int) - 1 := by omega
        have hl3 : ((D.size : Int) - 1).toNat = D.size - 1 := by omega
        go_wp2_with fail
        refine (unmarshal_not HLESS.out _).mono ?_
        rintro e w10 ⟨rfl, hb10⟩
        have HB10 : Hid (Below w.heap.size w w10) := HB9.out.trans (hb10.mono HB9.out.size)
        clear hb10 HB9 HLESS hl1 hl2 hl3
        go_wp2_with fail
        refine (unmarshal_any raw w10).mono ?_
        rintro e w11 ⟨hc, hb11⟩
        have HB11 : Hid (Below w.heap.size w w11) := HB10.out.trans (hb11.mono HB10.out.size)
        clear hb11 HB10
        rcases hc with ⟨t2, r2, b2, hm2, rfl, hP2⟩ | ⟨_, rfl⟩
        · have hm := marshal_any _ _ b2 t2 (r2 : Nat) w11 hP2 hm2.1
          rw [show ((r2 : Nat) : Int).toNat = r2 by simp, ← hm2.2] at hm
          clear hP2 hm2
          go_wp2_with fail
          refine hm.mono ?_
          rintro e w12 ⟨rfl, hb12⟩
          have HB12 : Hid (Below w.heap.size w w12) := HB11.out.trans (hb12.mono HB11.out.size)
          clear hm hb12 HB11
          go_wp2
          go_ret
          exact ⟨rfl, HB12.out⟩
        · go_wp2
          go_ret
          exact ⟨rfl, HB11.out⟩
end Go.Proofs.YtopihgmemnokkaaGreat
