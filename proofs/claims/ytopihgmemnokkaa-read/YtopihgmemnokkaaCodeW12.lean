import Derived.Test.YtopihgmemnokkaaCodeQ
import Derived.Test.YtopihgmemnokkaaFacts5
namespace Go.Proofs.Ytopihgmemnokkaa
open Go.RowKit Go.Shelf Go.Lib

theorem size_rowT (f : Nat → Bool) : (rowT f).size = 256 := by simp [rowT]
theorem rowT_get {f : Nat → Bool} {i : Nat} (h : i < 256) : (rowT f)[i]? = some (.bool (f i)) := by simp [rowT, h]
theorem rowT_congr {f g : Nat → Bool} (h : ∀ i, i < 256 → f i = g i) : rowT f = rowT g := by
  unfold rowT
  apply Array.map_congr_left
  intro a ha
  rw [h a (by simpa using ha)]
theorem rowT_set {f : Nat → Bool} {i : Nat} {v : Bool} : (rowT f).setIfInBounds i (.bool v) = rowT (fun c => if c = i then v else f c) := by
  apply Array.ext_getElem?
  intro j
  rw [Array.getElem?_setIfInBounds, size_rowT]
  by_cases hj : j < 256
  · rw [rowT_get hj]
    by_cases e : i = j
    · subst e; simp [hj, rowT_get hj]
    · have e' : ¬ j = i := fun x => e x.symm
      rw [if_neg e, rowT_get hj]; simp [e']
  · have h1 : (rowT f)[j]? = none := by simp [size_rowT]; omega
    have h2 : (rowT fun c => if c = i then v else f c)[j]? = none := by simp [size_rowT]; omega
    rw [h1, h2]
    by_cases e : i = j
    · subst e; simp [hj]
    · rw [if_neg e]
def TRow (w : World) (b : Nat) (f : Nat → Bool) : Prop := w.heap[b]? = some (.cells (rowT f) 66 (0, 0))
theorem TRow.cell {w : World} {b : Nat} {f : Nat → Bool} (h : TRow w b f) {i : Nat} (hi : i < 256) : w.cell? ⟨b, i, none⟩ = some (.bool (f i)) := by
  unfold TRow at h; unfold World.cell?; rw [h]; exact rowT_get hi
theorem TRow.frozen {w : World} {b : Nat} {f : Nat → Bool} (h : TRow w b f) (i : Nat) : w.frozen? ⟨b, i, none⟩ = false := by
  unfold TRow at h; simp [World.frozen?, h]
theorem TRow.keep {P : Nat → Prop} {w w' : World} {g : Nat} {t : Nat → Bool} (h : TRow w g t) (hk : Kept P w w') (hn : ¬ P g) : TRow w' g t := by
  unfold TRow at *
  rw [hk.block g (Array.getElem?_eq_some_iff.1 h).1 hn]; exact h

theorem there_succ (s : ByteArray) (p c : Nat) : (if c = BY s p then true else decide (0 < cntB s p c)) = decide (0 < cntB s (p + 1) c) := by
  unfold cntB
  simp only [Cc.cn]
  by_cases h : c = BY s p
  · subst h; simp
  · have h' : ¬ BY s p = c := fun e => h e.symm
    simp [h, h']

set_option maxRecDepth 100000 in
set_option maxHeartbeats 1000000 in
theorem coded_any (s : ByteArray) (w : World) (hs : s.size ≤ 1000) :
    Calls Try.prog 17 #[.string s] w fun e w' => ∃ (k : Nat → List Bool) (g n : Nat), e = .returned (.tuple #[.slice (some ⟨g, 0, none⟩) 256 256, .int .i64 (n : Nat), .bool true]) ∧ SRow w' g (fun c => tx (k c)) ∧
      Codes (cntB s s.size) k ∧ n = (sm 256 fun c => cntB s s.size c * (k c).length) ∧ n ≤ 16384000 ∧ w.heap.size ≤ g ∧ Below w.heap.size w w' := by
  go_enter Try.func17, Try.ntmps17
  go_wp2_with fail
  refine (codes_any s w hs).mono ?_
  rintro e w1 ⟨k, g, n, rfl, SR, CD, hn, hn2, hg, hB1⟩
  have HSR : Hid (SRow w1 g fun c => tx (k c)) := SR
  have HCD : Hid (Codes (cntB s s.size) k) := CD
  have HN : Hid (n = sm 256 fun c => cntB s s.size c * (k c).length) := hn
  have HB1 : Hid (Below w.heap.size w w1) := hB1
  have hgl : g < w1.heap.size := (Array.getElem?_eq_some_iff.1 SR).1
  have hz1 := hB1.size
  clear SR CD hn hB1
  go_wp2_with (refine wpList_alloc_row rfl 66 rfl _ zeroT256 ?_)
  go_loopw [9] (fun i wr => ∃ p : Nat, p ≤ s.size ∧ i = .int .i64 p ∧ Hid (TRow wr w1.heap.size fun c => decide (0 < cntB s p c)) ∧ Hid (SRow wr g (fun c => tx (k c))) ∧ Hid (Below w.heap.size w wr)) (fun i _ => s.size - (intOf i).toNat)
  case atStart =>
    refine ⟨0, by omega, rfl, ?_, HSR.out.keep ((Kept.refl (fun _ => False) w1).alloc _) (fun h => h), HB1.out.alloc hz1 _⟩
    have h0 : rowT (fun c => decide (0 < cntB s 0 c)) = rowT fun _ => false := rowT_congr fun c _ => by simp [cntB, Cc.cn]
    show _ = _
    rw [h0]; exact heap_alloc_new w1 _
  case round =>
    clear HSR HB1
    obtain ⟨p, hp, rfl, TR, SR, BL⟩ := hrel
    by_cases hlt : p < s.size
    · have hby := BY_lt s hlt
      have hbl := BY_le s p
      have c0 := TRow.cell TR.out (i := BY s p) (by omega)
      have f0 := TRow.frozen TR.out (BY s p)
      have k1 : Kept (fun k => k = w1.heap.size) wr (wr.setCell ⟨w1.heap.size, BY s p, none⟩ (.bool true)) := (Kept.refl (fun k => k = w1.heap.size) wr).setCell (show (⟨w1.heap.size, BY s p, none⟩ : Addr).block = w1.heap.size from rfl) _
      have TR2 : Hid (TRow (wr.setCell ⟨w1.heap.size, BY s p, none⟩ (.bool true)) w1.heap.size fun c => decide (0 < cntB s (p + 1) c)) := by
        show _ = _
        rw [← rowT_congr (fun c _ => there_succ s p c), ← rowT_set]
        have := TR.out
        unfold TRow at this
        simp [World.setCell, Array.getElem?_modify, this]
      have SR2 : Hid (SRow (wr.setCell ⟨w1.heap.size, BY s p, none⟩ (.bool true)) g (fun c => tx (k c))) := SRow.keep SR.out k1 (by omega)
      have BL2 : Hid (Below w.heap.size w (wr.setCell ⟨w1.heap.size, BY s p, none⟩ (.bool true))) := k1.bel BL.out (Nat.le_refl _) (fun k hk => by omega)
      rw [hby] at c0 f0 TR2 SR2 BL2 hbl
      have hx : (s[p].toNat : Int) < 256 := by omega
      generalize decide (0 < cntB s p s[p].toNat) = old at c0
      clear hby k1 TR SR BL
      go_wp2
      exact ⟨⟨p + 1, by omega, by go_num, TR2, SR2, BL2⟩, by simp [intOf]; omega⟩
    · have hp' : p = s.size := by omega
      subst hp'
      go_wp2
      go_loopw [10, 11] (fun i _ wr => ∃ c : Nat, c ≤ 256 ∧ i = .int .i64 c ∧ Hid (TRow wr w1.heap.size fun c => decide (0 < cntB s s.size c)) ∧ Hid (SRow wr g (fun c => tx (k c))) ∧ Hid (Below w.heap.size w wr)) (fun i _ _ => 256 - (intOf i).toNat)
      case atStart => exact ⟨0, by omega, rfl, TR, SR, BL⟩
      case round =>
        clear TR SR BL
        obtain ⟨c, hc, rfl, TR, SR, BL⟩ := hrel
        by_cases hlt2 : c < 256
        · have c0 := TRow.cell TR.out hlt2
          have c1 := SRow.cell SR.out hlt2
          have hcl := HCD.out.len c hlt2
          have hci : (c : Int) < 256 := by omega
          obtain ⟨v, hv⟩ : ∃ v, v = tx (k c) := ⟨_, rfl⟩
          have hvs : v.size ≤ 64 := by rw [hv, tx_size]; exact hcl
          have hvb : ∀ i (h : i < v.size), v[i].toNat = 48 ∨ v[i].toNat = 49 := by subst hv; intro i h; exact tx_byte _ h
          have hE : v.toList.isEmpty = !decide (0 < cntB s s.size c) := by
            rw [hv]
            by_cases h0 : 0 < cntB s s.size c
            · rw [tx_toList_isEmpty]
              have := HCD.out.some c hlt2 h0
              simp [h0, this]
            · rw [tx_toList_isEmpty, HCD.out.none c hlt2 (by omega)]
              simp [h0]
          have HVB : Hid (∀ i (h : i < v.size), v[i].toNat = 48 ∨ v[i].toNat = 49) := hvb
          rw [← hv] at c1
          clear hv hvb hcl
          have ln : ∀ (nq : Nat) (wd : World), wd = wr.drewN nq → Hid (TRow wd w1.heap.size fun c => decide (0 < cntB s s.size c)) ∧ Hid (SRow wd g (fun c => tx (k c))) ∧ Hid (Below w.heap.size w wd) ∧ wd.cell? ⟨g, c, none⟩ = some (.string v) := by
            intro nq wd e
            subst e
            exact ⟨TRow.keep TR.out (keptN wr nq) (fun h => h), SRow.keep SR.out (keptN wr nq) (fun h => h), below_drewN BL.out nq, c1⟩
          have LN : Hid (∀ (nq : Nat) (wd : World), wd = wr.drewN nq → Hid (TRow wd w1.heap.size fun c => decide (0 < cntB s s.size c)) ∧ Hid (SRow wd g (fun c => tx (k c))) ∧ Hid (Below w.heap.size w wd) ∧ wd.cell? ⟨g, c, none⟩ = some (.string v)) := ln
          clear ln TR SR BL
          generalize hbb : decide (0 < cntB s s.size c) = b at c0 hE
          clear hbb
          rcases b with _ | _
          · simp only [Bool.not_false] at hE
            go_wp2
            go_quiet (fail)
            obtain ⟨TR, SR, BL, c2⟩ := LN.out nq _ rfl
            clear c0 c1 LN
            generalize wr.drewN nq = wd at *
            have hv0 : v.size = 0 := by rw [toList_isEmpty] at hE; simpa using hE
            go_wp2
            go_loopw [11] (fun i wr => wr = wd ∧ ∃ q : Nat, q ≤ v.size ∧ i = .int .i64 q) (fun i _ => v.size - (intOf i).toNat)
            case atStart => exact ⟨rfl, 0, by omega, rfl⟩
            case round =>
              obtain ⟨rfl, q, hq, rfl⟩ := hrel
              have : q = v.size := by omega
              subst this
              go_wp2
              exact ⟨⟨c + 1, by omega, by go_num, TR, SR, BL⟩, by simp [intOf]; omega⟩
          · simp only [Bool.not_true] at hE
            go_wp2
            go_quiet (fail)
            obtain ⟨TR, SR, BL, c2⟩ := LN.out nq _ rfl
            clear c0 c1 LN
            generalize wr.drewN nq = wd at *
            go_wp2
            go_loopw [11] (fun i wr => wr = wd ∧ ∃ q : Nat, q ≤ v.size ∧ i = .int .i64 q) (fun i _ => v.size - (intOf i).toNat)
            case atStart => exact ⟨rfl, 0, by omega, rfl⟩
            case round =>
              obtain ⟨rfl, q, hq, rfl⟩ := hrel
              by_cases hqv : q < v.size
              · have hb := HVB.out q hqv
                rcases hb with hb | hb
                · go_wp2
                  exact ⟨⟨trivial, q + 1, by omega, by go_num⟩, by simp [intOf]; omega⟩
                · go_wp2
                  exact ⟨⟨trivial, q + 1, by omega, by go_num⟩, by simp [intOf]; omega⟩
              · have : q = v.size := by omega
                subst this
                go_wp2
                exact ⟨⟨c + 1, by omega, by go_num, TR, SR, BL⟩, by simp [intOf]; omega⟩
        · have hc' : c = 256 := by omega
          subst hc'
          go_wp2
          go_ret3
          exact ⟨k, g, n, rfl, SR.out, HCD.out, HN.out, hn2, hg, BL.out⟩

end Go.Proofs.Ytopihgmemnokkaa
