import Derived.Test.YtopihgmemnokkaaGreatTreeW5K
import Derived.Test.YtopihgmemnokkaaGreatCodeW5K
namespace Go.Proofs.YtopihgmemnokkaaGreat
open Go.RowKit
def RunRow (w : World) (g n k : Nat) (rs : List (Nat × Nat)) : Prop := ∃ cur : Array Value, w.heap[g]? = some (.cells cur 114 (0, 0)) ∧ cur.size = n * 2 ∧ ∀ j x, j < k → rs[j]? = some x → cur[j * 2]? = some (.int .i64 (x.1 : Nat)) ∧ cur[j * 2 + 1]? = some (.int .u64 (x.2 : Nat))
theorem RunRow.put {w : World} {g n k : Nat} {rs : List (Nat × Nat)} (h : RunRow w g n k rs) (hk : k < n) {x : Nat × Nat} (hx : rs[k]? = some x) : RunRow ((w.setCell ⟨g, k * 2, none⟩ (.int .i64 (x.1 : Nat))).setCell ⟨g, k * 2 + 1, none⟩ (.int .u64 (x.2 : Nat))) g n (k + 1) rs := by
  obtain ⟨cur, h1, h2, h3⟩ := h
  refine ⟨(cur.setIfInBounds (k * 2) (.int .i64 (x.1 : Nat))).setIfInBounds (k * 2 + 1) (.int .u64 (x.2 : Nat)), by simp [World.setCell, Array.getElem?_modify, h1], by simpa using h2, fun j y hj hy => ?_⟩
  simp only [Array.getElem?_setIfInBounds, Array.size_setIfInBounds]
  by_cases e : j = k
  · subst e
    rw [hx] at hy
    have := Option.some.inj hy
    subst this
    rw [if_neg (by omega), if_pos rfl, if_pos (by omega), if_pos rfl, if_pos (by omega)]
    exact ⟨rfl, rfl⟩
  · obtain ⟨a, b⟩ := h3 j y (by omega) hy
    rw [if_neg (by omega), if_neg (by omega), if_neg (by omega), if_neg (by omega)]
    exact ⟨a, b⟩
theorem RunRow.there {w : World} {g n k : Nat} {rs : List (Nat × Nat)} (h : RunRow w g n k rs) {j : Nat} (hj : j < n * 2) : ∃ v, w.cell? ⟨g, j, none⟩ = some v := by
  obtain ⟨cur, h1, h2, _⟩ := h
  exact ⟨cur[j]'(by omega), by simp [World.cell?, h1, h2, hj]⟩
theorem RunRow.frozen {w : World} {g n k : Nat} {rs : List (Nat × Nat)} (h : RunRow w g n k rs) (i : Nat) : w.frozen? ⟨g, i, none⟩ = false := by
  obtain ⟨cur, h1, _⟩ := h; simp [World.frozen?, h1]
theorem RunRow.runs {w : World} {g n : Nat} {rs : List (Nat × Nat)} (h : RunRow w g n rs.length rs) : Runs w g rs := fun k x hx => by
  obtain ⟨cur, h1, h2, h3⟩ := h
  obtain ⟨a, b⟩ := h3 k x (List.getElem?_eq_some_iff.1 hx).1 hx
  exact ⟨cell_of h1 a, cell_of h1 b⟩
theorem make_runs (n : Nat) (hn : n ≤ 1001) (w : World) : ∃ cur : Array Value, cur.size = n * 2 ∧ (Instr.makeSlice 150 (.int .i64 (n : Int)) (.int .i64 (n : Int))).run Tryz.prog w
    = .ok (.slice (some ⟨w.heap.size, 0, none⟩) n n) (w.alloc (.cells cur 114)) := by
  obtain ⟨i, hi, hz0, hz1, hz2⟩ := info_parts Tryz.info114
  have h := run_make (P := Tryz.prog) w 150 114 i _ Tryz.underlying150 hi hz0 .i64 .i64 n n (by omega) (by omega) (by rw [hz2]; omega) (by omega)
  refine ⟨_, ?_, h⟩
  rw [hz1]
  simp [madeCells]
set_option maxRecDepth 100000 in
set_option maxHeartbeats 2000000 in
theorem pack_any (G : Nat → Nat × Nat) (s : ByteArray) (w : World) (hs : s.size ≤ 1000) (hG : ∀ c, c < 256 → (G c).1 ≤ 64 ∧ (G c).2 < 18446744073709551616) (hlen : (cat (fun c => bl (G c)) s s.size).length ≤ 8000) :
    Calls Tryz.prog 78 #[.string s, .agg (rowR G)] w fun e w' => ∃ v, e = .returned v ∧ w'.ownsRow w.heap.size 5 1 v (packL (cat (fun c => bl (G c)) s s.size)).length (u8L (packL (cat (fun c => bl (G c)) s s.size))) ∧ Below w.heap.size w w' := by
  obtain ⟨cur, hcur, hmk⟩ := make_runs s.size (by omega) (w.alloc (.cells (rowR G) 115))
  have HG : Hid (∀ c, c < 256 → (G c).1 ≤ 64 ∧ (G c).2 < 18446744073709551616) := hG
  have HR0 : Hid (RunRow ((w.alloc (.cells (rowR G) 115)).alloc (.cells cur 114)) (w.heap.size + 1) s.size 0 (runsA G s s.size)) := ⟨cur, heap_alloc_new' _ _ (by simp), hcur, fun j x h => by omega⟩
  have HM0 : Hid (Made ((w.alloc (.cells (rowR G) 115)).alloc (.cells cur 114)) w.heap.size G) := by
    show Made _ _ _
    unfold Made
    rw [Below.heap_alloc _ _ _ (by simp)]; exact heap_alloc_new _ _
  have HB0 : Hid (Below w.heap.size w ((w.alloc (.cells (rowR G) 115)).alloc (.cells cur 114))) := ((Below.refl _ _).alloc (Nat.le_refl _) _).alloc (by simp) _
  have hz0 : ((w.alloc (.cells (rowR G) 115)).alloc (.cells cur 114)).heap.size = w.heap.size + 2 := by simp
  simp only [World.size_alloc] at hmk
  clear hG hcur
  go_enter Tryz.func78, Tryz.ntmps78
  go_wp2
  generalize (w.alloc (.cells (rowR G) 115)).alloc (.cells cur 114) = w0 at *
  clear hmk
  go_loopw [13] (fun i wr => ∃ k : Nat, k ≤ s.size ∧ i = .int .i64 k ∧ Hid (RunRow wr (w.heap.size + 1) s.size k (runsA G s s.size)) ∧ Hid (Made wr w.heap.size G) ∧ Hid (Below w.heap.size w wr) ∧ wr.heap.size = w.heap.size + 2) (fun i _ => s.size - (intOf i).toNat)
  case atStart => exact ⟨0, by omega, rfl, HR0, HM0, HB0, hz0⟩
  case round =>
    clear HR0 HM0 HB0 hz0
    obtain ⟨k, hk, rfl, RR, HM, HB, hz⟩ := hrel
    by_cases hlt : k < s.size
    · have hby := BY_le s k
      have hbv := BY_lt s hlt
      have e0 := HM.out.c0 (c := BY s k) (by omega)
      have e1 := HM.out.c1 (c := BY s k) (by omega)
      obtain ⟨v0, t0⟩ := RR.out.there (j := k * 2) (by omega)
      obtain ⟨v1, t1⟩ := RR.out.there (j := k * 2 + 1) (by omega)
      have f0 := RR.out.frozen (k * 2)
      have f1 := RR.out.frozen (k * 2 + 1)
      have HP : Hid _ := RR.out.put hlt (runsA_get G s hlt)
      have HM1 : Hid (Made ((wr.setCell ⟨w.heap.size + 1, k * 2, none⟩ (.int .i64 ((G (BY s k)).1 : Nat))).setCell ⟨w.heap.size + 1, k * 2 + 1, none⟩ (.int .u64 ((G (BY s k)).2 : Nat))) w.heap.size G) :=
        HM.out.keep (((Kept.refl (fun k => k = w.heap.size + 1) wr).setCell (by rfl) _).setCell (by rfl) _) (by omega)
      have HB1 : Hid (Below w.heap.size w ((wr.setCell ⟨w.heap.size + 1, k * 2, none⟩ (.int .i64 ((G (BY s k)).1 : Nat))).setCell ⟨w.heap.size + 1, k * 2 + 1, none⟩ (.int .u64 ((G (BY s k)).2 : Nat)))) := (HB.out.setCell (by simp) _).setCell (by simp) _
      rw [hbv] at e0 e1 HP HM1 HB1 hby
      have hx : (s[k].toNat : Int) < 256 := by omega
      clear hbv hby
      go_wp2
      exact ⟨⟨k + 1, by omega, by go_num, HP, HM1, HB1, by simpa using hz⟩, by simp [intOf]; omega⟩
    · have hk' : k = s.size := by omega
      subst hk'
      have hsp := runsA_spells G HG.out s s.size
      have hrl := runsA_len G s s.size
      have hrs := rsum_runsA G s s.size s.size (Nat.le_refl _)
      rw [List.take_of_length_le (by rw [hrl]; omega)] at hrs
      have hcl : cl (fun c => bl (G c)) s s.size = (cat (fun c => bl (G c)) s s.size).length := rfl
      have HRUN : Hid (Runs wr (w.heap.size + 1) (runsA G s s.size)) := by
        have := RR.out
        rw [← hrl] at this
        exact RunRow.runs (n := (runsA G s s.size).length) (by rw [hrl] at this ⊢; exact this)
      generalize hl : cat (fun c => bl (G c)) s s.size = l at *
      have HLC : Hid (cat (fun c => bl (G c)) s s.size = l) := hl
      clear hl
      rw [hcl] at hrs
      have hL0 : BitL w.heap.size (wr.alloc (Obj.cells #[.slice none 0 0, .slice none 0 0, .int .i64 0, .int .i64 0] 125)) wr.heap.size [] [] 125 (.slice none 0 0) (.slice none 0 0) (bitF l) 0 :=
        ⟨heap_alloc_new wr _, World.ownsRow_nil _ _ _ _, World.ownsRow_nil _ _ _ _, by omega, by decide, by decide⟩
      have hR1 : Runs (wr.alloc (Obj.cells #[.slice none 0 0, .slice none 0 0, .int .i64 0, .int .i64 0] 125)) (w.heap.size + 1) (runsA G s s.size) := fun k x hx =>
        have hk : Kept (fun _ => False) wr (wr.alloc (Obj.cells #[.slice none 0 0, .slice none 0 0, .int .i64 0, .int .i64 0] 125)) := (Kept.refl _ _).alloc _
        ⟨cell_keep hk (HRUN.out k x hx).1 (fun h => h), cell_keep hk (HRUN.out k x hx).2 (fun h => h)⟩
      have hlay := lay_any w.heap.size _ wr.heap.size 0 [] [] rfl 125 _ _ (bitF l) 0 (w.heap.size + 1) s.size _ hL0 hR1 hsp (by rintro (h | h | h) <;> first | omega | cases h) (by rw [hrs]; omega) (by rw [hrl]; omega)
      rw [hrl, hrs, Nat.zero_add] at hlay
      have HBA : Hid (Below w.heap.size w (wr.alloc (Obj.cells #[.slice none 0 0, .slice none 0 0, .int .i64 0, .int .i64 0] 125))) := HB.out.alloc (by omega) _
      have HZ : Hid (wr.heap.size = w.heap.size + 2) := hz
      clear hL0 hR1 hsp HRUN RR HM hcl hrs hrl hz
      go_wp2_with fail
      refine hlay.mono ?_
      rintro e w3 ⟨rfl, wv, av, hL, hK, _⟩
      have hB3 : Below w.heap.size w w3 := hK.bel HBA.out (Nat.le_refl _) (by have := HZ.out; rintro k (h | h | h) <;> first | omega | cases h)
      have hz3 := hB3.size
      have hbyt := lbytes_any w.heap.size w3 wr.heap.size 0 [] [] rfl 125 wv av l hL hlen
      clear hlay hL hK
      go_wp2_with fail
      refine hbyt.mono ?_
      rintro e w4 ⟨v, rfl, hown, hB4⟩
      obtain ⟨va, vc, rfl⟩ := own_slice hown
      clear hbyt
      go_wp2
      go_ret
      refine ⟨_, rfl, ?_, hB3.trans (hB4.mono hz3)⟩
      rw [HLC.out]
      exact hown.mono hz3
end Go.Proofs.YtopihgmemnokkaaGreat
