import Derived.Test.YtopihgmemnokkaaCodeW8
namespace Go.Proofs.Ytopihgmemnokkaa
open Go.RowKit Go.Shelf Go.Lib

/-- a row of m bytes -/
def rowU (m : Nat) (f : Nat → Nat) : Array Value := (Array.range m).map fun i => .int .u8 (f i : Nat)
theorem size_rowU (m : Nat) (f : Nat → Nat) : (rowU m f).size = m := by simp [rowU]
theorem rowU_get {m : Nat} {f : Nat → Nat} {i : Nat} (h : i < m) : (rowU m f)[i]? = some (.int .u8 (f i : Nat)) := by simp [rowU, h]
theorem rowU_congr {m : Nat} {f g : Nat → Nat} (h : ∀ i, i < m → f i = g i) : rowU m f = rowU m g := by
  unfold rowU
  apply Array.map_congr_left
  intro a ha
  rw [h a (by simpa using ha)]
theorem rowU_set {m : Nat} {f : Nat → Nat} {i v : Nat} : (rowU m f).setIfInBounds i (.int .u8 (v : Nat)) = rowU m (Cc.put f i v) := by
  apply Array.ext_getElem?
  intro j
  rw [Array.getElem?_setIfInBounds, size_rowU]
  by_cases hj : j < m
  · rw [rowU_get hj]
    by_cases e : i = j
    · subst e; simp [hj, rowU_get hj, Cc.put]
    · have e' : ¬ j = i := fun x => e x.symm
      rw [if_neg e, rowU_get hj]; simp [Cc.put, e']
  · have h1 : (rowU m f)[j]? = none := by simp [size_rowU]; omega
    have h2 : (rowU m (Cc.put f i v))[j]? = none := by simp [size_rowU]; omega
    rw [h1, h2]
    by_cases e : i = j
    · subst e; simp [hj]
    · rw [if_neg e]
theorem rowU_made (m : Nat) : madeCells #[.int .u8 0] m = rowU m fun _ => 0 := by
  unfold madeCells rowU
  apply Array.map_congr_left
  intro a _
  have : a % (#[Value.int .u8 0] : Array Value).size = 0 := by simp [Nat.mod_one]
  rw [this]; rfl

theorem Try.infoU8 : (Try.prog.info? 5).map (fun i => (i.zero, i.size, i.bytes)) = some (some (.int .u8 0), 1, 1) := by kernel_rfl
theorem make_bytesU (n : Nat) (hn : n ≤ 1001) (w : World) : (Instr.makeSlice 79 (.int .i64 (n : Int)) (.int .i64 (n : Int))).run Try.prog w
    = .ok (.slice (some ⟨w.heap.size, 0, none⟩) n n) (w.alloc (.cells (rowU n fun _ => 0) 5)) := by
  obtain ⟨i, hi, hz0, hz1, hz2⟩ := info_parts Try.infoU8
  have h := run_make (P := Try.prog) w 79 5 i _ Try.underlying79 hi hz0 .i64 .i64 n n (by omega) (by omega) (by rw [hz2]; omega) (by omega)
  rw [hz1] at h
  simp only [Int.toNat_natCast, Nat.mul_one] at h
  have hc : (Value.int .u8 0).cells = #[.int .u8 0] := rfl
  rw [hc, rowU_made] at h
  exact h

/-- the noughts and ones of a run -/
def bitB (n v i : Nat) : Nat := 48 + v / 2 ^ (n - 1 - i) % 2
def bitTo (n v k i : Nat) : Nat := if i < k then bitB n v i else 0
/-- a run as a text -/
def runText (n v : Nat) : ByteArray := strOfNums ((List.range n).map fun i => ((bitB n v i : Nat) : Int))

theorem bitTo_succ (n v k i : Nat) : Cc.put (bitTo n v k) k (bitB n v k) i = bitTo n v (k + 1) i := by
  by_cases h : i = k
  · subst h; rw [Cc.put_same]; unfold bitTo; rw [if_pos (by omega)]
  · rw [Cc.put_other _ _ h]; unfold bitTo
    by_cases h1 : i < k
    · rw [if_pos h1, if_pos (by omega)]
    · rw [if_neg h1, if_neg (by omega)]

def RowU (w : World) (b m : Nat) (f : Nat → Nat) : Prop := w.heap[b]? = some (.cells (rowU m f) 5 (0, 0))

set_option maxRecDepth 100000 in
set_option maxHeartbeats 1000000 in
theorem text_any (n v : Nat) (w : World) (hn : n ≤ 64) (hv : v < 18446744073709551616) :
    Calls Try.prog 47 #[runV n v] w fun e w' => e = .returned (.string (runText n v)) ∧ Below w.heap.size w w' := by
  have hmk := fun w => make_bytesU n (by omega) w
  show Calls Try.prog 47 #[.agg #[.int .i64 (n : Nat), .int .u64 (v : Nat)]] w _
  have hbx : ∀ wr, Below (w.heap.size + 1) (w.alloc (.cells #[.int .i64 (n : Nat), .int .u64 (v : Nat)] 82)) wr → wr.cell? ⟨w.heap.size, 0, none⟩ = some (.int .i64 (n : Nat)) ∧ wr.cell? ⟨w.heap.size, 1, none⟩ = some (.int .u64 (v : Nat)) := fun wr hb => by
    have h1 := hb.block w.heap.size (by omega)
    rw [heap_alloc_new w] at h1
    exact ⟨by simp [World.cell?, h1], by simp [World.cell?, h1]⟩
  have HBX : Hid _ := hbx
  have hz : (w.alloc (.cells #[.int .i64 (n : Nat), .int .u64 (v : Nat)] 82)).heap.size = w.heap.size + 1 := by simp
  have Hz : Hid _ := hz
  clear hbx hz
  go_enter Try.func47, Try.ntmps47
  go_wp2
  go_loopw [4, 10] (fun _ i wr => ∃ k : Nat, k ≤ n ∧ i = .int .i64 k ∧ Hid (RowU wr (w.heap.size + 1) n (bitTo n v k)) ∧ Hid (Below (w.heap.size + 1) (w.alloc (.cells #[.int .i64 (n : Nat), .int .u64 (v : Nat)] 82)) wr)) (fun _ i _ => n - (intOf i).toNat)
  case atStart => exact ⟨0, by omega, rfl, heap_alloc_new' _ _ (by simp), (Below.refl _ _).alloc (by simp) _⟩
  case round =>
    obtain ⟨k, hk, rfl, RU, BL⟩ := hrel
    obtain ⟨c0, c1⟩ := HBX.out wr BL.out
    have hru : wr.heap[w.heap.size + 1]? = some (.cells (rowU n (bitTo n v k)) 5 (0, 0)) := RU.out
    have hlt1 : w.heap.size + 1 < wr.heap.size := (Array.getElem?_eq_some_iff.1 hru).1
    by_cases hlt : k < n
    · have d0 : wr.cell? ⟨w.heap.size + 1, k, none⟩ = some (.int .u8 (bitTo n v k k : Nat)) := by unfold World.cell?; rw [hru]; exact rowU_get hlt
      clear hru
      generalize bitTo n v k k = old at d0
      go_wp2_with fail
      refine (bit_any n v k wr hn hlt hv).mono ?_
      rintro e w2 ⟨rfl, hB2⟩
      have hru2 : w2.heap[w.heap.size + 1]? = some (.cells (rowU n (bitTo n v k)) 5 (0, 0)) := by rw [hB2.block _ hlt1]; exact RU.out
      have d0 : w2.cell? ⟨w.heap.size + 1, k, none⟩ = some (.int .u8 (bitTo n v k k : Nat)) := by unfold World.cell?; rw [hru2]; exact rowU_get hlt
      have d1 : w2.frozen? ⟨w.heap.size + 1, k, none⟩ = false := by simp [World.frozen?, hru2]
      have hgo : RowU (w2.setCell ⟨w.heap.size + 1, k, none⟩ (.int .u8 (bitB n v k : Nat))) (w.heap.size + 1) n (bitTo n v (k + 1)) := by
        unfold RowU
        rw [← rowU_congr (fun i _ => bitTo_succ n v k i), ← rowU_set]
        simp [World.setCell, Array.getElem?_modify, hru2]
      have hbl : Below (w.heap.size + 1) (w.alloc (.cells #[.int .i64 (n : Nat), .int .u64 (v : Nat)] 82)) (w2.setCell ⟨w.heap.size + 1, k, none⟩ (.int .u8 (bitB n v k : Nat))) :=
        (BL.out.trans (hB2.mono (by omega))).setCell (Nat.le_refl _) _
      have hb48 : ((bitB n v k : Nat) : Int) = 48 + ((v / 2 ^ (n - 1 - k) % 2 : Nat) : Int) := by unfold bitB; omega
      rw [hb48] at hgo hbl
      have HGO : Hid _ := hgo
      have HBL : Hid _ := hbl
      have hbit : v / 2 ^ (n - 1 - k) % 2 < 2 := Nat.mod_lt _ (by omega)
      generalize bitTo n v k k = old2 at d0
      generalize v / 2 ^ (n - 1 - k) % 2 = Y at *
      clear hgo hbl hru2 hB2 hb48 c0 c1
      go_wp2
      exact ⟨⟨k + 1, by omega, by go_num, HGO, HBL⟩, by simp [intOf]; omega⟩
    · have hk' : k = n := by omega
      subst hk'
      have hcv := run_convert_bytes_arg (P := Try.prog) wr 79 5 Try.underlying79 Try.underlying5 (w.heap.size + 1) 0 k k ((List.range k).map fun i => ((bitB k v i : Nat) : Int)) (by simp) (by
        intro i hi
        rw [Nat.zero_add]
        unfold World.cell?
        rw [hru]
        show (rowU k (bitTo k v k))[i]? = _
        have hi' : i < k := by simpa using hi
        rw [rowU_get hi']
        unfold bitTo
        rw [if_pos hi']
        simp [hi']) 9 Try.underlying9
      clear hru c0 c1
      go_wp2
      go_ret
      exact ⟨rfl, ((Below.refl _ _).alloc (Nat.le_refl _) _).trans (BL.out.mono (by omega))⟩

end Go.Proofs.Ytopihgmemnokkaa
