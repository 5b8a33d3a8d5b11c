import Derived.Test.YtopihgmemnokkaaGreatWalk10
namespace Go.Proofs.YtopihgmemnokkaaGreat
open Go.RowKit

/-- a row of m bytes -/
def rowB (m : Nat) (f : Nat → Nat) : Array Value := (Array.range m).map fun i => .int .u8 (f i : Nat)
theorem size_rowB (m : Nat) (f : Nat → Nat) : (rowB m f).size = m := by simp [rowB]
theorem rowB_get {m : Nat} {f : Nat → Nat} {i : Nat} (h : i < m) : (rowB m f)[i]? = some (.int .u8 (f i : Nat)) := by simp [rowB, h]
theorem rowB_congr {m : Nat} {f g : Nat → Nat} (h : ∀ i, i < m → f i = g i) : rowB m f = rowB m g := by
  unfold rowB
  apply Array.map_congr_left
  intro a ha
  rw [h a (by simpa using ha)]
theorem rowB_set {m : Nat} {f : Nat → Nat} {i v : Nat} : (rowB m f).setIfInBounds i (.int .u8 (v : Nat)) = rowB m (Cc.put f i v) := by
  apply Array.ext_getElem?
  intro j
  rw [Array.getElem?_setIfInBounds, size_rowB]
  by_cases hj : j < m
  · by_cases e : i = j
    · subst e; rw [if_pos rfl, if_pos hj, rowB_get hj]; simp [Cc.put]
    · have e' : ¬ j = i := fun x => e x.symm
      rw [if_neg e, rowB_get hj, rowB_get hj]; simp [Cc.put, e']
  · have h1 : (rowB m f)[j]? = none := by simp [size_rowB]; omega
    have h2 : (rowB m (Cc.put f i v))[j]? = none := by simp [size_rowB]; omega
    rw [h1, h2]
    by_cases e : i = j
    · subst e; simp [hj]
    · rw [if_neg e]
theorem rowB_made (m : Nat) : madeCells #[.int .u8 0] m = rowB m fun _ => 0 := by
  unfold madeCells rowB
  apply Array.map_congr_left
  intro a _
  have : a % (#[Value.int .u8 0] : Array Value).size = 0 := by simp [Nat.mod_one]
  rw [this]; rfl
def RowB (w : World) (b : Nat) (m : Nat) (f : Nat → Nat) : Prop := w.heap[b]? = some (.cells (rowB m f) 5 (0, 0))
theorem RowB.cell {w : World} {b m : Nat} {f : Nat → Nat} (h : RowB w b m f) {i : Nat} (hi : i < m) : w.cell? ⟨b, i, none⟩ = some (.int .u8 (f i : Nat)) := by
  unfold RowB at h; simp [World.cell?, h, rowB_get hi]
theorem RowB.frozen {w : World} {b m : Nat} {f : Nat → Nat} (h : RowB w b m f) (i : Nat) : w.frozen? ⟨b, i, none⟩ = false := by
  unfold RowB at h; simp [World.frozen?, h]
theorem RowB.congr {w : World} {b m : Nat} {f g : Nat → Nat} (h : RowB w b m f) (hg : ∀ i, i < m → f i = g i) : RowB w b m g := by
  unfold RowB at *; rw [h, rowB_congr hg]
theorem RowB.set {w : World} {b m : Nat} {f : Nat → Nat} (h : RowB w b m f) (i v : Nat) : RowB (w.setCell ⟨b, i, none⟩ (.int .u8 (v : Nat))) b m (Cc.put f i v) := by
  unfold RowB at *
  simp [World.setCell, Array.getElem?_modify, h, rowB_set]
theorem RowB.new' {w : World} {b : Nat} (m : Nat) (f : Nat → Nat) (hb : w.heap.size = b) : RowB (w.alloc (.cells (rowB m f) 5)) b m f := by
  subst hb; unfold RowB; exact heap_alloc_new w _

theorem make_bytes (n : Nat) (hn : n ≤ 1001) (w : World) : (Instr.makeSlice 55 (.int .i64 (n : Int)) (.int .i64 (n : Int))).run Tryz.prog w
    = .ok (.slice (some ⟨w.heap.size, 0, none⟩) n n) (w.alloc (.cells (rowB n fun _ => 0) 5)) := by
  obtain ⟨i, hi, hz0, hz1, hz2⟩ := info_parts Tryz.info5
  have h := run_make (P := Tryz.prog) w 55 5 i _ Tryz.underlying55 hi hz0 .i64 .i64 n n (by omega) (by omega) (by rw [hz2]; omega) (by omega)
  rw [hz1] at h
  simp only [Int.toNat_natCast, Nat.mul_one] at h
  have hc : (Value.int .u8 0).cells = #[.int .u8 0] := rfl
  rw [hc, rowB_made] at h
  exact h

/-- the text as far as it is known: from q on -/
def textTo (b : ByteArray) (row q j : Nat) : Nat := if q ≤ j then BY b (Cc.ks row (Cc.trail b.size (BY b) row (b.size - 1 - j))) else 0

theorem textTo_step (b : ByteArray) (row j k : Nat) (hj : j < b.size) : Cc.put (textTo b row (j + 1)) j (BY b (Cc.ks row (Cc.trail b.size (BY b) row (b.size - (j + 1))))) k = textTo b row j k := by
  by_cases h : k = j
  · subst h; rw [Cc.put_same]; unfold textTo; rw [if_pos (Nat.le_refl _)]; congr 3; omega
  · rw [Cc.put_other _ _ h]; unfold textTo
    by_cases h1 : j + 1 ≤ k
    · rw [if_pos h1, if_pos (by omega)]
    · rw [if_neg h1, if_neg (by omega)]

theorem textTo_le (b : ByteArray) (row q j : Nat) : textTo b row q j ≤ 255 := by
  unfold textTo; split
  · exact BY_le _ _
  · omega

theorem strOfNums_f (f : Nat → Nat) (n : Nat) {k : Nat} (hk : k < n) (hb : f k ≤ 255) : BY (strOfNums ((List.range n).map fun k => ((f k : Nat) : Int))) k = f k := by
  have hsz : (strOfNums ((List.range n).map fun k => ((f k : Nat) : Int))).size = n := by rw [strOfNums_size]; simp
  rw [BY_lt _ (by omega)]
  have hl : k < (strOfNums ((List.range n).map fun k => ((f k : Nat) : Int))).data.toList.length := by rw [strOfNums_data]; simp [hk]
  have h1 : (strOfNums ((List.range n).map fun k => ((f k : Nat) : Int))).data.toList[k] = UInt8.ofNat (f k) := by
    rw [List.getElem_of_eq (strOfNums_data _) hl]
    simp only [List.getElem_map, List.getElem_range, Int.toNat_natCast]
  have h2 : (strOfNums ((List.range n).map fun k => ((f k : Nat) : Int)))[k] = UInt8.ofNat (f k) := h1
  rw [h2, UInt8.toNat_ofNat']
  exact Nat.mod_eq_of_lt (by omega)

set_option maxHeartbeats 400000 in
theorem back_out (b : ByteArray) (row : Int) (w : World) (hr : row < 0 ∨ (b.size : Int) < row) :
    Calls Tryz.prog 92 #[.string b, .int .i64 row] w fun e w' => e = .returned (.tuple #[.string ByteArray.empty, .bool false]) ∧ w' = w := by
  by_cases h : row < 0
  · go_enter Tryz.func92, Tryz.ntmps92
    go_wp2
    go_ret2
    exact ⟨rfl, rfl⟩
  · have h2 : (b.size : Int) < row := by omega
    go_enter Tryz.func92, Tryz.ntmps92
    go_wp2
    go_ret2
    exact ⟨rfl, rfl⟩

set_option maxRecDepth 100000 in
set_option maxHeartbeats 1000000 in
theorem back_in (b : ByteArray) (row : Nat) (w : World) (hs : b.size ≤ 1000) (hr : row ≤ b.size) :
    Calls Tryz.prog 92 #[.string b, .int .i64 (row : Nat)] w fun e w' => Below w.heap.size w w' ∧
      ((¬ Cc.Takes b.size (BY b) row ∧ e = .returned (.tuple #[.string ByteArray.empty, .bool false])) ∨
       (Cc.Takes b.size (BY b) row ∧ ∃ t : ByteArray, e = .returned (.tuple #[.string t, .bool true]) ∧ t.size = b.size ∧ ∀ j, j < b.size → BY t j = textTo b row 0 j)) := by
  have hmk := fun w => make_bytes b.size (by omega) w
  have hri : (row : Int) ≤ b.size := by omega
  go_enter Tryz.func92, Tryz.ntmps92
  go_wp2_with fail
  refine (leads_any b _ hs).mono ?_
  rintro e w1 ⟨g, rfl, hgl, hL, hB1⟩
  have hLl := hL.lt
  go_wp2
  go_loopw [8, 9, 10] (fun a i k wr => ∃ q : Nat, q ≤ b.size ∧ i = .int .i64 ((q : Int) - 1) ∧ a = .int .i64 ((Cc.trail b.size (BY b) row (b.size - q) : Nat) : Int) ∧ (∀ m, m < b.size - q → Cc.trail b.size (BY b) row m ≠ row) ∧
    Row wr g 3 b.size (Cc.lead b.size (BY b)) ∧ RowB wr w1.heap.size b.size (textTo b row q) ∧ Below w.heap.size w wr) (fun _ i _ _ => (intOf i + 1).toNat)
  case atStart =>
    refine ⟨b.size, Nat.le_refl _, rfl, ?_, ?_, hL.alloc _, ?_, hB1.alloc (by omega) _⟩
    · rw [Nat.sub_self]; rfl
    · intro m hm; omega
    · exact (RowB.new' _ (fun _ => 0) rfl).congr fun j hj => by unfold textTo; rw [if_neg (by omega)]
  case round =>
    clear hmk hL hB1
    obtain ⟨q, hq, rfl, rfl, hT, hL, hX, hBl⟩ := hrel
    cases q with
    | zero =>
      have hcv := run_convert_bytes_arg (P := Tryz.prog) wr 55 5 Tryz.underlying55 Tryz.underlying5 w1.heap.size 0 b.size b.size ((List.range b.size).map fun k => ((textTo b row 0 k : Nat) : Int)) (by simp) (by
        intro i hi
        rw [Nat.zero_add, hX.cell hi]
        simp [hi]) 9 Tryz.underlying9
      go_wp2
      go_ret2
      refine ⟨hBl, Or.inr ⟨⟨hr, fun m hm => hT m (by omega)⟩, _, rfl, by rw [strOfNums_size]; simp, fun j hj => strOfNums_f _ _ hj (textTo_le b row 0 j)⟩⟩
    | succ j =>
      have ej : ((j + 1 : Nat) : Int) - 1 = (j : Int) := by omega
      rw [ej]
      clear ej
      have htl := Cc.trail_le (b := BY b) hr (b.size - (j + 1)) hT
      have hstep := textTo_step b row j
      have hnext : Cc.trail b.size (BY b) row (b.size - j) = Cc.lead b.size (BY b) (Cc.ks row (Cc.trail b.size (BY b) row (b.size - (j + 1)))) := by
        rw [show b.size - j = (b.size - (j + 1)) + 1 from by omega]; rfl
      by_cases ha : Cc.trail b.size (BY b) row (b.size - (j + 1)) = row
      · have hno : ¬ Cc.Takes b.size (BY b) row := fun t => t.2 (b.size - (j + 1)) (by omega) ha
        have hab : ((row : Int) == (row : Int)) = true := by simp
        rw [ha]
        clear ha hnext hstep hT
        go_wp2
        go_ret2
        exact ⟨hBl, Or.inl ⟨hno, rfl⟩⟩
      · have hkl := Cc.ks_lt htl ha hr
        have hT2 : ∀ m, m < b.size - j → Cc.trail b.size (BY b) row m ≠ row := by
          intro m hm
          by_cases e : m < b.size - (j + 1)
          · exact hT m e
          · have : m = b.size - (j + 1) := by omega
            rw [this]; exact ha
        have hks : Cc.ks row (Cc.trail b.size (BY b) row (b.size - (j + 1))) = if row < Cc.trail b.size (BY b) row (b.size - (j + 1)) then Cc.trail b.size (BY b) row (b.size - (j + 1)) - 1 else Cc.trail b.size (BY b) row (b.size - (j + 1)) := rfl
        have cL := hL.cell (i := Cc.ks row (Cc.trail b.size (BY b) row (b.size - (j + 1)))) hkl
        have hg := (hX.set j (BY b (Cc.ks row (Cc.trail b.size (BY b) row (b.size - (j + 1)))))).congr (g := textTo b row j) fun k _ => hstep k (by omega)
        have hbv := BY_lt b hkl
        have cX := hX.cell (i := j) (by omega)
        have fX := hX.frozen j
        have Hnext : Hid (Cc.trail b.size (BY b) row (b.size - j) = Cc.lead b.size (BY b) (Cc.ks row (Cc.trail b.size (BY b) row (b.size - (j + 1))))) := hnext
        clear hnext hstep hT
        generalize Cc.trail b.size (BY b) row (b.size - (j + 1)) = a at *
        generalize hkk : Cc.ks row a = k at *
        rw [hbv] at hg
        clear hbv
        have Hfin : Hid (Cc.trail b.size (BY b) row (b.size - j) = Cc.lead b.size (BY b) k) := Hnext
        have hne : ((a : Int) == (row : Int)) = false := by simp; omega
        have hlb := Cc.lead_le (b := BY b) hkl
        generalize Cc.lead b.size (BY b) k = l at *
        by_cases hra : row < a
        · have hak : a = k + 1 := by rw [if_pos hra] at hks; omega
          subst hak
          clear hks hkk Hnext
          have hra' : (row : Int) < ((k + 1 : Nat) : Int) := by omega
          go_wp2
          exact ⟨⟨j, by omega, rfl, by rw [Hfin.out], hT2, hL.other (by simp; omega) _, hg, hBl.setCell (by simp; omega) _⟩, by simp [intOf]⟩
        · have hak : a = k := by rw [if_neg hra] at hks; omega
          subst hak
          clear hks hkk Hnext
          go_wp2
          exact ⟨⟨j, by omega, rfl, by rw [Hfin.out], hT2, hL.other (by simp; omega) _, hg, hBl.setCell (by simp; omega) _⟩, by simp [intOf]⟩

end Go.Proofs.YtopihgmemnokkaaGreat
