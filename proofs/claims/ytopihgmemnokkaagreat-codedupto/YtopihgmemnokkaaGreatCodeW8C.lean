import Derived.Test.YtopihgmemnokkaaGreatCodeW7C
import Derived.Test.YtopihgmemnokkaaGreatEndsC
import Derived.Test.YtopihgmemnokkaaGreatRowCC
namespace Go.Proofs.YtopihgmemnokkaaGreat
open Go.RowKit Go.Shelf Go.Lib

/-- how often a byte is among the first p of a text -/
def cntB (s : ByteArray) (p c : Nat) : Nat := Cc.cn p fun j => decide (BY s j = c)
theorem cntB_succ (s : ByteArray) (p c : Nat) : Cc.put (cntB s p) (BY s p) (cntB s p (BY s p) + 1) c = cntB s (p + 1) c := by
  unfold cntB
  by_cases h : c = BY s p
  · subst h; rw [Cc.put_same]; simp [Cc.cn]
  · rw [Cc.put_other _ _ h]
    have h' : ¬ BY s p = c := fun e => h e.symm
    simp [Cc.cn, h']

set_option maxRecDepth 100000 in
set_option maxHeartbeats 1000000 in
theorem count_any (s : ByteArray) (w : World) (hs : s.size ≤ 1000) :
    Calls Tryz.prog 74 #[.string s] w fun e w' => e = .returned (.agg (rowC 256 (cntB s s.size))) ∧ Below w.heap.size w w' := by
  go_enter Tryz.func74, Tryz.ntmps74
  go_wp2_with (refine wpList_alloc_row rfl 120 rfl _ zero256 ?_)
  go_loopw [4, 7] (fun _ i wr => ∃ p : Nat, p ≤ s.size ∧ i = .int .i64 p ∧ Row wr w.heap.size 120 256 (fun _ => 0) ∧ Row wr (w.heap.size + 1) 120 256 (cntB s p) ∧ Below w.heap.size w wr) (fun _ i _ => s.size - (intOf i).toNat)
  case atStart =>
    refine ⟨0, by omega, rfl, (Row.new w _ _ _).alloc _, (Row.new' _ 256 (fun _ => 0) (by simp)).congr fun c _ => by simp [cntB, Cc.cn], ((Below.refl _ _).alloc (Nat.le_refl _) _).alloc (by simp) _⟩
  case round =>
    obtain ⟨p, hp, rfl, hR0, hR1, hBl⟩ := hrel
    by_cases hlt : p < s.size
    · have hby := BY_le s p
      have hbv := BY_lt s hlt
      have c0 := hR1.cell (i := BY s p) (by omega)
      have f0 := hR1.frozen (BY s p)
      have hcl : cntB s p (BY s p) ≤ p := Cc.cn_le p _
      have hg : Row (wr.setCell ⟨w.heap.size + 1, BY s p, none⟩ (.int .i64 ((cntB s p (BY s p) + 1 : Nat) : Int))) (w.heap.size + 1) 120 256 (cntB s (p + 1)) :=
        (hR1.set (BY s p) _).congr fun c _ => cntB_succ s p c
      rw [hbv] at c0 f0 hcl hg hby
      have hx : (s[p].toNat : Int) < 256 := by omega
      clear hbv hby
      generalize cntB s p s[p].toNat = q at c0 hcl hg
      go_wp2
      exact ⟨⟨p + 1, by omega, by go_num, hR0.other (by simp) _, hg, hBl.setCell (by simp) _⟩, by simp [intOf]; omega⟩
    · have hp' : p = s.size := by omega
      subst hp'
      go_wp2_with (first
        | (refine wpList_load_row rfl 120 _ rfl (w.heap.size + 1) rfl 120 (rowC 256 (cntB s s.size)) (0, 0) _ (by exact hR1) Tryz.underlying120 rfl (by rw [size_rowC]; exact size256) ?_)
        | (refine wpList_store_row rfl 120 _ _ rfl w.heap.size (rowC 256 (cntB s s.size)) rfl rfl 120 (rowC 256 fun _ => 0) (by exact hR0) (by rw [size_rowC]; exact size256) (by rw [size_rowC, size_rowC]) (rowC_one _ _) ?_))
      have hfin : Row (wr.setRow w.heap.size (rowC 256 (cntB s s.size))) w.heap.size 120 256 (cntB s s.size) := hR0.setRow _
      refine bodyPost_ret (results_cell_row Tryz.results74 _ _ w.heap.size 120 (rowC 256 (cntB s s.size)) (0, 0) _ rfl hfin Tryz.underlying120 rfl (by rw [size_rowC]; exact size256)) rfl ⟨rfl, ?_⟩
      exact below_setRow hBl (by omega) _

end Go.Proofs.YtopihgmemnokkaaGreat

namespace Go.Proofs.YtopihgmemnokkaaGreat
open Go.RowKit Go.Shelf Go.Lib

/-- a row of m bytes -/
def rowU (m : Nat) (f : Nat → Nat) : Array Value := (Array.range m).map fun i => .int .u8 (f i : Nat)
theorem size_rowU (m : Nat) (f : Nat → Nat) : (rowU m f).size = m := by simp [rowU]
theorem rowU_get {m : Nat} {f : Nat → Nat} {i : Nat} (h : i < m) : (rowU m f)[i]? = some (.int .u8 (f i : Nat)) := by simp [rowU, h]
theorem rowU_congr {m : Nat} {f g : Nat → Nat} (h : ∀ i, i < m → f i = g i) : rowU m f = rowU m g := by
  unfold rowU
  apply Array.map_congr_left
  intro a ha
  rw [h a (by simpa using ha)]
theorem rowU_set {m : Nat} {f : Nat → Nat} {i v : Nat} : (rowU m f).setIfInBounds i (.int .u8 (v : Nat)) = rowU m (Cc.put f i v) := by
  apply Array.ext_getElem?
  intro j
  rw [Array.getElem?_setIfInBounds, size_rowU]
  by_cases hj : j < m
  · rw [rowU_get hj]
    by_cases e : i = j
    · subst e; simp [hj, rowU_get hj, Cc.put]
    · have e' : ¬ j = i := fun x => e x.symm
      rw [if_neg e, rowU_get hj]; simp [Cc.put, e']
  · have h1 : (rowU m f)[j]? = none := by simp [size_rowU]; omega
    have h2 : (rowU m (Cc.put f i v))[j]? = none := by simp [size_rowU]; omega
    rw [h1, h2]
    by_cases e : i = j
    · subst e; simp [hj]
    · rw [if_neg e]
theorem rowU_made (m : Nat) : madeCells #[.int .u8 0] m = rowU m fun _ => 0 := by
  unfold madeCells rowU
  apply Array.map_congr_left
  intro a _
  have : a % (#[Value.int .u8 0] : Array Value).size = 0 := by simp [Nat.mod_one]
  rw [this]; rfl

theorem Tryz.infoU8 : (Tryz.prog.info? 5).map (fun i => (i.zero, i.size, i.bytes)) = some (some (.int .u8 0), 1, 1) := by kernel_rfl
theorem make_bytesU (n : Nat) (hn : n ≤ 1001) (w : World) : (Instr.makeSlice 55 (.int .i64 (n : Int)) (.int .i64 (n : Int))).run Tryz.prog w
    = .ok (.slice (some ⟨w.heap.size, 0, none⟩) n n) (w.alloc (.cells (rowU n fun _ => 0) 5)) := by
  obtain ⟨i, hi, hz0, hz1, hz2⟩ := info_parts Tryz.infoU8
  have h := run_make (P := Tryz.prog) w 55 5 i _ Tryz.underlying55 hi hz0 .i64 .i64 n n (by omega) (by omega) (by rw [hz2]; omega) (by omega)
  rw [hz1] at h
  simp only [Int.toNat_natCast, Nat.mul_one] at h
  have hc : (Value.int .u8 0).cells = #[.int .u8 0] := rfl
  rw [hc, rowU_made] at h
  exact h

/-- the noughts and ones of a run -/
def bitB (n v i : Nat) : Nat := 48 + v / 2 ^ (n - 1 - i) % 2
def bitTo (n v k i : Nat) : Nat := if i < k then bitB n v i else 0
/-- a run as a text -/
def runText (n v : Nat) : ByteArray := strOfNums ((List.range n).map fun i => ((bitB n v i : Nat) : Int))

theorem bitTo_succ (n v k i : Nat) : Cc.put (bitTo n v k) k (bitB n v k) i = bitTo n v (k + 1) i := by
  by_cases h : i = k
  · subst h; rw [Cc.put_same]; unfold bitTo; rw [if_pos (by omega)]
  · rw [Cc.put_other _ _ h]; unfold bitTo
    by_cases h1 : i < k
    · rw [if_pos h1, if_pos (by omega)]
    · rw [if_neg h1, if_neg (by omega)]

def RowU (w : World) (b m : Nat) (f : Nat → Nat) : Prop := w.heap[b]? = some (.cells (rowU m f) 5 (0, 0))

set_option maxRecDepth 100000 in
set_option maxHeartbeats 1000000 in
theorem text_any (n v : Nat) (w : World) (hn : n ≤ 64) (hv : v < 18446744073709551616) :
    Calls Tryz.prog 89 #[runV n v] w fun e w' => e = .returned (.string (runText n v)) ∧ Below w.heap.size w w' := by
  have hmk := fun w => make_bytesU n (by omega) w
  show Calls Tryz.prog 89 #[.agg #[.int .i64 (n : Nat), .int .u64 (v : Nat)]] w _
  have hbx : ∀ wr, Below (w.heap.size + 1) (w.alloc (.cells #[.int .i64 (n : Nat), .int .u64 (v : Nat)] 114)) wr → wr.cell? ⟨w.heap.size, 0, none⟩ = some (.int .i64 (n : Nat)) ∧ wr.cell? ⟨w.heap.size, 1, none⟩ = some (.int .u64 (v : Nat)) := fun wr hb => by
    have h1 := hb.block w.heap.size (by omega)
    rw [heap_alloc_new w] at h1
    exact ⟨by simp [World.cell?, h1], by simp [World.cell?, h1]⟩
  have HBX : Hid _ := hbx
  have hz : (w.alloc (.cells #[.int .i64 (n : Nat), .int .u64 (v : Nat)] 114)).heap.size = w.heap.size + 1 := by simp
  have Hz : Hid _ := hz
  clear hbx hz
  go_enter Tryz.func89, Tryz.ntmps89
  go_wp2
  go_loopw [4, 10] (fun _ i wr => ∃ k : Nat, k ≤ n ∧ i = .int .i64 k ∧ Hid (RowU wr (w.heap.size + 1) n (bitTo n v k)) ∧ Hid (Below (w.heap.size + 1) (w.alloc (.cells #[.int .i64 (n : Nat), .int .u64 (v : Nat)] 114)) wr)) (fun _ i _ => n - (intOf i).toNat)
  case atStart => exact ⟨0, by omega, rfl, heap_alloc_new' _ _ (by simp), (Below.refl _ _).alloc (by simp) _⟩
  case round =>
    obtain ⟨k, hk, rfl, RU, BL⟩ := hrel
    obtain ⟨c0, c1⟩ := HBX.out wr BL.out
    have hru : wr.heap[w.heap.size + 1]? = some (.cells (rowU n (bitTo n v k)) 5 (0, 0)) := RU.out
    have hlt1 : w.heap.size + 1 < wr.heap.size := (Array.getElem?_eq_some_iff.1 hru).1
    by_cases hlt : k < n
    · have d0 : wr.cell? ⟨w.heap.size + 1, k, none⟩ = some (.int .u8 (bitTo n v k k : Nat)) := by unfold World.cell?; rw [hru]; exact rowU_get hlt
      clear hru
      generalize bitTo n v k k = old at d0
      go_wp2_with fail
      refine (bit_any n v k wr hn hlt hv).mono ?_
      rintro e w2 ⟨rfl, hB2⟩
      have hru2 : w2.heap[w.heap.size + 1]? = some (.cells (rowU n (bitTo n v k)) 5 (0, 0)) := by rw [hB2.block _ hlt1]; exact RU.out
      have d0 : w2.cell? ⟨w.heap.size + 1, k, none⟩ = some (.int .u8 (bitTo n v k k : Nat)) := by unfold World.cell?; rw [hru2]; exact rowU_get hlt
      have d1 : w2.frozen? ⟨w.heap.size + 1, k, none⟩ = false := by simp [World.frozen?, hru2]
      have hgo : RowU (w2.setCell ⟨w.heap.size + 1, k, none⟩ (.int .u8 (bitB n v k : Nat))) (w.heap.size + 1) n (bitTo n v (k + 1)) := by
        unfold RowU
        rw [← rowU_congr (fun i _ => bitTo_succ n v k i), ← rowU_set]
        simp [World.setCell, Array.getElem?_modify, hru2]
      have hbl : Below (w.heap.size + 1) (w.alloc (.cells #[.int .i64 (n : Nat), .int .u64 (v : Nat)] 114)) (w2.setCell ⟨w.heap.size + 1, k, none⟩ (.int .u8 (bitB n v k : Nat))) :=
        (BL.out.trans (hB2.mono (by omega))).setCell (Nat.le_refl _) _
      have hb48 : ((bitB n v k : Nat) : Int) = 48 + ((v / 2 ^ (n - 1 - k) % 2 : Nat) : Int) := by unfold bitB; omega
      rw [hb48] at hgo hbl
      have HGO : Hid _ := hgo
      have HBL : Hid _ := hbl
      have hbit : v / 2 ^ (n - 1 - k) % 2 < 2 := Nat.mod_lt _ (by omega)
      generalize bitTo n v k k = old2 at d0
      generalize v / 2 ^ (n - 1 - k) % 2 = Y at *
      clear hgo hbl hru2 hB2 hb48 c0 c1
      go_wp2
      exact ⟨⟨k + 1, by omega, by go_num, HGO, HBL⟩, by simp [intOf]; omega⟩
    · have hk' : k = n := by omega
      subst hk'
      have hcv := run_convert_bytes_arg (P := Tryz.prog) wr 55 5 Tryz.underlying55 Tryz.underlying5 (w.heap.size + 1) 0 k k ((List.range k).map fun i => ((bitB k v i : Nat) : Int)) (by simp) (by
        intro i hi
        rw [Nat.zero_add]
        unfold World.cell?
        rw [hru]
        show (rowU k (bitTo k v k))[i]? = _
        have hi' : i < k := by simpa using hi
        rw [rowU_get hi']
        unfold bitTo
        rw [if_pos hi']
        simp [hi']) 9 Tryz.underlying9
      clear hru c0 c1
      go_wp2
      go_ret
      exact ⟨rfl, ((Below.refl _ _).alloc (Nat.le_refl _) _).trans (BL.out.mono (by omega))⟩

end Go.Proofs.YtopihgmemnokkaaGreat

namespace Go.Proofs.YtopihgmemnokkaaGreat
open Go.RowKit Go.Shelf Go.Lib

def noRun : Nat → Nat × Nat := fun _ => (0, 0)

/-- the codes of bytes that are there so often -/
def CodesOf (f : Nat → Nat) (G : Nat → Nat × Nat) : Prop :=
  (leavesTo f 256 = [] ∧ G = noRun) ∨ (∃ c, c < 256 ∧ leavesTo f 256 = [.leaf c] ∧ G = updR noRun c (1, 0)) ∨
  (2 ≤ (leavesTo f 256).length ∧ ∃ l, l.Perm (leavesTo f 256) ∧ Hf.Inv f l ∧ G = spellF (Hf.join f l) 0 0 noRun)

theorem leaves_mem {f : Nat → Nat} {k : Nat} {t : Hf.T} (h : t ∈ leavesTo f k) : ∃ c, t = .leaf c ∧ c < k ∧ 0 < f c := by
  unfold leavesTo at h
  simp at h
  obtain ⟨c, ⟨h1, h2⟩, rfl⟩ := h
  exact ⟨c, rfl, h1, h2⟩
theorem leaves_flat (f : Nat → Nat) (k : Nat) : (leavesTo f k).flatMap Hf.bytes = (List.range k).filter fun c => decide (0 < f c) := by
  unfold leavesTo
  rw [List.flatMap_map]
  have : ∀ l : List Nat, l.flatMap (fun c => Hf.bytes (.leaf c)) = l := fun l => by
    induction l with
    | nil => rfl
    | cons a l ih => rw [List.flatMap_cons, ih]; rfl
  exact this _
theorem leaves_nodup (f : Nat → Nat) (k : Nat) : ((leavesTo f k).flatMap Hf.bytes).Nodup := by
  rw [leaves_flat]; exact List.Pairwise.filter _ List.nodup_range
theorem leaves_len (f : Nat → Nat) (k : Nat) : (leavesTo f k).length ≤ k := by
  unfold leavesTo
  rw [List.length_map]
  have h2 := List.length_filter_le (fun c => decide (0 < f c)) (List.range k)
  rw [List.length_range] at h2
  omega

theorem rowR_one (g : Nat → Nat × Nat) : (rowR g).all (·.oneCell') = true := by
  rw [Array.all_eq_true_iff_forall_mem]
  intro x hx
  unfold rowR at hx
  simp at hx
  obtain ⟨a, _, rfl⟩ := hx
  split <;> rfl

set_option maxRecDepth 100000 in
set_option maxHeartbeats 1000000 in
theorem of_anyG (f : Nat → Nat) (w : World) (hw : ∀ t, (Hf.bytes t).Nodup → (∀ c ∈ Hf.bytes t, c < 256) → Hf.wt f t ≤ 17000000) (hf : ∀ c, f c ≤ 1000000) :
    Calls Tryz.prog 79 #[.agg (rowC 256 f)] w fun e w' => (∃ G, e = .returned (.agg (rowR G)) ∧ CodesOf f G) ∧ Below w.heap.size w w' := by
  have HW : Hid _ := hw
  have HF : Hid _ := hf
  clear hw hf
  go_enter Tryz.func79, Tryz.ntmps79
  go_wp2_with (first
    | (refine wpList_alloc_row rfl 115 rfl _ zero512 ?_)
    | (refine wpList_load_row rfl 120 _ rfl w.heap.size rfl 120 (rowC 256 f) (0, 0) _ (by rw [Below.heap_alloc _ _ _ (by simp; omega), Below.heap_alloc _ _ _ (by simp)]; exact heap_alloc_new w _) Tryz.underlying120 rfl (by rw [size_rowC]; exact size256) ?_)
    | fail)
  have hm2 : Made (((w.alloc (.cells (rowC 256 f) 120)).alloc (.cells (rowR fun _ => (0, 0)) 115)).alloc (.cells (rowR fun _ => (0, 0)) 115)) (w.heap.size + 2) noRun := heap_alloc_new' _ _ (by simp)
  have hm1 : Made (((w.alloc (.cells (rowC 256 f) 120)).alloc (.cells (rowR fun _ => (0, 0)) 115)).alloc (.cells (rowR fun _ => (0, 0)) 115)) (w.heap.size + 1) noRun := by
    unfold Made; rw [Below.heap_alloc _ _ _ (by simp)]; exact heap_alloc_new' _ _ (by simp)
  have hb0 : Below w.heap.size w (((w.alloc (.cells (rowC 256 f) 120)).alloc (.cells (rowR fun _ => (0, 0)) 115)).alloc (.cells (rowR fun _ => (0, 0)) 115)) :=
    (((Below.refl _ _).alloc (Nat.le_refl _) _).alloc (by simp) _).alloc (by simp; omega) _
  have hz0 : (((w.alloc (.cells (rowC 256 f) 120)).alloc (.cells (rowR fun _ => (0, 0)) 115)).alloc (.cells (rowR fun _ => (0, 0)) 115)).heap.size = w.heap.size + 3 := by simp
  refine (alone_any f _ HF.out).mono ?_
  generalize (((w.alloc (.cells (rowC 256 f) 120)).alloc (.cells (rowR fun _ => (0, 0)) 115)).alloc (.cells (rowR fun _ => (0, 0)) 115)) = w0 at *
  rintro e w1 ⟨vv, L, rfl, own, tr, bl1⟩
  have k1 := Kept.of_below bl1 (Nat.le_refl _) (fun _ => False)
  have HM2 : Hid (Made w1 (w.heap.size + 2) noRun) := hm2.keep k1 (fun h => h)
  have HM1 : Hid (Made w1 (w.heap.size + 1) noRun) := hm1.keep k1 (fun h => h)
  have HBL : Hid (Below w.heap.size w w1) := hb0.trans (bl1.mono (by omega))
  have HB1 : Hid (Below (w.heap.size + 3) w0 w1) := by rw [hz0] at bl1; exact bl1
  obtain ⟨va, vc, rfl⟩ := own_slice own
  have OW : Hid (w1.ownsRow w0.heap.size 178 1 (.slice va L.length vc) L.length (ptrs L)) := own
  have TR : Hid (Trees f w1 L (leavesTo f 256)) := tr
  have HLL : Hid (L.length = (leavesTo f 256).length) := tr.1
  have hL : L.length ≤ 256 := by rw [HLL.out]; exact leaves_len f 256
  have hz1 := bl1.size
  have HZ : Hid (w.heap.size + 3 ≤ w1.heap.size) := by show _ ≤ _; omega
  rw [hz0] at own
  have hlow := own.lt
  have HLOW : Hid _ := hlow
  clear own tr bl1 k1 hm1 hm2 hb0 hz0 hz1 hlow
  have h3 : L.length = 0 ∨ L.length = 1 ∨ 2 ≤ L.length := by omega
  rcases h3 with h0 | h1 | h2
  · have hnil : leavesTo f 256 = [] := List.length_eq_zero_iff.1 (by rw [← HLL.out]; exact h0)
    rw [h0]
    clear hL h0
    go_wp2_with (first
      | (refine wpList_load_row rfl 115 _ rfl (w.heap.size + 2) rfl 115 (rowR (noRun)) (0, 0) _ (by exact HM2.out) Tryz.underlying115 rfl (by rw [size_rowR]; exact size512) ?_)
      | (refine wpList_store_row rfl 115 _ _ rfl (w.heap.size + 1) (rowR (noRun)) rfl rfl 115 (rowR noRun) (by exact HM1.out) (by rw [size_rowR]; exact size512) (by simp only [size_rowR]) (rowR_one _) ?_))
    refine bodyPost_ret (results_cell_row Tryz.results79 _ _ (w.heap.size + 1) 115 (rowR (noRun)) (0, 0) _ rfl (setRow_heap _ _ _ _ _ _ HM1.out) Tryz.underlying115 rfl (by rw [size_rowR]; exact size512)) rfl ⟨⟨_, rfl, .inl ⟨hnil, rfl⟩⟩, ?_⟩
    exact below_setRow HBL.out (by omega) _
  · obtain ⟨b, hb⟩ : ∃ b, L = [b] := List.length_eq_one_iff.1 h1
    obtain ⟨t, ht⟩ : ∃ t, leavesTo f 256 = [t] := List.length_eq_one_iff.1 (by rw [← HLL.out]; exact h1)
    obtain ⟨c, rfl, hc, hfc⟩ := leaves_mem (f := f) (k := 256) (t := t) (by rw [ht]; simp)
    have hta : TreeAt f w1 (.leaf c) b := TR.out.2 0 b _ (by rw [hb]; rfl) (by rw [ht]; rfl)
    obtain ⟨g, cap, hva, _, hgl⟩ := OW.out.form (by omega)
    have hrow := prow_own (hva ▸ OW.out) rfl
    have c0 : w1.cell? ⟨g, 0, none⟩ = some (.pointer (some ⟨b, 0, none⟩)) := hrow.cells 0 b (by rw [hb]; rfl)
    have c1 := hta.c1
    have HT : Hid (leavesTo f 256 = [.leaf c]) := ht
    have HROW : Hid _ := hrow
    have hgM : g ≠ w.heap.size + 2 := by have := (HLOW.out g (by rw [hva]; rfl)).1; omega
    have hbM : b ≠ w.heap.size + 2 := by
      have := Made.tree HM2.out b _ hta
      exact this
    have hci : (c : Int) < 256 := by omega
    rw [hva, h1]
    clear ht hrow hta OW TR HLOW HLL hva hb h1 hL
    go_wp2
    have hS0 : w1.drew.cell? ⟨g, 0, none⟩ = some (.pointer (some ⟨b, 0, none⟩)) ∧ w1.drew.cell? ⟨b, 1, none⟩ = some (.int .u8 (c : Nat)) := ⟨c0, c1⟩
    refine wp_region_held_drew (S := fun w' => w'.cell? ⟨g, 0, none⟩ = some (.pointer (some ⟨b, 0, none⟩)) ∧ w'.cell? ⟨b, 1, none⟩ = some (.int .u8 (c : Nat))) (by kernel_rfl) hS0 (fun _ => ?_)
    refine wpAnyH_take (i := 0) (v := ?v0) rfl (by kernel_rfl) (by kernel_rfl) (by kernel_rfl) (fun _ _ _ h => h) (Or.inl ⟨by rfl, ?h0⟩) hS0 ?_
    case h0 => intro wq hS; obtain ⟨s1, s2⟩ := hS; go_simp; with_reducible rfl
    refine wpAnyH_take (i := 1) (v := ?v1) rfl (by kernel_rfl) (by kernel_rfl) (by kernel_rfl) (fun _ _ _ h => h) (Or.inl ⟨by rfl, ?h1⟩) hS0 ?_
    case h1 => intro wq hS; obtain ⟨s1, s2⟩ := hS; go_simp; with_reducible rfl
    refine wpAnyH_take (i := 2) (v := ?v2) rfl (by kernel_rfl) (by kernel_rfl) (by kernel_rfl) (fun _ _ _ h => h) (Or.inl ⟨by rfl, ?h2⟩) hS0 ?_
    case h2 => intro wq hS; obtain ⟨s1, s2⟩ := hS; go_simp; with_reducible rfl
    refine wpAnyH_take (i := 3) (v := ?v3) rfl (by kernel_rfl) (by kernel_rfl) (by kernel_rfl) (fun _ _ _ h => h) (Or.inl ⟨by rfl, ?h3⟩) hS0 ?_
    case h3 => intro wq hS; obtain ⟨s1, s2⟩ := hS; go_simp; with_reducible rfl
    refine wpAnyH_take (i := 4) (v := ?v4) rfl (by kernel_rfl) (by kernel_rfl) (by kernel_rfl) (fun _ _ _ h => h) (Or.inl ⟨by rfl, ?h4⟩) hS0 ?_
    case h4 => intro wq hS; obtain ⟨s1, s2⟩ := hS; go_simp; with_reducible rfl
    refine wpAnyH_take (i := 5) (v := ?v5) rfl (by kernel_rfl) (by kernel_rfl) (by kernel_rfl) (fun _ _ _ h => h) (Or.inl ⟨by rfl, ?h5⟩) hS0 ?_
    case h5 => intro wq hS; obtain ⟨s1, s2⟩ := hS; go_simp; with_reducible rfl
    refine wpAnyH_take (i := 6) (v := ?v6) rfl (by kernel_rfl) (by kernel_rfl) (by kernel_rfl) (fun _ _ _ h => h) (Or.inl ⟨by rfl, ?h6⟩) hS0 ?_
    case h6 => intro wq hS; obtain ⟨s1, s2⟩ := hS; go_simp; with_reducible rfl
    refine wpAnyH_ready (rs := [7]) (by kernel_rfl) (by simp) ?_
    refine AllReadyH.cons rfl (fun K hK => ?_) AllReadyH.nil
    go_simp
    refine (with_any 0 0 0 _ (by omega) (by omega) (by omega)).mono ?_
    rintro e w2 ⟨rfl, hB2⟩
    have k2 : Kept (fun _ => False) w1 w2 := ((Kept.refl (fun _ => False) w1).drew).trans (Kept.of_below hB2 (Nat.le_refl _) (fun _ => False))
    have c0 := cellK k2 c0 (fun h => h)
    have c1 := cellK k2 c1 (fun h => h)
    have hm2 : Made w2 (w.heap.size + 2) noRun := Made.keep HM2.out k2 (fun h => h)
    have HM1' : Hid (Made w2 (w.heap.size + 1) noRun) := Made.keep HM1.out k2 (fun h => h)
    have HBL' : Hid (Below w.heap.size w w2) := (HBL.out.drew).trans (hB2.mono (by have := HZ.out; show _ ≤ w1.heap.size; omega))
    have m0 := hm2.c0 hc
    have m1 := hm2.c1 hc
    have f0 := hm2.frozen (c * 2)
    have f1 := hm2.frozen (c * 2 + 1)
    have HP : Hid _ := hm2.put hc (1, 0)
    clear hB2 k2 hm2 HM2 HM1 HBL hS0
    refine hK.out _ _ ⟨c0, c1⟩ (fun _ => ?_)
    clear hK K
    unfold runV
    refine wpAnyH_take (i := 8) (v := ?v8) rfl (by kernel_rfl) (by kernel_rfl) (by kernel_rfl) (fun _ _ _ h => h) (Or.inl ⟨by rfl, ?h8⟩) ⟨c0, c1⟩ ?_
    case h8 => intro wq hS; obtain ⟨s1, s2⟩ := hS; go_simp; with_reducible rfl
    refine wpAnyH_ready (rs := [9]) (by kernel_rfl) (by simp) ?_
    refine AllReadyH.cons rfl (fun K hK => ?_) AllReadyH.nil
    go_simp
    have kp : Kept (fun k => k = w.heap.size + 2) w2 ((w2.setCell ⟨w.heap.size + 2, c * 2, none⟩ (.int .i64 1)).setCell ⟨w.heap.size + 2, c * 2 + 1, none⟩ (.int .u64 0)) := ((Kept.refl (fun k => k = w.heap.size + 2) w2).setCell (show (⟨w.heap.size + 2, c * 2, none⟩ : Addr).block = w.heap.size + 2 from rfl) _).setCell (show (⟨w.heap.size + 2, c * 2 + 1, none⟩ : Addr).block = w.heap.size + 2 from rfl) _
    have HM2 : Hid (Made ((w2.setCell ⟨w.heap.size + 2, c * 2, none⟩ (.int .i64 1)).setCell ⟨w.heap.size + 2, c * 2 + 1, none⟩ (.int .u64 0)) (w.heap.size + 2) (updR noRun c (1, 0))) := HP
    have HM1 : Hid (Made ((w2.setCell ⟨w.heap.size + 2, c * 2, none⟩ (.int .i64 1)).setCell ⟨w.heap.size + 2, c * 2 + 1, none⟩ (.int .u64 0)) (w.heap.size + 1) noRun) := Made.keep HM1'.out kp (by omega)
    have HBL : Hid (Below w.heap.size w ((w2.setCell ⟨w.heap.size + 2, c * 2, none⟩ (.int .i64 1)).setCell ⟨w.heap.size + 2, c * 2 + 1, none⟩ (.int .u64 0))) := kp.bel HBL'.out (Nat.le_refl _) (fun k hk => by omega)
    refine hK.out _ _ ⟨cellK kp c0 hgM, cellK kp c1 hbM⟩ (fun _ => ?_)
    clear hK K kp HP HM1' HBL' c0 c1 m0 m1 f0 f1
    generalize ((w2.setCell ⟨w.heap.size + 2, c * 2, none⟩ (.int .i64 1)).setCell ⟨w.heap.size + 2, c * 2 + 1, none⟩ (.int .u64 0)) = w3 at *
    refine wpAnyH_done (by kernel_rfl) ?_ _
    go_wp2_with (first
      | (refine wpList_load_row rfl 115 _ rfl (w.heap.size + 2) rfl 115 (rowR (updR noRun c (1, 0))) (0, 0) _ (by exact HM2.out) Tryz.underlying115 rfl (by rw [size_rowR]; exact size512) ?_)
      | (refine wpList_store_row rfl 115 _ _ rfl (w.heap.size + 1) (rowR (updR noRun c (1, 0))) rfl rfl 115 (rowR noRun) (by exact HM1.out) (by rw [size_rowR]; exact size512) (by simp only [size_rowR]) (rowR_one _) ?_))
    refine bodyPost_ret (results_cell_row Tryz.results79 _ _ (w.heap.size + 1) 115 (rowR (updR noRun c (1, 0))) (0, 0) _ rfl (setRow_heap _ _ _ _ _ _ HM1.out) Tryz.underlying115 rfl (by rw [size_rowR]; exact size512)) rfl ⟨⟨_, rfl, .inr (.inl ⟨c, hc, HT.out, rfl⟩)⟩, ?_⟩
    exact below_setRow HBL.out (by omega) _
  · obtain ⟨g, cap, hva, _, hgl⟩ := OW.out.form (by omega)
    have hrow := prow_own (hva ▸ OW.out) rfl
    have hgM1 : w.heap.size + 3 ≤ g := (HLOW.out g (by rw [hva]; rfl)).1
    have hjoin := join_any f w1 g cap L (leavesTo f 256) hrow TR.out (fun e => by rw [HLL.out, e] at h2; simp at h2) (leaves_len f 256)
      (fun t ht => by obtain ⟨c, e, _, h⟩ := leaves_mem ht; exact ⟨c, e, h⟩) (leaves_nodup f 256)
      (fun t ht hnd => Nat.le_trans (HW.out t hnd (fun c hc => by have := ht c hc; rw [leaves_flat] at this; simp at this; exact this.1)) (by omega))
      (fun c hc => by rw [leaves_flat] at hc; simp at hc; exact hc.1)
    have h2i : (2 : Int) ≤ (L.length : Int) := by omega
    have h20 : ((L.length : Int) == 0) = false := beq_false_of_ne (by omega)
    have h21 : ((L.length : Int) == 1) = false := beq_false_of_ne (by omega)
    have H2L : Hid (2 ≤ (leavesTo f 256).length) := by rw [← HLL.out]; exact h2
    rw [hva]
    clear hrow hva OW TR HLOW HLL HF
    go_wp2_with fail
    refine hjoin.mono ?_
    rintro e w2 ⟨b, l2, rfl, hperm, hinv, htree, hk2⟩
    have hl2 : l2.length = (l2.length - 1) + 1 := by
      have h3 := hperm.length_eq
      have h4 := H2L.out
      omega
    obtain ⟨hI, hB⟩ := Hf.join_good (l2.length - 1) l2 hl2 hinv
    have hbytes : ∀ c ∈ Hf.bytes (Hf.join f l2), c < 256 := fun c hc => by
      have h3 := (Hf.flat_perm hperm).mem_iff.1 (hB.mem_iff.1 hc)
      rw [leaves_flat] at h3
      simp at h3
      exact h3.1
    have hnd : (Hf.bytes (Hf.join f l2)).Nodup := by
      have := hI.nd
      simpa using this
    have hht := Hf.ht_leG (hI.gd _ (by simp)) (fun c hc => hI.pos _ (by simp) c hc) (HW.out _ hnd hbytes)
    have hm2 : Made w2 (w.heap.size + 2) noRun := Made.keep HM2.out hk2 (by omega)
    have hspell := spell_any f (Hf.join f l2) b (w.heap.size + 2) 0 0 noRun w2 htree hm2 hbytes (by omega) (by omega)
    have HM1' : Hid (Made w2 (w.heap.size + 1) noRun) := Made.keep HM1.out hk2 (by omega)
    have HBL' : Hid (Below w.heap.size w w2) := hk2.bel HBL.out (Nat.le_refl _) (fun k hk => by omega)
    have HC : Hid (CodesOf f (spellF (Hf.join f l2) 0 0 noRun)) := .inr (.inr ⟨H2L.out, l2, hperm, hinv, rfl⟩)
    clear hperm hinv htree hk2 hl2 hI hB hbytes hnd hht hm2 hjoin HM1 HM2 HBL H2L
    go_wp2_with fail
    refine hspell.mono ?_
    rintro e w3 ⟨rfl, hm3, hk3⟩
    have HM2 : Hid _ := hm3
    have HM1 : Hid (Made w3 (w.heap.size + 1) noRun) := Made.keep HM1'.out hk3 (by omega)
    have HBL : Hid (Below w.heap.size w w3) := hk3.bel HBL'.out (Nat.le_refl _) (fun k hk => by omega)
    clear hm3 hk3 hspell HM1' HBL'
    go_wp2_with (first
      | (refine wpList_load_row rfl 115 _ rfl (w.heap.size + 2) rfl 115 (rowR (spellF (Hf.join f l2) 0 0 noRun)) (0, 0) _ (by exact HM2.out) Tryz.underlying115 rfl (by rw [size_rowR]; exact size512) ?_)
      | (refine wpList_store_row rfl 115 _ _ rfl (w.heap.size + 1) (rowR (spellF (Hf.join f l2) 0 0 noRun)) rfl rfl 115 (rowR noRun) (by exact HM1.out) (by rw [size_rowR]; exact size512) (by simp only [size_rowR]) (rowR_one _) ?_))
    refine bodyPost_ret (results_cell_row Tryz.results79 _ _ (w.heap.size + 1) 115 (rowR (spellF (Hf.join f l2) 0 0 noRun)) (0, 0) _ rfl (setRow_heap _ _ _ _ _ _ HM1.out) Tryz.underlying115 rfl (by rw [size_rowR]; exact size512)) rfl ⟨⟨_, rfl, HC.out⟩, ?_⟩
    exact below_setRow HBL.out (by omega) _

theorem of_any (f : Nat → Nat) (w : World) (hw : ∀ t, (Hf.bytes t).Nodup → (∀ c ∈ Hf.bytes t, c < 256) → Hf.wt f t ≤ 1000) (hf : ∀ c, f c ≤ 1000000) :
    Calls Tryz.prog 79 #[.agg (rowC 256 f)] w fun e w' => (∃ G, e = .returned (.agg (rowR G)) ∧ CodesOf f G) ∧ Below w.heap.size w w' :=
  of_anyG f w (fun t a b => Nat.le_trans (hw t a b) (by omega)) hf

end Go.Proofs.YtopihgmemnokkaaGreat

namespace Go.Proofs.YtopihgmemnokkaaGreat
open Go.RowKit

/-- a run's bits -/
def bl (x : Nat × Nat) : List Bool := (List.range x.1).map fun i => decide (x.2 / 2 ^ (x.1 - 1 - i) % 2 = 1)
theorem bl_len (x : Nat × Nat) : (bl x).length = x.1 := by simp [bl]
theorem bl_snoc (n v : Nat) (b : Bool) : bl (n + 1, 2 * v + b.toNat) = bl (n, v) ++ [b] := by
  have hb : b.toNat ≤ 1 := Bool.toNat_le _
  unfold bl
  simp only
  rw [List.range_succ, List.map_append]
  congr 1
  · apply List.map_congr_left
    intro i hi
    have hi' : i < n := by simpa using hi
    have e : (2 * v + b.toNat) / 2 ^ (n + 1 - 1 - i) = v / 2 ^ (n - 1 - i) := by
      rw [show n + 1 - 1 - i = (n - 1 - i) + 1 by omega, Nat.pow_succ, Nat.mul_comm (2 ^ (n - 1 - i)) 2, ← Nat.div_div_eq_div_mul]
      congr 1; omega
    rw [e]
  · simp only [List.map_cons, List.map_nil]
    rw [show n + 1 - 1 - n = 0 by omega, Nat.pow_zero, Nat.div_one]
    congr 1
    cases b
    · simp
    · simp

def numv (v : Nat) : List Bool → Nat
  | [] => v
  | b :: p => numv (2 * v + b.toNat) p
theorem bl_app : ∀ (p : List Bool) (n v : Nat), bl (n + p.length, numv v p) = bl (n, v) ++ p
  | [], n, v => by simp [numv]
  | b :: p, n, v => by
    have := bl_app p (n + 1) (2 * v + b.toNat)
    rw [bl_snoc, List.append_assoc] at this
    simp only [numv, List.length_cons]
    rw [show n + (p.length + 1) = n + 1 + p.length by omega, this]; rfl

theorem spellF_spec : ∀ (t : Hf.T) (n v : Nat) (g : Nat → Nat × Nat), (Hf.bytes t).Nodup →
    (∀ x ∈ Hf.paths t, spellF t n v g x.1 = (n + x.2.length, numv v x.2)) ∧ (∀ c, c ∉ Hf.bytes t → spellF t n v g c = g c)
  | .leaf c, n, v, g, _ => by
    refine ⟨fun x hx => ?_, fun d hd => ?_⟩
    · simp [Hf.paths] at hx; subst hx; simp [spellF, updR, numv]
    · simp [Hf.bytes] at hd; simp [spellF, updR, hd]
  | .node l r, n, v, g, hn => by
    have hn' := List.nodup_append.1 hn
    obtain ⟨l1, l2⟩ := spellF_spec l (n + 1) (2 * v) g hn'.1
    obtain ⟨r1, r2⟩ := spellF_spec r (n + 1) (2 * v + 1) (spellF l (n + 1) (2 * v) g) hn'.2.1
    refine ⟨fun x hx => ?_, fun c hc => ?_⟩
    · simp only [Hf.paths, List.mem_append, List.mem_map] at hx
      simp only [spellF]
      rcases hx with ⟨y, hy, rfl⟩ | ⟨y, hy, rfl⟩
      · have hyb : y.1 ∈ Hf.bytes l := by rw [← Hf.paths_bytes]; exact List.mem_map_of_mem (f := Prod.fst) hy
        have hyr : y.1 ∉ Hf.bytes r := fun h => hn'.2.2 _ hyb _ h rfl
        rw [r2 y.1 hyr, l1 y hy]
        simp [numv]; omega
      · rw [r1 y hy]
        simp [numv]; omega
    · simp only [Hf.bytes, List.mem_append, not_or] at hc
      simp only [spellF]
      rw [r2 c hc.2, l2 c hc.1]

/-- a sum -/
def sm : Nat → (Nat → Nat) → Nat
  | 0, _ => 0
  | k + 1, g => sm k g + g k
theorem sm_congr {k : Nat} {g h : Nat → Nat} (e : ∀ c, c < k → g c = h c) : sm k g = sm k h := by
  induction k with
  | zero => rfl
  | succ k ih => simp only [sm]; rw [ih (fun c hc => e c (by omega)), e k (by omega)]
theorem sm_le {k : Nat} {g h : Nat → Nat} (e : ∀ c, c < k → g c ≤ h c) : sm k g ≤ sm k h := by
  induction k with
  | zero => exact Nat.le_refl _
  | succ k ih => simp only [sm]; have := ih (fun c hc => e c (by omega)); have := e k (by omega); omega
theorem sm_filter (f g : Nat → Nat) (k : Nat) : (((List.range k).filter fun c => decide (0 < f c)).map g).sum = sm k fun c => if 0 < f c then g c else 0 := by
  induction k with
  | zero => rfl
  | succ k ih =>
    rw [List.range_succ, List.filter_append, List.map_append, List.sum_append, ih]
    simp only [sm]
    by_cases h : 0 < f k <;> simp [h]

/-- what codes are -/
structure Codes (f : Nat → Nat) (k : Nat → List Bool) : Prop where
  none : ∀ c, c < 256 → f c = 0 → k c = []
  some : ∀ c, c < 256 → 0 < f c → k c ≠ []
  free : ∀ c d, c < 256 → d < 256 → c ≠ d → 0 < f c → 0 < f d → ¬ k c <+: k d
  len : ∀ c, c < 256 → (k c).length ≤ 64
  opt : ∀ (N : Nat) (ℓ : Nat → Nat), (∀ c, c < 256 → 0 < f c → 1 ≤ ℓ c ∧ ℓ c ≤ N) → (sm 256 fun c => if 0 < f c then 2 ^ (N - ℓ c) else 0) ≤ 2 ^ N →
    (sm 256 fun c => f c * (k c).length) ≤ sm 256 fun c => if 0 < f c then f c * ℓ c else 0

theorem leaf_there {f : Nat → Nat} {c : Nat} (hc : c < 256) (h : 0 < f c) : Hf.T.leaf c ∈ leavesTo f 256 := by
  unfold leavesTo; simp [hc, h]

theorem codes_ofG {f : Nat → Nat} {G : Nat → Nat × Nat} (h : CodesOf f G) (hw : ∀ t, (Hf.bytes t).Nodup → (∀ c ∈ Hf.bytes t, c < 256) → Hf.wt f t ≤ 17000000) : Codes f (fun c => bl (G c)) := by
  rcases h with ⟨h0, rfl⟩ | ⟨c0, hc0, h1, rfl⟩ | ⟨h2, l, hperm, hinv, rfl⟩
  · have hno : ∀ c, c < 256 → f c = 0 := fun c hc => by
      rcases Nat.eq_zero_or_pos (f c) with h | h
      · exact h
      · have := leaf_there hc h; rw [h0] at this; simp at this
    refine ⟨fun c _ _ => rfl, fun c hc h => by have := hno c hc; omega, fun c d hc _ _ h => by have := hno c hc; omega, fun c _ => by simp [noRun, bl], fun N ℓ _ _ => ?_⟩
    rw [sm_congr (h := fun _ => 0) (fun c hc => by rw [hno c hc]; simp)]
    exact sm_le (fun c _ => Nat.zero_le _)
  · have hno : ∀ c, c < 256 → 0 < f c → c = c0 := fun c hc h => by
      have := leaf_there hc h; rw [h1] at this; simpa using this
    have hb : bl (updR noRun c0 (1, 0) c0) = [false] := by simp [updR, bl]
    have hz : ∀ c, c ≠ c0 → bl (updR noRun c0 (1, 0) c) = [] := fun c hc => by simp [updR, noRun, bl, hc]
    have hf0 : 0 < f c0 := by
      obtain ⟨c, e, _, h⟩ := leaves_mem (f := f) (k := 256) (t := .leaf c0) (by rw [h1]; simp)
      have : c0 = c := by simpa using e
      rw [this]; exact h
    refine ⟨fun c hc h => ?_, fun c hc h => ?_, fun c d hc hd hne h1 h2 => ?_, fun c hc => ?_, fun N ℓ hℓ _ => ?_⟩
    · by_cases e : c = c0
      · subst e; omega
      · exact hz c e
    · rw [hno c hc h, hb]; simp
    · exact absurd ((hno c hc h1).trans (hno d hd h2).symm) hne
    · by_cases e : c = c0
      · subst e; rw [hb]; simp
      · rw [hz c e]; simp
    · refine sm_le (fun c hc => ?_)
      by_cases e : c = c0
      · subst e
        rw [hb, if_pos hf0]
        exact Nat.mul_le_mul_left _ (by have := (hℓ c hc hf0).1; simpa using this)
      · rw [hz c e]; simp
  · have hl2 : l.length = (l.length - 1) + 1 := by have := hperm.length_eq; omega
    obtain ⟨hI, hB⟩ := Hf.join_good (l.length - 1) l hl2 hinv
    have hBf : (Hf.bytes (Hf.join f l)).Perm ((List.range 256).filter fun c => decide (0 < f c)) := by
      rw [← leaves_flat]; exact hB.trans (Hf.flat_perm hperm)
    have hbytes : ∀ c ∈ Hf.bytes (Hf.join f l), c < 256 ∧ 0 < f c := fun c hc => by
      have := hBf.mem_iff.1 hc; simpa using this
    have hnd : (Hf.bytes (Hf.join f l)).Nodup := by have := hI.nd; simpa using this
    obtain ⟨sp1, sp2⟩ := spellF_spec (Hf.join f l) 0 0 noRun hnd
    have hht := Hf.ht_leG (hI.gd _ (by simp)) (fun c hc => hI.pos _ (by simp) c hc) (hw _ hnd (fun c hc => (hbytes c hc).1))
    have hcode : ∀ x ∈ Hf.paths (Hf.join f l), bl (spellF (Hf.join f l) 0 0 noRun x.1) = x.2 := fun x hx => by
      rw [sp1 x hx, bl_app]; simp [bl]
    have hget : ∀ c, c < 256 → 0 < f c → ∃ p, (c, p) ∈ Hf.paths (Hf.join f l) := fun c hc h => by
      have : c ∈ Hf.bytes (Hf.join f l) := hBf.mem_iff.2 (by simp [hc, h])
      rw [← Hf.paths_bytes] at this
      obtain ⟨x, hx, rfl⟩ := List.mem_map.1 this
      exact ⟨x.2, hx⟩
    have hnone : ∀ c, c < 256 → f c = 0 → bl (spellF (Hf.join f l) 0 0 noRun c) = [] := fun c hc h => by
      rw [sp2 c (fun hm => by have := (hbytes c hm).2; omega)]; simp [noRun, bl]
    have hnode : ∃ a b, Hf.join f l = .node a b := by
      cases ht : Hf.join f l with
      | node a b => exact ⟨a, b, rfl⟩
      | leaf c =>
        have h3 := hBf.length_eq
        rw [ht, ← leaves_flat] at h3
        have h4 : ((leavesTo f 256).flatMap Hf.bytes).length = (leavesTo f 256).length := by rw [leaves_flat]; unfold leavesTo; simp
        rw [h4] at h3
        simp [Hf.bytes] at h3
        omega
    refine ⟨hnone, fun c hc h => ?_, fun c d hc hd hne h1 h2 => ?_, fun c hc => ?_, fun N ℓ hℓ hk => ?_⟩
    · obtain ⟨p, hp⟩ := hget c hc h
      have := hcode _ hp
      simp only at this ⊢
      rw [this]
      obtain ⟨a, b, hab⟩ := hnode
      rw [hab] at hp
      simp only [Hf.paths, List.mem_append, List.mem_map] at hp
      rcases hp with ⟨y, _, e⟩ | ⟨y, _, e⟩
      · have := congrArg Prod.snd e; simp only at this; rw [← this]; simp
      · have := congrArg Prod.snd e; simp only at this; rw [← this]; simp
    · obtain ⟨p, hp⟩ := hget c hc h1
      obtain ⟨q, hq⟩ := hget d hd h2
      have e1 := hcode _ hp
      have e2 := hcode _ hq
      simp only at e1 e2 ⊢
      rw [e1, e2]
      exact Hf.paths_free _ _ _ hp hq hne
    · rcases Nat.eq_zero_or_pos (f c) with h | h
      · rw [hnone c hc h]; simp
      · obtain ⟨p, hp⟩ := hget c hc h
        have e1 := hcode _ hp
        have := Hf.paths_len _ _ hp
        simp only at e1 this ⊢
        rw [e1]; omega
    · have hcost := Hf.paths_cost f (Hf.join f l)
      have hmap : (Hf.paths (Hf.join f l)).map (fun x => f x.1 * x.2.length) = (Hf.bytes (Hf.join f l)).map (fun c => f c * (bl (spellF (Hf.join f l) 0 0 noRun c)).length) := by
        rw [← Hf.paths_bytes, List.map_map]
        apply List.map_congr_left
        intro x hx
        simp only [Function.comp]
        rw [hcode x hx]
      rw [hmap, (hBf.map _).sum_nat, sm_filter] at hcost
      have hs1 : (sm 256 fun c => f c * (bl (spellF (Hf.join f l) 0 0 noRun c)).length) = Hf.cost f (Hf.join f l) := by
        rw [← hcost]
        apply sm_congr
        intro c _
        by_cases h : 0 < f c
        · simp [h]
        · have : f c = 0 := by omega
          simp [this]
      rw [hs1]
      have hleaf : ∀ t ∈ l, ∃ c, t = .leaf c ∧ c < 256 ∧ 0 < f c := fun t ht => leaves_mem (hperm.mem_iff.1 ht)
      have hm : (l.map fun t => (t, ℓ (Hf.least t))).map Prod.fst = l := by rw [List.map_map]; exact List.map_id _
      have hopt := Hf.opt f N (l.length - 1) (l.map fun t => (t, ℓ (Hf.least t))) (by simpa using hl2) (by rw [hm]; exact hinv) (fun p hp => by
          obtain ⟨t, ht, rfl⟩ := List.mem_map.1 hp
          obtain ⟨c, rfl, hc, h⟩ := hleaf t ht
          exact (hℓ c hc h).2) (by
          unfold Hf.kr
          rw [List.map_map, (hperm.map _).sum_nat]
          unfold leavesTo
          rw [List.map_map, sm_filter]
          refine Nat.le_trans (Nat.le_of_eq ?_) hk
          apply sm_congr
          intro c _
          rfl)
      rw [hm] at hopt
      refine Nat.le_trans hopt ?_
      unfold Hf.cs
      rw [List.map_map, (hperm.map _).sum_nat]
      unfold leavesTo
      rw [List.map_map, sm_filter]
      refine Nat.le_of_eq (sm_congr fun c _ => ?_)
      by_cases h : 0 < f c
      · simp [h, Hf.cost, Hf.wt, Hf.least]
      · simp [h]
theorem codes_of {f : Nat → Nat} {G : Nat → Nat × Nat} (h : CodesOf f G) (hw : ∀ t, (Hf.bytes t).Nodup → (∀ c ∈ Hf.bytes t, c < 256) → Hf.wt f t ≤ 1000) : Codes f (fun c => bl (G c)) :=
  codes_ofG h fun t a b => Nat.le_trans (hw t a b) (by omega)

end Go.Proofs.YtopihgmemnokkaaGreat

namespace Go.Proofs.YtopihgmemnokkaaGreat
open Go.RowKit Go.Shelf Go.Lib

/-- bits as a text -/
def tx (p : List Bool) : ByteArray := ⟨(p.map fun b => if b then (49 : UInt8) else 48).toArray⟩
theorem runText_tx (n v : Nat) : runText n v = tx (bl (n, v)) := by
  unfold runText tx bl strOfNums
  congr 2
  rw [List.map_map, List.map_map]
  apply List.map_congr_left
  intro i _
  simp only [Function.comp, bitB, Int.toNat_natCast]
  rcases Nat.mod_two_eq_zero_or_one (v / 2 ^ (n - 1 - i)) with h | h
  · simp [h]
  · simp [h]
theorem tx_size (p : List Bool) : (tx p).size = p.length := by simp [tx, ByteArray.size]

/-- a row of 256 texts -/
def rowS (t : Nat → ByteArray) : Array Value := (Array.range 256).map fun c => .string (t c)
theorem size_rowS (t : Nat → ByteArray) : (rowS t).size = 256 := by simp [rowS]
theorem rowS_get {t : Nat → ByteArray} {c : Nat} (h : c < 256) : (rowS t)[c]? = some (.string (t c)) := by simp [rowS, h]
theorem rowS_congr {t u : Nat → ByteArray} (h : ∀ c, c < 256 → t c = u c) : rowS t = rowS u := by
  unfold rowS
  apply Array.map_congr_left
  intro a ha
  rw [h a (by simpa using ha)]
def putS (t : Nat → ByteArray) (p : Nat) (v : ByteArray) : Nat → ByteArray := fun c => if c = p then v else t c
theorem rowS_set {t : Nat → ByteArray} {i : Nat} {v : ByteArray} : (rowS t).setIfInBounds i (.string v) = rowS (putS t i v) := by
  apply Array.ext_getElem?
  intro j
  rw [Array.getElem?_setIfInBounds, size_rowS]
  by_cases hj : j < 256
  · rw [rowS_get hj]
    by_cases e : i = j
    · subst e; simp [hj, rowS_get hj, putS]
    · have e' : ¬ j = i := fun x => e x.symm
      rw [if_neg e, rowS_get hj]; simp [putS, e']
  · have h1 : (rowS t)[j]? = none := by simp [size_rowS]; omega
    have h2 : (rowS (putS t i v))[j]? = none := by simp [size_rowS]; omega
    rw [h1, h2]
    by_cases e : i = j
    · subst e; simp [hj]
    · rw [if_neg e]
theorem rowS_made : madeCells #[.string ByteArray.empty] 256 = rowS fun _ => ByteArray.empty := by
  unfold madeCells rowS
  apply Array.map_congr_left
  intro a _
  have : a % (#[Value.string ByteArray.empty] : Array Value).size = 0 := by simp [Nat.mod_one]
  rw [this]; rfl
def SRow (w : World) (g : Nat) (t : Nat → ByteArray) : Prop := w.heap[g]? = some (.cells (rowS t) 9 (0, 0))
theorem SRow.cell {w : World} {g : Nat} {t : Nat → ByteArray} (h : SRow w g t) {c : Nat} (hc : c < 256) : w.cell? ⟨g, c, none⟩ = some (.string (t c)) := by
  unfold SRow at h; unfold World.cell?; rw [h]; exact rowS_get hc
theorem SRow.keep {P : Nat → Prop} {w w' : World} {g : Nat} {t : Nat → ByteArray} (h : SRow w g t) (hk : Kept P w w') (hn : ¬ P g) : SRow w' g t := by
  unfold SRow at *
  rw [hk.block g (Array.getElem?_eq_some_iff.1 h).1 hn]; exact h
theorem SRow.below {w w' : World} {g : Nat} {t : Nat → ByteArray} (h : SRow w g t) (hb : Below w.heap.size w w') : SRow w' g t :=
  h.keep (Kept.of_below hb (Nat.le_refl _) (fun _ => False)) (fun h => h)

theorem Tryz.infoStr : (Tryz.prog.info? 9).map (fun i => (i.zero, i.size, i.bytes)) = some (some (.string ByteArray.empty), 1, 16) := by kernel_rfl
theorem make_texts (w : World) : (Instr.makeSlice 31 (.int .i64 256) (.int .i64 256)).run Tryz.prog w
    = .ok (.slice (some ⟨w.heap.size, 0, none⟩) 256 256) (w.alloc (.cells (rowS fun _ => ByteArray.empty) 9)) := by
  obtain ⟨i, hi, hz0, hz1, hz2⟩ := info_parts Tryz.infoStr
  have h := run_make (P := Tryz.prog) w 31 9 i _ Tryz.underlying31 hi hz0 .i64 .i64 256 256 (by omega) (by omega) (by rw [hz2]; decide) (by omega)
  rw [hz1] at h
  have hc : (Value.string ByteArray.empty).cells = #[.string ByteArray.empty] := rfl
  rw [hc] at h
  simp only [Nat.mul_one] at h
  rw [show (256 : Int).toNat = 256 from rfl, rowS_made] at h
  exact h

theorem run_ix_run (G : Nat → Nat × Nat) (c : Nat) (hc : c < 256) (w : World) :
    (Instr.index 115 (.agg (rowR G)) (.int .i64 (c : Int))).run Tryz.prog w = .ok (.agg #[.int .i64 ((G c).1 : Nat), .int .u64 ((G c).2 : Nat)]) w := by
  have e0 := rowR_get0 G hc
  have e1 := rowR_get1 G hc
  have hx : (rowR G).extract (c * 2) (c * 2 + 2) = #[.int .i64 ((G c).1 : Nat), .int .u64 ((G c).2 : Nat)] := by
    apply Array.ext_getElem?
    intro j
    rw [Array.getElem?_extract, size_rowR]
    have hm : min (c * 2 + 2) 512 - c * 2 = 2 := by omega
    rw [hm]
    match j with
    | 0 => simpa using e0
    | 1 => simpa using e1
    | j + 2 => simp; omega
  simp [Instr.index, run_underlying Tryz.underlying115, asIntOf, part, Tryz.isAgg114, Tryz.sizeOf114, hx]
  omega

theorem sm_bound {k B : Nat} {g : Nat → Nat} (h : ∀ c, c < k → g c ≤ B) : sm k g ≤ k * B := by
  induction k with
  | zero => simp [sm]
  | succ k ih => simp only [sm]; have := ih (fun c hc => h c (by omega)); have := h k (by omega); rw [Nat.succ_mul]; omega

theorem spellF_small : ∀ (t : Hf.T) (n v : Nat) (g : Nat → Nat × Nat), v < 2 ^ n → (∀ c, (g c).2 < 2 ^ (g c).1) → ∀ c, (spellF t n v g c).2 < 2 ^ (spellF t n v g c).1
  | .leaf d, n, v, g, hv, hg, c => by
    simp only [spellF, updR]
    by_cases h : c = d
    · simp [h, hv]
    · simp [h]; exact hg c
  | .node l r, n, v, g, hv, hg, c =>
    spellF_small r (n + 1) (2 * v + 1) _ (by rw [Nat.pow_succ]; omega) (spellF_small l (n + 1) (2 * v) g (by rw [Nat.pow_succ]; omega) hg) c
theorem codes_small {f : Nat → Nat} {G : Nat → Nat × Nat} (h : CodesOf f G) (c : Nat) : (G c).2 < 2 ^ (G c).1 := by
  have h0 : ∀ c, (noRun c).2 < 2 ^ (noRun c).1 := fun c => by simp [noRun]
  rcases h with ⟨_, rfl⟩ | ⟨c0, _, _, rfl⟩ | ⟨_, l, _, _, rfl⟩
  · exact h0 c
  · exact spellF_small (.leaf c0) 1 0 noRun (by decide) h0 c
  · exact spellF_small _ 0 0 noRun (by decide) h0 c

/-- texts, as far as they are made -/
def txtTo (G : Nat → Nat × Nat) (p c : Nat) : ByteArray := if c < p then runText (G c).1 (G c).2 else ByteArray.empty
theorem txtTo_succ (G : Nat → Nat × Nat) (p c : Nat) : putS (txtTo G p) p (runText (G p).1 (G p).2) c = txtTo G (p + 1) c := by
  unfold putS txtTo
  by_cases h : c = p
  · subst h; simp
  · rw [if_neg h]
    by_cases h1 : c < p
    · rw [if_pos h1, if_pos (by omega)]
    · rw [if_neg h1, if_neg (by omega)]

/-- counts are no more than there is -/
theorem cnt_list (s : ByteArray) (n : Nat) (l : List Nat) (hl : l.Nodup) : (l.map (cntB s n)).sum ≤ n := by
  induction n with
  | zero =>
    have : ∀ l : List Nat, (l.map (cntB s 0)).sum = 0 := fun l => by
      induction l with
      | nil => rfl
      | cons a l ih => rw [List.map_cons, List.sum_cons, ih]; rfl
    rw [this]; exact Nat.le_refl _
  | succ n ih =>
    have h1 : ∀ l : List Nat, (l.map (cntB s (n + 1))).sum = (l.map (cntB s n)).sum + l.count (BY s n) := fun l => by
      induction l with
      | nil => rfl
      | cons a l ih =>
        rw [List.map_cons, List.sum_cons, ih, List.map_cons, List.sum_cons, List.count_cons]
        have : cntB s (n + 1) a = cntB s n a + (if a == BY s n then 1 else 0) := by
          unfold cntB
          simp only [Cc.cn]
          by_cases e : BY s n = a
          · subst e; simp
          · have e' : ¬ a = BY s n := fun x => e x.symm
            simp [e, e']
        omega
    have h2 := List.nodup_iff_count.1 hl (BY s n)
    rw [h1]; omega
theorem wt_list (f : Nat → Nat) : ∀ t : Hf.T, Hf.wt f t = ((Hf.bytes t).map f).sum
  | .leaf c => by simp [Hf.wt, Hf.bytes]
  | .node l r => by simp only [Hf.wt, Hf.bytes, List.map_append, List.sum_append]; rw [wt_list f l, wt_list f r]

set_option maxRecDepth 100000 in
set_option maxHeartbeats 1000000 in
theorem codes_any2 (s : ByteArray) (w : World) (hs : s.size ≤ 1000) :
    Calls Tryz.prog 46 #[.string s] w fun e w' => ∃ (G : Nat → Nat × Nat) (g n : Nat), e = .returned (.tuple #[.slice (some ⟨g, 0, none⟩) 256 256, .int .i64 (n : Nat), .int .i64 0]) ∧ SRow w' g (fun c => tx (bl (G c))) ∧
      CodesOf (cntB s s.size) G ∧ Codes (cntB s s.size) (fun c => bl (G c)) ∧ n = (sm 256 fun c => cntB s s.size c * (bl (G c)).length) ∧ n ≤ 16384000 ∧ w.heap.size ≤ g ∧ Below w.heap.size w w' := by
  have hfle : ∀ c, cntB s s.size c ≤ 1000 := fun c => Nat.le_trans (Cc.cn_le _ _) hs
  have hw : ∀ t, (Hf.bytes t).Nodup → (∀ c ∈ Hf.bytes t, c < 256) → Hf.wt (cntB s s.size) t ≤ 1000 := fun t hn _ => by
    rw [wt_list]; exact Nat.le_trans (cnt_list s s.size _ hn) hs
  have hcnt := fun W => count_any s W hs
  have HF : Hid (∀ c, cntB s s.size c ≤ 1000) := hfle
  have HW : Hid _ := hw
  generalize cntB s s.size = f at *
  have hof := fun W => of_any f W HW.out (fun c => by have := HF.out c; omega)
  have hmk := make_texts
  have hdec : decide ((1000 : Int) < (s.size : Int)) = false := by simp; omega
  clear hfle hw
  go_enter Tryz.func46, Tryz.ntmps46
  go_wp2_with fail
  refine (hcnt _).mono ?_
  rintro e w1 ⟨rfl, hB1⟩
  clear hcnt
  have hR0 : (((w1.alloc (.cells (rowC 256 fun _ => 0) 120)).setRow w1.heap.size (rowC 256 f)).alloc (.cells (rowS fun _ => ByteArray.empty) 9)).heap[w1.heap.size]? = some (.cells (rowC 256 f) 120 (0, 0)) := by
    rw [Below.heap_alloc _ _ _ (by simp)]
    exact setRow_heap _ _ _ _ _ _ (heap_alloc_new w1 _)
  have hS0 : SRow (((w1.alloc (.cells (rowC 256 fun _ => 0) 120)).setRow w1.heap.size (rowC 256 f)).alloc (.cells (rowS fun _ => ByteArray.empty) 9)) (w1.heap.size + 1) (fun _ => ByteArray.empty) := heap_alloc_new' _ _ (by simp)
  have hB2 : Below w.heap.size w (((w1.alloc (.cells (rowC 256 fun _ => 0) 120)).setRow w1.heap.size (rowC 256 f)).alloc (.cells (rowS fun _ => ByteArray.empty) 9)) := (below_setRow (hB1.alloc hB1.size _) hB1.size _).alloc (by have := hB1.size; simp; omega) _
  have hz2 : (((w1.alloc (.cells (rowC 256 fun _ => 0) 120)).setRow w1.heap.size (rowC 256 f)).alloc (.cells (rowS fun _ => ByteArray.empty) 9)).heap.size = w1.heap.size + 2 := by simp
  have HR0 : Hid _ := hR0
  have HS0 : Hid _ := hS0
  have HB2 : Hid _ := hB2
  have HZ2 : Hid _ := hz2
  have hz1 := hB1.size
  clear hR0 hS0 hB2 hz2
  go_wp2_with (first
    | (refine wpList_load_row rfl 120 _ rfl w1.heap.size rfl 120 (rowC 256 f) (0, 0) _ (by exact HR0.out) Tryz.underlying120 rfl (by rw [size_rowC]; exact size256) ?_)
    | (refine wpList_alloc_row rfl 120 rfl _ zero256 ?_)
    | (refine wpList_store_row rfl 120 _ _ rfl w1.heap.size (rowC 256 f) rfl rfl 120 (rowC 256 fun _ => 0) (by exact heap_alloc_new w1 _) (by rw [size_rowC]; exact size256) (by rw [size_rowC, size_rowC]) (rowC_one _ _) ?_)
    | fail)
  refine (hof _).mono ?_
  rintro e w2 ⟨⟨G, rfl, hG⟩, hB3⟩
  have hcd := codes_of hG HW.out
  have HCO : Hid (CodesOf f G) := hG
  have HCD : Hid _ := hcd
  have hG64 : ∀ c, c < 256 → (G c).1 ≤ 64 := fun c hc => by have := hcd.len c hc; rw [bl_len] at this; exact this
  have hGv : ∀ c, c < 256 → (G c).2 < 18446744073709551616 := fun c hc => Nat.lt_of_lt_of_le (codes_small hG c) (Nat.le_trans (Nat.pow_le_pow_right (by omega) (hG64 c hc)) (by decide))
  have k3 := Kept.of_below hB3 (Nat.le_refl _) (fun _ => False)
  have HR3 : Hid (Row w2 w1.heap.size 120 256 f) := Kept.row k3 (show Row _ w1.heap.size 120 256 f from HR0.out) (fun h => h)
  have HS3 : Hid (SRow w2 (w1.heap.size + 1) (fun _ => ByteArray.empty)) := SRow.keep HS0.out k3 (fun h => h)
  have HB4 : Hid (Below w.heap.size w w2) := HB2.out.trans (hB3.mono HB2.out.size)
  have hz3 : w1.heap.size + 2 ≤ w2.heap.size := by have := hB3.size; rw [HZ2.out] at this; exact this
  have HZ3 : Hid _ := hz3
  have G64 : Hid _ := hG64
  have GV : Hid _ := hGv
  clear hcd hG hG64 hGv k3 hB3 HR0 HS0 HB2 HZ2 hof hmk hz3 HW
  go_wp2
  go_loopw [7, 8, 9, 18] (fun n _ _ i wr => ∃ p : Nat, p ≤ 256 ∧ i = .int .i64 p ∧ n = .int .i64 ((sm p fun c => f c * (G c).1 : Nat) : Int) ∧ Hid (Row wr w1.heap.size 120 256 f) ∧ Hid (SRow wr (w1.heap.size + 1) (txtTo G p)) ∧ Hid (Below w.heap.size w wr) ∧ Hid (w1.heap.size + 2 ≤ wr.heap.size)) (fun _ _ _ i _ => 256 - (intOf i).toNat)
  case atStart => exact ⟨0, by omega, rfl, rfl, HR3, HS3, HB4, HZ3⟩
  case round =>
    clear HR3 HS3 HB4 HZ3
    obtain ⟨p, hp, rfl, rfl, RW, SW, BL, HZ⟩ := hrel
    by_cases hlt : p < 256
    · have hix := run_ix_run G p hlt
      have htext := fun W => text_any (G p).1 (G p).2 W (G64.out p hlt) (GV.out p hlt)
      have hsmb : (sm p fun c => f c * (G c).1) ≤ p * 64000 := sm_bound fun c hc => by
        have h1 := HF.out c
        have h2 := G64.out c (by omega)
        exact Nat.le_trans (Nat.mul_le_mul h1 h2) (by decide)
      have hmul : f p * (G p).1 ≤ 64000 := Nat.le_trans (Nat.mul_le_mul (HF.out p) (G64.out p hlt)) (by decide)
      have hnext : Hid ((sm (p + 1) fun c => f c * (G c).1) = (sm p fun c => f c * (G c).1) + f p * (G p).1) := rfl
      have cf : wr.cell? ⟨w1.heap.size, p, none⟩ = some (.int .i64 (f p : Nat)) := Row.cell RW.out hlt
      have TS : Hid (∀ c, putS (txtTo G p) p (runText (G p).1 (G p).2) c = txtTo G (p + 1) c) := txtTo_succ G p
      have HT : Hid (∃ x, x = txtTo G p) := ⟨_, rfl⟩
      generalize (sm p fun c => f c * (G c).1) = S at *
      obtain ⟨gn, hgn⟩ : ∃ gn, (G p).1 = gn := ⟨_, rfl⟩
      obtain ⟨gv, hgv⟩ : ∃ gv, (G p).2 = gv := ⟨_, rfl⟩
      obtain ⟨fp, hfp⟩ : ∃ fp, f p = fp := ⟨_, rfl⟩
      rw [hgn, hgv] at hix htext TS
      rw [hgn] at hmul hnext
      rw [hfp] at hmul hnext cf
      have hm1 : (0 : Int) ≤ (fp : Int) * (gn : Int) := Int.mul_nonneg (by omega) (by omega)
      have hm2 : (fp : Int) * (gn : Int) ≤ 64000 := by have : ((fp * gn : Nat) : Int) ≤ 64000 := by omega
                                                       rw [Int.natCast_mul] at this; exact this
      have hS : S ≤ 16384000 := by omega
      clear hgn hgv hfp hmul hsmb HT
      have hdp : decide ((p : Int) < 256) = true := by simp; omega
      go_wp2_with fail
      refine (htext _).mono ?_
      rintro e w3 ⟨rfl, hB3⟩
      have k0 : Kept (fun _ => False) wr (wr.alloc (.cells #[.int .i64 (gn : Nat), .int .u64 (gv : Nat)] 114)) := (Kept.refl (fun _ => False) wr).alloc _
      have k3 : Kept (fun _ => False) (wr.alloc (.cells #[.int .i64 (gn : Nat), .int .u64 (gv : Nat)] 114)) w3 := Kept.of_below hB3 (Nat.le_refl _) (fun _ => False)
      have kall := k0.trans k3
      have hbox : w3.heap[wr.heap.size]? = some (.cells #[.int .i64 (gn : Nat), .int .u64 (gv : Nat)] 114 (0, 0)) := by
        rw [hB3.block _ (by simp)]; exact heap_alloc_new wr _
      have RW3 := Kept.row kall RW.out (fun h => h)
      have SW3 : SRow w3 (w1.heap.size + 1) (txtTo G p) := SRow.keep SW.out kall (fun h => h)
      have hz4 := kall.size
      have e1 : w3.cell? ⟨w1.heap.size + 1, p, none⟩ = some (.string (txtTo G p p)) := SW3.cell hlt
      have e2 : w3.frozen? ⟨w1.heap.size + 1, p, none⟩ = false := by unfold SRow at SW3; simp [World.frozen?, SW3]
      have kst : Kept (fun k => k = w1.heap.size + 1) w3 (w3.setCell ⟨w1.heap.size + 1, p, none⟩ (.string (runText gn gv))) := (Kept.refl (fun k => k = w1.heap.size + 1) w3).setCell (show (⟨w1.heap.size + 1, p, none⟩ : Addr).block = w1.heap.size + 1 from rfl) _
      have RW4 : Hid (Row (w3.setCell ⟨w1.heap.size + 1, p, none⟩ (.string (runText gn gv))) w1.heap.size 120 256 f) := Kept.row kst RW3 (by omega)
      have SW4 : Hid (SRow (w3.setCell ⟨w1.heap.size + 1, p, none⟩ (.string (runText gn gv))) (w1.heap.size + 1) (txtTo G (p + 1))) := by
        show _ = _
        rw [← rowS_congr (fun c _ => TS.out c), ← rowS_set]
        unfold SRow at SW3
        simp [World.setCell, Array.getElem?_modify, SW3]
      have BL4 : Hid (Below w.heap.size w (w3.setCell ⟨w1.heap.size + 1, p, none⟩ (.string (runText gn gv)))) := kst.bel ((BL.out.alloc BL.out.size _).trans (hB3.mono (by have := BL.out.size; simp; omega))) (Nat.le_refl _) (fun k hk => by omega)
      have HZ4 : Hid (w1.heap.size + 2 ≤ (w3.setCell ⟨w1.heap.size + 1, p, none⟩ (.string (runText gn gv))).heap.size) := by
        show _ ≤ _
        have := HZ.out
        simp; omega
      have x1 : (w3.setCell ⟨w1.heap.size + 1, p, none⟩ (.string (runText gn gv))).cell? ⟨w1.heap.size, p, none⟩ = some (.int .i64 (fp : Nat)) := cellK kst (cellK kall cf (fun h => h)) (by show ¬ w1.heap.size = _; omega)
      have x2 : (w3.setCell ⟨w1.heap.size + 1, p, none⟩ (.string (runText gn gv))).cell? ⟨wr.heap.size, 0, none⟩ = some (.int .i64 (gn : Nat)) := cellK kst (by simp [World.cell?, hbox]) (by have := HZ.out; show ¬ wr.heap.size = _; omega)
      have kst' : Hid _ := kst
      generalize runText gn gv = tt at *
      generalize txtTo G p p = old at *
      clear kall k0 k3 hbox RW3 SW3 hB3 cf RW SW BL htext kst
      go_wp2
      generalize hw4 : w3.setCell ⟨w1.heap.size + 1, p, none⟩ (.string tt) = w4 at *
      clear hw4 e1 e2
      go_quiet (fail)
      have kq : Kept (fun _ => False) w4 (w4.drewN nq) := ⟨rfl, rfl, rfl, Nat.le_refl _, fun _ _ _ => rfl⟩
      have RW5 : Hid (Row (w4.drewN nq) w1.heap.size 120 256 f) := Kept.row kq RW4.out (fun h => h)
      have SW5 : Hid (SRow (w4.drewN nq) (w1.heap.size + 1) (txtTo G (p + 1))) := SRow.keep SW4.out kq (fun h => h)
      have BL5 : Hid (Below w.heap.size w (w4.drewN nq)) := kq.bel BL4.out (Nat.le_refl _) (fun _ h => h.elim)
      have HZ5 : Hid (w1.heap.size + 2 ≤ (w4.drewN nq).heap.size) := HZ4.out
      clear kq RW4 SW4 BL4 HZ4 x1 x2
      go_wp2
      refine ⟨⟨p + 1, by omega, by go_num, congrArg (Value.int .i64) ?_, RW5, SW5, BL5, HZ5⟩, by simp [intOf]; omega⟩
      rw [hnext.out, Int.natCast_add, Int.natCast_mul]
    · have hp' : p = 256 := by omega
      subst hp'
      go_wp2
      go_ret3
      have hall : rowS (txtTo G 256) = rowS (fun c => tx (bl (G c))) := rowS_congr fun c hc => by
        unfold txtTo; rw [if_pos hc, runText_tx]
      refine ⟨G, w1.heap.size + 1, _, rfl, ?_, HCO.out, HCD.out, ?_, ?_, by omega, BL.out⟩
      · have := SW.out
        unfold SRow at *
        rw [← hall]; exact this
      · exact sm_congr fun c _ => by rw [bl_len]
      · have := sm_bound (k := 256) (B := 64000) (g := fun c => f c * (G c).1) fun c hc => Nat.le_trans (Nat.mul_le_mul (HF.out c) (G64.out c hc)) (by decide)
        exact Nat.le_trans this (by decide)

theorem codes_any (s : ByteArray) (w : World) (hs : s.size ≤ 1000) :
    Calls Tryz.prog 46 #[.string s] w fun e w' => ∃ (k : Nat → List Bool) (g n : Nat), e = .returned (.tuple #[.slice (some ⟨g, 0, none⟩) 256 256, .int .i64 (n : Nat), .int .i64 0]) ∧ SRow w' g (fun c => tx (k c)) ∧
      Codes (cntB s s.size) k ∧ n = (sm 256 fun c => cntB s s.size c * (k c).length) ∧ n ≤ 16384000 ∧ w.heap.size ≤ g ∧ Below w.heap.size w w' :=
  (codes_any2 s w hs).mono fun _ _ ⟨G, g, n, h1, h2, _, h3⟩ => ⟨fun c => bl (G c), g, n, h1, h2, h3⟩

set_option maxRecDepth 100000 in
set_option maxHeartbeats 1000000 in
theorem codes_long (s : ByteArray) (w : World) (hs : 1000 < s.size) :
    Calls Tryz.prog 46 #[.string s] w fun e w' => e = .returned (.tuple #[.slice none 0 0, .int .i64 0, .int .i64 1]) ∧ w' = w := by
  have hdec : decide ((1000 : Int) < (s.size : Int)) = true := by simp; omega
  go_enter Tryz.func46, Tryz.ntmps46
  go_wp2
  go_ret3
  exact ⟨rfl, rfl⟩

end Go.Proofs.YtopihgmemnokkaaGreat

namespace Go.Proofs.YtopihgmemnokkaaGreat
open Go.RowKit Go.Shelf Go.Lib

theorem tx_byte (p : List Bool) {i : Nat} (h : i < (tx p).size) : (tx p)[i].toNat = 48 ∨ (tx p)[i].toNat = 49 := by
  have hl : i < p.length := by rw [← tx_size]; exact h
  have : (tx p)[i] = if p[i] then (49 : UInt8) else 48 := by
    show (tx p).data[i]'h = _
    simp [tx]
  rw [this]
  cases p[i]
  · exact .inl rfl
  · exact .inr rfl
theorem toList_isEmpty (a : ByteArray) : a.toList.isEmpty = decide (a.size = 0) := by
  rw [ByteArray.toList_eq]
  show a.data.toList.isEmpty = decide (a.data.size = 0)
  cases h : a.data with
  | mk l => cases l <;> simp
theorem tx_toList_isEmpty (p : List Bool) : (tx p).toList.isEmpty = decide (p = []) := by
  rw [toList_isEmpty, tx_size]
  cases p <;> simp

theorem tx_append (a b : List Bool) : tx (a ++ b) = tx a ++ tx b := by
  apply ByteArray.ext
  rw [ByteArray.data_append]
  simp [tx]
theorem tx_inj {a b : List Bool} (h : tx a = tx b) : a = b := by
  have h1 : (a.map fun b => if b then (49 : UInt8) else 48) = b.map fun b => if b then (49 : UInt8) else 48 := by
    have := congrArg (fun x => x.data.toList) h
    simpa [tx] using this
  refine List.map_inj_right ?_ |>.1 h1
  intro x y e
  cases x <;> cases y <;> simp at e ⊢
theorem tx_extract (l : List Bool) (a b : Nat) : (tx l).extract a b = tx ((l.drop a).take (b - a)) := by
  apply ByteArray.ext
  rw [ByteArray.data_extract]
  apply Array.toList_inj.1
  simp [tx, List.map_drop, List.map_take]
theorem toList_inj' {a b : ByteArray} (h : a.toList = b.toList) : a = b := by
  rw [ByteArray.toList_eq, ByteArray.toList_eq] at h
  exact ByteArray.ext (Array.toList_inj.1 h)

/-- the codes of the first bytes of a text, one behind the other -/
def cat (k : Nat → List Bool) (s : ByteArray) : Nat → List Bool
  | 0 => []
  | p + 1 => cat k s p ++ k (BY s p)
/-- how many bits they have -/
def cl (k : Nat → List Bool) (s : ByteArray) (p : Nat) : Nat := (cat k s p).length
theorem cl_zero (k : Nat → List Bool) (s : ByteArray) : cl k s 0 = 0 := rfl
theorem cl_succ (k : Nat → List Bool) (s : ByteArray) (p : Nat) : cl k s (p + 1) = cl k s p + (k (BY s p)).length := by simp [cl, cat]
theorem cl_mono (k : Nat → List Bool) (s : ByteArray) {p q : Nat} (h : p ≤ q) : cl k s p ≤ cl k s q := by
  induction h with
  | refl => exact Nat.le_refl _
  | step h ih => rw [cl_succ]; omega
theorem cat_to (k : Nat → List Bool) (s : ByteArray) {p q : Nat} (h : p ≤ q) : ∃ r, cat k s q = cat k s p ++ r := by
  induction h with
  | refl => exact ⟨[], by simp⟩
  | step h ih => obtain ⟨r, hr⟩ := ih; exact ⟨r ++ k (BY s _), by rw [cat, hr, List.append_assoc]⟩
theorem cat_piece (k : Nat → List Bool) (s : ByteArray) {p q i : Nat} (h : p < q) (h1 : cl k s p ≤ i) (h2 : i ≤ cl k s (p + 1)) :
    ((cat k s q).drop (cl k s p)).take (i - cl k s p) = (k (BY s p)).take (i - cl k s p) := by
  obtain ⟨r, hr⟩ := cat_to k s (show p + 1 ≤ q from h)
  rw [hr, cat, List.append_assoc]
  have hd : (cat k s p ++ (k (BY s p) ++ r)).drop (cl k s p) = k (BY s p) ++ r := by
    unfold cl
    rw [List.drop_append_of_le_length (Nat.le_refl _), List.drop_length, List.nil_append]
  rw [hd]
  rw [List.take_append_of_le_length]
  rw [cl_succ] at h2; omega

theorem sm_add (n : Nat) (f g : Nat → Nat) : (sm n fun c => f c + g c) = sm n f + sm n g := by
  induction n with
  | zero => rfl
  | succ n ih => simp only [sm] at *; omega
theorem sm_one (n b : Nat) (L : Nat → Nat) (h : b < n) : (sm n fun c => if b = c then L c else 0) = L b := by
  induction n with
  | zero => omega
  | succ n ih =>
    simp only [sm]
    by_cases e : b = n
    · subst e
      have : (sm b fun c => if b = c then L c else 0) = 0 := by
        have h0 : (sm b fun c => if b = c then L c else 0) = sm b fun _ => 0 := sm_congr fun c hc => by rw [if_neg (by omega)]
        rw [h0]
        have hz : ∀ m, (sm m fun _ => 0) = 0 := fun m => by induction m with
          | zero => rfl
          | succ m ih => simp [sm, ih]
        exact hz b
      simp [this]
    · rw [ih (by omega), if_neg e]; omega
/-- the sum over the first bytes of a text -/
def ac (L : Nat → Nat) (s : ByteArray) : Nat → Nat
  | 0 => 0
  | p + 1 => ac L s p + L (BY s p)
theorem sm_ac (L : Nat → Nat) (s : ByteArray) (p : Nat) : (sm 256 fun c => cntB s p c * L c) = ac L s p := by
  induction p with
  | zero =>
    have h0 : (sm 256 fun c => cntB s 0 c * L c) = sm 256 fun _ => 0 := sm_congr fun c hc => by simp [cntB, Cc.cn]
    have hz : ∀ m, (sm m fun _ => 0) = 0 := fun m => by induction m with
      | zero => rfl
      | succ m ih => simp [sm, ih]
    rw [h0, hz]; rfl
  | succ p ih =>
    have h1 : (sm 256 fun c => cntB s (p + 1) c * L c) = sm 256 fun c => cntB s p c * L c + if BY s p = c then L c else 0 := sm_congr fun c hc => by
      rw [← cntB_succ]
      by_cases e : c = BY s p
      · subst e; rw [Cc.put_same, if_pos rfl, Nat.add_mul, Nat.one_mul]
      · rw [Cc.put_other _ _ e, if_neg (fun x => e x.symm)]; omega
    have hb := BY_le s p
    rw [h1, sm_add, ih, sm_one _ _ _ (by omega)]; rfl
theorem cl_ac (k : Nat → List Bool) (s : ByteArray) (p : Nat) : cl k s p = ac (fun c => (k c).length) s p := by
  induction p with
  | zero => rfl
  | succ p ih => rw [cl_succ, ih]; rfl
theorem sm_cat (k : Nat → List Bool) (s : ByteArray) (p : Nat) : (sm 256 fun c => cntB s p c * (k c).length) = cl k s p := by
  rw [cl_ac]; exact sm_ac (fun c => (k c).length) s p
theorem ac_bound {L : Nat → Nat} {s : ByteArray} {B : Nat} (h : ∀ c, c < 256 → L c ≤ B) (p : Nat) : ac L s p ≤ p * B := by
  induction p with
  | zero => simp [ac]
  | succ p ih =>
    have hb := BY_le s p
    have := h (BY s p) (by omega)
    simp only [ac, Nat.add_mul]; omega

theorem cnt_there (s : ByteArray) {p q : Nat} (h : p < q) : 0 < cntB s q (BY s p) := by
  induction q with
  | zero => omega
  | succ q ih =>
    rw [← cntB_succ]
    by_cases e : BY s p = BY s q
    · rw [e, Cc.put_same]; omega
    · rw [Cc.put_other _ _ e]
      refine ih ?_
      rcases Nat.lt_or_ge p q with h1 | h1
      · exact h1
      · have : p = q := by omega
        subst this; exact absurd rfl e
theorem Codes.there {f : Nat → Nat} {k : Nat → List Bool} (h : Codes f k) {c : Nat} (hc : c < 256) (hk : k c ≠ []) : 0 < f c := by
  rcases Nat.eq_zero_or_pos (f c) with h0 | h0
  · exact absurd (h.none c hc h0) hk
  · exact h0

theorem code_match {s : ByteArray} {k : Nat → List Bool} (CD : Codes (cntB s s.size) k) {p i c : Nat} (hp : p < s.size) (h1 : cl k s p ≤ i) (h2 : i ≤ cl k s (p + 1)) (hc : c < 256) (hk : k c ≠ []) :
    ((tx (cat k s s.size)).extract (cl k s p) i).toList = (tx (k c)).toList ↔ (c = BY s p ∧ i = cl k s (p + 1)) := by
  rw [tx_extract, cat_piece k s hp h1 h2]
  have hb := BY_le s p
  constructor
  · intro h
    have e := tx_inj (toList_inj' h)
    have hpre : k c <+: k (BY s p) := by rw [← e]; exact List.take_prefix _ _
    have hcb : c = BY s p := by
      rcases Nat.decEq c (BY s p) with h3 | h3
      · exact absurd hpre (CD.free c (BY s p) hc (by omega) h3 (CD.there hc hk) (cnt_there s hp))
      · exact h3
    refine ⟨hcb, ?_⟩
    have hl := congrArg List.length e
    rw [List.length_take, ← hcb] at hl
    rw [cl_succ, ← hcb] at h2 ⊢
    omega
  · rintro ⟨rfl, rfl⟩
    rw [cl_succ, Nat.add_sub_cancel_left, List.take_of_length_le (Nat.le_refl _)]
theorem code_none {k : Nat → List Bool} {l : List Bool} {i c : Nat} (hk : k c ≠ []) : ¬ ((tx l).extract i i).toList = (tx (k c)).toList := by
  rw [tx_extract, Nat.sub_self, List.take_zero]
  intro h
  exact hk (tx_inj (toList_inj' h)).symm

end Go.Proofs.YtopihgmemnokkaaGreat

