import Derived.Test.YtopihgmemnokkaaGreatWalk8a
import Derived.Test.YtopihgmemnokkaaGreatBy
import Derived.Test.YtopihgmemnokkaaGreatTurn
import Derived.Test.YtopihgmemnokkaaGreatFacts3
namespace Go.Proofs.YtopihgmemnokkaaGreat
open Go.RowKit

theorem LT_BY (s : ByteArray) {k : Nat} (h : k < s.size) : LT s k = BY s k + 1 := by rw [LT_lt s h, BY_lt s h]

theorem cnB_succ (s : ByteArray) (p c : Nat) : Cc.put (fun c => Cc.cn p fun j => decide (BY s j = c)) (BY s p) ((Cc.cn p fun j => decide (BY s j = BY s p)) + 1) c = Cc.cn (p + 1) fun j => decide (BY s j = c) := by
  by_cases h : c = BY s p
  · subst h; rw [Cc.put_same]; simp [Cc.cn]
  · rw [Cc.put_other _ _ h]
    have h' : ¬ BY s p = c := fun e => h e.symm
    simp [Cc.cn, h']

/-- rows from which on the ends with a byte stand, as far as reckoned -/
def nextTo (s : ByteArray) (p c : Nat) : Nat := if c < p then 1 + Cc.cn s.size (fun j => decide (BY s j < c)) else 0
/-- and behind k bytes -/
def nextAt (s : ByteArray) (k c : Nat) : Nat := 1 + Cc.cn s.size (fun j => decide (BY s j < c)) + Cc.cn k (fun j => decide (BY s j = c))
def leadTo (s : ByteArray) (k j : Nat) : Nat := if j < k then Cc.lead s.size (BY s) j else 0

theorem less_succ (s : ByteArray) (c : Nat) : (Cc.cn s.size fun j => decide (BY s j < c + 1)) = (Cc.cn s.size fun j => decide (BY s j < c)) + Cc.cn s.size fun j => decide (BY s j = c) := by
  apply Cc.cn_add
  intro i _
  by_cases h1 : BY s i < c
  · simp [h1, show BY s i < c + 1 from by omega, show ¬ BY s i = c from by omega]
  · by_cases h2 : BY s i = c
    · simp [h2]
    · simp [h1, h2, show ¬ BY s i < c + 1 from by omega]
theorem nextTo_succ (s : ByteArray) (p c : Nat) : Cc.put (nextTo s p) p (1 + Cc.cn s.size fun j => decide (BY s j < p)) c = nextTo s (p + 1) c := by
  by_cases h : c = p
  · subst h; rw [Cc.put_same]; unfold nextTo; rw [if_pos (by omega)]
  · rw [Cc.put_other _ _ h]; unfold nextTo
    by_cases h1 : c < p
    · rw [if_pos h1, if_pos (by omega)]
    · rw [if_neg h1, if_neg (by omega)]
theorem nextTo_all (s : ByteArray) {c : Nat} (h : c < 256) : nextTo s 256 c = nextAt s 0 c := by
  unfold nextTo nextAt; rw [if_pos h]; simp [Cc.cn]
theorem nextAt_succ (s : ByteArray) (p c : Nat) : Cc.put (nextAt s p) (BY s p) (nextAt s p (BY s p) + 1) c = nextAt s (p + 1) c := by
  by_cases h : c = BY s p
  · subst h; rw [Cc.put_same]; simp [nextAt, Cc.cn]; omega
  · rw [Cc.put_other _ _ h]
    have h' : ¬ BY s p = c := fun e => h e.symm
    simp [nextAt, Cc.cn, h']
theorem leadTo_succ (s : ByteArray) (p j : Nat) : Cc.put (leadTo s p) p (nextAt s p (BY s p)) j = leadTo s (p + 1) j := by
  by_cases h : j = p
  · subst h; rw [Cc.put_same]; unfold leadTo; rw [if_pos (by omega)]; rfl
  · rw [Cc.put_other _ _ h]; unfold leadTo
    by_cases h1 : j < p
    · rw [if_pos h1, if_pos (by omega)]
    · rw [if_neg h1, if_neg (by omega)]
theorem nextAt_le (s : ByteArray) (k c : Nat) (h : k ≤ s.size) : nextAt s k c ≤ 2 * s.size + 1 := by
  unfold nextAt
  have h1 := Cc.cn_le s.size (fun j => decide (BY s j < c))
  have h2 := Cc.cn_le k (fun j => decide (BY s j = c))
  omega

theorem run_index_row (cs : Array Value) (v : Value) (p : Nat) (hp : p < 256) (h : cs[p]? = some v) (w : World) :
    (Instr.index 120 (.agg cs) (.int .i64 (p : Int))).run Tryz.prog w = .ok v w := by
  simp [Instr.index, run_underlying Tryz.underlying120, asIntOf, part, Tryz.isAgg3, Tryz.sizeOf3, h]
  intro hc; omega

set_option maxRecDepth 100000 in
set_option maxHeartbeats 1000000 in
theorem starts_any (s : ByteArray) (w : World) (hs : s.size ≤ 1000) :
    Calls Tryz.prog 123 #[.string s] w fun e w' => e = .returned (.agg (rowC 256 (nextAt s 0))) ∧ Below w.heap.size w w' := by
  go_enter Tryz.func123, Tryz.ntmps123
  go_wp2_with (refine wpList_alloc_row rfl 120 rfl _ zero256 ?_)
  go_loopw [5, 11] (fun _ i wr => ∃ p : Nat, p ≤ s.size ∧ i = .int .i64 p ∧ Row wr w.heap.size 120 256 (fun _ => 0) ∧ Row wr (w.heap.size + 1) 120 256 (fun c => Cc.cn p fun j => decide (BY s j = c)) ∧ Row wr (w.heap.size + 2) 120 256 (fun _ => 0) ∧ Below w.heap.size w wr) (fun _ i _ => s.size - (intOf i).toNat)
  case atStart =>
    refine ⟨0, by omega, rfl, ?_, ?_, ?_, ?_⟩
    · exact ((Row.new w _ _ _).alloc _).alloc _
    · exact ((Row.new' _ _ (fun _ => 0) (by simp)).alloc _).congr fun _ _ => rfl
    · exact Row.new' _ _ _ (by simp)
    · exact (((Below.refl _ _).alloc (Nat.le_refl _) _).alloc (by simp) _).alloc (by simp; omega) _
  case round =>
    obtain ⟨p, hp, rfl, hR, hR0, hR1, hBl⟩ := hrel
    by_cases hlt : p < s.size
    · have hby := BY_le s p
      have hbv := BY_lt s hlt
      have c0 := hR0.cell (i := BY s p) (by omega)
      have f0 := hR0.frozen (BY s p)
      have hcl := Cc.cn_le p (fun j => decide (BY s j = BY s p))
      have hg : Row (wr.setCell ⟨w.heap.size + 1, BY s p, none⟩ (.int .i64 (((Cc.cn p fun j => decide (BY s j = BY s p)) + 1 : Nat) : Int))) (w.heap.size + 1) 120 256 (fun c => Cc.cn (p + 1) fun j => decide (BY s j = c)) :=
        (hR0.set (BY s p) _).congr fun c _ => cnB_succ s p c
      rw [hbv] at c0 f0 hcl hg hby
      have hx : (s[p].toNat : Int) < 256 := by omega
      clear hbv hby
      generalize (Cc.cn p fun j => decide (BY s j = s[p].toNat)) = q at c0 hcl hg
      go_wp2
      exact ⟨⟨p + 1, by omega, by go_num, hR.other (by simp) _, hg, hR1.other (by simp) _, hBl.setCell (by simp) _⟩, by simp [intOf]; omega⟩
    · have hp' : p = s.size := by omega
      subst hp'
      go_wp2_with (refine wpList_load_row rfl 120 _ rfl (w.heap.size + 1) rfl 120 (rowC 256 fun c => Cc.cn s.size fun j => decide (BY s j = c)) (0, 0) _ (by exact hR0) Tryz.underlying120 rfl (by rw [size_rowC]; exact size256) ?_)
      go_loopw [6, 7, 8, 23] (fun r c n i wq => ∃ p : Nat, p ≤ 256 ∧ i = .int .i64 p ∧ r = .int .i64 ((1 + Cc.cn s.size fun j => decide (BY s j < p) : Nat) : Int) ∧ Row wq w.heap.size 120 256 (fun _ => 0) ∧ Row wq (w.heap.size + 2) 120 256 (nextTo s p) ∧ Below w.heap.size w wq) (fun _ _ _ i _ => 256 - (intOf i).toNat)
      case atStart =>
        refine ⟨0, by omega, rfl, ?_, hR, hR1.congr fun _ _ => rfl, hBl⟩
        rw [Cc.cn_zero (fun j _ => by simp)]; rfl
      case round =>
        clear hR0 hR1 hBl hR
        obtain ⟨p, hp, rfl, rfl, hR, hR1, hBl⟩ := hrel
        by_cases hlt2 : p < 256
        · have c1 := hR1.cell (i := p) (by omega)
          have f1 := hR1.frozen p
          have hl1 := Cc.cn_le s.size (fun j => decide (BY s j < p))
          have hl2 := Cc.cn_le s.size (fun j => decide (BY s j = p))
          have hix : ∀ wz : World, (Instr.index 120 (.agg (rowC 256 fun c => Cc.cn s.size fun j => decide (BY s j = c))) (.int .i64 (p : Int))).run Tryz.prog wz = .ok (.int .i64 ((Cc.cn s.size fun j => decide (BY s j = p) : Nat) : Int)) wz := by
            intro wz
            have hg0 : (rowC 256 fun c => Cc.cn s.size fun j => decide (BY s j = c))[p]? = some (.int .i64 ((Cc.cn s.size fun j => decide (BY s j = p) : Nat) : Int)) := rowC_get hlt2
            exact run_index_row _ _ p hlt2 hg0 wz
          have hg := (hR1.set p (1 + Cc.cn s.size fun j => decide (BY s j < p))).congr (g := nextTo s (p + 1)) fun c _ => nextTo_succ s p c
          have hnx := less_succ s p
          go_wp2
          exact ⟨⟨p + 1, by omega, by go_num, congrArg (Value.int .i64) (by rw [hnx]; omega), hR.other (by simp; omega) _, hg, hBl.setCell (by simp; omega) _⟩, by simp [intOf]; omega⟩
        · have hp2 : p = 256 := by omega
          subst hp2
          have hR2 := hR1.congr (g := nextAt s 0) fun c hc => nextTo_all s hc
          clear hR1
          go_wp2_with (first
            | (refine wpList_load_row rfl 120 _ rfl (w.heap.size + 2) rfl 120 (rowC 256 (nextAt s 0)) (0, 0) _ (by exact hR2) Tryz.underlying120 rfl (by rw [size_rowC]; exact size256) ?_)
            | (refine wpList_store_row rfl 120 _ _ rfl w.heap.size (rowC 256 (nextAt s 0)) rfl rfl 120 (rowC 256 fun _ => 0) (by exact hR) (by rw [size_rowC]; exact size256) (by rw [size_rowC, size_rowC]) (rowC_one _ _) ?_))
          have hfin : Row (wr.setRow w.heap.size (rowC 256 (nextAt s 0))) w.heap.size 120 256 (nextAt s 0) := hR.setRow _
          refine bodyPost_ret (results_cell_row Tryz.results123 _ _ w.heap.size 120 (rowC 256 (nextAt s 0)) (0, 0) _ rfl hfin Tryz.underlying120 rfl (by rw [size_rowC]; exact size256)) rfl ⟨rfl, ?_⟩
          exact below_setRow hBl (by omega) _

set_option maxRecDepth 100000 in
set_option maxHeartbeats 1000000 in
theorem leads_any (s : ByteArray) (w : World) (hs : s.size ≤ 1000) :
    Calls Tryz.prog 138 #[.string s] w fun e w' => ∃ g, e = .returned (.slice (some ⟨g, 0, none⟩) s.size s.size) ∧ w.heap.size ≤ g ∧ Row w' g 3 s.size (Cc.lead s.size (BY s)) ∧ Below w.heap.size w w' := by
  have hmk := fun w => make_rows s.size (by omega) w
  go_enter Tryz.func138, Tryz.ntmps138
  go_wp2_with fail
  refine (starts_any s _ hs).mono ?_
  rintro e w1 ⟨rfl, hB1⟩
  have hR0 := Row.new w1 120 256 (fun _ => 0)
  have hR1 := hR0.setRow (nextAt s 0)
  have hz1 := hB1.size
  have hmk2 := hmk ((w1.alloc (.cells (rowC 256 fun _ => 0) 120)).setRow w1.heap.size (rowC 256 (nextAt s 0)))
  have hz2 : ((w1.alloc (.cells (rowC 256 fun _ => 0) 120)).setRow w1.heap.size (rowC 256 (nextAt s 0))).heap.size = w1.heap.size + 1 := by simp
  have hB2 : Below w.heap.size w ((w1.alloc (.cells (rowC 256 fun _ => 0) 120)).setRow w1.heap.size (rowC 256 (nextAt s 0))) := below_setRow (hB1.alloc hz1 _) hz1 _
  clear hmk
  rw [hz2] at hmk2
  go_wp2_with (first
    | (refine wpList_alloc_row rfl 120 rfl _ zero256 ?_)
    | (refine wpList_store_row rfl 120 _ _ rfl w1.heap.size (rowC 256 (nextAt s 0)) rfl rfl 120 (rowC 256 fun _ => 0) (by exact hR0) (by rw [size_rowC]; exact size256) (by rw [size_rowC, size_rowC]) (rowC_one _ _) ?_))
  generalize (w1.alloc (.cells (rowC 256 fun _ => 0) 120)).setRow w1.heap.size (rowC 256 (nextAt s 0)) = w2 at *
  go_loopw [5, 13] (fun k i wq => ∃ p : Nat, p ≤ s.size ∧ i = .int .i64 p ∧ Row wq w1.heap.size 120 256 (nextAt s p) ∧ Row wq (w1.heap.size + 1) 3 s.size (leadTo s p) ∧ Below w.heap.size w wq) (fun _ i _ => s.size - (intOf i).toNat)
  case atStart =>
    refine ⟨0, by omega, rfl, hR1.alloc _, ?_, ?_⟩
    · exact (Row.new' _ _ (fun _ => 0) hz2).congr fun j _ => by unfold leadTo; rw [if_neg (by omega)]
    · exact hB2.alloc (by rw [hz2]; omega) _
  case round =>
    clear hR1 hB2 hmk2 hR0
    obtain ⟨p, hp, rfl, hR1, hR2, hBl⟩ := hrel
    have Hz1 : Hid (w.heap.size ≤ w1.heap.size) := hz1
    by_cases hlt3 : p < s.size
    · have hby := BY_le s p
      have hbv := BY_lt s hlt3
      have c1 := hR1.cell (i := BY s p) (by omega)
      have f1 := hR1.frozen (BY s p)
      have c2 := hR2.cell (i := p) hlt3
      have f2 := hR2.frozen p
      have hnl := nextAt_le s p (BY s p) (by omega)
      have hg1 := ((hR1.other (a := ⟨w1.heap.size + 1, p, none⟩) (by simp) (.int .i64 ((nextAt s p (BY s p) : Nat) : Int))).set (BY s p) (nextAt s p (BY s p) + 1)).congr (g := nextAt s (p + 1)) fun c _ => nextAt_succ s p c
      have hg2 := ((hR2.set p (nextAt s p (BY s p))).other (a := ⟨w1.heap.size, BY s p, none⟩) (by simp) (.int .i64 ((nextAt s p (BY s p) + 1 : Nat) : Int))).congr (g := leadTo s (p + 1)) fun c _ => leadTo_succ s p c
      rw [hbv] at c1 f1 hby hnl hg1 hg2
      have hx : (s[p].toNat : Int) < 256 := by omega
      clear hbv hby
      generalize nextAt s p s[p].toNat = q at c1 hnl hg1 hg2
      go_wp2
      exact ⟨⟨p + 1, by omega, by go_num, hg1, hg2, (hBl.setCell (by have := Hz1.out; simp; omega) _).setCell (by have := Hz1.out; simp; omega) _⟩, by simp [intOf]; omega⟩
    · have hp' : p = s.size := by omega
      subst hp'
      go_wp2
      go_ret
      exact ⟨_, rfl, by have := Hz1.out; omega, hR2.congr fun j hj => by unfold leadTo; rw [if_pos hj], hBl⟩

end Go.Proofs.YtopihgmemnokkaaGreat
