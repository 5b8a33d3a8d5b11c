import Derived.Test.YtopihgmemnokkaaCodeW7
import Derived.Test.YtopihgmemnokkaaBy
import Derived.Test.YtopihgmemnokkaaFacts4
namespace Go.Proofs.Ytopihgmemnokkaa
open Go.RowKit Go.Shelf Go.Lib

/-- how often a byte is among the first p of a text -/
def cntB (s : ByteArray) (p c : Nat) : Nat := Cc.cn p fun j => decide (BY s j = c)
theorem cntB_succ (s : ByteArray) (p c : Nat) : Cc.put (cntB s p) (BY s p) (cntB s p (BY s p) + 1) c = cntB s (p + 1) c := by
  unfold cntB
  by_cases h : c = BY s p
  · subst h; rw [Cc.put_same]; simp [Cc.cn]
  · rw [Cc.put_other _ _ h]
    have h' : ¬ BY s p = c := fun e => h e.symm
    simp [Cc.cn, h']

set_option maxRecDepth 100000 in
set_option maxHeartbeats 1000000 in
theorem count_any (s : ByteArray) (w : World) (hs : s.size ≤ 1000) :
    Calls Try.prog 45 #[.string s] w fun e w' => e = .returned (.agg (rowC 256 (cntB s s.size))) ∧ Below w.heap.size w w' := by
  go_enter Try.func45, Try.ntmps45
  go_wp2_with (refine wpList_alloc_row rfl 32 rfl _ zero256 ?_)
  go_loopw [4, 7] (fun _ i wr => ∃ p : Nat, p ≤ s.size ∧ i = .int .i64 p ∧ Row wr w.heap.size 32 256 (fun _ => 0) ∧ Row wr (w.heap.size + 1) 32 256 (cntB s p) ∧ Below w.heap.size w wr) (fun _ i _ => s.size - (intOf i).toNat)
  case atStart =>
    refine ⟨0, by omega, rfl, (Row.new w _ _ _).alloc _, (Row.new' _ 256 (fun _ => 0) (by simp)).congr fun c _ => by simp [cntB, Cc.cn], ((Below.refl _ _).alloc (Nat.le_refl _) _).alloc (by simp) _⟩
  case round =>
    obtain ⟨p, hp, rfl, hR0, hR1, hBl⟩ := hrel
    by_cases hlt : p < s.size
    · have hby := BY_le s p
      have hbv := BY_lt s hlt
      have c0 := hR1.cell (i := BY s p) (by omega)
      have f0 := hR1.frozen (BY s p)
      have hcl : cntB s p (BY s p) ≤ p := Cc.cn_le p _
      have hg : Row (wr.setCell ⟨w.heap.size + 1, BY s p, none⟩ (.int .i64 ((cntB s p (BY s p) + 1 : Nat) : Int))) (w.heap.size + 1) 32 256 (cntB s (p + 1)) :=
        (hR1.set (BY s p) _).congr fun c _ => cntB_succ s p c
      rw [hbv] at c0 f0 hcl hg hby
      have hx : (s[p].toNat : Int) < 256 := by omega
      clear hbv hby
      generalize cntB s p s[p].toNat = q at c0 hcl hg
      go_wp2
      exact ⟨⟨p + 1, by omega, by go_num, hR0.other (by simp) _, hg, hBl.setCell (by simp) _⟩, by simp [intOf]; omega⟩
    · have hp' : p = s.size := by omega
      subst hp'
      go_wp2_with (first
        | (refine wpList_load_row rfl 32 _ rfl (w.heap.size + 1) rfl 32 (rowC 256 (cntB s s.size)) (0, 0) _ (by exact hR1) Try.underlying32 rfl (by rw [size_rowC]; exact size256) ?_)
        | (refine wpList_store_row rfl 32 _ _ rfl w.heap.size (rowC 256 (cntB s s.size)) rfl rfl 32 (rowC 256 fun _ => 0) (by exact hR0) (by rw [size_rowC]; exact size256) (by rw [size_rowC, size_rowC]) (rowC_one _ _) ?_))
      have hfin : Row (wr.setRow w.heap.size (rowC 256 (cntB s s.size))) w.heap.size 32 256 (cntB s s.size) := hR0.setRow _
      refine bodyPost_ret (results_cell_row Try.results45 _ _ w.heap.size 32 (rowC 256 (cntB s s.size)) (0, 0) _ rfl hfin Try.underlying32 rfl (by rw [size_rowC]; exact size256)) rfl ⟨rfl, ?_⟩
      exact below_setRow hBl (by omega) _

end Go.Proofs.Ytopihgmemnokkaa
