import Derived.Test.YtopihgmemnokkaaWalk13
namespace Go.Proofs.Ytopihgmemnokkaa
open Go.RowKit

theorem diffTo_bd (s t : ByteArray) (p c : Nat) : -(p : Int) ≤ diffTo s t p c ∧ diffTo s t p c ≤ p := by
  unfold diffTo
  have h1 := Cc.cn_le p (fun j => decide (BY s j = c))
  have h2 := Cc.cn_le p (fun j => decide (BY t j = c))
  omega

set_option maxRecDepth 100000 in
set_option maxHeartbeats 2000000 in
theorem keepBack_any (t0 b : ByteArray) (row : Int) (w : World) (hr1 : -9223372036854775808 ≤ row) (hr2 : row ≤ 9223372036854775807) :
    Calls Try.prog 4 #[.string t0, .string b, .int .i64 row] w fun e w' => e = .returned (.bool true) ∧ Below w.heap.size w w' := by
  go_enter Try.func4, Try.ntmps4
  go_wp2_with fail
  refine (cut_any t0 1000 _ (by omega)).mono ?_
  rintro e w' ⟨rfl, rfl⟩
  have hs := cutS_size t0 1000
  generalize cutS t0 1000 = s at *
  go_wp2_with fail
  refine (transform_any s _ hs).mono ?_
  rintro e w1 ⟨rfl, hB1⟩
  have hsz := trn_size s
  have hcnt := trn_count s
  obtain ⟨htk, htx⟩ := trn_back s
  have hfw : fw s ≤ s.size := (ord s).rank_le (by omega)
  have hres := fun w => restore_any (trn s) (fw s : Nat) w
  generalize trn s = u at *
  generalize fw s = f at *
  go_wp2_with fail
  refine (hres _).mono ?_
  rintro e w2 ⟨t, n, rfl, _, hyes, hB2⟩
  obtain ⟨rfl, rfl⟩ := hyes f rfl (by omega) htk
  rw [htx]
  clear hyes htx hres htk
  have hss : (s.toList == s.toList) = true := by simp
  have hfl : (f : Int) ≤ (s.size : Int) := by omega
  have hnn : ((s.size : Int) != (s.size : Int)) = false := by simp
  go_wp2_with (refine wpList_alloc_row rfl 32 rfl _ zero256 ?_)
  have hB12 : Below w'.heap.size w' w2 := hB1.trans (hB2.mono hB1.size)
  have hz12 := hB12.size
  go_loopw [13] (fun i wr => ∃ p : Nat, p ≤ s.size ∧ i = .int .i64 p ∧ RowZ wr w2.heap.size 32 256 (diffTo s u p) ∧ Below w'.heap.size w' wr) (fun i _ => s.size - (intOf i).toNat)
  case atStart => exact ⟨0, by omega, rfl, (RowZ.new w2 _ _).congr fun c _ => by simp [diffTo, Cc.cn], hB12.alloc hz12 _⟩
  case round =>
    clear hB1 hB2 hB12
    obtain ⟨p, hp, rfl, hR, hB⟩ := hrel
    by_cases hlt : p < s.size
    · have hlu : p < u.size := by omega
      have hx := BY_lt s hlt
      have hy := BY_lt u hlu
      have hxb := BY_le s p
      have hyb := BY_le u p
      have c1 := hR.cell (i := BY s p) (by omega)
      have f1 := hR.frozen (BY s p)
      have hR2 := hR.set (BY s p) (diffTo s u p (BY s p) + 1)
      have c2 := hR2.cell (i := BY u p) (by omega)
      have f2 := hR.frozen (BY u p)
      have bd1 := diffTo_bd s u p (BY s p)
      have bd2 : -(1002 : Int) ≤ putZ (diffTo s u p) (BY s p) (diffTo s u p (BY s p) + 1) (BY u p) ∧ putZ (diffTo s u p) (BY s p) (diffTo s u p (BY s p) + 1) (BY u p) ≤ 1002 := by
        unfold putZ
        split
        · omega
        · have := diffTo_bd s u p (BY u p); omega
      have hg := (hR2.set (BY u p) (putZ (diffTo s u p) (BY s p) (diffTo s u p (BY s p) + 1) (BY u p) - 1)).congr fun c _ => diffTo_step s u p c _ rfl
      clear hR2
      rw [hx] at c1 f1 c2 bd1 bd2 hg hxb
      rw [hy] at c2 f2 bd2 hg hyb
      have hx1 : (s[p].toNat : Int) < 256 := by omega
      have hy1 : (u[p].toNat : Int) < 256 := by omega
      obtain ⟨b1, b2⟩ := bd1
      obtain ⟨b3, b4⟩ := bd2
      clear hx hy
      generalize putZ (diffTo s u p) s[p].toNat (diffTo s u p s[p].toNat + 1) u[p].toNat = d2 at *
      generalize diffTo s u p s[p].toNat = d1 at *
      go_wp2
      exact ⟨⟨p + 1, by omega, by go_num, hg, (hB.setCell hz12 _).setCell hz12 _⟩, by simp [intOf]; omega⟩
    · have hp' : p = s.size := by omega
      subst hp'
      go_wp2
      go_loopw [14] (fun i wr => ∃ c : Nat, c ≤ 256 ∧ i = .int .i64 c ∧ RowZ wr w2.heap.size 32 256 (diffTo s u s.size) ∧ Below w'.heap.size w' wr) (fun i _ => 256 - (intOf i).toNat)
      case atStart => exact ⟨0, by omega, rfl, hR, hB⟩
      case round =>
        clear hR hB
        obtain ⟨c, hc, rfl, hR, hB⟩ := hrel
        by_cases hlt2 : c < 256
        · have c1 := hR.cell (i := c) hlt2
          have hd0 : diffTo s u s.size c = 0 := by unfold diffTo; rw [hcnt c]; omega
          rw [hd0] at c1
          go_wp2
          exact ⟨⟨c + 1, by omega, by go_num, hR, hB⟩, by simp [intOf]; omega⟩
        · have hc' : c = 256 := by omega
          subst hc'
          go_wp2_with fail
          refine (taken_any b row _).mono ?_
          rintro e w3 ⟨rfl, hB3⟩
          go_wp2_with fail
          refine (pick_any row _ _ hr1 hr2 (by omega) (by omega)).mono ?_
          rintro e w4 ⟨⟨v, rfl, hv⟩, rfl⟩
          go_wp2_with fail
          refine (taken_any u v _).mono ?_
          rintro e w5 ⟨rfl, hB5⟩
          go_wp2
          go_ret
          have hz3 := hB.size
          have hz4 := hB3.size
          exact ⟨rfl, (hB.trans (hB3.mono hz3)).trans (hB5.mono (by omega))⟩

end Go.Proofs.Ytopihgmemnokkaa
