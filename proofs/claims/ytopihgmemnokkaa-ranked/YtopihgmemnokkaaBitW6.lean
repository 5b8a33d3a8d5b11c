import Derived.Test.YtopihgmemnokkaaBitW5
import Derived.Test.YtopihgmemnokkaaShelf2
import Derived.BigQuiet
namespace Go.Proofs.Ytopihgmemnokkaa
open Go.RowKit

theorem cn_shift (p : Nat → Bool) (a r : Nat) : Cc.cn (a + r) p = Cc.cn a p + Cc.cn r (fun i => p (a + i)) := by
  induction r with
  | zero => simp [Cc.cn]
  | succ r ih => rw [← Nat.add_assoc]; simp only [Cc.cn]; rw [ih]; omega

theorem onesCount_at (x : Int) (k : Nat) (hk : x = (k : Nat)) (w : World) (hx : k < 18446744073709551616) :
    Calls Try.prog 42 #[.int .u64 x] w fun e w' => e = .returned (.int .i64 (Lib.popAux 64 k : Nat)) ∧ w' = w := by
  subst hk; exact onesCount_any k w hx

set_option maxRecDepth 100000 in
set_option maxHeartbeats 1000000 in
theorem rank_any (base : Nat) (w : World) (b o : Nat) (pre post : List Value) (ho : pre.length = o) (ty : TypeId) (wv av : Value) (p : Nat → Bool) (n i : Nat) (h : BitL base w b pre post ty wv av p n) (hi : i ≤ n) (hb : n ≤ 1099511627776) :
    Calls Try.prog 26 #[.pointer (some ⟨b, o, none⟩), .int .i64 (i : Nat)] w fun e w' => e = .returned (.int .i64 (Cc.cn i p : Nat)) ∧ Below w.heap.size w w' := by
  have c2 := h.four.c2 ho
  have c3 := h.four.c3 ho
  by_cases he : i = n
  · subst he
    have hii : ((i : Int) == (i : Int)) = true := by simp
    go_enter Try.func26, Try.ntmps26
    go_wp2
    go_ret
    exact ⟨rfl, Below.refl _ _⟩
  · have hii : ((i : Int) == (n : Int)) = false := by simp; omega
    obtain ⟨q, hq⟩ : ∃ q, i / 64 = q := ⟨_, rfl⟩
    obtain ⟨r, hr⟩ : ∃ r, i % 64 = r := ⟨_, rfl⟩
    have hw := h.words
    have ha := h.ahead
    obtain ⟨g, cap, rfl, _, _⟩ := hw.form (by omega)
    obtain ⟨g2, cap2, rfl, _, _⟩ := ha.form (by omega)
    have c0 := h.four.c0 ho
    have c1 := h.four.c1 ho
    have d1 := own_cell hw (wordsL_get p (n := n) (j := q) (by omega))
    have d2 := own_cell ha (aheadL_get p (n := n) (j := q) (by omega))
    have hx := Bm.wordAt_lt (fun i => p (64 * q + i)) (m := min 64 (n - 64 * q)) (by omega)
    have hs := Bm.wordAt_shr (fun i => p (64 * q + i)) (w := r) (m := min 64 (n - 64 * q)) (by omega) (by omega)
    have hp := Bm.pop_pre (fun i => p (64 * q + i)) 64 r (by omega)
    have hpl := Bm.pre_lt (fun i => p (64 * q + i)) r
    have hcn := cn_shift p (64 * q) r
    rw [show 64 * q + r = i by omega] at hcn
    have hcl := Cc.cn_le i p
    generalize Bm.wordAt (fun i => p (64 * q + i)) (min 64 (n - 64 * q)) = X at *
    generalize hB : Bm.pre (fun i => p (64 * q + i)) r = B at *
    generalize Cc.cn (64 * q) p = A at *
    have hqi : (i : Int) / 64 = (q : Nat) := by omega
    have hri : (i : Int) % 64 = (r : Nat) := by omega
    have hr64 : r < 64 := by omega
    have hqb : q ≤ 17179869184 := by omega
    obtain ⟨m, hm⟩ : ∃ m, (n + 63) / 64 = m := ⟨_, rfl⟩
    have hqm : (q : Int) < (m : Int) := by omega
    have Hs : Hid (X / 2 ^ (64 - r) = B) := hs
    have Hp : Hid (Lib.popAux 64 B = Cc.cn r (fun i => p (64 * q + i))) := hp
    have hB64 : B < 18446744073709551616 := by rw [← hs]; exact Nat.lt_of_le_of_lt (Nat.div_le_self _ _) hx
    have Hcn : Hid (Cc.cn i p = A + Cc.cn r (fun i => p (64 * q + i))) := hcn
    have hpop : Lib.popAux 64 B ≤ i := by rw [hp]; omega
    rw [hm] at c0 c1
    clear hs hp hB hcn hm hq hr hw ha h he hpl
    have hcall : ∀ W : World, Calls Try.prog 42 #[.int .u64 ((X : Int) / 2 ^ (64 - r))] W fun e w' => e = .returned (.int .i64 (Lib.popAux 64 B : Nat)) ∧ w' = W := fun W =>
      onesCount_at _ B (by rw [← Hs.out, Int.natCast_ediv, Int.natCast_pow]; rfl) W hB64
    go_enter Try.func26, Try.ntmps26
    go_wp2_with fail
    go_quiet ((go_at_call 42; exact Calls.quiet_of_same (hcall _)))
    go_wp2
    go_ret
    refine ⟨ret_int ?_, ⟨rfl, rfl, rfl, Nat.le_refl _, fun _ _ => rfl⟩⟩
    have e1 := Hp.out
    have e2 := Hcn.out
    simp only [wrap64]
    omega

end Go.Proofs.Ytopihgmemnokkaa
