import Derived.Test.YtopihgmemnokkaaGreatWalk19
namespace Go.Proofs.YtopihgmemnokkaaGreat
open Go.RowKit

theorem own_at {w : World} {base : Nat} {e : TypeId} {v : Value} {n : Nat} {xs : List Value} (h : w.ownsRow base e 1 v n xs) {p : Nat} (hp : p < n) : ∃ g cap x, v = .slice (some ⟨g, 0, none⟩) n cap ∧ xs[p]? = some x ∧ w.cell? ⟨g, p, none⟩ = some x := by
  have hl := h.1
  obtain ⟨g, cap, hv, _, _⟩ := h.form (by omega)
  have h' := h
  rw [hv] at h'
  refine ⟨g, cap, xs[p], hv, List.getElem?_eq_getElem (by omega), ?_⟩
  rw [h'.cellAt p (by omega)]; exact List.getElem?_eq_getElem (by omega)

theorem Lst.slice {w : World} {l : Value} {m : Int} (h : Lst w l m) : ∃ la n lc, l = .slice la n lc ∧ n ≤ 9223372036854775807 ∧ ∀ k, k < n → ∃ g, la = some ⟨g, 0, none⟩ ∧ w.cell? ⟨g, k, none⟩ = some (.int .i64 m) := by
  rcases h with rfl | ⟨g, n, cap, cur, rfl, h1, h2, h3⟩
  · exact ⟨none, 0, 0, rfl, by omega, fun k hk => by omega⟩
  · refine ⟨_, n, cap, rfl, by have := h2.2; unfold maxLen at this; omega, fun k hk => ⟨g, rfl, ?_⟩⟩
    have := h3 k hk
    simp [World.cell?, h1, this]

set_option maxRecDepth 100000 in
set_option maxHeartbeats 2000000 in
theorem kept_any (B0 wb : Nat) (b q x r d lv mv : Value) (ls : List Value) (ms : List Int) (w : World) (hw : Wd w wb b q x r lv (.slice none 0 0) mv d) (L : Lists B0 w lv mv ls ms) (hlen : ls.length ≤ 8000000) :
    Calls Tryz.prog 28 #[.pointer (some ⟨wb, 0, none⟩)] w fun e w' => e = .returned (.bool true) ∧ Still w w' := by
  have hwc := fun {w' : World} (hk : Still w w') => hw.keep hk (fun h => h)
  obtain ⟨la, lc, hlv⟩ := own_slice L.own
  obtain ⟨ma, mc, hmv⟩ := own_slice L.mar
  have hll := L.len
  have C : ∀ p, p < ls.length → ∃ g1 g2 m l, la = some ⟨g1, 0, none⟩ ∧ ma = some ⟨g2, 0, none⟩ ∧ w.cell? ⟨g1, p, none⟩ = some l ∧ w.cell? ⟨g2, p, none⟩ = some (.int .i64 m) ∧ Lst w l m := by
    intro p hp
    obtain ⟨g1, c1, l, e1, h1, h2⟩ := own_at L.own hp
    obtain ⟨g2, c2, y, e2, h3, h4⟩ := own_at L.mar (p := p) (by omega)
    rw [List.getElem?_map] at h3
    cases hm : ms[p]? with
    | none => rw [hm] at h3; cases h3
    | some m =>
      rw [hm] at h3
      have hy : y = .int .i64 m := by simpa using h3.symm
      subst hy
      rw [hlv] at e1
      rw [hmv] at e2
      injection e1 with e1
      injection e2 with e2
      exact ⟨g1, g2, m, l, e1, e2, h2, h4, L.all p l m h1 hm⟩
  rw [← hll] at hmv
  clear L hw hll
  subst hlv hmv
  go_enter Tryz.func28, Tryz.ntmps28
  go_wp2
  go_loopw [3, 4] (fun i _ wr => ∃ p : Nat, p ≤ ls.length ∧ i = .int .i64 p ∧ Still w wr) (fun i _ _ => ls.length - (intOf i).toNat)
  case atStart => exact ⟨0, by omega, rfl, Kept.refl _ _⟩
  case round =>
    obtain ⟨p, hp, rfl, hk⟩ := hrel
    have W := hwc hk
    have c4 := W.cell 4
    have c5 := W.cell 5
    simp only [List.getElem?_toArray, List.getElem?_cons_succ, List.getElem?_cons_zero] at c4 c5
    clear W
    by_cases hlt : p < ls.length
    · obtain ⟨g1, g2, m, l, rfl, rfl, h1, h2, hL⟩ := C p hlt
      obtain ⟨na, n, nc, rfl, hn9, hn⟩ := hL.slice
      have hlt' : decide ((p : Int) < (ls.length : Int)) = true := decide_eq_true (by omega)
      clear C c5
      go_wp2
      clear c4
      go_loopw [4] (fun kk wr => ∃ k : Nat, k ≤ n ∧ kk = .int .i64 k ∧ Still w wr) (fun kk _ => n - (intOf kk).toNat)
      case atStart => exact ⟨0, by omega, rfl, hk⟩
      case round =>
        clear hk
        obtain ⟨k, hkn, rfl, hk⟩ := hrel
        have W := hwc hk
        have c4 := W.cell 4
        have c6 := W.cell 6
        simp only [List.getElem?_toArray, List.getElem?_cons_succ, List.getElem?_cons_zero] at c4 c6
        clear W
        have k1 := hk.cell h1 (fun h => h)
        have k2 := hk.cell h2 (fun h => h)
        by_cases hkl : k < n
        · obtain ⟨g3, rfl, h3⟩ := hn k hkl
          have k3 := hk.cell h3 (fun h => h)
          have hmm : (m != m) = false := by simp
          have hkl' : (k : Int) < (n : Int) := by omega
          have hlt2 : (p : Int) < (ls.length : Int) := by omega
          go_wp2_with fail
          go_quiet (fail)
          go_wp2
          exact ⟨⟨k + 1, by omega, by go_num, hk.drewN nq⟩, by simp [intOf]; omega⟩
        · have hk' : k = n := by omega
          subst hk'
          go_wp2
          exact ⟨⟨p + 1, by omega, by go_num, hk⟩, by simp [intOf]; omega⟩
    · have hp' : p = ls.length := by omega
      subst hp'
      clear C
      go_wp2
      go_loopw [5, 6] (fun i _ wr => i = .int .i64 0 ∧ Still w wr) (fun _ _ _ => 0)
      case atStart => exact ⟨rfl, hk⟩
      case round =>
        clear hk
        obtain ⟨rfl, hk⟩ := hrel
        have W := hwc hk
        have c5 := W.cell 5
        simp only [List.getElem?_toArray, List.getElem?_cons_succ, List.getElem?_cons_zero] at c5
        clear W
        go_wp2
        go_ret
        exact ⟨rfl, hk⟩

end Go.Proofs.YtopihgmemnokkaaGreat
