import Derived.Test.YtopihgmemnokkaaGreatTreeMF
import Derived.Test.YtopihgmemnokkaaGreatIxW1F
import Derived.Test.YtopihgmemnokkaaGreatMapMF
import Derived.Test.YtopihgmemnokkaaGreatCodeW5F
import Derived.Test.YtopihgmemnokkaaGreatBuildF
import Derived.Test.YtopihgmemnokkaaGreatCodeW11F
import Derived.Test.YtopihgmemnokkaaGreatHuffF
import Derived.Deep.DeepMust
namespace Go.Proofs.YtopihgmemnokkaaGreat
open Go.RowKit

theorem numv_snoc (c : Bool) : ∀ (p : List Bool) (v : Nat), numv v (p ++ [c]) = 2 * numv v p + c.toNat
  | [], v => rfl
  | b :: p, v => by simp only [List.cons_append, numv]; exact numv_snoc c p _
theorem numv_lt : ∀ (p : List Bool) (n v : Nat), v < 2 ^ n → numv v p < 2 ^ (n + p.length)
  | [], n, v, h => h
  | b :: p, n, v, h => by
    have hb : b.toNat ≤ 1 := Bool.toNat_le _
    have := numv_lt p (n + 1) (2 * v + b.toNat) (by rw [Nat.pow_succ]; omega)
    simp only [numv, List.length_cons]
    rw [show n + (p.length + 1) = n + 1 + p.length by omega]; exact this
theorem numv_lt0 (p : List Bool) : numv 0 p < 2 ^ p.length := by
  have := numv_lt p 0 0 (by simp)
  simpa using this
theorem numv_bl : ∀ (n v : Nat), v < 2 ^ n → numv 0 (bl (n, v)) = v
  | 0, v, h => by have : v = 0 := by simpa using h
                  subst this; rfl
  | n + 1, v, h => by
    have e : v = 2 * (v / 2) + (decide (v % 2 = 1)).toNat := by
      have : v % 2 = 0 ∨ v % 2 = 1 := by omega
      rcases this with h | h <;> simp [h] <;> omega
    have hl : v / 2 < 2 ^ n := by rw [Nat.pow_succ] at h; omega
    have := bl_snoc n (v / 2) (decide (v % 2 = 1))
    rw [← e] at this
    rw [this, numv_snoc, numv_bl n (v / 2) hl, ← e]
/-- a way as a run -/
def wayR (W : List Bool) : Nat × Nat := (W.length, numv 0 W)
theorem wayR_bl {n v : Nat} (h : v < 2 ^ n) : wayR (bl (n, v)) = (n, v) := by unfold wayR; rw [bl_len, numv_bl n v h]
theorem wayR_lt (W : List Bool) (h : W.length ≤ 64) : (wayR W).2 < 18446744073709551616 := by
  have h1 := numv_lt0 W
  have h2 : 2 ^ W.length ≤ 2 ^ 64 := Nat.pow_le_pow_right (by omega) h
  unfold wayR
  simp only
  omega
theorem wayR_snoc (W : List Bool) (c : Bool) : wayR (W ++ [c]) = ((wayR W).1 + 1, 2 * (wayR W).2 + c.toNat) := by
  unfold wayR; rw [numv_snoc]; simp

/-- codes as an index has them: each fits, none begins another -/
structure Cod (G : Nat → Nat × Nat) : Prop where
  len : ∀ c, (G c).1 ≤ 64
  low : ∀ c, (G c).2 < 2 ^ (G c).1
  free : ∀ c d, c < 256 → d < 256 → 0 < (G c).1 → 0 < (G d).1 → bl (G c) <+: bl (G d) → c = d
theorem Cod.sized {G : Nat → Nat × Nat} (h : Cod G) : Sized G := fun c => ⟨h.len c, Nat.lt_of_lt_of_le (h.low c) (Nat.le_trans (Nat.pow_le_pow_right (by omega) (h.len c)) (by decide))⟩
theorem Cod.inj {G : Nat → Nat × Nat} (h : Cod G) : ∀ c d, c < 256 → d < 256 → 0 < (G c).1 → G c = G d → c = d := fun c d hc hd hp he =>
  h.free c d hc hd hp (by rw [← he]; exact hp) (by rw [he]; exact List.prefix_rfl)
theorem Cod.way {G : Nat → Nat × Nat} (h : Cod G) (c : Nat) : wayR (bl (G c)) = G c := wayR_bl (h.low c)

/-- a tree in memory: its size, its codes, the bytes by their codes, its root -/
structure Tre (base : Nat) (w : World) (tb o : Nat) (G : Nat → Nat × Nat) (X : List (List Bool)) (r : Nat) (root : Value) (F : Nat → Prop) : Prop where
  size : w.cell? ⟨tb, o, none⟩ = some (.int .i64 (X.length : Nat))
  code0 : ∀ c, c < 256 → w.cell? ⟨tb, o + 1 + c * 2, none⟩ = some (.int .i64 ((G c).1 : Nat))
  code1 : ∀ c, c < 256 → w.cell? ⟨tb, o + 1 + c * 2 + 1, none⟩ = some (.int .u64 ((G c).2 : Nat))
  map : w.cell? ⟨tb, o + 513, none⟩ = some (.map (some r))
  rootc : w.cell? ⟨tb, o + 514, none⟩ = some root
  byt : Byt w r G 256
  tree : BTree base 64 w root X F
  cod : Cod G
  ways : ∀ x ∈ X, ∃ c, c < 256 ∧ 0 < (G c).1 ∧ x = bl (G c)
  all : ∀ c, c < 256 → 0 < (G c).1 → bl (G c) ∈ X
  most : X.length ≤ 1000000
theorem Tre.below {base : Nat} {w w' : World} {tb o : Nat} {G : Nat → Nat × Nat} {X : List (List Bool)} {r : Nat} {root : Value} {F : Nat → Prop} (h : Tre base w tb o G X r root F) (hb : Below w.heap.size w w') : Tre base w' tb o G X r root F := by
  have hk := Kept.of_below hb (Nat.le_refl _) (fun _ => False)
  exact ⟨cell_keep hk h.size (fun h => h), fun c hc => cell_keep hk (h.code0 c hc) (fun h => h), fun c hc => cell_keep hk (h.code1 c hc) (fun h => h), cell_keep hk h.map (fun h => h), cell_keep hk h.rootc (fun h => h), h.byt.keep hk (fun h => h), h.tree.below hb, h.cod, h.ways, h.all, h.most⟩
theorem Tre.pf {base : Nat} {w : World} {tb o : Nat} {G : Nat → Nat × Nat} {X : List (List Bool)} {r : Nat} {root : Value} {F : Nat → Prop} (h : Tre base w tb o G X r root F) : Wv.PF X := fun x hx y hy hp => by
  obtain ⟨c, hc, hcp, rfl⟩ := h.ways x hx
  obtain ⟨d, hd, hdp, rfl⟩ := h.ways y hy
  rw [h.cod.free c d hc hd hcp hdp hp]

/-- how long a way is that lies in a block -/
def wayLen (w : World) (b : Nat) : Nat := match w.cell? ⟨b, 0, none⟩ with | some v => (intOf v).toNat | none => 0
theorem wayLen_of {w : World} {b n x : Nat} {t : TypeId} (h : w.heap[b]? = some (.cells #[.int .i64 (n : Nat), .int .u64 (x : Nat)] t (0, 0))) : wayLen w b = n := by
  unfold wayLen
  rw [cell_of h (i := 0) rfl]; simp [intOf]
theorem BTree.nil_of {base d : Nat} {w : World} {v : Value} {X : List (List Bool)} {F : Nat → Prop} (h : BTree base d w v X F) (hx : ∀ x ∈ X, x = []) : v = .pointer none := by
  cases d with
  | zero => exact h.1
  | succ d =>
    rcases h with h | ⟨b, wv, av, v0, v1, F0, F1, h1, ⟨x, h2, h3⟩, _⟩
    · exact h.1
    · exact absurd (hx x h2) h3

set_option maxRecDepth 100000 in
set_option maxHeartbeats 2000000 in
theorem at_any (base : Nat) (w : World) (tb o : Nat) (G : Nat → Nat × Nat) (X : List (List Bool)) (r : Nat) (root : Value) (F : Nat → Prop) (h : Tre base w tb o G X r root F) (i c : Nat) (hc : c < 256) (hcp : 0 < (G c).1) (hi : X[i]? = some (bl (G c))) :
    Calls Tryz.prog 110 #[.pointer (some ⟨tb, o, none⟩), .int .i64 (i : Nat)] w fun e w' => e = .returned (.tuple #[.int .u8 (c : Nat), .int .i64 ((X.take i).count (bl (G c)) : Nat)]) ∧ Below w.heap.size w w' := by
  have m1 := h.map
  have m2 := h.rootc
  have htb : tb < w.heap.size := World.block_lt_of_cell? _ _ m1
  have HH : Hid (Tre base w tb o G X r root F) := h
  have HI : Hid (X[i]? = some (bl (G c))) := hi
  have hm := h.most
  have hlen : (bl (G c)).length ≤ 64 := by rw [bl_len]; exact h.cod.len c
  have HPF : Hid (Wv.PF X) := h.pf
  clear h hi
  go_enter Tryz.func110, Tryz.ntmps110
  go_wp2
  go_loopw [1, 7, 8] (fun pl nv _ wr => ∃ (W y : List Bool) (j : Nat) (Z : List (List Bool)) (vz : Value) (Fz : Nat → Prop), Hid (bl (G c) = W ++ y) ∧ pl = .int .i64 (j : Nat) ∧ nv = vz ∧ Hid (BTree base (64 - W.length) w vz Z Fz) ∧ Hid (Z[j]? = some y) ∧ Hid ((Z.take j).count y = (X.take i).count (bl (G c))) ∧ Hid (Wv.PF Z) ∧ Z.length ≤ 1000000 ∧
      wr.heap[w.heap.size]? = some (.cells #[.int .i64 ((wayR W).1 : Nat), .int .u64 ((wayR W).2 : Nat)] 114 (0, 0)) ∧ Below w.heap.size w wr ∧ w.heap.size < wr.heap.size) (fun _ _ _ wr => 64 - wayLen wr w.heap.size)
  case atStart =>
    refine ⟨[], bl (G c), i, X, root, F, rfl, rfl, rfl, HH.out.tree, HI.out, rfl, HPF.out, hm, heap_alloc_new _ _, (Below.refl _ _).alloc (Nat.le_refl _) _, by simp⟩
  case round =>
    obtain ⟨W, y, j, Z, vz, Fz, hWy, rfl, rfl, hT, hj, hcnt, hPF, hZ, hway, hBl, hsz⟩ := hrel
    have hway0 := cell_of hway (i := 0) rfl
    have hway1 := cell_of hway (i := 1) rfl
    have hwl := wayLen_of hway
    have hWl : W.length + y.length ≤ 64 := by have := congrArg List.length hWy.out; rw [List.length_append] at this; omega
    cases y with
    | nil =>
      have hnil := BTree.nil_of hT.out (hPF.out.all_nil (List.mem_of_getElem? hj.out))
      have hWG : W = bl (G c) := by have := hWy.out; rw [List.append_nil] at this; exact this.symm
      subst hnil
      have hG2 : wayR W = G c := by rw [hWG]; exact HH.out.cod.way c
      rw [hG2] at hway hway0 hway1 hwl
      have hlk : ∀ k : Nat, (Instr.lookup 116 (.map (some r)) (.agg #[.int .i64 ((G c).1 : Nat), .int .u64 ((G c).2 : Nat)]) false).run Tryz.prog (wr.drewN k) = .ok (.int .u8 (c : Nat)) (wr.drewN k) := fun k => by
        have hk : Kept (fun _ => False) w (wr.drewN k) := Kept.of_below (below_drewN hBl k) (Nat.le_refl _) _
        have := (HH.out.byt.keep hk (fun h => h)).hit HH.out.cod.sized HH.out.cod.inj hc hcp false
        exact this
      have kk := Kept.of_below hBl (Nat.le_refl _) (fun _ => False)
      have m1' := cell_keep kk m1 (fun h => h)
      have hjl := (List.getElem?_eq_some_iff.1 hj.out).1
      have HCN : Hid ((X.take i).count (bl (G c)) = j) := by
        have hall := hPF.out.all_nil (List.mem_of_getElem? hj.out)
        show _ = _
        rw [← hcnt.out, List.count_eq_length.2]
        · simp; omega
        · intro b hb; exact (hall b (List.mem_of_mem_take hb)).symm
      go_wp2_with fail
      go_quiet (fail)
      go_wp2
      go_ret2
      exact ⟨by rw [HCN.out]; rfl, below_drewN hBl nq⟩
    | cons d y =>
      have hmem := List.mem_of_getElem? hj.out
      have hnn := hPF.out.no_nil hmem
      have hd : 64 - W.length = (64 - (W.length + 1)) + 1 := by simp at hWl; omega
      have hT' := hT.out
      rw [hd] at hT'
      obtain ⟨b, wv, av, v0, v1, F0, F1, rfl, hL, t0, t1⟩ := hT'.node ⟨_, hmem, by simp⟩
      have hbl := Wv.bits_len hnn
      rw [hbl] at hL
      have hba := Wv.bitAt_get hnn hj.out
      have hjl := (List.getElem?_eq_some_iff.1 hj.out).1
      obtain ⟨ca, ct⟩ := Wv.child_at hnn hj.out
      have hrk := Wv.rkb_le (Wv.bitAt Z) d j
      have hL2 := fun W' (hW : Below w.heap.size w W') => hL.below hW
      have hbit := lbit_any base wr b 0 [] [v0, v1] rfl _ wv av (Wv.bitAt Z) Z.length j (hL.below hBl) hjl (by omega)
      rw [hba] at hbit
      have HRK : Hid (∀ W', Below w.heap.size w W' → Calls Tryz.prog 151 #[.pointer (some ⟨b, 0, none⟩), .int .u64 (d.toNat : Nat), .int .i64 (j : Nat)] W' fun e w' => e = .returned (.int .i64 (Wv.rkb (Wv.bitAt Z) d j : Nat)) ∧ Below W'.heap.size W' w') := fun W' hW =>
        rankOf_any base W' b 0 [] [v0, v1] rfl _ wv av (Wv.bitAt Z) Z.length j d (hL.below hW) (by omega) (by omega)
      have s0 := hL.four.cell 4
      have s1 := hL.four.cell 5
      have HT : Hid (BTree base (64 - (W ++ [d]).length) w (if d then v1 else v0) (Wv.child d Z) (if d then F1 else F0)) := by
        show BTree _ _ _ _ _ _
        rw [List.length_append, List.length_cons, List.length_nil]
        cases d
        · exact t0
        · exact t1
      have HCA : Hid ((Wv.child d Z)[Wv.rkb (Wv.bitAt Z) d j]? = some y) := ca
      have HCT : Hid (((Wv.child d Z).take (Wv.rkb (Wv.bitAt Z) d j)).count y = (X.take i).count (bl (G c))) := by
        show _ = _
        rw [ct, Wv.child_count, hcnt.out]
      have hcl := child_le d Z
      have HPF2 : Hid (Wv.PF (Wv.child d Z)) := hPF.out.child d
      have hW64 : W.length + 1 ≤ 64 := by simp at hWl; omega
      have HWY : Hid (bl (G c) = (W ++ [d]) ++ y) := by show _ = _; rw [hWy.out]; simp
      have hblt : b < w.heap.size := hL.four.lt
      have hnum := numv_lt0 W
      have HSN := wayR_snoc W d
      have hsd : w.cell? ⟨b, 4 + d.toNat, none⟩ = some (if d then v1 else v0) := by
        cases d
        · exact s0
        · exact s1
      have hd2 : (d.toNat : Int) < 2 := by have := Bool.toNat_le d; omega
      have hd1 := Bool.toNat_le d
      have hwr1 : (wayR W).1 = W.length := rfl
      have hwr2 : (wayR W).2 = numv 0 W := rfl
      rw [hwr1] at hway hway0 hwl HSN
      rw [hwr2] at hway hway1 HSN
      generalize numv 0 W = x at *
      generalize hZk : Wv.rkb (Wv.bitAt Z) d j = j' at *
      generalize (if d then v1 else v0) = vn at *
      generalize (if d then F1 else F0) = Fn at *
      have HSN' : Hid (wayR (W ++ [d]) = (W.length + 1, 2 * x + d.toNat)) := HSN
      clear hZk hL hL2 hba ca ct hcnt hPF hWy hT hj hmem hnn hbl t0 t1 s0 s1 hT' HSN hwr1 hwr2 HI HPF HH
      generalize d.toNat = D at *
      go_wp2_with fail
      refine hbit.mono ?_
      rintro e w' ⟨rfl, rfl⟩
      go_wp2_with fail
      refine (HRK.out _ hBl).mono ?_
      rintro e w2 ⟨rfl, hB2⟩
      have hway2 : w2.heap[w.heap.size]? = some (.cells #[.int .i64 (W.length : Nat), .int .u64 (x : Nat)] 114 (0, 0)) := by rw [hB2.block _ hsz]; exact hway
      have a0 := cell_of hway2 (i := 0) rfl
      have a1 := cell_of hway2 (i := 1) rfl
      have hB3 : Below w.heap.size w w2 := hBl.trans (hB2.mono hBl.size)
      have hz2 := hB2.size
      clear hway0 hway1 hbit
      go_wp2_with fail
      refine (with_any W.length x D w2 (by omega) hnum hd1).mono ?_
      rintro e w3 ⟨rfl, hB4⟩
      have hway3 : w3.heap[w.heap.size]? = some (.cells #[.int .i64 (W.length : Nat), .int .u64 (x : Nat)] 114 (0, 0)) := by rw [hB4.block _ (by omega)]; exact hway2
      have a0 := cell_of hway3 (i := 0) rfl
      have a1 := cell_of hway3 (i := 1) rfl
      have f0 := unfrozen hway3 0
      have f1 := unfrozen hway3 1
      have hB5 : Below w.heap.size w w3 := hB3.trans (hB4.mono hB3.size)
      have hsd3 := cell_keep (Kept.of_below hB5 (Nat.le_refl _) (fun _ => False)) hsd (fun h => h)
      have hz3 := hB4.size
      have hbw : ¬ b = w.heap.size := by omega
      unfold runV
      clear hway2 hB2 hB4 hB3 hsd
      go_wp2
      have hfin : ((w3.setCell ⟨w.heap.size, 0, none⟩ (.int .i64 ((W.length : Int) + 1))).setCell ⟨w.heap.size, 1, none⟩ (.int .u64 (2 * (x : Int) + (D : Int)))).heap[w.heap.size]? = some (.cells #[.int .i64 ((W.length + 1 : Nat) : Int), .int .u64 ((2 * x + D : Nat) : Int)] 114 (0, 0)) := by
        rw [box_put hway3]; rfl
      refine ⟨⟨W ++ [d], y, j', Wv.child d Z, vn, Fn, HWY, rfl, rfl, HT, HCA, HCT, HPF2, by omega, by rw [hfin, HSN'.out], (hB5.setCell (Nat.le_refl _) _).setCell (Nat.le_refl _) _, by simp; omega⟩, ?_⟩
      rw [wayLen_of hfin, hwl]
      omega

end Go.Proofs.YtopihgmemnokkaaGreat

namespace Go.Proofs.YtopihgmemnokkaaGreat
open Go.RowKit

theorem bl_get (n x k : Nat) (hk : k < n) : (bl (n, x)).drop k = decide (x / 2 ^ (n - 1 - k) % 2 = 1) :: (bl (n, x)).drop (k + 1) := by
  have hl : k < (bl (n, x)).length := by rw [bl_len]; exact hk
  rw [List.drop_eq_getElem_cons hl]
  congr 1
  simp [bl]
theorem bl_drop (n x : Nat) : (bl (n, x)).drop n = [] := List.drop_eq_nil_of_le (by rw [bl_len]; exact Nat.le_refl _)
theorem bit_nat (m : Nat) : (decide (m % 2 = 1)).toNat = m % 2 := by
  have : m % 2 = 0 ∨ m % 2 = 1 := by omega
  rcases this with h | h <;> simp [h]

theorem bitP_ne {base : Nat} {w : World} {b : Nat} {pre post : List Value} {ty : TypeId} {wv av : Value} {p : Nat → Bool} {n : Nat} (h : BitL base w b pre post ty wv av p n) {q : Nat} {cs : Array Value} {t : TypeId} {fr : Nat × Nat} (hq : w.heap[q]? = some (.cells cs t fr))
    (h1 : t ≠ ty) (h2 : t ≠ 112) (h3 : t ≠ 3) : ¬ bitP b wv av q := by
  rintro (rfl | e | e)
  · have := h.four
    unfold Four at this
    rw [hq] at this
    simp at this
    exact h1 this.2.1
  · rcases h.words.2 with ⟨rfl, _⟩ | ⟨g, cap, cur, rfl, _, hg, _⟩
    · cases e
    · have : g = q := by simpa [Value.ownBlock] using e
      subst this
      rw [hq] at hg
      simp at hg
      exact h2 hg.2.1
  · rcases h.ahead.2 with ⟨rfl, _⟩ | ⟨g, cap, cur, rfl, _, hg, _⟩
    · cases e
    · have : g = q := by simpa [Value.ownBlock] using e
      subst this
      rw [hq] at hg
      simp at hg
      exact h3 hg.2.1
/-- one bit is laid -/
theorem lay_one (base : Nat) (w : World) (b o : Nat) (pre post : List Value) (ho : pre.length = o) (ty : TypeId) (wv av : Value) (p : Nat → Bool) (n g cap Y : Nat) (h : BitL base w b pre post ty wv av p n) (hp : (p n).toNat = Y)
    (c1 : w.cell? ⟨g, 0, none⟩ = some (.int .i64 1)) (c2 : w.cell? ⟨g, 1, none⟩ = some (.int .u64 (Y : Nat))) (hg : ¬ bitP b wv av g) (hb : n ≤ 1000000) :
    Calls Tryz.prog 86 #[.pointer (some ⟨b, o, none⟩), .slice (some ⟨g, 0, none⟩) 1 cap] w fun e w' => e = .returned (.tuple #[]) ∧ ∃ wv' av', BitL base w' b pre post ty wv' av' p (n + 1) ∧ Kept (bitP b wv av) w w' ∧
      (∀ k, bitP b wv' av' k → bitP b wv av k ∨ w.heap.size ≤ k) := by
  have hY : Y ≤ 1 := by rw [← hp]; exact Bool.toNat_le _
  have hr : Runs w g [(1, Y)] := by
    intro k y hy
    match k, hy with
    | 0, hy => simp at hy; subst hy; exact ⟨c1, c2⟩
    | k + 1, hy => simp at hy
  have hs : Spells p n [(1, Y)] := by
    intro k y hy
    match k, hy with
    | 0, hy =>
      simp at hy; subst hy
      refine ⟨by simp, by simp only; omega, fun i hi => ?_⟩
      have hi0 : i = 0 := by simp only at hi; omega
      subst hi0
      simp [rsum, hp]
      omega
    | k + 1, hy => simp at hy
  have := lay_any base w b o pre post ho ty wv av p n g cap [(1, Y)] h hr hs hg (by simp [rsum]; omega) (by simp)
  exact this

/-- the tree when a way has been laid -/
def Laid (base : Nat) (w : World) (tb : Nat) (cs : Array Value) (ty : TypeId) (X : List (List Bool)) (F : Nat → Prop) (x : List Bool) (w' : World) : Prop :=
  ∃ (v' : Value) (F' : Nat → Prop), w'.heap[tb]? = some (.cells (cs.setIfInBounds 514 v') ty (0, 0)) ∧ BTree base 64 w' v' (X ++ [x]) F' ∧ Kept (fun k => k = tb ∨ F k) w w' ∧ ∀ k, F' k → F k ∨ w.heap.size ≤ k

set_option maxRecDepth 100000 in
set_option maxHeartbeats 2000000 in
theorem tlay_any (base : Nat) (w : World) (tb : Nat) (cs : Array Value) (ty : TypeId) (v : Value) (X : List (List Bool)) (F : Nat → Prop) (n x : Nat) (h1 : w.heap[tb]? = some (.cells cs ty (0, 0))) (h2 : cs[514]? = some v) (h3 : BTree base 64 w v X F) (h4 : ¬ F tb)
    (hX : X.length ≤ 1000000) (hn : n ≤ 64) (hx : x < 18446744073709551616) (hbase : base ≤ w.heap.size) :
    Calls Tryz.prog 157 #[.pointer (some ⟨tb, 0, none⟩), runV n x] w fun e w' => e = .returned (.tuple #[]) ∧ Laid base w tb cs ty X F (bl (n, x)) w' := by
  have htb : tb < w.heap.size := (Array.getElem?_eq_some_iff.1 h1).1
  have hal : Below w.heap.size w (w.alloc (.cells #[.int .i64 (n : Nat), .int .u64 (x : Nat)] 114)) := (Below.refl _ _).alloc (Nat.le_refl _) _
  have HH : Hole base 64 (w.alloc (.cells #[.int .i64 (n : Nat), .int .u64 (x : Nat)] 114)) tb 514 ((bl (n, x)).drop 0) (Laid base w tb cs ty X F (bl (n, x))) := by
    refine ⟨cs, ty, v, X, F, by rw [hal.block tb htb]; exact h1, h2, h3.below hal, h4, hX, fun w' v' F' g1 g2 g3 g4 => ⟨v', F', g1, by rw [List.drop_zero] at g2; exact g2, (Kept.of_below hal (Nat.le_refl _) _).trans g3, fun k hk => ?_⟩⟩
    rcases g4 k hk with h | h
    · exact .inl h
    · exact .inr (by simp at h; omega)
  have hbx : (w.alloc (.cells #[.int .i64 (n : Nat), .int .u64 (x : Nat)] 114)).heap[w.heap.size]? = some (.cells #[.int .i64 (n : Nat), .int .u64 (x : Nat)] 114 (0, 0)) := heap_alloc_new _ _
  have HHH : Hid _ := HH
  have HBX : Hid _ := hbx
  clear h1 h2 h3 h4 hal HH hbx
  unfold runV
  go_enter Tryz.func157, Tryz.ntmps157
  go_wp2
  go_loopw [4, 5, 6, 12] (fun at_ _ _ i wr => ∃ (k ab ao : Nat), k ≤ n ∧ i = .int .i64 k ∧ at_ = .pointer (some ⟨ab, ao, none⟩) ∧ Hole base (64 - k) wr ab ao ((bl (n, x)).drop k) (Laid base w tb cs ty X F (bl (n, x))) ∧ ab ≠ w.heap.size ∧ w.heap.size < wr.heap.size ∧
      wr.heap[w.heap.size]? = some (.cells #[.int .i64 (n : Nat), .int .u64 (x : Nat)] 114 (0, 0))) (fun _ _ _ i _ => n - (intOf i).toNat)
  case atStart => exact ⟨0, tb, 514, by omega, rfl, rfl, HHH.out, by omega, by simp, HBX.out⟩
  case round =>
    obtain ⟨k, ab, ao, hk, rfl, rfl, hH, hab, hsz, hbx⟩ := hrel
    by_cases hlt : k < n
    · have hd : 64 - k = (64 - (k + 1)) + 1 := by omega
      rw [hd, bl_get n x k hlt] at hH
      obtain ⟨v0, hc0, hv0, hf0⟩ := hH.cell
      have b1 : wr.cell? ⟨w.heap.size, 0, none⟩ = some (.int .i64 (n : Nat)) := by simp [World.cell?, hbx]
      have b2 : wr.cell? ⟨w.heap.size, 1, none⟩ = some (.int .u64 (x : Nat)) := by simp [World.cell?, hbx]
      have HY := bit_nat (x / 2 ^ (n - 1 - k))
      have hbr : base ≤ wr.heap.size := by omega
      have habl : ab < wr.heap.size := World.block_lt_of_cell? _ _ hc0
      have hab2 : ¬ ab = wr.heap.size := by omega
      have hBIT := fun W => bit_any n x k W hn hlt hx
      generalize hcb : decide (x / 2 ^ (n - 1 - k) % 2 = 1) = c at *
      generalize x / 2 ^ (n - 1 - k) % 2 = Y at *
      have HY' : Hid (c.toNat = Y) := HY
      have hY1 : Y ≤ 1 := by rw [← HY]; exact Bool.toNat_le _
      have HBIT : Hid _ := hBIT
      unfold runV at HBIT
      clear HY hcb hd hBIT
      have HN : ∃ (W : World) (b : Nat), Node base (64 - (k + 1)) W ab ao b (c :: (bl (n, x)).drop (k + 1)) (Laid base w tb cs ty X F (bl (n, x))) ∧ W.heap[w.heap.size]? = some (.cells #[.int .i64 (n : Nat), .int .u64 (x : Nat)] 114 (0, 0)) ∧
          ((v0 = .pointer none ∧ b = wr.heap.size ∧ W = (wr.alloc (.cells nodeCells 223)).setCell ⟨ab, ao, none⟩ (.pointer (some ⟨wr.heap.size, 0, none⟩))) ∨ (v0 = .pointer (some ⟨b, 0, none⟩) ∧ W = wr)) := by
        rcases hv0 with rfl | ⟨b, rfl⟩
        · refine ⟨_, _, hH.made hc0 hbr, ?_, .inl ⟨rfl, rfl, rfl⟩⟩
          rw [Below.heap_setCell _ _ _ _ (by simp; exact fun e => hab e.symm), Below.heap_alloc _ _ _ hsz]; exact hbx
        · exact ⟨wr, b, hH.node hc0, hbx, .inr ⟨rfl, rfl⟩⟩
      obtain ⟨W, b, hN, hWb, hcase⟩ := HN
      obtain ⟨wv, av, u0, u1, p, m, hL, hpm, hmb, hcW, hnab, hcont⟩ := hN.down
      have hWs : w.heap.size < W.heap.size := (Array.getElem?_eq_some_iff.1 hWb).1
      have e1 : W.cell? ⟨w.heap.size, 0, none⟩ = some (.int .i64 (n : Nat)) := by simp [World.cell?, hWb]
      have e2 : W.cell? ⟨w.heap.size, 1, none⟩ = some (.int .u64 (x : Nat)) := by simp [World.cell?, hWb]
      have HL : Hid (BitL base W b [] [u0, u1] 223 wv av p m) := hL
      have HP : Hid ((p m).toNat = Y) := by show (p m).toNat = Y; rw [hpm]; exact HY'.out
      have HC : Hid _ := hcont
      have HNB : Hid _ := hnab
      have HWB : Hid _ := hWb
      clear hH hN hL hpm hcont hnab hWb hv0 hbx
      have hY2 : (Y : Int) < 2 := by omega
      rcases hcase with ⟨rfl, rfl, hWe⟩ | ⟨rfl, rfl⟩
      focus
        have HWe : Hid _ := hWe
        clear hWe
        go_wp2_with fail
        have hWe := HWe.out
        rw [World.setCell_alloc_past _ _ _ _ habl] at hWe
        unfold nodeCells at hWe
        rw [← hWe]
        clear hWe HWe
      rotate_left
      focus
        go_wp2_with fail
      all_goals
        refine (HBIT.out W).mono ?_
        rintro e w3 ⟨rfl, hB3⟩
        have k3 := Kept.of_below hB3 (Nat.le_refl _) (fun _ => False)
        have hc3 := cell_keep k3 hcW (fun h => h)
        have hL3 := HL.out.below hB3
        have hz3 := hB3.size
        have hwb3 : w3.heap[w.heap.size]? = some (.cells #[.int .i64 (n : Nat), .int .u64 (x : Nat)] 114 (0, 0)) := by rw [hB3.block _ hWs]; exact HWB.out
        clear e1 e2 hcW hc0 hf0 b1 b2 HBIT
        go_wp2_with fail
        have hn3 : (w3.alloc (.cells #[.int .i64 1, .int .u64 (Y : Nat)] 114)).heap[w3.heap.size]? = some (.cells #[.int .i64 1, .int .u64 (Y : Nat)] 114 (0, 0)) := heap_alloc_new _ _
        have hb4 : Below w3.heap.size w3 (w3.alloc (.cells #[.int .i64 1, .int .u64 (Y : Nat)] 114)) := (Below.refl _ _).alloc (Nat.le_refl _) _
        have hL4 := hL3.below hb4
        have hwb4 : (w3.alloc (.cells #[.int .i64 1, .int .u64 (Y : Nat)] 114)).heap[w.heap.size]? = some (.cells #[.int .i64 (n : Nat), .int .u64 (x : Nat)] 114 (0, 0)) := by rw [Below.heap_alloc _ _ _ (by omega)]; exact hwb3
        have hc4 := cell_keep (Kept.of_below hb4 (Nat.le_refl _) (fun _ => False)) hc3 (fun h => h)
        have hz4 : (w3.alloc (.cells #[.int .i64 1, .int .u64 (Y : Nat)] 114)).heap.size = w3.heap.size + 1 := by simp
        refine (lay_one base _ _ 0 [] [u0, u1] rfl 223 wv av p m w3.heap.size 1 Y hL4 HP.out (cell_of hn3 rfl) (cell_of hn3 rfl) (fun hp => by have := (hL3.lt _ hp).2; omega) hmb).mono ?_
        rintro e w5 ⟨rfl, wv', av', hL5, hK5, hat5⟩
        have hH5 := HC.out _ w5 wv' av' (hB3.trans (hb4.mono hz3)) hL5 hK5 hat5
        rw [HY'.out] at hH5
        have hc5 := cell_keep hK5 hc4 HNB.out
        have hbx5 := hK5.block w.heap.size (by omega) (bitP_ne hL4 hwb4 (by decide) (by decide) (by decide))
        rw [hwb4] at hbx5
        have hz5 := hK5.size
        have hne5 := bitP_ne hL4 hwb4 (by decide) (by decide) (by decide)
        have hbne : ∀ b, bitP b wv av b := fun b => .inl rfl
        clear hK5 hat5 hL5 hL4 hn3 hb4 hc4 hc3 hL3 HC
        go_wp2
        exact ⟨⟨k + 1, _, 4 + Y, by omega, by go_num, rfl, hH5, fun e => hne5 (e ▸ hbne _), by omega, hbx5⟩, by simp [intOf]; omega⟩
    · have hk' : k = n := by omega
      subst hk'
      rw [bl_drop] at hH
      have := hH.done
      go_wp2
      go_end0
      exact ⟨rfl, this⟩

end Go.Proofs.YtopihgmemnokkaaGreat

namespace Go.Proofs.YtopihgmemnokkaaGreat
open Go.RowKit

theorem child_all (c : Bool) {X : List (List Bool)} (h : [] ∉ X) : (Wv.child c X).length = Wv.rkb (Wv.bitAt X) c X.length := by
  have := Wv.child_take c h X.length (Nat.le_refl _)
  rwa [List.take_length] at this

set_option maxRecDepth 100000 in
set_option maxHeartbeats 2000000 in
theorem tamong_any (base : Nat) (w : World) (tb o : Nat) (G : Nat → Nat × Nat) (X : List (List Bool)) (r : Nat) (root : Value) (F : Nat → Prop) (h : Tre base w tb o G X r root F) (c : Nat) (hc : c < 256) (v : Value) (rs : List (Nat × Nat)) (hr : RgAt w v rs) (hu : Wv.Upto X.length rs) (hl : rs.length ≤ 1000000) :
    Calls Tryz.prog 167 #[.pointer (some ⟨tb, o, none⟩), .int .u8 (c : Nat), v] w fun e w' => (∃ v' rs', e = .returned v' ∧ RgAt w' v' rs' ∧ Wv.Pos rs' ∧ rs'.length ≤ rs.length ∧ Wv.flat rs' = (if 0 < (G c).1 then Wv.sel (bl (G c)) X (Wv.flat rs) else [])) ∧ Below w.heap.size w w' := by
  have m1 := h.code0 c hc
  have m2 := h.code1 c hc
  have m3 := h.rootc
  have htb : tb < w.heap.size := World.block_lt_of_cell? _ _ m3
  have hci : (c : Int) < 256 := by omega
  have HH : Hid (Tre base w tb o G X r root F) := h
  have hm := h.most
  have hlen : (G c).1 ≤ 64 := h.cod.len c
  have hx := (h.cod.sized c).2
  have HPF : Hid (Wv.PF X) := h.pf
  have HR : Hid (RgAt w v rs) := hr
  have HU : Hid (Wv.Upto X.length rs) := hu
  clear h hr hu
  by_cases h0 : (G c).1 = 0
  · have hz : (((G c).1 : Nat) : Int) = 0 := by omega
    rw [if_neg (by omega)]
    have hd : ((((G c).1 : Nat) : Int) == 0) = true := by simp [h0]
    go_enter Tryz.func167, Tryz.ntmps167
    go_wp2
    go_ret
    exact ⟨⟨_, [], rfl, .inl ⟨rfl, rfl⟩, fun r hr => by simp at hr, by simp, rfl⟩, (Below.refl _ _).alloc (Nat.le_refl _) _⟩
  · have hp : 0 < (G c).1 := by omega
    rw [if_pos hp]
    have hd : ((((G c).1 : Nat) : Int) == 0) = false := by simp; omega
    have HA : Hid (bl (G c) ∈ X) := HH.out.all c hc hp
    obtain ⟨n, x, hG⟩ : ∃ n x, G c = (n, x) := ⟨_, _, rfl⟩
    rw [hG] at m1 m2 hlen hx hp hd
    rw [hG] at HA
    rw [hG]
    simp only at m1 m2 hlen hx hp hd
    clear h0 hG
    go_enter Tryz.func167, Tryz.ntmps167
    go_wp2
    go_loopw [2, 8, 9, 10, 26] (fun rv nv _ _ i wr => ∃ (k : Nat) (Z : List (List Bool)) (Fz : Nat → Prop) (rk : List (Nat × Nat)), k ≤ n ∧ i = .int .i64 k ∧ Hid (RgAt wr rv rk) ∧ Hid (Wv.Upto Z.length rk) ∧ Hid (BTree base (64 - k) w nv Z Fz) ∧
        Hid (Wv.sel ((bl (n, x)).drop k) Z (Wv.flat rk) = Wv.sel (bl (n, x)) X (Wv.flat rs)) ∧ Hid ((bl (n, x)).drop k ∈ Z) ∧ Hid (Wv.PF Z) ∧ Z.length ≤ 1000000 ∧ rk.length ≤ rs.length ∧ Hid (0 < k → Wv.Pos rk) ∧
        wr.heap[w.heap.size]? = some (.cells #[.int .i64 (n : Nat), .int .u64 (x : Nat)] 114 (0, 0)) ∧ Below w.heap.size w wr ∧ w.heap.size < wr.heap.size) (fun _ _ _ _ i _ => n - (intOf i).toNat)
    case atStart =>
      have hb1 : Below w.heap.size w (w.alloc (.cells #[.int .i64 (n : Nat), .int .u64 (x : Nat)] 114)) := (Below.refl _ _).alloc (Nat.le_refl _) _
      exact ⟨0, X, F, rs, by omega, rfl, HR.out.below hb1, HU.out, HH.out.tree, rfl, HA.out, HPF.out, hm, Nat.le_refl _, fun h => absurd h (by omega), heap_alloc_new _ _, hb1, by simp⟩
    case round =>
      obtain ⟨k, Z, Fz, rk, hk, rfl, hR, hU, hT, hS, hM, hP, hZ, hrl, hPos, hbx, hBl, hsz⟩ := hrel
      have b1 := cell_of hbx (i := 0) rfl
      have b2 := cell_of hbx (i := 1) rfl
      by_cases hlt : k < n
      · have hM' := hM.out
        have hS' := hS.out
        rw [bl_get n x k hlt] at hM' hS'
        have hnn := hP.out.no_nil hM'
        have hd6 : 64 - k = (64 - (k + 1)) + 1 := by omega
        have hT' := hT.out
        rw [hd6] at hT'
        obtain ⟨b, wv, av, v0, v1, F0, F1, rfl, hL, t0, t1⟩ := hT'.node ⟨_, hM', by simp⟩
        have hbl := Wv.bits_len hnn
        rw [hbl] at hL
        have HY := bit_nat (x / 2 ^ (n - 1 - k))
        have HBIT := fun W => bit_any n x k W hlen hlt hx
        unfold runV at HBIT
        generalize hcb : decide (x / 2 ^ (n - 1 - k) % 2 = 1) = d at *
        generalize x / 2 ^ (n - 1 - k) % 2 = D at *
        have HB : Hid _ := HBIT
        obtain ⟨q1, q2⟩ := Wv.am_bits (Wv.bitAt Z) d hU.out
        have q3 := Wv.am_len (Wv.rkb (Wv.bitAt Z) d) rk
        rw [← child_all d hnn] at q1
        have HS2 : Hid (Wv.sel ((bl (n, x)).drop (k + 1)) (Wv.child d Z) (Wv.flat (Wv.am (Wv.rkb (Wv.bitAt Z) d) rk)) = Wv.sel (bl (n, x)) X (Wv.flat rs)) := by
          show _ = _
          rw [q2, Wv.sel_down hnn _ hU.out.lt]; exact hS'
        have HAM := fun (W' : World) (rv : Value) (hW : Below w.heap.size w W') (hRW : RgAt W' rv rk) => among_any base W' b 0 [] [v0, v1] rfl _ wv av (Wv.bitAt Z) Z.length d rv rk (hL.below hW) hRW hU.out hZ (by omega)
        have s0 := hL.four.cell 4
        have s1 := hL.four.cell 5
        have hsd : w.cell? ⟨b, 4 + d.toNat, none⟩ = some (if d then v1 else v0) := by
          cases d
          · exact s0
          · exact s1
        have HT : Hid (BTree base (64 - (k + 1)) w (if d then v1 else v0) (Wv.child d Z) (if d then F1 else F0)) := by
          show BTree _ _ _ _ _ _
          cases d
          · exact t0
          · exact t1
        have HM2 : Hid ((bl (n, x)).drop (k + 1) ∈ Wv.child d Z) := Wv.child_mem.2 hM'
        have HP2 : Hid (Wv.PF (Wv.child d Z)) := hP.out.child d
        have HF : Hid (Wv.Full (Wv.child d Z).length (Wv.am (Wv.rkb (Wv.bitAt Z) d) rk)) := q1
        have hcl := child_le d Z
        have hblt : b < w.heap.size := hL.four.lt
        have hd2 : (D : Int) < 2 := by have := Bool.toNat_le d; omega
        simp only [HY] at hsd HAM
        have HAM' : Hid _ := HAM
        generalize (if d then v1 else v0) = vn at *
        generalize (if d then F1 else F0) = Fn at *
        clear hcb hL t0 t1 s0 s1 hT' hT hbl hnn hM' hS' hM hS hP q1 q2 HBIT HY HAM
        go_wp2_with fail
        refine (HB.out wr).mono ?_
        rintro e w2 ⟨rfl, hB2⟩
        have hB3 : Below w.heap.size w w2 := hBl.trans (hB2.mono hBl.size)
        have hR2 := hR.out.below hB2
        have hbx2 : w2.heap[w.heap.size]? = some (.cells #[.int .i64 (n : Nat), .int .u64 (x : Nat)] 114 (0, 0)) := by rw [hB2.block _ hsz]; exact hbx
        have hz2 := hB2.size
        clear b1 b2 hB2 HB hR
        go_wp2_with fail
        refine (HAM'.out w2 _ hB3 hR2).mono ?_
        rintro e w3 ⟨v', rfl, hown, hB4⟩
        have hB5 : Below w.heap.size w w3 := hB3.trans (hB4.mono hB3.size)
        have hsd3 := cell_keep (Kept.of_below hB5 (Nat.le_refl _) (fun _ => False)) hsd (fun h => h)
        have hbx3 : w3.heap[w.heap.size]? = some (.cells #[.int .i64 (n : Nat), .int .u64 (x : Nat)] 114 (0, 0)) := by rw [hB4.block _ (by omega)]; exact hbx2
        have HR3 : Hid (RgAt w3 v' (Wv.am (Wv.rkb (Wv.bitAt Z) d) rk)) := (RgAt.own hown).1
        have hz3 := hB4.size
        clear hB4 hown HAM' hR2 hbx2 hsd
        go_wp2
        exact ⟨⟨k + 1, Wv.child d Z, Fn, Wv.am (Wv.rkb (Wv.bitAt Z) d) rk, by omega, by go_num, HR3, HF.out.upto, HT, HS2, HM2, HP2, by omega, by omega, fun _ => HF.out.pos, hbx3, hB5, by omega⟩, by simp [intOf]; omega⟩
      · have hk' : k = n := by omega
        subst hk'
        have hM' := hM.out
        have hS' := hS.out
        rw [bl_drop] at hM' hS'
        rw [Wv.sel_end (hP.out.all_nil hM') hU.out.lt] at hS'
        have HS : Hid (Wv.flat rk = Wv.sel (bl (k, x)) X (Wv.flat rs)) := hS'
        clear hS' hM'
        go_wp2
        go_ret
        exact ⟨⟨_, rk, rfl, hR.out, hPos.out hp, hrl, HS.out⟩, hBl⟩

end Go.Proofs.YtopihgmemnokkaaGreat

namespace Go.Proofs.YtopihgmemnokkaaGreat
open Go.RowKit

theorem treC_size (n : Nat) (G : Nat → Nat × Nat) (mv rv : Value) : (treC n G mv rv).size = 515 := by simp [treC, size_rowR]
theorem treC_0 (n : Nat) (G : Nat → Nat × Nat) (mv rv : Value) : (treC n G mv rv)[0]? = some (.int .i64 (n : Nat)) := by
  unfold treC
  rw [Array.append_assoc, Array.getElem?_append_left (by simp)]; rfl
theorem treC_mid (n : Nat) (G : Nat → Nat × Nat) (mv rv : Value) {i : Nat} (h : i < 512) : (treC n G mv rv)[1 + i]? = (rowR G)[i]? := by
  unfold treC
  rw [Array.getElem?_append_left (by simp [size_rowR]; omega), Array.getElem?_append_right (by simp)]
  congr 1
  simp
theorem treC_map (n : Nat) (G : Nat → Nat × Nat) (mv rv : Value) : (treC n G mv rv)[513]? = some mv := by
  unfold treC
  rw [Array.getElem?_append_right (by simp [size_rowR])]
  simp [size_rowR]
theorem treC_root (n : Nat) (G : Nat → Nat × Nat) (mv rv : Value) : (treC n G mv rv)[514]? = some rv := by
  unfold treC
  rw [Array.getElem?_append_right (by simp [size_rowR])]
  simp [size_rowR]
theorem treC_set (n : Nat) (G : Nat → Nat × Nat) (mv rv v : Value) : (treC n G mv rv).setIfInBounds 514 v = treC n G mv v := by
  apply Array.ext_getElem?
  intro j
  rw [Array.getElem?_setIfInBounds, treC_size]
  by_cases e : 514 = j
  · subst e; rw [if_pos rfl, if_pos (by omega), treC_root]
  · rw [if_neg e]
    by_cases h1 : j < 514
    · unfold treC
      by_cases h2 : j < 513
      · have hu : ∀ u, (#[Value.int .i64 (n : Nat)] ++ rowR G ++ #[mv, u])[j]? = (#[Value.int .i64 (n : Nat)] ++ rowR G)[j]? := fun u => Array.getElem?_append_left (by simp [size_rowR]; omega)
        rw [hu, hu]
      · have : j = 513 := by omega
        subst this
        have a := treC_map n G mv rv
        have b := treC_map n G mv v
        unfold treC at a b
        rw [a, b]
    · rw [Array.getElem?_eq_none (by rw [treC_size]; omega), Array.getElem?_eq_none (by rw [treC_size]; omega)]
theorem treC_one (n : Nat) (G : Nat → Nat × Nat) {mv rv : Value} (h1 : mv.oneCell' = true) (h2 : rv.oneCell' = true) : (treC n G mv rv).all (·.oneCell') = true := by
  unfold treC
  rw [Array.all_append, Array.all_append, rowR_one]
  have e1 : (#[Value.int .i64 (n : Nat)] : Array Value).all (·.oneCell') = true := by simp [Value.oneCell']
  rw [e1]
  simp [h1, h2]
theorem built_tree (n : Nat) (G : Nat → Nat × Nat) (mv : Value) (hm : mv.cells = #[mv]) :
    Tryz.prog.built 119 [(0, .int .i64 (n : Nat)), (1, .agg (rowR G)), (2, mv)] = some (treC n G mv (.pointer none)) := by
  refine built_of zero515 places515 ?_
  have hs0 := treC_size 0 (fun _ => (0, 0)) (.map none) (.pointer none)
  generalize hz : treC 0 (fun _ => (0, 0)) (.map none) (.pointer none) = z at *
  have hcX : Value.cells (.agg (rowR G)) = rowR G := rfl
  have hX := size_rowR G
  have hmz : mv.cells.size = 1 := by rw [hm]; rfl
  have e0 : (splice z 0 (Value.cells (.int .i64 (n : Nat)))).size = 515 := by rw [splice_size _ _ _ (by rw [hs0]; simp [Value.cells]), hs0]
  have e1 : (splice (splice z 0 (Value.cells (.int .i64 (n : Nat)))) 1 (Value.cells (.agg (rowR G)))).size = 515 := by rw [splice_size _ _ _ (by rw [e0, hcX, hX]; decide), e0]
  rw [fill_step (off := 0) (size := 1) rfl rfl (by rw [hs0]; decide), fill_step (off := 1) (size := 512) (v := .agg (rowR G)) rfl hX (by rw [e0]; decide), fill_step (off := 513) (size := 1) rfl hmz (by rw [e1]; decide)]
  simp only [Instr.fill]
  congr 1
  apply Array.ext_getElem?
  intro k
  rw [splice_get _ _ _ (by rw [e1, hmz]; decide), splice_get _ _ _ (by rw [e0, hcX, hX]; decide), splice_get _ _ _ (by rw [hs0]; simp [Value.cells])]
  rw [hcX, hX, hmz, hm]
  simp only [Value.cells, List.size_toArray, List.length_cons, List.length_nil]
  by_cases k3 : k = 513
  · subst k3
    rw [if_pos (by omega), treC_map]; rfl
  · rw [if_neg (by omega)]
    by_cases k2 : 1 ≤ k ∧ k < 513
    · rw [if_pos (by omega)]
      have := treC_mid n G mv (.pointer none) (i := k - 1) (by omega)
      rw [show 1 + (k - 1) = k by omega] at this
      rw [this]
    · rw [if_neg (by omega)]
      by_cases k0 : k = 0
      · subst k0; rw [if_pos (by omega), treC_0]; rfl
      · rw [if_neg (by omega), ← hz]
        by_cases k4 : k = 514
        · subst k4; rw [treC_root, treC_root]
        · rw [Array.getElem?_eq_none (by rw [treC_size]; omega), Array.getElem?_eq_none (by rw [treC_size]; omega)]

theorem wpList_build {P : Program} {ops : Array Oper} {rest : List Oper} {o : Oper} {a : Act} {w : World} {Q : Exit → Act → World → Prop} (hgd : o.guard = none) (t : TypeId) (parts : Array (Nat × Operand)) (ho : o.op = .build t parts) (cells : Array Value)
    (hf : P.built t (parts.map fun (i, x) => (i, a.eval x)).toList = some cells) (h : wpList P ops Q rest (a.put o.dst (.agg cells)) w) : wpList P ops Q (o :: rest) a w := by
  refine wpList_plain hgd fun K hK => ?_
  unfold Oper.wp
  rw [exec_build t parts ho cells hf]
  exact hK _ _ h

end Go.Proofs.YtopihgmemnokkaaGreat

namespace Go.Proofs.YtopihgmemnokkaaGreat
open Go.RowKit

theorem rowR_congr {g h : Nat → Nat × Nat} (e : ∀ c, c < 256 → g c = h c) : rowR g = rowR h := by
  unfold rowR
  apply Array.map_congr_left
  intro i hi
  have : i < 512 := by simpa using hi
  rw [e (i / 2) (by omega)]
/-- codes, and none beyond -/
def capR (G : Nat → Nat × Nat) (c : Nat) : Nat × Nat := if c < 256 then G c else (0, 0)
theorem capR_lt (G : Nat → Nat × Nat) {c : Nat} (h : c < 256) : capR G c = G c := by unfold capR; rw [if_pos h]
theorem capR_cod {f : Nat → Nat} {G : Nat → Nat × Nat} (h : CodesOf f G) (hd : Codes f (fun c => bl (G c))) : Cod (capR G) := by
  have hpos : ∀ c, c < 256 → 0 < (G c).1 → 0 < f c := fun c hc hp => by
    rcases Nat.eq_zero_or_pos (f c) with h0 | h0
    · have := congrArg List.length (hd.none c hc h0)
      rw [bl_len] at this
      simp at this; omega
    · exact h0
  refine ⟨fun c => ?_, fun c => ?_, fun c d hc hd' hp hq hx => ?_⟩
  · unfold capR
    split
    · next h1 => have := hd.len c h1; rw [bl_len] at this; exact this
    · simp
  · unfold capR
    split
    · exact codes_small h c
    · simp
  · rw [capR_lt G hc] at hp hx
    rw [capR_lt G hd'] at hq hx
    rcases Nat.decEq c d with hne | he
    · exact absurd hx (hd.free c d hc hd' hne (hpos c hc hp) (hpos d hd' hq))
    · exact he
theorem capR_live {f : Nat → Nat} {G : Nat → Nat × Nat} (hd : Codes f (fun c => bl (G c))) {c : Nat} (hc : c < 256) : 0 < (capR G c).1 ↔ 0 < f c := by
  rw [capR_lt G hc]
  constructor
  · intro hp
    rcases Nat.eq_zero_or_pos (f c) with h0 | h0
    · have := congrArg List.length (hd.none c hc h0)
      rw [bl_len] at this
      simp at this; omega
    · exact h0
  · intro h
    have := hd.some c hc h
    rcases Nat.eq_zero_or_pos (G c).1 with h0 | h0
    · exact absurd (List.length_eq_zero_iff.1 (by rw [bl_len]; exact h0)) this
    · exact h0

/-- a tree's block -/
def TreB (w : World) (T n : Nat) (G : Nat → Nat × Nat) (mv rv : Value) : Prop := w.heap[T]? = some (.cells (treC n G mv rv) 119 (0, 0))
def MadB (w : World) (M : Nat) (G : Nat → Nat × Nat) : Prop := w.heap[M]? = some (.cells (rowR G) 115 (0, 0))

/-- what tree.Of leaves -/
def OfPost (s : ByteArray) (w : World) (e : Ending) (w' : World) : Prop :=
  ∃ (G : Nat → Nat × Nat) (r : Nat) (root : Value) (F : Nat → Prop), e = .returned (.agg (treC s.size G (.map (some r)) root)) ∧ Cod G ∧ (∀ c, c < 256 → (0 < (G c).1 ↔ ∃ i, i < s.size ∧ BY s i = c)) ∧ Byt w' r G 256 ∧ w.heap.size ≤ r ∧
    BTree w.heap.size 64 w' root (Wv.waysOf (fun c => bl (G c)) (BY s) s.size) F ∧ Below w.heap.size w w'

theorem run_makeMap (t : TypeId) (w : World) : (Instr.makeMap t none).run Tryz.prog w = .ok (.map (some w.heap.size)) (w.alloc (.map #[] 0)) := by
  simp [Instr.makeMap, newObj, Result.andThen]
  rfl

theorem cntB_pos (s : ByteArray) (c : Nat) : 0 < cntB s s.size c ↔ ∃ i, i < s.size ∧ BY s i = c := by
  unfold cntB
  constructor
  · intro h
    rcases Classical.em (∃ i, i < s.size ∧ BY s i = c) with h1 | h1
    · exact h1
    · have : (Cc.cn s.size fun j => decide (BY s j = c)) = 0 := Cc.cn_zero fun i hi => by
        simp; intro e; exact h1 ⟨i, hi, e⟩
      omega
  · rintro ⟨i, hi, he⟩
    have := Cc.cn_lt_bound (P := fun j => decide (BY s j = c)) hi (by simpa using he)
    omega

end Go.Proofs.YtopihgmemnokkaaGreat

namespace Go.Proofs.YtopihgmemnokkaaGreat
open Go.RowKit

set_option maxRecDepth 100000 in
set_option maxHeartbeats 2000000 in
theorem cbytes_any (G : Nat → Nat × Nat) (w : World) (hG : Sized G) : Calls Tryz.prog 156 #[.agg (rowR G)] w fun e w' => ∃ r, e = .returned (.map (some r)) ∧ Byt w' r G 256 ∧ w.heap.size < r ∧ Below w.heap.size w w' := by
  have hmm := run_makeMap 116
  have hM0 : MadB ((w.alloc (.cells (rowR G) 115)).alloc (.map #[] 0)) w.heap.size G := by
    unfold MadB
    rw [Below.heap_alloc _ _ _ (by simp)]; exact heap_alloc_new _ _
  have hY0 : Byt ((w.alloc (.cells (rowR G) 115)).alloc (.map #[] 0)) (w.heap.size + 1) G 0 :=
    ⟨#[], 0, heap_alloc_new' _ _ (by simp), fun e he => by simp at he, fun c hc => by omega⟩
  have hB0 : Below w.heap.size w ((w.alloc (.cells (rowR G) 115)).alloc (.map #[] 0)) := ((Below.refl _ _).alloc (Nat.le_refl _) _).alloc (by simp) _
  have hz0 : ((w.alloc (.cells (rowR G) 115)).alloc (.map #[] 0)).heap.size = w.heap.size + 2 := by simp
  have H0 : Hid (Byt ((w.alloc (.cells (rowR G) 115)).alloc (.map #[] 0)) (w.heap.size + 1) G 0) := hY0
  have HB0 : Hid (Below w.heap.size w ((w.alloc (.cells (rowR G) 115)).alloc (.map #[] 0))) := hB0
  have HG : Hid (Sized G) := hG
  clear hY0 hB0 hG
  go_enter Tryz.func156, Tryz.ntmps156
  go_wp2_with (first
    | (refine wpList_load_row rfl 115 _ rfl w.heap.size rfl 115 (rowR G) (0, 0) _ (by exact hM0) Tryz.underlying115 rfl (by rw [size_rowR]; exact size512) ?_)
    | fail)
  generalize (w.alloc (.cells (rowR G) 115)).alloc (.map #[] 0) = w0 at *
  clear hM0 hmm
  go_loopw [4, 5, 8] (fun _ _ i wr => ∃ p : Nat, p ≤ 256 ∧ i = .int .i64 p ∧ Hid (Byt wr (w.heap.size + 1) G p) ∧ Hid (Below w.heap.size w wr) ∧ w.heap.size + 2 ≤ wr.heap.size) (fun _ _ i _ => 256 - (intOf i).toNat)
  case atStart => exact ⟨0, by omega, rfl, H0, HB0, by omega⟩
  case round =>
    clear H0 HB0 hz0
    obtain ⟨p, hp, rfl, H, hB, hz⟩ := hrel
    by_cases hlt : p < 256
    · have hix := run_ix_run G p hlt
      have hal : Below wr.heap.size wr (wr.alloc (.cells #[.int .i64 ((G p).1 : Nat), .int .u64 ((G p).2 : Nat)] 114)) := (Below.refl _ _).alloc (Nat.le_refl _) _
      have hY1 := H.out.keep (Kept.of_below hal (Nat.le_refl _) (fun _ => False)) (fun h => h)
      have hB1 : Below w.heap.size w (wr.alloc (.cells #[.int .i64 ((G p).1 : Nat), .int .u64 ((G p).2 : Nat)] 114)) := hB.out.trans (hal.mono hB.out.size)
      by_cases hp0 : 0 < (G p).1
      · have hgt : (0 : Int) < ((G p).1 : Nat) := by omega
        obtain ⟨w5, hmu, hY5, hK5, hz5⟩ := hY1.put HG.out hp0
        have H5 : Hid (Byt w5 (w.heap.size + 1) G (p + 1)) := hY5
        have HB5 : Hid (Below w.heap.size w w5) := hK5.bel hB1 (Nat.le_refl _) (fun k hk => by omega)
        unfold runV at hmu
        have hpi : (p : Int) < 256 := by omega
        simp only [World.size_alloc] at hz5
        clear hal hY1 hB1 hY5 hK5 H
        go_wp2
        exact ⟨⟨p + 1, by omega, by go_num, H5, HB5, by omega⟩, by simp [intOf]; omega⟩
      · have hgt : ¬ (0 : Int) < ((G p).1 : Nat) := by omega
        have H5 : Hid (Byt (wr.alloc (.cells #[.int .i64 ((G p).1 : Nat), .int .u64 ((G p).2 : Nat)] 114)) (w.heap.size + 1) G (p + 1)) := hY1.skip (by omega)
        have HB5 : Hid (Below w.heap.size w (wr.alloc (.cells #[.int .i64 ((G p).1 : Nat), .int .u64 ((G p).2 : Nat)] 114))) := hB1
        clear hal hY1 hB1 H
        go_wp2
        exact ⟨⟨p + 1, by omega, by go_num, H5, HB5, by simp; omega⟩, by simp [intOf]; omega⟩
    · have hp2 : p = 256 := by omega
      subst hp2
      have c256 : ((256 : Nat) : Int) = 256 := rfl
      rw [c256]
      go_wp2
      go_ret
      exact ⟨w.heap.size + 1, rfl, H.out, by omega, hB.out⟩

end Go.Proofs.YtopihgmemnokkaaGreat

namespace Go.Proofs.YtopihgmemnokkaaGreat
open Go.RowKit

set_option maxRecDepth 100000 in
set_option maxHeartbeats 4000000 in
theorem treeOf_any (s : ByteArray) (w : World) (hs : s.size ≤ 1000) : Calls Tryz.prog 122 #[.string s] w (OfPost s w) := by
  have hfle : ∀ c, cntB s s.size c ≤ 1000 := fun c => Nat.le_trans (Cc.cn_le _ _) hs
  have hw : ∀ t, (Hf.bytes t).Nodup → (∀ c ∈ Hf.bytes t, c < 256) → Hf.wt (cntB s s.size) t ≤ 1000 := fun t hn _ => by
    rw [wt_list]; exact Nat.le_trans (cnt_list s s.size _ hn) hs
  have hcnt := fun W => count_any s W hs
  have hof := fun W => of_any (cntB s s.size) W hw (fun c => by have := hfle c; omega)
  have HOF : Hid _ := hof
  have HW : Hid _ := hw
  have hR0 : TreB (w.alloc (.cells (treC 0 (fun _ => (0, 0)) (.map none) (.pointer none)) 119)) w.heap.size 0 (fun _ => (0, 0)) (.map none) (.pointer none) := heap_alloc_new _ _
  have hal : Below w.heap.size w (w.alloc (.cells (treC 0 (fun _ => (0, 0)) (.map none) (.pointer none)) 119)) := (Below.refl _ _).alloc (Nat.le_refl _) _
  have hz0 : (w.alloc (.cells (treC 0 (fun _ => (0, 0)) (.map none) (.pointer none)) 119)).heap.size = w.heap.size + 1 := by simp
  clear hfle hw hof
  go_enter Tryz.func122, Tryz.ntmps122
  go_wp2_with (first
    | (refine wpList_alloc_row rfl 119 rfl _ zero515 ?_)
    | fail)
  generalize w.alloc (.cells (treC 0 (fun _ => (0, 0)) (.map none) (.pointer none)) 119) = w0 at *
  refine (hcnt _).mono ?_
  rintro e w1 ⟨rfl, hB1⟩
  have hR1 : TreB w1 w.heap.size 0 (fun _ => (0, 0)) (.map none) (.pointer none) := by unfold TreB at *; rw [hB1.block _ (by omega)]; exact hR0
  have hB1' : Below w.heap.size w w1 := hal.trans (hB1.mono (by omega))
  have hz1 := hB1.size
  have HB1 : Hid _ := hB1'
  have HR1 : Hid _ := hR1
  clear hcnt hR0 hal hB1 hB1' hR1
  generalize hf : cntB s s.size = f at *
  go_wp2_with fail
  refine (HOF.out w1).mono ?_
  rintro e w2 ⟨⟨G0, rfl, hG0⟩, hB2⟩
  have hcd := codes_of hG0 HW.out
  have HCOD : Hid (Cod (capR G0)) := capR_cod hG0 hcd
  have HLV : Hid (∀ c, c < 256 → (0 < (capR G0 c).1 ↔ ∃ i, i < s.size ∧ BY s i = c)) := fun c hc => by
    rw [capR_live hcd hc, ← hf]; exact cntB_pos s c
  have hrow : rowR G0 = rowR (capR G0) := rowR_congr fun c hc => (capR_lt G0 hc).symm
  rw [hrow]
  generalize capR G0 = G at *
  have hR2 : TreB w2 w.heap.size 0 (fun _ => (0, 0)) (.map none) (.pointer none) := by have := HR1.out; unfold TreB at *; rw [hB2.block _ (by omega)]; exact this
  have hB2' : Below w.heap.size w w2 := HB1.out.trans (hB2.mono (by omega))
  have hz2 := hB2.size
  have HB2 : Hid _ := hB2'
  have HR2 : Hid _ := hR2
  clear HOF HW HR1 HB1 hB2 hB2' hR2 hcd hG0 hrow
  -- the worlds that follow
  have hM1 : (w2.alloc (.cells (rowR fun _ => (0, 0)) 115)).heap[w2.heap.size]? = some (.cells (rowR fun _ => (0, 0)) 115 (0, 0)) := heap_alloc_new _ _
  have hM2 : MadB ((w2.alloc (.cells (rowR fun _ => (0, 0)) 115)).setRow w2.heap.size (rowR G)) w2.heap.size G := setRow_heap _ _ _ _ _ _ hM1
  have hz3 : ((w2.alloc (.cells (rowR fun _ => (0, 0)) 115)).setRow w2.heap.size (rowR G)).heap.size = w2.heap.size + 1 := by simp
  have hB3 : Below w.heap.size w ((w2.alloc (.cells (rowR fun _ => (0, 0)) 115)).setRow w2.heap.size (rowR G)) := below_setRow (HB2.out.alloc (by omega) _) (by omega) _
  have hR3 : TreB ((w2.alloc (.cells (rowR fun _ => (0, 0)) 115)).setRow w2.heap.size (rowR G)) w.heap.size 0 (fun _ => (0, 0)) (.map none) (.pointer none) := by
    unfold TreB
    rw [Go.setRow_other _ _ _ _ (by omega), Below.heap_alloc _ _ _ (by omega)]; exact HR2.out
  generalize hw3 : (w2.alloc (.cells (rowR fun _ => (0, 0)) 115)).setRow w2.heap.size (rowR G) = w3 at *
  have HW3 : Hid ((w2.alloc (.cells (rowR fun _ => (0, 0)) 115)).setRow w2.heap.size (rowR G) = w3) := hw3
  have HM2 : Hid (MadB w3 w2.heap.size G) := hM2
  have HB3 : Hid (Below w.heap.size w w3) := hB3
  have HR3 : Hid (TreB w3 w.heap.size 0 (fun _ => (0, 0)) (.map none) (.pointer none)) := hR3
  have hwM : w.heap.size < w2.heap.size := by omega
  clear hw3 hM2 hB3 hR3 HR2 HB2
  go_wp2_with (first
    | (refine wpList_alloc_row rfl 115 rfl _ zero512 ?_)
    | (refine wpList_store_row rfl 115 _ _ rfl w2.heap.size (rowR G) rfl rfl 115 (rowR fun _ => (0, 0)) (by exact hM1) (by rw [size_rowR]; exact size512) (by simp only [size_rowR]) (rowR_one _) ?_; rw [HW3.out])
    | fail)
  have hS3 : w3.drew.heap[w2.heap.size]? = some (.cells (rowR G) 115 (0, 0)) := HM2.out
  refine wp_region_held_drew (S := fun w' => w'.heap[w2.heap.size]? = some (.cells (rowR G) 115 (0, 0))) (by kernel_rfl) hS3 (fun _ => ?_)
  refine wpAnyH_take (i := 0) (v := .string s) rfl (by kernel_rfl) (by kernel_rfl) (by kernel_rfl) (fun _ _ _ h => h) (Or.inl ⟨by rfl, ?_⟩) hS3 ?_
  · intro wq hq; clear hq; go_simp
  simp only [Act.put, List.setIfInBounds_toArray]
  refine wpAnyH_take (i := 1) (v := .int .i64 (s.size : Int)) rfl (by kernel_rfl) (by kernel_rfl) (by kernel_rfl) (fun _ _ _ h => h) (Or.inl ⟨by rfl, ?_⟩) hS3 ?_
  · intro wq hq; clear hq; go_simp
  simp only [Act.put]
  refine wpAnyH_take (i := 2) (v := .agg (rowR G)) rfl (by kernel_rfl) (by kernel_rfl) (by kernel_rfl) (fun _ _ _ h => h) (Or.inl ⟨by rfl, ?_⟩) hS3 ?_
  · intro wq hq; exact exec_load_row 115 (.tmp 3) rfl w2.heap.size rfl 115 (rowR G) (0, 0) _ hq Tryz.underlying115 rfl (by rw [size_rowR]; exact size512)
  simp only [Act.put]
  refine wpAnyH_take (i := 3) (v := .agg (rowR G)) rfl (by kernel_rfl) (by kernel_rfl) (by kernel_rfl) (fun _ _ _ h => h) (Or.inl ⟨by rfl, ?_⟩) hS3 ?_
  · intro wq hq; exact exec_load_row 115 (.tmp 3) rfl w2.heap.size rfl 115 (rowR G) (0, 0) _ hq Tryz.underlying115 rfl (by rw [size_rowR]; exact size512)
  simp only [Act.put]
  refine wpAnyH_ready (rs := [4, 6]) (by kernel_rfl) (by simp) ?_
  refine AllReadyH.cons rfl (fun K hK => ?wayA) (AllReadyH.cons rfl (fun K hK => ?wayB) AllReadyH.nil)
  case' wayA =>
    go_simp
    refine (cbytes_any G _ HCOD.out.sized).mono ?_
    rintro e w5 ⟨r, rfl, hY5, hr5, hB5⟩
    have hz5 := hB5.size
    have hr5' := hY5.lt
    have ez : w3.drew.heap.size = w3.heap.size := rfl
    rw [ez] at hr5 hz5 hB5
    have hS5 : w5.heap[w2.heap.size]? = some (.cells (rowR G) 115 (0, 0)) := by rw [hB5.block _ (by omega)]; exact HM2.out
    refine hK.out _ _ hS5 (fun _ => ?_)
    clear hK K
    refine wpAnyH_take (i := 5) (v := .agg (treC s.size G (.map (some r)) (.pointer none))) rfl (by kernel_rfl) (by kernel_rfl) (by kernel_rfl) (fun _ _ _ h => h) (Or.inl ⟨by rfl, ?_⟩) hS5 ?_
    · intro wq hq; clear hq; refine exec_build 119 _ rfl _ ?_; have hbs := built_tree s.size G (.map (some r)) rfl; simpa [Act.eval] using hbs
    simp only [Act.put, List.setIfInBounds_toArray]
    refine wpAnyH_ready (rs := [6]) (by kernel_rfl) (by simp) ?_
    refine AllReadyH.cons rfl (fun K hK => ?_) AllReadyH.nil
    rw [if_pos (by rfl)]
    refine wp_alloc_row 119 rfl _ zero515 ?_
    simp only [Act.put]
    have hS6 : (w5.alloc (.cells (treC 0 (fun _ => (0, 0)) (.map none) (.pointer none)) 119)).heap[w2.heap.size]? = some (.cells (rowR G) 115 (0, 0)) := by rw [Below.heap_alloc _ _ _ (by omega)]; exact hS5
    refine hK.out _ _ hS6 (fun _ => ?_)
    clear hK K
    refine wpAnyH_ready (rs := [7]) (by kernel_rfl) (by simp) ?_
    refine AllReadyH.cons rfl (fun K hK => ?_) AllReadyH.nil
    rw [if_pos (by rfl)]
    refine wp_store_row 119 (.tmp 4) (.tmp 14) rfl w5.heap.size (treC s.size G (.map (some r)) (.pointer none)) rfl rfl 119 (treC 0 (fun _ => (0, 0)) (.map none) (.pointer none)) (heap_alloc_new _ _) (by rw [treC_size]; exact size515) (by simp only [treC_size]) (treC_one _ _ rfl rfl) ?_
    simp only [Act.put]
    have hal : Below w5.heap.size w5 ((w5.alloc (.cells (treC 0 (fun _ => (0, 0)) (.map none) (.pointer none)) 119)).setRow w5.heap.size (treC s.size G (.map (some r)) (.pointer none))) := below_setRow ((Below.refl _ _).alloc (Nat.le_refl _) _) (Nat.le_refl _) _
    have hS7 : ((w5.alloc (.cells (treC 0 (fun _ => (0, 0)) (.map none) (.pointer none)) 119)).setRow w5.heap.size (treC s.size G (.map (some r)) (.pointer none))).heap[w2.heap.size]? = some (.cells (rowR G) 115 (0, 0)) := by rw [hal.block _ (by omega)]; exact hS5
    refine hK.out _ _ hS7 (fun _ => ?_)
    clear hK K
    have hT4 : TreB ((w5.alloc (.cells (treC 0 (fun _ => (0, 0)) (.map none) (.pointer none)) 119)).setRow w5.heap.size (treC s.size G (.map (some r)) (.pointer none))) w5.heap.size s.size G (.map (some r)) (.pointer none) := setRow_heap _ _ _ _ _ _ (heap_alloc_new _ _)
    have hB4 : Below w.heap.size w ((w5.alloc (.cells (treC 0 (fun _ => (0, 0)) (.map none) (.pointer none)) 119)).setRow w5.heap.size (treC s.size G (.map (some r)) (.pointer none))) := ((HB3.out.drew).trans (hB5.mono (by omega))).trans (hal.mono (by omega))
    have hY4 := hY5.keep (Kept.of_below hal (Nat.le_refl _) (fun _ => False)) (fun h => h)
    have hR4 : TreB ((w5.alloc (.cells (treC 0 (fun _ => (0, 0)) (.map none) (.pointer none)) 119)).setRow w5.heap.size (treC s.size G (.map (some r)) (.pointer none))) w.heap.size 0 (fun _ => (0, 0)) (.map none) (.pointer none) := by
      unfold TreB
      rw [hal.block _ (by omega), hB5.block _ (by omega)]; exact HR3.out
    have hz4 : ((w5.alloc (.cells (treC 0 (fun _ => (0, 0)) (.map none) (.pointer none)) 119)).setRow w5.heap.size (treC s.size G (.map (some r)) (.pointer none))).heap.size = w5.heap.size + 1 := by simp
    have hnT : r ≠ w5.heap.size ∧ w2.heap.size < w5.heap.size ∧ w2.heap.size < r := ⟨by omega, by omega, by omega⟩
    generalize (w5.alloc (.cells (treC 0 (fun _ => (0, 0)) (.map none) (.pointer none)) 119)).setRow w5.heap.size (treC s.size G (.map (some r)) (.pointer none)) = w4 at *
    have HM4 : MadB w4 w2.heap.size G := hS7
    generalize hTT : w5.heap.size = T at *
    have hL4 : T < w4.heap.size ∧ r < w4.heap.size := ⟨by omega, by omega⟩
    clear hal hS5 hS6 hS7 hS3 hB5 hY5 hr5 hr5' hz5 hTT ez
    refine wpAnyH_done (by kernel_rfl) ?_ _
  case' wayB =>
    rw [if_pos (by rfl)]
    refine wp_alloc_row 119 rfl _ zero515 ?_
    simp only [Act.put]
    have ez : w3.drew.heap.size = w2.heap.size + 1 := hz3
    have hal : Below w3.heap.size w3 (w3.drew.alloc (.cells (treC 0 (fun _ => (0, 0)) (.map none) (.pointer none)) 119)) := ((Below.refl _ _).drew).alloc (by simp) _
    have hS5 : (w3.drew.alloc (.cells (treC 0 (fun _ => (0, 0)) (.map none) (.pointer none)) 119)).heap[w2.heap.size]? = some (.cells (rowR G) 115 (0, 0)) := by rw [hal.block _ (by omega)]; exact HM2.out
    refine hK.out _ _ hS5 (fun _ => ?_)
    clear hK K
    have hT5 : TreB (w3.drew.alloc (.cells (treC 0 (fun _ => (0, 0)) (.map none) (.pointer none)) 119)) (w2.heap.size + 1) 0 (fun _ => (0, 0)) (.map none) (.pointer none) := heap_alloc_new' _ _ hz3
    have hR5 : TreB (w3.drew.alloc (.cells (treC 0 (fun _ => (0, 0)) (.map none) (.pointer none)) 119)) w.heap.size 0 (fun _ => (0, 0)) (.map none) (.pointer none) := by
      unfold TreB
      rw [hal.block _ (by omega)]; exact HR3.out
    have hzz : (w3.drew.alloc (.cells (treC 0 (fun _ => (0, 0)) (.map none) (.pointer none)) 119)).heap.size = w2.heap.size + 1 + 1 := by simp; omega
    have hB5 : Below w.heap.size w (w3.drew.alloc (.cells (treC 0 (fun _ => (0, 0)) (.map none) (.pointer none)) 119)) := HB3.out.trans (hal.mono (by omega))
    rw [ez]
    generalize w3.drew.alloc (.cells (treC 0 (fun _ => (0, 0)) (.map none) (.pointer none)) 119) = w5 at *
    refine wpAnyH_ready (rs := [4]) (by kernel_rfl) (by simp) ?_
    refine AllReadyH.cons rfl (fun K hK => ?_) AllReadyH.nil
    go_simp
    refine (cbytes_any G _ HCOD.out.sized).mono ?_
    rintro e w6 ⟨r, rfl, hY6, hr6, hB6⟩
    have hz6 := hB6.size
    have hr6' := hY6.lt
    have hS6 : w6.heap[w2.heap.size]? = some (.cells (rowR G) 115 (0, 0)) := by rw [hB6.block _ (by omega)]; exact hS5
    refine hK.out _ _ hS6 (fun _ => ?_)
    clear hK K
    refine wpAnyH_take (i := 5) (v := .agg (treC s.size G (.map (some r)) (.pointer none))) rfl (by kernel_rfl) (by kernel_rfl) (by kernel_rfl) (fun _ _ _ h => h) (Or.inl ⟨by rfl, ?_⟩) hS6 ?_
    · intro wq hq; clear hq; refine exec_build 119 _ rfl _ ?_; have hbs := built_tree s.size G (.map (some r)) rfl; simpa [Act.eval] using hbs
    simp only [Act.put, List.setIfInBounds_toArray]
    refine wpAnyH_ready (rs := [7]) (by kernel_rfl) (by simp) ?_
    refine AllReadyH.cons rfl (fun K hK => ?_) AllReadyH.nil
    rw [if_pos (by rfl)]
    have hT6 : TreB w6 (w2.heap.size + 1) 0 (fun _ => (0, 0)) (.map none) (.pointer none) := by unfold TreB at *; rw [hB6.block _ (by omega)]; exact hT5
    refine wp_store_row 119 (.tmp 4) (.tmp 14) rfl (w2.heap.size + 1) (treC s.size G (.map (some r)) (.pointer none)) rfl rfl 119 (treC 0 (fun _ => (0, 0)) (.map none) (.pointer none)) (by exact hT6) (by rw [treC_size]; exact size515) (by simp only [treC_size]) (treC_one _ _ rfl rfl) ?_
    simp only [Act.put]
    have hks : Kept (fun k => k = (w2.heap.size + 1)) w6 (w6.setRow (w2.heap.size + 1) (treC s.size G (.map (some r)) (.pointer none))) := ⟨rfl, rfl, rfl, by simp, fun k _ hn => Go.setRow_other w6 (w2.heap.size + 1) k _ hn⟩
    have hS7 : (w6.setRow (w2.heap.size + 1) (treC s.size G (.map (some r)) (.pointer none))).heap[w2.heap.size]? = some (.cells (rowR G) 115 (0, 0)) := by rw [hks.block _ (by omega) (by omega)]; exact hS6
    refine hK.out _ _ hS7 (fun _ => ?_)
    clear hK K
    have hT4 : TreB (w6.setRow (w2.heap.size + 1) (treC s.size G (.map (some r)) (.pointer none))) (w2.heap.size + 1) s.size G (.map (some r)) (.pointer none) := setRow_heap _ _ _ _ _ _ hT6
    have hB4 : Below w.heap.size w (w6.setRow (w2.heap.size + 1) (treC s.size G (.map (some r)) (.pointer none))) := below_setRow (hB5.trans (hB6.mono (by omega))) (by omega) _
    have hY4 := hY6.keep hks (by omega)
    have hR4 : TreB (w6.setRow (w2.heap.size + 1) (treC s.size G (.map (some r)) (.pointer none))) w.heap.size 0 (fun _ => (0, 0)) (.map none) (.pointer none) := by
      unfold TreB at *
      rw [hks.block _ (by omega) (by omega), hB6.block _ (by omega)]; exact hR5
    have hz4 : (w6.setRow (w2.heap.size + 1) (treC s.size G (.map (some r)) (.pointer none))).heap.size = w6.heap.size := by simp
    have hnT : r ≠ (w2.heap.size + 1) ∧ w2.heap.size < (w2.heap.size + 1) ∧ w2.heap.size < r := ⟨by omega, by omega, by omega⟩
    generalize w6.setRow (w2.heap.size + 1) (treC s.size G (.map (some r)) (.pointer none)) = w4 at *
    have HM4 : MadB w4 w2.heap.size G := hS7
    generalize hTT : w2.heap.size + 1 = T at *
    have hL4 : T < w4.heap.size ∧ r < w4.heap.size := ⟨by omega, by omega⟩
    clear hal hS5 hS6 hS7 hS3 hB5 hB6 hY6 hr6 hr6' hz6 hTT hks hT5 hT6 hR5 hzz ez
    refine wpAnyH_done (by kernel_rfl) ?_ _
  all_goals
    have HQ : Hid (Byt w4 r G 256 ∧ MadB w4 w2.heap.size G ∧ TreB w4 w.heap.size 0 (fun _ => (0, 0)) (.map none) (.pointer none)) := ⟨hY4, HM4, hR4⟩
    have HT0 : Hid (TreB w4 T s.size G (.map (some r)) (.pointer none)) := hT4
    have HB4 : Hid (Below w.heap.size w w4) := hB4
    have HBT0 : Hid (BTree w.heap.size 64 w4 (.pointer none) (Wv.waysOf (fun c => bl (G c)) (BY s) 0) (fun _ => False)) := BTree.empty (fun x hx => by simp [Wv.waysOf] at hx)
    obtain ⟨n1, n2, n3⟩ := hnT
    obtain ⟨l1, l2⟩ := hL4
    obtain ⟨L, hL⟩ : ∃ L, w4.heap.size = L := ⟨_, rfl⟩
    rw [hL] at l1 l2
    clear hY4 HM4 hR4 hT4 hB4 hM1 HW3 HM2 HB3 HR3 hz3 hz4 hz0 hz1 hz2 hf G0 w0 w1
    generalize w2.heap.size = M at *
    go_wp2
    go_loopw [17] (fun i wq => ∃ (q : Nat) (root : Value) (F : Nat → Prop), q ≤ s.size ∧ i = .int .i64 q ∧ Hid (Byt wq (r) G 256 ∧ MadB wq M G ∧ TreB wq w.heap.size 0 (fun _ => (0, 0)) (.map none) (.pointer none)) ∧ Hid (TreB wq (T) s.size G (.map (some (r))) root) ∧ Hid (BTree w.heap.size 64 wq root (Wv.waysOf (fun c => bl (G c)) (BY s) q) F) ∧ Hid (∀ k, F k → L ≤ k) ∧ Hid (Below w.heap.size w wq) ∧ L ≤ wq.heap.size) (fun i _ => s.size - (intOf i).toNat)
    case atStart => exact ⟨0, .pointer none, fun _ => False, by omega, rfl, HQ, HT0, HBT0, fun _ h => h.elim, HB4, by omega⟩
    case round =>
      clear HQ HT0 HBT0 HB4
      obtain ⟨q, root, F, hq, rfl, HQ, HT, HBT, HF, hB, hz⟩ := hrel
      by_cases hlt3 : q < s.size
      · have hby := BY_le s q
        have hbv := BY_lt s hlt3
        obtain ⟨hY, hM, hR⟩ := HQ.out
        have e0 := cell_of hM (rowR_get0 G (c := BY s q) (by omega))
        have e1 := cell_of hM (rowR_get1 G (c := BY s q) (by omega))
        have hcall := tlay_any w.heap.size wr (T) _ _ root _ F (G (BY s q)).1 (G (BY s q)).2 HT.out (treC_root _ _ _ _) HBT.out (fun e => by have := HF.out _ e; omega) (by rw [Wv.waysOf_len]; omega) (HCOD.out.len _) (HCOD.out.sized _).2 hB.out.size
        have HC : Hid (Calls Tryz.prog 157 #[.pointer (some ⟨T, 0, none⟩), .agg #[.int .i64 ((G (BY s q)).1 : Nat), .int .u64 ((G (BY s q)).2 : Nat)]] wr fun e w' => e = .returned (.tuple #[]) ∧ Laid w.heap.size wr (T) (treC s.size G (.map (some (r))) root) 119 (Wv.waysOf (fun c => bl (G c)) (BY s) q) F (bl (G (BY s q))) w') := hcall
        have HSU := Wv.waysOf_succ (fun c => bl (G c)) (BY s) q
        have HSU' : Hid _ := HSU
        rw [hbv] at e0 e1 HC hby
        rw [hbv] at HSU'
        have hx : (s[q].toNat : Int) < 256 := by omega
        clear hcall hbv hby hY hM hR HSU
        go_wp2_with fail
        refine HC.out.mono ?_
        rintro e w6 ⟨rfl, v', F', g1, g2, g3, g4⟩
        rw [treC_set] at g1
        have hz6 := g3.size
        have hnF : ∀ k, k < L → k ≠ T → ¬ (k = T ∨ F k) := fun k hk hk2 h => by
          rcases h with h | h
          · omega
          · have := HF.out k h; omega
        obtain ⟨hY, hM, hR⟩ := HQ.out
        have HQ6 : Hid (Byt w6 (r) G 256 ∧ MadB w6 M G ∧ TreB w6 w.heap.size 0 (fun _ => (0, 0)) (.map none) (.pointer none)) := by
          refine ⟨hY.keep g3 (hnF _ (by omega) (by omega)), ?_, ?_⟩
          · unfold MadB at *; rw [g3.block _ (by omega) (hnF _ (by omega) (by omega))]; exact hM
          · unfold TreB at *; rw [g3.block _ (by omega) (hnF _ (by omega) (by omega))]; exact hR
        have HT6 : Hid (TreB w6 (T) s.size G (.map (some (r))) v') := g1
        have HBT6 : Hid (BTree w.heap.size 64 w6 v' (Wv.waysOf (fun c => bl (G c)) (BY s) (q + 1)) F') := by
          show BTree _ _ _ _ _ _
          rw [HSU'.out]; exact g2
        have HF6 : Hid (∀ k, F' k → L ≤ k) := fun k hk => by
          rcases g4 k hk with h | h
          · exact HF.out k h
          · omega
        have HB6 : Hid (Below w.heap.size w w6) := g3.bel hB.out (Nat.le_refl _) (fun k hk => by
          rcases hk with h | h
          · omega
          · have := HF.out k h; omega)
        clear g1 g2 g3 g4 hnF hY hM hR HC HSU' HQ HT HBT HF hB
        go_wp2
        exact ⟨⟨q + 1, v', F', by omega, by go_num, HQ6, HT6, HBT6, HF6, HB6, by omega⟩, by simp [intOf]; omega⟩
      · have hq2 : q = s.size := by omega
        subst hq2
        obtain ⟨hY, hM, hR⟩ := HQ.out
        have hrv : root.oneCell' = true := by
          rcases HBT.out with h1 | ⟨b, _, _, _, _, _, _, h1, _⟩
          · rw [h1.1]; rfl
          · rw [h1]; rfl
        have hone : (treC s.size G (.map (some (r))) root).all (·.oneCell') = true := treC_one _ _ rfl hrv
        go_wp2_with (first
          | (refine wpList_load_row rfl 119 _ rfl (T) rfl 119 (treC s.size G (.map (some (r))) root) (0, 0) _ (by exact HT.out) Tryz.underlying119 rfl (by rw [treC_size]; exact size515) ?_)
          | (refine wpList_store_row rfl 119 _ _ rfl w.heap.size (treC s.size G (.map (some (r))) root) rfl rfl 119 (treC 0 (fun _ => (0, 0)) (.map none) (.pointer none)) (by exact hR) (by rw [treC_size]; exact size515) (by simp only [treC_size]) hone ?_))
        have hks : Kept (fun k => k = w.heap.size) wr (wr.setRow w.heap.size (treC s.size G (.map (some (r))) root)) := ⟨rfl, rfl, rfl, by simp, fun k _ hn => Go.setRow_other wr w.heap.size k _ hn⟩
        refine bodyPost_ret (results_cell_row Tryz.results122 _ _ w.heap.size 119 (treC s.size G (.map (some (r))) root) (0, 0) _ rfl (setRow_heap _ _ _ _ _ _ hR) Tryz.underlying119 rfl (by rw [treC_size]; exact size515)) rfl ?_
        exact ⟨G, r, root, F, rfl, HCOD.out, HLV.out, hY.keep hks (by omega), by omega, HBT.out.keep hks (fun k hk e => by have := HF.out k hk; omega), below_setRow hB.out (Nat.le_refl _) _⟩


end Go.Proofs.YtopihgmemnokkaaGreat

namespace Go.Proofs.YtopihgmemnokkaaGreat
open Go.RowKit

/-- a row of 256 values -/
def rowV (f : Nat → Value) : Array Value := (Array.range 256).map f
def putV (f : Nat → Value) (c : Nat) (v : Value) : Nat → Value := fun d => if d = c then v else f d
theorem size_rowV (f : Nat → Value) : (rowV f).size = 256 := by simp [rowV]
theorem rowV_get (f : Nat → Value) {c : Nat} (h : c < 256) : (rowV f)[c]? = some (f c) := by simp [rowV, h]
theorem rowV_set (f : Nat → Value) (c : Nat) (v : Value) : (rowV f).setIfInBounds c v = rowV (putV f c v) := by
  apply Array.ext_getElem?
  intro j
  rw [Array.getElem?_setIfInBounds, size_rowV]
  by_cases hj : j < 256
  · rw [rowV_get _ hj, rowV_get _ hj]
    by_cases e : c = j
    · subst e; simp [hj, putV]
    · have e' : ¬ j = c := fun x => e x.symm
      rw [if_neg e]; simp [putV, e']
  · have h1 : ∀ g, (rowV g)[j]? = none := fun g => Array.getElem?_eq_none (by rw [size_rowV]; omega)
    rw [h1, h1]
    by_cases e : c = j
    · subst e; simp [hj]
    · rw [if_neg e]
/-- what is found of every byte -/
def FoundAt (w : World) (fb : Nat) (vf : Nat → Value) (rf : Nat → List (Nat × Nat)) : Prop :=
  w.heap[fb]? = some (.cells (rowV vf) 216 (0, 0)) ∧ ∀ c, c < 256 → RgAt w (vf c) (rf c) ∧ ∀ g, (vf c).ownBlock = some g → fb < g
theorem FoundAt.keep {P : Nat → Prop} {w w' : World} {fb : Nat} {vf : Nat → Value} {rf : Nat → List (Nat × Nat)} (h : FoundAt w fb vf rf) (hk : Kept P w w') (hn : ∀ k, ¬ P k) : FoundAt w' fb vf rf := by
  have hl : fb < w.heap.size := (Array.getElem?_eq_some_iff.1 h.1).1
  exact ⟨by rw [hk.block fb hl (hn fb)]; exact h.1, fun c hc => ⟨(h.2 c hc).1.keep hk (fun g _ => hn g), (h.2 c hc).2⟩⟩
theorem FoundAt.below {w w' : World} {fb : Nat} {vf : Nat → Value} {rf : Nat → List (Nat × Nat)} (h : FoundAt w fb vf rf) (hb : Below w.heap.size w w') : FoundAt w' fb vf rf :=
  h.keep (Kept.of_below hb (Nat.le_refl _) (fun _ => False)) (fun _ h => h)
theorem FoundAt.put {w : World} {fb : Nat} {vf : Nat → Value} {rf : Nat → List (Nat × Nat)} (h : FoundAt w fb vf rf) {c : Nat} {v : Value} {rs : List (Nat × Nat)} (hv : RgAt w v rs) (hb : ∀ g, v.ownBlock = some g → fb < g) :
    FoundAt (w.setCell ⟨fb, c, none⟩ v) fb (putV vf c v) (fun d => if d = c then rs else rf d) := by
  have hk : Kept (fun k => k = fb) w (w.setCell ⟨fb, c, none⟩ v) := (Kept.refl _ w).setCell (by rfl) _
  refine ⟨?_, fun d hd => ?_⟩
  · have := h.1
    rw [← rowV_set]
    simp [World.setCell, Array.getElem?_modify, this]
  · by_cases e : d = c
    · subst e
      simp only [putV, if_true]
      exact ⟨hv.keep hk (fun g hg e => by have := hb g hg; omega), hb⟩
    · simp only [putV, if_neg e]
      exact ⟨(h.2 d hd).1.keep hk (fun g hg e => by have := (h.2 d hd).2 g hg; omega), (h.2 d hd).2⟩

/-- what split tells of the bytes below a way -/
def Told (G : Nat → Nat × Nat) (W : List Bool) (Z : List (List Bool)) (L : List Nat) (rf rf' : Nat → List (Nat × Nat)) : Prop :=
  (∀ c, c < 256 → 0 < (G c).1 → ∀ y, y ≠ [] → bl (G c) = W ++ y → Wv.Pos (rf' c) ∧ Wv.flat (rf' c) = Wv.sel y Z L) ∧
  ∀ c, c < 256 → (∀ y, y ≠ [] → 0 < (G c).1 → bl (G c) ≠ W ++ y) → rf' c = rf c
/-- .. and of those of the first sides alone -/
def ToldTo (k : Nat) (G : Nat → Nat × Nat) (W : List Bool) (Z : List (List Bool)) (L : List Nat) (rf rf' : Nat → List (Nat × Nat)) : Prop :=
  (∀ c, c < 256 → 0 < (G c).1 → ∀ (b : Bool) y, b.toNat < k → bl (G c) = W ++ b :: y → Wv.Pos (rf' c) ∧ Wv.flat (rf' c) = Wv.sel (b :: y) Z L) ∧
  ∀ c, c < 256 → (∀ (b : Bool) y, b.toNat < k → 0 < (G c).1 → bl (G c) ≠ W ++ b :: y) → rf' c = rf c
theorem ToldTo.all {G : Nat → Nat × Nat} {W : List Bool} {Z : List (List Bool)} {L : List Nat} {rf rf' : Nat → List (Nat × Nat)} (h : ToldTo 2 G W Z L rf rf') : Told G W Z L rf rf' := by
  refine ⟨fun c hc hp y hy he => ?_, fun c hc hn => h.2 c hc fun b y _ hp he => hn (b :: y) (by simp) hp he⟩
  cases y with
  | nil => exact absurd rfl hy
  | cons b y => exact h.1 c hc hp b y (by cases b <;> decide) he
theorem ToldTo.zero (G : Nat → Nat × Nat) (W : List Bool) (Z : List (List Bool)) (L : List Nat) (rf : Nat → List (Nat × Nat)) : ToldTo 0 G W Z L rf rf :=
  ⟨fun c _ _ b y h => absurd h (by omega), fun _ _ _ => rfl⟩
theorem way_cancel {W : List Bool} {a b : Bool} {y z : List Bool} (h : W ++ a :: y = W ++ b :: z) : a = b ∧ y = z := by
  have := List.append_cancel_left h
  simpa using this
/-- a side that ends a code -/
theorem ToldTo.hit {k : Nat} {d : Bool} (hk : d.toNat = k) {G : Nat → Nat × Nat} {W : List Bool} {Z : List (List Bool)} {L : List Nat} {rf rf' : Nat → List (Nat × Nat)} (h : ToldTo k G W Z L rf rf') (hG : Cod G) {c0 : Nat} (hc0 : c0 < 256) (hp0 : 0 < (G c0).1) (he : bl (G c0) = W ++ [d])
    {rs : List (Nat × Nat)} (h1 : Wv.Pos rs) (h2 : Wv.flat rs = Wv.sel [d] Z L) : ToldTo (k + 1) G W Z L rf (fun c => if c = c0 then rs else rf' c) := by
  have key : ∀ c, c < 256 → 0 < (G c).1 → ∀ y, bl (G c) = W ++ d :: y → c = c0 ∧ y = [] := fun c hc hp y hy => by
    have : c0 = c := hG.free c0 c hc0 hc hp0 hp (by rw [he, hy]; exact ⟨y, by simp⟩)
    subst this
    rw [he] at hy
    exact ⟨rfl, (way_cancel hy).2.symm⟩
  have hbk : ∀ b : Bool, b.toNat < k + 1 → b.toNat < k ∨ b = d := fun b hb => by
    rcases Nat.lt_or_ge b.toNat k with h | h
    · exact .inl h
    · right
      have : b.toNat = d.toNat := by omega
      cases b <;> cases d <;> first | rfl | (simp at this)
  refine ⟨fun c hc hp b y hb hy => ?_, fun c hc hn => ?_⟩
  · rcases hbk b hb with hb' | rfl
    · have hne : c ≠ c0 := fun e => by
        subst e
        rw [he] at hy
        have := (way_cancel hy).1
        subst this; omega
      simp only [if_neg hne]
      exact h.1 c hc hp b y hb' hy
    · obtain ⟨rfl, rfl⟩ := key c hc hp y hy
      simp only [if_true]
      exact ⟨h1, h2⟩
  · have hne : c ≠ c0 := fun e => by
      subst e
      exact hn d [] (by omega) hp0 he
    simp only [if_neg hne]
    exact h.2 c hc fun b y hb => hn b y (by omega)
/-- a side below which there is more -/
theorem ToldTo.more {k : Nat} {d : Bool} (hk : d.toNat = k) {G : Nat → Nat × Nat} {W : List Bool} {Z : List (List Bool)} {L L' : List Nat} {rf rf1 rf2 : Nat → List (Nat × Nat)} (h : ToldTo k G W Z L rf rf1) (hm : ∀ c, c < 256 → 0 < (G c).1 → bl (G c) ≠ W ++ [d])
    (h1 : Told G (W ++ [d]) (Wv.child d Z) L' rf1 rf2) (h2 : ∀ y, Wv.sel y (Wv.child d Z) L' = Wv.sel (d :: y) Z L) : ToldTo (k + 1) G W Z L rf rf2 := by
  have hbk : ∀ b : Bool, b.toNat < k + 1 → b.toNat < k ∨ b = d := fun b hb => by
    rcases Nat.lt_or_ge b.toNat k with h | h
    · exact .inl h
    · right
      have : b.toNat = d.toNat := by omega
      cases b <;> cases d <;> first | rfl | (simp at this)
  refine ⟨fun c hc hp b y hb hy => ?_, fun c hc hn => ?_⟩
  · rcases hbk b hb with hb' | rfl
    · have : rf2 c = rf1 c := h1.2 c hc fun z _ _ hz => by
        rw [hy] at hz
        have hz' : W ++ b :: y = W ++ d :: z := by rw [hz]; simp
        have := (way_cancel hz').1
        subst this; omega
      rw [this]
      exact h.1 c hc hp b y hb' hy
    · have hyn : y ≠ [] := fun e => by subst e; exact hm c hc hp hy
      have := h1.1 c hc hp y hyn (by rw [hy]; simp)
      rw [h2] at this
      exact this
  · rw [h1.2 c hc fun z _ hp hz => hn d z (by omega) hp (by rw [hz]; simp)]
    exact h.2 c hc fun b y hb => hn b y (by omega)

end Go.Proofs.YtopihgmemnokkaaGreat

