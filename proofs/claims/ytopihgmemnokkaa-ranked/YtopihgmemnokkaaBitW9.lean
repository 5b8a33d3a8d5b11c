import Derived.Test.YtopihgmemnokkaaBitW8
import Derived.Test.YtopihgmemnokkaaBy
namespace Go.Proofs.Ytopihgmemnokkaa
open Go.RowKit

/-- which bit a byte of a text tells -/
def oneAt (s : ByteArray) (i : Nat) : Bool := decide (BY s i = 49)
/-- are there noughts and ones alone? -/
def Plain (s : ByteArray) : Prop := ∀ i, i < s.size → BY s i = 48 ∨ BY s i = 49

/-- the runs of the first k bits -/
def runsOf (p : Nat → Bool) (k : Nat) : List (Nat × Nat) := (List.range (k / 64)).map fun j => (64, Bm.pre (fun i => p (64 * j + i)) 64)
def lastOf (p : Nat → Bool) (k : Nat) : Nat := Bm.pre (fun i => p (64 * (k / 64) + i)) (k % 64)
/-- runs as cells -/
def flatR : List (Nat × Nat) → List Value
  | [] => []
  | x :: l => .int .i64 (x.1 : Nat) :: .int .u64 (x.2 : Nat) :: flatR l

theorem flatR_append (a b : List (Nat × Nat)) : flatR (a ++ b) = flatR a ++ flatR b := by
  induction a with
  | nil => rfl
  | cons x a ih => simp [flatR, ih]
theorem flatR_get : ∀ (l : List (Nat × Nat)) (k : Nat) (x : Nat × Nat), l[k]? = some x → (flatR l)[k * 2]? = some (.int .i64 (x.1 : Nat)) ∧ (flatR l)[k * 2 + 1]? = some (.int .u64 (x.2 : Nat))
  | [], k, x, h => by simp at h
  | y :: l, 0, x, h => by simp at h; subst h; exact ⟨rfl, rfl⟩
  | y :: l, k + 1, x, h => by
    have := flatR_get l k x (by simpa using h)
    simp only [flatR]
    rw [show (k + 1) * 2 = k * 2 + 1 + 1 by omega]
    simpa using this

theorem runs_own {w : World} {base : Nat} {e : TypeId} {g n cap : Nat} {rs : List (Nat × Nat)} (h : w.ownsRow base e 2 (.slice (some ⟨g, 0, none⟩) n cap) n (flatR rs)) : Runs w g rs := by
  intro k x hx
  obtain ⟨h1, h2⟩ := flatR_get rs k x hx
  have a1 := h.cells (g := g) rfl _ _ h1
  have a2 := h.cells (g := g) rfl _ _ h2
  have e : ∀ i, (⟨g, 0, none⟩ : Addr).add i = ⟨g, i, none⟩ := fun i => by
    unfold Addr.add
    by_cases h0 : i = 0
    · subst h0; simp
    · simp [h0]
  rw [e] at a1 a2
  exact ⟨a1, a2⟩

theorem lastOf_step (p : Nat → Bool) {k : Nat} (h : k % 64 + 1 < 64) : lastOf p (k + 1) = 2 * lastOf p k + (p k).toNat ∧ (k + 1) / 64 = k / 64 ∧ (k + 1) % 64 = k % 64 + 1 := by
  refine ⟨?_, by omega, by omega⟩
  unfold lastOf
  rw [show (k + 1) / 64 = k / 64 by omega, show (k + 1) % 64 = k % 64 + 1 by omega]
  simp only [Bm.pre]
  rw [show 64 * (k / 64) + k % 64 = k by omega]
theorem lastOf_full (p : Nat → Bool) {k : Nat} (h : k % 64 + 1 = 64) : lastOf p (k + 1) = 0 ∧ (k + 1) / 64 = k / 64 + 1 ∧ (k + 1) % 64 = 0 ∧ runsOf p (k + 1) = runsOf p k ++ [(64, 2 * lastOf p k + (p k).toNat)] := by
  refine ⟨?_, by omega, by omega, ?_⟩
  · unfold lastOf
    rw [show (k + 1) % 64 = 0 by omega]; rfl
  · unfold runsOf lastOf
    rw [show (k + 1) / 64 = k / 64 + 1 by omega, List.range_succ, List.map_append]
    congr 1
    simp only [List.map_cons, List.map_nil]
    have e : Bm.pre (fun i => p (64 * (k / 64) + i)) 64 = 2 * Bm.pre (fun i => p (64 * (k / 64) + i)) (k % 64) + (p k).toNat := by
      have e0 : ∀ (m : Nat) (q : Nat → Bool), m + 1 = 64 → Bm.pre q 64 = 2 * Bm.pre q m + (q m).toNat := fun m q hm => by rw [← hm]; rfl
      rw [e0 (k % 64) _ h, show 64 * (k / 64) + k % 64 = k by omega]
    rw [e]
theorem runsOf_step (p : Nat → Bool) {k : Nat} (h : k % 64 + 1 < 64) : runsOf p (k + 1) = runsOf p k := by
  unfold runsOf; rw [show (k + 1) / 64 = k / 64 by omega]

theorem Try.info82 : (Try.prog.info? 82).map (fun i => (i.zero, i.size, i.bytes)) = some (some (.agg #[.int .i64 0, .int .u64 0]), 2, 16) := by kernel_rfl

/-- the box of the last run -/
def LastBox (w : World) (B n t : Nat) : Prop := w.heap[B]? = some (.cells #[.int .i64 (n : Nat), .int .u64 (t : Nat)] 82 (0, 0))

theorem box_put {w : World} {B : Nat} {x0 y0 : Value} {ty : TypeId} (h : w.heap[B]? = some (.cells #[x0, y0] ty (0, 0))) (x y : Value) : ((w.setCell ⟨B, 0, none⟩ x).setCell ⟨B, 1, none⟩ y).heap[B]? = some (.cells #[x, y] ty (0, 0)) := by
  simp [World.setCell, Array.getElem?_modify, h]
theorem box_kept (w : World) (B : Nat) (x y : Value) : Kept (fun a => a = B) w ((w.setCell ⟨B, 0, none⟩ x).setCell ⟨B, 1, none⟩ y) :=
  ((Kept.refl (fun a => a = B) w).setCell (show (⟨B, 0, none⟩ : Addr).block = B from rfl) x).setCell (show (⟨B, 1, none⟩ : Addr).block = B from rfl) y
theorem two_add {w : World} {x y : Value} {e : TypeId} {b : Nat} (hb : w.heap.size = b) : ∀ j u, [x, y][j]? = some u → (w.alloc (.cells #[x, y] e)).cell? ((⟨b, 0, none⟩ : Addr).add j) = some u := by
  subst hb
  intro j u hu
  have e1 : (⟨w.heap.size, 0, none⟩ : Addr).add j = ⟨w.heap.size, j, none⟩ := by
    unfold Addr.add
    by_cases h0 : j = 0
    · subst h0; simp
    · simp [h0]
  rw [e1]
  have := heap_alloc_new w (.cells #[x, y] e)
  unfold World.cell?
  rw [this]
  simpa using hu

set_option maxRecDepth 100000 in
set_option maxHeartbeats 2000000 in
theorem read_any (s : ByteArray) (w : World) (hs : s.size ≤ 1099511627776) :
    Calls Try.prog 23 #[.string s] w fun e w' => Below w.heap.size w w' ∧
      ((¬ Plain s ∧ e = .returned (.tuple #[.slice none 0 0, .bool false])) ∨
       (Plain s ∧ ∃ g cap, e = .returned (.tuple #[.slice (some ⟨g, 0, none⟩) (s.size / 64 + 1) cap, .bool true]) ∧ g < w'.heap.size ∧ Runs w' g (runsOf (oneAt s) s.size ++ [(s.size % 64, lastOf (oneAt s) s.size)]))) := by
  obtain ⟨i0, hi, hz0, hz1, hz2⟩ := info_parts Try.info82
  go_enter Try.func23, Try.ntmps23
  go_wp2
  go_loopw [4, 6, 7, 10] (fun v _ _ i wr => ∃ k : Nat, k ≤ s.size ∧ i = .int .i64 k ∧ (∀ i, i < k → BY s i = 48 ∨ BY s i = 49) ∧ wr.ownsRow (w.heap.size + 1) 82 2 v (k / 64) (flatR (runsOf (oneAt s) k)) ∧ LastBox wr w.heap.size (k % 64) (lastOf (oneAt s) k) ∧ Below w.heap.size w wr) (fun _ _ _ i _ => s.size - (intOf i).toNat)
  case atStart =>
    refine ⟨0, by omega, rfl, fun i h => by omega, World.ownsRow_nil _ _ _ _, ?_, (Below.refl _ _).alloc (Nat.le_refl _) _⟩
    exact heap_alloc_new _ _
  case round =>
    obtain ⟨k, hk, rfl, hpl, hown, hbox, hB⟩ := hrel
    by_cases hlt : k < s.size
    · have hby := BY_lt s hlt
      have c1 : wr.cell? ⟨w.heap.size, 0, none⟩ = some (.int .i64 ((k % 64 : Nat) : Int)) := by unfold LastBox at hbox; simp [World.cell?, hbox]
      have c2 : wr.cell? ⟨w.heap.size, 1, none⟩ = some (.int .u64 (lastOf (oneAt s) k : Nat)) := by unfold LastBox at hbox; simp [World.cell?, hbox]
      by_cases h1 : BY s k = 49
      · skip
        have hb1 : (oneAt s k).toNat = 1 := by unfold oneAt; simp [h1]
        have n1 : ((s[k].toNat : Int) == 49) = true := by simp; omega
        have hwl := hB.size
        have hwlt : w.heap.size < wr.heap.size := by unfold LastBox at hbox; exact (Array.getElem?_eq_some_iff.1 hbox).1
        have Hst : Hid (BY s k = 48 ∨ BY s k = 49) := .inr h1
        generalize hL : lastOf (oneAt s) k = T at *
        generalize hR : k % 64 = R at *
        have hT : T < 2 ^ R := by rw [← hL, ← hR]; exact Bm.pre_lt _ _
        have HL : Hid (lastOf (oneAt s) k = T) := hL
        have HR : Hid (k % 64 = R) := hR
        have Hb1 : Hid ((oneAt s k).toNat = 1) := hb1
        have hR64 : R < 64 := by omega
        clear hL hR hb1 hby h1
        go_wp2_with fail
        refine (with_any R T 1 _ hR64 hT (by omega)).mono ?_
        rintro e w2 ⟨rfl, hB2⟩
        have hbox2 : LastBox w2 w.heap.size R T := by unfold LastBox at *; rw [hB2.block _ hwlt]; exact hbox
        have hown2 := own_keep hown (Kept.of_below hB2 (Nat.le_refl _) (fun _ => False)) (fun _ _ h => h)
        have hB3 : Below w.heap.size w w2 := hB.trans (hB2.mono hwl)
        have hz3 := hB3.size
        have hwlt2 : w.heap.size < w2.heap.size := by unfold LastBox at hbox2; exact (Array.getElem?_eq_some_iff.1 hbox2).1
        have c1 : w2.cell? ⟨w.heap.size, 0, none⟩ = some (.int .i64 (R : Nat)) := by unfold LastBox at hbox2; simp [World.cell?, hbox2]
        have c2 : w2.cell? ⟨w.heap.size, 1, none⟩ = some (.int .u64 (T : Nat)) := by unfold LastBox at hbox2; simp [World.cell?, hbox2]
        have f1 : w2.frozen? ⟨w.heap.size, 0, none⟩ = false := by unfold LastBox at hbox2; simp [World.frozen?, hbox2]
        have f2 : w2.frozen? ⟨w.heap.size, 1, none⟩ = false := by unfold LastBox at hbox2; simp [World.frozen?, hbox2]
        clear hbox hB2 hown hB
        unfold runV
        by_cases hfull : R + 1 = 64
        · have hd : (((R + 1 : Nat) : Int) == 64) = true := by simp; omega
          obtain ⟨q1, q2, q3, q4⟩ := lastOf_full (oneAt s) (k := k) (by rw [HR.out]; exact hfull)
          rw [HL.out, Hb1.out] at q4
          have hbx3 := box_put hbox2 (.int .i64 64) (.int .u64 (2 * (T : Int) + 1))
          have hk3 := box_kept w2 w.heap.size (.int .i64 64) (.int .u64 (2 * (T : Int) + 1))
          have hown3 := own_keep hown2 hk3 (fun a h1 h2 => by have := (hown2.lt a h1).1; omega)
          have hB4 := hk3.bel hB3 (Nat.le_refl _) (fun a ha => by omega)
          have hz4 : ((w2.setCell ⟨w.heap.size, 0, none⟩ (.int .i64 64)).setCell ⟨w.heap.size, 1, none⟩ (.int .u64 (2 * (T : Int) + 1))).heap.size = w2.heap.size := by simp
          have Q2 : Hid ((k + 1) / 64 = k / 64 + 1) := q2
          have Q3 : Hid ((k + 1) % 64 = 0) := q3
          have Q4 : Hid (runsOf (oneAt s) (k + 1) = runsOf (oneAt s) k ++ [(64, 2 * T + 1)]) := q4
          have Q1 : Hid (lastOf (oneAt s) (k + 1) = 0) := q1
          have Hz4 : Hid _ := hz4
          clear q1 q2 q3 q4 hz4
          go_wp2_with (at_builtin; refine wpList_append_own _ rfl _ _ 53 rfl (w.heap.size + 1) 82 i0 _ 2 16 Try.underlying53 hi hz0 hz1 hz2 rfl (by decide) _ _ _ rfl (hown3.alloc _) ⟨w2.heap.size, 0, none⟩ 1 1 [.int .i64 64, .int .u64 (2 * (T : Int) + 1)] rfl rfl ?c11 ?c21 ?c31 ?c41 ?c51 ?_)
          case c11 => exact two_add Hz4.out
          case c21 => intro u hu; simp at hu; rcases hu with rfl | rfl <;> rfl
          case c31 => unfold maxLen; omega
          case c41 => omega
          case c51 => simp; omega
          intro v' w4 hown4 hg4 _
          have hbx4 : w4.heap[w.heap.size]? = some (.cells #[.int .i64 64, .int .u64 (2 * (T : Int) + 1)] 82 (0, 0)) := by
            rw [hg4.block _ (by simp; omega) (fun e => by have := (hown3.lt _ e.symm).1; omega), Below.heap_alloc _ _ _ (by simp; omega)]; exact hbx3
          have hB5 : Below w.heap.size w w4 := (hB4.alloc (by rw [Hz4.out]; omega) _).grown hg4 (by simp; omega) (fun a ha => by have := (hown3.lt a ha).1; omega)
          have d1 : w4.cell? ⟨w.heap.size, 0, none⟩ = some (.int .i64 64) := by simp [World.cell?, hbx4]
          have d2 : w4.cell? ⟨w.heap.size, 1, none⟩ = some (.int .u64 (2 * (T : Int) + 1)) := by simp [World.cell?, hbx4]
          have d3 : w4.frozen? ⟨w.heap.size, 0, none⟩ = false := by simp [World.frozen?, hbx4]
          have d4 : w4.frozen? ⟨w.heap.size, 1, none⟩ = false := by simp [World.frozen?, hbx4]
          clear hg4 hbx3 hk3 hown3 hB4 Hz4 hbox2 hown2 hB3 c1 c2 f1 f2
          go_wp2
          have hk5 := box_kept w4 w.heap.size (.int .i64 0) (.int .u64 0)
          have hown5 := own_keep hown4 hk5 (fun a h1 h2 => by have := (hown4.lt a h1).1; omega)
          refine ⟨⟨k + 1, by omega, by go_num, fun i hi => ?_, ?_, ?_, hk5.bel hB5 (Nat.le_refl _) (fun a ha => by omega)⟩, by simp [intOf]; omega⟩
          · by_cases e : i = k
            · rw [e]; exact Hst.out
            · exact hpl i (by omega)
          · rw [Q2.out, Q4.out, flatR_append]; exact hown5
          · rw [Q3.out, Q1.out]; exact box_put hbx4 _ _
        · have hd : (((R + 1 : Nat) : Int) == 64) = false := by simp; omega
          obtain ⟨q1, q2, q3⟩ := lastOf_step (oneAt s) (k := k) (by rw [HR.out]; omega)
          have q4 := runsOf_step (oneAt s) (k := k) (by rw [HR.out]; omega)
          rw [HL.out, Hb1.out] at q1
          rw [HR.out] at q3
          have hbx3 := box_put hbox2 (.int .i64 ((R : Int) + 1)) (.int .u64 (2 * (T : Int) + 1))
          have hk3 := box_kept w2 w.heap.size (.int .i64 ((R : Int) + 1)) (.int .u64 (2 * (T : Int) + 1))
          have hown3 := own_keep hown2 hk3 (fun a h1 h2 => by have := (hown2.lt a h1).1; omega)
          have hB4 := hk3.bel hB3 (Nat.le_refl _) (fun a ha => by omega)
          have hrel2 : ((w2.setCell ⟨w.heap.size, 0, none⟩ (.int .i64 ((R : Int) + 1))).setCell ⟨w.heap.size, 1, none⟩ (.int .u64 (2 * (T : Int) + 1))).ownsRow (w.heap.size + 1) 82 2 u4 ((k + 1) / 64) (flatR (runsOf (oneAt s) (k + 1))) ∧
              LastBox ((w2.setCell ⟨w.heap.size, 0, none⟩ (.int .i64 ((R : Int) + 1))).setCell ⟨w.heap.size, 1, none⟩ (.int .u64 (2 * (T : Int) + 1))) w.heap.size ((k + 1) % 64) (lastOf (oneAt s) (k + 1)) := by
            rw [q1, q2, q3, q4]; exact ⟨hown3, hbx3⟩
          clear q1 q2 q3 q4 hbx3 hk3 hown3
          go_wp2
          exact ⟨⟨k + 1, by omega, by go_num, fun i hi => by
            by_cases e : i = k
            · rw [e]; exact Hst.out
            · exact hpl i (by omega), hrel2.1, hrel2.2, hB4⟩, by simp [intOf]; omega⟩
      · by_cases h0 : BY s k = 48
        · skip
          have hb1 : (oneAt s k).toNat = 0 := by unfold oneAt; simp [h0]
          have n1 : ((s[k].toNat : Int) == 49) = false := by simp; omega
          have n0 : ((s[k].toNat : Int) == 48) = true := by simp; omega
          have hwl := hB.size
          have hwlt : w.heap.size < wr.heap.size := by unfold LastBox at hbox; exact (Array.getElem?_eq_some_iff.1 hbox).1
          have Hst : Hid (BY s k = 48 ∨ BY s k = 49) := .inl h0
          generalize hL : lastOf (oneAt s) k = T at *
          generalize hR : k % 64 = R at *
          have hT : T < 2 ^ R := by rw [← hL, ← hR]; exact Bm.pre_lt _ _
          have HL : Hid (lastOf (oneAt s) k = T) := hL
          have HR : Hid (k % 64 = R) := hR
          have Hb1 : Hid ((oneAt s k).toNat = 0) := hb1
          have hR64 : R < 64 := by omega
          clear hL hR hb1 hby h1 h0
          go_wp2_with fail
          refine (with_any R T 0 _ hR64 hT (by omega)).mono ?_
          rintro e w2 ⟨rfl, hB2⟩
          have hbox2 : LastBox w2 w.heap.size R T := by unfold LastBox at *; rw [hB2.block _ hwlt]; exact hbox
          have hown2 := own_keep hown (Kept.of_below hB2 (Nat.le_refl _) (fun _ => False)) (fun _ _ h => h)
          have hB3 : Below w.heap.size w w2 := hB.trans (hB2.mono hwl)
          have hz3 := hB3.size
          have hwlt2 : w.heap.size < w2.heap.size := by unfold LastBox at hbox2; exact (Array.getElem?_eq_some_iff.1 hbox2).1
          have c1 : w2.cell? ⟨w.heap.size, 0, none⟩ = some (.int .i64 (R : Nat)) := by unfold LastBox at hbox2; simp [World.cell?, hbox2]
          have c2 : w2.cell? ⟨w.heap.size, 1, none⟩ = some (.int .u64 (T : Nat)) := by unfold LastBox at hbox2; simp [World.cell?, hbox2]
          have f1 : w2.frozen? ⟨w.heap.size, 0, none⟩ = false := by unfold LastBox at hbox2; simp [World.frozen?, hbox2]
          have f2 : w2.frozen? ⟨w.heap.size, 1, none⟩ = false := by unfold LastBox at hbox2; simp [World.frozen?, hbox2]
          clear hbox hB2 hown hB
          unfold runV
          by_cases hfull : R + 1 = 64
          · have hd : (((R + 1 : Nat) : Int) == 64) = true := by simp; omega
            obtain ⟨q1, q2, q3, q4⟩ := lastOf_full (oneAt s) (k := k) (by rw [HR.out]; exact hfull)
            rw [HL.out, Hb1.out] at q4
            have hbx3 := box_put hbox2 (.int .i64 64) (.int .u64 (2 * (T : Int)))
            have hk3 := box_kept w2 w.heap.size (.int .i64 64) (.int .u64 (2 * (T : Int)))
            have hown3 := own_keep hown2 hk3 (fun a h1 h2 => by have := (hown2.lt a h1).1; omega)
            have hB4 := hk3.bel hB3 (Nat.le_refl _) (fun a ha => by omega)
            have hz4 : ((w2.setCell ⟨w.heap.size, 0, none⟩ (.int .i64 64)).setCell ⟨w.heap.size, 1, none⟩ (.int .u64 (2 * (T : Int)))).heap.size = w2.heap.size := by simp
            have Q2 : Hid ((k + 1) / 64 = k / 64 + 1) := q2
            have Q3 : Hid ((k + 1) % 64 = 0) := q3
            have Q4 : Hid (runsOf (oneAt s) (k + 1) = runsOf (oneAt s) k ++ [(64, 2 * T + 0)]) := q4
            have Q1 : Hid (lastOf (oneAt s) (k + 1) = 0) := q1
            have Hz4 : Hid _ := hz4
            clear q1 q2 q3 q4 hz4
            go_wp2_with (at_builtin; refine wpList_append_own _ rfl _ _ 53 rfl (w.heap.size + 1) 82 i0 _ 2 16 Try.underlying53 hi hz0 hz1 hz2 rfl (by decide) _ _ _ rfl (hown3.alloc _) ⟨w2.heap.size, 0, none⟩ 1 1 [.int .i64 64, .int .u64 (2 * (T : Int))] rfl rfl ?c10 ?c20 ?c30 ?c40 ?c50 ?_)
            case c10 => exact two_add Hz4.out
            case c20 => intro u hu; simp at hu; rcases hu with rfl | rfl <;> rfl
            case c30 => unfold maxLen; omega
            case c40 => omega
            case c50 => simp; omega
            intro v' w4 hown4 hg4 _
            have hbx4 : w4.heap[w.heap.size]? = some (.cells #[.int .i64 64, .int .u64 (2 * (T : Int))] 82 (0, 0)) := by
              rw [hg4.block _ (by simp; omega) (fun e => by have := (hown3.lt _ e.symm).1; omega), Below.heap_alloc _ _ _ (by simp; omega)]; exact hbx3
            have hB5 : Below w.heap.size w w4 := (hB4.alloc (by rw [Hz4.out]; omega) _).grown hg4 (by simp; omega) (fun a ha => by have := (hown3.lt a ha).1; omega)
            have d1 : w4.cell? ⟨w.heap.size, 0, none⟩ = some (.int .i64 64) := by simp [World.cell?, hbx4]
            have d2 : w4.cell? ⟨w.heap.size, 1, none⟩ = some (.int .u64 (2 * (T : Int))) := by simp [World.cell?, hbx4]
            have d3 : w4.frozen? ⟨w.heap.size, 0, none⟩ = false := by simp [World.frozen?, hbx4]
            have d4 : w4.frozen? ⟨w.heap.size, 1, none⟩ = false := by simp [World.frozen?, hbx4]
            clear hg4 hbx3 hk3 hown3 hB4 Hz4 hbox2 hown2 hB3 c1 c2 f1 f2
            go_wp2
            have hk5 := box_kept w4 w.heap.size (.int .i64 0) (.int .u64 0)
            have hown5 := own_keep hown4 hk5 (fun a h1 h2 => by have := (hown4.lt a h1).1; omega)
            refine ⟨⟨k + 1, by omega, by go_num, fun i hi => ?_, ?_, ?_, hk5.bel hB5 (Nat.le_refl _) (fun a ha => by omega)⟩, by simp [intOf]; omega⟩
            · by_cases e : i = k
              · rw [e]; exact Hst.out
              · exact hpl i (by omega)
            · rw [Q2.out, Q4.out, flatR_append]; exact hown5
            · rw [Q3.out, Q1.out]; exact box_put hbx4 _ _
          · have hd : (((R + 1 : Nat) : Int) == 64) = false := by simp; omega
            obtain ⟨q1, q2, q3⟩ := lastOf_step (oneAt s) (k := k) (by rw [HR.out]; omega)
            have q4 := runsOf_step (oneAt s) (k := k) (by rw [HR.out]; omega)
            rw [HL.out, Hb1.out] at q1
            rw [HR.out] at q3
            have hbx3 := box_put hbox2 (.int .i64 ((R : Int) + 1)) (.int .u64 (2 * (T : Int)))
            have hk3 := box_kept w2 w.heap.size (.int .i64 ((R : Int) + 1)) (.int .u64 (2 * (T : Int)))
            have hown3 := own_keep hown2 hk3 (fun a h1 h2 => by have := (hown2.lt a h1).1; omega)
            have hB4 := hk3.bel hB3 (Nat.le_refl _) (fun a ha => by omega)
            have hrel2 : ((w2.setCell ⟨w.heap.size, 0, none⟩ (.int .i64 ((R : Int) + 1))).setCell ⟨w.heap.size, 1, none⟩ (.int .u64 (2 * (T : Int)))).ownsRow (w.heap.size + 1) 82 2 u4 ((k + 1) / 64) (flatR (runsOf (oneAt s) (k + 1))) ∧
                LastBox ((w2.setCell ⟨w.heap.size, 0, none⟩ (.int .i64 ((R : Int) + 1))).setCell ⟨w.heap.size, 1, none⟩ (.int .u64 (2 * (T : Int)))) w.heap.size ((k + 1) % 64) (lastOf (oneAt s) (k + 1)) := by
              rw [q1, q2, q3, q4]; exact ⟨hown3, hbx3⟩
            clear q1 q2 q3 q4 hbx3 hk3 hown3
            go_wp2
            exact ⟨⟨k + 1, by omega, by go_num, fun i hi => by
              by_cases e : i = k
              · rw [e]; exact Hst.out
              · exact hpl i (by omega), hrel2.1, hrel2.2, hB4⟩, by simp [intOf]; omega⟩
        · have n1 : ((s[k].toNat : Int) == 49) = false := by simp; omega
          have n0 : ((s[k].toNat : Int) == 48) = false := by simp; omega
          clear c1 c2
          go_wp2
          go_ret2
          exact ⟨hB, .inl ⟨fun h => by rcases h k hlt with h | h <;> contradiction, rfl⟩⟩
    · have hk' : k = s.size := by omega
      subst hk'
      have c1 : wr.cell? ⟨w.heap.size, 0, none⟩ = some (.int .i64 ((s.size % 64 : Nat) : Int)) := by unfold LastBox at hbox; simp [World.cell?, hbox]
      have c2 : wr.cell? ⟨w.heap.size, 1, none⟩ = some (.int .u64 (lastOf (oneAt s) s.size : Nat)) := by unfold LastBox at hbox; simp [World.cell?, hbox]
      have hwlt : w.heap.size < wr.heap.size := by unfold LastBox at hbox; exact (Array.getElem?_eq_some_iff.1 hbox).1
      generalize hL : lastOf (oneAt s) s.size = T at *
      generalize hR : s.size % 64 = R at *
      have HL : Hid (lastOf (oneAt s) s.size = T) := hL
      have HR : Hid (s.size % 64 = R) := hR
      clear hL hR
      go_wp2_with (at_builtin; refine wpList_append_own _ rfl _ _ 53 rfl (w.heap.size + 1) 82 i0 _ 2 16 Try.underlying53 hi hz0 hz1 hz2 rfl (by decide) _ _ _ rfl (hown.alloc _) ⟨wr.heap.size, 0, none⟩ 1 1 [.int .i64 (R : Nat), .int .u64 (T : Nat)] rfl rfl ?c1e ?c2e ?c3e ?c4e ?c5e ?_)
      case c1e => exact two_add rfl
      case c2e => intro u hu; simp at hu; rcases hu with rfl | rfl <;> rfl
      case c3e => unfold maxLen; omega
      case c4e => omega
      case c5e => simp; omega
      intro v' w4 hown4 hg4 _
      have hB5 : Below w.heap.size w w4 := (hB.alloc (by omega) _).grown hg4 (by simp; omega) (fun a ha => by have := (hown.lt a ha).1; omega)
      obtain ⟨g, cap, rfl, _, hg⟩ := hown4.form (by omega)
      go_wp2
      go_ret2
      refine ⟨hB5, .inr ⟨hpl, g, cap, rfl, hg, runs_own (e := 82) (base := w.heap.size + 1) (n := s.size / 64 + 1) (cap := cap) ?_⟩⟩
      rw [flatR_append, HR.out, HL.out]
      exact hown4

end Go.Proofs.Ytopihgmemnokkaa
