import Derived.Test.YtopihgmemnokkaaGreatKeepW2F
import Derived.Test.YtopihgmemnokkaaGreatIntsF
import Derived.Test.YtopihgmemnokkaaGreatAppF
namespace Go.Proofs.YtopihgmemnokkaaGreat
open Go.RowKit

/-- a list of m texts, as it lies in the world (nil: none) -/
def StrsIn (w : World) (v : Value) (m : Nat) : Prop := (v = .slice none 0 0 ∧ m = 0) ∨ ∃ a cap, v = .slice (some a) m cap ∧ ∀ i, i < m → ∃ s : ByteArray, w.cell? (a.add i) = some (.string s) ∧ s.size ≤ 9223372036854775807
theorem addPt (z : Addr) {k : Nat} (hk : k ≠ 0) : z.add k = ⟨z.block, z.off + k, none⟩ := by unfold Addr.add; rw [if_neg hk]
theorem addBlt (a : Addr) (n : Nat) : (a.add n).block = a.block := by unfold Addr.add; split <;> rfl

/-- a list of texts of the law, grown by one -/
theorem str_app {w2 wr w4 : World} {B q n g cap : Nat} {la : Option Addr} {xs : List ByteArray} {m : ByteArray} {o : Obj} {G : Prop} (HO : wr.ownsRow B 9 1 (.slice la n q) n (xs.map Value.string)) (HB : Below B w2 wr) (hB : B ≤ w2.heap.size)
    (hown : w4.ownsRow B 9 1 (.slice (some ⟨g, 0, none⟩) (n + 1) cap) (n + 1) (xs.map Value.string ++ [.string m]))
    (hd : ((Value.slice la n q).ownBlock = some g ∧ (wr.alloc o).grownBy w4 (some g)) ∨ (G ∧ (wr.alloc o).grownBy w4 none)) :
    w4.ownsRow B 9 1 (.slice (some ⟨g, 0, none⟩) (n + 1) cap) (n + 1) ((xs ++ [m]).map Value.string) ∧ Below B w2 w4 := by
  have hk : Kept (fun k => some k = (Value.slice la n q).ownBlock) wr w4 := ((Kept.refl _ wr).alloc _).grown (two_grown hd) (fun k h _ => h.symm)
  refine ⟨?_, hk.bel HB hB (fun k hk => (HO.lt k hk.symm).1)⟩
  rw [List.map_append]; exact hown

theorem infoStr : (Tryz.prog.info? 9).map (fun i => (i.zero, i.size, i.bytes)) = some (some (.string ByteArray.empty), 1, 16) := by kernel_rfl

set_option maxRecDepth 100000 in
set_option maxHeartbeats 4000000 in
theorem keepTells_any {PI : Lay} (hI : PI.Ok) (hS : PI.Says) (hW : PI.Wide) (t0 : ByteArray) (rate other : Int) (h1 : -9223372036854775808 ≤ rate ∧ rate ≤ 9223372036854775807) (h2 : -9223372036854775808 ≤ other ∧ other ≤ 9223372036854775807) (sv cv : Value) (k m : Nat) (w : World) (hT : StrsIn w sv k) (hC : IntsIn w cv m) :
    Calls Tryz.prog 6 #[.string t0, .int .i64 rate, .int .i64 other, sv, cv] w fun e w' => e = .returned (.bool true) ∧ Below w.heap.size w w' := by
  obtain ⟨j0, hj, hy0, hy1, hy2⟩ := info_parts infoStr
  obtain ⟨ca, cc, rfl⟩ : ∃ ca cc, cv = .slice ca m cc := by
    rcases hC with ⟨rfl, rfl⟩ | ⟨a, cap, rfl, _⟩
    · exact ⟨_, _, rfl⟩
    · exact ⟨_, _, rfl⟩
  obtain ⟨sa, sc, rfl⟩ : ∃ sa sc, sv = .slice sa k sc := by
    rcases hT with ⟨rfl, rfl⟩ | ⟨a, cap, rfl, _⟩
    · exact ⟨_, _, rfl⟩
    · exact ⟨_, _, rfl⟩
  have HC : Hid (IntsIn w (.slice ca m cc) m) := hC
  have HT : Hid (StrsIn w (.slice sa k sc) k) := hT
  clear hC hT
  go_enter Tryz.func6, Tryz.ntmps6
  go_wp2_with fail
  refine (cut_any t0 1000 _ (by omega)).mono ?_
  rintro e w' ⟨rfl, rfl⟩
  have hs := cutS_size t0 1000
  generalize cutS t0 1000 = t at *
  go_wp2_with fail
  refine (kindex_any hI hS t hs rate h1.1 h1.2 _).mono ?_
  rintro e w1 ⟨bx, rx, rfl, hokx, hPx, hB1⟩
  have HPx : Hid (PI w'.heap.size w1.heap.size bx t rx w1) := hPx
  have HB1 : Hid (Below w'.heap.size w' w1) := hB1
  have HOKx : Hid (BuildOk t rx) := hokx
  clear hPx hB1 hokx
  go_wp2_with fail
  refine (kindex_any hI hS t hs other h2.1 h2.2 _).mono ?_
  rintro e w2 ⟨by', ry, rfl, hoky, hPy, hB2⟩
  have HPx2 : Hid (PI w'.heap.size w1.heap.size bx t rx w2) := hI.keep (fun _ => False) _ _ _ _ _ _ _ HPx.out (Kept.of_below hB2 (Nat.le_refl _) (fun _ => False)) (fun _ _ _ h => h)
  have HPy2 : Hid (PI w1.heap.size w2.heap.size by' t ry w2) := hPy
  have HB2 : Hid (Below w'.heap.size w' w2) := HB1.out.trans (hB2.mono HB1.out.size)
  have HOKy : Hid (BuildOk t ry) := hoky
  clear hPy hB2 hoky HPx HB1
  have hln := hS.len w'.heap.size w1.heap.size bx t rx w2 HPx2.out HOKx.out
  go_wp2_with fail
  refine hln.mono ?_
  rintro e w3 ⟨rfl, hB3⟩
  have HPX : Hid (PI w'.heap.size w1.heap.size bx t rx w3) := hI.keep (fun _ => False) _ _ _ _ _ _ _ HPx2.out (Kept.of_below hB3 (Nat.le_refl _) (fun _ => False)) (fun _ _ _ h => h)
  have HPY : Hid (PI w1.heap.size w2.heap.size by' t ry w3) := hI.keep (fun _ => False) _ _ _ _ _ _ _ HPy2.out (Kept.of_below hB3 (Nat.le_refl _) (fun _ => False)) (fun _ _ _ h => h)
  have HB3 : Hid (Below w'.heap.size w' w3) := HB2.out.trans (hB3.mono HB2.out.size)
  clear hln hB3 HPx2 HPy2 HB2
  have hz3 := HB3.out.size
  have hO0 : w3.ownsRow w3.heap.size 9 1 (.slice none 0 0) 0 (([] : List ByteArray).map Value.string) := ⟨rfl, .inl ⟨rfl, rfl⟩⟩
  have hBr : Below w3.heap.size w3 w3 := Below.refl _ _
  go_wp2_with (at_builtin; refine wpList_append_two _ rfl _ _ 31 rfl w3.heap.size 9 j0 (.string ByteArray.empty) 16 Tryz.underlying31 hj hy0 hy1 hy2 rfl _ 0 (([] : List ByteArray).map Value.string) rfl (hO0.alloc _) ⟨w3.heap.size, 0, none⟩ 1 (.string ByteArray.empty) rfl ?c1 ?c2 ?c3 ?c4 ?c5 ?_)
  case c1 => exact cell_one_new _ _ _
  case c2 => rfl
  case c3 => unfold maxLen; omega
  case c4 => omega
  case c5 => simp
  intro g0 cap0 w4 hown _ hd
  have hst := str_app hO0 hBr (Nat.le_refl _) hown hd
  have HO4 : Hid (w4.ownsRow w3.heap.size 9 1 (.slice (some ⟨g0, 0, none⟩) (0 + 1) cap0) (0 + 1) ((([] : List ByteArray) ++ [ByteArray.empty]).map Value.string)) := hst.1
  have HB4 : Hid (Below w3.heap.size w3 w4) := hst.2
  clear hst hown hd hO0 hBr
  go_wp2
  go_loopw [13, 14] (fun lv iv wr => ∃ (i n q : Nat) (la : Option Addr) (xs : List ByteArray), i ≤ 10 ∧ n ≤ i + 1 ∧ iv = .int .i64 i ∧ lv = .slice la n q ∧ Hid (xs.length = n ∧ ∀ x ∈ xs, x.size ≤ 9223372036854775807) ∧ Hid (wr.ownsRow w3.heap.size 9 1 (.slice la n q) n (xs.map Value.string)) ∧ Hid (Below w3.heap.size w3 wr)) (fun _ iv _ => 10 - (intOf iv).toNat)
  case atStart => exact ⟨0, 1, cap0, _, [ByteArray.empty], by omega, by omega, rfl, rfl, ⟨rfl, fun x hx => by simp at hx; subst hx; decide⟩, HO4, HB4⟩
  case round =>
    clear HO4 HB4
    obtain ⟨i, n, q, la, xs, hi, hn, rfl, rfl, HX, HO, HB⟩ := hrel
    by_cases hlt : i < k ∧ i < 10
    · have d1 : (i : Int) < (k : Int) := by omega
      have d2 : (i : Int) < 10 := by omega
      have hzr := HB.out.size
      obtain ⟨a, rfl, s, hs0, hss⟩ : ∃ a, sa = some a ∧ ∃ s : ByteArray, w'.cell? (a.add i) = some (.string s) ∧ s.size ≤ 9223372036854775807 := by
        rcases HT.out with ⟨_, h0⟩ | ⟨a, cap, e1, h3⟩
        · omega
        · injection e1 with e1
          subst e1
          exact ⟨a, rfl, h3 i hlt.1⟩
      have kx := ((HB3.out.trans (HB.out.mono hz3)).cell (p := a.add i) (cell_block hs0)).trans hs0
      have HSS : Hid (s.size ≤ 9223372036854775807) := hss
      clear hs0 hss
      go_wp2_with (at_builtin; refine wpList_append_two _ rfl _ _ 31 rfl w3.heap.size 9 j0 (.string ByteArray.empty) 16 Tryz.underlying31 hj hy0 hy1 hy2 rfl _ n (xs.map Value.string) rfl (HO.out.alloc _) ⟨wr.heap.size, 0, none⟩ 1 (.string s) rfl ?c1 ?c2 ?c3 ?c4 ?c5 ?_)
      case c1 => exact cell_one_new _ _ _
      case c2 => rfl
      case c3 => unfold maxLen; omega
      case c4 => omega
      case c5 => simp; omega
      intro g cap w5 hown _ hd
      have hst := str_app HO.out HB.out (Nat.le_refl _) hown hd
      have HO5 : Hid (w5.ownsRow w3.heap.size 9 1 (.slice (some ⟨g, 0, none⟩) (n + 1) cap) (n + 1) ((xs ++ [s]).map Value.string)) := hst.1
      have HB5 : Hid (Below w3.heap.size w3 w5) := hst.2
      have HX5 : Hid ((xs ++ [s]).length = n + 1 ∧ ∀ x ∈ xs ++ [s], x.size ≤ 9223372036854775807) := ⟨by rw [List.length_append, HX.out.1]; rfl, fun x hx => by
        rcases List.mem_append.1 hx with h | h
        · exact HX.out.2 x h
        · simp at h; subst h; exact HSS.out⟩
      clear hst hown hd HO HB HX kx
      go_wp2
      exact ⟨⟨i + 1, n + 1, cap, _, xs ++ [s], by omega, by omega, by go_num, rfl, HX5, HO5, HB5⟩, by simp [intOf]; omega⟩
    · have hout : ¬ (i : Int) < (k : Int) ∨ ((i : Int) < (k : Int) ∧ ¬ (i : Int) < 10) := by omega
      have hn11 : n ≤ 11 := by omega
      clear hlt hn
      focus
      rcases hout with d1 | ⟨d1, d2⟩
      all_goals
        clear hi
        go_wp2
        clear d1
        try clear d2
        go_loopw [13, 15, 16, 17] (fun lv iv _ _ wr => ∃ (i n q : Nat) (la : Option Addr) (xs : List ByteArray), i ≤ 21 ∧ n ≤ 11 + i ∧ iv = .int .i64 i ∧ lv = .slice la n q ∧ Hid (xs.length = n ∧ ∀ x ∈ xs, x.size ≤ 9223372036854775807) ∧ Hid (wr.ownsRow w3.heap.size 9 1 (.slice la n q) n (xs.map Value.string)) ∧ Hid (Below w3.heap.size w3 wr)) (fun _ iv _ _ _ => 42 - (intOf iv).toNat)
        case atStart => exact ⟨0, n, q, la, xs, by omega, by omega, rfl, rfl, HX, HO, HB⟩
        case round =>
          clear HX HO HB hn11
          obtain ⟨i, n, q, la, xs, hi, hn, rfl, rfl, HX, HO, HB⟩ := hrel
          have hzr2 := HB.out.size
          by_cases hlt2 : i + 1 < m ∧ i < 20
          · obtain ⟨a, rfl, x, y, hx0, hx1, hx2, hy0', hy1', hy2'⟩ : ∃ a, ca = some a ∧ ∃ x y : Int, w'.cell? (a.add i) = some (.int .i64 x) ∧ -9223372036854775808 ≤ x ∧ x ≤ 9223372036854775807 ∧ w'.cell? (a.add (i + 1)) = some (.int .i64 y) ∧ -9223372036854775808 ≤ y ∧ y ≤ 9223372036854775807 := by
              rcases HC.out with ⟨_, h0⟩ | ⟨a, cap, e1, h3⟩
              · omega
              · injection e1 with e1
                subst e1
                obtain ⟨x, h4, h5, h6⟩ := h3 i (by omega)
                obtain ⟨y, h7, h8, h9⟩ := h3 (i + 1) hlt2.1
                exact ⟨a, rfl, x, y, h4, h5, h6, h7, h8, h9⟩
            have HBB : Below w'.heap.size w' wr := HB3.out.trans (HB.out.mono hz3)
            have kx := (HBB.cell (p := a.add i) (cell_block hx0)).trans hx0
            have ky := (HBB.cell (p := a.add (i + 1)) (cell_block hy0')).trans hy0'
            rw [addPt a (show i + 1 ≠ 0 by omega)] at ky
            have d0 : (i : Int) + 1 < (m : Int) := by omega
            have d1 : (i : Int) < 20 := by omega
            have d2 : (i : Int) < (m : Int) := by omega
            clear hx0 hy0' HBB
            go_wp2_with fail
            refine (pick_any x ((t.size : Int) + 1) _ hx1 hx2 (by omega) (by omega)).mono ?_
            rintro e wp ⟨⟨u, rfl, hu⟩, rfl⟩
            have hu3 : (u : Int) ≤ (t.size : Int) := by omega
            go_wp2_with fail
            refine (pick_any y ((t.size : Int) - (u : Int) + 1) _ hy1' hy2' (by omega) (by omega)).mono ?_
            rintro e wq ⟨⟨v, rfl, hv⟩, rfl⟩
            have hv2 : u + v ≤ t.size := by omega
            have hv3 : (u : Int) + (v : Int) ≤ (t.size : Int) := by omega
            have hsz : (t.extract u (u + v)).size ≤ 1000 := by rw [ByteArray.size_extract]; omega
            have hsz2 : (t.extract u (u + v) ++ ⟨#[97]⟩).size ≤ 1001 := by rw [ByteArray.size_append]; show _ + 1 ≤ _; omega
            go_wp2_with (at_builtin; refine wpList_append_two _ rfl _ _ 31 rfl w3.heap.size 9 j0 (.string ByteArray.empty) 16 Tryz.underlying31 hj hy0 hy1 hy2 rfl _ (n) ((xs).map Value.string) rfl (HO.out.alloc _) ⟨wq.heap.size, 0, none⟩ 1 (.string (t.extract u (u + v))) rfl ?c15 ?c25 ?c35 ?c45 ?c55 ?_)
            case c15 => exact cell_one_new _ _ _
            case c25 => rfl
            case c35 => unfold maxLen; omega
            case c45 => omega
            case c55 => simp; omega
            intro g5 cap5 w5 hown _ hd
            have hst := str_app HO.out HB.out (Nat.le_refl _) hown hd
            have HO5 : Hid (w5.ownsRow w3.heap.size 9 1 (.slice (some ⟨g5, 0, none⟩) (n + 1) cap5) (n + 1) ((xs ++ [t.extract u (u + v)]).map Value.string)) := hst.1
            have HB5 : Hid (Below w3.heap.size w3 w5) := hst.2
            have HX5 : Hid ((xs ++ [t.extract u (u + v)]).length = n + 1 ∧ ∀ x ∈ xs ++ [t.extract u (u + v)], x.size ≤ 9223372036854775807) := ⟨by rw [List.length_append, HX.out.1]; rfl, fun x hx => by
              rcases List.mem_append.1 hx with h | h
              · exact HX.out.2 x h
              · simp at h; subst h; exact (by omega)⟩
            have hz5 := HB5.out.size
            clear hst hown hd HO HB HX
            obtain ⟨ys, HO5', HX5'⟩ : ∃ ys : List ByteArray, Hid (w5.ownsRow w3.heap.size 9 1 (.slice (some ⟨g5, 0, none⟩) (n + 1) cap5) (n + 1) (ys.map Value.string)) ∧ Hid (ys.length = n + 1 ∧ ∀ x ∈ ys, x.size ≤ 9223372036854775807) := ⟨_, HO5, HX5⟩
            clear HO5 HX5
            go_wp2_with (at_builtin; refine wpList_append_two _ rfl _ _ 31 rfl w3.heap.size 9 j0 (.string ByteArray.empty) 16 Tryz.underlying31 hj hy0 hy1 hy2 rfl _ (n + 1) ((ys).map Value.string) rfl (HO5'.out.alloc _) ⟨w5.heap.size, 0, none⟩ 1 (.string (t.extract u (u + v) ++ ⟨#[97]⟩)) rfl ?c16 ?c26 ?c36 ?c46 ?c56 ?_)
            case c16 => exact cell_one_new _ _ _
            case c26 => rfl
            case c36 => unfold maxLen; omega
            case c46 => omega
            case c56 => simp; omega
            intro g6 cap6 w6 hown _ hd
            have hst := str_app HO5'.out HB5.out (Nat.le_refl _) hown hd
            have HO6 : Hid (w6.ownsRow w3.heap.size 9 1 (.slice (some ⟨g6, 0, none⟩) (n + 1 + 1) cap6) (n + 1 + 1) ((ys ++ [t.extract u (u + v) ++ ⟨#[97]⟩]).map Value.string)) := hst.1
            have HB6 : Hid (Below w3.heap.size w3 w6) := hst.2
            have HX6 : Hid ((ys ++ [t.extract u (u + v) ++ ⟨#[97]⟩]).length = n + 1 + 1 ∧ ∀ x ∈ ys ++ [t.extract u (u + v) ++ ⟨#[97]⟩], x.size ≤ 9223372036854775807) := ⟨by rw [List.length_append, HX5'.out.1]; rfl, fun x hx => by
              rcases List.mem_append.1 hx with h | h
              · exact HX5'.out.2 x h
              · simp at h; subst h; exact (by omega)⟩
            have hz6 := HB6.out.size
            clear hst hown hd HO5' HB5 HX5'
            go_wp2
            exact ⟨⟨i + 2, n + 1 + 1, cap6, _, _, by omega, by omega, by go_num, rfl, HX6, HO6, HB6⟩, by simp [intOf]; omega⟩
          have hout2 : ¬ (i : Int) + 1 < (m : Int) ∨ ((i : Int) + 1 < (m : Int) ∧ ¬ (i : Int) < 20) := by omega
          have hn33 : n ≤ 33 := by omega
          clear hlt2 hn
          focus
          rcases hout2 with d1 | ⟨d1, d2⟩
          all_goals
            clear HC HT
            go_wp2
            clear hi d1
            try clear d2
            obtain ⟨Wo, rfl⟩ : ∃ W, W = wr := ⟨_, rfl⟩
            go_loopw [18, 19, 20] (fun iv _ _ wr => ∃ i3 : Nat, i3 ≤ n ∧ iv = .int .i64 i3 ∧ Hid (Below Wo.heap.size Wo wr)) (fun iv _ _ _ => n - (intOf iv).toNat)
            case atStart => exact ⟨0, by omega, rfl, Below.refl _ _⟩
            case round =>
              obtain ⟨i3, hi3, rfl, HQ⟩ := hrel
              have hzq := HQ.out.size
              have HBQ : Hid (Below w3.heap.size w3 wr) := HB.out.trans (HQ.out.mono hzr2)
              by_cases hl3 : i3 < n
              · have e1 : (i3 : Int) < (n : Int) := by omega
                obtain ⟨x3, hx3⟩ : ∃ x3, xs[i3]? = some x3 := ⟨_, List.getElem?_eq_getElem (by rw [HX.out.1]; exact hl3)⟩
                have hx3s := HX.out.2 x3 (List.mem_of_getElem? hx3)
                obtain ⟨g3, cap3, hsl, _, _⟩ := HO.out.form (by omega)
                have hcell := HO.out.cells (g := g3) (by rw [hsl]; rfl) i3 _ (by rw [List.getElem?_map, hx3]; rfl)
                have hgl : g3 < Wo.heap.size := (HO.out.lt g3 (by rw [hsl]; rfl)).2
                injection hsl with f1 f2 f3
                subst f1 f3
                have e9 : (⟨g3, 0, none⟩ : Addr).add i3 = ⟨g3, i3, none⟩ := by
                  unfold Addr.add
                  by_cases h0 : i3 = 0
                  · subst h0; simp
                  · simp [h0]
                rw [e9] at hcell
                have kq := (HQ.out.cell (p := ⟨g3, i3, none⟩) hgl).trans hcell
                have HPXq : Hid (PI w'.heap.size w1.heap.size bx t rx wr) := hI.keep (fun _ => False) _ _ _ _ _ _ _ HPX.out (Kept.of_below HBQ.out (Nat.le_refl _) (fun _ => False)) (fun _ _ _ h => h)
                have HPYq : Hid (PI w1.heap.size w2.heap.size by' t ry wr) := hI.keep (fun _ => False) _ _ _ _ _ _ _ HPY.out (Kept.of_below HBQ.out (Nat.le_refl _) (fun _ => False)) (fun _ _ _ h => h)
                have hr1 := kright_any hI hW t x3 hs hx3s _ _ bx rx HOKx.out wr HPXq.out
                clear hcell hx3 e9
                go_wp2_with fail
                refine hr1.mono ?_
                rintro e w7 ⟨rfl, hB7⟩
                have HPYr : Hid (PI w1.heap.size w2.heap.size by' t ry w7) := hI.keep (fun _ => False) _ _ _ _ _ _ _ HPYq.out (Kept.of_below hB7 (Nat.le_refl _) (fun _ => False)) (fun _ _ _ h => h)
                have kr := (hB7.cell (p := ⟨g3, i3, none⟩) (cell_block kq)).trans kq
                have HQ7 : Hid (Below Wo.heap.size Wo w7) := HQ.out.trans (hB7.mono hzq)
                have hr2 := kright_any hI hW t x3 hs hx3s _ _ by' ry HOKy.out w7 HPYr.out
                clear hr1 hB7 kq HPXq HPYq HBQ
                go_wp2_with fail
                refine hr2.mono ?_
                rintro e w8 ⟨rfl, hB8⟩
                have HQ8 : Hid (Below Wo.heap.size Wo w8) := HQ7.out.trans (hB8.mono HQ7.out.size)
                clear hr2 hB8 kr HPYr HQ7
                go_wp2
                exact ⟨⟨i3 + 1, by omega, by go_num, HQ8⟩, by simp [intOf]; omega⟩
              · have e1 : ¬ (i3 : Int) < (n : Int) := by omega
                go_wp2
                go_ret
                exact ⟨rfl, HB3.out.trans (HBQ.out.mono hz3)⟩

end Go.Proofs.YtopihgmemnokkaaGreat

