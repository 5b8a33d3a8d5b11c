import Derived.Test.YtopihgmemnokkaaGreatRows
import Derived.Test.YtopihgmemnokkaaGreatLaw5F
import Derived.Test.YtopihgmemnokkaaGreatOwnF
import Derived.Deep.Slices
import Derived.JoinedCond
import Derived.OpenShut
namespace Go.Proofs.YtopihgmemnokkaaGreat
open Go.ChangeShapes Go.WideShapes Go.ChangeAt Go.RowKit

theorem Tryz.laidOut : laidOutB Tryz.prog = true := by kernel_rfl

section
variable {H : Type} {enc : TypeId × Value → H} {P : Program} {w : World} {base : Nat} {spare : Nat → Bool} {held : Bool}

/-- a slice of structs of five cells, opened -/
theorem open_fives {t e : TypeId} {f0 f1 f2 f3 f4 : Field} {fuel : Nat} {cs : List Value} {x : DataW H × List MemPlace} (ht : P.underlying t = some (.slice e)) (he : P.underlying e = some (.struct #[f0, f1, f2, f3, f4]))
    (ce : P.cellsOf e = 5) (o0 : f0.offset = 0) (o1 : f1.offset = 1) (o2 : f2.offset = 2) (o3 : f3.offset = 3) (o4 : f4.offset = 4)
    (c0 : P.cellsOf f0.type = 1) (c1 : P.cellsOf f1.type = 1) (c2 : P.cellsOf f2.type = 1) (c3 : P.cellsOf f3.type = 1) (c4 : P.cellsOf f4.type = 1)
    (h : DataW.trod enc P w base spare held fuel t cs = some x) :
    (cs = [.slice none 0 0] ∧ x = (.nil, [])) ∨
    ∃ (a : Addr) (len cap : Nat) (D : Nat → DataW H) (sp : List (DataW H)), cs = [.slice (some a) len cap] ∧ len ≤ cap ∧ x.1 = .slice ((List.range len).map D) sp ∧
      ∀ i, i < len → ∃ (n : Nat) (v0 v1 v2 v3 v4 : Value) (y0 y1 y2 y3 y4 : DataW H × List MemPlace),
        w.cell? (a.add (i * 5)) = some v0 ∧ w.cell? ((a.add (i * 5)).add 1) = some v1 ∧ w.cell? ((a.add (i * 5)).add 2) = some v2 ∧ w.cell? ((a.add (i * 5)).add 3) = some v3 ∧ w.cell? ((a.add (i * 5)).add 4) = some v4 ∧
        DataW.trod enc P w base spare held n f0.type [v0] = some y0 ∧ DataW.trod enc P w base spare held n f1.type [v1] = some y1 ∧ DataW.trod enc P w base spare held n f2.type [v2] = some y2 ∧ DataW.trod enc P w base spare held n f3.type [v3] = some y3 ∧ DataW.trod enc P w base spare held n f4.type [v4] = some y4 ∧ D i = .agg [y0.1, y1.1, y2.1, y3.1, y4.1] := by
  rcases Go.Deep.open_slice ht h with h0 | ⟨a, len, cap, m, n, D, Pl, rfl, hb, hl, hm, hmm, rfl, hx⟩
  · exact Or.inl h0
  right
  have hlm : len ≤ m := by rw [hmm]; split <;> omega
  refine ⟨a, len, cap, D, _, rfl, hl, rfl, ?_⟩
  intro i hi
  obtain ⟨cs', h1, h2⟩ := hx i (by omega)
  rw [ce] at h1
  obtain ⟨_, hlen, hcell⟩ := World.cells?_some h1
  obtain ⟨xs, k, hk, hxy, _, hxl, hf⟩ := DataW.trod_struct he h2
  match xs, hxl, cs', hlen with
  | [y0, y1, y2, y3, y4], _, [v0, v1, v2, v3, v4], _ =>
    have g0 := hf 0 f0 rfl
    have g1 := hf 1 f1 rfl
    have g2 := hf 2 f2 rfl
    have g3 := hf 3 f3 rfl
    have g4 := hf 4 f4 rfl
    simp [o0, o1, o2, o3, o4, c0, c1, c2, c3, c4] at g0 g1 g2 g3 g4
    have e0 := hcell 0 (by omega)
    have e1 := hcell 1 (by omega)
    have e2 := hcell 2 (by omega)
    have e3 := hcell 3 (by omega)
    have e4 := hcell 4 (by omega)
    exact ⟨k, v0, v1, v2, v3, v4, y0, y1, y2, y3, y4, by simpa [Addr.add] using e0, by simpa using e1, by simpa using e2, by simpa using e3, by simpa using e4, g0, g1, g2, g3, g4, by have := congrArg Prod.fst hxy; simpa using this⟩
end

theorem bulk_pos {H : Type} : ∀ d : DataW H, 0 < Rows.uptoBulk d
  | .lit (.string _) => by simp only [Rows.uptoBulk]; omega
  | .lit .nil => by simp only [Rows.uptoBulk]; omega
  | .lit (.bool _) => by simp only [Rows.uptoBulk]; omega
  | .lit (.int _ _) => by simp only [Rows.uptoBulk]; omega
  | .lit (.float _ _) => by simp only [Rows.uptoBulk]; omega
  | .nil => by simp only [Rows.uptoBulk]; omega
  | .ptr _ => by simp only [Rows.uptoBulk]; omega
  | .slice _ _ => by simp only [Rows.uptoBulk]; omega
  | .agg _ => by simp only [Rows.uptoBulk]; omega
  | .iface _ _ => by simp only [Rows.uptoBulk]; omega
  | .map _ => by simp only [Rows.uptoBulk]; omega
  | .held _ => by simp only [Rows.uptoBulk]; omega

theorem bulk_length {H : Type} : ∀ l : List (DataW H), l.length ≤ Rows.uptoBulkAll l
  | [] => by simp only [Rows.uptoBulkAll, List.length_nil]; omega
  | d :: l => by
    have h1 := bulk_pos d
    have h2 := bulk_length l
    simp only [Rows.uptoBulkAll, List.length_cons]; omega

theorem bulk_mem {H : Type} {d : DataW H} : ∀ {l : List (DataW H)}, d ∈ l → Rows.uptoBulk d ≤ Rows.uptoBulkAll l
  | [], h => by simp at h
  | e :: l, h => by
    simp only [Rows.uptoBulkAll]
    rcases List.mem_cons.1 h with rfl | h
    · omega
    · have := bulk_mem h; omega

theorem script_of {H : Type} {enc : TypeId × Value → H} {W : World} {v : Value} {fuel : Nat} {x : DataW H × List MemPlace} (h : DataW.trod enc Tryz.prog W 0 (fun _ => true) true fuel 22 [v] = some x) (hx5 : Rows.uptoBulk x.1 ≤ 1048576) :
    ∃ n, Script2 W v n ∧ (∀ a, v.ownBlock = some a → 0 < n → a < W.heap.size) ∧ n ≤ Rows.uptoBulk x.1 := by
  rcases open_fives Tryz.underlying22 Tryz.underlying36 (by kernel_rfl) rfl rfl rfl rfl rfl (by kernel_rfl) (by kernel_rfl) (by kernel_rfl) (by kernel_rfl) (by kernel_rfl) h with ⟨hcs, _⟩ | ⟨a, len, cap, D, sp, hcs, hl, hx, hel⟩
  · have hv : v = .slice none 0 0 := by simpa using hcs
    exact ⟨0, ⟨.inl ⟨hv, rfl⟩⟩, fun _ _ h => by omega, Nat.zero_le _⟩
  · have hv : v = .slice (some a) len cap := by simpa using hcs
    have hS : ∀ i, i < len → ∃ (K A B C : Int) (s : ByteArray),
        W.cell? (a.add (i * 5)) = some (.int .i64 K) ∧ W.cell? ((a.add (i * 5)).add 1) = some (.int .i64 A) ∧ W.cell? ((a.add (i * 5)).add 2) = some (.int .i64 B) ∧ W.cell? ((a.add (i * 5)).add 3) = some (.int .i64 C) ∧ W.cell? ((a.add (i * 5)).add 4) = some (.string s) ∧
        s.size ≤ 1099511627776 ∧ (-9223372036854775808 ≤ C ∧ C ≤ 9223372036854775807) ∧ (-9223372036854775808 ≤ A ∧ A ≤ 9223372036854775807) ∧ (-9223372036854775808 ≤ B ∧ B ≤ 9223372036854775807) := by
      intro i hi
      obtain ⟨n, v0, v1, v2, v3, v4, y0, y1, y2, y3, y4, k0, k1, k2, k3, k4, g0, g1, g2, g3, g4, hD⟩ := hel i hi
      obtain ⟨K, e0, _⟩ := DataW.trod_int Tryz.underlying3 g0
      obtain ⟨A, e1, _, wA⟩ := DataW.trod_int Tryz.underlying3 g1
      obtain ⟨B, e2, _, wB⟩ := DataW.trod_int Tryz.underlying3 g2
      obtain ⟨C, e3, _, wC⟩ := DataW.trod_int Tryz.underlying3 g3
      obtain ⟨s, e4, hy4, _⟩ := DataW.trod_string Tryz.underlying9 g4
      have e0 : v0 = .int .i64 K := by simpa using e0
      have e1 : v1 = .int .i64 A := by simpa using e1
      have e2 : v2 = .int .i64 B := by simpa using e2
      have e3 : v3 = .int .i64 C := by simpa using e3
      have e4 : v4 = .string s := by simpa using e4
      subst e0 e1 e2 e3 e4
      have rng : ∀ {z : Int}, (Lit.int .i64 z).wf = true → -9223372036854775808 ≤ z ∧ z ≤ 9223372036854775807 := fun {z} wf => by simpa [Lit.wf, IntKind.min, IntKind.max, IntKind.signed, IntKind.bits] using wf
      have hb1 : Rows.uptoBulk (D i) ≤ Rows.uptoBulkAll ((List.range len).map D) := bulk_mem (List.mem_map_of_mem (List.mem_range.2 hi))
      have hb2 : Rows.uptoBulk y4.1 ≤ Rows.uptoBulk (D i) := by
        rw [hD]
        have := bulk_mem (d := y4.1) (l := [y0.1, y1.1, y2.1, y3.1, y4.1]) (by simp)
        simp only [Rows.uptoBulk]; omega
      have hb3 : s.size + 1 = Rows.uptoBulk y4.1 := by rw [hy4]; simp only [Rows.uptoBulk]; show s.data.size + 1 = s.data.toList.length + 1; rw [Array.length_toList]
      rw [hx] at hx5
      simp only [Rows.uptoBulk] at hx5
      exact ⟨K, A, B, C, s, k0, k1, k2, k3, k4, by omega, rng wC, rng wA, rng wB⟩
    refine ⟨len, ⟨.inr ⟨a, cap, hv, hl, hS⟩⟩, ?_, ?_⟩
    · intro g hg h0
      rw [hv] at hg
      have hg' : a.block = g := by simpa [Value.ownBlock] using hg
      obtain ⟨K, _, _, _, _, k0, _⟩ := hS 0 h0
      have := World.block_lt_of_cell? W _ k0
      rw [addBlock, hg'] at this
      exact this
    · rw [hx]
      have h1 := bulk_length ((List.range len).map D)
      rw [List.length_map, List.length_range] at h1
      simp only [Rows.uptoBulk]
      omega

set_option maxRecDepth 100000 in
theorem coded_lifted (os : Os) (started : os.Started) (H : Type) (enc : TypeId × Value → H) (F : Stop.Interp) :
    ReturnsInHanded {} Tryz.checked os 4 .any ((Rows.OpenSpec.upto Rows.codedSpec).pre6 enc Tryz.prog Tryz.f4 Rows.codedUptoRow.domain false) (((Rows.OpenSpec.upto Rows.codedSpec).at F).post enc Tryz.prog Tryz.f4 false true false false) := by
  refine returnsInHanded_of_cond (C := Tryz.checked) (s := Rows.OpenSpec.upto Rows.codedSpec) (k := Rows.uptoSmall) rfl Tryz.own started (by kernel_rfl) Tryz.func4
    (OpenSpec.witness (enc := enc) (C := Tryz.checked) (s := Rows.OpenSpec.upto Rows.codedSpec) (k := Rows.uptoSmall) rfl false ⟨#[], #[.slice none 0 0], []⟩ 8 (by kernel_rfl) (by kernel_rfl) (by kernel_rfl)
      (x := ([.nil], [], [])) (by kernel_rfl) rfl (by kernel_rfl)) ?_
  intro W base args ds gs before hval0 hW _ hk _
  have hW' := hW
  obtain ⟨p, q, hA0, hV, rfl, hfz, hnd⟩ := hW
  have hA : DataW.TrodAll enc Tryz.prog W 0 (fun _ => true) true Tryz.f4.params.toList args.toList ds p := hA0
  have hval : ∀ (j : Nat) t v, Tryz.f4.params[j]? = some t → args[j]? = some v → Value.okWide Tryz.prog W .any base t v := hval0
  rw [Tryz.params4] at hA hval
  obtain ⟨v0, d0, rfl, rfl, h0⟩ := trodAll_one hA
  obtain ⟨rfl, rfl⟩ := trodVars_none hV
  obtain ⟨a0, len, cap, rfl⟩ := okWide_slice Tryz.underlying22 (hval 0 22 v0 rfl rfl)
  have h0k := h0
  obtain ⟨fuel, hf⟩ := h0
  clear hA0 hval0
  simp only [List.append_nil] at hW' hk
  have hlt : ∀ x ∈ p, x.block < W.heap.size := fun x hx => by simpa using hW'.lt x hx
  have hbk : Rows.uptoBulkAll [d0] ≤ 1048576 := of_decide_eq_true hk
  simp only [Rows.uptoBulkAll] at hbk
  obtain ⟨n, hS, hlow, hbn⟩ := script_of hf (by show Rows.uptoBulk d0 ≤ _; omega)
  refine (coded2_any _ n W hS hlow (by have : n ≤ Rows.uptoBulk d0 := hbn; omega)).mono fun e W' ⟨he, hb⟩ => ?_
  subst he
  exact ⟨_, rfl, _, _, _, [], p, [], hW', trodAll_mk1 (shut_bool Tryz.underlying4 _), trodAll_mk1 (Below.trod Tryz.laidOut (by kernel_rfl) (of_decide_eq_true (by kernel_rfl)) h0k hb hlt), rfl, hb.frame _, fun h => by cases h⟩

theorem coded_holds : Rows.CodedUptoSaid :=
  OpenClaim.holds_of_cond 4 Tryz.f4 rfl rfl rfl rfl rfl rfl rfl ⟨rfl, rfl, rfl, rfl, rfl⟩ rfl rfl rfl rfl rfl (by kernel_rfl) Tryz.func4 (by kernel_rfl)
    (of_decide_eq_true (by kernel_rfl)) (by unfold Func.isWrapper; first | (rw [if_pos (by decide +kernel)]; kernel_rfl) | (rw [if_neg (by decide +kernel)]; exact ⟨rfl, rfl⟩))
    (fun os started H enc _ F => coded_lifted os started H enc F)

end Go.Proofs.YtopihgmemnokkaaGreat

