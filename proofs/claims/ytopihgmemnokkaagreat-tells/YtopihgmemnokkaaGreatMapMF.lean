import Derived.Test.YtopihgmemnokkaaGreatBitW2F
import Derived.WideKeyMaps
import Derived.DeepKeys4
namespace Go.Proofs.YtopihgmemnokkaaGreat
open Go.RowKit Go.WideMaps

theorem Tryz.tysize : ∃ m, Tryz.prog.types.size = m + 1 := ⟨Tryz.prog.types.size - 1, by
  have : 0 < Tryz.prog.types.size := of_decide_eq_true (by kernel_rfl)
  omega⟩
theorem runKeyType : Tryz.prog.keyTypeAt 2 114 = true := by kernel_rfl
theorem runTiled : Tryz.prog.tiled 2 114 = true := by kernel_rfl
theorem runCells : Tryz.prog.cellsOf 114 = 2 := by kernel_rfl
theorem runIsKey : Tryz.prog.keyType 114 = true := by kernel_rfl
theorem runLaw : KeyLaw Tryz.prog 114 := deep_law (m := 2) (by omega) runKeyType runTiled (by rw [Tryz.underlying114])
theorem intCells : Tryz.prog.cellsOf 3 = 1 := by kernel_rfl
theorem u64Cells : Tryz.prog.cellsOf 112 = 1 := by kernel_rfl
theorem run_key {n b : Nat} (hn : n < 9223372036854775808) (hb : b < 18446744073709551616) : ∃ l, keyOf Tryz.prog 114 (runV n b) = some l := by
  obtain ⟨m, hm⟩ := Tryz.tysize
  have hf : (runV n b).formed Tryz.prog 114 = true := by simp [runV, Value.formed, Tryz.underlying114, runCells]
  refine ⟨.string (keyBytes [.int .i64 (n : Nat), .int .u64 (b : Nat)]), ?_⟩
  unfold keyOf
  simp only [Tryz.underlying114, runIsKey, hf, Bool.and_self, if_true, hm]
  unfold runV
  simp [Program.keyLits, Tryz.underlying114, Tryz.underlying3, Tryz.underlying112, runCells, intCells, u64Cells, Value.cells, Lit.wf]
  have e1 : IntKind.i64.min ≤ (n : Int) ∧ (n : Int) ≤ 9223372036854775807 := ⟨Int.le_trans (by decide) (Int.natCast_nonneg n), by omega⟩
  have e2 : IntKind.u64.min ≤ (b : Int) ∧ (b : Int) ≤ IntKind.u64.max := ⟨Int.le_trans (by decide) (Int.natCast_nonneg b), by show (b : Int) ≤ 18446744073709551615; omega⟩
  rw [if_pos e1, if_pos e2]
  rfl

theorem runV_inj {a b c d : Nat} (h : runV a b = runV c d) : a = c ∧ b = d := by
  have h1 := congrArg Array.toList (Value.agg.inj h)
  simp at h1
  exact ⟨by omega, by omega⟩
/-- bytes by their codes, of the first m bytes -/
def Byt (w : World) (r : Nat) (G : Nat → Nat × Nat) (m : Nat) : Prop :=
  ∃ (es : Array MapEntry) (clock : Nat), w.heap[r]? = some (.map es clock) ∧ (∀ e ∈ es.toList, ∃ c, c < m ∧ 0 < (G c).1 ∧ e.key = runV (G c).1 (G c).2 ∧ e.val = .int .u8 (c : Nat)) ∧
    ∀ c, c < m → 0 < (G c).1 → ∃ e ∈ es.toList, e.key = runV (G c).1 (G c).2
theorem Byt.lt {w : World} {r : Nat} {G : Nat → Nat × Nat} {m : Nat} (h : Byt w r G m) : r < w.heap.size := by
  obtain ⟨es, clock, h, _⟩ := h
  exact (Array.getElem?_eq_some_iff.1 h).1
theorem Byt.keep {P : Nat → Prop} {w w' : World} {r : Nat} {G : Nat → Nat × Nat} {m : Nat} (h : Byt w r G m) (hk : Kept P w w') (hn : ¬ P r) : Byt w' r G m := by
  have hl := h.lt
  obtain ⟨es, clock, h1, h2⟩ := h
  exact ⟨es, clock, by rw [hk.block r hl hn]; exact h1, h2⟩
theorem Byt.skip {w : World} {r : Nat} {G : Nat → Nat × Nat} {m : Nat} (h : Byt w r G m) (h0 : (G m).1 = 0) : Byt w r G (m + 1) := by
  obtain ⟨es, clock, h1, h2, h3⟩ := h
  refine ⟨es, clock, h1, fun e he => ?_, fun c hc hp => ?_⟩
  · obtain ⟨c, hc, h⟩ := h2 e he
    exact ⟨c, by omega, h⟩
  · by_cases e : c = m
    · subst e; omega
    · exact h3 c (by omega) hp
/-- codes that are numbers of the machine -/
def Sized (G : Nat → Nat × Nat) : Prop := ∀ c, (G c).1 ≤ 64 ∧ (G c).2 < 18446744073709551616
theorem Byt.put {w : World} {r : Nat} {G : Nat → Nat × Nat} {m : Nat} (h : Byt w r G m) (hG : Sized G) (hm : 0 < (G m).1) :
    ∃ w', (Instr.mapUpdate 116 (.map (some r)) (runV (G m).1 (G m).2) (.int .u8 (m : Nat))).run Tryz.prog w = .ok () w' ∧ Byt w' r G (m + 1) ∧ Kept (fun k => k = r) w w' ∧ w'.heap.size = w.heap.size := by
  obtain ⟨es, clock, h1, h2, h3⟩ := h
  obtain ⟨l, hl⟩ := run_key (n := (G m).1) (b := (G m).2) (by have := (hG m).1; omega) (hG m).2
  have hlt := (Array.getElem?_eq_some_iff.1 h1).1
  have hkeys : ∀ e ∈ es.toList, ∃ l, keyOf Tryz.prog 114 e.key = some l := fun e he => by
    obtain ⟨c, _, _, hk, _⟩ := h2 e he
    rw [hk]; exact run_key (by have := (hG c).1; omega) (hG c).2
  have hkept : ∀ o : Obj, Kept (fun k => k = r) w { w with heap := w.heap.setIfInBounds r o } := fun o =>
    ⟨rfl, rfl, rfl, by simp, fun k _ hn => by simp [Array.getElem?_setIfInBounds]; intro e; exact absurd e.symm hn⟩
  rcases runLaw.find w hl es.toList hkeys with ⟨f1, f2⟩ | ⟨j, e0, f1, f2, f3⟩
  · refine ⟨_, by simp [Instr.mapUpdate, run_underlying Tryz.underlying116, MapKept.run_getObj_map h1, runLaw.check w false hl, f1, MapKept.run_setObj_map _ h1, Result.andThen]; rfl, ⟨es.push ⟨runV (G m).1 (G m).2, .int .u8 (m : Nat), clock⟩, clock + 1, by simp [hlt], fun e he => ?_, fun c hc hp => ?_⟩, hkept _, by simp⟩
    · simp only [Array.toList_push, List.mem_append, List.mem_singleton] at he
      rcases he with he | rfl
      · obtain ⟨c, hc, h⟩ := h2 e he
        exact ⟨c, by omega, h⟩
      · exact ⟨m, by omega, hm, rfl, rfl⟩
    · by_cases e : c = m
      · subst e; exact ⟨⟨runV (G c).1 (G c).2, .int .u8 (c : Nat), clock⟩, by simp, rfl⟩
      · obtain ⟨x, hx, hk⟩ := h3 c (by omega) hp
        exact ⟨x, by simp at hx ⊢; exact .inl hx, hk⟩
  · have hj : es[j]? = some e0 := by simpa using f2
    refine ⟨_, by simp [Instr.mapUpdate, run_underlying Tryz.underlying116, MapKept.run_getObj_map h1, runLaw.check w false hl, f1, hj, f3, runLaw.stays w hl, MapKept.run_setObj_map _ h1, Result.andThen]; rfl, ⟨es.modify j (fun e' => { e' with key := runV (G m).1 (G m).2, val := .int .u8 (m : Nat) }), clock, by simp [hlt], fun e he => ?_, fun c hc hp => ?_⟩, hkept _, by simp⟩
    · rcases MapFrom.mem_modify he with he | ⟨e', _, rfl⟩
      · obtain ⟨c, hc, h⟩ := h2 e he
        exact ⟨c, by omega, h⟩
      · exact ⟨m, by omega, hm, rfl, rfl⟩
    · have hjl := (Array.getElem?_eq_some_iff.1 hj).1
      have hmod : ({ e0 with key := runV (G m).1 (G m).2, val := Value.int .u8 (m : Nat) } : MapEntry) ∈ (es.modify j (fun e' => { e' with key := runV (G m).1 (G m).2, val := .int .u8 (m : Nat) })).toList := by
        rw [Array.mem_toList_iff]
        refine Array.mem_of_getElem? (i := j) ?_
        rw [Array.getElem?_modify, if_pos rfl, hj]; rfl
      by_cases e : c = m
      · subst e; exact ⟨_, hmod, rfl⟩
      · obtain ⟨x, hx, hk⟩ := h3 c (by omega) hp
        obtain ⟨i, hi⟩ := List.mem_iff_getElem?.1 hx
        have hi' : es[i]? = some x := by simpa using hi
        by_cases ej : j = i
        · subst ej
          rw [hj] at hi'
          have : e0 = x := Option.some.inj hi'
          subst this
          exact ⟨_, hmod, by rw [← hk, f3]⟩
        · refine ⟨x, ?_, hk⟩
          rw [Array.mem_toList_iff]
          refine Array.mem_of_getElem? (i := i) ?_
          rw [Array.getElem?_modify, if_neg ej]; exact hi'
theorem Byt.hit {w : World} {r : Nat} {G : Nat → Nat × Nat} (h : Byt w r G 256) (hG : Sized G) (hi : ∀ c d, c < 256 → d < 256 → 0 < (G c).1 → G c = G d → c = d) {c : Nat} (hc : c < 256) (hp : 0 < (G c).1) (ok : Bool) :
    (Instr.lookup 116 (.map (some r)) (runV (G c).1 (G c).2) ok).run Tryz.prog w = .ok (if ok then .tuple #[.int .u8 (c : Nat), .bool true] else .int .u8 (c : Nat)) w := by
  obtain ⟨es, clock, h1, h2, h3⟩ := h
  obtain ⟨l, hl⟩ := run_key (n := (G c).1) (b := (G c).2) (by have := (hG c).1; omega) (hG c).2
  have hkeys : ∀ e ∈ es.toList, ∃ l, keyOf Tryz.prog 114 e.key = some l := fun e he => by
    obtain ⟨c, _, _, hk, _⟩ := h2 e he
    rw [hk]; exact run_key (by have := (hG c).1; omega) (hG c).2
  rcases runLaw.find w hl es.toList hkeys with ⟨f1, f2⟩ | ⟨j, e0, f1, f2, f3⟩
  · obtain ⟨e, he, hk⟩ := h3 c hc hp
    exact absurd hk (f2 e he)
  · obtain ⟨d, hd, hdp, hk, hv⟩ := h2 e0 (List.mem_of_getElem? f2)
    have : d = c := by
      refine (hi c d hc hd hp ?_).symm
      rw [f3] at hk
      have hk2 := runV_inj hk
      exact Prod.ext hk2.1 hk2.2
    subst this
    rw [hv] at f1
    simp [Instr.lookup, run_underlying Tryz.underlying116, MapKept.run_getObj_map h1, runLaw.check w _ hl, f1, Result.andThen]
theorem Byt.miss {w : World} {r : Nat} {G : Nat → Nat × Nat} (h : Byt w r G 256) (hG : Sized G) {n b : Nat} (hn : n ≤ 64) (hb : b < 18446744073709551616) (hno : ∀ c, c < 256 → 0 < (G c).1 → G c ≠ (n, b)) (ok : Bool) :
    (Instr.lookup 116 (.map (some r)) (runV n b) ok).run Tryz.prog w = .ok (if ok then .tuple #[.int .u8 0, .bool false] else .int .u8 0) w := by
  obtain ⟨es, clock, h1, h2, h3⟩ := h
  obtain ⟨l, hl⟩ := run_key (n := n) (b := b) (by omega) hb
  have hkeys : ∀ e ∈ es.toList, ∃ l, keyOf Tryz.prog 114 e.key = some l := fun e he => by
    obtain ⟨c, _, _, hk, _⟩ := h2 e he
    rw [hk]; exact run_key (by have := (hG c).1; omega) (hG c).2
  rcases runLaw.find w hl es.toList hkeys with ⟨f1, f2⟩ | ⟨j, e0, f1, f2, f3⟩
  · simp [Instr.lookup, run_underlying Tryz.underlying116, MapKept.run_getObj_map h1, runLaw.check w _ hl, f1, Result.andThen]
  · obtain ⟨d, hd, hdp, hk, hv⟩ := h2 e0 (List.mem_of_getElem? f2)
    refine absurd ?_ (hno d hd hdp)
    rw [f3] at hk
    have hk2 := runV_inj hk
    exact (Prod.ext hk2.1 hk2.2).symm

end Go.Proofs.YtopihgmemnokkaaGreat

