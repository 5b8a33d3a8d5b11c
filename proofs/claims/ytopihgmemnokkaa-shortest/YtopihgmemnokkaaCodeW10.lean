import Derived.Test.YtopihgmemnokkaaCodeW9
namespace Go.Proofs.Ytopihgmemnokkaa
open Go.RowKit Go.Shelf Go.Lib

def noRun : Nat → Nat × Nat := fun _ => (0, 0)

/-- the codes of bytes that are there so often -/
def CodesOf (f : Nat → Nat) (G : Nat → Nat × Nat) : Prop :=
  (leavesTo f 256 = [] ∧ G = noRun) ∨ (∃ c, c < 256 ∧ leavesTo f 256 = [.leaf c] ∧ G = updR noRun c (1, 0)) ∨
  (2 ≤ (leavesTo f 256).length ∧ ∃ l, l.Perm (leavesTo f 256) ∧ Hf.Inv f l ∧ G = spellF (Hf.join f l) 0 0 noRun)

theorem leaves_mem {f : Nat → Nat} {k : Nat} {t : Hf.T} (h : t ∈ leavesTo f k) : ∃ c, t = .leaf c ∧ c < k ∧ 0 < f c := by
  unfold leavesTo at h
  simp at h
  obtain ⟨c, ⟨h1, h2⟩, rfl⟩ := h
  exact ⟨c, rfl, h1, h2⟩
theorem leaves_flat (f : Nat → Nat) (k : Nat) : (leavesTo f k).flatMap Hf.bytes = (List.range k).filter fun c => decide (0 < f c) := by
  unfold leavesTo
  rw [List.flatMap_map]
  have : ∀ l : List Nat, l.flatMap (fun c => Hf.bytes (.leaf c)) = l := fun l => by
    induction l with
    | nil => rfl
    | cons a l ih => rw [List.flatMap_cons, ih]; rfl
  exact this _
theorem leaves_nodup (f : Nat → Nat) (k : Nat) : ((leavesTo f k).flatMap Hf.bytes).Nodup := by
  rw [leaves_flat]; exact List.Pairwise.filter _ List.nodup_range
theorem leaves_len (f : Nat → Nat) (k : Nat) : (leavesTo f k).length ≤ k := by
  unfold leavesTo
  rw [List.length_map]
  have h2 := List.length_filter_le (fun c => decide (0 < f c)) (List.range k)
  rw [List.length_range] at h2
  omega

theorem rowR_one (g : Nat → Nat × Nat) : (rowR g).all (·.oneCell') = true := by
  rw [Array.all_eq_true_iff_forall_mem]
  intro x hx
  unfold rowR at hx
  simp at hx
  obtain ⟨a, _, rfl⟩ := hx
  split <;> rfl

set_option maxRecDepth 100000 in
set_option maxHeartbeats 1000000 in
theorem of_anyG (f : Nat → Nat) (w : World) (hw : ∀ t, (Hf.bytes t).Nodup → (∀ c ∈ Hf.bytes t, c < 256) → Hf.wt f t ≤ 17000000) (hf : ∀ c, f c ≤ 1000000) :
    Calls Try.prog 46 #[.agg (rowC 256 f)] w fun e w' => (∃ G, e = .returned (.agg (rowR G)) ∧ CodesOf f G) ∧ Below w.heap.size w w' := by
  have HW : Hid _ := hw
  have HF : Hid _ := hf
  clear hw hf
  go_enter Try.func46, Try.ntmps46
  go_wp2_with (first
    | (refine wpList_alloc_row rfl 89 rfl _ zero512 ?_)
    | (refine wpList_load_row rfl 32 _ rfl w.heap.size rfl 32 (rowC 256 f) (0, 0) _ (by rw [Below.heap_alloc _ _ _ (by simp; omega), Below.heap_alloc _ _ _ (by simp)]; exact heap_alloc_new w _) Try.underlying32 rfl (by rw [size_rowC]; exact size256) ?_)
    | fail)
  have hm2 : Made (((w.alloc (.cells (rowC 256 f) 32)).alloc (.cells (rowR fun _ => (0, 0)) 89)).alloc (.cells (rowR fun _ => (0, 0)) 89)) (w.heap.size + 2) noRun := heap_alloc_new' _ _ (by simp)
  have hm1 : Made (((w.alloc (.cells (rowC 256 f) 32)).alloc (.cells (rowR fun _ => (0, 0)) 89)).alloc (.cells (rowR fun _ => (0, 0)) 89)) (w.heap.size + 1) noRun := by
    unfold Made; rw [Below.heap_alloc _ _ _ (by simp)]; exact heap_alloc_new' _ _ (by simp)
  have hb0 : Below w.heap.size w (((w.alloc (.cells (rowC 256 f) 32)).alloc (.cells (rowR fun _ => (0, 0)) 89)).alloc (.cells (rowR fun _ => (0, 0)) 89)) :=
    (((Below.refl _ _).alloc (Nat.le_refl _) _).alloc (by simp) _).alloc (by simp; omega) _
  have hz0 : (((w.alloc (.cells (rowC 256 f) 32)).alloc (.cells (rowR fun _ => (0, 0)) 89)).alloc (.cells (rowR fun _ => (0, 0)) 89)).heap.size = w.heap.size + 3 := by simp
  refine (alone_any f _ HF.out).mono ?_
  generalize (((w.alloc (.cells (rowC 256 f) 32)).alloc (.cells (rowR fun _ => (0, 0)) 89)).alloc (.cells (rowR fun _ => (0, 0)) 89)) = w0 at *
  rintro e w1 ⟨vv, L, rfl, own, tr, bl1⟩
  have k1 := Kept.of_below bl1 (Nat.le_refl _) (fun _ => False)
  have HM2 : Hid (Made w1 (w.heap.size + 2) noRun) := hm2.keep k1 (fun h => h)
  have HM1 : Hid (Made w1 (w.heap.size + 1) noRun) := hm1.keep k1 (fun h => h)
  have HBL : Hid (Below w.heap.size w w1) := hb0.trans (bl1.mono (by omega))
  have HB1 : Hid (Below (w.heap.size + 3) w0 w1) := by rw [hz0] at bl1; exact bl1
  obtain ⟨va, vc, rfl⟩ := own_slice own
  have OW : Hid (w1.ownsRow w0.heap.size 104 1 (.slice va L.length vc) L.length (ptrs L)) := own
  have TR : Hid (Trees f w1 L (leavesTo f 256)) := tr
  have HLL : Hid (L.length = (leavesTo f 256).length) := tr.1
  have hL : L.length ≤ 256 := by rw [HLL.out]; exact leaves_len f 256
  have hz1 := bl1.size
  have HZ : Hid (w.heap.size + 3 ≤ w1.heap.size) := by show _ ≤ _; omega
  rw [hz0] at own
  have hlow := own.lt
  have HLOW : Hid _ := hlow
  clear own tr bl1 k1 hm1 hm2 hb0 hz0 hz1 hlow
  have h3 : L.length = 0 ∨ L.length = 1 ∨ 2 ≤ L.length := by omega
  rcases h3 with h0 | h1 | h2
  · have hnil : leavesTo f 256 = [] := List.length_eq_zero_iff.1 (by rw [← HLL.out]; exact h0)
    rw [h0]
    clear hL h0
    go_wp2_with (first
      | (refine wpList_load_row rfl 89 _ rfl (w.heap.size + 2) rfl 89 (rowR (noRun)) (0, 0) _ (by exact HM2.out) Try.underlying89 rfl (by rw [size_rowR]; exact size512) ?_)
      | (refine wpList_store_row rfl 89 _ _ rfl (w.heap.size + 1) (rowR (noRun)) rfl rfl 89 (rowR noRun) (by exact HM1.out) (by rw [size_rowR]; exact size512) (by simp only [size_rowR]) (rowR_one _) ?_))
    refine bodyPost_ret (results_cell_row Try.results46 _ _ (w.heap.size + 1) 89 (rowR (noRun)) (0, 0) _ rfl (setRow_heap _ _ _ _ _ _ HM1.out) Try.underlying89 rfl (by rw [size_rowR]; exact size512)) rfl ⟨⟨_, rfl, .inl ⟨hnil, rfl⟩⟩, ?_⟩
    exact below_setRow HBL.out (by omega) _
  · obtain ⟨b, hb⟩ : ∃ b, L = [b] := List.length_eq_one_iff.1 h1
    obtain ⟨t, ht⟩ : ∃ t, leavesTo f 256 = [t] := List.length_eq_one_iff.1 (by rw [← HLL.out]; exact h1)
    obtain ⟨c, rfl, hc, hfc⟩ := leaves_mem (f := f) (k := 256) (t := t) (by rw [ht]; simp)
    have hta : TreeAt f w1 (.leaf c) b := TR.out.2 0 b _ (by rw [hb]; rfl) (by rw [ht]; rfl)
    obtain ⟨g, cap, hva, _, hgl⟩ := OW.out.form (by omega)
    have hrow := prow_own (hva ▸ OW.out) rfl
    have c0 : w1.cell? ⟨g, 0, none⟩ = some (.pointer (some ⟨b, 0, none⟩)) := hrow.cells 0 b (by rw [hb]; rfl)
    have c1 := hta.c1
    have HT : Hid (leavesTo f 256 = [.leaf c]) := ht
    have HROW : Hid _ := hrow
    have hgM : g ≠ w.heap.size + 2 := by have := (HLOW.out g (by rw [hva]; rfl)).1; omega
    have hbM : b ≠ w.heap.size + 2 := by
      have := Made.tree HM2.out b _ hta
      exact this
    have hci : (c : Int) < 256 := by omega
    rw [hva, h1]
    clear ht hrow hta OW TR HLOW HLL hva hb h1 hL
    go_wp2
    have hS0 : w1.drew.cell? ⟨g, 0, none⟩ = some (.pointer (some ⟨b, 0, none⟩)) ∧ w1.drew.cell? ⟨b, 1, none⟩ = some (.int .u8 (c : Nat)) := ⟨c0, c1⟩
    refine wp_region_held_drew (S := fun w' => w'.cell? ⟨g, 0, none⟩ = some (.pointer (some ⟨b, 0, none⟩)) ∧ w'.cell? ⟨b, 1, none⟩ = some (.int .u8 (c : Nat))) (by kernel_rfl) hS0 (fun _ => ?_)
    refine wpAnyH_take (i := 0) (v := ?v0) rfl (by kernel_rfl) (by kernel_rfl) (by kernel_rfl) (fun _ _ _ h => h) (Or.inl ⟨by rfl, ?h0⟩) hS0 ?_
    case h0 => intro wq hS; obtain ⟨s1, s2⟩ := hS; go_simp; with_reducible rfl
    refine wpAnyH_take (i := 1) (v := ?v1) rfl (by kernel_rfl) (by kernel_rfl) (by kernel_rfl) (fun _ _ _ h => h) (Or.inl ⟨by rfl, ?h1⟩) hS0 ?_
    case h1 => intro wq hS; obtain ⟨s1, s2⟩ := hS; go_simp; with_reducible rfl
    refine wpAnyH_take (i := 2) (v := ?v2) rfl (by kernel_rfl) (by kernel_rfl) (by kernel_rfl) (fun _ _ _ h => h) (Or.inl ⟨by rfl, ?h2⟩) hS0 ?_
    case h2 => intro wq hS; obtain ⟨s1, s2⟩ := hS; go_simp; with_reducible rfl
    refine wpAnyH_take (i := 3) (v := ?v3) rfl (by kernel_rfl) (by kernel_rfl) (by kernel_rfl) (fun _ _ _ h => h) (Or.inl ⟨by rfl, ?h3⟩) hS0 ?_
    case h3 => intro wq hS; obtain ⟨s1, s2⟩ := hS; go_simp; with_reducible rfl
    refine wpAnyH_take (i := 4) (v := ?v4) rfl (by kernel_rfl) (by kernel_rfl) (by kernel_rfl) (fun _ _ _ h => h) (Or.inl ⟨by rfl, ?h4⟩) hS0 ?_
    case h4 => intro wq hS; obtain ⟨s1, s2⟩ := hS; go_simp; with_reducible rfl
    refine wpAnyH_take (i := 5) (v := ?v5) rfl (by kernel_rfl) (by kernel_rfl) (by kernel_rfl) (fun _ _ _ h => h) (Or.inl ⟨by rfl, ?h5⟩) hS0 ?_
    case h5 => intro wq hS; obtain ⟨s1, s2⟩ := hS; go_simp; with_reducible rfl
    refine wpAnyH_take (i := 6) (v := ?v6) rfl (by kernel_rfl) (by kernel_rfl) (by kernel_rfl) (fun _ _ _ h => h) (Or.inl ⟨by rfl, ?h6⟩) hS0 ?_
    case h6 => intro wq hS; obtain ⟨s1, s2⟩ := hS; go_simp; with_reducible rfl
    refine wpAnyH_ready (rs := [7]) (by kernel_rfl) (by simp) ?_
    refine AllReadyH.cons rfl (fun K hK => ?_) AllReadyH.nil
    go_simp
    refine (with_any 0 0 0 _ (by omega) (by omega) (by omega)).mono ?_
    rintro e w2 ⟨rfl, hB2⟩
    have k2 : Kept (fun _ => False) w1 w2 := ((Kept.refl (fun _ => False) w1).drew).trans (Kept.of_below hB2 (Nat.le_refl _) (fun _ => False))
    have c0 := cellK k2 c0 (fun h => h)
    have c1 := cellK k2 c1 (fun h => h)
    have hm2 : Made w2 (w.heap.size + 2) noRun := Made.keep HM2.out k2 (fun h => h)
    have HM1' : Hid (Made w2 (w.heap.size + 1) noRun) := Made.keep HM1.out k2 (fun h => h)
    have HBL' : Hid (Below w.heap.size w w2) := (HBL.out.drew).trans (hB2.mono (by have := HZ.out; show _ ≤ w1.heap.size; omega))
    have m0 := hm2.c0 hc
    have m1 := hm2.c1 hc
    have f0 := hm2.frozen (c * 2)
    have f1 := hm2.frozen (c * 2 + 1)
    have HP : Hid _ := hm2.put hc (1, 0)
    clear hB2 k2 hm2 HM2 HM1 HBL hS0
    refine hK.out _ _ ⟨c0, c1⟩ (fun _ => ?_)
    clear hK K
    unfold runV
    refine wpAnyH_take (i := 8) (v := ?v8) rfl (by kernel_rfl) (by kernel_rfl) (by kernel_rfl) (fun _ _ _ h => h) (Or.inl ⟨by rfl, ?h8⟩) ⟨c0, c1⟩ ?_
    case h8 => intro wq hS; obtain ⟨s1, s2⟩ := hS; go_simp; with_reducible rfl
    refine wpAnyH_ready (rs := [9]) (by kernel_rfl) (by simp) ?_
    refine AllReadyH.cons rfl (fun K hK => ?_) AllReadyH.nil
    go_simp
    have kp : Kept (fun k => k = w.heap.size + 2) w2 ((w2.setCell ⟨w.heap.size + 2, c * 2, none⟩ (.int .i64 1)).setCell ⟨w.heap.size + 2, c * 2 + 1, none⟩ (.int .u64 0)) := ((Kept.refl (fun k => k = w.heap.size + 2) w2).setCell (show (⟨w.heap.size + 2, c * 2, none⟩ : Addr).block = w.heap.size + 2 from rfl) _).setCell (show (⟨w.heap.size + 2, c * 2 + 1, none⟩ : Addr).block = w.heap.size + 2 from rfl) _
    have HM2 : Hid (Made ((w2.setCell ⟨w.heap.size + 2, c * 2, none⟩ (.int .i64 1)).setCell ⟨w.heap.size + 2, c * 2 + 1, none⟩ (.int .u64 0)) (w.heap.size + 2) (updR noRun c (1, 0))) := HP
    have HM1 : Hid (Made ((w2.setCell ⟨w.heap.size + 2, c * 2, none⟩ (.int .i64 1)).setCell ⟨w.heap.size + 2, c * 2 + 1, none⟩ (.int .u64 0)) (w.heap.size + 1) noRun) := Made.keep HM1'.out kp (by omega)
    have HBL : Hid (Below w.heap.size w ((w2.setCell ⟨w.heap.size + 2, c * 2, none⟩ (.int .i64 1)).setCell ⟨w.heap.size + 2, c * 2 + 1, none⟩ (.int .u64 0))) := kp.bel HBL'.out (Nat.le_refl _) (fun k hk => by omega)
    refine hK.out _ _ ⟨cellK kp c0 hgM, cellK kp c1 hbM⟩ (fun _ => ?_)
    clear hK K kp HP HM1' HBL' c0 c1 m0 m1 f0 f1
    generalize ((w2.setCell ⟨w.heap.size + 2, c * 2, none⟩ (.int .i64 1)).setCell ⟨w.heap.size + 2, c * 2 + 1, none⟩ (.int .u64 0)) = w3 at *
    refine wpAnyH_done (by kernel_rfl) ?_ _
    go_wp2_with (first
      | (refine wpList_load_row rfl 89 _ rfl (w.heap.size + 2) rfl 89 (rowR (updR noRun c (1, 0))) (0, 0) _ (by exact HM2.out) Try.underlying89 rfl (by rw [size_rowR]; exact size512) ?_)
      | (refine wpList_store_row rfl 89 _ _ rfl (w.heap.size + 1) (rowR (updR noRun c (1, 0))) rfl rfl 89 (rowR noRun) (by exact HM1.out) (by rw [size_rowR]; exact size512) (by simp only [size_rowR]) (rowR_one _) ?_))
    refine bodyPost_ret (results_cell_row Try.results46 _ _ (w.heap.size + 1) 89 (rowR (updR noRun c (1, 0))) (0, 0) _ rfl (setRow_heap _ _ _ _ _ _ HM1.out) Try.underlying89 rfl (by rw [size_rowR]; exact size512)) rfl ⟨⟨_, rfl, .inr (.inl ⟨c, hc, HT.out, rfl⟩)⟩, ?_⟩
    exact below_setRow HBL.out (by omega) _
  · obtain ⟨g, cap, hva, _, hgl⟩ := OW.out.form (by omega)
    have hrow := prow_own (hva ▸ OW.out) rfl
    have hgM1 : w.heap.size + 3 ≤ g := (HLOW.out g (by rw [hva]; rfl)).1
    have hjoin := join_any f w1 g cap L (leavesTo f 256) hrow TR.out (fun e => by rw [HLL.out, e] at h2; simp at h2) (leaves_len f 256)
      (fun t ht => by obtain ⟨c, e, _, h⟩ := leaves_mem ht; exact ⟨c, e, h⟩) (leaves_nodup f 256)
      (fun t ht hnd => Nat.le_trans (HW.out t hnd (fun c hc => by have := ht c hc; rw [leaves_flat] at this; simp at this; exact this.1)) (by omega))
      (fun c hc => by rw [leaves_flat] at hc; simp at hc; exact hc.1)
    have h2i : (2 : Int) ≤ (L.length : Int) := by omega
    have h20 : ((L.length : Int) == 0) = false := beq_false_of_ne (by omega)
    have h21 : ((L.length : Int) == 1) = false := beq_false_of_ne (by omega)
    have H2L : Hid (2 ≤ (leavesTo f 256).length) := by rw [← HLL.out]; exact h2
    rw [hva]
    clear hrow hva OW TR HLOW HLL HF
    go_wp2_with fail
    refine hjoin.mono ?_
    rintro e w2 ⟨b, l2, rfl, hperm, hinv, htree, hk2⟩
    have hl2 : l2.length = (l2.length - 1) + 1 := by
      have h3 := hperm.length_eq
      have h4 := H2L.out
      omega
    obtain ⟨hI, hB⟩ := Hf.join_good (l2.length - 1) l2 hl2 hinv
    have hbytes : ∀ c ∈ Hf.bytes (Hf.join f l2), c < 256 := fun c hc => by
      have h3 := (Hf.flat_perm hperm).mem_iff.1 (hB.mem_iff.1 hc)
      rw [leaves_flat] at h3
      simp at h3
      exact h3.1
    have hnd : (Hf.bytes (Hf.join f l2)).Nodup := by
      have := hI.nd
      simpa using this
    have hht := Hf.ht_leG (hI.gd _ (by simp)) (fun c hc => hI.pos _ (by simp) c hc) (HW.out _ hnd hbytes)
    have hm2 : Made w2 (w.heap.size + 2) noRun := Made.keep HM2.out hk2 (by omega)
    have hspell := spell_any f (Hf.join f l2) b (w.heap.size + 2) 0 0 noRun w2 htree hm2 hbytes (by omega) (by omega)
    have HM1' : Hid (Made w2 (w.heap.size + 1) noRun) := Made.keep HM1.out hk2 (by omega)
    have HBL' : Hid (Below w.heap.size w w2) := hk2.bel HBL.out (Nat.le_refl _) (fun k hk => by omega)
    have HC : Hid (CodesOf f (spellF (Hf.join f l2) 0 0 noRun)) := .inr (.inr ⟨H2L.out, l2, hperm, hinv, rfl⟩)
    clear hperm hinv htree hk2 hl2 hI hB hbytes hnd hht hm2 hjoin HM1 HM2 HBL H2L
    go_wp2_with fail
    refine hspell.mono ?_
    rintro e w3 ⟨rfl, hm3, hk3⟩
    have HM2 : Hid _ := hm3
    have HM1 : Hid (Made w3 (w.heap.size + 1) noRun) := Made.keep HM1'.out hk3 (by omega)
    have HBL : Hid (Below w.heap.size w w3) := hk3.bel HBL'.out (Nat.le_refl _) (fun k hk => by omega)
    clear hm3 hk3 hspell HM1' HBL'
    go_wp2_with (first
      | (refine wpList_load_row rfl 89 _ rfl (w.heap.size + 2) rfl 89 (rowR (spellF (Hf.join f l2) 0 0 noRun)) (0, 0) _ (by exact HM2.out) Try.underlying89 rfl (by rw [size_rowR]; exact size512) ?_)
      | (refine wpList_store_row rfl 89 _ _ rfl (w.heap.size + 1) (rowR (spellF (Hf.join f l2) 0 0 noRun)) rfl rfl 89 (rowR noRun) (by exact HM1.out) (by rw [size_rowR]; exact size512) (by simp only [size_rowR]) (rowR_one _) ?_))
    refine bodyPost_ret (results_cell_row Try.results46 _ _ (w.heap.size + 1) 89 (rowR (spellF (Hf.join f l2) 0 0 noRun)) (0, 0) _ rfl (setRow_heap _ _ _ _ _ _ HM1.out) Try.underlying89 rfl (by rw [size_rowR]; exact size512)) rfl ⟨⟨_, rfl, HC.out⟩, ?_⟩
    exact below_setRow HBL.out (by omega) _

theorem of_any (f : Nat → Nat) (w : World) (hw : ∀ t, (Hf.bytes t).Nodup → (∀ c ∈ Hf.bytes t, c < 256) → Hf.wt f t ≤ 1000) (hf : ∀ c, f c ≤ 1000000) :
    Calls Try.prog 46 #[.agg (rowC 256 f)] w fun e w' => (∃ G, e = .returned (.agg (rowR G)) ∧ CodesOf f G) ∧ Below w.heap.size w w' :=
  of_anyG f w (fun t a b => Nat.le_trans (hw t a b) (by omega)) hf

end Go.Proofs.Ytopihgmemnokkaa
