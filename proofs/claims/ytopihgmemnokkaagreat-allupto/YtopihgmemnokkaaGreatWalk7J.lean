import Derived.Test.YtopihgmemnokkaaGreatWalk6J
import Derived.Test.YtopihgmemnokkaaGreatMemJ
import Derived.Deep.RegionHeld
import Derived.Deep.QuietTactic
import Derived.BigQuiet
import Derived.Test.YtopihgmemnokkaaGreatEndsJ
import Derived.Test.YtopihgmemnokkaaGreatOrderJ
namespace Go.Proofs.YtopihgmemnokkaaGreat
open Go.RowKit
theorem sort_one (s:ByteArray) (kb rb n:Nat) (X:Array Value) (h:X.all (·.oneCell')=true) :
  (#[Value.string s,Value.slice (some ⟨kb,0,none⟩) n n]++X++#[Value.slice (some ⟨rb,0,none⟩) n n]).all (·.oneCell')=true:=by
 rw[Array.all_append,Array.all_append,h]
 simp[Value.oneCell']
set_option maxRecDepth 100000 in
set_option maxHeartbeats 2000000 in
theorem sorted_any (s:ByteArray) (w:World) (hs:s.size≤1000) :
  Calls Tryz.prog 87 #[.string s] w fun e w'=>∃ (rb:Nat) (rows B:Nat→Nat),e=.returned (.slice (some ⟨rb,0,none⟩) (s.size+1) (s.size+1))∧w.heap.size≤rb ∧
   Row w' rb 3 (s.size+1) rows∧Cc.Down s.size (LT s) (before s) 0 rows B∧Below w.heap.size w w':=by
 have hmf:∀ (fn:Fn) (first cap:Array Value) (w:World),(Instr.makeFunc fn first cap).run Tryz.prog w=.ok (.func fn first cap) w:=fun _ _ _ _=>rfl
 have hmk:=fun w=>make_rows (s.size+1) (by omega) w
 have ec:((s.size+1:Nat):Int)=(s.size:Int)+1:=by omega
 simp only[ec]at hmk
 clear ec
 go_enter Tryz.func87,Tryz.ntmps87
 go_wp2_with fail
 refine(kinds_any s _ hs).mono ?_
 rintro e w1 ⟨rfl,hK,hB1⟩
 have hs1:=hB1.size
 simp only[World.size_alloc]at hK hB1 hs1
 have ct1:w1.cell? ⟨w.heap.size,0,none⟩=some (.string s):=by
  rw[hB1.cell (p:=⟨w.heap.size,0,none⟩) (by simp)];simp
 go_wp2_with fail
 have hsv:=survey_any s (w.heap.size+1) w1 hs hK
 refine hsv.mono ?_
 clear hsv
 rintro e w2 ⟨v,rfl,hown,hB2⟩
 have hvn:0<(valsTo s (s.size+1)).length:=by
  apply List.length_pos_of_mem (a:=s.size)
  unfold valsTo
  rw[List.mem_filter,List.mem_range]
  exact⟨by omega,by simp[Cc.val]⟩
 obtain⟨vb,cap,rfl,hvb⟩:∃ vb cap,v=.slice (some ⟨vb,0,none⟩) (valsTo s (s.size+1)).length cap∧w1.heap.size+3≤vb:=by
  rcases hown.2 with⟨_,h0⟩|⟨g,cap,cur,rfl,hb,_⟩
  ·omega
  ·exact⟨g,cap,rfl,hb⟩
 have hvb2:=(hown.lt vb rfl).2
 generalize hX:rowC 771 (sh3 (Cc.frontOf s.size (LT s)) (Cc.midOf s.size (LT s) (before s)) (Cc.backOf s.size (LT s)))=X
 have HX:Hid (rowC 771 (sh3 (Cc.frontOf s.size (LT s)) (Cc.midOf s.size (LT s) (before s)) (Cc.backOf s.size (LT s)))=X):=hX
 have hX1:X.size=771:=by rw[← hX,size_rowC]
 have hX2:X.all (·.oneCell')=true:=by rw[← hX];exact rowC_one _ _
 clear hX
 have ct2:w2.cell? ⟨w.heap.size,0,none⟩=some (.string s):=(hB2.cell (p:=⟨w.heap.size,0,none⟩) (by simp;omega)).trans ct1
 have hnew:(w2.alloc (Obj.cells (rowC 771 fun _=>0) 199)).heap[w2.heap.size]?=some (.cells (rowC 771 fun _=>0) 199 (0,0)):=heap_alloc_new w2 _
 go_wp2_with (first
  | (refine wpList_alloc_row rfl 199 rfl _ zero771 ?_)
  | (refine wpList_store_row rfl 199 _ _ rfl w2.heap.size X rfl rfl 199 (rowC 771 fun _=>0) (by exact hnew) (by rw[hX1];exact size771) (by rw[hX1,size_rowC]) hX2 ?_))
 have hz3:((w2.alloc (Obj.cells (rowC 771 fun _=>0) 199)).setRow w2.heap.size X).heap.size=w2.heap.size+1:=by simp
 have hX3:((w2.alloc (Obj.cells (rowC 771 fun _=>0) 199)).setRow w2.heap.size X).heap[w2.heap.size]?=some (.cells X 199 (0,0)):=setRow_heap _ _ _ X _ _ hnew
 have hB3:Below w2.heap.size w2 ((w2.alloc (Obj.cells (rowC 771 fun _=>0) 199)).setRow w2.heap.size X):=below_setRow ((Below.refl _ _).alloc (Nat.le_refl _) _) (Nat.le_refl _) _
 have hown3:=(hown.kept (w':=(w2.alloc (Obj.cells (rowC 771 fun _=>0) 199)).setRow w2.heap.size X) (row:=none) ⟨hB3.os,hB3.tape,hB3.output,hB3.size,fun k hk _=>hB3.block k hk⟩ (Or.inr (by simp[Value.ownBlock])))
 generalize (w2.alloc (Obj.cells (rowC 771 fun _=>0) 199)).setRow w2.heap.size X=w3 at *
 have ct3:w3.cell? ⟨w.heap.size,0,none⟩=some (.string s):=(hB3.cell (p:=⟨w.heap.size,0,none⟩) (by have:=hB2.size;simp;omega)).trans ct2
 have hK3:Row w3 (w.heap.size+1) 233 (s.size+1) (kindN s):=(hK.below hB2 hK.lt).below hB3 (by have:=hB2.size;have:=hK.lt;omega)
 refine(sort_any s w.heap.size vb cap _ w3 hs ct3 (by omega) hown3).mono ?_
 rintro e w4 ⟨rfl,V,SV,hVl,hP,hK4⟩
 have hz2:=hB2.size
 have hkl:=hK.lt
 have ct4:w4.cell? ⟨w.heap.size,0,none⟩=some (.string s):=cell_kept hK4 ct3 (by simp;omega)
 have hKi4:Row w4 (w.heap.size+1) 233 (s.size+1) (kindN s):=hK4.row hK3 (by omega)
 have hX4:w4.heap[w2.heap.size]?=some (.cells X 199 (0,0)):=by rw[hK4.block _ (by omega) (by omega)];exact hX3
 clear hnew hX3 hown3 hown hK hK3 ct1 ct2 ct3 hz3
 have hXlt:w2.heap.size<w4.heap.size:=(Array.getElem?_eq_some_iff.1 hX4).1
 go_wp2_with fail
 refine wp_region_held_drew (S:=fun w'=>w'.cell? ⟨w.heap.size,0,none⟩=some (.string s)∧w'.heap[w2.heap.size]?=some (.cells X 199 (0,0))) (by kernel_rfl) ⟨ct4,hX4⟩ (fun hS0=>?_)
 refine wpAnyH_take (i:=0) (v:=.string s) rfl (by kernel_rfl) (by kernel_rfl) (by kernel_rfl) (fun _ _ _ h=>h) (Or.inl ⟨by rfl,?_⟩) hS0 ?_
 ·intro wq hq;have hq1:=hq.1;clear hq;go_simp
 simp only[Act.put,List.setIfInBounds_toArray]
 refine wpAnyH_take (i:=1) (v:=.slice (some ⟨w.heap.size+1,0,none⟩) (s.size+1) (s.size+1)) rfl (by kernel_rfl) (by kernel_rfl) (by kernel_rfl) (fun _ _ _ h=>h) (Or.inl ⟨by rfl,?_⟩) hS0 ?_
 ·intro wq hq;clear hq;go_simp
 simp only[Act.put]
 refine wpAnyH_take (i:=2) (v:=.agg X) rfl (by kernel_rfl) (by kernel_rfl) (by kernel_rfl) (fun _ _ _ h=>h) (Or.inl ⟨by rfl,?_⟩) hS0 ?_
 ·intro wq hq;have hq2:=hq.2;clear hq;exact exec_load_row 199 (.tmp 4) rfl w2.heap.size rfl 199 X (0,0) _ hq2 Tryz.underlying199 rfl (by rw[hX1];exact size771)
 simp only[Act.put]
 refine wpAnyH_take (i:=3) (v:=.string s) rfl (by kernel_rfl) (by kernel_rfl) (by kernel_rfl) (fun _ _ _ h=>h) (Or.inl ⟨by rfl,?_⟩) hS0 ?_
 ·intro wq hq;have hq1:=hq.1;clear hq;go_simp
 simp only[Act.put]
 refine wpAnyH_take (i:=4) (v:=.int .i64 (s.size:Int)) rfl (by kernel_rfl) (by kernel_rfl) (by kernel_rfl) (fun _ _ _ h=>h) (Or.inl ⟨by rfl,?_⟩) hS0 ?_
 ·intro wq hq;clear hq;go_simp
 simp only[Act.put]
 refine wpAnyH_take (i:=5) (v:=.int .i64 ((s.size:Int)+1)) rfl (by kernel_rfl) (by kernel_rfl) (by kernel_rfl) (fun _ _ _ h=>h) (Or.inl ⟨by rfl,?_⟩) hS0 ?_
 ·intro wq hq;clear hq;go_simp;rw[IntKind.wrap_i64];omega
 simp only[Act.put]
 refine wpAnyH_ready (rs:=[6,8]) (by kernel_rfl) (by simp) ?_
 refine AllReadyH.cons rfl (fun K hK=>?_) (AllReadyH.cons rfl (fun K hK=>?_) AllReadyH.nil)
 · -- the rows are made first
  go_simp
  have hS1:((w4.alloc (Obj.cells (rowC (s.size+1) fun _=>0) 3)).drew).cell? ⟨w.heap.size,0,none⟩=some (.string s)∧((w4.alloc (Obj.cells (rowC (s.size+1) fun _=>0) 3)).drew).heap[w2.heap.size]?=some (.cells X 199 (0,0)) :=
   ⟨(World.cell?_alloc_lt _ _ _ (World.block_lt_of_cell? w4 _ ct4)).trans ct4,(Below.heap_alloc w4 _ _ hXlt).trans hX4⟩
  refine hK.out _ _ hS1 (fun _=>?_)
  clear hK K
  refine wpAnyH_take (i:=7) (v:=.agg (#[.string s,.slice (some ⟨w.heap.size+1,0,none⟩) (s.size+1) (s.size+1)]++X++#[.slice (some ⟨w4.heap.size,0,none⟩) (s.size+1) (s.size+1)])) rfl (by kernel_rfl) (by kernel_rfl) (by kernel_rfl) (fun _ _ _ h=>h) (Or.inl ⟨by rfl,?_⟩) hS1 ?_
  ·intro wq hq;clear hq;refine exec_build 205 _ rfl _ ?_;have hbs:=built_sort s (w.heap.size+1) w4.heap.size (s.size+1) X hX1;simpa[Act.eval] using hbs
  simp only[Act.put,List.setIfInBounds_toArray]
  refine wpAnyH_ready (rs:=[8]) (by kernel_rfl) (by simp) ?_
  refine AllReadyH.cons rfl (fun K hK=>?_) AllReadyH.nil
  rw[if_pos (by rfl)]
  refine wp_alloc_row 205 rfl sort0 zero774 ?_
  simp only[Act.put]
  have hS2:(((w4.alloc (Obj.cells (rowC (s.size+1) fun _=>0) 3)).drew).alloc (Obj.cells sort0 205)).cell? ⟨w.heap.size,0,none⟩=some (.string s)∧(((w4.alloc (Obj.cells (rowC (s.size+1) fun _=>0) 3)).drew).alloc (Obj.cells sort0 205)).heap[w2.heap.size]?=some (.cells X 199 (0,0)) :=
   ⟨(World.cell?_alloc_lt _ _ _ (World.block_lt_of_cell? _ _ hS1.1)).trans hS1.1,(Below.heap_alloc _ _ _ (by simp;omega)).trans hS1.2⟩
  refine hK.out _ _ hS2 (fun _=>?_)
  clear hK K
  refine wpAnyH_ready (rs:=[9]) (by kernel_rfl) (by simp) ?_
  refine AllReadyH.cons rfl (fun K hK=>?_) AllReadyH.nil
  rw[if_pos (by rfl)]
  have ez:((w4.alloc (Obj.cells (rowC (s.size+1) fun _=>0) 3)).drew).heap.size=w4.heap.size+1:=by simp
  rw[ez]
  refine wp_store_row 205 (.tmp 6) (.tmp 25) rfl (w4.heap.size+1) _ rfl rfl 205 sort0 ?hg (by rw[show (_:Array Value).size=774 from by simp[hX1]];exact size774) (by rw[sort0_size];simp[hX1]) ?h1 ?_
  case hg=>rw[← ez];exact heap_alloc_new _ _
  case h1=>exact sort_one _ _ _ _ X hX2
  simp only[Act.put]
  have hrS:Row ((((w4.alloc (Obj.cells (rowC (s.size+1) fun _=>0) 3)).drew).alloc (Obj.cells sort0 205)).setRow (w4.heap.size+1) (#[.string s,.slice (some ⟨w.heap.size+1,0,none⟩) (s.size+1) (s.size+1)]++X++#[.slice (some ⟨w4.heap.size,0,none⟩) (s.size+1) (s.size+1)])) w4.heap.size 3 (s.size+1) (fun _=>0) :=
   (((Row.new w4 _ _ _).drew).alloc _).setRow_other (by omega) _
  have hsS:((((w4.alloc (Obj.cells (rowC (s.size+1) fun _=>0) 3)).drew).alloc (Obj.cells sort0 205)).setRow (w4.heap.size+1) (#[.string s,.slice (some ⟨w.heap.size+1,0,none⟩) (s.size+1) (s.size+1)]++X++#[.slice (some ⟨w4.heap.size,0,none⟩) (s.size+1) (s.size+1)])).heap[w4.heap.size+1]?=some (.cells (#[.string s,.slice (some ⟨w.heap.size+1,0,none⟩) (s.size+1) (s.size+1)]++X++#[.slice (some ⟨w4.heap.size,0,none⟩) (s.size+1) (s.size+1)]) 205 (0,0)) :=
   setRow_heap _ _ sort0 _ 205 (0,0) (by rw[← ez];exact heap_alloc_new _ _)
  have hBS:Below w4.heap.size w4 ((((w4.alloc (Obj.cells (rowC (s.size+1) fun _=>0) 3)).drew).alloc (Obj.cells sort0 205)).setRow (w4.heap.size+1) (#[.string s,.slice (some ⟨w.heap.size+1,0,none⟩) (s.size+1) (s.size+1)]++X++#[.slice (some ⟨w4.heap.size,0,none⟩) (s.size+1) (s.size+1)])) :=
   below_setRow ((((Below.refl _ _).alloc (Nat.le_refl _) _).drew).alloc (by simp) _) (by omega) _
  have hS3:=And.intro ((hBS.cell (p:=⟨w.heap.size,0,none⟩) (World.block_lt_of_cell? w4 _ ct4)).trans ct4) ((hBS.block _ hXlt).trans hX4)
  generalize (((w4.alloc (Obj.cells (rowC (s.size+1) fun _=>0) 3)).drew).alloc (Obj.cells sort0 205)).setRow (w4.heap.size+1) (#[.string s,.slice (some ⟨w.heap.size+1,0,none⟩) (s.size+1) (s.size+1)]++X++#[.slice (some ⟨w4.heap.size,0,none⟩) (s.size+1) (s.size+1)])=wS at *
  refine hK.out _ _ hS3 (fun _=>?_)
  clear hK K hS1 hS2 hS3 ez
  refine wpAnyH_done (by kernel_rfl) ?_ _
  have hSrt:Srt s (w4.heap.size+1) (w.heap.size+1) (w4.heap.size) (Cc.frontOf s.size (LT s)) (Cc.midOf s.size (LT s) (before s)) (Cc.backOf s.size (LT s)) (fun _=>0) wS:=by
   refine⟨?_,hKi4.below hBS hKi4.lt,hrS,by omega,by omega,by omega⟩
   rw[hsS,← HX.out];rfl
  have hPS:Places wS vb V:=fun j i hj=>(hBS.cell (p:=⟨vb,j,none⟩) (World.block_lt_of_cell? w4 _ (hP j i hj))).trans (hP j i hj)
  clear hS0 hmk hmf hX4 ct4 hKi4 hsS hrS
  go_wp2_with fail
  rw[← hVl]
  refine(valleys_any s (w4.heap.size+1) (w.heap.size+1) (w4.heap.size) vb cap V _ _ _ _ wS hs (by have:=valsTo_le s (s.size+1);omega) hSrt SV hPS (by omega) (by omega) (Cc.Vals.start V (fun _=>rfl) (fun _=>rfl))).mono ?_
  rintro e w6 ⟨rfl,rows1,M1,hSrt1,hV1,hKp1⟩
  go_wp2_with fail
  refine(falling_any s (w4.heap.size+1) (w.heap.size+1) (w4.heap.size) _ _ _ _ w6 hs hSrt1 (hV1.up SV (fun _=>rfl))).mono ?_
  rintro e w7 ⟨rfl,rows2,F2,hSrt2,hU2,hKp2⟩
  go_wp2_with fail
  refine(rising_any s (w4.heap.size+1) (w.heap.size+1) (w4.heap.size) _ _ _ _ w7 hs hSrt2 (hU2.down (ord s) (fun _=>rfl))).mono ?_
  rintro e w8 ⟨rfl,rows3,B3,hSrt3,hD3,hKp3⟩
  have cR8:=hSrt3.rowsV
  go_wp2
  go_ret
  have hall:Kept (fun k=>k=w4.heap.size+1∨k=w4.heap.size) wS w8:=(hKp1.trans hKp2).trans hKp3
  refine⟨w4.heap.size,rows3,B3,rfl,by omega,hSrt3.rws,hD3,?_⟩
  have hz3:=hB3.size
  have hz4:=hK4.size
  have hz5:=hBS.size
  have hb4:Below w.heap.size w3 w4:=hK4.below (fun k hk=>by omega) (by omega)
  have hb0:Below w.heap.size w w1:=((Below.refl _ _).alloc (Nat.le_refl _) _).trans (hB1.mono (by omega))
  exact((((hb0.trans (hB2.mono (by omega))).trans (hB3.mono (by omega))).trans hb4).trans (hBS.mono (by omega))).trans (hall.below (fun k hk=>by omega) (by omega))
 · -- the sorting is made first
  rw[if_pos (by rfl)]
  refine wp_alloc_row 205 rfl sort0 zero774 ?_
  simp only[Act.put]
  have hS1:(w4.drew.alloc (Obj.cells sort0 205)).cell? ⟨w.heap.size,0,none⟩=some (.string s)∧(w4.drew.alloc (Obj.cells sort0 205)).heap[w2.heap.size]?=some (.cells X 199 (0,0)) :=
   ⟨(World.cell?_alloc_lt _ _ _ (World.block_lt_of_cell? w4 _ ct4)).trans ct4,(Below.heap_alloc w4.drew _ _ hXlt).trans hX4⟩
  refine hK.out _ _ hS1 (fun _=>?_)
  clear hK K
  refine wpAnyH_ready (rs:=[6]) (by kernel_rfl) (by simp) ?_
  refine AllReadyH.cons rfl (fun K hK=>?_) AllReadyH.nil
  go_simp
  have hB2':Below w4.heap.size w4 (((w4.alloc (Obj.cells sort0 205)).alloc (Obj.cells (rowC (s.size+1) fun _=>0) 3)).drew):=(((Below.refl _ _).alloc (Nat.le_refl _) _).alloc (by simp) _).drew
  have hS2:(((w4.alloc (Obj.cells sort0 205)).alloc (Obj.cells (rowC (s.size+1) fun _=>0) 3)).drew).cell? ⟨w.heap.size,0,none⟩=some (.string s)∧(((w4.alloc (Obj.cells sort0 205)).alloc (Obj.cells (rowC (s.size+1) fun _=>0) 3)).drew).heap[w2.heap.size]?=some (.cells X 199 (0,0)) :=
   And.intro ((hB2'.cell (p:=⟨w.heap.size,0,none⟩) (World.block_lt_of_cell? w4 _ ct4)).trans ct4) ((hB2'.block _ hXlt).trans hX4)
  refine hK.out _ _ hS2 (fun _=>?_)
  clear hK K
  refine wpAnyH_take (i:=7) (v:=.agg (#[.string s,.slice (some ⟨w.heap.size+1,0,none⟩) (s.size+1) (s.size+1)]++X++#[.slice (some ⟨w4.heap.size+1,0,none⟩) (s.size+1) (s.size+1)])) rfl (by kernel_rfl) (by kernel_rfl) (by kernel_rfl) (fun _ _ _ h=>h) (Or.inl ⟨by rfl,?_⟩) hS2 ?_
  ·intro wq hq;clear hq;refine exec_build 205 _ rfl _ ?_;have hbs:=built_sort s (w.heap.size+1) (w4.heap.size+1) (s.size+1) X hX1;simpa[Act.eval] using hbs
  simp only[Act.put,List.setIfInBounds_toArray]
  refine wpAnyH_ready (rs:=[9]) (by kernel_rfl) (by simp) ?_
  refine AllReadyH.cons rfl (fun K hK=>?_) AllReadyH.nil
  rw[if_pos (by rfl)]
  have hold:(((w4.alloc (Obj.cells sort0 205)).alloc (Obj.cells (rowC (s.size+1) fun _=>0) 3)).drew).heap[w4.heap.size]?=some (.cells sort0 205 (0,0)) :=
   (Below.heap_alloc _ _ _ (by simp)).trans (heap_alloc_new w4 _)
  refine wp_store_row 205 (.tmp 6) (.tmp 25) rfl w4.heap.size _ rfl rfl 205 sort0 hold (by rw[show (_:Array Value).size=774 from by simp[hX1]];exact size774) (by rw[sort0_size];simp[hX1]) ?h1 ?_
  case h1=>exact sort_one _ _ _ _ X hX2
  simp only[Act.put]
  have hrS:Row ((((w4.alloc (Obj.cells sort0 205)).alloc (Obj.cells (rowC (s.size+1) fun _=>0) 3)).drew).setRow w4.heap.size (#[.string s,.slice (some ⟨w.heap.size+1,0,none⟩) (s.size+1) (s.size+1)]++X++#[.slice (some ⟨w4.heap.size+1,0,none⟩) (s.size+1) (s.size+1)])) (w4.heap.size+1) 3 (s.size+1) (fun _=>0) :=
   ((Row.new' _ _ _ (by simp)).drew).setRow_other (by omega) _
  have hsS:((((w4.alloc (Obj.cells sort0 205)).alloc (Obj.cells (rowC (s.size+1) fun _=>0) 3)).drew).setRow w4.heap.size (#[.string s,.slice (some ⟨w.heap.size+1,0,none⟩) (s.size+1) (s.size+1)]++X++#[.slice (some ⟨w4.heap.size+1,0,none⟩) (s.size+1) (s.size+1)])).heap[w4.heap.size]?=some (.cells (#[.string s,.slice (some ⟨w.heap.size+1,0,none⟩) (s.size+1) (s.size+1)]++X++#[.slice (some ⟨w4.heap.size+1,0,none⟩) (s.size+1) (s.size+1)]) 205 (0,0)) :=
   setRow_heap _ _ sort0 _ 205 (0,0) hold
  have hBS:Below w4.heap.size w4 ((((w4.alloc (Obj.cells sort0 205)).alloc (Obj.cells (rowC (s.size+1) fun _=>0) 3)).drew).setRow w4.heap.size (#[.string s,.slice (some ⟨w.heap.size+1,0,none⟩) (s.size+1) (s.size+1)]++X++#[.slice (some ⟨w4.heap.size+1,0,none⟩) (s.size+1) (s.size+1)])):=below_setRow hB2' (Nat.le_refl _) _
  have hS3:=And.intro ((hBS.cell (p:=⟨w.heap.size,0,none⟩) (World.block_lt_of_cell? w4 _ ct4)).trans ct4) ((hBS.block _ hXlt).trans hX4)
  generalize ((((w4.alloc (Obj.cells sort0 205)).alloc (Obj.cells (rowC (s.size+1) fun _=>0) 3)).drew).setRow w4.heap.size (#[.string s,.slice (some ⟨w.heap.size+1,0,none⟩) (s.size+1) (s.size+1)]++X++#[.slice (some ⟨w4.heap.size+1,0,none⟩) (s.size+1) (s.size+1)]))=wS at *
  refine hK.out _ _ hS3 (fun _=>?_)
  clear hK K hS1 hS2 hS3 hold hB2'
  refine wpAnyH_done (by kernel_rfl) ?_ _
  have hSrt:Srt s (w4.heap.size) (w.heap.size+1) (w4.heap.size+1) (Cc.frontOf s.size (LT s)) (Cc.midOf s.size (LT s) (before s)) (Cc.backOf s.size (LT s)) (fun _=>0) wS:=by
   refine⟨?_,hKi4.below hBS hKi4.lt,hrS,by omega,by omega,by omega⟩
   rw[hsS,← HX.out];rfl
  have hPS:Places wS vb V:=fun j i hj=>(hBS.cell (p:=⟨vb,j,none⟩) (World.block_lt_of_cell? w4 _ (hP j i hj))).trans (hP j i hj)
  clear hS0 hmk hmf hX4 ct4 hKi4 hsS hrS
  go_wp2_with fail
  rw[← hVl]
  refine(valleys_any s (w4.heap.size) (w.heap.size+1) (w4.heap.size+1) vb cap V _ _ _ _ wS hs (by have:=valsTo_le s (s.size+1);omega) hSrt SV hPS (by omega) (by omega) (Cc.Vals.start V (fun _=>rfl) (fun _=>rfl))).mono ?_
  rintro e w6 ⟨rfl,rows1,M1,hSrt1,hV1,hKp1⟩
  go_wp2_with fail
  refine(falling_any s (w4.heap.size) (w.heap.size+1) (w4.heap.size+1) _ _ _ _ w6 hs hSrt1 (hV1.up SV (fun _=>rfl))).mono ?_
  rintro e w7 ⟨rfl,rows2,F2,hSrt2,hU2,hKp2⟩
  go_wp2_with fail
  refine(rising_any s (w4.heap.size) (w.heap.size+1) (w4.heap.size+1) _ _ _ _ w7 hs hSrt2 (hU2.down (ord s) (fun _=>rfl))).mono ?_
  rintro e w8 ⟨rfl,rows3,B3,hSrt3,hD3,hKp3⟩
  have cR8:=hSrt3.rowsV
  go_wp2
  go_ret
  have hall:Kept (fun k=>k=w4.heap.size∨k=w4.heap.size+1) wS w8:=(hKp1.trans hKp2).trans hKp3
  refine⟨w4.heap.size+1,rows3,B3,rfl,by omega,hSrt3.rws,hD3,?_⟩
  have hz3:=hB3.size
  have hz4:=hK4.size
  have hz5:=hBS.size
  have hb4:Below w.heap.size w3 w4:=hK4.below (fun k hk=>by omega) (by omega)
  have hb0:Below w.heap.size w w1:=((Below.refl _ _).alloc (Nat.le_refl _) _).trans (hB1.mono (by omega))
  exact((((hb0.trans (hB2.mono (by omega))).trans (hB3.mono (by omega))).trans hb4).trans (hBS.mono (by omega))).trans (hall.below (fun k hk=>by omega) (by omega))
end Go.Proofs.YtopihgmemnokkaaGreat
namespace Go.Proofs.YtopihgmemnokkaaGreat
open Go.RowKit
set_option maxHeartbeats 400000 in
theorem suffixes_any (s:ByteArray) (w:World) (hs:s.size≤1000) :
  Calls Tryz.prog 39 #[.string s] w fun e w'=>∃ (rb:Nat) (rows B:Nat→Nat),e=.returned (.tuple #[.slice (some ⟨rb,0,none⟩) (s.size+1) (s.size+1),.int .i64 0])∧w.heap.size≤rb ∧
   Row w' rb 3 (s.size+1) rows∧Cc.Down s.size (LT s) (before s) 0 rows B∧Below w.heap.size w w':=by
 go_enter Tryz.func39,Tryz.ntmps39
 go_wp2_with fail
 refine(sorted_any s _ hs).mono ?_
 rintro e w1 ⟨rb,rows,B,rfl,h1,h2,h3,h4⟩
 go_wp2
 go_ret2
 exact⟨rb,rows,B,rfl,h1,h2,h3,h4⟩
theorem below_drewN {B:Nat}{a w:World}(h:Below B a w) (n:Nat):Below B a (w.drewN n):=⟨h.os,h.tape,h.output,h.size,h.block⟩
theorem toList_extract (s:ByteArray) (a:Nat):(s.extract a s.size).toList=s.data.toList.drop a:=by
 rw[ByteArray.toList_eq,Lib.extract_to_end]
end Go.Proofs.YtopihgmemnokkaaGreat
namespace Go.Proofs.YtopihgmemnokkaaGreat
open Go.RowKit
theorem LT_BY (s:ByteArray){k:Nat}(h:k<s.size):LT s k=BY s k+1:=by rw[LT_lt s h,BY_lt s h]
theorem cnB_succ (s:ByteArray) (p c:Nat):Cc.put (fun c=>Cc.cn p fun j=>decide (BY s j=c)) (BY s p) ((Cc.cn p fun j=>decide (BY s j=BY s p))+1) c=Cc.cn (p+1) fun j=>decide (BY s j=c):=by
 by_cases h:c=BY s p
 ·subst h;rw[Cc.put_same];simp[Cc.cn]
 ·rw[Cc.put_other _ _ h]
  have h':¬ BY s p=c:=fun e=>h e.symm
  simp[Cc.cn,h']
def nextTo (s:ByteArray) (p c:Nat):Nat:=if c<p then 1+Cc.cn s.size (fun j=>decide (BY s j<c)) else 0
def nextAt (s:ByteArray) (k c:Nat):Nat:=1+Cc.cn s.size (fun j=>decide (BY s j<c))+Cc.cn k (fun j=>decide (BY s j=c))
def leadTo (s:ByteArray) (k j:Nat):Nat:=if j<k then Cc.lead s.size (BY s) j else 0
theorem less_succ (s:ByteArray) (c:Nat):(Cc.cn s.size fun j=>decide (BY s j<c+1))=(Cc.cn s.size fun j=>decide (BY s j<c))+Cc.cn s.size fun j=>decide (BY s j=c):=by
 apply Cc.cn_add
 intro i _
 by_cases h1:BY s i<c
 ·simp[h1,show BY s i<c+1 from by omega,show ¬ BY s i=c from by omega]
 ·by_cases h2:BY s i=c
  ·simp[h2]
  ·simp[h1,h2,show ¬ BY s i<c+1 from by omega]
theorem nextTo_succ (s:ByteArray) (p c:Nat):Cc.put (nextTo s p) p (1+Cc.cn s.size fun j=>decide (BY s j<p)) c=nextTo s (p+1) c:=by
 by_cases h:c=p
 ·subst h;rw[Cc.put_same];unfold nextTo;rw[if_pos (by omega)]
 ·rw[Cc.put_other _ _ h];unfold nextTo
  by_cases h1:c<p
  ·rw[if_pos h1,if_pos (by omega)]
  ·rw[if_neg h1,if_neg (by omega)]
theorem nextTo_all (s:ByteArray){c:Nat}(h:c<256):nextTo s 256 c=nextAt s 0 c:=by
 unfold nextTo nextAt;rw[if_pos h];simp[Cc.cn]
theorem nextAt_succ (s:ByteArray) (p c:Nat):Cc.put (nextAt s p) (BY s p) (nextAt s p (BY s p)+1) c=nextAt s (p+1) c:=by
 by_cases h:c=BY s p
 ·subst h;rw[Cc.put_same];simp[nextAt,Cc.cn];omega
 ·rw[Cc.put_other _ _ h]
  have h':¬ BY s p=c:=fun e=>h e.symm
  simp[nextAt,Cc.cn,h']
theorem leadTo_succ (s:ByteArray) (p j:Nat):Cc.put (leadTo s p) p (nextAt s p (BY s p)) j=leadTo s (p+1) j:=by
 by_cases h:j=p
 ·subst h;rw[Cc.put_same];unfold leadTo;rw[if_pos (by omega)];rfl
 ·rw[Cc.put_other _ _ h];unfold leadTo
  by_cases h1:j<p
  ·rw[if_pos h1,if_pos (by omega)]
  ·rw[if_neg h1,if_neg (by omega)]
theorem nextAt_le (s:ByteArray) (k c:Nat) (h:k≤s.size):nextAt s k c≤2*s.size+1:=by
 unfold nextAt
 have h1:=Cc.cn_le s.size (fun j=>decide (BY s j<c))
 have h2:=Cc.cn_le k (fun j=>decide (BY s j=c))
 omega
theorem run_index_row (cs:Array Value) (v:Value) (p:Nat) (hp:p<256) (h:cs[p]?=some v) (w:World) :
  (Instr.index 120 (.agg cs) (.int .i64 (p:Int))).run Tryz.prog w=.ok v w:=by
 simp[Instr.index,run_underlying Tryz.underlying120,asIntOf,part,Tryz.isAgg3,Tryz.sizeOf3,h]
 intro hc;omega
set_option maxRecDepth 100000 in
set_option maxHeartbeats 1000000 in
theorem starts_any (s:ByteArray) (w:World) (hs:s.size≤1000) :
  Calls Tryz.prog 123 #[.string s] w fun e w'=>e=.returned (.agg (rowC 256 (nextAt s 0)))∧Below w.heap.size w w':=by
 go_enter Tryz.func123,Tryz.ntmps123
 go_wp2_with (refine wpList_alloc_row rfl 120 rfl _ zero256 ?_)
 go_loopw [5,11] (fun _ i wr=>∃ p:Nat,p≤s.size∧i=.int .i64 p∧Row wr w.heap.size 120 256 (fun _=>0)∧Row wr (w.heap.size+1) 120 256 (fun c=>Cc.cn p fun j=>decide (BY s j=c))∧Row wr (w.heap.size+2) 120 256 (fun _=>0)∧Below w.heap.size w wr) (fun _ i _=>s.size-(intOf i).toNat)
 case atStart =>
  refine⟨0,by omega,rfl,?_,?_,?_,?_⟩
  ·exact((Row.new w _ _ _).alloc _).alloc _
  ·exact((Row.new' _ _ (fun _=>0) (by simp)).alloc _).congr fun _ _=>rfl
  ·exact Row.new' _ _ _ (by simp)
  ·exact(((Below.refl _ _).alloc (Nat.le_refl _) _).alloc (by simp) _).alloc (by simp;omega) _
 case round =>
  obtain⟨p,hp,rfl,hR,hR0,hR1,hBl⟩:=hrel
  by_cases hlt:p<s.size
  ·have hby:=BY_le s p
   have hbv:=BY_lt s hlt
   have c0:=hR0.cell (i:=BY s p) (by omega)
   have f0:=hR0.frozen (BY s p)
   have hcl:=Cc.cn_le p (fun j=>decide (BY s j=BY s p))
   have hg:Row (wr.setCell ⟨w.heap.size+1,BY s p,none⟩ (.int .i64 (((Cc.cn p fun j=>decide (BY s j=BY s p))+1:Nat):Int))) (w.heap.size+1) 120 256 (fun c=>Cc.cn (p+1) fun j=>decide (BY s j=c)) :=
    (hR0.set (BY s p) _).congr fun c _=>cnB_succ s p c
   rw[hbv]at c0 f0 hcl hg hby
   have hx:(s[p].toNat:Int)<256:=by omega
   clear hbv hby
   generalize (Cc.cn p fun j=>decide (BY s j=s[p].toNat))=q at c0 hcl hg
   go_wp2
   exact⟨⟨p+1,by omega,by go_num,hR.other (by simp) _,hg,hR1.other (by simp) _,hBl.setCell (by simp) _⟩,by simp[intOf];omega⟩
  ·have hp':p=s.size:=by omega
   subst hp'
   go_wp2_with (refine wpList_load_row rfl 120 _ rfl (w.heap.size+1) rfl 120 (rowC 256 fun c=>Cc.cn s.size fun j=>decide (BY s j=c)) (0,0) _ (by exact hR0) Tryz.underlying120 rfl (by rw[size_rowC];exact size256) ?_)
   go_loopw [6,7,8,23] (fun r c n i wq=>∃ p:Nat,p≤256∧i=.int .i64 p∧r=.int .i64 ((1+Cc.cn s.size fun j=>decide (BY s j<p):Nat):Int)∧Row wq w.heap.size 120 256 (fun _=>0)∧Row wq (w.heap.size+2) 120 256 (nextTo s p)∧Below w.heap.size w wq) (fun _ _ _ i _=>256-(intOf i).toNat)
   case atStart =>
    refine⟨0,by omega,rfl,?_,hR,hR1.congr fun _ _=>rfl,hBl⟩
    rw[Cc.cn_zero (fun j _=>by simp)];rfl
   case round =>
    clear hR0 hR1 hBl hR
    obtain⟨p,hp,rfl,rfl,hR,hR1,hBl⟩:=hrel
    by_cases hlt2:p<256
    ·have c1:=hR1.cell (i:=p) (by omega)
     have f1:=hR1.frozen p
     have hl1:=Cc.cn_le s.size (fun j=>decide (BY s j<p))
     have hl2:=Cc.cn_le s.size (fun j=>decide (BY s j=p))
     have hix:∀ wz:World,(Instr.index 120 (.agg (rowC 256 fun c=>Cc.cn s.size fun j=>decide (BY s j=c))) (.int .i64 (p:Int))).run Tryz.prog wz=.ok (.int .i64 ((Cc.cn s.size fun j=>decide (BY s j=p):Nat):Int)) wz:=by
      intro wz
      have hg0:(rowC 256 fun c=>Cc.cn s.size fun j=>decide (BY s j=c))[p]?=some (.int .i64 ((Cc.cn s.size fun j=>decide (BY s j=p):Nat):Int)):=rowC_get hlt2
      exact run_index_row _ _ p hlt2 hg0 wz
     have hg:=(hR1.set p (1+Cc.cn s.size fun j=>decide (BY s j<p))).congr (g:=nextTo s (p+1)) fun c _=>nextTo_succ s p c
     have hnx:=less_succ s p
     go_wp2
     exact⟨⟨p+1,by omega,by go_num,congrArg (Value.int .i64) (by rw[hnx];omega),hR.other (by simp;omega) _,hg,hBl.setCell (by simp;omega) _⟩,by simp[intOf];omega⟩
    ·have hp2:p=256:=by omega
     subst hp2
     have hR2:=hR1.congr (g:=nextAt s 0) fun c hc=>nextTo_all s hc
     clear hR1
     go_wp2_with (first
      | (refine wpList_load_row rfl 120 _ rfl (w.heap.size+2) rfl 120 (rowC 256 (nextAt s 0)) (0,0) _ (by exact hR2) Tryz.underlying120 rfl (by rw[size_rowC];exact size256) ?_)
      | (refine wpList_store_row rfl 120 _ _ rfl w.heap.size (rowC 256 (nextAt s 0)) rfl rfl 120 (rowC 256 fun _=>0) (by exact hR) (by rw[size_rowC];exact size256) (by rw[size_rowC,size_rowC]) (rowC_one _ _) ?_))
     have hfin:Row (wr.setRow w.heap.size (rowC 256 (nextAt s 0))) w.heap.size 120 256 (nextAt s 0):=hR.setRow _
     refine bodyPost_ret (results_cell_row Tryz.results123 _ _ w.heap.size 120 (rowC 256 (nextAt s 0)) (0,0) _ rfl hfin Tryz.underlying120 rfl (by rw[size_rowC];exact size256)) rfl ⟨rfl,?_⟩
     exact below_setRow hBl (by omega) _
set_option maxRecDepth 100000 in
set_option maxHeartbeats 1000000 in
theorem leads_any (s:ByteArray) (w:World) (hs:s.size≤1000) :
  Calls Tryz.prog 138 #[.string s] w fun e w'=>∃ g,e=.returned (.slice (some ⟨g,0,none⟩) s.size s.size)∧w.heap.size≤g∧Row w' g 3 s.size (Cc.lead s.size (BY s))∧Below w.heap.size w w':=by
 have hmk:=fun w=>make_rows s.size (by omega) w
 go_enter Tryz.func138,Tryz.ntmps138
 go_wp2_with fail
 refine(starts_any s _ hs).mono ?_
 rintro e w1 ⟨rfl,hB1⟩
 have hR0:=Row.new w1 120 256 (fun _=>0)
 have hR1:=hR0.setRow (nextAt s 0)
 have hz1:=hB1.size
 have hmk2:=hmk ((w1.alloc (.cells (rowC 256 fun _=>0) 120)).setRow w1.heap.size (rowC 256 (nextAt s 0)))
 have hz2:((w1.alloc (.cells (rowC 256 fun _=>0) 120)).setRow w1.heap.size (rowC 256 (nextAt s 0))).heap.size=w1.heap.size+1:=by simp
 have hB2:Below w.heap.size w ((w1.alloc (.cells (rowC 256 fun _=>0) 120)).setRow w1.heap.size (rowC 256 (nextAt s 0))):=below_setRow (hB1.alloc hz1 _) hz1 _
 clear hmk
 rw[hz2]at hmk2
 go_wp2_with (first
  | (refine wpList_alloc_row rfl 120 rfl _ zero256 ?_)
  | (refine wpList_store_row rfl 120 _ _ rfl w1.heap.size (rowC 256 (nextAt s 0)) rfl rfl 120 (rowC 256 fun _=>0) (by exact hR0) (by rw[size_rowC];exact size256) (by rw[size_rowC,size_rowC]) (rowC_one _ _) ?_))
 generalize (w1.alloc (.cells (rowC 256 fun _=>0) 120)).setRow w1.heap.size (rowC 256 (nextAt s 0))=w2 at *
 go_loopw [5,13] (fun k i wq=>∃ p:Nat,p≤s.size∧i=.int .i64 p∧Row wq w1.heap.size 120 256 (nextAt s p)∧Row wq (w1.heap.size+1) 3 s.size (leadTo s p)∧Below w.heap.size w wq) (fun _ i _=>s.size-(intOf i).toNat)
 case atStart =>
  refine⟨0,by omega,rfl,hR1.alloc _,?_,?_⟩
  ·exact(Row.new' _ _ (fun _=>0) hz2).congr fun j _=>by unfold leadTo;rw[if_neg (by omega)]
  ·exact hB2.alloc (by rw[hz2];omega) _
 case round =>
  clear hR1 hB2 hmk2 hR0
  obtain⟨p,hp,rfl,hR1,hR2,hBl⟩:=hrel
  have Hz1:Hid (w.heap.size≤w1.heap.size):=hz1
  by_cases hlt3:p<s.size
  ·have hby:=BY_le s p
   have hbv:=BY_lt s hlt3
   have c1:=hR1.cell (i:=BY s p) (by omega)
   have f1:=hR1.frozen (BY s p)
   have c2:=hR2.cell (i:=p) hlt3
   have f2:=hR2.frozen p
   have hnl:=nextAt_le s p (BY s p) (by omega)
   have hg1:=((hR1.other (a:=⟨w1.heap.size+1,p,none⟩) (by simp) (.int .i64 ((nextAt s p (BY s p):Nat):Int))).set (BY s p) (nextAt s p (BY s p)+1)).congr (g:=nextAt s (p+1)) fun c _=>nextAt_succ s p c
   have hg2:=((hR2.set p (nextAt s p (BY s p))).other (a:=⟨w1.heap.size,BY s p,none⟩) (by simp) (.int .i64 ((nextAt s p (BY s p)+1:Nat):Int))).congr (g:=leadTo s (p+1)) fun c _=>leadTo_succ s p c
   rw[hbv]at c1 f1 hby hnl hg1 hg2
   have hx:(s[p].toNat:Int)<256:=by omega
   clear hbv hby
   generalize nextAt s p s[p].toNat=q at c1 hnl hg1 hg2
   go_wp2
   exact⟨⟨p+1,by omega,by go_num,hg1,hg2,(hBl.setCell (by have:=Hz1.out;simp;omega) _).setCell (by have:=Hz1.out;simp;omega) _⟩,by simp[intOf];omega⟩
  ·have hp':p=s.size:=by omega
   subst hp'
   go_wp2
   go_ret
   exact⟨_,rfl,by have:=Hz1.out;omega,hR2.congr fun j hj=>by unfold leadTo;rw[if_pos hj],hBl⟩
end Go.Proofs.YtopihgmemnokkaaGreat
namespace Go.Proofs.YtopihgmemnokkaaGreat
open Go.RowKit
theorem Tryz.info5:(Tryz.prog.info? 5).map (fun i=>(i.zero,i.size,i.bytes))=some (some (.int .u8 0),1,1):=by kernel_rfl
abbrev fw (s:ByteArray):Nat:=Cc.rank s.size (before s) 0
def tb (s:ByteArray) (rows:Nat→Nat) (k:Nat):Nat:=BY s (rows (Cc.un (fw s) k)-1)
def tv (s:ByteArray) (rows:Nat→Nat) (p:Nat):List Value:=(List.range (Cc.ks (fw s) p)).map fun k=>Value.int .u8 (tb s rows k:Nat)
theorem ks_succ {row p:Nat}(h:p≠row):Cc.ks row (p+1)=Cc.ks row p+1:=by
 unfold Cc.ks
 by_cases e:row<p
 ·rw[if_pos e,if_pos (by omega)];omega
 ·rw[if_neg e,if_neg (by omega)]
theorem ks_same (row:Nat):Cc.ks row (row+1)=Cc.ks row row:=by
 unfold Cc.ks;rw[if_pos (by omega),if_neg (by omega)];omega
theorem ks_le (row p:Nat):Cc.ks row p≤p:=by unfold Cc.ks;split <;> omega
theorem tv_hit (s:ByteArray) (rows:Nat→Nat){p:Nat}(h:p≠fw s):tv s rows (p+1)=tv s rows p++[.int .u8 (BY s (rows p-1):Nat)]:=by
 unfold tv
 rw[ks_succ h,List.range_succ,List.map_append]
 simp only[List.map_cons,List.map_nil]
 unfold tb
 rw[Cc.un_ks h]
theorem ownsRow_ne_row {w:World}{base:Nat}{v:Value}{m:Nat}{xs:List Value}(h:w.ownsRow base 5 1 v m xs){rb M:Nat}{f:Nat→Nat}(hr:Row w rb 3 M f):some rb≠v.ownBlock:=by
 intro e
 rcases h.2 with⟨rfl,_⟩|⟨g,cap,cur,rfl,_,hg,_⟩
 ·simp[Value.ownBlock]at e
 ·simp[Value.ownBlock]at e
  subst e
  unfold Row at hr
  rw[hr]at hg
  simp at hg
structure Fth (s:ByteArray) (w:World) (rb:Nat) (rows:Nat→Nat) (p:Nat) (v:Value) (wr:World):Prop where
 own:wr.ownsRow w.heap.size 5 1 v (Cc.ks (fw s) p) (tv s rows p)
 row:Row wr rb 3 (s.size+1) rows
 bl:Below w.heap.size w wr
theorem strOfNums_BY (s:ByteArray) (rows:Nat→Nat) (n:Nat){k:Nat}(hk:k<n):BY (strOfNums ((List.range n).map fun k=>((tb s rows k:Nat):Int))) k=tb s rows k:=by
 have hsz:(strOfNums ((List.range n).map fun k=>((tb s rows k:Nat):Int))).size=n:=by rw[strOfNums_size];simp
 rw[BY_lt _ (by omega)]
 have hb:tb s rows k≤255:=BY_le _ _
 have hl:k<(strOfNums ((List.range n).map fun k=>((tb s rows k:Nat):Int))).data.toList.length:=by rw[strOfNums_data];simp[hk]
 have h1:(strOfNums ((List.range n).map fun k=>((tb s rows k:Nat):Int))).data.toList[k]=UInt8.ofNat (tb s rows k):=by
  rw[List.getElem_of_eq (strOfNums_data _) hl]
  simp only[List.getElem_map,List.getElem_range,Int.toNat_natCast]
 have h2:(strOfNums ((List.range n).map fun k=>((tb s rows k:Nat):Int)))[k]=UInt8.ofNat (tb s rows k):=h1
 rw[h2,UInt8.toNat_ofNat']
 exact Nat.mod_eq_of_lt (by omega)
theorem Fth.skip {s:ByteArray}{w:World}{rb:Nat}{rows:Nat→Nat}{v:Value}{wr:World}(S:Fth s w rb rows (fw s) v wr):Fth s w rb rows (fw s+1) v wr:=by
 refine⟨?_,S.row,S.bl⟩
 have:=S.own
 unfold tv at *
 rw[ks_same];exact this
theorem Fth.hit {s:ByteArray}{w:World}{rb:Nat}{rows:Nat→Nat}{p:Nat}{v v':Value}{wr w1:World}(S:Fth s w rb rows p v wr) (hp:p≠fw s) (o:Obj) (hwb:w.heap.size≤wr.heap.size)
  (hown:w1.ownsRow w.heap.size 5 1 v' (Cc.ks (fw s) p+1) (tv s rows p++[.int .u8 (BY s (rows p-1):Nat)])) (hg:(wr.alloc o).grownBy w1 v.ownBlock):Fth s w rb rows (p+1) v' w1:=by
 refine⟨?_,(S.row.alloc o).grown hg (ownsRow_ne_row S.own S.row),(S.bl.alloc hwb o).grown hg (by simp;omega) (fun k h=>(S.own.lt k h).1)⟩
 rw[tv_hit s rows hp,ks_succ hp];exact hown
set_option maxRecDepth 100000 in
set_option maxHeartbeats 1000000 in
theorem forth_any (s:ByteArray) (w:World) (hs:s.size≤1000) :
  Calls Tryz.prog 67 #[.string s] w fun e w'=>∃ (b:ByteArray) (rows:Nat→Nat),e=.returned (.tuple #[.string b,.int .i64 (fw s:Nat)])∧b.size=s.size ∧
   (∀ i,i≤s.size→rows (Cc.rank s.size (before s) i)=i)∧(∀ k,k<s.size→BY b k=tb s rows k)∧Below w.heap.size w w':=by
 obtain⟨i0,hi,hz0,hz1,hz2⟩:=info_parts Tryz.info5
 go_enter Tryz.func67,Tryz.ntmps67
 go_wp2_with (at_make;refine wpList_make_own _ rfl _ _ 55 rfl w.heap.size 5 i0 (.int .u8 0) 1 Tryz.underlying55 hi hz0 hz1 _ _ _ s.size rfl rfl rfl ?c1 ?c2 (Nat.le_refl _) ?_)
 case c1=>rw[hz2];omega
 case c2=>unfold maxLen;omega
 intro w0 hown0 hgr0
 have hB0:Below w.heap.size w w0:=(Below.refl _ _).grown hgr0 (Nat.le_refl _) (fun k h=>by cases h)
 have hz:=(hown0.lt w.heap.size rfl).2
 go_wp2_with fail
 refine(sorted_any s _ hs).mono ?_
 rintro e w1 ⟨rb,rows,B,rfl,hrb,hR,hD,hB1⟩
 have hrows:∀ i,i≤s.size→rows (Cc.rank s.size (before s) i)=i:=fun i hi=>hD.done (ord s) hi
 have hown1:=(hown0.kept (w':=w1) (row:=none) ⟨hB1.os,hB1.tape,hB1.output,hB1.size,fun k hk _=>hB1.block k hk⟩ (Or.inr (by simp[Value.ownBlock])))
 have hBl:Below w.heap.size w w1:=hB0.trans (hB1.mono (by omega))
 have hfwn:=(ord s).rank_le (i:=0) (by omega)
 have hrow0:=hrows 0 (by omega)
 go_wp2
 go_loopw [4,5,6,7,14] (fun v wh r pl i wr=>∃ p:Nat,p≤s.size+1∧i=.int .i64 p∧wh=.int .i64 ((if fw s<p then fw s else 0:Nat):Int)∧Fth s w rb rows p v wr) (fun _ _ _ _ i _=>(s.size+1)-(intOf i).toNat)
 case atStart =>
  refine⟨0,by omega,rfl,rfl,⟨?_,hR,hBl⟩⟩
  have:Cc.ks (fw s) 0=0:=by unfold Cc.ks;rw[if_neg (by omega)]
  unfold tv;rw[this];exact hown1
 case round =>
  obtain⟨p,hp,rfl,rfl,S⟩:=hrel
  have hBs:=S.bl.size
  by_cases hlt:p<s.size+1
  ·obtain⟨i,hin,hip⟩:=(ord s).onto (r:=p) (by omega)
   have hrp:=hrows i hin
   rw[hip]at hrp
   have cp:wr.cell? ⟨rb,p,none⟩=some (.int .i64 (rows p:Nat)):=S.row.cell hlt
   rw[hrp]at cp
   cases i with
   | zero =>
    have hpf:p=fw s:=hip.symm
    have S2:Fth s w rb rows (p+1) u4 wr:=by rw[hpf]at S ⊢;exact S.skip
    have hwh:(.int .i64 (p:Int):Value)=.int .i64 ((if fw s<p+1 then fw s else 0:Nat):Int):=by rw[if_pos (by omega),hpf]
    have Hwh:Hid ((.int .i64 (p:Int):Value)=.int .i64 ((if fw s<p+1 then fw s else 0:Nat):Int)):=hwh
    clear hwh hpf hip hrp hrow0 hrows hown0 hown1 hgr0
    go_wp2
    exact⟨⟨p+1,by omega,by go_num,Hwh.out,S2⟩,by simp[intOf];omega⟩
   | succ j =>
    have hpf:p≠fw s:=fun e=>by
     have:=(ord s).rank_inj (i:=j+1) (j:=0) hin (by omega) (by rw[hip,e]);omega
    have hj:j<s.size:=by omega
    have hjb:BY s (rows p-1)=s[j].toNat:=by rw[hrp];exact BY_lt s hj
    have R:=fun v' w1=>S.hit (v':=v') (w1:=w1) hpf (Obj.cells #[Value.int IntKind.u8 s[j].toNat] 5) hBs
    rw[hjb]at R
    have hkl:=ks_le (fw s) p
    have hwh:(if fw s<p then fw s else 0)=(if fw s<p+1 then fw s else 0):=by
     by_cases e:fw s<p
     ·rw[if_pos e,if_pos (by omega)]
     ·rw[if_neg e,if_neg (by omega)]
    have Hwh:Hid ((if fw s<p then fw s else 0)=(if fw s<p+1 then fw s else 0)):=hwh
    clear hwh hpf hip hrp hrow0 hrows hown0 hown1 hgr0 hjb
    generalize (if fw s<p then fw s else 0)=q at *
    go_wp2_with (at_builtin;refine wpList_append_own _ rfl _ _ 55 rfl w.heap.size 5 i0 (.int .u8 0) 1 1 Tryz.underlying55 hi hz0 hz1 hz2 rfl (by decide) _ _ _ rfl (S.own.alloc _) ⟨wr.heap.size,0,none⟩ 1 1 [.int .u8 (s[j].toNat:Int)] rfl rfl ?c1 ?c2 ?c3 ?c4 ?c5 ?_)
    case c1=>exact cell_one_new _ _ _
    case c2=>intro u hu;simp at hu;subst hu;rfl
    case c3=>unfold maxLen;omega
    case c4=>omega
    case c5=>simp;omega
    intro v' w2 hown hgrow _
    have R1:=R v' w2 hown hgrow
    clear R hown hgrow cp
    go_wp2
    exact⟨⟨p+1,by omega,by go_num,by rw[Hwh.out],R1⟩,by simp[intOf];omega⟩
  ·have hp':p=s.size+1:=by omega
   subst hp'
   have hks:Cc.ks (fw s) (s.size+1)=s.size:=by have hfw:fw s≤s.size:=hfwn;unfold Cc.ks;rw[if_pos (by omega)];omega
   have hown:=S.own
   unfold tv at hown
   rw[hks]at hown
   have hfw:fw s≤s.size:=hfwn
   have hwf:(if fw s<s.size+1 then fw s else 0)=fw s:=by rw[if_pos (by omega)]
   rw[hwf]
   rcases hown.2 with⟨hv,h0⟩|⟨g,cap,cur,hv,hgb,hcell,hcap,hmx,hsz,htk⟩
   ·subst hv
    have hcv:=run_convert_bytes_nil (P:=Tryz.prog) (w:=wr) 55 5 Tryz.underlying55 Tryz.underlying5 0 0 9 Tryz.underlying9
    go_wp2
    go_ret2
    refine⟨ByteArray.empty,rows,rfl,by simp[h0],hrows,fun k hk=>by omega,S.bl⟩
   ·subst hv
    have hcv:=run_convert_bytes_arg (P:=Tryz.prog) wr 55 5 Tryz.underlying55 Tryz.underlying5 g 0 s.size cap ((List.range s.size).map fun k=>((tb s rows k:Nat):Int)) (by simp) (by
     intro i hi
     rw[Nat.zero_add,hown.cellAt i (by omega)]
     simp[hi]) 9 Tryz.underlying9
    clear hcell htk
    go_wp2
    go_ret2
    refine⟨_,rows,rfl,by rw[strOfNums_size];simp,hrows,fun k hk=>strOfNums_BY s rows s.size hk,S.bl⟩
end Go.Proofs.YtopihgmemnokkaaGreat
namespace Go.Proofs.YtopihgmemnokkaaGreat
open Go.RowKit
def rowB (m:Nat) (f:Nat→Nat):Array Value:=(Array.range m).map fun i=>.int .u8 (f i:Nat)
theorem size_rowB (m:Nat) (f:Nat→Nat):(rowB m f).size=m:=by simp[rowB]
theorem rowB_get {m:Nat}{f:Nat→Nat}{i:Nat}(h:i<m):(rowB m f)[i]?=some (.int .u8 (f i:Nat)):=by simp[rowB,h]
theorem rowB_congr {m:Nat}{f g:Nat→Nat}(h:∀ i,i<m→f i=g i):rowB m f=rowB m g:=by
 unfold rowB
 apply Array.map_congr_left
 intro a ha
 rw[h a (by simpa using ha)]
theorem rowB_set {m:Nat}{f:Nat→Nat}{i v:Nat}:(rowB m f).setIfInBounds i (.int .u8 (v:Nat))=rowB m (Cc.put f i v):=by
 apply Array.ext_getElem?
 intro j
 rw[Array.getElem?_setIfInBounds,size_rowB]
 by_cases hj:j<m
 ·by_cases e:i=j
  ·subst e;rw[if_pos rfl,if_pos hj,rowB_get hj];simp[Cc.put]
  ·have e':¬ j=i:=fun x=>e x.symm
   rw[if_neg e,rowB_get hj,rowB_get hj];simp[Cc.put,e']
 ·have h1:(rowB m f)[j]?=none:=by simp[size_rowB];omega
  have h2:(rowB m (Cc.put f i v))[j]?=none:=by simp[size_rowB];omega
  rw[h1,h2]
  by_cases e:i=j
  ·subst e;simp[hj]
  ·rw[if_neg e]
theorem rowB_made (m:Nat):madeCells #[.int .u8 0] m=rowB m fun _=>0:=by
 unfold madeCells rowB
 apply Array.map_congr_left
 intro a _
 have:a%(#[Value.int .u8 0]:Array Value).size=0:=by simp[Nat.mod_one]
 rw[this];rfl
def RowB (w:World) (b:Nat) (m:Nat) (f:Nat→Nat):Prop:=w.heap[b]?=some (.cells (rowB m f) 5 (0,0))
theorem RowB.cell {w:World}{b m:Nat}{f:Nat→Nat}(h:RowB w b m f){i:Nat}(hi:i<m):w.cell? ⟨b,i,none⟩=some (.int .u8 (f i:Nat)):=by
 unfold RowB at h;simp[World.cell?,h,rowB_get hi]
theorem RowB.frozen {w:World}{b m:Nat}{f:Nat→Nat}(h:RowB w b m f) (i:Nat):w.frozen? ⟨b,i,none⟩=false:=by
 unfold RowB at h;simp[World.frozen?,h]
theorem RowB.congr {w:World}{b m:Nat}{f g:Nat→Nat}(h:RowB w b m f) (hg:∀ i,i<m→f i=g i):RowB w b m g:=by
 unfold RowB at *;rw[h,rowB_congr hg]
theorem RowB.set {w:World}{b m:Nat}{f:Nat→Nat}(h:RowB w b m f) (i v:Nat):RowB (w.setCell ⟨b,i,none⟩ (.int .u8 (v:Nat))) b m (Cc.put f i v):=by
 unfold RowB at *
 simp[World.setCell,Array.getElem?_modify,h,rowB_set]
theorem RowB.new' {w:World}{b:Nat}(m:Nat) (f:Nat→Nat) (hb:w.heap.size=b):RowB (w.alloc (.cells (rowB m f) 5)) b m f:=by
 subst hb;unfold RowB;exact heap_alloc_new w _
theorem make_bytes (n:Nat) (hn:n≤1001) (w:World):(Instr.makeSlice 55 (.int .i64 (n:Int)) (.int .i64 (n:Int))).run Tryz.prog w
  = .ok (.slice (some ⟨w.heap.size,0,none⟩) n n) (w.alloc (.cells (rowB n fun _=>0) 5)):=by
 obtain⟨i,hi,hz0,hz1,hz2⟩:=info_parts Tryz.info5
 have h:=run_make (P:=Tryz.prog) w 55 5 i _ Tryz.underlying55 hi hz0 .i64 .i64 n n (by omega) (by omega) (by rw[hz2];omega) (by omega)
 rw[hz1]at h
 simp only[Int.toNat_natCast,Nat.mul_one]at h
 have hc:(Value.int .u8 0).cells=#[.int .u8 0]:=rfl
 rw[hc,rowB_made]at h
 exact h
def textTo (b:ByteArray) (row q j:Nat):Nat:=if q≤j then BY b (Cc.ks row (Cc.trail b.size (BY b) row (b.size-1-j))) else 0
theorem textTo_step (b:ByteArray) (row j k:Nat) (hj:j<b.size):Cc.put (textTo b row (j+1)) j (BY b (Cc.ks row (Cc.trail b.size (BY b) row (b.size-(j+1))))) k=textTo b row j k:=by
 by_cases h:k=j
 ·subst h;rw[Cc.put_same];unfold textTo;rw[if_pos (Nat.le_refl _)];congr 3;omega
 ·rw[Cc.put_other _ _ h];unfold textTo
  by_cases h1:j+1≤k
  ·rw[if_pos h1,if_pos (by omega)]
  ·rw[if_neg h1,if_neg (by omega)]
theorem textTo_le (b:ByteArray) (row q j:Nat):textTo b row q j≤255:=by
 unfold textTo;split
 ·exact BY_le _ _
 ·omega
theorem strOfNums_f (f:Nat→Nat) (n:Nat){k:Nat}(hk:k<n) (hb:f k≤255):BY (strOfNums ((List.range n).map fun k=>((f k:Nat):Int))) k=f k:=by
 have hsz:(strOfNums ((List.range n).map fun k=>((f k:Nat):Int))).size=n:=by rw[strOfNums_size];simp
 rw[BY_lt _ (by omega)]
 have hl:k<(strOfNums ((List.range n).map fun k=>((f k:Nat):Int))).data.toList.length:=by rw[strOfNums_data];simp[hk]
 have h1:(strOfNums ((List.range n).map fun k=>((f k:Nat):Int))).data.toList[k]=UInt8.ofNat (f k):=by
  rw[List.getElem_of_eq (strOfNums_data _) hl]
  simp only[List.getElem_map,List.getElem_range,Int.toNat_natCast]
 have h2:(strOfNums ((List.range n).map fun k=>((f k:Nat):Int)))[k]=UInt8.ofNat (f k):=h1
 rw[h2,UInt8.toNat_ofNat']
 exact Nat.mod_eq_of_lt (by omega)
set_option maxHeartbeats 400000 in
theorem back_out (b:ByteArray) (row:Int) (w:World) (hr:row<0∨(b.size:Int)<row) :
  Calls Tryz.prog 92 #[.string b,.int .i64 row] w fun e w'=>e=.returned (.tuple #[.string ByteArray.empty,.bool false])∧w'=w:=by
 by_cases h:row<0
 ·go_enter Tryz.func92,Tryz.ntmps92
  go_wp2
  go_ret2
  exact⟨rfl,rfl⟩
 ·have h2:(b.size:Int)<row:=by omega
  go_enter Tryz.func92,Tryz.ntmps92
  go_wp2
  go_ret2
  exact⟨rfl,rfl⟩
set_option maxRecDepth 100000 in
set_option maxHeartbeats 1000000 in
theorem back_in (b:ByteArray) (row:Nat) (w:World) (hs:b.size≤1000) (hr:row≤b.size) :
  Calls Tryz.prog 92 #[.string b,.int .i64 (row:Nat)] w fun e w'=>Below w.heap.size w w' ∧
   ((¬ Cc.Takes b.size (BY b) row∧e=.returned (.tuple #[.string ByteArray.empty,.bool false])) ∨
   (Cc.Takes b.size (BY b) row∧∃ t:ByteArray,e=.returned (.tuple #[.string t,.bool true])∧t.size=b.size∧∀ j,j<b.size→BY t j=textTo b row 0 j)):=by
 have hmk:=fun w=>make_bytes b.size (by omega) w
 have hri:(row:Int)≤b.size:=by omega
 go_enter Tryz.func92,Tryz.ntmps92
 go_wp2_with fail
 refine(leads_any b _ hs).mono ?_
 rintro e w1 ⟨g,rfl,hgl,hL,hB1⟩
 have hLl:=hL.lt
 go_wp2
 go_loopw [8,9,10] (fun a i k wr=>∃ q:Nat,q≤b.size∧i=.int .i64 ((q:Int)-1)∧a=.int .i64 ((Cc.trail b.size (BY b) row (b.size-q):Nat):Int)∧(∀ m,m<b.size-q→Cc.trail b.size (BY b) row m≠row) ∧
  Row wr g 3 b.size (Cc.lead b.size (BY b))∧RowB wr w1.heap.size b.size (textTo b row q)∧Below w.heap.size w wr) (fun _ i _ _=>(intOf i+1).toNat)
 case atStart =>
  refine⟨b.size,Nat.le_refl _,rfl,?_,?_,hL.alloc _,?_,hB1.alloc (by omega) _⟩
  ·rw[Nat.sub_self];rfl
  ·intro m hm;omega
  ·exact(RowB.new' _ (fun _=>0) rfl).congr fun j hj=>by unfold textTo;rw[if_neg (by omega)]
 case round =>
  clear hmk hL hB1
  obtain⟨q,hq,rfl,rfl,hT,hL,hX,hBl⟩:=hrel
  cases q with
  | zero =>
   have hcv:=run_convert_bytes_arg (P:=Tryz.prog) wr 55 5 Tryz.underlying55 Tryz.underlying5 w1.heap.size 0 b.size b.size ((List.range b.size).map fun k=>((textTo b row 0 k:Nat):Int)) (by simp) (by
    intro i hi
    rw[Nat.zero_add,hX.cell hi]
    simp[hi]) 9 Tryz.underlying9
   go_wp2
   go_ret2
   refine⟨hBl,Or.inr ⟨⟨hr,fun m hm=>hT m (by omega)⟩,_,rfl,by rw[strOfNums_size];simp,fun j hj=>strOfNums_f _ _ hj (textTo_le b row 0 j)⟩⟩
  | succ j =>
   have ej:((j+1:Nat):Int)-1=(j:Int):=by omega
   rw[ej]
   clear ej
   have htl:=Cc.trail_le (b:=BY b) hr (b.size-(j+1)) hT
   have hstep:=textTo_step b row j
   have hnext:Cc.trail b.size (BY b) row (b.size-j)=Cc.lead b.size (BY b) (Cc.ks row (Cc.trail b.size (BY b) row (b.size-(j+1)))):=by
    rw[show b.size-j=(b.size-(j+1))+1 from by omega];rfl
   by_cases ha:Cc.trail b.size (BY b) row (b.size-(j+1))=row
   ·have hno:¬ Cc.Takes b.size (BY b) row:=fun t=>t.2 (b.size-(j+1)) (by omega) ha
    have hab:((row:Int) == (row:Int))=true:=by simp
    rw[ha]
    clear ha hnext hstep hT
    go_wp2
    go_ret2
    exact⟨hBl,Or.inl ⟨hno,rfl⟩⟩
   ·have hkl:=Cc.ks_lt htl ha hr
    have hT2:∀ m,m<b.size-j→Cc.trail b.size (BY b) row m≠row:=by
     intro m hm
     by_cases e:m<b.size-(j+1)
     ·exact hT m e
     ·have:m=b.size-(j+1):=by omega
      rw[this];exact ha
    have hks:Cc.ks row (Cc.trail b.size (BY b) row (b.size-(j+1)))=if row<Cc.trail b.size (BY b) row (b.size-(j+1)) then Cc.trail b.size (BY b) row (b.size-(j+1))-1 else Cc.trail b.size (BY b) row (b.size-(j+1)):=rfl
    have cL:=hL.cell (i:=Cc.ks row (Cc.trail b.size (BY b) row (b.size-(j+1)))) hkl
    have hg:=(hX.set j (BY b (Cc.ks row (Cc.trail b.size (BY b) row (b.size-(j+1)))))).congr (g:=textTo b row j) fun k _=>hstep k (by omega)
    have hbv:=BY_lt b hkl
    have cX:=hX.cell (i:=j) (by omega)
    have fX:=hX.frozen j
    have Hnext:Hid (Cc.trail b.size (BY b) row (b.size-j)=Cc.lead b.size (BY b) (Cc.ks row (Cc.trail b.size (BY b) row (b.size-(j+1))))):=hnext
    clear hnext hstep hT
    generalize Cc.trail b.size (BY b) row (b.size-(j+1))=a at *
    generalize hkk:Cc.ks row a=k at *
    rw[hbv]at hg
    clear hbv
    have Hfin:Hid (Cc.trail b.size (BY b) row (b.size-j)=Cc.lead b.size (BY b) k):=Hnext
    have hne:((a:Int) == (row:Int))=false:=by simp;omega
    have hlb:=Cc.lead_le (b:=BY b) hkl
    generalize Cc.lead b.size (BY b) k=l at *
    by_cases hra:row<a
    ·have hak:a=k+1:=by rw[if_pos hra]at hks;omega
     subst hak
     clear hks hkk Hnext
     have hra':(row:Int)<((k+1:Nat):Int):=by omega
     go_wp2
     exact⟨⟨j,by omega,rfl,by rw[Hfin.out],hT2,hL.other (by simp;omega) _,hg,hBl.setCell (by simp;omega) _⟩,by simp[intOf]⟩
    ·have hak:a=k:=by rw[if_neg hra]at hks;omega
     subst hak
     clear hks hkk Hnext
     go_wp2
     exact⟨⟨j,by omega,rfl,by rw[Hfin.out],hT2,hL.other (by simp;omega) _,hg,hBl.setCell (by simp;omega) _⟩,by simp[intOf]⟩
end Go.Proofs.YtopihgmemnokkaaGreat
namespace Go.Proofs.YtopihgmemnokkaaGreat
open Go.RowKit
theorem BY_ext {a b:ByteArray}(hs:a.size=b.size) (h:∀ k,k<a.size→BY a k=BY b k):a=b:=by
 apply ByteArray.ext
 apply Array.ext
 ·exact hs
 ·intro i h1 h2
  have h3:=h i h1
  rw[BY_lt a h1,BY_lt b h2]at h3
  exact UInt8.toNat_inj.1 h3
def placeOf (s:ByteArray) (p:Nat):Nat:=((List.range (s.size+1)).find? fun i=>Cc.rank s.size (before s) i == p).getD 0
theorem placeOf_rank (s:ByteArray){i:Nat}(hi:i≤s.size):placeOf s (Cc.rank s.size (before s) i)=i:=by
 unfold placeOf
 cases hf:(List.range (s.size+1)).find? fun j=>Cc.rank s.size (before s) j == Cc.rank s.size (before s) i with
 | none =>
  rw[List.find?_eq_none]at hf
  have:=hf i (by rw[List.mem_range];omega)
  simp at this
 | some j =>
  have h1:=List.find?_some hf
  have h2:=List.mem_of_find?_eq_some hf
  rw[List.mem_range]at h2
  simp at h1
  simp
  exact(ord s).rank_inj (by omega) hi h1
def trn (s:ByteArray):ByteArray:=strOfNums ((List.range s.size).map fun k=>((tb s (placeOf s) k:Nat):Int))
def textOf (b:ByteArray) (row:Nat):ByteArray:=strOfNums ((List.range b.size).map fun j=>((textTo b row 0 j:Nat):Int))
theorem trn_size (s:ByteArray):(trn s).size=s.size:=by unfold trn;rw[strOfNums_size];simp
theorem textOf_size (b:ByteArray) (row:Nat):(textOf b row).size=b.size:=by unfold textOf;rw[strOfNums_size];simp
theorem trn_BY (s:ByteArray){k:Nat}(hk:k<s.size):BY (trn s) k=tb s (placeOf s) k:=strOfNums_BY s _ _ hk
theorem textOf_BY (b:ByteArray) (row:Nat){j:Nat}(hj:j<b.size):BY (textOf b row) j=textTo b row 0 j:=strOfNums_f _ _ hj (textTo_le _ _ _ _)
theorem place_un (s:ByteArray){k:Nat}(hk:k<s.size):∃ i,i<s.size∧Cc.rank s.size (before s) (i+1)=Cc.un (fw s) k:=by
 obtain⟨j,hj,hp⟩:=(ord s).onto (r:=Cc.un (fw s) k) (Cc.un_le hk)
 have hj0:j≠0:=fun e=>by subst e;exact Cc.un_ne _ _ hp.symm
 exact⟨j-1,by omega,by rw[← hp];congr 1;omega⟩
theorem tb_of (s:ByteArray){rows:Nat→Nat}(hrows:∀ i,i≤s.size→rows (Cc.rank s.size (before s) i)=i){k:Nat}(hk:k<s.size):tb s rows k=tb s (placeOf s) k:=by
 obtain⟨i,hi,hu⟩:=place_un s hk
 unfold tb
 rw[← hu,hrows _ (by omega),placeOf_rank s (by omega)]
theorem trn_LT (s:ByteArray){k:Nat}(hk:k<s.size):BY (trn s) k+1=LT s (placeOf s (Cc.un (fw s) k)-1):=by
 obtain⟨i,hi,hu⟩:=place_un s hk
 rw[trn_BY s hk]
 unfold tb
 rw[← hu,placeOf_rank s (by omega),LT_BY s (by omega)]
theorem trn_back (s:ByteArray):Cc.Takes (trn s).size (BY (trn s)) (fw s)∧textOf (trn s) (fw s)=s:=by
 have h:=Cc.back_takes (b:=BY (trn s)) (ord s) (rows:=placeOf s) (fun i hi=>placeOf_rank s hi) (fun k hk=>trn_LT s hk)
 rw[trn_size]
 refine⟨h.1,?_⟩
 apply BY_ext
 ·rw[textOf_size,trn_size]
 ·intro k hk
  rw[textOf_size,trn_size]at hk
  rw[textOf_BY _ _ (by rw[trn_size];exact hk)]
  unfold textTo
  rw[if_pos (by omega),trn_size]
  have h2:LT s (s.size-1-(s.size-1-k))=BY (trn s) (Cc.ks (fw s) (Cc.trail s.size (BY (trn s)) (fw s) (s.size-1-k)))+1:=h.2 (s.size-1-k) (by omega)
  rw[show s.size-1-(s.size-1-k)=k from by omega,LT_BY s hk]at h2
  omega
theorem text_turned (b:ByteArray) (row:Nat) (t:Cc.Takes b.size (BY b) row):fw (textOf b row)=row∧trn (textOf b row)=b:=by
 have hz:=textOf_size b row
 have o:=ord (textOf b row)
 have hpl:∀ i,i≤(textOf b row).size→placeOf (textOf b row) (Cc.rank (textOf b row).size (before (textOf b row)) i)=i:=fun i hi=>placeOf_rank _ hi
 have hL:∀ m,m<b.size→LT (textOf b row) (b.size-1-m)=BY b (Cc.ks row (Cc.trail b.size (BY b) row m))+1:=by
  intro m hm
  rw[LT_BY _ (by rw[hz];omega),textOf_BY _ _ (by omega)]
  unfold textTo
  rw[if_pos (by omega),show b.size-1-(b.size-1-m)=m from by omega]
 have hfw:fw (textOf b row)=Cc.rank b.size (before (textOf b row)) 0:=by unfold fw;rw[hz]
 rw[hz]at o hpl
 obtain⟨h1,h2⟩:=t.made o hL (rows:=placeOf (textOf b row)) hpl
 refine⟨by rw[hfw,h1],?_⟩
 apply BY_ext
 ·rw[trn_size,hz]
 ·intro k hk
  rw[trn_size,hz]at hk
  rw[trn_BY _ (by rw[hz];exact hk)]
  unfold tb
  rw[hfw,h1]
  obtain⟨e1,e2,e3⟩:=h2 k hk
  rw[LT_BY _ (by rw[hz];omega)]at e3
  omega
theorem trn_count (s:ByteArray) (c:Nat):(Cc.cn s.size fun j=>decide (BY (trn s) j=c))=Cc.cn s.size fun j=>decide (BY s j=c):=by
 have h:=Cc.cn_perm (n:=s.size) (σ:=fun k=>placeOf s (Cc.un (fw s) k)-1) (fun j=>decide (BY s j=c)) (by
  intro i j hi hj e
  obtain⟨a,ha,hu⟩:=place_un s hi
  obtain⟨b,hb,hv⟩:=place_un s hj
  have e:placeOf s (Cc.un (fw s) i)-1=placeOf s (Cc.un (fw s) j)-1:=e
  rw[← hu,← hv,placeOf_rank s (by omega),placeOf_rank s (by omega)]at e
  have:a=b:=by omega
  subst this
  have:=congrArg (Cc.ks (fw s)) (hu.symm.trans hv)
  rw[Cc.ks_un,Cc.ks_un]at this;exact this) (by
  intro i hi
  obtain⟨a,ha,hu⟩:=place_un s hi
  show placeOf s (Cc.un (fw s) i)-1<s.size
  rw[← hu,placeOf_rank s (by omega)];omega)
 rw[← h]
 apply Cc.cn_congr
 intro i hi
 rw[trn_BY s hi];rfl
set_option maxHeartbeats 400000 in
theorem transform_any (s:ByteArray) (w:World) (hs:s.size≤1000) :
  Calls Tryz.prog 44 #[.string s] w fun e w'=>e=.returned (.tuple #[.string (trn s),.int .i64 (fw s:Nat),.int .i64 0])∧Below w.heap.size w w':=by
 go_enter Tryz.func44,Tryz.ntmps44
 go_wp2_with fail
 refine(forth_any s _ hs).mono ?_
 rintro e w1 ⟨b,rows,rfl,hsz,hrows,hb,hB⟩
 have hbt:b=trn s:=BY_ext (by rw[hsz,trn_size]) fun k hk=>by rw[hb k (by omega),trn_BY s (by omega),tb_of s hrows (by omega)]
 subst hbt
 clear hb hrows hsz
 go_wp2
 go_ret3
 exact⟨rfl,hB⟩
theorem Takes.decide (n:Nat) (b:Nat→Nat) (row:Nat):Cc.Takes n b row∨¬ Cc.Takes n b row:=Classical.em _
def RestoreSays (b:ByteArray) (row:Int) (t:ByteArray) (e:Nat):Prop :=
 (1000<b.size∧t=ByteArray.empty∧e=1)∨(b.size≤1000∧t=ByteArray.empty∧e=4) ∨
 (b.size≤1000∧∃ r:Nat,row=r∧Cc.Takes b.size (BY b) r∧t=textOf b r∧e=0)
set_option maxHeartbeats 400000 in
theorem restore_any (b:ByteArray) (row:Int) (w:World) :
  Calls Tryz.prog 50 #[.string b,.int .i64 row] w fun e w'=>∃ (t:ByteArray) (n:Nat),e=.returned (.tuple #[.string t,.int .i64 (n:Nat)])∧RestoreSays b row t n ∧
   (∀ r:Nat,row=r→b.size≤1000→Cc.Takes b.size (BY b) r→t=textOf b r∧n=0)∧Below w.heap.size w w':=by
 by_cases hl:1000<b.size
 ·go_enter Tryz.func50,Tryz.ntmps50
  go_wp2
  go_ret2
  exact⟨_,1,rfl,.inl ⟨hl,rfl,rfl⟩,fun r _ h=>by omega,Below.refl _ _⟩
 ·have hs:b.size≤1000:=by omega
  by_cases ho:row<0∨(b.size:Int)<row
  ·have hc:=back_out b row w ho
   have hno:∀ r:Nat,row=r→¬ Cc.Takes b.size (BY b) r:=fun r hr t=>by have:=t.1;omega
   go_enter Tryz.func50,Tryz.ntmps50
   go_wp2_with fail
   refine hc.mono ?_
   rintro e w' ⟨rfl,rfl⟩
   go_wp2
   go_ret2
   exact⟨_,4,rfl,.inr (.inl ⟨hs,rfl,rfl⟩),fun r hr _ t=>absurd t (hno r hr),Below.refl _ _⟩
  ·obtain⟨r,rfl⟩:∃ r:Nat,row=r:=⟨row.toNat,by omega⟩
   have hr:r≤b.size:=by omega
   go_enter Tryz.func50,Tryz.ntmps50
   go_wp2_with fail
   refine(back_in b r _ hs hr).mono ?_
   rintro e w1 ⟨hB,⟨hno,rfl⟩|⟨ht,t,rfl,hsz,hby⟩⟩
   ·have hno':∀ r':Nat,(r:Int)=r'→¬ Cc.Takes b.size (BY b) r':=by
     intro r' hr'
     have:r'=r:=by omega
     subst this;exact hno
    go_wp2
    go_ret2
    exact⟨_,4,rfl,.inr (.inl ⟨hs,rfl,rfl⟩),fun r' hr' _ t=>absurd t (hno' r' hr'),hB⟩
   ·have htt:t=textOf b r:=BY_ext (by rw[hsz,textOf_size]) fun k hk=>by rw[hby k (by omega),textOf_BY b r (by omega)]
    subst htt
    clear hby hsz
    have hyes:∀ r':Nat,(r:Int)=r'→textOf b r=textOf b r'∧0=0:=by
     intro r' hr'
     have:r'=r:=by omega
     subst this;exact⟨rfl,rfl⟩
    go_wp2
    go_ret2
    exact⟨_,0,rfl,.inr (.inr ⟨hs,r,rfl,ht,rfl,rfl⟩),fun r' hr' _ _=>⟨(hyes r' hr').1,rfl⟩,hB⟩
end Go.Proofs.YtopihgmemnokkaaGreat
