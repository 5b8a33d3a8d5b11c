import Derived.Test.YtopihgmemnokkaaGreatTreeW5J
import Derived.Test.YtopihgmemnokkaaGreatLaw13J
import Derived.Test.YtopihgmemnokkaaGreatRecR2J
import Derived.Test.YtopihgmemnokkaaGreatLaw1J
namespace Go.Proofs.YtopihgmemnokkaaGreat
open Go.RowKit
theorem conv_u8 {w:World}{base:Nat}{v:Value}{l:List Nat}(h:w.ownsRow base 5 1 v l.length (u8L l)):(convert 55 9 v).run Tryz.prog w=.ok (.string (bys l)) w:=by
 unfold bys
 rcases h.2 with⟨hv,h0⟩|⟨g,cap,cur,hv,_⟩
 ·have hl:l=[]:=List.length_eq_zero_iff.1 h0
  subst hl;subst hv
  exact run_convert_bytes_nil (P:=Tryz.prog) (w:=w) 55 5 Tryz.underlying55 Tryz.underlying5 0 0 9 Tryz.underlying9
 ·subst hv
  exact run_convert_bytes_arg (P:=Tryz.prog) w 55 5 Tryz.underlying55 Tryz.underlying5 g 0 l.length cap (l.map fun n=>((n:Nat):Int)) (by simp) (by
     intro i hi
     have hi2:i<l.length:=by simpa using hi
     rw[Nat.zero_add,own_cell h (u:=.int .u8 (l[i]:Nat)) (by unfold u8L;rw[List.getElem?_map,List.getElem?_eq_getElem hi2];rfl)]
     simp[List.getElem?_eq_getElem hi2]) 9 Tryz.underlying9
theorem join_five (w:World) (ty:TypeId) (p0 p1 p2 p3 p4:Value × List Nat) (h0:Srcs w p0.1 p0.2.length 1 (u8L p0.2)) (h1:Srcs w p1.1 p1.2.length 1 (u8L p1.2)) (h2:Srcs w p2.1 p2.2.length 1 (u8L p2.2)) (h3:Srcs w p3.1 p3.2.length 1 (u8L p3.2)) (h4:Srcs w p4.1 p4.2.length 1 (u8L p4.2)) :
  ∀ j v l,[p0,p1,p2,p3,p4][j]?=some (v,l)→(w.alloc (.cells #[p0.1,p1.1,p2.1,p3.1,p4.1] ty)).cell? ⟨w.heap.size,j,none⟩=some v∧Srcs (w.alloc (.cells #[p0.1,p1.1,p2.1,p3.1,p4.1] ty)) v l.length 1 (u8L l):=fun j v l hx=>by
 have hb:Below w.heap.size w (w.alloc (.cells #[p0.1,p1.1,p2.1,p3.1,p4.1] ty)):=(Below.refl _ _).alloc (Nat.le_refl _) _
 match j,hx with
 | 0,hx=>simp at hx;subst hx;exact⟨cell_of (heap_alloc_new _ _) rfl,h0.below hb⟩
 | 1,hx=>simp at hx;subst hx;exact⟨cell_of (heap_alloc_new _ _) rfl,h1.below hb⟩
 | 2,hx=>simp at hx;subst hx;exact⟨cell_of (heap_alloc_new _ _) rfl,h2.below hb⟩
 | 3,hx=>simp at hx;subst hx;exact⟨cell_of (heap_alloc_new _ _) rfl,h3.below hb⟩
 | 4,hx=>simp at hx;subst hx;exact⟨cell_of (heap_alloc_new _ _) rfl,h4.below hb⟩
theorem twoL_le {n:Nat}(h:n<65536):∀ x∈twoL n,x≤255:=fun x hx=>by simp[twoL]at hx;omega
theorem cnL_le {f:Nat→Nat}(h:∀ c,f c<65536):∀ c,∀ x∈cnL f c,x≤255
 | 0,x,hx=>by simp[cnL]at hx
 |c+1,x,hx=>by
  simp only[cnL]at hx
  split at hx
  ·rcases List.mem_append.1 hx with h1|h1
   ·exact cnL_le h c x h1
   ·exact twoL_le (h c) x h1
  ·exact cnL_le h c x hx
theorem marL_le {t:ByteArray}{r:Nat}(hr:r<65536) (hs:t.size≤1000):∀ x∈marL t r,x≤255:=fun x hx=>by
 have hfw:fw t≤t.size:=(ord t).rank_le (i:=0) (by omega)
 unfold marL at hx
 simp only[List.mem_append]at hx
 rcases hx with(((((hx|hx)|hx)|hx)|hx)|hx)|hx
 ·simp at hx;omega
 ·exact twoL_le hr x hx
 ·exact twoL_le (by omega) x hx
 ·exact twoL_le (by omega) x hx
 ·unfold thL at hx
  obtain⟨j,_,rfl⟩:=List.mem_map.1 hx
  have:=th_lt (cntB t t.size) j 8;omega
 ·exact cnL_le (fun c=>by have:=Cc.cn_le t.size (fun j=>decide (BY t j=c));show Cc.cn _ _<65536;omega) 256 x hx
 ·unfold packL at hx
  obtain⟨j,_,rfl⟩:=List.mem_map.1 hx
  have:=bv_lt (cat (fun c=>bl (codesG (cntB t t.size) c)) (trn t) t.size) j 8;omega
theorem nums_three (w:World) (a b c:Nat):∀ j x,[a,b,c][j]?=some x→(w.alloc (.cells #[.int .i64 (a:Nat),.int .i64 (b:Nat),.int .i64 (c:Nat)] 3)).cell? ⟨w.heap.size,j,none⟩=some (.int .i64 (x:Nat)):=fun j x hx=>by
 refine cell_of (heap_alloc_new _ _) ?_
 match j,hx with
 | 0,hx=>simp at hx;subst hx;rfl
 | 1,hx=>simp at hx;subst hx;rfl
 | 2,hx=>simp at hx;subst hx;rfl
set_option maxRecDepth 100000 in
set_option maxHeartbeats 3000000 in
theorem write_any (t:ByteArray) (rate:Nat) (w:World) (hbo:BuildOk t (rate:Nat)) :
  Calls Tryz.prog 36 #[.agg #[.int .i64 (rate:Nat),.int .i64 (fw t:Nat),.string (trn t)]] w fun e w'=>e=.returned (.string (mar t rate))∧Below w.heap.size w w':=by
 obtain⟨i0,hi0,hi1,hi2,hi3⟩:=info_parts Tryz.info5
 have hs:=hbo.1
 have hr:rate≤64:=by have:=hbo.2.2;omega
 have hfle:∀ c,cntB t t.size c≤1000:=fun c=>Nat.le_trans (Cc.cn_le _ _) hs
 have hw:∀ u,(Hf.bytes u).Nodup→(∀ c∈Hf.bytes u,c<256)→Hf.wt (cntB t t.size) u≤1000:=fun u hn _=>by
  rw[wt_list];exact Nat.le_trans (cnt_list t t.size _ hn) hs
 have hfw:fw t≤t.size:=(ord t).rank_le (i:=0) (by omega)
 have htz:=trn_size t
 have hcd:=codes_of (codesG_of (cntB t t.size)) hw
 have h8:=bits_eight t hs
 have hcn:=fun W=>count_any (trn t) W (by rw[htz];exact hs)
 rw[trn_cnt]at hcn
 have HOF:Hid (∀ W,Calls Tryz.prog 79 #[.agg (rowC 256 (cntB t t.size))] W fun e w'=>e=.returned (.agg (rowR (codesG (cntB t t.size))))∧Below W.heap.size W w'):=fun W=>by
  refine(of_any (cntB t t.size) W hw (fun c=>by have:=hfle c;omega)).mono ?_
  rintro e w' ⟨⟨G,he,hG⟩,hb⟩
  rw[codes_uniq hG]at he
  exact⟨he,hb⟩
 have HPK:Hid (∀ W,Calls Tryz.prog 78 #[.string (trn t),.agg (rowR (codesG (cntB t t.size)))] W fun e w'=>∃ v,e=.returned v∧w'.ownsRow W.heap.size 5 1 v (packL (bitsOf t)).length (u8L (packL (bitsOf t)))∧Below W.heap.size W w'):=fun W=>by
  have h:=pack_any (codesG (cntB t t.size)) (trn t) W (by rw[htz];exact hs) (fun c hc=>by
   have h1:=hcd.len c hc
   rw[bl_len]at h1
   have h2:=codes_small (codesG_of (cntB t t.size)) c
   exact⟨h1,Nat.lt_of_lt_of_le h2 (Nat.le_trans (Nat.pow_le_pow_right (by omega) h1) (by decide))⟩) (by rw[htz];show (bitsOf t).length≤8000;omega)
  rw[htz]at h
  exact h
 have HPR:Hid (∀ W,Calls Tryz.prog 75 #[.agg (rowC 256 (cntB t t.size))] W fun e w'=>∃ v,e=.returned (.tuple #[.slice (some ⟨W.heap.size+1,0,none⟩) 32 32,v])∧RowB w' (W.heap.size+1) 32 (flgA (cntB t t.size) 256)∧w'.ownsRow W.heap.size 3 1 v (ofA (cntB t t.size) 256).length (intsL (ofA (cntB t t.size) 256))∧Below W.heap.size W w'):=fun W=>present_any _ (fun c=>by have:=hfle c;omega) W
 have hol:=ofA_len (cntB t t.size) 256
 have hlow:=ofA_low hfle 256
 have HNO:Hid (∀ x∈ofA (cntB t t.size) 256,x<1099511627776):=fun x hx=>by have:=hlow x hx;omega
 have HN3:Hid (∀ x∈[rate,t.size,fw t],x<1099511627776):=fun x hx=>by simp at hx;omega
 have HDG:Hid (dgsA 2 (ofA (cntB t t.size) 256)=cnL (cntB t t.size) 256):=cnL_ofA (fun c=>by have:=hfle c;omega) 256
 have HD3:Hid (dgsA 2 [rate,t.size,fw t]=twoL rate++twoL t.size++twoL (fw t)):=by
  show dgA 2 rate 2++(dgA 2 t.size 2++(dgA 2 (fw t) 2++[]))=_
  rw[dgA_two (by omega),dgA_two (by omega),dgA_two (by omega),List.append_nil,List.append_assoc]
 have HTH:Hid ((List.range 32).map (flgA (cntB t t.size) 256)=thL (cntB t t.size) 32):=thL_flgA _
 have HM:Hid (marL t rate=[67]++twoL rate++twoL t.size++twoL (fw t)++thL (cntB t t.size) 32++cnL (cntB t t.size) 256++packL (bitsOf t)):=rfl
 have HMA:Hid (mar t rate=bys (marL t rate++sumL (bys (marL t rate)))):=rfl
 have hm5:=(mar_least hbo).2
 have hml:(marL t rate).length≤1555:=by
  have:(mar t rate).size=(marL t rate).length+4:=by unfold mar;rw[bys_size,List.length_append];rfl
  omega
 have HME:Hid (∀ x∈marL t rate,x≤255):=marL_le (by omega) hs
 clear hfle hw hcd h8 hlow hbo hm5
 generalize cntB t t.size=f at *
 generalize hbx:w.heap.size=bx at *
 have HBX:Hid (w.heap.size=bx):=hbx
 go_enter Tryz.func36,Tryz.ntmps36
 go_wp2_with fail
 generalize hX:w.alloc (.cells #[.int .i64 (rate:Nat),.int .i64 (fw t:Nat),.string (trn t)] 72)=wx at *
 have HX:wx.heap[bx]?=some (.cells #[.int .i64 (rate:Nat),.int .i64 (fw t:Nat),.string (trn t)] 72 (0,0)):=by rw[← hX];exact heap_alloc_new' _ _ hbx
 have hBx:Below w.heap.size w wx:=by rw[← hX];exact(Below.refl _ _).alloc (Nat.le_refl _) _
 have hzx:wx.heap.size=bx+1:=by rw[← hX];simp[hbx]
 clear hX
 refine(hcn _).mono ?_
 rintro e wa ⟨rfl,hba⟩
 have hza:=hba.size
 have HXa:wa.heap[bx]?=some (.cells #[.int .i64 (rate:Nat),.int .i64 (fw t:Nat),.string (trn t)] 72 (0,0)):=by rw[hba.block _ (by omega)];exact HX
 have hBa:Below w.heap.size w wa:=hBx.trans (hba.mono (by omega))
 have hM1:(wa.alloc (.cells (rowC 256 fun _=>0) 120)).heap[wa.heap.size]?=some (.cells (rowC 256 fun _=>0) 120 (0,0)):=heap_alloc_new _ _
 have hM2:((wa.alloc (.cells (rowC 256 fun _=>0) 120)).setRow wa.heap.size (rowC 256 f)).heap[wa.heap.size]?=some (.cells (rowC 256 f) 120 (0,0)):=setRow_heap _ _ _ _ _ _ hM1
 have hBc:Below wa.heap.size wa ((wa.alloc (.cells (rowC 256 fun _=>0) 120)).setRow wa.heap.size (rowC 256 f)):=below_setRow ((Below.refl _ _).alloc (Nat.le_refl _) _) (Nat.le_refl _) _
 have hzc:((wa.alloc (.cells (rowC 256 fun _=>0) 120)).setRow wa.heap.size (rowC 256 f)).heap.size=wa.heap.size+1:=by simp
 generalize hwc:(wa.alloc (.cells (rowC 256 fun _=>0) 120)).setRow wa.heap.size (rowC 256 f)=wc at *
 have HWC:Hid ((wa.alloc (.cells (rowC 256 fun _=>0) 120)).setRow wa.heap.size (rowC 256 f)=wc):=hwc
 have HXc:wc.heap[bx]?=some (.cells #[.int .i64 (rate:Nat),.int .i64 (fw t:Nat),.string (trn t)] 72 (0,0)):=by rw[hBc.block _ (by omega)];exact HXa
 have HBc:Hid (Below w.heap.size w wc):=hBa.trans (hBc.mono (by omega))
 have HM2:Hid (wc.heap[wa.heap.size]?=some (.cells (rowC 256 f) 120 (0,0))):=hM2
 have HXX:Hid (wc.heap[bx]?=some (.cells #[.int .i64 (rate:Nat),.int .i64 (fw t:Nat),.string (trn t)] 72 (0,0))):=HXc
 have HZ:Hid (wc.heap.size=wa.heap.size+1∧bx<wa.heap.size):=⟨hzc,by omega⟩
 clear hwc hBc hBa HXc HXa HX hBx hzx hza hba hM2 hcn
 go_wp2_with (first
  | (refine wpList_alloc_row rfl 120 rfl _ zero256 ?_)
  | (refine wpList_store_row rfl 120 _ _ rfl wa.heap.size (rowC 256 f) rfl rfl 120 (rowC 256 fun _=>0) (by exact hM1) (by rw[size_rowC];exact size256) (by simp only[size_rowC]) (rowC_one _ _) ?_;rw[HWC.out])
  | (refine wpList_load_row rfl 120 _ rfl wa.heap.size rfl 120 (rowC 256 f) (0,0) _ (by exact HM2.out) Tryz.underlying120 rfl (by rw[size_rowC];exact size256) ?_)
  | fail)
 clear hM1 hzc
 refine(HPR.out wc).mono ?_
 rintro e wp ⟨vO,rfl,hRB,hOO,hbp⟩
 obtain⟨oa,oc,rfl⟩:=own_slice hOO
 have hzp:=hbp.size
 have hBp:Hid (Below w.heap.size w wp):=HBc.out.trans (hbp.mono HBc.out.size)
 obtain⟨hz1,hz2⟩:=HZ.out
 have HXp:wp.heap[bx]?=some (.cells #[.int .i64 (rate:Nat),.int .i64 (fw t:Nat),.string (trn t)] 72 (0,0)):=by rw[hbp.block _ (by omega)];exact HXX.out
 have HMp:wp.heap[wa.heap.size]?=some (.cells (rowC 256 f) 120 (0,0)):=by rw[hbp.block _ (by omega)];exact HM2.out
 have sT:=Srcs.own (rowB_own (base:=0) hRB (by omega) (by omega))
 have nO:=NumsAt.own hOO
 clear hz1 hz2 hzp hbp hRB hOO HZ HXX HM2 HBc HWC HPR
 generalize wc.heap.size+1=tb at *
 generalize wa.heap.size=cb at *
 go_wp2_with fail
 have hS0:wp.drew.cell? ⟨bx,0,none⟩=some (.int .i64 (rate:Nat))∧wp.drew.cell? ⟨bx,1,none⟩=some (.int .i64 (fw t:Nat))∧wp.drew.cell? ⟨bx,2,none⟩=some (.string (trn t))∧wp.drew.heap[cb]?=some (.cells (rowC 256 f) 120 (0,0)):=⟨cell_of HXp rfl,cell_of HXp rfl,cell_of HXp rfl,HMp⟩
 have sT:Srcs wp.drew (.slice (some ⟨tb,0,none⟩) 32 32) 32 1 (u8L ((List.range 32).map (flgA f 256))):=sT
 have nO:NumsAt wp.drew (.slice oa (ofA f 256).length oc) (ofA f 256):=nO
 have hB0:Hid (Below w.heap.size w wp.drew):=hBp.out.drew
 have SK:Hid (∀ W W':World,Below W.heap.size W W'→(W.cell? ⟨bx,0,none⟩=some (.int .i64 (rate:Nat))∧W.cell? ⟨bx,1,none⟩=some (.int .i64 (fw t:Nat))∧W.cell? ⟨bx,2,none⟩=some (.string (trn t))∧W.heap[cb]?=some (.cells (rowC 256 f) 120 (0,0)))→(W'.cell? ⟨bx,0,none⟩=some (.int .i64 (rate:Nat))∧W'.cell? ⟨bx,1,none⟩=some (.int .i64 (fw t:Nat))∧W'.cell? ⟨bx,2,none⟩=some (.string (trn t))∧W'.heap[cb]?=some (.cells (rowC 256 f) 120 (0,0)))):=fun W W' hb ⟨q0,q1,q2,q3⟩=>by
  have hk:=Kept.of_below hb (Nat.le_refl _) (fun _=>False)
  exact⟨cell_keep hk q0 (fun h=>h),cell_keep hk q1 (fun h=>h),cell_keep hk q2 (fun h=>h),by rw[hb.block _ (Array.getElem?_eq_some_iff.1 q3).1];exact q3⟩
 refine wp_region_held_drew (S:=fun w'=>w'.cell? ⟨bx,0,none⟩=some (.int .i64 (rate:Nat))∧w'.cell? ⟨bx,1,none⟩=some (.int .i64 (fw t:Nat))∧w'.cell? ⟨bx,2,none⟩=some (.string (trn t))∧w'.heap[cb]?=some (.cells (rowC 256 f) 120 (0,0))) (by kernel_rfl) hS0 (fun _=>?_)
 clear HXp HMp hBp
 generalize wp.drew=w0 at *
 refine wpAnyH_take (i:=1) (v:=.pointer (some ⟨bx,0,none⟩)) rfl (by kernel_rfl) (by kernel_rfl) (by kernel_rfl) (fun _ _ _ h=>h) (Or.inl ⟨by rfl,?_⟩) hS0 ?_
 ·intro wq hq;clear hq;go_simp
 simp only[Act.put,List.getElem_toArray,List.getElem_cons_succ,List.getElem_cons_zero,List.setIfInBounds_toArray,List.set_cons_succ,List.set_cons_zero]
 refine wpAnyH_take (i:=2) (v:=.int .i64 (rate:Nat)) rfl (by kernel_rfl) (by kernel_rfl) (by kernel_rfl) (fun _ _ _ h=>h) (Or.inl ⟨by rfl,?_⟩) hS0 ?_
 ·intro wq hq;obtain⟨q0,q1,q2,_⟩:=hq;go_simp
 simp only[Act.put,List.getElem_toArray,List.getElem_cons_succ,List.getElem_cons_zero,List.setIfInBounds_toArray,List.set_cons_succ,List.set_cons_zero]
 refine wpAnyH_take (i:=3) (v:=.pointer (some ⟨bx,2,none⟩)) rfl (by kernel_rfl) (by kernel_rfl) (by kernel_rfl) (fun _ _ _ h=>h) (Or.inl ⟨by rfl,?_⟩) hS0 ?_
 ·intro wq hq;clear hq;go_simp
 simp only[Act.put,List.getElem_toArray,List.getElem_cons_succ,List.getElem_cons_zero,List.setIfInBounds_toArray,List.set_cons_succ,List.set_cons_zero]
 refine wpAnyH_take (i:=4) (v:=.string (trn t)) rfl (by kernel_rfl) (by kernel_rfl) (by kernel_rfl) (fun _ _ _ h=>h) (Or.inl ⟨by rfl,?_⟩) hS0 ?_
 ·intro wq hq;obtain⟨q0,q1,q2,_⟩:=hq;go_simp
 simp only[Act.put,List.getElem_toArray,List.getElem_cons_succ,List.getElem_cons_zero,List.setIfInBounds_toArray,List.set_cons_succ,List.set_cons_zero]
 refine wpAnyH_take (i:=5) (v:=.int .i64 (t.size:Nat)) rfl (by kernel_rfl) (by kernel_rfl) (by kernel_rfl) (fun _ _ _ h=>h) (Or.inl ⟨by rfl,?_⟩) hS0 ?_
 ·intro wq hq;clear hq;go_simp
 simp only[Act.put,List.getElem_toArray,List.getElem_cons_succ,List.getElem_cons_zero,List.setIfInBounds_toArray,List.set_cons_succ,List.set_cons_zero]
 refine wpAnyH_take (i:=6) (v:=.pointer (some ⟨bx,1,none⟩)) rfl (by kernel_rfl) (by kernel_rfl) (by kernel_rfl) (fun _ _ _ h=>h) (Or.inl ⟨by rfl,?_⟩) hS0 ?_
 ·intro wq hq;clear hq;go_simp
 simp only[Act.put,List.getElem_toArray,List.getElem_cons_succ,List.getElem_cons_zero,List.setIfInBounds_toArray,List.set_cons_succ,List.set_cons_zero]
 refine wpAnyH_take (i:=7) (v:=.int .i64 (fw t:Nat)) rfl (by kernel_rfl) (by kernel_rfl) (by kernel_rfl) (fun _ _ _ h=>h) (Or.inl ⟨by rfl,?_⟩) hS0 ?_
 ·intro wq hq;obtain⟨q0,q1,q2,_⟩:=hq;go_simp
 simp only[Act.put,List.getElem_toArray,List.getElem_cons_succ,List.getElem_cons_zero,List.setIfInBounds_toArray,List.set_cons_succ,List.set_cons_zero]
 refine wpAnyH_take (i:=10) (v:=.slice (some ⟨tb,0,none⟩) 32 32) rfl (by kernel_rfl) (by kernel_rfl) (by kernel_rfl) (fun _ _ _ h=>h) (Or.inl ⟨by rfl,?_⟩) hS0 ?_
 ·intro wq hq;clear hq;go_simp
 simp only[Act.put,List.getElem_toArray,List.getElem_cons_succ,List.getElem_cons_zero,List.setIfInBounds_toArray,List.set_cons_succ,List.set_cons_zero]
 refine wpAnyH_take (i:=11) (v:=.slice oa (ofA f 256).length oc) rfl (by kernel_rfl) (by kernel_rfl) (by kernel_rfl) (fun _ _ _ h=>h) (Or.inl ⟨by rfl,?_⟩) hS0 ?_
 ·intro wq hq;clear hq;go_simp
 simp only[Act.put,List.getElem_toArray,List.getElem_cons_succ,List.getElem_cons_zero,List.setIfInBounds_toArray,List.set_cons_succ,List.set_cons_zero]
 refine wpAnyH_take (i:=13) (v:=.pointer (some ⟨bx,2,none⟩)) rfl (by kernel_rfl) (by kernel_rfl) (by kernel_rfl) (fun _ _ _ h=>h) (Or.inl ⟨by rfl,?_⟩) hS0 ?_
 ·intro wq hq;clear hq;go_simp
 simp only[Act.put,List.getElem_toArray,List.getElem_cons_succ,List.getElem_cons_zero,List.setIfInBounds_toArray,List.set_cons_succ,List.set_cons_zero]
 refine wpAnyH_take (i:=14) (v:=.string (trn t)) rfl (by kernel_rfl) (by kernel_rfl) (by kernel_rfl) (fun _ _ _ h=>h) (Or.inl ⟨by rfl,?_⟩) hS0 ?_
 ·intro wq hq;obtain⟨q0,q1,q2,_⟩:=hq;go_simp
 simp only[Act.put,List.getElem_toArray,List.getElem_cons_succ,List.getElem_cons_zero,List.setIfInBounds_toArray,List.set_cons_succ,List.set_cons_zero]
 refine wpAnyH_take (i:=15) (v:=.agg (rowC 256 f)) rfl (by kernel_rfl) (by kernel_rfl) (by kernel_rfl) (fun _ _ _ h=>h) (Or.inl ⟨by rfl,?_⟩) hS0 ?_
 ·intro wq hq;have h4:=hq.2.2.2;clear hq;exact exec_load_row 120 (.tmp 3) rfl cb rfl 120 (rowC 256 f) (0,0) _ h4 Tryz.underlying120 rfl (by rw[size_rowC];exact size256)
 simp only[Act.put,List.getElem_toArray,List.getElem_cons_succ,List.getElem_cons_zero,List.setIfInBounds_toArray,List.set_cons_succ,List.set_cons_zero]
 refine wpAnyH_ready (rs:=[0,8]) (by kernel_rfl) (by simp) ?_
 refine AllReadyH.cons rfl (fun K hK=>?p0) (AllReadyH.cons rfl (fun K hK=>?q0) AllReadyH.nil)
 case' q0 =>
  go_simp
  have hb:Below w0.heap.size w0 (w0.alloc (.cells #[.int .i64 (rate:Nat),.int .i64 (t.size:Nat),.int .i64 (fw t:Nat)] 3)):=(Below.refl _ _).alloc (Nat.le_refl _) _
  have n8n:NumsAt (w0.alloc (.cells #[.int .i64 (rate:Nat),.int .i64 (t.size:Nat),.int .i64 (fw t:Nat)] 3)) (.slice (some ⟨w0.heap.size,0,none⟩) 3 3) [rate,t.size,fw t]:=.inr ⟨_,_,rfl,nums_three _ _ _ _⟩
  generalize w0.alloc (.cells #[.int .i64 (rate:Nat),.int .i64 (t.size:Nat),.int .i64 (fw t:Nat)] 3)=w1 at *
  have hS1:=SK.out _ _ hb hS0
  have hB1:Hid (Below w.heap.size w w1):=hB0.out.trans (hb.mono hB0.out.size)
  replace sT:=sT.below hb
  replace nO:=nO.below hb (Nat.le_refl _)
  try replace s0:=s0.below hb
  try replace n8:=n8.below hb (Nat.le_refl _)
  try replace s9:=s9.below hb
  try replace s12:=s12.below hb
  try replace s17:=s17.below hb
  have n8:=n8n
  clear n8n
  generalize w0.heap.size=g8 at n8 ⊢
  refine hK.out _ _ hS1 (fun hx=>?_)
  clear hK K hb hx
  clear hS0 hB0
  refine wpAnyH_ready (rs:=[0,9]) (by kernel_rfl) (by simp) ?_
  refine AllReadyH.cons rfl (fun K hK=>?p1) (AllReadyH.cons rfl (fun K hK=>?q1) AllReadyH.nil)
 case' q1 =>
  go_simp
  refine(digits_any 2 ⟨by omega,by omega⟩ [rate,t.size,fw t] _ w1 n8 HN3.out (by simp)).mono ?_
  rintro e w2 ⟨v9,rfl,o9,hb⟩
  obtain⟨a9,c9,rfl⟩:=own_slice o9
  have hS2:=SK.out _ _ hb hS1
  have hB2:Hid (Below w.heap.size w w2):=hB1.out.trans (hb.mono hB1.out.size)
  replace sT:=sT.below hb
  replace nO:=nO.below hb (Nat.le_refl _)
  try replace s0:=s0.below hb
  try replace n8:=n8.below hb (Nat.le_refl _)
  try replace s9:=s9.below hb
  try replace s12:=s12.below hb
  try replace s17:=s17.below hb
  have s9:=Srcs.own o9
  clear o9 n8
  refine hK.out _ _ hS2 (fun hx=>?_)
  clear hK K hb hx
  clear hS1 hB1
  refine wpAnyH_ready (rs:=[0,12]) (by kernel_rfl) (by simp) ?_
  refine AllReadyH.cons rfl (fun K hK=>?p2) (AllReadyH.cons rfl (fun K hK=>?q2) AllReadyH.nil)
 case' q2 =>
  go_simp
  refine(digits_any 2 ⟨by omega,by omega⟩ (ofA f 256) _ w2 nO HNO.out (by omega)).mono ?_
  rintro e w3 ⟨v12,rfl,o12,hb⟩
  obtain⟨a12,c12,rfl⟩:=own_slice o12
  have hS3:=SK.out _ _ hb hS2
  have hB3:Hid (Below w.heap.size w w3):=hB2.out.trans (hb.mono hB2.out.size)
  replace sT:=sT.below hb
  replace nO:=nO.below hb (Nat.le_refl _)
  try replace s0:=s0.below hb
  try replace n8:=n8.below hb (Nat.le_refl _)
  try replace s9:=s9.below hb
  try replace s12:=s12.below hb
  try replace s17:=s17.below hb
  have s12:=Srcs.own o12
  clear o12
  refine hK.out _ _ hS3 (fun hx=>?_)
  clear hK K hb hx
  clear hS2 hB2
  refine wpAnyH_ready (rs:=[0,16]) (by kernel_rfl) (by simp) ?_
  refine AllReadyH.cons rfl (fun K hK=>?p3) (AllReadyH.cons rfl (fun K hK=>?q3) AllReadyH.nil)
 case' q3 =>
  go_simp
  refine(HOF.out w3).mono ?_
  rintro e w4 ⟨rfl,hb⟩
  have hS4:=SK.out _ _ hb hS3
  have hB4:Hid (Below w.heap.size w w4):=hB3.out.trans (hb.mono hB3.out.size)
  replace sT:=sT.below hb
  replace nO:=nO.below hb (Nat.le_refl _)
  try replace s0:=s0.below hb
  try replace n8:=n8.below hb (Nat.le_refl _)
  try replace s9:=s9.below hb
  try replace s12:=s12.below hb
  try replace s17:=s17.below hb
  refine hK.out _ _ hS4 (fun hx=>?_)
  clear hK K hb hx
  clear hS3 hB3
  refine wpAnyH_ready (rs:=[0,17]) (by kernel_rfl) (by simp) ?_
  refine AllReadyH.cons rfl (fun K hK=>?p4) (AllReadyH.cons rfl (fun K hK=>?q4) AllReadyH.nil)
 case' q4 =>
  go_simp
  refine(HPK.out w4).mono ?_
  rintro e w5 ⟨v17,rfl,o17,hb⟩
  obtain⟨a17,c17,rfl⟩:=own_slice o17
  have hS5:=SK.out _ _ hb hS4
  have hB5:Hid (Below w.heap.size w w5):=hB4.out.trans (hb.mono hB4.out.size)
  replace sT:=sT.below hb
  replace nO:=nO.below hb (Nat.le_refl _)
  try replace s0:=s0.below hb
  try replace n8:=n8.below hb (Nat.le_refl _)
  try replace s9:=s9.below hb
  try replace s12:=s12.below hb
  try replace s17:=s17.below hb
  have s17:=Srcs.own o17
  clear o17
  refine hK.out _ _ hS5 (fun hx=>?_)
  clear hK K hb hx
  clear hS4 hB4
  refine wpAnyH_ready (rs:=[0]) (by kernel_rfl) (by simp) ?_
  refine AllReadyH.cons rfl (fun K hK=>?p5) AllReadyH.nil
 case' p0 =>
  go_simp
  have hb:Below w0.heap.size w0 (w0.alloc (.cells #[.int .u8 67] 5)):=(Below.refl _ _).alloc (Nat.le_refl _) _
  have s0n:Srcs (w0.alloc (.cells #[.int .u8 67] 5)) (.slice (some ⟨w0.heap.size,0,none⟩) 1 1) 1 1 (u8L [67]):=.inr ⟨_,_,rfl,rfl,World.news_of_block (heap_alloc_new _ _)⟩
  generalize w0.alloc (.cells #[.int .u8 67] 5)=w1 at *
  have hS1:=SK.out _ _ hb hS0
  have hB1:Hid (Below w.heap.size w w1):=hB0.out.trans (hb.mono hB0.out.size)
  replace sT:=sT.below hb
  replace nO:=nO.below hb (Nat.le_refl _)
  try replace s0:=s0.below hb
  try replace n8:=n8.below hb (Nat.le_refl _)
  try replace s9:=s9.below hb
  try replace s12:=s12.below hb
  try replace s17:=s17.below hb
  have s0:=s0n
  clear s0n
  generalize w0.heap.size=g0 at s0 ⊢
  refine hK.out _ _ hS1 (fun hx=>?_)
  clear hK K hb hx
  clear hS0 hB0
 case' p0 =>
  refine wpAnyH_ready (rs:=[8]) (by kernel_rfl) (by simp) ?_
  refine AllReadyH.cons rfl (fun K hK=>?_) AllReadyH.nil
  go_simp
  have hb:Below w1.heap.size w1 (w1.alloc (.cells #[.int .i64 (rate:Nat),.int .i64 (t.size:Nat),.int .i64 (fw t:Nat)] 3)):=(Below.refl _ _).alloc (Nat.le_refl _) _
  have n8n:NumsAt (w1.alloc (.cells #[.int .i64 (rate:Nat),.int .i64 (t.size:Nat),.int .i64 (fw t:Nat)] 3)) (.slice (some ⟨w1.heap.size,0,none⟩) 3 3) [rate,t.size,fw t]:=.inr ⟨_,_,rfl,nums_three _ _ _ _⟩
  generalize w1.alloc (.cells #[.int .i64 (rate:Nat),.int .i64 (t.size:Nat),.int .i64 (fw t:Nat)] 3)=w2 at *
  have hS2:=SK.out _ _ hb hS1
  have hB2:Hid (Below w.heap.size w w2):=hB1.out.trans (hb.mono hB1.out.size)
  replace sT:=sT.below hb
  replace nO:=nO.below hb (Nat.le_refl _)
  try replace s0:=s0.below hb
  try replace n8:=n8.below hb (Nat.le_refl _)
  try replace s9:=s9.below hb
  try replace s12:=s12.below hb
  try replace s17:=s17.below hb
  have n8:=n8n
  clear n8n
  generalize w1.heap.size=g8 at n8 ⊢
  refine hK.out _ _ hS2 (fun hx=>?_)
  clear hK K hb hx
  clear hS1 hB1
 case' p1 =>
  go_simp
  have hb:Below w1.heap.size w1 (w1.alloc (.cells #[.int .u8 67] 5)):=(Below.refl _ _).alloc (Nat.le_refl _) _
  have s0n:Srcs (w1.alloc (.cells #[.int .u8 67] 5)) (.slice (some ⟨w1.heap.size,0,none⟩) 1 1) 1 1 (u8L [67]):=.inr ⟨_,_,rfl,rfl,World.news_of_block (heap_alloc_new _ _)⟩
  generalize w1.alloc (.cells #[.int .u8 67] 5)=w2 at *
  have hS2:=SK.out _ _ hb hS1
  have hB2:Hid (Below w.heap.size w w2):=hB1.out.trans (hb.mono hB1.out.size)
  replace sT:=sT.below hb
  replace nO:=nO.below hb (Nat.le_refl _)
  try replace s0:=s0.below hb
  try replace n8:=n8.below hb (Nat.le_refl _)
  try replace s9:=s9.below hb
  try replace s12:=s12.below hb
  try replace s17:=s17.below hb
  have s0:=s0n
  clear s0n
  generalize w1.heap.size=g0 at s0 ⊢
  refine hK.out _ _ hS2 (fun hx=>?_)
  clear hK K hb hx
  clear hS1 hB1
 case' p0|p1 =>
  refine wpAnyH_ready (rs:=[9]) (by kernel_rfl) (by simp) ?_
  refine AllReadyH.cons rfl (fun K hK=>?_) AllReadyH.nil
  go_simp
  refine(digits_any 2 ⟨by omega,by omega⟩ [rate,t.size,fw t] _ w2 n8 HN3.out (by simp)).mono ?_
  rintro e w3 ⟨v9,rfl,o9,hb⟩
  obtain⟨a9,c9,rfl⟩:=own_slice o9
  have hS3:=SK.out _ _ hb hS2
  have hB3:Hid (Below w.heap.size w w3):=hB2.out.trans (hb.mono hB2.out.size)
  replace sT:=sT.below hb
  replace nO:=nO.below hb (Nat.le_refl _)
  try replace s0:=s0.below hb
  try replace n8:=n8.below hb (Nat.le_refl _)
  try replace s9:=s9.below hb
  try replace s12:=s12.below hb
  try replace s17:=s17.below hb
  have s9:=Srcs.own o9
  clear o9 n8
  refine hK.out _ _ hS3 (fun hx=>?_)
  clear hK K hb hx
  clear hS2 hB2
 case' p2 =>
  go_simp
  have hb:Below w2.heap.size w2 (w2.alloc (.cells #[.int .u8 67] 5)):=(Below.refl _ _).alloc (Nat.le_refl _) _
  have s0n:Srcs (w2.alloc (.cells #[.int .u8 67] 5)) (.slice (some ⟨w2.heap.size,0,none⟩) 1 1) 1 1 (u8L [67]):=.inr ⟨_,_,rfl,rfl,World.news_of_block (heap_alloc_new _ _)⟩
  generalize w2.alloc (.cells #[.int .u8 67] 5)=w3 at *
  have hS3:=SK.out _ _ hb hS2
  have hB3:Hid (Below w.heap.size w w3):=hB2.out.trans (hb.mono hB2.out.size)
  replace sT:=sT.below hb
  replace nO:=nO.below hb (Nat.le_refl _)
  try replace s0:=s0.below hb
  try replace n8:=n8.below hb (Nat.le_refl _)
  try replace s9:=s9.below hb
  try replace s12:=s12.below hb
  try replace s17:=s17.below hb
  have s0:=s0n
  clear s0n
  generalize w2.heap.size=g0 at s0 ⊢
  refine hK.out _ _ hS3 (fun hx=>?_)
  clear hK K hb hx
  clear hS2 hB2
 case' p0|p1|p2 =>
  refine wpAnyH_ready (rs:=[12]) (by kernel_rfl) (by simp) ?_
  refine AllReadyH.cons rfl (fun K hK=>?_) AllReadyH.nil
  go_simp
  refine(digits_any 2 ⟨by omega,by omega⟩ (ofA f 256) _ w3 nO HNO.out (by omega)).mono ?_
  rintro e w4 ⟨v12,rfl,o12,hb⟩
  obtain⟨a12,c12,rfl⟩:=own_slice o12
  have hS4:=SK.out _ _ hb hS3
  have hB4:Hid (Below w.heap.size w w4):=hB3.out.trans (hb.mono hB3.out.size)
  replace sT:=sT.below hb
  replace nO:=nO.below hb (Nat.le_refl _)
  try replace s0:=s0.below hb
  try replace n8:=n8.below hb (Nat.le_refl _)
  try replace s9:=s9.below hb
  try replace s12:=s12.below hb
  try replace s17:=s17.below hb
  have s12:=Srcs.own o12
  clear o12
  refine hK.out _ _ hS4 (fun hx=>?_)
  clear hK K hb hx
  clear hS3 hB3
 case' p3 =>
  go_simp
  have hb:Below w3.heap.size w3 (w3.alloc (.cells #[.int .u8 67] 5)):=(Below.refl _ _).alloc (Nat.le_refl _) _
  have s0n:Srcs (w3.alloc (.cells #[.int .u8 67] 5)) (.slice (some ⟨w3.heap.size,0,none⟩) 1 1) 1 1 (u8L [67]):=.inr ⟨_,_,rfl,rfl,World.news_of_block (heap_alloc_new _ _)⟩
  generalize w3.alloc (.cells #[.int .u8 67] 5)=w4 at *
  have hS4:=SK.out _ _ hb hS3
  have hB4:Hid (Below w.heap.size w w4):=hB3.out.trans (hb.mono hB3.out.size)
  replace sT:=sT.below hb
  replace nO:=nO.below hb (Nat.le_refl _)
  try replace s0:=s0.below hb
  try replace n8:=n8.below hb (Nat.le_refl _)
  try replace s9:=s9.below hb
  try replace s12:=s12.below hb
  try replace s17:=s17.below hb
  have s0:=s0n
  clear s0n
  generalize w3.heap.size=g0 at s0 ⊢
  refine hK.out _ _ hS4 (fun hx=>?_)
  clear hK K hb hx
  clear hS3 hB3
 case' p0|p1|p2|p3 =>
  refine wpAnyH_ready (rs:=[16]) (by kernel_rfl) (by simp) ?_
  refine AllReadyH.cons rfl (fun K hK=>?_) AllReadyH.nil
  go_simp
  refine(HOF.out w4).mono ?_
  rintro e w5 ⟨rfl,hb⟩
  have hS5:=SK.out _ _ hb hS4
  have hB5:Hid (Below w.heap.size w w5):=hB4.out.trans (hb.mono hB4.out.size)
  replace sT:=sT.below hb
  replace nO:=nO.below hb (Nat.le_refl _)
  try replace s0:=s0.below hb
  try replace n8:=n8.below hb (Nat.le_refl _)
  try replace s9:=s9.below hb
  try replace s12:=s12.below hb
  try replace s17:=s17.below hb
  refine hK.out _ _ hS5 (fun hx=>?_)
  clear hK K hb hx
  clear hS4 hB4
 case' p4 =>
  go_simp
  have hb:Below w4.heap.size w4 (w4.alloc (.cells #[.int .u8 67] 5)):=(Below.refl _ _).alloc (Nat.le_refl _) _
  have s0n:Srcs (w4.alloc (.cells #[.int .u8 67] 5)) (.slice (some ⟨w4.heap.size,0,none⟩) 1 1) 1 1 (u8L [67]):=.inr ⟨_,_,rfl,rfl,World.news_of_block (heap_alloc_new _ _)⟩
  generalize w4.alloc (.cells #[.int .u8 67] 5)=w5 at *
  have hS5:=SK.out _ _ hb hS4
  have hB5:Hid (Below w.heap.size w w5):=hB4.out.trans (hb.mono hB4.out.size)
  replace sT:=sT.below hb
  replace nO:=nO.below hb (Nat.le_refl _)
  try replace s0:=s0.below hb
  try replace n8:=n8.below hb (Nat.le_refl _)
  try replace s9:=s9.below hb
  try replace s12:=s12.below hb
  try replace s17:=s17.below hb
  have s0:=s0n
  clear s0n
  generalize w4.heap.size=g0 at s0 ⊢
  refine hK.out _ _ hS5 (fun hx=>?_)
  clear hK K hb hx
  clear hS4 hB4
 case' p0|p1|p2|p3|p4 =>
  refine wpAnyH_ready (rs:=[17]) (by kernel_rfl) (by simp) ?_
  refine AllReadyH.cons rfl (fun K hK=>?_) AllReadyH.nil
  go_simp
  refine(HPK.out w5).mono ?_
  rintro e w6 ⟨v17,rfl,o17,hb⟩
  obtain⟨a17,c17,rfl⟩:=own_slice o17
  have hS6:=SK.out _ _ hb hS5
  have hB6:Hid (Below w.heap.size w w6):=hB5.out.trans (hb.mono hB5.out.size)
  replace sT:=sT.below hb
  replace nO:=nO.below hb (Nat.le_refl _)
  try replace s0:=s0.below hb
  try replace n8:=n8.below hb (Nat.le_refl _)
  try replace s9:=s9.below hb
  try replace s12:=s12.below hb
  try replace s17:=s17.below hb
  have s17:=Srcs.own o17
  clear o17
  refine hK.out _ _ hS6 (fun hx=>?_)
  clear hK K hb hx
  clear hS5 hB5
 case' q4 =>
  go_simp
  have hb:Below w5.heap.size w5 (w5.alloc (.cells #[.int .u8 67] 5)):=(Below.refl _ _).alloc (Nat.le_refl _) _
  have s0n:Srcs (w5.alloc (.cells #[.int .u8 67] 5)) (.slice (some ⟨w5.heap.size,0,none⟩) 1 1) 1 1 (u8L [67]):=.inr ⟨_,_,rfl,rfl,World.news_of_block (heap_alloc_new _ _)⟩
  generalize w5.alloc (.cells #[.int .u8 67] 5)=w6 at *
  have hS6:=SK.out _ _ hb hS5
  have hB6:Hid (Below w.heap.size w w6):=hB5.out.trans (hb.mono hB5.out.size)
  replace sT:=sT.below hb
  replace nO:=nO.below hb (Nat.le_refl _)
  try replace s0:=s0.below hb
  try replace n8:=n8.below hb (Nat.le_refl _)
  try replace s9:=s9.below hb
  try replace s12:=s12.below hb
  try replace s17:=s17.below hb
  have s0:=s0n
  clear s0n
  generalize w5.heap.size=g0 at s0 ⊢
  refine hK.out _ _ hS6 (fun hx=>?_)
  clear hK K hb hx
  clear hS5 hB5
 all_goals
  refine wpAnyH_ready (rs:=[18]) (by kernel_rfl) (by simp) ?_
  refine AllReadyH.cons rfl (fun K hK=>?_) AllReadyH.nil
  go_simp
  have hb:Below w6.heap.size w6 (w6.alloc (.cells #[.slice (some ⟨g0,0,none⟩) 1 1,.slice a9 (dgsA 2 [rate,t.size,fw t]).length c9,.slice (some ⟨tb,0,none⟩) 32 32,.slice a12 (dgsA 2 (ofA f 256)).length c12,.slice a17 (packL (bitsOf t)).length c17] 55)):=(Below.refl _ _).alloc (Nat.le_refl _) _
  have HJ:Hid _:=join_five w6 55 (.slice (some ⟨g0,0,none⟩) 1 1,[67]) (.slice a9 (dgsA 2 [rate,t.size,fw t]).length c9,dgsA 2 [rate,t.size,fw t]) (.slice (some ⟨tb,0,none⟩) 32 32,(List.range 32).map (flgA f 256)) (.slice a12 (dgsA 2 (ofA f 256)).length c12,dgsA 2 (ofA f 256)) (.slice a17 (packL (bitsOf t)).length c17,packL (bitsOf t)) s0 s9 sT s12 s17
  have HJL:Hid (joinL [(Value.slice (some ⟨g0,0,none⟩) 1 1,[67]),(.slice a9 (dgsA 2 [rate,t.size,fw t]).length c9,dgsA 2 [rate,t.size,fw t]),(.slice (some ⟨tb,0,none⟩) 32 32,(List.range 32).map (flgA f 256)),(.slice a12 (dgsA 2 (ofA f 256)).length c12,dgsA 2 (ofA f 256)),(.slice a17 (packL (bitsOf t)).length c17,packL (bitsOf t))]=marL t rate):=by
   show [67]++(dgsA 2 [rate,t.size,fw t]++((List.range 32).map (flgA f 256)++(dgsA 2 (ofA f 256)++(packL (bitsOf t)++[]))))=_
   rw[HD3.out,HTH.out,HDG.out,HM.out]
   simp only[List.append_assoc,List.append_nil]
  have HC:Hid (Calls Tryz.prog 76 #[.slice (some ⟨w6.heap.size,0,none⟩) 5 5] (w6.alloc (.cells #[.slice (some ⟨g0,0,none⟩) 1 1,.slice a9 (dgsA 2 [rate,t.size,fw t]).length c9,.slice (some ⟨tb,0,none⟩) 32 32,.slice a12 (dgsA 2 (ofA f 256)).length c12,.slice a17 (packL (bitsOf t)).length c17] 55)) fun e w'=>∃ v,e=.returned v∧w'.ownsRow (w6.alloc (.cells #[.slice (some ⟨g0,0,none⟩) 1 1,.slice a9 (dgsA 2 [rate,t.size,fw t]).length c9,.slice (some ⟨tb,0,none⟩) 32 32,.slice a12 (dgsA 2 (ofA f 256)).length c12,.slice a17 (packL (bitsOf t)).length c17] 55)).heap.size 5 1 v (marL t rate).length (u8L (marL t rate))∧Below (w6.alloc (.cells #[.slice (some ⟨g0,0,none⟩) 1 1,.slice a9 (dgsA 2 [rate,t.size,fw t]).length c9,.slice (some ⟨tb,0,none⟩) 32 32,.slice a12 (dgsA 2 (ofA f 256)).length c12,.slice a17 (packL (bitsOf t)).length c17] 55)).heap.size (w6.alloc (.cells #[.slice (some ⟨g0,0,none⟩) 1 1,.slice a9 (dgsA 2 [rate,t.size,fw t]).length c9,.slice (some ⟨tb,0,none⟩) 32 32,.slice a12 (dgsA 2 (ofA f 256)).length c12,.slice a17 (packL (bitsOf t)).length c17] 55)) w'):=by
   have h:=concat_any _ w6.heap.size 5 _ HJ.out (by simp) (by rw[HJL.out];omega)
   rw[HJL.out]at h
   exact h
  clear HJ HJL s0 s9 sT s12 s17 nO
  generalize w6.alloc (.cells #[.slice (some ⟨g0,0,none⟩) 1 1,.slice a9 (dgsA 2 [rate,t.size,fw t]).length c9,.slice (some ⟨tb,0,none⟩) 32 32,.slice a12 (dgsA 2 (ofA f 256)).length c12,.slice a17 (packL (bitsOf t)).length c17] 55)=w7 at *
  have hS7:=SK.out _ _ hb hS6
  have hB7:Hid (Below w.heap.size w w7):=hB6.out.trans (hb.mono hB6.out.size)
  have hz6:=hB6.out.size
  have hz7:=hb.size
  refine hK.out _ _ hS7 (fun hx=>?_)
  clear hK K hb hx hS6 hB6
  refine wpAnyH_ready (rs:=[19]) (by kernel_rfl) (by simp) ?_
  refine AllReadyH.cons rfl (fun K hK=>?_) AllReadyH.nil
  go_simp
  refine HC.out.mono ?_
  rintro e w8 ⟨vB,rfl,oB,hb8⟩
  obtain⟨aB,cB,rfl⟩:=own_slice oB
  have hz8:=hb8.size
  have hS8:=SK.out _ _ hb8 hS7
  have hB8:Hid (Below w.heap.size w w8):=hB7.out.trans (hb8.mono (by omega))
  refine hK.out _ _ hS8 (fun hx=>?_)
  clear hK K hx hS7 hB7 HC hb8
  refine wpAnyH_take (i:=20) (v:=.slice aB (marL t rate).length cB) rfl (by kernel_rfl) (by kernel_rfl) (by kernel_rfl) (fun _ _ _ h=>h) (Or.inl ⟨by rfl,?_⟩) hS8 ?_
  ·intro wq hq;clear hq;go_simp
  refine wpAnyH_done (by kernel_rfl) ?_ _
  clear hS8 SK HD3 HTH HDG HM
  have hw7:w.heap.size≤w7.heap.size:=by omega
  have hsum:=recSum_any (marL t rate) HME.out _ w8 _ oB (by omega)
  have hcr:=crcTo_lt (bys (marL t rate)) (marL t rate).length
  have HSM:Hid (dgsA 4 [4294967295-crcTo (bys (marL t rate)) (marL t rate).length]=sumL (bys (marL t rate))):=by
   show dgA 4 _ 4++[]=_
   rw[dgA_four (by omega),List.append_nil]
   unfold sumL
   rw[bys_size]
  have HOB:Hid (w8.ownsRow w7.heap.size 5 1 (.slice aB (marL t rate).length cB) (marL t rate).length (u8L (marL t rate))):=oB
  clear oB HME
  generalize marL t rate=L at *
  have hm32:4294967295-crcTo (bys L) L.length<4294967296:=by omega
  generalize 4294967295-crcTo (bys L) L.length=m at *
  go_wp2_with fail
  refine hsum.mono ?_
  rintro e w9 ⟨rfl,rfl⟩
  clear hsum hcr
  have hal:Below w9.heap.size w9 (w9.alloc (.cells #[.int .i64 (m:Nat)] 3)):=(Below.refl _ _).alloc (Nat.le_refl _) _
  have hdig:=digits_any 4 ⟨by omega,by omega⟩ [m] (.slice (some ⟨w9.heap.size,0,none⟩) 1 1) (w9.alloc (.cells #[.int .i64 (m:Nat)] 3)) (.inr ⟨_,_,rfl,fun j x hx=>by
   match j,hx with
   | 0,hx=>simp at hx;subst hx;exact cell_of (heap_alloc_new _ _) rfl⟩) (fun x hx=>by simp at hx;omega) (by simp)
  have HAL:Hid (Below w9.heap.size w9 (w9.alloc (.cells #[.int .i64 (m:Nat)] 3))):=hal
  clear hal
  go_wp2_with fail
  refine hdig.mono ?_
  rintro e w10 ⟨vD,rfl,oD,hb10⟩
  obtain⟨aD,cD,rfl⟩:=own_slice oD
  have hall:=HAL.out.trans (hb10.mono (by simp))
  have HO10:Hid (w10.ownsRow w7.heap.size 5 1 (.slice aB L.length cB) L.length (u8L L)):=own_keep HOB.out (Kept.of_below hall (Nat.le_refl _) (fun _=>False)) (fun _ _ h=>h)
  have HB10:Hid (Below w.heap.size w w10):=hB8.out.trans (hall.mono hB8.out.size)
  have hz10:w7.heap.size≤w10.heap.size:=by have:=hall.size;omega
  have HSD:Hid (Srcs w10 (.slice aD (dgsA 4 [m]).length cD) (dgsA 4 [m]).length 1 (u8L (dgsA 4 [m]))):=Srcs.own oD
  have hdl:(dgsA 4 [m]).length≤4:=by rw[dgsA_len];simp
  clear hdig oD hb10 hall HAL HOB hB8
  generalize dgsA 4 [m]=D at *
  go_wp2_with (at_builtin;refine wpList_append_srcs _ rfl _ _ 55 rfl w7.heap.size 5 i0 (.int .u8 0) 1 1 Tryz.underlying55 hi0 hi1 hi2 hi3 rfl (by decide) _ L.length (u8L L) rfl HO10.out _ D.length (u8L D) rfl HSD.out ?d1 ?d2 ?d3 ?d4 ?_)
  case d1=>intro u hu;simp[u8L]at hu;obtain⟨_,_,rfl⟩:=hu;rfl
  case d2=>unfold maxLen;omega
  case d3=>omega
  case d4=>exact hz10
  intro v2 w11 hown hg hat
  obtain⟨a2,p2,rfl⟩:=own_slice hown
  have HB11:Hid (Below w.heap.size w w11):=HB10.out.grown hg (by omega) (fun q hq=>by have:=(HO10.out.lt q hq).1;omega)
  have hcv:=conv_u8 (l:=L++D) (v:=.slice a2 (L.length+D.length) p2) (w:=w11) (base:=w7.heap.size) (by rw[List.length_append,u8L_app];exact hown)
  clear hown hg hat HO10 HSD HB10
  go_wp2
  go_ret
  exact⟨by rw[HMA.out,← HSM.out];rfl,by first|exact HB11.out|(rw[← HBX.out];exact HB11.out)⟩
end Go.Proofs.YtopihgmemnokkaaGreat
namespace Go.Proofs.YtopihgmemnokkaaGreat
open Go.RowKit
def Sound (rate row:Nat) (b:ByteArray):Prop:=b.size≤1000∧1≤rate∧rate≤64∧Cc.Takes b.size (BY b) row
set_option maxRecDepth 100000 in
set_option maxHeartbeats 2000000 in
theorem sound_any (rate row:Nat) (b:ByteArray) (w:World) (hr:rate<65536) (hb:b.size≤100000) :
  Calls Tryz.prog 83 #[.agg #[.int .i64 (rate:Nat),.int .i64 (row:Nat),.string b]] w fun e w'=>Below w.heap.size w w'∧((Sound rate row b∧e=.returned (.bool true))∨(¬ Sound rate row b∧e=.returned (.bool false))):=by
 have hal:Below w.heap.size w (w.alloc (.cells #[.int .i64 (rate:Nat),.int .i64 (row:Nat),.string b] 72)):=(Below.refl _ _).alloc (Nat.le_refl _) _
 have hz:(w.alloc (.cells #[.int .i64 (rate:Nat),.int .i64 (row:Nat),.string b] 72)).heap.size=w.heap.size+1:=by simp
 have HAL:Hid (Below w.heap.size w (w.alloc (.cells #[.int .i64 (rate:Nat),.int .i64 (row:Nat),.string b] 72))):=hal
 clear hal
 by_cases h1:1000<b.size
 ·have e1:decide ((1000:Int)<(b.size:Int))=true:=decide_eq_true (by omega)
  have e1':(1000:Int)<(b.size:Int):=by omega
  go_enter Tryz.func83,Tryz.ntmps83
  go_wp2
  go_ret
  exact⟨HAL.out,.inr ⟨fun h=>by have:=h.1;omega,rfl⟩⟩
 ·have e1:decide ((1000:Int)<(b.size:Int))=false:=decide_eq_false (by omega)
  have e1':¬ (1000:Int)<(b.size:Int):=by omega
  by_cases h2:rate<1
  ·have e2:decide ((rate:Int)<1)=true:=decide_eq_true (by omega)
   have e2':(rate:Int)<1:=by omega
   go_enter Tryz.func83,Tryz.ntmps83
   go_wp2
   go_ret
   exact⟨HAL.out,.inr ⟨fun h=>by have:=h.2.1;omega,rfl⟩⟩
  ·have e2:decide ((rate:Int)<1)=false:=decide_eq_false (by omega)
   have e2':¬ (rate:Int)<1:=by omega
   by_cases h3:64<rate
   ·have e3:decide ((64:Int)<(rate:Int))=true:=decide_eq_true (by omega)
    have e3':(64:Int)<(rate:Int):=by omega
    go_enter Tryz.func83,Tryz.ntmps83
    go_wp2
    go_ret
    exact⟨HAL.out,.inr ⟨fun h=>by have:=h.2.2.1;omega,rfl⟩⟩
   ·have e3:decide ((64:Int)<(rate:Int))=false:=decide_eq_false (by omega)
    have e3':¬ (64:Int)<(rate:Int):=by omega
    have HBK:Hid (∀ W,Calls Tryz.prog 92 #[.string b,.int .i64 (row:Nat)] W fun e w'=>Below W.heap.size W w'∧∃ t:ByteArray,(Cc.Takes b.size (BY b) row∧e=.returned (.tuple #[.string t,.bool true]))∨(¬ Cc.Takes b.size (BY b) row∧e=.returned (.tuple #[.string t,.bool false]))):=fun W=>by
     by_cases hrow:row≤b.size
     ·refine(back_in b row W (by omega) hrow).mono ?_
      rintro e w' ⟨hb,⟨h1,h2⟩|⟨h1,t,h2,_⟩⟩
      ·exact⟨hb,_,.inr ⟨h1,h2⟩⟩
      ·exact⟨hb,t,.inl ⟨h1,h2⟩⟩
     ·refine(back_out b row W (.inr (by omega))).mono ?_
      rintro e w' ⟨h1,h2⟩
      subst h2
      exact⟨Below.refl _ _,_,.inr ⟨fun h=>by have:=h.1;omega,h1⟩⟩
    go_enter Tryz.func83,Tryz.ntmps83
    go_wp2_with fail
    refine(HBK.out _).mono ?_
    rintro e w2 ⟨hb2,t,⟨ht,rfl⟩|⟨ht,rfl⟩⟩
    ·have hall:=HAL.out.trans (hb2.mono (by omega))
     clear hb2
     go_wp2
     go_ret
     exact⟨hall,.inl ⟨⟨by omega,by omega,by omega,ht⟩,rfl⟩⟩
    ·have hall:=HAL.out.trans (hb2.mono (by omega))
     clear hb2
     go_wp2
     go_ret
     exact⟨hall,.inr ⟨fun h=>ht h.2.2.2,rfl⟩⟩
theorem by_extract (d:ByteArray){a k n:Nat}(h:a+k<n) (hn:n≤d.size):BY (d.extract a n) k=BY d (a+k):=by
 have h1:k<(d.extract a n).size:=by rw[ByteArray.size_extract];omega
 rw[BY_lt _ h1,BY_lt _ (show a+k<d.size by omega)]
 congr 1
 exact ByteArray.getElem_extract h1
def bitP' (d:ByteArray) (q:Nat):Bool:=bitS (d.extract (atC d 256) d.size) q
theorem take_bits (d:ByteArray){i:Nat}(hi:i+4<d.size+1) (hk:kdA i (rdA d i).T.length=4):∀ q,q<8→(bitP' d (8*(rdA d i).K+q)).toNat=BY d i/2^(7-q)%2:=fun q hq=>by
 have h39:39≤i:=by
  unfold kdA at hk
  split at hk
  ·omega
  ·split at hk
   ·omega
   ·split at hk
    ·omega
    ·split at hk <;> omega
 obtain⟨k,rfl⟩:∃ k,i=39+k:=⟨i-39,by omega⟩
 have hr:=rdA_tail d k
 have hat:=tT_at d 256
 rw[hr]at hk ⊢
 simp only at hk ⊢
 have h4:39+2*(tT d 256).length≤39+k:=by
  unfold kdA at hk
  split at hk
  ·omega
  ·split at hk
   ·omega
   ·split at hk
    ·assumption
    ·split at hk <;> omega
 unfold bitP' bitS
 rw[show (8*(k-2*(tT d 256).length)+q)/8=k-2*(tT d 256).length by omega,show (8*(k-2*(tT d 256).length)+q)%8=q by omega]
 rw[by_extract d (by omega) (Nat.le_refl _),hat,show 39+2*(tT d 256).length+(k-2*(tT d 256).length)=39+k by omega]
 rw[bitN]
end Go.Proofs.YtopihgmemnokkaaGreat
namespace Go.Proofs.YtopihgmemnokkaaGreat
open Go.RowKit
theorem rdA_full {d:ByteArray}(h1:43≤d.size) (h2:d.size≤1555):(rdA d (d.size-4)).Full∧(rdA d (d.size-4)).N[0]?=some (numA d 1)∧(rdA d (d.size-4)).N[1]?=some (numA d 3)∧(rdA d (d.size-4)).N[2]?=some (numA d 5):=by
 have hr:=rdA_tail d (d.size-43)
 rw[show 39+(d.size-43)=d.size-4 by omega]at hr
 have ok:=rdA_ok d (d.size-4)
 refine⟨⟨?_,ok.low,ok.nl,ok.tl,ok.tb,by have:=ok.kl;omega⟩,?_,?_,?_⟩
 ·rw[hr];show 3≤([numA d 1,numA d 3,numA d 5]++_).length
  rw[List.length_append];simp only[List.length_cons,List.length_nil];omega
 ·rw[hr];rfl
 ·rw[hr];rfl
 ·rw[hr];rfl
theorem mar_told {d t:ByteArray}{r:Nat}(h:Mar d t r):(rdA d (d.size-4)).T.length≤(rdA d (d.size-4)).N.length-3∧numA d 1=r∧numA d 5=fw t∧∀ i,StopA (recK (rdA d (d.size-4))) (d.extract (atC d 256) d.size) (rdA d (d.size-4)).K (numA d 3) i→bys (uS (recK (rdA d (d.size-4))) (d.extract (atC d 256) d.size) i).1=trn t:=by
 obtain⟨m1,m2,m3,m4,m5⟩:=mar_read h
 have hm:IsMar d t r:=by rw[h.2];exact isMar h.1
 have hF:recF (rdA d (d.size-4))=cntB t t.size:=by
  unfold recF
  rw[m1,m2]
  show cfR (tT d 256) (numsA d (d.size-4) (tT d 256).length) _=_
  exact m4
 have hK:recK (rdA d (d.size-4))=kT t:=by
  funext c
  unfold recK
  rw[hF]
 refine⟨?_,hm.n1,hm.n5,fun i hi=>?_⟩
 ·rw[m1,m2,List.length_append,numsA_len]
  simp only[List.length_cons,List.length_nil];omega
 ·rw[hK]at hi ⊢
  rw[m3,hm.n3]at hi
  exact m5 i hi
theorem mar_sound {t:ByteArray}{r:Nat}(h:BuildOk t (r:Nat)):Sound r (fw t) (trn t) :=
 ⟨by rw[trn_size];exact h.1,by have:=h.2.1;omega,by have:=h.2.2;omega,(trn_back t).1⟩
theorem sound_text {r row:Nat}{b:ByteArray}(h:Sound r row b):∃ t,BuildOk t (r:Nat)∧fw t=row∧trn t=b:=by
 obtain⟨h1,h2,h3,h4⟩:=h
 obtain⟨q1,q2⟩:=text_turned b row h4
 exact⟨textOf b row,⟨by rw[textOf_size];exact h1,by omega,by omega⟩,q1,q2⟩
theorem text_one {t t':ByteArray}(h1:fw t=fw t') (h2:trn t=trn t'):t=t':=by
 rw[← (trn_back t).2,← (trn_back t').2,h1,h2]
def ReadAns (d:ByteArray) (e:Ending):Prop :=
 (∃ t r,Mar d t r∧e=.returned (.tuple #[.agg #[.int .i64 (r:Nat),.int .i64 (fw t:Nat),.string (trn t)],.bool true])) ∨
 ((∀ t r,¬ Mar d t r)∧e=.returned (.tuple #[.agg #[.int .i64 0,.int .i64 0,.string ⟨#[]⟩],.bool false]))
set_option maxRecDepth 100000 in
set_option maxHeartbeats 2000000 in
theorem recRead_any (d:ByteArray) (w:World) :
  Calls Tryz.prog 37 #[.string d] w fun e w'=>Below w.heap.size w w'∧ReadAns d e:=by
 have hX0:(w.alloc (.cells #[.int .i64 0,.int .i64 0,.string ⟨#[]⟩] 72)).heap[w.heap.size]?=some (.cells #[.int .i64 0,.int .i64 0,.string ⟨#[]⟩] 72 (0,0)):=heap_alloc_new _ _
 have hal:Below w.heap.size w (w.alloc (.cells #[.int .i64 0,.int .i64 0,.string ⟨#[]⟩] 72)):=(Below.refl _ _).alloc (Nat.le_refl _) _
 have hz0:(w.alloc (.cells #[.int .i64 0,.int .i64 0,.string ⟨#[]⟩] 72)).heap.size=w.heap.size+1:=by simp
 have HAL:Hid (Below w.heap.size w (w.alloc (.cells #[.int .i64 0,.int .i64 0,.string ⟨#[]⟩] 72))):=hal
 have HX0:Hid ((w.alloc (.cells #[.int .i64 0,.int .i64 0,.string ⟨#[]⟩] 72)).heap[w.heap.size]?=some (.cells #[.int .i64 0,.int .i64 0,.string ⟨#[]⟩] 72 (0,0))):=hX0
 clear hal hX0
 by_cases hsz:d.size<43∨1555<d.size
 ·have HNO:Hid (∀ t r,¬ Mar d t r):=fun t r hm=>by
   have:=mar_least hm.1
   rw[← hm.2]at this
   omega
  rcases hsz with h1|h1
  ·have e1:decide ((d.size:Int)<43)=true:=decide_eq_true (by omega)
   have e1':(d.size:Int)<43:=by omega
   go_enter Tryz.func37,Tryz.ntmps37
   go_wp2
   refine bodyPost_ret (results_row_tmp Tryz.results37 _ _ w.heap.size 72 _ (0,0) _ rfl HX0.out Tryz.underlying72 rfl recSize) rfl ⟨HAL.out,.inr ⟨HNO.out,rfl⟩⟩
  ·have e1:decide ((d.size:Int)<43)=false:=decide_eq_false (by omega)
   have e1':¬ (d.size:Int)<43:=by omega
   have e2:decide ((1555:Int)<(d.size:Int))=true:=decide_eq_true (by omega)
   have e2':(1555:Int)<(d.size:Int):=by omega
   go_enter Tryz.func37,Tryz.ntmps37
   go_wp2
   refine bodyPost_ret (results_row_tmp Tryz.results37 _ _ w.heap.size 72 _ (0,0) _ rfl HX0.out Tryz.underlying72 rfl recSize) rfl ⟨HAL.out,.inr ⟨HNO.out,rfl⟩⟩
 ·have h43:43≤d.size:=by omega
  have h1555:d.size≤1555:=by omega
  have e1:decide ((d.size:Int)<43)=false:=decide_eq_false (by omega)
  have e1':¬ (d.size:Int)<43:=by omega
  have e2:decide ((1555:Int)<(d.size:Int))=false:=decide_eq_false (by omega)
  have e2':¬ (1555:Int)<(d.size:Int):=by omega
  have HR0:Hid (Rdg (w.heap.size+1) ((w.alloc (.cells #[.int .i64 0,.int .i64 0,.string ⟨#[]⟩] 72)).alloc (.cells #[.slice none 0 0,.slice none 0 0,.slice none 0 0,.slice none 0 0,.int .i64 0,.int .i64 0] 141)) (w.heap.size+1) (.slice none 0 0) (.slice none 0 0) (.slice none 0 0) (.slice none 0 0) (rdA d 0) (bitP' d)):=by
   have hb:BitL (w.heap.size+1) ((w.alloc (.cells #[.int .i64 0,.int .i64 0,.string ⟨#[]⟩] 72)).alloc (.cells #[.slice none 0 0,.slice none 0 0,.slice none 0 0,.slice none 0 0,.int .i64 0,.int .i64 0] 141)) (w.heap.size+1) [.slice none 0 0,.slice none 0 0] [] 141 (.slice none 0 0) (.slice none 0 0) (bitP' d) 0 :=
    ⟨heap_alloc_new' _ _ (by simp),World.ownsRow_nil _ _ _ _,World.ownsRow_nil _ _ _ _,Nat.le_refl _,by decide,by decide⟩
   exact⟨hb,World.ownsRow_nil _ _ _ _,World.ownsRow_nil _ _ _ _,.inl rfl⟩
  have HB0:Hid (Below w.heap.size w ((w.alloc (.cells #[.int .i64 0,.int .i64 0,.string ⟨#[]⟩] 72)).alloc (.cells #[.slice none 0 0,.slice none 0 0,.slice none 0 0,.slice none 0 0,.int .i64 0,.int .i64 0] 141))):=HAL.out.alloc (by omega) _
  have HX1:Hid (((w.alloc (.cells #[.int .i64 0,.int .i64 0,.string ⟨#[]⟩] 72)).alloc (.cells #[.slice none 0 0,.slice none 0 0,.slice none 0 0,.slice none 0 0,.int .i64 0,.int .i64 0] 141)).heap[w.heap.size]?=some (.cells #[.int .i64 0,.int .i64 0,.string ⟨#[]⟩] 72 (0,0))):=by
   show _=_
   rw[Below.heap_alloc _ _ _ (by omega)];exact HX0.out
  clear hsz HAL HX0
  go_enter Tryz.func37,Tryz.ntmps37
  go_wp2
  generalize (w.alloc (.cells #[.int .i64 0,.int .i64 0,.string ⟨#[]⟩] 72)).alloc (.cells #[.slice none 0 0,.slice none 0 0,.slice none 0 0,.slice none 0 0,.int .i64 0,.int .i64 0] 141)=w1 at *
  go_loopw [20] (fun iv wr=>∃ (i:Nat) (nv tv wv av:Value),i≤d.size-4∧iv=.int .i64 i∧Hid (Rdg (w.heap.size+1) wr (w.heap.size+1) nv tv wv av (rdA d i) (bitP' d))∧Hid (Below w.heap.size w wr)∧Hid (wr.heap[w.heap.size]?=some (.cells #[.int .i64 0,.int .i64 0,.string ⟨#[]⟩] 72 (0,0)))) (fun iv _=>d.size-4-(intOf iv).toNat)
  case atStart=>exact⟨0,_,_,_,_,by omega,rfl,HR0,HB0,HX1⟩
  case round =>
   clear HR0 HB0 HX1 hz0 e1 e1' e2 e2'
   obtain⟨i,nv,tv,wv,av,hi,rfl,HR,HB,HX⟩:=hrel
   have hlow:=HR.out.lt
   have hxl:=(Array.getElem?_eq_some_iff.1 HX.out).1
   by_cases hlt:i<d.size-4
   ·have hbv:=BY_lt d (show i<d.size by omega)
    have htk:=take_any HR.out i (BY d i) (BY_le d i) (by omega) (rdA_ok d i) (take_bits d (by omega))
    have HTK:Hid (Calls Tryz.prog 81 #[.pointer (some ⟨w.heap.size+1,0,none⟩),.int .i64 (i:Nat),.int .u8 (BY d i:Nat)] wr fun e w'=>e=.returned (.tuple #[])∧∃ nv' tv' wv' av',Rdg (w.heap.size+1) w' (w.heap.size+1) nv' tv' wv' av' (rdA d (i+1)) (bitP' d)∧Kept (rdP (w.heap.size+1) nv tv wv av) wr w'):=htk.mono fun e w' ⟨h1,nv',tv',wv',av',h2,h3,_⟩=>⟨h1,nv',tv',wv',av',h2,h3⟩
    rw[hbv]at HTK
    have hli:(i:Int)<(d.size:Int)-4:=by omega
    have hld:i<d.size:=by omega
    clear htk hbv
    go_wp2_with fail
    refine HTK.out.mono ?_
    rintro e w2 ⟨rfl,nv',tv',wv',av',hR2,hK2⟩
    have HR2:Hid (Rdg (w.heap.size+1) w2 (w.heap.size+1) nv' tv' wv' av' (rdA d (i+1)) (bitP' d)):=hR2
    have HB2:Hid (Below w.heap.size w w2):=hK2.bel HB.out (Nat.le_refl _) (fun k hk=>by have:=(hlow k hk).1;omega)
    have HX2:Hid (w2.heap[w.heap.size]?=some (.cells #[.int .i64 0,.int .i64 0,.string ⟨#[]⟩] 72 (0,0))):=by
     show _=_
     rw[hK2.block _ hxl (fun hk=>by have:=(hlow _ hk).1;omega)];exact HX.out
    clear hR2 hK2 HTK HR HB HX hlow hxl
    go_wp2
    exact⟨⟨i+1,nv',tv',wv',av',by omega,by go_num,HR2,HB2,HX2⟩,by simp[intOf];omega⟩
   ·have hi':i=d.size-4:=by omega
    subst hi'
    have hge:¬ ((d.size-4:Nat):Int)<(d.size:Int)-4:=by omega
    obtain⟨hfull,q0,q1,q2⟩:=rdA_full h43 h1555
    have hrec:=record_any HR.out hfull (d.extract (atC d 256) d.size) (fun q _=>rfl) q0 q1 q2
    have HN:Hid (numA d 1<65536∧numA d 3<65536∧numA d 5<65536):=⟨numA_lt d 1,numA_lt d 3,numA_lt d 5⟩
    obtain⟨L,hL⟩:∃ L,d.size-4=L:=⟨_,rfl⟩
    have HTOLD:Hid (∀ t r,Mar d t r→(rdA d L).T.length≤(rdA d L).N.length-3∧numA d 1=r∧numA d 5=fw t∧∀ i,StopA (recK (rdA d L)) (d.extract (atC d 256) d.size) (rdA d L).K (numA d 3) i→bys (uS (recK (rdA d L)) (d.extract (atC d 256) d.size) i).1=trn t):=fun t r hm=>by
     have:=mar_told hm
     rw[hL]at this
     exact this
    rw[hL]at hrec
    have hL2:(L:Int)=(d.size:Int)-4:=by omega
    clear hfull q0 q1 q2 HR hlow
    go_wp2_with fail
    refine hrec.mono ?_
    rintro e w5 ⟨hb5,hcase⟩
    clear hrec
    have HB5:Hid (Below w.heap.size w w5):=HB.out.trans (hb5.mono HB.out.size)
    have HX5:Hid (w5.heap[w.heap.size]?=some (.cells #[.int .i64 0,.int .i64 0,.string ⟨#[]⟩] 72 (0,0))):=by
     show _=_
     rw[hb5.block _ hxl];exact HX.out
    have hz5:w.heap.size<w5.heap.size:=Nat.lt_of_lt_of_le hxl hb5.size
    clear hb5 HB HX hxl
    rcases hcase with⟨hl,rfl⟩|⟨hl,i0,hst,rfl⟩
    ·have HNO:Hid (∀ t r,¬ Mar d t r):=fun t r hm=>by have:=(HTOLD.out t r hm).1;omega
     have v0:=cell_of HX5.out (i:=0) rfl
     have v1:=cell_of HX5.out (i:=1) rfl
     have v2:=cell_of HX5.out (i:=2) rfl
     have g0:=unfrozen HX5.out 0
     have g1:=unfrozen HX5.out 1
     have g2:=unfrozen HX5.out 2
     clear HTOLD hl
     go_wp2
     refine bodyPost_ret (results_row_tmp Tryz.results37 _ _ w.heap.size 72 #[.int .i64 0,.int .i64 0,.string ⟨#[]⟩] (0,0) _ rfl ?hw0 Tryz.underlying72 rfl recSize) rfl ?hp0
     ·rw[Below.heap_alloc _ _ _ (by simpa using hz5)]
      simp[World.setCell,Array.getElem?_modify,HX5.out]
     ·exact⟨(((HB5.out.setCell (by simp) _).setCell (by simp) _).setCell (by simp) _).alloc (by simp;omega) _,.inr ⟨HNO.out,rfl⟩⟩
    ·have hi0:i0≤8*(rdA d L).K:=by
      rcases Nat.lt_or_ge (8*(rdA d L).K) i0 with h|h
      ·exact absurd (hst.2 _ h).1 (by omega)
      ·exact h
     have hkl:=(rdA_ok d L).kl
     have hul:=(uS_le (recK (rdA d L)) (d.extract (atC d 256) d.size) i0).1
     have hsz:=bys_size (uS (recK (rdA d L)) (d.extract (atC d 256) d.size) i0).1
     have HTL2:Hid (∀ t r,Mar d t r→numA d 1=r∧numA d 5=fw t∧bys (uS (recK (rdA d L)) (d.extract (atC d 256) d.size) i0).1=trn t):=fun t r hm=>by
      obtain⟨_,q1,q2,q3⟩:=HTOLD.out t r hm
      exact⟨q1,q2,q3 i0 hst⟩
     clear HTOLD hl hst
     obtain⟨hn1,hn3,hn5⟩:=HN.out
     have hsz2:(bys (uS (recK (rdA d L)) (d.extract (atC d 256) d.size) i0).1).size≤100000:=by omega
     clear hsz hul hkl hi0 HN hn3
     generalize bys (uS (recK (rdA d L)) (d.extract (atC d 256) d.size) i0).1=st at *
     generalize numA d 1=n0 at *
     generalize numA d 5=n2 at *
     clear hL hL2 hge hi hlt L
     have HBZ:Hid (Below w.heap.size w (w5.alloc (.cells #[.int .i64 (n0:Nat),.int .i64 (n2:Nat),.string st] 72))):=HB5.out.alloc (by omega) _
     have HXZ:Hid ((w5.alloc (.cells #[.int .i64 (n0:Nat),.int .i64 (n2:Nat),.string st] 72)).heap[w.heap.size]?=some (.cells #[.int .i64 0,.int .i64 0,.string ⟨#[]⟩] 72 (0,0))):=by
      show _=_
      rw[Below.heap_alloc _ _ _ hz5];exact HX5.out
     have HR6:Hid ((w5.alloc (.cells #[.int .i64 (n0:Nat),.int .i64 (n2:Nat),.string st] 72)).heap[w5.heap.size]?=some (.cells #[.int .i64 (n0:Nat),.int .i64 (n2:Nat),.string st] 72 (0,0))):=heap_alloc_new _ _
     have hz6:(w5.alloc (.cells #[.int .i64 (n0:Nat),.int .i64 (n2:Nat),.string st] 72)).heap.size=w5.heap.size+1:=by simp
     have hsn:=sound_any n0 n2 st (w5.alloc (.cells #[.int .i64 (n0:Nat),.int .i64 (n2:Nat),.string st] 72)) hn1 hsz2
     clear HB5 HX5
     go_wp2_with fail
     generalize w5.alloc (.cells #[.int .i64 (n0:Nat),.int .i64 (n2:Nat),.string st] 72)=w6 at *
     generalize w5.heap.size=rb at *
     refine hsn.mono ?_
     rintro e w7 ⟨hb7,⟨hs,rfl⟩|⟨hs,rfl⟩⟩
     ·obtain⟨t,hbo,hfw,htr⟩:=sound_text hs
      subst hfw
      subst htr
      have hwr:=write_any t n0 w7 hbo
      have HBZ:Hid (Below w.heap.size w w7):=HBZ.out.trans (hb7.mono HBZ.out.size)
      have HXZ:Hid (w7.heap[w.heap.size]?=some (.cells #[.int .i64 0,.int .i64 0,.string ⟨#[]⟩] 72 (0,0))):=by
       show _=_
       rw[hb7.block _ (by omega)];exact HXZ.out
      have HR7:Hid (w7.heap[rb]?=some (.cells #[.int .i64 (n0:Nat),.int .i64 (fw t:Nat),.string (trn t)] 72 (0,0))):=by
       show _=_
       rw[hb7.block _ (by omega)];exact HR6.out
      have y0:=cell_of HR7.out (i:=0) rfl
      have y1:=cell_of HR7.out (i:=1) rfl
      have y2:=cell_of HR7.out (i:=2) rfl
      have hz7:=hb7.size
      have HBO:Hid (BuildOk t (n0:Nat)):=hbo
      clear hsn hb7 hs HR6 hbo
      go_wp2_with fail
      refine hwr.mono ?_
      rintro e w8 ⟨rfl,hb8⟩
      have HBZ:Hid (Below w.heap.size w w8):=HBZ.out.trans (hb8.mono HBZ.out.size)
      have HXZ:Hid (w8.heap[w.heap.size]?=some (.cells #[.int .i64 0,.int .i64 0,.string ⟨#[]⟩] 72 (0,0))):=by
       show _=_
       rw[hb8.block _ (by omega)];exact HXZ.out
      have HR8:Hid (w8.heap[rb]?=some (.cells #[.int .i64 (n0:Nat),.int .i64 (fw t:Nat),.string (trn t)] 72 (0,0))):=by
       show _=_
       rw[hb8.block _ (by omega)];exact HR7.out
      have y0:=cell_of HR8.out (i:=0) rfl
      have y1:=cell_of HR8.out (i:=1) rfl
      have y2:=cell_of HR8.out (i:=2) rfl
      have x0:=cell_of HXZ.out (i:=0) rfl
      have x1:=cell_of HXZ.out (i:=1) rfl
      have x2:=cell_of HXZ.out (i:=2) rfl
      have f0:=unfrozen HXZ.out 0
      have f1:=unfrozen HXZ.out 1
      have f2:=unfrozen HXZ.out 2
      clear hwr hb8 HR7
      by_cases heq:mar t n0=d
      ·have HMR:Hid (Mar d t n0):=⟨HBO.out,heq.symm⟩
       clear HTL2
       go_wp2
       refine bodyPost_ret (results_row_tmp Tryz.results37 _ _ w.heap.size 72 #[.int .i64 (n0:Nat),.int .i64 (fw t:Nat),.string (trn t)] (0,0) _ rfl ?hw4 Tryz.underlying72 rfl recSize) rfl ?hp4
       ·simp[World.setCell,Array.getElem?_modify,HXZ.out]
       ·exact⟨((HBZ.out.setCell (by simp) _).setCell (by simp) _).setCell (by simp) _,.inl ⟨t,n0,HMR.out,rfl⟩⟩
      ·have HNO:Hid (∀ t r,¬ Mar d t r):=fun t' r' hm=>by
        obtain⟨q1,q2,q3⟩:=HTL2.out t' r' hm
        have q4:=text_one q2 q3
        subst q4
        subst q1
        exact heq hm.2.symm
       have heq2:((mar t n0).toList == d.toList)=false:=beq_eq_false_iff_ne.2 (fun h=>heq (toList_inj' h))
       clear HTL2 heq
       go_wp2
       refine bodyPost_ret (results_row_tmp Tryz.results37 _ _ w.heap.size 72 #[.int .i64 0,.int .i64 0,.string ⟨#[]⟩] (0,0) _ rfl ?hw3 Tryz.underlying72 rfl recSize) rfl ?hp3
       ·first
         | exact HXZ.out
         | simp[World.setCell,Array.getElem?_modify,HXZ.out]
       ·refine⟨?_,.inr ⟨HNO.out,rfl⟩⟩
        first
         | exact HBZ.out
         | exact((HBZ.out.setCell (by simp) _).setCell (by simp) _).setCell (by simp) _
     ·have HNO:Hid (∀ t r,¬ Mar d t r):=fun t r hm=>hs (by
       obtain⟨q1,q2,q3⟩:=HTL2.out t r hm
       rw[q1,q2,q3];exact mar_sound hm.1)
      have HBZ:Hid (Below w.heap.size w w7):=HBZ.out.trans (hb7.mono HBZ.out.size)
      have HXZ:Hid (w7.heap[w.heap.size]?=some (.cells #[.int .i64 0,.int .i64 0,.string ⟨#[]⟩] 72 (0,0))):=by
       show _=_
       rw[hb7.block _ (by omega)];exact HXZ.out
      have x0:=cell_of HXZ.out (i:=0) rfl
      have x1:=cell_of HXZ.out (i:=1) rfl
      have x2:=cell_of HXZ.out (i:=2) rfl
      have f0:=unfrozen HXZ.out 0
      have f1:=unfrozen HXZ.out 1
      have f2:=unfrozen HXZ.out 2
      clear hsn hb7 hs HR6
      go_wp2
      refine bodyPost_ret (results_row_tmp Tryz.results37 _ _ w.heap.size 72 #[.int .i64 0,.int .i64 0,.string ⟨#[]⟩] (0,0) _ rfl ?hw1 Tryz.underlying72 rfl recSize) rfl ?hp1
      ·first
        | exact HXZ.out
        | simp[World.setCell,Array.getElem?_modify,HXZ.out]
      ·refine⟨?_,.inr ⟨HNO.out,rfl⟩⟩
       first
        | exact HBZ.out
        | exact((HBZ.out.setCell (by simp) _).setCell (by simp) _).setCell (by simp) _
end Go.Proofs.YtopihgmemnokkaaGreat
