import Derived.Test.YtopihgmemnokkaaGreatRowsW5J
import Derived.Test.YtopihgmemnokkaaGreatAppMJ
import Derived.Test.YtopihgmemnokkaaGreatShelf4J
import Derived.Test.YtopihgmemnokkaaGreatWorldJ
import Derived.Shelf.Slices.In.SortNone2
import Derived.Test.YtopihgmemnokkaaGreatWalk7J
import Derived.Test.YtopihgmemnokkaaGreatAppJ
import Derived.Test.YtopihgmemnokkaaGreatRecW7J
namespace Go.Proofs.YtopihgmemnokkaaGreat
open Go.RowKit Go.Shelf Go.Lib Go.Sort
theorem intsL_get {A:List Nat}{j:Nat}{x:Nat}(h:A[j]?=some x):(intsL A)[j]?=some (.int .i64 (x:Nat)):=by
 unfold intsL
 rw[List.getElem?_map,h];rfl
theorem sortInts_any (w:World) (base:Nat) (v:Value) (A B:List Nat) (hown:w.ownsRow base 3 1 v A.length (intsL A)) (hl:A.length≤1000000) (hs:(((A.map fun i:Nat=>(i:Int)).mergeSort fun x y=>decide (x≤y)))=B.map fun i:Nat=>(i:Int)) (hbl:B.length=A.length) :
  Calls Tryz.prog 107 #[v] w fun e w'=>e=.returned (.tuple #[])∧w'.ownsRow base 3 1 v B.length (intsL B)∧Kept (fun k=>v.ownBlock=some k) w w':=by
 rcases hown.2 with⟨rfl,h0⟩|⟨g,cap,cur,rfl,hbg,hg,hnc,hcm,hcs,htake⟩
 ·refine(Any.slices_Sort_int_none Tryz.sortInts none 0 w).mono ?_
  rintro e w' ⟨rfl,rfl⟩
  have hB:B=[]:=List.length_eq_zero_iff.1 (by omega)
  subst hB
  exact⟨rfl,⟨rfl,.inl ⟨rfl,rfl⟩⟩,Kept.refl _ _⟩
 ·have hH:Holds (Value.int .i64) w g 0 (A.map fun i:Nat=>(i:Int)).toArray:=fun j hj=>by
   have hj':j<A.length:=by simpa using hj
   have hx:A[j]?=some A[j]:=List.getElem?_eq_getElem hj'
   have hc:=own_cell hown (intsL_get hx)
   refine⟨?_,by rw[Nat.zero_add];exact own_frozen hown j⟩
   rw[Nat.zero_add,hc,getElem!_pos _ j hj]
   simp
  have:=Any.slices_Sort_int Tryz.sortInts g 0 cap (A.map fun i:Nat=>(i:Int)) w hH (Array.getElem?_eq_some_iff.1 hg).1 (by simp;omega)
  rw[List.length_map]at this
  refine this.mono ?_
  rintro e w' ⟨rfl,n,os,rfl⟩
  rw[hs]
  have hgl:=(Array.getElem?_eq_some_iff.1 hg).1
  have hheap:(grow (putRow (Value.int .i64) (Sort.ahead w n) g 0 (B.map fun i:Nat=>(i:Int)).toArray) os).heap[g]?=some (.cells (putCells (Value.int .i64) 0 (B.map fun i:Nat=>(i:Int)).toArray cur) 3 (0,0)):=by
   rw[heap_grow_old _ os (by simpa[putRow,mapBlock,Sort.ahead] using hgl)]
   unfold putRow mapBlock Sort.ahead
   simp only[Array.getElem?_modify,if_true,hg,Option.map_some,onCells]
  refine⟨rfl,⟨by rw[intsL_len];omega,.inr ⟨g,cap,_,by rw[hbl],hbg,hheap,by omega,hcm,?_,?_⟩⟩,?_⟩
  ·unfold putCells;simpa using hcs
  ·apply List.ext_getElem?
   intro j
   rw[List.getElem?_take]
   by_cases hj:j<B.length
   ·rw[if_pos (by omega)]
    have hjc:j<cur.size:=by omega
    have hx:B[j]?=some B[j]:=List.getElem?_eq_getElem hj
    rw[intsL_get hx,Array.getElem?_toList]
    unfold putCells
    rw[Array.getElem?_mapIdx,Array.getElem?_eq_getElem hjc]
    simp only[Option.map_some]
    rw[if_pos (by simp;omega),getElem!_pos _ (j-0) (by simp;omega)]
    simp
   ·rw[if_neg (by omega)]
    symm
    rw[List.getElem?_eq_none_iff,intsL_len];omega
  ·refine⟨rfl,rfl,rfl,by simp[grow,putRow,mapBlock,Sort.ahead],fun k hk hn=>?_⟩
   rw[heap_grow_old _ os (by simpa[putRow,mapBlock,Sort.ahead] using hk)]
   unfold putRow mapBlock Sort.ahead
   simp only[Array.getElem?_modify]
   rw[if_neg (fun e=>hn (by rw[← e];rfl))]
theorem indexInts_any (w:World) (base:Nat) (v:Value) (A:List Nat) (k x:Nat) (hown:w.ownsRow base 3 1 v A.length (intsL A)) (hl:A.length≤1000000) (hk:A[k]?=some x) (hne:∀ j y,j<k→A[j]?=some y→y≠x) :
  Calls Tryz.prog 109 #[v,.int .i64 (x:Nat)] w fun e w'=>e=.returned (.int .i64 (k:Nat))∧w'=w:=by
 have hkl:=(List.getElem?_eq_some_iff.1 hk).1
 obtain⟨g,cap,rfl,_,_⟩:=hown.form (by omega)
 have hget:∀ j,j<A.length→(A.map fun i:Nat=>(i:Int))[j]! =((A[j]!:Nat):Int):=fun j hj=>by
  rw[getElem!_pos _ j (by simpa using hj),getElem!_pos _ j hj];simp
 have:=AnyE.slices_Index Tryz.indexInts (Value.int .i64) (fun x y=>x == y) (EqlAt.int _ _ _) g 0 A.length cap (A.map fun i:Nat=>(i:Int)) (x:Int) w (by simp) (by omega) (fun j hj=>by
  have hj':j<A.length:=by simpa using hj
  rw[Nat.zero_add,own_cell hown (intsL_get (List.getElem?_eq_getElem hj')),hget j hj',getElem!_pos _ j hj'])
 refine this.mono ?_
 rintro e w' ⟨rfl,rfl⟩
 refine⟨ret_int ?_,rfl⟩
 refine Lib.idxBy_hit _ _ A.length k (x:Int) hkl (by simp) ?_ (fun j hj=>?_)
 ·rw[hget k hkl,getElem!_pos _ k hkl]
  have:=(List.getElem?_eq_some_iff.1 hk).2
  rw[this];simp
 ·have hj':j<A.length:=by omega
  rw[hget j hj',getElem!_pos _ j hj']
  have:=hne j _ hj (List.getElem?_eq_getElem hj')
  simp
  omega
section
variable {w:World}{ib rate n:Nat}{b:Nat→Nat}{fw:Nat}{L pl:Nat→Nat}{base:Nat}{G:Nat→Nat × Nat}{r:Nat}{root:Value}{F:Nat→Prop}{wv av kv:Value}
theorem Ixs.below {w':World}(h:Ixs w ib rate n b fw pl base G r root F wv av kv) (hb:Below w.heap.size w w'):Ixs w' ib rate n b fw pl base G r root F wv av kv :=
 ⟨h.rws.below hb,h.mrk.keep (Kept.of_below hb (Nat.le_refl _) (fun _=>False)) (fun _ _ h=>h),h.low⟩
theorem wd_drop (p:ByteArray){j:Nat}(h:j<p.size):(wd p).drop j=p[j].toNat :: (wd p).drop (j+1):=by
 unfold wd
 have hl:j<(p.data.toList.map UInt8.toNat).length:=by rw[List.length_map,Array.length_toList];exact h
 rw[List.drop_eq_getElem_cons hl]
 congr 1
 simp
 rfl
theorem wd_len (p:ByteArray):(wd p).length=p.size:=by unfold wd;rw[List.length_map,Array.length_toList];rfl
theorem occ_empty (hl:L n=0):∀ (l:List Nat){q:List Nat},Wv.occ n L q=[]→Wv.occ n L (l++q)=[]
 | [],_,h=>h
 | c :: l,q,h=>by rw[List.cons_append,Wv.occ_cons hl,occ_empty hl l h];rfl
theorem hits_none (hl:L n=0){q:List Nat}(h:Wv.Hits n L pl q []) (l:List Nat):Wv.Hits n L pl (l++q) []:=by
 refine⟨?_,fun r hr=>by simp at hr⟩
 have:Wv.occ n L q=[]:=by
  have:=h.1.length_eq
  simp at this
  exact List.length_eq_zero_iff.1 this.symm
 rw[occ_empty hl l this];exact List.Perm.refl _
set_option maxRecDepth 100000 in
set_option maxHeartbeats 2000000 in
theorem find_any (h:Ixs w ib rate n b fw pl base G r root F wv av kv) (hw:Wv.Rw n L b fw pl) (p:ByteArray) (hp:p.size≤9223372036854775807) :
  Calls Tryz.prog 104 #[.pointer (some ⟨ib,0,none⟩),.string p] w fun e w'=>(∃ v rs,e=.returned v∧RgAt w' v rs∧Wv.Full (n+1) rs∧rs.length≤1∧Wv.Hits n L pl (wd p) (Wv.flat rs))∧Below w.heap.size w w':=by
 have hn:=h.rws.nle
 have hib:=h.rws.lt
 have hall:=all_any h.rws
 have hLB:=fun W (hW:Below w.heap.size w W) (c:Nat) (hc:c<256) (v:Value) (rs:List (Nat × Nat)) (hr:RgAt W v rs) (hu:Wv.Upto (n+1) rs) (hl:rs.length≤1000000)=>longerBy_any (h.rws.below hW) c hc v rs hr hu hl
 have HLB:Hid _:=hLB
 have HW:Hid (Wv.Rw n L b fw pl):=hw
 clear h hw hLB
 go_enter Tryz.func104,Tryz.ntmps104
 go_wp2_with fail
 refine hall.mono ?_
 rintro e w1 ⟨rfl,hB1⟩
 have hnb:(w1.alloc (.cells #[.int .i64 0,.int .i64 ((n:Int)+1)] 167)).heap[w1.heap.size]?=some (.cells #[.int .i64 0,.int .i64 ((n:Int)+1)] 167 (0,0)):=heap_alloc_new _ _
 have hRG:Hid (RgAt (w1.alloc (.cells #[.int .i64 0,.int .i64 ((n:Int)+1)] 167)) (.slice (some ⟨w1.heap.size,0,none⟩) 1 1) [(0,n+1)]):=by
  refine .inr ⟨w1.heap.size,1,rfl,by simp,fun k x hx=>?_⟩
  match k,hx with
  | 0,hx=>simp at hx;subst hx;exact⟨cell_of hnb rfl,cell_of hnb rfl⟩
  | k+1,hx=>simp at hx
 have hBA:Hid (Below w.heap.size w (w1.alloc (.cells #[.int .i64 0,.int .i64 ((n:Int)+1)] 167))):=hB1.alloc hB1.size _
 have hHI:Hid (Wv.Hits n L pl ((wd p).drop p.size) (Wv.flat [(0,n+1)])):=by
  show Wv.Hits _ _ _ _ _
  rw[List.drop_of_length_le (by rw[wd_len];exact Nat.le_refl _)]
  have e:Wv.flat [(0,n+1)]=List.range (n+1):=by simp[Wv.flat,List.range_eq_range']
  rw[e];exact HW.out.hits_nil
 clear hnb hall hB1
 go_wp2
 go_loopw [5,6] (fun rv iv wr=>∃ (q:Nat) (rs:List (Nat × Nat)),q≤p.size∧iv=.int .i64 ((q:Int)-1)∧Hid (RgAt wr rv rs)∧Hid (Wv.Full (n+1) rs)∧rs.length≤1∧Hid (Wv.Hits n L pl ((wd p).drop q) (Wv.flat rs))∧Hid (Below w.heap.size w wr)) (fun _ iv _=>(intOf iv+1).toNat)
 case atStart=>exact⟨p.size,[(0,n+1)],Nat.le_refl _,rfl,hRG,fun r hr=>by simp at hr;subst hr;simp,by simp,hHI,hBA⟩
 case round =>
  clear hRG hBA hHI
  obtain⟨q,rs,hq,rfl,hR,hF,hrl,hH,hB⟩:=hrel
  obtain⟨ra,rc,hre⟩:=hR.out.len
  cases q with
  |zero =>
   have hneg:¬ (0:Int)≤((0:Nat):Int)-1:=by omega
   have HH0:Hid (Wv.Hits n L pl (wd p) (Wv.flat rs)):=hH.out
   subst hre
   clear hH
   go_wp2
   go_ret
   first|exact⟨⟨_,rs,rfl,hR.out,hF.out,hrl,HH0.out⟩,hB.out⟩|exact⟨⟨_,rfl,rs,hR.out,hF.out,hrl,HH0.out⟩,hB.out⟩
  |succ j =>
   have ej:((j+1:Nat):Int)-1=(j:Int):=by omega
   rw[ej]
   clear ej
   by_cases hrs:rs=[]
   ·subst hrs
    have HH0:Hid (Wv.Hits n L pl (wd p) (Wv.flat [])):=by
     have:=hits_none HW.out.last hH.out ((wd p).take (j+1))
     rw[List.take_append_drop]at this
     exact this
    simp only[List.length_nil]at hre
    subst hre
    clear hH
    go_wp2
    go_ret
    first|exact⟨⟨_,[],rfl,hR.out,hF.out,by simp,HH0.out⟩,hB.out⟩|exact⟨⟨_,rfl,[],hR.out,hF.out,by simp,HH0.out⟩,hB.out⟩
   ·have hr1:rs.length=1:=by have:=List.length_pos_iff.2 hrs;omega
    rw[hr1]at hre
    have hj:j<p.size:=by omega
    have hji:(j:Int)<(p.size:Int):=by omega
    have hpj:=p[j].toNat_lt
    have hcall:=fun W (hW:Below w.heap.size w W) (hRW:RgAt W (.slice ra 1 rc) rs)=>HLB.out W hW p[j].toNat (by omega) (.slice ra 1 rc) rs hRW hF.out.upto (by omega)
    have L1:Hid (∀ W,Below wr.heap.size wr W→Calls Tryz.prog 143 #[.pointer (some ⟨ib,1,none⟩),.int .u8 (p[j].toNat:Nat),.slice ra 1 rc] W fun e w'=>∃ v' rs',e=.returned v'∧Below w.heap.size w w'∧RgAt w' v' rs'∧Wv.Full (n+1) rs'∧Wv.flat rs'=Wv.lgb n b fw p[j].toNat (Wv.flat rs)∧rs'.length≤rs.length∧True):=fun W hW =>
     (hcall W (hB.out.trans (hW.mono hB.out.size)) (by rw[← hre];exact hR.out.below hW)).mono fun e w' ⟨⟨v',rs',he,h1,h2,h3,h4⟩,hb⟩=>⟨v',rs',he,(hB.out.trans (hW.mono hB.out.size)).trans (hb.mono (Nat.le_trans hB.out.size hW.size)),h1,h2,h3,h4,trivial⟩
    have HNX:Hid (∀ R,R=Wv.lgb n b fw p[j].toNat (Wv.flat rs)→Wv.Hits n L pl ((wd p).drop j) R):=fun R hR2=>by
     rw[wd_drop p hj,hR2];exact HW.out.hits_cons hH.out _
    have s0:True:=trivial
    have bd0:Below wr.heap.size wr wr.drew:=bdrew (Below.refl _ _)
    subst hre
    clear hcall hH hF hR
    go_wp2_with fail
    go_region_held3 (fun _=>True) (assumption) ((go_at_call 143;refine(L1.out _ (by assumption)).mono ?_;rintro e w2 ⟨v2,rs2,rfl,hb2,hr2,hf2,hl2,hn2,hS2⟩))
    clear L1 s0 bd0
    have HR2:Hid (RgAt w2 v2 rs2):=hr2
    have HF2:Hid (Wv.Full (n+1) rs2):=hf2
    have HB2:Hid (Below w.heap.size w w2):=hb2
    have HH2:Hid (Wv.Hits n L pl ((wd p).drop j) (Wv.flat rs2)):=HNX.out _ hl2
    clear hr2 hf2 hb2 hl2 HNX
    go_wp2
    exact⟨⟨j,rs2,by omega,rfl,HR2,HF2,by omega,HH2,HB2⟩,by simp[intOf]⟩
end
end Go.Proofs.YtopihgmemnokkaaGreat
namespace Go.Proofs.YtopihgmemnokkaaGreat
open Go.RowKit
theorem flat_take_succ {rs:List (Nat × Nat)}{k f t:Nat}(hx:rs[k]?=some (f,t)):Wv.flat (rs.take (k+1))=Wv.flat (rs.take k)++List.range' f (t-f):=by
 have hk:=(List.getElem?_eq_some_iff.1 hx).1
 have he:=(List.getElem?_eq_some_iff.1 hx).2
 rw[List.take_succ_eq_append_getElem hk,he,Wv.flat_app]
 simp[Wv.flat]
theorem run_slice_ints (kg f t m cap:Nat) (hft:f<t) (ht:t≤cap) (w:World):(Instr.sliceAt 30 (.slice (some ⟨kg,0,none⟩) m cap) (some (.int .i64 (f:Nat))) (some (.int .i64 (t:Nat))) none).run Tryz.prog w=.ok (.slice (some ⟨kg,f,none⟩) (t-f) (cap-f)) w:=by
 have h1:(f:Int)≤(t:Int):=by omega
 have h2:(t:Int)≤(cap:Int):=by omega
 have h3:¬ cap=f:=by omega
 go_simp
section
variable {w:World}{ib rate n:Nat}{b:Nat→Nat}{fw:Nat}{L pl:Nat→Nat}{base:Nat}{G:Nat→Nat × Nat}{r:Nat}{root:Value}{F:Nat→Prop}{wv av kv:Value}
set_option maxRecDepth 100000 in
set_option maxHeartbeats 1000000 in
theorem icount_any (h:Ixs w ib rate n b fw pl base G r root F wv av kv) (hw:Wv.Rw n L b fw pl) (p:ByteArray) (hp:p.size≤9223372036854775807) :
  Calls Tryz.prog 68 #[.pointer (some ⟨ib,0,none⟩),.string p] w fun e w'=>e=.returned (.int .i64 ((Wv.occ n L (wd p)).length:Nat))∧Below w.heap.size w w':=by
 have hn:=h.rws.nle
 have hfind:=find_any h hw p hp
 clear h
 go_enter Tryz.func68,Tryz.ntmps68
 go_wp2_with fail
 refine hfind.mono ?_
 rintro e w1 ⟨⟨v,rs,rfl,hR,hF,hrl,hH⟩,hB1⟩
 obtain⟨ra,rc,rfl⟩:=hR.len
 have HLEN:Hid ((Wv.flat rs).length=(Wv.occ n L (wd p)).length):=hH.len
 have HR:Hid (RgAt w1 (.slice ra rs.length rc) rs):=hR
 have HF:Hid (Wv.Full (n+1) rs):=hF
 clear hfind hR hF hH
 go_wp2
 go_loopw [5,7,12] (fun cv _ i wr=>∃ k:Nat,k≤rs.length∧i=.int .i64 k∧cv=.int .i64 ((Wv.flat (rs.take k)).length:Nat)∧Below w1.heap.size w1 wr) (fun _ _ i _=>rs.length-(intOf i).toNat)
 case atStart=>exact⟨0,by omega,rfl,rfl,Below.refl _ _⟩
 case round =>
  obtain⟨k,hk,rfl,rfl,hBl⟩:=hrel
  by_cases hlt:k<rs.length
  ·obtain⟨⟨f,t⟩,hx⟩:∃ x,rs[k]?=some x:=⟨_,List.getElem?_eq_getElem hlt⟩
   obtain⟨g,hag,hgl,c1,c2⟩:=(HR.out.below hBl).at hx
   subst hag
   have hft:=HF.out _ (List.mem_of_getElem? hx)
   simp only at hft
   have HST:=flat_take_succ hx
   have hk0:k=0:=by omega
   have HL:Hid ((Wv.flat (rs.take (k+1))).length=(Wv.flat (rs.take k)).length+(t-f)):=by show _=_;rw[HST,List.length_append,List.length_range']
   have hm:(Wv.flat (rs.take k)).length≤0:=by rw[hk0];exact Nat.le_refl _
   generalize (Wv.flat (rs.take k)).length=m at *
   clear HST hx hk0
   have hB2:Below w1.heap.size w1 (wr.alloc (.cells #[.int .i64 (f:Nat),.int .i64 (t:Nat)] 167)):=hBl.alloc hBl.size _
   go_wp2
   exact⟨⟨k+1,by omega,by go_num,congrArg (Value.int .i64) (by rw[HL.out];omega),hB2⟩,by simp[intOf];omega⟩
  ·have hk':k=rs.length:=by omega
   subst hk'
   rw[List.take_length]
   have hB2:Below w.heap.size w wr:=hB1.trans (hBl.mono hB1.size)
   go_wp2
   go_ret
   exact⟨ret_int (by rw[HLEN.out]),hB2⟩
set_option maxRecDepth 100000 in
set_option maxHeartbeats 2000000 in
theorem knownIn_any (h:Ixs w ib rate n b fw pl base G r root F wv av kv) (back:Nat) (hbk:back≤64) (v:Value) (rs:List (Nat × Nat)) (hr:RgAt w v rs) (hu:Wv.Upto (n+1) rs) (hl:rs.length≤1000000) (hl2:(Wv.flat rs).length≤1001) (hpl:∀ i,i≤n→pl i≤n) :
  Calls Tryz.prog 105 #[.pointer (some ⟨ib,0,none⟩),.int .i64 (back:Nat),v] w fun e w'=>∃ v',e=.returned v'∧w'.ownsRow w.heap.size 3 1 v' (Wv.kn pl rate back (Wv.flat rs)).length (intsL (Wv.kn pl rate back (Wv.flat rs)))∧Below w.heap.size w w':=by
 obtain⟨j0,hj,hy0,hy1,hy2⟩:=info_parts Tryz.info3
 have hn:=h.rws.nle
 have hpre:=idxP_len rate n G r root b fw
 have hcall:=among_any ib w ib 773 _ [kv] hpre 127 wv av (fun r=>decide (pl r%rate=0)) (n+1) true v rs h.mrk.bits hr hu (by omega) hl
 have hcall2:Calls Tryz.prog 144 #[.pointer (some ⟨ib,773,none⟩),.int .u64 1,v] w _:=hcall
 obtain⟨q1,q2⟩:=Wv.am_bits (fun r=>decide (pl r%rate=0)) true hu
 have q3:=Wv.am_len (Wv.rkb (fun r=>decide (pl r%rate=0)) true) rs
 have hkl:(Wv.knL pl rate (n+1)).length=Wv.rkb (fun r=>decide (pl r%rate=0)) true (n+1):=by rw[Wv.knL_len,Wv.rkb_true]
 have HFL:Hid ((Wv.flat (Wv.am (Wv.rkb (fun r=>decide (pl r%rate=0)) true) rs)).map (fun j=>(Wv.knL pl rate (n+1)).getD j 0+back)=Wv.kn pl rate back (Wv.flat rs)):=by
  show _=_
  rw[q2]
  exact Wv.kn_flat pl rate back (fun i hi=>by have:=hu.lt i hi;omega)
 rw[← hkl]at q1
 have hlen:(Wv.flat (Wv.am (Wv.rkb (fun r=>decide (pl r%rate=0)) true) rs)).length≤1001:=by
  rw[q2,List.length_map];exact Nat.le_trans (List.length_filter_le _ _) hl2
 have hkb:(Wv.knL pl rate (n+1)).length≤n+1:=by rw[hkl];exact Wv.rkb_le _ _ _
 have hkm:∀ x∈Wv.knL pl rate (n+1),x≤n:=fun x hx=>by
  unfold Wv.knL at hx
  obtain⟨i,hi,rfl⟩:=List.mem_map.1 hx
  have:=List.mem_range.1 (List.mem_filter.1 hi).1
  exact hpl i (by omega)
 have HKN:Hid (w.ownsRow ib 3 1 kv (Wv.knL pl rate (n+1)).length (intsL (Wv.knL pl rate (n+1)))):=h.mrk.known
 have hkc:w.cell? ⟨ib,777,none⟩=some kv:=by have:=h.mrk.bits.four.cell 4;rw[hpre]at this;exact this
 have hib:=h.rws.lt
 have HQ1:Hid (Wv.Full (Wv.knL pl rate (n+1)).length (Wv.am (Wv.rkb (fun r=>decide (pl r%rate=0)) true) rs)):=q1
 have HKM:Hid _:=hkm
 obtain⟨a0,c0,rfl⟩:=hr.len
 clear hcall q2 q1 h hr hu hkl hkm hpl
 generalize Wv.am (Wv.rkb (fun r=>decide (pl r%rate=0)) true) rs=am at *
 generalize Wv.kn pl rate back (Wv.flat rs)=KN at *
 generalize Wv.knL pl rate (n+1)=KL at *
 go_enter Tryz.func105,Tryz.ntmps105
 go_wp2_with fail
 refine hcall2.mono ?_
 rintro e w1 ⟨v1,rfl,hown1,hB1⟩
 obtain⟨hR1,_⟩:=RgAt.own hown1
 obtain⟨ra,rc,rfl⟩:=hR1.len
 have HR:Hid (RgAt w1 (.slice ra am.length rc) am):=hR1
 have k1:=Kept.of_below hB1 (Nat.le_refl _) (fun _=>False)
 have hkc1:=cell_keep k1 hkc (fun h=>h)
 have HKN1:Hid (w1.ownsRow ib 3 1 kv KL.length (intsL KL)):=own_keep HKN.out k1 (fun _ _ h=>h)
 have hz1:=hB1.size
 clear hcall2 hown1 hR1 k1 HKN hkc
 go_wp2
 go_loopw [7,9,11,18] (fun fv _ _ i wr=>∃ k:Nat,k≤am.length∧i=.int .i64 k∧Hid (wr.ownsRow w1.heap.size 3 1 fv (Wv.flat (am.take k)).length (intsL ((Wv.flat (am.take k)).map (fun j=>KL.getD j 0+back))))∧Hid (Below w1.heap.size w1 wr)) (fun _ _ _ i _=>am.length-(intOf i).toNat)
 case atStart=>exact⟨0,by omega,rfl,World.ownsRow_nil _ _ _ _,Below.refl _ _⟩
 case round =>
  obtain⟨k,hk,rfl,hown,hBl⟩:=hrel
  rename World=>wo
  by_cases hlt:k<am.length
  ·obtain⟨⟨f,t⟩,hx⟩:∃ x,am[k]?=some x:=⟨_,List.getElem?_eq_getElem hlt⟩
   obtain⟨g,hag,hgl,c1,c2⟩:=(HR.out.below hBl.out).at hx
   subst hag
   have hft:=HQ1.out _ (List.mem_of_getElem? hx)
   simp only at hft
   have HST:=flat_take_succ hx
   obtain⟨kg,kcap,hke,hkg1,hkg2⟩:=HKN1.out.form (by omega)
   have kB:=Kept.of_below hBl.out (Nat.le_refl _) (fun _=>False)
   have hkc2:=cell_keep kB hkc1 (fun h=>h)
   rw[hke]at hkc2
   have hkcap:KL.length≤kcap:=by
    rcases HKN1.out.2 with⟨h1,_⟩|⟨g',cap',cur,h1,_,_,h4,_⟩
    ·rw[h1]at hke;cases hke
    ·rw[h1]at hke
     injection hke with e1 e2 e3
     omega
   have HKC:Hid (∀ W,Below w1.heap.size w1 W→∀ j x,KL[j]?=some x→W.cell? ⟨kg,j,none⟩=some (.int .i64 (x:Nat))):=fun W hW j x hjx=>by
    have hk0:=HKN1.out
    rw[hke]at hk0
    exact cell_keep (Kept.of_below hW (Nat.le_refl _) (fun _=>False)) (own_cell hk0 (intsL_get hjx)) (fun h=>h)
   have hz:=hBl.out.size
   clear hx
   have hf1:(f:Int)≤(t:Int):=by omega
   have ht1:(t:Int)≤(kcap:Int):=by omega
   have hne1:¬ kcap=f:=by omega
   have hibw:ib<wo.heap.size:=by omega
   have hsl:=run_slice_ints kg f t KL.length kcap (by omega) (by omega)
   go_wp2_with fail
   go_quiet (fail)
   go_wp2
   have hB0:Hid (Below w1.heap.size w1 ((wo.alloc (.cells #[.int .i64 (f:Nat),.int .i64 (t:Nat)] 167)).drewN nq)):=below_drewN (hBl.out.alloc hBl.out.size _) nq
   have hO0:Hid (((wo.alloc (.cells #[.int .i64 (f:Nat),.int .i64 (t:Nat)] 167)).drewN nq).ownsRow w1.heap.size 3 1 _ (Wv.flat (am.take k)).length (intsL ((Wv.flat (am.take k)).map (fun j=>KL.getD j 0+back)))):=hown.out.alloc _
   have hacl:(Wv.flat (am.take k)).length+(t-f)≤1001:=by
    have h1:(Wv.flat (am.take (k+1))).length≤(Wv.flat am).length:=by
     conv=>rhs;rw[← List.take_append_drop (k+1) am,Wv.flat_app,List.length_append]
     omega
    rw[HST,List.length_append,List.length_range']at h1
    omega
   have HST':Hid (Wv.flat (am.take (k+1))=Wv.flat (am.take k)++List.range' f (t-f)):=HST
   clear hown hBl HST hsl hkc2 c1 c2 kB
   generalize Wv.flat (am.take k)=acc at *
   generalize (wo.alloc (.cells #[.int .i64 (f:Nat),.int .i64 (t:Nat)] 167)).drewN nq=W0 at *
   go_loopw [7,11,32] (fun fv _ i wr=>∃ m:Nat,m≤t-f∧i=.int .i64 m∧Hid (wr.ownsRow w1.heap.size 3 1 fv (acc.length+m) (intsL ((acc++List.range' f m).map (fun j=>KL.getD j 0+back))))∧Hid (Below w1.heap.size w1 wr)) (fun _ _ i _=>t-f-(intOf i).toNat)
   case atStart=>exact⟨0,by omega,rfl,by simpa using hO0,hB0⟩
   case round =>
    clear hO0 hB0
    obtain⟨m,hm,rfl,hO,hB⟩:=hrel
    by_cases hmt:m<t-f
    ·obtain⟨x,hx⟩:∃ x,KL[f+m]?=some x:=⟨_,List.getElem?_eq_getElem (by omega)⟩
     have hxn:=HKM.out x (List.mem_of_getElem? hx)
     have hc:=HKC.out wr hB.out (f+m) x hx
     obtain⟨fa,fc,hfe⟩:=own_slice hO.out
     have HNX:Hid (intsL ((acc++List.range' f (m+1)).map (fun j=>KL.getD j 0+back))=intsL ((acc++List.range' f m).map (fun j=>KL.getD j 0+back))++[.int .i64 ((x:Int)+(back:Int))]):=by
      show _=_
      rw[List.range'_1_concat,← List.append_assoc,List.map_append,intsL_app]
      congr 1
      simp[intsL,hx]
     have hmi:(m:Int)<((t-f:Nat):Int):=by omega
     have hmi2:(m:Int)<(t:Int)-(f:Int):=by omega
     have hzw:=hB.out.size
     have hown0:=hO.out
     have HNX2:=HNX.out
     generalize intsL ((acc++List.range' f m).map (fun j=>KL.getD j 0+back))=XS at hown0 HNX2
     have HNX3:Hid _:=HNX2
     clear hx HNX HNX2
     subst hfe
     go_wp2_with (at_builtin;refine wpList_append_own_at _ rfl _ _ 30 rfl w1.heap.size 3 j0 (.int .i64 0) 1 8 Tryz.underlying30 hj hy0 hy1 hy2 rfl (by decide) _ _ _ rfl (hown0.alloc _) ⟨wr.heap.size,0,none⟩ 1 1 [.int .i64 ((x:Int)+(back:Int))] rfl rfl ?c1 ?c2 ?c3 ?c4 ?c5 ?_)
     case c1=>exact cell_one_new _ _ _
     case c2=>first|rfl|(intro u hu;simp at hu;subst hu;rfl)
     case c3=>first|omega|(unfold maxLen;omega)
     case c4=>omega
     case c5=>first|omega|(simp;omega)
     intro v' w6 hown6 hg6 _ _
     have HB6:Hid (Below w1.heap.size w1 w6):=(hB.out.alloc hB.out.size _).grown hg6 (by simp;omega) (fun q hq=>(hown0.lt q hq).1)
     have HO6:Hid (w6.ownsRow w1.heap.size 3 1 v' (acc.length+(m+1)) (intsL ((acc++List.range' f (m+1)).map (fun j=>KL.getD j 0+back)))):=by
      show World.ownsRow _ _ _ _ _ _ _
      rw[HNX3.out];exact hown6
     clear hg6 hown6 hown0 hO hB HNX3
     go_wp2
     exact⟨⟨m+1,by omega,by go_num,HO6,HB6⟩,by simp[intOf];omega⟩
    ·have hm2:m=t-f:=by omega
     have HO1:=hO.out
     have e:acc.length+(t-f)=(Wv.flat (am.take (k+1))).length:=by rw[HST'.out,List.length_append,List.length_range']
     rw[hm2,e,← HST'.out]at HO1
     have HO2:Hid _:=HO1
     have hmi:¬ (m:Int)<((t-f:Nat):Int):=by omega
     have hmi2:¬ (m:Int)<(t:Int)-(f:Int):=by omega
     clear hO HST' hm2 e HO1
     go_wp2
     exact⟨⟨k+1,by omega,by go_num,HO2,hB⟩,by simp[intOf];omega⟩
  ·have hk':k=am.length:=by omega
   subst hk'
   have hown':=hown.out
   rw[List.take_length,HFL.out]at hown'
   have hkl2:(Wv.flat am).length=KN.length:=by rw[← HFL.out,List.length_map]
   rw[hkl2]at hown'
   have HO:Hid (wo.ownsRow w.heap.size 3 1 _ KN.length (intsL KN)):=hown'.mono hz1
   have HB:Hid (Below w.heap.size w wo):=hB1.trans (hBl.out.mono hz1)
   clear hown' hown hBl hkl2
   go_wp2
   go_ret
   exact⟨_,rfl,HO.out,HB.out⟩
end
end Go.Proofs.YtopihgmemnokkaaGreat
namespace Go.Proofs.YtopihgmemnokkaaGreat
open Go.RowKit
theorem occ_len (n:Nat) (L:Nat→Nat) (q:List Nat):(Wv.occ n L q).length≤n+1:=by
 unfold Wv.occ
 exact Nat.le_trans (List.length_filter_le _ _) (by simp)
section
variable {w:World}{ib rate n:Nat}{b:Nat→Nat}{fw:Nat}{L pl:Nat→Nat}{base:Nat}{G:Nat→Nat × Nat}{r:Nat}{root:Value}{F:Nat→Prop}{wv av kv:Value}
set_option maxRecDepth 100000 in
set_option maxHeartbeats 2000000 in
theorem ilocate_any (h:Ixs w ib rate n b fw pl base G r root F wv av kv) (hw:Wv.Rw n L b fw pl) (hr0:0<rate) (hr1:rate≤64) (p:ByteArray) (hp:p.size≤9223372036854775807) :
  Calls Tryz.prog 69 #[.pointer (some ⟨ib,0,none⟩),.string p] w fun e w'=>∃ v,e=.returned v∧w'.ownsRow w.heap.size 3 1 v (Wv.occ n L (wd p)).length (intsL (Wv.occ n L (wd p)))∧Below w.heap.size w w':=by
 obtain⟨j0,hj,hy0,hy1,hy2⟩:=info_parts Tryz.info3
 have hn:=h.rws.nle
 have hib:=h.rws.lt
 have hrc:=idx_rate h.mrk.bits.four
 have hfind:=find_any h hw p hp
 have hol:=occ_len n L (wd p)
 have KI:=fun W (hW:Below w.heap.size w W) (back:Nat) (hbk:back≤64) (v:Value) (rs:List (Nat × Nat)) (hr:RgAt W v rs) (hu:Wv.Upto (n+1) rs) (hl:rs.length≤1000000) (hl2:(Wv.flat rs).length≤1001)=>knownIn_any (h.below hW) back hbk v rs hr hu hl hl2 hw.le
 have LG:=fun W (hW:Below w.heap.size w W) (v:Value) (rs:List (Nat × Nat)) (hr:RgAt W v rs) (hu:Wv.Upto (n+1) rs) (hl:rs.length≤1000000) (hl2:(Wv.flat rs).length≤1001)=>longer_any (h.rws.below hW) v rs hr hu hl hl2
 have HKI:Hid _:=KI
 have HLG:Hid _:=LG
 have HW:Hid (Wv.Rw n L b fw pl):=hw
 have HBY:Hid (∀ R:List Nat,(∀ q∈R,q≤n)→∀ q∈R,q≠fw→b (Cc.ks fw q)<256):=fun R hR q hq hne=>h.rws.byte _ (Cc.ks_lt (hR q hq) hne h.rws.fwle)
 have HSORT:Hid (∀ A:List Nat,A.Perm (Wv.occ n L (wd p))→((A.map fun i:Nat=>(i:Int)).mergeSort fun x y=>decide (x≤y))=(Wv.occ n L (wd p)).map fun i:Nat=>(i:Int)):=fun A hA=>Wv.sort_eq hA
 clear h hw KI LG
 generalize hP0:Wv.occ n L (wd p)=P0 at *
 go_enter Tryz.func69,Tryz.ntmps69
 go_wp2_with fail
 refine hfind.mono ?_
 rintro e w1 ⟨⟨v1,rs1,rfl,hR1,hF1,hrl1,hH1⟩,hB1⟩
 have hk0:Wv.Bk pl P0 0 (Wv.flat rs1):=Wv.Bk.zero (by rw[← hP0];exact hH1.1)
 have hfl1:(Wv.flat rs1).length≤1001:=by have:=hH1.len;rw[hP0]at this;omega
 have hle1:=hH1.2
 obtain⟨ra,rc,hre⟩:=hR1.len
 subst hre
 have hki:=HKI.out w1 hB1 0 (by omega) _ rs1 hR1 hF1.upto (by omega) hfl1
 have hki2:Calls Tryz.prog 105 #[.pointer (some ⟨ib,0,none⟩),.int .i64 0,.slice ra rs1.length rc] w1 _:=hki
 clear hfind hki hH1 hP0
 go_wp2_with fail
 refine hki2.mono ?_
 rintro e w2 ⟨v2,rfl,hown2,hB2⟩
 obtain⟨va,vc,hve⟩:=own_slice hown2
 subst hve
 have hz1:=hB1.size
 have hz2:=hB2.size
 have HB2:Hid (Below w.heap.size w w2):=hB1.trans (hB2.mono hz1)
 have HI:Hid (∃ (rs:List (Nat × Nat)) (A:List Nat),RgAt w2 (.slice ra rs1.length rc) rs∧Wv.Full (n+1) rs∧(Wv.flat rs).length≤1001∧(∀ q∈Wv.flat rs,q≤n)∧Wv.Bk pl P0 0 (Wv.flat rs)∧w2.ownsRow w.heap.size 3 1 (.slice va (Wv.kn pl rate 0 (Wv.flat rs1)).length vc) A.length (intsL A)∧A.Perm (P0.filter fun i=>decide (i%rate<0+1)) ∧
   ∀ g,(Value.slice ra rs1.length rc).ownBlock=some g→(Value.slice va (Wv.kn pl rate 0 (Wv.flat rs1)).length vc).ownBlock≠some g):=by
  refine⟨rs1,Wv.kn pl rate 0 (Wv.flat rs1),hR1.below hB2,hF1,hfl1,hle1,hk0,hown2.mono hz1,?_,fun g hg hv=>?_⟩
  ·have:=Wv.kn_more (A:=[]) hk0 hr0 (by simp)
   simpa using this
  ·have h1:=(hown2.lt g hv).1
   rcases hR1 with⟨h2,_⟩|⟨g',cap,h2,h3,_⟩
   ·rw[h2]at hg;cases hg
   ·rw[h2]at hg
    have:g'=g:=by simpa[Value.ownBlock] using hg
    omega
 clear hki2 hown2 hR1 hF1 hk0 hB2 hB1 hle1
 go_wp2
 go_loopw [5,6,7] (fun rv pv bv wr=>∃ (k:Nat) (ra:Option Addr) (rn rc:Nat) (va:Option Addr) (vn vc:Nat),rv=.slice ra rn rc∧pv=.slice va vn vc∧k+1≤64∧k<rate∧bv=.int .i64 ((k:Int)+1)∧Hid (Below w.heap.size w wr)∧Hid (∃ (rs:List (Nat × Nat)) (A:List Nat),RgAt wr (.slice ra rn rc) rs∧Wv.Full (n+1) rs∧(Wv.flat rs).length≤1001∧(∀ q∈Wv.flat rs,q≤n)∧Wv.Bk pl P0 k (Wv.flat rs)∧wr.ownsRow w.heap.size 3 1 (.slice va vn vc) A.length (intsL A)∧A.Perm (P0.filter fun i=>decide (i%rate<k+1)) ∧
   ∀ g,(Value.slice ra rn rc).ownBlock=some g→(Value.slice va vn vc).ownBlock≠some g)) (fun _ _ bv _=>64-(intOf bv).toNat)
 case atStart=>exact⟨0,_,_,_,_,_,_,rfl,rfl,by omega,hr0,rfl,HB2,HI⟩
 case round =>
  clear HB2 HI
  obtain⟨k,ra,rn,rc,va,vn,vc,rfl,rfl,hk64,hkr,rfl,hB,hI⟩:=hrel
  have hrc2:=cell_keep (Kept.of_below hB.out (Nat.le_refl _) (fun _=>False)) hrc (fun h=>h)
  obtain⟨rs,A,hR,hF,hfl,hle,hBk,hown,hA,hap⟩:=hI.out
  have hrn:rn=rs.length:=by obtain⟨a',c',he⟩:=hR.len;injection he with _ e2 _
  have hvn:vn=A.length:=own_len hown
  subst hrn
  subst hvn
  have hlen:=hF.len
  have hAl:A.length≤1001:=by
   have:=hA.length_eq
   have h2:=List.length_filter_le (fun i=>decide (i%rate<k+1)) P0
   omega
  by_cases hgo:k+1<rate∧rs≠[]
  ·obtain⟨h1,h2⟩:=hgo
   have h1i:(k:Int)+1<(rate:Int):=by omega
   have hpos:0<rs.length:=List.length_pos_iff.2 h2
   have hposi:(0:Int)<(rs.length:Int):=by omega
   have hlg:=HLG.out wr hB.out (.slice ra rs.length rc) rs hR hF.upto (by omega) hfl
   have hlowA:=hown.lt
   have HLOWA:Hid _:=hlowA
   have HA:Hid _:=hA
   have HBK:Hid (Wv.Bk pl P0 k (Wv.flat rs)):=hBk
   have HLE:Hid _:=hle
   have hzr:=hB.out.size
   clear hI hR hap hA hBk hle hlowA
   go_wp2_with fail
   refine hlg.mono ?_
   rintro e w3 ⟨⟨v3,rs3,rfl,hR3,hF3,hf3,hb3⟩,hB3⟩
   have hperm:(Wv.flat rs3).Perm (Wv.lga n b fw (Wv.flat rs)):=by rw[hf3];exact Wv.Rw.longer (HBY.out _ HLE.out)
   have HBk3:Hid (Wv.Bk pl P0 (k+1) (Wv.flat rs3)):=HW.out.back HLE.out HBK.out hperm
   have hle3:∀ q∈Wv.flat rs3,q≤n:=fun q hq=>HW.out.lga_le HLE.out q (hperm.mem_iff.1 hq)
   have hfl3:(Wv.flat rs3).length≤1001:=by
    have h3:=hperm.length_eq
    have h4:(Wv.lga n b fw (Wv.flat rs)).length≤(Wv.flat rs).length:=by unfold Wv.lga;rw[List.length_map];exact List.length_filter_le _ _
    omega
   have HLE3:Hid _:=hle3
   obtain⟨ra3,rc3,hre3⟩:=hR3.len
   subst hre3
   have hlen3:=hF3.len
   have hB3':Below w.heap.size w w3:=hB.out.trans (hB3.mono hzr)
   have hki:=HKI.out w3 hB3' (k+1) (by omega) _ rs3 hR3 hF3.upto (by omega) hfl3
   have hki2:Calls Tryz.prog 105 #[.pointer (some ⟨ib,0,none⟩),.int .i64 ((k:Int)+1),.slice ra3 rs3.length rc3] w3 _:=hki
   have hown3:=own_keep hown (Kept.of_below hB3 (Nat.le_refl _) (fun _=>False)) (fun _ _ h=>h)
   have HR3:Hid (RgAt w3 (.slice ra3 rs3.length rc3) rs3):=hR3
   have HF3:Hid (Wv.Full (n+1) rs3):=hF3
   have hz3:=hB3.size
   have HB3:Hid (Below w.heap.size w w3):=hB3'
   have HLB3:Hid (∀ q,(Value.slice ra3 rs3.length rc3).ownBlock=some q→wr.heap.size≤q∧q<w3.heap.size):=fun q hq=>⟨hb3 q hq,by
    rcases hR3 with⟨h5,_⟩|⟨g',cap,h5,h6,_⟩
    ·rw[h5]at hq;cases hq
    ·rw[h5]at hq
     have:g'=q:=by simpa[Value.ownBlock] using hq
     omega⟩
   clear hlg hki hperm hf3 hb3 hle3 hR3 hF3 hB3' hB3 hown HBK
   go_wp2_with fail
   refine hki2.mono ?_
   rintro e w4 ⟨v4,rfl,hown4,hB4⟩
   have hown5:=own_keep hown3 (Kept.of_below hB4 (Nat.le_refl _) (fun _=>False)) (fun _ _ h=>h)
   have hz4:=hB4.size
   have HKM:Hid ((A++Wv.kn pl rate (k+1) (Wv.flat rs3)).Perm (P0.filter fun i=>decide (i%rate<k+1+1))):=Wv.kn_more HBk3.out h1 HA.out
   have hkl:(Wv.kn pl rate (k+1) (Wv.flat rs3)).length≤1001:=by unfold Wv.kn;rw[List.length_map];exact Nat.le_trans (List.length_filter_le _ _) hfl3
   have HB4:Hid (Below w.heap.size w w4):=HB3.out.trans (hB4.mono HB3.out.size)
   have HR4:Hid (RgAt w4 (.slice ra3 rs3.length rc3) rs3):=HR3.out.below hB4
   have h1c:∀ u∈intsL (Wv.kn pl rate (k+1) (Wv.flat rs3)),u.oneCell'=true:=fun u hu=>by
    unfold intsL at hu
    obtain⟨x,_,rfl⟩:=List.mem_map.1 hu
    rfl
   clear hki2 hown3 hB4 HR3 HB3 HA
   generalize Wv.kn pl rate (k+1) (Wv.flat rs3)=KN at *
   go_wp2_with (at_builtin;refine wpList_append_srcs _ rfl _ _ 30 rfl w.heap.size 3 j0 (.int .i64 0) 1 8 Tryz.underlying30 hj hy0 hy1 hy2 rfl (by decide) _ _ _ rfl hown5 _ _ _ rfl (Srcs.own hown4) h1c ?d1 ?d2 ?d3 ?_)
   case d1=>first|omega|(unfold maxLen;omega)
   case d2=>omega
   case d3=>omega
   intro v5 w5 hown6 hg6 hat6
   have kg:Kept (fun q=>(Value.slice va A.length vc).ownBlock=some q) w4 w5:=(Kept.refl _ w4).grown hg6 (fun q hq _=>hq)
   have HB5:Hid (Below w.heap.size w w5):=kg.bel HB4.out (Nat.le_refl _) (fun q hq=>(HLOWA.out q hq).1)
   obtain⟨va5,vc5,hve5⟩:=own_slice hown6
   subst hve5
   have HI5:Hid (∃ (rs:List (Nat × Nat)) (A':List Nat),RgAt w5 (.slice ra3 rs3.length rc3) rs∧Wv.Full (n+1) rs∧(Wv.flat rs).length≤1001∧(∀ q∈Wv.flat rs,q≤n)∧Wv.Bk pl P0 (k+1) (Wv.flat rs)∧w5.ownsRow w.heap.size 3 1 (.slice va5 (A.length+KN.length) vc5) A'.length (intsL A')∧A'.Perm (P0.filter fun i=>decide (i%rate<k+1+1)) ∧
     ∀ g,(Value.slice ra3 rs3.length rc3).ownBlock=some g→(Value.slice va5 (A.length+KN.length) vc5).ownBlock≠some g):=by
    refine⟨rs3,A++KN,HR4.out.keep kg (fun g hg he=>?_),HF3.out,hfl3,HLE3.out,HBk3.out,by rw[List.length_append,intsL_app];exact hown6,HKM.out,fun g hg he=>?_⟩
    ·have h5:=(HLB3.out g hg).1
     have h6:=(HLOWA.out g he).2
     omega
    ·have h5:=HLB3.out g hg
     rcases hat6 with h6|h6
     ·rw[he]at h6
      have h7:=(HLOWA.out g h6.symm).2
      omega
     ·rw[he]at h6
      have:g=w4.heap.size:=by simpa using h6
      omega
   clear hown6 hg6 hat6 kg hown5 hown4 HB4 HR4 HKM HBk3 HLE3 HF3 HLB3
   go_wp2
   exact⟨⟨k+1,_,_,_,_,_,_,rfl,rfl,by omega,h1,by go_num,HB5,HI5⟩,by simp[intOf];omega⟩
  ·have hfin:A.Perm P0:=Wv.kn_end (R:=Wv.flat rs) hr0 hA (by
    rcases Classical.em (k+1<rate) with h1|h1
    ·exact .inr ⟨hBk,by
      have:rs=[]:=Classical.byContradiction fun h2=>hgo ⟨h1,h2⟩
      rw[this];rfl⟩
    ·exact .inl (by omega))
   have hsort:=sortInts_any wr w.heap.size _ A P0 hown (by omega) (HSORT.out A hfin) hfin.length_eq.symm
   have hlow:=hown.lt
   have HLOW:Hid _:=hlow
   by_cases h1:k+1<rate
   ·have hrs:rs=[]:=Classical.byContradiction fun h2=>hgo ⟨h1,h2⟩
    subst hrs
    have h1i:(k:Int)+1<(rate:Int):=by omega
    clear hgo hA hBk hI hap hR hF hlow
    go_wp2_with fail
    refine hsort.mono ?_
    rintro e w5 ⟨rfl,hown5,hK5⟩
    have hB5:=hK5.bel hB.out (Nat.le_refl _) (fun q hq=>(HLOW.out q hq).1)
    clear hK5 hsort hown
    go_wp2
    go_ret
    exact⟨_,rfl,hown5,hB5⟩
   ·have h1i:¬ (k:Int)+1<(rate:Int):=by omega
    clear hgo hA hBk hI hap hR hF hlow
    go_wp2_with fail
    refine hsort.mono ?_
    rintro e w5 ⟨rfl,hown5,hK5⟩
    have hB5:=hK5.bel hB.out (Nat.le_refl _) (fun q hq=>(HLOW.out q hq).1)
    clear hK5 hsort hown
    go_wp2
    go_ret
    exact⟨_,rfl,hown5,hB5⟩
end
end Go.Proofs.YtopihgmemnokkaaGreat
namespace Go.Proofs.YtopihgmemnokkaaGreat
open Go.RowKit
theorem ceil_le {a r:Nat}(hr:0<r):a≤(a+r-1)/r*r:=by
 have h1:=Nat.div_add_mod (a+r-1) r
 have h2:=Nat.mod_lt (a+r-1) hr
 rw[Nat.mul_comm]at h1
 omega
theorem cn_mark {P:Nat→Bool}{a c:Nat}(ha:P a=true) (hc:P c=true) (h:Cc.cn a P=Cc.cn c P):a=c:=by
 rcases Nat.lt_trichotomy a c with h1|h1|h1
 ·have:=Cc.cn_lt_bound h1 ha;omega
 ·exact h1
 ·have:=Cc.cn_lt_bound h1 hc;omega
theorem knL_nodup {n rate:Nat}{pl:Nat→Nat}(hi:∀ r q,r≤n→q≤n→pl r=pl q→r=q):(Wv.knL pl rate (n+1)).Nodup:=by
 unfold Wv.knL
 rw[List.Nodup,List.pairwise_map]
 have hnd:((List.range (n+1)).filter fun r=>decide (pl r%rate=0)).Nodup:=List.Pairwise.filter _ List.nodup_range
 refine List.Pairwise.imp_of_mem ?_ hnd
 intro a c ha hc hne he
 have h1:=List.mem_range.1 (List.mem_filter.1 ha).1
 have h2:=List.mem_range.1 (List.mem_filter.1 hc).1
 exact hne (hi a c (by omega) (by omega) he)
theorem nodup_first {l:List Nat}(h:l.Nodup){k x:Nat}(hk:l[k]?=some x):∀ j y,j<k→l[j]?=some y→y≠x:=fun j y hj hy he=>by
 have hkl:=(List.getElem?_eq_some_iff.1 hk)
 have hjl:=(List.getElem?_eq_some_iff.1 hy)
 have:=List.pairwise_iff_getElem.1 h j k hjl.1 hkl.1 hj
 rw[hjl.2,hkl.2]at this
 exact this he
section
variable {w:World}{ib rate n:Nat}{b:Nat→Nat}{fw:Nat}{L pl:Nat→Nat}{base:Nat}{G:Nat→Nat × Nat}{r:Nat}{root:Value}{F:Nat→Prop}{wv av kv:Value}
theorem Wv.Rw.onto (hw:Wv.Rw n L b fw pl){i:Nat}(hi:i≤n):∃ q,q≤n∧pl q=i:=by
 obtain⟨q,hq,he⟩:=Cc.onto_of_inj (n:=n+1) (f:=pl) (fun a c ha hc e=>hw.inj a c (by omega) (by omega) e) (fun a ha=>by have:=hw.le a (by omega);omega) (p:=i) (by omega)
 exact⟨q,by omega,he⟩
set_option maxRecDepth 100000 in
set_option maxHeartbeats 2000000 in
theorem near_any (h:Ixs w ib rate n b fw pl base G r root F wv av kv) (hw:Wv.Rw n L b fw pl) (hr0:0<rate) (hr1:rate≤64) (to:Nat) (hto:to≤n) :
  Calls Tryz.prog 71 #[.pointer (some ⟨ib,0,none⟩),.int .i64 (to:Nat)] w fun e w'=>(∃ np row:Nat,e=.returned (.tuple #[.int .i64 (np:Nat),.int .i64 (row:Nat)])∧to≤np∧np≤n∧row≤n∧pl row=np)∧Below w.heap.size w w':=by
 have hn:=h.rws.nle
 have hib:=h.rws.lt
 have hrc:=idx_rate h.mrk.bits.four
 have hlen:=fun W (hW:Below w.heap.size w W)=>ilen_any (h.rws.below hW)
 have hle:=ceil_le (a:=to) hr0
 have hmod:(to+rate-1)/rate*rate%rate=0:=Nat.mul_mod_left _ _
 have hq1:(to+rate-1)/rate≤to+rate-1:=Nat.div_le_self _ _
 have hdv:(((to:Nat):Int)+(rate:Int)-1)/(rate:Int)=(((to+rate-1)/rate:Nat):Int):=by
  rw[Int.natCast_ediv];congr 1;omega
 have hml:((((to+rate-1)/rate:Nat):Int))*(rate:Int)=(((to+rate-1)/rate*rate:Nat):Int):=by rw[Int.natCast_mul]
 have hNb:(to+rate-1)/rate*rate≤to+rate:=by
  have h1:=Nat.div_mul_le_self (to+rate-1) rate
  omega
 have hpre:=idxP_len rate n G r root b fw
 have hkc:w.cell? ⟨ib,777,none⟩=some kv:=by have:=h.mrk.bits.four.cell 4;rw[hpre]at this;exact this
 generalize (to+rate-1)/rate*rate=N at *
 generalize (to+rate-1)/rate=D at *
 have hrn:((rate:Int) == 0)=false:=by simp;omega
 have hrn2:¬ (rate:Int)=0:=by omega
 have HLEN:Hid _:=hlen
 have hDb:D*64≤100000:=by omega
 have hw1:IntKind.i64.wrap (((to:Nat):Int)+(rate:Int))=(to:Int)+(rate:Int):=wrap_small (by omega) (by omega)
 have hw2:IntKind.i64.wrap (((to:Nat):Int)+(rate:Int)-1)=(to:Int)+(rate:Int)-1:=wrap_small (by omega) (by omega)
 have hw3:IntKind.i64.wrap ((D:Nat):Int)=((D:Nat):Int):=wrap_small (by omega) (by omega)
 have hw4:IntKind.i64.wrap ((N:Nat):Int)=((N:Nat):Int):=wrap_small (by omega) (by omega)
 have bd:=fun q=>below_drewN (Below.refl w.heap.size w) q
 by_cases hgt:n<N
 ·have hgi:(n:Int)<(N:Int):=by omega
  have HF:Hid (pl 0=n):=hw.first
  clear h hw hlen hkc
  go_enter Tryz.func71,Tryz.ntmps71
  go_wp2_with fail
  go_quiet (fail)
  go_wp2_with fail
  refine(HLEN.out _ (bd nq)).mono ?_
  rintro e w' ⟨rfl,rfl⟩
  go_wp2_with fail
  refine(HLEN.out _ (bd nq)).mono ?_
  rintro e w' ⟨rfl,rfl⟩
  go_wp2
  go_ret2
  exact⟨⟨n,0,rfl,hto,Nat.le_refl _,by omega,HF.out⟩,bd nq⟩
 ·have hgi:¬ (n:Int)<(N:Int):=by omega
  obtain⟨q,hqn,hqN⟩:=Wv.Rw.onto hw (i:=N) (by omega)
  have hqm:decide (pl q%rate=0)=true:=by rw[hqN];simp[hmod]
  have hkg:=Wv.knL_get pl rate (m:=n+1) (r:=q) (by omega) (by simpa using hqm)
  rw[hqN]at hkg
  have hkl:(Wv.knL pl rate (n+1)).length≤n+1:=by rw[Wv.knL_len];exact Cc.cn_le _ _
  have hkk:=(List.getElem?_eq_some_iff.1 hkg).1
  have hcq:(Cc.cn q fun r=>decide (pl r%rate=0))<Cc.cn (n+1) fun r=>decide (pl r%rate=0):=Cc.cn_lt_bound (by omega) hqm
  have LI:Hid (∀ W,Below w.heap.size w W→Calls Tryz.prog 109 #[kv,.int .i64 (N:Nat)] W fun e w'=>e=.returned (.int .i64 ((Cc.cn q fun r=>decide (pl r%rate=0):Nat):Int))∧Below w.heap.size w w'∧w'.cell? ⟨ib,777,none⟩=some kv):=fun W hW =>
   (indexInts_any W ib kv _ _ N (h.below hW).mrk.known (by omega) hkg (nodup_first (knL_nodup hw.inj) hkg)).mono fun e w' ⟨he,hb⟩=>by
    subst hb
    exact⟨he,hW,cell_keep (Kept.of_below hW (Nat.le_refl _) (fun _=>False)) hkc (fun h=>h)⟩
  have LS:Hid (∀ W,Below w.heap.size w W→Calls Tryz.prog 97 #[.pointer (some ⟨ib,773,none⟩),.int .i64 ((Cc.cn q fun r=>decide (pl r%rate=0):Nat):Int)] W fun e w'=>e=.returned (.int .i64 (q:Nat))∧Below w.heap.size w w'∧w'.cell? ⟨ib,777,none⟩=some kv):=fun W hW =>
   (select_any ib W ib 773 _ [kv] hpre _ wv av _ (n+1) _ (h.below hW).mrk.bits hcq (by omega)).mono fun e w' ⟨⟨j,he,h1,h2,h3⟩,hb⟩=>by
    have:j=q:=cn_mark h2 hqm h3
    subst this
    have hb2:=hW.trans (hb.mono hW.size)
    exact⟨he,hb2,cell_keep (Kept.of_below hb2 (Nat.le_refl _) (fun _=>False)) hkc (fun h=>h)⟩
  have HFin:Hid (pl q=N):=hqN
  obtain⟨ka,kcp,hke⟩:=own_slice h.mrk.known
  have hqb:(Cc.cn q fun r=>decide (pl r%rate=0))≤q:=Cc.cn_le _ _
  clear h hw hlen hqN hkg hkk hcq hqm
  generalize (Cc.cn q fun r=>decide (pl r%rate=0))=kq at *
  generalize (Wv.knL pl rate (n+1)).length=kn at *
  subst hke
  have s0:∀ q,((w.drewN q).drew).cell? ⟨ib,777,none⟩=some (.slice ka kn kcp):=fun q=>hkc
  have bd1:=fun q=>bdrew (bd q)
  go_enter Tryz.func71,Tryz.ntmps71
  go_wp2_with fail
  go_quiet (fail)
  go_wp2_with fail
  refine(HLEN.out _ (bd nq)).mono ?_
  rintro e w' ⟨rfl,rfl⟩
  have s1:=s0 nq
  have bd2:=bd1 nq
  clear s0 bd1 hkc hrc hw1 hw2 hw3 hw4 hdv hml
  go_wp2_with fail
  go_region_held3 (fun w'=>w'.cell? ⟨ib,777,none⟩=some (.slice ka kn kcp)) (assumption) ((first
   | (go_at_call 109;refine(LI.out _ (by assumption)).mono ?_;rintro e w2 ⟨rfl,hb2,hS2⟩)
   | (go_at_call 97;refine(LS.out _ (by assumption)).mono ?_;rintro e w3 ⟨rfl,hb3,hS3⟩)))
  clear LI LS s1 bd2 hb2 hS2
  go_wp2
  go_ret2
  exact⟨⟨N,q,rfl,hle,by omega,hqn,HFin.out⟩,hb3⟩
end
end Go.Proofs.YtopihgmemnokkaaGreat
namespace Go.Proofs.YtopihgmemnokkaaGreat
open Go.RowKit
def pieceTo (s:ByteArray) (a k j:Nat):Nat:=if k≤a+j then BY s (a+j) else 0
theorem pieceTo_le (s:ByteArray) (a k j:Nat):pieceTo s a k j≤255:=by
 unfold pieceTo
 split
 ·exact BY_le _ _
 ·omega
theorem ext_size (s:ByteArray){a z:Nat}(h:a≤z) (hz:z≤s.size):(s.extract a z).size=z-a:=by
 rw[ByteArray.size_extract];omega
theorem ext_BY (s:ByteArray){a z:Nat}(hz:z≤s.size){j:Nat}(hj:a+j<z):BY (s.extract a z) j=BY s (a+j):=by
 have hl:j<(s.extract a z).size:=by rw[ext_size s (by omega) hz];omega
 rw[BY_lt _ hl,BY_lt s (by omega)]
 congr 1
 exact ByteArray.getElem_extract hl
section
variable {w:World}{ib rate:Nat}{s:ByteArray}{b:Nat→Nat}{fw:Nat}{L pl:Nat→Nat}{base:Nat}{G:Nat→Nat × Nat}{r:Nat}{root:Value}{F:Nat→Prop}{wv av kv:Value}
set_option maxRecDepth 100000 in
set_option maxHeartbeats 2000000 in
theorem iextract_any (h:Ixs w ib rate s.size b fw pl base G r root F wv av kv) (hw:Wv.Rw s.size L b fw pl) (hL:∀ i,i<s.size→L i=BY s i+1) (hr0:0<rate) (hr1:rate≤64) (a z:Nat) (haz:a≤z) (hz:z≤s.size) :
  Calls Tryz.prog 34 #[.pointer (some ⟨ib,0,none⟩),.int .i64 (a:Nat),.int .i64 (z:Nat)] w fun e w'=>e=.returned (.string (s.extract a z))∧Below w.heap.size w w':=by
 have hn:=h.rws.nle
 have hib:=h.rws.lt
 have hmk:=make_bytes (z-a) (by omega) w
 have hal:Below w.heap.size w (w.alloc (.cells (rowB (z-a) fun _=>0) 5)):=(Below.refl _ _).alloc (Nat.le_refl _) _
 have hnear:=near_any (h.below hal) hw hr0 hr1 z hz
 have hah:=fun W (hW:Below w.heap.size w W) (row:Nat) (h1:row≤s.size) (h2:row≠fw)=>ahead_any ((h.below hW).rws) row h1 h2
 have HAH:Hid _:=hah
 have HW:Hid (Wv.Rw s.size L b fw pl):=hw
 have HL:Hid (∀ i,i<s.size→L i=BY s i+1):=hL
 have hcast:((z-a:Nat):Int)=(z:Int)-(a:Int):=by omega
 have hR0:Hid (RowB (w.alloc (.cells (rowB (z-a) fun _=>0) 5)) w.heap.size (z-a) (fun _=>0)):=RowB.new' _ _ rfl
 have hzal:(w.alloc (.cells (rowB (z-a) fun _=>0) 5)).heap.size=w.heap.size+1:=by simp
 rw[hcast]at hmk
 clear h hw hL hah hcast
 go_enter Tryz.func34,Tryz.ntmps34
 go_wp2_with fail
 refine hnear.mono ?_
 rintro e w1 ⟨⟨np,row0,rfl,hnp1,hnp2,hrow0,hpl0⟩,hB1⟩
 have HB1:Hid (Below w.heap.size w w1):=hal.trans (hB1.mono (by omega))
 have HR1:Hid (RowB w1 w.heap.size (z-a) (pieceTo s a np)):=by
  have h1:RowB w1 w.heap.size (z-a) (fun _=>0):=by
   have:=hR0.out
   unfold RowB at *
   rw[hB1.block _ (by omega)];exact this
  exact h1.congr fun j hj=>by unfold pieceTo;rw[if_neg (by omega)]
 have hz1:=hB1.size
 have HP0:Hid (pl row0=np):=hpl0
 clear hmk hnear hR0 hal hB1 hpl0
 go_wp2
 go_loopw [8,9,10] (fun pv rv _ wr=>∃ k row:Nat,a≤k∧k≤s.size∧row≤s.size∧pv=.int .i64 (k:Nat)∧rv=.int .i64 (row:Nat)∧Hid (pl row=k)∧Hid (RowB wr w.heap.size (z-a) (pieceTo s a k))∧Hid (Below w.heap.size w wr)∧w.heap.size<wr.heap.size) (fun pv _ _ _=>(intOf pv).toNat)
 case atStart=>exact⟨np,row0,by omega,hnp2,hrow0,rfl,rfl,HP0,HR1,HB1,by omega⟩
 case round =>
  clear HP0 HR1 HB1
  obtain⟨k,row,hak,hks,hrow,rfl,rfl,hpl,hR,hB,hzr⟩:=hrel
  by_cases hgo:a<k
  ·have hgi:(a:Int)<(k:Int):=by omega
   have hne:row≠fw:=(HW.out.ne hrow).2 (by rw[hpl.out];omega)
   obtain⟨t1,t2,t3⟩:=HW.out.step row hrow hne
   have hcall:=HAH.out wr hB.out row hrow hne
   have T2:Hid (pl (Cc.lead s.size b (Cc.ks fw row))=k-1):=by show _=_;have:=hpl.out;omega
   have T3:Hid (BY s (k-1)=b (Cc.ks fw row)):=by
    show _=_
    have h1:=T2.out
    rw[h1,HL.out (k-1) (by omega)]at t3
    omega
   have hcb:b (Cc.ks fw row)≤255:=by have:=T3.out;have:=BY_le s (k-1);omega
   clear t2 t3
   go_wp2_with fail
   refine hcall.mono ?_
   rintro e w3 ⟨rfl,hB3⟩
   have hR3:RowB w3 w.heap.size (z-a) (pieceTo s a k):=by
    have:=hR.out
    unfold RowB at *
    rw[hB3.block _ hzr];exact this
   have HB3:Hid (Below w.heap.size w w3):=hB.out.trans (hB3.mono hB.out.size)
   have hz3:=hB3.size
   generalize Cc.lead s.size b (Cc.ks fw row)=row' at *
   generalize b (Cc.ks fw row)=c at *
   clear hcall hR hB hB3 hpl
   have hk1:((k-1:Nat):Int)=(k:Int)-1:=by omega
   by_cases hlt:k-1<z
   ·have hli:(k:Int)-1<(z:Int):=by omega
    have hset:=(hR3.set (k-1-a) c).congr (g:=pieceTo s a (k-1)) fun j hj=>by
     unfold Cc.put pieceTo
     by_cases e:j=k-1-a
     ·subst e
      rw[if_pos rfl,if_pos (by omega),show a+(k-1-a)=k-1 by omega,T3.out]
     ·rw[if_neg e]
      by_cases e2:k≤a+j
      ·rw[if_pos e2,if_pos (by omega)]
      ·rw[if_neg e2,if_neg (by omega)]
    have c0:=hR3.cell (i:=k-1-a) (by omega)
    have f0:=hR3.frozen (k-1-a)
    have HS:Hid (RowB (w3.setCell ⟨w.heap.size,k-1-a,none⟩ (.int .u8 (c:Nat))) w.heap.size (z-a) (pieceTo s a (k-1))):=hset
    have HB4:Hid (Below w.heap.size w (w3.setCell ⟨w.heap.size,k-1-a,none⟩ (.int .u8 (c:Nat)))):=HB3.out.setCell (Nat.le_refl _) _
    have hidx:(k:Int)-1-(a:Int)=((k-1-a:Nat):Int):=by omega
    have hidx2:((k-1-a:Nat):Int)<((z-a:Nat):Int):=by omega
    have hidx3:((k-1-a:Nat):Int)<(z:Int)-(a:Int):=by omega
    clear hset hR3
    go_wp2
    exact⟨⟨k-1,row',by omega,by omega,t1,by rw[hk1],rfl,T2,HS,HB4,by simp;omega⟩,by simp[intOf];omega⟩
   ·have hli:¬ (k:Int)-1<(z:Int):=by omega
    have HS:Hid (RowB w3 w.heap.size (z-a) (pieceTo s a (k-1))):=hR3.congr fun j hj=>by
     unfold pieceTo
     rw[if_neg (by omega),if_neg (by omega)]
    clear hR3
    go_wp2
    exact⟨⟨k-1,row',by omega,by omega,t1,by rw[hk1],rfl,T2,HS,HB3,by omega⟩,by simp[intOf];omega⟩
  ·have hka:k=a:=by omega
   subst hka
   have hX:=hR.out
   have hcv:=run_convert_bytes_arg (P:=Tryz.prog) wr 55 5 Tryz.underlying55 Tryz.underlying5 w.heap.size 0 (z-k) (z-k) ((List.range (z-k)).map fun j=>((pieceTo s k k j:Nat):Int)) (by simp) (by
    intro i hi
    rw[Nat.zero_add,hX.cell hi]
    simp[hi]) 9 Tryz.underlying9
   have HFin:Hid (strOfNums ((List.range (z-k)).map fun j=>((pieceTo s k k j:Nat):Int))=s.extract k z):=by
    show _=_
    apply BY_ext
    ·rw[strOfNums_size,ext_size s haz hz];simp
    ·intro j hj
     rw[strOfNums_size]at hj
     have hj':j<z-k:=by simpa using hj
     rw[strOfNums_f _ _ hj' (pieceTo_le s k k j),ext_BY s hz (by omega)]
     unfold pieceTo
     rw[if_pos (by omega)]
   have hni:¬ (k:Int)<(k:Int):=by omega
   clear hX hR
   go_wp2
   go_ret
   exact⟨congrArg (fun x=>Ending.returned (.string x)) HFin.out,hB.out⟩
end
end Go.Proofs.YtopihgmemnokkaaGreat
namespace Go.Proofs.YtopihgmemnokkaaGreat
open Go.RowKit
theorem rw_text (t:ByteArray):Wv.Rw t.size (LT t) (BY (trn t)) (fw t) (placeOf t):=by
 have hfw:fw t≤t.size:=(ord t).rank_le (i:=0) (by omega)
 have hz:placeOf t (fw t)=0:=placeOf_rank t (i:=0) (by omega)
 have hf:placeOf t 0=t.size:=by have:=placeOf_rank t (i:=t.size) (Nat.le_refl _);rwa [(ord t).rank_last]at this
 refine⟨fun r hr=>(place_le t hr).1,fun r q hr hq e=>place_inj t hr hq e,hfw,hz,hf,?_,fun r hr hne=>?_⟩
 ·unfold LT;simp
 ·obtain⟨h1,h2⟩:=place_le t hr
  have hp:0<placeOf t r:=by
   rcases Nat.eq_zero_or_pos (placeOf t r) with h|h
   ·exact absurd (place_inj t hr hfw (by rw[h,hz])) hne
   ·exact h
  obtain⟨i,hi⟩:∃ i,placeOf t r=i+1:=⟨placeOf t r-1,by omega⟩
  rw[hi]at h1 h2
  have hit:i<t.size:=by omega
  obtain⟨g1,_,g3⟩:=rank_ahead t hit
  rw[h2]at g1 g3
  have hle:=(ord t).rank_le (i:=i) (by omega)
  have hpi:=placeOf_rank t (i:=i) (by omega)
  rw[← g1]
  refine⟨hle,?_,?_⟩
  ·rw[hpi,hi]
  ·rw[hpi,g3,LT_lt t hit,BY_lt t hit]
theorem occ_text (t p:ByteArray):Wv.occ t.size (LT t) (wd p)=occT t p (t.size+1):=by
 unfold Wv.occ occT
 refine List.filter_congr fun i hi=>?_
 have:=List.mem_range.1 hi
 exact mt_atB t p (by omega)
section
variable {base:Nat}{w:World}{rb o:Nat}{G:Nat→Nat × Nat}{r:Nat}{root:Value}{F:Nat→Prop}{n:Nat}{b:Nat→Nat}{fw:Nat}
theorem Tre.keep {X:List (List Bool)}{P:Nat→Prop}{w':World}(h:Tre base w rb o G X r root F) (hk:Kept P w w') (h1:¬ P rb) (h2:¬ P r) (h3:∀ k,F k→¬ P k):Tre base w' rb o G X r root F :=
 ⟨cell_keep hk h.size h1,fun c hc=>cell_keep hk (h.code0 c hc) h1,fun c hc=>cell_keep hk (h.code1 c hc) h1,cell_keep hk h.map h1,cell_keep hk h.rootc h1,h.byt.keep hk h2,h.tree.keep hk h3,h.cod,h.ways,h.all,h.most⟩
theorem Rws.keep {P:Nat→Prop}{w':World}(h:Rws base w rb o G r root F n b fw) (hk:Kept P w w') (h1:¬ P rb) (h2:¬ P r) (h3:∀ k,F k→¬ P k):Rws base w' rb o G r root F n b fw :=
 ⟨h.tre.keep hk h1 h2 h3,fun c hc=>cell_keep hk (h.starts c hc) h1,cell_keep hk h.whole h1,h.byte,h.live,h.fwle,h.nle⟩
theorem Ixs.keep {ib rate:Nat}{pl:Nat→Nat}{wv av kv:Value}{P:Nat→Prop}{w':World}(h:Ixs w ib rate n b fw pl base G r root F wv av kv) (hk:Kept P w w') (h2:¬ P r) (h3:∀ k,F k→¬ P k) (h4:∀ k,mrkP ib wv av kv k→¬ P k):Ixs w' ib rate n b fw pl base G r root F wv av kv :=
 ⟨h.rws.keep hk (h4 ib (.inl (.inl rfl))) h2 h3,h.mrk.keep hk h4,h.low⟩
end
def PIx:Lay:=fun a z bx t rate w=>∃ (bs ib rt:Nat) (G:Nat→Nat × Nat) (r:Nat) (root:Value) (F:Nat→Prop) (wv av kv:Value),rate=(rt:Nat)∧w.heap[bx]?=some (.cells #[.pointer (some ⟨ib,0,none⟩)] 67 (0,0)) ∧
 Ixs w ib rt t.size (BY (trn t)) (fw t) (placeOf t) bs G r root F wv av kv∧(∀ k,(k=bx∨k=r∨F k∨mrkP ib wv av kv k)→a≤k∧k<z)
theorem PIx.ok:Lay.Ok PIx where
 keep:=fun P a z bx t rate w w' ⟨bs,ib,rt,G,r,root,F,wv,av,kv,h1,h2,h3,h4⟩ hk hn=>by
  have hn2:∀ k,(k=bx∨k=r∨F k∨mrkP ib wv av kv k)→¬ P k:=fun k hk2=>hn k (h4 k hk2).1 (h4 k hk2).2
  refine⟨bs,ib,rt,G,r,root,F,wv,av,kv,h1,?_,h3.keep hk (hn2 _ (.inr (.inl rfl))) (fun k hk2=>hn2 k (.inr (.inr (.inl hk2)))) (fun k hk2=>hn2 k (.inr (.inr (.inr hk2)))),h4⟩
  rw[hk.block bx (Array.getElem?_eq_some_iff.1 h2).1 (hn2 _ (.inl rfl))];exact h2
 more:=fun a z z' bx t rate w ⟨bs,ib,rt,G,r,root,F,wv,av,kv,h1,h2,h3,h4⟩ hz _=>⟨bs,ib,rt,G,r,root,F,wv,av,kv,h1,h2,h3,fun k hk=>⟨(h4 k hk).1,Nat.lt_of_lt_of_le (h4 k hk).2 hz⟩⟩
end Go.Proofs.YtopihgmemnokkaaGreat
namespace Go.Proofs.YtopihgmemnokkaaGreat
open Go.RowKit
set_option maxHeartbeats 400000 in
theorem none_any (w:World) (bx ib:Nat) (h:w.cell? ⟨bx,0,none⟩=some (.pointer (some ⟨ib,0,none⟩))) :
  Calls Tryz.prog 32 #[.pointer (some ⟨bx,0,none⟩)] w fun e w'=>e=.returned (.bool false)∧w'=w:=by
 go_enter Tryz.func32,Tryz.ntmps32
 go_wp2
 go_ret
 exact⟨rfl,rfl⟩
set_option maxRecDepth 100000 in
set_option maxHeartbeats 1000000 in
theorem xlen_any (a z bx:Nat) (t:ByteArray) (rate:Int) (w:World) (h:PIx a z bx t rate w) :
  Calls Tryz.prog 15 #[.pointer (some ⟨bx,0,none⟩)] w fun e w'=>e=.returned (.int .i64 (t.size:Nat))∧w'=w:=by
 obtain⟨bs,ib,rt,G,r,root,F,wv,av,kv,rfl,h2,h3,h4⟩:=h
 have c0:w.cell? ⟨bx,0,none⟩=some (.pointer (some ⟨ib,0,none⟩)):=cell_of h2 rfl
 have hl:=ilen_any h3.rws
 have hno:=none_any w bx ib c0
 clear h2 h3 h4
 go_enter Tryz.func15,Tryz.ntmps15
 go_wp2_with fail
 refine hno.mono ?_
 rintro e w' ⟨rfl,rfl⟩
 go_wp2_with fail
 refine hl.mono ?_
 rintro e w' ⟨rfl,rfl⟩
 go_wp2
 go_ret
 exact⟨rfl,rfl⟩
set_option maxRecDepth 100000 in
set_option maxHeartbeats 1000000 in
theorem xcount_any (a z bx:Nat) (t p:ByteArray) (rate:Int) (w:World) (h:PIx a z bx t rate w) (hp:p.size≤9223372036854775807) :
  Calls Tryz.prog 30 #[.pointer (some ⟨bx,0,none⟩),.string p] w fun e w'=>e=.returned (.int .i64 ((occT t p (t.size+1)).length:Nat))∧Below w.heap.size w w':=by
 obtain⟨bs,ib,rt,G,r,root,F,wv,av,kv,rfl,h2,h3,h4⟩:=h
 have c0:w.cell? ⟨bx,0,none⟩=some (.pointer (some ⟨ib,0,none⟩)):=cell_of h2 rfl
 have hl:=icount_any h3 (rw_text t) p hp
 rw[occ_text]at hl
 have hno:=none_any w bx ib c0
 clear h2 h3 h4
 go_enter Tryz.func30,Tryz.ntmps30
 go_wp2_with fail
 refine hno.mono ?_
 rintro e w' ⟨rfl,rfl⟩
 go_wp2_with fail
 refine hl.mono ?_
 rintro e w' ⟨rfl,hb⟩
 clear hl
 go_wp2
 go_ret
 exact⟨rfl,hb⟩
set_option maxRecDepth 100000 in
set_option maxHeartbeats 1000000 in
theorem xlocate_any (a z bx:Nat) (t p:ByteArray) (rate:Int) (w:World) (h:PIx a z bx t rate w) (hr:1≤rate∧rate≤64) (hp:p.size≤9223372036854775807) :
  Calls Tryz.prog 31 #[.pointer (some ⟨bx,0,none⟩),.string p] w fun e w'=>∃ v,e=.returned v∧w'.ownsRow w.heap.size 3 1 v (occT t p (t.size+1)).length (intsL (occT t p (t.size+1)))∧Below w.heap.size w w':=by
 obtain⟨bs,ib,rt,G,r,root,F,wv,av,kv,rfl,h2,h3,h4⟩:=h
 have c0:w.cell? ⟨bx,0,none⟩=some (.pointer (some ⟨ib,0,none⟩)):=cell_of h2 rfl
 have hl:=ilocate_any h3 (rw_text t) (by omega) (by omega) p hp
 rw[occ_text]at hl
 have hno:=none_any w bx ib c0
 clear h2 h3 h4
 go_enter Tryz.func31,Tryz.ntmps31
 go_wp2_with fail
 refine hno.mono ?_
 rintro e w' ⟨rfl,rfl⟩
 go_wp2_with fail
 refine hl.mono ?_
 rintro e w' ⟨v,rfl,hv,hb⟩
 obtain⟨va,vc,rfl⟩:=own_slice hv
 clear hl
 go_wp2
 go_ret
 exact⟨_,rfl,hv,hb⟩
set_option maxRecDepth 100000 in
set_option maxHeartbeats 1000000 in
theorem xextract_any (a z bx:Nat) (t:ByteArray) (rate x y:Int) (w:World) (h:PIx a z bx t rate w) (hr:1≤rate∧rate≤64) :
  Calls Tryz.prog 18 #[.pointer (some ⟨bx,0,none⟩),.int .i64 x,.int .i64 y] w fun e w'=>(∃ (s:ByteArray) (n:Int),e=.returned (.tuple #[.string s,.int .i64 n])∧ExtAns t x y s n)∧Below w.heap.size w w':=by
 have hlen:=xlen_any a z bx t rate w h
 obtain⟨bs,ib,rt,G,r,root,F,wv,av,kv,rfl,h2,h3,h4⟩:=h
 have c0:w.cell? ⟨bx,0,none⟩=some (.pointer (some ⟨ib,0,none⟩)):=cell_of h2 rfl
 have hno:=none_any w bx ib c0
 have hex:=fun (u v:Nat) (huv:u≤v) (hv:v≤t.size)=>iextract_any h3 (rw_text t) (fun i hi=>by rw[LT_lt t hi,BY_lt t hi]) (by omega) (by omega) u v huv hv
 have HEX:Hid _:=hex
 clear h2 h3 h4 hex
 by_cases hx:x<0
 ·have d1:decide (x<0)=true:=decide_eq_true hx
  go_enter Tryz.func18,Tryz.ntmps18
  go_wp2_with fail
  refine hno.mono ?_
  rintro e w' ⟨rfl,rfl⟩
  clear hlen
  go_wp2
  go_ret2
  exact⟨⟨_,3,rfl,.inr ⟨by omega,rfl,rfl⟩⟩,Below.refl _ _⟩
 ·have d1:decide (x<0)=false:=decide_eq_false hx
  by_cases hy:(t.size:Int)<y
  ·have d2:decide ((t.size:Int)<y)=true:=decide_eq_true hy
   go_enter Tryz.func18,Tryz.ntmps18
   go_wp2_with fail
   refine hno.mono ?_
   rintro e w' ⟨rfl,rfl⟩
   go_wp2_with fail
   refine hlen.mono ?_
   rintro e w' ⟨rfl,rfl⟩
   go_wp2
   go_ret2
   exact⟨⟨_,3,rfl,.inr ⟨by omega,rfl,rfl⟩⟩,Below.refl _ _⟩
  ·have d2:decide ((t.size:Int)<y)=false:=decide_eq_false hy
   by_cases hz:y<x
   ·have d3:decide (y<x)=true:=decide_eq_true hz
    go_enter Tryz.func18,Tryz.ntmps18
    go_wp2_with fail
    refine hno.mono ?_
    rintro e w' ⟨rfl,rfl⟩
    go_wp2_with fail
    refine hlen.mono ?_
    rintro e w' ⟨rfl,rfl⟩
    go_wp2
    go_ret2
    exact⟨⟨_,3,rfl,.inr ⟨by omega,rfl,rfl⟩⟩,Below.refl _ _⟩
   ·have d3:decide (y<x)=false:=decide_eq_false hz
    obtain⟨u,rfl⟩:∃ u:Nat,x=u:=⟨x.toNat,by omega⟩
    obtain⟨v,rfl⟩:∃ v:Nat,y=v:=⟨y.toNat,by omega⟩
    have hc:=HEX.out u v (by omega) (by omega)
    go_enter Tryz.func18,Tryz.ntmps18
    go_wp2_with fail
    refine hno.mono ?_
    rintro e w' ⟨rfl,rfl⟩
    go_wp2_with fail
    refine hlen.mono ?_
    rintro e w' ⟨rfl,rfl⟩
    go_wp2_with fail
    refine hc.mono ?_
    rintro e w' ⟨rfl,hb⟩
    clear hc
    go_wp2
    go_ret2
    exact⟨⟨_,0,rfl,.inl ⟨by omega,by omega,by omega,by simp,rfl⟩⟩,hb⟩
end Go.Proofs.YtopihgmemnokkaaGreat
namespace Go.Proofs.YtopihgmemnokkaaGreat
open Go.RowKit
section
variable {base:Nat}{w:World}{rb o:Nat}{G:Nat→Nat × Nat}{r:Nat}{root:Value}{F:Nat→Prop}{fw:Nat}
set_option maxRecDepth 100000 in
set_option maxHeartbeats 1000000 in
theorem ttext_any (s:ByteArray) (h:Rws base w rb o G r root F s.size (BY s) fw) :
  Calls Tryz.prog 112 #[.pointer (some ⟨rb,o,none⟩)] w fun e w'=>e=.returned (.string s)∧Below w.heap.size w w':=by
 have hn:=h.nle
 have hmk:=fun w=>make_bytes s.size (by omega) w
 have c0:=h.tre.size
 rw[Wv.waysOf_len]at c0
 have HH:Hid (Rws base w rb o G r root F s.size (BY s) fw):=h
 clear h
 go_enter Tryz.func112,Tryz.ntmps112
 go_wp2
 go_loopw [12] (fun iv wr=>∃ i:Nat,i≤s.size∧iv=.int .i64 i∧Hid (RowB wr w.heap.size s.size (fun k=>if k<i then BY s k else 0))∧Hid (Below w.heap.size w wr)) (fun iv _=>s.size-(intOf iv).toNat)
 case atStart=>exact⟨0,by omega,rfl,(RowB.new' s.size (fun _=>0) rfl).congr fun j _=>by simp,(Below.refl _ _).alloc (Nat.le_refl _) _⟩
 case round =>
  clear hmk c0
  obtain⟨i,hi,rfl,HR,HB⟩:=hrel
  by_cases hlt:i<s.size
  ·have hX:=Wv.waysOf_get (fun c=>bl (G c)) (BY s) hlt
   have hat:=at_any base wr rb o G _ r root F (HH.out.below HB.out).tre i _ (HH.out.byte i hlt) (HH.out.live i hlt) hX
   have hby:=BY_le s i
   have HAT:Hid (Calls Tryz.prog 110 #[.pointer (some ⟨rb,o,none⟩),.int .i64 (i:Nat)] wr fun e w'=>∃ q:Nat,e=.returned (.tuple #[.int .u8 (BY s i:Nat),.int .i64 (q:Nat)])∧Below wr.heap.size wr w'):=hat.mono fun e w' ⟨h1,h2⟩=>⟨_,h1,h2⟩
   have hli:(i:Int)<(s.size:Int):=by omega
   have hrl:=(Array.getElem?_eq_some_iff.1 HR.out).1
   have HST:Hid (∀ W,RowB W w.heap.size s.size (fun k=>if k<i then BY s k else 0)→RowB (W.setCell ⟨w.heap.size,i,none⟩ (.int .u8 (BY s i:Nat))) w.heap.size s.size (fun k=>if k<i+1 then BY s k else 0)):=fun W hW=>(hW.set i (BY s i)).congr fun k _=>by
    unfold Cc.put
    by_cases e:k=i
    ·subst e;rw[if_pos rfl,if_pos (by omega)]
    ·rw[if_neg e]
     show (if k<i then BY s k else 0)=_
     by_cases e2:k<i
     ·rw[if_pos e2,if_pos (by omega)]
     ·rw[if_neg e2,if_neg (by omega)]
   clear hat hX
   generalize BY s i=c at *
   go_wp2_with fail
   refine HAT.out.mono ?_
   rintro e w2 ⟨q,rfl,hb2⟩
   have hR2:RowB w2 w.heap.size s.size (fun k=>if k<i then BY s k else 0):=by
    unfold RowB
    rw[hb2.block _ hrl];exact HR.out
   have t0:=hR2.cell (i:=i) hlt
   have f0:=hR2.frozen i
   have HR3:Hid (RowB (w2.setCell ⟨w.heap.size,i,none⟩ (.int .u8 (c:Nat))) w.heap.size s.size (fun k=>if k<i+1 then BY s k else 0)):=HST.out w2 hR2
   have HB3:Hid (Below w.heap.size w (w2.setCell ⟨w.heap.size,i,none⟩ (.int .u8 (c:Nat)))):=(HB.out.trans (hb2.mono HB.out.size)).setCell (by simp) _
   clear hb2 hR2 HR HB HST HAT
   go_wp2
   exact⟨⟨i+1,by omega,by go_num,HR3,HB3⟩,by simp[intOf];omega⟩
  ·have hi':i=s.size:=by omega
   subst hi'
   have hown:=rowB_own (base:=w.heap.size) (HR.out.congr (g:=BY s) (fun k hk=>by rw[if_pos hk])) (Nat.le_refl _) (by omega)
   have hl:((List.range s.size).map (BY s)).length=s.size:=by simp
   have hcv:=conv_bys (l:=(List.range s.size).map (BY s)) (v:=.slice (some ⟨w.heap.size,0,none⟩) s.size s.size) (w:=wr) (base:=w.heap.size) (by rw[hl];exact hown)
   have hs:bys ((List.range s.size).map (BY s))=s:=by
    refine BY_ext (by rw[bys_size,hl]) fun k hk=>?_
    rw[bys_size,hl]at hk
    exact bys_BY _ (by simp[hk]) (BY_le s k)
   rw[hs]at hcv
   clear hown hl hs
   go_wp2
   go_ret
   exact⟨rfl,HB.out⟩
set_option maxRecDepth 100000 in
set_option maxHeartbeats 1000000 in
theorem rturned_any (s:ByteArray) (h:Rws base w rb o G r root F s.size (BY s) fw) :
  Calls Tryz.prog 73 #[.pointer (some ⟨rb,o,none⟩)] w fun e w'=>e=.returned (.tuple #[.string s,.int .i64 (fw:Nat)])∧Below w.heap.size w w':=by
 have hwh:=h.whole
 have HT:Hid (∀ W,Below w.heap.size w W→Calls Tryz.prog 112 #[.pointer (some ⟨rb,o,none⟩)] W fun e w'=>e=.returned (.string s)∧Below w.heap.size w w'∧w'.cell? ⟨rb,o+771,none⟩=some (.int .i64 (fw:Nat))):=fun W hW =>
  (ttext_any s (h.below hW)).mono fun e w' ⟨he,hb⟩=>by
   have h2:=hW.trans (hb.mono hW.size)
   exact⟨he,h2,cell_keep (Kept.of_below h2 (Nat.le_refl _) (fun _=>False)) hwh (fun h=>h)⟩
 have bd0:Below w.heap.size w w.drew:=bdrew (Below.refl _ _)
 have s0:w.drew.cell? ⟨rb,o+771,none⟩=some (.int .i64 (fw:Nat)):=hwh
 clear h
 go_enter Tryz.func73,Tryz.ntmps73
 go_wp2_with fail
 go_region_held3 (fun w'=>w'.cell? ⟨rb,o+771,none⟩=some (.int .i64 (fw:Nat))) (assumption) ((go_at_call 112;refine(HT.out _ (by assumption)).mono ?_;rintro e w3 ⟨rfl,hb3,hS3⟩))
 clear HT s0 bd0
 go_wp2
 go_ret2
 exact⟨rfl,hb3⟩
end
end Go.Proofs.YtopihgmemnokkaaGreat
namespace Go.Proofs.YtopihgmemnokkaaGreat
open Go.RowKit
set_option maxRecDepth 100000 in
set_option maxHeartbeats 1000000 in
theorem xbuild_any (t:ByteArray) (rate:Int) (w:World) (hr1:-9223372036854775808≤rate) (hr2:rate≤9223372036854775807):Calls Tryz.prog 29 #[.string t,.int .i64 rate] w fun e w' =>
  (¬ BuildOk t rate∧e=.returned (.tuple #[.pointer none,.int .i64 (buildErr t rate)])∧Below w.heap.size w w') ∨
  (BuildOk t rate∧∃ b,e=.returned (.tuple #[.pointer (some ⟨b,0,none⟩),.int .i64 0])∧PIx w.heap.size w'.heap.size b t rate w'∧Below w.heap.size w w'):=by
 by_cases hs:1000<t.size
 ·have d1:decide ((1000:Int)<(t.size:Int))=true:=decide_eq_true (by omega)
  have he:buildErr t rate=1:=by unfold buildErr;rw[if_pos hs]
  go_enter Tryz.func29,Tryz.ntmps29
  go_wp2
  go_ret2
  refine .inl ⟨fun h=>?_,by first|rfl|(rw[he];rfl),Below.refl _ _⟩
  have:=h.1;omega
 ·have d1:decide ((1000:Int)<(t.size:Int))=false:=decide_eq_false (by omega)
  by_cases h1:rate<1
  ·have d2:decide (rate<1)=true:=decide_eq_true h1
   have he:buildErr t rate=2:=by unfold buildErr;rw[if_neg hs,if_pos (.inl h1)]
   go_enter Tryz.func29,Tryz.ntmps29
   go_wp2
   go_ret2
   refine .inl ⟨fun h=>?_,by first|rfl|(rw[he];rfl),Below.refl _ _⟩
   have:=h.2.1;omega
  ·have d2:decide (rate<1)=false:=decide_eq_false h1
   by_cases h2:64<rate
   ·have d3:decide (64<rate)=true:=decide_eq_true h2
    have he:buildErr t rate=2:=by unfold buildErr;rw[if_neg hs,if_pos (.inr h2)]
    go_enter Tryz.func29,Tryz.ntmps29
    go_wp2
    go_ret2
    refine .inl ⟨fun h=>?_,by first|rfl|(rw[he];rfl),Below.refl _ _⟩
    have:=h.2.2;omega
   ·have d3:decide (64<rate)=false:=decide_eq_false h2
    have hts:t.size≤1000:=by omega
    obtain⟨rt,rfl⟩:∃ rt:Nat,rate=rt:=⟨rate.toNat,by omega⟩
    go_enter Tryz.func29,Tryz.ntmps29
    go_wp2_with fail
    refine(forth_any t _ hts).mono ?_
    rintro e w1 ⟨b,rows,rfl,hsz,hrows,hb,hB⟩
    have hbt:b=trn t:=BY_ext (by rw[hsz,trn_size]) fun k hk=>by rw[hb k (by omega),trn_BY t (by omega),tb_of t hrows (by omega)]
    subst hbt
    clear hb hrows hsz
    have hz1:=hB.size
    have hts2:(trn t).size=t.size:=trn_size t
    have hrw:=rw_text t
    have hof:=indexOf_any (trn t) (fw t) rt (LT t) (placeOf t) w1 (by rw[hts2];exact hts) (by rw[hts2];exact hrw.fwle) (by rw[hts2];exact hrw) (by omega) (by omega)
    rw[hts2]at hof
    clear hrw hts2
    go_wp2_with fail
    refine hof.mono ?_
    rintro e w2 ⟨ib,G,r,root,F,wv,av,kv,rfl,hI,hB2⟩
    have hz2:=hB2.size
    have HI:Hid (Ixs w2 ib rt t.size (BY (trn t)) (fw t) (placeOf t) w1.heap.size G r root F wv av kv):=hI
    clear hof hI
    go_wp2
    go_ret2
    refine .inr ⟨⟨hts,by omega,by omega⟩,w2.heap.size,rfl,?_,?_⟩
    ·have hal:Below w2.heap.size w2 (w2.alloc (.cells #[.pointer (some ⟨ib,0,none⟩)] 67)):=(Below.refl _ _).alloc (Nat.le_refl _) _
     have hI2:=HI.out.below hal
     have hml:=HI.out.mrk.lt
     have hTl:=HI.out.rws.tre.tree.lt
     have hlo:=HI.out.low
     have hibl:=HI.out.rws.lt
     refine⟨w1.heap.size,ib,rt,G,r,root,F,wv,av,kv,rfl,heap_alloc_new _ _,hI2,fun k hk=>?_⟩
     have hzz:(w2.alloc (.cells #[.pointer (some ⟨ib,0,none⟩)] 67)).heap.size=w2.heap.size+1:=by simp
     rw[hzz]
     rcases hk with h|h|h|h
     ·omega
     ·omega
     ·have:=hTl k h;omega
     ·have:=hml k h;omega
    ·exact hB.trans ((hB2.trans ((Below.refl _ _).alloc hz2 _)).mono hz1)
theorem PIx.says:Lay.Says PIx where
 build:=fun t rate w _ h1 h2=>xbuild_any t rate w h1 h2
 len:=fun a z b t rate w h _=>(xlen_any a z b t rate w h).mono fun _ _ ⟨h1,h2⟩=>⟨h1,h2 ▸ Below.refl _ _⟩
 count:=fun a z b t p rate w h _ hp=>xcount_any a z b t p rate w h (by omega)
 locate:=fun a z b t p rate w h hk hp=>xlocate_any a z b t p rate w h hk.2 (by omega)
 extract:=fun a z b t rate x y w h hk _ _=>xextract_any a z b t rate x y w h hk.2
end Go.Proofs.YtopihgmemnokkaaGreat
