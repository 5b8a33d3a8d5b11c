import Derived.Test.YtopihgmemnokkaaGreatLaw5J
import Derived.Test.YtopihgmemnokkaaGreatRefM4J
import Derived.Deep.RegionWith
import Derived.Test.YtopihgmemnokkaaGreatTreeW5J
import Derived.Test.YtopihgmemnokkaaGreatCodeW5J
namespace Go.Proofs.YtopihgmemnokkaaGreat
open Go.RowKit
theorem reads_of {w:World}{base:Nat}{v:Value}{l:List Nat}(h:w.ownsRow base 3 1 v l.length (intsL l)):Reads w v l.length (fun k=>((l[k]?.getD 0:Nat):Int)):=by
 rcases h.2 with⟨rfl,h0⟩|⟨g,cap,cur,rfl,h1⟩
 ·exact .inl ⟨rfl,h0⟩
 ·refine .inr ⟨g,cap,rfl,fun k hk=>?_⟩
  have hu:(intsL l)[k]?=some (.int .i64 ((l[k]?.getD 0:Nat):Int)):=by
   unfold intsL
   rw[List.getElem?_map,List.getElem?_eq_getElem hk];rfl
  have:=h.cells (g:=g) rfl k _ hu
  have e:(⟨g,0,none⟩:Addr).add k=⟨g,k,none⟩:=by
   unfold Addr.add
   split
   ·simp[*]
   ·simp
  rw[e]at this;exact this
section
variable {PI:Lay}
set_option maxRecDepth 100000 in
set_option maxHeartbeats 2000000 in
theorem asks_len (hI:PI.Ok) (hS:PI.Says) (B0 wb:Nat) (xv rv:Value) (FX:Nat→Prop) (X:World→Prop) (N:Nat) (w:World) (L:LX B0 wb xv rv FX X N w) (hB:B0≤w.heap.size) (it:II) (hit:it.At PI w) (A B C:Int) (s:ByteArray) :
  Calls Tryz.prog 26 #[.pointer (some ⟨wb,0,none⟩),.pointer (some ⟨it.b,0,none⟩),.pointer (some ⟨it.q,0,none⟩),.agg #[.int .i64 9,.int .i64 A,.int .i64 B,.int .i64 C,.string s]] w fun e w'=>e=.returned (.bool true)∧LX B0 wb xv rv FX X N w'∧Below B0 w w':=by
 have hW:Below w.heap.size w (w.alloc (opBox 9 A B C s)):=(Below.refl _ _).alloc (Nat.le_refl _) _
 have hi0:=hit.keep hI (Kept.of_below hW (Nat.le_refl _) (fun _=>False)) (fun _ _ _ h=>h)
 have HL:Hid (LX B0 wb xv rv FX X N w):=L
 have HI:Hid (it.At PI (w.alloc (opBox 9 A B C s))):=hi0
 have HW:Hid (Below w.heap.size w (w.alloc (opBox 9 A B C s))):=hW
 clear L hit hW hi0
 go_enter Tryz.func26,Tryz.ntmps26
 go_wp2_with fail
 obtain⟨W0,hW0⟩:∃ W0,W0=w.alloc (opBox 9 A B C s):=⟨_,rfl⟩
 rw[← hW0]at HI HW ⊢
 clear hW0
 refine(hS.len _ _ _ _ _ W0 HI.out.idx HI.out.ok).mono ?_
 rintro e w1 ⟨rfl,hb1⟩
 have HB1:Hid (Below W0.heap.size W0 w1):=hb1
 have HI1:Hid (IAt w1 it.q it.t it.rate):=HI.out.ref.below hb1 HI.out.ref.lt
 clear hb1
 go_wp2_with fail
 refine(refLen_any _ _ _ w1 HI1.out).mono ?_
 rintro e w2 ⟨rfl,hw2⟩
 have hw2:=hw2.symm
 subst hw2
 have HB2:Hid (Below w.heap.size w w1):=HW.out.trans (HB1.out.mono HW.out.size)
 have hnn:((it.t.size:Int) == (it.t.size:Int))=true:=by simp
 go_wp2
 go_ret
 exact⟨by simp,HL.out.below HB2.out,HB2.out.mono hB⟩
set_option maxRecDepth 100000 in
set_option maxHeartbeats 2000000 in
theorem asks_count (hI:PI.Ok) (hS:PI.Says) (B0 wb:Nat) (xv rv:Value) (FX:Nat→Prop) (X:World→Prop) (N:Nat) (w:World) (L:LX B0 wb xv rv FX X N w) (hB:B0≤w.heap.size) (it:II) (hit:it.At PI w) (A B C:Int) (s:ByteArray) (hs:s.size≤1099511627776) :
  Calls Tryz.prog 26 #[.pointer (some ⟨wb,0,none⟩),.pointer (some ⟨it.b,0,none⟩),.pointer (some ⟨it.q,0,none⟩),.agg #[.int .i64 10,.int .i64 A,.int .i64 B,.int .i64 C,.string s]] w fun e w'=>e=.returned (.bool true)∧LX B0 wb xv rv FX X N w'∧Below B0 w w':=by
 have hbx:=fun w' hb=>box_cell w 10 A B C s (w':=w') hb 4
 simp only[List.getElem?_toArray,List.getElem?_cons_succ,List.getElem?_cons_zero]at hbx
 have hW:Below w.heap.size w (w.alloc (opBox 10 A B C s)):=(Below.refl _ _).alloc (Nat.le_refl _) _
 have hi0:=hit.keep hI (Kept.of_below hW (Nat.le_refl _) (fun _=>False)) (fun _ _ _ h=>h)
 have hsz:(w.alloc (opBox 10 A B C s)).heap.size=w.heap.size+1:=by simp
 have HL:Hid (LX B0 wb xv rv FX X N w):=L
 have HI:Hid (it.At PI (w.alloc (opBox 10 A B C s))):=hi0
 have HW:Hid (Below w.heap.size w (w.alloc (opBox 10 A B C s))):=hW
 clear L hit hW hi0
 go_enter Tryz.func26,Tryz.ntmps26
 go_wp2_with fail
 obtain⟨W0,hW0⟩:∃ W0,W0=w.alloc (opBox 10 A B C s):=⟨_,rfl⟩
 rw[← hW0]at HI HW hbx hsz ⊢
 clear hW0
 refine(hS.count _ _ _ _ s _ W0 HI.out.idx HI.out.ok hs).mono ?_
 rintro e w1 ⟨rfl,hb1⟩
 have c4:=hbx w1 (hsz ▸ hb1)
 have HB1:Hid (Below W0.heap.size W0 w1):=hb1
 have HI1:Hid (IAt w1 it.q it.t it.rate):=HI.out.ref.below hb1 HI.out.ref.lt
 clear hb1
 go_wp2_with fail
 refine(refCount_any _ s _ _ w1 HI1.out HI.out.ok.1 hs).mono ?_
 rintro e w2 ⟨rfl,hb2⟩
 have HB2:Hid (Below w.heap.size w w2):=(HW.out.trans (HB1.out.mono HW.out.size)).trans (hb2.mono (Nat.le_trans HW.out.size HB1.out.size))
 clear hb2 c4
 generalize (occT it.t s (it.t.size+1)).length=n at *
 have hnn:((n:Int) == (n:Int))=true:=by simp
 go_wp2
 go_ret
 exact⟨by simp,HL.out.below HB2.out,HB2.out.mono hB⟩
set_option maxRecDepth 100000 in
set_option maxHeartbeats 2000000 in
theorem asks_locate (hI:PI.Ok) (hS:PI.Says) (B0 wb:Nat) (xv rv:Value) (FX:Nat→Prop) (X:World→Prop) (N:Nat) (w:World) (L:LX B0 wb xv rv FX X N w) (hB:B0≤w.heap.size) (hN:N≤5000000) (it:II) (hit:it.At PI w) (A B C:Int) (s:ByteArray) (hs:s.size≤1099511627776) :
  Calls Tryz.prog 26 #[.pointer (some ⟨wb,0,none⟩),.pointer (some ⟨it.b,0,none⟩),.pointer (some ⟨it.q,0,none⟩),.agg #[.int .i64 11,.int .i64 A,.int .i64 B,.int .i64 C,.string s]] w fun e w'=>e=.returned (.bool true)∧LX B0 wb xv rv FX X (N+4) w'∧Below B0 w w':=by
 have hbx:=fun w' hb=>box_cell w 11 A B C s (w':=w') hb 4
 simp only[List.getElem?_toArray,List.getElem?_cons_succ,List.getElem?_cons_zero]at hbx
 have hW:Below w.heap.size w (w.alloc (opBox 11 A B C s)):=(Below.refl _ _).alloc (Nat.le_refl _) _
 have hi0:=hit.keep hI (Kept.of_below hW (Nat.le_refl _) (fun _=>False)) (fun _ _ _ h=>h)
 have hsz:(w.alloc (opBox 11 A B C s)).heap.size=w.heap.size+1:=by simp
 have HL:Hid (LX B0 wb xv rv FX X N (w.alloc (opBox 11 A B C s))):=L.below hW
 have HI:Hid (it.At PI (w.alloc (opBox 11 A B C s))):=hi0
 have HW:Hid (Below w.heap.size w (w.alloc (opBox 11 A B C s))):=hW
 clear L hit hW hi0
 go_enter Tryz.func26,Tryz.ntmps26
 go_wp2_with fail
 obtain⟨W0,hW0⟩:∃ W0,W0=w.alloc (opBox 11 A B C s):=⟨_,rfl⟩
 rw[← hW0]at HI HW HL hbx hsz ⊢
 clear hW0
 have HOK:Hid (it.t.size≤1000):=HI.out.ok.1
 have HLen:Hid ((occT it.t s (it.t.size+1)).length≤5000):=by
  have h1:=occT_len it.t s (it.t.size+1)
  have h2:=HOK.out
  show _≤_;omega
 refine(hS.locate _ _ _ _ s _ W0 HI.out.idx HI.out.ok hs).mono ?_
 rintro e w1 ⟨v,rfl,ho1,hb1⟩
 have c4:=hbx w1 (hsz ▸ hb1)
 have HB1:Hid (Below W0.heap.size W0 w1):=hb1
 have HI1:Hid (IAt w1 it.q it.t it.rate):=HI.out.ref.below hb1 HI.out.ref.lt
 have HO1:Hid (w1.ownsRow W0.heap.size 3 1 v (occT it.t s (it.t.size+1)).length (intsL (occT it.t s (it.t.size+1)))):=ho1
 clear hb1 ho1
 go_wp2_with fail
 refine(refLocate_any _ s _ _ w1 HI1.out HOK.out hs).mono ?_
 rintro e w2 ⟨v2,rfl,ho2,hb2⟩
 have HO2:Hid (w2.ownsRow w1.heap.size 3 1 v2 (occT it.t s (it.t.size+1)).length (intsL (occT it.t s (it.t.size+1)))):=ho2
 have HO12:Hid (w2.ownsRow W0.heap.size 3 1 v (occT it.t s (it.t.size+1)).length (intsL (occT it.t s (it.t.size+1)))):=own_keep HO1.out (Kept.of_below hb2 (Nat.le_refl _) (fun _=>False)) (fun _ _ h=>h)
 have HB2:Hid (Below W0.heap.size W0 w2):=HB1.out.trans (hb2.mono HB1.out.size)
 clear hb2 ho2 c4 hbx
 generalize occT it.t s (it.t.size+1)=l at *
 go_wp2_with fail
 refine(same_any _ _ l.length _ w2 (reads_of HO12.out) (reads_of HO2.out) HLen.out).mono ?_
 rintro e w3 ⟨rfl,hS3⟩
 have HB3:Hid (Below W0.heap.size W0 w3):=HB2.out.trans (still_below hS3 _ HB2.out.size)
 have HO3:Hid (w3.ownsRow W0.heap.size 3 1 v l.length (intsL l)):=own_keep HO12.out hS3 (fun _ _ h=>h)
 clear hS3
 go_wp2_with fail
 refine(keep_lx B0 wb xv rv _ _ N W0 w3 HL.out HB3.out v l.length _ HO3.out (by have:=HW.out.size;omega) hN HLen.out).mono ?_
 rintro e w4 ⟨rfl,hL4,hB4⟩
 have HL4:Hid (LX B0 wb xv rv FX X (N+4) w4):=hL4
 have HB4:Hid (Below B0 w w4):=((HW.out.mono hB).trans (HB3.out.mono (by have:=HW.out.size;omega))).trans hB4
 clear hL4 hB4
 go_wp2
 go_ret
 exact⟨rfl,HL4.out,HB4.out⟩
set_option maxRecDepth 100000 in
set_option maxHeartbeats 2000000 in
theorem asks_extract (hI:PI.Ok) (hS:PI.Says) (B0 wb:Nat) (xv rv:Value) (FX:Nat→Prop) (X:World→Prop) (N:Nat) (w:World) (L:LX B0 wb xv rv FX X N w) (hB:B0≤w.heap.size) (it:II) (hit:it.At PI w) (A B C:Int) (s:ByteArray) (hA:-9223372036854775808≤A∧A≤9223372036854775807) (hB2:-9223372036854775808≤B∧B≤9223372036854775807) :
  Calls Tryz.prog 26 #[.pointer (some ⟨wb,0,none⟩),.pointer (some ⟨it.b,0,none⟩),.pointer (some ⟨it.q,0,none⟩),.agg #[.int .i64 12,.int .i64 A,.int .i64 B,.int .i64 C,.string s]] w fun e w'=>e=.returned (.bool true)∧LX B0 wb xv rv FX X N w'∧Below B0 w w':=by
 have hbx1:=fun w' hb=>box_cell w 12 A B C s (w':=w') hb 1
 have hbx2:=fun w' hb=>box_cell w 12 A B C s (w':=w') hb 2
 simp only[List.getElem?_toArray,List.getElem?_cons_succ,List.getElem?_cons_zero]at hbx1 hbx2
 have hW:Below w.heap.size w (w.alloc (opBox 12 A B C s)):=(Below.refl _ _).alloc (Nat.le_refl _) _
 have hi0:=hit.keep hI (Kept.of_below hW (Nat.le_refl _) (fun _=>False)) (fun _ _ _ h=>h)
 have hsz:(w.alloc (opBox 12 A B C s)).heap.size=w.heap.size+1:=by simp
 have HL:Hid (LX B0 wb xv rv FX X N w):=L
 have HI:Hid (it.At PI (w.alloc (opBox 12 A B C s))):=hi0
 have HW:Hid (Below w.heap.size w (w.alloc (opBox 12 A B C s))):=hW
 have HA:Hid (-9223372036854775808≤A∧A≤9223372036854775807):=hA
 have HB':Hid (-9223372036854775808≤B∧B≤9223372036854775807):=hB2
 clear L hit hW hi0 hA hB2
 go_enter Tryz.func26,Tryz.ntmps26
 go_wp2_with fail
 obtain⟨W0,hW0⟩:∃ W0,W0=w.alloc (opBox 12 A B C s):=⟨_,rfl⟩
 rw[← hW0]at HI HW hbx1 hbx2 hsz ⊢
 clear hW0
 refine(hS.extract _ _ _ _ _ A B W0 HI.out.idx HI.out.ok HA.out HB'.out).mono ?_
 rintro e w1 ⟨⟨s1,n1,rfl,ha1⟩,hb1⟩
 have c1:=hbx1 w1 (hsz ▸ hb1)
 have c2:=hbx2 w1 (hsz ▸ hb1)
 have HB1:Hid (Below W0.heap.size W0 w1):=hb1
 have HI1:Hid (IAt w1 it.q it.t it.rate):=HI.out.ref.below hb1 HI.out.ref.lt
 have HA1:Hid (ExtAns it.t A B s1 n1):=ha1
 clear hb1 ha1
 go_wp2_with fail
 refine(refExtract_any _ _ _ A B w1 HI1.out).mono ?_
 rintro e w2 ⟨⟨s2,n2,rfl,ha2⟩,hw2⟩
 have hw2:=hw2.symm
 subst hw2
 obtain⟨rfl,rfl⟩:=HA1.out.uniq ha2
 have HB2:Hid (Below w.heap.size w w1):=HW.out.trans (HB1.out.mono HW.out.size)
 clear c1 c2 ha2 HA1
 go_wp2_with fail
 refine(num_any _ _).mono ?_
 rintro e w3 ⟨rfl,hw3⟩
 have hw3:=hw3.symm
 subst hw3
 go_wp2
 go_ret
 exact⟨by simp,HL.out.below HB2.out,HB2.out.mono hB⟩
end
end Go.Proofs.YtopihgmemnokkaaGreat
namespace Go.Proofs.YtopihgmemnokkaaGreat
open Go.RowKit
section
variable {PI:Lay}{B0 wb:Nat}{xv rv:Value}{FX:Nat→Prop}{X:World→Prop}{N:Nat}{w:World}
theorem LX.box (L:LX B0 wb xv rv FX X N w) (o:Obj):LX B0 wb xv rv (fun k=>FX k∨k=w.heap.size) (fun W=>X W∧W.heap[w.heap.size]?=some o) N (w.alloc o):=by
 obtain⟨bv,qv,lv,tv,mv,dv,ls,ts,ms,ds,its,h1,h2⟩:=L
 have hl:=h1.lts
 have hwl:=h1.wd.lt
 have h:=h1.below ((Below.refl _ _).alloc (Nat.le_refl _) o)
 refine⟨bv,qv,lv,tv,mv,dv,ls,ts,ms,ds,its,⟨h.low,h.wd,h.lists,h.texts,h.bits,⟨h.more,heap_alloc_new w o⟩,⟨?_,?_⟩,?_,?_,?_,?_⟩,h2⟩
 ·intro P a b hx hk hP
  refine⟨h1.cl.keep _ _ _ hx.1 hk (fun k hk2=>hP k (.inl hk2)),?_⟩
  rw[hk.block _ (Array.getElem?_eq_some_iff.1 hx.2).1 (hP _ (.inr rfl))]
  exact hx.2
 ·intro a hx k hk
  rcases hk with hk|rfl
  ·exact h1.cl.lt _ hx.1 k hk
  ·exact(Array.getElem?_eq_some_iff.1 hx.2).1
 ·intro k hk
  refine⟨(h1.d1 k hk).1,(h1.d1 k hk).2.1,?_⟩
  rintro (h3|rfl)
  ·exact(h1.d1 k hk).2.2 h3
  ·have:=hl _ (.inl hk);omega
 ·intro k hk
  refine⟨(h1.d2 k hk).1,?_⟩
  rintro (h3|rfl)
  ·exact(h1.d2 k hk).2 h3
  ·have:=hl _ (.inr (.inl hk));omega
 ·intro k hk
  refine⟨?_,(h1.d3 k hk).2⟩
  rintro (h3|rfl)
  ·exact(h1.d3 k hk).1 h3
  ·have:=hl _ (.inr (.inr (.inl hk)));omega
 ·rintro k (h3|rfl)
  ·exact h1.d4 k h3
  ·omega
theorem LX.unbox {kb:Nat}{o:Obj}(L:LX B0 wb xv rv (fun k=>FX k∨k=kb) (fun W=>X W∧W.heap[kb]?=some o) N w) (hc:Closed FX X):LX B0 wb xv rv FX X N w:=by
 obtain⟨bv,qv,lv,tv,mv,dv,ls,ts,ms,ds,its,h,h2⟩:=L
 exact⟨bv,qv,lv,tv,mv,dv,ls,ts,ms,ds,its,⟨h.low,h.wd,h.lists,h.texts,h.bits,h.more.1,hc,fun k hk=>⟨(h.d1 k hk).1,(h.d1 k hk).2.1,fun h3=>(h.d1 k hk).2.2 (.inl h3)⟩,fun k hk=>⟨(h.d2 k hk).1,fun h3=>(h.d2 k hk).2 (.inl h3)⟩,fun k hk=>⟨fun h3=>(h.d3 k hk).1 (.inl h3),(h.d3 k hk).2⟩,fun k hk=>h.d4 k (.inl hk)⟩,h2⟩
theorem LX.reads {iis:List II}{kb g1 c1 g2 c2 k:Nat}{K A B C:Int}{s:ByteArray}{it:II}
  (L:LX B0 wb (.slice (some ⟨g1,0,none⟩) iis.length c1) (.slice (some ⟨g2,0,none⟩) iis.length c2) (fun k=>FX k∨k=kb) (fun W=>IdxP PI B0 (.slice (some ⟨g1,0,none⟩) iis.length c1) (.slice (some ⟨g2,0,none⟩) iis.length c2) iis W∧W.heap[kb]?=some (opBox K A B C s)) N w) (hk:iis[k]?=some it) :
  w.cell? ⟨wb,2,none⟩=some (.slice (some ⟨g1,0,none⟩) iis.length c1)∧w.cell? ⟨wb,3,none⟩=some (.slice (some ⟨g2,0,none⟩) iis.length c2)∧w.cell? ⟨g1,k,none⟩=some (.pointer (some ⟨it.b,0,none⟩))∧w.cell? ⟨g2,k,none⟩=some (.pointer (some ⟨it.q,0,none⟩)) ∧
   w.cell? ⟨kb,0,none⟩=some (.int .i64 K)∧w.cell? ⟨kb,1,none⟩=some (.int .i64 A)∧w.cell? ⟨kb,2,none⟩=some (.int .i64 B)∧w.cell? ⟨kb,3,none⟩=some (.int .i64 C)∧w.cell? ⟨kb,4,none⟩=some (.string s):=by
 obtain⟨bv,qv,lv,tv,mv,dv,ls,ts,ms,ds,its,h,h2⟩:=L
 have c2':=h.wd.cell 2
 have c3':=h.wd.cell 3
 simp only[List.getElem?_toArray,List.getElem?_cons_succ,List.getElem?_cons_zero]at c2' c3'
 have hb:=h.more.2
 refine⟨c2',c3',own_cell h.more.1.own (by rw[List.getElem?_map,hk];rfl),own_cell h.more.1.ref (by rw[List.getElem?_map,hk];rfl),?_,?_,?_,?_,?_⟩
 all_goals (simp[World.cell?,hb,opBox])
theorem LX.at_ {iis:List II}{kb:Nat}{o:Obj}{it:II}(L:LX B0 wb xv rv (fun k=>FX k∨k=kb) (fun W=>IdxP PI B0 xv rv iis W∧W.heap[kb]?=some o) N w) (hk:it∈iis):it.At PI w:=by
 obtain⟨bv,qv,lv,tv,mv,dv,ls,ts,ms,ds,its,h,h2⟩:=L
 exact h.more.1.all it hk
end
theorem asks_any {PI:Lay}(hI:PI.Ok) (hS:PI.Says) (B0 wb:Nat) (xv rv:Value) (FX:Nat→Prop) (X:World→Prop) (N:Nat) (w:World) (L:LX B0 wb xv rv FX X N w) (hB:B0≤w.heap.size) (hN:N≤5000000) (it:II) (hit:it.At PI w) (K A B C:Int) (s:ByteArray)
  (hK1:9≤K) (hK2:K≤12) (hs:s.size≤1099511627776) (hA:-9223372036854775808≤A∧A≤9223372036854775807) (hB2:-9223372036854775808≤B∧B≤9223372036854775807) :
  Calls Tryz.prog 26 #[.pointer (some ⟨wb,0,none⟩),.pointer (some ⟨it.b,0,none⟩),.pointer (some ⟨it.q,0,none⟩),.agg #[.int .i64 K,.int .i64 A,.int .i64 B,.int .i64 C,.string s]] w fun e w'=>e=.returned (.bool true)∧LX B0 wb xv rv FX X (N+4) w'∧Below B0 w w':=by
 have hcs:K=9∨K=10∨K=11∨K=12:=by omega
 rcases hcs with e|e|e|e
 ·subst e;exact(asks_len hI hS B0 wb xv rv FX X N w L hB it hit A B C s).mono fun e w' ⟨h1,h2,h3⟩=>⟨h1,h2.mono (by omega),h3⟩
 ·subst e;exact(asks_count hI hS B0 wb xv rv FX X N w L hB it hit A B C s hs).mono fun e w' ⟨h1,h2,h3⟩=>⟨h1,h2.mono (by omega),h3⟩
 ·subst e;exact asks_locate hI hS B0 wb xv rv FX X N w L hB hN it hit A B C s hs
 ·subst e;exact(asks_extract hI hS B0 wb xv rv FX X N w L hB it hit A B C s hA hB2).mono fun e w' ⟨h1,h2,h3⟩=>⟨h1,h2.mono (by omega),h3⟩
set_option maxRecDepth 100000 in
set_option maxHeartbeats 4000000 in
theorem step3_ask (PI:Lay) (hI:PI.Ok) (hS:PI.Says) (B0 wb N:Nat) (w:World) (L:LY PI B0 wb N w) (hB:B0≤w.heap.size) (hN:N≤5000000) (K A B C:Int) (s:ByteArray) (hK1:9≤K) (hK2:K≤12)
  (hs:s.size≤1099511627776) (hC1:-9223372036854775808≤C) (hC2:C≤9223372036854775807) (hA:-9223372036854775808≤A∧A≤9223372036854775807) (hB2:-9223372036854775808≤B∧B≤9223372036854775807) :
  Calls Tryz.prog 10 #[.pointer (some ⟨wb,0,none⟩),.agg #[.int .i64 K,.int .i64 A,.int .i64 B,.int .i64 C,.string s]] w fun e w'=>e=.returned (.bool true)∧LY PI B0 wb (N+4) w'∧Below B0 w w':=by
 have d1:decide ((1:Int)≤K)=true:=decide_eq_true (by omega)
 have d1':decide (K≤3)=false:=decide_eq_false (by omega)
 have d2:(K == 7)=false:=by simp;omega
 have d3:decide ((4:Int)≤K)=true:=decide_eq_true (by omega)
 have d3':decide (K≤6)=false:=decide_eq_false (by omega)
 have d4:(K == 8)=false:=by simp;omega
 have d5:(K == 14)=false:=by simp;omega
 have d6:decide (K<1)=false:=decide_eq_false (by omega)
 have d7:decide ((15:Int)<K)=false:=decide_eq_false (by omega)
 have d8:decide (K≤12)=true:=decide_eq_true (by omega)
 obtain⟨xv,rv,iis,hLX,hil⟩:=L
 have HLB:=hLX.box (opBox K A B C s)
 have hW:Below B0 w (w.alloc (opBox K A B C s)):=(Below.refl _ _).alloc (by omega) _
 obtain⟨bv,qv,lv,tv,mv,dv,ls,ts,ms,ds,its,h1,h2⟩:=hLX
 have hO:=h1.more.own
 have hRf:=h1.more.ref
 have HCL:Hid (Closed (FI xv rv iis) (IdxP PI B0 xv rv iis)):=h1.cl
 by_cases hz:iis.length=0
 ·obtain⟨ba,bc,rfl⟩:=own_slice hO
  rw[hz]at *
  have HL2:Hid (LY PI B0 wb (N+4) (w.alloc (opBox K A B C s))):=(LY.mono ⟨_,rv,iis,HLB.unbox HCL.out,by omega⟩ (by omega))
  obtain⟨bv,qv,lv,tv,mv,dv,ls,ts,ms,ds,its,h1',h2'⟩:=HLB
  have c2:=h1'.wd.cell 2
  simp only[List.getElem?_toArray,List.getElem?_cons_succ,List.getElem?_cons_zero]at c2
  clear h1 h2 h1' h2' hO hRf HCL
  go_enter Tryz.func10,Tryz.ntmps10
  go_wp2
  go_ret
  exact⟨rfl,HL2.out,hW⟩
 ·obtain⟨g1,bc,hx,_⟩:=hO.form (by omega)
  obtain⟨g2,qc,hr,_⟩:=hRf.form (by omega)
  subst hx hr
  have hpk:=fun W=>lawpick_any C (iis.length:Nat) W hC1 hC2 (by omega) (by omega)
  have hklt:=pickV_lt C (n:=iis.length) (by omega)
  generalize hkk:pickV C iis.length=k at *
  obtain⟨it,hit⟩:∃ it,iis[k]?=some it:=⟨_,List.getElem?_eq_getElem hklt⟩
  have HIT:Hid (iis[k]?=some it):=hit
  have d9:((iis.length:Int) == 0)=false:=beq_eq_false_iff_ne.2 (by omega)
  have d10:(iis.length == 0)=false:=beq_eq_false_iff_ne.2 hz
  have hki:(k:Int)<(iis.length:Int):=by omega
  have hil2:iis.length≤5000000:=by omega
  have HN0:Hid (iis.length≤N):=hil
  have HLB':Hid (LX B0 wb (.slice (some ⟨g1,0,none⟩) iis.length bc) (.slice (some ⟨g2,0,none⟩) iis.length qc) (fun k=>FI (.slice (some ⟨g1,0,none⟩) iis.length bc) (.slice (some ⟨g2,0,none⟩) iis.length qc) iis k∨k=w.heap.size)
   (fun W=>IdxP PI B0 (.slice (some ⟨g1,0,none⟩) iis.length bc) (.slice (some ⟨g2,0,none⟩) iis.length qc) iis W∧W.heap[w.heap.size]?=some (opBox K A B C s)) N (w.alloc (opBox K A B C s))):=HLB
  have HW:Hid (Below B0 w (w.alloc (opBox K A B C s))):=hW
  have HS0:Hid (w.heap.size≤(w.alloc (opBox K A B C s)).heap.size):=by show _≤_;simp
  obtain⟨r2,r3,r4,r5,b0,b1,b2,b3,b4⟩:=HLB.reads hit
  clear h1 h2 hO hRf hit hil HLB hW
  go_enter Tryz.func10,Tryz.ntmps10
  go_wp2
  obtain⟨W0,hW0⟩:∃ W0,W0=w.alloc (opBox K A B C s):=⟨_,rfl⟩
  rw[← hW0]at HLB' HW HS0 r2 r3 r4 r5 b0 b1 b2 b3 b4 ⊢
  clear hW0
  go_quiet ((go_at_call 25;exact Calls.quiet_of_same (hpk _)))
  have hb1:Below W0.heap.size W0 (W0.drewN nq):=below_drewN (Below.refl _ _) nq
  have HL1:Hid (LX B0 wb (.slice (some ⟨g1,0,none⟩) iis.length bc) (.slice (some ⟨g2,0,none⟩) iis.length qc) (fun k=>FI (.slice (some ⟨g1,0,none⟩) iis.length bc) (.slice (some ⟨g2,0,none⟩) iis.length qc) iis k∨k=w.heap.size) (fun W=>IdxP PI B0 (.slice (some ⟨g1,0,none⟩) iis.length bc) (.slice (some ⟨g2,0,none⟩) iis.length qc) iis W∧W.heap[w.heap.size]?=some (opBox K A B C s)) N (W0.drewN nq).drew):=HLB'.out.below (below_drew hb1)
  have HB1:Hid (Below B0 w (W0.drewN nq).drew):=below_drew (HW.out.trans (hb1.mono (by have:=HS0.out;omega)))
  have e0:(W0.drewN nq).cell? ⟨w.heap.size,0,none⟩=some (.int .i64 K):=b0
  have HAK:Hid (Calls Tryz.prog 26 #[.pointer (some ⟨wb,0,none⟩),.pointer (some ⟨it.b,0,none⟩),.pointer (some ⟨it.q,0,none⟩),.agg #[.int .i64 K,.int .i64 A,.int .i64 B,.int .i64 C,.string s]] (W0.drewN nq).drew fun e w'=>e=.returned (.bool true)∧LX B0 wb (.slice (some ⟨g1,0,none⟩) iis.length bc) (.slice (some ⟨g2,0,none⟩) iis.length qc) (fun k=>FI (.slice (some ⟨g1,0,none⟩) iis.length bc) (.slice (some ⟨g2,0,none⟩) iis.length qc) iis k∨k=w.heap.size) (fun W=>IdxP PI B0 (.slice (some ⟨g1,0,none⟩) iis.length bc) (.slice (some ⟨g2,0,none⟩) iis.length qc) iis W∧W.heap[w.heap.size]?=some (opBox K A B C s)) (N+4) w'∧Below B0 w w'∧(w'.cell? ⟨wb,2,none⟩=some (.slice (some ⟨g1,0,none⟩) iis.length bc)∧w'.cell? ⟨wb,3,none⟩=some (.slice (some ⟨g2,0,none⟩) iis.length qc)∧w'.cell? ⟨g1,k,none⟩=some (.pointer (some ⟨it.b,0,none⟩))∧w'.cell? ⟨g2,k,none⟩=some (.pointer (some ⟨it.q,0,none⟩))∧w'.cell? ⟨w.heap.size,0,none⟩=some (.int .i64 K)∧w'.cell? ⟨w.heap.size,1,none⟩=some (.int .i64 A)∧w'.cell? ⟨w.heap.size,2,none⟩=some (.int .i64 B)∧w'.cell? ⟨w.heap.size,3,none⟩=some (.int .i64 C)∧w'.cell? ⟨w.heap.size,4,none⟩=some (.string s))) :=
   (asks_any hI hS B0 wb _ _ _ _ N _ HL1.out (Nat.le_trans hB (Nat.le_trans HS0.out hb1.size)) hN it (HL1.out.at_ (List.mem_of_getElem? HIT.out)) K A B C s hK1 hK2 hs hA hB2).mono fun e w' ⟨h1,h2,h3⟩=>⟨h1,h2,HB1.out.trans h3,h2.reads HIT.out⟩
  have s0:(W0.drewN nq).drew.cell? ⟨wb,2,none⟩=some (.slice (some ⟨g1,0,none⟩) iis.length bc)∧(W0.drewN nq).drew.cell? ⟨wb,3,none⟩=some (.slice (some ⟨g2,0,none⟩) iis.length qc)∧(W0.drewN nq).drew.cell? ⟨g1,k,none⟩=some (.pointer (some ⟨it.b,0,none⟩))∧(W0.drewN nq).drew.cell? ⟨g2,k,none⟩=some (.pointer (some ⟨it.q,0,none⟩))∧(W0.drewN nq).drew.cell? ⟨w.heap.size,0,none⟩=some (.int .i64 K)∧(W0.drewN nq).drew.cell? ⟨w.heap.size,1,none⟩=some (.int .i64 A)∧(W0.drewN nq).drew.cell? ⟨w.heap.size,2,none⟩=some (.int .i64 B)∧(W0.drewN nq).drew.cell? ⟨w.heap.size,3,none⟩=some (.int .i64 C)∧(W0.drewN nq).drew.cell? ⟨w.heap.size,4,none⟩=some (.string s):=HL1.out.reads HIT.out
  clear hpk hkk r2 r3 r4 r5 b0 b1 b2 b3 b4 HLB' HL1 hb1
  generalize W0.drewN nq=W1 at *
  go_wp2_with fail
  go_region_held3 (fun w'=>w'.cell? ⟨wb,2,none⟩=some (.slice (some ⟨g1,0,none⟩) iis.length bc)∧w'.cell? ⟨wb,3,none⟩=some (.slice (some ⟨g2,0,none⟩) iis.length qc)∧w'.cell? ⟨g1,k,none⟩=some (.pointer (some ⟨it.b,0,none⟩))∧w'.cell? ⟨g2,k,none⟩=some (.pointer (some ⟨it.q,0,none⟩))∧w'.cell? ⟨w.heap.size,0,none⟩=some (.int .i64 K)∧w'.cell? ⟨w.heap.size,1,none⟩=some (.int .i64 A)∧w'.cell? ⟨w.heap.size,2,none⟩=some (.int .i64 B)∧w'.cell? ⟨w.heap.size,3,none⟩=some (.int .i64 C)∧w'.cell? ⟨w.heap.size,4,none⟩=some (.string s)) (assumption) ((go_at_call 26;refine HAK.out.mono ?_;rintro e w2 ⟨rfl,hL2,hb2,hS2⟩))
  have HL2:Hid (LY PI B0 wb (N+4) w2):=⟨_,_,iis,hL2.unbox HCL.out,by have:=HN0.out;omega⟩
  have HB2:Hid (Below B0 w w2):=hb2
  clear hL2 hb2 hS2 s0 e0 HAK
  go_wp2
  go_ret
  exact⟨rfl,HL2.out,HB2.out⟩
end Go.Proofs.YtopihgmemnokkaaGreat
namespace Go.Proofs.YtopihgmemnokkaaGreat
open Go.RowKit
theorem LY.lx {PI:Lay}{B0 wb N:Nat}{w:World}(h:LY PI B0 wb N w):∃ xv rv iis,LX B0 wb xv rv (FI xv rv iis) (IdxP PI B0 xv rv iis) N w∧iis.length≤N:=h
set_option maxRecDepth 100000 in
set_option maxHeartbeats 4000000 in
theorem step3_any (PI:Lay) (hI:PI.Ok) (hS:PI.Says) (B0 wb N:Nat) (w:World) (L:LY PI B0 wb N w) (hB:B0≤w.heap.size) (hN:N≤5000000) (K A B C:Int) (s:ByteArray) (hK:K≤12)
  (hs:s.size≤1099511627776) (hC:-9223372036854775808≤C∧C≤9223372036854775807) (hA:-9223372036854775808≤A∧A≤9223372036854775807) (hB2:-9223372036854775808≤B∧B≤9223372036854775807) :
  Calls Tryz.prog 10 #[.pointer (some ⟨wb,0,none⟩),.agg #[.int .i64 K,.int .i64 A,.int .i64 B,.int .i64 C,.string s]] w fun e w'=>e=.returned (.bool true)∧LY PI B0 wb (N+4) w'∧Below B0 w w':=by
 by_cases hK9:9≤K
 ·exact step3_ask PI hI hS B0 wb N w L hB hN K A B C s hK9 hK hs hC.1 hC.2 hA hB2
 have hW:Below B0 w (w.alloc (opBox K A B C s)):=(Below.refl _ _).alloc (by omega) _
 have hLY:LY PI B0 wb N (w.alloc (opBox K A B C s)):=L.below ((Below.refl _ _).alloc (Nat.le_refl _) _)
 have hsz:(w.alloc (opBox K A B C s)).heap.size=w.heap.size+1:=by simp
 by_cases hK8:K=8
 ·subst hK8
  clear L
  have HLY:Hid (LY PI B0 wb N (w.alloc (opBox 8 A B C s))):=hLY
  clear hLY
  go_enter Tryz.func10,Tryz.ntmps10
  go_wp2_with fail
  refine(builds_any PI hI hS B0 wb N _ HLY.out (by omega) hN s A hs hA.1 hA.2).mono ?_
  rintro e w1 ⟨rfl,hL1,hB1⟩
  have HL1:Hid (LY PI B0 wb (N+1) w1):=hL1
  clear hL1
  go_wp2
  go_ret
  exact⟨rfl,HL1.out.mono (by omega),hW.trans hB1⟩
 obtain⟨xv,rv,iis,hL0,hil⟩:=hLY
 clear L
 by_cases hlow:K<1
 ·have d1:decide ((1:Int)≤K)=false:=decide_eq_false (by omega)
  have d2:(K == 7)=false:=by simp;omega
  have d3:decide ((4:Int)≤K)=false:=decide_eq_false (by omega)
  have d4:(K == 8)=false:=by simp;omega
  have d5:(K == 14)=false:=by simp;omega
  have d6:decide (K<1)=true:=decide_eq_true hlow
  have HL:Hid (LY PI B0 wb N (w.alloc (opBox K A B C s))):=⟨xv,rv,iis,hL0,hil⟩
  obtain⟨bv,qv,lv,tv,mv,dv,ls,ts,ms,ds,its,h1,h2⟩:=hL0
  obtain⟨xa,xc,rfl⟩:=own_slice h1.more.own
  have c2:=h1.wd.cell 2
  simp only[List.getElem?_toArray,List.getElem?_cons_succ,List.getElem?_cons_zero]at c2
  clear h1 h2
  by_cases hz:iis.length=0
  ·rw[hz]at c2
   go_enter Tryz.func10,Tryz.ntmps10
   go_wp2
   go_ret
   exact⟨rfl,HL.out.mono (by omega),hW⟩
  ·have d9:((iis.length:Int) == 0)=false:=beq_eq_false_iff_ne.2 (by omega)
   have d10:(iis.length == 0)=false:=beq_eq_false_iff_ne.2 hz
   go_enter Tryz.func10,Tryz.ntmps10
   go_wp2
   go_ret
   exact⟨rfl,HL.out.mono (by omega),hW⟩
 ·have hcs:K=1∨K=2∨K=3∨K=4∨K=5∨K=6∨K=7:=by omega
  rcases hcs with e|e|e|e|e|e|e
  ·subst e
   go_enter Tryz.func10,Tryz.ntmps10
   go_wp2_with fail
   refine(turns2_suffixes B0 wb _ _ _ _ N _ hL0 (by omega) hN A B C s).mono ?_
   rintro e w1 ⟨rfl,hL1,hB1⟩
   have HL:Hid (LY PI B0 wb (N+4) w1):=⟨xv,rv,iis,hL1,by omega⟩
   clear hL1 hL0
   go_wp2
   go_ret
   exact⟨rfl,HL.out,hW.trans hB1⟩
  ·subst e
   go_enter Tryz.func10,Tryz.ntmps10
   go_wp2_with fail
   refine(turns2_transform B0 wb _ _ _ _ N _ hL0 (by omega) A B C s).mono ?_
   rintro e w1 ⟨rfl,hL1,hB1⟩
   have HL:Hid (LY PI B0 wb (N+4) w1):=⟨xv,rv,iis,hL1.mono (by omega),by omega⟩
   clear hL1 hL0
   go_wp2
   go_ret
   exact⟨rfl,HL.out,hW.trans hB1⟩
  ·subst e
   go_enter Tryz.func10,Tryz.ntmps10
   go_wp2_with fail
   refine(turns2_restore B0 wb _ _ _ _ N _ hL0 (by omega) A B C s).mono ?_
   rintro e w1 ⟨rfl,hL1,hB1⟩
   have HL:Hid (LY PI B0 wb (N+4) w1):=⟨xv,rv,iis,hL1.mono (by omega),by omega⟩
   clear hL1 hL0
   go_wp2
   go_ret
   exact⟨rfl,HL.out,hW.trans hB1⟩
  ·subst e
   go_enter Tryz.func10,Tryz.ntmps10
   go_wp2_with fail
   refine(bits_new B0 wb _ _ _ _ N _ hL0 (by omega) hN A B C s hs).mono ?_
   rintro e w1 ⟨rfl,hL1,hB1⟩
   have HL:Hid (LY PI B0 wb (N+4) w1):=⟨xv,rv,iis,hL1.mono (by omega),by omega⟩
   clear hL1 hL0
   go_wp2
   go_ret
   exact⟨rfl,HL.out,hW.trans hB1⟩
  ·subst e
   go_enter Tryz.func10,Tryz.ntmps10
   go_wp2_with fail
   refine(bits_rank B0 wb _ _ _ _ N _ hL0 (by omega) hN A B C s hC.1 hC.2).mono ?_
   rintro e w1 ⟨rfl,hL1,hB1⟩
   have HL:Hid (LY PI B0 wb (N+4) w1):=⟨xv,rv,iis,hL1.mono (by omega),by omega⟩
   clear hL1 hL0
   go_wp2
   go_ret
   exact⟨rfl,HL.out,hW.trans hB1⟩
  ·subst e
   go_enter Tryz.func10,Tryz.ntmps10
   go_wp2_with fail
   refine(bits_select B0 wb _ _ _ _ N _ hL0 (by omega) hN A B C s hC.1 hC.2 hA.1 hA.2).mono ?_
   rintro e w1 ⟨rfl,hL1,hB1⟩
   have HL:Hid (LY PI B0 wb (N+4) w1):=⟨xv,rv,iis,hL1.mono (by omega),by omega⟩
   clear hL1 hL0
   go_wp2
   go_ret
   exact⟨rfl,HL.out,hW.trans hB1⟩
  ·subst e
   go_enter Tryz.func10,Tryz.ntmps10
   go_wp2_with fail
   refine(turns2_codes B0 wb _ _ _ _ N _ hL0 (by omega) hN A B C s).mono ?_
   rintro e w1 ⟨rfl,hL1,hB1⟩
   have HL:Hid (LY PI B0 wb (N+4) w1):=⟨xv,rv,iis,hL1,by omega⟩
   clear hL1 hL0
   go_wp2
   go_ret
   exact⟨rfl,HL.out,hW.trans hB1⟩
def Steps (PI:Lay) (h:Int):Prop:=∀ (B0 wb N:Nat) (w:World),LY PI B0 wb N w→B0≤w.heap.size→N≤5000000→∀ (K A B C:Int) (s:ByteArray),K≤h→s.size≤1099511627776 →
 (-9223372036854775808≤C∧C≤9223372036854775807)→(-9223372036854775808≤A∧A≤9223372036854775807)→(-9223372036854775808≤B∧B≤9223372036854775807) →
 Calls Tryz.prog 10 #[.pointer (some ⟨wb,0,none⟩),.agg #[.int .i64 K,.int .i64 A,.int .i64 B,.int .i64 C,.string s]] w fun e w'=>e=.returned (.bool true)∧LY PI B0 wb (N+4) w'∧Below B0 w w'
set_option maxRecDepth 100000 in
set_option maxHeartbeats 2000000 in
theorem play3_any (PI:Lay) (h:Int) (hST:Steps PI h) (B0 wb N:Nat) (v:Value) (n:Nat) (w:World) (L:LY PI B0 wb N w) (hB:B0≤w.heap.size) (hS:Script2 w v n) (hlow:∀ a,v.ownBlock=some a→0<n→a<B0) (hN:N+4*n≤4900000) :
  Calls Tryz.prog 11 #[.pointer (some ⟨wb,0,none⟩),v,.int .i64 h] w fun e w'=>e=.returned (.bool true)∧Below B0 w w':=by
 obtain⟨va,vc,hv⟩:∃ va vc,v=.slice va n vc:=by
  rcases hS.of with⟨rfl,rfl⟩|⟨a,cap,rfl,_⟩
  ·exact⟨_,_,rfl⟩
  ·exact⟨_,_,rfl⟩
 subst hv
 go_enter Tryz.func11,Tryz.ntmps11
 go_wp2
 go_loopw [7,8,9] (fun i _ _ wr=>∃ p:Nat,p≤n∧i=.int .i64 p∧Hid (LY PI B0 wb (N+4*p) wr)∧Below B0 w wr) (fun i _ _ _=>n-(intOf i).toNat)
 case atStart=>exact⟨0,by omega,rfl,L,Below.refl _ _⟩
 case round =>
  clear L
  obtain⟨p,hp,rfl,L,hb⟩:=hrel
  have hz:=hb.size
  by_cases hlt:p<n
  ·obtain⟨a,rfl,hab,K,A,B,C,s,k0,k1,k2,k3,k4,hss,hCC,hAA,hBB⟩:∃ a,va=some a∧a.block<B0∧∃ (K A B C:Int) (s:ByteArray),w.cell? (a.add (p*5))=some (.int .i64 K)∧w.cell? ((a.add (p*5)).add 1)=some (.int .i64 A)∧w.cell? ((a.add (p*5)).add 2)=some (.int .i64 B)∧w.cell? ((a.add (p*5)).add 3)=some (.int .i64 C)∧w.cell? ((a.add (p*5)).add 4)=some (.string s) ∧
     s.size≤1099511627776∧(-9223372036854775808≤C∧C≤9223372036854775807)∧(-9223372036854775808≤A∧A≤9223372036854775807)∧(-9223372036854775808≤B∧B≤9223372036854775807):=by
    rcases hS.of with⟨_,h0⟩|⟨a,cap,e1,_,h1⟩
    ·omega
    ·injection e1 with e1
     subst e1
     exact⟨a,rfl,hlow a.block rfl (by omega),h1 p hlt⟩
   have c0:=(hb.cell (p:=a.add (p*5)) (by rw[addBlock];exact hab)).trans k0
   have c1:=(hb.cell (p:=(a.add (p*5)).add 1) (by rw[addBlock,addBlock];exact hab)).trans k1
   have c2:=(hb.cell (p:=(a.add (p*5)).add 2) (by rw[addBlock,addBlock];exact hab)).trans k2
   have c3:=(hb.cell (p:=(a.add (p*5)).add 3) (by rw[addBlock,addBlock];exact hab)).trans k3
   have c4:=(hb.cell (p:=(a.add (p*5)).add 4) (by rw[addBlock,addBlock];exact hab)).trans k4
   have HSS:Hid (s.size≤1099511627776):=hss
   have HCC:Hid (-9223372036854775808≤C∧C≤9223372036854775807):=hCC
   have HAA:Hid (-9223372036854775808≤A∧A≤9223372036854775807):=hAA
   have HBB:Hid (-9223372036854775808≤B∧B≤9223372036854775807):=hBB
   clear k0 k1 k2 k3 k4 hss hCC hAA hBB
   rw[addPos _ (by decide)]at c1 c2 c3 c4
   by_cases hK:h<K
   ·have dk:decide (h<K)=true:=decide_eq_true hK
    go_wp2
    exact⟨⟨p+1,by omega,by go_num,L.out.mono (by omega),hb⟩,by simp[intOf];omega⟩
   ·have dk:decide (h<K)=false:=decide_eq_false hK
    have hK3:K≤h:=by omega
    go_wp2_with fail
    refine(hST B0 wb (N+4*p) wr L.out (by omega) (by omega) K A B C s hK3 HSS.out HCC.out HAA.out HBB.out).mono ?_
    rintro e w1 ⟨rfl,L1,hb1⟩
    have hz1:=hb1.size
    clear c0 c1 c2 c3 c4
    go_wp2_with fail
    obtain⟨xv,rv,iis,⟨bv,qv,lv,tv,mv,dv,ls,ts,ms,ds,its,h1,h2,h3,h4⟩,h5⟩:=L1
    refine(kept2_any B0 wb bv qv _ rv lv tv mv dv ls ts ms ds w1 h1.wd h1.lists h1.texts (by omega) (by omega)).mono ?_
    rintro e w2 ⟨rfl,hst⟩
    have L2:Hid (LY PI B0 wb (N+4*p+4) w2):=LY.below ⟨xv,rv,iis,⟨bv,qv,lv,tv,mv,dv,ls,ts,ms,ds,its,h1,h2,h3,h4⟩,h5⟩ (still_below hst _ (Nat.le_refl _))
    have hb2:Below B0 w w2:=(hb.trans hb1).trans (still_below hst _ (by omega))
    clear h1 h2 h3 h4 h5 hst
    go_wp2
    exact⟨⟨p+1,by omega,by go_num,L2.out.mono (by omega),hb2⟩,by simp[intOf];omega⟩
  ·have hp':p=n:=by omega
   subst hp'
   go_wp2
   go_ret
   exact⟨rfl,hb⟩
end Go.Proofs.YtopihgmemnokkaaGreat
namespace Go.Proofs.YtopihgmemnokkaaGreat
open Go.RowKit
set_option maxRecDepth 100000 in
set_option maxHeartbeats 2000000 in
theorem plays_any (PI:Lay) (hI:PI.Ok) (hS:PI.Says) (h:Int) (hST:Steps PI h) (t:ByteArray) (rate:Int) (v:Value) (n:Nat) (w:World) (hSc:Script2 w v n) (hlow:∀ a,v.ownBlock=some a→0<n→a<w.heap.size) (hn:n≤1048576)
  (ht:t.size≤1099511627776) (hr1:-9223372036854775808≤rate) (hr2:rate≤9223372036854775807) :
  Calls Tryz.prog 12 #[.string t,.int .i64 rate,v,.int .i64 h] w fun e w'=>e=.returned (.bool true)∧Below w.heap.size w w':=by
 have L0:Hid (LY PI w.heap.size w.heap.size 0 (w.alloc (.cells #[nilW,nilW,nilW,nilW,nilW,nilW,nilW,nilW] 33))):=ly_new hI w
 have hb0:Below w.heap.size w (w.alloc (.cells #[nilW,nilW,nilW,nilW,nilW,nilW,nilW,nilW] 33)):=(Below.refl _ _).alloc (Nat.le_refl _) _
 go_enter Tryz.func12,Tryz.ntmps12
 go_wp2_with fail
 refine(builds_any PI hI hS w.heap.size w.heap.size 0 _ L0.out (by simp) (by omega) t rate ht hr1 hr2).mono ?_
 rintro e w1 ⟨rfl,L1,hb1⟩
 have hb2:=hb0.trans hb1
 have hz:=hb2.size
 have HL1:Hid (LY PI w.heap.size w.heap.size (0+1) w1):=L1
 clear L1
 go_wp2_with fail
 refine(play3_any PI h hST w.heap.size w.heap.size (0+1) v n w1 HL1.out hz (hSc.below hb2 hlow) hlow (by omega)).mono ?_
 rintro e w2 ⟨rfl,hb3⟩
 go_wp2
 go_ret
 exact⟨rfl,hb2.trans hb3⟩
end Go.Proofs.YtopihgmemnokkaaGreat
namespace Go.Proofs.YtopihgmemnokkaaGreat
open Go.RowKit
set_option maxRecDepth 100000 in
set_option maxHeartbeats 2000000 in
theorem reads_any (PI:Lay) (hI:PI.Ok) (hS:PI.Says4) (B0 wb N:Nat) (w:World) (L:LY PI B0 wb N w) (hB:B0≤w.heap.size) (hN:N≤5000000) (d:ByteArray) (hd:d.size≤1099511627776) :
  Calls Tryz.prog 24 #[.pointer (some ⟨wb,0,none⟩),.string d] w fun e w'=>e=.returned (.bool true)∧LY PI B0 wb (N+1) w'∧Below B0 w w':=by
 have HL:Hid (LY PI B0 wb N w):=L
 have HU:Hid (Calls Tryz.prog 20 #[.string d] w fun e w' =>
  ((∃ t r b,Mar d t r∧e=.returned (.tuple #[.pointer (some ⟨b,0,none⟩),.int .i64 0])∧PI w.heap.size w'.heap.size b t (r:Nat) w')∨((∀ t r,¬ Mar d t r)∧e=.returned (.tuple #[.pointer none,.int .i64 4])))∧Below w.heap.size w w'):=hS.unmarshal d w hd
 clear L
 go_enter Tryz.func24,Tryz.ntmps24
 go_wp2_with fail
 refine HU.out.mono ?_
 rintro e w1 ⟨(⟨t,r,b,hM,rfl,hP⟩|⟨hno,rfl⟩),hb1⟩
 ·have HB1:Hid (Below w.heap.size w w1):=hb1
  have HMM:Hid (Mar d t r):=hM
  have HP:Hid (PI w.heap.size w1.heap.size b t (r:Nat) w1):=hP
  clear hb1 hM hP HU
  go_wp2_with fail
  refine(refUnmarshal_any d w1 hd).mono ?_
  rintro e w2 ⟨(⟨t',r',q,hM',rfl,hq,hql⟩|⟨h2,_⟩),hb2⟩
  ·obtain⟨rfl,rfl⟩:=HMM.out.uniq hM'
   have HB2:Hid (Below w.heap.size w w2):=HB1.out.trans (hb2.mono HB1.out.size)
   have HP2:Hid (PI w.heap.size w2.heap.size b t (r:Nat) w2):=hI.more _ _ _ _ _ _ _ (hI.keep _ _ _ _ _ _ _ _ HP.out (Kept.of_below hb2 (Nat.le_refl _) (fun _=>False)) (fun _ _ _ h=>h)) hb2.size (Nat.le_refl _)
   have HQ:Hid (IAt w2 q t (r:Nat)):=hq
   have HQL:Hid (w.heap.size≤q):=Nat.le_trans HB1.out.size hql
   clear hq hql hb2 hM' HP
   go_wp2_with fail
   refine(joins_new PI hI B0 wb N w w2 HL.out HB2.out hB hN b q t (r:Nat) HP2.out HQ.out HQL.out HMM.out.1).mono ?_
   rintro e w3 ⟨rfl,hL3,hb3⟩
   have HL3:Hid (LY PI B0 wb (N+1) w3):=hL3
   have HB3:Hid (Below B0 w w3):=(HB2.out.mono hB).trans hb3
   clear hL3 hb3
   go_wp2_with fail
   refine(num_any 0 _).mono ?_
   rintro e w4 ⟨rfl,hw4⟩
   subst hw4
   go_wp2
   go_ret
   exact⟨rfl,HL3.out,HB3.out⟩
  ·exact absurd HMM.out (h2 t r)
 ·have HB1:Hid (Below w.heap.size w w1):=hb1
  have HNO:Hid (∀ t r,¬ Mar d t r):=hno
  clear hb1 hno HU
  go_wp2_with fail
  refine(refUnmarshal_any d w1 hd).mono ?_
  rintro e w2 ⟨(⟨t',r',q,hM',_⟩|⟨_,rfl⟩),hb2⟩
  ·exact absurd hM' (HNO.out t' r')
  ·have HB2:Hid (Below w.heap.size w w2):=HB1.out.trans (hb2.mono HB1.out.size)
   clear hb2
   go_wp2_with fail
   refine(joins_nil wb _).mono ?_
   rintro e w3 ⟨rfl,hw3⟩
   subst hw3
   go_wp2_with fail
   refine(num_any 4 _).mono ?_
   rintro e w4 ⟨rfl,hw4⟩
   subst hw4
   go_wp2
   go_ret
   exact⟨rfl,(HL.out.below HB2.out).mono (by omega),HB2.out.mono hB⟩
theorem one_byte_at (w:World) (b:Nat) (z:Int) (h1:w.heap[b]?=some (.cells #[.int .u8 z] 5 (0,0))):(convert 55 9 (.slice (some ⟨b,0,none⟩) 1 1)).run Tryz.prog w=.ok (.string (strOfNums [z])) w :=
 run_convert_bytes_arg (P:=Tryz.prog) w 55 5 Tryz.underlying55 Tryz.underlying5 b 0 1 1 [z] rfl (by
  intro i hi
  rw[Nat.zero_add]
  unfold World.cell?
  rw[h1]
  have hi2:i<1:=by simpa using hi
  match i,hi2 with
  | 0,_=>rfl) 9 Tryz.underlying9
set_option maxRecDepth 100000 in
set_option maxHeartbeats 4000000 in
theorem bent_any (s:ByteArray) (a m:Int) (w:World) (hs:s.size≤10000000) (ha1:-9223372036854775808≤a) (ha2:a≤9223372036854775807) :
  Calls Tryz.prog 66 #[.string s,.int .i64 a,.int .i64 m] w fun e w'=>∃ x:ByteArray,e=.returned (.string x)∧x.size≤20000000∧Below w.heap.size w w':=by
 by_cases h0:s.size=0
 ·have e1:s.toList.isEmpty=true:=by rw[toList_isEmpty];simp[h0]
  go_enter Tryz.func66,Tryz.ntmps66
  go_wp2
  go_ret
  exact⟨s,rfl,by omega,Below.refl _ _⟩
 ·have e1:s.toList.isEmpty=false:=by rw[toList_isEmpty];simp[h0]
  by_cases hm:m=0
  ·have e2:(m == 0)=true:=by simp[hm]
   clear hm
   go_enter Tryz.func66,Tryz.ntmps66
   go_wp2
   go_ret
   exact⟨s,rfl,by omega,Below.refl _ _⟩
  ·have e2:(m == 0)=false:=beq_eq_false_iff_ne.2 hm
   have hpk:=fun W=>lawpick_any a (s.size:Nat) W ha1 ha2 (by omega) (by omega)
   have hklt:=pickV_lt a (n:=s.size) (by omega)
   generalize hkk:pickV a s.size=k at *
   clear hkk hm
   have hki:(k:Int)<(s.size:Int):=by omega
   have HPK:Hid (∀ W,Calls Tryz.prog 25 #[.int .i64 a,.int .i64 (s.size:Nat)] W fun e w'=>e=.returned (.int .i64 (k:Nat))∧w'=W):=hpk
   clear hpk
   go_enter Tryz.func66,Tryz.ntmps66
   go_wp2_with fail
   refine(HPK.out _).mono ?_
   rintro e w1 ⟨rfl,hw1⟩
   have hw1:=hw1.symm
   subst hw1
   have k1:((k:Int)+1).toNat=k+1:=by omega
   have k2:(0:Int)≤(k:Int)+1:=by omega
   have k3:(k:Int)+1≤(s.size:Int):=by omega
   have k4:k+1≤s.size:=by omega
   have k5:(k:Int)≤(s.size:Int):=by omega
   have k6:k≤s.size:=by omega
   have wr1:IntKind.i64.wrap ((k:Int)+1)=(k:Int)+1:=by simp[IntKind.wrap,IntKind.bits,IntKind.signed];omega
   have z1:(s.extract 0 k).size=k:=by rw[ByteArray.size_extract];omega
   have z2:(s.extract (k+1) s.size).size=s.size-(k+1):=by rw[ByteArray.size_extract];omega
   go_wp2_with fail
   refine wp_region_held_drew (S:=fun _=>True) (by kernel_rfl) trivial (fun s0=>?_)
   clear s0
   refine wpAnyH_take (i:=0) (v:=?vB4_0) rfl (by kernel_rfl) (by kernel_rfl) (by kernel_rfl) (fun _ _ _ h=>h) (Or.inl ⟨by rfl,?hB4_0⟩) trivial ?_
   case hB4_0=>intro wq hS;first|(go_simp;done)|(go_simp;with_reducible rfl)|(go_simp;rw[if_neg (by omega)])|(go_simp;omega)
   refine wpAnyH_take (i:=1) (v:=?vB4_1) rfl (by kernel_rfl) (by kernel_rfl) (by kernel_rfl) (fun _ _ _ h=>h) (Or.inl ⟨by rfl,?hB4_1⟩) trivial ?_
   case hB4_1=>intro wq hS;first|(go_simp;done)|(go_simp;with_reducible rfl)|(go_simp;rw[if_neg (by omega)])|(go_simp;omega)
   refine wpAnyH_take (i:=2) (v:=?vB4_2) rfl (by kernel_rfl) (by kernel_rfl) (by kernel_rfl) (fun _ _ _ h=>h) (Or.inl ⟨by rfl,?hB4_2⟩) trivial ?_
   case hB4_2=>intro wq hS;first|(go_simp;done)|(go_simp;with_reducible rfl)|(go_simp;rw[if_neg (by omega)])|(go_simp;omega)
   refine wpAnyH_take (i:=3) (v:=?vB4_3) rfl (by kernel_rfl) (by kernel_rfl) (by kernel_rfl) (fun _ _ _ h=>h) (Or.inl ⟨by rfl,?hB4_3⟩) trivial ?_
   case hB4_3=>intro wq hS;first|(go_simp;done)|(go_simp;with_reducible rfl)|(go_simp;rw[if_neg (by omega)])|(go_simp;omega)
   refine wpAnyH_take (i:=4) (v:=?vB4_4) rfl (by kernel_rfl) (by kernel_rfl) (by kernel_rfl) (fun _ _ _ h=>h) (Or.inl ⟨by rfl,?hB4_4⟩) trivial ?_
   case hB4_4=>intro wq hS;first|(go_simp;done)|(go_simp;with_reducible rfl)|(go_simp;rw[if_neg (by omega)])|(go_simp;omega)
   refine wpAnyH_take (i:=5) (v:=?vB4_5) rfl (by kernel_rfl) (by kernel_rfl) (by kernel_rfl) (fun _ _ _ h=>h) (Or.inl ⟨by rfl,?hB4_5⟩) trivial ?_
   case hB4_5=>intro wq hS;first|(go_simp;done)|(go_simp;with_reducible rfl)|(go_simp;rw[if_neg (by omega)])|(go_simp;omega)
   refine wpAnyH_take (i:=6) (v:=?vB4_6) rfl (by kernel_rfl) (by kernel_rfl) (by kernel_rfl) (fun _ _ _ h=>h) (Or.inl ⟨by rfl,?hB4_6⟩) trivial ?_
   case hB4_6=>intro wq hS;first|(go_simp;done)|(go_simp;with_reducible rfl)|(go_simp;rw[if_neg (by omega)])|(go_simp;omega)
   refine wpAnyH_take (i:=7) (v:=?vB4_7) rfl (by kernel_rfl) (by kernel_rfl) (by kernel_rfl) (fun _ _ _ h=>h) (Or.inl ⟨by rfl,?hB4_7⟩) trivial ?_
   case hB4_7=>intro wq hS;first|(go_simp;done)|(go_simp;with_reducible rfl)|(go_simp;rw[if_neg (by omega)])|(go_simp;omega)
   refine wpAnyH_take (i:=8) (v:=?vB4_8) rfl (by kernel_rfl) (by kernel_rfl) (by kernel_rfl) (fun _ _ _ h=>h) (Or.inl ⟨by rfl,?hB4_8⟩) trivial ?_
   case hB4_8=>intro wq hS;first|(go_simp;done)|(go_simp;with_reducible rfl)|(go_simp;rw[if_neg (by omega)])|(go_simp;omega)
   refine wpAnyH_take (i:=12) (v:=?vB4_12) rfl (by kernel_rfl) (by kernel_rfl) (by kernel_rfl) (fun _ _ _ h=>h) (Or.inl ⟨by rfl,?hB4_12⟩) trivial ?_
   case hB4_12=>intro wq hS;first|(go_simp;done)|(go_simp;with_reducible rfl)|(go_simp;rw[if_neg (by omega)])|(go_simp;omega)
   refine wpAnyH_take (i:=13) (v:=?vB4_13) rfl (by kernel_rfl) (by kernel_rfl) (by kernel_rfl) (fun _ _ _ h=>h) (Or.inl ⟨by rfl,?hB4_13⟩) trivial ?_
   case hB4_13=>intro wq hS;first|(go_simp;done)|(go_simp;with_reducible rfl)|(go_simp;rw[if_neg (by omega)])|(go_simp;omega)
   refine wpAnyH_take (i:=14) (v:=?vB4_14) rfl (by kernel_rfl) (by kernel_rfl) (by kernel_rfl) (fun _ _ _ h=>h) (Or.inl ⟨by rfl,?hB4_14⟩) trivial ?_
   case hB4_14=>intro wq hS;first|(go_simp;done)|(go_simp;with_reducible rfl)|(go_simp;rw[if_neg (by omega)])|(go_simp;omega)
   refine wpAnyH_take (i:=15) (v:=?vB4_15) rfl (by kernel_rfl) (by kernel_rfl) (by kernel_rfl) (fun _ _ _ h=>h) (Or.inl ⟨by rfl,?hB4_15⟩) trivial ?_
   case hB4_15=>intro wq hS;first|(go_simp;done)|(go_simp;with_reducible rfl)|(go_simp;rw[if_neg (by omega)])|(go_simp;omega)
   refine wpAnyH_ready (rs:=[9]) (by kernel_rfl) (by simp) ?_
   refine AllReadyH.cons rfl (fun K hK=>?_) AllReadyH.nil
   go_simp
   generalize IntKind.u8.wrap ((s[k].toNat:Int)+IntKind.u8.wrap m)=z at *
   refine hK.out _ _ trivial (fun s1=>?_)
   clear s1 hK K
   have hcv:=one_byte_at (w.alloc (.cells #[.int .u8 z] 5)).drew w.heap.size z (heap_alloc_new w _)
   have z3:(strOfNums [z]).size=1:=by rw[strOfNums_size];rfl
   have HB:Hid (Below w.heap.size w (w.alloc (.cells #[.int .u8 z] 5)).drew):=below_drewN ((Below.refl _ _).alloc (Nat.le_refl _) _) 1
   generalize (w.alloc (.cells #[.int .u8 z] 5)).drew=w5 at *
   generalize strOfNums [z]=x1 at *
   refine wpAnyH_ready (rs:=[10]) (by kernel_rfl) (by simp) ?_
   refine AllReadyH.cons rfl (fun K hK=>?_) AllReadyH.nil
   go_simp
   refine hK.out _ _ trivial (fun s1=>?_)
   clear s1 hK K hcv
   have z4:(s.extract 0 k++x1).size=k+1:=by rw[ByteArray.size_append,z1,z3]
   refine wpAnyH_take (i:=11) (v:=?vB5_11) rfl (by kernel_rfl) (by kernel_rfl) (by kernel_rfl) (fun _ _ _ h=>h) (Or.inl ⟨by rfl,?hB5_11⟩) trivial ?_
   case hB5_11=>intro wq hS;first|(go_simp;done)|(go_simp;with_reducible rfl)|(go_simp;rw[if_neg (by omega)])|(go_simp;omega)
   refine wpAnyH_take (i:=16) (v:=?vB5_16) rfl (by kernel_rfl) (by kernel_rfl) (by kernel_rfl) (fun _ _ _ h=>h) (Or.inl ⟨by rfl,?hB5_16⟩) trivial ?_
   case hB5_16=>intro wq hS;first|(go_simp;done)|(go_simp;with_reducible rfl)|(go_simp;rw[if_neg (by omega)])|(go_simp;omega)
   refine wpAnyH_take (i:=17) (v:=?vB5_17) rfl (by kernel_rfl) (by kernel_rfl) (by kernel_rfl) (fun _ _ _ h=>h) (Or.inl ⟨by rfl,?hB5_17⟩) trivial ?_
   case hB5_17=>intro wq hS;first|(go_simp;done)|(go_simp;with_reducible rfl)|(go_simp;rw[if_neg (by omega)])|(go_simp;omega)
   refine wpAnyH_done (by kernel_rfl) ?_ _
   go_wp2
   go_ret
   refine⟨_,rfl,?_,HB.out⟩
   rw[ByteArray.size_append,z4,z2]
   omega
end Go.Proofs.YtopihgmemnokkaaGreat
namespace Go.Proofs.YtopihgmemnokkaaGreat
open Go.RowKit
set_option maxRecDepth 100000 in
set_option maxHeartbeats 4000000 in
theorem writes_any (PI:Lay) (hI:PI.Ok) (hS:PI.Says4) (B0 wb N:Nat) (w:World) (L:LY PI B0 wb N w) (hB:B0≤w.heap.size) (hN:N≤5000000) (it:II) (hit:it.At PI w) (K A B C:Int) (s:ByteArray)
  (hA:-9223372036854775808≤A∧A≤9223372036854775807) :
  Calls Tryz.prog 27 #[.pointer (some ⟨wb,0,none⟩),.pointer (some ⟨it.b,0,none⟩),.pointer (some ⟨it.q,0,none⟩),.agg #[.int .i64 K,.int .i64 A,.int .i64 B,.int .i64 C,.string s]] w fun e w'=>e=.returned (.bool true)∧LY PI B0 wb (N+1) w'∧Below B0 w w':=by
 have hbx0:=fun w' hb=>box_cell w K A B C s (w':=w') hb 0
 have hbx1:=fun w' hb=>box_cell w K A B C s (w':=w') hb 1
 have hbx2:=fun w' hb=>box_cell w K A B C s (w':=w') hb 2
 simp only[List.getElem?_toArray,List.getElem?_cons_succ,List.getElem?_cons_zero]at hbx0 hbx1 hbx2
 have hW:Below w.heap.size w (w.alloc (opBox K A B C s)):=(Below.refl _ _).alloc (Nat.le_refl _) _
 have hi0:=hit.keep hI (Kept.of_below hW (Nat.le_refl _) (fun _=>False)) (fun _ _ _ h=>h)
 have hsz:(w.alloc (opBox K A B C s)).heap.size=w.heap.size+1:=by simp
 have HL:Hid (LY PI B0 wb N w):=L
 have HI:Hid (it.At PI (w.alloc (opBox K A B C s))):=hi0
 have HW:Hid (Below w.heap.size w (w.alloc (opBox K A B C s))):=hW
 have HR:Hid (it.rate=((it.rate.toNat:Nat):Int)∧it.rate.toNat≤64∧it.t.size≤1000):=by
  have h1:=hit.ok.1
  have h2:=hit.ok.2.1
  have h3:=hit.ok.2.2
  exact⟨by omega,by omega,h1⟩
 have HZ:Hid ((mar it.t it.rate.toNat).size≤100000):=mar_most (by rw[← HR.out.1];exact hit.ok)
 clear L hit hW hi0
 go_enter Tryz.func27,Tryz.ntmps27
 go_wp2_with fail
 obtain⟨W0,hW0⟩:∃ W0,W0=w.alloc (opBox K A B C s):=⟨_,rfl⟩
 rw[← hW0]at HI HW hbx0 hbx1 hbx2 hsz ⊢
 clear hW0
 refine(hS.marshal _ _ _ _ _ W0 HI.out.idx HI.out.ok).mono ?_
 rintro e w1 ⟨rfl,hb1⟩
 have HB1:Hid (Below W0.heap.size W0 w1):=hb1
 have HI1:Hid (IAt w1 it.q it.t ((it.rate.toNat:Nat):Int)):=by
  have h:=HI.out.ref.below hb1 HI.out.ref.lt
  rw[HR.out.1]at h;exact h
 clear hb1
 go_wp2_with fail
 refine(refMarshal_any _ _ _ w1 HI1.out HR.out.2.2 HR.out.2.1).mono ?_
 rintro e w2 ⟨rfl,hb2⟩
 have HB2:Hid (Below W0.heap.size W0 w2):=HB1.out.trans (hb2.mono HB1.out.size)
 have HB3:Hid (Below w.heap.size w w2):=HW.out.trans (HB2.out.mono HW.out.size)
 have c0:=hbx0 w2 (hsz ▸ HB2.out)
 have c1:=hbx1 w2 (hsz ▸ HB2.out)
 have c2:=hbx2 w2 (hsz ▸ HB2.out)
 clear hb2 hbx0 hbx1 hbx2
 generalize mar it.t it.rate.toNat=d at *
 by_cases hK:K=13
 ·have dk:(K == 13)=true:=by simp[hK]
  clear hK
  go_wp2
  go_ret
  exact⟨rfl,(HL.out.below HB3.out).mono (by omega),HB3.out.mono hB⟩
 ·have dk:(K == 13)=false:=beq_eq_false_iff_ne.2 hK
  clear hK
  go_wp2_with fail
  refine(bent_any d A B w2 (by have:=HZ.out;omega) hA.1 hA.2).mono ?_
  rintro e w3 ⟨x,rfl,hx,hb3⟩
  have HB4:Hid (Below w.heap.size w w3):=HB3.out.trans (hb3.mono HB3.out.size)
  have HX:Hid (x.size≤20000000):=hx
  clear hb3 hx c0 c1 c2
  go_wp2_with fail
  refine(reads_any PI hI hS B0 wb N w3 (HL.out.below HB4.out) (Nat.le_trans hB HB4.out.size) hN x (by have:=HX.out;omega)).mono ?_
  rintro e w4 ⟨rfl,hL4,hb4⟩
  have HL4:Hid (LY PI B0 wb (N+1) w4):=hL4
  have HB5:Hid (Below B0 w w4):=(HB4.out.mono hB).trans hb4
  clear hL4 hb4
  go_wp2
  go_ret
  exact⟨rfl,HL4.out,HB5.out⟩
end Go.Proofs.YtopihgmemnokkaaGreat
namespace Go.Proofs.YtopihgmemnokkaaGreat
open Go.RowKit
set_option maxRecDepth 100000 in
set_option maxHeartbeats 4000000 in
theorem step4_read (PI:Lay) (hI:PI.Ok) (hS:PI.Says4) (B0 wb N:Nat) (w:World) (L:LY PI B0 wb N w) (hB:B0≤w.heap.size) (hN:N≤5000000) (A B C:Int) (s:ByteArray) (hs:s.size≤1099511627776) :
  Calls Tryz.prog 10 #[.pointer (some ⟨wb,0,none⟩),.agg #[.int .i64 14,.int .i64 A,.int .i64 B,.int .i64 C,.string s]] w fun e w'=>e=.returned (.bool true)∧LY PI B0 wb (N+4) w'∧Below B0 w w':=by
 have hW:Below B0 w (w.alloc (opBox 14 A B C s)):=(Below.refl _ _).alloc (by omega) _
 have hLY:LY PI B0 wb N (w.alloc (opBox 14 A B C s)):=L.below ((Below.refl _ _).alloc (Nat.le_refl _) _)
 have hsz:(w.alloc (opBox 14 A B C s)).heap.size=w.heap.size+1:=by simp
 have HLY:Hid (LY PI B0 wb N (w.alloc (opBox 14 A B C s))):=hLY
 clear hLY L
 go_enter Tryz.func10,Tryz.ntmps10
 go_wp2_with fail
 refine(reads_any PI hI hS B0 wb N _ HLY.out (by omega) hN s hs).mono ?_
 rintro e w1 ⟨rfl,hL1,hB1⟩
 have HL1:Hid (LY PI B0 wb (N+1) w1):=hL1
 clear hL1
 go_wp2
 go_ret
 exact⟨rfl,HL1.out.mono (by omega),hW.trans hB1⟩
set_option maxRecDepth 100000 in
set_option maxHeartbeats 40000000 in
theorem step4_write (PI:Lay) (hI:PI.Ok) (hS:PI.Says4) (B0 wb N:Nat) (w:World) (L:LY PI B0 wb N w) (hB:B0≤w.heap.size) (hN:N≤5000000) (K A B C:Int) (s:ByteArray) (hK:K=13∨K=15)
  (hC1:-9223372036854775808≤C) (hC2:C≤9223372036854775807) (hA:-9223372036854775808≤A∧A≤9223372036854775807) :
  Calls Tryz.prog 10 #[.pointer (some ⟨wb,0,none⟩),.agg #[.int .i64 K,.int .i64 A,.int .i64 B,.int .i64 C,.string s]] w fun e w'=>e=.returned (.bool true)∧LY PI B0 wb (N+4) w'∧Below B0 w w':=by
 have d1:decide ((1:Int)≤K)=true:=decide_eq_true (by omega)
 have d1':decide (K≤3)=false:=decide_eq_false (by omega)
 have d2:(K == 7)=false:=by simp;omega
 have d3:decide ((4:Int)≤K)=true:=decide_eq_true (by omega)
 have d3':decide (K≤6)=false:=decide_eq_false (by omega)
 have d4:(K == 8)=false:=by simp;omega
 have d5:(K == 14)=false:=by simp;omega
 have d6:decide (K<1)=false:=decide_eq_false (by omega)
 have d7:decide ((15:Int)<K)=false:=decide_eq_false (by omega)
 have d8:decide (K≤12)=false:=decide_eq_false (by omega)
 obtain⟨xv,rv,iis,hLX,hil⟩:=L
 have HLB:=hLX.box (opBox K A B C s)
 have hW:Below B0 w (w.alloc (opBox K A B C s)):=(Below.refl _ _).alloc (by omega) _
 obtain⟨bv,qv,lv,tv,mv,dv,ls,ts,ms,ds,its,h1,h2⟩:=hLX
 have hO:=h1.more.own
 have hRf:=h1.more.ref
 have HCL:Hid (Closed (FI xv rv iis) (IdxP PI B0 xv rv iis)):=h1.cl
 clear hK
 by_cases hz:iis.length=0
 ·obtain⟨ba,bc,rfl⟩:=own_slice hO
  rw[hz]at *
  have HL2:Hid (LY PI B0 wb (N+4) (w.alloc (opBox K A B C s))):=(LY.mono ⟨_,rv,iis,HLB.unbox HCL.out,by omega⟩ (by omega))
  obtain⟨bv,qv,lv,tv,mv,dv,ls,ts,ms,ds,its,h1',h2'⟩:=HLB
  have c2:=h1'.wd.cell 2
  simp only[List.getElem?_toArray,List.getElem?_cons_succ,List.getElem?_cons_zero]at c2
  clear h1 h2 h1' h2' hO hRf HCL
  go_enter Tryz.func10,Tryz.ntmps10
  go_wp2
  go_ret
  exact⟨rfl,HL2.out,hW⟩
 ·obtain⟨g1,bc,hx,_⟩:=hO.form (by omega)
  obtain⟨g2,qc,hr,_⟩:=hRf.form (by omega)
  subst hx hr
  have hpk:=fun W=>lawpick_any C (iis.length:Nat) W hC1 hC2 (by omega) (by omega)
  have hklt:=pickV_lt C (n:=iis.length) (by omega)
  generalize hkk:pickV C iis.length=k at *
  obtain⟨it,hit⟩:∃ it,iis[k]?=some it:=⟨_,List.getElem?_eq_getElem hklt⟩
  have HIT:Hid (iis[k]?=some it):=hit
  have d9:((iis.length:Int) == 0)=false:=beq_eq_false_iff_ne.2 (by omega)
  have d10:(iis.length == 0)=false:=beq_eq_false_iff_ne.2 hz
  have hki:(k:Int)<(iis.length:Int):=by omega
  have hil2:iis.length≤5000000:=by omega
  have HN0:Hid (iis.length≤N):=hil
  have HLB':Hid (LX B0 wb (.slice (some ⟨g1,0,none⟩) iis.length bc) (.slice (some ⟨g2,0,none⟩) iis.length qc) (fun k=>FI (.slice (some ⟨g1,0,none⟩) iis.length bc) (.slice (some ⟨g2,0,none⟩) iis.length qc) iis k∨k=w.heap.size)
   (fun W=>IdxP PI B0 (.slice (some ⟨g1,0,none⟩) iis.length bc) (.slice (some ⟨g2,0,none⟩) iis.length qc) iis W∧W.heap[w.heap.size]?=some (opBox K A B C s)) N (w.alloc (opBox K A B C s))):=HLB
  have HW:Hid (Below B0 w (w.alloc (opBox K A B C s))):=hW
  have HS0:Hid (w.heap.size≤(w.alloc (opBox K A B C s)).heap.size):=by show _≤_;simp
  obtain⟨r2,r3,r4,r5,b0,b1,b2,b3,b4⟩:=HLB.reads hit
  clear h1 h2 hO hRf hit hil HLB hW
  go_enter Tryz.func10,Tryz.ntmps10
  go_wp2
  obtain⟨W0,hW0⟩:∃ W0,W0=w.alloc (opBox K A B C s):=⟨_,rfl⟩
  rw[← hW0]at HLB' HW HS0 r2 r3 r4 r5 b0 b1 b2 b3 b4 ⊢
  clear hW0
  go_quiet ((go_at_call 25;exact Calls.quiet_of_same (hpk _)))
  have hb1:Below W0.heap.size W0 (W0.drewN nq):=below_drewN (Below.refl _ _) nq
  have HL1:Hid (LX B0 wb (.slice (some ⟨g1,0,none⟩) iis.length bc) (.slice (some ⟨g2,0,none⟩) iis.length qc) (fun k=>FI (.slice (some ⟨g1,0,none⟩) iis.length bc) (.slice (some ⟨g2,0,none⟩) iis.length qc) iis k∨k=w.heap.size) (fun W=>IdxP PI B0 (.slice (some ⟨g1,0,none⟩) iis.length bc) (.slice (some ⟨g2,0,none⟩) iis.length qc) iis W∧W.heap[w.heap.size]?=some (opBox K A B C s)) N (W0.drewN nq).drew):=HLB'.out.below (below_drew hb1)
  have HB1:Hid (Below B0 w (W0.drewN nq).drew):=below_drew (HW.out.trans (hb1.mono (by have:=HS0.out;omega)))
  have HLY1:Hid (LY PI B0 wb N (W0.drewN nq).drew):=⟨_,_,iis,HL1.out.unbox HCL.out,HN0.out⟩
  have HAK:Hid (Calls Tryz.prog 27 #[.pointer (some ⟨wb,0,none⟩),.pointer (some ⟨it.b,0,none⟩),.pointer (some ⟨it.q,0,none⟩),.agg #[.int .i64 K,.int .i64 A,.int .i64 B,.int .i64 C,.string s]] (W0.drewN nq).drew fun e w'=>e=.returned (.bool true)∧Hid (LY PI B0 wb (N+4) w')∧Hid (Below B0 w w')) :=
   (writes_any PI hI hS B0 wb N _ HLY1.out (Nat.le_trans hB (Nat.le_trans HS0.out hb1.size)) hN it (HL1.out.at_ (List.mem_of_getElem? HIT.out)) K A B C s hA).mono fun e w' ⟨h1,h2,h3⟩=>⟨h1,h2.mono (by omega),HB1.out.trans h3⟩
  have e0:(W0.drewN nq).cell? ⟨w.heap.size,0,none⟩=some (.int .i64 K):=b0
  have s0:(W0.drewN nq).cell? ⟨wb,2,none⟩=some (.slice (some ⟨g1,0,none⟩) iis.length bc)∧(W0.drewN nq).cell? ⟨wb,3,none⟩=some (.slice (some ⟨g2,0,none⟩) iis.length qc)∧(W0.drewN nq).cell? ⟨g1,k,none⟩=some (.pointer (some ⟨it.b,0,none⟩))∧(W0.drewN nq).cell? ⟨g2,k,none⟩=some (.pointer (some ⟨it.q,0,none⟩))∧(W0.drewN nq).cell? ⟨w.heap.size,0,none⟩=some (.int .i64 K)∧(W0.drewN nq).cell? ⟨w.heap.size,1,none⟩=some (.int .i64 A)∧(W0.drewN nq).cell? ⟨w.heap.size,2,none⟩=some (.int .i64 B)∧(W0.drewN nq).cell? ⟨w.heap.size,3,none⟩=some (.int .i64 C)∧(W0.drewN nq).cell? ⟨w.heap.size,4,none⟩=some (.string s):=HL1.out.reads HIT.out
  clear hpk hkk r2 r3 r4 r5 b0 b1 b2 b3 b4 HLB' HL1 hb1 HB1 HLY1
  generalize W0.drewN nq=W1 at *
  obtain⟨r2,r3,r4,r5,b0,b1,b2,b3,b4⟩:=s0
  go_wp2_with fail
  go_region_with (go_at_call 27;refine HAK.out.mono ?_;rintro e w2 ⟨rfl,hL2,hb2⟩)
  all_goals
   clear r2 r3 r4 r5 b0 b1 b2 b3 b4 e0 HAK
   go_wp2
   go_ret
   exact⟨rfl,hL2.out,hb2.out⟩
end Go.Proofs.YtopihgmemnokkaaGreat
namespace Go.Proofs.YtopihgmemnokkaaGreat
open Go.RowKit
theorem steps4 (PI:Lay) (hI:PI.Ok) (hS:PI.Says) (hS4:PI.Says4):Steps PI 15:=by
 intro B0 wb N w L hB hN K A B C s hK hs hC hA hB2
 by_cases h12:K≤12
 ·exact step3_any PI hI hS B0 wb N w L hB hN K A B C s h12 hs hC hA hB2
 ·by_cases h14:K=14
  ·subst h14
   exact step4_read PI hI hS4 B0 wb N w L hB hN A B C s hs
  ·exact step4_write PI hI hS4 B0 wb N w L hB hN K A B C s (by omega) hC.1 hC.2 hA
end Go.Proofs.YtopihgmemnokkaaGreat
namespace Go.Proofs.YtopihgmemnokkaaGreat
open Go.RowKit
def RunRow (w:World) (g n k:Nat) (rs:List (Nat × Nat)):Prop:=∃ cur:Array Value,w.heap[g]?=some (.cells cur 114 (0,0))∧cur.size=n*2∧∀ j x,j<k→rs[j]?=some x→cur[j*2]?=some (.int .i64 (x.1:Nat))∧cur[j*2+1]?=some (.int .u64 (x.2:Nat))
theorem RunRow.put {w:World}{g n k:Nat}{rs:List (Nat × Nat)}(h:RunRow w g n k rs) (hk:k<n){x:Nat × Nat}(hx:rs[k]?=some x):RunRow ((w.setCell ⟨g,k*2,none⟩ (.int .i64 (x.1:Nat))).setCell ⟨g,k*2+1,none⟩ (.int .u64 (x.2:Nat))) g n (k+1) rs:=by
 obtain⟨cur,h1,h2,h3⟩:=h
 refine⟨(cur.setIfInBounds (k*2) (.int .i64 (x.1:Nat))).setIfInBounds (k*2+1) (.int .u64 (x.2:Nat)),by simp[World.setCell,Array.getElem?_modify,h1],by simpa using h2,fun j y hj hy=>?_⟩
 simp only[Array.getElem?_setIfInBounds,Array.size_setIfInBounds]
 by_cases e:j=k
 ·subst e
  rw[hx]at hy
  have:=Option.some.inj hy
  subst this
  rw[if_neg (by omega),if_pos rfl,if_pos (by omega),if_pos rfl,if_pos (by omega)]
  exact⟨rfl,rfl⟩
 ·obtain⟨a,b⟩:=h3 j y (by omega) hy
  rw[if_neg (by omega),if_neg (by omega),if_neg (by omega),if_neg (by omega)]
  exact⟨a,b⟩
theorem RunRow.there {w:World}{g n k:Nat}{rs:List (Nat × Nat)}(h:RunRow w g n k rs){j:Nat}(hj:j<n*2):∃ v,w.cell? ⟨g,j,none⟩=some v:=by
 obtain⟨cur,h1,h2,_⟩:=h
 exact⟨cur[j]'(by omega),by simp[World.cell?,h1,h2,hj]⟩
theorem RunRow.frozen {w:World}{g n k:Nat}{rs:List (Nat × Nat)}(h:RunRow w g n k rs) (i:Nat):w.frozen? ⟨g,i,none⟩=false:=by
 obtain⟨cur,h1,_⟩:=h;simp[World.frozen?,h1]
theorem RunRow.runs {w:World}{g n:Nat}{rs:List (Nat × Nat)}(h:RunRow w g n rs.length rs):Runs w g rs:=fun k x hx=>by
 obtain⟨cur,h1,h2,h3⟩:=h
 obtain⟨a,b⟩:=h3 k x (List.getElem?_eq_some_iff.1 hx).1 hx
 exact⟨cell_of h1 a,cell_of h1 b⟩
theorem make_runs (n:Nat) (hn:n≤1001) (w:World):∃ cur:Array Value,cur.size=n*2∧(Instr.makeSlice 150 (.int .i64 (n:Int)) (.int .i64 (n:Int))).run Tryz.prog w
  = .ok (.slice (some ⟨w.heap.size,0,none⟩) n n) (w.alloc (.cells cur 114)):=by
 obtain⟨i,hi,hz0,hz1,hz2⟩:=info_parts Tryz.info114
 have h:=run_make (P:=Tryz.prog) w 150 114 i _ Tryz.underlying150 hi hz0 .i64 .i64 n n (by omega) (by omega) (by rw[hz2];omega) (by omega)
 refine⟨_,?_,h⟩
 rw[hz1]
 simp[madeCells]
set_option maxRecDepth 100000 in
set_option maxHeartbeats 2000000 in
theorem pack_any (G:Nat→Nat × Nat) (s:ByteArray) (w:World) (hs:s.size≤1000) (hG:∀ c,c<256→(G c).1≤64∧(G c).2<18446744073709551616) (hlen:(cat (fun c=>bl (G c)) s s.size).length≤8000) :
  Calls Tryz.prog 78 #[.string s,.agg (rowR G)] w fun e w'=>∃ v,e=.returned v∧w'.ownsRow w.heap.size 5 1 v (packL (cat (fun c=>bl (G c)) s s.size)).length (u8L (packL (cat (fun c=>bl (G c)) s s.size)))∧Below w.heap.size w w':=by
 obtain⟨cur,hcur,hmk⟩:=make_runs s.size (by omega) (w.alloc (.cells (rowR G) 115))
 have HG:Hid (∀ c,c<256→(G c).1≤64∧(G c).2<18446744073709551616):=hG
 have HR0:Hid (RunRow ((w.alloc (.cells (rowR G) 115)).alloc (.cells cur 114)) (w.heap.size+1) s.size 0 (runsA G s s.size)):=⟨cur,heap_alloc_new' _ _ (by simp),hcur,fun j x h=>by omega⟩
 have HM0:Hid (Made ((w.alloc (.cells (rowR G) 115)).alloc (.cells cur 114)) w.heap.size G):=by
  show Made _ _ _
  unfold Made
  rw[Below.heap_alloc _ _ _ (by simp)];exact heap_alloc_new _ _
 have HB0:Hid (Below w.heap.size w ((w.alloc (.cells (rowR G) 115)).alloc (.cells cur 114))):=((Below.refl _ _).alloc (Nat.le_refl _) _).alloc (by simp) _
 have hz0:((w.alloc (.cells (rowR G) 115)).alloc (.cells cur 114)).heap.size=w.heap.size+2:=by simp
 simp only[World.size_alloc]at hmk
 clear hG hcur
 go_enter Tryz.func78,Tryz.ntmps78
 go_wp2
 generalize (w.alloc (.cells (rowR G) 115)).alloc (.cells cur 114)=w0 at *
 clear hmk
 go_loopw [13] (fun i wr=>∃ k:Nat,k≤s.size∧i=.int .i64 k∧Hid (RunRow wr (w.heap.size+1) s.size k (runsA G s s.size))∧Hid (Made wr w.heap.size G)∧Hid (Below w.heap.size w wr)∧wr.heap.size=w.heap.size+2) (fun i _=>s.size-(intOf i).toNat)
 case atStart=>exact⟨0,by omega,rfl,HR0,HM0,HB0,hz0⟩
 case round =>
  clear HR0 HM0 HB0 hz0
  obtain⟨k,hk,rfl,RR,HM,HB,hz⟩:=hrel
  by_cases hlt:k<s.size
  ·have hby:=BY_le s k
   have hbv:=BY_lt s hlt
   have e0:=HM.out.c0 (c:=BY s k) (by omega)
   have e1:=HM.out.c1 (c:=BY s k) (by omega)
   obtain⟨v0,t0⟩:=RR.out.there (j:=k*2) (by omega)
   obtain⟨v1,t1⟩:=RR.out.there (j:=k*2+1) (by omega)
   have f0:=RR.out.frozen (k*2)
   have f1:=RR.out.frozen (k*2+1)
   have HP:Hid _:=RR.out.put hlt (runsA_get G s hlt)
   have HM1:Hid (Made ((wr.setCell ⟨w.heap.size+1,k*2,none⟩ (.int .i64 ((G (BY s k)).1:Nat))).setCell ⟨w.heap.size+1,k*2+1,none⟩ (.int .u64 ((G (BY s k)).2:Nat))) w.heap.size G) :=
    HM.out.keep (((Kept.refl (fun k=>k=w.heap.size+1) wr).setCell (by rfl) _).setCell (by rfl) _) (by omega)
   have HB1:Hid (Below w.heap.size w ((wr.setCell ⟨w.heap.size+1,k*2,none⟩ (.int .i64 ((G (BY s k)).1:Nat))).setCell ⟨w.heap.size+1,k*2+1,none⟩ (.int .u64 ((G (BY s k)).2:Nat)))):=(HB.out.setCell (by simp) _).setCell (by simp) _
   rw[hbv]at e0 e1 HP HM1 HB1 hby
   have hx:(s[k].toNat:Int)<256:=by omega
   clear hbv hby
   go_wp2
   exact⟨⟨k+1,by omega,by go_num,HP,HM1,HB1,by simpa using hz⟩,by simp[intOf];omega⟩
  ·have hk':k=s.size:=by omega
   subst hk'
   have hsp:=runsA_spells G HG.out s s.size
   have hrl:=runsA_len G s s.size
   have hrs:=rsum_runsA G s s.size s.size (Nat.le_refl _)
   rw[List.take_of_length_le (by rw[hrl];omega)]at hrs
   have hcl:cl (fun c=>bl (G c)) s s.size=(cat (fun c=>bl (G c)) s s.size).length:=rfl
   have HRUN:Hid (Runs wr (w.heap.size+1) (runsA G s s.size)):=by
    have:=RR.out
    rw[← hrl]at this
    exact RunRow.runs (n:=(runsA G s s.size).length) (by rw[hrl]at this ⊢;exact this)
   generalize hl:cat (fun c=>bl (G c)) s s.size=l at *
   have HLC:Hid (cat (fun c=>bl (G c)) s s.size=l):=hl
   clear hl
   rw[hcl]at hrs
   have hL0:BitL w.heap.size (wr.alloc (Obj.cells #[.slice none 0 0,.slice none 0 0,.int .i64 0,.int .i64 0] 125)) wr.heap.size [] [] 125 (.slice none 0 0) (.slice none 0 0) (bitF l) 0 :=
    ⟨heap_alloc_new wr _,World.ownsRow_nil _ _ _ _,World.ownsRow_nil _ _ _ _,by omega,by decide,by decide⟩
   have hR1:Runs (wr.alloc (Obj.cells #[.slice none 0 0,.slice none 0 0,.int .i64 0,.int .i64 0] 125)) (w.heap.size+1) (runsA G s s.size):=fun k x hx =>
    have hk:Kept (fun _=>False) wr (wr.alloc (Obj.cells #[.slice none 0 0,.slice none 0 0,.int .i64 0,.int .i64 0] 125)):=(Kept.refl _ _).alloc _
    ⟨cell_keep hk (HRUN.out k x hx).1 (fun h=>h),cell_keep hk (HRUN.out k x hx).2 (fun h=>h)⟩
   have hlay:=lay_any w.heap.size _ wr.heap.size 0 [] [] rfl 125 _ _ (bitF l) 0 (w.heap.size+1) s.size _ hL0 hR1 hsp (by rintro (h|h|h) <;> first|omega|cases h) (by rw[hrs];omega) (by rw[hrl];omega)
   rw[hrl,hrs,Nat.zero_add]at hlay
   have HBA:Hid (Below w.heap.size w (wr.alloc (Obj.cells #[.slice none 0 0,.slice none 0 0,.int .i64 0,.int .i64 0] 125))):=HB.out.alloc (by omega) _
   have HZ:Hid (wr.heap.size=w.heap.size+2):=hz
   clear hL0 hR1 hsp HRUN RR HM hcl hrs hrl hz
   go_wp2_with fail
   refine hlay.mono ?_
   rintro e w3 ⟨rfl,wv,av,hL,hK,_⟩
   have hB3:Below w.heap.size w w3:=hK.bel HBA.out (Nat.le_refl _) (by have:=HZ.out;rintro k (h|h|h) <;> first|omega|cases h)
   have hz3:=hB3.size
   have hbyt:=lbytes_any w.heap.size w3 wr.heap.size 0 [] [] rfl 125 wv av l hL hlen
   clear hlay hL hK
   go_wp2_with fail
   refine hbyt.mono ?_
   rintro e w4 ⟨v,rfl,hown,hB4⟩
   obtain⟨va,vc,rfl⟩:=own_slice hown
   clear hbyt
   go_wp2
   go_ret
   refine⟨_,rfl,?_,hB3.trans (hB4.mono hz3)⟩
   rw[HLC.out]
   exact hown.mono hz3
end Go.Proofs.YtopihgmemnokkaaGreat
