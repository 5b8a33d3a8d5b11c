import Derived.Test.YtopihgmemnokkaaGreatWorldJ
import Derived.Test.YtopihgmemnokkaaGreatCodeW11J
import Derived.Test.YtopihgmemnokkaaGreatWalk15J
import Derived.Test.YtopihgmemnokkaaGreatAppJ
import Derived.Test.YtopihgmemnokkaaGreatWalk7J
namespace Go.Proofs.YtopihgmemnokkaaGreat
open Go.RowKit
theorem Tryz.infoSlS:(Tryz.prog.info? 31).map (fun i=>(i.zero,i.size,i.bytes))=some (some (.slice none 0 0),1,24):=by kernel_rfl
set_option maxRecDepth 100000 in
set_option maxHeartbeats 2000000 in
theorem keepTexts_any (F:Nat→Prop) (B0 wb:Nat) (b q x r t d lv mv l:Value) (ls0:List Value) (ms0:List ByteArray) (n:Nat) (xs:List Value) (w:World) (hw:Wd w wb b q x r t lv d mv) (hB:B0≤wb) (L:Texts B0 w lv mv ls0 ms0)
  (hl:w.ownsRow B0 9 1 l n xs) (hne:l.ownBlock=none∨l.ownBlock≠mv.ownBlock) (hold:∀ y,y∈ls0→y.ownBlock=none∨y.ownBlock≠l.ownBlock) (hbb:B0≤w.heap.size) (hlen:ls0.length≤5000000) (hn:n≤5000)
  (hF:∀ a,F a→a<w.heap.size∧a≠wb∧lv.ownBlock≠some a∧mv.ownBlock≠some a∧l.ownBlock≠some a) :
  Calls Tryz.prog 49 #[.pointer (some ⟨wb,0,none⟩),l] w fun e w'=>e=.returned (.tuple #[])∧∃ lv' mv' ls ms,Wd w' wb b q x r t lv' d mv'∧Texts B0 w' lv' mv' ls ms∧ls.length=ls0.length+4∧Below B0 w w'∧Away F w w' lv' mv' ls0 ls:=by
 obtain⟨i0,hi,hz0,hz1,hz2⟩:=info_parts Tryz.infoSlS
 obtain⟨j0,hj,hy0,hy1,hy2⟩:=info_parts Tryz.infoStr
 have hms:ms0.length≤5000000:=by rw[← L.len];exact hlen
 have c6:=hw.cell 7
 simp only[List.getElem?_toArray,List.getElem?_cons_succ,List.getElem?_cons_zero]at c6
 obtain⟨ma,mc,hmv⟩:=own_slice L.mar
 obtain⟨la,lc,hlv⟩:=own_slice hl
 have S0:∀ w2 m,Kept (fun a=>some a=l.ownBlock) w w2→w2.ownsRow B0 9 1 l n (List.replicate n (.string m))→TS F B0 w wb b q x r t d ls0 ms0 m n 0 0 0 l lv mv [] w2:=by
  intro w2 m hk hr
  refine⟨hw.keep hk (fun e=>hw.ne hl (by decide) e.symm),hB,?_,rfl,?_,hr,hne,?_,?_,?_,fun y hy=>by simp at hy,?_,hbb,?_⟩
  ·rw[List.append_nil];exact own_keep L.own hk (ne_of (owns_ne hl L.own (by decide)))
  ·simp only[List.replicate_zero,List.append_nil];exact own_keep L.mar hk (ne_of (ne_swap hne))
  ·intro a y c h1 h2
   exact(L.all a y c h1 h2).keep hk (ne_of (hold y (List.mem_of_getElem? h1)))
  ·intro y hy
   obtain⟨c,hc⟩:=L.mem hy;exact⟨c,hc.keep hk (ne_of (hold y hy))⟩
  ·intro y hy;exact⟨L.ne y hy,hold y hy⟩
  ·exact hk.bel (Below.refl _ _) hbb (fun a ha=>(hl.lt a ha.symm).1)
  ·intro a ha
   obtain⟨f1,f2,f3,f4,f5⟩:=hF a ha
   exact⟨f1,hk.block a f1 (fun e=>f5 e.symm),f2,f3,f4,f5,fun y hy=>by simp at hy⟩
 have hfin:∀ w2 l m lv' mv' new,TS F B0 w wb b q x r t d ls0 ms0 m n 4 4 4 l lv' mv' new w2→∃ lv' mv' ls ms,Wd w2 wb b q x r t lv' d mv'∧Texts B0 w2 lv' mv' ls ms∧ls.length=ls0.length+4∧Below B0 w w2∧Away F w w2 lv' mv' ls0 ls:=by
  intro w2 l m lv' mv' new S
  refine⟨lv',mv',_,_,S.wd,S.lists L.len,by rw[List.length_append,S.nl],S.bl,fun a ha=>?_⟩
  obtain⟨f1,f2,f3,f4,f5,f6,f7⟩:=S.fr a ha
  exact⟨f2,f4,f5,fun y hy=>(List.mem_append.1 hy).imp id (f7 y)⟩
 have hxl:xs.length=n:=by have:=hl.1;omega
 have hl0:Kept (fun a=>some a=l.ownBlock) w w∧w.ownsRow B0 9 1 l n xs:=⟨Kept.refl _ _,hl⟩
 rw[hmv]at c6
 clear hmv hw L hne hold hl hF
 subst hlv
 go_enter Tryz.func49,Tryz.ntmps49
 go_wp2
 clear c6
 go_loopw [4,5] (fun mx nx wr=>wr=w∧∃ (m:ByteArray) (c:Nat),mx=.string m∧nx=.int .i64 c∧m.size+c≤5000004) (fun _ nx _=>(intOf nx).toNat)
 case atStart=>exact⟨rfl,_,ms0.length,rfl,rfl,by show 4+ms0.length≤5000004;omega⟩
 case round =>
 obtain⟨rfl,m,c,rfl,rfl,hmc⟩:=hrel
 rename World=>w
 by_cases hc0:0<c
 ·clear hfin S0 hl0
  have hm5:m.size≤5000004:=by omega
  rcases Nat.mod_two_eq_zero_or_one c with h2|h2
  ·have e1:((c:Int)%2)=0:=by omega
   go_wp2
   refine⟨⟨trivial,_,c/2,rfl,by go_num,?_⟩,by simp[intOf];omega⟩
   rw[ByteArray.size_append];show m.size+1+c/2≤5000004;omega
  ·have e1:((c:Int)%2)=1:=by omega
   go_wp2
   refine⟨⟨trivial,_,c/2,rfl,by go_num,?_⟩,by simp[intOf];omega⟩
   rw[ByteArray.size_append];show m.size+1+c/2≤5000004;omega
 have hc1:c=0:=by omega
 subst hc1
 rw[show ((0:Nat):Int)=0 from rfl]
 go_wp2
 go_loopw [6] (fun iv wr=>∃ p:Nat,p≤n∧iv=.int .i64 p∧Kept (fun a=>some a=(Value.slice la n lc).ownBlock) w wr∧wr.ownsRow B0 9 1 (.slice la n lc) n (List.replicate p (.string m)++xs.drop p)) (fun iv _=>n-(intOf iv).toNat)
 case atStart=>exact⟨0,by omega,rfl,hl0.1,by simpa using hl0.2⟩
 case round =>
  clear hl0
  obtain⟨p,hp,rfl,hk,ho⟩:=hrel
  by_cases hlt:p<n
  ·obtain⟨g,rfl⟩:∃ g,la=some ⟨g,0,none⟩:=by
    rcases ho.2 with⟨h1,h2⟩|⟨g,_,_,h1,_⟩
    ·omega
    ·injection h1 with h1 _ _;exact⟨g,h1⟩
   have hst:=ho.stored p (.string m)
   rw[set_rep p n xs _ hxl hlt]at hst
   have hc:=ho.cellAt p (by omega)
   have hfz:=ho.frozenAt p
   have hcx:∃ u,wr.cell? ⟨g,p,none⟩=some u:=by
    rw[hc];exact⟨_,List.getElem?_eq_getElem (by simp;omega)⟩
   obtain⟨u,hcu⟩:=hcx
   clear hc
   have hk2:=hk.grown hst.2 (fun k e _=>by rw[← e];rfl)
   have hlt':(p:Int)<(n:Int):=by omega
   go_wp2
   exact⟨⟨p+1,by omega,by go_num,hk2,hst.1⟩,by simp[intOf];omega⟩
  ·have hp':p=n:=by omega
   subst hp'
   rw[List.drop_eq_nil_of_le (by omega),List.append_nil]at ho
   have S:=S0 wr m hk ho
   clear S0 hk ho
   go_wp2
   go_loopw [1,7,8] (fun l iv _ wr=>∃ i:Nat,i≤4∧iv=.int .i64 i∧∃ lv mv new,TS F B0 w wb b q x r t d ls0 ms0 m p i i i l lv mv new wr) (fun _ iv _ _=>4-(intOf iv).toNat)
   case atStart=>exact⟨0,by omega,rfl,lv,mv,[],S⟩
   case round =>
    clear S
    obtain⟨i,hi4,rfl,lv,mv,new,S⟩:=hrel
    by_cases hlt4:i<4
    ·obtain⟨la,lc,rfl⟩:=own_slice S.row
     have c4:=S.wd.cell 5
     simp only[List.getElem?_toArray,List.getElem?_cons_succ,List.getElem?_cons_zero]at c4
     have A:=fun g cap w'=>S.s1 (g:=g) (cap:=cap) (w':=w') (Obj.cells #[Value.slice la (p+i) lc] 31)
     have A2:=fun w'=>S.wd1 (w':=w') (Obj.cells #[Value.slice la (p+i) lc] 31)
     have hz:=Nat.le_trans S.bb S.bl.size
     go_wp2_with (at_builtin;refine wpList_append_two _ rfl _ _ 29 rfl B0 31 i0 (.slice none 0 0) 24 Tryz.underlying29 hi hz0 hz1 hz2 rfl _ _ _ rfl (S.own.alloc _) ⟨wr.heap.size,0,none⟩ 1 (.slice la (p+i) lc) rfl ?c1 ?c2 ?c3 ?c4 ?c5 ?_)
     case c1=>exact cell_one_new _ _ _
     case c2=>rfl
     case c3=>unfold maxLen;omega
     case c4=>omega
     case c5=>simp;omega
     intro g cap w1 hown hlt1 hd
     have hg:=two_grown hd
     have S1:=A g cap w1 (by rw[List.append_assoc];exact hown) hg (hd.elim (fun h=>.inl h.1) (fun h=>.inr (by simpa using h.1)))
     have W1:=A2 w1 hg
     clear A A2 hown hd hg c4 S
     have c4:=W1.cell 5
     simp only[List.getElem?_toArray,List.getElem?_cons_succ,List.getElem?_cons_zero]at c4
     have f4:=W1.frozen 5
     clear W1
     have c6:=S1.wd.cell 7
     simp only[List.getElem?_toArray,List.getElem?_cons_succ,List.getElem?_cons_zero]at c6
     have A:=fun g cap w'=>S1.s2 (g:=g) (cap:=cap) (w':=w') (Obj.cells #[Value.string m] 9)
     have A2:=fun w'=>S1.wd2 (w':=w') (Obj.cells #[Value.string m] 9)
     have hz:=Nat.le_trans S1.bb S1.bl.size
     go_wp2_with (at_builtin;refine wpList_append_two _ rfl _ _ 31 rfl B0 9 j0 (.string ByteArray.empty) 16 Tryz.underlying31 hj hy0 hy1 hy2 rfl _ _ _ rfl (S1.mar.alloc _) ⟨w1.heap.size,0,none⟩ 1 (.string m) rfl ?d1 ?d2 ?d3 ?d4 ?d5 ?_)
     case d1=>exact cell_one_at (by simp)
     case d2=>rfl
     case d3=>unfold maxLen;omega
     case d4=>omega
     case d5=>simp at hz ⊢;omega
     intro g2 cap2 w2 hown hlt2 hd
     have hg:=two_grown hd
     have S2:=A g2 cap2 w2 (by first|exact hown|simpa using hown) hg (hd.elim (fun h=>.inl h.1) (fun h=>.inr (by simpa using h.1)))
     have W2:=A2 w2 hg
     clear A A2 hown hd hg c6 S1 c4 f4
     have c6:=W2.cell 7
     simp only[List.getElem?_toArray,List.getElem?_cons_succ,List.getElem?_cons_zero]at c6
     have f6:=W2.frozen 7
     clear W2
     have A:=fun g cap w'=>S2.s3 (g:=g) (cap:=cap) (w':=w') (Obj.cells #[Value.string m] 9)
     have hz:=Nat.le_trans S2.bb S2.bl.size
     go_wp2_with (at_builtin;refine wpList_append_two _ rfl _ _ 31 rfl B0 9 j0 (.string ByteArray.empty) 16 Tryz.underlying31 hj hy0 hy1 hy2 rfl _ _ _ rfl (S2.row.alloc _) ⟨w2.heap.size,0,none⟩ 1 (.string m) rfl ?e1 ?e2 ?e3 ?e4 ?e5 ?_)
     case e1=>exact cell_one_at (by simp)
     case e2=>rfl
     case e3=>unfold maxLen;omega
     case e4=>omega
     case e5=>simp at hz ⊢;omega
     intro g3 cap3 w3 hown hlt3 hd
     have S3:=A g3 cap3 w3 hown (hd.imp id (fun h=>⟨by simpa using h.1,h.2⟩))
     clear A hown hd S2 c6 f6
     go_wp2
     exact⟨⟨i+1,by omega,by go_num,_,_,_,S3⟩,by simp[intOf];omega⟩
    ·have hi':i=4:=by omega
     subst hi'
     have hf:=hfin _ _ _ _ _ _ S
     clear S hfin
     go_wp2
     go_end0
     exact⟨rfl,hf⟩
end Go.Proofs.YtopihgmemnokkaaGreat
namespace Go.Proofs.YtopihgmemnokkaaGreat
open Go.RowKit Go.Shelf Go.Lib
def GV (w:World) (t:Hf.T) (v1 v2:Value):Prop :=
 ∃ g1 c1 g2 c2,v1=.slice (some ⟨g1,0,none⟩) (Hf.paths t).length c1∧v2=.slice (some ⟨g2,0,none⟩) (Hf.paths t).length c2 ∧
  ∀ i x,(Hf.paths t)[i]?=some x→w.cell? ⟨g1,i,none⟩=some (.int .i64 (x.1:Nat))∧w.cell? ⟨g2,i,none⟩=some (.string (tx x.2))
theorem GV.keep {P:Nat→Prop}{w w':World}{t:Hf.T}{v1 v2:Value}(h:GV w t v1 v2) (hk:Kept P w w') (hP:∀ k,k<w.heap.size→¬ P k):GV w' t v1 v2:=by
 obtain⟨g1,c1,g2,c2,h1,h2,h3⟩:=h
 refine⟨g1,c1,g2,c2,h1,h2,fun i x hx=>?_⟩
 obtain⟨k1,k2⟩:=h3 i x hx
 exact⟨cellK hk k1 (hP _ (World.block_lt_of_cell? w _ k1)),cellK hk k2 (hP _ (World.block_lt_of_cell? w _ k2))⟩
theorem GV.below {w w':World}{t:Hf.T}{v1 v2:Value}(h:GV w t v1 v2) (hb:Below w.heap.size w w'):GV w' t v1 v2 :=
 h.keep (Kept.of_below hb (Nat.le_refl _) (fun _=>False)) (fun _ _ h=>h)
theorem paths_pos (t:Hf.T):0<(Hf.paths t).length:=by
 have h:=congrArg List.length (Hf.paths_bytes t)
 rw[List.length_map]at h
 rw[h]
 exact List.length_pos_of_mem (Hf.least_mem t)
theorem paths_mem {t:Hf.T}{i:Nat}{x:Nat × List Bool}(h:(Hf.paths t)[i]?=some x):x.1∈Hf.bytes t:=by
 rw[← Hf.paths_bytes]
 exact List.mem_map_of_mem (f:=Prod.fst) (List.mem_of_getElem? h)
set_option maxRecDepth 100000 in
set_option maxHeartbeats 1000000 in
theorem lowest_any (t:Hf.T) (W0:Int) (v1 v2:Value) (w:World) (h:GV w t v1 v2) (hlen:(Hf.paths t).length≤100000) (hbd:∀ c∈Hf.bytes t,c≤255) :
  Calls Tryz.prog 163 #[.agg #[.int .i64 W0,v1,v2]] w fun e w'=>e=.returned (.int .i64 (Hf.least t:Nat))∧Below w.heap.size w w':=by
 have hpos:=paths_pos t
 have hb0:Below w.heap.size w (w.alloc (.cells #[.int .i64 W0,v1,v2] 209)):=(Below.refl _ _).alloc (Nat.le_refl _) _
 obtain⟨g1,c1,g2,c2,rfl,rfl,h3⟩:=h.below hb0
 clear h
 have hfin:∀ n:Nat,n∈Hf.bytes t→(∀ (i:Nat) (x:Nat × List Bool),(Hf.paths t)[i]?=some x→n≤x.1)→n=Hf.least t:=by
  intro n h1 h2
  have h4:=Hf.least_le t n h1
  obtain⟨x,hx,hxe⟩:∃ x,x∈Hf.paths t∧x.1=Hf.least t:=by
   have:=Hf.least_mem t
   rw[← Hf.paths_bytes]at this
   obtain⟨x,hx,hxe⟩:=List.mem_map.1 this
   exact⟨x,hx,hxe⟩
  obtain⟨i,hi,hie⟩:=List.mem_iff_getElem.1 hx
  have:=h2 i x (by rw[List.getElem?_eq_getElem hi,hie])
  omega
 have HF:Hid (∀ n:Nat,n∈Hf.bytes t→(∀ (i:Nat) (x:Nat × List Bool),(Hf.paths t)[i]?=some x→n≤x.1)→n=Hf.least t):=hfin
 have H3:Hid (∀ i x,(Hf.paths t)[i]?=some x→(w.alloc (.cells #[.int .i64 W0,.slice (some ⟨g1,0,none⟩) (Hf.paths t).length c1,.slice (some ⟨g2,0,none⟩) (Hf.paths t).length c2] 209)).cell? ⟨g1,i,none⟩=some (.int .i64 (x.1:Nat))):=fun i x hx=>(h3 i x hx).1
 have HBD:Hid (∀ c∈Hf.bytes t,c≤255):=hbd
 have HB0:Hid (Below w.heap.size w (w.alloc (.cells #[.int .i64 W0,.slice (some ⟨g1,0,none⟩) (Hf.paths t).length c1,.slice (some ⟨g2,0,none⟩) (Hf.paths t).length c2] 209))):=hb0
 obtain⟨x0,hx0⟩:∃ x0,(Hf.paths t)[0]?=some x0:=⟨_,List.getElem?_eq_getElem hpos⟩
 have k0:=(h3 0 x0 hx0).1
 have HX0:Hid ((Hf.paths t)[0]?=some x0):=hx0
 clear h3 hfin hbd hb0 hx0
 generalize hL:(Hf.paths t).length=L at *
 have HL:Hid ((Hf.paths t).length=L):=hL
 clear hL
 have hL0:(0:Int)<(L:Int):=by omega
 go_enter Tryz.func163,Tryz.ntmps163
 go_wp2
 go_loopw [3,4] (fun nv iv wr=>wr=w.alloc (.cells #[.int .i64 W0,.slice (some ⟨g1,0,none⟩) L c1,.slice (some ⟨g2,0,none⟩) L c2] 209)∧∃ n i:Nat,nv=.int .i64 n∧iv=.int .i64 i∧i≤L∧Hid (n∈Hf.bytes t∧∀ (j:Nat) (x:Nat × List Bool),j<i→(Hf.paths t)[j]?=some x→n≤x.1)) (fun _ iv _=>L-(intOf iv).toNat)
 case atStart =>
  refine⟨rfl,x0.1,1,rfl,rfl,by omega,paths_mem HX0.out,fun j x hj hx=>?_⟩
  have:j=0:=by omega
  subst this
  rw[HX0.out]at hx
  have:x=x0:=by simpa using hx.symm
  subst this;exact Nat.le_refl _
 case round =>
  obtain⟨rfl,n,i,rfl,rfl,hi,HN⟩:=hrel
  by_cases hlt:i<L
  ·obtain⟨x,hx⟩:∃ x,(Hf.paths t)[i]?=some x:=⟨_,List.getElem?_eq_getElem (by rw[HL.out];exact hlt)⟩
   have k1:=H3.out i x hx
   have hn:=HBD.out n HN.out.1
   have hx2:=HBD.out x.1 (paths_mem hx)
   have NX:Hid (min n x.1∈Hf.bytes t∧∀ (j:Nat) (y:Nat × List Bool),j<i+1→(Hf.paths t)[j]?=some y→min n x.1≤y.1):=by
    refine⟨?_,fun j y hj hy=>?_⟩
    ·rcases Nat.le_total n x.1 with h|h
     ·rw[Nat.min_eq_left h];exact HN.out.1
     ·rw[Nat.min_eq_right h];exact paths_mem hx
    ·rcases Nat.lt_or_ge j i with h|h
     ·have:=HN.out.2 j y h hy;omega
     ·have:j=i:=by omega
      subst this
      rw[hx]at hy
      have:y=x:=by simpa using hy.symm
      subst this;omega
   clear HN hx
   generalize x.1=y at *
   have hli:(i:Int)<(L:Int):=by omega
   go_wp2_with fail
   refine(least_any n y _).mono ?_
   rintro e w5 ⟨rfl,hw5⟩
   subst hw5
   generalize min n y=z at *
   go_wp2
   exact⟨⟨trivial,z,i+1,rfl,by go_num,by omega,NX⟩,by simp[intOf];omega⟩
  ·have hi':i=L:=by omega
   subst hi'
   go_wp2
   go_ret
   refine⟨?_,HB0.out⟩
   rw[← HF.out n HN.out.1 (fun j x hx=>HN.out.2 j x (by
    have:=(List.getElem?_eq_some_iff.1 hx).1
    rw[HL.out]at this;exact this) hx)]
   rfl
set_option maxRecDepth 100000 in
set_option maxHeartbeats 1000000 in
theorem freqs_any (s:ByteArray) (w:World) (hs:s.size≤1000) :
  Calls Tryz.prog 91 #[.string s] w fun e w'=>e=.returned (.slice (some ⟨w.heap.size,0,none⟩) 256 256)∧Row w' w.heap.size 3 256 (cntB s s.size)∧Below w.heap.size w w':=by
 have hmk:∀ w:World,(Instr.makeSlice 30 (.int .i64 256) (.int .i64 256)).run Tryz.prog w=.ok (.slice (some ⟨w.heap.size,0,none⟩) 256 256) (w.alloc (.cells (rowC 256 fun _=>0) 3)):=fun w=>make_rows 256 (by omega) w
 go_enter Tryz.func91,Tryz.ntmps91
 go_wp2
 go_loopw [4] (fun i wr=>∃ p:Nat,p≤s.size∧i=.int .i64 p∧Row wr w.heap.size 3 256 (cntB s p)∧Below w.heap.size w wr) (fun i _=>s.size-(intOf i).toNat)
 case atStart=>exact⟨0,by omega,rfl,(Row.new w _ _ _).congr fun c _=>by simp[cntB,Cc.cn],(Below.refl _ _).alloc (Nat.le_refl _) _⟩
 case round =>
  clear hmk
  obtain⟨p,hp,rfl,hR1,hBl⟩:=hrel
  by_cases hlt:p<s.size
  ·have hby:=BY_le s p
   have hbv:=BY_lt s hlt
   have c0:=hR1.cell (i:=BY s p) (by omega)
   have f0:=hR1.frozen (BY s p)
   have hcl:cntB s p (BY s p)≤p:=Cc.cn_le p _
   have hg:Row (wr.setCell ⟨w.heap.size,BY s p,none⟩ (.int .i64 ((cntB s p (BY s p)+1:Nat):Int))) w.heap.size 3 256 (cntB s (p+1)) :=
    (hR1.set (BY s p) _).congr fun c _=>cntB_succ s p c
   rw[hbv]at c0 f0 hcl hg hby
   have hx:(s[p].toNat:Int)<256:=by omega
   clear hbv hby
   generalize cntB s p s[p].toNat=q at c0 hcl hg
   go_wp2
   exact⟨⟨p+1,by omega,by go_num,hg,hBl.setCell (by simp) _⟩,by simp[intOf];omega⟩
  ·have hp':p=s.size:=by omega
   subst hp'
   go_wp2
   go_ret
   exact⟨rfl,hR1,hBl⟩
end Go.Proofs.YtopihgmemnokkaaGreat
namespace Go.Proofs.YtopihgmemnokkaaGreat
open Go.RowKit
def bys (l:List Nat):ByteArray:=strOfNums (l.map fun n=>((n:Nat):Int))
theorem bys_size (l:List Nat):(bys l).size=l.length:=by unfold bys;rw[strOfNums_size,List.length_map]
theorem bys_app (a b:List Nat):bys a++bys b=bys (a++b):=by
 apply ByteArray.ext
 rw[ByteArray.data_append]
 apply Array.toList_inj.1
 rw[Array.toList_append]
 unfold bys
 rw[strOfNums_data,strOfNums_data,strOfNums_data,List.map_append,List.map_append]
theorem bys_BY (l:List Nat){k x:Nat}(h:l[k]?=some x) (hx:x≤255):BY (bys l) k=x:=by
 obtain⟨hk,hxe⟩:=List.getElem?_eq_some_iff.1 h
 have hsz:k<(bys l).size:=by rw[bys_size];exact hk
 rw[BY_lt _ hsz]
 have hl:k<(bys l).data.toList.length:=by unfold bys;rw[strOfNums_data];simp[hk]
 have h1:(bys l).data.toList[k]=UInt8.ofNat x:=by
  unfold bys at hl ⊢
  rw[List.getElem_of_eq (strOfNums_data _) hl]
  simp[hxe]
 have h2:(bys l)[k]=UInt8.ofNat x:=h1
 rw[h2,UInt8.toNat_ofNat']
 omega
def twoL (n:Nat):List Nat:=[n/256,n%256]
def crc1 (c:Nat):Nat:=if c%2=1 then (c/2) ^^^ 3988292384 else c/2
def crcJ:Nat→Nat→Nat
 | 0,c=>c
 | j+1,c=>crc1 (crcJ j c)
def crcB (c x:Nat):Nat:=crcJ 8 (c ^^^ x)
def crcTo (s:ByteArray):Nat→Nat
 | 0=>4294967295
 | i+1=>crcB (crcTo s i) (BY s i)
theorem crc1_lt {c:Nat}(h:c<4294967296):crc1 c<4294967296:=by
 unfold crc1
 split
 ·exact Nat.xor_lt_two_pow (n:=32) (by omega) (by omega)
 ·omega
theorem crcJ_lt {c:Nat}(h:c<4294967296):∀ j,crcJ j c<4294967296
 | 0=>h
 | j+1=>crc1_lt (crcJ_lt h j)
theorem crcTo_lt (s:ByteArray):∀ i,crcTo s i<4294967296
 | 0=>by show 4294967295<4294967296;decide
 | i+1=>by
  have h1:=crcTo_lt s i
  have h2:=BY_le s i
  exact crcJ_lt (Nat.xor_lt_two_pow (n:=32) (by omega) (by omega)) 8
def sumL (s:ByteArray):List Nat:=twoL ((4294967295-crcTo s s.size)/65536)++twoL ((4294967295-crcTo s s.size)%65536)
def bitV (l:List Bool) (j:Nat):Nat:=(l[j]?.getD false).toNat
theorem bitV_le (l:List Bool) (j:Nat):bitV l j≤1:=by unfold bitV;cases l[j]?.getD false <;> decide
def bv (l:List Bool) (i:Nat):Nat→Nat
 | 0=>0
 | k+1=>2*bv l i k+bitV l (8*i+k)
theorem bv_lt (l:List Bool) (i:Nat):∀ k,bv l i k<2^k
 | 0=>by show 0<1;decide
 | k+1=>by
  have h1:=bv_lt l i k
  have h2:=bitV_le l (8*i+k)
  show 2*bv l i k+bitV l (8*i+k)<2^(k+1)
  rw[Nat.pow_succ];omega
def packL (l:List Bool):List Nat:=(List.range ((l.length+7)/8)).map fun i=>bv l i 8
theorem tx_bit (l:List Bool){j:Nat}(h:j<(tx l).size):(tx l)[j].toNat=48+bitV l j:=by
 have hl:j<l.length:=by rw[← tx_size];exact h
 have h1:(tx l)[j]=if l[j] then (49:UInt8) else 48:=by
  show (tx l).data[j]'h=_
  simp[tx]
 rw[h1]
 unfold bitV
 rw[List.getElem?_eq_getElem hl]
 cases l[j] <;> rfl
theorem bitV_pad (l:List Bool) (m j:Nat):bitV (l++List.replicate m false) j=bitV l j:=by
 unfold bitV
 by_cases h:j<l.length
 ·rw[List.getElem?_append_left h]
 ·rw[List.getElem?_append_right (by omega),List.getElem?_replicate,List.getElem?_eq_none (by omega)]
  split <;> rfl
def th (f:Nat→Nat) (i:Nat):Nat→Nat
 | 0=>0
 | m+1=>2*th f i m+(if 0<f (8*i+(7-m)) then 1 else 0)
theorem th_lt (f:Nat→Nat) (i:Nat):∀ m,th f i m<2^m
 | 0=>by show 0<1;decide
 | m+1=>by
  have h:=th_lt f i m
  have h2:(if 0<f (8*i+(7-m)) then 1 else 0)≤1:=by split <;> omega
  show 2*th f i m+_<2^(m+1)
  rw[Nat.pow_succ];omega
def thL (f:Nat→Nat) (i:Nat):List Nat:=(List.range i).map fun j=>th f j 8
theorem thL_succ (f:Nat→Nat) (i:Nat):thL f (i+1)=thL f i++[th f i 8]:=by simp[thL,List.range_succ]
theorem thL_len (f:Nat→Nat) (i:Nat):(thL f i).length=i:=by simp[thL]
def cnL (f:Nat→Nat):Nat→List Nat
 | 0=>[]
 | c+1=>if 0<f c then cnL f c++twoL (f c) else cnL f c
theorem cnL_len (f:Nat→Nat):∀ c,(cnL f c).length≤2*c
 | 0=>by simp[cnL]
 | c+1=>by
  have:=cnL_len f c
  simp only[cnL]
  split
  ·simp[twoL];omega
  ·omega
def marL (t:ByteArray) (rate:Nat):List Nat :=
 [67]++twoL rate++twoL t.size++twoL (fw t)++thL (cntB t t.size) 32++cnL (cntB t t.size) 256++packL (cat (fun c=>bl (codesG (cntB t t.size) c)) (trn t) t.size)
def mar (t:ByteArray) (rate:Nat):ByteArray:=bys (marL t rate++sumL (bys (marL t rate)))
def numA (d:ByteArray) (a:Nat):Nat:=BY d a*256+BY d (a+1)
theorem numA_lt (d:ByteArray) (a:Nat):numA d a<65536:=by
 have:=BY_le d a
 have:=BY_le d (a+1)
 unfold numA;omega
def setB (d:ByteArray) (c:Nat):Nat:=BY d (7+c/8)/2^(c%8)%2
def atC (d:ByteArray):Nat→Nat
 | 0=>39
 | c+1=>if setB d c=1 then atC d c+2 else atC d c
theorem atC_le (d:ByteArray):∀ c,atC d c≤39+2*c
 | 0=>by simp[atC]
 | c+1=>by
  have:=atC_le d c
  simp only[atC]
  split <;> omega
def fD (d:ByteArray) (c:Nat):Nat:=if setB d c=1 then numA d (atC d c) else 0
def fTo (d:ByteArray) (n c:Nat):Nat:=if c<n then fD d c else 0
def okD (d:ByteArray) (n:Nat):Prop:=∀ c,c<n→setB d c=1→atC d c+2≤d.size
theorem fTo_put (d:ByteArray) (n:Nat) (c:Nat):Cc.put (fTo d n) n (fD d n) c=fTo d (n+1) c:=by
 unfold Cc.put fTo
 by_cases e:c=n
 ·subst e;simp
 ·rw[if_neg e]
  by_cases h:c<n
  ·rw[if_pos h,if_pos (by omega)]
  ·rw[if_neg h,if_neg (by omega)]
def bitS (s:ByteArray) (i:Nat):Bool:=decide (BY s (i/8)/2^(7-i%8)%2=1)
def hitTo (k:Nat→List Bool) (x:List Bool):Nat→Option Nat
 | 0=>none
 | n+1=>match hitTo k x n with
  | some c=>some c
  | none=>if k n=x then some n else none
def uT (N:Nat) (k:Nat→List Bool) (s:ByteArray):Nat→List Nat × List Bool
 | 0=>([],[])
 | i+1=>match hitTo k ((uT N k s i).2++[bitS s i]) N with
  | some c=>((uT N k s i).1++[c],[])
  | none=>((uT N k s i).1,(uT N k s i).2++[bitS s i])
theorem uT_hit {N:Nat}{k:Nat→List Bool}{s:ByteArray}{i c:Nat}(h:hitTo k ((uT N k s i).2++[bitS s i]) N=some c):uT N k s (i+1)=((uT N k s i).1++[c],[]):=by
 rw[uT,h]
theorem uT_miss {N:Nat}{k:Nat→List Bool}{s:ByteArray}{i:Nat}(h:hitTo k ((uT N k s i).2++[bitS s i]) N=none):uT N k s (i+1)=((uT N k s i).1,(uT N k s i).2++[bitS s i]):=by
 rw[uT,h]
def uS (k:Nat→List Bool) (s:ByteArray) (i:Nat):List Nat × List Bool:=uT 256 k s i
def stopU (k:Nat→List Bool) (s:ByteArray) (n i:Nat):Prop:=8*s.size≤i∨n≤(uS k s i).1.length∨255<(uS k s i).2.length
def StopAt (k:Nat→List Bool) (s:ByteArray) (n i:Nat):Prop:=stopU k s n i∧∀ j,j<i→¬ stopU k s n j
theorem StopAt.uniq {k:Nat→List Bool}{s:ByteArray}{n i j:Nat}(h:StopAt k s n i) (h':StopAt k s n j):i=j:=by
 rcases Nat.lt_trichotomy i j with e|e|e
 ·exact absurd h.1 (h'.2 i e)
 ·exact e
 ·exact absurd h'.1 (h.2 j e)
theorem hitTo_lt (k:Nat→List Bool) (x:List Bool):∀ (n c:Nat),hitTo k x n=some c→c<n
 | 0,c,h=>by simp[hitTo]at h
 | n+1,c,h=>by
  simp only[hitTo]at h
  rcases hh:hitTo k x n with _|c'
  ·rw[hh]at h
   by_cases e:k n=x
   ·simp[e]at h;omega
   ·simp[e]at h
  ·rw[hh]at h
   have:c'=c:=by simpa using h
   have:=hitTo_lt k x n c' hh
   omega
theorem hitTo_some {k:Nat→List Bool}{x:List Bool}{n c:Nat}(h:hitTo k x n=some c):∀ m,n≤m→hitTo k x m=some c:=by
 intro m hm
 induction m with
 | zero =>
  have:n=0:=by omega
  subst this;exact h
 | succ m ih =>
  rcases Nat.lt_or_ge m n with h1|h1
  ·have:n=m+1:=by omega
   subst this;exact h
  ·simp only[hitTo];rw[ih h1]
theorem uS_hit {k:Nat→List Bool}{s:ByteArray}{i c:Nat}(h:hitTo k ((uS k s i).2++[bitS s i]) 256=some c):uS k s (i+1)=((uS k s i).1++[c],[]):=uT_hit h
theorem uS_miss {k:Nat→List Bool}{s:ByteArray}{i:Nat}(h:hitTo k ((uS k s i).2++[bitS s i]) 256=none):uS k s (i+1)=((uS k s i).1,(uS k s i).2++[bitS s i]):=uT_miss h
def u8L (l:List Nat):List Value:=l.map fun c=>Value.int .u8 (c:Nat)
end Go.Proofs.YtopihgmemnokkaaGreat
namespace Go.Proofs.YtopihgmemnokkaaGreat
open Go.RowKit
set_option maxRecDepth 100000 in
set_option maxHeartbeats 1000000 in
theorem two_any (n:Nat) (w:World) (hn:n<65536) :
  Calls Tryz.prog 101 #[.int .i64 (n:Nat)] w fun e w'=>e=.returned (.string (bys (twoL n)))∧Below w.heap.size w w':=by
 have hcv:=run_convert_bytes_arg (P:=Tryz.prog) (w.alloc (.cells #[.int .u8 ((n:Int)/256),.int .u8 ((n:Int)%256)] 5)) 55 5 Tryz.underlying55 Tryz.underlying5 w.heap.size 0 2 2 [(n:Int)/256,(n:Int)%256] rfl (by
  intro i hi
  have h1:(w.alloc (.cells #[.int .u8 ((n:Int)/256),.int .u8 ((n:Int)%256)] 5)).heap[w.heap.size]?=some (.cells #[.int .u8 ((n:Int)/256),.int .u8 ((n:Int)%256)] 5 (0,0)):=heap_alloc_new w _
  rw[Nat.zero_add]
  unfold World.cell?
  rw[h1]
  have hi2:i<2:=by simpa using hi
  match i,hi2 with
  | 0,_=>rfl
  | 1,_=>rfl) 9 Tryz.underlying9
 go_enter Tryz.func101,Tryz.ntmps101
 go_wp2
 go_ret
 exact⟨rfl,(Below.refl _ _).alloc (Nat.le_refl _) _⟩
theorem xor_i64 (a b:Nat) (ha:a<4294967296) (hb:b<4294967296):bits .xor .i64 (a:Int) (b:Int)=((a ^^^ b:Nat):Int):=by
 have hx:a ^^^ b<2^32:=Nat.xor_lt_two_pow (by omega) (by omega)
 have h1:(BitVec.ofInt 64 (a:Int)).toNat=a:=by
  rw[BitVec.ofInt_natCast,BitVec.toNat_ofNat];exact Nat.mod_eq_of_lt (by omega)
 have h2:(BitVec.ofInt 64 (b:Int)).toNat=b:=by
  rw[BitVec.ofInt_natCast,BitVec.toNat_ofNat];exact Nat.mod_eq_of_lt (by omega)
 show IntKind.i64.wrap ((BitVec.ofInt 64 (a:Int) ^^^ BitVec.ofInt 64 (b:Int)).toNat:Int)=_
 rw[BitVec.toNat_xor,h1,h2]
 simp[IntKind.wrap,IntKind.bits,IntKind.signed]
 omega
set_option maxRecDepth 100000 in
set_option maxHeartbeats 2000000 in
theorem sum_any (s:ByteArray) (w:World) (hs:s.size≤1099511627776) :
  Calls Tryz.prog 103 #[.string s] w fun e w'=>e=.returned (.string (bys (sumL s)))∧Below w.heap.size w w':=by
 go_enter Tryz.func103,Tryz.ntmps103
 go_wp2
 go_loopw [3,4] (fun cv iv wr=>∃ i:Nat,i≤s.size∧iv=.int .i64 i∧cv=.int .i64 ((crcTo s i:Nat):Int)∧wr=w) (fun _ iv _=>s.size-(intOf iv).toNat)
 case atStart=>exact⟨0,by omega,rfl,rfl,rfl⟩
 case round =>
  obtain⟨i,hi,rfl,rfl,rfl⟩:=hrel
  by_cases hlt:i<s.size
  ·have hc:=crcTo_lt s i
   have hbv:=BY_lt s hlt
   have hby:=BY_le s i
   have hxr:=xor_i64 (crcTo s i) (BY s i) hc (by omega)
   have hx2:crcTo s i ^^^ BY s i<4294967296:=Nat.xor_lt_two_pow (n:=32) (by omega) (by omega)
   have HN:Hid (crcTo s (i+1)=crcJ 8 (crcTo s i ^^^ BY s i)):=rfl
   rw[hbv]at hxr hby hx2 HN
   clear hbv
   generalize crcTo s i ^^^ s[i].toNat=c0 at *
   generalize crcTo s i=c at *
   have hli:(i:Int)<(s.size:Int):=by omega
   go_wp2
   clear hxr
   go_loopw [3,5,6] (fun cv kv _ wq=>∃ k:Nat,k≤8∧kv=.int .i64 k∧cv=.int .i64 ((crcJ k c0:Nat):Int)∧wq=wr) (fun _ kv _ _=>8-(intOf kv).toNat)
   case atStart=>exact⟨0,by omega,rfl,rfl,rfl⟩
   case round =>
    obtain⟨k,hk,rfl,rfl,rfl⟩:=hrel
    have hc2:=crcJ_lt hx2 k
    by_cases hk8:k<8
    ·have hki:(k:Int)<8:=by omega
     have HS:Hid (crcJ (k+1) c0=crc1 (crcJ k c0)):=rfl
     generalize crcJ k c0=d at *
     by_cases hodd:d%2=1
     ·have e1:((d:Int)%2 == 1)=true:=by
       have:(d:Int)%2=1:=by omega
       simp[this]
      have HS2:Hid (crcJ (k+1) c0=(d/2) ^^^ 3988292384):=by show _=_;rw[HS.out];unfold crc1;rw[if_pos hodd]
      have hxr:=xor_i64 (d/2) 3988292384 (by omega) (by decide)
      rw[show ((d/2:Nat):Int)=(d:Int)/2 by omega,show ((3988292384:Nat):Int)=3988292384 from rfl]at hxr
      clear HS hodd
      generalize (d/2) ^^^ 3988292384=z at *
      go_wp2
      exact⟨⟨k+1,by omega,by go_num,by rw[HS2.out],trivial⟩,by simp[intOf];omega⟩
     ·have e1:((d:Int)%2 == 1)=false:=by
       have:¬ (d:Int)%2=1:=by omega
       simp[this]
      have HS2:Hid (crcJ (k+1) c0=d/2):=by show _=_;rw[HS.out];unfold crc1;rw[if_neg hodd]
      clear HS
      go_wp2
      exact⟨⟨k+1,by omega,by go_num,by rw[HS2.out];go_num,trivial⟩,by simp[intOf];omega⟩
    ·have hk':k=8:=by omega
     subst hk'
     go_wp2
     exact⟨⟨i+1,by omega,by go_num,by rw[HN.out],trivial⟩,by simp[intOf];omega⟩
  ·have hi':i=s.size:=by omega
   subst hi'
   have hc:=crcTo_lt s s.size
   have HS:Hid (sumL s=twoL ((4294967295-crcTo s s.size)/65536)++twoL ((4294967295-crcTo s s.size)%65536)):=rfl
   generalize hcc:crcTo s s.size=c at *
   generalize hm:4294967295-c=m at *
   have hcv:(4294967295:Int)-(c:Int)=(m:Int):=by omega
   have hml:m<4294967296:=by omega
   have T1:Hid (∀ W,Calls Tryz.prog 101 #[.int .i64 ((m:Int)/65536)] W fun e w'=>e=.returned (.string (bys (twoL (m/65536))))∧Below W.heap.size W w'):=fun W=>by
    have h:=two_any (m/65536) W (by omega)
    rwa [show ((m/65536:Nat):Int)=(m:Int)/65536 by omega]at h
   have T2:Hid (∀ W,Calls Tryz.prog 101 #[.int .i64 ((m:Int)%65536)] W fun e w'=>e=.returned (.string (bys (twoL (m%65536))))∧Below W.heap.size W w'):=fun W=>by
    have h:=two_any (m%65536) W (by omega)
    rwa [show ((m%65536:Nat):Int)=(m:Int)%65536 by omega]at h
   clear hm hcc
   go_wp2_with fail
   refine(T1.out _).mono ?_
   rintro e w1 ⟨rfl,hb1⟩
   go_wp2_with fail
   refine(T2.out _).mono ?_
   rintro e w2 ⟨rfl,hb2⟩
   have z1:=bys_size (twoL (m/65536))
   have z2:=bys_size (twoL (m%65536))
   simp only[twoL,List.length_cons,List.length_nil]at z1 z2
   have HE:Hid (bys (twoL (m/65536))++bys (twoL (m%65536))=bys (sumL s)):=by show _=_;rw[bys_app,HS.out]
   have HB:Hid (Below wr.heap.size wr w2):=hb1.trans (hb2.mono hb1.size)
   clear hb1 hb2 T1 T2 HS
   simp only[twoL]at HE ⊢
   generalize bys [m/65536/256,m/65536%256]=x1 at *
   generalize bys [m%65536/256,m%65536%256]=x2 at *
   go_wp2
   go_ret
   exact⟨by rw[← HE.out];rfl,HB.out⟩
end Go.Proofs.YtopihgmemnokkaaGreat
namespace Go.Proofs.YtopihgmemnokkaaGreat
open Go.RowKit
set_option maxRecDepth 100000 in
set_option maxHeartbeats 2000000 in
theorem packed_any (l:List Bool) (w:World) (hl:l.length≤100000000) :
  Calls Tryz.prog 102 #[.string (tx l)] w fun e w'=>e=.returned (.string (bys (packL l)))∧Below w.heap.size w w':=by
 obtain⟨j0,hj,hy0,hy1,hy2⟩:=info_parts Tryz.info5
 go_enter Tryz.func102,Tryz.ntmps102
 go_wp2
 go_loopw [0] (fun sv wr=>∃ j:Nat,j≤(8-l.length%8)%8∧sv=.string (tx (l++List.replicate j false))∧wr=w) (fun sv _=>(8-l.length%8)%8+l.length-(match sv with | .string s=>s.size|_=>0))
 case atStart=>exact⟨0,by omega,by simp,rfl⟩
 case round =>
  obtain⟨j,hj8,rfl,rfl⟩:=hrel
  have hsz:(tx (l++List.replicate j false)).size=l.length+j:=by rw[tx_size];simp
  have HX:Hid (tx (l++List.replicate j false)++⟨#[48]⟩=tx (l++List.replicate (j+1) false)):=by
   show _=_
   rw[show (⟨#[48]⟩:ByteArray)=tx [false] from rfl,← tx_append,List.append_assoc]
   congr 2
   rw[List.replicate_succ']
  by_cases hm:(l.length+j)%8=0
  ·have hjp:j=(8-l.length%8)%8:=by omega
   generalize hl':l++List.replicate j false=l' at *
   have HV:Hid (∀ i,bitV l' i=bitV l i):=fun i=>by rw[← hl'];exact bitV_pad l j i
   have hlen:l'.length=l.length+j:=by rw[← hl'];simp
   clear HX hj8
   obtain⟨M,hM⟩:∃ M,l.length+j=8*M:=⟨(l.length+j)/8,by omega⟩
   have HM:Hid ((l.length+7)/8=M):=by show _=_;omega
   rw[hM]at hsz
   have HT:Hid (∀ j (h:j<(tx l').size),(tx l')[j].toNat=48+bitV l j):=fun j h=>by rw[tx_bit l' h,HV.out]
   have HSZ:Hid ((tx l').size=8*M):=hsz
   have hMl:M≤100000000:=by omega
   have hsl:(tx l').size≤800000000:=by omega
   have e1:(((tx l').size:Int)%8 != 0)=false:=bne_eq_false_iff_eq.2 (by omega)
   clear hm hjp hl' hlen HV hM hsz
   generalize tx l'=s at *
   have ⟨w_,hw_⟩:∃ w_,w_=wr:=⟨wr,rfl⟩
   have HWW:Hid (w_=wr):=hw_
   go_wp2
   rw[← hw_]
   clear hw_
   clear e1
   go_loopw [3,4] (fun rv iv wq=>∃ (i P q:Nat) (a:Option Addr),i≤M∧P≤s.size∧Hid (P=8*i)∧iv=.int .i64 (P:Nat)∧rv=.slice a i q∧Hid (wq.ownsRow w_.heap.size 5 1 (.slice a i q) i ((List.range i).map fun k=>Value.int .u8 (bv l k 8:Nat)))∧Hid (Below w_.heap.size w_ wq)) (fun _ iv _=>s.size-(intOf iv).toNat)
   case atStart=>exact⟨0,0,0,none,by omega,by omega,rfl,rfl,rfl,⟨rfl,.inl ⟨rfl,rfl⟩⟩,Below.refl _ _⟩
   case round =>
    obtain⟨i,P,q,a,hi,hP,HP,rfl,rfl,HO,HB⟩:=hrel
    by_cases hlt:P<s.size
    ·have hli:(P:Int)<(s.size:Int):=by omega
     have hP8:P+8≤s.size:=by have:=HSZ.out;have:=HP.out;omega
     have hiM:i<M:=by have:=HSZ.out;have:=HP.out;omega
     go_wp2
     go_loopw [5,6] (fun nv kv wq=>∃ k:Nat,k≤8∧kv=.int .i64 k∧nv=.int .i64 ((bv l i k:Nat):Int)∧wq=wr) (fun _ kv _=>8-(intOf kv).toNat)
     case atStart=>exact⟨0,by omega,rfl,rfl,rfl⟩
     case round =>
      obtain⟨k,hk,rfl,rfl,rfl⟩:=hrel
      have hb:=bv_lt l i k
      have hb8:2^k≤2^8:=Nat.pow_le_pow_right (by omega) hk
      have hb9:bv l i k<256:=by omega
      clear hb hb8
      by_cases hk8:k<8
      ·have hki:(k:Int)<8:=by omega
       have hT:=HT.out (P+k) (by omega)
       have hbt:=bitV_le l (P+k)
       have HS:Hid (bv l i (k+1)=2*bv l i k+bitV l (P+k)):=by show _=_;rw[HP.out];rfl
       have hlt2:P+k<s.size:=by omega
       generalize bitV l (P+k)=bt at *
       generalize bv l i k=z at *
       go_wp2
       exact⟨⟨k+1,by omega,by go_num,by rw[HS.out];go_num,trivial⟩,by simp[intOf];omega⟩
      ·have hk':k=8:=by omega
       subst hk'
       have HB8:Hid (bv l i 8=bv l i 8):=rfl
       have HN:Hid (((List.range (i+1)).map fun k=>Value.int .u8 (bv l k 8:Nat))=((List.range i).map fun k=>Value.int .u8 (bv l k 8:Nat))++[Value.int .u8 (bv l i 8:Nat)]):=by show _=_;simp[List.range_succ]
       generalize bv l i 8=z at *
       have hz:w_.heap.size≤wr.heap.size:=HB.out.size
       go_wp2_with (at_builtin;refine wpList_append_two _ rfl _ _ 55 rfl w_.heap.size 5 j0 (.int .u8 0) 1 Tryz.underlying55 hj hy0 hy1 hy2 rfl _ i ((List.range i).map fun k=>Value.int .u8 (bv l k 8:Nat)) rfl (HO.out.alloc _) ⟨wr.heap.size,0,none⟩ 1 (.int .u8 (z:Nat)) rfl ?d1 ?d2 ?d3 ?d4 ?d5 ?_)
       case d2=>rfl
       case d3=>unfold maxLen;omega
       case d4=>omega
       case d5=>omega
       intro g cap w1 hown hlt1 hd
       have hkk:Kept (fun k=>some k=(Value.slice a i q).ownBlock) wr w1:=((Kept.refl _ wr).alloc _).grown (two_grown hd) (fun k h _=>h.symm)
       have HB1:Hid (Below w_.heap.size w_ w1):=hkk.bel HB.out (Nat.le_refl _) (fun k hk=>(HO.out.lt k hk.symm).1)
       have HO1:Hid (w1.ownsRow w_.heap.size 5 1 (.slice (some ⟨g,0,none⟩) (i+1) cap) (i+1) ((List.range (i+1)).map fun k=>Value.int .u8 (bv l k 8:Nat))):=by
        show World.ownsRow _ _ _ _ _ _ _
        rw[HN.out];exact hown
       clear hown hd hkk hlt1
       go_wp2
       exact⟨⟨i+1,P+8,cap,some ⟨g,0,none⟩,by omega,by omega,by have:=HP.out;show _=_;omega,by go_num,rfl,HO1,HB1⟩,by simp[intOf];omega⟩
    ·have hi':i=M:=by have:=HSZ.out;have:=HP.out;omega
     have hcv:=conv_own HO.out
     have HE:Hid (strOfNums ((List.range i).map fun k=>((bv l k 8:Nat):Int))=bys (packL l)):=by
      show _=_
      unfold bys packL
      rw[HM.out,hi',List.map_map];rfl
     clear hi'
     go_wp2
     go_ret
     exact⟨by rw[← HE.out];rfl,by rw[← HWW.out];exact HB.out⟩
  ·have e1:(((l.length:Int)+(j:Int))%8 != 0)=true:=bne_iff_ne.2 (by omega)
   have hjp:j<(8-l.length%8)%8:=by omega
   go_wp2
   have hsz2:(tx (l++List.replicate (j+1) false)).size=l.length+(j+1):=by rw[tx_size];simp
   rw[HX.out]
   refine⟨⟨j+1,by omega,rfl,trivial⟩,?_⟩
   show _-(tx (l++List.replicate (j+1) false)).size<_-(tx (l++List.replicate j false)).size
   rw[hsz,hsz2]
   omega
end Go.Proofs.YtopihgmemnokkaaGreat
namespace Go.Proofs.YtopihgmemnokkaaGreat
open Go.RowKit
def hn (g:Nat→Nat):Nat→Nat
 | 0=>0
 | m+1=>2*hn g m+g m
theorem hn_bit (g:Nat→Nat) (hg:∀ q,g q≤1):∀ m q,q<m→hn g m/2^(m-1-q)%2=g q
 | 0,q,h=>by omega
 | m+1,q,h=>by
  have hb:=hg m
  by_cases e:q=m
  ·subst e
   rw[show q+1-1-q=0 by omega,Nat.pow_zero,Nat.div_one]
   show (2*hn g q+g q)%2=g q
   omega
  ·have IH:=hn_bit g hg m q (by omega)
   rw[show m+1-1-q=(m-1-q)+1 by omega,Nat.pow_succ,Nat.mul_comm,← Nat.div_div_eq_div_mul]
   show (2*hn g m+g m)/2/2^(m-1-q)%2=g q
   rw[show (2*hn g m+g m)/2=hn g m by omega]
   exact IH
theorem th_hn (f:Nat→Nat) (i:Nat):∀ m,th f i m=hn (fun q=>if 0<f (8*i+(7-q)) then 1 else 0) m
 | 0=>rfl
 | m+1=>by
  show 2*th f i m+_=2*hn _ m+_
  rw[th_hn f i m]
theorem bv_hn (l:List Bool) (i:Nat):∀ m,bv l i m=hn (fun q=>bitV l (8*i+q)) m
 | 0=>rfl
 | m+1=>by
  show 2*bv l i m+_=2*hn _ m+_
  rw[bv_hn l i m]
theorem th_bit (f:Nat→Nat) (i:Nat){j:Nat}(hj:j<8):th f i 8/2^j%2=if 0<f (8*i+j) then 1 else 0:=by
 have h:=hn_bit (fun q=>if 0<f (8*i+(7-q)) then 1 else 0) (fun q=>by split <;> omega) 8 (7-j) (by omega)
 rw[← th_hn,show 8-1-(7-j)=j by omega]at h
 exact h
theorem bv_bit (l:List Bool) (i:Nat){j:Nat}(hj:j<8):bv l i 8/2^(7-j)%2=bitV l (8*i+j):=by
 have h:=hn_bit (fun q=>bitV l (8*i+q)) (fun q=>bitV_le _ _) 8 j hj
 rw[← bv_hn]at h
 exact h
theorem cnL_split (f:Nat→Nat){c:Nat}:∀ m,c≤m→∃ r,cnL f m=cnL f c++r
 | 0,h=>⟨[],by
  have:c=0:=by omega
  subst this;simp⟩
 | m+1,h=>by
  rcases Nat.lt_or_ge m c with h1|h1
  ·have:c=m+1:=by omega
   subst this
   exact⟨[],by simp⟩
  ·obtain⟨r,hr⟩:=cnL_split f m h1
   simp only[cnL]
   split
   ·exact⟨r++twoL (f m),by rw[hr,List.append_assoc]⟩
   ·exact⟨r,hr⟩
theorem cnL_here (f:Nat→Nat){c m:Nat}(hc:c<m) (hp:0<f c):∃ r,cnL f m=cnL f c++(twoL (f c)++r):=by
 obtain⟨r,hr⟩:=cnL_split f (c:=c+1) m (by omega)
 refine⟨r,?_⟩
 rw[hr]
 simp only[cnL]
 rw[if_pos hp,List.append_assoc]
section
variable (t:ByteArray) (r:Nat)
def bitsOf:List Bool:=cat (fun c=>bl (codesG (cntB t t.size) c)) (trn t) t.size
def restM:List Nat:=packL (bitsOf t)++sumL (bys (marL t r))
def allM:List Nat:=[67,r/256,r%256,t.size/256,t.size%256,fw t/256,fw t%256]++(thL (cntB t t.size) 32++(cnL (cntB t t.size) 256++restM t r))
theorem mar_all:mar t r=bys (allM t r):=by
 unfold mar allM restM bitsOf
 congr 1
 rw[show marL t r++sumL (bys (marL t r))=([67]++twoL r++twoL t.size++twoL (fw t)++thL (cntB t t.size) 32++cnL (cntB t t.size) 256++packL (cat (fun c=>bl (codesG (cntB t t.size) c)) (trn t) t.size))++sumL (bys (marL t r)) from rfl]
 simp only[twoL,List.append_assoc,List.cons_append,List.nil_append]
theorem allM_th {j:Nat}(hj:j<32):(allM t r)[7+j]?=some (th (cntB t t.size) j 8):=by
 unfold allM
 rw[List.getElem?_append_right (by simp),show 7+j - [67,r/256,r%256,t.size/256,t.size%256,fw t/256,fw t%256].length=j by simp,List.getElem?_append_left (by rw[thL_len];exact hj)]
 unfold thL
 rw[List.getElem?_map,List.getElem?_range hj];rfl
theorem allM_behind (j:Nat):(allM t r)[39+j]?=(cnL (cntB t t.size) 256++restM t r)[j]?:=by
 unfold allM
 rw[List.getElem?_append_right (by simp;omega),show 39+j - [67,r/256,r%256,t.size/256,t.size%256,fw t/256,fw t%256].length=32+j by simp;omega,List.getElem?_append_right (by rw[thL_len];omega),thL_len,show 32+j-32=j by omega]
end
theorem mar_heads (t:ByteArray) (r:Nat) (ht:t.size≤1000) (hr:r≤64):numA (mar t r) 1=r∧numA (mar t r) 3=t.size∧numA (mar t r) 5=fw t:=by
 have hw:fw t≤1000:=by have:=(ord t).rank_le (i:=0) (by omega);show Cc.rank t.size (before t) 0≤1000;omega
 rw[mar_all]
 have g:∀ {j x:Nat},(allM t r)[j]?=some x→x≤255→BY (bys (allM t r)) j=x:=fun h1 h2=>bys_BY _ h1 h2
 have e1:BY (bys (allM t r)) 1=r/256:=g (by simp[allM]) (by omega)
 have e2:BY (bys (allM t r)) 2=r%256:=g (by simp[allM]) (by omega)
 have e3:BY (bys (allM t r)) 3=t.size/256:=g (by simp[allM]) (by omega)
 have e4:BY (bys (allM t r)) 4=t.size%256:=g (by simp[allM]) (by omega)
 have e5:BY (bys (allM t r)) 5=fw t/256:=g (by simp[allM]) (by omega)
 have e6:BY (bys (allM t r)) 6=fw t%256:=g (by simp[allM]) (by omega)
 unfold numA
 rw[e1,e2,e3,e4,e5,e6]
 refine⟨by omega,by omega,by omega⟩
theorem mar_set (t:ByteArray) (r:Nat){c:Nat}(hc:c<256):setB (mar t r) c=if 0<cntB t t.size c then 1 else 0:=by
 unfold setB
 have h1:=allM_th t r (j:=c/8) (by omega)
 have h2:th (cntB t t.size) (c/8) 8≤255:=by have:=th_lt (cntB t t.size) (c/8) 8;omega
 rw[mar_all,bys_BY _ h1 h2,th_bit _ _ (by omega),show 8*(c/8)+c%8=c by omega]
theorem mar_at (t:ByteArray) (r:Nat):∀ c,c≤256→atC (mar t r) c=39+(cnL (cntB t t.size) c).length
 | 0,_=>rfl
 | c+1,h=>by
  have IH:=mar_at t r c (by omega)
  simp only[atC,cnL]
  rw[mar_set t r (by omega),IH]
  by_cases hp:0<cntB t t.size c
  ·rw[if_pos hp,if_pos rfl,if_pos hp,List.length_append];simp[twoL];omega
  ·rw[if_neg hp,if_neg (by omega),if_neg hp]
theorem mar_num (t:ByteArray) (r:Nat){c:Nat}(hc:c<256) (hp:0<cntB t t.size c) (hf:cntB t t.size c≤1000):numA (mar t r) (atC (mar t r) c)=cntB t t.size c∧atC (mar t r) c+2≤(mar t r).size:=by
 rw[mar_at t r c (by omega)]
 obtain⟨q,hq⟩:=cnL_here (cntB t t.size) (m:=256) hc hp
 have h1:=allM_behind t r (cnL (cntB t t.size) c).length
 have h2:=allM_behind t r ((cnL (cntB t t.size) c).length+1)
 rw[hq,List.append_assoc,List.getElem?_append_right (by omega),Nat.sub_self]at h1
 rw[hq,List.append_assoc,List.getElem?_append_right (by omega),show (cnL (cntB t t.size) c).length+1-(cnL (cntB t t.size) c).length=1 by omega]at h2
 have h1':(allM t r)[39+(cnL (cntB t t.size) c).length]?=some (cntB t t.size c/256):=by rw[h1];rfl
 have h2':(allM t r)[39+(cnL (cntB t t.size) c).length+1]?=some (cntB t t.size c%256):=by rw[show 39+(cnL (cntB t t.size) c).length+1=39+((cnL (cntB t t.size) c).length+1) by omega,h2];rfl
 have hl:=(List.getElem?_eq_some_iff.1 h2').1
 rw[mar_all]
 refine⟨?_,by rw[bys_size];omega⟩
 unfold numA
 rw[bys_BY _ h1' (by omega),bys_BY _ h2' (by omega)]
 omega
theorem mar_counts (t:ByteArray) (r:Nat) (ht:t.size≤1000):okD (mar t r) 256∧∀ c,fTo (mar t r) 256 c=if c<256 then cntB t t.size c else 0:=by
 have hf:∀ c,cntB t t.size c≤1000:=fun c=>Nat.le_trans (Cc.cn_le _ _) ht
 refine⟨fun c hc hs=>?_,fun c=>?_⟩
 ·rw[mar_set t r hc]at hs
  by_cases hp:0<cntB t t.size c
  ·exact(mar_num t r hc hp (hf c)).2
  ·rw[if_neg hp]at hs;omega
 ·unfold fTo fD
  by_cases hc:c<256
  ·rw[if_pos hc,if_pos hc,mar_set t r hc]
   by_cases hp:0<cntB t t.size c
   ·rw[if_pos hp,if_pos rfl];exact(mar_num t r hc hp (hf c)).1
   ·rw[if_neg hp,if_neg (by omega)];omega
  ·rw[if_neg hc,if_neg hc]
theorem mar_size (t:ByteArray) (r:Nat):43≤(mar t r).size:=by
 rw[mar_all,bys_size]
 unfold allM restM
 rw[List.length_append,List.length_append,thL_len,List.length_append,List.length_append]
 have:(sumL (bys (marL t r))).length=4:=rfl
 simp;omega
end Go.Proofs.YtopihgmemnokkaaGreat
namespace Go.Proofs.YtopihgmemnokkaaGreat
open Go.RowKit
theorem bys_list (l:List Nat):(bys l).data.toList=l.map UInt8.ofNat:=by
 unfold bys
 rw[strOfNums_data,List.map_map];rfl
theorem bys_extract (a b:List Nat):(bys (a++b)).extract a.length (a++b).length=bys b:=by
 apply ByteArray.ext
 apply Array.toList_inj.1
 rw[ByteArray.data_extract,Array.toList_extract,List.extract_eq_take_drop,bys_list,bys_list,List.map_append,List.drop_append,List.length_append]
 have h0:List.drop a.length (List.map UInt8.ofNat a)=[]:=List.drop_eq_nil_of_le (by rw[List.length_map];exact Nat.le_refl _)
 rw[h0]
 simp only[List.nil_append,List.length_map,Nat.sub_self,List.drop_zero,Nat.add_sub_cancel_left]
 exact List.take_of_length_le (by rw[List.length_map];exact Nat.le_refl _)
theorem trn_cnt (t:ByteArray):cntB (trn t) (trn t).size=cntB t t.size:=by
 funext c
 rw[trn_size]
 exact trn_count t c
section
variable (t:ByteArray) (r:Nat)
abbrev kT:Nat→List Bool:=fun c=>bl (codesG (cntB t t.size) c)
theorem bits_len:(bitsOf t).length=cl (kT t) (trn t) t.size:=rfl
theorem rest_extract:(mar t r).extract (atC (mar t r) 256) (mar t r).size=bys (restM t r):=by
 rw[mar_at t r 256 (Nat.le_refl _),mar_all,bys_size]
 have h:allM t r=([67,r/256,r%256,t.size/256,t.size%256,fw t/256,fw t%256]++(thL (cntB t t.size) 32++cnL (cntB t t.size) 256))++restM t r:=by
  unfold allM
  simp only[List.append_assoc]
 have hl:39+(cnL (cntB t t.size) 256).length=([67,r/256,r%256,t.size/256,t.size%256,fw t/256,fw t%256]++(thL (cntB t t.size) 32++cnL (cntB t t.size) 256)).length:=by
  rw[List.length_append,List.length_append,thL_len];simp;omega
 rw[h,hl]
 exact bys_extract _ _
theorem rest_size:(bys (restM t r)).size=((bitsOf t).length+7)/8+4:=by
 rw[bys_size]
 unfold restM packL
 rw[List.length_append,List.length_map,List.length_range];rfl
theorem rest_bit {i:Nat}(hi:i<(bitsOf t).length):bitS (bys (restM t r)) i=(bitsOf t)[i]:=by
 have h1:(restM t r)[i/8]?=some (bv (bitsOf t) (i/8) 8):=by
  unfold restM packL
  rw[List.getElem?_append_left (by rw[List.length_map,List.length_range];omega),List.getElem?_map,List.getElem?_range (by omega)];rfl
 have h2:bv (bitsOf t) (i/8) 8≤255:=by have:=bv_lt (bitsOf t) (i/8) 8;omega
 unfold bitS
 rw[bys_BY _ h1 h2,bv_bit _ _ (by omega),show 8*(i/8)+i%8=i by omega]
 unfold bitV
 rw[List.getElem?_eq_getElem hi]
 cases (bitsOf t)[i] <;> rfl
end
theorem hitTo_none {k:Nat→List Bool}{x:List Bool}:∀ {n:Nat},(∀ c,c<n→k c≠x)→hitTo k x n=none
 | 0,_=>rfl
 | n+1,h=>by
  simp only[hitTo]
  rw[hitTo_none (fun c hc=>h c (by omega))]
  simp[h n (by omega)]
theorem hitTo_only {k:Nat→List Bool}{x:List Bool}{c0:Nat}(h0:k c0=x):∀ {n:Nat},c0<n→(∀ c,c<n→k c=x→c=c0)→hitTo k x n=some c0
 | 0,h,_=>by omega
 | n+1,h,hu=>by
  simp only[hitTo]
  rcases Nat.lt_or_ge c0 n with h1|h1
  ·rw[hitTo_only h0 h1 (fun c hc=>hu c (by omega))]
  ·have:c0=n:=by omega
   subst this
   rw[hitTo_none (fun c hc e=>by have:=hu c (by omega) e;omega)]
   simp[h0]
theorem decode {t:ByteArray}(s:ByteArray) (CD:Codes (cntB t t.size) (kT t)) (hb:∀ i (h:i<(bitsOf t).length),bitS s i=(bitsOf t)[i]) :
  ∀ i,i≤(bitsOf t).length→∃ p,p≤t.size∧cl (kT t) (trn t) p≤i∧(p<t.size→i<cl (kT t) (trn t) (p+1))∧(p=t.size→i=(bitsOf t).length) ∧
   uS (kT t) s i=((List.range p).map (BY (trn t)),((bitsOf t).drop (cl (kT t) (trn t) p)).take (i-cl (kT t) (trn t) p)):=by
 have hsz:=trn_size t
 have CD':Codes (cntB (trn t) (trn t).size) (kT t):=by rw[trn_cnt];exact CD
 have hne:∀ p,p<t.size→(kT t (BY (trn t) p))≠[]:=fun p hp=>by
  have h1:=BY_le (trn t) p
  exact CD'.some _ (by omega) (cnt_there (trn t) (by omega))
 have hup:∀ p,p<t.size→cl (kT t) (trn t) p<cl (kT t) (trn t) (p+1):=fun p hp=>by
  rw[cl_succ]
  have:=List.length_pos_iff.2 (hne p hp)
  omega
 have hL:(bitsOf t).length=cl (kT t) (trn t) t.size:=rfl
 intro i
 induction i with
 | zero =>
  intro _
  refine⟨0,by omega,Nat.le_refl _,fun h=>by have:=hup 0 h;rw[cl_zero]at this;exact this,fun h=>?_,?_⟩
  ·rw[hL,← h,cl_zero]
  ·rw[cl_zero];simp;rfl
 | succ i ih =>
  intro hi
  obtain⟨p,hp,h1,h2,h3,h4⟩:=ih (by omega)
  have hpn:p<t.size:=by
   rcases Nat.lt_or_ge p t.size with h|h
   ·exact h
   ·have:=h3 (by omega);omega
  have h2':=h2 hpn
  have hby:=BY_le (trn t) p
  have hnow:(uS (kT t) s i).2++[bitS s i]=((bitsOf t).drop (cl (kT t) (trn t) p)).take (i+1-cl (kT t) (trn t) p):=by
   rw[h4,hb i (by omega),show i+1-cl (kT t) (trn t) p=(i-cl (kT t) (trn t) p)+1 by omega]
   have hlt:i-cl (kT t) (trn t) p<((bitsOf t).drop (cl (kT t) (trn t) p)).length:=by rw[List.length_drop];omega
   rw[List.take_succ_eq_append_getElem hlt]
   congr 1
   rw[List.getElem_drop]
   congr 2
   omega
  have hnn:((bitsOf t).drop (cl (kT t) (trn t) p)).take (i+1-cl (kT t) (trn t) p)≠[]:=by
   rw[← hnow];simp
  have hm:∀ c,c<256→(kT t c=((bitsOf t).drop (cl (kT t) (trn t) p)).take (i+1-cl (kT t) (trn t) p)↔(c=BY (trn t) p∧i+1=cl (kT t) (trn t) (p+1))):=fun c hc=>by
   by_cases hk:kT t c=[]
   ·constructor
    ·intro h;rw[hk]at h;exact absurd h.symm hnn
    ·rintro ⟨rfl,_⟩;exact absurd hk (hne p hpn)
   ·have h5:=code_match CD' (p:=p) (i:=i+1) (c:=c) (by omega) (by omega) (by omega) hc hk
    rw[tx_extract]at h5
    rw[← h5]
    have hcat:cat (kT t) (trn t) (trn t).size=bitsOf t:=by rw[hsz];rfl
    rw[hcat]
    constructor
    ·intro h;rw[h]
    ·intro h;exact(tx_inj (toList_inj' h)).symm
  rcases Nat.lt_or_ge (i+1) (cl (kT t) (trn t) (p+1)) with hlt|hge
  ·refine⟨p,hp,by omega,fun _=>hlt,fun h=>by omega,?_⟩
   rw[uS_miss (by rw[hnow];exact hitTo_none (fun c hc e=>by have:=((hm c hc).1 e).2;omega)),hnow,h4]
  ·have he:i+1=cl (kT t) (trn t) (p+1):=by omega
   refine⟨p+1,by omega,by omega,fun h=>by have:=hup (p+1) h;omega,fun h=>by rw[hL,← h];exact he,?_⟩
   rw[uS_hit (c:=BY (trn t) p) (by rw[hnow];exact hitTo_only ((hm _ (by omega)).2 ⟨rfl,he⟩) (by omega) (fun c hc e=>((hm c hc).1 e).1)),h4,List.range_succ,List.map_append,he,Nat.sub_self,List.take_zero]
   rfl
theorem bys_trn (t:ByteArray):bys ((List.range t.size).map (BY (trn t)))=trn t:=by
 refine BY_ext ?_ ?_
 ·rw[bys_size,List.length_map,List.length_range,trn_size]
 ·intro k hk
  rw[bys_size,List.length_map,List.length_range]at hk
  exact bys_BY _ (by rw[List.getElem?_map,List.getElem?_range hk];rfl) (BY_le _ _)
theorem read_mar (t:ByteArray) (r:Nat) (ht:t.size≤1000):StopAt (kT t) (bys (restM t r)) t.size (bitsOf t).length∧bys (uS (kT t) (bys (restM t r)) (bitsOf t).length).1=trn t:=by
 have hw:∀ u,(Hf.bytes u).Nodup→(∀ c∈Hf.bytes u,c<256)→Hf.wt (cntB t t.size) u≤1000:=fun u hn _=>by
  rw[wt_list];exact Nat.le_trans (cnt_list t t.size _ hn) ht
 have CD:Codes (cntB t t.size) (kT t):=codes_of (codesG_of _) hw
 have D:=decode (bys (restM t r)) CD (fun i h=>rest_bit t r h)
 obtain⟨p,hp,h1,h2,h3,h4⟩:=D (bitsOf t).length (Nat.le_refl _)
 have hL:(bitsOf t).length=cl (kT t) (trn t) t.size:=rfl
 have hpe:p=t.size:=by
  rcases Nat.lt_or_ge p t.size with h|h
  ·have h5:=h2 h
   have h6:=cl_mono (kT t) (trn t) (p:=p+1) (q:=t.size) (by omega)
   omega
  ·omega
 subst hpe
 refine⟨⟨.inr (.inl ?_),fun j hj hst=>?_⟩,?_⟩
 ·rw[h4];simp
 ·obtain⟨p',g1,g2,g3,g4,g5⟩:=D j (by omega)
  have hp':p'<t.size:=by
   rcases Nat.lt_or_ge p' t.size with h|h
   ·exact h
   ·have:=g4 (by omega);omega
  rcases hst with h|h|h
  ·rw[rest_size]at h;omega
  ·rw[g5]at h;simp at h;omega
  ·rw[g5]at h
   have h7:=g3 hp'
   rw[cl_succ]at h7
   have h8:=CD.len (BY (trn t) p') (by have:=BY_le (trn t) p';omega)
   have h9:(((bitsOf t).drop (cl (kT t) (trn t) p')).take (j-cl (kT t) (trn t) p')).length≤j-cl (kT t) (trn t) p':=List.length_take_le _ _
   have h10:255<(((bitsOf t).drop (cl (kT t) (trn t) p')).take (j-cl (kT t) (trn t) p')).length:=h
   omega
 ·rw[h4];exact bys_trn t
end Go.Proofs.YtopihgmemnokkaaGreat
namespace Go.Proofs.YtopihgmemnokkaaGreat
open Go.RowKit
theorem sum_mem (f:Nat→Nat) (k:Nat):∀ l:List Nat,l.Nodup→(∀ c∈l,c<k)→(l.map f).sum=sm k fun c=>if c∈l then f c else 0
 | [],_,_=>by
  have hz:∀ m,(sm m fun _=>0)=0:=fun m=>by induction m with
   | zero=>rfl
   | succ m ih=>simp[sm,ih]
  rw[sm_congr (h:=fun _=>0) (fun c _=>by simp),hz];rfl
 | a :: l,hn,hk=>by
  have h1:=List.nodup_cons.1 hn
  have IH:=sum_mem f k l h1.2 (fun c hc=>hk c (by simp[hc]))
  have e:(sm k fun c=>if c∈a :: l then f c else 0)=sm k fun c=>(if a=c then f c else 0)+(if c∈l then f c else 0):=sm_congr fun c _=>by
   by_cases h:a=c
   ·subst h
    rw[if_pos (by simp),if_pos rfl,if_neg h1.1];omega
   ·rw[if_neg h]
    by_cases h2:c∈l
    ·rw[if_pos (by simp[h2]),if_pos h2];omega
    ·rw[if_neg (by simp;exact⟨fun e=>h e.symm,h2⟩),if_neg h2]
  rw[e,sm_add,sm_one k a f (hk a (by simp)),← IH]
  simp
theorem wt_sm (f:Nat→Nat) (t:Hf.T) (hn:(Hf.bytes t).Nodup) (hb:∀ c∈Hf.bytes t,c<256):Hf.wt f t≤sm 256 f:=by
 rw[wt_list,sum_mem f 256 _ hn hb]
 exact sm_le fun c _=>by split <;> omega
theorem sm_cnt (t:ByteArray):sm 256 (cntB t t.size)=t.size:=by
 have h:=sm_ac (fun _=>1) t t.size
 have h2:∀ p,ac (fun _=>1) t p=p:=fun p=>by
  induction p with
  | zero=>rfl
  | succ p ih=>simp only[ac,ih]
 have h3:sm 256 (cntB t t.size)=sm 256 fun c=>cntB t t.size c*1:=sm_congr fun c _=>by simp
 rw[h3,h,h2]
theorem cntB_high (t:ByteArray) (p:Nat){c:Nat}(hc:256≤c):cntB t p c=0:=Cc.cn_zero fun j _=>by
 have:=BY_le t j
 simp;omega
theorem atC_ok {d:ByteArray}(hd:43≤d.size){n:Nat}(h:okD d n):atC d n≤d.size:=by
 induction n with
 | zero=>show 39≤_;omega
 | succ n ih =>
  have h2:=ih (fun c hc=>h c (by omega))
  simp only[atC]
  split
  ·next hs=>exact h n (by omega) hs
  ·exact h2
structure IsMar (d t:ByteArray) (r:Nat):Prop where
 sz:43≤d.size
 n1:numA d 1=r
 n3:numA d 3=t.size
 n5:numA d 5=fw t
 ok:okD d 256
 f:fTo d 256=cntB t t.size
 rest:d.extract (atC d 256) d.size=bys (restM t r)
theorem isMar {t:ByteArray}{r:Nat}(h:BuildOk t (r:Nat)):IsMar (mar t r) t r:=by
 have ht:=h.1
 have hr:r≤64:=by have:=h.2.2;omega
 obtain⟨h1,h2,h3⟩:=mar_heads t r ht hr
 obtain⟨h4,h5⟩:=mar_counts t r ht
 refine⟨mar_size t r,h1,h2,h3,h4,?_,rest_extract t r⟩
 funext c
 rw[h5 c]
 split
 ·rfl
 ·rw[cntB_high t _ (by omega)]
def Mar (d:ByteArray) (t:ByteArray) (r:Nat):Prop:=BuildOk t (r:Nat)∧d=mar t r
theorem Mar.uniq {d t t':ByteArray}{r r':Nat}(h:Mar d t r) (h':Mar d t' r'):t=t'∧r=r':=by
 have m:IsMar d t r:=by rw[h.2];exact isMar h.1
 have m':IsMar d t' r':=by rw[h'.2];exact isMar h'.1
 have hr:r=r':=by rw[← m.n1,← m'.n1]
 have hf:cntB t t.size=cntB t' t'.size:=by rw[← m.f,← m'.f]
 have hn:t.size=t'.size:=by rw[← m.n3,← m'.n3]
 have hw:fw t=fw t':=by rw[← m.n5,← m'.n5]
 have hk:kT t=kT t':=by unfold kT;rw[hf]
 have hs:bys (restM t r)=bys (restM t' r'):=by rw[← m.rest,← m'.rest]
 obtain⟨q1,q2⟩:=read_mar t r h.1.1
 obtain⟨q3,q4⟩:=read_mar t' r' h'.1.1
 rw[hk,hs,hn]at q1
 have hi:=q1.uniq q3
 have ht:trn t=trn t':=by
  rw[← q2,← q4,hk,hs,hi]
 refine⟨?_,hr⟩
 rw[← (trn_back t).2,← (trn_back t').2,ht,hw]
/-! the sum tells one byte that is turned -/
/-! and one byte more or less is none -/
theorem mar_len {t:ByteArray}{r:Nat}(h:BuildOk t (r:Nat)):(mar t r).size=atC (mar t r) 256+(((bitsOf t).length+7)/8+4):=by
 have m:=isMar h
 have h1:=atC_ok m.sz m.ok
 have h2:=rest_size t r
 rw[← rest_extract,ByteArray.size_extract]at h2
 omega
theorem cl_le {k:Nat→List Bool}(hk:∀ c,c<256→(k c).length≤64) (s:ByteArray):∀ p,p≤s.size→cl k s p≤64*p
 | 0,_=>by rw[cl_zero];omega
 | p+1,hp=>by
  have h1:=cl_le hk s p (by omega)
  have h2:=hk (BY s p) (by have:=BY_le s p;omega)
  rw[cl_succ];omega
theorem mar_most {t:ByteArray}{r:Nat}(h:BuildOk t (r:Nat)):(mar t r).size≤100000:=by
 have hs:=h.1
 have hw:∀ u,(Hf.bytes u).Nodup→(∀ c∈Hf.bytes u,c<256)→Hf.wt (cntB t t.size) u≤1000:=fun u hn _=>by
  rw[wt_list];exact Nat.le_trans (cnt_list t t.size _ hn) hs
 have hD:∀ c,c<256→(kT t c).length≤64:=(codes_of (codesG_of _) hw).len
 have h1:=cl_le hD (trn t) t.size (by rw[trn_size];omega)
 have h2:=rest_size t r
 rw[bys_size]at h2
 rw[bits_len]at h2
 have h3:=cnL_len (cntB t t.size) 256
 rw[mar_all,bys_size]
 unfold allM
 rw[List.length_append,List.length_append,thL_len,List.length_append]
 simp only[List.length_cons,List.length_nil]
 omega
structure Lay.Says4 (PI:Lay):Prop where
 marshal:∀ (a z b:Nat) (t:ByteArray) (rate:Int) (w:World),PI a z b t rate w→BuildOk t rate→Calls Tryz.prog 19 #[.pointer (some ⟨b,0,none⟩)] w fun e w'=>e=.returned (.string (mar t rate.toNat))∧Below w.heap.size w w'
 unmarshal:∀ (d:ByteArray) (w:World),d.size≤1099511627776→Calls Tryz.prog 20 #[.string d] w fun e w' =>
  ((∃ t r b,Mar d t r∧e=.returned (.tuple #[.pointer (some ⟨b,0,none⟩),.int .i64 0])∧PI w.heap.size w'.heap.size b t (r:Nat) w')∨((∀ t r,¬ Mar d t r)∧e=.returned (.tuple #[.pointer none,.int .i64 4])))∧Below w.heap.size w w'
end Go.Proofs.YtopihgmemnokkaaGreat
