import Derived.Test.YtopihgmemnokkaaGreatRowsW5J
import Derived.Test.YtopihgmemnokkaaGreatBitW4J
import Derived.Test.YtopihgmemnokkaaGreatTreeW2J
import Derived.Test.YtopihgmemnokkaaGreatLaw1J
import Derived.Test.YtopihgmemnokkaaGreatAppMJ
import Derived.Lib.AppendZerosOnto
import Derived.Lib.Walk
import Derived.Lib.SliceRun
namespace Go.Proofs.YtopihgmemnokkaaGreat
open Go.RowKit
theorem or_sh8 (y x:Nat) (hy:y<4294967296) (hx:x<256):bits .or .i64 ((y:Int)*256) (x:Int)=((y*256+x:Nat):Int):=by
 have h1:(BitVec.ofInt 64 ((y:Int)*256)).toNat=2^8*y:=by
  rw[show (y:Int)*256=((2^8*y:Nat):Int) by omega,BitVec.ofInt_natCast,BitVec.toNat_ofNat];exact Nat.mod_eq_of_lt (by omega)
 have h2:(BitVec.ofInt 64 (x:Int)).toNat=x:=by
  rw[BitVec.ofInt_natCast,BitVec.toNat_ofNat];exact Nat.mod_eq_of_lt (by omega)
 show IntKind.i64.wrap ((BitVec.ofInt 64 ((y:Int)*256) ||| BitVec.ofInt 64 (x:Int)).toNat:Int)=_
 rw[BitVec.toNat_or,h1,h2,← Nat.two_pow_add_eq_or_of_lt (i:=8) (by omega) y]
 have hz:2^8*y+x=y*256+x:=by omega
 rw[hz]
 have hlt:y*256+x<2^62:=by omega
 generalize y*256+x=z at *
 simp[IntKind.wrap,IntKind.bits,IntKind.signed]
 omega
theorem intsL_set (N:List Nat) (m v:Nat):intsL (N.set m v)=(intsL N).set m (.int .i64 (v:Nat)):=by
 unfold intsL;rw[List.map_set]
section
variable {base:Nat}{w:World}{b:Nat}{nv tv wv av:Value}{s:RSt}{p:Nat→Bool}
theorem Rdg.put {g n cap:Nat}(h:Rdg base w b (.slice (some ⟨g,0,none⟩) n cap) tv wv av s p) (m v:Nat) :
  Rdg base (w.setCell ⟨g,m,none⟩ (.int .i64 (v:Nat))) b (.slice (some ⟨g,0,none⟩) n cap) tv wv av ⟨s.N.set m v,s.T,s.K⟩ p∧Kept (rdP b (.slice (some ⟨g,0,none⟩) n cap) tv wv av) w (w.setCell ⟨g,m,none⟩ (.int .i64 (v:Nat))):=by
 have hk:Kept (fun k=>k=g) w (w.setCell ⟨g,m,none⟩ (.int .i64 (v:Nat))):=(Kept.refl _ w).setCell (by rfl) _
 have hn:n=s.N.length:=by
  obtain⟨_,_,e⟩:=own_slice h.nums
  injection e
 refine⟨⟨h.bits.keep hk (fun k hp e=>h.nb g rfl (by rw[← e];exact hp)),?_,own_keep h.there hk (fun g' hg e=>h.tb g' hg (.inr (by rw[e];rfl))),h.far⟩,hk.mono (fun k _ e=>.inr (.inl (by rw[e];rfl)))⟩
 have h1:=h.nums
 rw[← hn]at h1
 have h2:=own_set h1 m (.int .i64 (v:Nat))
 show World.ownsRow _ _ _ _ _ _ _
 rw[List.length_set,intsL_set,← hn]
 exact h2
set_option maxRecDepth 100000 in
set_option maxHeartbeats 2000000 in
theorem take_any (h:Rdg base w b nv tv wv av s p) (i x:Nat) (hx:x≤255) (hi:i≤100000) (ok:s.Ok i) (hbit:kdA i s.T.length=4→∀ q,q<8→(p (8*s.K+q)).toNat=x/2^(7-q)%2) :
  Calls Tryz.prog 81 #[.pointer (some ⟨b,0,none⟩),.int .i64 (i:Nat),.int .u8 (x:Nat)] w fun e w'=>e=.returned (.tuple #[])∧∃ nv' tv' wv' av',Rdg base w' b nv' tv' wv' av' (tkA s i x) p∧Kept (rdP b nv tv wv av) w w'∧(∀ k,rdP b nv' tv' wv' av' k→rdP b nv tv wv av k∨w.heap.size≤k):=by
 obtain⟨j0,hj,hy0,hy1,hy2⟩:=info_parts Tryz.info3
 have H0:Hid (Rdg base w b nv tv wv av s p):=h
 have OK:Hid (s.Ok i):=ok
 have HBT:Hid (kdA i s.T.length=4→∀ q,q<8→(p (8*s.K+q)).toNat=x/2^(7-q)%2):=hbit
 have c1:=h.bits.four.p1
 have hbs:=h.lowb
 obtain⟨ta,tc,htv⟩:=own_slice h.there
 rw[htv]at c1
 have hkind:=kindAt_any w b i s.T.length tc ta c1 hi ok.tl
 have HTK:Hid (tkA s i x=if kdA i s.T.length=1 then ⟨s.N++[x],s.T,s.K⟩ else if kdA i s.T.length=2 then ⟨lastA s.N x,s.T,s.K⟩ else if kdA i s.T.length=3 then ⟨s.N,s.T++flA x (8*(i-7)) 8,s.K⟩ else if kdA i s.T.length=4 then ⟨s.N,s.T,s.K+1⟩ else s):=rfl
 have H39:Hid (kdA i s.T.length=3→7≤i∧i<39):=fun h3=>by
  unfold kdA at h3
  split at h3
  ·omega
  ·split at h3
   ·assumption
   ·split at h3
    ·omega
    ·split at h3 <;> omega
 have HK5:kdA i s.T.length=0∨kdA i s.T.length=3∨kdA i s.T.length=4∨kdA i s.T.length=1∨kdA i s.T.length=2:=by
  unfold kdA
  split
  ·exact .inl rfl
  ·split
   ·exact .inr (.inl rfl)
   ·split
    ·exact .inr (.inr (.inl rfl))
    ·split
     ·exact .inr (.inr (.inr (.inl rfl)))
     ·exact .inr (.inr (.inr (.inr rfl)))
 clear h ok hbit c1
 rcases HK5 with hk|hk|hk|hk|hk
 ·rw[hk]at hkind HTK
  rw[if_neg (by omega),if_neg (by omega),if_neg (by omega),if_neg (by omega)]at HTK
  go_enter Tryz.func81,Tryz.ntmps81
  go_wp2_with fail
  refine hkind.mono ?_
  rintro e w1 ⟨rfl,rfl⟩
  clear hkind
  go_wp2
  go_end0
  exact⟨rfl,nv,tv,wv,av,by rw[HTK.out];exact H0.out,Kept.refl _ _,fun k hk=>.inl hk⟩
 ·rw[hk]at hkind HTK
  rw[if_neg (by omega),if_neg (by omega),if_pos rfl]at HTK
  obtain⟨h7,h39⟩:=H39.out hk
  have hflag:=flag_any H0.out (8*(i-7)) x hx (by omega) OK.out.tl
  rw[show ((8*(i-7):Nat):Int)=8*((i:Int)-7) by omega]at hflag
  go_enter Tryz.func81,Tryz.ntmps81
  go_wp2_with fail
  refine hkind.mono ?_
  rintro e w1 ⟨rfl,rfl⟩
  clear hkind
  go_wp2_with fail
  refine hflag.mono ?_
  rintro e w2 ⟨rfl,tv2,hR,hK,hA⟩
  clear hflag
  go_wp2
  go_end0
  exact⟨rfl,nv,tv2,wv,av,by rw[HTK.out];exact hR,hK,hA⟩
 ·have hb8:=HBT.out hk
  rw[hk]at hkind HTK
  rw[if_neg (by omega),if_neg (by omega),if_neg (by omega),if_pos rfl]at HTK
  have hkl:=OK.out.kl
  have hal:Below w.heap.size w (w.alloc (.cells #[.int .i64 8,.int .u64 (x:Nat)] 114)):=(Below.refl _ _).alloc (Nat.le_refl _) _
  have hR1:=H0.out.below hal
  have hrun:Runs (w.alloc (.cells #[.int .i64 8,.int .u64 (x:Nat)] 114)) w.heap.size [(8,x)]:=fun k y hy=>by
   have hnb:(w.alloc (.cells #[.int .i64 8,.int .u64 (x:Nat)] 114)).heap[w.heap.size]?=some (.cells #[.int .i64 8,.int .u64 (x:Nat)] 114 (0,0)):=heap_alloc_new _ _
   match k,hy with
   | 0,hy=>simp at hy;subst hy;exact⟨cell_of hnb rfl,cell_of hnb rfl⟩
  have hsp:Spells p (8*s.K) [(8,x)]:=fun k y hy=>by
   match k,hy with
   |0,hy =>
    simp at hy;subst hy
    refine⟨by show (8:Nat)≤64;omega,by show x<_;omega,fun q hq=>?_⟩
    have:=hb8 q hq
    simp only[List.take_zero,rsum,List.map_nil,List.sum_nil,Nat.add_zero]
    rw[this]
  have hlay:=lay_any base _ b 2 [nv,tv] [] rfl 141 wv av p (8*s.K) w.heap.size 1 [(8,x)] hR1.bits hrun hsp (fun hp=>by have:=(H0.out.bits.lt _ hp).2;omega) (by simp[rsum];omega) (by simp)
  have HL:Hid (Calls Tryz.prog 86 #[.pointer (some ⟨b,2,none⟩),.slice (some ⟨w.heap.size,0,none⟩) 1 1] (w.alloc (.cells #[.int .i64 8,.int .u64 (x:Nat)] 114)) fun e w'=>e=.returned (.tuple #[])∧∃ wv' av',BitL base w' b [nv,tv] [] 141 wv' av' p (8*(s.K+1))∧Kept (bitP b wv av) (w.alloc (.cells #[.int .i64 8,.int .u64 (x:Nat)] 114)) w'∧(∀ k,bitP b wv' av' k→bitP b wv av k∨(w.alloc (.cells #[.int .i64 8,.int .u64 (x:Nat)] 114)).heap.size≤k)):=by
   rw[show 8*s.K+rsum [(8,x)]=8*(s.K+1) by simp[rsum];omega]at hlay
   exact hlay
  have HR1:Hid (Rdg base (w.alloc (.cells #[.int .i64 8,.int .u64 (x:Nat)] 114)) b nv tv wv av s p):=hR1
  have HAL:Hid (Below w.heap.size w (w.alloc (.cells #[.int .i64 8,.int .u64 (x:Nat)] 114))):=hal
  clear hlay hsp hrun hR1 hal hb8 hkl
  go_enter Tryz.func81,Tryz.ntmps81
  go_wp2_with fail
  refine hkind.mono ?_
  rintro e w1 ⟨rfl,rfl⟩
  clear hkind
  go_wp2_with fail
  refine HL.out.mono ?_
  rintro e w2 ⟨rfl,wv2,av2,hB2,hK2,hA2⟩
  obtain⟨hR3,hK3,hA3⟩:=HR1.out.setB hK2 hB2 hA2
  have hKK:=(Kept.of_below HAL.out (Nat.le_refl _) (rdP b nv tv wv av)).trans' hK3 (fun _ _ h=>h)
  clear hB2 hK2 hA2 hK3
  go_wp2
  go_end0
  refine⟨rfl,nv,tv,wv2,av2,by rw[HTK.out];exact hR3,hKK,fun k hk=>?_⟩
  rcases hA3 k hk with h1|h1
  ·exact .inl h1
  ·simp at h1;exact .inr (by omega)
 case' inr.inr.inr.inl =>
  rw[hk]at hkind HTK
  rw[if_pos rfl]at HTK
  have c0:=H0.out.bits.four.p0
  have hnl:=OK.out.nl
  have HLW:Hid (∀ x∈s.N,x<65536):=OK.out.low
  obtain⟨na,nc,hnv⟩:=own_slice H0.out.nums
  have HNV:Hid (nv=.slice na s.N.length nc):=hnv
  have hnb:=H0.out.nb
  have hnu:=H0.out.nums
  rw[hnv]at c0 hnb hnu
  have HNU:Hid (w.ownsRow base 3 1 (.slice na s.N.length nc) s.N.length (intsL s.N)):=hnu
  have h4:=H0.out.bits.four
  have HX:Hid (∀ w1:World,Kept (fun k=>(Value.slice na s.N.length nc).ownBlock=some k) w w1→w1.cell? ⟨b,0,none⟩=some (.slice na s.N.length nc)∧w1.frozen? ⟨b,0,none⟩=false):=fun w1 hk=>by
   have h5:=h4.keep hk (fun e=>hnb b e (.inl rfl))
   refine⟨?_,h5.frozen 0⟩
   rw[← HNV.out];exact h5.p0
  clear hnb h4 H39 HBT OK hnv hnu
  go_enter Tryz.func81,Tryz.ntmps81
  go_wp2_with fail
  refine hkind.mono ?_
  rintro e w' ⟨rfl,hw⟩
  have hw2:=hw.symm
  clear hw
  subst hw2
  clear hkind
  go_wp2_with (at_builtin;refine wpList_append_two _ rfl _ _ 30 rfl base 3 j0 (.int .i64 0) 8 Tryz.underlying30 hj hy0 hy1 hy2 rfl _ s.N.length (intsL s.N) rfl (HNU.out.alloc _) ⟨w.heap.size,0,none⟩ 1 (.int .i64 0) rfl ?d1 ?d2 ?d3 ?d4 ?d5 ?_)
  case d1=>exact World.news_of_block (heap_alloc_new _ _)
  case d2=>rfl
  case d3=>unfold maxLen;omega
  case d4=>omega
  case d5=>simp;omega
  intro g2 cap2 w2 hown hlt2 hd
  have hkk:Kept (fun k=>(Value.slice na s.N.length nc).ownBlock=some k) w w2:=((Kept.refl _ w).alloc _).grown (two_grown hd) (fun k h _=>h)
  obtain⟨c2,f2⟩:=HX.out w2 hkk
  have hto:(Value.slice (some ⟨g2,0,none⟩) (s.N.length+1) cap2).ownBlock=(Value.slice na s.N.length nc).ownBlock∨∀ g,(Value.slice (some ⟨g2,0,none⟩) (s.N.length+1) cap2).ownBlock=some g→w.heap.size≤g:=by
   rcases hd with⟨h1,_⟩|⟨h1,_⟩
   ·exact .inl h1.symm
   ·refine .inr fun g hg=>?_
    have:g2=g:=by simpa[Value.ownBlock] using hg
    omega
  rw[← HNV.out]at hkk hto
  obtain⟨hRa,hKa,hAa⟩:=H0.out.setN (N:=s.N++[0]) hkk (by rw[List.length_append,show intsL (s.N++[0])=intsL s.N++[.int .i64 0] by simp[intsL]];exact hown) hto
  have hR1:Hid (Rdg base (w2.setCell ⟨b,0,none⟩ (.slice (some ⟨g2,0,none⟩) (s.N.length+1) cap2)) b (.slice (some ⟨g2,0,none⟩) (s.N.length+1) cap2) tv wv av ⟨s.N++[0],s.T,s.K⟩ p):=hRa
  have hK1:Hid (Kept (rdP b nv tv wv av) w (w2.setCell ⟨b,0,none⟩ (.slice (some ⟨g2,0,none⟩) (s.N.length+1) cap2))):=hKa
  have hA1:Hid (∀ k,rdP b (.slice (some ⟨g2,0,none⟩) (s.N.length+1) cap2) tv wv av k→rdP b nv tv wv av k∨w.heap.size≤k):=hAa
  clear hown hd hkk hlt2 hto HX H0 hRa hKa hAa c0 HNU HNV
  go_wp2
  have hm:(s.N++[0]).length=s.N.length+1:=by simp
  have hlow:∀ x∈s.N++[0],x<65536:=fun x hx=>by
   rcases List.mem_append.1 hx with h1|h1
   ·exact HLW.out x h1
   ·simp at h1;omega
  have HEQ:Hid ((⟨lastA (s.N++[0]) x,s.T,s.K⟩:RSt)=⟨s.N++[x],s.T,s.K⟩):=by
   show _=_
   unfold lastA
   simp
  have hgv:(Value.slice (some ⟨g2,0,none⟩) (s.N.length+1) cap2)=.slice (some ⟨g2,0,none⟩) (s.N++[0]).length cap2:=by rw[hm]
  rw[hgv]at hR1 hA1 hK1 ⊢
  generalize w2.setCell ⟨b,0,none⟩ (.slice (some ⟨g2,0,none⟩) (s.N++[0]).length cap2)=w1 at *
  clear hgv c2 f2 HLW
  generalize s.N++[0]=N1 at *
  generalize s.N.length=m at *
  generalize hnv1:(Value.slice (some ⟨g2,0,none⟩) N1.length cap2)=nv1 at *
  clear hnv1
 case' inr.inr.inr.inr =>
  rw[hk]at hkind HTK
  rw[if_neg (by omega),if_pos rfl]at HTK
  have hlow:∀ x∈s.N,x<65536:=OK.out.low
  have hl0:=OK.out.last hk
  have hnl:=OK.out.nl
  obtain⟨m,hm⟩:∃ m,s.N.length=m+1:=⟨s.N.length-1,by omega⟩
  clear hl0
  rw[hm]at hnl
  have hR1:Hid (Rdg base w b nv tv wv av ⟨s.N,s.T,s.K⟩ p):=H0.out
  have hK1:Hid (Kept (rdP b nv tv wv av) w w):=Kept.refl _ _
  have hA1:Hid (∀ k,rdP b nv tv wv av k→rdP b nv tv wv av k∨w.heap.size≤k):=fun k hk=>.inl hk
  obtain⟨N1,hN1⟩:∃ N1,s.N=N1:=⟨_,rfl⟩
  have HEQ:Hid ((⟨lastA N1 x,s.T,s.K⟩:RSt)=⟨lastA s.N x,s.T,s.K⟩):=by show _=_;rw[hN1]
  rw[hN1]at hlow hm hR1
  obtain⟨w1,hw1⟩:∃ w1,w=w1:=⟨_,rfl⟩
  obtain⟨nv1,hnv1⟩:∃ nv1,nv=nv1:=⟨_,rfl⟩
  have HW1:Hid (w1=w):=hw1.symm
  rw[hw1,hnv1]at hR1
  have hK1:Hid (Kept (rdP b nv tv wv av) w w1):=by rw[← hw1];exact hK1
  have hA1:Hid (∀ k,rdP b nv1 tv wv av k→rdP b nv tv wv av k∨w.heap.size≤k):=by rw[← hnv1];exact hA1
  clear H39 HBT OK H0 hN1 hw1 hnv1
  go_enter Tryz.func81,Tryz.ntmps81
  go_wp2_with fail
  refine hkind.mono ?_
  rintro e w' ⟨rfl,hw⟩
  have hw2:=hw.symm
  clear hw
  subst hw2
  clear hkind
  go_wp2_with fail
  rw[← HW1.out]
  clear HW1
 all_goals
  have hz1:=hK1.out.size
  obtain⟨g,cap,hgv,_,_⟩:=hR1.out.nums.form (by show 0<N1.length;omega)
  subst hgv
  obtain⟨y,hy⟩:∃ y,N1[m]?=some y:=⟨_,List.getElem?_eq_getElem (by omega)⟩
  have hyl:=hlow y (List.mem_of_getElem? hy)
  have hN:=hR1.out.nums
  have d1:w1.cell? ⟨g,m,none⟩=some (.int .i64 (y:Nat)):=own_cell hN (by unfold intsL;rw[List.getElem?_map,hy];rfl)
  have f1:=own_frozen hN m
  have c0:=hR1.out.bits.four.p0
  have hor:=or_sh8 y x (by omega) (by omega)
  obtain⟨hR2,hK2⟩:=hR1.out.put m (y*256+x)
  have HLA:Hid (lastA N1 x=N1.set m (y*256+x)):=by
   show N1.set (N1.length-1) _=_
   rw[hm,show m+1-1=m by omega,List.getD_eq_getElem?_getD,hy];rfl
  have HR2:Hid (Rdg base (w1.setCell ⟨g,m,none⟩ (.int .i64 ((y*256+x:Nat):Int))) b (.slice (some ⟨g,0,none⟩) N1.length cap) tv wv av (tkA s i x) p):=by
   show Rdg _ _ _ _ _ _ _ _ _
   rw[HTK.out,← HEQ.out,HLA.out];exact hR2
  have HK2:Hid (Kept (rdP b nv tv wv av) w (w1.setCell ⟨g,m,none⟩ (.int .i64 ((y*256+x:Nat):Int)))):=hK1.out.trans' hK2 (fun k hk hp=>by
   rcases hA1.out k hp with h1|h1
   ·exact h1
   ·omega)
  rw[hm]at c0
  have hmi:((m+1:Nat):Int)-1=(m:Int):=by omega
  have hmi2:(m:Int)+1-1=(m:Int):=by omega
  clear hN hR1 hK1 hR2 hK2 hy HLA HEQ HTK hlow hz1
  go_wp2
  go_quiet (fail)
  go_wp2
  go_end0
  have hcast:(y:Int)*256+(x:Int)=((y*256+x:Nat):Int):=by omega
  rw[hcast]
  have hdr:Below (w1.setCell ⟨g,m,none⟩ (.int .i64 ((y*256+x:Nat):Int))).heap.size (w1.setCell ⟨g,m,none⟩ (.int .i64 ((y*256+x:Nat):Int))) ((w1.drewN nq).setCell ⟨g,m,none⟩ (.int .i64 ((y*256+x:Nat):Int))):=below_drewN (Below.refl _ _) nq
  exact⟨rfl,_,_,_,_,HR2.out.below hdr,HK2.out.trans' (Kept.of_below hdr (Nat.le_refl _) (fun _=>False)) (fun _ _ h=>h.elim),hA1.out⟩
end
end Go.Proofs.YtopihgmemnokkaaGreat
namespace Go.Proofs.YtopihgmemnokkaaGreat
open Go.RowKit Go.WideMaps
theorem conv_bys {w:World}{base:Nat}{v:Value}{l:List Nat}(h:w.ownsRow base 5 1 v l.length (u8L l)):(convert 55 9 v).run Tryz.prog w=.ok (.string (bys l)) w:=by
 unfold bys
 rcases h.2 with⟨hv,h0⟩|⟨g,cap,cur,hv,_⟩
 ·have hl:l=[]:=List.length_eq_zero_iff.1 h0
  subst hl;subst hv
  exact run_convert_bytes_nil (P:=Tryz.prog) (w:=w) 55 5 Tryz.underlying55 Tryz.underlying5 0 0 9 Tryz.underlying9
 ·subst hv
  exact run_convert_bytes_arg (P:=Tryz.prog) w 55 5 Tryz.underlying55 Tryz.underlying5 g 0 l.length cap (l.map fun n=>((n:Nat):Int)) (by simp) (by
     intro i hi
     have hi2:i<l.length:=by simpa using hi
     rw[Nat.zero_add,own_cell h (u:=.int .u8 (l[i]:Nat)) (by unfold u8L;rw[List.getElem?_map,List.getElem?_eq_getElem hi2];rfl)]
     simp[List.getElem?_eq_getElem hi2]) 9 Tryz.underlying9
theorem hitTo_is {k:Nat→List Bool}{x:List Bool}:∀ {n c:Nat},hitTo k x n=some c→k c=x
 | 0,c,h=>by simp[hitTo]at h
 |n+1,c,h=>by
  simp only[hitTo]at h
  rcases hh:hitTo k x n with _|c'
  ·rw[hh]at h
   by_cases e:k n=x
   ·simp[e]at h;rw[← h];exact e
   ·simp[e]at h
  ·rw[hh]at h
   have:c'=c:=by simpa using h
   rw[← this];exact hitTo_is hh
theorem hitTo_not {k:Nat→List Bool}{x:List Bool}:∀ {n:Nat},hitTo k x n=none→∀ c,c<n→k c≠x
 | 0,_,c,h=>by omega
 |n+1,h,c,hc=>by
  simp only[hitTo]at h
  rcases hh:hitTo k x n with _|c'
  ·rw[hh]at h
   by_cases e:k n=x
   ·simp[e]at h
   ·by_cases hcn:c=n
    ·rw[hcn];exact e
    ·exact hitTo_not hh c (by omega)
  ·rw[hh]at h;simp at h
theorem Byt.missG {w:World}{r:Nat}{G:Nat→Nat × Nat}(h:Byt w r G 256) (hG:Sized G){n b:Nat}(hn:n<9223372036854775808) (hb:b<18446744073709551616) (hno:∀ c,c<256→0<(G c).1→G c≠(n,b)) :
  (Instr.lookup 116 (.map (some r)) (runV n b) true).run Tryz.prog w=.ok (.tuple #[.int .u8 0,.bool false]) w:=by
 obtain⟨es,clock,h1,h2,h3⟩:=h
 obtain⟨l,hl⟩:=run_key (n:=n) (b:=b) hn hb
 have hkeys:∀ e∈es.toList,∃ l,keyOf Tryz.prog 114 e.key=some l:=fun e he=>by
  obtain⟨c,_,_,hk,_⟩:=h2 e he
  rw[hk];exact run_key (by have:=(hG c).1;omega) (hG c).2
 rcases runLaw.find w hl es.toList hkeys with⟨f1,f2⟩|⟨j,e0,f1,f2,f3⟩
 ·simp[Instr.lookup,run_underlying Tryz.underlying116,MapKept.run_getObj_map h1,runLaw.check w _ hl,f1,Result.andThen]
 ·obtain⟨d,hd,hdp,hk,hv⟩:=h2 e0 (List.mem_of_getElem? f2)
  refine absurd ?_ (hno d hd hdp)
  rw[f3]at hk
  have hk2:=runV_inj hk
  exact(Prod.ext hk2.1 hk2.2).symm
def wayM (x:List Bool):Nat:=(wayR x).2%18446744073709551616
theorem wayM_lt (x:List Bool):wayM x<18446744073709551616:=Nat.mod_lt _ (by decide)
theorem wayM_snoc (x:List Bool) (c:Bool):wayM (x++[c])=(2*wayM x+c.toNat)%18446744073709551616:=by
 unfold wayM
 rw[wayR_snoc]
 simp only
 omega
theorem wayM_short {x:List Bool}(h:x.length≤64):wayM x=(wayR x).2:=Nat.mod_eq_of_lt (wayR_lt x h)
theorem Byt.look {w:World}{r:Nat}{G:Nat→Nat × Nat}(h:Byt w r G 256) (hG:Cod G){x:List Bool}(hx:0<x.length) (hl:x.length≤1000000) :
  (Instr.lookup 116 (.map (some r)) (.agg #[.int .i64 (x.length:Nat),.int .u64 (wayM x:Nat)]) true).run Tryz.prog w=.ok (match hitTo (fun c=>bl (G c)) x 256 with|some c=>.tuple #[.int .u8 (c:Nat),.bool true]|none=>.tuple #[.int .u8 0,.bool false]) w:=by
 rcases hh:hitTo (fun c=>bl (G c)) x 256 with _|c
 ·simp only
  refine h.missG hG.sized (by omega) (wayM_lt x) (fun c hc hp e=>?_)
  have h1:(G c).1=x.length:=by rw[e]
  have h2:x.length≤64:=by have:=hG.len c;omega
  have h3:(G c).2=(wayR x).2:=by rw[e];exact wayM_short h2
  refine hitTo_not hh c hc ?_
  show bl (G c)=x
  have h4:=bl_app x 0 0
  have h5:G c=(0+x.length,numv 0 x):=Prod.ext (by rw[h1];show _=0+_;omega) h3
  rw[h5,h4];rfl
 ·simp only
  have h1:bl (G c)=x:=hitTo_is hh
  have hc:=hitTo_lt _ _ _ _ hh
  have h2:(G c).1=x.length:=by rw[← h1,bl_len]
  have h3:=hG.way c
  rw[h1]at h3
  have h4:wayM x=(G c).2:=by rw[wayM_short (by rw[← h2];exact hG.len c),h3]
  have h5:=h.hit hG.sized hG.inj hc (by omega) true
  unfold runV at h5
  rw[h2,← h4]at h5
  exact h5
set_option maxHeartbeats 1000000 in
theorem with_anyG (n b t:Nat) (w:World) (hn:n≤1000000) (ht:t≤1) :
  Calls Tryz.prog 116 #[.agg #[.int .i64 (n:Nat),.int .u64 (b:Nat)],.int .u64 (t:Nat)] w fun e w'=>e=.returned (.agg #[.int .i64 ((n+1:Nat):Int),.int .u64 (((2*b+t)%18446744073709551616:Nat):Int)])∧Below w.heap.size w w':=by
 go_enter Tryz.func116,Tryz.ntmps116
 go_wp2
 have e:bits BinOp.or IntKind.u64 (IntKind.u64.wrap (↑b*2)) ↑t=(((2*b+t)%18446744073709551616:Nat):Int):=by
  obtain⟨z,hz⟩:∃ z,2*b%18446744073709551616=2*z:=⟨b%9223372036854775808,by omega⟩
  rw[IntKind.wrap_u64,show (b:Int)*2%18446744073709551616=((2*z:Nat):Int) by omega,bits_or_u64_nat _ _ (by omega) (by omega),Bm.two_or _ _ ht]
  congr 1;omega
 rw[e]
 refine bodyPost_ret (results_cell_row Tryz.results116 _ _ (w.heap.size+1) 114 _ (0,0) _ rfl (heap_alloc_new' _ _ (by simp)) Tryz.underlying114 rfl runSize) rfl ⟨rfl,?_⟩
 exact((Below.refl _ _).alloc (Nat.le_refl _) _).alloc (by simp) _
end Go.Proofs.YtopihgmemnokkaaGreat
namespace Go.Proofs.YtopihgmemnokkaaGreat
open Go.RowKit
theorem uS_le (k:Nat→List Bool) (s:ByteArray):∀ i,(uS k s i).1.length≤i∧(uS k s i).2.length≤i
 | 0=>⟨Nat.le_refl _,Nat.le_refl _⟩
 |i+1=>by
  have ih:=uS_le k s i
  rcases hh:hitTo k ((uS k s i).2++[bitS s i]) 256 with _|c
  ·rw[uS_miss hh]
   simp only[List.length_append,List.length_cons,List.length_nil];omega
  ·rw[uS_hit hh]
   simp only[List.length_append,List.length_cons,List.length_nil];omega
section
variable {base:Nat}{w:World}{b:Nat}{nv tv wv av:Value}{s:RSt}{p:Nat→Bool}
set_option maxRecDepth 100000 in
set_option maxHeartbeats 2000000 in
theorem unpack_any (h:Rdg base w b nv tv wv av s p) (G:Nat→Nat × Nat) (hG:Cod G) (length:Nat) (hlen:length≤65535) (sd:ByteArray) (hp:∀ q,q<8*s.K→p q=bitS sd q) (hK:s.K≤10000) :
  Calls Tryz.prog 121 #[.pointer (some ⟨b,0,none⟩),.int .i64 (length:Nat),.agg (rowR G)] w fun e w'=>(∃ i,e=.returned (.string (bys (uS (fun c=>bl (G c)) sd i).1))∧StopA (fun c=>bl (G c)) sd s.K length i)∧Below w.heap.size w w':=by
 obtain⟨j0,hj,hy0,hy1,hy2⟩:=info_parts Tryz.info5
 have H0:Hid (Rdg base w b nv tv wv av s p):=h
 have HP:Hid (∀ q,q<8*s.K→p q=bitS sd q):=hp
 have HG:Hid (Cod G):=hG
 have hby:=cbytes_any G (w.alloc (.cells (rowR G) 115)) hG.sized
 have HM0:Hid ((w.alloc (.cells (rowR G) 115)).heap[w.heap.size]?=some (.cells (rowR G) 115 (0,0))):=heap_alloc_new _ _
 have HB0:Hid (Below w.heap.size w (w.alloc (.cells (rowR G) 115))):=(Below.refl _ _).alloc (Nat.le_refl _) _
 have hz0:(w.alloc (.cells (rowR G) 115)).heap.size=w.heap.size+1:=by simp
 clear h hp hG
 go_enter Tryz.func121,Tryz.ntmps121
 go_wp2_with (first
  | (refine wpList_load_row rfl 115 _ rfl w.heap.size rfl 115 (rowR G) (0,0) _ (by exact HM0.out) Tryz.underlying115 rfl (by rw[size_rowR];exact size512) ?_)
  | fail)
 refine hby.mono ?_
 rintro e w1 ⟨r,rfl,hY1,hr1,hb1⟩
 have hz1:=hb1.size
 have hB1:Below w.heap.size w w1:=HB0.out.trans (hb1.mono (by omega))
 have hr1':=hY1.lt
 have hal:Below w1.heap.size w1 (w1.alloc (.cells #[.int .i64 0,.int .u64 0] 114)):=(Below.refl _ _).alloc (Nat.le_refl _) _
 have HY:Hid (Byt (w1.alloc (.cells #[.int .i64 0,.int .u64 0] 114)) r G 256):=hY1.keep (Kept.of_below hal (Nat.le_refl _) (fun _=>False)) (fun h=>h)
 have HB:Hid (Below w.heap.size w (w1.alloc (.cells #[.int .i64 0,.int .u64 0] 114))):=hB1.trans (hal.mono (by omega))
 have HC:Hid ((w1.alloc (.cells #[.int .i64 0,.int .u64 0] 114)).heap[w1.heap.size]?=some (.cells #[.int .i64 0,.int .u64 0] 114 (0,0))):=heap_alloc_new _ _
 have hcr:r<w1.heap.size∧w.heap.size<w1.heap.size∧w.heap.size≤r:=⟨hr1',by omega,by omega⟩
 clear hby HM0 HB0 hz0 hY1 hb1 hB1 hr1 hr1' hal hz1
 generalize hcb:w1.heap.size=cb at *
 go_wp2
 clear hcb
 generalize w1.alloc (.cells #[.int .i64 0,.int .u64 0] 114)=w2 at *
 go_loopw [8,10] (fun tv' iv wr=>∃ i:Nat,i≤8*s.K∧iv=.int .i64 i∧Hid (wr.ownsRow (cb+1) 5 1 tv' (uS (fun c=>bl (G c)) sd i).1.length (u8L (uS (fun c=>bl (G c)) sd i).1))∧Hid (Byt wr r G 256)∧Hid (Below w.heap.size w wr) ∧
   Hid (wr.heap[cb]?=some (.cells #[.int .i64 ((uS (fun c=>bl (G c)) sd i).2.length:Nat),.int .u64 (wayM (uS (fun c=>bl (G c)) sd i).2:Nat)] 114 (0,0)))∧Hid (∀ j,j<i→goA (fun c=>bl (G c)) sd s.K length j)∧Hid (cb<wr.heap.size)) (fun _ iv _=>8*s.K-(intOf iv).toNat)
 case atStart=>exact⟨0,by omega,rfl,World.ownsRow_nil _ _ _ _,HY,HB,HC,fun j hj=>by omega,(Array.getElem?_eq_some_iff.1 HC.out).1⟩
 case round =>
  clear HY HB HC
  obtain⟨i,hi,rfl,OW,HY,HB,HC,HGO,HCZ⟩:=hrel
  obtain⟨hu1,hu2⟩:=uS_le (fun c=>bl (G c)) sd i
  have hL:=H0.out.bits.below HB.out
  have hsz:=size_any base wr b 2 [nv,tv] [] rfl _ wv av p (8*s.K) hL
  have hbb:=H0.out.bits.four.lt
  obtain⟨M,hM⟩:∃ M,8*s.K=M:=⟨_,rfl⟩
  have HM:Hid (8*s.K=M):=hM
  have hMl:M≤80000:=by omega
  rw[hM]at hsz hi
  obtain⟨acc,hacc⟩:∃ acc,(uS (fun c=>bl (G c)) sd i).1=acc:=⟨_,rfl⟩
  obtain⟨x,hx⟩:∃ x,(uS (fun c=>bl (G c)) sd i).2=x:=⟨_,rfl⟩
  rw[hacc]at OW hu1
  rw[hx]at HC hu2
  have HACC:Hid ((uS (fun c=>bl (G c)) sd i).1=acc):=hacc
  have HXX:Hid ((uS (fun c=>bl (G c)) sd i).2=x):=hx
  obtain⟨a5,p5,rfl⟩:=own_slice OW.out
  clear hacc hx hM
  by_cases hgo:i<M∧acc.length<length
  ·obtain⟨hg1,hg2⟩:=hgo
   have d1:decide ((i:Int)<(M:Int))=true:=decide_eq_true (by omega)
   have d2:decide ((acc.length:Int)<(length:Int))=true:=decide_eq_true (by omega)
   have hg1':(i:Int)<(M:Int):=by omega
   have hg2':(acc.length:Int)<(length:Int):=by omega
   have hbit:=lbit_any base wr b 2 [nv,tv] [] rfl _ wv av p (8*s.K) i hL (by rw[HM.out];exact hg1) (by rw[HM.out];omega)
   rw[HP.out i (by rw[HM.out];exact hg1)]at hbit
   have HBIT:Hid (∀ W,Below wr.heap.size wr W→Calls Tryz.prog 150 #[.pointer (some ⟨b,2,none⟩),.int .i64 (i:Nat)] W fun e w'=>e=.returned (.int .u64 ((bitS sd i).toNat:Nat))∧w'=W):=fun W hW=>by
    have h:=lbit_any base W b 2 [nv,tv] [] rfl _ wv av p (8*s.K) i (hL.below hW) (by rw[HM.out];exact hg1) (by rw[HM.out];omega)
    rw[HP.out i (by rw[HM.out];exact hg1)]at h
    exact h
   have hb1:(bitS sd i).toNat≤1:=Bool.toNat_le _
   have HWI:Hid (∀ W,Calls Tryz.prog 116 #[.agg #[.int .i64 (x.length:Nat),.int .u64 (wayM x:Nat)],.int .u64 ((bitS sd i).toNat:Nat)] W fun e w'=>e=.returned (.agg #[.int .i64 ((x++[bitS sd i]).length:Nat),.int .u64 (wayM (x++[bitS sd i]):Nat)])∧Below W.heap.size W w'):=fun W=>by
    have h:=with_anyG x.length (wayM x) (bitS sd i).toNat W (by omega) hb1
    rw[wayM_snoc,List.length_append]
    exact h
   have e0:wr.cell? ⟨cb,0,none⟩=some (.int .i64 (x.length:Nat)):=cell_of HC.out rfl
   have e1:wr.cell? ⟨cb,1,none⟩=some (.int .u64 (wayM x:Nat)):=cell_of HC.out rfl
   have HF:Hid (∀ W,Below wr.heap.size wr W→W.heap[cb]?=some (.cells #[.int .i64 (x.length:Nat),.int .u64 (wayM x:Nat)] 114 (0,0))):=fun W hW=>by rw[hW.block _ HCZ.out];exact HC.out
   clear hbit hL
   generalize hX:x++[bitS sd i]=X at *
   have HX:Hid (x++[bitS sd i]=X):=hX
   clear hX
   generalize (bitS sd i).toNat=bt at *
   go_wp2_with fail
   refine hsz.mono ?_
   rintro e w' ⟨rfl,hw⟩
   have hw2:=hw.symm
   clear hw
   subst hw2
   clear hsz
   go_wp2_with fail
   have bd0:Below wr.heap.size wr wr.drew:=(Below.refl _ _).drew
   go_region_with (first
    | (go_at_call 150;refine(HBIT.out _ (by assumption)).mono ?_;rintro e w5 ⟨rfl,rfl⟩)
    | (go_at_call 116;refine(HWI.out _).mono ?_;rintro e w6 ⟨rfl,hb6⟩;have hq:=HF.out w6 (bd0.trans hb6);have s0:=cell_of hq (i:=0) rfl;have s1:=cell_of hq (i:=1) rfl;have f0:=unfrozen hq 0;have f1:=unfrozen hq 1))
   all_goals
    have hb6':Below wr.heap.size wr w6:=bd0.trans hb6
    have hxl:X.length=x.length+1:=by rw[← HX.out,List.length_append];rfl
    have HC7:Hid (((w6.setCell ⟨cb,0,none⟩ (.int .i64 (X.length:Nat))).setCell ⟨cb,1,none⟩ (.int .u64 (wayM X:Nat))).heap[cb]?=some (.cells #[.int .i64 (X.length:Nat),.int .u64 (wayM X:Nat)] 114 (0,0))):=by
     show _=_
     simp[World.setCell,Array.getElem?_modify,hq]
    have hk7:Kept (fun k=>k=cb) wr ((w6.setCell ⟨cb,0,none⟩ (.int .i64 (X.length:Nat))).setCell ⟨cb,1,none⟩ (.int .u64 (wayM X:Nat))):=(((Kept.of_below hb6' (Nat.le_refl _) (fun k=>k=cb))).setCell (by rfl) _).setCell (by rfl) _
    have HY7:Hid (Byt ((w6.setCell ⟨cb,0,none⟩ (.int .i64 (X.length:Nat))).setCell ⟨cb,1,none⟩ (.int .u64 (wayM X:Nat))) r G 256):=HY.out.keep hk7 (by omega)
    have HB7:Hid (Below w.heap.size w ((w6.setCell ⟨cb,0,none⟩ (.int .i64 (X.length:Nat))).setCell ⟨cb,1,none⟩ (.int .u64 (wayM X:Nat)))):=hk7.bel HB.out (Nat.le_refl _) (fun k hk=>by omega)
    have OW7:Hid (((w6.setCell ⟨cb,0,none⟩ (.int .i64 (X.length:Nat))).setCell ⟨cb,1,none⟩ (.int .u64 (wayM X:Nat))).ownsRow (cb+1) 5 1 (.slice a5 acc.length p5) acc.length (u8L acc)):=own_keep OW.out hk7 (fun g hg e=>by have:=(OW.out.lt g hg).1;omega)
    have HZ7:Hid (cb<((w6.setCell ⟨cb,0,none⟩ (.int .i64 (X.length:Nat))).setCell ⟨cb,1,none⟩ (.int .u64 (wayM X:Nat))).heap.size):=Nat.lt_of_lt_of_le HCZ.out hk7.size
    generalize (w6.setCell ⟨cb,0,none⟩ (.int .i64 (X.length:Nat))).setCell ⟨cb,1,none⟩ (.int .u64 (wayM X:Nat))=w7 at *
    have hlk:=HY7.out.look HG.out (x:=X) (by omega) (by omega)
    have HLS:Hid (uS (fun c=>bl (G c)) sd i=(acc,x)):=Prod.ext HACC.out HXX.out
    have HGO2:Hid (∀ j,j<i+1→goA (fun c=>bl (G c)) sd s.K length j):=fun j hj=>by
     by_cases e:j=i
     ·subst e
      exact⟨by rw[HM.out];exact hg1,by rw[HACC.out];exact hg2⟩
     ·exact HGO.out j (by omega)
    have g0:w7.cell? ⟨cb,0,none⟩=some (.int .i64 (X.length:Nat)):=cell_of HC7.out rfl
    have g1:w7.cell? ⟨cb,1,none⟩=some (.int .u64 (wayM X:Nat)):=cell_of HC7.out rfl
    have hXl:X.length≤100000:=by omega
    clear hb6 hb6' hq s0 s1 f0 f1 hk7 bd0 HF HBIT HWI e0 e1 HY HB HC OW HCZ HGO
    rcases hh:hitTo (fun c=>bl (G c)) X 256 with _|c
    ·have HU:Hid (uS (fun c=>bl (G c)) sd (i+1)=(acc,X)):=by
      have h1:=uS_miss (k:=fun c=>bl (G c)) (s:=sd) (i:=i) (by rw[HLS.out];simp only;rw[HX.out];exact hh)
      rw[HLS.out]at h1
      simp only at h1
      rw[HX.out]at h1
      exact h1
     rw[hh]at hlk
     simp only at hlk
     clear hh hxl
     go_wp2
     exact⟨⟨i+1,by have:=HM.out;omega,by go_num,by rw[HU.out];exact OW7,HY7,HB7,by rw[HU.out];exact HC7,HGO2,HZ7⟩,by have:=HM.out;simp[intOf];omega⟩
    ·have HU:Hid (uS (fun c=>bl (G c)) sd (i+1)=(acc++[c],[])):=by
      have h1:=uS_hit (k:=fun c=>bl (G c)) (s:=sd) (i:=i) (by rw[HLS.out];simp only;rw[HX.out];exact hh)
      rw[HLS.out]at h1
      exact h1
     have hc:=hitTo_lt _ _ _ _ hh
     rw[hh]at hlk
     simp only at hlk
     clear hh hxl
     have hz7:=HZ7.out
     go_wp2_with (at_builtin;refine wpList_append_two _ rfl _ _ 55 rfl (cb+1) 5 j0 (.int .u8 0) 1 Tryz.underlying55 hj hy0 hy1 hy2 rfl _ acc.length (u8L acc) rfl (OW7.out.alloc _) ⟨w7.heap.size,0,none⟩ 1 (.int .u8 (c:Nat)) rfl ?d1 ?d2 ?d3 ?d4 ?d5 ?_)
     case d1=>exact World.news_of_block (heap_alloc_new _ _)
     case d2=>rfl
     case d3=>unfold maxLen;omega
     case d4=>omega
     case d5=>simp;omega
     intro g2 cap2 w8 hown hlt2 hd
     have hkk:Kept (fun k=>(Value.slice a5 acc.length p5).ownBlock=some k) w7 w8:=((Kept.refl _ w7).alloc _).grown (two_grown hd) (fun k h _=>h)
     have hlow:=OW7.out.lt
     have hq8:w8.heap[cb]?=some (.cells #[.int .i64 (X.length:Nat),.int .u64 (wayM X:Nat)] 114 (0,0)):=by
      rw[hkk.block _ hz7 (fun e=>by have:=(hlow cb e).1;omega)];exact HC7.out
     have s0:=cell_of hq8 (i:=0) rfl
     have s1:=cell_of hq8 (i:=1) rfl
     have f0:=unfrozen hq8 0
     have f1:=unfrozen hq8 1
     have HC9:Hid (((w8.setCell ⟨cb,0,none⟩ (.int .i64 0)).setCell ⟨cb,1,none⟩ (.int .u64 0)).heap[cb]?=some (.cells #[.int .i64 0,.int .u64 0] 114 (0,0))):=by
      show _=_
      simp[World.setCell,Array.getElem?_modify,hq8]
     have hk9:Kept (fun k=>k=cb) w8 ((w8.setCell ⟨cb,0,none⟩ (.int .i64 0)).setCell ⟨cb,1,none⟩ (.int .u64 0)):=((Kept.refl _ w8).setCell (by rfl) _).setCell (by rfl) _
     have HY9:Hid (Byt ((w8.setCell ⟨cb,0,none⟩ (.int .i64 0)).setCell ⟨cb,1,none⟩ (.int .u64 0)) r G 256):=(HY7.out.keep hkk (fun e=>by have:=(hlow r e).1;omega)).keep hk9 (by omega)
     have HB9:Hid (Below w.heap.size w ((w8.setCell ⟨cb,0,none⟩ (.int .i64 0)).setCell ⟨cb,1,none⟩ (.int .u64 0))):=hk9.bel (hkk.bel HB7.out (Nat.le_refl _) (fun k hk=>by have:=(hlow k hk).1;omega)) (Nat.le_refl _) (fun k hk=>by omega)
     have OW9:Hid (((w8.setCell ⟨cb,0,none⟩ (.int .i64 0)).setCell ⟨cb,1,none⟩ (.int .u64 0)).ownsRow (cb+1) 5 1 (.slice (some ⟨g2,0,none⟩) (acc.length+1) cap2) (acc++[c]).length (u8L (acc++[c]))):=by
      refine own_keep ?_ hk9 (fun g hg e=>?_)
      ·rw[List.length_append,show u8L (acc++[c])=u8L acc++[.int .u8 (c:Nat)] by simp[u8L]];exact hown
      ·have:=(hown.lt g hg).1;omega
     have HZ9:Hid (cb<((w8.setCell ⟨cb,0,none⟩ (.int .i64 0)).setCell ⟨cb,1,none⟩ (.int .u64 0)).heap.size):=Nat.lt_of_lt_of_le (Nat.lt_of_lt_of_le hz7 hkk.size) hk9.size
     clear hown hd hkk hlt2 hq8 hk9 hlow OW7 HY7 HB7 HC7 HZ7 g0 g1 hlk
     go_wp2
     exact⟨⟨i+1,by have:=HM.out;omega,by go_num,by rw[HU.out];exact OW9,HY9,HB9,by rw[HU.out];exact HC9,HGO2,HZ9⟩,by have:=HM.out;simp[intOf];omega⟩
  ·have hcv:=conv_bys OW.out
   have HST:Hid (StopA (fun c=>bl (G c)) sd s.K length i):=by
    refine⟨fun hg=>hgo ?_,HGO.out⟩
    obtain⟨q1,q2⟩:=hg
    rw[HM.out]at q1
    rw[HACC.out]at q2
    exact⟨q1,q2⟩
   have hno:¬ i<M∨(i<M∧¬ acc.length<length):=by omega
   clear hgo hL
   rcases hno with hn1|⟨hn1,hn2⟩
   ·have d1:decide ((i:Int)<(M:Int))=false:=decide_eq_false (by omega)
    have d1':¬ (i:Int)<(M:Int):=by omega
    go_wp2_with fail
    refine hsz.mono ?_
    rintro e w' ⟨rfl,hw⟩
    have hw2:=hw.symm
    clear hw
    subst hw2
    clear hsz
    go_wp2
    go_ret
    exact⟨⟨i,by rw[HACC.out];rfl,HST.out⟩,HB.out⟩
   ·have d1:decide ((i:Int)<(M:Int))=true:=decide_eq_true (by omega)
    have d1':(i:Int)<(M:Int):=by omega
    have d2:decide ((acc.length:Int)<(length:Int))=false:=decide_eq_false (by omega)
    have d2':¬ (acc.length:Int)<(length:Int):=by omega
    go_wp2_with fail
    refine hsz.mono ?_
    rintro e w' ⟨rfl,hw⟩
    have hw2:=hw.symm
    clear hw
    subst hw2
    clear hsz
    go_wp2
    go_ret
    exact⟨⟨i,by rw[HACC.out];rfl,HST.out⟩,HB.out⟩
end
end Go.Proofs.YtopihgmemnokkaaGreat
namespace Go.Proofs.YtopihgmemnokkaaGreat
open Go.RowKit
theorem hitTo_congr {k k':Nat→List Bool}(x:List Bool):∀ n,(∀ c,c<n→k c=k' c)→hitTo k x n=hitTo k' x n
 | 0,_=>rfl
 |n+1,h=>by
  simp only[hitTo]
  rw[hitTo_congr x n (fun c hc=>h c (by omega)),h n (by omega)]
theorem uS_congr {k k':Nat→List Bool}(s:ByteArray) (h:∀ c,c<256→k c=k' c):∀ i,uS k s i=uS k' s i
 | 0=>rfl
 |i+1=>by
  have ih:=uS_congr s h i
  have hh:=hitTo_congr ((uS k' s i).2++[bitS s i]) 256 h
  rcases hc:hitTo k' ((uS k' s i).2++[bitS s i]) 256 with _|c
  ·rw[uS_miss hc,uS_miss (by rw[ih,hh];exact hc),ih]
  ·rw[uS_hit hc,uS_hit (by rw[ih,hh];exact hc),ih]
theorem StopA.congr {k k':Nat→List Bool}{s:ByteArray}{K n i:Nat}(h:∀ c,c<256→k c=k' c) (hs:StopA k s K n i):StopA k' s K n i:=by
 have e:∀ j,goA k s K n j↔goA k' s K n j:=fun j=>by unfold goA;rw[uS_congr s h j]
 exact⟨fun hg=>hs.1 ((e i).2 hg),fun j hj=>(e j).1 (hs.2 j hj)⟩
def recF (s:RSt):Nat→Nat:=cfR s.T (s.N.drop 3) s.T.length
def recK (s:RSt) (c:Nat):List Bool:=bl (codesG (recF s) c)
structure RSt.Full (s:RSt):Prop where
 three:3≤s.N.length
 low:∀ x∈s.N,x<65536
 nl:s.N.length≤259
 tl:s.T.length≤256
 tb:∀ x∈s.T,x<256
 kl:s.K≤10000
theorem RSt.Full.f {s:RSt}(h:s.Full):∀ c,recF s c≤65535:=fun c=>cfR_le (fun x hx=>by have:=h.low x (List.mem_of_mem_drop hx);omega) _ c
theorem RSt.Full.wt {s:RSt}(h:s.Full):∀ t,(Hf.bytes t).Nodup→(∀ c∈Hf.bytes t,c<256)→Hf.wt (recF s) t≤17000000:=fun t hn hb=>by
 have h1:=wt_sm (recF s) t hn hb
 have h2:sm 256 (recF s)≤256*65535:=sm_bound (fun c _=>h.f c)
 omega
theorem recSize:(Tryz.prog.info? 72).map (·.size)=some 3:=by kernel_rfl
section
variable {base:Nat}{w:World}{b:Nat}{nv tv wv av:Value}{s:RSt}{p:Nat→Bool}
set_option maxRecDepth 100000 in
set_option maxHeartbeats 2000000 in
theorem record_any (h:Rdg base w b nv tv wv av s p) (ok:s.Full) (sd:ByteArray) (hp:∀ q,q<8*s.K→p q=bitS sd q){n0 n1 n2:Nat}(hn0:s.N[0]?=some n0) (hn1:s.N[1]?=some n1) (hn2:s.N[2]?=some n2) :
  Calls Tryz.prog 82 #[.pointer (some ⟨b,0,none⟩)] w fun e w'=>Below w.heap.size w w' ∧
   ((s.N.length-3<s.T.length∧e=.returned (.tuple #[.agg #[.int .i64 0,.int .i64 0,.string ByteArray.empty],.bool false])) ∨
   (s.T.length≤s.N.length-3∧∃ i,StopA (recK s) sd s.K n1 i∧e=.returned (.tuple #[.agg #[.int .i64 (n0:Nat),.int .i64 (n2:Nat),.string (bys (uS (recK s) sd i).1)],.bool true]))):=by
 have H0:Hid (Rdg base w b nv tv wv av s p):=h
 have HP:Hid (∀ q,q<8*s.K→p q=bitS sd q):=hp
 have OK:Hid s.Full:=ok
 have h3:=ok.three
 have hl0:=ok.low n0 (List.mem_of_getElem? hn0)
 have hl1:=ok.low n1 (List.mem_of_getElem? hn1)
 have hl2:=ok.low n2 (List.mem_of_getElem? hn2)
 obtain⟨m,hm⟩:∃ m,s.N.length=m+3:=⟨s.N.length-3,by omega⟩
 have hm256:m≤256:=by have:=ok.nl;omega
 have HMM:Hid (s.N.length=m+3):=hm
 have htl:=ok.tl
 have hal:Below w.heap.size w (w.alloc (.cells #[.int .i64 0,.int .i64 0,.string ⟨#[]⟩] 72)):=(Below.refl _ _).alloc (Nat.le_refl _) _
 have hR0:=h.below hal
 have hbx:(w.alloc (.cells #[.int .i64 0,.int .i64 0,.string ⟨#[]⟩] 72)).heap[w.heap.size]?=some (.cells #[.int .i64 0,.int .i64 0,.string ⟨#[]⟩] 72 (0,0)):=heap_alloc_new _ _
 obtain⟨g,cap,hgv,hg1,hg2⟩:=hR0.nums.form (by show 0<s.N.length;omega)
 subst hgv
 obtain⟨ta,tc,htv⟩:=own_slice hR0.there
 subst htv
 have c0:=hR0.bits.four.p0
 have c1:=hR0.bits.four.p1
 rw[hm]at c0
 have hnu:=hR0.nums
 have d0:=own_cell hnu (i:=0) (u:=.int .i64 (n0:Nat)) (by unfold intsL;rw[List.getElem?_map,hn0];rfl)
 have d1:=own_cell hnu (i:=1) (u:=.int .i64 (n1:Nat)) (by unfold intsL;rw[List.getElem?_map,hn1];rfl)
 have d2:=own_cell hnu (i:=2) (u:=.int .i64 (n2:Nat)) (by unfold intsL;rw[List.getElem?_map,hn2];rfl)
 have hcap:m+3≤cap∧cap≤9223372036854775807:=by
  rcases hnu.2 with⟨e,_⟩|⟨g',cap',cur,e,_,_,q1,q2,_⟩
  ·cases e
  ·injection e with e1 e2 e3
   rw[hm]at q1
   unfold maxLen at q2
   omega
 obtain⟨hcap1,hcap2⟩:=hcap
 have HX0:Hid ((w.alloc (.cells #[.int .i64 0,.int .i64 0,.string ⟨#[]⟩] 72)).heap[w.heap.size]?=some (.cells #[.int .i64 0,.int .i64 0,.string ⟨#[]⟩] 72 (0,0))):=hbx
 have HR0:Hid (Rdg base (w.alloc (.cells #[.int .i64 0,.int .i64 0,.string ⟨#[]⟩] 72)) b (.slice (some ⟨g,0,none⟩) s.N.length cap) (.slice ta s.T.length tc) wv av s p):=hR0
 have HAL:Hid (Below w.heap.size w (w.alloc (.cells #[.int .i64 0,.int .i64 0,.string ⟨#[]⟩] 72))):=hal
 have hz0:(w.alloc (.cells #[.int .i64 0,.int .i64 0,.string ⟨#[]⟩] 72)).heap.size=w.heap.size+1:=by simp
 clear h hp ok hal hR0 hbx hnu hm hn0 hn1 hn2
 go_enter Tryz.func82,Tryz.ntmps82
 go_wp2_with fail
 generalize w.alloc (.cells #[.int .i64 0,.int .i64 0,.string ⟨#[]⟩] 72)=w0 at *
 have hc3:cap=3∨3<cap:=by omega
 rcases hc3 with hc3|hc3
 case' inr =>
  have hc4:¬ cap=3:=by omega
  have hc5:¬ cap≤3:=by omega
  have hc6:¬ cap-3=0:=by omega
 all_goals
  go_quiet (fail)
  have bd:Below w0.heap.size w0 (w0.drewN nq):=below_drewN (Below.refl _ _) nq
  have HRq:Hid (Rdg base (w0.drewN nq) b (.slice (some ⟨g,0,none⟩) s.N.length cap) (.slice ta s.T.length tc) wv av s p):=HR0.out.below bd
  have HXq:Hid ((w0.drewN nq).heap[w.heap.size]?=some (.cells #[.int .i64 0,.int .i64 0,.string ⟨#[]⟩] 72 (0,0))):=HX0.out
  have HBq:Hid (Below w.heap.size w (w0.drewN nq)):=below_drewN HAL.out nq
  have hzq:w.heap.size<(w0.drewN nq).heap.size:=by show _<w0.heap.size;omega
  generalize w0.drewN nq=wq at *
  clear c1
  have c1:=HRq.out.bits.four.p1
  clear HR0 HX0 HAL bd c0 d0 d1 d2 hz0
  by_cases hlt:m<s.T.length
  ·have e1:decide ((m:Int)<(s.T.length:Int))=true:=decide_eq_true (by omega)
   have e1':(m:Int)<(s.T.length:Int):=by omega
   have x0:=cell_of HXq.out (i:=0) rfl
   have x1:=cell_of HXq.out (i:=1) rfl
   have x2:=cell_of HXq.out (i:=2) rfl
   have f0:=unfrozen HXq.out 0
   have f1:=unfrozen HXq.out 1
   have f2:=unfrozen HXq.out 2
   go_wp2
   have hW:(((wq.setCell ⟨w.heap.size,0,none⟩ (.int .i64 0)).setCell ⟨w.heap.size,1,none⟩ (.int .i64 0)).setCell ⟨w.heap.size,2,none⟩ (.string ⟨#[]⟩)).heap[w.heap.size]?=some (.cells #[.int .i64 0,.int .i64 0,.string ⟨#[]⟩] 72 (0,0)):=by
    simp[World.setCell,Array.getElem?_modify,HXq.out]
   refine bodyPost_ret (results_row_tmp Tryz.results82 _ _ w.heap.size 72 _ (0,0) _ rfl hW Tryz.underlying72 rfl recSize) rfl ⟨((HBq.out.setCell (by simp) _).setCell (by simp) _).setCell (by simp) _,.inl ⟨by have:=HMM.out;omega,rfl⟩⟩
  ·have e1:decide ((m:Int)<(s.T.length:Int))=false:=decide_eq_false (by omega)
   have e1':¬ (m:Int)<(s.T.length:Int):=by omega
   have hal:Below wq.heap.size wq (wq.alloc (.cells (rowC 256 fun _=>0) 120)):=(Below.refl _ _).alloc (Nat.le_refl _) _
   have c1a:(wq.alloc (.cells (rowC 256 fun _=>0) 120)).cell? ⟨b,1,none⟩=some (.slice ta s.T.length tc):=(HRq.out.below hal).bits.four.p1
   have HAQ:Hid (Below wq.heap.size wq (wq.alloc (.cells (rowC 256 fun _=>0) 120))):=hal
   have HROW:Hid (Row (wq.alloc (.cells (rowC 256 fun _=>0) 120)) wq.heap.size 120 256 (fun _=>0)):=Row.new _ _ _ _
   clear hal
   go_wp2_with (first
    | (refine wpList_alloc_row rfl 120 rfl _ zero256 ?_)
    | fail)
   generalize wq.alloc (.cells (rowC 256 fun _=>0) 120)=wk at *
   clear c1 c1a
   go_loopw [48] (fun iv wr=>∃ j:Nat,j≤s.T.length∧iv=.int .i64 j∧Hid (Row wr wq.heap.size 120 256 (cfR s.T (s.N.drop 3) j))∧Hid (Below wq.heap.size wq wr)) (fun iv _=>s.T.length-(intOf iv).toNat)
   case atStart=>exact⟨0,by omega,rfl,HROW,HAQ⟩
   case round =>
    clear HROW HAQ
    obtain⟨j,hj,rfl,HROW,HAQ⟩:=hrel
    by_cases hjt:j<s.T.length
    ·first
      | (exfalso;omega)
      |obtain⟨c,hc⟩:∃ c,s.T[j]?=some c:=⟨_,List.getElem?_eq_getElem hjt⟩
       obtain⟨v,hv⟩:∃ v,s.N[3+j]?=some v:=⟨_,List.getElem?_eq_getElem (by have:=HMM.out;omega)⟩
       have hRr:=HRq.out.below HAQ.out
       obtain⟨tg,tc',he,hct⟩:=own_u8 hRr.there hc
       injection he with he1 he2 he3
       subst he1
       have hnm:=HMM.out
       have hnu:=hRr.nums
       have dv:=own_cell hnu (i:=3+j) (u:=.int .i64 (v:Nat)) (by unfold intsL;rw[List.getElem?_map,hv];rfl)
       have hc256:=OK.out.tb c (List.mem_of_getElem? hc)
       have hvl:=OK.out.low v (List.mem_of_getElem? hv)
       have r0:=HROW.out.cell (i:=c) hc256
       have f0:=HROW.out.frozen c
       have HR2:Hid (Row (wr.setCell ⟨wq.heap.size,c,none⟩ (.int .i64 (v:Nat))) wq.heap.size 120 256 (cfR s.T (s.N.drop 3) (j+1))):=(HROW.out.set c v).congr fun e _=>by
        show Cc.put (cfR s.T (s.N.drop 3) j) c v e=Cc.put (cfR s.T (s.N.drop 3) j) (s.T.getD j 0) ((s.N.drop 3).getD j 0) e
        rw[List.getD_eq_getElem?_getD,List.getD_eq_getElem?_getD,hc,List.getElem?_drop,hv];rfl
       have HA2:Hid (Below wq.heap.size wq (wr.setCell ⟨wq.heap.size,c,none⟩ (.int .i64 (v:Nat)))):=HAQ.out.setCell (by simp) _
       have hjm:(j:Int)<(m:Int):=by omega
       have hjt':(j:Int)<(s.T.length:Int):=by omega
       have hci:(c:Int)<256:=by omega
       generalize cfR s.T (s.N.drop 3) j c=old at *
       clear hRr hnu hc hv hnm HROW HAQ
       go_wp2
       exact⟨⟨j+1,by omega,by go_num,HR2,HA2⟩,by simp[intOf];omega⟩
    ·have hj':j=s.T.length:=by omega
     subst hj'
     have HF:Hid (cfR s.T (s.N.drop 3) s.T.length=recF s):=rfl
     rw[HF.out]at HROW
     have hcd:=codes_ofG (codesG_of (recF s)) OK.out.wt
     have HCOD:Hid (Cod (capR (codesG (recF s)))):=capR_cod (codesG_of (recF s)) hcd
     have HOF:Hid (∀ W,Calls Tryz.prog 79 #[.agg (rowC 256 (recF s))] W fun e w'=>e=.returned (.agg (rowR (capR (codesG (recF s)))))∧Below W.heap.size W w'):=fun W=>by
      refine(of_anyG (recF s) W OK.out.wt (fun c=>by have:=OK.out.f c;omega)).mono ?_
      rintro e w' ⟨⟨G,he,hG⟩,hb⟩
      rw[codes_uniq hG]at he
      refine⟨?_,hb⟩
      rw[he,rowR_congr (h:=capR (codesG (recF s))) (fun c hc=>(capR_lt _ hc).symm)]
     have HKK:Hid (∀ c,c<256→bl (capR (codesG (recF s)) c)=recK s c):=fun c hc=>by rw[capR_lt _ hc];rfl
     clear hcd
     generalize capR (codesG (recF s))=G at *
     go_wp2_with (first
      | (refine wpList_load_row rfl 120 _ rfl wq.heap.size rfl 120 (rowC 256 (recF s)) (0,0) _ (by exact HROW.out) Tryz.underlying120 rfl (by rw[size_rowC];exact size256) ?_)
      | fail)
     refine(HOF.out wr).mono ?_
     rintro e w5 ⟨rfl,hb5⟩
     have hq5:Below wq.heap.size wq w5:=HAQ.out.trans (hb5.mono HAQ.out.size)
     have hun:=unpack_any (HRq.out.below hq5) G HCOD.out n1 (by omega) sd HP.out OK.out.kl
     have HQ5:Hid (Below wq.heap.size wq w5):=hq5
     clear hb5 hq5 HOF HROW HAQ
     go_wp2_with fail
     refine hun.mono ?_
     rintro e w6 ⟨⟨i,rfl,hst⟩,hb6⟩
     have hq6:Below wq.heap.size wq w6:=HQ5.out.trans (hb6.mono HQ5.out.size)
     have HX6:Hid (w6.heap[w.heap.size]?=some (.cells #[.int .i64 0,.int .i64 0,.string ⟨#[]⟩] 72 (0,0))):=by
      show _=_
      rw[hq6.block _ hzq];exact HXq.out
     have HB6:Hid (Below w.heap.size w w6):=HBq.out.trans (hq6.mono (by omega))
     have HS6:Hid (StopA (recK s) sd s.K n1 i):=hst.congr HKK.out
     have huu:uS (fun c=>bl (G c)) sd i=uS (recK s) sd i:=uS_congr sd HKK.out i
     have x0:=cell_of HX6.out (i:=0) rfl
     have x1:=cell_of HX6.out (i:=1) rfl
     have x2:=cell_of HX6.out (i:=2) rfl
     have f0:=unfrozen HX6.out 0
     have f1:=unfrozen HX6.out 1
     have f2:=unfrozen HX6.out 2
     rw[huu]
     clear hun hst hb6 hq6 huu
     generalize hst2:bys (uS (recK s) sd i).1=st at *
     have HST:Hid (bys (uS (recK s) sd i).1=st):=hst2
     clear hst2
     go_wp2
     have hW:(((w6.setCell ⟨w.heap.size,0,none⟩ (.int .i64 (n0:Nat))).setCell ⟨w.heap.size,1,none⟩ (.int .i64 (n2:Nat))).setCell ⟨w.heap.size,2,none⟩ (.string st)).heap[w.heap.size]?=some (.cells #[.int .i64 (n0:Nat),.int .i64 (n2:Nat),.string st] 72 (0,0)):=by
      simp[World.setCell,Array.getElem?_modify,HX6.out]
     refine bodyPost_ret (results_row_tmp Tryz.results82 _ _ w.heap.size 72 _ (0,0) _ rfl hW Tryz.underlying72 rfl recSize) rfl ⟨((HB6.out.setCell (by simp) _).setCell (by simp) _).setCell (by simp) _,.inr ⟨by have:=HMM.out;omega,i,HS6.out,?_⟩⟩
     rw[HST.out];rfl
end
end Go.Proofs.YtopihgmemnokkaaGreat
namespace Go.Proofs.YtopihgmemnokkaaGreat
open Go.RowKit Go.Lib
set_option maxHeartbeats 2000000 in
set_option maxRecDepth 100000 in
theorem grow_any (n:Nat) (hn:n≤1000000) (w:World) :
  Calls Tryz.prog 113 #[.slice none 0 0,.int .i64 (n:Nat)] w fun e w'=>∃ v,e=.returned v∧w'.ownsRow w.heap.size 5 1 v 0 []∧Below w.heap.size w w':=by
 obtain⟨i0,hi,hz0,hz1,hz2⟩:=info_parts Tryz.info5
 by_cases h0:n=0
 ·subst h0
  go_enter Tryz.func113,Tryz.ntmps113
  go_wp2
  go_ret
  exact⟨_,rfl,World.ownsRow_nil _ _ _ _,Below.refl _ _⟩
 ·have h1:¬ ((n:Int)<0):=by omega
  have h4:(n:Int) > 0:=by omega
  have hrz:∀ ty,(Builtin.append_ #[55,3] ty #[.slice none 0 0,.int .i64 (n:Int)]).run Tryz.prog w =
    .ok (.slice (some ⟨w.heap.size,0,none⟩) n (grownCap w n 0 5)) (w.drew.alloc (.cells (#[]++Builtin.zeroCells (Value.int .u8 0).cells n++Builtin.zeroCells (Value.int .u8 0).cells (grownCap w n 0 5-n)) 5)):=fun ty=>by
   have h:=Lib.run_append_grow_zeros (P:=Tryz.prog) w 55 3 ty 5 i0 (.int .u8 0) .i64 .i64 Tryz.underlying55 Tryz.underlying3 hi hz0 none 0 0 [] (run_firstCells_none w.drew i0.size 0 0 0) n (by omega) (by rw[hz1];decide) (by omega) (by omega) (by rw[hz2];omega) (growslice_fits (need:=0+n) (old:=0) (bytes:=i0.bytes) (by omega) (by rw[hz2];omega))
   simpa using h
  have hG63:grownCap w n 0 5≤maxLen:=grownCap_le_maxLen w n 0 5 (by unfold maxLen;omega)
  have hGn:n≤grownCap w n 0 5:=grownCap_ge w _ _ _
  generalize grownCap w n 0 5=G at *
  have hzc:(#[]++Builtin.zeroCells (Value.int .u8 0).cells n++Builtin.zeroCells (Value.int .u8 0).cells (G-n)).size=G:=by
   simp[Builtin.zeroCells,Value.cells];omega
  generalize (#[]++Builtin.zeroCells (Value.int .u8 0).cells n++Builtin.zeroCells (Value.int .u8 0).cells (G-n))=Z at *
  have HZ:Hid (Z.size=G):=hzc
  have hGi:G≤9223372036854775807:=by unfold maxLen at hG63;omega
  clear hzc
  go_enter Tryz.func113,Tryz.ntmps113
  go_wp2_with (at_builtin;refine Lib.wpList_append_run _ rfl _ _ _ _ rfl _ _ rfl rfl _ _ (hrz _) ?_)
  all_goals
   go_ret
   refine⟨_,rfl,⟨rfl,.inr ⟨w.heap.size,G,Z,rfl,Nat.le_refl _,heap_alloc_new' _ _ (by simp),by omega,hG63,by rw[HZ.out];omega,by simp⟩⟩,((Below.refl _ _).drew).alloc (by simp) _⟩
theorem u8L_app2 (a b:List Nat):u8L (a++b)=u8L a++u8L b:=by simp[u8L]
def joinL (vs:List (Value × List Nat)):List Nat:=vs.flatMap Prod.snd
theorem joinL_take (vs:List (Value × List Nat)){j:Nat}{v:Value}{l:List Nat}(h:vs[j]?=some (v,l)):joinL (vs.take (j+1))=joinL (vs.take j)++l:=by
 have e:vs.take (j+1)=vs.take j++[(v,l)]:=by rw[List.take_add_one,h];rfl
 rw[e];unfold joinL
 rw[List.flatMap_append];simp
theorem joinL_le (vs:List (Value × List Nat)) (j:Nat):(joinL (vs.take j)).length≤(joinL vs).length:=by
 have:joinL vs=joinL (vs.take j)++joinL (vs.drop j):=by
  unfold joinL
  rw[← List.flatMap_append,List.take_append_drop]
 rw[this,List.length_append];omega
theorem Srcs.below {w w':World}{v:Value}{m z:Nat}{news:List Value}(h:Srcs w v m z news) (hb:Below w.heap.size w w'):Srcs w' v m z news:=by
 rcases h with h|⟨ad,c,h1,h2,h3⟩
 ·exact .inl h
 ·exact .inr ⟨ad,c,h1,h2,fun j u hj=>cell_keep (Kept.of_below hb (Nat.le_refl _) (fun _=>False)) (h3 j u hj) (fun h=>h)⟩
theorem Srcs.len {w:World}{v:Value}{m z:Nat}{news:List Value}(h:Srcs w v m z news):∃ a c,v=.slice a m c:=by
 rcases h with⟨h1,h2,_⟩|⟨ad,c,h1,_⟩
 ·exact⟨none,0,by rw[h1,h2]⟩
 ·exact⟨_,_,h1⟩
set_option maxHeartbeats 2000000 in
set_option maxRecDepth 100000 in
theorem concat_any (vs:List (Value × List Nat)) (h cp:Nat) (w:World) (hc:∀ j v l,vs[j]?=some (v,l)→w.cell? ⟨h,j,none⟩=some v∧Srcs w v l.length 1 (u8L l)) (hl:vs.length≤100) (hn:(joinL vs).length≤1000000) :
  Calls Tryz.prog 76 #[.slice (some ⟨h,0,none⟩) vs.length cp] w fun e w'=>∃ v,e=.returned v∧w'.ownsRow w.heap.size 5 1 v (joinL vs).length (u8L (joinL vs))∧Below w.heap.size w w':=by
 obtain⟨i0,hi,hz0,hz1,hz2⟩:=info_parts Tryz.info5
 have HC:Hid (∀ j v l,vs[j]?=some (v,l)→w.cell? ⟨h,j,none⟩=some v∧Srcs w v l.length 1 (u8L l)):=hc
 clear hc
 go_enter Tryz.func76,Tryz.ntmps76
 go_wp2
 go_loopw [3,11] (fun nv iv wr=>∃ j:Nat,j≤vs.length∧iv=.int .i64 j∧nv=.int .i64 ((joinL (vs.take j)).length:Nat)∧wr=w) (fun _ iv _=>vs.length-(intOf iv).toNat)
 case atStart=>exact⟨0,by omega,rfl,rfl,rfl⟩
 case round =>
  obtain⟨j,hj,rfl,rfl,rfl⟩:=hrel
  have hle:=joinL_le vs j
  by_cases hlt:j<vs.length
  ·obtain⟨⟨v,l⟩,hx⟩:∃ x,vs[j]?=some x:=⟨_,List.getElem?_eq_getElem hlt⟩
   obtain⟨c0,s0⟩:=HC.out j v l hx
   have hst:=joinL_take vs hx
   have hle2:=joinL_le vs (j+1)
   rw[hst,List.length_append]at hle2
   have HST:Hid ((joinL (vs.take (j+1))).length=(joinL (vs.take j)).length+l.length):=by show _=_;rw[hst,List.length_append]
   obtain⟨a,c,rfl⟩:=s0.len
   generalize (joinL (vs.take j)).length=n0 at *
   have hge:¬ ((n0:Int)+(l.length:Int)<0):=by omega
   have hji:(j:Int)<(vs.length:Int):=by omega
   clear hst s0 hx
   go_wp2
   exact⟨⟨j+1,by omega,by go_num,by rw[HST.out];go_num,trivial⟩,by simp[intOf];omega⟩
  ·have hj':j=vs.length:=by omega
   subst hj'
   rw[List.take_length]
   go_wp2_with fail
   refine(grow_any _ hn _).mono ?_
   rintro e w1 ⟨v0,rfl,hown,hB⟩
   obtain⟨va,vc,rfl⟩:=own_slice hown
   have HO:Hid (w1.ownsRow wr.heap.size 5 1 (.slice va 0 vc) 0 []):=hown
   have HB:Hid (Below wr.heap.size wr w1):=hB
   clear hown hB hle
   obtain⟨W,rfl⟩:∃ W:World,W=wr:=⟨_,rfl⟩
   go_wp2
   go_loopw [6,27] (fun nv iv wq=>∃ j:Nat,j≤vs.length∧iv=.int .i64 j∧Hid (wq.ownsRow W.heap.size 5 1 nv (joinL (vs.take j)).length (u8L (joinL (vs.take j))))∧Hid (Below W.heap.size W wq)) (fun _ iv _=>vs.length-(intOf iv).toNat)
   case atStart=>exact⟨0,by omega,rfl,HO,HB⟩
   case round =>
    clear HO HB
    obtain⟨j,hj,rfl,OW,BL⟩:=hrel
    obtain⟨a5,p5,rfl⟩:=own_slice OW.out
    by_cases hlt:j<vs.length
    ·obtain⟨⟨v,l⟩,hx⟩:∃ x,vs[j]?=some x:=⟨_,List.getElem?_eq_getElem hlt⟩
     obtain⟨c1,s1⟩:=HC.out j v l hx
     have c0:=cell_keep (Kept.of_below BL.out (Nat.le_refl _) (fun _=>False)) c1 (fun h=>h)
     have HS0:Hid (Srcs wr v l.length 1 (u8L l)):=s1.below BL.out
     have HST:Hid (joinL (vs.take (j+1))=joinL (vs.take j)++l):=joinL_take vs hx
     have hle2:=joinL_le vs (j+1)
     rw[HST.out,List.length_append]at hle2
     obtain⟨a,c,rfl⟩:=s1.len
     generalize joinL (vs.take j)=acc at *
     have hji:(j:Int)<(vs.length:Int):=by omega
     have hz:=BL.out.size
     clear hx c1 s1
     go_wp2_with (at_builtin;refine wpList_append_srcs _ rfl _ _ 55 rfl W.heap.size 5 i0 (.int .u8 0) 1 1 Tryz.underlying55 hi hz0 hz1 hz2 rfl (by decide) _ acc.length (u8L acc) rfl OW.out _ l.length (u8L l) rfl HS0.out ?d1 ?d2 ?d3 ?d4 ?_)
     case d1=>intro u hu;simp[u8L]at hu;obtain⟨_,_,rfl⟩:=hu;rfl
     case d2=>unfold maxLen;omega
     case d3=>omega
     case d4=>exact hz
     intro v2 w2 hown hg hat
     obtain⟨a2,p2,rfl⟩:=own_slice hown
     have HB2:Hid (Below W.heap.size W w2):=BL.out.grown hg hz (fun q hq=>(OW.out.lt q hq).1)
     have HO2:Hid (w2.ownsRow W.heap.size 5 1 (.slice a2 (acc.length+l.length) p2) (joinL (vs.take (j+1))).length (u8L (joinL (vs.take (j+1))))):=by
      show World.ownsRow _ _ _ _ _ _ _
      rw[HST.out,List.length_append,u8L_app2];exact hown
     clear hown hg hat OW HS0 BL
     go_wp2
     exact⟨⟨j+1,by omega,by go_num,HO2,HB2⟩,by simp[intOf];omega⟩
    ·have hj':j=vs.length:=by omega
     subst hj'
     rw[List.take_length]at OW ⊢
     go_wp2
     go_ret
     exact⟨_,rfl,OW.out,BL.out⟩
end Go.Proofs.YtopihgmemnokkaaGreat
