import Derived.Test.YtopihgmemnokkaaGreatTWalk19J
namespace Go.Proofs.YtopihgmemnokkaaGreat
open Go.RowKit
/-! how the landed code reads an index's bytes -/
def kdA (i tl:Nat):Nat:=if i=0 then 0 else if 7≤i∧i<39 then 3 else if 39+2*tl≤i then 4 else if i%2=1 then 1 else 2
structure RSt where
 N:List Nat
 T:List Nat
 K:Nat
def flA (x least:Nat):Nat→List Nat
 | 0=>[]
 | i+1=>if x/2^i%2=1 then flA x least i++[least+i] else flA x least i
theorem flA_len (x least:Nat):∀ i,(flA x least i).length≤i
 | 0=>by simp[flA]
 | i+1=>by
  have:=flA_len x least i
  simp only[flA]
  split
  ·simp;omega
  ·omega
def lastA (N:List Nat) (x:Nat):List Nat:=N.set (N.length-1) (N.getD (N.length-1) 0*256+x)
def tkA (s:RSt) (i x:Nat):RSt :=
 if kdA i s.T.length=1 then ⟨s.N++[x],s.T,s.K⟩
 else if kdA i s.T.length=2 then ⟨lastA s.N x,s.T,s.K⟩
 else if kdA i s.T.length=3 then ⟨s.N,s.T++flA x (8*(i-7)) 8,s.K⟩
 else if kdA i s.T.length=4 then ⟨s.N,s.T,s.K+1⟩ else s
def rdA (d:ByteArray):Nat→RSt
 | 0=>⟨[],[],0⟩
 | i+1=>tkA (rdA d i) i (BY d i)
def tT (d:ByteArray):Nat→List Nat
 | 0=>[]
 | c+1=>if setB d c=1 then tT d c++[c] else tT d c
theorem tT_at (d:ByteArray):∀ c,atC d c=39+2*(tT d c).length
 | 0=>rfl
 | c+1=>by
  have:=tT_at d c
  simp only[atC,tT]
  split
  ·simp;omega
  ·exact this
theorem tT_len (d:ByteArray):∀ c,(tT d c).length≤c
 | 0=>by simp[tT]
 | c+1=>by
  have:=tT_len d c
  simp only[tT]
  split
  ·simp;omega
  ·omega
theorem tT_lt (d:ByteArray):∀ c x,x∈tT d c→x<c
 | 0,x,h=>by simp[tT]at h
 | c+1,x,h=>by
  simp only[tT]at h
  split at h
  ·rcases List.mem_append.1 h with h1|h1
   ·have:=tT_lt d c x h1;omega
   ·have:x=c:=by simpa using h1
    omega
  ·have:=tT_lt d c x h;omega
theorem tT_pre (d:ByteArray){c:Nat}:∀ m,c≤m→∃ r,tT d m=tT d c++r
 | 0,h=>⟨[],by
  have:c=0:=by omega
  subst this;simp⟩
 | m+1,h=>by
  by_cases e:c=m+1
  ·subst e;exact⟨[],by simp⟩
  ·obtain⟨r,hr⟩:=tT_pre d (c:=c) m (by omega)
   simp only[tT]
   split
   ·exact⟨r++[m],by rw[hr,List.append_assoc]⟩
   ·exact⟨r,hr⟩
theorem tT_here (d:ByteArray){c:Nat}(hc:c<256) (h:setB d c=1):(tT d 256).getD (tT d c).length 0=c:=by
 obtain⟨r,hr⟩:=tT_pre d (c:=c+1) 256 (by omega)
 rw[hr]
 simp only[tT]
 rw[if_pos h]
 simp
theorem tT_fl (d:ByteArray) (j:Nat):∀ i,i≤8→tT d (8*j+i)=tT d (8*j)++flA (BY d (7+j)) (8*j) i
 | 0,_=>by simp[flA]
 | i+1,hi=>by
  have ih:=tT_fl d j i (by omega)
  have hs:setB d (8*j+i)=BY d (7+j)/2^i%2:=by
   unfold setB
   rw[show (8*j+i)/8=j by omega,show (8*j+i)%8=i by omega]
  show (if setB d (8*j+i)=1 then tT d (8*j+i)++[8*j+i] else tT d (8*j+i))=_
  rw[hs,ih]
  simp only[flA]
  split
  ·rw[List.append_assoc]
  ·rfl
theorem rdA_7 (d:ByteArray):rdA d 7=⟨[numA d 1,numA d 3,numA d 5],[],0⟩:=by
 simp[rdA,tkA,kdA,lastA,numA]
theorem rdA_flags (d:ByteArray):∀ j,j≤32→rdA d (7+j)=⟨[numA d 1,numA d 3,numA d 5],tT d (8*j),0⟩
 | 0,_=>rdA_7 d
 | j+1,hj=>by
  have ih:=rdA_flags d j (by omega)
  show tkA (rdA d (7+j)) (7+j) (BY d (7+j))=_
  rw[ih]
  unfold tkA
  have hk:kdA (7+j) (tT d (8*j)).length=3:=by
   unfold kdA
   rw[if_neg (by omega),if_pos (by omega)]
  simp only[hk]
  rw[show 7+j-7=j by omega,← tT_fl d j 8 (Nat.le_refl _)]
  simp[Nat.mul_add]
def nvA (d:ByteArray) (m j:Nat):Nat:=if 39+2*j+1<m then numA d (39+2*j) else BY d (39+2*j)
def numsA (d:ByteArray) (m q:Nat):List Nat:=(List.range q).map (nvA d m)
theorem numsA_len (d:ByteArray) (m q:Nat):(numsA d m q).length=q:=by simp[numsA]
theorem numsA_congr (d:ByteArray){m m' q:Nat}(h:∀ j,j<q→nvA d m j=nvA d m' j):numsA d m q=numsA d m' q:=by
 unfold numsA
 exact List.map_congr_left fun j hj=>h j (by simpa using hj)
theorem nvA_lt (d:ByteArray) (m j:Nat):nvA d m j<65536:=by
 unfold nvA
 split
 ·exact numA_lt _ _
 ·have:=BY_le d (39+2*j);omega
theorem rdA_tail (d:ByteArray):∀ k,rdA d (39+k)=⟨[numA d 1,numA d 3,numA d 5]++numsA d (39+k) (min ((k+1)/2) (tT d 256).length),tT d 256,k-2*(tT d 256).length⟩
 | 0=>by
  have h:=rdA_flags d 32 (Nat.le_refl _)
  rw[show 39+0=7+32 from rfl,h]
  simp[numsA]
 | k+1=>by
  have ih:=rdA_tail d k
  generalize hl:(tT d 256).length=tl at *
  show tkA (rdA d (39+k)) (39+k) (BY d (39+k))=_
  rw[ih]
  unfold tkA
  simp only[hl]
  by_cases h4:2*tl≤k
  ·have hk:kdA (39+k) tl=4:=by
    unfold kdA
    rw[if_neg (by omega),if_neg (by omega),if_pos (by omega)]
   simp only[hk]
   rw[show min ((k+1)/2) tl=tl by omega,show min ((k+1+1)/2) tl=tl by omega,show k+1-2*tl=k-2*tl+1 by omega]
   rw[numsA_congr d (m:=39+k) (m':=39+(k+1)) (q:=tl) (fun j hj=>by
    unfold nvA
    rw[if_pos (by omega),if_pos (by omega)])]
   simp
  ·rcases Nat.mod_two_eq_zero_or_one k with h0|h1
   ·have hk:kdA (39+k) tl=1:=by
     unfold kdA
     rw[if_neg (by omega),if_neg (by omega),if_neg (by omega),if_pos (by omega)]
    simp only[hk]
    rw[show min ((k+1)/2) tl=k/2 by omega,show min ((k+1+1)/2) tl=k/2+1 by omega,show k+1-2*tl=k-2*tl by omega]
    have e:numsA d (39+(k+1)) (k/2+1)=numsA d (39+k) (k/2)++[BY d (39+k)]:=by
     rw[numsA_congr d (m:=39+k) (m':=39+(k+1)) (q:=k/2) (fun j hj=>by
      unfold nvA
      rw[if_pos (by omega),if_pos (by omega)])]
     unfold numsA
     rw[List.range_succ,List.map_append]
     congr 1
     simp only[List.map_cons,List.map_nil]
     unfold nvA
     rw[if_neg (by omega),show 39+2*(k/2)=39+k by omega]
    rw[e]
    simp
   ·have hk:kdA (39+k) tl=2:=by
     unfold kdA
     rw[if_neg (by omega),if_neg (by omega),if_neg (by omega),if_neg (by omega)]
    simp only[hk]
    rw[show min ((k+1)/2) tl=k/2+1 by omega,show min ((k+1+1)/2) tl=k/2+1 by omega,show k+1-2*tl=k-2*tl by omega]
    have e0:numsA d (39+k) (k/2+1)=numsA d (39+k) (k/2)++[BY d (39+2*(k/2))]:=by
     unfold numsA
     rw[List.range_succ,List.map_append]
     congr 1
     simp only[List.map_cons,List.map_nil]
     unfold nvA
     rw[if_neg (by omega)]
    have e1:numsA d (39+(k+1)) (k/2+1)=numsA d (39+k) (k/2)++[numA d (39+2*(k/2))]:=by
     rw[numsA_congr d (m:=39+k) (m':=39+(k+1)) (q:=k/2) (fun j hj=>by
      unfold nvA
      rw[if_pos (by omega),if_pos (by omega)])]
     unfold numsA
     rw[List.range_succ,List.map_append]
     congr 1
     simp only[List.map_cons,List.map_nil]
     unfold nvA
     rw[if_pos (by omega)]
    have el:lastA ([numA d 1,numA d 3,numA d 5]++numsA d (39+k) (k/2+1)) (BY d (39+k))=[numA d 1,numA d 3,numA d 5]++numsA d (39+(k+1)) (k/2+1):=by
     rw[e0,e1,← List.append_assoc,← List.append_assoc]
     generalize [numA d 1,numA d 3,numA d 5]++numsA d (39+k) (k/2)=l
     unfold lastA numA
     have hll:(l++[BY d (39+2*(k/2))]).length-1=l.length:=by simp
     rw[hll,List.set_append_right _ _ (Nat.le_refl _)]
     simp only[Nat.sub_self,List.set_cons_zero]
     rw[show 39+k=39+2*(k/2)+1 by omega]
     simp
    rw[el]
    simp
structure RSt.Ok (s:RSt) (i:Nat):Prop where
 low:∀ x∈s.N,x<65536
 last:kdA i s.T.length=2→0<s.N.length
 nl:s.N.length≤259
 tl:s.T.length≤256
 tb:∀ x∈s.T,x<256
 kl:s.K≤i
theorem rdA_ok (d:ByteArray) (i:Nat):(rdA d i).Ok i:=by
 have b1:=BY_le d 1
 have b3:=BY_le d 3
 have b5:=BY_le d 5
 have n1:=numA_lt d 1
 have n3:=numA_lt d 3
 have n5:=numA_lt d 5
 rcases Nat.lt_or_ge i 39 with h|h
 ·rcases Nat.lt_or_ge i 7 with h7|h7
  ·have h1:rdA d 1=⟨[],[],0⟩:=by simp[rdA,tkA,kdA]
   have h2:rdA d 2=⟨[BY d 1],[],0⟩:=by rw[rdA,h1];simp[tkA,kdA]
   have h3:rdA d 3=⟨[numA d 1],[],0⟩:=by rw[rdA,h2];simp[tkA,kdA,lastA,numA]
   have h4:rdA d 4=⟨[numA d 1,BY d 3],[],0⟩:=by rw[rdA,h3];simp[tkA,kdA]
   have h5:rdA d 5=⟨[numA d 1,numA d 3],[],0⟩:=by rw[rdA,h4];simp[tkA,kdA,lastA,numA]
   have h6:rdA d 6=⟨[numA d 1,numA d 3,BY d 5],[],0⟩:=by rw[rdA,h5];simp[tkA,kdA]
   have q:i=0∨i=1∨i=2∨i=3∨i=4∨i=5∨i=6:=by omega
   rcases q with rfl|rfl|rfl|rfl|rfl|rfl|rfl
   ·exact⟨by simp[rdA],by simp[kdA],by simp[rdA],by simp[rdA],by simp[rdA],by simp[rdA]⟩
   ·rw[h1];exact⟨by simp,by simp[kdA],by simp,by simp,by simp,by simp⟩
   ·rw[h2];exact⟨by simp;omega,by simp,by simp,by simp,by simp,by simp⟩
   ·rw[h3];exact⟨by simp;omega,by simp,by simp,by simp,by simp,by simp⟩
   ·rw[h4];exact⟨by simp;omega,by simp,by simp,by simp,by simp,by simp⟩
   ·rw[h5];exact⟨by simp;omega,by simp,by simp,by simp,by simp,by simp⟩
   ·rw[h6];exact⟨by simp;omega,by simp,by simp,by simp,by simp,by simp⟩
  ·obtain⟨j,rfl⟩:∃ j,i=7+j:=⟨i-7,by omega⟩
   rw[rdA_flags d j (by omega)]
   refine⟨by simp;omega,by simp,by simp,?_,fun x hx=>?_,by simp⟩
   ·have:=tT_len d (8*j);show (tT d (8*j)).length≤256;omega
   ·have:=tT_lt d (8*j) x hx;omega
 ·obtain⟨k,rfl⟩:∃ k,i=39+k:=⟨i-39,by omega⟩
  rw[rdA_tail d k]
  have hl:=tT_len d 256
  refine⟨fun x hx=>?_,by simp,?_,hl,fun x hx=>tT_lt d 256 x hx,by show k-_≤_;omega⟩
  ·rcases List.mem_append.1 hx with h1|h1
   ·simp at h1;omega
   ·unfold numsA at h1
    obtain⟨j,_,rfl⟩:=List.mem_map.1 h1
    exact nvA_lt _ _ _
  ·show ([numA d 1,numA d 3,numA d 5]++numsA d (39+k) (min ((k+1)/2) (tT d 256).length)).length≤259
   rw[List.length_append,numsA_len]
   simp only[List.length_cons,List.length_nil]
   omega
def cfR (T O:List Nat):Nat→Nat→Nat
 | 0=>fun _=>0
 | j+1=>Cc.put (cfR T O j) (T.getD j 0) (O.getD j 0)
theorem cfR_le {T O:List Nat}{B:Nat}(h:∀ x∈O,x≤B):∀ j c,cfR T O j c≤B
 | 0,c=>Nat.zero_le _
 | j+1,c=>by
  have:=cfR_le (T:=T) h j c
  show Cc.put _ _ _ c≤B
  unfold Cc.put
  split
  ·rw[List.getD_eq_getElem?_getD]
   rcases ho:O[j]? with _|x
   ·simp
   ·exact h x (List.mem_of_getElem? ho)
  ·exact this
theorem cfR_read {d:ByteArray}{O:List Nat}(hO:∀ j,j<(tT d 256).length→O.getD j 0=numA d (39+2*j)):∀ c,c≤256→cfR (tT d 256) O (tT d c).length=fTo d c
 | 0,_=>by
  funext c
  show 0=fTo d 0 c
  unfold fTo
  rw[if_neg (by omega)]
 | c+1,hc=>by
  have ih:=cfR_read hO c (by omega)
  obtain⟨r,hr⟩:=tT_pre d (c:=c+1) 256 (by omega)
  have hlen:=congrArg List.length hr
  rw[List.length_append]at hlen
  have hh:=fun h=>tT_here d (c:=c) (by omega) h
  have e1:tT d (c+1)=if setB d c=1 then tT d c++[c] else tT d c:=rfl
  clear hr
  generalize tT d 256=T at *
  funext e
  rw[← fTo_put d c e]
  rw[e1]at hlen ⊢
  by_cases h:setB d c=1
  ·rw[if_pos h]at hlen ⊢
   rw[List.length_append]at hlen ⊢
   simp only[List.length_cons,List.length_nil]at hlen ⊢
   show Cc.put (cfR T O (tT d c).length) (T.getD (tT d c).length 0) (O.getD (tT d c).length 0) e=_
   rw[ih,hh h,hO _ (by omega),← tT_at]
   unfold fD
   rw[if_pos h]
  ·rw[if_neg h,ih]
   unfold Cc.put fD
   rw[if_neg h]
   split
   ·next h1=>subst h1;unfold fTo;rw[if_neg (by omega)]
   ·rfl
def goA (k:Nat→List Bool) (s:ByteArray) (K n i:Nat):Prop:=i<8*K∧(uS k s i).1.length<n
def StopA (k:Nat→List Bool) (s:ByteArray) (K n i:Nat):Prop:=¬ goA k s K n i∧∀ j,j<i→goA k s K n j
theorem mar_read {d t:ByteArray}{r:Nat}(h:Mar d t r):(rdA d (d.size-4)).N=[r,t.size,fw t]++numsA d (d.size-4) (tT d 256).length∧(rdA d (d.size-4)).T=tT d 256∧(rdA d (d.size-4)).K=d.size-4-atC d 256 ∧
  cfR (tT d 256) (numsA d (d.size-4) (tT d 256).length) (tT d 256).length=cntB t t.size ∧
  ∀ i,StopA (kT t) (d.extract (atC d 256) d.size) (d.size-4-atC d 256) t.size i→bys (uS (kT t) (d.extract (atC d 256) d.size) i).1=trn t:=by
 obtain⟨hb,rfl⟩:=h
 have m:=isMar hb
 have hl:=mar_len hb
 have hat:=tT_at (mar t r) 256
 have hr:=rdA_tail (mar t r) ((mar t r).size-43)
 have hsz:=m.sz
 rw[show 39+((mar t r).size-43)=(mar t r).size-4 by omega]at hr
 rw[show min (((mar t r).size-43+1)/2) (tT (mar t r) 256).length=(tT (mar t r) 256).length by omega]at hr
 refine⟨?_,?_,?_,?_,fun i hi=>?_⟩
 ·rw[hr,m.n1,m.n3,m.n5]
 ·rw[hr]
 ·rw[hr]
  show _-_=_
  omega
 ·rw[cfR_read (fun j hj=>?_) 256 (Nat.le_refl _),m.f]
  unfold numsA
  rw[List.getD_eq_getElem?_getD,List.getElem?_map,List.getElem?_range hj]
  show nvA _ _ _=_
  unfold nvA
  rw[if_pos (by omega)]
 ·obtain⟨q1,q2⟩:=read_mar t r hb.1
  rw[m.rest]at hi ⊢
  have hK:(mar t r).size-4-atC (mar t r) 256=((bitsOf t).length+7)/8:=by omega
  rw[hK]at hi
  have h1:∀ j,j<(bitsOf t).length→goA (kT t) (bys (restM t r)) (((bitsOf t).length+7)/8) t.size j:=fun j hj=>by
   have h2:=q1.2 j hj
   unfold stopU at h2
   exact⟨by omega,by omega⟩
  have h3:¬ goA (kT t) (bys (restM t r)) (((bitsOf t).length+7)/8) t.size (bitsOf t).length:=fun h=>by
   have h4:=congrArg ByteArray.size q2
   rw[bys_size,trn_size]at h4
   have:=h.2
   omega
  have hi2:i=(bitsOf t).length:=by
   rcases Nat.lt_trichotomy i (bitsOf t).length with e|e|e
   ·exact absurd (h1 i e) hi.1
   ·exact e
   ·exact absurd (hi.2 _ e) h3
  rw[hi2]
  exact q2
theorem bits_eight (t:ByteArray) (ht:t.size≤1000):(bitsOf t).length≤8*t.size:=by
 have hw:∀ u,(Hf.bytes u).Nodup→(∀ c∈Hf.bytes u,c<256)→Hf.wt (cntB t t.size) u≤1000:=fun u hn _=>by
  rw[wt_list];exact Nat.le_trans (cnt_list t t.size _ hn) ht
 have CD:Codes (cntB t t.size) (kT t):=codes_of (codesG_of _) hw
 have h1:(bitsOf t).length=sm 256 fun c=>cntB t t.size c*(kT t c).length:=by
  rw[bits_len,← sm_cat]
  have:=trn_cnt t
  rw[trn_size]at this
  rw[this]
 have h2:=CD.opt 8 (fun _=>8) (fun c _ _=>⟨by omega,by omega⟩) (by
  have:(sm 256 fun c=>if 0<cntB t t.size c then 2^(8-8) else 0)≤sm 256 fun _=>1:=sm_le fun c _=>by
   show (if _ then 2^(8-8) else 0)≤1
   split <;> simp
  have h3:(sm 256 fun _=>1)≤256*1:=sm_bound (fun _ _=>Nat.le_refl 1)
  have h4:(2:Nat)^8=256:=by decide
  omega)
 have h5:(sm 256 fun c=>if 0<cntB t t.size c then cntB t t.size c*8 else 0)≤8*sm 256 (cntB t t.size):=by
  have q:∀ n,(sm n fun c=>if 0<cntB t t.size c then cntB t t.size c*8 else 0)≤8*sm n (cntB t t.size):=fun n=>by
   induction n with
   | zero=>exact Nat.le_refl _
   | succ n ih =>
    show sm n _+_≤8*(sm n _+_)
    show sm n (fun c=>if 0<cntB t t.size c then cntB t t.size c*8 else 0)+(if 0<cntB t t.size n then cntB t t.size n*8 else 0)≤_
    have:(if 0<cntB t t.size n then cntB t t.size n*8 else 0)≤8*cntB t t.size n:=by split <;> omega
    omega
  exact q 256
 have h6:=sm_cnt t
 omega
theorem mar_least {t:ByteArray}{r:Nat}(h:BuildOk t (r:Nat)):43≤(mar t r).size∧(mar t r).size≤1555:=by
 have h1:=mar_len h
 have h2:=atC_le (mar t r) 256
 have h3:=bits_eight t h.1
 have h4:=h.1
 exact⟨mar_size t r,by omega⟩
end Go.Proofs.YtopihgmemnokkaaGreat
