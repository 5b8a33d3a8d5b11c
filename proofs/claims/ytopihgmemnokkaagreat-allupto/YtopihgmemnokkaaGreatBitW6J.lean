import Derived.Test.YtopihgmemnokkaaGreatBitW4J
import Derived.Test.YtopihgmemnokkaaGreatShelf2J
import Derived.BigQuiet
import Derived.Test.YtopihgmemnokkaaGreatEndsJ
namespace Go.Proofs.YtopihgmemnokkaaGreat
open Go.RowKit
theorem cn_shift (p:Nat→Bool) (a r:Nat):Cc.cn (a+r) p=Cc.cn a p+Cc.cn r (fun i=>p (a+i)):=by
 induction r with
 | zero=>simp[Cc.cn]
 | succ r ih=>rw[← Nat.add_assoc];simp only[Cc.cn];rw[ih];omega
theorem onesCount_at (x:Int) (k:Nat) (hk:x=(k:Nat)) (w:World) (hx:k<18446744073709551616) :
  Calls Tryz.prog 139 #[.int .u64 x] w fun e w'=>e=.returned (.int .i64 (Lib.popAux 64 k:Nat))∧w'=w:=by
 subst hk;exact onesCount_any k w hx
set_option maxRecDepth 100000 in
set_option maxHeartbeats 1000000 in
theorem rank_any (base:Nat) (w:World) (b o:Nat) (pre post:List Value) (ho:pre.length=o) (ty:TypeId) (wv av:Value) (p:Nat→Bool) (n i:Nat) (h:BitL base w b pre post ty wv av p n) (hi:i≤n) (hb:n≤1099511627776) :
  Calls Tryz.prog 95 #[.pointer (some ⟨b,o,none⟩),.int .i64 (i:Nat)] w fun e w'=>e=.returned (.int .i64 (Cc.cn i p:Nat))∧Below w.heap.size w w':=by
 have c2:=h.four.c2 ho
 have c3:=h.four.c3 ho
 by_cases he:i=n
 ·subst he
  have hii:((i:Int) == (i:Int))=true:=by simp
  go_enter Tryz.func95,Tryz.ntmps95
  go_wp2
  go_ret
  exact⟨rfl,Below.refl _ _⟩
 ·have hii:((i:Int) == (n:Int))=false:=by simp;omega
  obtain⟨q,hq⟩:∃ q,i/64=q:=⟨_,rfl⟩
  obtain⟨r,hr⟩:∃ r,i%64=r:=⟨_,rfl⟩
  have hw:=h.words
  have ha:=h.ahead
  obtain⟨g,cap,rfl,_,_⟩:=hw.form (by omega)
  obtain⟨g2,cap2,rfl,_,_⟩:=ha.form (by omega)
  have c0:=h.four.c0 ho
  have c1:=h.four.c1 ho
  have d1:=own_cell hw (wordsL_get p (n:=n) (j:=q) (by omega))
  have d2:=own_cell ha (aheadL_get p (n:=n) (j:=q) (by omega))
  have hx:=Bm.wordAt_lt (fun i=>p (64*q+i)) (m:=min 64 (n-64*q)) (by omega)
  have hs:=Bm.wordAt_shr (fun i=>p (64*q+i)) (w:=r) (m:=min 64 (n-64*q)) (by omega) (by omega)
  have hp:=Bm.pop_pre (fun i=>p (64*q+i)) 64 r (by omega)
  have hpl:=Bm.pre_lt (fun i=>p (64*q+i)) r
  have hcn:=cn_shift p (64*q) r
  rw[show 64*q+r=i by omega]at hcn
  have hcl:=Cc.cn_le i p
  generalize Bm.wordAt (fun i=>p (64*q+i)) (min 64 (n-64*q))=X at *
  generalize hB:Bm.pre (fun i=>p (64*q+i)) r=B at *
  generalize Cc.cn (64*q) p=A at *
  have hqi:(i:Int)/64=(q:Nat):=by omega
  have hri:(i:Int)%64=(r:Nat):=by omega
  have hr64:r<64:=by omega
  have hqb:q≤17179869184:=by omega
  obtain⟨m,hm⟩:∃ m,(n+63)/64=m:=⟨_,rfl⟩
  have hqm:(q:Int)<(m:Int):=by omega
  have Hs:Hid (X/2^(64-r)=B):=hs
  have Hp:Hid (Lib.popAux 64 B=Cc.cn r (fun i=>p (64*q+i))):=hp
  have hB64:B<18446744073709551616:=by rw[← hs];exact Nat.lt_of_le_of_lt (Nat.div_le_self _ _) hx
  have Hcn:Hid (Cc.cn i p=A+Cc.cn r (fun i=>p (64*q+i))):=hcn
  have hpop:Lib.popAux 64 B≤i:=by rw[hp];omega
  rw[hm]at c0 c1
  clear hs hp hB hcn hm hq hr hw ha h he hpl
  have hcall:∀ W:World,Calls Tryz.prog 139 #[.int .u64 ((X:Int)/2^(64-r))] W fun e w'=>e=.returned (.int .i64 (Lib.popAux 64 B:Nat))∧w'=W:=fun W =>
   onesCount_at _ B (by rw[← Hs.out,Int.natCast_ediv,Int.natCast_pow];rfl) W hB64
  go_enter Tryz.func95,Tryz.ntmps95
  go_wp2_with fail
  go_quiet ((go_at_call 139;exact Calls.quiet_of_same (hcall _)))
  go_wp2
  go_ret
  refine⟨ret_int ?_,⟨rfl,rfl,rfl,Nat.le_refl _,fun _ _=>rfl⟩⟩
  have e1:=Hp.out
  have e2:=Hcn.out
  simp only[wrap64]
  omega
end Go.Proofs.YtopihgmemnokkaaGreat
namespace Go.Proofs.YtopihgmemnokkaaGreat
open Go.RowKit
theorem cn_down {P:Nat→Bool}(h:∀ a b,a≤b→P b=true→P a=true) (m:Nat):∀ j,j<m→(P j=true↔j<Cc.cn m P):=by
 induction m with
 | zero=>intro j hj;omega
 | succ m ih =>
  intro j hj
  have hle:=Cc.cn_le m P
  simp only[Cc.cn]
  cases hm:P m
  ·simp
   by_cases e:j=m
   ·subst e;rw[hm];simp;omega
   ·exact ih j (by omega)
  ·have hall:Cc.cn m P=m:=by
    have:Cc.cn m P=Cc.cn m (fun _=>true):=Cc.cn_congr (fun i hi=>h i m (by omega) hm)
    rw[this,Cc.cn_true]
   rw[hall]
   simp
   exact⟨fun _=>hj,fun _=>h j m (by omega) hm⟩
theorem lz_any (x i:Nat) (w:World) (hi:i≤63) (h1:2^(63-i)≤x) (h2:x<2^(64-i)) :
  Calls Tryz.prog 141 #[.int .u64 (x:Nat)] w fun e w'=>e=.returned (.int .i64 (i:Nat))∧w'=w:=by
 have hlt:x<18446744073709551616:=Nat.lt_of_lt_of_le h2 (Nat.le_trans (Nat.pow_le_pow_right (by omega) (show 64-i≤64 by omega)) (by decide))
 refine(Any.bits_LeadingZeros64 Tryz.lays134 (x:Nat) w (by omega) (by omega)).mono ?_
 rintro e w' ⟨rfl,rfl⟩
 refine⟨ret_int ?_,rfl⟩
 rw[show ((x:Int)).toNat=x from rfl,Bm.bitLen_hit hi h1 h2]
 omega
theorem search_any (w:World) (g cap k m:Nat) (f:Nat→Nat) (hc:∀ j,j<m→w.cell? ⟨g,j,none⟩=some (.int .i64 (f j:Nat))) (hg:g<w.heap.size) (hm:m<4611686018427387904) (hf:∀ a b,a≤b→f a≤f b) :
  Calls Tryz.prog 140 #[.slice (some ⟨g,0,none⟩) m cap,.int .i64 ((k:Int)+1)] w fun e w'=>e=.returned (.int .i64 (Cc.cn m (fun j=>decide (f j≤k)):Nat))∧Below w.heap.size w w':=by
 have hsz:(((List.range m).map fun j=>(f j:Int)).toArray).size=m:=by simp
 have hget:∀ i,i<m→(((List.range m).map fun j=>(f j:Int)).toArray)[i]! =(f i:Int):=fun i hi=>by
  rw[getElem!_pos _ i (by simpa using hi)];simp
 have:=Any.sort_SearchInts Tryz.searchInts g 0 cap (((List.range m).map fun j=>(f j:Int)).toArray) ((k:Int)+1) w
  (fun i hi=>by rw[hsz]at hi;rw[hget i hi,Nat.zero_add];exact hc i hi) hg (by rw[hsz];exact hm)
  (fun a b hab hb h=>by rw[hsz]at hb;rw[hget a (by omega)]at h;rw[hget b hb];have:=hf a b hab;simp at *;omega)
 rw[hsz]at this
 refine this.mono ?_
 rintro e w' ⟨rfl,h⟩
 refine⟨ret_int ?_,h⟩
 rw[Cc.cn_countP,List.countP_map]
 congr 1
 apply List.countP_congr
 intro a _
 simp
 omega
end Go.Proofs.YtopihgmemnokkaaGreat
namespace Go.Proofs.YtopihgmemnokkaaGreat
open Go.RowKit
theorem sel_word (p:Nat→Bool){n k c m:Nat}(hm:(n+63)/64=m) (hk:k<Cc.cn n p) (hc:Cc.cn m (fun j=>decide (Cc.cn (64*j) p≤k))=c) :
  ∃ d,c=d+1∧d<m∧64*d<n∧Cc.cn (64*d) p≤k∧k<Cc.cn (64*d+min 64 (n-64*d)) p:=by
 have hn:0<n:=by have:=Cc.cn_le n p;omega
 have hd:=cn_down (P:=fun j=>decide (Cc.cn (64*j) p≤k)) (fun a b hab h=>by
  have:=Cc.cn_le_bound (show 64*a≤64*b by omega) p
  simp at *;omega) m
 rw[hc]at hd
 have h0:=(hd 0 (by omega)).1 (by simp[Cc.cn])
 have hcm:c≤m:=by rw[← hc];exact Cc.cn_le _ _
 refine⟨c-1,by omega,by omega,by omega,?_,?_⟩
 ·have:=(hd (c-1) (by omega)).2 (by omega)
  simpa using this
 ·by_cases e:c=m
  ·rw[show 64*(c-1)+min 64 (n-64*(c-1))=n by omega];exact hk
  ·have h1:¬ c<c:=by omega
   have:=fun h=>h1 ((hd c (by omega)).1 h)
   rw[show 64*(c-1)+min 64 (n-64*(c-1))=64*c by omega]
   simp at this;omega
theorem clear_bit {R i:Nat}(hi:i≤63) (h1:2^(63-i)≤R) (h2:R<2^(64-i)):bits .andNot .u64 (R:Int) (IntKind.u64.wrap (2^(63-i)))=((R-2^(63-i):Nat):Int):=by
 have hlt:R<18446744073709551616:=Nat.lt_of_lt_of_le h2 (Nat.le_trans (Nat.pow_le_pow_right (by omega) (show 64-i≤64 by omega)) (by decide))
 have hs:=Bm.bit_or (s:=63-i) (by omega)
 have e:IntKind.u64.wrap (2^(63-i))=((2^(63-i):Nat):Int):=by
  have e1:(2:Int)^(63-i)=((2^(63-i):Nat):Int):=by rw[Int.natCast_pow];rfl
  rw[e1,IntKind.wrap_u64]
  generalize 2^(63-i)=Z at *
  omega
 rw[e,u64_andNot_nat _ _ hlt hs,Bm.drop_hit (by omega) h1 (by rw[show 63-i+1=64-i by omega];exact h2)]
set_option maxRecDepth 100000 in
set_option maxHeartbeats 1000000 in
theorem select_any (base:Nat) (w:World) (b o:Nat) (pre post:List Value) (ho:pre.length=o) (ty:TypeId) (wv av:Value) (p:Nat→Bool) (n k:Nat) (h:BitL base w b pre post ty wv av p n) (hk:k<Cc.cn n p) (hb:n≤1099511627776) :
  Calls Tryz.prog 97 #[.pointer (some ⟨b,o,none⟩),.int .i64 (k:Nat)] w fun e w'=>(∃ j:Nat,e=.returned (.int .i64 (j:Nat))∧j<n∧p j=true∧Cc.cn j p=k)∧Below w.heap.size w w':=by
 have hn:0<n:=by have:=Cc.cn_le n p;omega
 have hcl:=Cc.cn_le n p
 have hw:=h.words
 have ha:=h.ahead
 obtain⟨g,cap,rfl,_,_⟩:=hw.form (by omega)
 obtain⟨g2,cap2,rfl,_,hg2⟩:=ha.form (by omega)
 obtain⟨m,hm⟩:∃ m,(n+63)/64=m:=⟨_,rfl⟩
 obtain⟨c,hc⟩:∃ c,Cc.cn m (fun j=>decide (Cc.cn (64*j) p≤k))=c:=⟨_,rfl⟩
 obtain⟨d,rfl,hdm,hdn,hd1,hd2⟩:=sel_word p hm hk hc
 have hse:=search_any w g2 cap2 k m (fun j=>Cc.cn (64*j) p) (fun j hj=>own_cell ha (aheadL_get p (n:=n) (j:=j) (by omega))) hg2 (by omega) (fun a b hab=>Cc.cn_le_bound (by omega) p)
 rw[hc]at hse
 have c0:=h.four.c0 ho
 have c1:=h.four.c1 ho
 have d1:=own_cell hw (wordsL_get p (n:=n) (j:=d) hdn)
 have d2:=own_cell ha (aheadL_get p (n:=n) (j:=d) hdn)
 have hmm:min 64 (n-64*d)≤64:=by omega
 have hmn:64*d+min 64 (n-64*d)≤n:=by omega
 generalize min 64 (n-64*d)=mm at *
 rw[cn_shift]at hd2
 rw[hm]at c0 c1
 obtain⟨i0,_,hi0,hp0,hc0,hz0⟩:=Bm.next_one (fun i=>p (64*d+i)) (m:=mm) (t:=0) mm 0 (by omega) rfl (by omega)
 have hr0:=Bm.rest_skip (fun i=>p (64*d+i)) hmm 0 i0 (by omega) (fun j _ hj=>hz0 j (by omega) (by omega))
 have hwl:=Bm.wordAt_lt (fun i=>p (64*d+i)) hmm
 rw[Nat.zero_add,Nat.mod_eq_of_lt (show Bm.wordAt (fun i=>p (64*d+i)) mm<2^(64-0) from hwl)]at hr0
 obtain⟨A,hA⟩:∃ A,Cc.cn (64*d) p=A:=⟨_,rfl⟩
 obtain⟨W,hW⟩:∃ W,Bm.wordAt (fun i=>p (64*d+i)) mm=W:=⟨_,rfl⟩
 rw[hA]at d2 hd1 hd2
 rw[hW]at d1 hr0 hwl
 have HA:Hid (Cc.cn (64*d) p=A):=hA
 have HW:Hid (Bm.wordAt (fun i=>p (64*d+i)) mm=W):=hW
 have Hr0:Hid (W=W%2^(64-i0)):=hr0
 have hdb:d≤17179869184:=by omega
 have hAb:A≤1099511627776:=by omega
 have hkb:k≤1099511627776:=by omega
 have hdi:(d:Int)<(m:Int):=by omega
 have Hd2:Hid (k<A+Cc.cn mm (fun i=>p (64*d+i))):=hd2
 have Hc0:Hid (Cc.cn i0 (fun i=>p (64*d+i))=0):=hc0
 have Hp0:Hid (p (64*d+i0)=true):=hp0
 clear hA hW hr0 hd2 hc0 hp0 hz0 hc hm hw ha h
 go_enter Tryz.func97,Tryz.ntmps97
 go_wp2_with fail
 refine hse.mono ?_
 rintro e w1 ⟨rfl,hB⟩
 have kb:=Kept.of_below hB (Nat.le_refl _) (fun _=>False)
 have c0:=cell_keep kb c0 (fun h=>h)
 have c1:=cell_keep kb c1 (fun h=>h)
 have d1:=cell_keep kb d1 (fun h=>h)
 have d2:=cell_keep kb d2 (fun h=>h)
 clear hse kb
 go_wp2
 go_loopw [6,31] (fun r i wr=>∃ (t j R:Nat),t≤k-A∧i=.int .i64 t∧j<mm∧Hid (p (64*d+j)=true)∧Hid (Cc.cn j (fun i=>p (64*d+i))=t)∧r=.int .u64 (R:Nat)∧Hid (R=W%2^(64-j))∧wr=w1) (fun _ i _=>k-A-(intOf i).toNat)
 case atStart=>exact⟨0,i0,W,by omega,rfl,hi0,Hp0,Hc0,rfl,Hr0,rfl⟩
 case round =>
  obtain⟨t,j,R,ht,rfl,hj,hpj,hcj,rfl,hR,rfl⟩:=hrel
  have hit:=Bm.rest_hit (fun i=>p (64*d+i)) hj hmm hpj.out
  rw[HW.out,← hR.out]at hit
  obtain⟨g1,g2'⟩:=hit
  by_cases hlt:t<k-A
  ·have hlt':(t:Int)<(k:Int)-(A:Int):=by omega
   obtain⟨j',j1,j2,j3,j4,j5⟩:=Bm.next_one (fun i=>p (64*d+i)) (m:=mm) (t:=t+1) (mm-(j+1)) (j+1) (by omega) (by have:=hcj.out;have:=hpj.out;simp only[Cc.cn];rw[hcj.out,hpj.out];rfl) (by have:=Hd2.out;omega)
   have hskip:=Bm.rest_skip (fun i=>p (64*d+i)) hmm (j+1) (j'-(j+1)) (by omega) (fun i a b=>j5 i a (by omega))
   have hstep:=Bm.rest_step (fun i=>p (64*d+i)) hj hmm
   rw[HW.out]at hskip hstep
   rw[show j+1+(j'-(j+1))=j' by omega,show 64-(j+1)=63-j by omega]at hskip
   rw[hpj.out,← hR.out]at hstep
   have hval:=clear_bit (show j≤63 by omega) g1 g2'
   have hfin:R-2^(63-j)=W%2^(64-j'):=by rw[← hskip,hstep];simp
   rw[hfin]at hval
   clear hskip hstep hfin
   have J3:Hid (p (64*d+j')=true):=j3
   have J4:Hid (Cc.cn j' (fun i=>p (64*d+i))=t+1):=j4
   have Hval:Hid (bits .andNot .u64 (R:Int) (IntKind.u64.wrap (2^(63-j)))=((W%2^(64-j'):Nat):Int)):=hval
   clear j3 j4 j5 hval
   go_wp2_with fail
   refine(lz_any R j _ (by omega) g1 g2').mono ?_
   rintro e w' ⟨rfl,rfl⟩
   go_wp2
   rw[Hval.out]
   exact⟨⟨t+1,j',_,by omega,by go_num,j2,J3,J4,rfl,rfl,trivial⟩,by simp[intOf];omega⟩
  ·have ht':t=k-A:=by omega
   have hlt':¬ (t:Int)<(k:Int)-(A:Int):=by omega
   go_wp2_with fail
   refine(lz_any R j _ (by omega) g1 g2').mono ?_
   rintro e w' ⟨rfl,rfl⟩
   go_wp2
   go_ret
   have e1:=cn_shift p (64*d) j
   rw[HA.out,hcj.out]at e1
   exact⟨⟨64*d+j,ret_int (by omega),by omega,hpj.out,by omega⟩,hB⟩
end Go.Proofs.YtopihgmemnokkaaGreat
namespace Go.Proofs.YtopihgmemnokkaaGreat
open Go.RowKit
def oneAt (s:ByteArray) (i:Nat):Bool:=decide (BY s i=49)
def Plain (s:ByteArray):Prop:=∀ i,i<s.size→BY s i=48∨BY s i=49
def runsOf (p:Nat→Bool) (k:Nat):List (Nat × Nat):=(List.range (k/64)).map fun j=>(64,Bm.pre (fun i=>p (64*j+i)) 64)
def lastOf (p:Nat→Bool) (k:Nat):Nat:=Bm.pre (fun i=>p (64*(k/64)+i)) (k%64)
def flatR:List (Nat × Nat)→List Value
 | []=>[]
 | x :: l=>.int .i64 (x.1:Nat) :: .int .u64 (x.2:Nat) :: flatR l
theorem flatR_append (a b:List (Nat × Nat)):flatR (a++b)=flatR a++flatR b:=by
 induction a with
 | nil=>rfl
 | cons x a ih=>simp[flatR,ih]
theorem flatR_get:∀ (l:List (Nat × Nat)) (k:Nat) (x:Nat × Nat),l[k]?=some x→(flatR l)[k*2]?=some (.int .i64 (x.1:Nat))∧(flatR l)[k*2+1]?=some (.int .u64 (x.2:Nat))
 | [],k,x,h=>by simp at h
 | y :: l,0,x,h=>by simp at h;subst h;exact⟨rfl,rfl⟩
 | y :: l,k+1,x,h=>by
  have:=flatR_get l k x (by simpa using h)
  simp only[flatR]
  rw[show (k+1)*2=k*2+1+1 by omega]
  simpa using this
theorem runs_own {w:World}{base:Nat}{e:TypeId}{g n cap:Nat}{rs:List (Nat × Nat)}(h:w.ownsRow base e 2 (.slice (some ⟨g,0,none⟩) n cap) n (flatR rs)):Runs w g rs:=by
 intro k x hx
 obtain⟨h1,h2⟩:=flatR_get rs k x hx
 have a1:=h.cells (g:=g) rfl _ _ h1
 have a2:=h.cells (g:=g) rfl _ _ h2
 have e:∀ i,(⟨g,0,none⟩:Addr).add i=⟨g,i,none⟩:=fun i=>by
  unfold Addr.add
  by_cases h0:i=0
  ·subst h0;simp
  ·simp[h0]
 rw[e]at a1 a2
 exact⟨a1,a2⟩
theorem lastOf_step (p:Nat→Bool){k:Nat}(h:k%64+1<64):lastOf p (k+1)=2*lastOf p k+(p k).toNat∧(k+1)/64=k/64∧(k+1)%64=k%64+1:=by
 refine⟨?_,by omega,by omega⟩
 unfold lastOf
 rw[show (k+1)/64=k/64 by omega,show (k+1)%64=k%64+1 by omega]
 simp only[Bm.pre]
 rw[show 64*(k/64)+k%64=k by omega]
theorem lastOf_full (p:Nat→Bool){k:Nat}(h:k%64+1=64):lastOf p (k+1)=0∧(k+1)/64=k/64+1∧(k+1)%64=0∧runsOf p (k+1)=runsOf p k++[(64,2*lastOf p k+(p k).toNat)]:=by
 refine⟨?_,by omega,by omega,?_⟩
 ·unfold lastOf
  rw[show (k+1)%64=0 by omega];rfl
 ·unfold runsOf lastOf
  rw[show (k+1)/64=k/64+1 by omega,List.range_succ,List.map_append]
  congr 1
  simp only[List.map_cons,List.map_nil]
  have e:Bm.pre (fun i=>p (64*(k/64)+i)) 64=2*Bm.pre (fun i=>p (64*(k/64)+i)) (k%64)+(p k).toNat:=by
   have e0:∀ (m:Nat) (q:Nat→Bool),m+1=64→Bm.pre q 64=2*Bm.pre q m+(q m).toNat:=fun m q hm=>by rw[← hm];rfl
   rw[e0 (k%64) _ h,show 64*(k/64)+k%64=k by omega]
  rw[e]
theorem runsOf_step (p:Nat→Bool){k:Nat}(h:k%64+1<64):runsOf p (k+1)=runsOf p k:=by
 unfold runsOf;rw[show (k+1)/64=k/64 by omega]
theorem Tryz.info114:(Tryz.prog.info? 114).map (fun i=>(i.zero,i.size,i.bytes))=some (some (.agg #[.int .i64 0,.int .u64 0]),2,16):=by kernel_rfl
def LastBox (w:World) (B n t:Nat):Prop:=w.heap[B]?=some (.cells #[.int .i64 (n:Nat),.int .u64 (t:Nat)] 114 (0,0))
theorem box_put {w:World}{B:Nat}{x0 y0:Value}{ty:TypeId}(h:w.heap[B]?=some (.cells #[x0,y0] ty (0,0))) (x y:Value):((w.setCell ⟨B,0,none⟩ x).setCell ⟨B,1,none⟩ y).heap[B]?=some (.cells #[x,y] ty (0,0)):=by
 simp[World.setCell,Array.getElem?_modify,h]
theorem box_kept (w:World) (B:Nat) (x y:Value):Kept (fun a=>a=B) w ((w.setCell ⟨B,0,none⟩ x).setCell ⟨B,1,none⟩ y) :=
 ((Kept.refl (fun a=>a=B) w).setCell (show (⟨B,0,none⟩:Addr).block=B from rfl) x).setCell (show (⟨B,1,none⟩:Addr).block=B from rfl) y
theorem two_add {w:World}{x y:Value}{e:TypeId}{b:Nat}(hb:w.heap.size=b):∀ j u,[x,y][j]?=some u→(w.alloc (.cells #[x,y] e)).cell? ((⟨b,0,none⟩:Addr).add j)=some u:=by
 subst hb
 intro j u hu
 have e1:(⟨w.heap.size,0,none⟩:Addr).add j=⟨w.heap.size,j,none⟩:=by
  unfold Addr.add
  by_cases h0:j=0
  ·subst h0;simp
  ·simp[h0]
 rw[e1]
 have:=heap_alloc_new w (.cells #[x,y] e)
 unfold World.cell?
 rw[this]
 simpa using hu
set_option maxRecDepth 100000 in
set_option maxHeartbeats 2000000 in
theorem read_any (s:ByteArray) (w:World) (hs:s.size≤1099511627776) :
  Calls Tryz.prog 93 #[.string s] w fun e w'=>Below w.heap.size w w' ∧
   ((¬ Plain s∧e=.returned (.tuple #[.slice none 0 0,.bool false])) ∨
   (Plain s∧∃ g cap,e=.returned (.tuple #[.slice (some ⟨g,0,none⟩) (s.size/64+1) cap,.bool true])∧g<w'.heap.size∧Runs w' g (runsOf (oneAt s) s.size++[(s.size%64,lastOf (oneAt s) s.size)]))):=by
 obtain⟨i0,hi,hz0,hz1,hz2⟩:=info_parts Tryz.info114
 go_enter Tryz.func93,Tryz.ntmps93
 go_wp2
 go_loopw [4,6,7,10] (fun v _ _ i wr=>∃ k:Nat,k≤s.size∧i=.int .i64 k∧(∀ i,i<k→BY s i=48∨BY s i=49)∧wr.ownsRow (w.heap.size+1) 114 2 v (k/64) (flatR (runsOf (oneAt s) k))∧LastBox wr w.heap.size (k%64) (lastOf (oneAt s) k)∧Below w.heap.size w wr) (fun _ _ _ i _=>s.size-(intOf i).toNat)
 case atStart =>
  refine⟨0,by omega,rfl,fun i h=>by omega,World.ownsRow_nil _ _ _ _,?_,(Below.refl _ _).alloc (Nat.le_refl _) _⟩
  exact heap_alloc_new _ _
 case round =>
  obtain⟨k,hk,rfl,hpl,hown,hbox,hB⟩:=hrel
  by_cases hlt:k<s.size
  ·have hby:=BY_lt s hlt
   have c1:wr.cell? ⟨w.heap.size,0,none⟩=some (.int .i64 ((k%64:Nat):Int)):=by unfold LastBox at hbox;simp[World.cell?,hbox]
   have c2:wr.cell? ⟨w.heap.size,1,none⟩=some (.int .u64 (lastOf (oneAt s) k:Nat)):=by unfold LastBox at hbox;simp[World.cell?,hbox]
   by_cases h1:BY s k=49
   ·skip
    have hb1:(oneAt s k).toNat=1:=by unfold oneAt;simp[h1]
    have n1:((s[k].toNat:Int) == 49)=true:=by simp;omega
    have hwl:=hB.size
    have hwlt:w.heap.size<wr.heap.size:=by unfold LastBox at hbox;exact(Array.getElem?_eq_some_iff.1 hbox).1
    have Hst:Hid (BY s k=48∨BY s k=49):=.inr h1
    generalize hL:lastOf (oneAt s) k=T at *
    generalize hR:k%64=R at *
    have hT:T<2^R:=by rw[← hL,← hR];exact Bm.pre_lt _ _
    have HL:Hid (lastOf (oneAt s) k=T):=hL
    have HR:Hid (k%64=R):=hR
    have Hb1:Hid ((oneAt s k).toNat=1):=hb1
    have hR64:R<64:=by omega
    clear hL hR hb1 hby h1
    go_wp2_with fail
    refine(with_any R T 1 _ hR64 hT (by omega)).mono ?_
    rintro e w2 ⟨rfl,hB2⟩
    have hbox2:LastBox w2 w.heap.size R T:=by unfold LastBox at *;rw[hB2.block _ hwlt];exact hbox
    have hown2:=own_keep hown (Kept.of_below hB2 (Nat.le_refl _) (fun _=>False)) (fun _ _ h=>h)
    have hB3:Below w.heap.size w w2:=hB.trans (hB2.mono hwl)
    have hz3:=hB3.size
    have hwlt2:w.heap.size<w2.heap.size:=by unfold LastBox at hbox2;exact(Array.getElem?_eq_some_iff.1 hbox2).1
    have c1:w2.cell? ⟨w.heap.size,0,none⟩=some (.int .i64 (R:Nat)):=by unfold LastBox at hbox2;simp[World.cell?,hbox2]
    have c2:w2.cell? ⟨w.heap.size,1,none⟩=some (.int .u64 (T:Nat)):=by unfold LastBox at hbox2;simp[World.cell?,hbox2]
    have f1:w2.frozen? ⟨w.heap.size,0,none⟩=false:=by unfold LastBox at hbox2;simp[World.frozen?,hbox2]
    have f2:w2.frozen? ⟨w.heap.size,1,none⟩=false:=by unfold LastBox at hbox2;simp[World.frozen?,hbox2]
    clear hbox hB2 hown hB
    unfold runV
    by_cases hfull:R+1=64
    ·have hd:(((R+1:Nat):Int) == 64)=true:=by simp;omega
     obtain⟨q1,q2,q3,q4⟩:=lastOf_full (oneAt s) (k:=k) (by rw[HR.out];exact hfull)
     rw[HL.out,Hb1.out]at q4
     have hbx3:=box_put hbox2 (.int .i64 64) (.int .u64 (2*(T:Int)+1))
     have hk3:=box_kept w2 w.heap.size (.int .i64 64) (.int .u64 (2*(T:Int)+1))
     have hown3:=own_keep hown2 hk3 (fun a h1 h2=>by have:=(hown2.lt a h1).1;omega)
     have hB4:=hk3.bel hB3 (Nat.le_refl _) (fun a ha=>by omega)
     have hz4:((w2.setCell ⟨w.heap.size,0,none⟩ (.int .i64 64)).setCell ⟨w.heap.size,1,none⟩ (.int .u64 (2*(T:Int)+1))).heap.size=w2.heap.size:=by simp
     have Q2:Hid ((k+1)/64=k/64+1):=q2
     have Q3:Hid ((k+1)%64=0):=q3
     have Q4:Hid (runsOf (oneAt s) (k+1)=runsOf (oneAt s) k++[(64,2*T+1)]):=q4
     have Q1:Hid (lastOf (oneAt s) (k+1)=0):=q1
     have Hz4:Hid _:=hz4
     clear q1 q2 q3 q4 hz4
     go_wp2_with (at_builtin;refine wpList_append_own _ rfl _ _ 150 rfl (w.heap.size+1) 114 i0 _ 2 16 Tryz.underlying150 hi hz0 hz1 hz2 rfl (by decide) _ _ _ rfl (hown3.alloc _) ⟨w2.heap.size,0,none⟩ 1 1 [.int .i64 64,.int .u64 (2*(T:Int)+1)] rfl rfl ?c11 ?c21 ?c31 ?c41 ?c51 ?_)
     case c11=>exact two_add Hz4.out
     case c21=>intro u hu;simp at hu;rcases hu with rfl|rfl <;> rfl
     case c31=>unfold maxLen;omega
     case c41=>omega
     case c51=>simp;omega
     intro v' w4 hown4 hg4 _
     have hbx4:w4.heap[w.heap.size]?=some (.cells #[.int .i64 64,.int .u64 (2*(T:Int)+1)] 114 (0,0)):=by
      rw[hg4.block _ (by simp;omega) (fun e=>by have:=(hown3.lt _ e.symm).1;omega),Below.heap_alloc _ _ _ (by simp;omega)];exact hbx3
     have hB5:Below w.heap.size w w4:=(hB4.alloc (by rw[Hz4.out];omega) _).grown hg4 (by simp;omega) (fun a ha=>by have:=(hown3.lt a ha).1;omega)
     have d1:w4.cell? ⟨w.heap.size,0,none⟩=some (.int .i64 64):=by simp[World.cell?,hbx4]
     have d2:w4.cell? ⟨w.heap.size,1,none⟩=some (.int .u64 (2*(T:Int)+1)):=by simp[World.cell?,hbx4]
     have d3:w4.frozen? ⟨w.heap.size,0,none⟩=false:=by simp[World.frozen?,hbx4]
     have d4:w4.frozen? ⟨w.heap.size,1,none⟩=false:=by simp[World.frozen?,hbx4]
     clear hg4 hbx3 hk3 hown3 hB4 Hz4 hbox2 hown2 hB3 c1 c2 f1 f2
     go_wp2
     have hk5:=box_kept w4 w.heap.size (.int .i64 0) (.int .u64 0)
     have hown5:=own_keep hown4 hk5 (fun a h1 h2=>by have:=(hown4.lt a h1).1;omega)
     refine⟨⟨k+1,by omega,by go_num,fun i hi=>?_,?_,?_,hk5.bel hB5 (Nat.le_refl _) (fun a ha=>by omega)⟩,by simp[intOf];omega⟩
     ·by_cases e:i=k
      ·rw[e];exact Hst.out
      ·exact hpl i (by omega)
     ·rw[Q2.out,Q4.out,flatR_append];exact hown5
     ·rw[Q3.out,Q1.out];exact box_put hbx4 _ _
    ·have hd:(((R+1:Nat):Int) == 64)=false:=by simp;omega
     obtain⟨q1,q2,q3⟩:=lastOf_step (oneAt s) (k:=k) (by rw[HR.out];omega)
     have q4:=runsOf_step (oneAt s) (k:=k) (by rw[HR.out];omega)
     rw[HL.out,Hb1.out]at q1
     rw[HR.out]at q3
     have hbx3:=box_put hbox2 (.int .i64 ((R:Int)+1)) (.int .u64 (2*(T:Int)+1))
     have hk3:=box_kept w2 w.heap.size (.int .i64 ((R:Int)+1)) (.int .u64 (2*(T:Int)+1))
     have hown3:=own_keep hown2 hk3 (fun a h1 h2=>by have:=(hown2.lt a h1).1;omega)
     have hB4:=hk3.bel hB3 (Nat.le_refl _) (fun a ha=>by omega)
     have hrel2:((w2.setCell ⟨w.heap.size,0,none⟩ (.int .i64 ((R:Int)+1))).setCell ⟨w.heap.size,1,none⟩ (.int .u64 (2*(T:Int)+1))).ownsRow (w.heap.size+1) 114 2 u4 ((k+1)/64) (flatR (runsOf (oneAt s) (k+1))) ∧
       LastBox ((w2.setCell ⟨w.heap.size,0,none⟩ (.int .i64 ((R:Int)+1))).setCell ⟨w.heap.size,1,none⟩ (.int .u64 (2*(T:Int)+1))) w.heap.size ((k+1)%64) (lastOf (oneAt s) (k+1)):=by
      rw[q1,q2,q3,q4];exact⟨hown3,hbx3⟩
     clear q1 q2 q3 q4 hbx3 hk3 hown3
     go_wp2
     exact⟨⟨k+1,by omega,by go_num,fun i hi=>by
      by_cases e:i=k
      ·rw[e];exact Hst.out
      ·exact hpl i (by omega),hrel2.1,hrel2.2,hB4⟩,by simp[intOf];omega⟩
   ·by_cases h0:BY s k=48
    ·skip
     have hb1:(oneAt s k).toNat=0:=by unfold oneAt;simp[h0]
     have n1:((s[k].toNat:Int) == 49)=false:=by simp;omega
     have n0:((s[k].toNat:Int) == 48)=true:=by simp;omega
     have hwl:=hB.size
     have hwlt:w.heap.size<wr.heap.size:=by unfold LastBox at hbox;exact(Array.getElem?_eq_some_iff.1 hbox).1
     have Hst:Hid (BY s k=48∨BY s k=49):=.inl h0
     generalize hL:lastOf (oneAt s) k=T at *
     generalize hR:k%64=R at *
     have hT:T<2^R:=by rw[← hL,← hR];exact Bm.pre_lt _ _
     have HL:Hid (lastOf (oneAt s) k=T):=hL
     have HR:Hid (k%64=R):=hR
     have Hb1:Hid ((oneAt s k).toNat=0):=hb1
     have hR64:R<64:=by omega
     clear hL hR hb1 hby h1 h0
     go_wp2_with fail
     refine(with_any R T 0 _ hR64 hT (by omega)).mono ?_
     rintro e w2 ⟨rfl,hB2⟩
     have hbox2:LastBox w2 w.heap.size R T:=by unfold LastBox at *;rw[hB2.block _ hwlt];exact hbox
     have hown2:=own_keep hown (Kept.of_below hB2 (Nat.le_refl _) (fun _=>False)) (fun _ _ h=>h)
     have hB3:Below w.heap.size w w2:=hB.trans (hB2.mono hwl)
     have hz3:=hB3.size
     have hwlt2:w.heap.size<w2.heap.size:=by unfold LastBox at hbox2;exact(Array.getElem?_eq_some_iff.1 hbox2).1
     have c1:w2.cell? ⟨w.heap.size,0,none⟩=some (.int .i64 (R:Nat)):=by unfold LastBox at hbox2;simp[World.cell?,hbox2]
     have c2:w2.cell? ⟨w.heap.size,1,none⟩=some (.int .u64 (T:Nat)):=by unfold LastBox at hbox2;simp[World.cell?,hbox2]
     have f1:w2.frozen? ⟨w.heap.size,0,none⟩=false:=by unfold LastBox at hbox2;simp[World.frozen?,hbox2]
     have f2:w2.frozen? ⟨w.heap.size,1,none⟩=false:=by unfold LastBox at hbox2;simp[World.frozen?,hbox2]
     clear hbox hB2 hown hB
     unfold runV
     by_cases hfull:R+1=64
     ·have hd:(((R+1:Nat):Int) == 64)=true:=by simp;omega
      obtain⟨q1,q2,q3,q4⟩:=lastOf_full (oneAt s) (k:=k) (by rw[HR.out];exact hfull)
      rw[HL.out,Hb1.out]at q4
      have hbx3:=box_put hbox2 (.int .i64 64) (.int .u64 (2*(T:Int)))
      have hk3:=box_kept w2 w.heap.size (.int .i64 64) (.int .u64 (2*(T:Int)))
      have hown3:=own_keep hown2 hk3 (fun a h1 h2=>by have:=(hown2.lt a h1).1;omega)
      have hB4:=hk3.bel hB3 (Nat.le_refl _) (fun a ha=>by omega)
      have hz4:((w2.setCell ⟨w.heap.size,0,none⟩ (.int .i64 64)).setCell ⟨w.heap.size,1,none⟩ (.int .u64 (2*(T:Int)))).heap.size=w2.heap.size:=by simp
      have Q2:Hid ((k+1)/64=k/64+1):=q2
      have Q3:Hid ((k+1)%64=0):=q3
      have Q4:Hid (runsOf (oneAt s) (k+1)=runsOf (oneAt s) k++[(64,2*T+0)]):=q4
      have Q1:Hid (lastOf (oneAt s) (k+1)=0):=q1
      have Hz4:Hid _:=hz4
      clear q1 q2 q3 q4 hz4
      go_wp2_with (at_builtin;refine wpList_append_own _ rfl _ _ 150 rfl (w.heap.size+1) 114 i0 _ 2 16 Tryz.underlying150 hi hz0 hz1 hz2 rfl (by decide) _ _ _ rfl (hown3.alloc _) ⟨w2.heap.size,0,none⟩ 1 1 [.int .i64 64,.int .u64 (2*(T:Int))] rfl rfl ?c10 ?c20 ?c30 ?c40 ?c50 ?_)
      case c10=>exact two_add Hz4.out
      case c20=>intro u hu;simp at hu;rcases hu with rfl|rfl <;> rfl
      case c30=>unfold maxLen;omega
      case c40=>omega
      case c50=>simp;omega
      intro v' w4 hown4 hg4 _
      have hbx4:w4.heap[w.heap.size]?=some (.cells #[.int .i64 64,.int .u64 (2*(T:Int))] 114 (0,0)):=by
       rw[hg4.block _ (by simp;omega) (fun e=>by have:=(hown3.lt _ e.symm).1;omega),Below.heap_alloc _ _ _ (by simp;omega)];exact hbx3
      have hB5:Below w.heap.size w w4:=(hB4.alloc (by rw[Hz4.out];omega) _).grown hg4 (by simp;omega) (fun a ha=>by have:=(hown3.lt a ha).1;omega)
      have d1:w4.cell? ⟨w.heap.size,0,none⟩=some (.int .i64 64):=by simp[World.cell?,hbx4]
      have d2:w4.cell? ⟨w.heap.size,1,none⟩=some (.int .u64 (2*(T:Int))):=by simp[World.cell?,hbx4]
      have d3:w4.frozen? ⟨w.heap.size,0,none⟩=false:=by simp[World.frozen?,hbx4]
      have d4:w4.frozen? ⟨w.heap.size,1,none⟩=false:=by simp[World.frozen?,hbx4]
      clear hg4 hbx3 hk3 hown3 hB4 Hz4 hbox2 hown2 hB3 c1 c2 f1 f2
      go_wp2
      have hk5:=box_kept w4 w.heap.size (.int .i64 0) (.int .u64 0)
      have hown5:=own_keep hown4 hk5 (fun a h1 h2=>by have:=(hown4.lt a h1).1;omega)
      refine⟨⟨k+1,by omega,by go_num,fun i hi=>?_,?_,?_,hk5.bel hB5 (Nat.le_refl _) (fun a ha=>by omega)⟩,by simp[intOf];omega⟩
      ·by_cases e:i=k
       ·rw[e];exact Hst.out
       ·exact hpl i (by omega)
      ·rw[Q2.out,Q4.out,flatR_append];exact hown5
      ·rw[Q3.out,Q1.out];exact box_put hbx4 _ _
     ·have hd:(((R+1:Nat):Int) == 64)=false:=by simp;omega
      obtain⟨q1,q2,q3⟩:=lastOf_step (oneAt s) (k:=k) (by rw[HR.out];omega)
      have q4:=runsOf_step (oneAt s) (k:=k) (by rw[HR.out];omega)
      rw[HL.out,Hb1.out]at q1
      rw[HR.out]at q3
      have hbx3:=box_put hbox2 (.int .i64 ((R:Int)+1)) (.int .u64 (2*(T:Int)))
      have hk3:=box_kept w2 w.heap.size (.int .i64 ((R:Int)+1)) (.int .u64 (2*(T:Int)))
      have hown3:=own_keep hown2 hk3 (fun a h1 h2=>by have:=(hown2.lt a h1).1;omega)
      have hB4:=hk3.bel hB3 (Nat.le_refl _) (fun a ha=>by omega)
      have hrel2:((w2.setCell ⟨w.heap.size,0,none⟩ (.int .i64 ((R:Int)+1))).setCell ⟨w.heap.size,1,none⟩ (.int .u64 (2*(T:Int)))).ownsRow (w.heap.size+1) 114 2 u4 ((k+1)/64) (flatR (runsOf (oneAt s) (k+1))) ∧
        LastBox ((w2.setCell ⟨w.heap.size,0,none⟩ (.int .i64 ((R:Int)+1))).setCell ⟨w.heap.size,1,none⟩ (.int .u64 (2*(T:Int)))) w.heap.size ((k+1)%64) (lastOf (oneAt s) (k+1)):=by
       rw[q1,q2,q3,q4];exact⟨hown3,hbx3⟩
      clear q1 q2 q3 q4 hbx3 hk3 hown3
      go_wp2
      exact⟨⟨k+1,by omega,by go_num,fun i hi=>by
       by_cases e:i=k
       ·rw[e];exact Hst.out
       ·exact hpl i (by omega),hrel2.1,hrel2.2,hB4⟩,by simp[intOf];omega⟩
    ·have n1:((s[k].toNat:Int) == 49)=false:=by simp;omega
     have n0:((s[k].toNat:Int) == 48)=false:=by simp;omega
     clear c1 c2
     go_wp2
     go_ret2
     exact⟨hB,.inl ⟨fun h=>by rcases h k hlt with h|h <;> contradiction,rfl⟩⟩
  ·have hk':k=s.size:=by omega
   subst hk'
   have c1:wr.cell? ⟨w.heap.size,0,none⟩=some (.int .i64 ((s.size%64:Nat):Int)):=by unfold LastBox at hbox;simp[World.cell?,hbox]
   have c2:wr.cell? ⟨w.heap.size,1,none⟩=some (.int .u64 (lastOf (oneAt s) s.size:Nat)):=by unfold LastBox at hbox;simp[World.cell?,hbox]
   have hwlt:w.heap.size<wr.heap.size:=by unfold LastBox at hbox;exact(Array.getElem?_eq_some_iff.1 hbox).1
   generalize hL:lastOf (oneAt s) s.size=T at *
   generalize hR:s.size%64=R at *
   have HL:Hid (lastOf (oneAt s) s.size=T):=hL
   have HR:Hid (s.size%64=R):=hR
   clear hL hR
   go_wp2_with (at_builtin;refine wpList_append_own _ rfl _ _ 150 rfl (w.heap.size+1) 114 i0 _ 2 16 Tryz.underlying150 hi hz0 hz1 hz2 rfl (by decide) _ _ _ rfl (hown.alloc _) ⟨wr.heap.size,0,none⟩ 1 1 [.int .i64 (R:Nat),.int .u64 (T:Nat)] rfl rfl ?c1e ?c2e ?c3e ?c4e ?c5e ?_)
   case c1e=>exact two_add rfl
   case c2e=>intro u hu;simp at hu;rcases hu with rfl|rfl <;> rfl
   case c3e=>unfold maxLen;omega
   case c4e=>omega
   case c5e=>simp;omega
   intro v' w4 hown4 hg4 _
   have hB5:Below w.heap.size w w4:=(hB.alloc (by omega) _).grown hg4 (by simp;omega) (fun a ha=>by have:=(hown.lt a ha).1;omega)
   obtain⟨g,cap,rfl,_,hg⟩:=hown4.form (by omega)
   go_wp2
   go_ret2
   refine⟨hB5,.inr ⟨hpl,g,cap,rfl,hg,runs_own (e:=114) (base:=w.heap.size+1) (n:=s.size/64+1) (cap:=cap) ?_⟩⟩
   rw[flatR_append,HR.out,HL.out]
   exact hown4
end Go.Proofs.YtopihgmemnokkaaGreat
namespace Go.Proofs.YtopihgmemnokkaaGreat
open Go.RowKit
theorem pre_bit (q:Nat→Bool){i m:Nat}(h:i<m):Bm.pre q m/2^(m-1-i)%2=(q i).toNat:=by
 have:=Bm.pre_div q (i+1) (m-1-i)
 rw[show i+1+(m-1-i)=m by omega]at this
 rw[this]
 have hb:(q i).toNat≤1:=Bool.toNat_le _
 simp only[Bm.pre];omega
theorem runsOf_len (p:Nat→Bool) (n:Nat):(runsOf p n).length=n/64:=by simp[runsOf]
theorem rsum_runs (p:Nat→Bool) (n k:Nat) (h:k≤n/64) (l:List (Nat × Nat)):rsum ((runsOf p n++l).take k)=64*k:=by
 induction k with
 | zero=>simp[rsum]
 | succ k ih =>
  have hx:(runsOf p n++l)[k]?=some (64,Bm.pre (fun i=>p (64*k+i)) 64):=by
   rw[List.getElem?_append_left (by rw[runsOf_len];omega)]
   unfold runsOf
   rw[List.getElem?_map,List.getElem?_range (by omega)];rfl
  rw[rsum_take _ hx,ih (by omega)]
  simp only;omega
theorem rsum_all (p:Nat→Bool) (n:Nat):rsum (runsOf p n++[(n%64,lastOf p n)])=n:=by
 have h:=rsum_runs p n (n/64) (Nat.le_refl _) [(n%64,lastOf p n)]
 have hx:(runsOf p n++[(n%64,lastOf p n)])[n/64]?=some (n%64,lastOf p n):=by
  rw[List.getElem?_append_right (by rw[runsOf_len];omega),runsOf_len,Nat.sub_self];rfl
 have h2:=rsum_take _ hx
 rw[h,List.take_of_length_le (by simp[runsOf_len])]at h2
 rw[h2];simp only;omega
theorem spells_of (p:Nat→Bool) (n:Nat):Spells p 0 (runsOf p n++[(n%64,lastOf p n)]):=by
 intro k x hx
 by_cases hk:k<n/64
 ·rw[List.getElem?_append_left (by rw[runsOf_len];omega)]at hx
  have hx2:x=(64,Bm.pre (fun i=>p (64*k+i)) 64):=by
   unfold runsOf at hx
   rw[List.getElem?_map,List.getElem?_range hk]at hx
   simpa using hx.symm
  subst hx2
  refine⟨by simp only;omega,by have:=Bm.pre_lt (fun i=>p (64*k+i)) 64;simp only;omega,fun i hi=>?_⟩
  simp only at hi ⊢
  rw[rsum_runs p n k (by omega),pre_bit _ hi,Nat.zero_add]
 ·have hl:=(List.getElem?_eq_some_iff.1 hx).1
  simp[runsOf_len]at hl
  have hk':k=n/64:=by omega
  subst hk'
  rw[List.getElem?_append_right (by rw[runsOf_len];omega),runsOf_len,Nat.sub_self]at hx
  have hx2:x=(n%64,lastOf p n):=by simpa using hx.symm
  subst hx2
  have hlt:=Bm.pre_lt (fun i=>p (64*(n/64)+i)) (n%64)
  have hpw:2^(n%64)≤2^63:=Nat.pow_le_pow_right (by omega) (by omega)
  refine⟨by simp only;omega,by unfold lastOf;simp only;omega,fun i hi=>?_⟩
  simp only at hi ⊢
  rw[rsum_runs p n (n/64) (by omega),Nat.zero_add]
  unfold lastOf
  rw[pre_bit _ hi]
def BitsAt (base:Nat) (w:World) (b:Nat) (p:Nat→Bool) (n:Nat):Prop:=∃ wv av,BitL base w b [] [] 154 wv av p n
theorem BitsAt.below {base:Nat}{w w':World}{b:Nat}{p:Nat→Bool}{n:Nat}(h:BitsAt base w b p n) (hb:Below w.heap.size w w'):BitsAt base w' b p n:=by
 obtain⟨wv,av,h⟩:=h;exact⟨wv,av,h.below hb⟩
set_option maxRecDepth 100000 in
set_option maxHeartbeats 1000000 in
theorem newBits_any (s:ByteArray) (w:World) (hs:s.size≤1099511627776) :
  Calls Tryz.prog 52 #[.string s] w fun e w'=>Below w.heap.size w w' ∧
   ((¬ Plain s∧e=.returned (.tuple #[.pointer none,.int .i64 4])) ∨
   (Plain s∧∃ b,e=.returned (.tuple #[.pointer (some ⟨b,0,none⟩),.int .i64 0])∧BitsAt w.heap.size w' b (oneAt s) s.size)):=by
 go_enter Tryz.func52,Tryz.ntmps52
 go_wp2_with fail
 refine(read_any s _ hs).mono ?_
 rintro e w1 ⟨hB,⟨hn,rfl⟩|⟨hp,g,cap,rfl,hg,hr⟩⟩
 ·go_wp2
  go_ret2
  exact⟨hB,.inl ⟨hn,rfl⟩⟩
 ·have hlen:(runsOf (oneAt s) s.size++[(s.size%64,lastOf (oneAt s) s.size)]).length=s.size/64+1:=by simp[runsOf_len]
  have hz:=hB.size
  have hB2:Below w.heap.size w (w1.alloc (Obj.cells #[.slice none 0 0,.slice none 0 0,.int .i64 0,.int .i64 0] 154)):=hB.alloc hz _
  have hL0:BitL w.heap.size (w1.alloc (Obj.cells #[.slice none 0 0,.slice none 0 0,.int .i64 0,.int .i64 0] 154)) w1.heap.size [] [] 154 (.slice none 0 0) (.slice none 0 0) (oneAt s) 0 :=
   ⟨heap_alloc_new w1 _,World.ownsRow_nil _ _ _ _,World.ownsRow_nil _ _ _ _,hz,by decide,by decide⟩
  have hr2:Runs (w1.alloc (Obj.cells #[.slice none 0 0,.slice none 0 0,.int .i64 0,.int .i64 0] 154)) g (runsOf (oneAt s) s.size++[(s.size%64,lastOf (oneAt s) s.size)]):=fun k x hx =>
   have hk:Kept (fun _=>False) w1 (w1.alloc (Obj.cells #[.slice none 0 0,.slice none 0 0,.int .i64 0,.int .i64 0] 154)):=(Kept.refl _ _).alloc _
   ⟨cell_keep hk (hr k x hx).1 (fun h=>h),cell_keep hk (hr k x hx).2 (fun h=>h)⟩
  have hlay:=lay_any w.heap.size _ w1.heap.size 0 [] [] rfl 154 _ _ (oneAt s) 0 g cap _ hL0 hr2 (spells_of (oneAt s) s.size) (by rintro (h|h|h) <;> first|omega|cases h) (by rw[rsum_all];omega) (by rw[hlen];omega)
  rw[hlen,rsum_all,Nat.zero_add]at hlay
  clear hlen hr hr2 hL0
  go_wp2_with fail
  refine hlay.mono ?_
  rintro e w3 ⟨rfl,wv,av,hL,hK,_⟩
  go_wp2
  go_ret2
  exact⟨hK.bel hB2 (Nat.le_refl _) (by rintro k (h|h|h) <;> first|omega|cases h),.inr ⟨hp,_,rfl,wv,av,hL⟩⟩
set_option maxRecDepth 100000 in
set_option maxHeartbeats 1000000 in
theorem bitsRank_in (base:Nat) (w:World) (b:Nat) (p:Nat→Bool) (n:Nat) (h:BitsAt base w b p n) (hn:n≤1099511627776) (i:Nat) (hi:i≤n) :
  Calls Tryz.prog 54 #[.pointer (some ⟨b,0,none⟩),.int .i64 (i:Nat)] w fun e w'=>Below w.heap.size w w'∧e=.returned (.tuple #[.int .i64 (Cc.cn i p:Nat),.int .i64 0]):=by
 obtain⟨wv,av,hL⟩:=h
 have h1:decide ((i:Int)<0)=false:=by simp
 have h2:decide ((n:Int)<(i:Int))=false:=by simp;omega
 go_enter Tryz.func54,Tryz.ntmps54
 go_wp2_with fail
 refine(size_any base w b 0 [] [] rfl _ _ _ p n hL).mono ?_
 rintro e w1 ⟨rfl,rfl⟩
 go_wp2_with fail
 refine(rank_any base w1 b 0 [] [] rfl _ _ _ p n i hL hi hn).mono ?_
 rintro e w2 ⟨rfl,hB⟩
 go_wp2
 go_ret2
 exact⟨hB,rfl⟩
set_option maxRecDepth 100000 in
set_option maxHeartbeats 1000000 in
theorem bitsRank_out (base:Nat) (w:World) (b:Nat) (p:Nat→Bool) (n:Nat) (h:BitsAt base w b p n) (i:Int) (hi:i<0∨(n:Int)<i) :
  Calls Tryz.prog 54 #[.pointer (some ⟨b,0,none⟩),.int .i64 i] w fun e w'=>Below w.heap.size w w'∧e=.returned (.tuple #[.int .i64 0,.int .i64 3]):=by
 obtain⟨wv,av,hL⟩:=h
 by_cases h0:i<0
 ·have h1:decide (i<0)=true:=by simp;omega
  go_enter Tryz.func54,Tryz.ntmps54
  go_wp2
  go_ret2
  exact⟨Below.refl _ _,rfl⟩
 ·have h1:decide (i<0)=false:=by simp;omega
  have h2:decide ((n:Int)<i)=true:=by simp;omega
  go_enter Tryz.func54,Tryz.ntmps54
  go_wp2_with fail
  refine(size_any base w b 0 [] [] rfl _ _ _ p n hL).mono ?_
  rintro e w1 ⟨rfl,rfl⟩
  go_wp2
  go_ret2
  exact⟨Below.refl _ _,rfl⟩
set_option maxRecDepth 100000 in
set_option maxHeartbeats 1000000 in
theorem bitsSelect_in (base:Nat) (w:World) (b:Nat) (p:Nat→Bool) (n:Nat) (h:BitsAt base w b p n) (hn:n≤1099511627776) (k:Nat) (hk:k<Cc.cn n p) :
  Calls Tryz.prog 56 #[.pointer (some ⟨b,0,none⟩),.int .i64 (k:Nat)] w fun e w'=>Below w.heap.size w w'∧∃ j:Nat,e=.returned (.tuple #[.int .i64 (j:Nat),.int .i64 0])∧j<n∧p j=true∧Cc.cn j p=k:=by
 obtain⟨wv,av,hL⟩:=h
 have h1:decide ((k:Int)<0)=false:=by simp
 have h2:decide ((Cc.cn n p:Int)≤(k:Int))=false:=by simp;omega
 go_enter Tryz.func56,Tryz.ntmps56
 go_wp2_with fail
 refine(ones_any base w b 0 [] [] rfl _ _ _ p n hL).mono ?_
 rintro e w1 ⟨rfl,rfl⟩
 go_wp2_with fail
 refine(select_any base w1 b 0 [] [] rfl _ _ _ p n k hL hk hn).mono ?_
 rintro e w2 ⟨⟨j,rfl,j1,j2,j3⟩,hB⟩
 go_wp2
 go_ret2
 exact⟨hB,j,rfl,j1,j2,j3⟩
set_option maxRecDepth 100000 in
set_option maxHeartbeats 1000000 in
theorem bitsSelect_out (base:Nat) (w:World) (b:Nat) (p:Nat→Bool) (n:Nat) (h:BitsAt base w b p n) (k:Int) (hk:k<0∨(Cc.cn n p:Int)≤k) :
  Calls Tryz.prog 56 #[.pointer (some ⟨b,0,none⟩),.int .i64 k] w fun e w'=>Below w.heap.size w w'∧e=.returned (.tuple #[.int .i64 0,.int .i64 3]):=by
 obtain⟨wv,av,hL⟩:=h
 by_cases h0:k<0
 ·have h1:decide (k<0)=true:=by simp;omega
  go_enter Tryz.func56,Tryz.ntmps56
  go_wp2
  go_ret2
  exact⟨Below.refl _ _,rfl⟩
 ·have h1:decide (k<0)=false:=by simp;omega
  have h2:decide ((Cc.cn n p:Int)≤k)=true:=by simp;omega
  go_enter Tryz.func56,Tryz.ntmps56
  go_wp2_with fail
  refine(ones_any base w b 0 [] [] rfl _ _ _ p n hL).mono ?_
  rintro e w1 ⟨rfl,rfl⟩
  go_wp2
  go_ret2
  exact⟨Below.refl _ _,rfl⟩
end Go.Proofs.YtopihgmemnokkaaGreat
namespace Go.Proofs.YtopihgmemnokkaaGreat
open Go.RowKit
def QAt (w:World) (b:Nat) (s:ByteArray):Prop:=w.heap[b]?=some (.cells #[.string s] 156 (0,0))
theorem QAt.cell {w:World}{b:Nat}{s:ByteArray}(h:QAt w b s):w.cell? ⟨b,0,none⟩=some (.string s):=by
 unfold QAt at h;simp[World.cell?,h]
theorem QAt.keep {P:Nat→Prop}{w w':World}{b:Nat}{s:ByteArray}(h:QAt w b s) (hk:Kept P w w') (hn:¬ P b):QAt w' b s:=by
 unfold QAt at *
 rw[hk.block b (Array.getElem?_eq_some_iff.1 h).1 hn];exact h
set_option maxRecDepth 100000 in
set_option maxHeartbeats 1000000 in
theorem refNewBits_any (s:ByteArray) (w:World) (hs:s.size≤1099511627776) :
  Calls Tryz.prog 53 #[.string s] w fun e w' =>
   (¬ Plain s∧e=.returned (.tuple #[.pointer none,.int .i64 4])∧w'=w) ∨
   (Plain s∧e=.returned (.tuple #[.pointer (some ⟨w.heap.size,0,none⟩),.int .i64 0])∧w'=w.alloc (.cells #[.string s] 156)):=by
 go_enter Tryz.func53,Tryz.ntmps53
 go_wp2
 go_loopw [4] (fun i wr=>wr=w∧∃ p:Nat,p≤s.size∧i=.int .i64 p∧∀ j,j<p→BY s j=48∨BY s j=49) (fun i _=>s.size-(intOf i).toNat)
 case atStart=>exact⟨rfl,0,by omega,rfl,fun j h=>by omega⟩
 case round =>
  obtain⟨rfl,p,hp,rfl,hpl⟩:=hrel
  by_cases hlt:p<s.size
  ·have hby:=BY_lt s hlt
   have next:(BY s p=48∨BY s p=49)→∀ j,j<p+1→BY s j=48∨BY s j=49:=fun h j hj=>by
    rcases Nat.lt_or_ge j p with h1|h1
    ·exact hpl j h1
    ·have:j=p:=by omega
     subst this;exact h
   have NX:Hid ((BY s p=48∨BY s p=49)→∀ j,j<p+1→BY s j=48∨BY s j=49):=next
   clear next hpl
   by_cases h48:BY s p=48
   ·have hx:s[p].toNat=48:=by omega
    have NX2:Hid (∀ j,j<p+1→BY s j=48∨BY s j=49):=NX.out (.inl h48)
    clear NX hby h48
    go_wp2
    exact⟨⟨trivial,p+1,by omega,by go_num,NX2.out⟩,by simp[intOf];omega⟩
   ·by_cases h49:BY s p=49
    ·have hx:s[p].toNat=49:=by omega
     have NX2:Hid (∀ j,j<p+1→BY s j=48∨BY s j=49):=NX.out (.inr h49)
     clear NX hby h48 h49
     go_wp2
     exact⟨⟨trivial,p+1,by omega,by go_num,NX2.out⟩,by simp[intOf];omega⟩
    ·have hx:¬ s[p].toNat=48:=by omega
     have hx2:¬ s[p].toNat=49:=by omega
     have d1:(((s[p].toNat:Nat):Int) != 48)=true:=by simp;omega
     have d2:(((s[p].toNat:Nat):Int) != 49)=true:=by simp;omega
     have HN:Hid (¬ Plain s):=fun h=>by
      have:=h p hlt
      omega
     clear NX hby h48 h49
     go_wp2
     go_ret2
     exact .inl ⟨HN.out,rfl,rfl⟩
  ·have hp':p=s.size:=by omega
   subst hp'
   have HP:Hid (Plain s):=hpl
   clear hpl
   go_wp2
   go_ret2
   exact .inr ⟨HP.out,rfl,rfl⟩
theorem cn_succ' (p:Nat) (P:Nat→Bool):Cc.cn (p+1) P=Cc.cn p P+(P p).toNat:=rfl
set_option maxRecDepth 100000 in
set_option maxHeartbeats 1000000 in
theorem refRank_in (s:ByteArray) (b:Nat) (w:World) (hs:s.size≤1099511627776) (hq:QAt w b s) (i:Nat) (hi:i≤s.size) :
  Calls Tryz.prog 55 #[.pointer (some ⟨b,0,none⟩),.int .i64 (i:Nat)] w fun e w'=>e=.returned (.tuple #[.int .i64 (Cc.cn i (oneAt s):Nat),.int .i64 0])∧w'=w:=by
 have c0:=hq.cell
 have d1:decide ((i:Int)<0)=false:=by simp
 have d2:decide ((s.size:Int)<(i:Int))=false:=by simp;omega
 go_enter Tryz.func55,Tryz.ntmps55
 go_wp2
 go_loopw [6,7] (fun n k wr=>wr=w∧∃ p:Nat,p≤i∧k=.int .i64 p∧n=.int .i64 (Cc.cn p (oneAt s):Nat)) (fun _ k _=>i-(intOf k).toNat)
 case atStart=>exact⟨rfl,0,by omega,rfl,rfl⟩
 case round =>
  obtain⟨rfl,p,hp,rfl,rfl⟩:=hrel
  by_cases hlt:p<i
  ·have hlt2:p<s.size:=by omega
   have hby:=BY_lt s hlt2
   have hcl:=Cc.cn_le p (oneAt s)
   have hS:Hid (Cc.cn (p+1) (oneAt s)=Cc.cn p (oneAt s)+(oneAt s p).toNat):=cn_succ' p _
   by_cases h49:BY s p=49
   ·have hx:s[p].toNat=49:=by omega
    have hS1:Cc.cn (p+1) (oneAt s)=Cc.cn p (oneAt s)+1:=by rw[hS.out];unfold oneAt;simp[h49]
    have hS2:Hid (Cc.cn (p+1) (oneAt s)=Cc.cn p (oneAt s)+1):=hS1
    clear hS1
    clear hS hby h49
    go_wp2
    exact⟨⟨trivial,p+1,by omega,by go_num,by rw[hS2.out];go_num⟩,by simp[intOf];omega⟩
   ·have hx:¬ s[p].toNat=49:=by omega
    have d3:(((s[p].toNat:Nat):Int) == 49)=false:=by simp;omega
    have hS1:Cc.cn (p+1) (oneAt s)=Cc.cn p (oneAt s):=by rw[hS.out];unfold oneAt;simp[h49]
    have hS2:Hid (Cc.cn (p+1) (oneAt s)=Cc.cn p (oneAt s)):=hS1
    clear hS1
    clear hS hby h49
    go_wp2
    exact⟨⟨trivial,p+1,by omega,by go_num,by rw[hS2.out]⟩,by simp[intOf];omega⟩
  ·have hp':p=i:=by omega
   subst hp'
   go_wp2
   go_ret2
   exact⟨rfl,rfl⟩
set_option maxRecDepth 100000 in
set_option maxHeartbeats 1000000 in
theorem refRank_out (s:ByteArray) (b:Nat) (w:World) (hq:QAt w b s) (i:Int) (hi:i<0∨(s.size:Int)<i) :
  Calls Tryz.prog 55 #[.pointer (some ⟨b,0,none⟩),.int .i64 i] w fun e w'=>e=.returned (.tuple #[.int .i64 0,.int .i64 3])∧w'=w:=by
 have c0:=hq.cell
 by_cases h0:i<0
 ·have d1:decide (i<0)=true:=by simp;omega
  go_enter Tryz.func55,Tryz.ntmps55
  go_wp2
  go_ret2
  exact⟨rfl,rfl⟩
 ·have d1:decide (i<0)=false:=by simp;omega
  have d2:decide ((s.size:Int)<i)=true:=by simp;omega
  go_enter Tryz.func55,Tryz.ntmps55
  go_wp2
  go_ret2
  exact⟨rfl,rfl⟩
def SelAns (s:ByteArray) (k:Int) (j n:Int):Prop :=
 (∃ (k' j':Nat),k=k'∧j=j'∧n=0∧j'<s.size∧oneAt s j'=true∧Cc.cn j' (oneAt s)=k')∨((k<0∨(Cc.cn s.size (oneAt s):Int)≤k)∧j=0∧n=3)
theorem SelAns.uniq {s:ByteArray}{k j n j' n':Int}(h:SelAns s k j n) (h':SelAns s k j' n'):j'=j∧n'=n:=by
 rcases h with⟨a,b,rfl,rfl,rfl,h1,h2,h3⟩|⟨h1,rfl,rfl⟩
 ·have hl:=Cc.cn_lt_bound h1 h2
  rcases h' with⟨a',b',ha,rfl,rfl,g1,g2,g3⟩|⟨g1,rfl,rfl⟩
  ·have:a'=a:=by omega
   subst this
   rcases Nat.lt_trichotomy b b' with hb|hb|hb
   ·have:=Cc.cn_lt_bound hb h2;omega
   ·exact⟨by omega,rfl⟩
   ·have:=Cc.cn_lt_bound hb g2;omega
  ·omega
 ·rcases h' with⟨a',b',ha,rfl,rfl,g1,g2,g3⟩|⟨g1,rfl,rfl⟩
  ·have:=Cc.cn_lt_bound g1 g2
   omega
  ·exact⟨rfl,rfl⟩
set_option maxRecDepth 100000 in
set_option maxHeartbeats 1000000 in
theorem refSelect_any (s:ByteArray) (b:Nat) (w:World) (hs:s.size≤1099511627776) (hq:QAt w b s) (k:Int) (hk:-9223372036854775808≤k) (hk2:k≤9223372036854775807) :
  Calls Tryz.prog 57 #[.pointer (some ⟨b,0,none⟩),.int .i64 k] w fun e w'=>∃ j n,e=.returned (.tuple #[.int .i64 j,.int .i64 n])∧SelAns s k j n∧w'=w:=by
 have c0:=hq.cell
 by_cases h0:k<0
 ·have d1:decide (k<0)=true:=by simp;omega
  go_enter Tryz.func57,Tryz.ntmps57
  go_wp2
  go_ret2
  exact⟨0,3,rfl,.inr ⟨.inl h0,rfl,rfl⟩,rfl⟩
 ·obtain⟨K,rfl⟩:∃ K:Nat,k=K:=⟨k.toNat,by omega⟩
  have d1:decide ((K:Int)<0)=false:=by simp
  go_enter Tryz.func57,Tryz.ntmps57
  go_wp2
  clear d1
  go_loopw [1,6] (fun r i wr=>wr=w∧∃ p r':Nat,p≤s.size∧i=.int .i64 p∧r=.int .i64 r'∧r'+Cc.cn p (oneAt s)=K) (fun _ i _=>s.size-(intOf i).toNat)
  case atStart=>exact⟨rfl,0,K,by omega,rfl,rfl,rfl⟩
  case round =>
   obtain⟨rfl,p,r',hp,rfl,rfl,hr⟩:=hrel
   by_cases hlt:p<s.size
   ·have hby:=BY_lt s hlt
    have hS:Cc.cn (p+1) (oneAt s)=Cc.cn p (oneAt s)+(oneAt s p).toNat:=cn_succ' p _
    by_cases h49:BY s p=49
    ·have hx:s[p].toNat=49:=by omega
     have hone:oneAt s p=true:=by unfold oneAt;simp[h49]
     rw[hone]at hS
     have HS:Hid (Cc.cn (p+1) (oneAt s)=Cc.cn p (oneAt s)+1):=hS
     have HO:Hid (oneAt s p=true):=hone
     clear hS hone hby h49
     have HR:Hid (r'+Cc.cn p (oneAt s)=K):=hr
     have hrK:r'≤K:=by omega
     clear hr
     by_cases hr0:r'=0
     ·subst hr0
      go_wp2
      go_ret2
      exact⟨p,0,rfl,.inl ⟨K,p,rfl,rfl,rfl,hlt,HO.out,by have:=HR.out;omega⟩,rfl⟩
     ·have d3:((r':Int) == 0)=false:=by simp;omega
      go_wp2
      exact⟨⟨trivial,p+1,r'-1,by omega,by go_num,by go_num,by have:=HR.out;rw[HS.out];omega⟩,by simp[intOf];omega⟩
    ·have hx:¬ s[p].toNat=49:=by omega
     have d3:(((s[p].toNat:Nat):Int) == 49)=false:=by simp;omega
     have hone:oneAt s p=false:=by unfold oneAt;simp[h49]
     rw[hone]at hS
     have HS:Hid (Cc.cn (p+1) (oneAt s)=Cc.cn p (oneAt s)):=hS
     have HR:Hid (r'+Cc.cn p (oneAt s)=K):=hr
     clear hS hby h49 hr hone
     go_wp2
     exact⟨⟨trivial,p+1,r',by omega,by go_num,rfl,by have:=HR.out;rw[HS.out];exact this⟩,by simp[intOf];omega⟩
   ·have hp':p=s.size:=by omega
    subst hp'
    go_wp2
    go_ret2
    exact⟨0,3,rfl,.inr ⟨.inr (by omega),rfl,rfl⟩,rfl⟩
end Go.Proofs.YtopihgmemnokkaaGreat
