import Derived.Test.YtopihgmemnokkaaGreatRefC5J
import Derived.Test.YtopihgmemnokkaaGreatTWalk19J
import Derived.Test.YtopihgmemnokkaaGreatWorldJ
import Derived.Deep.RegionHeld3
namespace Go.Proofs.YtopihgmemnokkaaGreat
open Go.RowKit
set_option maxRecDepth 100000 in
set_option maxHeartbeats 1000000 in
theorem numberAt_any (d:ByteArray) (a:Nat) (w:World) (ha:a+2≤d.size) (hd:d.size≤1099511627776) :
  Calls Tryz.prog 98 #[.string d,.int .i64 (a:Nat)] w fun e w'=>e=.returned (.int .i64 ((numA d a:Nat):Int))∧Below w.heap.size w w':=by
 have b1:=BY_lt d (k:=a) (by omega)
 have b2:=BY_lt d (k:=a+1) (by omega)
 have l1:=BY_le d a
 have l2:=BY_le d (a+1)
 have HN:Hid (((numA d a:Nat):Int)=(BY d a:Int)*256+(BY d (a+1):Int)):=by show _=_;unfold numA;omega
 rw[b1]at l1 HN
 rw[b2]at l2 HN
 clear b1 b2
 have i1:(a:Int)<(d.size:Int):=by omega
 have i2:(a:Int)+1<(d.size:Int):=by omega
 have wr1:∀ x:Int,0≤x→x≤9223372036854775807→IntKind.i64.wrap x=x:=fun x h1 h2=>by
  simp[IntKind.wrap,IntKind.bits,IntKind.signed];omega
 have v1:=wr1 (d[a].toNat:Int) (by omega) (by omega)
 have v2:=wr1 ((d[a].toNat:Int)*256) (by omega) (by omega)
 have v3:=wr1 ((a:Int)+1) (by omega) (by omega)
 have v4:=wr1 (d[a+1].toNat:Int) (by omega) (by omega)
 have v5:=wr1 ((d[a].toNat:Int)*256+(d[a+1].toNat:Int)) (by omega) (by omega)
 clear wr1
 have i3:(0:Int)≤(a:Int)+1:=by omega
 have i4:((a:Int)+1).toNat=a+1:=by omega
 have i5:a+1<d.size:=by omega
 go_enter Tryz.func98,Tryz.ntmps98
 go_wp2
 go_quiet (fail)
 go_wp2
 go_ret
 refine⟨?_,below_drewN (Below.refl _ _) nq⟩
 rw[HN.out]
 rfl
set_option maxRecDepth 100000 in
set_option maxHeartbeats 4000000 in
theorem counted_any (d:ByteArray) (w:World) (hd:43≤d.size) (hd2:d.size≤1099511627776) :
  Calls Tryz.prog 99 #[.string d] w fun e w'=>((okD d 256∧∃ g,e=.returned (.tuple #[.slice (some ⟨g,0,none⟩) 256 256,.int .i64 ((atC d 256:Nat):Int)])∧Row w' g 3 256 (fTo d 256))∨(¬ okD d 256∧e=.returned (.tuple #[.slice none 0 0,.int .i64 0])))∧Below w.heap.size w w':=by
 have hmk:∀ w:World,(Instr.makeSlice 30 (.int .i64 256) (.int .i64 256)).run Tryz.prog w=.ok (.slice (some ⟨w.heap.size,0,none⟩) 256 256) (w.alloc (.cells (rowC 256 fun _=>0) 3)):=fun w=>make_rows 256 (by omega) w
 go_enter Tryz.func99,Tryz.ntmps99
 go_wp2
 clear hmk
 go_loopw [5,6,7,8] (fun av cv _ _ wr=>∃ c:Nat,c≤256∧cv=.int .i64 (c:Nat)∧av=.int .i64 ((atC d c:Nat):Int)∧Hid (okD d c)∧Hid (Row wr w.heap.size 3 256 (fTo d c))∧Hid (Below w.heap.size w wr)) (fun _ cv _ _ _=>256-(intOf cv).toNat)
 case atStart=>exact⟨0,by omega,rfl,rfl,fun c h=>by omega,(Row.new w _ _ _).congr fun c _=>by simp[fTo],(Below.refl _ _).alloc (Nat.le_refl _) _⟩
 case round =>
  obtain⟨c,hc,rfl,rfl,HOK,HR,HB⟩:=hrel
  have ha:=atC_le d c
  by_cases hlt:c<256
  ·have hci:(c:Int)<256:=by omega
   have hq:7+c/8<d.size:=by omega
   have hbv:=BY_lt d hq
   have hby:=BY_le d (7+c/8)
   have HSB:Hid (setB d c=BY d (7+c/8)/2^(c%8)%2):=rfl
   have HA:Hid (atC d (c+1)=if setB d c=1 then atC d c+2 else atC d c):=rfl
   rw[hbv]at HSB hby
   clear hbv
   generalize he:c/8=e at *
   have hce:(c:Int)/8=(e:Int):=by omega
   have hqi:(7:Int)+(e:Int)<(d.size:Int):=by omega
   clear he
   generalize hr:c%8=r at *
   have hcr:(c:Int)%8=(r:Int):=by omega
   have hr8:r<8:=by omega
   clear hr
   generalize hX:d[7+e].toNat=X at *
   go_wp2
   go_loopw [7,8] (fun nv kv wq=>∃ k:Nat,k≤r∧kv=.int .i64 (k:Nat)∧nv=.int .i64 ((X/2^k:Nat):Int)∧wq=wr) (fun _ kv _=>r-(intOf kv).toNat)
   case atStart=>exact⟨0,by omega,rfl,by simp,rfl⟩
   case round =>
    obtain⟨k,hk,rfl,rfl,rfl⟩:=hrel
    have hz:X/2^k≤255:=Nat.le_trans (Nat.div_le_self _ _) hby
    by_cases hkr:k<r
    ·have hkri:(k:Int)<(r:Int):=by omega
     have HS:Hid (X/2^(k+1)=X/2^k/2):=by show _=_;rw[Nat.pow_succ,Nat.div_div_eq_div_mul]
     generalize X/2^k=z at *
     go_wp2
     exact⟨⟨k+1,by omega,by go_num,by rw[HS.out];go_num,trivial⟩,by simp[intOf];omega⟩
    ·have hke:k=r:=by omega
     subst hke
     clear hk hkr
     generalize X/2^k=z at *
     by_cases hset:z%2=1
     ·have hs1:setB d c=1:=by rw[HSB.out];exact hset
      have HA2:Hid (atC d (c+1)=atC d c+2):=by show _=_;rw[HA.out,if_pos hs1]
      have HFD:Hid (fD d c=numA d (atC d c)):=by show _=_;unfold fD;rw[if_pos hs1]
      have e1:((z:Int)%2 == 0)=false:=by
       have:¬ (z:Int)%2=0:=by omega
       simp[this]
      have HNO:Hid (¬ atC d c+2≤d.size→¬ okD d 256):=fun h h2=>h (h2 c hlt hs1)
      have HOK2:Hid (atC d c+2≤d.size→okD d (c+1)):=fun h c' hc' hs'=>by
       rcases Nat.lt_or_ge c' c with h1|h1
       ·exact HOK.out c' h1 hs'
       ·have:c'=c:=by omega
        subst this;exact h
      clear hs1 HSB HA hset
      by_cases hat:atC d c+2≤d.size
      ·have d1:decide ((d.size:Int)<((atC d c:Nat):Int)+2)=false:=decide_eq_false (by omega)
       have hnl:=numA_lt d (atC d c)
       have HNA:Hid (∀ W,Calls Tryz.prog 98 #[.string d,.int .i64 ((atC d c:Nat):Int)] W fun e w'=>e=.returned (.int .i64 ((numA d (atC d c):Nat):Int))∧Below W.heap.size W w'):=fun W=>numberAt_any d _ W hat hd2
       go_wp2_with fail
       refine(HNA.out _).mono ?_
       rintro e w5 ⟨rfl,hb5⟩
       have HR5:=HR.out.below hb5 HR.out.lt
       have r0:=HR5.cell hlt
       have r1:=HR5.frozen c
       have HRN:Hid (Row (w5.setCell ⟨w.heap.size,c,none⟩ (.int .i64 ((numA d (atC d c):Nat):Int))) w.heap.size 3 256 (fTo d (c+1))):=(HR5.set c (numA d (atC d c))).congr fun x _=>by rw[← HFD.out];exact fTo_put d c x
       have HBN:Hid (Below w.heap.size w (w5.setCell ⟨w.heap.size,c,none⟩ (.int .i64 ((numA d (atC d c):Nat):Int)))):=(HB.out.trans (hb5.mono HB.out.size)).setCell (Nat.le_refl _) _
       clear hb5 HR5 HNA
       generalize numA d (atC d c)=y at *
       generalize fTo d c c=y2 at *
       go_wp2
       exact⟨⟨c+1,by omega,by go_num,by rw[HA2.out];go_num,HOK2.out hat,HRN,HBN⟩,by simp[intOf];omega⟩
      ·have d1:decide ((d.size:Int)<((atC d c:Nat):Int)+2)=true:=decide_eq_true (by omega)
       go_wp2
       go_ret2
       exact⟨.inr ⟨HNO.out hat,rfl⟩,HB.out⟩
     ·have hs1:¬ setB d c=1:=by rw[HSB.out];exact hset
      have HA2:Hid (atC d (c+1)=atC d c):=by show _=_;rw[HA.out,if_neg hs1]
      have HFD:Hid (fD d c=0):=by show _=_;unfold fD;rw[if_neg hs1]
      have e1:((z:Int)%2 == 0)=true:=by
       have:(z:Int)%2=0:=by omega
       simp[this]
      have HOK2:Hid (okD d (c+1)):=fun c' hc' hs'=>by
       rcases Nat.lt_or_ge c' c with h1|h1
       ·exact HOK.out c' h1 hs'
       ·have:c'=c:=by omega
        subst this;exact absurd hs' hs1
      have HRN:Hid (Row wr w.heap.size 3 256 (fTo d (c+1))):=HR.out.congr fun x _=>by
       rw[← fTo_put,HFD.out]
       unfold Cc.put
       by_cases e:x=c
       ·rw[if_pos e,e];unfold fTo;simp
       ·rw[if_neg e]
      clear hs1 HSB HA hset
      go_wp2
      exact⟨⟨c+1,by omega,by go_num,by rw[HA2.out],HOK2,HRN,HB⟩,by simp[intOf];omega⟩
  ·have hce:256=c:=by omega
   subst hce
   go_wp2
   go_ret2
   exact⟨.inl ⟨HOK.out,_,rfl,HR.out⟩,HB.out⟩
end Go.Proofs.YtopihgmemnokkaaGreat
namespace Go.Proofs.YtopihgmemnokkaaGreat
open Go.RowKit
set_option maxRecDepth 100000 in
set_option maxHeartbeats 8000000 in
theorem unpacked_any (k:Nat→List Bool) (s:ByteArray) (n:Nat) (g:Nat) (w:World) (hS:SRow w g (fun c=>tx (k c))) (hs:s.size≤1099511627776) (hn:n≤1000) :
  Calls Tryz.prog 100 #[.string s,.int .i64 (n:Nat),.slice (some ⟨g,0,none⟩) 256 256] w fun e w'=>(∃ i,e=.returned (.string (bys (uS k s i).1))∧StopAt k s n i)∧Below w.heap.size w w':=by
 obtain⟨j0,hj,hy0,hy1,hy2⟩:=info_parts Tryz.info5
 have HS:Hid (SRow w g (fun c=>tx (k c))):=hS
 clear hS
 go_enter Tryz.func100,Tryz.ntmps100
 go_wp2
 go_loopw [7,8,9,10,11,12] (fun ov nv iv _ _ _ wr=>∃ (i m q:Nat) (a:Option Addr) (x:List Bool),i≤8*s.size∧m≤n∧x.length≤256∧iv=.int .i64 (i:Nat)∧ov=.slice a m q∧nv=.string (tx x)∧Hid ((uS k s i).1.length=m)∧Hid ((uS k s i).2=x)∧Hid (∀ j,j<i→¬ stopU k s n j)∧Hid (wr.ownsRow w.heap.size 5 1 (.slice a m q) m (u8L (uS k s i).1))∧Hid (Below w.heap.size w wr)) (fun _ _ iv _ _ _ _=>8*s.size-(intOf iv).toNat)
 case atStart=>exact⟨0,0,0,none,[],by omega,by omega,by simp,rfl,rfl,rfl,rfl,rfl,fun j h=>by omega,⟨rfl,.inl ⟨rfl,rfl⟩⟩,Below.refl _ _⟩
 case round =>
  obtain⟨i,m,q,a,x,hi,hm,hx,rfl,rfl,rfl,HM,HX,HNS,HO,HB⟩:=hrel
  have hxs:=tx_size x
  by_cases hgo:i<8*s.size∧m<n∧x.length≤255
  ·obtain⟨g1,g2,g3⟩:=hgo
   have d1:decide ((i:Int)<8*(s.size:Int))=true:=decide_eq_true (by omega)
   have d2:decide ((m:Int)<(n:Int))=true:=decide_eq_true (by omega)
   have d3:decide ((x.length:Int)≤255)=true:=decide_eq_true (by omega)
   have HNS2:Hid (∀ j,j<i+1→¬ stopU k s n j):=fun j hj hst=>by
    rcases Nat.lt_or_ge j i with h1|h1
    ·exact HNS.out j h1 hst
    ·have:j=i:=by omega
     subst this
     rcases hst with h2|h2|h2
     ·omega
     ·have:=HM.out;omega
     ·rw[HX.out]at h2;omega
   have hq8:i/8<s.size:=by omega
   have hbv:=BY_lt s hq8
   have hby:=BY_le s (i/8)
   have HBS:Hid (bitS s i=decide (BY s (i/8)/2^(7-i%8)%2=1)):=rfl
   rw[hbv]at HBS hby
   clear hbv
   have hi64:i≤8796093022208:=by omega
   generalize he:i/8=e at *
   generalize hr:i%8=r at *
   have hce:(i:Int)/8=(e:Int):=by omega
   have hcr:(i:Int)%8=(r:Int):=by omega
   have hr8:r<8:=by omega
   have hei:(e:Int)<(s.size:Int):=by omega
   clear he hr
   generalize hX:s[e].toNat=X at *
   go_wp2
   rw[hcr]
   go_loopw [10,11] (fun kv jv wq=>∃ j:Nat,r≤j∧j≤7∧jv=.int .i64 (j:Nat)∧kv=.int .i64 ((X/2^(j-r):Nat):Int)∧wq=wr) (fun _ jv _=>7-(intOf jv).toNat)
   case atStart=>exact⟨r,by omega,by omega,rfl,by simp,rfl⟩
   case round =>
    obtain⟨j,hj1,hj2,rfl,rfl,rfl⟩:=hrel
    have hz:X/2^(j-r)≤255:=Nat.le_trans (Nat.div_le_self _ _) hby
    by_cases hj7:j<7
    ·have hj7i:(j:Int)<7:=by omega
     have HSx:Hid (X/2^(j+1-r)=X/2^(j-r)/2):=by show _=_;rw[show j+1-r=j-r+1 by omega,Nat.pow_succ,Nat.div_div_eq_div_mul]
     generalize X/2^(j-r)=z at *
     go_wp2
     exact⟨⟨j+1,by omega,by omega,by go_num,by rw[HSx.out];go_num,trivial⟩,by simp[intOf];omega⟩
    ·have hje:j=7:=by omega
     subst hje
     clear hj1 hj2 hj7
     rw[show ((7:Nat):Int)=7 from rfl]
     generalize hzz:X/2^(7-r)=z at *
     clear hzz
     have HN:Hid (tx x++tx [decide (z%2=1)]=tx (x++[bitS s i])):=by show _=_;rw[HBS.out,← tx_append]
     have HUX:Hid ((uS k s i).2++[bitS s i]=x++[bitS s i]):=by show _=_;rw[HX.out]
     have hyl:(x++[bitS s i]).length≤256:=by simp;omega
     have hyn:x++[bitS s i]≠[]:=by simp
     have HT:Hid (∀ (W:World) (c:Nat),Below w.heap.size w W→c<256→W.cell? ⟨g,c,none⟩=some (.string (tx (k c)))):=fun W c hW hc=>rdB hW (HS.out.cell hc)
     have hm2:z%2=0∨z%2=1:=by omega
     have hex:∀ b:Nat,b≤1→z%2=b→(⟨#[48,49]⟩:ByteArray).extract b (b+1)=tx [decide (z%2=1)]:=fun b hb1 hb2=>by
      have:b=0∨b=1:=by omega
      rcases this with rfl|rfl
      ·rw[hb2];rfl
      ·rw[hb2];rfl
     have hex2:=hex (z%2) (by omega) rfl
     have hmz:(z:Int)%2=((z%2:Nat):Int):=by omega
     generalize hbb:z%2=b at *
     clear hex
     have z4:(tx [decide (b=1)]).size=1:=tx_size _
     go_wp2
     rw[HN.out]
     clear HN hex2 z4 hmz hbb hm2 HBS
     generalize hyy:x++[bitS s i]=y at *
     clear hyy
     have he1:(tx y).toList.isEmpty=false:=by rw[tx_toList_isEmpty];simp[hyn]
     go_loopw [7,8,12] (fun ov nv cv wq=>∃ c:Nat,c≤256∧cv=.int .i64 (c:Nat)∧((Hid (hitTo k y c=none)∧ov=.slice a m q∧nv=.string (tx y)∧wq=wr)∨(∃ c0 g3 cap:Nat,Hid (hitTo k y c=some c0)∧ov=.slice (some ⟨g3,0,none⟩) (m+1) cap∧nv=.string ⟨#[]⟩∧Hid (wq.ownsRow w.heap.size 5 1 (.slice (some ⟨g3,0,none⟩) (m+1) cap) (m+1) (u8L ((uS k s i).1++[c0])))∧Hid (Below w.heap.size w wq)))) (fun _ _ cv _=>256-(intOf cv).toNat)
     case atStart=>exact⟨0,by omega,rfl,.inl ⟨rfl,rfl,rfl,rfl⟩⟩
     case round =>
      obtain⟨c,hc,rfl,hst⟩:=hrel
      by_cases hlt:c<256
      ·have hci:(c:Int)<256:=by omega
       rcases hst with⟨HH,rfl,rfl,hwq⟩|⟨c0,g3,cap,HH,rfl,rfl,HO3,HB3⟩
       ·subst hwq
        have t0:=HT.out _ c HB.out hlt
        by_cases hk:k c=y
        ·have e2:((tx (k c)).toList == (tx y).toList)=true:=by rw[hk];simp
         have HH2:Hid (hitTo k y (c+1)=some c):=by show _=_;simp only[hitTo];rw[HH.out];simp[hk]
         clear hk
         generalize tx (k c)=tk at *
         generalize tx y=ty at *
         have hz:w.heap.size≤wr.heap.size:=HB.out.size
         go_wp2_with (at_builtin;refine wpList_append_two _ rfl _ _ 55 rfl w.heap.size 5 j0 (.int .u8 0) 1 Tryz.underlying55 hj hy0 hy1 hy2 rfl _ m (u8L (uS k s i).1) rfl (HO.out.alloc _) ⟨wr.heap.size,0,none⟩ 1 (.int .u8 (c:Nat)) rfl ?d1 ?d2 ?d3 ?d4 ?d5 ?_)
         case d1=>exact cell_one_new _ _ _
         case d2=>rfl
         case d3=>unfold maxLen;omega
         case d4=>omega
         case d5=>simp;omega
         intro g3 cap w1 hown hlt1 hd
         have hkk:Kept (fun k=>some k=(Value.slice a m q).ownBlock) wr w1:=((Kept.refl _ wr).alloc _).grown (two_grown hd) (fun k h _=>h.symm)
         have HB1:Hid (Below w.heap.size w w1):=hkk.bel HB.out (Nat.le_refl _) (fun k hk=>(HO.out.lt k hk.symm).1)
         have HO1:Hid (w1.ownsRow w.heap.size 5 1 (.slice (some ⟨g3,0,none⟩) (m+1) cap) (m+1) (u8L ((uS k s i).1++[c]))):=by
          show World.ownsRow _ _ _ _ _ _ _
          unfold u8L at hown ⊢
          rw[List.map_append];exact hown
         clear hown hd hkk hlt1
         go_wp2
         exact⟨⟨c+1,by omega,by go_num,.inr ⟨c,g3,cap,HH2,rfl,rfl,HO1,HB1⟩⟩,by simp[intOf];omega⟩
        ·have e2:((tx (k c)).toList == (tx y).toList)=false:=beq_eq_false_iff_ne.2 (fun h=>hk (tx_inj (toList_inj' h)))
         have HH2:Hid (hitTo k y (c+1)=none):=by show _=_;simp only[hitTo];rw[HH.out];simp[hk]
         clear hk
         generalize tx (k c)=tk at *
         generalize hty:tx y=ty at *
         go_wp2
         exact⟨⟨c+1,by omega,by go_num,.inl ⟨HH2,rfl,rfl,trivial⟩⟩,by simp[intOf];omega⟩
       ·have HH2:Hid (hitTo k y (c+1)=some c0):=hitTo_some HH.out _ (by omega)
        go_wp2
        exact⟨⟨c+1,by omega,by go_num,.inr ⟨c0,g3,cap,HH2,rfl,rfl,HO3,HB3⟩⟩,by simp[intOf];omega⟩
      ·have hce:256=c:=by omega
       subst hce
       rcases hst with⟨HH,rfl,rfl,hwq⟩|⟨c0,g3,cap,HH,rfl,rfl,HO3,HB3⟩
       ·subst hwq
        have HU:Hid (uS k s (i+1)=((uS k s i).1,y)):=by
         show _=_
         have h:=uS_miss (k:=k) (s:=s) (i:=i) (by rw[HUX.out];exact HH.out)
         rw[h,HUX.out]
        rw[show ((256:Nat):Int)=256 from rfl]
        go_wp2
        exact⟨⟨i+1,m,q,a,y,by omega,by omega,by omega,by go_num,rfl,rfl,by rw[HU.out];exact HM,by show _=_;rw[HU.out],HNS2,by rw[HU.out];exact HO,HB⟩,by simp[intOf];omega⟩
       ·have HU:Hid (uS k s (i+1)=((uS k s i).1++[c0],[])):=uS_hit (by rw[HUX.out];exact HH.out)
        rw[show ((256:Nat):Int)=256 from rfl]
        go_wp2
        exact⟨⟨i+1,m+1,cap,some ⟨g3,0,none⟩,[],by omega,by omega,by simp,by go_num,rfl,rfl,by show _=_;rw[HU.out];show ((uS k s i).1++[c0]).length=m+1;rw[List.length_append,HM.out];rfl,by show _=_;rw[HU.out],HNS2,by rw[HU.out];exact HO3,HB3⟩,by simp[intOf];omega⟩
  ·have HSP:Hid (StopAt k s n i):=by
    refine⟨?_,HNS.out⟩
    have h1:=HM.out
    have h2:=HX.out
    unfold stopU
    rw[h1,h2]
    omega
   have hcv:(convert 55 9 (.slice a m q)).run Tryz.prog wr=.ok (.string (bys (uS k s i).1)) wr:=by
    have h1:=HO.out
    have h2:u8L (uS k s i).1=(List.range m).map fun j=>Value.int .u8 (((uS k s i).1[j]?.getD 0:Nat):Int):=by
     unfold u8L
     rw[← HM.out,range_map (uS k s i).1 0 (fun c=>Value.int .u8 (c:Nat))]
    rw[h2]at h1
    have h3:=conv_own (f:=fun j=>(uS k s i).1[j]?.getD 0) h1
    rw[h3]
    unfold bys
    rw[← range_map (uS k s i).1 0 (fun c=>((c:Nat):Int)),HM.out]
   have hdone:(8*s.size≤i)∨(i<8*s.size∧n≤m)∨(i<8*s.size∧m<n∧255<x.length):=by omega
   clear hgo
   rcases hdone with h1|⟨h1,h2⟩|⟨h1,h2,h3⟩
   ·have d1:decide ((i:Int)<8*(s.size:Int))=false:=decide_eq_false (by omega)
    have d1':decide (i<8*s.size)=false:=decide_eq_false (by omega)
    go_wp2
    go_ret
    exact⟨⟨i,rfl,HSP.out⟩,HB.out⟩
   ·have d1:decide ((i:Int)<8*(s.size:Int))=true:=decide_eq_true (by omega)
    have d2:decide ((m:Int)<(n:Int))=false:=decide_eq_false (by omega)
    have d2':decide (m<n)=false:=decide_eq_false (by omega)
    go_wp2
    go_ret
    exact⟨⟨i,rfl,HSP.out⟩,HB.out⟩
   ·have d1:decide ((i:Int)<8*(s.size:Int))=true:=decide_eq_true (by omega)
    have d2:decide ((m:Int)<(n:Int))=true:=decide_eq_true (by omega)
    have d3:decide ((x.length:Int)≤255)=false:=decide_eq_false (by omega)
    have d3':decide (x.length≤255)=false:=decide_eq_false (by omega)
    go_wp2
    go_ret
    exact⟨⟨i,rfl,HSP.out⟩,HB.out⟩
end Go.Proofs.YtopihgmemnokkaaGreat
namespace Go.Proofs.YtopihgmemnokkaaGreat
open Go.RowKit
theorem eql_nil (w:World) (a:Option Addr) (l c:Nat):(binOp .eql 30 (.slice a l c) (.slice none 0 0)).run Tryz.prog w=.ok (.bool a.isNone) w:=by
 simp only[binOp]
 simp[run_equal_slice_nil w 30 3 a l c Tryz.underlying30]
set_option maxRecDepth 100000 in
set_option maxHeartbeats 8000000 in
theorem refUnmarshal_any (d:ByteArray) (w:World) (hd:d.size≤1099511627776) :
  Calls Tryz.prog 60 #[.string d] w fun e w'=>((∃ t r b,Mar d t r∧e=.returned (.tuple #[.pointer (some ⟨b,0,none⟩),.int .i64 0])∧IAt w' b t (r:Nat)∧w.heap.size≤b)∨((∀ t r,¬ Mar d t r)∧e=.returned (.tuple #[.pointer none,.int .i64 4])))∧Below w.heap.size w w':=by
 have HM:Hid (∀ t r,Mar d t r→IsMar d t r∧BuildOk t (r:Nat)):=fun t r h=>by obtain⟨h1,rfl⟩:=h;exact⟨isMar h1,h1⟩
 by_cases h43:d.size<43
 ·have d1:decide ((d.size:Int)<43)=true:=decide_eq_true (by omega)
  go_enter Tryz.func60,Tryz.ntmps60
  go_wp2
  go_ret2
  exact⟨.inr ⟨fun t r h=>by have:=(HM.out t r h).1.sz;omega,rfl⟩,Below.refl _ _⟩
 ·have d1:decide ((d.size:Int)<43)=false:=decide_eq_false (by omega)
  have hd43:43≤d.size:=by omega
  have N1:=fun W=>numberAt_any d 1 W (by omega) hd
  have N3:=fun W=>numberAt_any d 3 W (by omega) hd
  have N5:=fun W=>numberAt_any d 5 W (by omega) hd
  have CT:=fun W=>counted_any d W hd43 hd
  have l1:=numA_lt d 1
  have l3:=numA_lt d 3
  have l5:=numA_lt d 5
  have HN1:Hid (∀ W,Calls Tryz.prog 98 #[.string d,.int .i64 1] W fun e w'=>e=.returned (.int .i64 ((numA d 1:Nat):Int))∧Below W.heap.size W w'):=N1
  have HN3:Hid (∀ W,Calls Tryz.prog 98 #[.string d,.int .i64 3] W fun e w'=>e=.returned (.int .i64 ((numA d 3:Nat):Int))∧Below W.heap.size W w'):=N3
  have HN5:Hid (∀ W,Calls Tryz.prog 98 #[.string d,.int .i64 5] W fun e w'=>e=.returned (.int .i64 ((numA d 5:Nat):Int))∧Below W.heap.size W w'):=N5
  have HCT:Hid (∀ W,Calls Tryz.prog 99 #[.string d] W fun e w'=>((okD d 256∧∃ g,e=.returned (.tuple #[.slice (some ⟨g,0,none⟩) 256 256,.int .i64 ((atC d 256:Nat):Int)])∧Row w' g 3 256 (fTo d 256))∨(¬ okD d 256∧e=.returned (.tuple #[.slice none 0 0,.int .i64 0])))∧Below W.heap.size W w'):=CT
  have HI:Hid (∀ t r,Mar d t r→numA d 1=r∧numA d 3=t.size∧numA d 5=fw t∧okD d 256∧fTo d 256=cntB t t.size∧d.extract (atC d 256) d.size=bys (restM t r)∧BuildOk t (r:Nat)):=fun t r h=>by
   obtain⟨h1,h2⟩:=HM.out t r h
   exact⟨h1.n1,h1.n3,h1.n5,h1.ok,h1.f,h1.rest,h2⟩
  clear N1 N3 N5 CT HM
  have hnil:=eql_nil
  generalize numA d 1=rate at *
  generalize numA d 3=n at *
  generalize numA d 5=row at *
  go_enter Tryz.func60,Tryz.ntmps60
  go_wp2_with fail
  refine(HN1.out _).mono ?_
  rintro e w1 ⟨rfl,hb1⟩
  go_wp2_with fail
  refine(HN3.out _).mono ?_
  rintro e w2 ⟨rfl,hb2⟩
  go_wp2_with fail
  refine(HN5.out _).mono ?_
  rintro e w3 ⟨rfl,hb3⟩
  go_wp2_with fail
  refine(HCT.out _).mono ?_
  have HB3:Hid (Below w.heap.size w w3):=(hb1.trans (hb2.mono hb1.size)).trans (hb3.mono (Nat.le_trans hb1.size hb2.size))
  clear hb1 hb2 hb3 HN1 HN3 HN5 HCT
  rintro e w4 ⟨(⟨hok,gf,rfl,hR⟩|⟨hno,rfl⟩),hb4⟩
  ·have HB4:Hid (Below w.heap.size w w4):=HB3.out.trans (hb4.mono HB3.out.size)
   have HOK:Hid (okD d 256):=hok
   have HR:Hid (Row w4 gf 3 256 (fTo d 256)):=hR
   have HAT:Hid (atC d 256≤d.size):=atC_ok hd43 hok
   have HFL:Hid (∀ c,fTo d 256 c<65536):=fun c=>by
    show fTo d 256 c<65536
    unfold fTo fD
    split
    ·split
     ·exact numA_lt _ _
     ·decide
    ·decide
   clear hok hR hb4
   generalize atC d 256=at_ at *
   generalize fTo d 256=f at *
   go_wp2
   go_loopw [9,10] (fun tv cv wr=>∃ c:Nat,c≤256∧cv=.int .i64 (c:Nat)∧tv=.int .i64 ((sm c f:Nat):Int)∧wr=w4) (fun _ cv _=>256-(intOf cv).toNat)
   case atStart=>exact⟨0,by omega,rfl,rfl,rfl⟩
   case round =>
    obtain⟨c,hc,rfl,rfl,rfl⟩:=hrel
    have hsm:sm c f≤c*65536:=by
     have:=sm_bound (k:=c) (B:=65536) (g:=f) (fun x _=>by have:=HFL.out x;omega)
     exact this
    by_cases hlt:c<256
    ·have hci:(c:Int)<256:=by omega
     have r0:=HR.out.cell hlt
     have hfc:=HFL.out c
     have HSM:Hid (sm (c+1) f=sm c f+f c):=rfl
     generalize sm c f=y at *
     generalize f c=z at *
     go_wp2
     exact⟨⟨c+1,by omega,by go_num,by rw[HSM.out];go_num,trivial⟩,by simp[intOf];omega⟩
    ·have hce:256=c:=by omega
     subst hce
     rw[show ((256:Nat):Int)=256 from rfl]
     by_cases hbad:sm 256 f=n∧n≤1000
     ·obtain⟨hsn,hn1⟩:=hbad
      have e1:(((sm 256 f:Nat):Int) != (n:Int))=false:=bne_eq_false_iff_eq.2 (by omega)
      have e1':(sm 256 f != n)=false:=bne_eq_false_iff_eq.2 hsn
      have e2:decide ((1000:Int)<(n:Int))=false:=decide_eq_false (by omega)
      have e2':decide (1000<n)=false:=decide_eq_false (by omega)
      have hw:∀ u,(Hf.bytes u).Nodup→(∀ c∈Hf.bytes u,c<256)→Hf.wt f u≤1000:=fun u h1 h2=>Nat.le_trans (wt_sm f u h1 h2) (by omega)
      obtain⟨L,hL,hE⟩:=rc_eq (codesG_of f)
      have HCD:Hid (∀ (W:World),Below wr.heap.size wr W→Calls Tryz.prog 90 #[.slice (some ⟨gf,0,none⟩) 256 256] W fun e w'=>∃ g,e=.returned (.slice (some ⟨g,0,none⟩) 256 256)∧SRow w' g (fun c=>tx (bl (codesG f c)))∧Below wr.heap.size wr w'):=fun W hW=>by
       refine(refcodes_any f L gf W (HR.out.below hW HR.out.lt) hw (fun c=>by have:=HFL.out c;omega) hL).mono ?_
       rintro e w' ⟨g,he,u,hS,hRC,_,hb⟩
       refine⟨g,he,?_,hW.trans (hb.mono hW.size)⟩
       unfold SRow at *
       rw[← rowS_congr (hE u hRC)];exact hS
      have HUP:Hid (∀ (W:World) (g:Nat),Below wr.heap.size wr W→SRow W g (fun c=>tx (bl (codesG f c)))→Calls Tryz.prog 100 #[.string (d.extract at_ d.size),.int .i64 (n:Nat),.slice (some ⟨g,0,none⟩) 256 256] W fun e w'=>(∃ i,e=.returned (.string (bys (uS (fun c=>bl (codesG f c)) (d.extract at_ d.size) i).1))∧StopAt (fun c=>bl (codesG f c)) (d.extract at_ d.size) n i)∧Below wr.heap.size wr w'):=fun W g hW hS =>
       (unpacked_any (fun c=>bl (codesG f c)) (d.extract at_ d.size) n g W hS (by rw[ByteArray.size_extract];omega) hn1).mono fun e w' ⟨h1,h2⟩=>⟨h1,hW.trans (h2.mono hW.size)⟩
      have HBT:Hid (∀ i,StopAt (fun c=>bl (codesG f c)) (d.extract at_ d.size) n i→∀ t r,Mar d t r→bys (uS (fun c=>bl (codesG f c)) (d.extract at_ d.size) i).1=trn t):=fun i hi t r h=>by
       obtain⟨_,h2,_,_,h5,h6,h7⟩:=HI.out t r h
       rw[h6,h5,h2]at hi
       rw[h6,h5]
       obtain⟨q1,q2⟩:=read_mar t r h7.1
       rw[StopAt.uniq hi q1]
       exact q2
      have hat:=HAT.out
      have hb4:Below wr.heap.size wr wr.drew:=below_drewN (Below.refl _ _) 1
      clear hw hL hE hsm
      generalize sm 256 f=y at *
      go_wp2_with fail
      go_region_held3 (fun _=>True) (trivial) ((first
       | (go_at_call 90;refine(HCD.out _ (by assumption)).mono ?_;rintro e w5 ⟨g,rfl,hS5,hb5⟩)
       | (go_at_call 100;refine(HUP.out _ g (by assumption) (by assumption)).mono ?_;rintro e w6 ⟨⟨i,rfl,hst⟩,hb6⟩)))
      have HB6:Hid (Below w.heap.size w w6):=HB4.out.trans (hb6.mono HB4.out.size)
      have HBX:Hid (∀ t r,Mar d t r→bys (uS (fun c=>bl (codesG f c)) (d.extract at_ d.size) i).1=trn t):=HBT.out i hst
      clear hS5 hb5 hb6 hst HBT HUP HCD hb4 HR HFL HOK
      generalize bys (uS (fun c=>bl (codesG f c)) (d.extract at_ d.size) i).1=bb at *
      go_wp2_with fail
      refine(refrestore_ans bb (row:Nat) w6).mono ?_
      rintro e w7 ⟨t2,e7,rfl,hans,hb7⟩
      have HB7:Hid (Below w.heap.size w w7):=HB6.out.trans (hb7.mono HB6.out.size)
      have HRS:Hid (∀ t r,Mar d t r→t2=t∧e7=0∧bb.size=n):=fun t r h=>by
       obtain⟨_,h2,h3,_,_,_,h7⟩:=HI.out t r h
       have hbb:=HBX.out t r h
       have hT:=trn_back t
       have hsz:=trn_size t
       have h8:RAns bb ((row:Nat):Int) t 0:=by
        rw[hbb,h3]
        exact .inr (.inr ⟨by rw[hsz];exact h7.1,fw t,rfl,hT.1,hT.2.symm,rfl⟩)
       obtain⟨q1,q2⟩:=hans.uniq h8
       exact⟨q1.symm,q2.symm,by rw[hbb,hsz,h2]⟩
      have HT2:Hid (e7=0→t2.size=bb.size):=fun h=>by
       rcases hans with⟨_,_,h1⟩|⟨_,_,_,h1⟩|⟨_,r',_,_,h1,_⟩
       ·omega
       ·omega
       ·rw[h1,textOf_size]
      have hbs:bb.size≤1000∨e7≠0:=by
       rcases hans with⟨_,_,h1⟩|⟨_,_,_,h1⟩|⟨h1,_⟩
       ·exact .inr (by omega)
       ·exact .inr (by omega)
       ·exact .inl h1
      have he7:e7≤4:=by
       rcases hans with⟨_,_,h1⟩|⟨_,_,_,h1⟩|⟨_,_,_,_,_,h1⟩ <;> omega
      clear hans hb7
      by_cases hgood:bb.size=n∧e7=0
      ·obtain⟨hg1,hg2⟩:=hgood
       subst hg2
       have f1:((bb.size:Int) != (n:Int))=false:=bne_eq_false_iff_eq.2 (by omega)
       have f1':(bb.size != n)=false:=bne_eq_false_iff_eq.2 hg1
       have ht2:t2.size≤1000:=by have:=HT2.out rfl;omega
       clear hbs he7 HT2
       go_wp2_with fail
       refine(refBuild_any t2 (rate:Nat) w7).mono ?_
       rintro e w8 (⟨hno,rfl,hw8⟩|⟨hok,b,rfl,hA,hbl,hb8⟩)
       ·have hw8:=hw8.symm
        subst hw8
        have HBAD:Hid (∀ t r,¬ Mar d t r):=fun t r h=>by
         obtain⟨h1,_,_,_,_,_,h7⟩:=HI.out t r h
         apply hno
         rw[(HRS.out t r h).1,h1]
         exact h7
        have hbe:buildErr t2 (rate:Nat)=2:=by
         unfold buildErr
         rw[if_neg (by omega),if_pos]
         have:¬ (1≤((rate:Nat):Int)∧((rate:Nat):Int)≤64):=fun h=>hno ⟨ht2,h.1,h.2⟩
         omega
        rw[hbe]
        go_wp2
        go_ret2
        exact⟨.inr ⟨HBAD.out,rfl⟩,HB7.out⟩
       ·have HB8:Hid (Below w.heap.size w w8):=HB7.out.trans (hb8.mono HB7.out.size)
        have HA:Hid (IAt w8 b t2 (rate:Nat)):=hA
        have HBL:Hid (w.heap.size≤b):=Nat.le_trans HB7.out.size hbl
        have hr64:rate≤64:=by have:=hok.2.2;omega
        have HOK:Hid (BuildOk t2 (rate:Nat)):=hok
        clear hb8 hA hbl hok
        go_wp2_with fail
        refine(refMarshal_any t2 rate b w8 HA.out ht2 hr64).mono ?_
        rintro e w9 ⟨rfl,hb9⟩
        have HB9:Hid (Below w.heap.size w w9):=HB8.out.trans (hb9.mono HB8.out.size)
        have HA9:Hid (IAt w9 b t2 (rate:Nat)):=HA.out.below hb9 HA.out.lt
        clear hb9 HA
        by_cases hsame:mar t2 rate=d
        ·have HMR:Hid (Mar d t2 rate):=⟨HOK.out,hsame.symm⟩
         have g1:((mar t2 rate).toList == d.toList)=true:=by rw[hsame];simp
         clear hsame
         generalize mar t2 rate=mm at *
         go_wp2
         go_ret2
         exact⟨.inl ⟨t2,rate,b,HMR.out,rfl,HA9.out,HBL.out⟩,HB9.out⟩
        ·have HBAD:Hid (∀ t r,¬ Mar d t r):=fun t r h=>by
          obtain⟨h1,_⟩:=HI.out t r h
          apply hsame
          rw[(HRS.out t r h).1,h1]
          exact h.2.symm
         have g1:((mar t2 rate).toList == d.toList)=false:=beq_eq_false_iff_ne.2 (fun h=>hsame (toList_inj' h))
         clear hsame
         generalize mar t2 rate=mm at *
         go_wp2
         go_ret2
         exact⟨.inr ⟨HBAD.out,rfl⟩,HB9.out⟩
      ·have HBAD:Hid (∀ t r,¬ Mar d t r):=fun t r h=>by
        obtain⟨_,h2,h3⟩:=HRS.out t r h
        exact hgood ⟨h3,h2⟩
       have hbz:bb.size≤1099511627776∨True:=.inr trivial
       by_cases hg1:bb.size=n
       ·have f1:((bb.size:Int) != (n:Int))=false:=bne_eq_false_iff_eq.2 (by omega)
        have f1':(bb.size != n)=false:=bne_eq_false_iff_eq.2 hg1
        have hg2:e7≠0:=fun h=>hgood ⟨hg1,h⟩
        have f2:((e7:Int) != 0)=true:=bne_iff_ne.2 (by omega)
        have f2':(e7 != 0)=true:=bne_iff_ne.2 hg2
        clear hgood hbs
        go_wp2
        go_ret2
        exact⟨.inr ⟨HBAD.out,rfl⟩,HB7.out⟩
       ·have f1:((bb.size:Int) != (n:Int))=true:=bne_iff_ne.2 (by omega)
        have f1':(bb.size != n)=true:=bne_iff_ne.2 hg1
        clear hgood hbs
        go_wp2
        go_ret2
        exact⟨.inr ⟨HBAD.out,rfl⟩,HB7.out⟩
     ·have HBAD:Hid (∀ t r,¬ Mar d t r):=fun t r h=>by
       obtain⟨_,h2,_,_,h5,_,h7⟩:=HI.out t r h
       apply hbad
       rw[h5,h2,sm_cnt]
       exact⟨rfl,h7.1⟩
      by_cases hne:sm 256 f=n
      ·have e1:(((sm 256 f:Nat):Int) != (n:Int))=false:=bne_eq_false_iff_eq.2 (by omega)
       have e2:decide ((1000:Int)<(n:Int))=true:=decide_eq_true (by omega)
       have e2':decide (1000<n)=true:=decide_eq_true (by omega)
       have e1':(sm 256 f != n)=false:=bne_eq_false_iff_eq.2 hne
       clear hbad
       generalize sm 256 f=y at *
       go_wp2
       go_ret2
       exact⟨.inr ⟨HBAD.out,rfl⟩,HB4.out⟩
      ·have e1:(((sm 256 f:Nat):Int) != (n:Int))=true:=bne_iff_ne.2 (by omega)
       have e1':(sm 256 f != n)=true:=bne_iff_ne.2 hne
       clear hbad hne
       generalize sm 256 f=y at *
       go_wp2
       go_ret2
       exact⟨.inr ⟨HBAD.out,rfl⟩,HB4.out⟩
  ·have HB4:Hid (Below w.heap.size w w4):=HB3.out.trans (hb4.mono HB3.out.size)
   have HBAD:Hid (∀ t r,¬ Mar d t r):=fun t r h=>hno (HI.out t r h).2.2.2.1
   clear hno hb4 HI
   go_wp2
   go_loopw [9,10] (fun tv cv wr=>tv=.int .i64 0∧cv=.int .i64 0∧wr=w4) (fun _ _ _=>0)
   case atStart=>exact⟨rfl,rfl,rfl⟩
   case round =>
    obtain⟨rfl,rfl,rfl⟩:=hrel
    go_wp2
    go_ret2
    exact⟨.inr ⟨HBAD.out,rfl⟩,HB4.out⟩
end Go.Proofs.YtopihgmemnokkaaGreat
