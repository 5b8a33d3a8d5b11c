import Derived.Test.YtopihgmemnokkaaGreatTWalk19J
import Derived.Test.YtopihgmemnokkaaGreatWorldJ
import Derived.Test.YtopihgmemnokkaaGreatBitW6J
import Derived.Test.YtopihgmemnokkaaGreatRecAJ
namespace Go.Proofs.YtopihgmemnokkaaGreat
open Go.RowKit
def FL (lv mv:Value) (ls:List Value) (k:Nat):Prop:=lv.ownBlock=some k∨mv.ownBlock=some k∨∃ l,l∈ls∧l.ownBlock=some k
theorem Lists.keepO {P:Nat→Prop}{B0:Nat}{w w':World}{lv mv:Value}{ls:List Value}{ms:List Int}(h:Lists B0 w lv mv ls ms) (hk:Kept P w w') (hP:∀ k,FL lv mv ls k→¬ P k):Lists B0 w' lv mv ls ms :=
 ⟨h.len,own_keep h.own hk (fun g hg=>hP g (.inl hg)),own_keep h.mar hk (fun g hg=>hP g (.inr (.inl hg))),
 fun i l m hl hm=>(h.all i l m hl hm).keep hk (fun g hg=>hP g (.inr (.inr ⟨l,List.mem_of_getElem? hl,hg⟩))),h.ne⟩
theorem Lists.lt {B0:Nat}{w:World}{lv mv:Value}{ls:List Value}{ms:List Int}(h:Lists B0 w lv mv ls ms) (k:Nat) (hk:FL lv mv ls k):k<w.heap.size:=by
 rcases hk with hk|hk|⟨l,hl,hk⟩
 ·exact(h.own.lt k hk).2
 ·exact(h.mar.lt k hk).2
 ·obtain⟨m,hm⟩:=h.mem hl
  exact hm.lt k hk
theorem Lists.wd {B0:Nat}{w:World}{lv mv:Value}{ls:List Value}{ms:List Int}(h:Lists B0 w lv mv ls ms){wb:Nat}{v0 v1 v2 v3 v4 v5 v6 v7:Value}(hw:Wd w wb v0 v1 v2 v3 v4 v5 v6 v7) (k:Nat) (hk:FL lv mv ls k):k≠wb:=by
 rintro rfl
 rcases hk with hk|hk|⟨l,hl,hk⟩
 ·exact hw.ne h.own (by decide) hk
 ·exact hw.ne h.mar (by decide) hk
 ·obtain⟨m,hm⟩:=h.mem hl
  exact hm.wd hw hk
theorem Texts.keepO {P:Nat→Prop}{B0:Nat}{w w':World}{lv mv:Value}{ls:List Value}{ms:List ByteArray}(h:Texts B0 w lv mv ls ms) (hk:Kept P w w') (hP:∀ k,FL lv mv ls k→¬ P k):Texts B0 w' lv mv ls ms :=
 ⟨h.len,own_keep h.own hk (fun g hg=>hP g (.inl hg)),own_keep h.mar hk (fun g hg=>hP g (.inr (.inl hg))),
 fun i l m hl hm=>(h.all i l m hl hm).keep hk (fun g hg=>hP g (.inr (.inr ⟨l,List.mem_of_getElem? hl,hg⟩))),h.ne⟩
theorem Texts.lt {B0:Nat}{w:World}{lv mv:Value}{ls:List Value}{ms:List ByteArray}(h:Texts B0 w lv mv ls ms) (k:Nat) (hk:FL lv mv ls k):k<w.heap.size:=by
 rcases hk with hk|hk|⟨l,hl,hk⟩
 ·exact(h.own.lt k hk).2
 ·exact(h.mar.lt k hk).2
 ·obtain⟨m,hm⟩:=h.mem hl
  exact hm.lt k hk
theorem Texts.wd {B0:Nat}{w:World}{lv mv:Value}{ls:List Value}{ms:List ByteArray}(h:Texts B0 w lv mv ls ms){wb:Nat}{v0 v1 v2 v3 v4 v5 v6 v7:Value}(hw:Wd w wb v0 v1 v2 v3 v4 v5 v6 v7) (k:Nat) (hk:FL lv mv ls k):k≠wb:=by
 rintro rfl
 rcases hk with hk|hk|⟨l,hl,hk⟩
 ·exact hw.ne h.own (by decide) hk
 ·exact hw.ne h.mar (by decide) hk
 ·obtain⟨m,hm⟩:=h.mem hl
  exact hm.wd hw hk
structure BI where
 a:Nat
 z:Nat
 b:Nat
 q:Nat
 s:ByteArray
structure BI.At (i:BI) (w:World):Prop where
 bits:∃ wv av,BitL i.a w i.b [] [] 154 wv av (oneAt i.s) i.s.size∧∀ k,bitP i.b wv av k→i.a≤k∧k<i.z
 refb:QAt w i.q i.s
 rq:i.a≤i.q∧i.q<i.z
 top:i.z≤w.heap.size
 small:i.s.size≤1099511627776
theorem BI.At.bitsAt {i:BI}{w:World}(h:i.At w):BitsAt i.a w i.b (oneAt i.s) i.s.size:=by
 obtain⟨wv,av,h1,_⟩:=h.bits;exact⟨wv,av,h1⟩
theorem BI.At.keep {i:BI}{P:Nat→Prop}{w w':World}(h:i.At w) (hk:Kept P w w') (hP:∀ k,i.a≤k→k<i.z→¬ P k):i.At w':=by
 obtain⟨wv,av,h1,h2⟩:=h.bits
 exact⟨⟨wv,av,h1.keep hk (fun k hb=>hP k (h2 k hb).1 (h2 k hb).2),h2⟩,h.refb.keep hk (hP _ h.rq.1 h.rq.2),h.rq,Nat.le_trans h.top hk.size,h.small⟩
structure BitsP (B0:Nat) (w:World) (bv qv:Value) (its:List BI):Prop where
 own:w.ownsRow B0 95 1 bv its.length (its.map fun i=>.pointer (some ⟨i.b,0,none⟩))
 ref:w.ownsRow B0 98 1 qv its.length (its.map fun i=>.pointer (some ⟨i.q,0,none⟩))
 all:∀ i,i∈its→i.At w
 sep:∀ i,i∈its→∀ k,i.a≤k→k<i.z→bv.ownBlock≠some k∧qv.ownBlock≠some k
def FB (bv qv:Value) (its:List BI) (k:Nat):Prop:=bv.ownBlock=some k∨qv.ownBlock=some k∨∃ i,i∈its∧i.a≤k∧k<i.z
theorem BitsP.keepO {P:Nat→Prop}{B0:Nat}{w w':World}{bv qv:Value}{its:List BI}(h:BitsP B0 w bv qv its) (hk:Kept P w w') (hP:∀ k,FB bv qv its k→¬ P k):BitsP B0 w' bv qv its :=
 ⟨own_keep h.own hk (fun g hg=>hP g (.inl hg)),own_keep h.ref hk (fun g hg=>hP g (.inr (.inl hg))),fun i hi=>(h.all i hi).keep hk (fun k h1 h2=>hP k (.inr (.inr ⟨i,hi,h1,h2⟩))),h.sep⟩
theorem BitsP.lt {B0:Nat}{w:World}{bv qv:Value}{its:List BI}(h:BitsP B0 w bv qv its) (k:Nat) (hk:FB bv qv its k):k<w.heap.size:=by
 rcases hk with hk|hk|⟨i,hi,_,hk⟩
 ·exact(h.own.lt k hk).2
 ·exact(h.ref.lt k hk).2
 ·exact Nat.lt_of_lt_of_le hk (h.all i hi).top
structure Closed (F:Nat→Prop) (X:World→Prop):Prop where
 keep:∀ (P:Nat→Prop) (w w':World),X w→Kept P w w'→(∀ k,F k→¬ P k)→X w'
 lt:∀ w,X w→∀ k,F k→k<w.heap.size
structure LXat (B0 wb:Nat) (xv rv:Value) (FX:Nat→Prop) (X:World→Prop) (w:World) (bv qv lv tv mv dv:Value) (ls ts:List Value) (ms:List Int) (ds:List ByteArray) (its:List BI):Prop where
 low:B0≤wb
 wd:Wd w wb bv qv xv rv lv tv mv dv
 lists:Lists B0 w lv mv ls ms
 texts:Texts B0 w tv dv ts ds
 bits:BitsP B0 w bv qv its
 more:X w
 cl:Closed FX X
 d1:∀ k,FL lv mv ls k→¬ FL tv dv ts k∧¬ FB bv qv its k∧¬ FX k
 d2:∀ k,FL tv dv ts k→¬ FB bv qv its k∧¬ FX k
 d3:∀ k,FB bv qv its k→¬ FX k∧k≠wb
 d4:∀ k,FX k→k≠wb
def LX (B0 wb:Nat) (xv rv:Value) (FX:Nat→Prop) (X:World→Prop) (N:Nat) (w:World):Prop :=
 ∃ bv qv lv tv mv dv ls ts ms ds its,LXat B0 wb xv rv FX X w bv qv lv tv mv dv ls ts ms ds its∧ls.length≤N∧ts.length≤N∧its.length≤N
section
variable {B0 wb:Nat}{xv rv:Value}{FX:Nat→Prop}{X:World→Prop}{w:World}{bv qv lv tv mv dv:Value}{ls ts:List Value}{ms:List Int}{ds:List ByteArray}{its:List BI}{N:Nat}
theorem LXat.below {w':World}(h:LXat B0 wb xv rv FX X w bv qv lv tv mv dv ls ts ms ds its) (hb:Below w.heap.size w w'):LXat B0 wb xv rv FX X w' bv qv lv tv mv dv ls ts ms ds its:=by
 have hk:=Kept.of_below hb (Nat.le_refl _) (fun _=>False)
 exact⟨h.low,h.wd.keep hk (fun h=>h),h.lists.keepO hk (fun _ _ h=>h),h.texts.keepO hk (fun _ _ h=>h),h.bits.keepO hk (fun _ _ h=>h),h.cl.keep _ _ _ h.more hk (fun _ _ h=>h),h.cl,h.d1,h.d2,h.d3,h.d4⟩
theorem LX.below {w':World}(h:LX B0 wb xv rv FX X N w) (hb:Below w.heap.size w w'):LX B0 wb xv rv FX X N w':=by
 obtain⟨bv,qv,lv,tv,mv,dv,ls,ts,ms,ds,its,h1,h2⟩:=h
 exact⟨bv,qv,lv,tv,mv,dv,ls,ts,ms,ds,its,h1.below hb,h2⟩
theorem LX.mono {M:Nat}(h:LX B0 wb xv rv FX X N w) (hm:N≤M):LX B0 wb xv rv FX X M w:=by
 obtain⟨bv,qv,lv,tv,mv,dv,ls,ts,ms,ds,its,h1,h2,h3,h4⟩:=h
 exact⟨bv,qv,lv,tv,mv,dv,ls,ts,ms,ds,its,h1,by omega,by omega,by omega⟩
theorem LX.low (h:LX B0 wb xv rv FX X N w):B0≤wb:=by
 obtain⟨bv,qv,lv,tv,mv,dv,ls,ts,ms,ds,its,h1,_⟩:=h;exact h1.low
end
theorem keep_lx (B0 wb:Nat) (xv rv:Value) (FX:Nat→Prop) (X:World→Prop) (N:Nat) (w0 w:World) (L:LX B0 wb xv rv FX X N w0) (hb:Below w0.heap.size w0 w) (l:Value) (n:Nat) (xs:List Value) (hl:w.ownsRow w0.heap.size 3 1 l n xs)
  (hB:B0≤w0.heap.size) (hN:N≤5000000) (hn:n≤5000) :
  Calls Tryz.prog 42 #[.pointer (some ⟨wb,0,none⟩),l] w fun e w'=>e=.returned (.tuple #[])∧LX B0 wb xv rv FX X (N+4) w'∧Below B0 w w':=by
 have hz:=hb.size
 obtain⟨bv,qv,lv,tv,mv,dv,ls,ts,ms,ds,its,h1,h2,h3,h4⟩:=L
 have h0:=h1.below hb
 have hlb:=hl.lt
 have hl0:=hl.mono hB
 have hF1:=h1.lists.lt
 refine(keep_any (fun k=>FL tv dv ts k∨FB bv qv its k∨FX k) B0 wb bv qv xv rv tv dv lv mv l ls ms n xs w h0.wd h1.low h0.lists hl0 ?_ ?_ (by omega) (by omega) hn ?_).mono ?_
 ·cases hx:l.ownBlock with
  | none=>exact .inl rfl
  | some g =>
   refine .inr fun e=>?_
   have:=(hlb g hx).1
   have:=hF1 g (.inr (.inl e.symm))
   omega
 ·intro y hy
  cases hx:y.ownBlock with
  | none=>exact .inl rfl
  | some g =>
   refine .inr fun e=>?_
   have:=(hlb g e.symm).1
   have:=hF1 g (.inr (.inr ⟨y,hy,hx⟩))
   omega
 ·intro a ha
  have hlt:a<w0.heap.size∧a≠wb∧¬ FL lv mv ls a:=by
   rcases ha with ha|ha|ha
   ·exact⟨h1.texts.lt a ha,h1.texts.wd h1.wd a ha,fun e=>(h1.d1 a e).1 ha⟩
   ·exact⟨h1.bits.lt a ha,(h1.d3 a ha).2,fun e=>(h1.d1 a e).2.1 ha⟩
   ·exact⟨h1.cl.lt _ h1.more a ha,h1.d4 a ha,fun e=>(h1.d1 a e).2.2 ha⟩
  refine⟨by omega,hlt.2.1,fun e=>hlt.2.2 (.inl e),fun e=>hlt.2.2 (.inr (.inl e)),fun e=>?_⟩
  have:=(hlb a e).1
  omega
 ·rintro e w' ⟨he,lv',mv',ls',ms',k1,k2,k3,k4,k5⟩
  have hk:Kept (fun k=>¬ (FL tv dv ts k∨FB bv qv its k∨FX k)) w w':=⟨k4.os,k4.tape,k4.output,k4.size,fun k hk hn=>(k5 k (Classical.not_not.1 hn)).1⟩
  have fl:∀ k,FL lv' mv' ls' k→¬ (FL tv dv ts k∨FB bv qv its k∨FX k):=by
   intro k hk2 hF
   obtain⟨_,f2,f3,f4⟩:=k5 k hF
   rcases hk2 with hk2|hk2|⟨y,hy,hk2⟩
   ·exact f2 hk2
   ·exact f3 hk2
   ·rcases f4 y hy with h|h
    ·have hd:=h1.d1 k (.inr (.inr ⟨y,h,hk2⟩))
     rcases hF with hF|hF|hF
     ·exact hd.1 hF
     ·exact hd.2.1 hF
     ·exact hd.2.2 hF
    ·exact h hk2
  refine⟨he,⟨bv,qv,lv',tv,mv',dv,ls',ts,ms',ds,its,?_,by omega,by omega,by omega⟩,k4⟩
  refine⟨h1.low,k1,k2,h0.texts.keepO hk (fun k h hn=>hn (.inl h)),h0.bits.keepO hk (fun k h hn=>hn (.inr (.inl h))),h1.cl.keep _ _ _ h0.more hk (fun k h hn=>hn (.inr (.inr h))),h1.cl,?_,h1.d2,h1.d3,h1.d4⟩
  intro k hk2
  have:=fl k hk2
  exact⟨fun h=>this (.inl h),fun h=>this (.inr (.inl h)),fun h=>this (.inr (.inr h))⟩
theorem keepTexts_lx (B0 wb:Nat) (xv rv:Value) (FX:Nat→Prop) (X:World→Prop) (N:Nat) (w0 w:World) (L:LX B0 wb xv rv FX X N w0) (hb:Below w0.heap.size w0 w) (l:Value) (n:Nat) (xs:List Value) (hl:w.ownsRow w0.heap.size 9 1 l n xs)
  (hB:B0≤w0.heap.size) (hN:N≤5000000) (hn:n≤5000) :
  Calls Tryz.prog 49 #[.pointer (some ⟨wb,0,none⟩),l] w fun e w'=>e=.returned (.tuple #[])∧LX B0 wb xv rv FX X (N+4) w'∧Below B0 w w':=by
 have hz:=hb.size
 obtain⟨bv,qv,lv,tv,mv,dv,ls,ts,ms,ds,its,h1,h2,h3,h4⟩:=L
 have h0:=h1.below hb
 have hlb:=hl.lt
 have hl0:=hl.mono hB
 have hF1:=h1.texts.lt
 refine(keepTexts_any (fun k=>FL lv mv ls k∨FB bv qv its k∨FX k) B0 wb bv qv xv rv lv mv tv dv l ts ds n xs w h0.wd h1.low h0.texts hl0 ?_ ?_ (by omega) (by omega) hn ?_).mono ?_
 ·cases hx:l.ownBlock with
  | none=>exact .inl rfl
  | some g =>
   refine .inr fun e=>?_
   have:=(hlb g hx).1
   have:=hF1 g (.inr (.inl e.symm))
   omega
 ·intro y hy
  cases hx:y.ownBlock with
  | none=>exact .inl rfl
  | some g =>
   refine .inr fun e=>?_
   have:=(hlb g e.symm).1
   have:=hF1 g (.inr (.inr ⟨y,hy,hx⟩))
   omega
 ·intro a ha
  have hlt:a<w0.heap.size∧a≠wb∧¬ FL tv dv ts a:=by
   rcases ha with ha|ha|ha
   ·exact⟨h1.lists.lt a ha,h1.lists.wd h1.wd a ha,(h1.d1 a ha).1⟩
   ·exact⟨h1.bits.lt a ha,(h1.d3 a ha).2,fun e=>(h1.d2 a e).1 ha⟩
   ·exact⟨h1.cl.lt _ h1.more a ha,h1.d4 a ha,fun e=>(h1.d2 a e).2 ha⟩
  refine⟨by omega,hlt.2.1,fun e=>hlt.2.2 (.inl e),fun e=>hlt.2.2 (.inr (.inl e)),fun e=>?_⟩
  have:=(hlb a e).1
  omega
 ·rintro e w' ⟨he,lv',mv',ls',ms',k1,k2,k3,k4,k5⟩
  have hk:Kept (fun k=>¬ (FL lv mv ls k∨FB bv qv its k∨FX k)) w w':=⟨k4.os,k4.tape,k4.output,k4.size,fun k hk hn=>(k5 k (Classical.not_not.1 hn)).1⟩
  have fl:∀ k,FL lv' mv' ls' k→¬ (FL lv mv ls k∨FB bv qv its k∨FX k):=by
   intro k hk2 hF
   obtain⟨_,f2,f3,f4⟩:=k5 k hF
   rcases hk2 with hk2|hk2|⟨y,hy,hk2⟩
   ·exact f2 hk2
   ·exact f3 hk2
   ·rcases f4 y hy with h|h
    ·have hd:=h1.d2 k (.inr (.inr ⟨y,h,hk2⟩))
     rcases hF with hF|hF|hF
     ·exact(h1.d1 k hF).1 (.inr (.inr ⟨y,h,hk2⟩))
     ·exact hd.1 hF
     ·exact hd.2 hF
    ·exact h hk2
  refine⟨he,⟨bv,qv,lv,lv',mv,mv',ls,ls',ms,ms',its,?_,by omega,by omega,by omega⟩,k4⟩
  refine⟨h1.low,k1,h0.lists.keepO hk (fun k h hn=>hn (.inl h)),k2,h0.bits.keepO hk (fun k h hn=>hn (.inr (.inl h))),h1.cl.keep _ _ _ h0.more hk (fun k h hn=>hn (.inr (.inr h))),h1.cl,?_,?_,h1.d3,h1.d4⟩
  ·intro k hk2
   exact⟨fun h=>fl k h (.inl hk2),(h1.d1 k hk2).2.1,(h1.d1 k hk2).2.2⟩
  ·intro k hk2
   have:=fl k hk2
   exact⟨fun h=>this (.inr (.inl h)),fun h=>this (.inr (.inr h))⟩
end Go.Proofs.YtopihgmemnokkaaGreat
namespace Go.Proofs.YtopihgmemnokkaaGreat
open Go.RowKit
def ReadsS (w:World) (v:Value) (n:Nat) (f:Nat→ByteArray):Prop :=
 (v=.slice none 0 0∧n=0)∨∃ g cap,v=.slice (some ⟨g,0,none⟩) n cap∧∀ k,k<n→w.cell? ⟨g,k,none⟩=some (.string (f k))
theorem ReadsS.still {w w':World}{v:Value}{n:Nat}{f:Nat→ByteArray}(h:ReadsS w v n f) (hk:Still w w'):ReadsS w' v n f:=by
 rcases h with h|⟨g,cap,rfl,hg⟩
 ·exact .inl h
 ·exact .inr ⟨g,cap,rfl,fun k hk'=>hk.cell (hg k hk') (fun h=>h)⟩
set_option maxRecDepth 100000 in
set_option maxHeartbeats 1000000 in
theorem sameTexts_any (u v:Value) (n:Nat) (f:Nat→ByteArray) (w:World) (hu:ReadsS w u n f) (hv:ReadsS w v n f) (hn:n≤5000) :
  Calls Tryz.prog 48 #[u,v] w fun e w'=>e=.returned (.bool true)∧Still w w':=by
 rcases hu with⟨rfl,rfl⟩|⟨g,cap,rfl,hg⟩
 ·rcases hv with⟨rfl,_⟩|⟨g',cap',rfl,hg'⟩
  ·go_enter Tryz.func48,Tryz.ntmps48
   go_wp2
   go_loopw [5] (fun i wr=>i=.int .i64 0∧wr=w) (fun _ _=>0)
   case atStart=>exact⟨rfl,rfl⟩
   case round =>
    obtain⟨rfl,rfl⟩:=hrel
    go_wp2
    go_ret
    exact⟨rfl,Kept.refl _ _⟩
  ·go_enter Tryz.func48,Tryz.ntmps48
   go_wp2
   go_loopw [5] (fun i wr=>i=.int .i64 0∧wr=w) (fun _ _=>0)
   case atStart=>exact⟨rfl,rfl⟩
   case round =>
    obtain⟨rfl,rfl⟩:=hrel
    go_wp2
    go_ret
    exact⟨rfl,Kept.refl _ _⟩
 ·rcases hv with⟨rfl,rfl⟩|⟨g',cap',rfl,hg'⟩
  ·go_enter Tryz.func48,Tryz.ntmps48
   go_wp2
   go_loopw [5] (fun i wr=>i=.int .i64 0∧wr=w) (fun _ _=>0)
   case atStart=>exact⟨rfl,rfl⟩
   case round =>
    obtain⟨rfl,rfl⟩:=hrel
    go_wp2
    go_ret
    exact⟨rfl,Kept.refl _ _⟩
  ·have hd:(((n:Nat):Int) != ((n:Nat):Int))=false:=by simp
   go_enter Tryz.func48,Tryz.ntmps48
   go_wp2
   go_loopw [5] (fun i wr=>∃ p:Nat,p≤n∧i=.int .i64 p∧Still w wr) (fun i _=>n-(intOf i).toNat)
   case atStart=>exact⟨0,by omega,rfl,Kept.refl _ _⟩
   case round =>
    obtain⟨p,hp,rfl,hk⟩:=hrel
    by_cases hlt:p<n
    ·have c1:=hk.cell (hg p hlt) (fun h=>h)
     have c2:=hk.cell (hg' p hlt) (fun h=>h)
     generalize f p=y at c1 c2
     have hy:(y.toList == y.toList)=true:=by simp
     have hlt':(p:Int)<(n:Int):=by omega
     go_wp2_with fail
     go_quiet (fail)
     go_wp2
     exact⟨⟨p+1,by omega,by go_num,hk.drewN nq⟩,by simp[intOf];omega⟩
    ·have hp':p=n:=by omega
     subst hp'
     go_wp2
     go_ret
     exact⟨rfl,hk⟩
theorem Txt.slice {w:World}{l:Value}{m:ByteArray}(h:Txt w l m):∃ la n lc,l=.slice la n lc∧n≤9223372036854775807∧∀ k,k<n→∃ g,la=some ⟨g,0,none⟩∧w.cell? ⟨g,k,none⟩=some (.string m):=by
 rcases h with rfl|⟨g,n,cap,cur,rfl,h1,h2,h3⟩
 ·exact⟨none,0,0,rfl,by omega,fun k hk=>by omega⟩
 ·refine⟨_,n,cap,rfl,by have:=h2.2;unfold maxLen at this;omega,fun k hk=>⟨g,rfl,?_⟩⟩
  have:=h3 k hk
  simp[World.cell?,h1,this]
set_option maxRecDepth 100000 in
set_option maxHeartbeats 2000000 in
theorem kept2_any (B0 wb:Nat) (b q x r lv tv mv dv:Value) (ls ts:List Value) (ms:List Int) (ds:List ByteArray) (w:World) (hw:Wd w wb b q x r lv tv mv dv) (L:Lists B0 w lv mv ls ms) (T:Texts B0 w tv dv ts ds) (hlen:ls.length≤8000000) (hlen2:ts.length≤8000000) :
  Calls Tryz.prog 28 #[.pointer (some ⟨wb,0,none⟩)] w fun e w'=>e=.returned (.bool true)∧Still w w':=by
 have hwc:=fun {w':World}(hk:Still w w')=>hw.keep hk (fun h=>h)
 obtain⟨la,lc,hlv⟩:=own_slice L.own
 obtain⟨ma,mc,hmv⟩:=own_slice L.mar
 have hll:=L.len
 have C:∀ p,p<ls.length→∃ g1 g2 m l,la=some ⟨g1,0,none⟩∧ma=some ⟨g2,0,none⟩∧w.cell? ⟨g1,p,none⟩=some l∧w.cell? ⟨g2,p,none⟩=some (.int .i64 m)∧Lst w l m:=by
  intro p hp
  obtain⟨g1,c1,l,e1,h1,h2⟩:=own_at L.own hp
  obtain⟨g2,c2,y,e2,h3,h4⟩:=own_at L.mar (p:=p) (by omega)
  rw[List.getElem?_map]at h3
  cases hm:ms[p]? with
  | none=>rw[hm]at h3;cases h3
  | some m =>
   rw[hm]at h3
   have hy:y=.int .i64 m:=by simpa using h3.symm
   subst hy
   rw[hlv]at e1
   rw[hmv]at e2
   injection e1 with e1
   injection e2 with e2
   exact⟨g1,g2,m,l,e1,e2,h2,h4,L.all p l m h1 hm⟩
 obtain⟨ta,tc,htv⟩:=own_slice T.own
 obtain⟨da,dc,hdv⟩:=own_slice T.mar
 have htl:=T.len
 have D:∀ p,p<ts.length→∃ g1 g2 m l,ta=some ⟨g1,0,none⟩∧da=some ⟨g2,0,none⟩∧w.cell? ⟨g1,p,none⟩=some l∧w.cell? ⟨g2,p,none⟩=some (.string m)∧Txt w l m:=by
  intro p hp
  obtain⟨g1,c1,l,e1,h1,h2⟩:=own_at T.own hp
  obtain⟨g2,c2,y,e2,h3,h4⟩:=own_at T.mar (p:=p) (by omega)
  rw[List.getElem?_map]at h3
  cases hm:ds[p]? with
  | none=>rw[hm]at h3;cases h3
  | some m =>
   rw[hm]at h3
   have hy:y=.string m:=by simpa using h3.symm
   subst hy
   rw[htv]at e1
   rw[hdv]at e2
   injection e1 with e1
   injection e2 with e2
   exact⟨g1,g2,m,l,e1,e2,h2,h4,T.all p l m h1 hm⟩
 rw[← hll]at hmv
 rw[← htl]at hdv
 clear L T hw hll htl
 subst hlv hmv htv hdv
 have DD:Hid (∀ p,p<ts.length→∃ g1 g2 m l,ta=some ⟨g1,0,none⟩∧da=some ⟨g2,0,none⟩∧w.cell? ⟨g1,p,none⟩=some l∧w.cell? ⟨g2,p,none⟩=some (.string m)∧Txt w l m):=D
 clear D
 go_enter Tryz.func28,Tryz.ntmps28
 go_wp2
 go_loopw [3,4] (fun i _ wr=>∃ p:Nat,p≤ls.length∧i=.int .i64 p∧Still w wr) (fun i _ _=>ls.length-(intOf i).toNat)
 case atStart=>exact⟨0,by omega,rfl,Kept.refl _ _⟩
 case round =>
  obtain⟨p,hp,rfl,hk⟩:=hrel
  have W:=hwc hk
  have c4:=W.cell 4
  have c5:=W.cell 5
  simp only[List.getElem?_toArray,List.getElem?_cons_succ,List.getElem?_cons_zero]at c4 c5
  clear W
  by_cases hlt:p<ls.length
  ·obtain⟨g1,g2,m,l,rfl,rfl,h1,h2,hL⟩:=C p hlt
   obtain⟨na,n,nc,rfl,hn9,hn⟩:=hL.slice
   have hlt':decide ((p:Int)<(ls.length:Int))=true:=decide_eq_true (by omega)
   clear C c5
   go_wp2
   clear c4
   go_loopw [4] (fun kk wr=>∃ k:Nat,k≤n∧kk=.int .i64 k∧Still w wr) (fun kk _=>n-(intOf kk).toNat)
   case atStart=>exact⟨0,by omega,rfl,hk⟩
   case round =>
    clear hk
    obtain⟨k,hkn,rfl,hk⟩:=hrel
    have W:=hwc hk
    have c4:=W.cell 4
    have c6:=W.cell 6
    simp only[List.getElem?_toArray,List.getElem?_cons_succ,List.getElem?_cons_zero]at c4 c6
    clear W
    have k1:=hk.cell h1 (fun h=>h)
    have k2:=hk.cell h2 (fun h=>h)
    by_cases hkl:k<n
    ·obtain⟨g3,rfl,h3⟩:=hn k hkl
     have k3:=hk.cell h3 (fun h=>h)
     have hmm:(m != m)=false:=by simp
     have hkl':(k:Int)<(n:Int):=by omega
     have hlt2:(p:Int)<(ls.length:Int):=by omega
     go_wp2_with fail
     go_quiet (fail)
     go_wp2
     exact⟨⟨k+1,by omega,by go_num,hk.drewN nq⟩,by simp[intOf];omega⟩
    ·have hk':k=n:=by omega
     subst hk'
     go_wp2
     exact⟨⟨p+1,by omega,by go_num,hk⟩,by simp[intOf];omega⟩
  ·have hp':p=ls.length:=by omega
   subst hp'
   clear C
   go_wp2
   go_loopw [5,6] (fun i _ wr=>∃ p:Nat,p≤ts.length∧i=.int .i64 p∧Still w wr) (fun i _ _=>ts.length-(intOf i).toNat)
   case atStart=>exact⟨0,by omega,rfl,hk⟩
   case round =>
    clear hk c4 c5
    obtain⟨p,hp,rfl,hk⟩:=hrel
    have W:=hwc hk
    have c5:=W.cell 5
    simp only[List.getElem?_toArray,List.getElem?_cons_succ,List.getElem?_cons_zero]at c5
    clear W
    by_cases hlt:p<ts.length
    ·obtain⟨g1,g2,m,l,rfl,rfl,h1,h2,hL⟩:=DD.out p hlt
     obtain⟨na,n,nc,rfl,hn9,hn⟩:=hL.slice
     have hlt':decide ((p:Int)<(ts.length:Int))=true:=decide_eq_true (by omega)
     clear DD
     go_wp2
     clear c5
     go_loopw [6] (fun kk wr=>∃ k:Nat,k≤n∧kk=.int .i64 k∧Still w wr) (fun kk _=>n-(intOf kk).toNat)
     case atStart=>exact⟨0,by omega,rfl,hk⟩
     case round =>
      clear hk
      obtain⟨k,hkn,rfl,hk⟩:=hrel
      have W:=hwc hk
      have c5:=W.cell 5
      have c7:=W.cell 7
      simp only[List.getElem?_toArray,List.getElem?_cons_succ,List.getElem?_cons_zero]at c5 c7
      clear W
      have k1:=hk.cell h1 (fun h=>h)
      have k2:=hk.cell h2 (fun h=>h)
      by_cases hkl:k<n
      ·obtain⟨g3,rfl,h3⟩:=hn k hkl
       have k3:=hk.cell h3 (fun h=>h)
       have hmm:(m.toList == m.toList)=true:=by simp
       have hkl':(k:Int)<(n:Int):=by omega
       have hlt2:(p:Int)<(ts.length:Int):=by omega
       go_wp2_with fail
       go_quiet (fail)
       go_wp2
       exact⟨⟨k+1,by omega,by go_num,hk.drewN nq⟩,by simp[intOf];omega⟩
      ·have hk':k=n:=by omega
       subst hk'
       go_wp2
       exact⟨⟨p+1,by omega,by go_num,hk⟩,by simp[intOf];omega⟩
    ·have hp':p=ts.length:=by omega
     subst hp'
     clear DD
     go_wp2
     go_ret
     exact⟨rfl,hk⟩
end Go.Proofs.YtopihgmemnokkaaGreat
namespace Go.Proofs.YtopihgmemnokkaaGreat
open Go.RowKit
set_option maxRecDepth 100000 in
set_option maxHeartbeats 2000000 in
theorem turns2_suffixes (B0 wb:Nat) (xv rv:Value) (FX:Nat→Prop) (X:World→Prop) (N:Nat) (w:World) (L:LX B0 wb xv rv FX X N w) (hB:B0≤w.heap.size) (hN:N≤5000000) (A B C:Int) (s:ByteArray) :
  Calls Tryz.prog 21 #[.pointer (some ⟨wb,0,none⟩),.agg #[.int .i64 1,.int .i64 A,.int .i64 B,.int .i64 C,.string s]] w fun e w'=>e=.returned (.bool true)∧LX B0 wb xv rv FX X (N+4) w'∧Below B0 w w':=by
 have hbx:=fun w' hb=>box_cell w 1 A B C s (w':=w') hb 4
 simp only[List.getElem?_toArray,List.getElem?_cons_succ,List.getElem?_cons_zero]at hbx
 have hW:Below B0 w (w.alloc (opBox 1 A B C s)):=(Below.refl _ _).alloc (by omega) _
 have hL0:LX B0 wb xv rv FX X N (w.alloc (opBox 1 A B C s)):=L.below ((Below.refl _ _).alloc (Nat.le_refl _) _)
 have hsz:(w.alloc (opBox 1 A B C s)).heap.size=w.heap.size+1:=by simp
 clear L
 by_cases hs:s.size≤1000
 ·go_enter Tryz.func21,Tryz.ntmps21
  go_wp2_with fail
  obtain⟨W0,hW0⟩:∃ W0,W0=w.alloc (opBox 1 A B C s):=⟨_,rfl⟩
  rw[← hW0]at hbx hW hL0 hsz ⊢
  clear hW0
  refine(suffixes_any s W0 hs).mono ?_
  rintro e w1 ⟨rb,rows,D,rfl,h1,hR,hD,hB1⟩
  have c4:=hbx w1 (hsz ▸ hB1)
  have hz1:=hB1.size
  have hl1:=ownsRow_of_row hR h1 (by unfold maxLen;omega)
  go_wp2_with fail
  refine(refsuffixes_any s w1 hs).mono ?_
  rintro e w2 ⟨v,rfl,hv,hB2⟩
  have hz2:=hB2.size
  go_wp2_with fail
  have hr1:Reads w2 (.slice (some ⟨rb,0,none⟩) (s.size+1) (s.size+1)) (s.size+1) (fun k=>((placeOf s k:Nat):Int)):=by
   refine .inr ⟨rb,_,rfl,fun k hk=>?_⟩
   rw[hB2.cell (p:=⟨rb,k,none⟩) hR.lt,hR.cell hk,rows_place hD (by omega)]
  have hr2:Reads w2 v (s.size+1) (fun k=>((placeOf s k:Nat):Int)):=by
   obtain⟨g,cap,e1,_,_⟩:=hv.form (by omega)
   subst e1
   refine .inr ⟨g,cap,rfl,fun k hk=>?_⟩
   rw[hv.cellAt k (by omega)]
   exact sortedL_get s hk
  refine(same_any _ _ (s.size+1) _ w2 hr1 hr2 (by omega)).mono ?_
  rintro e w3 ⟨rfl,hS3⟩
  have hz3:=hS3.size
  clear hr1 hr2 c4
  go_wp2_with fail
  have hl3:=own_keep (own_keep hl1 (Kept.of_below hB2 (Nat.le_refl _) (fun _=>False)) (fun _ _ h=>h)) hS3 (fun _ _ h=>h)
  have hb3:Below W0.heap.size W0 w3:=(hB1.trans (hB2.mono hz1)).trans (still_below hS3 _ (by omega))
  refine(keep_lx B0 wb xv rv FX X N W0 w3 hL0 hb3 _ (s.size+1) _ hl3 (by omega) hN (by omega)).mono ?_
  rintro e w4 ⟨rfl,hL4,hB4⟩
  go_wp2_with fail
  refine(num_any 0 _).mono ?_
  rintro e w5 ⟨rfl,rfl⟩
  go_wp2
  go_ret
  exact⟨rfl,hL4,(hW.trans (hb3.mono (by omega))).trans hB4⟩
 ·go_enter Tryz.func21,Tryz.ntmps21
  go_wp2_with fail
  obtain⟨W0,hW0⟩:∃ W0,W0=w.alloc (opBox 1 A B C s):=⟨_,rfl⟩
  rw[← hW0]at hbx hW hL0 hsz ⊢
  clear hW0
  refine(suffixes_long s W0 (by omega)).mono ?_
  rintro e w1 ⟨rfl,rfl⟩
  have c4:=hbx w1 (Below.refl _ _)
  go_wp2_with fail
  refine(refsuffixes_long s w1 (by omega)).mono ?_
  rintro e w2 ⟨rfl,rfl⟩
  go_wp2_with fail
  refine(same_any _ _ 0 (fun _=>0) w2 (.inl ⟨rfl,rfl⟩) (.inl ⟨rfl,rfl⟩) (by omega)).mono ?_
  rintro e w3 ⟨rfl,hS3⟩
  have hz3:=hS3.size
  clear c4
  go_wp2_with fail
  have hb3:Below w2.heap.size w2 w3:=still_below hS3 _ (by omega)
  refine(keep_lx B0 wb xv rv FX X N w2 w3 hL0 hb3 _ 0 [] (World.ownsRow_nil _ _ _ _) (by omega) hN (by omega)).mono ?_
  rintro e w4 ⟨rfl,hL4,hB4⟩
  go_wp2_with fail
  refine(num_any 1 _).mono ?_
  rintro e w5 ⟨rfl,rfl⟩
  go_wp2
  go_ret
  exact⟨rfl,hL4,(hW.trans (hb3.mono (by omega))).trans hB4⟩
set_option maxRecDepth 100000 in
set_option maxHeartbeats 2000000 in
theorem turns2_transform (B0 wb:Nat) (xv rv:Value) (FX:Nat→Prop) (X:World→Prop) (N:Nat) (w:World) (L:LX B0 wb xv rv FX X N w) (hB:B0≤w.heap.size) (A B C:Int) (s:ByteArray) :
  Calls Tryz.prog 21 #[.pointer (some ⟨wb,0,none⟩),.agg #[.int .i64 2,.int .i64 A,.int .i64 B,.int .i64 C,.string s]] w fun e w'=>e=.returned (.bool true)∧LX B0 wb xv rv FX X N w'∧Below B0 w w':=by
 have hbx:=fun w' hb=>box_cell w 2 A B C s (w':=w') hb 4
 simp only[List.getElem?_toArray,List.getElem?_cons_succ,List.getElem?_cons_zero]at hbx
 have hW:Below B0 w (w.alloc (opBox 2 A B C s)):=(Below.refl _ _).alloc (by omega) _
 have hL0:LX B0 wb xv rv FX X N (w.alloc (opBox 2 A B C s)):=L.below ((Below.refl _ _).alloc (Nat.le_refl _) _)
 have hsz:(w.alloc (opBox 2 A B C s)).heap.size=w.heap.size+1:=by simp
 clear L
 by_cases hs:s.size≤1000
 ·go_enter Tryz.func21,Tryz.ntmps21
  go_wp2_with fail
  obtain⟨W0,hW0⟩:∃ W0,W0=w.alloc (opBox 2 A B C s):=⟨_,rfl⟩
  rw[← hW0]at hbx hW hL0 hsz ⊢
  clear hW0
  refine(transform_any s W0 hs).mono ?_
  rintro e w1 ⟨rfl,hB1⟩
  have c4:=hbx w1 (hsz ▸ hB1)
  have hz1:=hB1.size
  go_wp2_with fail
  refine(reftransform_any s w1 hs).mono ?_
  rintro e w2 ⟨rfl,hB2⟩
  clear c4
  have hb2:Below W0.heap.size W0 w2:=hB1.trans (hB2.mono hz1)
  have hL2:=hL0.below hb2
  generalize trn s=y
  generalize fw s=z
  go_wp2_with fail
  refine(num_any 0 _).mono ?_
  rintro e w5 ⟨rfl,rfl⟩
  go_wp2
  go_ret
  exact⟨rfl,hL2,hW.trans (hb2.mono (by omega))⟩
 ·go_enter Tryz.func21,Tryz.ntmps21
  go_wp2_with fail
  obtain⟨W0,hW0⟩:∃ W0,W0=w.alloc (opBox 2 A B C s):=⟨_,rfl⟩
  rw[← hW0]at hbx hW hL0 hsz ⊢
  clear hW0
  refine(transform_long s W0 (by omega)).mono ?_
  rintro e w1 ⟨rfl,rfl⟩
  have c4:=hbx w1 (Below.refl _ _)
  go_wp2_with fail
  refine(reftransform_long s w1 (by omega)).mono ?_
  rintro e w2 ⟨rfl,rfl⟩
  clear c4
  go_wp2_with fail
  refine(num_any 1 _).mono ?_
  rintro e w5 ⟨rfl,rfl⟩
  go_wp2
  go_ret
  exact⟨rfl,hL0,hW⟩
set_option maxRecDepth 100000 in
set_option maxHeartbeats 2000000 in
theorem turns2_restore (B0 wb:Nat) (xv rv:Value) (FX:Nat→Prop) (X:World→Prop) (N:Nat) (w:World) (L:LX B0 wb xv rv FX X N w) (hB:B0≤w.heap.size) (A B C:Int) (s:ByteArray) :
  Calls Tryz.prog 21 #[.pointer (some ⟨wb,0,none⟩),.agg #[.int .i64 3,.int .i64 A,.int .i64 B,.int .i64 C,.string s]] w fun e w'=>e=.returned (.bool true)∧LX B0 wb xv rv FX X N w'∧Below B0 w w':=by
 have hbx:=fun w' hb=>box_cell w 3 A B C s (w':=w') hb 4
 have hbx1:=fun w' hb=>box_cell w 3 A B C s (w':=w') hb 1
 simp only[List.getElem?_toArray,List.getElem?_cons_succ,List.getElem?_cons_zero]at hbx hbx1
 have hW:Below B0 w (w.alloc (opBox 3 A B C s)):=(Below.refl _ _).alloc (by omega) _
 have hL0:LX B0 wb xv rv FX X N (w.alloc (opBox 3 A B C s)):=L.below ((Below.refl _ _).alloc (Nat.le_refl _) _)
 have hsz:(w.alloc (opBox 3 A B C s)).heap.size=w.heap.size+1:=by simp
 clear L
 go_enter Tryz.func21,Tryz.ntmps21
 go_wp2_with fail
 obtain⟨W0,hW0⟩:∃ W0,W0=w.alloc (opBox 3 A B C s):=⟨_,rfl⟩
 rw[← hW0]at hbx hbx1 hW hL0 hsz ⊢
 clear hW0
 refine(restore_ans s A W0).mono ?_
 rintro e w1 ⟨t1,n1,rfl,ha1,hB1⟩
 have c4:=hbx w1 (hsz ▸ hB1)
 have c1:=hbx1 w1 (hsz ▸ hB1)
 have hz1:=hB1.size
 go_wp2_with fail
 refine(refrestore_ans s A w1).mono ?_
 rintro e w2 ⟨t2,n2,rfl,ha2,hB2⟩
 obtain⟨rfl,rfl⟩:=ha1.uniq ha2
 clear c4 c1 ha1 ha2
 have hb2:Below W0.heap.size W0 w2:=hB1.trans (hB2.mono hz1)
 have hL2:=hL0.below hb2
 go_wp2_with fail
 refine(num_any _ _).mono ?_
 rintro e w5 ⟨rfl,rfl⟩
 go_wp2
 go_ret
 exact⟨rfl,hL2,hW.trans (hb2.mono (by omega))⟩
end Go.Proofs.YtopihgmemnokkaaGreat
namespace Go.Proofs.YtopihgmemnokkaaGreat
open Go.RowKit
theorem Wd.set0 {w:World}{wb:Nat}{v0 v1 v2 v3 v4 v5 v6 v7:Value}(h:Wd w wb v0 v1 v2 v3 v4 v5 v6 v7) (v:Value):Wd (w.setCell ⟨wb,0,none⟩ v) wb v v1 v2 v3 v4 v5 v6 v7:=by
 unfold Wd at *;simp[World.setCell,Array.getElem?_modify,h]
theorem Wd.set1 {w:World}{wb:Nat}{v0 v1 v2 v3 v4 v5 v6 v7:Value}(h:Wd w wb v0 v1 v2 v3 v4 v5 v6 v7) (v:Value):Wd (w.setCell ⟨wb,1,none⟩ v) wb v0 v v2 v3 v4 v5 v6 v7:=by
 unfold Wd at *;simp[World.setCell,Array.getElem?_modify,h]
theorem push_row {w w':World}{B0 wb:Nat}{v0 v1 v2 v3 v4 v5 v6 v7:Value}(hW:Wd w wb v0 v1 v2 v3 v4 v5 v6 v7){e:TypeId}{v:Value}{n:Nat}{xs:List Value}(h:w.ownsRow B0 e 1 v n xs) (he:e≠33) (o:Obj){g cap:Nat}{u:Value}
  (hown:w'.ownsRow B0 e 1 (.slice (some ⟨g,0,none⟩) (n+1) cap) (n+1) (xs++[u])) (hd:(v.ownBlock=some g∧(w.alloc o).grownBy w' (some g))∨(g=w.heap.size+1∧(w.alloc o).grownBy w' none)) (f:Nat) :
  Wd w' wb v0 v1 v2 v3 v4 v5 v6 v7∧Kept (fun k=>v.ownBlock=some k∨k=wb) w (w'.setCell ⟨wb,f,none⟩ (.slice (some ⟨g,0,none⟩) (n+1) cap)) ∧
   (w'.setCell ⟨wb,f,none⟩ (.slice (some ⟨g,0,none⟩) (n+1) cap)).ownsRow B0 e 1 (.slice (some ⟨g,0,none⟩) (n+1) cap) (n+1) (xs++[u])∧(v.ownBlock=some g∨w.heap.size<g):=by
 have hg:=two_grown hd
 have hk:Kept (fun a=>some a=v.ownBlock) w w':=((Kept.refl _ w).alloc o).grown hg (fun a h _=>h.symm)
 have hwd:Wd w' wb v0 v1 v2 v3 v4 v5 v6 v7:=hW.keep hk (fun e=>hW.ne h he e.symm)
 have hk2:Kept (fun a=>a=wb) w' (w'.setCell ⟨wb,f,none⟩ (.slice (some ⟨g,0,none⟩) (n+1) cap)):=(Kept.refl (fun a=>a=wb) w').setCell (show (⟨wb,_,none⟩:Addr).block=wb from rfl) _
 refine⟨hwd,?_,own_keep hown hk2 (fun a ha e=>hwd.ne hown he (by rw[ha,e])),hd.imp (fun h=>h.1) (fun h=>by omega)⟩
 refine Kept.trans' (P:=fun k=>v.ownBlock=some k∨k=wb) (hk.mono (fun k _ h=>.inl h.symm)) hk2 (fun i _ h=>.inr h)
theorem Tryz.infoPB:(Tryz.prog.info? 95).map (fun i=>(i.zero,i.size,i.bytes))=some (some (.pointer none),1,8):=by kernel_rfl
theorem Tryz.infoPQ:(Tryz.prog.info? 98).map (fun i=>(i.zero,i.size,i.bytes))=some (some (.pointer none),1,8):=by kernel_rfl
section
variable {B0 wb:Nat}{xv rv:Value}{FX:Nat→Prop}{X:World→Prop}{w:World}{bv qv lv tv mv dv:Value}{ls ts:List Value}{ms:List Int}{ds:List ByteArray}{its:List BI}{N:Nat}
theorem LXat.lts (h:LXat B0 wb xv rv FX X w bv qv lv tv mv dv ls ts ms ds its) (k:Nat) (hk:FL lv mv ls k∨FL tv dv ts k∨FB bv qv its k∨FX k):k<w.heap.size:=by
 rcases hk with hk|hk|hk|hk
 ·exact h.lists.lt k hk
 ·exact h.texts.lt k hk
 ·exact h.bits.lt k hk
 ·exact h.cl.lt _ h.more k hk
theorem LXat.push (h:LXat B0 wb xv rv FX X w bv qv lv tv mv dv ls ts ms ds its) (it:BI) (hit:it.At w) (hlow:∀ k,FL lv mv ls k∨FL tv dv ts k∨FB bv qv its k∨FX k→k<it.a) (hwb:wb<it.a)
  {wA wB:World}{g1 c1 g2 c2:Nat}(kA:Kept (fun k=>bv.ownBlock=some k∨k=wb) w wA) (kB:Kept (fun k=>qv.ownBlock=some k∨k=wb) wA wB)
  (oA:wA.ownsRow B0 95 1 (.slice (some ⟨g1,0,none⟩) (its.length+1) c1) (its.length+1) ((its.map fun i=>.pointer (some ⟨i.b,0,none⟩))++[.pointer (some ⟨it.b,0,none⟩)]))
  (oB:wB.ownsRow B0 98 1 (.slice (some ⟨g2,0,none⟩) (its.length+1) c2) (its.length+1) ((its.map fun i=>.pointer (some ⟨i.q,0,none⟩))++[.pointer (some ⟨it.q,0,none⟩)]))
  (hA:bv.ownBlock=some g1∨w.heap.size<g1) (hB:qv.ownBlock=some g2∨wA.heap.size<g2)
  (hw:Wd wB wb (.slice (some ⟨g1,0,none⟩) (its.length+1) c1) (.slice (some ⟨g2,0,none⟩) (its.length+1) c2) xv rv lv tv mv dv) (qA:wA.ownsRow B0 98 1 qv its.length (its.map fun i=>.pointer (some ⟨i.q,0,none⟩))) :
  LXat B0 wb xv rv FX X wB (.slice (some ⟨g1,0,none⟩) (its.length+1) c1) (.slice (some ⟨g2,0,none⟩) (its.length+1) c2) lv tv mv dv ls ts ms ds (its++[it]):=by
 have hAs:=kA.size
 have htop:=hit.top
 have hk:Kept (fun k=>bv.ownBlock=some k∨qv.ownBlock=some k∨k=wb) w wB :=
  Kept.trans' (kA.mono (Q:=fun k=>bv.ownBlock=some k∨qv.ownBlock=some k∨k=wb) (fun k _ h=>h.elim .inl (fun h=>.inr (.inr h)))) kB (fun i _ h=>h.elim (fun h=>.inr (.inl h)) (fun h=>.inr (.inr h)))
 have fbn:∀ k,FB (.slice (some ⟨g1,0,none⟩) (its.length+1) c1) (.slice (some ⟨g2,0,none⟩) (its.length+1) c2) (its++[it]) k→FB bv qv its k∨it.a≤k:=by
  intro k hk2
  rcases hk2 with hk2|hk2|⟨i,hi,h1,h2⟩
  ·have:g1=k:=by simpa[Value.ownBlock] using hk2
   subst this
   rcases hA with hA|hA
   ·exact .inl (.inl hA)
   ·exact .inr (by have:=hit.rq;omega)
  ·have:g2=k:=by simpa[Value.ownBlock] using hk2
   subst this
   rcases hB with hB|hB
   ·exact .inl (.inr (.inl hB))
   ·exact .inr (by have:=hit.rq;omega)
  ·rw[List.mem_append]at hi
   rcases hi with hi|hi
   ·exact .inl (.inr (.inr ⟨i,hi,h1,h2⟩))
   ·have:i=it:=by simpa using hi
    subst this
    exact .inr h1
 have notP:∀ k,(FL lv mv ls k∨FL tv dv ts k∨FX k)→¬ (bv.ownBlock=some k∨qv.ownBlock=some k∨k=wb):=by
  intro k hk2 hP
  have hFB:k≠wb→FB bv qv its k:=fun hn=>by
   rcases hP with h1|h1|h1
   ·exact .inl h1
   ·exact .inr (.inl h1)
   ·exact absurd h1 hn
  rcases hk2 with hk2|hk2|hk2
  ·exact(h.d1 k hk2).2.1 (hFB (h.lists.wd h.wd k hk2))
  ·exact(h.d2 k hk2).1 (hFB (h.texts.wd h.wd k hk2))
  ·exact(h.d3 k (hFB (h.d4 k hk2))).1 hk2
 have new:∀ k,it.a≤k→¬ (FL lv mv ls k∨FL tv dv ts k∨FB bv qv its k∨FX k)∧k≠wb:=by
  intro k h1
  exact⟨fun h2=>by have:=hlow k h2;omega,by omega⟩
 have itk:∀ i,i∈its++[it]→i.At wB:=by
  intro i hi
  rw[List.mem_append]at hi
  rcases hi with hi|hi
  ·refine(h.bits.all i hi).keep hk (fun k h1 h2 hP=>?_)
   have hF:FB bv qv its k:=.inr (.inr ⟨i,hi,h1,h2⟩)
   have hs:=h.bits.sep i hi k h1 h2
   rcases hP with h3|h3|h3
   ·exact hs.1 h3
   ·exact hs.2 h3
   ·exact(h.d3 k hF).2 h3
  ·have:i=it:=by simpa using hi
   subst this
   refine hit.keep hk (fun k h1 h2 hP=>?_)
   have hn:=new k h1
   rcases hP with h3|h3|h3
   ·exact hn.1 (.inr (.inr (.inl (.inl h3))))
   ·exact hn.1 (.inr (.inr (.inl (.inr (.inl h3)))))
   ·exact hn.2 h3
 have sep:∀ i,i∈its++[it]→∀ k,i.a≤k→k<i.z→(Value.slice (some ⟨g1,0,none⟩) (its.length+1) c1).ownBlock≠some k∧(Value.slice (some ⟨g2,0,none⟩) (its.length+1) c2).ownBlock≠some k:=by
  intro i hi k h1 h2
  have hz:k<w.heap.size∧bv.ownBlock≠some k∧qv.ownBlock≠some k:=by
   rw[List.mem_append]at hi
   rcases hi with hi|hi
   ·exact⟨Nat.lt_of_lt_of_le h2 (h.bits.all i hi).top,h.bits.sep i hi k h1 h2⟩
   ·have:i=it:=by simpa using hi
    subst this
    have hn:=(new k h1).1
    exact⟨by omega,fun e=>hn (.inr (.inr (.inl (.inl e)))),fun e=>hn (.inr (.inr (.inl (.inr (.inl e)))))⟩
  exact⟨own_far hA (fun h=>by omega) hz.2.1,own_far hB (fun h=>by omega) hz.2.2⟩
 refine⟨h.low,hw,h.lists.keepO hk (fun k h1=>notP k (.inl h1)),h.texts.keepO hk (fun k h1=>notP k (.inr (.inl h1))),⟨?_,?_,itk,sep⟩,h.cl.keep _ _ _ h.more hk (fun k h1=>notP k (.inr (.inr h1))),h.cl,?_,?_,?_,h.d4⟩
 ·rw[List.length_append,List.map_append]
  exact own_keep oA kB (fun a ha hP=>by
   rcases hP with hP|hP
   ·have:=ne_of (owns_ne qA oA (by decide)) a ha
    exact this hP.symm
   ·have hg:g1=a:=by simpa[Value.ownBlock] using ha
    subst hg hP
    rcases hA with hA|hA
    ·exact(h.d3 _ (.inl hA)).2 rfl
    ·have:=hit.rq;omega)
 ·rw[List.length_append,List.map_append];exact oB
 ·intro k hk2
  refine⟨(h.d1 k hk2).1,fun h2=>?_,(h.d1 k hk2).2.2⟩
  rcases fbn k h2 with h2|h2
  ·exact(h.d1 k hk2).2.1 h2
  ·exact(new k h2).1 (.inl hk2)
 ·intro k hk2
  refine⟨fun h2=>?_,(h.d2 k hk2).2⟩
  rcases fbn k h2 with h2|h2
  ·exact(h.d2 k hk2).1 h2
  ·exact(new k h2).1 (.inr (.inl hk2))
 ·intro k hk2
  rcases fbn k hk2 with h2|h2
  ·exact h.d3 k h2
  ·exact⟨fun h3=>(new k h2).1 (.inr (.inr (.inr h3))),(new k h2).2⟩
end
end Go.Proofs.YtopihgmemnokkaaGreat
namespace Go.Proofs.YtopihgmemnokkaaGreat
open Go.RowKit
/-! how the landed code writes an index's bytes -/
def dgA (size n j:Nat):List Nat:=(List.range j).map fun i=>n/2^(8*(size-1-i))%256
theorem dgA_succ (size n j:Nat):dgA size n (j+1)=dgA size n j++[n/2^(8*(size-1-j))%256]:=by simp[dgA,List.range_succ]
theorem dgA_len (size n j:Nat):(dgA size n j).length=j:=by simp[dgA]
theorem dgA_two {n:Nat}(h:n<65536):dgA 2 n 2=twoL n:=by
 have e:n/256%256=n/256:=by omega
 simp[dgA,List.range_succ,twoL,e]
theorem dgA_four {n:Nat}(h:n<4294967296):dgA 4 n 4=twoL (n/65536)++twoL (n%65536):=by
 have e1:n/16777216%256=n/65536/256:=by omega
 have e2:n/65536%256=n/65536%256:=rfl
 have e3:n/256%256=n%65536/256:=by omega
 have e4:n%256=n%65536%256:=by omega
 simp[dgA,List.range_succ,twoL]
 omega
def dgsA (size:Nat) (ns:List Nat):List Nat:=ns.flatMap fun n=>dgA size n size
theorem dgsA_take (size:Nat) (ns:List Nat){i x:Nat}(h:ns[i]?=some x):dgsA size (ns.take (i+1))=dgsA size (ns.take i)++dgA size x size:=by
 have e:ns.take (i+1)=ns.take i++[x]:=by
  rw[List.take_add_one,h];rfl
 rw[e]
 unfold dgsA
 rw[List.flatMap_append]
 simp
theorem dgsA_len (size:Nat) (ns:List Nat):(dgsA size ns).length=size*ns.length:=by
 induction ns with
 | nil=>simp[dgsA]
 | cons a l ih =>
  unfold dgsA at *
  rw[List.flatMap_cons,List.length_append,ih,dgA_len,List.length_cons,Nat.mul_add]
  omega
def ofA (f:Nat→Nat):Nat→List Nat
 | 0=>[]
 | c+1=>if 0<f c then ofA f c++[f c] else ofA f c
theorem ofA_len (f:Nat→Nat):∀ c,(ofA f c).length≤c
 | 0=>by simp[ofA]
 | c+1=>by
  have:=ofA_len f c
  simp only[ofA]
  split
  ·simp;omega
  ·omega
theorem ofA_low {f:Nat→Nat}{B:Nat}(h:∀ c,f c≤B):∀ c x,x∈ofA f c→x≤B
 | 0,x,hx=>by simp[ofA]at hx
 | c+1,x,hx=>by
  simp only[ofA]at hx
  split at hx
  ·rcases List.mem_append.1 hx with h1|h1
   ·exact ofA_low h c x h1
   ·have:x=f c:=by simpa using h1
    rw[this];exact h c
  ·exact ofA_low h c x hx
theorem cnL_ofA {f:Nat→Nat}(h:∀ c,f c<65536):∀ c,dgsA 2 (ofA f c)=cnL f c
 | 0=>rfl
 | c+1=>by
  have ih:=cnL_ofA h c
  simp only[ofA,cnL]
  split
  ·rw[← ih]
   unfold dgsA
   rw[List.flatMap_append]
   simp[dgA_two (h c)]
  ·exact ih
def loA (f:Nat→Nat) (j:Nat):Nat→Nat
 | 0=>0
 | m+1=>loA f j m+(if 0<f (8*j+m) then 1 else 0)*2^m
theorem loA_lt (f:Nat→Nat) (j:Nat):∀ m,loA f j m<2^m
 | 0=>by simp[loA]
 | m+1=>by
  have:=loA_lt f j m
  simp only[loA]
  rw[Nat.pow_succ]
  split <;> omega
theorem loA_th (f:Nat→Nat) (j:Nat):loA f j 8=th f j 8:=by
 simp only[loA,th]
 simp only[Nat.reduceSub,Nat.reducePow,Nat.add_zero]
 generalize (if 0<f (8*j) then 1 else 0)=x0
 generalize (if 0<f (8*j+1) then 1 else 0)=x1
 generalize (if 0<f (8*j+2) then 1 else 0)=x2
 generalize (if 0<f (8*j+3) then 1 else 0)=x3
 generalize (if 0<f (8*j+4) then 1 else 0)=x4
 generalize (if 0<f (8*j+5) then 1 else 0)=x5
 generalize (if 0<f (8*j+6) then 1 else 0)=x6
 generalize (if 0<f (8*j+7) then 1 else 0)=x7
 omega
def flgA (f:Nat→Nat) (c j:Nat):Nat:=loA f j (min 8 (c-8*j))
theorem flgA_zero (f:Nat→Nat) (j:Nat):flgA f 0 j=0:=by simp[flgA,loA]
theorem flgA_all (f:Nat→Nat){j:Nat}(h:j<32):flgA f 256 j=th f j 8:=by
 unfold flgA
 rw[show min 8 (256-8*j)=8 by omega,loA_th]
theorem flgA_other (f:Nat→Nat){c j:Nat}(h:j≠c/8):flgA f (c+1) j=flgA f c j:=by
 unfold flgA
 rcases Nat.lt_or_ge j (c/8) with h1|h1
 ·rw[show min 8 (c+1-8*j)=8 by omega,show min 8 (c-8*j)=8 by omega]
 ·rw[show c+1-8*j=0 by omega,show c-8*j=0 by omega]
theorem flgA_low (f:Nat→Nat) (c:Nat):flgA f c (c/8)<2^(c%8):=by
 unfold flgA
 rw[show min 8 (c-8*(c/8))=c%8 by omega]
 exact loA_lt _ _ _
theorem flgA_here (f:Nat→Nat) (c:Nat):flgA f (c+1) (c/8)=flgA f c (c/8)+(if 0<f c then 1 else 0)*2^(c%8):=by
 unfold flgA
 rw[show min 8 (c+1-8*(c/8))=c%8+1 by omega,show min 8 (c-8*(c/8))=c%8 by omega]
 show loA f (c/8) (c%8)+(if 0<f (8*(c/8)+c%8) then 1 else 0)*2^(c%8)=_
 rw[show 8*(c/8)+c%8=c by omega]
theorem thL_flgA (f:Nat→Nat):(List.range 32).map (flgA f 256)=thL f 32:=by
 unfold thL
 exact List.map_congr_left fun j hj=>flgA_all f (by simpa using hj)
def bitF (l:List Bool) (q:Nat):Bool:=l[q]?.getD false
theorem pre_pad (P:Nat→Bool) (m:Nat):∀ d,Bm.pre (fun q=>decide (q<m)&&P q) (m+d)=Bm.pre P m*2^d
 | 0=>by
  rw[Nat.add_zero,Nat.pow_zero,Nat.mul_one]
  exact Bm.pre_congr fun i hi=>by simp[hi]
 | d+1=>by
  have ih:=pre_pad P m d
  show 2*Bm.pre _ (m+d)+(decide (m+d<m)&&P (m+d)).toNat=_
  rw[ih,Nat.pow_succ]
  have h0:decide (m+d<m)=false:=decide_eq_false (by omega)
  rw[h0,Bool.false_and]
  show 2*(Bm.pre P m*2^d)+0=_
  rw[Nat.add_zero,Nat.mul_comm (2^d) 2,← Nat.mul_assoc,← Nat.mul_assoc,Nat.mul_comm 2]
theorem word_byte (l:List Bool){i:Nat}(hi:8*i<l.length):Bm.wordAt (fun q=>bitF l (64*(i/8)+q)) (min 64 (l.length-64*(i/8)))/2^(56-8*(i%8))%256=bv l i 8:=by
 generalize hm:min 64 (l.length-64*(i/8))=m
 have hm64:m≤64:=by omega
 have h1:=pre_pad (fun q=>bitF l (64*(i/8)+q)) m (64-m)
 have h2:Bm.wordAt (fun q=>bitF l (64*(i/8)+q)) m=Bm.pre (fun q=>decide (q<m)&&bitF l (64*(i/8)+q)) 64:=by
  unfold Bm.wordAt
  rw[← h1,show m+(64-m)=64 by omega]
 rw[h2]
 generalize hP:(fun q=>decide (q<m)&&bitF l (64*(i/8)+q))=P
 have h3:=Bm.pre_div P (8*(i%8)+8) (56-8*(i%8))
 rw[show 8*(i%8)+8+(56-8*(i%8))=64 by omega]at h3
 rw[h3]
 have hb:∀ k,k<8→(P (8*(i%8)+k)).toNat=bitV l (8*i+k):=fun k hk=>by
  rw[← hP]
  show (decide (8*(i%8)+k<m)&&bitF l (64*(i/8)+(8*(i%8)+k))).toNat=_
  rw[show 64*(i/8)+(8*(i%8)+k)=8*i+k by omega]
  unfold bitV bitF
  by_cases h:8*(i%8)+k<m
  ·simp[h]
  ·rw[List.getElem?_eq_none (by omega)];simp
 have e0:=hb 0 (by omega)
 have e1:=hb 1 (by omega)
 have e2:=hb 2 (by omega)
 have e3:=hb 3 (by omega)
 have e4:=hb 4 (by omega)
 have e5:=hb 5 (by omega)
 have e6:=hb 6 (by omega)
 have e7:=hb 7 (by omega)
 have c0:=bitV_le l (8*i+0)
 have c1:=bitV_le l (8*i+1)
 have c2:=bitV_le l (8*i+2)
 have c3:=bitV_le l (8*i+3)
 have c4:=bitV_le l (8*i+4)
 have c5:=bitV_le l (8*i+5)
 have c6:=bitV_le l (8*i+6)
 have c7:=bitV_le l (8*i+7)
 simp only[Bm.pre,bv]
 rw[show 8*(i%8)=8*(i%8)+0 from rfl,e0,show 8*(i%8)+0+1=8*(i%8)+1 from rfl,e1,show 8*(i%8)+0+2=8*(i%8)+2 from rfl,e2,show 8*(i%8)+0+3=8*(i%8)+3 from rfl,e3,show 8*(i%8)+0+4=8*(i%8)+4 from rfl,e4,
  show 8*(i%8)+0+5=8*(i%8)+5 from rfl,e5,show 8*(i%8)+0+6=8*(i%8)+6 from rfl,e6,show 8*(i%8)+0+7=8*(i%8)+7 from rfl,e7]
 omega
def runsA (G:Nat→Nat × Nat) (s:ByteArray) (n:Nat):List (Nat × Nat):=(List.range n).map fun i=>G (BY s i)
theorem runsA_get (G:Nat→Nat × Nat) (s:ByteArray){n i:Nat}(h:i<n):(runsA G s n)[i]?=some (G (BY s i)):=by simp[runsA,h]
theorem runsA_len (G:Nat→Nat × Nat) (s:ByteArray) (n:Nat):(runsA G s n).length=n:=by simp[runsA]
theorem rsum_runsA (G:Nat→Nat × Nat) (s:ByteArray) (n:Nat):∀ q,q≤n→rsum ((runsA G s n).take q)=cl (fun c=>bl (G c)) s q
 | 0,_=>by simp[rsum,cl_zero]
 | q+1,h=>by
  rw[rsum_take _ (runsA_get G s (n:=n) (i:=q) (by omega)),rsum_runsA G s n q (by omega),cl_succ,bl_len]
theorem bl_get? (x:Nat × Nat){i:Nat}(h:i<x.1):(bl x)[i]?=some (decide (x.2/2^(x.1-1-i)%2=1)):=by
 simp[bl,h]
theorem bitN (m:Nat):(decide (m%2=1)).toNat=m%2:=by
 rcases Nat.mod_two_eq_zero_or_one m with h|h <;> simp[h]
theorem runsA_spells (G:Nat→Nat × Nat) (hG:∀ c,c<256→(G c).1≤64∧(G c).2<18446744073709551616) (s:ByteArray) (n:Nat):Spells (bitF (cat (fun c=>bl (G c)) s n)) 0 (runsA G s n):=by
 intro q x hx
 have hq:q<n:=by
  have:=(List.getElem?_eq_some_iff.1 hx).1
  rwa [runsA_len]at this
 rw[runsA_get G s hq]at hx
 have hx:G (BY s q)=x:=by simpa using hx
 subst hx
 have hby:=BY_le s q
 obtain⟨g1,g2⟩:=hG (BY s q) (by omega)
 refine⟨g1,g2,fun i hi=>?_⟩
 rw[rsum_runsA G s n q (by omega),Nat.zero_add]
 obtain⟨r,hr⟩:=cat_to (fun c=>bl (G c)) s (p:=q+1) (q:=n) (by omega)
 have h1:cat (fun c=>bl (G c)) s (q+1)=cat (fun c=>bl (G c)) s q++bl (G (BY s q)):=rfl
 unfold bitF
 rw[hr,h1,List.append_assoc]
 have h2:cl (fun c=>bl (G c)) s q=(cat (fun c=>bl (G c)) s q).length:=rfl
 rw[h2,List.getElem?_append_right (by omega),Nat.add_sub_cancel_left,List.getElem?_append_left (by rw[bl_len];exact hi),bl_get? _ hi]
 simp only[Option.getD_some]
 rw[bitN]
end Go.Proofs.YtopihgmemnokkaaGreat
namespace Go.Proofs.YtopihgmemnokkaaGreat
open Go.RowKit
theorem own_u8 {w:World}{base:Nat}{v:Value}{l:List Nat}(h:w.ownsRow base 5 1 v l.length (u8L l)){j x:Nat}(hj:l[j]?=some x):∃ g cap,v=.slice (some ⟨g,0,none⟩) l.length cap∧w.cell? ⟨g,j,none⟩=some (.int .u8 (x:Nat)):=by
 have hjl:=(List.getElem?_eq_some_iff.1 hj).1
 rcases h.2 with⟨_,h0⟩|⟨g,cap,cur,rfl,_⟩
 ·omega
 ·refine⟨g,cap,rfl,own_cell h ?_⟩
  unfold u8L
  rw[List.getElem?_map,hj];rfl
theorem and_u32_one (a:Nat) (ha:a<4294967296):bits .and .u32 (a:Int) 1=((a%2:Nat):Int):=by
 have h1:(BitVec.ofInt 32 (a:Int)).toNat=a:=by
  rw[BitVec.ofInt_natCast,BitVec.toNat_ofNat];exact Nat.mod_eq_of_lt (by omega)
 show IntKind.u32.wrap ((BitVec.ofInt 32 (a:Int) &&& BitVec.ofInt 32 1).toNat:Int)=_
 rw[BitVec.toNat_and,h1]
 have h2:(BitVec.ofInt 32 1).toNat=1:=by decide
 rw[h2,Nat.and_one_is_mod]
 simp[IntKind.wrap,IntKind.bits,IntKind.signed]
 omega
theorem xor_u32 (a b:Nat) (ha:a<4294967296) (hb:b<4294967296):bits .xor .u32 (a:Int) (b:Int)=((a ^^^ b:Nat):Int):=by
 have hx:a ^^^ b<2^32:=Nat.xor_lt_two_pow (by omega) (by omega)
 have h1:(BitVec.ofInt 32 (a:Int)).toNat=a:=by
  rw[BitVec.ofInt_natCast,BitVec.toNat_ofNat];exact Nat.mod_eq_of_lt (by omega)
 have h2:(BitVec.ofInt 32 (b:Int)).toNat=b:=by
  rw[BitVec.ofInt_natCast,BitVec.toNat_ofNat];exact Nat.mod_eq_of_lt (by omega)
 show IntKind.u32.wrap ((BitVec.ofInt 32 (a:Int) ^^^ BitVec.ofInt 32 (b:Int)).toNat:Int)=_
 rw[BitVec.toNat_xor,h1,h2]
 simp[IntKind.wrap,IntKind.bits,IntKind.signed]
 omega
theorem xor_all {c:Nat}(hc:c<4294967296):bits .xor .u32 IntKind.u32.max (c:Int)=((4294967295-c:Nat):Int):=by
 have h:=xor_u32 4294967295 c (by decide) hc
 have e:IntKind.u32.max=((4294967295:Nat):Int):=rfl
 have h2:(BitVec.allOnes 32 ^^^ BitVec.ofNat 32 c).toNat=4294967295 ^^^ c:=by
  rw[BitVec.toNat_xor,BitVec.toNat_allOnes,BitVec.toNat_ofNat,Nat.mod_eq_of_lt hc]
 rw[BitVec.allOnes_xor,BitVec.toNat_not,BitVec.toNat_ofNat,Nat.mod_eq_of_lt hc]at h2
 rw[e,h,← h2]
set_option maxRecDepth 100000 in
set_option maxHeartbeats 2000000 in
theorem recSum_any (l:List Nat) (hl:∀ x∈l,x≤255) (v:Value) (w:World) (base:Nat) (hown:w.ownsRow base 5 1 v l.length (u8L l)) (hs:l.length≤1000000) :
  Calls Tryz.prog 80 #[v] w fun e w'=>e=.returned (.int .u32 ((4294967295-crcTo (bys l) l.length:Nat):Int))∧w'=w:=by
 obtain⟨a,cp,rfl⟩:=own_slice hown
 have HO:Hid (w.ownsRow base 5 1 (.slice a l.length cp) l.length (u8L l)):=hown
 have HL:Hid (∀ x∈l,x≤255):=hl
 clear hown hl
 go_enter Tryz.func80,Tryz.ntmps80
 go_wp2
 go_loopw [3,9] (fun sv iv wr=>∃ i:Nat,i≤l.length∧iv=.int .i64 i∧sv=.int .u32 ((crcTo (bys l) i:Nat):Int)∧wr=w) (fun _ iv _=>l.length-(intOf iv).toNat)
 case atStart=>exact⟨0,by omega,rfl,rfl,rfl⟩
 case round =>
  obtain⟨i,hi,rfl,rfl,rfl⟩:=hrel
  by_cases hlt:i<l.length
  ·obtain⟨x,hx⟩:∃ x,l[i]?=some x:=⟨_,List.getElem?_eq_getElem hlt⟩
   obtain⟨g,cap,he,hc⟩:=own_u8 HO.out hx
   injection he with e1 e2 e3
   subst e1
   subst e3
   have hxl:=HL.out x (List.mem_of_getElem? hx)
   have hby:=bys_BY l hx hxl
   have hcl:=crcTo_lt (bys l) i
   have hxr:=xor_u32 (crcTo (bys l) i) x hcl (by omega)
   have hx2:crcTo (bys l) i ^^^ x<4294967296:=Nat.xor_lt_two_pow (n:=32) (by omega) (by omega)
   have HN:Hid (crcTo (bys l) (i+1)=crcJ 8 (crcTo (bys l) i ^^^ x)):=by
    show crcB _ _=_
    rw[hby];rfl
   clear hby hx
   generalize crcTo (bys l) i ^^^ x=c0 at *
   generalize crcTo (bys l) i=c at *
   have hli:(i:Int)<(l.length:Int):=by omega
   go_wp2
   clear hxr
   go_loopw [3,17] (fun cv kv wq=>∃ k:Nat,k≤8∧kv=.int .i64 k∧cv=.int .u32 ((crcJ k c0:Nat):Int)∧wq=wr) (fun _ kv _=>8-(intOf kv).toNat)
   case atStart=>exact⟨0,by omega,rfl,rfl,rfl⟩
   case round =>
    obtain⟨k,hk,rfl,rfl,rfl⟩:=hrel
    have hc2:=crcJ_lt hx2 k
    by_cases hk8:k<8
    ·have hki:(k:Int)<8:=by omega
     have HS:Hid (crcJ (k+1) c0=crc1 (crcJ k c0)):=rfl
     generalize crcJ k c0=d at *
     have hand:=and_u32_one d hc2
     by_cases hodd:d%2=1
     ·have HS2:Hid (crcJ (k+1) c0=(d/2) ^^^ 3988292384):=by show _=_;rw[HS.out];unfold crc1;rw[if_pos hodd]
      rw[hodd]at hand
      have hxr:=xor_u32 (d/2) 3988292384 (by omega) (by decide)
      rw[show ((d/2:Nat):Int)=(d:Int)/2 by omega,show ((3988292384:Nat):Int)=3988292384 from rfl]at hxr
      rw[show ((1:Nat):Int)=1 from rfl]at hand
      clear HS hodd
      generalize (d/2) ^^^ 3988292384=z at *
      go_wp2
      exact⟨⟨k+1,by omega,by go_num,by rw[HS2.out],trivial⟩,by simp[intOf];omega⟩
     ·have h0:d%2=0:=by omega
      have HS2:Hid (crcJ (k+1) c0=d/2):=by show _=_;rw[HS.out];unfold crc1;rw[if_neg hodd]
      rw[h0]at hand
      rw[show ((0:Nat):Int)=0 from rfl]at hand
      clear HS hodd h0
      go_wp2
      exact⟨⟨k+1,by omega,by go_num,by rw[HS2.out];go_num,trivial⟩,by simp[intOf];omega⟩
    ·have hk':k=8:=by omega
     subst hk'
     go_wp2
     exact⟨⟨i+1,by omega,by go_num,by rw[HN.out],trivial⟩,by simp[intOf];omega⟩
  ·have hi':i=l.length:=by omega
   subst hi'
   have hc:=crcTo_lt (bys l) l.length
   have HX:Hid (bits .xor .u32 IntKind.u32.max ((crcTo (bys l) l.length:Nat):Int)=((4294967295-crcTo (bys l) l.length:Nat):Int)):=xor_all hc
   go_wp2
   go_ret
   exact⟨ret_int HX.out,rfl⟩
end Go.Proofs.YtopihgmemnokkaaGreat
namespace Go.Proofs.YtopihgmemnokkaaGreat
open Go.RowKit
def NumsAt (w:World) (v:Value) (ns:List Nat):Prop:=(v=.slice none 0 0∧ns=[])∨∃ g cap,v=.slice (some ⟨g,0,none⟩) ns.length cap∧∀ j x,ns[j]?=some x→w.cell? ⟨g,j,none⟩=some (.int .i64 (x:Nat))
theorem NumsAt.len {w:World}{v:Value}{ns:List Nat}(h:NumsAt w v ns):∃ a c,v=.slice a ns.length c:=by
 rcases h with⟨h1,h2⟩|⟨g,cap,h1,_⟩
 ·subst h2;exact⟨none,0,h1⟩
 ·exact⟨_,_,h1⟩
theorem NumsAt.at {w:World}{a:Option Addr}{c:Nat}{ns:List Nat}(h:NumsAt w (.slice a ns.length c) ns){j x:Nat}(hx:ns[j]?=some x):∃ g,a=some ⟨g,0,none⟩∧w.cell? ⟨g,j,none⟩=some (.int .i64 (x:Nat)):=by
 rcases h with⟨_,h2⟩|⟨g,cap,h1,h2⟩
 ·subst h2;simp at hx
 ·injection h1 with e1 _ _
  exact⟨g,e1,h2 j x hx⟩
theorem NumsAt.below {w w':World}{v:Value}{ns:List Nat}{B:Nat}(h:NumsAt w v ns) (hb:Below B w w') (hB:w.heap.size≤B):NumsAt w' v ns:=by
 rcases h with h|⟨g,cap,h1,h2⟩
 ·exact .inl h
 ·exact .inr ⟨g,cap,h1,fun j x hx=>cell_keep (Kept.of_below hb hB (fun _=>False)) (h2 j x hx) (fun h=>h)⟩
theorem NumsAt.own {w:World}{base:Nat}{v:Value}{ns:List Nat}(h:w.ownsRow base 3 1 v ns.length (intsL ns)):NumsAt w v ns:=by
 rcases h.2 with⟨h1,h0⟩|⟨g,cap,cur,rfl,_⟩
 ·exact .inl ⟨h1,List.length_eq_zero_iff.1 h0⟩
 ·refine .inr ⟨g,cap,rfl,fun j x hx=>own_cell h ?_⟩
  unfold intsL
  rw[List.getElem?_map,hx];rfl
theorem u8L_app (a b:List Nat):u8L (a++b)=u8L a++u8L b:=by simp[u8L]
set_option maxRecDepth 100000 in
set_option maxHeartbeats 2000000 in
theorem digits_any (size:Nat) (hsz:1≤size∧size≤4) (ns:List Nat) (v:Value) (w:World) (hv:NumsAt w v ns) (hn:∀ x∈ns,x<1099511627776) (hl:ns.length≤1000) :
  Calls Tryz.prog 77 #[.int .i64 (size:Nat),v] w fun e w'=>∃ v',e=.returned v'∧w'.ownsRow w.heap.size 5 1 v' (dgsA size ns).length (u8L (dgsA size ns))∧Below w.heap.size w w':=by
 obtain⟨j0,hj,hy0,hy1,hy2⟩:=info_parts Tryz.info5
 obtain⟨a,cp,rfl⟩:=hv.len
 have HV:Hid (NumsAt w (.slice a ns.length cp) ns):=hv
 have HN:Hid (∀ x∈ns,x<1099511627776):=hn
 obtain⟨hs1,hs4⟩:=hsz
 clear hv hn
 go_enter Tryz.func77,Tryz.ntmps77
 go_wp2
 go_loopw [5,11] (fun bv iv wr=>∃ k:Nat,k≤ns.length∧iv=.int .i64 k∧Hid (wr.ownsRow w.heap.size 5 1 bv (dgsA size (ns.take k)).length (u8L (dgsA size (ns.take k))))∧Hid (Below w.heap.size w wr)) (fun _ iv _=>ns.length-(intOf iv).toNat)
 case atStart=>exact⟨0,by omega,rfl,World.ownsRow_nil _ _ _ _,Below.refl _ _⟩
 case round =>
  obtain⟨k,hk,rfl,HO,HB⟩:=hrel
  obtain⟨a5,p5,rfl⟩:=own_slice HO.out
  by_cases hlt:k<ns.length
  ·obtain⟨x,hx⟩:∃ x,ns[k]?=some x:=⟨_,List.getElem?_eq_getElem hlt⟩
   obtain⟨g,rfl,hc⟩:=(HV.out.below HB.out (Nat.le_refl _)).at hx
   have hxl:=HN.out x (List.mem_of_getElem? hx)
   have HST:Hid (dgsA size (ns.take (k+1))=dgsA size (ns.take k)++dgA size x size):=dgsA_take size ns hx
   have hln:=dgsA_len size (ns.take k)
   rw[List.length_take,Nat.min_eq_left (by omega)]at hln
   have hmul:size*k≤4*1000:=Nat.mul_le_mul hs4 (by omega)
   have hacc:(dgsA size (ns.take k)).length≤4000:=by omega
   have hki:(k:Int)<(ns.length:Int):=by omega
   generalize dgsA size (ns.take k)=acc at *
   clear hx hln hmul
   go_wp2
   obtain⟨wo,rfl⟩:∃ wo:World,wo=wr:=⟨_,rfl⟩
   go_loopw [5,8] (fun bv iv wq=>∃ j:Nat,j≤size∧iv=.int .i64 ((size:Int)-1-(j:Int))∧Hid (wq.ownsRow w.heap.size 5 1 bv (acc.length+j) (u8L (acc++dgA size x j)))∧Hid (Below w.heap.size w wq)) (fun _ iv _=>(intOf iv+1).toNat)
   case atStart=>exact⟨0,by omega,by congr 1;omega,by simpa[dgA] using HO,HB⟩
   case round =>
    clear HO HB
    obtain⟨j,hjs,rfl,HO,HB⟩:=hrel
    obtain⟨a6,p6,rfl⟩:=own_slice HO.out
    by_cases hj2:j<size
    ·obtain⟨q,hq⟩:∃ q,size=j+1+q:=⟨size-1-j,by omega⟩
     have e:(size:Int)-1-(j:Int)=(q:Int):=by omega
     have HG:Hid (acc++dgA size x (j+1)=(acc++dgA size x j)++[x/2^(8*q)%256]):=by
      show _=_
      rw[dgA_succ,show size-1-j=q by omega,List.append_assoc]
     rw[e]
     have hz:w.heap.size≤wr.heap.size:=HB.out.size
     have e2:Hid ((x:Int)/2^(8*q)%256=((x/2^(8*q)%256:Nat):Int)):=by show _=_;rw[Int.natCast_emod,Int.natCast_ediv,Int.natCast_pow];rfl
     have hq4:q≤3:=by omega
     clear hq hj2
     generalize hA:acc++dgA size x j=A at *
     have HA:Hid (acc++dgA size x j=A):=hA
     clear hA
     go_wp2_with (at_builtin;refine wpList_append_two _ rfl _ _ 55 rfl w.heap.size 5 j0 (.int .u8 0) 1 Tryz.underlying55 hj hy0 hy1 hy2 rfl _ (acc.length+j) (u8L A) rfl (HO.out.alloc _) ⟨wr.heap.size,0,none⟩ 1 (.int .u8 ((x:Int)/2^(8*q)%256)) rfl ?d1 ?d2 ?d3 ?d4 ?d5 ?_)
     case d1=>exact World.news_of_block (heap_alloc_new _ _)
     case d2=>rfl
     case d3=>unfold maxLen;omega
     case d4=>omega
     case d5=>simp;omega
     intro g2 cap2 w2 hown hlt2 hd
     have hkk:Kept (fun k=>some k=(Value.slice a6 (acc.length+j) p6).ownBlock) wr w2:=((Kept.refl _ wr).alloc _).grown (two_grown hd) (fun k h _=>h.symm)
     have HB2:Hid (Below w.heap.size w w2):=hkk.bel HB.out (Nat.le_refl _) (fun k hk=>(HO.out.lt k hk.symm).1)
     have HO2:Hid (w2.ownsRow w.heap.size 5 1 (.slice (some ⟨g2,0,none⟩) (acc.length+j+1) cap2) (acc.length+(j+1)) (u8L (acc++dgA size x (j+1)))):=by
      show World.ownsRow _ _ _ _ _ _ _
      rw[HG.out,u8L_app,show u8L [x/2^(8*q)%256]=[.int .u8 ((x/2^(8*q)%256:Nat):Int)] from rfl,← e2.out];exact hown
     clear hown hd hkk hlt2
     go_wp2
     exact⟨⟨j+1,by omega,by congr 1;omega,HO2,HB2⟩,by simp[intOf]⟩
    ·have hj':j=size:=by omega
     subst hj'
     have e:(j:Int)-1-(j:Int)=-1:=by omega
     rw[e]
     have HO2:Hid (wr.ownsRow w.heap.size 5 1 (.slice a6 (acc.length+j) p6) (dgsA j (ns.take (k+1))).length (u8L (dgsA j (ns.take (k+1))))):=by
      show World.ownsRow _ _ _ _ _ _ _
      rw[HST.out,List.length_append,dgA_len];exact HO.out
     clear HO
     go_wp2
     exact⟨⟨k+1,by omega,by go_num,HO2,HB⟩,by simp[intOf];omega⟩
  ·have hk':k=ns.length:=by omega
   subst hk'
   rw[List.take_length]at HO ⊢
   go_wp2
   go_ret
   exact⟨_,rfl,HO.out,HB.out⟩
end Go.Proofs.YtopihgmemnokkaaGreat
