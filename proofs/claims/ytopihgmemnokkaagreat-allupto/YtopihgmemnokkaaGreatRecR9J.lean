import Derived.Test.YtopihgmemnokkaaGreatIdxW4J
namespace Go.Proofs.YtopihgmemnokkaaGreat
open Go.RowKit
set_option maxRecDepth 100000 in
set_option maxHeartbeats 1000000 in
theorem parts_any {w:World}{ib rate:Nat}{s:ByteArray}{fw:Nat}{pl:Nat→Nat}{base:Nat}{G:Nat→Nat × Nat}{r:Nat}{root:Value}{F:Nat→Prop}{wv av kv:Value}(h:Ixs w ib rate s.size (BY s) fw pl base G r root F wv av kv) :
  Calls Tryz.prog 35 #[.pointer (some ⟨ib,0,none⟩)] w fun e w'=>e=.returned (.tuple #[.string s,.int .i64 (fw:Nat),.int .i64 (rate:Nat)])∧Below w.heap.size w w':=by
 have ht:=rturned_any s h.rws
 have hr:=idx_rate h.mrk.bits.four
 clear h
 go_enter Tryz.func35,Tryz.ntmps35
 go_wp2_with fail
 refine ht.mono ?_
 rintro e w2 ⟨rfl,hb2⟩
 have hr2:=cell_keep (Kept.of_below hb2 (Nat.le_refl _) (fun _=>False)) hr (fun h=>h)
 clear ht hr
 go_wp2_with fail
 go_quiet (fail)
 go_wp2
 refine bodyPost_ret (results_tmp3 Tryz.results35 _ _ _) rfl ⟨rfl,?_⟩
 exact below_drewN hb2 nq
set_option maxRecDepth 100000 in
set_option maxHeartbeats 1000000 in
theorem marshal_any (a z bx:Nat) (t:ByteArray) (rate:Int) (w:World) (h:PIx a z bx t rate w) (hbo:BuildOk t rate) :
  Calls Tryz.prog 19 #[.pointer (some ⟨bx,0,none⟩)] w fun e w'=>e=.returned (.string (mar t rate.toNat))∧Below w.heap.size w w':=by
 obtain⟨bs,ib,rt,G,r,root,F,wv,av,kv,rfl,h2,h3,h4⟩:=h
 have c0:w.cell? ⟨bx,0,none⟩=some (.pointer (some ⟨ib,0,none⟩)):=cell_of h2 rfl
 have hno:=none_any w bx ib c0
 have hts:=trn_size t
 have h3':Ixs w ib rt (trn t).size (BY (trn t)) (fw t) (placeOf t) bs G r root F wv av kv:=by rw[hts];exact h3
 have hp:=parts_any h3'
 have HW:Hid (∀ W,Calls Tryz.prog 36 #[.agg #[.int .i64 (rt:Nat),.int .i64 (fw t:Nat),.string (trn t)]] W fun e w'=>e=.returned (.string (mar t rt))∧Below W.heap.size W w'):=fun W=>write_any t rt W hbo
 rw[show ((rt:Nat):Int).toNat=rt by simp]
 clear h2 h3 h3' h4 hts hbo
 go_enter Tryz.func19,Tryz.ntmps19
 go_wp2_with fail
 refine hno.mono ?_
 rintro e w1 ⟨rfl,hw⟩
 have hw2:=hw.symm
 clear hw
 subst hw2
 clear hno
 go_wp2_with fail
 refine hp.mono ?_
 rintro e w2 ⟨rfl,hb2⟩
 clear hp c0
 go_wp2_with fail
 refine(HW.out w2).mono ?_
 rintro e w3 ⟨rfl,hb3⟩
 have hall:=hb2.trans (hb3.mono hb2.size)
 clear HW hb2 hb3
 go_wp2
 go_ret
 exact⟨rfl,hall⟩
set_option maxRecDepth 100000 in
set_option maxHeartbeats 1000000 in
theorem unmarshal_any (d:ByteArray) (w:World):Calls Tryz.prog 20 #[.string d] w fun e w' =>
  ((∃ t r b,Mar d t r∧e=.returned (.tuple #[.pointer (some ⟨b,0,none⟩),.int .i64 0])∧PIx w.heap.size w'.heap.size b t (r:Nat) w')∨((∀ t r,¬ Mar d t r)∧e=.returned (.tuple #[.pointer none,.int .i64 4])))∧Below w.heap.size w w':=by
 have hrd:=recRead_any d w
 go_enter Tryz.func20,Tryz.ntmps20
 go_wp2_with fail
 refine hrd.mono ?_
 rintro e w1 ⟨hb1,⟨t,rt,hm,rfl⟩|⟨hno,rfl⟩⟩
 ·have hbo:=hm.1
  have hts:t.size≤1000:=hbo.1
  have hr1:0<rt:=by have:=hbo.2.1;omega
  have hr2:rt≤64:=by have:=hbo.2.2;omega
  have HM:Hid (Mar d t rt):=hm
  have hts2:(trn t).size=t.size:=trn_size t
  have hz1:=hb1.size
  have hal:Below w.heap.size w (w1.alloc (.cells #[.int .i64 (rt:Nat),.int .i64 (fw t:Nat),.string (trn t)] 72)):=hb1.alloc hz1 _
  have HAL:Hid (Below w.heap.size w (w1.alloc (.cells #[.int .i64 (rt:Nat),.int .i64 (fw t:Nat),.string (trn t)] 72))):=hal
  have hza:(w1.alloc (.cells #[.int .i64 (rt:Nat),.int .i64 (fw t:Nat),.string (trn t)] 72)).heap.size=w1.heap.size+1:=by simp
  have hrw:=rw_text t
  have hof:=indexOf_any (trn t) (fw t) rt (LT t) (placeOf t) (w1.alloc (.cells #[.int .i64 (rt:Nat),.int .i64 (fw t:Nat),.string (trn t)] 72)) (by rw[hts2];exact hts) (by rw[hts2];exact hrw.fwle) (by rw[hts2];exact hrw) hr1 hr2
  rw[hts2]at hof
  clear hrd hm hbo hb1 hal hrw hts2
  go_wp2_with fail
  generalize w1.alloc (.cells #[.int .i64 (rt:Nat),.int .i64 (fw t:Nat),.string (trn t)] 72)=wa at *
  refine hof.mono ?_
  rintro e w2 ⟨ib,G,r,root,F,wv,av,kv,rfl,hI,hB2⟩
  have hz2:=hB2.size
  have HI:Hid (Ixs w2 ib rt t.size (BY (trn t)) (fw t) (placeOf t) wa.heap.size G r root F wv av kv):=hI
  clear hof hI
  go_wp2
  go_ret2
  refine⟨.inl ⟨t,rt,w2.heap.size,HM.out,rfl,?_⟩,?_⟩
  ·have hal:Below w2.heap.size w2 (w2.alloc (.cells #[.pointer (some ⟨ib,0,none⟩)] 67)):=(Below.refl _ _).alloc (Nat.le_refl _) _
   have hI2:=HI.out.below hal
   have hml:=HI.out.mrk.lt
   have hTl:=HI.out.rws.tre.tree.lt
   have hlo:=HI.out.low
   have hibl:=HI.out.rws.lt
   refine⟨wa.heap.size,ib,rt,G,r,root,F,wv,av,kv,rfl,heap_alloc_new _ _,hI2,fun k hk=>?_⟩
   have hzz:(w2.alloc (.cells #[.pointer (some ⟨ib,0,none⟩)] 67)).heap.size=w2.heap.size+1:=by simp
   rw[hzz]
   rcases hk with h|h|h|h
   ·omega
   ·omega
   ·have:=hTl k h;omega
   ·have:=hml k h;omega
  ·exact HAL.out.trans ((hB2.trans ((Below.refl _ _).alloc hz2 _)).mono (by omega))
 ·have hz1:=hb1.size
  have HNO:Hid (∀ t r,¬ Mar d t r):=hno
  have hal:Below w.heap.size w (w1.alloc (.cells #[.int .i64 0,.int .i64 0,.string ⟨#[]⟩] 72)):=hb1.alloc hz1 _
  clear hrd hno
  go_wp2
  go_ret2
  exact⟨.inr ⟨HNO.out,rfl⟩,hal⟩
theorem PIx.says4:Lay.Says4 PIx where
 marshal:=fun a z b t rate w h hk=>marshal_any a z b t rate w h hk
 unmarshal:=fun d w _=>unmarshal_any d w
end Go.Proofs.YtopihgmemnokkaaGreat
