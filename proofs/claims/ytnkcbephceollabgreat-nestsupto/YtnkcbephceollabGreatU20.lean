import Derived.Test.YtnkcbephceollabGreatU19
namespace Go.Proofs.YtnkcbephceollabGreat
open Go.RowKit
set_option linter.unusedSimpArgs false
set_option linter.unusedVariables false
set_option maxRecDepth 100000 in
set_option maxHeartbeats 4000000 in
theorem located_any (base wb:Nat)(hv:Value)(L:List Nat)(kd n:Int)(A B:Value)(p q r s:Pt)(P:List (List Pt))(w:World)
  (hn:P.length<=1048576) (hS:∀ i,i<P.length->(P.getD i []).length<=1048576) (hL:L.length+4*P.length+4<=1000000000000) (hbase:base<=w.heap.size)
  (hP:PolyAt w A P) (hW:Wld w base wb hv L (FX (fun _ _=>True) wb hv)) :
  Calls Tryz.prog 10 #[.pointer (some ⟨wb,0,none⟩),opV kd n A B p q r s] w fun e w'=>e = .returned (.bool true)/\∃ hv' L',L'.length=L.length+4+4*P.length/\Wld w' base wb hv' L' (FX (fun _ _=>True) wb hv')/\Kp (fun b=>b=wb\/hv.ownBlock=some b) w w':=by
 have HP0:=hide hP
 have HW:=hide hW
 have hlo:∀ b,hv.ownBlock=some b->b<w.heap.size:=fun b e=>(hW.own.lt b e).2
 have HLO:=hide hlo
 have HS:=hide hS
 clear hP hW hlo hS
 obtain ⟨W0,hW0⟩:∃ W,W=w.alloc (.cells #[.int .i64 kd,.int .i64 n,A,B,.int .i64 p.x,.int .i64 p.y,.int .i64 p.d,.int .i64 q.x,.int .i64 q.y,.int .i64 q.d,.int .i64 r.x,.int .i64 r.y,.int .i64 r.d,.int .i64 s.x,.int .i64 s.y,.int .i64 s.d] 33):=⟨_,rfl⟩
 have B0:Hid (Below w.heap.size w W0):=by rw [hW0];exact (Below.refl _ _).alloc (Nat.le_refl _) _
 have O0:W0.cell? ⟨w.heap.size,2,none⟩=some A:=by rw [hW0];exact (Blk.new w _ _).cell 2
 have O4:W0.cell? ⟨w.heap.size,4,none⟩=some (.int .i64 p.x):=by rw [hW0];exact (Blk.new w _ _).cell 4
 have O5:W0.cell? ⟨w.heap.size,5,none⟩=some (.int .i64 p.y):=by rw [hW0];exact (Blk.new w _ _).cell 5
 have O6:W0.cell? ⟨w.heap.size,6,none⟩=some (.int .i64 p.d):=by rw [hW0];exact (Blk.new w _ _).cell 6
 have z0:W0.heap.size=w.heap.size+1:=by rw [hW0];simp
 have P0:Hid (PolyAt W0 A P):=HP0.out.later B0.out
 go_enter Tryz.func10,Tryz.ntmps10
 go_wp2_with fail
 rw [<-hW0]
 clear hW0
 refine (handed_any A P W0 P0.out hn HS.out).mono ?_
 rintro e w1 ⟨pb,rb,wl,xb,rg,vs,us,rfl,hA,k1⟩
 have c1:=(k1.cell (p:=⟨w.heap.size,2,none⟩) (by simp;omega)).trans O0
 have x1:=(k1.cell (p:=⟨w.heap.size,4,none⟩) (by simp;omega)).trans O4
 have y1:=(k1.cell (p:=⟨w.heap.size,5,none⟩) (by simp;omega)).trans O5
 have d1:=(k1.cell (p:=⟨w.heap.size,6,none⟩) (by simp;omega)).trans O6
 have p0:=hA.hand.pbk.cell 0
 have p1:=hA.hand.pbk.cell 1
 simp at p0 p1
 have HA:=hide hA
 have K1:=hide k1
 have O0':=O0
 have O4':=O4
 have O5':=O5
 have O6':=O6
 clear hA k1 O0 O4 O5 O6
 have A2:Hid (∀ m,ArgAt (w1.drewN m) W0.heap.size pb rb wl xb rg P vs us):=fun m=>HA.out.later (below_drewN (Below.refl _ _) m)
 have K2:Hid (∀ m,Below W0.heap.size W0 (w1.drewN m)):=fun m=>below_drewN K1.out m
 have P2:=hide (fun m=>(A2.out m).poly hn HS.out)
 have CI:=hide (it_any pb rb wl P.length w1.drew p0 p1)
 go_upto_region 2 with fail
 go_cut [6,7] (fun nv ev w'=>nv = .int .i64 (locM P p).1/\ev = .int .i64 (locM P p).2/\Hid (ArgAt w' W0.heap.size pb rb wl xb rg P vs us)/\Hid (Below W0.heap.size W0 w'))
 case first=>
  go_region_with (first
   |(go_at_call 19;refine CI.out.mono ?_;rintro e w2 ⟨rfl,m2,rfl⟩)
   |(go_at_call 23;refine (Locate_any _ P p _ (P2.out _)).mono ?_;rintro e w3 ⟨rfl,k3⟩))
  all_goals
   go_wp2_with fail
   go_meet
   case rel=>exact ⟨rfl,rfl,(A2.out _).later k3,bvia (K2.out _) k3⟩
 case rest=>
 obtain ⟨rfl,rfl,A3,K3⟩:=hcut
 have P3:Hid (PolyAt wc A P):=P0.out.later K3.out
 have c3:wc.cell? ⟨w.heap.size,2,none⟩=some A:=(K3.out.cell (p:=⟨w.heap.size,2,none⟩) (by simp;omega)).trans O0'
 have x3:wc.cell? ⟨w.heap.size,4,none⟩=some (.int .i64 p.x):=(K3.out.cell (p:=⟨w.heap.size,4,none⟩) (by simp;omega)).trans O4'
 have y3:wc.cell? ⟨w.heap.size,5,none⟩=some (.int .i64 p.y):=(K3.out.cell (p:=⟨w.heap.size,5,none⟩) (by simp;omega)).trans O5'
 have d3:wc.cell? ⟨w.heap.size,6,none⟩=some (.int .i64 p.d):=(K3.out.cell (p:=⟨w.heap.size,6,none⟩) (by simp;omega)).trans O6'
 clear p0 p1 c1 x1 y1 d1 A2 K2 P2 HA K1
 have hloc:=locM_eq P p
 go_wp2_with fail
 refine (rLocate_any A P p _ P3.out HS.out).mono ?_
 rintro e w4 ⟨rfl,k4⟩
 rw [hloc]
 clear hloc x3 y3 d3
 have z3:=K3.out.size
 have A4:Hid (ArgAt w4 W0.heap.size pb rb wl xb rg P vs us):=A3.out.later k4
 have K4:Hid (Below W0.heap.size W0 w4):=bvia K3.out k4
 have P4:Hid (PolyAt w4 A P):=P3.out.later k4
 have c4:=(k4.cell (p:=⟨w.heap.size,2,none⟩) (by simp;omega)).trans c3
 clear c3 k4 A3 K3 P3
 go_wp2_with fail
 refine (still_any A P _ P4.out A4.out hn HS.out).mono ?_
 rintro e w5 ⟨rfl,k5⟩
 have z4:=K4.out.size
 have A5:Hid (ArgAt w5 W0.heap.size pb rb wl xb rg P vs us):=A4.out.later k5
 have K5:Hid (Below W0.heap.size W0 w5):=bvia K4.out k5
 have B5:Hid (Below w.heap.size w w5):=bvia B0.out K5.out
 have V5:Hid (Wld w5 base wb hv L (FX (fun b _=>b<W0.heap.size) wb hv)):=(HW.out.call B5.out).weaken (fun b o u ⟨x,y⟩ _=>⟨by omega,y⟩)
 have z5:=B5.out.size
 clear c4 k5 A4 K4 P4
 go_wp2_with fail
 refine (keepArg_any base wb W0.heap.size pb rb wl xb rg hv L P vs us w5 hn HS.out hL (by omega) (by omega) (fun b e=>by have:=HLO.out b e;omega) V5.out A5.out).mono ?_
 rintro e w6 ⟨rfl,hv',L',hl,hW',hk,_⟩
 have HW':=hide hW'
 have HK':Hid (Kp (fun b=>b=wb\/hv.ownBlock=some b) w w6):=⟨hk.os.trans B5.out.os,hk.tape.trans B5.out.tape,hk.output.trans B5.out.output,Nat.le_trans z5 hk.size,fun b hb hnx=>(hk.block b (by omega) (fun e=>by
  rcases e with e | e | e
  ·exact hnx (.inl e)
  ·exact hnx (.inr e)
  ·omega)).trans (B5.out.block b hb)⟩
 clear hW' hk
 go_wp2
 go_ret
 exact ⟨rfl,hv',L',hl,HW'.out,HK'.out⟩
set_option maxHeartbeats 1000000 in
theorem plays_locate (base wb:Nat)(hv:Value)(L:List Nat)(n:Int)(A B:Value)(p q r s:Pt)(P:List (List Pt))(w:World)
  (hn:P.length<=1048576) (hS:∀ i,i<P.length->(P.getD i []).length<=1048576) (hL:L.length+4*P.length+4<=1000000000000) (hbase:base<=w.heap.size)
  (hP:PolyAt w A P) (hW:Wld w base wb hv L (FX (fun _ _=>True) wb hv)) :
  Calls Tryz.prog 6 #[.pointer (some ⟨wb,0,none⟩),opV 3 n A B p q r s] w fun e w'=>e = .returned (.bool true)/\∃ hv' L',L'.length=L.length+4+4*P.length/\Wld w' base wb hv' L' (FX (fun _ _=>True) wb hv')/\Kp (fun b=>b=wb\/hv.ownBlock=some b) w w':=by
 have B0:Hid (Below w.heap.size w (w.alloc (.cells #[.int .i64 3,.int .i64 n,A,B,.int .i64 p.x,.int .i64 p.y,.int .i64 p.d,.int .i64 q.x,.int .i64 q.y,.int .i64 q.d,.int .i64 r.x,.int .i64 r.y,.int .i64 r.d,.int .i64 s.x,.int .i64 s.y,.int .i64 s.d] 33))):=(Below.refl _ _).alloc (Nat.le_refl _) _
 have H:=hide (located_any base wb hv L 3 n A B p q r s P _ hn hS hL (by have:=B0.out.size;omega) (hP.later B0.out) ((hW.call B0.out).weaken (F':=FX (fun _ _=>True) wb hv) (fun b o u ⟨_,y⟩ _=>⟨trivial,y⟩)))
 clear hP hW hS
 go_enter Tryz.func6,Tryz.ntmps6
 go_wp2_with fail
 refine H.out.mono ?_
 rintro e w1 ⟨rfl,hv',L',hl,hW',hk⟩
 have HW':=hide hW'
 have HK':Hid (Kp (fun b=>b=wb\/hv.ownBlock=some b) w w1):=(Kp.of B0.out).trans hk
 clear hW' hk H B0
 go_wp2
 go_ret
 exact ⟨rfl,hv',L',hl,HW'.out,HK'.out⟩
end Go.Proofs.YtnkcbephceollabGreat
namespace Go.Proofs.YtnkcbephceollabGreat
set_option linter.unusedVariables false
set_option linter.unusedSimpArgs false
def neg2 (s t:Int):Prop:=s<0\/(s=0/\t<0)
def pos2 (s t:Int):Prop:=0<s\/(s=0/\0<t)
instance (s t:Int):Decidable (neg2 s t):=by unfold neg2;infer_instance
instance (s t:Int):Decidable (pos2 s t):=by unfold pos2;infer_instance
def NoX (A B al be:Int):Prop:=¬ (((A<0/\0<B)\/(0<A/\B<0))/\((al<0/\0<be)\/(0<al/\be<0)))
section
variable {Y A B al be mu ap bp am bm aq bq D P:Int}(hY:0<Y)(hal:Y*al=B*ap-A*bp)(hbe:Y*be=B*aq-A*bq)(hmu:Y*mu=B*am-A*bm)(hmix:mu=D*al+P*be)(hD:0<D)(hP:0<P)(hx:NoX A B al be)
include hY
theorem sg_neg {z r:Int}(h:Y*z=r):(r<0->z<0)/\(0<r->0<z)/\(r=0->z=0)/\(r<=0->z<=0)/\(0<=r->0<=z):=by
 rcases Int.lt_trichotomy z 0 with c | c | c
 ·have:=mul_pn hY c;omega
 ·subst c;rw [Int.mul_zero] at h;omega
 ·have:=mul_pp hY c;omega
omit hY in
include hmix hD hP in
theorem mix_sg:(al<0->be<=0->mu<0)/\(al=0->be<0->mu<0)/\(0<al->0<=be->0<mu)/\(al=0->0<be->0<mu)/\(al=0->be=0->mu=0):=by
 refine ⟨fun h1 h2=>?_,fun h1 h2=>?_,fun h1 h2=>?_,fun h1 h2=>?_,fun h1 h2=>?_⟩
 ·have:=mul_pn hD h1;have:=mul_gl (Int.le_of_lt hP) h2;omega
 ·have:=mul_pn hP h2;rw [h1,Int.mul_zero] at hmix;omega
 ·have:=mul_pp hD h1;have:=mul_gg (Int.le_of_lt hP) h2;omega
 ·have:=mul_pp hP h2;rw [h1,Int.mul_zero] at hmix;omega
 ·rw [h1,h2,Int.mul_zero,Int.mul_zero] at hmix;omega
include hal hbe hmu hmix hD hP hx
theorem case02 (h1:ap<=0)(h2:am<0)(h3:aq<0)(h4:0<bp)(h5:0<bm):(neg2 al be↔mu<0)/\(pos2 al be↔0<mu):=by
 have sa:=sg_neg hY hal
 have sb:=sg_neg hY hbe
 have sm:=sg_neg hY hmu
 have mx:=mix_sg hmix hD hP
 unfold NoX at hx
 unfold neg2 pos2
 rcases Int.lt_trichotomy al 0 with c | c | c
 ·rcases Int.lt_or_le 0 be with d | d
  · -- on either side
   have k:(0<=A/\0<=B)\/(A<=0/\B<=0):=by omega
   rcases k with ⟨k1,k2⟩ | ⟨k1,k2⟩
   ·have e1:=mul_gl k2 (Int.le_of_lt h3)
    have e2:=mul_gl k2 (Int.le_of_lt h2)
    have e3:=mul_gg k1 (Int.le_of_lt h5)
    have hA:0<A:=by
     rcases Int.lt_or_eq_of_le k1 with z | z
     ·exact z
     ·subst z;simp only [Int.zero_mul] at hbe;omega
    have e4:=mul_pp hA h5
    omega
   ·have e1:=mul_ll k2 h1
    have e2:=mul_lg k1 (Int.le_of_lt h4)
    omega
  ·have:=mx.1 c d;omega
 ·rcases Int.lt_trichotomy be 0 with d | d | d
  ·have:=mx.2.1 c d;omega
  ·have:=mx.2.2.2.2 c d;omega
  ·have:=mx.2.2.2.1 c d;omega
 ·rcases Int.lt_or_le be 0 with d | d
  ·have k:(0<=A/\0<=B)\/(A<=0/\B<=0):=by omega
   rcases k with ⟨k1,k2⟩ | ⟨k1,k2⟩
   ·have e1:=mul_gl k2 h1
    have e2:=mul_gg k1 (Int.le_of_lt h4)
    omega
   ·have e1:=mul_ll k2 (Int.le_of_lt h3)
    have e2:=mul_ll k2 (Int.le_of_lt h2)
    have hA:A<0:=by
     rcases Int.lt_or_eq_of_le k1 with z | z
     ·exact z
     ·subst z;simp only [Int.zero_mul] at hbe;omega
    have e4:=mul_np hA h5
    omega
  ·have:=mx.2.2.1 c d;omega
omit hmu hmix hD hP in
theorem case01 (h1:ap<=0)(h3:aq<0)(h4:0<bp)(h5:bq<0)(hB:B≠0):(neg2 al be↔0<B)/\(pos2 al be↔B<0):=by
 have sa:=sg_neg hY hal
 have sb:=sg_neg hY hbe
 unfold NoX at hx
 unfold neg2 pos2
 rcases Int.lt_or_gt_of_ne hB with b | b
 ·rcases Int.lt_or_le 0 A with a | a
  ·have e1:=mul_nn b h3
   have e2:=mul_pn a h5
   omega
  ·have e1:=mul_ll (Int.le_of_lt b) h1
   have e2:=mul_lg a (Int.le_of_lt h4)
   rcases Int.lt_or_eq_of_le h1 with z | z
   ·have e3:=mul_nn b z
    omega
   ·rcases Int.lt_or_eq_of_le a with y | y
    ·have e4:=mul_np y h4
     omega
    ·subst z;subst y
     simp only [Int.zero_mul,Int.mul_zero] at hal hbe
     have e5:=mul_nn b h3
     omega
 ·rcases Int.lt_or_le A 0 with a | a
  ·have e1:=mul_pn b h3
   have e2:=mul_nn a h5
   omega
  ·have e1:=mul_gl (Int.le_of_lt b) h1
   have e2:=mul_gg a (Int.le_of_lt h4)
   rcases Int.lt_or_eq_of_le h1 with z | z
   ·have e3:=mul_pn b z
    omega
   ·rcases Int.lt_or_eq_of_le a with y | y
    ·have e4:=mul_pp y h4
     omega
    ·subst z;subst y
     simp only [Int.zero_mul,Int.mul_zero] at hal hbe
     have e5:=mul_pn b h3
     omega
omit hbe in
theorem case12 (h1:0<ap)(h2:am<=0)(h4:0<bp)(h5:0<bm)(hA:A≠0):(mu<0↔0<A)/\(0<mu↔A<0):=by
 have sa:=sg_neg hY hal
 have sm:=sg_neg hY hmu
 have mx:=mix_sg hmix hD hP
 unfold NoX at hx
 rcases Int.lt_or_gt_of_ne hA with a | a
 ·rcases Int.lt_or_le 0 B with b | b
  ·have e1:=mul_pp b h1
   have e2:=mul_np a h4
   have:0<al:=by omega
   have:0<=be:=by omega
   have:=mx.2.2.1 (by omega) this
   omega
  ·have e1:=mul_ll b h2
   have e2:=mul_np a h5
   omega
 ·rcases Int.lt_or_le B 0 with b | b
  ·have e1:=mul_np b h1
   have e2:=mul_pp a h4
   have:al<0:=by omega
   have:be<=0:=by omega
   have:=mx.1 (by omega) this
   omega
  ·have e1:=mul_gl b h2
   have e2:=mul_pp a h5
   omega
omit hmu hmix hD hP in
theorem case11 (h1:0<ap)(h3:aq<0)(h4:0<bp)(h5:bq<0)(hA:A≠0)(hB:B≠0):(0<A↔0<B):=by
 have sa:=sg_neg hY hal
 have sb:=sg_neg hY hbe
 unfold NoX at hx
 rcases Int.lt_or_gt_of_ne hA with a | a <;> rcases Int.lt_or_gt_of_ne hB with b | b
 ·omega
 ·have e1:=mul_pp b h1
  have e2:=mul_np a h4
  have e3:=mul_pn b h3
  have e4:=mul_nn a h5
  omega
 ·have e1:=mul_np b h1
  have e2:=mul_pp a h4
  have e3:=mul_nn b h3
  have e4:=mul_pn a h5
  omega
 ·omega
end
def midP (p q:Pt):Pt:=⟨p.x*q.d+q.x*p.d,p.y*q.d+q.y*p.d,2*p.d*q.d⟩
theorem mid_det (a b p q:Pt):detM a b (midP p q)=q.d*detM a b p+p.d*detM a b q:=by unfold detM midP;grind
theorem mid_yv (p q v:Pt):yv (midP p q) v=q.d*yv p v+p.d*yv q v:=by unfold yv midP;grind
theorem mid_xv (p q v:Pt):xv (midP p q) v=q.d*xv p v+p.d*xv q v:=by unfold xv midP;grind
theorem sh_mid (K:Int)(p q:Pt):shP K (midP p q)=midP (shP K p) (shP K q):=by
 unfold shP midP;simp only [Pt.mk.injEq,true_and,and_true];grind
theorem neg2_neg (s t:Int):neg2 (-s) (-t)↔pos2 s t:=by unfold neg2 pos2;omega
def ovL (p q a b:Pt):Bool:=(!befB p a && befB p b && decide (neg2 (detM a b p) (detM a b q))) || (befB p a && !befB p b && decide (pos2 (detM a b p) (detM a b q)))
def gB (p q v:Pt):Bool:=befB p v && !befB (midP p q) v && decide (0<detM p q v)
theorem bnd7 (x1 x2 x3 x4 x5 x6 x7:Int):∃ K:Int,(-K<x1/\x1<K)/\(-K<x2/\x2<K)/\(-K<x3/\x3<K)/\(-K<x4/\x4<K)/\(-K<x5/\x5<K)/\(-K<x6/\x6<K)/\(-K<x7/\x7<K):=
 ⟨x1.natAbs+x2.natAbs+x3.natAbs+x4.natAbs+x5.natAbs+x6.natAbs+x7.natAbs+1,by omega⟩
theorem strip_edge {p q a b:Pt}(hp:0<p.d)(hq:0<q.d)(ha:0<a.d)(hb:0<b.d)(hpq:befB p q=true)
  (fa:befB p a=true->befB a q=true->detM p q a≠0) (fb:befB p b=true->befB b q=true->detM p q b≠0) (hx:crossB p q a b=false) :
  (ovL p q a b ^^ overB (midP p q) a b)=(gB p q a ^^ gB p q b):=by
 obtain ⟨K,k1,k2,k3,k4,k5,k6,k7⟩:=bnd7 (yv p a) (yv p b) (yv p q) (yv q a) (yv q b) (yv (midP p q) a) (yv (midP p q) b)
 have sw:∀ u v,yv u v = -yv v u:=fun u v=>by unfold yv;grind
 have u1:=sh_up k1.1 k1.2
 have u2:=sh_up k2.1 k2.2
 have u3:=sh_up k3.1 k3.2
 have u4:upB false (shP K a) (shP K q)=befB a q:=sh_up (by have:=sw a q;omega) (by have:=sw a q;omega)
 have u5:upB false (shP K b) (shP K q)=befB b q:=sh_up (by have:=sw b q;omega) (by have:=sw b q;omega)
 have u6:=sh_up k6.1 k6.2
 have u7:=sh_up k7.1 k7.2
 have upd:∀ u v,upB false u v=decide (0<yv u v):=fun u v=>by unfold upB;simp
 rw [upd] at u1 u2 u3 u4 u5 u6 u7
 have ep:(shP K p).d=p.d:=rfl
 have eq:(shP K q).d=q.d:=rfl
 have ea:(shP K a).d=a.d:=rfl
 have eb:(shP K b).d=b.d:=rfl
 have I1:=id1 (shP K q) (shP K p) (shP K a) (shP K b)
 have I2:=id2 (shP K q) (shP K p) (shP K a) (shP K b)
 rw [sh_det,sh_det,sh_det,det_sw p q a,det_sw p q b] at I1 I2
 have J1:(shP K p).d*yv (shP K q) (shP K a)=(shP K q).d*yv (shP K p) (shP K a)-(shP K a).d*yv (shP K p) (shP K q):=by unfold yv;grind
 have J2:(shP K p).d*yv (shP K q) (shP K b)=(shP K q).d*yv (shP K p) (shP K b)-(shP K b).d*yv (shP K p) (shP K q):=by unfold yv;grind
 have M1:=mid_yv (shP K p) (shP K q) (shP K a)
 have M2:=mid_yv (shP K p) (shP K q) (shP K b)
 rw [<-sh_mid] at M1 M2
 have sq1:=sw (shP K a) (shP K q)
 have sq2:=sw (shP K b) (shP K q)
 rw [sq1] at u4
 rw [sq2] at u5
 have mix:=mid_det a b p q
 unfold ovL gB overB
 have hxx:NoX (detM p q a) (detM p q b) (detM a b p) (detM a b q):=by
  unfold NoX
  intro h
  have:crossB p q a b=true:=by
   unfold crossB apartB
   simp only [Bool.and_eq_true,Bool.or_eq_true,decide_eq_true_eq]
   omega
  rw [hx] at this;cases this
 rw [ep,eq,ea] at J1
 rw [ep,eq,eb] at J2
 rw [ep,eq] at M1 M2
 have hY:0<yv (shP K p) (shP K q):=by rw [hpq] at u3;exact of_decide_eq_true u3
 rw [<-u1] at fa ⊢
 rw [<-u2] at fb ⊢
 rw [<-u4] at fa
 rw [<-u5] at fb
 rw [<-u6,<-u7]
 generalize detM p q a=A at *
 generalize detM p q b=B at *
 generalize detM a b p=al at *
 generalize detM a b q=be at *
 generalize detM a b (midP p q)=mu at *
 generalize yv (shP K p) (shP K q)=Y at *
 generalize yv (shP K p) (shP K a)=ap at *
 generalize yv (shP K p) (shP K b)=bp at *
 generalize yv (shP K q) (shP K a)=aq at *
 generalize yv (shP K q) (shP K b)=bq at *
 generalize yv (shP K (midP p q)) (shP K a)=am at *
 generalize yv (shP K (midP p q)) (shP K b)=bm at *
 simp only [decide_eq_true_eq] at fa fb
 clear u1 u2 u3 u4 u5 u6 u7 sq1 sq2 k1 k2 k3 k4 k5 k6 k7 upd sw ep eq ea eb hx hpq
 have hal:Y*al=B*ap-A*bp:=by rw [I1];grind
 have hbe:Y*be=B*aq-A*bq:=by rw [I2];grind
 have hmu:Y*mu=B*am-A*bm:=by
  rw [mix,M1,M2]
  have e:Y*(q.d*al+p.d*be)=q.d*(Y*al)+p.d*(Y*be):=by grind
  rw [e,hal,hbe];grind
 clear I1 I2
 have oa:(ap<=0->am<0)/\(am<=0->aq<0):=by
  have t:=mul_pp ha hY
  have M1':am=2*(q.d*ap)-a.d*Y:=by rw [M1,J1];omega
  refine ⟨fun h=>?_,fun h=>?_⟩
  ·have:=mul_gl (Int.le_of_lt hq) h;omega
  ·rcases Int.lt_or_le aq 0 with c | c
   ·exact c
   ·have:=mul_gg (Int.le_of_lt hp) c;omega
 have ob:(bp<=0->bm<0)/\(bm<=0->bq<0):=by
  have t:=mul_pp hb hY
  have M2':bm=2*(q.d*bp)-b.d*Y:=by rw [M2,J2];omega
  refine ⟨fun h=>?_,fun h=>?_⟩
  ·have:=mul_gl (Int.le_of_lt hq) h;omega
  ·rcases Int.lt_or_le bq 0 with c | c
   ·exact c
   ·have:=mul_gg (Int.le_of_lt hp) c;omega
 clear M1 M2 J1 J2
 have hal':Y*(-al)=A*bp-B*ap:=by rw [Int.mul_neg,hal];omega
 have hbe':Y*(-be)=A*bq-B*aq:=by rw [Int.mul_neg,hbe];omega
 have hmu':Y*(-mu)=A*bm-B*am:=by rw [Int.mul_neg,hmu];omega
 have mix' : -mu=q.d*(-al)+p.d*(-be):=by rw [mix,Int.mul_neg,Int.mul_neg];omega
 have hxx':NoX B A (-al) (-be):=by unfold NoX at hxx ⊢;omega
 have T:∀ {c:Prop} [Decidable c],c->decide c=true:=fun h=>decide_eq_true h
 have F:∀ {c:Prop} [Decidable c],¬ c->decide c=false:=fun h=>decide_eq_false h
 by_cases a1:0<ap
 ·by_cases a2:0<am
  · -- a above m
   by_cases b1:0<bp
   ·by_cases b2:0<bm
    ·rw [T a1,T a2,T b1,T b2];simp
    · -- b in the strip,a above
     have c:=case12 hY hal' hmu' mix' hq hp hxx' b1 (by omega) a1 a2 (fb b1 (by have:=ob.2 (by omega);omega))
     rw [T a1,T a2,T b1,F b2]
     have e:decide (0<mu)=decide (0<B):=decide_eq_decide.2 (by have:=c.1;omega)
     rw [e];simp
   ·have h2:=ob.1 (by omega)
    have h3:=ob.2 (by omega)
    have c:=case02 hY hal' hbe' hmu' mix' hq hp hxx' (by omega) h2 h3 a1 a2
    rw [T a1,T a2,F b1,F (by omega : ¬ 0<bm)]
    have e:decide (pos2 al be)=decide (0<mu):=decide_eq_decide.2 (by have:=c.1;rw [neg2_neg] at this;rw [this];omega)
    rw [e];simp
  ·have hq1:=oa.2 (by omega)
   have hA:=fa a1 (by omega)
   by_cases b1:0<bp
   ·by_cases b2:0<bm
    ·have c:=case12 hY hal hmu mix hq hp hxx a1 (by omega) b1 b2 hA
     rw [T a1,F a2,T b1,T b2]
     have e:decide (mu<0)=decide (0<A):=decide_eq_decide.2 c.1
     rw [e];simp
    ·have hq2:=ob.2 (by omega)
     have hB:=fb b1 (by omega)
     have c:=case11 hY hal hbe hxx a1 hq1 b1 hq2 hA hB
     rw [T a1,F a2,T b1,F b2]
     have e:decide (0<A)=decide (0<B):=decide_eq_decide.2 c
     rw [e];simp
   ·have h2:=ob.1 (by omega)
    have h3:=ob.2 (by omega)
    have c:=case01 hY hal' hbe' hxx' (by omega) h3 a1 hq1 hA
    rw [T a1,F a2,F b1,F (by omega : ¬ 0<bm)]
    have e:decide (pos2 al be)=decide (0<A):=decide_eq_decide.2 (by have:=c.1;rw [neg2_neg] at this;exact this)
    rw [e];simp
 ·have h2:=oa.1 (by omega)
  have h3:=oa.2 (by omega)
  by_cases b1:0<bp
  ·by_cases b2:0<bm
   ·have c:=case02 hY hal hbe hmu mix hq hp hxx (by omega) h2 h3 b1 b2
    rw [F a1,F (by omega : ¬ 0<am),T b1,T b2]
    have e:decide (neg2 al be)=decide (mu<0):=decide_eq_decide.2 c.1
    rw [e];simp
   ·have hq2:=ob.2 (by omega)
    have hB:=fb b1 (by omega)
    have c:=case01 hY hal hbe hxx (by omega) h3 b1 hq2 hB
    rw [F a1,F (by omega : ¬ 0<am),T b1,F b2]
    have e:decide (neg2 al be)=decide (0<B):=decide_eq_decide.2 c.1
    rw [e];simp
  ·have g2:=ob.1 (by omega)
   rw [F a1,F (by omega : ¬ 0<am),F b1,F (by omega : ¬ 0<bm)];simp
end Go.Proofs.YtnkcbephceollabGreat
namespace Go.Proofs.YtnkcbephceollabGreat
set_option linter.unusedVariables false
set_option linter.unusedSimpArgs false
set_option linter.unusedSectionVars false
def pastP (T:Int)(o m:Pt):Pt:=⟨T*m.x-o.x,T*m.y-o.y,T*m.d-o.d⟩
theorem past_det (T:Int)(o m a b:Pt):detM a b (pastP T o m)=T*detM a b m-detM a b o:=by unfold detM pastP;grind
theorem past_way (T:Int)(o m v:Pt):detM o (pastP T o m) v=T*detM o m v:=by unfold detM pastP;grind
theorem past_yv (T:Int)(o m v:Pt):yv (pastP T o m) v=T*yv m v-yv o v:=by unfold yv pastP;grind
theorem sh_past (K T:Int)(o m:Pt):shP K (pastP T o m)=pastP T (shP K o) (shP K m):=by
 unfold shP pastP;simp only [Pt.mk.injEq,true_and,and_true];grind
theorem plk (o m a b:Pt):yv a b*detM o m a=detM a b m*yv a o-detM a b o*yv a m:=by unfold yv detM;grind
theorem plk2 {p q a b:Pt}(o:Pt)(h1:detM p q a=0)(h2:detM p q b=0):yv p q*detM a b o=yv a b*detM p q o:=by
 have:yv p q*detM a b o-yv a b*detM p q o=detM p q a*yv b o-detM p q b*yv a o:=by unfold yv detM;grind
 rw [h1,h2] at this
 omega
theorem big_sg {T x y:Int}(h1 : -T<y)(h2:y<T)(hx:x≠0):(T*x-y<0↔x<0)/\(0<T*x-y↔0<x):=by
 have hT:0<T:=by omega
 rcases Int.lt_or_gt_of_ne hx with c | c
 ·have e:T*(x+1)<=0:=mul_gl (Int.le_of_lt hT) (by omega)
  have e2:T*(x+1)=T*x+T:=by grind
  omega
 ·have e:0<=T*(x-1):=mul_gg (Int.le_of_lt hT) (by omega)
  have e2:T*(x-1)=T*x-T:=by grind
  omega
def thrB (o m a b:Pt):Bool:=onB m a b && ((befB a b && decide (0<detM a b o)) || (befB b a && decide (detM a b o<0)))
section
variable {o m a b:Pt}{K T:Int}(ho:0<o.d)(hm:0<m.d)(ha:0<a.d)(hb:0<b.d)
 (ka : -K<yv m a/\yv m a<K) (kb : -K<yv m b/\yv m b<K) (kab : -K<yv a b/\yv a b<K)
 (hA:detM o m a≠0) (hB:detM o m b≠0) (hne:befB a b=true\/befB b a=true)
include ho hm ha hb ka kb kab hA hB hne
theorem on_apart (h0:detM a b m=0):onB m a b=apartB (detM o m a) (detM o m b):=by
 cases hon:onB m a b
 ·cases hap:apartB (detM o m a) (detM o m b)
  ·rfl
  ·exfalso
   refine nz_cross (o:=o) hm ha hb hon ?_ h0
   unfold apartB at hap
   simp only [Bool.or_eq_true,Bool.and_eq_true,decide_eq_true_eq] at hap
   exact hap
 · -- m lies between a and b
  have I:=id1 (shP K o) (shP K m) (shP K a) (shP K b)
  rw [sh_det,sh_det,sh_det,h0,Int.mul_zero] at I
  have ua:=sh_up ka.1 ka.2
  have ub:=sh_up kb.1 kb.2
  have upd:∀ u v,upB false u v=decide (0<yv u v):=fun u v=>by unfold upB;simp
  rw [upd] at ua ub
  have hd:yv (shP K a) (shP K b)≠0:=by
   intro e
   have sw:∀ u v,yv u v = -yv v u:=fun u v=>by unfold yv;grind
   have e':=sw (shP K a) (shP K b)
   have w1:=sh_up kab.1 kab.2
   have w2:=sh_up (K:=K) (q:=b) (v:=a) (by have:=sw b a;omega) (by have:=sw b a;omega)
   rw [upd] at w1 w2
   rcases hne with h | h
   ·rw [h] at w1;have:=of_decide_eq_true w1;omega
   ·rw [h] at w2;have:=of_decide_eq_true w2;omega
  have J:(shP K m).d*yv (shP K a) (shP K b)=(shP K a).d*yv (shP K m) (shP K b)-(shP K b).d*yv (shP K m) (shP K a):=by unfold yv;grind
  have hw:withB m a b=true:=by unfold onB at hon;simp at hon;exact hon.2
  have lt:(yv (shP K m) (shP K a)<=0/\0<=yv (shP K m) (shP K b))\/(0<=yv (shP K m) (shP K a)/\yv (shP K m) (shP K b)<=0):=by
   unfold withB loM hiM at hw
   have sw:∀ u v,yv u v = -yv v u:=fun u v=>by unfold yv;grind
   have va:=sh_up (K:=K) (q:=a) (v:=m) (by have:=sw a m;omega) (by have:=sw a m;omega)
   have vb:=sh_up (K:=K) (q:=b) (v:=m) (by have:=sw b m;omega) (by have:=sw b m;omega)
   rw [upd,sw (shP K a)] at va
   rw [upd,sw (shP K b)] at vb
   by_cases c:befB b a=true
   ·simp only [if_pos c,Bool.and_eq_true,Bool.not_eq_true'] at hw
    rw [hw.1] at ub;rw [hw.2] at va
    have:=of_decide_eq_false ub;have:=of_decide_eq_false va
    omega
   ·simp only [if_neg c,Bool.and_eq_true,Bool.not_eq_true'] at hw
    rw [hw.1] at ua;rw [hw.2] at vb
    have:=of_decide_eq_false ua;have:=of_decide_eq_false vb
    omega
  generalize yv (shP K m) (shP K a)=am at *
  generalize yv (shP K m) (shP K b)=bm at *
  generalize detM o m a=A at *
  generalize detM o m b=B at *
  have z1:am≠0:=fun e=>by
   rw [e,Int.mul_zero,Int.sub_zero] at I
   rcases Int.mul_eq_zero.1 I.symm with c | c
   ·exact hA c
   ·rw [e,c,Int.mul_zero,Int.mul_zero,Int.sub_zero] at J
    rcases Int.mul_eq_zero.1 J with c | c
    ·have:(shP K m).d=m.d:=rfl
     omega
    ·exact hd c
  have z2:bm≠0:=fun e=>by
   rw [e,Int.mul_zero,Int.zero_sub] at I
   have I':B*am=0:=by omega
   rcases Int.mul_eq_zero.1 I' with c | c
   ·exact hB c
   ·exact z1 c
  symm
  unfold apartB
  simp only [Bool.or_eq_true,Bool.and_eq_true,decide_eq_true_eq]
  have I':A*bm=B*am:=by omega
  rcases lt with ⟨l1,l2⟩ | ⟨l1,l2⟩
  ·have l1':am<0:=by omega
   have l2':0<bm:=by omega
   rcases Int.lt_or_gt_of_ne hA with c | c <;> rcases Int.lt_or_gt_of_ne hB with d | d
   ·have:=mul_np c l2';have:=mul_nn d l1';omega
   ·omega
   ·omega
   ·have:=mul_pp c l2';have:=mul_pn d l1';omega
  ·have l1':0<am:=by omega
   have l2':bm<0:=by omega
   rcases Int.lt_or_gt_of_ne hA with c | c <;> rcases Int.lt_or_gt_of_ne hB with d | d
   ·have:=mul_nn c l2';have:=mul_np d l1';omega
   ·omega
   ·omega
   ·have:=mul_pn c l2';have:=mul_pp d l1';omega
theorem om_nz (h0:detM a b m=0):detM a b o≠0:=by
 intro e
 have pl:=plk (shP K o) (shP K m) (shP K a) (shP K b)
 rw [sh_det,sh_det,sh_det,h0,e,Int.zero_mul,Int.zero_mul,Int.sub_zero] at pl
 rcases Int.mul_eq_zero.1 pl with c | c
 ·have upd:∀ u v,upB false u v=decide (0<yv u v):=fun u v=>by unfold upB;simp
  have sw:∀ u v,yv u v = -yv v u:=fun u v=>by unfold yv;grind
  have e':=sw (shP K a) (shP K b)
  have w1:=sh_up kab.1 kab.2
  have w2:=sh_up (K:=K) (q:=b) (v:=a) (by have:=sw b a;omega) (by have:=sw b a;omega)
  rw [upd] at w1 w2
  rcases hne with h | h
  ·rw [h] at w1;have:=of_decide_eq_true w1;omega
  ·rw [h] at w2;have:=of_decide_eq_true w2;omega
 ·exact hA c
theorem past_nz (t1 : -T<detM a b o/\detM a b o<T):detM a b (pastP T o m)≠0:=by
 rw [past_det]
 by_cases h0:detM a b m=0
 ·have:=om_nz ho hm ha hb ka kb kab hA hB hne h0
  rw [h0,Int.mul_zero];omega
 ·have:=big_sg t1.1 t1.2 h0
  omega
theorem past_cross (t1 : -T<detM a b o/\detM a b o<T):crossB o (pastP T o m) a b=(crossB o m a b ^^ onB m a b):=by
 have hT:0<T:=by omega
 have sc:∀ x:Int,(T*x<0↔x<0)/\(0<T*x↔0<x):=fun x=>by
  rcases Int.lt_trichotomy x 0 with c | c | c
  ·have:=mul_pn hT c;omega
  ·subst c;rw [Int.mul_zero];omega
  ·have:=mul_pp hT c;omega
 unfold crossB
 rw [past_way,past_way,past_det]
 have e1:apartB (T*detM o m a) (T*detM o m b)=apartB (detM o m a) (detM o m b):=by
  unfold apartB;simp only [(sc _).1,(sc _).2]
 rw [e1]
 by_cases h0:detM a b m=0
 ·rw [on_apart ho hm ha hb ka kb kab hA hB hne h0]
  have nz:=om_nz ho hm ha hb ka kb kab hA hB hne h0
  rw [h0,Int.mul_zero]
  have e2:apartB (detM a b o) (0-detM a b o)=true:=by unfold apartB;simp;omega
  have e3:apartB (detM a b o) 0=false:=by unfold apartB;simp
  rw [e2,e3];cases apartB (detM o m a) (detM o m b) <;> rfl
 ·have e2:apartB (detM a b o) (T*detM a b m-detM a b o)=apartB (detM a b o) (detM a b m):=by
   unfold apartB;simp only [(big_sg t1.1 t1.2 h0).1,(big_sg t1.1 t1.2 h0).2]
  have e3:onB m a b=false:=by unfold onB;simp [h0]
  rw [e2,e3];simp
theorem past_left (t1 : -T<detM a b o/\detM a b o<T)(ta:0<yv (shP K o) (shP K a)/\yv (shP K o) (shP K a)<T)(tb:0<yv (shP K o) (shP K b)/\yv (shP K o) (shP K b)<T) :
  leftB false (shP K (pastP T o m)) (shP K a) (shP K b)=(overB m a b ^^ thrB o m a b):=by
 have upd:∀ u v,upB false u v=decide (0<yv u v):=fun u v=>by unfold upB;simp
 have upx:∀ v,-K<yv m v/\yv m v<K->0<yv (shP K o) (shP K v)/\yv (shP K o) (shP K v)<T->upB false (shP K (pastP T o m)) (shP K v)=befB m v:=fun v kv tv=>by
  have u:=sh_up kv.1 kv.2
  rw [upd] at u ⊢
  rw [<-u,sh_past,past_yv]
  refine decide_eq_decide.2 ?_
  by_cases z:yv (shP K m) (shP K v)=0
  ·rw [z,Int.mul_zero];omega
  ·exact (big_sg (by omega) tv.2 z).2
 unfold leftB
 rw [upx a ka ta,upx b kb tb,sh_det,past_det]
 unfold overB thrB
 by_cases h0:detM a b m=0
 ·rw [h0,Int.mul_zero]
  have d1:decide ((0:Int)<0)=false:=rfl
  rw [d1]
  have up:=nz_up (q:=m) (a:=shP K a) (b:=shP K b)
  cases ua:befB m a <;> cases ub:befB m b
  · -- both not behind m
   have:onB m a b=false\/onB m a b=true:=by cases onB m a b <;> simp
   rcases this with h | h
   ·rw [h];simp
   · -- then one of them is m
    exfalso
    have ap:=on_apart ho hm ha hb ka kb kab hA hB hne h0
    rw [h] at ap
    have I:=id1 (shP K o) (shP K m) (shP K a) (shP K b)
    rw [sh_det,sh_det,sh_det,h0,Int.mul_zero] at I
    have va:=sh_up ka.1 ka.2
    have vb:=sh_up kb.1 kb.2
    rw [upd,ua] at va
    rw [upd,ub] at vb
    have xa:=of_decide_eq_false va
    have xb:=of_decide_eq_false vb
    have ap':=ap.symm
    unfold apartB at ap'
    simp only [Bool.or_eq_true,Bool.and_eq_true,decide_eq_true_eq] at ap'
    have J:(shP K m).d*yv (shP K a) (shP K b)=(shP K a).d*yv (shP K m) (shP K b)-(shP K b).d*yv (shP K m) (shP K a):=by unfold yv;grind
    generalize yv (shP K m) (shP K a)=am at *
    generalize yv (shP K m) (shP K b)=bm at *
    have both:am=0/\bm=0:=by
     rcases ap' with ⟨p1,p2⟩ | ⟨p1,p2⟩
     ·have m1:=mul_ll (Int.le_of_lt p1) (show bm<=0 by omega)
      have m2:=mul_gl (Int.le_of_lt p2) (show am<=0 by omega)
      refine ⟨?_,?_⟩
      ·rcases Int.mul_eq_zero.1 (show detM o m b*am=0 by omega) with c | c <;> omega
      ·rcases Int.mul_eq_zero.1 (show detM o m a*bm=0 by omega) with c | c <;> omega
     ·have m1:=mul_gl (Int.le_of_lt p1) (show bm<=0 by omega)
      have m2:=mul_ll (Int.le_of_lt p2) (show am<=0 by omega)
      refine ⟨?_,?_⟩
      ·rcases Int.mul_eq_zero.1 (show detM o m b*am=0 by omega) with c | c <;> omega
      ·rcases Int.mul_eq_zero.1 (show detM o m a*bm=0 by omega) with c | c <;> omega
    rw [both.1,both.2,Int.mul_zero,Int.mul_zero,Int.sub_zero] at J
    rcases Int.mul_eq_zero.1 J with c | c
    ·have:(shP K m).d=m.d:=rfl
     omega
    ·have sw:∀ u v,yv u v = -yv v u:=fun u v=>by unfold yv;grind
     have e':=sw (shP K a) (shP K b)
     have w1:=sh_up kab.1 kab.2
     have w2:=sh_up (K:=K) (q:=b) (v:=a) (by have:=sw b a;omega) (by have:=sw b a;omega)
     rw [upd] at w1 w2
     rcases hne with h | h
     ·rw [h] at w1;have:=of_decide_eq_true w1;omega
     ·rw [h] at w2;have:=of_decide_eq_true w2;omega
  ·have hab:befB a b=true:=le_bef ha hm hb ua ub
   have hba:=bef_asym hab
   have hon:onB m a b=true:=by
    cases h:onB m a b
    ·exfalso
     have:=with_ab hm ha hb ua (bef_asym ub)
     unfold onB at h;rw [h0,this] at h;simp at h
    ·rfl
   rw [hab,hba,hon]
   have e:decide (0-detM a b o<0)=decide (0<detM a b o):=decide_eq_decide.2 (by omega)
   rw [e];simp
  ·have hba:befB b a=true:=le_bef hb hm ha ub ua
   have hab:=bef_asym hba
   have hon:onB m a b=true:=by
    cases h:onB m a b
    ·exfalso
     have:=with_ba hm ha hb ub (bef_asym ua)
     unfold onB at h;rw [h0,this] at h;simp at h
    ·rfl
   rw [hab,hba,hon]
   have e:decide (0<0-detM a b o)=decide (detM a b o<0):=decide_eq_decide.2 (by omega)
   rw [e];simp
  ·have:onB m a b=false:=by
    cases h:onB m a b
    ·rfl
    ·exfalso
     have hw:withB m a b=true:=by unfold onB at h;simp at h;exact h.2
     unfold withB loM hiM at hw
     by_cases c:befB b a=true
     ·simp [if_pos c,ub] at hw
     ·simp [if_neg c,ua] at hw
   rw [this];simp
 ·have e3:onB m a b=false:=by unfold onB;simp [h0]
  rw [e3]
  have g:=big_sg t1.1 t1.2 h0
  have g1:decide (T*detM a b m-detM a b o<0)=decide (detM a b m<0):=decide_eq_decide.2 g.1
  have g2:decide (0<T*detM a b m-detM a b o)=decide (0<detM a b m):=decide_eq_decide.2 g.2
  rw [g1,g2]
  simp
end
end Go.Proofs.YtnkcbephceollabGreat
