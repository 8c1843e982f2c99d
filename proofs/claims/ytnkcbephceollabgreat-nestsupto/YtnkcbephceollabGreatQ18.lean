import Derived.Test.YtnkcbephceollabGreatQ17
namespace Go.Proofs.YtnkcbephceollabGreat
set_option linter.unusedVariables false
set_option linter.unusedSimpArgs false
def midP (p q:Pt):Pt:=⟨p.x*q.d+q.x*p.d,p.y*q.d+q.y*p.d,2*p.d*q.d⟩
theorem mid_det (a b p q:Pt):detM a b (midP p q)=q.d*detM a b p+p.d*detM a b q:=by unfold detM midP;grind
theorem mid_yv (p q v:Pt):yv (midP p q) v=q.d*yv p v+p.d*yv q v:=by unfold yv midP;grind
theorem mid_xv (p q v:Pt):xv (midP p q) v=q.d*xv p v+p.d*xv q v:=by unfold xv midP;grind
theorem sh_mid (K:Int)(p q:Pt):shP K (midP p q)=midP (shP K p) (shP K q):=by
 unfold shP midP;simp only [Pt.mk.injEq,true_and,and_true];grind
theorem neg2_neg (s t:Int):neg2 (-s) (-t)↔pos2 s t:=by unfold neg2 pos2;omega
def ovL (p q a b:Pt):Bool:=(!befB p a && befB p b && decide (neg2 (detM a b p) (detM a b q))) || (befB p a && !befB p b && decide (pos2 (detM a b p) (detM a b q)))
def gB (p q v:Pt):Bool:=befB p v && !befB (midP p q) v && decide (0<detM p q v)
theorem bnd7 (x1 x2 x3 x4 x5 x6 x7:Int):∃ K:Int,(-K<x1/\x1<K)/\(-K<x2/\x2<K)/\(-K<x3/\x3<K)/\(-K<x4/\x4<K)/\(-K<x5/\x5<K)/\(-K<x6/\x6<K)/\(-K<x7/\x7<K):=
 ⟨x1.natAbs+x2.natAbs+x3.natAbs+x4.natAbs+x5.natAbs+x6.natAbs+x7.natAbs+1,by omega⟩
theorem strip_edge {p q a b:Pt}(hp:0<p.d)(hq:0<q.d)(ha:0<a.d)(hb:0<b.d)(hpq:befB p q=true)
  (fa:befB p a=true->befB a q=true->detM p q a≠0) (fb:befB p b=true->befB b q=true->detM p q b≠0) (hx:crossB p q a b=false) :
  (ovL p q a b ^^ overB (midP p q) a b)=(gB p q a ^^ gB p q b):=by
 obtain ⟨K,k1,k2,k3,k4,k5,k6,k7⟩:=bnd7 (yv p a) (yv p b) (yv p q) (yv q a) (yv q b) (yv (midP p q) a) (yv (midP p q) b)
 have sw:∀ u v,yv u v = -yv v u:=fun u v=>by unfold yv;grind
 have u1:=sh_up k1.1 k1.2
 have u2:=sh_up k2.1 k2.2
 have u3:=sh_up k3.1 k3.2
 have u4:upB false (shP K a) (shP K q)=befB a q:=sh_up (by have:=sw a q;omega) (by have:=sw a q;omega)
 have u5:upB false (shP K b) (shP K q)=befB b q:=sh_up (by have:=sw b q;omega) (by have:=sw b q;omega)
 have u6:=sh_up k6.1 k6.2
 have u7:=sh_up k7.1 k7.2
 have upd:∀ u v,upB false u v=decide (0<yv u v):=fun u v=>by unfold upB;simp
 rw [upd] at u1 u2 u3 u4 u5 u6 u7
 have ep:(shP K p).d=p.d:=rfl
 have eq:(shP K q).d=q.d:=rfl
 have ea:(shP K a).d=a.d:=rfl
 have eb:(shP K b).d=b.d:=rfl
 have I1:=id1 (shP K q) (shP K p) (shP K a) (shP K b)
 have I2:=id2 (shP K q) (shP K p) (shP K a) (shP K b)
 rw [sh_det,sh_det,sh_det,det_sw p q a,det_sw p q b] at I1 I2
 have J1:(shP K p).d*yv (shP K q) (shP K a)=(shP K q).d*yv (shP K p) (shP K a)-(shP K a).d*yv (shP K p) (shP K q):=by unfold yv;grind
 have J2:(shP K p).d*yv (shP K q) (shP K b)=(shP K q).d*yv (shP K p) (shP K b)-(shP K b).d*yv (shP K p) (shP K q):=by unfold yv;grind
 have M1:=mid_yv (shP K p) (shP K q) (shP K a)
 have M2:=mid_yv (shP K p) (shP K q) (shP K b)
 rw [<-sh_mid] at M1 M2
 have sq1:=sw (shP K a) (shP K q)
 have sq2:=sw (shP K b) (shP K q)
 rw [sq1] at u4
 rw [sq2] at u5
 have mix:=mid_det a b p q
 unfold ovL gB overB
 have hxx:NoX (detM p q a) (detM p q b) (detM a b p) (detM a b q):=by
  unfold NoX
  intro h
  have:crossB p q a b=true:=by
   unfold crossB apartB
   simp only [Bool.and_eq_true,Bool.or_eq_true,decide_eq_true_eq]
   omega
  rw [hx] at this;cases this
 rw [ep,eq,ea] at J1
 rw [ep,eq,eb] at J2
 rw [ep,eq] at M1 M2
 have hY:0<yv (shP K p) (shP K q):=by rw [hpq] at u3;exact of_decide_eq_true u3
 rw [<-u1] at fa ⊢
 rw [<-u2] at fb ⊢
 rw [<-u4] at fa
 rw [<-u5] at fb
 rw [<-u6,<-u7]
 generalize detM p q a=A at *
 generalize detM p q b=B at *
 generalize detM a b p=al at *
 generalize detM a b q=be at *
 generalize detM a b (midP p q)=mu at *
 generalize yv (shP K p) (shP K q)=Y at *
 generalize yv (shP K p) (shP K a)=ap at *
 generalize yv (shP K p) (shP K b)=bp at *
 generalize yv (shP K q) (shP K a)=aq at *
 generalize yv (shP K q) (shP K b)=bq at *
 generalize yv (shP K (midP p q)) (shP K a)=am at *
 generalize yv (shP K (midP p q)) (shP K b)=bm at *
 simp only [decide_eq_true_eq] at fa fb
 clear u1 u2 u3 u4 u5 u6 u7 sq1 sq2 k1 k2 k3 k4 k5 k6 k7 upd sw ep eq ea eb hx hpq
 have hal:Y*al=B*ap-A*bp:=by rw [I1];grind
 have hbe:Y*be=B*aq-A*bq:=by rw [I2];grind
 have hmu:Y*mu=B*am-A*bm:=by
  rw [mix,M1,M2]
  have e:Y*(q.d*al+p.d*be)=q.d*(Y*al)+p.d*(Y*be):=by grind
  rw [e,hal,hbe];grind
 clear I1 I2
 have oa:(ap<=0->am<0)/\(am<=0->aq<0):=by
  have t:=mul_pp ha hY
  have M1':am=2*(q.d*ap)-a.d*Y:=by rw [M1,J1];omega
  refine ⟨fun h=>?_,fun h=>?_⟩
  ·have:=mul_gl (Int.le_of_lt hq) h;omega
  ·rcases Int.lt_or_le aq 0 with c | c
   ·exact c
   ·have:=mul_gg (Int.le_of_lt hp) c;omega
 have ob:(bp<=0->bm<0)/\(bm<=0->bq<0):=by
  have t:=mul_pp hb hY
  have M2':bm=2*(q.d*bp)-b.d*Y:=by rw [M2,J2];omega
  refine ⟨fun h=>?_,fun h=>?_⟩
  ·have:=mul_gl (Int.le_of_lt hq) h;omega
  ·rcases Int.lt_or_le bq 0 with c | c
   ·exact c
   ·have:=mul_gg (Int.le_of_lt hp) c;omega
 clear M1 M2 J1 J2
 have hal':Y*(-al)=A*bp-B*ap:=by rw [Int.mul_neg,hal];omega
 have hbe':Y*(-be)=A*bq-B*aq:=by rw [Int.mul_neg,hbe];omega
 have hmu':Y*(-mu)=A*bm-B*am:=by rw [Int.mul_neg,hmu];omega
 have mix' : -mu=q.d*(-al)+p.d*(-be):=by rw [mix,Int.mul_neg,Int.mul_neg];omega
 have hxx':NoX B A (-al) (-be):=by unfold NoX at hxx ⊢;omega
 have T:∀ {c:Prop} [Decidable c],c->decide c=true:=fun h=>decide_eq_true h
 have F:∀ {c:Prop} [Decidable c],¬ c->decide c=false:=fun h=>decide_eq_false h
 by_cases a1:0<ap
 ·by_cases a2:0<am
  · -- a above m
   by_cases b1:0<bp
   ·by_cases b2:0<bm
    ·rw [T a1,T a2,T b1,T b2];simp
    · -- b in the strip,a above
     have c:=case12 hY hal' hmu' mix' hq hp hxx' b1 (by omega) a1 a2 (fb b1 (by have:=ob.2 (by omega);omega))
     rw [T a1,T a2,T b1,F b2]
     have e:decide (0<mu)=decide (0<B):=decide_eq_decide.2 (by have:=c.1;omega)
     rw [e];simp
   ·have h2:=ob.1 (by omega)
    have h3:=ob.2 (by omega)
    have c:=case02 hY hal' hbe' hmu' mix' hq hp hxx' (by omega) h2 h3 a1 a2
    rw [T a1,T a2,F b1,F (by omega : ¬ 0<bm)]
    have e:decide (pos2 al be)=decide (0<mu):=decide_eq_decide.2 (by have:=c.1;rw [neg2_neg] at this;rw [this];omega)
    rw [e];simp
  ·have hq1:=oa.2 (by omega)
   have hA:=fa a1 (by omega)
   by_cases b1:0<bp
   ·by_cases b2:0<bm
    ·have c:=case12 hY hal hmu mix hq hp hxx a1 (by omega) b1 b2 hA
     rw [T a1,F a2,T b1,T b2]
     have e:decide (mu<0)=decide (0<A):=decide_eq_decide.2 c.1
     rw [e];simp
    ·have hq2:=ob.2 (by omega)
     have hB:=fb b1 (by omega)
     have c:=case11 hY hal hbe hxx a1 hq1 b1 hq2 hA hB
     rw [T a1,F a2,T b1,F b2]
     have e:decide (0<A)=decide (0<B):=decide_eq_decide.2 c
     rw [e];simp
   ·have h2:=ob.1 (by omega)
    have h3:=ob.2 (by omega)
    have c:=case01 hY hal' hbe' hxx' (by omega) h3 a1 hq1 hA
    rw [T a1,F a2,F b1,F (by omega : ¬ 0<bm)]
    have e:decide (pos2 al be)=decide (0<A):=decide_eq_decide.2 (by have:=c.1;rw [neg2_neg] at this;exact this)
    rw [e];simp
 ·have h2:=oa.1 (by omega)
  have h3:=oa.2 (by omega)
  by_cases b1:0<bp
  ·by_cases b2:0<bm
   ·have c:=case02 hY hal hbe hmu mix hq hp hxx (by omega) h2 h3 b1 b2
    rw [F a1,F (by omega : ¬ 0<am),T b1,T b2]
    have e:decide (neg2 al be)=decide (mu<0):=decide_eq_decide.2 c.1
    rw [e];simp
   ·have hq2:=ob.2 (by omega)
    have hB:=fb b1 (by omega)
    have c:=case01 hY hal hbe hxx (by omega) h3 b1 hq2 hB
    rw [F a1,F (by omega : ¬ 0<am),T b1,F b2]
    have e:decide (neg2 al be)=decide (0<B):=decide_eq_decide.2 c.1
    rw [e];simp
  ·have g2:=ob.1 (by omega)
   rw [F a1,F (by omega : ¬ 0<am),F b1,F (by omega : ¬ 0<bm)];simp
theorem cmpB (p q:Pt):decide (cmpM p q<0)=befB p q:=by
 unfold cmpM befB
 by_cases h:p.x*q.d=q.x*p.d
 ·rw [if_neg (by omega),if_neg (by simpa using h)];congr 1;exact propext (by omega)
 ·rw [if_pos (by omega),if_pos (by simpa using h)];congr 1;exact propext (by omega)
theorem cmpB' (p q:Pt):decide (0<cmpM p q)=befB q p:=by
 unfold cmpM befB
 by_cases h:p.x*q.d=q.x*p.d
 ·rw [if_neg (by omega),if_neg (by simpa using h.symm)];congr 1;exact propext (by omega)
 ·rw [if_pos (by omega),if_pos (by simpa using fun e=>h e.symm)];congr 1;exact propext (by omega)
theorem first_eq (a b:Pt):firstM a b=if befB b a=true then b else a:=by
 unfold firstM;rw [<-cmpB];simp
theorem last_eq (a b:Pt):lastM a b=if befB a b=true then b else a:=by
 unfold lastM;rw [<-cmpB'];simp
theorem bef_irr (p:Pt):befB p p=false:=by rw [bef_false];omega
theorem bef_asym {p q:Pt}(h:befB p q=true):befB q p=false:=by
 rw [bef_iff] at h;rw [bef_false];omega
section
variable {a b q:Pt}(ha:0<a.d)(hb:0<b.d)(hq:0<q.d)
include ha hb hq
theorem bef_same_r (h1:befB a b=false)(h2:befB b a=false):befB q a=befB q b:=by
 cases k:befB q a
 ·cases k2:befB q b
  ·rfl
  ·have:=bef_le hq hb ha k2 h1;rw [k] at this;cases this
 ·exact (bef_le hq ha hb k h2).symm
theorem bef_same_l (h1:befB a b=false)(h2:befB b a=false):befB a q=befB b q:=by
 cases k:befB a q
 ·cases k2:befB b q
  ·rfl
  ·have:=le_bef ha hb hq h2 k2;rw [k] at this;cases this
 ·exact (le_bef hb ha hq h1 k).symm
theorem bef_lt (h:befB a b=true)(h2:befB q a=true):befB q b=true:=bef_le hq ha hb h2 (bef_asym h)
theorem has_on:hasM a b q=onB q a b:=by
 unfold hasM onB withB sideM loM hiM
 rw [cmpB,cmpB']
 by_cases h:befB b a=true
 ·have h':=bef_asym h
  rw [first_eq,last_eq,if_pos h,if_neg (by rw [h'];decide),if_pos h]
  have e:decide (detM b a q=0)=decide (detM a b q=0):=by rw [det_sw2];congr 1;exact propext (by omega)
  rw [e]
  cases befB q b <;> cases befB a q <;> cases decide (detM a b q=0) <;> rfl
 ·have h0:befB b a=false:=by simpa using h
  by_cases h2:befB a b=true
  ·rw [first_eq,last_eq,if_neg h,if_pos h2,if_neg h]
   cases befB q a <;> cases befB b q <;> cases decide (detM a b q=0) <;> rfl
  ·have h2':befB a b=false:=by simpa using h2
   rw [first_eq,last_eq,if_neg h,if_neg h2,if_neg h]
   have e1:=bef_same_l ha hb hq h2' h0
   rw [e1]
   have z1:detM a a q=0:=by unfold detM;grind
   have z2:detM a b q=0:=by
    rw [bef_false] at h0 h2'
    have ex:a.x*b.d=b.x*a.d:=by omega
    have ey:a.y*b.d=b.y*a.d:=by omega
    have k:a.d*detM a b q=0:=by
     have:a.d*detM a b q=(a.x*b.d-b.x*a.d)*(a.d*q.y)*(-1)+(a.y*b.d-b.y*a.d)*(a.d*q.x)+(a.x*(b.y*a.d)-a.y*(b.x*a.d))*q.d:=by unfold detM;grind
     rw [this,<-ex,<-ey]
     grind
    rcases Int.mul_eq_zero.1 k with c | c
    ·omega
    ·exact c
   rw [z1,z2]
   cases befB q a <;> cases befB b q <;> rfl
theorem over_eq:overM a b q=overB q a b:=by
 unfold overM spanM sideM overB
 rw [cmpB,cmpB]
 by_cases h:befB b a=true
 ·have h':=bef_asym h
  rw [first_eq,last_eq,if_pos h,if_neg (by rw [h'];decide)]
  have e:decide (detM b a q<0)=decide (0<detM a b q):=by rw [det_sw2];congr 1;exact propext (by omega)
  rw [e]
  have m:=fun k=>bef_lt hb ha hq h (q:=q) k
  cases ka:befB q a <;> cases kb:befB q b
  ·simp
  ·have:=m kb;rw [ka] at this;cases this
  ·simp
  ·simp
 ·have h0:befB b a=false:=by simpa using h
  by_cases h2:befB a b=true
  ·rw [first_eq,last_eq,if_neg h,if_pos h2]
   have m:=fun k=>bef_lt ha hb hq h2 (q:=q) k
   cases ka:befB q a <;> cases kb:befB q b
   ·simp
   ·simp
   ·have:=m ka;rw [kb] at this;cases this
   ·simp
  ·have h2':befB a b=false:=by simpa using h2
   rw [first_eq,last_eq,if_neg h,if_neg h2,bef_same_r ha hb hq h2' h0]
   cases befB q b <;> simp
end
theorem whereM_eq (q:Pt):∀ (E:List (Pt×Pt)) (n:Int),n=0\/n=1->E.any (fun e=>hasM e.1 e.2 q)=false->whereM q n E=if (parB (fun a b=>overM a b q) E ^^ decide (n=1))=true then 1 else 0
 | [],n,hn,_=>by rcases hn with rfl | rfl <;> rfl
 | e::E,n,hn,h=>by
  simp only [List.any_cons,Bool.or_eq_false_iff] at h
  have ew:whereM q n (e::E)=if hasM e.1 e.2 q=true then 2 else whereM q (if overM e.1 e.2 q=true then otherM n else n) E:=rfl
  have ep:parB (fun a b=>overM a b q) (e::E)=(overM e.1 e.2 q ^^ parB (fun a b=>overM a b q) E):=rfl
  rw [ew,ep,if_neg (by rw [h.1];decide)]
  by_cases ho:overM e.1 e.2 q=true
  case neg=>
   have ho':overM e.1 e.2 q=false:=by simpa using ho
   rw [if_neg ho,ho',whereM_eq q E n hn h.2,Bool.false_xor]
  case pos=>
   rw [if_pos ho,ho,whereM_eq q E (otherM n) (by rcases hn with rfl | rfl <;> simp [otherM]) h.2,Bool.true_xor]
   rcases hn with rfl | rfl
   ·have:otherM 0=1:=rfl
    rw [this];cases parB (fun a b=>overM a b q) E <;> rfl
   ·have:otherM 1=0:=rfl
    rw [this];cases parB (fun a b=>overM a b q) E <;> rfl
theorem whereM_two (q:Pt):∀ (E:List (Pt×Pt)) (n:Int),E.any (fun e=>hasM e.1 e.2 q)=true->whereM q n E=2
 | [],n,h=>by simp at h
 | e::E,n,h=>by
  simp only [whereM]
  split
  ·rfl
  ·rename_i k
   exact whereM_two q E _ (by simpa [k] using h)
theorem pigeon:∀ (L:List (Nat->Bool)) (S:List Nat),S.Nodup->(∀ b∈L,∀ i j,b i=true->b j=true->i=j)->L.length<S.length->∃ k∈S,∀ b∈L,b k=false
 | [],S,_,_,h=>by
  cases S with
  | nil=>simp at h
  | cons k S=>exact ⟨k,List.mem_cons_self ..,fun b hb=>by cases hb⟩
 | b::L,S,hS,hb,h=>by
  have hc:S.countP b<=1:=by
   clear h
   induction S with
   | nil=>simp
   | cons x S ih=>
    rw [List.countP_cons]
    have hx:=List.nodup_cons.1 hS
    cases hbx:b x
    ·simpa using ih hx.2
    ·have z:S.countP b=0:=by
      rw [List.countP_eq_zero]
      intro y hy k
      have:=hb b (List.mem_cons_self ..) x y hbx k
      subst this
      exact hx.1 hy
     simp [z]
  have hl:(S.filter (fun k=>!b k)).length+S.countP b=S.length:=by
   rw [<-List.countP_eq_length_filter,Nat.add_comm]
   have:=List.length_eq_countP_add_countP b (l:=S)
   simp only [Bool.not_eq_true] at this
   have e:S.countP (fun k=>!b k)=S.countP (fun a=>decide (b a=false)):=by
    congr 1;funext k;cases b k <;> rfl
   rw [e];omega
  obtain ⟨k,hk,hf⟩:=pigeon L (S.filter (fun k=>!b k)) (hS.filter _) (fun c hc=>hb c (List.mem_cons_of_mem _ hc)) (by simp only [List.length_cons] at h;omega)
  obtain ⟨hk1,hk2⟩:=List.mem_filter.1 hk
  refine ⟨k,hk1,fun c hc=>?_⟩
  rcases List.mem_cons.1 hc with rfl | hc
  ·simpa using hk2
  ·exact hf c hc
theorem farL_free (f:Nat->Bool):∀ n k,(∃ j,k<=j/\j<k+n/\f j=true)->∃ j,f j=true/\farL f n k=outP j
 | 0,k,⟨j,h1,h2,_⟩=>by omega
 | n+1,k,⟨j,h1,h2,h3⟩=>by
  unfold farL
  cases hk:f k
  ·rw [if_neg (by decide)]
   have:j≠k:=fun e=>by rw [e,hk] at h3;cases h3
   exact farL_free f n (k+1) ⟨j,by omega,by omega,h3⟩
  ·exact ⟨k,hk,rfl⟩
theorem out_xv {q:Pt}(k:Nat)(h:goodB q=true):0<xv (outP k) q/\xv q (outP k)<0:=by
 have:=of_decide_eq_true h
 unfold xv outP;simp only [Int.mul_one];constructor <;> omega
theorem det_out (k:Nat)(q v:Pt):detM (outP k) q v=detM (outP 0) q v+k*xv q v:=by
 unfold detM outP xv;simp only [Int.natCast_zero];grind
theorem bar_one {q v:Pt}(hq:goodB q=true)(hv:0<v.d)(hne : ¬ (xv q v=0/\yv q v=0))(i j:Nat)(h1:detM (outP i) q v=0)(h2:detM (outP j) q v=0):i=j:=by
 have hd:0<q.d:=by have:=of_decide_eq_true hq;omega
 by_cases hx:xv q v=0
 ·exfalso
  have e:=id5 (outP i) q v
  rw [h1,hx,Int.mul_zero,Int.mul_zero,Int.zero_sub] at e
  have o:=(out_xv i hq).2
  have z:xv q (outP i)*yv q v=0:=by omega
  rcases Int.mul_eq_zero.1 z with c | c
  ·omega
  ·exact hne ⟨hx,c⟩
 ·rw [det_out] at h1 h2
  have z:((i:Int)-j)*xv q v=0:=by rw [Int.sub_mul];omega
  rcases Int.mul_eq_zero.1 z with c | c
  ·omega
  ·exact absurd c hx
theorem bar_edge {p r:Pt}(hx:xv p r≠0)(i j:Nat)(h1:detM p r (outP i)=0)(h2:detM p r (outP j)=0):i=j:=by
 have e:∀ k:Nat,detM p r (outP k)=detM p r (outP 0)+k*xv p r:=fun k=>by
  unfold detM outP xv;simp only [Int.natCast_zero];grind
 rw [e] at h1 h2
 have z:((i:Int)-j)*xv p r=0:=by rw [Int.sub_mul];omega
 rcases Int.mul_eq_zero.1 z with c | c
 ·omega
 ·exact absurd c hx
theorem far_free {q:Pt}{l:List Pt}{p r:Pt}(hq:goodB q=true)(hv:∀ v∈l,0<v.d)(hne:∀ v∈l,¬ (xv q v=0/\yv q v=0))(hx:xv p r≠0) :
  ∃ k,farM q l p r=outP k/\(∀ v∈l,detM (outP k) q v≠0)/\detM p r (outP k)≠0:=by
 obtain ⟨k,hk,hf⟩:=pigeon ((fun k=>decide (detM p r (outP k)=0))::l.map (fun v k=>decide (detM (outP k) q v=0))) (List.range (l.length+2)) List.nodup_range (by
  intro b hb i j h1 h2
  rcases List.mem_cons.1 hb with rfl | hb
  ·exact bar_edge hx i j (of_decide_eq_true h1) (of_decide_eq_true h2)
  ·obtain ⟨v,hv',rfl⟩:=List.mem_map.1 hb
   exact bar_one hq (hv v hv') (hne v hv') i j (of_decide_eq_true h1) (of_decide_eq_true h2)) (by simp)
 have hk':k<l.length+2:=by simpa using hk
 have fr:freeB q l p r k=true:=by
  unfold freeB
  rw [Bool.and_eq_true,List.all_eq_true]
  refine ⟨fun v hv'=>?_,?_⟩
  ·have:=hf _ (List.mem_cons_of_mem _ (List.mem_map.2 ⟨v,hv',rfl⟩))
   exact decide_eq_true (of_decide_eq_false this)
  ·have:=hf _ (List.mem_cons_self ..)
   exact decide_eq_true (of_decide_eq_false this)
 obtain ⟨j,hj,e⟩:=farL_free (freeB q l p r) (l.length+2) 0 ⟨k,Nat.zero_le _,by omega,fr⟩
 refine ⟨j,e,?_⟩
 unfold freeB at hj
 rw [Bool.and_eq_true,List.all_eq_true] at hj
 exact ⟨fun v hv'=>of_decide_eq_true (hj.1 v hv'),of_decide_eq_true hj.2⟩
theorem on_first {q a b:Pt}(ha:0<a.d)(hb:0<b.d)(hq:0<q.d)(h1:xv q a=0)(h2:yv q a=0):onB q a b=true:=by
 have b1:befB q a=false:=by rw [bef_x];omega
 have b2:befB a q=false:=by rw [bef_x'];omega
 have z:detM a b q=0:=by
  have e:=id4 q a b
  rw [h1,h2,Int.zero_mul,Int.mul_zero,Int.sub_zero] at e
  rcases Int.mul_eq_zero.1 e with c | c
  ·omega
  ·exact c
 unfold onB
 rw [z]
 cases k:befB q b
 · -- q is not ahead of b: it lies between b and a
  rw [with_ba hq ha hb k b2];rfl
 ·have b3:befB b q=false:=bef_asym k
  rw [with_ab hq ha hb b1 b3];rfl
end Go.Proofs.YtnkcbephceollabGreat
namespace Go.Proofs.YtnkcbephceollabGreat
set_option linter.unusedVariables false
set_option linter.unusedSimpArgs false
set_option linter.unusedSectionVars false
def pastP (T:Int)(o m:Pt):Pt:=⟨T*m.x-o.x,T*m.y-o.y,T*m.d-o.d⟩
theorem past_det (T:Int)(o m a b:Pt):detM a b (pastP T o m)=T*detM a b m-detM a b o:=by unfold detM pastP;grind
theorem past_way (T:Int)(o m v:Pt):detM o (pastP T o m) v=T*detM o m v:=by unfold detM pastP;grind
theorem past_yv (T:Int)(o m v:Pt):yv (pastP T o m) v=T*yv m v-yv o v:=by unfold yv pastP;grind
theorem sh_past (K T:Int)(o m:Pt):shP K (pastP T o m)=pastP T (shP K o) (shP K m):=by
 unfold shP pastP;simp only [Pt.mk.injEq,true_and,and_true];grind
theorem plk (o m a b:Pt):yv a b*detM o m a=detM a b m*yv a o-detM a b o*yv a m:=by unfold yv detM;grind
theorem plk2 {p q a b:Pt}(o:Pt)(h1:detM p q a=0)(h2:detM p q b=0):yv p q*detM a b o=yv a b*detM p q o:=by
 have:yv p q*detM a b o-yv a b*detM p q o=detM p q a*yv b o-detM p q b*yv a o:=by unfold yv detM;grind
 rw [h1,h2] at this
 omega
theorem big_sg {T x y:Int}(h1 : -T<y)(h2:y<T)(hx:x≠0):(T*x-y<0↔x<0)/\(0<T*x-y↔0<x):=by
 have hT:0<T:=by omega
 rcases Int.lt_or_gt_of_ne hx with c | c
 ·have e:T*(x+1)<=0:=mul_gl (Int.le_of_lt hT) (by omega)
  have e2:T*(x+1)=T*x+T:=by grind
  omega
 ·have e:0<=T*(x-1):=mul_gg (Int.le_of_lt hT) (by omega)
  have e2:T*(x-1)=T*x-T:=by grind
  omega
def thrB (o m a b:Pt):Bool:=onB m a b && ((befB a b && decide (0<detM a b o)) || (befB b a && decide (detM a b o<0)))
section
variable {o m a b:Pt}{K T:Int}(ho:0<o.d)(hm:0<m.d)(ha:0<a.d)(hb:0<b.d)
 (ka : -K<yv m a/\yv m a<K) (kb : -K<yv m b/\yv m b<K) (kab : -K<yv a b/\yv a b<K)
 (hA:detM o m a≠0) (hB:detM o m b≠0) (hne:befB a b=true\/befB b a=true)
include ho hm ha hb ka kb kab hA hB hne
theorem on_apart (h0:detM a b m=0):onB m a b=apartB (detM o m a) (detM o m b):=by
 cases hon:onB m a b
 ·cases hap:apartB (detM o m a) (detM o m b)
  ·rfl
  ·exfalso
   refine nz_cross (o:=o) hm ha hb hon ?_ h0
   unfold apartB at hap
   simp only [Bool.or_eq_true,Bool.and_eq_true,decide_eq_true_eq] at hap
   exact hap
 · -- m lies between a and b
  have I:=id1 (shP K o) (shP K m) (shP K a) (shP K b)
  rw [sh_det,sh_det,sh_det,h0,Int.mul_zero] at I
  have ua:=sh_up ka.1 ka.2
  have ub:=sh_up kb.1 kb.2
  have upd:∀ u v,upB false u v=decide (0<yv u v):=fun u v=>by unfold upB;simp
  rw [upd] at ua ub
  have hd:yv (shP K a) (shP K b)≠0:=by
   intro e
   have sw:∀ u v,yv u v = -yv v u:=fun u v=>by unfold yv;grind
   have e':=sw (shP K a) (shP K b)
   have w1:=sh_up kab.1 kab.2
   have w2:=sh_up (K:=K) (q:=b) (v:=a) (by have:=sw b a;omega) (by have:=sw b a;omega)
   rw [upd] at w1 w2
   rcases hne with h | h
   ·rw [h] at w1;have:=of_decide_eq_true w1;omega
   ·rw [h] at w2;have:=of_decide_eq_true w2;omega
  have J:(shP K m).d*yv (shP K a) (shP K b)=(shP K a).d*yv (shP K m) (shP K b)-(shP K b).d*yv (shP K m) (shP K a):=by unfold yv;grind
  have hw:withB m a b=true:=by unfold onB at hon;simp at hon;exact hon.2
  have lt:(yv (shP K m) (shP K a)<=0/\0<=yv (shP K m) (shP K b))\/(0<=yv (shP K m) (shP K a)/\yv (shP K m) (shP K b)<=0):=by
   unfold withB loM hiM at hw
   have sw:∀ u v,yv u v = -yv v u:=fun u v=>by unfold yv;grind
   have va:=sh_up (K:=K) (q:=a) (v:=m) (by have:=sw a m;omega) (by have:=sw a m;omega)
   have vb:=sh_up (K:=K) (q:=b) (v:=m) (by have:=sw b m;omega) (by have:=sw b m;omega)
   rw [upd,sw (shP K a)] at va
   rw [upd,sw (shP K b)] at vb
   by_cases c:befB b a=true
   ·simp only [if_pos c,Bool.and_eq_true,Bool.not_eq_true'] at hw
    rw [hw.1] at ub;rw [hw.2] at va
    have:=of_decide_eq_false ub;have:=of_decide_eq_false va
    omega
   ·simp only [if_neg c,Bool.and_eq_true,Bool.not_eq_true'] at hw
    rw [hw.1] at ua;rw [hw.2] at vb
    have:=of_decide_eq_false ua;have:=of_decide_eq_false vb
    omega
  generalize yv (shP K m) (shP K a)=am at *
  generalize yv (shP K m) (shP K b)=bm at *
  generalize detM o m a=A at *
  generalize detM o m b=B at *
  have z1:am≠0:=fun e=>by
   rw [e,Int.mul_zero,Int.sub_zero] at I
   rcases Int.mul_eq_zero.1 I.symm with c | c
   ·exact hA c
   ·rw [e,c,Int.mul_zero,Int.mul_zero,Int.sub_zero] at J
    rcases Int.mul_eq_zero.1 J with c | c
    ·have:(shP K m).d=m.d:=rfl
     omega
    ·exact hd c
  have z2:bm≠0:=fun e=>by
   rw [e,Int.mul_zero,Int.zero_sub] at I
   have I':B*am=0:=by omega
   rcases Int.mul_eq_zero.1 I' with c | c
   ·exact hB c
   ·exact z1 c
  symm
  unfold apartB
  simp only [Bool.or_eq_true,Bool.and_eq_true,decide_eq_true_eq]
  have I':A*bm=B*am:=by omega
  rcases lt with ⟨l1,l2⟩ | ⟨l1,l2⟩
  ·have l1':am<0:=by omega
   have l2':0<bm:=by omega
   rcases Int.lt_or_gt_of_ne hA with c | c <;> rcases Int.lt_or_gt_of_ne hB with d | d
   ·have:=mul_np c l2';have:=mul_nn d l1';omega
   ·omega
   ·omega
   ·have:=mul_pp c l2';have:=mul_pn d l1';omega
  ·have l1':0<am:=by omega
   have l2':bm<0:=by omega
   rcases Int.lt_or_gt_of_ne hA with c | c <;> rcases Int.lt_or_gt_of_ne hB with d | d
   ·have:=mul_nn c l2';have:=mul_np d l1';omega
   ·omega
   ·omega
   ·have:=mul_pn c l2';have:=mul_pp d l1';omega
theorem om_nz (h0:detM a b m=0):detM a b o≠0:=by
 intro e
 have pl:=plk (shP K o) (shP K m) (shP K a) (shP K b)
 rw [sh_det,sh_det,sh_det,h0,e,Int.zero_mul,Int.zero_mul,Int.sub_zero] at pl
 rcases Int.mul_eq_zero.1 pl with c | c
 ·have upd:∀ u v,upB false u v=decide (0<yv u v):=fun u v=>by unfold upB;simp
  have sw:∀ u v,yv u v = -yv v u:=fun u v=>by unfold yv;grind
  have e':=sw (shP K a) (shP K b)
  have w1:=sh_up kab.1 kab.2
  have w2:=sh_up (K:=K) (q:=b) (v:=a) (by have:=sw b a;omega) (by have:=sw b a;omega)
  rw [upd] at w1 w2
  rcases hne with h | h
  ·rw [h] at w1;have:=of_decide_eq_true w1;omega
  ·rw [h] at w2;have:=of_decide_eq_true w2;omega
 ·exact hA c
theorem past_nz (t1 : -T<detM a b o/\detM a b o<T):detM a b (pastP T o m)≠0:=by
 rw [past_det]
 by_cases h0:detM a b m=0
 ·have:=om_nz ho hm ha hb ka kb kab hA hB hne h0
  rw [h0,Int.mul_zero];omega
 ·have:=big_sg t1.1 t1.2 h0
  omega
theorem past_cross (t1 : -T<detM a b o/\detM a b o<T):crossB o (pastP T o m) a b=(crossB o m a b ^^ onB m a b):=by
 have hT:0<T:=by omega
 have sc:∀ x:Int,(T*x<0↔x<0)/\(0<T*x↔0<x):=fun x=>by
  rcases Int.lt_trichotomy x 0 with c | c | c
  ·have:=mul_pn hT c;omega
  ·subst c;rw [Int.mul_zero];omega
  ·have:=mul_pp hT c;omega
 unfold crossB
 rw [past_way,past_way,past_det]
 have e1:apartB (T*detM o m a) (T*detM o m b)=apartB (detM o m a) (detM o m b):=by
  unfold apartB;simp only [(sc _).1,(sc _).2]
 rw [e1]
 by_cases h0:detM a b m=0
 ·rw [on_apart ho hm ha hb ka kb kab hA hB hne h0]
  have nz:=om_nz ho hm ha hb ka kb kab hA hB hne h0
  rw [h0,Int.mul_zero]
  have e2:apartB (detM a b o) (0-detM a b o)=true:=by unfold apartB;simp;omega
  have e3:apartB (detM a b o) 0=false:=by unfold apartB;simp
  rw [e2,e3];cases apartB (detM o m a) (detM o m b) <;> rfl
 ·have e2:apartB (detM a b o) (T*detM a b m-detM a b o)=apartB (detM a b o) (detM a b m):=by
   unfold apartB;simp only [(big_sg t1.1 t1.2 h0).1,(big_sg t1.1 t1.2 h0).2]
  have e3:onB m a b=false:=by unfold onB;simp [h0]
  rw [e2,e3];simp
theorem past_left (t1 : -T<detM a b o/\detM a b o<T)(ta:0<yv (shP K o) (shP K a)/\yv (shP K o) (shP K a)<T)(tb:0<yv (shP K o) (shP K b)/\yv (shP K o) (shP K b)<T) :
  leftB false (shP K (pastP T o m)) (shP K a) (shP K b)=(overB m a b ^^ thrB o m a b):=by
 have upd:∀ u v,upB false u v=decide (0<yv u v):=fun u v=>by unfold upB;simp
 have upx:∀ v,-K<yv m v/\yv m v<K->0<yv (shP K o) (shP K v)/\yv (shP K o) (shP K v)<T->upB false (shP K (pastP T o m)) (shP K v)=befB m v:=fun v kv tv=>by
  have u:=sh_up kv.1 kv.2
  rw [upd] at u ⊢
  rw [<-u,sh_past,past_yv]
  refine decide_eq_decide.2 ?_
  by_cases z:yv (shP K m) (shP K v)=0
  ·rw [z,Int.mul_zero];omega
  ·exact (big_sg (by omega) tv.2 z).2
 unfold leftB
 rw [upx a ka ta,upx b kb tb,sh_det,past_det]
 unfold overB thrB
 by_cases h0:detM a b m=0
 ·rw [h0,Int.mul_zero]
  have d1:decide ((0:Int)<0)=false:=rfl
  rw [d1]
  have up:=nz_up (q:=m) (a:=shP K a) (b:=shP K b)
  cases ua:befB m a <;> cases ub:befB m b
  · -- both not behind m
   have:onB m a b=false\/onB m a b=true:=by cases onB m a b <;> simp
   rcases this with h | h
   ·rw [h];simp
   · -- then one of them is m
    exfalso
    have ap:=on_apart ho hm ha hb ka kb kab hA hB hne h0
    rw [h] at ap
    have I:=id1 (shP K o) (shP K m) (shP K a) (shP K b)
    rw [sh_det,sh_det,sh_det,h0,Int.mul_zero] at I
    have va:=sh_up ka.1 ka.2
    have vb:=sh_up kb.1 kb.2
    rw [upd,ua] at va
    rw [upd,ub] at vb
    have xa:=of_decide_eq_false va
    have xb:=of_decide_eq_false vb
    have ap':=ap.symm
    unfold apartB at ap'
    simp only [Bool.or_eq_true,Bool.and_eq_true,decide_eq_true_eq] at ap'
    have J:(shP K m).d*yv (shP K a) (shP K b)=(shP K a).d*yv (shP K m) (shP K b)-(shP K b).d*yv (shP K m) (shP K a):=by unfold yv;grind
    generalize yv (shP K m) (shP K a)=am at *
    generalize yv (shP K m) (shP K b)=bm at *
    have both:am=0/\bm=0:=by
     rcases ap' with ⟨p1,p2⟩ | ⟨p1,p2⟩
     ·have m1:=mul_ll (Int.le_of_lt p1) (show bm<=0 by omega)
      have m2:=mul_gl (Int.le_of_lt p2) (show am<=0 by omega)
      refine ⟨?_,?_⟩
      ·rcases Int.mul_eq_zero.1 (show detM o m b*am=0 by omega) with c | c <;> omega
      ·rcases Int.mul_eq_zero.1 (show detM o m a*bm=0 by omega) with c | c <;> omega
     ·have m1:=mul_gl (Int.le_of_lt p1) (show bm<=0 by omega)
      have m2:=mul_ll (Int.le_of_lt p2) (show am<=0 by omega)
      refine ⟨?_,?_⟩
      ·rcases Int.mul_eq_zero.1 (show detM o m b*am=0 by omega) with c | c <;> omega
      ·rcases Int.mul_eq_zero.1 (show detM o m a*bm=0 by omega) with c | c <;> omega
    rw [both.1,both.2,Int.mul_zero,Int.mul_zero,Int.sub_zero] at J
    rcases Int.mul_eq_zero.1 J with c | c
    ·have:(shP K m).d=m.d:=rfl
     omega
    ·have sw:∀ u v,yv u v = -yv v u:=fun u v=>by unfold yv;grind
     have e':=sw (shP K a) (shP K b)
     have w1:=sh_up kab.1 kab.2
     have w2:=sh_up (K:=K) (q:=b) (v:=a) (by have:=sw b a;omega) (by have:=sw b a;omega)
     rw [upd] at w1 w2
     rcases hne with h | h
     ·rw [h] at w1;have:=of_decide_eq_true w1;omega
     ·rw [h] at w2;have:=of_decide_eq_true w2;omega
  ·have hab:befB a b=true:=le_bef ha hm hb ua ub
   have hba:=bef_asym hab
   have hon:onB m a b=true:=by
    cases h:onB m a b
    ·exfalso
     have:=with_ab hm ha hb ua (bef_asym ub)
     unfold onB at h;rw [h0,this] at h;simp at h
    ·rfl
   rw [hab,hba,hon]
   have e:decide (0-detM a b o<0)=decide (0<detM a b o):=decide_eq_decide.2 (by omega)
   rw [e];simp
  ·have hba:befB b a=true:=le_bef hb hm ha ub ua
   have hab:=bef_asym hba
   have hon:onB m a b=true:=by
    cases h:onB m a b
    ·exfalso
     have:=with_ba hm ha hb ub (bef_asym ua)
     unfold onB at h;rw [h0,this] at h;simp at h
    ·rfl
   rw [hab,hba,hon]
   have e:decide (0<0-detM a b o)=decide (detM a b o<0):=decide_eq_decide.2 (by omega)
   rw [e];simp
  ·have:onB m a b=false:=by
    cases h:onB m a b
    ·rfl
    ·exfalso
     have hw:withB m a b=true:=by unfold onB at h;simp at h;exact h.2
     unfold withB loM hiM at hw
     by_cases c:befB b a=true
     ·simp [if_pos c,ub] at hw
     ·simp [if_neg c,ua] at hw
   rw [this];simp
 ·have e3:onB m a b=false:=by unfold onB;simp [h0]
  rw [e3]
  have g:=big_sg t1.1 t1.2 h0
  have g1:decide (T*detM a b m-detM a b o<0)=decide (detM a b m<0):=decide_eq_decide.2 g.1
  have g2:decide (0<T*detM a b m-detM a b o)=decide (0<detM a b m):=decide_eq_decide.2 g.2
  rw [g1,g2]
  simp
end
end Go.Proofs.YtnkcbephceollabGreat
