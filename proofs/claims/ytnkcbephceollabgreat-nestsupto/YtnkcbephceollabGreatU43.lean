import Derived.Test.YtnkcbephceollabGreatU42
namespace Go.Proofs.YtnkcbephceollabGreat
set_option linter.unusedSimpArgs false
set_option linter.unusedVariables false
def ovB (e f:Pt×Pt):Bool:=
 decide (detM e.1 e.2 f.1=0) && (decide (detM e.1 e.2 f.2=0) && (befB (if befB e.2 e.1=true then e.2 else e.1) (if befB f.2 f.1=true then f.1 else f.2) && befB (if befB f.2 f.1=true then f.2 else f.1) (if befB e.2 e.1=true then e.1 else e.2)))
section
variable {A B:List (List Pt)}(sA:Sound A)(sB:Sound B)(op:Int)
include sA sB
end
theorem ringEdges_at {r:List Pt}{j:Nat}(h:j<r.length):(ringEdges r).getD j (zP,zP)=(r.getD j zP,r.getD ((j+1) % r.length) zP):=by
 unfold ringEdges
 rw [List.getD_eq_getElem?_getD,List.getElem?_map,List.getElem?_range h]
 show edgeAt r j=_
 unfold edgeAt
 by_cases e:j+1=r.length
 ·rw [if_pos e,e,Nat.mod_self]
 ·rw [if_neg e,Nat.mod_eq_of_lt (by omega)]
theorem edge_run2 {s:Nat->Pt}{m:Nat}(per:∀ b,s (b+m)=s b){j:Nat}(h:j<(posN s m).length):∃ b,(posN s m).getD j 0+1<=b/\Run s ((posN s m).getD j 0+1) b/\s (b+1)=(turnP s m).getD ((j+1) % (posN s m).length) zP/\(j+1<(posN s m).length->b=(posN s m).getD (j+1) 0)/\(j+1=(posN s m).length->b=(posN s m).getD 0 0+m):=by
 obtain ⟨b,h1,h2,h3,h4⟩:=edge_run per h
 have so:=pos_sorted s m
 have hn:(j+1) % (posN s m).length<(posN s m).length:=Nat.mod_lt _ (by omega)
 refine ⟨b,h1,h2,?_,fun x=>?_,fun x=>?_⟩
 ·rw [turn_at hn]
  rcases h3 with e | e
  ·rw [e]
  ·rw [e,show (posN s m).getD ((j+1) % (posN s m).length) 0+m+1=((posN s m).getD ((j+1) % (posN s m).length) 0+1)+m by omega,per]
 ·rw [Nat.mod_eq_of_lt x] at h3
  have:=sorted_at so x (show j<j+1 by omega)
  omega
 ·rw [x,Nat.mod_self] at h3
  have:(posN s m).getD 0 0<=(posN s m).getD j 0:=by
   rcases Nat.eq_zero_or_pos j with z | z
   ·rw [z];exact Nat.le_refl _
   ·exact Nat.le_of_lt (sorted_at so h z)
  omega
section
variable {A B:List (List Pt)}(sA:Sound A)(sB:Sound B)(op:Int)
include sA sB
end
def Dj (e f:Pt×Pt):Prop:=ovB e f=false/\ovB f e=false
theorem Dj.sym {e f:Pt×Pt}(h:Dj e f):Dj f e:=⟨h.2,h.1⟩
theorem re_len (r:List Pt):(ringEdges r).length=r.length:=by unfold ringEdges;simp
theorem at_getD {l:List (Pt×Pt)}{i:Nat}(h:i<l.length):l.getD i (zP,zP)=l[i]:=by
 rw [List.getD_eq_getElem?_getD,List.getElem?_eq_getElem h];rfl
theorem ringEdges_rot {P:List Pt}{i:Nat}(hi:i<P.length):ringEdges (rotL P i)=(ringEdges P).drop i ++ (ringEdges P).take i:=by
 have hl:=rot_full (P:=P) (i:=i) (by omega)
 have np:0<P.length:=by omega
 apply List.ext_getElem
 ·rw [re_len,hl,List.length_append,List.length_drop,List.length_take,re_len];omega
 ·intro j h1 h2
  rw [re_len,hl] at h1
  rw [<-at_getD,ringEdges_at (by rw [hl];exact h1),hl,rot_at hi h1,rot_at hi (Nat.mod_lt _ np),mod_shift np]
  have q:(i+j) % P.length<P.length:=Nat.mod_lt _ np
  have e2:((i+j) % P.length+1) % P.length=(i+(j+1)) % P.length:=by
   rw [<-Nat.add_assoc,Nat.add_mod,Nat.mod_mod,<-Nat.add_mod]
  have e3:=ringEdges_at q
  rw [e2] at e3
  rw [<-e3]
  by_cases c:i+j<P.length
  ·rw [List.getElem_append_left (by rw [List.length_drop,re_len];omega),List.getElem_drop,at_getD (by rw [re_len];exact q)]
   congr 1
   exact Nat.mod_eq_of_lt c
  ·rw [List.getElem_append_right (by rw [List.length_drop,re_len];omega),List.getElem_take,at_getD (by rw [re_len];exact q)]
   congr 1
   rw [List.length_drop,re_len,show i+j=(i+j-P.length)+P.length by omega,Nat.add_mod_right,Nat.mod_eq_of_lt (by omega)]
   omega
theorem ringEdges_least {P:List Pt}(h:0<P.length):(ringEdges (leastL P P.length)).Perm (ringEdges P):=by
 obtain ⟨i,hi,e⟩:=least_is (P:=P) P.length (by omega)
 rw [e,ringEdges_rot hi]
 have:=List.take_append_drop i (ringEdges P)
 conv=>rhs;rw [<-this]
 exact List.perm_append_comm
section
variable {A B:List (List Pt)}(sA:Sound A)(sB:Sound B)(op:Int)
include sA sB
theorem ring_edges {z:Nat×Nat}(hz:Rd (bordM op (piecesM A B)) z):(ringEdges (ringAtL (bordM op (piecesM A B)) z)).Perm (ringEdges (turnP (wayS (bordM op (piecesM A B)) z.1) z.2)):=by
 have ne:=ring_turns sA sB op hz.lt hz.one hz.per
 unfold ringAtL
 have e:=pts_turnP sA sB op hz.lt z.2
 rw [e] at ne ⊢
 exact ringEdges_least (List.length_pos_iff.2 ne)
end
def cmb (D P:Int)(p q:Pt):Pt:=⟨D*p.x+P*q.x,D*p.y+P*q.y,D*p.d+P*q.d⟩
theorem cmb_det (D P:Int)(a b p q:Pt):detM a b (cmb D P p q)=D*detM a b p+P*detM a b q:=by unfold detM cmb;grind
theorem cmb_yv (D P:Int)(p q v:Pt):yv (cmb D P p q) v=D*yv p v+P*yv q v:=by unfold yv cmb;grind
theorem sh_cmb (K D P:Int)(p q:Pt):shP K (cmb D P p q)=cmb D P (shP K p) (shP K q):=by
 unfold shP cmb;simp only [Pt.mk.injEq,true_and,and_true];grind
theorem cmb_pos {D P:Int}{p q:Pt}(hD:0<D)(hP:0<P)(hp:0<p.d)(hq:0<q.d):0<(cmb D P p q).d:=by
 have:=mul_pp hD hp
 have:=mul_pp hP hq
 show 0<D*p.d+P*q.d
 omega
theorem bef_cmb {D P:Int}{p q:Pt}(hD:0<D)(hP:0<P)(h:befB p q=true):befB p (cmb D P p q)=true/\befB (cmb D P p q) q=true:=by
 have z1:xv p (cmb D P p q)=P*xv p q:=by unfold xv cmb;grind
 have z2:yv p (cmb D P p q)=P*yv p q:=by unfold yv cmb;grind
 have z3:xv (cmb D P p q) q=D*xv p q:=by unfold xv cmb;grind
 have z4:yv (cmb D P p q) q=D*yv p q:=by unfold yv cmb;grind
 have key:∀ u v:Pt,befB u v=true↔(0<xv u v\/(xv u v=0/\0<yv u v)):=fun u v=>by rw [bef_iff];unfold xv yv;omega
 rw [key] at h
 rw [key,key,z1,z2,z3,z4]
 rcases h with h | ⟨h1,h2⟩
 ·exact ⟨.inl (mul_pp hP h),.inl (mul_pp hD h)⟩
 ·rw [h1,Int.mul_zero,Int.mul_zero]
  exact ⟨.inr ⟨rfl,mul_pp hP h2⟩,.inr ⟨rfl,mul_pp hD h2⟩⟩
def gBc (D P:Int)(p q v:Pt):Bool:=befB p v && !befB (cmb D P p q) v && decide (0<detM p q v)
theorem strip_c {D P:Int}(hD:0<D)(hP:0<P){p q a b:Pt}(hp:0<p.d)(hq:0<q.d)(ha:0<a.d)(hb:0<b.d)(hpq:befB p q=true)
  (fa:befB p a=true->befB a q=true->detM p q a≠0) (fb:befB p b=true->befB b q=true->detM p q b≠0) (hx:crossB p q a b=false) :
  (ovL p q a b ^^ overB (cmb D P p q) a b)=(gBc D P p q a ^^ gBc D P p q b):=by
 obtain ⟨K,k1,k2,k3,k4,k5,k6,k7⟩:=bnd7 (yv p a) (yv p b) (yv p q) (yv q a) (yv q b) (yv (cmb D P p q) a) (yv (cmb D P p q) b)
 have sw:∀ u v,yv u v = -yv v u:=fun u v=>by unfold yv;grind
 have u1:=sh_up k1.1 k1.2
 have u2:=sh_up k2.1 k2.2
 have u3:=sh_up k3.1 k3.2
 have u4:upB false (shP K a) (shP K q)=befB a q:=sh_up (by have:=sw a q;omega) (by have:=sw a q;omega)
 have u5:upB false (shP K b) (shP K q)=befB b q:=sh_up (by have:=sw b q;omega) (by have:=sw b q;omega)
 have u6:=sh_up k6.1 k6.2
 have u7:=sh_up k7.1 k7.2
 have upd:∀ u v,upB false u v=decide (0<yv u v):=fun u v=>by unfold upB;simp
 rw [upd] at u1 u2 u3 u4 u5 u6 u7
 have ep:(shP K p).d=p.d:=rfl
 have eq:(shP K q).d=q.d:=rfl
 have ea:(shP K a).d=a.d:=rfl
 have eb:(shP K b).d=b.d:=rfl
 have I1:=id1 (shP K q) (shP K p) (shP K a) (shP K b)
 have I2:=id2 (shP K q) (shP K p) (shP K a) (shP K b)
 rw [sh_det,sh_det,sh_det,det_sw p q a,det_sw p q b] at I1 I2
 have J1:(shP K p).d*yv (shP K q) (shP K a)=(shP K q).d*yv (shP K p) (shP K a)-(shP K a).d*yv (shP K p) (shP K q):=by unfold yv;grind
 have J2:(shP K p).d*yv (shP K q) (shP K b)=(shP K q).d*yv (shP K p) (shP K b)-(shP K b).d*yv (shP K p) (shP K q):=by unfold yv;grind
 have M1:=cmb_yv D P (shP K p) (shP K q) (shP K a)
 have M2:=cmb_yv D P (shP K p) (shP K q) (shP K b)
 rw [<-sh_cmb] at M1 M2
 have sq1:=sw (shP K a) (shP K q)
 have sq2:=sw (shP K b) (shP K q)
 rw [sq1] at u4
 rw [sq2] at u5
 have mix:=cmb_det D P a b p q
 unfold ovL gBc overB
 have hxx:NoX (detM p q a) (detM p q b) (detM a b p) (detM a b q):=by
  unfold NoX
  intro h
  have:crossB p q a b=true:=by
   unfold crossB apartB
   simp only [Bool.and_eq_true,Bool.or_eq_true,decide_eq_true_eq]
   omega
  rw [hx] at this;cases this
 rw [ep,eq,ea] at J1
 rw [ep,eq,eb] at J2
 have hY:0<yv (shP K p) (shP K q):=by rw [hpq] at u3;exact of_decide_eq_true u3
 rw [<-u1] at fa ⊢
 rw [<-u2] at fb ⊢
 rw [<-u4] at fa
 rw [<-u5] at fb
 rw [<-u6,<-u7]
 generalize detM p q a=A at *
 generalize detM p q b=B at *
 generalize detM a b p=al at *
 generalize detM a b q=be at *
 generalize detM a b (cmb D P p q)=mu at *
 generalize yv (shP K p) (shP K q)=Y at *
 generalize yv (shP K p) (shP K a)=ap at *
 generalize yv (shP K p) (shP K b)=bp at *
 generalize yv (shP K q) (shP K a)=aq at *
 generalize yv (shP K q) (shP K b)=bq at *
 generalize yv (shP K (cmb D P p q)) (shP K a)=am at *
 generalize yv (shP K (cmb D P p q)) (shP K b)=bm at *
 simp only [decide_eq_true_eq] at fa fb
 clear u1 u2 u3 u4 u5 u6 u7 sq1 sq2 k1 k2 k3 k4 k5 k6 k7 upd sw ep eq ea eb hx hpq
 have hal:Y*al=B*ap-A*bp:=by rw [I1];grind
 have hbe:Y*be=B*aq-A*bq:=by rw [I2];grind
 have hmu:Y*mu=B*am-A*bm:=by
  rw [mix,M1,M2]
  have e:Y*(D*al+P*be)=D*(Y*al)+P*(Y*be):=by grind
  rw [e,hal,hbe];grind
 clear I1 I2
 have oa:(ap<=0->am<0)/\(am<=0->aq<0):=by
  have t:=mul_pp ha hY
  refine ⟨fun h=>?_,fun h=>?_⟩
  ·have u1:=mul_gl (Int.le_of_lt hq) h
   have u2:aq<0:=by
    rcases Int.lt_or_le aq 0 with c | c
    ·exact c
    ·have:=mul_gg (Int.le_of_lt hp) c;omega
   have u3:=mul_gl (Int.le_of_lt hD) h
   have u4:=mul_pn hP u2
   omega
  ·rcases Int.lt_or_le aq 0 with c | c
   ·exact c
   ·have u1:=mul_gg (Int.le_of_lt hp) c
    have u2:0<ap:=by
     rcases Int.lt_or_le 0 ap with k | k
     ·exact k
     ·have:=mul_gl (Int.le_of_lt hq) k;omega
    have u3:=mul_pp hD u2
    have u4:=mul_gg (Int.le_of_lt hP) c
    omega
 have ob:(bp<=0->bm<0)/\(bm<=0->bq<0):=by
  have t:=mul_pp hb hY
  refine ⟨fun h=>?_,fun h=>?_⟩
  ·have u1:=mul_gl (Int.le_of_lt hq) h
   have u2:bq<0:=by
    rcases Int.lt_or_le bq 0 with c | c
    ·exact c
    ·have:=mul_gg (Int.le_of_lt hp) c;omega
   have u3:=mul_gl (Int.le_of_lt hD) h
   have u4:=mul_pn hP u2
   omega
  ·rcases Int.lt_or_le bq 0 with c | c
   ·exact c
   ·have u1:=mul_gg (Int.le_of_lt hp) c
    have u2:0<bp:=by
     rcases Int.lt_or_le 0 bp with k | k
     ·exact k
     ·have:=mul_gl (Int.le_of_lt hq) k;omega
    have u3:=mul_pp hD u2
    have u4:=mul_gg (Int.le_of_lt hP) c
    omega
 clear M1 M2 J1 J2
 have hal':Y*(-al)=A*bp-B*ap:=by rw [Int.mul_neg,hal];omega
 have hbe':Y*(-be)=A*bq-B*aq:=by rw [Int.mul_neg,hbe];omega
 have hmu':Y*(-mu)=A*bm-B*am:=by rw [Int.mul_neg,hmu];omega
 have mix' : -mu=D*(-al)+P*(-be):=by rw [mix,Int.mul_neg,Int.mul_neg];omega
 have hxx':NoX B A (-al) (-be):=by unfold NoX at hxx ⊢;omega
 have T:∀ {c:Prop} [Decidable c],c->decide c=true:=fun h=>decide_eq_true h
 have F:∀ {c:Prop} [Decidable c],¬ c->decide c=false:=fun h=>decide_eq_false h
 by_cases a1:0<ap
 ·by_cases a2:0<am
  · -- a above m
   by_cases b1:0<bp
   ·by_cases b2:0<bm
    ·rw [T a1,T a2,T b1,T b2];simp
    · -- b in the strip,a above
     have c:=case12 hY hal' hmu' mix' hD hP hxx' b1 (by omega) a1 a2 (fb b1 (by have:=ob.2 (by omega);omega))
     rw [T a1,T a2,T b1,F b2]
     have e:decide (0<mu)=decide (0<B):=decide_eq_decide.2 (by have:=c.1;omega)
     rw [e];simp
   ·have h2:=ob.1 (by omega)
    have h3:=ob.2 (by omega)
    have c:=case02 hY hal' hbe' hmu' mix' hD hP hxx' (by omega) h2 h3 a1 a2
    rw [T a1,T a2,F b1,F (by omega : ¬ 0<bm)]
    have e:decide (pos2 al be)=decide (0<mu):=decide_eq_decide.2 (by have:=c.1;rw [neg2_neg] at this;rw [this];omega)
    rw [e];simp
  ·have hq1:=oa.2 (by omega)
   have hA:=fa a1 (by omega)
   by_cases b1:0<bp
   ·by_cases b2:0<bm
    ·have c:=case12 hY hal hmu mix hD hP hxx a1 (by omega) b1 b2 hA
     rw [T a1,F a2,T b1,T b2]
     have e:decide (mu<0)=decide (0<A):=decide_eq_decide.2 c.1
     rw [e];simp
    ·have hq2:=ob.2 (by omega)
     have hB:=fb b1 (by omega)
     have c:=case11 hY hal hbe hxx a1 hq1 b1 hq2 hA hB
     rw [T a1,F a2,T b1,F b2]
     have e:decide (0<A)=decide (0<B):=decide_eq_decide.2 c
     rw [e];simp
   ·have h2:=ob.1 (by omega)
    have h3:=ob.2 (by omega)
    have c:=case01 hY hal' hbe' hxx' (by omega) h3 a1 hq1 hA
    rw [T a1,F a2,F b1,F (by omega : ¬ 0<bm)]
    have e:decide (pos2 al be)=decide (0<A):=decide_eq_decide.2 (by have:=c.1;rw [neg2_neg] at this;exact this)
    rw [e];simp
 ·have h2:=oa.1 (by omega)
  have h3:=oa.2 (by omega)
  by_cases b1:0<bp
  ·by_cases b2:0<bm
   ·have c:=case02 hY hal hbe hmu mix hD hP hxx (by omega) h2 h3 b1 b2
    rw [F a1,F (by omega : ¬ 0<am),T b1,T b2]
    have e:decide (neg2 al be)=decide (mu<0):=decide_eq_decide.2 c.1
    rw [e];simp
   ·have hq2:=ob.2 (by omega)
    have hB:=fb b1 (by omega)
    have c:=case01 hY hal hbe hxx (by omega) h3 b1 hq2 hB
    rw [F a1,F (by omega : ¬ 0<am),T b1,F b2]
    have e:decide (neg2 al be)=decide (0<B):=decide_eq_decide.2 c.1
    rw [e];simp
  ·have g2:=ob.1 (by omega)
   rw [F a1,F (by omega : ¬ 0<am),F b1,F (by omega : ¬ 0<bm)];simp
theorem along_c {D P:Int}(hD:0<D)(hP:0<P){Q:List (List Pt)}{p q:Pt}(hp:0<p.d)(hq:0<q.d)(hpq:befB p q=true)(hd:∀ v∈Q.flatten,0<v.d)(hc:Clear Q p q) :
  parB (ovL p q) (edgesM Q)=parB (overB (cmb D P p q)) (edgesM Q):=by
 have h:parB (fun a b=>ovL p q a b ^^ overB (cmb D P p q) a b) (edgesM Q)=parB (fun a b=>gBc D P p q a ^^ gBc D P p q b) (edgesM Q):=parB_congr fun e he=>by
  obtain ⟨m1,m2⟩:=edge_ends he
  exact strip_c hD hP hp hq (hd _ m1) (hd _ m2) hpq (hc.pt _ m1) (hc.pt _ m2) (hc.ed e he)
 rw [poly_even,parB_xor] at h
 revert h
 cases parB (ovL p q) (edgesM Q) <;> cases parB (overB (cmb D P p q)) (edgesM Q) <;> simp
section
variable {D P:Int}(hD:0<D)(hP:0<P){p q a b:Pt}(hp:0<p.d)(hq:0<q.d)(ha:0<a.d)(hb:0<b.d)(hpq:befB p q=true)(hne:befB a b=true\/befB b a=true)
 (fa:befB p a=true->befB a q=true->detM p q a≠0) (fb:befB p b=true->befB b q=true->detM p q b≠0) (hx:crossB p q a b=false)
include hD hP hp hq ha hb hpq hne fa fb hx
theorem along_in (hon:onB (cmb D P p q) a b=true):(detM p q a=0/\detM p q b=0)/\(detM a b p=0/\detM a b q=0)/\((befB p a=false/\befB b q=false)\/(befB p b=false/\befB a q=false)):=by
 have hm:=cmb_pos hD hP hp hq
 obtain ⟨pm,mq⟩:=bef_cmb hD hP hpq
 obtain ⟨K,k1,k2,k3,k4,k5,k6,k7⟩:=bnd7 (yv p a) (yv p b) (yv p q) (yv a b) (yv q b) (yv (cmb D P p q) a) (yv (cmb D P p q) b)
 have sw:∀ u v,yv u v = -yv v u:=fun u v=>by unfold yv;grind
 have upd:∀ u v,upB false u v=decide (0<yv u v):=fun u v=>by unfold upB;simp
 have u3:=sh_up k3.1 k3.2
 have u6:=sh_up k6.1 k6.2
 have u7:=sh_up k7.1 k7.2
 have v6:=sh_up (K:=K) (q:=a) (v:=cmb D P p q) (by have:=sw a (cmb D P p q);omega) (by have:=sw a (cmb D P p q);omega)
 have v7:=sh_up (K:=K) (q:=b) (v:=cmb D P p q) (by have:=sw b (cmb D P p q);omega) (by have:=sw b (cmb D P p q);omega)
 rw [upd] at u3 u6 u7 v6 v7
 rw [sw (shP K a)] at v6
 rw [sw (shP K b)] at v7
 have hY:0<yv (shP K p) (shP K q):=by rw [hpq] at u3;exact of_decide_eq_true u3
 have hd:yv (shP K a) (shP K b)≠0:=by
  intro e
  have e':=sw (shP K a) (shP K b)
  have w1:=sh_up k4.1 k4.2
  have w2:=sh_up (K:=K) (q:=b) (v:=a) (by have:=sw b a;omega) (by have:=sw b a;omega)
  rw [upd] at w1 w2
  rcases hne with h | h
  ·rw [h] at w1;have:=of_decide_eq_true w1;omega
  ·rw [h] at w2;have:=of_decide_eq_true w2;omega
 have I1:=id1 (shP K q) (shP K p) (shP K a) (shP K b)
 have I2:=id2 (shP K q) (shP K p) (shP K a) (shP K b)
 rw [sh_det,sh_det,sh_det,det_sw p q a,det_sw p q b] at I1 I2
 have M1:=cmb_yv D P (shP K p) (shP K q) (shP K a)
 have M2:=cmb_yv D P (shP K p) (shP K q) (shP K b)
 rw [<-sh_cmb] at M1 M2
 have mix:=cmb_det D P a b p q
 have hmu:detM a b (cmb D P p q)=0:=by unfold onB at hon;simp at hon;exact hon.1
 have hw:withB (cmb D P p q) a b=true:=by unfold onB at hon;simp at hon;exact hon.2
 have J:(shP K (cmb D P p q)).d*yv (shP K a) (shP K b)=(shP K a).d*yv (shP K (cmb D P p q)) (shP K b)-(shP K b).d*yv (shP K (cmb D P p q)) (shP K a):=by unfold yv;grind
 have lt:(yv (shP K (cmb D P p q)) (shP K a)<=0/\0<=yv (shP K (cmb D P p q)) (shP K b)/\befB (cmb D P p q) a=false/\befB b (cmb D P p q)=false)\/(0<=yv (shP K (cmb D P p q)) (shP K a)/\yv (shP K (cmb D P p q)) (shP K b)<=0/\befB (cmb D P p q) b=false/\befB a (cmb D P p q)=false):=by
  unfold withB loM hiM at hw
  by_cases c:befB b a=true
  ·simp only [if_pos c,Bool.and_eq_true,Bool.not_eq_true'] at hw
   refine .inr ⟨?_,?_,hw.1,hw.2⟩
   ·rw [hw.2] at v6;have:=of_decide_eq_false v6;omega
   ·rw [hw.1] at u7;have:=of_decide_eq_false u7;omega
  ·simp only [if_neg c,Bool.and_eq_true,Bool.not_eq_true'] at hw
   refine .inl ⟨?_,?_,hw.1,hw.2⟩
   ·rw [hw.1] at u6;have:=of_decide_eq_false u6;omega
   ·rw [hw.2] at v7;have:=of_decide_eq_false v7;omega
 have hxx:NoX (detM p q a) (detM p q b) (detM a b p) (detM a b q):=by
  unfold NoX
  intro h
  have:crossB p q a b=true:=by
   unfold crossB apartB
   simp only [Bool.and_eq_true,Bool.or_eq_true,decide_eq_true_eq]
   omega
  rw [hx] at this;cases this
 have pa:yv (shP K (cmb D P p q)) (shP K a)=0->detM p q a≠0:=fun e=>by
  have b1:befB (cmb D P p q) a=false:=by rw [<-u6,e];rfl
  have b2:befB a (cmb D P p q)=false:=by rw [<-v6,e];rfl
  exact fa (bef_le hp hm ha pm b2) (le_bef ha hm hq b1 mq)
 have pb:yv (shP K (cmb D P p q)) (shP K b)=0->detM p q b≠0:=fun e=>by
  have b1:befB (cmb D P p q) b=false:=by rw [<-u7,e];rfl
  have b2:befB b (cmb D P p q)=false:=by rw [<-v7,e];rfl
  exact fb (bef_le hp hm hb pm b2) (le_bef hb hm hq b1 mq)
 have hmu2:yv (shP K p) (shP K q)*detM a b (cmb D P p q)=detM p q b*yv (shP K (cmb D P p q)) (shP K a)-detM p q a*yv (shP K (cmb D P p q)) (shP K b):=by
  rw [mix,M1,M2]
  have e:yv (shP K p) (shP K q)*(D*detM a b p+P*detM a b q)=D*(yv (shP K p) (shP K q)*detM a b p)+P*(yv (shP K p) (shP K q)*detM a b q):=by grind
  rw [e,I1,I2];grind
 rw [hmu,Int.mul_zero] at hmu2
 have hAB:detM p q a=0/\detM p q b=0:=by
  have nap : ¬ ((detM a b p<0/\0<detM a b q)\/(0<detM a b p/\detM a b q<0))->detM a b p=0/\detM a b q=0:=fun h=>by
   have mx:=mix_sg mix hD hP
   rw [hmu] at mx
   rcases Int.lt_trichotomy (detM a b p) 0 with c | c | c
   ·have:=mx.1 c;omega
   ·rcases Int.lt_trichotomy (detM a b q) 0 with d | d | d
    ·have:=mx.2.1 c d;omega
    ·exact ⟨c,d⟩
    ·have:=mx.2.2.2.1 c d;omega
   ·have:=mx.2.2.1 c;omega
  by_cases hap:(detM a b p<0/\0<detM a b q)\/(0<detM a b p/\detM a b q<0)
  ·have k:(0<=detM p q a/\0<=detM p q b)\/(detM p q a<=0/\detM p q b<=0):=by unfold NoX at hxx;omega
   generalize yv (shP K (cmb D P p q)) (shP K a)=am at *
   generalize yv (shP K (cmb D P p q)) (shP K b)=bm at *
   have both:detM p q b*am=0/\detM p q a*bm=0:=by
    rcases lt with ⟨l1,l2,_⟩ | ⟨l1,l2,_⟩ <;> rcases k with ⟨k1,k2⟩ | ⟨k1,k2⟩
    ·have:=mul_gl k2 l1;have:=mul_gg k1 l2;omega
    ·have:=mul_ll k2 l1;have:=mul_lg k1 l2;omega
    ·have:=mul_gg k2 l1;have:=mul_gl k1 l2;omega
    ·have:=mul_lg k2 l1;have:=mul_ll k1 l2;omega
   rcases Int.mul_eq_zero.1 both.1 with c | c
   ·rcases Int.mul_eq_zero.1 both.2 with d | d
    ·exact ⟨d,c⟩
    ·exact absurd c (pb d)
   ·rcases Int.mul_eq_zero.1 both.2 with d | d
    ·exact absurd d (pa c)
    ·exfalso
     rw [c,d,Int.mul_zero,Int.mul_zero,Int.sub_zero] at J
     rcases Int.mul_eq_zero.1 J with z | z
     ·have:(shP K (cmb D P p q)).d=(cmb D P p q).d:=rfl
      omega
     ·exact hd z
  ·obtain ⟨z1,z2⟩:=nap hap
   exact col_of hp (by omega) hd z1 z2
 have hal:detM a b p=0/\detM a b q=0:=by
  rw [hAB.1,hAB.2] at I1 I2
  simp only [Int.neg_zero,Int.zero_mul,Int.sub_zero] at I1 I2
  constructor
  ·rcases Int.mul_eq_zero.1 I1 with c | c
   ·omega
   ·exact c
  ·rcases Int.mul_eq_zero.1 I2 with c | c
   ·omega
   ·exact c
 refine ⟨hAB,hal,?_⟩
 have na : ¬ (befB p a=true/\befB a q=true):=fun h=>fa h.1 h.2 hAB.1
 have nb : ¬ (befB p b=true/\befB b q=true):=fun h=>fb h.1 h.2 hAB.2
 rcases lt with ⟨_,_,l3,l4⟩ | ⟨_,_,l3,l4⟩
 ·refine .inl ⟨?_,?_⟩
  ·cases k:befB p a
   ·rfl
   ·exact absurd ⟨k,le_bef ha hm hq l3 mq⟩ na
  ·cases k:befB b q
   ·rfl
   ·exact absurd ⟨bef_le hp hm hb pm l4,k⟩ nb
 ·refine .inr ⟨?_,?_⟩
  ·cases k:befB p b
   ·rfl
   ·exact absurd ⟨k,le_bef hb hm hq l3 mq⟩ nb
  ·cases k:befB a q
   ·rfl
   ·exact absurd ⟨bef_le hp hm ha pm l4,k⟩ na
theorem on_in:alongE p q a b=onB (cmb D P p q) a b:=by
 have hm:=cmb_pos hD hP hp hq
 obtain ⟨pm,mq⟩:=bef_cmb hD hP hpq
 cases hon:onB (cmb D P p q) a b
 ·cases hal:alongE p q a b
  ·rfl
  ·exfalso
   unfold alongE at hal
   simp only [Bool.and_eq_true,decide_eq_true_eq] at hal
   obtain ⟨hs,z1,z2⟩:=hal
   rw [span_bef ha hb hp hne] at hs
   have zm:detM a b (cmb D P p q)=0:=by rw [cmb_det,z1,z2];simp
   obtain ⟨K,k1,k2,k3,k4,k5,k6,k7⟩:=bnd7 (yv p a) (yv p b) (yv p q) (yv a b) (yv q b) (yv (cmb D P p q) a) (yv (cmb D P p q) b)
   have sw:∀ u v,yv u v = -yv v u:=fun u v=>by unfold yv;grind
   have upd:∀ u v,upB false u v=decide (0<yv u v):=fun u v=>by unfold upB;simp
   have u3:=sh_up k3.1 k3.2
   rw [upd] at u3
   have hY:0<yv (shP K p) (shP K q):=by rw [hpq] at u3;exact of_decide_eq_true u3
   have hd:yv (shP K a) (shP K b)≠0:=by
    intro e
    have e':=sw (shP K a) (shP K b)
    have w1:=sh_up k4.1 k4.2
    have w2:=sh_up (K:=K) (q:=b) (v:=a) (by have:=sw b a;omega) (by have:=sw b a;omega)
    rw [upd] at w1 w2
    rcases hne with h | h
    ·rw [h] at w1;have:=of_decide_eq_true w1;omega
    ·rw [h] at w2;have:=of_decide_eq_true w2;omega
   obtain ⟨A0,B0⟩:=col_of hp (by omega) hd z1 z2
   have na : ¬ (befB p a=true/\befB a q=true):=fun h=>fa h.1 h.2 A0
   have nb : ¬ (befB p b=true/\befB b q=true):=fun h=>fb h.1 h.2 B0
   simp only [Bool.or_eq_true,Bool.and_eq_true,Bool.not_eq_true'] at hs
   have:withB (cmb D P p q) a b=true:=by
    rcases hs with ⟨h1,h2⟩ | ⟨h1,h2⟩
    ·have hbq:befB b q=false:=by
      cases k:befB b q
      ·rfl
      ·exact absurd ⟨h2,k⟩ nb
     refine with_ab hm ha hb ?_ ?_
     ·cases k:befB (cmb D P p q) a
      ·rfl
      ·have:=bef_lt hm ha hp k (q:=p) pm;rw [h1] at this;cases this
     ·exact bef_asym (bef_le hm hq hb mq hbq)
    ·have haq:befB a q=false:=by
      cases k:befB a q
      ·rfl
      ·exact absurd ⟨h1,k⟩ na
     refine with_ba hm ha hb ?_ ?_
     ·cases k:befB (cmb D P p q) b
      ·rfl
      ·have:=bef_lt hm hb hp k (q:=p) pm;rw [h2] at this;cases this
     ·exact bef_asym (bef_le hm hq ha mq haq)
   unfold onB at hon
   rw [zm,this] at hon
   simp at hon
 ·obtain ⟨_,⟨z1,z2⟩,h⟩:=along_in hD hP hp hq ha hb hpq hne fa fb hx hon
  unfold alongE
  rw [span_bef ha hb hp hne,z1,z2]
  rcases h with ⟨h1,h2⟩ | ⟨h1,h2⟩
  ·have:befB p b=true:=bef_le hp hq hb hpq h2
   rw [h1,this];rfl
  ·have:befB p a=true:=bef_le hp hq ha hpq h2
   rw [h1,this];rfl
theorem thr_in (o:Pt):thrB o (cmb D P p q) a b=(onB (cmb D P p q) a b && decide (0<detM p q o)):=by
 unfold thrB
 cases hon:onB (cmb D P p q) a b
 ·rfl
 ·simp only [Bool.true_and]
  obtain ⟨⟨A0,B0⟩,_,_⟩:=along_in hD hP hp hq ha hb hpq hne fa fb hx hon
  obtain ⟨K,k1,k2,k3,k4,k5,k6,k7⟩:=bnd7 (yv p a) (yv p b) (yv p q) (yv a b) (yv q b) (yv (cmb D P p q) a) (yv (cmb D P p q) b)
  have sw:∀ u v,yv u v = -yv v u:=fun u v=>by unfold yv;grind
  have upd:∀ u v,upB false u v=decide (0<yv u v):=fun u v=>by unfold upB;simp
  have u3:=sh_up k3.1 k3.2
  rw [upd] at u3
  have hY:0<yv (shP K p) (shP K q):=by rw [hpq] at u3;exact of_decide_eq_true u3
  have e':=sw (shP K a) (shP K b)
  have w1:=sh_up k4.1 k4.2
  have w2:=sh_up (K:=K) (q:=b) (v:=a) (by have:=sw b a;omega) (by have:=sw b a;omega)
  rw [upd] at w1 w2
  have pl:=plk2 (p:=shP K p) (q:=shP K q) (a:=shP K a) (b:=shP K b) (shP K o) (by rw [sh_det];exact A0) (by rw [sh_det];exact B0)
  rw [sh_det,sh_det] at pl
  generalize yv (shP K p) (shP K q)=Y at *
  generalize detM a b o=om at *
  generalize detM p q o=tu at *
  rcases hne with h | h
  ·have h':=bef_asym h
   rw [h] at w1
   have d:=of_decide_eq_true w1
   rw [h,h']
   generalize yv (shP K a) (shP K b)=Dd at *
   have:(0<om↔0<tu):=by
    constructor
    ·intro x
     have:=mul_pp hY x
     rcases Int.lt_or_le 0 tu with c | c
     ·exact c
     ·have:=mul_gl (Int.le_of_lt d) c;omega
    ·intro x
     have:=mul_pp d x
     rcases Int.lt_or_le 0 om with c | c
     ·exact c
     ·have:=mul_gl (Int.le_of_lt hY) c;omega
   have e:decide (0<om)=decide (0<tu):=decide_eq_decide.2 this
   rw [e];simp
  ·have h':=bef_asym h
   rw [h] at w2
   have d:=of_decide_eq_true w2
   rw [h,h']
   have d':yv (shP K a) (shP K b)<0:=by omega
   generalize yv (shP K a) (shP K b)=Dd at *
   have:(om<0↔0<tu):=by
    constructor
    ·intro x
     have:=mul_pn hY x
     rcases Int.lt_or_le 0 tu with c | c
     ·exact c
     ·have:=mul_ll (Int.le_of_lt d') c;omega
    ·intro x
     have:=mul_np d' x
     rcases Int.lt_or_le om 0 with c | c
     ·exact c
     ·have:=mul_gg (Int.le_of_lt hY) c;omega
   have e:decide (om<0)=decide (0<tu):=decide_eq_decide.2 this
   rw [e];simp
end
end Go.Proofs.YtnkcbephceollabGreat
