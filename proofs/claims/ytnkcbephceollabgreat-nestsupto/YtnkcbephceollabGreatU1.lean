import Derived.Test.YtnkcbephceollabGreatU0
namespace Go.Proofs.YtnkcbephceollabGreat
set_option linter.unusedSimpArgs false
set_option linter.unusedVariables false
theorem det_swap (a b c:Pt):detM b a c = - detM a b c:=by unfold detM;grind
theorem det_left (a b:Pt):detM a b a=0:=by unfold detM;grind
theorem det_right (a b:Pt):detM a b b=0:=by unfold detM;grind
theorem x_cd {a b c d:Pt}(ha:a.d=1)(hb:b.d=1)(hc:c.d=1)(hd:d.d=1):c.x*(detM a b d-detM a b c)+(d.x-c.x)*(- detM a b c)=a.x*(detM a b d-detM a b c)+(b.x-a.x)*detM c d a:=by
 unfold detM;rw [ha,hb,hc,hd];grind
theorem y_cd {a b c d:Pt}(ha:a.d=1)(hb:b.d=1)(hc:c.d=1)(hd:d.d=1):c.y*(detM a b d-detM a b c)+(d.y-c.y)*(- detM a b c)=a.y*(detM a b d-detM a b c)+(b.y-a.y)*detM c d a:=by
 unfold detM;rw [ha,hb,hc,hd];grind
theorem pq_mn {a b c d:Pt}(ha:a.d=1)(hb:b.d=1)(hc:c.d=1)(hd:d.d=1):detM c d a-detM c d b=detM a b d-detM a b c:=by
 rw [<-w_mn ha hb hc hd,w_pq ha hb hc hd]
theorem col {a b c d:Pt}(ha:a.d=1)(hb:b.d=1)(hc:c.d=1)(hd:d.d=1)(hab:a≠b)(h:detM a b c=0)(g:detM a b d=0):detM c d a=0/\detM c d b=0:=by
 have e:=pq_mn ha hb hc hd
 have hx:(b.x-a.x)*detM c d a=0:=by
  have:(b.x-a.x)*detM c d a=(d.x-c.x)*(- detM a b c)+(c.x-a.x)*(detM a b d-detM a b c):=by
   have:=x_cd ha hb hc hd;grind
  rw [this,h,g];simp
 have hy:(b.y-a.y)*detM c d a=0:=by
  have:(b.y-a.y)*detM c d a=(d.y-c.y)*(- detM a b c)+(c.y-a.y)*(detM a b d-detM a b c):=by
   have:=y_cd ha hb hc hd;grind
  rw [this,h,g];simp
 have hp:detM c d a=0:=by
  rcases Int.mul_eq_zero.1 hx with h1 | h1
  ·rcases Int.mul_eq_zero.1 hy with h2 | h2
   ·exact absurd (Pt.ext' (by omega) (by omega) (by omega)) hab
   ·exact h2
  ·exact h1
 exact ⟨hp,by omega⟩
def L (p q:Pt):Prop:=p.x<q.x\/(p.x=q.x/\p.y<q.y)
theorem cmp_neg {p q:Pt}(hp:p.d=1)(hq:q.d=1):cmpM p q<0↔L p q:=by unfold cmpM L;rw [hp,hq];simp only [Int.mul_one];split <;> omega
theorem cmp_pos {p q:Pt}(hp:p.d=1)(hq:q.d=1):0<cmpM p q↔L q p:=by unfold cmpM L;rw [hp,hq];simp only [Int.mul_one];split <;> omega
theorem cmp_zero {p q:Pt}(hp:p.d=1)(hq:q.d=1):cmpM p q=0↔p=q:=by
 constructor
 ·intro h
  have:p.x=q.x/\p.y=q.y:=by unfold cmpM at h;rw [hp,hq] at h;simp only [Int.mul_one] at h;split at h <;> omega
  exact Pt.ext' this.1 this.2 (by omega)
 ·rintro rfl;unfold cmpM;simp
theorem bef_L {p q:Pt}(hp:p.d=1)(hq:q.d=1):befB p q=true↔L p q:=by rw [bef_iff,hp,hq];unfold L;simp only [Int.mul_one]
theorem L_tri {p q:Pt}(hp:p.d=1)(hq:q.d=1):L p q\/p=q\/L q p:=by
 by_cases h:p=q
 ·exact .inr (.inl h)
 ·have : ¬ (p.x=q.x/\p.y=q.y):=fun e=>h (Pt.ext' e.1 e.2 (by omega))
  unfold L;omega
theorem L_asym {p q:Pt}(h:L p q) : ¬ L q p:=by unfold L at *;omega
theorem L_trans {p q r:Pt}(h:L p q)(g:L q r):L p r:=by unfold L at *;omega
theorem L_le {p q r:Pt}(h:L p q)(g : ¬ L r q):L p r:=by unfold L at *;omega
theorem L_le' {p q r:Pt}(h : ¬ L q p)(g:L q r):L p r:=by unfold L at *;omega
theorem first_cases (p q:Pt):firstM p q=p\/firstM p q=q:=by unfold firstM;split <;> simp
theorem last_cases (p q:Pt):lastM p q=p\/lastM p q=q:=by unfold lastM;split <;> simp
theorem first_le {p q:Pt}(hp:p.d=1)(hq:q.d=1) : ¬ L p (firstM p q)/\¬ L q (firstM p q):=by
 unfold firstM;split
 ·rename_i h;rw [cmp_neg hq hp] at h;exact ⟨L_asym h,fun e=>L_asym e e⟩
 ·rename_i h;rw [cmp_neg hq hp] at h;exact ⟨fun e=>L_asym e e,h⟩
theorem last_ge {p q:Pt}(hp:p.d=1)(hq:q.d=1) : ¬ L (lastM p q) p/\¬ L (lastM p q) q:=by
 unfold lastM;split
 ·rename_i h;have h:=(cmp_pos hq hp).1 h;exact ⟨L_asym h,fun e=>L_asym e e⟩
 ·rename_i h;have h:=fun e=>h ((cmp_pos hq hp).2 e);exact ⟨fun e=>L_asym e e,h⟩
theorem first_d {p q:Pt}(hp:p.d=1)(hq:q.d=1):(firstM p q).d=1:=by rcases first_cases p q with h | h <;> rw [h] <;> assumption
theorem last_d {p q:Pt}(hp:p.d=1)(hq:q.d=1):(lastM p q).d=1:=by rcases last_cases p q with h | h <;> rw [h] <;> assumption
theorem L_anti {p q:Pt}(hp:p.d=1)(hq:q.d=1)(h : ¬ L p q)(g : ¬ L q p):p=q:=(L_tri hp hq).elim (fun e=>absurd e h) (fun e=>e.elim id (fun e=>absurd e g))
theorem first_comm {p q:Pt}(hp:p.d=1)(hq:q.d=1):firstM p q=firstM q p:=by
 refine L_anti (first_d hp hq) (first_d hq hp) ?_ ?_
 ·rcases first_cases p q with h | h <;> rw [h]
  ·exact (first_le hq hp).2
  ·exact (first_le hq hp).1
 ·rcases first_cases q p with h | h <;> rw [h]
  ·exact (first_le hp hq).2
  ·exact (first_le hp hq).1
theorem last_comm {p q:Pt}(hp:p.d=1)(hq:q.d=1):lastM p q=lastM q p:=by
 refine L_anti (last_d hp hq) (last_d hq hp) ?_ ?_
 ·rcases last_cases q p with h | h <;> rw [h]
  ·exact (last_ge hp hq).2
  ·exact (last_ge hp hq).1
 ·rcases last_cases p q with h | h <;> rw [h]
  ·exact (last_ge hq hp).2
  ·exact (last_ge hq hp).1
theorem first_self (p:Pt):firstM p p=p:=by rcases first_cases p p with h | h <;> exact h
theorem last_self (p:Pt):lastM p p=p:=by rcases last_cases p p with h | h <;> exact h
theorem line_sym1 {a b c d:Pt}(ha:a.d=1)(hb:b.d=1)(hc:c.d=1)(hd:d.d=1):lineM d c a b=lineM a b c d:=by
 unfold lineM
 rw [first_comm hd hc,last_comm hd hc,last_comm (first_d hc hd) (first_d ha hb),first_comm (last_d hc hd) (last_d ha hb)]
theorem line_sym2 {a b c d:Pt}(ha:a.d=1)(hb:b.d=1):lineM b a c d=lineM a b c d:=by
 unfold lineM
 rw [first_comm hb ha,last_comm hb ha]
theorem meet_eq {a b c d:Pt}(ha:a.d=1)(hb:b.d=1)(hc:c.d=1)(hd:d.d=1) :
  meetM a b c d=if detM a b d-detM a b c=0 then (if detM a b c≠0 then zM else lineM a b c d) else acrossM a b c d:=by
 unfold meetM parM;rw [w_mn ha hb hc hd,par_m ha hb hc]
theorem meet_sym1 {a b c d:Pt}(ha:a.d=1)(hb:b.d=1)(hc:c.d=1)(hd:d.d=1)(hab:a≠b)(hcd:c≠d):meetM d c a b=meetM a b c d:=by
 rw [meet_eq ha hb hc hd,meet_eq hd hc ha hb]
 have e:=pq_mn ha hb hc hd
 have s1:=det_swap c d a
 have s2:=det_swap c d b
 by_cases hw:detM a b d-detM a b c=0
 ·rw [if_pos hw,if_pos (by omega)]
  by_cases hm:detM a b c=0
  ·have:=col ha hb hc hd hab hm (by omega)
   rw [if_neg (show ¬ (detM d c a≠0) by omega),if_neg (show ¬ (detM a b c≠0) by omega),line_sym1 ha hb hc hd]
  ·rw [if_pos hm]
   by_cases hp:detM d c a=0
   ·have:=col hd hc ha hb (Ne.symm hcd) hp (by omega)
    have t1:=det_swap a b c;have t2:=det_swap a b d
    omega
   ·rw [if_pos hp]
 ·rw [if_neg hw,if_neg (by omega)]
  by_cases g:goodM (detM a b d-detM a b c) (detM a b c) (detM a b d) (detM c d a) (detM c d b)
  ·rw [across_good ha hb hc hd hw g,across_good hd hc ha hb (by omega) (by rw [s1,s2];unfold goodM at *;omega)]
   have ew:detM d c b-detM d c a=detM a b d-detM a b c:=by omega
   rw [ew]
   have ex:d.x*(detM a b d-detM a b c)+(c.x-d.x)*detM a b d=a.x*(detM a b d-detM a b c)+(b.x-a.x)*detM c d a:=by rw [<-x_cd ha hb hc hd];grind
   have ey:d.y*(detM a b d-detM a b c)+(c.y-d.y)*detM a b d=a.y*(detM a b d-detM a b c)+(b.y-a.y)*detM c d a:=by rw [<-y_cd ha hb hc hd];grind
   rw [ex,ey]
  ·rw [across_bad ha hb hc hd hw g,across_bad hd hc ha hb (by omega) (by rw [s1,s2];unfold goodM at *;omega)]
theorem meet_sym2 {a b c d:Pt}(ha:a.d=1)(hb:b.d=1)(hc:c.d=1)(hd:d.d=1):meetM b a c d=meetM a b c d:=by
 rw [meet_eq ha hb hc hd,meet_eq hb ha hc hd]
 have e:=pq_mn ha hb hc hd
 have s1:=det_swap a b c
 have s2:=det_swap a b d
 by_cases hw:detM a b d-detM a b c=0
 ·rw [if_pos hw,if_pos (by omega)]
  by_cases hm:detM a b c=0
  ·rw [if_neg (show ¬ (detM b a c≠0) by omega),if_neg (show ¬ (detM a b c≠0) by omega),line_sym2 ha hb]
  ·rw [if_pos hm,if_pos (by omega)]
 ·rw [if_neg hw,if_neg (by omega)]
  by_cases g:goodM (detM a b d-detM a b c) (detM a b c) (detM a b d) (detM c d a) (detM c d b)
  ·rw [across_good ha hb hc hd hw g,across_good hb ha hc hd (by omega) (by rw [s1,s2];unfold goodM at *;omega)]
   have ew:detM b a d-detM b a c = -(detM a b d-detM a b c):=by omega
   have eq':detM c d b=detM c d a-(detM a b d-detM a b c):=by omega
   have ex:b.x*(-(detM a b d-detM a b c))+(a.x-b.x)*detM c d b = -(a.x*(detM a b d-detM a b c)+(b.x-a.x)*detM c d a):=by rw [eq'];grind
   have ey:b.y*(-(detM a b d-detM a b c))+(a.y-b.y)*detM c d b = -(a.y*(detM a b d-detM a b c)+(b.y-a.y)*detM c d a):=by rw [eq'];grind
   rw [ew,ex,ey,norm_neg hw]
  ·rw [across_bad ha hb hc hd hw g,across_bad hb ha hc hd (by omega) (by rw [s1,s2];unfold goodM at *;omega)]
theorem meet_self {a b:Pt}(ha:a.d=1)(hb:b.d=1)(hab:a≠b):meetM a b b a=⟨2,firstM a b,lastM a b⟩:=by
 rw [meet_eq ha hb hb ha,det_left,det_right]
 simp only [Int.sub_self,if_true,ne_eq,not_true_eq_false,if_false]
 have e1:lastM (firstM a b) (firstM b a)=firstM a b:=by rw [first_comm hb ha,last_self]
 have e2:firstM (lastM a b) (lastM b a)=lastM a b:=by rw [last_comm hb ha,first_self]
 have hl:L (firstM a b) (lastM a b):=by
  rcases L_tri (first_d ha hb) (last_d ha hb) with h | h | h
  ·exact h
  ·exfalso
   have f1:=first_le ha hb
   have l1:=last_ge ha hb
   rw [h] at f1
   have:=L_anti ha (last_d ha hb) f1.1 l1.1
   have:=L_anti hb (last_d ha hb) f1.2 l1.2
   exact hab (by rw [‹a=_›,<-this])
  ·exfalso
   rcases first_cases a b with e | e <;> rw [e] at h
   ·exact (last_ge ha hb).1 h
   ·exact (last_ge ha hb).2 h
 have hc:=(cmp_neg (first_d ha hb) (last_d ha hb)).2 hl
 unfold lineM
 rw [e1,e2]
 rw [if_neg (by omega),if_neg (by omega)]
theorem mul_neg_of {u s:Int}(h:u*s<0)(hs:0<=s):u<0:=by
 rcases Int.lt_or_le u 0 with g | g
 ·exact g
 ·have:=Int.mul_nonneg g hs;omega
theorem no_neg {ux uy s w:Int}(h0:0<=s)(h1:s<=w) : ¬ ((ux*s<0\/(ux*s=0/\uy*s<0))/\(ux*(s-w)<0\/(ux*(s-w)=0/\uy*(s-w)<0))):=by
 rintro ⟨g,k⟩
 have n1:ux*(s-w) = -ux*(w-s):=by grind
 have n2:uy*(s-w) = -uy*(w-s):=by grind
 rw [n1,n2] at k
 rcases g with g | ⟨g0,g⟩
 ·have hx:=mul_neg_of g h0
  rcases k with k | ⟨k0,k⟩
  ·have:=mul_neg_of k (by omega);omega
  ·rcases Int.mul_eq_zero.1 k0 with e | e
   ·omega
   ·rw [e] at k;simp at k
 ·have hy:=mul_neg_of g h0
  rcases k with k | ⟨k0,k⟩
  ·have:=mul_neg_of k (by omega)
   rcases Int.mul_eq_zero.1 g0 with e | e
   ·omega
   ·rw [e] at g;simp at g
  ·have:=mul_neg_of k (by omega);omega
theorem hold_mix {a b:Pt}(ha:a.d=1)(hb:b.d=1){w s:Int}(hw:0<w)(h0:0<=s)(h1:s<=w) :
  holdsB a b ⟨a.x*w+(b.x-a.x)*s,a.y*w+(b.y-a.y)*s,w⟩=true:=by
 rw [holds_iff]
 refine ⟨?_,?_,?_⟩
 ·unfold detM;simp only [ha,hb];grind
 ·rw [bef_iff,bef_iff]
  simp only [ha,hb,Int.mul_one]
  have k:=no_neg (ux:=b.x-a.x) (uy:=b.y-a.y) h0 h1
  have ex:a.x*w+(b.x-a.x)*s-b.x*w=(b.x-a.x)*(s-w):=by grind
  have ey:a.y*w+(b.y-a.y)*s-b.y*w=(b.y-a.y)*(s-w):=by grind
  rw [<-ex,<-ey] at k
  omega
 ·rw [bef_iff,bef_iff]
  simp only [ha,hb,Int.mul_one]
  have k:=no_neg (ux:=-(b.x-a.x)) (uy:=-(b.y-a.y)) h0 h1
  have ex : -(b.x-a.x)*(s-w) = -(a.x*w+(b.x-a.x)*s-b.x*w):=by grind
  have ey : -(b.y-a.y)*(s-w) = -(a.y*w+(b.y-a.y)*s-b.y*w):=by grind
  have ez : -(b.x-a.x)*s = -((b.x-a.x)*s):=by grind
  have et : -(b.y-a.y)*s = -((b.y-a.y)*s):=by grind
  rw [ex,ey,ez,et] at k
  omega
theorem bef_scale_l {p q:Pt}{g:Int}(hg:0<g):befB ⟨p.x*g,p.y*g,p.d*g⟩ q=befB p q:=by
 rw [Bool.eq_iff_iff,bef_iff,bef_iff]
 have e1:p.x*g*q.d=(p.x*q.d)*g:=by grind
 have e2:q.x*(p.d*g)=(q.x*p.d)*g:=by grind
 have e3:p.y*g*q.d=(p.y*q.d)*g:=by grind
 have e4:q.y*(p.d*g)=(q.y*p.d)*g:=by grind
 simp only [e1,e2,e3,e4]
 rw [Int.mul_lt_mul_right hg,Int.mul_lt_mul_right hg,Int.mul_eq_mul_right_iff (by omega)]
theorem bef_scale_r {p q:Pt}{g:Int}(hg:0<g):befB q ⟨p.x*g,p.y*g,p.d*g⟩=befB q p:=by
 rw [Bool.eq_iff_iff,bef_iff,bef_iff]
 have e1:p.x*g*q.d=(p.x*q.d)*g:=by grind
 have e2:q.x*(p.d*g)=(q.x*p.d)*g:=by grind
 have e3:p.y*g*q.d=(p.y*q.d)*g:=by grind
 have e4:q.y*(p.d*g)=(q.y*p.d)*g:=by grind
 simp only [e1,e2,e3,e4]
 rw [Int.mul_lt_mul_right hg,Int.mul_lt_mul_right hg,Int.mul_eq_mul_right_iff (by omega)]
theorem holds_scale {a b p:Pt}{g:Int}(hg:0<g):holdsB a b ⟨p.x*g,p.y*g,p.d*g⟩=holdsB a b p:=by
 have e:detM a b ⟨p.x*g,p.y*g,p.d*g⟩=detM a b p*g:=by unfold detM;grind
 rw [Bool.eq_iff_iff,holds_iff,holds_iff,bef_scale_l hg,bef_scale_l hg,bef_scale_r hg,bef_scale_r hg,e]
 simp only [Int.mul_eq_zero]
 constructor
 ·rintro ⟨h1,h2⟩;exact ⟨h1.elim id (fun e=>by omega),h2⟩
 ·rintro ⟨h1,h2⟩;exact ⟨.inl h1,h2⟩
theorem least_mul {p:Pt}(hd:0<p.d):∃ g:Int,0<g/\p=⟨(leastM p).x*g,(leastM p).y*g,(leastM p).d*g⟩:=by
 have hg:gcdM (gcdM p.x p.y) p.d≠0:=by
  unfold gcdM;intro h
  have h':Int.gcd (↑(p.x.gcd p.y)) p.d=0:=by omega
  have:=(Int.gcd_eq_zero_iff.1 h').2
  omega
 have h0:0<=gcdM (gcdM p.x p.y) p.d:=by unfold gcdM;omega
 have hD:gcdM (gcdM p.x p.y) p.d ∣ p.d:=Int.gcd_dvd_right ..
 have hG:gcdM (gcdM p.x p.y) p.d ∣ gcdM p.x p.y:=Int.gcd_dvd_left ..
 have hX:gcdM (gcdM p.x p.y) p.d ∣ p.x:=Int.dvd_trans hG (Int.gcd_dvd_left ..)
 have hY:gcdM (gcdM p.x p.y) p.d ∣ p.y:=Int.dvd_trans hG (Int.gcd_dvd_right ..)
 refine ⟨gcdM (gcdM p.x p.y) p.d,by omega,?_⟩
 unfold leastM
 rw [if_neg hg]
 exact Pt.ext' (Int.tdiv_mul_cancel hX).symm (Int.tdiv_mul_cancel hY).symm (Int.tdiv_mul_cancel hD).symm
theorem least_holds {a b p:Pt}(hd:0<p.d)(h:holdsB a b p=true):holdsB a b (leastM p)=true:=by
 obtain ⟨g,hg,e⟩:=least_mul hd
 rw [e,holds_scale hg] at h
 exact h
theorem least_d {p:Pt}(hd:0<p.d):0<(leastM p).d:=by
 obtain ⟨g,hg,e⟩:=least_mul hd
 have e:p.d=(leastM p).d*g:=congrArg Pt.d e
 rcases Int.lt_or_le 0 (leastM p).d with k | k
 ·exact k
 ·have:=Int.mul_nonneg (show 0<=-(leastM p).d by omega) (show 0<=g by omega)
  have : -(leastM p).d*g = -((leastM p).d*g):=by grind
  omega
theorem in_of_mul {a g A:Int}(h:In (a*g) A)(hg:0<g):In a A:=by
 have:a.natAbs<=(a*g).natAbs:=by rw [Int.natAbs_mul];exact Nat.le_mul_of_pos_right _ (by omega)
 unfold In at *;omega
theorem least_gd {p:Pt}(hd:0<p.d)(h:Gd p):Gd (leastM p):=by
 obtain ⟨g,hg,e⟩:=least_mul hd
 rw [e] at h
 exact ⟨in_of_mul h.x hg,in_of_mul h.y hg,in_of_mul h.d hg⟩
theorem mixEq (a b W S:Int):a*W+(b-a)*S=a*(W-S)+b*S:=by grind
theorem mixIn {a b W S:Int}(ha:In a 64)(hb:In b 64)(h0:0<=S)(h1:S<=W)(h2:W<=32768):In (a*W+(b-a)*S) 2097152:=by
 rw [mixEq]
 have i1:=Int.mul_le_mul_of_nonneg_right ha.hi (show 0<=W-S by omega)
 have i2:=Int.mul_le_mul_of_nonneg_right ha.lo (show 0<=W-S by omega)
 have i3:=Int.mul_le_mul_of_nonneg_right hb.hi h0
 have i4:=Int.mul_le_mul_of_nonneg_right hb.lo h0
 unfold In;omega
theorem w_in {a b c d:Pt}(ha:Gr a)(hb:Gr b)(hc:Gr c)(hd:Gr d):In (detM a b d-detM a b c) 32768:=by
 rw [<-w_mn ha.d hb.d hc.d hd.d]
 exact (((hb.x.sub ha.x).mul (hd.y.sub hc.y)).sub ((hb.y.sub ha.y).mul (hd.x.sub hc.x))).mono (by decide)
theorem crossPt {a b c d:Pt}(ha:Gr a)(hb:Gr b)(hc:Gr c)(hd:Gr d)(hw:detM a b d-detM a b c≠0)
  (g:goodM (detM a b d-detM a b c) (detM a b c) (detM a b d) (detM c d a) (detM c d b)) :
  ∃ P:Pt,norm (a.x*(detM a b d-detM a b c)+(b.x-a.x)*detM c d a) (a.y*(detM a b d-detM a b c)+(b.y-a.y)*detM c d a) (detM a b d-detM a b c)=P/\Gd P/\0<P.d/\holdsB a b P=true/\holdsB c d P=true:=by
 have e:=pq_mn ha.d hb.d hc.d hd.d
 have hi:=w_in ha hb hc hd
 have xc:=x_cd ha.d hb.d hc.d hd.d
 have yc:=y_cd ha.d hb.d hc.d hd.d
 refine ⟨_,rfl,?_⟩
 unfold norm
 unfold In at hi
 unfold goodM at g
 by_cases h:detM a b d-detM a b c<0
 ·rw [if_pos h]
  have ex : -(a.x*(detM a b d-detM a b c)+(b.x-a.x)*detM c d a)=a.x*(-(detM a b d-detM a b c))+(b.x-a.x)*(-detM c d a):=by grind
  have ey : -(a.y*(detM a b d-detM a b c)+(b.y-a.y)*detM c d a)=a.y*(-(detM a b d-detM a b c))+(b.y-a.y)*(-detM c d a):=by grind
  have fx : -(a.x*(detM a b d-detM a b c)+(b.x-a.x)*detM c d a)=c.x*(-(detM a b d-detM a b c))+(d.x-c.x)*(detM a b c):=by rw [<-xc];grind
  have fy : -(a.y*(detM a b d-detM a b c)+(b.y-a.y)*detM c d a)=c.y*(-(detM a b d-detM a b c))+(d.y-c.y)*(detM a b c):=by rw [<-yc];grind
  refine ⟨⟨?_,?_,?_⟩,?_,?_,?_⟩
  ·show In (-(a.x*(detM a b d-detM a b c)+(b.x-a.x)*detM c d a)) 2097152
   rw [ex];exact mixIn ha.x hb.x (by omega) (by omega) (by omega)
  ·show In (-(a.y*(detM a b d-detM a b c)+(b.y-a.y)*detM c d a)) 2097152
   rw [ey];exact mixIn ha.y hb.y (by omega) (by omega) (by omega)
  ·show In (-(detM a b d-detM a b c)) 32768
   unfold In;omega
  ·show 0 < -(detM a b d-detM a b c);omega
  ·rw [ex,ey];exact hold_mix ha.d hb.d (by omega) (by omega) (by omega)
  ·rw [fx,fy];exact hold_mix hc.d hd.d (by omega) (by omega) (by omega)
 ·rw [if_neg h]
  refine ⟨⟨?_,?_,?_⟩,?_,?_,?_⟩
  ·exact mixIn ha.x hb.x (by omega) (by omega) (by omega)
  ·exact mixIn ha.y hb.y (by omega) (by omega) (by omega)
  ·show In (detM a b d-detM a b c) 32768
   unfold In;omega
  ·show 0<detM a b d-detM a b c;omega
  ·exact hold_mix ha.d hb.d (by omega) (by omega) (by omega)
  ·rw [<-xc,<-yc];exact hold_mix hc.d hd.d (by omega) (by omega) (by omega)
theorem hold_between {a b r:Pt}(ha:a.d=1)(hb:b.d=1)(hr:r.d=1)(h:detM a b r=0)(h1 : ¬ L r (firstM a b))(h2 : ¬ L (lastM a b) r):holdsB a b r=true:=by
 rw [holds_iff,bef_L hr ha,bef_L hr hb,bef_L ha hr,bef_L hb hr]
 refine ⟨h,?_,?_⟩
 ·rintro ⟨g1,g2⟩
  rcases first_cases a b with e | e <;> rw [e] at h1
  ·exact h1 g1
  ·exact h1 g2
 ·rintro ⟨g1,g2⟩
  rcases last_cases a b with e | e <;> rw [e] at h2
  ·exact h2 g1
  ·exact h2 g2
theorem det_of_cases {a b r s t:Pt}(h:r=s\/r=t)(hs:detM a b s=0)(ht:detM a b t=0):detM a b r=0:=by rcases h with e | e <;> rw [e] <;> assumption
theorem line_holds {a b c d:Pt}(ha:a.d=1)(hb:b.d=1)(hc:c.d=1)(hd:d.d=1)(m:detM a b c=0)(n:detM a b d=0)(p:detM c d a=0)(q:detM c d b=0)
  (h : ¬ L (firstM (lastM a b) (lastM c d)) (lastM (firstM a b) (firstM c d))) :
  (holdsB a b (lastM (firstM a b) (firstM c d))=true/\holdsB c d (lastM (firstM a b) (firstM c d))=true)/\holdsB a b (firstM (lastM a b) (lastM c d))=true/\holdsB c d (firstM (lastM a b) (lastM c d))=true:=by
 have df:=first_d ha hb
 have dg:=first_d hc hd
 have dl:=last_d ha hb
 have dm:=last_d hc hd
 have lg:=last_ge df dg
 have fl:=first_le dl dm
 have za:∀ r,r=a\/r=b->detM a b r=0:=fun r e=>det_of_cases e (det_left a b) (det_right a b)
 have zc:∀ r,r=c\/r=d->detM a b r=0:=fun r e=>det_of_cases e m n
 have ya:∀ r,r=a\/r=b->detM c d r=0:=fun r e=>det_of_cases e p q
 have yc:∀ r,r=c\/r=d->detM c d r=0:=fun r e=>det_of_cases e (det_left c d) (det_right c d)
 have f1:=det_of_cases (a:=a) (b:=b) (last_cases (firstM a b) (firstM c d)) (za _ (first_cases a b)) (zc _ (first_cases c d))
 have f2:=det_of_cases (a:=c) (b:=d) (last_cases (firstM a b) (firstM c d)) (ya _ (first_cases a b)) (yc _ (first_cases c d))
 have t1:=det_of_cases (a:=a) (b:=b) (first_cases (lastM a b) (lastM c d)) (za _ (last_cases a b)) (zc _ (last_cases c d))
 have t2:=det_of_cases (a:=c) (b:=d) (first_cases (lastM a b) (lastM c d)) (ya _ (last_cases a b)) (yc _ (last_cases c d))
 exact ⟨⟨hold_between ha hb (last_d df dg) f1 lg.1 (fun e=>h (L_le' fl.1 e)),hold_between hc hd (last_d df dg) f2 lg.2 (fun e=>h (L_le' fl.2 e))⟩,
  hold_between ha hb (first_d dl dm) t1 (fun e=>h (L_le e lg.1)) fl.1,hold_between hc hd (first_d dl dm) t2 (fun e=>h (L_le e lg.2)) fl.2⟩
theorem meet_cases {a b c d:Pt}(ha:Gr a)(hb:Gr b)(hc:Gr c)(hd:Gr d)(hab:a≠b)(hcd:c≠d) :
  (meetM a b c d=zM/\(sidesM (detM a b c) (detM a b d)=1\/sidesM (detM c d a) (detM c d b)=1\/(sidesM (detM a b c) (detM a b d)=0/\sidesM (detM c d a) (detM c d b)=0)))
  \/(∃ P,meetM a b c d=⟨1,P,zP⟩/\Gd P/\0<P.d/\holdsB a b P=true/\holdsB c d P=true/\sidesM (detM a b c) (detM a b d)≠1/\sidesM (detM c d a) (detM c d b)≠1)
  \/(∃ P Q,meetM a b c d=⟨2,P,Q⟩/\Gd P/\Gd Q/\holdsB a b P=true/\holdsB c d P=true/\holdsB a b Q=true/\holdsB c d Q=true/\befB P Q=true/\sidesM (detM a b c) (detM a b d)≠1/\sidesM (detM c d a) (detM c d b)≠1):=by
 have e:=pq_mn ha.d hb.d hc.d hd.d
 rw [meet_eq ha.d hb.d hc.d hd.d]
 by_cases hw:detM a b d-detM a b c=0
 ·rw [if_pos hw]
  by_cases m:detM a b c=0
  ·have n:detM a b d=0:=by omega
   obtain ⟨p,q⟩:=col ha.d hb.d hc.d hd.d hab m n
   rw [if_neg (show ¬ (detM a b c≠0) by omega),sides_0 (.inl m),sides_0 (.inl p)]
   have df:=last_d (first_d ha.d hb.d) (first_d hc.d hd.d)
   have dt:=first_d (last_d ha.d hb.d) (last_d hc.d hd.d)
   have gf:=lastM_gr (firstM_gr ha hb) (firstM_gr hc hd)
   have gt:=firstM_gr (lastM_gr ha hb) (lastM_gr hc hd)
   have lh:=line_holds ha.d hb.d hc.d hd.d m n p q
   unfold lineM
   generalize lastM (firstM a b) (firstM c d)=f at *
   generalize firstM (lastM a b) (lastM c d)=t at *
   by_cases k:0<cmpM f t
   ·rw [if_pos k];exact .inl ⟨rfl,.inr (.inr ⟨rfl,rfl⟩)⟩
   ·rw [if_neg k]
    obtain ⟨⟨h1,h2⟩,h3,h4⟩:=lh (fun e=>k ((cmp_pos df dt).2 e))
    by_cases k0:cmpM f t=0
    ·rw [if_pos k0]
     exact .inr (.inl ⟨f,rfl,gf.gd,by omega,h1,h2,by decide,by decide⟩)
    ·rw [if_neg k0]
     have:befB f t=true:=(bef_L df dt).2 ((cmp_neg df dt).1 (by omega))
     exact .inr (.inr ⟨f,t,rfl,gf.gd,gt.gd,h1,h2,h3,h4,this,by decide,by decide⟩)
  ·rw [if_pos m]
   refine .inl ⟨rfl,.inl ?_⟩
   rw [sides_one];omega
 ·rw [if_neg hw]
  by_cases g:goodM (detM a b d-detM a b c) (detM a b c) (detM a b d) (detM c d a) (detM c d b)
  ·rw [across_good ha.d hb.d hc.d hd.d hw g]
   obtain ⟨P,hP,h1,h2,h3,h4⟩:=crossPt ha hb hc hd hw g
   rw [hP]
   refine .inr (.inl ⟨_,rfl,least_gd h2 h1,least_d h2,least_holds h2 h3,least_holds h2 h4,?_,?_⟩)
   ·rw [ne_eq,sides_one];unfold goodM at g;omega
   ·rw [ne_eq,sides_one];unfold goodM at g;omega
  ·rw [across_bad ha.d hb.d hc.d hd.d hw g]
   refine .inl ⟨rfl,?_⟩
   rw [sides_one,sides_one];unfold goodM at g;omega
def badM:Int->Int->List (List Pt)->Int
 | _,_,[]=>-1
 | room,i,r::rs=>if (r.length:Int)<3\/room<(r.length:Int) then i else badM (room-r.length) (i+1) rs
def edgeAt (r:List Pt)(j:Nat):Pt×Pt:=(r.getD j zP,r.getD (if j+1=r.length then 0 else j+1) zP)
def ringEdges (r:List Pt):List (Pt×Pt):=(List.range r.length).map (edgeAt r)
def edgesM (P:List (List Pt)):List (Pt×Pt):=P.flatMap ringEdges
def findM {α:Type}(f:α->Bool):Int->List α->Int
 | _,[]=>-1
 | i,x::xs=>if f x=true then i else findM f (i+1) xs
def eqB (p q:Pt):Bool:=decide (p.x=q.x/\p.y=q.y/\p.d=q.d)
def alongB (e f:Pt×Pt):Bool:=(meetM e.1 e.2 f.1 f.2).k == 2
def sharesM (E:List (Pt×Pt))(i:Nat):Bool:=(E.take i).any (alongB (E.getD i (zP,zP)))
def checkM (P:List (List Pt)):Int×Int:=
 if 4<P.length then (1,0)
 else if badM 12 0 P≠-1 then (2,badM 12 0 P)
 else if findM (fun e:Pt×Pt=>!gridB e.1) 0 (edgesM P)≠-1 then (3,findM (fun e:Pt×Pt=>!gridB e.1) 0 (edgesM P))
 else if findM (fun e:Pt×Pt=>eqB e.1 e.2) 0 (edgesM P)≠-1 then (4,findM (fun e:Pt×Pt=>eqB e.1 e.2) 0 (edgesM P))
 else if findM (sharesM (edgesM P)) 0 (List.range (edgesM P).length)≠-1 then (5,findM (sharesM (edgesM P)) 0 (List.range (edgesM P).length))
 else (0,0)
theorem badM_cons (room i:Int)(P:List (List Pt))(k:Nat)(hk:k<P.length) :
  badM room i (P.drop k)=if ((P.getD k []).length:Int)<3\/room<((P.getD k []).length:Int) then i else badM (room-(P.getD k []).length) (i+1) (P.drop (k+1)):=by
 rw [List.drop_eq_getElem_cons hk]
 simp only [badM]
 rw [List.getD_eq_getElem?_getD,List.getElem?_eq_getElem hk];rfl
theorem findM_cons {α:Type}(f:α->Bool)(i:Int)(l:List α)(k:Nat)(hk:k<l.length)(d:α) :
  findM f i (l.drop k)=if f (l.getD k d)=true then i else findM f (i+1) (l.drop (k+1)):=by
 rw [List.drop_eq_getElem_cons hk]
 simp only [findM]
 rw [List.getD_eq_getElem?_getD,List.getElem?_eq_getElem hk];rfl
end Go.Proofs.YtnkcbephceollabGreat
namespace Go.Proofs.YtnkcbephceollabGreat
open Go.RowKit
set_option linter.unusedSimpArgs false
set_option linter.unusedVariables false
theorem Blk.set {w:World}{b:Nat}{vs:Array Value}(h:Blk w b vs)(i:Nat)(hi:i<vs.size)(x:Value):Blk (w.setCell ⟨b,i,none⟩ x) b (vs.setIfInBounds i x):=by
 refine ⟨fun o=>?_,fun o=>?_,?_⟩
 ·rw [Array.getElem?_setIfInBounds]
  by_cases e:i=o
  ·subst e
   rw [if_pos rfl,if_pos hi]
   have hc:=h.cell i
   rw [Array.getElem?_eq_getElem hi] at hc
   simp [go_sem,hc]
  ·rw [if_neg e,<-h.cell o]
   have:((⟨b,i,none⟩:Addr)=⟨b,o,none⟩)=False:=by simp [e]
   simp [go_sem,this,e,Ne.symm e]
 ·simp [go_sem,h.free o]
 ·simpa using h.lt
theorem Blk.drew {w:World}{b:Nat}{vs:Array Value}(h:Blk w b vs):Blk w.drew b vs:=⟨h.cell,h.free,h.lt⟩
theorem Blk.off {w:World}{b:Nat}{vs:Array Value}(h:Blk w b vs){p:Nat}(hne:b≠p)(i:Nat)(x:Value):Blk (w.setCell ⟨p,i,none⟩ x) b vs:=
 ⟨fun o=>(World.cell?_of_block (w:=w) (Below.heap_setCell w ⟨p,i,none⟩ x b hne)).trans (h.cell o),fun o=>by simpa using h.free o,by simpa using h.lt⟩
theorem Blk.off3 {w:World}{b:Nat}{vs:Array Value}(h:Blk w b vs){p:Nat}(hne:b≠p)(x y z:Value):Blk (((w.setCell ⟨p,0,none⟩ x).setCell ⟨p,1,none⟩ y).setCell ⟨p,2,none⟩ z) b vs:=
 ((
  h.off hne 0 x).off hne 1 y).off hne 2 z
theorem Blk.put3 {w:World}{p:Nat}{x y z x' y' z':Value}(h:Blk w p #[x,y,z]):Blk (((w.setCell ⟨p,0,none⟩ x').setCell ⟨p,1,none⟩ y').setCell ⟨p,2,none⟩ z') p #[x',y',z']:=
 ((
  h.set 0 (by simp) x').set 1 (by simp) y').set 2 (by simp) z'
theorem hide {p:Prop}(h:p):Hid p:=h
structure PtAt (w:World)(b o:Nat)(p:Pt):Prop where
 x:w.cell? ⟨b,o,none⟩=some (.int .i64 p.x)
 y:w.cell? ⟨b,o+1,none⟩=some (.int .i64 p.y)
 d:w.cell? ⟨b,o+2,none⟩=some (.int .i64 p.d)
theorem PtAt.later {w w':World}{b o:Nat}{p:Pt}{m:Nat}(h:PtAt w b o p)(hb:Below m w w')(hl:b<m):PtAt w' b o p:=
 ⟨(hb.cell (p:=⟨b,o,none⟩) hl).trans h.x,(hb.cell (p:=⟨b,o+1,none⟩) hl).trans h.y,(hb.cell (p:=⟨b,o+2,none⟩) hl).trans h.d⟩
def RingAt (w:World)(v:Value)(r:List Pt):Prop:=
 ∃ (a:Option Addr) (cap:Nat),v = .slice a r.length cap/\r.length<=cap/\cap<=maxLen/\∀ j,j<r.length->∃ b off,a=some ⟨b,off,none⟩/\b<w.heap.size/\PtAt w b (off+j*3) (r.getD j zP)
theorem RingAt.later {w w':World}{v:Value}{r:List Pt}(h:RingAt w v r)(hb:Below w.heap.size w w'):RingAt w' v r:=by
 obtain ⟨a,cap,rfl,h1,h2,h3⟩:=h
 refine ⟨a,cap,rfl,h1,h2,fun j hj=>?_⟩
 obtain ⟨b,off,rfl,hl,hp⟩:=h3 j hj
 exact ⟨b,off,rfl,Nat.lt_of_lt_of_le hl hb.size,hp.later hb hl⟩
def PolyAt (w:World)(v:Value)(P:List (List Pt)):Prop:=
 ∃ (a:Option Addr) (cap:Nat),v = .slice a P.length cap/\P.length<=cap/\cap<=maxLen/\∀ i,i<P.length->∃ b off rv,a=some ⟨b,off,none⟩/\b<w.heap.size/\w.cell? ⟨b,off+i,none⟩=some rv/\RingAt w rv (P.getD i [])
theorem PolyAt.later {w w':World}{v:Value}{P:List (List Pt)}(h:PolyAt w v P)(hb:Below w.heap.size w w'):PolyAt w' v P:=by
 obtain ⟨a,cap,rfl,h1,h2,h3⟩:=h
 refine ⟨a,cap,rfl,h1,h2,fun i hi=>?_⟩
 obtain ⟨b,off,rv,rfl,hl,hc,hr⟩:=h3 i hi
 exact ⟨b,off,rv,rfl,Nat.lt_of_lt_of_le hl hb.size,(hb.cell (p:=⟨b,off+i,none⟩) hl).trans hc,hr.later hb⟩
theorem ret_if {a b:Int}(h:a=b):Ending.returned (.int .i64 a) = .returned (.int .i64 b):=by rw [h]
structure SegAt (w:World)(b o:Nat)(e:Pt×Pt):Prop where
 c0:w.cell? ⟨b,o,none⟩=some (.int .i64 e.1.x)
 c1:w.cell? ⟨b,o+1,none⟩=some (.int .i64 e.1.y)
 c2:w.cell? ⟨b,o+2,none⟩=some (.int .i64 e.1.d)
 c3:w.cell? ⟨b,o+3,none⟩=some (.int .i64 e.2.x)
 c4:w.cell? ⟨b,o+4,none⟩=some (.int .i64 e.2.y)
 c5:w.cell? ⟨b,o+5,none⟩=some (.int .i64 e.2.d)
theorem SegAt.later {w w':World}{b o:Nat}{e:Pt×Pt}{m:Nat}(h:SegAt w b o e)(hb:Below m w w')(hl:b<m):SegAt w' b o e:=
 ⟨(hb.cell (p:=⟨b,o,none⟩) hl).trans h.c0,(hb.cell (p:=⟨b,o+1,none⟩) hl).trans h.c1,(hb.cell (p:=⟨b,o+2,none⟩) hl).trans h.c2,(hb.cell (p:=⟨b,o+3,none⟩) hl).trans h.c3,(hb.cell (p:=⟨b,o+4,none⟩) hl).trans h.c4,(hb.cell (p:=⟨b,o+5,none⟩) hl).trans h.c5⟩
def SegsAt (w:World)(v:Value)(E:List (Pt×Pt)):Prop:=
 ∃ (a:Option Addr) (cap:Nat),v = .slice a E.length cap/\E.length<=cap/\cap<=maxLen/\∀ j,j<E.length->∃ b off,a=some ⟨b,off,none⟩/\b<w.heap.size/\SegAt w b (off+j*6) (E.getD j (zP,zP))
theorem SegsAt.later {w w':World}{v:Value}{E:List (Pt×Pt)}(h:SegsAt w v E)(hb:Below w.heap.size w w'):SegsAt w' v E:=by
 obtain ⟨a,cap,rfl,h1,h2,h3⟩:=h
 refine ⟨a,cap,rfl,h1,h2,fun j hj=>?_⟩
 obtain ⟨b,off,rfl,hl,hp⟩:=h3 j hj
 exact ⟨b,off,rfl,Nat.lt_of_lt_of_le hl hb.size,hp.later hb hl⟩
end Go.Proofs.YtnkcbephceollabGreat
