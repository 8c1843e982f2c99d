import Derived.Test.YtnkcbephceollabGreatU2
namespace Go.Proofs.YtnkcbephceollabGreat
set_option linter.unusedVariables false
def yv (q v:Pt):Int:=v.y*q.d-q.y*v.d
def xv (q v:Pt):Int:=v.x*q.d-q.x*v.d
def upB (c:Bool)(q v:Pt):Bool:=decide (0<yv q v) || (c && decide (yv q v=0))
def rayB (c:Bool)(q a b:Pt):Bool:=(!upB c q a && upB c q b && decide (0<detM a b q)) || (upB c q a && !upB c q b && decide (detM a b q<0))
def apartB (m n:Int):Bool:=(decide (m<0) && decide (0<n)) || (decide (0<m) && decide (n<0))
def crossB (o q a b:Pt):Bool:=apartB (detM o q a) (detM o q b) && apartB (detM a b o) (detM a b q)
def onB (p a b:Pt):Bool:=decide (detM a b p=0) && withB p a b
theorem id1 (o q a b:Pt):yv q o*detM a b q=detM o q a*yv q b-detM o q b*yv q a:=by unfold yv detM;grind
theorem id2 (o q a b:Pt):yv q o*detM a b o=detM o q a*yv o b-detM o q b*yv o a:=by unfold yv detM;grind
theorem id3 (o q a b:Pt):q.d*detM a b o=o.d*detM a b q+a.d*detM o q b-b.d*detM o q a:=by unfold detM;grind
theorem id4 (q a b:Pt):q.d*detM a b q=xv q a*yv q b-xv q b*yv q a:=by unfold xv yv detM;grind
theorem id5 (o q a:Pt):q.d*detM o q a=yv q o*xv q a-xv q o*yv q a:=by unfold xv yv detM;grind
theorem det_sw (o q a:Pt):detM q o a = -detM o q a:=by unfold detM;grind
theorem det_sw2 (a b q:Pt):detM b a q = -detM a b q:=by unfold detM;grind
theorem yv_sw (o q:Pt):yv o q = -yv q o:=by unfold yv;grind
theorem mul_pp {a b:Int}(ha:0<a)(hb:0<b):0<a*b:=Int.mul_pos ha hb
theorem mul_np {a b:Int}(ha:a<0)(hb:0<b):a*b<0:=Int.mul_neg_of_neg_of_pos ha hb
theorem mul_pn {a b:Int}(ha:0<a)(hb:b<0):a*b<0:=Int.mul_neg_of_pos_of_neg ha hb
theorem mul_nn {a b:Int}(ha:a<0)(hb:b<0):0<a*b:=Int.mul_pos_of_neg_of_neg ha hb
theorem mul_gg {a b:Int}(ha:0<=a)(hb:0<=b):0<=a*b:=Int.mul_nonneg ha hb
theorem mul_gl {a b:Int}(ha:0<=a)(hb:b<=0):a*b<=0:=Int.mul_nonpos_of_nonneg_of_nonpos ha hb
theorem mul_lg {a b:Int}(ha:a<=0)(hb:0<=b):a*b<=0:=Int.mul_nonpos_of_nonpos_of_nonneg ha hb
theorem mul_ll {a b:Int}(ha:a<=0)(hb:b<=0):0<=a*b:=Int.mul_nonneg_of_nonpos_of_nonpos ha hb
section
variable {yo A B H ya yb:Int}{ua ub:Bool}
theorem ray_pm (h1:yo*H=A*yb-B*ya)(hy:yo<0)(hA:0<A)(hB:B<0)(hH:H≠0)(a1:ua=true->0<=ya)(a2:ua=false->ya<=0)(b1:ub=true->0<=yb)(b2:ub=false->yb<=0) :
  ((!ua && ub && decide (0<H)) || (ua && !ub && decide (H<0)))=(ub ^^ !decide (0<H)):=by
 rcases Int.lt_or_gt_of_ne hH with h | h
 ·have p:=mul_nn hy h
  have e1:decide (0<H)=false:=by simp;omega
  have e2:decide (H<0)=true:=by simp;omega
  rw [e1,e2]
  cases ua <;> cases ub
  ·have:=mul_gl (Int.le_of_lt hA) (b2 rfl);have:=mul_ll (Int.le_of_lt hB) (a2 rfl);omega
  ·rfl
  ·rfl
  ·rfl
 ·have p:=mul_np hy h
  have e1:decide (0<H)=true:=by simp;omega
  have e2:decide (H<0)=false:=by simp;omega
  rw [e1,e2]
  cases ua <;> cases ub
  ·rfl
  ·rfl
  ·rfl
  ·have:=mul_gg (Int.le_of_lt hA) (b1 rfl);have:=mul_lg (Int.le_of_lt hB) (a1 rfl);omega
theorem ray_pp (h1:yo*H=A*yb-B*ya)(hy:yo<0)(hA:0<A)(hB:0<B)(a1:ua=true->0<=ya)(a2:ua=false->ya<=0)(b1:ub=true->0<=yb)(b2:ub=false->yb<=0) :
  ((!ua && ub && decide (0<H)) || (ua && !ub && decide (H<0)))=false:=by
 cases ua <;> cases ub
 ·simp
 ·have:=mul_gg (Int.le_of_lt hA) (b1 rfl);have:=mul_gl (Int.le_of_lt hB) (a2 rfl)
  have : ¬ 0<H:=fun h=>by have:=mul_np hy h;omega
  simp;omega
 ·have:=mul_gl (Int.le_of_lt hA) (b2 rfl);have:=mul_gg (Int.le_of_lt hB) (a1 rfl)
  have : ¬ H<0:=fun h=>by have:=mul_nn hy h;omega
  simp;omega
 ·simp
theorem ray_mm (h1:yo*H=A*yb-B*ya)(hy:yo<0)(hA:A<0)(hB:B<0)(hH:ua≠ub->H≠0)(a1:ua=true->0<=ya)(a2:ua=false->ya<=0)(b1:ub=true->0<=yb)(b2:ub=false->yb<=0) :
  ((!ua && ub && decide (0<H)) || (ua && !ub && decide (H<0)))=(ua ^^ ub):=by
 cases ua <;> cases ub
 ·simp
 ·have:=mul_lg (Int.le_of_lt hA) (b1 rfl);have:=mul_ll (Int.le_of_lt hB) (a2 rfl)
  have:=hH (by simp)
  have:0<H:=by
   rcases Int.lt_or_gt_of_ne this with h | h
   ·have:=mul_nn hy h;omega
   ·exact h
  simp;omega
 ·have:=mul_ll (Int.le_of_lt hA) (b2 rfl);have:=mul_lg (Int.le_of_lt hB) (a1 rfl)
  have:=hH (by simp)
  have:H<0:=by
   rcases Int.lt_or_gt_of_ne this with h | h
   ·exact h
   ·have:=mul_np hy h;omega
  simp;omega
 ·simp
end
theorem up_true {c:Bool}{q v:Pt}(h:upB c q v=true):0<=yv q v:=by
 unfold upB at h;simp at h;omega
theorem up_false {c:Bool}{q v:Pt}(h:upB c q v=false):yv q v<=0:=by
 unfold upB at h;simp at h;omega
theorem up_same {c:Bool}{q a b:Pt}(h:yv q a=yv q b):upB c q a=upB c q b:=by
 unfold upB;rw [h]
theorem fr_trans {px pd qx qd rx rd:Int}(hp:0<pd)(hq:0<qd)(hr:0<rd)(h1:px*qd<=qx*pd)(h2:qx*rd<=rx*qd):px*rd<=rx*pd/\(px*rd=rx*pd->px*qd=qx*pd/\qx*rd=rx*qd):=by
 have m1:=Int.mul_le_mul_of_nonneg_right h1 (Int.le_of_lt hr)
 have m2:=Int.mul_le_mul_of_nonneg_right h2 (Int.le_of_lt hp)
 have r1:px*rd*qd=px*qd*rd:=Int.mul_right_comm ..
 have r2:rx*pd*qd=rx*qd*pd:=Int.mul_right_comm ..
 have r3:qx*rd*pd=qx*pd*rd:=Int.mul_right_comm ..
 have e:(px*rd)*qd<=(rx*pd)*qd:=by omega
 refine ⟨Int.le_of_mul_le_mul_right e hq,fun h=>?_⟩
 have e2:(px*rd)*qd=(rx*pd)*qd:=by rw [h]
 have n1:(px*qd)*rd=(qx*pd)*rd:=by omega
 have n2:(qx*rd)*pd=(rx*qd)*pd:=by omega
 exact ⟨Int.eq_of_mul_eq_mul_right (by omega) n1,Int.eq_of_mul_eq_mul_right (by omega) n2⟩
theorem bef_false (p q:Pt):befB p q=false↔(q.x*p.d<p.x*q.d\/(q.x*p.d=p.x*q.d/\q.y*p.d<=p.y*q.d)):=by
 rw [<-Bool.not_eq_true,bef_iff];omega
theorem bef_le {p q r:Pt}(hp:0<p.d)(hq:0<q.d)(hr:0<r.d)(h1:befB p q=true)(h2:befB r q=false):befB p r=true:=by
 rw [bef_iff] at h1
 rw [bef_false] at h2
 rw [bef_iff]
 have t:=fr_trans hp hq hr (px:=p.x) (qx:=q.x) (rx:=r.x) (by omega) (by omega)
 rcases Int.lt_or_eq_of_le t.1 with h | h
 ·exact .inl h
 ·obtain ⟨e1,e2⟩:=t.2 h
  have u:=fr_trans hp hq hr (px:=p.y) (qx:=q.y) (rx:=r.y) (by omega) (by omega)
  refine .inr ⟨h,?_⟩
  rcases Int.lt_or_eq_of_le u.1 with g | g
  ·exact g
  ·obtain ⟨g1,g2⟩:=u.2 g
   omega
theorem le_bef {p q r:Pt}(hp:0<p.d)(hq:0<q.d)(hr:0<r.d)(h1:befB q p=false)(h2:befB q r=true):befB p r=true:=by
 rw [bef_false] at h1
 rw [bef_iff] at h2
 rw [bef_iff]
 have t:=fr_trans hp hq hr (px:=p.x) (qx:=q.x) (rx:=r.x) (by omega) (by omega)
 rcases Int.lt_or_eq_of_le t.1 with h | h
 ·exact .inl h
 ·obtain ⟨e1,e2⟩:=t.2 h
  have u:=fr_trans hp hq hr (px:=p.y) (qx:=q.y) (rx:=r.y) (by omega) (by omega)
  refine .inr ⟨h,?_⟩
  rcases Int.lt_or_eq_of_le u.1 with g | g
  ·exact g
  ·obtain ⟨g1,g2⟩:=u.2 g
   omega
theorem with_ab {q a b:Pt}(hq:0<q.d)(ha:0<a.d)(hb:0<b.d)(h1:befB q a=false)(h2:befB b q=false):withB q a b=true:=by
 have e:befB b a=false:=by
  cases h:befB b a
  ·rfl
  ·exact absurd (bef_le hb ha hq h h1) (by rw [h2];simp)
 unfold withB loM hiM
 rw [e]
 simp [h1,h2]
theorem with_ba {q a b:Pt}(hq:0<q.d)(ha:0<a.d)(hb:0<b.d)(h1:befB q b=false)(h2:befB a q=false):withB q a b=true:=by
 unfold withB loM hiM
 by_cases h:befB b a=true
 ·simp [h,h1,h2]
 ·have h':befB b a=false:=by simpa using h
  have e1:befB q a=false:=by
   cases k:befB q a
   ·rfl
   ·exact absurd (bef_le hq ha hb k h') (by rw [h1];simp)
  have e2:befB b q=false:=by
   cases k:befB b q
   ·rfl
   ·exact absurd (le_bef ha hb hq h' k) (by rw [h2];simp)
  simp [h',e1,e2]
theorem bef_x (q v:Pt):befB q v=false↔(xv q v<0\/(xv q v=0/\yv q v<=0)):=by
 rw [bef_false];unfold xv yv;omega
theorem bef_x' (q v:Pt):befB v q=false↔(0<xv q v\/(xv q v=0/\0<=yv q v)):=by
 rw [bef_false];unfold xv yv;omega
theorem sgn_of {f g x y:Int}(h:f*x=g*y)(hf:f<=0)(hg:0<g):(0<x->y<=0)/\(x<0->0<=y)/\(x=0->y=0):=by
 refine ⟨fun hx=>?_,fun hx=>?_,fun hx=>?_⟩
 ·have:=mul_lg hf (Int.le_of_lt hx)
  rcases Int.lt_or_le 0 y with k | k
  ·have:=mul_pp hg k;omega
  ·exact k
 ·have:=mul_ll hf (Int.le_of_lt hx)
  rcases Int.lt_or_le y 0 with k | k
  ·have:=mul_pn hg k;omega
  ·exact k
 ·subst hx
  rcases Int.lt_trichotomy y 0 with k | k | k
  ·have:=mul_pn hg k;simp at h;omega
  ·exact k
  ·have:=mul_pp hg k;simp at h;omega
theorem zero_of {f g x y:Int}(h:f*x=g*y)(hg:g≠0)(hf:f=0):y=0:=by
 rw [hf,Int.zero_mul] at h
 rcases Int.mul_eq_zero.1 h.symm with e | e
 ·exact absurd e hg
 ·exact e
theorem with_1 {q a b:Pt}(hq:0<q.d)(ha:0<a.d)(hb:0<b.d){f1 f2:Int}(hx:f1*xv q b=f2*xv q a)(hy:f1*yv q b=f2*yv q a)(h1:f1<=0)(h2:0<f2):withB q a b=true:=by
 obtain ⟨x1,x2,x3⟩:=sgn_of hx h1 h2
 obtain ⟨y1,y2,y3⟩:=sgn_of hy h1 h2
 by_cases c:befB b q=false
 ·refine with_ab hq ha hb ?_ c
  rw [bef_x'] at c
  rw [bef_x]
  rcases c with c | ⟨c,d⟩
  ·have:=x1 c
   rcases Int.lt_or_eq_of_le this with k | k
   ·exact .inl k
   ·by_cases e:f1=0
    ·exact .inr ⟨k,by rw [zero_of hy (by omega) e];exact Int.le_refl _⟩
    ·exact absurd (zero_of ((Int.mul_comm ..).trans hx.symm) (show f1≠0 from e) k) (by omega)
  ·have:=x3 c
   refine .inr ⟨this,?_⟩
   rcases Int.lt_or_eq_of_le d with d | d
   ·exact y1 d
   ·have:=y3 d.symm;omega
 ·have c':befB b q=true:=by simpa using c
  have c2:befB q b=false:=by
   rw [bef_x];rw [bef_iff] at c';unfold xv yv;omega
  refine with_ba hq ha hb c2 ?_
  rw [bef_x] at c2
  rw [bef_x']
  rcases c2 with c | ⟨c,d⟩
  ·have:=x2 c
   rcases Int.lt_or_eq_of_le this with k | k
   ·exact .inl k
   ·by_cases e:f1=0
    ·exact .inr ⟨k.symm,by rw [zero_of hy (by omega) e];exact Int.le_refl _⟩
    ·exact absurd (zero_of ((Int.mul_comm ..).trans hx.symm) (show f1≠0 from e) k.symm) (by omega)
  ·have:=x3 c
   refine .inr ⟨this,?_⟩
   rcases Int.lt_or_eq_of_le d with d | d
   ·exact y2 d
   ·have:=y3 d;omega
theorem with_sym {q a b:Pt}(hq:0<q.d)(ha:0<a.d)(hb:0<b.d)(h:withB q b a=true):withB q a b=true:=by
 unfold withB loM hiM at h
 by_cases c:befB a b=true
 ·rw [if_pos c,if_pos c] at h
  simp at h
  exact with_ab hq ha hb h.1 h.2
 ·rw [if_neg c,if_neg c] at h
  simp at h
  exact with_ba hq ha hb h.1 h.2
theorem with_of {q a b:Pt}(hq:0<q.d)(ha:0<a.d)(hb:0<b.d){f1 f2:Int}(hx:f1*xv q b=f2*xv q a)(hy:f1*yv q b=f2*yv q a)(h:(f1<=0/\0<f2)\/(f1<0/\0<=f2)\/(0<=f1/\f2<0)\/(0<f1/\f2<=0)):withB q a b=true:=by
 rcases h with ⟨h1,h2⟩ | ⟨h1,h2⟩ | ⟨h1,h2⟩ | ⟨h1,h2⟩
 ·exact with_1 hq ha hb hx hy h1 h2
 ·exact with_sym hq ha hb (with_1 hq hb ha (f1:=-f2) (f2:=-f1) (by rw [Int.neg_mul,Int.neg_mul,hx]) (by rw [Int.neg_mul,Int.neg_mul,hy]) (by omega) (by omega))
 ·exact with_1 hq ha hb (f1:=-f1) (f2:=-f2) (by rw [Int.neg_mul,Int.neg_mul,hx]) (by rw [Int.neg_mul,Int.neg_mul,hy]) (by omega) (by omega)
 ·exact with_sym hq ha hb (with_1 hq hb ha (f1:=f2) (f2:=f1) hx.symm hy.symm h2 h1)
theorem col_x {al be x1 y1 x2 y2:Int}(h:x1*y2-x2*y1=0):(al*x1+be*y1)*x2=(al*x2+be*y2)*x1/\(al*x1+be*y1)*y2=(al*x2+be*y2)*y1:=by
 constructor <;> grind
section
variable {o q a b:Pt}(hq:0<q.d)(ha:0<a.d)(hb:0<b.d)
include hq ha hb
theorem nz_cross (hon:onB q a b=false)(h:(detM o q a<0/\0<detM o q b)\/(0<detM o q a/\detM o q b<0)):detM a b q≠0:=by
 intro e
 have c:xv q a*yv q b-xv q b*yv q a=0:=by rw [<-id4,e];simp
 have m:=col_x (al:=yv q o) (be:=-xv q o) c
 have ea:=id5 o q a
 have eb:=id5 o q b
 have w:withB q a b=true:=by
  refine with_of hq ha hb m.1 m.2 ?_
  have ea':yv q o*xv q a + -xv q o*yv q a=q.d*detM o q a:=by rw [ea];grind
  have eb':yv q o*xv q b + -xv q o*yv q b=q.d*detM o q b:=by rw [eb];grind
  rw [ea',eb']
  rcases h with ⟨h1,h2⟩ | ⟨h1,h2⟩
  ·exact .inl ⟨Int.le_of_lt (mul_pn hq h1),mul_pp hq h2⟩
  ·exact .inr (.inr (.inl ⟨Int.le_of_lt (mul_pp hq h1),mul_pn hq h2⟩))
 unfold onB at hon
 rw [w,e] at hon
 simp at hon
theorem nz_up (c:Bool)(hon:onB q a b=false)(h:upB c q a≠upB c q b):detM a b q≠0:=by
 intro e
 have cc:xv q a*yv q b-xv q b*yv q a=0:=by rw [<-id4,e];simp
 have m:=col_x (al:=0) (be:=1) cc
 simp only [Int.zero_mul,Int.zero_add,Int.one_mul] at m
 have hne:yv q a≠yv q b:=fun k=>h (up_same k)
 have w:withB q a b=true:=by
  refine with_of hq ha hb m.1 m.2 ?_
  cases ua:upB c q a <;> cases ub:upB c q b
  ·rw [ua,ub] at h;exact absurd rfl h
  ·have:=up_false ua;have:=up_true ub;omega
  ·have:=up_true ua;have:=up_false ub;omega
  ·rw [ua,ub] at h;exact absurd rfl h
 unfold onB at hon
 rw [w,e] at hon
 simp at hon
end
end Go.Proofs.YtnkcbephceollabGreat
namespace Go.Proofs.YtnkcbephceollabGreat
set_option linter.unusedVariables false
set_option linter.unusedSimpArgs false
def sB (c:Bool)(o q v:Pt):Bool:=(if yv q o<0 then decide (detM o q v<0) else decide (0<detM o q v)) && (upB c o v ^^ upB c q v)
theorem apart_no {m n:Int}(h:(0<m/\0<n)\/(m<0/\n<0)):apartB m n=false:=by
 unfold apartB
 rcases h with ⟨h1,h2⟩ | ⟨h1,h2⟩ <;> simp <;> omega
theorem apart_yes {m n:Int}(h:(0<m/\n<0)\/(m<0/\0<n)):apartB m n=true:=by
 unfold apartB
 rcases h with ⟨h1,h2⟩ | ⟨h1,h2⟩ <;> simp [h1,h2]
theorem apart_sw (m n:Int):apartB m n=apartB n m:=by
 unfold apartB
 cases decide (m<0) <;> cases decide (0<n) <;> cases decide (0<m) <;> cases decide (n<0) <;> rfl
theorem apart_neg (m n:Int):apartB (-m) (-n)=apartB m n:=by
 unfold apartB
 have e1:decide (-m<0)=decide (0<m):=by congr 1;exact propext (by omega)
 have e2:decide (0 < -n)=decide (n<0):=by congr 1;exact propext (by omega)
 have e3:decide (0 < -m)=decide (m<0):=by congr 1;exact propext (by omega)
 have e4:decide (-n<0)=decide (0<n):=by congr 1;exact propext (by omega)
 rw [e1,e2,e3,e4,Bool.or_comm]
theorem cross_sw (o q a b:Pt):crossB q o a b=crossB o q a b:=by
 unfold crossB
 rw [det_sw o q a,det_sw o q b,apart_neg,apart_sw (detM a b q)]
theorem cross_sw2 (o q a b:Pt):crossB o q b a=crossB o q a b:=by
 unfold crossB
 rw [det_sw2 a b o,det_sw2 a b q,apart_neg,apart_sw (detM o q b)]
theorem ray_sw (c:Bool)(q a b:Pt):rayB c q b a=rayB c q a b:=by
 unfold rayB
 rw [det_sw2 a b q]
 have e1:decide (0 < -detM a b q)=decide (detM a b q<0):=by congr 1;exact propext (by omega)
 have e2:decide (-detM a b q<0)=decide (0<detM a b q):=by congr 1;exact propext (by omega)
 rw [e1,e2]
 cases upB c q a <;> cases upB c q b <;> simp
theorem on_sw {q a b:Pt}(hq:0<q.d)(ha:0<a.d)(hb:0<b.d)(h:onB q a b=false):onB q b a=false:=by
 cases k:onB q b a
 ·rfl
 ·unfold onB at k h
  simp at k
  have e:detM a b q=0:=by have:=det_sw2 a b q;omega
  rw [e,with_sym hq ha hb k.2] at h
  simp at h
section
variable {o q a b:Pt}(ho:0<o.d)(hq:0<q.d)(ha:0<a.d)(hb:0<b.d)
include ho hq ha hb
theorem edge_pm (c:Bool)(hy:yv q o<0)(hA:0<detM o q a)(hB:detM o q b<0)(h1:onB q a b=false)(h2:onB o a b=false) :
  (crossB o q a b ^^ rayB c q a b ^^ rayB c o a b)=(sB c o q a ^^ sB c o q b):=by
 have nH:=nz_cross (o:=o) hq ha hb h1 (.inr ⟨hA,hB⟩)
 have nG:=nz_cross (o:=q) ho ha hb h2 (.inl ⟨by rw [det_sw];omega,by rw [det_sw];omega⟩)
 have r1:rayB c q a b=_:=ray_pm (id1 o q a b) hy hA hB nH up_true up_false up_true up_false
 have r2:rayB c o a b=_:=ray_pm (id2 o q a b) hy hA hB nG up_true up_false up_true up_false
 have gh:0<detM a b o->0<detM a b q:=fun g=>by
  have e:=id3 o q a b
  have p1:=mul_pp hq g
  have p2:=mul_pn ha hB
  have p3:=mul_pp hb hA
  rcases Int.lt_or_le 0 (detM a b q) with k | k
  ·exact k
  ·have:=mul_gl (Int.le_of_lt ho) k;omega
 have cr:crossB o q a b=(decide (0<detM a b q) ^^ decide (0<detM a b o)):=by
  unfold crossB
  rw [apart_yes (.inl ⟨hA,hB⟩),Bool.true_and]
  rcases Int.lt_or_gt_of_ne nG with g | g
  ·rcases Int.lt_or_gt_of_ne nH with k | k
   ·rw [apart_no (.inr ⟨g,k⟩)]
    have e1:decide (0<detM a b q)=false:=by simp;omega
    have e2:decide (0<detM a b o)=false:=by simp;omega
    rw [e1,e2];rfl
   ·rw [apart_yes (.inr ⟨g,k⟩)]
    have e1:decide (0<detM a b q)=true:=by simp;omega
    have e2:decide (0<detM a b o)=false:=by simp;omega
    rw [e1,e2];rfl
  ·have k:=gh g
   rw [apart_no (.inl ⟨g,k⟩)]
   have e1:decide (0<detM a b q)=true:=by simp;omega
   have e2:decide (0<detM a b o)=true:=by simp;omega
   rw [e1,e2];rfl
 rw [r1,r2,cr]
 have s1:sB c o q a=false:=by
  unfold sB
  rw [if_pos hy]
  have:decide (detM o q a<0)=false:=by simp;omega
  rw [this];rfl
 have s2:sB c o q b=(upB c o b ^^ upB c q b):=by
  unfold sB
  rw [if_pos hy]
  have:decide (detM o q b<0)=true:=by simp;omega
  rw [this];rfl
 rw [s1,s2]
 cases decide (0<detM a b q) <;> cases decide (0<detM a b o) <;> cases upB c o b <;> cases upB c q b <;> rfl
theorem edge_neg (c:Bool)(hy:yv q o<0)(hA:detM o q a≠0)(hB:detM o q b≠0)(h1:onB q a b=false)(h2:onB o a b=false) :
  (crossB o q a b ^^ rayB c q a b ^^ rayB c o a b)=(sB c o q a ^^ sB c o q b):=by
 rcases Int.lt_or_gt_of_ne hA with kA | kA <;> rcases Int.lt_or_gt_of_ne hB with kB | kB
 ·have r1:rayB c q a b=_:=ray_mm (id1 o q a b) hy kA kB (nz_up hq ha hb c h1) up_true up_false up_true up_false
  have r2:rayB c o a b=_:=ray_mm (id2 o q a b) hy kA kB (nz_up ho ha hb c h2) up_true up_false up_true up_false
  have cr:crossB o q a b=false:=by unfold crossB;rw [apart_no (.inr ⟨kA,kB⟩)];rfl
  rw [r1,r2,cr]
  unfold sB
  rw [if_pos hy,if_pos hy]
  have e1:decide (detM o q a<0)=true:=by simp;omega
  have e2:decide (detM o q b<0)=true:=by simp;omega
  rw [e1,e2]
  cases upB c o a <;> cases upB c q a <;> cases upB c o b <;> cases upB c q b <;> rfl
 ·have:=edge_pm (o:=o) (q:=q) (a:=b) (b:=a) ho hq hb ha c hy kB kA (on_sw hq ha hb h1) (on_sw ho ha hb h2)
  rw [cross_sw2,ray_sw c q a b,ray_sw c o a b] at this
  rw [this,Bool.xor_comm]
 ·exact edge_pm ho hq ha hb c hy kA kB h1 h2
 ·have r1:rayB c q a b=_:=ray_pp (id1 o q a b) hy kA kB up_true up_false up_true up_false
  have r2:rayB c o a b=_:=ray_pp (id2 o q a b) hy kA kB up_true up_false up_true up_false
  have cr:crossB o q a b=false:=by unfold crossB;rw [apart_no (.inl ⟨kA,kB⟩)];rfl
  rw [r1,r2,cr]
  unfold sB
  rw [if_pos hy,if_pos hy]
  have e1:decide (detM o q a<0)=false:=by simp;omega
  have e2:decide (detM o q b<0)=false:=by simp;omega
  rw [e1,e2];rfl
omit ho hq ha hb in
theorem yo_id (o q v:Pt):q.d*yv o v=o.d*yv q v-v.d*yv q o:=by unfold yv;grind
omit ha hb in
theorem up_level (c:Bool)(v:Pt)(hy:yv q o=0):upB c o v=upB c q v:=by
 have e:=yo_id o q v
 rw [hy,Int.mul_zero,Int.sub_zero] at e
 have k1:0<yv o v↔0<yv q v:=by
  constructor
  ·intro h
   have:=mul_pp hq h
   rcases Int.lt_or_le 0 (yv q v) with k | k
   ·exact k
   ·have:=mul_gl (Int.le_of_lt ho) k;omega
  ·intro h
   have:=mul_pp ho h
   rcases Int.lt_or_le 0 (yv o v) with k | k
   ·exact k
   ·have:=mul_gl (Int.le_of_lt hq) k;omega
 have k2:yv o v=0↔yv q v=0:=by
  constructor
  ·intro h
   exact zero_of ((Int.mul_comm ..).trans e) (by omega) h
  ·intro h
   exact zero_of ((Int.mul_comm ..).trans e.symm) (by omega) h
 unfold upB
 rw [decide_eq_decide.2 k1,decide_eq_decide.2 k2]
theorem edge_zero (c:Bool)(hy:yv q o=0)(hA:detM o q a≠0)(hB:detM o q b≠0)(h1:onB q a b=false)(h2:onB o a b=false) :
  (crossB o q a b ^^ rayB c q a b ^^ rayB c o a b)=(sB c o q a ^^ sB c o q b):=by
 have s:∀ v,sB c o q v=false:=fun v=>by
  unfold sB
  rw [up_level ho hq c v hy]
  cases upB c q v <;> simp
 rw [s,s]
 have fa:=id5 o q a
 have fb:=id5 o q b
 rw [hy] at fa fb
 simp only [Int.zero_mul,Int.zero_sub] at fa fb
 have za:yv q a≠0:=fun e=>by
  rw [e,Int.mul_zero,Int.neg_zero] at fa
  rcases Int.mul_eq_zero.1 fa with k | k <;> omega
 have zb:yv q b≠0:=fun e=>by
  rw [e,Int.mul_zero,Int.neg_zero] at fb
  rcases Int.mul_eq_zero.1 fb with k | k <;> omega
 have xo:xv q o≠0:=fun e=>by
  rw [e,Int.zero_mul,Int.neg_zero] at fa
  rcases Int.mul_eq_zero.1 fa with k | k <;> omega
 have u:∀ v,yv q v≠0->upB c q v=decide (0<yv q v):=fun v h=>by
  unfold upB
  have:decide (yv q v=0)=false:=by simp [h]
  rw [this];simp
 have sa:(detM o q a<0↔0<xv q o*yv q a):=by
  constructor
  ·intro h;have:=mul_pn hq h;omega
  ·intro h
   rcases Int.lt_or_gt_of_ne hA with k | k
   ·exact k
   ·have:=mul_pp hq k;omega
 have sb:(detM o q b<0↔0<xv q o*yv q b):=by
  constructor
  ·intro h;have:=mul_pn hq h;omega
  ·intro h
   rcases Int.lt_or_gt_of_ne hB with k | k
   ·exact k
   ·have:=mul_pp hq k;omega
 have same:(decide (0<yv q a)=decide (0<yv q b))->((0<detM o q a/\0<detM o q b)\/(detM o q a<0/\detM o q b<0)):=fun h=>by
  have h':(0<yv q a↔0<yv q b):=decide_eq_decide.1 h
  have k:(0<xv q o*yv q a↔0<xv q o*yv q b):=by
   rcases Int.lt_or_gt_of_ne xo with x | x <;> rcases Int.lt_or_gt_of_ne za with y | y
   ·have y2:yv q b<0:=by omega
    exact ⟨fun _=>mul_nn x y2,fun _=>mul_nn x y⟩
   ·have y2:0<yv q b:=by omega
    have:=mul_np x y;have:=mul_np x y2
    constructor <;> intro <;> omega
   ·have y2:yv q b<0:=by omega
    have:=mul_pn x y;have:=mul_pn x y2
    constructor <;> intro <;> omega
   ·have y2:0<yv q b:=by omega
    exact ⟨fun _=>mul_pp x y2,fun _=>mul_pp x y⟩
  omega
 have diff:(decide (0<yv q a)≠decide (0<yv q b))->((0<detM o q a/\detM o q b<0)\/(detM o q a<0/\0<detM o q b)):=fun h=>by
  have h' : ¬ (0<yv q a↔0<yv q b):=fun k=>h (decide_eq_decide.2 k)
  have k : ¬ (0<xv q o*yv q a↔0<xv q o*yv q b):=by
   rcases Int.lt_or_gt_of_ne xo with x | x <;> rcases Int.lt_or_gt_of_ne za with y | y
   ·have y2:0<yv q b:=by omega
    have:=mul_nn x y;have:=mul_np x y2
    intro e;omega
   ·have y2:yv q b<0:=by omega
    have:=mul_np x y;have:=mul_nn x y2
    intro e;omega
   ·have y2:0<yv q b:=by omega
    have:=mul_pn x y;have:=mul_pp x y2
    intro e;omega
   ·have y2:yv q b<0:=by omega
    have:=mul_pp x y;have:=mul_pn x y2
    intro e;omega
  omega
 unfold rayB
 rw [up_level ho hq c a hy,up_level ho hq c b hy,u a za,u b zb]
 by_cases e:decide (0<yv q a)=decide (0<yv q b)
 ·have cr:crossB o q a b=false:=by unfold crossB;rw [apart_no (same e)];rfl
  rw [cr,e]
  cases decide (0<yv q b) <;> rfl
 ·have d:=diff e
  have nH:=nz_cross (o:=o) hq ha hb h1 (by omega)
  have nG:=nz_cross (o:=q) ho ha hb h2 (by rw [det_sw,det_sw o q b];omega)
  have cr:crossB o q a b=apartB (detM a b o) (detM a b q):=by unfold crossB;rw [apart_yes d];rfl
  rw [cr]
  unfold apartB
  have g1:decide (detM a b q<0) = !decide (0<detM a b q):=by
   rcases Int.lt_or_gt_of_ne nH with k | k
   ·have x1:decide (detM a b q<0)=true:=by simp;omega
    have x2:decide (0<detM a b q)=false:=by simp;omega
    rw [x1,x2];rfl
   ·have x1:decide (detM a b q<0)=false:=by simp;omega
    have x2:decide (0<detM a b q)=true:=by simp;omega
    rw [x1,x2];rfl
  have g2:decide (detM a b o<0) = !decide (0<detM a b o):=by
   rcases Int.lt_or_gt_of_ne nG with k | k
   ·have x1:decide (detM a b o<0)=true:=by simp;omega
    have x2:decide (0<detM a b o)=false:=by simp;omega
    rw [x1,x2];rfl
   ·have x1:decide (detM a b o<0)=false:=by simp;omega
    have x2:decide (0<detM a b o)=true:=by simp;omega
    rw [x1,x2];rfl
  rw [g1,g2]
  revert e
  cases decide (0<yv q a) <;> cases decide (0<yv q b) <;> cases decide (0<detM a b q) <;> cases decide (0<detM a b o) <;> simp
theorem edge_par (c:Bool)(hA:detM o q a≠0)(hB:detM o q b≠0)(h1:onB q a b=false)(h2:onB o a b=false) :
  (crossB o q a b ^^ rayB c q a b ^^ rayB c o a b)=(sB c o q a ^^ sB c o q b):=by
 rcases Int.lt_trichotomy (yv q o) 0 with hy | hy | hy
 ·exact edge_neg ho hq ha hb c hy hA hB h1 h2
 ·exact edge_zero ho hq ha hb c hy hA hB h1 h2
 ·have e:=yv_sw o q
  have hy':yv o q<0:=by omega
  have:=edge_neg (o:=q) (q:=o) hq ho ha hb c hy' (by rw [det_sw];omega) (by rw [det_sw];omega) h2 h1
  rw [cross_sw] at this
  have s:∀ v,sB c q o v=sB c o q v:=fun v=>by
   unfold sB
   rw [if_pos hy',if_neg (by omega),det_sw o q v,Bool.xor_comm]
   have:decide (-detM o q v<0)=decide (0<detM o q v):=by congr 1;exact propext (by omega)
   rw [this]
  rw [s,s] at this
  rw [<-this]
  cases crossB o q a b <;> cases rayB c q a b <;> cases rayB c o a b <;> rfl
end
def parB (f:Pt->Pt->Bool):List (Pt×Pt)->Bool
 | []=>false
 | e::l=>f e.1 e.2 ^^ parB f l
theorem parB_app (f:Pt->Pt->Bool):∀ l m,parB f (l ++ m)=(parB f l ^^ parB f m)
 | [],m=>by simp [parB]
 | e::l,m=>by simp only [List.cons_append,parB,parB_app f l m,Bool.xor_assoc]
theorem parB_congr {f g:Pt->Pt->Bool}:∀ {l:List (Pt×Pt)},(∀ e∈l,f e.1 e.2=g e.1 e.2)->parB f l=parB g l
 | [],_=>rfl
 | e::l,h=>by simp only [parB,h e (List.mem_cons_self ..),parB_congr (fun x hx=>h x (List.mem_cons_of_mem _ hx))]
theorem parB_xor (f g:Pt->Pt->Bool):∀ l,parB (fun a b=>f a b ^^ g a b) l=(parB f l ^^ parB g l)
 | []=>rfl
 | e::l=>by
  simp only [parB,parB_xor f g l]
  cases f e.1 e.2 <;> cases g e.1 e.2 <;> cases parB f l <;> cases parB g l <;> rfl
theorem parB_count (f:Pt->Pt->Bool):∀ l,parB f l=decide (l.countP (fun e=>f e.1 e.2) % 2=1)
 | []=>rfl
 | e::l=>by
  rw [parB,parB_count f l,List.countP_cons]
  cases f e.1 e.2
  ·simp
  ·simp only [Bool.true_xor,if_true]
   have:=Nat.mod_two_eq_zero_or_one (l.countP fun e=>f e.1 e.2)
   rcases this with h | h
   ·have e2:(l.countP (fun e=>f e.1 e.2)+1) % 2=1:=by omega
    rw [h,e2];rfl
   ·have e2:(l.countP (fun e=>f e.1 e.2)+1) % 2=0:=by omega
    rw [h,e2];rfl
def xr (g:Nat->Bool):Nat->Bool
 | 0=>false
 | k+1=>xr g k ^^ g k
theorem parB_range (f:Pt->Pt->Bool)(e:Nat->Pt×Pt):∀ n,parB f ((List.range n).map e)=xr (fun j=>f (e j).1 (e j).2) n
 | 0=>rfl
 | n+1=>by rw [List.range_succ,List.map_append,parB_app,parB_range f e n];simp [parB,xr]
theorem tele (t:Nat->Bool)(n:Nat):∀ k,k<n->xr (fun j=>t j ^^ t (if j+1=n then 0 else j+1)) k=(t 0 ^^ t k)
 | 0,_=>by simp [xr]
 | k+1,h=>by
  rw [xr,tele t n k (by omega),if_neg (by omega)]
  cases t 0 <;> cases t k <;> cases t (k+1) <;> rfl
theorem ring_even (s:Pt->Bool)(r:List Pt):parB (fun a b=>s a ^^ s b) (ringEdges r)=false:=by
 unfold ringEdges
 rw [parB_range]
 unfold edgeAt
 simp only
 cases h:r.length with
 | zero=>rfl
 | succ k=>
  have:=tele (fun j=>s (r.getD j zP)) (k+1) k (by omega)
  rw [xr,this,if_pos rfl]
  cases s (r.getD 0 zP) <;> cases s (r.getD k zP) <;> rfl
theorem poly_even (s:Pt->Bool):∀ P:List (List Pt),parB (fun a b=>s a ^^ s b) (edgesM P)=false
 | []=>rfl
 | r::P=>by
  have e:edgesM (r::P)=ringEdges r ++ edgesM P:=by simp [edgesM]
  rw [e,parB_app,ring_even,poly_even s P];rfl
theorem edge_ends {P:List (List Pt)}{e:Pt×Pt}(h:e∈edgesM P):e.1∈P.flatten/\e.2∈P.flatten:=by
 unfold edgesM at h
 obtain ⟨r,hr,h⟩:=List.mem_flatMap.1 h
 unfold ringEdges at h
 obtain ⟨j,hj,rfl⟩:=List.mem_map.1 h
 have hj':j<r.length:=by simpa using hj
 have g:∀ i,i<r.length->r.getD i zP∈P.flatten:=fun i hi=>by
  rw [List.getD_eq_getElem?_getD,List.getElem?_eq_getElem hi]
  exact List.mem_flatten.2 ⟨r,hr,List.getElem_mem hi⟩
 unfold edgeAt
 exact ⟨g j hj',g _ (by split <;> omega)⟩
theorem far_on {o a b:Pt}(ho:0<o.d)(ha:0<xv o a)(hb:0<xv o b):onB o a b=false:=by
 have h:∀ v,0<xv o v->befB o v=true:=fun v hv=>by
  cases k:befB o v
  ·rw [bef_x] at k;omega
  ·rfl
 unfold onB withB loM
 by_cases c:befB b a=true
 ·rw [if_pos c,h b hb];simp
 ·rw [if_neg c,h a ha];simp
theorem far_ray {o a b:Pt}(c:Bool)(ho:0<o.d)(ha:0<xv o a)(hb:0<xv o b):rayB c o a b=(upB c o a ^^ upB c o b):=by
 have e:=id4 o a b
 unfold rayB
 cases ua:upB c o a <;> cases ub:upB c o b
 ·simp
 ·have y1:=up_false ua
  have y2:=up_true ub
  have ne:yv o a≠yv o b:=fun k=>by have:=up_same (c:=c) k;rw [ua,ub] at this;cases this
  have:0<detM a b o:=by
   rcases Int.lt_or_le 0 (detM a b o) with k | k
   ·exact k
   ·have:=mul_gl (Int.le_of_lt ho) k
    have p1:=mul_gg (Int.le_of_lt ha) y2
    have p2:=mul_gl (Int.le_of_lt hb) y1
    have z1:xv o a*yv o b=0:=by omega
    have z2:xv o b*yv o a=0:=by omega
    rcases Int.mul_eq_zero.1 z1 with z | z
    ·omega
    ·rcases Int.mul_eq_zero.1 z2 with z' | z' <;> omega
  simp [this]
 ·have y1:=up_true ua
  have y2:=up_false ub
  have ne:yv o a≠yv o b:=fun k=>by have:=up_same (c:=c) k;rw [ua,ub] at this;cases this
  have:detM a b o<0:=by
   rcases Int.lt_or_le (detM a b o) 0 with k | k
   ·exact k
   ·have:=mul_gg (Int.le_of_lt ho) k
    have p1:=mul_gl (Int.le_of_lt ha) y2
    have p2:=mul_gg (Int.le_of_lt hb) y1
    have z1:xv o a*yv o b=0:=by omega
    have z2:xv o b*yv o a=0:=by omega
    rcases Int.mul_eq_zero.1 z1 with z | z
    ·omega
    ·rcases Int.mul_eq_zero.1 z2 with z' | z' <;> omega
  simp [this]
 ·simp
theorem parity (c:Bool){o q:Pt}{P:List (List Pt)}(ho:0<o.d)(hq:0<q.d)(hd:∀ v∈P.flatten,0<v.d)(hl:∀ v∈P.flatten,0<xv o v)(hA:∀ v∈P.flatten,detM o q v≠0)(hon:∀ e∈edgesM P,onB q e.1 e.2=false) :
  parB (crossB o q) (edgesM P)=parB (rayB c q) (edgesM P):=by
 have h1:parB (fun a b=>crossB o q a b ^^ rayB c q a b ^^ rayB c o a b) (edgesM P)=parB (fun a b=>sB c o q a ^^ sB c o q b) (edgesM P):=
  parB_congr fun e he=>by
   obtain ⟨m1,m2⟩:=edge_ends he
   exact edge_par ho hq (hd _ m1) (hd _ m2) c (hA _ m1) (hA _ m2) (hon e he) (far_on ho (hl _ m1) (hl _ m2))
 have h2:parB (rayB c o) (edgesM P)=parB (fun a b=>upB c o a ^^ upB c o b) (edgesM P):=
  parB_congr fun e he=>by
   obtain ⟨m1,m2⟩:=edge_ends he
   exact far_ray c ho (hl _ m1) (hl _ m2)
 rw [poly_even] at h1 h2
 have h3:=parB_xor (fun a b=>crossB o q a b ^^ rayB c q a b) (rayB c o) (edgesM P)
 have h4:=parB_xor (crossB o q) (rayB c q) (edgesM P)
 rw [h4,h2] at h3
 rw [h3] at h1
 revert h1
 cases parB (crossB o q) (edgesM P) <;> cases parB (rayB c q) (edgesM P) <;> simp
def leftB (c:Bool)(q a b:Pt):Bool:=(!upB c q a && upB c q b && decide (detM a b q<0)) || (upB c q a && !upB c q b && decide (0<detM a b q))
theorem left_right (c:Bool){q:Pt}{P:List (List Pt)}(hq:0<q.d)(hd:∀ v∈P.flatten,0<v.d)(hon:∀ e∈edgesM P,onB q e.1 e.2=false) :
  parB (leftB c q) (edgesM P)=parB (rayB c q) (edgesM P):=by
 have h:parB (fun a b=>leftB c q a b ^^ rayB c q a b) (edgesM P)=parB (fun a b=>upB c q a ^^ upB c q b) (edgesM P):=
  parB_congr fun e he=>by
   obtain ⟨m1,m2⟩:=edge_ends he
   have nz:=nz_up hq (hd _ m1) (hd _ m2) c (hon e he)
   unfold leftB rayB
   cases ua:upB c q e.1 <;> cases ub:upB c q e.2
   ·simp
   ·have:=nz (by rw [ua,ub];simp)
    rcases Int.lt_or_gt_of_ne this with k | k
    ·have x : ¬ 0<detM e.1 e.2 q:=by omega
     simp [k,x]
    ·have x : ¬ detM e.1 e.2 q<0:=by omega
     simp [k,x]
   ·have:=nz (by rw [ua,ub];simp)
    rcases Int.lt_or_gt_of_ne this with k | k
    ·have x : ¬ 0<detM e.1 e.2 q:=by omega
     simp [k,x]
    ·have x : ¬ detM e.1 e.2 q<0:=by omega
     simp [k,x]
   ·simp
 rw [poly_even,parB_xor] at h
 revert h
 cases parB (leftB c q) (edgesM P) <;> cases parB (rayB c q) (edgesM P) <;> simp
end Go.Proofs.YtnkcbephceollabGreat
