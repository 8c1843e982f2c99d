import Derived.Test.YtnkcbephceollabGreatU20
namespace Go.Proofs.YtnkcbephceollabGreat
set_option linter.unusedVariables false
set_option linter.unusedSimpArgs false
theorem bounded {α:Type}(f:α->Int):∀ l:List α,∃ K:Int,0<K/\∀ x∈l,-K<f x/\f x<K
 | []=>⟨1,by decide,fun x hx=>by cases hx⟩
 | x::l=>by
  obtain ⟨K,h0,h⟩:=bounded f l
  refine ⟨K+(f x).natAbs,by omega,fun y hy=>?_⟩
  rcases List.mem_cons.1 hy with rfl | hy
  ·omega
  ·have:=h y hy;omega
theorem way_mid {o m:Pt}{P:List (List Pt)}(ho:0<o.d)(hm:0<m.d)(hd:∀ v∈P.flatten,0<v.d)(hl:∀ v∈P.flatten,0<xv o v)(hA:∀ v∈P.flatten,detM o m v≠0)(hne:∀ e∈edgesM P,befB e.1 e.2=true\/befB e.2 e.1=true) :
  (parB (crossB o m) (edgesM P) ^^ parB (fun a b=>onB m a b) (edgesM P))=(parB (overB m) (edgesM P) ^^ parB (thrB o m) (edgesM P)):=by
 obtain ⟨K1,p1,h1⟩:=bounded (fun v=>yv m v) P.flatten
 obtain ⟨K2,p2,h2⟩:=bounded (fun v=>yv o v) P.flatten
 obtain ⟨K3,p3,h3⟩:=bounded (fun e:Pt×Pt=>yv e.1 e.2) (edgesM P)
 obtain ⟨K,hK⟩:∃ K,K=K1+K2+K3:=⟨_,rfl⟩
 obtain ⟨T1,t1,g1⟩:=bounded (fun v=>yv (shP K o) (shP K v)) P.flatten
 obtain ⟨T2,t2,g2⟩:=bounded (fun e:Pt×Pt=>detM e.1 e.2 o) (edgesM P)
 obtain ⟨T,hT⟩:∃ T,T=T1+T2+o.d:=⟨_,rfl⟩
 have hT0:0<T:=by omega
 have upd:∀ u v,upB false u v=decide (0<yv u v):=fun u v=>by unfold upB;simp
 have po:∀ v∈P.flatten,0<yv (shP K o) (shP K v)/\yv (shP K o) (shP K v)<T:=fun v hv=>by
  have b:=h2 v hv
  have u:=sh_up (K:=K) (q:=o) (v:=v) (by omega) (by omega)
  rw [upd] at u
  have bf:befB o v=true:=by
   cases k:befB o v
   ·rw [bef_x] at k;have:=hl v hv;omega
   ·rfl
  rw [bf] at u
  have g:=g1 v hv
  exact ⟨of_decide_eq_true u,by omega⟩
 have km:∀ v∈P.flatten,-K<yv m v/\yv m v<K:=fun v hv=>by have:=h1 v hv;omega
 have ke:∀ e∈edgesM P,-K<yv e.1 e.2/\yv e.1 e.2<K:=fun e he=>by have:=h3 e he;omega
 have te:∀ e∈edgesM P,-T<detM e.1 e.2 o/\detM e.1 e.2 o<T:=fun e he=>by have:=g2 e he;omega
 have dp:0<(pastP T o m).d:=by
  have:T*m.d ≥ T*1:=Int.mul_le_mul_of_nonneg_left (by omega) (by omega)
  show 0<T*m.d-o.d
  omega
 have on':∀ e∈edgesM (shL K P),onB (shP K (pastP T o m)) e.1 e.2=false:=fun e he=>by
  rw [sh_edges] at he
  obtain ⟨e',he',rfl⟩:=List.mem_map.1 he
  obtain ⟨m1,m2⟩:=edge_ends he'
  rw [sh_on]
  unfold onB
  have:=past_nz ho hm (hd _ m1) (hd _ m2) (km _ m1) (km _ m2) (ke _ he') (hA _ m1) (hA _ m2) (hne _ he') (te _ he')
  simp [this]
 have hd':∀ v∈(shL K P).flatten,0<v.d:=fun v hv=>by
  obtain ⟨u,hu,rfl⟩:=mem_sh hv
  exact hd u hu
 have p:=parity false (o:=shP K o) (q:=shP K (pastP T o m)) (P:=shL K P) ho dp hd'
  (fun v hv=>by obtain ⟨u,hu,rfl⟩:=mem_sh hv;rw [sh_xv];exact hl u hu)
  (fun v hv=>by
   obtain ⟨u,hu,rfl⟩:=mem_sh hv
   rw [sh_det,past_way]
   intro e
   rcases Int.mul_eq_zero.1 e with c | c
   ·omega
   ·exact hA u hu c) on'
 have p2:=left_right false (q:=shP K (pastP T o m)) (P:=shL K P) dp hd' on'
 rw [<-p2,sh_edges,parB_map,parB_map] at p
 have c1:parB (fun a b=>crossB (shP K o) (shP K (pastP T o m)) (shP K a) (shP K b)) (edgesM P)=parB (fun a b=>crossB o m a b ^^ onB m a b) (edgesM P):=parB_congr fun e he=>by
  obtain ⟨m1,m2⟩:=edge_ends he
  rw [sh_cross]
  exact past_cross ho hm (hd _ m1) (hd _ m2) (km _ m1) (km _ m2) (ke _ he) (hA _ m1) (hA _ m2) (hne _ he) (te _ he)
 have c2:parB (fun a b=>leftB false (shP K (pastP T o m)) (shP K a) (shP K b)) (edgesM P)=parB (fun a b=>overB m a b ^^ thrB o m a b) (edgesM P):=parB_congr fun e he=>by
  obtain ⟨m1,m2⟩:=edge_ends he
  exact past_left ho hm (hd _ m1) (hd _ m2) (km _ m1) (km _ m2) (ke _ he) (hA _ m1) (hA _ m2) (hne _ he) (te _ he) (po _ m1) (po _ m2)
 rw [c1,c2,parB_xor,parB_xor] at p
 exact p
structure Clear (P:List (List Pt))(p q:Pt):Prop where
 pt:∀ v∈P.flatten,befB p v=true->befB v q=true->detM p q v≠0
 ed:∀ e∈edgesM P,crossB p q e.1 e.2=false
theorem along {P:List (List Pt)}{p q:Pt}(hp:0<p.d)(hq:0<q.d)(hpq:befB p q=true)(hd:∀ v∈P.flatten,0<v.d)(hc:Clear P p q) :
  parB (ovL p q) (edgesM P)=parB (overB (midP p q)) (edgesM P):=by
 have h:parB (fun a b=>ovL p q a b ^^ overB (midP p q) a b) (edgesM P)=parB (fun a b=>gB p q a ^^ gB p q b) (edgesM P):=parB_congr fun e he=>by
  obtain ⟨m1,m2⟩:=edge_ends he
  exact strip_edge hp hq (hd _ m1) (hd _ m2) hpq (hc.pt _ m1) (hc.pt _ m2) (hc.ed e he)
 rw [poly_even,parB_xor] at h
 revert h
 cases parB (ovL p q) (edgesM P) <;> cases parB (overB (midP p q)) (edgesM P) <;> simp
end Go.Proofs.YtnkcbephceollabGreat
namespace Go.Proofs.YtnkcbephceollabGreat
set_option linter.unusedVariables false
set_option linter.unusedSimpArgs false
set_option linter.unusedSectionVars false
def sideOfM (p q a b:Pt):Int:=if sideM a b p≠0 then sideM a b p else sideM a b q
def leftE (p q a b:Pt):Bool:=spanM a b p && decide (sideOfM p q a b<0)
def rightE (p q a b:Pt):Bool:=spanM a b p && decide (sideOfM p q a b<=0)
def alongE (p q a b:Pt):Bool:=spanM a b p && (decide (detM a b p=0) && decide (detM a b q=0))
theorem so_neg (p q a b:Pt):sideOfM p q a b<0↔neg2 (sideM a b p) (sideM a b q):=by
 unfold sideOfM neg2;split <;> omega
theorem so_le (p q a b:Pt):sideOfM p q a b<=0↔(neg2 (sideM a b p) (sideM a b q)\/(sideM a b p=0/\sideM a b q=0)):=by
 unfold sideOfM neg2;split <;> omega
section
variable {a b p q:Pt}(ha:0<a.d)(hb:0<b.d)(hp:0<p.d)
include ha hb hp
theorem leftE_eq:leftE p q a b=ovL p q a b:=by
 unfold leftE ovL
 have ed:decide (sideOfM p q a b<0)=decide (neg2 (sideM a b p) (sideM a b q)):=decide_eq_decide.2 (so_neg p q a b)
 rw [ed]
 unfold spanM
 rw [cmpB,cmpB]
 unfold sideM
 by_cases h:befB b a=true
 ·have h':=bef_asym h
  rw [first_eq,last_eq,if_pos h,if_neg (by rw [h'];decide),det_sw2 a b p,det_sw2 a b q]
  have e:decide (neg2 (-detM a b p) (-detM a b q))=decide (pos2 (detM a b p) (detM a b q)):=decide_eq_decide.2 (neg2_neg _ _)
  rw [e]
  have m:=fun k=>bef_lt hb ha hp h (q:=p) k
  cases ka:befB p a <;> cases kb:befB p b
  ·simp
  ·have:=m kb;rw [ka] at this;cases this
  ·simp
  ·simp
 ·have h0:befB b a=false:=by simpa using h
  by_cases h2:befB a b=true
  ·rw [first_eq,last_eq,if_neg h,if_pos h2]
   have m:=fun k=>bef_lt ha hb hp h2 (q:=p) k
   cases ka:befB p a <;> cases kb:befB p b
   ·simp
   ·simp
   ·have:=m ka;rw [kb] at this;cases this
   ·simp
  ·have h2':befB a b=false:=by simpa using h2
   rw [first_eq,last_eq,if_neg h,if_neg h2,bef_same_r ha hb hp h2' h0]
   cases befB p b <;> simp
theorem side_zero (x:Pt)(hne:befB a b=true\/befB b a=true):(sideM a b x=0↔detM a b x=0):=by
 unfold sideM
 rcases hne with h | h
 ·have h':=bef_asym h
  rw [first_eq,last_eq,if_neg (by rw [h'];decide),if_pos h]
 ·have h':=bef_asym h
  rw [first_eq,last_eq,if_pos h,if_neg (by rw [h'];decide),det_sw2];omega
theorem rightE_eq (hne:befB a b=true\/befB b a=true):rightE p q a b=(leftE p q a b ^^ alongE p q a b):=by
 unfold rightE leftE alongE
 have z1:=side_zero ha hb hp p hne
 have z2:=side_zero ha hb hp q hne
 cases spanM a b p
 ·rfl
 ·simp only [Bool.true_and]
  have l:=so_le p q a b
  have n:=so_neg p q a b
  have e1:decide (sideOfM p q a b<=0)=decide (neg2 (sideM a b p) (sideM a b q)\/(sideM a b p=0/\sideM a b q=0)):=decide_eq_decide.2 l
  have e2:decide (sideOfM p q a b<0)=decide (neg2 (sideM a b p) (sideM a b q)):=decide_eq_decide.2 n
  have e3:decide (detM a b p=0)=decide (sideM a b p=0):=decide_eq_decide.2 z1.symm
  have e4:decide (detM a b q=0)=decide (sideM a b q=0):=decide_eq_decide.2 z2.symm
  rw [e1,e2,e3,e4]
  by_cases c1:sideM a b p=0 <;> by_cases c2:sideM a b q=0 <;> by_cases c3:neg2 (sideM a b p) (sideM a b q)
  all_goals simp only [c1,c2,c3,decide_true,decide_false,Bool.and_true,Bool.and_false,Bool.true_and,Bool.false_and,or_true,or_false,true_or,false_or,and_true,and_false,true_and,false_and,not_true,not_false_iff,Bool.xor_false,Bool.xor_true,Bool.not_true,Bool.not_false]
  all_goals first
   | rfl
   |(exfalso;unfold neg2 at c3;omega)
   | simp
theorem span_bef (hne:befB a b=true\/befB b a=true):spanM a b p=((!befB p a && befB p b) || (befB p a && !befB p b)):=by
 unfold spanM
 rw [cmpB,cmpB]
 rcases hne with h | h
 ·have h':=bef_asym h
  rw [first_eq,last_eq,if_neg (by rw [h'];decide),if_pos h]
  have m:=fun k=>bef_lt ha hb hp h (q:=p) k
  cases ka:befB p a <;> cases kb:befB p b
  ·rfl
  ·rfl
  ·have:=m ka;rw [kb] at this;cases this
  ·rfl
 ·have h':=bef_asym h
  rw [first_eq,last_eq,if_pos h,if_neg (by rw [h'];decide)]
  have m:=fun k=>bef_lt hb ha hp h (q:=p) k
  cases ka:befB p a <;> cases kb:befB p b
  ·rfl
  ·have:=m kb;rw [ka] at this;cases this
  ·rfl
  ·rfl
end
theorem bef_pm {p q:Pt}(hp:0<p.d)(hq:0<q.d)(h:befB p q=true):befB p (midP p q)=true/\befB (midP p q) q=true:=by
 have z1:xv p (midP p q)=p.d*xv p q:=by unfold xv midP;grind
 have z2:yv p (midP p q)=p.d*yv p q:=by unfold yv midP;grind
 have z3:xv (midP p q) q=q.d*xv p q:=by unfold xv midP;grind
 have z4:yv (midP p q) q=q.d*yv p q:=by unfold yv midP;grind
 have key:∀ u v:Pt,befB u v=true↔(0<xv u v\/(xv u v=0/\0<yv u v)):=fun u v=>by rw [bef_iff];unfold xv yv;omega
 rw [key] at h
 rw [key,key,z1,z2,z3,z4]
 rcases h with h | ⟨h1,h2⟩
 ·exact ⟨.inl (mul_pp hp h),.inl (mul_pp hq h)⟩
 ·rw [h1,Int.mul_zero,Int.mul_zero]
  exact ⟨.inr ⟨rfl,mul_pp hp h2⟩,.inr ⟨rfl,mul_pp hq h2⟩⟩
theorem mid_pos {p q:Pt}(hp:0<p.d)(hq:0<q.d):0<(midP p q).d:=by
 have:=mul_pp hp hq
 show 0<2*p.d*q.d
 rw [Int.mul_assoc];omega
theorem col_of {p q a b:Pt}{K:Int}(hp:0<p.d)(hY:yv (shP K p) (shP K q)≠0)(hd:yv (shP K a) (shP K b)≠0)(h1:detM a b p=0)(h2:detM a b q=0):detM p q a=0/\detM p q b=0:=by
 have e1:=plk2 (p:=shP K a) (q:=shP K b) (a:=shP K p) (b:=shP K q) (shP K a) (by rw [sh_det];exact h1) (by rw [sh_det];exact h2)
 have e2:=plk2 (p:=shP K a) (q:=shP K b) (a:=shP K p) (b:=shP K q) (shP K b) (by rw [sh_det];exact h1) (by rw [sh_det];exact h2)
 rw [sh_det,sh_det] at e1 e2
 have z1:detM a b a=0:=by unfold detM;grind
 have z2:detM a b b=0:=by unfold detM;grind
 rw [z1,Int.mul_zero] at e1
 rw [z2,Int.mul_zero] at e2
 constructor
 ·rcases Int.mul_eq_zero.1 e1 with c | c
  ·exact absurd c hd
  ·exact c
 ·rcases Int.mul_eq_zero.1 e2 with c | c
  ·exact absurd c hd
  ·exact c
section
variable {p q a b:Pt}(hp:0<p.d)(hq:0<q.d)(ha:0<a.d)(hb:0<b.d)(hpq:befB p q=true)(hne:befB a b=true\/befB b a=true)
 (fa:befB p a=true->befB a q=true->detM p q a≠0) (fb:befB p b=true->befB b q=true->detM p q b≠0) (hx:crossB p q a b=false)
include hp hq ha hb hpq hne fa fb hx
theorem mid_along (hon:onB (midP p q) a b=true):(detM p q a=0/\detM p q b=0)/\(detM a b p=0/\detM a b q=0)/\((befB p a=false/\befB b q=false)\/(befB p b=false/\befB a q=false)):=by
 have hm:=mid_pos hp hq
 obtain ⟨pm,mq⟩:=bef_pm hp hq hpq
 obtain ⟨K,k1,k2,k3,k4,k5,k6,k7⟩:=bnd7 (yv p a) (yv p b) (yv p q) (yv a b) (yv q b) (yv (midP p q) a) (yv (midP p q) b)
 have sw:∀ u v,yv u v = -yv v u:=fun u v=>by unfold yv;grind
 have upd:∀ u v,upB false u v=decide (0<yv u v):=fun u v=>by unfold upB;simp
 have u3:=sh_up k3.1 k3.2
 have u6:=sh_up k6.1 k6.2
 have u7:=sh_up k7.1 k7.2
 have v6:=sh_up (K:=K) (q:=a) (v:=midP p q) (by have:=sw a (midP p q);omega) (by have:=sw a (midP p q);omega)
 have v7:=sh_up (K:=K) (q:=b) (v:=midP p q) (by have:=sw b (midP p q);omega) (by have:=sw b (midP p q);omega)
 rw [upd] at u3 u6 u7 v6 v7
 rw [sw (shP K a)] at v6
 rw [sw (shP K b)] at v7
 have hY:0<yv (shP K p) (shP K q):=by rw [hpq] at u3;exact of_decide_eq_true u3
 have hd:yv (shP K a) (shP K b)≠0:=by
  intro e
  have e':=sw (shP K a) (shP K b)
  have w1:=sh_up k4.1 k4.2
  have w2:=sh_up (K:=K) (q:=b) (v:=a) (by have:=sw b a;omega) (by have:=sw b a;omega)
  rw [upd] at w1 w2
  rcases hne with h | h
  ·rw [h] at w1;have:=of_decide_eq_true w1;omega
  ·rw [h] at w2;have:=of_decide_eq_true w2;omega
 have I1:=id1 (shP K q) (shP K p) (shP K a) (shP K b)
 have I2:=id2 (shP K q) (shP K p) (shP K a) (shP K b)
 rw [sh_det,sh_det,sh_det,det_sw p q a,det_sw p q b] at I1 I2
 have M1:=mid_yv (shP K p) (shP K q) (shP K a)
 have M2:=mid_yv (shP K p) (shP K q) (shP K b)
 rw [<-sh_mid] at M1 M2
 have mix:=mid_det a b p q
 have hmu:detM a b (midP p q)=0:=by unfold onB at hon;simp at hon;exact hon.1
 have hw:withB (midP p q) a b=true:=by unfold onB at hon;simp at hon;exact hon.2
 have J:(shP K (midP p q)).d*yv (shP K a) (shP K b)=(shP K a).d*yv (shP K (midP p q)) (shP K b)-(shP K b).d*yv (shP K (midP p q)) (shP K a):=by unfold yv;grind
 have lt:(yv (shP K (midP p q)) (shP K a)<=0/\0<=yv (shP K (midP p q)) (shP K b)/\befB (midP p q) a=false/\befB b (midP p q)=false)\/(0<=yv (shP K (midP p q)) (shP K a)/\yv (shP K (midP p q)) (shP K b)<=0/\befB (midP p q) b=false/\befB a (midP p q)=false):=by
  unfold withB loM hiM at hw
  by_cases c:befB b a=true
  ·simp only [if_pos c,Bool.and_eq_true,Bool.not_eq_true'] at hw
   refine .inr ⟨?_,?_,hw.1,hw.2⟩
   ·rw [hw.2] at v6;have:=of_decide_eq_false v6;omega
   ·rw [hw.1] at u7;have:=of_decide_eq_false u7;omega
  ·simp only [if_neg c,Bool.and_eq_true,Bool.not_eq_true'] at hw
   refine .inl ⟨?_,?_,hw.1,hw.2⟩
   ·rw [hw.1] at u6;have:=of_decide_eq_false u6;omega
   ·rw [hw.2] at v7;have:=of_decide_eq_false v7;omega
 have hxx:NoX (detM p q a) (detM p q b) (detM a b p) (detM a b q):=by
  unfold NoX
  intro h
  have:crossB p q a b=true:=by
   unfold crossB apartB
   simp only [Bool.and_eq_true,Bool.or_eq_true,decide_eq_true_eq]
   omega
  rw [hx] at this;cases this
 have pa:yv (shP K (midP p q)) (shP K a)=0->detM p q a≠0:=fun e=>by
  have b1:befB (midP p q) a=false:=by rw [<-u6,e];rfl
  have b2:befB a (midP p q)=false:=by rw [<-v6,e];rfl
  exact fa (bef_le hp hm ha pm b2) (le_bef ha hm hq b1 mq)
 have pb:yv (shP K (midP p q)) (shP K b)=0->detM p q b≠0:=fun e=>by
  have b1:befB (midP p q) b=false:=by rw [<-u7,e];rfl
  have b2:befB b (midP p q)=false:=by rw [<-v7,e];rfl
  exact fb (bef_le hp hm hb pm b2) (le_bef hb hm hq b1 mq)
 have hmu2:yv (shP K p) (shP K q)*detM a b (midP p q)=detM p q b*yv (shP K (midP p q)) (shP K a)-detM p q a*yv (shP K (midP p q)) (shP K b):=by
  have ep:(shP K p).d=p.d:=rfl
  have eq:(shP K q).d=q.d:=rfl
  rw [mix,M1,M2,ep,eq]
  have e:yv (shP K p) (shP K q)*(q.d*detM a b p+p.d*detM a b q)=q.d*(yv (shP K p) (shP K q)*detM a b p)+p.d*(yv (shP K p) (shP K q)*detM a b q):=by grind
  rw [e,I1,I2];grind
 rw [hmu,Int.mul_zero] at hmu2
 have hAB:detM p q a=0/\detM p q b=0:=by
  have nap : ¬ ((detM a b p<0/\0<detM a b q)\/(0<detM a b p/\detM a b q<0))->detM a b p=0/\detM a b q=0:=fun h=>by
   have mx:=mix_sg mix hq hp
   rw [hmu] at mx
   rcases Int.lt_trichotomy (detM a b p) 0 with c | c | c
   ·have:=mx.1 c;omega
   ·rcases Int.lt_trichotomy (detM a b q) 0 with d | d | d
    ·have:=mx.2.1 c d;omega
    ·exact ⟨c,d⟩
    ·have:=mx.2.2.2.1 c d;omega
   ·have:=mx.2.2.1 c;omega
  by_cases hap:(detM a b p<0/\0<detM a b q)\/(0<detM a b p/\detM a b q<0)
  ·have k:(0<=detM p q a/\0<=detM p q b)\/(detM p q a<=0/\detM p q b<=0):=by unfold NoX at hxx;omega
   generalize yv (shP K (midP p q)) (shP K a)=am at *
   generalize yv (shP K (midP p q)) (shP K b)=bm at *
   have both:detM p q b*am=0/\detM p q a*bm=0:=by
    rcases lt with ⟨l1,l2,_⟩ | ⟨l1,l2,_⟩ <;> rcases k with ⟨k1,k2⟩ | ⟨k1,k2⟩
    ·have:=mul_gl k2 l1;have:=mul_gg k1 l2;omega
    ·have:=mul_ll k2 l1;have:=mul_lg k1 l2;omega
    ·have:=mul_gg k2 l1;have:=mul_gl k1 l2;omega
    ·have:=mul_lg k2 l1;have:=mul_ll k1 l2;omega
   rcases Int.mul_eq_zero.1 both.1 with c | c
   ·rcases Int.mul_eq_zero.1 both.2 with d | d
    ·exact ⟨d,c⟩
    ·exact absurd c (pb d)
   ·rcases Int.mul_eq_zero.1 both.2 with d | d
    ·exact absurd d (pa c)
    ·exfalso
     rw [c,d,Int.mul_zero,Int.mul_zero,Int.sub_zero] at J
     rcases Int.mul_eq_zero.1 J with z | z
     ·have:(shP K (midP p q)).d=(midP p q).d:=rfl
      omega
     ·exact hd z
  ·obtain ⟨z1,z2⟩:=nap hap
   exact col_of hp (by omega) hd z1 z2
 have hal:detM a b p=0/\detM a b q=0:=by
  rw [hAB.1,hAB.2] at I1 I2
  simp only [Int.neg_zero,Int.zero_mul,Int.sub_zero] at I1 I2
  constructor
  ·rcases Int.mul_eq_zero.1 I1 with c | c
   ·omega
   ·exact c
  ·rcases Int.mul_eq_zero.1 I2 with c | c
   ·omega
   ·exact c
 refine ⟨hAB,hal,?_⟩
 have na : ¬ (befB p a=true/\befB a q=true):=fun h=>fa h.1 h.2 hAB.1
 have nb : ¬ (befB p b=true/\befB b q=true):=fun h=>fb h.1 h.2 hAB.2
 rcases lt with ⟨_,_,l3,l4⟩ | ⟨_,_,l3,l4⟩
 ·refine .inl ⟨?_,?_⟩
  ·cases k:befB p a
   ·rfl
   ·exact absurd ⟨k,le_bef ha hm hq l3 mq⟩ na
  ·cases k:befB b q
   ·rfl
   ·exact absurd ⟨bef_le hp hm hb pm l4,k⟩ nb
 ·refine .inr ⟨?_,?_⟩
  ·cases k:befB p b
   ·rfl
   ·exact absurd ⟨k,le_bef hb hm hq l3 mq⟩ nb
  ·cases k:befB a q
   ·rfl
   ·exact absurd ⟨bef_le hp hm ha pm l4,k⟩ na
theorem along_mid:alongE p q a b=onB (midP p q) a b:=by
 have hm:=mid_pos hp hq
 obtain ⟨pm,mq⟩:=bef_pm hp hq hpq
 cases hon:onB (midP p q) a b
 ·cases hal:alongE p q a b
  ·rfl
  ·exfalso
   unfold alongE at hal
   simp only [Bool.and_eq_true,decide_eq_true_eq] at hal
   obtain ⟨hs,z1,z2⟩:=hal
   rw [span_bef ha hb hp hne] at hs
   have zm:detM a b (midP p q)=0:=by rw [mid_det,z1,z2];simp
   obtain ⟨K,k1,k2,k3,k4,k5,k6,k7⟩:=bnd7 (yv p a) (yv p b) (yv p q) (yv a b) (yv q b) (yv (midP p q) a) (yv (midP p q) b)
   have sw:∀ u v,yv u v = -yv v u:=fun u v=>by unfold yv;grind
   have upd:∀ u v,upB false u v=decide (0<yv u v):=fun u v=>by unfold upB;simp
   have u3:=sh_up k3.1 k3.2
   rw [upd] at u3
   have hY:0<yv (shP K p) (shP K q):=by rw [hpq] at u3;exact of_decide_eq_true u3
   have hd:yv (shP K a) (shP K b)≠0:=by
    intro e
    have e':=sw (shP K a) (shP K b)
    have w1:=sh_up k4.1 k4.2
    have w2:=sh_up (K:=K) (q:=b) (v:=a) (by have:=sw b a;omega) (by have:=sw b a;omega)
    rw [upd] at w1 w2
    rcases hne with h | h
    ·rw [h] at w1;have:=of_decide_eq_true w1;omega
    ·rw [h] at w2;have:=of_decide_eq_true w2;omega
   obtain ⟨A0,B0⟩:=col_of hp (by omega) hd z1 z2
   have na : ¬ (befB p a=true/\befB a q=true):=fun h=>fa h.1 h.2 A0
   have nb : ¬ (befB p b=true/\befB b q=true):=fun h=>fb h.1 h.2 B0
   simp only [Bool.or_eq_true,Bool.and_eq_true,Bool.not_eq_true'] at hs
   have:withB (midP p q) a b=true:=by
    rcases hs with ⟨h1,h2⟩ | ⟨h1,h2⟩
    ·have hbq:befB b q=false:=by
      cases k:befB b q
      ·rfl
      ·exact absurd ⟨h2,k⟩ nb
     refine with_ab hm ha hb ?_ ?_
     ·cases k:befB (midP p q) a
      ·rfl
      ·have:=bef_lt hm ha hp k (q:=p) pm;rw [h1] at this;cases this
     ·exact bef_asym (bef_le hm hq hb mq hbq)
    ·have haq:befB a q=false:=by
      cases k:befB a q
      ·rfl
      ·exact absurd ⟨h1,k⟩ na
     refine with_ba hm ha hb ?_ ?_
     ·cases k:befB (midP p q) b
      ·rfl
      ·have:=bef_lt hm hb hp k (q:=p) pm;rw [h2] at this;cases this
     ·exact bef_asym (bef_le hm hq ha mq haq)
   unfold onB at hon
   rw [zm,this] at hon
   simp at hon
 ·obtain ⟨_,⟨z1,z2⟩,h⟩:=mid_along hp hq ha hb hpq hne fa fb hx hon
  unfold alongE
  rw [span_bef ha hb hp hne,z1,z2]
  rcases h with ⟨h1,h2⟩ | ⟨h1,h2⟩
  ·have:befB p b=true:=bef_le hp hq hb hpq h2
   rw [h1,this];rfl
  ·have:befB p a=true:=bef_le hp hq ha hpq h2
   rw [h1,this];rfl
theorem thr_mid (o:Pt):thrB o (midP p q) a b=(onB (midP p q) a b && decide (0<detM p q o)):=by
 unfold thrB
 cases hon:onB (midP p q) a b
 ·rfl
 ·simp only [Bool.true_and]
  obtain ⟨⟨A0,B0⟩,_,_⟩:=mid_along hp hq ha hb hpq hne fa fb hx hon
  obtain ⟨K,k1,k2,k3,k4,k5,k6,k7⟩:=bnd7 (yv p a) (yv p b) (yv p q) (yv a b) (yv q b) (yv (midP p q) a) (yv (midP p q) b)
  have sw:∀ u v,yv u v = -yv v u:=fun u v=>by unfold yv;grind
  have upd:∀ u v,upB false u v=decide (0<yv u v):=fun u v=>by unfold upB;simp
  have u3:=sh_up k3.1 k3.2
  rw [upd] at u3
  have hY:0<yv (shP K p) (shP K q):=by rw [hpq] at u3;exact of_decide_eq_true u3
  have e':=sw (shP K a) (shP K b)
  have w1:=sh_up k4.1 k4.2
  have w2:=sh_up (K:=K) (q:=b) (v:=a) (by have:=sw b a;omega) (by have:=sw b a;omega)
  rw [upd] at w1 w2
  have pl:=plk2 (p:=shP K p) (q:=shP K q) (a:=shP K a) (b:=shP K b) (shP K o) (by rw [sh_det];exact A0) (by rw [sh_det];exact B0)
  rw [sh_det,sh_det] at pl
  generalize yv (shP K p) (shP K q)=Y at *
  generalize detM a b o=om at *
  generalize detM p q o=tu at *
  rcases hne with h | h
  ·have h':=bef_asym h
   rw [h] at w1
   have d:=of_decide_eq_true w1
   rw [h,h']
   generalize yv (shP K a) (shP K b)=D at *
   have:(0<om↔0<tu):=by
    constructor
    ·intro x
     have:=mul_pp hY x
     rcases Int.lt_or_le 0 tu with c | c
     ·exact c
     ·have:=mul_gl (Int.le_of_lt d) c;omega
    ·intro x
     have:=mul_pp d x
     rcases Int.lt_or_le 0 om with c | c
     ·exact c
     ·have:=mul_gl (Int.le_of_lt hY) c;omega
   have e:decide (0<om)=decide (0<tu):=decide_eq_decide.2 this
   rw [e];simp
  ·have h':=bef_asym h
   rw [h] at w2
   have d:=of_decide_eq_true w2
   rw [h,h']
   have d':yv (shP K a) (shP K b)<0:=by omega
   generalize yv (shP K a) (shP K b)=D at *
   have:(om<0↔0<tu):=by
    constructor
    ·intro x
     have:=mul_pn hY x
     rcases Int.lt_or_le 0 tu with c | c
     ·exact c
     ·have:=mul_ll (Int.le_of_lt d') c;omega
    ·intro x
     have:=mul_np d' x
     rcases Int.lt_or_le om 0 with c | c
     ·exact c
     ·have:=mul_gg (Int.le_of_lt hY) c;omega
   have e:decide (om<0)=decide (0<tu):=decide_eq_decide.2 this
   rw [e];simp
end
theorem bar_one' {q v:Pt}(hd:0<q.d)(hqx:∀ k:Nat,xv q (outP k)<0)(hne : ¬ (xv q v=0/\yv q v=0))(i j:Nat)(h1:detM (outP i) q v=0)(h2:detM (outP j) q v=0):i=j:=by
 by_cases hx:xv q v=0
 ·exfalso
  have e:=id5 (outP i) q v
  rw [h1,hx,Int.mul_zero,Int.mul_zero,Int.zero_sub] at e
  have o:=hqx i
  have z:xv q (outP i)*yv q v=0:=by omega
  rcases Int.mul_eq_zero.1 z with c | c
  ·omega
  ·exact hne ⟨hx,c⟩
 ·rw [det_out] at h1 h2
  have z:((i:Int)-j)*xv q v=0:=by rw [Int.sub_mul];omega
  rcases Int.mul_eq_zero.1 z with c | c
  ·omega
  ·exact absurd c hx
theorem bar_edge' {p r:Pt}(hd:0<p.d)(hpx:∀ k:Nat,xv p (outP k)<0)(hne : ¬ (xv p r=0/\yv p r=0))(i j:Nat)(h1:detM p r (outP i)=0)(h2:detM p r (outP j)=0):i=j:=by
 have cy:∀ o:Pt,detM p r o=detM o p r:=fun o=>by unfold detM;grind
 rw [cy] at h1 h2
 exact bar_one' hd hpx hne i j h1 h2
theorem far_free' {q:Pt}{l:List Pt}{p r:Pt}(hd:0<q.d)(hqx:∀ k:Nat,xv q (outP k)<0)(hne:∀ v∈l,¬ (xv q v=0/\yv q v=0))(hpd:0<p.d)(hpx:∀ k:Nat,xv p (outP k)<0)(hpr : ¬ (xv p r=0/\yv p r=0)) :
  ∃ k,k<=l.length+1/\farM q l p r=outP k/\(∀ v∈l,detM (outP k) q v≠0)/\detM p r (outP k)≠0:=by
 obtain ⟨k,hk,hf⟩:=pigeon ((fun k=>decide (detM p r (outP k)=0))::l.map (fun v k=>decide (detM (outP k) q v=0))) (List.range (l.length+2)) List.nodup_range (by
  intro b hb i j h1 h2
  rcases List.mem_cons.1 hb with rfl | hb
  ·exact bar_edge' hpd hpx hpr i j (of_decide_eq_true h1) (of_decide_eq_true h2)
  ·obtain ⟨v,hv',rfl⟩:=List.mem_map.1 hb
   exact bar_one' hd hqx (hne v hv') i j (of_decide_eq_true h1) (of_decide_eq_true h2)) (by simp)
 have hk':k<l.length+2:=by simpa using hk
 have fr:freeB q l p r k=true:=by
  unfold freeB
  rw [Bool.and_eq_true,List.all_eq_true]
  refine ⟨fun v hv'=>?_,?_⟩
  ·have:=hf _ (List.mem_cons_of_mem _ (List.mem_map.2 ⟨v,hv',rfl⟩))
   exact decide_eq_true (of_decide_eq_false this)
  ·have:=hf _ (List.mem_cons_self ..)
   exact decide_eq_true (of_decide_eq_false this)
 have free2:∀ n k,(∃ j,k<=j/\j<k+n/\freeB q l p r j=true)->∃ j,j<k+n/\freeB q l p r j=true/\farL (freeB q l p r) n k=outP j:=by
  intro n
  induction n with
  | zero=>intro k ⟨j,h1,h2,_⟩;omega
  | succ n ih=>
   intro k ⟨j,h1,h2,h3⟩
   unfold farL
   cases hk:freeB q l p r k
   ·rw [if_neg (by decide)]
    have:j≠k:=fun e=>by rw [e,hk] at h3;cases h3
    obtain ⟨j',a1,a2,a3⟩:=ih (k+1) ⟨j,by omega,by omega,h3⟩
    exact ⟨j',by omega,a2,a3⟩
   ·exact ⟨k,by omega,hk,rfl⟩
 obtain ⟨j,hj0,hj,e⟩:=free2 (l.length+2) 0 ⟨k,Nat.zero_le _,by omega,fr⟩
 refine ⟨j,by omega,e,?_⟩
 unfold freeB at hj
 rw [Bool.and_eq_true,List.all_eq_true] at hj
 exact ⟨fun v hv'=>of_decide_eq_true (hj.1 v hv'),of_decide_eq_true hj.2⟩
theorem par_any {f:Pt->Pt->Bool}:∀ {E:List (Pt×Pt)},(∀ i j,i<j->j<E.length->¬ (f (E.getD i (zP,zP)).1 (E.getD i (zP,zP)).2=true/\f (E.getD j (zP,zP)).1 (E.getD j (zP,zP)).2=true))->parB f E=E.any (fun e=>f e.1 e.2)
 | [],_=>rfl
 | e::E,h=>by
  have ih:=par_any (f:=f) (E:=E) (fun i j h1 h2=>by
   have:=h (i+1) (j+1) (by omega) (by simp;omega)
   simpa using this)
  have ep:parB f (e::E)=(f e.1 e.2 ^^ parB f E):=rfl
  rw [ep,List.any_cons,ih]
  cases hf:f e.1 e.2
  ·simp
  ·have:E.any (fun e=>f e.1 e.2)=false:=by
    rw [<-Bool.not_eq_true,List.any_eq_true]
    rintro ⟨x,hx,hfx⟩
    obtain ⟨j,hj,rfl⟩:=List.mem_iff_getElem.1 hx
    refine h 0 (j+1) (by omega) (by simp;omega) ⟨by simpa using hf,?_⟩
    simp only [List.getD_cons_succ]
    rw [List.getD_eq_getElem?_getD,List.getElem?_eq_getElem hj]
    exact hfx
   rw [this];rfl
theorem cross_det {a b c:Pt}(ha:a.d=1)(hb:b.d=1)(hc:c.d=1):crossM (b.x-a.x) (b.y-a.y) (c.x-a.x) (c.y-a.y)=detM a b c:=by
 unfold crossM detM;rw [ha,hb,hc];grind
theorem cross_det2 {a b c d:Pt}(ha:a.d=1)(hb:b.d=1)(hc:c.d=1)(hd:d.d=1):crossM (b.x-a.x) (b.y-a.y) (d.x-c.x) (d.y-c.y)=detM a b d-detM a b c:=by
 unfold crossM detM;rw [ha,hb,hc,hd];grind
def Covers (p q a b:Pt):Prop:=(detM p q a=0/\detM p q b=0)/\((befB p a=false/\befB b q=false)\/(befB p b=false/\befB a q=false))
theorem cover_fl {p q a b:Pt}(hp:0<p.d)(hq:0<q.d)(ha:0<a.d)(hb:0<b.d)(hpq:befB p q=true)(h:Covers p q a b):befB p (firstM a b)=false/\befB (lastM a b) q=false:=by
 rcases h.2 with ⟨h1,h2⟩ | ⟨h1,h2⟩
 ·have aq:=le_bef ha hp hq h1 hpq
  have ab:=bef_le ha hq hb aq h2
  have ba:=bef_asym ab
  rw [first_eq,last_eq,if_neg (by rw [ba];decide),if_pos ab]
  exact ⟨h1,h2⟩
 ·have bq:=le_bef hb hp hq h1 hpq
  have ba:=bef_le hb hq ha bq h2
  have ab:=bef_asym ba
  rw [first_eq,last_eq,if_pos ba,if_neg (by rw [ab];decide)]
  exact ⟨h1,h2⟩
theorem two_along {p q a b c d:Pt}(hp:0<p.d)(hq:0<q.d)(ha:a.d=1)(hb:b.d=1)(hc:c.d=1)(hd:d.d=1)(hpq:befB p q=true)(h1:Covers p q a b)(h2:Covers p q c d):(meetM a b c d).k=2:=by
 obtain ⟨f1,l1⟩:=cover_fl hp hq (by omega) (by omega) hpq h1
 obtain ⟨f2,l2⟩:=cover_fl hp hq (by omega) (by omega) hpq h2
 obtain ⟨K,k1,k2,k3,k4,k5,k6,k7⟩:=bnd7 (yv p a) (yv p b) (yv p q) (yv a b) (yv q b) (yv p c) (yv p d)
 have upd:∀ u v,upB false u v=decide (0<yv u v):=fun u v=>by unfold upB;simp
 have u3:=sh_up k3.1 k3.2
 rw [upd] at u3
 have hY:0<yv (shP K p) (shP K q):=by rw [hpq] at u3;exact of_decide_eq_true u3
 have col:∀ x,detM p q x=0->detM a b x=0:=fun x hx=>by
  have pl:=plk2 (p:=shP K p) (q:=shP K q) (a:=shP K a) (b:=shP K b) (shP K x) (by rw [sh_det];exact h1.1.1) (by rw [sh_det];exact h1.1.2)
  rw [sh_det,sh_det,hx,Int.mul_zero] at pl
  rcases Int.mul_eq_zero.1 pl with c | c
  ·omega
  ·exact c
 have z1:=col c h2.1.1
 have z2:=col d h2.1.2
 unfold meetM
 rw [cross_det2 ha hb hc hd,z1,z2,if_pos (by decide)]
 unfold parM
 rw [cross_det ha hb hc,z1,if_neg (by simp)]
 unfold lineM
 have hf:befB p (lastM (firstM a b) (firstM c d))=false:=by unfold lastM;split <;> assumption
 have hl:befB (firstM (lastM a b) (lastM c d)) q=false:=by unfold firstM;split <;> assumption
 have df:0<(lastM (firstM a b) (firstM c d)).d:=by
  unfold lastM firstM;repeat' split
  all_goals omega
 have dl:0<(firstM (lastM a b) (lastM c d)).d:=by
  unfold lastM firstM;repeat' split
  all_goals omega
 have key:befB (lastM (firstM a b) (firstM c d)) (firstM (lastM a b) (lastM c d))=true:=bef_le df hq dl (le_bef df hp hq hf hpq) hl
 rw [<-cmpB] at key
 have k:=of_decide_eq_true key
 simp only
 rw [if_neg (by omega),if_neg (by omega)]
structure Sound (P:List (List Pt)):Prop where
 gr:∀ v∈P.flatten,Gr v
 ne:∀ e∈edgesM P,befB e.1 e.2=true\/befB e.2 e.1=true
 no:∀ i j,i<j->j<(edgesM P).length->alongB ((edgesM P).getD j (zP,zP)) ((edgesM P).getD i (zP,zP))=false
def rsidesM (p q:Pt)(E:List (Pt×Pt))(all:List Pt):Bool×Bool:=
 let o:=farM (midP p q) all p q
 let near:=decide (nCross o (midP p q) E % 2=1)
 let beyond:=if E.any (fun e=>onB (midP p q) e.1 e.2)=true then !near else near
 if 0<detM p q o then (near,beyond) else (beyond,near)
theorem out_x {v:Pt}(hv:goodB v=true)(k:Nat):xv v (outP k)<0:=(out_xv k hv).2
theorem sides_eq {P:List (List Pt)}{p q:Pt}{all:List Pt}(hS:Sound P)(hp:goodB p=true)(hq:goodB q=true)(hpq:befB p q=true)(hc:Clear P p q)
  (hall:∀ v∈P.flatten,v∈all) (hcl:∀ v∈all,befB p v=true->befB v q=true->detM p q v≠0) (had:∀ v∈all,0<v.d) :
  (parB (leftE p q) (edgesM P),parB (rightE p q) (edgesM P))=rsidesM p q (edgesM P) all:=by
 have pd:0<p.d:=by have:=of_decide_eq_true hp;omega
 have qd:0<q.d:=by have:=of_decide_eq_true hq;omega
 have hm:=mid_pos pd qd
 obtain ⟨pm,mq⟩:=bef_pm pd qd hpq
 have hd:∀ v∈P.flatten,0<v.d:=fun v hv=>by have:=(hS.gr v hv).d;omega
 have hxm:∀ k:Nat,xv (midP p q) (outP k)<0:=fun k=>by
  rw [mid_xv]
  have:=mul_pn qd (out_x hp k);have:=mul_pn pd (out_x hq k);omega
 have hpr : ¬ (xv p q=0/\yv p q=0):=fun ⟨h1,h2⟩=>by
  rw [bef_iff] at hpq;unfold xv yv at *;omega
 have hne:∀ v∈all,¬ (xv (midP p q) v=0/\yv (midP p q) v=0):=fun v hv ⟨h1,h2⟩=>by
  have b1:befB (midP p q) v=false:=by rw [bef_x];omega
  have b2:befB v (midP p q)=false:=by rw [bef_x'];omega
  refine hcl v hv (bef_le pd hm (had v hv) pm b2) (le_bef (had v hv) hm qd b1 mq) ?_
  have z:detM p q (midP p q)=0:=by rw [mid_det];unfold detM;grind
  have e:(midP p q).d*detM p q v=v.d*detM p q (midP p q)+xv (midP p q) v*(-yv p q)+yv (midP p q) v*xv p q:=by unfold xv yv detM;grind
  rw [z,h1,h2] at e
  simp only [Int.mul_zero,Int.zero_mul,Int.add_zero] at e
  rcases Int.mul_eq_zero.1 e with c | c
  ·omega
  ·exact c
 obtain ⟨k,_,hk,hA,hT⟩:=far_free' (l:=all) hm hxm hne pd (out_x hp) hpr
 have hgood:∀ v,Gr v->goodB v=true:=fun v hv=>by
  have h1:=hv.x;have h2:=hv.y;have h3:=hv.d
  unfold In at h1 h2
  unfold goodB;rw [h3];exact decide_eq_true (by omega)
 have way:=way_mid (o:=outP k) (m:=midP p q) (P:=P) (by simp [outP]) hm hd (fun v hv=>(out_xv k (hgood v (hS.gr v hv))).1) (fun v hv=>hA v (hall v hv)) hS.ne
 have eth:parB (thrB (outP k) (midP p q)) (edgesM P)=(parB (fun a b=>onB (midP p q) a b) (edgesM P) && decide (0<detM p q (outP k))):=by
  have e:parB (thrB (outP k) (midP p q)) (edgesM P)=parB (fun a b=>onB (midP p q) a b && decide (0<detM p q (outP k))) (edgesM P):=parB_congr fun e he=>by
   obtain ⟨m1,m2⟩:=edge_ends he
   exact thr_mid pd qd (hd _ m1) (hd _ m2) hpq (hS.ne e he) (hc.pt _ m1) (hc.pt _ m2) (hc.ed e he) _
  rw [e]
  cases decide (0<detM p q (outP k))
  ·rw [Bool.and_false]
   have:∀ l:List (Pt×Pt),parB (fun a b=>onB (midP p q) a b && false) l=false:=fun l=>by
    induction l with
    | nil=>rfl
    | cons x l ih=>show ((_ && false) ^^ parB _ l)=false;rw [ih,Bool.and_false];rfl
   exact this _
  ·rw [Bool.and_true]
   exact parB_congr fun e he=>by simp
 have el:parB (leftE p q) (edgesM P)=parB (overB (midP p q)) (edgesM P):=by
  rw [<-along pd qd hpq hd hc]
  exact parB_congr fun e he=>by
   obtain ⟨m1,m2⟩:=edge_ends he
   exact leftE_eq (hd _ m1) (hd _ m2) pd
 have er:parB (rightE p q) (edgesM P)=(parB (leftE p q) (edgesM P) ^^ parB (fun a b=>onB (midP p q) a b) (edgesM P)):=by
  rw [<-parB_xor]
  exact parB_congr fun e he=>by
   obtain ⟨m1,m2⟩:=edge_ends he
   rw [rightE_eq (hd _ m1) (hd _ m2) pd (hS.ne e he),along_mid pd qd (hd _ m1) (hd _ m2) hpq (hS.ne e he) (hc.pt _ m1) (hc.pt _ m2) (hc.ed e he)]
 have eany:parB (fun a b=>onB (midP p q) a b) (edgesM P)=(edgesM P).any (fun e=>onB (midP p q) e.1 e.2):=par_any fun i j hij hj ⟨h1,h2⟩=>by
  have cov:∀ n,n<(edgesM P).length->onB (midP p q) ((edgesM P).getD n (zP,zP)).1 ((edgesM P).getD n (zP,zP)).2=true->Covers p q ((edgesM P).getD n (zP,zP)).1 ((edgesM P).getD n (zP,zP)).2/\((edgesM P).getD n (zP,zP)).1.d=1/\((edgesM P).getD n (zP,zP)).2.d=1:=fun n hn ho=>by
   have he:=getD_mem hn (zP,zP)
   obtain ⟨m1,m2⟩:=edge_ends he
   obtain ⟨c1,_,c3⟩:=mid_along pd qd (hd _ m1) (hd _ m2) hpq (hS.ne _ he) (hc.pt _ m1) (hc.pt _ m2) (hc.ed _ he) ho
   exact ⟨⟨c1,c3⟩,(hS.gr _ m1).d,(hS.gr _ m2).d⟩
  obtain ⟨c1,d1,d2⟩:=cov i (by omega) h1
  obtain ⟨c2,d3,d4⟩:=cov j hj h2
  have k2:=two_along pd qd d3 d4 d1 d2 hpq c2 c1
  have:=hS.no i j hij hj
  unfold alongB at this
  rw [k2] at this
  exact absurd this (by decide)
 rw [eth,<-el,parB_count] at way
 rw [er]
 unfold rsidesM
 simp only [hk]
 unfold nCross
 rw [<-eany]
 generalize parB (fun a b=>onB (midP p q) a b) (edgesM P)=c at *
 generalize parB (leftE p q) (edgesM P)=L at *
 by_cases t:0<detM p q (outP k)
 ·rw [if_pos t]
  rw [decide_eq_true t] at way
  revert way
  generalize decide ((edgesM P).countP (fun e=>crossB (outP k) (midP p q) e.1 e.2) % 2=1)=n
  cases c <;> cases L <;> cases n <;> simp
 ·rw [if_neg t]
  rw [decide_eq_false t] at way
  revert way
  generalize decide ((edgesM P).countP (fun e=>crossB (outP k) (midP p q) e.1 e.2) % 2=1)=n
  cases c <;> cases L <;> cases n <;> simp
end Go.Proofs.YtnkcbephceollabGreat
