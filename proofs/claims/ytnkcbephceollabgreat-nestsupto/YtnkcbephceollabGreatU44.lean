import Derived.Test.YtnkcbephceollabGreatU43
namespace Go.Proofs.YtnkcbephceollabGreat
set_option linter.unusedSimpArgs false
set_option linter.unusedVariables false
def sc (c:Int)(m:Pt):Pt:=⟨c*m.x,c*m.y,c*m.d⟩
theorem sc_det (c:Int)(a b m:Pt):detM a b (sc c m)=c*detM a b m:=by unfold detM sc;grind
theorem sgn_sc {c x:Int}(hc:0<c):(c*x<0↔x<0)/\(0<c*x↔0<x)/\(c*x=0↔x=0):=by
 rcases Int.lt_trichotomy x 0 with h | h | h
 ·have:=mul_pn hc h;omega
 ·rw [h,Int.mul_zero];omega
 ·have:=mul_pp hc h;omega
theorem bef_key (u v:Pt):befB u v=true↔(0<xv u v\/(xv u v=0/\0<yv u v)):=by
 rw [bef_iff];unfold xv yv;omega
theorem sc_bef {c:Int}(hc:0<c)(m v:Pt):befB (sc c m) v=befB m v/\befB v (sc c m)=befB v m:=by
 have x1:xv (sc c m) v=c*xv m v:=by unfold xv sc;grind
 have y1:yv (sc c m) v=c*yv m v:=by unfold yv sc;grind
 have x2:xv v (sc c m)=c*xv v m:=by unfold xv sc;grind
 have y2:yv v (sc c m)=c*yv v m:=by unfold yv sc;grind
 have a:=@sgn_sc c (xv m v) hc
 have b:=@sgn_sc c (yv m v) hc
 have a':=@sgn_sc c (xv v m) hc
 have b':=@sgn_sc c (yv v m) hc
 constructor
 ·rw [Bool.eq_iff_iff,bef_key,bef_key,x1,y1];omega
 ·rw [Bool.eq_iff_iff,bef_key,bef_key,x2,y2];omega
theorem apart_sc {c:Int}(hc:0<c)(x y:Int):apartB (c*x) (c*y)=apartB x y/\apartB x (c*y)=apartB x y:=by
 unfold apartB
 constructor <;> simp only [(sgn_sc hc).1,(sgn_sc hc).2.1]
theorem sc_over {c:Int}(hc:0<c)(m a b:Pt):overB (sc c m) a b=overB m a b:=by
 unfold overB
 rw [(sc_bef hc m a).1,(sc_bef hc m b).1,sc_det]
 simp only [(sgn_sc hc).1,(sgn_sc hc).2.1]
theorem sc_on {c:Int}(hc:0<c)(m a b:Pt):onB (sc c m) a b=onB m a b:=by
 unfold onB withB
 rw [(sc_bef hc m (loM a b)).1,(sc_bef hc m (hiM a b)).2,sc_det]
 simp only [(sgn_sc hc).2.2]
theorem sc_thr {c:Int}(hc:0<c)(o m a b:Pt):thrB o (sc c m) a b=thrB o m a b:=by
 unfold thrB;rw [sc_on hc]
theorem in_piece {p z X:Pt}(b1:befB p X=true)(b2:befB X z=true)(hp:0<p.d)(hX:0<X.d)(hz:0<z.d)(h:detM p z X=0):∃ c D P:Int,0<c/\0<D/\0<P/\sc c X=cmb D P p z:=by
 obtain ⟨K,hK⟩:=shear [p,z,X]
 have hpz:befB p z=true:=bef_lt hX hz hp b2 b1
 have k1:=(bef_h (hK p (by simp) z (by simp))).1.1 hpz
 have k2:=(bef_h (hK X (by simp) z (by simp))).1.1 b2
 have k3:=(bef_h (hK p (by simp) X (by simp))).1.1 b1
 refine ⟨_,_,_,k1,k2,k3,?_⟩
 rw [sh_yv,sh_yv,sh_yv]
 apply Pt.ext'
 ·have:(K*xv p z+yv p z)*X.x-((K*xv X z+yv X z)*p.x+(K*xv p X+yv p X)*z.x) = -detM p z X:=by unfold xv yv detM;grind
  show (K*xv p z+yv p z)*X.x=(K*xv X z+yv X z)*p.x+(K*xv p X+yv p X)*z.x
  omega
 ·have:(K*xv p z+yv p z)*X.y-((K*xv X z+yv X z)*p.y+(K*xv p X+yv p X)*z.y)=K*detM p z X:=by unfold xv yv detM;grind
  show (K*xv p z+yv p z)*X.y=(K*xv X z+yv X z)*p.y+(K*xv p X+yv p X)*z.y
  rw [h,Int.mul_zero] at this
  omega
 ·have:(K*xv p z+yv p z)*X.d-((K*xv X z+yv X z)*p.d+(K*xv p X+yv p X)*z.d)=0:=by unfold xv yv;grind
  show (K*xv p z+yv p z)*X.d=(K*xv X z+yv X z)*p.d+(K*xv p X+yv p X)*z.d
  omega
structure Wi (p z X:Pt):Prop where
 pd:0<p.d
 zd:0<z.d
 d:0<X.d
 b1:befB p X=true
 b2:befB X z=true
 l:detM p z X=0
theorem Wi.bef {p z X:Pt}(h:Wi p z X):befB p z=true:=bef_lt h.d h.zd h.pd h.b2 h.b1
section
variable {p z X:Pt}(w:Wi p z X)
include w
theorem along_x {Q:List (List Pt)}(hd:∀ v∈Q.flatten,0<v.d)(hc:Clear Q p z):parB (ovL p z) (edgesM Q)=parB (overB X) (edgesM Q):=by
 obtain ⟨c,D,P,hc0,hD,hP,e⟩:=in_piece w.b1 w.b2 w.pd w.d w.zd w.l
 rw [along_c hD hP w.pd w.zd w.bef hd hc,<-e]
 exact parB_congr fun x _=>sc_over hc0 _ _ _
variable {a b:Pt}(ha:0<a.d)(hb:0<b.d)(hne:befB a b=true\/befB b a=true)
 (fa:befB p a=true->befB a z=true->detM p z a≠0) (fb:befB p b=true->befB b z=true->detM p z b≠0) (hx:crossB p z a b=false)
include ha hb hne fa fb hx
theorem on_x:alongE p z a b=onB X a b:=by
 obtain ⟨c,D,P,hc0,hD,hP,e⟩:=in_piece w.b1 w.b2 w.pd w.d w.zd w.l
 rw [on_in hD hP w.pd w.zd ha hb w.bef hne fa fb hx,<-e,sc_on hc0]
theorem thr_x (o:Pt):thrB o X a b=(onB X a b && decide (0<detM p z o)):=by
 obtain ⟨c,D,P,hc0,hD,hP,e⟩:=in_piece w.b1 w.b2 w.pd w.d w.zd w.l
 have:=thr_in hD hP w.pd w.zd ha hb w.bef hne fa fb hx o
 rw [<-e,sc_on hc0,sc_thr hc0] at this
 exact this
end
theorem side_way {P:List (List Pt)}{p z X o:Pt}(w:Wi p z X)(sd:Sd P)(hc:Clear P p z)(ho:0<o.d)(far:∀ v∈P.flatten,0<xv o v)(gen:∀ v∈P.flatten,detM o X v≠0) :
  parB (fun a b=>onB X a b) (edgesM P)=(parB (leftE p z) (edgesM P) ^^ parB (rightE p z) (edgesM P))/\parB (crossB o X) (edgesM P)=if 0<detM p z o then parB (leftE p z) (edgesM P) else parB (rightE p z) (edgesM P):=by
 have el:parB (leftE p z) (edgesM P)=parB (overB X) (edgesM P):=by
  rw [<-along_x w sd.pd hc]
  exact parB_congr fun e he=>by
   obtain ⟨m1,m2⟩:=edge_ends he
   exact leftE_eq (sd.pd _ m1) (sd.pd _ m2) w.pd
 have er:parB (rightE p z) (edgesM P)=(parB (leftE p z) (edgesM P) ^^ parB (fun a b=>onB X a b) (edgesM P)):=by
  rw [<-parB_xor]
  exact parB_congr fun e he=>by
   obtain ⟨m1,m2⟩:=edge_ends he
   rw [rightE_eq (sd.pd _ m1) (sd.pd _ m2) w.pd (sd.ne e he),on_x w (sd.pd _ m1) (sd.pd _ m2) (sd.ne e he) (hc.pt _ m1) (hc.pt _ m2) (hc.ed e he)]
 have way:=way_mid ho w.d sd.pd far gen sd.ne
 have et:parB (thrB o X) (edgesM P)=(parB (fun a b=>onB X a b) (edgesM P) && decide (0<detM p z o)):=by
  have:parB (thrB o X) (edgesM P)=parB (fun a b=>onB X a b && decide (0<detM p z o)) (edgesM P):=parB_congr fun e he=>by
   obtain ⟨m1,m2⟩:=edge_ends he
   exact thr_x w (sd.pd _ m1) (sd.pd _ m2) (sd.ne e he) (hc.pt _ m1) (hc.pt _ m2) (hc.ed e he) o
  rw [this]
  cases decide (0<detM p z o)
  ·simp only [Bool.and_false]
   exact par_none fun _ _=>rfl
  ·simp only [Bool.and_true]
 rw [<-el,et] at way
 rw [er]
 by_cases k:0<detM p z o
 ·rw [if_pos k]
  rw [decide_eq_true k] at way
  revert way
  cases parB (crossB o X) (edgesM P) <;> cases parB (fun a b=>onB X a b) (edgesM P) <;> cases parB (leftE p z) (edgesM P) <;> simp
 ·rw [if_neg k]
  rw [decide_eq_false k] at way
  revert way
  cases parB (crossB o X) (edgesM P) <;> cases parB (fun a b=>onB X a b) (edgesM P) <;> cases parB (leftE p z) (edgesM P) <;> simp
theorem on_apart' {o m a b:Pt}(ho:0<o.d)(hm:0<m.d)(ha:0<a.d)(hb:0<b.d)(hA:detM o m a≠0)(hB:detM o m b≠0)(hne:befB a b=true\/befB b a=true)(h0:detM a b m=0):onB m a b=apartB (detM o m a) (detM o m b):=by
 obtain ⟨K,k1,k2,k3,_⟩:=bnd7 (yv m a) (yv m b) (yv a b) 0 0 0 0
 exact on_apart ho hm ha hb k1 k2 k3 hA hB hne h0
theorem far_apart {o m a b:Pt}(ho:0<o.d)(fa:0<xv o a)(fb:0<xv o b)(ap:apartB (detM o m a) (detM o m b)=true):detM a b o≠0:=by
 intro h
 have e0:detM o a b=0:=by
  have:detM o a b=detM a b o:=by unfold detM;grind
  omega
 have e1:=det_xy o a b
 rw [e0,Int.mul_zero] at e1
 have e2:=det_xy o m a
 have e3:=det_xy o m b
 have e4:o.d*(xv o b*detM o m a)=o.d*(xv o a*detM o m b):=by
  have a1:o.d*(xv o b*detM o m a)=xv o b*(o.d*detM o m a):=by grind
  have a2:o.d*(xv o a*detM o m b)=xv o a*(o.d*detM o m b):=by grind
  rw [a1,a2,e2,e3]
  have a3:xv o m*(xv o a*yv o b-yv o a*xv o b)=0:=by rw [<-e1,Int.mul_zero]
  have a4:xv o b*(xv o m*yv o a-yv o m*xv o a)-xv o a*(xv o m*yv o b-yv o m*xv o b) = -(xv o m*(xv o a*yv o b-yv o a*xv o b)):=by grind
  omega
 have e5:xv o b*detM o m a=xv o a*detM o m b:=Int.eq_of_mul_eq_mul_left (by omega) e4
 unfold apartB at ap
 simp only [Bool.or_eq_true,Bool.and_eq_true,decide_eq_true_eq] at ap
 rcases ap with ⟨x,y⟩ | ⟨x,y⟩
 ·have:=mul_pn fb x;have:=mul_pp fa y;omega
 ·have:=mul_pp fb x;have:=mul_pn fa y;omega
theorem cmb_way (α β:Int)(o m v:Pt):detM o (cmb α β o m) v=β*detM o m v:=by unfold detM cmb;grind
theorem cross_cut {o m a b:Pt}{α β:Int}(hα:0<α)(hβ:0<β)(ho:0<o.d)(hm:0<m.d)(ha:0<a.d)(hb:0<b.d)(fa:0<xv o a)(fb:0<xv o b)(hA:detM o m a≠0)(hB:detM o m b≠0)(hne:befB a b=true\/befB b a=true)
  (near:crossB o m a b=true->detM a b (cmb α β o m)=0\/apartB (detM a b o) (detM a b (cmb α β o m))=true) :
  crossB o m a b=(crossB o (cmb α β o m) a b ^^ onB (cmb α β o m) a b):=by
 have hd0:=cmb_pos hα hβ ho hm
 have nz:∀ v,detM o m v≠0->detM o (cmb α β o m) v≠0:=fun v h k=>by
  rw [cmb_way] at k
  exact h ((sgn_sc hβ).2.2.1 k)
 have onz:detM a b (cmb α β o m)=0->onB (cmb α β o m) a b=apartB (detM o m a) (detM o m b):=fun h=>by
  rw [on_apart' ho hd0 ha hb (nz a hA) (nz b hB) hne h,cmb_way,cmb_way,(apart_sc hβ _ _).1]
 have onn:detM a b (cmb α β o m)≠0->onB (cmb α β o m) a b=false:=fun h=>by unfold onB;simp [h]
 unfold crossB at near ⊢
 rw [cmb_way,cmb_way,(apart_sc hβ _ _).1]
 cases ap:apartB (detM o m a) (detM o m b)
 ·simp only [Bool.false_and,Bool.false_xor]
  by_cases h:detM a b (cmb α β o m)=0
  ·rw [onz h,ap]
  ·rw [onn h]
 ·have u:=far_apart ho fa fb ap
  rw [ap] at near onz
  simp only [Bool.true_and] at near ⊢
  have e:=cmb_det α β a b o m
  by_cases h:detM a b (cmb α β o m)=0
  ·rw [onz h,h]
   have a0:apartB (detM a b o) 0=false:=by unfold apartB;simp
   rw [a0]
   rw [h] at e
   show apartB (detM a b o) (detM a b m)=true
   unfold apartB
   simp only [Bool.or_eq_true,Bool.and_eq_true,decide_eq_true_eq]
   rcases Int.lt_or_gt_of_ne u with k | k
   ·have:=mul_pn hα k
    have:0<β*detM a b m:=by omega
    exact .inl ⟨k,(sgn_sc hβ).2.1.1 this⟩
   ·have:=mul_pp hα k
    have:β*detM a b m<0:=by omega
    exact .inr ⟨k,(sgn_sc hβ).1.1 this⟩
  ·rw [onn h,Bool.xor_false]
   cases c:apartB (detM a b o) (detM a b m)
   · -- on one side: so is what lies between
    symm
    cases c2:apartB (detM a b o) (detM a b (cmb α β o m))
    ·rfl
    ·exfalso
     unfold apartB at c c2
     simp only [Bool.or_eq_true,Bool.and_eq_true,decide_eq_true_eq] at c2
     rw [Bool.or_eq_false_iff] at c
     simp only [Bool.and_eq_false_iff,decide_eq_false_iff_not] at c
     rcases c2 with ⟨x,y⟩ | ⟨x,y⟩
     ·have m1:detM a b m<=0:=by rcases c.1 with q | q <;> omega
      have:=mul_pn hα x
      have:=mul_gl (Int.le_of_lt hβ) m1
      omega
     ·have m1:0<=detM a b m:=by rcases c.2 with q | q <;> omega
      have:=mul_pp hα x
      have:=mul_gg (Int.le_of_lt hβ) m1
      omega
   ·rcases near c with k | k
    ·exact absurd k h
    ·exact k.symm
theorem far_max {γ:Type}(f g:γ->Nat)(c:γ->Bool)(hg:∀ x,c x=true->0<g x):∀ l:List γ,(∃ x∈l,c x=true)->∃ x∈l,c x=true/\∀ y∈l,c y=true->f y*g x<=f x*g y
 | [],h=>by obtain ⟨x,hx,_⟩:=h;cases hx
 | a::l,h=>by
  by_cases ex:∃ x∈l,c x=true
  ·obtain ⟨y,hy,cy,my⟩:=far_max f g c hg l ex
   by_cases ca:c a=true
   ·by_cases le:f y*g a<=f a*g y
    ·refine ⟨a,List.mem_cons_self,ca,fun z hz cz=>?_⟩
     rcases List.mem_cons.1 hz with rfl | hz
     ·exact Nat.le_refl _
     ·have h1:=my z hz cz
      have h2:f z*g y*g a<=f y*g z*g a:=Nat.mul_le_mul_right _ h1
      have h3:f y*g a*g z<=f a*g y*g z:=Nat.mul_le_mul_right _ le
      have h4:f z*g a*g y<=f a*g z*g y:=by
       have e1:f z*g a*g y=f z*g y*g a:=by rw [Nat.mul_assoc,Nat.mul_comm (g a),<-Nat.mul_assoc]
       have e2:f y*g z*g a=f y*g a*g z:=by rw [Nat.mul_assoc,Nat.mul_comm (g z),<-Nat.mul_assoc]
       have e3:f a*g z*g y=f a*g y*g z:=by rw [Nat.mul_assoc,Nat.mul_comm (g z),<-Nat.mul_assoc]
       omega
      exact Nat.le_of_mul_le_mul_right h4 (hg y cy)
    ·refine ⟨y,List.mem_cons_of_mem _ hy,cy,fun z hz cz=>?_⟩
     rcases List.mem_cons.1 hz with rfl | hz
     ·omega
     ·exact my z hz cz
   ·refine ⟨y,List.mem_cons_of_mem _ hy,cy,fun z hz cz=>?_⟩
    rcases List.mem_cons.1 hz with rfl | hz
    ·exact absurd cz ca
    ·exact my z hz cz
  ·obtain ⟨x,hx,cx⟩:=h
   rcases List.mem_cons.1 hx with rfl | hx
   ·refine ⟨x,List.mem_cons_self,cx,fun z hz cz=>?_⟩
    rcases List.mem_cons.1 hz with rfl | hz
    ·exact Nat.le_refl _
    ·exact absurd ⟨z,hz,cz⟩ ex
   ·exact absurd ⟨x,hx,cx⟩ ex
theorem countP_less {γ:Type}{p q:γ->Bool}:∀ {l:List γ},(∀ x∈l,p x=true->q x=true)->(∃ x∈l,q x=true/\p x=false)->l.countP p<l.countP q
 | [],_,h=>by obtain ⟨x,hx,_⟩:=h;cases hx
 | a::l,h,ex=>by
  have hl:∀ x∈l,p x=true->q x=true:=fun x hx=>h x (List.mem_cons_of_mem _ hx)
  rw [List.countP_cons,List.countP_cons]
  have le:l.countP p<=l.countP q:=List.countP_mono_left hl
  have ha:=h a List.mem_cons_self
  by_cases e:∃ x∈l,q x=true/\p x=false
  ·have:=countP_less hl e
   cases pa:p a <;> cases qa:q a <;> simp <;> (try omega)
   rw [ha pa] at qa;cases qa
  ·obtain ⟨x,hx,qx,px⟩:=ex
   rcases List.mem_cons.1 hx with rfl | hx
   ·rw [qx,px];simp;omega
   ·exact absurd ⟨x,hx,qx,px⟩ e
theorem par_one {f:Pt->Pt->Bool}:∀ {Q:List (Pt×Pt)} {x:Pt×Pt},Q.Nodup->x∈Q->(∀ y∈Q,y≠x->f y.1 y.2=false)->parB f Q=f x.1 x.2
 | a::Q,x,hn,hx,h=>by
  show (f a.1 a.2 ^^ parB f Q)=_
  obtain ⟨n1,n2⟩:=List.nodup_cons.1 hn
  rcases List.mem_cons.1 hx with rfl | hx
  ·rw [par_none (E:=Q) fun y hy=>h y (List.mem_cons_of_mem _ hy) (fun e=>n1 (e ▸ hy))]
   simp
  ·rw [h a List.mem_cons_self (fun e=>n1 (e ▸ hx)),par_one n2 hx (fun y hy=>h y (List.mem_cons_of_mem _ hy))]
   simp
theorem par_some {f:Pt->Pt->Bool}:∀ {E:List (Pt×Pt)},parB f E=true->∃ e∈E,f e.1 e.2=true
 | [],h=>by cases h
 | e::E,h=>by
  have h':(f e.1 e.2 ^^ parB f E)=true:=h
  cases k:f e.1 e.2
  ·rw [k,Bool.false_xor] at h'
   obtain ⟨x,hx,q⟩:=par_some h'
   exact ⟨x,List.mem_cons_of_mem _ hx,q⟩
  ·exact ⟨e,List.mem_cons_self,k⟩
end Go.Proofs.YtnkcbephceollabGreat
namespace Go.Proofs.YtnkcbephceollabGreat
set_option linter.unusedSimpArgs false
set_option linter.unusedVariables false
set_option linter.unusedSectionVars false
theorem line_apart {a b p z:Pt}(ha:0<a.d)(hb:0<b.d)(hp:0<p.d)(ne:befB a b=true\/befB b a=true)(hpz:befB p z=true)(h1:detM a b p=0)(h2:detM a b z=0)(u v:Pt) :
  apartB (detM p z u) (detM p z v)=apartB (detM a b u) (detM a b v)/\(detM p z u=0↔detM a b u=0):=by
 rcases ne with h | h
 ·have s:=fun x=>line_sign (x:=x) ha hp h1 h2 h hpz
  have su:=s u
  have sv:=s v
  refine ⟨?_,su.2.symm⟩
  unfold apartB
  rw [Bool.eq_iff_iff]
  simp only [Bool.or_eq_true,Bool.and_eq_true,decide_eq_true_eq]
  omega
 ·have fl:∀ x,detM b a x = -detM a b x:=fun x=>by unfold detM;grind
  have s:=fun x=>line_sign (x:=x) hb hp (by rw [fl,h1];rfl) (by rw [fl,h2];rfl) h hpz
  have su:=s u
  have sv:=s v
  rw [fl] at su sv
  refine ⟨?_,by omega⟩
  unfold apartB
  rw [Bool.eq_iff_iff]
  simp only [Bool.or_eq_true,Bool.and_eq_true,decide_eq_true_eq]
  omega
structure Qs (S:List Pt)(Q:List (Pt×Pt)):Prop where
 nd:Q.Nodup
 sd:∀ s∈S,0<s.d
 mem:∀ x∈Q,x.1∈S/\x.2∈S
 bef:∀ x∈Q,befB x.1 x.2=true
 uniq:∀ x∈Q,∀ y∈Q,∀ m,Wi x.1 x.2 m->onB m y.1 y.2=true->y=x
structure Web (S:List Pt)(Q:List (Pt×Pt))(P:List (List Pt)):Prop where
 sd:Sd P
 pts:∀ v∈P.flatten,v∈S
 clear:∀ x∈Q,Clear P x.1 x.2
 ex:∀ e∈edgesM P,∀ m,0<m.d->onB m e.1 e.2=true->(∀ s∈S,befB s m=true\/befB m s=true)->∃ x∈Q,Wi x.1 x.2 m
def sidF (f:Bool->Bool->Bool)(EA EB:List (Pt×Pt))(p z:Pt):Bool:=f (parB (leftE p z) EA) (parB (leftE p z) EB) ^^ f (parB (rightE p z) EA) (parB (rightE p z) EB)
theorem Qs.pos {S:List Pt}{Q:List (Pt×Pt)}(h:Qs S Q){x:Pt×Pt}(hx:x∈Q):0<x.1.d/\0<x.2.d:=⟨h.sd _ (h.mem x hx).1,h.sd _ (h.mem x hx).2⟩
section
variable {S:List Pt}{Q:List (Pt×Pt)}(hQ:Qs S Q){o:Pt}(ho:0<o.d)(far:∀ s∈S,0<xv o s)
include hQ ho far
theorem cross_at {p z m:Pt}(hp:p∈S)(hz:z∈S)(hpz:befB p z=true)(hm:0<m.d)(gen:∀ s∈S,detM o m s≠0)(h:crossB o m p z=true):∃ α β:Int,0<α/\0<β/\Wi p z (cmb α β o m):=by
 have pd:=hQ.sd _ hp
 have zd:=hQ.sd _ hz
 unfold crossB at h
 rw [Bool.and_eq_true] at h
 obtain ⟨h1,h2⟩:=h
 obtain ⟨α,β,hα,hβ,e0⟩:∃ α β:Int,0<α/\0<β/\α*detM p z o+β*detM p z m=0:=by
  unfold apartB at h2
  simp only [Bool.or_eq_true,Bool.and_eq_true,decide_eq_true_eq] at h2
  rcases h2 with ⟨x,y⟩ | ⟨x,y⟩
  ·exact ⟨detM p z m,-detM p z o,y,by omega,by grind⟩
  ·exact ⟨-detM p z m,detM p z o,by omega,x,by grind⟩
 have hd:=cmb_pos hα hβ ho hm
 have z0:detM p z (cmb α β o m)=0:=by rw [cmb_det];exact e0
 have nz:∀ v,v∈S->detM o (cmb α β o m) v≠0:=fun v hv k=>by
  rw [cmb_way] at k
  exact gen v hv ((sgn_sc hβ).2.2.1 k)
 have on:onB (cmb α β o m) p z=true:=by
  rw [on_apart' ho hd pd zd (nz p hp) (nz z hz) (.inl hpz) z0,cmb_way,cmb_way,(apart_sc hβ _ _).1];exact h1
 have wi:=(on_parts on).2
 unfold withB at wi
 rw [(lo_hi hpz).1,(lo_hi hpz).2.1] at wi
 simp only [Bool.and_eq_true,Bool.not_eq_true'] at wi
 have ne:∀ s∈S,befB s (cmb α β o m)=false->befB (cmb α β o m) s=false->False:=fun s hs k1 k2=>by
  have:=same_place (b:=o) hd k2 k1
  refine nz s hs ?_
  have e:detM o (cmb α β o m) s = -detM (cmb α β o m) o s:=by unfold detM;grind
  omega
 refine ⟨α,β,hα,hβ,pd,zd,hd,?_,?_,z0⟩
 ·cases k:befB p (cmb α β o m)
  ·exact (ne p hp k wi.1).elim
  ·rfl
 ·cases k:befB (cmb α β o m) z
  ·exact (ne z hz wi.2 k).elim
  ·rfl
variable {A B:List (List Pt)}(wA:Web S Q A)(wB:Web S Q B)
include wA wB
theorem edge_gen {e:Pt×Pt}(he:e∈edgesM A ++ edgesM B):e.1∈S/\e.2∈S/\(befB e.1 e.2=true\/befB e.2 e.1=true):=by
 rcases List.mem_append.1 he with h | h
 ·obtain ⟨m1,m2⟩:=edge_ends h
  exact ⟨wA.pts _ m1,wA.pts _ m2,wA.sd.ne e h⟩
 ·obtain ⟨m1,m2⟩:=edge_ends h
  exact ⟨wB.pts _ m1,wB.pts _ m2,wB.sd.ne e h⟩
theorem bord_edge {f:Bool->Bool->Bool}{x:Pt×Pt}(hx:x∈Q)(hF:sidF f (edgesM A) (edgesM B) x.1 x.2=true):∃ e∈edgesM A ++ edgesM B,alongE x.1 x.2 e.1 e.2=true:=by
 have pd:=(hQ.pos hx).1
 have key:∀ {P:List (List Pt)},Sd P->parB (rightE x.1 x.2) (edgesM P)=(parB (leftE x.1 x.2) (edgesM P) ^^ parB (alongE x.1 x.2) (edgesM P)):=fun {P} sd=>by
  rw [<-parB_xor]
  exact parB_congr fun e he=>by
   obtain ⟨m1,m2⟩:=edge_ends he
   exact rightE_eq (sd.pd _ m1) (sd.pd _ m2) pd (sd.ne e he)
 unfold sidF at hF
 rw [key wA.sd,key wB.sd] at hF
 cases a:parB (alongE x.1 x.2) (edgesM A)
 ·cases b:parB (alongE x.1 x.2) (edgesM B)
  ·rw [a,b] at hF
   simp at hF
  ·obtain ⟨e,he,k⟩:=par_some b
   exact ⟨e,List.mem_append.2 (.inr he),k⟩
 ·obtain ⟨e,he,k⟩:=par_some a
  exact ⟨e,List.mem_append.2 (.inl he),k⟩
theorem edge_on {x:Pt×Pt}(hx:x∈Q){m:Pt}(w:Wi x.1 x.2 m){e:Pt×Pt}(he:e∈edgesM A ++ edgesM B):alongE x.1 x.2 e.1 e.2=onB m e.1 e.2:=by
 obtain ⟨s1,s2,ne⟩:=edge_gen hQ ho far wA wB he
 rcases List.mem_append.1 he with h | h
 ·obtain ⟨m1,m2⟩:=edge_ends h
  have c:=wA.clear x hx
  exact on_x w (hQ.sd _ s1) (hQ.sd _ s2) ne (c.pt _ m1) (c.pt _ m2) (c.ed e h)
 ·obtain ⟨m1,m2⟩:=edge_ends h
  have c:=wB.clear x hx
  exact on_x w (hQ.sd _ s1) (hQ.sd _ s2) ne (c.pt _ m1) (c.pt _ m2) (c.ed e h)
theorem bord_cross {f:Bool->Bool->Bool}{m:Pt}(hm:0<m.d)(gen:∀ s∈S,detM o m s≠0){x:Pt×Pt}(hx:x∈Q)(hF:sidF f (edgesM A) (edgesM B) x.1 x.2=true)(h:crossB o m x.1 x.2=true) :
  ∃ e∈edgesM A ++ edgesM B,crossB o m e.1 e.2=true/\detM e.1 e.2 x.1=0/\detM e.1 e.2 x.2=0:=by
 obtain ⟨e,he,al⟩:=bord_edge hQ ho far wA wB hx hF
 obtain ⟨α,β,hα,hβ,w⟩:=cross_at hQ ho far (hQ.mem x hx).1 (hQ.mem x hx).2 (hQ.bef x hx) hm gen h
 have on:onB (cmb α β o m) e.1 e.2=true:=by rw [<-edge_on hQ ho far wA wB hx w he];exact al
 obtain ⟨s1,s2,ne⟩:=edge_gen hQ ho far wA wB he
 have nz:∀ v,v∈S->detM o (cmb α β o m) v≠0:=fun v hv k=>by
  rw [cmb_way] at k
  exact gen v hv ((sgn_sc hβ).2.2.1 k)
 have z0:=(on_parts on).1
 have ap:=on_apart' ho w.d (hQ.sd _ s1) (hQ.sd _ s2) (nz _ s1) (nz _ s2) ne z0
 rw [on,cmb_way,cmb_way,(apart_sc hβ _ _).1] at ap
 have u:=far_apart ho (far _ s1) (far _ s2) ap.symm
 rw [cmb_det] at z0
 refine ⟨e,he,?_,?_,?_⟩
 ·unfold crossB
  rw [<-ap,Bool.true_and]
  unfold apartB
  simp only [Bool.or_eq_true,Bool.and_eq_true,decide_eq_true_eq]
  rcases Int.lt_or_gt_of_ne u with k | k
  ·have:=mul_pn hα k
   have:0<β*detM e.1 e.2 m:=by omega
   exact .inl ⟨k,(sgn_sc hβ).2.1.1 this⟩
  ·have:=mul_pp hα k
   have:β*detM e.1 e.2 m<0:=by omega
   exact .inr ⟨k,(sgn_sc hβ).1.1 this⟩
 ·unfold alongE at al
  simp only [Bool.and_eq_true,decide_eq_true_eq] at al
  exact al.2.1
 ·unfold alongE at al
  simp only [Bool.and_eq_true,decide_eq_true_eq] at al
  exact al.2.2
theorem way_T (f:Bool->Bool->Bool)(f0:f false false=false):∀ (n:Nat) (m:Pt),0<m.d->(∀ s∈S,detM o m s≠0)->(edgesM A ++ edgesM B).countP (fun e=>crossB o m e.1 e.2)<=n->
  parB (fun p z=>sidF f (edgesM A) (edgesM B) p z && crossB o m p z) Q=f (parB (crossB o m) (edgesM A)) (parB (crossB o m) (edgesM B)):=by
 intro n
 induction n with
 | zero=>
  intro m hm gen hn
  have none:∀ e∈edgesM A ++ edgesM B,crossB o m e.1 e.2=false:=fun e he=>by
   cases k:crossB o m e.1 e.2
   ·rfl
   ·have:=List.countP_pos_iff (p:=fun e:Pt×Pt=>crossB o m e.1 e.2).2 ⟨e,he,k⟩
    omega
  rw [par_none fun e he=>none e (List.mem_append.2 (.inl he)),par_none fun e he=>none e (List.mem_append.2 (.inr he)),f0]
  refine par_none fun x hx=>?_
  cases hF:sidF f (edgesM A) (edgesM B) x.1 x.2
  ·rfl
  ·cases k:crossB o m x.1 x.2
   ·rfl
   ·obtain ⟨e,he,c,_⟩:=bord_cross hQ ho far wA wB hm gen hx hF k
    rw [none e he] at c;cases c
 | succ n ih=>
  intro m hm gen hn
  by_cases ex:∃ e∈edgesM A ++ edgesM B,crossB o m e.1 e.2=true
  ·have apz:∀ e:Pt×Pt,crossB o m e.1 e.2=true->apartB (detM e.1 e.2 o) (detM e.1 e.2 m)=true:=fun e h=>by
    unfold crossB at h;rw [Bool.and_eq_true] at h;exact h.2
   obtain ⟨e,he,ce,mx⟩:=far_max (fun e:Pt×Pt=>(detM e.1 e.2 o).natAbs) (fun e=>(detM e.1 e.2 m).natAbs) (fun e=>crossB o m e.1 e.2) (fun e h=>by
    have:=apz e h
    unfold apartB at this
    simp only [Bool.or_eq_true,Bool.and_eq_true,decide_eq_true_eq] at this
    omega) _ ex
   have ape:=apz e ce
   obtain ⟨α,hα⟩:∃ α:Int,α=((detM e.1 e.2 m).natAbs:Int):=⟨_,rfl⟩
   obtain ⟨β,hβ⟩:∃ β:Int,β=((detM e.1 e.2 o).natAbs:Int):=⟨_,rfl⟩
   have pos:0<α/\0<β/\α*detM e.1 e.2 o+β*detM e.1 e.2 m=0:=by
    unfold apartB at ape
    simp only [Bool.or_eq_true,Bool.and_eq_true,decide_eq_true_eq] at ape
    rcases ape with ⟨x,y⟩ | ⟨x,y⟩
    ·have e1:α=detM e.1 e.2 m:=by omega
     have e2:β = -detM e.1 e.2 o:=by omega
     refine ⟨by omega,by omega,?_⟩
     rw [e1,e2];grind
    ·have e1:α = -detM e.1 e.2 m:=by omega
     have e2:β=detM e.1 e.2 o:=by omega
     refine ⟨by omega,by omega,?_⟩
     rw [e1,e2];grind
   obtain ⟨pα,pβ,ez⟩:=pos
   have near:∀ e'∈edgesM A ++ edgesM B,crossB o m e'.1 e'.2=true->detM e'.1 e'.2 (cmb α β o m)=0\/apartB (detM e'.1 e'.2 o) (detM e'.1 e'.2 (cmb α β o m))=true:=fun e' he' ce'=>by
    have le:=mx e' he' ce'
    have le':((detM e'.1 e'.2 o).natAbs:Int)*α<=β*((detM e'.1 e'.2 m).natAbs:Int):=by
     rw [hα,hβ];exact_mod_cast le
    have ap':=apz e' ce'
    rw [cmb_det]
    unfold apartB at ap' ⊢
    simp only [Bool.or_eq_true,Bool.and_eq_true,decide_eq_true_eq] at ap' ⊢
    generalize detM e'.1 e'.2 o=u at *
    generalize detM e'.1 e'.2 m=v at *
    rcases ap' with ⟨x,y⟩ | ⟨x,y⟩
    ·have e1:((u.natAbs:Nat):Int) = -u:=by omega
     have e2:((v.natAbs:Nat):Int)=v:=by omega
     rw [e1,e2] at le'
     have : -u*α = -(α*u):=by grind
     omega
    ·have e1:((u.natAbs:Nat):Int)=u:=by omega
     have e2:((v.natAbs:Nat):Int) = -v:=by omega
     rw [e1,e2] at le'
     have:β * -v = -(β*v):=by grind
     have:u*α=α*u:=by grind
     omega
   have d0:=cmb_pos pα pβ ho hm
   have cut:∀ e'∈edgesM A ++ edgesM B,crossB o m e'.1 e'.2=(crossB o (cmb α β o m) e'.1 e'.2 ^^ onB (cmb α β o m) e'.1 e'.2):=fun e' he'=>by
    obtain ⟨s1,s2,ne⟩:=edge_gen hQ ho far wA wB he'
    exact cross_cut pα pβ ho hm (hQ.sd _ s1) (hQ.sd _ s2) (far _ s1) (far _ s2) (gen _ s1) (gen _ s2) ne (near e' he')
   have gen0:∀ s∈S,detM o (cmb α β o m) s≠0:=fun s hs k=>by
    rw [cmb_way] at k
    exact gen s hs ((sgn_sc pβ).2.2.1 k)
   have z0:detM e.1 e.2 (cmb α β o m)=0:=by rw [cmb_det];exact ez
   have noc:crossB o (cmb α β o m) e.1 e.2=false:=by
    unfold crossB;rw [z0];unfold apartB;simp
   have on0:onB (cmb α β o m) e.1 e.2=true:=by
    have:=cut e he
    rw [ce,noc,Bool.false_xor] at this
    exact this.symm
   have off:∀ s∈S,befB s (cmb α β o m)=true\/befB (cmb α β o m) s=true:=fun s hs=>by
    cases k1:befB s (cmb α β o m)
    ·cases k2:befB (cmb α β o m) s
     ·exfalso
      have:=same_place (b:=o) d0 k2 k1
      refine gen0 s hs ?_
      have e:detM o (cmb α β o m) s = -detM (cmb α β o m) o s:=by unfold detM;grind
      omega
     ·exact .inr rfl
    ·exact .inl rfl
   obtain ⟨x,hx,wx⟩:∃ x∈Q,Wi x.1 x.2 (cmb α β o m):=by
    rcases List.mem_append.1 he with h | h
    ·exact wA.ex e h _ d0 on0 off
    ·exact wB.ex e h _ d0 on0 off
   have less:(edgesM A ++ edgesM B).countP (fun e=>crossB o (cmb α β o m) e.1 e.2)<=n:=by
    have:=countP_less (p:=fun e:Pt×Pt=>crossB o (cmb α β o m) e.1 e.2) (q:=fun e=>crossB o m e.1 e.2) (l:=edgesM A ++ edgesM B) (fun e' he' c=>by
     have k:=cut e' he'
     have nz:detM e'.1 e'.2 (cmb α β o m)≠0:=fun z=>by
      unfold crossB at c;rw [z] at c;unfold apartB at c;simp at c
     have no:onB (cmb α β o m) e'.1 e'.2=false:=by unfold onB;simp [nz]
     rw [k,c,no];rfl) ⟨e,he,ce,noc⟩
    omega
   have T:=ih _ d0 gen0 less
   have sA:=side_way wx wA.sd (wA.clear x hx) ho (fun v hv=>far v (wA.pts v hv)) (fun v hv=>gen0 v (wA.pts v hv))
   have sB:=side_way wx wB.sd (wB.clear x hx) ho (fun v hv=>far v (wB.pts v hv)) (fun v hv=>gen0 v (wB.pts v hv))
   have cA:parB (crossB o m) (edgesM A)=(parB (crossB o (cmb α β o m)) (edgesM A) ^^ parB (fun a b=>onB (cmb α β o m) a b) (edgesM A)):=by
    rw [<-parB_xor]
    exact parB_congr fun e' he'=>cut e' (List.mem_append.2 (.inl he'))
   have cB:parB (crossB o m) (edgesM B)=(parB (crossB o (cmb α β o m)) (edgesM B) ^^ parB (fun a b=>onB (cmb α β o m) a b) (edgesM B)):=by
    rw [<-parB_xor]
    exact parB_congr fun e' he'=>cut e' (List.mem_append.2 (.inr he'))
   have cQ:parB (fun p z=>sidF f (edgesM A) (edgesM B) p z && crossB o m p z) Q=(parB (fun p z=>sidF f (edgesM A) (edgesM B) p z && crossB o (cmb α β o m) p z) Q ^^ parB (fun p z=>sidF f (edgesM A) (edgesM B) p z && onB (cmb α β o m) p z) Q):=by
    rw [<-parB_xor]
    refine parB_congr fun y hy=>?_
    cases hF:sidF f (edgesM A) (edgesM B) y.1 y.2
    ·rfl
    ·simp only [Bool.true_and]
     obtain ⟨s1,s2⟩:=hQ.mem y hy
     refine cross_cut pα pβ ho hm (hQ.sd _ s1) (hQ.sd _ s2) (far _ s1) (far _ s2) (gen _ s1) (gen _ s2) (.inl (hQ.bef y hy)) (fun c=>?_)
     obtain ⟨e',he',c',l1,l2⟩:=bord_cross hQ ho far wA wB hm gen hy hF c
     obtain ⟨t1,t2,ne⟩:=edge_gen hQ ho far wA wB he'
     have la:=line_apart (hQ.sd _ t1) (hQ.sd _ t2) (hQ.sd _ s1) ne (hQ.bef y hy) l1 l2
     rcases near e' he' c' with k | k
     ·exact .inl ((la _ o).2.2 k)
     ·exact .inr ((la o _).1.trans k)
   have one:parB (fun p z=>sidF f (edgesM A) (edgesM B) p z && onB (cmb α β o m) p z) Q=sidF f (edgesM A) (edgesM B) x.1 x.2:=by
    have onx:onB (cmb α β o m) x.1 x.2=true:=by
     unfold onB
     rw [wx.l,with_ab wx.d wx.pd wx.zd (bef_asym wx.b1) (bef_asym wx.b2)];rfl
    rw [par_one hQ.nd hx (fun y hy hne=>?_),onx,Bool.and_true]
    cases k:onB (cmb α β o m) y.1 y.2
    ·rw [Bool.and_false]
    ·exact absurd (hQ.uniq x hx y hy _ wx k) hne
   rw [cQ,T,one,cA,cB,sA.1,sB.1,sA.2,sB.2]
   unfold sidF
   have q1:∀ a b:Bool,(a ^^ (a ^^ b))=b:=by decide
   have q2:∀ a b:Bool,(b ^^ (a ^^ b))=a:=by decide
   by_cases k:0<detM x.1 x.2 o
   ·rw [if_pos k,if_pos k,q1,q1,q1]
   ·rw [if_neg k,if_neg k,q2,q2,q2]
  ·exact ih m hm gen (by
    rw [List.countP_eq_zero.2 fun e he k=>ex ⟨e,he,k⟩];omega)
end
end Go.Proofs.YtnkcbephceollabGreat
