import Derived.Test.YtnkcbephceollabGreatU21
namespace Go.Proofs.YtnkcbephceollabGreat
set_option linter.unusedVariables false
set_option linter.unusedSimpArgs false
def Canon (p:Pt):Prop:=0<p.d/\gcdM (gcdM p.x p.y) p.d=1
def Nice (p:Pt):Prop:=goodB p=true/\Canon p
theorem Nice.d {p:Pt}(h:Nice p):0<p.d:=h.2.1
theorem nice_gr {p:Pt}(h:Gr p):Nice p:=by
 have h1:=h.x;have h2:=h.y;have h3:=h.d
 unfold In at h1 h2
 refine ⟨by unfold goodB;rw [h3];exact decide_eq_true (by omega),by omega,?_⟩
 unfold gcdM;rw [h3];simp
theorem gcd_dv {k x y d:Int}(h1:k ∣ x)(h2:k ∣ y)(h3:k ∣ d):k ∣ gcdM (gcdM x y) d:=Int.dvd_coe_gcd (Int.dvd_coe_gcd h1 h2) h3
theorem canon_least {p:Pt}(hd:0<p.d):Canon (leastM p):=by
 refine ⟨least_d hd,?_⟩
 have hg:gcdM (gcdM p.x p.y) p.d≠0:=by
  unfold gcdM;intro h
  have h':Int.gcd (↑(p.x.gcd p.y)) p.d=0:=by omega
  have:=(Int.gcd_eq_zero_iff.1 h').2
  omega
 have h0:0<=gcdM (gcdM p.x p.y) p.d:=by unfold gcdM;omega
 have hD:gcdM (gcdM p.x p.y) p.d ∣ p.d:=Int.gcd_dvd_right ..
 have hG:gcdM (gcdM p.x p.y) p.d ∣ gcdM p.x p.y:=Int.gcd_dvd_left ..
 have hX:gcdM (gcdM p.x p.y) p.d ∣ p.x:=Int.dvd_trans hG (Int.gcd_dvd_left ..)
 have hY:gcdM (gcdM p.x p.y) p.d ∣ p.y:=Int.dvd_trans hG (Int.gcd_dvd_right ..)
 have el:leastM p=⟨p.x.tdiv (gcdM (gcdM p.x p.y) p.d),p.y.tdiv (gcdM (gcdM p.x p.y) p.d),p.d.tdiv (gcdM (gcdM p.x p.y) p.d)⟩:=if_neg hg
 rw [el]
 have ex:=Int.tdiv_mul_cancel hX
 have ey:=Int.tdiv_mul_cancel hY
 have ed:=Int.tdiv_mul_cancel hD
 generalize hGG:gcdM (gcdM p.x p.y) p.d=G at *
 generalize p.x.tdiv G=x at *
 generalize p.y.tdiv G=y at *
 generalize p.d.tdiv G=d at *
 simp only
 have k1:gcdM (gcdM x y) d ∣ d:=Int.gcd_dvd_right ..
 have k2:gcdM (gcdM x y) d ∣ gcdM x y:=Int.gcd_dvd_left ..
 have k3:gcdM (gcdM x y) d ∣ x:=Int.dvd_trans k2 (Int.gcd_dvd_left ..)
 have k4:gcdM (gcdM x y) d ∣ y:=Int.dvd_trans k2 (Int.gcd_dvd_right ..)
 have kk:gcdM (gcdM x y) d*G ∣ G:=by
  have:=gcd_dv (k:=gcdM (gcdM x y) d*G) (x:=p.x) (y:=p.y) (d:=p.d) (by rw [<-ex];exact Int.mul_dvd_mul k3 (Int.dvd_refl _)) (by rw [<-ey];exact Int.mul_dvd_mul k4 (Int.dvd_refl _)) (by rw [<-ed];exact Int.mul_dvd_mul k1 (Int.dvd_refl _))
  rw [hGG] at this
  exact this
 have k0:0<=gcdM (gcdM x y) d:=by unfold gcdM;omega
 obtain ⟨c,hc⟩:=kk
 have:gcdM (gcdM x y) d*c=1:=by
  have e:G*(gcdM (gcdM x y) d*c)=G*1:=by rw [Int.mul_one];rw [show G*(gcdM (gcdM x y) d*c)=gcdM (gcdM x y) d*G*c by grind];exact hc.symm
  exact Int.eq_of_mul_eq_mul_left hg e
 exact Int.eq_one_of_dvd_one k0 ⟨c,this.symm⟩
theorem dvd_den {p q:Pt}(hp:Canon p)(hq:0<q.d)(hx:p.x*q.d=q.x*p.d)(hy:p.y*q.d=q.y*p.d):p.d ∣ q.d:=by
 have h1:p.d ∣ q.d*p.x:=⟨q.x,by rw [Int.mul_comm q.d,hx,Int.mul_comm]⟩
 have h2:p.d ∣ q.d*p.y:=⟨q.y,by rw [Int.mul_comm q.d,hy,Int.mul_comm]⟩
 have h3:p.d ∣ q.d*p.d:=⟨q.d,by rw [Int.mul_comm]⟩
 have g1:p.d ∣ (Int.gcd (q.d*p.x) (q.d*p.y):Int):=Int.dvd_coe_gcd h1 h2
 rw [Int.gcd_mul_left] at g1
 have e1:((q.d.natAbs*p.x.gcd p.y:Nat):Int)=q.d*gcdM p.x p.y:=by unfold gcdM;rw [Int.natCast_mul];congr 1;omega
 rw [e1] at g1
 have g2:p.d ∣ (Int.gcd (q.d*gcdM p.x p.y) (q.d*p.d):Int):=Int.dvd_coe_gcd g1 h3
 rw [Int.gcd_mul_left] at g2
 have e2:((q.d.natAbs*(gcdM p.x p.y).gcd p.d:Nat):Int)=q.d*gcdM (gcdM p.x p.y) p.d:=by
  rw [Int.natCast_mul]
  have:((q.d.natAbs:Nat):Int)=q.d:=by omega
  rw [this];rfl
 rw [e2,hp.2,Int.mul_one] at g2
 exact g2
theorem canon_eq {p q:Pt}(hp:Canon p)(hq:Canon q)(h1:befB p q=false)(h2:befB q p=false):p=q:=by
 rw [bef_false] at h1 h2
 have hx:p.x*q.d=q.x*p.d:=by omega
 have hy:p.y*q.d=q.y*p.d:=by omega
 have d1:=dvd_den hp hq.1 hx hy
 have d2:=dvd_den hq hp.1 hx.symm hy.symm
 have ed:p.d=q.d:=Int.le_antisymm (Int.le_of_dvd hq.1 d1) (Int.le_of_dvd hp.1 d2)
 have pd:=hp.1
 refine Pt.ext' ?_ ?_ ed
 ·rw [ed] at hx;exact Int.eq_of_mul_eq_mul_right (by omega) hx
 ·rw [ed] at hy;exact Int.eq_of_mul_eq_mul_right (by omega) hy
theorem mix64 {a b W S:Int}(ha:In a 64)(hb:In b 64)(h0:0<=S)(h1:S<=W):In (a*W+(b-a)*S) (64*W):=by
 rw [mixEq]
 have e1:=ha.mul (In.mk (a:=W-S) (A:=W-S) (by omega) (by omega))
 have e2:=hb.mul (In.mk (a:=S) (A:=S) (by omega) (by omega))
 have:=e1.add e2
 unfold In at *;omega
theorem nice_least {p:Pt}(hd:0<p.d)(hg:Gd p)(hx:In p.x (64*p.d))(hy:In p.y (64*p.d)):Nice (leastM p):=by
 refine ⟨?_,canon_least hd⟩
 obtain ⟨g,g0,e⟩:=least_mul hd
 have ex:p.x=(leastM p).x*g:=congrArg Pt.x e
 have ey:p.y=(leastM p).y*g:=congrArg Pt.y e
 have ed:p.d=(leastM p).d*g:=congrArg Pt.d e
 have hgd:=least_gd hd hg
 have ld:=least_d hd
 have dd:=hgd.d
 have key:∀ z w:Int,z=w*g->In z (64*p.d)->-(64*(leastM p).d)<=w/\w<=64*(leastM p).d:=fun z w hz h=>by
  unfold In at h
  have e1:64*p.d=(64*(leastM p).d)*g:=by rw [ed];grind
  rw [e1,hz] at h
  constructor
  ·refine Int.le_of_mul_le_mul_right ?_ g0
   have : -(64*(leastM p).d)*g = -(64*(leastM p).d*g):=by grind
   omega
  ·exact Int.le_of_mul_le_mul_right h.2 g0
 have kx:=key _ _ ex hx
 have ky:=key _ _ ey hy
 unfold In at dd
 unfold goodB
 exact decide_eq_true (by omega)
theorem meet_nice {a b c d:Pt}(ha:Gr a)(hb:Gr b)(hc:Gr c)(hd:Gr d):(meetM a b c d).k=0\/((meetM a b c d).k=1/\Nice (meetM a b c d).p)\/((meetM a b c d).k=2/\Nice (meetM a b c d).p/\Nice (meetM a b c d).q):=by
 rw [meet_eq ha.d hb.d hc.d hd.d]
 by_cases hw:detM a b d-detM a b c=0
 ·rw [if_pos hw]
  by_cases m:detM a b c=0
  ·rw [if_neg (show ¬ (detM a b c≠0) by omega)]
   have gf:=nice_gr (lastM_gr (firstM_gr ha hb) (firstM_gr hc hd))
   have gt:=nice_gr (firstM_gr (lastM_gr ha hb) (lastM_gr hc hd))
   unfold lineM
   simp only
   split
   ·exact .inl rfl
   ·split
    ·exact .inr (.inl ⟨rfl,gf⟩)
    ·exact .inr (.inr ⟨rfl,gf,gt⟩)
  ·rw [if_pos m];exact .inl rfl
 ·rw [if_neg hw]
  by_cases g:goodM (detM a b d-detM a b c) (detM a b c) (detM a b d) (detM c d a) (detM c d b)
  ·rw [across_good ha.d hb.d hc.d hd.d hw g]
   refine .inr (.inl ⟨rfl,?_⟩)
   obtain ⟨P,hP,h1,h2,h3,h4⟩:=crossPt ha hb hc hd hw g
   have hb':In P.x (64*P.d)/\In P.y (64*P.d):=by
    rw [<-hP]
    unfold norm
    unfold goodM at g
    have e:=pq_mn ha.d hb.d hc.d hd.d
    by_cases h:detM a b d-detM a b c<0
    ·rw [if_pos h]
     simp only
     have ex : -(a.x*(detM a b d-detM a b c)+(b.x-a.x)*detM c d a)=a.x*(-(detM a b d-detM a b c))+(b.x-a.x)*(-detM c d a):=by grind
     have ey : -(a.y*(detM a b d-detM a b c)+(b.y-a.y)*detM c d a)=a.y*(-(detM a b d-detM a b c))+(b.y-a.y)*(-detM c d a):=by grind
     rw [ex,ey]
     exact ⟨mix64 ha.x hb.x (by omega) (by omega),mix64 ha.y hb.y (by omega) (by omega)⟩
    ·rw [if_neg h]
     exact ⟨mix64 ha.x hb.x (by omega) (by omega),mix64 ha.y hb.y (by omega) (by omega)⟩
   rw [hP]
   exact nice_least h2 h1 hb'.1 hb'.2
  ·rw [across_bad ha.d hb.d hc.d hd.d hw g];exact .inl rfl
def Srt (l:List Pt):Prop:=l.Pairwise (fun a b=>befB a b=true)
structure SN (l:List Pt):Prop where
 srt:Srt l
 nc:∀ x∈l,Nice x
theorem SN.nil:SN []:=⟨List.Pairwise.nil,fun x hx=>by cases hx⟩
def idxL (l:List Pt)(p:Pt):Nat->Nat
 | 0=>0
 | i+1=>if cmpM p (l.getD i zP)<0 then idxL l p i else i+1
def insM (l:List Pt)(p:Pt):List Pt:=
 if 0<idxL l p l.length/\cmpM p (l.getD (idxL l p l.length-1) zP)=0 then l
 else l.take (idxL l p l.length) ++ p::l.drop (idxL l p l.length)
def rinsGo (p:Pt):List Pt->Bool->List Pt
 | [],done=>if done=true then [] else [p]
 | x::l,done=>(if (!done && (placeB x p || befB p x))=true then [p] else []) ++ ((if placeB x p=true then [] else [x]) ++ rinsGo p l (done || (placeB x p || befB p x)))
def rinsM (l:List Pt)(p:Pt):List Pt:=rinsGo p l false
theorem idxL_le (l:List Pt)(p:Pt):∀ n,idxL l p n<=n
 | 0=>Nat.le_refl _
 | n+1=>by
  unfold idxL;split
  ·exact Nat.le_succ_of_le (idxL_le l p n)
  ·exact Nat.le_refl _
theorem idxL_hi (l:List Pt)(p:Pt):∀ n j,idxL l p n<=j->j<n->cmpM p (l.getD j zP)<0
 | 0,j,_,h=>by omega
 | n+1,j,h1,h2=>by
  unfold idxL at h1
  split at h1
  ·rename_i hc
   by_cases e:j=n
   ·subst e;exact hc
   ·exact idxL_hi l p n j h1 (by omega)
  ·omega
theorem idxL_lo (l:List Pt)(p:Pt):∀ n,0<idxL l p n->¬ cmpM p (l.getD (idxL l p n-1) zP)<0
 | 0,h=>by simp [idxL] at h
 | n+1,h=>by
  unfold idxL at h ⊢
  split
  ·rename_i hc
   rw [if_pos hc] at h
   exact idxL_lo l p n h
  ·rename_i hc;simpa using hc
theorem srt_getD {l:List Pt}(h:Srt l){i j:Nat}(hij:i<j)(hj:j<l.length):befB (l.getD i zP) (l.getD j zP)=true:=by
 have:=List.pairwise_iff_getElem.1 h i j (by omega) hj hij
 rw [List.getD_eq_getElem?_getD,List.getD_eq_getElem?_getD,List.getElem?_eq_getElem hj,List.getElem?_eq_getElem (by omega)]
 exact this
theorem mem_take_getD {l:List Pt}{i:Nat}{x:Pt}(h:x∈l.take i):∃ j,j<i/\j<l.length/\l.getD j zP=x:=by
 obtain ⟨j,hj,e⟩:=List.mem_iff_getElem.1 h
 have hj':j<i/\j<l.length:=by simpa [Nat.lt_min] using hj
 refine ⟨j,hj'.1,hj'.2,?_⟩
 rw [List.getD_eq_getElem?_getD,List.getElem?_eq_getElem hj'.2]
 simpa using e
theorem mem_drop_getD {l:List Pt}{i:Nat}{x:Pt}(h:x∈l.drop i):∃ j,i<=j/\j<l.length/\l.getD j zP=x:=by
 obtain ⟨j,hj,e⟩:=List.mem_iff_getElem.1 h
 have hj':i+j<l.length:=by simp at hj;omega
 refine ⟨i+j,by omega,hj',?_⟩
 rw [List.getD_eq_getElem?_getD,List.getElem?_eq_getElem hj']
 simpa using e
theorem ins_spec {l:List Pt}{p:Pt}(h:SN l)(hp:Nice p):SN (insM l p)/\∀ x,x∈insM l p↔x=p\/x∈l:=by
 have hle:=idxL_le l p l.length
 have hhi:=idxL_hi l p l.length
 have hlo:=idxL_lo l p l.length
 unfold insM
 generalize idxL l p l.length=i at *
 by_cases c:0<i/\cmpM p (l.getD (i-1) zP)=0
 ·rw [if_pos c]
  refine ⟨h,fun x=>⟨.inr,fun hx=>?_⟩⟩
  rcases hx with rfl | hx
  ·have hm:=getD_mem (l:=l) (i:=i-1) (by omega) zP
   have b1:befB x (l.getD (i-1) zP)=false:=by rw [<-cmpB,c.2];rfl
   have b2:befB (l.getD (i-1) zP) x=false:=by rw [<-cmpB',c.2];rfl
   rw [canon_eq hp.2 (h.nc _ hm).2 b1 b2];exact hm
  ·exact hx
 ·rw [if_neg c]
  have hd:∀ x∈l.drop i,befB p x=true:=fun x hx=>by
   obtain ⟨j,j1,j2,rfl⟩:=mem_drop_getD hx
   rw [<-cmpB];exact decide_eq_true (hhi j j1 j2)
  have ht:∀ x∈l.take i,befB x p=true:=fun x hx=>by
   obtain ⟨j,j1,j2,rfl⟩:=mem_take_getD hx
   have i0:0<i:=by omega
   have hl:=hlo i0
   have hc:cmpM p (l.getD (i-1) zP)≠0:=fun e=>c ⟨i0,e⟩
   have last:befB (l.getD (i-1) zP) p=true:=by rw [<-cmpB'];exact decide_eq_true (by omega)
   by_cases e:j=i-1
   ·subst e;exact last
   ·have b:=srt_getD h.srt (show j<i-1 by omega) (by omega)
    exact bef_le (h.nc _ (getD_mem j2 zP)).d (h.nc _ (getD_mem (show i-1<l.length by omega) zP)).d hp.d b (bef_asym last)
  have hs:Srt (l.take i ++ l.drop i):=by rw [List.take_append_drop];exact h.srt
  have hs':=List.pairwise_append.1 hs
  refine ⟨⟨?_,fun x hx=>?_⟩,fun x=>?_⟩
  ·refine List.pairwise_append.2 ⟨hs'.1,List.pairwise_cons.2 ⟨hd,hs'.2.1⟩,fun x hx y hy=>?_⟩
   rcases List.mem_cons.1 hy with rfl | hy
   ·exact ht x hx
   ·exact hs'.2.2 x hx y hy
  ·rcases List.mem_append.1 hx with hx | hx
   ·exact h.nc x (List.mem_of_mem_take hx)
   ·rcases List.mem_cons.1 hx with rfl | hx
    ·exact hp
    ·exact h.nc x (List.mem_of_mem_drop hx)
  ·have em:x∈l↔x∈l.take i\/x∈l.drop i:=by rw [<-List.mem_append,List.take_append_drop]
   rw [em,List.mem_append,List.mem_cons]
   constructor
   ·rintro (h | h | h)
    ·exact .inr (.inl h)
    ·exact .inl h
    ·exact .inr (.inr h)
   ·rintro (h | h | h)
    ·exact .inr (.inl h)
    ·exact .inl h
    ·exact .inr (.inr h)
theorem rins_done {p:Pt}:∀ {l:List Pt},(∀ x∈l,befB p x=true)->rinsGo p l true=l
 | [],_=>rfl
 | x::l,h=>by
  have hx:=h x (List.mem_cons_self ..)
  have hp:placeB x p=false:=by unfold placeB;rw [hx];simp
  unfold rinsGo
  rw [hp,show (true || (false || befB p x))=true from rfl,rins_done (fun y hy=>h y (List.mem_cons_of_mem _ hy))]
  simp
theorem rins_spec {p:Pt}(hp:Nice p):∀ {l:List Pt},SN l->SN (rinsM l p)/\∀ x,x∈rinsM l p↔x=p\/x∈l
 | [],h=>by
  have e:rinsM [] p=[p]:=rfl
  rw [e]
  exact ⟨⟨List.pairwise_singleton _ _,fun x hx=>by rw [List.mem_singleton.1 hx];exact hp⟩,fun x=>by simp⟩
 | y::l,h=>by
  have hs:=List.pairwise_cons.1 h.srt
  have hl:SN l:=⟨hs.2,fun x hx=>h.nc x (List.mem_cons_of_mem _ hx)⟩
  have hy:=h.nc y (List.mem_cons_self ..)
  have e:rinsM (y::l) p=(if (!false && (placeB y p || befB p y))=true then [p] else []) ++ ((if placeB y p=true then [] else [y]) ++ rinsGo p l (false || (placeB y p || befB p y))):=rfl
  rw [e]
  cases b1:befB y p
  ·cases b2:befB p y
   · -- one place
    have eq:=canon_eq hp.2 hy.2 b2 b1
    subst eq
    have hpl:placeB p p=true:=by unfold placeB;rw [bef_irr];rfl
    rw [hpl]
    have e2:rinsGo p l (false || (true || false))=l:=rins_done hs.1
    rw [e2]
    simp only [Bool.not_false,Bool.true_and,Bool.true_or,if_true,List.nil_append,List.cons_append]
    exact ⟨h,fun x=>by simp⟩
   ·have hpl:placeB y p=false:=by unfold placeB;rw [b1,b2];rfl
    rw [hpl]
    have hall:∀ x∈l,befB p x=true:=fun x hx=>bef_lt hy.d (hl.nc x hx).d hp.d (hs.1 x hx) b2
    have e2:rinsGo p l (false || (false || true))=l:=rins_done hall
    rw [e2]
    simp only [Bool.not_false,Bool.true_and,Bool.or_true,if_true,Bool.false_eq_true,if_false,List.cons_append,List.nil_append]
    refine ⟨⟨List.pairwise_cons.2 ⟨fun x hx=>?_,h.srt⟩,fun x hx=>?_⟩,fun x=>by simp⟩
    ·rcases List.mem_cons.1 hx with rfl | hx
     ·exact b2
     ·exact hall x hx
    ·rcases List.mem_cons.1 hx with rfl | hx
     ·exact hp
     ·exact h.nc x hx
  ·have b2:=bef_asym b1
   have hpl:placeB y p=false:=by unfold placeB;rw [b1];simp
   rw [hpl,b2]
   obtain ⟨ih1,ih2⟩:=rins_spec hp hl
   simp only [Bool.not_false,Bool.true_and,Bool.or_false,Bool.false_eq_true,if_false,List.nil_append,List.cons_append]
   have e3:rinsGo p l false=rinsM l p:=rfl
   rw [e3]
   refine ⟨⟨List.pairwise_cons.2 ⟨fun x hx=>?_,ih1.srt⟩,fun x hx=>?_⟩,fun x=>?_⟩
   ·rcases (ih2 x).1 hx with rfl | hx
    ·exact b1
    ·exact hs.1 x hx
   ·rcases List.mem_cons.1 hx with rfl | hx
    ·exact hy
    ·exact ih1.nc x hx
   ·rw [List.mem_cons,ih2,List.mem_cons]
    constructor
    ·rintro (h | h | h)
     ·exact .inr (.inl h)
     ·exact .inl h
     ·exact .inr (.inr h)
    ·rintro (h | h | h)
     ·exact .inr (.inl h)
     ·exact .inl h
     ·exact .inr (.inr h)
theorem srt_unique {α:Type}{R:α->α->Prop}(irr:∀ x,¬ R x x)(asy:∀ x y,R x y->¬ R y x):∀ {l1 l2:List α},l1.Pairwise R->l2.Pairwise R->(∀ x,x∈l1↔x∈l2)->l1=l2
 | [],[],_,_,_=>rfl
 | [],y::l2,_,_,h=>by have:=(h y).2 (List.mem_cons_self ..);cases this
 | x::l1,[],_,_,h=>by have:=(h x).1 (List.mem_cons_self ..);cases this
 | x::l1,y::l2,h1,h2,h=>by
  have p1:=List.pairwise_cons.1 h1
  have p2:=List.pairwise_cons.1 h2
  have e:x=y:=by
   rcases List.mem_cons.1 ((h x).1 (List.mem_cons_self ..)) with e | hx
   ·exact e
   ·rcases List.mem_cons.1 ((h y).2 (List.mem_cons_self ..)) with e | hy
    ·exact e.symm
    ·exact absurd (p2.1 x hx) (asy _ _ (p1.1 y hy))
  subst e
  congr 1
  refine srt_unique irr asy p1.2 p2.2 fun z=>?_
  constructor
  ·intro hz
   rcases List.mem_cons.1 ((h z).1 (List.mem_cons_of_mem _ hz)) with e | hz'
   ·subst e;exact absurd (p1.1 z hz) (irr z)
   ·exact hz'
  ·intro hz
   rcases List.mem_cons.1 ((h z).2 (List.mem_cons_of_mem _ hz)) with e | hz'
   ·subst e;exact absurd (p2.1 z hz) (irr z)
   ·exact hz'
theorem SN.eq {l1 l2:List Pt}(h1:SN l1)(h2:SN l2)(h:∀ x,x∈l1↔x∈l2):l1=l2:=
 srt_unique (fun x=>by rw [bef_irr];decide) (fun x y hxy=>by rw [bef_asym hxy];decide) h1.srt h2.srt h
def inMt (m:Mt)(x:Pt):Prop:=(m.k≠0/\x=m.p)\/(m.k=2/\x=m.q)
def NiceM (m:Mt):Prop:=m.k=0\/(m.k=1/\Nice m.p)\/(m.k=2/\Nice m.p/\Nice m.q)
def stepM (s:List Pt)(m:Mt):List Pt:=if m.k=2 then insM (if m.k≠0 then insM s m.p else s) m.q else (if m.k≠0 then insM s m.p else s)
def rstepM (s:List Pt)(m:Mt):List Pt:=if m.k=2 then rinsM (if m.k≠0 then rinsM s m.p else s) m.q else (if m.k≠0 then rinsM s m.p else s)
theorem step_spec {s:List Pt}{m:Mt}(h:SN s)(hm:NiceM m):SN (stepM s m)/\∀ x,x∈stepM s m↔x∈s\/inMt m x:=by
 unfold stepM inMt
 rcases hm with k | ⟨k,hp⟩ | ⟨k,hp,hq⟩
 ·rw [if_neg (by omega),if_neg (by omega)]
  exact ⟨h,fun x=>by simp [k]⟩
 ·rw [if_neg (by omega),if_pos (by omega)]
  obtain ⟨h1,h2⟩:=ins_spec h hp
  exact ⟨h1,fun x=>by rw [h2];simp [k,or_comm]⟩
 ·rw [if_pos k,if_pos (by omega)]
  obtain ⟨h1,h2⟩:=ins_spec h hp
  obtain ⟨h3,h4⟩:=ins_spec h1 hq
  refine ⟨h3,fun x=>?_⟩
  rw [h4,h2]
  simp only [k,ne_eq,show ¬ (2:Int)=0 by decide,not_false_iff,true_and]
  constructor
  ·rintro (e | e | e)
   ·exact .inr (.inr e)
   ·exact .inr (.inl e)
   ·exact .inl e
  ·rintro (e | e | e)
   ·exact .inr (.inr e)
   ·exact .inr (.inl e)
   ·exact .inl e
theorem rstep_spec {s:List Pt}{m:Mt}(h:SN s)(hm:NiceM m):SN (rstepM s m)/\∀ x,x∈rstepM s m↔x∈s\/inMt m x:=by
 unfold rstepM inMt
 rcases hm with k | ⟨k,hp⟩ | ⟨k,hp,hq⟩
 ·rw [if_neg (by omega),if_neg (by omega)]
  exact ⟨h,fun x=>by simp [k]⟩
 ·rw [if_neg (by omega),if_pos (by omega)]
  obtain ⟨h1,h2⟩:=rins_spec hp h
  exact ⟨h1,fun x=>by rw [h2];simp [k,or_comm]⟩
 ·rw [if_pos k,if_pos (by omega)]
  obtain ⟨h1,h2⟩:=rins_spec hp h
  obtain ⟨h3,h4⟩:=rins_spec hq h1
  refine ⟨h3,fun x=>?_⟩
  rw [h4,h2]
  simp only [k,ne_eq,show ¬ (2:Int)=0 by decide,not_false_iff,true_and]
  constructor
  ·rintro (e | e | e)
   ·exact .inr (.inr e)
   ·exact .inr (.inl e)
   ·exact .inl e
  ·rintro (e | e | e)
   ·exact .inr (.inr e)
   ·exact .inr (.inl e)
   ·exact .inl e
theorem fold_spec {α:Type}(f:List Pt->α->List Pt)(A:α->Pt->Prop):∀ (L:List α) (s:List Pt),(∀ i∈L,∀ s,SN s->SN (f s i)/\∀ x,x∈f s i↔x∈s\/A i x)->SN s->SN (L.foldl f s)/\∀ x,x∈L.foldl f s↔x∈s\/∃ i∈L,A i x
 | [],s,_,h=>⟨h,fun x=>by simp⟩
 | i::L,s,hf,h=>by
  obtain ⟨h1,h2⟩:=hf i (List.mem_cons_self ..) s h
  obtain ⟨h3,h4⟩:=fold_spec f A L (f s i) (fun j hj=>hf j (List.mem_cons_of_mem _ hj)) h1
  refine ⟨h3,fun x=>?_⟩
  rw [List.foldl_cons,h4,h2]
  constructor
  ·rintro ((e | e) | ⟨j,hj,e⟩)
   ·exact .inl e
   ·exact .inr ⟨i,List.mem_cons_self ..,e⟩
   ·exact .inr ⟨j,List.mem_cons_of_mem _ hj,e⟩
  ·rintro (e | ⟨j,hj,e⟩)
   ·exact .inl (.inl e)
   ·rcases List.mem_cons.1 hj with rfl | hj
    ·exact .inl (.inr e)
    ·exact .inr ⟨j,hj,e⟩
def spotsM (E:List (Pt×Pt)):List Pt:=E.foldl (fun s e=>E.foldl (fun s f=>stepM s (meetM e.1 e.2 f.1 f.2)) s) []
def rspotsM (E:List (Pt×Pt)):List Pt:=(List.range E.length).foldl (fun s i=>(E.take i).foldl (fun s f=>rstepM s (meetM (E.getD i (zP,zP)).1 (E.getD i (zP,zP)).2 f.1 f.2)) (rinsM s (E.getD i (zP,zP)).1)) []
structure Good (E:List (Pt×Pt)):Prop where
 gr:∀ e∈E,Gr e.1/\Gr e.2
 ne:∀ e∈E,e.1≠e.2
 sec:∀ e∈E,∃ e'∈E,e'.1=e.2
theorem Good.mt {E:List (Pt×Pt)}(h:Good E){e f:Pt×Pt}(he:e∈E)(hf:f∈E):NiceM (meetM e.1 e.2 f.1 f.2):=
 meet_nice (h.gr e he).1 (h.gr e he).2 (h.gr f hf).1 (h.gr f hf).2
theorem spots_spec {E:List (Pt×Pt)}(h:Good E):SN (spotsM E)/\∀ x,x∈spotsM E↔∃ e∈E,∃ f∈E,inMt (meetM e.1 e.2 f.1 f.2) x:=by
 obtain ⟨h1,h2⟩:=fold_spec (fun s e=>E.foldl (fun s f=>stepM s (meetM e.1 e.2 f.1 f.2)) s) (fun e x=>∃ f∈E,inMt (meetM e.1 e.2 f.1 f.2) x) E [] (fun e he s hs=>fold_spec (fun s (f:Pt×Pt)=>stepM s (meetM e.1 e.2 f.1 f.2)) (fun f x=>inMt (meetM e.1 e.2 f.1 f.2) x) E s (fun f hf s hs=>step_spec hs (h.mt he hf)) hs) SN.nil
 exact ⟨h1,fun x=>by have:=h2 x;simpa [spotsM] using this⟩
theorem rspots_spec {E:List (Pt×Pt)}(h:Good E):SN (rspotsM E)/\∀ x,x∈rspotsM E↔∃ i,i<E.length/\(x=(E.getD i (zP,zP)).1\/∃ f∈E.take i,inMt (meetM (E.getD i (zP,zP)).1 (E.getD i (zP,zP)).2 f.1 f.2) x):=by
 obtain ⟨h1,h2⟩:=fold_spec (fun s i=>(E.take i).foldl (fun s f=>rstepM s (meetM (E.getD i (zP,zP)).1 (E.getD i (zP,zP)).2 f.1 f.2)) (rinsM s (E.getD i (zP,zP)).1)) (fun i x=>x=(E.getD i (zP,zP)).1\/∃ f∈E.take i,inMt (meetM (E.getD i (zP,zP)).1 (E.getD i (zP,zP)).2 f.1 f.2) x) (List.range E.length) [] (fun i hi s hs=>by
  have hi':i<E.length:=by simpa using hi
  have he:=getD_mem hi' (zP,zP)
  obtain ⟨a1,a2⟩:=rins_spec (nice_gr (h.gr _ he).1) hs
  obtain ⟨b1,b2⟩:=fold_spec (fun s (f:Pt×Pt)=>rstepM s (meetM (E.getD i (zP,zP)).1 (E.getD i (zP,zP)).2 f.1 f.2)) (fun f x=>inMt (meetM (E.getD i (zP,zP)).1 (E.getD i (zP,zP)).2 f.1 f.2) x) (E.take i) _ (fun f hf s hs=>rstep_spec hs (h.mt he (List.mem_of_mem_take hf))) a1
  refine ⟨b1,fun x=>?_⟩
  rw [b2,a2]
  constructor
  ·rintro ((e | e) | e)
   ·exact .inr (.inl e)
   ·exact .inl e
   ·exact .inr (.inr e)
  ·rintro (e | e | e)
   ·exact .inl (.inr e)
   ·exact .inl (.inl e)
   ·exact .inr e) SN.nil
 exact ⟨h1,fun x=>by have:=h2 x;simpa [rspotsM] using this⟩
theorem meet_comm {a b c d:Pt}(ha:a.d=1)(hb:b.d=1)(hc:c.d=1)(hd:d.d=1)(hab:a≠b)(hcd:c≠d):meetM c d a b=meetM a b c d:=
 (meet_sym2 hd hc ha hb).trans (meet_sym1 ha hb hc hd hab hcd)
theorem meet_same {a b:Pt}(ha:a.d=1)(hb:b.d=1)(hab:a≠b):meetM a b a b=⟨2,firstM a b,lastM a b⟩:=
 ((
  meet_sym2 ha hb ha hb).symm.trans (meet_comm ha hb hb ha hab (Ne.symm hab))).trans (meet_self ha hb hab)
theorem spots_eq {E:List (Pt×Pt)}(h:Good E):rspotsM E=spotsM E:=by
 obtain ⟨s1,m1⟩:=spots_spec h
 obtain ⟨s2,m2⟩:=rspots_spec h
 refine s2.eq s1 fun x=>?_
 rw [m1,m2]
 have ends:∀ e∈E,∀ y,y=e.1\/y=e.2->inMt (meetM e.1 e.2 e.1 e.2) y:=fun e he y hy=>by
  rw [meet_same (h.gr e he).1.d (h.gr e he).2.d (h.ne e he)]
  unfold inMt
  simp only [ne_eq,show ¬ (2:Int)=0 by decide,not_false_iff,true_and]
  rw [first_eq,last_eq]
  have tri:=L_tri (h.gr e he).1.d (h.gr e he).2.d
  rcases tri with t | t | t
  ·have b1:=(bef_L (h.gr e he).1.d (h.gr e he).2.d).2 t
   have b2:=bef_asym b1
   rw [b1,b2];simpa using hy
  ·exact absurd t (h.ne e he)
  ·have b1:=(bef_L (h.gr e he).2.d (h.gr e he).1.d).2 t
   have b2:=bef_asym b1
   rw [b1,b2];simpa [or_comm] using hy
 constructor
 ·rintro ⟨i,hi,e | ⟨f,hf,e⟩⟩
  ·have he:=getD_mem hi (zP,zP)
   exact ⟨_,he,_,he,ends _ he x (.inl e)⟩
  ·exact ⟨_,getD_mem hi (zP,zP),f,List.mem_of_mem_take hf,e⟩
 ·rintro ⟨e,he,f,hf,k⟩
  obtain ⟨i,hi,ei⟩:=List.mem_iff_getElem.1 he
  obtain ⟨j,hj,ej⟩:=List.mem_iff_getElem.1 hf
  have gi:E.getD i (zP,zP)=e:=by rw [List.getD_eq_getElem?_getD,List.getElem?_eq_getElem hi];exact ei
  have gj:E.getD j (zP,zP)=f:=by rw [List.getD_eq_getElem?_getD,List.getElem?_eq_getElem hj];exact ej
  rcases Nat.lt_trichotomy i j with c | c | c
  ·refine ⟨j,hj,.inr ⟨e,?_,?_⟩⟩
   ·rw [List.mem_take_iff_getElem]
    exact ⟨i,by omega,ei⟩
   ·rw [gj,meet_comm (h.gr e he).1.d (h.gr e he).2.d (h.gr f hf).1.d (h.gr f hf).2.d (h.ne e he) (h.ne f hf)];exact k
  ·subst c
   have:e=f:=by rw [<-ei,<-ej]
   subst this
   rw [meet_same (h.gr e he).1.d (h.gr e he).2.d (h.ne e he)] at k
   have hx:x=e.1\/x=e.2:=by
    unfold inMt at k
    rcases k with ⟨_,k⟩ | ⟨_,k⟩
    ·rcases first_cases e.1 e.2 with c | c
     ·exact .inl (k.trans c)
     ·exact .inr (k.trans c)
    ·rcases last_cases e.1 e.2 with c | c
     ·exact .inl (k.trans c)
     ·exact .inr (k.trans c)
   rcases hx with hx | hx
   ·exact ⟨i,hi,.inl (by rw [gi];exact hx)⟩
   ·obtain ⟨e',he',e2⟩:=h.sec e he
    obtain ⟨n,hn,en⟩:=List.mem_iff_getElem.1 he'
    exact ⟨n,hn,.inl (by rw [List.getD_eq_getElem?_getD,List.getElem?_eq_getElem hn];show x=(E[n]).1;rw [en,e2];exact hx)⟩
  ·refine ⟨i,hi,.inr ⟨f,?_,?_⟩⟩
   ·rw [List.mem_take_iff_getElem]
    exact ⟨j,by omega,ej⟩
   ·rw [gi];exact k
end Go.Proofs.YtnkcbephceollabGreat
