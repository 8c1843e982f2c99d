import Derived.Test.YtnkcbephceollabGreatU45
namespace Go.Proofs.YtnkcbephceollabGreat
set_option linter.unusedSimpArgs false
set_option linter.unusedVariables false
set_option linter.unusedSectionVars false
theorem n10 : ¬ (1:Int)=0:=by decide
theorem n12 : ¬ (1:Int)=2:=by decide
theorem n20 : ¬ (2:Int)=0:=by decide
theorem on_three {s c d:Pt}(hs:Nice s)(hc:Gr c)(hd:Gr d)(ne:c≠d)(on:onB s c d=true):s=c\/s=d\/∃ k D P:Int,0<k/\0<D/\0<P/\sc k s=cmb D P c d:=by
 have dc:0<c.d:=by have:=hc.d;omega
 have dd:0<d.d:=by have:=hd.d;omega
 obtain ⟨l,w⟩:=on_parts on
 have sd:=hs.d
 rcases bef_or hc.d hd.d ne with b | b
 ·unfold withB at w
  rw [(lo_hi b).1,(lo_hi b).2.1] at w
  simp only [Bool.and_eq_true,Bool.not_eq_true'] at w
  cases k1:befB c s
  ·exact .inl (canon_eq hs.2 (nice_gr hc).2 w.1 k1)
  ·cases k2:befB s d
   ·exact .inr (.inl (canon_eq hs.2 (nice_gr hd).2 k2 w.2))
   ·obtain ⟨k,D,P,h⟩:=in_piece k1 k2 dc sd dd l
    exact .inr (.inr ⟨k,D,P,h⟩)
 ·unfold withB at w
  rw [(lo_hi b).2.2.1,(lo_hi b).2.2.2] at w
  simp only [Bool.and_eq_true,Bool.not_eq_true'] at w
  cases k1:befB d s
  ·exact .inr (.inl (canon_eq hs.2 (nice_gr hd).2 w.1 k1))
  ·cases k2:befB s c
   ·exact .inl (canon_eq hs.2 (nice_gr hc).2 k2 w.2)
   ·have l':detM d c s=0:=by rw [det_back,l];rfl
    obtain ⟨k,D,P,h1,h2,h3,h4⟩:=in_piece k1 k2 dd sd dc l'
    refine .inr (.inr ⟨k,P,D,h1,h3,h2,?_⟩)
    rw [h4]
    unfold cmb
    apply Pt.ext' <;> simp only <;> omega
theorem opp_on {s a b c d:Pt}(hs:Nice s)(hc:Gr c)(hd:Gr d)(ne:c≠d)(on:onB s c d=true)(l:detM a b s=0) : ¬ (0<detM a b c/\0<detM a b d)/\¬ (detM a b c<0/\detM a b d<0)/\(detM a b c=detM a b d->detM a b c=0):=by
 rcases on_three hs hc hd ne on with e | e | ⟨k,D,P,hk,hD,hP,e⟩
 ·rw [<-e,l];omega
 ·rw [<-e,l];omega
 ·have e2:detM a b (sc k s)=detM a b (cmb D P c d):=by rw [e]
  rw [sc_det,l,Int.mul_zero,cmb_det] at e2
  refine ⟨fun h=>?_,fun h=>?_,fun h=>?_⟩
  ·have:=mul_pp hD h.1;have:=mul_pp hP h.2;omega
  ·have:=mul_pn hD h.1;have:=mul_pn hP h.2;omega
  ·rw [<-h] at e2
   rcases Int.lt_trichotomy (detM a b c) 0 with q | q | q
   ·have:=mul_pn hD q;have:=mul_pn hP q;omega
   ·exact q
   ·have:=mul_pp hD q;have:=mul_pp hP q;omega
theorem holds_on {a b X:Pt}(ha:0<a.d)(hb:0<b.d)(hX:0<X.d)(h:holdsB a b X=true):onB X a b=true:=by
 obtain ⟨l,h1,h2⟩:=(holds_iff a b X).1 h
 unfold onB
 rw [l]
 show (decide ((0:Int)=0) && withB X a b)=true
 have d0:decide ((0:Int)=0)=true:=by decide
 rw [d0,Bool.true_and]
 unfold withB loM hiM
 by_cases c:befB b a=true
 ·rw [if_pos c,if_pos c]
  have i1:befB X b=true->befB X a=true:=fun k=>bef_lt hb ha hX c k
  have i2:befB a X=true->befB b X=true:=fun k=>bef_lt ha hX hb k c
  cases k1:befB X b
  ·cases k2:befB a X
   ·rfl
   ·exact absurd ⟨k2,i2 k2⟩ h2
  ·exact absurd ⟨i1 k1,k1⟩ h1
 ·rw [if_neg c,if_neg c]
  have c':befB b a=false:=by simpa using c
  cases k1:befB X a
  ·cases k2:befB b X
   ·rfl
   ·exact absurd ⟨le_bef ha hb hX c' k2,k2⟩ h2
  ·exact absurd ⟨k1,bef_le hX ha hb k1 c'⟩ h1
theorem two_lines {a b c d X Y:Pt}(hX:0<X.d)(hY:0<Y.d)(nc:detM a b d-detM a b c≠0)(x1:detM a b X=0)(x2:detM c d X=0)(y1:detM a b Y=0)(y2:detM c d Y=0)(ha:a.d=1)(hb:b.d=1)(hc:c.d=1)(hd:d.d=1):befB X Y=false/\befB Y X=false:=by
 have e1:(detM a b d-detM a b c)*xv X Y=(d.x-c.x)*(X.d*detM a b Y-Y.d*detM a b X)-(b.x-a.x)*(X.d*detM c d Y-Y.d*detM c d X):=by
  clear x1 x2 y1 y2 nc;unfold xv detM;rw [ha,hb,hc,hd];grind
 have e2:(detM a b d-detM a b c)*yv X Y=(d.y-c.y)*(X.d*detM a b Y-Y.d*detM a b X)-(b.y-a.y)*(X.d*detM c d Y-Y.d*detM c d X):=by
  clear x1 x2 y1 y2 nc e1;unfold yv detM;rw [ha,hb,hc,hd];grind
 rw [x1,x2,y1,y2] at e1 e2
 simp only [Int.mul_zero,Int.sub_self] at e1 e2
 have z1:xv X Y=0:=by
  rcases Int.mul_eq_zero.1 e1 with k | k
  ·exact absurd k nc
  ·exact k
 have z2:yv X Y=0:=by
  rcases Int.mul_eq_zero.1 e2 with k | k
  ·exact absurd k nc
  ·exact k
 constructor
 ·rw [bef_x];omega
 ·rw [bef_x'];omega
theorem meet_across {a b c d s:Pt}(ha:Gr a)(hb:Gr b)(hc:Gr c)(hd:Gr d)(hab:a≠b)(hcd:c≠d)(hs:Nice s)(o1:onB s a b=true)(o2:onB s c d=true)(nc : ¬ (detM a b c=0/\detM a b d=0)):inMt (meetM a b c d) s:=by
 have da:0<a.d:=by have:=ha.d;omega
 have db:0<b.d:=by have:=hb.d;omega
 have dc:0<c.d:=by have:=hc.d;omega
 have dd:0<d.d:=by have:=hd.d;omega
 have p1:=opp_on hs hc hd hcd o2 (on_parts o1).1
 have p2:=opp_on hs ha hb hab o1 (on_parts o2).1
 have pq:=pq_mn ha.d hb.d hc.d hd.d
 have hw:detM a b d-detM a b c≠0:=by omega
 have g:goodM (detM a b d-detM a b c) (detM a b c) (detM a b d) (detM c d a) (detM c d b):=by
  unfold goodM;omega
 have mn:=meet_nice ha hb hc hd
 have em:meetM a b c d=acrossM a b c d:=by rw [meet_eq ha.d hb.d hc.d hd.d,if_neg hw]
 rcases meet_cases ha hb hc hd hab hcd with ⟨e,_⟩ | ⟨P,e,_,pd,h1,h2,_⟩ | ⟨P,Q,e,_⟩
 ·rw [em,across_good ha.d hb.d hc.d hd.d hw g] at e
  have:=congrArg Mt.k e
  exact absurd this n10
 ·rw [e] at mn
  have nP:Nice P:=by
   rcases mn with k | k | k
   ·exact absurd k n10
   ·exact k.2
   ·exact absurd k.1 n12
  have l1:=(on_parts (holds_on da db pd h1)).1
  have l2:=(on_parts (holds_on dc dd pd h2)).1
  obtain ⟨k1,k2⟩:=two_lines hs.d pd hw (on_parts o1).1 (on_parts o2).1 l1 l2 ha.d hb.d hc.d hd.d
  rw [e]
  exact .inl ⟨n10,canon_eq hs.2 nP.2 k1 k2⟩
 ·rw [em,across_good ha.d hb.d hc.d hd.d hw g] at e
  have:=congrArg Mt.k e
  exact absurd this n12
theorem meet_ends {a b c d s:Pt}(ha:Gr a)(hb:Gr b)(hc:Gr c)(hd:Gr d)(hab:a≠b)(o1:onB s a b=true)(l1:detM a b c=0)(l2:detM a b d=0)(hs:s=c\/s=d):inMt (meetM a b c d) s:=by
 have gs:Gr s:=by rcases hs with e | e <;> rw [e] <;> assumption
 have em:meetM a b c d=lineM a b c d:=by rw [meet_eq ha.d hb.d hc.d hd.d,if_pos (by omega),if_neg (by simpa using l1)]
 have w:=(on_parts o1).2
 have fd:=first_d ha.d hb.d
 have ld:=last_d ha.d hb.d
 have b1 : ¬ L s (firstM a b)/\¬ L (lastM a b) s:=by
  rw [first_eq,last_eq]
  unfold withB loM hiM at w
  rw [Bool.and_eq_true,Bool.not_eq_true',Bool.not_eq_true'] at w
  by_cases c:befB b a=true
  ·rw [if_pos c] at w ⊢
   rw [if_pos c] at w
   rw [if_neg (by rw [bef_asym c];decide)]
   exact ⟨fun k=>by rw [(bef_L gs.d hb.d).2 k] at w;exact absurd w.1 (by decide),fun k=>by rw [(bef_L ha.d gs.d).2 k] at w;exact absurd w.2 (by decide)⟩
  ·have c':befB a b=true:=(bef_or ha.d hb.d hab).resolve_right c
   rw [if_neg c] at w ⊢
   rw [if_neg c] at w
   rw [if_pos c']
   exact ⟨fun k=>by rw [(bef_L gs.d ha.d).2 k] at w;exact absurd w.1 (by decide),fun k=>by rw [(bef_L hb.d gs.d).2 k] at w;exact absurd w.2 (by decide)⟩
 have fc:=first_le hc.d hd.d
 have lc:=last_ge hc.d hd.d
 have fcd:=first_d hc.d hd.d
 have lcd:=last_d hc.d hd.d
 have sfl:s=firstM c d\/s=lastM c d:=by
  rcases L_tri hc.d hd.d with t | t | t
  ·have f1:firstM c d=c:=by rw [first_eq,if_neg (by rw [bef_asym ((bef_L hc.d hd.d).2 t)];decide)]
   have f2:lastM c d=d:=by rw [last_eq,if_pos ((bef_L hc.d hd.d).2 t)]
   rw [f1,f2];exact hs
  ·subst t
   rw [first_self]
   rcases hs with e | e <;> exact .inl e
  ·have f1:firstM c d=d:=by rw [first_eq,if_pos ((bef_L hd.d hc.d).2 t)]
   have f2:lastM c d=c:=by rw [last_eq,if_neg (by rw [bef_asym ((bef_L hd.d hc.d).2 t)];decide)]
   rw [f1,f2];exact hs.symm
 have dF:=last_d fd fcd
 have dT:=first_d ld lcd
 have hF:=last_ge fd fcd
 have hT:=first_le ld lcd
 have cF:=last_cases (firstM a b) (firstM c d)
 have cT:=first_cases (lastM a b) (lastM c d)
 have fl : ¬ L (lastM c d) (firstM c d):=fun k=>fc.1 (by
  rcases last_cases c d with e | e
  ·rw [e] at k;exact k
  ·rw [e] at k;exact absurd k fc.2)
 rw [em]
 unfold lineM
 simp only
 generalize lastM (firstM a b) (firstM c d)=F at *
 generalize firstM (lastM a b) (lastM c d)=T at *
 generalize firstM a b=f1 at *
 generalize lastM a b=t1 at *
 generalize firstM c d=f2 at *
 generalize lastM c d=t2 at *
 have nFs : ¬ L s F:=by
  rcases cF with e | e
  ·rw [e];exact b1.1
  ·rw [e]
   rcases sfl with k | k
   ·rw [k];exact fun q=>L_asym q q
   ·rw [k];exact fl
 have nsT : ¬ L T s:=by
  rcases cT with e | e
  ·rw [e];exact b1.2
  ·rw [e]
   rcases sfl with k | k
   ·rw [k];exact fl
   ·rw [k];exact fun q=>L_asym q q
 have nTF : ¬ cmpM F T > 0:=fun k=>by
  have k':=(cmp_pos dF dT).1 k
  rcases L_tri gs.d dF with q | q | q
  ·exact nFs q
  ·rw [q] at nsT;exact nsT k'
  ·exact nsT (L_trans k' q)
 rw [if_neg nTF]
 by_cases z:cmpM F T=0
 ·rw [if_pos z]
  have e:=(cmp_zero dF dT).1 z
  refine .inl ⟨n10,L_anti gs.d dF nFs (by rw [e];exact nsT)⟩
 ·rw [if_neg z]
  rcases sfl with k | k
  ·refine .inl ⟨n20,L_anti gs.d dF nFs (by rw [k];exact hF.2)⟩
  ·refine .inr ⟨rfl,L_anti gs.d dT (by rw [k];exact hT.2) nsT⟩
theorem spot_both {E:List (Pt×Pt)}(hG:Good E){s:Pt}(ns:Nice s){g h:Pt×Pt}(hg:g∈E)(hh:h∈E)(im:inMt (meetM g.1 g.2 h.1 h.2) s):onB s g.1 g.2=true/\onB s h.1 h.2=true:=by
 have gg:=hG.gr g hg
 have gh:=hG.gr h hh
 have pos:∀ {p:Pt},Gr p->0<p.d:=fun k=>by have:=k.d;omega
 rcases meet_cases gg.1 gg.2 gh.1 gh.2 (hG.ne g hg) (hG.ne h hh) with ⟨k,_⟩ | ⟨P,k,_,pd,h1,h2,_⟩ | ⟨P,Q,k,gP,gQ,h1,h2,h3,h4,bb,_⟩
 ·rw [k] at im
  rcases im with ⟨q,_⟩ | ⟨q,_⟩
  ·exact absurd rfl q
  ·exact absurd q (by decide)
 ·rw [k] at im
  rcases im with ⟨_,q⟩ | ⟨q,_⟩
  ·rw [q];exact ⟨holds_on (pos gg.1) (pos gg.2) pd h1,holds_on (pos gh.1) (pos gh.2) pd h2⟩
  ·exact absurd q n12
 ·rw [k] at im
  rcases im with ⟨_,q⟩ | ⟨_,q⟩
  ·have pd:0<P.d:=by have:=ns.d;rw [q] at this;exact this
   rw [q];exact ⟨holds_on (pos gg.1) (pos gg.2) pd h1,holds_on (pos gh.1) (pos gh.2) pd h2⟩
  ·have pd:0<Q.d:=by have:=ns.d;rw [q] at this;exact this
   rw [q];exact ⟨holds_on (pos gg.1) (pos gg.2) pd h3,holds_on (pos gh.1) (pos gh.2) pd h4⟩
theorem spot_meet {E:List (Pt×Pt)}(hG:Good E){s:Pt}(hs:s∈spotsM E){e:Pt×Pt}(he:e∈E)(on:onB s e.1 e.2=true):∃ f∈E,inMt (meetM e.1 e.2 f.1 f.2) s:=by
 obtain ⟨sn,sm⟩:=spots_spec hG
 have ns:=sn.nc s hs
 obtain ⟨g,hg,h,hh,im⟩:=(sm s).1 hs
 have ge:=hG.gr e he
 have gg:=hG.gr g hg
 have gh:=hG.gr h hh
 have pos:∀ {p:Pt},Gr p->0<p.d:=fun k=>by have:=k.d;omega
 have both:=spot_both hG ns hg hh im
 by_cases c1:detM e.1 e.2 g.1=0/\detM e.1 e.2 g.2=0
 ·by_cases c2:detM e.1 e.2 h.1=0/\detM e.1 e.2 h.2=0
  · -- all on one line: s is an end of one of the two
   have ne:=bef_or ge.1.d ge.2.d (hG.ne e he)
   have lg:∀ x,detM e.1 e.2 x=0->detM g.1 g.2 x=0:=fun x hx=>by
    rcases bef_or gg.1.d gg.2.d (hG.ne g hg) with b | b
    ·exact (line_apart (pos ge.1) (pos ge.2) (pos gg.1) ne b c1.1 c1.2 x x).2.2 hx
    ·have:=(line_apart (pos ge.1) (pos ge.2) (pos gg.2) ne b c1.2 c1.1 x x).2.2 hx
     rw [det_back] at this;omega
   have m1:=lg _ c2.1
   have m2:=lg _ c2.2
   have em:meetM g.1 g.2 h.1 h.2=lineM g.1 g.2 h.1 h.2:=by rw [meet_eq gg.1.d gg.2.d gh.1.d gh.2.d,if_pos (by omega),if_neg (by simpa using m1)]
   rw [em] at im
   have fc:∀ p q:Pt,firstM p q=p\/firstM p q=q:=first_cases
   have lc:∀ p q:Pt,lastM p q=p\/lastM p q=q:=last_cases
   have F4:∀ x,x=lastM (firstM g.1 g.2) (firstM h.1 h.2)\/x=firstM (lastM g.1 g.2) (lastM h.1 h.2)->(x=g.1\/x=g.2)\/(x=h.1\/x=h.2):=fun x hx=>by
    rcases hx with k | k
    ·rcases lc (firstM g.1 g.2) (firstM h.1 h.2) with q | q
     ·rw [k,q];exact .inl (fc _ _)
     ·rw [k,q];exact .inr (fc _ _)
    ·rcases fc (lastM g.1 g.2) (lastM h.1 h.2) with q | q
     ·rw [k,q];exact .inl (lc _ _)
     ·rw [k,q];exact .inr (lc _ _)
   have ends:(s=g.1\/s=g.2)\/(s=h.1\/s=h.2):=by
    unfold lineM at im
    simp only at im
    by_cases q1:cmpM (lastM (firstM g.1 g.2) (firstM h.1 h.2)) (firstM (lastM g.1 g.2) (lastM h.1 h.2)) > 0
    ·rw [if_pos q1] at im
     rcases im with ⟨q,_⟩ | ⟨q,_⟩
     ·exact absurd rfl q
     ·exact absurd q (by decide)
    ·rw [if_neg q1] at im
     by_cases q2:cmpM (lastM (firstM g.1 g.2) (firstM h.1 h.2)) (firstM (lastM g.1 g.2) (lastM h.1 h.2))=0
     ·rw [if_pos q2] at im
      rcases im with ⟨_,q⟩ | ⟨q,_⟩
      ·exact F4 s (.inl q)
      ·exact absurd q n12
     ·rw [if_neg q2] at im
      rcases im with ⟨_,q⟩ | ⟨_,q⟩
      ·exact F4 s (.inl q)
      ·exact F4 s (.inr q)
   rcases ends with k | k
   ·exact ⟨g,hg,meet_ends ge.1 ge.2 gg.1 gg.2 (hG.ne e he) on c1.1 c1.2 k⟩
   ·exact ⟨h,hh,meet_ends ge.1 ge.2 gh.1 gh.2 (hG.ne e he) on c2.1 c2.2 k⟩
  ·exact ⟨h,hh,meet_across ge.1 ge.2 gh.1 gh.2 (hG.ne e he) (hG.ne h hh) ns on both.2 c2⟩
 ·exact ⟨g,hg,meet_across ge.1 ge.2 gg.1 gg.2 (hG.ne e he) (hG.ne g hg) ns on both.1 c1⟩
theorem nd_le {γ:Type}:∀ {l m:List γ},l.Nodup->(∀ x∈l,x∈m)->l.length<=m.length
 | [],m,_,_=>Nat.zero_le _
 | a::l,m,hn,h=>by
  haveI:DecidableEq γ:=fun a b=>Classical.propDecidable (a=b)
  obtain ⟨n1,n2⟩:=List.nodup_cons.1 hn
  have ha:=h a List.mem_cons_self
  have ih:=nd_le (m:=m.erase a) n2 (fun x hx=>(List.mem_erase_of_ne (fun (e:x=a)=>n1 (e ▸ hx))).2 (h x (List.mem_cons_of_mem _ hx)))
  rw [List.length_erase_of_mem ha] at ih
  have:=List.length_pos_of_mem ha
  rw [List.length_cons];omega
theorem AL_zip {f:Pt->Bool}:∀ {S:List Pt} {x:Pt×Pt},AL f S x->x∈(S.filter f).zip ((S.filter f).drop 1)
 | s::l,x,h=>by
  rcases h with ⟨fs,e,k⟩ | h
  ·rw [List.filter_cons,if_pos fs]
   have hh:(l.filter f).head?=some x.2:=by rw [List.head?_filter];exact k
   cases c:l.filter f with
   | nil=>rw [c] at hh;cases hh
   | cons y r=>
    rw [c] at hh
    have:y=x.2:=Option.some.inj hh
    have ex:x=(s,y):=Prod.ext e this.symm
    rw [ex]
    simp
  ·have ih:=AL_zip h
   rw [List.filter_cons]
   by_cases fs:f s=true
   ·rw [if_pos fs]
    cases c:l.filter f with
    | nil=>rw [c] at ih;cases ih
    | cons y r=>
     rw [c] at ih
     simp only [List.drop_succ_cons,List.drop_zero] at ih ⊢
     rw [List.zip_cons_cons]
     exact List.mem_cons_of_mem _ ih
   ·rw [if_neg fs];exact ih
theorem pairs_bound {E:List (Pt×Pt)}(hG:Good E):(pairsL E (spotsM E)).length<=E.length*(2*E.length):=by
 obtain ⟨sn,sm⟩:=spots_spec hG
 obtain ⟨pw,pm⟩:=pairs_spec E sn
 have nd:(pairsL E (spotsM E)).Nodup:=List.Pairwise.imp (fun {a b} (h:PR a b)=>(fun (e:a=b)=>PR_irr b (e ▸ h):a≠b)) pw
 have few:∀ e∈E,((spotsM E).filter (fun s=>hasM e.1 e.2 s)).length<=2*E.length:=fun e he=>by
  have ge:=hG.gr e he
  have d1:0<e.1.d:=by have:=ge.1.d;omega
  have d2:0<e.2.d:=by have:=ge.2.d;omega
  have nds:((spotsM E).filter (fun s=>hasM e.1 e.2 s)).Nodup:=List.Pairwise.imp (fun {a b} (h:befB a b=true)=>((fun (q:a=b)=>by rw [q,bef_irr] at h;cases h):a≠b)) (List.Pairwise.filter _ sn.srt)
  have:=nd_le (m:=E.flatMap (fun f=>[(meetM e.1 e.2 f.1 f.2).p,(meetM e.1 e.2 f.1 f.2).q])) nds (fun s hs=>by
   obtain ⟨h1,h2⟩:=List.mem_filter.1 hs
   obtain ⟨f,hf,im⟩:=spot_meet hG h1 he (by rw [<-has_on d1 d2 (sn.nc s h1).d];exact h2)
   refine List.mem_flatMap.2 ⟨f,hf,?_⟩
   rcases im with ⟨_,k⟩ | ⟨_,k⟩
   ·rw [k];simp
   ·rw [k];simp)
  have l2:∀ F:List (Pt×Pt),(F.flatMap (fun f=>[(meetM e.1 e.2 f.1 f.2).p,(meetM e.1 e.2 f.1 f.2).q])).length=2*F.length:=fun F=>by
   induction F with
   | nil=>rfl
   | cons f F ih=>rw [List.flatMap_cons,List.length_append,ih];simp;omega
  rw [l2] at this
  exact this
 have:=nd_le (m:=E.flatMap (fun e=>((spotsM E).filter (fun s=>hasM e.1 e.2 s)).zip (((spotsM E).filter (fun s=>hasM e.1 e.2 s)).drop 1))) nd (fun x hx=>by
  obtain ⟨e,he,a⟩:=(pm x).1 hx
  exact List.mem_flatMap.2 ⟨e,he,AL_zip a⟩)
 refine Nat.le_trans this ?_
 have gen:∀ F:List (Pt×Pt),(∀ e∈F,e∈E)->(F.flatMap (fun e=>((spotsM E).filter (fun s=>hasM e.1 e.2 s)).zip (((spotsM E).filter (fun s=>hasM e.1 e.2 s)).drop 1))).length<=F.length*(2*E.length):=fun F=>by
  induction F with
  | nil=>intro _;simp
  | cons e F ih=>
   intro h
   have i:=ih (fun x hx=>h x (List.mem_cons_of_mem _ hx))
   have k:=few e (h e List.mem_cons_self)
   rw [List.flatMap_cons,List.length_append,List.length_cons,Nat.succ_mul]
   have z:(((spotsM E).filter (fun s=>hasM e.1 e.2 s)).zip (((spotsM E).filter (fun s=>hasM e.1 e.2 s)).drop 1)).length<=((spotsM E).filter (fun s=>hasM e.1 e.2 s)).length:=by
    rw [List.length_zip];omega
   omega
 exact gen E (fun _ h=>h)
theorem rings_bound {A B:List (List Pt)}(c1:(checkM A).1=0)(c2:(checkM B).1=0)(op:Int):(edgesM (ringsM (bordM op (piecesM A B)))).length<=1152:=by
 have t:=rings_total (sound_of c1) (sound_of c2) op
 have b:=bord_len op (piecesM A B)
 have e:(piecesM A B).length=(pairsL (edgesM A ++ edgesM B) (spotsM (edgesM A ++ edgesM B))).length:=by unfold piecesM;rw [List.length_map]
 have p:=pairs_bound (good_both (sound_of c1) (sound_of c2))
 have hE:(edgesM A ++ edgesM B).length<=24:=by
  have:=check_few c1;have:=check_few c2
  rw [List.length_append];omega
 have:(edgesM A ++ edgesM B).length*(2*(edgesM A ++ edgesM B).length)<=24*(2*24):=Nat.mul_le_mul hE (by omega)
 omega
theorem moreM_ok:∀ (P:List (List Pt)) (room:Int),((edgesM P).length:Int)<=room->moreM room P=false
 | [],room,_=>rfl
 | r::P,room,h=>by
  have e:(edgesM (r::P)).length=r.length+(edgesM P).length:=by simp [edgesM,ringEdges_len]
  rw [e] at h
  show (if room<(r.length:Int) then true else moreM (room-r.length) P)=false
  rw [if_neg (by omega)]
  exact moreM_ok P _ (by omega)
theorem far_way {S:List Pt}(hS:∀ s∈S,goodB s=true){q:Pt}(hq:goodB q=true)(off:∀ s∈S,befB s q=true\/befB q s=true):∃ o:Pt,0<o.d/\(∀ s∈S,0<xv o s)/\∀ s∈S,detM o q s≠0:=by
 have qd:=(gd_of_good hq).2
 obtain ⟨k,_,_,h,_⟩:=far_free' (q:=q) (l:=S) (p:=q) (r:=rightP q) qd (out_x hq) (fun v hv ⟨h1,h2⟩=>by
  rcases off v hv with b | b
  ·rw [bef_key] at b
   have e1:xv v q = -xv q v:=by unfold xv;grind
   have e2:yv v q = -yv q v:=by unfold yv;grind
   omega
  ·rw [bef_key] at b;omega) qd (out_x hq) (fun ⟨h1,_⟩=>by
  have e:xv q (rightP q)=q.d*q.d:=by unfold xv rightP;grind
  have:=mul_pp qd qd
  omega)
 exact ⟨outP k,by simp [outP],fun s hs=>(out_xv k (hS s hs)).1,h⟩
section
variable {A B:List (List Pt)}(sA:Sound A)(sB:Sound B)(op:Int)
include sA sB
theorem bord_piece {e:Pt×Pt}(he:e∈bordM op (piecesM A B)):e∈prs A B\/(e.2,e.1)∈prs A B:=by
 obtain ⟨x,hx,k⟩:=bord_mem he
 unfold piecesM at hx
 obtain ⟨z,hz,rfl⟩:=List.mem_map.1 hx
 rcases k with k | k
 ·left;rw [k];exact hz
 ·right;rw [k];exact hz
theorem bord_ends {e:Pt×Pt}(he:e∈bordM op (piecesM A B)):e.1∈spotsM (edgesM A ++ edgesM B)/\e.2∈spotsM (edgesM A ++ edgesM B)/\(befB e.1 e.2=true\/befB e.2 e.1=true):=by
 rcases bord_piece sA sB op he with h | h
 ·exact ⟨(prs_spots sA sB h).1,(prs_spots sA sB h).2,.inl (prs_bef sA sB h).1⟩
 ·exact ⟨(prs_spots sA sB h).2,(prs_spots sA sB h).1,.inr (prs_bef sA sB h).1⟩
theorem way_mem {I:List (Nat×Nat)}(h3:∀ z∈I,Rd (bordM op (piecesM A B)) z){v:Pt}(hv:v∈(I.map (wayR (bordM op (piecesM A B)))).flatten):v∈spotsM (edgesM A ++ edgesM B):=by
 obtain ⟨r,hr,hv⟩:=List.mem_flatten.1 hv
 obtain ⟨z,hz,rfl⟩:=List.mem_map.1 hr
 unfold wayR at hv
 obtain ⟨a,_,rfl⟩:=List.mem_map.1 hv
 exact (bord_ends sA sB op (edg_mem (it_lt (nexts_pm sA sB op) (h3 z hz).lt a))).1
theorem way_sd {I:List (Nat×Nat)}(h3:∀ z∈I,Rd (bordM op (piecesM A B)) z):Sd (I.map (wayR (bordM op (piecesM A B)))):=by
 refine ⟨fun v hv=>(qs_of sA sB).sd v (way_mem sA sB op h3 hv),fun e he=>?_⟩
 unfold edgesM at he
 rw [List.flatMap_map] at he
 obtain ⟨z,hz,he⟩:=List.mem_flatMap.1 he
 rw [way_edges sA sB op (h3 z hz)] at he
 obtain ⟨i,hi,rfl⟩:=List.mem_map.1 he
 unfold idxR at hi
 obtain ⟨a,_,rfl⟩:=List.mem_map.1 hi
 exact (bord_ends sA sB op (edg_mem (it_lt (nexts_pm sA sB op) (h3 z hz).lt a))).2.2
theorem way_bord {I:List (Nat×Nat)}(h3:∀ z∈I,Rd (bordM op (piecesM A B)) z){e:Pt×Pt}(he:e∈edgesM (I.map (wayR (bordM op (piecesM A B))))):e∈bordM op (piecesM A B):=by
 unfold edgesM at he
 rw [List.flatMap_map] at he
 obtain ⟨z,hz,he⟩:=List.mem_flatMap.1 he
 rw [way_edges sA sB op (h3 z hz)] at he
 obtain ⟨i,hi,rfl⟩:=List.mem_map.1 he
 unfold idxR at hi
 obtain ⟨a,_,rfl⟩:=List.mem_map.1 hi
 exact edg_mem (it_lt (nexts_pm sA sB op) (h3 z hz).lt a)
theorem ring_way {z:Nat×Nat}(hz:Rd (bordM op (piecesM A B)) z){q:Pt}(hq:0<q.d)(offB:∀ e∈ringEdges (wayR (bordM op (piecesM A B)) z),onB q e.1 e.2=false) :
  (∀ e∈ringEdges (ringAtL (bordM op (piecesM A B)) z),onB q e.1 e.2=false)/\parB (overB q) (ringEdges (ringAtL (bordM op (piecesM A B)) z))=parB (overB q) (ringEdges (wayR (bordM op (piecesM A B)) z)):=by
 have w:=way_of sA sB op hz.lt
 have per:=way_per hz.per
 have en:=way_end sA sB op hz.lt
 have ne:turnP (wayS (bordM op (piecesM A B)) z.1) z.2≠[]:=by
  rw [<-pts_turnP sA sB op hz.lt];exact ring_turns sA sB op hz.lt hz.one hz.per
 have ned:posN (wayS (bordM op (piecesM A B)) z.1) z.2≠[]:=fun k=>ne (by unfold turnP;rw [k];rfl)
 have eW:ringEdges (wayR (bordM op (piecesM A B)) z)=(List.range' 0 z.2).map (fun c=>(wayS (bordM op (piecesM A B)) z.1 c,wayS (bordM op (piecesM A B)) z.1 (c+1))):=by
  rw [way_edges sA sB op hz]
  unfold idxR
  rw [List.map_map,List.range_eq_range']
  exact List.map_congr_left fun c _=>Prod.ext rfl (en c)
 have offc:∀ c,onB q (wayS (bordM op (piecesM A B)) z.1 c) (wayS (bordM op (piecesM A B)) z.1 (c+1))=false:=fun c=>by
  have m1:=it_mod sA sB op hz c
  have e1:wayS (bordM op (piecesM A B)) z.1 c=wayS (bordM op (piecesM A B)) z.1 (c % z.2):=by unfold wayS;rw [m1]
  have e2:wayS (bordM op (piecesM A B)) z.1 (c+1)=wayS (bordM op (piecesM A B)) z.1 (c % z.2+1):=by rw [<-en c,<-en (c % z.2),m1]
  rw [e1,e2]
  refine offB (wayS (bordM op (piecesM A B)) z.1 (c % z.2),wayS (bordM op (piecesM A B)) z.1 (c % z.2+1)) ?_
  rw [eW]
  exact List.mem_map.2 ⟨c % z.2,by rw [<-List.range_eq_range'];exact List.mem_range.2 (Nat.mod_lt _ (by have:=hz.one;omega)),rfl⟩
 have run:∀ a b,a<=b->Run (wayS (bordM op (piecesM A B)) z.1) a b->onB q (wayS (bordM op (piecesM A B)) z.1 a) (wayS (bordM op (piecesM A B)) z.1 (b+1))=false/\overB q (wayS (bordM op (piecesM A B)) z.1 a) (wayS (bordM op (piecesM A B)) z.1 (b+1))=sumX (fun c=>overB q (wayS (bordM op (piecesM A B)) z.1 c) (wayS (bordM op (piecesM A B)) z.1 (c+1))) a (b+1-a):=fun a b ab r=>by
  obtain ⟨k,rfl⟩:∃ k,b=a+k:=⟨b-a,by omega⟩
  have:=over_run w hq k r (fun c _ _=>offc c)
  rw [show a+k+1-a=k+1 by omega]
  exact this
 have rp:=ring_edges sA sB op hz
 constructor
 ·intro e he
  have he:=rp.mem_iff.1 he
  obtain ⟨j,hj,ej⟩:=List.getElem_of_mem he
  have hj':j<(posN (wayS (bordM op (piecesM A B)) z.1) z.2).length:=by rw [re_len,turn_len] at hj;exact hj
  obtain ⟨b,h1,h2,h3,_,_⟩:=edge_run2 per hj'
  have er:=ringEdges_at (r:=turnP (wayS (bordM op (piecesM A B)) z.1) z.2) (j:=j) (by rw [turn_len];exact hj')
  rw [at_getD hj,ej,turn_len,turn_at hj',<-h3] at er
  rw [er]
  exact (run _ _ h1 h2).1
 ·rw [parB_perm rp,turn_sum per (h:=fun c=>overB q (wayS (bordM op (piecesM A B)) z.1 c) (wayS (bordM op (piecesM A B)) z.1 (c+1))) (fun c=>by
   show overB q (wayS _ z.1 (c+z.2)) (wayS _ z.1 (c+z.2+1))=_
   rw [per,show c+z.2+1=(c+1)+z.2 by omega,per]) (fun a b ab r=>(run a b ab r).2) ned,eW]
  exact (sumX_par (overB q) (fun c=>(wayS (bordM op (piecesM A B)) z.1 c,wayS (bordM op (piecesM A B)) z.1 (c+1))) 0 z.2).symm
end
theorem where_two {P:List (List Pt)}{q:Pt}(pd:∀ v∈P.flatten,0<v.d)(hq:0<q.d)(h:whereM q 0 (edgesM P)≠2):∀ e∈edgesM P,onB q e.1 e.2=false:=fun e he=>by
 cases k:onB q e.1 e.2
 ·rfl
 ·obtain ⟨m1,m2⟩:=edge_ends he
  exact absurd (whereM_two q _ 0 (List.any_eq_true.2 ⟨e,he,by rw [has_on (pd _ m1) (pd _ m2) hq];exact k⟩)) h
theorem where_of {P:List (List Pt)}{q:Pt}(pd:∀ v∈P.flatten,0<v.d)(hq:0<q.d)(off:∀ e∈edgesM P,onB q e.1 e.2=false):whereM q 0 (edgesM P)=if parB (overB q) (edgesM P)=true then 1 else 0:=by
 rw [whereM_eq q _ 0 (.inl rfl)]
 ·have:parB (fun a b=>overM a b q) (edgesM P)=parB (overB q) (edgesM P):=parB_congr fun e he=>by
   obtain ⟨m1,m2⟩:=edge_ends he
   exact over_eq (pd _ m1) (pd _ m2) hq
  rw [this];simp
 ·rw [Bool.eq_false_iff]
  intro k
  obtain ⟨e,he,h⟩:=List.any_eq_true.1 k
  obtain ⟨m1,m2⟩:=edge_ends he
  rw [has_on (pd _ m1) (pd _ m2) hq,off e he] at h
  cases h
theorem loc_few {P:List (List Pt)}(few:(edgesM P).length<=2000)(gd:∀ v∈P.flatten,goodB v=true)(q:Pt):locM P q=if goodB q=false then (0,3) else (whereM q 0 (edgesM P),0):=by
 unfold locM
 rw [moreM_ok P 2000 (by omega),if_neg (by decide)]
 by_cases g:goodB q=false
 ·rw [if_pos g,if_pos g]
 ·rw [if_neg g,if_neg g]
  have:(edgesM P).all (fun e=>goodB e.1)=true:=List.all_eq_true.2 fun e he=>gd _ (edge_ends he).1
  rw [this,if_neg (by decide)]
end Go.Proofs.YtnkcbephceollabGreat
