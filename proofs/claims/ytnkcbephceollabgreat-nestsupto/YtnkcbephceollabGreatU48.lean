import Derived.Test.YtnkcbephceollabGreatU47
namespace Go.Proofs.YtnkcbephceollabGreat
set_option linter.unusedSimpArgs false
set_option linter.unusedVariables false
set_option linter.unusedSectionVars false
theorem on_two {q x y w:Pt}(hq:0<q.d)(hx:0<x.d)(hy:0<y.d)(hw:0<w.d)(b1:befB x y=true)(b2:befB y w=true)(l:detM x y w=0)(o:onB q x y=true\/onB q y w=true):onB q x w=true:=by
 have b3:befB x w=true:=bef_lt hy hw hx b2 b1
 have ox:onB x x w=true:=on_first hx hw hx (by unfold xv;omega) (by unfold yv;omega)
 have ow:onB w x w=true:=by
  rw [<-on_sw' hw hx hw]
  exact on_first hw hx hw (by unfold xv;omega) (by unfold yv;omega)
 have oy:onB y x w=true:=by
  unfold onB
  have l':detM x w y=0:=by
   have:detM x w y = -detM x y w:=by unfold detM;grind
   omega
  rw [l',with_ab hy hx hw (bef_asym b1) (bef_asym b2)];rfl
 rcases o with o | o
 ·exact on_sub hx hy hq hx hw (.inl b3) ox oy b1 o
 ·exact on_sub hy hw hq hx hw (.inl b3) oy ow b2 o
section
variable {s:Nat->Pt}(w:Way s)
include w
theorem run_zero {a k:Nat}(r:Run s a (a+k+1)):detM (s a) (s (a+k+1)) (s (a+k+2))=0:=by
 have rl:=run_line w (show a<=a+k+1 by omega) r
 have e1:detM (s a) (s (a+k+2)) (s (a+k+1))=0:=by
  rw [rl.1]
  rcases w.two a with f | f
  ·exact (run_fwd w f k r.tl).2.2.2
  ·have:=(run_bwd w f k r.tl).2.2.2
   rw [det_back] at this
   omega
 have e2:detM (s a) (s (a+k+1)) (s (a+k+2)) = -detM (s a) (s (a+k+2)) (s (a+k+1)):=by unfold detM;grind
 omega
theorem run_on {a:Nat}{q:Pt}(hq:0<q.d):∀ k c,Run s a (a+k)->a<=c->c<=a+k->onB q (s c) (s (c+1))=true->onB q (s a) (s (a+k+1))=true
 | 0,c,_,h1,h2,o=>by
  have:c=a:=by omega
  rw [this] at o;exact o
 | k+1,c,r,h1,h2,o=>by
  have l0:=run_zero w r
  have oo:onB q (s a) (s (a+k+1))=true\/onB q (s (a+k+1)) (s (a+k+2))=true:=by
   by_cases e:c=a+k+1
   ·right;rw [e] at o;exact o
   ·left;exact run_on hq k c r.tl h1 (by omega) o
  rcases w.two a with f | f
  ·exact on_two hq (w.d a) (w.d (a+k+1)) (w.d (a+k+2)) (run_fwd w f k r.tl).2.1 (run_fwd w f (k+1) r).1 l0 oo
  ·have l1:detM (s (a+k+2)) (s (a+k+1)) (s a)=0:=by
    have:detM (s (a+k+2)) (s (a+k+1)) (s a) = -detM (s a) (s (a+k+1)) (s (a+k+2)):=by unfold detM;grind
    omega
   have:=on_two hq (w.d (a+k+2)) (w.d (a+k+1)) (w.d a) (run_bwd w f (k+1) r).1 (run_bwd w f k r.tl).2.1 l1 (oo.symm.imp (fun h=>by rw [on_sw' hq (w.d _) (w.d _)];exact h) (fun h=>by rw [on_sw' hq (w.d _) (w.d _)];exact h))
   rw [<-on_sw' hq (w.d _) (w.d _)]
   exact this
theorem in_run {m:Nat}(per:∀ b,s (b+m)=s b)(ne:posN s m≠[])(hm:1<=m){c:Nat}(hc:c<m):∃ j,j<(posN s m).length/\∃ b c',(posN s m).getD j 0+1<=c'/\c'<=b/\Run s ((posN s m).getD j 0+1) b/\s (b+1)=(turnP s m).getD ((j+1) % (posN s m).length) zP/\(c'=c\/c'=c+m):=by
 have so:=pos_sorted s m
 have kp:0<(posN s m).length:=List.length_pos_iff.2 ne
 obtain ⟨k,hk,p1,p2⟩:=least_one (P:=fun k=>¬ (k<(posN s m).length/\(posN s m).getD k 0<c)) (posN s m).length (by omega)
 have before:∀ i,i<k->i<(posN s m).length/\(posN s m).getD i 0<c:=fun i hi=>Decidable.byContradiction (p2 i hi)
 rcases Nat.eq_zero_or_pos k with z | z
 ·subst z
  have q0:c<=(posN s m).getD 0 0:=by
   rcases Nat.lt_or_ge ((posN s m).getD 0 0) c with x | x
   ·exact absurd ⟨kp,x⟩ p1
   ·exact x
  obtain ⟨b,h1,h2,h3,_,h5⟩:=edge_run2 per (j:=(posN s m).length-1) (by omega)
  have l:=(pos_mem.1 (at_mem (show (posN s m).length-1<(posN s m).length by omega))).1
  have eb:=h5 (by omega)
  exact ⟨(posN s m).length-1,by omega,b,c+m,by omega,by omega,h2,h3,.inr rfl⟩
 ·obtain ⟨b1,b2⟩:=before (k-1) (by omega)
  obtain ⟨b,h1,h2,h3,h4,h5⟩:=edge_run2 per b1
  by_cases e:k-1+1<(posN s m).length
  ·have eb:=h4 e
   rw [show k-1+1=k by omega] at eb e
   have : ¬ (posN s m).getD k 0<c:=fun x=>p1 ⟨e,x⟩
   exact ⟨k-1,b1,b,c,by omega,by omega,h2,h3,.inl rfl⟩
  ·have eb:=h5 (by omega)
   exact ⟨k-1,b1,b,c,by omega,by omega,h2,h3,.inl rfl⟩
end
section
variable {A B:List (List Pt)}(sA:Sound A)(sB:Sound B)(op:Int)
include sA sB
theorem pos_some {z:Nat×Nat}(hz:Rd (bordM op (piecesM A B)) z):posN (wayS (bordM op (piecesM A B)) z.1) z.2≠[]:=fun k=>by
 refine ring_turns sA sB op hz.lt hz.one hz.per ?_
 rw [pts_turnP sA sB op hz.lt]
 unfold turnP;rw [k];rfl
theorem way_list {z:Nat×Nat}(hz:Rd (bordM op (piecesM A B)) z):ringEdges (wayR (bordM op (piecesM A B)) z)=(List.range' 0 z.2).map (fun c=>(wayS (bordM op (piecesM A B)) z.1 c,wayS (bordM op (piecesM A B)) z.1 (c+1))):=by
 rw [way_edges sA sB op hz]
 unfold idxR
 rw [List.map_map,List.range_eq_range']
 exact List.map_congr_left fun c _=>Prod.ext rfl (way_end sA sB op hz.lt c)
theorem ring_off {z:Nat×Nat}(hz:Rd (bordM op (piecesM A B)) z){q:Pt}(hq:0<q.d)(off:∀ e∈ringEdges (ringAtL (bordM op (piecesM A B)) z),onB q e.1 e.2=false):∀ e∈ringEdges (wayR (bordM op (piecesM A B)) z),onB q e.1 e.2=false:=fun e he=>by
 have w:=way_of sA sB op hz.lt
 have per:=way_per hz.per
 rw [way_list sA sB op hz] at he
 obtain ⟨c,hc,rfl⟩:=List.mem_map.1 he
 rw [<-List.range_eq_range'] at hc
 have hc:=List.mem_range.1 hc
 obtain ⟨j,hj,b,c',h1,h2,h3,h4,h5⟩:=in_run w per (pos_some sA sB op hz) hz.one hc
 cases o:onB q (wayS (bordM op (piecesM A B)) z.1 c) (wayS (bordM op (piecesM A B)) z.1 (c+1))
 ·rfl
 ·exfalso
  have o':onB q (wayS (bordM op (piecesM A B)) z.1 c') (wayS (bordM op (piecesM A B)) z.1 (c'+1))=true:=by
   rcases h5 with k | k
   ·rw [k];exact o
   ·rw [k,show c+z.2+1=(c+1)+z.2 by omega,per,per];exact o
  obtain ⟨k,rfl⟩:∃ k,b=(posN (wayS (bordM op (piecesM A B)) z.1) z.2).getD j 0+1+k:=⟨b-((posN (wayS (bordM op (piecesM A B)) z.1) z.2).getD j 0+1),by omega⟩
  have on:=run_on w hq k c' h3 h1 h2 o'
  have er:=ringEdges_at (r:=turnP (wayS (bordM op (piecesM A B)) z.1) z.2) (j:=j) (by rw [turn_len];exact hj)
  rw [turn_len,turn_at hj,<-h4] at er
  have hj':j<(ringEdges (turnP (wayS (bordM op (piecesM A B)) z.1) z.2)).length:=by rw [re_len,turn_len];exact hj
  have me:(ringEdges (turnP (wayS (bordM op (piecesM A B)) z.1) z.2)).getD j (zP,zP)∈ringEdges (ringAtL (bordM op (piecesM A B)) z):=(ring_edges sA sB op hz).mem_iff.2 (by rw [at_getD hj'];exact List.getElem_mem hj')
  have:=off _ me
  rw [er,on] at this
  cases this
theorem way_least {z:Nat×Nat}(hz:Rd (bordM op (piecesM A B)) z)(c:Nat):befB (wayS (bordM op (piecesM A B)) z.1 c) ((ringAtL (bordM op (piecesM A B)) z).getD 0 zP)=false:=by
 have w:=way_of sA sB op hz.lt
 have per:=way_per hz.per
 have fm:=ring_fm sA sB op hz
 have low:∀ p∈ringAtL (bordM op (piecesM A B)) z,befB p ((ringAtL (bordM op (piecesM A B)) z).getD 0 zP)=false:=fun p hp=>by
  obtain ⟨i,hi,e⟩:=List.getElem_of_mem hp
  have:=fm.low i hi
  rw [List.getD_eq_getElem?_getD,List.getElem?_eq_getElem hi] at this
  rw [<-e];exact this
 have fd:0<((ringAtL (bordM op (piecesM A B)) z).getD 0 zP).d:=(fm.nice _ (getD_mem (by have:=fm.three;omega) zP)).d
 have perm:∀ p,p∈turnP (wayS (bordM op (piecesM A B)) z.1) z.2->p∈ringAtL (bordM op (piecesM A B)) z:=fun p hp=>by
  unfold ringAtL
  rw [pts_turnP sA sB op hz.lt]
  have ne:turnP (wayS (bordM op (piecesM A B)) z.1) z.2≠[]:=fun k=>by rw [k] at hp;cases hp
  obtain ⟨i,hi,e⟩:=least_is (P:=turnP (wayS (bordM op (piecesM A B)) z.1) z.2) _ (List.length_pos_iff.2 ne)
  rw [e]
  unfold rotL
  have:=List.take_append_drop i (turnP (wayS (bordM op (piecesM A B)) z.1) z.2)
  rw [<-this] at hp
  rcases List.mem_append.1 hp with k | k
  ·exact List.mem_append.2 (.inr k)
  ·exact List.mem_append.2 (.inl k)
 have hm:c % z.2<z.2:=Nat.mod_lt _ (by have:=hz.one;omega)
 have ec:wayS (bordM op (piecesM A B)) z.1 c=wayS (bordM op (piecesM A B)) z.1 (c % z.2):=by unfold wayS;rw [it_mod sA sB op hz c]
 rw [ec]
 obtain ⟨j,hj,b,c',h1,h2,h3,h4,h5⟩:=in_run w per (pos_some sA sB op hz) hz.one hm
 have e':wayS (bordM op (piecesM A B)) z.1 (c % z.2)=wayS (bordM op (piecesM A B)) z.1 c':=by
  rcases h5 with k | k
  ·rw [k]
  ·rw [k,per]
 rw [e']
 obtain ⟨k,rfl⟩:∃ k,c'=(posN (wayS (bordM op (piecesM A B)) z.1) z.2).getD j 0+1+k:=⟨c'-((posN (wayS (bordM op (piecesM A B)) z.1) z.2).getD j 0+1),by omega⟩
 have pj:wayS (bordM op (piecesM A B)) z.1 ((posN (wayS (bordM op (piecesM A B)) z.1) z.2).getD j 0+1)∈ringAtL (bordM op (piecesM A B)) z:=perm _ (by
  rw [<-turn_at hj]
  exact getD_mem (by rw [turn_len];exact hj) zP)
 have pe:wayS (bordM op (piecesM A B)) z.1 (b+1)∈ringAtL (bordM op (piecesM A B)) z:=perm _ (by
  rw [h4]
  exact getD_mem (by rw [turn_len];exact Nat.mod_lt _ (by omega)) zP)
 have sub:Run (wayS (bordM op (piecesM A B)) z.1) ((posN (wayS (bordM op (piecesM A B)) z.1) z.2).getD j 0+1) ((posN (wayS (bordM op (piecesM A B)) z.1) z.2).getD j 0+1+k):=fun i i1 i2=>h3 i i1 (by omega)
 generalize (posN (wayS (bordM op (piecesM A B)) z.1) z.2).getD j 0+1=a at *
 generalize (ringAtL (bordM op (piecesM A B)) z).getD 0 zP=f at *
 cases o:befB (wayS (bordM op (piecesM A B)) z.1 (a+k)) f
 ·rfl
 ·exfalso
  rcases w.two a with g | g
  · -- going up: the run's beginning is ahead
   rcases Nat.eq_zero_or_pos k with q | q
   ·subst q
    rw [Nat.add_zero] at o
    rw [low _ pj] at o;cases o
   ·obtain ⟨k',rfl⟩:∃ k',k=k'+1:=⟨k-1,by omega⟩
    have u:=(run_fwd w g k' (fun i i1 i2=>sub i i1 (by omega))).2.1
    have:=bef_lt (w.d (a+k'+1)) fd (w.d a) o u
    rw [low _ pj] at this;cases this
  · -- going down: its end is
   have tail:∀ n,a+k+n<=b->befB (wayS (bordM op (piecesM A B)) z.1 (a+k+n+1)) (wayS (bordM op (piecesM A B)) z.1 (a+k))=true:=by
    intro n
    induction n with
    | zero=>
     intro hn
     exact (run_bwd w g k (fun i i1 i2=>h3 i i1 (by omega))).1
    | succ n ih=>
     intro hn
     have i1:=ih (by omega)
     have i2:=(run_bwd w g (k+n+1) (fun i i1 i2=>h3 i i1 (by omega))).1
     rw [show a+(k+n+1)=a+k+n+1 by omega] at i2
     exact bef_lt (w.d (a+k+n+1)) (w.d (a+k)) (w.d (a+k+n+1+1)) i1 i2
   have u:=tail (b-(a+k)) (by omega)
   rw [show a+k+(b-(a+k))+1=b+1 by omega] at u
   have:=bef_lt (w.d (a+k)) fd (w.d (b+1)) o u
   rw [low _ pe] at this;cases this
end
theorem thru_none {P:List (List Pt)}(hS:Sd P){v:Pt}(hv:0<v.d)(off:∀ e∈edgesM P,onB v e.1 e.2=false){e:Pt×Pt}(he:e∈edgesM P):thruE v e.1 e.2=false/\thruE (ro v) (ro e.1) (ro e.2)=false:=by
 obtain ⟨m1,m2⟩:=edge_ends he
 constructor
 ·cases k:thruE v e.1 e.2
  ·rfl
  ·unfold thruE spanM at k
   simp only [Bool.and_eq_true,Bool.not_eq_true',decide_eq_true_eq,decide_eq_false_iff_not] at k
   obtain ⟨⟨k1,k2⟩,k3⟩:=k
   have:hasM e.1 e.2 v=true:=by
    unfold hasM
    simp only [Bool.and_eq_true,Bool.not_eq_true',decide_eq_true_eq,decide_eq_false_iff_not]
    exact ⟨k1,by omega,k3⟩
   rw [has_on (hS.pd _ m1) (hS.pd _ m2) hv,off e he] at this
   cases this
 ·cases k:thruE (ro v) (ro e.1) (ro e.2)
  ·rfl
  ·have:=(thru_ro hS hv he k).1
   rw [has_on (hS.pd _ m1) (hS.pd _ m2) hv,off e he] at this
   cases this
theorem left_off {v p a b:Pt}(h:thruE v a b=false):leftE v p a b=aboveE v a b/\rightE v p a b=aboveE v a b:=by
 unfold thruE at h
 unfold leftE rightE aboveE sideOfM
 cases s:spanM a b v
 ·exact ⟨rfl,rfl⟩
 ·rw [s,Bool.true_and] at h
  have nz:=of_decide_eq_false h
  rw [if_pos nz]
  refine ⟨rfl,?_⟩
  rw [Bool.true_and,Bool.true_and,decide_eq_decide];omega
section
variable {A B:List (List Pt)}(sA:Sound A)(sB:Sound B)(op:Int)
include sA sB
theorem off_side {y:Nat×Nat}(hy:Rd (bordM op (piecesM A B)) y){v:Pt}(hv:0<v.d)(off:∀ e∈edgesM [wayR (bordM op (piecesM A B)) y],onB v e.1 e.2=false){p:Pt}(hp:(p,v)∈prs A B\/(v,p)∈prs A B):lsd (edgesM [wayR (bordM op (piecesM A B)) y]) (p,v)=parB (overB v) (edgesM [wayR (bordM op (piecesM A B)) y]):=by
 obtain ⟨w1,w2,w3⟩:=way_one sA sB op hy
 have ov:parB (aboveE v) (edgesM [wayR (bordM op (piecesM A B)) y])=parB (overB v) (edgesM [wayR (bordM op (piecesM A B)) y]):=parB_congr fun e he=>by
  obtain ⟨m1,m2⟩:=edge_ends he
  exact over_eq (w1.pd _ m1) (w1.pd _ m2) hv
 rcases hp with hp | hp
 ·obtain ⟨bb,d1,d2⟩:=prs_bef sA sB hp
  simp only at bb d1 d2
  have fl:=far_left w1 d1 d2 bb (clear_way sA sB op hy hp)
  unfold lsd
  rw [if_pos bb,fl,<-ov]
  have j:=join w1 hv
  have t0:parB (thruE v) (edgesM [wayR (bordM op (piecesM A B)) y])=false:=par_none fun e he=>(thru_none w1 hv off he).1
  rw [t0,Bool.xor_false] at j
  rw [j]
  rw [ro_edges,parB_map,parB_map]
  exact parB_congr fun e he=>(left_off (thru_none w1 hv off he).2).2
 ·have bb:=(prs_bef sA sB hp).1
  simp only at bb
  unfold lsd
  rw [if_neg (by rw [bef_asym bb];decide),<-ov]
  exact parB_congr fun e he=>(left_off (thru_none w1 hv off he).1).1
theorem ring_turn_mem {z:Nat×Nat}(hz:Rd (bordM op (piecesM A B)) z){p:Pt}(hp:p∈ringAtL (bordM op (piecesM A B)) z):∃ b,p=wayS (bordM op (piecesM A B)) z.1 (b+1):=by
 unfold ringAtL at hp
 have:=leastL_from _ hp
 rw [pts_turnP sA sB op hz.lt] at this
 unfold turnP at this
 obtain ⟨b,_,rfl⟩:=List.mem_map.1 this
 exact ⟨b,rfl⟩
theorem way_piece {z:Nat×Nat}(hz:Rd (bordM op (piecesM A B)) z)(b:Nat):(wayS (bordM op (piecesM A B)) z.1 b,wayS (bordM op (piecesM A B)) z.1 (b+1))∈bordM op (piecesM A B)/\edg (bordM op (piecesM A B)) (itN (nextsM (bordM op (piecesM A B))) z.1 b)=(wayS (bordM op (piecesM A B)) z.1 b,wayS (bordM op (piecesM A B)) z.1 (b+1)):=by
 have e:edg (bordM op (piecesM A B)) (itN (nextsM (bordM op (piecesM A B))) z.1 b)=(wayS (bordM op (piecesM A B)) z.1 b,wayS (bordM op (piecesM A B)) z.1 (b+1)):=Prod.ext rfl (way_end sA sB op hz.lt b)
 exact ⟨by rw [<-e];exact edg_mem (it_lt (nexts_pm sA sB op) hz.lt b),e⟩
theorem within_pts {z y:Nat×Nat}(hz:Rd (bordM op (piecesM A B)) z)(hy:Rd (bordM op (piecesM A B)) y)(se:Sep (bordM op (piecesM A B)) z y)(ins:lsd (edgesM [wayR (bordM op (piecesM A B)) y]) (edg (bordM op (piecesM A B)) z.1)=true):∀ p∈ringAtL (bordM op (piecesM A B)) z,whereM p 0 (edgesM [ringAtL (bordM op (piecesM A B)) y])≠0:=fun p hp h0=>by
 have fy:=ring_fm sA sB op hy
 have pdy:∀ v∈[ringAtL (bordM op (piecesM A B)) y].flatten,0<v.d:=fun v hv=>by
  rw [List.flatten_singleton] at hv
  exact (fy.nice v hv).d
 have np:=(ring_fm sA sB op hz).nice p hp
 have offR:=where_two pdy np.d (by rw [h0];decide)
 have wo:=where_of pdy np.d offR
 rw [h0] at wo
 rw [edges_one'] at offR wo
 have offW:=ring_off sA sB op hy np.d offR
 have rw_:=(ring_way sA sB op hy np.d offW).2
 obtain ⟨b,rfl⟩:=ring_turn_mem sA sB op hz hp
 obtain ⟨m1,e1⟩:=way_piece sA sB op hz b
 have sm:=same_all sA sB op hz hy se b
 rw [e1,ins] at sm
 have os:=off_side sA sB op hy np.d (by rw [edges_one'];exact offW) (bord_piece sA sB op m1)
 rw [sm,edges_one',<-rw_] at os
 rw [<-os] at wo
 simp at wo
end
theorem sumX_xor (f g:Nat->Bool)(a:Nat):∀ n,sumX (fun c=>f c ^^ g c) a n=(sumX f a n ^^ sumX g a n)
 | 0=>rfl
 | n+1=>by
  simp only [sumX]
  rw [sumX_xor f g a n]
  cases sumX f a n <;> cases sumX g a n <;> cases f (a+n) <;> cases g (a+n) <;> rfl
theorem sumX_zero {f:Nat->Bool}(h:∀ c,f c=false)(a:Nat):∀ n,sumX f a n=false
 | 0=>rfl
 | n+1=>by simp only [sumX];rw [sumX_zero h a n,h];rfl
theorem sumX_succ (f:Nat->Bool)(a:Nat):∀ n,sumX f (a+1) n=sumX (fun c=>f (c+1)) a n
 | 0=>rfl
 | n+1=>by
  simp only [sumX]
  rw [sumX_succ f a n,show a+1+n=a+n+1 by omega]
theorem sumX_congr {f g:Nat->Bool}(h:∀ c,f c=g c)(a n:Nat):sumX f a n=sumX g a n:=by
 have:f=g:=funext h
 rw [this]
theorem left_least {v d a b:Pt}(nv:Nice v)(na:Nice a)(nb:Nice b)(hd:befB v d=true)(ga:befB a v=false)(gb:befB b v=false)(ne:befB a b=true\/befB b a=true) :
  leftE v d a b=((eqP a v && decide (detM v b d<0)) ^^ (eqP b v && decide (detM v a d<0))):=by
 have ea:a≠v->eqP a v=false:=fun h=>by
  cases k:eqP a v
  ·rfl
  ·exact absurd (eqP_iff.1 k) h
 have eb:b≠v->eqP b v=false:=fun h=>by
  cases k:eqP b v
  ·rfl
  ·exact absurd (eqP_iff.1 k) h
 have fa:a≠v->befB v a=true:=fun h=>by
  cases k:befB v a
  ·exact absurd (canon_eq na.2 nv.2 ga k) h
  ·rfl
 have fb:b≠v->befB v b=true:=fun h=>by
  cases k:befB v b
  ·exact absurd (canon_eq nb.2 nv.2 gb k) h
  ·rfl
 unfold leftE spanM sideOfM sideM
 rcases ne with h | h
 ·have f1:firstM a b=a:=by rw [first_eq,bef_asym h];simp
  have f2:lastM a b=b:=by rw [last_eq,h];simp
  rw [f1,f2,cmpB,cmpB]
  by_cases c:a=v
  ·subst c
   have hb:b≠a:=fun e=>by rw [e,bef_irr] at h;cases h
   have t:eqP a a=true:=eqP_iff.2 rfl
   rw [bef_irr,fb hb,t,eb hb,det_first]
   simp
  ·rw [fa c,ea c]
   have hb:b≠v:=fun e=>by rw [e,ga] at h;cases h
   rw [eb hb];simp
 ·have f1:firstM a b=b:=by rw [first_eq,h];simp
  have f2:lastM a b=a:=by rw [last_eq,bef_asym h];simp
  rw [f1,f2,cmpB,cmpB]
  by_cases c:b=v
  ·subst c
   have hb:a≠b:=fun e=>by rw [e,bef_irr] at h;cases h
   have t:eqP b b=true:=eqP_iff.2 rfl
   rw [bef_irr,fa hb,t,ea hb,det_first]
   simp
  ·rw [fb c,eb c]
   have hb:a≠v:=fun e=>by rw [e,gb] at h;cases h
   rw [ea hb];simp
def ShL (r:List Pt):Prop:=∀ i,i<r.length->r.getD i zP=r.getD 0 zP->¬ detM (r.getD ((i+r.length-1) % r.length) zP) (r.getD i zP) (r.getD ((i+1) % r.length) zP)<0
theorem sh_least {P:List Pt}(np:0<P.length)(h:ShL (leastL P P.length)){j:Nat}(hj:j<P.length)(e:P.getD j zP=(leastL P P.length).getD 0 zP) : ¬ detM (P.getD ((j+P.length-1) % P.length) zP) (P.getD j zP) (P.getD ((j+1) % P.length) zP)<0:=by
 obtain ⟨i,hi,el⟩:=least_is (P:=P) P.length (by omega)
 have hl:(leastL P P.length).length=P.length:=by rw [el];exact rot_full (by omega)
 have hk:(j+P.length-i) % P.length<P.length:=Nat.mod_lt _ np
 have ek:(i+(j+P.length-i) % P.length) % P.length=j:=by
  rw [mod_shift np,show i+(j+P.length-i)=j+P.length by omega,Nat.add_mod_right,Nat.mod_eq_of_lt hj]
 have g:∀ t,(i+t) % P.length=(i+t) % P.length:=fun _=>rfl
 have q:=h ((j+P.length-i) % P.length) (by rw [hl];exact hk)
 rw [hl,el,rot_at hi hk,ek,rot_at hi (Nat.mod_lt _ np),rot_at hi (Nat.mod_lt _ np),mod_shift np,mod_shift np] at q
 have e1:(i+((j+P.length-i) % P.length+P.length-1)) % P.length=(j+P.length-1) % P.length:=by
  have a1:i+((j+P.length-i) % P.length+P.length-1)=(i+(j+P.length-i) % P.length)+(P.length-1):=by omega
  have a2:j+P.length-1=j+(P.length-1):=by omega
  rw [a1,<-Nat.mod_add_mod,ek,a2]
 have e2:(i+((j+P.length-i) % P.length+1)) % P.length=(j+1) % P.length:=by
  rw [<-Nat.add_assoc,<-Nat.mod_add_mod,ek]
 rw [e1,e2] at q
 refine q ?_
 rw [e,el]
section
variable {A B:List (List Pt)}(sA:Sound A)(sB:Sound B)(op:Int)
include sA sB
theorem shell_pass {y:Nat×Nat}(hy:Rd (bordM op (piecesM A B)) y)(sh:ShL (ringAtL (bordM op (piecesM A B)) y)){c:Nat}(ev:wayS (bordM op (piecesM A B)) y.1 (c+1)=(ringAtL (bordM op (piecesM A B)) y).getD 0 zP) :
  befB (wayS (bordM op (piecesM A B)) y.1 (c+1)) (wayS (bordM op (piecesM A B)) y.1 c)=true/\befB (wayS (bordM op (piecesM A B)) y.1 (c+1)) (wayS (bordM op (piecesM A B)) y.1 (c+2))=true/\detM (wayS (bordM op (piecesM A B)) y.1 (c+1)) (wayS (bordM op (piecesM A B)) y.1 c) (wayS (bordM op (piecesM A B)) y.1 (c+2))<0:=by
 have w:=way_of sA sB op hy.lt
 have per:=way_per hy.per
 have least:=fun i=>way_least sA sB op hy i
 rw [<-ev] at least
 have b1:befB (wayS (bordM op (piecesM A B)) y.1 (c+1)) (wayS (bordM op (piecesM A B)) y.1 c)=true:=by
  rcases w.two c with k | k
  ·rw [least c] at k;cases k
  ·exact k
 have b2:befB (wayS (bordM op (piecesM A B)) y.1 (c+1)) (wayS (bordM op (piecesM A B)) y.1 (c+2))=true:=by
  rcases w.two (c+1) with k | k
  ·exact k
  ·rw [least (c+2)] at k;cases k
 refine ⟨b1,b2,?_⟩
 have nz:detM (wayS (bordM op (piecesM A B)) y.1 c) (wayS (bordM op (piecesM A B)) y.1 (c+1)) (wayS (bordM op (piecesM A B)) y.1 (c+2))≠0:=fun k=>by
  rcases w.opp c k with ⟨p,q⟩ | ⟨p,q⟩
  ·rw [least (c+2)] at q;cases q
  ·rw [least c] at p;cases p
 have hc0:c % y.2<y.2:=Nat.mod_lt _ (by have:=hy.one;omega)
 have em:∀ i,wayS (bordM op (piecesM A B)) y.1 (c % y.2+i)=wayS (bordM op (piecesM A B)) y.1 (c+i):=fun i=>by
  have red:∀ q t,wayS (bordM op (piecesM A B)) y.1 (t+q*y.2)=wayS (bordM op (piecesM A B)) y.1 t:=by
   intro q
   induction q with
   | zero=>intro t;rw [Nat.zero_mul,Nat.add_zero]
   | succ q ih=>intro t;rw [Nat.succ_mul,<-Nat.add_assoc,per,ih]
  have:=red (c / y.2) (c % y.2+i)
  rw [<-this]
  congr 1
  have:=Nat.mod_add_div c y.2
  rw [Nat.mul_comm] at this
  omega
 have e0:=em 0
 have e1:=em 1
 have e2:=em 2
 rw [Nat.add_zero,Nat.add_zero] at e0
 have tn:c % y.2∈posN (wayS (bordM op (piecesM A B)) y.1) y.2:=pos_mem.2 ⟨hc0,by
  unfold tn
  rw [e0,e1,e2]
  exact decide_eq_true nz⟩
 obtain ⟨j,hj,pj⟩:=mem_at tn
 rw [<-e0,<-e1] at b1
 rw [<-e1,<-e2] at b2
 rw [<-e1] at ev
 rw [<-e0,<-e1,<-e2]
 rw [<-e1] at least
 clear e0 e1 e2 em nz tn
 have kp:0<(posN (wayS (bordM op (piecesM A B)) y.1) y.2).length:=by omega
 have hp:(j+(posN (wayS (bordM op (piecesM A B)) y.1) y.2).length-1) % (posN (wayS (bordM op (piecesM A B)) y.1) y.2).length<(posN (wayS (bordM op (piecesM A B)) y.1) y.2).length:=Nat.mod_lt _ kp
 have hn:(j+1) % (posN (wayS (bordM op (piecesM A B)) y.1) y.2).length<(posN (wayS (bordM op (piecesM A B)) y.1) y.2).length:=Nat.mod_lt _ kp
 have pn:((j+(posN (wayS (bordM op (piecesM A B)) y.1) y.2).length-1) % (posN (wayS (bordM op (piecesM A B)) y.1) y.2).length+1) % (posN (wayS (bordM op (piecesM A B)) y.1) y.2).length=j:=by
  rcases Nat.eq_zero_or_pos j with z | z
  ·subst z
   rw [Nat.zero_add,Nat.mod_eq_of_lt (show (posN (wayS (bordM op (piecesM A B)) y.1) y.2).length-1<(posN (wayS (bordM op (piecesM A B)) y.1) y.2).length by omega),show (posN (wayS (bordM op (piecesM A B)) y.1) y.2).length-1+1=(posN (wayS (bordM op (piecesM A B)) y.1) y.2).length by omega,Nat.mod_self]
  ·rw [show j+(posN (wayS (bordM op (piecesM A B)) y.1) y.2).length-1=(j-1)+(posN (wayS (bordM op (piecesM A B)) y.1) y.2).length by omega,Nat.add_mod_right,Nat.mod_eq_of_lt (show j-1<(posN (wayS (bordM op (piecesM A B)) y.1) y.2).length by omega),show j-1+1=j by omega,Nat.mod_eq_of_lt hj]
 obtain ⟨b,ab,r1,eb,_⟩:=edge_run per hp
 obtain ⟨bb,ab2,r2,eb2,_⟩:=edge_run per hj
 rw [pn] at eb
 have tl:=turn_len (s:=wayS (bordM op (piecesM A B)) y.1) (m:=y.2)
 have er:ringAtL (bordM op (piecesM A B)) y=leastL (turnP (wayS (bordM op (piecesM A B)) y.1) y.2) (turnP (wayS (bordM op (piecesM A B)) y.1) y.2).length:=by
  unfold ringAtL
  rw [pts_turnP sA sB op hy.lt]
 rw [er] at sh
 have S:=sh_least (P:=turnP (wayS (bordM op (piecesM A B)) y.1) y.2) (by rw [tl];exact kp) sh (j:=j) (by rw [tl];exact hj) (by rw [turn_at hj,pj,ev,er])
 have ct:=cyc_turn per w (j:=j) (by rw [tl];exact hj)
 rw [tl,turn_at hp,turn_at hj,turn_at hn] at S ct
 rw [pj] at S ct ab2 r2
 rw [pj] at eb
 generalize hq0:(posN (wayS (bordM op (piecesM A B)) y.1) y.2).getD ((j+(posN (wayS (bordM op (piecesM A B)) y.1) y.2).length-1) % (posN (wayS (bordM op (piecesM A B)) y.1) y.2).length) 0=q0 at *
 generalize hq2:(posN (wayS (bordM op (piecesM A B)) y.1) y.2).getD ((j+1) % (posN (wayS (bordM op (piecesM A B)) y.1) y.2).length) 0=q2 at *
 generalize c % y.2=c0 at *
 have f1:wayS (bordM op (piecesM A B)) y.1 b=wayS (bordM op (piecesM A B)) y.1 c0/\wayS (bordM op (piecesM A B)) y.1 (b+1)=wayS (bordM op (piecesM A B)) y.1 (c0+1):=by
  rcases eb with x | x
  ·rw [x];exact ⟨rfl,rfl⟩
  ·rw [x];exact ⟨per c0,by rw [show c0+y.2+1=(c0+1)+y.2 by omega,per]⟩
 have f2:wayS (bordM op (piecesM A B)) y.1 (bb+1)=wayS (bordM op (piecesM A B)) y.1 (q2+1):=by
  rcases eb2 with x | x
  ·rw [x]
  ·rw [x,show q2+y.2+1=(q2+1)+y.2 by omega,per]
 obtain ⟨_,l1,t1⟩:=run_line w ab r1
 obtain ⟨l2,_,t2⟩:=run_line w ab2 r2
 have z1:=(l1 (wayS (bordM op (piecesM A B)) y.1 (q0+1))).1 (det_first _ _)
 have z2:=(l2 (wayS (bordM op (piecesM A B)) y.1 (bb+1))).1 (det_last _ _)
 rw [f1.2] at t1
 rw [f1.1,f1.2] at z1
 rw [f2] at t2 z2
 have g1:befB (wayS (bordM op (piecesM A B)) y.1 (c0+1)) (wayS (bordM op (piecesM A B)) y.1 (q0+1))=true:=by
  rcases t1 with k | k
  ·rw [least (q0+1)] at k;cases k
  ·exact k
 have g2:befB (wayS (bordM op (piecesM A B)) y.1 (c0+1)) (wayS (bordM op (piecesM A B)) y.1 (q2+1))=true:=by
  rcases t2 with k | k
  ·exact k
  ·rw [least (q2+1)] at k;cases k
 have hv:=w.d (c0+1)
 generalize wayS (bordM op (piecesM A B)) y.1 (c0+1)=v at *
 generalize wayS (bordM op (piecesM A B)) y.1 (q0+1)=rp at *
 generalize wayS (bordM op (piecesM A B)) y.1 (q2+1)=rn at *
 have e2':wayS (bordM op (piecesM A B)) y.1 (c0+1+1)=wayS (bordM op (piecesM A B)) y.1 (c0+2):=rfl
 rw [e2'] at z2
 generalize wayS (bordM op (piecesM A B)) y.1 (c0+2)=nx at *
 generalize wayS (bordM op (piecesM A B)) y.1 c0=pv at *
 have z1':detM v pv rp=0:=by
  have:detM v pv rp = -detM pv v rp:=by unfold detM;grind
  omega
 have s1:=fun x=>line_sign (f:=v) (l:=pv) (v:=v) (z:=rp) (x:=x) hv hv (det_first _ _) z1' b1 g1
 have s2:=fun x=>line_sign (f:=v) (l:=nx) (v:=v) (z:=rn) (x:=x) hv hv (det_first _ _) z2 b2 g2
 have p1:detM v rp rn<0:=by
  have:detM v rp rn = -detM rp v rn:=by unfold detM;grind
  omega
 have p2:0<detM v rn rp:=by
  have:detM v rn rp = -detM v rp rn:=by unfold detM;grind
  omega
 have p3:0<detM v nx rp:=by
  rcases Int.lt_trichotomy (detM v nx rp) 0 with k | k | k
  ·have:=(s2 rp).1.1 k;omega
  ·have:=(s2 rp).2.1 k;omega
  ·exact k
 have p4:detM v rp nx<0:=by
  have:detM v rp nx = -detM v nx rp:=by unfold detM;grind
  omega
 exact (s1 nx).1.2 p4
theorem no_equal {z y:Nat×Nat}(hz:Rd (bordM op (piecesM A B)) z)(hy:Rd (bordM op (piecesM A B)) y)(se:Sep (bordM op (piecesM A B)) z y)(sh:ShL (ringAtL (bordM op (piecesM A B)) y))(ef:(ringAtL (bordM op (piecesM A B)) z).getD 0 zP=(ringAtL (bordM op (piecesM A B)) y).getD 0 zP)
  (ins:lsd (edgesM [wayR (bordM op (piecesM A B)) y]) (edg (bordM op (piecesM A B)) z.1)=true):False:=by
 have wz:=way_of sA sB op hz.lt
 have wy:=way_of sA sB op hy.lt
 have per:=way_per hy.per
 have fz:=ring_fm sA sB op hz
 obtain ⟨b,eb⟩:=ring_turn_mem sA sB op hz (getD_mem (show 0<(ringAtL (bordM op (piecesM A B)) z).length by have:=fz.three;omega) zP)
 have leastZ:=fun i=>way_least sA sB op hz i
 have leastY:=fun i=>way_least sA sB op hy i
 rw [<-ef,eb] at leastY
 rw [eb] at leastZ
 have nv:Nice (wayS (bordM op (piecesM A B)) z.1 (b+1)):=by rw [<-eb];exact fz.nice _ (getD_mem (by have:=fz.three;omega) zP)
 obtain ⟨m1,e1⟩:=way_piece sA sB op hz (b+1)
 have bd:befB (wayS (bordM op (piecesM A B)) z.1 (b+1)) (wayS (bordM op (piecesM A B)) z.1 (b+1+1))=true:=by
  rcases wz.two (b+1) with k | k
  ·exact k
  ·rw [leastZ (b+1+1)] at k;cases k
 have sm:=same_all sA sB op hz hy se (b+1)
 rw [e1,ins] at sm
 unfold lsd at sm
 rw [if_pos bd] at sm
 simp only at sm
 have hshell:∀ c,wayS (bordM op (piecesM A B)) y.1 (c+1)=wayS (bordM op (piecesM A B)) z.1 (b+1)->_:=fun c k=>shell_pass sA sB op hy sh (c:=c) (by rw [k,<-eb,ef])
 have nice:=fun c=>(bord_nice sA sB op (way_piece sA sB op hy c).1).1
 have notsame:∀ c,wayS (bordM op (piecesM A B)) y.1 (c+1)=wayS (bordM op (piecesM A B)) z.1 (b+1)->wayS (bordM op (piecesM A B)) z.1 (b+1+1)≠wayS (bordM op (piecesM A B)) y.1 (c+2):=fun c k q=>by
  obtain ⟨m2,e2⟩:=way_piece sA sB op hy (c+1)
  have inz:∀ {u:Nat×Nat},Rd (bordM op (piecesM A B)) u->∀ i,edg (bordM op (piecesM A B)) (itN (nextsM (bordM op (piecesM A B))) u.1 i)∈edgesM [wayR (bordM op (piecesM A B)) u]:=fun {u} hu i=>by
   rw [edges_one',way_edges sA sB op hu]
   refine List.mem_map.2 ⟨itN (nextsM (bordM op (piecesM A B))) u.1 i,?_,rfl⟩
   unfold idxR
   exact List.mem_map.2 ⟨i % u.2,List.mem_range.2 (Nat.mod_lt _ (by have:=hu.one;omega)),it_mod sA sB op hu i⟩
  refine sep_way sA sB op hz hy se (x:=edg (bordM op (piecesM A B)) (itN (nextsM (bordM op (piecesM A B))) z.1 (b+1))) (.inl (inz hz (b+1))) (.inl ?_)
  have:edg (bordM op (piecesM A B)) (itN (nextsM (bordM op (piecesM A B))) z.1 (b+1))=edg (bordM op (piecesM A B)) (itN (nextsM (bordM op (piecesM A B))) y.1 (c+1)):=by
   rw [e1,e2,k,q]
  rw [this]
  exact inz hy (c+1)
 have nx:∀ c,wayS (bordM op (piecesM A B)) y.1 (c+1)=wayS (bordM op (piecesM A B)) z.1 (b+1)->aheadM (wayS (bordM op (piecesM A B)) y.1 (c+2)) (wayS (bordM op (piecesM A B)) z.1 (b+1+1)) (wayS (bordM op (piecesM A B)) y.1 c,wayS (bordM op (piecesM A B)) z.1 (b+1))=true:=fun c k=>by
  obtain ⟨j0,nx0,ej0⟩:=fol_is sA sB op (it_lt (nexts_pm sA sB op) hy.lt c)
  have e2:=(way_piece sA sB op hy (c+1)).2
  have ec:=(way_piece sA sB op hy c).2
  have ei:itN (nextsM (bordM op (piecesM A B))) y.1 (c+1)=folM (bordM op (piecesM A B)) (itN (nextsM (bordM op (piecesM A B))) y.1 c) (bordM op (piecesM A B)).length:=by
   rw [itN,nexts_at _ _ (it_lt (nexts_pm sA sB op) hy.lt c)]
  rw [ei,ej0] at e2
  have ej:j0=wayS (bordM op (piecesM A B)) y.1 (c+2):=congrArg Prod.snd e2
  rw [ec] at nx0
  simp only at nx0
  rw [ej,k] at nx0
  exact nx0.first _ m1 (notsame c k)
 have leastZ':=leastY
 generalize wayS (bordM op (piecesM A B)) z.1 (b+1)=v at *
 generalize wayS (bordM op (piecesM A B)) z.1 (b+1+1)=d at *
 rw [edges_one',way_list sA sB op hy,sumX_par] at sm
 simp only at sm
 have el:∀ c,leftE v d (wayS (bordM op (piecesM A B)) y.1 c) (wayS (bordM op (piecesM A B)) y.1 (c+1))=((eqP (wayS (bordM op (piecesM A B)) y.1 c) v && decide (detM v (wayS (bordM op (piecesM A B)) y.1 (c+1)) d<0)) ^^ (eqP (wayS (bordM op (piecesM A B)) y.1 (c+1)) v && decide (detM v (wayS (bordM op (piecesM A B)) y.1 c) d<0))):=fun c=>
  left_least nv (nice c) (nice (c+1)) bd (leastY c) (leastY (c+1)) (wy.two c)
 rw [sumX_congr el,sumX_xor] at sm
 have sh1:=sumX_shift (h:=fun c=>eqP (wayS (bordM op (piecesM A B)) y.1 c) v && decide (detM v (wayS (bordM op (piecesM A B)) y.1 (c+1)) d<0)) (m:=y.2) (fun c=>by
  show (eqP (wayS _ y.1 (c+y.2)) v && decide (detM v (wayS _ y.1 (c+y.2+1)) d<0))=_
  rw [per,show c+y.2+1=(c+1)+y.2 by omega,per]) 1
 have sh2:=sumX_succ (fun c=>eqP (wayS (bordM op (piecesM A B)) y.1 c) v && decide (detM v (wayS (bordM op (piecesM A B)) y.1 (c+1)) d<0)) 0 y.2
 rw [Nat.zero_add] at sh2
 rw [<-sh1,sh2,<-sumX_xor] at sm
 rw [sumX_zero (fun c=>?_)] at sm
 ·cases sm
 · -- each time it comes through v
  cases ev:eqP (wayS (bordM op (piecesM A B)) y.1 (c+1)) v
  ·rfl
  ·have k:=eqP_iff.1 ev
   obtain ⟨p1,p2,p3⟩:=hshell c k
   have ah:=nx c k
   rw [k] at p1 p2 p3
   simp only [Bool.true_and]
   have e2:wayS (bordM op (piecesM A B)) y.1 (c+1+1)=wayS (bordM op (piecesM A B)) y.1 (c+2):=rfl
   rw [e2]
   have hv:=nv.d
   generalize wayS (bordM op (piecesM A B)) y.1 c=a at *
   generalize wayS (bordM op (piecesM A B)) y.1 (c+2)=j at *
   unfold aheadM at ah
   simp only at ah
   rw [decide_eq_true p3] at ah
   by_cases h:detM v a d<0
   ·rw [decide_eq_true h] at ah ⊢
    simp at ah
    rw [decide_eq_true ah];rfl
   ·rw [decide_eq_false h]
    have : ¬ detM v j d<0:=fun q=>h ((hp_trans hv p1 p2 bd (by omega) (by omega)).2 (.inl p3))
    rw [decide_eq_false this];rfl
end
end Go.Proofs.YtnkcbephceollabGreat
namespace Go.Proofs.YtnkcbephceollabGreat
set_option linter.unusedSimpArgs false
set_option linter.unusedVariables false
def holeG (f:Pt):List (Pt×Pt)->Pt->Bool
 | [],_=>false
 | e::l,b=>if cmpM e.1 f=0/\detM b e.1 e.2<0 then true else holeG f l e.1
def holeM (r:List Pt):Bool:=if r.length=0 then false else holeG (r.getD 0 zP) (ringEdges r) (r.getD (r.length-1) zP)
def atM (r:List Pt)(p:Pt):Int:=(locM [r] p).1
def withinM (r o:List Pt):Bool:=r.all fun p=>decide (atM o p≠0)
def innerM (p:Pt)(R:List (List Pt)):Nat->Int
 | 0=>-1
 | k+1=>if holeM (R.getD k [])=true\/atM (R.getD k []) p≠1 then innerM p R k else if innerM p R k = -1\/withinM (R.getD k []) (R.getD (innerM p R k).toNat [])=true then (k:Int) else innerM p R k
theorem inner_bd (p:Pt)(R:List (List Pt)):∀ k,-1<=innerM p R k/\innerM p R k<k
 | 0=>by unfold innerM;omega
 | k+1=>by
  have ih:=inner_bd p R k
  unfold innerM
  split
  ·omega
  ·split <;> omega
def shellM (R:List (List Pt))(r:List Pt):Int:=if holeM r=true then innerM (r.getD 0 zP) R R.length else -1
def nestL (R:List (List Pt)):List Int:=R.map (shellM R)
def nestM (op:Int)(A B:List (List Pt)):List Int×Int:=if (clipM op A B).2≠0 then ([],(clipM op A B).2) else (nestL (clipM op A B).1,0)
theorem holeG_drop (f:Pt)(l:List (Pt×Pt))(k:Nat)(hk:k<l.length)(b:Pt):holeG f (l.drop k) b=if cmpM (edg l k).1 f=0/\detM b (edg l k).1 (edg l k).2<0 then true else holeG f (l.drop (k+1)) (edg l k).1:=by
 rw [List.drop_eq_getElem_cons hk]
 unfold edg
 rw [List.getD_eq_getElem?_getD,List.getElem?_eq_getElem hk]
 rfl
theorem within_drop (o:List Pt)(r:List Pt)(k:Nat)(hk:k<r.length):withinM (r.drop k) o=(decide (atM o (r.getD k zP)≠0) && withinM (r.drop (k+1)) o):=by
 rw [List.drop_eq_getElem_cons hk,List.getD_eq_getElem?_getD,List.getElem?_eq_getElem hk]
 rfl
theorem nestL_take (R:List (List Pt))(k:Nat)(hk:k<R.length):(R.take (k+1)).map (shellM R)=(R.take k).map (shellM R) ++ [shellM R (R.getD k [])]:=by
 rw [List.take_succ_eq_append_getElem hk,List.map_append,List.getD_eq_getElem?_getD,List.getElem?_eq_getElem hk];rfl
theorem edges_one (r:List Pt):edgesM [r]=ringEdges r:=by unfold edgesM;simp
end Go.Proofs.YtnkcbephceollabGreat
