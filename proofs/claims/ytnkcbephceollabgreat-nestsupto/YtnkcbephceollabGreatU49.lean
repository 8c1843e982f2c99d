import Derived.Test.YtnkcbephceollabGreatU48
namespace Go.Proofs.YtnkcbephceollabGreat
set_option linter.unusedSimpArgs false
set_option linter.unusedVariables false
set_option linter.unusedSectionVars false
def whR (r:List Pt)(p:Pt):Int:=whereM p 0 (edgesM [r])
theorem where_ahead {r:List Pt}(hr:∀ p∈r,0<p.d){v:Pt}(hv:0<v.d)(h:∀ p∈r,befB v p=true):whR r v=0:=by
 unfold whR
 have key:∀ e∈edgesM [r],befB v (firstM e.1 e.2)=true:=fun e he=>by
  obtain ⟨m1,m2⟩:=edge_ends he
  rw [List.flatten_singleton] at m1 m2
  rcases first_cases e.1 e.2 with k | k <;> rw [k]
  ·exact h _ m1
  ·exact h _ m2
 rw [whereM_eq v _ 0 (.inl rfl)]
 ·have:parB (fun a b=>overM a b v) (edgesM [r])=false:=par_none fun e he=>by
   unfold overM spanM
   rw [cmpB,key e he];rfl
  rw [this];simp
 ·rw [Bool.eq_false_iff]
  intro k
  obtain ⟨e,he,q⟩:=List.any_eq_true.1 k
  unfold hasM at q
  rw [cmpB,key e he] at q
  simp at q
theorem where_own {r:List Pt}(hr:∀ p∈r,0<p.d){p:Pt}(hp:p∈r):whR r p=2:=by
 unfold whR
 have hm:p∈[r].flatten:=by rw [List.flatten_singleton];exact hp
 obtain ⟨e,he,ee⟩:=first_edge hm
 obtain ⟨m1,m2⟩:=edge_ends he
 rw [List.flatten_singleton] at m1 m2
 refine whereM_two p _ 0 (List.any_eq_true.2 ⟨e,he,?_⟩)
 rw [has_on (hr _ m1) (hr _ m2) (hr _ hp)]
 exact on_first (hr _ m1) (hr _ m2) (hr _ hp) (by rw [ee];unfold xv;omega) (by rw [ee];unfold yv;omega)
theorem where_in {r:List Pt}(hr:∀ p∈r,0<p.d){q:Pt}(hq:0<q.d)(h:whR r q=1):(∀ e∈ringEdges r,onB q e.1 e.2=false)/\parB (overB q) (ringEdges r)=true:=by
 have pd:∀ v∈[r].flatten,0<v.d:=fun v hv=>by rw [List.flatten_singleton] at hv;exact hr v hv
 unfold whR at h
 have off:=where_two pd hq (by rw [h];decide)
 have wo:=where_of pd hq off
 rw [h] at wo
 rw [edges_one'] at off wo
 refine ⟨off,?_⟩
 cases k:parB (overB q) (ringEdges r)
 ·rw [k] at wo;simp at wo
 ·rfl
section
variable {A B:List (List Pt)}(sA:Sound A)(sB:Sound B)(op:Int)
include sA sB
def TwoR (L:List (Pt×Pt))(r r':List Pt):Prop:=∃ z y,Rd L z/\Rd L y/\Sep L z y/\r=ringAtL L z/\r'=ringAtL L y
theorem two_rings:(ringsM (bordM op (piecesM A B))).Pairwise (TwoR (bordM op (piecesM A B))):=by
 obtain ⟨I,h1,h2,h3⟩:=rounds_all sA sB op
 have sym:∀ {r r':List Pt},TwoR (bordM op (piecesM A B)) r r'->TwoR (bordM op (piecesM A B)) r' r:=fun ⟨z,y,a,b,c,d,e⟩=>⟨y,z,b,a,fun i j k=>c j i k.symm,e,d⟩
 rw [h1.pairwise_iff (fun {x y} h=>sym h),List.pairwise_map]
 exact h2.imp_of_mem fun {z y} mz my se=>⟨z,y,h3 z mz,h3 y my,se,rfl,rfl⟩
theorem later_within {r r':List Pt}(tw:TwoR (bordM op (piecesM A B)) r r')(ord:befB (r'.getD 0 zP) (r.getD 0 zP)=false)(sh':ShL r'){q:Pt}(gq:goodB q=true)(h1:whR r q=1)(h2:whR r' q=1):∀ p∈r',whR r p≠0:=by
 obtain ⟨z,y,hz,hy,se,rfl,rfl⟩:=tw
 have se':Sep (bordM op (piecesM A B)) y z:=fun i j k=>se j i k.symm
 have fz:=ring_fm sA sB op hz
 have fy:=ring_fm sA sB op hy
 have hq:=(gd_of_good gq).2
 obtain ⟨o1,i1⟩:=where_in (fun p hp=>(fz.nice p hp).d) hq h1
 obtain ⟨o2,i2⟩:=where_in (fun p hp=>(fy.nice p hp).d) hq h2
 have p1:=ring_off sA sB op hz hq o1
 have p2:=ring_off sA sB op hy hq o2
 have e1:=(ring_way sA sB op hz hq p1).2
 have e2:=(ring_way sA sB op hy hq p2).2
 rw [i1] at e1
 rw [i2] at e2
 have all:∀ {u t:Nat×Nat},Rd (bordM op (piecesM A B)) u->Rd (bordM op (piecesM A B)) t->Sep (bordM op (piecesM A B)) u t->∀ {x:Pt×Pt},x∈prs A B->(x∈edgesM [wayR (bordM op (piecesM A B)) u]\/(x.2,x.1)∈edgesM [wayR (bordM op (piecesM A B)) u])->parB (leftE x.1 x.2) (edgesM [wayR (bordM op (piecesM A B)) t])=true->lsd (edgesM [wayR (bordM op (piecesM A B)) t]) (edg (bordM op (piecesM A B)) u.1)=true:=fun {u t} hu ht su {x} hx hm hl=>by
  have bx:=(prs_bef sA sB hx).1
  have idx:∀ {e:Pt×Pt},e∈edgesM [wayR (bordM op (piecesM A B)) u]->∃ a,e=edg (bordM op (piecesM A B)) (itN (nextsM (bordM op (piecesM A B))) u.1 a):=fun {e} he=>by
   rw [edges_one',way_edges sA sB op hu] at he
   obtain ⟨i,hi,rfl⟩:=List.mem_map.1 he
   unfold idxR at hi
   obtain ⟨a,_,rfl⟩:=List.mem_map.1 hi
   exact ⟨a,rfl⟩
  rcases hm with k | k
  ·obtain ⟨a,ea⟩:=idx k
   rw [<-same_all sA sB op hu ht su a,<-ea]
   unfold lsd
   rw [if_pos bx];exact hl
  ·obtain ⟨a,ea⟩:=idx k
   rw [<-same_all sA sB op hu ht su a,<-ea]
   unfold lsd
   simp only
   rw [if_neg (by rw [bef_asym bx];decide)];exact hl
 obtain ⟨x,hx,k⟩:=one_within sA sB op hz hy se gq (by rw [edges_one'];exact p1) (by rw [edges_one'];exact p2) (by rw [edges_one'];exact e1.symm) (by rw [edges_one'];exact e2.symm)
 rcases k with ⟨k1,k2⟩ | ⟨k1,k2⟩
 · -- the earlier one within the later: they would have one first point
  exfalso
  have ins:=all hz hy se hx k1 k2
  have wp:=within_pts sA sB op hz hy se ins
  have m0:(ringAtL (bordM op (piecesM A B)) z).getD 0 zP∈ringAtL (bordM op (piecesM A B)) z:=getD_mem (by have:=fz.three;omega) zP
  have n0:(ringAtL (bordM op (piecesM A B)) y).getD 0 zP∈ringAtL (bordM op (piecesM A B)) y:=getD_mem (by have:=fy.three;omega) zP
  have lt:befB ((ringAtL (bordM op (piecesM A B)) z).getD 0 zP) ((ringAtL (bordM op (piecesM A B)) y).getD 0 zP)=false:=by
   cases c:befB ((ringAtL (bordM op (piecesM A B)) z).getD 0 zP) ((ringAtL (bordM op (piecesM A B)) y).getD 0 zP)
   ·rfl
   ·refine absurd ?_ (wp _ m0)
    refine where_ahead (fun p hp=>(fy.nice p hp).d) (fz.nice _ m0).d (fun p hp=>?_)
    obtain ⟨i,hi,e⟩:=List.getElem_of_mem hp
    have lo:=fy.low i hi
    have eg:(ringAtL (bordM op (piecesM A B)) y).getD i zP=p:=by rw [List.getD_eq_getElem?_getD,List.getElem?_eq_getElem hi];exact e
    rw [eg] at lo
    exact bef_le (fz.nice _ m0).d (fy.nice _ n0).d (fy.nice p hp).d c lo
  exact no_equal sA sB op hz hy se sh' (canon_eq (fz.nice _ m0).2 (fy.nice _ n0).2 lt ord) ins
 ·exact within_pts sA sB op hy hz se' (all hy hz se' hx k1 k2)
end
theorem holeG_iff (f:Pt):∀ (l:List (Pt×Pt)) (b:Pt),holeG f l b=true↔∃ k,k<l.length/\cmpM (edg l k).1 f=0/\detM (if k=0 then b else (edg l (k-1)).1) (edg l k).1 (edg l k).2<0
 | [],b=>by
  constructor
  ·intro h;cases h
  ·rintro ⟨k,hk,_⟩;simp at hk
 | e::l,b=>by
  have ih:=holeG_iff f l e.1
  have e0:edg (e::l) 0=e:=rfl
  have es:∀ k,edg (e::l) (k+1)=edg l k:=fun _=>rfl
  unfold holeG
  by_cases c:cmpM e.1 f=0/\detM b e.1 e.2<0
  ·rw [if_pos c]
   simp only [true_iff]
   exact ⟨0,by simp,c.1,c.2⟩
  ·rw [if_neg c,ih]
   constructor
   ·rintro ⟨k,hk,h1,h2⟩
    refine ⟨k+1,by simpa using hk,h1,?_⟩
    rw [if_neg (by omega),es,Nat.add_sub_cancel]
    by_cases z:k=0
    ·subst z;rw [if_pos rfl] at h2;exact h2
    ·rw [if_neg z] at h2
     obtain ⟨k',rfl⟩:∃ k',k=k'+1:=⟨k-1,by omega⟩
     rw [Nat.add_sub_cancel] at h2
     exact h2
   ·rintro ⟨k,hk,h1,h2⟩
    cases k with
    | zero=>exact absurd ⟨h1,h2⟩ c
    | succ k=>
     refine ⟨k,by simpa using hk,h1,?_⟩
     rw [if_neg (by omega),Nat.add_sub_cancel] at h2
     by_cases z:k=0
     ·subst z;rw [if_pos rfl];exact h2
     ·rw [if_neg z]
      obtain ⟨k',rfl⟩:∃ k',k=k'+1:=⟨k-1,by omega⟩
      rw [Nat.add_sub_cancel]
      exact h2
def holeAt (r:List Pt)(i:Nat):Bool:=placeB (r.getD i zP) (r.getD 0 zP) && decide (detM (r.getD ((i+r.length-1) % r.length) zP) (r.getD i zP) (r.getD ((i+1) % r.length) zP)<0)
theorem cmp_place (p q:Pt):cmpM p q=0↔placeB p q=true:=by
 unfold placeB
 rw [<-cmpB,<-cmpB' p q]
 simp only [Bool.and_eq_true,Bool.not_eq_true',decide_eq_false_iff_not]
 omega
theorem hole_iff (r:List Pt):holeM r=true↔∃ i,i<r.length/\holeAt r i=true:=by
 unfold holeM
 by_cases z:r.length=0
 ·rw [if_pos z]
  constructor
  ·intro h;cases h
  ·rintro ⟨i,hi,_⟩;omega
 ·rw [if_neg z,holeG_iff]
  have rl:(ringEdges r).length=r.length:=re_len r
  have at_:∀ k,k<r.length->edg (ringEdges r) k=(r.getD k zP,r.getD ((k+1) % r.length) zP):=fun k hk=>ringEdges_at hk
  have pv:∀ k,k<r.length->(if k=0 then r.getD (r.length-1) zP else (edg (ringEdges r) (k-1)).1)=r.getD ((k+r.length-1) % r.length) zP:=fun k hk=>by
   by_cases c:k=0
   ·subst c
    rw [if_pos rfl,Nat.zero_add,Nat.mod_eq_of_lt (by omega)]
   ·rw [if_neg c,at_ (k-1) (by omega),show k+r.length-1=(k-1)+r.length by omega,Nat.add_mod_right,Nat.mod_eq_of_lt (show k-1<r.length by omega)]
  constructor
  ·rintro ⟨k,hk,h1,h2⟩
   rw [rl] at hk
   rw [pv k hk,at_ k hk] at h2
   rw [at_ k hk] at h1
   refine ⟨k,hk,?_⟩
   unfold holeAt
   rw [(cmp_place _ _).1 h1,decide_eq_true h2];rfl
  ·rintro ⟨k,hk,h⟩
   unfold holeAt at h
   rw [Bool.and_eq_true] at h
   refine ⟨k,by rw [rl];exact hk,?_,?_⟩
   ·rw [at_ k hk];exact (cmp_place _ _).2 h.1
   ·rw [pv k hk,at_ k hk];exact of_decide_eq_true h.2
theorem shell_of {r:List Pt}(h:holeM r=false):ShL r:=fun i hi e k=>by
 have:holeM r=true:=(hole_iff r).2 ⟨i,hi,by
  unfold holeAt
  rw [decide_eq_true k,e]
  have p:placeB (r.getD 0 zP) (r.getD 0 zP)=true:=by unfold placeB;rw [bef_irr];rfl
  rw [p];rfl⟩
 rw [h] at this;cases this
def hldB (R:List (List Pt))(p:Pt)(k:Nat):Bool:=!holeM (R.getD k []) && decide (whR (R.getD k []) p=1)
def hldL (R:List (List Pt))(p:Pt)(n:Nat):List Nat:=(List.range n).filter (hldB R p)
def allIn (R:List (List Pt))(k:Nat)(l:List Nat):Bool:=l.all fun i=>(R.getD k []).all fun q=>decide (whR (R.getD i []) q≠0)
def pickD (R:List (List Pt))(l:List Nat)(m:List Nat):Int:=m.foldl (fun n k=>if allIn R k l=true then (k:Int) else n) (-1)
def lastI (l:List Nat):Int:=match l.getLast? with
 | some k=>(k:Int)
 | none=>-1
theorem hld_snoc (R:List (List Pt))(p:Pt)(n:Nat):hldL R p (n+1)=hldL R p n ++ (if hldB R p n=true then [n] else []):=by
 unfold hldL
 rw [List.range_succ,List.filter_append]
 congr 1
 rw [List.filter_cons]
 rfl
structure Nst (R:List (List Pt))(p:Pt):Prop where
 at_:∀ i,i<R.length->atM (R.getD i []) p=whR (R.getD i []) p
 pt:∀ i j,i<R.length->j<R.length->∀ q∈R.getD j [],atM (R.getD i []) q=whR (R.getD i []) q
 own:∀ i,i<R.length->∀ q∈R.getD i [],whR (R.getD i []) q≠0
 lat:∀ i j,i<j->j<R.length->hldB R p i=true->hldB R p j=true->∀ q∈R.getD j [],whR (R.getD i []) q≠0
theorem inner_last {R:List (List Pt)}{p:Pt}(h:Nst R p):∀ n,n<=R.length->innerM p R n=lastI (hldL R p n)/\∀ k∈hldL R p n,k<n/\hldB R p k=true
 | 0,_=>⟨rfl,fun k hk=>by cases hk⟩
 | n+1,hn=>by
  obtain ⟨ih,mem⟩:=inner_last h n (by omega)
  rw [hld_snoc,innerM]
  have hb:hldB R p n=true↔¬ (holeM (R.getD n [])=true\/atM (R.getD n []) p≠1):=by
   unfold hldB
   rw [h.at_ n (by omega)]
   cases holeM (R.getD n []) <;> simp
  by_cases c:hldB R p n=true
  ·rw [if_pos c,if_neg (hb.1 c)]
   refine ⟨?_,fun k hk=>?_⟩
   ·have e2:lastI (hldL R p n ++ [n])=(n:Int):=by unfold lastI;rw [List.getLast?_append];rfl
    rw [e2]
    by_cases d:innerM p R n = -1
    ·rw [if_pos (.inl d)]
    · -- the innermost so far
     have li:∃ k:Nat,lastI (hldL R p n)=(k:Int)/\k∈hldL R p n:=by
      unfold lastI
      cases g:(hldL R p n).getLast? with
      | none=>rw [ih] at d;unfold lastI at d;rw [g] at d;exact absurd rfl d
      | some k=>exact ⟨k,rfl,List.mem_of_getLast? g⟩
     obtain ⟨k,e,hk⟩:=li
     obtain ⟨kn,kb⟩:=mem k hk
     have hw:withinM (R.getD n []) (R.getD (innerM p R n).toNat [])=true:=by
      rw [ih,e,Int.toNat_natCast]
      unfold withinM
      refine List.all_eq_true.2 fun q hq=>decide_eq_true ?_
      rw [h.pt k n (by omega) (by omega) q hq]
      exact h.lat k n kn (by omega) kb c q hq
     rw [if_pos (.inr hw)]
   ·rcases List.mem_append.1 hk with k1 | k1
    ·have:=mem k k1;exact ⟨by omega,this.2⟩
    ·have:k=n:=List.mem_singleton.1 k1
     rw [this];exact ⟨by omega,c⟩
  ·rw [if_neg c,if_pos (by
    apply Decidable.byContradiction
    intro q
    exact c (hb.2 q)),List.append_nil]
   exact ⟨ih,fun k hk=>by have:=mem k hk;exact ⟨by omega,this.2⟩⟩
theorem pick_last {R:List (List Pt)}{p:Pt}(h:Nst R p):pickD R (hldL R p R.length) (hldL R p R.length)=lastI (hldL R p R.length):=by
 obtain ⟨_,mem⟩:=inner_last h R.length (Nat.le_refl _)
 rcases List.eq_nil_or_concat (hldL R p R.length) with e | ⟨l,k,e⟩
 ·rw [e];rfl
 ·have hk:k∈hldL R p R.length:=by rw [e];simp
  obtain ⟨kn,kb⟩:=mem k hk
  have srt:(hldL R p R.length).Pairwise (· < ·):=by unfold hldL;exact List.pairwise_lt_range.filter _
  have al:allIn R k (hldL R p R.length)=true:=by
   unfold allIn
   refine List.all_eq_true.2 fun i hi=>List.all_eq_true.2 fun q hq=>decide_eq_true ?_
   obtain ⟨il,ib⟩:=mem i hi
   by_cases c:i=k
   ·rw [c];exact h.own k kn q hq
   ·have lt:i<k:=by
     rw [e] at hi srt
     rw [List.concat_eq_append] at hi srt
     rcases List.mem_append.1 hi with x | x
     ·exact (List.pairwise_append.1 srt).2.2 i x k (by simp)
     ·exact absurd (List.mem_singleton.1 x) c
    exact h.lat i k lt kn ib kb q hq
  have e2:lastI (hldL R p R.length)=(k:Int):=by
   rw [e,List.concat_eq_append];unfold lastI;rw [List.getLast?_append];rfl
  rw [e2]
  have gen:∀ L:List Nat,allIn R k L=true->pickD R L (l ++ [k])=(k:Int):=fun L hL=>by
   unfold pickD
   rw [List.foldl_append,List.foldl_cons,List.foldl_nil,if_pos hL]
  have:=gen _ al
  rw [<-List.concat_eq_append,<-e] at this
  exact this
def shellD (R:List (List Pt))(r:List Pt):Int:=if holeM r=true then pickD R (hldL R (r.getD 0 zP) R.length) (hldL R (r.getD 0 zP) R.length) else -1
theorem shell_eq {R:List (List Pt)}{r:List Pt}(h:holeM r=true->Nst R (r.getD 0 zP)):shellD R r=shellM R r:=by
 unfold shellD shellM
 by_cases c:holeM r=true
 ·rw [if_pos c,if_pos c,pick_last (h c),(inner_last (h c) _ (Nat.le_refl _)).1]
 ·rw [if_neg c,if_neg c]
theorem nst_rings {A B:List (List Pt)}(c1:(checkM A).1=0)(c2:(checkM B).1=0)(op:Int){p:Pt}(gp:goodB p=true):Nst (ringsM (bordM op (piecesM A B))) p:=by
 have sA:=sound_of c1
 have sB:=sound_of c2
 obtain ⟨fm,ord⟩:=rings_fm sA sB op
 have tw:=two_rings sA sB op
 have tot:=rings_bound c1 c2 op
 generalize hR:ringsM (bordM op (piecesM A B))=R at *
 have few:∀ r∈R,(edgesM [r]).length<=2000:=fun r hr=>by
  have:(edgesM [r]).length<=(edgesM R).length:=by
   obtain ⟨R1,R2,rfl⟩:=List.append_of_mem hr
   unfold edgesM
   simp
   omega
  omega
 have loc:∀ r∈R,∀ q,goodB q=true->atM r q=whR r q:=fun r hr q gq=>by
  unfold atM whR
  rw [loc_few (few r hr) (fun v hv=>by
   rw [List.flatten_singleton] at hv
   exact ((fm r hr).nice v hv).1),if_neg (by rw [gq];decide)]
 have mem:∀ {i},i<R.length->R.getD i []∈R:=fun hi=>getD_mem hi []
 refine ⟨fun i hi=>loc _ (mem hi) p gp,fun i j hi hj q hq=>loc _ (mem hi) q ((fm _ (mem hj)).nice q hq).1,fun i hi q hq=>?_,fun i j ij hj b1 b2=>?_⟩
 ·rw [where_own (fun v hv=>((fm _ (mem hi)).nice v hv).d) hq];decide
 ·have hi:i<R.length:=by omega
  have t:=List.pairwise_iff_getElem.1 tw i j hi hj ij
  have o:=List.pairwise_iff_getElem.1 ord i j hi hj ij
  have g1:R.getD i []=R[i]:=by rw [List.getD_eq_getElem?_getD,List.getElem?_eq_getElem hi];rfl
  have g2:R.getD j []=R[j]:=by rw [List.getD_eq_getElem?_getD,List.getElem?_eq_getElem hj];rfl
  rw [<-g1,<-g2] at t o
  unfold hldB at b1 b2
  rw [Bool.and_eq_true,Bool.not_eq_true',decide_eq_true_eq] at b1 b2
  exact later_within sA sB op t o (shell_of b2.1) gp b1.2 b2.2
theorem nest_eq {A B:List (List Pt)}(c1:(checkM A).1=0)(c2:(checkM B).1=0)(op:Int):(ringsM (bordM op (piecesM A B))).map (shellD (ringsM (bordM op (piecesM A B))))=nestL (ringsM (bordM op (piecesM A B))):=by
 unfold nestL
 refine List.map_congr_left fun r hr=>shell_eq fun _=>?_
 have fm:=(rings_fm (sound_of c1) (sound_of c2) op).1 r hr
 exact nst_rings c1 c2 op (fm.nice _ (getD_mem (by have:=fm.three;omega) zP)).1
end Go.Proofs.YtnkcbephceollabGreat
namespace Go.Proofs.YtnkcbephceollabGreat
open Go.RowKit
set_option linter.unusedSimpArgs false
set_option linter.unusedVariables false
set_option maxRecDepth 100000 in
set_option maxHeartbeats 4000000 in
theorem Edges_own (v:Value)(P:List (List Pt))(w:World)(hP:PolyAt w v P)(hT:(edgesM P).length<=100000) :
  Calls Tryz.prog 75 #[v] w fun e w'=>∃ v',e = .returned v'/\w'.ownsRow w.heap.size 70 6 v' (edgesM P).length (segCells (edgesM P))/\Below w.heap.size w w':=by
 obtain ⟨i0,hi0,hz0,hz1,hz2⟩:=info_parts infoSeg
 obtain ⟨a,cap,rfl,h1,h2,h3⟩:=hP
 unfold maxLen at h2
 go_enter Tryz.func75,Tryz.ntmps75
 go_wp2_with fail
 go_loopw [3,5,6,7,8,11] (fun ev _ _ _ _ c w'=>∃ i:Nat,c = .int .i64 i/\i<=P.length/\w'.ownsRow w.heap.size 70 6 ev (edgesM (P.take i)).length (segCells (edgesM (P.take i)))/\Below w.heap.size w w') (fun _ _ _ _ _ c _=>P.length-(intOf c).toNat)
 case atStart=>exact ⟨0,rfl,Nat.zero_le _,World.ownsRow_nil _ _ _ _,Below.refl _ _⟩
 case round=>
  obtain ⟨i,rfl,hi,hown,hbel⟩:=hrel
  by_cases hlt:i<P.length
  ·obtain ⟨b,off,rv,rfl,hb,hc,hring⟩:=h3 i hlt
   have hc':=(hbel.cell (p:=⟨b,off+i,none⟩) hb).trans hc
   have u0:=upToM_zero P i
   have us:=fun j=>upToM_succ P i j
   have ue:=upToM_end P i hlt
   have ul:=fun j=>upToM_le P i j hlt
   generalize hr:P.getD i []=r at *
   obtain ⟨a',cap',rfl,g1,g2,g3⟩:=hring
   unfold maxLen at g2
   rw [<-u0] at hown
   have U0:=hide u0
   have US:=hide us
   have UE:=hide ue
   have UL:=hide ul
   have HT:=hide hT
   clear h3 hc hr u0 us ue ul hT
   go_wp2_with fail
   go_loopw [3,6,7,8,17] (fun ev _ _ _ c w'=>∃ j:Nat,c = .int .i64 j/\j<=r.length/\w'.ownsRow w.heap.size 70 6 ev (upToM P i j).length (segCells (upToM P i j))/\Below w.heap.size w w') (fun _ _ _ _ c _=>r.length-(intOf c).toNat)
   case atStart=>exact ⟨0,rfl,Nat.zero_le _,hown,hbel⟩
   case round=>
    clear hown hbel hc'
    obtain ⟨j,rfl,hj,hown,hbel⟩:=hrel
    by_cases hjt:j<r.length
    ·obtain ⟨b',off',rfl,hb',hp'⟩:=g3 j hjt
     obtain ⟨px,py,pd⟩:=hp'.later hbel hb'
     obtain ⟨b2,off2,e2,_,hq0⟩:=g3 (if j+1=r.length then 0 else j+1) (by split <;> omega)
     simp at e2
     obtain ⟨rfl,rfl⟩:=e2
     have hq:=hq0.later hbel hb'
     have EA:=hide (show edgeAt r j=(r.getD j zP,r.getD (if j+1=r.length then 0 else j+1) zP) from rfl)
     generalize r.getD j zP=p at *
     by_cases hlast:j+1=r.length
     ·rw [if_pos hlast] at hq EA
      generalize r.getD 0 zP=q at *
      obtain ⟨qx,qy,qd⟩:=hq
      clear g3 hp' hq0
      have e1:((j:Int)+1 == (r.length:Int))=true:=by simp;omega
      simp only [Nat.zero_mul,Nat.add_zero] at qx qy qd
      have hne1:u3.ownBlock≠some wr.heap.size:=fun e=>by have:=(hown.lt _ e).2;omega
      have hne2:u3.ownBlock≠some b':=fun e=>by have:=(hown.lt _ e).1;omega
      have hbw:b'<wr.heap.size:=by have:=hbel.size;omega
      have hlen:=UL.out j hj
      have hT12:=HT.out
      have hn1:(upToM P i j).length+1<=maxLen:=by unfold maxLen;omega
      have hn2:((upToM P i j).length+1)*48<=140737488355328:=by omega
      have hpos:(0:Int)<(r.length:Int):=by omega
      have hposN:0<r.length:=by omega
      have hposM : ¬ r.length=0:=by omega
      have hposL : ¬ r=[]:=by intro e;rw [e] at hposN;simp at hposN
      go_wp2_with fail
      go_region_held3 (fun w'=>w'.cell? ⟨wr.heap.size,0,none⟩=some (.int .i64 p.x)/\w'.cell? ⟨wr.heap.size,1,none⟩=some (.int .i64 p.y)/\w'.cell? ⟨wr.heap.size,2,none⟩=some (.int .i64 p.d)/\
        w'.cell? ⟨b',off',none⟩=some (.int .i64 q.x)/\w'.cell? ⟨b',off'+1,none⟩=some (.int .i64 q.y)/\w'.cell? ⟨b',off'+2,none⟩=some (.int .i64 q.d))
       (first
        | go_keep
        |(go_split_ands
          refine ⟨?_,?_,?_,?_,?_,?_⟩
          ·(
           rw [hgrow.cell_far _ (by simp;omega) (Ne.symm hne1)];assumption)
          ·(
           rw [hgrow.cell_far _ (by simp;omega) (Ne.symm hne1)];assumption)
          ·(
           rw [hgrow.cell_far _ (by simp;omega) (Ne.symm hne1)];assumption)
          ·(
           rw [hgrow.cell_far _ (by simp;omega) (Ne.symm hne2)];assumption)
          ·(
           rw [hgrow.cell_far _ (by simp;omega) (Ne.symm hne2)];assumption)
          ·(
           rw [hgrow.cell_far _ (by simp;omega) (Ne.symm hne2)];assumption)))
       ((
        refine step_append_lies _ (by rfl) _ _ _ (by rfl) w.heap.size 70 i0 _ 6 48 Tryz.underlying107 hi0 hz0 hz1 hz2 rfl (by omega) u3 (upToM P i j).length (segCells (upToM P i j)) (by rfl) (((hown.alloc _).alloc _).drew) ⟨wr.heap.size+1,0,none⟩ 1 1 (segCell (p,q)) (by rfl) (by rfl) (World.news_of_block (cs:=#[.int .i64 p.x,.int .i64 p.y,.int .i64 p.d,.int .i64 q.x,.int .i64 q.y,.int .i64 q.d]) (t:=70) (fr:=(0,0)) (heap_new2 wr _ _)) (by simp [segCell,Value.oneCell']) (by omega) hn1 hn2 (by have:=hbel.size;simp;omega) (wr.heap.size+1+1) (by simp) ?_;intro gg cp w1 hown1 hgrow hat hlt1))
      have HO:Hid (w1.ownsRow w.heap.size 70 6 (.slice (some ⟨gg,0,none⟩) ((upToM P i j).length+1) cp) (upToM P i (j+1)).length (segCells (upToM P i (j+1)))):=by
       refine hide ?_
       have e:=US.out j hjt
       rw [EA.out] at e
       rw [e,segCells_snoc]
       simpa using hown1
      have B1:Below w.heap.size w w1:=by
       refine Below.grown (((hbel.alloc hbel.size _).alloc (by have:=hbel.size;simp;omega) _).drew) hgrow (by have:=hbel.size;simp;omega) (fun k hk=>(hown.lt k hk).1)
      clear hown hown1 hgrow px py pd qx qy qd hat
      go_wp2
      go_roundw
      case rel=>exact ⟨j+1,by go_num,by omega,HO,B1⟩
      case measure=>simp [intOf];omega
     ·rw [if_neg hlast] at hq EA
      generalize r.getD (j+1) zP=q at *
      obtain ⟨qx,qy,qd⟩:=hq
      clear g3 hp' hq0
      have e1:((j:Int)+1 == (r.length:Int))=false:=by simp;omega
      have e2:(j:Int)+1<(r.length:Int):=by omega
      have e3:(0:Int)<=(j:Int)+1:=by omega
      have hne1:u3.ownBlock≠some wr.heap.size:=fun e=>by have:=(hown.lt _ e).2;omega
      have hne2:u3.ownBlock≠some b':=fun e=>by have:=(hown.lt _ e).1;omega
      have hbw:b'<wr.heap.size:=by have:=hbel.size;omega
      have hlen:=UL.out j hj
      have hT12:=HT.out
      have hn1:(upToM P i j).length+1<=maxLen:=by unfold maxLen;omega
      have hn2:((upToM P i j).length+1)*48<=140737488355328:=by omega
      have hpos:(0:Int)<(r.length:Int):=by omega
      have hposN:0<r.length:=by omega
      have hposM : ¬ r.length=0:=by omega
      have hposL : ¬ r=[]:=by intro e;rw [e] at hposN;simp at hposN
      go_wp2_with fail
      go_region_held3 (fun w'=>w'.cell? ⟨wr.heap.size,0,none⟩=some (.int .i64 p.x)/\w'.cell? ⟨wr.heap.size,1,none⟩=some (.int .i64 p.y)/\w'.cell? ⟨wr.heap.size,2,none⟩=some (.int .i64 p.d)/\
        w'.cell? ⟨b',off'+(j+1)*3,none⟩=some (.int .i64 q.x)/\w'.cell? ⟨b',off'+(j+1)*3+1,none⟩=some (.int .i64 q.y)/\w'.cell? ⟨b',off'+(j+1)*3+2,none⟩=some (.int .i64 q.d))
       (first
        | go_keep
        |(go_split_ands
          refine ⟨?_,?_,?_,?_,?_,?_⟩
          ·(
           rw [hgrow.cell_far _ (by simp;omega) (Ne.symm hne1)];assumption)
          ·(
           rw [hgrow.cell_far _ (by simp;omega) (Ne.symm hne1)];assumption)
          ·(
           rw [hgrow.cell_far _ (by simp;omega) (Ne.symm hne1)];assumption)
          ·(
           rw [hgrow.cell_far _ (by simp;omega) (Ne.symm hne2)];assumption)
          ·(
           rw [hgrow.cell_far _ (by simp;omega) (Ne.symm hne2)];assumption)
          ·(
           rw [hgrow.cell_far _ (by simp;omega) (Ne.symm hne2)];assumption)))
       ((
        refine step_append_lies _ (by rfl) _ _ _ (by rfl) w.heap.size 70 i0 _ 6 48 Tryz.underlying107 hi0 hz0 hz1 hz2 rfl (by omega) u3 (upToM P i j).length (segCells (upToM P i j)) (by rfl) (((hown.alloc _).alloc _).drew) ⟨wr.heap.size+1,0,none⟩ 1 1 (segCell (p,q)) (by rfl) (by rfl) (World.news_of_block (cs:=#[.int .i64 p.x,.int .i64 p.y,.int .i64 p.d,.int .i64 q.x,.int .i64 q.y,.int .i64 q.d]) (t:=70) (fr:=(0,0)) (heap_new2 wr _ _)) (by simp [segCell,Value.oneCell']) (by omega) hn1 hn2 (by have:=hbel.size;simp;omega) (wr.heap.size+1+1) (by simp) ?_;intro gg cp w1 hown1 hgrow hat hlt1))
      have HO:Hid (w1.ownsRow w.heap.size 70 6 (.slice (some ⟨gg,0,none⟩) ((upToM P i j).length+1) cp) (upToM P i (j+1)).length (segCells (upToM P i (j+1)))):=by
       refine hide ?_
       have e:=US.out j hjt
       rw [EA.out] at e
       rw [e,segCells_snoc]
       simpa using hown1
      have B1:Below w.heap.size w w1:=by
       refine Below.grown (((hbel.alloc hbel.size _).alloc (by have:=hbel.size;simp;omega) _).drew) hgrow (by have:=hbel.size;simp;omega) (fun k hk=>(hown.lt k hk).1)
      clear hown hown1 hgrow px py pd qx qy qd hat
      go_wp2
      go_roundw
      case rel=>exact ⟨j+1,by go_num,by omega,HO,B1⟩
      case measure=>simp [intOf];omega
    ·have ej:j=r.length:=by omega
     subst ej
     have HO:Hid (wr.ownsRow w.heap.size 70 6 u3 (edgesM (P.take (i+1))).length (segCells (edgesM (P.take (i+1))))):=by
      rw [UE.out] at hown;exact hown
     clear hown g3
     go_wp2
     go_roundw
     case rel=>exact ⟨i+1,by go_num,by omega,HO,hbel⟩
     case measure=>simp [intOf];omega
  ·have e:P.take i=P:=List.take_of_length_le (by omega)
   rw [e] at hown
   have HW:=hide hown
   clear h3 hown
   go_wp2
   go_ret
   exact ⟨_,rfl,HW.out,hbel⟩
end Go.Proofs.YtnkcbephceollabGreat
