import Derived.Test.YtnkcbephceollabGreatQ31
namespace Go.Proofs.YtnkcbephceollabGreat
open Go.RowKit
set_option linter.unusedSimpArgs false
set_option linter.unusedVariables false
theorem flat_few:∀ {P:List (List Pt)},P.flatten.length<=(edgesM P).length
 | []=>by simp
 | r::P=>by
  have ih:=flat_few (P:=P)
  have e:edgesM (r::P)=ringEdges r ++ edgesM P:=rfl
  have l:(ringEdges r).length=r.length:=by unfold ringEdges;simp
  rw [e,List.length_append,List.flatten_cons,List.length_append,l]
  omega
set_option maxHeartbeats 1000000 in
theorem rPieces_any (va vb:Value)(A B:List (List Pt))(w:World)(hA:PolyAt w va A)(hB:PolyAt w vb B)(sA:∀ i,i<A.length->(A.getD i []).length<=1048576)(sB:∀ i,i<B.length->(B.getD i []).length<=1048576) :
  Calls Tryz.prog 26 #[va,vb] w fun e w'=>∃ v',e = .returned (.tuple #[v',.int .i64 (bothM A B)])/\w'.ownsRow w.heap.size 55 10 v' (pcsM A B).length (pcCells (pcsM A B))/\Below w.heap.size w w':=by
 have CA:=hide (fun wz h=>rCheck_any va A wz h sA)
 have CB:=hide (fun wz h=>rCheck_any vb B wz h sB)
 clear sA sB
 by_cases h1:(checkM A).1=0
 ·have eb:bothM A B=(checkM B).1:=if_neg (by simpa using h1)
  by_cases h2:(checkM B).1=0
  ·have H:Hid (pcsM A B=rpiecesM A B):=by
    rw [pieces_eq (sound_of h1) (sound_of h2)]
    exact if_neg (by rw [eb,h2];simp)
   have C:=hide (fun wz (k1:PolyAt wz va A) (k2:PolyAt wz vb B)=>rpieces_any va vb A B wz k1 k2 (sound_of h1) (sound_of h2) (check_few h1) (check_few h2) (Nat.le_trans flat_few (check_few h1)) (Nat.le_trans flat_few (check_few h2)))
   rw [eb,h2]
   clear eb
   go_enter Tryz.func26,Tryz.ntmps26
   go_wp2_with fail
   refine (CA.out _ hA).mono ?_
   rintro e w1 ⟨rfl,k1⟩
   rw [h1]
   go_wp2_with fail
   refine (CB.out _ (hB.later k1)).mono ?_
   rintro e w2 ⟨rfl,k2⟩
   rw [h2]
   have k12:=bvia k1 k2
   go_wp2_with fail
   refine (C.out _ (hA.later k12) (hB.later k12)).mono ?_
   rintro e w3 ⟨v',rfl,o,k3⟩
   go_wp2
   go_ret2
   exact ⟨v',rfl,by rw [H.out];exact own_mono o k12.size,bvia k12 k3⟩
  ·have H:Hid (pcsM A B=[]):=if_pos (by rw [eb];exact h2)
   have h':((checkM B).1 != 0)=true:=by simpa using h2
   rw [eb]
   clear eb
   go_enter Tryz.func26,Tryz.ntmps26
   go_wp2_with fail
   refine (CA.out _ hA).mono ?_
   rintro e w1 ⟨rfl,k1⟩
   rw [h1]
   go_wp2_with fail
   refine (CB.out _ (hB.later k1)).mono ?_
   rintro e w2 ⟨rfl,k2⟩
   go_wp2
   go_ret2
   exact ⟨_,rfl,by rw [H.out];exact World.ownsRow_nil _ _ _ _,bvia k1 k2⟩
 ·have eb:bothM A B=(checkM A).1:=if_pos h1
  have H:Hid (pcsM A B=[]):=if_pos (by rw [eb];exact h1)
  have h':((checkM A).1 != 0)=true:=by simpa using h1
  rw [eb]
  clear eb
  go_enter Tryz.func26,Tryz.ntmps26
  go_wp2_with fail
  refine (CA.out _ hA).mono ?_
  rintro e w1 ⟨rfl,k1⟩
  go_wp2
  go_ret2
  exact ⟨_,rfl,by rw [H.out];exact World.ownsRow_nil _ _ _ _,k1⟩
end Go.Proofs.YtnkcbephceollabGreat
namespace Go.Proofs.YtnkcbephceollabGreat
set_option linter.unusedSimpArgs false
set_option linter.unusedVariables false
structure Sd (P:List (List Pt)):Prop where
 pd:∀ v∈P.flatten,0<v.d
 ne:∀ e∈edgesM P,befB e.1 e.2=true\/befB e.2 e.1=true
theorem Sound.sd {P:List (List Pt)}(h:Sound P):Sd P:=⟨fun v hv=>by have:=(h.gr v hv).d;omega,h.ne⟩
theorem side_l {P:List (List Pt)}{p q:Pt}(hS:Sd P)(pd:0<p.d)(qd:0<q.d)(hpq:befB p q=true)(hc:Clear P p q) :
  parB (leftE p q) (edgesM P)=parB (overB (midP p q)) (edgesM P):=by
 rw [<-along pd qd hpq hS.pd hc]
 exact parB_congr fun e he=>by
  obtain ⟨m1,m2⟩:=edge_ends he
  exact leftE_eq (hS.pd _ m1) (hS.pd _ m2) pd
def ro (p:Pt):Pt:=⟨-p.x,-p.y,p.d⟩
theorem ro_ro (p:Pt):ro (ro p)=p:=by unfold ro;simp
theorem ro_zero:ro zP=zP:=by simp [ro,zP]
theorem ro_det (a b c:Pt):detM (ro a) (ro b) (ro c)=detM a b c:=by unfold detM ro;grind
theorem ro_bef (p q:Pt):befB (ro p) (ro q)=befB q p:=by
 have e:befB (ro p) (ro q)=true↔befB q p=true:=by
  rw [bef_iff,bef_iff]
  unfold ro
  have e1 : -p.x*q.d = -(p.x*q.d):=by grind
  have e2 : -q.x*p.d = -(q.x*p.d):=by grind
  have e3 : -p.y*q.d = -(p.y*q.d):=by grind
  have e4 : -q.y*p.d = -(q.y*p.d):=by grind
  simp only [e1,e2,e3,e4]
  omega
 cases h:befB q p
 ·cases h2:befB (ro p) (ro q)
  ·rfl
  ·exact absurd (e.1 h2) (by rw [h];decide)
 ·exact e.2 h
def roL (P:List (List Pt)):List (List Pt):=P.map (List.map ro)
theorem ro_ring (r:List Pt):ringEdges (r.map ro)=(ringEdges r).map (fun e=>(ro e.1,ro e.2)):=by
 unfold ringEdges
 rw [List.map_map,List.length_map]
 refine List.map_congr_left fun j hj=>?_
 have hg:∀ i,(r.map ro).getD i zP=ro (r.getD i zP):=fun i=>by
  rw [List.getD_eq_getElem?_getD,List.getD_eq_getElem?_getD,List.getElem?_map]
  cases r[i]? with
  | none=>exact ro_zero.symm
  | some x=>rfl
 show edgeAt (r.map ro) j=(ro (edgeAt r j).1,ro (edgeAt r j).2)
 unfold edgeAt
 rw [List.length_map,hg,hg]
theorem ro_edges (P:List (List Pt)):edgesM (roL P)=(edgesM P).map (fun e=>(ro e.1,ro e.2)):=by
 unfold edgesM roL
 induction P with
 | nil=>rfl
 | cons r P ih=>simp only [List.map_cons,List.flatMap_cons,List.map_append,ih,ro_ring]
theorem ro_mem {P:List (List Pt)}{v:Pt}(h:v∈(roL P).flatten):∃ u∈P.flatten,v=ro u:=by
 obtain ⟨r,hr,hv⟩:=List.mem_flatten.1 h
 obtain ⟨s,hs,rfl⟩:=List.mem_map.1 hr
 obtain ⟨u,hu,rfl⟩:=List.mem_map.1 hv
 exact ⟨u,List.mem_flatten.2 ⟨s,hs,hu⟩,rfl⟩
theorem ro_mid (p q:Pt):midP (ro q) (ro p)=ro (midP p q):=by
 unfold midP ro
 simp only [Pt.mk.injEq]
 refine ⟨by grind,by grind,by grind⟩
theorem apart_comm (m n:Int):apartB m n=apartB n m:=by
 unfold apartB
 rw [Bool.eq_iff_iff]
 simp only [Bool.or_eq_true,Bool.and_eq_true,decide_eq_true_eq]
 omega
theorem det_back (p q v:Pt):detM q p v = -detM p q v:=by unfold detM;grind
theorem ro_cross (p q a b:Pt):crossB (ro q) (ro p) (ro a) (ro b)=crossB p q a b:=by
 unfold crossB
 rw [ro_det,ro_det,ro_det,ro_det,det_back p q a,det_back p q b,apart_neg,apart_comm (detM a b q)]
theorem ro_clear {P:List (List Pt)}{p q:Pt}(h:Clear P p q):Clear (roL P) (ro q) (ro p):=by
 refine ⟨fun v hv b1 b2=>?_,fun e he=>?_⟩
 ·obtain ⟨u,hu,rfl⟩:=ro_mem hv
  rw [ro_bef] at b1 b2
  rw [ro_det,det_back]
  have:=h.pt u hu b2 b1
  omega
 ·rw [ro_edges] at he
  obtain ⟨x,hx,rfl⟩:=List.mem_map.1 he
  rw [ro_cross];exact h.ed x hx
theorem lo_hi {a b:Pt}(h:befB a b=true):loM a b=a/\hiM a b=b/\loM b a=a/\hiM b a=b:=by
 have k:=bef_asym h
 unfold loM hiM
 rw [h,k];simp
theorem ro_on {m a b:Pt}(ne:befB a b=true\/befB b a=true):onB (ro m) (ro a) (ro b)=onB m a b:=by
 unfold onB withB
 rw [ro_det]
 rcases ne with h | h
 ·obtain ⟨e1,e2,_,_⟩:=lo_hi h
  obtain ⟨_,_,e3,e4⟩:=lo_hi (a:=ro b) (b:=ro a) (by rw [ro_bef];exact h)
  rw [e1,e2,e3,e4,ro_bef,ro_bef]
  cases befB m a <;> cases befB b m <;> rfl
 ·obtain ⟨_,_,e1,e2⟩:=lo_hi h
  obtain ⟨e3,e4,_,_⟩:=lo_hi (a:=ro a) (b:=ro b) (by rw [ro_bef];exact h)
  rw [e1,e2,e3,e4,ro_bef,ro_bef]
  cases befB m b <;> cases befB a m <;> rfl
theorem with_sp {m a b:Pt}(dm:0<m.d)(da:0<a.d)(db:0<b.d)(ne:befB a b=true\/befB b a=true)(ha:befB a m = !befB m a)(hb:befB b m = !befB m b):withB m a b=(befB m a ^^ befB m b):=by
 unfold withB
 rcases ne with h | h
 ·obtain ⟨e1,e2,_,_⟩:=lo_hi h
  have im:befB m a=true->befB m b=true:=fun k=>bef_le dm da db k (bef_asym h)
  rw [e1,e2,hb]
  cases k:befB m a <;> cases k2:befB m b
  ·rfl
  ·rfl
  ·rw [im k] at k2;cases k2
  ·rfl
 ·obtain ⟨_,_,e1,e2⟩:=lo_hi h
  have im:befB m b=true->befB m a=true:=fun k=>bef_le dm db da k (bef_asym h)
  rw [e1,e2,ha]
  cases k:befB m a <;> cases k2:befB m b
  ·rfl
  ·rw [im k2] at k;cases k
  ·rfl
  ·rfl
theorem above_below {m a b:Pt}(dm:0<m.d)(da:0<a.d)(db:0<b.d)(ne:befB a b=true\/befB b a=true)(ha:befB a m = !befB m a)(hb:befB b m = !befB m b):(overB m a b ^^ (overB (ro m) (ro a) (ro b) ^^ onB m a b))=(befB m a ^^ befB m b):=by
 unfold overB onB
 rw [ro_det,ro_bef,ro_bef,with_sp dm da db ne ha hb,ha,hb]
 rcases Int.lt_trichotomy (detM a b m) 0 with h | h | h
 ·have h1 : ¬ 0<detM a b m:=by omega
  have h2 : ¬ detM a b m=0:=by omega
  cases befB m a <;> cases befB m b <;> simp [h,h1,h2]
 ·cases befB m a <;> cases befB m b <;> simp [h]
 ·have h1 : ¬ detM a b m<0:=by omega
  have h2 : ¬ detM a b m=0:=by omega
  cases befB m a <;> cases befB m b <;> simp [h,h1,h2]
theorem far_left {P:List (List Pt)}{p q:Pt}(hS:Sd P)(pd:0<p.d)(qd:0<q.d)(hpq:befB p q=true)(hc:Clear P p q) :
  parB (leftE p q) (edgesM P)=parB (rightE (ro q) (ro p)) (edgesM (roL P)):=by
 have hd:=hS.pd
 have hm:=mid_pos pd qd
 obtain ⟨pm,mq⟩:=bef_pm pd qd hpq
 have hrd:∀ v∈(roL P).flatten,0<v.d:=fun v hv=>by
  obtain ⟨u,hu,rfl⟩:=ro_mem hv
  exact hd u hu
 have hrq:befB (ro q) (ro p)=true:=by rw [ro_bef];exact hpq
 have hrc:=ro_clear hc
 have hne:∀ v∈P.flatten,befB v (midP p q) = !befB (midP p q) v:=fun v hv=>by
  cases h:befB (midP p q) v
  ·cases h2:befB v (midP p q)
   ·exfalso
    refine hc.pt v hv (bef_le pd hm (hd v hv) pm h2) (le_bef (hd v hv) hm qd h mq) ?_
    have z:detM p q (midP p q)=0:=by rw [mid_det];unfold detM;grind
    have hx:xv (midP p q) v=0/\yv (midP p q) v=0:=by
     rw [bef_x] at h
     rw [bef_x'] at h2
     omega
    have e:(midP p q).d*detM p q v=v.d*detM p q (midP p q)+xv (midP p q) v*(-yv p q)+yv (midP p q) v*xv p q:=by unfold xv yv detM;grind
    rw [z,hx.1,hx.2] at e
    simp only [Int.mul_zero,Int.zero_mul,Int.add_zero] at e
    rcases Int.mul_eq_zero.1 e with c | c
    ·omega
    ·exact c
   ·rfl
  ·rw [bef_asym h];rfl
 have e1:=side_l hS pd qd hpq hc
 have e2:parB (rightE (ro q) (ro p)) (edgesM (roL P))=(parB (leftE (ro q) (ro p)) (edgesM (roL P)) ^^ parB (fun a b=>onB (midP (ro q) (ro p)) a b) (edgesM (roL P))):=by
  rw [<-parB_xor]
  refine parB_congr fun e he=>?_
  obtain ⟨m1,m2⟩:=edge_ends he
  have ne:befB e.1 e.2=true\/befB e.2 e.1=true:=by
   rw [ro_edges] at he
   obtain ⟨x,hx,rfl⟩:=List.mem_map.1 he
   rw [ro_bef,ro_bef]
   exact (hS.ne x hx).symm
  rw [rightE_eq (hrd _ m1) (hrd _ m2) (p:=ro q) qd ne,along_mid (p:=ro q) (q:=ro p) qd pd (hrd _ m1) (hrd _ m2) hrq ne (hrc.pt _ m1) (hrc.pt _ m2) (hrc.ed e he)]
 have e3:parB (leftE (ro q) (ro p)) (edgesM (roL P))=parB (overB (midP (ro q) (ro p))) (edgesM (roL P)):=by
  rw [<-along (p:=ro q) (q:=ro p) qd pd hrq hrd hrc]
  exact parB_congr fun e he=>by
   obtain ⟨m1,m2⟩:=edge_ends he
   exact leftE_eq (hrd _ m1) (hrd _ m2) (p:=ro q) qd
 rw [e1,e2,e3,ro_mid,ro_edges,parB_map,parB_map]
 have ev:=poly_even (fun v=>befB (midP p q) v) P
 have k:parB (fun a b=>overB (midP p q) a b ^^ (overB (ro (midP p q)) (ro a) (ro b) ^^ onB (midP p q) a b)) (edgesM P)=false:=by
  rw [<-ev]
  exact parB_congr fun e he=>by
   obtain ⟨m1,m2⟩:=edge_ends he
   exact above_below hm (hd _ m1) (hd _ m2) (hS.ne e he) (hne _ m1) (hne _ m2)
 rw [parB_xor (fun a b=>overB (midP p q) a b) (fun a b=>overB (ro (midP p q)) (ro a) (ro b) ^^ onB (midP p q) a b),parB_xor] at k
 have e4:parB (fun a b=>onB (ro (midP p q)) (ro a) (ro b)) (edgesM P)=parB (fun a b=>onB (midP p q) a b) (edgesM P):=parB_congr fun e he=>ro_on (hS.ne e he)
 rw [e4]
 revert k
 have e5:parB (fun a b=>overB (midP p q) a b) (edgesM P)=parB (overB (midP p q)) (edgesM P):=rfl
 rw [e5]
 cases parB (overB (midP p q)) (edgesM P) <;> cases parB (fun a b=>overB (ro (midP p q)) (ro a) (ro b)) (edgesM P) <;> cases parB (fun a b=>onB (midP p q) a b) (edgesM P) <;> simp
theorem det_xy (v a b:Pt):v.d*detM v a b=xv v a*yv v b-yv v a*xv v b:=by unfold detM xv yv;grind
def phi (K:Int)(v a:Pt):Int:=K*xv v a+yv v a
theorem phi_id (K:Int)(v a b c:Pt):(v.d*detM v a b)*phi K v c+(v.d*detM v b c)*phi K v a=(v.d*detM v a c)*phi K v b:=by
 rw [det_xy,det_xy,det_xy];unfold phi;grind
theorem phi_pos {K:Int}{v a:Pt}(h:befB v a=true)(h1 : -K<yv v a)(h2:yv v a<K):0<phi K v a:=by
 have k:0<xv v a\/(xv v a=0/\0<yv v a):=by
  cases c:befB v a
  ·rw [c] at h;cases h
  ·have:=(not_congr (bef_x v a)).1 (by rw [c];decide)
   omega
 unfold phi
 rcases k with k | ⟨k1,k2⟩
 ·have:K*1<=K*xv v a:=Int.mul_le_mul_of_nonneg_left (by omega) (by omega)
  omega
 ·rw [k1];omega
theorem hp_trans {v a b c:Pt}(hv:0<v.d)(ha:befB v a=true)(hb:befB v b=true)(hc:befB v c=true)(h1:detM v a b<=0)(h2:detM v b c<=0):detM v a c<=0/\((detM v a b<0\/detM v b c<0)->detM v a c<0):=by
 obtain ⟨K,k1,k2,k3,_⟩:=bnd7 (yv v a) (yv v b) (yv v c) 0 0 0 0
 have pa:=phi_pos ha k1.1 k1.2
 have pb:=phi_pos hb k2.1 k2.2
 have pc:=phi_pos hc k3.1 k3.2
 have e:=phi_id K v a b c
 have m1:v.d*detM v a b<=0:=Int.mul_nonpos_of_nonneg_of_nonpos (by omega) h1
 have m2:v.d*detM v b c<=0:=Int.mul_nonpos_of_nonneg_of_nonpos (by omega) h2
 have n1:(v.d*detM v a b)*phi K v c<=0:=Int.mul_nonpos_of_nonpos_of_nonneg m1 (by omega)
 have n2:(v.d*detM v b c)*phi K v a<=0:=Int.mul_nonpos_of_nonpos_of_nonneg m2 (by omega)
 have le:detM v a c<=0:=by
  apply Decidable.byContradiction
  intro k
  have:=mul_pp (mul_pp hv (show 0<detM v a c by omega)) pb
  omega
 refine ⟨le,fun k=>?_⟩
 apply Decidable.byContradiction
 intro q
 have z:detM v a c=0:=by omega
 rw [z,Int.mul_zero,Int.zero_mul] at e
 rcases k with k | k
 ·have:=mul_np (mul_pn hv k) pc
  omega
 ·have:=mul_np (mul_pn hv k) pa
  omega
theorem line_sign {f l v z x:Pt}(hf:0<f.d)(hv:0<v.d)(h1:detM f l v=0)(h2:detM f l z=0)(b1:befB f l=true)(b2:befB v z=true):(detM f l x<0↔detM v z x<0)/\(detM f l x=0↔detM v z x=0):=by
 obtain ⟨K,k1,k2,_⟩:=bnd7 (yv f l) (yv v z) 0 0 0 0 0
 have p1:=phi_pos b1 k1.1 k1.2
 have p2:=phi_pos b2 k2.1 k2.2
 have ey:yv f l*detM v z x=yv v z*detM f l x:=plk2 x h1 h2
 have ex:xv f l*detM v z x=xv v z*detM f l x:=by
  have:xv f l*detM v z x-xv v z*detM f l x=detM f l v*xv z x-detM f l z*xv v x:=by unfold xv detM;grind
  rw [h1,h2] at this
  omega
 have e:phi K f l*detM v z x=phi K v z*detM f l x:=by
  unfold phi
  have:(K*xv f l+yv f l)*detM v z x=K*(xv f l*detM v z x)+yv f l*detM v z x:=by grind
  rw [this,ex,ey];grind
 generalize detM v z x=s at *
 generalize detM f l x=t at *
 constructor
 ·constructor
  ·intro h
   apply Decidable.byContradiction
   intro k
   have:=mul_pn p2 h
   have:0<=phi K f l*s:=Int.mul_nonneg (by omega) (by omega)
   omega
  ·intro h
   apply Decidable.byContradiction
   intro k
   have:=mul_pn p1 h
   have:0<=phi K v z*t:=Int.mul_nonneg (by omega) (by omega)
   omega
 ·constructor
  ·intro h
   rw [h,Int.mul_zero] at e
   rcases Int.mul_eq_zero.1 e with c | c
   ·omega
   ·exact c
  ·intro h
   rw [h,Int.mul_zero] at e
   rcases Int.mul_eq_zero.1 e.symm with c | c
   ·omega
   ·exact c
theorem Sd.ro {P:List (List Pt)}(h:Sd P):Sd (roL P):=by
 refine ⟨fun v hv=>?_,fun e he=>?_⟩
 ·obtain ⟨u,hu,rfl⟩:=ro_mem hv
  exact h.pd u hu
 ·rw [ro_edges] at he
  obtain ⟨x,hx,rfl⟩:=List.mem_map.1 he
  rw [ro_bef,ro_bef];exact (h.ne x hx).symm
def aboveE (v a b:Pt):Bool:=spanM a b v && decide (sideM a b v<0)
def thruE (v a b:Pt):Bool:=spanM a b v && decide (sideM a b v=0)
def Spokes (P:List (List Pt))(v:Pt)(C:Pt->Prop):Prop:=∀ e∈edgesM P,thruE v e.1 e.2=true->∃ z,befB v z=true/\sideM e.1 e.2 z=0/\C z
section
variable {P:List (List Pt)}{v:Pt}(hS:Sd P)(hv:0<v.d)
include hS hv
theorem thru_sign {e:Pt×Pt}(he:e∈edgesM P)(h0:sideM e.1 e.2 v=0){z:Pt}(hz:befB v z=true)(z0:sideM e.1 e.2 z=0)(x:Pt):(sideM e.1 e.2 x<0↔detM v z x<0)/\(sideM e.1 e.2 x=0↔detM v z x=0):=by
 obtain ⟨m1,m2⟩:=edge_ends he
 have d1:=hS.pd _ m1
 have d2:=hS.pd _ m2
 have b:befB (firstM e.1 e.2) (lastM e.1 e.2)=true:=by
  rw [first_eq,last_eq]
  rcases hS.ne e he with h | h
  ·rw [h,bef_asym h];simpa using h
  ·rw [h,bef_asym h];simpa using h
 have df:0<(firstM e.1 e.2).d:=by unfold firstM;split <;> omega
 unfold sideM at *
 exact line_sign df hv h0 z0 b hz
theorem sec_right {x1 x2:Pt}(b1:befB v x1=true)(b2:befB v x2=true)(h:detM v x1 x2<0)(hC:Spokes P v (fun z=>¬ (detM v x1 z<0/\detM v z x2<0))):parB (rightE v x1) (edgesM P)=parB (leftE v x2) (edgesM P):=by
 refine parB_congr fun e he=>?_
 unfold rightE leftE sideOfM
 cases hs:spanM e.1 e.2 v
 ·rfl
 by_cases h0:sideM e.1 e.2 v=0
 ·obtain ⟨z,hz,z0,hn⟩:=hC e he (by unfold thruE;rw [hs,decide_eq_true h0];rfl)
  have s1:=thru_sign hS hv he h0 hz z0 x1
  have s2:=thru_sign hS hv he h0 hz z0 x2
  rw [if_neg (by simpa using h0),if_neg (by simpa using h0),Bool.true_and,Bool.true_and,decide_eq_decide]
  constructor
  ·intro k
   rw [s2.1]
   have k':detM v z x1<=0:=by
    rcases Int.lt_or_eq_of_le k with k | k
    ·have:=s1.1.1 k;omega
    ·have:=s1.2.1 k;omega
   exact (hp_trans hv hz b1 b2 k' (by omega)).2 (.inr h)
  ·intro k
   have k':=s2.1.1 k
   apply Decidable.byContradiction
   intro q
   refine hn ⟨?_,k'⟩
   have nz : ¬ detM v z x1<0:=fun c=>q (by have:=s1.1.2 c;omega)
   have nz2 : ¬ detM v z x1=0:=fun c=>q (by have:=s1.2.2 c;omega)
   have e:detM v x1 z = - detM v z x1:=by unfold detM;grind
   omega
 ·rw [if_pos h0,if_pos h0,Bool.true_and,Bool.true_and,decide_eq_decide];omega
theorem sec_top {x:Pt}(hC:Spokes P v (fun z=>¬ detM v z x<0)):parB (leftE v x) (edgesM P)=parB (aboveE v) (edgesM P):=by
 refine parB_congr fun e he=>?_
 unfold leftE aboveE sideOfM
 cases hs:spanM e.1 e.2 v
 ·rfl
 by_cases h0:sideM e.1 e.2 v=0
 ·obtain ⟨z,hz,z0,hn⟩:=hC e he (by unfold thruE;rw [hs,decide_eq_true h0];rfl)
  have s:=thru_sign hS hv he h0 hz z0 x
  rw [if_neg (by simpa using h0),Bool.true_and,Bool.true_and,decide_eq_decide,h0]
  constructor
  ·exact fun k=>absurd (s.1.1 k) hn
  ·intro k;omega
 ·rw [if_pos h0]
theorem sec_low {x:Pt}(hC:Spokes P v (fun z=>detM v z x<=0)):parB (rightE v x) (edgesM P)=(parB (aboveE v) (edgesM P) ^^ parB (thruE v) (edgesM P)):=by
 rw [<-parB_xor]
 refine parB_congr fun e he=>?_
 unfold rightE aboveE thruE sideOfM
 cases hs:spanM e.1 e.2 v
 ·rfl
 by_cases h0:sideM e.1 e.2 v=0
 ·obtain ⟨z,hz,z0,hn⟩:=hC e he (by unfold thruE;rw [hs,decide_eq_true h0];rfl)
  have s:=thru_sign hS hv he h0 hz z0 x
  rw [if_neg (by simpa using h0),h0]
  have:sideM e.1 e.2 x<=0:=by
   rcases Int.lt_or_eq_of_le hn with k | k
   ·have:=s.1.2 k;omega
   ·have:=s.2.2 k;omega
  simp [this]
 ·rw [if_pos h0]
  simp only [Bool.true_and,decide_eq_false h0,Bool.xor_false,decide_eq_decide]
  omega
end
theorem same_place {a b v:Pt}(ha:0<a.d)(h1:befB a v=false)(h2:befB v a=false):detM a b v=0:=by
 have hx:xv a v=0/\yv a v=0:=by
  rw [bef_x] at h1
  rw [bef_x'] at h2
  omega
 have e:=det_xy a b v
 rw [hx.1,hx.2] at e
 simp only [Int.mul_zero,Int.sub_zero] at e
 rcases Int.mul_eq_zero.1 e with c | c
 ·omega
 ·exact c
theorem not_bef {a b v:Pt}(ha:0<a.d)(h:detM a b v≠0):befB a v = !befB v a:=by
 cases k:befB v a
 ·cases k2:befB a v
  ·exact absurd (same_place ha k2 k) h
  ·rfl
 ·rw [bef_asym k];rfl
theorem above_thru {v a b:Pt}(hv:0<v.d)(da:0<a.d)(db:0<b.d)(ne:befB a b=true\/befB b a=true):(aboveE v a b ^^ (thruE v a b ^^ aboveE (ro v) (ro a) (ro b)))=(befB v a ^^ befB v b):=by
 have rne:befB (ro a) (ro b)=true\/befB (ro b) (ro a)=true:=by rw [ro_bef,ro_bef];exact ne.symm
 have sp:=span_bef da db hv (p:=v) ne
 have sr:=span_bef (a:=ro a) (b:=ro b) (p:=ro v) da db hv rne
 rw [ro_bef,ro_bef] at sr
 have side:sideM (ro a) (ro b) (ro v) = -sideM a b v:=by
  unfold sideM
  rw [first_eq,last_eq,first_eq,last_eq,ro_bef,ro_bef]
  rcases ne with h | h
  ·rw [h,bef_asym h]
   simp only [if_true,Bool.false_eq_true,if_false]
   rw [ro_det,det_back]
  ·rw [h,bef_asym h]
   simp only [if_true,Bool.false_eq_true,if_false]
   rw [ro_det,det_back]
 unfold aboveE thruE
 rw [sp,sr,side]
 have zd:=side_zero da db hv v ne
 rcases Int.lt_trichotomy (sideM a b v) 0 with h | h | h
 ·have nd:detM a b v≠0:=fun c=>by have:=zd.2 c;omega
  have nd2:detM b a v≠0:=by rw [det_back];omega
  rw [not_bef da nd,not_bef db nd2]
  have h1 : ¬ sideM a b v=0:=by omega
  have h2 : ¬ 0<sideM a b v:=by omega
  cases befB v a <;> cases befB v b <;> simp [h,h1,h2] <;> omega
 ·cases befB v a <;> cases befB v b <;> simp [h]
 ·have nd:detM a b v≠0:=fun c=>by have:=zd.2 c;omega
  have nd2:detM b a v≠0:=by rw [det_back];omega
  rw [not_bef da nd,not_bef db nd2]
  have h1 : ¬ sideM a b v=0:=by omega
  have h2 : ¬ sideM a b v<0:=by omega
  cases befB v a <;> cases befB v b <;> simp [h,h1,h2] <;> omega
theorem join {P:List (List Pt)}{v:Pt}(hS:Sd P)(hv:0<v.d):(parB (aboveE v) (edgesM P) ^^ parB (thruE v) (edgesM P))=parB (aboveE (ro v)) (edgesM (roL P)):=by
 have ev:=poly_even (fun u=>befB v u) P
 have k:parB (fun a b=>aboveE v a b ^^ (thruE v a b ^^ aboveE (ro v) (ro a) (ro b))) (edgesM P)=false:=by
  rw [<-ev]
  exact parB_congr fun e he=>by
   obtain ⟨m1,m2⟩:=edge_ends he
   exact above_thru hv (hS.pd _ m1) (hS.pd _ m2) (hS.ne e he)
 rw [parB_xor (fun a b=>aboveE v a b) (fun a b=>thruE v a b ^^ aboveE (ro v) (ro a) (ro b)),parB_xor] at k
 rw [ro_edges,parB_map]
 have e1:parB (fun a b=>aboveE v a b) (edgesM P)=parB (aboveE v) (edgesM P):=rfl
 have e2:parB (fun a b=>thruE v a b) (edgesM P)=parB (thruE v) (edgesM P):=rfl
 rw [e1,e2] at k
 revert k
 cases parB (aboveE v) (edgesM P) <;> cases parB (thruE v) (edgesM P) <;> cases parB (fun a b=>aboveE (ro v) (ro a) (ro b)) (edgesM P) <;> simp
def Ch (f g:Pt->Bool):Bool->List Pt->Bool->Prop
 | s,[],e=>s=e
 | s,x::l,e=>f x=s/\Ch f g (g x) l e
theorem par_none {f:Pt->Pt->Bool}:∀ {E:List (Pt×Pt)},(∀ e∈E,f e.1 e.2=false)->parB f E=false
 | [],_=>rfl
 | e::E,h=>by
  show (f e.1 e.2 ^^ parB f E)=false
  rw [h e List.mem_cons_self,par_none (E:=E) fun x hx=>h x (List.mem_cons_of_mem _ hx)];rfl
theorem chain {P:List (List Pt)}{v:Pt}(hS:Sd P)(hv:0<v.d){S:List Pt}(hb:∀ s∈S,befB v s=true)(hs:S.Pairwise (fun s t=>detM v s t<0))(hC:Spokes P v (fun z=>z∈S)) :
  Ch (fun x=>parB (leftE v x) (edgesM P)) (fun x=>parB (rightE v x) (edgesM P)) (parB (aboveE v) (edgesM P)) S (parB (aboveE v) (edgesM P) ^^ parB (thruE v) (edgesM P)):=by
 have anti:∀ a b:Pt,detM v a b = -detM v b a:=fun a b=>by unfold detM;grind
 have self:∀ a:Pt,detM v a a=0:=fun a=>by unfold detM;grind
 have tail:∀ (l pre:List Pt) (x:Pt),S=pre ++ x::l->Ch (fun x=>parB (leftE v x) (edgesM P)) (fun x=>parB (rightE v x) (edgesM P)) (parB (rightE v x) (edgesM P)) l (parB (aboveE v) (edgesM P) ^^ parB (thruE v) (edgesM P)):=by
  intro l
  induction l with
  | nil=>
   intro pre x e
   refine sec_low hS hv fun ed he ht=>?_
   obtain ⟨z,h1,h2,h3⟩:=hC ed he ht
   refine ⟨z,h1,h2,?_⟩
   rw [e] at h3 hs
   rcases List.mem_append.1 h3 with h | h
   ·have:=(List.pairwise_append.1 hs).2.2 z h x (by simp)
    omega
   ·have:z=x:=by simpa using h
    rw [this,self];omega
  | cons t l ih=>
   intro pre x e
   have e':S=(pre ++ [x]) ++ t::l:=by rw [e];simp
   refine ⟨?_,ih (pre ++ [x]) t e'⟩
   have hxt:detM v x t<0:=by
    rw [e] at hs
    have:=(List.pairwise_append.1 hs).2.1
    exact (List.pairwise_cons.1 this).1 t (by simp)
   refine (sec_right hS hv (hb x (by rw [e];simp)) (hb t (by rw [e];simp)) hxt fun ed he ht=>?_).symm
   obtain ⟨z,h1,h2,h3⟩:=hC ed he ht
   refine ⟨z,h1,h2,fun ⟨k1,k2⟩=>?_⟩
   rw [e] at h3 hs
   rcases List.mem_append.1 h3 with h | h
   ·have:=(List.pairwise_append.1 hs).2.2 z h x (by simp)
    have:=anti x z
    omega
   ·rcases List.mem_cons.1 h with h | h
    ·rw [h,self] at k1;omega
    ·rcases List.mem_cons.1 h with h | h
     ·rw [h,self] at k2;omega
     ·have q:=(List.pairwise_append.1 hs).2.1
      have q2:=(List.pairwise_cons.1 q).2
      have:=(List.pairwise_cons.1 q2).1 z h
      have:=anti z t
      omega
 cases S with
 | nil=>
  have:parB (thruE v) (edgesM P)=false:=par_none fun e he=>by
   cases k:thruE v e.1 e.2
   ·rfl
   ·obtain ⟨z,_,_,hz⟩:=hC e he k
    cases hz
  show parB (aboveE v) (edgesM P)=_
  rw [this,Bool.xor_false]
 | cons x l=>
  refine ⟨?_,tail l [] x rfl⟩
  refine sec_top hS hv fun ed he ht=>?_
  obtain ⟨z,h1,h2,h3⟩:=hC ed he ht
  refine ⟨z,h1,h2,?_⟩
  rcases List.mem_cons.1 h3 with h | h
  ·rw [h,self];omega
  ·have:=(List.pairwise_cons.1 hs).1 z h
   have:=anti z x
   omega
def insD (v x:Pt):List Pt->List Pt
 | []=>[x]
 | y::l=>if detM v x y<0 then x::y::l else y::insD v x l
def srtD (v:Pt):List Pt->List Pt
 | []=>[]
 | x::l=>insD v x (srtD v l)
theorem insD_mem {v x z:Pt}:∀ {l:List Pt},z∈insD v x l↔z=x\/z∈l
 | []=>by simp [insD]
 | y::l=>by
  unfold insD
  split
  ·simp
  ·rw [List.mem_cons,insD_mem,List.mem_cons]
   constructor
   ·rintro (h | h | h)
    ·exact .inr (.inl h)
    ·exact .inl h
    ·exact .inr (.inr h)
   ·rintro (h | h | h)
    ·exact .inr (.inl h)
    ·exact .inl h
    ·exact .inr (.inr h)
theorem srtD_mem {v z:Pt}:∀ {l:List Pt},z∈srtD v l↔z∈l
 | []=>by simp [srtD]
 | x::l=>by
  unfold srtD
  rw [insD_mem,srtD_mem,List.mem_cons]
theorem insD_sorted {v x:Pt}(hv:0<v.d)(hx:befB v x=true):∀ {l:List Pt},(∀ y∈l,befB v y=true)->(∀ y∈l,detM v x y≠0)->l.Pairwise (fun s t=>detM v s t<0)->(insD v x l).Pairwise (fun s t=>detM v s t<0)
 | [],_,_,_=>by simp [insD]
 | y::l,hl,hne,hs=>by
  have anti:detM v y x = -detM v x y:=by unfold detM;grind
  obtain ⟨h1,h2⟩:=List.pairwise_cons.1 hs
  unfold insD
  split
  ·rename_i k
   refine List.pairwise_cons.2 ⟨fun z hz=>?_,hs⟩
   rcases List.mem_cons.1 hz with h | h
   ·rw [h];exact k
   ·exact (hp_trans hv hx (hl y List.mem_cons_self) (hl z hz) (by omega) (by have:=h1 z h;omega)).2 (.inl k)
  ·rename_i k
   have n:=hne y List.mem_cons_self
   refine List.pairwise_cons.2 ⟨fun z hz=>?_,insD_sorted hv hx (fun z hz=>hl z (List.mem_cons_of_mem _ hz)) (fun z hz=>hne z (List.mem_cons_of_mem _ hz)) h2⟩
   rcases insD_mem.1 hz with h | h
   ·rw [h];omega
   ·exact h1 z h
theorem srtD_sorted {v:Pt}(hv:0<v.d):∀ {l:List Pt},(∀ y∈l,befB v y=true)->l.Pairwise (fun s t=>detM v s t≠0)->(srtD v l).Pairwise (fun s t=>detM v s t<0)
 | [],_,_=>by simp [srtD]
 | x::l,hl,hs=>by
  obtain ⟨h1,h2⟩:=List.pairwise_cons.1 hs
  unfold srtD
  refine insD_sorted hv (hl x List.mem_cons_self) (fun y hy=>hl y (List.mem_cons_of_mem _ (srtD_mem.1 hy))) (fun y hy=>h1 y (srtD_mem.1 hy)) (srtD_sorted hv (fun y hy=>hl y (List.mem_cons_of_mem _ hy)) h2)
theorem AL_on {f:Pt->Bool}:∀ {S:List Pt} {v u:Pt},Srt S->v∈S->f v=true->u∈S->befB v u=true->f u=true->∃ z,AL f S (v,z)
 | s::S,v,u,hs,hv,fv,hu,b,fu=>by
  obtain ⟨h1,h2⟩:=List.pairwise_cons.1 hs
  rcases List.mem_cons.1 hv with h | h
  ·subst h
   have hu':u∈S:=by
    rcases List.mem_cons.1 hu with h | h
    ·subst h;rw [bef_irr] at b;cases b
    ·exact h
   cases k:S.find? f with
   | none=>
    have:=List.find?_eq_none.1 k u hu'
    exact absurd fu (by simpa using this)
   | some z=>exact ⟨z,.inl ⟨fv,rfl,k⟩⟩
  ·have hu':u∈S:=by
    rcases List.mem_cons.1 hu with e | e
    ·subst e
     have:=h1 v h
     rw [bef_asym this] at b;cases b
    ·exact e
   obtain ⟨z,hz⟩:=AL_on h2 h fv hu' b fu
   exact ⟨z,.inr hz⟩
theorem AL_back {f:Pt->Bool}:∀ {S:List Pt} {v u:Pt},Srt S->v∈S->f v=true->u∈S->befB u v=true->f u=true->∃ z,AL f S (z,v)
 | s::S,v,u,hs,hv,fv,hu,b,fu=>by
  obtain ⟨h1,h2⟩:=List.pairwise_cons.1 hs
  have hv':v∈S:=by
   rcases List.mem_cons.1 hv with h | h
   ·subst h
    rcases List.mem_cons.1 hu with e | e
    ·subst e;rw [bef_irr] at b;cases b
    ·have:=h1 u e
     rw [bef_asym this] at b;cases b
   ·exact h
  by_cases q:∃ y∈S,befB y v=true/\f y=true
  ·obtain ⟨y,hy,yb,fy⟩:=q
   obtain ⟨z,hz⟩:=AL_back h2 hv' fv hy yb fy
   exact ⟨z,.inr hz⟩
  ·have hus:u=s:=by
    rcases List.mem_cons.1 hu with e | e
    ·exact e
    ·exact absurd ⟨u,e,b,fu⟩ q
   subst hus
   refine ⟨u,.inl ⟨fu,rfl,?_⟩⟩
   clear hu hv h1 hs
   revert h2 hv' q
   induction S with
   | nil=>intro _ h;cases h
   | cons t S ih=>
    intro hs hv q
    obtain ⟨k1,k2⟩:=List.pairwise_cons.1 hs
    by_cases e:f t=true
    ·rcases List.mem_cons.1 hv with h | h
     ·subst h;rw [List.find?_cons,e]
     ·exact absurd ⟨t,List.mem_cons_self,k1 v h,e⟩ q
    ·have e':f t=false:=by simpa using e
     rcases List.mem_cons.1 hv with h | h
     ·subst h;exact absurd fv e
     ·rw [List.find?_cons,e']
      exact ih k2 h (fun ⟨y,hy,p⟩=>q ⟨y,List.mem_cons_of_mem _ hy,p⟩)
end Go.Proofs.YtnkcbephceollabGreat
