import Derived.Test.YtnkcbephceollabGreatU26
namespace Go.Proofs.YtnkcbephceollabGreat
set_option linter.unusedSimpArgs false
set_option linter.unusedVariables false
def inM (op:Int)(a b:Bool):Bool:=
 if op=0 then a && b else if op=1 then a || b else if op=2 then a && !b else if op=3 then b && !a else a != b
def bordOf (op:Int)(x:Pc):List (Pt×Pt):=
 (if (inM op x.la x.lb && !inM op x.ra x.rb)=true then [(x.p,x.q)] else []) ++ (if (inM op x.ra x.rb && !inM op x.la x.lb)=true then [(x.q,x.p)] else [])
def bordM (op:Int)(l:List Pc):List (Pt×Pt):=l.flatMap (bordOf op)
theorem bord_take (op:Int)(l:List Pc)(i:Nat)(hi:i<l.length)(d:Pc):bordM op (l.take (i+1))=bordM op (l.take i) ++ bordOf op (l.getD i d):=by
 unfold bordM
 rw [List.take_succ_eq_append_getElem hi,List.flatMap_append,List.getD_eq_getElem?_getD,List.getElem?_eq_getElem hi]
 simp
theorem bordOf_len (op:Int)(x:Pc):(bordOf op x).length<=1:=by
 unfold bordOf
 cases inM op x.la x.lb <;> cases inM op x.ra x.rb <;> simp
theorem bord_len (op:Int):∀ l:List Pc,(bordM op l).length<=l.length
 | []=>by simp [bordM]
 | x::l=>by
  have:=bordOf_len op x
  have:=bord_len op l
  have e:bordM op (x::l)=bordOf op x ++ bordM op l:=by simp [bordM]
  rw [e,List.length_append,List.length_cons];omega
theorem bord_mem {op:Int}{l:List Pc}{e:Pt×Pt}(h:e∈bordM op l):∃ x∈l,e=(x.p,x.q)\/e=(x.q,x.p):=by
 unfold bordM at h
 obtain ⟨x,hx,h⟩:=List.mem_flatMap.1 h
 refine ⟨x,hx,?_⟩
 unfold bordOf at h
 rcases List.mem_append.1 h with h | h
 ·split at h
  ·exact .inl (List.mem_singleton.1 h)
  ·simp at h
 ·split at h
  ·exact .inr (List.mem_singleton.1 h)
  ·simp at h
def aheadM (p q:Pt)(e:Pt×Pt):Bool:=
 if decide (detM e.2 e.1 p<0) != decide (detM e.2 e.1 q<0) then decide (detM e.2 e.1 p<0) else decide (detM e.2 p q<0)
abbrev edg (L:List (Pt×Pt))(k:Nat):Pt×Pt:=L.getD k (zP,zP)
def folM (L:List (Pt×Pt))(i:Nat):Nat->Nat
 | 0=>i
 | k+1=>if cmpM (edg L k).1 (edg L i).2≠0 then folM L i k else if folM L i k=i\/aheadM (edg L k).2 (edg L (folM L i k)).2 (edg L i)=true then k else folM L i k
theorem fol_lt {L:List (Pt×Pt)}{i:Nat}(hi:i<L.length):∀ k,k<=L.length->folM L i k<L.length
 | 0,_=>hi
 | k+1,h=>by
  have ih:=fol_lt hi k (by omega)
  unfold folM
  split
  ·exact ih
  ·split
   ·omega
   ·exact ih
def nextsM (L:List (Pt×Pt)):List Nat:=(List.range L.length).map (fun i=>folM L i L.length)
theorem nexts_len (L:List (Pt×Pt)):(nextsM L).length=L.length:=by simp [nextsM]
theorem nexts_at (L:List (Pt×Pt))(i:Nat)(hi:i<L.length):(nextsM L).getD i 0=folM L i L.length:=by
 unfold nextsM
 rw [List.getD_eq_getElem?_getD,List.getElem?_map,List.getElem?_range hi];rfl
theorem nexts_lt (L:List (Pt×Pt))(i:Nat)(hi:i<L.length):(nextsM L).getD i 0<L.length:=by
 rw [nexts_at L i hi];exact fol_lt hi _ (Nat.le_refl _)
def turnB (e f:Pt×Pt):Bool:=decide (detM e.1 e.2 f.2≠0)
def walkM (L:List (Pt×Pt))(N:List Nat):Nat->List Bool->Nat->List Pt×List Bool
 | 0,t,_=>([],t)
 | f+1,t,k=>if t.getD k false=true then ([],t) else ((if turnB (edg L k) (edg L (N.getD k 0))=true then [(edg L k).2] else []) ++ (walkM L N f (t.set k true) (N.getD k 0)).1,(walkM L N f (t.set k true) (N.getD k 0)).2)
def clM:List Pt->List Pt->Int
 | [],m=>-(m.length:Int)
 | _::l,[]=>(l.length:Int)+1
 | p::l,q::m=>if cmpM p q≠0 then cmpM p q else clM l m
def rotL (r:List Pt)(i:Nat):List Pt:=r.drop i ++ r.take i
def leastL (r:List Pt):Nat->List Pt
 | 0=>[]
 | i+1=>if i=0\/clM (rotL r i) (leastL r i)<0 then rotL r i else leastL r i
def placeL (R:List (List Pt))(r:List Pt):Nat->Nat
 | 0=>0
 | i+1=>if clM r (R.getD i [])<0 then placeL R r i else i+1
def insL (R:List (List Pt))(r:List Pt):List (List Pt):=R.take (placeL R r R.length) ++ r::R.drop (placeL R r R.length)
def stepR (L:List (Pt×Pt))(N:List Nat)(st:List (List Pt)×List Bool)(i:Nat):List (List Pt)×List Bool:=
 let w:=walkM L N (L.length+1) st.2 i
 (if w.1.length > 0 then insL st.1 (leastL w.1 w.1.length) else st.1,w.2)
def ringsN (L:List (Pt×Pt)):Nat->List (List Pt)×List Bool
 | 0=>([],List.replicate L.length false)
 | i+1=>stepR L (nextsM L) (ringsN L i) i
def ringsM (L:List (Pt×Pt)):List (List Pt):=(ringsN L L.length).1
def clipM (op:Int)(A B:List (List Pt)):List (List Pt)×Int:=
 if op<0\/op > 4 then ([],6) else if bothM A B≠0 then ([],bothM A B) else (ringsM (bordM op (piecesM A B)),0)
end Go.Proofs.YtnkcbephceollabGreat
namespace Go.Proofs.YtnkcbephceollabGreat
open Go.RowKit
set_option linter.unusedSimpArgs false
set_option linter.unusedVariables false
set_option maxHeartbeats 1000000 in
theorem isIn_any (op:Int)(a b:Bool)(w:World) :
  Calls Tryz.prog 116 #[.int .i64 op,.bool a,.bool b] w fun e w'=>e = .returned (.bool (inM op a b))/\w'=w:=by
 by_cases h0:op=0
 ·subst h0
  cases a <;> cases b <;>
   (go_enter Tryz.func116,Tryz.ntmps116
    go_wp2
    go_ret
    exact ⟨rfl,rfl⟩)
 by_cases h1:op=1
 ·subst h1
  cases a <;> cases b <;>
   (go_enter Tryz.func116,Tryz.ntmps116
    go_wp2
    go_ret
    exact ⟨rfl,rfl⟩)
 by_cases h2:op=2
 ·subst h2
  cases a <;> cases b <;>
   (go_enter Tryz.func116,Tryz.ntmps116
    go_wp2
    go_ret
    exact ⟨rfl,rfl⟩)
 by_cases h3:op=3
 ·subst h3
  cases a <;> cases b <;>
   (go_enter Tryz.func116,Tryz.ntmps116
    go_wp2
    go_ret
    exact ⟨rfl,rfl⟩)
 ·have H:Hid (inM op a b=(a != b)):=by unfold inM;rw [if_neg h0,if_neg h1,if_neg h2,if_neg h3];exact hide rfl
  go_enter Tryz.func116,Tryz.ntmps116
  go_wp2
  go_ret
  exact ⟨ret_bool H.out.symm,rfl⟩
set_option maxHeartbeats 1000000 in
theorem isMetAhead_any (p q:Pt)(e:Pt×Pt)(w:World)(hp:Gd p)(hq:Gd q)(h1:Gd e.1)(h2:Gd e.2) :
  Calls Tryz.prog 118 #[p.v,q.v,sg e.1 e.2] w fun r w'=>r = .returned (.bool (aheadM p q e))/\Below w.heap.size w w':=by
 have HA:=hide (show aheadM p q e=if decide (detM e.2 e.1 p<0) != decide (detM e.2 e.1 q<0) then decide (detM e.2 e.1 p<0) else decide (detM e.2 p q<0) from rfl)
 generalize aheadM p q e=res at *
 have C1:=fun wz=>Side_any e.2 e.1 p wz h2 h1 hp
 have C2:=fun wz=>Side_any e.2 e.1 q wz h2 h1 hq
 have C3:=fun wz=>Side_any e.2 p q wz h2 hp hq
 generalize detM e.2 e.1 p=sp at *
 generalize detM e.2 e.1 q=sq at *
 generalize detM e.2 p q=s3 at *
 go_enter Tryz.func118,Tryz.ntmps118
 go_wp2_with fail
 refine (C1 _).mono ?_
 rintro e' w1 ⟨rfl,k⟩
 have B1:=bvia (below3 _ _ _ _) k
 have P1:=(((Blk.new w _ _).alloc _).alloc _).call k
 have Q1:=((Blk.at (w.heap.size+1) (by simp)).alloc _).call k
 have E1:=(Blk.at (w.heap.size+1+1) (by simp)).call k
 obtain ⟨cp,fp,zp⟩:=id P1
 obtain ⟨cq,fq,zq⟩:=id Q1
 obtain ⟨ce,fe,ze⟩:=id E1
 clear k
 go_wp2_with fail
 refine (C2 _).mono ?_
 rintro e' w2 ⟨rfl,k⟩
 have B2:=bvia B1 k
 have P2:=P1.call k
 have Q2:=Q1.call k
 have E2:=E1.call k
 clear k cp fp zp cq fq zq ce fe ze P1 Q1 E1 B1
 obtain ⟨cp,fp,zp⟩:=id P2
 obtain ⟨cq,fq,zq⟩:=id Q2
 obtain ⟨ce,fe,ze⟩:=id E2
 obtain ⟨bp,hbp⟩:∃ x,x=decide (sp<0):=⟨_,rfl⟩
 obtain ⟨bq,hbq⟩:∃ x,x=decide (sq<0):=⟨_,rfl⟩
 rw [<-hbp,<-hbq] at HA
 cases bp <;> cases bq
 case' false.false=>have hs : ¬ sp<0:=by simpa using hbp.symm
 case' true.true=>have hs:sp<0:=by simpa using hbp.symm
 case' false.true=>have hs : ¬ sp<0:=by simpa using hbp.symm
 case' true.false=>have hs:sp<0:=by simpa using hbp.symm
 case' false.false=>have hq' : ¬ sq<0:=by simpa using hbq.symm
 case' true.true=>have hq':sq<0:=by simpa using hbq.symm
 case' false.true=>have hq':sq<0:=by simpa using hbq.symm
 case' true.false=>have hq' : ¬ sq<0:=by simpa using hbq.symm
 all_goals
  have d1:=hbp.symm
  have d2:=hbq.symm
  clear hbp hbq
 case false.false=>
  have HR:Hid (res=decide (s3<0)):=by rw [HA.out];simp [hide]
  go_wp2_with fail
  refine (C3 _).mono ?_
  rintro e' w3 ⟨rfl,k⟩
  have B3:=bvia B2 k
  clear k cp fp zp cq fq zq ce fe ze P2 Q2 E2 B2
  go_wp2
  go_ret
  exact ⟨ret_bool HR.out.symm,B3⟩
 case true.true=>
  have HR:Hid (res=decide (s3<0)):=by rw [HA.out];simp [hide]
  go_wp2_with fail
  refine (C3 _).mono ?_
  rintro e' w3 ⟨rfl,k⟩
  have B3:=bvia B2 k
  clear k cp fp zp cq fq zq ce fe ze P2 Q2 E2 B2
  go_wp2
  go_ret
  exact ⟨ret_bool HR.out.symm,B3⟩
 case false.true=>
  have HR:Hid (res=false):=by rw [HA.out];simp [hide]
  go_wp2
  go_ret
  exact ⟨ret_bool (by rw [HR.out]),B2⟩
 case true.false=>
  have HR:Hid (res=true):=by rw [HA.out];simp [hide]
  go_wp2
  go_ret
  exact ⟨ret_bool (by rw [HR.out]),B2⟩
set_option maxHeartbeats 1000000 in
theorem isTurn_any (e f:Pt×Pt)(w:World)(h1:Gd e.1)(h2:Gd e.2)(h3:Gd f.2) :
  Calls Tryz.prog 94 #[sg e.1 e.2,sg f.1 f.2] w fun r w'=>r = .returned (.bool (turnB e f))/\Below w.heap.size w w':=by
 have H:=hide (show turnB e f=(detM e.1 e.2 f.2 != 0) by unfold turnB;cases h:detM e.1 e.2 f.2 != 0 <;> simp_all)
 generalize turnB e f=res at *
 go_enter Tryz.func94,Tryz.ntmps94
 go_wp2_with fail
 refine (Side_any e.1 e.2 f.2 _ h1 h2 h3).mono ?_
 rintro e' w1 ⟨rfl,k⟩
 have B1:=bvia (below2 _ _ _) k
 clear k
 go_wp2
 go_ret
 exact ⟨ret_bool H.out.symm,B1⟩
theorem cl_drop (l m:List Pt)(k:Nat)(hl:k<l.length)(hm:k<m.length):clM (l.drop k) (m.drop k)=if cmpM (l.getD k zP) (m.getD k zP)≠0 then cmpM (l.getD k zP) (m.getD k zP) else clM (l.drop (k+1)) (m.drop (k+1)):=by
 rw [List.drop_eq_getElem_cons hl,List.drop_eq_getElem_cons hm,List.getD_eq_getElem?_getD,List.getElem?_eq_getElem hl,List.getD_eq_getElem?_getD,List.getElem?_eq_getElem hm];rfl
theorem cl_end (l m:List Pt)(k:Nat)(hl:k<=l.length)(hm:k<=m.length)(h:k=l.length\/k=m.length):clM (l.drop k) (m.drop k)=(l.length:Int)-m.length:=by
 rcases h with h | h
 ·have e:l.drop k=[]:=List.drop_of_length_le (by omega)
  rw [e];unfold clM
  rw [List.length_drop];omega
 ·have e:m.drop k=[]:=List.drop_of_length_le (by omega)
  rw [e]
  have hd:=List.length_drop (i:=k) (l:=l)
  cases c:l.drop k with
  | nil=>rw [c] at hd;simp at hd;unfold clM;simp;omega
  | cons p t=>rw [c] at hd;simp at hd;unfold clM;omega
set_option maxRecDepth 100000 in
set_option maxHeartbeats 2000000 in
theorem CompareLists_any (v v':Value)(l m:List Pt)(w:World)(hl:RingAt w v l)(hm:RingAt w v' m)(gl:∀ p∈l,Gd p)(gm:∀ p∈m,Gd p) :
  Calls Tryz.prog 120 #[v,v'] w fun e w'=>e = .returned (.int .i64 (clM l m))/\Below w.heap.size w w':=by
 obtain ⟨a,cap,rfl,a1,a2,a3⟩:=hl
 obtain ⟨b,bcap,rfl,b1,b2,b3⟩:=hm
 unfold maxLen at a2 b2
 have HA:=hide a3
 have HB:=hide b3
 have GL:=hide gl
 have GM:=hide gm
 clear a3 b3 gl gm
 have hl0:(l.length:Int)<=9223372036854775807:=by omega
 have hm0:(m.length:Int)<=9223372036854775807:=by omega
 have HI:Hid (clM l m=clM (l.drop 0) (m.drop 0)):=rfl
 generalize clM l m=res at *
 go_enter Tryz.func120,Tryz.ntmps120
 go_wp2_with fail
 go_loopw [5,6,7,10] (fun _ _ _ iv w'=>∃ k:Nat,iv = .int .i64 k/\k<=l.length/\k<=m.length/\Below w.heap.size w w'/\Hid (res=clM (l.drop k) (m.drop k))) (fun _ _ _ iv _=>l.length-(intOf iv).toNat)
 case atStart=>exact ⟨0,rfl,Nat.zero_le _,Nat.zero_le _,Below.refl _ _,HI⟩
 case round=>
  clear HI
  obtain ⟨k,rfl,hk,hk2,hbel,HR⟩:=hrel
  by_cases hlt:k<l.length
  ·obtain ⟨b1',off1,rfl,hb1,hs1⟩:=HA.out k hlt
   obtain ⟨px,py,pd⟩:=hs1.later hbel hb1
   by_cases hlt2:k<m.length
   ·obtain ⟨b2',off2,rfl,hb2,hs2⟩:=HB.out k hlt2
    obtain ⟨qx,qy,qd⟩:=hs2.later (hbel.alloc hbel.size (.cells #[.int .i64 (l.getD k zP).x,.int .i64 (l.getD k zP).y,.int .i64 (l.getD k zP).d] 31)) hb2
    have C:=fun wz=>Compare_any (l.getD k zP) (m.getD k zP) wz (GL.out _ (getD_mem hlt zP)) (GM.out _ (getD_mem hlt2 zP))
    have HC:=hide (cl_drop l m k hlt hlt2)
    generalize l.getD k zP=p at *
    generalize m.getD k zP=q at *
    have hk0:(0:Int)<=(k:Int):=Int.natCast_nonneg _
    have hk1:(k:Int)<(m.length:Int):=by omega
    have hsz:=hbel.size
    obtain ⟨W1,hW1⟩:∃ W,W=wr.alloc (.cells #[.int .i64 p.x,.int .i64 p.y,.int .i64 p.d] 31):=⟨_,rfl⟩
    obtain ⟨pb,hpb⟩:∃ b,b=wr.heap.size:=⟨_,rfl⟩
    have B1:Below w.heap.size w W1:=by rw [hW1];exact hbel.alloc hbel.size _
    obtain ⟨cp,fp,zp⟩:Blk W1 pb #[.int .i64 p.x,.int .i64 p.y,.int .i64 p.d]:=by rw [hW1,hpb];exact Blk.new wr _ _
    rw [<-hW1] at qx qy qd
    clear hs1 hs2 HA HB GL GM
    go_upto_region 5 with fail
    rw [<-hW1,<-hpb]
    clear hW1 hpb px py pd
    go_cut [7] (fun ov w'=>ov = .int .i64 (cmpM p q)/\Below W1.heap.size W1 w')
    case first=>
     clear HR HC
     go_region_with (go_at_call 117;refine (C _).mono ?_;rintro e' w2 ⟨rfl,k2⟩)
     all_goals
      go_wp2_with fail
      go_meet
      case rel=>exact ⟨rfl,bvia (Below.refl _ _).drew k2⟩
    case rest=>
     obtain ⟨rfl,k2⟩:=hcut
     have B2:=bvia B1 k2
     clear cp fp zp qx qy qd B1 k2 C
     generalize cmpM p q=o at *
     by_cases ho:o=0
     ·have HE:Hid (res=clM (l.drop (k+1)) (m.drop (k+1))):=by rw [HR.out,HC.out,if_neg (by simpa using ho)];exact hide rfl
      clear HR HC
      go_wp2
      go_roundw
      case rel=>exact ⟨k+1,by go_num,by omega,by omega,B2,HE⟩
      case measure=>simp [intOf];omega
     ·have HE:Hid (res=o):=by rw [HR.out,HC.out,if_pos ho];exact hide rfl
      have ho':(o != 0)=true:=by simpa using ho
      clear HR HC
      go_wp2
      go_ret
      exact ⟨ret_int HE.out.symm,B2⟩
   ·have ek:k=m.length:=by omega
    have HE:Hid (res=(l.length:Int)-m.length):=by rw [HR.out];exact hide (cl_end l m k hk hk2 (.inr ek))
    clear hs1 HA HB GL GM HR
    have hge:(m.length:Int)<=(k:Int):=by omega
    clear ek
    go_wp2
    go_ret
    exact ⟨ret_int HE.out.symm,by first | exact hbel | exact hbel.alloc hbel.size _⟩
  ·have HE:Hid (res=(l.length:Int)-m.length):=by rw [HR.out];exact hide (cl_end l m k hk hk2 (.inl (by omega)))
   clear HA HB GL GM HR
   go_wp2
   go_ret
   exact ⟨ret_int HE.out.symm,hbel⟩
end Go.Proofs.YtnkcbephceollabGreat
namespace Go.Proofs.YtnkcbephceollabGreat
set_option linter.unusedSimpArgs false
set_option linter.unusedVariables false
structure Sd (P:List (List Pt)):Prop where
 pd:∀ v∈P.flatten,0<v.d
 ne:∀ e∈edgesM P,befB e.1 e.2=true\/befB e.2 e.1=true
theorem Sound.sd {P:List (List Pt)}(h:Sound P):Sd P:=⟨fun v hv=>by have:=(h.gr v hv).d;omega,h.ne⟩
theorem side_l {P:List (List Pt)}{p q:Pt}(hS:Sd P)(pd:0<p.d)(qd:0<q.d)(hpq:befB p q=true)(hc:Clear P p q) :
  parB (leftE p q) (edgesM P)=parB (overB (midP p q)) (edgesM P):=by
 rw [<-along pd qd hpq hS.pd hc]
 exact parB_congr fun e he=>by
  obtain ⟨m1,m2⟩:=edge_ends he
  exact leftE_eq (hS.pd _ m1) (hS.pd _ m2) pd
def ro (p:Pt):Pt:=⟨-p.x,-p.y,p.d⟩
theorem ro_ro (p:Pt):ro (ro p)=p:=by unfold ro;simp
theorem ro_zero:ro zP=zP:=by simp [ro,zP]
theorem ro_det (a b c:Pt):detM (ro a) (ro b) (ro c)=detM a b c:=by unfold detM ro;grind
theorem ro_bef (p q:Pt):befB (ro p) (ro q)=befB q p:=by
 have e:befB (ro p) (ro q)=true↔befB q p=true:=by
  rw [bef_iff,bef_iff]
  unfold ro
  have e1 : -p.x*q.d = -(p.x*q.d):=by grind
  have e2 : -q.x*p.d = -(q.x*p.d):=by grind
  have e3 : -p.y*q.d = -(p.y*q.d):=by grind
  have e4 : -q.y*p.d = -(q.y*p.d):=by grind
  simp only [e1,e2,e3,e4]
  omega
 cases h:befB q p
 ·cases h2:befB (ro p) (ro q)
  ·rfl
  ·exact absurd (e.1 h2) (by rw [h];decide)
 ·exact e.2 h
def roL (P:List (List Pt)):List (List Pt):=P.map (List.map ro)
theorem ro_ring (r:List Pt):ringEdges (r.map ro)=(ringEdges r).map (fun e=>(ro e.1,ro e.2)):=by
 unfold ringEdges
 rw [List.map_map,List.length_map]
 refine List.map_congr_left fun j hj=>?_
 have hg:∀ i,(r.map ro).getD i zP=ro (r.getD i zP):=fun i=>by
  rw [List.getD_eq_getElem?_getD,List.getD_eq_getElem?_getD,List.getElem?_map]
  cases r[i]? with
  | none=>exact ro_zero.symm
  | some x=>rfl
 show edgeAt (r.map ro) j=(ro (edgeAt r j).1,ro (edgeAt r j).2)
 unfold edgeAt
 rw [List.length_map,hg,hg]
theorem ro_edges (P:List (List Pt)):edgesM (roL P)=(edgesM P).map (fun e=>(ro e.1,ro e.2)):=by
 unfold edgesM roL
 induction P with
 | nil=>rfl
 | cons r P ih=>simp only [List.map_cons,List.flatMap_cons,List.map_append,ih,ro_ring]
theorem ro_mem {P:List (List Pt)}{v:Pt}(h:v∈(roL P).flatten):∃ u∈P.flatten,v=ro u:=by
 obtain ⟨r,hr,hv⟩:=List.mem_flatten.1 h
 obtain ⟨s,hs,rfl⟩:=List.mem_map.1 hr
 obtain ⟨u,hu,rfl⟩:=List.mem_map.1 hv
 exact ⟨u,List.mem_flatten.2 ⟨s,hs,hu⟩,rfl⟩
theorem ro_mid (p q:Pt):midP (ro q) (ro p)=ro (midP p q):=by
 unfold midP ro
 simp only [Pt.mk.injEq]
 refine ⟨by grind,by grind,by grind⟩
theorem apart_comm (m n:Int):apartB m n=apartB n m:=by
 unfold apartB
 rw [Bool.eq_iff_iff]
 simp only [Bool.or_eq_true,Bool.and_eq_true,decide_eq_true_eq]
 omega
theorem det_back (p q v:Pt):detM q p v = -detM p q v:=by unfold detM;grind
theorem ro_cross (p q a b:Pt):crossB (ro q) (ro p) (ro a) (ro b)=crossB p q a b:=by
 unfold crossB
 rw [ro_det,ro_det,ro_det,ro_det,det_back p q a,det_back p q b,apart_neg,apart_comm (detM a b q)]
theorem ro_clear {P:List (List Pt)}{p q:Pt}(h:Clear P p q):Clear (roL P) (ro q) (ro p):=by
 refine ⟨fun v hv b1 b2=>?_,fun e he=>?_⟩
 ·obtain ⟨u,hu,rfl⟩:=ro_mem hv
  rw [ro_bef] at b1 b2
  rw [ro_det,det_back]
  have:=h.pt u hu b2 b1
  omega
 ·rw [ro_edges] at he
  obtain ⟨x,hx,rfl⟩:=List.mem_map.1 he
  rw [ro_cross];exact h.ed x hx
theorem lo_hi {a b:Pt}(h:befB a b=true):loM a b=a/\hiM a b=b/\loM b a=a/\hiM b a=b:=by
 have k:=bef_asym h
 unfold loM hiM
 rw [h,k];simp
theorem ro_on {m a b:Pt}(ne:befB a b=true\/befB b a=true):onB (ro m) (ro a) (ro b)=onB m a b:=by
 unfold onB withB
 rw [ro_det]
 rcases ne with h | h
 ·obtain ⟨e1,e2,_,_⟩:=lo_hi h
  obtain ⟨_,_,e3,e4⟩:=lo_hi (a:=ro b) (b:=ro a) (by rw [ro_bef];exact h)
  rw [e1,e2,e3,e4,ro_bef,ro_bef]
  cases befB m a <;> cases befB b m <;> rfl
 ·obtain ⟨_,_,e1,e2⟩:=lo_hi h
  obtain ⟨e3,e4,_,_⟩:=lo_hi (a:=ro a) (b:=ro b) (by rw [ro_bef];exact h)
  rw [e1,e2,e3,e4,ro_bef,ro_bef]
  cases befB m b <;> cases befB a m <;> rfl
theorem with_sp {m a b:Pt}(dm:0<m.d)(da:0<a.d)(db:0<b.d)(ne:befB a b=true\/befB b a=true)(ha:befB a m = !befB m a)(hb:befB b m = !befB m b):withB m a b=(befB m a ^^ befB m b):=by
 unfold withB
 rcases ne with h | h
 ·obtain ⟨e1,e2,_,_⟩:=lo_hi h
  have im:befB m a=true->befB m b=true:=fun k=>bef_le dm da db k (bef_asym h)
  rw [e1,e2,hb]
  cases k:befB m a <;> cases k2:befB m b
  ·rfl
  ·rfl
  ·rw [im k] at k2;cases k2
  ·rfl
 ·obtain ⟨_,_,e1,e2⟩:=lo_hi h
  have im:befB m b=true->befB m a=true:=fun k=>bef_le dm db da k (bef_asym h)
  rw [e1,e2,ha]
  cases k:befB m a <;> cases k2:befB m b
  ·rfl
  ·rw [im k2] at k;cases k
  ·rfl
  ·rfl
theorem above_below {m a b:Pt}(dm:0<m.d)(da:0<a.d)(db:0<b.d)(ne:befB a b=true\/befB b a=true)(ha:befB a m = !befB m a)(hb:befB b m = !befB m b):(overB m a b ^^ (overB (ro m) (ro a) (ro b) ^^ onB m a b))=(befB m a ^^ befB m b):=by
 unfold overB onB
 rw [ro_det,ro_bef,ro_bef,with_sp dm da db ne ha hb,ha,hb]
 rcases Int.lt_trichotomy (detM a b m) 0 with h | h | h
 ·have h1 : ¬ 0<detM a b m:=by omega
  have h2 : ¬ detM a b m=0:=by omega
  cases befB m a <;> cases befB m b <;> simp [h,h1,h2]
 ·cases befB m a <;> cases befB m b <;> simp [h]
 ·have h1 : ¬ detM a b m<0:=by omega
  have h2 : ¬ detM a b m=0:=by omega
  cases befB m a <;> cases befB m b <;> simp [h,h1,h2]
theorem far_left {P:List (List Pt)}{p q:Pt}(hS:Sd P)(pd:0<p.d)(qd:0<q.d)(hpq:befB p q=true)(hc:Clear P p q) :
  parB (leftE p q) (edgesM P)=parB (rightE (ro q) (ro p)) (edgesM (roL P)):=by
 have hd:=hS.pd
 have hm:=mid_pos pd qd
 obtain ⟨pm,mq⟩:=bef_pm pd qd hpq
 have hrd:∀ v∈(roL P).flatten,0<v.d:=fun v hv=>by
  obtain ⟨u,hu,rfl⟩:=ro_mem hv
  exact hd u hu
 have hrq:befB (ro q) (ro p)=true:=by rw [ro_bef];exact hpq
 have hrc:=ro_clear hc
 have hne:∀ v∈P.flatten,befB v (midP p q) = !befB (midP p q) v:=fun v hv=>by
  cases h:befB (midP p q) v
  ·cases h2:befB v (midP p q)
   ·exfalso
    refine hc.pt v hv (bef_le pd hm (hd v hv) pm h2) (le_bef (hd v hv) hm qd h mq) ?_
    have z:detM p q (midP p q)=0:=by rw [mid_det];unfold detM;grind
    have hx:xv (midP p q) v=0/\yv (midP p q) v=0:=by
     rw [bef_x] at h
     rw [bef_x'] at h2
     omega
    have e:(midP p q).d*detM p q v=v.d*detM p q (midP p q)+xv (midP p q) v*(-yv p q)+yv (midP p q) v*xv p q:=by unfold xv yv detM;grind
    rw [z,hx.1,hx.2] at e
    simp only [Int.mul_zero,Int.zero_mul,Int.add_zero] at e
    rcases Int.mul_eq_zero.1 e with c | c
    ·omega
    ·exact c
   ·rfl
  ·rw [bef_asym h];rfl
 have e1:=side_l hS pd qd hpq hc
 have e2:parB (rightE (ro q) (ro p)) (edgesM (roL P))=(parB (leftE (ro q) (ro p)) (edgesM (roL P)) ^^ parB (fun a b=>onB (midP (ro q) (ro p)) a b) (edgesM (roL P))):=by
  rw [<-parB_xor]
  refine parB_congr fun e he=>?_
  obtain ⟨m1,m2⟩:=edge_ends he
  have ne:befB e.1 e.2=true\/befB e.2 e.1=true:=by
   rw [ro_edges] at he
   obtain ⟨x,hx,rfl⟩:=List.mem_map.1 he
   rw [ro_bef,ro_bef]
   exact (hS.ne x hx).symm
  rw [rightE_eq (hrd _ m1) (hrd _ m2) (p:=ro q) qd ne,along_mid (p:=ro q) (q:=ro p) qd pd (hrd _ m1) (hrd _ m2) hrq ne (hrc.pt _ m1) (hrc.pt _ m2) (hrc.ed e he)]
 have e3:parB (leftE (ro q) (ro p)) (edgesM (roL P))=parB (overB (midP (ro q) (ro p))) (edgesM (roL P)):=by
  rw [<-along (p:=ro q) (q:=ro p) qd pd hrq hrd hrc]
  exact parB_congr fun e he=>by
   obtain ⟨m1,m2⟩:=edge_ends he
   exact leftE_eq (hrd _ m1) (hrd _ m2) (p:=ro q) qd
 rw [e1,e2,e3,ro_mid,ro_edges,parB_map,parB_map]
 have ev:=poly_even (fun v=>befB (midP p q) v) P
 have k:parB (fun a b=>overB (midP p q) a b ^^ (overB (ro (midP p q)) (ro a) (ro b) ^^ onB (midP p q) a b)) (edgesM P)=false:=by
  rw [<-ev]
  exact parB_congr fun e he=>by
   obtain ⟨m1,m2⟩:=edge_ends he
   exact above_below hm (hd _ m1) (hd _ m2) (hS.ne e he) (hne _ m1) (hne _ m2)
 rw [parB_xor (fun a b=>overB (midP p q) a b) (fun a b=>overB (ro (midP p q)) (ro a) (ro b) ^^ onB (midP p q) a b),parB_xor] at k
 have e4:parB (fun a b=>onB (ro (midP p q)) (ro a) (ro b)) (edgesM P)=parB (fun a b=>onB (midP p q) a b) (edgesM P):=parB_congr fun e he=>ro_on (hS.ne e he)
 rw [e4]
 revert k
 have e5:parB (fun a b=>overB (midP p q) a b) (edgesM P)=parB (overB (midP p q)) (edgesM P):=rfl
 rw [e5]
 cases parB (overB (midP p q)) (edgesM P) <;> cases parB (fun a b=>overB (ro (midP p q)) (ro a) (ro b)) (edgesM P) <;> cases parB (fun a b=>onB (midP p q) a b) (edgesM P) <;> simp
theorem det_xy (v a b:Pt):v.d*detM v a b=xv v a*yv v b-yv v a*xv v b:=by unfold detM xv yv;grind
def phi (K:Int)(v a:Pt):Int:=K*xv v a+yv v a
theorem phi_id (K:Int)(v a b c:Pt):(v.d*detM v a b)*phi K v c+(v.d*detM v b c)*phi K v a=(v.d*detM v a c)*phi K v b:=by
 rw [det_xy,det_xy,det_xy];unfold phi;grind
theorem phi_pos {K:Int}{v a:Pt}(h:befB v a=true)(h1 : -K<yv v a)(h2:yv v a<K):0<phi K v a:=by
 have k:0<xv v a\/(xv v a=0/\0<yv v a):=by
  cases c:befB v a
  ·rw [c] at h;cases h
  ·have:=(not_congr (bef_x v a)).1 (by rw [c];decide)
   omega
 unfold phi
 rcases k with k | ⟨k1,k2⟩
 ·have:K*1<=K*xv v a:=Int.mul_le_mul_of_nonneg_left (by omega) (by omega)
  omega
 ·rw [k1];omega
theorem hp_trans {v a b c:Pt}(hv:0<v.d)(ha:befB v a=true)(hb:befB v b=true)(hc:befB v c=true)(h1:detM v a b<=0)(h2:detM v b c<=0):detM v a c<=0/\((detM v a b<0\/detM v b c<0)->detM v a c<0):=by
 obtain ⟨K,k1,k2,k3,_⟩:=bnd7 (yv v a) (yv v b) (yv v c) 0 0 0 0
 have pa:=phi_pos ha k1.1 k1.2
 have pb:=phi_pos hb k2.1 k2.2
 have pc:=phi_pos hc k3.1 k3.2
 have e:=phi_id K v a b c
 have m1:v.d*detM v a b<=0:=Int.mul_nonpos_of_nonneg_of_nonpos (by omega) h1
 have m2:v.d*detM v b c<=0:=Int.mul_nonpos_of_nonneg_of_nonpos (by omega) h2
 have n1:(v.d*detM v a b)*phi K v c<=0:=Int.mul_nonpos_of_nonpos_of_nonneg m1 (by omega)
 have n2:(v.d*detM v b c)*phi K v a<=0:=Int.mul_nonpos_of_nonpos_of_nonneg m2 (by omega)
 have le:detM v a c<=0:=by
  apply Decidable.byContradiction
  intro k
  have:=mul_pp (mul_pp hv (show 0<detM v a c by omega)) pb
  omega
 refine ⟨le,fun k=>?_⟩
 apply Decidable.byContradiction
 intro q
 have z:detM v a c=0:=by omega
 rw [z,Int.mul_zero,Int.zero_mul] at e
 rcases k with k | k
 ·have:=mul_np (mul_pn hv k) pc
  omega
 ·have:=mul_np (mul_pn hv k) pa
  omega
theorem line_sign {f l v z x:Pt}(hf:0<f.d)(hv:0<v.d)(h1:detM f l v=0)(h2:detM f l z=0)(b1:befB f l=true)(b2:befB v z=true):(detM f l x<0↔detM v z x<0)/\(detM f l x=0↔detM v z x=0):=by
 obtain ⟨K,k1,k2,_⟩:=bnd7 (yv f l) (yv v z) 0 0 0 0 0
 have p1:=phi_pos b1 k1.1 k1.2
 have p2:=phi_pos b2 k2.1 k2.2
 have ey:yv f l*detM v z x=yv v z*detM f l x:=plk2 x h1 h2
 have ex:xv f l*detM v z x=xv v z*detM f l x:=by
  have:xv f l*detM v z x-xv v z*detM f l x=detM f l v*xv z x-detM f l z*xv v x:=by unfold xv detM;grind
  rw [h1,h2] at this
  omega
 have e:phi K f l*detM v z x=phi K v z*detM f l x:=by
  unfold phi
  have:(K*xv f l+yv f l)*detM v z x=K*(xv f l*detM v z x)+yv f l*detM v z x:=by grind
  rw [this,ex,ey];grind
 generalize detM v z x=s at *
 generalize detM f l x=t at *
 constructor
 ·constructor
  ·intro h
   apply Decidable.byContradiction
   intro k
   have:=mul_pn p2 h
   have:0<=phi K f l*s:=Int.mul_nonneg (by omega) (by omega)
   omega
  ·intro h
   apply Decidable.byContradiction
   intro k
   have:=mul_pn p1 h
   have:0<=phi K v z*t:=Int.mul_nonneg (by omega) (by omega)
   omega
 ·constructor
  ·intro h
   rw [h,Int.mul_zero] at e
   rcases Int.mul_eq_zero.1 e with c | c
   ·omega
   ·exact c
  ·intro h
   rw [h,Int.mul_zero] at e
   rcases Int.mul_eq_zero.1 e.symm with c | c
   ·omega
   ·exact c
theorem Sd.ro {P:List (List Pt)}(h:Sd P):Sd (roL P):=by
 refine ⟨fun v hv=>?_,fun e he=>?_⟩
 ·obtain ⟨u,hu,rfl⟩:=ro_mem hv
  exact h.pd u hu
 ·rw [ro_edges] at he
  obtain ⟨x,hx,rfl⟩:=List.mem_map.1 he
  rw [ro_bef,ro_bef];exact (h.ne x hx).symm
def aboveE (v a b:Pt):Bool:=spanM a b v && decide (sideM a b v<0)
def thruE (v a b:Pt):Bool:=spanM a b v && decide (sideM a b v=0)
def Spokes (P:List (List Pt))(v:Pt)(C:Pt->Prop):Prop:=∀ e∈edgesM P,thruE v e.1 e.2=true->∃ z,befB v z=true/\sideM e.1 e.2 z=0/\C z
section
variable {P:List (List Pt)}{v:Pt}(hS:Sd P)(hv:0<v.d)
include hS hv
theorem thru_sign {e:Pt×Pt}(he:e∈edgesM P)(h0:sideM e.1 e.2 v=0){z:Pt}(hz:befB v z=true)(z0:sideM e.1 e.2 z=0)(x:Pt):(sideM e.1 e.2 x<0↔detM v z x<0)/\(sideM e.1 e.2 x=0↔detM v z x=0):=by
 obtain ⟨m1,m2⟩:=edge_ends he
 have d1:=hS.pd _ m1
 have d2:=hS.pd _ m2
 have b:befB (firstM e.1 e.2) (lastM e.1 e.2)=true:=by
  rw [first_eq,last_eq]
  rcases hS.ne e he with h | h
  ·rw [h,bef_asym h];simpa using h
  ·rw [h,bef_asym h];simpa using h
 have df:0<(firstM e.1 e.2).d:=by unfold firstM;split <;> omega
 unfold sideM at *
 exact line_sign df hv h0 z0 b hz
theorem sec_right {x1 x2:Pt}(b1:befB v x1=true)(b2:befB v x2=true)(h:detM v x1 x2<0)(hC:Spokes P v (fun z=>¬ (detM v x1 z<0/\detM v z x2<0))):parB (rightE v x1) (edgesM P)=parB (leftE v x2) (edgesM P):=by
 refine parB_congr fun e he=>?_
 unfold rightE leftE sideOfM
 cases hs:spanM e.1 e.2 v
 ·rfl
 by_cases h0:sideM e.1 e.2 v=0
 ·obtain ⟨z,hz,z0,hn⟩:=hC e he (by unfold thruE;rw [hs,decide_eq_true h0];rfl)
  have s1:=thru_sign hS hv he h0 hz z0 x1
  have s2:=thru_sign hS hv he h0 hz z0 x2
  rw [if_neg (by simpa using h0),if_neg (by simpa using h0),Bool.true_and,Bool.true_and,decide_eq_decide]
  constructor
  ·intro k
   rw [s2.1]
   have k':detM v z x1<=0:=by
    rcases Int.lt_or_eq_of_le k with k | k
    ·have:=s1.1.1 k;omega
    ·have:=s1.2.1 k;omega
   exact (hp_trans hv hz b1 b2 k' (by omega)).2 (.inr h)
  ·intro k
   have k':=s2.1.1 k
   apply Decidable.byContradiction
   intro q
   refine hn ⟨?_,k'⟩
   have nz : ¬ detM v z x1<0:=fun c=>q (by have:=s1.1.2 c;omega)
   have nz2 : ¬ detM v z x1=0:=fun c=>q (by have:=s1.2.2 c;omega)
   have e:detM v x1 z = - detM v z x1:=by unfold detM;grind
   omega
 ·rw [if_pos h0,if_pos h0,Bool.true_and,Bool.true_and,decide_eq_decide];omega
theorem sec_top {x:Pt}(hC:Spokes P v (fun z=>¬ detM v z x<0)):parB (leftE v x) (edgesM P)=parB (aboveE v) (edgesM P):=by
 refine parB_congr fun e he=>?_
 unfold leftE aboveE sideOfM
 cases hs:spanM e.1 e.2 v
 ·rfl
 by_cases h0:sideM e.1 e.2 v=0
 ·obtain ⟨z,hz,z0,hn⟩:=hC e he (by unfold thruE;rw [hs,decide_eq_true h0];rfl)
  have s:=thru_sign hS hv he h0 hz z0 x
  rw [if_neg (by simpa using h0),Bool.true_and,Bool.true_and,decide_eq_decide,h0]
  constructor
  ·exact fun k=>absurd (s.1.1 k) hn
  ·intro k;omega
 ·rw [if_pos h0]
theorem sec_low {x:Pt}(hC:Spokes P v (fun z=>detM v z x<=0)):parB (rightE v x) (edgesM P)=(parB (aboveE v) (edgesM P) ^^ parB (thruE v) (edgesM P)):=by
 rw [<-parB_xor]
 refine parB_congr fun e he=>?_
 unfold rightE aboveE thruE sideOfM
 cases hs:spanM e.1 e.2 v
 ·rfl
 by_cases h0:sideM e.1 e.2 v=0
 ·obtain ⟨z,hz,z0,hn⟩:=hC e he (by unfold thruE;rw [hs,decide_eq_true h0];rfl)
  have s:=thru_sign hS hv he h0 hz z0 x
  rw [if_neg (by simpa using h0),h0]
  have:sideM e.1 e.2 x<=0:=by
   rcases Int.lt_or_eq_of_le hn with k | k
   ·have:=s.1.2 k;omega
   ·have:=s.2.2 k;omega
  simp [this]
 ·rw [if_pos h0]
  simp only [Bool.true_and,decide_eq_false h0,Bool.xor_false,decide_eq_decide]
  omega
end
end Go.Proofs.YtnkcbephceollabGreat
