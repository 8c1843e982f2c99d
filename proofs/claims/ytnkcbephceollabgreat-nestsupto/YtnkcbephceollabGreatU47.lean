import Derived.Test.YtnkcbephceollabGreatU46
namespace Go.Proofs.YtnkcbephceollabGreat
set_option linter.unusedSimpArgs false
set_option linter.unusedVariables false
set_option linter.unusedSectionVars false
theorem edges_one' (r:List Pt):edgesM [r]=ringEdges r:=by unfold edgesM;simp
theorem cross_place {p q a b:Pt}(hp:0<p.d)(hq:0<q.d)(ha:0<a.d)(hb:0<b.d)(hpq:befB p q=true)(ne:befB a b=true\/befB b a=true)(h:crossB p q a b=true):∃ X,Wi p q X/\onB X a b=true:=by
 unfold crossB at h
 rw [Bool.and_eq_true] at h
 obtain ⟨h1,h2⟩:=h
 obtain ⟨α,β,hα,hβ,e0⟩:∃ α β:Int,0<α/\0<β/\α*detM a b p+β*detM a b q=0:=by
  unfold apartB at h2
  simp only [Bool.or_eq_true,Bool.and_eq_true,decide_eq_true_eq] at h2
  rcases h2 with ⟨x,y⟩ | ⟨x,y⟩
  ·exact ⟨detM a b q,-detM a b p,y,by omega,by grind⟩
  ·exact ⟨-detM a b q,detM a b p,by omega,x,by grind⟩
 have hd:=cmb_pos hα hβ hp hq
 have bb:=bef_cmb hα hβ hpq
 have z0:detM a b (cmb α β p q)=0:=by rw [cmb_det];exact e0
 have zl:detM p q (cmb α β p q)=0:=by rw [cmb_det,det_first,det_last];simp
 have nz:∀ v,detM p q v≠0->detM p (cmb α β p q) v≠0:=fun v k e=>by
  rw [cmb_way] at e
  exact k ((sgn_sc hβ).2.2.1 e)
 have na:detM p q a≠0/\detM p q b≠0:=by
  unfold apartB at h1
  simp only [Bool.or_eq_true,Bool.and_eq_true,decide_eq_true_eq] at h1
  omega
 refine ⟨cmb α β p q,⟨hp,hq,hd,bb.1,bb.2,zl⟩,?_⟩
 rw [on_apart' hp hd ha hb (nz a na.1) (nz b na.2) ne z0,cmb_way,cmb_way,(apart_sc hβ _ _).1]
 exact h1
section
variable {A B:List (List Pt)}(sA:Sound A)(sB:Sound B)(op:Int)
include sA sB
theorem way_one {z:Nat×Nat}(hz:Rd (bordM op (piecesM A B)) z):Sd [wayR (bordM op (piecesM A B)) z]/\(∀ v∈[wayR (bordM op (piecesM A B)) z].flatten,v∈spotsM (edgesM A ++ edgesM B))/\∀ e∈edgesM [wayR (bordM op (piecesM A B)) z],e∈bordM op (piecesM A B):=by
 have h3:∀ y∈[z],Rd (bordM op (piecesM A B)) y:=fun y hy=>by rw [List.mem_singleton.1 hy];exact hz
 exact ⟨way_sd sA sB op h3,fun v hv=>way_mem sA sB op h3 hv,fun e he=>way_bord sA sB op h3 he⟩
theorem clear_way {z:Nat×Nat}(hz:Rd (bordM op (piecesM A B)) z){x:Pt×Pt}(hx:x∈prs A B):Clear [wayR (bordM op (piecesM A B)) z] x.1 x.2:=by
 obtain ⟨_,w2,w3⟩:=way_one sA sB op hz
 have qs:=qs_of sA sB
 obtain ⟨bx,dx1,dx2⟩:=prs_bef sA sB hx
 refine ⟨fun v hv b1 b2=>prs_none sA sB hx (w2 v hv) b1 b2,fun e he=>?_⟩
 have hb:=w3 e he
 obtain ⟨s1,s2,ne⟩:=bord_ends sA sB op hb
 cases k:crossB x.1 x.2 e.1 e.2
 ·rfl
 ·exfalso
  obtain ⟨X,wX,on⟩:=cross_place dx1 dx2 (qs.sd _ s1) (qs.sd _ s2) bx ne k
  have zero:e.1=x.1\/e.1=x.2:=by
   rcases bord_piece sA sB op hb with h | h
   ·left;rw [prs_uniq sA sB hx h wX on]
   ·right
    rw [on_sw' wX.d (qs.sd _ s2) (qs.sd _ s1)] at on
    have:=prs_uniq sA sB hx h wX on
    rw [<-this]
  unfold crossB apartB at k
  rcases zero with q | q
  ·rw [q,det_first] at k;simp at k
  ·rw [q,det_last] at k;simp at k
theorem qs_keep (keep:Pt->Bool):Qs ((spotsM (edgesM A ++ edgesM B)).filter keep) ((prs A B).filter (fun x=>keep x.1 && keep x.2)):=by
 have qs:=qs_of sA sB
 refine ⟨qs.nd.filter _,fun s hs=>qs.sd s (List.mem_filter.1 hs).1,fun x hx=>?_,fun x hx=>qs.bef x (List.mem_filter.1 hx).1,fun x hx y hy m w on=>qs.uniq x (List.mem_filter.1 hx).1 y (List.mem_filter.1 hy).1 m w on⟩
 obtain ⟨h1,h2⟩:=List.mem_filter.1 hx
 rw [Bool.and_eq_true] at h2
 obtain ⟨m1,m2⟩:=qs.mem x h1
 exact ⟨List.mem_filter.2 ⟨m1,h2.1⟩,List.mem_filter.2 ⟨m2,h2.2⟩⟩
theorem web_way {z:Nat×Nat}(hz:Rd (bordM op (piecesM A B)) z)(keep:Pt->Bool)(hk:∀ v∈[wayR (bordM op (piecesM A B)) z].flatten,keep v=true):Web ((spotsM (edgesM A ++ edgesM B)).filter keep) ((prs A B).filter (fun x=>keep x.1 && keep x.2)) [wayR (bordM op (piecesM A B)) z]:=by
 obtain ⟨w1,w2,w3⟩:=way_one sA sB op hz
 have qs:=qs_of sA sB
 refine ⟨w1,fun v hv=>List.mem_filter.2 ⟨w2 v hv,hk v hv⟩,fun x hx=>clear_way sA sB op hz (List.mem_filter.1 hx).1,fun e he m hm on off=>?_⟩
 obtain ⟨m1,m2⟩:=edge_ends he
 have k1:=hk _ m1
 have k2:=hk _ m2
 have key:∀ x∈prs A B,keep x.1=true->keep x.2=true->onB m x.1 x.2=true->Wi x.1 x.2 m:=fun x hx c1 c2 o=>by
  obtain ⟨bx,d1,d2⟩:=prs_bef sA sB hx
  obtain ⟨s1,s2⟩:=prs_spots sA sB hx
  obtain ⟨l,w⟩:=on_parts o
  unfold withB at w
  rw [(lo_hi bx).1,(lo_hi bx).2.1] at w
  simp only [Bool.and_eq_true,Bool.not_eq_true'] at w
  exact ⟨d1,d2,hm,(off _ (List.mem_filter.2 ⟨s1,c1⟩)).resolve_right (by rw [w.1];decide),(off _ (List.mem_filter.2 ⟨s2,c2⟩)).resolve_left (by rw [w.2];decide),l⟩
 obtain ⟨s1,s2,_⟩:=bord_ends sA sB op (w3 e he)
 rcases bord_piece sA sB op (w3 e he) with h | h
 ·exact ⟨e,List.mem_filter.2 ⟨h,by rw [k1,k2];rfl⟩,key e h k1 k2 on⟩
 ·exact ⟨(e.2,e.1),List.mem_filter.2 ⟨h,by rw [k1,k2];rfl⟩,key (e.2,e.1) h k2 k1 (by rw [on_sw' hm (qs.sd _ s1) (qs.sd _ s2)];exact on)⟩
theorem along_way {z:Nat×Nat}(hz:Rd (bordM op (piecesM A B)) z){x:Pt×Pt}(hx:x∈prs A B){e:Pt×Pt}(he:e∈edgesM [wayR (bordM op (piecesM A B)) z])(al:alongE x.1 x.2 e.1 e.2=true):e=x\/(e.2,e.1)=x:=by
 obtain ⟨w1,w2,w3⟩:=way_one sA sB op hz
 have qs:=qs_of sA sB
 have hb:=w3 e he
 obtain ⟨s1,s2,ne⟩:=bord_ends sA sB op hb
 obtain ⟨bx,d1,d2⟩:=prs_bef sA sB hx
 have bc:=bef_cmb (D:=1) (P:=1) (by decide) (by decide) bx
 have wi:Wi x.1 x.2 (cmb 1 1 x.1 x.2):=⟨d1,d2,cmb_pos (by decide) (by decide) d1 d2,bc.1,bc.2,by rw [cmb_det,det_first,det_last];simp⟩
 have cl:=clear_way sA sB op hz hx
 obtain ⟨m1,m2⟩:=edge_ends he
 have on:onB (cmb 1 1 x.1 x.2) e.1 e.2=true:=by
  rw [<-on_x wi (qs.sd _ s1) (qs.sd _ s2) ne (cl.pt _ m1) (cl.pt _ m2) (cl.ed e he)];exact al
 rcases bord_piece sA sB op hb with h | h
 ·exact .inl (prs_uniq sA sB hx h wi on)
 ·right
  rw [on_sw' wi.d (qs.sd _ s2) (qs.sd _ s1)] at on
  exact prs_uniq sA sB hx h wi on
theorem sides_way {z:Nat×Nat}(hz:Rd (bordM op (piecesM A B)) z){x:Pt×Pt}(hx:x∈prs A B):parB (leftE x.1 x.2) (edgesM [wayR (bordM op (piecesM A B)) z])=parB (rightE x.1 x.2) (edgesM [wayR (bordM op (piecesM A B)) z])\/x∈edgesM [wayR (bordM op (piecesM A B)) z]\/(x.2,x.1)∈edgesM [wayR (bordM op (piecesM A B)) z]:=by
 obtain ⟨w1,w2,w3⟩:=way_one sA sB op hz
 have pd:=(prs_bef sA sB hx).2.1
 have e1:parB (rightE x.1 x.2) (edgesM [wayR (bordM op (piecesM A B)) z])=(parB (leftE x.1 x.2) (edgesM [wayR (bordM op (piecesM A B)) z]) ^^ parB (alongE x.1 x.2) (edgesM [wayR (bordM op (piecesM A B)) z])):=by
  rw [<-parB_xor]
  exact parB_congr fun e he=>by
   obtain ⟨m1,m2⟩:=edge_ends he
   exact rightE_eq (w1.pd _ m1) (w1.pd _ m2) pd (w1.ne e he)
 cases k:parB (alongE x.1 x.2) (edgesM [wayR (bordM op (piecesM A B)) z])
 ·left;rw [e1,k,Bool.xor_false]
 ·obtain ⟨e,he,al⟩:=par_some k
  rcases along_way sA sB op hz hx he al with q | q
  ·right;left;rw [<-q];exact he
  ·right;right;rw [<-q];exact he
theorem sep_way {z y:Nat×Nat}(hz:Rd (bordM op (piecesM A B)) z)(hy:Rd (bordM op (piecesM A B)) y)(se:Sep (bordM op (piecesM A B)) z y){x:Pt×Pt}(h1:x∈edgesM [wayR (bordM op (piecesM A B)) z]\/(x.2,x.1)∈edgesM [wayR (bordM op (piecesM A B)) z])(h2:x∈edgesM [wayR (bordM op (piecesM A B)) y]\/(x.2,x.1)∈edgesM [wayR (bordM op (piecesM A B)) y]):False:=by
 have idx:∀ {u:Nat×Nat},Rd (bordM op (piecesM A B)) u->∀ {e:Pt×Pt},e∈edgesM [wayR (bordM op (piecesM A B)) u]->∃ a,e=edg (bordM op (piecesM A B)) (itN (nextsM (bordM op (piecesM A B))) u.1 a):=fun {u} hu {e} he=>by
  rw [edges_one',way_edges sA sB op hu] at he
  obtain ⟨i,hi,rfl⟩:=List.mem_map.1 he
  unfold idxR at hi
  obtain ⟨a,_,rfl⟩:=List.mem_map.1 hi
  exact ⟨a,rfl⟩
 have lt:∀ {u:Nat×Nat},Rd (bordM op (piecesM A B)) u->∀ a,itN (nextsM (bordM op (piecesM A B))) u.1 a<(bordM op (piecesM A B)).length:=fun hu a=>it_lt (nexts_pm sA sB op) hu.lt a
 have inj:∀ {i j:Nat},i<(bordM op (piecesM A B)).length->j<(bordM op (piecesM A B)).length->edg (bordM op (piecesM A B)) i=edg (bordM op (piecesM A B)) j->i=j:=fun {i j} hi hj e=>by
  have nd:=bord_nodup sA sB op
  unfold edg at e
  rw [List.getD_eq_getElem?_getD,List.getElem?_eq_getElem hi,List.getD_eq_getElem?_getD,List.getElem?_eq_getElem hj] at e
  have pw:=List.pairwise_iff_getElem.1 nd
  rcases Nat.lt_trichotomy i j with k | k | k
  ·exact absurd e (pw i j hi hj k)
  ·exact k
  ·exact absurd e.symm (pw j i hj hi k)
 have w3:=(way_one sA sB op hz).2.2
 have w3':=(way_one sA sB op hy).2.2
 rcases h1 with a | a <;> rcases h2 with b | b
 ·obtain ⟨i,ei⟩:=idx hz a
  obtain ⟨j,ej⟩:=idx hy b
  exact se i j (inj (lt hz i) (lt hy j) (ei.symm.trans ej))
 ·exact one_way sA sB op (w3 _ a) (w3' _ b)
 ·exact one_way sA sB op (w3' _ b) (w3 _ a)
 ·obtain ⟨i,ei⟩:=idx hz a
  obtain ⟨j,ej⟩:=idx hy b
  exact se i j (inj (lt hz i) (lt hy j) (ei.symm.trans ej))
theorem one_within {z y:Nat×Nat}(hz:Rd (bordM op (piecesM A B)) z)(hy:Rd (bordM op (piecesM A B)) y)(se:Sep (bordM op (piecesM A B)) z y){q:Pt}(gq:goodB q=true)
  (o1:∀ e∈edgesM [wayR (bordM op (piecesM A B)) z],onB q e.1 e.2=false) (o2:∀ e∈edgesM [wayR (bordM op (piecesM A B)) y],onB q e.1 e.2=false)
  (i1:parB (overB q) (edgesM [wayR (bordM op (piecesM A B)) z])=true) (i2:parB (overB q) (edgesM [wayR (bordM op (piecesM A B)) y])=true) :
  ∃ x∈prs A B,((x∈edgesM [wayR (bordM op (piecesM A B)) z]\/(x.2,x.1)∈edgesM [wayR (bordM op (piecesM A B)) z])/\parB (leftE x.1 x.2) (edgesM [wayR (bordM op (piecesM A B)) y])=true)\/((x∈edgesM [wayR (bordM op (piecesM A B)) y]\/(x.2,x.1)∈edgesM [wayR (bordM op (piecesM A B)) y])/\parB (leftE x.1 x.2) (edgesM [wayR (bordM op (piecesM A B)) z])=true):=by
 have hG:=good_both sA sB
 have hq:=(gd_of_good gq).2
 have qs:=qs_of sA sB
 have hk:∀ {u:Nat×Nat},Rd (bordM op (piecesM A B)) u->(∀ e∈edgesM [wayR (bordM op (piecesM A B)) u],onB q e.1 e.2=false)->∀ v∈[wayR (bordM op (piecesM A B)) u].flatten,(befB v q || befB q v)=true:=fun {u} hu of v hv=>by
  obtain ⟨u1,u2,u3⟩:=way_one sA sB op hu
  cases k1:befB v q
  ·cases k2:befB q v
   ·exfalso
    obtain ⟨e,he,rfl⟩:=first_edge hv
    obtain ⟨m1,m2⟩:=edge_ends he
    have d1:=u1.pd _ m1
    have d2:=u1.pd _ m2
    have s:=same_on d1 hq d1 d2 k1 k2
    have t0:onB e.1 e.1 e.2=true:=on_first d1 d2 d1 (by unfold xv;omega) (by unfold yv;omega)
    rw [t0,of e he] at s
    cases s
   ·rfl
  ·rfl
 have wz:=web_way sA sB op hz (fun v=>befB v q || befB q v) (hk hz o1)
 have wy:=web_way sA sB op hy (fun v=>befB v q || befB q v) (hk hy o2)
 have qk:=qs_keep sA sB (fun v=>befB v q || befB q v)
 obtain ⟨o,od,far,gen⟩:=far_way (S:=(spotsM (edgesM A ++ edgesM B)).filter (fun v=>befB v q || befB q v)) (fun s hs=>((spots_spec hG).1.nc s (List.mem_filter.1 hs).1).1) gq (fun s hs=>by
  have:=(List.mem_filter.1 hs).2
  simpa using this)
 have T:=way_T qk od far wz wy (fun a b=>a && b) rfl _ q hq gen (Nat.le_refl _)
 have pz:=parity_up od hq wz.sd.pd (fun v hv=>far v (wz.pts v hv)) (fun v hv=>gen v (wz.pts v hv)) o1
 have py:=parity_up od hq wy.sd.pd (fun v hv=>far v (wy.pts v hv)) (fun v hv=>gen v (wy.pts v hv)) o2
 rw [pz,py,i1,i2] at T
 obtain ⟨x,hx,k⟩:=par_some (f:=fun p z'=>sidF (fun a b=>a && b) (edgesM [wayR (bordM op (piecesM A B)) z]) (edgesM [wayR (bordM op (piecesM A B)) y]) p z' && crossB o q p z') T
 rw [Bool.and_eq_true] at k
 have hx':=(List.mem_filter.1 hx).1
 refine ⟨x,hx',?_⟩
 have k1:=k.1
 unfold sidF at k1
 rcases sides_way sA sB op hz hx' with s1 | s1
 ·rcases sides_way sA sB op hy hx' with s2 | s2
  ·rw [<-s1,<-s2] at k1
   simp at k1
  ·right
   refine ⟨s2,?_⟩
   rw [<-s1] at k1
   cases c:parB (leftE x.1 x.2) (edgesM [wayR (bordM op (piecesM A B)) z])
   ·rw [c] at k1;simp at k1
   ·rfl
 ·rcases sides_way sA sB op hy hx' with s2 | s2
  ·left
   refine ⟨s1,?_⟩
   rw [<-s2] at k1
   cases c:parB (leftE x.1 x.2) (edgesM [wayR (bordM op (piecesM A B)) y])
   ·rw [c] at k1;simp at k1
   ·rfl
  ·exact (sep_way sA sB op hz hy se s1 s2).elim
end
def lsd (E:List (Pt×Pt))(e:Pt×Pt):Bool:=if befB e.1 e.2=true then parB (leftE e.1 e.2) E else parB (leftE e.2 e.1) E
def dirs (A B:List (List Pt))(v:Pt):List (Bool×Pt):=(RS A B v).map (fun z=>(true,z)) ++ (LS A B v).map (fun y=>(false,y))
def dirF (op:Int)(A B:List (List Pt))(v:Pt)(d:Bool×Pt):Sp:=if d.1=true then onSp op A B v d.2 else backSp op A B v d.2
def dirG (P:List (List Pt))(v:Pt)(d:Bool×Pt):Sp:=if d.1=true then (d.2,parB (leftE v d.2) (edgesM P),parB (rightE v d.2) (edgesM P)) else (ro d.2,parB (leftE (ro v) d.2) (edgesM (roL P)),parB (rightE (ro v) d.2) (edgesM (roL P)))
theorem cyc_dirs (op:Int)(A B:List (List Pt))(v:Pt):Cyc op A B v=(dirs A B v).map (dirF op A B v):=by
 unfold Cyc dirs
 rw [List.map_append,List.map_map,List.map_map];rfl
theorem lk_const {c:Bool}:∀ {l:List Sp} {e:Bool},(∀ x∈l,x.2.1=x.2.2)->Lk c l e->c=e
 | [],_,_,h=>h
 | x::l,e,hx,h=>by
  have h1:=h.1
  have:=lk_const (c:=x.2.2) (fun y hy=>hx y (List.mem_cons_of_mem _ hy)) h.2
  rw [<-h1,hx x List.mem_cons_self,this]
section
variable {A B:List (List Pt)}(sA:Sound A)(sB:Sound B)(op:Int)
include sA sB
theorem dirs_mem {v:Pt}{d:Bool×Pt}(h:d∈dirs A B v):(d.1=true/\(v,d.2)∈prs A B)\/(d.1=false/\(ro d.2,v)∈prs A B):=by
 unfold dirs at h
 rcases List.mem_append.1 h with h | h
 ·obtain ⟨z,hz,rfl⟩:=List.mem_map.1 h
  exact .inl ⟨rfl,RS_mem.1 hz⟩
 ·obtain ⟨y,hy,rfl⟩:=List.mem_map.1 h
  exact .inr ⟨rfl,LS_mem.1 hy⟩
theorem spot_end {x:Pt×Pt}(hx:x∈prs A B){v:Pt}(hm:v∈spotsM (edgesM A ++ edgesM B))(l:detM x.1 x.2 v=0)(b1:befB v x.1=false)(b2:befB x.2 v=false):v=x.1\/v=x.2:=by
 have hS:=(spots_spec (good_both sA sB)).1
 obtain ⟨m1,m2⟩:=prs_spots sA sB hx
 cases k1:befB x.1 v
 ·exact .inl (canon_eq (hS.nc v hm).2 (hS.nc _ m1).2 b1 k1)
 ·cases k2:befB v x.2
  ·exact .inr (canon_eq (hS.nc v hm).2 (hS.nc _ m2).2 k2 b2)
  ·exact absurd l (prs_none sA sB hx hm k1 k2)
theorem first_last {a b:Pt}(h:befB a b=true):(firstM a b=a/\lastM a b=b)/\firstM b a=a/\lastM b a=b:=by
 rw [first_eq,last_eq,first_eq,last_eq,h,bef_asym h];simp
section
variable {z:Nat×Nat}(hz:Rd (bordM op (piecesM A B)) z){v:Pt}(hv:0<v.d)(hm:v∈spotsM (edgesM A ++ edgesM B))
include hz hv hm
theorem chain_on:Ch (fun x=>parB (leftE v x) (edgesM [wayR (bordM op (piecesM A B)) z])) (fun x=>parB (rightE v x) (edgesM [wayR (bordM op (piecesM A B)) z])) (nab [wayR (bordM op (piecesM A B)) z] v) (RS A B v) (nab (roL [wayR (bordM op (piecesM A B)) z]) (ro v)):=by
 obtain ⟨w1,w2,w3⟩:=way_one sA sB op hz
 refine ch_end (chain w1 hv (fun s hs=>(prs_bef sA sB (RS_mem.1 hs)).1) (RS_sorted sA sB hv) fun e he ht=>?_) (join w1 hv)
 have hb:=w3 e he
 obtain ⟨x,hx,hf,hl⟩:∃ x∈prs A B,firstM e.1 e.2=x.1/\lastM e.1 e.2=x.2:=by
  rcases bord_piece sA sB op hb with h | h
  ·have:=first_last sA sB (prs_bef sA sB h).1
   exact ⟨e,h,this.1.1,this.1.2⟩
  ·have:=first_last sA sB (prs_bef sA sB h).1
   exact ⟨(e.2,e.1),h,this.2.1,this.2.2⟩
 unfold thruE spanM sideM at ht
 rw [hf,hl] at ht
 simp only [Bool.and_eq_true,Bool.not_eq_true',decide_eq_true_eq] at ht
 obtain ⟨⟨t1,t2⟩,t3⟩:=ht
 rw [cmpB] at t1
 have t2':befB v x.2=true:=by rw [<-cmpB];exact decide_eq_true t2
 have ev:v=x.1:=by
  rcases spot_end sA sB hx hm t3 t1 (bef_asym t2') with k | k
  ·exact k
  ·rw [k,bef_irr] at t2';cases t2'
 refine ⟨x.2,t2',?_,RS_mem.2 (by rw [ev];exact hx)⟩
 unfold sideM
 rw [hf,hl];exact det_last _ _
theorem chain_back:Ch (fun y=>parB (leftE (ro v) y) (edgesM (roL [wayR (bordM op (piecesM A B)) z]))) (fun y=>parB (rightE (ro v) y) (edgesM (roL [wayR (bordM op (piecesM A B)) z]))) (nab (roL [wayR (bordM op (piecesM A B)) z]) (ro v)) (LS A B v) (nab [wayR (bordM op (piecesM A B)) z] v):=by
 obtain ⟨w1,w2,w3⟩:=way_one sA sB op hz
 have j:=join w1.ro (v:=ro v) hv
 rw [roL_roL,ro_ro] at j
 refine ch_end (chain w1.ro (v:=ro v) hv (fun s hs=>?_) (LS_sorted sA sB hv) fun e he ht=>?_) j
 ·have:=(prs_bef sA sB (LS_mem.1 hs)).1
  rw [<-ro_bef,ro_ro] at this
  exact this
 ·rw [ro_edges] at he
  obtain ⟨e0,he0,rfl⟩:=List.mem_map.1 he
  obtain ⟨k1,k2⟩:=thru_ro w1 hv he0 ht
  have hb:=w3 e0 he0
  obtain ⟨x,hx,hf,hl⟩:∃ x∈prs A B,firstM e0.1 e0.2=x.1/\lastM e0.1 e0.2=x.2:=by
   rcases bord_piece sA sB op hb with h | h
   ·have:=first_last sA sB (prs_bef sA sB h).1
    exact ⟨e0,h,this.1.1,this.1.2⟩
   ·have:=first_last sA sB (prs_bef sA sB h).1
    exact ⟨(e0.2,e0.1),h,this.2.1,this.2.2⟩
  rw [hf] at k2
  unfold hasM sideM at k1
  rw [hf,hl] at k1
  simp only [Bool.and_eq_true,Bool.not_eq_true',decide_eq_true_eq] at k1
  obtain ⟨t1,t2,t3⟩:=k1
  rw [cmpB] at t1
  rw [cmpB'] at t2
  have ev:v=x.2:=by
   rcases spot_end sA sB hx hm t3 t1 t2 with k | k
   ·rw [k,bef_irr] at k2;cases k2
   ·exact k
  refine ⟨ro x.1,by rw [ro_bef];exact k2,?_,LS_mem.2 (by rw [ro_ro,ev];exact hx)⟩
  rw [side_ro (w1.ne e0 he0)]
  unfold sideM
  rw [hf,hl,det_first];rfl
theorem way_lk:∃ c,Lk c ((dirs A B v).map (dirG [wayR (bordM op (piecesM A B)) z] v)) c:=by
 refine ⟨nab [wayR (bordM op (piecesM A B)) z] v,?_⟩
 unfold dirs
 rw [List.map_append,List.map_map,List.map_map]
 refine lk_app.2 ⟨nab (roL [wayR (bordM op (piecesM A B)) z]) (ro v),?_,?_⟩
 ·exact lk_map (fun _=>rfl) (fun _=>rfl) (chain_on sA sB op hz hv hm)
 ·exact lk_map (fun _=>rfl) (fun _=>rfl) (chain_back sA sB op hz hv hm)
theorem dir_side {d:Bool×Pt}(hd:d∈dirs A B v)(h1:(v,(dirG [wayR (bordM op (piecesM A B)) z] v d).1) ∉ edgesM [wayR (bordM op (piecesM A B)) z])(h2:((dirG [wayR (bordM op (piecesM A B)) z] v d).1,v) ∉ edgesM [wayR (bordM op (piecesM A B)) z]) :
  (dirG [wayR (bordM op (piecesM A B)) z] v d).2.1=(dirG [wayR (bordM op (piecesM A B)) z] v d).2.2/\lsd (edgesM [wayR (bordM op (piecesM A B)) z]) (v,(dirG [wayR (bordM op (piecesM A B)) z] v d).1)=(dirG [wayR (bordM op (piecesM A B)) z] v d).2.1/\lsd (edgesM [wayR (bordM op (piecesM A B)) z]) ((dirG [wayR (bordM op (piecesM A B)) z] v d).1,v)=(dirG [wayR (bordM op (piecesM A B)) z] v d).2.1:=by
 obtain ⟨w1,w2,w3⟩:=way_one sA sB op hz
 obtain ⟨b,p⟩:=d
 rcases dirs_mem sA sB hd with ⟨e,hp⟩ | ⟨e,hp⟩
 ·simp only at e hp
  subst e
  have bb:=(prs_bef sA sB hp).1
  simp only at bb
  have eg:dirG [wayR (bordM op (piecesM A B)) z] v (true,p)=(p,parB (leftE v p) (edgesM [wayR (bordM op (piecesM A B)) z]),parB (rightE v p) (edgesM [wayR (bordM op (piecesM A B)) z])):=rfl
  rw [eg] at h1 h2 ⊢
  simp only at h1 h2 ⊢
  have ss:parB (leftE v p) (edgesM [wayR (bordM op (piecesM A B)) z])=parB (rightE v p) (edgesM [wayR (bordM op (piecesM A B)) z]):=by
   rcases sides_way sA sB op hz hp with k | k | k
   ·exact k
   ·exact absurd k h1
   ·exact absurd k h2
  refine ⟨ss,?_,?_⟩
  ·unfold lsd;rw [if_pos bb]
  ·unfold lsd;rw [if_neg (by rw [bef_asym bb];decide)]
 ·simp only at e hp
  subst e
  obtain ⟨bb,d1,d2⟩:=prs_bef sA sB hp
  simp only at bb d1 d2
  have eg:dirG [wayR (bordM op (piecesM A B)) z] v (false,p)=(ro p,parB (leftE (ro v) p) (edgesM (roL [wayR (bordM op (piecesM A B)) z])),parB (rightE (ro v) p) (edgesM (roL [wayR (bordM op (piecesM A B)) z]))):=rfl
  rw [eg] at h1 h2 ⊢
  simp only at h1 h2 ⊢
  have cl:=clear_way sA sB op hz hp
  have fl:=far_left w1 d1 d2 bb cl
  have fr:=far_right w1 d1 d2 bb cl
  rw [ro_ro] at fl fr
  have ss:parB (leftE (ro p) v) (edgesM [wayR (bordM op (piecesM A B)) z])=parB (rightE (ro p) v) (edgesM [wayR (bordM op (piecesM A B)) z]):=by
   rcases sides_way sA sB op hz hp with k | k | k
   ·exact k
   ·exact absurd k h2
   ·exact absurd k h1
  refine ⟨by rw [<-fl,<-fr,ss],?_,?_⟩
  ·unfold lsd
   rw [if_neg (by rw [bef_asym bb];decide)]
   rw [<-fr,<-ss]
  ·unfold lsd
   rw [if_pos bb,<-fr,<-ss]
end
theorem cyc_val {v:Pt}(hv:0<v.d){x:Sp}(hx:x∈Cyc op A B v)(h:x.2=(true,true)):(v,x.1) ∉ bordM op (piecesM A B)/\(x.1,v) ∉ bordM op (piecesM A B):=by
 have key:∀ y∈Cyc op A B v,y.1=x.1->y=x:=fun y hy e=>by
  rcases cyc_points hx with ⟨a,b⟩ | ⟨a,b⟩ <;> rcases cyc_points hy with ⟨c,d⟩ | ⟨c,d⟩
  ·rw [b,d,e]
  ·have k1:=(prs_bef sA sB (RS_mem.1 a)).1
   have k2:=(prs_bef sA sB (LS_mem.1 c)).1
   simp only [ro_ro] at k1 k2
   rw [e,bef_asym k1] at k2;cases k2
  ·have k1:=(prs_bef sA sB (LS_mem.1 a)).1
   have k2:=(prs_bef sA sB (RS_mem.1 c)).1
   simp only [ro_ro] at k1 k2
   rw [e,bef_asym k1] at k2;cases k2
  ·rw [b,d,e]
 constructor
 ·intro k
  have:=key _ ((begins_iff sA sB op).1 k) rfl
  rw [<-this] at h
  exact absurd h (by simp)
 ·intro k
  have:=key _ ((ends_iff sA sB op).1 k) rfl
  rw [<-this] at h
  exact absurd h (by simp)
theorem same_next {z y:Nat×Nat}(hz:Rd (bordM op (piecesM A B)) z)(hy:Rd (bordM op (piecesM A B)) y)(se:Sep (bordM op (piecesM A B)) z y)(a:Nat) :
  lsd (edgesM [wayR (bordM op (piecesM A B)) y]) (edg (bordM op (piecesM A B)) (itN (nextsM (bordM op (piecesM A B))) z.1 (a+1)))=lsd (edgesM [wayR (bordM op (piecesM A B)) y]) (edg (bordM op (piecesM A B)) (itN (nextsM (bordM op (piecesM A B))) z.1 a)):=by
 have lt:=it_lt (nexts_pm sA sB op) hz.lt
 have en:=way_end sA sB op hz.lt
 have me:=fun c=>edg_mem (lt c)
 have ee:∀ c,edg (bordM op (piecesM A B)) (itN (nextsM (bordM op (piecesM A B))) z.1 c)=(wayS (bordM op (piecesM A B)) z.1 c,wayS (bordM op (piecesM A B)) z.1 (c+1)):=fun c=>Prod.ext rfl (en c)
 have inz:∀ c,edg (bordM op (piecesM A B)) (itN (nextsM (bordM op (piecesM A B))) z.1 c)∈edgesM [wayR (bordM op (piecesM A B)) z]:=fun c=>by
  rw [edges_one',way_edges sA sB op hz]
  refine List.mem_map.2 ⟨itN (nextsM (bordM op (piecesM A B))) z.1 c,?_,rfl⟩
  unfold idxR
  exact List.mem_map.2 ⟨c % z.2,List.mem_range.2 (Nat.mod_lt _ (by have:=hz.one;omega)),it_mod sA sB op hz c⟩
 have noty:∀ c,edg (bordM op (piecesM A B)) (itN (nextsM (bordM op (piecesM A B))) z.1 c) ∉ edgesM [wayR (bordM op (piecesM A B)) y]/\((edg (bordM op (piecesM A B)) (itN (nextsM (bordM op (piecesM A B))) z.1 c)).2,(edg (bordM op (piecesM A B)) (itN (nextsM (bordM op (piecesM A B))) z.1 c)).1) ∉ edgesM [wayR (bordM op (piecesM A B)) y]:=fun c=>⟨fun k=>sep_way sA sB op hz hy se (.inl (inz c)) (.inl k),fun k=>sep_way sA sB op hz hy se (.inl (inz c)) (.inr k)⟩
 have m1:=me a
 have n1:=noty a
 have n2:=noty (a+1)
 obtain ⟨j0,nx0,ej0⟩:=fol_is sA sB op (lt a)
 have e2:edg (bordM op (piecesM A B)) (itN (nextsM (bordM op (piecesM A B))) z.1 (a+1))=((edg (bordM op (piecesM A B)) (itN (nextsM (bordM op (piecesM A B))) z.1 a)).2,j0):=by
  rw [<-ej0,itN,nexts_at _ _ (lt a)]
 rw [e2] at n2 ⊢
 generalize edg (bordM op (piecesM A B)) (itN (nextsM (bordM op (piecesM A B))) z.1 a)=e at *
 obtain ⟨p,v⟩:=e
 simp only at m1 n1 n2 nx0 ⊢
 obtain ⟨⟨hm,hv⟩,_,_⟩:=bord_spot sA sB op m1
 obtain ⟨pre,post,mid,j,rest,c1,c2,c3,c4,nx⟩:=from_end sA sB op m1
 have ej:j.1=j0:=nx.uniq nx0
 rw [cyc_dirs] at c1
 obtain ⟨dpre,t1,dd1,dd2,dd3⟩:=List.map_eq_append_iff.1 c1
 obtain ⟨d,dpost,dd4,dd5,dd6⟩:=List.map_eq_cons_iff.1 dd3
 subst dd4
 have c2':(dpost ++ dpre).map (dirF op A B v)=mid ++ j::rest:=by rw [List.map_append,dd6,dd2];exact c2
 obtain ⟨dmid,t2,ff1,ff2,ff3⟩:=List.map_eq_append_iff.1 c2'
 obtain ⟨dj,drest,ff4,ff5,ff6⟩:=List.map_eq_cons_iff.1 ff3
 subst ff4
 have memD:∀ u∈dpost ++ dpre,u∈dirs A B v:=fun u hu=>by
  rw [dd1]
  rcases List.mem_append.1 hu with k | k
  ·exact List.mem_append.2 (.inr (List.mem_cons_of_mem _ k))
  ·exact List.mem_append.2 (.inl k)
 have dD:d∈dirs A B v:=by rw [dd1];simp
 have djD:dj∈dirs A B v:=memD dj (by rw [ff1];simp)
 have dmD:∀ u∈dmid,u∈dirs A B v:=fun u hu=>memD u (by rw [ff1];simp [hu])
 have fg:∀ u:Bool×Pt,(dirG [wayR (bordM op (piecesM A B)) y] v u).1=(dirF op A B v u).1:=fun u=>by
  unfold dirG dirF
  cases u.1 <;> rfl
 have ed:(dirG [wayR (bordM op (piecesM A B)) y] v d).1=p:=by rw [fg,dd5]
 have edj:(dirG [wayR (bordM op (piecesM A B)) y] v dj).1=j0:=by rw [fg,ff5,ej]
 obtain ⟨w1,w2,w3⟩:=way_one sA sB op hy
 have sd:=dir_side sA sB op hy hv hm dD (by rw [ed];exact n1.2) (by rw [ed];exact n1.1)
 have sj:=dir_side sA sB op hy hv hm djD (by rw [edj];exact n2.1) (by rw [edj];exact n2.2)
 have sm:∀ u∈dmid,(dirG [wayR (bordM op (piecesM A B)) y] v u).2.1=(dirG [wayR (bordM op (piecesM A B)) y] v u).2.2:=fun u hu=>by
  have hF:dirF op A B v u∈mid:=by rw [<-ff2];exact List.mem_map.2 ⟨u,hu,rfl⟩
  have hC:dirF op A B v u∈Cyc op A B v:=by rw [cyc_dirs];exact List.mem_map.2 ⟨u,dmD u hu,rfl⟩
  have no:=cyc_val sA sB op hv hC (c3 _ hF)
  rw [<-fg] at no
  exact (dir_side sA sB op hy hv hm (dmD u hu) (fun k=>no.1 (w3 _ k)) (fun k=>no.2 (w3 _ k))).1
 obtain ⟨c,hc⟩:=way_lk sA sB op hy hv hm
 rw [dd1,List.map_append,List.map_cons] at hc
 have hr:=lk_rot hc
 rw [<-List.map_append,ff1,List.map_append,List.map_cons] at hr
 obtain ⟨m,l1,l2⟩:=lk_app.1 hr
 have cm:=lk_const (fun x hx=>by
  obtain ⟨u,hu,rfl⟩:=List.mem_map.1 hx
  exact sm u hu) l1
 have l2':(dirG [wayR (bordM op (piecesM A B)) y] v dj).2.1=m:=l2.1
 have a1:=sj.2.1
 have a2:=sd.2.2
 rw [edj] at a1
 rw [ed] at a2
 rw [a1,a2,l2',<-cm,<-sd.1]
theorem same_all {z y:Nat×Nat}(hz:Rd (bordM op (piecesM A B)) z)(hy:Rd (bordM op (piecesM A B)) y)(se:Sep (bordM op (piecesM A B)) z y):∀ a,lsd (edgesM [wayR (bordM op (piecesM A B)) y]) (edg (bordM op (piecesM A B)) (itN (nextsM (bordM op (piecesM A B))) z.1 a))=lsd (edgesM [wayR (bordM op (piecesM A B)) y]) (edg (bordM op (piecesM A B)) z.1)
 | 0=>rfl
 | a+1=>(same_next sA sB op hz hy se a).trans (same_all hz hy se a)
end
end Go.Proofs.YtnkcbephceollabGreat
