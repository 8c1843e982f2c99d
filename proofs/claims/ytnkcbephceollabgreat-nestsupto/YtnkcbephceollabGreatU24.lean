import Derived.Test.YtnkcbephceollabGreatU23
import Derived.Deep.CutRange
namespace Go.Proofs.YtnkcbephceollabGreat
set_option linter.unusedVariables false
set_option linter.unusedSimpArgs false
set_option linter.unusedSectionVars false
structure Pc where
 p:Pt
 q:Pt
 la:Bool
 ra:Bool
 lb:Bool
 rb:Bool
def pcOf (EA EB:List (Pt×Pt))(x:Pt×Pt):Pc:=⟨x.1,x.2,parB (leftE x.1 x.2) EA,parB (rightE x.1 x.2) EA,parB (leftE x.1 x.2) EB,parB (rightE x.1 x.2) EB⟩
def piecesM (A B:List (List Pt)):List Pc:=(pairsL (edgesM A ++ edgesM B) (spotsM (edgesM A ++ edgesM B))).map (pcOf (edgesM A) (edgesM B))
def rpcOf (EA EB:List (Pt×Pt))(all:List Pt)(x:Pt×Pt):Pc:=⟨x.1,x.2,(rsidesM x.1 x.2 EA all).1,(rsidesM x.1 x.2 EA all).2,(rsidesM x.1 x.2 EB all).1,(rsidesM x.1 x.2 EB all).2⟩
def rpiecesM (A B:List (List Pt)):List Pc:=(rpairsM (edgesM A ++ edgesM B) (rspotsM (edgesM A ++ edgesM B))).map (rpcOf (edgesM A) (edgesM B) (A.flatten ++ B.flatten))
theorem ne_of_bef {u v:Pt}(h:befB u v=true\/befB v u=true):u≠v:=fun e=>by
 subst e;rw [bef_irr] at h;simp at h
theorem good_both {A B:List (List Pt)}(hA:Sound A)(hB:Sound B):Good (edgesM A ++ edgesM B):=by
 refine ⟨fun e he=>?_,fun e he=>?_,fun e he=>?_⟩
 ·rcases List.mem_append.1 he with he | he
  ·exact ⟨hA.gr _ (edge_ends he).1,hA.gr _ (edge_ends he).2⟩
  ·exact ⟨hB.gr _ (edge_ends he).1,hB.gr _ (edge_ends he).2⟩
 ·rcases List.mem_append.1 he with he | he
  ·exact ne_of_bef (hA.ne e he)
  ·exact ne_of_bef (hB.ne e he)
 ·rcases List.mem_append.1 he with he | he
  ·obtain ⟨e',h1,h2⟩:=edge_second A e he
   exact ⟨e',List.mem_append.2 (.inl h1),h2⟩
  ·obtain ⟨e',h1,h2⟩:=edge_second B e he
   exact ⟨e',List.mem_append.2 (.inr h1),h2⟩
theorem end_spot {E:List (Pt×Pt)}(h:Good E){e:Pt×Pt}(he:e∈E):e.1∈spotsM E:=by
 obtain ⟨_,m⟩:=spots_spec h
 rw [<-spots_eq h]
 obtain ⟨_,m2⟩:=rspots_spec h
 obtain ⟨i,hi,ei⟩:=List.mem_iff_getElem.1 he
 refine (m2 _).2 ⟨i,hi,.inl ?_⟩
 rw [List.getD_eq_getElem?_getD,List.getElem?_eq_getElem hi]
 show e.1=(E[i]).1
 rw [ei]
theorem bef_or {u v:Pt}(hu:u.d=1)(hv:v.d=1)(h:u≠v):befB u v=true\/befB v u=true:=by
 rcases L_tri hu hv with t | t | t
 ·exact .inl ((bef_L hu hv).2 t)
 ·exact absurd t h
 ·exact .inr ((bef_L hv hu).2 t)
theorem piece_clear {E:List (Pt×Pt)}(h:Good E){x:Pt×Pt}(hx:x∈pairsL E (spotsM E)) :
  (Nice x.1/\Nice x.2)/\befB x.1 x.2=true/\(∀ e∈E,befB x.1 e.1=true->befB e.1 x.2=true->detM x.1 x.2 e.1≠0)/\(∀ e∈E,crossB x.1 x.2 e.1 e.2=false):=by
 obtain ⟨s1,s2⟩:=spots_spec h
 obtain ⟨_,p2⟩:=pairs_spec E s1
 obtain ⟨e0,he0,ha⟩:=(p2 x).1 hx
 obtain ⟨m1,m2,f1,f2⟩:=AL_mem ha
 obtain ⟨hpq,hno⟩:=AL_next s1.srt ha
 have n1:=s1.nc _ m1
 have n2:=s1.nc _ m2
 have g0:=h.gr e0 he0
 have da:0<e0.1.d:=by have:=g0.1.d;omega
 have db:0<e0.2.d:=by have:=g0.2.d;omega
 have o1:onB x.1 e0.1 e0.2=true:=by rw [<-has_on da db n1.d];exact f1
 have o2:onB x.2 e0.1 e0.2=true:=by rw [<-has_on da db n2.d];exact f2
 have nab:=bef_or g0.1.d g0.2.d (h.ne e0 he0)
 have none:∀ y∈spotsM E,befB x.1 y=true->befB y x.2=true->detM x.1 x.2 y≠0:=fun y hy b1 b2 hl=>by
  have ny:=s1.nc y hy
  have:=hno y hy b1 b2
  rw [has_on da db ny.d,on_between n1.d n2.d da db ny.d nab o1 o2 b1 b2 hl] at this
  cases this
 refine ⟨⟨n1,n2⟩,hpq,fun e he b1 b2=>none _ (end_spot h he) b1 b2,fun e he=>?_⟩
 cases hc:crossB x.1 x.2 e.1 e.2
 ·rfl
 ·exfalso
  have ge:=h.gr e he
  obtain ⟨X,hX,xd,b1,b2,hl⟩:=cross_spot n1.d n2.d g0.1 g0.2 ge.1 ge.2 (h.ne e0 he0) (h.ne e he) hpq o1 o2 hc
  exact none X ((s2 X).2 ⟨e0,he0,e,he,hX⟩) b1 b2 hl
theorem pieces_eq {A B:List (List Pt)}(hA:Sound A)(hB:Sound B):rpiecesM A B=piecesM A B:=by
 have hG:=good_both hA hB
 unfold rpiecesM piecesM
 rw [spots_eq hG,pairs_eq (fun e he=>hG.gr e he) (spots_spec hG).1]
 refine List.map_congr_left fun x hx=>?_
 obtain ⟨⟨n1,n2⟩,hpq,hpt,hed⟩:=piece_clear hG hx
 have hptA:∀ v∈A.flatten,befB x.1 v=true->befB v x.2=true->detM x.1 x.2 v≠0:=fun v hv b1 b2=>by
  obtain ⟨e,he,rfl⟩:=first_edge hv
  exact hpt e (List.mem_append.2 (.inl he)) b1 b2
 have hptB:∀ v∈B.flatten,befB x.1 v=true->befB v x.2=true->detM x.1 x.2 v≠0:=fun v hv b1 b2=>by
  obtain ⟨e,he,rfl⟩:=first_edge hv
  exact hpt e (List.mem_append.2 (.inr he)) b1 b2
 have hall:∀ v∈A.flatten ++ B.flatten,befB x.1 v=true->befB v x.2=true->detM x.1 x.2 v≠0:=fun v hv=>by
  rcases List.mem_append.1 hv with hv | hv
  ·exact hptA v hv
  ·exact hptB v hv
 have had:∀ v∈A.flatten ++ B.flatten,0<v.d:=fun v hv=>by
  rcases List.mem_append.1 hv with hv | hv
  ·have:=(hA.gr v hv).d;omega
  ·have:=(hB.gr v hv).d;omega
 have sA:=sides_eq hA n1.1 n2.1 hpq ⟨hptA,fun e he=>hed e (List.mem_append.2 (.inl he))⟩ (fun v hv=>List.mem_append.2 (.inl hv)) hall had
 have sB:=sides_eq hB n1.1 n2.1 hpq ⟨hptB,fun e he=>hed e (List.mem_append.2 (.inr he))⟩ (fun v hv=>List.mem_append.2 (.inr hv)) hall had
 unfold rpcOf pcOf
 rw [<-sA,<-sB]
theorem sound_of {P:List (List Pt)}(h:(checkM P).1=0):Sound P:=by
 have u:checkM P=if 4<P.length then (1,0) else if badM 12 0 P≠-1 then (2,badM 12 0 P) else if findM (fun e:Pt×Pt=>!gridB e.1) 0 (edgesM P)≠-1 then (3,findM (fun e:Pt×Pt=>!gridB e.1) 0 (edgesM P)) else if findM (fun e:Pt×Pt=>eqB e.1 e.2) 0 (edgesM P)≠-1 then (4,findM (fun e:Pt×Pt=>eqB e.1 e.2) 0 (edgesM P)) else if findM (sharesM (edgesM P)) 0 (List.range (edgesM P).length)≠-1 then (5,findM (sharesM (edgesM P)) 0 (List.range (edgesM P).length)) else (0,0):=rfl
 rw [u] at h
 by_cases c1:4<P.length
 ·rw [if_pos c1] at h;simp at h
 rw [if_neg c1] at h
 by_cases c2:badM 12 0 P≠-1
 ·rw [if_pos c2] at h;simp at h
 rw [if_neg c2] at h
 by_cases c3:findM (fun e:Pt×Pt=>!gridB e.1) 0 (edgesM P)≠-1
 ·rw [if_pos c3] at h;simp at h
 rw [if_neg c3] at h
 by_cases c4:findM (fun e:Pt×Pt=>eqB e.1 e.2) 0 (edgesM P)≠-1
 ·rw [if_pos c4] at h;simp at h
 rw [if_neg c4] at h
 by_cases c5:findM (sharesM (edgesM P)) 0 (List.range (edgesM P).length)≠-1
 ·rw [if_pos c5] at h;simp at h
 have d3:=findM_none _ _ 0 (by decide) (by omega:findM (fun e:Pt×Pt=>!gridB e.1) 0 (edgesM P) = -1)
 have d4:=findM_none _ _ 0 (by decide) (by omega:findM (fun e:Pt×Pt=>eqB e.1 e.2) 0 (edgesM P) = -1)
 have d5:=findM_none _ _ 0 (by decide) (by omega:findM (sharesM (edgesM P)) 0 (List.range (edgesM P).length) = -1)
 have gr:∀ v∈P.flatten,Gr v:=fun v hv=>by
  obtain ⟨e,he,rfl⟩:=first_edge hv
  have:=d3 e he
  exact gr_of (by simpa using this)
 refine ⟨gr,fun e he=>?_,fun i j hij hj=>?_⟩
 ·obtain ⟨m1,m2⟩:=edge_ends he
  refine bef_or (gr _ m1).d (gr _ m2).d fun k=>?_
  have:=d4 e he
  rw [k] at this
  simp [eqB] at this
 ·have:=d5 j (by simpa using hj)
  unfold sharesM at this
  rw [<-Bool.not_eq_true,List.any_eq_true] at this
  cases k:alongB ((edgesM P).getD j (zP,zP)) ((edgesM P).getD i (zP,zP))
  ·rfl
  ·refine absurd ⟨(edgesM P).getD i (zP,zP),?_,k⟩ this
   rw [List.mem_take_iff_getElem]
   refine ⟨i,by omega,?_⟩
   rw [List.getD_eq_getElem?_getD,List.getElem?_eq_getElem (by omega)];rfl
end Go.Proofs.YtnkcbephceollabGreat
namespace Go.Proofs.YtnkcbephceollabGreat
open Go.RowKit
set_option linter.unusedSimpArgs false
set_option linter.unusedVariables false
theorem heap_set {w:World}{b o:Nat}{cur:Array Value}{u:Value}{t:TypeId}(h:w.heap[b]?=some (.cells cur t (0,0))):(w.setCell ⟨b,o,none⟩ u).heap[b]?=some (.cells (cur.setIfInBounds o u) t (0,0)):=by
 have hlt:=lt_of_block h
 have h':w.heap[b] = .cells cur t (0,0):=by simpa [Array.getElem?_eq_getElem hlt] using h
 show (w.heap.modify b _)[b]?=_
 rw [Array.getElem?_eq_getElem (by simpa using hlt),Array.getElem_modify_self,h']
 rfl
theorem own_set {w:World}{base:Nat}{e:TypeId}{s:Nat}{v:Value}{n:Nat}{xs:List Value}(h:w.ownsRow base e s v n xs)(g:Nat)(hg:v.ownBlock=some g)(o:Nat)(u:Value):(w.setCell ⟨g,o,none⟩ u).ownsRow base e s v n (xs.set o u):=by
 obtain ⟨h1,h2⟩:=h
 refine ⟨by simpa using h1,?_⟩
 rcases h2 with ⟨rfl,_⟩ | ⟨g',cap,cur,rfl,hb,hh,hn,hc,hs,ht⟩
 ·simp [Value.ownBlock] at hg
 ·have:g'=g:=by simpa [Value.ownBlock] using hg
  subst this
  refine .inr ⟨g',cap,_,rfl,hb,heap_set hh,hn,hc,by simpa using hs,?_⟩
  rw [Array.toList_setIfInBounds,List.take_set,ht]
theorem own_later {w w':World}{base:Nat}{e:TypeId}{s:Nat}{v:Value}{n:Nat}{xs:List Value}(h:w.ownsRow base e s v n xs)(k:Below w.heap.size w w'):w'.ownsRow base e s v n xs:=by
 have hlt:=h.lt
 obtain ⟨h1,h2⟩:=h
 refine ⟨h1,?_⟩
 rcases h2 with h2 | ⟨g,cap,cur,rfl,hb,hh,r⟩
 ·exact .inl h2
 ·exact .inr ⟨g,cap,cur,rfl,hb,(k.block g (hlt g rfl).2).trans hh,r⟩
theorem own_free {w:World}{base:Nat}{e:TypeId}{s:Nat}{v:Value}{n:Nat}{xs:List Value}(h:w.ownsRow base e s v n xs)(g:Nat)(hg:v.ownBlock=some g)(o:Nat):w.frozen? ⟨g,o,none⟩=false:=by
 obtain ⟨h1,h2⟩:=h
 rcases h2 with ⟨rfl,_⟩ | ⟨g',cap,cur,rfl,hb,hh,hn,hc,hs,ht⟩
 ·simp [Value.ownBlock] at hg
 ·have:g'=g:=by simpa [Value.ownBlock] using hg
  subst this
  simp [World.frozen?,hh]
theorem ptCells_set (L:List Pt)(j:Nat)(q:Pt)(hj:j<L.length):(((ptCells L).set (j*3) (.int .i64 q.x)).set (j*3+1) (.int .i64 q.y)).set (j*3+2) (.int .i64 q.d)=ptCells (L.set j q):=by
 induction L generalizing j with
 | nil=>simp at hj
 | cons x L ih=>
  have e:ptCells (x::L) = .int .i64 x.x :: .int .i64 x.y :: .int .i64 x.d::ptCells L:=by simp [ptCells,ptCell]
  cases j with
  | zero=>
   rw [e]
   have e2:ptCells ((x::L).set 0 q) = .int .i64 q.x :: .int .i64 q.y :: .int .i64 q.d::ptCells L:=by simp [ptCells,ptCell]
   rw [e2];simp
  | succ j=>
   have e2:ptCells ((x::L).set (j+1) q) = .int .i64 x.x :: .int .i64 x.y :: .int .i64 x.d::ptCells (L.set j q):=by simp [ptCells,ptCell]
   rw [e,e2,<-ih j (by simpa using hj)]
   have s1:(j+1)*3=j*3+1+1+1:=by omega
   rw [s1]
   simp only [List.set_cons_succ]
def shiftM (l:List Pt)(p:Pt)(j:Nat):List Pt:=(l ++ [p]).take (j+1) ++ l.drop j
theorem shift_len (l:List Pt)(p:Pt)(j:Nat)(hj:j<=l.length):(shiftM l p j).length=l.length+1:=by
 unfold shiftM;simp;omega
theorem shift_start (l:List Pt)(p:Pt):shiftM l p l.length=l ++ [p]:=by
 unfold shiftM;rw [List.take_of_length_le (by simp),List.drop_length,List.append_nil]
theorem shift_at (l:List Pt)(p:Pt)(j:Nat)(hj:j+1<=l.length):(shiftM l p (j+1)).getD j zP=l.getD j zP:=by
 unfold shiftM
 rw [List.getD_eq_getElem?_getD,List.getD_eq_getElem?_getD,List.getElem?_append_left (by simp;omega),List.getElem?_take_of_lt (by omega),List.getElem?_append_left (by omega)]
theorem shift_step (l:List Pt)(p:Pt)(j:Nat)(hj:j+1<=l.length):(shiftM l p (j+1)).set (j+1) (l.getD j zP)=shiftM l p j:=by
 unfold shiftM
 have e1:(l ++ [p]).take (j+1+1)=(l ++ [p]).take (j+1) ++ [(l ++ [p]).getD (j+1) zP]:=by
  rw [List.take_succ_eq_append_getElem (by simp;omega),List.getD_eq_getElem?_getD,List.getElem?_eq_getElem (by simp;omega)];rfl
 have e2:l.drop j=l.getD j zP::l.drop (j+1):=by
  rw [List.drop_eq_getElem_cons (by omega),List.getD_eq_getElem?_getD,List.getElem?_eq_getElem (by omega)];rfl
 rw [e1,e2,List.append_assoc,List.set_append_right _ _ (by simp;omega)]
 have e3:j+1-((l ++ [p]).take (j+1)).length=0:=by simp;omega
 rw [e3];rfl
theorem shift_end (l:List Pt)(p:Pt)(i:Nat)(hi:i<=l.length):(shiftM l p i).set i p=l.take i ++ p::l.drop i:=by
 unfold shiftM
 have e1:(l ++ [p]).take (i+1)=(l ++ [p]).take i ++ [(l ++ [p]).getD i zP]:=by
  rw [List.take_succ_eq_append_getElem (by simp;omega),List.getD_eq_getElem?_getD,List.getElem?_eq_getElem (by simp;omega)];rfl
 have e2:(l ++ [p]).take i=l.take i:=List.take_append_of_le_length hi
 rw [e1,e2,List.append_assoc,List.set_append_right _ _ (by simp;omega)]
 have e3:i-(l.take i).length=0:=by simp;omega
 rw [e3];rfl
set_option maxRecDepth 100000 in
set_option maxHeartbeats 4000000 in
theorem insert_any (base:Nat)(v:Value)(l:List Pt)(p:Pt)(w:World)(hown:w.ownsRow base 31 3 v l.length (ptCells l))(hbase:base<=w.heap.size)(hn:l.length<=1000000)(hl:∀ x∈l,Gd x)(hp:Gd p) :
  Calls Tryz.prog 109 #[v,p.v] w fun e w'=>∃ v',e = .returned v'/\w'.ownsRow base 31 3 v' (insM l p).length (ptCells (insM l p))/\Kp (fun b=>v.ownBlock=some b) w w'/\(∀ g,v'.ownBlock=some g->v.ownBlock=some g\/w.heap.size<=g):=by
 obtain ⟨i0,hi0,hz0,hz1,hz2⟩:=info_parts infoPoint
 have hrow:=ring_of_own hown (by unfold maxLen;omega)
 obtain ⟨a,cap,hv,h1,h2,h3⟩:=id hrow
 have hne:v.ownBlock≠some w.heap.size:=fun e=>by have:=(hown.lt _ e).2;omega
 have hI:insM l p=if 0<idxL l p l.length/\cmpM p (l.getD (idxL l p l.length-1) zP)=0 then l else l.take (idxL l p l.length) ++ p::l.drop (idxL l p l.length):=rfl
 have HI:=hide hI
 have HL:=hide hl
 unfold maxLen at h2
 subst hv
 clear hI hl
 obtain ⟨W0,hW0⟩:∃ W,W=w.alloc (.cells #[.int .i64 p.x,.int .i64 p.y,.int .i64 p.d] 31):=⟨_,rfl⟩
 have B0:Below w.heap.size w W0:=by rw [hW0];exact (Below.refl _ _).alloc (Nat.le_refl _) _
 have Q0:Blk W0 w.heap.size #[.int .i64 p.x,.int .i64 p.y,.int .i64 p.d]:=by rw [hW0];exact Blk.new w _ _
 have O0:W0.ownsRow base 31 3 (.slice a l.length cap) l.length (ptCells l):=by rw [hW0];exact hown.alloc _
 have z0:W0.heap.size=w.heap.size+1:=by rw [hW0];simp
 go_enter Tryz.func109,Tryz.ntmps109
 go_upto_block 0 with fail
 rw [<-hW0]
 clear hW0
 go_cut [5] (fun iv w'=>iv = .int .i64 (idxL l p l.length:Nat)/\Below W0.heap.size W0 w')
 case first=>
  go_wp2_with fail
  go_loopw [5] (fun iv w'=>∃ i:Nat,iv = .int .i64 i/\i<=l.length/\Below W0.heap.size W0 w'/\Hid (idxL l p l.length=idxL l p i)) (fun iv _=>(intOf iv).toNat)
  case atStart=>exact ⟨l.length,rfl,Nat.le_refl _,Below.refl _ _,rfl⟩
  case round=>
   obtain ⟨i,rfl,hi,hbel,HB⟩:=hrel
   cases i with
   | zero=>
    have e0:((0:Nat):Int)=0:=rfl
    rw [e0]
    go_upto_region 2 with fail
    go_cut [20] (fun c w'=>c = .bool false/\Below W0.heap.size W0 w')
    case first=>
     go_quiet (fail)
     go_wp2
     go_meet
     case rel=>exact ⟨rfl,below_drewN hbel _⟩
    case rest=>
     obtain ⟨rfl,hb2⟩:=hcut
     go_wp2
     go_meet
     case rel=>exact ⟨by rw [HB.out];rfl,hb2⟩
   | succ k=>
    obtain ⟨b,off,rfl,hb,hs⟩:=h3 k (by omega)
    obtain ⟨px,py,pd⟩:=(hs.later B0 hb).later hbel (by omega)
    have gx:=HL.out _ (getD_mem (show k<l.length by omega) zP)
    have HC:=hide (show idxL l p (k+1)=if cmpM p (l.getD k zP)<0 then idxL l p k else k+1 from rfl)
    obtain ⟨cq,fq,zq⟩:=Q0.call hbel
    have C:=fun wz=>Compare_any p (l.getD k zP) wz hp gx
    generalize l.getD k zP=x at *
    have ec:(((k+1:Nat)):Int)=(k:Int)+1:=by omega
    have ek:(k:Int)+1-1=(k:Int):=by omega
    rw [ec]
    have hk0:(0:Int)<=(k:Int):=Int.natCast_nonneg _
    have hk1:(k:Int)<(l.length:Int):=by omega
    have hk2:(0:Int)<(k:Int)+1:=by omega
    have ewr:IntKind.i64.wrap ((k:Int)+1-1)=(k:Int):=by rw [ek];exact IntWalk.i64_in _ (by omega)
    have ewr2:IntKind.i64.wrap (k:Int)=(k:Int):=IntWalk.i64_in _ (by omega)
    go_upto_region 2 with fail
    go_cut [20] (fun c w'=>c = .bool (decide (cmpM p x<0))/\Below W0.heap.size W0 w')
    case first=>
     go_region_with (go_at_call 117;refine (C _).mono ?_;rintro e' w2 ⟨rfl,k2⟩)
     all_goals
      go_wp2_with fail
      go_meet
      case rel=>exact ⟨rfl,bvia hbel.drew k2⟩
    case rest=>
     obtain ⟨rfl,hb2⟩:=hcut
     clear px py pd cq fq zq hbel C
     by_cases hc:cmpM p x<0
     ·have HE:Hid (idxL l p l.length=idxL l p k):=HB.out.trans (HC.out.trans (if_pos hc))
      have hd:decide (cmpM p x<0)=true:=decide_eq_true hc
      rw [hd]
      clear HB HC hd hc
      go_wp2
      go_roundw
      case rel=>exact ⟨k,by go_num,by omega,hb2,HE⟩
      case measure=>simp [intOf] <;> omega
     ·have HE:Hid (idxL l p l.length=k+1):=HB.out.trans (HC.out.trans (if_neg hc))
      have hd:decide (cmpM p x<0)=false:=decide_eq_false hc
      rw [hd]
      clear HB HC hd hc
      go_wp2
      go_meet
      case rel=>exact ⟨by rw [HE.out,ec],hb2⟩
 case rest=>
  obtain ⟨rfl,B1⟩:=hcut
  have hile:=idxL_le l p l.length
  generalize idxL l p l.length=i at *
  have B1':=bvia B0 B1
  have Q1:=Q0.call B1
  have O1:wc.ownsRow base 31 3 (.slice a l.length cap) l.length (ptCells l):=own_later O0 B1
  obtain ⟨cq,fq,zq⟩:=id Q1
  go_upto_region 4 with fail
  go_cut [34] (fun c w'=>c = .bool (decide (0<i) && decide (cmpM p (l.getD (i-1) zP)=0))/\Below W0.heap.size W0 w')
  case first=>
   cases i with
   | zero=>
    have e0:((0:Nat):Int)=0:=rfl
    rw [e0]
    go_quiet (fail)
    go_wp2
    go_meet
    case rel=>exact ⟨rfl,below_drewN B1 _⟩
   | succ k=>
    obtain ⟨b,off,rfl,hb,hs⟩:=h3 k (by omega)
    obtain ⟨px,py,pd⟩:=(hs.later B0 hb).later B1 (by omega)
    have gx:=HL.out _ (getD_mem (show k<l.length by omega) zP)
    have C:=fun wz=>Compare_any p (l.getD k zP) wz hp gx
    generalize hxx:l.getD k zP=x at *
    have HXX:Hid (l.getD (k+1-1) zP=x):=hxx
    clear hxx
    have ec:(((k+1:Nat)):Int)=(k:Int)+1:=by omega
    have ek:(k:Int)+1-1=(k:Int):=by omega
    rw [ec]
    have hk0:(0:Int)<=(k:Int):=Int.natCast_nonneg _
    have hk1:(k:Int)<(l.length:Int):=by omega
    have hk2:(0:Int)<(k:Int)+1:=by omega
    have ewr:IntKind.i64.wrap ((k:Int)+1-1)=(k:Int):=by rw [ek];exact IntWalk.i64_in _ (by omega)
    have ewr2:IntKind.i64.wrap (k:Int)=(k:Int):=IntWalk.i64_in _ (by omega)
    go_region_with (go_at_call 117;refine (C _).mono ?_;rintro e' w2 ⟨rfl,k2⟩)
    all_goals
     go_wp2_with fail
     go_meet
     case rel=>exact ⟨by rw [HXX.out];simp;rfl,bvia B1.drew k2⟩
  case rest=>
   clear B1 O1 Q1 cq fq zq B1'
   obtain ⟨rfl,B2⟩:=hcut
   have B2':=bvia B0 B2
   have O2:=hide (own_later O0 B2)
   by_cases hc:0<i/\cmpM p (l.getD (i-1) zP)=0
   ·have HE:Hid (insM l p=l):=HI.out.trans (if_pos hc)
    have hd:(decide (0<i) && decide (cmpM p (l.getD (i-1) zP)=0))=true:=by rw [decide_eq_true hc.1,decide_eq_true hc.2];rfl
    rw [hd]
    clear hd
    go_wp2
    go_ret
    exact ⟨_,rfl,by rw [HE.out];exact O2.out,Kp.of B2',fun g hg=>.inl hg⟩
   ·have HE:Hid (insM l p=l.take i ++ p::l.drop i):=HI.out.trans (if_neg hc)
    have hd:(decide (0<i) && decide (cmpM p (l.getD (i-1) zP)=0))=false:=by
     rw [<-Bool.not_eq_true];simpa using hc
    rw [hd]
    clear hd hc HI
    have hn1:l.length+1<=maxLen:=by unfold maxLen;omega
    have hn2:(l.length+1)*24<=140737488355328:=by omega
    have hb2:=B2.size
    have hnews:=World.news_of_block (w:=wc.alloc (.cells #[.int .i64 p.x,.int .i64 p.y,.int .i64 p.d] 31)) (cs:=#[.int .i64 p.x,.int .i64 p.y,.int .i64 p.d]) (t:=31) (fr:=(0,0)) (heap_alloc_new wc _)
    obtain ⟨cq,fq,zq⟩:=Q0.call B2
    go_wp2_with (at_builtin;refine wpList_append_lies _ rfl _ _ _ rfl base 31 i0 _ 3 24 Tryz.underlying57 hi0 hz0 hz1 hz2 rfl (by omega) (.slice a l.length cap) l.length (ptCells l) rfl (O2.out.alloc _) ⟨wc.heap.size,0,none⟩ 1 1 (ptCell p) rfl rfl hnews (by simp [ptCell,Value.oneCell']) (by omega) hn1 hn2 (by simp;omega) _ rfl ?_;intro gg cp w2 hown2 hgrow hat hlt2)
    have hgw:gg≠w.heap.size:=by
     rcases hat with h | h
     ·have:=(hown.lt gg h).2;omega
     ·simp at h;omega
    have hgx:gg<w.heap.size->(Value.slice a l.length cap).ownBlock=some gg:=fun h=>by
     rcases hat with k | k
     ·exact k
     ·simp at k;omega
    have K2:Kp (fun b=>(Value.slice a l.length cap).ownBlock=some b) w w2:=Kp.grown ((Kp.of B2').alloc _) hgrow (fun k hk=>hk)
    have Q2:Blk w2 w.heap.size #[.int .i64 p.x,.int .i64 p.y,.int .i64 p.d]:=by
     have q:=(Blk.mk cq fq zq).alloc (.cells #[.int .i64 p.x,.int .i64 p.y,.int .i64 p.d] 31)
     have e:=hgrow.block w.heap.size q.lt (fun k=>by have:=(hown.lt _ k.symm).2;omega)
     exact ⟨fun o=>(World.cell?_of_block (a:=⟨w.heap.size,o,none⟩) e).trans (q.cell o),fun o=>(World.frozen?_of_block (a:=⟨w.heap.size,o,none⟩) e).trans (q.free o),Nat.lt_of_lt_of_le q.lt hgrow.size⟩
    have OS:w2.ownsRow base 31 3 (.slice (some ⟨gg,0,none⟩) (l.length+1) cp) (l.length+1) (ptCells (shiftM l p l.length)):=by
     rw [shift_start,ptCells_append]
     have e2:ptCells [p]=ptCell p:=by simp [ptCells]
     rw [e2];exact hown2
    have HGX:=hide hgx
    have hat':∀ g,some gg=some g->(Value.slice a l.length cap).ownBlock=some g\/w.heap.size<=g:=fun g hg=>by
     have:gg=g:=by simpa using hg
     subst this
     rcases Nat.lt_or_ge gg w.heap.size with k | k
     ·exact .inl (hgx k)
     ·exact .inr k
    have HAT:=hide hat'
    clear hown2 hgrow hat hnews cq fq zq O2 B2' hgx hat'
    go_loopw [6] (fun jv w'=>∃ j:Nat,jv = .int .i64 j/\i<=j/\j<=l.length/\w'.ownsRow base 31 3 (.slice (some ⟨gg,0,none⟩) (l.length+1) cp) (l.length+1) (ptCells (shiftM l p j))/\Kp (fun b=>(Value.slice a l.length cap).ownBlock=some b) w w'/\Blk w' w.heap.size #[.int .i64 p.x,.int .i64 p.y,.int .i64 p.d]) (fun jv _=>(intOf jv).toNat)
    case atStart=>exact ⟨l.length,rfl,hile,Nat.le_refl _,OS,K2,Q2⟩
    case round=>
     obtain ⟨j,rfl,hij,hjl,hO,hK,hQ⟩:=hrel
     have hcell:∀ m t,m<l.length+1->t<3->wr.cell? ⟨gg,m*3+t,none⟩=(ptCell ((shiftM l p j).getD m zP))[t]?:=fun m t hm ht=>by
      rw [own_cell hO gg rfl (m*3+t) (by omega)]
      exact ptCells_at _ m t (by rw [shift_len l p j hjl];omega) ht
     have hfree:=own_free hO gg rfl
     by_cases hlt:i<j
     ·obtain ⟨k,rfl⟩:∃ k,j=k+1:=⟨j-1,by omega⟩
      have HS:=hide (shift_step l p k hjl)
      have sa:=shift_at l p k hjl
      have s0:=hcell k 0 (by omega) (by decide)
      have s1:=hcell k 1 (by omega) (by decide)
      have s2:=hcell k 2 (by omega) (by decide)
      rw [sa] at s0 s1 s2
      simp only [ptCell,Nat.add_zero,List.getElem?_cons_zero,List.getElem?_cons_succ] at s0 s1 s2
      have t0:=hcell (k+1) 0 (by omega) (by decide)
      have t1:=hcell (k+1) 1 (by omega) (by decide)
      have t2:=hcell (k+1) 2 (by omega) (by decide)
      simp only [ptCell,Nat.add_zero,List.getElem?_cons_zero,List.getElem?_cons_succ] at t0 t1 t2
      have ec:(((k+1:Nat)):Int)=(k:Int)+1:=by omega
      rw [ec]
      have hk0:(0:Int)<=(k:Int):=Int.natCast_nonneg _
      have hk1:(k:Int)+1<(l.length:Int)+1:=by omega
      have hk2:(k:Int)<(l.length:Int)+1:=by omega
      have hki:(i:Int)<(k:Int)+1:=by omega
      have hO':=hide hO
      generalize l.getD k zP=y at *
      generalize (shiftM l p (k+1)).getD (k+1) zP=z at *
      clear hcell hO
      go_wp2
      go_roundw
      case rel=>
       refine ⟨k,by go_num,by omega,by omega,?_,?_,?_⟩
       ·have o3:=own_set (own_set (own_set hO'.out gg rfl ((k+1)*3) (.int .i64 y.x)) gg rfl ((k+1)*3+1) (.int .i64 y.y)) gg rfl ((k+1)*3+2) (.int .i64 y.d)
        rw [ptCells_set _ _ _ (by rw [shift_len l p (k+1) hjl];omega),HS.out] at o3
        exact o3
       ·exact ((hK.setCell (p:=⟨gg,(k+1)*3,none⟩) HGX.out _).setCell (p:=⟨gg,(k+1)*3+1,none⟩) HGX.out _).setCell (p:=⟨gg,(k+1)*3+2,none⟩) HGX.out _
       ·exact ((hQ.off (Ne.symm hgw) _ _).off (Ne.symm hgw) _ _).off (Ne.symm hgw) _ _
      case measure=>simp [intOf] <;> omega
     ·have ej:j=i:=by omega
      subst ej
      have HS:=hide (shift_end l p j hjl)
      have t0:=hcell j 0 (by omega) (by decide)
      have t1:=hcell j 1 (by omega) (by decide)
      have t2:=hcell j 2 (by omega) (by decide)
      simp only [ptCell,Nat.add_zero,List.getElem?_cons_zero,List.getElem?_cons_succ] at t0 t1 t2
      have hk0:(0:Int)<=(j:Int):=Int.natCast_nonneg _
      have hk1:(j:Int)<(l.length:Int)+1:=by omega
      have hO':=hide hO
      obtain ⟨cq,fq,zq⟩:=id hQ
      generalize (shiftM l p j).getD j zP=z at *
      clear hcell hO
      go_wp2
      go_ret
      refine ⟨_,rfl,?_,?_,HAT.out⟩
      ·have o3:=own_set (own_set (own_set hO'.out gg rfl (j*3) (.int .i64 p.x)) gg rfl (j*3+1) (.int .i64 p.y)) gg rfl (j*3+2) (.int .i64 p.d)
       rw [ptCells_set _ _ _ (by rw [shift_len l p j hjl];omega),HS.out,<-HE.out] at o3
       have el:(insM l p).length=l.length+1:=by rw [HE.out];simp;omega
       rw [el];exact o3
      ·exact ((hK.setCell (p:=⟨gg,j*3,none⟩) HGX.out _).setCell (p:=⟨gg,j*3+1,none⟩) HGX.out _).setCell (p:=⟨gg,j*3+2,none⟩) HGX.out _
theorem set10 (u0 u1 u2 u3 u4 u5 u6 u7 u8 u9:Value):∀ (o:Nat) (l:List Value),o+10<=l.length->
  ((((((((((
       l.set o u0).set (o+1) u1).set (o+2) u2).set (o+3) u3).set (o+4) u4).set (o+5) u5).set (o+6) u6).set (o+7) u7).set (o+8) u8).set (o+9) u9)=l.take o ++ ([u0,u1,u2,u3,u4,u5,u6,u7,u8,u9] ++ l.drop (o+10))
 | 0,l,h=>by
  match l,h with
  | a0::a1::a2::a3::a4::a5::a6::a7::a8::a9::l',_=>simp
 | o+1,l,h=>by
  match l,h with
  | x::l',h=>
   have ih:=set10 u0 u1 u2 u3 u4 u5 u6 u7 u8 u9 o l' (by simp at h;omega)
   have e:∀ j,o+1+j=o+j+1:=fun j=>by omega
   simp only [e,List.set_cons_succ,List.take_succ_cons,List.drop_succ_cons,List.cons_append]
   rw [ih];rfl
abbrev set10W (w:World)(g o:Nat)(m:Int):World:=(((((((((w.setCell ⟨g,o,none⟩ (.int .i64 0)).setCell ⟨g,o+1,none⟩ (.int .i64 0)).setCell ⟨g,o+2,none⟩ (.int .i64 m)).setCell ⟨g,o+3,none⟩ (.int .i64 0)).setCell ⟨g,o+4,none⟩ (.int .i64 0)).setCell ⟨g,o+5,none⟩ (.int .i64 0)).setCell ⟨g,o+6,none⟩ (.bool false)).setCell ⟨g,o+7,none⟩ (.bool false)).setCell ⟨g,o+8,none⟩ (.bool false)).setCell ⟨g,o+9,none⟩ (.bool false)
theorem own_set10 {w:World}{base g n cap k:Nat}{m:Int}{e:TypeId}{xs:List Value}(h:w.ownsRow base e 10 (.slice (some ⟨g,0,none⟩) n cap) n (rep k (pcMk m) ++ xs.drop (k*10)))(hxl:xs.length=n*10)(hlt:k<n) :
  (set10W w g (k*10) m).drew.ownsRow base e 10 (.slice (some ⟨g,0,none⟩) n cap) n (rep (k+1) (pcMk m) ++ xs.drop ((k+1)*10)):=by
 have hrl:(rep k (pcMk m)).length=k*10:=by rw [rep_len];rfl
 have e10:=set10 (.int .i64 0) (.int .i64 0) (.int .i64 m) (.int .i64 0) (.int .i64 0) (.int .i64 0) (.bool false) (.bool false) (.bool false) (.bool false) (k*10) (rep k (pcMk m) ++ xs.drop (k*10)) (by rw [List.length_append,hrl,List.length_drop];omega)
 have t1:(rep k (pcMk m) ++ xs.drop (k*10)).take (k*10)=rep k (pcMk m):=List.take_left' hrl
 have t2:(rep k (pcMk m) ++ xs.drop (k*10)).drop (k*10+10)=xs.drop ((k+1)*10):=by
  rw [List.drop_append,hrl,List.drop_of_length_le (by omega),List.nil_append,List.drop_drop]
  congr 1;omega
 rw [t1,t2,<-List.append_assoc,<-rep_succ] at e10
 have o1:=own_set h g rfl (k*10) (.int .i64 0)
 have o2:=own_set o1 g rfl (k*10+1) (.int .i64 0)
 have o3:=own_set o2 g rfl (k*10+2) (.int .i64 m)
 have o4:=own_set o3 g rfl (k*10+3) (.int .i64 0)
 have o5:=own_set o4 g rfl (k*10+4) (.int .i64 0)
 have o6:=own_set o5 g rfl (k*10+5) (.int .i64 0)
 have o7:=own_set o6 g rfl (k*10+6) (.bool false)
 have o8:=own_set o7 g rfl (k*10+7) (.bool false)
 have o9:=own_set o8 g rfl (k*10+8) (.bool false)
 have o10:=own_set o9 g rfl (k*10+9) (.bool false)
 rw [e10] at o10
 generalize hW:set10W w g (k*10) m=W
 have o11:W.ownsRow base e 10 (.slice (some ⟨g,0,none⟩) n cap) n (rep (k+1) (pcMk m) ++ xs.drop ((k+1)*10)):=by rw [<-hW];exact o10
 exact o11
theorem kp_set10 {X:Nat->Prop}{w w':World}{g o:Nat}{m:Int}(h:Kp X w w')(hg:X g):Kp X w (set10W w' g o m).drew:=
 (((((((((((
       h.setCell (fun _=>hg) _).setCell (fun _=>hg) _).setCell (fun _=>hg) _).setCell (fun _=>hg) _).setCell (fun _=>hg) _).setCell (fun _=>hg) _).setCell (fun _=>hg) _).setCell (fun _=>hg) _).setCell (fun _=>hg) _).setCell (fun _=>hg) _)).drew
set_option maxRecDepth 100000 in
set_option maxHeartbeats 4000000 in
theorem marks_pieces (base h n:Nat)(m:Int)(cv:Value)(xs:List Value)(w:World)(hne:cv.ownBlock≠some h)(hn:n<=1100000)(hh:Blk w h #[.slice none 0 0,.slice none 0 0,cv,.slice none 0 0,.int .i64 m])(hc:w.ownsRow base 55 10 cv n xs) :
  Calls Tryz.prog 51 #[.pointer (some ⟨h,0,none⟩)] w fun e w'=>e = .returned (.tuple #[])/\w'.ownsRow base 55 10 cv n (rep n (pcMk m))/\Kp (fun b=>cv.ownBlock=some b) w w':=by
 obtain ⟨a,cap,hcv,hag⟩:∃ a cap,cv = .slice a n cap/\(0<n->∃ g,a=some ⟨g,0,none⟩):=by
  rcases hc.2 with ⟨rfl,hn⟩ | ⟨g,cap,cur,rfl,_⟩
  ·exact ⟨none,0,by rw [hn],fun h=>by omega⟩
  ·exact ⟨some ⟨g,0,none⟩,cap,rfl,fun _=>⟨g,rfl⟩⟩
 subst hcv
 have hxl:xs.length=n*10:=hc.1
 obtain ⟨d0,d1,d2,d3,d4⟩:=And.intro (hh.cell 0) (And.intro (hh.cell 1) (And.intro (hh.cell 2) (And.intro (hh.cell 3) (hh.cell 4))))
 simp at d0 d1 d2 d3 d4
 go_enter Tryz.func51,Tryz.ntmps51
 go_wp2_with fail
 refine wp_loop_rounds 1 ?_
 rw [rounds_succ]
 go_wp2_with fail
 refine wp_loop_rounds 1 ?_
 rw [rounds_succ]
 go_wp2_with fail
 go_loopw [4] (fun i w'=>∃ k:Nat,i = .int .i64 k/\k<=n/\w'.ownsRow base 55 10 (.slice a n cap) n (rep k (pcMk m) ++ xs.drop (k*10))/\Kp (fun b=>(Value.slice a n cap).ownBlock=some b) w w') (fun i _=>n-(intOf i).toNat)
 case atStart=>exact ⟨0,rfl,Nat.zero_le _,by simpa [rep] using hc,Kp.refl _ _⟩
 case round=>
  obtain ⟨k,rfl,hk,hO,hkp⟩:=hrel
  have hcell:∀ o,wr.cell? ⟨h,o,none⟩=w.cell? ⟨h,o,none⟩:=fun o=>World.cell?_of_block (w:=w) (hkp.block h hh.lt hne)
  have c0:=(hcell 0).trans d0
  have c1:=(hcell 1).trans d1
  have c2:=(hcell 2).trans d2
  have c3:=(hcell 3).trans d3
  have c4:=(hcell 4).trans d4
  clear hcell d0 d1 d2 d3 d4
  by_cases hlt:k<n
  ·obtain ⟨g,rfl⟩:=hag (by omega)
   have hl:=(hO.lt g rfl).2
   have hf:∀ o,wr.frozen? ⟨g,o,none⟩=false:=fun o=>own_free hO g rfl o
   have hx:∀ t,t<10->∃ u,wr.cell? ⟨g,k*10+t,none⟩=some u:=fun t ht=>by
    have:=hO.cellAt (k*10+t) (by omega)
    rw [List.getElem?_eq_getElem (by rw [List.length_append,rep_len,List.length_drop];simp [pcMk];omega)] at this
    exact ⟨_,this⟩
   obtain ⟨x0,hx0⟩:=hx 0 (by decide)
   obtain ⟨x1,hx1⟩:=hx 1 (by decide)
   obtain ⟨x2,hx2⟩:=hx 2 (by decide)
   obtain ⟨x3,hx3⟩:=hx 3 (by decide)
   obtain ⟨x4,hx4⟩:=hx 4 (by decide)
   obtain ⟨x5,hx5⟩:=hx 5 (by decide)
   obtain ⟨x6,hx6⟩:=hx 6 (by decide)
   obtain ⟨x7,hx7⟩:=hx 7 (by decide)
   obtain ⟨x8,hx8⟩:=hx 8 (by decide)
   obtain ⟨x9,hx9⟩:=hx 9 (by decide)
   simp only [Nat.add_zero] at hx0
   have hhl:h<wr.heap.size:=Nat.lt_of_lt_of_le hh.lt hkp.size
   have hgh:g≠h:=fun e=>hne (by rw [e];rfl)
   have hk0:(0:Int)<=(k:Int):=Int.natCast_nonneg _
   have hk1:(k:Int)<(n:Int):=by omega
   have hk2:k+1<=n:=hlt
   have HO:=hide (own_set10 hO hxl hlt)
   have HKP:=hide (kp_set10 (g:=g) (o:=k*10) (m:=m) hkp rfl)
   clear hO hkp hx hag
   go_wp2_with fail
   go_region
   go_wp2
   exact ⟨⟨k+1,by go_num,hk2,HO.out,HKP.out⟩,by simp [intOf];omega⟩
  ·have ek:k=n:=by omega
   subst ek
   have HO:Hid (wr.ownsRow base 55 10 (.slice a k cap) k (rep k (pcMk m))):=by
    have:rep k (pcMk m) ++ xs.drop (k*10)=rep k (pcMk m):=by rw [List.drop_of_length_le (by omega),List.append_nil]
    rw [this] at hO
    exact hO
   have HKP:=hide hkp
   clear hO hkp hag
   go_wp2_with fail
   refine wp_loop_rounds 1 ?_
   rw [rounds_succ]
   go_wp2
   go_end0
   exact ⟨rfl,HO.out,HKP.out⟩
end Go.Proofs.YtnkcbephceollabGreat
