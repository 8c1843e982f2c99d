import Derived.Test.YtnkcbephceollabGreatQ22
import Derived.Deep.CutRange
namespace Go.Proofs.YtnkcbephceollabGreat
open Go.RowKit
set_option linter.unusedSimpArgs false
set_option linter.unusedVariables false
theorem heap_set {w:World}{b o:Nat}{cur:Array Value}{u:Value}{t:TypeId}(h:w.heap[b]?=some (.cells cur t (0,0))):(w.setCell ⟨b,o,none⟩ u).heap[b]?=some (.cells (cur.setIfInBounds o u) t (0,0)):=by
 have hlt:=lt_of_block h
 have h':w.heap[b] = .cells cur t (0,0):=by simpa [Array.getElem?_eq_getElem hlt] using h
 show (w.heap.modify b _)[b]?=_
 rw [Array.getElem?_eq_getElem (by simpa using hlt),Array.getElem_modify_self,h']
 rfl
theorem own_set {w:World}{base:Nat}{e:TypeId}{s:Nat}{v:Value}{n:Nat}{xs:List Value}(h:w.ownsRow base e s v n xs)(g:Nat)(hg:v.ownBlock=some g)(o:Nat)(u:Value):(w.setCell ⟨g,o,none⟩ u).ownsRow base e s v n (xs.set o u):=by
 obtain ⟨h1,h2⟩:=h
 refine ⟨by simpa using h1,?_⟩
 rcases h2 with ⟨rfl,_⟩ | ⟨g',cap,cur,rfl,hb,hh,hn,hc,hs,ht⟩
 ·simp [Value.ownBlock] at hg
 ·have:g'=g:=by simpa [Value.ownBlock] using hg
  subst this
  refine .inr ⟨g',cap,_,rfl,hb,heap_set hh,hn,hc,by simpa using hs,?_⟩
  rw [Array.toList_setIfInBounds,List.take_set,ht]
theorem own_later {w w':World}{base:Nat}{e:TypeId}{s:Nat}{v:Value}{n:Nat}{xs:List Value}(h:w.ownsRow base e s v n xs)(k:Below w.heap.size w w'):w'.ownsRow base e s v n xs:=by
 have hlt:=h.lt
 obtain ⟨h1,h2⟩:=h
 refine ⟨h1,?_⟩
 rcases h2 with h2 | ⟨g,cap,cur,rfl,hb,hh,r⟩
 ·exact .inl h2
 ·exact .inr ⟨g,cap,cur,rfl,hb,(k.block g (hlt g rfl).2).trans hh,r⟩
theorem own_free {w:World}{base:Nat}{e:TypeId}{s:Nat}{v:Value}{n:Nat}{xs:List Value}(h:w.ownsRow base e s v n xs)(g:Nat)(hg:v.ownBlock=some g)(o:Nat):w.frozen? ⟨g,o,none⟩=false:=by
 obtain ⟨h1,h2⟩:=h
 rcases h2 with ⟨rfl,_⟩ | ⟨g',cap,cur,rfl,hb,hh,hn,hc,hs,ht⟩
 ·simp [Value.ownBlock] at hg
 ·have:g'=g:=by simpa [Value.ownBlock] using hg
  subst this
  simp [World.frozen?,hh]
theorem ptCells_set (L:List Pt)(j:Nat)(q:Pt)(hj:j<L.length):(((ptCells L).set (j*3) (.int .i64 q.x)).set (j*3+1) (.int .i64 q.y)).set (j*3+2) (.int .i64 q.d)=ptCells (L.set j q):=by
 induction L generalizing j with
 | nil=>simp at hj
 | cons x L ih=>
  have e:ptCells (x::L) = .int .i64 x.x :: .int .i64 x.y :: .int .i64 x.d::ptCells L:=by simp [ptCells,ptCell]
  cases j with
  | zero=>
   rw [e]
   have e2:ptCells ((x::L).set 0 q) = .int .i64 q.x :: .int .i64 q.y :: .int .i64 q.d::ptCells L:=by simp [ptCells,ptCell]
   rw [e2];simp
  | succ j=>
   have e2:ptCells ((x::L).set (j+1) q) = .int .i64 x.x :: .int .i64 x.y :: .int .i64 x.d::ptCells (L.set j q):=by simp [ptCells,ptCell]
   rw [e,e2,<-ih j (by simpa using hj)]
   have s1:(j+1)*3=j*3+1+1+1:=by omega
   rw [s1]
   simp only [List.set_cons_succ]
def shiftM (l:List Pt)(p:Pt)(j:Nat):List Pt:=(l ++ [p]).take (j+1) ++ l.drop j
theorem shift_len (l:List Pt)(p:Pt)(j:Nat)(hj:j<=l.length):(shiftM l p j).length=l.length+1:=by
 unfold shiftM;simp;omega
theorem shift_start (l:List Pt)(p:Pt):shiftM l p l.length=l ++ [p]:=by
 unfold shiftM;rw [List.take_of_length_le (by simp),List.drop_length,List.append_nil]
theorem shift_at (l:List Pt)(p:Pt)(j:Nat)(hj:j+1<=l.length):(shiftM l p (j+1)).getD j zP=l.getD j zP:=by
 unfold shiftM
 rw [List.getD_eq_getElem?_getD,List.getD_eq_getElem?_getD,List.getElem?_append_left (by simp;omega),List.getElem?_take_of_lt (by omega),List.getElem?_append_left (by omega)]
theorem shift_step (l:List Pt)(p:Pt)(j:Nat)(hj:j+1<=l.length):(shiftM l p (j+1)).set (j+1) (l.getD j zP)=shiftM l p j:=by
 unfold shiftM
 have e1:(l ++ [p]).take (j+1+1)=(l ++ [p]).take (j+1) ++ [(l ++ [p]).getD (j+1) zP]:=by
  rw [List.take_succ_eq_append_getElem (by simp;omega),List.getD_eq_getElem?_getD,List.getElem?_eq_getElem (by simp;omega)];rfl
 have e2:l.drop j=l.getD j zP::l.drop (j+1):=by
  rw [List.drop_eq_getElem_cons (by omega),List.getD_eq_getElem?_getD,List.getElem?_eq_getElem (by omega)];rfl
 rw [e1,e2,List.append_assoc,List.set_append_right _ _ (by simp;omega)]
 have e3:j+1-((l ++ [p]).take (j+1)).length=0:=by simp;omega
 rw [e3];rfl
theorem shift_end (l:List Pt)(p:Pt)(i:Nat)(hi:i<=l.length):(shiftM l p i).set i p=l.take i ++ p::l.drop i:=by
 unfold shiftM
 have e1:(l ++ [p]).take (i+1)=(l ++ [p]).take i ++ [(l ++ [p]).getD i zP]:=by
  rw [List.take_succ_eq_append_getElem (by simp;omega),List.getD_eq_getElem?_getD,List.getElem?_eq_getElem (by simp;omega)];rfl
 have e2:(l ++ [p]).take i=l.take i:=List.take_append_of_le_length hi
 rw [e1,e2,List.append_assoc,List.set_append_right _ _ (by simp;omega)]
 have e3:i-(l.take i).length=0:=by simp;omega
 rw [e3];rfl
set_option maxRecDepth 100000 in
set_option maxHeartbeats 4000000 in
theorem insert_any (base:Nat)(v:Value)(l:List Pt)(p:Pt)(w:World)(hown:w.ownsRow base 31 3 v l.length (ptCells l))(hbase:base<=w.heap.size)(hn:l.length<=1000000)(hl:∀ x∈l,Gd x)(hp:Gd p) :
  Calls Tryz.prog 109 #[v,p.v] w fun e w'=>∃ v',e = .returned v'/\w'.ownsRow base 31 3 v' (insM l p).length (ptCells (insM l p))/\Kp (fun b=>v.ownBlock=some b) w w'/\(∀ g,v'.ownBlock=some g->v.ownBlock=some g\/w.heap.size<=g):=by
 obtain ⟨i0,hi0,hz0,hz1,hz2⟩:=info_parts infoPoint
 have hrow:=ring_of_own hown (by unfold maxLen;omega)
 obtain ⟨a,cap,hv,h1,h2,h3⟩:=id hrow
 have hne:v.ownBlock≠some w.heap.size:=fun e=>by have:=(hown.lt _ e).2;omega
 have hI:insM l p=if 0<idxL l p l.length/\cmpM p (l.getD (idxL l p l.length-1) zP)=0 then l else l.take (idxL l p l.length) ++ p::l.drop (idxL l p l.length):=rfl
 have HI:=hide hI
 have HL:=hide hl
 unfold maxLen at h2
 subst hv
 clear hI hl
 obtain ⟨W0,hW0⟩:∃ W,W=w.alloc (.cells #[.int .i64 p.x,.int .i64 p.y,.int .i64 p.d] 31):=⟨_,rfl⟩
 have B0:Below w.heap.size w W0:=by rw [hW0];exact (Below.refl _ _).alloc (Nat.le_refl _) _
 have Q0:Blk W0 w.heap.size #[.int .i64 p.x,.int .i64 p.y,.int .i64 p.d]:=by rw [hW0];exact Blk.new w _ _
 have O0:W0.ownsRow base 31 3 (.slice a l.length cap) l.length (ptCells l):=by rw [hW0];exact hown.alloc _
 have z0:W0.heap.size=w.heap.size+1:=by rw [hW0];simp
 go_enter Tryz.func109,Tryz.ntmps109
 go_upto_block 0 with fail
 rw [<-hW0]
 clear hW0
 go_cut [5] (fun iv w'=>iv = .int .i64 (idxL l p l.length:Nat)/\Below W0.heap.size W0 w')
 case first=>
  go_wp2_with fail
  go_loopw [5] (fun iv w'=>∃ i:Nat,iv = .int .i64 i/\i<=l.length/\Below W0.heap.size W0 w'/\Hid (idxL l p l.length=idxL l p i)) (fun iv _=>(intOf iv).toNat)
  case atStart=>exact ⟨l.length,rfl,Nat.le_refl _,Below.refl _ _,rfl⟩
  case round=>
   obtain ⟨i,rfl,hi,hbel,HB⟩:=hrel
   cases i with
   | zero=>
    have e0:((0:Nat):Int)=0:=rfl
    rw [e0]
    go_upto_region 2 with fail
    go_cut [20] (fun c w'=>c = .bool false/\Below W0.heap.size W0 w')
    case first=>
     go_quiet (fail)
     go_wp2
     go_meet
     case rel=>exact ⟨rfl,below_drewN hbel _⟩
    case rest=>
     obtain ⟨rfl,hb2⟩:=hcut
     go_wp2
     go_meet
     case rel=>exact ⟨by rw [HB.out];rfl,hb2⟩
   | succ k=>
    obtain ⟨b,off,rfl,hb,hs⟩:=h3 k (by omega)
    obtain ⟨px,py,pd⟩:=(hs.later B0 hb).later hbel (by omega)
    have gx:=HL.out _ (getD_mem (show k<l.length by omega) zP)
    have HC:=hide (show idxL l p (k+1)=if cmpM p (l.getD k zP)<0 then idxL l p k else k+1 from rfl)
    obtain ⟨cq,fq,zq⟩:=Q0.call hbel
    have C:=fun wz=>Compare_any p (l.getD k zP) wz hp gx
    generalize l.getD k zP=x at *
    have ec:(((k+1:Nat)):Int)=(k:Int)+1:=by omega
    have ek:(k:Int)+1-1=(k:Int):=by omega
    rw [ec]
    have hk0:(0:Int)<=(k:Int):=Int.natCast_nonneg _
    have hk1:(k:Int)<(l.length:Int):=by omega
    have hk2:(0:Int)<(k:Int)+1:=by omega
    have ewr:IntKind.i64.wrap ((k:Int)+1-1)=(k:Int):=by rw [ek];exact IntWalk.i64_in _ (by omega)
    have ewr2:IntKind.i64.wrap (k:Int)=(k:Int):=IntWalk.i64_in _ (by omega)
    go_upto_region 2 with fail
    go_cut [20] (fun c w'=>c = .bool (decide (cmpM p x<0))/\Below W0.heap.size W0 w')
    case first=>
     go_region_with (go_at_call 117;refine (C _).mono ?_;rintro e' w2 ⟨rfl,k2⟩)
     all_goals
      go_wp2_with fail
      go_meet
      case rel=>exact ⟨rfl,bvia hbel.drew k2⟩
    case rest=>
     obtain ⟨rfl,hb2⟩:=hcut
     clear px py pd cq fq zq hbel C
     by_cases hc:cmpM p x<0
     ·have HE:Hid (idxL l p l.length=idxL l p k):=HB.out.trans (HC.out.trans (if_pos hc))
      have hd:decide (cmpM p x<0)=true:=decide_eq_true hc
      rw [hd]
      clear HB HC hd hc
      go_wp2
      go_roundw
      case rel=>exact ⟨k,by go_num,by omega,hb2,HE⟩
      case measure=>simp [intOf] <;> omega
     ·have HE:Hid (idxL l p l.length=k+1):=HB.out.trans (HC.out.trans (if_neg hc))
      have hd:decide (cmpM p x<0)=false:=decide_eq_false hc
      rw [hd]
      clear HB HC hd hc
      go_wp2
      go_meet
      case rel=>exact ⟨by rw [HE.out,ec],hb2⟩
 case rest=>
  obtain ⟨rfl,B1⟩:=hcut
  have hile:=idxL_le l p l.length
  generalize idxL l p l.length=i at *
  have B1':=bvia B0 B1
  have Q1:=Q0.call B1
  have O1:wc.ownsRow base 31 3 (.slice a l.length cap) l.length (ptCells l):=own_later O0 B1
  obtain ⟨cq,fq,zq⟩:=id Q1
  go_upto_region 4 with fail
  go_cut [34] (fun c w'=>c = .bool (decide (0<i) && decide (cmpM p (l.getD (i-1) zP)=0))/\Below W0.heap.size W0 w')
  case first=>
   cases i with
   | zero=>
    have e0:((0:Nat):Int)=0:=rfl
    rw [e0]
    go_quiet (fail)
    go_wp2
    go_meet
    case rel=>exact ⟨rfl,below_drewN B1 _⟩
   | succ k=>
    obtain ⟨b,off,rfl,hb,hs⟩:=h3 k (by omega)
    obtain ⟨px,py,pd⟩:=(hs.later B0 hb).later B1 (by omega)
    have gx:=HL.out _ (getD_mem (show k<l.length by omega) zP)
    have C:=fun wz=>Compare_any p (l.getD k zP) wz hp gx
    generalize hxx:l.getD k zP=x at *
    have HXX:Hid (l.getD (k+1-1) zP=x):=hxx
    clear hxx
    have ec:(((k+1:Nat)):Int)=(k:Int)+1:=by omega
    have ek:(k:Int)+1-1=(k:Int):=by omega
    rw [ec]
    have hk0:(0:Int)<=(k:Int):=Int.natCast_nonneg _
    have hk1:(k:Int)<(l.length:Int):=by omega
    have hk2:(0:Int)<(k:Int)+1:=by omega
    have ewr:IntKind.i64.wrap ((k:Int)+1-1)=(k:Int):=by rw [ek];exact IntWalk.i64_in _ (by omega)
    have ewr2:IntKind.i64.wrap (k:Int)=(k:Int):=IntWalk.i64_in _ (by omega)
    go_region_with (go_at_call 117;refine (C _).mono ?_;rintro e' w2 ⟨rfl,k2⟩)
    all_goals
     go_wp2_with fail
     go_meet
     case rel=>exact ⟨by rw [HXX.out];simp;rfl,bvia B1.drew k2⟩
  case rest=>
   clear B1 O1 Q1 cq fq zq B1'
   obtain ⟨rfl,B2⟩:=hcut
   have B2':=bvia B0 B2
   have O2:=hide (own_later O0 B2)
   by_cases hc:0<i/\cmpM p (l.getD (i-1) zP)=0
   ·have HE:Hid (insM l p=l):=HI.out.trans (if_pos hc)
    have hd:(decide (0<i) && decide (cmpM p (l.getD (i-1) zP)=0))=true:=by rw [decide_eq_true hc.1,decide_eq_true hc.2];rfl
    rw [hd]
    clear hd
    go_wp2
    go_ret
    exact ⟨_,rfl,by rw [HE.out];exact O2.out,Kp.of B2',fun g hg=>.inl hg⟩
   ·have HE:Hid (insM l p=l.take i ++ p::l.drop i):=HI.out.trans (if_neg hc)
    have hd:(decide (0<i) && decide (cmpM p (l.getD (i-1) zP)=0))=false:=by
     rw [<-Bool.not_eq_true];simpa using hc
    rw [hd]
    clear hd hc HI
    have hn1:l.length+1<=maxLen:=by unfold maxLen;omega
    have hn2:(l.length+1)*24<=140737488355328:=by omega
    have hb2:=B2.size
    have hnews:=World.news_of_block (w:=wc.alloc (.cells #[.int .i64 p.x,.int .i64 p.y,.int .i64 p.d] 31)) (cs:=#[.int .i64 p.x,.int .i64 p.y,.int .i64 p.d]) (t:=31) (fr:=(0,0)) (heap_alloc_new wc _)
    obtain ⟨cq,fq,zq⟩:=Q0.call B2
    go_wp2_with (at_builtin;refine wpList_append_lies _ rfl _ _ _ rfl base 31 i0 _ 3 24 Tryz.underlying57 hi0 hz0 hz1 hz2 rfl (by omega) (.slice a l.length cap) l.length (ptCells l) rfl (O2.out.alloc _) ⟨wc.heap.size,0,none⟩ 1 1 (ptCell p) rfl rfl hnews (by simp [ptCell,Value.oneCell']) (by omega) hn1 hn2 (by simp;omega) _ rfl ?_;intro gg cp w2 hown2 hgrow hat hlt2)
    have hgw:gg≠w.heap.size:=by
     rcases hat with h | h
     ·have:=(hown.lt gg h).2;omega
     ·simp at h;omega
    have hgx:gg<w.heap.size->(Value.slice a l.length cap).ownBlock=some gg:=fun h=>by
     rcases hat with k | k
     ·exact k
     ·simp at k;omega
    have K2:Kp (fun b=>(Value.slice a l.length cap).ownBlock=some b) w w2:=Kp.grown ((Kp.of B2').alloc _) hgrow (fun k hk=>hk)
    have Q2:Blk w2 w.heap.size #[.int .i64 p.x,.int .i64 p.y,.int .i64 p.d]:=by
     have q:=(Blk.mk cq fq zq).alloc (.cells #[.int .i64 p.x,.int .i64 p.y,.int .i64 p.d] 31)
     have e:=hgrow.block w.heap.size q.lt (fun k=>by have:=(hown.lt _ k.symm).2;omega)
     exact ⟨fun o=>(World.cell?_of_block (a:=⟨w.heap.size,o,none⟩) e).trans (q.cell o),fun o=>(World.frozen?_of_block (a:=⟨w.heap.size,o,none⟩) e).trans (q.free o),Nat.lt_of_lt_of_le q.lt hgrow.size⟩
    have OS:w2.ownsRow base 31 3 (.slice (some ⟨gg,0,none⟩) (l.length+1) cp) (l.length+1) (ptCells (shiftM l p l.length)):=by
     rw [shift_start,ptCells_append]
     have e2:ptCells [p]=ptCell p:=by simp [ptCells]
     rw [e2];exact hown2
    have HGX:=hide hgx
    have hat':∀ g,some gg=some g->(Value.slice a l.length cap).ownBlock=some g\/w.heap.size<=g:=fun g hg=>by
     have:gg=g:=by simpa using hg
     subst this
     rcases Nat.lt_or_ge gg w.heap.size with k | k
     ·exact .inl (hgx k)
     ·exact .inr k
    have HAT:=hide hat'
    clear hown2 hgrow hat hnews cq fq zq O2 B2' hgx hat'
    go_loopw [6] (fun jv w'=>∃ j:Nat,jv = .int .i64 j/\i<=j/\j<=l.length/\w'.ownsRow base 31 3 (.slice (some ⟨gg,0,none⟩) (l.length+1) cp) (l.length+1) (ptCells (shiftM l p j))/\Kp (fun b=>(Value.slice a l.length cap).ownBlock=some b) w w'/\Blk w' w.heap.size #[.int .i64 p.x,.int .i64 p.y,.int .i64 p.d]) (fun jv _=>(intOf jv).toNat)
    case atStart=>exact ⟨l.length,rfl,hile,Nat.le_refl _,OS,K2,Q2⟩
    case round=>
     obtain ⟨j,rfl,hij,hjl,hO,hK,hQ⟩:=hrel
     have hcell:∀ m t,m<l.length+1->t<3->wr.cell? ⟨gg,m*3+t,none⟩=(ptCell ((shiftM l p j).getD m zP))[t]?:=fun m t hm ht=>by
      rw [own_cell hO gg rfl (m*3+t) (by omega)]
      exact ptCells_at _ m t (by rw [shift_len l p j hjl];omega) ht
     have hfree:=own_free hO gg rfl
     by_cases hlt:i<j
     ·obtain ⟨k,rfl⟩:∃ k,j=k+1:=⟨j-1,by omega⟩
      have HS:=hide (shift_step l p k hjl)
      have sa:=shift_at l p k hjl
      have s0:=hcell k 0 (by omega) (by decide)
      have s1:=hcell k 1 (by omega) (by decide)
      have s2:=hcell k 2 (by omega) (by decide)
      rw [sa] at s0 s1 s2
      simp only [ptCell,Nat.add_zero,List.getElem?_cons_zero,List.getElem?_cons_succ] at s0 s1 s2
      have t0:=hcell (k+1) 0 (by omega) (by decide)
      have t1:=hcell (k+1) 1 (by omega) (by decide)
      have t2:=hcell (k+1) 2 (by omega) (by decide)
      simp only [ptCell,Nat.add_zero,List.getElem?_cons_zero,List.getElem?_cons_succ] at t0 t1 t2
      have ec:(((k+1:Nat)):Int)=(k:Int)+1:=by omega
      rw [ec]
      have hk0:(0:Int)<=(k:Int):=Int.natCast_nonneg _
      have hk1:(k:Int)+1<(l.length:Int)+1:=by omega
      have hk2:(k:Int)<(l.length:Int)+1:=by omega
      have hki:(i:Int)<(k:Int)+1:=by omega
      have hO':=hide hO
      generalize l.getD k zP=y at *
      generalize (shiftM l p (k+1)).getD (k+1) zP=z at *
      clear hcell hO
      go_wp2
      go_roundw
      case rel=>
       refine ⟨k,by go_num,by omega,by omega,?_,?_,?_⟩
       ·have o3:=own_set (own_set (own_set hO'.out gg rfl ((k+1)*3) (.int .i64 y.x)) gg rfl ((k+1)*3+1) (.int .i64 y.y)) gg rfl ((k+1)*3+2) (.int .i64 y.d)
        rw [ptCells_set _ _ _ (by rw [shift_len l p (k+1) hjl];omega),HS.out] at o3
        exact o3
       ·exact ((hK.setCell (p:=⟨gg,(k+1)*3,none⟩) HGX.out _).setCell (p:=⟨gg,(k+1)*3+1,none⟩) HGX.out _).setCell (p:=⟨gg,(k+1)*3+2,none⟩) HGX.out _
       ·exact ((hQ.off (Ne.symm hgw) _ _).off (Ne.symm hgw) _ _).off (Ne.symm hgw) _ _
      case measure=>simp [intOf] <;> omega
     ·have ej:j=i:=by omega
      subst ej
      have HS:=hide (shift_end l p j hjl)
      have t0:=hcell j 0 (by omega) (by decide)
      have t1:=hcell j 1 (by omega) (by decide)
      have t2:=hcell j 2 (by omega) (by decide)
      simp only [ptCell,Nat.add_zero,List.getElem?_cons_zero,List.getElem?_cons_succ] at t0 t1 t2
      have hk0:(0:Int)<=(j:Int):=Int.natCast_nonneg _
      have hk1:(j:Int)<(l.length:Int)+1:=by omega
      have hO':=hide hO
      obtain ⟨cq,fq,zq⟩:=id hQ
      generalize (shiftM l p j).getD j zP=z at *
      clear hcell hO
      go_wp2
      go_ret
      refine ⟨_,rfl,?_,?_,HAT.out⟩
      ·have o3:=own_set (own_set (own_set hO'.out gg rfl (j*3) (.int .i64 p.x)) gg rfl (j*3+1) (.int .i64 p.y)) gg rfl (j*3+2) (.int .i64 p.d)
       rw [ptCells_set _ _ _ (by rw [shift_len l p j hjl];omega),HS.out,<-HE.out] at o3
       have el:(insM l p).length=l.length+1:=by rw [HE.out];simp;omega
       rw [el];exact o3
      ·exact ((hK.setCell (p:=⟨gg,j*3,none⟩) HGX.out _).setCell (p:=⟨gg,j*3+1,none⟩) HGX.out _).setCell (p:=⟨gg,j*3+2,none⟩) HGX.out _
theorem own_off {w:World}{base:Nat}{e:TypeId}{s n:Nat}{v:Value}{xs:List Value}(h:w.ownsRow base e s v n xs){b:Nat}(hb:v.ownBlock≠some b)(o:Nat)(u:Value):(w.setCell ⟨b,o,none⟩ u).ownsRow base e s v n xs:=
 ownsRow_setCell_other (a:=⟨b,o,none⟩) h hb u
theorem set1 (u:Value):∀ (o:Nat) (l:List Value),o<l.length->l.set o u=l.take o ++ u::l.drop (o+1)
 | 0,l,h=>by
  match l,h with
  | a::l',_=>simp
 | o+1,l,h=>by
  match l,h with
  | x::l',h=>
   rw [List.set_cons_succ,set1 u o l' (by simpa using h)];simp
theorem own_set1 {w:World}{base g n cap k:Nat}{m:Int}{e:TypeId}{xs:List Value}(h:w.ownsRow base e 1 (.slice (some ⟨g,0,none⟩) n cap) n (rep k [.int .i64 m] ++ xs.drop k))(hxl:xs.length=n*1)(hlt:k<n) :
  (w.setCell ⟨g,k,none⟩ (.int .i64 m)).drew.ownsRow base e 1 (.slice (some ⟨g,0,none⟩) n cap) n (rep (k+1) [.int .i64 m] ++ xs.drop (k+1)):=by
 have hrl:(rep k [(.int .i64 m:Value)]).length=k:=by rw [rep_len];simp
 have o1:=own_set h g rfl k (.int .i64 m)
 have e1:(rep k [(.int .i64 m:Value)] ++ xs.drop k).set k (.int .i64 m)=rep (k+1) [.int .i64 m] ++ xs.drop (k+1):=by
  rw [set1 _ _ _ (by rw [List.length_append,hrl,List.length_drop];omega),List.take_left' hrl,List.drop_append,hrl,List.drop_of_length_le (by omega),List.nil_append,List.drop_drop,rep_succ,List.append_assoc]
  have e2:k+(k+1-k)=k+1:=by omega
  rw [e2]
  rfl
 rw [e1] at o1
 exact o1
set_option maxRecDepth 100000 in
set_option maxHeartbeats 4000000 in
theorem marks_nums (base h n:Nat)(m:Int)(cv:Value)(xs:List Value)(w:World)(hne:cv.ownBlock≠some h)(hn:n<=1100000)(hh:Blk w h #[.slice none 0 0,.slice none 0 0,.slice none 0 0,cv,.int .i64 m])(hc:w.ownsRow base 3 1 cv n xs) :
  Calls Tryz.prog 51 #[.pointer (some ⟨h,0,none⟩)] w fun e w'=>e = .returned (.tuple #[])/\w'.ownsRow base 3 1 cv n (rep n [.int .i64 m])/\Kp (fun b=>cv.ownBlock=some b) w w':=by
 obtain ⟨a,cap,hcv,hag⟩:∃ a cap,cv = .slice a n cap/\(0<n->∃ g,a=some ⟨g,0,none⟩):=by
  rcases hc.2 with ⟨rfl,hn⟩ | ⟨g,cap,cur,rfl,_⟩
  ·exact ⟨none,0,by rw [hn],fun h=>by omega⟩
  ·exact ⟨some ⟨g,0,none⟩,cap,rfl,fun _=>⟨g,rfl⟩⟩
 subst hcv
 have hxl:xs.length=n*1:=hc.1
 obtain ⟨d0,d1,d2,d3,d4⟩:=And.intro (hh.cell 0) (And.intro (hh.cell 1) (And.intro (hh.cell 2) (And.intro (hh.cell 3) (hh.cell 4))))
 simp at d0 d1 d2 d3 d4
 go_enter Tryz.func51,Tryz.ntmps51
 go_wp2_with fail
 refine wp_loop_rounds 1 ?_
 rw [rounds_succ]
 go_wp2_with fail
 refine wp_loop_rounds 1 ?_
 rw [rounds_succ]
 go_wp2_with fail
 refine wp_loop_rounds 1 ?_
 rw [rounds_succ]
 go_wp2_with fail
 go_loopw [5] (fun i w'=>∃ k:Nat,i = .int .i64 k/\k<=n/\w'.ownsRow base 3 1 (.slice a n cap) n (rep k [.int .i64 m] ++ xs.drop k)/\Kp (fun b=>(Value.slice a n cap).ownBlock=some b) w w') (fun i _=>n-(intOf i).toNat)
 case atStart=>exact ⟨0,rfl,Nat.zero_le _,by simpa [rep] using hc,Kp.refl _ _⟩
 case round=>
  obtain ⟨k,rfl,hk,hO,hkp⟩:=hrel
  have hcell:∀ o,wr.cell? ⟨h,o,none⟩=w.cell? ⟨h,o,none⟩:=fun o=>World.cell?_of_block (w:=w) (hkp.block h hh.lt hne)
  have c0:=(hcell 0).trans d0
  have c1:=(hcell 1).trans d1
  have c2:=(hcell 2).trans d2
  have c3:=(hcell 3).trans d3
  have c4:=(hcell 4).trans d4
  clear hcell d0 d1 d2 d3 d4
  by_cases hlt:k<n
  ·obtain ⟨g,rfl⟩:=hag (by omega)
   have hl:=(hO.lt g rfl).2
   have hf:∀ o,wr.frozen? ⟨g,o,none⟩=false:=fun o=>own_free hO g rfl o
   obtain ⟨x0,hx0⟩:∃ u,wr.cell? ⟨g,k,none⟩=some u:=by
    have:=hO.cellAt k (by omega)
    rw [List.getElem?_eq_getElem (by rw [List.length_append,rep_len,List.length_drop];simp;omega)] at this
    exact ⟨_,this⟩
   have hhl:h<wr.heap.size:=Nat.lt_of_lt_of_le hh.lt hkp.size
   have hgh:g≠h:=fun e=>hne (by rw [e];rfl)
   have hk0:(0:Int)<=(k:Int):=Int.natCast_nonneg _
   have hk1:(k:Int)<(n:Int):=by omega
   have hk2:k+1<=n:=hlt
   have HO:Hid ((wr.setCell ⟨g,k,none⟩ (.int .i64 m)).drew.ownsRow base 3 1 (.slice (some ⟨g,0,none⟩) n cap) n (rep (k+1) [.int .i64 m] ++ xs.drop (k+1))):=hide (own_set1 hO hxl hlt)
   have HKP:Hid (Kp (fun b=>(Value.slice (some ⟨g,0,none⟩) n cap).ownBlock=some b) w (wr.setCell ⟨g,k,none⟩ (.int .i64 m)).drew):=hide ((hkp.setCell (p:=⟨g,k,none⟩) (fun _=>rfl) _).drew)
   clear hO hkp hag
   go_wp2_with fail
   go_region
   go_wp2
   exact ⟨⟨k+1,by go_num,hk2,HO.out,HKP.out⟩,by simp [intOf];omega⟩
  ·have ek:k=n:=by omega
   subst ek
   have HO:Hid (wr.ownsRow base 3 1 (.slice a k cap) k (rep k [.int .i64 m])):=by
    have:rep k [.int .i64 m] ++ xs.drop k=rep k [.int .i64 m]:=by rw [List.drop_of_length_le (by omega),List.append_nil]
    rw [this] at hO
    exact hO
   have HKP:=hide hkp
   clear hO hkp hag
   go_wp2
   go_end0
   exact ⟨rfl,HO.out,HKP.out⟩
theorem fam_nums (w:World)(base h n:Nat)(m m0:Int)(cv:Value)(xs:List Value)(hne:cv.ownBlock≠some h)(hn:n<=1100000)(hh:Blk w h #[.slice none 0 0,.slice none 0 0,.slice none 0 0,cv,.int .i64 m0])(hc:w.ownsRow base 3 1 cv n xs) :
  Calls Tryz.prog 51 #[.pointer (some ⟨h,0,none⟩)] (w.setCell ⟨h,4,none⟩ (.int .i64 m)) fun e w'=>e = .returned (.tuple #[])/\∃ rs,Fam w' base m (.slice none 0 0) (.slice none 0 0) (.slice none 0 0) cv 0 0 0 n rs/\(∀ q∈rs,w.heap.size<=q)/\Kp (fun b=>(Value.slice none 0 0).ownBlock=some b\/(Value.slice none 0 0).ownBlock=some b\/(Value.slice none 0 0).ownBlock=some b\/cv.ownBlock=some b) (w.setCell ⟨h,4,none⟩ (.int .i64 m)) w':=by
 have hh1:=hh.set 4 (by simp) (.int .i64 m)
 refine (marks_nums base h n m cv xs (w.setCell ⟨h,4,none⟩ (.int .i64 m)) hne hn (by simpa using hh1) (own_off hc hne _ _)).mono ?_
 rintro e w' ⟨rfl,ho,hkp⟩
 exact ⟨rfl,[],⟨rfl,own_nil _ _ _ _,fun q hq=>(by cases hq),own_nil _ _ _ _,own_nil _ _ _ _,ho,fun q hq=>(by cases hq)⟩,(fun q hq=>by cases hq),hkp.weaken fun b _ e=>.inr (.inr (.inr e))⟩
theorem keep_nums (base wb n:Nat)(hv cv:Value)(L:List Nat)(X:Nat->Prop)(xs:List Value)(w:World)(hL:L.length<=1000000000000)(hn:n<=1100000)(hX:∀ b,X b->b<w.heap.size)(hbase:base<=w.heap.size)
  (hW:Wld w base wb hv L (FX (fun b _=>¬ X b/\cv.ownBlock≠some b) wb hv)) (hc:w.ownsRow base 3 1 cv n xs) (hx:∀ b,cv.ownBlock=some b->¬ X b/\hv.ownBlock≠some b) :
  Calls Tryz.prog 27 #[.pointer (some ⟨wb,0,none⟩),.pointer (some ⟨w.heap.size,0,none⟩)] (w.alloc (.cells #[.slice none 0 0,.slice none 0 0,.slice none 0 0,cv,.int .i64 0] 60)) fun e w'=>e = .returned (.tuple #[])/\∃ hv' L',L'.length=L.length+4/\Wld w' base wb hv' L' (FX (fun b _=>¬ X b) wb hv')/\Kp (fun b=>b=wb\/hv.ownBlock=some b\/cv.ownBlock=some b) w w'/\Fresh w hv hv':=by
 have hh:=Blk.new w #[.slice none 0 0,.slice none 0 0,.slice none 0 0,cv,.int .i64 0] 60
 have hbl:=(Below.refl w.heap.size w).alloc (Nat.le_refl _) (.cells #[.slice none 0 0,.slice none 0 0,.slice none 0 0,cv,.int .i64 0] 60)
 have hwl:=hW.blk.lt
 have hcl:∀ b,cv.ownBlock=some b->base<=b/\b<w.heap.size:=fun b e=>hc.lt b e
 have hW1:Wld (w.alloc (.cells #[.slice none 0 0,.slice none 0 0,.slice none 0 0,cv,.int .i64 0] 60)) base wb hv L (FX (fun b _=>¬ X b/\b≠w.heap.size/\(Value.slice none 0 0).ownBlock≠some b/\(Value.slice none 0 0).ownBlock≠some b/\(Value.slice none 0 0).ownBlock≠some b/\cv.ownBlock≠some b) wb hv):=by
  refine hW.kp (X:=fun _=>False) (Kp.of hbl) (fun e=>e) (fun _ _ e=>e) (fun b o u ⟨⟨x1,x2⟩,x3,x4⟩ hc=>?_)
  have hlt:b<w.heap.size:=World.block_lt_of_cell? w ⟨b,o,none⟩ hc
  exact ⟨(hbl.cell (p:=⟨b,o,none⟩) hlt).trans hc,⟨x1,by omega,nil_own _,nil_own _,nil_own _,x2⟩,x3,x4⟩
 refine (keep_any base wb w.heap.size hv L X _ _ _ _ 0 0 0 n 0 _ hL (by omega) (by omega) (by omega) hn (fun b e=>by have:=hX b e;simp;omega) hW1 hh (by omega) (fun e=>by have:=(hW.own.lt _ e).2;omega) (fun e=>by have:=hX _ e;omega) (nil_own _) (nil_own _) (nil_own _) (fun e=>by have:=hcl _ e;omega) ?_ (by simp;omega) ?_).mono ?_
 ·intro b e
  rcases e with e | e | e | e
  ·exact absurd e (nil_own _)
  ·exact absurd e (nil_own _)
  ·exact absurd e (nil_own _)
  ·exact ⟨(hx b e).1,(hx b e).2,by have:=hW.lt;have:=hcl b e;omega⟩
 ·exact (fam_nums _ base w.heap.size n _ 0 cv xs (fun e=>by have:=hcl _ e;omega) hn hh (hc.alloc _))
 ·rintro e w' ⟨rfl,hv',L',hl,hW',hk,hf⟩
  refine ⟨rfl,hv',L',hl,hW',⟨hk.os,hk.tape,hk.output,by have:=hk.size;simp at this;omega,fun b hb hnx=>?_⟩,?_⟩
  ·refine (hk.block b (by simp;omega) (fun e=>hnx ?_)).trans (hbl.block b hb)
   rcases e with e | e | e | e | e | e | e
   ·exact .inl e
   ·exact .inr (.inl e)
   ·omega
   ·exact absurd e (nil_own _)
   ·exact absurd e (nil_own _)
   ·exact absurd e (nil_own _)
   ·exact .inr (.inr e)
  ·rcases hf with hf | ⟨k,hf,hk⟩
   ·exact .inl hf
   ·exact .inr ⟨k,hf,by simp at hk;omega⟩
end Go.Proofs.YtnkcbephceollabGreat
