import Derived.Test.YtnkcbephceollabGreatU5
namespace Go.Proofs.YtnkcbephceollabGreat
open Go.RowKit
set_option linter.unusedSimpArgs false
set_option linter.unusedVariables false
set_option maxRecDepth 100000 in
set_option maxHeartbeats 1000000 in
theorem offGrid_any (v:Value)(E:List (Pt×Pt))(w:World)(hE:SegsAt w v E) :
  Calls Tryz.prog 76 #[v] w fun e w'=>e = .returned (.int .i64 (findM (fun e:Pt×Pt=>!gridB e.1) 0 E))/\Below w.heap.size w w':=by
 obtain ⟨a,cap,rfl,h1,h2,h3⟩:=hE
 unfold maxLen at h2
 go_enter Tryz.func76,Tryz.ntmps76
 go_wp2_with fail
 go_loopw [3,4,7] (fun _ _ i w'=>∃ k:Nat,i = .int .i64 k/\k<=E.length/\Below w.heap.size w w'/\Hid (findM (fun e:Pt×Pt=>!gridB e.1) 0 E=findM (fun e:Pt×Pt=>!gridB e.1) k (E.drop k))) (fun _ _ i _=>E.length-(intOf i).toNat)
 case atStart=>exact ⟨0,rfl,Nat.zero_le _,Below.refl _ _,rfl⟩
 case round=>
  obtain ⟨k,rfl,hk,hbel,HB⟩:=hrel
  by_cases hlt:k<E.length
  ·obtain ⟨b,off,rfl,hb,hs⟩:=h3 k hlt
   have hs':=hs.later hbel hb
   have HC:=hide (findM_cons (fun e:Pt×Pt=>!gridB e.1) k E k hlt (zP,zP))
   generalize E.getD k (zP,zP)=e at *
   obtain ⟨c0,c1,c2,c3,c4,c5⟩:=hs'
   clear h3 hs
   go_wp2_with fail
   refine (IsGrid_any e.1 _).mono ?_
   rintro e' w1 ⟨rfl,k1⟩
   have B1:=bvia (hbel.alloc hbel.size _) k1
   obtain ⟨cx,fx,zx⟩:=(Blk.new wr _ _).call k1
   clear k1 c0 c1 c2 c3 c4 c5
   by_cases ht:(fun e:Pt×Pt=>!gridB e.1) e=true
   ·have HE:Hid (findM (fun e:Pt×Pt=>!gridB e.1) 0 E=k):=HB.out.trans (HC.out.trans (if_pos ht))
    clear HB HC
    have hg:gridB e.1=false:=by simpa using ht
    clear ht
    go_wp2
    go_ret
    exact ⟨ret_if HE.out.symm,B1⟩
   ·have HE:Hid (findM (fun e:Pt×Pt=>!gridB e.1) 0 E=findM (fun e:Pt×Pt=>!gridB e.1) (k+1) (E.drop (k+1))):=HB.out.trans (HC.out.trans (if_neg ht))
    clear HB HC
    have hg:gridB e.1=true:=by simpa using ht
    clear ht
    go_wp2
    go_roundw
    case rel=>exact ⟨k+1,by go_num,by omega,B1,HE⟩
    case measure=>simp [intOf];omega
  ·have HE:Hid (findM (fun e:Pt×Pt=>!gridB e.1) 0 E = -1):=by rw [HB.out,List.drop_of_length_le (by omega)];rfl
   clear h3 HB
   go_wp2
   go_ret
   exact ⟨ret_if HE.out.symm,hbel⟩
set_option maxRecDepth 100000 in
set_option maxHeartbeats 1000000 in
theorem emptyEdge_any (v:Value)(E:List (Pt×Pt))(w:World)(hE:SegsAt w v E) :
  Calls Tryz.prog 77 #[v] w fun e w'=>e = .returned (.int .i64 (findM (fun e:Pt×Pt=>eqB e.1 e.2) 0 E))/\Below w.heap.size w w':=by
 obtain ⟨a,cap,rfl,h1,h2,h3⟩:=hE
 unfold maxLen at h2
 go_enter Tryz.func77,Tryz.ntmps77
 go_wp2_with fail
 go_loopw [3,4,7] (fun _ _ i w'=>∃ k:Nat,i = .int .i64 k/\k<=E.length/\Below w.heap.size w w'/\Hid (findM (fun e:Pt×Pt=>eqB e.1 e.2) 0 E=findM (fun e:Pt×Pt=>eqB e.1 e.2) k (E.drop k))) (fun _ _ i _=>E.length-(intOf i).toNat)
 case atStart=>exact ⟨0,rfl,Nat.zero_le _,Below.refl _ _,rfl⟩
 case round=>
  obtain ⟨k,rfl,hk,hbel,HB⟩:=hrel
  by_cases hlt:k<E.length
  ·obtain ⟨b,off,rfl,hb,hs⟩:=h3 k hlt
   have hs':=hs.later hbel hb
   have HC:=hide (findM_cons (fun e:Pt×Pt=>eqB e.1 e.2) k E k hlt (zP,zP))
   generalize E.getD k (zP,zP)=e at *
   obtain ⟨c0,c1,c2,c3,c4,c5⟩:=hs'
   clear h3 hs
   go_wp2_with fail
   refine (IsEmpty_any e.1 e.2 _).mono ?_
   rintro e' w1 ⟨rfl,k1⟩
   have B1:=bvia (hbel.alloc hbel.size _) k1
   obtain ⟨cx,fx,zx⟩:=(Blk.new wr _ _).call k1
   clear k1 c0 c1 c2 c3 c4 c5
   by_cases ht:(fun e:Pt×Pt=>eqB e.1 e.2) e=true
   ·have HE:Hid (findM (fun e:Pt×Pt=>eqB e.1 e.2) 0 E=k):=HB.out.trans (HC.out.trans (if_pos ht))
    clear HB HC
    have hg:eqP e.1 e.2=true:=ht
    clear ht
    go_wp2
    go_ret
    exact ⟨ret_if HE.out.symm,B1⟩
   ·have HE:Hid (findM (fun e:Pt×Pt=>eqB e.1 e.2) 0 E=findM (fun e:Pt×Pt=>eqB e.1 e.2) (k+1) (E.drop (k+1))):=HB.out.trans (HC.out.trans (if_neg ht))
    clear HB HC
    have hg:eqP e.1 e.2=false:=by simpa [eqP,eqB] using ht
    clear ht
    go_wp2
    go_roundw
    case rel=>exact ⟨k+1,by go_num,by omega,B1,HE⟩
    case measure=>simp [intOf];omega
  ·have HE:Hid (findM (fun e:Pt×Pt=>eqB e.1 e.2) 0 E = -1):=by rw [HB.out,List.drop_of_length_le (by omega)];rfl
   clear h3 HB
   go_wp2
   go_ret
   exact ⟨ret_if HE.out.symm,hbel⟩
def GrE (E:List (Pt×Pt)):Prop:=∀ j,j<E.length->Gr (E.getD j (zP,zP)).1/\Gr (E.getD j (zP,zP)).2
theorem any_drop {α:Type}(f:α->Bool)(l:List α)(k:Nat)(hk:k<l.length)(d:α):(l.drop k).any f=(f (l.getD k d) || (l.drop (k+1)).any f):=by
 rw [List.drop_eq_getElem_cons hk,List.any_cons,List.getD_eq_getElem?_getD,List.getElem?_eq_getElem hk];rfl
set_option maxRecDepth 100000 in
set_option maxHeartbeats 1000000 in
theorem liesAlong_any (g:Pt×Pt)(v:Value)(E:List (Pt×Pt))(w:World)(hE:SegsAt w v E)(hg1:Gr g.1)(hg2:Gr g.2)(hG:GrE E) :
  Calls Tryz.prog 104 #[sg g.1 g.2,v] w fun e w'=>e = .returned (.bool (E.any (alongB g)))/\Below w.heap.size w w':=by
 obtain ⟨a,cap,rfl,h1,h2,h3⟩:=hE
 unfold maxLen at h2
 go_enter Tryz.func104,Tryz.ntmps104
 go_wp2_with fail
 go_loopw [6,7,10] (fun _ _ i w'=>∃ k:Nat,i = .int .i64 k/\k<=E.length/\Blk w' w.heap.size #[.int .i64 g.1.x,.int .i64 g.1.y,.int .i64 g.1.d,.int .i64 g.2.x,.int .i64 g.2.y,.int .i64 g.2.d]/\Below w.heap.size w w'/\Hid (E.any (alongB g)=(E.drop k).any (alongB g))) (fun _ _ i _=>E.length-(intOf i).toNat)
 case atStart=>exact ⟨0,rfl,Nat.zero_le _,Blk.new w _ _,(Below.refl _ _).alloc (Nat.le_refl _) _,rfl⟩
 case round=>
  obtain ⟨k,rfl,hk,⟨cg,fg,zg⟩,hbel,HB⟩:=hrel
  by_cases hlt:k<E.length
  ·obtain ⟨b,off,rfl,hb,hs⟩:=h3 k hlt
   have hs':=hs.later hbel hb
   have HC:=hide (any_drop (alongB g) E k hlt (zP,zP))
   have hgr:=hG k hlt
   generalize E.getD k (zP,zP)=e at *
   obtain ⟨he1,he2⟩:=hgr
   obtain ⟨c0,c1,c2,c3,c4,c5⟩:=hs'
   clear h3 hs hG
   go_wp2_with fail
   refine (segMeet_any g.1 g.2 e.1 e.2 _ hg1 hg2 he1 he2).mono ?_
   rintro e' w1 ⟨rfl,k1⟩
   have B1:=bvia (hbel.alloc hbel.size _) k1
   obtain ⟨cg1,fg1,zg1⟩:=((Blk.mk cg fg zg).alloc _).call k1
   clear k1 c0 c1 c2 c3 c4 c5 cg fg
   by_cases ht:((meetM g.1 g.2 e.1 e.2).k == 2)=true
   ·have HE:Hid (E.any (alongB g)=true):=HB.out.trans (HC.out.trans (by rw [show alongB g e=true from ht];rfl))
    clear HB HC
    go_wp2
    go_ret
    exact ⟨ret_bool HE.out.symm,B1.alloc B1.size _⟩
   ·have ht':((meetM g.1 g.2 e.1 e.2).k == 2)=false:=by simpa using ht
    have HE:Hid (E.any (alongB g)=(E.drop (k+1)).any (alongB g)):=HB.out.trans (HC.out.trans (by rw [show alongB g e=false from ht'];rfl))
    clear HB HC ht
    go_wp2
    go_roundw
    case rel=>exact ⟨k+1,by go_num,by omega,(Blk.mk cg1 fg1 zg1).alloc _,B1.alloc B1.size _,HE⟩
    case measure=>simp [intOf];omega
  ·have HE:Hid (E.any (alongB g)=false):=by rw [HB.out,List.drop_of_length_le (by omega)];rfl
   clear h3 HB hG
   go_wp2
   go_ret
   exact ⟨ret_bool HE.out.symm,hbel⟩
theorem SegsAt.take {w:World}{a:Option Addr}{cap:Nat}{E:List (Pt×Pt)}(h:SegsAt w (.slice a E.length cap) E)(k:Nat)(hk:k<=E.length):SegsAt w (.slice a k cap) (E.take k):=by
 obtain ⟨a',cap',e,h1,h2,h3⟩:=h
 simp at e
 obtain ⟨rfl,rfl⟩:=e
 have hl:(E.take k).length=k:=by simp;omega
 refine ⟨a,cap,by rw [hl],by omega,h2,fun j hj=>?_⟩
 obtain ⟨b,off,rfl,hb,hs⟩:=h3 j (by omega)
 refine ⟨b,off,rfl,hb,?_⟩
 have:(E.take k).getD j (zP,zP)=E.getD j (zP,zP):=by
  rw [List.getD_eq_getElem?_getD,List.getD_eq_getElem?_getD,List.getElem?_take_of_lt (by omega)]
 rw [this];exact hs
theorem GrE.take {E:List (Pt×Pt)}(h:GrE E)(k:Nat):GrE (E.take k):=by
 intro j hj
 simp at hj
 have:(E.take k).getD j (zP,zP)=E.getD j (zP,zP):=by
  rw [List.getD_eq_getElem?_getD,List.getD_eq_getElem?_getD,List.getElem?_take_of_lt (by omega)]
 rw [this];exact h j (by omega)
set_option maxRecDepth 100000 in
set_option maxHeartbeats 1000000 in
theorem sharedEdge_any (v:Value)(E:List (Pt×Pt))(w:World)(hE:SegsAt w v E)(hG:GrE E) :
  Calls Tryz.prog 78 #[v] w fun e w'=>e = .returned (.int .i64 (findM (sharesM E) 0 (List.range E.length)))/\Below w.heap.size w w':=by
 have hE0:=hE
 obtain ⟨a,cap,rfl,h1,h2,h3⟩:=hE
 unfold maxLen at h2
 go_enter Tryz.func78,Tryz.ntmps78
 go_wp2_with fail
 go_loopw [3,4,7] (fun _ _ i w'=>∃ k:Nat,i = .int .i64 k/\k<=E.length/\Below w.heap.size w w'/\Hid (findM (sharesM E) 0 (List.range E.length)=findM (sharesM E) k ((List.range E.length).drop k))) (fun _ _ i _=>E.length-(intOf i).toNat)
 case atStart=>exact ⟨0,rfl,Nat.zero_le _,Below.refl _ _,rfl⟩
 case round=>
  obtain ⟨k,rfl,hk,hbel,HB⟩:=hrel
  by_cases hlt:k<E.length
  ·obtain ⟨b,off,rfl,hb,hs⟩:=h3 k hlt
   have hs':=hs.later hbel hb
   have HC:=hide (findM_cons (sharesM E) k (List.range E.length) k (by simpa using hlt) 0)
   have eget:(List.range E.length).getD k 0=k:=by rw [List.getD_eq_getElem?_getD,List.getElem?_range hlt];rfl
   rw [eget] at HC
   have HS:=hide (show sharesM E k=(E.take k).any (alongB (E.getD k (zP,zP))) from rfl)
   have hgr:=hG k hlt
   have hT:=((hE0.take k hk).later hbel)
   have hGT:=hG.take k
   generalize E.getD k (zP,zP)=e at *
   obtain ⟨he1,he2⟩:=hgr
   obtain ⟨c0,c1,c2,c3,c4,c5⟩:=hs'
   have hkc:(k:Int)<=(cap:Int):=by omega
   clear h3 hs hG hE0 eget
   go_wp2_with fail
   go_region_with (go_at_call 104;refine (liesAlong_any e _ (E.take k) _ (by exact hT.later (((Below.refl _ _).alloc (Nat.le_refl _) _).drew)) he1 he2 hGT).mono ?_;rintro e' w1 ⟨rfl,k1⟩)
   have B1:=bvia ((hbel.alloc hbel.size _).drew) k1
   clear k1 c0 c1 c2 c3 c4 c5 hT hGT
   by_cases ht:(E.take k).any (alongB e)=true
   ·have HE:Hid (findM (sharesM E) 0 (List.range E.length)=k):=HB.out.trans (HC.out.trans (if_pos (HS.out.trans ht)))
    rw [ht]
    clear HB HC HS ht
    go_wp2
    go_ret
    exact ⟨ret_if HE.out.symm,B1⟩
   ·have ht':(E.take k).any (alongB e)=false:=by simpa using ht
    have HE:Hid (findM (sharesM E) 0 (List.range E.length)=findM (sharesM E) (k+1) ((List.range E.length).drop (k+1))):=HB.out.trans (HC.out.trans (if_neg (by rw [HS.out,ht'];decide)))
    rw [ht']
    clear HB HC HS ht ht'
    go_wp2
    go_roundw
    case rel=>exact ⟨k+1,by go_num,by omega,B1,HE⟩
    case measure=>simp [intOf];omega
  ·have HE:Hid (findM (sharesM E) 0 (List.range E.length) = -1):=by rw [HB.out,List.drop_of_length_le (by simp;omega)];rfl
   clear h3 HB hG hE0
   go_wp2
   go_ret
   exact ⟨ret_if HE.out.symm,hbel⟩
theorem grE_of (P:List (List Pt))(h:findM (fun e:Pt×Pt=>!gridB e.1) 0 (edgesM P) = -1):GrE (edgesM P):=by
 have hall:=findM_none _ _ 0 (by decide) h
 intro j hj
 have hm:(edgesM P).getD j (zP,zP)∈edgesM P:=by
  rw [List.getD_eq_getElem?_getD,List.getElem?_eq_getElem hj];exact List.getElem_mem hj
 obtain ⟨e',he',e2⟩:=edge_second P _ hm
 have g1:=hall _ hm
 have g2:=hall _ he'
 simp only [Bool.not_eq_false'] at g1 g2
 rw [e2] at g2
 exact ⟨gr_of g1,gr_of g2⟩
set_option maxHeartbeats 2000000 in
theorem polyCheck_any (v:Value)(P:List (List Pt))(w:World)(hP:PolyAt w v P) :
  Calls Tryz.prog 40 #[v] w fun e w'=>e = .returned (.tuple #[.int .i64 (checkM P).1,.int .i64 (checkM P).2])/\Below w.heap.size w w':=by
 have hP0:=hP
 obtain ⟨a,cap,rfl,h1,h2,_⟩:=hP
 unfold maxLen at h2
 by_cases c1:4<P.length
 ·have e:checkM P=(1,0):=if_pos c1
  rw [e]
  go_enter Tryz.func40,Tryz.ntmps40
  go_wp2
  go_ret2
  exact ⟨rfl,Below.refl _ _⟩
 have e1:checkM P=_:=if_neg c1
 by_cases c2:badM 12 0 P = -1
 case neg=>
  have HE:Hid (checkM P=(2,badM 12 0 P)):=e1.trans (if_pos c2)
  have c2':(badM 12 0 P != -1)=true:=by simpa using c2
  clear e1 c2
  go_enter Tryz.func40,Tryz.ntmps40
  go_wp2_with fail
  refine (badRing_any _ P _ hP0).mono ?_
  rintro e w1 ⟨rfl,rfl⟩
  go_wp2
  go_ret2
  exact ⟨by rw [HE.out];rfl,Below.refl _ _⟩
 have e2:=e1.trans (if_neg (fun k=>k c2))
 have hT:(edgesM P).length<=12:=by have:=badM_none P 12 0 (by decide) c2 (by decide);omega
 have c2':(badM 12 0 P != -1)=false:=by simpa using c2
 clear e1
 by_cases c3:findM (fun e:Pt×Pt=>!gridB e.1) 0 (edgesM P) = -1
 case neg=>
  have HE:Hid (checkM P=(3,findM (fun e:Pt×Pt=>!gridB e.1) 0 (edgesM P))):=e2.trans (if_pos c3)
  have c3':(findM (fun e:Pt×Pt=>!gridB e.1) 0 (edgesM P) != -1)=true:=by simpa using c3
  clear e2 c2 c3
  go_enter Tryz.func40,Tryz.ntmps40
  go_wp2_with fail
  refine (badRing_any _ P _ hP0).mono ?_
  rintro e w1 ⟨rfl,rfl⟩
  go_wp2_with fail
  refine (Edges_any _ P _ hP0 (Nat.le_trans hT (by decide))).mono ?_
  rintro e w1 ⟨ev,rfl,hE1,B1⟩
  go_wp2_with fail
  refine (offGrid_any _ (edgesM P) _ hE1).mono ?_
  rintro e w2 ⟨rfl,k2⟩
  have B2:=bvia B1 k2
  clear k2 hE1 B1
  go_wp2
  go_ret2
  exact ⟨by rw [HE.out];rfl,B2⟩
 have e3:=e2.trans (if_neg (fun k=>k c3))
 have hG:=grE_of P c3
 have c3':(findM (fun e:Pt×Pt=>!gridB e.1) 0 (edgesM P) != -1)=false:=by simpa using c3
 clear e2
 by_cases c4:findM (fun e:Pt×Pt=>eqB e.1 e.2) 0 (edgesM P) = -1
 case neg=>
  have HE:Hid (checkM P=(4,findM (fun e:Pt×Pt=>eqB e.1 e.2) 0 (edgesM P))):=e3.trans (if_pos c4)
  have c4':(findM (fun e:Pt×Pt=>eqB e.1 e.2) 0 (edgesM P) != -1)=true:=by simpa using c4
  clear e3 c2 c3 c4 hG
  go_enter Tryz.func40,Tryz.ntmps40
  go_wp2_with fail
  refine (badRing_any _ P _ hP0).mono ?_
  rintro e w1 ⟨rfl,rfl⟩
  go_wp2_with fail
  refine (Edges_any _ P _ hP0 (Nat.le_trans hT (by decide))).mono ?_
  rintro e w1 ⟨ev,rfl,hE1,B1⟩
  go_wp2_with fail
  refine (offGrid_any _ (edgesM P) _ hE1).mono ?_
  rintro e w2 ⟨rfl,k2⟩
  have B2:=bvia B1 k2
  have hE2:=hE1.later k2
  clear k2 hE1 B1
  go_wp2_with fail
  refine (emptyEdge_any _ (edgesM P) _ hE2).mono ?_
  rintro e w3 ⟨rfl,k3⟩
  have B3:=bvia B2 k3
  clear k3 hE2 B2
  go_wp2
  go_ret2
  exact ⟨by rw [HE.out];rfl,B3⟩
 have e4:=e3.trans (if_neg (fun k=>k c4))
 have c4':(findM (fun e:Pt×Pt=>eqB e.1 e.2) 0 (edgesM P) != -1)=false:=by simpa using c4
 clear e3
 by_cases c5:findM (sharesM (edgesM P)) 0 (List.range (edgesM P).length) = -1
 case neg=>
  have HE:Hid (checkM P=(5,findM (sharesM (edgesM P)) 0 (List.range (edgesM P).length))):=e4.trans (if_pos c5)
  have c5':(findM (sharesM (edgesM P)) 0 (List.range (edgesM P).length) != -1)=true:=by simpa using c5
  clear e4 c2 c3 c4 c5
  go_enter Tryz.func40,Tryz.ntmps40
  go_wp2_with fail
  refine (badRing_any _ P _ hP0).mono ?_
  rintro e w1 ⟨rfl,rfl⟩
  go_wp2_with fail
  refine (Edges_any _ P _ hP0 (Nat.le_trans hT (by decide))).mono ?_
  rintro e w1 ⟨ev,rfl,hE1,B1⟩
  go_wp2_with fail
  refine (offGrid_any _ (edgesM P) _ hE1).mono ?_
  rintro e w2 ⟨rfl,k2⟩
  have B2:=bvia B1 k2
  have hE2:=hE1.later k2
  clear k2 hE1 B1
  go_wp2_with fail
  refine (emptyEdge_any _ (edgesM P) _ hE2).mono ?_
  rintro e w3 ⟨rfl,k3⟩
  have B3:=bvia B2 k3
  have hE3:=hE2.later k3
  clear k3 hE2 B2
  go_wp2_with fail
  refine (sharedEdge_any _ (edgesM P) _ hE3 hG).mono ?_
  rintro e w4 ⟨rfl,k4⟩
  have B4:=bvia B3 k4
  clear k4 hE3 B3
  go_wp2
  go_ret2
  exact ⟨by rw [HE.out];rfl,B4⟩
 have HE:Hid (checkM P=(0,0)):=e4.trans (if_neg (fun k=>k c5))
 have c5':(findM (sharesM (edgesM P)) 0 (List.range (edgesM P).length) != -1)=false:=by simpa using c5
 clear e4 c2 c3 c4 c5
 go_enter Tryz.func40,Tryz.ntmps40
 go_wp2_with fail
 refine (badRing_any _ P _ hP0).mono ?_
 rintro e w1 ⟨rfl,rfl⟩
 go_wp2_with fail
 refine (Edges_any _ P _ hP0 (Nat.le_trans hT (by decide))).mono ?_
 rintro e w1 ⟨ev,rfl,hE1,B1⟩
 go_wp2_with fail
 refine (offGrid_any _ (edgesM P) _ hE1).mono ?_
 rintro e w2 ⟨rfl,k2⟩
 have B2:=bvia B1 k2
 have hE2:=hE1.later k2
 clear k2 hE1 B1
 go_wp2_with fail
 refine (emptyEdge_any _ (edgesM P) _ hE2).mono ?_
 rintro e w3 ⟨rfl,k3⟩
 have B3:=bvia B2 k3
 have hE3:=hE2.later k3
 clear k3 hE2 B2
 go_wp2_with fail
 refine (sharedEdge_any _ (edgesM P) _ hE3 hG).mono ?_
 rintro e w4 ⟨rfl,k4⟩
 have B4:=bvia B3 k4
 clear k4 hE3 B3
 go_wp2
 go_ret2
 exact ⟨by rw [HE.out];rfl,B4⟩
set_option maxHeartbeats 2000000 in
theorem Check_any (v:Value)(P:List (List Pt))(w:World)(hP:PolyAt w v P) :
  Calls Tryz.prog 18 #[v] w fun e w'=>e = .returned (.tuple #[.int .i64 (checkM P).1,.int .i64 (checkM P).2])/\Below w.heap.size w w':=by
 go_enter Tryz.func18,Tryz.ntmps18
 go_wp2_with fail
 refine (polyCheck_any v P _ hP).mono ?_
 rintro e w1 ⟨rfl,k⟩
 go_wp2
 go_ret2
 exact ⟨rfl,k⟩
set_option maxHeartbeats 400000 in
theorem rdet_any (a b c:Pt)(w:World)(ha:Gd a)(hb:Gd b)(hc:Gd c) :
  Calls Tryz.prog 70 #[a.v,b.v,c.v] w fun e w'=>e = .returned (.int .i64 (detM a b c))/\Below w.heap.size w w':=by
 have e:wrap64 (wrap64 (wrap64 (a.x*wrap64 (wrap64 (b.y*c.d)-wrap64 (c.y*b.d)))-wrap64 (a.y*wrap64 (wrap64 (b.x*c.d)-wrap64 (c.x*b.d))))+wrap64 (a.d*wrap64 (wrap64 (b.x*c.y)-wrap64 (c.x*b.y))))=detM a b c:=by
  unfold detM
  rw [wrap_in (hb.y.mul hc.d) (by decide),wrap_in (hc.y.mul hb.d) (by decide),wrap_in (hb.x.mul hc.d) (by decide),wrap_in (hc.x.mul hb.d) (by decide),wrap_in (hb.x.mul hc.y) (by decide),wrap_in (hc.x.mul hb.y) (by decide),
   wrap_in ((hb.y.mul hc.d).sub (hc.y.mul hb.d)) (by decide),wrap_in ((hb.x.mul hc.d).sub (hc.x.mul hb.d)) (by decide),wrap_in ((hb.x.mul hc.y).sub (hc.x.mul hb.y)) (by decide),
   wrap_in (ha.x.mul ((hb.y.mul hc.d).sub (hc.y.mul hb.d))) (by decide),wrap_in (ha.y.mul ((hb.x.mul hc.d).sub (hc.x.mul hb.d))) (by decide),wrap_in (ha.d.mul ((hb.x.mul hc.y).sub (hc.x.mul hb.y))) (by decide),
   wrap_in ((ha.x.mul ((hb.y.mul hc.d).sub (hc.y.mul hb.d))).sub (ha.y.mul ((hb.x.mul hc.d).sub (hc.x.mul hb.d)))) (by decide),
   wrap_in (((ha.x.mul ((hb.y.mul hc.d).sub (hc.y.mul hb.d))).sub (ha.y.mul ((hb.x.mul hc.d).sub (hc.x.mul hb.d)))).add (ha.d.mul ((hb.x.mul hc.y).sub (hc.x.mul hb.y)))) (by decide)]
 have E:=e
 clear e ha hb hc
 have H:Hid (wrap64 (wrap64 (wrap64 (a.x*wrap64 (wrap64 (b.y*c.d)-wrap64 (c.y*b.d)))-wrap64 (a.y*wrap64 (wrap64 (b.x*c.d)-wrap64 (c.x*b.d))))+wrap64 (a.d*wrap64 (wrap64 (b.x*c.y)-wrap64 (c.x*b.y))))=detM a b c):=E
 clear E
 go_enter Tryz.func70,Tryz.ntmps70
 go_wp2
 go_ret
 exact ⟨ret_int H.out,(((Below.refl _ _).alloc (Nat.le_refl _) _).alloc (by simp) _).alloc (by simp;omega) _⟩
set_option maxHeartbeats 400000 in
theorem rbefore_any (p q:Pt)(w:World)(hp:Gd p)(hq:Gd q) :
  Calls Tryz.prog 72 #[p.v,q.v] w fun e w'=>e = .returned (.bool (befB p q))/\Below w.heap.size w w':=by
 obtain ⟨l1,u1⟩:=hp.x.mul hq.d
 obtain ⟨l2,u2⟩:=hq.x.mul hp.d
 obtain ⟨l3,u3⟩:=hp.y.mul hq.d
 obtain ⟨l4,u4⟩:=hq.y.mul hp.d
 clear hp hq
 by_cases h:(p.x*q.d != q.x*p.d)=true
 ·go_enter Tryz.func72,Tryz.ntmps72
  go_wp2
  go_ret
  exact ⟨ret_bool (by unfold befB;rw [if_pos (by simpa using h)]),((Below.refl _ _).alloc (Nat.le_refl _) _).alloc (by simp) _⟩
 ·have h':(p.x*q.d != q.x*p.d)=false:=by simpa using h
  clear h
  go_enter Tryz.func72,Tryz.ntmps72
  go_wp2
  go_ret
  exact ⟨ret_bool (by unfold befB;rw [if_neg (by simpa using h')]),((Below.refl _ _).alloc (Nat.le_refl _) _).alloc (by simp) _⟩
set_option maxHeartbeats 1000000 in
theorem rgood_any (p:Pt)(w:World) :
  Calls Tryz.prog 46 #[p.v] w fun e w'=>e = .returned (.bool (goodB p))/\Below w.heap.size w w':=by
 by_cases h1:p.d<1
 ·go_enter Tryz.func46,Tryz.ntmps46
  go_wp2
  all_goals
   go_ret
   refine ⟨ret_bool ?_,(Below.refl _ _).alloc (Nat.le_refl _) _⟩
   simp_all [goodB]
   try omega
 by_cases h2:32768<p.d
 ·go_enter Tryz.func46,Tryz.ntmps46
  go_wp2
  all_goals
   go_ret
   refine ⟨ret_bool ?_,(Below.refl _ _).alloc (Nat.le_refl _) _⟩
   simp_all [goodB]
   try omega
 go_enter Tryz.func46,Tryz.ntmps46
 go_wp2
 all_goals
  go_ret
  refine ⟨ret_bool ?_,(Below.refl _ _).alloc (Nat.le_refl _) _⟩
  first | (simp_all [goodB];done) | (simp_all [goodB];omega)
theorem grid_good (p:Pt):(goodB p && p.d == 1)=gridB p:=by
 unfold goodB gridB
 by_cases h:p.d=1
 ·rw [h];simp
 ·simp [h]
set_option maxHeartbeats 1000000 in
theorem rgrid_any (p:Pt)(w:World) :
  Calls Tryz.prog 37 #[p.v] w fun e w'=>e = .returned (.bool (gridB p))/\Below w.heap.size w w':=by
 have H:=grid_good p
 have HH:Hid ((goodB p && p.d == 1)=gridB p):=H
 clear H
 go_enter Tryz.func37,Tryz.ntmps37
 go_wp2_with fail
 refine (rgood_any p _).mono ?_
 rintro e w1 ⟨rfl,k⟩
 have B1:=bvia ((Below.refl _ _).alloc (Nat.le_refl _) _) k
 obtain ⟨cp1,fp1,zp1⟩:=(Blk.new w _ _).call k
 clear k
 cases hg:goodB p
 ·rw [hg] at HH
  go_wp2
  go_ret
  exact ⟨ret_bool HH.out,B1⟩
 ·rw [hg] at HH
  go_wp2
  go_ret
  exact ⟨ret_bool HH.out,B1⟩
set_option maxHeartbeats 1000000 in
theorem rplace_any (p q:Pt)(w:World)(hp:Gd p)(hq:Gd q) :
  Calls Tryz.prog 73 #[p.v,q.v] w fun e w'=>e = .returned (.bool (placeB p q))/\Below w.heap.size w w':=by
 go_enter Tryz.func73,Tryz.ntmps73
 go_wp2_with fail
 refine (rbefore_any p q _ hp hq).mono ?_
 rintro e w1 ⟨rfl,k⟩
 have B1:=bvia (((Below.refl _ _).alloc (Nat.le_refl _) _).alloc (by simp) _) k
 obtain ⟨cp1,fp1,zp1⟩:=((Blk.new w _ _).alloc _).call k
 obtain ⟨cq1,fq1,zq1⟩:=(Blk.at (w.heap.size+1) (by simp)).call k
 clear k
 go_wp2_with fail
 refine (rbefore_any q p _ hq hp).mono ?_
 rintro e w2 ⟨rfl,k⟩
 have B2:=bvia B1 k
 obtain ⟨cp2,fp2,zp2⟩:=(Blk.mk cp1 fp1 zp1).call k
 obtain ⟨cq2,fq2,zq2⟩:=(Blk.mk cq1 fq1 zq1).call k
 clear k cp1 fp1 cq1 fq1 B1
 cases h1:befB p q <;> cases h2:befB q p
 all_goals (go_wp2;go_ret;exact ⟨ret_bool (by simp [placeB,h1,h2]),B2⟩)
theorem rbelow4 (w:World)(a b c d:Obj):Below w.heap.size w ((((w.alloc a).alloc b).alloc c).alloc d):=
 ((((
   Below.refl _ _).alloc (Nat.le_refl _) _).alloc (by simp) _).alloc (by simp;omega) _).alloc (by simp;omega) _
theorem below_set33 {w w1:World}{b c:Nat}{x y z x' y' z':Value}(h:Below w.heap.size w w1)(hb:w.heap.size<=b)(hc:w.heap.size<=c) :
  Below w.heap.size w ((((((w1.setCell ⟨b,0,none⟩ x).setCell ⟨b,1,none⟩ y).setCell ⟨b,2,none⟩ z).setCell ⟨c,0,none⟩ x').setCell ⟨c,1,none⟩ y').setCell ⟨c,2,none⟩ z'):=
 below_set3 (o:=0) (below_set3 (o:=0) h hb) hc
set_option maxHeartbeats 1000000 in
theorem rends_any (a b:Pt)(w:World)(ha:Gd a)(hb:Gd b) :
  Calls Tryz.prog 71 #[sg a b] w fun e w'=>e = .returned (.tuple #[(loM a b).v,(hiM a b).v])/\Below w.heap.size w w':=by
 by_cases h:befB b a=true
 ·have H1:Hid (loM a b=b):=if_pos h
  have H2:Hid (hiM a b=a):=if_pos h
  go_enter Tryz.func71,Tryz.ntmps71
  go_wp2_with fail
  refine (rbefore_any b a _ hb ha).mono ?_
  rintro e w1 ⟨rfl,k⟩
  have B1:=bvia (below3 _ _ _ _) k
  obtain ⟨ce1,fe1,ze1⟩:=(((Blk.new w _ _).alloc _).alloc _).call k
  obtain ⟨cx1,fx1,zx1⟩:=((Blk.at (w.heap.size+1) (by simp)).alloc _).call k
  obtain ⟨cy1,fy1,zy1⟩:=(Blk.at (w.heap.size+1+1) (by simp)).call k
  clear k
  rw [h]
  go_wp2
  go_region
  go_wp2
  exact bodyPost_ret (v:=.tuple #[b.v,a.v]) (by simp [results,Tryz.results71,go_sem,cx1,fx1,cy1,fy1]) rfl ⟨by rw [H1.out,H2.out],(below_set33 B1 (by omega) (by omega)).drew⟩
 ·have H1:Hid (loM a b=a):=if_neg h
  have H2:Hid (hiM a b=b):=if_neg h
  have h:befB b a=false:=by simpa using h
  go_enter Tryz.func71,Tryz.ntmps71
  go_wp2_with fail
  refine (rbefore_any b a _ hb ha).mono ?_
  rintro e w1 ⟨rfl,k⟩
  have B1:=bvia (below3 _ _ _ _) k
  obtain ⟨ce1,fe1,ze1⟩:=(((Blk.new w _ _).alloc _).alloc _).call k
  obtain ⟨cx1,fx1,zx1⟩:=((Blk.at (w.heap.size+1) (by simp)).alloc _).call k
  obtain ⟨cy1,fy1,zy1⟩:=(Blk.at (w.heap.size+1+1) (by simp)).call k
  clear k
  rw [h]
  go_wp2
  go_region
  go_wp2
  exact bodyPost_ret (v:=.tuple #[a.v,b.v]) (by simp [results,Tryz.results71,go_sem,cx1,fx1,cy1,fy1]) rfl ⟨by rw [H1.out,H2.out],(below_set33 B1 (by omega) (by omega)).drew⟩
set_option maxHeartbeats 1000000 in
theorem rwithin_any (p a b:Pt)(w:World)(hp:Gd p)(ha:Gd a)(hb:Gd b) :
  Calls Tryz.prog 68 #[p.v,sg a b] w fun e w'=>e = .returned (.bool (withB p a b))/\Below w.heap.size w w':=by
 go_enter Tryz.func68,Tryz.ntmps68
 go_wp2_with fail
 refine (rends_any a b _ ha hb).mono ?_
 rintro e w1 ⟨rfl,k⟩
 have B1:=bvia (((Below.refl _ _).alloc (Nat.le_refl _) _).alloc (by simp) _) k
 obtain ⟨cp1,fp1,zp1⟩:=((Blk.new w _ _).alloc _).call k
 obtain ⟨ce1,fe1,ze1⟩:=(Blk.at (w.heap.size+1) (by simp)).call k
 clear k
 go_wp2_with fail
 refine (rbefore_any p (loM a b) _ hp (loM_gd ha hb)).mono ?_
 rintro e w2 ⟨rfl,k⟩
 have B2:=bvia ((B1.alloc B1.size _).alloc (by have:=B1.size;simp;omega) _) k
 obtain ⟨cp2,fp2,zp2⟩:=(((Blk.mk cp1 fp1 zp1).alloc _).alloc _).call k
 obtain ⟨cl2,fl2,zl2⟩:=((Blk.new w1 _ _).alloc _).call k
 obtain ⟨ch2,fh2,zh2⟩:=(Blk.at (w1.heap.size+1) (by simp)).call k
 clear k cp1 fp1 ce1 fe1 B1
 go_wp2_with fail
 refine (rbefore_any (hiM a b) p _ (hiM_gd ha hb) hp).mono ?_
 rintro e w3 ⟨rfl,k⟩
 have B3:=bvia B2 k
 obtain ⟨cp3,fp3,zp3⟩:=(Blk.mk cp2 fp2 zp2).call k
 obtain ⟨cl3,fl3,zl3⟩:=(Blk.mk cl2 fl2 zl2).call k
 obtain ⟨ch3,fh3,zh3⟩:=(Blk.mk ch2 fh2 zh2).call k
 clear k cp2 fp2 cl2 fl2 ch2 fh2 B2
 cases h1:befB p (loM a b) <;> cases h2:befB (hiM a b) p
 all_goals (go_wp2;go_ret;exact ⟨ret_bool (by simp [withB,h1,h2]),B3⟩)
set_option maxHeartbeats 2000000 in
theorem rcross_neg (a b c d:Pt)(w:World)(ha:Gr a)(hb:Gr b)(hc:Gr c)(hd:Gr d)(h:xD a b c d<0) :
  Calls Tryz.prog 67 #[sg a b,sg c d] w fun e w'=>e = .returned (Pt.v ⟨-(xX a b c d),-(xY a b c d),-(xD a b c d)⟩)/\Below w.heap.size w w':=by
 obtain ⟨⟨r0,r1⟩,⟨r2,r3⟩,r4⟩:=And.intro ha.x (And.intro ha.y trivial)
 obtain ⟨⟨r5,r6⟩,⟨r7,r8⟩,r9⟩:=And.intro hb.x (And.intro hb.y trivial)
 obtain ⟨⟨q0,q1⟩,⟨q2,q3⟩,q4⟩:=And.intro hc.x (And.intro hc.y trivial)
 obtain ⟨⟨q5,q6⟩,⟨q7,q8⟩,q9⟩:=And.intro hd.x (And.intro hd.y trivial)
 obtain ⟨l0,u0⟩:=ha.x.mul hb.y
 obtain ⟨l1,u1⟩:=hb.x.mul ha.y
 obtain ⟨l2,u2⟩:=hc.x.mul hd.y
 obtain ⟨l3,u3⟩:=hd.x.mul hc.y
 obtain ⟨m0,n0⟩:=(hb.x.sub ha.x).mul ((hc.x.mul hd.y).sub (hd.x.mul hc.y))
 obtain ⟨m1,n1⟩:=((ha.x.mul hb.y).sub (hb.x.mul ha.y)).mul (hd.x.sub hc.x)
 obtain ⟨m2,n2⟩:=((ha.x.mul hb.y).sub (hb.x.mul ha.y)).mul (hc.y.sub hd.y)
 obtain ⟨m3,n3⟩:=(ha.y.sub hb.y).mul ((hc.x.mul hd.y).sub (hd.x.mul hc.y))
 obtain ⟨m4,n4⟩:=(ha.y.sub hb.y).mul (hd.x.sub hc.x)
 obtain ⟨m5,n5⟩:=(hb.x.sub ha.x).mul (hc.y.sub hd.y)
 unfold xD at h
 go_enter Tryz.func67,Tryz.ntmps67
 go_wp2
 exact bodyPost_ret (v:=Pt.v ⟨-(xX a b c d),-(xY a b c d),-(xD a b c d)⟩) (by simp [results,Tryz.results67,go_sem,xX,xY,xD]) rfl ⟨rfl,rbelow4 _ _ _ _ _⟩
set_option maxHeartbeats 2000000 in
theorem rcross_pos (a b c d:Pt)(w:World)(ha:Gr a)(hb:Gr b)(hc:Gr c)(hd:Gr d)(h:0<=xD a b c d) :
  Calls Tryz.prog 67 #[sg a b,sg c d] w fun e w'=>e = .returned (Pt.v ⟨xX a b c d,xY a b c d,xD a b c d⟩)/\Below w.heap.size w w':=by
 obtain ⟨⟨r0,r1⟩,⟨r2,r3⟩,r4⟩:=And.intro ha.x (And.intro ha.y trivial)
 obtain ⟨⟨r5,r6⟩,⟨r7,r8⟩,r9⟩:=And.intro hb.x (And.intro hb.y trivial)
 obtain ⟨⟨q0,q1⟩,⟨q2,q3⟩,q4⟩:=And.intro hc.x (And.intro hc.y trivial)
 obtain ⟨⟨q5,q6⟩,⟨q7,q8⟩,q9⟩:=And.intro hd.x (And.intro hd.y trivial)
 obtain ⟨l0,u0⟩:=ha.x.mul hb.y
 obtain ⟨l1,u1⟩:=hb.x.mul ha.y
 obtain ⟨l2,u2⟩:=hc.x.mul hd.y
 obtain ⟨l3,u3⟩:=hd.x.mul hc.y
 obtain ⟨m0,n0⟩:=(hb.x.sub ha.x).mul ((hc.x.mul hd.y).sub (hd.x.mul hc.y))
 obtain ⟨m1,n1⟩:=((ha.x.mul hb.y).sub (hb.x.mul ha.y)).mul (hd.x.sub hc.x)
 obtain ⟨m2,n2⟩:=((ha.x.mul hb.y).sub (hb.x.mul ha.y)).mul (hc.y.sub hd.y)
 obtain ⟨m3,n3⟩:=(ha.y.sub hb.y).mul ((hc.x.mul hd.y).sub (hd.x.mul hc.y))
 obtain ⟨m4,n4⟩:=(ha.y.sub hb.y).mul (hd.x.sub hc.x)
 obtain ⟨m5,n5⟩:=(hb.x.sub ha.x).mul (hc.y.sub hd.y)
 unfold xD at h
 go_enter Tryz.func67,Tryz.ntmps67
 go_wp2
 exact bodyPost_ret (v:=Pt.v ⟨xX a b c d,xY a b c d,xD a b c d⟩) (by simp [results,Tryz.results67,go_sem,xX,xY,xD]) rfl ⟨rfl,rbelow4 _ _ _ _ _⟩
end Go.Proofs.YtnkcbephceollabGreat
