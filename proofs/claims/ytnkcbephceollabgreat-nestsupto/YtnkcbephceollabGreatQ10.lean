import Derived.Test.YtnkcbephceollabGreatQ9
namespace Go.Proofs.YtnkcbephceollabGreat
open Go.RowKit
set_option linter.unusedSimpArgs false
set_option linter.unusedVariables false
theorem findM_map {α β:Type}(f:β->Bool)(g:α->β):∀ (l:List α) (i:Int),findM f i (l.map g)=findM (fun x=>f (g x)) i l
 | [],_=>rfl
 | x::l,i=>by simp only [List.map_cons,findM];rw [findM_map f g l (i+1)]
theorem grid_same (P:List (List Pt)):findM (fun p:Pt=>!gridB p) 0 P.flatten=findM (fun e:Pt×Pt=>!gridB e.1) 0 (edgesM P):=by
 rw [<-edges_firsts P,findM_map]
theorem badM_len (P:List (List Pt)):∀ (room i:Int),0<=i->badM room i P = -1->∀ k,k<P.length->0<(P.getD k []).length:=by
 induction P with
 | nil=>intro _ _ _ _ k hk;simp at hk
 | cons r P ih=>
  intro room i hi h k hk
  simp only [badM] at h
  split at h
  ·omega
  ·rename_i hb
   cases k with
   | zero=>simp;cases r with | nil=>simp at hb | cons a r=>simp
   | succ k=>simpa using ih _ _ (by omega) h k (by simpa using hk)
set_option maxRecDepth 100000 in
set_option maxHeartbeats 4000000 in
theorem rCheck_any (v:Value)(P:List (List Pt))(w:World)(hP:PolyAt w v P)(hS:∀ i,i<P.length->(P.getD i []).length<=1048576) :
  Calls Tryz.prog 20 #[v] w fun e w'=>e = .returned (.tuple #[.int .i64 (checkM P).1,.int .i64 (checkM P).2])/\Below w.heap.size w w':=by
 have hP0:=hP
 have heq:=eql_pt
 obtain ⟨a,cap,rfl,h1,h2,h3⟩:=hP
 unfold maxLen at h2
 by_cases c1:4<P.length
 ·have e:checkM P=(1,0):=if_pos c1
  rw [e]
  go_enter Tryz.func20,Tryz.ntmps20
  go_wp2
  go_ret2
  exact ⟨rfl,Below.refl _ _⟩
 have E1:checkM P=_:=if_neg c1
 have HE1:=hide E1
 clear E1
 go_enter Tryz.func20,Tryz.ntmps20
 go_wp2_with fail
 go_loop [4,5] (fun n i=>∃ (k:Nat) (rm:Int),i = .int .i64 k/\n = .int .i64 (12-rm)/\k<=P.length/\0<=rm/\rm<=12/\Hid (badM 12 0 P=badM rm k (P.drop k))) (fun _ i=>P.length-(intOf i).toNat)
 case atStart=>exact ⟨0,12,rfl,rfl,Nat.zero_le _,by decide,by decide,rfl⟩
 case round=>
  obtain ⟨k,rm,rfl,rfl,hk,hr0,hr1,HB⟩:=hrel
  by_cases hlt:k<P.length
  ·obtain ⟨b,off,rv,rfl,hb,hc,⟨a',cap',rfl,g1,g2,_⟩⟩:=h3 k hlt
   have HC:=hide (badM_cons rm k P k hlt)
   have hsm:=hS k hlt
   generalize P.getD k []=r at *
   by_cases hbad:(r.length:Int)<3\/rm<(r.length:Int)
   ·have HX:Hid (badM 12 0 P=k):=HB.out.trans (HC.out.trans (if_pos hbad))
    have HE:Hid (checkM P=(2,(k:Int))):=by
     refine hide ?_
     rw [HE1.out,if_pos (by rw [HX.out];omega),HX.out]
    clear h3 HB HC HE1 hP0 hS
    by_cases hb3:(r.length:Int)<3
    ·go_wp2
     go_ret2
     exact ⟨by rw [HE.out];rfl,Below.refl _ _⟩
    ·have hb4:12<12-rm+(r.length:Int):=by omega
     go_wp2
     go_ret2
     exact ⟨by rw [HE.out];rfl,Below.refl _ _⟩
   ·have HX:Hid (badM 12 0 P=badM (rm-r.length) (k+1) (P.drop (k+1))):=HB.out.trans (HC.out.trans (if_neg hbad))
    clear h3 HB HC HE1 hP0 hS
    have e1 : ¬ (r.length:Int)<3:=by omega
    have e2:12-rm+(r.length:Int)<=12:=by omega
    go_wp2
    go_round
    case rel=>exact ⟨k+1,rm-r.length,by go_num,by go_num,by omega,by omega,by omega,HX⟩
    case measure=>simp [intOf];omega
  have HX:badM 12 0 P = -1:=by rw [HB.out,List.drop_of_length_le (by omega)];rfl
  have hT:(edgesM P).length<=12:=by have:=badM_none P 12 0 (by decide) HX (by decide);omega
  have hTf:P.flatten.length<=12:=by rw [<-edgesM_len];exact hT
  have hN:=badM_len P 12 0 (by decide) HX
  have HE2:=hide (HE1.out.trans (if_neg (fun k=>k HX)))
  have HTf:=hide hTf
  clear h3 HB HE1 HX hS hTf
  go_wp2_with fail
  refine (points_any _ P _ hP0 (Nat.le_trans HTf.out (by decide))).mono ?_
  rintro e w1 ⟨pv,rfl,hR1,B1⟩
  obtain ⟨pa,pcap,rfl,q1,q2,q3⟩:=hR1
  unfold maxLen at q2
  have HGS:=hide (grid_same P)
  generalize P.flatten=F at *
  clear hN HTf
  go_wp2_with fail
  go_loopw [7,8] (fun i _ w'=>∃ k:Nat,i = .int .i64 k/\k<=F.length/\Below w.heap.size w w'/\Below w1.heap.size w1 w'/\Hid (findM (fun p:Pt=>!gridB p) 0 F=findM (fun p:Pt=>!gridB p) k (F.drop k))) (fun i _ _=>F.length-(intOf i).toNat)
  case atStart=>exact ⟨0,rfl,Nat.zero_le _,B1,Below.refl _ _,rfl⟩
  case round=>
   obtain ⟨k2,rfl,hk2,B2,B2',HB2⟩:=hrel
   by_cases hlt2:k2<F.length
   ·obtain ⟨b,off,rfl,hb,hs⟩:=q3 k2 hlt2
    obtain ⟨c0,c1',c2'⟩:=hs.later B2' hb
    have HC:=hide (findM_cons (fun p:Pt=>!gridB p) k2 F k2 hlt2 zP)
    generalize F.getD k2 zP=p at *
    clear q3 hs
    go_wp2_with fail
    refine (rgrid_any p _).mono ?_
    rintro e' w2 ⟨rfl,k3⟩
    have B3:=bvia B2 k3
    have B3':=bvia B2' k3
    clear k3 c0 c1' c2'
    by_cases ht:gridB p=true
    ·have HX:Hid (findM (fun p:Pt=>!gridB p) 0 F=findM (fun p:Pt=>!gridB p) (k2+1) (F.drop (k2+1))):=HB2.out.trans (HC.out.trans (if_neg (by simp [ht])))
     clear HB2 HC HE2
     go_wp2
     go_roundw
     case rel=>exact ⟨k2+1,by go_num,by omega,B3,B3',HX⟩
     case measure=>simp [intOf];omega
    ·have ht':gridB p=false:=by simpa using ht
     have HX:Hid (findM (fun e:Pt×Pt=>!gridB e.1) 0 (edgesM P)=k2):=HGS.out.symm.trans (HB2.out.trans (HC.out.trans (if_pos (by simp [ht']))))
     have HE:Hid (checkM P=(3,(k2:Int))):=by
      refine hide ?_
      rw [HE2.out,if_pos (by rw [HX.out];omega),HX.out]
     clear HB2 HC HE2 HX ht
     go_wp2
     go_ret2
     exact ⟨by rw [HE.out];rfl,B3⟩
   have HX:findM (fun e:Pt×Pt=>!gridB e.1) 0 (edgesM P) = -1:=by rw [<-HGS.out,HB2.out,List.drop_of_length_le (by omega)];rfl
   have hG:=grE_of P HX
   have HE3:=hide (HE2.out.trans (if_neg (fun k=>k HX)))
   have hPr:=hP0.later B2
   clear q3 HB2 HE2 HX B1 B2' HGS hP0
   go_wp2_with fail
   refine (rEdges_any _ P _ hPr (Nat.le_trans hT (by decide))).mono ?_
   rintro e w3 ⟨ev,rfl,hE1,k4⟩
   have B4:=bvia B2 k4
   have hEs:=hE1
   obtain ⟨ea,ecap,rfl,r1,r2,r3⟩:=hE1
   unfold maxLen at r2
   generalize hEE:edgesM P=E at *
   clear hEE hPr k4 B2
   go_wp2_with fail
   go_loopw [10] (fun i w'=>∃ k:Nat,i = .int .i64 k/\k<=E.length/\Below w.heap.size w w'/\Below w3.heap.size w3 w'/\Hid (findM (fun e:Pt×Pt=>eqB e.1 e.2) 0 E=findM (fun e:Pt×Pt=>eqB e.1 e.2) k (E.drop k))) (fun i _=>E.length-(intOf i).toNat)
   case atStart=>exact ⟨0,rfl,Nat.zero_le _,B4,Below.refl _ _,rfl⟩
   case round=>
    obtain ⟨k5,rfl,hk5,B5,B5',HB5⟩:=hrel
    by_cases hlt5:k5<E.length
    ·obtain ⟨b,off,rfl,hb,hs⟩:=r3 k5 hlt5
     obtain ⟨c0,c1',c2',c3',c4',c5'⟩:=hs.later B5' hb
     have HC:=hide (findM_cons (fun e:Pt×Pt=>eqB e.1 e.2) k5 E k5 hlt5 (zP,zP))
     have hk50:(0:Int)<=(k5:Int):=Int.natCast_nonneg _
     have hk51:(k5:Int)<(E.length:Int):=by omega
     generalize E.getD k5 (zP,zP)=e at *
     clear r3 hs hG
     go_wp2_with fail
     go_quiet (fail)
     by_cases ht:eqP e.1 e.2=true
     ·have ht2:eqP ⟨e.1.x,e.1.y,e.1.d⟩ ⟨e.2.x,e.2.y,e.2.d⟩=true:=ht
      have HX:Hid (findM (fun e:Pt×Pt=>eqB e.1 e.2) 0 E=k5):=HB5.out.trans (HC.out.trans (if_pos ht))
      have HE:Hid (checkM P=(4,(k5:Int))):=by
       refine hide ?_
       rw [HE3.out,if_pos (by rw [HX.out];omega),HX.out]
      clear HB5 HC HE3 HX c0 c1' c2' c3' c4' c5'
      rw [ht2]
      go_wp2
      go_ret2
      exact ⟨by rw [HE.out];rfl,below_drewN B5 _⟩
     ·have ht':eqP e.1 e.2=false:=by simpa using ht
      have ht2:eqP ⟨e.1.x,e.1.y,e.1.d⟩ ⟨e.2.x,e.2.y,e.2.d⟩=false:=ht'
      have HX:Hid (findM (fun e:Pt×Pt=>eqB e.1 e.2) 0 E=findM (fun e:Pt×Pt=>eqB e.1 e.2) (k5+1) (E.drop (k5+1))):=HB5.out.trans (HC.out.trans (if_neg ht))
      clear HB5 HC HE3 ht c0 c1' c2' c3' c4' c5'
      rw [ht2]
      go_wp2
      go_roundw
      case rel=>exact ⟨k5+1,by go_num,by omega,below_drewN B5 _,below_drewN B5' _,HX⟩
      case measure=>simp [intOf];omega
    have HX:findM (fun e:Pt×Pt=>eqB e.1 e.2) 0 E = -1:=by rw [HB5.out,List.drop_of_length_le (by omega)];rfl
    have hZ:NzE E:=by
     have hall:=findM_none _ _ 0 (by decide) HX
     intro j hj
     have hm:E.getD j (zP,zP)∈E:=by
      rw [List.getD_eq_getElem?_getD,List.getElem?_eq_getElem hj];exact List.getElem_mem hj
     exact eqP_false (hall _ hm)
    have HE4:=hide (HE3.out.trans (if_neg (fun k=>k HX)))
    clear HB5 HE3 HX B4 heq
    go_wp2_with fail
    go_loopw [11,12] (fun i _ w'=>∃ k:Nat,i = .int .i64 k/\k<=E.length/\Below w.heap.size w w'/\Below w3.heap.size w3 w'/\Hid (findM (sharesM E) 0 (List.range E.length)=findM (sharesM E) k ((List.range E.length).drop k))) (fun i _ _=>E.length-(intOf i).toNat)
    case atStart=>exact ⟨0,rfl,Nat.zero_le _,B5,B5',rfl⟩
    case round=>
     clear B5 B5'
     obtain ⟨k6,rfl,hk6,B6,B6',HB6⟩:=hrel
     by_cases hlt6:k6<E.length
     ·obtain ⟨b,off,rfl,hb,hs⟩:=r3 k6 hlt6
      obtain ⟨c0,c1',c2',c3',c4',c5'⟩:=hs.later B6' hb
      have HC:=hide (findM_cons (sharesM E) k6 (List.range E.length) k6 (by simpa using hlt6) 0)
      have eget:(List.range E.length).getD k6 0=k6:=by rw [List.getD_eq_getElem?_getD,List.getElem?_range hlt6];rfl
      rw [eget] at HC
      have HS:=hide (show sharesM E k6=(E.take k6).any (alongB (E.getD k6 (zP,zP))) from rfl)
      have hgr:=hG k6 hlt6
      have hnz:=hZ k6 hlt6
      have hT6:=((hEs.take k6 hk6).later B6')
      have hGT:=hG.take k6
      have hZT:=hZ.take k6
      generalize E.getD k6 (zP,zP)=e at *
      obtain ⟨he1,he2⟩:=hgr
      have hkc:(k6:Int)<=(ecap:Int):=by omega
      have hk60:(0:Int)<=(k6:Int):=Int.natCast_nonneg _
      have hk61:(k6:Int)<(E.length:Int):=by omega
      clear r3 hs hG hZ hEs eget
      go_wp2_with fail
      go_region_with (go_at_call 43;refine (rshares_any e _ (E.take k6) _ (by exact hT6.later (Below.refl _ _).drew) he1 he2 hnz hGT hZT).mono ?_;rintro e' w1 ⟨rfl,k1⟩)
      all_goals
       have B7:=bvia B6.drew k1
       have B7':=bvia B6'.drew k1
       clear k1 c0 c1' c2' c3' c4' c5' hT6 hGT hZT
       by_cases ht:(E.take k6).any (alongB e)=true
       ·have HX:Hid (findM (sharesM E) 0 (List.range E.length)=k6):=HB6.out.trans (HC.out.trans (if_pos (HS.out.trans ht)))
        have HE:Hid (checkM P=(5,(k6:Int))):=by
         refine hide ?_
         rw [HE4.out,if_pos (by rw [HX.out];omega),HX.out]
        rw [ht]
        clear HB6 HC HS ht HE4 HX
        go_wp2
        go_ret2
        exact ⟨by rw [HE.out];rfl,B7⟩
       ·have ht':(E.take k6).any (alongB e)=false:=by simpa using ht
        have HX:Hid (findM (sharesM E) 0 (List.range E.length)=findM (sharesM E) (k6+1) ((List.range E.length).drop (k6+1))):=HB6.out.trans (HC.out.trans (if_neg (by rw [HS.out,ht'];decide)))
        rw [ht']
        clear HB6 HC HS ht ht' HE4
        go_wp2
        go_roundw
        case rel=>exact ⟨k6+1,by go_num,by omega,B7,B7',HX⟩
        case measure=>simp [intOf];omega
     ·have HX:findM (sharesM E) 0 (List.range E.length) = -1:=by rw [HB6.out,List.drop_of_length_le (by simp;omega)];rfl
      have HE:Hid (checkM P=(0,0)):=hide (HE4.out.trans (if_neg (fun k=>k HX)))
      clear HB6 HE4 HX r3 hG hZ hEs
      go_wp2
      go_ret2
      exact ⟨by rw [HE.out];rfl,B6⟩
def bynd:Pt:=⟨1,2,3⟩
set_option maxHeartbeats 400000 in
theorem beyond_any (w:World) :
  Calls Tryz.prog 39 #[] w fun e w'=>e = .returned bynd.v/\w'=w.alloc (.cells #[.int .i64 1,.int .i64 2,.int .i64 3] 31):=by
 go_enter Tryz.func39,Tryz.ntmps39
 go_wp2
 exact bodyPost_ret (v:=bynd.v) (by simp [results,Tryz.results39,go_sem,bynd]) rfl ⟨rfl,rfl⟩
theorem neq_pt (x y d x' y' d':Int)(w:World):(binOp .neq 31 (.agg #[.int .i64 x,.int .i64 y,.int .i64 d]) (.agg #[.int .i64 x',.int .i64 y',.int .i64 d'])).run Tryz.prog w = .ok (.bool (!eqP ⟨x,y,d⟩ ⟨x',y',d'⟩)) w:=by
 by_cases h1:x=x'
 ·by_cases h2:y=y'
  ·by_cases h3:d=d' <;> simp [go_sem,eqP,h1,h2,h3]
  ·simp [go_sem,eqP,h1,h2]
 ·simp [go_sem,eqP,h1]
theorem eqP_self (p:Pt):eqP p p=true:=by simp [eqP]
set_option maxRecDepth 100000 in
set_option maxHeartbeats 1000000 in
theorem samePoints_yes (v v':Value)(r:List Pt)(w:World)(h:RingAt w v r)(h':RingAt w v' r) :
  Calls Tryz.prog 44 #[v,v'] w fun e w'=>e = .returned (.bool true)/\∃ n,w'=w.drewN n:=by
 obtain ⟨a,cap,rfl,h1,h2,h3⟩:=h
 obtain ⟨a',cap',rfl,_,_,h3'⟩:=h'
 have hneq:=neq_pt
 unfold maxLen at h2
 go_enter Tryz.func44,Tryz.ntmps44
 go_wp2_with fail
 go_loopw [5] (fun i w'=>∃ (k n:Nat),i = .int .i64 k/\k<=r.length/\w'=w.drewN n) (fun i _=>r.length-(intOf i).toNat)
 case atStart=>exact ⟨0,0,rfl,Nat.zero_le _,rfl⟩
 case round=>
  obtain ⟨k,n,rfl,hk,rfl⟩:=hrel
  by_cases hlt:k<r.length
  ·obtain ⟨b,off,rfl,_,c0,c1,c2⟩:=h3 k hlt
   obtain ⟨b',off',rfl,_,d0,d1,d2⟩:=h3' k hlt
   generalize r.getD k zP=p at *
   have hk0:(0:Int)<=(k:Int):=Int.natCast_nonneg _
   have hk1:(k:Int)<(r.length:Int):=by omega
   have e1:eqP ⟨p.x,p.y,p.d⟩ ⟨p.x,p.y,p.d⟩=true:=eqP_self p
   clear h3 h3'
   go_wp2_with fail
   go_quiet (fail)
   go_wp2
   go_roundw
   case rel=>exact ⟨k+1,_,by go_num,by omega,rfl⟩
   case measure=>simp [intOf];omega
  ·clear h3 h3'
   go_wp2
   go_ret
   exact ⟨rfl,n,rfl⟩
theorem RingAt.drewN {w:World}{v:Value}{r:List Pt}(h:RingAt w v r)(n:Nat):RingAt (w.drewN n) v r:=h.later (below_drewN (Below.refl _ _) n)
theorem PolyAt.drewN {w:World}{v:Value}{P:List (List Pt)}(h:PolyAt w v P)(n:Nat):PolyAt (w.drewN n) v P:=h.later (below_drewN (Below.refl _ _) n)
set_option maxRecDepth 100000 in
set_option maxHeartbeats 1000000 in
theorem sameRings_yes (v v':Value)(P:List (List Pt))(w:World)(h:PolyAt w v P)(h':PolyAt w v' P) :
  Calls Tryz.prog 30 #[v,v'] w fun e w'=>e = .returned (.bool true)/\∃ n,w'=w.drewN n:=by
 obtain ⟨a,cap,rfl,h1,h2,h3⟩:=h
 obtain ⟨a',cap',rfl,_,_,h3'⟩:=h'
 unfold maxLen at h2
 go_enter Tryz.func30,Tryz.ntmps30
 go_wp2_with fail
 go_loopw [5,6] (fun i _ w'=>∃ (k n:Nat),i = .int .i64 k/\k<=P.length/\w'=w.drewN n) (fun i _ _=>P.length-(intOf i).toNat)
 case atStart=>exact ⟨0,0,rfl,Nat.zero_le _,rfl⟩
 case round=>
  obtain ⟨k,n,rfl,hk,hw⟩:=hrel
  have HW:=hide hw
  by_cases hlt:k<P.length
  ·obtain ⟨b,off,rv,rfl,_,c0',hr0⟩:=h3 k hlt
   obtain ⟨b',off',rv',rfl,_,d0',hr0'⟩:=h3' k hlt
   have c0:wr.cell? ⟨b,off+k,none⟩=some rv:=by rw [hw];exact c0'
   have d0:wr.cell? ⟨b',off'+k,none⟩=some rv':=by rw [hw];exact d0'
   have hr:RingAt wr rv (P.getD k []):=by rw [hw];exact hr0.drewN n
   have hr':RingAt wr rv' (P.getD k []):=by rw [hw];exact hr0'.drewN n
   clear c0' d0' hr0 hr0' hw
   generalize P.getD k []=r at *
   have hk0:(0:Int)<=(k:Int):=Int.natCast_nonneg _
   have hk1:(k:Int)<(P.length:Int):=by omega
   clear h3 h3'
   go_wp2_with fail
   go_quiet ((go_at_call 44;exact Calls.quiet_of (samePoints_yes _ _ r _ (hr.drewN _) (hr'.drewN _))))
   go_wp2
   go_roundw
   case rel=>exact ⟨k+1,n+nq,by go_num,by omega,by rw [HW.out,World.drewN_drewN]⟩
   case measure=>simp [intOf];omega
  ·clear h3 h3' hw
   go_wp2
   go_ret
   exact ⟨rfl,n,HW.out⟩
set_option maxHeartbeats 1000000 in
theorem it_any (pb rb wb n:Nat)(w:World)(h0:w.cell? ⟨pb,0,none⟩=some (.slice (some ⟨rb,0,none⟩) (n+1) (n+1)))(h1:w.cell? ⟨pb,1,none⟩=some (.slice (some ⟨wb,0,none⟩) n n)) :
  Calls Tryz.prog 19 #[.pointer (some ⟨pb,0,none⟩)] w fun e w'=>e = .returned (.slice (some ⟨rb,0,none⟩) n (n+1))/\∃ m,w'=w.drewN m:=by
 have hn:(n:Int)<=((n+1:Nat):Int):=by omega
 have hn2:n<=n+1:=by omega
 go_enter Tryz.func19,Tryz.ntmps19
 go_wp2_with fail
 go_quiet (fail)
 go_wp2
 go_ret
 exact ⟨rfl,_,rfl⟩
end Go.Proofs.YtnkcbephceollabGreat
