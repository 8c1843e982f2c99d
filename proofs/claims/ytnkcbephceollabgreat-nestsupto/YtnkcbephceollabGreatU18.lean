import Derived.Test.YtnkcbephceollabGreatU17
namespace Go.Proofs.YtnkcbephceollabGreat
open Go.RowKit
set_option linter.unusedSimpArgs false
set_option linter.unusedVariables false
set_option maxRecDepth 100000 in
set_option maxHeartbeats 4000000 in
theorem rcrossed_any (o q:Pt)(v:Value)(E:List (Pt×Pt))(w:World)(hE:SegsAt w v E)
  (hD:∀ e∈E,DetOk o q e.1/\DetOk o q e.2/\DetOk e.1 e.2 o/\DetOk e.1 e.2 q) :
  Calls Tryz.prog 84 #[o.v,q.v,v] w fun e w'=>e = .returned (.int .i64 (nCross o q E))/\Below w.heap.size w w':=by
 obtain ⟨a,cap,rfl,h1,h2,h3⟩:=hE
 unfold maxLen at h2
 have H3:=hide h3
 have HD:=hide hD
 clear h3 hD
 go_enter Tryz.func84,Tryz.ntmps84
 go_wp2_with fail
 go_loopw [7,8,9,10,11,12,13,14,15] (fun cv iv _ _ _ _ _ _ _ w'=>∃ i:Nat,iv = .int .i64 i/\i<=E.length/\cv = .int .i64 (nCross o q (E.take i))/\Blk w' w.heap.size #[.int .i64 o.x,.int .i64 o.y,.int .i64 o.d]/\Blk w' (w.heap.size+1) #[.int .i64 q.x,.int .i64 q.y,.int .i64 q.d]/\Below w.heap.size w w') (fun _ iv _ _ _ _ _ _ _ _=>E.length-(intOf iv).toNat)
 case atStart=>exact ⟨0,rfl,Nat.zero_le _,rfl,(Blk.new w _ _).alloc _,Blk.at (w.heap.size+1) (by simp),below2 _ _ _⟩
 case round=>
  obtain ⟨i,rfl,hi,rfl,⟨co,fo,zo⟩,⟨cq,fq,zq⟩,hbel⟩:=hrel
  by_cases hlt:i<E.length
  ·obtain ⟨b,off,rfl,hb,hs⟩:=H3.out i hlt
   obtain ⟨c0,c1,c2,c3,c4,c5⟩:=hs.later hbel hb
   have hm:E.getD i (zP,zP)∈E:=getD_mem hlt _
   obtain ⟨D1,D2,D3,D4⟩:=HD.out _ hm
   have HN:=hide (nCross_take o q E i hlt)
   have hle:nCross o q (E.take i)<=i:=Nat.le_trans (nCross_le ..) (by simp;omega)
   have HX:=hide (show crossB o q (E.getD i (zP,zP)).1 (E.getD i (zP,zP)).2=_ from rfl)
   generalize E.getD i (zP,zP)=e at *
   have hc0:(0:Int)<=(nCross o q (E.take i):Int):=Int.natCast_nonneg _
   have hcl:(nCross o q (E.take i):Int)<=9223372036854775806:=by omega
   generalize nCross o q (E.take i)=nc at *
   have HX:Hid (crossB o q e.1 e.2=(apartB (detM o q e.1) (detM o q e.2) && apartB (detM e.1 e.2 o) (detM e.1 e.2 q))):=hide rfl
   clear hs hm
   go_wp2_with fail
   refine (D1 _).mono ?_
   rintro e' w1 ⟨rfl,k1⟩
   have B1:=bvia (hbel.alloc hbel.size _) k1
   obtain ⟨co1,fo1,zo1⟩:=((Blk.mk co fo zo).alloc _).call k1
   obtain ⟨cq1,fq1,zq1⟩:=((Blk.mk cq fq zq).alloc _).call k1
   obtain ⟨ce1,fe1,ze1⟩:=(Blk.new wr _ _).call k1
   clear k1 c0 c1 c2 c3 c4 c5 co fo zo cq fq zq hbel
   go_wp2_with fail
   refine (D2 _).mono ?_
   rintro e' w2 ⟨rfl,k1⟩
   have B2:=bvia B1 k1
   obtain ⟨co2,fo2,zo2⟩:=(Blk.mk co1 fo1 zo1).call k1
   obtain ⟨cq2,fq2,zq2⟩:=(Blk.mk cq1 fq1 zq1).call k1
   obtain ⟨ce2,fe2,ze2⟩:=(Blk.mk ce1 fe1 ze1).call k1
   clear k1 co1 fo1 zo1 cq1 fq1 zq1 ce1 fe1 ze1 B1
   go_wp2_with fail
   refine (D3 _).mono ?_
   rintro e' w3 ⟨rfl,k1⟩
   have B3:=bvia B2 k1
   obtain ⟨co3,fo3,zo3⟩:=(Blk.mk co2 fo2 zo2).call k1
   obtain ⟨cq3,fq3,zq3⟩:=(Blk.mk cq2 fq2 zq2).call k1
   obtain ⟨ce3,fe3,ze3⟩:=(Blk.mk ce2 fe2 ze2).call k1
   clear k1 co2 fo2 zo2 cq2 fq2 zq2 ce2 fe2 ze2 B2
   go_wp2_with fail
   refine (D4 _).mono ?_
   rintro e' w4 ⟨rfl,k1⟩
   have B4:=bvia B3 k1
   have Lo:=(Blk.mk co3 fo3 zo3).call k1
   have Lq:=(Blk.mk cq3 fq3 zq3).call k1
   clear k1 co3 fo3 zo3 cq3 fq3 zq3 ce3 fe3 ze3 B3
   clear D1 D2 D3 D4
   generalize detM o q e.1=m1 at *
   generalize detM o q e.2=m2 at *
   generalize detM e.1 e.2 o=m3 at *
   generalize detM e.1 e.2 q=m4 at *
   go_wp2_with fail
   refine (rapart_any m1 m2 _).mono ?_
   rintro e' w5 ⟨rfl,hw⟩
   obtain rfl:=hw.symm
   go_wp2_with fail
   refine (rapart_any m3 m4 _).mono ?_
   rintro e' w6 ⟨rfl,hw⟩
   obtain rfl:=hw.symm
   generalize apartB m1 m2=x1 at *
   generalize apartB m3 m4=x2 at *
   cases x1
   ·have HE:Hid (nCross o q (E.take (i+1))=nc):=HN.out.trans (by rw [HX.out];rfl)
    go_wp2
    go_roundw
    case rel=>exact ⟨i+1,by go_num,by omega,by rw [HE.out],Lo,Lq,B4⟩
    case measure=>simp [intOf];omega
   ·cases x2
    ·have HE:Hid (nCross o q (E.take (i+1))=nc):=HN.out.trans (by rw [HX.out];rfl)
     go_wp2
     go_roundw
     case rel=>exact ⟨i+1,by go_num,by omega,by rw [HE.out],Lo,Lq,B4⟩
     case measure=>simp [intOf];omega
    ·have HE:Hid (nCross o q (E.take (i+1))=nc+1):=HN.out.trans (by rw [HX.out];rfl)
     go_wp2
     go_roundw
     case rel=>exact ⟨i+1,by go_num,by omega,by rw [HE.out];go_num,Lo,Lq,B4⟩
     case measure=>simp [intOf];omega
  ·have HE:Hid (E.take i=E):=List.take_of_length_le (by omega)
   go_wp2
   go_ret
   exact ⟨ret_int (by rw [HE.out]),hbel⟩
theorem detOk_w {a b c:Pt}(ha:Gw a)(hb:Gw b)(hc:Gw c):DetOk a b c:=fun w=>rdet_w a b c w ha hb hc
set_option maxRecDepth 100000 in
set_option maxHeartbeats 4000000 in
theorem rlocate_any (v:Value)(P:List (List Pt))(q:Pt)(w:World)(hP:PolyAt w v P)(hT:P.flatten.length<=100000)(hq:goodB q=true)(hG:∀ p∈P.flatten,goodB p=true) :
  Calls Tryz.prog 47 #[v,q.v] w fun e w'=>e = .returned (.int .i64 (rlocM P q))/\Below w.heap.size w w':=by
 have hT':(edgesM P).length<=100000:=by rw [edgesM_len];exact hT
 have gq:=(gd_of_good hq).1
 have gqw:=gq.gw
 have grw:=gw_right hq
 have h4:∀ k,k<=P.flatten.length+1->∀ p∈P.flatten,DetOk (outP k) q p:=fun k hk p hp=>detOk_w (outP_gw k (by omega)) gqw (gd_of_good (hG p hp)).1.gw
 have h5:∀ k,k<=P.flatten.length+1->DetOk q (rightP q) (outP k):=fun k hk=>detOk_w gqw grw (outP_gw k (by omega))
 have HX:Hid (∀ e∈edgesM P,DetOk (farM q P.flatten q (rightP q)) q e.1/\DetOk (farM q P.flatten q (rightP q)) q e.2/\DetOk e.1 e.2 (farM q P.flatten q (rightP q))/\DetOk e.1 e.2 q):=by
  refine hide (fun e he=>?_)
  obtain ⟨j,hj,ej⟩:=farL_out (freeB q P.flatten q (rightP q)) (P.flatten.length+2) 0
  have hf:Gw (farM q P.flatten q (rightP q)):=by unfold farM;rw [ej];exact outP_gw j (by omega)
  obtain ⟨m1,m2⟩:=edges_mem he
  have g1:=(gd_of_good (hG _ m1)).1.gw
  have g2:=(gd_of_good (hG _ m2)).1.gw
  exact ⟨detOk_w hf gqw g1,detOk_w hf gqw g2,detOk_w g1 g2 hf,detOk_w g1 g2 gqw⟩
 have HFar:=hide (fun (pv:Value) (wz:World) (hr:RingAt wz pv P.flatten)=>rfar_any q pv P.flatten q (rightP q) wz hr (by omega) h4 h5)
 have hGe:∀ e∈edgesM P,Gd e.1/\Gd e.2:=fun e he=>⟨(gd_of_good (hG _ (edges_mem he).1)).1,(gd_of_good (hG _ (edges_mem he).2)).1⟩
 have HGe:=hide hGe
 have HR:=hide (show rlocM P q=if (edgesM P).any (fun e=>onB q e.1 e.2)=true then 2 else if nCross (farM q P.flatten q (rightP q)) q (edgesM P) % 2=1 then 1 else 0 from rfl)
 obtain ⟨lx,ux⟩:=gq.x
 obtain ⟨ld,ud⟩:=gq.d
 clear h4 h5 hGe hG grw gqw
 generalize rlocM P q=res at *
 go_enter Tryz.func47,Tryz.ntmps47
 go_wp2_with fail
 refine (rEdges_any v P _ (hP.later ((Below.refl _ _).alloc (Nat.le_refl _) _)) hT').mono ?_
 rintro e w1 ⟨ev,rfl,hE,k1⟩
 have B1:=bvia ((Below.refl _ _).alloc (Nat.le_refl _) _) k1
 have Q1:=(Blk.new w #[.int .i64 q.x,.int .i64 q.y,.int .i64 q.d] 31).call k1
 clear k1
 obtain ⟨ea,ecap,rfl,e1,e2,e3⟩:=id hE
 unfold maxLen at e2
 generalize hEe:edgesM P=E at *
 go_upto_block 0 with fail
 go_cut [6,7] (fun _ _ w'=>E.any (fun e=>onB q e.1 e.2)=false/\Blk w' w.heap.size #[.int .i64 q.x,.int .i64 q.y,.int .i64 q.d]/\Below w.heap.size w w'/\Below w1.heap.size w1 w')
 case first=>
  go_wp2_with fail
  go_loopw [6,7] (fun iv _ w'=>∃ i:Nat,iv = .int .i64 i/\i<=E.length/\Blk w' w.heap.size #[.int .i64 q.x,.int .i64 q.y,.int .i64 q.d]/\Below w.heap.size w w'/\Below w1.heap.size w1 w'/\Hid (E.any (fun e=>onB q e.1 e.2)=(E.drop i).any (fun e=>onB q e.1 e.2))) (fun iv _ _=>E.length-(intOf iv).toNat)
  case atStart=>exact ⟨0,rfl,Nat.zero_le _,Q1,B1,Below.refl _ _,rfl⟩
  case round=>
   obtain ⟨i,rfl,hi,⟨cq,fq,zq⟩,hbel,hb1,HB⟩:=hrel
   by_cases hlt:i<E.length
   ·obtain ⟨b,off,rfl,hb,hs⟩:=e3 i hlt
    obtain ⟨c0,c1,c2,c3,c4,c5⟩:=hs.later hb1 hb
    have HC:=hide (any_drop (fun e:Pt×Pt=>onB q e.1 e.2) E i hlt (zP,zP))
    obtain ⟨ge1,ge2⟩:=HGe.out _ (getD_mem hlt (zP,zP))
    generalize E.getD i (zP,zP)=e at *
    have hi0:(0:Int)<=(i:Int):=Int.natCast_nonneg _
    have hi1:(i:Int)<(E.length:Int):=by omega
    have C:=fun wz=>ron_any q e.1 e.2 wz gq ge1 ge2
    clear e3 hs
    go_upto_region 5 with fail
    go_cut [7] (fun bv w'=>bv = .bool (onB q e.1 e.2)/\Blk w' w.heap.size #[.int .i64 q.x,.int .i64 q.y,.int .i64 q.d]/\Below w.heap.size w w'/\Below w1.heap.size w1 w')
    case first=>
     go_region_with (go_at_call 82;refine (C _).mono ?_;rintro e' w2 ⟨rfl,k2⟩)
     all_goals
      go_wp2_with fail
      go_meet
      case rel=>exact ⟨rfl,(Blk.mk cq fq zq).drew.call k2,bvia hbel.drew k2,bvia hb1.drew k2⟩
    case rest=>
     clear cq fq zq hbel hb1 c0 c1 c2 c3 c4 c5 C
     obtain ⟨rfl,L1,L2,L3⟩:=hcut
     cases ho:onB q e.1 e.2
     ·have HE:Hid (E.any (fun e=>onB q e.1 e.2)=(E.drop (i+1)).any (fun e=>onB q e.1 e.2)):=HB.out.trans (HC.out.trans (by simp [ho]))
      clear HB HC
      go_wp2
      go_roundw
      case rel=>exact ⟨i+1,by go_num,by omega,L1,L2,L3,HE⟩
      case measure=>simp [intOf];omega
     ·have HE:Hid (res=2):=HR.out.trans (if_pos (HB.out.trans (HC.out.trans (by simp [ho]))))
      clear HB HC
      go_wp2
      go_ret
      exact ⟨ret_int HE.out.symm,L2⟩
   ·have HE:Hid (E.any (fun e=>onB q e.1 e.2)=false):=by rw [HB.out,List.drop_of_length_le (by omega)];exact hide rfl
    have hi1 : ¬ (i:Int)<(E.length:Int):=by omega
    go_wp2
    go_meet
    case rel=>exact ⟨HE.out,Blk.mk cq fq zq,hbel,hb1⟩
 case rest=>
  obtain ⟨hno,Q2,B2,k2⟩:=hcut
  have HE:Hid (res=if nCross (farM q P.flatten q (rightP q)) q E % 2=1 then 1 else 0):=HR.out.trans (if_neg (by rw [hno];decide))
  have hE2:=hE.later k2
  have hP2:=hP.later B2
  clear HR hno Q1 B1 hE k2 hP
  generalize farM q P.flatten q (rightP q)=fm at *
  obtain ⟨cq,fq,zq⟩:=Q2
  go_upto_region 9 with fail
  have SX:=Blk.new wc #[.int .i64 q.x,.int .i64 q.y,.int .i64 q.d,.int .i64 (q.x+q.d),.int .i64 q.y,.int .i64 q.d] 73
  have QX:=(Blk.mk cq fq zq).alloc (.cells #[.int .i64 q.x,.int .i64 q.y,.int .i64 q.d,.int .i64 (q.x+q.d),.int .i64 q.y,.int .i64 q.d] 73)
  have BX:=B2.alloc B2.size (.cells #[.int .i64 q.x,.int .i64 q.y,.int .i64 q.d,.int .i64 (q.x+q.d),.int .i64 q.y,.int .i64 q.d] 73)
  have kX:Below wc.heap.size wc (wc.alloc (.cells #[.int .i64 q.x,.int .i64 q.y,.int .i64 q.d,.int .i64 (q.x+q.d),.int .i64 q.y,.int .i64 q.d] 73)):=(Below.refl _ _).alloc (Nat.le_refl _) _
  have EX:=hE2.later kX
  have PX:=hP2.later kX
  have hsz:=B2.size
  generalize wc.alloc (.cells #[.int .i64 q.x,.int .i64 q.y,.int .i64 q.d,.int .i64 (q.x+q.d),.int .i64 q.y,.int .i64 q.d] 73)=wX at *
  generalize wc.heap.size=sb at *
  clear kX hE2 hP2 cq fq zq B2
  obtain ⟨cs,fs,zs⟩:=SX
  obtain ⟨cq,fq,zq⟩:=QX
  have hqs:w.heap.size<wX.heap.size:=zq
  go_cut [9] (fun po w'=>∃ ob,po = .pointer (some ⟨ob,0,none⟩)/\Blk w' ob #[.int .i64 fm.x,.int .i64 fm.y,.int .i64 fm.d]/\Blk w' w.heap.size #[.int .i64 q.x,.int .i64 q.y,.int .i64 q.d]/\Below w.heap.size w w'/\Below wX.heap.size wX w')
  case first=>
   go_region_with (first
    |(go_at_call 41;refine (points_any v P _ (by first | exact PX.later (Below.refl _ _).drew | exact PX.later (((Below.refl _ _).alloc (Nat.le_refl _) _).drew)) hT).mono ?_;rintro e' w3 ⟨pv,rfl,hr3,k3⟩;have BQ:Blk w3 w.heap.size #[.int .i64 q.x,.int .i64 q.y,.int .i64 q.d]:=(by first | exact (Blk.mk cq fq zq).drew.call k3 | exact ((Blk.mk cq fq zq).alloc _).drew.call k3);have BS:Blk w3 sb #[.int .i64 q.x,.int .i64 q.y,.int .i64 q.d,.int .i64 (q.x+q.d),.int .i64 q.y,.int .i64 q.d]:=(by first | exact (Blk.mk cs fs zs).drew.call k3 | exact ((Blk.mk cs fs zs).alloc _).drew.call k3);have BB:Below w.heap.size w w3:=(by first | exact bvia BX.drew k3 | exact bvia (BX.alloc BX.size _).drew k3);have BK:Below wX.heap.size wX w3:=(by first | exact bvia (Below.refl _ _).drew k3 | exact bvia ((Below.refl _ _).alloc (Nat.le_refl _) _).drew k3);obtain ⟨cq3,fq3,zq3⟩:=id BQ;obtain ⟨cs3,fs3,zs3⟩:=BS;try (have BO:Blk w3 wX.heap.size #[.int .i64 0,.int .i64 0,.int .i64 0]:=(by exact (Blk.new wX _ _).drew.call k3);obtain ⟨co3,fo3,zo3⟩:=BO))
    |(go_at_call 83;refine (HFar.out pv _ (by first | exact hr3 | exact hr3.later ((Below.refl _ _).alloc (Nat.le_refl _) _))).mono ?_;rintro e' w4 ⟨rfl,k4⟩;first | (have BO:Blk w4 wX.heap.size #[.int .i64 0,.int .i64 0,.int .i64 0]:=(by exact (Blk.mk co3 fo3 zo3).call k4);obtain ⟨co4,fo4,zo4⟩:=BO) | (have BO:Blk w4 w3.heap.size #[.int .i64 0,.int .i64 0,.int .i64 0]:=(by exact (Blk.new w3 _ _).call k4);obtain ⟨co4,fo4,zo4⟩:=BO) | skip))
   all_goals
    go_wp2_with fail
    go_meet
    first
     |(have k4':Below w3.heap.size w3 w4:=k4;exact ⟨w4.heap.size,rfl,Blk.new w4 _ _,(BQ.call k4').alloc _,(bvia BB k4').alloc (bvia BB k4').size _,(bvia BK k4').alloc (bvia BK k4').size _⟩)
     |(have k4':Below w3.heap.size w3 w4:=k4;exact ⟨wX.heap.size,rfl,(Blk.mk co4 fo4 zo4).put3,(BQ.call k4').off3 (by omega) _ _ _,below_set3 (o:=0) (bvia BB k4') (by omega),below_set3 (o:=0) (bvia BK k4') (by omega)⟩)
     |(have hz3:=BK.size;exact ⟨w3.heap.size,rfl,(Blk.mk co4 fo4 zo4).put3,((BQ.alloc _).call k4).off3 (by omega) _ _ _,below_set3 (o:=0) (bvia (BB.alloc BB.size _) k4) (by omega),below_set3 (o:=0) (bvia (BK.alloc BK.size _) k4) (by omega)⟩)
  case rest=>
   obtain ⟨ob,rfl,⟨co,fo,zo⟩,⟨cq4,fq4,zq4⟩,B4,k4⟩:=hcut
   have hE4:=EX.later k4
   have hnl:=nCross_le fm q E
   have hnl2:(nCross fm q E:Int)<=100000:=by omega
   have hn0:(0:Int)<=(nCross fm q E:Int):=Int.natCast_nonneg _
   have C:=rcrossed_any fm q _ E wc hE4 HX.out
   have hmod:((nCross fm q E:Int).tmod 2 == 1)=decide (nCross fm q E % 2=1):=by
    rw [Int.tmod_eq_emod_of_nonneg hn0,Bool.eq_iff_iff];simp;omega
   generalize nCross fm q E=nc at *
   go_wp2_with fail
   refine C.mono ?_
   rintro e' w5 ⟨rfl,k5⟩
   have B5:=bvia B4 k5
   clear k5 C co fo zo cq4 fq4 zq4 B4 k4
   by_cases hm:nc % 2=1
   ·have hmod:((nc:Int).tmod 2 == 1)=true:=hmod.trans (decide_eq_true hm)
    have HF:Hid (res=1):=HE.out.trans (if_pos hm)
    clear HE
    go_wp2
    go_ret
    exact ⟨ret_int HF.out.symm,B5⟩
   ·have hmod:((nc:Int).tmod 2 == 1)=false:=hmod.trans (decide_eq_false hm)
    have HF:Hid (res=0):=HE.out.trans (if_neg hm)
    clear HE
    go_wp2
    go_ret
    exact ⟨ret_int HF.out.symm,B5⟩
def spanM (a b p:Pt):Bool:=!decide (cmpM p (firstM a b)<0) && decide (cmpM p (lastM a b)<0)
def sideM (a b p:Pt):Int:=detM (firstM a b) (lastM a b) p
def hasM (a b p:Pt):Bool:=!decide (cmpM p (firstM a b)<0) && (!decide (0<cmpM p (lastM a b)) && decide (sideM a b p=0))
def overM (a b p:Pt):Bool:=spanM a b p && decide (sideM a b p<0)
theorem span_no {a b p:Pt}(h:cmpM p (firstM a b)<0):spanM a b p=false:=by unfold spanM;simp [h]
theorem span_of {a b p:Pt}(h : ¬ cmpM p (firstM a b)<0):spanM a b p=decide (cmpM p (lastM a b)<0):=by unfold spanM;simp [h]
theorem has_no {a b p:Pt}(h:cmpM p (firstM a b)<0):hasM a b p=false:=by unfold hasM;simp [h]
theorem has_no2 {a b p:Pt}(h:0<cmpM p (lastM a b)):hasM a b p=false:=by unfold hasM;simp [h]
theorem has_of {a b p:Pt}(h : ¬ cmpM p (firstM a b)<0)(h2 : ¬ 0<cmpM p (lastM a b)):hasM a b p=decide (sideM a b p=0):=by unfold hasM;simp [h,h2]
set_option maxHeartbeats 1000000 in
theorem Spans_any (a b p:Pt)(w:World)(ha:Gd a)(hb:Gd b)(hp:Gd p) :
  Calls Tryz.prog 110 #[sg a b,p.v] w fun e w'=>e = .returned (.bool (spanM a b p))/\Below w.heap.size w w':=by
 have gf:=firstM_gd ha hb
 have gl:=lastM_gd ha hb
 by_cases h:cmpM p (firstM a b)<0
 ·have H:=hide (span_no h)
  go_enter Tryz.func110,Tryz.ntmps110
  go_wp2_with fail
  refine (Forward_any a b _ ha hb).mono ?_
  rintro e w1 ⟨rfl,k⟩
  have B1:=bvia (below2 _ _ _) k
  obtain ⟨cp1,fp1,zp1⟩:=(Blk.at (w.heap.size+1) (by simp)).call k
  clear k
  go_wp2_with fail
  refine (Compare_any p (firstM a b) _ hp gf).mono ?_
  rintro e w2 ⟨rfl,k⟩
  have B2:=bvia (B1.alloc B1.size _) k
  clear k cp1 fp1 B1
  go_wp2
  go_ret
  exact ⟨ret_bool H.out.symm,B2⟩
 ·have H:=hide (span_of h)
  go_enter Tryz.func110,Tryz.ntmps110
  go_wp2_with fail
  refine (Forward_any a b _ ha hb).mono ?_
  rintro e w1 ⟨rfl,k⟩
  have B1:=bvia (below2 _ _ _) k
  obtain ⟨cp1,fp1,zp1⟩:=(Blk.at (w.heap.size+1) (by simp)).call k
  clear k
  go_wp2_with fail
  refine (Compare_any p (firstM a b) _ hp gf).mono ?_
  rintro e w2 ⟨rfl,k⟩
  have B2:=bvia (B1.alloc B1.size _) k
  obtain ⟨cp2,fp2,zp2⟩:=((Blk.mk cp1 fp1 zp1).alloc _).call k
  obtain ⟨cf2,ff2,zf2⟩:=(Blk.new w1 _ _).call k
  clear k cp1 fp1 B1
  go_wp2_with fail
  refine (Compare_any p (lastM a b) _ hp gl).mono ?_
  rintro e w3 ⟨rfl,k⟩
  have B3:=bvia B2 k
  clear k cp2 fp2 cf2 ff2 B2
  go_wp2
  go_ret
  exact ⟨ret_bool H.out.symm,B3⟩
set_option maxHeartbeats 1000000 in
theorem segSide_any (a b p:Pt)(w:World)(ha:Gd a)(hb:Gd b)(hp:Gd p) :
  Calls Tryz.prog 128 #[sg a b,p.v] w fun e w'=>e = .returned (.int .i64 (sideM a b p))/\Below w.heap.size w w':=by
 have gf:=firstM_gd ha hb
 have gl:=lastM_gd ha hb
 go_enter Tryz.func128,Tryz.ntmps128
 go_wp2_with fail
 refine (Forward_any a b _ ha hb).mono ?_
 rintro e w1 ⟨rfl,k⟩
 have B1:=bvia (below2 _ _ _) k
 obtain ⟨cp1,fp1,zp1⟩:=(Blk.at (w.heap.size+1) (by simp)).call k
 clear k
 go_wp2_with fail
 refine (Side_any (firstM a b) (lastM a b) p _ gf gl hp).mono ?_
 rintro e w2 ⟨rfl,k⟩
 have B2:=bvia (B1.alloc B1.size _) k
 clear k cp1 fp1 B1
 go_wp2
 go_ret
 exact ⟨rfl,B2⟩
set_option maxHeartbeats 1000000 in
theorem Has_any (a b p:Pt)(w:World)(ha:Gd a)(hb:Gd b)(hp:Gd p) :
  Calls Tryz.prog 105 #[sg a b,p.v] w fun e w'=>e = .returned (.bool (hasM a b p))/\Below w.heap.size w w':=by
 have gf:=firstM_gd ha hb
 have gl:=lastM_gd ha hb
 by_cases h:cmpM p (firstM a b)<0
 ·have H:=hide (has_no h)
  go_enter Tryz.func105,Tryz.ntmps105
  go_wp2_with fail
  refine (Forward_any a b _ ha hb).mono ?_
  rintro e w1 ⟨rfl,k⟩
  have B1:=bvia (below2 _ _ _) k
  obtain ⟨cp1,fp1,zp1⟩:=(Blk.at (w.heap.size+1) (by simp)).call k
  clear k
  go_wp2_with fail
  refine (Compare_any p (firstM a b) _ hp gf).mono ?_
  rintro e w2 ⟨rfl,k⟩
  have B2:=bvia (B1.alloc B1.size _) k
  clear k cp1 fp1 B1
  go_wp2
  go_ret
  exact ⟨ret_bool H.out.symm,B2⟩
 by_cases h2:0<cmpM p (lastM a b)
 ·have H:=hide (has_no2 h2)
  go_enter Tryz.func105,Tryz.ntmps105
  go_wp2_with fail
  refine (Forward_any a b _ ha hb).mono ?_
  rintro e w1 ⟨rfl,k⟩
  have B1:=bvia (below2 _ _ _) k
  obtain ⟨cp1,fp1,zp1⟩:=(Blk.at (w.heap.size+1) (by simp)).call k
  clear k
  go_wp2_with fail
  refine (Compare_any p (firstM a b) _ hp gf).mono ?_
  rintro e w2 ⟨rfl,k⟩
  have B2:=bvia (B1.alloc B1.size _) k
  obtain ⟨cp2,fp2,zp2⟩:=((Blk.mk cp1 fp1 zp1).alloc _).call k
  obtain ⟨cf2,ff2,zf2⟩:=(Blk.new w1 _ _).call k
  clear k cp1 fp1 B1
  go_wp2_with fail
  refine (Compare_any p (lastM a b) _ hp gl).mono ?_
  rintro e w3 ⟨rfl,k⟩
  have B3:=bvia B2 k
  clear k cp2 fp2 cf2 ff2 B2
  go_wp2
  go_ret
  exact ⟨ret_bool H.out.symm,B3⟩
 have H:=hide (has_of h h2)
 have HS:=hide (show detM (firstM a b) (lastM a b) p=sideM a b p from rfl)
 go_enter Tryz.func105,Tryz.ntmps105
 go_wp2_with fail
 refine (Forward_any a b _ ha hb).mono ?_
 rintro e w1 ⟨rfl,k⟩
 have B1:=bvia (below2 _ _ _) k
 obtain ⟨cp1,fp1,zp1⟩:=(Blk.at (w.heap.size+1) (by simp)).call k
 clear k
 go_wp2_with fail
 refine (Compare_any p (firstM a b) _ hp gf).mono ?_
 rintro e w2 ⟨rfl,k⟩
 have B2:=bvia (B1.alloc B1.size _) k
 obtain ⟨cp2,fp2,zp2⟩:=((Blk.mk cp1 fp1 zp1).alloc _).call k
 obtain ⟨cf2,ff2,zf2⟩:=(Blk.new w1 _ _).call k
 clear k cp1 fp1 B1
 go_wp2_with fail
 refine (Compare_any p (lastM a b) _ hp gl).mono ?_
 rintro e w3 ⟨rfl,k⟩
 have B3:=bvia B2 k
 obtain ⟨cp3,fp3,zp3⟩:=(Blk.mk cp2 fp2 zp2).call k
 obtain ⟨cf3,ff3,zf3⟩:=(Blk.mk cf2 ff2 zf2).call k
 clear k cp2 fp2 cf2 ff2 B2
 go_wp2_with fail
 refine (Side_any (firstM a b) (lastM a b) p _ gf gl hp).mono ?_
 rintro e w4 ⟨rfl,k⟩
 have B4:=bvia B3 k
 clear k cp3 fp3 cf3 ff3 B3
 go_wp2
 go_ret
 exact ⟨ret_bool (by rw [H.out];rfl),B4⟩
set_option maxHeartbeats 1000000 in
theorem isOver_any (a b p:Pt)(w:World)(ha:Gd a)(hb:Gd b)(hp:Gd p) :
  Calls Tryz.prog 106 #[sg a b,p.v] w fun e w'=>e = .returned (.bool (overM a b p))/\Below w.heap.size w w':=by
 cases h:spanM a b p
 ·have H:Hid (overM a b p=false):=by unfold overM;rw [h];exact hide rfl
  go_enter Tryz.func106,Tryz.ntmps106
  go_wp2_with fail
  refine (Spans_any a b p _ ha hb hp).mono ?_
  rintro e w1 ⟨rfl,k⟩
  have B1:=bvia (below2 _ _ _) k
  rw [h]
  clear k h
  go_wp2
  go_ret
  exact ⟨ret_bool H.out.symm,B1⟩
 ·have H:Hid (overM a b p=decide (sideM a b p<0)):=by unfold overM;rw [h];exact hide rfl
  go_enter Tryz.func106,Tryz.ntmps106
  go_wp2_with fail
  refine (Spans_any a b p _ ha hb hp).mono ?_
  rintro e w1 ⟨rfl,k⟩
  have B1:=bvia (below2 _ _ _) k
  obtain ⟨cs1,fs1,zs1⟩:=((Blk.new w _ _).alloc _).call k
  obtain ⟨cp1,fp1,zp1⟩:=(Blk.at (w.heap.size+1) (by simp)).call k
  rw [h]
  clear k h
  go_wp2_with fail
  refine (segSide_any a b p _ ha hb hp).mono ?_
  rintro e w2 ⟨rfl,k⟩
  have B2:=bvia B1 k
  clear k cs1 fs1 cp1 fp1 B1
  go_wp2
  go_ret
  exact ⟨ret_bool H.out.symm,B2⟩
def otherM (n:Int):Int:=if n=0 then 1 else 0
set_option maxHeartbeats 400000 in
theorem other_any (n:Int)(w:World) :
  Calls Tryz.prog 107 #[.int .i64 n] w fun e w'=>e = .returned (.int .i64 (otherM n))/\w'=w:=by
 by_cases h:n=0
 ·subst h
  go_enter Tryz.func107,Tryz.ntmps107
  go_wp2
  go_ret
  exact ⟨rfl,rfl⟩
 ·have H:Hid (otherM n=0):=if_neg h
  have h':(n == 0)=false:=by simpa using h
  go_enter Tryz.func107,Tryz.ntmps107
  go_wp2
  go_ret
  exact ⟨ret_int H.out.symm,rfl⟩
def moreM:Int->List (List Pt)->Bool
 | _,[]=>false
 | room,r::rs=>if room<(r.length:Int) then true else moreM (room-r.length) rs
theorem moreM_cons (room:Int)(P:List (List Pt))(k:Nat)(hk:k<P.length) :
  moreM room (P.drop k)=if room<((P.getD k []).length:Int) then true else moreM (room-(P.getD k []).length) (P.drop (k+1)):=by
 rw [List.drop_eq_getElem_cons hk]
 simp only [moreM]
 rw [List.getD_eq_getElem?_getD,List.getElem?_eq_getElem hk];rfl
set_option maxRecDepth 100000 in
set_option maxHeartbeats 1000000 in
theorem hasMore_any (v:Value)(P:List (List Pt))(w:World)(hP:PolyAt w v P) :
  Calls Tryz.prog 79 #[v,.int .i64 2000] w fun e w'=>e = .returned (.bool (moreM 2000 P))/\w'=w:=by
 obtain ⟨a,cap,rfl,h1,h2,h3⟩:=hP
 unfold maxLen at h2
 go_enter Tryz.func79,Tryz.ntmps79
 go_wp2_with fail
 go_loop [5,7,11] (fun room _ i=>∃ (k:Nat) (rm:Int),i = .int .i64 k/\room = .int .i64 rm/\k<=P.length/\0<=rm/\rm<=2000/\Hid (moreM 2000 P=moreM rm (P.drop k))) (fun _ _ i=>P.length-(intOf i).toNat)
 case atStart=>exact ⟨0,2000,rfl,rfl,Nat.zero_le _,by decide,by decide,rfl⟩
 case round=>
  obtain ⟨k,rm,rfl,rfl,hk,hr0,hr1,HB⟩:=hrel
  by_cases hlt:k<P.length
  ·obtain ⟨b,off,rv,rfl,hb,hc,⟨a',cap',rfl,g1,g2,_⟩⟩:=h3 k hlt
   have HC:=hide (moreM_cons rm P k hlt)
   generalize P.getD k []=r at *
   clear h3
   unfold maxLen at g2
   by_cases ht:rm<(r.length:Int)
   ·have HE:Hid (moreM 2000 P=true):=HB.out.trans (HC.out.trans (if_pos ht))
    clear HB HC
    go_wp2
    go_ret
    exact ⟨ret_bool HE.out.symm,rfl⟩
   ·have HE:Hid (moreM 2000 P=moreM (rm-r.length) (P.drop (k+1))):=HB.out.trans (HC.out.trans (if_neg ht))
    clear HB HC
    go_wp2
    go_round
    case rel=>exact ⟨k+1,rm-r.length,by go_num,rfl,by omega,by omega,by omega,HE⟩
    case measure=>simp [intOf];omega
  ·have HE:Hid (moreM 2000 P=false):=by rw [HB.out,List.drop_of_length_le (by omega)];rfl
   clear h3 HB
   go_wp2
   go_ret
   exact ⟨ret_bool HE.out.symm,rfl⟩
def whereM (q:Pt):Int->List (Pt×Pt)->Int
 | n,[]=>n
 | n,e::l=>if hasM e.1 e.2 q=true then 2 else whereM q (if overM e.1 e.2 q=true then otherM n else n) l
theorem whereM_cons (q:Pt)(n:Int)(l:List (Pt×Pt))(k:Nat)(hk:k<l.length) :
  whereM q n (l.drop k)=if hasM (l.getD k (zP,zP)).1 (l.getD k (zP,zP)).2 q=true then 2 else whereM q (if overM (l.getD k (zP,zP)).1 (l.getD k (zP,zP)).2 q=true then otherM n else n) (l.drop (k+1)):=by
 rw [List.drop_eq_getElem_cons hk]
 simp only [whereM]
 rw [List.getD_eq_getElem?_getD,List.getElem?_eq_getElem hk];rfl
theorem all_drop {α:Type}(f:α->Bool)(l:List α)(k:Nat)(hk:k<l.length)(d:α):(l.drop k).all f=(f (l.getD k d) && (l.drop (k+1)).all f):=by
 rw [List.drop_eq_getElem_cons hk,List.all_cons,List.getD_eq_getElem?_getD,List.getElem?_eq_getElem hk];rfl
set_option maxRecDepth 100000 in
set_option maxHeartbeats 1000000 in
theorem areGood_any (v:Value)(E:List (Pt×Pt))(w:World)(hE:SegsAt w v E) :
  Calls Tryz.prog 80 #[v] w fun e w'=>e = .returned (.bool (E.all (fun e=>goodB e.1)))/\Below w.heap.size w w':=by
 obtain ⟨a,cap,rfl,h1,h2,h3⟩:=hE
 unfold maxLen at h2
 go_enter Tryz.func80,Tryz.ntmps80
 go_wp2_with fail
 go_loopw [4,7] (fun _ i w'=>∃ k:Nat,i = .int .i64 k/\k<=E.length/\Below w.heap.size w w'/\Hid (E.all (fun e=>goodB e.1)=(E.drop k).all (fun e=>goodB e.1))) (fun _ i _=>E.length-(intOf i).toNat)
 case atStart=>exact ⟨0,rfl,Nat.zero_le _,Below.refl _ _,rfl⟩
 case round=>
  obtain ⟨k,rfl,hk,hbel,HB⟩:=hrel
  by_cases hlt:k<E.length
  ·obtain ⟨b,off,rfl,hb,hs⟩:=h3 k hlt
   have hs':=hs.later hbel hb
   have HC:=hide (all_drop (fun e:Pt×Pt=>goodB e.1) E k hlt (zP,zP))
   generalize E.getD k (zP,zP)=e at *
   obtain ⟨c0,c1,c2,c3,c4,c5⟩:=hs'
   clear h3 hs
   go_wp2_with fail
   refine (IsGood_any e.1 _).mono ?_
   rintro e' w1 ⟨rfl,k1⟩
   have B1:=bvia (hbel.alloc hbel.size _) k1
   clear k1 c0 c1 c2 c3 c4 c5
   cases ht:goodB e.1
   ·have HE:Hid (E.all (fun e=>goodB e.1)=false):=HB.out.trans (HC.out.trans (by simp [ht]))
    clear HB HC
    go_wp2
    go_ret
    exact ⟨ret_bool HE.out.symm,B1⟩
   ·have HE:Hid (E.all (fun e=>goodB e.1)=(E.drop (k+1)).all (fun e=>goodB e.1)):=HB.out.trans (HC.out.trans (by simp [ht]))
    clear HB HC
    go_wp2
    go_roundw
    case rel=>exact ⟨k+1,by go_num,by omega,B1,HE⟩
    case measure=>simp [intOf];omega
  ·have HE:Hid (E.all (fun e=>goodB e.1)=true):=by rw [HB.out,List.drop_of_length_le (by omega)];rfl
   clear h3 HB
   go_wp2
   go_ret
   exact ⟨ret_bool HE.out.symm,hbel⟩
def GdE (E:List (Pt×Pt)):Prop:=∀ j,j<E.length->Gd (E.getD j (zP,zP)).1/\Gd (E.getD j (zP,zP)).2
set_option maxRecDepth 100000 in
set_option maxHeartbeats 1000000 in
theorem find_any (q:Pt)(v:Value)(E:List (Pt×Pt))(w:World)(hE:SegsAt w v E)(hG:GdE E)(hq:Gd q) :
  Calls Tryz.prog 81 #[v,q.v] w fun e w'=>e = .returned (.int .i64 (whereM q 0 E))/\Below w.heap.size w w':=by
 obtain ⟨a,cap,rfl,h1,h2,h3⟩:=hE
 unfold maxLen at h2
 go_enter Tryz.func81,Tryz.ntmps81
 go_wp2_with fail
 go_loopw [5,7,10] (fun wh _ i w'=>∃ (k:Nat) (n:Int),i = .int .i64 k/\wh = .int .i64 n/\k<=E.length/\Blk w' w.heap.size #[.int .i64 q.x,.int .i64 q.y,.int .i64 q.d]/\Below w.heap.size w w'/\Hid (whereM q 0 E=whereM q n (E.drop k))) (fun _ _ i _=>E.length-(intOf i).toNat)
 case atStart=>exact ⟨0,0,rfl,rfl,Nat.zero_le _,Blk.new w _ _,(Below.refl _ _).alloc (Nat.le_refl _) _,rfl⟩
 case round=>
  obtain ⟨k,n,rfl,rfl,hk,⟨cq,fq,zq⟩,hbel,HB⟩:=hrel
  by_cases hlt:k<E.length
  ·obtain ⟨b,off,rfl,hb,hs⟩:=h3 k hlt
   have hs':=hs.later hbel hb
   have HC:=hide (whereM_cons q n E k hlt)
   have hgr:=hG k hlt
   generalize E.getD k (zP,zP)=e at *
   obtain ⟨he1,he2⟩:=hgr
   obtain ⟨c0,c1,c2,c3,c4,c5⟩:=hs'
   clear h3 hs hG
   go_wp2_with fail
   refine (Has_any e.1 e.2 q _ he1 he2 hq).mono ?_
   rintro e' w1 ⟨rfl,k1⟩
   have B1:=bvia (hbel.alloc hbel.size _) k1
   obtain ⟨cq1,fq1,zq1⟩:=((Blk.mk cq fq zq).alloc _).call k1
   obtain ⟨ce1,fe1,ze1⟩:=(Blk.new wr _ _).call k1
   clear k1 c0 c1 c2 c3 c4 c5 cq fq
   cases ht:hasM e.1 e.2 q
   ·have HD:Hid (whereM q 0 E=whereM q (if overM e.1 e.2 q=true then otherM n else n) (E.drop (k+1))):=HB.out.trans (HC.out.trans (by simp [ht]))
    clear HB HC
    go_wp2_with fail
    refine (isOver_any e.1 e.2 q _ he1 he2 hq).mono ?_
    rintro e' w2 ⟨rfl,k2⟩
    have B2:=bvia B1 k2
    have Q2:=(Blk.mk cq1 fq1 zq1).call k2
    clear k2 cq1 fq1 ce1 fe1 B1
    cases ho:overM e.1 e.2 q
    ·have HE:Hid (whereM q 0 E=whereM q n (E.drop (k+1))):=HD.out.trans (by simp [ho])
     clear HD
     go_wp2
     go_roundw
     case rel=>exact ⟨k+1,n,by go_num,rfl,by omega,Q2,B2,HE⟩
     case measure=>simp [intOf];omega
    ·have HE:Hid (whereM q 0 E=whereM q (otherM n) (E.drop (k+1))):=HD.out.trans (by simp [ho])
     clear HD
     go_wp2_with (go_at_call 107;refine (other_any n _).mono ?_;rintro e' w3 ⟨rfl,rfl⟩)
     go_roundw
     case rel=>exact ⟨k+1,otherM n,by go_num,rfl,by omega,Q2,B2,HE⟩
     case measure=>simp [intOf];omega
   ·have HE:Hid (whereM q 0 E=2):=HB.out.trans (HC.out.trans (by simp [ht]))
    clear HB HC
    go_wp2
    go_ret
    exact ⟨ret_int HE.out.symm,B1⟩
  ·have HE:Hid (whereM q 0 E=n):=by rw [HB.out,List.drop_of_length_le (by omega)];rfl
   clear h3 HB hG
   go_wp2
   go_ret
   exact ⟨ret_int HE.out.symm,hbel⟩
end Go.Proofs.YtnkcbephceollabGreat
