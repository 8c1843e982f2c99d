import Derived.Test.YtnkcbephceollabGreatQ26
namespace Go.Proofs.YtnkcbephceollabGreat
open Go.RowKit
set_option linter.unusedSimpArgs false
set_option linter.unusedVariables false
theorem detOk_w {a b c:Pt}(ha:Gw a)(hb:Gw b)(hc:Gw c):DetOk a b c:=fun w=>rdet_w a b c w ha hb hc
set_option maxRecDepth 100000 in
set_option maxHeartbeats 4000000 in
theorem rlocate_any (v:Value)(P:List (List Pt))(q:Pt)(w:World)(hP:PolyAt w v P)(hT:P.flatten.length<=100000)(hq:goodB q=true)(hG:∀ p∈P.flatten,goodB p=true) :
  Calls Tryz.prog 47 #[v,q.v] w fun e w'=>e = .returned (.int .i64 (rlocM P q))/\Below w.heap.size w w':=by
 have hT':(edgesM P).length<=100000:=by rw [edgesM_len];exact hT
 have gq:=(gd_of_good hq).1
 have gqw:=gq.gw
 have grw:=gw_right hq
 have h4:∀ k,k<=P.flatten.length+1->∀ p∈P.flatten,DetOk (outP k) q p:=fun k hk p hp=>detOk_w (outP_gw k (by omega)) gqw (gd_of_good (hG p hp)).1.gw
 have h5:∀ k,k<=P.flatten.length+1->DetOk q (rightP q) (outP k):=fun k hk=>detOk_w gqw grw (outP_gw k (by omega))
 have HX:Hid (∀ e∈edgesM P,DetOk (farM q P.flatten q (rightP q)) q e.1/\DetOk (farM q P.flatten q (rightP q)) q e.2/\DetOk e.1 e.2 (farM q P.flatten q (rightP q))/\DetOk e.1 e.2 q):=by
  refine hide (fun e he=>?_)
  obtain ⟨j,hj,ej⟩:=farL_out (freeB q P.flatten q (rightP q)) (P.flatten.length+2) 0
  have hf:Gw (farM q P.flatten q (rightP q)):=by unfold farM;rw [ej];exact outP_gw j (by omega)
  obtain ⟨m1,m2⟩:=edges_mem he
  have g1:=(gd_of_good (hG _ m1)).1.gw
  have g2:=(gd_of_good (hG _ m2)).1.gw
  exact ⟨detOk_w hf gqw g1,detOk_w hf gqw g2,detOk_w g1 g2 hf,detOk_w g1 g2 gqw⟩
 have HFar:=hide (fun (pv:Value) (wz:World) (hr:RingAt wz pv P.flatten)=>rfar_any q pv P.flatten q (rightP q) wz hr (by omega) h4 h5)
 have hGe:∀ e∈edgesM P,Gd e.1/\Gd e.2:=fun e he=>⟨(gd_of_good (hG _ (edges_mem he).1)).1,(gd_of_good (hG _ (edges_mem he).2)).1⟩
 have HGe:=hide hGe
 have HR:=hide (show rlocM P q=if (edgesM P).any (fun e=>onB q e.1 e.2)=true then 2 else if nCross (farM q P.flatten q (rightP q)) q (edgesM P) % 2=1 then 1 else 0 from rfl)
 obtain ⟨lx,ux⟩:=gq.x
 obtain ⟨ld,ud⟩:=gq.d
 clear h4 h5 hGe hG grw gqw
 generalize rlocM P q=res at *
 go_enter Tryz.func47,Tryz.ntmps47
 go_wp2_with fail
 refine (rEdges_any v P _ (hP.later ((Below.refl _ _).alloc (Nat.le_refl _) _)) hT').mono ?_
 rintro e w1 ⟨ev,rfl,hE,k1⟩
 have B1:=bvia ((Below.refl _ _).alloc (Nat.le_refl _) _) k1
 have Q1:=(Blk.new w #[.int .i64 q.x,.int .i64 q.y,.int .i64 q.d] 31).call k1
 clear k1
 obtain ⟨ea,ecap,rfl,e1,e2,e3⟩:=id hE
 unfold maxLen at e2
 generalize hEe:edgesM P=E at *
 go_upto_block 0 with fail
 go_cut [6,7] (fun _ _ w'=>E.any (fun e=>onB q e.1 e.2)=false/\Blk w' w.heap.size #[.int .i64 q.x,.int .i64 q.y,.int .i64 q.d]/\Below w.heap.size w w'/\Below w1.heap.size w1 w')
 case first=>
  go_wp2_with fail
  go_loopw [6,7] (fun iv _ w'=>∃ i:Nat,iv = .int .i64 i/\i<=E.length/\Blk w' w.heap.size #[.int .i64 q.x,.int .i64 q.y,.int .i64 q.d]/\Below w.heap.size w w'/\Below w1.heap.size w1 w'/\Hid (E.any (fun e=>onB q e.1 e.2)=(E.drop i).any (fun e=>onB q e.1 e.2))) (fun iv _ _=>E.length-(intOf iv).toNat)
  case atStart=>exact ⟨0,rfl,Nat.zero_le _,Q1,B1,Below.refl _ _,rfl⟩
  case round=>
   obtain ⟨i,rfl,hi,⟨cq,fq,zq⟩,hbel,hb1,HB⟩:=hrel
   by_cases hlt:i<E.length
   ·obtain ⟨b,off,rfl,hb,hs⟩:=e3 i hlt
    obtain ⟨c0,c1,c2,c3,c4,c5⟩:=hs.later hb1 hb
    have HC:=hide (any_drop (fun e:Pt×Pt=>onB q e.1 e.2) E i hlt (zP,zP))
    obtain ⟨ge1,ge2⟩:=HGe.out _ (getD_mem hlt (zP,zP))
    generalize E.getD i (zP,zP)=e at *
    have hi0:(0:Int)<=(i:Int):=Int.natCast_nonneg _
    have hi1:(i:Int)<(E.length:Int):=by omega
    have C:=fun wz=>ron_any q e.1 e.2 wz gq ge1 ge2
    clear e3 hs
    go_upto_region 5 with fail
    go_cut [7] (fun bv w'=>bv = .bool (onB q e.1 e.2)/\Blk w' w.heap.size #[.int .i64 q.x,.int .i64 q.y,.int .i64 q.d]/\Below w.heap.size w w'/\Below w1.heap.size w1 w')
    case first=>
     go_region_with (go_at_call 82;refine (C _).mono ?_;rintro e' w2 ⟨rfl,k2⟩)
     all_goals
      go_wp2_with fail
      go_meet
      case rel=>exact ⟨rfl,(Blk.mk cq fq zq).drew.call k2,bvia hbel.drew k2,bvia hb1.drew k2⟩
    case rest=>
     clear cq fq zq hbel hb1 c0 c1 c2 c3 c4 c5 C
     obtain ⟨rfl,L1,L2,L3⟩:=hcut
     cases ho:onB q e.1 e.2
     ·have HE:Hid (E.any (fun e=>onB q e.1 e.2)=(E.drop (i+1)).any (fun e=>onB q e.1 e.2)):=HB.out.trans (HC.out.trans (by simp [ho]))
      clear HB HC
      go_wp2
      go_roundw
      case rel=>exact ⟨i+1,by go_num,by omega,L1,L2,L3,HE⟩
      case measure=>simp [intOf];omega
     ·have HE:Hid (res=2):=HR.out.trans (if_pos (HB.out.trans (HC.out.trans (by simp [ho]))))
      clear HB HC
      go_wp2
      go_ret
      exact ⟨ret_int HE.out.symm,L2⟩
   ·have HE:Hid (E.any (fun e=>onB q e.1 e.2)=false):=by rw [HB.out,List.drop_of_length_le (by omega)];exact hide rfl
    have hi1 : ¬ (i:Int)<(E.length:Int):=by omega
    go_wp2
    go_meet
    case rel=>exact ⟨HE.out,Blk.mk cq fq zq,hbel,hb1⟩
 case rest=>
  obtain ⟨hno,Q2,B2,k2⟩:=hcut
  have HE:Hid (res=if nCross (farM q P.flatten q (rightP q)) q E % 2=1 then 1 else 0):=HR.out.trans (if_neg (by rw [hno];decide))
  have hE2:=hE.later k2
  have hP2:=hP.later B2
  clear HR hno Q1 B1 hE k2 hP
  generalize farM q P.flatten q (rightP q)=fm at *
  obtain ⟨cq,fq,zq⟩:=Q2
  go_upto_region 9 with fail
  have SX:=Blk.new wc #[.int .i64 q.x,.int .i64 q.y,.int .i64 q.d,.int .i64 (q.x+q.d),.int .i64 q.y,.int .i64 q.d] 73
  have QX:=(Blk.mk cq fq zq).alloc (.cells #[.int .i64 q.x,.int .i64 q.y,.int .i64 q.d,.int .i64 (q.x+q.d),.int .i64 q.y,.int .i64 q.d] 73)
  have BX:=B2.alloc B2.size (.cells #[.int .i64 q.x,.int .i64 q.y,.int .i64 q.d,.int .i64 (q.x+q.d),.int .i64 q.y,.int .i64 q.d] 73)
  have kX:Below wc.heap.size wc (wc.alloc (.cells #[.int .i64 q.x,.int .i64 q.y,.int .i64 q.d,.int .i64 (q.x+q.d),.int .i64 q.y,.int .i64 q.d] 73)):=(Below.refl _ _).alloc (Nat.le_refl _) _
  have EX:=hE2.later kX
  have PX:=hP2.later kX
  have hsz:=B2.size
  generalize wc.alloc (.cells #[.int .i64 q.x,.int .i64 q.y,.int .i64 q.d,.int .i64 (q.x+q.d),.int .i64 q.y,.int .i64 q.d] 73)=wX at *
  generalize wc.heap.size=sb at *
  clear kX hE2 hP2 cq fq zq B2
  obtain ⟨cs,fs,zs⟩:=SX
  obtain ⟨cq,fq,zq⟩:=QX
  have hqs:w.heap.size<wX.heap.size:=zq
  go_cut [9] (fun po w'=>∃ ob,po = .pointer (some ⟨ob,0,none⟩)/\Blk w' ob #[.int .i64 fm.x,.int .i64 fm.y,.int .i64 fm.d]/\Blk w' w.heap.size #[.int .i64 q.x,.int .i64 q.y,.int .i64 q.d]/\Below w.heap.size w w'/\Below wX.heap.size wX w')
  case first=>
   go_region_with (first
    |(go_at_call 41;refine (points_any v P _ (by first | exact PX.later (Below.refl _ _).drew | exact PX.later (((Below.refl _ _).alloc (Nat.le_refl _) _).drew)) hT).mono ?_;rintro e' w3 ⟨pv,rfl,hr3,k3⟩;have BQ:Blk w3 w.heap.size #[.int .i64 q.x,.int .i64 q.y,.int .i64 q.d]:=(by first | exact (Blk.mk cq fq zq).drew.call k3 | exact ((Blk.mk cq fq zq).alloc _).drew.call k3);have BS:Blk w3 sb #[.int .i64 q.x,.int .i64 q.y,.int .i64 q.d,.int .i64 (q.x+q.d),.int .i64 q.y,.int .i64 q.d]:=(by first | exact (Blk.mk cs fs zs).drew.call k3 | exact ((Blk.mk cs fs zs).alloc _).drew.call k3);have BB:Below w.heap.size w w3:=(by first | exact bvia BX.drew k3 | exact bvia (BX.alloc BX.size _).drew k3);have BK:Below wX.heap.size wX w3:=(by first | exact bvia (Below.refl _ _).drew k3 | exact bvia ((Below.refl _ _).alloc (Nat.le_refl _) _).drew k3);obtain ⟨cq3,fq3,zq3⟩:=id BQ;obtain ⟨cs3,fs3,zs3⟩:=BS;try (have BO:Blk w3 wX.heap.size #[.int .i64 0,.int .i64 0,.int .i64 0]:=(by exact (Blk.new wX _ _).drew.call k3);obtain ⟨co3,fo3,zo3⟩:=BO))
    |(go_at_call 83;refine (HFar.out pv _ (by first | exact hr3 | exact hr3.later ((Below.refl _ _).alloc (Nat.le_refl _) _))).mono ?_;rintro e' w4 ⟨rfl,k4⟩;first | (have BO:Blk w4 wX.heap.size #[.int .i64 0,.int .i64 0,.int .i64 0]:=(by exact (Blk.mk co3 fo3 zo3).call k4);obtain ⟨co4,fo4,zo4⟩:=BO) | (have BO:Blk w4 w3.heap.size #[.int .i64 0,.int .i64 0,.int .i64 0]:=(by exact (Blk.new w3 _ _).call k4);obtain ⟨co4,fo4,zo4⟩:=BO) | skip))
   all_goals
    go_wp2_with fail
    go_meet
    first
     |(have k4':Below w3.heap.size w3 w4:=k4;exact ⟨w4.heap.size,rfl,Blk.new w4 _ _,(BQ.call k4').alloc _,(bvia BB k4').alloc (bvia BB k4').size _,(bvia BK k4').alloc (bvia BK k4').size _⟩)
     |(have k4':Below w3.heap.size w3 w4:=k4;exact ⟨wX.heap.size,rfl,(Blk.mk co4 fo4 zo4).put3,(BQ.call k4').off3 (by omega) _ _ _,below_set3 (o:=0) (bvia BB k4') (by omega),below_set3 (o:=0) (bvia BK k4') (by omega)⟩)
     |(have hz3:=BK.size;exact ⟨w3.heap.size,rfl,(Blk.mk co4 fo4 zo4).put3,((BQ.alloc _).call k4).off3 (by omega) _ _ _,below_set3 (o:=0) (bvia (BB.alloc BB.size _) k4) (by omega),below_set3 (o:=0) (bvia (BK.alloc BK.size _) k4) (by omega)⟩)
  case rest=>
   obtain ⟨ob,rfl,⟨co,fo,zo⟩,⟨cq4,fq4,zq4⟩,B4,k4⟩:=hcut
   have hE4:=EX.later k4
   have hnl:=nCross_le fm q E
   have hnl2:(nCross fm q E:Int)<=100000:=by omega
   have hn0:(0:Int)<=(nCross fm q E:Int):=Int.natCast_nonneg _
   have C:=rcrossed_any fm q _ E wc hE4 HX.out
   have hmod:((nCross fm q E:Int).tmod 2 == 1)=decide (nCross fm q E % 2=1):=by
    rw [Int.tmod_eq_emod_of_nonneg hn0,Bool.eq_iff_iff];simp;omega
   generalize nCross fm q E=nc at *
   go_wp2_with fail
   refine C.mono ?_
   rintro e' w5 ⟨rfl,k5⟩
   have B5:=bvia B4 k5
   clear k5 C co fo zo cq4 fq4 zq4 B4 k4
   by_cases hm:nc % 2=1
   ·have hmod:((nc:Int).tmod 2 == 1)=true:=hmod.trans (decide_eq_true hm)
    have HF:Hid (res=1):=HE.out.trans (if_pos hm)
    clear HE
    go_wp2
    go_ret
    exact ⟨ret_int HF.out.symm,B5⟩
   ·have hmod:((nc:Int).tmod 2 == 1)=false:=hmod.trans (decide_eq_false hm)
    have HF:Hid (res=0):=HE.out.trans (if_neg hm)
    clear HE
    go_wp2
    go_ret
    exact ⟨ret_int HF.out.symm,B5⟩
end Go.Proofs.YtnkcbephceollabGreat
namespace Go.Proofs.YtnkcbephceollabGreat
set_option linter.unusedVariables false
set_option linter.unusedSimpArgs false
theorem rlocM_eq (P:List (List Pt))(q:Pt)(hq:goodB q=true)(hG:∀ p∈P.flatten,goodB p=true):rlocM P q=whereM q 0 (edgesM P):=by
 have hd:∀ v,goodB v=true->0<v.d:=fun v h=>by have:=of_decide_eq_true h;omega
 have eany:(edgesM P).any (fun e=>hasM e.1 e.2 q)=(edgesM P).any (fun e=>onB q e.1 e.2):=by
  refine Bool.eq_iff_iff.2 ?_
  simp only [List.any_eq_true]
  constructor
  ·rintro ⟨e,he,h⟩
   obtain ⟨m1,m2⟩:=edge_ends he
   exact ⟨e,he,by rw [<-has_on (hd _ (hG _ m1)) (hd _ (hG _ m2)) (hd _ hq)];exact h⟩
  ·rintro ⟨e,he,h⟩
   obtain ⟨m1,m2⟩:=edge_ends he
   exact ⟨e,he,by rw [has_on (hd _ (hG _ m1)) (hd _ (hG _ m2)) (hd _ hq)];exact h⟩
 unfold rlocM
 cases h:(edgesM P).any (fun e=>onB q e.1 e.2)
 case true=>rw [if_pos rfl,whereM_two q _ _ (eany.trans h)]
 case false=>
  rw [if_neg (by decide),whereM_eq q _ 0 (.inl rfl) (eany.trans h)]
  have hon:∀ e∈edgesM P,onB q e.1 e.2=false:=fun e he=>by
   cases k:onB q e.1 e.2
   ·rfl
   ·have:(edgesM P).any (fun e=>onB q e.1 e.2)=true:=List.any_eq_true.2 ⟨e,he,k⟩
    rw [h] at this;cases this
  have hne:∀ v∈P.flatten,¬ (xv q v=0/\yv q v=0):=fun v hv ⟨h1,h2⟩=>by
   obtain ⟨e,he,rfl⟩:=first_edge hv
   have:=on_first (hd _ (hG _ hv)) (hd _ (hG _ (edge_ends he).2)) (hd _ hq) h1 h2 (b:=e.2)
   rw [hon e he] at this;cases this
  have hxr:xv q (rightP q)≠0:=by
   have h0:=hd _ hq
   have e:xv q (rightP q)=q.d*q.d:=by unfold xv rightP;grind
   rw [e]
   have:=mul_pp h0 h0
   omega
  obtain ⟨k,hk,hA,_⟩:=far_free (p:=q) (r:=rightP q) hq (fun v hv=>hd _ (hG v hv)) hne hxr
  rw [hk]
  have par:=parity_up (o:=outP k) (q:=q) (P:=P) (by simp [outP]) (hd _ hq) (fun v hv=>hd _ (hG v hv)) (fun v hv=>(out_xv k (hG v hv)).1) hA hon
  have e2:parB (fun a b=>overM a b q) (edgesM P)=parB (overB q) (edgesM P):=parB_congr fun e he=>by
   obtain ⟨m1,m2⟩:=edge_ends he
   exact over_eq (hd _ (hG _ m1)) (hd _ (hG _ m2)) (hd _ hq)
  rw [e2,<-par,parB_count]
  unfold nCross
  by_cases c:(edgesM P).countP (fun e=>crossB (outP k) q e.1 e.2) % 2=1
  ·rw [if_pos c];simp [c]
  ·rw [if_neg c];simp [c]
end Go.Proofs.YtnkcbephceollabGreat
namespace Go.Proofs.YtnkcbephceollabGreat
open Go.RowKit
set_option linter.unusedSimpArgs false
set_option linter.unusedVariables false
structure Gm (p:Pt):Prop where
 x:In p.x 137438953472
 y:In p.y 137438953472
 d:In p.d 2147483648
theorem mid_gm {p q:Pt}(hp:Gd p)(hq:Gd q):Gm (midP p q):=by
 refine ⟨?_,?_,?_⟩
 ·exact ((hp.x.mul hq.d).add (hq.x.mul hp.d)).mono (by decide)
 ·exact ((hp.y.mul hq.d).add (hq.y.mul hp.d)).mono (by decide)
 ·show In (2*p.d*q.d) 2147483648
  exact (((In.mk (a:=2) (A:=2) (by decide) (by decide)).mul hp.d).mul hq.d).mono (by decide)
set_option maxHeartbeats 1000000 in
theorem middle_any (p q:Pt)(w:World)(hp:Gd p)(hq:Gd q) :
  Calls Tryz.prog 114 #[p.v,q.v] w fun e w'=>e = .returned (midP p q).v/\Below w.heap.size w w':=by
 obtain ⟨l1,u1⟩:=hp.x.mul hq.d
 obtain ⟨l2,u2⟩:=hq.x.mul hp.d
 obtain ⟨l3,u3⟩:=hp.y.mul hq.d
 obtain ⟨l4,u4⟩:=hq.y.mul hp.d
 obtain ⟨l5,u5⟩:=(In.mk (a:=2) (A:=2) (by decide) (by decide)).mul hp.d
 obtain ⟨l6,u6⟩:=((In.mk (a:=2) (A:=2) (by decide) (by decide)).mul hp.d).mul hq.d
 clear hp hq
 go_enter Tryz.func114,Tryz.ntmps114
 go_wp2
 exact bodyPost_ret (v:=(midP p q).v) (by simp [results,Tryz.results114,go_sem,midP]) rfl ⟨rfl,below3 _ _ _ _⟩
set_option maxHeartbeats 400000 in
theorem rbefore_b (p q:Pt)(w:World)(h1:In (p.x*q.d) 4611686018427387904)(h2:In (q.x*p.d) 4611686018427387904)(h3:In (p.y*q.d) 4611686018427387904)(h4:In (q.y*p.d) 4611686018427387904) :
  Calls Tryz.prog 72 #[p.v,q.v] w fun e w'=>e = .returned (.bool (befB p q))/\Below w.heap.size w w':=by
 obtain ⟨l1,u1⟩:=h1
 obtain ⟨l2,u2⟩:=h2
 obtain ⟨l3,u3⟩:=h3
 obtain ⟨l4,u4⟩:=h4
 by_cases h:(p.x*q.d != q.x*p.d)=true
 ·go_enter Tryz.func72,Tryz.ntmps72
  go_wp2
  go_ret
  exact ⟨ret_bool (by unfold befB;rw [if_pos (by simpa using h)]),((Below.refl _ _).alloc (Nat.le_refl _) _).alloc (by simp) _⟩
 ·have h':(p.x*q.d != q.x*p.d)=false:=by simpa using h
  clear h
  go_enter Tryz.func72,Tryz.ntmps72
  go_wp2
  go_ret
  exact ⟨ret_bool (by unfold befB;rw [if_neg (by simpa using h')]),((Below.refl _ _).alloc (Nat.le_refl _) _).alloc (by simp) _⟩
theorem before_mg {m v:Pt}(w:World)(hm:Gm m)(hv:Gr v) :
  Calls Tryz.prog 72 #[m.v,v.v] w fun e w'=>e = .returned (.bool (befB m v))/\Below w.heap.size w w':=by
 have vd:In v.d 1:=by rw [hv.d];exact ⟨by decide,by decide⟩
 exact rbefore_b m v w ((hm.x.mul vd).mono (by decide)) ((hv.x.mul hm.d).mono (by decide)) ((hm.y.mul vd).mono (by decide)) ((hv.y.mul hm.d).mono (by decide))
theorem before_gm {m v:Pt}(w:World)(hm:Gm m)(hv:Gr v) :
  Calls Tryz.prog 72 #[v.v,m.v] w fun e w'=>e = .returned (.bool (befB v m))/\Below w.heap.size w w':=by
 have vd:In v.d 1:=by rw [hv.d];exact ⟨by decide,by decide⟩
 exact rbefore_b v m w ((hv.x.mul hm.d).mono (by decide)) ((hm.x.mul vd).mono (by decide)) ((hv.y.mul hm.d).mono (by decide)) ((hm.y.mul vd).mono (by decide))
theorem loM_gr {a b:Pt}(ha:Gr a)(hb:Gr b):Gr (loM a b):=by unfold loM;split <;> assumption
theorem hiM_gr {a b:Pt}(ha:Gr a)(hb:Gr b):Gr (hiM a b):=by unfold hiM;split <;> assumption
structure Gs (p:Pt):Prop where
 x:In p.x 200
 y:In p.y 200
 d:In p.d 1
theorem Gr.gs {p:Pt}(h:Gr p):Gs p:=⟨h.x.mono (by decide),h.y.mono (by decide),by rw [h.d];exact ⟨by decide,by decide⟩⟩
theorem out_gs (k:Nat)(h:k<=200):Gs (outP k):=⟨⟨by simp [outP],by simp [outP]⟩,⟨by simp [outP] <;> omega,by simp [outP] <;> omega⟩,⟨by simp [outP],by simp [outP]⟩⟩
theorem det_b {a b c:Pt}{ax ay ad bx by' bd cx cy cd:Int}(a1:In a.x ax)(a2:In a.y ay)(a3:In a.d ad)(b1:In b.x bx)(b2:In b.y by')(b3:In b.d bd)(c1:In c.x cx)(c2:In c.y cy)(c3:In c.d cd)
  (h:ax*(by'*cd+cy*bd)+ay*(bx*cd+cx*bd)+ad*(bx*cy+cx*by')<=4611686018427387904) (g1:by'*cd+cy*bd<=4611686018427387904) (g2:bx*cd+cx*bd<=4611686018427387904) (g3:bx*cy+cx*by'<=4611686018427387904):DetOk a b c:=by
 have i1:=b2.mul c3
 have i2:=c2.mul b3
 have i3:=b1.mul c3
 have i4:=c1.mul b3
 have i5:=b1.mul c2
 have i6:=c1.mul b2
 have j1:=i1.sub i2
 have j2:=i3.sub i4
 have j3:=i5.sub i6
 have k1:=a1.mul j1
 have k2:=a2.mul j2
 have k3:=a3.mul j3
 have n1:=i1.nonneg;have n2:=i2.nonneg;have n3:=i3.nonneg;have n4:=i4.nonneg;have n5:=i5.nonneg;have n6:=i6.nonneg
 have m1:=k1.nonneg;have m2:=k2.nonneg;have m3:=k3.nonneg
 intro w
 refine rdet_of a b c w (hide ?_)
 unfold detM
 rw [wrap_in i1 (by omega),wrap_in i2 (by omega),wrap_in i3 (by omega),wrap_in i4 (by omega),wrap_in i5 (by omega),wrap_in i6 (by omega),wrap_in j1 (by omega),wrap_in j2 (by omega),wrap_in j3 (by omega),wrap_in k1 (by omega),wrap_in k2 (by omega),wrap_in k3 (by omega),wrap_in (k1.sub k2) (by omega),wrap_in ((k1.sub k2).add k3) (by omega)]
theorem det_sms {a m c:Pt}(ha:Gs a)(hm:Gm m)(hc:Gs c):DetOk a m c:=det_b ha.x ha.y ha.d hm.x hm.y hm.d hc.x hc.y hc.d (by decide) (by decide) (by decide) (by decide)
theorem det_ssm {a b m:Pt}(ha:Gs a)(hb:Gs b)(hm:Gm m):DetOk a b m:=det_b ha.x ha.y ha.d hb.x hb.y hb.d hm.x hm.y hm.d (by decide) (by decide) (by decide) (by decide)
theorem det_sss {a b c:Pt}(ha:Gs a)(hb:Gs b)(hc:Gs c):DetOk a b c:=det_b ha.x ha.y ha.d hb.x hb.y hb.d hc.x hc.y hc.d (by decide) (by decide) (by decide) (by decide)
set_option maxHeartbeats 1000000 in
theorem within_m (p a b:Pt)(w:World)(hp:Gm p)(ha:Gr a)(hb:Gr b) :
  Calls Tryz.prog 68 #[p.v,sg a b] w fun e w'=>e = .returned (.bool (withB p a b))/\Below w.heap.size w w':=by
 go_enter Tryz.func68,Tryz.ntmps68
 go_wp2_with fail
 refine (rends_any a b _ ha.gd hb.gd).mono ?_
 rintro e w1 ⟨rfl,k⟩
 have B1:=bvia (((Below.refl _ _).alloc (Nat.le_refl _) _).alloc (by simp) _) k
 obtain ⟨cp1,fp1,zp1⟩:=((Blk.new w _ _).alloc _).call k
 clear k
 go_wp2_with fail
 refine (before_mg (m:=p) (v:=loM a b) _ hp (loM_gr ha hb)).mono ?_
 rintro e w2 ⟨rfl,k⟩
 have B2:=bvia ((B1.alloc B1.size _).alloc (by have:=B1.size;simp;omega) _) k
 obtain ⟨cp2,fp2,zp2⟩:=(((Blk.mk cp1 fp1 zp1).alloc _).alloc _).call k
 obtain ⟨ch2,fh2,zh2⟩:=(Blk.at (w1.heap.size+1) (by simp)).call k
 clear k cp1 fp1 B1
 go_wp2_with fail
 refine (before_gm (m:=p) (v:=hiM a b) _ hp (hiM_gr ha hb)).mono ?_
 rintro e w3 ⟨rfl,k⟩
 have B3:=bvia B2 k
 clear k cp2 fp2 ch2 fh2 B2
 cases h1:befB p (loM a b) <;> cases h2:befB (hiM a b) p
 all_goals (go_wp2;go_ret;exact ⟨ret_bool (by simp [withB,h1,h2]),B3⟩)
set_option maxHeartbeats 1000000 in
theorem on_m (p a b:Pt)(w:World)(hp:Gm p)(ha:Gr a)(hb:Gr b) :
  Calls Tryz.prog 82 #[p.v,sg a b] w fun e w'=>e = .returned (.bool (onB p a b))/\Below w.heap.size w w':=by
 have D:=det_ssm ha.gs hb.gs hp
 go_enter Tryz.func82,Tryz.ntmps82
 go_wp2_with fail
 refine (D _).mono ?_
 rintro e w1 ⟨rfl,k⟩
 have B1:=bvia (((Below.refl _ _).alloc (Nat.le_refl _) _).alloc (by simp) _) k
 obtain ⟨cp1,fp1,zp1⟩:=((Blk.new w _ _).alloc _).call k
 obtain ⟨ce1,fe1,ze1⟩:=(Blk.at (w.heap.size+1) (by simp)).call k
 clear k
 go_wp2_with fail
 refine (within_m p a b _ hp ha hb).mono ?_
 rintro e w2 ⟨rfl,k⟩
 have B2:=bvia B1 k
 clear k cp1 fp1 ce1 fe1 B1 D
 have hd:onB p a b=(decide (detM a b p=0) && withB p a b):=rfl
 have HD:=hide hd
 clear hd
 generalize withB p a b=wi at *
 by_cases h:detM a b p=0
 ·go_wp2
  all_goals
   go_ret
   exact ⟨ret_bool (by rw [HD.out];simp [h]),B2⟩
 ·go_wp2
  all_goals
   go_ret
   exact ⟨ret_bool (by rw [HD.out];simp [h]),B2⟩
set_option maxRecDepth 100000 in
set_option maxHeartbeats 4000000 in
theorem carries_any (v:Value)(E:List (Pt×Pt))(m:Pt)(w:World)(hE:SegsAt w v E)(hm:Gm m)(gE:∀ e∈E,Gr e.1/\Gr e.2) :
  Calls Tryz.prog 115 #[v,m.v] w fun e w'=>e = .returned (.bool (E.any (fun e=>onB m e.1 e.2)))/\Below w.heap.size w w':=by
 obtain ⟨a,cap,rfl,h1,h2,h3⟩:=hE
 unfold maxLen at h2
 have H3:=hide h3
 have GE:=hide gE
 clear h3 gE
 go_enter Tryz.func115,Tryz.ntmps115
 go_wp2_with fail
 go_loopw [5,6] (fun iv _ w'=>∃ i:Nat,iv = .int .i64 i/\i<=E.length/\Blk w' w.heap.size #[.int .i64 m.x,.int .i64 m.y,.int .i64 m.d]/\Below w.heap.size w w'/\Hid (E.any (fun e=>onB m e.1 e.2)=(E.drop i).any (fun e=>onB m e.1 e.2))) (fun iv _ _=>E.length-(intOf iv).toNat)
 case atStart=>exact ⟨0,rfl,Nat.zero_le _,Blk.new w _ _,(Below.refl _ _).alloc (Nat.le_refl _) _,rfl⟩
 case round=>
  obtain ⟨i,rfl,hi,⟨cq,fq,zq⟩,hbel,HB⟩:=hrel
  by_cases hlt:i<E.length
  ·obtain ⟨b,off,rfl,hb,hs⟩:=H3.out i hlt
   obtain ⟨c0,c1,c2,c3,c4,c5⟩:=hs.later hbel hb
   have HC:=hide (any_drop (fun e:Pt×Pt=>onB m e.1 e.2) E i hlt (zP,zP))
   obtain ⟨ge1,ge2⟩:=GE.out _ (getD_mem hlt (zP,zP))
   generalize E.getD i (zP,zP)=e at *
   have hi0:(0:Int)<=(i:Int):=Int.natCast_nonneg _
   have hi1:(i:Int)<(E.length:Int):=by omega
   have C:=fun wz=>on_m m e.1 e.2 wz hm ge1 ge2
   clear hs
   go_upto_region 4 with fail
   go_cut [6] (fun bv w'=>bv = .bool (onB m e.1 e.2)/\Blk w' w.heap.size #[.int .i64 m.x,.int .i64 m.y,.int .i64 m.d]/\Below w.heap.size w w')
   case first=>
    go_region_with (go_at_call 82;refine (C _).mono ?_;rintro e' w2 ⟨rfl,k2⟩)
    all_goals
     go_wp2_with fail
     go_meet
     case rel=>exact ⟨rfl,(Blk.mk cq fq zq).drew.call k2,bvia hbel.drew k2⟩
   case rest=>
    clear cq fq zq hbel c0 c1 c2 c3 c4 c5 C
    obtain ⟨rfl,L1,L2⟩:=hcut
    cases ho:onB m e.1 e.2
    ·have HE:Hid (E.any (fun e=>onB m e.1 e.2)=(E.drop (i+1)).any (fun e=>onB m e.1 e.2)):=HB.out.trans (HC.out.trans (by simp [ho]))
     clear HB HC
     go_wp2
     go_roundw
     case rel=>exact ⟨i+1,by go_num,by omega,L1,L2,HE⟩
     case measure=>simp [intOf];omega
    ·have HE:Hid (E.any (fun e=>onB m e.1 e.2)=true):=HB.out.trans (HC.out.trans (by simp [ho]))
     clear HB HC
     go_wp2
     go_ret
     exact ⟨ret_bool HE.out.symm,L2⟩
  ·have HE:Hid (E.any (fun e=>onB m e.1 e.2)=false):=by rw [HB.out,List.drop_of_length_le (by omega)];exact hide rfl
   have hi1 : ¬ (i:Int)<(E.length:Int):=by omega
   go_wp2
   go_ret
   exact ⟨ret_bool HE.out.symm,hbel⟩
set_option maxRecDepth 100000 in
set_option maxHeartbeats 4000000 in
theorem rsides_any (p q:Pt)(f1 f2 f3 f4:Bool)(pv:Value)(P:List (List Pt))(lv:Value)(all:List Pt)(w:World)(hP:PolyAt w pv P)(hL:RingAt w lv all)
  (gp:goodB p=true) (gq:goodB q=true) (gP:∀ v∈P.flatten,Gr v) (gA:∀ v∈all,Gr v) (nP:(edgesM P).length<=100) (nA:all.length<=100) :
  Calls Tryz.prog 91 #[pcV p q f1 f2 f3 f4,pv,lv] w fun e w'=>e = .returned (.tuple #[.bool (rsidesM p q (edgesM P) all).1,.bool (rsidesM p q (edgesM P) all).2])/\Below w.heap.size w w':=by
 have dp:=gd_good gp
 have dq:=gd_good gq
 have gm:=mid_gm dp dq
 have hfar:∃ k,k<=102/\farM (midP p q) all p q=outP k:=by
  obtain ⟨j,hj,ej⟩:=farL_out (freeB (midP p q) all p q) (all.length+2) 0
  exact ⟨j,by omega,ej⟩
 obtain ⟨kf,hkf,ekf⟩:=hfar
 have CF:=hide (fun (wz:World) (k:RingAt wz lv all)=>rfar_any (midP p q) lv all p q wz k (by omega) (fun k hk v hv=>det_sms (out_gs k (by omega)) gm (gA v hv).gs) (fun k hk=>detOk_w dp.gw dq.gw (outP_gw k (by omega))))
 have gO:Gs (farM (midP p q) all p q):=by rw [ekf];exact out_gs kf (by omega)
 have gOw:Gw (farM (midP p q) all p q):=by rw [ekf];exact outP_gw kf (by omega)
 have gE:∀ e∈edgesM P,Gr e.1/\Gr e.2:=fun e he=>⟨gP _ (edge_ends he).1,gP _ (edge_ends he).2⟩
 have CC:=hide (fun (ev:Value) (wz:World) (k:SegsAt wz ev (edgesM P))=>rcrossed_any (farM (midP p q) all p q) (midP p q) ev (edgesM P) wz k (fun e he=>⟨det_sms gO gm (gE e he).1.gs,det_sms gO gm (gE e he).2.gs,det_sss (gE e he).1.gs (gE e he).2.gs gO,det_ssm (gE e he).1.gs (gE e he).2.gs gm⟩))
 have CR:=hide (fun (ev:Value) (wz:World) (k:SegsAt wz ev (edgesM P))=>carries_any ev (edgesM P) (midP p q) wz k gm gE)
 have CD:=hide (detOk_w dp.gw dq.gw gOw)
 have CE:=hide (fun (wz:World) (k:PolyAt wz pv P)=>rEdges_any pv P wz k (by omega))
 have HR:=hide (show rsidesM p q (edgesM P) all=if 0<detM p q (farM (midP p q) all p q) then (decide (nCross (farM (midP p q) all p q) (midP p q) (edgesM P) % 2=1),if (edgesM P).any (fun e=>onB (midP p q) e.1 e.2)=true then !decide (nCross (farM (midP p q) all p q) (midP p q) (edgesM P) % 2=1) else decide (nCross (farM (midP p q) all p q) (midP p q) (edgesM P) % 2=1)) else (if (edgesM P).any (fun e=>onB (midP p q) e.1 e.2)=true then !decide (nCross (farM (midP p q) all p q) (midP p q) (edgesM P) % 2=1) else decide (nCross (farM (midP p q) all p q) (midP p q) (edgesM P) % 2=1),decide (nCross (farM (midP p q) all p q) (midP p q) (edgesM P) % 2=1)) from rfl)
 have hnl:=nCross_le (farM (midP p q) all p q) (midP p q) (edgesM P)
 have HM:=hide (fun wz=>middle_any p q wz dp dq)
 clear gm ekf gO gOw gE gP gA gp gq
 generalize rsidesM p q (edgesM P) all=res at *
 generalize farM (midP p q) all p q=o at *
 generalize midP p q=m at *
 generalize edgesM P=E at *
 go_enter Tryz.func91,Tryz.ntmps91
 go_wp2_with fail
 refine (HM.out _).mono ?_
 rintro e w1 ⟨rfl,k1⟩
 have B1:=bvia ((Below.refl _ _).alloc (Nat.le_refl _) _) k1
 have X1:=(Blk.new w #[.int .i64 p.x,.int .i64 p.y,.int .i64 p.d,.int .i64 q.x,.int .i64 q.y,.int .i64 q.d,.bool f1,.bool f2,.bool f3,.bool f4] 55).call k1
 obtain ⟨cx,fx,zx⟩:=id X1
 have L1:=hL.later (B1.alloc B1.size (.cells #[.int .i64 m.x,.int .i64 m.y,.int .i64 m.d] 31))
 clear k1
 go_wp2_with fail
 refine (CF.out _ L1).mono ?_
 rintro e w2 ⟨rfl,k2⟩
 have B2:=bvia (B1.alloc B1.size _) k2
 have X2:=(X1.alloc (.cells #[.int .i64 m.x,.int .i64 m.y,.int .i64 m.d] 31)).call k2
 have M2:=(Blk.new w1 #[.int .i64 m.x,.int .i64 m.y,.int .i64 m.d] 31).call k2
 have P3:=hP.later (B2.alloc B2.size (.cells #[.int .i64 o.x,.int .i64 o.y,.int .i64 o.d] 31))
 clear k2 cx fx zx X1 L1 B1
 go_wp2_with fail
 refine (CE.out _ P3).mono ?_
 rintro e w3 ⟨ev,rfl,hE3,k3⟩
 have B3:=bvia (B2.alloc B2.size _) k3
 have X3:=(X2.alloc _).call k3
 have M3:=(M2.alloc _).call k3
 have O3:=(Blk.new w2 #[.int .i64 o.x,.int .i64 o.y,.int .i64 o.d] 31).call k3
 obtain ⟨cm,fm,zm⟩:=id M3
 obtain ⟨co,fo,zo⟩:=id O3
 clear k3 X2 M2 B2 P3
 go_wp2_with fail
 refine (CC.out _ _ hE3).mono ?_
 rintro e w4 ⟨rfl,k4⟩
 have B4:=bvia B3 k4
 have X4:=X3.call k4
 have M4:=M3.call k4
 have O4:=O3.call k4
 have hE4:=hE3.later k4
 obtain ⟨cm4,fm4,zm4⟩:=id M4
 clear k4 X3 M3 O3 hE3 B3 cm fm zm co fo zo
 have hn0:(0:Int)<=(nCross o m E:Int):=Int.natCast_nonneg _
 have hnl2:(nCross o m E:Int)<=100:=by omega
 have hmod:((nCross o m E:Int).tmod 2 == 1)=decide (nCross o m E % 2=1):=by
  rw [Int.tmod_eq_emod_of_nonneg hn0,Bool.eq_iff_iff];simp;omega
 generalize decide (nCross o m E % 2=1)=near at *
 generalize nCross o m E=nc at *
 go_wp2_with fail
 refine (CR.out _ _ hE4).mono ?_
 rintro e w5 ⟨rfl,k5⟩
 have B5:=bvia B4 k5
 have X5:=X4.call k5
 have O5:=O4.call k5
 obtain ⟨cx5,fx5,zx5⟩:=id X5
 obtain ⟨co5,fo5,zo5⟩:=id O5
 clear k5 X4 O4 M4 hE4 B4 cm4 fm4 zm4
 generalize E.any (fun e=>onB m e.1 e.2)=ca at *
 cases ca
 ·go_wp2_with fail
  refine (CD.out _).mono ?_
  rintro e w6 ⟨rfl,k6⟩
  have B6:=bvia B5 k6
  clear k6 cx5 fx5 zx5 co5 fo5 zo5 B5
  by_cases t:0<detM p q o
  ·have HF:Hid (res=(near,near)):=HR.out.trans (by rw [if_pos t];rfl)
   clear HR
   go_wp2
   go_ret2
   exact ⟨by rw [HF.out,<-hmod];rfl,B6⟩
  ·have HF:Hid (res=(near,near)):=HR.out.trans (by rw [if_neg t];rfl)
   clear HR
   go_wp2
   go_ret2
   exact ⟨by rw [HF.out,<-hmod];rfl,B6⟩
 ·go_wp2_with fail
  refine (CD.out _).mono ?_
  rintro e w6 ⟨rfl,k6⟩
  have B6:=bvia B5 k6
  clear k6 cx5 fx5 zx5 co5 fo5 zo5 B5
  by_cases t:0<detM p q o
  ·have HF:Hid (res=(near,!near)):=HR.out.trans (by rw [if_pos t];rfl)
   clear HR
   go_wp2
   go_ret2
   exact ⟨by rw [HF.out,<-hmod];rfl,B6⟩
  ·have HF:Hid (res=(!near,near)):=HR.out.trans (by rw [if_neg t];rfl)
   clear HR
   go_wp2
   go_ret2
   exact ⟨by rw [HF.out,<-hmod];rfl,B6⟩
end Go.Proofs.YtnkcbephceollabGreat
