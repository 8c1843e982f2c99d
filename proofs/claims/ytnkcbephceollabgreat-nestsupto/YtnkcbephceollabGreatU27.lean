import Derived.Test.YtnkcbephceollabGreatU26
namespace Go.Proofs.YtnkcbephceollabGreat
open Go.RowKit
set_option linter.unusedSimpArgs false
set_option linter.unusedVariables false
structure Gm (p:Pt):Prop where
 x:In p.x 137438953472
 y:In p.y 137438953472
 d:In p.d 2147483648
theorem mid_gm {p q:Pt}(hp:Gd p)(hq:Gd q):Gm (midP p q):=by
 refine ⟨?_,?_,?_⟩
 ·exact ((hp.x.mul hq.d).add (hq.x.mul hp.d)).mono (by decide)
 ·exact ((hp.y.mul hq.d).add (hq.y.mul hp.d)).mono (by decide)
 ·show In (2*p.d*q.d) 2147483648
  exact (((In.mk (a:=2) (A:=2) (by decide) (by decide)).mul hp.d).mul hq.d).mono (by decide)
set_option maxHeartbeats 1000000 in
theorem middle_any (p q:Pt)(w:World)(hp:Gd p)(hq:Gd q) :
  Calls Tryz.prog 114 #[p.v,q.v] w fun e w'=>e = .returned (midP p q).v/\Below w.heap.size w w':=by
 obtain ⟨l1,u1⟩:=hp.x.mul hq.d
 obtain ⟨l2,u2⟩:=hq.x.mul hp.d
 obtain ⟨l3,u3⟩:=hp.y.mul hq.d
 obtain ⟨l4,u4⟩:=hq.y.mul hp.d
 obtain ⟨l5,u5⟩:=(In.mk (a:=2) (A:=2) (by decide) (by decide)).mul hp.d
 obtain ⟨l6,u6⟩:=((In.mk (a:=2) (A:=2) (by decide) (by decide)).mul hp.d).mul hq.d
 clear hp hq
 go_enter Tryz.func114,Tryz.ntmps114
 go_wp2
 exact bodyPost_ret (v:=(midP p q).v) (by simp [results,Tryz.results114,go_sem,midP]) rfl ⟨rfl,below3 _ _ _ _⟩
set_option maxHeartbeats 400000 in
theorem rbefore_b (p q:Pt)(w:World)(h1:In (p.x*q.d) 4611686018427387904)(h2:In (q.x*p.d) 4611686018427387904)(h3:In (p.y*q.d) 4611686018427387904)(h4:In (q.y*p.d) 4611686018427387904) :
  Calls Tryz.prog 72 #[p.v,q.v] w fun e w'=>e = .returned (.bool (befB p q))/\Below w.heap.size w w':=by
 obtain ⟨l1,u1⟩:=h1
 obtain ⟨l2,u2⟩:=h2
 obtain ⟨l3,u3⟩:=h3
 obtain ⟨l4,u4⟩:=h4
 by_cases h:(p.x*q.d != q.x*p.d)=true
 ·go_enter Tryz.func72,Tryz.ntmps72
  go_wp2
  go_ret
  exact ⟨ret_bool (by unfold befB;rw [if_pos (by simpa using h)]),((Below.refl _ _).alloc (Nat.le_refl _) _).alloc (by simp) _⟩
 ·have h':(p.x*q.d != q.x*p.d)=false:=by simpa using h
  clear h
  go_enter Tryz.func72,Tryz.ntmps72
  go_wp2
  go_ret
  exact ⟨ret_bool (by unfold befB;rw [if_neg (by simpa using h')]),((Below.refl _ _).alloc (Nat.le_refl _) _).alloc (by simp) _⟩
theorem before_mg {m v:Pt}(w:World)(hm:Gm m)(hv:Gr v) :
  Calls Tryz.prog 72 #[m.v,v.v] w fun e w'=>e = .returned (.bool (befB m v))/\Below w.heap.size w w':=by
 have vd:In v.d 1:=by rw [hv.d];exact ⟨by decide,by decide⟩
 exact rbefore_b m v w ((hm.x.mul vd).mono (by decide)) ((hv.x.mul hm.d).mono (by decide)) ((hm.y.mul vd).mono (by decide)) ((hv.y.mul hm.d).mono (by decide))
theorem before_gm {m v:Pt}(w:World)(hm:Gm m)(hv:Gr v) :
  Calls Tryz.prog 72 #[v.v,m.v] w fun e w'=>e = .returned (.bool (befB v m))/\Below w.heap.size w w':=by
 have vd:In v.d 1:=by rw [hv.d];exact ⟨by decide,by decide⟩
 exact rbefore_b v m w ((hv.x.mul hm.d).mono (by decide)) ((hm.x.mul vd).mono (by decide)) ((hv.y.mul hm.d).mono (by decide)) ((hm.y.mul vd).mono (by decide))
theorem loM_gr {a b:Pt}(ha:Gr a)(hb:Gr b):Gr (loM a b):=by unfold loM;split <;> assumption
theorem hiM_gr {a b:Pt}(ha:Gr a)(hb:Gr b):Gr (hiM a b):=by unfold hiM;split <;> assumption
structure Gs (p:Pt):Prop where
 x:In p.x 200
 y:In p.y 200
 d:In p.d 1
theorem Gr.gs {p:Pt}(h:Gr p):Gs p:=⟨h.x.mono (by decide),h.y.mono (by decide),by rw [h.d];exact ⟨by decide,by decide⟩⟩
theorem out_gs (k:Nat)(h:k<=200):Gs (outP k):=⟨⟨by simp [outP],by simp [outP]⟩,⟨by simp [outP] <;> omega,by simp [outP] <;> omega⟩,⟨by simp [outP],by simp [outP]⟩⟩
theorem det_b {a b c:Pt}{ax ay ad bx by' bd cx cy cd:Int}(a1:In a.x ax)(a2:In a.y ay)(a3:In a.d ad)(b1:In b.x bx)(b2:In b.y by')(b3:In b.d bd)(c1:In c.x cx)(c2:In c.y cy)(c3:In c.d cd)
  (h:ax*(by'*cd+cy*bd)+ay*(bx*cd+cx*bd)+ad*(bx*cy+cx*by')<=4611686018427387904) (g1:by'*cd+cy*bd<=4611686018427387904) (g2:bx*cd+cx*bd<=4611686018427387904) (g3:bx*cy+cx*by'<=4611686018427387904):DetOk a b c:=by
 have i1:=b2.mul c3
 have i2:=c2.mul b3
 have i3:=b1.mul c3
 have i4:=c1.mul b3
 have i5:=b1.mul c2
 have i6:=c1.mul b2
 have j1:=i1.sub i2
 have j2:=i3.sub i4
 have j3:=i5.sub i6
 have k1:=a1.mul j1
 have k2:=a2.mul j2
 have k3:=a3.mul j3
 have n1:=i1.nonneg;have n2:=i2.nonneg;have n3:=i3.nonneg;have n4:=i4.nonneg;have n5:=i5.nonneg;have n6:=i6.nonneg
 have m1:=k1.nonneg;have m2:=k2.nonneg;have m3:=k3.nonneg
 intro w
 refine rdet_of a b c w (hide ?_)
 unfold detM
 rw [wrap_in i1 (by omega),wrap_in i2 (by omega),wrap_in i3 (by omega),wrap_in i4 (by omega),wrap_in i5 (by omega),wrap_in i6 (by omega),wrap_in j1 (by omega),wrap_in j2 (by omega),wrap_in j3 (by omega),wrap_in k1 (by omega),wrap_in k2 (by omega),wrap_in k3 (by omega),wrap_in (k1.sub k2) (by omega),wrap_in ((k1.sub k2).add k3) (by omega)]
theorem det_sms {a m c:Pt}(ha:Gs a)(hm:Gm m)(hc:Gs c):DetOk a m c:=det_b ha.x ha.y ha.d hm.x hm.y hm.d hc.x hc.y hc.d (by decide) (by decide) (by decide) (by decide)
theorem det_ssm {a b m:Pt}(ha:Gs a)(hb:Gs b)(hm:Gm m):DetOk a b m:=det_b ha.x ha.y ha.d hb.x hb.y hb.d hm.x hm.y hm.d (by decide) (by decide) (by decide) (by decide)
theorem det_sss {a b c:Pt}(ha:Gs a)(hb:Gs b)(hc:Gs c):DetOk a b c:=det_b ha.x ha.y ha.d hb.x hb.y hb.d hc.x hc.y hc.d (by decide) (by decide) (by decide) (by decide)
set_option maxHeartbeats 1000000 in
theorem within_m (p a b:Pt)(w:World)(hp:Gm p)(ha:Gr a)(hb:Gr b) :
  Calls Tryz.prog 68 #[p.v,sg a b] w fun e w'=>e = .returned (.bool (withB p a b))/\Below w.heap.size w w':=by
 go_enter Tryz.func68,Tryz.ntmps68
 go_wp2_with fail
 refine (rends_any a b _ ha.gd hb.gd).mono ?_
 rintro e w1 ⟨rfl,k⟩
 have B1:=bvia (((Below.refl _ _).alloc (Nat.le_refl _) _).alloc (by simp) _) k
 obtain ⟨cp1,fp1,zp1⟩:=((Blk.new w _ _).alloc _).call k
 clear k
 go_wp2_with fail
 refine (before_mg (m:=p) (v:=loM a b) _ hp (loM_gr ha hb)).mono ?_
 rintro e w2 ⟨rfl,k⟩
 have B2:=bvia ((B1.alloc B1.size _).alloc (by have:=B1.size;simp;omega) _) k
 obtain ⟨cp2,fp2,zp2⟩:=(((Blk.mk cp1 fp1 zp1).alloc _).alloc _).call k
 obtain ⟨ch2,fh2,zh2⟩:=(Blk.at (w1.heap.size+1) (by simp)).call k
 clear k cp1 fp1 B1
 go_wp2_with fail
 refine (before_gm (m:=p) (v:=hiM a b) _ hp (hiM_gr ha hb)).mono ?_
 rintro e w3 ⟨rfl,k⟩
 have B3:=bvia B2 k
 clear k cp2 fp2 ch2 fh2 B2
 cases h1:befB p (loM a b) <;> cases h2:befB (hiM a b) p
 all_goals (go_wp2;go_ret;exact ⟨ret_bool (by simp [withB,h1,h2]),B3⟩)
set_option maxHeartbeats 1000000 in
theorem on_m (p a b:Pt)(w:World)(hp:Gm p)(ha:Gr a)(hb:Gr b) :
  Calls Tryz.prog 82 #[p.v,sg a b] w fun e w'=>e = .returned (.bool (onB p a b))/\Below w.heap.size w w':=by
 have D:=det_ssm ha.gs hb.gs hp
 go_enter Tryz.func82,Tryz.ntmps82
 go_wp2_with fail
 refine (D _).mono ?_
 rintro e w1 ⟨rfl,k⟩
 have B1:=bvia (((Below.refl _ _).alloc (Nat.le_refl _) _).alloc (by simp) _) k
 obtain ⟨cp1,fp1,zp1⟩:=((Blk.new w _ _).alloc _).call k
 obtain ⟨ce1,fe1,ze1⟩:=(Blk.at (w.heap.size+1) (by simp)).call k
 clear k
 go_wp2_with fail
 refine (within_m p a b _ hp ha hb).mono ?_
 rintro e w2 ⟨rfl,k⟩
 have B2:=bvia B1 k
 clear k cp1 fp1 ce1 fe1 B1 D
 have hd:onB p a b=(decide (detM a b p=0) && withB p a b):=rfl
 have HD:=hide hd
 clear hd
 generalize withB p a b=wi at *
 by_cases h:detM a b p=0
 ·go_wp2
  all_goals
   go_ret
   exact ⟨ret_bool (by rw [HD.out];simp [h]),B2⟩
 ·go_wp2
  all_goals
   go_ret
   exact ⟨ret_bool (by rw [HD.out];simp [h]),B2⟩
set_option maxRecDepth 100000 in
set_option maxHeartbeats 4000000 in
theorem carries_any (v:Value)(E:List (Pt×Pt))(m:Pt)(w:World)(hE:SegsAt w v E)(hm:Gm m)(gE:∀ e∈E,Gr e.1/\Gr e.2) :
  Calls Tryz.prog 115 #[v,m.v] w fun e w'=>e = .returned (.bool (E.any (fun e=>onB m e.1 e.2)))/\Below w.heap.size w w':=by
 obtain ⟨a,cap,rfl,h1,h2,h3⟩:=hE
 unfold maxLen at h2
 have H3:=hide h3
 have GE:=hide gE
 clear h3 gE
 go_enter Tryz.func115,Tryz.ntmps115
 go_wp2_with fail
 go_loopw [5,6] (fun iv _ w'=>∃ i:Nat,iv = .int .i64 i/\i<=E.length/\Blk w' w.heap.size #[.int .i64 m.x,.int .i64 m.y,.int .i64 m.d]/\Below w.heap.size w w'/\Hid (E.any (fun e=>onB m e.1 e.2)=(E.drop i).any (fun e=>onB m e.1 e.2))) (fun iv _ _=>E.length-(intOf iv).toNat)
 case atStart=>exact ⟨0,rfl,Nat.zero_le _,Blk.new w _ _,(Below.refl _ _).alloc (Nat.le_refl _) _,rfl⟩
 case round=>
  obtain ⟨i,rfl,hi,⟨cq,fq,zq⟩,hbel,HB⟩:=hrel
  by_cases hlt:i<E.length
  ·obtain ⟨b,off,rfl,hb,hs⟩:=H3.out i hlt
   obtain ⟨c0,c1,c2,c3,c4,c5⟩:=hs.later hbel hb
   have HC:=hide (any_drop (fun e:Pt×Pt=>onB m e.1 e.2) E i hlt (zP,zP))
   obtain ⟨ge1,ge2⟩:=GE.out _ (getD_mem hlt (zP,zP))
   generalize E.getD i (zP,zP)=e at *
   have hi0:(0:Int)<=(i:Int):=Int.natCast_nonneg _
   have hi1:(i:Int)<(E.length:Int):=by omega
   have C:=fun wz=>on_m m e.1 e.2 wz hm ge1 ge2
   clear hs
   go_upto_region 4 with fail
   go_cut [6] (fun bv w'=>bv = .bool (onB m e.1 e.2)/\Blk w' w.heap.size #[.int .i64 m.x,.int .i64 m.y,.int .i64 m.d]/\Below w.heap.size w w')
   case first=>
    go_region_with (go_at_call 82;refine (C _).mono ?_;rintro e' w2 ⟨rfl,k2⟩)
    all_goals
     go_wp2_with fail
     go_meet
     case rel=>exact ⟨rfl,(Blk.mk cq fq zq).drew.call k2,bvia hbel.drew k2⟩
   case rest=>
    clear cq fq zq hbel c0 c1 c2 c3 c4 c5 C
    obtain ⟨rfl,L1,L2⟩:=hcut
    cases ho:onB m e.1 e.2
    ·have HE:Hid (E.any (fun e=>onB m e.1 e.2)=(E.drop (i+1)).any (fun e=>onB m e.1 e.2)):=HB.out.trans (HC.out.trans (by simp [ho]))
     clear HB HC
     go_wp2
     go_roundw
     case rel=>exact ⟨i+1,by go_num,by omega,L1,L2,HE⟩
     case measure=>simp [intOf];omega
    ·have HE:Hid (E.any (fun e=>onB m e.1 e.2)=true):=HB.out.trans (HC.out.trans (by simp [ho]))
     clear HB HC
     go_wp2
     go_ret
     exact ⟨ret_bool HE.out.symm,L2⟩
  ·have HE:Hid (E.any (fun e=>onB m e.1 e.2)=false):=by rw [HB.out,List.drop_of_length_le (by omega)];exact hide rfl
   have hi1 : ¬ (i:Int)<(E.length:Int):=by omega
   go_wp2
   go_ret
   exact ⟨ret_bool HE.out.symm,hbel⟩
set_option maxRecDepth 100000 in
set_option maxHeartbeats 4000000 in
theorem rsides_any (p q:Pt)(f1 f2 f3 f4:Bool)(pv:Value)(P:List (List Pt))(lv:Value)(all:List Pt)(w:World)(hP:PolyAt w pv P)(hL:RingAt w lv all)
  (gp:goodB p=true) (gq:goodB q=true) (gP:∀ v∈P.flatten,Gr v) (gA:∀ v∈all,Gr v) (nP:(edgesM P).length<=100) (nA:all.length<=100) :
  Calls Tryz.prog 91 #[pcV p q f1 f2 f3 f4,pv,lv] w fun e w'=>e = .returned (.tuple #[.bool (rsidesM p q (edgesM P) all).1,.bool (rsidesM p q (edgesM P) all).2])/\Below w.heap.size w w':=by
 have dp:=gd_good gp
 have dq:=gd_good gq
 have gm:=mid_gm dp dq
 have hfar:∃ k,k<=102/\farM (midP p q) all p q=outP k:=by
  obtain ⟨j,hj,ej⟩:=farL_out (freeB (midP p q) all p q) (all.length+2) 0
  exact ⟨j,by omega,ej⟩
 obtain ⟨kf,hkf,ekf⟩:=hfar
 have CF:=hide (fun (wz:World) (k:RingAt wz lv all)=>rfar_any (midP p q) lv all p q wz k (by omega) (fun k hk v hv=>det_sms (out_gs k (by omega)) gm (gA v hv).gs) (fun k hk=>detOk_w dp.gw dq.gw (outP_gw k (by omega))))
 have gO:Gs (farM (midP p q) all p q):=by rw [ekf];exact out_gs kf (by omega)
 have gOw:Gw (farM (midP p q) all p q):=by rw [ekf];exact outP_gw kf (by omega)
 have gE:∀ e∈edgesM P,Gr e.1/\Gr e.2:=fun e he=>⟨gP _ (edge_ends he).1,gP _ (edge_ends he).2⟩
 have CC:=hide (fun (ev:Value) (wz:World) (k:SegsAt wz ev (edgesM P))=>rcrossed_any (farM (midP p q) all p q) (midP p q) ev (edgesM P) wz k (fun e he=>⟨det_sms gO gm (gE e he).1.gs,det_sms gO gm (gE e he).2.gs,det_sss (gE e he).1.gs (gE e he).2.gs gO,det_ssm (gE e he).1.gs (gE e he).2.gs gm⟩))
 have CR:=hide (fun (ev:Value) (wz:World) (k:SegsAt wz ev (edgesM P))=>carries_any ev (edgesM P) (midP p q) wz k gm gE)
 have CD:=hide (detOk_w dp.gw dq.gw gOw)
 have CE:=hide (fun (wz:World) (k:PolyAt wz pv P)=>rEdges_any pv P wz k (by omega))
 have HR:=hide (show rsidesM p q (edgesM P) all=if 0<detM p q (farM (midP p q) all p q) then (decide (nCross (farM (midP p q) all p q) (midP p q) (edgesM P) % 2=1),if (edgesM P).any (fun e=>onB (midP p q) e.1 e.2)=true then !decide (nCross (farM (midP p q) all p q) (midP p q) (edgesM P) % 2=1) else decide (nCross (farM (midP p q) all p q) (midP p q) (edgesM P) % 2=1)) else (if (edgesM P).any (fun e=>onB (midP p q) e.1 e.2)=true then !decide (nCross (farM (midP p q) all p q) (midP p q) (edgesM P) % 2=1) else decide (nCross (farM (midP p q) all p q) (midP p q) (edgesM P) % 2=1),decide (nCross (farM (midP p q) all p q) (midP p q) (edgesM P) % 2=1)) from rfl)
 have hnl:=nCross_le (farM (midP p q) all p q) (midP p q) (edgesM P)
 have HM:=hide (fun wz=>middle_any p q wz dp dq)
 clear gm ekf gO gOw gE gP gA gp gq
 generalize rsidesM p q (edgesM P) all=res at *
 generalize farM (midP p q) all p q=o at *
 generalize midP p q=m at *
 generalize edgesM P=E at *
 go_enter Tryz.func91,Tryz.ntmps91
 go_wp2_with fail
 refine (HM.out _).mono ?_
 rintro e w1 ⟨rfl,k1⟩
 have B1:=bvia ((Below.refl _ _).alloc (Nat.le_refl _) _) k1
 have X1:=(Blk.new w #[.int .i64 p.x,.int .i64 p.y,.int .i64 p.d,.int .i64 q.x,.int .i64 q.y,.int .i64 q.d,.bool f1,.bool f2,.bool f3,.bool f4] 55).call k1
 obtain ⟨cx,fx,zx⟩:=id X1
 have L1:=hL.later (B1.alloc B1.size (.cells #[.int .i64 m.x,.int .i64 m.y,.int .i64 m.d] 31))
 clear k1
 go_wp2_with fail
 refine (CF.out _ L1).mono ?_
 rintro e w2 ⟨rfl,k2⟩
 have B2:=bvia (B1.alloc B1.size _) k2
 have X2:=(X1.alloc (.cells #[.int .i64 m.x,.int .i64 m.y,.int .i64 m.d] 31)).call k2
 have M2:=(Blk.new w1 #[.int .i64 m.x,.int .i64 m.y,.int .i64 m.d] 31).call k2
 have P3:=hP.later (B2.alloc B2.size (.cells #[.int .i64 o.x,.int .i64 o.y,.int .i64 o.d] 31))
 clear k2 cx fx zx X1 L1 B1
 go_wp2_with fail
 refine (CE.out _ P3).mono ?_
 rintro e w3 ⟨ev,rfl,hE3,k3⟩
 have B3:=bvia (B2.alloc B2.size _) k3
 have X3:=(X2.alloc _).call k3
 have M3:=(M2.alloc _).call k3
 have O3:=(Blk.new w2 #[.int .i64 o.x,.int .i64 o.y,.int .i64 o.d] 31).call k3
 obtain ⟨cm,fm,zm⟩:=id M3
 obtain ⟨co,fo,zo⟩:=id O3
 clear k3 X2 M2 B2 P3
 go_wp2_with fail
 refine (CC.out _ _ hE3).mono ?_
 rintro e w4 ⟨rfl,k4⟩
 have B4:=bvia B3 k4
 have X4:=X3.call k4
 have M4:=M3.call k4
 have O4:=O3.call k4
 have hE4:=hE3.later k4
 obtain ⟨cm4,fm4,zm4⟩:=id M4
 clear k4 X3 M3 O3 hE3 B3 cm fm zm co fo zo
 have hn0:(0:Int)<=(nCross o m E:Int):=Int.natCast_nonneg _
 have hnl2:(nCross o m E:Int)<=100:=by omega
 have hmod:((nCross o m E:Int).tmod 2 == 1)=decide (nCross o m E % 2=1):=by
  rw [Int.tmod_eq_emod_of_nonneg hn0,Bool.eq_iff_iff];simp;omega
 generalize decide (nCross o m E % 2=1)=near at *
 generalize nCross o m E=nc at *
 go_wp2_with fail
 refine (CR.out _ _ hE4).mono ?_
 rintro e w5 ⟨rfl,k5⟩
 have B5:=bvia B4 k5
 have X5:=X4.call k5
 have O5:=O4.call k5
 obtain ⟨cx5,fx5,zx5⟩:=id X5
 obtain ⟨co5,fo5,zo5⟩:=id O5
 clear k5 X4 O4 M4 hE4 B4 cm4 fm4 zm4
 generalize E.any (fun e=>onB m e.1 e.2)=ca at *
 cases ca
 ·go_wp2_with fail
  refine (CD.out _).mono ?_
  rintro e w6 ⟨rfl,k6⟩
  have B6:=bvia B5 k6
  clear k6 cx5 fx5 zx5 co5 fo5 zo5 B5
  by_cases t:0<detM p q o
  ·have HF:Hid (res=(near,near)):=HR.out.trans (by rw [if_pos t];rfl)
   clear HR
   go_wp2
   go_ret2
   exact ⟨by rw [HF.out,<-hmod];rfl,B6⟩
  ·have HF:Hid (res=(near,near)):=HR.out.trans (by rw [if_neg t];rfl)
   clear HR
   go_wp2
   go_ret2
   exact ⟨by rw [HF.out,<-hmod];rfl,B6⟩
 ·go_wp2_with fail
  refine (CD.out _).mono ?_
  rintro e w6 ⟨rfl,k6⟩
  have B6:=bvia B5 k6
  clear k6 cx5 fx5 zx5 co5 fo5 zo5 B5
  by_cases t:0<detM p q o
  ·have HF:Hid (res=(near,!near)):=HR.out.trans (by rw [if_pos t];rfl)
   clear HR
   go_wp2
   go_ret2
   exact ⟨by rw [HF.out,<-hmod];rfl,B6⟩
  ·have HF:Hid (res=(!near,near)):=HR.out.trans (by rw [if_neg t];rfl)
   clear HR
   go_wp2
   go_ret2
   exact ⟨by rw [HF.out,<-hmod];rfl,B6⟩
set_option maxHeartbeats 1000000 in
theorem ahead_any (x y:Pc)(w:World)(h1:Gd x.p)(h2:Gd x.q)(h3:Gd y.p)(h4:Gd y.q) :
  Calls Tryz.prog 113 #[x.v,y.v] w fun e w'=>e = .returned (.bool (aheadB (x.p,x.q) (y.p,y.q)))/\Below w.heap.size w w':=by
 have heq:=neq_pt
 cases h:eqP x.p y.p
 ·have H:Hid (aheadB (x.p,x.q) (y.p,y.q)=befB x.p y.p):=by unfold aheadB;rw [h];exact hide rfl
  have h':eqP ⟨x.p.x,x.p.y,x.p.d⟩ ⟨y.p.x,y.p.y,y.p.d⟩=false:=h
  go_enter Tryz.func113,Tryz.ntmps113
  go_wp2_with fail
  refine (rbefore_any x.p y.p _ h1 h3).mono ?_
  rintro e w1 ⟨rfl,k⟩
  have B1:=bvia (below2 _ _ _) k
  clear k
  go_wp2
  go_ret
  exact ⟨ret_bool H.out.symm,B1⟩
 ·have H:Hid (aheadB (x.p,x.q) (y.p,y.q)=befB x.q y.q):=by unfold aheadB;rw [h];exact hide rfl
  have h':eqP ⟨x.p.x,x.p.y,x.p.d⟩ ⟨y.p.x,y.p.y,y.p.d⟩=true:=h
  go_enter Tryz.func113,Tryz.ntmps113
  go_wp2_with fail
  refine (rbefore_any x.q y.q _ h2 h4).mono ?_
  rintro e w1 ⟨rfl,k⟩
  have B1:=bvia (below2 _ _ _) k
  clear k
  go_wp2
  go_ret
  exact ⟨ret_bool H.out.symm,B1⟩
def pairOf (x:Pc):Pt×Pt:=(x.p,x.q)
set_option maxRecDepth 100000 in
set_option maxHeartbeats 4000000 in
theorem known_any (v:Value)(l:List Pc)(x:Pc)(w:World)(hl:PcsAt w v l) :
  Calls Tryz.prog 89 #[v,x.v] w fun e w'=>e = .returned (.bool (knownB (l.map pairOf) (pairOf x)))/\Below w.heap.size w w':=by
 have heq:=eql_pt
 obtain ⟨a,cap,rfl,h1,h2,h3⟩:=hl
 unfold maxLen at h2
 have H3:=hide h3
 have HK:=hide (show knownB (l.map pairOf) (pairOf x)=l.any (fun y=>eqP y.p x.p && eqP y.q x.q) from by unfold knownB;rw [List.any_map];rfl)
 clear h3
 generalize knownB (l.map pairOf) (pairOf x)=res at *
 go_enter Tryz.func89,Tryz.ntmps89
 go_wp2_with fail
 go_loopw [5] (fun iv w'=>∃ i:Nat,iv = .int .i64 i/\i<=l.length/\Blk w' w.heap.size x.cs/\Below w.heap.size w w'/\Hid (res=(l.drop i).any (fun y=>eqP y.p x.p && eqP y.q x.q))) (fun iv _=>l.length-(intOf iv).toNat)
 case atStart=>exact ⟨0,rfl,Nat.zero_le _,Blk.new w _ _,(Below.refl _ _).alloc (Nat.le_refl _) _,HK⟩
 case round=>
  obtain ⟨i,rfl,hi,hX,hbel,HB⟩:=hrel
  by_cases hlt:i<l.length
  ·obtain ⟨b,off,rfl,hb,hs⟩:=H3.out i hlt
   have hs':=hs.later hbel hb
   have HC:=hide (any_drop (fun y:Pc=>eqP y.p x.p && eqP y.q x.q) l i hlt zPc)
   generalize l.getD i zPc=y at *
   have c0:=hs' 0 (by decide)
   have c1:=hs' 1 (by decide)
   have c2:=hs' 2 (by decide)
   have c3:=hs' 3 (by decide)
   have c4:=hs' 4 (by decide)
   have c5:=hs' 5 (by decide)
   simp only [pcCell,Nat.add_zero,List.getElem?_cons_zero,List.getElem?_cons_succ] at c0 c1 c2 c3 c4 c5
   obtain ⟨cx,fx,zx⟩:=id hX
   have hi0:(0:Int)<=(i:Int):=Int.natCast_nonneg _
   have hi1:(i:Int)<(l.length:Int):=by omega
   clear hs hs'
   go_upto_region 4 with fail
   go_cut [29] (fun c w'=>c = .bool (eqP y.p x.p && eqP y.q x.q)/\Blk w' w.heap.size x.cs/\Below w.heap.size w w')
   case first=>
    cases h:eqP y.p x.p
    ·have h':eqP ⟨y.p.x,y.p.y,y.p.d⟩ ⟨x.p.x,x.p.y,x.p.d⟩=false:=h
     go_quiet (fail)
     go_wp2
     go_meet
     case rel=>exact ⟨by rw [h];rfl,⟨hX.cell,hX.free,hX.lt⟩,below_drewN hbel _⟩
    ·have h':eqP ⟨y.p.x,y.p.y,y.p.d⟩ ⟨x.p.x,x.p.y,x.p.d⟩=true:=h
     go_quiet (fail)
     go_wp2
     go_meet
     case rel=>exact ⟨by rw [h];rfl,⟨hX.cell,hX.free,hX.lt⟩,below_drewN hbel _⟩
   case rest=>
    obtain ⟨rfl,L1,L2⟩:=hcut
    clear c0 c1 c2 c3 c4 c5 cx fx zx hX hbel
    cases hc:(eqP y.p x.p && eqP y.q x.q)
    ·have HE:Hid (res=(l.drop (i+1)).any (fun y=>eqP y.p x.p && eqP y.q x.q)):=HB.out.trans (HC.out.trans (by rw [hc];rfl))
     clear HB HC
     go_wp2
     go_roundw
     case rel=>exact ⟨i+1,by go_num,by omega,L1,L2,HE⟩
     case measure=>simp [intOf];omega
    ·have HE:Hid (res=true):=HB.out.trans (HC.out.trans (by rw [hc];rfl))
     clear HB HC
     go_wp2
     go_ret
     exact ⟨ret_bool HE.out.symm,L2⟩
  ·have HE:Hid (res=false):=HB.out.trans (by rw [List.drop_of_length_le (by omega)];rfl)
   have hi1 : ¬ (i:Int)<(l.length:Int):=by omega
   go_wp2
   go_ret
   exact ⟨ret_bool HE.out.symm,hbel⟩
def sortP (l:List Pc)(x:Pc):List Pc:=l.takeWhile (fun y=>aheadB (pairOf y) (pairOf x)) ++ x::l.dropWhile (fun y=>aheadB (pairOf y) (pairOf x))
theorem sortP_go {l:List Pc}{x:Pc}{i:Nat}(hi:i<l.length)(hd:l.dropWhile (fun y=>aheadB (pairOf y) (pairOf x))=(l.drop i).dropWhile (fun y=>aheadB (pairOf y) (pairOf x)))(ht:l.takeWhile (fun y=>aheadB (pairOf y) (pairOf x))=l.take i ++ (l.drop i).takeWhile (fun y=>aheadB (pairOf y) (pairOf x))) :
  (aheadB (pairOf (l.getD i zPc)) (pairOf x)=true->(l.dropWhile (fun y=>aheadB (pairOf y) (pairOf x))=(l.drop (i+1)).dropWhile (fun y=>aheadB (pairOf y) (pairOf x))/\l.takeWhile (fun y=>aheadB (pairOf y) (pairOf x))=l.take (i+1) ++ (l.drop (i+1)).takeWhile (fun y=>aheadB (pairOf y) (pairOf x))))/\
  (aheadB (pairOf (l.getD i zPc)) (pairOf x)=false->sortP l x=l.take i ++ x::l.drop i):=by
 have e:l.drop i=l.getD i zPc::l.drop (i+1):=by
  rw [List.drop_eq_getElem_cons hi,List.getD_eq_getElem?_getD,List.getElem?_eq_getElem hi];rfl
 have e2:l.take (i+1)=l.take i ++ [l.getD i zPc]:=by
  rw [List.take_succ_eq_append_getElem hi,List.getD_eq_getElem?_getD,List.getElem?_eq_getElem hi];rfl
 rw [e] at hd ht
 refine ⟨fun h=>?_,fun h=>?_⟩
 ·rw [List.dropWhile_cons_of_pos (by simpa using h)] at hd
  rw [List.takeWhile_cons_of_pos (by simpa using h)] at ht
  exact ⟨hd,by rw [ht,e2];simp⟩
 ·rw [List.dropWhile_cons_of_neg (by simpa using h)] at hd
  rw [List.takeWhile_cons_of_neg (by simpa using h)] at ht
  unfold sortP
  rw [hd,ht,<-e];simp
theorem PceAt.news {w:World}{b off:Nat}{l:List Pc}(h:∀ j,j<l.length->PceAt w b (off+j*10) (l.getD j zPc)) :
  ∀ t u,(pcCells l)[t]?=some u->w.cell? ((⟨b,off,none⟩:Addr).add t)=some u:=by
 intro t u hu
 have hl:t<l.length*10:=by
  have:=(List.getElem?_eq_some_iff.1 hu).1;rwa [pcCells_len] at this
 have hd:t=t / 10*10+t % 10:=by omega
 have h1:=h (t / 10) (by omega) (t % 10) (by omega)
 rw [hd,pcCells_at l (t / 10) (t % 10) (by omega) (by omega)] at hu
 have e:(⟨b,off,none⟩:Addr).add t=⟨b,off+t / 10*10+t % 10,none⟩:=by
  have:=cell_off2 b off t
  rw [this];congr 1;omega
 rw [e,h1,hu]
theorem pcCells_one (l:List Pc):∀ u∈pcCells l,u.oneCell'=true:=by
 intro u hu
 unfold pcCells at hu
 obtain ⟨e,_,h⟩:=List.mem_flatMap.1 hu
 simp [pcCell] at h
 rcases h with rfl | rfl | rfl | rfl | rfl | rfl | rfl | rfl | rfl | rfl <;> rfl
theorem pcCells_app (l m:List Pc):pcCells (l ++ m)=pcCells l ++ pcCells m:=by simp [pcCells]
set_option maxRecDepth 100000 in
set_option maxHeartbeats 8000000 in
theorem sorted_any (v:Value)(l:List Pc)(x:Pc)(w:World)(hl:PcsAt w v l)(gl:∀ y∈l,Gd y.p/\Gd y.q)(gx:Gd x.p/\Gd x.q)(hn:l.length<=1000000) :
  Calls Tryz.prog 90 #[v,x.v] w fun e w'=>∃ v',e = .returned v'/\w'.ownsRow (w.heap.size+1) 55 10 v' (sortP l x).length (pcCells (sortP l x))/\Below w.heap.size w w':=by
 obtain ⟨i2,hi2,hx0,hx1,hx2⟩:=info_parts infoPcs
 obtain ⟨a,cap,rfl,h1,h2,h3⟩:=hl
 unfold maxLen at h2
 have H3:=hide h3
 have GL:=hide gl
 clear h3 gl
 go_enter Tryz.func90,Tryz.ntmps90
 go_upto_block 0 with fail
 go_cut [5,6] (fun ov iv w'=>∃ i:Nat,iv = .int .i64 i/\i<=l.length/\Hid (sortP l x=l.take i ++ x::l.drop i)/\w'.ownsRow (w.heap.size+1) 55 10 ov (l.take i).length (pcCells (l.take i))/\Blk w' w.heap.size x.cs/\Below w.heap.size w w')
 case first=>
  go_wp2_with fail
  go_loopw [5,6] (fun ov iv w'=>∃ i:Nat,iv = .int .i64 i/\i<=l.length/\w'.ownsRow (w.heap.size+1) 55 10 ov (l.take i).length (pcCells (l.take i))/\Hid (l.dropWhile (fun y=>aheadB (pairOf y) (pairOf x))=(l.drop i).dropWhile (fun y=>aheadB (pairOf y) (pairOf x)))/\Hid (l.takeWhile (fun y=>aheadB (pairOf y) (pairOf x))=l.take i ++ (l.drop i).takeWhile (fun y=>aheadB (pairOf y) (pairOf x)))/\Blk w' w.heap.size x.cs/\Below w.heap.size w w') (fun _ iv _=>l.length-(intOf iv).toNat)
  case atStart=>exact ⟨0,rfl,Nat.zero_le _,World.ownsRow_nil _ _ _ _,rfl,rfl,Blk.new w _ _,(Below.refl _ _).alloc (Nat.le_refl _) _⟩
  case round=>
   obtain ⟨i,rfl,hi,hO,HD,HT,hX,hbel⟩:=hrel
   by_cases hlt:i<l.length
   ·obtain ⟨b,off,rfl,hb,hs⟩:=H3.out i hlt
    have hs':=hs.later hbel hb
    obtain ⟨S1,S2⟩:=sortP_go hlt HD.out HT.out
    have HS1:=hide S1
    have HS2:=hide S2
    have gy:=GL.out _ (getD_mem hlt zPc)
    have HTk:Hid (l.take (i+1)=l.take i ++ [l.getD i zPc]):=by
     refine hide ?_
     rw [List.take_succ_eq_append_getElem hlt,List.getD_eq_getElem?_getD,List.getElem?_eq_getElem hlt];rfl
    have HPT:Hid (∀ wz,Below w.heap.size w wz->PceAt wz b (off+i*10) (l.getD i zPc)):=fun wz kz=>hs.later kz hb
    generalize l.getD i zPc=y at *
    have C:=fun wz=>ahead_any y x wz gy.1 gy.2 gx.1 gx.2
    have hi0:(0:Int)<=(i:Int):=Int.natCast_nonneg _
    have hi1:(i:Int)<(l.length:Int):=by omega
    have hO':=hide hO
    have hX':=hide hX
    have hB':=hide hbel
    obtain ⟨cx,fx,zx⟩:=id hX
    have c0:=hs' 0 (by decide)
    have c1:=hs' 1 (by decide)
    have c2:=hs' 2 (by decide)
    have c3:=hs' 3 (by decide)
    have c4:=hs' 4 (by decide)
    have c5:=hs' 5 (by decide)
    have c6:=hs' 6 (by decide)
    have c7:=hs' 7 (by decide)
    have c8:=hs' 8 (by decide)
    have c9:=hs' 9 (by decide)
    simp only [pcCell,Nat.add_zero,List.getElem?_cons_zero,List.getElem?_cons_succ] at c0 c1 c2 c3 c4 c5 c6 c7 c8 c9
    clear hs hs' hO hX S1 S2 HD HT
    go_upto_region 3 with fail
    go_cut [18] (fun c w'=>c = .bool (aheadB (pairOf y) (pairOf x))/\Below wr.heap.size wr w')
    case first=>
     clear HS1 HS2 HTk HPT hO' hX' hB' H3 GL
     go_region_with (go_at_call 113;refine (C _).mono ?_;rintro e' w2 ⟨rfl,k2⟩)
     all_goals
      go_wp2_with fail
      go_meet
      case rel=>exact ⟨rfl,bvia (Below.refl _ _).drew k2⟩
    case rest=>
     obtain ⟨rfl,k2⟩:=hcut
     have O2:=hide (own_later hO'.out k2)
     have X2:=hX'.out.call k2
     have B2:=bvia hB'.out k2
     have zb:=B2.size
     clear c0 c1 c2 c3 c4 c5 c6 c7 c8 c9 cx fx zx k2 hO' hX' hB' hbel C
     cases ha:aheadB (pairOf y) (pairOf x)
     ·have HE:=hide (HS2.out ha)
      clear HS1 HS2
      go_wp2
      go_meet
      case rel=>exact ⟨i,rfl,hi,HE,O2.out,X2,B2⟩
     ·have HE:=hide (HS1.out ha)
      have hs':=HPT.out _ B2
      have c0:=hs' 0 (by decide)
      have c1:=hs' 1 (by decide)
      have c2:=hs' 2 (by decide)
      have c3:=hs' 3 (by decide)
      have c4:=hs' 4 (by decide)
      have c5:=hs' 5 (by decide)
      have c6:=hs' 6 (by decide)
      have c7:=hs' 7 (by decide)
      have c8:=hs' 8 (by decide)
      have c9:=hs' 9 (by decide)
      simp only [pcCell,Nat.add_zero,List.getElem?_cons_zero,List.getElem?_cons_succ] at c0 c1 c2 c3 c4 c5 c6 c7 c8 c9
      have htl:(l.take i).length<=1000000:=by simp;omega
      clear HS1 HS2 hs' HPT
      generalize l.take i=t at *
      have hnews:=World.news_of_block (w:=wc.alloc (.cells y.cs 55)) (cs:=y.cs) (t:=55) (fr:=(0,0)) (heap_alloc_new wc _)
      go_wp2_with (at_builtin;refine wpList_append_lies _ rfl _ _ _ rfl (w.heap.size+1) 55 i2 _ 10 56 Tryz.underlying51 hi2 hx0 hx1 hx2 rfl (by omega) u5 t.length (pcCells t) rfl (O2.out.alloc _) ⟨wc.heap.size,0,none⟩ 1 1 (pcCell y) rfl rfl hnews (by simp [pcCell,Value.oneCell']) (by omega) (by unfold maxLen;omega) (by omega) (by simp;omega) _ rfl ?_;intro gg cp w4 ho hgrow hat hlt4)
      have O4:Hid (w4.ownsRow (w.heap.size+1) 55 10 (.slice (some ⟨gg,0,none⟩) (t.length+1) cp) (t ++ [y]).length (pcCells (t ++ [y]))):=by
       refine hide ?_
       rw [pcCells_snoc,List.length_append];exact ho
      have hlo:=O2.out.lt
      have K4:Kp (fun b=>u5.ownBlock=some b) wc w4:=Kp.grown ((Kp.refl _ _).alloc _) hgrow (fun k hk=>hk)
      have X4:=X2.kp K4 (fun h=>by have:=(hlo _ h).1;omega)
      have B4:=below_kp B2 K4 B2.size (fun b h=>by have:=(hlo b h).1;omega)
      clear hnews ho hgrow hat hlt4 K4 hlo c0 c1 c2 c3 c4 c5 c6 c7 c8 c9
      go_wp2
      go_roundw
      case rel=>exact ⟨i+1,by go_num,by omega,by rw [HTk.out];exact O4.out,HE.out.1,by rw [HTk.out] at HE ⊢;exact HE.out.2,X4,B4⟩
      case measure=>simp [intOf];omega
   ·have ei:i=l.length:=by omega
    subst ei
    have HE:Hid (sortP l x=l.take l.length ++ x::l.drop l.length):=by
     refine hide ?_
     unfold sortP
     rw [HD.out,HT.out,List.drop_length];simp
    have e0 : ¬ (l.length:Int)<(l.length:Int):=by omega
    have e1:decide ((l.length:Int)<(l.length:Int))=false:=by simp
    have hO':=hide hO
    clear hO HD HT
    go_upto_region 3 with fail
    go_cut [18] (fun c w'=>c = .bool false/\∃ m,w'=wr.drewN m)
    case first=>
     go_quiet (fail)
     go_wp2
     go_meet
     case rel=>exact ⟨rfl,_,rfl⟩
    case rest=>
     obtain ⟨rfl,m,rfl⟩:=hcut
     go_wp2
     go_meet
     case rel=>exact ⟨l.length,rfl,Nat.le_refl _,HE,own_later hO'.out (below_drewN (Below.refl _ _) m),hX.call (below_drewN (Below.refl _ _) m),below_drewN hbel m⟩
 case rest=>
  obtain ⟨i,rfl,hi,HE,hO,hX,hbel⟩:=hcut
  have htl:(l.take i).length=i:=by simp;omega
  obtain ⟨cx,fx,zx⟩:=id hX
  have GO:=hide hO
  have hnews:=World.news_of_block (w:=wc.alloc (.cells x.cs 55)) (cs:=x.cs) (t:=55) (fr:=(0,0)) (heap_alloc_new wc _)
  clear hO
  go_upto_region 7 with (at_builtin;refine wpList_append_lies _ rfl _ _ _ rfl (w.heap.size+1) 55 i2 _ 10 56 Tryz.underlying51 hi2 hx0 hx1 hx2 rfl (by omega) u5 (l.take i).length (pcCells (l.take i)) rfl (GO.out.alloc _) ⟨wc.heap.size,0,none⟩ 1 1 (pcCell x) rfl rfl hnews (by simp [pcCell,Value.oneCell']) (by omega) (by unfold maxLen;omega) (by omega) (by simp;omega) _ rfl ?_;intro gg cp w4 ho hgrow hat hlt4)
  have hlo:=GO.out.lt
  have K4:Kp (fun b=>u5.ownBlock=some b) wc w4:=Kp.grown ((Kp.refl _ _).alloc _) hgrow (fun k hk=>hk)
  have B4:=below_kp hbel K4 hbel.size (fun b h=>by have:=(hlo b h).1;omega)
  have zb:=B4.size
  have hgg:w.heap.size+1<=gg:=(ho.lt gg rfl).1
  rw [htl] at ho
  have O4:=hide ho
  clear hnews ho hgrow hat K4 hlo GO cx fx zx hX hbel
  by_cases hlt:i<l.length
  ·obtain ⟨b,off,rfl,hb,_⟩:=H3.out i hlt
   have hne : ¬ cap=i:=by omega
   have HN:Hid (∀ t u,(pcCells (l.drop i))[t]?=some u->w4.cell? ((⟨b,off+i*10,none⟩:Addr).add t)=some u):=by
    refine hide (PceAt.news fun j hj=>?_)
    have hj':i+j<l.length:=by simp at hj;omega
    obtain ⟨b',off',e,hb',h⟩:=H3.out (i+j) hj'
    injection e with e;injection e with e1 e2;subst e1;subst e2
    have:=h.later B4 hb
    have e3:off+i*10+j*10=off+(i+j)*10:=by omega
    rw [e3]
    have e4:(l.drop i).getD j zPc=l.getD (i+j) zPc:=by simp [List.getD_eq_getElem?_getD]
    rw [e4];exact this
   go_wp2_with (at_builtin;refine wpList_append_lies _ rfl _ _ _ rfl (w.heap.size+1) 55 i2 _ 10 56 Tryz.underlying51 hi2 hx0 hx1 hx2 rfl (by omega) (.slice (some ⟨gg,0,none⟩) (i+1) cp) (i+1) (pcCells (l.take i) ++ pcCell x) rfl O4.out ⟨b,off+i*10,none⟩ (l.length-i) (cap-i) (pcCells (l.drop i)) rfl (by rw [pcCells_len,List.length_drop]) HN.out (pcCells_one _) (by omega) (by unfold maxLen;omega) (by omega) (by omega) _ rfl ?_;intro g6 c6 w6 h6 hgrow hat hlt6)
   have B6:=below_kp B4 (Kp.grown (Kp.refl (fun b=>b=gg) w4) hgrow (fun k hk=>(Option.some.inj hk).symm)) B4.size (fun b h=>by omega)
   have F6:Hid (w6.ownsRow (w.heap.size+1) 55 10 (.slice (some ⟨g6,0,none⟩) (i+1+(l.length-i)) c6) (sortP l x).length (pcCells (sortP l x))):=by
    refine hide ?_
    have e1:(sortP l x).length=i+1+(l.length-i):=by rw [HE.out];simp;omega
    have e2:pcCells (sortP l x)=pcCells (l.take i) ++ pcCell x ++ pcCells (l.drop i):=by
     rw [HE.out,pcCells_app,List.append_assoc];congr 1
    rw [e1,e2];exact h6
   go_ret
   exact ⟨_,rfl,F6.out,B6⟩
  ·have ei:i=l.length:=by omega
   subst ei
   have F6:Hid (w4.ownsRow (w.heap.size+1) 55 10 (.slice (some ⟨gg,0,none⟩) (l.length+1) cp) (sortP l x).length (pcCells (sortP l x))):=by
    refine hide ?_
    have e1:(sortP l x).length=l.length+1:=by rw [HE.out];simp
    have e2:pcCells (sortP l x)=pcCells (l.take l.length) ++ pcCell x:=by
     rw [HE.out,List.drop_length,<-pcCells_snoc]
    rw [e1,e2];exact O4.out
   go_wp2_with (at_builtin;refine wpList_append_zero rfl _ _ _ rfl (w.heap.size+1) 55 i2 10 Tryz.underlying51 hi2 (.slice (some ⟨gg,0,none⟩) (l.length+1) cp) (l.length+1) (pcCells (l.take l.length) ++ pcCell x) rfl O4.out _ _ rfl ?_)
   all_goals
    go_ret
    exact ⟨_,rfl,F6.out,B4⟩
end Go.Proofs.YtnkcbephceollabGreat
