import Derived.Test.YtnkcbephceollabGreatU29
namespace Go.Proofs.YtnkcbephceollabGreat
open Go.RowKit
set_option linter.unusedSimpArgs false
set_option linter.unusedVariables false
set_option maxRecDepth 100000 in
set_option maxHeartbeats 8000000 in
theorem rpieces_any (va vb:Value)(A B:List (List Pt))(w:World)(hA:PolyAt w va A)(hB:PolyAt w vb B)(sA:Sound A)(sB:Sound B)(nA:(edgesM A).length<=12)(nB:(edgesM B).length<=12)(mA:A.flatten.length<=12)(mB:B.flatten.length<=12) :
  Calls Tryz.prog 50 #[va,vb] w fun e w'=>∃ v',e = .returned v'/\w'.ownsRow w.heap.size 55 10 v' (rpiecesM A B).length (pcCells (rpiecesM A B))/\Below w.heap.size w w':=by
 obtain ⟨i0,hi0,hz0,hz1,hz2⟩:=info_parts infoEdge
 obtain ⟨i1,hi1,hy0,hy1,hy2⟩:=info_parts infoPoint
 have HG:=hide (good_both sA sB)
 have HA:=hide hA
 have HB:=hide hB
 have CE:=hide (fun wz v P (h:PolyAt wz v P) (n:(edgesM P).length<=12)=>rEdges_own v P wz h (by omega))
 have CPA:=hide (fun wz (h:PolyAt wz va A)=>points_own va A wz h (by omega))
 have CPB:=hide (fun wz (h:PolyAt wz vb B)=>points_own vb B wz h (by omega))
 have HR:=hide (show rpiecesM A B=(rpairsM (edgesM A ++ edgesM B) (rspotsM (edgesM A ++ edgesM B))).map (rpcOf (edgesM A) (edgesM B) (A.flatten ++ B.flatten)) from rfl)
 have gA:=sA.gr
 have gB:=sB.gr
 have HGA:=hide sA.gr
 have HGB:=hide sB.gr
 generalize rpiecesM A B=RES at *
 obtain ⟨FA,hFA⟩:∃ F,F=A.flatten:=⟨_,rfl⟩
 obtain ⟨FB,hFB⟩:∃ F,F=B.flatten:=⟨_,rfl⟩
 rw [<-hFA] at CPA mA HR HGA
 rw [<-hFB] at CPB mB HR HGB
 clear hA hB hFA hFB gA gB
 go_enter Tryz.func50,Tryz.ntmps50
 go_wp2_with fail
 refine (CE.out _ _ _ HA.out nA).mono ?_
 rintro e w1 ⟨ea,rfl,oA,k1⟩
 go_upto_region 2 with fail
 go_cut [5] (fun lv w'=>SegsAt w' lv (edgesM A ++ edgesM B)/\Below w.heap.size w w')
 case first=>
  have oA':=hide oA
  clear oA
  go_wp2_with fail
  refine (CE.out _ _ _ (HB.out.later k1) nB).mono ?_
  rintro e w2 ⟨eb,rfl,oB,k2⟩
  have OA:=hide (own_later oA'.out k2)
  have hsB:=edges_of_own oB (by unfold maxLen;omega)
  obtain ⟨ba,bcap,rfl,b1,b2,b3⟩:=id hsB
  have SB:=hide (segs_both hsB)
  have B2:=bvia k1 k2
  have zb:=B2.size
  clear oA' oB hsB b3 k1 k2
  go_wp2_with (at_builtin;refine wpList_append_both rfl _ _ _ rfl w.heap.size 73 i0 _ 6 48 Tryz.underlying78 hi0 hz0 hz1 hz2 rfl (by omega) ea (edgesM A).length (segCells (edgesM A)) rfl OA.out ba (edgesM B).length bcap (segCells (edgesM B)) rfl (segCells_len _) SB.out (segCells_one _) (by unfold maxLen;omega) (by omega) zb ?_;intro v3 w3 o3 k3)
  go_meet
  case rel=>
   refine ⟨edges_of_own (base:=w.heap.size) (by rw [segCells_app,List.length_append];exact o3) (by simp;unfold maxLen;omega),below_kp B2 k3 B2.size (fun b h=>(OA.out.lt b h).1)⟩
 case rest=>
  clear oA k1
  obtain ⟨hE,k1⟩:=hcut
  have HE:=hide hE
  clear hE
  go_wp2_with fail
  refine (CPA.out _ (HA.out.later k1)).mono ?_
  rintro e w2 ⟨pa,rfl,oA,k2⟩
  go_upto_region 4 with fail
  go_cut [6] (fun pv w'=>RingAt w' pv (FA ++ FB)/\Below wc.heap.size wc w')
  case first=>
   have oA':=hide oA
   clear oA
   go_wp2_with fail
   refine (CPB.out _ (HB.out.later (bvia k1 k2))).mono ?_
   rintro e w3 ⟨pb,rfl,oB,k3⟩
   have OA:=hide (own_later oA'.out k3)
   have hsB:=ring_of_own oB (by unfold maxLen;omega)
   obtain ⟨ba,bcap,rfl,b1,b2,b3⟩:=id hsB
   have SB:=hide (ring_both hsB)
   have B2:=bvia k2 k3
   have zb:=B2.size
   clear oA' oB hsB b3 k2 k3
   go_wp2_with (at_builtin;refine wpList_append_both rfl _ _ _ rfl wc.heap.size 31 i1 _ 3 24 Tryz.underlying57 hi1 hy0 hy1 hy2 rfl (by omega) pa FA.length (ptCells FA) rfl OA.out ba FB.length bcap (ptCells FB) rfl (ptCells_len _) SB.out (ptCells_one _) (by unfold maxLen;omega) (by omega) zb ?_;intro v4 w4 o4 k4)
   go_meet
   case rel=>
    refine ⟨ring_of_own (base:=wc.heap.size) (by rw [ptCells_append,List.length_append];exact o4) (by rw [List.length_append];unfold maxLen;omega),below_kp B2 k4 B2.size (fun b h=>(OA.out.lt b h).1)⟩
  case rest=>
   clear oA k2
   obtain ⟨hL,k2⟩:=hcut
   have HE2:=hide (HE.out.later k2)
   have k12:=bvia k1 k2
   clear HE k1 k2
   have hEl:(edgesM A ++ edgesM B).length<=24:=by rw [List.length_append];omega
   have CS:=fun wz (h:SegsAt wz u5 (edgesM A ++ edgesM B))=>rspots_any u5 (edgesM A ++ edgesM B) wz h (fun e he=>⟨HG.out.gr e he,HG.out.ne e he⟩) (by omega)
   go_wp2_with fail
   refine (CS _ HE2.out).mono ?_
   rintro e w3 ⟨sv,rfl,hS,k3⟩
   have hSl:(rspotsM (edgesM A ++ edgesM B)).length<=1176:=rspots_len hEl
   have GS:=hide (fun s hs=>gd_nice ((rspots_spec HG.out).1.nc s hs))
   have GE:=hide (fun e he=>HG.out.gr e he)
   have GN:=hide (fun s hs=>((rspots_spec HG.out).1.nc s hs).1)
   have hE3:=HE2.out.later k3
   have hL3:=hL.later k3
   have B3:=bvia k12 k3
   have HA3:=hide (HA.out.later B3)
   have HB3:=hide (HB.out.later B3)
   obtain ⟨E,hEe⟩:∃ E,E=edgesM A ++ edgesM B:=⟨_,rfl⟩
   rw [<-hEe] at hE3 hS HR hEl hSl GS GE GN
   generalize rspotsM E=S at *
   obtain ⟨la,lcap,rfl,l1,l2,l3⟩:=hE3
   obtain ⟨sa,scap,rfl,s1,s2,s3⟩:=hS
   unfold maxLen at l2 s2
   have HLs:=hide l3
   have HSs:=hide s3
   have HL3:=hide hL3
   have z3:=B3.size
   clear l3 s3 hL3 hL k12 k3 HE2 CS HG HA HB CE CPA CPB hEe
   go_upto_block 0 with fail
   go_cut [8,9,10,11,12,13,14] (fun ov _ _ _ _ _ _ w'=>w'.ownsRow w3.heap.size 55 10 ov (rpairsM E S).length (pcCells ((rpairsM E S).map bare))/\Below w3.heap.size w3 w')
   case first=>
    go_wp2_with fail
    go_loopw [8,9,10,11,12,13,14] (fun ov iv _ _ _ _ _ w'=>∃ i:Nat,iv = .int .i64 i/\i<=E.length/\w'.ownsRow w3.heap.size 55 10 ov (wo E S i).length (pcCells ((wo E S i).map bare))/\Below w3.heap.size w3 w') (fun _ iv _ _ _ _ _ _=>E.length-(intOf iv).toNat)
    case atStart=>exact ⟨0,rfl,Nat.zero_le _,World.ownsRow_nil _ _ _ _,Below.refl _ _⟩
    case round=>
     obtain ⟨i,rfl,hi,hO,hbel⟩:=hrel
     by_cases hlt:i<E.length
     ·have HW:=hide (wo_succ E S i hlt)
      have hLn:=wo_len E S i hi
      have HLg:=hide (wo_good (E:=E) GS.out i hi)
      have ge:=GE.out _ (getD_mem hlt (zP,zP))
      obtain ⟨b,off,rfl,hb,hs⟩:=HLs.out i hlt
      have HSE:=hide (fun wz (kz:Below w3.heap.size w3 wz)=>hs.later kz hb)
      generalize E.getD i (zP,zP)=e at *
      generalize wo E S i=L at *
      have hO':=hide hO
      have hsz:=hbel.size
      clear hO hs
      obtain ⟨W1,hW1⟩:∃ W,W=wr.alloc (.cells #[.int .i64 0,.int .i64 0,.int .i64 0] 31):=⟨_,rfl⟩
      obtain ⟨pb,hpb⟩:∃ pb,pb=wr.heap.size:=⟨_,rfl⟩
      have P1:Blk W1 pb #[.int .i64 0,.int .i64 0,.int .i64 0]:=by rw [hW1,hpb];exact Blk.new wr _ _
      have B1:Below w3.heap.size w3 W1:=by rw [hW1];exact hbel.alloc hsz _
      have O1:Hid (W1.ownsRow w3.heap.size 55 10 u8 L.length (pcCells (L.map bare))):=by rw [hW1];exact hO'.out.alloc _
      have HU:Hid (∀ g,u8.ownBlock=some g->g≠pb):=by rw [hpb];exact fun g hg=>by have:=(hO'.out.lt g hg).2;omega
      have hp3:w3.heap.size<=pb:=by rw [hpb];exact hsz
      go_wp2_with fail
      rw [<-hW1,<-hpb]
      clear hW1 hpb hO' hbel hsz
      go_loopw [8,11,12,13,14] (fun ov kv _ _ _ w'=>∃ k:Nat,kv = .int .i64 k/\k<=S.length/\w'.ownsRow w3.heap.size 55 10 ov (wk e S L k).1.length (pcCells ((wk e S L k).1.map bare))/\Hid (∀ g,ov.ownBlock=some g->g≠pb)/\Blk w' pb #[.int .i64 (wk e S L k).2.x,.int .i64 (wk e S L k).2.y,.int .i64 (wk e S L k).2.d]/\Below w3.heap.size w3 w') (fun _ kv _ _ _ _=>S.length-(intOf kv).toNat)
      case atStart=>exact ⟨0,rfl,Nat.zero_le _,O1.out,HU,P1,B1⟩
      case round=>
       clear O1 HU P1 B1
       obtain ⟨k,rfl,hk,hO,HU,hP,hbel⟩:=hrel
       by_cases hkt:k<S.length
       ·have HK:=hide (wk_succ e S L k hkt)
        have hKl:=wk_len e S L k hk
        have HKg:=hide (wk_good (e:=e) GS.out HLg.out k hk)
        have gs:=GS.out _ (getD_mem hkt zP)
        obtain ⟨b2,off2,rfl,hb2,hs2⟩:=HSs.out k hkt
        have HSP:=hide (fun wz (kz:Below w3.heap.size w3 wz)=>hs2.later kz hb2)
        obtain ⟨sx,sy,sd⟩:=hs2.later hbel hb2
        obtain ⟨e0,e1,e2,e3,e4,e5⟩:=HSE.out _ hbel
        generalize S.getD k zP=s at *
        generalize wk e S L k=st at *
        have C:=fun wz=>ron_any s e.1 e.2 wz gs ge.1.gd ge.2.gd
        have hO':=hide hO
        have hP':=hide hP
        have hsz:=hbel.size
        have hk0:(0:Int)<=(k:Int):=Int.natCast_nonneg _
        have hk1:(k:Int)<(S.length:Int):=by omega
        have hi0':(0:Int)<=(i:Int):=Int.natCast_nonneg _
        have hi1':(i:Int)<(E.length:Int):=by omega
        clear hO hP hs2
        go_upto_region 14 with fail
        go_cut [12] (fun c w'=>c = .bool (onB s e.1 e.2)/\Below wr.heap.size wr w')
        case first=>
         clear HK HKg hO' hP' HU HSE HLg HW HSP
         go_region_held3 (fun w'=>w'.cell? ⟨b2,off2+k*3,none⟩=some (.int .i64 s.x)/\w'.cell? ⟨b2,off2+k*3+1,none⟩=some (.int .i64 s.y)/\w'.cell? ⟨b2,off2+k*3+2,none⟩=some (.int .i64 s.d)/\w'.cell? ⟨b,off+i*6,none⟩=some (.int .i64 e.1.x)/\w'.cell? ⟨b,off+i*6+1,none⟩=some (.int .i64 e.1.y)/\w'.cell? ⟨b,off+i*6+2,none⟩=some (.int .i64 e.1.d)/\w'.cell? ⟨b,off+i*6+3,none⟩=some (.int .i64 e.2.x)/\w'.cell? ⟨b,off+i*6+4,none⟩=some (.int .i64 e.2.y)/\w'.cell? ⟨b,off+i*6+5,none⟩=some (.int .i64 e.2.d))
          (first
           | go_keep
           |(go_split_ands
             refine ⟨?_,?_,?_,?_,?_,?_,?_,?_,?_⟩
             ·(
              rw [k6.cell (p:=⟨b2,off2+k*3,none⟩) (by simp;omega)];assumption)
             ·(
              rw [k6.cell (p:=⟨b2,off2+k*3+1,none⟩) (by simp;omega)];assumption)
             ·(
              rw [k6.cell (p:=⟨b2,off2+k*3+2,none⟩) (by simp;omega)];assumption)
             ·(
              rw [k6.cell (p:=⟨b,off+i*6,none⟩) (by simp;omega)];assumption)
             ·(
              rw [k6.cell (p:=⟨b,off+i*6+1,none⟩) (by simp;omega)];assumption)
             ·(
              rw [k6.cell (p:=⟨b,off+i*6+2,none⟩) (by simp;omega)];assumption)
             ·(
              rw [k6.cell (p:=⟨b,off+i*6+3,none⟩) (by simp;omega)];assumption)
             ·(
              rw [k6.cell (p:=⟨b,off+i*6+4,none⟩) (by simp;omega)];assumption)
             ·(
              rw [k6.cell (p:=⟨b,off+i*6+5,none⟩) (by simp;omega)];assumption)))
          ((
           go_at_call 82;refine (C _).mono ?_;rintro e' w6 ⟨rfl,k6⟩))
         all_goals
          go_wp2
          go_meet
          case rel=>exact ⟨rfl,bvia (Below.refl _ _).drew k6⟩
        case rest=>
         obtain ⟨rfl,k6⟩:=hcut
         have O2:=hide (own_later hO'.out k6)
         have P2:=hP'.out.call k6
         have B2:=bvia hbel k6
         have hs2':=HSP.out _ B2
         clear sx sy sd e0 e1 e2 e3 e4 e5 hO' hP' hbel hsz k6 C
         cases c:onB s e.1 e.2
         ·have HN:Hid (wk e S L (k+1)=st):=by rw [HK.out];unfold rwalkM;rw [c];exact hide rfl
          go_wp2
          go_roundw
          case rel=>exact ⟨k+1,by go_num,by omega,by rw [HN.out];exact O2.out,HU,by rw [HN.out];exact P2,B2⟩
          case measure=>simp [intOf];omega
         ·obtain ⟨L1,p⟩:=st
          obtain ⟨sx,sy,sd⟩:=hs2'
          obtain ⟨cp,fp,zp⟩:=id P2
          have q0:=cp 0
          have q1:=cp 1
          have q2:=cp 2
          simp at q0 q1 q2
          clear cp
          rename World=>wd
          have C:∀ wz,PcsAt wz u8 (L1.map bare)->Calls Tryz.prog 89 #[u8,pcV p s false false false false] wz fun e w'=>e = .returned (.bool (knownB L1 (p,s)))/\Below wz.heap.size wz w':=fun wz h=>by
           have:=known_any u8 (L1.map bare) (bare (p,s)) wz h
           rw [bare_map,bare_pair] at this
           exact this
          have HLm:L1.length<=1000000:=by
           have h1:L1.length<=L.length+k:=hKl
           have h2:i*S.length<=24*1176:=Nat.mul_le_mul (by omega) hSl
           omega
          go_upto_region 16 with fail
          go_cut [13] (fun xv w'=>xv = .pointer (some ⟨wd.heap.size,0,none⟩)/\Blk w' wd.heap.size #[.int .i64 p.x,.int .i64 p.y,.int .i64 p.d,.int .i64 s.x,.int .i64 s.y,.int .i64 s.d,.bool false,.bool false,.bool false,.bool false]/\Below wd.heap.size wd w')
          case first=>
           clear HK HKg O2 HU HSE HLg HW HSP C
           go_region_held3 (fun w'=>w'.cell? ⟨b2,off2+k*3,none⟩=some (.int .i64 s.x)/\w'.cell? ⟨b2,off2+k*3+1,none⟩=some (.int .i64 s.y)/\w'.cell? ⟨b2,off2+k*3+2,none⟩=some (.int .i64 s.d)/\w'.cell? ⟨pb,0,none⟩=some (.int .i64 p.x)/\w'.cell? ⟨pb,1,none⟩=some (.int .i64 p.y)/\w'.cell? ⟨pb,2,none⟩=some (.int .i64 p.d))
            (first | go_keep | trivial)
            (fail)
           go_wp2
           go_meet
           case rel=>exact ⟨rfl,(Blk.new _ _ _).drew,((Below.refl _ _).alloc (Nat.le_refl _) _).drew⟩
          case rest=>
           obtain ⟨rfl,X3,k7⟩:=hcut
           have O3:=own_later O2.out k7
           have P3:=P2.call k7
           have B3:=bvia B2 k7
           obtain ⟨sx',sy',sd'⟩:=HSP.out _ B3
           clear O2 P2 B2 k7 sx sy sd q0 q1 q2 fp
           generalize wd.heap.size=xb at X3 zp ⊢
           obtain ⟨W4,hW4⟩:∃ W,W=((wc.setCell ⟨pb,0,none⟩ (.int .i64 s.x)).setCell ⟨pb,1,none⟩ (.int .i64 s.y)).setCell ⟨pb,2,none⟩ (.int .i64 s.d):=⟨_,rfl⟩
           have P4:Blk W4 pb #[.int .i64 s.x,.int .i64 s.y,.int .i64 s.d]:=by rw [hW4];exact P3.put3
           have X4:Blk W4 xb #[.int .i64 p.x,.int .i64 p.y,.int .i64 p.d,.int .i64 s.x,.int .i64 s.y,.int .i64 s.d,.bool false,.bool false,.bool false,.bool false]:=by rw [hW4];exact X3.off3 (by omega) _ _ _
           have K4:Kp (fun b=>b=pb) wc W4:=by rw [hW4];exact Kp.setCell (p:=⟨pb,2,none⟩) (Kp.setCell (p:=⟨pb,1,none⟩) (Kp.setCell (p:=⟨pb,0,none⟩) (Kp.refl (fun b=>b=pb) wc) (fun _=>rfl) _) (fun _=>rfl) _) (fun _=>rfl) _
           have O4:=hide (Kp.own O3 K4 (fun b hb=>HU.out b hb))
           have B4:=below_kp B3 K4 B3.size (fun b h=>by omega)
           obtain ⟨cp3,fp3,zp3⟩:=id P3
           clear X3 K4 O3 B3 P3
           go_upto_region 18 with fail
           rw [<-hW4]
           clear hW4 sx' sy' sd' cp3 fp3 zp3
           have H18:=hide (pcs_of_own (w:=W4) (base:=w3.heap.size) (v:=u8) (l:=L1.map bare) (by rw [List.length_map];exact O4.out) (by rw [List.length_map];unfold maxLen;omega))
           have C':=fun wz (kz:Below W4.heap.size W4 wz)=>C wz (H18.out.later kz)
           obtain ⟨cx,fx,zx⟩:=id X4
           have x0:=cx 0
           have x1:=cx 1
           have x2:=cx 2
           have x3:=cx 3
           have x4:=cx 4
           have x5:=cx 5
           have x6:=cx 6
           have x7:=cx 7
           have x8:=cx 8
           have x9:=cx 9
           simp at x0 x1 x2 x3 x4 x5 x6 x7 x8 x9
           have X4':=hide X4
           have P4':=hide P4
           have B4':=hide B4
           clear cx X4 P4 B4 C
           go_cut [14] (fun c w'=>c = .bool (knownB L1 (p,s))/\Below W4.heap.size W4 w')
           case first=>
            clear HK HKg HU HSE HLg HW HSP O4 X4' P4' B4' H18
            go_wp2_with fail
            refine (C' _ (by first | exact Below.refl _ _ | exact (Below.refl _ _).drew | exact below_drewN (Below.refl _ _) _)).mono ?_
            rintro e' w6 ⟨rfl,k6⟩
            go_wp2
            go_meet
            case rel=>exact ⟨rfl,bvia (by first | exact Below.refl _ _ | exact (Below.refl _ _).drew | exact below_drewN (Below.refl _ _) _) k6⟩
           case rest=>
            obtain ⟨rfl,k8⟩:=hcut
            have O5:=hide (own_later O4.out k8)
            have P5:=P4'.out.call k8
            have X5:=X4'.out.call k8
            have B5:=bvia B4'.out k8
            clear O4 P4' X4' B4' H18 C' x0 x1 x2 x3 x4 x5 x6 x7 x8 x9 fx zx k8
            obtain ⟨cx,fx,zx⟩:=id X5
            have x0:=cx 0
            have x1:=cx 1
            have x2:=cx 2
            have x3:=cx 3
            have x4:=cx 4
            have x5:=cx 5
            have x6:=cx 6
            have x7:=cx 7
            have x8:=cx 8
            have x9:=cx 9
            simp at x0 x1 x2 x3 x4 x5 x6 x7 x8 x9
            have P5':=hide P5
            have B5':=hide B5
            clear cx X5 P5 B5
            by_cases z:p.d=0
            ·have HN:Hid (wk e S L (k+1)=(L1,s)):=by
              rw [HK.out];unfold rwalkM;rw [c,if_pos rfl,if_pos (.inl z)];exact hide rfl
             clear HK HKg HSE HLg HW HSP
             go_wp2
             go_roundw
             case rel=>exact ⟨k+1,by go_num,by omega,by rw [HN.out];exact O5.out,HU,by rw [HN.out];exact P5'.out,B5'.out⟩
             case measure=>simp [intOf];omega
            ·cases kn:knownB L1 (p,s)
             ·have HN:Hid (wk e S L (k+1)=(sortM L1 (p,s),s)):=by
               rw [HK.out];unfold rwalkM;rw [c,if_pos rfl,if_neg (by simp [z,kn])];exact hide rfl
              have gp:Gd p:=HKg.out.2.resolve_left z
              have gl:∀ y∈L1.map bare,Gd y.p/\Gd y.q:=fun y hy=>by
               obtain ⟨x,hx,rfl⟩:=List.mem_map.1 hy
               exact HKg.out.1 x hx
              have H18:=hide (pcs_of_own (w:=wc) (base:=w3.heap.size) (v:=u8) (l:=L1.map bare) (by rw [List.length_map];exact O5.out) (by rw [List.length_map];unfold maxLen;omega))
              have zc:=B5'.out.size
              have C2:Hid (∀ wz,Below wc.heap.size wc wz->Calls Tryz.prog 90 #[u8,pcV p s false false false false] wz fun e w'=>∃ v',e = .returned v'/\w'.ownsRow w3.heap.size 55 10 v' (sortM L1 (p,s)).length (pcCells ((sortM L1 (p,s)).map bare))/\Hid (∀ g,v'.ownBlock=some g->g≠pb)/\Below wz.heap.size wz w'):=hide fun wz kz=>by
               have hs:=sorted_any u8 (L1.map bare) (bare (p,s)) wz (H18.out.later kz) gl ⟨gp,gs⟩ (by rw [List.length_map];exact HLm)
               rw [bare_sort,List.length_map] at hs
               refine hs.mono ?_
               rintro e w' ⟨v',rfl,o,kk⟩
               have:=kz.size
               exact ⟨v',rfl,own_mono o (by omega),hide fun g hg e=>by have:=(o.lt g hg).1;have:=P5'.out.lt;omega,kk⟩
              clear HK HKg HSE HLg HW HSP gl H18 O5 HU
              go_wp2_with fail
              refine (C2.out _ (by first | exact Below.refl _ _ | exact (Below.refl _ _).drew | exact below_drewN (Below.refl _ _) _)).mono ?_
              rintro e' w6 ⟨v',rfl,o6,HU6,k6⟩
              have O6:=hide o6
              have P6:=hide (P5'.out.call k6)
              have B6:=hide (bvia B5'.out k6)
              clear o6 k6 P5' B5' C2 x0 x1 x2 x3 x4 x5 x6 x7 x8 x9 fx
              go_wp2
              go_roundw
              case rel=>exact ⟨k+1,by go_num,by omega,by rw [HN.out];exact O6.out,HU6,by rw [HN.out];exact P6.out,B6.out⟩
              case measure=>simp [intOf];omega
             ·have HN:Hid (wk e S L (k+1)=(L1,s)):=by
               rw [HK.out];unfold rwalkM;rw [c,if_pos rfl,if_pos (.inr kn)];exact hide rfl
              clear HK HKg HSE HLg HW HSP
              go_wp2
              go_roundw
              case rel=>exact ⟨k+1,by go_num,by omega,by rw [HN.out];exact O5.out,HU,by rw [HN.out];exact P5'.out,B5'.out⟩
              case measure=>simp [intOf];omega
       ·have ek:k=S.length:=by omega
        subst ek
        have HO:Hid (wr.ownsRow w3.heap.size 55 10 u8 (wo E S (i+1)).length (pcCells ((wo E S (i+1)).map bare))):=by
         rw [HW.out];exact hO
        clear hO
        go_wp2
        go_roundw
        case rel=>exact ⟨i+1,by go_num,by omega,HO.out,hbel⟩
        case measure=>simp [intOf];omega
     ·have ei:i=E.length:=by omega
      subst ei
      have HO:Hid (wr.ownsRow w3.heap.size 55 10 u8 (rpairsM E S).length (pcCells ((rpairsM E S).map bare))):=by
       rw [<-wo_end E S];exact hO
      clear hO
      go_wp2
      go_meet
      case rel=>exact ⟨HO.out,hbel⟩
   case rest=>
    obtain ⟨hO,hbel⟩:=hcut
    have HGq:=hide (rpairs_good (E:=E) (S:=S) GN.out)
    have hQl:(rpairsM E S).length<=1000000:=by
     have h1:=wo_len E S E.length (Nat.le_refl _)
     have h2:E.length*S.length<=24*1176:=Nat.mul_le_mul hEl hSl
     rw [wo_end] at h1;omega
    have HM0:=hide (mix_zero (rpairsM E S) (rpcOf (edgesM A) (edgesM B) (FA ++ FB)))
    have HM1:=hide (mix_end (rpairsM E S) (rpcOf (edgesM A) (edgesM B) (FA ++ FB)))
    have HMl:=hide (mix_len (rpairsM E S) (rpcOf (edgesM A) (edgesM B) (FA ++ FB)))
    have HMa:=hide (mix_at (rpairsM E S) (rpcOf (edgesM A) (edgesM B) (FA ++ FB)))
    have HMs:=hide (mix_set (rpairsM E S) (rpcOf (edgesM A) (edgesM B) (FA ++ FB)))
    have CSA:=hide (fun p q f1 f2 f3 f4 wz (kz:Below w3.heap.size w3 wz) gp gq=>rsides_any p q f1 f2 f3 f4 va A u6 (FA ++ FB) wz (HA3.out.later kz) (HL3.out.later kz) gp gq sA.gr (fun v hv=>by
     rcases List.mem_append.1 hv with h | h
     ·exact HGA.out v h
     ·exact HGB.out v h) (by omega) (by rw [List.length_append];omega))
    have CSB:=hide (fun p q f1 f2 f3 f4 wz (kz:Below w3.heap.size w3 wz) gp gq=>rsides_any p q f1 f2 f3 f4 vb B u6 (FA ++ FB) wz (HB3.out.later kz) (HL3.out.later kz) gp gq sB.gr (fun v hv=>by
     rcases List.mem_append.1 hv with h | h
     ·exact HGA.out v h
     ·exact HGB.out v h) (by omega) (by rw [List.length_append];omega))
    have HF:=hide (show ∀ x:Pt×Pt,rpcOf (edgesM A) (edgesM B) (FA ++ FB) x=⟨x.1,x.2,(rsidesM x.1 x.2 (edgesM A) (FA ++ FB)).1,(rsidesM x.1 x.2 (edgesM A) (FA ++ FB)).2,(rsidesM x.1 x.2 (edgesM B) (FA ++ FB)).1,(rsidesM x.1 x.2 (edgesM B) (FA ++ FB)).2⟩ from fun _=>rfl)
    clear HGA HGB GE GN GS HLs HSs HA3 HB3 HL3 l1 s1 l2 s2
    generalize rpairsM E S=Q at *
    generalize rpcOf (edgesM A) (edgesM B) (FA ++ FB)=f at *
    obtain ⟨a,cap,rfl,hag,hpos,_⟩:=own_form hO
    have O0:Hid (wc.ownsRow w3.heap.size 55 10 (.slice a Q.length cap) Q.length (pcCells (mixM Q f 0))):=by rw [HM0.out];exact hide hO
    have BB:=hide hbel
    clear hO hbel HM0
    go_wp2_with fail
    go_loopw [15,16,17] (fun iv _ _ w'=>∃ i:Nat,iv = .int .i64 i/\i<=Q.length/\w'.ownsRow w3.heap.size 55 10 (.slice a Q.length cap) Q.length (pcCells (mixM Q f i))/\Below w3.heap.size w3 w') (fun iv _ _ _=>Q.length-(intOf iv).toNat)
    case atStart=>exact ⟨0,rfl,Nat.zero_le _,O0.out,BB.out⟩
    case round=>
     clear O0 BB
     obtain ⟨i,rfl,hi,hO,hbel⟩:=hrel
     by_cases hlt:i<Q.length
     ·obtain ⟨g,hg⟩:=hpos (by omega)
      obtain rfl:=hag g hg
      have HMa':=HMa.out i hlt
      have HMs':=HMs.out i hlt
      have HMl':=HMl.out i
      have gq:=HGq.out _ (getD_mem hlt (zP,zP))
      have HFx:=HF.out (Q.getD i (zP,zP))
      generalize Q.getD i (zP,zP)=x at *
      generalize mixM Q f i=M at *
      have hj:i<M.length:=by omega
      have cell:∀ t,t<10->wr.cell? ⟨g,i*10+t,none⟩=(pcCell (bare x))[t]?:=fun t ht=>by
       rw [own_cell hO g rfl (i*10+t) (by omega),pcCells_at M i t hj ht,HMa']
      have c0:=cell 0 (by decide)
      have c1:=cell 1 (by decide)
      have c2:=cell 2 (by decide)
      have c3:=cell 3 (by decide)
      have c4:=cell 4 (by decide)
      have c5:=cell 5 (by decide)
      have c6:=cell 6 (by decide)
      have c7:=cell 7 (by decide)
      have c8:=cell 8 (by decide)
      have c9:=cell 9 (by decide)
      simp only [pcCell,bare,Nat.add_zero,List.getElem?_cons_zero,List.getElem?_cons_succ] at c0 c1 c2 c3 c4 c5 c6 c7 c8 c9
      have hO':=hide hO
      have hB':=hide hbel
      have HMA:=hide HMa'
      have HMS:=hide HMs'
      have HFX:=hide HFx
      have hi0':(0:Int)<=(i:Int):=Int.natCast_nonneg _
      have hi1':(i:Int)<(Q.length:Int):=by omega
      have C1:=fun wz kz=>CSA.out x.1 x.2 false false false false wz kz gq.1 gq.2
      obtain ⟨la,hla⟩:∃ l,l=(rsidesM x.1 x.2 (edgesM A) (FA ++ FB)).1:=⟨_,rfl⟩
      obtain ⟨ra,hra⟩:∃ l,l=(rsidesM x.1 x.2 (edgesM A) (FA ++ FB)).2:=⟨_,rfl⟩
      obtain ⟨lb,hlb⟩:∃ l,l=(rsidesM x.1 x.2 (edgesM B) (FA ++ FB)).1:=⟨_,rfl⟩
      obtain ⟨rb,hrb⟩:∃ l,l=(rsidesM x.1 x.2 (edgesM B) (FA ++ FB)).2:=⟨_,rfl⟩
      have C2:=hide (fun wz kz=>CSB.out x.1 x.2 la ra false false wz kz gq.1 gq.2)
      rw [<-hla,<-hra,<-hlb,<-hrb] at HFX
      rw [<-hla,<-hra] at C1
      rw [<-hlb,<-hrb] at C2
      clear hO hbel cell HMa' HMs' HFx HMa HMs HF CSA CSB hla hra hlb hrb HGq
      go_upto_region 24 with fail
      go_cut [16,17] (fun lv rv w'=>lv = .bool la/\rv = .bool ra/\Below wr.heap.size wr w')
      case first=>
       go_wp2_with fail
       refine (C1 _ hB'.out).mono ?_
       rintro e' w6 ⟨rfl,k6⟩
       go_wp2
       go_meet
       case rel=>exact ⟨rfl,rfl,k6⟩
      case rest=>
       obtain ⟨rfl,rfl,k6⟩:=hcut
       have O2:=own_later hO'.out k6
       have B2:=hide (bvia hB'.out k6)
       clear hO' hB' c0 c1 c2 c3 c4 c5 c6 c7 c8 c9 k6
       have cell:∀ t,t<10->wc.cell? ⟨g,i*10+t,none⟩=(pcCell (bare x))[t]?:=fun t ht=>by
        rw [own_cell O2 g rfl (i*10+t) (by omega),pcCells_at M i t hj ht,HMA.out]
       have c6:=cell 6 (by decide)
       have c7:=cell 7 (by decide)
       simp only [pcCell,bare,Nat.add_zero,List.getElem?_cons_zero,List.getElem?_cons_succ] at c6 c7
       have hl:=(O2.lt g rfl).2
       have hf:∀ o,wc.frozen? ⟨g,o,none⟩=false:=fun o=>own_free O2 g rfl o
       have O2':=hide O2
       clear cell O2
       obtain ⟨W4,hW4⟩:∃ W,W=(wc.setCell ⟨g,i*10+6,none⟩ (.bool la)).setCell ⟨g,i*10+7,none⟩ (.bool ra):=⟨_,rfl⟩
       obtain ⟨T1,T2⟩:=tell_both M i x la ra lb rb hj HMA.out
       have O4:W4.ownsRow w3.heap.size 55 10 (.slice (some ⟨g,0,none⟩) Q.length cap) Q.length (pcCells (M.set i { M.getD i zPc with la:=la,ra:=ra })):=by
        rw [hW4,<-pcCells_setA M i la ra hj]
        exact own_set (own_set O2'.out g rfl (i*10+6) (.bool la)) g rfl (i*10+7) (.bool ra)
       have hg3:w3.heap.size<=g:=(O2'.out.lt g rfl).1
       have B4:Below w3.heap.size w3 W4:=by
        rw [hW4]
        exact below_kp B2.out (Kp.setCell (p:=⟨g,i*10+7,none⟩) (Kp.setCell (p:=⟨g,i*10+6,none⟩) (Kp.refl (fun b=>b=g) wc) (fun _=>rfl) _) (fun _=>rfl) _) B2.out.size (fun b h=>by omega)
       have hj2:i<(M.set i { M.getD i zPc with la:=la,ra:=ra }).length:=by rw [List.length_set];exact hj
       go_upto_region 27 with fail
       rw [<-hW4]
       clear hW4 O2' B2 c6 c7 hf C1
       generalize (M.set i { M.getD i zPc with la:=la,ra:=ra })=M2 at *
       have cell:∀ t,t<10->W4.cell? ⟨g,i*10+t,none⟩=(pcCell ⟨x.1,x.2,la,ra,false,false⟩)[t]?:=fun t ht=>by
        rw [own_cell O4 g rfl (i*10+t) (by omega),pcCells_at M2 i t hj2 ht,T1]
       have c0:=cell 0 (by decide)
       have c1:=cell 1 (by decide)
       have c2:=cell 2 (by decide)
       have c3:=cell 3 (by decide)
       have c4:=cell 4 (by decide)
       have c5:=cell 5 (by decide)
       have c6:=cell 6 (by decide)
       have c7:=cell 7 (by decide)
       have c8:=cell 8 (by decide)
       have c9:=cell 9 (by decide)
       simp only [pcCell,Nat.add_zero,List.getElem?_cons_zero,List.getElem?_cons_succ] at c0 c1 c2 c3 c4 c5 c6 c7 c8 c9
       have hT1:=hide T1
       have hT2:=hide T2
       have O4':=hide O4
       have B4':=hide B4
       clear cell T1 T2 O4 B4
       go_wp2_with fail
       refine (C2.out _ B4'.out).mono ?_
       rintro e' w7 ⟨rfl,k7⟩
       have O7:=own_later O4'.out k7
       have B7:=bvia B4'.out k7
       have cell:∀ t,t<10->w7.cell? ⟨g,i*10+t,none⟩=(pcCell ⟨x.1,x.2,la,ra,false,false⟩)[t]?:=fun t ht=>by
        rw [own_cell O7 g rfl (i*10+t) (by omega),pcCells_at M2 i t hj2 ht,hT1.out]
       have d8:=cell 8 (by decide)
       have d9:=cell 9 (by decide)
       simp only [pcCell,Nat.add_zero,List.getElem?_cons_zero,List.getElem?_cons_succ] at d8 d9
       have hl7:=(O7.lt g rfl).2
       have hf7:∀ o,w7.frozen? ⟨g,o,none⟩=false:=fun o=>own_free O7 g rfl o
       have O8:Hid (((w7.setCell ⟨g,i*10+8,none⟩ (.bool lb)).setCell ⟨g,i*10+9,none⟩ (.bool rb)).ownsRow w3.heap.size 55 10 (.slice (some ⟨g,0,none⟩) Q.length cap) Q.length (pcCells (mixM Q f (i+1)))):=by
        refine hide ?_
        rw [<-HMS.out,HFX.out,<-hT2.out,<-pcCells_setB M2 i lb rb hj2]
        exact own_set (own_set O7 g rfl (i*10+8) (.bool lb)) g rfl (i*10+9) (.bool rb)
       have B8:Hid (Below w3.heap.size w3 ((w7.setCell ⟨g,i*10+8,none⟩ (.bool lb)).setCell ⟨g,i*10+9,none⟩ (.bool rb))):=
        hide (below_kp B7 (Kp.setCell (p:=⟨g,i*10+9,none⟩) (Kp.setCell (p:=⟨g,i*10+8,none⟩) (Kp.refl (fun b=>b=g) w7) (fun _=>rfl) _) (fun _=>rfl) _) B7.size (fun b h=>by omega))
       clear c0 c1 c2 c3 c4 c5 c6 c7 c8 c9 cell O7 B7 O4' B4' k7 C2 hT1 hT2 HMS HFX HMA
       go_wp2
       go_roundw
       case rel=>exact ⟨i+1,by go_num,by omega,O8.out,B8.out⟩
       case measure=>simp [intOf];omega
     ·have ei:i=Q.length:=by omega
      subst ei
      have HO:Hid (wr.ownsRow w.heap.size 55 10 (.slice a Q.length cap) RES.length (pcCells RES)):=by
       rw [HR.out,List.length_map,<-HM1.out];exact hide (own_mono hO z3)
      have HB:=hide (bvia B3 hbel)
      clear hO hbel HMa HMs HMl HF CSA CSB HGq HM1 HR
      go_wp2
      go_ret
      exact ⟨_,rfl,HO.out,HB.out⟩
theorem flat_few:∀ {P:List (List Pt)},P.flatten.length<=(edgesM P).length
 | []=>by simp
 | r::P=>by
  have ih:=flat_few (P:=P)
  have e:edgesM (r::P)=ringEdges r ++ edgesM P:=rfl
  have l:(ringEdges r).length=r.length:=by unfold ringEdges;simp
  rw [e,List.length_append,List.flatten_cons,List.length_append,l]
  omega
set_option maxHeartbeats 1000000 in
theorem rPieces_any (va vb:Value)(A B:List (List Pt))(w:World)(hA:PolyAt w va A)(hB:PolyAt w vb B)(sA:∀ i,i<A.length->(A.getD i []).length<=1048576)(sB:∀ i,i<B.length->(B.getD i []).length<=1048576) :
  Calls Tryz.prog 26 #[va,vb] w fun e w'=>∃ v',e = .returned (.tuple #[v',.int .i64 (bothM A B)])/\w'.ownsRow w.heap.size 55 10 v' (pcsM A B).length (pcCells (pcsM A B))/\Below w.heap.size w w':=by
 have CA:=hide (fun wz h=>rCheck_any va A wz h sA)
 have CB:=hide (fun wz h=>rCheck_any vb B wz h sB)
 clear sA sB
 by_cases h1:(checkM A).1=0
 ·have eb:bothM A B=(checkM B).1:=if_neg (by simpa using h1)
  by_cases h2:(checkM B).1=0
  ·have H:Hid (pcsM A B=rpiecesM A B):=by
    rw [pieces_eq (sound_of h1) (sound_of h2)]
    exact if_neg (by rw [eb,h2];simp)
   have C:=hide (fun wz (k1:PolyAt wz va A) (k2:PolyAt wz vb B)=>rpieces_any va vb A B wz k1 k2 (sound_of h1) (sound_of h2) (check_few h1) (check_few h2) (Nat.le_trans flat_few (check_few h1)) (Nat.le_trans flat_few (check_few h2)))
   rw [eb,h2]
   clear eb
   go_enter Tryz.func26,Tryz.ntmps26
   go_wp2_with fail
   refine (CA.out _ hA).mono ?_
   rintro e w1 ⟨rfl,k1⟩
   rw [h1]
   go_wp2_with fail
   refine (CB.out _ (hB.later k1)).mono ?_
   rintro e w2 ⟨rfl,k2⟩
   rw [h2]
   have k12:=bvia k1 k2
   go_wp2_with fail
   refine (C.out _ (hA.later k12) (hB.later k12)).mono ?_
   rintro e w3 ⟨v',rfl,o,k3⟩
   go_wp2
   go_ret2
   exact ⟨v',rfl,by rw [H.out];exact own_mono o k12.size,bvia k12 k3⟩
  ·have H:Hid (pcsM A B=[]):=if_pos (by rw [eb];exact h2)
   have h':((checkM B).1 != 0)=true:=by simpa using h2
   rw [eb]
   clear eb
   go_enter Tryz.func26,Tryz.ntmps26
   go_wp2_with fail
   refine (CA.out _ hA).mono ?_
   rintro e w1 ⟨rfl,k1⟩
   rw [h1]
   go_wp2_with fail
   refine (CB.out _ (hB.later k1)).mono ?_
   rintro e w2 ⟨rfl,k2⟩
   go_wp2
   go_ret2
   exact ⟨_,rfl,by rw [H.out];exact World.ownsRow_nil _ _ _ _,bvia k1 k2⟩
 ·have eb:bothM A B=(checkM A).1:=if_pos h1
  have H:Hid (pcsM A B=[]):=if_pos (by rw [eb];exact h1)
  have h':((checkM A).1 != 0)=true:=by simpa using h1
  rw [eb]
  clear eb
  go_enter Tryz.func26,Tryz.ntmps26
  go_wp2_with fail
  refine (CA.out _ hA).mono ?_
  rintro e w1 ⟨rfl,k1⟩
  go_wp2
  go_ret2
  exact ⟨_,rfl,by rw [H.out];exact World.ownsRow_nil _ _ _ _,k1⟩
end Go.Proofs.YtnkcbephceollabGreat
