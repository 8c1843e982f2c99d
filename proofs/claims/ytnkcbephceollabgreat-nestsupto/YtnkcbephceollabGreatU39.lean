import Derived.Test.YtnkcbephceollabGreatU38
namespace Go.Proofs.YtnkcbephceollabGreat
open Go.RowKit
set_option linter.unusedSimpArgs false
set_option linter.unusedVariables false
set_option maxRecDepth 100000 in
set_option maxHeartbeats 8000000 in
theorem Rings_any (op:Int)(v:Value)(l:List Pc)(w:World)(hl:PcsAt w v l)(hn:l.length<=100000)(hg:∀ x∈l,Gd x.p/\Gd x.q) :
  Calls Tryz.prog 53 #[.int .i64 op,v] w fun e w'=>∃ v' vs,e = .returned v'/\OwnR w' w.heap.size v' (ringsM (bordM op l)) vs/\Below w.heap.size w w':=by
 obtain ⟨i0,hi0,hz0,hz1,hz2⟩:=info_parts infoPoint
 have hLl:=bord_len op l
 have hG:GdE (bordM op l):=fun j hj=>by
  obtain ⟨x,hx,h⟩:=bord_mem (getD_mem hj (zP,zP))
  rcases h with h | h
  ·rw [h];exact hg x hx
  ·rw [h];exact (hg x hx).symm
 have HG:=hide hG
 have C1:=hide (bordersOf_any op v l w hl (by omega))
 clear hl hg hG
 generalize bordM op l=L at *
 have HRM:=hide (show ringsM L=(ringsN L L.length).1 from rfl)
 have HR0:=hide (show ringsN L 0=([],List.replicate L.length false) from rfl)
 have HRS:=hide (fun i=>show ringsN L (i+1)=(if (walkM L (nextsM L) (L.length+1) (ringsN L i).2 i).1.length > 0 then insL (ringsN L i).1 (leastL (walkM L (nextsM L) (L.length+1) (ringsN L i).2 i).1 (walkM L (nextsM L) (L.length+1) (ringsN L i).2 i).1.length) else (ringsN L i).1,(walkM L (nextsM L) (L.length+1) (ringsN L i).2 i).2) from rfl)
 have HRG:=hide (rings_good HG.out)
 have HRL:=hide (rings_len L)
 have HRT:=hide (rings_tlen L)
 have HNL:=hide (nexts_lt L)
 have hNl:=nexts_len L
 have HWG:=hide (walk_good HG.out (nextsM L))
 go_enter Tryz.func53,Tryz.ntmps53
 go_wp2_with fail
 refine C1.out.mono ?_
 rintro e w1 ⟨bv,rfl,o1,k1⟩
 have S1:=segs_of_own o1 (by unfold maxLen;omega)
 have C2:=hide (followers_any bv L w1 S1 HG.out (by omega))
 obtain ⟨ba,bcap,rfl,b1,b2,b3⟩:=id S1
 unfold maxLen at b2
 have HB3:=hide b3
 clear S1 C1 o1 b3
 go_wp2_with fail
 refine C2.out.mono ?_
 rintro e w2 ⟨nv,rfl,o2,k2⟩
 have hmk:=mk_bools L.length (by omega)
 generalize nextsM L=N at *
 obtain ⟨na,ncap,rfl,hag,hpos,hmx⟩:=own_form o2
 unfold maxLen at hmx
 obtain ⟨W3,hW3⟩:∃ W,W=w2.alloc (.cells (madeCells #[.bool false] L.length) 4):=⟨_,rfl⟩
 obtain ⟨tb,htb⟩:∃ b,b=w2.heap.size:=⟨_,rfl⟩
 have z3:W3.heap.size=tb+1:=by rw [hW3,htb];simp
 have T3:Hid (Blk W3 tb (boolCells (List.replicate L.length false))):=by rw [hW3,htb,<-bools_made];exact hide (Blk.new w2 _ _)
 have K12:=bvia k1 k2
 have B3:Hid (Below w.heap.size w W3):=by rw [hW3];exact hide (K12.alloc K12.size _)
 have zw:=K12.size
 have hz2':=k2.size
 have htw:w.heap.size<=tb:=by omega
 have HSeg:Hid (∀ wz,Kp (fun b=>b=tb) W3 wz->∀ j,j<L.length->∃ b off,ba=some ⟨b,off,none⟩/\b<W3.heap.size/\SegAt wz b (off+j*6) (edg L j)):=by
  refine hide fun wz kz j hj=>?_
  obtain ⟨b,off,e,hb,hs⟩:=HB3.out j hj
  have h3:SegAt W3 b (off+j*6) (edg L j):=by
   rw [hW3]
   exact (hs.later k2 hb).later ((Below.refl w2.heap.size w2).alloc (Nat.le_refl _) _) (by omega)
  exact ⟨b,off,e,by omega,h3.kp kz (by omega)⟩
 have HNx:Hid (∀ nb,na=some ⟨nb,0,none⟩->nb<W3.heap.size/\∀ wz,Kp (fun b=>b=tb) W3 wz->∀ j,j<L.length->wz.cell? ⟨nb,j,none⟩=some (.int .i64 (N.getD j 0:Nat))):=by
  refine hide fun nb e=>?_
  subst e
  have hl:=o2.lt nb rfl
  refine ⟨by omega,fun wz kz j hj=>?_⟩
  refine kz.cellOf (w:=W3) ?_ (by omega)
  have c2:w2.cell? ⟨nb,j,none⟩=some (.int .i64 (N.getD j 0:Nat)):=by
   rw [own_cell o2 nb rfl j (by omega)]
   unfold numCells
   rw [List.getElem?_map,List.getElem?_eq_getElem (by omega),List.getD_eq_getElem?_getD,List.getElem?_eq_getElem (by omega)];rfl
  rw [hW3]
  exact (((Below.refl w2.heap.size w2).alloc (Nat.le_refl _) _).cell (p:=⟨nb,j,none⟩) hl.2).trans c2
 have HPN:Hid (∀ j,j<L.length->∃ nb,na=some ⟨nb,0,none⟩):=hide fun j hj=>by
  obtain ⟨nb,hnb⟩:=hpos (by omega)
  exact ⟨nb,hag nb hnb⟩
 clear HB3 k1 k2 o2 K12 hag hpos C2
 go_upto_block 0 with fail
 rw [<-hW3,<-htb]
 clear hW3 htb hmk
 go_wp2_with fail
 go_loopw [8,9,10,11,12,23] (fun rv _ _ _ _ iv w'=>∃ (i:Nat) (vs:List Value),iv = .int .i64 i/\i<=L.length/\OwnR w' W3.heap.size rv (ringsN L i).1 vs/\Blk w' tb (boolCells (ringsN L i).2)/\Kp (fun b=>b=tb) W3 w') (fun _ _ _ _ _ iv _=>L.length-(intOf iv).toNat)
 case atStart=>exact ⟨0,[],rfl,Nat.zero_le _,by rw [HR0.out];exact OwnR.nil _ _,by rw [HR0.out];exact T3.out,Kp.refl _ _⟩
 case round=>
  clear T3 HR0
  rename World=>wo
  obtain ⟨i,vs,rfl,hi,hO,hT,hK⟩:=hrel
  by_cases hlt:i<L.length
  ·have HS:=hide (HRS.out i)
   have HG1:=hide (HRG.out i)
   have hRl:=HRL.out i
   have hTl:=HRT.out i
   have HRG1:=hide (HRG.out (i+1))
   generalize ringsN L i=st at *
   obtain ⟨R,t0⟩:=st
   have HO:=hide hO
   have HT:=hide hT
   have HK:=hide hK
   have hzr:=hK.size
   have hwl:=walk_len L N (L.length+1) t0 i
   have hwt:=walk_tlen L N (L.length+1) t0 i
   have HWG1:=hide (HWG.out (L.length+1) t0 i)
   have HF:Hid (∀ f,f=walkM L N (L.length+1) t0 i->f=([] ++ (walkM L N (L.length+1) t0 i).1,(walkM L N (L.length+1) t0 i).2)):=hide fun f e=>by rw [e];rfl
   obtain ⟨full,hfull⟩:∃ f,f=walkM L N (L.length+1) t0 i:=⟨_,rfl⟩
   have HF0:=hide (HF.out full hfull)
   have hfree:freeN t0<L.length+1:=by have:=free_le t0;have h2:t0.length=L.length:=hTl;omega
   simp only at HS HG1 hRl hTl
   rw [<-hfull] at HS hwl hwt HWG1
   clear hO hT hK HRG HRL HRT HRS HF hfull
   go_upto_block 2 with fail
   go_cut [10,11] (fun gv _ w'=>w'.ownsRow wo.heap.size 31 3 gv full.1.length (ptCells full.1)/\Blk w' tb (boolCells full.2)/\Kp (fun b=>b=tb) wo w')
   case first=>
    clear HS HRG1 HG1 HO
    go_wp2_with fail
    go_loopw [10,11] (fun gv kv w'=>∃ (k f:Nat) (acc:List Pt) (t:List Bool),kv = .int .i64 k/\k<L.length/\t.length=L.length/\freeN t<f/\acc.length+f<=L.length+1/\w'.ownsRow wo.heap.size 31 3 gv acc.length (ptCells acc)/\Blk w' tb (boolCells t)/\Kp (fun b=>b=tb) wo w'/\Hid (full=(acc ++ (walkM L N f t k).1,(walkM L N f t k).2))) (fun _ _ w'=>cntF w' tb L.length)
    case atStart=>exact ⟨i,L.length+1,[],t0,rfl,hlt,hTl,hfree,by simp,World.ownsRow_nil _ _ _ _,HT.out,Kp.refl _ _,HF0⟩
    case round=>
     clear HF0 HT
     obtain ⟨k,f,acc,t,rfl,hk,htl,hfr,hal,hA,hT,hK,HF⟩:=hrel
     have ct:=(hT.cell k).trans (bools_at t k (by omega))
     have hft:=hT.free
     have hlt':=hT.lt
     have hk0:(0:Int)<=(k:Int):=Int.natCast_nonneg _
     have hk1:(k:Int)<(L.length:Int):=by omega
     have hcn:=cnt_eq hT
     rw [htl] at hcn
     cases hb:t.getD k false
     ·rw [hb] at ct
      obtain ⟨f,rfl⟩:∃ f',f=f'+1:=⟨f-1,by omega⟩
      have HF2:Hid (full=(acc ++ ((if turnB (edg L k) (edg L (N.getD k 0))=true then [(edg L k).2] else []) ++ (walkM L N f (t.set k true) (N.getD k 0)).1),(walkM L N f (t.set k true) (N.getD k 0)).2)):=by rw [HF.out,walk_step hb];exact hide rfl
      have hfs:=free_set t k (by omega) hb
      obtain ⟨W4,hW4⟩:∃ W,W=wr.setCell ⟨tb,k,none⟩ (.bool true):=⟨_,rfl⟩
      have T4:Blk W4 tb (boolCells (t.set k true)):=by
       rw [hW4,<-bools_set];exact hT.set k (by rw [bools_size];omega) _
      have K4:Kp (fun b=>b=tb) wr W4:=by rw [hW4];exact Kp.setCell (X:=fun b=>b=tb) (p:=⟨tb,k,none⟩) (Kp.refl _ _) (fun _=>rfl) _
      have A4:=hide (Kp.own hA K4 (fun b hb e=>by have:=(hA.lt b hb).1;omega))
      have KK:Kp (fun b=>b=tb) W3 W4:=(HK.out.trans hK).trans K4
      have KR:Kp (fun b=>b=tb) wo W4:=hK.trans K4
      have hml:=HNL.out k hk
      obtain ⟨nb,hnb⟩:=HPN.out k hk
      obtain ⟨hnl,hnx⟩:=HNx.out nb hnb
      subst hnb
      have cN:=hnx W4 KK k hk
      obtain ⟨b,off,e1,hbl,hs1⟩:=HSeg.out W4 KK k hk
      subst e1
      obtain ⟨b',off',e2,_,hs2⟩:=HSeg.out W4 KK _ hml
      simp at e2
      obtain ⟨rfl,rfl⟩:=e2
      have g1:=edg_good HG.out k
      have g2:=edg_good HG.out (N.getD k 0)
      have HNX:=hide hnx
      have C:=hide (fun wz=>isTurn_any (edg L k) (edg L (N.getD k 0)) wz g1.1 g1.2 g2.2)
      have z4:=KK.size
      have hcn4:=cnt_eq T4
      rw [List.length_set,htl] at hcn4
      generalize edg L k=e at *
      generalize hm:N.getD k 0=m at *
      generalize edg L m=g at *
      have T4':=hide T4
      have KR':=hide KR
      have KK':=hide KK
      clear hA hT hK T4 KR KK K4 HF HNL hnx
      go_upto_region 13 with fail
      rw [<-hW4]
      clear hW4 ct hft
      have HS1:=hide hs1
      obtain ⟨c0,c1,c2,c3,c4,c5⟩:=hs1
      obtain ⟨d0,d1,d2,d3,d4,d5⟩:=hs2
      have hm0:(0:Int)<=(m:Int):=Int.natCast_nonneg _
      have hm1:(m:Int)<(L.length:Int):=by omega
      have hb4:b<W4.heap.size:=by omega
      have hn4:nb<W4.heap.size:=by omega
      go_cut [50] (fun cv w'=>cv = .bool (turnB e g)/\Below W4.heap.size W4 w')
      case first=>
       clear HF2 T4' KR' KK' HNX HS1 A4 HG HSeg HNx HPN HWG HWG1 HK B3 HRM
       go_region_held3 (fun w'=>w'.cell? ⟨b,off+k*6,none⟩=some (.int .i64 e.1.x)/\w'.cell? ⟨b,off+k*6+1,none⟩=some (.int .i64 e.1.y)/\w'.cell? ⟨b,off+k*6+2,none⟩=some (.int .i64 e.1.d)/\w'.cell? ⟨b,off+k*6+3,none⟩=some (.int .i64 e.2.x)/\w'.cell? ⟨b,off+k*6+4,none⟩=some (.int .i64 e.2.y)/\w'.cell? ⟨b,off+k*6+5,none⟩=some (.int .i64 e.2.d)/\w'.cell? ⟨nb,k,none⟩=some (.int .i64 (m:Nat))/\w'.cell? ⟨b,off+m*6,none⟩=some (.int .i64 g.1.x)/\w'.cell? ⟨b,off+m*6+1,none⟩=some (.int .i64 g.1.y)/\w'.cell? ⟨b,off+m*6+2,none⟩=some (.int .i64 g.1.d)/\w'.cell? ⟨b,off+m*6+3,none⟩=some (.int .i64 g.2.x)/\w'.cell? ⟨b,off+m*6+4,none⟩=some (.int .i64 g.2.y)/\w'.cell? ⟨b,off+m*6+5,none⟩=some (.int .i64 g.2.d))
        (first
         | go_keep
         |(go_split_ands
           refine ⟨?_,?_,?_,?_,?_,?_,?_,?_,?_,?_,?_,?_,?_⟩
           ·(
            rw [k5.cell (p:=⟨b,off+k*6,none⟩) (by simp;omega)];assumption)
           ·(
            rw [k5.cell (p:=⟨b,off+k*6+1,none⟩) (by simp;omega)];assumption)
           ·(
            rw [k5.cell (p:=⟨b,off+k*6+2,none⟩) (by simp;omega)];assumption)
           ·(
            rw [k5.cell (p:=⟨b,off+k*6+3,none⟩) (by simp;omega)];assumption)
           ·(
            rw [k5.cell (p:=⟨b,off+k*6+4,none⟩) (by simp;omega)];assumption)
           ·(
            rw [k5.cell (p:=⟨b,off+k*6+5,none⟩) (by simp;omega)];assumption)
           ·(
            rw [k5.cell (p:=⟨nb,k,none⟩) (by simp;omega)];assumption)
           ·(
            rw [k5.cell (p:=⟨b,off+m*6,none⟩) (by simp;omega)];assumption)
           ·(
            rw [k5.cell (p:=⟨b,off+m*6+1,none⟩) (by simp;omega)];assumption)
           ·(
            rw [k5.cell (p:=⟨b,off+m*6+2,none⟩) (by simp;omega)];assumption)
           ·(
            rw [k5.cell (p:=⟨b,off+m*6+3,none⟩) (by simp;omega)];assumption)
           ·(
            rw [k5.cell (p:=⟨b,off+m*6+4,none⟩) (by simp;omega)];assumption)
           ·(
            rw [k5.cell (p:=⟨b,off+m*6+5,none⟩) (by simp;omega)];assumption)))
        ((
         go_at_call 94;refine (C.out _).mono ?_;rintro e' w5 ⟨rfl,k5⟩))
       all_goals
        go_wp2_with fail
        go_meet
        case rel=>exact ⟨rfl,bvia (Below.refl _ _).drew k5⟩
      case rest=>
       obtain ⟨rfl,k5⟩:=hcut
       have A5:=hide (own_later A4.out k5)
       have T5:=T4'.out.call k5
       have KR5:=hide (KR'.out.trans (Kp.of k5))
       have KK5:Kp (fun b=>b=tb) W3 wc:=KK'.out.trans (Kp.of k5)
       have cN5:=HNX.out wc KK5 k hk
       have hs5:=HS1.out.later k5 hb4
       have hcn5:=cnt_eq T5
       rw [List.length_set,htl] at hcn5
       rw [hm] at cN5
       have T5':=hide T5
       have z5:=k5.size
       have zo:wo.heap.size<=wc.heap.size:=KR5.out.size
       clear A4 T4' KR' KK' k5 c0 c1 c2 c3 c4 c5 d0 d1 d2 d3 d4 d5 cN C T5 HS1 HNX KK5
       cases ht:turnB e g
       ·have HF3:Hid (full=(acc ++ (walkM L N f (t.set k true) m).1,(walkM L N f (t.set k true) m).2)):=by rw [HF2.out,ht];exact hide rfl
        clear HF2
        go_wp2
        go_roundw
        case rel=>exact ⟨m,f,acc,t.set k true,rfl,hml,by rw [List.length_set];exact htl,by omega,by omega,A5.out,T5'.out,KR5.out,HF3⟩
        case measure=>omega
       ·have HF3:Hid (full=((acc ++ [e.2]) ++ (walkM L N f (t.set k true) m).1,(walkM L N f (t.set k true) m).2)):=by rw [HF2.out,ht,List.append_assoc];exact hide rfl
        clear HF2
        obtain ⟨c0,c1,c2,c3,c4,c5⟩:=hs5
        have hnews:=World.news_of_block (w:=wc.alloc (.cells #[.int .i64 e.2.x,.int .i64 e.2.y,.int .i64 e.2.d] 31)) (cs:=#[.int .i64 e.2.x,.int .i64 e.2.y,.int .i64 e.2.d]) (t:=31) (fr:=(0,0)) (heap_alloc_new wc _)
        have hn1:acc.length+1<=maxLen:=by unfold maxLen;omega
        have hn2:(acc.length+1)*24<=140737488355328:=by omega
        go_wp2_with (at_builtin;refine wpList_append_lies _ rfl _ _ _ rfl wo.heap.size 31 i0 _ 3 24 Tryz.underlying57 hi0 hz0 hz1 hz2 rfl (by omega) u10 acc.length (ptCells acc) rfl (A5.out.alloc _) ⟨wc.heap.size,0,none⟩ 1 1 (ptCell e.2) rfl rfl hnews (by simp [ptCell,Value.oneCell']) (by omega) hn1 hn2 (by simp;omega) _ rfl ?_;intro gg cp w6 ho hgrow hat hlt6;have KG:Kp (fun b=>u10.ownBlock=some b) wc w6:=Kp.grown ((Kp.refl _ _).alloc _) hgrow (fun k hk=>hk);have cN6:=KG.cellOf cN5 (fun e=>by have:=(A5.out.lt nb e).1;omega))
        have O6:Hid (w6.ownsRow wo.heap.size 31 3 (.slice (some ⟨gg,0,none⟩) (acc.length+1) cp) (acc ++ [e.2]).length (ptCells (acc ++ [e.2]))):=by
         refine hide ?_
         rw [ptCells_append,List.length_append]
         have e2:ptCells [e.2]=ptCell e.2:=by simp [ptCells]
         rw [e2];exact ho
        have T6:=Kp.blk T5'.out KG (fun e=>by have:=(A5.out.lt tb e).1;omega)
        have KR6:Hid (Kp (fun b=>b=tb) wo w6):=hide (KR5.out.then KG (fun x hx e=>by have:=(A5.out.lt x e).1;omega))
        have hcn6:=cnt_eq T6
        rw [List.length_set,htl] at hcn6
        have T6':=hide T6
        have hal6:(acc ++ [e.2]).length+f<=L.length+1:=by rw [List.length_append,List.length_singleton];omega
        clear ho hgrow hat hnews A5 T5' KR5 KG c0 c1 c2 c3 c4 c5 T6 cN5
        go_wp2
        go_roundw
        case rel=>exact ⟨m,f,acc ++ [e.2],t.set k true,rfl,hml,by rw [List.length_set];exact htl,by omega,hal6,O6.out,T6'.out,KR6.out,HF3⟩
        case measure=>omega
     ·rw [hb] at ct
      have HF2:Hid (full=(acc,t)):=by rw [HF.out,walk_end (by omega) hb];exact hide (by simp)
      have HA:=hide hA
      have HT2:=hide hT
      have HK2:=hide hK
      clear hA hT hK HF
      go_wp2
      go_meet
      case rel=>exact ⟨by rw [HF2.out];exact HA.out,by rw [HF2.out];exact HT2.out,HK2.out⟩
   case rest=>
    obtain ⟨hA,hT,hK⟩:=hcut
    obtain ⟨ring,t1⟩:=full
    simp only at HS hwl hwt HWG1 hA hT
    have HA:=hide hA
    have RA:=hide (ring_of_own hA (by unfold maxLen;omega))
    have HT1:=hide hT
    have KW:Kp (fun b=>b=tb) W3 wc:=HK.out.trans hK
    have HKW:=hide KW
    have zc:=hK.size
    have HO1:=hide (HO.out.kp hK (fun b h1 _ e=>by omega))
    obtain ⟨ga,gcap,rfl,_,_,_⟩:=own_form hA
    clear hA hT hK HO HT HK HF0 KW
    by_cases hz:ring.length > 0
    ·have HS2:Hid (ringsN L (i+1)=(insL R (leastL ring ring.length),t1)):=by rw [HS.out,if_pos hz];exact hide rfl
     have hz':(0:Int)<(ring.length:Int):=by omega
     have hll:=least_len ring ring.length (Nat.le_refl _)
     have C1:=hide (fromLeast_any (.slice ga ring.length gcap) ring wc RA.out HWG1.out (by omega))
     have HGl:Hid (∀ p∈leastL ring ring.length,Gd p):=hide fun p hp=>HWG1.out p (least_mem _ hp)
     clear HS
     go_wp2_with fail
     refine C1.out.mono ?_
     rintro e w5 ⟨lv,rfl,o5,k5⟩
     have HO5:=HO1.out.kp (Kp.of (X:=fun _=>False) k5) (fun b _ _ e=>e)
     have HT5:=hide (HT1.out.call k5)
     have HK5:=hide (HKW.out.trans (Kp.of k5))
     have z5:=k5.size
     have zk:=HKW.out.size
     generalize leastL ring ring.length=lr at *
     have C2:=hide (insertR_any W3.heap.size u8 lv R lr vs w5 HO5 (own_mono o5 (by omega)) (fun j g hj e e2=>by have h1:=(HO1.out.lt j g hj e).2;have h2:=(o5.lt g e2).1;omega) (by omega) (by omega) HG1.out HGl.out (by omega))
     have HRow:=hide HO5.row
     clear C1 o5 k5 HO1 HT1 HKW HO5 HA RA
     go_wp2_with fail
     refine C2.out.mono ?_
     rintro e w6 ⟨v',vs',rfl,hO6,k6,_,_⟩
     have O6:=hide hO6
     have T6:=hide (Kp.blk HT5.out k6 (fun e=>by have:=(HRow.out.lt tb e).1;omega))
     have K6:Hid (Kp (fun b=>b=tb) W3 w6):=hide (HK5.out.then k6 (fun x hx e=>by have:=(HRow.out.lt x e).1;omega))
     clear hO6 k6 C2 HT5 HK5 HRow
     go_wp2
     go_roundw
     case rel=>exact ⟨i+1,vs',by go_num,by omega,by rw [HS2.out];exact O6.out,by rw [HS2.out];exact T6.out,K6.out⟩
     case measure=>simp [intOf];omega
    ·have HS2:Hid (ringsN L (i+1)=(R,t1)):=by rw [HS.out,if_neg hz];exact hide rfl
     have hz' : ¬ ((0:Int)<(ring.length:Int)):=by omega
     clear HS HA RA
     go_wp2
     go_roundw
     case rel=>exact ⟨i+1,vs,by go_num,by omega,by rw [HS2.out];exact HO1.out,by rw [HS2.out];exact HT1.out,HKW.out⟩
     case measure=>simp [intOf];omega
  ·have ei:i=L.length:=by omega
   subst ei
   have HO:Hid (OwnR wo w.heap.size u8 (ringsM L) vs):=by rw [HRM.out];exact hide (hO.mono (by omega))
   have HB:Hid (Below w.heap.size w wo):=hide (below_kp B3.out hK B3.out.size (fun b h=>by omega))
   clear hO hT hK HRS HRG HRL HRT
   go_wp2
   go_ret
   exact ⟨_,vs,rfl,HO.out,HB.out⟩
theorem sfold_len' (e:Pt×Pt):∀ (F:List (Pt×Pt)) (s:List Pt),(F.foldl (fun s f=>stepM s (meetM e.1 e.2 f.1 f.2)) s).length<=s.length+2*F.length
 | [],s=>by simp
 | f::F,s=>by
  have h1:=sfold_len' e F (stepM s (meetM e.1 e.2 f.1 f.2))
  have h2:=step_len s (meetM e.1 e.2 f.1 f.2)
  rw [List.foldl_cons,List.length_cons];omega
theorem ofold_len' (E:List (Pt×Pt)):∀ (F:List (Pt×Pt)) (s:List Pt),(F.foldl (fun s e=>E.foldl (fun s f=>stepM s (meetM e.1 e.2 f.1 f.2)) s) s).length<=s.length+F.length*(2*E.length)
 | [],s=>by simp
 | e::F,s=>by
  have h1:=ofold_len' E F (E.foldl (fun s f=>stepM s (meetM e.1 e.2 f.1 f.2)) s)
  have h2:=sfold_len' e E s
  rw [List.foldl_cons,List.length_cons,Nat.succ_mul];omega
theorem spots_few {E:List (Pt×Pt)}(h:E.length<=24):(spotsM E).length<=1152:=by
 have h1:=ofold_len' E E []
 have h2:E.length*(2*E.length)<=24*48:=Nat.mul_le_mul h (by omega)
 have e:spotsM E=E.foldl (fun s e=>E.foldl (fun s f=>stepM s (meetM e.1 e.2 f.1 f.2)) s) []:=rfl
 rw [e]
 rw [List.length_nil] at h1;omega
theorem pairs_few (E:List (Pt×Pt)):∀ S:List Pt,(pairsL E S).length<=E.length*S.length
 | []=>by simp [pairsL]
 | p::S=>by
  have h1:=pairs_few E S
  have h2:=neigh_len' p S E
  have e:pairsL E (p::S)=(neighM p S E).map (fun q=>(p,q)) ++ pairsL E S:=rfl
  rw [e,List.length_append,List.length_map,List.length_cons,Nat.mul_succ];omega
theorem pairs_gd {E:List (Pt×Pt)}:∀ {S:List Pt},(∀ s∈S,Gd s)->∀ x∈pairsL E S,Gd x.1/\Gd x.2
 | [],_,x,hx=>by simp [pairsL] at hx
 | p::S,h,x,hx=>by
  have e:pairsL E (p::S)=(neighM p S E).map (fun q=>(p,q)) ++ pairsL E S:=rfl
  rw [e] at hx
  rcases List.mem_append.1 hx with hx | hx
  ·obtain ⟨q,hq,rfl⟩:=List.mem_map.1 hx
   exact ⟨h p List.mem_cons_self,neigh_gd (p:=p) (fun s hs=>h s (List.mem_cons_of_mem _ hs)) E [] (fun x hx=>by cases hx) q hq⟩
  ·exact pairs_gd (fun s hs=>h s (List.mem_cons_of_mem _ hs)) x hx
theorem pieces_few {A B:List (List Pt)}(nA:(edgesM A).length<=12)(nB:(edgesM B).length<=12):(piecesM A B).length<=27648:=by
 unfold piecesM
 have hE:(edgesM A ++ edgesM B).length<=24:=by rw [List.length_append];omega
 generalize edgesM A ++ edgesM B=E at *
 have h1:=pairs_few E (spotsM E)
 have h2:E.length*(spotsM E).length<=24*1152:=Nat.mul_le_mul hE (spots_few hE)
 rw [List.length_map];omega
theorem pieces_gd {A B:List (List Pt)}(sA:Sound A)(sB:Sound B):∀ x∈piecesM A B,Gd x.p/\Gd x.q:=fun x hx=>by
 unfold piecesM at hx
 obtain ⟨y,hy,rfl⟩:=List.mem_map.1 hx
 exact pairs_gd (fun s hs=>gd_nice ((spots_spec (good_both sA sB)).1.nc s hs)) y hy
set_option maxHeartbeats 1000000 in
theorem Clip_any (op:Int)(va vb:Value)(A B:List (List Pt))(w:World)(hA:PolyAt w va A)(hB:PolyAt w vb B) :
  Calls Tryz.prog 28 #[.int .i64 op,va,vb] w fun e w'=>∃ v' vs,e = .returned (.tuple #[v',.int .i64 (clipM op A B).2])/\OwnR w' w.heap.size v' (clipM op A B).1 vs/\Below w.heap.size w w':=by
 by_cases h0:op<0\/op > 4
 ·have H:Hid (clipM op A B=([],6)):=if_pos h0
  by_cases h1:op<0
  ·go_enter Tryz.func28,Tryz.ntmps28
   go_wp2
   go_ret2
   exact ⟨_,[],by rw [H.out];rfl,by rw [H.out];exact OwnR.nil _ _,Below.refl _ _⟩
  ·have h2:op > 4:=by omega
   have h1' : ¬ op<0:=h1
   have h2':(4:Int)<op:=h2
   clear h0
   have HF:Hid (∃ v' vs,Ending.returned (.tuple #[.slice none 0 0,.int .i64 6])=Ending.returned (.tuple #[v',.int .i64 (clipM op A B).2])/\OwnR w w.heap.size v' (clipM op A B).1 vs/\Below w.heap.size w w):=hide ⟨_,[],by rw [H.out],by rw [H.out];exact OwnR.nil _ _,Below.refl _ _⟩
   go_enter Tryz.func28,Tryz.ntmps28
   go_wp2
   go_ret2
   first
    | exact HF.out
    | exact ⟨_,by rw [H.out];rfl,⟨[],by rw [H.out];exact OwnR.nil _ _⟩,Below.refl _ _⟩
 ·have H1:Hid (clipM op A B=if bothM A B≠0 then ([],bothM A B) else (ringsM (bordM op (piecesM A B)),0)):=if_neg h0
  have l1 : ¬ op<0:=fun h=>h0 (.inl h)
  have l2 : ¬ (4:Int)<op:=fun h=>h0 (.inr h)
  clear h0
  by_cases h:bothM A B=0
  ·have H:Hid (clipM op A B=(ringsM (bordM op (piecesM A B)),0)):=by rw [H1.out,if_neg (by simpa using h)];exact hide rfl
   obtain ⟨c1,c2⟩:=both_zero h
   have hpf:=pieces_few (check_few c1) (check_few c2)
   have HPG:=hide (pieces_gd (sound_of c1) (sound_of c2))
   have C:=hide (fun wz (k1:PolyAt wz va A) (k2:PolyAt wz vb B)=>cutPieces_any va vb A B wz k1 k2 (sound_of c1) (sound_of c2) (check_few c1) (check_few c2))
   generalize clipM op A B=res at *
   clear c1 c2 H1
   go_enter Tryz.func28,Tryz.ntmps28
   go_wp2_with fail
   refine (checkBoth_any va vb A B _ hA hB).mono ?_
   rintro e w1 ⟨rfl,k⟩
   rw [h]
   go_wp2_with fail
   refine (C.out _ (hA.later k) (hB.later k)).mono ?_
   rintro e w2 ⟨v',rfl,o,k2⟩
   generalize piecesM A B=P at *
   have CR:=hide (Rings_any op v' P w2 (pcs_of_own o (by unfold maxLen;omega)) (by omega) HPG.out)
   have k12:=bvia k k2
   clear o C
   go_wp2_with fail
   refine CR.out.mono ?_
   rintro e w3 ⟨rv,vs,rfl,o3,k3⟩
   have O3:=hide (o3.mono (by have:=k12.size;omega))
   have K3:=hide (bvia k12 k3)
   clear o3 k3 CR k12 k k2
   go_wp2
   go_ret2
   exact ⟨rv,vs,by rw [H.out];rfl,by rw [H.out];exact O3.out,K3.out⟩
  ·have H:Hid (clipM op A B=([],bothM A B)):=by rw [H1.out,if_pos h];exact hide rfl
   have h':(bothM A B != 0)=true:=by simpa using h
   clear H1
   generalize clipM op A B=res at *
   go_enter Tryz.func28,Tryz.ntmps28
   go_wp2_with fail
   refine (checkBoth_any va vb A B _ hA hB).mono ?_
   rintro e w1 ⟨rfl,k⟩
   go_wp2
   go_ret2
   exact ⟨_,[],by rw [H.out];rfl,by rw [H.out];exact OwnR.nil _ _,k⟩
end Go.Proofs.YtnkcbephceollabGreat
