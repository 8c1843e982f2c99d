import Derived.Test.YtnkcbephceollabGreatU36
namespace Go.Proofs.YtnkcbephceollabGreat
open Go.RowKit
set_option linter.unusedSimpArgs false
set_option linter.unusedVariables false
theorem least_one' (r:List Pt):leastL r 1=r:=by simp [leastL,rotL]
set_option maxRecDepth 100000 in
set_option maxHeartbeats 2000000 in
theorem rwritten_any (base:Nat)(v:Value)(r:List Pt)(w:World)(hO:w.ownsRow base 31 3 v r.length (ptCells r))(hb:base<=w.heap.size)(hG:∀ p∈r,Gd p)(hn:r.length<=1000000)(h0:0<r.length) :
  Calls Tryz.prog 56 #[v] w fun e w'=>∃ v',e = .returned v'/\w'.ownsRow base 31 3 v' (leastL r r.length).length (ptCells (leastL r r.length))/\Below w.heap.size w w':=by
 have hR:=ring_of_own hO (by unfold maxLen;omega)
 have HR:=hide hR
 obtain ⟨a,cap,rfl,a1,a2,a3⟩:=hR
 unfold maxLen at a2
 have HG:=hide hG
 have HO:=hide hO
 have H1:Hid (w.ownsRow base 31 3 (.slice a r.length cap) (leastL r 1).length (ptCells (leastL r 1))):=by rw [least_one'];exact HO
 clear a3 hG hO HO
 go_enter Tryz.func56,Tryz.ntmps56
 go_wp2_with fail
 go_loopw [3,4,5,6] (fun bv iv _ _ w'=>∃ i:Nat,iv = .int .i64 i/\1<=i/\i<=r.length/\w'.ownsRow base 31 3 bv (leastL r i).length (ptCells (leastL r i))/\Below w.heap.size w w') (fun _ iv _ _ _=>r.length-(intOf iv).toNat)
 case atStart=>exact ⟨1,rfl,Nat.le_refl _,h0,H1.out,Below.refl _ _⟩
 case round=>
  clear H1
  obtain ⟨i,rfl,hi0,hi,hO,hbel⟩:=hrel
  by_cases hlt:i<r.length
  ·have hll:=least_len r i hi
   have HLm:=hide (fun p=>least_mem (r:=r) (p:=p) i)
   have HLs:=hide (show leastL r (i+1)=if i=0\/clM (rotL r i) (leastL r i)<0 then rotL r i else leastL r i from rfl)
   have hrl:=rot_len r i hi
   generalize leastL r i=M at *
   have hO':=hide hO
   have hB':=hide hbel
   have hzs:=hbel.size
   have C1:=hide (rturned_any (.slice a r.length cap) r i wr (HR.out.later hbel) hn hlt)
   clear hO hbel
   go_wp2_with fail
   refine C1.out.mono ?_
   rintro e w2 ⟨tv,rfl,o2,k2⟩
   have R2:=hide (ring_of_own o2 (by unfold maxLen;omega))
   have o3:=own_later hO'.out k2
   have R3:=hide (ring_of_own o3 (by unfold maxLen;omega))
   have O2:=hide (own_mono o2 (show base<=wr.heap.size by omega))
   have O3:=hide o3
   have B2:=hide (bvia hB'.out k2)
   have CL:=hide (rless_any tv u3 (rotL r i) M w2 R2.out R3.out (fun p hp=>HG.out p (rot_mem hp)) (fun p hp=>HG.out p (HLm.out p hp)))
   clear o2 o3 k2 hO' hB' R2 R3 C1
   go_wp2_with fail
   refine CL.out.mono ?_
   rintro e' w4 ⟨rfl,k4⟩
   have O4:=hide (own_later O2.out k4)
   have O5:=hide (own_later O3.out k4)
   have B4:=hide (bvia B2.out k4)
   have HC:=hide (lt_cl (rotL r i) M)
   clear O2 O3 B2 k4 CL
   cases hcc:ltL (rotL r i) M
   ·have HS:Hid (leastL r (i+1)=M):=by
     rw [HLs.out,if_neg (fun x=>by
      rcases x with x | x
      ·omega
      ·have:=HC.out.2 x;rw [hcc] at this;cases this)];exact hide rfl
    clear HLs HC
    go_wp2
    go_roundw
    case rel=>exact ⟨i+1,by go_num,by omega,by omega,by rw [HS.out];exact O5.out,B4.out⟩
    case measure=>simp [intOf];omega
   ·have HS:Hid (leastL r (i+1)=rotL r i):=by rw [HLs.out,if_pos (.inr (HC.out.1 hcc))];exact hide rfl
    clear HLs HC
    go_wp2
    go_roundw
    case rel=>exact ⟨i+1,by go_num,by omega,by omega,by rw [HS.out];exact O4.out,B4.out⟩
    case measure=>simp [intOf];omega
  ·have ei:i=r.length:=by omega
   subst ei
   have HO:=hide hO
   clear hO HG HR
   go_wp2
   go_ret
   exact ⟨_,rfl,HO.out,hbel⟩
set_option maxRecDepth 100000 in
set_option maxHeartbeats 8000000 in
theorem rnext_any (v:Value)(L:List (Pt×Pt))(i f:Nat)(w:World)(hL:SegsAt w v L)(hG:GdE L)(hi:i<L.length)(hf:f<L.length)
  (hok:∀ j,j<L.length->(((edg L j).1=(edg L i).2/\frM L i j L.length=true)↔j=f)) :
  Calls Tryz.prog 98 #[v,.int .i64 (i:Nat)] w fun e w'=>e = .returned (.int .i64 (f:Nat))/\Below w.heap.size w w':=by
 have heq:=neq_pt
 obtain ⟨a,cap,rfl,a1,a2,a3⟩:=hL
 unfold maxLen at a2
 have HG:Hid (∀ j,j<L.length->Gd (edg L j).1/\Gd (edg L j).2):=hide (fun j hj=>hG j hj)
 have HK:=hide hok
 obtain ⟨b,off,rfl,hb,hs⟩:=a3 i hi
 have HS:Hid (∀ wz,Below w.heap.size w wz->∀ j,j<L.length->SegAt wz b (off+j*6) (edg L j)):=hide fun wz kz j hj=>by
  obtain ⟨b',off',e',hb',hp⟩:=a3 j hj
  simp at e'
  obtain ⟨rfl,rfl⟩:=e'
  exact hp.later kz hb'
 clear a3 hG hok
 have hi0:(0:Int)<=(i:Int):=Int.natCast_nonneg _
 have hi1:(i:Int)<(L.length:Int):=by omega
 obtain ⟨g1,g2⟩:=HG.out i hi
 have HI:Hid (∀ wz,Below w.heap.size w wz->SegAt wz b (off+i*6) (edg L i)):=hide fun wz kz=>HS.out wz kz i hi
 have HFS:Hid (∀ j k,frM L i j (k+1)=if k=j\/eqP (edg L k).1 (edg L i).2=false then frM L i j k else frM L i j k && !betM (edg L i).2 (edg L i).1 (edg L j).2 (edg L k).2):=hide fun j k=>by rw [frM]
 have HF0:Hid (∀ j,frM L i j 0=true):=hide fun j=>by rw [frM]
 generalize edg L i=e at *
 obtain ⟨c0,c1,c2,c3,c4,c5⟩:=HI.out w (Below.refl _ _)
 clear hs
 go_enter Tryz.func98,Tryz.ntmps98
 go_wp2_with fail
 go_loopw [6,7,8,9] (fun jv _ _ _ w'=>∃ j:Nat,jv = .int .i64 j/\j<=f/\Blk w' w.heap.size #[.int .i64 e.2.x,.int .i64 e.2.y,.int .i64 e.2.d]/\Below w.heap.size w w') (fun jv _ _ _ _=>L.length-(intOf jv).toNat)
 case atStart=>exact ⟨0,rfl,Nat.zero_le _,Blk.new w _ _,(Below.refl _ _).alloc (Nat.le_refl _) _⟩
 case round=>
  clear c0 c1 c2 c3 c4 c5
  obtain ⟨j,rfl,hj,hV,hbel⟩:=hrel
  have hjl:j<L.length:=by omega
  obtain ⟨d0,d1,d2,d3,d4,d5⟩:=HS.out wr hbel j hjl
  obtain ⟨g3,g4⟩:=HG.out j hjl
  obtain ⟨cv,fv,zv⟩:=id hV
  have hj0:(0:Int)<=(j:Int):=Int.natCast_nonneg _
  have hj1:(j:Int)<(L.length:Int):=by omega
  have HKj:=hide (HK.out j hjl)
  have HJ:Hid (∀ wz,Below w.heap.size w wz->SegAt wz b (off+j*6) (edg L j)):=hide fun wz kz=>HS.out wz kz j hjl
  have HFj:=hide (HFS.out j)
  generalize edg L j=g at *
  have hB':=hide hbel
  have hV':=hide hV
  cases hq:eqP g.1 e.2
  ·have hne:j≠f:=fun x=>eqP_false hq (HKj.out.2 x).1
   have h':eqP ⟨g.1.x,g.1.y,g.1.d⟩ ⟨e.2.x,e.2.y,e.2.d⟩=false:=hq
   clear HKj HFj HJ HS HK HFS HF0 HI HG hbel hV
   go_wp2_with fail
   go_quiet (fail)
   go_wp2
   go_roundw
   case rel=>exact ⟨j+1,by go_num,by omega,hV'.out.call (below_drewN (Below.refl _ _) _),below_drewN hB'.out _⟩
   case measure=>simp [intOf];omega
  ·have hge:=hide (eqP_true hq)
   have h':eqP ⟨g.1.x,g.1.y,g.1.d⟩ ⟨e.2.x,e.2.y,e.2.d⟩=true:=hq
   clear hbel hV
   go_wp2_with fail
   go_quiet (fail)
   obtain ⟨W2,hW2⟩:∃ W,W=wr.drewN nq:=⟨_,rfl⟩
   have V2:Hid (Blk W2 w.heap.size #[.int .i64 e.2.x,.int .i64 e.2.y,.int .i64 e.2.d]):=by rw [hW2];exact hide (hV'.out.call (below_drewN (Below.refl _ _) _))
   have B2:Hid (Below w.heap.size w W2):=by rw [hW2];exact hide (below_drewN hB'.out _)
   rw [<-hW2]
   clear hW2 cv fv zv d0 d1 d2 d3 d4 d5 hB' hV' nq
   go_wp2_with fail
   go_loopw [7,8,9] (fun fv kv _ w'=>∃ k:Nat,kv = .int .i64 k/\k<=L.length/\fv = .bool (frM L i j k)/\Blk w' w.heap.size #[.int .i64 e.2.x,.int .i64 e.2.y,.int .i64 e.2.d]/\Below w.heap.size w w') (fun _ kv _ _=>L.length-(intOf kv).toNat)
   case atStart=>exact ⟨0,rfl,Nat.zero_le _,by rw [HF0.out],V2.out,B2.out⟩
   case round=>
    clear V2 B2
    obtain ⟨k,rfl,hk,rfl,hV,hbel⟩:=hrel
    by_cases hkl:k<L.length
    ·obtain ⟨q0,q1,q2,q3,q4,q5⟩:=HS.out wr hbel k hkl
     obtain ⟨g5,g6⟩:=HG.out k hkl
     obtain ⟨cv,fv,zv⟩:=id hV
     have hk0:(0:Int)<=(k:Int):=Int.natCast_nonneg _
     have hk1:(k:Int)<(L.length:Int):=by omega
     have HF:=hide (HFj.out k)
     have HQ:Hid (∀ wz,Below w.heap.size w wz->SegAt wz b (off+k*6) (edg L k)):=hide fun wz kz=>HS.out wz kz k hkl
     generalize edg L k=h at *
     generalize frM L i j k=fr at *
     have hB':=hide hbel
     have hV':=hide hV
     clear hbel hV
     by_cases hkj:k=j
     ·have HF':Hid (frM L i j (k+1)=fr):=by rw [HF.out,if_pos (.inl hkj)];exact hide rfl
      have hkj':((k:Int) == (j:Int))=true:=by simp;omega
      clear HKj HFj HJ HS HK HFS HF0 HI HG HF HQ
      go_wp2_with fail
      go_quiet (fail)
      go_wp2
      go_roundw
      case rel=>exact ⟨k+1,by go_num,by omega,by rw [HF'.out],hV'.out.call (below_drewN (Below.refl _ _) _),below_drewN hB'.out _⟩
      case measure=>simp [intOf];omega
     ·have hkj':((k:Int) == (j:Int))=false:=by simp;omega
      cases hq2:eqP h.1 e.2
      ·have HF':Hid (frM L i j (k+1)=fr):=by rw [HF.out,if_pos (.inr hq2)];exact hide rfl
       have h2:eqP ⟨h.1.x,h.1.y,h.1.d⟩ ⟨e.2.x,e.2.y,e.2.d⟩=false:=hq2
       clear HKj HFj HJ HS HK HFS HF0 HI HG HF HQ
       go_wp2_with fail
       go_quiet (fail)
       go_wp2
       go_roundw
       case rel=>exact ⟨k+1,by go_num,by omega,by rw [HF'.out],hV'.out.call (below_drewN (Below.refl _ _) _),below_drewN hB'.out _⟩
       case measure=>simp [intOf];omega
      ·have HF':Hid (frM L i j (k+1)=(fr && !betM e.2 e.1 g.2 h.2)):=by rw [HF.out,if_neg (by rw [hq2];simp [hkj])];exact hide rfl
       have h2:eqP ⟨h.1.x,h.1.y,h.1.d⟩ ⟨e.2.x,e.2.y,e.2.d⟩=true:=hq2
       have C:=hide (fun wz=>rbetween_any e.2 e.1 g.2 h.2 wz g2 g1 g4 g6)
       clear HF
       go_wp2_with fail
       go_quiet (fail)
       obtain ⟨W3,hW3⟩:∃ W,W=wr.drewN nq:=⟨_,rfl⟩
       have V3:Hid (Blk W3 w.heap.size #[.int .i64 e.2.x,.int .i64 e.2.y,.int .i64 e.2.d]):=by rw [hW3];exact hide (hV'.out.call (below_drewN (Below.refl _ _) _))
       have B3:Hid (Below w.heap.size w W3):=by rw [hW3];exact hide (below_drewN hB'.out _)
       rw [<-hW3]
       clear hW3 cv fv zv q0 q1 q2 q3 q4 q5 hB' hV' nq
       obtain ⟨c0,c1,c2,_,_,_⟩:=HI.out W3 B3.out
       obtain ⟨_,_,_,d3,d4,d5⟩:=HJ.out W3 B3.out
       obtain ⟨_,_,_,q3,q4,q5⟩:=HQ.out W3 B3.out
       obtain ⟨cv,fv,zv⟩:=id V3.out
       have y0:=cv 0
       have y1:=cv 1
       have y2:=cv 2
       simp at y0 y1 y2
       have hb3:b<W3.heap.size:=by have:=B3.out.size;omega
       clear cv HKj HFj HJ HS HK HFS HF0 HI HG HQ
       go_upto_region 11 with fail
       go_cut [9] (fun bv w'=>bv = .bool (betM e.2 e.1 g.2 h.2)/\Below W3.heap.size W3 w')
       case first=>
        clear HF' V3 B3
        go_region_held3 (fun w'=>w'.cell? ⟨w.heap.size,0,none⟩=some (.int .i64 e.2.x)/\w'.cell? ⟨w.heap.size,1,none⟩=some (.int .i64 e.2.y)/\w'.cell? ⟨w.heap.size,2,none⟩=some (.int .i64 e.2.d)/\w'.cell? ⟨b,off+i*6,none⟩=some (.int .i64 e.1.x)/\w'.cell? ⟨b,off+i*6+1,none⟩=some (.int .i64 e.1.y)/\w'.cell? ⟨b,off+i*6+2,none⟩=some (.int .i64 e.1.d)/\w'.cell? ⟨b,off+j*6+3,none⟩=some (.int .i64 g.2.x)/\w'.cell? ⟨b,off+j*6+4,none⟩=some (.int .i64 g.2.y)/\w'.cell? ⟨b,off+j*6+5,none⟩=some (.int .i64 g.2.d)/\w'.cell? ⟨b,off+k*6+3,none⟩=some (.int .i64 h.2.x)/\w'.cell? ⟨b,off+k*6+4,none⟩=some (.int .i64 h.2.y)/\w'.cell? ⟨b,off+k*6+5,none⟩=some (.int .i64 h.2.d))
         (first
          | go_keep
          |(go_split_ands
            refine ⟨?_,?_,?_,?_,?_,?_,?_,?_,?_,?_,?_,?_⟩
            ·(
             rw [k4.cell (p:=⟨w.heap.size,0,none⟩) (by simp;omega)];assumption)
            ·(
             rw [k4.cell (p:=⟨w.heap.size,1,none⟩) (by simp;omega)];assumption)
            ·(
             rw [k4.cell (p:=⟨w.heap.size,2,none⟩) (by simp;omega)];assumption)
            ·(
             rw [k4.cell (p:=⟨b,off+i*6,none⟩) (by simp;omega)];assumption)
            ·(
             rw [k4.cell (p:=⟨b,off+i*6+1,none⟩) (by simp;omega)];assumption)
            ·(
             rw [k4.cell (p:=⟨b,off+i*6+2,none⟩) (by simp;omega)];assumption)
            ·(
             rw [k4.cell (p:=⟨b,off+j*6+3,none⟩) (by simp;omega)];assumption)
            ·(
             rw [k4.cell (p:=⟨b,off+j*6+4,none⟩) (by simp;omega)];assumption)
            ·(
             rw [k4.cell (p:=⟨b,off+j*6+5,none⟩) (by simp;omega)];assumption)
            ·(
             rw [k4.cell (p:=⟨b,off+k*6+3,none⟩) (by simp;omega)];assumption)
            ·(
             rw [k4.cell (p:=⟨b,off+k*6+4,none⟩) (by simp;omega)];assumption)
            ·(
             rw [k4.cell (p:=⟨b,off+k*6+5,none⟩) (by simp;omega)];assumption)))
         ((
          go_at_call 121;refine (C.out _).mono ?_;rintro e' w4 ⟨rfl,k4⟩))
        all_goals
         go_wp2_with fail
         go_meet
         case rel=>exact ⟨rfl,bvia (Below.refl _ _).drew k4⟩
       case rest=>
        obtain ⟨rfl,k4⟩:=hcut
        have V5:=hide (V3.out.call k4)
        have B5:=hide (bvia B3.out k4)
        clear V3 B3 C k4 fv zv y0 y1 y2 c0 c1 c2 d3 d4 d5 q3 q4 q5
        generalize betM e.2 e.1 g.2 h.2=bb at *
        cases fr <;> cases bb
        all_goals
         go_wp2
         go_roundw
         case rel=>exact ⟨k+1,by go_num,by omega,by rw [HF'.out];rfl,V5.out,B5.out⟩
         case measure=>simp [intOf];omega
    ·have ek:k=L.length:=by omega
     subst ek
     have hV':=hide hV
     have hB':=hide hbel
     clear hV hbel HS HK HFS HF0 HI HG HFj HJ
     cases hfr:frM L i j L.length
     ·have hne:j≠f:=fun x=>by have:=(HKj.out.2 x).2;rw [hfr] at this;cases this
      clear HKj
      go_wp2
      go_roundw
      case rel=>exact ⟨j+1,by go_num,by omega,hV'.out,hB'.out⟩
      case measure=>simp [intOf];omega
     ·have ef:j=f:=HKj.out.1 ⟨hge.out,hfr⟩
      clear HKj
      go_wp2
      go_ret
      exact ⟨ret_int (by omega),hB'.out⟩
set_option maxRecDepth 100000 in
set_option maxHeartbeats 2000000 in
theorem bordersOf_any (op:Int)(v:Value)(l:List Pc)(w:World)(hl:PcsAt w v l)(hn:l.length<=1000000) :
  Calls Tryz.prog 92 #[.int .i64 op,v] w fun e w'=>∃ v',e = .returned v'/\w'.ownsRow w.heap.size 70 6 v' (bordM op l).length (segCells (bordM op l))/\Below w.heap.size w w':=by
 obtain ⟨i0,hi0,hz0,hz1,hz2⟩:=info_parts infoSeg
 obtain ⟨a,cap,rfl,a1,a2,a3⟩:=hl
 unfold maxLen at a2
 have HA:=hide a3
 clear a3
 go_enter Tryz.func92,Tryz.ntmps92
 go_wp2_with fail
 go_loopw [5,7,8,9,12] (fun bv _ _ _ iv w'=>∃ k:Nat,iv = .int .i64 k/\k<=l.length/\w'.ownsRow w.heap.size 70 6 bv (bordM op (l.take k)).length (segCells (bordM op (l.take k)))/\Below w.heap.size w w') (fun _ _ _ _ iv _=>l.length-(intOf iv).toNat)
 case atStart=>exact ⟨0,rfl,Nat.zero_le _,World.ownsRow_nil _ _ _ _,Below.refl _ _⟩
 case round=>
  obtain ⟨k,rfl,hk,hO,hbel⟩:=hrel
  by_cases hlt:k<l.length
  ·obtain ⟨b,off,rfl,hb,hs⟩:=HA.out k hlt
   have hs':=hs.later hbel hb
   have HB:=hide (bord_take op l k hlt zPc)
   have hDl:(bordM op (l.take k)).length<=k:=Nat.le_trans (bord_len op _) (by simp;omega)
   generalize l.getD k zPc=x at *
   have c0:=hs' 0 (by decide)
   have c1:=hs' 1 (by decide)
   have c2:=hs' 2 (by decide)
   have c3:=hs' 3 (by decide)
   have c4:=hs' 4 (by decide)
   have c5:=hs' 5 (by decide)
   have c6:=hs' 6 (by decide)
   have c7:=hs' 7 (by decide)
   have c8:=hs' 8 (by decide)
   have c9:=hs' 9 (by decide)
   simp only [pcCell,Nat.add_zero,List.getElem?_cons_zero,List.getElem?_cons_succ] at c0 c1 c2 c3 c4 c5 c6 c7 c8 c9
   obtain ⟨W1,hW1⟩:∃ W,W=wr.alloc (.cells #[.int .i64 x.p.x,.int .i64 x.p.y,.int .i64 x.p.d,.int .i64 x.q.x,.int .i64 x.q.y,.int .i64 x.q.d,.bool x.la,.bool x.ra,.bool x.lb,.bool x.rb] 55):=⟨_,rfl⟩
   obtain ⟨pb,hpb⟩:∃ b,b=wr.heap.size:=⟨_,rfl⟩
   have B1:Below w.heap.size w W1:=by rw [hW1];exact hbel.alloc hbel.size _
   have O1:Hid (W1.ownsRow w.heap.size 70 6 u5 (bordM op (l.take k)).length (segCells (bordM op (l.take k)))):=by rw [hW1];exact hO.alloc _
   obtain ⟨cx,fx,zx⟩:Blk W1 pb #[.int .i64 x.p.x,.int .i64 x.p.y,.int .i64 x.p.d,.int .i64 x.q.x,.int .i64 x.q.y,.int .i64 x.q.d,.bool x.la,.bool x.ra,.bool x.lb,.bool x.rb]:=by rw [hW1,hpb];exact Blk.new wr _ _
   have x0:=cx 0
   have x1:=cx 1
   have x2:=cx 2
   have x3:=cx 3
   have x4:=cx 4
   have x5:=cx 5
   have x6:=cx 6
   have x7:=cx 7
   have x8:=cx 8
   have x9:=cx 9
   simp at x0 x1 x2 x3 x4 x5 x6 x7 x8 x9
   have hzz:=B1.size
   clear hs hs' hO hbel HA cx
   go_upto_region 5 with fail
   rw [<-hW1,<-hpb]
   clear hW1 hpb c0 c1 c2 c3 c4 c5 c6 c7 c8 c9
   go_wp2_with fail
   refine (isIn_any op x.la x.lb _).mono ?_
   rintro e' w2 ⟨rfl,hw2⟩
   rw [hw2]
   clear hw2 w2
   go_wp2_with fail
   refine (isIn_any op x.ra x.rb _).mono ?_
   rintro e' w2 ⟨rfl,hw2⟩
   rw [hw2]
   clear hw2 w2
   cases eL:inM op x.la x.lb
   ·cases eR:inM op x.ra x.rb
    ·skip
     have HN:Hid (bordM op (l.take (k+1))=bordM op (l.take k)):=by rw [HB.out];unfold bordOf;rw [eL,eR];exact hide (List.append_nil _)
     clear HB
     have O4:Hid (W1.ownsRow w.heap.size 70 6 u5 (bordM op (l.take (k+1))).length (segCells (bordM op (l.take (k+1))))):=by rw [HN.out];exact O1
     clear x0 x1 x2 x3 x4 x5 x6 x7 x8 x9 fx
     go_wp2
     go_roundw
     case rel=>exact ⟨k+1,by go_num,by omega,O4.out,B1⟩
     case measure=>simp [intOf];omega
    ·skip
     have HN:Hid (bordM op (l.take (k+1))=bordM op (l.take k) ++ [(x.q,x.p)]):=by rw [HB.out];unfold bordOf;rw [eL,eR];exact hide rfl
     clear HB
     generalize bordM op (l.take k)=D at *
     have hnews:=World.news_of_block (w:=W1.alloc (.cells #[.int .i64 x.q.x,.int .i64 x.q.y,.int .i64 x.q.d,.int .i64 x.p.x,.int .i64 x.p.y,.int .i64 x.p.d] 70)) (cs:=#[.int .i64 x.q.x,.int .i64 x.q.y,.int .i64 x.q.d,.int .i64 x.p.x,.int .i64 x.p.y,.int .i64 x.p.d]) (t:=70) (fr:=(0,0)) (heap_alloc_new W1 _)
     have hn1:D.length+1<=maxLen:=by unfold maxLen;omega
     have hn2:(D.length+1)*48<=140737488355328:=by omega
     go_wp2_with (at_builtin;refine wpList_append_lies _ rfl _ _ _ rfl w.heap.size 70 i0 _ 6 48 Tryz.underlying107 hi0 hz0 hz1 hz2 rfl (by omega) u5 D.length (segCells D) rfl (O1.out.alloc _) ⟨W1.heap.size,0,none⟩ 1 1 (segCell (x.q,x.p)) rfl rfl hnews (by simp [segCell,Value.oneCell']) (by omega) hn1 hn2 (by simp;omega) _ rfl ?_;intro gg cp w4 ho hgrow hat hlt4)
     have O4:Hid (w4.ownsRow w.heap.size 70 6 (.slice (some ⟨gg,0,none⟩) (D.length+1) cp) (bordM op (l.take (k+1))).length (segCells (bordM op (l.take (k+1))))):=by
      refine hide ?_
      rw [HN.out,segCells_snoc,List.length_append];exact ho
     have B4:Hid (Below w.heap.size w w4):=hide (Below.grown (B1.alloc B1.size _) hgrow (by have:=B1.size;simp;omega) (fun q hq=>(O1.out.lt q hq).1))
     clear ho hgrow hat hnews O1 B1 x0 x1 x2 x3 x4 x5 x6 x7 x8 x9 fx
     go_wp2
     go_roundw
     case rel=>exact ⟨k+1,by go_num,by omega,O4.out,B4.out⟩
     case measure=>simp [intOf];omega
   ·cases eR:inM op x.ra x.rb
    ·skip
     have HN:Hid (bordM op (l.take (k+1))=bordM op (l.take k) ++ [(x.p,x.q)]):=by rw [HB.out];unfold bordOf;rw [eL,eR];exact hide rfl
     clear HB
     generalize bordM op (l.take k)=D at *
     have hnews:=World.news_of_block (w:=W1.alloc (.cells #[.int .i64 x.p.x,.int .i64 x.p.y,.int .i64 x.p.d,.int .i64 x.q.x,.int .i64 x.q.y,.int .i64 x.q.d] 70)) (cs:=#[.int .i64 x.p.x,.int .i64 x.p.y,.int .i64 x.p.d,.int .i64 x.q.x,.int .i64 x.q.y,.int .i64 x.q.d]) (t:=70) (fr:=(0,0)) (heap_alloc_new W1 _)
     have hn1:D.length+1<=maxLen:=by unfold maxLen;omega
     have hn2:(D.length+1)*48<=140737488355328:=by omega
     go_wp2_with (at_builtin;refine wpList_append_lies _ rfl _ _ _ rfl w.heap.size 70 i0 _ 6 48 Tryz.underlying107 hi0 hz0 hz1 hz2 rfl (by omega) u5 D.length (segCells D) rfl (O1.out.alloc _) ⟨W1.heap.size,0,none⟩ 1 1 (segCell (x.p,x.q)) rfl rfl hnews (by simp [segCell,Value.oneCell']) (by omega) hn1 hn2 (by simp;omega) _ rfl ?_;intro gg cp w4 ho hgrow hat hlt4)
     have O4:Hid (w4.ownsRow w.heap.size 70 6 (.slice (some ⟨gg,0,none⟩) (D.length+1) cp) (bordM op (l.take (k+1))).length (segCells (bordM op (l.take (k+1))))):=by
      refine hide ?_
      rw [HN.out,segCells_snoc,List.length_append];exact ho
     have B4:Hid (Below w.heap.size w w4):=hide (Below.grown (B1.alloc B1.size _) hgrow (by have:=B1.size;simp;omega) (fun q hq=>(O1.out.lt q hq).1))
     clear ho hgrow hat hnews O1 B1 x0 x1 x2 x3 x4 x5 x6 x7 x8 x9 fx
     go_wp2
     go_roundw
     case rel=>exact ⟨k+1,by go_num,by omega,O4.out,B4.out⟩
     case measure=>simp [intOf];omega
    ·skip
     have HN:Hid (bordM op (l.take (k+1))=bordM op (l.take k)):=by rw [HB.out];unfold bordOf;rw [eL,eR];exact hide (List.append_nil _)
     clear HB
     have O4:Hid (W1.ownsRow w.heap.size 70 6 u5 (bordM op (l.take (k+1))).length (segCells (bordM op (l.take (k+1))))):=by rw [HN.out];exact O1
     clear x0 x1 x2 x3 x4 x5 x6 x7 x8 x9 fx
     go_wp2
     go_roundw
     case rel=>exact ⟨k+1,by go_num,by omega,O4.out,B1⟩
     case measure=>simp [intOf];omega
  ·have ek:l.take k=l:=List.take_of_length_le (by omega)
   rw [ek] at hO
   have HO:=hide hO
   clear HA hO
   go_wp2
   go_ret
   exact ⟨_,rfl,HO.out,hbel⟩
theorem infoInt:(Tryz.prog.info? 3).map (fun i=>(i.zero,i.size,i.bytes))=some (some (.int .i64 0),1,8):=by kernel_rfl
def numCells (l:List Nat):List Value:=l.map fun (k:Nat)=>.int .i64 (k:Int)
def folL (L:List (Pt×Pt))(i:Nat):List Nat:=(List.range i).map (fun j=>folM L j L.length)
theorem folL_succ (L:List (Pt×Pt))(i:Nat):folL L (i+1)=folL L i ++ [folM L i L.length]:=by
 unfold folL;rw [List.range_succ,List.map_append];rfl
theorem folL_len (L:List (Pt×Pt))(i:Nat):(folL L i).length=i:=by unfold folL;simp
set_option maxRecDepth 100000 in
set_option maxHeartbeats 20000000 in
theorem followers_any (v:Value)(L:List (Pt×Pt))(w:World)(hL:SegsAt w v L)(hG:GdE L)(hn:L.length<=1000000) :
  Calls Tryz.prog 93 #[v] w fun e w'=>∃ v',e = .returned v'/\w'.ownsRow w.heap.size 3 1 v' (nextsM L).length (numCells (nextsM L))/\Below w.heap.size w w':=by
 obtain ⟨a,cap,rfl,a1,a2,a3⟩:=hL
 unfold maxLen at a2
 have HA:=hide a3
 obtain ⟨i0,hi0,hz0,hz1,hz2⟩:=info_parts infoInt
 have HG:=hide hG
 clear a3 hG
 go_enter Tryz.func93,Tryz.ntmps93
 go_wp2_with fail
 go_loopw [3,4,5,6,7,8,11] (fun lv _ _ _ _ _ iv w'=>∃ i:Nat,iv = .int .i64 i/\i<=L.length/\w'.ownsRow w.heap.size 3 1 lv i (numCells (folL L i))/\Below w.heap.size w w') (fun _ _ _ _ _ _ iv _=>L.length-(intOf iv).toNat)
 case atStart=>exact ⟨0,rfl,Nat.zero_le _,World.ownsRow_nil _ _ _ _,Below.refl _ _⟩
 case round=>
  obtain ⟨i,rfl,hi,hO,hbel⟩:=hrel
  by_cases hlt:i<L.length
  ·obtain ⟨b,off,rfl,hb,hs⟩:=HA.out i hlt
   obtain ⟨c0,c1,c2,c3,c4,c5⟩:=hs.later hbel hb
   obtain ⟨g1,g2⟩:=HG.out i hlt
   have HFL:=hide (folL_succ L i)
   have HF0:=hide (show folM L i 0=i from rfl)
   have HFS:=hide (fun k=>show folM L i (k+1)=if cmpM (edg L k).1 (edg L i).2≠0 then folM L i k else if folM L i k=i\/aheadM (edg L k).2 (edg L (folM L i k)).2 (edg L i)=true then k else folM L i k from rfl)
   have HLT:=hide (fun k h=>fol_lt (L:=L) hlt k h)
   have hFl:=folL_len L i
   unfold edg at HFS
   generalize L.getD i (zP,zP)=e at *
   obtain ⟨W1,hW1⟩:∃ W,W=wr.alloc (.cells #[.int .i64 e.1.x,.int .i64 e.1.y,.int .i64 e.1.d,.int .i64 e.2.x,.int .i64 e.2.y,.int .i64 e.2.d] 70):=⟨_,rfl⟩
   obtain ⟨eb,heb⟩:∃ b,b=wr.heap.size:=⟨_,rfl⟩
   have B1:Below w.heap.size w W1:=by rw [hW1];exact hbel.alloc hbel.size _
   have O1:Hid (W1.ownsRow w.heap.size 3 1 u3 i (numCells (folL L i))):=by rw [hW1];exact hO.alloc _
   have E1:Blk W1 eb #[.int .i64 e.1.x,.int .i64 e.1.y,.int .i64 e.1.d,.int .i64 e.2.x,.int .i64 e.2.y,.int .i64 e.2.d]:=by rw [hW1,heb];exact Blk.new wr _ _
   clear hs hO
   go_upto_region 5 with fail
   rw [<-hW1,<-heb]
   clear hW1 heb c0 c1 c2 c3 c4 c5 hbel
   go_wp2_with fail
   go_loopw [6,7,8,19] (fun fv _ _ kv w'=>∃ k:Nat,kv = .int .i64 k/\k<=L.length/\fv = .int .i64 (folM L i k:Nat)/\Blk w' eb #[.int .i64 e.1.x,.int .i64 e.1.y,.int .i64 e.1.d,.int .i64 e.2.x,.int .i64 e.2.y,.int .i64 e.2.d]/\Hid (w'.ownsRow w.heap.size 3 1 u3 i (numCells (folL L i)))/\Below w.heap.size w w') (fun _ _ _ kv _=>L.length-(intOf kv).toNat)
   case atStart=>exact ⟨0,rfl,Nat.zero_le _,by rw [HF0.out],E1,O1,B1⟩
   case round=>
    clear E1 O1 B1
    obtain ⟨k,rfl,hk,rfl,hE,HO,hbel⟩:=hrel
    by_cases hkt:k<L.length
    ·obtain ⟨b',off',e',hb',hs⟩:=HA.out k hkt
     simp at e'
     obtain ⟨rfl,rfl⟩:=e'
     obtain ⟨d0,d1,d2,d3,d4,d5⟩:=hs.later hbel hb'
     obtain ⟨g3,g4⟩:=HG.out k hkt
     have hcl:=HLT.out k hk
     obtain ⟨b2,off2,e2,hb2,hs2⟩:=HA.out _ hcl
     simp at e2
     obtain ⟨rfl,rfl⟩:=e2
     obtain ⟨g5,g6⟩:=HG.out _ hcl
     have HS1:=hide (HFS.out k)
     generalize L.getD k (zP,zP)=f at *
     generalize hg:L.getD (folM L i k) (zP,zP)=g at *
     clear hg
     generalize hc:folM L i k=c at *
     clear hc
     obtain ⟨W2,hW2⟩:∃ W,W=wr.alloc (.cells #[.int .i64 f.1.x,.int .i64 f.1.y,.int .i64 f.1.d,.int .i64 f.2.x,.int .i64 f.2.y,.int .i64 f.2.d] 70):=⟨_,rfl⟩
     obtain ⟨fb,hfb⟩:∃ b,b=wr.heap.size:=⟨_,rfl⟩
     have B2:Below w.heap.size w W2:=by rw [hW2];exact hbel.alloc hbel.size _
     have HO2:Hid (W2.ownsRow w.heap.size 3 1 u3 i (numCells (folL L i))):=by rw [hW2];exact HO.out.alloc _
     have E2:Blk W2 eb #[.int .i64 e.1.x,.int .i64 e.1.y,.int .i64 e.1.d,.int .i64 e.2.x,.int .i64 e.2.y,.int .i64 e.2.d]:=by rw [hW2];exact hE.alloc _
     have F2:Blk W2 fb #[.int .i64 f.1.x,.int .i64 f.1.y,.int .i64 f.1.d,.int .i64 f.2.x,.int .i64 f.2.y,.int .i64 f.2.d]:=by rw [hW2,hfb];exact Blk.new wr _ _
     have hsz:=hbel.size
     clear hs
     go_upto_region 9 with fail
     rw [<-hW2,<-hfb]
     clear hW2 hfb d0 d1 d2 d3 d4 d5 hbel HO hE
     obtain ⟨ce,fe,ze⟩:=id E2
     obtain ⟨cf,ff,zf⟩:=id F2
     have CC:=fun wz=>Compare_any f.1 e.2 wz g3 g2
     have CA:=hide (fun wz=>isMetAhead_any f.2 g.2 e wz g4 g6 g1 g2)
     go_wp2_with fail
     refine (CC _).mono ?_
     rintro e' w3 ⟨rfl,k3⟩
     have B3:=bvia B2 k3
     have HO3:=hide (own_later HO2.out k3)
     have E3:=E2.call k3
     have F3:=F2.call k3
     have G3:=hs2.later B3 hb2
     clear ce fe ze cf ff zf CC B2 HO2 E2 F2 k3
     generalize hcm:cmpM f.1 e.2=cm at *
     by_cases hz:cm=0
     ·have hz':(cm != 0)=false:=by simpa using hz
      have HS2:Hid (folM L i (k+1)=if c=i\/aheadM f.2 g.2 e=true then k else c):=by rw [HS1.out,if_neg (by simpa using hz)];exact hide rfl
      clear HS1 HFS
      obtain ⟨ce,fe,ze⟩:=id E3
      obtain ⟨cf,ff,zf⟩:=id F3
      obtain ⟨q0,q1,q2,q3,q4,q5⟩:=G3
      have B4:=hide B3
      have E4:=hide E3
      have hzb:=B3.size
      clear E3 F3 B3
      go_upto_region 10 with fail
      go_cut [43] (fun cv w'=>cv = .bool (decide (c=i) || aheadM f.2 g.2 e)/\Below w3.heap.size w3 w')
      case first=>
       clear HS2 HA HG HLT HFL HF0 HO3 B4 E4
       by_cases hci:c=i
       ·subst hci
        clear CA
        go_quiet (fail)
        go_wp2
        go_meet
        case rel=>exact ⟨by simp,below_drewN (Below.refl _ _) _⟩
       ·have hci' : ¬ ((c:Int)=(i:Int)):=by omega
        have hc0:(0:Int)<=(c:Int):=Int.natCast_nonneg _
        have hc1:(c:Int)<(L.length:Int):=by omega
        have y0:=cf 3
        have y1:=cf 4
        have y2:=cf 5
        have y3:=ce 0
        have y4:=ce 1
        have y5:=ce 2
        have y6:=ce 3
        have y7:=ce 4
        have y8:=ce 5
        simp at y0 y1 y2 y3 y4 y5 y6 y7 y8
        have hb3:b<w3.heap.size:=by omega
        clear ce cf q0 q1 q2
        have hci1:((c:Int) == (i:Int))=false:=by simp;omega
        go_region_held3 (fun w'=>w'.cell? ⟨fb,3,none⟩=some (.int .i64 f.2.x)/\w'.cell? ⟨fb,4,none⟩=some (.int .i64 f.2.y)/\w'.cell? ⟨fb,5,none⟩=some (.int .i64 f.2.d)/\w'.cell? ⟨b,off+c*6+3,none⟩=some (.int .i64 g.2.x)/\w'.cell? ⟨b,off+c*6+4,none⟩=some (.int .i64 g.2.y)/\w'.cell? ⟨b,off+c*6+5,none⟩=some (.int .i64 g.2.d)/\w'.cell? ⟨eb,0,none⟩=some (.int .i64 e.1.x)/\w'.cell? ⟨eb,1,none⟩=some (.int .i64 e.1.y)/\w'.cell? ⟨eb,2,none⟩=some (.int .i64 e.1.d)/\w'.cell? ⟨eb,3,none⟩=some (.int .i64 e.2.x)/\w'.cell? ⟨eb,4,none⟩=some (.int .i64 e.2.y)/\w'.cell? ⟨eb,5,none⟩=some (.int .i64 e.2.d))
         (first
          | go_keep
          |(go_split_ands
            refine ⟨?_,?_,?_,?_,?_,?_,?_,?_,?_,?_,?_,?_⟩
            ·(
             rw [k4.cell (p:=⟨fb,3,none⟩) (by simp;omega)];assumption)
            ·(
             rw [k4.cell (p:=⟨fb,4,none⟩) (by simp;omega)];assumption)
            ·(
             rw [k4.cell (p:=⟨fb,5,none⟩) (by simp;omega)];assumption)
            ·(
             rw [k4.cell (p:=⟨b,off+c*6+3,none⟩) (by simp;omega)];assumption)
            ·(
             rw [k4.cell (p:=⟨b,off+c*6+4,none⟩) (by simp;omega)];assumption)
            ·(
             rw [k4.cell (p:=⟨b,off+c*6+5,none⟩) (by simp;omega)];assumption)
            ·(
             rw [k4.cell (p:=⟨eb,0,none⟩) (by simp;omega)];assumption)
            ·(
             rw [k4.cell (p:=⟨eb,1,none⟩) (by simp;omega)];assumption)
            ·(
             rw [k4.cell (p:=⟨eb,2,none⟩) (by simp;omega)];assumption)
            ·(
             rw [k4.cell (p:=⟨eb,3,none⟩) (by simp;omega)];assumption)
            ·(
             rw [k4.cell (p:=⟨eb,4,none⟩) (by simp;omega)];assumption)
            ·(
             rw [k4.cell (p:=⟨eb,5,none⟩) (by simp;omega)];assumption)))
         ((
          go_at_call 118;refine (CA.out _).mono ?_;rintro e' w4 ⟨rfl,k4⟩))
        all_goals
         go_wp2_with fail
         go_meet
         case rel=>exact ⟨by simp [hci],bvia (Below.refl _ _).drew k4⟩
      case rest=>
       obtain ⟨rfl,k4⟩:=hcut
       have B5:=bvia B4.out k4
       have E5:=E4.out.call k4
       have HO5:=hide (own_later HO3.out k4)
       clear B4 E4 HO3 CA k4 ce fe ze cf ff zf q0 q1 q2 q3 q4 q5
       cases hor:(decide (c=i) || aheadM f.2 g.2 e)
       ·have HS3:Hid (folM L i (k+1)=c):=by rw [HS2.out,if_neg (by simpa using hor)];exact hide rfl
        clear HS2 hor
        go_wp2
        go_roundw
        case rel=>exact ⟨k+1,by go_num,by omega,by rw [HS3.out],E5,HO5,B5⟩
        case measure=>simp [intOf];omega
       ·have HS3:Hid (folM L i (k+1)=k):=by rw [HS2.out,if_pos (by simpa using hor)];exact hide rfl
        clear HS2 hor
        go_wp2
        go_roundw
        case rel=>exact ⟨k+1,by go_num,by omega,by rw [HS3.out],E5,HO5,B5⟩
        case measure=>simp [intOf];omega
     ·have hz':(cm != 0)=true:=by simpa using hz
      have HS2:Hid (folM L i (k+1)=c):=by rw [HS1.out,if_pos hz];exact hide rfl
      clear HS1 HFS G3
      go_wp2
      go_roundw
      case rel=>exact ⟨k+1,by go_num,by omega,by rw [HS2.out],E3,HO3,B3⟩
      case measure=>simp [intOf];omega
    ·have ek:k=L.length:=by omega
     subst ek
     clear HFS HF0
     generalize folM L i L.length=c at *
     have hl1:=(HO.out.lt)
     have hnews:=World.news_of_block (w:=wr.alloc (.cells #[.int .i64 (c:Nat)] 3)) (cs:=#[.int .i64 (c:Nat)]) (t:=3) (fr:=(0,0)) (heap_alloc_new wr _)
     have hsz:=hbel.size
     go_wp2_with (at_builtin;refine wpList_append_lies _ rfl _ _ _ rfl w.heap.size 3 i0 _ 1 8 Tryz.underlying58 hi0 hz0 hz1 hz2 rfl (by omega) u3 i (numCells (folL L i)) rfl (HO.out.alloc _) ⟨wr.heap.size,0,none⟩ 1 1 [.int .i64 (c:Nat)] rfl rfl hnews (by simp [Value.oneCell']) (by omega) (by unfold maxLen;omega) (by omega) (by simp;omega) _ rfl ?_;intro gg cp w4 ho hgrow hat hlt4)
     have O4:Hid (w4.ownsRow w.heap.size 3 1 (.slice (some ⟨gg,0,none⟩) (i+1) cp) (i+1) (numCells (folL L (i+1)))):=by
      refine hide ?_
      rw [HFL.out];unfold numCells;rw [List.map_append];exact ho
     have B4:Hid (Below w.heap.size w w4):=hide (Below.grown (hbel.alloc hbel.size _) hgrow (by have:=hbel.size;simp;omega) (fun q hq=>(HO.out.lt q hq).1))
     clear ho hgrow hat hnews HO hE hbel hl1
     go_wp2
     go_roundw
     case rel=>exact ⟨i+1,by go_num,by omega,O4.out,B4.out⟩
     case measure=>simp [intOf];omega
  ·have ei:i=L.length:=by omega
   subst ei
   have HO:=hide hO
   clear hO HA HG
   go_wp2
   go_ret
   exact ⟨_,rfl,by rw [nexts_len];exact HO.out,hbel⟩
end Go.Proofs.YtnkcbephceollabGreat
