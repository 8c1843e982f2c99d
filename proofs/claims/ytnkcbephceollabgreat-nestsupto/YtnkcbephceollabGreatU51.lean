import Derived.Test.YtnkcbephceollabGreatU50
namespace Go.Proofs.YtnkcbephceollabGreat
open Go.RowKit
set_option linter.unusedSimpArgs false
set_option linter.unusedVariables false
abbrev ptA (p:Pt):Array Value:=#[.int .i64 p.x,.int .i64 p.y,.int .i64 p.d]
theorem prev_at {r:List Pt}{i:Nat}(hi:i<r.length):(0<i->(i+r.length-1) % r.length=i-1)/\(i=0->(i+r.length-1) % r.length=r.length-1):=by
 refine ⟨fun h=>?_,fun h=>?_⟩
 ·rw [show i+r.length-1=(i-1)+r.length by omega,Nat.add_mod_right,Nat.mod_eq_of_lt (by omega)]
 ·rw [h,Nat.zero_add,Nat.mod_eq_of_lt (by omega)]
theorem next_at {r:List Pt}{i:Nat}(hi:i<r.length):(i+1<r.length->(i+1) % r.length=i+1)/\(¬ i+1<r.length->(i+1) % r.length=0):=by
 refine ⟨fun h=>Nat.mod_eq_of_lt h,fun h=>?_⟩
 have:i+1=r.length:=by omega
 rw [this,Nat.mod_self]
set_option maxRecDepth 100000 in
set_option maxHeartbeats 4000000 in
theorem rHole_any (v:Value)(r:List Pt)(w:World)(hr:RingAt w v r)(hG:∀ p∈r,Gd p)(hn:r.length<=100000) :
  Calls Tryz.prog 59 #[v] w fun e w'=>e = .returned (.bool (holeM r))/\Below w.heap.size w w':=by
 obtain ⟨a,cap,rfl,a1,a2,a3⟩:=hr
 unfold maxLen at a2
 have HA:=hide a3
 have HG:=hide hG
 have HT:=hide (fun (h:∃ i,i<r.length/\holeAt r i=true)=>(hole_iff r).2 h)
 have HN:=hide (fun (h:∀ i,i<r.length->holeAt r i=false)=>(show holeM r=false by
  rw [Bool.eq_false_iff]
  intro k
  obtain ⟨i,hi,q⟩:=(hole_iff r).1 k
  rw [h i hi] at q;cases q))
 have HAT:=hide (fun i=>show holeAt r i=(placeB (r.getD i zP) (r.getD 0 zP) && decide (detM (r.getD ((i+r.length-1) % r.length) zP) (r.getD i zP) (r.getD ((i+1) % r.length) zP)<0)) from rfl)
 clear a3 hG
 generalize holeM r=res at *
 go_enter Tryz.func59,Tryz.ntmps59
 go_wp2_with fail
 go_loopw [6,7,8] (fun iv _ _ w'=>∃ (i:Nat) (p1 p2 p3:Pt),iv = .int .i64 i/\i<=r.length/\Blk w' w.heap.size (ptA p1)/\Blk w' (w.heap.size+1) (ptA p2)/\Blk w' (w.heap.size+1+1) (ptA p3)/\Below w.heap.size w w'/\Hid (∀ j,j<i->holeAt r j=false)) (fun iv _ _ _=>r.length-(intOf iv).toNat)
 case atStart=>exact ⟨0,zP,zP,zP,rfl,Nat.zero_le _,(((Blk.new w _ _).alloc _).alloc _),((Blk.at (w.heap.size+1) (by simp)).alloc _),Blk.at (w.heap.size+1+1) (by simp),(((Below.refl _ _).alloc (Nat.le_refl _) _).alloc (by simp) _).alloc (by simp;omega) _,hide (fun j hj=>absurd hj (by omega))⟩
 case round=>
  obtain ⟨i,p1,p2,p3,rfl,hi,P0,H0,N0,hbel,HJ⟩:=hrel
  by_cases hlt:i<r.length
  ·obtain ⟨b,off,rfl,hb,hp⟩:=HA.out i hlt
   obtain ⟨b1,off1,e1,_,hq⟩:=HA.out 0 (by omega)
   obtain ⟨b2,off2,e2,_,hl⟩:=HA.out (r.length-1) (by omega)
   simp at e1 e2
   obtain ⟨rfl,rfl⟩:=e1
   obtain ⟨rfl,rfl⟩:=e2
   have gp:=HG.out _ (getD_mem hlt zP)
   have gq:=HG.out _ (getD_mem (show 0<r.length by omega) zP)
   have gm:=HG.out _ (getD_mem (show (i+r.length-1) % r.length<r.length from Nat.mod_lt _ (by omega)) zP)
   have gn:=HG.out _ (getD_mem (show (i+1) % r.length<r.length from Nat.mod_lt _ (by omega)) zP)
   have HI:=hide (HAT.out i)
   have pv:=prev_at hlt
   have nx:=next_at hlt
   have HPM:Hid ((0<i/\∃ m,m=i-1/\∀ wz,Below w.heap.size w wz->PtAt wz b (off+m*3) (r.getD ((i+r.length-1) % r.length) zP))\/(i=0/\r.getD ((i+r.length-1) % r.length) zP=r.getD (r.length-1) zP)):=hide (by
    rcases Nat.eq_zero_or_pos i with k | k
    ·right;exact ⟨k,by rw [pv.2 k]⟩
    ·left
     refine ⟨k,i-1,rfl,fun wz kz=>?_⟩
     rw [pv.1 k]
     obtain ⟨b3,off3,e3,hb3,hh⟩:=HA.out (i-1) (by omega)
     simp at e3
     obtain ⟨rfl,rfl⟩:=e3
     exact hh.later kz hb3)
   have HNX:Hid ((i+1<r.length/\∀ wz,Below w.heap.size w wz->PtAt wz b (off+(i+1)*3) (r.getD ((i+1) % r.length) zP))\/(¬ i+1<r.length/\r.getD ((i+1) % r.length) zP=r.getD 0 zP)):=hide (by
    by_cases k:i+1<r.length
    ·left
     refine ⟨k,fun wz kz=>?_⟩
     rw [nx.1 k]
     obtain ⟨b3,off3,e3,hb3,hh⟩:=HA.out (i+1) k
     simp at e3
     obtain ⟨rfl,rfl⟩:=e3
     exact hh.later kz hb3
    ·right;exact ⟨k,by rw [nx.2 k]⟩)
   have HQ:=hide (fun wz (kz:Below w.heap.size w wz)=>hq.later kz hb)
   have HL:=hide (fun wz (kz:Below w.heap.size w wz)=>hl.later kz hb)
   obtain ⟨px,py,pd⟩:=hp.later hbel hb
   generalize r.getD ((i+r.length-1) % r.length) zP=pm at *
   generalize r.getD ((i+1) % r.length) zP=pn at *
   generalize r.getD i zP=p at *
   generalize r.getD 0 zP=q at *
   generalize r.getD (r.length-1) zP=l at *
   obtain ⟨n1,hn1⟩:∃ n,n=r.length-1:=⟨_,rfl⟩
   have en1:(r.length:Int)-1=(n1:Int):=by omega
   rw [<-hn1] at HL
   have hn1a:(0:Int)<=(n1:Int):=Int.natCast_nonneg _
   have hn1b:(n1:Int)<(r.length:Int):=by omega
   have hi0:(0:Int)<=(i:Int):=Int.natCast_nonneg _
   have hi1:(i:Int)<(r.length:Int):=by omega
   have hr0:(0:Int)<(r.length:Int):=by omega
   have hrN:0<r.length:=by omega
   have hrM : ¬ r.length=0:=by omega
   have nb0:b≠w.heap.size:=by omega
   have nb1:b≠w.heap.size+1:=by omega
   have nb2:b≠w.heap.size+1+1:=by omega
   have ewn:IntKind.i64.wrap (n1:Int)=(n1:Int):=IntWalk.i64_in _ (by omega)
   clear hp hq hl pv nx hn1 HA HG HAT
   obtain ⟨cp,fp,zp⟩:=id P0
   obtain ⟨ch,fh,zh⟩:=id H0
   obtain ⟨cn,fn,zn⟩:=id N0
   obtain ⟨W1,hW1⟩:∃ W,W=((wr.setCell ⟨w.heap.size+1,0,none⟩ (.int .i64 p.x)).setCell ⟨w.heap.size+1,1,none⟩ (.int .i64 p.y)).setCell ⟨w.heap.size+1,2,none⟩ (.int .i64 p.d):=⟨_,rfl⟩
   have P1:Blk W1 w.heap.size (ptA p1):=by rw [hW1];exact P0.off3 (by omega) _ _ _
   have H1:Blk W1 (w.heap.size+1) (ptA p):=by rw [hW1];exact H0.put3
   have N1:Blk W1 (w.heap.size+1+1) (ptA p3):=by rw [hW1];exact N0.off3 (by omega) _ _ _
   have B1:Below w.heap.size w W1:=by rw [hW1];exact below_set3 (o:=0) hbel (by omega)
   go_upto_region 6 with fail
   rw [<-hW1]
   clear hW1 cp fp zp ch fh zh cn fn zn P0 H0 N0 hbel px py pd
   obtain ⟨cp,fp,zp⟩:=id P1
   obtain ⟨lx,ly,ld⟩:=HL.out W1 B1
   obtain ⟨W2,hW2⟩:∃ W,W=((W1.setCell ⟨w.heap.size,0,none⟩ (.int .i64 l.x)).setCell ⟨w.heap.size,1,none⟩ (.int .i64 l.y)).setCell ⟨w.heap.size,2,none⟩ (.int .i64 l.d):=⟨_,rfl⟩
   have P2:Blk W2 w.heap.size (ptA l):=by rw [hW2];exact P1.put3
   have H2:Blk W2 (w.heap.size+1) (ptA p):=by rw [hW2];exact H1.off3 (by omega) _ _ _
   have N2:Blk W2 (w.heap.size+1+1) (ptA p3):=by rw [hW2];exact N1.off3 (by omega) _ _ _
   have B2:Below w.heap.size w W2:=by rw [hW2];exact below_set3 (o:=0) B1 (Nat.le_refl _)
   go_upto_if 26 with fail
   rw [<-hW2]
   clear hW2 cp fp zp P1 H1 N1 B1 lx ly ld HL
   have HP2:=hide (And.intro P2 (And.intro H2 (And.intro N2 B2)))
   clear H2 N2
   go_cut [7] from 9 to 58 (fun _ w'=>Blk w' w.heap.size (ptA pm)/\Blk w' (w.heap.size+1) (ptA p)/\Blk w' (w.heap.size+1+1) (ptA p3)/\Below w.heap.size w w')
   case first=>
    clear HT HN HJ HI HNX HQ
    rcases HPM.out with ⟨hz,m,hm,hpt⟩ | ⟨hz,rfl⟩
    ·have em:(i:Int)-1=(m:Int):=by omega
     have ek:IntKind.i64.wrap ((i:Int)-1)=(m:Int):=by rw [em];exact IntWalk.i64_in _ (by omega)
     have ek2:IntKind.i64.wrap (m:Int)=(m:Int):=IntWalk.i64_in _ (by omega)
     have hm0:(0:Int)<=(m:Int):=Int.natCast_nonneg _
     have hm1:(m:Int)<(r.length:Int):=by omega
     have hyes:(0:Int)<(i:Int):=by omega
     obtain ⟨mx,my,md⟩:=hpt W2 B2
     obtain ⟨cp,fp,zp⟩:=id P2
     clear hm hz hpt HPM
     go_wp2_with fail
     go_meet
     exact ⟨P2.put3,HP2.out.2.1.off3 (by omega) _ _ _,HP2.out.2.2.1.off3 (by omega) _ _ _,below_set3 (o:=0) B2 (Nat.le_refl _)⟩
    ·have hno : ¬ (0:Int)<(i:Int):=by omega
     clear hz HPM
     go_wp2_with fail
     go_meet
     exact HP2.out
   case rest=>
    clear HP2 P2 B2 HPM
    rename World=>W3
    obtain ⟨P3,H3,N3,B3⟩:=hcut
    obtain ⟨cn,fn,zn⟩:=id N3
    obtain ⟨qx,qy,qd⟩:=HQ.out W3 B3
    simp only [Nat.zero_mul,Nat.add_zero] at qx qy qd
    obtain ⟨W4,hW4⟩:∃ W,W=((W3.setCell ⟨w.heap.size+1+1,0,none⟩ (.int .i64 q.x)).setCell ⟨w.heap.size+1+1,1,none⟩ (.int .i64 q.y)).setCell ⟨w.heap.size+1+1,2,none⟩ (.int .i64 q.d):=⟨_,rfl⟩
    have P4:Blk W4 w.heap.size (ptA pm):=by rw [hW4];exact P3.off3 (by omega) _ _ _
    have H4:Blk W4 (w.heap.size+1) (ptA p):=by rw [hW4];exact H3.off3 (by omega) _ _ _
    have N4:Blk W4 (w.heap.size+1+1) (ptA q):=by rw [hW4];exact N3.put3
    have B4:Below w.heap.size w W4:=by rw [hW4];exact below_set3 (o:=0) B3 (by omega)
    have ewi:IntKind.i64.wrap ((i:Int)+1)=(i:Int)+1:=IntWalk.i64_in _ (by omega)
    go_upto_if 39 with fail
    rw [<-hW4]
    clear hW4 cn fn zn P3 H3 N3 B3 qx qy qd
    have HP4:=hide (And.intro P4 (And.intro H4 (And.intro N4 B4)))
    clear P4 H4
    go_cut [7] from 9 to 58 (fun _ w'=>Blk w' w.heap.size (ptA pm)/\Blk w' (w.heap.size+1) (ptA p)/\Blk w' (w.heap.size+1+1) (ptA pn)/\Below w.heap.size w w')
    case first=>
     clear HT HN HJ HI HQ
     rcases HNX.out with ⟨hz,hpt⟩ | ⟨hz,rfl⟩
     ·have hyes:(i:Int)+1<(r.length:Int):=by omega
      have hy0:(0:Int)<=(i:Int)+1:=by omega
      obtain ⟨mx,my,md⟩:=hpt W4 B4
      obtain ⟨cn,fn,zn⟩:=id N4
      clear hz hpt HNX
      go_wp2_with fail
      go_meet
      exact ⟨HP4.out.1.off3 (by omega) _ _ _,HP4.out.2.1.off3 (by omega) _ _ _,N4.put3,below_set3 (o:=0) B4 (by omega)⟩
     ·have hno : ¬ (i:Int)+1<(r.length:Int):=by omega
      clear hz HNX
      go_wp2_with fail
      go_meet
      exact HP4.out
    case rest=>
     clear HP4 N4 B4 HNX
     rename World=>W5
     obtain ⟨P5,H5,N5,B5⟩:=hcut
     obtain ⟨ch,fh,zh⟩:=id H5
     obtain ⟨qx,qy,qd⟩:=HQ.out W5 B5
     simp only [Nat.zero_mul,Nat.add_zero] at qx qy qd
     have hbw:b<W5.heap.size:=by have:=B5.size;omega
     have CP:=hide (fun wz=>rplace_any p q wz gp gq)
     have CD:=hide (fun wz=>rdet_any pm p pn wz gm gp gn)
     have HP5:=hide (And.intro P5 (And.intro H5 (And.intro N5 B5)))
     clear P5 H5 N5 B5 HQ
     go_upto_region 12 with fail
     go_cut [7] from 9 to 58 (fun fv w'=>fv = .bool (placeB p q)/\Below W5.heap.size W5 w')
     case first=>
      clear HT HN HJ HI HP5 CD
      have c0:=ch 0
      have c1:=ch 1
      have c2:=ch 2
      simp at c0 c1 c2
      go_region_held3 (fun w'=>w'.cell? ⟨w.heap.size+1,0,none⟩=some (.int .i64 p.x)/\w'.cell? ⟨w.heap.size+1,1,none⟩=some (.int .i64 p.y)/\w'.cell? ⟨w.heap.size+1,2,none⟩=some (.int .i64 p.d)/\w'.cell? ⟨b,off,none⟩=some (.int .i64 q.x)/\w'.cell? ⟨b,off+1,none⟩=some (.int .i64 q.y)/\w'.cell? ⟨b,off+2,none⟩=some (.int .i64 q.d))
       (first
        | go_keep
        |(go_split_ands
          refine ⟨?_,?_,?_,?_,?_,?_⟩
          ·(
           rw [k6.cell (p:=⟨w.heap.size+1,0,none⟩) (by simp;omega)];assumption)
          ·(
           rw [k6.cell (p:=⟨w.heap.size+1,1,none⟩) (by simp;omega)];assumption)
          ·(
           rw [k6.cell (p:=⟨w.heap.size+1,2,none⟩) (by simp;omega)];assumption)
          ·(
           rw [k6.cell (p:=⟨b,off,none⟩) (by simp;omega)];assumption)
          ·(
           rw [k6.cell (p:=⟨b,off+1,none⟩) (by simp;omega)];assumption)
          ·(
           rw [k6.cell (p:=⟨b,off+2,none⟩) (by simp;omega)];assumption)))
       ((
        go_at_call 73;refine (CP.out _).mono ?_;rintro e' w6 ⟨rfl,k6⟩))
      all_goals
       go_wp2_with fail
       go_meet
       case rel=>exact ⟨rfl,bvia (Below.refl _ _).drew k6⟩
     case rest=>
      obtain ⟨rfl,k6⟩:=hcut
      rename World=>W6
      have P6:=HP5.out.1.call k6
      have H6:=HP5.out.2.1.call k6
      have N6:=HP5.out.2.2.1.call k6
      have B6:=bvia HP5.out.2.2.2 k6
      clear HP5 k6 ch fh zh qx qy qd CP
      obtain ⟨cp,fp,zp⟩:=id P6
      obtain ⟨ch,fh,zh⟩:=id H6
      obtain ⟨cn,fn,zn⟩:=id N6
      go_wp2_with fail
      refine (CD.out _).mono ?_
      rintro e' w7 ⟨rfl,k7⟩
      have P7:=P6.call k7
      have H7:=H6.call k7
      have N7:=N6.call k7
      have B7:=bvia B6 k7
      clear k7 P6 H6 N6 B6 cp fp zp ch fh zh cn fn zn CD
      generalize detM pm p pn=dv at *
      generalize placeB p q=pb at *
      cases pb
      ·have HE:Hid (∀ j,j<i+1->holeAt r j=false):=hide fun j hj=>by
        by_cases e:j=i
        ·rw [e,HI.out];rfl
        ·exact HJ.out j (by omega)
       clear HT HN HJ HI
       go_wp2
       go_roundw
       case rel=>exact ⟨i+1,pm,p,pn,by go_num,by omega,P7,H7,N7,B7,HE⟩
       case measure=>simp [intOf];omega
      ·by_cases hd:dv<0
       ·have HE:Hid (res=true):=hide (HT.out ⟨i,hlt,by rw [HI.out,decide_eq_true hd];rfl⟩)
        clear HT HN HJ HI
        go_wp2
        go_ret
        exact ⟨ret_bool HE.out.symm,B7⟩
       ·have HE:Hid (∀ j,j<i+1->holeAt r j=false):=hide fun j hj=>by
         by_cases e:j=i
         ·rw [e,HI.out,decide_eq_false hd];rfl
         ·exact HJ.out j (by omega)
        have hd':decide (dv<0)=false:=decide_eq_false hd
        clear HT HN HJ HI
        go_wp2
        go_roundw
        case rel=>exact ⟨i+1,pm,p,pn,by go_num,by omega,P7,H7,N7,B7,HE⟩
        case measure=>simp [intOf];omega
  ·have HE:Hid (res=false):=hide (HN.out fun j hj=>HJ.out j (by omega))
   have hno : ¬ (i:Int)<(r.length:Int):=by omega
   clear HT HN HJ HA HG HAT P0 H0 N0
   go_wp2
   go_ret
   exact ⟨ret_bool HE.out.symm,hbel⟩
structure GoodR (R:List (List Pt)):Prop where
 few:FewR R
 good:∀ r∈R,∀ p∈r,goodB p=true
theorem rloc_ring {r:List Pt}{q:Pt}(hq:goodB q=true)(hG:∀ p∈r,goodB p=true):rlocM [r] q=whR r q:=rlocM_eq [r] q hq (fun p hp=>hG p (by rw [List.flatten_singleton] at hp;exact hp))
theorem rlocate_ring (v:Value)(r:List Pt)(q:Pt)(w:World)(hP:PolyAt w v [r])(hT:r.length<=100000)(hq:goodB q=true)(hG:∀ p∈r,goodB p=true) :
  Calls Tryz.prog 47 #[v,q.v] w fun e w'=>e = .returned (.int .i64 (whR r q))/\Below w.heap.size w w':=by
 rw [<-rloc_ring hq hG]
 exact rlocate_any v [r] q w hP (by rw [List.flatten_singleton];exact hT) hq (fun p hp=>hG p (by rw [List.flatten_singleton] at hp;exact hp))
def natCells (l:List Nat):List Value:=l.map fun (k:Nat)=>Value.int .i64 (k:Int)
theorem natCells_snoc (l:List Nat)(k:Nat):natCells (l ++ [k])=natCells l ++ [.int .i64 (k:Int)]:=by unfold natCells;simp
theorem natCells_at (l:List Nat)(j:Nat)(hj:j<l.length):(natCells l)[j]?=some (.int .i64 ((l.getD j 0:Nat):Int)):=by
 unfold natCells
 rw [List.getElem?_map,List.getElem?_eq_getElem hj,List.getD_eq_getElem?_getD,List.getElem?_eq_getElem hj];rfl
theorem hld_len (R:List (List Pt))(p:Pt)(n:Nat):(hldL R p n).length<=n:=by
 unfold hldL
 have:=List.length_filter_le (hldB R p) (List.range n)
 simpa using this
set_option maxRecDepth 100000 in
set_option maxHeartbeats 4000000 in
theorem holders_any (p:Pt)(v:Value)(R:List (List Pt))(w:World)(hR:PolyAt w v R)(hF:GoodR R)(gp:goodB p=true) :
  Calls Tryz.prog 60 #[v,p.v] w fun e w'=>∃ v',e = .returned v'/\w'.ownsRow (w.heap.size+1) 3 1 v' (hldL R p R.length).length (natCells (hldL R p R.length))/\Below w.heap.size w w':=by
 obtain ⟨i0,hi0,hz0,hz1,hz2⟩:=info_parts infoInt
 obtain ⟨a,cap,rfl,a1,a2,a3⟩:=hR
 unfold maxLen at a2
 have HA:=hide a3
 have HF:=hide hF
 have hfew:=hF.few.few
 have HS:=hide (hld_snoc R p)
 have HLE:=hide (hld_len R p)
 have HHB:=hide (fun k=>show hldB R p k=(!holeM (R.getD k []) && decide (whR (R.getD k []) p=1)) from rfl)
 clear a3 hF
 go_enter Tryz.func60,Tryz.ntmps60
 go_wp2_with fail
 go_loopw [5,6,7,8] (fun ov iv _ _ w'=>∃ k:Nat,iv = .int .i64 k/\k<=R.length/\w'.ownsRow (w.heap.size+1) 3 1 ov (hldL R p k).length (natCells (hldL R p k))/\Blk w' w.heap.size (ptA p)/\Below w.heap.size w w') (fun _ iv _ _ _=>R.length-(intOf iv).toNat)
 case atStart=>exact ⟨0,rfl,Nat.zero_le _,World.ownsRow_nil _ _ _ _,Blk.new w _ _,(Below.refl _ _).alloc (Nat.le_refl _) _⟩
 case round=>
  obtain ⟨k,rfl,hk,hO,hP,hbel⟩:=hrel
  by_cases hlt:k<R.length
  ·obtain ⟨b,off,rv,rfl,hb,hc,hring⟩:=HA.out k hlt
   have hc':=(hbel.cell (p:=⟨b,off+k,none⟩) hb).trans hc
   have HSk:=hide (HS.out k)
   have hle:=HLE.out k
   have HB:=hide (HHB.out k)
   have HRG:=hide (HF.out.few.good (R.getD k []) (getD_mem hlt []))
   have HRB:=hide (HF.out.good (R.getD k []) (getD_mem hlt []))
   have hsh:=HF.out.few.short k hlt
   have HRI:Hid (∀ wz,Below w.heap.size w wz->RingAt wz rv (R.getD k [])/\wz.cell? ⟨b,off+k,none⟩=some rv):=hide fun wz kz=>⟨hring.later kz,(kz.cell (p:=⟨b,off+k,none⟩) hb).trans hc⟩
   generalize R.getD k []=r at *
   obtain ⟨ra,rcap,rfl,r1,r2,r3⟩:=hring
   have C1:=hide (rHole_any _ r wr (HRI.out wr hbel).1 HRG.out hsh)
   have HO:=hide hO
   have HP:=hide hP
   have HBL:=hide hbel
   have hk0:(0:Int)<=(k:Int):=Int.natCast_nonneg _
   have hk1:(k:Int)<(R.length:Int):=by omega
   clear hO hP hbel HA HF HS HLE HHB hc r3
   go_wp2_with fail
   refine C1.out.mono ?_
   rintro e' w1 ⟨rfl,k1⟩
   have O1:=hide (own_later HO.out k1)
   have P1:=hide (HP.out.call k1)
   have B1:=hide (bvia HBL.out k1)
   clear HO HP HBL k1 C1 hc'
   cases hh:holeM r
   rotate_left
   ·have HE:Hid (hldL R p (k+1)=hldL R p k):=by rw [HSk.out,HB.out,hh];exact hide (by simp)
    clear HSk HB HRI HRG HRB
    go_wp2
    go_roundw
    case rel=>exact ⟨k+1,by go_num,by omega,by rw [HE.out];exact O1.out,P1.out,B1.out⟩
    case measure=>simp [intOf];omega
   ·obtain ⟨hr1,hcc⟩:=HRI.out w1 B1.out
    obtain ⟨cp,fp,zp⟩:=id P1.out
    have c0:=cp 0
    have c1:=cp 1
    have c2:=cp 2
    simp at c0 c1 c2
    have hbw:b<w1.heap.size:=by have:=B1.out.size;omega
    have C2:=hide (fun g (hg:g=w1.drew.heap.size)=>rlocate_ring (.slice (some ⟨g,0,none⟩) 1 1) r p (w1.drew.alloc (.cells #[.slice ra r.length rcap] 57)) (poly1 (hr1.later (Below.refl _ _).drew) 57 hg) hsh gp HRB.out)
    generalize whR r p=z at *
    clear hr1 cp fp HRI HRG HRB
    go_upto_region 7 with fail
    go_cut [8] from 9 to 33 (fun zv w'=>zv = .int .i64 z/\Below w1.heap.size w1 w')
    case first=>
     clear HSk HB O1 P1 B1 hle
     go_region_held3 (fun w'=>w'.cell? ⟨w.heap.size,0,none⟩=some (.int .i64 p.x)/\w'.cell? ⟨w.heap.size,1,none⟩=some (.int .i64 p.y)/\w'.cell? ⟨w.heap.size,2,none⟩=some (.int .i64 p.d)/\w'.cell? ⟨b,off+k,none⟩=some (.slice ra r.length rcap))
      (first
       | go_keep
       |(go_split_ands
         refine ⟨?_,?_,?_,?_⟩
         ·(
          rw [k6.cell (p:=⟨w.heap.size,0,none⟩) (by simp;omega)];assumption)
         ·(
          rw [k6.cell (p:=⟨w.heap.size,1,none⟩) (by simp;omega)];assumption)
         ·(
          rw [k6.cell (p:=⟨w.heap.size,2,none⟩) (by simp;omega)];assumption)
         ·(
          rw [k6.cell (p:=⟨b,off+k,none⟩) (by simp;omega)];assumption)))
      ((
       go_at_call 47;refine (C2.out _ rfl).mono ?_;rintro e' w6 ⟨rfl,k6⟩))
     all_goals
      go_wp2_with fail
      go_meet
      case rel=>exact ⟨rfl,bvia ((Below.refl _ _).drew.alloc (by simp) _) k6⟩
    case rest=>
     obtain ⟨rfl,k6⟩:=hcut
     have O2:=hide (own_later O1.out k6)
     have P2:=hide (P1.out.call k6)
     have B2:=hide (bvia B1.out k6)
     have z1:=B2.out.size
     clear O1 P1 B1 k6 c0 c1 c2 hcc C2
     by_cases hz:z=1
     ·have hz':(z == 1)=true:=by simpa using hz
      have HE:Hid (hldL R p (k+1)=hldL R p k ++ [k]):=by rw [HSk.out,HB.out,hh,hz];exact hide (by simp)
      generalize hldL R p k=D at *
      obtain ⟨D',hD'⟩:∃ D',D'=hldL R p (k+1):=⟨_,rfl⟩
      rw [<-hD'] at HE
      have hnews:=World.news_of_block (w:=wc.alloc (.cells #[.int .i64 (k:Int)] 3)) (cs:=#[.int .i64 (k:Int)]) (t:=3) (fr:=(0,0)) (heap_alloc_new wc _)
      have hn1:D.length+1<=maxLen:=by unfold maxLen;omega
      have hn2:(D.length+1)*8<=140737488355328:=by omega
      have HD':=hide hD'
      clear HSk HB hz hD'
      go_wp2_with (at_builtin;refine wpList_append_lies _ rfl _ _ _ rfl (w.heap.size+1) 3 i0 _ 1 8 Tryz.underlying58 hi0 hz0 hz1 hz2 rfl (by omega) u5 D.length (natCells D) rfl (O2.out.alloc _) ⟨wc.heap.size,0,none⟩ 1 1 [.int .i64 (k:Int)] rfl rfl hnews (by simp [Value.oneCell']) (by omega) hn1 hn2 (by have:=P2.out.lt;simp;omega) _ rfl ?_;intro gg cp w4 ho hgrow hat hlt4)
      have O4:Hid (w4.ownsRow (w.heap.size+1) 3 1 (.slice (some ⟨gg,0,none⟩) (D.length+1) cp) D'.length (natCells D')):=by
       refine hide ?_
       rw [HE.out,natCells_snoc,List.length_append];exact ho
      have P4:=hide ((P2.out.alloc _).grown hgrow (fun e=>by have:=(O2.out.lt _ e).1;omega))
      have B4:Hid (Below w.heap.size w w4):=hide (Below.grown (B2.out.alloc B2.out.size _) hgrow (by have:=B2.out.size;simp;omega) (fun q hq=>by have:=(O2.out.lt q hq).1;omega))
      clear ho hgrow hat hnews O2 P2 B2 HE
      go_wp2
      go_roundw
      case rel=>exact ⟨k+1,by go_num,by omega,by rw [<-HD'.out];exact O4.out,P4.out,B4.out⟩
      case measure=>simp [intOf];omega
     ·have hz':(z == 1)=false:=by simpa using hz
      have HE:Hid (hldL R p (k+1)=hldL R p k):=by rw [HSk.out,HB.out,hh];exact hide (by simp [hz])
      clear HSk HB
      go_wp2
      go_roundw
      case rel=>exact ⟨k+1,by go_num,by omega,by rw [HE.out];exact O2.out,P2.out,B2.out⟩
      case measure=>simp [intOf];omega
  ·have ek:k=R.length:=by omega
   subst ek
   have HO:=hide hO
   clear HA HF HS HLE HHB hO hP
   go_wp2
   go_ret
   exact ⟨_,rfl,HO.out,hbel⟩
theorem all_list (R:List (List Pt))(k:Nat)(l:List Nat):allIn R k l=true↔∀ j,j<l.length->∀ i,i<(R.getD k []).length->whR (R.getD (l.getD j 0) []) ((R.getD k []).getD i zP)≠0:=by
 unfold allIn
 rw [List.all_eq_true]
 constructor
 ·intro h j hj i hi
  exact of_decide_eq_true (List.all_eq_true.1 (h _ (getD_mem hj 0)) _ (getD_mem hi zP))
 ·intro h x hx
  obtain ⟨j,hj,rfl⟩:=List.getElem_of_mem hx
  refine List.all_eq_true.2 fun q hq=>decide_eq_true ?_
  obtain ⟨i,hi,rfl⟩:=List.getElem_of_mem hq
  have:=h j hj i hi
  rw [List.getD_eq_getElem?_getD (l:=l),List.getElem?_eq_getElem hj,List.getD_eq_getElem?_getD (l:=R.getD k []),List.getElem?_eq_getElem hi] at this
  exact this
set_option maxRecDepth 100000 in
set_option maxHeartbeats 4000000 in
theorem rinner_any (v lv:Value)(R:List (List Pt))(k:Nat)(l:List Nat)(base:Nat)(w:World)(hR:PolyAt w v R)(hF:GoodR R)(hk:k<R.length)(hl:w.ownsRow base 3 1 lv l.length (natCells l))(hm:∀ j,j<l.length->l.getD j 0<R.length)(hll:l.length<=100000) :
  Calls Tryz.prog 61 #[v,.int .i64 (k:Int),lv] w fun e w'=>e = .returned (.bool (allIn R k l))/\Below w.heap.size w w':=by
 obtain ⟨a,cap,rfl,a1,a2,a3⟩:=hR
 unfold maxLen at a2
 have HA:=hide a3
 have HF:=hide hF
 have HM:=hide hm
 have hT:=hide (fun (h:∀ j,j<l.length->∀ i,i<(R.getD k []).length->whR (R.getD (l.getD j 0) []) ((R.getD k []).getD i zP)≠0)=>(all_list R k l).2 h)
 have hN:=hide (fun (h:∃ j,j<l.length/\∃ i,i<(R.getD k []).length/\whR (R.getD (l.getD j 0) []) ((R.getD k []).getD i zP)=0)=>(show allIn R k l=false by
  rw [Bool.eq_false_iff]
  intro q
  obtain ⟨j,hj,i,hi,e⟩:=h
  exact (all_list R k l).1 q j hj i hi e))
 have HO:=hide hl
 obtain ⟨la,lcap,rfl,hag,hpos,hmx⟩:=own_form hl
 have HC:Hid (∀ j,j<l.length->∃ g,la=some ⟨g,0,none⟩/\g<w.heap.size/\w.cell? ⟨g,j,none⟩=some (.int .i64 ((l.getD j 0:Nat):Int))):=hide fun j hj=>by
  obtain ⟨g,hg⟩:=hpos (by omega)
  have eg:=hag g hg
  refine ⟨g,eg,(HO.out.lt g hg).2,?_⟩
  rw [own_cell HO.out g hg j (by omega)]
  exact natCells_at l j hj
 generalize allIn R k l=res at *
 obtain ⟨b,off,rv,rfl,hb,hc,hring⟩:=a3 k hk
 have hsk:=hF.few.short k hk
 have HGK:=hide (hF.good (R.getD k []) (getD_mem hk []))
 have HRK:Hid (∀ wz,Below w.heap.size w wz->wz.cell? ⟨b,off+k,none⟩=some rv):=hide fun wz kz=>(kz.cell (p:=⟨b,off+k,none⟩) hb).trans hc
 obtain ⟨ra,rcap,rfl,r1,r2,r3⟩:=hring
 unfold maxLen at r2
 have HR3:=hide r3
 have hk0:(0:Int)<=(k:Int):=Int.natCast_nonneg _
 have hk1:(k:Int)<(R.length:Int):=by omega
 have hRl:=hF.few.few
 obtain ⟨rk,hrk⟩:∃ r,r=R.getD k []:=⟨_,rfl⟩
 rw [<-hrk] at hsk HGK HRK HR3 hT hN r1
 clear a3 hF hm hl hag hpos r3 hc hrk
 go_enter Tryz.func61,Tryz.ntmps61
 go_wp2_with fail
 go_loopw [7,8,9,10] (fun jv _ _ _ w'=>∃ j:Nat,jv = .int .i64 j/\j<=l.length/\Below w.heap.size w w'/\Hid (∀ j',j'<j->∀ i,i<rk.length->whR (R.getD (l.getD j' 0) []) (rk.getD i zP)≠0)) (fun jv _ _ _ _=>l.length-(intOf jv).toNat)
 case atStart=>exact ⟨0,rfl,Nat.zero_le _,Below.refl _ _,hide (fun j hj=>absurd hj (by omega))⟩
 case round=>
  obtain ⟨j,rfl,hj,hbel,HJ⟩:=hrel
  by_cases hlt:j<l.length
  ·obtain ⟨g,rfl,hg,hcell⟩:=HC.out j hlt
   have hcell':=(hbel.cell (p:=⟨g,j,none⟩) hg).trans hcell
   have hml:=HM.out j hlt
   have HJS:Hid ((∀ i,i<rk.length->whR (R.getD (l.getD j 0) []) (rk.getD i zP)≠0)->∀ j',j'<j+1->∀ i,i<rk.length->whR (R.getD (l.getD j' 0) []) (rk.getD i zP)≠0):=hide fun h j' hj' i hi=>by
    by_cases e:j'=j
    ·rw [e];exact h i hi
    ·exact HJ.out j' (by omega) i hi
   have HNJ:Hid ((∃ i,i<rk.length/\whR (R.getD (l.getD j 0) []) (rk.getD i zP)=0)->res=false):=hide fun h=>hN.out ⟨j,hlt,h⟩
   obtain ⟨b2,off2,rv2,e2,hb2,hc2,hring2⟩:=HA.out (l.getD j 0) hml
   simp at e2
   obtain ⟨rfl,rfl⟩:=e2
   have hc2':=(hbel.cell (p:=⟨b,off+l.getD j 0,none⟩) hb).trans hc2
   have hso:=HF.out.few.short _ hml
   have HGO:=hide (HF.out.good _ (getD_mem hml []))
   have HRO:Hid (RingAt wr rv2 (R.getD (l.getD j 0) [])):=hide (hring2.later hbel)
   generalize R.getD (l.getD j 0) []=o at *
   generalize l.getD j 0=x at *
   obtain ⟨oa,ocap,rfl,_,_,_⟩:=hring2
   have hj0:(0:Int)<=(j:Int):=Int.natCast_nonneg _
   have hj1:(j:Int)<(l.length:Int):=by omega
   have hx0:(0:Int)<=(x:Int):=Int.natCast_nonneg _
   have hx1:(x:Int)<(R.length:Int):=by omega
   obtain ⟨W1,hW1⟩:∃ W,W=wr.alloc (.cells #[.slice oa o.length ocap] 57):=⟨_,rfl⟩
   obtain ⟨g1,hg1⟩:∃ g,g=wr.heap.size:=⟨_,rfl⟩
   have B1:Below w.heap.size w W1:=by rw [hW1];exact hbel.alloc hbel.size _
   have PO:Hid (PolyAt W1 (.slice (some ⟨g1,0,none⟩) 1 1) [o]):=hide (by rw [hW1];exact poly1 HRO.out _ hg1)
   clear HJ hcell hc2 HC HM HA HF HRO hT hN
   go_upto_region 5 with fail
   rw [<-hW1,<-hg1]
   clear hW1 hg1 hcell' hc2' hbel
   go_wp2_with fail
   go_loopw [9,10] (fun iv _ w'=>∃ i:Nat,iv = .int .i64 i/\i<=rk.length/\Below W1.heap.size W1 w'/\Hid (∀ i',i'<i->whR o (rk.getD i' zP)≠0)) (fun iv _ _=>rk.length-(intOf iv).toNat)
   case atStart=>exact ⟨0,rfl,Nat.zero_le _,Below.refl _ _,hide (fun i hi=>absurd hi (by omega))⟩
   case round=>
    obtain ⟨i,rfl,hi,hbi,HI⟩:=hrel
    have BI:=bvia B1 hbi
    have hck:=HRK.out wr BI
    by_cases hil:i<rk.length
    ·obtain ⟨pb,po,rfl,hpb,hp⟩:=HR3.out i hil
     obtain ⟨px,py,pd⟩:=hp.later BI hpb
     have CL:=hide (rlocate_ring _ o (rk.getD i zP) wr (PO.out.later hbi) hso (HGK.out _ (getD_mem hil zP)) HGO.out)
     have HIS:Hid (whR o (rk.getD i zP)≠0->∀ i',i'<i+1->whR o (rk.getD i' zP)≠0):=hide fun h i' hi'=>by
      by_cases e:i'=i
      ·rw [e];exact h
      ·exact HI.out i' (by omega)
     have HIN:Hid (whR o (rk.getD i zP)=0->res=false):=hide fun h=>HNJ.out ⟨i,hil,h⟩
     generalize rk.getD i zP=p at *
     have hi0:(0:Int)<=(i:Int):=Int.natCast_nonneg _
     have hi1:(i:Int)<(rk.length:Int):=by omega
     have HBI:=hide hbi
     clear hp HI hbi
     go_wp2_with fail
     refine CL.out.mono ?_
     rintro e' w2 ⟨rfl,k2⟩
     have B2:=hide (bvia HBI.out k2)
     clear CL k2 HBI px py pd hck BI
     generalize whR o p=z at *
     by_cases hz:z=0
     ·have hz':(z == 0)=true:=by simpa using hz
      have HE:=hide (HIN.out hz)
      have BB:=hide (bvia B1 B2.out)
      clear HIS HIN HNJ HJS hz HGK HGO HR3 HRK PO
      go_wp2
      go_ret
      exact ⟨ret_bool HE.out.symm,BB.out⟩
     ·have hz':(z == 0)=false:=by simpa using hz
      have HE:=hide (HIS.out hz)
      clear HIS HIN hz
      go_wp2
      go_roundw
      case rel=>exact ⟨i+1,by go_num,by omega,B2.out,HE⟩
      case measure=>simp [intOf];omega
    ·have hno : ¬ (i:Int)<(rk.length:Int):=by omega
     have HE:=hide (HJS.out fun i' hi'=>HI.out i' (by omega))
     have HBI:=hide BI
     clear HI HJS HNJ BI hbi
     go_wp2
     go_roundw
     case rel=>exact ⟨j+1,by go_num,by omega,HBI.out,HE⟩
     case measure=>simp [intOf];omega
  ·have HE:Hid (res=true):=hide (hT.out fun j' hj' i hi=>HJ.out j' (by omega) i hi)
   have hno : ¬ (j:Int)<(l.length:Int):=by omega
   clear HA HF HM hT hN HO HC HJ HR3 HGK HRK
   go_wp2
   go_ret
   exact ⟨ret_bool HE.out.symm,hbel⟩
end Go.Proofs.YtnkcbephceollabGreat
