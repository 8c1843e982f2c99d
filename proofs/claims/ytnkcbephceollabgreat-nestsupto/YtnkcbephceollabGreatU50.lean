import Derived.Test.YtnkcbephceollabGreatU49
import Derived.Test.YtnkcbephceollabGreatU40
namespace Go.Proofs.YtnkcbephceollabGreat
open Go.RowKit
set_option linter.unusedSimpArgs false
set_option linter.unusedVariables false
theorem poly1 {w:World}{v:Value}{r:List Pt}{g:Nat}(h:RingAt w v r)(t:TypeId)(hg:g=w.heap.size):PolyAt (w.alloc (.cells #[v] t)) (.slice (some ⟨g,0,none⟩) 1 1) [r]:=by
 subst hg
 refine ⟨some ⟨w.heap.size,0,none⟩,1,rfl,Nat.le_refl _,by decide,fun i hi=>?_⟩
 obtain rfl:i=0:=by simp at hi;omega
 exact ⟨_,0,_,rfl,by simp,(World.cell?_alloc_at _ _ _ _ rfl).trans rfl,h.later ((Below.refl _ _).alloc (Nat.le_refl _) _)⟩
set_option maxHeartbeats 1000000 in
theorem nlocate_any (v:Value)(r:List Pt)(p:Pt)(w:World)(hr:RingAt w v r) :
  Calls Tryz.prog 122 #[v,p.v] w fun e w'=>e = .returned (.int .i64 (atM r p))/\Below w.heap.size w w':=by
 have B0:Below w.heap.size w (w.alloc (.cells #[.int .i64 p.x,.int .i64 p.y,.int .i64 p.d] 31)):=(Below.refl _ _).alloc (Nat.le_refl _) _
 have hr1:=hr.later B0
 have B1:=B0.alloc (by simp) (.cells #[v] 57)
 have C:=hide (polyLocate_any (.slice (some ⟨w.heap.size+1,0,none⟩) 1 1) [r] p _ (poly1 hr1 57 (by simp)))
 have HA:=hide (show atM r p=(locM [r] p).1 from rfl)
 generalize atM r p=z at *
 obtain ⟨a,cap,rfl,_,_,_⟩:=id hr
 clear hr1
 go_enter Tryz.func122,Tryz.ntmps122
 go_wp2_with fail
 refine C.out.mono ?_
 rintro e w1 ⟨rfl,k⟩
 have B2:=bvia B1 k
 clear k C
 go_wp2
 go_ret
 exact ⟨ret_int HA.out.symm,B2⟩
set_option maxRecDepth 100000 in
set_option maxHeartbeats 2000000 in
theorem isWithin_any (v v':Value)(r o:List Pt)(w:World)(hr:RingAt w v r)(ho:RingAt w v' o) :
  Calls Tryz.prog 123 #[v,v'] w fun e w'=>e = .returned (.bool (withinM r o))/\Below w.heap.size w w':=by
 obtain ⟨a,cap,rfl,a1,a2,a3⟩:=hr
 have HO:=hide ho
 obtain ⟨a',cap',rfl,_,_,_⟩:=ho
 unfold maxLen at a2
 have HA:=hide a3
 have HI:Hid (withinM r o=withinM (r.drop 0) o):=rfl
 clear a3
 generalize withinM r o=res at *
 go_enter Tryz.func123,Tryz.ntmps123
 go_wp2_with fail
 go_loopw [6,9] (fun _ iv w'=>∃ k:Nat,iv = .int .i64 k/\k<=r.length/\Below w.heap.size w w'/\Hid (res=withinM (r.drop k) o)) (fun _ iv _=>r.length-(intOf iv).toNat)
 case atStart=>exact ⟨0,rfl,Nat.zero_le _,Below.refl _ _,HI⟩
 case round=>
  clear HI
  obtain ⟨k,rfl,hk,hbel,HR⟩:=hrel
  by_cases hlt:k<r.length
  ·obtain ⟨b,off,rfl,hb,hs⟩:=HA.out k hlt
   obtain ⟨c0,c1,c2⟩:=hs.later hbel hb
   have HD:=hide (within_drop o r k hlt)
   generalize r.getD k zP=p at *
   obtain ⟨W1,hW1⟩:∃ W,W=wr.alloc (.cells #[.int .i64 p.x,.int .i64 p.y,.int .i64 p.d] 31):=⟨_,rfl⟩
   have B1:Below w.heap.size w W1:=by rw [hW1];exact hbel.alloc hbel.size _
   obtain ⟨cp,fp,zp⟩:Blk W1 wr.heap.size #[.int .i64 p.x,.int .i64 p.y,.int .i64 p.d]:=by rw [hW1];exact Blk.new wr _ _
   have C:=hide (nlocate_any _ o p W1 (HO.out.later B1))
   clear hs HA
   go_upto_region 4 with fail
   rw [<-hW1]
   clear hW1 c0 c1 c2 hbel
   go_wp2_with fail
   refine C.out.mono ?_
   rintro e' w2 ⟨rfl,k2⟩
   have B2:=bvia B1 k2
   clear cp fp zp B1 k2 C
   generalize atM o p=z at *
   by_cases hz:z=0
   ·have HE:Hid (res=false):=by rw [HR.out,HD.out,hz];exact hide rfl
    have hz':(z == 0)=true:=by simpa using hz
    clear HR HD
    go_wp2
    go_ret
    exact ⟨ret_bool HE.out.symm,B2⟩
   ·have HE:Hid (res=withinM (r.drop (k+1)) o):=by rw [HR.out,HD.out];exact hide (by simp [hz])
    have hz':(z == 0)=false:=by simpa using hz
    clear HR HD
    go_wp2
    go_roundw
    case rel=>exact ⟨k+1,by go_num,by omega,B2,HE⟩
    case measure=>simp [intOf];omega
  ·have HE:Hid (res=true):=by rw [HR.out,List.drop_of_length_le (by omega)];exact hide rfl
   clear HA HR
   go_wp2
   go_ret
   exact ⟨ret_bool HE.out.symm,hbel⟩
theorem gdE_ring {r:List Pt}(h:∀ p∈r,Gd p):GdE (ringEdges r):=fun j hj=>by
 have hj':j<r.length:=by rw [ringEdges_len] at hj;exact hj
 have e:(ringEdges r).getD j (zP,zP)=edgeAt r j:=by
  unfold ringEdges
  rw [List.getD_eq_getElem?_getD,List.getElem?_map,List.getElem?_range hj'];rfl
 rw [e]
 unfold edgeAt
 refine ⟨h _ (getD_mem hj' zP),h _ (getD_mem (i:=if j+1=r.length then 0 else j+1) ?_ zP)⟩
 split <;> omega
set_option maxRecDepth 100000 in
set_option maxHeartbeats 4000000 in
theorem isHole_any (v:Value)(r:List Pt)(w:World)(hr:RingAt w v r)(hG:∀ p∈r,Gd p)(hn:r.length<=100000) :
  Calls Tryz.prog 100 #[v] w fun e w'=>e = .returned (.bool (holeM r))/\Below w.heap.size w w':=by
 have HR:=hide hr
 obtain ⟨a,cap,rfl,a1,a2,a3⟩:=hr
 unfold maxLen at a2
 by_cases h0:r.length=0
 ·have HE:Hid (holeM r=false):=if_pos h0
  have h0':((r.length:Int) == 0)=true:=by rw [h0];rfl
  clear a3
  go_enter Tryz.func100,Tryz.ntmps100
  go_wp2
  go_ret
  exact ⟨ret_bool HE.out.symm,Below.refl _ _⟩
 obtain ⟨n,hn1⟩:∃ n,r.length=n+1:=⟨r.length-1,by omega⟩
 have HE:Hid (holeM r=holeG (r.getD 0 zP) (ringEdges r) (r.getD n zP)):=by
  unfold holeM;rw [if_neg h0,hn1];exact hide rfl
 have HGE:=hide (gdE_ring hG)
 have gF:Gd (r.getD 0 zP):=hG _ (getD_mem (by omega) zP)
 have gL:Gd (r.getD n zP):=hG _ (getD_mem (by omega) zP)
 obtain ⟨b,off,rfl,hb,hs0⟩:=a3 0 (by omega)
 obtain ⟨b',off',e',_,hsn⟩:=a3 n (by omega)
 simp at e'
 obtain ⟨rfl,rfl⟩:=e'
 have hel:=ringEdges_len r
 generalize holeM r=res at *
 generalize r.getD 0 zP=f at *
 generalize r.getD n zP=q at *
 obtain ⟨d0,d1,d2⟩:=hsn
 have HF:=hide hs0
 have h0':((r.length:Int) == 0)=false:=by rw [beq_eq_false_iff_ne];omega
 have hb':=hb
 obtain ⟨W2,hW2⟩:∃ W,W=(w.alloc (.cells #[.int .i64 q.x,.int .i64 q.y,.int .i64 q.d] 31)).alloc (.cells #[.slice (some ⟨b,off,none⟩) r.length cap] 57):=⟨_,rfl⟩
 have z2:W2.heap.size=w.heap.size+2:=by rw [hW2];simp
 have B2:Below w.heap.size w W2:=by rw [hW2];exact ((Below.refl _ _).alloc (Nat.le_refl _) _).alloc (by simp) _
 have Q2:Blk W2 w.heap.size #[.int .i64 q.x,.int .i64 q.y,.int .i64 q.d]:=by rw [hW2];exact (Blk.new w _ _).alloc _
 have C:=hide (show Calls Tryz.prog 75 #[.slice (some ⟨w.heap.size+1,0,none⟩) 1 1] W2 _ from by
  have:=Edges_own (.slice (some ⟨w.heap.size+1,0,none⟩) 1 1) [r] W2 (by rw [hW2];exact poly1 (HR.out.later ((Below.refl _ _).alloc (Nat.le_refl _) _)) _ (by simp)) (by rw [edges_one,hel];exact hn)
  exact this)
 rw [edges_one] at C
 generalize ringEdges r=E at *
 clear a3 hG HR hs0
 have hnl:(r.length:Int)-1=(n:Int):=by omega
 have hn0:(0:Int)<=(n:Int):=Int.natCast_nonneg _
 have hn2:(n:Int)<(r.length:Int):=by omega
 clear hn1
 have hpb:b≠w.heap.size:=by omega
 have HFz:Hid (∀ wz,Below w.heap.size w wz->PtAt wz b off f):=hide fun wz kz=>by
  have:=HF.out.later kz hb
  simpa using this
 go_enter Tryz.func100,Tryz.ntmps100
 go_wp2_with fail
 rw [<-hW2]
 clear hW2 d0 d1 d2 HF
 refine C.out.mono ?_
 rintro e w3 ⟨ev,rfl,o3,k3⟩
 have S3:=segs_of_own o3 (by unfold maxLen;omega)
 have hlo:=fun g hg=>(o3.lt g hg).1
 have z3:=k3.size
 obtain ⟨ea,ecap,rfl,hag,hpos,hmx⟩:=own_form o3
 obtain ⟨ea',ecap',ee,e1,e2,e3⟩:=id S3
 injection ee with ee1 ee2 ee3
 subst ee1
 have HSeg:Hid (∀ wz,Kp (fun x=>x=w.heap.size) w3 wz->∀ j,j<E.length->∃ g,ea=some ⟨g,0,none⟩/\g<w3.heap.size/\SegAt wz g (0+j*6) (edg E j)):=hide fun wz kz j hj=>by
  obtain ⟨g,hg⟩:=hpos (by omega)
  have eg:=hag g hg
  obtain ⟨b',off',eb,hb',hs⟩:=e3 j hj
  rw [eg] at eb
  simp at eb
  obtain ⟨rfl,rfl⟩:=eb
  refine ⟨g,eg,hb',hs.kp kz ?_⟩
  have:=hlo g (by rw [eg];rfl)
  omega
 have B3:=hide (bvia B2 k3)
 have Q3:=hide (Q2.call k3)
 clear o3 k3 S3 hlo hag hpos e3 B2 Q2 C
 go_wp2_with fail
 go_loopw [5,6,20] (fun _ _ iv w'=>∃ (k:Nat) (q:Pt),iv = .int .i64 k/\k<=E.length/\Gd q/\Blk w' w.heap.size #[.int .i64 q.x,.int .i64 q.y,.int .i64 q.d]/\Kp (fun x=>x=w.heap.size) w3 w'/\Hid (res=holeG f (E.drop k) q)) (fun _ _ iv _=>E.length-(intOf iv).toNat)
 case atStart=>exact ⟨0,q,rfl,Nat.zero_le _,gL,Q3.out,Kp.refl _ _,HE⟩
 case round=>
  clear HE Q3
  obtain ⟨k,q,rfl,hk,gq,hQ,hK,HR⟩:=hrel
  by_cases hlt:k<E.length
  ·obtain ⟨g,rfl,hg3,hs⟩:=HSeg.out wr hK k hlt
   have HD:=hide (holeG_drop f E k hlt q)
   obtain ⟨g1,g2⟩:=edg_good HGE.out k
   generalize edg E k=e at *
   obtain ⟨c0,c1,c2,c3,c4,c5⟩:=hs
   rw [Nat.zero_add] at c0 c1 c2 c3 c4 c5
   have BW:Below w.heap.size w wr:=below_kp B3.out hK B3.out.size (fun b h=>by omega)
   have zz:=BW.size
   obtain ⟨W1,hW1⟩:∃ W,W=wr.alloc (.cells #[.int .i64 e.1.x,.int .i64 e.1.y,.int .i64 e.1.d,.int .i64 e.2.x,.int .i64 e.2.y,.int .i64 e.2.d] 70):=⟨_,rfl⟩
   obtain ⟨eb,heb⟩:∃ b,b=wr.heap.size:=⟨_,rfl⟩
   have B1:Hid (Below w.heap.size w W1):=by rw [hW1];exact hide (BW.alloc zz _)
   have E1:Hid (Blk W1 eb #[.int .i64 e.1.x,.int .i64 e.1.y,.int .i64 e.1.d,.int .i64 e.2.x,.int .i64 e.2.y,.int .i64 e.2.d]):=by rw [hW1,heb];exact hide (Blk.new wr _ _)
   have Q1:Hid (Blk W1 w.heap.size #[.int .i64 q.x,.int .i64 q.y,.int .i64 q.d]):=by rw [hW1];exact hide (hQ.alloc _)
   have K1:Hid (Kp (fun x=>x=w.heap.size) w3 W1):=by rw [hW1];exact hide (hK.alloc _)
   have hebl:w.heap.size<eb:=by have:=hQ.lt;omega
   have CC:=hide (fun wz=>Compare_any e.1 f wz g1 gF)
   have CS:=hide (fun wz=>Side_any q e.1 e.2 wz gq g1 g2)
   clear hQ hK BW HSeg
   go_upto_region 7 with fail
   rw [<-hW1,<-heb]
   clear hW1 heb c0 c1 c2 c3 c4 c5
   obtain ⟨ce,fe,ze⟩:=id E1.out
   obtain ⟨f0,f1,f2⟩:=HFz.out W1 B1.out
   have hr0:(0:Int)<(r.length:Int):=by omega
   go_cut [6] (fun fv w'=>fv = .bool (cmpM e.1 f == 0)/\Below W1.heap.size W1 w')
   case first=>
    clear HR HD B1 E1 Q1 K1 CS HFz
    go_region_with (go_at_call 117;refine (CC.out _).mono ?_;rintro e' w4 ⟨rfl,k4⟩)
    all_goals
     go_wp2_with fail
     go_meet
     case rel=>exact ⟨rfl,bvia (Below.refl _ _).drew k4⟩
   case rest=>
    obtain ⟨rfl,k4⟩:=hcut
    have B4:=hide (bvia B1.out k4)
    have E4:=hide (E1.out.call k4)
    have Q4:=hide (Q1.out.call k4)
    have K4:=hide (K1.out.trans (Kp.of k4))
    clear ce fe ze f0 f1 f2 B1 E1 Q1 K1 k4 CC
    obtain ⟨ce,fe,ze⟩:=id E4.out
    obtain ⟨cq,fq,zq⟩:=id Q4.out
    generalize cmpM e.1 f=cm at *
    by_cases hz:cm=0
    ·have hz':(cm == 0)=true:=by simpa using hz
     go_wp2_with fail
     refine (CS.out _).mono ?_
     rintro e' w5 ⟨rfl,k5⟩
     have B5:=hide (bvia B4.out k5)
     have E5:=hide (E4.out.call k5)
     have Q5:=hide (Q4.out.call k5)
     have K5:=hide (K4.out.trans (Kp.of k5))
     clear ce fe ze cq fq zq B4 E4 Q4 K4 k5 CS
     obtain ⟨ce,fe,ze⟩:=id E5.out
     obtain ⟨cq,fq,zq⟩:=id Q5.out
     generalize detM q e.1 e.2=dd at *
     by_cases hd:dd<0
     ·have HE:Hid (res=true):=by rw [HR.out,HD.out,if_pos ⟨hz,hd⟩];exact hide rfl
      clear HR HD
      go_wp2
      go_ret
      exact ⟨ret_bool HE.out.symm,B5.out⟩
     ·have HE:Hid (res=holeG f (E.drop (k+1)) e.1):=by rw [HR.out,HD.out,if_neg (fun x=>hd x.2)];exact hide rfl
      have hd':decide (dd<0)=false:=by simpa using hd
      clear HR HD
      go_wp2
      go_roundw
      case rel=>exact ⟨k+1,e.1,by go_num,by omega,g1,Q5.out.put3,((K5.out.setCell (p:=⟨w.heap.size,0,none⟩) (fun _=>rfl) _).setCell (p:=⟨w.heap.size,1,none⟩) (fun _=>rfl) _).setCell (p:=⟨w.heap.size,2,none⟩) (fun _=>rfl) _,HE⟩
      case measure=>simp [intOf];omega
    ·have hz':(cm == 0)=false:=by simpa using hz
     have HE:Hid (res=holeG f (E.drop (k+1)) e.1):=by rw [HR.out,HD.out,if_neg (fun x=>hz x.1)];exact hide rfl
     clear HR HD CS
     go_wp2
     go_roundw
     case rel=>exact ⟨k+1,e.1,by go_num,by omega,g1,Q4.out.put3,((K4.out.setCell (p:=⟨w.heap.size,0,none⟩) (fun _=>rfl) _).setCell (p:=⟨w.heap.size,1,none⟩) (fun _=>rfl) _).setCell (p:=⟨w.heap.size,2,none⟩) (fun _=>rfl) _,HE⟩
     case measure=>simp [intOf];omega
  ·have HE:Hid (res=false):=by rw [HR.out,List.drop_of_length_le (by omega)];exact hide rfl
   have BW:Below w.heap.size w wr:=below_kp B3.out hK B3.out.size (fun b h=>by omega)
   clear HR HSeg hQ hK
   go_wp2
   go_ret
   exact ⟨ret_bool HE.out.symm,BW⟩
set_option maxRecDepth 100000 in
set_option maxHeartbeats 4000000 in
theorem innermost_any (p:Pt)(v:Value)(R:List (List Pt))(w:World)(hR:PolyAt w v R)(hF:FewR R) :
  Calls Tryz.prog 101 #[p.v,v] w fun e w'=>e = .returned (.int .i64 (innerM p R R.length))/\Below w.heap.size w w':=by
 obtain ⟨a,cap,rfl,a1,a2,a3⟩:=hR
 unfold maxLen at a2
 have HA:=hide a3
 have HF:=hide hF
 have hfew:=hF.few
 have HI0:=hide (show innerM p R 0 = -1 from rfl)
 have HIS:=hide (fun k=>show innerM p R (k+1)=if holeM (R.getD k [])=true\/atM (R.getD k []) p≠1 then innerM p R k else if innerM p R k = -1\/withinM (R.getD k []) (R.getD (innerM p R k).toNat [])=true then (k:Int) else innerM p R k from rfl)
 have HIB:=hide (inner_bd p R)
 clear a3 hF
 go_enter Tryz.func101,Tryz.ntmps101
 go_wp2_with fail
 go_loopw [5,6,7,10] (fun nv _ _ iv w'=>∃ k:Nat,iv = .int .i64 k/\k<=R.length/\nv = .int .i64 (innerM p R k)/\Blk w' w.heap.size #[.int .i64 p.x,.int .i64 p.y,.int .i64 p.d]/\Below w.heap.size w w') (fun _ _ _ iv _=>R.length-(intOf iv).toNat)
 case atStart=>exact ⟨0,rfl,Nat.zero_le _,by rw [HI0.out],Blk.new w _ _,(Below.refl _ _).alloc (Nat.le_refl _) _⟩
 case round=>
  clear HI0
  obtain ⟨k,rfl,hk,rfl,hP,hbel⟩:=hrel
  by_cases hlt:k<R.length
  ·obtain ⟨b,off,rv,rfl,hb,hc,hring⟩:=HA.out k hlt
   have hc':=(hbel.cell (p:=⟨b,off+k,none⟩) hb).trans hc
   have HS:=hide (HIS.out k)
   obtain ⟨hb1,hb2⟩:=HIB.out k
   have HRG:=hide (HF.out.good (R.getD k []) (getD_mem hlt []))
   have hsh:=HF.out.short k hlt
   have HRI:Hid (∀ wz,Below w.heap.size w wz->RingAt wz rv (R.getD k [])):=hide fun wz kz=>hring.later kz
   have HRM:Hid (innerM p R k≠-1->∃ rv',(∀ wz,Below w.heap.size w wz->wz.cell? ⟨b,off+(innerM p R k).toNat,none⟩=some rv')/\∀ wz,Below w.heap.size w wz->RingAt wz rv' (R.getD (innerM p R k).toNat [])):=hide fun hne=>by
    obtain ⟨b',off',rv',e',hb',hcc,hr'⟩:=HA.out (innerM p R k).toNat (by omega)
    simp at e'
    obtain ⟨rfl,rfl⟩:=e'
    exact ⟨rv',fun wz kz=>(kz.cell (p:=⟨b,off+(innerM p R k).toNat,none⟩) hb').trans hcc,fun wz kz=>hr'.later kz⟩
   generalize R.getD k []=r at *
   generalize innerM p R k=z at *
   generalize R.getD z.toNat []=o at *
   obtain ⟨ra,rcap,rfl,_,_,_⟩:=hring
   have C1:=hide (isHole_any _ r wr (HRI.out wr hbel) HRG.out hsh)
   have hP':=hide hP
   have hB':=hide hbel
   clear hP hbel HA HF HIS HIB HRG hc
   go_wp2_with fail
   refine C1.out.mono ?_
   rintro e' w1 ⟨rfl,k1⟩
   have P1:=hide (hP'.out.call k1)
   have B1:=hide (bvia hB'.out k1)
   clear hP' hB' k1 C1 hc'
   cases hh:holeM r
   rotate_left
   ·have HE:Hid (innerM p R (k+1)=z):=by rw [HS.out,if_pos (.inl hh)];exact hide rfl
    clear HS HRM HRI
    go_wp2
    go_roundw
    case rel=>exact ⟨k+1,by go_num,by omega,by rw [HE.out],P1.out,B1.out⟩
    case measure=>simp [intOf];omega
   ·obtain ⟨cp,fp,zp⟩:=id P1.out
    have C2:=hide (nlocate_any _ r p w1 (HRI.out w1 B1.out))
    go_wp2_with fail
    refine C2.out.mono ?_
    rintro e' w2 ⟨rfl,k2⟩
    have P2:=hide (P1.out.call k2)
    have B2:=hide (bvia B1.out k2)
    clear P1 B1 k2 C2 cp fp zp
    generalize ha:atM r p=at1 at *
    by_cases h1:at1=1
    ·have h1':(at1 != 1)=false:=by simpa using h1
     have HS2:Hid (innerM p R (k+1)=if z = -1\/withinM r o=true then (k:Int) else z):=by rw [HS.out,if_neg (by rw [hh];simp [h1])];exact hide rfl
     clear HS
     by_cases hz:z = -1
     ·have HE:Hid (innerM p R (k+1)=(k:Int)):=by rw [HS2.out,if_pos (.inl hz)];exact hide rfl
      have hz':(z == -1)=true:=by simpa using hz
      clear HS2 HRM HRI
      go_wp2
      go_roundw
      case rel=>exact ⟨k+1,by go_num,by omega,by rw [HE.out],P2.out,B2.out⟩
      case measure=>simp [intOf];omega
     ·have hz':(z == -1)=false:=by simpa using hz
      obtain ⟨rv',hc2,hr2⟩:=HRM.out hz
      obtain ⟨n,rfl⟩:∃ n:Nat,z=(n:Int):=⟨z.toNat,by omega⟩
      have c2:=hc2 w2 B2.out
      rw [Int.toNat_natCast] at c2
      have hn1:(n:Int)<(R.length:Int):=by omega
      have hn0:(0:Int)<=(n:Int):=Int.natCast_nonneg _
      have C3:=hide (isWithin_any _ rv' r o w2 (HRI.out w2 B2.out) (hr2 w2 B2.out))
      obtain ⟨oa,ocap,rfl,_,_,_⟩:=hr2 w2 B2.out
      clear hc2 hr2 HRM HRI
      go_wp2_with fail
      refine C3.out.mono ?_
      rintro e' w3 ⟨rfl,k3⟩
      have P3:=hide (P2.out.call k3)
      have B3:=hide (bvia B2.out k3)
      clear P2 B2 k3 C3 c2
      cases hw:withinM r o
      ·have HE:Hid (innerM p R (k+1)=(n:Int)):=by rw [HS2.out,if_neg (by rw [hw];simp [hz])];exact hide rfl
       clear HS2
       go_wp2
       go_roundw
       case rel=>exact ⟨k+1,by go_num,by omega,by rw [HE.out],P3.out,B3.out⟩
       case measure=>simp [intOf];omega
      ·have HE:Hid (innerM p R (k+1)=(k:Int)):=by rw [HS2.out,if_pos (.inr hw)];exact hide rfl
       clear HS2
       go_wp2
       go_roundw
       case rel=>exact ⟨k+1,by go_num,by omega,by rw [HE.out],P3.out,B3.out⟩
       case measure=>simp [intOf];omega
    ·have h1':(at1 != 1)=true:=by simpa using h1
     have HE:Hid (innerM p R (k+1)=z):=by rw [HS.out,if_pos (.inr h1)];exact hide rfl
     clear HS HRM HRI
     go_wp2
     go_roundw
     case rel=>exact ⟨k+1,by go_num,by omega,by rw [HE.out],P2.out,B2.out⟩
     case measure=>simp [intOf];omega
  ·have ek:k=R.length:=by omega
   subst ek
   clear HA HF HIS HIB
   go_wp2
   go_ret
   exact ⟨rfl,hbel⟩
def intCells (l:List Int):List Value:=l.map fun k=>.int .i64 k
theorem intCells_snoc (l:List Int)(k:Int):intCells (l ++ [k])=intCells l ++ [.int .i64 k]:=by unfold intCells;simp
set_option maxRecDepth 100000 in
set_option maxHeartbeats 4000000 in
theorem Shells_any (v:Value)(R:List (List Pt))(w:World)(hR:PolyAt w v R)(hF:FewR R) :
  Calls Tryz.prog 58 #[v] w fun e w'=>∃ v',e = .returned v'/\w'.ownsRow w.heap.size 3 1 v' (nestL R).length (intCells (nestL R))/\Below w.heap.size w w':=by
 obtain ⟨i0,hi0,hz0,hz1,hz2⟩:=info_parts infoInt
 have HPR:=hide hR
 obtain ⟨a,cap,rfl,a1,a2,a3⟩:=hR
 unfold maxLen at a2
 have HA:=hide a3
 have HF:=hide hF
 have hfew:=hF.few
 have HT:=hide (nestL_take R)
 have HN:=hide (show nestL R=R.map (shellM R) from rfl)
 clear a3 hF
 go_enter Tryz.func58,Tryz.ntmps58
 go_wp2_with fail
 go_loopw [3,5,6,9] (fun sv _ _ iv w'=>∃ k:Nat,iv = .int .i64 k/\k<=R.length/\w'.ownsRow w.heap.size 3 1 sv k (intCells ((R.take k).map (shellM R)))/\Below w.heap.size w w') (fun _ _ _ iv _=>R.length-(intOf iv).toNat)
 case atStart=>exact ⟨0,rfl,Nat.zero_le _,World.ownsRow_nil _ _ _ _,Below.refl _ _⟩
 case round=>
  obtain ⟨k,rfl,hk,hO,hbel⟩:=hrel
  by_cases hlt:k<R.length
  ·obtain ⟨b,off,rv,rfl,hb,hc,hring⟩:=HA.out k hlt
   have hc':=(hbel.cell (p:=⟨b,off+k,none⟩) hb).trans hc
   have HT1:=hide (HT.out k hlt)
   have HRG:=hide (HF.out.good (R.getD k []) (getD_mem hlt []))
   have hsh:=HF.out.short k hlt
   have HRI:Hid (∀ wz,Below w.heap.size w wz->RingAt wz rv (R.getD k [])):=hide fun wz kz=>hring.later kz
   have HSM:=hide (show shellM R (R.getD k [])=if holeM (R.getD k [])=true then innerM ((R.getD k []).getD 0 zP) R R.length else -1 from rfl)
   generalize R.getD k []=r at *
   obtain ⟨ra,rcap,rfl,r1,r2,r3⟩:=hring
   unfold maxLen at r2
   have HR3:=hide r3
   have C1:=hide (isHole_any _ r wr (HRI.out wr hbel) HRG.out hsh)
   have hO':=hide hO
   have hB':=hide hbel
   generalize (R.take k).map (shellM R)=D at *
   generalize shellM R r=s at *
   clear hO hbel HA HT hc r3
   go_wp2_with fail
   refine C1.out.mono ?_
   rintro e' w1 ⟨rfl,k1⟩
   have B1:=hide (bvia hB'.out k1)
   have O1:=hide (own_later hO'.out k1)
   clear C1 hc' k1 hO' hB'
   go_upto_if 14 with fail
   go_cut [6] (fun sv w'=>sv = .int .i64 s/\Below w1.heap.size w1 w')
   case first=>
    clear HT1 O1
    cases hh:holeM r
    ·have HE:Hid (s = -1):=by rw [HSM.out,hh];exact hide rfl
     go_wp2
     go_meet
     case rel=>exact ⟨by rw [HE.out],Below.refl _ _⟩
    ·have HE:Hid (s=innerM (r.getD 0 zP) R R.length):=by rw [HSM.out,hh];exact hide rfl
     have hr0:0<r.length:=by
      apply Classical.byContradiction
      intro x
      unfold holeM at hh
      rw [if_pos (by omega)] at hh;cases hh
     obtain ⟨b2,off2,rfl,hb2,hs2⟩:=HR3.out 0 hr0
     obtain ⟨c0,c1,c2⟩:=hs2.later B1.out hb2
     simp only [Nat.zero_mul,Nat.add_zero] at c0 c1 c2
     have C2:=hide (innermost_any (r.getD 0 zP) _ R w1 (HPR.out.later B1.out) HF.out)
     generalize r.getD 0 zP=q at *
     have hr1:(0:Int)<(r.length:Int):=by omega
     clear HR3 hs2 HRI HSM
     go_wp2_with fail
     refine C2.out.mono ?_
     rintro e' w2 ⟨rfl,k2⟩
     have K2:=hide k2
     clear c0 c1 c2 C2 k2
     go_wp2
     go_meet
     case rel=>exact ⟨by rw [HE.out],K2.out⟩
   case rest=>
    obtain ⟨rfl,k2⟩:=hcut
    have B2:=hide (bvia B1.out k2)
    have O2:=hide (own_later O1.out k2)
    have z1:=B2.out.size
    clear B1 O1 k2 HR3 HRI HSM HRG
    have hnews:=World.news_of_block (w:=wc.alloc (.cells #[.int .i64 s] 3)) (cs:=#[.int .i64 s]) (t:=3) (fr:=(0,0)) (heap_alloc_new wc _)
    have hn1:k+1<=maxLen:=by unfold maxLen;omega
    have hn2:(k+1)*8<=140737488355328:=by omega
    go_wp2_with (at_builtin;refine wpList_append_lies _ rfl _ _ _ rfl w.heap.size 3 i0 _ 1 8 Tryz.underlying58 hi0 hz0 hz1 hz2 rfl (by omega) u3 k (intCells D) rfl (O2.out.alloc _) ⟨wc.heap.size,0,none⟩ 1 1 [.int .i64 s] rfl rfl hnews (by simp [Value.oneCell']) (by omega) hn1 hn2 (by simp;omega) _ rfl ?_;intro gg cp w4 ho hgrow hat hlt4)
    have O4:Hid (w4.ownsRow w.heap.size 3 1 (.slice (some ⟨gg,0,none⟩) (k+1) cp) (k+1) (intCells ((R.take (k+1)).map (shellM R)))):=by
     refine hide ?_
     rw [HT1.out,intCells_snoc];exact ho
    have B4:Hid (Below w.heap.size w w4):=hide (Below.grown (B2.out.alloc B2.out.size _) hgrow (by have:=B2.out.size;simp;omega) (fun q hq=>(O2.out.lt q hq).1))
    clear ho hgrow hat hnews O2 B2 HT1
    go_wp2
    go_roundw
    case rel=>exact ⟨k+1,by go_num,by omega,O4.out,B4.out⟩
    case measure=>simp [intOf];omega
  ·have ek:R.take k=R:=List.take_of_length_le (by omega)
   have ek2:k=R.length:=by omega
   rw [ek] at hO
   have HO:Hid (wr.ownsRow w.heap.size 3 1 u3 (nestL R).length (intCells (nestL R))):=by
    rw [HN.out,List.length_map,<-ek2];exact hide hO
   clear hO HA HT HF
   go_wp2
   go_ret
   exact ⟨_,rfl,HO.out,hbel⟩
set_option maxHeartbeats 1000000 in
theorem Nest_any (op:Int)(va vb:Value)(A B:List (List Pt))(w:World)(hA:PolyAt w va A)(hB:PolyAt w vb B) :
  Calls Tryz.prog 32 #[.int .i64 op,va,vb] w fun e w'=>∃ v',e = .returned (.tuple #[v',.int .i64 (nestM op A B).2])/\w'.ownsRow w.heap.size 3 1 v' (nestM op A B).1.length (intCells (nestM op A B).1)/\Below w.heap.size w w':=by
 have C:=hide (Clip_any op va vb A B w hA hB)
 have HF:=hide (clip_few op A B)
 have HN:=hide (show nestM op A B=if (clipM op A B).2≠0 then ([],(clipM op A B).2) else (nestL (clipM op A B).1,0) from rfl)
 clear hA hB
 generalize nestM op A B=res at *
 generalize clipM op A B=cl at *
 obtain ⟨R,z⟩:=cl
 simp only at C HF HN
 by_cases hz:z=0
 ·subst hz
  have HE:Hid (res=(nestL R,0)):=by rw [HN.out];exact hide rfl
  clear HN
  go_enter Tryz.func32,Tryz.ntmps32
  go_wp2_with fail
  refine C.out.mono ?_
  rintro e w1 ⟨rv,vs,rfl,o1,k1⟩
  have CS:=hide (Shells_any rv R w1 (o1.poly (by have:=HF.out.few;unfold maxLen;omega)) HF.out)
  clear C o1
  go_wp2_with fail
  refine CS.out.mono ?_
  rintro e w2 ⟨v',rfl,o2,k2⟩
  have O2:=hide (own_mono o2 k1.size)
  have B2:=hide (bvia k1 k2)
  clear o2 k1 k2 CS
  go_wp2
  go_ret2
  exact ⟨v',by rw [HE.out];rfl,by rw [HE.out];exact O2.out,B2.out⟩
 ·have HE:Hid (res=([],z)):=by rw [HN.out,if_pos hz];exact hide rfl
  have hz':(z != 0)=true:=by simpa using hz
  clear HN
  go_enter Tryz.func32,Tryz.ntmps32
  go_wp2_with fail
  refine C.out.mono ?_
  rintro e w1 ⟨rv,vs,rfl,o1,k1⟩
  clear C o1
  go_wp2
  go_ret2
  exact ⟨_,by rw [HE.out];rfl,by rw [HE.out];exact World.ownsRow_nil _ _ _ _,k1⟩
end Go.Proofs.YtnkcbephceollabGreat
