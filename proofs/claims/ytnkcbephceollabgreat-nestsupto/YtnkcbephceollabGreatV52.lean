import Derived.Test.YtnkcbephceollabGreatU51
import Derived.Test.YtnkcbephceollabGreatU41
namespace Go.Proofs.YtnkcbephceollabGreat
open Go.RowKit
set_option linter.unusedSimpArgs false
set_option linter.unusedVariables false
theorem pick_snoc (R:List (List Pt))(l:List Nat)(k:Nat)(hk:k<l.length):pickD R l (l.take (k+1))=if allIn R (l.getD k 0) l=true then ((l.getD k 0:Nat):Int) else pickD R l (l.take k):=by
 unfold pickD
 rw [List.take_succ_eq_append_getElem hk,List.foldl_append,List.foldl_cons,List.foldl_nil,List.getD_eq_getElem?_getD,List.getElem?_eq_getElem hk]
 rfl
theorem shD_take (R:List (List Pt))(k:Nat)(hk:k<R.length):(R.take (k+1)).map (shellD R)=(R.take k).map (shellD R) ++ [shellD R (R.getD k [])]:=by
 rw [List.take_succ_eq_append_getElem hk,List.map_append,List.getD_eq_getElem?_getD,List.getElem?_eq_getElem hk];rfl
theorem hld_lt {R:List (List Pt)}{p:Pt}{n:Nat}(j:Nat)(hj:j<(hldL R p n).length):(hldL R p n).getD j 0<n:=by
 have:=getD_mem hj 0
 unfold hldL at this
 exact List.mem_range.1 (List.mem_filter.1 this).1
theorem clip_goodR {op:Int}{A B:List (List Pt)}(h:(clipM op A B).2=0):GoodR (clipM op A B).1/\(∀ r∈(clipM op A B).1,3<=r.length)/\(clipM op A B).1.map (shellD (clipM op A B).1)=nestL (clipM op A B).1:=by
 have hc:(0<=op/\op<=4)/\(checkM A).1=0/\(checkM B).1=0/\(clipM op A B).1=ringsM (bordM op (piecesM A B)):=by
  unfold clipM at h ⊢
  by_cases c:op<0\/op > 4
  ·rw [if_pos c] at h;exact absurd h (by decide)
  ·rw [if_neg c] at h ⊢
   by_cases d:bothM A B≠0
   ·rw [if_pos d] at h;exact absurd h d
   ·rw [if_neg d]
    obtain ⟨c1,c2⟩:=both_zero (Decidable.byContradiction d)
    exact ⟨⟨by omega,by omega⟩,c1,c2,rfl⟩
 obtain ⟨_,c1,c2,e⟩:=hc
 have fm:=(rings_fm (sound_of c1) (sound_of c2) op).1
 have fw:=clip_few op A B
 rw [e] at fw ⊢
 exact ⟨⟨fw,fun r hr p hp=>((fm r hr).nice p hp).1⟩,fun r hr=>(fm r hr).three,nest_eq c1 c2 op⟩
set_option maxRecDepth 100000 in
set_option maxHeartbeats 8000000 in
theorem rNest_any (op:Int)(va vb:Value)(A B:List (List Pt))(w:World)(hA:PolyAt w va A)(hB:PolyAt w vb B)(sA:∀ i,i<A.length->(A.getD i []).length<=1048576)(sB:∀ i,i<B.length->(B.getD i []).length<=1048576) :
  Calls Tryz.prog 33 #[.int .i64 op,va,vb] w fun e w'=>∃ v',e = .returned (.tuple #[v',.int .i64 (nestM op A B).2])/\w'.ownsRow w.heap.size 3 1 v' (nestM op A B).1.length (intCells (nestM op A B).1)/\Below w.heap.size w w':=by
 obtain ⟨i0,hi0,hz0,hz1,hz2⟩:=info_parts infoInt
 have C:=hide (rClip_any op va vb A B w hA hB sA sB)
 have HN:=hide (show nestM op A B=if (clipM op A B).2≠0 then ([],(clipM op A B).2) else (nestL (clipM op A B).1,0) from rfl)
 clear hA hB sA sB
 by_cases hz:(clipM op A B).2=0
 ·obtain ⟨gR,three,ne⟩:=clip_goodR hz
  have HE:Hid (nestM op A B=((clipM op A B).1.map (shellD (clipM op A B).1),0)):=by rw [HN.out,if_neg (by simpa using hz),ne];exact hide rfl
  generalize nestM op A B=res at *
  generalize clipM op A B=cl at *
  obtain ⟨R,z⟩:=cl
  simp only at C HE hz gR three
  subst hz
  have HG:=hide gR
  have H3:=hide three
  have hRl:=gR.few.few
  have HST:=hide (shD_take R)
  clear HN gR three ne
  go_enter Tryz.func33,Tryz.ntmps33
  go_wp2_with fail
  refine C.out.mono ?_
  rintro e w1 ⟨rv,vs,rfl,o1,k1⟩
  have P1:=hide (o1.poly (by unfold maxLen;omega))
  have B1:=hide k1
  have z1:=k1.size
  clear C o1 k1
  obtain ⟨a,cap,rfl,a1,a2,a3⟩:=P1.out
  unfold maxLen at a2
  have HA:=hide a3
  clear a3
  go_wp2_with fail
  go_loopw [10,11,12,13,14,15,16] (fun ov iv _ _ _ _ _ w'=>∃ i:Nat,iv = .int .i64 i/\i<=R.length/\w'.ownsRow w1.heap.size 3 1 ov i (intCells ((R.take i).map (shellD R)))/\Below w1.heap.size w1 w') (fun _ iv _ _ _ _ _ _=>R.length-(intOf iv).toNat)
  case atStart=>exact ⟨0,rfl,Nat.zero_le _,World.ownsRow_nil _ _ _ _,Below.refl _ _⟩
  case round=>
   obtain ⟨i,rfl,hi,hO,hbel⟩:=hrel
   by_cases hlt:i<R.length
   ·obtain ⟨b,off,rv,rfl,hb,hc,hring⟩:=HA.out i hlt
    have hc':=(hbel.cell (p:=⟨b,off+i,none⟩) hb).trans hc
    have HT1:=hide (HST.out i hlt)
    have HRG:=hide (HG.out.few.good (R.getD i []) (getD_mem hlt []))
    have HRB:=hide (HG.out.good (R.getD i []) (getD_mem hlt []))
    have hsh:=HG.out.few.short i hlt
    have hth:=H3.out (R.getD i []) (getD_mem hlt [])
    have HRI:Hid (∀ wz,Below w1.heap.size w1 wz->RingAt wz rv (R.getD i [])/\wz.cell? ⟨b,off+i,none⟩=some rv):=hide fun wz kz=>⟨hring.later kz,(kz.cell (p:=⟨b,off+i,none⟩) hb).trans hc⟩
    have HSM:=hide (show shellD R (R.getD i [])=if holeM (R.getD i [])=true then pickD R (hldL R ((R.getD i []).getD 0 zP) R.length) (hldL R ((R.getD i []).getD 0 zP) R.length) else -1 from rfl)
    generalize R.getD i []=r at *
    obtain ⟨ra,rcap,rfl,r1,r2,r3⟩:=hring
    unfold maxLen at r2
    have HR3:=hide r3
    have C1:=hide (rHole_any _ r wr (HRI.out wr hbel).1 HRG.out hsh)
    have hO':=hide hO
    have hB':=hide hbel
    generalize (R.take i).map (shellD R)=D at *
    generalize shellD R r=s at *
    have hi0':(0:Int)<=(i:Int):=Int.natCast_nonneg _
    have hi1':(i:Int)<(R.length:Int):=by omega
    clear hO hbel HA hc r3 HST H3
    go_wp2_with fail
    refine C1.out.mono ?_
    rintro e' w2 ⟨rfl,k2⟩
    have B2:=hide (bvia hB'.out k2)
    have O2:=hide (own_later hO'.out k2)
    clear C1 hc' k2 hO' hB'
    go_upto_if 38 with fail
    go_cut [12,13,14,15,16] from 27 to 68 (fun sv _ _ _ _ w'=>sv = .int .i64 s/\Below w2.heap.size w2 w')
    case first=>
     clear HT1 O2 HE
     cases hh:holeM r
     ·have HE:Hid (s = -1):=by rw [HSM.out,hh];exact hide rfl
      go_wp2
      go_meet
      case rel=>exact ⟨by rw [HE.out],Below.refl _ _⟩
     ·have HE:Hid (s=pickD R (hldL R (r.getD 0 zP) R.length) (hldL R (r.getD 0 zP) R.length)):=by rw [HSM.out,hh];exact hide rfl
      obtain ⟨hr1,hcc⟩:=HRI.out w2 B2.out
      obtain ⟨b2,off2,rfl,hb2,hs2⟩:=HR3.out 0 (by omega)
      obtain ⟨c0,c1,c2⟩:=hs2.later B2.out hb2
      simp only [Nat.zero_mul,Nat.add_zero] at c0 c1 c2
      have C2:=hide (holders_any (r.getD 0 zP) _ R w2 (P1.out.later B2.out) HG.out (HRB.out _ (getD_mem (show 0<r.length by omega) zP)))
      have HLT:=hide (fun j hj=>hld_lt (R:=R) (p:=r.getD 0 zP) (n:=R.length) j hj)
      have hll:=hld_len R (r.getD 0 zP) R.length
      generalize r.getD 0 zP=q at *
      have hr0:(0:Int)<(r.length:Int):=by omega
      have hrN:0<r.length:=by omega
      have hrZ : ¬ r.length=0:=by omega
      clear HR3 hs2 HRI HSM HRG HRB hr1
      go_wp2_with fail
      refine C2.out.mono ?_
      rintro e' w3 ⟨lv,rfl,o3,k3⟩
      have B3:=hide (bvia B2.out k3)
      have K3:=hide k3
      have O3:=hide o3
      generalize hldL R q R.length=l at *
      have HPS:=hide (pick_snoc R l)
      have HPI:=hide (show pickD R l (l.take 0) = -1 from rfl)
      have HPE:=hide (show pickD R l (l.take l.length)=pickD R l l by rw [List.take_length])
      obtain ⟨la,lcap,rfl,hag,hpos,hmx⟩:=own_form o3
      have HC:Hid (∀ wz,Below w3.heap.size w3 wz->∀ j,j<l.length->∃ g,la=some ⟨g,0,none⟩/\wz.cell? ⟨g,j,none⟩=some (.int .i64 ((l.getD j 0:Nat):Int))):=hide fun wz kz j hj=>by
       obtain ⟨g,hg⟩:=hpos (by omega)
       have eg:=hag g hg
       refine ⟨g,eg,?_⟩
       rw [kz.cell (p:=⟨g,j,none⟩) (O3.out.lt g hg).2,own_cell O3.out g hg j (by omega)]
       exact natCells_at l j hj
      clear C2 k3 o3 hag hpos c0 c1 c2 hcc hh
      go_wp2_with fail
      go_loopw [12,15,16] (fun nv kv _ w'=>∃ k:Nat,kv = .int .i64 k/\k<=l.length/\nv = .int .i64 (pickD R l (l.take k))/\Below w3.heap.size w3 w') (fun _ kv _ _=>l.length-(intOf kv).toNat)
      case atStart=>exact ⟨0,rfl,Nat.zero_le _,by rw [HPI.out],Below.refl _ _⟩
      case round=>
       obtain ⟨k,rfl,hk,rfl,hbk⟩:=hrel
       by_cases hkl:k<l.length
       ·obtain ⟨g,rfl,hcell⟩:=HC.out wr hbk k hkl
        have HS:=hide (HPS.out k hkl)
        have hxl:=HLT.out k hkl
        have CI:=hide (rinner_any _ _ R (l.getD k 0) l (w2.heap.size+1) wr (P1.out.later (bvia B3.out hbk)) HG.out hxl (own_later O3.out hbk) (fun j hj=>HLT.out j hj) (by omega))
        have HCw:=hide (fun wz (kz:Below w3.heap.size w3 wz)=>HC.out wz kz k hkl)
        generalize l.getD k 0=x at *
        generalize pickD R l (l.take k)=pv at *
        have hk0:(0:Int)<=(k:Int):=Int.natCast_nonneg _
        have hk1:(k:Int)<(l.length:Int):=by omega
        have HBK:=hide hbk
        clear hbk HC
        go_wp2_with fail
        refine CI.out.mono ?_
        rintro e' w4 ⟨rfl,k4⟩
        have B4:=hide (bvia HBK.out k4)
        obtain ⟨g',eg',hcell2⟩:=HCw.out w4 B4.out
        simp at eg'
        subst eg'
        clear CI k4 HBK hcell HCw
        cases hal:allIn R x l
        ·have HE2:Hid (pickD R l (l.take (k+1))=pv):=by rw [HS.out,hal];exact hide rfl
         clear HS
         go_wp2
         go_roundw
         case rel=>exact ⟨k+1,by go_num,by omega,by rw [HE2.out],B4.out⟩
         case measure=>simp [intOf];omega
        ·have HE2:Hid (pickD R l (l.take (k+1))=((x:Nat):Int)):=by rw [HS.out,hal];exact hide rfl
         clear HS
         go_wp2
         go_roundw
         case rel=>exact ⟨k+1,by go_num,by omega,by rw [HE2.out],B4.out⟩
         case measure=>simp [intOf];omega
       ·have ek:k=l.length:=by omega
        subst ek
        have HF:Hid (pickD R l (l.take l.length)=s):=by rw [HPE.out,HE.out];exact hide rfl
        have HF2:Hid (pickD R l l=s):=by rw [HE.out];exact hide rfl
        have BB:=hide (bvia K3.out hbk)
        have hno : ¬ ((l.length:Nat):Int)<(l.length:Int):=by omega
        clear HC hbk HPE HE HPI HPS HLT
        go_wp2_with fail
        go_meet
        case rel=>exact ⟨by first | rw [HF.out] | rw [HF2.out],BB.out⟩
    case rest=>
     obtain ⟨rfl,k3⟩:=hcut
     have B3:=hide (bvia B2.out k3)
     have O3:=hide (own_later O2.out k3)
     have z3:=B3.out.size
     clear B2 O2 k3 HR3 HRI HSM HRG HRB
     have hnews:=World.news_of_block (w:=wc.alloc (.cells #[.int .i64 s] 3)) (cs:=#[.int .i64 s]) (t:=3) (fr:=(0,0)) (heap_alloc_new wc _)
     have hn1:i+1<=maxLen:=by unfold maxLen;omega
     have hn2:(i+1)*8<=140737488355328:=by omega
     go_wp2_with (at_builtin;refine wpList_append_lies _ rfl _ _ _ rfl w1.heap.size 3 i0 _ 1 8 Tryz.underlying58 hi0 hz0 hz1 hz2 rfl (by omega) u10 i (intCells D) rfl (O3.out.alloc _) ⟨wc.heap.size,0,none⟩ 1 1 [.int .i64 s] rfl rfl hnews (by simp [Value.oneCell']) (by omega) hn1 hn2 (by simp;omega) _ rfl ?_;intro gg cp w4 ho hgrow hat hlt4)
     have O4:Hid (w4.ownsRow w1.heap.size 3 1 (.slice (some ⟨gg,0,none⟩) (i+1) cp) (i+1) (intCells ((R.take (i+1)).map (shellD R)))):=by
      refine hide ?_
      rw [HT1.out,intCells_snoc];exact ho
     have B4:Hid (Below w1.heap.size w1 w4):=hide (Below.grown (B3.out.alloc B3.out.size _) hgrow (by have:=B3.out.size;simp;omega) (fun q hq=>(O3.out.lt q hq).1))
     clear ho hgrow hat hnews O3 B3 HT1
     go_wp2
     go_roundw
     case rel=>exact ⟨i+1,by go_num,by omega,O4.out,B4.out⟩
     case measure=>simp [intOf];omega
   ·have ek:R.take i=R:=List.take_of_length_le (by omega)
    have ek2:i=R.length:=by omega
    rw [ek] at hO
    have HO:Hid (wr.ownsRow w.heap.size 3 1 u10 (R.map (shellD R)).length (intCells (R.map (shellD R)))):=by
     rw [List.length_map,<-ek2];exact hide (own_mono hO z1)
    have BB:=hide (bvia B1.out hbel)
    have hno : ¬ (i:Int)<(R.length:Int):=by omega
    clear hO HA HST HG H3 hbel
    go_wp2
    go_ret2
    exact ⟨_,by rw [HE.out];rfl,by rw [HE.out];exact HO.out,BB.out⟩
 ·have HE:Hid (nestM op A B=([],(clipM op A B).2)):=by rw [HN.out,if_pos hz];exact hide rfl
  generalize nestM op A B=res at *
  generalize clipM op A B=cl at *
  obtain ⟨R,z⟩:=cl
  simp only at C HE hz
  have hz':(z != 0)=true:=by simpa using hz
  clear HN
  go_enter Tryz.func33,Tryz.ntmps33
  go_wp2_with fail
  refine C.out.mono ?_
  rintro e w1 ⟨rv,vs,rfl,o1,k1⟩
  clear C o1
  go_wp2
  go_ret2
  exact ⟨_,by rw [HE.out];rfl,by rw [HE.out];exact World.ownsRow_nil _ _ _ _,k1⟩
theorem nest_len (op:Int)(A B:List (List Pt)):(nestM op A B).1.length<=27648:=by
 unfold nestM
 split
 ·simp
 ·show (nestL (clipM op A B).1).length<=27648
  have:=clip_count op A B
  unfold nestL
  rw [List.length_map];exact this
theorem ints_row {w:World}{base:Nat}{v:Value}{l:List Int}(h:w.ownsRow base 3 1 v l.length (intCells l))(j:Nat)(hj:j<l.length):∃ g,(∃ cap,v = .slice (some ⟨g,0,none⟩) l.length cap)/\g<w.heap.size/\w.cell? ⟨g,j,none⟩=some (.int .i64 (l.getD j 0)):=by
 have h0:=h
 obtain ⟨a,cap,rfl,hag,hpos,_⟩:=own_form h
 obtain ⟨g,hg⟩:=hpos (by omega)
 have eg:=hag g hg
 refine ⟨g,⟨cap,by rw [eg]⟩,(h0.lt g hg).2,?_⟩
 rw [own_cell h0 g hg j (by omega)]
 unfold intCells
 rw [List.getElem?_map,List.getElem?_eq_getElem hj,List.getD_eq_getElem?_getD,List.getElem?_eq_getElem hj];rfl
set_option maxRecDepth 100000 in
set_option maxHeartbeats 8000000 in
theorem nested_any (base wb:Nat)(hv:Value)(L:List Nat)(kd n:Int)(A B:Value)(p q r s:Pt)(PA PB:List (List Pt))(w:World)
  (hn:PA.length<=1048576) (hS:∀ i,i<PA.length->(PA.getD i []).length<=1048576) (hn2:PB.length<=1048576) (hS2:∀ i,i<PB.length->(PB.getD i []).length<=1048576) (hL:L.length+4*PA.length+4*PB.length+12<=1000000000000) (hbase:base<=w.heap.size)
  (hPA:PolyAt w A PA) (hPB:PolyAt w B PB) (hW:Wld w base wb hv L (FX (fun _ _=>True) wb hv)) :
  Calls Tryz.prog 13 #[.pointer (some ⟨wb,0,none⟩),opV kd n A B p q r s] w fun e w'=>e = .returned (.bool true)/\∃ hv' L',L'.length=L.length+12+4*PA.length+4*PB.length/\Wld w' base wb hv' L' (FX (fun _ _=>True) wb hv')/\Kp (fun b=>b=wb\/hv.ownBlock=some b) w w':=by
 have HPA0:=hide hPA
 have HPB0:=hide hPB
 have HW:=hide hW
 have hlo:∀ b,hv.ownBlock=some b->b<w.heap.size:=fun b e=>(hW.own.lt b e).2
 have HLO:=hide hlo
 have HS:=hide hS
 have HS2:=hide hS2
 have hwb0:=hW.lt
 clear hPA hPB hW hlo hS hS2
 obtain ⟨W0,hW0⟩:∃ W,W=w.alloc (.cells #[.int .i64 kd,.int .i64 n,A,B,.int .i64 p.x,.int .i64 p.y,.int .i64 p.d,.int .i64 q.x,.int .i64 q.y,.int .i64 q.d,.int .i64 r.x,.int .i64 r.y,.int .i64 r.d,.int .i64 s.x,.int .i64 s.y,.int .i64 s.d] 33):=⟨_,rfl⟩
 have B0:Hid (Below w.heap.size w W0):=by rw [hW0];exact (Below.refl _ _).alloc (Nat.le_refl _) _
 have O1:W0.cell? ⟨w.heap.size,1,none⟩=some (.int .i64 n):=by rw [hW0];exact (Blk.new w _ _).cell 1
 have O2:W0.cell? ⟨w.heap.size,2,none⟩=some A:=by rw [hW0];exact (Blk.new w _ _).cell 2
 have O3:W0.cell? ⟨w.heap.size,3,none⟩=some B:=by rw [hW0];exact (Blk.new w _ _).cell 3
 have z0:W0.heap.size=w.heap.size+1:=by rw [hW0];simp
 have PA0:Hid (PolyAt W0 A PA):=HPA0.out.later B0.out
 have PB0:Hid (PolyAt W0 B PB):=HPB0.out.later B0.out
 go_enter Tryz.func13,Tryz.ntmps13
 go_wp2_with fail
 rw [<-hW0]
 clear hW0
 refine (handed_any A PA W0 PA0.out hn HS.out).mono ?_
 rintro e w1 ⟨pa,ra,wa,xa,rga,vsa,usa,rfl,hA,k1⟩
 have a1:=(k1.cell (p:=⟨w.heap.size,3,none⟩) (by simp;omega)).trans O3
 have HA:=hide hA
 have K1:=hide k1
 have z1:=k1.size
 have O1':=O1
 have O2':=O2
 have O3':=O3
 clear hA k1 O1 O2 O3
 go_wp2_with fail
 refine (handed_any B PB w1 (PB0.out.later K1.out) hn2 HS2.out).mono ?_
 rintro e w2 ⟨pb,rb,wl,xb,rg,vs,us,rfl,hB,k2⟩
 have z2:=k2.size
 have HA2:=hide (HA.out.later k2)
 have HB2:=hide hB
 have HA1:=hide HA.out
 have HB1:=hide hB
 have K2:Hid (Below W0.heap.size W0 w2):=bvia K1.out k2
 have bpa:=HA.out.hand.pbk.lt
 have bpb:=hB.hand.pbk.lt
 have HRA:Hid (∀ t,t<PA.length->rga t<w1.heap.size):=fun t ht=>(HA.out.hand.pts t ht).lt
 have HRB:Hid (∀ t,t<PB.length->rg t<w2.heap.size):=fun t ht=>(HB2.out.hand.pts t ht).lt
 have p0:=HA2.out.hand.pbk.cell 0
 have p1:=HA2.out.hand.pbk.cell 1
 have q0:=hB.hand.pbk.cell 0
 have q1:=hB.hand.pbk.cell 1
 simp at p0 p1 q0 q1
 clear hB k2 HA K1 a1
 have bpa2:pa<w2.heap.size:=by omega
 have CP:=hide (fun wz (kz:Below w2.heap.size w2 wz)=>Nest_any n _ _ PA PB wz ((HA2.out.later kz).poly hn HS.out) ((HB2.out.later kz).poly hn2 HS2.out))
 have n2:w2.cell? ⟨w.heap.size,1,none⟩=some (.int .i64 n):=(K2.out.cell (p:=⟨w.heap.size,1,none⟩) (by simp;omega)).trans O1'
 have hz20:W0.heap.size<=w2.heap.size:=K2.out.size
 go_upto_region 3 with fail
 go_cut [7,8] (fun lv ev w'=>ev = .int .i64 (nestM n PA PB).2/\Hid (w'.ownsRow w2.heap.size 3 1 lv (nestM n PA PB).1.length (intCells (nestM n PA PB).1))/\Hid (Below w2.heap.size w2 w'))
 case first=>
  clear HA2 HB2
  have hw2:w.heap.size<w2.heap.size:=by omega
  go_region_held3 (fun w'=>w'.cell? ⟨w.heap.size,1,none⟩=some (.int .i64 n)/\Below w2.heap.size w2 w')
   (first
    | exact ⟨n2,(Below.refl _ _).drew⟩
    | exact ⟨n2,Below.refl _ _⟩
    | exact ⟨n2,below_drewN (Below.refl _ _) _⟩
    | exact below_drewN (Below.refl _ _) _
    |(go_split_ands
      refine ⟨by assumption,below_drewN (by assumption) _⟩)
    |(go_split_ands
      have hq:=Below.size (show Below w2.heap.size w2 _ by assumption)
      refine ⟨(k3.cell (p:=⟨w.heap.size,1,none⟩) (by simp;omega)).trans (by assumption),bvia (by assumption) k3⟩)
    | go_keep)
   (first
    |(go_at_call 19
      refine (it_any _ _ _ _ _ (by first | exact p0 | exact q0) (by first | exact p1 | exact q1)).mono ?_
      rintro e' w3 ⟨rfl,m3,rfl⟩)
    |(go_at_call 32;refine (CP.out _ (by first | exact below_drewN (Below.refl _ _) _ | exact (Below.refl _ _).drew | assumption | (go_split_ands;assumption))).mono ?_;rintro e' w4 ⟨v',rfl,o3,k3⟩))
  all_goals
   go_wp2_with fail
   go_meet
   case rel=>exact ⟨rfl,own_mono o3 (below_drewN (Below.refl w2.heap.size w2) _).size,bvia (below_drewN (Below.refl _ _) _) k3⟩
 case rest=>
 obtain ⟨rfl,O4,K4⟩:=hcut
 have z4:=K4.out.size
 have KW4:Hid (Below W0.heap.size W0 wc):=bvia K2.out K4.out
 have HA4:=hide (HA2.out.later K4.out)
 have HB4:=hide (HB2.out.later K4.out)
 have PA4:Hid (PolyAt wc A PA):=PA0.out.later KW4.out
 have PB4:Hid (PolyAt wc B PB):=PB0.out.later KW4.out
 have c1:wc.cell? ⟨w.heap.size,1,none⟩=some (.int .i64 n):=(KW4.out.cell (p:=⟨w.heap.size,1,none⟩) (by simp;omega)).trans O1'
 have c2:wc.cell? ⟨w.heap.size,2,none⟩=some A:=(KW4.out.cell (p:=⟨w.heap.size,2,none⟩) (by simp;omega)).trans O2'
 have c3:wc.cell? ⟨w.heap.size,3,none⟩=some B:=(KW4.out.cell (p:=⟨w.heap.size,3,none⟩) (by simp;omega)).trans O3'
 clear CP K4 HA2 HB2 n2 p0 p1 q0 q1
 go_wp2_with fail
 refine (rNest_any n A B PA PB _ PA4.out PB4.out HS.out HS2.out).mono ?_
 rintro e w5 ⟨kv,rfl,o5,k5⟩
 have z5:=k5.size
 have KW5:Hid (Below W0.heap.size W0 w5):=bvia KW4.out k5
 have HA5:=hide (HA4.out.later k5)
 have HB5:=hide (HB4.out.later k5)
 have PA5:Hid (PolyAt w5 A PA):=PA4.out.later k5
 have PB5:Hid (PolyAt w5 B PB):=PB4.out.later k5
 have O5:=hide (own_later O4.out k5)
 have R5:=hide o5
 have d2:w5.cell? ⟨w.heap.size,2,none⟩=some A:=(k5.cell (p:=⟨w.heap.size,2,none⟩) (by simp;omega)).trans c2
 have d3:w5.cell? ⟨w.heap.size,3,none⟩=some B:=(k5.cell (p:=⟨w.heap.size,3,none⟩) (by simp;omega)).trans c3
 clear c1 c2 c3 k5 o5 O4 KW4 HA4 HB4 PA4 PB4
 go_wp2_with fail
 refine (still_any A PA _ PA5.out HA5.out hn HS.out).mono ?_
 rintro e w6 ⟨rfl,k6⟩
 have z6:=k6.size
 have KW6:Hid (Below W0.heap.size W0 w6):=bvia KW5.out k6
 have HA6:=hide (HA5.out.later k6)
 have HB6:=hide (HB5.out.later k6)
 have PB6:Hid (PolyAt w6 B PB):=PB5.out.later k6
 have O6:=hide (own_later O5.out k6)
 have R6:=hide (own_later R5.out k6)
 have e3:w6.cell? ⟨w.heap.size,3,none⟩=some B:=(k6.cell (p:=⟨w.heap.size,3,none⟩) (by simp;omega)).trans d3
 clear d2 d3 k6 O5 R5 KW5 HA5 HB5 PA5 PB5
 go_wp2_with fail
 refine (still_any B PB _ PB6.out HB6.out hn2 HS2.out).mono ?_
 rintro e w7 ⟨rfl,k7⟩
 have z7:=k7.size
 have KW7:Hid (Below W0.heap.size W0 w7):=bvia KW6.out k7
 have HA7:=hide (HA6.out.later k7)
 have HB7:=hide (HB6.out.later k7)
 have o7:=own_later O6.out k7
 have r7:=own_later R6.out k7
 clear e3 k7 O6 R6 KW6 HA6 HB6 PB6
 have hPl:=nest_len n PA PB
 generalize nestM n PA PB=nr at *
 obtain ⟨PS,ez⟩:=nr
 simp only at *
 have O7:=hide o7
 have HL3:=hide (fun j hj=>ints_row o7 j hj)
 have HK3:=hide (fun j hj=>ints_row r7 j hj)
 obtain ⟨la,lcap,rfl,_,_,_⟩:=own_form o7
 obtain ⟨ka,kcap,rfl,_,_,_⟩:=own_form r7
 clear r7 o7
 go_upto_block 0 with fail
 go_cut [13,14] (fun sv _ w'=>sv = .bool true/\Hid (Below w7.heap.size w7 w'))
 case first=>
  clear O7 HA7 HB7 KW7
  go_wp2_with fail
  go_loopw [13,14] (fun sv iv w'=>∃ i:Nat,sv = .bool true/\iv = .int .i64 i/\i<=PS.length/\Below w7.heap.size w7 w') (fun _ iv _=>PS.length-(intOf iv).toNat)
  case atStart=>exact ⟨0,rfl,rfl,Nat.zero_le _,Below.refl _ _⟩
  case round=>
   obtain ⟨i,rfl,rfl,hi,hbel⟩:=hrel
   by_cases hlt:i<PS.length
   ·obtain ⟨g,eg,hg,hs⟩:=HL3.out i hlt
    obtain ⟨g',eg',hg',hs'⟩:=HK3.out i hlt
    obtain ⟨cg,eg⟩:=eg
    obtain ⟨cg',eg'⟩:=eg'
    simp only [Value.slice.injEq] at eg eg'
    obtain ⟨rfl,_,_⟩:=eg
    obtain ⟨rfl,_,_⟩:=eg'
    have c0:=(hbel.cell (p:=⟨g,i,none⟩) hg).trans hs
    have d0:=(hbel.cell (p:=⟨g',i,none⟩) hg').trans hs'
    generalize PS.getD i 0=x at *
    have hi0':(0:Int)<=(i:Int):=Int.natCast_nonneg _
    have hi1':(i:Int)<(PS.length:Int):=by omega
    have heq:(x == x)=true:=by simp
    clear hs hs' HL3 HK3
    go_wp2_with fail
    go_quiet (fail)
    go_wp2
    go_roundw
    case rel=>exact ⟨i+1,rfl,by go_num,by omega,below_drewN hbel _⟩
    case measure=>simp [intOf];omega
   ·have ei:i=PS.length:=by omega
    subst ei
    clear HL3 HK3
    go_wp2
    go_meet
    case rel=>exact ⟨rfl,hbel⟩
 case rest=>
 obtain ⟨rfl,K8⟩:=hcut
 have z8:=K8.out.size
 have KW8:Hid (Below W0.heap.size W0 wc):=bvia KW7.out K8.out
 have HA8:=hide (HA7.out.later K8.out)
 have HB8:=hide (HB7.out.later K8.out)
 have O8:=hide (own_later O7.out K8.out)
 have B8:Hid (Below w.heap.size w wc):=bvia B0.out KW8.out
 clear K8 KW7 HA7 HB7 O7 HL3 HK3
 have hlo8:∀ b,(Value.slice la PS.length lcap).ownBlock=some b->w2.heap.size<=b:=fun b e=>(O8.out.lt b e).1
 have V8:Hid (Wld wc base wb hv L (FX (fun b _=>¬ (W0.heap.size<=b/\b<w2.heap.size)/\(Value.slice la PS.length lcap).ownBlock≠some b) wb hv)):=(HW.out.call B8.out).weaken (fun b o u ⟨x,y⟩ _=>⟨⟨by omega,fun e=>by have:=hlo8 b e;omega⟩,y⟩)
 have CK:=hide (keep_nums base wb PS.length hv (.slice la PS.length lcap) L (fun b=>W0.heap.size<=b/\b<w2.heap.size) _ wc (by omega) (by omega) (fun b e=>by omega) (by omega) V8.out (own_mono O8.out (by omega)) (fun b e=>⟨by have:=hlo8 b e;omega,fun e2=>by have:=hlo8 b e;have:=HLO.out b e2;omega⟩))
 clear V8 O8
 go_wp2_with fail
 refine CK.out.mono ?_
 rintro e w9 ⟨rfl,hv1,L1,hl1,hW1,hk1,hf1⟩
 have z9:=hk1.size
 have HA9:=hide (HA1.out.kp HA8.out hk1 (fun b h1 h2 e=>by
  rcases e with e | e | e
  ·omega
  ·have:=HLO.out b e;omega
  ·have:=hlo8 b e;omega))
 have HB9:=hide (HB1.out.kp HB8.out hk1 (fun b h1 h2 e=>by
  rcases e with e | e | e
  ·omega
  ·have:=HLO.out b e;omega
  ·have:=hlo8 b e;omega))
 have hlo1:∀ b,hv1.ownBlock=some b->b<w.heap.size\/w2.heap.size<=b:=fun b e=>by
  rcases hf1 with f | ⟨q,f,hq⟩
  ·rw [f] at e;exact .inl (HLO.out b e)
  ·rw [f] at e;have:=Option.some.inj e;omega
 have HLO1:=hide hlo1
 have HF1:=hide hf1
 have KP9:Hid (Kp (fun b=>b=wb\/hv.ownBlock=some b) w w9):=⟨hk1.os.trans B8.out.os,hk1.tape.trans B8.out.tape,hk1.output.trans B8.out.output,by have:=B8.out.size;omega,fun b hb hnx=>(hk1.block b (by have:=B8.out.size;omega) (fun e=>by
  rcases e with e | e | e
  ·exact hnx (.inl e)
  ·exact hnx (.inr e)
  ·have:=hlo8 b e;omega)).trans (B8.out.block b hb)⟩
 have CA:=hide (keepArg_gen base wb W0.heap.size w1.heap.size pa ra wa xa (fun b=>w1.heap.size<=b/\b<w2.heap.size) rga hv1 L1 PA vsa usa w9 hn HS.out (by omega) (by omega) (by omega) (fun b e=>by have:=hlo1 b e;omega) (by omega) bpa HRA.out (fun b e=>by omega) (hW1.weaken (fun b o u ⟨x,y⟩ _=>⟨⟨by omega,by omega⟩,y⟩)) HA9.out)
 clear hW1 hk1 hlo1 hlo8 CK HA8 HB8 KW8 HA9
 go_wp2_with fail
 refine CA.out.mono ?_
 rintro e w10 ⟨rfl,hv2,L2,hl2,hW2,hk2,hf2⟩
 have z10:=hk2.size
 have HB10:=hide (HB1.out.kp HB9.out hk2 (fun b h1 h2 e=>by
  rcases e with e | e | e
  ·omega
  ·have:=HLO1.out b e;omega
  ·omega))
 have hlo2:∀ b,hv2.ownBlock=some b->b<w.heap.size\/w2.heap.size<=b:=fun b e=>by
  rcases hf2 with f | ⟨q,f,hq⟩
  ·rw [f] at e;exact HLO1.out b e
  ·rw [f] at e;have:=Option.some.inj e;omega
 have HLO2:=hide hlo2
 have HF2:=hide hf2
 have KP10:Hid (Kp (fun b=>b=wb\/hv.ownBlock=some b) w w10):=⟨hk2.os.trans KP9.out.os,hk2.tape.trans KP9.out.tape,hk2.output.trans KP9.out.output,by have:=KP9.out.size;omega,fun b hb hnx=>(hk2.block b (by have:=KP9.out.size;omega) (fun e=>by
  rcases e with e | e | e
  ·exact hnx (.inl e)
  ·exact hnx (.inr (HF1.out.old (by have:=B8.out.size;omega) e))
  ·omega)).trans (KP9.out.block b hb hnx)⟩
 have CB:=hide (keepArg_gen base wb w1.heap.size w2.heap.size pb rb wl xb (fun _=>False) rg hv2 L2 PB vs us w10 hn2 HS2.out (by omega) (by omega) (by omega) (fun b e=>by have:=hlo2 b e;omega) (by omega) bpb HRB.out (fun b e=>e.elim) (hW2.weaken (fun b o u ⟨x,y⟩ _=>⟨⟨by omega,fun e=>e⟩,y⟩)) HB10.out)
 clear hW2 hk2 hlo2 CA HB9 KP9 HB10
 go_wp2_with fail
 refine CB.out.mono ?_
 rintro e w11 ⟨rfl,hv3,L3,hl3,hW3,hk3,_⟩
 have HW':=hide hW3
 have HK':Hid (Kp (fun b=>b=wb\/hv.ownBlock=some b) w w11):=⟨hk3.os.trans KP10.out.os,hk3.tape.trans KP10.out.tape,hk3.output.trans KP10.out.output,by have:=KP10.out.size;have:=hk3.size;omega,fun b hb hnx=>(hk3.block b (by have:=KP10.out.size;omega) (fun e=>by
  rcases e with e | e | e
  ·exact hnx (.inl e)
  ·exact hnx (.inr (HF1.out.old (by have:=B8.out.size;omega) (HF2.out.old (by have:=KP10.out.size;omega) e)))
  ·omega)).trans (KP10.out.block b hb hnx)⟩
 clear hW3 hk3 CB
 go_wp2
 go_ret
 exact ⟨rfl,hv3,L3,by omega,HW'.out.weaken (fun b o u ⟨_,y⟩ _=>⟨trivial,y⟩),HK'.out⟩
end Go.Proofs.YtnkcbephceollabGreat
