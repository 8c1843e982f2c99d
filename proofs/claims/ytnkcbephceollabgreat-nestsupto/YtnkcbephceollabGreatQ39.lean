import Derived.Test.YtnkcbephceollabGreatQ38
namespace Go.Proofs.YtnkcbephceollabGreat
open Go.RowKit
set_option linter.unusedSimpArgs false
set_option linter.unusedVariables false
theorem segs_at {w:World}{b off n cap:Nat}{L:List (Pt×Pt)}(h:SegsAt w (.slice (some ⟨b,off,none⟩) n cap) L)(j:Nat)(hj:j<L.length):SegAt w b (off+j*6) (edg L j)/\b<w.heap.size:=by
 obtain ⟨a,cap',e,h1,h2,h3⟩:=h
 obtain ⟨b',off',e',hb,hs⟩:=h3 j hj
 simp at e
 obtain ⟨rfl,-,-⟩:=e
 simp at e'
 obtain ⟨rfl,rfl⟩:=e'
 exact ⟨hs,hb⟩
def NxOk (L:List (Pt×Pt))(N:List Nat):Prop:=∀ k,k<L.length->N.getD k 0<L.length/\∀ j,j<L.length->(((edg L j).1=(edg L k).2/\frM L k j L.length=true)↔j=N.getD k 0)
theorem pts_zero (L:List (Pt×Pt))(N:List Nat)(i:Nat):ptsN L N i 0 0=[]:=by rw [ptsN]
theorem pts_len (L:List (Pt×Pt))(N:List Nat)(i:Nat):∀ c,(ptsN L N i 0 c).length<=c
 | 0=>by rw [pts_zero];simp
 | c+1=>by
  have ih:=pts_len L N i c
  rw [pts_snoc,List.length_append]
  split
  ·rw [List.length_singleton];omega
  ·rw [List.length_nil];omega
set_option maxRecDepth 100000 in
set_option maxHeartbeats 8000000 in
theorem rring_any (v:Value)(L:List (Pt×Pt))(N:List Nat)(i m tb:Nat)(t:List Bool)(w:World)(hS:∀ wz,Kp (fun b=>b=tb) w wz->SegsAt wz v L)(hG:GdE L)(hN:NxOk L N)(hn:L.length<=100000)(hi:i<L.length)
  (hm1:1<=m) (hmL:m<=L.length) (hmi:itN N i m=i) (hml:∀ a,1<=a->a<m->itN N i a≠i) (htl:t.length=L.length) (hT:Blk w tb (boolCells t)) :
  Calls Tryz.prog 55 #[v,.int .i64 (i:Nat),.slice (some ⟨tb,0,none⟩) L.length L.length] w fun e w'=>∃ v',e = .returned v'/\w'.ownsRow w.heap.size 31 3 v' (ptsN L N i 0 m).length (ptCells (ptsN L N i 0 m))/\Blk w' tb (boolCells (setN t N i m))/\Kp (fun b=>b=tb) w w':=by
 obtain ⟨i0,hi0,hz0,hz1,hz2⟩:=info_parts infoPoint
 obtain ⟨a,cap,rfl,a1,a2,a3⟩:=hS w (Kp.refl _ _)
 unfold maxLen at a2
 obtain ⟨b,off,rfl,hb,_⟩:=a3 i hi
 have HS:=hide hS
 have HG:=hide hG
 have HN:=hide hN
 have HML:=hide hml
 have hit:∀ a,itN N i a<L.length:=fun a=>by
  induction a with
  | zero=>exact hi
  | succ a ih=>exact (hN _ ih).1
 have HIT:=hide hit
 have HT:=hide hT
 have htb:tb<w.heap.size:=hT.lt
 clear a3 hS hG hN hml hit hT
 have HP0:=hide (pts_zero L N i)
 have HPS:=hide (fun c=>pts_snoc L N i c 0)
 have HPL:=hide (pts_len L N i)
 have HS0:=hide (show setN t N i 0=t from rfl)
 have HSS:=hide (fun a=>show setN t N i (a+1)=(setN t N i a).set (itN N i a) true from rfl)
 have HSL:=hide (setN_len t N i)
 have HI0:=hide (show itN N i 0=i from rfl)
 have HIS:=hide (fun a=>show itN N i (a+1)=N.getD (itN N i a) 0 from rfl)
 go_enter Tryz.func55,Tryz.ntmps55
 go_wp2_with fail
 go_loopw [7,8,9,10,11] (fun ov av nv _ _ w'=>∃ a:Nat,nv = .int .i64 a/\a<m/\av = .int .i64 (itN N i a:Nat)/\w'.ownsRow w.heap.size 31 3 ov (ptsN L N i 0 a).length (ptCells (ptsN L N i 0 a))/\Blk w' tb (boolCells (setN t N i a))/\Kp (fun b=>b=tb) w w') (fun _ _ nv _ _ _=>L.length+1-(intOf nv).toNat)
 case atStart=>exact ⟨0,rfl,by omega,by rw [HI0.out],by rw [HP0.out];exact World.ownsRow_nil _ _ _ _,by rw [HS0.out];exact HT.out,Kp.refl _ _⟩
 case round=>
  clear HT HP0 HS0 HI0
  obtain ⟨c,rfl,hc,rfl,hO,hT,hK⟩:=hrel
  have hk:=HIT.out c
  have hf:=HIT.out (c+1)
  have HP1:=hide (HPS.out c)
  have hpl:=HPL.out c
  have HE:Hid (c+1<m->itN N i (c+1)≠i):=hide fun h=>HML.out (c+1) (by omega) h
  have HF:Hid (c+1=m->itN N i (c+1)=i):=hide fun h=>by rw [h];exact hmi
  have hstl:=HSL.out c
  have HT1:=hide (HSS.out c)
  have HX:Hid (∀ j,j<L.length->(((edg L j).1=(edg L (itN N i c)).2/\frM L (itN N i c) j L.length=true)↔j=itN N i (c+1))):=by
   rw [HIS.out];exact hide (HN.out _ hk).2
  rw [Nat.zero_add] at HP1
  generalize ptsN L N i 0 c=acc at *
  generalize setN t N i c=tc at *
  generalize hkk:itN N i c=k at *
  generalize hjj:itN N i (c+1)=f at *
  have hlt':=hT.lt
  have hft:=hT.free
  have ct:=(hT.cell k).trans (bools_at tc k (by omega))
  have hk0:(0:Int)<=(k:Int):=Int.natCast_nonneg _
  have hk1:(k:Int)<(L.length:Int):=by omega
  have hcl:(c:Int)<=(L.length:Int):=by omega
  obtain ⟨W4,hW4⟩:∃ W,W=wr.setCell ⟨tb,k,none⟩ (.bool true):=⟨_,rfl⟩
  have T4:Hid (Blk W4 tb (boolCells (tc.set k true))):=by
   rw [hW4,<-bools_set];exact hide (hT.set k (by rw [bools_size];omega) _)
  have K4:Kp (fun b=>b=tb) wr W4:=by rw [hW4];exact Kp.setCell (X:=fun b=>b=tb) (p:=⟨tb,k,none⟩) (Kp.refl _ _) (fun _=>rfl) _
  have A4:=hide (Kp.own hO K4 (fun b' hb' e=>by have:=(hO.lt b' hb').1;omega))
  have KR:Hid (Kp (fun b=>b=tb) w W4):=hide (hK.trans K4)
  have C1:=hide (rnext_any _ L k f W4 (HS.out W4 KR.out) HG.out hk hf HX.out)
  clear hO hT hK K4 HX
  go_upto_region 7 with fail
  rw [<-hW4]
  clear hW4 ct hft
  go_wp2_with fail
  refine C1.out.mono ?_
  rintro e' w5 ⟨rfl,k5⟩
  have A5:=hide (own_later A4.out k5)
  have T5:=hide (T4.out.call k5)
  have K5:=hide (KR.out.trans (Kp.of k5))
  have hf0:(0:Int)<=(f:Int):=Int.natCast_nonneg _
  have hf1:(f:Int)<(L.length:Int):=by omega
  have hfn : ¬ (f:Int)<0:=by omega
  clear A4 T4 KR C1 k5
  have g1:=edg_good HG.out k
  have g2:=edg_good HG.out f
  have CD:=hide (fun wz=>rdet_any (edg L k).1 (edg L k).2 (edg L f).2 wz g1.1 g1.2 g2.2)
  have HTB:=hide (show turnB (edg L k) (edg L f)=decide (detM (edg L k).1 (edg L k).2 (edg L f).2≠0) from rfl)
  have HSG:Hid (∀ wz,Kp (fun b=>b=tb) w wz->SegAt wz b (off+k*6) (edg L k)/\SegAt wz b (off+f*6) (edg L f)):=hide fun wz kz=>⟨(segs_at (HS.out wz kz) k hk).1,(segs_at (HS.out wz kz) f hf).1⟩
  have hz5:=K5.out.size
  have hb5:b<w5.heap.size:=by omega
  generalize edg L k=e at *
  generalize edg L f=g at *
  obtain ⟨⟨c0,c1,c2,c3,c4,c5⟩,d0,d1,d2,d3,d4,d5⟩:=HSG.out w5 K5.out
  clear d0 d1 d2 HG HS HN
  go_upto_region 10 with fail
  go_cut [11] (fun tv w'=>tv = .int .i64 (detM e.1 e.2 g.2)/\Below w5.heap.size w5 w')
  case first=>
   clear HP1 HE HF HT1 A5 T5 K5 HTB HSG HIT HPS HPL HSL HSS HIS HML
   go_region_held3 (fun w'=>w'.cell? ⟨b,off+k*6,none⟩=some (.int .i64 e.1.x)/\w'.cell? ⟨b,off+k*6+1,none⟩=some (.int .i64 e.1.y)/\w'.cell? ⟨b,off+k*6+2,none⟩=some (.int .i64 e.1.d)/\w'.cell? ⟨b,off+k*6+3,none⟩=some (.int .i64 e.2.x)/\w'.cell? ⟨b,off+k*6+4,none⟩=some (.int .i64 e.2.y)/\w'.cell? ⟨b,off+k*6+5,none⟩=some (.int .i64 e.2.d)/\w'.cell? ⟨b,off+f*6+3,none⟩=some (.int .i64 g.2.x)/\w'.cell? ⟨b,off+f*6+4,none⟩=some (.int .i64 g.2.y)/\w'.cell? ⟨b,off+f*6+5,none⟩=some (.int .i64 g.2.d))
    (first
     | go_keep
     |(go_split_ands
       refine ⟨?_,?_,?_,?_,?_,?_,?_,?_,?_⟩
       ·(
        rw [k6.cell (p:=⟨b,off+k*6,none⟩) (by simp;omega)];assumption)
       ·(
        rw [k6.cell (p:=⟨b,off+k*6+1,none⟩) (by simp;omega)];assumption)
       ·(
        rw [k6.cell (p:=⟨b,off+k*6+2,none⟩) (by simp;omega)];assumption)
       ·(
        rw [k6.cell (p:=⟨b,off+k*6+3,none⟩) (by simp;omega)];assumption)
       ·(
        rw [k6.cell (p:=⟨b,off+k*6+4,none⟩) (by simp;omega)];assumption)
       ·(
        rw [k6.cell (p:=⟨b,off+k*6+5,none⟩) (by simp;omega)];assumption)
       ·(
        rw [k6.cell (p:=⟨b,off+f*6+3,none⟩) (by simp;omega)];assumption)
       ·(
        rw [k6.cell (p:=⟨b,off+f*6+4,none⟩) (by simp;omega)];assumption)
       ·(
        rw [k6.cell (p:=⟨b,off+f*6+5,none⟩) (by simp;omega)];assumption)))
    ((
     go_at_call 70;refine (CD.out _).mono ?_;rintro e' w6 ⟨rfl,k6⟩))
   all_goals
    go_wp2_with fail
    go_meet
    case rel=>exact ⟨rfl,bvia (Below.refl _ _).drew k6⟩
  case rest=>
   obtain ⟨rfl,k6⟩:=hcut
   have A6:=hide (own_later A5.out k6)
   have T6:=hide (T5.out.call k6)
   have K6:=hide (K5.out.trans (Kp.of k6))
   have hz6:=K6.out.size
   clear A5 T5 K5 k6 CD c0 c1 c2 c3 c4 c5 d3 d4 d5
   generalize hdd:detM e.1 e.2 g.2=dd at *
   by_cases hd:dd=0
   ·have hd':(dd != 0)=false:=by simpa using hd
    have HN1:Hid (ptsN L N i 0 (c+1)=acc):=by rw [HP1.out,HTB.out,hd];exact hide (by simp)
    have A7:Hid (wc.ownsRow w.heap.size 31 3 u7 (ptsN L N i 0 (c+1)).length (ptCells (ptsN L N i 0 (c+1)))):=by rw [HN1.out];exact A6
    have T7:Hid (Blk wc tb (boolCells (setN t N i (c+1)))):=by rw [HT1.out];exact T6
    clear HP1 HTB HT1 A6 T6 HN1 HIT HPS HPL HSL HSS HIS HML HSG hdd
    by_cases hcm:c+1=m
    ·have hfi:=HF.out hcm
     have hfi':((f:Int) == (i:Int))=true:=by simp;omega
     clear HF HE
     go_wp2
     go_ret
     exact ⟨_,rfl,by rw [<-hcm];exact A7.out,by rw [<-hcm];exact T7.out,K6.out⟩
    ·have hfi:=HE.out (by omega)
     have hfi':((f:Int) == (i:Int))=false:=by simp;omega
     clear HF HE
     go_wp2
     go_roundw
     case rel=>exact ⟨c+1,by go_num,by omega,by rw [hjj],A7.out,T7.out,K6.out⟩
     case measure=>simp [intOf];omega
   ·have hd':(dd != 0)=true:=by simpa using hd
    have HN1:Hid (ptsN L N i 0 (c+1)=acc ++ [e.2]):=by rw [HP1.out,HTB.out];exact hide (by simp [hd])
    obtain ⟨⟨c0,c1,c2,c3,c4,c5⟩,_⟩:=HSG.out wc K6.out
    have T7:Hid (Blk wc tb (boolCells (setN t N i (c+1)))):=by rw [HT1.out];exact T6
    have hnews:=World.news_of_block (w:=wc.alloc (.cells #[.int .i64 e.2.x,.int .i64 e.2.y,.int .i64 e.2.d] 31)) (cs:=#[.int .i64 e.2.x,.int .i64 e.2.y,.int .i64 e.2.d]) (t:=31) (fr:=(0,0)) (heap_alloc_new wc _)
    have hn1:acc.length+1<=maxLen:=by unfold maxLen;omega
    have hn2:(acc.length+1)*24<=140737488355328:=by omega
    clear HP1 HTB HT1 T6 HIT HPS HPL HSL HSS HIS HML HSG hdd
    go_upto_region 13 with (at_builtin;refine wpList_append_lies _ rfl _ _ _ rfl w.heap.size 31 i0 _ 3 24 Tryz.underlying57 hi0 hz0 hz1 hz2 rfl (by omega) u7 acc.length (ptCells acc) rfl (A6.out.alloc _) ⟨wc.heap.size,0,none⟩ 1 1 (ptCell e.2) rfl rfl hnews (by simp [ptCell,Value.oneCell']) (by omega) hn1 hn2 (by simp;omega) _ rfl ?_;intro gg cp w7 ho hgrow hat hlt7)
    have KG:Kp (fun b=>u7.ownBlock=some b) wc w7:=Kp.grown ((Kp.refl _ _).alloc _) hgrow (fun k hk=>hk)
    have O7:Hid (w7.ownsRow w.heap.size 31 3 (.slice (some ⟨gg,0,none⟩) (acc.length+1) cp) (ptsN L N i 0 (c+1)).length (ptCells (ptsN L N i 0 (c+1)))):=by
     refine hide ?_
     rw [HN1.out,ptCells_append,List.length_append]
     have e2:ptCells [e.2]=ptCell e.2:=by simp [ptCells]
     rw [e2];exact ho
    have T8:=hide (Kp.blk T7.out KG (fun e=>by have:=(A6.out.lt tb e).1;omega))
    have K7:Hid (Kp (fun b=>b=tb) w w7):=hide (K6.out.then KG (fun x hx e=>by have:=(A6.out.lt x e).1;omega))
    clear ho hgrow hat hnews A6 T7 K6 KG c0 c1 c2 c3 c4 c5 HN1
    by_cases hcm:c+1=m
    ·have hfi:=HF.out hcm
     have hfi':((f:Int) == (i:Int))=true:=by simp;omega
     clear HF HE
     go_wp2
     go_ret
     exact ⟨_,rfl,by rw [<-hcm];exact O7.out,by rw [<-hcm];exact T8.out,K7.out⟩
    ·have hfi:=HE.out (by omega)
     have hfi':((f:Int) == (i:Int))=false:=by simp;omega
     clear HF HE
     go_wp2
     go_roundw
     case rel=>exact ⟨c+1,by go_num,by omega,by rw [hjj],O7.out,T8.out,K7.out⟩
     case measure=>simp [intOf];omega
set_option maxRecDepth 100000 in
set_option maxHeartbeats 8000000 in
theorem Rings_any (op:Int)(v:Value)(l:List Pc)(w:World)(hl:PcsAt w v l)(hn:l.length<=100000)(hg:∀ x∈l,Gd x.p/\Gd x.q) :
  Calls Tryz.prog 53 #[.int .i64 op,v] w fun e w'=>∃ v' vs,e = .returned v'/\OwnR w' w.heap.size v' (ringsM (bordM op l)) vs/\Below w.heap.size w w':=by
 obtain ⟨i0,hi0,hz0,hz1,hz2⟩:=info_parts infoPoint
 have hLl:=bord_len op l
 have hG:GdE (bordM op l):=fun j hj=>by
  obtain ⟨x,hx,h⟩:=bord_mem (getD_mem hj (zP,zP))
  rcases h with h | h
  ·rw [h];exact hg x hx
  ·rw [h];exact (hg x hx).symm
 have HG:=hide hG
 have C1:=hide (bordersOf_any op v l w hl (by omega))
 clear hl hg hG
 generalize bordM op l=L at *
 have HRM:=hide (show ringsM L=(ringsN L L.length).1 from rfl)
 have HR0:=hide (show ringsN L 0=([],List.replicate L.length false) from rfl)
 have HRS:=hide (fun i=>show ringsN L (i+1)=(if (walkM L (nextsM L) (L.length+1) (ringsN L i).2 i).1.length > 0 then insL (ringsN L i).1 (leastL (walkM L (nextsM L) (L.length+1) (ringsN L i).2 i).1 (walkM L (nextsM L) (L.length+1) (ringsN L i).2 i).1.length) else (ringsN L i).1,(walkM L (nextsM L) (L.length+1) (ringsN L i).2 i).2) from rfl)
 have HRG:=hide (rings_good HG.out)
 have HRL:=hide (rings_len L)
 have HRT:=hide (rings_tlen L)
 have HNL:=hide (nexts_lt L)
 have hNl:=nexts_len L
 have HWG:=hide (walk_good HG.out (nextsM L))
 go_enter Tryz.func53,Tryz.ntmps53
 go_wp2_with fail
 refine C1.out.mono ?_
 rintro e w1 ⟨bv,rfl,o1,k1⟩
 have S1:=segs_of_own o1 (by unfold maxLen;omega)
 have C2:=hide (followers_any bv L w1 S1 HG.out (by omega))
 obtain ⟨ba,bcap,rfl,b1,b2,b3⟩:=id S1
 unfold maxLen at b2
 have HB3:=hide b3
 clear S1 C1 o1 b3
 go_wp2_with fail
 refine C2.out.mono ?_
 rintro e w2 ⟨nv,rfl,o2,k2⟩
 have hmk:=mk_bools L.length (by omega)
 generalize nextsM L=N at *
 obtain ⟨na,ncap,rfl,hag,hpos,hmx⟩:=own_form o2
 unfold maxLen at hmx
 obtain ⟨W3,hW3⟩:∃ W,W=w2.alloc (.cells (madeCells #[.bool false] L.length) 4):=⟨_,rfl⟩
 obtain ⟨tb,htb⟩:∃ b,b=w2.heap.size:=⟨_,rfl⟩
 have z3:W3.heap.size=tb+1:=by rw [hW3,htb];simp
 have T3:Hid (Blk W3 tb (boolCells (List.replicate L.length false))):=by rw [hW3,htb,<-bools_made];exact hide (Blk.new w2 _ _)
 have K12:=bvia k1 k2
 have B3:Hid (Below w.heap.size w W3):=by rw [hW3];exact hide (K12.alloc K12.size _)
 have zw:=K12.size
 have hz2':=k2.size
 have htw:w.heap.size<=tb:=by omega
 have HSeg:Hid (∀ wz,Kp (fun b=>b=tb) W3 wz->∀ j,j<L.length->∃ b off,ba=some ⟨b,off,none⟩/\b<W3.heap.size/\SegAt wz b (off+j*6) (edg L j)):=by
  refine hide fun wz kz j hj=>?_
  obtain ⟨b,off,e,hb,hs⟩:=HB3.out j hj
  have h3:SegAt W3 b (off+j*6) (edg L j):=by
   rw [hW3]
   exact (hs.later k2 hb).later ((Below.refl w2.heap.size w2).alloc (Nat.le_refl _) _) (by omega)
  exact ⟨b,off,e,by omega,h3.kp kz (by omega)⟩
 have HNx:Hid (∀ nb,na=some ⟨nb,0,none⟩->nb<W3.heap.size/\∀ wz,Kp (fun b=>b=tb) W3 wz->∀ j,j<L.length->wz.cell? ⟨nb,j,none⟩=some (.int .i64 (N.getD j 0:Nat))):=by
  refine hide fun nb e=>?_
  subst e
  have hl:=o2.lt nb rfl
  refine ⟨by omega,fun wz kz j hj=>?_⟩
  refine kz.cellOf (w:=W3) ?_ (by omega)
  have c2:w2.cell? ⟨nb,j,none⟩=some (.int .i64 (N.getD j 0:Nat)):=by
   rw [own_cell o2 nb rfl j (by omega)]
   unfold numCells
   rw [List.getElem?_map,List.getElem?_eq_getElem (by omega),List.getD_eq_getElem?_getD,List.getElem?_eq_getElem (by omega)];rfl
  rw [hW3]
  exact (((Below.refl w2.heap.size w2).alloc (Nat.le_refl _) _).cell (p:=⟨nb,j,none⟩) hl.2).trans c2
 have HPN:Hid (∀ j,j<L.length->∃ nb,na=some ⟨nb,0,none⟩):=hide fun j hj=>by
  obtain ⟨nb,hnb⟩:=hpos (by omega)
  exact ⟨nb,hag nb hnb⟩
 clear HB3 k1 k2 o2 K12 hag hpos C2
 go_upto_block 0 with fail
 rw [<-hW3,<-htb]
 clear hW3 htb hmk
 go_wp2_with fail
 go_loopw [8,9,10,11,12,23] (fun rv _ _ _ _ iv w'=>∃ (i:Nat) (vs:List Value),iv = .int .i64 i/\i<=L.length/\OwnR w' W3.heap.size rv (ringsN L i).1 vs/\Blk w' tb (boolCells (ringsN L i).2)/\Kp (fun b=>b=tb) W3 w') (fun _ _ _ _ _ iv _=>L.length-(intOf iv).toNat)
 case atStart=>exact ⟨0,[],rfl,Nat.zero_le _,by rw [HR0.out];exact OwnR.nil _ _,by rw [HR0.out];exact T3.out,Kp.refl _ _⟩
 case round=>
  clear T3 HR0
  rename World=>wo
  obtain ⟨i,vs,rfl,hi,hO,hT,hK⟩:=hrel
  by_cases hlt:i<L.length
  ·have HS:=hide (HRS.out i)
   have HG1:=hide (HRG.out i)
   have hRl:=HRL.out i
   have hTl:=HRT.out i
   have HRG1:=hide (HRG.out (i+1))
   generalize ringsN L i=st at *
   obtain ⟨R,t0⟩:=st
   have HO:=hide hO
   have HT:=hide hT
   have HK:=hide hK
   have hzr:=hK.size
   have hwl:=walk_len L N (L.length+1) t0 i
   have hwt:=walk_tlen L N (L.length+1) t0 i
   have HWG1:=hide (HWG.out (L.length+1) t0 i)
   have HF:Hid (∀ f,f=walkM L N (L.length+1) t0 i->f=([] ++ (walkM L N (L.length+1) t0 i).1,(walkM L N (L.length+1) t0 i).2)):=hide fun f e=>by rw [e];rfl
   obtain ⟨full,hfull⟩:∃ f,f=walkM L N (L.length+1) t0 i:=⟨_,rfl⟩
   have HF0:=hide (HF.out full hfull)
   have hfree:freeN t0<L.length+1:=by have:=free_le t0;have h2:t0.length=L.length:=hTl;omega
   simp only at HS HG1 hRl hTl
   rw [<-hfull] at HS hwl hwt HWG1
   clear hO hT hK HRG HRL HRT HRS HF hfull
   go_upto_block 2 with fail
   go_cut [10,11] (fun gv _ w'=>w'.ownsRow wo.heap.size 31 3 gv full.1.length (ptCells full.1)/\Blk w' tb (boolCells full.2)/\Kp (fun b=>b=tb) wo w')
   case first=>
    clear HS HRG1 HG1 HO
    go_wp2_with fail
    go_loopw [10,11] (fun gv kv w'=>∃ (k f:Nat) (acc:List Pt) (t:List Bool),kv = .int .i64 k/\k<L.length/\t.length=L.length/\freeN t<f/\acc.length+f<=L.length+1/\w'.ownsRow wo.heap.size 31 3 gv acc.length (ptCells acc)/\Blk w' tb (boolCells t)/\Kp (fun b=>b=tb) wo w'/\Hid (full=(acc ++ (walkM L N f t k).1,(walkM L N f t k).2))) (fun _ _ w'=>cntF w' tb L.length)
    case atStart=>exact ⟨i,L.length+1,[],t0,rfl,hlt,hTl,hfree,by simp,World.ownsRow_nil _ _ _ _,HT.out,Kp.refl _ _,HF0⟩
    case round=>
     clear HF0 HT
     obtain ⟨k,f,acc,t,rfl,hk,htl,hfr,hal,hA,hT,hK,HF⟩:=hrel
     have ct:=(hT.cell k).trans (bools_at t k (by omega))
     have hft:=hT.free
     have hlt':=hT.lt
     have hk0:(0:Int)<=(k:Int):=Int.natCast_nonneg _
     have hk1:(k:Int)<(L.length:Int):=by omega
     have hcn:=cnt_eq hT
     rw [htl] at hcn
     cases hb:t.getD k false
     ·rw [hb] at ct
      obtain ⟨f,rfl⟩:∃ f',f=f'+1:=⟨f-1,by omega⟩
      have HF2:Hid (full=(acc ++ ((if turnB (edg L k) (edg L (N.getD k 0))=true then [(edg L k).2] else []) ++ (walkM L N f (t.set k true) (N.getD k 0)).1),(walkM L N f (t.set k true) (N.getD k 0)).2)):=by rw [HF.out,walk_step hb];exact hide rfl
      have hfs:=free_set t k (by omega) hb
      obtain ⟨W4,hW4⟩:∃ W,W=wr.setCell ⟨tb,k,none⟩ (.bool true):=⟨_,rfl⟩
      have T4:Blk W4 tb (boolCells (t.set k true)):=by
       rw [hW4,<-bools_set];exact hT.set k (by rw [bools_size];omega) _
      have K4:Kp (fun b=>b=tb) wr W4:=by rw [hW4];exact Kp.setCell (X:=fun b=>b=tb) (p:=⟨tb,k,none⟩) (Kp.refl _ _) (fun _=>rfl) _
      have A4:=hide (Kp.own hA K4 (fun b hb e=>by have:=(hA.lt b hb).1;omega))
      have KK:Kp (fun b=>b=tb) W3 W4:=(HK.out.trans hK).trans K4
      have KR:Kp (fun b=>b=tb) wo W4:=hK.trans K4
      have hml:=HNL.out k hk
      obtain ⟨nb,hnb⟩:=HPN.out k hk
      obtain ⟨hnl,hnx⟩:=HNx.out nb hnb
      subst hnb
      have cN:=hnx W4 KK k hk
      obtain ⟨b,off,e1,hbl,hs1⟩:=HSeg.out W4 KK k hk
      subst e1
      obtain ⟨b',off',e2,_,hs2⟩:=HSeg.out W4 KK _ hml
      simp at e2
      obtain ⟨rfl,rfl⟩:=e2
      have g1:=edg_good HG.out k
      have g2:=edg_good HG.out (N.getD k 0)
      have HNX:=hide hnx
      have C:=hide (fun wz=>isTurn_any (edg L k) (edg L (N.getD k 0)) wz g1.1 g1.2 g2.2)
      have z4:=KK.size
      have hcn4:=cnt_eq T4
      rw [List.length_set,htl] at hcn4
      generalize edg L k=e at *
      generalize hm:N.getD k 0=m at *
      generalize edg L m=g at *
      have T4':=hide T4
      have KR':=hide KR
      have KK':=hide KK
      clear hA hT hK T4 KR KK K4 HF HNL hnx
      go_upto_region 13 with fail
      rw [<-hW4]
      clear hW4 ct hft
      have HS1:=hide hs1
      obtain ⟨c0,c1,c2,c3,c4,c5⟩:=hs1
      obtain ⟨d0,d1,d2,d3,d4,d5⟩:=hs2
      have hm0:(0:Int)<=(m:Int):=Int.natCast_nonneg _
      have hm1:(m:Int)<(L.length:Int):=by omega
      have hb4:b<W4.heap.size:=by omega
      have hn4:nb<W4.heap.size:=by omega
      go_cut [50] (fun cv w'=>cv = .bool (turnB e g)/\Below W4.heap.size W4 w')
      case first=>
       clear HF2 T4' KR' KK' HNX HS1 A4 HG HSeg HNx HPN HWG HWG1 HK B3 HRM
       go_region_held3 (fun w'=>w'.cell? ⟨b,off+k*6,none⟩=some (.int .i64 e.1.x)/\w'.cell? ⟨b,off+k*6+1,none⟩=some (.int .i64 e.1.y)/\w'.cell? ⟨b,off+k*6+2,none⟩=some (.int .i64 e.1.d)/\w'.cell? ⟨b,off+k*6+3,none⟩=some (.int .i64 e.2.x)/\w'.cell? ⟨b,off+k*6+4,none⟩=some (.int .i64 e.2.y)/\w'.cell? ⟨b,off+k*6+5,none⟩=some (.int .i64 e.2.d)/\w'.cell? ⟨nb,k,none⟩=some (.int .i64 (m:Nat))/\w'.cell? ⟨b,off+m*6,none⟩=some (.int .i64 g.1.x)/\w'.cell? ⟨b,off+m*6+1,none⟩=some (.int .i64 g.1.y)/\w'.cell? ⟨b,off+m*6+2,none⟩=some (.int .i64 g.1.d)/\w'.cell? ⟨b,off+m*6+3,none⟩=some (.int .i64 g.2.x)/\w'.cell? ⟨b,off+m*6+4,none⟩=some (.int .i64 g.2.y)/\w'.cell? ⟨b,off+m*6+5,none⟩=some (.int .i64 g.2.d))
        (first
         | go_keep
         |(go_split_ands
           refine ⟨?_,?_,?_,?_,?_,?_,?_,?_,?_,?_,?_,?_,?_⟩
           ·(
            rw [k5.cell (p:=⟨b,off+k*6,none⟩) (by simp;omega)];assumption)
           ·(
            rw [k5.cell (p:=⟨b,off+k*6+1,none⟩) (by simp;omega)];assumption)
           ·(
            rw [k5.cell (p:=⟨b,off+k*6+2,none⟩) (by simp;omega)];assumption)
           ·(
            rw [k5.cell (p:=⟨b,off+k*6+3,none⟩) (by simp;omega)];assumption)
           ·(
            rw [k5.cell (p:=⟨b,off+k*6+4,none⟩) (by simp;omega)];assumption)
           ·(
            rw [k5.cell (p:=⟨b,off+k*6+5,none⟩) (by simp;omega)];assumption)
           ·(
            rw [k5.cell (p:=⟨nb,k,none⟩) (by simp;omega)];assumption)
           ·(
            rw [k5.cell (p:=⟨b,off+m*6,none⟩) (by simp;omega)];assumption)
           ·(
            rw [k5.cell (p:=⟨b,off+m*6+1,none⟩) (by simp;omega)];assumption)
           ·(
            rw [k5.cell (p:=⟨b,off+m*6+2,none⟩) (by simp;omega)];assumption)
           ·(
            rw [k5.cell (p:=⟨b,off+m*6+3,none⟩) (by simp;omega)];assumption)
           ·(
            rw [k5.cell (p:=⟨b,off+m*6+4,none⟩) (by simp;omega)];assumption)
           ·(
            rw [k5.cell (p:=⟨b,off+m*6+5,none⟩) (by simp;omega)];assumption)))
        ((
         go_at_call 94;refine (C.out _).mono ?_;rintro e' w5 ⟨rfl,k5⟩))
       all_goals
        go_wp2_with fail
        go_meet
        case rel=>exact ⟨rfl,bvia (Below.refl _ _).drew k5⟩
      case rest=>
       obtain ⟨rfl,k5⟩:=hcut
       have A5:=hide (own_later A4.out k5)
       have T5:=T4'.out.call k5
       have KR5:=hide (KR'.out.trans (Kp.of k5))
       have KK5:Kp (fun b=>b=tb) W3 wc:=KK'.out.trans (Kp.of k5)
       have cN5:=HNX.out wc KK5 k hk
       have hs5:=HS1.out.later k5 hb4
       have hcn5:=cnt_eq T5
       rw [List.length_set,htl] at hcn5
       rw [hm] at cN5
       have T5':=hide T5
       have z5:=k5.size
       have zo:wo.heap.size<=wc.heap.size:=KR5.out.size
       clear A4 T4' KR' KK' k5 c0 c1 c2 c3 c4 c5 d0 d1 d2 d3 d4 d5 cN C T5 HS1 HNX KK5
       cases ht:turnB e g
       ·have HF3:Hid (full=(acc ++ (walkM L N f (t.set k true) m).1,(walkM L N f (t.set k true) m).2)):=by rw [HF2.out,ht];exact hide rfl
        clear HF2
        go_wp2
        go_roundw
        case rel=>exact ⟨m,f,acc,t.set k true,rfl,hml,by rw [List.length_set];exact htl,by omega,by omega,A5.out,T5'.out,KR5.out,HF3⟩
        case measure=>omega
       ·have HF3:Hid (full=((acc ++ [e.2]) ++ (walkM L N f (t.set k true) m).1,(walkM L N f (t.set k true) m).2)):=by rw [HF2.out,ht,List.append_assoc];exact hide rfl
        clear HF2
        obtain ⟨c0,c1,c2,c3,c4,c5⟩:=hs5
        have hnews:=World.news_of_block (w:=wc.alloc (.cells #[.int .i64 e.2.x,.int .i64 e.2.y,.int .i64 e.2.d] 31)) (cs:=#[.int .i64 e.2.x,.int .i64 e.2.y,.int .i64 e.2.d]) (t:=31) (fr:=(0,0)) (heap_alloc_new wc _)
        have hn1:acc.length+1<=maxLen:=by unfold maxLen;omega
        have hn2:(acc.length+1)*24<=140737488355328:=by omega
        go_wp2_with (at_builtin;refine wpList_append_lies _ rfl _ _ _ rfl wo.heap.size 31 i0 _ 3 24 Tryz.underlying57 hi0 hz0 hz1 hz2 rfl (by omega) u10 acc.length (ptCells acc) rfl (A5.out.alloc _) ⟨wc.heap.size,0,none⟩ 1 1 (ptCell e.2) rfl rfl hnews (by simp [ptCell,Value.oneCell']) (by omega) hn1 hn2 (by simp;omega) _ rfl ?_;intro gg cp w6 ho hgrow hat hlt6;have KG:Kp (fun b=>u10.ownBlock=some b) wc w6:=Kp.grown ((Kp.refl _ _).alloc _) hgrow (fun k hk=>hk);have cN6:=KG.cellOf cN5 (fun e=>by have:=(A5.out.lt nb e).1;omega))
        have O6:Hid (w6.ownsRow wo.heap.size 31 3 (.slice (some ⟨gg,0,none⟩) (acc.length+1) cp) (acc ++ [e.2]).length (ptCells (acc ++ [e.2]))):=by
         refine hide ?_
         rw [ptCells_append,List.length_append]
         have e2:ptCells [e.2]=ptCell e.2:=by simp [ptCells]
         rw [e2];exact ho
        have T6:=Kp.blk T5'.out KG (fun e=>by have:=(A5.out.lt tb e).1;omega)
        have KR6:Hid (Kp (fun b=>b=tb) wo w6):=hide (KR5.out.then KG (fun x hx e=>by have:=(A5.out.lt x e).1;omega))
        have hcn6:=cnt_eq T6
        rw [List.length_set,htl] at hcn6
        have T6':=hide T6
        have hal6:(acc ++ [e.2]).length+f<=L.length+1:=by rw [List.length_append,List.length_singleton];omega
        clear ho hgrow hat hnews A5 T5' KR5 KG c0 c1 c2 c3 c4 c5 T6 cN5
        go_wp2
        go_roundw
        case rel=>exact ⟨m,f,acc ++ [e.2],t.set k true,rfl,hml,by rw [List.length_set];exact htl,by omega,hal6,O6.out,T6'.out,KR6.out,HF3⟩
        case measure=>omega
     ·rw [hb] at ct
      have HF2:Hid (full=(acc,t)):=by rw [HF.out,walk_end (by omega) hb];exact hide (by simp)
      have HA:=hide hA
      have HT2:=hide hT
      have HK2:=hide hK
      clear hA hT hK HF
      go_wp2
      go_meet
      case rel=>exact ⟨by rw [HF2.out];exact HA.out,by rw [HF2.out];exact HT2.out,HK2.out⟩
   case rest=>
    obtain ⟨hA,hT,hK⟩:=hcut
    obtain ⟨ring,t1⟩:=full
    simp only at HS hwl hwt HWG1 hA hT
    have HA:=hide hA
    have RA:=hide (ring_of_own hA (by unfold maxLen;omega))
    have HT1:=hide hT
    have KW:Kp (fun b=>b=tb) W3 wc:=HK.out.trans hK
    have HKW:=hide KW
    have zc:=hK.size
    have HO1:=hide (HO.out.kp hK (fun b h1 _ e=>by omega))
    obtain ⟨ga,gcap,rfl,_,_,_⟩:=own_form hA
    clear hA hT hK HO HT HK HF0 KW
    by_cases hz:ring.length > 0
    ·have HS2:Hid (ringsN L (i+1)=(insL R (leastL ring ring.length),t1)):=by rw [HS.out,if_pos hz];exact hide rfl
     have hz':(0:Int)<(ring.length:Int):=by omega
     have hll:=least_len ring ring.length (Nat.le_refl _)
     have C1:=hide (fromLeast_any (.slice ga ring.length gcap) ring wc RA.out HWG1.out (by omega))
     have HGl:Hid (∀ p∈leastL ring ring.length,Gd p):=hide fun p hp=>HWG1.out p (least_mem _ hp)
     clear HS
     go_wp2_with fail
     refine C1.out.mono ?_
     rintro e w5 ⟨lv,rfl,o5,k5⟩
     have HO5:=HO1.out.kp (Kp.of (X:=fun _=>False) k5) (fun b _ _ e=>e)
     have HT5:=hide (HT1.out.call k5)
     have HK5:=hide (HKW.out.trans (Kp.of k5))
     have z5:=k5.size
     have zk:=HKW.out.size
     generalize leastL ring ring.length=lr at *
     have C2:=hide (insertR_any W3.heap.size u8 lv R lr vs w5 HO5 (own_mono o5 (by omega)) (fun j g hj e e2=>by have h1:=(HO1.out.lt j g hj e).2;have h2:=(o5.lt g e2).1;omega) (by omega) (by omega) HG1.out HGl.out (by omega))
     have HRow:=hide HO5.row
     clear C1 o5 k5 HO1 HT1 HKW HO5 HA RA
     go_wp2_with fail
     refine C2.out.mono ?_
     rintro e w6 ⟨v',vs',rfl,hO6,k6,_,_⟩
     have O6:=hide hO6
     have T6:=hide (Kp.blk HT5.out k6 (fun e=>by have:=(HRow.out.lt tb e).1;omega))
     have K6:Hid (Kp (fun b=>b=tb) W3 w6):=hide (HK5.out.then k6 (fun x hx e=>by have:=(HRow.out.lt x e).1;omega))
     clear hO6 k6 C2 HT5 HK5 HRow
     go_wp2
     go_roundw
     case rel=>exact ⟨i+1,vs',by go_num,by omega,by rw [HS2.out];exact O6.out,by rw [HS2.out];exact T6.out,K6.out⟩
     case measure=>simp [intOf];omega
    ·have HS2:Hid (ringsN L (i+1)=(R,t1)):=by rw [HS.out,if_neg hz];exact hide rfl
     have hz' : ¬ ((0:Int)<(ring.length:Int)):=by omega
     clear HS HA RA
     go_wp2
     go_roundw
     case rel=>exact ⟨i+1,vs,by go_num,by omega,by rw [HS2.out];exact HO1.out,by rw [HS2.out];exact HT1.out,HKW.out⟩
     case measure=>simp [intOf];omega
  ·have ei:i=L.length:=by omega
   subst ei
   have HO:Hid (OwnR wo w.heap.size u8 (ringsM L) vs):=by rw [HRM.out];exact hide (hO.mono (by omega))
   have HB:Hid (Below w.heap.size w wo):=hide (below_kp B3.out hK B3.out.size (fun b h=>by omega))
   clear hO hT hK HRS HRG HRL HRT
   go_wp2
   go_ret
   exact ⟨_,vs,rfl,HO.out,HB.out⟩
end Go.Proofs.YtnkcbephceollabGreat
