import Derived.Test.YtnkcbephceollabGreatU27
namespace Go.Proofs.YtnkcbephceollabGreat
open Go.RowKit
set_option linter.unusedSimpArgs false
set_option linter.unusedVariables false
set_option maxRecDepth 100000 in
set_option maxHeartbeats 4000000 in
theorem rEdges_own (v:Value)(P:List (List Pt))(w:World)(hP:PolyAt w v P)(hT:(edgesM P).length<=100000) :
  Calls Tryz.prog 42 #[v] w fun e w'=>∃ v',e = .returned v'/\w'.ownsRow w.heap.size 73 6 v' (edgesM P).length (segCells (edgesM P))/\Below w.heap.size w w':=by
 obtain ⟨i0,hi0,hz0,hz1,hz2⟩:=info_parts infoEdge
 obtain ⟨a,cap,rfl,h1,h2,h3⟩:=hP
 unfold maxLen at h2
 go_enter Tryz.func42,Tryz.ntmps42
 go_wp2_with fail
 go_loopw [3,4,5,6] (fun ev c _ _ w'=>∃ i:Nat,c = .int .i64 i/\i<=P.length/\w'.ownsRow w.heap.size 73 6 ev (edgesM (P.take i)).length (segCells (edgesM (P.take i)))/\Below w.heap.size w w') (fun _ c _ _ _=>P.length-(intOf c).toNat)
 case atStart=>exact ⟨0,rfl,Nat.zero_le _,World.ownsRow_nil _ _ _ _,Below.refl _ _⟩
 case round=>
  obtain ⟨i,rfl,hi,hown,hbel⟩:=hrel
  by_cases hlt:i<P.length
  ·obtain ⟨b,off,rv,rfl,hb,hc,hring⟩:=h3 i hlt
   have hc':=(hbel.cell (p:=⟨b,off+i,none⟩) hb).trans hc
   have u0:=upToM_zero P i
   have us:=fun j=>upToM_succ P i j
   have ue:=upToM_end P i hlt
   have ul:=fun j=>upToM_le P i j hlt
   generalize hr:P.getD i []=r at *
   obtain ⟨a',cap',rfl,g1,g2,g3⟩:=hring
   unfold maxLen at g2
   rw [<-u0] at hown
   have U0:=hide u0
   have US:=hide us
   have UE:=hide ue
   have UL:=hide ul
   have HT:=hide hT
   clear h3 hr u0 us ue ul hT
   go_wp2_with fail
   go_loopw [3,6] (fun ev c w'=>∃ j:Nat,c = .int .i64 j/\j<=r.length/\w'.ownsRow w.heap.size 73 6 ev (upToM P i j).length (segCells (upToM P i j))/\Below w.heap.size w w') (fun _ c _=>r.length-(intOf c).toNat)
   case atStart=>exact ⟨0,rfl,Nat.zero_le _,hown,hbel⟩
   case round=>
    clear hown hbel hc'
    obtain ⟨j,rfl,hj,hown,hbel⟩:=hrel
    have hc':=(hbel.cell (p:=⟨b,off+i,none⟩) hb).trans hc
    by_cases hjt:j<r.length
    ·obtain ⟨b',off',rfl,hb',hp'⟩:=g3 j hjt
     obtain ⟨px,py,pd⟩:=hp'.later hbel hb'
     obtain ⟨b2,off2,e2,_,hq0⟩:=g3 (if j+1=r.length then 0 else j+1) (by split <;> omega)
     simp at e2
     obtain ⟨rfl,rfl⟩:=e2
     have hq:=hq0.later hbel hb'
     have EA:=hide (show edgeAt r j=(r.getD j zP,r.getD (if j+1=r.length then 0 else j+1) zP) from rfl)
     generalize r.getD j zP=p at *
     by_cases hlast:j+1=r.length
     ·rw [if_pos hlast] at hq EA
      generalize r.getD 0 zP=q at *
      obtain ⟨qx,qy,qd⟩:=hq
      clear g3 hp' hq0
      simp only [Nat.zero_mul,Nat.add_zero] at qx qy qd
      have e1:((j:Int)+1) % (r.length:Int)=0:=by rw [show (j:Int)+1=(r.length:Int) by omega];exact Int.emod_self
      have e1t:((j:Int)+1).tmod (r.length:Int)=0:=by rw [Int.tmod_eq_emod_of_nonneg (by omega)];exact e1
      clear hlast
      have hbw:b'<wr.heap.size:=by have:=hbel.size;omega
      have hbw2:b<wr.heap.size:=by have:=hbel.size;omega
      have hne2:u3.ownBlock≠some b':=fun e=>by have:=(hown.lt _ e).1;omega
      have hne3:u3.ownBlock≠some b:=fun e=>by have:=(hown.lt _ e).1;omega
      have hlen:=UL.out j hj
      have hT12:=HT.out
      have hn1:(upToM P i j).length+1<=maxLen:=by unfold maxLen;omega
      have hn2:((upToM P i j).length+1)*48<=140737488355328:=by omega
      have hpos:(0:Int)<(r.length:Int):=by omega
      have hposN:0<r.length:=by omega
      have hposM : ¬ r.length=0:=by omega
      have hposL : ¬ r=[]:=by intro e;rw [e] at hposN;simp at hposN
      have hj0:(0:Int)<=(j:Int):=Int.natCast_nonneg _
      have hj1:(j:Int)<(r.length:Int):=by omega
      have ewr:IntKind.i64.wrap ((j:Int)+1)=(j:Int)+1:=by simp [IntKind.wrap,IntKind.bits,IntKind.signed];omega
      have hii0:(0:Int)<=(i:Int):=Int.natCast_nonneg _
      have hii1:(i:Int)<(P.length:Int):=by omega
      go_wp2_with fail
      go_region_held3 (fun w'=>w'.cell? ⟨b,off+i,none⟩=some (.slice (some ⟨b',off',none⟩) r.length cap')/\w'.cell? ⟨b',off'+j*3,none⟩=some (.int .i64 p.x)/\w'.cell? ⟨b',off'+j*3+1,none⟩=some (.int .i64 p.y)/\w'.cell? ⟨b',off'+j*3+2,none⟩=some (.int .i64 p.d)/\
        w'.cell? ⟨b',off',none⟩=some (.int .i64 q.x)/\w'.cell? ⟨b',off'+1,none⟩=some (.int .i64 q.y)/\w'.cell? ⟨b',off'+2,none⟩=some (.int .i64 q.d))
       (first
        | go_keep
        |(go_split_ands
          refine ⟨?_,?_,?_,?_,?_,?_,?_⟩
          ·(
           rw [hgrow.cell_far _ (by simp;omega) (Ne.symm hne3)];assumption)
          ·(
           rw [hgrow.cell_far _ (by simp;omega) (Ne.symm hne2)];assumption)
          ·(
           rw [hgrow.cell_far _ (by simp;omega) (Ne.symm hne2)];assumption)
          ·(
           rw [hgrow.cell_far _ (by simp;omega) (Ne.symm hne2)];assumption)
          ·(
           rw [hgrow.cell_far _ (by simp;omega) (Ne.symm hne2)];assumption)
          ·(
           rw [hgrow.cell_far _ (by simp;omega) (Ne.symm hne2)];assumption)
          ·(
           rw [hgrow.cell_far _ (by simp;omega) (Ne.symm hne2)];assumption)))
       ((
        refine step_append_lies _ (by rfl) _ _ _ (by rfl) w.heap.size 73 i0 _ 6 48 Tryz.underlying78 hi0 hz0 hz1 hz2 rfl (by omega) u3 (upToM P i j).length (segCells (upToM P i j)) (by rfl) ((hown.alloc _).drew) ⟨wr.heap.size,0,none⟩ 1 1 (segCell (p,q)) (by rfl) (by rfl) (World.news_of_block (cs:=#[.int .i64 p.x,.int .i64 p.y,.int .i64 p.d,.int .i64 q.x,.int .i64 q.y,.int .i64 q.d]) (t:=73) (fr:=(0,0)) (heap_alloc_new wr _)) (by simp [segCell,Value.oneCell']) (by omega) hn1 hn2 (by have:=hbel.size;simp;omega) (wr.heap.size+1) (by simp) ?_;intro gg cp w1 hown1 hgrow hat hlt1))
      have HO:Hid (w1.ownsRow w.heap.size 73 6 (.slice (some ⟨gg,0,none⟩) ((upToM P i j).length+1) cp) (upToM P i (j+1)).length (segCells (upToM P i (j+1)))):=by
       refine hide ?_
       have e:=US.out j hjt
       rw [EA.out] at e
       rw [e,segCells_snoc]
       simpa using hown1
      have B1:Below w.heap.size w w1:=by
       refine Below.grown ((hbel.alloc hbel.size _).drew) hgrow (by have:=hbel.size;simp;omega) (fun k hk=>(hown.lt k hk).1)
      clear hown hown1 hgrow px py pd qx qy qd hat
      go_wp2
      go_roundw
      case rel=>exact ⟨j+1,by go_num,by omega,HO,B1⟩
      case measure=>simp [intOf];omega
     ·rw [if_neg hlast] at hq EA
      generalize r.getD (j+1) zP=q at *
      obtain ⟨qx,qy,qd⟩:=hq
      clear g3 hp' hq0
      have e1:((j:Int)+1) % (r.length:Int)=(j:Int)+1:=Int.emod_eq_of_lt (by omega) (by omega)
      have e1t:((j:Int)+1).tmod (r.length:Int)=(j:Int)+1:=by rw [Int.tmod_eq_emod_of_nonneg (by omega)];exact e1
      have e2:(j:Int)+1<(r.length:Int):=by omega
      have e3:(0:Int)<=(j:Int)+1:=by omega
      have hbw:b'<wr.heap.size:=by have:=hbel.size;omega
      have hbw2:b<wr.heap.size:=by have:=hbel.size;omega
      have hne2:u3.ownBlock≠some b':=fun e=>by have:=(hown.lt _ e).1;omega
      have hne3:u3.ownBlock≠some b:=fun e=>by have:=(hown.lt _ e).1;omega
      have hlen:=UL.out j hj
      have hT12:=HT.out
      have hn1:(upToM P i j).length+1<=maxLen:=by unfold maxLen;omega
      have hn2:((upToM P i j).length+1)*48<=140737488355328:=by omega
      have hpos:(0:Int)<(r.length:Int):=by omega
      have hposN:0<r.length:=by omega
      have hposM : ¬ r.length=0:=by omega
      have hposL : ¬ r=[]:=by intro e;rw [e] at hposN;simp at hposN
      have hj0:(0:Int)<=(j:Int):=Int.natCast_nonneg _
      have hj1:(j:Int)<(r.length:Int):=by omega
      have ewr:IntKind.i64.wrap ((j:Int)+1)=(j:Int)+1:=by simp [IntKind.wrap,IntKind.bits,IntKind.signed];omega
      have hii0:(0:Int)<=(i:Int):=Int.natCast_nonneg _
      have hii1:(i:Int)<(P.length:Int):=by omega
      go_wp2_with fail
      go_region_held3 (fun w'=>w'.cell? ⟨b,off+i,none⟩=some (.slice (some ⟨b',off',none⟩) r.length cap')/\w'.cell? ⟨b',off'+j*3,none⟩=some (.int .i64 p.x)/\w'.cell? ⟨b',off'+j*3+1,none⟩=some (.int .i64 p.y)/\w'.cell? ⟨b',off'+j*3+2,none⟩=some (.int .i64 p.d)/\
        w'.cell? ⟨b',off'+(j+1)*3,none⟩=some (.int .i64 q.x)/\w'.cell? ⟨b',off'+(j+1)*3+1,none⟩=some (.int .i64 q.y)/\w'.cell? ⟨b',off'+(j+1)*3+2,none⟩=some (.int .i64 q.d))
       (first
        | go_keep
        |(go_split_ands
          refine ⟨?_,?_,?_,?_,?_,?_,?_⟩
          ·(
           rw [hgrow.cell_far _ (by simp;omega) (Ne.symm hne3)];assumption)
          ·(
           rw [hgrow.cell_far _ (by simp;omega) (Ne.symm hne2)];assumption)
          ·(
           rw [hgrow.cell_far _ (by simp;omega) (Ne.symm hne2)];assumption)
          ·(
           rw [hgrow.cell_far _ (by simp;omega) (Ne.symm hne2)];assumption)
          ·(
           rw [hgrow.cell_far _ (by simp;omega) (Ne.symm hne2)];assumption)
          ·(
           rw [hgrow.cell_far _ (by simp;omega) (Ne.symm hne2)];assumption)
          ·(
           rw [hgrow.cell_far _ (by simp;omega) (Ne.symm hne2)];assumption)))
       ((
        refine step_append_lies _ (by rfl) _ _ _ (by rfl) w.heap.size 73 i0 _ 6 48 Tryz.underlying78 hi0 hz0 hz1 hz2 rfl (by omega) u3 (upToM P i j).length (segCells (upToM P i j)) (by rfl) ((hown.alloc _).drew) ⟨wr.heap.size,0,none⟩ 1 1 (segCell (p,q)) (by rfl) (by rfl) (World.news_of_block (cs:=#[.int .i64 p.x,.int .i64 p.y,.int .i64 p.d,.int .i64 q.x,.int .i64 q.y,.int .i64 q.d]) (t:=73) (fr:=(0,0)) (heap_alloc_new wr _)) (by simp [segCell,Value.oneCell']) (by omega) hn1 hn2 (by have:=hbel.size;simp;omega) (wr.heap.size+1) (by simp) ?_;intro gg cp w1 hown1 hgrow hat hlt1))
      have HO:Hid (w1.ownsRow w.heap.size 73 6 (.slice (some ⟨gg,0,none⟩) ((upToM P i j).length+1) cp) (upToM P i (j+1)).length (segCells (upToM P i (j+1)))):=by
       refine hide ?_
       have e:=US.out j hjt
       rw [EA.out] at e
       rw [e,segCells_snoc]
       simpa using hown1
      have B1:Below w.heap.size w w1:=by
       refine Below.grown ((hbel.alloc hbel.size _).drew) hgrow (by have:=hbel.size;simp;omega) (fun k hk=>(hown.lt k hk).1)
      clear hown hown1 hgrow px py pd qx qy qd hat
      go_wp2
      go_roundw
      case rel=>exact ⟨j+1,by go_num,by omega,HO,B1⟩
      case measure=>simp [intOf];omega
    ·have ej:j=r.length:=by omega
     subst ej
     have HO:Hid (wr.ownsRow w.heap.size 73 6 u3 (edgesM (P.take (i+1))).length (segCells (edgesM (P.take (i+1))))):=by
      rw [UE.out] at hown;exact hown
     clear hown g3
     go_wp2
     go_roundw
     case rel=>exact ⟨i+1,by go_num,by omega,HO,hbel⟩
     case measure=>simp [intOf];omega
  ·have e:P.take i=P:=List.take_of_length_le (by omega)
   rw [e] at hown
   clear h3
   go_wp2
   go_ret
   exact ⟨_,rfl,hown,hbel⟩
theorem rins_drop (p:Pt)(l:List Pt)(i:Nat)(d:Bool)(hi:i<l.length):rinsGo p (l.drop i) d=(if (!d && (placeB (l.getD i zP) p || befB p (l.getD i zP)))=true then [p] else []) ++ ((if placeB (l.getD i zP) p=true then [] else [l.getD i zP]) ++ rinsGo p (l.drop (i+1)) (d || (placeB (l.getD i zP) p || befB p (l.getD i zP)))):=by
 rw [List.drop_eq_getElem_cons hi,List.getD_eq_getElem?_getD,List.getElem?_eq_getElem hi];rfl
set_option maxRecDepth 100000 in
set_option maxHeartbeats 8000000 in
theorem rinsert_any (v:Value)(l:List Pt)(p:Pt)(w:World)(hl:RingAt w v l)(gl:∀ x∈l,Gd x)(hp:Gd p)(hn:l.length<=100000) :
  Calls Tryz.prog 112 #[v,p.v] w fun e w'=>∃ v',e = .returned v'/\w'.ownsRow (w.heap.size+1) 31 3 v' (rinsM l p).length (ptCells (rinsM l p))/\Below w.heap.size w w':=by
 obtain ⟨i0,hi0,hz0,hz1,hz2⟩:=info_parts infoPoint
 obtain ⟨a,cap,rfl,h1,h2,h3⟩:=hl
 unfold maxLen at h2
 have H3:=hide h3
 have GL:=hide gl
 clear h3 gl
 go_enter Tryz.func112,Tryz.ntmps112
 go_wp2_with fail
 go_loopw [5,6,7,8,9] (fun ov dv iv _ _ w'=>∃ (i:Nat) (D:List Pt) (d:Bool),iv = .int .i64 i/\dv = .bool d/\i<=l.length/\w'.ownsRow (w.heap.size+1) 31 3 ov D.length (ptCells D)/\D.length<=2*i/\Hid (rinsM l p=D ++ rinsGo p (l.drop i) d)/\Blk w' w.heap.size #[.int .i64 p.x,.int .i64 p.y,.int .i64 p.d]/\Below w.heap.size w w') (fun _ _ iv _ _ _=>l.length-(intOf iv).toNat)
 case atStart=>exact ⟨0,[],false,rfl,rfl,Nat.zero_le _,World.ownsRow_nil _ _ _ _,Nat.le_refl _,rfl,Blk.new w _ _,(Below.refl _ _).alloc (Nat.le_refl _) _⟩
 case round=>
  obtain ⟨i,D,d,rfl,rfl,hi,hO,hDl,HD,hQ,hbel⟩:=hrel
  by_cases hlt:i<l.length
  ·obtain ⟨b,off,rfl,hb,hs⟩:=H3.out i hlt
   have HC:=hide (rins_drop p l i d hlt)
   have gx:=GL.out _ (getD_mem hlt zP)
   generalize l.getD i zP=x at *
   have hi0':(0:Int)<=(i:Int):=Int.natCast_nonneg _
   have hi1':(i:Int)<(l.length:Int):=by omega
   have C1:=fun wz=>rplace_any x p wz gx hp
   have C2:=fun wz=>rbefore_any p x wz hp gx
   obtain ⟨px,py,pd⟩:=hs.later hbel hb
   obtain ⟨cq,fq,zq⟩:=id hQ
   have hO':=hide hO
   have hHQ:=hide hQ
   have hHB:=hide hbel
   have HPT:Hid (∀ wz,Below w.heap.size w wz->PtAt wz b (off+i*3) x):=fun wz kz=>hs.later kz hb
   clear hs hO hQ
   go_upto_region 6 with fail
   go_cut [8] (fun sv w'=>sv = .bool (placeB x p)/\Below wr.heap.size wr w')
   case first=>
    clear C2 HPT HC HD hO' hHQ
    go_region_with (go_at_call 73;refine (C1 _).mono ?_;rintro e' w2 ⟨rfl,k2⟩)
    all_goals
     go_wp2_with fail
     go_meet
     case rel=>exact ⟨rfl,bvia (Below.refl _ _).drew k2⟩
   case rest=>
    obtain ⟨rfl,k2⟩:=hcut
    have Q2:=hHQ.out.call k2
    have B2:=bvia hHB.out k2
    have O2:=hide (own_later hO'.out k2)
    obtain ⟨px2,py2,pd2⟩:=HPT.out _ B2
    obtain ⟨cq2,fq2,zq2⟩:=id Q2
    have hQ2:=hide Q2
    have hB2:=hide B2
    clear px py pd cq fq zq hbel k2 C1 hO' hHQ hHB Q2 B2
    go_upto_region 7 with fail
    go_cut [9] (fun av w'=>av = .bool (befB p x)/\Below wc.heap.size wc w')
    case first=>
     clear HPT HC HD O2 hQ2 hB2
     go_region_with (go_at_call 72;refine (C2 _).mono ?_;rintro e' w3 ⟨rfl,k3⟩)
     all_goals
      go_wp2_with fail
      go_meet
      case rel=>exact ⟨rfl,bvia (Below.refl _ _).drew k3⟩
    case rest=>
     obtain ⟨rfl,k3⟩:=hcut
     have Q3:=hQ2.out.call k3
     have B3:=bvia hB2.out k3
     have O3:=hide (own_later O2.out k3)
     obtain ⟨px,py,pd⟩:=HPT.out _ B3
     obtain ⟨cq,fq,zq⟩:=id Q3
     have zb:=B3.size
     clear px2 py2 pd2 cq2 fq2 zq2 k3 C2 O2 hQ2 hB2
     generalize placeB x p=sm at *
     generalize befB p x=ah at *
     cases d <;> cases sm <;> cases ah
     ·have hnews:=World.news_of_block (w:=wc.alloc (.cells #[.int .i64 x.x,.int .i64 x.y,.int .i64 x.d] 31)) (cs:=#[.int .i64 x.x,.int .i64 x.y,.int .i64 x.d]) (t:=31) (fr:=(0,0)) (heap_alloc_new wc _)
      go_wp2_with (at_builtin;refine wpList_append_lies _ rfl _ _ _ rfl (w.heap.size+1) 31 i0 _ 3 24 Tryz.underlying57 hi0 hz0 hz1 hz2 rfl (by omega) u5 (D).length (ptCells (D)) rfl (O3.out.alloc _) ⟨wc.heap.size,0,none⟩ 1 1 (ptCell x) rfl rfl hnews (by simp [ptCell,Value.oneCell']) (by omega) (by unfold maxLen;omega) (by omega) (by simp;omega) _ rfl ?_;intro gg_w5 cp_w5 w5 ho_w5 hgrow_w5 hat_w5 hlt_w5)
      have O_w5:Hid (w5.ownsRow (w.heap.size+1) 31 3 (.slice (some ⟨gg_w5,0,none⟩) ((D).length+1) cp_w5) ((D) ++ [x]).length (ptCells ((D) ++ [x]))):=by
       refine hide ?_
       rw [ptCells_append,List.length_append]
       have e2:ptCells [x]=ptCell x:=by simp [ptCells]
       rw [e2];exact ho_w5
      have hown_w5:=O3.out.lt
      have L_w5:Blk w5 w.heap.size #[.int .i64 p.x,.int .i64 p.y,.int .i64 p.d]:=by
       have q:=Q3.alloc (.cells #[.int .i64 x.x,.int .i64 x.y,.int .i64 x.d] 31)
       have e:=hgrow_w5.block w.heap.size q.lt (fun k=>by have:=(hown_w5 _ k.symm).1;omega)
       exact ⟨fun o=>(World.cell?_of_block (a:=⟨w.heap.size,o,none⟩) e).trans (q.cell o),fun o=>(World.frozen?_of_block (a:=⟨w.heap.size,o,none⟩) e).trans (q.free o),Nat.lt_of_lt_of_le q.lt hgrow_w5.size⟩
      have B_w5:Below w.heap.size w w5:=Below.grown (B3.alloc B3.size _) hgrow_w5 (by have:=B3.size;simp;omega) (fun k hk=>by have:=(hown_w5 k hk).1;omega)
      clear hnews ho_w5 hgrow_w5 hat_w5 hlt_w5 hown_w5
      have HE:Hid (rinsM l p=(D ++ [x]) ++ rinsGo p (l.drop (i+1)) false):=HD.out.trans (by rw [HC.out];first | rfl | simp)
      clear HD HC HPT
      go_wp2
      go_roundw
      case rel=>exact ⟨i+1,D ++ [x],false,by go_num,rfl,by omega,O_w5.out,by first | omega | (simp;omega),HE,L_w5,B_w5⟩
      case measure=>simp [intOf];omega
     ·have hnews:=World.news_of_block (w:=wc.alloc (.cells #[.int .i64 p.x,.int .i64 p.y,.int .i64 p.d] 31)) (cs:=#[.int .i64 p.x,.int .i64 p.y,.int .i64 p.d]) (t:=31) (fr:=(0,0)) (heap_alloc_new wc _)
      go_upto_region 10 with (at_builtin;refine wpList_append_lies _ rfl _ _ _ rfl (w.heap.size+1) 31 i0 _ 3 24 Tryz.underlying57 hi0 hz0 hz1 hz2 rfl (by omega) u5 (D).length (ptCells (D)) rfl (O3.out.alloc _) ⟨wc.heap.size,0,none⟩ 1 1 (ptCell p) rfl rfl hnews (by simp [ptCell,Value.oneCell']) (by omega) (by unfold maxLen;omega) (by omega) (by simp;omega) _ rfl ?_;intro gg_w4 cp_w4 w4 ho_w4 hgrow_w4 hat_w4 hlt_w4)
      have O_w4:Hid (w4.ownsRow (w.heap.size+1) 31 3 (.slice (some ⟨gg_w4,0,none⟩) ((D).length+1) cp_w4) ((D) ++ [p]).length (ptCells ((D) ++ [p]))):=by
       refine hide ?_
       rw [ptCells_append,List.length_append]
       have e2:ptCells [p]=ptCell p:=by simp [ptCells]
       rw [e2];exact ho_w4
      have hown_w4:=O3.out.lt
      have L_w4:Blk w4 w.heap.size #[.int .i64 p.x,.int .i64 p.y,.int .i64 p.d]:=by
       have q:=Q3.alloc (.cells #[.int .i64 p.x,.int .i64 p.y,.int .i64 p.d] 31)
       have e:=hgrow_w4.block w.heap.size q.lt (fun k=>by have:=(hown_w4 _ k.symm).1;omega)
       exact ⟨fun o=>(World.cell?_of_block (a:=⟨w.heap.size,o,none⟩) e).trans (q.cell o),fun o=>(World.frozen?_of_block (a:=⟨w.heap.size,o,none⟩) e).trans (q.free o),Nat.lt_of_lt_of_le q.lt hgrow_w4.size⟩
      have B_w4:Below w.heap.size w w4:=Below.grown (B3.alloc B3.size _) hgrow_w4 (by have:=B3.size;simp;omega) (fun k hk=>by have:=(hown_w4 k hk).1;omega)
      clear hnews ho_w4 hgrow_w4 hat_w4 hlt_w4 hown_w4
      obtain ⟨qx,qy,qd⟩:=HPT.out _ B_w4
      have zb4:=B_w4.size
      have hlD:(D ++ [p]).length=D.length+1:=by simp
      clear px py pd
      have hnews:=World.news_of_block (w:=w4.alloc (.cells #[.int .i64 x.x,.int .i64 x.y,.int .i64 x.d] 31)) (cs:=#[.int .i64 x.x,.int .i64 x.y,.int .i64 x.d]) (t:=31) (fr:=(0,0)) (heap_alloc_new w4 _)
      have O4':Hid (w4.ownsRow (w.heap.size+1) 31 3 (.slice (some ⟨gg_w4,0,none⟩) (D.length+1) cp_w4) (D.length+1) (ptCells (D ++ [p]))):=by rw [hlD] at O_w4;exact O_w4
      go_wp2_with (at_builtin;refine wpList_append_lies _ rfl _ _ _ rfl (w.heap.size+1) 31 i0 _ 3 24 Tryz.underlying57 hi0 hz0 hz1 hz2 rfl (by omega) (.slice (some ⟨gg_w4,0,none⟩) (D.length+1) cp_w4) (D.length+1) (ptCells (D ++ [p])) rfl (O4'.out.alloc _) ⟨w4.heap.size,0,none⟩ 1 1 (ptCell x) rfl rfl hnews (by simp [ptCell,Value.oneCell']) (by omega) (by unfold maxLen;omega) (by omega) (by simp;omega) _ rfl ?_;intro gg_w5 cp_w5 w5 ho_w5 hgrow_w5 hat_w5 hlt_w5)
      have O_w5:Hid (w5.ownsRow (w.heap.size+1) 31 3 (.slice (some ⟨gg_w5,0,none⟩) (D.length+1+1) cp_w5) (D ++ [p] ++ [x]).length (ptCells (D ++ [p] ++ [x]))):=by
       refine hide ?_
       rw [ptCells_append (D ++ [p]) [x],List.length_append,hlD]
       have e2:ptCells [x]=ptCell x:=by simp [ptCells]
       rw [e2];exact ho_w5
      have hown_w5:=O4'.out.lt
      have L_w5:Blk w5 w.heap.size #[.int .i64 p.x,.int .i64 p.y,.int .i64 p.d]:=by
       have q:=L_w4.alloc (.cells #[.int .i64 x.x,.int .i64 x.y,.int .i64 x.d] 31)
       have e:=hgrow_w5.block w.heap.size q.lt (fun k=>by have:=(hown_w5 _ k.symm).1;omega)
       exact ⟨fun o=>(World.cell?_of_block (a:=⟨w.heap.size,o,none⟩) e).trans (q.cell o),fun o=>(World.frozen?_of_block (a:=⟨w.heap.size,o,none⟩) e).trans (q.free o),Nat.lt_of_lt_of_le q.lt hgrow_w5.size⟩
      have B_w5:Below w.heap.size w w5:=Below.grown (B_w4.alloc B_w4.size _) hgrow_w5 (by have:=B_w4.size;simp;omega) (fun k hk=>by have:=(hown_w5 k hk).1;omega)
      clear hnews ho_w5 hgrow_w5 hat_w5 hlt_w5 hown_w5 qx qy qd O4' O_w4 L_w4 B_w4
      have HE:Hid (rinsM l p=(D ++ [p] ++ [x]) ++ rinsGo p (l.drop (i+1)) true):=HD.out.trans (by rw [HC.out];first | rfl | simp)
      clear HD HC HPT
      go_wp2
      go_roundw
      case rel=>exact ⟨i+1,D ++ [p] ++ [x],true,by go_num,rfl,by omega,O_w5.out,by first | omega | (simp;omega),HE,L_w5,B_w5⟩
      case measure=>simp [intOf];omega
     ·have hnews:=World.news_of_block (w:=wc.alloc (.cells #[.int .i64 p.x,.int .i64 p.y,.int .i64 p.d] 31)) (cs:=#[.int .i64 p.x,.int .i64 p.y,.int .i64 p.d]) (t:=31) (fr:=(0,0)) (heap_alloc_new wc _)
      go_upto_region 10 with (at_builtin;refine wpList_append_lies _ rfl _ _ _ rfl (w.heap.size+1) 31 i0 _ 3 24 Tryz.underlying57 hi0 hz0 hz1 hz2 rfl (by omega) u5 (D).length (ptCells (D)) rfl (O3.out.alloc _) ⟨wc.heap.size,0,none⟩ 1 1 (ptCell p) rfl rfl hnews (by simp [ptCell,Value.oneCell']) (by omega) (by unfold maxLen;omega) (by omega) (by simp;omega) _ rfl ?_;intro gg_w4 cp_w4 w4 ho_w4 hgrow_w4 hat_w4 hlt_w4)
      have O_w4:Hid (w4.ownsRow (w.heap.size+1) 31 3 (.slice (some ⟨gg_w4,0,none⟩) ((D).length+1) cp_w4) ((D) ++ [p]).length (ptCells ((D) ++ [p]))):=by
       refine hide ?_
       rw [ptCells_append,List.length_append]
       have e2:ptCells [p]=ptCell p:=by simp [ptCells]
       rw [e2];exact ho_w4
      have hown_w4:=O3.out.lt
      have L_w4:Blk w4 w.heap.size #[.int .i64 p.x,.int .i64 p.y,.int .i64 p.d]:=by
       have q:=Q3.alloc (.cells #[.int .i64 p.x,.int .i64 p.y,.int .i64 p.d] 31)
       have e:=hgrow_w4.block w.heap.size q.lt (fun k=>by have:=(hown_w4 _ k.symm).1;omega)
       exact ⟨fun o=>(World.cell?_of_block (a:=⟨w.heap.size,o,none⟩) e).trans (q.cell o),fun o=>(World.frozen?_of_block (a:=⟨w.heap.size,o,none⟩) e).trans (q.free o),Nat.lt_of_lt_of_le q.lt hgrow_w4.size⟩
      have B_w4:Below w.heap.size w w4:=Below.grown (B3.alloc B3.size _) hgrow_w4 (by have:=B3.size;simp;omega) (fun k hk=>by have:=(hown_w4 k hk).1;omega)
      clear hnews ho_w4 hgrow_w4 hat_w4 hlt_w4 hown_w4
      have HE:Hid (rinsM l p=(D ++ [p]) ++ rinsGo p (l.drop (i+1)) true):=HD.out.trans (by rw [HC.out];first | rfl | simp)
      clear HD HC HPT
      go_wp2
      go_roundw
      case rel=>exact ⟨i+1,D ++ [p],true,by go_num,rfl,by omega,O_w4.out,by first | omega | (simp;omega),HE,L_w4,B_w4⟩
      case measure=>simp [intOf];omega
     ·have hnews:=World.news_of_block (w:=wc.alloc (.cells #[.int .i64 p.x,.int .i64 p.y,.int .i64 p.d] 31)) (cs:=#[.int .i64 p.x,.int .i64 p.y,.int .i64 p.d]) (t:=31) (fr:=(0,0)) (heap_alloc_new wc _)
      go_upto_region 10 with (at_builtin;refine wpList_append_lies _ rfl _ _ _ rfl (w.heap.size+1) 31 i0 _ 3 24 Tryz.underlying57 hi0 hz0 hz1 hz2 rfl (by omega) u5 (D).length (ptCells (D)) rfl (O3.out.alloc _) ⟨wc.heap.size,0,none⟩ 1 1 (ptCell p) rfl rfl hnews (by simp [ptCell,Value.oneCell']) (by omega) (by unfold maxLen;omega) (by omega) (by simp;omega) _ rfl ?_;intro gg_w4 cp_w4 w4 ho_w4 hgrow_w4 hat_w4 hlt_w4)
      have O_w4:Hid (w4.ownsRow (w.heap.size+1) 31 3 (.slice (some ⟨gg_w4,0,none⟩) ((D).length+1) cp_w4) ((D) ++ [p]).length (ptCells ((D) ++ [p]))):=by
       refine hide ?_
       rw [ptCells_append,List.length_append]
       have e2:ptCells [p]=ptCell p:=by simp [ptCells]
       rw [e2];exact ho_w4
      have hown_w4:=O3.out.lt
      have L_w4:Blk w4 w.heap.size #[.int .i64 p.x,.int .i64 p.y,.int .i64 p.d]:=by
       have q:=Q3.alloc (.cells #[.int .i64 p.x,.int .i64 p.y,.int .i64 p.d] 31)
       have e:=hgrow_w4.block w.heap.size q.lt (fun k=>by have:=(hown_w4 _ k.symm).1;omega)
       exact ⟨fun o=>(World.cell?_of_block (a:=⟨w.heap.size,o,none⟩) e).trans (q.cell o),fun o=>(World.frozen?_of_block (a:=⟨w.heap.size,o,none⟩) e).trans (q.free o),Nat.lt_of_lt_of_le q.lt hgrow_w4.size⟩
      have B_w4:Below w.heap.size w w4:=Below.grown (B3.alloc B3.size _) hgrow_w4 (by have:=B3.size;simp;omega) (fun k hk=>by have:=(hown_w4 k hk).1;omega)
      clear hnews ho_w4 hgrow_w4 hat_w4 hlt_w4 hown_w4
      have HE:Hid (rinsM l p=(D ++ [p]) ++ rinsGo p (l.drop (i+1)) true):=HD.out.trans (by rw [HC.out];first | rfl | simp)
      clear HD HC HPT
      go_wp2
      go_roundw
      case rel=>exact ⟨i+1,D ++ [p],true,by go_num,rfl,by omega,O_w4.out,by first | omega | (simp;omega),HE,L_w4,B_w4⟩
      case measure=>simp [intOf];omega
     ·have hnews:=World.news_of_block (w:=wc.alloc (.cells #[.int .i64 x.x,.int .i64 x.y,.int .i64 x.d] 31)) (cs:=#[.int .i64 x.x,.int .i64 x.y,.int .i64 x.d]) (t:=31) (fr:=(0,0)) (heap_alloc_new wc _)
      go_wp2_with (at_builtin;refine wpList_append_lies _ rfl _ _ _ rfl (w.heap.size+1) 31 i0 _ 3 24 Tryz.underlying57 hi0 hz0 hz1 hz2 rfl (by omega) u5 (D).length (ptCells (D)) rfl (O3.out.alloc _) ⟨wc.heap.size,0,none⟩ 1 1 (ptCell x) rfl rfl hnews (by simp [ptCell,Value.oneCell']) (by omega) (by unfold maxLen;omega) (by omega) (by simp;omega) _ rfl ?_;intro gg_w5 cp_w5 w5 ho_w5 hgrow_w5 hat_w5 hlt_w5)
      have O_w5:Hid (w5.ownsRow (w.heap.size+1) 31 3 (.slice (some ⟨gg_w5,0,none⟩) ((D).length+1) cp_w5) ((D) ++ [x]).length (ptCells ((D) ++ [x]))):=by
       refine hide ?_
       rw [ptCells_append,List.length_append]
       have e2:ptCells [x]=ptCell x:=by simp [ptCells]
       rw [e2];exact ho_w5
      have hown_w5:=O3.out.lt
      have L_w5:Blk w5 w.heap.size #[.int .i64 p.x,.int .i64 p.y,.int .i64 p.d]:=by
       have q:=Q3.alloc (.cells #[.int .i64 x.x,.int .i64 x.y,.int .i64 x.d] 31)
       have e:=hgrow_w5.block w.heap.size q.lt (fun k=>by have:=(hown_w5 _ k.symm).1;omega)
       exact ⟨fun o=>(World.cell?_of_block (a:=⟨w.heap.size,o,none⟩) e).trans (q.cell o),fun o=>(World.frozen?_of_block (a:=⟨w.heap.size,o,none⟩) e).trans (q.free o),Nat.lt_of_lt_of_le q.lt hgrow_w5.size⟩
      have B_w5:Below w.heap.size w w5:=Below.grown (B3.alloc B3.size _) hgrow_w5 (by have:=B3.size;simp;omega) (fun k hk=>by have:=(hown_w5 k hk).1;omega)
      clear hnews ho_w5 hgrow_w5 hat_w5 hlt_w5 hown_w5
      have HE:Hid (rinsM l p=(D ++ [x]) ++ rinsGo p (l.drop (i+1)) true):=HD.out.trans (by rw [HC.out];first | rfl | simp)
      clear HD HC HPT
      go_wp2
      go_roundw
      case rel=>exact ⟨i+1,D ++ [x],true,by go_num,rfl,by omega,O_w5.out,by first | omega | (simp;omega),HE,L_w5,B_w5⟩
      case measure=>simp [intOf];omega
     ·have hnews:=World.news_of_block (w:=wc.alloc (.cells #[.int .i64 x.x,.int .i64 x.y,.int .i64 x.d] 31)) (cs:=#[.int .i64 x.x,.int .i64 x.y,.int .i64 x.d]) (t:=31) (fr:=(0,0)) (heap_alloc_new wc _)
      go_wp2_with (at_builtin;refine wpList_append_lies _ rfl _ _ _ rfl (w.heap.size+1) 31 i0 _ 3 24 Tryz.underlying57 hi0 hz0 hz1 hz2 rfl (by omega) u5 (D).length (ptCells (D)) rfl (O3.out.alloc _) ⟨wc.heap.size,0,none⟩ 1 1 (ptCell x) rfl rfl hnews (by simp [ptCell,Value.oneCell']) (by omega) (by unfold maxLen;omega) (by omega) (by simp;omega) _ rfl ?_;intro gg_w5 cp_w5 w5 ho_w5 hgrow_w5 hat_w5 hlt_w5)
      have O_w5:Hid (w5.ownsRow (w.heap.size+1) 31 3 (.slice (some ⟨gg_w5,0,none⟩) ((D).length+1) cp_w5) ((D) ++ [x]).length (ptCells ((D) ++ [x]))):=by
       refine hide ?_
       rw [ptCells_append,List.length_append]
       have e2:ptCells [x]=ptCell x:=by simp [ptCells]
       rw [e2];exact ho_w5
      have hown_w5:=O3.out.lt
      have L_w5:Blk w5 w.heap.size #[.int .i64 p.x,.int .i64 p.y,.int .i64 p.d]:=by
       have q:=Q3.alloc (.cells #[.int .i64 x.x,.int .i64 x.y,.int .i64 x.d] 31)
       have e:=hgrow_w5.block w.heap.size q.lt (fun k=>by have:=(hown_w5 _ k.symm).1;omega)
       exact ⟨fun o=>(World.cell?_of_block (a:=⟨w.heap.size,o,none⟩) e).trans (q.cell o),fun o=>(World.frozen?_of_block (a:=⟨w.heap.size,o,none⟩) e).trans (q.free o),Nat.lt_of_lt_of_le q.lt hgrow_w5.size⟩
      have B_w5:Below w.heap.size w w5:=Below.grown (B3.alloc B3.size _) hgrow_w5 (by have:=B3.size;simp;omega) (fun k hk=>by have:=(hown_w5 k hk).1;omega)
      clear hnews ho_w5 hgrow_w5 hat_w5 hlt_w5 hown_w5
      have HE:Hid (rinsM l p=(D ++ [x]) ++ rinsGo p (l.drop (i+1)) true):=HD.out.trans (by rw [HC.out];first | rfl | simp)
      clear HD HC HPT
      go_wp2
      go_roundw
      case rel=>exact ⟨i+1,D ++ [x],true,by go_num,rfl,by omega,O_w5.out,by first | omega | (simp;omega),HE,L_w5,B_w5⟩
      case measure=>simp [intOf];omega
     ·have HE:Hid (rinsM l p=(D) ++ rinsGo p (l.drop (i+1)) true):=HD.out.trans (by rw [HC.out];first | rfl | simp)
      clear HD HC HPT
      go_wp2
      go_roundw
      case rel=>exact ⟨i+1,D,true,by go_num,rfl,by omega,O3.out,by first | omega | (simp;omega),HE,Q3,B3⟩
      case measure=>simp [intOf];omega
     ·have HE:Hid (rinsM l p=(D) ++ rinsGo p (l.drop (i+1)) true):=HD.out.trans (by rw [HC.out];first | rfl | simp)
      clear HD HC HPT
      go_wp2
      go_roundw
      case rel=>exact ⟨i+1,D,true,by go_num,rfl,by omega,O3.out,by first | omega | (simp;omega),HE,Q3,B3⟩
      case measure=>simp [intOf];omega
  ·have hi1' : ¬ (i:Int)<(l.length:Int):=by omega
   have hO':=hide hO
   obtain ⟨cq,fq,zq⟩:=id hQ
   have zb:=hbel.size
   cases d
   ·have HE:Hid (rinsM l p=D ++ [p]):=HD.out.trans (by rw [List.drop_of_length_le (by omega)];rfl)
    clear HD hO
    have hnews:=World.news_of_block (w:=wr.alloc (.cells #[.int .i64 p.x,.int .i64 p.y,.int .i64 p.d] 31)) (cs:=#[.int .i64 p.x,.int .i64 p.y,.int .i64 p.d]) (t:=31) (fr:=(0,0)) (heap_alloc_new wr _)
    go_wp2_with (at_builtin;refine wpList_append_lies _ rfl _ _ _ rfl (w.heap.size+1) 31 i0 _ 3 24 Tryz.underlying57 hi0 hz0 hz1 hz2 rfl (by omega) u5 (D).length (ptCells (D)) rfl (hO'.out.alloc _) ⟨wr.heap.size,0,none⟩ 1 1 (ptCell p) rfl rfl hnews (by simp [ptCell,Value.oneCell']) (by omega) (by unfold maxLen;omega) (by omega) (by simp;omega) _ rfl ?_;intro gg_w4 cp_w4 w4 ho_w4 hgrow_w4 hat_w4 hlt_w4)
    have O_w4:Hid (w4.ownsRow (w.heap.size+1) 31 3 (.slice (some ⟨gg_w4,0,none⟩) ((D).length+1) cp_w4) ((D) ++ [p]).length (ptCells ((D) ++ [p]))):=by
     refine hide ?_
     rw [ptCells_append,List.length_append]
     have e2:ptCells [p]=ptCell p:=by simp [ptCells]
     rw [e2];exact ho_w4
    have hown_w4:=hO'.out.lt
    have L_w4:Blk w4 w.heap.size #[.int .i64 p.x,.int .i64 p.y,.int .i64 p.d]:=by
     have q:=hQ.alloc (.cells #[.int .i64 p.x,.int .i64 p.y,.int .i64 p.d] 31)
     have e:=hgrow_w4.block w.heap.size q.lt (fun k=>by have:=(hown_w4 _ k.symm).1;omega)
     exact ⟨fun o=>(World.cell?_of_block (a:=⟨w.heap.size,o,none⟩) e).trans (q.cell o),fun o=>(World.frozen?_of_block (a:=⟨w.heap.size,o,none⟩) e).trans (q.free o),Nat.lt_of_lt_of_le q.lt hgrow_w4.size⟩
    have B_w4:Below w.heap.size w w4:=Below.grown (hbel.alloc hbel.size _) hgrow_w4 (by have:=hbel.size;simp;omega) (fun k hk=>by have:=(hown_w4 k hk).1;omega)
    clear hnews ho_w4 hgrow_w4 hat_w4 hlt_w4 hown_w4
    go_wp2
    go_ret
    exact ⟨_,rfl,by rw [HE.out];exact O_w4.out,B_w4⟩
   ·have HE:Hid (rinsM l p=D):=HD.out.trans (by rw [List.drop_of_length_le (by omega)];simp [rinsGo])
    clear HD hO
    go_wp2
    go_ret
    exact ⟨_,rfl,by rw [HE.out];exact hO'.out,hbel⟩
end Go.Proofs.YtnkcbephceollabGreat
