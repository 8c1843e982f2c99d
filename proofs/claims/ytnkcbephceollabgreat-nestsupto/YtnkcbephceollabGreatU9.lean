import Derived.Test.YtnkcbephceollabGreatU8
namespace Go.Proofs.YtnkcbephceollabGreat
open Go.RowKit
set_option linter.unusedSimpArgs false
set_option linter.unusedVariables false
theorem infoEdge:(Tryz.prog.info? 73).map (fun i=>(i.zero,i.size,i.bytes))=some (some (.agg #[.int .i64 0,.int .i64 0,.int .i64 0,.int .i64 0,.int .i64 0,.int .i64 0]),6,48):=by kernel_rfl
theorem edges_of_own {w:World}{base:Nat}{v:Value}{E:List (Pt×Pt)}(h:w.ownsRow base 73 6 v E.length (segCells E))(hl:E.length<=maxLen):SegsAt w v E:=by
 have h0:=h
 obtain ⟨_,h1⟩:=h
 rcases h1 with ⟨rfl,hn⟩ | ⟨g,cap,cur,rfl,hb,hh,hnc,hcap,_,_⟩
 ·exact ⟨none,0,by rw [hn],by omega,by unfold maxLen;omega,fun j hj=>by omega⟩
 ·refine ⟨some ⟨g,0,none⟩,cap,rfl,hnc,hcap,fun j hj=>⟨g,0,rfl,?_,?_⟩⟩
  ·exact (h0.lt g rfl).2
  ·have hc:=fun t (ht:t<6)=>(h0.cellAt (j*6+t) (by omega)).trans (segCells_at E j t hj ht)
   simp only [Nat.zero_add]
   exact ⟨hc 0 (by decide),hc 1 (by decide),hc 2 (by decide),hc 3 (by decide),hc 4 (by decide),hc 5 (by decide)⟩
set_option maxRecDepth 100000 in
set_option maxHeartbeats 4000000 in
theorem rEdges_any (v:Value)(P:List (List Pt))(w:World)(hP:PolyAt w v P)(hT:(edgesM P).length<=100000) :
  Calls Tryz.prog 42 #[v] w fun e w'=>∃ v',e = .returned v'/\SegsAt w' v' (edgesM P)/\Below w.heap.size w w':=by
 obtain ⟨i0,hi0,hz0,hz1,hz2⟩:=info_parts infoEdge
 obtain ⟨a,cap,rfl,h1,h2,h3⟩:=hP
 unfold maxLen at h2
 go_enter Tryz.func42,Tryz.ntmps42
 go_wp2_with fail
 go_loopw [3,4,5,6] (fun ev c _ _ w'=>∃ i:Nat,c = .int .i64 i/\i<=P.length/\w'.ownsRow w.heap.size 73 6 ev (edgesM (P.take i)).length (segCells (edgesM (P.take i)))/\Below w.heap.size w w') (fun _ c _ _ _=>P.length-(intOf c).toNat)
 case atStart=>exact ⟨0,rfl,Nat.zero_le _,World.ownsRow_nil _ _ _ _,Below.refl _ _⟩
 case round=>
  obtain ⟨i,rfl,hi,hown,hbel⟩:=hrel
  by_cases hlt:i<P.length
  ·obtain ⟨b,off,rv,rfl,hb,hc,hring⟩:=h3 i hlt
   have hc':=(hbel.cell (p:=⟨b,off+i,none⟩) hb).trans hc
   have u0:=upToM_zero P i
   have us:=fun j=>upToM_succ P i j
   have ue:=upToM_end P i hlt
   have ul:=fun j=>upToM_le P i j hlt
   generalize hr:P.getD i []=r at *
   obtain ⟨a',cap',rfl,g1,g2,g3⟩:=hring
   unfold maxLen at g2
   rw [<-u0] at hown
   have U0:=hide u0
   have US:=hide us
   have UE:=hide ue
   have UL:=hide ul
   have HT:=hide hT
   clear h3 hr u0 us ue ul hT
   go_wp2_with fail
   go_loopw [3,6] (fun ev c w'=>∃ j:Nat,c = .int .i64 j/\j<=r.length/\w'.ownsRow w.heap.size 73 6 ev (upToM P i j).length (segCells (upToM P i j))/\Below w.heap.size w w') (fun _ c _=>r.length-(intOf c).toNat)
   case atStart=>exact ⟨0,rfl,Nat.zero_le _,hown,hbel⟩
   case round=>
    clear hown hbel hc'
    obtain ⟨j,rfl,hj,hown,hbel⟩:=hrel
    have hc':=(hbel.cell (p:=⟨b,off+i,none⟩) hb).trans hc
    by_cases hjt:j<r.length
    ·obtain ⟨b',off',rfl,hb',hp'⟩:=g3 j hjt
     obtain ⟨px,py,pd⟩:=hp'.later hbel hb'
     obtain ⟨b2,off2,e2,_,hq0⟩:=g3 (if j+1=r.length then 0 else j+1) (by split <;> omega)
     simp at e2
     obtain ⟨rfl,rfl⟩:=e2
     have hq:=hq0.later hbel hb'
     have EA:=hide (show edgeAt r j=(r.getD j zP,r.getD (if j+1=r.length then 0 else j+1) zP) from rfl)
     generalize r.getD j zP=p at *
     by_cases hlast:j+1=r.length
     ·rw [if_pos hlast] at hq EA
      generalize r.getD 0 zP=q at *
      obtain ⟨qx,qy,qd⟩:=hq
      clear g3 hp' hq0
      simp only [Nat.zero_mul,Nat.add_zero] at qx qy qd
      have e1:((j:Int)+1) % (r.length:Int)=0:=by rw [show (j:Int)+1=(r.length:Int) by omega];exact Int.emod_self
      have e1t:((j:Int)+1).tmod (r.length:Int)=0:=by rw [Int.tmod_eq_emod_of_nonneg (by omega)];exact e1
      clear hlast
      have hbw:b'<wr.heap.size:=by have:=hbel.size;omega
      have hbw2:b<wr.heap.size:=by have:=hbel.size;omega
      have hne2:u3.ownBlock≠some b':=fun e=>by have:=(hown.lt _ e).1;omega
      have hne3:u3.ownBlock≠some b:=fun e=>by have:=(hown.lt _ e).1;omega
      have hlen:=UL.out j hj
      have hT12:=HT.out
      have hn1:(upToM P i j).length+1<=maxLen:=by unfold maxLen;omega
      have hn2:((upToM P i j).length+1)*48<=140737488355328:=by omega
      have hpos:(0:Int)<(r.length:Int):=by omega
      have hposN:0<r.length:=by omega
      have hposM : ¬ r.length=0:=by omega
      have hposL : ¬ r=[]:=by intro e;rw [e] at hposN;simp at hposN
      have hj0:(0:Int)<=(j:Int):=Int.natCast_nonneg _
      have hj1:(j:Int)<(r.length:Int):=by omega
      have ewr:IntKind.i64.wrap ((j:Int)+1)=(j:Int)+1:=by simp [IntKind.wrap,IntKind.bits,IntKind.signed];omega
      have hii0:(0:Int)<=(i:Int):=Int.natCast_nonneg _
      have hii1:(i:Int)<(P.length:Int):=by omega
      go_wp2_with fail
      go_region_held3 (fun w'=>w'.cell? ⟨b,off+i,none⟩=some (.slice (some ⟨b',off',none⟩) r.length cap')/\w'.cell? ⟨b',off'+j*3,none⟩=some (.int .i64 p.x)/\w'.cell? ⟨b',off'+j*3+1,none⟩=some (.int .i64 p.y)/\w'.cell? ⟨b',off'+j*3+2,none⟩=some (.int .i64 p.d)/\
        w'.cell? ⟨b',off',none⟩=some (.int .i64 q.x)/\w'.cell? ⟨b',off'+1,none⟩=some (.int .i64 q.y)/\w'.cell? ⟨b',off'+2,none⟩=some (.int .i64 q.d))
       (first
        | go_keep
        |(go_split_ands
          refine ⟨?_,?_,?_,?_,?_,?_,?_⟩
          ·(
           rw [hgrow.cell_far _ (by simp;omega) (Ne.symm hne3)];assumption)
          ·(
           rw [hgrow.cell_far _ (by simp;omega) (Ne.symm hne2)];assumption)
          ·(
           rw [hgrow.cell_far _ (by simp;omega) (Ne.symm hne2)];assumption)
          ·(
           rw [hgrow.cell_far _ (by simp;omega) (Ne.symm hne2)];assumption)
          ·(
           rw [hgrow.cell_far _ (by simp;omega) (Ne.symm hne2)];assumption)
          ·(
           rw [hgrow.cell_far _ (by simp;omega) (Ne.symm hne2)];assumption)
          ·(
           rw [hgrow.cell_far _ (by simp;omega) (Ne.symm hne2)];assumption)))
       ((
        refine step_append_lies _ (by rfl) _ _ _ (by rfl) w.heap.size 73 i0 _ 6 48 Tryz.underlying78 hi0 hz0 hz1 hz2 rfl (by omega) u3 (upToM P i j).length (segCells (upToM P i j)) (by rfl) ((hown.alloc _).drew) ⟨wr.heap.size,0,none⟩ 1 1 (segCell (p,q)) (by rfl) (by rfl) (World.news_of_block (cs:=#[.int .i64 p.x,.int .i64 p.y,.int .i64 p.d,.int .i64 q.x,.int .i64 q.y,.int .i64 q.d]) (t:=73) (fr:=(0,0)) (heap_alloc_new wr _)) (by simp [segCell,Value.oneCell']) (by omega) hn1 hn2 (by have:=hbel.size;simp;omega) (wr.heap.size+1) (by simp) ?_;intro gg cp w1 hown1 hgrow hat hlt1))
      have HO:Hid (w1.ownsRow w.heap.size 73 6 (.slice (some ⟨gg,0,none⟩) ((upToM P i j).length+1) cp) (upToM P i (j+1)).length (segCells (upToM P i (j+1)))):=by
       refine hide ?_
       have e:=US.out j hjt
       rw [EA.out] at e
       rw [e,segCells_snoc]
       simpa using hown1
      have B1:Below w.heap.size w w1:=by
       refine Below.grown ((hbel.alloc hbel.size _).drew) hgrow (by have:=hbel.size;simp;omega) (fun k hk=>(hown.lt k hk).1)
      clear hown hown1 hgrow px py pd qx qy qd hat
      go_wp2
      go_roundw
      case rel=>exact ⟨j+1,by go_num,by omega,HO,B1⟩
      case measure=>simp [intOf];omega
     ·rw [if_neg hlast] at hq EA
      generalize r.getD (j+1) zP=q at *
      obtain ⟨qx,qy,qd⟩:=hq
      clear g3 hp' hq0
      have e1:((j:Int)+1) % (r.length:Int)=(j:Int)+1:=Int.emod_eq_of_lt (by omega) (by omega)
      have e1t:((j:Int)+1).tmod (r.length:Int)=(j:Int)+1:=by rw [Int.tmod_eq_emod_of_nonneg (by omega)];exact e1
      have e2:(j:Int)+1<(r.length:Int):=by omega
      have e3:(0:Int)<=(j:Int)+1:=by omega
      have hbw:b'<wr.heap.size:=by have:=hbel.size;omega
      have hbw2:b<wr.heap.size:=by have:=hbel.size;omega
      have hne2:u3.ownBlock≠some b':=fun e=>by have:=(hown.lt _ e).1;omega
      have hne3:u3.ownBlock≠some b:=fun e=>by have:=(hown.lt _ e).1;omega
      have hlen:=UL.out j hj
      have hT12:=HT.out
      have hn1:(upToM P i j).length+1<=maxLen:=by unfold maxLen;omega
      have hn2:((upToM P i j).length+1)*48<=140737488355328:=by omega
      have hpos:(0:Int)<(r.length:Int):=by omega
      have hposN:0<r.length:=by omega
      have hposM : ¬ r.length=0:=by omega
      have hposL : ¬ r=[]:=by intro e;rw [e] at hposN;simp at hposN
      have hj0:(0:Int)<=(j:Int):=Int.natCast_nonneg _
      have hj1:(j:Int)<(r.length:Int):=by omega
      have ewr:IntKind.i64.wrap ((j:Int)+1)=(j:Int)+1:=by simp [IntKind.wrap,IntKind.bits,IntKind.signed];omega
      have hii0:(0:Int)<=(i:Int):=Int.natCast_nonneg _
      have hii1:(i:Int)<(P.length:Int):=by omega
      go_wp2_with fail
      go_region_held3 (fun w'=>w'.cell? ⟨b,off+i,none⟩=some (.slice (some ⟨b',off',none⟩) r.length cap')/\w'.cell? ⟨b',off'+j*3,none⟩=some (.int .i64 p.x)/\w'.cell? ⟨b',off'+j*3+1,none⟩=some (.int .i64 p.y)/\w'.cell? ⟨b',off'+j*3+2,none⟩=some (.int .i64 p.d)/\
        w'.cell? ⟨b',off'+(j+1)*3,none⟩=some (.int .i64 q.x)/\w'.cell? ⟨b',off'+(j+1)*3+1,none⟩=some (.int .i64 q.y)/\w'.cell? ⟨b',off'+(j+1)*3+2,none⟩=some (.int .i64 q.d))
       (first
        | go_keep
        |(go_split_ands
          refine ⟨?_,?_,?_,?_,?_,?_,?_⟩
          ·(
           rw [hgrow.cell_far _ (by simp;omega) (Ne.symm hne3)];assumption)
          ·(
           rw [hgrow.cell_far _ (by simp;omega) (Ne.symm hne2)];assumption)
          ·(
           rw [hgrow.cell_far _ (by simp;omega) (Ne.symm hne2)];assumption)
          ·(
           rw [hgrow.cell_far _ (by simp;omega) (Ne.symm hne2)];assumption)
          ·(
           rw [hgrow.cell_far _ (by simp;omega) (Ne.symm hne2)];assumption)
          ·(
           rw [hgrow.cell_far _ (by simp;omega) (Ne.symm hne2)];assumption)
          ·(
           rw [hgrow.cell_far _ (by simp;omega) (Ne.symm hne2)];assumption)))
       ((
        refine step_append_lies _ (by rfl) _ _ _ (by rfl) w.heap.size 73 i0 _ 6 48 Tryz.underlying78 hi0 hz0 hz1 hz2 rfl (by omega) u3 (upToM P i j).length (segCells (upToM P i j)) (by rfl) ((hown.alloc _).drew) ⟨wr.heap.size,0,none⟩ 1 1 (segCell (p,q)) (by rfl) (by rfl) (World.news_of_block (cs:=#[.int .i64 p.x,.int .i64 p.y,.int .i64 p.d,.int .i64 q.x,.int .i64 q.y,.int .i64 q.d]) (t:=73) (fr:=(0,0)) (heap_alloc_new wr _)) (by simp [segCell,Value.oneCell']) (by omega) hn1 hn2 (by have:=hbel.size;simp;omega) (wr.heap.size+1) (by simp) ?_;intro gg cp w1 hown1 hgrow hat hlt1))
      have HO:Hid (w1.ownsRow w.heap.size 73 6 (.slice (some ⟨gg,0,none⟩) ((upToM P i j).length+1) cp) (upToM P i (j+1)).length (segCells (upToM P i (j+1)))):=by
       refine hide ?_
       have e:=US.out j hjt
       rw [EA.out] at e
       rw [e,segCells_snoc]
       simpa using hown1
      have B1:Below w.heap.size w w1:=by
       refine Below.grown ((hbel.alloc hbel.size _).drew) hgrow (by have:=hbel.size;simp;omega) (fun k hk=>(hown.lt k hk).1)
      clear hown hown1 hgrow px py pd qx qy qd hat
      go_wp2
      go_roundw
      case rel=>exact ⟨j+1,by go_num,by omega,HO,B1⟩
      case measure=>simp [intOf];omega
    ·have ej:j=r.length:=by omega
     subst ej
     have HO:Hid (wr.ownsRow w.heap.size 73 6 u3 (edgesM (P.take (i+1))).length (segCells (edgesM (P.take (i+1))))):=by
      rw [UE.out] at hown;exact hown
     clear hown g3
     go_wp2
     go_roundw
     case rel=>exact ⟨i+1,by go_num,by omega,HO,hbel⟩
     case measure=>simp [intOf];omega
  ·have e:P.take i=P:=List.take_of_length_le (by omega)
   rw [e] at hown
   clear h3
   go_wp2
   go_ret
   exact ⟨_,rfl,edges_of_own hown (by unfold maxLen;omega),hbel⟩
theorem flatten_le (P:List (List Pt))(i:Nat):(P.take i).flatten.length<=P.flatten.length:=by
 conv=>rhs;rw [<-List.take_append_drop i P,List.flatten_append]
 simp
def ptsTo (P:List (List Pt))(i:Nat):List Pt:=(P.take i).flatten
set_option maxRecDepth 100000 in
set_option maxHeartbeats 2000000 in
theorem points_own (v:Value)(P:List (List Pt))(w:World)(hP:PolyAt w v P)(hT:P.flatten.length<=100000) :
  Calls Tryz.prog 41 #[v] w fun e w'=>∃ v',e = .returned v'/\w'.ownsRow w.heap.size 31 3 v' P.flatten.length (ptCells P.flatten)/\Below w.heap.size w w':=by
 obtain ⟨i0,hi0,hz0,hz1,hz2⟩:=info_parts infoPoint
 obtain ⟨a,cap,rfl,h1,h2,h3⟩:=hP
 unfold maxLen at h2
 go_enter Tryz.func41,Tryz.ntmps41
 go_wp2_with fail
 go_loopw [3,4] (fun ev c w'=>∃ i:Nat,c = .int .i64 i/\i<=P.length/\w'.ownsRow w.heap.size 31 3 ev (ptsTo P i).length (ptCells (ptsTo P i))/\Below w.heap.size w w') (fun _ c _=>P.length-(intOf c).toNat)
 case atStart=>exact ⟨0,rfl,Nat.zero_le _,World.ownsRow_nil _ _ _ _,Below.refl _ _⟩
 case round=>
  obtain ⟨i,rfl,hi,hown,hbel⟩:=hrel
  by_cases hlt:i<P.length
  ·obtain ⟨b,off,rv,rfl,hb,hc,hring⟩:=h3 i hlt
   have hc':=(hbel.cell (p:=⟨b,off+i,none⟩) hb).trans hc
   have ES:ptsTo P (i+1)=ptsTo P i ++ P.getD i []:=by
    unfold ptsTo
    rw [List.take_succ_eq_append_getElem hlt,List.flatten_append,List.getD_eq_getElem?_getD,List.getElem?_eq_getElem hlt];simp
   have HL:(ptsTo P (i+1)).length<=P.flatten.length:=flatten_le P (i+1)
   rw [ES,List.length_append] at HL
   generalize hr:P.getD i []=r at *
   obtain ⟨a',cap',rfl,g1,g2,g3⟩:=hring
   unfold maxLen at g2
   have hbs:=hbel.size
   by_cases hn0:0<r.length
   ·obtain ⟨b',off',rfl,hb',_⟩:=g3 0 hn0
    have hpts:∀ j,j<r.length->PtAt wr b' (off'+j*3) (r.getD j zP):=fun j hj=>by
     obtain ⟨b2,off2,e2,_,hp⟩:=g3 j hj
     simp at e2
     obtain ⟨rfl,rfl⟩:=e2
     exact hp.later hbel hb'
    have HES:=hide ES
    have HN:=hide (ring_news hpts)
    have hn1:(ptsTo P i).length+r.length<=maxLen:=by unfold maxLen;omega
    have hn2:((ptsTo P i).length+r.length)*24<=140737488355328:=by omega
    clear h3 hc hr g3 hpts ES
    go_wp2_with (at_builtin;refine wpList_append_lies _ rfl _ _ _ rfl w.heap.size 31 i0 _ 3 24 Tryz.underlying57 hi0 hz0 hz1 hz2 rfl (by omega) u3 (ptsTo P i).length (ptCells (ptsTo P i)) rfl hown ⟨b',off',none⟩ r.length cap' (ptCells r) rfl (ptCells_len r) HN.out (ptCells_one r) hn0 hn1 hn2 hbs wr.heap.size rfl ?_;intro gg cp w1 hown1 hgrow hat hlt1)
    have HO:Hid (w1.ownsRow w.heap.size 31 3 (.slice (some ⟨gg,0,none⟩) ((ptsTo P i).length+r.length) cp) (ptsTo P (i+1)).length (ptCells (ptsTo P (i+1)))):=by
     refine hide ?_
     rw [HES.out,ptCells_append,List.length_append]
     exact hown1
    have B1:Below w.heap.size w w1:=Below.grown hbel hgrow hbs (fun k hk=>(hown.lt k hk).1)
    clear hown hown1 hgrow hat HN HES
    go_wp2
    go_roundw
    case rel=>exact ⟨i+1,by go_num,by omega,HO,B1⟩
    case measure=>simp [intOf];omega
   ·have er:r=[]:=List.eq_nil_of_length_eq_zero (by omega)
    subst er
    rw [List.append_nil] at ES
    have HO:Hid (wr.ownsRow w.heap.size 31 3 u3 (ptsTo P (i+1)).length (ptCells (ptsTo P (i+1)))):=by
     refine hide ?_
     rw [ES];exact hown
    simp only [List.length_nil] at hc'
    clear h3 hc hr g3 ES
    go_wp2_with (at_builtin;refine wpList_append_zero rfl _ _ _ rfl w.heap.size 31 i0 3 Tryz.underlying57 hi0 u3 (ptsTo P i).length (ptCells (ptsTo P i)) rfl hown a' cap' rfl ?_)
    clear hown
    go_wp2
    go_roundw
    case rel=>exact ⟨i+1,by go_num,by omega,HO,hbel⟩
    case measure=>simp [intOf];omega
  ·have e:ptsTo P i=P.flatten:=by unfold ptsTo;rw [List.take_of_length_le (by omega)]
   rw [e] at hown
   clear h3
   go_wp2
   go_ret
   exact ⟨_,rfl,hown,hbel⟩
theorem points_any (v:Value)(P:List (List Pt))(w:World)(hP:PolyAt w v P)(hT:P.flatten.length<=100000) :
  Calls Tryz.prog 41 #[v] w fun e w'=>∃ v',e = .returned v'/\RingAt w' v' P.flatten/\Below w.heap.size w w':=by
 refine (points_own v P w hP hT).mono ?_
 rintro e w' ⟨v',rfl,hown,hb⟩
 exact ⟨v',rfl,ring_of_own hown (by unfold maxLen;omega),hb⟩
theorem Blk.put7 {w:World}{p:Nat}{x0 x1 x2 x3 x4 x5 x6 y0 y1 y2 y3 y4 y5 y6:Value}(h:Blk w p #[x0,x1,x2,x3,x4,x5,x6]) :
  Blk (((((((w.setCell ⟨p,0,none⟩ y0).setCell ⟨p,1,none⟩ y1).setCell ⟨p,2,none⟩ y2).setCell ⟨p,3,none⟩ y3).setCell ⟨p,4,none⟩ y4).setCell ⟨p,5,none⟩ y5).setCell ⟨p,6,none⟩ y6) p #[y0,y1,y2,y3,y4,y5,y6]:=by
 have t0:=h.set 0 (by simp) y0
 simp only [List.setIfInBounds_toArray,List.set_cons_zero,List.set_cons_succ] at t0
 have t1:=t0.set 1 (by simp) y1
 simp only [List.setIfInBounds_toArray,List.set_cons_zero,List.set_cons_succ] at t1
 have t2:=t1.set 2 (by simp) y2
 simp only [List.setIfInBounds_toArray,List.set_cons_zero,List.set_cons_succ] at t2
 have t3:=t2.set 3 (by simp) y3
 simp only [List.setIfInBounds_toArray,List.set_cons_zero,List.set_cons_succ] at t3
 have t4:=t3.set 4 (by simp) y4
 simp only [List.setIfInBounds_toArray,List.set_cons_zero,List.set_cons_succ] at t4
 have t5:=t4.set 5 (by simp) y5
 simp only [List.setIfInBounds_toArray,List.set_cons_zero,List.set_cons_succ] at t5
 have t6:=t5.set 6 (by simp) y6
 simp only [List.setIfInBounds_toArray,List.set_cons_zero,List.set_cons_succ] at t6
 exact t6
theorem Blk.off7 {w:World}{b p:Nat}{vs:Array Value}{y0 y1 y2 y3 y4 y5 y6:Value}(h:Blk w b vs)(hne:b≠p) :
  Blk (((((((w.setCell ⟨p,0,none⟩ y0).setCell ⟨p,1,none⟩ y1).setCell ⟨p,2,none⟩ y2).setCell ⟨p,3,none⟩ y3).setCell ⟨p,4,none⟩ y4).setCell ⟨p,5,none⟩ y5).setCell ⟨p,6,none⟩ y6) b vs:=
 ((((((
    h.off hne 0 y0).off hne 1 y1).off hne 2 y2).off hne 3 y3).off hne 4 y4).off hne 5 y5).off hne 6 y6
def NzE (E:List (Pt×Pt)):Prop:=∀ j,j<E.length->(E.getD j (zP,zP)).1≠(E.getD j (zP,zP)).2
theorem NzE.take {E:List (Pt×Pt)}(h:NzE E)(k:Nat):NzE (E.take k):=by
 intro j hj
 simp at hj
 have:(E.take k).getD j (zP,zP)=E.getD j (zP,zP):=by
  rw [List.getD_eq_getElem?_getD,List.getD_eq_getElem?_getD,List.getElem?_take_of_lt (by omega)]
 rw [this];exact h j (by omega)
set_option maxRecDepth 100000 in
set_option maxHeartbeats 2000000 in
theorem rshares_any (g:Pt×Pt)(v:Value)(E:List (Pt×Pt))(w:World)(hE:SegsAt w v E)(hg1:Gr g.1)(hg2:Gr g.2)(hgn:g.1≠g.2)(hG:GrE E)(hZ:NzE E) :
  Calls Tryz.prog 43 #[sg g.1 g.2,v] w fun e w'=>e = .returned (.bool (E.any (alongB g)))/\Below w.heap.size w w':=by
 obtain ⟨a,cap,rfl,h1,h2,h3⟩:=hE
 unfold maxLen at h2
 go_enter Tryz.func43,Tryz.ntmps43
 go_wp2_with fail
 go_loopw [5,6] (fun i _ w'=>∃ k:Nat,i = .int .i64 k/\k<=E.length/\Blk w' w.heap.size #[.int .i64 g.1.x,.int .i64 g.1.y,.int .i64 g.1.d,.int .i64 g.2.x,.int .i64 g.2.y,.int .i64 g.2.d]/\Below w.heap.size w w'/\Hid (E.any (alongB g)=(E.drop k).any (alongB g))) (fun i _ _=>E.length-(intOf i).toNat)
 case atStart=>exact ⟨0,rfl,Nat.zero_le _,Blk.new w _ _,(Below.refl _ _).alloc (Nat.le_refl _) _,rfl⟩
 case round=>
  obtain ⟨k,rfl,hk,⟨cg,fg,zg⟩,hbel,HB⟩:=hrel
  by_cases hlt:k<E.length
  ·obtain ⟨b,off,rfl,hb,hs⟩:=h3 k hlt
   have hs':=hs.later hbel hb
   have HC:=hide (any_drop (alongB g) E k hlt (zP,zP))
   have hgr:=hG k hlt
   have hnz:=hZ k hlt
   generalize E.getD k (zP,zP)=e at *
   obtain ⟨he1,he2⟩:=hgr
   have HR:=hide (rmeet_eq hg1.d hg2.d he1.d he2.d hgn hnz)
   obtain ⟨c0,c1,c2,c3,c4,c5⟩:=hs'
   have hbw:b<wr.heap.size:=by have:=hbel.size;omega
   have hbs:=hbel.size
   have cg0:=cg 0
   have cg1:=cg 1
   have cg2:=cg 2
   have cg3:=cg 3
   have cg4:=cg 4
   have cg5:=cg 5
   simp at cg0 cg1 cg2 cg3 cg4 cg5
   have hk0:(0:Int)<=(k:Int):=Int.natCast_nonneg _
   have hk1:(k:Int)<(E.length:Int):=by omega
   clear h3 hs hG hZ hnz hgn
   go_upto_region 4 with fail
   go_cut [6] (fun mp w'=>∃ mb:Nat,mp = .pointer (some ⟨mb,0,none⟩)/\w'.cell? ⟨mb,0,none⟩=some (.int .i64 (rmeetM g.1 g.2 e.1 e.2).k)/\Blk w' w.heap.size #[.int .i64 g.1.x,.int .i64 g.1.y,.int .i64 g.1.d,.int .i64 g.2.x,.int .i64 g.2.y,.int .i64 g.2.d]/\Below w.heap.size w w')
   case first=>
    go_region_with (go_at_call 38;refine (rmeet_any g.1 g.2 e.1 e.2 _ hg1 hg2 he1 he2).mono ?_;rintro e' w1 ⟨rfl,k1⟩;have hzr:=k1.size;obtain ⟨hc1,hf1⟩:=bcell k1)
    all_goals
     clear c0 c1 c2 c3 c4 c5 cg0 cg1 cg2 cg3 cg4 cg5 hc1 hf1 HB HC HR
     go_wp2_with fail
     go_meet
     first
      |(have kx:Below wr.drew.heap.size wr.drew w1:=k1;exact ⟨w1.heap.size,rfl,(Blk.new w1 _ _).cell 0,((Blk.mk cg fg zg).drew.call k1).alloc _,(bvia hbel.drew k1).alloc (bvia hbel.drew k1).size _⟩)
      | exact ⟨wr.heap.size,rfl,((((Blk.new wr _ _).drew).call k1).put7).cell 0,((((Blk.mk cg fg zg).alloc _).drew).call k1).off7 (by omega),below_set7 (bvia ((hbel.alloc hbel.size _).drew) k1) hbs⟩
   case rest=>
    clear c0 c1 c2 c3 c4 c5 cg0 cg1 cg2 cg3 cg4 cg5 cg fg zg
    obtain ⟨mb,rfl,cm,hgb,B1⟩:=hcut
    rw [HR.out] at cm
    clear HR hbel
    by_cases ht:((meetM g.1 g.2 e.1 e.2).k == 2)=true
    ·have HE:Hid (E.any (alongB g)=true):=HB.out.trans (HC.out.trans (by rw [show alongB g e=true from ht];rfl))
     clear HB HC
     go_wp2
     go_ret
     exact ⟨ret_bool HE.out.symm,B1⟩
    ·have ht':((meetM g.1 g.2 e.1 e.2).k == 2)=false:=by simpa using ht
     have HE:Hid (E.any (alongB g)=(E.drop (k+1)).any (alongB g)):=HB.out.trans (HC.out.trans (by rw [show alongB g e=false from ht'];rfl))
     clear HB HC ht
     go_wp2
     go_roundw
     case rel=>exact ⟨k+1,by go_num,by omega,hgb,B1,HE⟩
     case measure=>simp [intOf];omega
  ·have HE:Hid (E.any (alongB g)=false):=by rw [HB.out,List.drop_of_length_le (by omega)];rfl
   clear h3 HB hG hZ
   go_wp2
   go_ret
   exact ⟨ret_bool HE.out.symm,hbel⟩
end Go.Proofs.YtnkcbephceollabGreat
