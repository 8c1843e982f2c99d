import Derived.Test.YtnkcbephceollabGreatQ27
namespace Go.Proofs.YtnkcbephceollabGreat
open Go.RowKit
set_option linter.unusedSimpArgs false
set_option linter.unusedVariables false
theorem rins_drop (p:Pt)(l:List Pt)(i:Nat)(d:Bool)(hi:i<l.length):rinsGo p (l.drop i) d=(if (!d && (placeB (l.getD i zP) p || befB p (l.getD i zP)))=true then [p] else []) ++ ((if placeB (l.getD i zP) p=true then [] else [l.getD i zP]) ++ rinsGo p (l.drop (i+1)) (d || (placeB (l.getD i zP) p || befB p (l.getD i zP)))):=by
 rw [List.drop_eq_getElem_cons hi,List.getD_eq_getElem?_getD,List.getElem?_eq_getElem hi];rfl
set_option maxRecDepth 100000 in
set_option maxHeartbeats 8000000 in
theorem rinsert_any (v:Value)(l:List Pt)(p:Pt)(w:World)(hl:RingAt w v l)(gl:∀ x∈l,Gd x)(hp:Gd p)(hn:l.length<=100000) :
  Calls Tryz.prog 112 #[v,p.v] w fun e w'=>∃ v',e = .returned v'/\w'.ownsRow (w.heap.size+1) 31 3 v' (rinsM l p).length (ptCells (rinsM l p))/\Below w.heap.size w w':=by
 obtain ⟨i0,hi0,hz0,hz1,hz2⟩:=info_parts infoPoint
 obtain ⟨a,cap,rfl,h1,h2,h3⟩:=hl
 unfold maxLen at h2
 have H3:=hide h3
 have GL:=hide gl
 clear h3 gl
 go_enter Tryz.func112,Tryz.ntmps112
 go_wp2_with fail
 go_loopw [5,6,7,8,9] (fun ov dv iv _ _ w'=>∃ (i:Nat) (D:List Pt) (d:Bool),iv = .int .i64 i/\dv = .bool d/\i<=l.length/\w'.ownsRow (w.heap.size+1) 31 3 ov D.length (ptCells D)/\D.length<=2*i/\Hid (rinsM l p=D ++ rinsGo p (l.drop i) d)/\Blk w' w.heap.size #[.int .i64 p.x,.int .i64 p.y,.int .i64 p.d]/\Below w.heap.size w w') (fun _ _ iv _ _ _=>l.length-(intOf iv).toNat)
 case atStart=>exact ⟨0,[],false,rfl,rfl,Nat.zero_le _,World.ownsRow_nil _ _ _ _,Nat.le_refl _,rfl,Blk.new w _ _,(Below.refl _ _).alloc (Nat.le_refl _) _⟩
 case round=>
  obtain ⟨i,D,d,rfl,rfl,hi,hO,hDl,HD,hQ,hbel⟩:=hrel
  by_cases hlt:i<l.length
  ·obtain ⟨b,off,rfl,hb,hs⟩:=H3.out i hlt
   have HC:=hide (rins_drop p l i d hlt)
   have gx:=GL.out _ (getD_mem hlt zP)
   generalize l.getD i zP=x at *
   have hi0':(0:Int)<=(i:Int):=Int.natCast_nonneg _
   have hi1':(i:Int)<(l.length:Int):=by omega
   have C1:=fun wz=>rplace_any x p wz gx hp
   have C2:=fun wz=>rbefore_any p x wz hp gx
   obtain ⟨px,py,pd⟩:=hs.later hbel hb
   obtain ⟨cq,fq,zq⟩:=id hQ
   have hO':=hide hO
   have hHQ:=hide hQ
   have hHB:=hide hbel
   have HPT:Hid (∀ wz,Below w.heap.size w wz->PtAt wz b (off+i*3) x):=fun wz kz=>hs.later kz hb
   clear hs hO hQ
   go_upto_region 6 with fail
   go_cut [8] (fun sv w'=>sv = .bool (placeB x p)/\Below wr.heap.size wr w')
   case first=>
    clear C2 HPT HC HD hO' hHQ
    go_region_with (go_at_call 73;refine (C1 _).mono ?_;rintro e' w2 ⟨rfl,k2⟩)
    all_goals
     go_wp2_with fail
     go_meet
     case rel=>exact ⟨rfl,bvia (Below.refl _ _).drew k2⟩
   case rest=>
    obtain ⟨rfl,k2⟩:=hcut
    have Q2:=hHQ.out.call k2
    have B2:=bvia hHB.out k2
    have O2:=hide (own_later hO'.out k2)
    obtain ⟨px2,py2,pd2⟩:=HPT.out _ B2
    obtain ⟨cq2,fq2,zq2⟩:=id Q2
    have hQ2:=hide Q2
    have hB2:=hide B2
    clear px py pd cq fq zq hbel k2 C1 hO' hHQ hHB Q2 B2
    go_upto_region 7 with fail
    go_cut [9] (fun av w'=>av = .bool (befB p x)/\Below wc.heap.size wc w')
    case first=>
     clear HPT HC HD O2 hQ2 hB2
     go_region_with (go_at_call 72;refine (C2 _).mono ?_;rintro e' w3 ⟨rfl,k3⟩)
     all_goals
      go_wp2_with fail
      go_meet
      case rel=>exact ⟨rfl,bvia (Below.refl _ _).drew k3⟩
    case rest=>
     obtain ⟨rfl,k3⟩:=hcut
     have Q3:=hQ2.out.call k3
     have B3:=bvia hB2.out k3
     have O3:=hide (own_later O2.out k3)
     obtain ⟨px,py,pd⟩:=HPT.out _ B3
     obtain ⟨cq,fq,zq⟩:=id Q3
     have zb:=B3.size
     clear px2 py2 pd2 cq2 fq2 zq2 k3 C2 O2 hQ2 hB2
     generalize placeB x p=sm at *
     generalize befB p x=ah at *
     cases d <;> cases sm <;> cases ah
     ·have hnews:=World.news_of_block (w:=wc.alloc (.cells #[.int .i64 x.x,.int .i64 x.y,.int .i64 x.d] 31)) (cs:=#[.int .i64 x.x,.int .i64 x.y,.int .i64 x.d]) (t:=31) (fr:=(0,0)) (heap_alloc_new wc _)
      go_wp2_with (at_builtin;refine wpList_append_lies _ rfl _ _ _ rfl (w.heap.size+1) 31 i0 _ 3 24 Tryz.underlying57 hi0 hz0 hz1 hz2 rfl (by omega) u5 (D).length (ptCells (D)) rfl (O3.out.alloc _) ⟨wc.heap.size,0,none⟩ 1 1 (ptCell x) rfl rfl hnews (by simp [ptCell,Value.oneCell']) (by omega) (by unfold maxLen;omega) (by omega) (by simp;omega) _ rfl ?_;intro gg_w5 cp_w5 w5 ho_w5 hgrow_w5 hat_w5 hlt_w5)
      have O_w5:Hid (w5.ownsRow (w.heap.size+1) 31 3 (.slice (some ⟨gg_w5,0,none⟩) ((D).length+1) cp_w5) ((D) ++ [x]).length (ptCells ((D) ++ [x]))):=by
       refine hide ?_
       rw [ptCells_append,List.length_append]
       have e2:ptCells [x]=ptCell x:=by simp [ptCells]
       rw [e2];exact ho_w5
      have hown_w5:=O3.out.lt
      have L_w5:Blk w5 w.heap.size #[.int .i64 p.x,.int .i64 p.y,.int .i64 p.d]:=by
       have q:=Q3.alloc (.cells #[.int .i64 x.x,.int .i64 x.y,.int .i64 x.d] 31)
       have e:=hgrow_w5.block w.heap.size q.lt (fun k=>by have:=(hown_w5 _ k.symm).1;omega)
       exact ⟨fun o=>(World.cell?_of_block (a:=⟨w.heap.size,o,none⟩) e).trans (q.cell o),fun o=>(World.frozen?_of_block (a:=⟨w.heap.size,o,none⟩) e).trans (q.free o),Nat.lt_of_lt_of_le q.lt hgrow_w5.size⟩
      have B_w5:Below w.heap.size w w5:=Below.grown (B3.alloc B3.size _) hgrow_w5 (by have:=B3.size;simp;omega) (fun k hk=>by have:=(hown_w5 k hk).1;omega)
      clear hnews ho_w5 hgrow_w5 hat_w5 hlt_w5 hown_w5
      have HE:Hid (rinsM l p=(D ++ [x]) ++ rinsGo p (l.drop (i+1)) false):=HD.out.trans (by rw [HC.out];first | rfl | simp)
      clear HD HC HPT
      go_wp2
      go_roundw
      case rel=>exact ⟨i+1,D ++ [x],false,by go_num,rfl,by omega,O_w5.out,by first | omega | (simp;omega),HE,L_w5,B_w5⟩
      case measure=>simp [intOf];omega
     ·have hnews:=World.news_of_block (w:=wc.alloc (.cells #[.int .i64 p.x,.int .i64 p.y,.int .i64 p.d] 31)) (cs:=#[.int .i64 p.x,.int .i64 p.y,.int .i64 p.d]) (t:=31) (fr:=(0,0)) (heap_alloc_new wc _)
      go_upto_region 10 with (at_builtin;refine wpList_append_lies _ rfl _ _ _ rfl (w.heap.size+1) 31 i0 _ 3 24 Tryz.underlying57 hi0 hz0 hz1 hz2 rfl (by omega) u5 (D).length (ptCells (D)) rfl (O3.out.alloc _) ⟨wc.heap.size,0,none⟩ 1 1 (ptCell p) rfl rfl hnews (by simp [ptCell,Value.oneCell']) (by omega) (by unfold maxLen;omega) (by omega) (by simp;omega) _ rfl ?_;intro gg_w4 cp_w4 w4 ho_w4 hgrow_w4 hat_w4 hlt_w4)
      have O_w4:Hid (w4.ownsRow (w.heap.size+1) 31 3 (.slice (some ⟨gg_w4,0,none⟩) ((D).length+1) cp_w4) ((D) ++ [p]).length (ptCells ((D) ++ [p]))):=by
       refine hide ?_
       rw [ptCells_append,List.length_append]
       have e2:ptCells [p]=ptCell p:=by simp [ptCells]
       rw [e2];exact ho_w4
      have hown_w4:=O3.out.lt
      have L_w4:Blk w4 w.heap.size #[.int .i64 p.x,.int .i64 p.y,.int .i64 p.d]:=by
       have q:=Q3.alloc (.cells #[.int .i64 p.x,.int .i64 p.y,.int .i64 p.d] 31)
       have e:=hgrow_w4.block w.heap.size q.lt (fun k=>by have:=(hown_w4 _ k.symm).1;omega)
       exact ⟨fun o=>(World.cell?_of_block (a:=⟨w.heap.size,o,none⟩) e).trans (q.cell o),fun o=>(World.frozen?_of_block (a:=⟨w.heap.size,o,none⟩) e).trans (q.free o),Nat.lt_of_lt_of_le q.lt hgrow_w4.size⟩
      have B_w4:Below w.heap.size w w4:=Below.grown (B3.alloc B3.size _) hgrow_w4 (by have:=B3.size;simp;omega) (fun k hk=>by have:=(hown_w4 k hk).1;omega)
      clear hnews ho_w4 hgrow_w4 hat_w4 hlt_w4 hown_w4
      obtain ⟨qx,qy,qd⟩:=HPT.out _ B_w4
      have zb4:=B_w4.size
      have hlD:(D ++ [p]).length=D.length+1:=by simp
      clear px py pd
      have hnews:=World.news_of_block (w:=w4.alloc (.cells #[.int .i64 x.x,.int .i64 x.y,.int .i64 x.d] 31)) (cs:=#[.int .i64 x.x,.int .i64 x.y,.int .i64 x.d]) (t:=31) (fr:=(0,0)) (heap_alloc_new w4 _)
      have O4':Hid (w4.ownsRow (w.heap.size+1) 31 3 (.slice (some ⟨gg_w4,0,none⟩) (D.length+1) cp_w4) (D.length+1) (ptCells (D ++ [p]))):=by rw [hlD] at O_w4;exact O_w4
      go_wp2_with (at_builtin;refine wpList_append_lies _ rfl _ _ _ rfl (w.heap.size+1) 31 i0 _ 3 24 Tryz.underlying57 hi0 hz0 hz1 hz2 rfl (by omega) (.slice (some ⟨gg_w4,0,none⟩) (D.length+1) cp_w4) (D.length+1) (ptCells (D ++ [p])) rfl (O4'.out.alloc _) ⟨w4.heap.size,0,none⟩ 1 1 (ptCell x) rfl rfl hnews (by simp [ptCell,Value.oneCell']) (by omega) (by unfold maxLen;omega) (by omega) (by simp;omega) _ rfl ?_;intro gg_w5 cp_w5 w5 ho_w5 hgrow_w5 hat_w5 hlt_w5)
      have O_w5:Hid (w5.ownsRow (w.heap.size+1) 31 3 (.slice (some ⟨gg_w5,0,none⟩) (D.length+1+1) cp_w5) (D ++ [p] ++ [x]).length (ptCells (D ++ [p] ++ [x]))):=by
       refine hide ?_
       rw [ptCells_append (D ++ [p]) [x],List.length_append,hlD]
       have e2:ptCells [x]=ptCell x:=by simp [ptCells]
       rw [e2];exact ho_w5
      have hown_w5:=O4'.out.lt
      have L_w5:Blk w5 w.heap.size #[.int .i64 p.x,.int .i64 p.y,.int .i64 p.d]:=by
       have q:=L_w4.alloc (.cells #[.int .i64 x.x,.int .i64 x.y,.int .i64 x.d] 31)
       have e:=hgrow_w5.block w.heap.size q.lt (fun k=>by have:=(hown_w5 _ k.symm).1;omega)
       exact ⟨fun o=>(World.cell?_of_block (a:=⟨w.heap.size,o,none⟩) e).trans (q.cell o),fun o=>(World.frozen?_of_block (a:=⟨w.heap.size,o,none⟩) e).trans (q.free o),Nat.lt_of_lt_of_le q.lt hgrow_w5.size⟩
      have B_w5:Below w.heap.size w w5:=Below.grown (B_w4.alloc B_w4.size _) hgrow_w5 (by have:=B_w4.size;simp;omega) (fun k hk=>by have:=(hown_w5 k hk).1;omega)
      clear hnews ho_w5 hgrow_w5 hat_w5 hlt_w5 hown_w5 qx qy qd O4' O_w4 L_w4 B_w4
      have HE:Hid (rinsM l p=(D ++ [p] ++ [x]) ++ rinsGo p (l.drop (i+1)) true):=HD.out.trans (by rw [HC.out];first | rfl | simp)
      clear HD HC HPT
      go_wp2
      go_roundw
      case rel=>exact ⟨i+1,D ++ [p] ++ [x],true,by go_num,rfl,by omega,O_w5.out,by first | omega | (simp;omega),HE,L_w5,B_w5⟩
      case measure=>simp [intOf];omega
     ·have hnews:=World.news_of_block (w:=wc.alloc (.cells #[.int .i64 p.x,.int .i64 p.y,.int .i64 p.d] 31)) (cs:=#[.int .i64 p.x,.int .i64 p.y,.int .i64 p.d]) (t:=31) (fr:=(0,0)) (heap_alloc_new wc _)
      go_upto_region 10 with (at_builtin;refine wpList_append_lies _ rfl _ _ _ rfl (w.heap.size+1) 31 i0 _ 3 24 Tryz.underlying57 hi0 hz0 hz1 hz2 rfl (by omega) u5 (D).length (ptCells (D)) rfl (O3.out.alloc _) ⟨wc.heap.size,0,none⟩ 1 1 (ptCell p) rfl rfl hnews (by simp [ptCell,Value.oneCell']) (by omega) (by unfold maxLen;omega) (by omega) (by simp;omega) _ rfl ?_;intro gg_w4 cp_w4 w4 ho_w4 hgrow_w4 hat_w4 hlt_w4)
      have O_w4:Hid (w4.ownsRow (w.heap.size+1) 31 3 (.slice (some ⟨gg_w4,0,none⟩) ((D).length+1) cp_w4) ((D) ++ [p]).length (ptCells ((D) ++ [p]))):=by
       refine hide ?_
       rw [ptCells_append,List.length_append]
       have e2:ptCells [p]=ptCell p:=by simp [ptCells]
       rw [e2];exact ho_w4
      have hown_w4:=O3.out.lt
      have L_w4:Blk w4 w.heap.size #[.int .i64 p.x,.int .i64 p.y,.int .i64 p.d]:=by
       have q:=Q3.alloc (.cells #[.int .i64 p.x,.int .i64 p.y,.int .i64 p.d] 31)
       have e:=hgrow_w4.block w.heap.size q.lt (fun k=>by have:=(hown_w4 _ k.symm).1;omega)
       exact ⟨fun o=>(World.cell?_of_block (a:=⟨w.heap.size,o,none⟩) e).trans (q.cell o),fun o=>(World.frozen?_of_block (a:=⟨w.heap.size,o,none⟩) e).trans (q.free o),Nat.lt_of_lt_of_le q.lt hgrow_w4.size⟩
      have B_w4:Below w.heap.size w w4:=Below.grown (B3.alloc B3.size _) hgrow_w4 (by have:=B3.size;simp;omega) (fun k hk=>by have:=(hown_w4 k hk).1;omega)
      clear hnews ho_w4 hgrow_w4 hat_w4 hlt_w4 hown_w4
      have HE:Hid (rinsM l p=(D ++ [p]) ++ rinsGo p (l.drop (i+1)) true):=HD.out.trans (by rw [HC.out];first | rfl | simp)
      clear HD HC HPT
      go_wp2
      go_roundw
      case rel=>exact ⟨i+1,D ++ [p],true,by go_num,rfl,by omega,O_w4.out,by first | omega | (simp;omega),HE,L_w4,B_w4⟩
      case measure=>simp [intOf];omega
     ·have hnews:=World.news_of_block (w:=wc.alloc (.cells #[.int .i64 p.x,.int .i64 p.y,.int .i64 p.d] 31)) (cs:=#[.int .i64 p.x,.int .i64 p.y,.int .i64 p.d]) (t:=31) (fr:=(0,0)) (heap_alloc_new wc _)
      go_upto_region 10 with (at_builtin;refine wpList_append_lies _ rfl _ _ _ rfl (w.heap.size+1) 31 i0 _ 3 24 Tryz.underlying57 hi0 hz0 hz1 hz2 rfl (by omega) u5 (D).length (ptCells (D)) rfl (O3.out.alloc _) ⟨wc.heap.size,0,none⟩ 1 1 (ptCell p) rfl rfl hnews (by simp [ptCell,Value.oneCell']) (by omega) (by unfold maxLen;omega) (by omega) (by simp;omega) _ rfl ?_;intro gg_w4 cp_w4 w4 ho_w4 hgrow_w4 hat_w4 hlt_w4)
      have O_w4:Hid (w4.ownsRow (w.heap.size+1) 31 3 (.slice (some ⟨gg_w4,0,none⟩) ((D).length+1) cp_w4) ((D) ++ [p]).length (ptCells ((D) ++ [p]))):=by
       refine hide ?_
       rw [ptCells_append,List.length_append]
       have e2:ptCells [p]=ptCell p:=by simp [ptCells]
       rw [e2];exact ho_w4
      have hown_w4:=O3.out.lt
      have L_w4:Blk w4 w.heap.size #[.int .i64 p.x,.int .i64 p.y,.int .i64 p.d]:=by
       have q:=Q3.alloc (.cells #[.int .i64 p.x,.int .i64 p.y,.int .i64 p.d] 31)
       have e:=hgrow_w4.block w.heap.size q.lt (fun k=>by have:=(hown_w4 _ k.symm).1;omega)
       exact ⟨fun o=>(World.cell?_of_block (a:=⟨w.heap.size,o,none⟩) e).trans (q.cell o),fun o=>(World.frozen?_of_block (a:=⟨w.heap.size,o,none⟩) e).trans (q.free o),Nat.lt_of_lt_of_le q.lt hgrow_w4.size⟩
      have B_w4:Below w.heap.size w w4:=Below.grown (B3.alloc B3.size _) hgrow_w4 (by have:=B3.size;simp;omega) (fun k hk=>by have:=(hown_w4 k hk).1;omega)
      clear hnews ho_w4 hgrow_w4 hat_w4 hlt_w4 hown_w4
      have HE:Hid (rinsM l p=(D ++ [p]) ++ rinsGo p (l.drop (i+1)) true):=HD.out.trans (by rw [HC.out];first | rfl | simp)
      clear HD HC HPT
      go_wp2
      go_roundw
      case rel=>exact ⟨i+1,D ++ [p],true,by go_num,rfl,by omega,O_w4.out,by first | omega | (simp;omega),HE,L_w4,B_w4⟩
      case measure=>simp [intOf];omega
     ·have hnews:=World.news_of_block (w:=wc.alloc (.cells #[.int .i64 x.x,.int .i64 x.y,.int .i64 x.d] 31)) (cs:=#[.int .i64 x.x,.int .i64 x.y,.int .i64 x.d]) (t:=31) (fr:=(0,0)) (heap_alloc_new wc _)
      go_wp2_with (at_builtin;refine wpList_append_lies _ rfl _ _ _ rfl (w.heap.size+1) 31 i0 _ 3 24 Tryz.underlying57 hi0 hz0 hz1 hz2 rfl (by omega) u5 (D).length (ptCells (D)) rfl (O3.out.alloc _) ⟨wc.heap.size,0,none⟩ 1 1 (ptCell x) rfl rfl hnews (by simp [ptCell,Value.oneCell']) (by omega) (by unfold maxLen;omega) (by omega) (by simp;omega) _ rfl ?_;intro gg_w5 cp_w5 w5 ho_w5 hgrow_w5 hat_w5 hlt_w5)
      have O_w5:Hid (w5.ownsRow (w.heap.size+1) 31 3 (.slice (some ⟨gg_w5,0,none⟩) ((D).length+1) cp_w5) ((D) ++ [x]).length (ptCells ((D) ++ [x]))):=by
       refine hide ?_
       rw [ptCells_append,List.length_append]
       have e2:ptCells [x]=ptCell x:=by simp [ptCells]
       rw [e2];exact ho_w5
      have hown_w5:=O3.out.lt
      have L_w5:Blk w5 w.heap.size #[.int .i64 p.x,.int .i64 p.y,.int .i64 p.d]:=by
       have q:=Q3.alloc (.cells #[.int .i64 x.x,.int .i64 x.y,.int .i64 x.d] 31)
       have e:=hgrow_w5.block w.heap.size q.lt (fun k=>by have:=(hown_w5 _ k.symm).1;omega)
       exact ⟨fun o=>(World.cell?_of_block (a:=⟨w.heap.size,o,none⟩) e).trans (q.cell o),fun o=>(World.frozen?_of_block (a:=⟨w.heap.size,o,none⟩) e).trans (q.free o),Nat.lt_of_lt_of_le q.lt hgrow_w5.size⟩
      have B_w5:Below w.heap.size w w5:=Below.grown (B3.alloc B3.size _) hgrow_w5 (by have:=B3.size;simp;omega) (fun k hk=>by have:=(hown_w5 k hk).1;omega)
      clear hnews ho_w5 hgrow_w5 hat_w5 hlt_w5 hown_w5
      have HE:Hid (rinsM l p=(D ++ [x]) ++ rinsGo p (l.drop (i+1)) true):=HD.out.trans (by rw [HC.out];first | rfl | simp)
      clear HD HC HPT
      go_wp2
      go_roundw
      case rel=>exact ⟨i+1,D ++ [x],true,by go_num,rfl,by omega,O_w5.out,by first | omega | (simp;omega),HE,L_w5,B_w5⟩
      case measure=>simp [intOf];omega
     ·have hnews:=World.news_of_block (w:=wc.alloc (.cells #[.int .i64 x.x,.int .i64 x.y,.int .i64 x.d] 31)) (cs:=#[.int .i64 x.x,.int .i64 x.y,.int .i64 x.d]) (t:=31) (fr:=(0,0)) (heap_alloc_new wc _)
      go_wp2_with (at_builtin;refine wpList_append_lies _ rfl _ _ _ rfl (w.heap.size+1) 31 i0 _ 3 24 Tryz.underlying57 hi0 hz0 hz1 hz2 rfl (by omega) u5 (D).length (ptCells (D)) rfl (O3.out.alloc _) ⟨wc.heap.size,0,none⟩ 1 1 (ptCell x) rfl rfl hnews (by simp [ptCell,Value.oneCell']) (by omega) (by unfold maxLen;omega) (by omega) (by simp;omega) _ rfl ?_;intro gg_w5 cp_w5 w5 ho_w5 hgrow_w5 hat_w5 hlt_w5)
      have O_w5:Hid (w5.ownsRow (w.heap.size+1) 31 3 (.slice (some ⟨gg_w5,0,none⟩) ((D).length+1) cp_w5) ((D) ++ [x]).length (ptCells ((D) ++ [x]))):=by
       refine hide ?_
       rw [ptCells_append,List.length_append]
       have e2:ptCells [x]=ptCell x:=by simp [ptCells]
       rw [e2];exact ho_w5
      have hown_w5:=O3.out.lt
      have L_w5:Blk w5 w.heap.size #[.int .i64 p.x,.int .i64 p.y,.int .i64 p.d]:=by
       have q:=Q3.alloc (.cells #[.int .i64 x.x,.int .i64 x.y,.int .i64 x.d] 31)
       have e:=hgrow_w5.block w.heap.size q.lt (fun k=>by have:=(hown_w5 _ k.symm).1;omega)
       exact ⟨fun o=>(World.cell?_of_block (a:=⟨w.heap.size,o,none⟩) e).trans (q.cell o),fun o=>(World.frozen?_of_block (a:=⟨w.heap.size,o,none⟩) e).trans (q.free o),Nat.lt_of_lt_of_le q.lt hgrow_w5.size⟩
      have B_w5:Below w.heap.size w w5:=Below.grown (B3.alloc B3.size _) hgrow_w5 (by have:=B3.size;simp;omega) (fun k hk=>by have:=(hown_w5 k hk).1;omega)
      clear hnews ho_w5 hgrow_w5 hat_w5 hlt_w5 hown_w5
      have HE:Hid (rinsM l p=(D ++ [x]) ++ rinsGo p (l.drop (i+1)) true):=HD.out.trans (by rw [HC.out];first | rfl | simp)
      clear HD HC HPT
      go_wp2
      go_roundw
      case rel=>exact ⟨i+1,D ++ [x],true,by go_num,rfl,by omega,O_w5.out,by first | omega | (simp;omega),HE,L_w5,B_w5⟩
      case measure=>simp [intOf];omega
     ·have HE:Hid (rinsM l p=(D) ++ rinsGo p (l.drop (i+1)) true):=HD.out.trans (by rw [HC.out];first | rfl | simp)
      clear HD HC HPT
      go_wp2
      go_roundw
      case rel=>exact ⟨i+1,D,true,by go_num,rfl,by omega,O3.out,by first | omega | (simp;omega),HE,Q3,B3⟩
      case measure=>simp [intOf];omega
     ·have HE:Hid (rinsM l p=(D) ++ rinsGo p (l.drop (i+1)) true):=HD.out.trans (by rw [HC.out];first | rfl | simp)
      clear HD HC HPT
      go_wp2
      go_roundw
      case rel=>exact ⟨i+1,D,true,by go_num,rfl,by omega,O3.out,by first | omega | (simp;omega),HE,Q3,B3⟩
      case measure=>simp [intOf];omega
  ·have hi1' : ¬ (i:Int)<(l.length:Int):=by omega
   have hO':=hide hO
   obtain ⟨cq,fq,zq⟩:=id hQ
   have zb:=hbel.size
   cases d
   ·have HE:Hid (rinsM l p=D ++ [p]):=HD.out.trans (by rw [List.drop_of_length_le (by omega)];rfl)
    clear HD hO
    have hnews:=World.news_of_block (w:=wr.alloc (.cells #[.int .i64 p.x,.int .i64 p.y,.int .i64 p.d] 31)) (cs:=#[.int .i64 p.x,.int .i64 p.y,.int .i64 p.d]) (t:=31) (fr:=(0,0)) (heap_alloc_new wr _)
    go_wp2_with (at_builtin;refine wpList_append_lies _ rfl _ _ _ rfl (w.heap.size+1) 31 i0 _ 3 24 Tryz.underlying57 hi0 hz0 hz1 hz2 rfl (by omega) u5 (D).length (ptCells (D)) rfl (hO'.out.alloc _) ⟨wr.heap.size,0,none⟩ 1 1 (ptCell p) rfl rfl hnews (by simp [ptCell,Value.oneCell']) (by omega) (by unfold maxLen;omega) (by omega) (by simp;omega) _ rfl ?_;intro gg_w4 cp_w4 w4 ho_w4 hgrow_w4 hat_w4 hlt_w4)
    have O_w4:Hid (w4.ownsRow (w.heap.size+1) 31 3 (.slice (some ⟨gg_w4,0,none⟩) ((D).length+1) cp_w4) ((D) ++ [p]).length (ptCells ((D) ++ [p]))):=by
     refine hide ?_
     rw [ptCells_append,List.length_append]
     have e2:ptCells [p]=ptCell p:=by simp [ptCells]
     rw [e2];exact ho_w4
    have hown_w4:=hO'.out.lt
    have L_w4:Blk w4 w.heap.size #[.int .i64 p.x,.int .i64 p.y,.int .i64 p.d]:=by
     have q:=hQ.alloc (.cells #[.int .i64 p.x,.int .i64 p.y,.int .i64 p.d] 31)
     have e:=hgrow_w4.block w.heap.size q.lt (fun k=>by have:=(hown_w4 _ k.symm).1;omega)
     exact ⟨fun o=>(World.cell?_of_block (a:=⟨w.heap.size,o,none⟩) e).trans (q.cell o),fun o=>(World.frozen?_of_block (a:=⟨w.heap.size,o,none⟩) e).trans (q.free o),Nat.lt_of_lt_of_le q.lt hgrow_w4.size⟩
    have B_w4:Below w.heap.size w w4:=Below.grown (hbel.alloc hbel.size _) hgrow_w4 (by have:=hbel.size;simp;omega) (fun k hk=>by have:=(hown_w4 k hk).1;omega)
    clear hnews ho_w4 hgrow_w4 hat_w4 hlt_w4 hown_w4
    go_wp2
    go_ret
    exact ⟨_,rfl,by rw [HE.out];exact O_w4.out,B_w4⟩
   ·have HE:Hid (rinsM l p=D):=HD.out.trans (by rw [List.drop_of_length_le (by omega)];simp [rinsGo])
    clear HD hO
    go_wp2
    go_ret
    exact ⟨_,rfl,by rw [HE.out];exact hO'.out,hbel⟩
end Go.Proofs.YtnkcbephceollabGreat
