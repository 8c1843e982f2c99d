import Derived.Test.YtnkcbephceollabGreatQ26
import Derived.Test.YtnkcbephceollabGreatQ30
namespace Go.Proofs.YtnkcbephceollabGreat
open Go.RowKit
set_option linter.unusedSimpArgs false
set_option linter.unusedVariables false
theorem infoInt:(Tryz.prog.info? 3).map (fun i=>(i.zero,i.size,i.bytes))=some (some (.int .i64 0),1,8):=by kernel_rfl
def numCells (l:List Nat):List Value:=l.map fun (k:Nat)=>.int .i64 (k:Int)
def folL (L:List (Pt×Pt)) (i:Nat):List Nat:=(List.range i).map (fun j=>folM L j L.length)
theorem folL_succ (L:List (Pt×Pt)) (i:Nat):folL L (i+1)=folL L i ++ [folM L i L.length]:=by
 unfold folL;rw [List.range_succ,List.map_append];rfl
theorem folL_len (L:List (Pt×Pt)) (i:Nat):(folL L i).length=i:=by unfold folL;simp
set_option maxRecDepth 100000 in
set_option maxHeartbeats 20000000 in
theorem followers_any (v:Value) (L:List (Pt×Pt)) (w:World) (hL:SegsAt w v L) (hG:GdE L) (hn:L.length<=1000000) :
  Calls Tryz.prog 93 #[v] w fun e w'=>∃ v',e = .returned v'/\w'.ownsRow w.heap.size 3 1 v' (nextsM L).length (numCells (nextsM L))/\Below w.heap.size w w':=by
 obtain ⟨a,cap,rfl,a1,a2,a3⟩:=hL
 unfold maxLen at a2
 have HA:=hide a3
 obtain ⟨i0,hi0,hz0,hz1,hz2⟩:=info_parts infoInt
 have HG:=hide hG
 clear a3 hG
 go_enter Tryz.func93,Tryz.ntmps93
 go_wp2_with fail
 go_loopw [3,4,5,6,7,8,11] (fun lv _ _ _ _ _ iv w'=>∃ i:Nat,iv = .int .i64 i/\i<=L.length/\w'.ownsRow w.heap.size 3 1 lv i (numCells (folL L i))/\Below w.heap.size w w') (fun _ _ _ _ _ _ iv _=>L.length-(intOf iv).toNat)
 case atStart=>exact ⟨0,rfl,Nat.zero_le _,World.ownsRow_nil _ _ _ _,Below.refl _ _⟩
 case round=>
  obtain ⟨i,rfl,hi,hO,hbel⟩:=hrel
  by_cases hlt:i<L.length
  ·obtain ⟨b,off,rfl,hb,hs⟩:=HA.out i hlt
   obtain ⟨c0,c1,c2,c3,c4,c5⟩:=hs.later hbel hb
   obtain ⟨g1,g2⟩:=HG.out i hlt
   have HFL:=hide (folL_succ L i)
   have HF0:=hide (show folM L i 0=i from rfl)
   have HFS:=hide (fun k=>show folM L i (k+1)=if cmpM (edg L k).1 (edg L i).2≠0 then folM L i k else if folM L i k=i\/aheadM (edg L k).2 (edg L (folM L i k)).2 (edg L i)=true then k else folM L i k from rfl)
   have HLT:=hide (fun k h=>fol_lt (L:=L) hlt k h)
   have hFl:=folL_len L i
   unfold edg at HFS
   generalize L.getD i (zP,zP)=e at *
   obtain ⟨W1,hW1⟩:∃ W,W=wr.alloc (.cells #[.int .i64 e.1.x,.int .i64 e.1.y,.int .i64 e.1.d,.int .i64 e.2.x,.int .i64 e.2.y,.int .i64 e.2.d] 70):=⟨_,rfl⟩
   obtain ⟨eb,heb⟩:∃ b,b=wr.heap.size:=⟨_,rfl⟩
   have B1:Below w.heap.size w W1:=by rw [hW1];exact hbel.alloc hbel.size _
   have O1:Hid (W1.ownsRow w.heap.size 3 1 u3 i (numCells (folL L i))):=by rw [hW1];exact hO.alloc _
   have E1:Blk W1 eb #[.int .i64 e.1.x,.int .i64 e.1.y,.int .i64 e.1.d,.int .i64 e.2.x,.int .i64 e.2.y,.int .i64 e.2.d]:=by rw [hW1,heb];exact Blk.new wr _ _
   clear hs hO
   go_upto_region 5 with fail
   rw [<-hW1,<-heb]
   clear hW1 heb c0 c1 c2 c3 c4 c5 hbel
   go_wp2_with fail
   go_loopw [6,7,8,19] (fun fv _ _ kv w'=>∃ k:Nat,kv = .int .i64 k/\k<=L.length/\fv = .int .i64 (folM L i k:Nat)/\Blk w' eb #[.int .i64 e.1.x,.int .i64 e.1.y,.int .i64 e.1.d,.int .i64 e.2.x,.int .i64 e.2.y,.int .i64 e.2.d]/\Hid (w'.ownsRow w.heap.size 3 1 u3 i (numCells (folL L i)))/\Below w.heap.size w w') (fun _ _ _ kv _=>L.length-(intOf kv).toNat)
   case atStart=>exact ⟨0,rfl,Nat.zero_le _,by rw [HF0.out],E1,O1,B1⟩
   case round=>
    clear E1 O1 B1
    obtain ⟨k,rfl,hk,rfl,hE,HO,hbel⟩:=hrel
    by_cases hkt:k<L.length
    ·obtain ⟨b',off',e',hb',hs⟩:=HA.out k hkt
     simp at e'
     obtain ⟨rfl,rfl⟩:=e'
     obtain ⟨d0,d1,d2,d3,d4,d5⟩:=hs.later hbel hb'
     obtain ⟨g3,g4⟩:=HG.out k hkt
     have hcl:=HLT.out k hk
     obtain ⟨b2,off2,e2,hb2,hs2⟩:=HA.out _ hcl
     simp at e2
     obtain ⟨rfl,rfl⟩:=e2
     obtain ⟨g5,g6⟩:=HG.out _ hcl
     have HS1:=hide (HFS.out k)
     generalize L.getD k (zP,zP)=f at *
     generalize hg:L.getD (folM L i k) (zP,zP)=g at *
     clear hg
     generalize hc:folM L i k=c at *
     clear hc
     obtain ⟨W2,hW2⟩:∃ W,W=wr.alloc (.cells #[.int .i64 f.1.x,.int .i64 f.1.y,.int .i64 f.1.d,.int .i64 f.2.x,.int .i64 f.2.y,.int .i64 f.2.d] 70):=⟨_,rfl⟩
     obtain ⟨fb,hfb⟩:∃ b,b=wr.heap.size:=⟨_,rfl⟩
     have B2:Below w.heap.size w W2:=by rw [hW2];exact hbel.alloc hbel.size _
     have HO2:Hid (W2.ownsRow w.heap.size 3 1 u3 i (numCells (folL L i))):=by rw [hW2];exact HO.out.alloc _
     have E2:Blk W2 eb #[.int .i64 e.1.x,.int .i64 e.1.y,.int .i64 e.1.d,.int .i64 e.2.x,.int .i64 e.2.y,.int .i64 e.2.d]:=by rw [hW2];exact hE.alloc _
     have F2:Blk W2 fb #[.int .i64 f.1.x,.int .i64 f.1.y,.int .i64 f.1.d,.int .i64 f.2.x,.int .i64 f.2.y,.int .i64 f.2.d]:=by rw [hW2,hfb];exact Blk.new wr _ _
     have hsz:=hbel.size
     clear hs
     go_upto_region 9 with fail
     rw [<-hW2,<-hfb]
     clear hW2 hfb d0 d1 d2 d3 d4 d5 hbel HO hE
     obtain ⟨ce,fe,ze⟩:=id E2
     obtain ⟨cf,ff,zf⟩:=id F2
     have CC:=fun wz=>Compare_any f.1 e.2 wz g3 g2
     have CA:=hide (fun wz=>isMetAhead_any f.2 g.2 e wz g4 g6 g1 g2)
     go_wp2_with fail
     refine (CC _).mono ?_
     rintro e' w3 ⟨rfl,k3⟩
     have B3:=bvia B2 k3
     have HO3:=hide (own_later HO2.out k3)
     have E3:=E2.call k3
     have F3:=F2.call k3
     have G3:=hs2.later B3 hb2
     clear ce fe ze cf ff zf CC B2 HO2 E2 F2 k3
     generalize hcm:cmpM f.1 e.2=cm at *
     by_cases hz:cm=0
     ·have hz':(cm != 0)=false:=by simpa using hz
      have HS2:Hid (folM L i (k+1)=if c=i\/aheadM f.2 g.2 e=true then k else c):=by rw [HS1.out,if_neg (by simpa using hz)];exact hide rfl
      clear HS1 HFS
      obtain ⟨ce,fe,ze⟩:=id E3
      obtain ⟨cf,ff,zf⟩:=id F3
      obtain ⟨q0,q1,q2,q3,q4,q5⟩:=G3
      have B4:=hide B3
      have E4:=hide E3
      have hzb:=B3.size
      clear E3 F3 B3
      go_upto_region 10 with fail
      go_cut [43] (fun cv w'=>cv = .bool (decide (c=i) || aheadM f.2 g.2 e)/\Below w3.heap.size w3 w')
      case first=>
       clear HS2 HA HG HLT HFL HF0 HO3 B4 E4
       by_cases hci:c=i
       ·subst hci
        clear CA
        go_quiet (fail)
        go_wp2
        go_meet
        case rel=>exact ⟨by simp,below_drewN (Below.refl _ _) _⟩
       ·have hci' : ¬ ((c:Int)=(i:Int)):=by omega
        have hc0:(0:Int)<=(c:Int):=Int.natCast_nonneg _
        have hc1:(c:Int)<(L.length:Int):=by omega
        have y0:=cf 3
        have y1:=cf 4
        have y2:=cf 5
        have y3:=ce 0
        have y4:=ce 1
        have y5:=ce 2
        have y6:=ce 3
        have y7:=ce 4
        have y8:=ce 5
        simp at y0 y1 y2 y3 y4 y5 y6 y7 y8
        have hb3:b<w3.heap.size:=by omega
        clear ce cf q0 q1 q2
        have hci1:((c:Int) == (i:Int))=false:=by simp;omega
        go_region_held3 (fun w'=>w'.cell? ⟨fb,3,none⟩=some (.int .i64 f.2.x)/\w'.cell? ⟨fb,4,none⟩=some (.int .i64 f.2.y)/\w'.cell? ⟨fb,5,none⟩=some (.int .i64 f.2.d)/\w'.cell? ⟨b,off+c*6+3,none⟩=some (.int .i64 g.2.x)/\w'.cell? ⟨b,off+c*6+4,none⟩=some (.int .i64 g.2.y)/\w'.cell? ⟨b,off+c*6+5,none⟩=some (.int .i64 g.2.d)/\w'.cell? ⟨eb,0,none⟩=some (.int .i64 e.1.x)/\w'.cell? ⟨eb,1,none⟩=some (.int .i64 e.1.y)/\w'.cell? ⟨eb,2,none⟩=some (.int .i64 e.1.d)/\w'.cell? ⟨eb,3,none⟩=some (.int .i64 e.2.x)/\w'.cell? ⟨eb,4,none⟩=some (.int .i64 e.2.y)/\w'.cell? ⟨eb,5,none⟩=some (.int .i64 e.2.d))
         (first
          | go_keep
          |(go_split_ands
            refine ⟨?_,?_,?_,?_,?_,?_,?_,?_,?_,?_,?_,?_⟩
            ·(
             rw [k4.cell (p:=⟨fb,3,none⟩) (by simp;omega)];assumption)
            ·(
             rw [k4.cell (p:=⟨fb,4,none⟩) (by simp;omega)];assumption)
            ·(
             rw [k4.cell (p:=⟨fb,5,none⟩) (by simp;omega)];assumption)
            ·(
             rw [k4.cell (p:=⟨b,off+c*6+3,none⟩) (by simp;omega)];assumption)
            ·(
             rw [k4.cell (p:=⟨b,off+c*6+4,none⟩) (by simp;omega)];assumption)
            ·(
             rw [k4.cell (p:=⟨b,off+c*6+5,none⟩) (by simp;omega)];assumption)
            ·(
             rw [k4.cell (p:=⟨eb,0,none⟩) (by simp;omega)];assumption)
            ·(
             rw [k4.cell (p:=⟨eb,1,none⟩) (by simp;omega)];assumption)
            ·(
             rw [k4.cell (p:=⟨eb,2,none⟩) (by simp;omega)];assumption)
            ·(
             rw [k4.cell (p:=⟨eb,3,none⟩) (by simp;omega)];assumption)
            ·(
             rw [k4.cell (p:=⟨eb,4,none⟩) (by simp;omega)];assumption)
            ·(
             rw [k4.cell (p:=⟨eb,5,none⟩) (by simp;omega)];assumption)))
         ((
          go_at_call 118;refine (CA.out _).mono ?_;rintro e' w4 ⟨rfl,k4⟩))
        all_goals
         go_wp2_with fail
         go_meet
         case rel=>exact ⟨by simp [hci],bvia (Below.refl _ _).drew k4⟩
      case rest=>
       obtain ⟨rfl,k4⟩:=hcut
       have B5:=bvia B4.out k4
       have E5:=E4.out.call k4
       have HO5:=hide (own_later HO3.out k4)
       clear B4 E4 HO3 CA k4 ce fe ze cf ff zf q0 q1 q2 q3 q4 q5
       cases hor:(decide (c=i) || aheadM f.2 g.2 e)
       ·have HS3:Hid (folM L i (k+1)=c):=by rw [HS2.out,if_neg (by simpa using hor)];exact hide rfl
        clear HS2 hor
        go_wp2
        go_roundw
        case rel=>exact ⟨k+1,by go_num,by omega,by rw [HS3.out],E5,HO5,B5⟩
        case measure=>simp [intOf];omega
       ·have HS3:Hid (folM L i (k+1)=k):=by rw [HS2.out,if_pos (by simpa using hor)];exact hide rfl
        clear HS2 hor
        go_wp2
        go_roundw
        case rel=>exact ⟨k+1,by go_num,by omega,by rw [HS3.out],E5,HO5,B5⟩
        case measure=>simp [intOf];omega
     ·have hz':(cm != 0)=true:=by simpa using hz
      have HS2:Hid (folM L i (k+1)=c):=by rw [HS1.out,if_pos hz];exact hide rfl
      clear HS1 HFS G3
      go_wp2
      go_roundw
      case rel=>exact ⟨k+1,by go_num,by omega,by rw [HS2.out],E3,HO3,B3⟩
      case measure=>simp [intOf];omega
    ·have ek:k=L.length:=by omega
     subst ek
     clear HFS HF0
     generalize folM L i L.length=c at *
     have hl1:=(HO.out.lt)
     have hnews:=World.news_of_block (w:=wr.alloc (.cells #[.int .i64 (c:Nat)] 3)) (cs:=#[.int .i64 (c:Nat)]) (t:=3) (fr:=(0,0)) (heap_alloc_new wr _)
     have hsz:=hbel.size
     go_wp2_with (at_builtin;refine wpList_append_lies _ rfl _ _ _ rfl w.heap.size 3 i0 _ 1 8 Tryz.underlying58 hi0 hz0 hz1 hz2 rfl (by omega) u3 i (numCells (folL L i)) rfl (HO.out.alloc _) ⟨wr.heap.size,0,none⟩ 1 1 [.int .i64 (c:Nat)] rfl rfl hnews (by simp [Value.oneCell']) (by omega) (by unfold maxLen;omega) (by omega) (by simp;omega) _ rfl ?_;intro gg cp w4 ho hgrow hat hlt4)
     have O4:Hid (w4.ownsRow w.heap.size 3 1 (.slice (some ⟨gg,0,none⟩) (i+1) cp) (i+1) (numCells (folL L (i+1)))):=by
      refine hide ?_
      rw [HFL.out];unfold numCells;rw [List.map_append];exact ho
     have B4:Hid (Below w.heap.size w w4):=hide (Below.grown (hbel.alloc hbel.size _) hgrow (by have:=hbel.size;simp;omega) (fun q hq=>(HO.out.lt q hq).1))
     clear ho hgrow hat hnews HO hE hbel hl1
     go_wp2
     go_roundw
     case rel=>exact ⟨i+1,by go_num,by omega,O4.out,B4.out⟩
     case measure=>simp [intOf];omega
  ·have ei:i=L.length:=by omega
   subst ei
   have HO:=hide hO
   clear hO HA HG
   go_wp2
   go_ret
   exact ⟨_,rfl,by rw [nexts_len];exact HO.out,hbel⟩
structure OwnR (w:World) (base:Nat) (v:Value) (R:List (List Pt)) (vs:List Value):Prop where
 len:vs.length=R.length
 row:w.ownsRow base 57 1 v R.length vs
 each:∀ j,j<R.length->w.ownsRow base 31 3 (vs.getD j (.slice none 0 0)) (R.getD j []).length (ptCells (R.getD j []))
 apart:∀ j k g,j<k->k<R.length->(vs.getD j (.slice none 0 0)).ownBlock=some g->(vs.getD k (.slice none 0 0)).ownBlock≠some g
 small:∀ j,j<R.length->(R.getD j []).length<=2000000
def shV {α:Type} (l:List α) (p:α) (j:Nat):List α:=(l ++ [p]).take (j+1) ++ l.drop j
theorem shv_len {α:Type} (l:List α) (p:α) (j:Nat) (hj:j<=l.length):(shV l p j).length=l.length+1:=by
 unfold shV;simp;omega
theorem shv_start {α:Type} (l:List α) (p:α):shV l p l.length=l ++ [p]:=by
 unfold shV;rw [List.take_of_length_le (by simp),List.drop_length,List.append_nil]
theorem shv_at {α:Type} (l:List α) (p:α) (j:Nat) (hj:j+1<=l.length) (d:α):(shV l p (j+1)).getD j d=l.getD j d:=by
 unfold shV
 rw [List.getD_eq_getElem?_getD,List.getD_eq_getElem?_getD,List.getElem?_append_left (by simp;omega),List.getElem?_take_of_lt (by omega),List.getElem?_append_left (by omega)]
theorem shv_step {α:Type} (l:List α) (p:α) (j:Nat) (hj:j+1<=l.length) (d:α):(shV l p (j+1)).set (j+1) (l.getD j d)=shV l p j:=by
 unfold shV
 have e1:(l ++ [p]).take (j+1+1)=(l ++ [p]).take (j+1) ++ [(l ++ [p]).getD (j+1) p]:=by
  rw [List.take_succ_eq_append_getElem (by simp;omega),List.getD_eq_getElem?_getD,List.getElem?_eq_getElem (by simp;omega)];rfl
 have e2:l.drop j=l.getD j d::l.drop (j+1):=by
  rw [List.drop_eq_getElem_cons (by omega),List.getD_eq_getElem?_getD,List.getElem?_eq_getElem (by omega)];rfl
 rw [e1,e2,List.append_assoc,List.set_append_right _ _ (by simp;omega)]
 have e3:j+1-((l ++ [p]).take (j+1)).length=0:=by simp;omega
 rw [e3];rfl
theorem shv_end {α:Type} (l:List α) (p:α) (i:Nat) (hi:i<=l.length):(shV l p i).set i p=l.take i ++ p::l.drop i:=by
 unfold shV
 have e1:(l ++ [p]).take (i+1)=(l ++ [p]).take i ++ [(l ++ [p]).getD i p]:=by
  rw [List.take_succ_eq_append_getElem (by simp;omega),List.getD_eq_getElem?_getD,List.getElem?_eq_getElem (by simp;omega)];rfl
 have e2:(l ++ [p]).take i=l.take i:=List.take_append_of_le_length hi
 rw [e1,e2,List.append_assoc,List.set_append_right _ _ (by simp;omega)]
 have e3:i-(l.take i).length=0:=by simp;omega
 rw [e3];rfl
theorem getD_ins {α:Type} (l:List α) (x d:α) (i j:Nat) (hi:i<=l.length):(l.take i ++ x::l.drop i).getD j d=if j<i then l.getD j d else if j=i then x else l.getD (j-1) d:=by
 have hl:(l.take i).length=i:=by simp;omega
 rw [List.getD_eq_getElem?_getD]
 by_cases h:j<i
 ·rw [if_pos h,List.getElem?_append_left (by omega),List.getElem?_take_of_lt h,List.getD_eq_getElem?_getD]
 ·rw [if_neg h,List.getElem?_append_right (by omega),hl]
  by_cases h2:j=i
  ·rw [if_pos h2,h2,Nat.sub_self];rfl
  ·rw [if_neg h2]
   obtain ⟨k,hk⟩:∃ k,j-i=k+1:=⟨j-i-1,by omega⟩
   rw [hk,List.getElem?_cons_succ,List.getElem?_drop,List.getD_eq_getElem?_getD]
   congr 2;omega
theorem place_le (R:List (List Pt)) (r:List Pt):∀ i,placeL R r i<=i
 | 0=>Nat.le_refl _
 | i+1=>by
  unfold placeL
  split
  ·exact Nat.le_succ_of_le (place_le R r i)
  ·exact Nat.le_refl _
abbrev nilV:Value:=.slice none 0 0
theorem OwnR.ins {w w':World} {base:Nat} {v V rv:Value} {R:List (List Pt)} {r:List Pt} {vs:List Value} {i:Nat} (h:OwnR w base v R vs) (hr:w.ownsRow base 31 3 rv r.length (ptCells r)) (hap:∀ j g,j<R.length->(vs.getD j nilV).ownBlock=some g->rv.ownBlock≠some g) (hrl:r.length<=2000000) (hi:i<=R.length)
  (k:Kp (fun b=>v.ownBlock=some b) w w') (hrow:w'.ownsRow base 57 1 V (R.length+1) (vs.take i ++ rv::vs.drop i)):OwnR w' base V (R.take i ++ r::R.drop i) (vs.take i ++ rv::vs.drop i):=by
 have hlR:(R.take i ++ r::R.drop i).length=R.length+1:=by simp;omega
 have hiv:i<=vs.length:=by rw [h.len];exact hi
 have rows:∀ j,j<R.length->w'.ownsRow base 31 3 (vs.getD j nilV) (R.getD j []).length (ptCells (R.getD j [])):=fun j hj=>Kp.own (h.each j hj) k (own_apart (h.each j hj) h.row (by decide))
 have rowr:w'.ownsRow base 31 3 rv r.length (ptCells r):=Kp.own hr k (own_apart hr h.row (by decide))
 refine ⟨by simp;have:=h.len;omega,by rw [hlR];exact hrow,fun j hj=>?_,fun j q g hjq hq hg=>?_,fun j hj=>?_⟩
 ·rw [hlR] at hj
  rw [getD_ins vs rv nilV i j hiv,getD_ins R r [] i j hi]
  by_cases h1:j<i
  ·rw [if_pos h1,if_pos h1];exact rows j (by omega)
  ·rw [if_neg h1,if_neg h1]
   by_cases h2:j=i
   ·rw [if_pos h2,if_pos h2];exact rowr
   ·rw [if_neg h2,if_neg h2];exact rows (j-1) (by omega)
 ·rw [hlR] at hq
  rw [getD_ins vs rv nilV i j hiv] at hg
  rw [getD_ins vs rv nilV i q hiv]
  by_cases h1:j<i
  ·rw [if_pos h1] at hg
   by_cases h2:q<i
   ·rw [if_pos h2];exact h.apart j q g hjq (by omega) hg
   ·rw [if_neg h2]
    by_cases h3:q=i
    ·rw [if_pos h3];exact hap j g (by omega) hg
    ·rw [if_neg h3];exact h.apart j (q-1) g (by omega) (by omega) hg
  ·rw [if_neg h1] at hg
   rw [if_neg (by omega),if_neg (by omega)]
   by_cases h2:j=i
   ·rw [if_pos h2] at hg;exact fun e=>hap (q-1) g (by omega) e hg
   ·rw [if_neg h2] at hg;exact h.apart (j-1) (q-1) g (by omega) (by omega) hg
 ·rw [hlR] at hj
  rw [getD_ins R r [] i j hi]
  by_cases h1:j<i
  ·rw [if_pos h1];exact h.small j (by omega)
  ·rw [if_neg h1]
   by_cases h2:j=i
   ·rw [if_pos h2];exact hrl
   ·rw [if_neg h2];exact h.small (j-1) (by omega)
set_option maxRecDepth 100000 in
set_option maxHeartbeats 4000000 in
theorem insertR_any (base:Nat) (v rv:Value) (R:List (List Pt)) (r:List Pt) (vs:List Value) (w:World) (hO:OwnR w base v R vs) (hr:w.ownsRow base 31 3 rv r.length (ptCells r)) (hap:∀ j g,j<R.length->(vs.getD j (.slice none 0 0)).ownBlock=some g->rv.ownBlock≠some g) (hn:R.length<=1000000) (hrl:r.length<=2000000)
  (gR:∀ q∈R,∀ p∈q,Gd p) (gr:∀ p∈r,Gd p) (hbase:base<=w.heap.size) :
  Calls Tryz.prog 96 #[v,rv] w fun e w'=>∃ v' vs',e = .returned v'/\OwnR w' base v' (insL R r) vs'/\Kp (fun b=>v.ownBlock=some b) w w'/\(∀ g,v'.ownBlock=some g->v.ownBlock=some g\/w.heap.size<=g)/\(∀ u∈vs',u=rv\/u∈vs):=by
 obtain ⟨i0,hi0,hz0,hz1,hz2⟩:=info_parts infoRing
 obtain ⟨a,cap,rfl,hag,hpos,hmx⟩:=own_form hO.row
 obtain ⟨ra,rcap,rfl,_,_,_⟩:=own_form hr
 have HI:=hide (show insL R r=R.take (placeL R r R.length) ++ r::R.drop (placeL R r R.length) from rfl)
 have HO:=hide hO
 have HR:=hide hr
 have HAP:=hide hap
 have GR:=hide gR
 have Gr':=hide gr
 have HROW:=hide hO.row
 have RR:=hide (ring_of_own hr (by unfold maxLen;omega))
 have hvl:=hO.len
 unfold maxLen at hmx
 have HAG:=hide hag
 clear hO hr hap gR gr hag
 go_enter Tryz.func96,Tryz.ntmps96
 go_upto_block 0 with fail
 go_cut [5] (fun iv w'=>iv = .int .i64 (placeL R r R.length:Nat)/\Below w.heap.size w w')
 case first=>
  go_wp2_with fail
  go_loopw [5] (fun iv w'=>∃ i:Nat,iv = .int .i64 i/\i<=R.length/\Below w.heap.size w w'/\Hid (placeL R r R.length=placeL R r i)) (fun iv _=>(intOf iv).toNat)
  case atStart=>exact ⟨R.length,rfl,Nat.le_refl _,Below.refl _ _,rfl⟩
  case round=>
   obtain ⟨i,rfl,hi,hbel,HB⟩:=hrel
   cases i with
   | zero=>
    have e0:((0:Nat):Int)=0:=rfl
    rw [e0]
    clear HO HR HAP GR Gr' RR HI
    go_wp2
    go_meet
    case rel=>exact ⟨by rw [HB.out];rfl,hbel⟩
   | succ k=>
    obtain ⟨g,hg⟩:=hpos (by omega)
    obtain rfl:=HAG.out g hg
    have hc0:wr.cell? ⟨g,k,none⟩=some (vs.getD k nilV):=by
     rw [hbel.cell (p:=⟨g,k,none⟩) (HROW.out.lt g rfl).2,own_cell HROW.out g rfl k (by omega),List.getD_eq_getElem?_getD,List.getElem?_eq_getElem (by omega)];rfl
    have hring:RingAt wr (vs.getD k nilV) (R.getD k []):=(ring_of_own (HO.out.each k (by omega)) (by have:=HO.out.small k (by omega);unfold maxLen;omega)).later hbel
    have C:=hide (CompareLists_any _ _ r (R.getD k []) wr (RR.out.later hbel) hring Gr'.out (GR.out _ (getD_mem (show k<R.length by omega) [])))
    have HC:=hide (show placeL R r (k+1)=if clM r (R.getD k [])<0 then placeL R r k else k+1 from rfl)
    obtain ⟨xa,xl,xc,hx⟩:∃ xa xl xc,vs.getD k nilV = .slice xa xl xc:=by
     obtain ⟨xa,xc,e,_⟩:=own_form (HO.out.each k (by omega))
     exact ⟨xa,_,xc,e⟩
    rw [hx] at hc0 C
    generalize clM r (R.getD k [])=cc at *
    have ec:(((k+1:Nat)):Int)=(k:Int)+1:=by omega
    rw [ec]
    have hk0:(0:Int)<=(k:Int):=Int.natCast_nonneg _
    have hk1:(k:Int)<(R.length:Int):=by omega
    have hk2:(0:Int)<(k:Int)+1:=by omega
    clear HO HR HAP GR Gr' RR HI hring hx HROW HAG
    go_wp2_with fail
    refine C.out.mono ?_
    rintro e' w2 ⟨rfl,k2⟩
    have B2:=bvia hbel k2
    clear hc0 hbel C k2
    by_cases hc:cc<0
    ·have HE:Hid (placeL R r R.length=placeL R r k):=HB.out.trans (HC.out.trans (if_pos hc))
     clear HB HC
     go_wp2
     go_roundw
     case rel=>exact ⟨k,by go_num,by omega,B2,HE⟩
     case measure=>simp [intOf] <;> omega
    ·have HE:Hid (placeL R r R.length=k+1):=HB.out.trans (HC.out.trans (if_neg hc))
     have hcd:decide (cc<0)=false:=by simpa using hc
     clear HB HC
     go_wp2
     go_meet
     case rel=>exact ⟨by rw [HE.out,ec],B2⟩
 case rest=>
  obtain ⟨rfl,B1⟩:=hcut
  have hile:=place_le R r R.length
  generalize placeL R r R.length=i at *
  have O1:=hide (own_later HROW.out B1)
  have hb1:=B1.size
  have hnews:=World.news_of_block (w:=wc.alloc (.cells #[.slice ra r.length rcap] 57)) (cs:=#[.slice ra r.length rcap]) (t:=57) (fr:=(0,0)) (heap_alloc_new wc _)
  have hn1:R.length+1<=maxLen:=by unfold maxLen;omega
  have hn2:(R.length+1)*24<=140737488355328:=by omega
  clear RR GR Gr'
  go_wp2_with (at_builtin;refine wpList_append_lies _ rfl _ _ _ rfl base 57 i0 _ 1 24 Tryz.underlying29 hi0 hz0 hz1 hz2 rfl (by omega) (.slice a R.length cap) R.length vs rfl (O1.out.alloc _) ⟨wc.heap.size,0,none⟩ 1 1 [.slice ra r.length rcap] rfl rfl hnews (by simp [Value.oneCell']) (by omega) hn1 hn2 (by simp;omega) _ rfl ?_;intro gg cp w2 hown2 hgrow hat hlt2)
  have hgx:gg<w.heap.size->(Value.slice a R.length cap).ownBlock=some gg:=fun h=>by
   rcases hat with k | k
   ·exact k
   ·simp at k;omega
  have K2:Kp (fun b=>(Value.slice a R.length cap).ownBlock=some b) w w2:=Kp.grown ((Kp.of B1).alloc _) hgrow (fun k hk=>hk)
  have HGX:=hide hgx
  have HAT:Hid (∀ g,(Value.slice (some ⟨gg,0,none⟩) (R.length+1) cp).ownBlock=some g->(Value.slice a R.length cap).ownBlock=some g\/w.heap.size<=g):=hide fun g hg=>by
   have:gg=g:=by simpa [Value.ownBlock] using hg
   subst this
   rcases Nat.lt_or_ge gg w.heap.size with k | k
   ·exact .inl (hgx k)
   ·exact .inr k
  have OS:Hid (w2.ownsRow base 57 1 (.slice (some ⟨gg,0,none⟩) (R.length+1) cp) (R.length+1) (shV vs (.slice ra r.length rcap) R.length)):=by
   rw [<-hvl,shv_start,hvl];exact hide hown2
  have HK2:=hide K2
  clear hown2 hgrow hat hnews B1 O1 hgx K2
  go_wp2_with fail
  go_loopw [6] (fun jv w'=>∃ j:Nat,jv = .int .i64 j/\i<=j/\j<=R.length/\w'.ownsRow base 57 1 (.slice (some ⟨gg,0,none⟩) (R.length+1) cp) (R.length+1) (shV vs (.slice ra r.length rcap) j)/\Kp (fun b=>(Value.slice a R.length cap).ownBlock=some b) w w') (fun jv _=>(intOf jv).toNat)
  case atStart=>exact ⟨R.length,rfl,hile,Nat.le_refl _,OS.out,HK2.out⟩
  case round=>
   clear OS HK2
   obtain ⟨j,rfl,hij,hjl,hO,hK⟩:=hrel
   have hjv:j<=vs.length:=by omega
   have hcell:∀ m,m<R.length+1->wr.cell? ⟨gg,m,none⟩=some ((shV vs (.slice ra r.length rcap) j).getD m nilV):=fun m hm=>by
    rw [own_cell hO gg rfl m (by omega),List.getD_eq_getElem?_getD,List.getElem?_eq_getElem (by rw [shv_len vs _ j hjv];omega)];rfl
   have hfree:=own_free hO gg rfl
   have hll:=(hO.lt gg rfl).2
   by_cases hlt:i<j
   ·obtain ⟨k,rfl⟩:∃ k,j=k+1:=⟨j-1,by omega⟩
    have HS:=hide (shv_step vs (.slice ra r.length rcap) k hjv nilV)
    have s0:=hcell k (by omega)
    rw [shv_at vs (.slice ra r.length rcap) k hjv nilV] at s0
    have t0:=hcell (k+1) (by omega)
    obtain ⟨xa,xl,xc,hx⟩:∃ xa xl xc,vs.getD k nilV = .slice xa xl xc:=by
     obtain ⟨xa,xc,e,_⟩:=own_form (HO.out.each k (by omega))
     exact ⟨xa,_,xc,e⟩
    rw [hx] at s0 HS
    have ec:(((k+1:Nat)):Int)=(k:Int)+1:=by omega
    rw [ec]
    have hk0:(0:Int)<=(k:Int):=Int.natCast_nonneg _
    have hk1:(k:Int)+1<(R.length:Int)+1:=by omega
    have hk2:(k:Int)<(R.length:Int)+1:=by omega
    have hki:(i:Int)<(k:Int)+1:=by omega
    have hO':=hide hO
    have hK':=hide hK
    clear hcell hO HO HR HAP HI HAG hK hx HROW
    go_wp2
    go_roundw
    case rel=>
     refine ⟨k,by go_num,by omega,by omega,?_,hK'.out.setCell (p:=⟨gg,k+1,none⟩) HGX.out _⟩
     have o3:=own_set hO'.out gg rfl (k+1) (.slice xa xl xc)
     rw [HS.out] at o3
     exact o3
    case measure=>simp [intOf] <;> omega
   ·have ej:j=i:=by omega
    subst ej
    have HS:=hide (shv_end vs (.slice ra r.length rcap) j hjv)
    have t0:=hcell j (by omega)
    have hk0:(0:Int)<=(j:Int):=Int.natCast_nonneg _
    have hk1:(j:Int)<(R.length:Int)+1:=by omega
    have hO':=hide hO
    have hK':=hide hK
    clear hcell hO hK HAG HROW
    go_wp2
    go_ret
    have o3:=own_set hO'.out gg rfl j (.slice ra r.length rcap)
    rw [HS.out] at o3
    have k3:=hK'.out.setCell (p:=⟨gg,j,none⟩) HGX.out (.slice ra r.length rcap)
    refine ⟨_,vs.take j ++ .slice ra r.length rcap::vs.drop j,rfl,?_,k3,HAT.out,fun u hu=>?_⟩
    ·rw [HI.out]
     exact HO.out.ins HR.out HAP.out hrl hjl k3 o3
    ·rcases List.mem_append.1 hu with h | h
     ·exact .inr (List.mem_of_mem_take h)
     ·rcases List.mem_cons.1 h with h | h
      ·exact .inl h
      ·exact .inr (List.mem_of_mem_drop h)
end Go.Proofs.YtnkcbephceollabGreat
