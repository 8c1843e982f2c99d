import Derived.Test.YtnkcbephceollabGreatU3
import Derived.KernelRfl
namespace Go.Proofs.YtnkcbephceollabGreat
set_option linter.unusedSimpArgs false
set_option linter.unusedVariables false
theorem ringEdges_len (r:List Pt):(ringEdges r).length=r.length:=by simp [ringEdges]
structure Gw (p:Pt):Prop where
 x:In p.x 2200000
 y:In p.y 2200000
 d:In p.d 32768
theorem Gd.gw {p:Pt}(h:Gd p):Gw p:=⟨h.x.mono (by decide),h.y.mono (by decide),h.d⟩
theorem gd_of_good {p:Pt}(h:goodB p=true):Gd p/\0<p.d:=by
 have:=of_decide_eq_true h
 exact ⟨⟨⟨by omega,by omega⟩,⟨by omega,by omega⟩,⟨by omega,by omega⟩⟩,by omega⟩
def outP (k:Nat):Pt:=⟨-65,k,1⟩
def freeB (q:Pt)(l:List Pt)(ea eb:Pt)(k:Nat):Bool:=l.all (fun v=>decide (detM (outP k) q v≠0)) && decide (detM ea eb (outP k)≠0)
def farL (f:Nat->Bool):Nat->Nat->Pt
 | 0,_=>outP 0
 | n+1,k=>if f k then outP k else farL f n (k+1)
def farM (q:Pt)(l:List Pt)(ea eb:Pt):Pt:=farL (freeB q l ea eb) (l.length+2) 0
theorem outP_gw (k:Nat)(h:k<=2200000):Gw (outP k):=⟨⟨by simp [outP],by simp [outP]⟩,⟨by simp [outP] <;> omega,by simp [outP] <;> omega⟩,⟨by simp [outP],by simp [outP]⟩⟩
theorem all_take {α:Type}(f:α->Bool)(l:List α)(i:Nat)(hi:i<l.length)(d:α):(l.take (i+1)).all f=((l.take i).all f && f (l.getD i d)):=by
 rw [List.take_succ_eq_append_getElem hi,List.all_append]
 simp [List.getD_eq_getElem?_getD,List.getElem?_eq_getElem hi]
theorem farL_step (f:Nat->Bool)(n k:Nat)(h:k<n):farL f (n-k) k=if f k then outP k else farL f (n-(k+1)) (k+1):=by
 have e:n-k=(n-(k+1))+1:=by omega
 rw [e];rfl
theorem getD_mem {α:Type}{l:List α}{i:Nat}(h:i<l.length)(d:α):l.getD i d∈l:=by
 rw [List.getD_eq_getElem?_getD,List.getElem?_eq_getElem h];exact List.getElem_mem h
def nCross (o q:Pt)(E:List (Pt×Pt)):Nat:=E.countP (fun e=>crossB o q e.1 e.2)
theorem nCross_take (o q:Pt)(E:List (Pt×Pt))(i:Nat)(hi:i<E.length):nCross o q (E.take (i+1))=nCross o q (E.take i)+(if crossB o q (E.getD i (zP,zP)).1 (E.getD i (zP,zP)).2=true then 1 else 0):=by
 unfold nCross
 rw [List.take_succ_eq_append_getElem hi,List.countP_append]
 simp [List.getD_eq_getElem?_getD,List.getElem?_eq_getElem hi,List.countP_cons]
theorem nCross_le (o q:Pt)(E:List (Pt×Pt)):nCross o q E<=E.length:=List.countP_le_length
def rightP (q:Pt):Pt:=⟨q.x+q.d,q.y,q.d⟩
def rlocM (P:List (List Pt))(q:Pt):Int:=
 if (edgesM P).any (fun e=>onB q e.1 e.2)=true then 2
 else if nCross (farM q P.flatten q (rightP q)) q (edgesM P) % 2=1 then 1 else 0
theorem farL_out (f:Nat->Bool):∀ n k,∃ j,j<=n+k/\farL f n k=outP j
 | 0,k=>⟨0,Nat.zero_le _,rfl⟩
 | n+1,k=>by
  unfold farL
  split
  ·exact ⟨k,by omega,rfl⟩
  ·obtain ⟨j,hj,e⟩:=farL_out f n (k+1)
   exact ⟨j,by omega,e⟩
theorem gw_right {q:Pt}(h:goodB q=true):Gw (rightP q):=by
 have:=of_decide_eq_true h
 exact ⟨⟨by simp [rightP];omega,by simp [rightP];omega⟩,⟨by simp [rightP];omega,by simp [rightP];omega⟩,⟨by simp [rightP];omega,by simp [rightP];omega⟩⟩
theorem edges_mem {P:List (List Pt)}{e:Pt×Pt}(h:e∈edgesM P):e.1∈P.flatten/\e.2∈P.flatten:=edge_ends h
theorem ring_firsts (r:List Pt):(ringEdges r).map (·.1)=r:=by
 apply List.ext_getElem
 ·simp [ringEdges]
 ·intro j h1 h2
  simp [ringEdges,edgeAt,List.getD_eq_getElem?_getD,List.getElem?_eq_getElem h2]
theorem edges_firsts (P:List (List Pt)):(edgesM P).map (·.1)=P.flatten:=by
 unfold edgesM
 induction P with
 | nil=>rfl
 | cons r P ih=>simp [ring_firsts,ih]
theorem all_firsts (P:List (List Pt)):(edgesM P).all (fun e=>goodB e.1)=P.flatten.all goodB:=by
 rw [<-edges_firsts,List.all_map];rfl
theorem first_edge {P:List (List Pt)}{v:Pt}(h:v∈P.flatten):∃ e∈edgesM P,e.1=v:=by
 rw [<-edges_firsts] at h
 obtain ⟨e,he,rfl⟩:=List.mem_map.1 h
 exact ⟨e,he,rfl⟩
theorem findM_none {α:Type}(f:α->Bool):∀ (l:List α) (i:Int),0<=i->findM f i l = -1->∀ x∈l,f x=false
 | [],_,_,_,_,hx=>by cases hx
 | y::l,i,hi,h,x,hx=>by
  simp only [findM] at h
  split at h
  ·omega
  ·rename_i hy
   rcases List.mem_cons.1 hx with rfl | hx
   ·simpa using hy
   ·exact findM_none f l (i+1) (by omega) h x hx
theorem edge_second (P:List (List Pt))(e:Pt×Pt)(he:e∈edgesM P):∃ e'∈edgesM P,e'.1=e.2:=by
 unfold edgesM at *
 obtain ⟨r,hr,h⟩:=List.mem_flatMap.1 he
 obtain ⟨j,hj,rfl⟩:=List.mem_map.1 h
 have hj':j<r.length:=by simpa using hj
 refine ⟨edgeAt r (if j+1=r.length then 0 else j+1),List.mem_flatMap.2 ⟨r,hr,List.mem_map.2 ⟨_,by simp;split <;> omega,rfl⟩⟩,rfl⟩
theorem badM_none:∀ (P:List (List Pt)) (room i:Int),0<=i->badM room i P = -1->0<=room->((edgesM P).length:Int)<=room
 | [],room,_,_,_,hr=>by simp [edgesM];omega
 | r::P,room,i,hi,h,hr=>by
  simp only [badM] at h
  split at h
  ·omega
  ·rename_i hb
   have ih:=badM_none P (room-r.length) (i+1) (by omega) h (by omega)
   have e:(edgesM (r::P)).length=r.length+(edgesM P).length:=by simp [edgesM,ringEdges_len]
   rw [e];omega
theorem edgesM_len (P:List (List Pt)):(edgesM P).length=P.flatten.length:=by
 unfold edgesM
 induction P with
 | nil=>rfl
 | cons r P ih=>simp [ringEdges_len,ih]
theorem gr_of {p:Pt}(h:gridB p=true):Gr p:=by
 have:=of_decide_eq_true h
 exact ⟨In.mk this.2.1 this.2.2.1,In.mk this.2.2.2.1 this.2.2.2.2,this.1⟩
end Go.Proofs.YtnkcbephceollabGreat
namespace Go.Proofs.YtnkcbephceollabGreat
open Go.RowKit
set_option linter.unusedSimpArgs false
set_option linter.unusedVariables false
theorem infoSeg:(Tryz.prog.info? 70).map (fun i=>(i.zero,i.size,i.bytes))=some (some (.agg #[.int .i64 0,.int .i64 0,.int .i64 0,.int .i64 0,.int .i64 0,.int .i64 0]),6,48):=by kernel_rfl
def segCell (e:Pt×Pt):List Value:=[.int .i64 e.1.x,.int .i64 e.1.y,.int .i64 e.1.d,.int .i64 e.2.x,.int .i64 e.2.y,.int .i64 e.2.d]
def segCells (E:List (Pt×Pt)):List Value:=E.flatMap segCell
theorem segCells_len (E:List (Pt×Pt)):(segCells E).length=E.length*6:=by
 unfold segCells
 induction E with
 | nil=>rfl
 | cons e E ih=>simp [segCell,ih];omega
theorem segCells_snoc (E:List (Pt×Pt))(e:Pt×Pt):segCells (E ++ [e])=segCells E ++ segCell e:=by simp [segCells]
theorem segCells_at (E:List (Pt×Pt))(j t:Nat)(hj:j<E.length)(ht:t<6):(segCells E)[j*6+t]?=(segCell (E.getD j (zP,zP)))[t]?:=by
 induction E generalizing j with
 | nil=>simp at hj
 | cons e E ih=>
  have hc:segCells (e::E)=segCell e ++ segCells E:=by simp [segCells]
  rw [hc]
  cases j with
  | zero=>rw [List.getElem?_append_left (by simp [segCell];omega)];simp
  | succ j=>
   rw [List.getElem?_append_right (by simp [segCell];omega)]
   have:(j+1)*6+t-(segCell e).length=j*6+t:=by simp [segCell];omega
   rw [this,ih j (by simpa using hj)]
   simp
theorem segs_of_own {w:World}{base:Nat}{v:Value}{E:List (Pt×Pt)}(h:w.ownsRow base 70 6 v E.length (segCells E))(hl:E.length<=maxLen):SegsAt w v E:=by
 have h0:=h
 obtain ⟨_,h1⟩:=h
 rcases h1 with ⟨rfl,hn⟩ | ⟨g,cap,cur,rfl,hb,hh,hnc,hcap,_,_⟩
 ·exact ⟨none,0,by rw [hn],by omega,by unfold maxLen;omega,fun j hj=>by omega⟩
 ·refine ⟨some ⟨g,0,none⟩,cap,rfl,hnc,hcap,fun j hj=>⟨g,0,rfl,?_,?_⟩⟩
  ·exact (h0.lt g rfl).2
  ·have hc:=fun t (ht:t<6)=>(h0.cellAt (j*6+t) (by omega)).trans (segCells_at E j t hj ht)
   simp only [Nat.zero_add]
   exact ⟨hc 0 (by decide),hc 1 (by decide),hc 2 (by decide),hc 3 (by decide),hc 4 (by decide),hc 5 (by decide)⟩
def upToM (P:List (List Pt))(i j:Nat):List (Pt×Pt):=edgesM (P.take i) ++ (ringEdges (P.getD i [])).take j
theorem heap_new2 (w:World)(o1 o2:Obj):((w.alloc o1).alloc o2).heap[w.heap.size+1]?=some o2:=by
 have:=heap_alloc_new (w.alloc o1) o2
 simpa using this
theorem upToM_zero (P:List (List Pt))(i:Nat):upToM P i 0=edgesM (P.take i):=by simp [upToM]
theorem upToM_succ (P:List (List Pt))(i j:Nat)(hj:j<(P.getD i []).length):upToM P i (j+1)=upToM P i j ++ [edgeAt (P.getD i []) j]:=by
 unfold upToM
 rw [List.append_assoc,List.take_succ_eq_append_getElem (by simpa [ringEdges] using hj)]
 simp [ringEdges]
theorem upToM_end (P:List (List Pt))(i:Nat)(hi:i<P.length):upToM P i (P.getD i []).length=edgesM (P.take (i+1)):=by
 unfold upToM edgesM
 have e:(ringEdges (P.getD i [])).take (P.getD i []).length=ringEdges (P.getD i []):=List.take_of_length_le (by rw [ringEdges_len];exact Nat.le_refl _)
 rw [e,List.take_succ_eq_append_getElem hi,List.flatMap_append]
 simp [List.getD_eq_getElem?_getD,List.getElem?_eq_getElem hi]
theorem upToM_le (P:List (List Pt))(i j:Nat)(hi:i<P.length)(hj:j<=(P.getD i []).length):(upToM P i j).length<=(edgesM P).length:=by
 have h1:(upToM P i j).length<=(upToM P i (P.getD i []).length).length:=by
  unfold upToM;rw [List.length_append,List.length_append,List.length_take,List.length_take,ringEdges_len];omega
 rw [upToM_end P i hi] at h1
 refine Nat.le_trans h1 ?_
 unfold edgesM
 conv=>rhs;rw [<-List.take_append_drop (i+1) P,List.flatMap_append]
 simp
set_option maxRecDepth 100000 in
set_option maxHeartbeats 4000000 in
theorem Edges_any (v:Value)(P:List (List Pt))(w:World)(hP:PolyAt w v P)(hT:(edgesM P).length<=100000) :
  Calls Tryz.prog 75 #[v] w fun e w'=>∃ v',e = .returned v'/\SegsAt w' v' (edgesM P)/\Below w.heap.size w w':=by
 obtain ⟨i0,hi0,hz0,hz1,hz2⟩:=info_parts infoSeg
 obtain ⟨a,cap,rfl,h1,h2,h3⟩:=hP
 unfold maxLen at h2
 go_enter Tryz.func75,Tryz.ntmps75
 go_wp2_with fail
 go_loopw [3,5,6,7,8,11] (fun ev _ _ _ _ c w'=>∃ i:Nat,c = .int .i64 i/\i<=P.length/\w'.ownsRow w.heap.size 70 6 ev (edgesM (P.take i)).length (segCells (edgesM (P.take i)))/\Below w.heap.size w w') (fun _ _ _ _ _ c _=>P.length-(intOf c).toNat)
 case atStart=>exact ⟨0,rfl,Nat.zero_le _,World.ownsRow_nil _ _ _ _,Below.refl _ _⟩
 case round=>
  obtain ⟨i,rfl,hi,hown,hbel⟩:=hrel
  by_cases hlt:i<P.length
  ·obtain ⟨b,off,rv,rfl,hb,hc,hring⟩:=h3 i hlt
   have hc':=(hbel.cell (p:=⟨b,off+i,none⟩) hb).trans hc
   have u0:=upToM_zero P i
   have us:=fun j=>upToM_succ P i j
   have ue:=upToM_end P i hlt
   have ul:=fun j=>upToM_le P i j hlt
   generalize hr:P.getD i []=r at *
   obtain ⟨a',cap',rfl,g1,g2,g3⟩:=hring
   unfold maxLen at g2
   rw [<-u0] at hown
   have U0:=hide u0
   have US:=hide us
   have UE:=hide ue
   have UL:=hide ul
   have HT:=hide hT
   clear h3 hc hr u0 us ue ul hT
   go_wp2_with fail
   go_loopw [3,6,7,8,17] (fun ev _ _ _ c w'=>∃ j:Nat,c = .int .i64 j/\j<=r.length/\w'.ownsRow w.heap.size 70 6 ev (upToM P i j).length (segCells (upToM P i j))/\Below w.heap.size w w') (fun _ _ _ _ c _=>r.length-(intOf c).toNat)
   case atStart=>exact ⟨0,rfl,Nat.zero_le _,hown,hbel⟩
   case round=>
    clear hown hbel hc'
    obtain ⟨j,rfl,hj,hown,hbel⟩:=hrel
    by_cases hjt:j<r.length
    ·obtain ⟨b',off',rfl,hb',hp'⟩:=g3 j hjt
     obtain ⟨px,py,pd⟩:=hp'.later hbel hb'
     obtain ⟨b2,off2,e2,_,hq0⟩:=g3 (if j+1=r.length then 0 else j+1) (by split <;> omega)
     simp at e2
     obtain ⟨rfl,rfl⟩:=e2
     have hq:=hq0.later hbel hb'
     have EA:=hide (show edgeAt r j=(r.getD j zP,r.getD (if j+1=r.length then 0 else j+1) zP) from rfl)
     generalize r.getD j zP=p at *
     by_cases hlast:j+1=r.length
     ·rw [if_pos hlast] at hq EA
      generalize r.getD 0 zP=q at *
      obtain ⟨qx,qy,qd⟩:=hq
      clear g3 hp' hq0
      have e1:((j:Int)+1 == (r.length:Int))=true:=by simp;omega
      simp only [Nat.zero_mul,Nat.add_zero] at qx qy qd
      have hne1:u3.ownBlock≠some wr.heap.size:=fun e=>by have:=(hown.lt _ e).2;omega
      have hne2:u3.ownBlock≠some b':=fun e=>by have:=(hown.lt _ e).1;omega
      have hbw:b'<wr.heap.size:=by have:=hbel.size;omega
      have hlen:=UL.out j hj
      have hT12:=HT.out
      have hn1:(upToM P i j).length+1<=maxLen:=by unfold maxLen;omega
      have hn2:((upToM P i j).length+1)*48<=140737488355328:=by omega
      have hpos:(0:Int)<(r.length:Int):=by omega
      have hposN:0<r.length:=by omega
      have hposM : ¬ r.length=0:=by omega
      have hposL : ¬ r=[]:=by intro e;rw [e] at hposN;simp at hposN
      go_wp2_with fail
      go_region_held3 (fun w'=>w'.cell? ⟨wr.heap.size,0,none⟩=some (.int .i64 p.x)/\w'.cell? ⟨wr.heap.size,1,none⟩=some (.int .i64 p.y)/\w'.cell? ⟨wr.heap.size,2,none⟩=some (.int .i64 p.d)/\
        w'.cell? ⟨b',off',none⟩=some (.int .i64 q.x)/\w'.cell? ⟨b',off'+1,none⟩=some (.int .i64 q.y)/\w'.cell? ⟨b',off'+2,none⟩=some (.int .i64 q.d))
       (first
        | go_keep
        |(go_split_ands
          refine ⟨?_,?_,?_,?_,?_,?_⟩
          ·(
           rw [hgrow.cell_far _ (by simp;omega) (Ne.symm hne1)];assumption)
          ·(
           rw [hgrow.cell_far _ (by simp;omega) (Ne.symm hne1)];assumption)
          ·(
           rw [hgrow.cell_far _ (by simp;omega) (Ne.symm hne1)];assumption)
          ·(
           rw [hgrow.cell_far _ (by simp;omega) (Ne.symm hne2)];assumption)
          ·(
           rw [hgrow.cell_far _ (by simp;omega) (Ne.symm hne2)];assumption)
          ·(
           rw [hgrow.cell_far _ (by simp;omega) (Ne.symm hne2)];assumption)))
       ((
        refine step_append_lies _ (by rfl) _ _ _ (by rfl) w.heap.size 70 i0 _ 6 48 Tryz.underlying107 hi0 hz0 hz1 hz2 rfl (by omega) u3 (upToM P i j).length (segCells (upToM P i j)) (by rfl) (((hown.alloc _).alloc _).drew) ⟨wr.heap.size+1,0,none⟩ 1 1 (segCell (p,q)) (by rfl) (by rfl) (World.news_of_block (cs:=#[.int .i64 p.x,.int .i64 p.y,.int .i64 p.d,.int .i64 q.x,.int .i64 q.y,.int .i64 q.d]) (t:=70) (fr:=(0,0)) (heap_new2 wr _ _)) (by simp [segCell,Value.oneCell']) (by omega) hn1 hn2 (by have:=hbel.size;simp;omega) (wr.heap.size+1+1) (by simp) ?_;intro gg cp w1 hown1 hgrow hat hlt1))
      have HO:Hid (w1.ownsRow w.heap.size 70 6 (.slice (some ⟨gg,0,none⟩) ((upToM P i j).length+1) cp) (upToM P i (j+1)).length (segCells (upToM P i (j+1)))):=by
       refine hide ?_
       have e:=US.out j hjt
       rw [EA.out] at e
       rw [e,segCells_snoc]
       simpa using hown1
      have B1:Below w.heap.size w w1:=by
       refine Below.grown (((hbel.alloc hbel.size _).alloc (by have:=hbel.size;simp;omega) _).drew) hgrow (by have:=hbel.size;simp;omega) (fun k hk=>(hown.lt k hk).1)
      clear hown hown1 hgrow px py pd qx qy qd hat
      go_wp2
      go_roundw
      case rel=>exact ⟨j+1,by go_num,by omega,HO,B1⟩
      case measure=>simp [intOf];omega
     ·rw [if_neg hlast] at hq EA
      generalize r.getD (j+1) zP=q at *
      obtain ⟨qx,qy,qd⟩:=hq
      clear g3 hp' hq0
      have e1:((j:Int)+1 == (r.length:Int))=false:=by simp;omega
      have e2:(j:Int)+1<(r.length:Int):=by omega
      have e3:(0:Int)<=(j:Int)+1:=by omega
      have hne1:u3.ownBlock≠some wr.heap.size:=fun e=>by have:=(hown.lt _ e).2;omega
      have hne2:u3.ownBlock≠some b':=fun e=>by have:=(hown.lt _ e).1;omega
      have hbw:b'<wr.heap.size:=by have:=hbel.size;omega
      have hlen:=UL.out j hj
      have hT12:=HT.out
      have hn1:(upToM P i j).length+1<=maxLen:=by unfold maxLen;omega
      have hn2:((upToM P i j).length+1)*48<=140737488355328:=by omega
      have hpos:(0:Int)<(r.length:Int):=by omega
      have hposN:0<r.length:=by omega
      have hposM : ¬ r.length=0:=by omega
      have hposL : ¬ r=[]:=by intro e;rw [e] at hposN;simp at hposN
      go_wp2_with fail
      go_region_held3 (fun w'=>w'.cell? ⟨wr.heap.size,0,none⟩=some (.int .i64 p.x)/\w'.cell? ⟨wr.heap.size,1,none⟩=some (.int .i64 p.y)/\w'.cell? ⟨wr.heap.size,2,none⟩=some (.int .i64 p.d)/\
        w'.cell? ⟨b',off'+(j+1)*3,none⟩=some (.int .i64 q.x)/\w'.cell? ⟨b',off'+(j+1)*3+1,none⟩=some (.int .i64 q.y)/\w'.cell? ⟨b',off'+(j+1)*3+2,none⟩=some (.int .i64 q.d))
       (first
        | go_keep
        |(go_split_ands
          refine ⟨?_,?_,?_,?_,?_,?_⟩
          ·(
           rw [hgrow.cell_far _ (by simp;omega) (Ne.symm hne1)];assumption)
          ·(
           rw [hgrow.cell_far _ (by simp;omega) (Ne.symm hne1)];assumption)
          ·(
           rw [hgrow.cell_far _ (by simp;omega) (Ne.symm hne1)];assumption)
          ·(
           rw [hgrow.cell_far _ (by simp;omega) (Ne.symm hne2)];assumption)
          ·(
           rw [hgrow.cell_far _ (by simp;omega) (Ne.symm hne2)];assumption)
          ·(
           rw [hgrow.cell_far _ (by simp;omega) (Ne.symm hne2)];assumption)))
       ((
        refine step_append_lies _ (by rfl) _ _ _ (by rfl) w.heap.size 70 i0 _ 6 48 Tryz.underlying107 hi0 hz0 hz1 hz2 rfl (by omega) u3 (upToM P i j).length (segCells (upToM P i j)) (by rfl) (((hown.alloc _).alloc _).drew) ⟨wr.heap.size+1,0,none⟩ 1 1 (segCell (p,q)) (by rfl) (by rfl) (World.news_of_block (cs:=#[.int .i64 p.x,.int .i64 p.y,.int .i64 p.d,.int .i64 q.x,.int .i64 q.y,.int .i64 q.d]) (t:=70) (fr:=(0,0)) (heap_new2 wr _ _)) (by simp [segCell,Value.oneCell']) (by omega) hn1 hn2 (by have:=hbel.size;simp;omega) (wr.heap.size+1+1) (by simp) ?_;intro gg cp w1 hown1 hgrow hat hlt1))
      have HO:Hid (w1.ownsRow w.heap.size 70 6 (.slice (some ⟨gg,0,none⟩) ((upToM P i j).length+1) cp) (upToM P i (j+1)).length (segCells (upToM P i (j+1)))):=by
       refine hide ?_
       have e:=US.out j hjt
       rw [EA.out] at e
       rw [e,segCells_snoc]
       simpa using hown1
      have B1:Below w.heap.size w w1:=by
       refine Below.grown (((hbel.alloc hbel.size _).alloc (by have:=hbel.size;simp;omega) _).drew) hgrow (by have:=hbel.size;simp;omega) (fun k hk=>(hown.lt k hk).1)
      clear hown hown1 hgrow px py pd qx qy qd hat
      go_wp2
      go_roundw
      case rel=>exact ⟨j+1,by go_num,by omega,HO,B1⟩
      case measure=>simp [intOf];omega
    ·have ej:j=r.length:=by omega
     subst ej
     have HO:Hid (wr.ownsRow w.heap.size 70 6 u3 (edgesM (P.take (i+1))).length (segCells (edgesM (P.take (i+1))))):=by
      rw [UE.out] at hown;exact hown
     clear hown g3
     go_wp2
     go_roundw
     case rel=>exact ⟨i+1,by go_num,by omega,HO,hbel⟩
     case measure=>simp [intOf];omega
  ·have e:P.take i=P:=List.take_of_length_le (by omega)
   rw [e] at hown
   clear h3
   go_wp2
   go_ret
   exact ⟨_,rfl,segs_of_own hown (by unfold maxLen;omega),hbel⟩
theorem below2 (w:World)(x y:Obj):Below w.heap.size w ((w.alloc x).alloc y):=
 ((
  Below.refl _ _).alloc (Nat.le_refl _) _).alloc (by simp) _
set_option maxHeartbeats 1000000 in
theorem Forward_any (a b:Pt)(w:World)(ha:Gd a)(hb:Gd b) :
  Calls Tryz.prog 124 #[sg a b] w fun e w'=>e = .returned (sg (firstM a b) (lastM a b))/\Below w.heap.size w w':=by
 go_enter Tryz.func124,Tryz.ntmps124
 go_wp2_with fail
 refine (First_any a b _ ha hb).mono ?_
 rintro e w1 ⟨rfl,k⟩
 have B1:=bvia (below2 _ _ _) k
 obtain ⟨cs,fs,zs⟩:=((Blk.new w _ _).alloc _).call k
 obtain ⟨cr,fr,zr⟩:=(Blk.at (w.heap.size+1) (by simp)).call k
 clear k
 go_wp2_with fail
 refine (Last_any a b _ ha hb).mono ?_
 rintro e w2 ⟨rfl,k⟩
 have B2:=bvia (B1.alloc B1.size _) k
 obtain ⟨cs2,fs2,zs2⟩:=((Blk.mk cs fs zs).alloc _).call k
 obtain ⟨cr2,fr2,zr2⟩:=((Blk.mk cr fr zr).alloc _).call k
 obtain ⟨cp2,fp2,zp2⟩:=(Blk.new w1 _ _).call k
 clear k cs fs cr fr B1
 have B3:=below_set6 (b:=w.heap.size+1) (x0:=I (firstM a b).x) (x1:=I (firstM a b).y) (x2:=I (firstM a b).d) (x3:=I (lastM a b).x) (x4:=I (lastM a b).y) (x5:=I (lastM a b).d) B2 (by omega)
 go_wp2
 exact bodyPost_ret (v:=sg (firstM a b) (lastM a b)) (by simp [results,Tryz.results124,go_sem,cr2,fr2,zr2]) rfl ⟨rfl,B3.alloc B3.size _⟩
theorem below_set7 {w w1:World}{b:Nat}{x0 x1 x2 x3 x4 x5 x6:Value}(h:Below w.heap.size w w1)(hb:w.heap.size<=b) :
  Below w.heap.size w (((((((w1.setCell ⟨b,0,none⟩ x0).setCell ⟨b,1,none⟩ x1).setCell ⟨b,2,none⟩ x2).setCell ⟨b,3,none⟩ x3).setCell ⟨b,4,none⟩ x4).setCell ⟨b,5,none⟩ x5).setCell ⟨b,6,none⟩ x6):=
 ((((((
    h.setCell hb _).setCell hb _).setCell hb _).setCell hb _).setCell hb _).setCell hb _).setCell hb _
theorem line_gt {a b c d:Pt}(h:0<cmpM (lastM (firstM a b) (firstM c d)) (firstM (lastM a b) (lastM c d))):lineM a b c d=zM:=if_pos h
theorem line_eq {a b c d:Pt}(h:cmpM (lastM (firstM a b) (firstM c d)) (firstM (lastM a b) (lastM c d))<=0)(h2:(cmpM (lastM (firstM a b) (firstM c d)) (firstM (lastM a b) (lastM c d)) == 0)=true):lineM a b c d=⟨1,lastM (firstM a b) (firstM c d),zP⟩:=
 (if_neg (by omega)).trans (if_pos (by simpa using h2))
theorem line_lt {a b c d:Pt}(h:cmpM (lastM (firstM a b) (firstM c d)) (firstM (lastM a b) (lastM c d))<=0)(h2:(cmpM (lastM (firstM a b) (firstM c d)) (firstM (lastM a b) (lastM c d)) == 0)=false):lineM a b c d=⟨2,lastM (firstM a b) (firstM c d),firstM (lastM a b) (lastM c d)⟩:=
 (if_neg (by omega)).trans (if_neg (by simpa using h2))
set_option maxHeartbeats 1000000 in
theorem meetOnLine_any (a b c d:Pt)(w:World)(ha:Gr a)(hb:Gr b)(hc:Gr c)(hd:Gr d) :
  Calls Tryz.prog 102 #[sg a b,sg c d] w fun e w'=>e = .returned (lineM a b c d).v/\Below w.heap.size w w':=by
 have g1:=firstM_gr ha hb
 have g2:=firstM_gr hc hd
 have g3:=lastM_gr ha hb
 have g4:=lastM_gr hc hd
 have g5:=lastM_gr g1 g2
 have g6:=firstM_gr g3 g4
 go_enter Tryz.func102,Tryz.ntmps102
 go_wp2_with fail
 refine (Forward_any a b _ ha.gd hb.gd).mono ?_
 rintro e w1 ⟨rfl,k⟩
 have B1:=bvia (below3 _ _ _ _) k
 obtain ⟨cs,fs,zs⟩:=(((Blk.new w _ _).alloc _).alloc _).call k
 obtain ⟨ct,ft,zt⟩:=((Blk.at (w.heap.size+1) (by simp)).alloc _).call k
 obtain ⟨cr,fr,zr⟩:=(Blk.at (w.heap.size+1+1) (by simp)).call k
 clear k
 go_wp2_with fail
 refine (Forward_any c d _ hc.gd hd.gd).mono ?_
 rintro e w2 ⟨rfl,k⟩
 have B4:=bvia (B1.alloc B1.size _) k
 obtain ⟨cr4,fr4,zr4⟩:=((Blk.mk cr fr zr).alloc _).call k
 obtain ⟨cp4,fp4,zp4⟩:=(Blk.new w1 _ _).call k
 clear k cs fs ct ft cr fr B1
 go_wp2_with fail
 refine (Last_any (firstM a b) (firstM c d) _ g1.gd g2.gd).mono ?_
 rintro e w5 ⟨rfl,k⟩
 have B5:=bvia (B4.alloc B4.size _) k
 obtain ⟨cr5,fr5,zr5⟩:=((Blk.mk cr4 fr4 zr4).alloc _).call k
 obtain ⟨cp5,fp5,zp5⟩:=((Blk.mk cp4 fp4 zp4).alloc _).call k
 obtain ⟨cu5,fu5,zu5⟩:=(Blk.new w2 _ _).call k
 clear k cr4 fr4 cp4 fp4 B4
 go_wp2_with fail
 refine (First_any (lastM a b) (lastM c d) _ g3.gd g4.gd).mono ?_
 rintro e w6 ⟨rfl,k⟩
 have B6:=bvia (B5.alloc B5.size _) k
 obtain ⟨cr6,fr6,zr6⟩:=((Blk.mk cr5 fr5 zr5).alloc _).call k
 obtain ⟨cm6,fm6,zm6⟩:=(Blk.new w5 _ _).call k
 clear k cr5 fr5 cp5 fp5 cu5 fu5 B5
 go_wp2_with fail
 refine (Compare_any (lastM (firstM a b) (firstM c d)) (firstM (lastM a b) (lastM c d)) _ g5.gd g6.gd).mono ?_
 rintro e w7 ⟨rfl,k⟩
 have B7:=bvia (B6.alloc B6.size _) k
 obtain ⟨cr7,fr7,zr7⟩:=((Blk.mk cr6 fr6 zr6).alloc _).call k
 obtain ⟨cm7,fm7,zm7⟩:=((Blk.mk cm6 fm6 zm6).alloc _).call k
 obtain ⟨cn7,fn7,zn7⟩:=(Blk.new w6 _ _).call k
 clear k cr6 fr6 cm6 fm6 B6
 go_wp2
 ·exact bodyPost_ret (v:=zM.v) (by simp [results,Tryz.results102,go_sem,cr7,fr7,zM,zP]) rfl ⟨by rw [line_gt (by assumption)],below_set7 B7 (by omega)⟩
 ·exact bodyPost_ret (v:=Mt.v ⟨1,lastM (firstM a b) (firstM c d),zP⟩) (by simp [results,Tryz.results102,go_sem,cr7,fr7,zP]) rfl ⟨by rw [line_eq (by assumption) (by assumption)],below_set7 B7 (by omega)⟩
 ·exact bodyPost_ret (v:=Mt.v ⟨2,lastM (firstM a b) (firstM c d),firstM (lastM a b) (lastM c d)⟩) (by simp [results,Tryz.results102,go_sem,cr7,fr7]) rfl ⟨by rw [line_lt (by assumption) (by assumption)],below_set7 B7 (by omega)⟩
theorem gr_way {a b:Int}(h:In a 64)(g:In b 64):In (b-a) 4194304:=(g.sub h).mono (by decide)
set_option maxHeartbeats 1000000 in
theorem meetParallel_any (a b c d:Pt)(w:World)(ha:Gr a)(hb:Gr b)(hc:Gr c)(hd:Gr d) :
  Calls Tryz.prog 65 #[sg a b,sg c d] w fun e w'=>e = .returned (parM a b c d).v/\Below w.heap.size w w':=by
 by_cases h:crossM (b.x-a.x) (b.y-a.y) (c.x-a.x) (c.y-a.y)=0
 ·have H:Hid (parM a b c d=lineM a b c d):=if_neg (by simpa using h)
  have h':(crossM (b.x-a.x) (b.y-a.y) (c.x-a.x) (c.y-a.y) != 0)=false:=by simpa using h
  clear h
  go_enter Tryz.func65,Tryz.ntmps65
  go_wp2_with fail
  refine (wayFrom_any a b _ ha.gd hb.gd).mono ?_
  rintro e w1 ⟨rfl,k⟩
  have B1:=bvia (below3 _ _ _ _) k
  obtain ⟨cs1,fs1,zs1⟩:=(((Blk.new w _ _).alloc _).alloc _).call k
  obtain ⟨ct1,ft1,zt1⟩:=((Blk.at (w.heap.size+1) (by simp)).alloc _).call k
  obtain ⟨cr1,fr1,zr1⟩:=(Blk.at (w.heap.size+1+1) (by simp)).call k
  clear k
  go_wp2_with fail
  refine (wayFrom_any a c _ ha.gd hc.gd).mono ?_
  rintro e w2 ⟨rfl,k⟩
  have B2:=bvia (B1.alloc B1.size _) k
  obtain ⟨cs2,fs2,zs2⟩:=((Blk.mk cs1 fs1 zs1).alloc _).call k
  obtain ⟨ct2,ft2,zt2⟩:=((Blk.mk ct1 ft1 zt1).alloc _).call k
  obtain ⟨cr2,fr2,zr2⟩:=((Blk.mk cr1 fr1 zr1).alloc _).call k
  obtain ⟨cp2,fp2,zp2⟩:=(Blk.new w1 _ _).call k
  clear k cs1 fs1 ct1 ft1 cr1 fr1 B1
  go_wp2_with fail
  refine (cross_any _ _ _ _ _ (gr_way ha.x hb.x) (gr_way ha.y hb.y) (gr_way ha.x hc.x) (gr_way ha.y hc.y)).mono ?_
  rintro e w3 ⟨rfl,k⟩
  have B3:=bvia (B2.alloc B2.size _) k
  obtain ⟨cs3,fs3,zs3⟩:=((Blk.mk cs2 fs2 zs2).alloc _).call k
  obtain ⟨ct3,ft3,zt3⟩:=((Blk.mk ct2 ft2 zt2).alloc _).call k
  obtain ⟨cr3,fr3,zr3⟩:=((Blk.mk cr2 fr2 zr2).alloc _).call k
  obtain ⟨cp3,fp3,zp3⟩:=((Blk.mk cp2 fp2 zp2).alloc _).call k
  obtain ⟨cq3,fq3,zq3⟩:=(Blk.new w2 _ _).call k
  clear k cs2 fs2 ct2 ft2 cr2 fr2 cp2 fp2 B2
  go_wp2_with fail
  refine (meetOnLine_any a b c d _ ha hb hc hd).mono ?_
  rintro e w4 ⟨rfl,k⟩
  have B4:=bvia B3 k
  obtain ⟨cs4,fs4,zs4⟩:=(Blk.mk cs3 fs3 zs3).call k
  obtain ⟨ct4,ft4,zt4⟩:=(Blk.mk ct3 ft3 zt3).call k
  obtain ⟨cr4,fr4,zr4⟩:=(Blk.mk cr3 fr3 zr3).call k
  obtain ⟨cp4,fp4,zp4⟩:=(Blk.mk cp3 fp3 zp3).call k
  obtain ⟨cq4,fq4,zq4⟩:=(Blk.mk cq3 fq3 zq3).call k
  clear k cs3 fs3 ct3 ft3 cr3 fr3 cp3 fp3 cq3 fq3 B3
  go_wp2
  exact bodyPost_ret (v:=(lineM a b c d).v) (by simp [results,Tryz.results65,go_sem,cr4,fr4]) rfl ⟨by rw [H.out],below_set7 B4 (by omega)⟩
 ·have H:Hid (parM a b c d=zM):=if_pos h
  have h':(crossM (b.x-a.x) (b.y-a.y) (c.x-a.x) (c.y-a.y) != 0)=true:=by simpa using h
  clear h
  go_enter Tryz.func65,Tryz.ntmps65
  go_wp2_with fail
  refine (wayFrom_any a b _ ha.gd hb.gd).mono ?_
  rintro e w1 ⟨rfl,k⟩
  have B1:=bvia (below3 _ _ _ _) k
  obtain ⟨cs1,fs1,zs1⟩:=(((Blk.new w _ _).alloc _).alloc _).call k
  obtain ⟨ct1,ft1,zt1⟩:=((Blk.at (w.heap.size+1) (by simp)).alloc _).call k
  obtain ⟨cr1,fr1,zr1⟩:=(Blk.at (w.heap.size+1+1) (by simp)).call k
  clear k
  go_wp2_with fail
  refine (wayFrom_any a c _ ha.gd hc.gd).mono ?_
  rintro e w2 ⟨rfl,k⟩
  have B2:=bvia (B1.alloc B1.size _) k
  obtain ⟨cs2,fs2,zs2⟩:=((Blk.mk cs1 fs1 zs1).alloc _).call k
  obtain ⟨ct2,ft2,zt2⟩:=((Blk.mk ct1 ft1 zt1).alloc _).call k
  obtain ⟨cr2,fr2,zr2⟩:=((Blk.mk cr1 fr1 zr1).alloc _).call k
  obtain ⟨cp2,fp2,zp2⟩:=(Blk.new w1 _ _).call k
  clear k cs1 fs1 ct1 ft1 cr1 fr1 B1
  go_wp2_with fail
  refine (cross_any _ _ _ _ _ (gr_way ha.x hb.x) (gr_way ha.y hb.y) (gr_way ha.x hc.x) (gr_way ha.y hc.y)).mono ?_
  rintro e w3 ⟨rfl,k⟩
  have B3:=bvia (B2.alloc B2.size _) k
  obtain ⟨cs3,fs3,zs3⟩:=((Blk.mk cs2 fs2 zs2).alloc _).call k
  obtain ⟨ct3,ft3,zt3⟩:=((Blk.mk ct2 ft2 zt2).alloc _).call k
  obtain ⟨cr3,fr3,zr3⟩:=((Blk.mk cr2 fr2 zr2).alloc _).call k
  obtain ⟨cp3,fp3,zp3⟩:=((Blk.mk cp2 fp2 zp2).alloc _).call k
  obtain ⟨cq3,fq3,zq3⟩:=(Blk.new w2 _ _).call k
  clear k cs2 fs2 ct2 ft2 cr2 fr2 cp2 fp2 B2
  go_wp2
  exact bodyPost_ret (v:=zM.v) (by simp [results,Tryz.results65,go_sem,cr3,fr3,zM,zP]) rfl ⟨by rw [H.out],below_set7 B3 (by omega)⟩
theorem cross_in {ax ay bx by':Int}(h1:In ax 128)(h2:In ay 128)(h3:In bx 128)(h4:In by' 128):In (crossM ax ay bx by') 32768:=
 ((
  h1.mul h4).sub (h2.mul h3)).mono (by decide)
theorem way128 {a b:Int}(h:In a 64)(g:In b 64):In (b-a) 128:=(g.sub h).mono (by decide)
end Go.Proofs.YtnkcbephceollabGreat
