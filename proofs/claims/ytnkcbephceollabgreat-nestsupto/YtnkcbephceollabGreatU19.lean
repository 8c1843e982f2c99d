import Derived.Test.YtnkcbephceollabGreatU18
namespace Go.Proofs.YtnkcbephceollabGreat
open Go.RowKit
set_option linter.unusedSimpArgs false
set_option linter.unusedVariables false
def locM (P:List (List Pt))(q:Pt):Int×Int:=
 if moreM 2000 P=true then (0,2)
 else if goodB q=false then (0,3)
 else if (edgesM P).all (fun e=>goodB e.1)=false then (0,3)
 else (whereM q 0 (edgesM P),0)
theorem gd_good {p:Pt}(h:goodB p=true):Gd p:=by
 have:=of_decide_eq_true h
 exact ⟨⟨by omega,by omega⟩,⟨by omega,by omega⟩,⟨by omega,by omega⟩⟩
theorem moreM_none:∀ (P:List (List Pt)) (room:Int),moreM room P=false->0<=room->((edgesM P).length:Int)<=room
 | [],room,_,hr=>by simp [edgesM];omega
 | r::P,room,h,hr=>by
  simp only [moreM] at h
  split at h
  ·cases h
  ·rename_i hb
   have ih:=moreM_none P (room-r.length) h (by omega)
   have e:(edgesM (r::P)).length=r.length+(edgesM P).length:=by simp [edgesM,ringEdges_len]
   rw [e];omega
theorem gdE_of (P:List (List Pt))(h:(edgesM P).all (fun e=>goodB e.1)=true):GdE (edgesM P):=by
 have hall:∀ e∈edgesM P,goodB e.1=true:=fun e he=>List.all_eq_true.1 h e he
 have sec:∀ e∈edgesM P,∃ e'∈edgesM P,e'.1=e.2:=fun e he=>by
  unfold edgesM at *
  obtain ⟨r,hr,h⟩:=List.mem_flatMap.1 he
  obtain ⟨j,hj,rfl⟩:=List.mem_map.1 h
  have hj':j<r.length:=by simpa using hj
  exact ⟨edgeAt r (if j+1=r.length then 0 else j+1),List.mem_flatMap.2 ⟨r,hr,List.mem_map.2 ⟨_,by simp;split <;> omega,rfl⟩⟩,rfl⟩
 intro j hj
 have hm:(edgesM P).getD j (zP,zP)∈edgesM P:=by
  rw [List.getD_eq_getElem?_getD,List.getElem?_eq_getElem hj];exact List.getElem_mem hj
 obtain ⟨e',he',e2⟩:=sec _ hm
 have g1:=hall _ hm
 have g2:=hall _ he'
 rw [e2] at g2
 exact ⟨gd_good g1,gd_good g2⟩
set_option maxHeartbeats 2000000 in
theorem polyLocate_any (v:Value)(P:List (List Pt))(q:Pt)(w:World)(hP:PolyAt w v P) :
  Calls Tryz.prog 45 #[v,q.v] w fun e w'=>e = .returned (.tuple #[.int .i64 (locM P q).1,.int .i64 (locM P q).2])/\Below w.heap.size w w':=by
 have hP0:=hP
 obtain ⟨a,cap,rfl,h1,h2,_⟩:=hP
 unfold maxLen at h2
 have hP1:∀ o:Obj,PolyAt (w.alloc o) (.slice a P.length cap) P:=fun o=>hP0.later ((Below.refl _ _).alloc (Nat.le_refl _) _)
 cases c1:moreM 2000 P
 case true=>
  have HE:Hid (locM P q=(0,2)):=if_pos c1
  go_enter Tryz.func45,Tryz.ntmps45
  go_wp2_with fail
  refine (hasMore_any _ P _ (hP1 _)).mono ?_
  rintro e w1 ⟨rfl,rfl⟩
  rw [c1]
  clear c1
  go_wp2
  go_ret2
  exact ⟨by rw [HE.out];rfl,(Below.refl _ _).alloc (Nat.le_refl _) _⟩
 have hT:(edgesM P).length<=2000:=by have:=moreM_none P 2000 c1 (by decide);omega
 have e1:locM P q=_:=if_neg (by rw [c1];decide)
 cases c2:goodB q
 case false=>
  have HE:Hid (locM P q=(0,3)):=e1.trans (if_pos c2)
  clear e1
  go_enter Tryz.func45,Tryz.ntmps45
  go_wp2_with fail
  refine (hasMore_any _ P _ (hP1 _)).mono ?_
  rintro e w1 ⟨rfl,rfl⟩
  rw [c1]
  go_wp2_with fail
  refine (IsGood_any q _).mono ?_
  rintro e w1 ⟨rfl,k⟩
  have B1:=bvia ((Below.refl _ _).alloc (Nat.le_refl _) _) k
  rw [c2]
  clear k c1 c2
  go_wp2
  go_ret2
  exact ⟨by rw [HE.out];rfl,B1⟩
 have e2:=e1.trans (if_neg (by rw [c2];decide))
 have gq:=gd_good c2
 clear e1
 cases c3:(edgesM P).all (fun e=>goodB e.1)
 case false=>
  have HE:Hid (locM P q=(0,3)):=e2.trans (if_pos c3)
  clear e2
  go_enter Tryz.func45,Tryz.ntmps45
  go_wp2_with fail
  refine (hasMore_any _ P _ (hP1 _)).mono ?_
  rintro e w1 ⟨rfl,rfl⟩
  rw [c1]
  go_wp2_with fail
  refine (IsGood_any q _).mono ?_
  rintro e w1 ⟨rfl,k⟩
  have B1:=bvia ((Below.refl _ _).alloc (Nat.le_refl _) _) k
  have hP2:=hP0.later B1
  rw [c2]
  clear k c1 c2
  go_wp2_with fail
  refine (Edges_any _ P _ hP2 (Nat.le_trans hT (by decide))).mono ?_
  rintro e w2 ⟨ev,rfl,hE2,k⟩
  have B2:=bvia B1 k
  clear k B1
  go_wp2_with fail
  refine (areGood_any _ (edgesM P) _ hE2).mono ?_
  rintro e w3 ⟨rfl,k⟩
  have B3:=bvia B2 k
  rw [c3]
  clear k B2 hE2 c3
  go_wp2
  go_ret2
  exact ⟨by rw [HE.out];rfl,B3⟩
 have HE:Hid (locM P q=(whereM q 0 (edgesM P),0)):=e2.trans (if_neg (by rw [c3];decide))
 have hG:=gdE_of P c3
 clear e2
 go_enter Tryz.func45,Tryz.ntmps45
 go_wp2_with fail
 refine (hasMore_any _ P _ (hP1 _)).mono ?_
 rintro e w1 ⟨rfl,rfl⟩
 rw [c1]
 go_wp2_with fail
 refine (IsGood_any q _).mono ?_
 rintro e w1 ⟨rfl,k⟩
 have B1:=bvia ((Below.refl _ _).alloc (Nat.le_refl _) _) k
 have hP2:=hP0.later B1
 obtain ⟨cq1,fq1,zq1⟩:=(Blk.new w _ _).call k
 rw [c2]
 clear k c1 c2
 go_wp2_with fail
 refine (Edges_any _ P _ hP2 (Nat.le_trans hT (by decide))).mono ?_
 rintro e w2 ⟨ev,rfl,hE2,k⟩
 have B2:=bvia B1 k
 obtain ⟨cq2,fq2,zq2⟩:=(Blk.mk cq1 fq1 zq1).call k
 clear k B1 cq1 fq1
 go_wp2_with fail
 refine (areGood_any _ (edgesM P) _ hE2).mono ?_
 rintro e w3 ⟨rfl,k⟩
 have B3:=bvia B2 k
 have hE3:=hE2.later k
 obtain ⟨cq3,fq3,zq3⟩:=(Blk.mk cq2 fq2 zq2).call k
 rw [c3]
 clear k B2 hE2 c3 cq2 fq2
 go_wp2_with fail
 refine (find_any q _ (edgesM P) _ hE3 hG gq).mono ?_
 rintro e w4 ⟨rfl,k⟩
 have B4:=bvia B3 k
 clear k B3 hE3 cq3 fq3
 go_wp2
 go_ret2
 exact ⟨by rw [HE.out];rfl,B4⟩
set_option maxHeartbeats 2000000 in
theorem Locate_any (v:Value)(P:List (List Pt))(q:Pt)(w:World)(hP:PolyAt w v P) :
  Calls Tryz.prog 23 #[v,q.v] w fun e w'=>e = .returned (.tuple #[.int .i64 (locM P q).1,.int .i64 (locM P q).2])/\Below w.heap.size w w':=by
 go_enter Tryz.func23,Tryz.ntmps23
 go_wp2_with fail
 refine (polyLocate_any v P q _ (hP.later ((Below.refl _ _).alloc (Nat.le_refl _) _))).mono ?_
 rintro e w1 ⟨rfl,k⟩
 have B1:=bvia ((Below.refl _ _).alloc (Nat.le_refl _) _) k
 clear k
 go_wp2
 go_ret2
 exact ⟨rfl,B1⟩
def rLocM (P:List (List Pt))(q:Pt):Int×Int:=
 if moreM 2000 P=true then (0,2)
 else if (P.flatten ++ [q]).all goodB=false then (0,3)
 else (rlocM P q,0)
set_option maxRecDepth 100000 in
set_option maxHeartbeats 4000000 in
theorem rLocate_any (v:Value)(P:List (List Pt))(q:Pt)(w:World)(hP:PolyAt w v P)(hS:∀ i,i<P.length->(P.getD i []).length<=1048576) :
  Calls Tryz.prog 24 #[v,q.v] w fun e w'=>e = .returned (.tuple #[.int .i64 (rLocM P q).1,.int .i64 (rLocM P q).2])/\Below w.heap.size w w':=by
 obtain ⟨i0,hi0,hz0,hz1,hz2⟩:=info_parts infoPoint
 have hP0:=hP
 obtain ⟨a,cap,rfl,h1,h2,h3⟩:=hP
 unfold maxLen at h2
 have hP1:PolyAt (w.alloc (.cells #[.int .i64 q.x,.int .i64 q.y,.int .i64 q.d] 31)) (.slice a P.length cap) P:=hP0.later ((Below.refl _ _).alloc (Nat.le_refl _) _)
 have HS:=hide hS
 have H3:=hide h3
 have HR:=hide (show rLocM P q=if moreM 2000 P=true then (0,2) else if (P.flatten ++ [q]).all goodB=false then (0,3) else (rlocM P q,0) from rfl)
 clear hS h3
 generalize rLocM P q=res at *
 have Q0:=Blk.new w #[.int .i64 q.x,.int .i64 q.y,.int .i64 q.d] 31
 have B0:Below w.heap.size w (w.alloc (.cells #[.int .i64 q.x,.int .i64 q.y,.int .i64 q.d] 31)):=(Below.refl _ _).alloc (Nat.le_refl _) _
 go_enter Tryz.func24,Tryz.ntmps24
 go_wp2_with fail
 generalize w.alloc (.cells #[.int .i64 q.x,.int .i64 q.y,.int .i64 q.d] 31)=W0 at *
 go_loop [6,7] (fun nv iv=>∃ (i:Nat) (n:Int),iv = .int .i64 i/\nv = .int .i64 n/\i<=P.length/\0<=n/\n<=2000/\Hid (moreM 2000 P=moreM (2000-n) (P.drop i))) (fun _ iv=>P.length-(intOf iv).toNat)
 case atStart=>exact ⟨0,0,rfl,rfl,Nat.zero_le _,by decide,by decide,rfl⟩
 case round=>
  obtain ⟨i,n,rfl,rfl,hi,hn0,hn1,HB⟩:=hrel
  by_cases hlt:i<P.length
  ·obtain ⟨b,off,rv,rfl,hb,hc,⟨a',cap',rfl,g1,g2,_⟩⟩:=H3.out i hlt
   have hsz:=HS.out i hlt
   have HC:=hide (moreM_cons (2000-n) P i hlt)
   have hc':=(B0.cell (p:=⟨b,off+i,none⟩) hb).trans hc
   generalize P.getD i []=r at *
   have hi0':(0:Int)<=(i:Int):=Int.natCast_nonneg _
   have hi1':(i:Int)<(P.length:Int):=by omega
   unfold maxLen at g2
   by_cases ht:2000-n<(r.length:Int)
   ·have HE:Hid (res=(0,2)):=HR.out.trans (if_pos (HB.out.trans (HC.out.trans (if_pos ht))))
    clear HB HC HR
    go_wp2
    go_ret2
    exact ⟨by rw [HE.out];rfl,B0⟩
   ·have HE:Hid (moreM 2000 P=moreM (2000-(n+r.length)) (P.drop (i+1))):=HB.out.trans (HC.out.trans ((if_neg ht).trans (by congr 1;omega)))
    clear HB HC
    go_wp2
    go_round
    case rel=>exact ⟨i+1,n+r.length,by go_num,rfl,by omega,by omega,by omega,HE⟩
    case measure=>simp [intOf];omega
  ·have hmo:moreM 2000 P=false:=by rw [HB.out,List.drop_of_length_le (by omega)];rfl
   have hT:P.flatten.length<=2000:=by have:=moreM_none P 2000 hmo (by decide);rw [edgesM_len] at this;omega
   have HR2:=hide (HR.out.trans (if_neg (by rw [hmo];decide)))
   have hi1' : ¬ (i:Int)<(P.length:Int):=by omega
   clear HR HB hmo
   have HL:=fun wz (hq:goodB q=true) (hG:∀ p∈P.flatten,goodB p=true) (hPz:PolyAt wz (.slice a P.length cap) P)=>rlocate_any (.slice a P.length cap) P q wz hPz (by omega) hq hG
   have C1:=points_own _ P _ hP1 (by omega)
   generalize P.flatten=F at *
   go_wp2_with fail
   refine C1.mono ?_
   rintro e w1 ⟨pv,rfl,hown,k1⟩
   have Q1:=Q0.call k1
   obtain ⟨cq,fq,zq⟩:=id Q1
   have hn1:F.length+1<=maxLen:=by unfold maxLen;omega
   have hn2:(F.length+1)*24<=140737488355328:=by omega
   have hb1:=k1.size
   have hnews:=World.news_of_block (w:=w1.alloc (.cells #[.int .i64 q.x,.int .i64 q.y,.int .i64 q.d] 31)) (cs:=#[.int .i64 q.x,.int .i64 q.y,.int .i64 q.d]) (t:=31) (fr:=(0,0)) (heap_alloc_new w1 _)
   go_wp2_with (at_builtin;refine wpList_append_lies _ rfl _ _ _ rfl W0.heap.size 31 i0 _ 3 24 Tryz.underlying57 hi0 hz0 hz1 hz2 rfl (by omega) pv F.length (ptCells F) rfl (hown.alloc _) ⟨w1.heap.size,0,none⟩ 1 1 (ptCell q) rfl rfl hnews (by simp [ptCell,Value.oneCell']) (by omega) hn1 hn2 (by simp;omega) _ rfl ?_;intro gg cp w2 hown2 hgrow hat hlt2)
   have hLR:RingAt w2 (.slice (some ⟨gg,0,none⟩) (F.length+1) cp) (F ++ [q]):=by
    have h:=ring_of_own (w:=w2) (base:=W0.heap.size) (v:=.slice (some ⟨gg,0,none⟩) (F.length+1) cp) (r:=F ++ [q]) (by
     rw [ptCells_append]
     have e1:(F ++ [q]).length=F.length+1:=by simp
     have e2:ptCells [q]=ptCell q:=by simp [ptCells]
     rw [e1,e2];exact hown2) (by simp;exact hn1)
    exact h
   have B2:Below W0.heap.size W0 w2:=Below.grown (k1.alloc k1.size _) hgrow (by simp;omega) (fun k hk=>(hown.lt k hk).1)
   have Q2:=Q0.call B2
   have B2':=bvia B0 B2
   have hP2:=hP0.later B2'
   obtain ⟨a2,cap2,e2,r1,r2,r3⟩:=hLR
   have el:(F ++ [q]).length=F.length+1:=by simp
   rw [el] at e2 r1 r3
   obtain ⟨rfl,rfl⟩:a2=some ⟨gg,0,none⟩/\cap2=cp:=by simp at e2;exact ⟨e2.1.symm,e2.2.symm⟩
   unfold maxLen at r2
   have R3:=hide r3
   have HL:=hide HL
   clear hown hown2 hgrow hat hnews C1 cq fq zq Q1 r3 e2 B2 k1 hP1 el hlt2
   generalize hLL:F ++ [q]=L at *
   go_loopw [9,10] (fun iv _ w'=>∃ j:Nat,iv = .int .i64 j/\j<=F.length+1/\Blk w' w.heap.size #[.int .i64 q.x,.int .i64 q.y,.int .i64 q.d]/\Below w.heap.size w w'/\Below w2.heap.size w2 w'/\Hid (L.all goodB=(L.drop j).all goodB)) (fun iv _ _=>F.length+1-(intOf iv).toNat)
   case atStart=>exact ⟨0,rfl,Nat.zero_le _,Q2,B2',Below.refl _ _,rfl⟩
   case round=>
    obtain ⟨j,rfl,hj,⟨cq,fq,zq⟩,hbel,hb2,HB⟩:=hrel
    have hLlen:L.length=F.length+1:=by rw [<-hLL];simp
    by_cases hjt:j<F.length+1
    ·obtain ⟨b,off,e3,hb,hp⟩:=R3.out j hjt
     simp at e3
     obtain ⟨rfl,rfl⟩:=e3
     obtain ⟨px,py,pd⟩:=hp.later hb2 hb
     have HC:=hide (all_drop goodB L j (by omega) zP)
     generalize L.getD j zP=p at *
     have hj0:(0:Int)<=(j:Int):=Int.natCast_nonneg _
     have hj1:(j:Int)<(F.length:Int)+1:=by omega
     simp only [Nat.zero_add] at px py pd
     clear hp
     go_wp2_with fail
     refine (rgood_any p _).mono ?_
     rintro e' w3 ⟨rfl,k3⟩
     have Q3:=(Blk.mk cq fq zq).call k3
     have B3:=bvia hbel k3
     have B3':=bvia hb2 k3
     clear k3 cq fq zq hbel hb2 px py pd
     cases hg:goodB p
     ·have HE:Hid (res=(0,3)):=HR2.out.trans (if_pos (HB.out.trans (HC.out.trans (by rw [hg];rfl))))
      clear HB HC
      go_wp2
      go_ret2
      exact ⟨by rw [HE.out];rfl,B3⟩
     ·have HE:Hid (L.all goodB=(L.drop (j+1)).all goodB):=HB.out.trans (HC.out.trans (by rw [hg];rfl))
      clear HB HC
      go_wp2
      go_roundw
      case rel=>exact ⟨j+1,by go_num,by omega,Q3,B3,B3',HE⟩
      case measure=>simp [intOf];omega
    ·have hall:L.all goodB=true:=by rw [HB.out,List.drop_of_length_le (by omega)];rfl
     have HE:Hid (res=(rlocM P q,0)):=HR2.out.trans (if_neg (by rw [hall];decide))
     have hall2:∀ p∈F ++ [q],goodB p=true:=by rw [hLL];exact List.all_eq_true.1 hall
     have C:=HL.out wr (hall2 q (by simp)) (fun p hp=>hall2 p (by simp [hp])) (hP0.later hbel)
     have hj1 : ¬ (j:Int)<(F.length:Int)+1:=by omega
     clear HB hall hall2 HR2
     go_wp2_with fail
     refine C.mono ?_
     rintro e' w3 ⟨rfl,k3⟩
     have B3:=bvia hbel k3
     clear k3
     go_wp2
     go_ret2
     exact ⟨by rw [HE.out];rfl,B3⟩
end Go.Proofs.YtnkcbephceollabGreat
namespace Go.Proofs.YtnkcbephceollabGreat
set_option linter.unusedVariables false
set_option linter.unusedSimpArgs false
def shP (K:Int)(v:Pt):Pt:=⟨v.x,K*v.x+v.y,v.d⟩
theorem sh_zero (K:Int):shP K zP=zP:=by simp [shP,zP]
theorem sh_det (K:Int)(a b c:Pt):detM (shP K a) (shP K b) (shP K c)=detM a b c:=by unfold detM shP;grind
theorem sh_xv (K:Int)(q v:Pt):xv (shP K q) (shP K v)=xv q v:=rfl
theorem sh_yv (K:Int)(q v:Pt):yv (shP K q) (shP K v)=K*xv q v+yv q v:=by unfold yv xv shP;grind
theorem sh_bef (K:Int)(p q:Pt):befB (shP K p) (shP K q)=befB p q:=by
 unfold befB
 have e1:(shP K p).x*(shP K q).d=p.x*q.d:=rfl
 have e2:(shP K q).x*(shP K p).d=q.x*p.d:=rfl
 have e3:(shP K p).y*(shP K q).d=K*(p.x*q.d)+p.y*q.d:=by unfold shP;grind
 have e4:(shP K q).y*(shP K p).d=K*(q.x*p.d)+q.y*p.d:=by unfold shP;grind
 rw [e1,e2,e3,e4]
 split
 ·rfl
 ·rename_i h
  have h':p.x*q.d=q.x*p.d:=by simpa using h
  rw [h']
  congr 1
  exact propext (by omega)
theorem sh_on (K:Int)(p a b:Pt):onB (shP K p) (shP K a) (shP K b)=onB p a b:=by
 unfold onB withB loM hiM
 rw [sh_det,sh_bef]
 by_cases h:befB b a=true
 ·simp only [h,if_true,sh_bef]
 ·simp only [h,if_false,sh_bef,Bool.false_eq_true]
theorem sh_cross (K:Int)(o q a b:Pt):crossB (shP K o) (shP K q) (shP K a) (shP K b)=crossB o q a b:=by
 unfold crossB;simp only [sh_det]
theorem sh_up {K:Int}{q v:Pt}(h1 : -K<yv q v)(h2:yv q v<K):upB false (shP K q) (shP K v)=befB q v:=by
 have e:upB false (shP K q) (shP K v)=decide (0<K*xv q v+yv q v):=by unfold upB;rw [sh_yv];simp
 rw [e]
 have b:=bef_iff q v
 have k:befB q v=true↔(0<xv q v\/(xv q v=0/\0<yv q v)):=by rw [b];unfold xv yv;omega
 have hK:0<K:=by omega
 have f:0<K*xv q v+yv q v↔(0<xv q v\/(xv q v=0/\0<yv q v)):=by
  rcases Int.lt_trichotomy (xv q v) 0 with h | h | h
  ·have:K*(xv q v+1)<=0:=mul_gl (Int.le_of_lt hK) (by omega)
   have e2:K*(xv q v+1)=K*xv q v+K:=by grind
   constructor
   ·intro x;omega
   ·intro x;omega
  ·rw [h,Int.mul_zero];omega
  ·have:0<=K*(xv q v-1):=mul_gg (Int.le_of_lt hK) (by omega)
   have e2:K*(xv q v-1)=K*xv q v-K:=by grind
   constructor
   ·intro x;exact .inl h
   ·intro x;omega
 cases hb:befB q v
 ·rw [hb] at k
  simp
  have : ¬ (0<K*xv q v+yv q v):=fun x=>by have:=k.2 (f.1 x);cases this
  omega
 ·simp;exact f.2 (k.1 hb)
def shL (K:Int)(P:List (List Pt)):List (List Pt):=P.map (List.map (shP K))
theorem sh_ring (K:Int)(r:List Pt):ringEdges (r.map (shP K))=(ringEdges r).map (fun e=>(shP K e.1,shP K e.2)):=by
 have g:∀ j,(r.map (shP K)).getD j zP=shP K (r.getD j zP):=fun j=>by
  rw [List.getD_eq_getElem?_getD,List.getD_eq_getElem?_getD,List.getElem?_map]
  cases r[j]? with
  | none=>simp [sh_zero]
  | some v=>rfl
 unfold ringEdges edgeAt
 rw [List.map_map,List.length_map]
 refine List.map_congr_left fun j _=>?_
 simp only [g,Function.comp]
theorem sh_edges (K:Int)(P:List (List Pt)):edgesM (shL K P)=(edgesM P).map (fun e=>(shP K e.1,shP K e.2)):=by
 induction P with
 | nil=>rfl
 | cons r P ih=>
  have e1:edgesM (r::P)=ringEdges r ++ edgesM P:=by simp [edgesM]
  have e2:edgesM (shL K (r::P))=ringEdges (r.map (shP K)) ++ edgesM (shL K P):=by simp [edgesM,shL]
  rw [e1,e2,ih,sh_ring,List.map_append]
theorem parB_map (f:Pt->Pt->Bool)(g:Pt->Pt):∀ l,parB f (l.map (fun e=>(g e.1,g e.2)))=parB (fun a b=>f (g a) (g b)) l
 | []=>rfl
 | e::l=>by simp only [List.map_cons,parB,parB_map f g l]
def overB (q a b:Pt):Bool:=(!befB q a && befB q b && decide (detM a b q<0)) || (befB q a && !befB q b && decide (0<detM a b q))
theorem enough (q:Pt):∀ l:List Pt,∃ K:Int,∀ v∈l,-K<yv q v/\yv q v<K
 | []=>⟨0,fun v hv=>by cases hv⟩
 | v::l=>by
  obtain ⟨K,h⟩:=enough q l
  refine ⟨(if K<0 then 0 else K)+(yv q v).natAbs+1,fun u hu=>?_⟩
  rcases List.mem_cons.1 hu with rfl | hu
  ·split <;> omega
  ·have:=h u hu;split <;> omega
theorem sh_left {K:Int}{q a b:Pt}(ha : -K<yv q a/\yv q a<K)(hb : -K<yv q b/\yv q b<K):leftB false (shP K q) (shP K a) (shP K b)=overB q a b:=by
 unfold leftB overB
 rw [sh_up ha.1 ha.2,sh_up hb.1 hb.2,sh_det]
theorem mem_sh {K:Int}{P:List (List Pt)}{v:Pt}(h:v∈(shL K P).flatten):∃ u∈P.flatten,v=shP K u:=by
 obtain ⟨r,hr,hv⟩:=List.mem_flatten.1 h
 unfold shL at hr
 obtain ⟨r',hr',rfl⟩:=List.mem_map.1 hr
 obtain ⟨u,hu,rfl⟩:=List.mem_map.1 hv
 exact ⟨u,List.mem_flatten.2 ⟨r',hr',hu⟩,rfl⟩
theorem parity_up {o q:Pt}{P:List (List Pt)}(ho:0<o.d)(hq:0<q.d)(hd:∀ v∈P.flatten,0<v.d)(hl:∀ v∈P.flatten,0<xv o v)(hA:∀ v∈P.flatten,detM o q v≠0)(hon:∀ e∈edgesM P,onB q e.1 e.2=false) :
  parB (crossB o q) (edgesM P)=parB (overB q) (edgesM P):=by
 obtain ⟨K,hK⟩:=enough q P.flatten
 have on':∀ e∈edgesM (shL K P),onB (shP K q) e.1 e.2=false:=fun e he=>by
  rw [sh_edges] at he
  obtain ⟨e',he',rfl⟩:=List.mem_map.1 he
  rw [sh_on];exact hon e' he'
 have hd':∀ v∈(shL K P).flatten,0<v.d:=fun v hv=>by
  obtain ⟨u,hu,rfl⟩:=mem_sh hv
  exact hd u hu
 have p:=parity false (o:=shP K o) (q:=shP K q) (P:=shL K P) ho hq hd'
  (fun v hv=>by obtain ⟨u,hu,rfl⟩:=mem_sh hv;rw [sh_xv];exact hl u hu)
  (fun v hv=>by obtain ⟨u,hu,rfl⟩:=mem_sh hv;rw [sh_det];exact hA u hu) on'
 have p2:=left_right false (q:=shP K q) (P:=shL K P) hq hd' on'
 rw [<-p2,sh_edges,parB_map,parB_map] at p
 have c1:parB (fun a b=>crossB (shP K o) (shP K q) (shP K a) (shP K b)) (edgesM P)=parB (crossB o q) (edgesM P):=parB_congr fun e _=>sh_cross ..
 have c2:parB (fun a b=>leftB false (shP K q) (shP K a) (shP K b)) (edgesM P)=parB (overB q) (edgesM P):=parB_congr fun e he=>by
  obtain ⟨m1,m2⟩:=edge_ends he
  exact sh_left (hK _ m1) (hK _ m2)
 rw [c1,c2] at p
 exact p
theorem cmpB (p q:Pt):decide (cmpM p q<0)=befB p q:=by
 unfold cmpM befB
 by_cases h:p.x*q.d=q.x*p.d
 ·rw [if_neg (by omega),if_neg (by simpa using h)];congr 1;exact propext (by omega)
 ·rw [if_pos (by omega),if_pos (by simpa using h)];congr 1;exact propext (by omega)
theorem cmpB' (p q:Pt):decide (0<cmpM p q)=befB q p:=by
 unfold cmpM befB
 by_cases h:p.x*q.d=q.x*p.d
 ·rw [if_neg (by omega),if_neg (by simpa using h.symm)];congr 1;exact propext (by omega)
 ·rw [if_pos (by omega),if_pos (by simpa using fun e=>h e.symm)];congr 1;exact propext (by omega)
theorem first_eq (a b:Pt):firstM a b=if befB b a=true then b else a:=by
 unfold firstM;rw [<-cmpB];simp
theorem last_eq (a b:Pt):lastM a b=if befB a b=true then b else a:=by
 unfold lastM;rw [<-cmpB'];simp
theorem bef_irr (p:Pt):befB p p=false:=by rw [bef_false];omega
theorem bef_asym {p q:Pt}(h:befB p q=true):befB q p=false:=by
 rw [bef_iff] at h;rw [bef_false];omega
section
variable {a b q:Pt}(ha:0<a.d)(hb:0<b.d)(hq:0<q.d)
include ha hb hq
theorem bef_same_r (h1:befB a b=false)(h2:befB b a=false):befB q a=befB q b:=by
 cases k:befB q a
 ·cases k2:befB q b
  ·rfl
  ·have:=bef_le hq hb ha k2 h1;rw [k] at this;cases this
 ·exact (bef_le hq ha hb k h2).symm
theorem bef_same_l (h1:befB a b=false)(h2:befB b a=false):befB a q=befB b q:=by
 cases k:befB a q
 ·cases k2:befB b q
  ·rfl
  ·have:=le_bef ha hb hq h2 k2;rw [k] at this;cases this
 ·exact (le_bef hb ha hq h1 k).symm
theorem bef_lt (h:befB a b=true)(h2:befB q a=true):befB q b=true:=bef_le hq ha hb h2 (bef_asym h)
theorem has_on:hasM a b q=onB q a b:=by
 unfold hasM onB withB sideM loM hiM
 rw [cmpB,cmpB']
 by_cases h:befB b a=true
 ·have h':=bef_asym h
  rw [first_eq,last_eq,if_pos h,if_neg (by rw [h'];decide),if_pos h]
  have e:decide (detM b a q=0)=decide (detM a b q=0):=by rw [det_sw2];congr 1;exact propext (by omega)
  rw [e]
  cases befB q b <;> cases befB a q <;> cases decide (detM a b q=0) <;> rfl
 ·have h0:befB b a=false:=by simpa using h
  by_cases h2:befB a b=true
  ·rw [first_eq,last_eq,if_neg h,if_pos h2,if_neg h]
   cases befB q a <;> cases befB b q <;> cases decide (detM a b q=0) <;> rfl
  ·have h2':befB a b=false:=by simpa using h2
   rw [first_eq,last_eq,if_neg h,if_neg h2,if_neg h]
   have e1:=bef_same_l ha hb hq h2' h0
   rw [e1]
   have z1:detM a a q=0:=by unfold detM;grind
   have z2:detM a b q=0:=by
    rw [bef_false] at h0 h2'
    have ex:a.x*b.d=b.x*a.d:=by omega
    have ey:a.y*b.d=b.y*a.d:=by omega
    have k:a.d*detM a b q=0:=by
     have:a.d*detM a b q=(a.x*b.d-b.x*a.d)*(a.d*q.y)*(-1)+(a.y*b.d-b.y*a.d)*(a.d*q.x)+(a.x*(b.y*a.d)-a.y*(b.x*a.d))*q.d:=by unfold detM;grind
     rw [this,<-ex,<-ey]
     grind
    rcases Int.mul_eq_zero.1 k with c | c
    ·omega
    ·exact c
   rw [z1,z2]
   cases befB q a <;> cases befB b q <;> rfl
theorem over_eq:overM a b q=overB q a b:=by
 unfold overM spanM sideM overB
 rw [cmpB,cmpB]
 by_cases h:befB b a=true
 ·have h':=bef_asym h
  rw [first_eq,last_eq,if_pos h,if_neg (by rw [h'];decide)]
  have e:decide (detM b a q<0)=decide (0<detM a b q):=by rw [det_sw2];congr 1;exact propext (by omega)
  rw [e]
  have m:=fun k=>bef_lt hb ha hq h (q:=q) k
  cases ka:befB q a <;> cases kb:befB q b
  ·simp
  ·have:=m kb;rw [ka] at this;cases this
  ·simp
  ·simp
 ·have h0:befB b a=false:=by simpa using h
  by_cases h2:befB a b=true
  ·rw [first_eq,last_eq,if_neg h,if_pos h2]
   have m:=fun k=>bef_lt ha hb hq h2 (q:=q) k
   cases ka:befB q a <;> cases kb:befB q b
   ·simp
   ·simp
   ·have:=m ka;rw [kb] at this;cases this
   ·simp
  ·have h2':befB a b=false:=by simpa using h2
   rw [first_eq,last_eq,if_neg h,if_neg h2,bef_same_r ha hb hq h2' h0]
   cases befB q b <;> simp
end
theorem whereM_eq (q:Pt):∀ (E:List (Pt×Pt)) (n:Int),n=0\/n=1->E.any (fun e=>hasM e.1 e.2 q)=false->whereM q n E=if (parB (fun a b=>overM a b q) E ^^ decide (n=1))=true then 1 else 0
 | [],n,hn,_=>by rcases hn with rfl | rfl <;> rfl
 | e::E,n,hn,h=>by
  simp only [List.any_cons,Bool.or_eq_false_iff] at h
  have ew:whereM q n (e::E)=if hasM e.1 e.2 q=true then 2 else whereM q (if overM e.1 e.2 q=true then otherM n else n) E:=rfl
  have ep:parB (fun a b=>overM a b q) (e::E)=(overM e.1 e.2 q ^^ parB (fun a b=>overM a b q) E):=rfl
  rw [ew,ep,if_neg (by rw [h.1];decide)]
  by_cases ho:overM e.1 e.2 q=true
  case neg=>
   have ho':overM e.1 e.2 q=false:=by simpa using ho
   rw [if_neg ho,ho',whereM_eq q E n hn h.2,Bool.false_xor]
  case pos=>
   rw [if_pos ho,ho,whereM_eq q E (otherM n) (by rcases hn with rfl | rfl <;> simp [otherM]) h.2,Bool.true_xor]
   rcases hn with rfl | rfl
   ·have:otherM 0=1:=rfl
    rw [this];cases parB (fun a b=>overM a b q) E <;> rfl
   ·have:otherM 1=0:=rfl
    rw [this];cases parB (fun a b=>overM a b q) E <;> rfl
theorem whereM_two (q:Pt):∀ (E:List (Pt×Pt)) (n:Int),E.any (fun e=>hasM e.1 e.2 q)=true->whereM q n E=2
 | [],n,h=>by simp at h
 | e::E,n,h=>by
  simp only [whereM]
  split
  ·rfl
  ·rename_i k
   exact whereM_two q E _ (by simpa [k] using h)
theorem pigeon:∀ (L:List (Nat->Bool)) (S:List Nat),S.Nodup->(∀ b∈L,∀ i j,b i=true->b j=true->i=j)->L.length<S.length->∃ k∈S,∀ b∈L,b k=false
 | [],S,_,_,h=>by
  cases S with
  | nil=>simp at h
  | cons k S=>exact ⟨k,List.mem_cons_self ..,fun b hb=>by cases hb⟩
 | b::L,S,hS,hb,h=>by
  have hc:S.countP b<=1:=by
   clear h
   induction S with
   | nil=>simp
   | cons x S ih=>
    rw [List.countP_cons]
    have hx:=List.nodup_cons.1 hS
    cases hbx:b x
    ·simpa using ih hx.2
    ·have z:S.countP b=0:=by
      rw [List.countP_eq_zero]
      intro y hy k
      have:=hb b (List.mem_cons_self ..) x y hbx k
      subst this
      exact hx.1 hy
     simp [z]
  have hl:(S.filter (fun k=>!b k)).length+S.countP b=S.length:=by
   rw [<-List.countP_eq_length_filter,Nat.add_comm]
   have:=List.length_eq_countP_add_countP b (l:=S)
   simp only [Bool.not_eq_true] at this
   have e:S.countP (fun k=>!b k)=S.countP (fun a=>decide (b a=false)):=by
    congr 1;funext k;cases b k <;> rfl
   rw [e];omega
  obtain ⟨k,hk,hf⟩:=pigeon L (S.filter (fun k=>!b k)) (hS.filter _) (fun c hc=>hb c (List.mem_cons_of_mem _ hc)) (by simp only [List.length_cons] at h;omega)
  obtain ⟨hk1,hk2⟩:=List.mem_filter.1 hk
  refine ⟨k,hk1,fun c hc=>?_⟩
  rcases List.mem_cons.1 hc with rfl | hc
  ·simpa using hk2
  ·exact hf c hc
theorem farL_free (f:Nat->Bool):∀ n k,(∃ j,k<=j/\j<k+n/\f j=true)->∃ j,f j=true/\farL f n k=outP j
 | 0,k,⟨j,h1,h2,_⟩=>by omega
 | n+1,k,⟨j,h1,h2,h3⟩=>by
  unfold farL
  cases hk:f k
  ·rw [if_neg (by decide)]
   have:j≠k:=fun e=>by rw [e,hk] at h3;cases h3
   exact farL_free f n (k+1) ⟨j,by omega,by omega,h3⟩
  ·exact ⟨k,hk,rfl⟩
theorem out_xv {q:Pt}(k:Nat)(h:goodB q=true):0<xv (outP k) q/\xv q (outP k)<0:=by
 have:=of_decide_eq_true h
 unfold xv outP;simp only [Int.mul_one];constructor <;> omega
theorem det_out (k:Nat)(q v:Pt):detM (outP k) q v=detM (outP 0) q v+k*xv q v:=by
 unfold detM outP xv;simp only [Int.natCast_zero];grind
theorem bar_one {q v:Pt}(hq:goodB q=true)(hv:0<v.d)(hne : ¬ (xv q v=0/\yv q v=0))(i j:Nat)(h1:detM (outP i) q v=0)(h2:detM (outP j) q v=0):i=j:=by
 have hd:0<q.d:=by have:=of_decide_eq_true hq;omega
 by_cases hx:xv q v=0
 ·exfalso
  have e:=id5 (outP i) q v
  rw [h1,hx,Int.mul_zero,Int.mul_zero,Int.zero_sub] at e
  have o:=(out_xv i hq).2
  have z:xv q (outP i)*yv q v=0:=by omega
  rcases Int.mul_eq_zero.1 z with c | c
  ·omega
  ·exact hne ⟨hx,c⟩
 ·rw [det_out] at h1 h2
  have z:((i:Int)-j)*xv q v=0:=by rw [Int.sub_mul];omega
  rcases Int.mul_eq_zero.1 z with c | c
  ·omega
  ·exact absurd c hx
theorem bar_edge {p r:Pt}(hx:xv p r≠0)(i j:Nat)(h1:detM p r (outP i)=0)(h2:detM p r (outP j)=0):i=j:=by
 have e:∀ k:Nat,detM p r (outP k)=detM p r (outP 0)+k*xv p r:=fun k=>by
  unfold detM outP xv;simp only [Int.natCast_zero];grind
 rw [e] at h1 h2
 have z:((i:Int)-j)*xv p r=0:=by rw [Int.sub_mul];omega
 rcases Int.mul_eq_zero.1 z with c | c
 ·omega
 ·exact absurd c hx
theorem far_free {q:Pt}{l:List Pt}{p r:Pt}(hq:goodB q=true)(hv:∀ v∈l,0<v.d)(hne:∀ v∈l,¬ (xv q v=0/\yv q v=0))(hx:xv p r≠0) :
  ∃ k,farM q l p r=outP k/\(∀ v∈l,detM (outP k) q v≠0)/\detM p r (outP k)≠0:=by
 obtain ⟨k,hk,hf⟩:=pigeon ((fun k=>decide (detM p r (outP k)=0))::l.map (fun v k=>decide (detM (outP k) q v=0))) (List.range (l.length+2)) List.nodup_range (by
  intro b hb i j h1 h2
  rcases List.mem_cons.1 hb with rfl | hb
  ·exact bar_edge hx i j (of_decide_eq_true h1) (of_decide_eq_true h2)
  ·obtain ⟨v,hv',rfl⟩:=List.mem_map.1 hb
   exact bar_one hq (hv v hv') (hne v hv') i j (of_decide_eq_true h1) (of_decide_eq_true h2)) (by simp)
 have hk':k<l.length+2:=by simpa using hk
 have fr:freeB q l p r k=true:=by
  unfold freeB
  rw [Bool.and_eq_true,List.all_eq_true]
  refine ⟨fun v hv'=>?_,?_⟩
  ·have:=hf _ (List.mem_cons_of_mem _ (List.mem_map.2 ⟨v,hv',rfl⟩))
   exact decide_eq_true (of_decide_eq_false this)
  ·have:=hf _ (List.mem_cons_self ..)
   exact decide_eq_true (of_decide_eq_false this)
 obtain ⟨j,hj,e⟩:=farL_free (freeB q l p r) (l.length+2) 0 ⟨k,Nat.zero_le _,by omega,fr⟩
 refine ⟨j,e,?_⟩
 unfold freeB at hj
 rw [Bool.and_eq_true,List.all_eq_true] at hj
 exact ⟨fun v hv'=>of_decide_eq_true (hj.1 v hv'),of_decide_eq_true hj.2⟩
theorem on_first {q a b:Pt}(ha:0<a.d)(hb:0<b.d)(hq:0<q.d)(h1:xv q a=0)(h2:yv q a=0):onB q a b=true:=by
 have b1:befB q a=false:=by rw [bef_x];omega
 have b2:befB a q=false:=by rw [bef_x'];omega
 have z:detM a b q=0:=by
  have e:=id4 q a b
  rw [h1,h2,Int.zero_mul,Int.mul_zero,Int.sub_zero] at e
  rcases Int.mul_eq_zero.1 e with c | c
  ·omega
  ·exact c
 unfold onB
 rw [z]
 cases k:befB q b
 · -- q is not ahead of b: it lies between b and a
  rw [with_ba hq ha hb k b2];rfl
 ·have b3:befB b q=false:=bef_asym k
  rw [with_ab hq ha hb b1 b3];rfl
theorem rlocM_eq (P:List (List Pt))(q:Pt)(hq:goodB q=true)(hG:∀ p∈P.flatten,goodB p=true):rlocM P q=whereM q 0 (edgesM P):=by
 have hd:∀ v,goodB v=true->0<v.d:=fun v h=>by have:=of_decide_eq_true h;omega
 have eany:(edgesM P).any (fun e=>hasM e.1 e.2 q)=(edgesM P).any (fun e=>onB q e.1 e.2):=by
  refine Bool.eq_iff_iff.2 ?_
  simp only [List.any_eq_true]
  constructor
  ·rintro ⟨e,he,h⟩
   obtain ⟨m1,m2⟩:=edge_ends he
   exact ⟨e,he,by rw [<-has_on (hd _ (hG _ m1)) (hd _ (hG _ m2)) (hd _ hq)];exact h⟩
  ·rintro ⟨e,he,h⟩
   obtain ⟨m1,m2⟩:=edge_ends he
   exact ⟨e,he,by rw [has_on (hd _ (hG _ m1)) (hd _ (hG _ m2)) (hd _ hq)];exact h⟩
 unfold rlocM
 cases h:(edgesM P).any (fun e=>onB q e.1 e.2)
 case true=>rw [if_pos rfl,whereM_two q _ _ (eany.trans h)]
 case false=>
  rw [if_neg (by decide),whereM_eq q _ 0 (.inl rfl) (eany.trans h)]
  have hon:∀ e∈edgesM P,onB q e.1 e.2=false:=fun e he=>by
   cases k:onB q e.1 e.2
   ·rfl
   ·have:(edgesM P).any (fun e=>onB q e.1 e.2)=true:=List.any_eq_true.2 ⟨e,he,k⟩
    rw [h] at this;cases this
  have hne:∀ v∈P.flatten,¬ (xv q v=0/\yv q v=0):=fun v hv ⟨h1,h2⟩=>by
   obtain ⟨e,he,rfl⟩:=first_edge hv
   have:=on_first (hd _ (hG _ hv)) (hd _ (hG _ (edge_ends he).2)) (hd _ hq) h1 h2 (b:=e.2)
   rw [hon e he] at this;cases this
  have hxr:xv q (rightP q)≠0:=by
   have h0:=hd _ hq
   have e:xv q (rightP q)=q.d*q.d:=by unfold xv rightP;grind
   rw [e]
   have:=mul_pp h0 h0
   omega
  obtain ⟨k,hk,hA,_⟩:=far_free (p:=q) (r:=rightP q) hq (fun v hv=>hd _ (hG v hv)) hne hxr
  rw [hk]
  have par:=parity_up (o:=outP k) (q:=q) (P:=P) (by simp [outP]) (hd _ hq) (fun v hv=>hd _ (hG v hv)) (fun v hv=>(out_xv k (hG v hv)).1) hA hon
  have e2:parB (fun a b=>overM a b q) (edgesM P)=parB (overB q) (edgesM P):=parB_congr fun e he=>by
   obtain ⟨m1,m2⟩:=edge_ends he
   exact over_eq (hd _ (hG _ m1)) (hd _ (hG _ m2)) (hd _ hq)
  rw [e2,<-par,parB_count]
  unfold nCross
  by_cases c:(edgesM P).countP (fun e=>crossB (outP k) q e.1 e.2) % 2=1
  ·rw [if_pos c];simp [c]
  ·rw [if_neg c];simp [c]
theorem locM_eq (P:List (List Pt))(q:Pt):rLocM P q=locM P q:=by
 unfold rLocM locM
 cases h:moreM 2000 P
 case true=>rfl
 case false=>
  rw [if_neg (show ¬ (false=true) by decide),if_neg (show ¬ (false=true) by decide)]
  rw [List.all_append,all_firsts]
  cases hF:P.flatten.all goodB
  ·cases hq:goodB q <;> simp [hq]
  ·cases hq:goodB q
   ·simp [hq]
   ·have e:=rlocM_eq P q hq (fun p hp=>List.all_eq_true.1 hF p hp)
    rw [e]
    simp [hq]
end Go.Proofs.YtnkcbephceollabGreat
