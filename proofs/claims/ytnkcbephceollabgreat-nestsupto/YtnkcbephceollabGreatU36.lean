import Derived.Test.YtnkcbephceollabGreatU30
import Derived.Test.YtnkcbephceollabGreatU35
namespace Go.Proofs.YtnkcbephceollabGreat
open Go.RowKit
set_option linter.unusedSimpArgs false
set_option linter.unusedVariables false
set_option maxHeartbeats 1000000 in
theorem rIn_any (op:Int)(a b:Bool)(w:World) :
  Calls Tryz.prog 97 #[.int .i64 op,.bool a,.bool b] w fun e w'=>e = .returned (.bool (inM op a b))/\w'=w:=by
 by_cases h0:op=0
 ·subst h0
  cases a <;> cases b <;>
   (go_enter Tryz.func97,Tryz.ntmps97
    go_wp2
    go_ret
    exact ⟨rfl,rfl⟩)
 by_cases h1:op=1
 ·subst h1
  cases a <;> cases b <;>
   (go_enter Tryz.func97,Tryz.ntmps97
    go_wp2
    go_ret
    exact ⟨rfl,rfl⟩)
 by_cases h2:op=2
 ·subst h2
  cases a <;> cases b <;>
   (go_enter Tryz.func97,Tryz.ntmps97
    go_wp2
    go_ret
    exact ⟨rfl,rfl⟩)
 by_cases h3:op=3
 ·subst h3
  cases a <;> cases b <;>
   (go_enter Tryz.func97,Tryz.ntmps97
    go_wp2
    go_ret
    exact ⟨rfl,rfl⟩)
 ·have H:Hid (inM op a b=(a != b)):=by unfold inM;rw [if_neg h0,if_neg h1,if_neg h2,if_neg h3];exact hide rfl
  go_enter Tryz.func97,Tryz.ntmps97
  go_wp2
  go_ret
  exact ⟨ret_bool H.out.symm,rfl⟩
set_option maxHeartbeats 1000000 in
theorem rbetween_any (v z y x:Pt)(w:World)(hv:Gd v)(hz:Gd z)(hy:Gd y)(hx:Gd x) :
  Calls Tryz.prog 121 #[v.v,z.v,y.v,x.v] w fun e w'=>e = .returned (.bool (betM v z y x))/\Below w.heap.size w w':=by
 have HA:=hide (show betM v z y x=(if detM v z y<0 then decide (detM v z x<0) && decide (detM v x y<0)
  else if detM v z y=0 then decide (detM v z x<0)
  else !(decide (detM v x y=0) && decide (detM v z x > 0)) && !(decide (detM v z x=0) && decide (detM v x y > 0)) && !(decide (detM v x y > 0) && decide (detM v z x > 0))) from rfl)
 generalize betM v z y x=res at *
 have C1:=fun wz=>rdet_any v z y wz hv hz hy
 have C2:=fun wz=>rdet_any v z x wz hv hz hx
 have C3:=fun wz=>rdet_any v x y wz hv hx hy
 generalize detM v z y=k at *
 generalize detM v z x=l at *
 generalize detM v x y=m at *
 go_enter Tryz.func121,Tryz.ntmps121
 go_wp2_with fail
 refine (C1 _).mono ?_
 rintro e' w1 ⟨rfl,k1⟩
 have B1:=bvia ((below3 _ _ _ _).alloc (by simp;omega) _) k1
 have V1:=((((Blk.new w _ _).alloc _).alloc _).alloc _).call k1
 have Z1:=(((Blk.at (w.heap.size+1) (by simp)).alloc _).alloc _).call k1
 have Y1:=((Blk.at (w.heap.size+1+1) (by simp)).alloc _).call k1
 have X1:=(Blk.at (w.heap.size+1+1+1) (by simp)).call k1
 obtain ⟨cv,fv,zv⟩:=id V1
 obtain ⟨cz,fz,zz⟩:=id Z1
 obtain ⟨cy,fy,zy⟩:=id Y1
 obtain ⟨cx,fx,zx⟩:=id X1
 clear k1
 go_wp2_with fail
 refine (C2 _).mono ?_
 rintro e' w2 ⟨rfl,k1⟩
 have B2:=bvia B1 k1
 have V2:=V1.call k1
 have Z2:=Z1.call k1
 have Y2:=Y1.call k1
 have X2:=X1.call k1
 clear k1 cv fv zv cz fz zz cy fy zy cx fx zx V1 Z1 Y1 X1 B1
 obtain ⟨cv,fv,zv⟩:=id V2
 obtain ⟨cz,fz,zz⟩:=id Z2
 obtain ⟨cy,fy,zy⟩:=id Y2
 obtain ⟨cx,fx,zx⟩:=id X2
 go_wp2_with fail
 refine (C3 _).mono ?_
 rintro e' w3 ⟨rfl,k1⟩
 have B3:=bvia B2 k1
 clear k1 cv fv zv cz fz zz cy fy zy cx fx zx V2 Z2 Y2 X2 B2 C1 C2 C3
 rcases Int.lt_trichotomy k 0 with h1 | h1 | h1
 ·rw [if_pos h1] at HA
  rcases Int.lt_trichotomy l 0 with h2 | h2 | h2 <;> rcases Int.lt_trichotomy m 0 with h3 | h3 | h3
  all_goals (go_wp2;go_ret;exact ⟨ret_bool (by rw [HA.out];clear HA;first | (simp;done) | (simp;omega) | (rw [Bool.eq_iff_iff];simp;omega) | (simp (disch:=omega) [h2,h3,Int.lt_asymm];done)),B3⟩)
 ·rw [if_neg (by omega),if_pos h1] at HA
  rcases Int.lt_trichotomy l 0 with h2 | h2 | h2
  all_goals (go_wp2;go_ret;exact ⟨ret_bool (by first | exact HA.out.symm | (rw [HA.out];simp;done) | (rw [HA.out];simp;omega)),B3⟩)
 ·rw [if_neg (by omega),if_neg (by omega)] at HA
  rcases Int.lt_trichotomy l 0 with h2 | h2 | h2 <;> rcases Int.lt_trichotomy m 0 with h3 | h3 | h3
  all_goals (go_wp2;go_ret;exact ⟨ret_bool (by rw [HA.out];clear HA;first | (simp;done) | (simp;omega) | (rw [Bool.eq_iff_iff];simp;omega) | (simp (disch:=omega) [h2,h3,Int.lt_asymm];done)),B3⟩)
set_option maxRecDepth 100000 in
set_option maxHeartbeats 2000000 in
theorem rborders_any (op:Int)(v:Value)(l:List Pc)(w:World)(hl:PcsAt w v l)(hn:l.length<=1000000) :
  Calls Tryz.prog 54 #[.int .i64 op,v] w fun e w'=>∃ v',e = .returned v'/\w'.ownsRow w.heap.size 73 6 v' (bordM op l).length (segCells (bordM op l))/\Below w.heap.size w w':=by
 obtain ⟨i0,hi0',hz0,hz1,hz2⟩:=info_parts infoEdge
 obtain ⟨a,cap,rfl,a1,a2,a3⟩:=hl
 unfold maxLen at a2
 have HA:=hide a3
 clear a3
 go_enter Tryz.func54,Tryz.ntmps54
 go_wp2_with fail
 go_loopw [5,6,7,8] (fun bv iv _ _ w'=>∃ k:Nat,iv = .int .i64 k/\k<=l.length/\w'.ownsRow w.heap.size 73 6 bv (bordM op (l.take k)).length (segCells (bordM op (l.take k)))/\Below w.heap.size w w') (fun _ iv _ _ _=>l.length-(intOf iv).toNat)
 case atStart=>exact ⟨0,rfl,Nat.zero_le _,World.ownsRow_nil _ _ _ _,Below.refl _ _⟩
 case round=>
  obtain ⟨k,rfl,hk,hO,hbel⟩:=hrel
  by_cases hlt:k<l.length
  ·obtain ⟨b,off,rfl,hb,hs⟩:=HA.out k hlt
   have hs':=hs.later hbel hb
   have HB:=hide (bord_take op l k hlt zPc)
   have hDl:(bordM op (l.take k)).length<=k:=Nat.le_trans (bord_len op _) (by simp;omega)
   generalize l.getD k zPc=x at *
   have c0:=hs' 0 (by decide)
   have c1:=hs' 1 (by decide)
   have c2:=hs' 2 (by decide)
   have c3:=hs' 3 (by decide)
   have c4:=hs' 4 (by decide)
   have c5:=hs' 5 (by decide)
   have c6:=hs' 6 (by decide)
   have c7:=hs' 7 (by decide)
   have c8:=hs' 8 (by decide)
   have c9:=hs' 9 (by decide)
   simp only [pcCell,Nat.add_zero,List.getElem?_cons_zero,List.getElem?_cons_succ] at c0 c1 c2 c3 c4 c5 c6 c7 c8 c9
   have HS:=hide hs
   have BB:=hide hbel
   have OO:=hide hO
   have hi0:(0:Int)<=(k:Int):=Int.natCast_nonneg _
   have hi1:(k:Int)<(l.length:Int):=by omega
   clear hs hs' hO hbel HA
   go_wp2_with fail
   go_quiet ((go_at_call 97;exact Calls.quiet_of_same (rIn_any _ _ _ _)))
   obtain ⟨W2,hW2⟩:∃ W,W=wr.drewN nq:=⟨_,rfl⟩
   have hs2:=HS.out.later (below_drewN BB.out nq) hb
   have B2:Hid (Below w.heap.size w W2):=by rw [hW2];exact hide (below_drewN BB.out nq)
   have O2:Hid (W2.ownsRow w.heap.size 73 6 u5 (bordM op (l.take k)).length (segCells (bordM op (l.take k)))):=by rw [hW2];exact OO
   rw [<-hW2] at hs2 ⊢
   clear hW2 BB OO c0 c1 c2 c3 c4 c5 c6 c7 c8 c9 nq
   have c0:=hs2 0 (by decide)
   have c1:=hs2 1 (by decide)
   have c2:=hs2 2 (by decide)
   have c3:=hs2 3 (by decide)
   have c4:=hs2 4 (by decide)
   have c5:=hs2 5 (by decide)
   have c6:=hs2 6 (by decide)
   have c7:=hs2 7 (by decide)
   have c8:=hs2 8 (by decide)
   have c9:=hs2 9 (by decide)
   simp only [pcCell,Nat.add_zero,List.getElem?_cons_zero,List.getElem?_cons_succ] at c0 c1 c2 c3 c4 c5 c6 c7 c8 c9
   clear hs2
   go_wp2_with fail
   go_quiet ((go_at_call 97;exact Calls.quiet_of_same (rIn_any _ _ _ _)))
   obtain ⟨W3,hW3⟩:∃ W,W=W2.drewN nq:=⟨_,rfl⟩
   have hs2:=HS.out.later (below_drewN B2.out nq) hb
   have B1:Hid (Below w.heap.size w W3):=by rw [hW3];exact hide (below_drewN B2.out nq)
   have O1:Hid (W3.ownsRow w.heap.size 73 6 u5 (bordM op (l.take k)).length (segCells (bordM op (l.take k)))):=by rw [hW3];exact O2
   rw [<-hW3] at hs2 ⊢
   clear hW3 B2 O2 c0 c1 c2 c3 c4 c5 c6 c7 c8 c9 nq HS W2
   have c0:=hs2 0 (by decide)
   have c1:=hs2 1 (by decide)
   have c2:=hs2 2 (by decide)
   have c3:=hs2 3 (by decide)
   have c4:=hs2 4 (by decide)
   have c5:=hs2 5 (by decide)
   have c6:=hs2 6 (by decide)
   have c7:=hs2 7 (by decide)
   have c8:=hs2 8 (by decide)
   have c9:=hs2 9 (by decide)
   simp only [pcCell,Nat.add_zero,List.getElem?_cons_zero,List.getElem?_cons_succ] at c0 c1 c2 c3 c4 c5 c6 c7 c8 c9
   clear hs2
   have hzz:=B1.out.size
   cases eL:inM op x.la x.lb
   ·cases eR:inM op x.ra x.rb
    ·skip
     have HN:Hid (bordM op (l.take (k+1))=bordM op (l.take k)):=by rw [HB.out];unfold bordOf;rw [eL,eR];exact hide (List.append_nil _)
     clear HB
     have O4:Hid (W3.ownsRow w.heap.size 73 6 u5 (bordM op (l.take (k+1))).length (segCells (bordM op (l.take (k+1))))):=by rw [HN.out];exact O1
     go_wp2
     go_roundw
     case rel=>exact ⟨k+1,by go_num,by omega,O4.out,B1.out⟩
     case measure=>simp [intOf];omega
    ·skip
     have HN:Hid (bordM op (l.take (k+1))=bordM op (l.take k) ++ [(x.q,x.p)]):=by rw [HB.out];unfold bordOf;rw [eL,eR];exact hide rfl
     clear HB
     generalize bordM op (l.take k)=D at *
     have hn1:D.length+1<=maxLen:=by unfold maxLen;omega
     have hn2:(D.length+1)*48<=140737488355328:=by omega
     have hbw:b<W3.heap.size:=by omega
     have hne2:u5.ownBlock≠some b:=fun e=>by have:=(O1.out.lt _ e).1;omega
     have hown:=O1.out
     have hbel:=B1.out
     go_wp2_with fail
     go_region_held3 (fun w'=>w'.cell? ⟨b,off+k*10,none⟩=some (.int .i64 x.p.x)/\w'.cell? ⟨b,off+k*10+1,none⟩=some (.int .i64 x.p.y)/\w'.cell? ⟨b,off+k*10+2,none⟩=some (.int .i64 x.p.d)/\w'.cell? ⟨b,off+k*10+3,none⟩=some (.int .i64 x.q.x)/\w'.cell? ⟨b,off+k*10+4,none⟩=some (.int .i64 x.q.y)/\w'.cell? ⟨b,off+k*10+5,none⟩=some (.int .i64 x.q.d))
      (first
       | go_keep
       |(go_split_ands
         refine ⟨?_,?_,?_,?_,?_,?_⟩
         ·(
          rw [hgrow.cell_far _ (by simp;omega) (Ne.symm hne2)];assumption)
         ·(
          rw [hgrow.cell_far _ (by simp;omega) (Ne.symm hne2)];assumption)
         ·(
          rw [hgrow.cell_far _ (by simp;omega) (Ne.symm hne2)];assumption)
         ·(
          rw [hgrow.cell_far _ (by simp;omega) (Ne.symm hne2)];assumption)
         ·(
          rw [hgrow.cell_far _ (by simp;omega) (Ne.symm hne2)];assumption)
         ·(
          rw [hgrow.cell_far _ (by simp;omega) (Ne.symm hne2)];assumption)))
      ((
       refine step_append_lies _ (by rfl) _ _ _ (by rfl) w.heap.size 73 i0 _ 6 48 Tryz.underlying78 hi0' hz0 hz1 hz2 rfl (by omega) u5 D.length (segCells D) (by rfl) ((hown.alloc _).drew) ⟨W3.heap.size,0,none⟩ 1 1 (segCell (x.q,x.p)) (by rfl) (by rfl) (World.news_of_block (cs:=#[.int .i64 x.q.x,.int .i64 x.q.y,.int .i64 x.q.d,.int .i64 x.p.x,.int .i64 x.p.y,.int .i64 x.p.d]) (t:=73) (fr:=(0,0)) (heap_alloc_new W3 _)) (by simp [segCell,Value.oneCell']) (by omega) hn1 hn2 (by have:=hbel.size;simp;omega) (W3.heap.size+1) (by simp) ?_;intro gg cp w4 ho hgrow hat hlt4))
     have O4:Hid (w4.ownsRow w.heap.size 73 6 (.slice (some ⟨gg,0,none⟩) (D.length+1) cp) (bordM op (l.take (k+1))).length (segCells (bordM op (l.take (k+1))))):=by
      refine hide ?_
      rw [HN.out,segCells_snoc,List.length_append];exact ho
     have B4:Hid (Below w.heap.size w w4):=hide (Below.grown ((B1.out.alloc B1.out.size _).drew) hgrow (by have:=B1.out.size;simp;omega) (fun q hq=>(O1.out.lt q hq).1))
     clear ho hgrow hat O1 B1 hown hbel c0 c1 c2 c3 c4 c5 c6 c7 c8 c9
     go_wp2
     go_roundw
     case rel=>exact ⟨k+1,by go_num,by omega,O4.out,B4.out⟩
     case measure=>simp [intOf];omega
   ·cases eR:inM op x.ra x.rb
    ·skip
     have HN:Hid (bordM op (l.take (k+1))=bordM op (l.take k) ++ [(x.p,x.q)]):=by rw [HB.out];unfold bordOf;rw [eL,eR];exact hide rfl
     clear HB
     generalize bordM op (l.take k)=D at *
     have hn1:D.length+1<=maxLen:=by unfold maxLen;omega
     have hn2:(D.length+1)*48<=140737488355328:=by omega
     have hbw:b<W3.heap.size:=by omega
     have hne2:u5.ownBlock≠some b:=fun e=>by have:=(O1.out.lt _ e).1;omega
     have hown:=O1.out
     have hbel:=B1.out
     go_wp2_with fail
     go_region_held3 (fun w'=>w'.cell? ⟨b,off+k*10,none⟩=some (.int .i64 x.p.x)/\w'.cell? ⟨b,off+k*10+1,none⟩=some (.int .i64 x.p.y)/\w'.cell? ⟨b,off+k*10+2,none⟩=some (.int .i64 x.p.d)/\w'.cell? ⟨b,off+k*10+3,none⟩=some (.int .i64 x.q.x)/\w'.cell? ⟨b,off+k*10+4,none⟩=some (.int .i64 x.q.y)/\w'.cell? ⟨b,off+k*10+5,none⟩=some (.int .i64 x.q.d))
      (first
       | go_keep
       |(go_split_ands
         refine ⟨?_,?_,?_,?_,?_,?_⟩
         ·(
          rw [hgrow.cell_far _ (by simp;omega) (Ne.symm hne2)];assumption)
         ·(
          rw [hgrow.cell_far _ (by simp;omega) (Ne.symm hne2)];assumption)
         ·(
          rw [hgrow.cell_far _ (by simp;omega) (Ne.symm hne2)];assumption)
         ·(
          rw [hgrow.cell_far _ (by simp;omega) (Ne.symm hne2)];assumption)
         ·(
          rw [hgrow.cell_far _ (by simp;omega) (Ne.symm hne2)];assumption)
         ·(
          rw [hgrow.cell_far _ (by simp;omega) (Ne.symm hne2)];assumption)))
      ((
       refine step_append_lies _ (by rfl) _ _ _ (by rfl) w.heap.size 73 i0 _ 6 48 Tryz.underlying78 hi0' hz0 hz1 hz2 rfl (by omega) u5 D.length (segCells D) (by rfl) ((hown.alloc _).drew) ⟨W3.heap.size,0,none⟩ 1 1 (segCell (x.p,x.q)) (by rfl) (by rfl) (World.news_of_block (cs:=#[.int .i64 x.p.x,.int .i64 x.p.y,.int .i64 x.p.d,.int .i64 x.q.x,.int .i64 x.q.y,.int .i64 x.q.d]) (t:=73) (fr:=(0,0)) (heap_alloc_new W3 _)) (by simp [segCell,Value.oneCell']) (by omega) hn1 hn2 (by have:=hbel.size;simp;omega) (W3.heap.size+1) (by simp) ?_;intro gg cp w4 ho hgrow hat hlt4))
     have O4:Hid (w4.ownsRow w.heap.size 73 6 (.slice (some ⟨gg,0,none⟩) (D.length+1) cp) (bordM op (l.take (k+1))).length (segCells (bordM op (l.take (k+1))))):=by
      refine hide ?_
      rw [HN.out,segCells_snoc,List.length_append];exact ho
     have B4:Hid (Below w.heap.size w w4):=hide (Below.grown ((B1.out.alloc B1.out.size _).drew) hgrow (by have:=B1.out.size;simp;omega) (fun q hq=>(O1.out.lt q hq).1))
     clear ho hgrow hat O1 B1 hown hbel c0 c1 c2 c3 c4 c5 c6 c7 c8 c9
     go_wp2
     go_roundw
     case rel=>exact ⟨k+1,by go_num,by omega,O4.out,B4.out⟩
     case measure=>simp [intOf];omega
    ·skip
     have HN:Hid (bordM op (l.take (k+1))=bordM op (l.take k)):=by rw [HB.out];unfold bordOf;rw [eL,eR];exact hide (List.append_nil _)
     clear HB
     have O4:Hid (W3.ownsRow w.heap.size 73 6 u5 (bordM op (l.take (k+1))).length (segCells (bordM op (l.take (k+1))))):=by rw [HN.out];exact O1
     go_wp2
     go_roundw
     case rel=>exact ⟨k+1,by go_num,by omega,O4.out,B1.out⟩
     case measure=>simp [intOf];omega
  ·have ek:l.take k=l:=List.take_of_length_le (by omega)
   rw [ek] at hO
   have HO:=hide hO
   clear HA hO
   go_wp2
   go_ret
   exact ⟨_,rfl,HO.out,hbel⟩
theorem rot_mem {r:List Pt}{i:Nat}{p:Pt}(h:p∈rotL r i):p∈r:=by
 unfold rotL at h
 rcases List.mem_append.1 h with h | h
 ·exact List.mem_of_mem_drop h
 ·exact List.mem_of_mem_take h
theorem rot_len (r:List Pt)(i:Nat)(hi:i<=r.length):(rotL r i).length=r.length:=by unfold rotL;simp;omega
theorem least_mem {r:List Pt}{p:Pt}:∀ i,p∈leastL r i->p∈r
 | 0,h=>by simp [leastL] at h
 | i+1,h=>by
  unfold leastL at h
  split at h
  ·exact rot_mem h
  ·exact least_mem i h
theorem least_len (r:List Pt):∀ i,i<=r.length->(leastL r i).length<=r.length
 | 0,_=>by simp [leastL]
 | i+1,h=>by
  unfold leastL
  split
  ·rw [rot_len r i (by omega)];exact Nat.le_refl _
  ·exact least_len r i (by omega)
theorem tail_both {w:World}{b off n cap i:Nat}{r:List Pt}(hr:∀ j,j<r.length->PtAt w b (off+j*3) (r.getD j zP))(hi:i<r.length):∀ j u,(ptCells (r.drop i))[j]?=some u->w.cell? ((⟨b,off+i*3,none⟩:Addr).add j)=some u:=by
 refine ring_news (fun j hj=>?_)
 rw [List.length_drop] at hj
 have e1:(r.drop i).getD j zP=r.getD (i+j) zP:=by rw [List.getD_eq_getElem?_getD,List.getD_eq_getElem?_getD,List.getElem?_drop]
 have e2:off+i*3+j*3=off+(i+j)*3:=by omega
 rw [e1,e2];exact hr (i+j) (by omega)
theorem head_both {w:World}{b off i:Nat}{r:List Pt}(hr:∀ j,j<r.length->PtAt w b (off+j*3) (r.getD j zP))(hi:i<=r.length):∀ j u,(ptCells (r.take i))[j]?=some u->w.cell? ((⟨b,off,none⟩:Addr).add j)=some u:=by
 refine ring_news (fun j hj=>?_)
 rw [List.length_take] at hj
 have e1:(r.take i).getD j zP=r.getD j zP:=by rw [List.getD_eq_getElem?_getD,List.getD_eq_getElem?_getD,List.getElem?_take_of_lt (by omega)]
 rw [e1];exact hr j (by omega)
set_option maxRecDepth 100000 in
set_option maxHeartbeats 2000000 in
theorem fromLeast_any (v:Value)(r:List Pt)(w:World)(hr:RingAt w v r)(hG:∀ p∈r,Gd p)(hn:r.length<=1000000) :
  Calls Tryz.prog 95 #[v] w fun e w'=>∃ v',e = .returned v'/\w'.ownsRow w.heap.size 31 3 v' (leastL r r.length).length (ptCells (leastL r r.length))/\Below w.heap.size w w':=by
 obtain ⟨a,cap,rfl,a1,a2,a3⟩:=hr
 unfold maxLen at a2
 have HA:=hide a3
 obtain ⟨i0,hi0,hz0,hz1,hz2⟩:=info_parts infoPoint
 have HG:=hide hG
 clear a3 hG
 go_enter Tryz.func95,Tryz.ntmps95
 go_wp2_with fail
 go_loopw [3,4,5,8] (fun lv _ _ iv w'=>∃ i:Nat,iv = .int .i64 i/\i<=r.length/\w'.ownsRow w.heap.size 31 3 lv (leastL r i).length (ptCells (leastL r i))/\Below w.heap.size w w') (fun _ _ _ iv _=>r.length-(intOf iv).toNat)
 case atStart=>exact ⟨0,rfl,Nat.zero_le _,World.ownsRow_nil _ _ _ _,Below.refl _ _⟩
 case round=>
  obtain ⟨i,rfl,hi,hO,hbel⟩:=hrel
  by_cases hlt:i<r.length
  ·obtain ⟨b,off,rfl,hb,_⟩:=HA.out i hlt
   have hP:∀ wz,Below w.heap.size w wz->∀ j,j<r.length->PtAt wz b (off+j*3) (r.getD j zP):=fun wz kz j hj=>by
    obtain ⟨b',off',e',hb',hp⟩:=HA.out j hj
    simp at e'
    obtain ⟨rfl,rfl⟩:=e'
    exact hp.later kz hb'
   have HP:=hide hP
   have HT:=hide (tail_both (n:=0) (cap:=0) (hP wr hbel) hlt)
   have hll:=least_len r i hi
   have HLm:=hide (fun p=>least_mem (r:=r) (p:=p) i)
   have HLs:=hide (show leastL r (i+1)=if i=0\/clM (rotL r i) (leastL r i)<0 then rotL r i else leastL r i from rfl)
   have hO':=hide hO
   have hB':=hide hbel
   have hsz:=hbel.size
   have hi0':(0:Int)<=(i:Int):=Int.natCast_nonneg _
   have hi1':(i:Int)<=(r.length:Int):=by omega
   have hcap : ¬ cap=i:=by omega
   have hcap':(i:Int)<=(cap:Int):=by omega
   generalize leastL r i=M at *
   clear hP hO
   go_upto_region 6 with fail
   go_cut [5] (fun lv w'=>w'.ownsRow wr.heap.size 31 3 lv (r.drop i).length (ptCells (r.drop i))/\Below wr.heap.size wr w')
   case first=>
    have hn1:0+(r.length-i)<=maxLen:=by unfold maxLen;omega
    have hn2:(0+(r.length-i))*24<=140737488355328:=by omega
    have hn0:0<r.length-i:=by omega
    have hpl:(ptCells (r.drop i)).length=(r.length-i)*3:=by rw [ptCells_len,List.length_drop]
    clear hO' hB' HLs HLm HP HG
    go_wp2_with (at_builtin;refine wpList_append_lies _ rfl _ _ _ rfl wr.heap.size 31 i0 _ 3 24 Tryz.underlying57 hi0 hz0 hz1 hz2 rfl (by omega) (.slice none 0 0) 0 [] rfl (World.ownsRow_nil _ _ _ _) ⟨b,off+i*3,none⟩ (r.length-i) (cap-i) (ptCells (r.drop i)) rfl hpl HT.out (ptCells_one _) hn0 hn1 hn2 (Nat.le_refl _) _ rfl ?_;intro gg cp w3 hown3 hgrow hat hlt3)
    go_meet
    case rel=>exact ⟨by rw [List.length_drop];simpa using hown3,Below.grown (Below.refl _ _) hgrow (Nat.le_refl _) (fun k hk=>by simp [Value.ownBlock] at hk)⟩
   case rest=>
    obtain ⟨o1,k1⟩:=hcut
    have O1:=hide o1
    have K1:=hide k1
    have z1:=k1.size
    have HH:=hide (head_both (HP.out wc (bvia hB'.out k1)) hi)
    clear o1 k1 HT
    go_upto_region 7 with fail
    go_cut [5] (fun lv w'=>w'.ownsRow wr.heap.size 31 3 lv (rotL r i).length (ptCells (rotL r i))/\Below wr.heap.size wr w')
    case first=>
     have hn1:(r.drop i).length+i<=maxLen:=by rw [List.length_drop];unfold maxLen;omega
     have hn2:((r.drop i).length+i)*24<=140737488355328:=by rw [List.length_drop];omega
     have hpl:(ptCells (r.take i)).length=i*3:=by rw [ptCells_len,List.length_take];omega
     have HN:Hid (0<i->∃ A,(some ⟨b,off,none⟩:Option Addr)=some A/\∀ j u,(ptCells (r.take i))[j]?=some u->wc.cell? (A.add j)=some u):=fun _=>⟨_,rfl,HH.out⟩
     clear hO' hB' HLs HLm HP HG
     go_wp2_with (at_builtin;refine wpList_append_both rfl _ _ _ rfl wr.heap.size 31 i0 _ 3 24 Tryz.underlying57 hi0 hz0 hz1 hz2 rfl (by omega) u5 (r.drop i).length (ptCells (r.drop i)) rfl O1.out (some ⟨b,off,none⟩) i cap (ptCells (r.take i)) rfl hpl HN.out (ptCells_one _) hn1 hn2 z1 ?_;intro v4 w4 o4 k4)
     go_meet
     case rel=>exact ⟨by unfold rotL;rw [ptCells_append,List.length_append,List.length_take,Nat.min_eq_left hi];exact o4,below_kp K1.out k4 K1.out.size (fun b h=>(O1.out.lt b h).1)⟩
    case rest=>
     clear O1 K1 HH z1
     obtain ⟨o2,k2⟩:=hcut
     have hrl:=rot_len r i hi
     have R2:=hide (ring_of_own o2 (by unfold maxLen;omega))
     have o3:=own_later hO'.out k2
     have R3:=hide (ring_of_own o3 (by unfold maxLen;omega))
     have O2:=hide (own_mono o2 hsz)
     have O3:=hide o3
     have B2:=hide (bvia hB'.out k2)
     have CL:=hide (CompareLists_any u5 u3 (rotL r i) M wc R2.out R3.out (fun p hp=>HG.out p (rot_mem hp)) (fun p hp=>HG.out p (HLm.out p hp)))
     clear o2 o3 k2 hO' hB' R2 R3
     by_cases hz:i=0
     ·have HS:Hid (leastL r (i+1)=rotL r i):=by rw [HLs.out,if_pos (.inl hz)];exact hide rfl
      have hz':((i:Int) == 0)=true:=by simp;omega
      clear HLs CL
      go_wp2
      go_roundw
      case rel=>exact ⟨i+1,by go_num,by omega,by rw [HS.out];exact O2.out,B2.out⟩
      case measure=>simp [intOf];omega
     ·have hz' : ¬ ((i:Int)=0):=by omega
      go_wp2_with fail
      refine CL.out.mono ?_
      rintro e' w4 ⟨rfl,k4⟩
      have O4:=hide (own_later O2.out k4)
      have O5:=hide (own_later O3.out k4)
      have B4:=hide (bvia B2.out k4)
      clear O2 O3 B2 k4 CL
      generalize hcc:clM (rotL r i) M=cc at *
      by_cases hc:cc<0
      ·have HS:Hid (leastL r (i+1)=rotL r i):=by rw [HLs.out,if_pos (.inr hc)];exact hide rfl
       clear HLs
       go_wp2
       go_roundw
       case rel=>exact ⟨i+1,by go_num,by omega,by rw [HS.out];exact O4.out,B4.out⟩
       case measure=>simp [intOf];omega
      ·have hcd:decide (cc<0)=false:=by simpa using hc
       have HS:Hid (leastL r (i+1)=M):=by rw [HLs.out,if_neg (by simp only [hz,hc,or_self,not_false_eq_true])];exact hide rfl
       clear HLs
       go_wp2
       go_roundw
       case rel=>exact ⟨i+1,by go_num,by omega,by rw [HS.out];exact O5.out,B4.out⟩
       case measure=>simp [intOf];omega
  ·have ei:i=r.length:=by omega
   subst ei
   have HO:=hide hO
   clear hO HA HG
   go_wp2
   go_ret
   exact ⟨_,rfl,HO.out,hbel⟩
theorem lt_drop (l m:List Pt)(k:Nat)(hl:k<l.length)(hm:k<m.length):ltL (l.drop k) (m.drop k)=if (befB (l.getD k zP) (m.getD k zP) || befB (m.getD k zP) (l.getD k zP))=true then befB (l.getD k zP) (m.getD k zP) else ltL (l.drop (k+1)) (m.drop (k+1)):=by
 rw [List.drop_eq_getElem_cons hl,List.drop_eq_getElem_cons hm,List.getD_eq_getElem?_getD,List.getElem?_eq_getElem hl,List.getD_eq_getElem?_getD,List.getElem?_eq_getElem hm,lt_cc];rfl
theorem lt_end (l m:List Pt)(k:Nat)(hl:k<=l.length)(hm:k<=m.length)(h:k=l.length\/k=m.length):ltL (l.drop k) (m.drop k)=decide (l.length<m.length):=by
 rcases h with h | h
 ·have e:l.drop k=[]:=List.drop_of_length_le (by omega)
  rw [e];unfold ltL
  rw [List.length_drop,decide_eq_decide];omega
 ·have e:m.drop k=[]:=List.drop_of_length_le (by omega)
  rw [e]
  have hd:=List.length_drop (i:=k) (l:=l)
  have hf:decide (l.length<m.length)=false:=by rw [decide_eq_false_iff_not];omega
  rw [hf]
  cases c:l.drop k with
  | nil=>unfold ltL;simp
  | cons p t=>unfold ltL;rfl
set_option maxRecDepth 100000 in
set_option maxHeartbeats 2000000 in
theorem rless_any (v v':Value)(l m:List Pt)(w:World)(hl:RingAt w v l)(hm:RingAt w v' m)(gl:∀ p∈l,Gd p)(gm:∀ p∈m,Gd p) :
  Calls Tryz.prog 57 #[v,v'] w fun e w'=>e = .returned (.bool (ltL l m))/\Below w.heap.size w w':=by
 obtain ⟨a,cap,rfl,a1,a2,a3⟩:=hl
 obtain ⟨b,bcap,rfl,b1,b2,b3⟩:=hm
 unfold maxLen at a2 b2
 have HA:=hide a3
 have HB:=hide b3
 have GL:=hide gl
 have GM:=hide gm
 clear a3 b3 gl gm
 have hl0:(l.length:Int)<=9223372036854775807:=by omega
 have hm0:(m.length:Int)<=9223372036854775807:=by omega
 have HI:Hid (ltL l m=ltL (l.drop 0) (m.drop 0)):=rfl
 generalize ltL l m=res at *
 go_enter Tryz.func57,Tryz.ntmps57
 go_wp2_with fail
 go_loopw [5,6,7] (fun iv _ _ w'=>∃ k:Nat,iv = .int .i64 k/\k<=l.length/\k<=m.length/\Below w.heap.size w w'/\Hid (res=ltL (l.drop k) (m.drop k))) (fun iv _ _ _=>l.length-(intOf iv).toNat)
 case atStart=>exact ⟨0,rfl,Nat.zero_le _,Nat.zero_le _,Below.refl _ _,HI⟩
 case round=>
  clear HI
  obtain ⟨k,rfl,hk,hk2,hbel,HR⟩:=hrel
  have hk0:(0:Int)<=(k:Int):=Int.natCast_nonneg _
  by_cases hlt:k<l.length
  ·have hk3:(k:Int)<(l.length:Int):=by omega
   by_cases hlt2:k<m.length
   ·have hk1:(k:Int)<(m.length:Int):=by omega
    obtain ⟨b1',off1,rfl,hb1,hs1⟩:=HA.out k hlt
    obtain ⟨b2',off2,rfl,hb2,hs2⟩:=HB.out k hlt2
    have HP:Hid (∀ wz,Below w.heap.size w wz->PtAt wz b1' (off1+k*3) (l.getD k zP)/\PtAt wz b2' (off2+k*3) (m.getD k zP)):=hide fun wz kz=>⟨hs1.later kz hb1,hs2.later kz hb2⟩
    have C:=hide (fun wz=>rbefore_any (l.getD k zP) (m.getD k zP) wz (GL.out _ (getD_mem hlt zP)) (GM.out _ (getD_mem hlt2 zP)))
    have C2:=hide (fun wz=>rbefore_any (m.getD k zP) (l.getD k zP) wz (GM.out _ (getD_mem hlt2 zP)) (GL.out _ (getD_mem hlt zP)))
    have HC:=hide (lt_drop l m k hlt hlt2)
    generalize l.getD k zP=p at *
    generalize m.getD k zP=q at *
    obtain ⟨⟨px,py,pd⟩,qx,qy,qd⟩:=HP.out wr hbel
    have hB':=hide hbel
    clear hs1 hs2 HA HB GL GM hbel
    go_upto_region 4 with fail
    go_cut [6] (fun ov w'=>ov = .bool (befB p q)/\Below wr.heap.size wr w')
    case first=>
     clear HR HC HP C2 hB'
     go_region_with (go_at_call 72;refine (C.out _).mono ?_;rintro e' w2 ⟨rfl,k2⟩)
     all_goals
      go_wp2_with fail
      go_meet
      case rel=>exact ⟨rfl,bvia (Below.refl _ _).drew k2⟩
    case rest=>
     obtain ⟨rfl,k2⟩:=hcut
     have B2:=hide (bvia hB'.out k2)
     clear px py pd qx qy qd hB' k2 C
     obtain ⟨⟨px,py,pd⟩,qx,qy,qd⟩:=HP.out wc B2.out
     generalize hx:befB p q=x at *
     go_upto_region 5 with fail
     rename World=>wc1
     go_cut [7] (fun ov w'=>ov = .bool (befB q p)/\Below wc1.heap.size wc1 w')
     case first=>
      clear HR HC HP B2
      go_region_with (go_at_call 72;refine (C2.out _).mono ?_;rintro e' w2 ⟨rfl,k2⟩)
      all_goals
       go_wp2_with fail
       go_meet
       case rel=>exact ⟨rfl,bvia (Below.refl _ _).drew k2⟩
     case rest=>
      obtain ⟨rfl,k2⟩:=hcut
      have B3:=hide (bvia B2.out k2)
      clear px py pd qx qy qd B2 k2 C2 HP
      generalize hy:befB q p=y at *
      cases x
      ·cases y
       ·have HE:Hid (res=ltL (l.drop (k+1)) (m.drop (k+1))):=by rw [HR.out,HC.out];exact hide rfl
        clear HR HC
        go_wp2
        go_roundw
        case rel=>exact ⟨k+1,by go_num,by omega,by omega,B3.out,HE⟩
        case measure=>simp [intOf];omega
       ·have HE:Hid (res=false):=by rw [HR.out,HC.out];exact hide rfl
        clear HR HC
        go_wp2
        go_ret
        exact ⟨ret_bool HE.out.symm,B3.out⟩
      ·have HE:Hid (res=true):=by rw [HR.out,HC.out];exact hide rfl
       clear HR HC
       cases y
       all_goals
        go_wp2
        go_ret
        exact ⟨ret_bool HE.out.symm,B3.out⟩
   ·have HE:Hid (res=decide (l.length<m.length)):=by rw [HR.out];exact hide (lt_end l m k hk hk2 (.inr (by omega)))
    clear HA HB GL GM HR
    have hge : ¬ (k:Int)<(m.length:Int):=by omega
    go_wp2
    go_ret
    exact ⟨ret_bool HE.out.symm,hbel⟩
  ·have HE:Hid (res=decide (l.length<m.length)):=by rw [HR.out];exact hide (lt_end l m k hk hk2 (.inl (by omega)))
   clear HA HB GL GM HR
   have hge : ¬ (k:Int)<(l.length:Int):=by omega
   go_wp2
   go_ret
   exact ⟨ret_bool HE.out.symm,hbel⟩
set_option maxRecDepth 100000 in
set_option maxHeartbeats 2000000 in
theorem rturned_any (v:Value)(r:List Pt)(i:Nat)(w:World)(hr:RingAt w v r)(hn:r.length<=1000000)(hlt:i<r.length) :
  Calls Tryz.prog 99 #[v,.int .i64 (i:Nat)] w fun e w'=>∃ v',e = .returned v'/\w'.ownsRow w.heap.size 31 3 v' (rotL r i).length (ptCells (rotL r i))/\Below w.heap.size w w':=by
 obtain ⟨a,cap,rfl,a1,a2,a3⟩:=hr
 unfold maxLen at a2
 obtain ⟨i0,hi0,hz0,hz1,hz2⟩:=info_parts infoPoint
 obtain ⟨b,off,rfl,hb,_⟩:=a3 i hlt
 have hP:∀ wz,Below w.heap.size w wz->∀ j,j<r.length->PtAt wz b (off+j*3) (r.getD j zP):=fun wz kz j hj=>by
  obtain ⟨b',off',e',hb',hp⟩:=a3 j hj
  simp at e'
  obtain ⟨rfl,rfl⟩:=e'
  exact hp.later kz hb'
 have HP:=hide hP
 have HT:=hide (tail_both (n:=0) (cap:=0) (hP w (Below.refl _ _)) hlt)
 have hi0':(0:Int)<=(i:Int):=Int.natCast_nonneg _
 have hi1':(i:Int)<=(r.length:Int):=by omega
 have hcap : ¬ cap=i:=by omega
 have hcap':(i:Int)<=(cap:Int):=by omega
 clear hP a3
 go_enter Tryz.func99,Tryz.ntmps99
 go_upto_region 2 with fail
 go_cut [5] (fun lv w'=>w'.ownsRow w.heap.size 31 3 lv (r.drop i).length (ptCells (r.drop i))/\Below w.heap.size w w')
 case first=>
  have hn1:0+(r.length-i)<=maxLen:=by unfold maxLen;omega
  have hn2:(0+(r.length-i))*24<=140737488355328:=by omega
  have hn0:0<r.length-i:=by omega
  have hpl:(ptCells (r.drop i)).length=(r.length-i)*3:=by rw [ptCells_len,List.length_drop]
  clear HP
  go_wp2_with (at_builtin;refine wpList_append_lies _ rfl _ _ _ rfl w.heap.size 31 i0 _ 3 24 Tryz.underlying57 hi0 hz0 hz1 hz2 rfl (by omega) (.slice none 0 0) 0 [] rfl (World.ownsRow_nil _ _ _ _) ⟨b,off+i*3,none⟩ (r.length-i) (cap-i) (ptCells (r.drop i)) rfl hpl HT.out (ptCells_one _) hn0 hn1 hn2 (Nat.le_refl _) _ rfl ?_;intro gg cp w3 hown3 hgrow hat hlt3)
  go_meet
  case rel=>exact ⟨by rw [List.length_drop];simpa using hown3,Below.grown (Below.refl _ _) hgrow (Nat.le_refl _) (fun k hk=>by simp [Value.ownBlock] at hk)⟩
 case rest=>
  obtain ⟨o1,k1⟩:=hcut
  have O1:=hide o1
  have K1:=hide k1
  have z1:=k1.size
  have HH:=hide (head_both (HP.out wc k1) (show i<=r.length by omega))
  have hile:i<=r.length:=by omega
  clear o1 k1 HT
  go_upto_region 3 with fail
  go_cut [5] (fun lv w'=>w'.ownsRow w.heap.size 31 3 lv (rotL r i).length (ptCells (rotL r i))/\Below w.heap.size w w')
  case first=>
   have hn1:(r.drop i).length+i<=maxLen:=by rw [List.length_drop];unfold maxLen;omega
   have hn2:((r.drop i).length+i)*24<=140737488355328:=by rw [List.length_drop];omega
   have hpl:(ptCells (r.take i)).length=i*3:=by rw [ptCells_len,List.length_take];omega
   have HN:Hid (0<i->∃ A,(some ⟨b,off,none⟩:Option Addr)=some A/\∀ j u,(ptCells (r.take i))[j]?=some u->wc.cell? (A.add j)=some u):=fun _=>⟨_,rfl,HH.out⟩
   clear HP
   go_wp2_with (at_builtin;refine wpList_append_both rfl _ _ _ rfl w.heap.size 31 i0 _ 3 24 Tryz.underlying57 hi0 hz0 hz1 hz2 rfl (by omega) u5 (r.drop i).length (ptCells (r.drop i)) rfl O1.out (some ⟨b,off,none⟩) i cap (ptCells (r.take i)) rfl hpl HN.out (ptCells_one _) hn1 hn2 z1 ?_;intro v4 w4 o4 k4)
   go_meet
   case rel=>exact ⟨by unfold rotL;rw [ptCells_append,List.length_append,List.length_take,Nat.min_eq_left hile];exact o4,below_kp K1.out k4 K1.out.size (fun b h=>(O1.out.lt b h).1)⟩
  case rest=>
   obtain ⟨o2,k2⟩:=hcut
   have O2:=hide o2
   clear O1 K1 HH z1 o2 HP
   go_wp2
   go_ret
   exact ⟨_,rfl,O2.out,k2⟩
end Go.Proofs.YtnkcbephceollabGreat
