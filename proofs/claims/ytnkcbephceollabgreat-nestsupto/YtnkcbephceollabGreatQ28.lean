import Derived.Test.YtnkcbephceollabGreatQ27
namespace Go.Proofs.YtnkcbephceollabGreat
open Go.RowKit
set_option linter.unusedSimpArgs false
set_option linter.unusedVariables false
set_option maxHeartbeats 1000000 in
theorem ahead_any (x y:Pc)(w:World)(h1:Gd x.p)(h2:Gd x.q)(h3:Gd y.p)(h4:Gd y.q) :
  Calls Tryz.prog 113 #[x.v,y.v] w fun e w'=>e = .returned (.bool (aheadB (x.p,x.q) (y.p,y.q)))/\Below w.heap.size w w':=by
 have heq:=neq_pt
 cases h:eqP x.p y.p
 ·have H:Hid (aheadB (x.p,x.q) (y.p,y.q)=befB x.p y.p):=by unfold aheadB;rw [h];exact hide rfl
  have h':eqP ⟨x.p.x,x.p.y,x.p.d⟩ ⟨y.p.x,y.p.y,y.p.d⟩=false:=h
  go_enter Tryz.func113,Tryz.ntmps113
  go_wp2_with fail
  refine (rbefore_any x.p y.p _ h1 h3).mono ?_
  rintro e w1 ⟨rfl,k⟩
  have B1:=bvia (below2 _ _ _) k
  clear k
  go_wp2
  go_ret
  exact ⟨ret_bool H.out.symm,B1⟩
 ·have H:Hid (aheadB (x.p,x.q) (y.p,y.q)=befB x.q y.q):=by unfold aheadB;rw [h];exact hide rfl
  have h':eqP ⟨x.p.x,x.p.y,x.p.d⟩ ⟨y.p.x,y.p.y,y.p.d⟩=true:=h
  go_enter Tryz.func113,Tryz.ntmps113
  go_wp2_with fail
  refine (rbefore_any x.q y.q _ h2 h4).mono ?_
  rintro e w1 ⟨rfl,k⟩
  have B1:=bvia (below2 _ _ _) k
  clear k
  go_wp2
  go_ret
  exact ⟨ret_bool H.out.symm,B1⟩
def pairOf (x:Pc):Pt×Pt:=(x.p,x.q)
set_option maxRecDepth 100000 in
set_option maxHeartbeats 4000000 in
theorem known_any (v:Value)(l:List Pc)(x:Pc)(w:World)(hl:PcsAt w v l) :
  Calls Tryz.prog 89 #[v,x.v] w fun e w'=>e = .returned (.bool (knownB (l.map pairOf) (pairOf x)))/\Below w.heap.size w w':=by
 have heq:=eql_pt
 obtain ⟨a,cap,rfl,h1,h2,h3⟩:=hl
 unfold maxLen at h2
 have H3:=hide h3
 have HK:=hide (show knownB (l.map pairOf) (pairOf x)=l.any (fun y=>eqP y.p x.p && eqP y.q x.q) from by unfold knownB;rw [List.any_map];rfl)
 clear h3
 generalize knownB (l.map pairOf) (pairOf x)=res at *
 go_enter Tryz.func89,Tryz.ntmps89
 go_wp2_with fail
 go_loopw [5] (fun iv w'=>∃ i:Nat,iv = .int .i64 i/\i<=l.length/\Blk w' w.heap.size x.cs/\Below w.heap.size w w'/\Hid (res=(l.drop i).any (fun y=>eqP y.p x.p && eqP y.q x.q))) (fun iv _=>l.length-(intOf iv).toNat)
 case atStart=>exact ⟨0,rfl,Nat.zero_le _,Blk.new w _ _,(Below.refl _ _).alloc (Nat.le_refl _) _,HK⟩
 case round=>
  obtain ⟨i,rfl,hi,hX,hbel,HB⟩:=hrel
  by_cases hlt:i<l.length
  ·obtain ⟨b,off,rfl,hb,hs⟩:=H3.out i hlt
   have hs':=hs.later hbel hb
   have HC:=hide (any_drop (fun y:Pc=>eqP y.p x.p && eqP y.q x.q) l i hlt zPc)
   generalize l.getD i zPc=y at *
   have c0:=hs' 0 (by decide)
   have c1:=hs' 1 (by decide)
   have c2:=hs' 2 (by decide)
   have c3:=hs' 3 (by decide)
   have c4:=hs' 4 (by decide)
   have c5:=hs' 5 (by decide)
   simp only [pcCell,Nat.add_zero,List.getElem?_cons_zero,List.getElem?_cons_succ] at c0 c1 c2 c3 c4 c5
   obtain ⟨cx,fx,zx⟩:=id hX
   have hi0:(0:Int)<=(i:Int):=Int.natCast_nonneg _
   have hi1:(i:Int)<(l.length:Int):=by omega
   clear hs hs'
   go_upto_region 4 with fail
   go_cut [29] (fun c w'=>c = .bool (eqP y.p x.p && eqP y.q x.q)/\Blk w' w.heap.size x.cs/\Below w.heap.size w w')
   case first=>
    cases h:eqP y.p x.p
    ·have h':eqP ⟨y.p.x,y.p.y,y.p.d⟩ ⟨x.p.x,x.p.y,x.p.d⟩=false:=h
     go_quiet (fail)
     go_wp2
     go_meet
     case rel=>exact ⟨by rw [h];rfl,⟨hX.cell,hX.free,hX.lt⟩,below_drewN hbel _⟩
    ·have h':eqP ⟨y.p.x,y.p.y,y.p.d⟩ ⟨x.p.x,x.p.y,x.p.d⟩=true:=h
     go_quiet (fail)
     go_wp2
     go_meet
     case rel=>exact ⟨by rw [h];rfl,⟨hX.cell,hX.free,hX.lt⟩,below_drewN hbel _⟩
   case rest=>
    obtain ⟨rfl,L1,L2⟩:=hcut
    clear c0 c1 c2 c3 c4 c5 cx fx zx hX hbel
    cases hc:(eqP y.p x.p && eqP y.q x.q)
    ·have HE:Hid (res=(l.drop (i+1)).any (fun y=>eqP y.p x.p && eqP y.q x.q)):=HB.out.trans (HC.out.trans (by rw [hc];rfl))
     clear HB HC
     go_wp2
     go_roundw
     case rel=>exact ⟨i+1,by go_num,by omega,L1,L2,HE⟩
     case measure=>simp [intOf];omega
    ·have HE:Hid (res=true):=HB.out.trans (HC.out.trans (by rw [hc];rfl))
     clear HB HC
     go_wp2
     go_ret
     exact ⟨ret_bool HE.out.symm,L2⟩
  ·have HE:Hid (res=false):=HB.out.trans (by rw [List.drop_of_length_le (by omega)];rfl)
   have hi1 : ¬ (i:Int)<(l.length:Int):=by omega
   go_wp2
   go_ret
   exact ⟨ret_bool HE.out.symm,hbel⟩
def sortP (l:List Pc)(x:Pc):List Pc:=l.takeWhile (fun y=>aheadB (pairOf y) (pairOf x)) ++ x::l.dropWhile (fun y=>aheadB (pairOf y) (pairOf x))
theorem sortP_go {l:List Pc}{x:Pc}{i:Nat}(hi:i<l.length)(hd:l.dropWhile (fun y=>aheadB (pairOf y) (pairOf x))=(l.drop i).dropWhile (fun y=>aheadB (pairOf y) (pairOf x)))(ht:l.takeWhile (fun y=>aheadB (pairOf y) (pairOf x))=l.take i ++ (l.drop i).takeWhile (fun y=>aheadB (pairOf y) (pairOf x))) :
  (aheadB (pairOf (l.getD i zPc)) (pairOf x)=true->(l.dropWhile (fun y=>aheadB (pairOf y) (pairOf x))=(l.drop (i+1)).dropWhile (fun y=>aheadB (pairOf y) (pairOf x))/\l.takeWhile (fun y=>aheadB (pairOf y) (pairOf x))=l.take (i+1) ++ (l.drop (i+1)).takeWhile (fun y=>aheadB (pairOf y) (pairOf x))))/\
  (aheadB (pairOf (l.getD i zPc)) (pairOf x)=false->sortP l x=l.take i ++ x::l.drop i):=by
 have e:l.drop i=l.getD i zPc::l.drop (i+1):=by
  rw [List.drop_eq_getElem_cons hi,List.getD_eq_getElem?_getD,List.getElem?_eq_getElem hi];rfl
 have e2:l.take (i+1)=l.take i ++ [l.getD i zPc]:=by
  rw [List.take_succ_eq_append_getElem hi,List.getD_eq_getElem?_getD,List.getElem?_eq_getElem hi];rfl
 rw [e] at hd ht
 refine ⟨fun h=>?_,fun h=>?_⟩
 ·rw [List.dropWhile_cons_of_pos (by simpa using h)] at hd
  rw [List.takeWhile_cons_of_pos (by simpa using h)] at ht
  exact ⟨hd,by rw [ht,e2];simp⟩
 ·rw [List.dropWhile_cons_of_neg (by simpa using h)] at hd
  rw [List.takeWhile_cons_of_neg (by simpa using h)] at ht
  unfold sortP
  rw [hd,ht,<-e];simp
theorem PceAt.news {w:World}{b off:Nat}{l:List Pc}(h:∀ j,j<l.length->PceAt w b (off+j*10) (l.getD j zPc)) :
  ∀ t u,(pcCells l)[t]?=some u->w.cell? ((⟨b,off,none⟩:Addr).add t)=some u:=by
 intro t u hu
 have hl:t<l.length*10:=by
  have:=(List.getElem?_eq_some_iff.1 hu).1;rwa [pcCells_len] at this
 have hd:t=t / 10*10+t % 10:=by omega
 have h1:=h (t / 10) (by omega) (t % 10) (by omega)
 rw [hd,pcCells_at l (t / 10) (t % 10) (by omega) (by omega)] at hu
 have e:(⟨b,off,none⟩:Addr).add t=⟨b,off+t / 10*10+t % 10,none⟩:=by
  have:=cell_off2 b off t
  rw [this];congr 1;omega
 rw [e,h1,hu]
theorem pcCells_one (l:List Pc):∀ u∈pcCells l,u.oneCell'=true:=by
 intro u hu
 unfold pcCells at hu
 obtain ⟨e,_,h⟩:=List.mem_flatMap.1 hu
 simp [pcCell] at h
 rcases h with rfl | rfl | rfl | rfl | rfl | rfl | rfl | rfl | rfl | rfl <;> rfl
theorem pcCells_app (l m:List Pc):pcCells (l ++ m)=pcCells l ++ pcCells m:=by simp [pcCells]
set_option maxRecDepth 100000 in
set_option maxHeartbeats 8000000 in
theorem sorted_any (v:Value)(l:List Pc)(x:Pc)(w:World)(hl:PcsAt w v l)(gl:∀ y∈l,Gd y.p/\Gd y.q)(gx:Gd x.p/\Gd x.q)(hn:l.length<=1000000) :
  Calls Tryz.prog 90 #[v,x.v] w fun e w'=>∃ v',e = .returned v'/\w'.ownsRow (w.heap.size+1) 55 10 v' (sortP l x).length (pcCells (sortP l x))/\Below w.heap.size w w':=by
 obtain ⟨i2,hi2,hx0,hx1,hx2⟩:=info_parts infoPcs
 obtain ⟨a,cap,rfl,h1,h2,h3⟩:=hl
 unfold maxLen at h2
 have H3:=hide h3
 have GL:=hide gl
 clear h3 gl
 go_enter Tryz.func90,Tryz.ntmps90
 go_upto_block 0 with fail
 go_cut [5,6] (fun ov iv w'=>∃ i:Nat,iv = .int .i64 i/\i<=l.length/\Hid (sortP l x=l.take i ++ x::l.drop i)/\w'.ownsRow (w.heap.size+1) 55 10 ov (l.take i).length (pcCells (l.take i))/\Blk w' w.heap.size x.cs/\Below w.heap.size w w')
 case first=>
  go_wp2_with fail
  go_loopw [5,6] (fun ov iv w'=>∃ i:Nat,iv = .int .i64 i/\i<=l.length/\w'.ownsRow (w.heap.size+1) 55 10 ov (l.take i).length (pcCells (l.take i))/\Hid (l.dropWhile (fun y=>aheadB (pairOf y) (pairOf x))=(l.drop i).dropWhile (fun y=>aheadB (pairOf y) (pairOf x)))/\Hid (l.takeWhile (fun y=>aheadB (pairOf y) (pairOf x))=l.take i ++ (l.drop i).takeWhile (fun y=>aheadB (pairOf y) (pairOf x)))/\Blk w' w.heap.size x.cs/\Below w.heap.size w w') (fun _ iv _=>l.length-(intOf iv).toNat)
  case atStart=>exact ⟨0,rfl,Nat.zero_le _,World.ownsRow_nil _ _ _ _,rfl,rfl,Blk.new w _ _,(Below.refl _ _).alloc (Nat.le_refl _) _⟩
  case round=>
   obtain ⟨i,rfl,hi,hO,HD,HT,hX,hbel⟩:=hrel
   by_cases hlt:i<l.length
   ·obtain ⟨b,off,rfl,hb,hs⟩:=H3.out i hlt
    have hs':=hs.later hbel hb
    obtain ⟨S1,S2⟩:=sortP_go hlt HD.out HT.out
    have HS1:=hide S1
    have HS2:=hide S2
    have gy:=GL.out _ (getD_mem hlt zPc)
    have HTk:Hid (l.take (i+1)=l.take i ++ [l.getD i zPc]):=by
     refine hide ?_
     rw [List.take_succ_eq_append_getElem hlt,List.getD_eq_getElem?_getD,List.getElem?_eq_getElem hlt];rfl
    have HPT:Hid (∀ wz,Below w.heap.size w wz->PceAt wz b (off+i*10) (l.getD i zPc)):=fun wz kz=>hs.later kz hb
    generalize l.getD i zPc=y at *
    have C:=fun wz=>ahead_any y x wz gy.1 gy.2 gx.1 gx.2
    have hi0:(0:Int)<=(i:Int):=Int.natCast_nonneg _
    have hi1:(i:Int)<(l.length:Int):=by omega
    have hO':=hide hO
    have hX':=hide hX
    have hB':=hide hbel
    obtain ⟨cx,fx,zx⟩:=id hX
    have c0:=hs' 0 (by decide)
    have c1:=hs' 1 (by decide)
    have c2:=hs' 2 (by decide)
    have c3:=hs' 3 (by decide)
    have c4:=hs' 4 (by decide)
    have c5:=hs' 5 (by decide)
    have c6:=hs' 6 (by decide)
    have c7:=hs' 7 (by decide)
    have c8:=hs' 8 (by decide)
    have c9:=hs' 9 (by decide)
    simp only [pcCell,Nat.add_zero,List.getElem?_cons_zero,List.getElem?_cons_succ] at c0 c1 c2 c3 c4 c5 c6 c7 c8 c9
    clear hs hs' hO hX S1 S2 HD HT
    go_upto_region 3 with fail
    go_cut [18] (fun c w'=>c = .bool (aheadB (pairOf y) (pairOf x))/\Below wr.heap.size wr w')
    case first=>
     clear HS1 HS2 HTk HPT hO' hX' hB' H3 GL
     go_region_with (go_at_call 113;refine (C _).mono ?_;rintro e' w2 ⟨rfl,k2⟩)
     all_goals
      go_wp2_with fail
      go_meet
      case rel=>exact ⟨rfl,bvia (Below.refl _ _).drew k2⟩
    case rest=>
     obtain ⟨rfl,k2⟩:=hcut
     have O2:=hide (own_later hO'.out k2)
     have X2:=hX'.out.call k2
     have B2:=bvia hB'.out k2
     have zb:=B2.size
     clear c0 c1 c2 c3 c4 c5 c6 c7 c8 c9 cx fx zx k2 hO' hX' hB' hbel C
     cases ha:aheadB (pairOf y) (pairOf x)
     ·have HE:=hide (HS2.out ha)
      clear HS1 HS2
      go_wp2
      go_meet
      case rel=>exact ⟨i,rfl,hi,HE,O2.out,X2,B2⟩
     ·have HE:=hide (HS1.out ha)
      have hs':=HPT.out _ B2
      have c0:=hs' 0 (by decide)
      have c1:=hs' 1 (by decide)
      have c2:=hs' 2 (by decide)
      have c3:=hs' 3 (by decide)
      have c4:=hs' 4 (by decide)
      have c5:=hs' 5 (by decide)
      have c6:=hs' 6 (by decide)
      have c7:=hs' 7 (by decide)
      have c8:=hs' 8 (by decide)
      have c9:=hs' 9 (by decide)
      simp only [pcCell,Nat.add_zero,List.getElem?_cons_zero,List.getElem?_cons_succ] at c0 c1 c2 c3 c4 c5 c6 c7 c8 c9
      have htl:(l.take i).length<=1000000:=by simp;omega
      clear HS1 HS2 hs' HPT
      generalize l.take i=t at *
      have hnews:=World.news_of_block (w:=wc.alloc (.cells y.cs 55)) (cs:=y.cs) (t:=55) (fr:=(0,0)) (heap_alloc_new wc _)
      go_wp2_with (at_builtin;refine wpList_append_lies _ rfl _ _ _ rfl (w.heap.size+1) 55 i2 _ 10 56 Tryz.underlying51 hi2 hx0 hx1 hx2 rfl (by omega) u5 t.length (pcCells t) rfl (O2.out.alloc _) ⟨wc.heap.size,0,none⟩ 1 1 (pcCell y) rfl rfl hnews (by simp [pcCell,Value.oneCell']) (by omega) (by unfold maxLen;omega) (by omega) (by simp;omega) _ rfl ?_;intro gg cp w4 ho hgrow hat hlt4)
      have O4:Hid (w4.ownsRow (w.heap.size+1) 55 10 (.slice (some ⟨gg,0,none⟩) (t.length+1) cp) (t ++ [y]).length (pcCells (t ++ [y]))):=by
       refine hide ?_
       rw [pcCells_snoc,List.length_append];exact ho
      have hlo:=O2.out.lt
      have K4:Kp (fun b=>u5.ownBlock=some b) wc w4:=Kp.grown ((Kp.refl _ _).alloc _) hgrow (fun k hk=>hk)
      have X4:=X2.kp K4 (fun h=>by have:=(hlo _ h).1;omega)
      have B4:=below_kp B2 K4 B2.size (fun b h=>by have:=(hlo b h).1;omega)
      clear hnews ho hgrow hat hlt4 K4 hlo c0 c1 c2 c3 c4 c5 c6 c7 c8 c9
      go_wp2
      go_roundw
      case rel=>exact ⟨i+1,by go_num,by omega,by rw [HTk.out];exact O4.out,HE.out.1,by rw [HTk.out] at HE ⊢;exact HE.out.2,X4,B4⟩
      case measure=>simp [intOf];omega
   ·have ei:i=l.length:=by omega
    subst ei
    have HE:Hid (sortP l x=l.take l.length ++ x::l.drop l.length):=by
     refine hide ?_
     unfold sortP
     rw [HD.out,HT.out,List.drop_length];simp
    have e0 : ¬ (l.length:Int)<(l.length:Int):=by omega
    have e1:decide ((l.length:Int)<(l.length:Int))=false:=by simp
    have hO':=hide hO
    clear hO HD HT
    go_upto_region 3 with fail
    go_cut [18] (fun c w'=>c = .bool false/\∃ m,w'=wr.drewN m)
    case first=>
     go_quiet (fail)
     go_wp2
     go_meet
     case rel=>exact ⟨rfl,_,rfl⟩
    case rest=>
     obtain ⟨rfl,m,rfl⟩:=hcut
     go_wp2
     go_meet
     case rel=>exact ⟨l.length,rfl,Nat.le_refl _,HE,own_later hO'.out (below_drewN (Below.refl _ _) m),hX.call (below_drewN (Below.refl _ _) m),below_drewN hbel m⟩
 case rest=>
  obtain ⟨i,rfl,hi,HE,hO,hX,hbel⟩:=hcut
  have htl:(l.take i).length=i:=by simp;omega
  obtain ⟨cx,fx,zx⟩:=id hX
  have GO:=hide hO
  have hnews:=World.news_of_block (w:=wc.alloc (.cells x.cs 55)) (cs:=x.cs) (t:=55) (fr:=(0,0)) (heap_alloc_new wc _)
  clear hO
  go_upto_region 7 with (at_builtin;refine wpList_append_lies _ rfl _ _ _ rfl (w.heap.size+1) 55 i2 _ 10 56 Tryz.underlying51 hi2 hx0 hx1 hx2 rfl (by omega) u5 (l.take i).length (pcCells (l.take i)) rfl (GO.out.alloc _) ⟨wc.heap.size,0,none⟩ 1 1 (pcCell x) rfl rfl hnews (by simp [pcCell,Value.oneCell']) (by omega) (by unfold maxLen;omega) (by omega) (by simp;omega) _ rfl ?_;intro gg cp w4 ho hgrow hat hlt4)
  have hlo:=GO.out.lt
  have K4:Kp (fun b=>u5.ownBlock=some b) wc w4:=Kp.grown ((Kp.refl _ _).alloc _) hgrow (fun k hk=>hk)
  have B4:=below_kp hbel K4 hbel.size (fun b h=>by have:=(hlo b h).1;omega)
  have zb:=B4.size
  have hgg:w.heap.size+1<=gg:=(ho.lt gg rfl).1
  rw [htl] at ho
  have O4:=hide ho
  clear hnews ho hgrow hat K4 hlo GO cx fx zx hX hbel
  by_cases hlt:i<l.length
  ·obtain ⟨b,off,rfl,hb,_⟩:=H3.out i hlt
   have hne : ¬ cap=i:=by omega
   have HN:Hid (∀ t u,(pcCells (l.drop i))[t]?=some u->w4.cell? ((⟨b,off+i*10,none⟩:Addr).add t)=some u):=by
    refine hide (PceAt.news fun j hj=>?_)
    have hj':i+j<l.length:=by simp at hj;omega
    obtain ⟨b',off',e,hb',h⟩:=H3.out (i+j) hj'
    injection e with e;injection e with e1 e2;subst e1;subst e2
    have:=h.later B4 hb
    have e3:off+i*10+j*10=off+(i+j)*10:=by omega
    rw [e3]
    have e4:(l.drop i).getD j zPc=l.getD (i+j) zPc:=by simp [List.getD_eq_getElem?_getD]
    rw [e4];exact this
   go_wp2_with (at_builtin;refine wpList_append_lies _ rfl _ _ _ rfl (w.heap.size+1) 55 i2 _ 10 56 Tryz.underlying51 hi2 hx0 hx1 hx2 rfl (by omega) (.slice (some ⟨gg,0,none⟩) (i+1) cp) (i+1) (pcCells (l.take i) ++ pcCell x) rfl O4.out ⟨b,off+i*10,none⟩ (l.length-i) (cap-i) (pcCells (l.drop i)) rfl (by rw [pcCells_len,List.length_drop]) HN.out (pcCells_one _) (by omega) (by unfold maxLen;omega) (by omega) (by omega) _ rfl ?_;intro g6 c6 w6 h6 hgrow hat hlt6)
   have B6:=below_kp B4 (Kp.grown (Kp.refl (fun b=>b=gg) w4) hgrow (fun k hk=>(Option.some.inj hk).symm)) B4.size (fun b h=>by omega)
   have F6:Hid (w6.ownsRow (w.heap.size+1) 55 10 (.slice (some ⟨g6,0,none⟩) (i+1+(l.length-i)) c6) (sortP l x).length (pcCells (sortP l x))):=by
    refine hide ?_
    have e1:(sortP l x).length=i+1+(l.length-i):=by rw [HE.out];simp;omega
    have e2:pcCells (sortP l x)=pcCells (l.take i) ++ pcCell x ++ pcCells (l.drop i):=by
     rw [HE.out,pcCells_app,List.append_assoc];congr 1
    rw [e1,e2];exact h6
   go_ret
   exact ⟨_,rfl,F6.out,B6⟩
  ·have ei:i=l.length:=by omega
   subst ei
   have F6:Hid (w4.ownsRow (w.heap.size+1) 55 10 (.slice (some ⟨gg,0,none⟩) (l.length+1) cp) (sortP l x).length (pcCells (sortP l x))):=by
    refine hide ?_
    have e1:(sortP l x).length=l.length+1:=by rw [HE.out];simp
    have e2:pcCells (sortP l x)=pcCells (l.take l.length) ++ pcCell x:=by
     rw [HE.out,List.drop_length,<-pcCells_snoc]
    rw [e1,e2];exact O4.out
   go_wp2_with (at_builtin;refine wpList_append_zero rfl _ _ _ rfl (w.heap.size+1) 55 i2 10 Tryz.underlying51 hi2 (.slice (some ⟨gg,0,none⟩) (l.length+1) cp) (l.length+1) (pcCells (l.take l.length) ++ pcCell x) rfl O4.out _ _ rfl ?_)
   all_goals
    go_ret
    exact ⟨_,rfl,F6.out,B4⟩
set_option maxRecDepth 100000 in
set_option maxHeartbeats 4000000 in
theorem rEdges_own (v:Value)(P:List (List Pt))(w:World)(hP:PolyAt w v P)(hT:(edgesM P).length<=100000) :
  Calls Tryz.prog 42 #[v] w fun e w'=>∃ v',e = .returned v'/\w'.ownsRow w.heap.size 73 6 v' (edgesM P).length (segCells (edgesM P))/\Below w.heap.size w w':=by
 obtain ⟨i0,hi0,hz0,hz1,hz2⟩:=info_parts infoEdge
 obtain ⟨a,cap,rfl,h1,h2,h3⟩:=hP
 unfold maxLen at h2
 go_enter Tryz.func42,Tryz.ntmps42
 go_wp2_with fail
 go_loopw [3,4,5,6] (fun ev c _ _ w'=>∃ i:Nat,c = .int .i64 i/\i<=P.length/\w'.ownsRow w.heap.size 73 6 ev (edgesM (P.take i)).length (segCells (edgesM (P.take i)))/\Below w.heap.size w w') (fun _ c _ _ _=>P.length-(intOf c).toNat)
 case atStart=>exact ⟨0,rfl,Nat.zero_le _,World.ownsRow_nil _ _ _ _,Below.refl _ _⟩
 case round=>
  obtain ⟨i,rfl,hi,hown,hbel⟩:=hrel
  by_cases hlt:i<P.length
  ·obtain ⟨b,off,rv,rfl,hb,hc,hring⟩:=h3 i hlt
   have hc':=(hbel.cell (p:=⟨b,off+i,none⟩) hb).trans hc
   have u0:=upToM_zero P i
   have us:=fun j=>upToM_succ P i j
   have ue:=upToM_end P i hlt
   have ul:=fun j=>upToM_le P i j hlt
   generalize hr:P.getD i []=r at *
   obtain ⟨a',cap',rfl,g1,g2,g3⟩:=hring
   unfold maxLen at g2
   rw [<-u0] at hown
   have U0:=hide u0
   have US:=hide us
   have UE:=hide ue
   have UL:=hide ul
   have HT:=hide hT
   clear h3 hr u0 us ue ul hT
   go_wp2_with fail
   go_loopw [3,6] (fun ev c w'=>∃ j:Nat,c = .int .i64 j/\j<=r.length/\w'.ownsRow w.heap.size 73 6 ev (upToM P i j).length (segCells (upToM P i j))/\Below w.heap.size w w') (fun _ c _=>r.length-(intOf c).toNat)
   case atStart=>exact ⟨0,rfl,Nat.zero_le _,hown,hbel⟩
   case round=>
    clear hown hbel hc'
    obtain ⟨j,rfl,hj,hown,hbel⟩:=hrel
    have hc':=(hbel.cell (p:=⟨b,off+i,none⟩) hb).trans hc
    by_cases hjt:j<r.length
    ·obtain ⟨b',off',rfl,hb',hp'⟩:=g3 j hjt
     obtain ⟨px,py,pd⟩:=hp'.later hbel hb'
     obtain ⟨b2,off2,e2,_,hq0⟩:=g3 (if j+1=r.length then 0 else j+1) (by split <;> omega)
     simp at e2
     obtain ⟨rfl,rfl⟩:=e2
     have hq:=hq0.later hbel hb'
     have EA:=hide (show edgeAt r j=(r.getD j zP,r.getD (if j+1=r.length then 0 else j+1) zP) from rfl)
     generalize r.getD j zP=p at *
     by_cases hlast:j+1=r.length
     ·rw [if_pos hlast] at hq EA
      generalize r.getD 0 zP=q at *
      obtain ⟨qx,qy,qd⟩:=hq
      clear g3 hp' hq0
      simp only [Nat.zero_mul,Nat.add_zero] at qx qy qd
      have e1:((j:Int)+1) % (r.length:Int)=0:=by rw [show (j:Int)+1=(r.length:Int) by omega];exact Int.emod_self
      have e1t:((j:Int)+1).tmod (r.length:Int)=0:=by rw [Int.tmod_eq_emod_of_nonneg (by omega)];exact e1
      clear hlast
      have hbw:b'<wr.heap.size:=by have:=hbel.size;omega
      have hbw2:b<wr.heap.size:=by have:=hbel.size;omega
      have hne2:u3.ownBlock≠some b':=fun e=>by have:=(hown.lt _ e).1;omega
      have hne3:u3.ownBlock≠some b:=fun e=>by have:=(hown.lt _ e).1;omega
      have hlen:=UL.out j hj
      have hT12:=HT.out
      have hn1:(upToM P i j).length+1<=maxLen:=by unfold maxLen;omega
      have hn2:((upToM P i j).length+1)*48<=140737488355328:=by omega
      have hpos:(0:Int)<(r.length:Int):=by omega
      have hposN:0<r.length:=by omega
      have hposM : ¬ r.length=0:=by omega
      have hposL : ¬ r=[]:=by intro e;rw [e] at hposN;simp at hposN
      have hj0:(0:Int)<=(j:Int):=Int.natCast_nonneg _
      have hj1:(j:Int)<(r.length:Int):=by omega
      have ewr:IntKind.i64.wrap ((j:Int)+1)=(j:Int)+1:=by simp [IntKind.wrap,IntKind.bits,IntKind.signed];omega
      have hii0:(0:Int)<=(i:Int):=Int.natCast_nonneg _
      have hii1:(i:Int)<(P.length:Int):=by omega
      go_wp2_with fail
      go_region_held3 (fun w'=>w'.cell? ⟨b,off+i,none⟩=some (.slice (some ⟨b',off',none⟩) r.length cap')/\w'.cell? ⟨b',off'+j*3,none⟩=some (.int .i64 p.x)/\w'.cell? ⟨b',off'+j*3+1,none⟩=some (.int .i64 p.y)/\w'.cell? ⟨b',off'+j*3+2,none⟩=some (.int .i64 p.d)/\
        w'.cell? ⟨b',off',none⟩=some (.int .i64 q.x)/\w'.cell? ⟨b',off'+1,none⟩=some (.int .i64 q.y)/\w'.cell? ⟨b',off'+2,none⟩=some (.int .i64 q.d))
       (first
        | go_keep
        |(go_split_ands
          refine ⟨?_,?_,?_,?_,?_,?_,?_⟩
          ·(
           rw [hgrow.cell_far _ (by simp;omega) (Ne.symm hne3)];assumption)
          ·(
           rw [hgrow.cell_far _ (by simp;omega) (Ne.symm hne2)];assumption)
          ·(
           rw [hgrow.cell_far _ (by simp;omega) (Ne.symm hne2)];assumption)
          ·(
           rw [hgrow.cell_far _ (by simp;omega) (Ne.symm hne2)];assumption)
          ·(
           rw [hgrow.cell_far _ (by simp;omega) (Ne.symm hne2)];assumption)
          ·(
           rw [hgrow.cell_far _ (by simp;omega) (Ne.symm hne2)];assumption)
          ·(
           rw [hgrow.cell_far _ (by simp;omega) (Ne.symm hne2)];assumption)))
       ((
        refine step_append_lies _ (by rfl) _ _ _ (by rfl) w.heap.size 73 i0 _ 6 48 Tryz.underlying78 hi0 hz0 hz1 hz2 rfl (by omega) u3 (upToM P i j).length (segCells (upToM P i j)) (by rfl) ((hown.alloc _).drew) ⟨wr.heap.size,0,none⟩ 1 1 (segCell (p,q)) (by rfl) (by rfl) (World.news_of_block (cs:=#[.int .i64 p.x,.int .i64 p.y,.int .i64 p.d,.int .i64 q.x,.int .i64 q.y,.int .i64 q.d]) (t:=73) (fr:=(0,0)) (heap_alloc_new wr _)) (by simp [segCell,Value.oneCell']) (by omega) hn1 hn2 (by have:=hbel.size;simp;omega) (wr.heap.size+1) (by simp) ?_;intro gg cp w1 hown1 hgrow hat hlt1))
      have HO:Hid (w1.ownsRow w.heap.size 73 6 (.slice (some ⟨gg,0,none⟩) ((upToM P i j).length+1) cp) (upToM P i (j+1)).length (segCells (upToM P i (j+1)))):=by
       refine hide ?_
       have e:=US.out j hjt
       rw [EA.out] at e
       rw [e,segCells_snoc]
       simpa using hown1
      have B1:Below w.heap.size w w1:=by
       refine Below.grown ((hbel.alloc hbel.size _).drew) hgrow (by have:=hbel.size;simp;omega) (fun k hk=>(hown.lt k hk).1)
      clear hown hown1 hgrow px py pd qx qy qd hat
      go_wp2
      go_roundw
      case rel=>exact ⟨j+1,by go_num,by omega,HO,B1⟩
      case measure=>simp [intOf];omega
     ·rw [if_neg hlast] at hq EA
      generalize r.getD (j+1) zP=q at *
      obtain ⟨qx,qy,qd⟩:=hq
      clear g3 hp' hq0
      have e1:((j:Int)+1) % (r.length:Int)=(j:Int)+1:=Int.emod_eq_of_lt (by omega) (by omega)
      have e1t:((j:Int)+1).tmod (r.length:Int)=(j:Int)+1:=by rw [Int.tmod_eq_emod_of_nonneg (by omega)];exact e1
      have e2:(j:Int)+1<(r.length:Int):=by omega
      have e3:(0:Int)<=(j:Int)+1:=by omega
      have hbw:b'<wr.heap.size:=by have:=hbel.size;omega
      have hbw2:b<wr.heap.size:=by have:=hbel.size;omega
      have hne2:u3.ownBlock≠some b':=fun e=>by have:=(hown.lt _ e).1;omega
      have hne3:u3.ownBlock≠some b:=fun e=>by have:=(hown.lt _ e).1;omega
      have hlen:=UL.out j hj
      have hT12:=HT.out
      have hn1:(upToM P i j).length+1<=maxLen:=by unfold maxLen;omega
      have hn2:((upToM P i j).length+1)*48<=140737488355328:=by omega
      have hpos:(0:Int)<(r.length:Int):=by omega
      have hposN:0<r.length:=by omega
      have hposM : ¬ r.length=0:=by omega
      have hposL : ¬ r=[]:=by intro e;rw [e] at hposN;simp at hposN
      have hj0:(0:Int)<=(j:Int):=Int.natCast_nonneg _
      have hj1:(j:Int)<(r.length:Int):=by omega
      have ewr:IntKind.i64.wrap ((j:Int)+1)=(j:Int)+1:=by simp [IntKind.wrap,IntKind.bits,IntKind.signed];omega
      have hii0:(0:Int)<=(i:Int):=Int.natCast_nonneg _
      have hii1:(i:Int)<(P.length:Int):=by omega
      go_wp2_with fail
      go_region_held3 (fun w'=>w'.cell? ⟨b,off+i,none⟩=some (.slice (some ⟨b',off',none⟩) r.length cap')/\w'.cell? ⟨b',off'+j*3,none⟩=some (.int .i64 p.x)/\w'.cell? ⟨b',off'+j*3+1,none⟩=some (.int .i64 p.y)/\w'.cell? ⟨b',off'+j*3+2,none⟩=some (.int .i64 p.d)/\
        w'.cell? ⟨b',off'+(j+1)*3,none⟩=some (.int .i64 q.x)/\w'.cell? ⟨b',off'+(j+1)*3+1,none⟩=some (.int .i64 q.y)/\w'.cell? ⟨b',off'+(j+1)*3+2,none⟩=some (.int .i64 q.d))
       (first
        | go_keep
        |(go_split_ands
          refine ⟨?_,?_,?_,?_,?_,?_,?_⟩
          ·(
           rw [hgrow.cell_far _ (by simp;omega) (Ne.symm hne3)];assumption)
          ·(
           rw [hgrow.cell_far _ (by simp;omega) (Ne.symm hne2)];assumption)
          ·(
           rw [hgrow.cell_far _ (by simp;omega) (Ne.symm hne2)];assumption)
          ·(
           rw [hgrow.cell_far _ (by simp;omega) (Ne.symm hne2)];assumption)
          ·(
           rw [hgrow.cell_far _ (by simp;omega) (Ne.symm hne2)];assumption)
          ·(
           rw [hgrow.cell_far _ (by simp;omega) (Ne.symm hne2)];assumption)
          ·(
           rw [hgrow.cell_far _ (by simp;omega) (Ne.symm hne2)];assumption)))
       ((
        refine step_append_lies _ (by rfl) _ _ _ (by rfl) w.heap.size 73 i0 _ 6 48 Tryz.underlying78 hi0 hz0 hz1 hz2 rfl (by omega) u3 (upToM P i j).length (segCells (upToM P i j)) (by rfl) ((hown.alloc _).drew) ⟨wr.heap.size,0,none⟩ 1 1 (segCell (p,q)) (by rfl) (by rfl) (World.news_of_block (cs:=#[.int .i64 p.x,.int .i64 p.y,.int .i64 p.d,.int .i64 q.x,.int .i64 q.y,.int .i64 q.d]) (t:=73) (fr:=(0,0)) (heap_alloc_new wr _)) (by simp [segCell,Value.oneCell']) (by omega) hn1 hn2 (by have:=hbel.size;simp;omega) (wr.heap.size+1) (by simp) ?_;intro gg cp w1 hown1 hgrow hat hlt1))
      have HO:Hid (w1.ownsRow w.heap.size 73 6 (.slice (some ⟨gg,0,none⟩) ((upToM P i j).length+1) cp) (upToM P i (j+1)).length (segCells (upToM P i (j+1)))):=by
       refine hide ?_
       have e:=US.out j hjt
       rw [EA.out] at e
       rw [e,segCells_snoc]
       simpa using hown1
      have B1:Below w.heap.size w w1:=by
       refine Below.grown ((hbel.alloc hbel.size _).drew) hgrow (by have:=hbel.size;simp;omega) (fun k hk=>(hown.lt k hk).1)
      clear hown hown1 hgrow px py pd qx qy qd hat
      go_wp2
      go_roundw
      case rel=>exact ⟨j+1,by go_num,by omega,HO,B1⟩
      case measure=>simp [intOf];omega
    ·have ej:j=r.length:=by omega
     subst ej
     have HO:Hid (wr.ownsRow w.heap.size 73 6 u3 (edgesM (P.take (i+1))).length (segCells (edgesM (P.take (i+1))))):=by
      rw [UE.out] at hown;exact hown
     clear hown g3
     go_wp2
     go_roundw
     case rel=>exact ⟨i+1,by go_num,by omega,HO,hbel⟩
     case measure=>simp [intOf];omega
  ·have e:P.take i=P:=List.take_of_length_le (by omega)
   rw [e] at hown
   clear h3
   go_wp2
   go_ret
   exact ⟨_,rfl,hown,hbel⟩
end Go.Proofs.YtnkcbephceollabGreat
