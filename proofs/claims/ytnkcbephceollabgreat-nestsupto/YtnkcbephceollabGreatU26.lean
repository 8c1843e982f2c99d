import Derived.Test.YtnkcbephceollabGreatU25
namespace Go.Proofs.YtnkcbephceollabGreat
open Go.RowKit
set_option linter.unusedSimpArgs false
set_option linter.unusedVariables false
theorem own_mono {w:World}{base base':Nat}{e:TypeId}{s:Nat}{v:Value}{n:Nat}{xs:List Value}(h:w.ownsRow base e s v n xs)(hb:base'<=base):w.ownsRow base' e s v n xs:=by
 refine ⟨h.1,?_⟩
 rcases h.2 with h2 | ⟨g,cap,cur,rfl,h3,r⟩
 ·exact .inl h2
 ·exact .inr ⟨g,cap,cur,rfl,Nat.le_trans hb h3,r⟩
theorem SegAt.at {w:World}{b o:Nat}{e:Pt×Pt}(h:SegAt w b o e)(t:Nat)(ht:t<6):w.cell? ⟨b,o+t,none⟩=(segCell e)[t]?:=by
 match t,ht with
 | 0,_=>exact h.c0
 | 1,_=>exact h.c1
 | 2,_=>exact h.c2
 | 3,_=>exact h.c3
 | 4,_=>exact h.c4
 | 5,_=>exact h.c5
theorem segs_news {w:World}{b off:Nat}{E:List (Pt×Pt)}(h:∀ j,j<E.length->SegAt w b (off+j*6) (E.getD j (zP,zP))) :
  ∀ t u,(segCells E)[t]?=some u->w.cell? ((⟨b,off,none⟩:Addr).add t)=some u:=by
 intro t u hu
 have hl:t<E.length*6:=by
  have:=(List.getElem?_eq_some_iff.1 hu).1;rwa [segCells_len] at this
 have hd:t=t / 6*6+t % 6:=by omega
 have h1:=(h (t / 6) (by omega)).at (t % 6) (by omega)
 rw [hd,segCells_at E (t / 6) (t % 6) (by omega) (by omega)] at hu
 have e:(⟨b,off,none⟩:Addr).add t=⟨b,off+t / 6*6+t % 6,none⟩:=by
  have:=cell_off2 b off t
  rw [this];congr 1;omega
 rw [e,h1,hu]
theorem segCells_one (E:List (Pt×Pt)):∀ u∈segCells E,u.oneCell'=true:=by
 intro u hu
 unfold segCells at hu
 obtain ⟨e,_,h⟩:=List.mem_flatMap.1 hu
 simp [segCell] at h
 rcases h with rfl | rfl | rfl | rfl | rfl | rfl <;> rfl
theorem segCells_app (E F:List (Pt×Pt)):segCells (E ++ F)=segCells E ++ segCells F:=by simp [segCells]
def pcCell (x:Pc):List Value:=[.int .i64 x.p.x,.int .i64 x.p.y,.int .i64 x.p.d,.int .i64 x.q.x,.int .i64 x.q.y,.int .i64 x.q.d,.bool x.la,.bool x.ra,.bool x.lb,.bool x.rb]
def pcCells (l:List Pc):List Value:=l.flatMap pcCell
theorem pcCells_len (l:List Pc):(pcCells l).length=l.length*10:=by
 unfold pcCells
 induction l with
 | nil=>rfl
 | cons e l ih=>simp [pcCell,ih];omega
theorem pcCells_snoc (l:List Pc)(x:Pc):pcCells (l ++ [x])=pcCells l ++ pcCell x:=by simp [pcCells]
theorem neigh_len (p:Pt)(B:List Pt):∀ (E:List (Pt×Pt)) (l:List Pt),(E.foldl (nstep p B) l).length<=l.length+E.length
 | [],l=>Nat.le_refl _
 | e::E,l=>by
  have h1:=neigh_len p B E (nstep p B l e)
  have h2:=nstep_len p B l e
  simp only [List.foldl_cons,List.length_cons];omega
theorem neigh_len' (p:Pt)(B:List Pt)(E:List (Pt×Pt)):(neighM p B E).length<=E.length:=by
 have:=neigh_len p B E []
 simpa [neigh_fold] using this
theorem neigh_gd {p:Pt}{B:List Pt}(hB:∀ x∈B,Gd x):∀ (E:List (Pt×Pt)) (l:List Pt),(∀ x∈l,Gd x)->∀ x∈E.foldl (nstep p B) l,Gd x
 | [],l,h=>h
 | e::E,l,h=>neigh_gd hB E _ (fun x hx=>(nstep_mem hx).elim (hB x) (h x))
theorem pairs_drop (E:List (Pt×Pt))(S:List Pt)(i:Nat)(hi:i<S.length):pairsL E (S.drop i)=(neighM (S.getD i zP) (S.drop (i+1)) E).map (fun q=>(S.getD i zP,q)) ++ pairsL E (S.drop (i+1)):=by
 rw [List.drop_eq_getElem_cons hi,List.getD_eq_getElem?_getD,List.getElem?_eq_getElem hi];rfl
theorem RingAt.drop {w:World}{a:Option Addr}{cap:Nat}{r:List Pt}(h:RingAt w (.slice a r.length cap) r)(k:Nat)(hk:k<r.length):∃ b off,a=some ⟨b,off,none⟩/\RingAt w (.slice (some ⟨b,off+k*3,none⟩) (r.length-k) (cap-k)) (r.drop k):=by
 obtain ⟨a',cap',e,h1,h2,h3⟩:=h
 simp at e
 obtain ⟨rfl,rfl⟩:=e
 obtain ⟨b,off,rfl,_,_⟩:=h3 k hk
 refine ⟨b,off,rfl,some ⟨b,off+k*3,none⟩,cap-k,by simp,by simp;omega,by unfold maxLen at *;omega,fun j hj=>?_⟩
 obtain ⟨b',off',e',hb,hp⟩:=h3 (k+j) (by simp at hj;omega)
 simp at e'
 obtain ⟨rfl,rfl⟩:=e'
 refine ⟨b,off+k*3,rfl,hb,?_⟩
 have e1:(r.drop k).getD j zP=r.getD (k+j) zP:=by
  rw [List.getD_eq_getElem?_getD,List.getD_eq_getElem?_getD,List.getElem?_drop]
 have e2:off+k*3+j*3=off+(k+j)*3:=by omega
 rw [e1,e2];exact hp
set_option maxRecDepth 100000 in
set_option maxHeartbeats 4000000 in
theorem cutPieces_any (va vb:Value)(A B:List (List Pt))(w:World)(hA:PolyAt w va A)(hB:PolyAt w vb B)(sA:Sound A)(sB:Sound B)(nA:(edgesM A).length<=12)(nB:(edgesM B).length<=12) :
  Calls Tryz.prog 49 #[va,vb] w fun e w'=>∃ v',e = .returned v'/\w'.ownsRow w.heap.size 55 10 v' (piecesM A B).length (pcCells (piecesM A B))/\Below w.heap.size w w':=by
 obtain ⟨i0,hi0,hz0,hz1,hz2⟩:=info_parts infoSeg
 obtain ⟨i2,hi2,hx0,hx1,hx2⟩:=info_parts infoPcs
 have HG:=hide (good_both sA sB)
 have HPM:=hide (show piecesM A B=(pairsL (edgesM A ++ edgesM B) (spotsM (edgesM A ++ edgesM B))).map (pcOf (edgesM A) (edgesM B)) from rfl)
 have C1:=Edges_any va A w hA (by omega)
 have C2:=fun (wz:World) (k:Below w.heap.size w wz)=>Edges_any vb B wz (hB.later k) (by omega)
 have gA:GdE (edgesM A):=fun j hj=>by
  have he:=getD_mem hj (zP,zP)
  exact ⟨(sA.gr _ (edge_ends he).1).gd,(sA.gr _ (edge_ends he).2).gd⟩
 have gB:GdE (edgesM B):=fun j hj=>by
  have he:=getD_mem hj (zP,zP)
  exact ⟨(sB.gr _ (edge_ends he).1).gd,(sB.gr _ (edge_ends he).2).gd⟩
 have HgA:=hide gA
 have HgB:=hide gB
 clear gA gB hA hB sA sB
 generalize edgesM A=EA at *
 generalize edgesM B=EB at *
 go_enter Tryz.func49,Tryz.ntmps49
 go_wp2_with fail
 refine C1.mono ?_
 rintro e w1 ⟨ea,rfl,hEA,k1⟩
 go_wp2_with fail
 refine (C2 _ k1).mono ?_
 rintro e w2 ⟨eb,rfl,hEB,k2⟩
 have B2:=bvia k1 k2
 have EA2:=hEA.later k2
 obtain ⟨aa,acap,rfl,a1,a2,a3⟩:=id EA2
 obtain ⟨ba,bcap,rfl,b1,b2,b3⟩:=id hEB
 unfold maxLen at a2 b2
 have HEA:=hide EA2
 have HEB:=hide hEB
 have hsz:=B2.size
 clear hEA k1 k2 C1 C2 EA2 hEB
 go_upto_region 4 with fail
 go_cut [7] (fun av w'=>w'.ownsRow w2.heap.size 70 6 av EA.length (segCells EA)/\Below w2.heap.size w2 w')
 case first=>
  by_cases h0:0<EA.length
  ·obtain ⟨b,off,rfl,hb,_⟩:=a3 0 h0
   have hseg:∀ j,j<EA.length->SegAt w2 b (off+j*6) (EA.getD j (zP,zP)):=fun j hj=>by
    obtain ⟨b',off',e',_,hp⟩:=a3 j hj
    simp at e'
    obtain ⟨rfl,rfl⟩:=e'
    exact hp
   have HN:=hide (segs_news hseg)
   have hn1:0+EA.length<=maxLen:=by unfold maxLen;omega
   have hn2:(0+EA.length)*48<=140737488355328:=by omega
   go_wp2_with (at_builtin;refine wpList_append_lies _ rfl _ _ _ rfl w2.heap.size 70 i0 _ 6 48 Tryz.underlying107 hi0 hz0 hz1 hz2 rfl (by omega) (.slice none 0 0) 0 [] rfl (World.ownsRow_nil _ _ _ _) ⟨b,off,none⟩ EA.length acap (segCells EA) rfl (segCells_len EA) HN.out (segCells_one EA) h0 hn1 hn2 (Nat.le_refl _) _ rfl ?_;intro gg cp w3 hown3 hgrow hat hlt3)
   go_meet
   case rel=>exact ⟨by simpa using hown3,Below.grown (Below.refl _ _) hgrow (Nat.le_refl _) (fun k hk=>by simp [Value.ownBlock] at hk)⟩
  ·have er:EA=[]:=List.eq_nil_of_length_eq_zero (by omega)
   subst er
   go_wp2_with (at_builtin;refine wpList_append_zero rfl _ _ _ rfl w2.heap.size 70 i0 6 Tryz.underlying107 hi0 (.slice none 0 0) 0 [] rfl (World.ownsRow_nil _ _ _ _) aa acap rfl ?_)
   go_meet
   case rel=>exact ⟨World.ownsRow_nil _ _ _ _,Below.refl _ _⟩
 case rest=>
  obtain ⟨oA,k3⟩:=hcut
  go_upto_region 5 with fail
  go_cut [7] (fun av w'=>w'.ownsRow w2.heap.size 70 6 av (EA ++ EB).length (segCells (EA ++ EB))/\Below w2.heap.size w2 w')
  case first=>
   by_cases h0:0<EB.length
   ·obtain ⟨b,off,rfl,hb,_⟩:=b3 0 h0
    have hseg:∀ j,j<EB.length->SegAt wc b (off+j*6) (EB.getD j (zP,zP)):=fun j hj=>by
     obtain ⟨b',off',e',_,hp⟩:=b3 j hj
     simp at e'
     obtain ⟨rfl,rfl⟩:=e'
     exact hp.later k3 hb
    have HN:=hide (segs_news hseg)
    have hn1:EA.length+EB.length<=maxLen:=by unfold maxLen;omega
    have hn2:(EA.length+EB.length)*48<=140737488355328:=by omega
    have hsz3:=k3.size
    have oA':=hide oA
    go_wp2_with (at_builtin;refine wpList_append_lies _ rfl _ _ _ rfl w2.heap.size 70 i0 _ 6 48 Tryz.underlying107 hi0 hz0 hz1 hz2 rfl (by omega) u7 EA.length (segCells EA) rfl oA'.out ⟨b,off,none⟩ EB.length bcap (segCells EB) rfl (segCells_len EB) HN.out (segCells_one EB) h0 hn1 hn2 hsz3 _ rfl ?_;intro gg cp w3 hown3 hgrow hat hlt3)
    go_meet
    case rel=>exact ⟨by rw [segCells_app,List.length_append];exact hown3,Below.grown k3 hgrow k3.size (fun k hk=>(oA'.out.lt k hk).1)⟩
   ·have er:EB=[]:=List.eq_nil_of_length_eq_zero (by omega)
    subst er
    have oA':=hide oA
    go_wp2_with (at_builtin;refine wpList_append_zero rfl _ _ _ rfl w2.heap.size 70 i0 6 Tryz.underlying107 hi0 u7 EA.length (segCells EA) rfl oA'.out ba bcap rfl ?_)
    go_meet
    case rel=>exact ⟨by rw [List.append_nil];exact oA'.out,k3⟩
  case rest=>
   clear oA k3 a3 b3
   obtain ⟨oE,k4⟩:=hcut
   have hEl:(EA ++ EB).length<=24:=by simp;omega
   have hEs:=segs_of_own oE (by unfold maxLen;omega)
   obtain ⟨sa,scap,rfl,s1,s2,s3⟩:=id hEs
   have HEs:=hide hEs
   have hG24:GdE (EA ++ EB):=fun j hj=>by
    have he:=getD_mem hj (zP,zP)
    exact ⟨(HG.out.gr _ he).1.gd,(HG.out.gr _ he).2.gd⟩
   have HG24:=hide hG24
   have CS:=spotsOf_any _ (EA ++ EB) _ hEs (fun e he=>HG.out.gr e he) (by omega)
   have HSN:=hide (spots_spec HG.out).1
   clear hEs s3 hG24 oE
   generalize EA ++ EB=E at *
   go_wp2_with fail
   refine CS.mono ?_
   rintro e w5 ⟨sv,rfl,oS,k5,hSl⟩
   have hSl2:(spotsM E).length<=1152:=by
    have:E.length*E.length<=24*24:=Nat.mul_le_mul hEl hEl
    rw [Nat.mul_assoc] at hSl;omega
   generalize spotsM E=S at *
   have hS5:=ring_of_own oS (by unfold maxLen;omega)
   have k45:=bvia k4 k5
   have HE5:=hide (HEs.out.later k5)
   have HA5:=hide (HEA.out.later k45)
   have HB5:=hide (HEB.out.later k45)
   have hb25:=bvia B2 k45
   obtain ⟨ra,rcap,rfl,r1,r2,r3⟩:=id hS5
   have HS5:=hide hS5
   unfold maxLen at r2
   have HR:=hide r3
   clear CS oS k5 k4 HEs HEA HEB k45 hS5 r3 B2
   go_wp2_with fail
   go_loopw [9,10,11,13,14,15,16,17,32] (fun pv _ _ _ _ _ _ _ iv w'=>∃ (i:Nat) (D:List (Pt×Pt)),iv = .int .i64 i/\i<=S.length/\w'.ownsRow w5.heap.size 55 10 pv D.length (pcCells (D.map (pcOf EA EB)))/\D.length<=24*i/\Hid (pairsL E S=D ++ pairsL E (S.drop i))/\Below w5.heap.size w5 w') (fun _ _ _ _ _ _ _ _ iv _=>S.length-(intOf iv).toNat)
   case atStart=>exact ⟨0,[],rfl,Nat.zero_le _,World.ownsRow_nil _ _ _ _,Nat.le_refl _,rfl,Below.refl _ _⟩
   case round=>
    obtain ⟨i,D,rfl,hi,hO,hDl,HD,hbel⟩:=hrel
    by_cases hlt:i<S.length
    ·obtain ⟨b,off,rfl,hb,hs⟩:=HR.out i hlt
     obtain ⟨px,py,pd⟩:=hs.later hbel hb
     have HC:=hide (pairs_drop E S i hlt)
     have np:=HSN.out.nc _ (getD_mem hlt zP)
     have HRx:Hid (∀ wz,Below w5.heap.size w5 wz->RingAt wz (.slice (if rcap=i+1 then some ⟨b,off,none⟩ else some ⟨b,off+(i+1)*3,none⟩) (S.length-(i+1)) (rcap-(i+1))) (S.drop (i+1))):=fun wz kz=>by
      by_cases hc:rcap=i+1
      ·have e0:S.drop (i+1)=[]:=List.drop_of_length_le (by omega)
       have e1:S.length-(i+1)=0:=by omega
       rw [e0,e1]
       exact ⟨_,_,rfl,Nat.zero_le _,by unfold maxLen;omega,fun j hj=>by simp at hj⟩
      ·rw [if_neg hc]
       refine ⟨_,_,by rw [List.length_drop],by rw [List.length_drop];omega,by unfold maxLen;omega,fun j hj=>?_⟩
       rw [List.length_drop] at hj
       obtain ⟨b',off',e',hb',hp⟩:=HR.out (i+1+j) (by omega)
       simp at e'
       obtain ⟨rfl,rfl⟩:=e'
       refine ⟨b,_,rfl,Nat.lt_of_lt_of_le hb' kz.size,?_⟩
       have e1:(S.drop (i+1)).getD j zP=S.getD (i+1+j) zP:=by rw [List.getD_eq_getElem?_getD,List.getD_eq_getElem?_getD,List.getElem?_drop]
       have e2:off+(i+1)*3+j*3=off+(i+1+j)*3:=by omega
       rw [e1,e2];exact hp.later kz hb'
     have gSd:∀ x∈S.drop (i+1),Gd x:=fun x hx=>gd_nice (HSN.out.nc x (List.mem_of_mem_drop hx))
     have HNg:=hide (neigh_gd (p:=S.getD i zP) gSd E [] (fun x hx=>by cases hx))
     have hNl:=neigh_len' (S.getD i zP) (S.drop (i+1)) E
     have CN:=hide (fun (bv:Value) (wz:World) (h1:RingAt wz bv (S.drop (i+1))) (h2:SegsAt wz (.slice sa E.length scap) E)=>neighbours_any (S.getD i zP) bv (S.drop (i+1)) (.slice sa E.length scap) E wz h1 h2 (gd_nice np) gSd HG24.out (by omega))
     have HNg':Hid (∀ x∈neighM (S.getD i zP) (S.drop (i+1)) E,Gd x):=HNg
     clear HNg
     generalize neighM (S.getD i zP) (S.drop (i+1)) E=N at *
     generalize S.getD i zP=p at *
     have hi0':(0:Int)<=(i:Int):=Int.natCast_nonneg _
     have hi1':(i:Int)<(S.length:Int):=by omega
     have hO':=hide hO
     have hHB:=hide hbel
     have hsz5:=hbel.size
     clear hs gSd hO hbel
     obtain ⟨W1,hW1⟩:∃ W,W=wr.alloc (.cells #[.int .i64 p.x,.int .i64 p.y,.int .i64 p.d] 31):=⟨_,rfl⟩
     obtain ⟨pb,hpb⟩:∃ pb,pb=wr.heap.size:=⟨_,rfl⟩
     have P1:Blk W1 pb #[.int .i64 p.x,.int .i64 p.y,.int .i64 p.d]:=by rw [hW1,hpb];exact Blk.new wr _ _
     have B1:Below w5.heap.size w5 W1:=by rw [hW1];exact hHB.out.alloc hsz5 _
     have O1:Hid (W1.ownsRow w5.heap.size 55 10 u9 D.length (pcCells (D.map (pcOf EA EB)))):=by rw [hW1];exact hO'.out.alloc _
     have HU:Hid (∀ g,u9.ownBlock=some g->w5.heap.size<=g/\g<pb):=by rw [hpb];exact fun g hg=>hO'.out.lt g hg
     have hpw:pb<W1.heap.size:=P1.lt
     have hp5:w5.heap.size<=pb:=by rw [hpb];exact hsz5
     have E1:=hide (HE5.out.later B1)
     go_upto_region 11 with fail
     rw [<-hW1,<-hpb]
     clear hW1 hpb hO' hHB px py pd
     go_cut [43,44,45] (fun nv lv jv w'=>(∃ na ncap,nv = .slice na N.length ncap/\N.length<=ncap/\ncap<=maxLen)/\lv = .int .i64 N.length/\jv = .int .i64 0/\Hid (w'.ownsRow W1.heap.size 31 3 nv N.length (ptCells N))/\Below W1.heap.size W1 w')
     case first=>
      obtain ⟨cp,fp,zp⟩:=id P1
      have ewr:IntKind.i64.wrap ((i:Int)+1)=(i:Int)+1:=IntWalk.i64_in _ (by omega)
      have hj2:(i:Int)+1<=(S.length:Int):=by omega
      have hj3:(S.length:Int)<=(rcap:Int):=by omega
      have hj4:(0:Int)<=(i:Int)+1:=by omega
      have CNx:Hid (Calls Tryz.prog 86 #[p.v,.slice (if rcap=i+1 then some ⟨b,off,none⟩ else some ⟨b,off+(i+1)*3,none⟩) (S.length-(i+1)) (rcap-(i+1)),.slice sa E.length scap] W1.drew fun e w'=>∃ na ncap,e = .returned (.slice na N.length ncap)/\(N.length<=ncap/\ncap<=maxLen)/\w'.ownsRow (W1.heap.size+1) 31 3 (.slice na N.length ncap) N.length (ptCells N)/\Below W1.drew.heap.size W1.drew w'):=by
       refine hide ((CN.out _ W1.drew (HRx.out _ B1.drew) (E1.out.later (Below.refl _ _).drew)).mono ?_)
       rintro e' w6 ⟨nv,rfl,oN,k6⟩
       have oN':=oN
       obtain ⟨na,ncap,rfl,hn1,hn2,_⟩:=ring_of_own oN (by unfold maxLen;omega)
       exact ⟨na,ncap,rfl,⟨hn1,hn2⟩,oN',k6⟩
      have hB1d:Hid (Below W1.heap.size W1 W1.drew):=(Below.refl _ _).drew
      clear HRx CN HC HNg' HR HS5 HA5 HB5 HE5 E1 HSN HG24 HG HPM HgA HgB HD O1 HU P1 B1 hpw hp5 hsz5 hNl hSl hSl2 hb25 hsz hDl np hi0 hz0 hz1 hz2 hi2 hx0 hx1 hx2
      obtain ⟨X,hX⟩:∃ X:Option Addr,(if rcap=i+1 then some ⟨b,off,none⟩ else some ⟨b,off+(i+1)*3,none⟩)=X:=⟨_,rfl⟩
      rw [hX] at CNx
      have q0:=cp 0
      have q1:=cp 1
      have q2:=cp 2
      simp at q0 q1 q2
      go_region_held3 (fun w'=>w'.cell? ⟨pb,0,none⟩=some (.int .i64 p.x)/\w'.cell? ⟨pb,1,none⟩=some (.int .i64 p.y)/\w'.cell? ⟨pb,2,none⟩=some (.int .i64 p.d))
       (first
        | go_keep
        |(go_split_ands
          refine ⟨?_,?_,?_⟩
          ·(
           rw [k6.cell (p:=⟨pb,0,none⟩) (by simp;omega)];assumption)
          ·(
           rw [k6.cell (p:=⟨pb,1,none⟩) (by simp;omega)];assumption)
          ·(
           rw [k6.cell (p:=⟨pb,2,none⟩) (by simp;omega)];assumption)))
       ((
        go_at_call 86;refine CNx.out.mono ?_;rintro e' w6 ⟨na,ncap,rfl,hncap,oN,k6⟩))
      go_wp2
      go_meet
      case rel=>exact ⟨⟨na,ncap,rfl,hncap⟩,rfl,rfl,own_mono oN (Nat.le_succ _),bvia hB1d.out k6⟩
     case rest=>
      obtain ⟨⟨na,ncap,rfl,hnc1,hnc2⟩,rfl,rfl,oN,k6⟩:=hcut
      have P6:=P1.call k6
      have B6:=bvia B1 k6
      have O6:=hide (own_later O1.out k6)
      have hz6:=k6.size
      unfold maxLen at hnc2
      have HCN:Hid (pairsL E S=(D ++ N.map (fun q=>(p,q))) ++ pairsL E (S.drop (i+1))):=HD.out.trans (by rw [HC.out,List.append_assoc])
      clear HD HC CN HRx k6 O1 B1 P1 E1
      obtain ⟨w6,hw6⟩:∃ w6,w6=wc:=⟨_,rfl⟩
      rw [<-hw6] at P6 B6 O6 oN hz6 ⊢
      clear hw6
      have HNB:Hid (∀ g,(Value.slice na N.length ncap).ownBlock=some g->g<w6.heap.size):=fun g hg=>(oN.out.lt g hg).2
      go_wp2_with fail
      go_loopw [9,13,14,15,16,17,45] (fun pv _ _ _ _ _ jv w'=>∃ j:Nat,jv = .int .i64 j/\j<=N.length/\w'.ownsRow w5.heap.size 55 10 pv (D ++ (N.take j).map (fun q=>(p,q))).length (pcCells ((D ++ (N.take j).map (fun q=>(p,q))).map (pcOf EA EB)))/\(∀ g,pv.ownBlock=some g->g<pb\/w6.heap.size<=g)/\Hid (w'.ownsRow W1.heap.size 31 3 (.slice na N.length ncap) N.length (ptCells N))/\Blk w' pb #[.int .i64 p.x,.int .i64 p.y,.int .i64 p.d]/\Below w5.heap.size w5 w'/\w6.heap.size<=w'.heap.size) (fun _ _ _ _ _ _ jv _=>N.length-(intOf jv).toNat)
      case atStart=>exact ⟨0,rfl,Nat.zero_le _,by simpa using O6.out,fun g hg=>.inl (HU.out g hg).2,oN,P6,B6,Nat.le_refl _⟩
      case round=>
       clear O6 P6 B6 oN
       obtain ⟨j,rfl,hj,hO,hpv,oN,hP,hbel,hz⟩:=hrel
       by_cases hjt:j<N.length
       ·have hrow:=ring_of_own oN.out (by unfold maxLen;omega)
        obtain ⟨na',ncap',e0,_,_,n3⟩:=hrow
        simp at e0
        obtain ⟨rfl,rfl⟩:=e0
        obtain ⟨nb,noff,rfl,hnb,hns⟩:=n3 j hjt
        have gq:=HNg'.out _ (getD_mem hjt zP)
        have HT:Hid (N.take (j+1)=N.take j ++ [N.getD j zP]):=by
         refine hide ?_
         rw [List.take_succ_eq_append_getElem hjt,List.getD_eq_getElem?_getD,List.getElem?_eq_getElem hjt];rfl
        generalize N.getD j zP=q at *
        obtain ⟨qx,qy,qd⟩:=hns
        have CA:=hide (fun wz (k:SegsAt wz (.slice aa EA.length acap) EA)=>cutSides_any p q (.slice aa EA.length acap) EA wz k HgA.out (gd_nice np) gq)
        have CB:=hide (fun wz (k:SegsAt wz (.slice ba EB.length bcap) EB)=>cutSides_any p q (.slice ba EB.length bcap) EB wz k HgB.out (gd_nice np) gq)
        have hO':=hide hO
        have hPV:=hide hpv
        obtain ⟨cp,fp,zp⟩:=id hP
        have hj0:(0:Int)<=(j:Int):=Int.natCast_nonneg _
        have hj1:(j:Int)<(N.length:Int):=by omega
        have hzw:=hbel.size
        obtain ⟨W7,hW7⟩:∃ W,W=wr.alloc (.cells #[.int .i64 q.x,.int .i64 q.y,.int .i64 q.d] 31):=⟨_,rfl⟩
        obtain ⟨qb,hqb⟩:∃ qb,qb=wr.heap.size:=⟨_,rfl⟩
        have k7:Below wr.heap.size wr W7:=by rw [hW7];exact (Below.refl _ _).alloc (Nat.le_refl _) _
        have Q7:Blk W7 qb #[.int .i64 q.x,.int .i64 q.y,.int .i64 q.d]:=by rw [hW7,hqb];exact Blk.new wr _ _
        have B7:=bvia hbel k7
        have HA7:=CA.out W7 (HA5.out.later B7)
        have P7:=hP.call k7
        have O7:=hide (own_later hO'.out k7)
        have N7:=hide (own_later oN.out k7)
        clear n3 hO hpv CA
        go_wp2_with fail
        rw [<-hW7,<-hqb]
        refine HA7.mono ?_
        rintro e' w8 ⟨rfl,k8⟩
        have B8:=bvia B7 k8
        have P8:=P7.call k8
        have Q8:=Q7.call k8
        have HB8:=CB.out w8 (HB5.out.later B8)
        have O8:=hide (own_later O7.out k8)
        have N8:=hide (own_later N7.out k8)
        have hz8:=k8.size
        have hz7:=k7.size
        obtain ⟨cp8,fp8,zp8⟩:=id P8
        obtain ⟨cq8,fq8,zq8⟩:=id Q8
        clear qx qy qd cp fp zp k8 k7 B7 P7 Q7 O7 N7 HA7 CB hO' oN hP hW7 hqb hbel
        go_wp2_with fail
        refine HB8.mono ?_
        rintro e' w9 ⟨rfl,k9⟩
        have B9:=bvia B8 k9
        have P9:=P8.call k9
        have Q9:=Q8.call k9
        have O9:=hide (own_later O8.out k9)
        have N9:=hide (own_later N8.out k9)
        have hz9:=k9.size
        have zb9:=B9.size
        obtain ⟨cp9,fp9,zp9⟩:=id P9
        obtain ⟨cq9,fq9,zq9⟩:=id Q9
        clear cp8 fp8 zp8 cq8 fq8 zq8 k9 B8 P8 Q8 O8 N8 HB8
        have hlen:(D ++ (N.take j).map (fun q=>(p,q))).length<=100000:=by simp;omega
        have HX:=hide (show pcOf EA EB (p,q)=⟨p,q,parB (leftE p q) EA,parB (rightE p q) EA,parB (leftE p q) EB,parB (rightE p q) EB⟩ from rfl)
        have HDD:Hid (D ++ (N.take (j+1)).map (fun q=>(p,q))=(D ++ (N.take j).map (fun q=>(p,q))) ++ [(p,q)]):=by refine hide ?_;rw [HT.out];simp
        generalize D ++ (N.take j).map (fun q=>(p,q))=DD at *
        generalize parB (leftE p q) EA=la at *
        generalize parB (rightE p q) EA=ra at *
        generalize parB (leftE p q) EB=lb at *
        generalize parB (rightE p q) EB=rb at *
        have hnews:=World.news_of_block (w:=w9.alloc (.cells #[.int .i64 p.x,.int .i64 p.y,.int .i64 p.d,.int .i64 q.x,.int .i64 q.y,.int .i64 q.d,.bool la,.bool ra,.bool lb,.bool rb] 55)) (cs:=#[.int .i64 p.x,.int .i64 p.y,.int .i64 p.d,.int .i64 q.x,.int .i64 q.y,.int .i64 q.d,.bool la,.bool ra,.bool lb,.bool rb]) (t:=55) (fr:=(0,0)) (heap_alloc_new w9 _)
        go_wp2_with (at_builtin;refine wpList_append_lies _ rfl _ _ _ rfl w5.heap.size 55 i2 _ 10 56 Tryz.underlying51 hi2 hx0 hx1 hx2 rfl (by omega) u9 DD.length (pcCells (DD.map (pcOf EA EB))) rfl (O9.out.alloc _) ⟨w9.heap.size,0,none⟩ 1 1 (pcCell ⟨p,q,la,ra,lb,rb⟩) rfl rfl hnews (by simp [pcCell,Value.oneCell']) (by omega) (by unfold maxLen;omega) (by omega) (by simp;omega) _ rfl ?_;intro gg cp0 wx hox hgrow hat hltx)
        have hX2:gg<pb\/w6.heap.size<=gg:=by
         rcases hat with h | h
         ·exact hPV.out gg h
         ·simp at h;exact .inr (by omega)
        have OX:Hid (wx.ownsRow w5.heap.size 55 10 (.slice (some ⟨gg,0,none⟩) (DD.length+1) cp0) (DD ++ [(p,q)]).length (pcCells ((DD ++ [(p,q)]).map (pcOf EA EB)))):=by
         refine hide ?_
         rw [List.map_append,List.map_singleton,pcCells_snoc,HX.out,List.length_append]
         exact hox
        have hlt9:=O9.out.lt
        have KX:Kp (fun b=>u9.ownBlock=some b) w9 wx:=Kp.grown ((Kp.refl _ _).alloc _) hgrow (fun k hk=>hk)
        have NX:Hid (wx.ownsRow W1.heap.size 31 3 (.slice (some ⟨nb,noff,none⟩) N.length ncap) N.length (ptCells N)):=Kp.own N9.out KX (fun b hb hx=>by
         have h1:=(N9.out.lt b hb).1
         have h2:=(N9.out.lt b hb).2
         have h3:=HNB.out b hb
         rcases hPV.out b hx with h | h
         ·omega
         ·omega)
        have PX:=P9.kp KX (fun h=>by
         rcases hPV.out _ h with k | k
         ·omega
         ·omega)
        have BX:=below_kp B9 KX B9.size (fun b h=>(hlt9 b h).1)
        have hzx:=KX.size
        clear hnews hox hgrow hat hltx KX
        go_wp2
        go_roundw
        case rel=>exact ⟨j+1,by go_num,by omega,by rw [HDD.out];exact OX.out,fun g hg=>(show gg=g by simpa [Value.ownBlock] using hg) ▸ hX2,NX,PX,BX,by omega⟩
        case measure=>simp [intOf];omega
       ·have ej:j=N.length:=by omega
        subst ej
        have HT2:Hid (N.take N.length=N):=List.take_of_length_le (Nat.le_refl _)
        go_wp2
        go_roundw
        case rel=>exact ⟨i+1,D ++ N.map (fun q=>(p,q)),by go_num,by omega,by rw [HT2.out] at hO;exact hO,by simp;omega,HCN,hbel⟩
        case measure=>simp [intOf];omega
    ·have HE:Hid (piecesM A B=D.map (pcOf EA EB)):=HPM.out.trans (by rw [HD.out,List.drop_of_length_le (by omega)];simp [pairsL])
     have hO':=hide hO
     clear hO
     go_wp2
     go_ret
     refine ⟨_,rfl,?_,?_⟩
     ·rw [HE.out,List.length_map]
      exact own_mono hO'.out hb25.size
     ·exact bvia hb25 hbel
def bothM (A B:List (List Pt)):Int:=if (checkM A).1≠0 then (checkM A).1 else (checkM B).1
set_option maxHeartbeats 1000000 in
theorem checkBoth_any (va vb:Value)(A B:List (List Pt))(w:World)(hA:PolyAt w va A)(hB:PolyAt w vb B) :
  Calls Tryz.prog 48 #[va,vb] w fun e w'=>e = .returned (.int .i64 (bothM A B))/\Below w.heap.size w w':=by
 by_cases h:(checkM A).1=0
 ·have H:Hid (bothM A B=(checkM B).1):=if_neg (by simpa using h)
  have h':((checkM A).1 != 0)=false:=by simpa using h
  go_enter Tryz.func48,Tryz.ntmps48
  go_wp2_with fail
  refine (polyCheck_any va A _ hA).mono ?_
  rintro e w1 ⟨rfl,k⟩
  have B1:=hB.later k
  go_wp2_with fail
  refine (polyCheck_any vb B _ B1).mono ?_
  rintro e w2 ⟨rfl,k2⟩
  go_wp2
  go_ret
  exact ⟨ret_int H.out.symm,bvia k k2⟩
 ·have H:Hid (bothM A B=(checkM A).1):=if_pos h
  have h':((checkM A).1 != 0)=true:=by simpa using h
  go_enter Tryz.func48,Tryz.ntmps48
  go_wp2_with fail
  refine (polyCheck_any va A _ hA).mono ?_
  rintro e w1 ⟨rfl,k⟩
  go_wp2
  go_ret
  exact ⟨ret_int H.out.symm,k⟩
theorem check_few {P:List (List Pt)}(h:(checkM P).1=0):(edgesM P).length<=12:=by
 have u:checkM P=if 4<P.length then (1,0) else if badM 12 0 P≠-1 then (2,badM 12 0 P) else if findM (fun e:Pt×Pt=>!gridB e.1) 0 (edgesM P)≠-1 then (3,findM (fun e:Pt×Pt=>!gridB e.1) 0 (edgesM P)) else if findM (fun e:Pt×Pt=>eqB e.1 e.2) 0 (edgesM P)≠-1 then (4,findM (fun e:Pt×Pt=>eqB e.1 e.2) 0 (edgesM P)) else if findM (sharesM (edgesM P)) 0 (List.range (edgesM P).length)≠-1 then (5,findM (sharesM (edgesM P)) 0 (List.range (edgesM P).length)) else (0,0):=rfl
 rw [u] at h
 by_cases c1:4<P.length
 ·rw [if_pos c1] at h;simp at h
 rw [if_neg c1] at h
 by_cases c2:badM 12 0 P≠-1
 ·rw [if_pos c2] at h;simp at h
 have:=badM_none P 12 0 (by decide) (by omega) (by decide)
 omega
def pcsM (A B:List (List Pt)):List Pc:=if bothM A B≠0 then [] else piecesM A B
theorem both_zero {A B:List (List Pt)}(h:bothM A B=0):(checkM A).1=0/\(checkM B).1=0:=by
 unfold bothM at h
 split at h
 ·rename_i k;exact absurd h k
 ·rename_i k;exact ⟨by simpa using k,h⟩
set_option maxHeartbeats 1000000 in
theorem Pieces_any (va vb:Value)(A B:List (List Pt))(w:World)(hA:PolyAt w va A)(hB:PolyAt w vb B) :
  Calls Tryz.prog 25 #[va,vb] w fun e w'=>∃ v',e = .returned (.tuple #[v',.int .i64 (bothM A B)])/\w'.ownsRow w.heap.size 55 10 v' (pcsM A B).length (pcCells (pcsM A B))/\Below w.heap.size w w':=by
 by_cases h:bothM A B=0
 ·have H:Hid (pcsM A B=piecesM A B):=if_neg (by simpa using h)
  obtain ⟨c1,c2⟩:=both_zero h
  have C:=hide (fun wz (k1:PolyAt wz va A) (k2:PolyAt wz vb B)=>cutPieces_any va vb A B wz k1 k2 (sound_of c1) (sound_of c2) (check_few c1) (check_few c2))
  clear c1 c2
  go_enter Tryz.func25,Tryz.ntmps25
  go_wp2_with fail
  refine (checkBoth_any va vb A B _ hA hB).mono ?_
  rintro e w1 ⟨rfl,k⟩
  rw [h]
  go_wp2_with fail
  refine (C.out _ (hA.later k) (hB.later k)).mono ?_
  rintro e w2 ⟨v',rfl,o,k2⟩
  go_wp2
  go_ret2
  exact ⟨v',by rw [h];rfl,by rw [H.out];exact own_mono o k.size,bvia k k2⟩
 ·have H:Hid (pcsM A B=[]):=if_pos h
  have h':(bothM A B != 0)=true:=by simpa using h
  go_enter Tryz.func25,Tryz.ntmps25
  go_wp2_with fail
  refine (checkBoth_any va vb A B _ hA hB).mono ?_
  rintro e w1 ⟨rfl,k⟩
  go_wp2
  go_ret2
  exact ⟨_,rfl,by rw [H.out];exact World.ownsRow_nil _ _ _ _,k⟩
abbrev pcV (p q:Pt)(a b c d:Bool):Value:=.agg #[.int .i64 p.x,.int .i64 p.y,.int .i64 p.d,.int .i64 q.x,.int .i64 q.y,.int .i64 q.d,.bool a,.bool b,.bool c,.bool d]
def PceAt (w:World)(b o:Nat)(x:Pc):Prop:=∀ t,t<10->w.cell? ⟨b,o+t,none⟩=(pcCell x)[t]?
theorem PceAt.later {w w':World}{b o:Nat}{x:Pc}{m:Nat}(h:PceAt w b o x)(hb:Below m w w')(hl:b<m):PceAt w' b o x:=
 fun t ht=>(hb.cell (p:=⟨b,o+t,none⟩) hl).trans (h t ht)
def zPc:Pc:=⟨zP,zP,false,false,false,false⟩
def PcsAt (w:World)(v:Value)(l:List Pc):Prop:=
 ∃ (a:Option Addr) (cap:Nat),v = .slice a l.length cap/\l.length<=cap/\cap<=maxLen/\∀ j,j<l.length->∃ b off,a=some ⟨b,off,none⟩/\b<w.heap.size/\PceAt w b (off+j*10) (l.getD j zPc)
theorem PcsAt.later {w w':World}{v:Value}{l:List Pc}(h:PcsAt w v l)(hb:Below w.heap.size w w'):PcsAt w' v l:=by
 obtain ⟨a,cap,rfl,h1,h2,h3⟩:=h
 refine ⟨a,cap,rfl,h1,h2,fun j hj=>?_⟩
 obtain ⟨b,off,rfl,hl,hp⟩:=h3 j hj
 exact ⟨b,off,rfl,Nat.lt_of_lt_of_le hl hb.size,hp.later hb hl⟩
theorem pcCells_at (l:List Pc)(j t:Nat)(hj:j<l.length)(ht:t<10):(pcCells l)[j*10+t]?=(pcCell (l.getD j zPc))[t]?:=by
 induction l generalizing j with
 | nil=>simp at hj
 | cons e l ih=>
  have hc:pcCells (e::l)=pcCell e ++ pcCells l:=by simp [pcCells]
  rw [hc]
  cases j with
  | zero=>rw [List.getElem?_append_left (by simp [pcCell];omega)];simp
  | succ j=>
   rw [List.getElem?_append_right (by simp [pcCell];omega)]
   have:(j+1)*10+t-(pcCell e).length=j*10+t:=by simp [pcCell];omega
   rw [this,ih j (by simpa using hj)]
   simp
theorem pcs_of_own {w:World}{base:Nat}{v:Value}{l:List Pc}(h:w.ownsRow base 55 10 v l.length (pcCells l))(hl:l.length<=maxLen):PcsAt w v l:=by
 have h0:=h
 obtain ⟨_,h1⟩:=h
 rcases h1 with ⟨rfl,hn⟩ | ⟨g,cap,cur,rfl,hb,hh,hnc,hcap,_,_⟩
 ·exact ⟨none,0,by rw [hn],by omega,by unfold maxLen;omega,fun j hj=>by omega⟩
 ·refine ⟨some ⟨g,0,none⟩,cap,rfl,hnc,hcap,fun j hj=>⟨g,0,rfl,(h0.lt g rfl).2,fun t ht=>?_⟩⟩
  rw [Nat.zero_add]
  exact (h0.cellAt (j*10+t) (by omega)).trans (pcCells_at l j t hj ht)
abbrev Pc.v (x:Pc):Value:=pcV x.p x.q x.la x.ra x.lb x.rb
abbrev Pc.cs (x:Pc):Array Value:=#[.int .i64 x.p.x,.int .i64 x.p.y,.int .i64 x.p.d,.int .i64 x.q.x,.int .i64 x.q.y,.int .i64 x.q.d,.bool x.la,.bool x.ra,.bool x.lb,.bool x.rb]
end Go.Proofs.YtnkcbephceollabGreat
