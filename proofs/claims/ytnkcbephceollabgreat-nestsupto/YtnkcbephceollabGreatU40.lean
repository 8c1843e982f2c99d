import Derived.Test.YtnkcbephceollabGreatU39
namespace Go.Proofs.YtnkcbephceollabGreat
open Go.RowKit
set_option linter.unusedSimpArgs false
set_option linter.unusedVariables false
theorem rins_at {w:List Pt}{R:List (List Pt)}{k:Nat}(hk:k<=R.length)(h1:∀ j,j<k->ltL (R.getD j []) w=true)(h2:k=R.length\/ltL (R.getD k []) w=false):rinsL R w=R.take k ++ w::R.drop k:=by
 induction R generalizing k with
 | nil=>
  have:k=0:=by simpa using hk
  subst this;rfl
 | cons x R ih=>
  cases k with
  | zero=>
   rw [rins_cc]
   rcases h2 with h2 | h2
   ·simp at h2
   ·have h2':ltL x w=false:=h2
    rw [h2',if_neg (by decide)];rfl
  | succ k=>
   have h0:ltL x w=true:=h1 0 (by omega)
   rw [rins_cc,if_pos h0,ih (k:=k) (by simpa using hk) (fun j hj=>h1 (j+1) (by omega)) ?_]
   ·rfl
   ·rcases h2 with h2 | h2
    ·left;simpa using h2
    ·right;exact h2
theorem rrings_len (L:List (Pt×Pt)):∀ i,(rringsN L i).1.length<=i
 | 0=>by simp [rringsN]
 | i+1=>by
  have ih:=rrings_len L i
  rw [rringsN]
  unfold rstepR
  split
  ·omega
  ·have:∀ (R:List (List Pt)) (w:List Pt),(rinsL R w).length=R.length+1:=by
    intro R w
    induction R with
    | nil=>rfl
    | cons x R ih=>rw [rins_cc];split <;> simp [ih]
   dsimp only
   rw [this];omega
theorem nx_ok {A B:List (List Pt)}(sA:Sound A)(sB:Sound B)(op:Int):NxOk (bordM op (piecesM A B)) (nextsM (bordM op (piecesM A B))):=fun k hk=>⟨nexts_lt _ k hk,fun j hj=>by
 rw [nexts_at _ k hk];exact ok_iff sA sB op hk hj⟩
theorem slices_news {w:World}{g:Nat}{vs:List Value}{i:Nat}(h:∀ j,j<vs.length->w.cell? ⟨g,j,none⟩=vs[j]?):∀ j u,(vs.drop i)[j]?=some u->w.cell? ((⟨g,i,none⟩:Addr).add j)=some u:=by
 intro j u hu
 rw [List.getElem?_drop] at hu
 have hl:i+j<vs.length:=by
  apply Classical.byContradiction
  intro x
  rw [List.getElem?_eq_none (by omega)] at hu;cases hu
 have:=h (i+j) hl
 rw [hu] at this
 simp only [Addr.add]
 by_cases h0:j=0
 ·subst h0;simpa using this
 ·simpa [h0] using this
theorem own_cap {w:World}{base:Nat}{e:TypeId}{s n cap:Nat}{a:Option Addr}{xs:List Value}(h:w.ownsRow base e s (.slice a n cap) n xs):n<=cap:=by
 rcases h.2 with ⟨_,hn⟩ | ⟨g,cap',cur,e1,hb,hh,hle,_⟩
 ·omega
 ·injection e1 with _ _ e3
  omega
theorem slice_one (v:Value)(h:∃ a n c,v = .slice a n c):v.oneCell'=true:=by
 obtain ⟨a,n,c,rfl⟩:=h;simp [Value.oneCell']
theorem OwnR.form {w:World}{base:Nat}{v:Value}{R:List (List Pt)}{vs:List Value}(h:OwnR w base v R vs)(k:Nat)(hk:k<R.length):∃ a n c,vs.getD k nilV = .slice a n c:=by
 obtain ⟨a,c,e,_⟩:=own_form (h.each k hk)
 exact ⟨a,_,c,e⟩
theorem OwnR.ones {w:World}{base:Nat}{v:Value}{R:List (List Pt)}{vs:List Value}(h:OwnR w base v R vs):∀ u∈vs,u.oneCell'=true:=fun u hu=>by
 obtain ⟨j,hj,rfl⟩:=List.getElem_of_mem hu
 have:=h.form j (by rw [<-h.len];exact hj)
 rw [List.getD_eq_getElem?_getD,List.getElem?_eq_getElem hj] at this
 exact slice_one _ this
set_option maxRecDepth 100000 in
set_option maxHeartbeats 8000000 in
theorem rClip_any (op:Int)(va vb:Value)(A B:List (List Pt))(w:World)(hA:PolyAt w va A)(hB:PolyAt w vb B)(sA:∀ i,i<A.length->(A.getD i []).length<=1048576)(sB:∀ i,i<B.length->(B.getD i []).length<=1048576) :
  Calls Tryz.prog 29 #[.int .i64 op,va,vb] w fun e w'=>∃ v' vs,e = .returned (.tuple #[v',.int .i64 (clipM op A B).2])/\OwnR w' w.heap.size v' (clipM op A B).1 vs/\Below w.heap.size w w':=by
 by_cases h0:op<0\/op > 4
 ·have H:Hid (clipM op A B=([],6)):=if_pos h0
  by_cases h1:op<0
  ·go_enter Tryz.func29,Tryz.ntmps29
   go_wp2
   go_ret2
   exact ⟨_,[],by rw [H.out];rfl,by rw [H.out];exact OwnR.nil _ _,Below.refl _ _⟩
  ·have h2:op > 4:=by omega
   have h1' : ¬ op<0:=h1
   have h2':(4:Int)<op:=h2
   clear h0
   have HF:Hid (∃ v' vs,Ending.returned (.tuple #[.slice none 0 0,.int .i64 6])=Ending.returned (.tuple #[v',.int .i64 (clipM op A B).2])/\OwnR w w.heap.size v' (clipM op A B).1 vs/\Below w.heap.size w w):=hide ⟨_,[],by rw [H.out],by rw [H.out];exact OwnR.nil _ _,Below.refl _ _⟩
   go_enter Tryz.func29,Tryz.ntmps29
   go_wp2
   go_ret2
   first
    | exact HF.out
    | exact ⟨_,by rw [H.out];rfl,⟨[],by rw [H.out];exact OwnR.nil _ _⟩,Below.refl _ _⟩
 have H1:Hid (clipM op A B=if bothM A B≠0 then ([],bothM A B) else (ringsM (bordM op (piecesM A B)),0)):=if_neg h0
 have l1 : ¬ op<0:=fun h=>h0 (.inl h)
 have l2 : ¬ (4:Int)<op:=fun h=>h0 (.inr h)
 clear h0
 have CP:=hide (rPieces_any va vb A B w hA hB sA sB)
 clear hA hB sA sB
 by_cases h:bothM A B=0
 rotate_left
 ·have H:Hid (clipM op A B=([],bothM A B)):=by rw [H1.out,if_pos h];exact hide rfl
  have h':(bothM A B != 0)=true:=by simpa using h
  clear H1
  generalize clipM op A B=res at *
  go_enter Tryz.func29,Tryz.ntmps29
  go_wp2_with fail
  refine CP.out.mono ?_
  rintro e w1 ⟨v',rfl,_,k⟩
  go_wp2
  go_ret2
  exact ⟨_,[],by rw [H.out];rfl,by rw [H.out];exact OwnR.nil _ _,k⟩
 have H:Hid (clipM op A B=(ringsM (bordM op (piecesM A B)),0)):=by rw [H1.out,if_neg (by simpa using h)];exact hide rfl
 have HP:Hid (pcsM A B=piecesM A B):=if_neg (by simpa using h)
 obtain ⟨c1,c2⟩:=both_zero h
 have hpf:=pieces_few (check_few c1) (check_few c2)
 have sA:=sound_of c1
 have sB:=sound_of c2
 have hG:GdE (bordM op (piecesM A B)):=fun j hj=>by
  obtain ⟨x,hx,h⟩:=bord_mem (getD_mem hj (zP,zP))
  have hg:=pieces_gd sA sB x hx
  rcases h with h | h
  ·rw [h];exact hg
  ·rw [h];exact hg.symm
 have HG:=hide hG
 have HN:=hide (nx_ok sA sB op)
 have HPM:=hide (nexts_pm sA sB op)
 have HEQ:=hide (rings_eq sA sB op)
 have HTU:=hide (fun i m=>ring_turns sA sB op (i:=i) (m:=m))
 have HRM:Hid (ringsM (bordM op (piecesM A B))=(rringsN (bordM op (piecesM A B)) (bordM op (piecesM A B)).length).1):=by
  refine hide ?_
  unfold ringsM
  rw [(rings_eq sA sB op _ (Nat.le_refl _)).1]
 rw [HP.out] at CP
 rw [h] at CP
 clear h c1 c2 sA sB hG H1 HP
 generalize clipM op A B=res at *
 have hLl:=bord_len op (piecesM A B)
 generalize piecesM A B=P at *
 have CB:=hide (fun v wz (hz:PcsAt wz v P)=>rborders_any op v P wz hz (by omega))
 generalize bordM op P=L at *
 have HR0:=hide (show rringsN L 0=([],List.replicate L.length false) from rfl)
 have HRS:=hide (fun i=>show rringsN L (i+1)=if (rringsN L i).2.getD i false=true then rringsN L i else (rinsL (rringsN L i).1 (leastL (walkM L (nextsM L) (L.length+1) (rringsN L i).2 i).1 (walkM L (nextsM L) (L.length+1) (rringsN L i).2 i).1.length),(walkM L (nextsM L) (L.length+1) (rringsN L i).2 i).2) from rfl)
 have HRL:=hide (rrings_len L)
 go_enter Tryz.func29,Tryz.ntmps29
 go_wp2_with fail
 refine CP.out.mono ?_
 rintro e w1 ⟨pv,rfl,o1,k1⟩
 have C1:=hide (CB.out pv w1 (pcs_of_own o1 (by unfold maxLen;omega)))
 clear CP o1 CB
 go_wp2_with fail
 refine C1.out.mono ?_
 rintro e w2 ⟨bv,rfl,o2,k2⟩
 have S2:=edges_of_own o2 (by unfold maxLen;omega)
 obtain ⟨ba,bcap,rfl,b1,b2,b3⟩:=id S2
 unfold maxLen at b2
 have HB3:=hide b3
 have hmk:=mk_bools L.length (by omega)
 obtain ⟨W3,hW3⟩:∃ W,W=w2.alloc (.cells (madeCells #[.bool false] L.length) 4):=⟨_,rfl⟩
 obtain ⟨tb,htb⟩:∃ b,b=w2.heap.size:=⟨_,rfl⟩
 have z3:W3.heap.size=tb+1:=by rw [hW3,htb];simp
 have T3:Hid (Blk W3 tb (boolCells (List.replicate L.length false))):=by rw [hW3,htb,<-bools_made];exact hide (Blk.new w2 _ _)
 have K12:=bvia k1 k2
 have B3:Hid (Below w.heap.size w W3):=by rw [hW3];exact hide (K12.alloc K12.size _)
 have zw:=K12.size
 have htw:w.heap.size<=tb:=by omega
 have HSeg:Hid (∀ wz,Kp (fun b=>b=tb) W3 wz->SegsAt wz (.slice ba L.length bcap) L):=by
  refine hide fun wz kz=>?_
  have zz:=kz.size
  refine ⟨ba,bcap,rfl,b1,by unfold maxLen;exact b2,fun j hj=>?_⟩
  obtain ⟨b,off,e,hb,hs⟩:=HB3.out j hj
  have h3:SegAt W3 b (off+j*6) (edg L j):=by
   rw [hW3]
   exact hs.later ((Below.refl w2.heap.size w2).alloc (Nat.le_refl _) _) (by omega)
  exact ⟨b,off,e,by omega,h3.kp kz (by omega)⟩
 clear HB3 b3 k1 k2 o2 K12 C1 S2
 go_upto_block 0 with fail
 rw [<-hW3,<-htb]
 clear hW3 htb hmk
 go_wp2_with fail
 go_loopw [12,13,14,15,16,17] (fun ov iv _ _ _ _ w'=>∃ (i:Nat) (vs:List Value),iv = .int .i64 i/\i<=L.length/\OwnR w' W3.heap.size ov (rringsN L i).1 vs/\Blk w' tb (boolCells (rringsN L i).2)/\Kp (fun b=>b=tb) W3 w') (fun _ iv _ _ _ _ _=>L.length-(intOf iv).toNat)
 case atStart=>exact ⟨0,[],rfl,Nat.zero_le _,by rw [HR0.out];exact OwnR.nil _ _,by rw [HR0.out];exact T3.out,Kp.refl _ _⟩
 case round=>
  clear T3 HR0
  rename World=>wo
  obtain ⟨i,vs,rfl,hi,hO,hT,hK⟩:=hrel
  by_cases hlt:i<L.length
  ·have HS:=hide (HRS.out i)
   obtain ⟨_,hTl,hWh,hNL,_⟩:=HEQ.out i hi
   have hRl:=HRL.out i
   have ct:=(hT.cell i).trans (bools_at _ i (by omega))
   have hft:=hT.free
   have hlt':=hT.lt
   have hi0':(0:Int)<=(i:Int):=Int.natCast_nonneg _
   have hi1':(i:Int)<(L.length:Int):=by omega
   have HGR:Hid (∀ q∈(rringsN L i).1,∀ p∈q,Gd p):=hide fun q hq p hp=>gd_nice (hNL q hq p hp)
   generalize rringsN L i=st at *
   obtain ⟨R,t⟩:=st
   simp only at HS hTl hWh hRl ct HGR hO hT
   have HO:=hide hO
   have HT:=hide hT
   have HK:=hide hK
   have zk:=hK.size
   have HLO:Hid (∀ j g,j<R.length->(vs.getD j nilV).ownBlock=some g->g<wo.heap.size):=hide fun j g hj e=>(hO.lt j g hj e).2
   cases hseen:t.getD i false
   rotate_left
   ·rw [hseen] at ct
    have HS2:Hid (rringsN L (i+1)=(R,t)):=by rw [HS.out,if_pos hseen];exact hide rfl
    clear HS hO hT hK HEQ HTU HRS HRL HG HN HPM HSeg hNL hWh HGR
    go_wp2
    go_roundw
    case rel=>exact ⟨i+1,vs,by go_num,by omega,by rw [HS2.out];exact HO.out,by rw [HS2.out];exact HT.out,HK.out⟩
    case measure=>simp [intOf];omega
   ·rw [hseen] at ct
    obtain ⟨m,m1,mn,mi,ml,ew⟩:=walk_round L HPM.out hlt hTl (fun a=>(hWh.it HPM.out hlt a).trans hseen)
    have HS2:Hid (rringsN L (i+1)=(rinsL R (leastL (ptsN L (nextsM L) i 0 m) (ptsN L (nextsM L) i 0 m).length),setN t (nextsM L) i m)):=by
     rw [HS.out,if_neg (by rw [hseen];decide),ew];exact hide rfl
    have hr0:0<(ptsN L (nextsM L) i 0 m).length:=List.length_pos_iff.2 (HTU.out i m hlt m1 mi)
    have hrl:=pts_len L (nextsM L) i m
    have hrG:∀ p∈ptsN L (nextsM L) i 0 m,Gd p:=fun p hp=>by
     obtain ⟨b,rfl⟩:=pts_from L (nextsM L) i m 0 p hp
     exact (edg_good HG.out _).2
    have C2:=hide (rring_any (.slice ba L.length bcap) L (nextsM L) i m tb t wo (fun wz kz=>HSeg.out wz (hK.trans kz)) HG.out HN.out (by omega) hlt m1 mn mi ml hTl hT)
    generalize ptsN L (nextsM L) i 0 m=r at *
    generalize setN t (nextsM L) i m=t1 at *
    have HrG:=hide hrG
    clear HS hO hT hK HEQ HTU HRS HRL HG HN HPM HSeg hNL hWh ml ew mi hrG
    go_wp2_with fail
    refine C2.out.mono ?_
    rintro e w4 ⟨rv,rfl,o4,T4,k4⟩
    have z4:=k4.size
    have C3:=hide (rwritten_any wo.heap.size rv r w4 o4 z4 HrG.out (by omega) hr0)
    have HO4:=hide (HO.out.kp k4 (fun b h1 h2 e=>by omega))
    have HT4:=hide T4
    have HK4:=hide (HK.out.trans k4)
    clear C2 o4 T4 k4 HO HT HK ct hft
    go_wp2_with fail
    refine C3.out.mono ?_
    rintro e w5 ⟨wv,rfl,o5,k5⟩
    have hll:=least_len r r.length (Nat.le_refl _)
    have HGw:Hid (∀ p∈leastL r r.length,Gd p):=hide fun p hp=>HrG.out p (least_mem _ hp)
    generalize leastL r r.length=wl at *
    have HO5:=hide (HO4.out.kp (Kp.of (X:=fun _=>False) k5) (fun b _ _ e=>e))
    have HT5:=hide (HT4.out.call k5)
    have HK5:=hide (HK4.out.trans (Kp.of k5))
    have z5:=k5.size
    have HW5:=hide o5
    have RW:=hide (ring_of_own o5 (by unfold maxLen;omega))
    have HAP:Hid (∀ j g,j<R.length->(vs.getD j nilV).ownBlock=some g->wv.ownBlock≠some g):=hide fun j g hj e e2=>by
     have h1:=HLO.out j g hj e
     have h0:=(o5.lt g e2).1
     omega
    clear C3 o5 k5 HO4 HT4 HK4 HrG
    obtain ⟨wa,wcap,rfl,_,_,_⟩:=own_form HW5.out
    obtain ⟨a,cap,rfl,hag,hpos,hmx⟩:=own_form HO5.out.row
    unfold maxLen at hmx
    have hRc:=own_cap HO5.out.row
    have HAG:=hide hag
    have hvl:=HO5.out.len
    obtain ⟨j0,hj0,hx0,hx1,hx2⟩:=info_parts infoRing
    have HONE:=hide HO5.out.ones
    have HROW:=hide HO5.out.row
    have hzb:W3.heap.size<=w5.heap.size:=HK5.out.size
    clear hag
    go_upto_block 2 with fail
    go_cut [16,17] (fun mv kv w'=>∃ k:Nat,kv = .int .i64 k/\k<=R.length/\Hid (rinsL R wl=R.take k ++ wl::R.drop k)/\w'.ownsRow w5.heap.size 57 1 mv k (vs.take k)/\Below w5.heap.size w5 w')
    case first=>
     clear HS2 HT5 HK5 HW5 HAP
     go_wp2_with fail
     go_loopw [16,17] (fun mv kv w'=>∃ k:Nat,kv = .int .i64 k/\k<=R.length/\Hid (∀ j,j<k->ltL (R.getD j []) wl=true)/\w'.ownsRow w5.heap.size 57 1 mv k (vs.take k)/\Below w5.heap.size w5 w') (fun _ kv _=>R.length-(intOf kv).toNat)
     case atStart=>exact ⟨0,rfl,Nat.zero_le _,hide (fun j hj=>absurd hj (Nat.not_lt_zero _)),by rw [List.take_zero];exact World.ownsRow_nil _ _ _ _,Below.refl _ _⟩
     case round=>
      obtain ⟨k,rfl,hk,HJ,hM,hbel⟩:=hrel
      have hk0:(0:Int)<=(k:Int):=Int.natCast_nonneg _
      by_cases hkl:k<R.length
      ·have hk1:(k:Int)<(R.length:Int):=by omega
       obtain ⟨g,hg⟩:=hpos (by omega)
       obtain rfl:=HAG.out g hg
       have hc0:wr.cell? ⟨g,k,none⟩=some (vs.getD k nilV):=by
        rw [hbel.cell (p:=⟨g,k,none⟩) (HROW.out.lt g rfl).2,own_cell HROW.out g rfl k (by omega),List.getD_eq_getElem?_getD,List.getElem?_eq_getElem (by omega)];rfl
       have hring:RingAt wr (vs.getD k nilV) (R.getD k []):=(ring_of_own (HO5.out.each k hkl) (by have:=HO5.out.small k hkl;unfold maxLen;omega)).later hbel
       have C:=hide (rless_any _ _ (R.getD k []) wl wr hring (RW.out.later hbel) (HGR.out _ (getD_mem hkl [])) HGw.out)
       have HTK:Hid (vs.take (k+1)=vs.take k ++ [vs.getD k nilV]):=by
        refine hide ?_
        rw [List.take_succ_eq_append_getElem (by omega),List.getD_eq_getElem?_getD,List.getElem?_eq_getElem (by omega)];rfl
       obtain ⟨xa,xl,xc,hx⟩:=HO5.out.form k hkl
       rw [hx] at hc0 C HTK
       have HRA:Hid (ltL (R.getD k []) wl=false->rinsL R wl=R.take k ++ wl::R.drop k):=hide fun x=>rins_at hk HJ.out (.inr x)
       have HJ1:Hid (ltL (R.getD k []) wl=true->∀ j,j<k+1->ltL (R.getD j []) wl=true):=hide fun x j hj=>by
        by_cases e:j=k
        ·rw [e];exact x
        ·exact HJ.out j (by omega)
       generalize ltL (R.getD k []) wl=bb at *
       have HM:=hide hM
       have HB:=hide hbel
       have HC0:Hid (∀ wz,Below wr.heap.size wr wz->wz.cell? ⟨g,k,none⟩=some (.slice xa xl xc)):=hide fun wz kz=>(kz.cell (p:=⟨g,k,none⟩) (by show g<wr.heap.size;have:=(HROW.out.lt g rfl).2;have:=hbel.size;omega)).trans hc0
       clear hM hbel hring HJ hx HGR HO5 RW HONE
       go_wp2_with fail
       refine C.out.mono ?_
       rintro e' w6 ⟨rfl,k6⟩
       have M6:=hide (own_later HM.out k6)
       have B6:=hide (bvia HB.out k6)
       have z6:=B6.out.size
       have c6:=HC0.out w6 k6
       clear C HM HB HC0 hc0 k6
       cases bb
       ·have HE:=hide (HRA.out rfl)
        clear HRA HJ1 HTK
        go_wp2
        go_meet
        case rel=>exact ⟨k,rfl,hk,HE,M6.out,B6.out⟩
       ·have HJ2:=hide (HJ1.out rfl)
        clear HRA HJ1
        have hnews:=World.news_of_block (w:=w6.alloc (.cells #[.slice xa xl xc] 57)) (cs:=#[.slice xa xl xc]) (t:=57) (fr:=(0,0)) (heap_alloc_new w6 _)
        have hn1:k+1<=maxLen:=by unfold maxLen;omega
        have hn2:(k+1)*24<=140737488355328:=by omega
        go_wp2_with (at_builtin;refine wpList_append_lies _ rfl _ _ _ rfl w5.heap.size 57 j0 _ 1 24 Tryz.underlying29 hj0 hx0 hx1 hx2 rfl (by omega) u16 k (vs.take k) rfl (M6.out.alloc _) ⟨w6.heap.size,0,none⟩ 1 1 [.slice xa xl xc] rfl rfl hnews (by simp [Value.oneCell']) (by omega) hn1 hn2 (by simp;omega) _ rfl ?_;intro gg cp w7 ho hgrow hat hlt7)
        have O7:Hid (w7.ownsRow w5.heap.size 57 1 (.slice (some ⟨gg,0,none⟩) (k+1) cp) (k+1) (vs.take (k+1))):=by rw [HTK.out];exact hide ho
        have B7:Hid (Below w5.heap.size w5 w7):=hide (Below.grown (B6.out.alloc B6.out.size _) hgrow (by simp;omega) (fun q hq=>(M6.out.lt q hq).1))
        clear ho hgrow hat hnews M6 B6 c6 HTK
        go_wp2
        go_roundw
        case rel=>exact ⟨k+1,by go_num,by omega,HJ2,O7.out,B7.out⟩
        case measure=>simp [intOf];omega
      ·have ek:k=R.length:=by omega
       have HE:=hide (rins_at hk HJ.out (.inl ek))
       subst ek
       have HM:=hide hM
       clear hM HJ HGR HO5 RW HONE
       go_wp2
       go_meet
       case rel=>exact ⟨R.length,rfl,Nat.le_refl _,HE,HM.out,hbel⟩
    case rest=>
     obtain ⟨k,rfl,hk,HE,hM,hbel⟩:=hcut
     have HM:=hide hM
     have HB:=hide hbel
     have zc:=hbel.size
     have hnews:=World.news_of_block (w:=wc.alloc (.cells #[.slice wa wl.length wcap] 57)) (cs:=#[.slice wa wl.length wcap]) (t:=57) (fr:=(0,0)) (heap_alloc_new wc _)
     have hn1:k+1<=maxLen:=by unfold maxLen;omega
     have hn2:(k+1)*24<=140737488355328:=by omega
     clear hM hbel HGR RW HGw
     go_upto_region 21 with (at_builtin;refine wpList_append_lies _ rfl _ _ _ rfl w5.heap.size 57 j0 _ 1 24 Tryz.underlying29 hj0 hx0 hx1 hx2 rfl (by omega) u16 k (vs.take k) rfl (HM.out.alloc _) ⟨wc.heap.size,0,none⟩ 1 1 [.slice wa wl.length wcap] rfl rfl hnews (by simp [Value.oneCell']) (by omega) hn1 hn2 (by simp;omega) _ rfl ?_;intro gg cp w7 ho hgrow hat hlt7)
     have O7:=hide ho
     have B7:Hid (Below w5.heap.size w5 w7):=hide (Below.grown (HB.out.alloc HB.out.size _) hgrow (by simp;omega) (fun q hq=>(HM.out.lt q hq).1))
     have z7:=B7.out.size
     clear ho hgrow hat hnews HM HB
     have HFIN:Hid (∀ V w8,w8.ownsRow w5.heap.size 57 1 V (R.length+1) (vs.take k ++ .slice wa wl.length wcap::vs.drop k)->Below w5.heap.size w5 w8->OwnR w8 W3.heap.size V (rringsN L (i+1)).1 (vs.take k ++ .slice wa wl.length wcap::vs.drop k)/\Blk w8 tb (boolCells (rringsN L (i+1)).2)/\Kp (fun b=>b=tb) W3 w8):=by
      refine hide fun V w8 o8 b8=>?_
      rw [HS2.out,HE.out]
      exact ⟨HO5.out.ins (own_mono HW5.out zk) HAP.out (by omega) hk (Kp.of b8) (own_mono o8 hzb),HT5.out.call b8,HK5.out.trans (Kp.of b8)⟩
     clear HS2 HE HT5 HK5 HW5 HAP HO5
     by_cases hkl:k<R.length
     ·obtain ⟨g,hg⟩:=hpos (by omega)
      obtain rfl:=HAG.out g hg
      have hne : ¬ cap=k:=by omega
      have HN7:Hid (∀ j u,(vs.drop k)[j]?=some u->w7.cell? ((⟨g,k,none⟩:Addr).add j)=some u):=hide (slices_news fun j hj=>by
       rw [B7.out.cell (p:=⟨g,j,none⟩) (HROW.out.lt g rfl).2,own_cell HROW.out g rfl j (by omega)])
      have hdl:(vs.drop k).length=(R.length-k)*1:=by rw [List.length_drop];omega
      have HD1:Hid (∀ u∈vs.drop k,u.oneCell'=true):=hide fun u hu=>HONE.out u (List.mem_of_mem_drop hu)
      have hn3:k+1+(R.length-k)<=maxLen:=by unfold maxLen;omega
      have hn4:(k+1+(R.length-k))*24<=140737488355328:=by omega
      have hk0:(0:Int)<=(k:Int):=Int.natCast_nonneg _
      have hk1:(k:Int)<=(R.length:Int):=by omega
      have hk2:(k:Int)<=(cap:Int):=by omega
      go_upto_region 22 with (at_builtin;refine wpList_append_lies _ rfl _ _ _ rfl w5.heap.size 57 j0 _ 1 24 Tryz.underlying29 hj0 hx0 hx1 hx2 rfl (by omega) (.slice (some ⟨gg,0,none⟩) (k+1) cp) (k+1) (vs.take k ++ [.slice wa wl.length wcap]) rfl O7.out ⟨g,k,none⟩ (R.length-k) (cap-k) (vs.drop k) rfl hdl HN7.out HD1.out (by omega) hn3 hn4 (by omega) _ rfl ?_;intro g8 c8 w8 h8 hgrow hat hlt8)
      have B8:Hid (Below w5.heap.size w5 w8):=hide (Below.grown B7.out hgrow (by omega) (fun q hq=>(O7.out.lt q hq).1))
      have hfin:=HFIN.out (.slice (some ⟨g8,0,none⟩) (k+1+(R.length-k)) c8) w8 (by
       rw [show R.length+1=k+1+(R.length-k) by omega,show vs.take k ++ Value.slice wa wl.length wcap::vs.drop k=vs.take k ++ [.slice wa wl.length wcap] ++ vs.drop k by simp];exact h8) B8.out
      have HFN:=hide hfin
      clear HFIN hfin h8 hgrow hat HN7 HD1 O7 B7 B8 HONE HROW HAG
      go_wp2
      go_roundw
      case rel=>exact ⟨i+1,_,by go_num,by omega,HFN.out.1,HFN.out.2.1,HFN.out.2.2⟩
      case measure=>simp [intOf];omega
     ·have ek:k=R.length:=by omega
      subst ek
      have HFN:=hide (HFIN.out (.slice (some ⟨gg,0,none⟩) (R.length+1) cp) w7 (by
       rw [List.drop_of_length_le (by omega)];exact O7.out) B7.out)
      clear HFIN
      go_wp2_with (at_builtin;refine wpList_append_zero rfl _ _ _ rfl w5.heap.size 57 j0 1 Tryz.underlying29 hj0 (.slice (some ⟨gg,0,none⟩) (R.length+1) cp) (R.length+1) (vs.take R.length ++ [.slice wa wl.length wcap]) rfl O7.out _ _ rfl ?_)
      all_goals
       go_wp2
       go_roundw
       case rel=>exact ⟨i+1,_,by go_num,by omega,HFN.out.1,HFN.out.2.1,HFN.out.2.2⟩
       case measure=>simp [intOf];omega
  ·have ei:i=L.length:=by omega
   subst ei
   have HO:Hid (OwnR wo w.heap.size u12 (ringsM L) vs):=by rw [HRM.out];exact hide (hO.mono (by omega))
   have HB:Hid (Below w.heap.size w wo):=hide (below_kp B3.out hK B3.out.size (fun b h=>by omega))
   clear hO hT hK HRS HRL HEQ HTU HG HN HPM HSeg
   go_wp2
   go_ret2
   exact ⟨_,vs,by first | (rw [H.out];done) | (rw [H.out];rfl),by rw [H.out];exact HO.out,HB.out⟩
structure FewR (R:List (List Pt)):Prop where
 few:R.length<=100000
 short:∀ k,k<R.length->(R.getD k []).length<=100000
 good:∀ q∈R,∀ p∈q,Gd p
theorem rings_short {L:List (Pt×Pt)}:∀ i,∀ q∈(ringsN L i).1,q.length<=L.length+1
 | 0,q,hq=>by simp [ringsN] at hq
 | i+1,q,hq=>by
  have e:(ringsN L (i+1)).1=if (walkM L (nextsM L) (L.length+1) (ringsN L i).2 i).1.length > 0 then insL (ringsN L i).1 (leastL (walkM L (nextsM L) (L.length+1) (ringsN L i).2 i).1 (walkM L (nextsM L) (L.length+1) (ringsN L i).2 i).1.length) else (ringsN L i).1:=rfl
  rw [e] at hq
  split at hq
  ·rcases insL_mem hq with hq | hq
   ·rw [hq]
    exact Nat.le_trans (least_len _ _ (Nat.le_refl _)) (walk_len L (nextsM L) (L.length+1) (ringsN L i).2 i)
   ·exact rings_short i q hq
  ·exact rings_short i q hq
theorem clip_few (op:Int)(A B:List (List Pt)):FewR (clipM op A B).1:=by
 unfold clipM
 split
 ·exact ⟨by simp,fun k hk=>by simp at hk,fun q hq=>by simp at hq⟩
 split
 ·exact ⟨by simp,fun k hk=>by simp at hk,fun q hq=>by simp at hq⟩
 rename_i h
 have h0:bothM A B=0:=Decidable.byContradiction h
 obtain ⟨c1,c2⟩:=both_zero h0
 have hpf:=pieces_few (check_few c1) (check_few c2)
 have hl:=bord_len op (piecesM A B)
 have hG:GdE (bordM op (piecesM A B)):=fun j hj=>by
  obtain ⟨x,hx,h⟩:=bord_mem (getD_mem hj (zP,zP))
  have hg:=pieces_gd (sound_of c1) (sound_of c2) x hx
  rcases h with h | h
  ·rw [h];exact hg
  ·rw [h];exact hg.symm
 generalize bordM op (piecesM A B)=L at *
 show FewR (ringsM L)
 unfold ringsM
 exact ⟨by have:=rings_len L L.length;omega,fun k hk=>by have:=rings_short (L:=L) L.length _ (getD_mem hk []);omega,rings_good hG L.length⟩
theorem OwnR.poly {w:World}{base:Nat}{v:Value}{R:List (List Pt)}{vs:List Value}(h:OwnR w base v R vs)(hn:R.length<=maxLen):PolyAt w v R:=by
 obtain ⟨a,cap,rfl,hag,hpos,hm⟩:=own_form h.row
 rcases h.row.2 with ⟨e,h0⟩ | ⟨g,cp,cur,e,hb,hh,h1,h2,_⟩
 ·refine ⟨a,cap,rfl,?_,?_,fun i hi=>by omega⟩
  ·simp at e;omega
  ·simp at e;unfold maxLen;omega
 ·simp at e
  obtain ⟨rfl,rfl⟩:=e
  refine ⟨_,cap,rfl,h1,h2,fun i hi=>⟨g,0,vs.getD i nilV,rfl,(h.row.lt g rfl).2,?_,ring_of_own (h.each i hi) (by have:=h.small i hi;unfold maxLen;omega)⟩⟩
  rw [Nat.zero_add,own_cell h.row g rfl i (by omega),List.getD_eq_getElem?_getD,List.getElem?_eq_getElem (by rw [h.len];exact hi)];rfl
end Go.Proofs.YtnkcbephceollabGreat
