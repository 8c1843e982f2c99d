import Derived.Test.YtnkcbephceollabGreatU31
import Derived.Test.YtnkcbephceollabGreatU40
namespace Go.Proofs.YtnkcbephceollabGreat
open Go.RowKit
set_option linter.unusedSimpArgs false
set_option linter.unusedVariables false
set_option maxRecDepth 100000 in
set_option maxHeartbeats 4000000 in
theorem keepRings_any (base wb s0 s1:Nat)(X:Nat->Prop)(hv v:Value)(L:List Nat)(R:List (List Pt))(vs:List Value)(w:World)
  (hF:FewR R) (hL:L.length+4*R.length+4<=1000000000000) (hs0:base<=s0) (hs1:s1<=w.heap.size) (hbase:base<=w.heap.size) (hlo:∀ b,hv.ownBlock=some b->b<s0\/s1<=b) (hX:∀ b,X b->(b<s0\/s1<=b)/\b<w.heap.size)
  (hW:Wld w base wb hv L (FX (fun b _=>(b<s0\/s1<=b)/\¬ X b) wb hv)) (hO:OwnR w s0 v R vs) (hrow:∀ b,v.ownBlock=some b->b<s1) (hring:∀ j b,j<R.length->(vs.getD j nilV).ownBlock=some b->b<s1) :
  Calls Tryz.prog 31 #[.pointer (some ⟨wb,0,none⟩),v] w fun e w'=>e = .returned (.tuple #[])/\∃ hv' L',L'.length=L.length+4+4*R.length/\Wld w' base wb hv' L' (FX (fun b _=>¬ X b) wb hv')/\Kp (fun b=>b=wb\/hv.ownBlock=some b\/(s0<=b/\b<s1)) w w'/\Fresh w hv hv':=by
 obtain ⟨j0,hj0,hx0,hx1,hx2⟩:=info_parts infoRing
 obtain ⟨a,cap,rfl,hag,hpos,hmx⟩:=own_form hO.row
 unfold maxLen at hmx
 have hwlt:=hW.lt
 have hwbl:=hW.blk.lt
 have hlw:∀ b,hv.ownBlock=some b->b<w.heap.size:=fun b e=>(hW.own.lt b e).2
 have HO:=hide hO
 have HROW:=hide hO.row
 have HAG:=hide hag
 have hvl:=hO.len
 have hfew:=hF.few
 have HFR:=hide hF
 have HW0:=hide (hW.weaken (F':=FX (fun b _=>((b<s0\/s1<=b)/\¬ X b)/\b<w.heap.size) wb hv) (fun b o u ⟨x,y⟩ hc=>⟨⟨x,World.block_lt_of_cell? w ⟨b,o,none⟩ hc⟩,y⟩))
 have HLO:=hide hlo
 have HLW:=hide hlw
 have HX:=hide hX
 have HRW:=hide hrow
 have HRG:=hide hring
 clear hO hag hF hW hlo hX hrow hring hlw
 go_enter Tryz.func31,Tryz.ntmps31
 go_upto_block 0 with fail
 go_cut [4,5] (fun iv _ w'=>w'.ownsRow w.heap.size 57 1 iv R.length vs/\Below w.heap.size w w')
 case first=>
  go_wp2_with fail
  go_loopw [4,5] (fun iv cv w'=>∃ k:Nat,cv = .int .i64 k/\k<=R.length/\w'.ownsRow w.heap.size 57 1 iv k (vs.take k)/\Below w.heap.size w w') (fun _ cv _=>R.length-(intOf cv).toNat)
  case atStart=>exact ⟨0,rfl,Nat.zero_le _,by rw [List.take_zero];exact World.ownsRow_nil _ _ _ _,Below.refl _ _⟩
  case round=>
   obtain ⟨k,rfl,hk,hM,hbel⟩:=hrel
   by_cases hkl:k<R.length
   ·have hk0:(0:Int)<=(k:Int):=Int.natCast_nonneg _
    have hk1:(k:Int)<(R.length:Int):=by omega
    obtain ⟨g,hg⟩:=hpos (by omega)
    obtain rfl:=HAG.out g hg
    have c6:wr.cell? ⟨g,k,none⟩=some (vs.getD k nilV):=by
     rw [hbel.cell (p:=⟨g,k,none⟩) (HROW.out.lt g rfl).2,own_cell HROW.out g rfl k (by omega),List.getD_eq_getElem?_getD,List.getElem?_eq_getElem (by omega)];rfl
    have HTK:Hid (vs.take (k+1)=vs.take k ++ [vs.getD k nilV]):=by
     refine hide ?_
     rw [List.take_succ_eq_append_getElem (by omega),List.getD_eq_getElem?_getD,List.getElem?_eq_getElem (by omega)];rfl
    obtain ⟨xa,xl,xc,hx⟩:=HO.out.form k hkl
    rw [hx] at c6 HTK
    have hnews:=World.news_of_block (w:=wr.alloc (.cells #[.slice xa xl xc] 57)) (cs:=#[.slice xa xl xc]) (t:=57) (fr:=(0,0)) (heap_alloc_new wr _)
    have hn1:k+1<=maxLen:=by unfold maxLen;omega
    have hn2:(k+1)*24<=140737488355328:=by omega
    have HM:=hide hM
    have HB:=hide hbel
    have zz:=hbel.size
    clear hM hbel hx HO HROW HAG HFR HW0 HLO HLW HX HRW HRG
    go_wp2_with (at_builtin;refine wpList_append_lies _ rfl _ _ _ rfl w.heap.size 57 j0 _ 1 24 Tryz.underlying29 hj0 hx0 hx1 hx2 rfl (by omega) u4 k (vs.take k) rfl (HM.out.alloc _) ⟨wr.heap.size,0,none⟩ 1 1 [.slice xa xl xc] rfl rfl hnews (by simp [Value.oneCell']) (by omega) hn1 hn2 (by simp;omega) _ rfl ?_;intro gg cp w7 ho hgrow hat hlt7)
    have O7:Hid (w7.ownsRow w.heap.size 57 1 (.slice (some ⟨gg,0,none⟩) (k+1) cp) (k+1) (vs.take (k+1))):=by rw [HTK.out];exact hide ho
    have B7:Hid (Below w.heap.size w w7):=hide (Below.grown (HB.out.alloc HB.out.size _) hgrow (by simp;omega) (fun q hq=>(HM.out.lt q hq).1))
    clear ho hgrow hat hnews HM HB c6 HTK
    go_wp2
    go_roundw
    case rel=>exact ⟨k+1,by go_num,by omega,O7.out,B7.out⟩
    case measure=>simp [intOf];omega
   ·have ek:k=R.length:=by omega
    subst ek
    have et:vs.take R.length=vs:=List.take_of_length_le (by omega)
    rw [et] at hM
    have HM:=hide hM
    clear hM HO HROW HAG HFR HW0 HLO HLW HX HRW HRG
    go_wp2
    go_meet
    case rel=>exact ⟨HM.out,hbel⟩
 case rest=>
 obtain ⟨hI,hbel⟩:=hcut
 obtain ⟨ia,icap,rfl,iag,ipos,imx⟩:=own_form hI
 have hIl:∀ b,(Value.slice ia R.length icap).ownBlock=some b->w.heap.size<=b/\b<wc.heap.size:=fun b e=>hI.lt b e
 have HIL:=hide hIl
 have HI:=hide hI
 have HIAG:=hide iag
 have zc:=hbel.size
 have hO1:=HO.out.kp (Kp.of (X:=fun _=>False) hbel) (fun b _ _ e=>e)
 have HO1:=hide hO1
 have HW1:=hide (HW0.out.kp (F':=FX (fun b _=>((b<s0\/s1<=b)/\¬ X b)/\b<w.heap.size) wb hv) (X:=fun _=>False) (Kp.of hbel) (fun e=>e) (fun _ _ e=>e) (fun b o u f hc=>⟨(hbel.cell (p:=⟨b,o,none⟩) (World.block_lt_of_cell? w ⟨b,o,none⟩ hc)).trans hc,f⟩))
 have HB1:=hide hbel
 have hK0:=keep_ringsO base wb R.length hv (.slice a R.length cap) L (fun b=>X b\/(Value.slice ia R.length icap).ownBlock=some b\/∃ j,j<R.length/\(vs.getD j nilV).ownBlock=some b) vs wc (by omega) (by omega) (fun b e=>by
   rcases e with e | e | ⟨j,hj,e⟩
   ·have:=(HX.out b e).2;omega
   ·exact (hIl b e).2
   ·have:=HRG.out j b hj e;omega) (by omega)
  (HW1.out.weaken (fun b o u ⟨⟨⟨x,z⟩,q⟩,y⟩ hc=>⟨⟨fun e=>by
   rcases e with e | e | ⟨j,hj,e⟩
   ·exact z e
   ·have:=(hIl b e).1;omega
   ·have h1:=HRG.out j b hj e;have h2:=(HO.out.lt j b hj e).1;omega,fun e=>by
   have h1:=HRW.out b e;have h2:=(HROW.out.lt b e).1;omega⟩,y⟩)) (own_mono hO1.row hs0) (fun b e=>by
   have h1:=HRW.out b e
   have h2:=(HROW.out.lt b e).1
   refine ⟨fun e2=>?_,fun e2=>by have:=HLO.out b e2;omega⟩
   rcases e2 with e2 | e2 | ⟨j,hj,e2⟩
   ·have:=(HX.out b e2).1;omega
   ·have:=(hIl b e2).1;omega
   ·exact own_apart (HO.out.each j hj) HROW.out (by decide) b e2 e)
 have HK0:=hide hK0
 clear hK0 hO1 hI iag hbel hIl HW1 HW0
 go_wp2_with fail
 refine HK0.out.mono ?_
 rintro e w1 ⟨rfl,hv1,L1,hl1,hW1,hk1,hf1⟩
 have hsz1:=hk1.size
 have HLO1:Hid (∀ b,hv1.ownBlock=some b->b<w.heap.size\/wc.heap.size<=b):=hide fun b e=>by
  rcases hf1 with f | ⟨q,f,hq⟩
  ·rw [f] at e;exact .inl (HLW.out b e)
  ·rw [f] at e;have:=Option.some.inj e;exact .inr (by omega)
 have far:∀ b,¬ b=wb->hv.ownBlock≠some b->(Value.slice a R.length cap).ownBlock≠some b->¬ (b=wb\/hv.ownBlock=some b\/(Value.slice a R.length cap).ownBlock=some b):=fun b h1 h2 h3 e=>by
  rcases e with e | e | e
  ·exact h1 e
  ·exact h2 e
  ·exact h3 e
 have HI1:Hid (w1.ownsRow w.heap.size 57 1 (.slice ia R.length icap) R.length vs):=hide (Kp.own HI.out hk1 (fun b e=>far b (by have:=(HIL.out b e).1;omega) (fun e2=>by have:=HLW.out b e2;have:=(HIL.out b e).1;omega) (fun e2=>by have:=HRW.out b e2;have:=(HIL.out b e).1;omega)))
 have HE1:Hid (∀ j,0<=j->j<R.length->w1.ownsRow s0 31 3 (vs.getD j nilV) (R.getD j []).length (ptCells (R.getD j []))):=hide fun j _ hj=>Kp.own (HO1.out.each j hj) hk1 (fun b e=>far b (by have:=(HO.out.lt j b hj e).1;omega) (fun e2=>by have:=HLO.out b e2;have:=(HO.out.lt j b hj e).1;have:=HRG.out j b hj e;omega) (own_apart (HO.out.each j hj) HROW.out (by decide) b e))
 have HWL:Hid (Wld w1 base wb hv1 L1 (FX (fun b _=>¬ X b/\(Value.slice ia R.length icap).ownBlock≠some b/\∀ j,0<=j->j<R.length->(vs.getD j nilV).ownBlock≠some b) wb hv1)):=hide (hW1.weaken (fun b o u ⟨x,y⟩ hc=>⟨⟨fun e=>x (.inl e),fun e=>x (.inr (.inl e)),fun j _ hj e=>x (.inr (.inr ⟨j,hj,e⟩))⟩,y⟩))
 have HF1:Hid (Fresh w hv hv1):=hide ((Fresh.refl w hv).trans hf1 zc)
 have HKP:Hid (Kp (fun b=>b=wb\/hv.ownBlock=some b\/(s0<=b/\b<s1)\/w.heap.size<=b) w w1):=hide ((Kp.of HB1.out).trans (hk1.weaken fun b _ e=>by
  rcases e with e | e | e
  ·exact .inl e
  ·exact .inr (.inl e)
  ·have h1:=HRW.out b e;have h2:=(HROW.out.lt b e).1;exact .inr (.inr (.inl ⟨h2,h1⟩))))
 clear hW1 hf1 hk1 far HK0 HO1 HI HB1
 go_wp2_with fail
 go_loopw [6] (fun c w'=>∃ (i:Nat) (hv':Value) (L':List Nat),c = .int .i64 i/\i<=R.length/\L'.length=L.length+4+4*i/\Wld w' base wb hv' L' (FX (fun b _=>¬ X b/\(Value.slice ia R.length icap).ownBlock≠some b/\∀ j,i<=j->j<R.length->(vs.getD j nilV).ownBlock≠some b) wb hv')/\Fresh w hv hv'/\Kp (fun b=>b=wb\/hv.ownBlock=some b\/(s0<=b/\b<s1)\/w.heap.size<=b) w w'/\
   w'.ownsRow w.heap.size 57 1 (.slice ia R.length icap) R.length vs/\(∀ j,i<=j->j<R.length->w'.ownsRow s0 31 3 (vs.getD j nilV) (R.getD j []).length (ptCells (R.getD j [])))/\(∀ b,hv'.ownBlock=some b->b<w.heap.size\/wc.heap.size<=b)/\wc.heap.size<=w'.heap.size) (fun c _=>R.length-(intOf c).toNat)
 case atStart=>exact ⟨0,hv1,L1,rfl,Nat.zero_le _,by omega,HWL.out,HF1.out,HKP.out,HI1.out,HE1.out,HLO1.out,hsz1⟩
 case round=>
  clear HWL HF1 HKP HI1 HE1 HLO1
  obtain ⟨i,hv2,L2,rfl,hi,hl2,hW2,hf2,hk2,hI2,hE2,hlo2,hzw⟩:=hrel
  have hsz2:=hk2.size
  by_cases hlt:i<R.length
  ·obtain ⟨ib,hib⟩:=ipos (by omega)
   obtain rfl:=HIAG.out ib hib
   have c6:wr.cell? ⟨ib,i,none⟩=some (vs.getD i nilV):=by
    rw [own_cell hI2 ib rfl i (by omega),List.getD_eq_getElem?_getD,List.getElem?_eq_getElem (by omega)];rfl
   obtain ⟨hib1,hib2⟩:=HIL.out ib rfl
   have hrl:∀ j b,j<R.length->(vs.getD j nilV).ownBlock=some b->s0<=b/\b<s1:=fun j b hj e=>⟨(HO.out.lt j b hj e).1,HRG.out j b hj e⟩
   have hvn:∀ b,s0<=b->b<s1->hv2.ownBlock≠some b:=fun b hb hw e=>by
    have:=HLO.out b (hf2.old (by omega) e);omega
   have hK:=keep_pointsO base wb (R.getD i []).length hv2 (vs.getD i nilV) L2 (fun b=>X b\/b=ib\/∃ j,i+1<=j/\j<R.length/\(vs.getD j nilV).ownBlock=some b) (ptCells (R.getD i [])) wr (by omega) (by have:=HFR.out.short i hlt;omega) (fun b e=>by
     rcases e with e | e | ⟨j,_,hj,e⟩
     ·have:=(HX.out b e).2;omega
     ·have:=(hI2.lt ib rfl).2;omega
     ·have:=(hrl j b hj e).2;omega) (by omega)
    (hW2.weaken (fun b o u ⟨⟨z,q,x⟩,y⟩ hc=>⟨⟨fun e=>by
     rcases e with e | e | ⟨j,h1,hj,e⟩
     ·exact z e
     ·exact q (by rw [e];rfl)
     ·exact x j (by omega) hj e,x i (Nat.le_refl _) hlt⟩,y⟩)) (own_mono (hE2 i (Nat.le_refl _) hlt) hs0) (fun b e=>by
     have hb:=hrl i b hlt e
     refine ⟨fun e2=>?_,hvn b hb.1 hb.2⟩
     rcases e2 with e2 | e2 | ⟨j,h1,hj,e2⟩
     ·have:=(HX.out b e2).1;omega
     ·omega
     ·exact HO.out.apart i j b (by omega) hj e e2)
   obtain ⟨xa,xl,xc,hx⟩:=HO.out.form i hlt
   have HRI:Hid (∀ b,(vs.getD i nilV).ownBlock=some b->s0<=b/\b<s1):=hide fun b e=>hrl i b hlt e
   have HAPT:Hid (∀ j b,i+1<=j->j<R.length->(vs.getD j nilV).ownBlock=some b->(vs.getD i nilV).ownBlock≠some b):=hide fun j b h1 hj e e2=>HO.out.apart i j b (by omega) hj e2 e
   have HK:=hide hK
   rw [hx] at HK c6 HRI HAPT
   have HW2:=hide hW2
   have HF2:=hide hf2
   have HK2:=hide hk2
   have HI2:=hide hI2
   have HE2:=hide hE2
   have HLO2:=hide hlo2
   have HRL:=hide hrl
   have HVN:=hide hvn
   have hi0:(0:Int)<=(i:Int):=Int.natCast_nonneg _
   have hi1:(i:Int)<(R.length:Int):=by omega
   have ibl:=(hI2.lt ib rfl).2
   clear hK hW2 hf2 hk2 hI2 hE2 hlo2 hrl hvn hx HFR HX HLO HO HROW HAG
   go_wp2_with fail
   refine HK.out.mono ?_
   rintro e w3 ⟨rfl,hv3,L3,hl3,hW3,hk3,hf3⟩
   have hsz3:=hk3.size
   have HW3:=hide (hW3.weaken (F':=FX (fun b _=>¬ X b/\(Value.slice (some ⟨ib,0,none⟩) R.length icap).ownBlock≠some b/\∀ j,i+1<=j->j<R.length->(vs.getD j nilV).ownBlock≠some b) wb hv3) (fun b o u ⟨x,y⟩ hc=>⟨⟨fun e=>x (.inl e),fun e=>x (.inr (.inl (Option.some.inj e).symm)),fun j h1 hj e=>x (.inr (.inr ⟨j,h1,hj,e⟩))⟩,y⟩))
   have HF3:Hid (Fresh w hv hv3):=hide (HF2.out.trans hf3 hsz2)
   have HK3:Hid (Kp (fun b=>b=wb\/hv.ownBlock=some b\/(s0<=b/\b<s1)\/w.heap.size<=b) w w3):=hide (HK2.out.trans ⟨hk3.os,hk3.tape,hk3.output,hk3.size,fun b hb hnx=>hk3.block b hb (fun e=>hnx (by
    rcases e with e | e | e
    ·exact .inl e
    ·by_cases hw:b<w.heap.size
     ·exact .inr (.inl (HF2.out.old hw e))
     ·exact .inr (.inr (.inr (by omega)))
    ·exact .inr (.inr (.inl (HRI.out b e)))))⟩)
   have HI3:Hid (w3.ownsRow w.heap.size 57 1 (.slice (some ⟨ib,0,none⟩) R.length icap) R.length vs):=hide (Kp.own HI2.out hk3 (fun b e=>by
    have eb:b=ib:=(Option.some.inj e).symm
    subst eb
    intro e2
    rcases e2 with e2 | e2 | e2
    ·omega
    ·have:=HLO2.out b e2;omega
    ·have:=HRI.out b e2;omega))
   have HE3:Hid (∀ j,i+1<=j->j<R.length->w3.ownsRow s0 31 3 (vs.getD j nilV) (R.getD j []).length (ptCells (R.getD j []))):=hide fun j h1 hj=>Kp.own (HE2.out j (by omega) hj) hk3 (fun b e=>by
    have hb:=HRL.out j b hj e
    intro e2
    rcases e2 with e2 | e2 | e2
    ·omega
    ·exact HVN.out b hb.1 hb.2 e2
    ·exact HAPT.out j b h1 hj e e2)
   have HLO3:Hid (∀ b,hv3.ownBlock=some b->b<w.heap.size\/wc.heap.size<=b):=hide fun b e=>by
    rcases hf3 with f | ⟨q,f,hq⟩
    ·rw [f] at e;exact HLO2.out b e
    ·rw [f] at e;have:=Option.some.inj e;exact .inr (by omega)
   clear hW3 hf3 hk3 HW2 HF2 HK2 HI2 HE2 HLO2 HRL HVN HK HRI HAPT c6
   go_wp2
   go_roundw
   case rel=>exact ⟨i+1,hv3,L3,by go_num,by omega,by omega,HW3.out,HF3.out,HK3.out,HI3.out,HE3.out,HLO3.out,by omega⟩
   case measure=>simp [intOf];omega
  ·have ei:i=R.length:=by omega
   subst ei
   have HW2:=hide hW2
   have HF2:=hide hf2
   have HK2:=hide hk2
   clear hW2 hf2 hk2 hI2 hE2 hlo2 HFR HX HLO HO HROW HAG HIL HIAG HRW HRG
   go_wp2
   go_end0
   exact ⟨rfl,hv2,L2,hl2,HW2.out.weaken (fun b o u ⟨x,y⟩ _=>⟨x.1,y⟩),HK2.out.weaken (fun b hb e=>by
    rcases e with e | e | e | e
    ·exact .inl e
    ·exact .inr (.inl e)
    ·exact .inr (.inr e)
    ·omega),HF2.out⟩
theorem own_clip {w:World}{base base':Nat}{v:Value}{R:List (List Pt)}{vs:List Value}(h:OwnR w base v R vs)(hb:base'<=base):OwnR w base' v R vs:=h.mono hb
theorem clip_count (op:Int)(A B:List (List Pt)):(clipM op A B).1.length<=27648:=by
 unfold clipM
 split
 ·simp
 split
 ·simp
 rename_i h
 have h0:bothM A B=0:=Decidable.byContradiction h
 obtain ⟨c1,c2⟩:=both_zero h0
 have hpf:=pieces_few (check_few c1) (check_few c2)
 have hl:=bord_len op (piecesM A B)
 show (ringsM _).length<=27648
 unfold ringsM
 have:=rings_len (bordM op (piecesM A B)) (bordM op (piecesM A B)).length
 omega
set_option maxRecDepth 100000 in
set_option maxHeartbeats 8000000 in
theorem clipped_any (base wb:Nat)(hv:Value)(L:List Nat)(kd n:Int)(A B:Value)(p q r s:Pt)(PA PB:List (List Pt))(w:World)
  (hn:PA.length<=1048576) (hS:∀ i,i<PA.length->(PA.getD i []).length<=1048576) (hn2:PB.length<=1048576) (hS2:∀ i,i<PB.length->(PB.getD i []).length<=1048576) (hL:L.length+4*PA.length+4*PB.length+110604<=1000000000000) (hbase:base<=w.heap.size)
  (hPA:PolyAt w A PA) (hPB:PolyAt w B PB) (hW:Wld w base wb hv L (FX (fun _ _=>True) wb hv)) :
  Calls Tryz.prog 12 #[.pointer (some ⟨wb,0,none⟩),opV kd n A B p q r s] w fun e w'=>e = .returned (.bool true)/\∃ hv' L',L'.length<=L.length+110604+4*PA.length+4*PB.length/\Wld w' base wb hv' L' (FX (fun _ _=>True) wb hv')/\Kp (fun b=>b=wb\/hv.ownBlock=some b) w w':=by
 have HPA0:=hide hPA
 have HPB0:=hide hPB
 have HW:=hide hW
 have hlo:∀ b,hv.ownBlock=some b->b<w.heap.size:=fun b e=>(hW.own.lt b e).2
 have HLO:=hide hlo
 have HS:=hide hS
 have HS2:=hide hS2
 have hwb0:=hW.lt
 clear hPA hPB hW hlo hS hS2
 obtain ⟨W0,hW0⟩:∃ W,W=w.alloc (.cells #[.int .i64 kd,.int .i64 n,A,B,.int .i64 p.x,.int .i64 p.y,.int .i64 p.d,.int .i64 q.x,.int .i64 q.y,.int .i64 q.d,.int .i64 r.x,.int .i64 r.y,.int .i64 r.d,.int .i64 s.x,.int .i64 s.y,.int .i64 s.d] 33):=⟨_,rfl⟩
 have B0:Hid (Below w.heap.size w W0):=by rw [hW0];exact (Below.refl _ _).alloc (Nat.le_refl _) _
 have O1:W0.cell? ⟨w.heap.size,1,none⟩=some (.int .i64 n):=by rw [hW0];exact (Blk.new w _ _).cell 1
 have O2:W0.cell? ⟨w.heap.size,2,none⟩=some A:=by rw [hW0];exact (Blk.new w _ _).cell 2
 have O3:W0.cell? ⟨w.heap.size,3,none⟩=some B:=by rw [hW0];exact (Blk.new w _ _).cell 3
 have z0:W0.heap.size=w.heap.size+1:=by rw [hW0];simp
 have PA0:Hid (PolyAt W0 A PA):=HPA0.out.later B0.out
 have PB0:Hid (PolyAt W0 B PB):=HPB0.out.later B0.out
 go_enter Tryz.func12,Tryz.ntmps12
 go_wp2_with fail
 rw [<-hW0]
 clear hW0
 refine (handed_any A PA W0 PA0.out hn HS.out).mono ?_
 rintro e w1 ⟨pa,ra,wa,xa,rga,vsa,usa,rfl,hA,k1⟩
 have a1:=(k1.cell (p:=⟨w.heap.size,3,none⟩) (by simp;omega)).trans O3
 have HA:=hide hA
 have K1:=hide k1
 have z1:=k1.size
 have O1':=O1
 have O2':=O2
 have O3':=O3
 clear hA k1 O1 O2 O3
 go_wp2_with fail
 refine (handed_any B PB w1 (PB0.out.later K1.out) hn2 HS2.out).mono ?_
 rintro e w2 ⟨pb,rb,wl,xb,rg,vs,us,rfl,hB,k2⟩
 have z2:=k2.size
 have HA2:=hide (HA.out.later k2)
 have HB2:=hide hB
 have HA1:=hide HA.out
 have HB1:=hide hB
 have K2:Hid (Below W0.heap.size W0 w2):=bvia K1.out k2
 have bpa:=HA.out.hand.pbk.lt
 have bpb:=hB.hand.pbk.lt
 have HRA:Hid (∀ t,t<PA.length->rga t<w1.heap.size):=fun t ht=>(HA.out.hand.pts t ht).lt
 have HRB:Hid (∀ t,t<PB.length->rg t<w2.heap.size):=fun t ht=>(HB2.out.hand.pts t ht).lt
 have p0:=HA2.out.hand.pbk.cell 0
 have p1:=HA2.out.hand.pbk.cell 1
 have q0:=hB.hand.pbk.cell 0
 have q1:=hB.hand.pbk.cell 1
 simp at p0 p1 q0 q1
 clear hB k2 HA K1 a1
 have bpa2:pa<w2.heap.size:=by omega
 have CP:=hide (fun wz (kz:Below w2.heap.size w2 wz)=>Clip_any n _ _ PA PB wz ((HA2.out.later kz).poly hn HS.out) ((HB2.out.later kz).poly hn2 HS2.out))
 have n2:w2.cell? ⟨w.heap.size,1,none⟩=some (.int .i64 n):=(K2.out.cell (p:=⟨w.heap.size,1,none⟩) (by simp;omega)).trans O1'
 have hz20:W0.heap.size<=w2.heap.size:=K2.out.size
 have HFW:=hide (clip_few n PA PB)
 go_upto_region 3 with fail
 go_cut [7,8] (fun lv ev w'=>ev = .int .i64 (clipM n PA PB).2/\(∃ vsr,OwnR w' w2.heap.size lv (clipM n PA PB).1 vsr)/\Hid (Below w2.heap.size w2 w'))
 case first=>
  clear HA2 HB2
  have hw2:w.heap.size<w2.heap.size:=by omega
  go_region_held3 (fun w'=>w'.cell? ⟨w.heap.size,1,none⟩=some (.int .i64 n)/\Below w2.heap.size w2 w')
   (first
    | exact ⟨n2,(Below.refl _ _).drew⟩
    | exact ⟨n2,Below.refl _ _⟩
    | exact ⟨n2,below_drewN (Below.refl _ _) _⟩
    | exact below_drewN (Below.refl _ _) _
    |(go_split_ands
      refine ⟨by assumption,below_drewN (by assumption) _⟩)
    |(go_split_ands
      have hq:=Below.size (show Below w2.heap.size w2 _ by assumption)
      refine ⟨(k3.cell (p:=⟨w.heap.size,1,none⟩) (by simp;omega)).trans (by assumption),bvia (by assumption) k3⟩)
    | go_keep)
   (first
    |(go_at_call 19
      refine (it_any _ _ _ _ _ (by first | exact p0 | exact q0) (by first | exact p1 | exact q1)).mono ?_
      rintro e' w3 ⟨rfl,m3,rfl⟩)
    |(go_at_call 28;refine (CP.out _ (by first | exact below_drewN (Below.refl _ _) _ | exact (Below.refl _ _).drew | assumption | (go_split_ands;assumption))).mono ?_;rintro e' w4 ⟨v',vs',rfl,o3,k3⟩))
  all_goals
   go_wp2_with fail
   go_meet
   case rel=>exact ⟨rfl,⟨_,own_clip o3 (below_drewN (Below.refl w2.heap.size w2) _).size⟩,bvia (below_drewN (Below.refl _ _) _) k3⟩
 case rest=>
 obtain ⟨rfl,⟨vsr,O4'⟩,K4⟩:=hcut
 have O4:=hide O4'
 have z4:=K4.out.size
 have KW4:Hid (Below W0.heap.size W0 wc):=bvia K2.out K4.out
 have HA4:=hide (HA2.out.later K4.out)
 have HB4:=hide (HB2.out.later K4.out)
 have PA4:Hid (PolyAt wc A PA):=PA0.out.later KW4.out
 have PB4:Hid (PolyAt wc B PB):=PB0.out.later KW4.out
 have c1:wc.cell? ⟨w.heap.size,1,none⟩=some (.int .i64 n):=(KW4.out.cell (p:=⟨w.heap.size,1,none⟩) (by simp;omega)).trans O1'
 have c2:wc.cell? ⟨w.heap.size,2,none⟩=some A:=(KW4.out.cell (p:=⟨w.heap.size,2,none⟩) (by simp;omega)).trans O2'
 have c3:wc.cell? ⟨w.heap.size,3,none⟩=some B:=(KW4.out.cell (p:=⟨w.heap.size,3,none⟩) (by simp;omega)).trans O3'
 have HRW:Hid (∀ b,u7.ownBlock=some b->b<wc.heap.size):=hide fun b e=>(O4'.row.lt b e).2
 have HRG:Hid (∀ j b,j<(clipM n PA PB).1.length->(vsr.getD j nilV).ownBlock=some b->b<wc.heap.size):=hide fun j b hj e=>(O4'.lt j b hj e).2
 obtain ⟨s1,hs1⟩:∃ s,s=wc.heap.size:=⟨_,rfl⟩
 rw [<-hs1] at HRW HRG
 clear CP K4 HA2 HB2 O4' n2 p0 p1 q0 q1
 go_wp2_with fail
 refine (rClip_any n A B PA PB _ PA4.out PB4.out HS.out HS2.out).mono ?_
 rintro e w5 ⟨kv,vsk,rfl,o5,k5⟩
 have z5:=k5.size
 have KW5:Hid (Below W0.heap.size W0 w5):=bvia KW4.out k5
 have HA5:=hide (HA4.out.later k5)
 have HB5:=hide (HB4.out.later k5)
 have PA5:Hid (PolyAt w5 A PA):=PA4.out.later k5
 have PB5:Hid (PolyAt w5 B PB):=PB4.out.later k5
 have O5:=hide (O4.out.kp (Kp.of (X:=fun _=>False) k5) (fun b _ _ e=>e))
 have hRl:(clipM n PA PB).1.length<=maxLen:=by have:=HFW.out.few;unfold maxLen;omega
 have R5:=hide (o5.poly hRl)
 have d2:w5.cell? ⟨w.heap.size,2,none⟩=some A:=(k5.cell (p:=⟨w.heap.size,2,none⟩) (by simp;omega)).trans c2
 have d3:w5.cell? ⟨w.heap.size,3,none⟩=some B:=(k5.cell (p:=⟨w.heap.size,3,none⟩) (by simp;omega)).trans c3
 clear c1 c2 c3 k5 o5 O4 KW4 HA4 HB4 PA4 PB4
 go_wp2_with fail
 refine (still_any A PA _ PA5.out HA5.out hn HS.out).mono ?_
 rintro e w6 ⟨rfl,k6⟩
 have z6:=k6.size
 have KW6:Hid (Below W0.heap.size W0 w6):=bvia KW5.out k6
 have HA6:=hide (HA5.out.later k6)
 have HB6:=hide (HB5.out.later k6)
 have PB6:Hid (PolyAt w6 B PB):=PB5.out.later k6
 have O6:=hide (O5.out.kp (Kp.of (X:=fun _=>False) k6) (fun b _ _ e=>e))
 have R6:=hide (R5.out.later k6)
 have e3:w6.cell? ⟨w.heap.size,3,none⟩=some B:=(k6.cell (p:=⟨w.heap.size,3,none⟩) (by simp;omega)).trans d3
 clear d2 d3 k6 O5 R5 KW5 HA5 HB5 PA5 PB5
 go_wp2_with fail
 refine (still_any B PB _ PB6.out HB6.out hn2 HS2.out).mono ?_
 rintro e w7 ⟨rfl,k7⟩
 have z7:=k7.size
 have KW7:Hid (Below W0.heap.size W0 w7):=bvia KW6.out k7
 have HA7:=hide (HA6.out.later k7)
 have HB7:=hide (HB6.out.later k7)
 have O7:=hide (O6.out.kp (Kp.of (X:=fun _=>False) k7) (fun b _ _ e=>e))
 have R7:=hide (R6.out.later k7)
 clear e3 k7 O6 R6 KW6 HA6 HB6 PB6
 have hfew:=HFW.out.few
 have hfew2:=clip_count n PA PB
 have CSR:=hide (sameRings_yes u7 kv (clipM n PA PB).1 w7 (O7.out.poly hRl) R7.out)
 generalize clipM n PA PB=CL at *
 obtain ⟨RR,zz⟩:=CL
 simp only at HRW HRG O7 R7 CSR hfew hfew2 HFW hRl
 obtain ⟨la,lcap,rfl,_,_,_⟩:=own_form O7.out.row
 obtain ⟨ka,kcap,rfl,_,_,_⟩:=R7.out
 go_wp2_with fail
 refine CSR.out.mono ?_
 rintro e w8 ⟨rfl,m8,rfl⟩
 have K8:Hid (Below w7.heap.size w7 (w7.drewN m8)):=below_drewN (Below.refl _ _) m8
 obtain ⟨W8,hW8⟩:∃ W,W=w7.drewN m8:=⟨_,rfl⟩
 rw [<-hW8] at K8 ⊢
 clear hW8
 have z8:=K8.out.size
 have KW8:Hid (Below W0.heap.size W0 W8):=bvia KW7.out K8.out
 have HA8:=hide (HA7.out.later K8.out)
 have HB8:=hide (HB7.out.later K8.out)
 have O8:=hide (O7.out.kp (Kp.of (X:=fun _=>False) K8.out) (fun b _ _ e=>e))
 have B8:Hid (Below w.heap.size w W8):=bvia B0.out KW8.out
 clear K8 KW7 HA7 HB7 O7 R7 CSR
 have V8:Hid (Wld W8 base wb hv L (FX (fun b _=>(b<w2.heap.size\/s1<=b)/\¬ (W0.heap.size<=b/\b<w2.heap.size)) wb hv)):=(HW.out.call B8.out).weaken (fun b o u ⟨x,y⟩ _=>⟨⟨by omega,by omega⟩,y⟩)
 have CK:=hide (keepRings_any base wb w2.heap.size s1 (fun b=>W0.heap.size<=b/\b<w2.heap.size) hv (.slice la RR.length lcap) L RR vsr W8 HFW.out (by omega) (by omega) (by omega) (by omega) (fun b e=>by have:=HLO.out b e;omega) (fun b e=>by omega) V8.out O8.out HRW.out HRG.out)
 clear V8 O8
 go_wp2_with fail
 refine CK.out.mono ?_
 rintro e w9 ⟨rfl,hv1,L1,hl1,hW1,hk1,hf1⟩
 have z9:=hk1.size
 have HA9:=hide (HA1.out.kp HA8.out hk1 (fun b h1 h2 e=>by
  rcases e with e | e | e
  ·omega
  ·have:=HLO.out b e;omega
  ·omega))
 have HB9:=hide (HB1.out.kp HB8.out hk1 (fun b h1 h2 e=>by
  rcases e with e | e | e
  ·omega
  ·have:=HLO.out b e;omega
  ·omega))
 have hlo1:∀ b,hv1.ownBlock=some b->b<w.heap.size\/w2.heap.size<=b:=fun b e=>by
  rcases hf1 with f | ⟨q,f,hq⟩
  ·rw [f] at e;exact .inl (HLO.out b e)
  ·rw [f] at e;have:=Option.some.inj e;omega
 have HLO1:=hide hlo1
 have HF1:=hide hf1
 have KP9:Hid (Kp (fun b=>b=wb\/hv.ownBlock=some b) w w9):=⟨hk1.os.trans B8.out.os,hk1.tape.trans B8.out.tape,hk1.output.trans B8.out.output,by have:=B8.out.size;omega,fun b hb hnx=>(hk1.block b (by have:=B8.out.size;omega) (fun e=>by
  rcases e with e | e | e
  ·exact hnx (.inl e)
  ·exact hnx (.inr e)
  ·omega)).trans (B8.out.block b hb)⟩
 have CA:=hide (keepArg_gen base wb W0.heap.size w1.heap.size pa ra wa xa (fun b=>w1.heap.size<=b/\b<w2.heap.size) rga hv1 L1 PA vsa usa w9 hn HS.out (by omega) (by omega) (by omega) (fun b e=>by have:=hlo1 b e;omega) (by omega) bpa HRA.out (fun b e=>by omega) (hW1.weaken (fun b o u ⟨x,y⟩ _=>⟨⟨by omega,by omega⟩,y⟩)) HA9.out)
 clear hW1 hk1 hlo1 CK HA8 HB8 KW8 HA9
 go_wp2_with fail
 refine CA.out.mono ?_
 rintro e w10 ⟨rfl,hv2,L2,hl2,hW2,hk2,hf2⟩
 have z10:=hk2.size
 have HB10:=hide (HB1.out.kp HB9.out hk2 (fun b h1 h2 e=>by
  rcases e with e | e | e
  ·omega
  ·have:=HLO1.out b e;omega
  ·omega))
 have hlo2:∀ b,hv2.ownBlock=some b->b<w.heap.size\/w2.heap.size<=b:=fun b e=>by
  rcases hf2 with f | ⟨q,f,hq⟩
  ·rw [f] at e;exact HLO1.out b e
  ·rw [f] at e;have:=Option.some.inj e;omega
 have HLO2:=hide hlo2
 have HF2:=hide hf2
 have KP10:Hid (Kp (fun b=>b=wb\/hv.ownBlock=some b) w w10):=⟨hk2.os.trans KP9.out.os,hk2.tape.trans KP9.out.tape,hk2.output.trans KP9.out.output,by have:=KP9.out.size;omega,fun b hb hnx=>(hk2.block b (by have:=KP9.out.size;omega) (fun e=>by
  rcases e with e | e | e
  ·exact hnx (.inl e)
  ·exact hnx (.inr (HF1.out.old (by have:=B8.out.size;omega) e))
  ·omega)).trans (KP9.out.block b hb hnx)⟩
 have CB:=hide (keepArg_gen base wb w1.heap.size w2.heap.size pb rb wl xb (fun _=>False) rg hv2 L2 PB vs us w10 hn2 HS2.out (by omega) (by omega) (by omega) (fun b e=>by have:=hlo2 b e;omega) (by omega) bpb HRB.out (fun b e=>e.elim) (hW2.weaken (fun b o u ⟨x,y⟩ _=>⟨⟨by omega,fun e=>e⟩,y⟩)) HB10.out)
 clear hW2 hk2 hlo2 CA HB9 KP9 HB10
 go_wp2_with fail
 refine CB.out.mono ?_
 rintro e w11 ⟨rfl,hv3,L3,hl3,hW3,hk3,_⟩
 have HW':=hide hW3
 have HK':Hid (Kp (fun b=>b=wb\/hv.ownBlock=some b) w w11):=⟨hk3.os.trans KP10.out.os,hk3.tape.trans KP10.out.tape,hk3.output.trans KP10.out.output,by have:=KP10.out.size;have:=hk3.size;omega,fun b hb hnx=>(hk3.block b (by have:=KP10.out.size;omega) (fun e=>by
  rcases e with e | e | e
  ·exact hnx (.inl e)
  ·exact hnx (.inr (HF1.out.old (by have:=B8.out.size;omega) (HF2.out.old (by have:=KP10.out.size;omega) e)))
  ·omega)).trans (KP10.out.block b hb hnx)⟩
 clear hW3 hk3 CB
 go_wp2
 go_ret
 exact ⟨rfl,hv3,L3,by omega,HW'.out.weaken (fun b o u ⟨_,y⟩ _=>⟨trivial,y⟩),HK'.out⟩
set_option maxHeartbeats 1000000 in
theorem plays_clip (base wb:Nat)(hv:Value)(L:List Nat)(n:Int)(A B:Value)(p q r s:Pt)(PA PB:List (List Pt))(w:World)
  (hn:PA.length<=1048576) (hS:∀ i,i<PA.length->(PA.getD i []).length<=1048576) (hn2:PB.length<=1048576) (hS2:∀ i,i<PB.length->(PB.getD i []).length<=1048576) (hL:L.length+4*PA.length+4*PB.length+110604<=1000000000000) (hbase:base<=w.heap.size)
  (hPA:PolyAt w A PA) (hPB:PolyAt w B PB) (hW:Wld w base wb hv L (FX (fun _ _=>True) wb hv)) :
  Calls Tryz.prog 6 #[.pointer (some ⟨wb,0,none⟩),opV 5 n A B p q r s] w fun e w'=>e = .returned (.bool true)/\∃ hv' L',L'.length<=L.length+110604+4*PA.length+4*PB.length/\Wld w' base wb hv' L' (FX (fun _ _=>True) wb hv')/\Kp (fun b=>b=wb\/hv.ownBlock=some b) w w':=by
 have B0:Hid (Below w.heap.size w (w.alloc (.cells #[.int .i64 5,.int .i64 n,A,B,.int .i64 p.x,.int .i64 p.y,.int .i64 p.d,.int .i64 q.x,.int .i64 q.y,.int .i64 q.d,.int .i64 r.x,.int .i64 r.y,.int .i64 r.d,.int .i64 s.x,.int .i64 s.y,.int .i64 s.d] 33))):=(Below.refl _ _).alloc (Nat.le_refl _) _
 have H:=hide (clipped_any base wb hv L 5 n A B p q r s PA PB _ hn hS hn2 hS2 hL (by have:=B0.out.size;omega) (hPA.later B0.out) (hPB.later B0.out) ((hW.call B0.out).weaken (F':=FX (fun _ _=>True) wb hv) (fun b o u ⟨_,y⟩ _=>⟨trivial,y⟩)))
 clear hPA hPB hW hS hS2
 go_enter Tryz.func6,Tryz.ntmps6
 go_wp2_with fail
 refine H.out.mono ?_
 rintro e w1 ⟨rfl,hv',L',hl,hW',hk⟩
 have HW':=hide hW'
 have HK':Hid (Kp (fun b=>b=wb\/hv.ownBlock=some b) w w1):=(Kp.of B0.out).trans hk
 clear hW' hk H B0
 go_wp2
 go_ret
 exact ⟨rfl,hv',L',hl,HW'.out,HK'.out⟩
end Go.Proofs.YtnkcbephceollabGreat
