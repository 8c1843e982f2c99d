import Derived.Test.YtnkcbephceollabGreatU30
namespace Go.Proofs.YtnkcbephceollabGreat
open Go.RowKit
set_option linter.unusedSimpArgs false
set_option linter.unusedVariables false
theorem pcs_len (A B:List (List Pt)):(pcsM A B).length<=28224:=by
 unfold pcsM
 split
 ·simp
 ·rename_i h
  have h0:bothM A B=0:=Decidable.byContradiction h
  obtain ⟨h1,h2⟩:=both_zero h0
  have l1:=check_few h1
  have l2:=check_few h2
  rw [<-pieces_eq (sound_of h1) (sound_of h2)]
  unfold rpiecesM
  have hE:(edgesM A ++ edgesM B).length<=24:=by rw [List.length_append];omega
  generalize edgesM A ++ edgesM B=E at *
  have h3:=wo_len E (rspotsM E) E.length (Nat.le_refl _)
  have h4:E.length*(rspotsM E).length<=24*1176:=Nat.mul_le_mul hE (rspots_len hE)
  rw [wo_end] at h3
  rw [List.length_map];omega
theorem eql_pc (x:Pc)(w:World):(binOp .eql 55 (pcV x.p x.q x.la x.ra x.lb x.rb) (pcV x.p x.q x.la x.ra x.lb x.rb)).run Tryz.prog w = .ok (.bool true) w:=by
 simp [go_sem]
set_option maxRecDepth 100000 in
set_option maxHeartbeats 8000000 in
theorem cut_any (base wb:Nat)(hv:Value)(L:List Nat)(kd n:Int)(A B:Value)(p q r s:Pt)(PA PB:List (List Pt))(w:World)
  (hn:PA.length<=1048576) (hS:∀ i,i<PA.length->(PA.getD i []).length<=1048576) (hn2:PB.length<=1048576) (hS2:∀ i,i<PB.length->(PB.getD i []).length<=1048576) (hL:L.length+4*PA.length+4*PB.length+12<=1000000000000) (hbase:base<=w.heap.size)
  (hPA:PolyAt w A PA) (hPB:PolyAt w B PB) (hW:Wld w base wb hv L (FX (fun _ _=>True) wb hv)) :
  Calls Tryz.prog 11 #[.pointer (some ⟨wb,0,none⟩),opV kd n A B p q r s] w fun e w'=>e = .returned (.bool true)/\∃ hv' L',L'.length=L.length+12+4*PA.length+4*PB.length/\Wld w' base wb hv' L' (FX (fun _ _=>True) wb hv')/\Kp (fun b=>b=wb\/hv.ownBlock=some b) w w':=by
 have HPA0:=hide hPA
 have HPB0:=hide hPB
 have HW:=hide hW
 have hlo:∀ b,hv.ownBlock=some b->b<w.heap.size:=fun b e=>(hW.own.lt b e).2
 have HLO:=hide hlo
 have HS:=hide hS
 have HS2:=hide hS2
 have hwb0:=hW.lt
 clear hPA hPB hW hlo hS hS2
 obtain ⟨W0,hW0⟩:∃ W,W=w.alloc (.cells #[.int .i64 kd,.int .i64 n,A,B,.int .i64 p.x,.int .i64 p.y,.int .i64 p.d,.int .i64 q.x,.int .i64 q.y,.int .i64 q.d,.int .i64 r.x,.int .i64 r.y,.int .i64 r.d,.int .i64 s.x,.int .i64 s.y,.int .i64 s.d] 33):=⟨_,rfl⟩
 have B0:Hid (Below w.heap.size w W0):=by rw [hW0];exact (Below.refl _ _).alloc (Nat.le_refl _) _
 have O2:W0.cell? ⟨w.heap.size,2,none⟩=some A:=by rw [hW0];exact (Blk.new w _ _).cell 2
 have O3:W0.cell? ⟨w.heap.size,3,none⟩=some B:=by rw [hW0];exact (Blk.new w _ _).cell 3
 have z0:W0.heap.size=w.heap.size+1:=by rw [hW0];simp
 have PA0:Hid (PolyAt W0 A PA):=HPA0.out.later B0.out
 have PB0:Hid (PolyAt W0 B PB):=HPB0.out.later B0.out
 go_enter Tryz.func11,Tryz.ntmps11
 go_wp2_with fail
 rw [<-hW0]
 clear hW0
 refine (handed_any A PA W0 PA0.out hn HS.out).mono ?_
 rintro e w1 ⟨pa,ra,wa,xa,rga,vsa,usa,rfl,hA,k1⟩
 have a1:=(k1.cell (p:=⟨w.heap.size,3,none⟩) (by simp;omega)).trans O3
 have HA:=hide hA
 have K1:=hide k1
 have z1:=k1.size
 have O2':=O2
 have O3':=O3
 clear hA k1 O2 O3
 go_wp2_with fail
 refine (handed_any B PB w1 (PB0.out.later K1.out) hn2 HS2.out).mono ?_
 rintro e w2 ⟨pb,rb,wl,xb,rg,vs,us,rfl,hB,k2⟩
 have z2:=k2.size
 have HA2:=hide (HA.out.later k2)
 have HB2:=hide hB
 have HA1:=hide HA.out
 have HB1:=hide hB
 have K2:Hid (Below W0.heap.size W0 w2):=bvia K1.out k2
 have bpa:=HA.out.hand.pbk.lt
 have bpb:=hB.hand.pbk.lt
 have HRA:Hid (∀ t,t<PA.length->rga t<w1.heap.size):=fun t ht=>(HA.out.hand.pts t ht).lt
 have HRB:Hid (∀ t,t<PB.length->rg t<w2.heap.size):=fun t ht=>(HB2.out.hand.pts t ht).lt
 have p0:=HA2.out.hand.pbk.cell 0
 have p1:=HA2.out.hand.pbk.cell 1
 have q0:=hB.hand.pbk.cell 0
 have q1:=hB.hand.pbk.cell 1
 simp at p0 p1 q0 q1
 clear hB k2 HA K1 a1
 have bpa2:pa<w2.heap.size:=by omega
 have CIA:=hide (fun wz (kz:Below w2.heap.size w2 wz)=>it_any pa ra wa PA.length wz ((kz.cell (p:=⟨pa,0,none⟩) bpa2).trans p0) ((kz.cell (p:=⟨pa,1,none⟩) bpa2).trans p1))
 have CIB:=hide (fun wz (kz:Below w2.heap.size w2 wz)=>it_any pb rb wl PB.length wz ((kz.cell (p:=⟨pb,0,none⟩) bpb).trans q0) ((kz.cell (p:=⟨pb,1,none⟩) bpb).trans q1))
 have CP:=hide (fun wz (kz:Below w2.heap.size w2 wz)=>Pieces_any _ _ PA PB wz ((HA2.out.later kz).poly hn HS.out) ((HB2.out.later kz).poly hn2 HS2.out))
 clear p0 p1 q0 q1
 go_upto_region 3 with fail
 go_cut [7,8] (fun lv ev w'=>ev = .int .i64 (bothM PA PB)/\Hid (w'.ownsRow w2.heap.size 55 10 lv (pcsM PA PB).length (pcCells (pcsM PA PB)))/\Hid (Below w2.heap.size w2 w'))
 case first=>
  clear HA2 HB2
  go_wp2_with fail
  refine (CIA.out _ (Below.refl _ _)).mono ?_
  rintro e w3 ⟨rfl,m3,rfl⟩
  go_wp2_with fail
  refine (CIB.out _ (below_drewN (Below.refl _ _) _)).mono ?_
  rintro e w3 ⟨rfl,m4,rfl⟩
  go_wp2_with fail
  refine (CP.out _ (below_drewN (Below.refl _ _) _)).mono ?_
  rintro e w3 ⟨v',rfl,o3,k3⟩
  go_wp2_with fail
  go_meet
  case rel=>exact ⟨rfl,o3,bvia (below_drewN (Below.refl _ _) _) k3⟩
 case rest=>
 obtain ⟨rfl,O4,K4⟩:=hcut
 have z4:=K4.out.size
 have KW4:Hid (Below W0.heap.size W0 wc):=bvia K2.out K4.out
 have HA4:=hide (HA2.out.later K4.out)
 have HB4:=hide (HB2.out.later K4.out)
 have PA4:Hid (PolyAt wc A PA):=PA0.out.later KW4.out
 have PB4:Hid (PolyAt wc B PB):=PB0.out.later KW4.out
 have c2:wc.cell? ⟨w.heap.size,2,none⟩=some A:=(KW4.out.cell (p:=⟨w.heap.size,2,none⟩) (by simp;omega)).trans O2'
 have c3:wc.cell? ⟨w.heap.size,3,none⟩=some B:=(KW4.out.cell (p:=⟨w.heap.size,3,none⟩) (by simp;omega)).trans O3'
 clear CIA CIB CP K4 HA2 HB2
 go_wp2_with fail
 refine (rPieces_any A B PA PB _ PA4.out PB4.out HS.out HS2.out).mono ?_
 rintro e w5 ⟨kv,rfl,o5,k5⟩
 have z5:=k5.size
 have KW5:Hid (Below W0.heap.size W0 w5):=bvia KW4.out k5
 have HA5:=hide (HA4.out.later k5)
 have HB5:=hide (HB4.out.later k5)
 have PA5:Hid (PolyAt w5 A PA):=PA4.out.later k5
 have PB5:Hid (PolyAt w5 B PB):=PB4.out.later k5
 have O5:=hide (own_later O4.out k5)
 have R5:=hide o5
 have d2:w5.cell? ⟨w.heap.size,2,none⟩=some A:=(k5.cell (p:=⟨w.heap.size,2,none⟩) (by simp;omega)).trans c2
 have d3:w5.cell? ⟨w.heap.size,3,none⟩=some B:=(k5.cell (p:=⟨w.heap.size,3,none⟩) (by simp;omega)).trans c3
 clear c2 c3 k5 o5 O4 KW4 HA4 HB4 PA4 PB4
 go_wp2_with fail
 refine (still_any A PA _ PA5.out HA5.out hn HS.out).mono ?_
 rintro e w6 ⟨rfl,k6⟩
 have z6:=k6.size
 have KW6:Hid (Below W0.heap.size W0 w6):=bvia KW5.out k6
 have HA6:=hide (HA5.out.later k6)
 have HB6:=hide (HB5.out.later k6)
 have PB6:Hid (PolyAt w6 B PB):=PB5.out.later k6
 have O6:=hide (own_later O5.out k6)
 have R6:=hide (own_later R5.out k6)
 have e3:w6.cell? ⟨w.heap.size,3,none⟩=some B:=(k6.cell (p:=⟨w.heap.size,3,none⟩) (by simp;omega)).trans d3
 clear d2 d3 k6 O5 R5 KW5 HA5 HB5 PA5 PB5
 go_wp2_with fail
 refine (still_any B PB _ PB6.out HB6.out hn2 HS2.out).mono ?_
 rintro e w7 ⟨rfl,k7⟩
 have z7:=k7.size
 have KW7:Hid (Below W0.heap.size W0 w7):=bvia KW6.out k7
 have HA7:=hide (HA6.out.later k7)
 have HB7:=hide (HB6.out.later k7)
 have o7:=own_later O6.out k7
 have r7:=own_later R6.out k7
 clear e3 k7 O6 R6 KW6 HA6 HB6 PB6
 have hPl:=pcs_len PA PB
 generalize pcsM PA PB=PS at *
 have hL7:=hide (pcs_of_own o7 (by unfold maxLen;omega))
 have hK7:=hide (pcs_of_own r7 (by unfold maxLen;omega))
 have O7:=hide o7
 clear r7 o7
 obtain ⟨la,lcap,rfl,l1,l2,l3⟩:=id hL7.out
 obtain ⟨ka,kcap,rfl,k1,k2,k3⟩:=id hK7.out
 unfold maxLen at l2 k2
 have HL3:=hide l3
 have HK3:=hide k3
 clear l3 k3 hL7 hK7
 go_upto_block 0 with fail
 go_cut [13,14] (fun sv _ w'=>sv = .bool true/\Hid (Below w7.heap.size w7 w'))
 case first=>
  clear O7 HA7 HB7 KW7
  go_wp2_with fail
  go_loopw [13,14] (fun sv iv w'=>∃ i:Nat,sv = .bool true/\iv = .int .i64 i/\i<=PS.length/\Below w7.heap.size w7 w') (fun _ iv _=>PS.length-(intOf iv).toNat)
  case atStart=>exact ⟨0,rfl,rfl,Nat.zero_le _,Below.refl _ _⟩
  case round=>
   obtain ⟨i,rfl,rfl,hi,hbel⟩:=hrel
   by_cases hlt:i<PS.length
   ·obtain ⟨b,off,rfl,hb,hs⟩:=HL3.out i hlt
    obtain ⟨b',off',rfl,hb',hs'⟩:=HK3.out i hlt
    have ht:=hs.later hbel hb
    have ht':=hs'.later hbel hb'
    generalize PS.getD i zPc=x at *
    have c0:=ht 0 (by decide)
    have c1:=ht 1 (by decide)
    have c2:=ht 2 (by decide)
    have c3:=ht 3 (by decide)
    have c4:=ht 4 (by decide)
    have c5:=ht 5 (by decide)
    have c6:=ht 6 (by decide)
    have c7:=ht 7 (by decide)
    have c8:=ht 8 (by decide)
    have c9:=ht 9 (by decide)
    have d0:=ht' 0 (by decide)
    have d1:=ht' 1 (by decide)
    have d2:=ht' 2 (by decide)
    have d3:=ht' 3 (by decide)
    have d4:=ht' 4 (by decide)
    have d5:=ht' 5 (by decide)
    have d6:=ht' 6 (by decide)
    have d7:=ht' 7 (by decide)
    have d8:=ht' 8 (by decide)
    have d9:=ht' 9 (by decide)
    simp only [pcCell,Nat.add_zero,List.getElem?_cons_zero,List.getElem?_cons_succ] at c0 c1 c2 c3 c4 c5 c6 c7 c8 c9 d0 d1 d2 d3 d4 d5 d6 d7 d8 d9
    have hi0':(0:Int)<=(i:Int):=Int.natCast_nonneg _
    have hi1':(i:Int)<(PS.length:Int):=by omega
    clear ht ht' hs hs' HL3 HK3
    have heq:=eql_pc x
    go_wp2_with fail
    go_quiet (fail)
    go_wp2
    go_roundw
    case rel=>exact ⟨i+1,rfl,by go_num,by omega,below_drewN hbel _⟩
    case measure=>simp [intOf];omega
   ·have ei:i=PS.length:=by omega
    subst ei
    clear HL3 HK3
    go_wp2
    go_meet
    case rel=>exact ⟨rfl,hbel⟩
 case rest=>
 obtain ⟨rfl,K8⟩:=hcut
 have z8:=K8.out.size
 have KW8:Hid (Below W0.heap.size W0 wc):=bvia KW7.out K8.out
 have HA8:=hide (HA7.out.later K8.out)
 have HB8:=hide (HB7.out.later K8.out)
 have O8:=hide (own_later O7.out K8.out)
 have B8:Hid (Below w.heap.size w wc):=bvia B0.out KW8.out
 clear K8 KW7 HA7 HB7 O7 HL3 HK3
 have hlo8:∀ b,(Value.slice la PS.length lcap).ownBlock=some b->w2.heap.size<=b:=fun b e=>(O8.out.lt b e).1
 have V8:Hid (Wld wc base wb hv L (FX (fun b _=>¬ (W0.heap.size<=b/\b<w2.heap.size)/\(Value.slice la PS.length lcap).ownBlock≠some b) wb hv)):=(HW.out.call B8.out).weaken (fun b o u ⟨x,y⟩ _=>⟨⟨by omega,fun e=>by have:=hlo8 b e;omega⟩,y⟩)
 have CK:=hide (keep_pieces base wb PS.length hv (.slice la PS.length lcap) L (fun b=>W0.heap.size<=b/\b<w2.heap.size) _ wc (by omega) (by omega) (fun b e=>by omega) (by omega) V8.out (own_mono O8.out (by omega)) (fun b e=>⟨by have:=hlo8 b e;omega,fun e2=>by have:=hlo8 b e;have:=HLO.out b e2;omega⟩))
 clear V8 O8
 go_wp2_with fail
 refine CK.out.mono ?_
 rintro e w9 ⟨rfl,hv1,L1,hl1,hW1,hk1,hf1⟩
 have z9:=hk1.size
 have HA9:=hide (HA1.out.kp HA8.out hk1 (fun b h1 h2 e=>by
  rcases e with e | e | e
  ·omega
  ·have:=HLO.out b e;omega
  ·have:=hlo8 b e;omega))
 have HB9:=hide (HB1.out.kp HB8.out hk1 (fun b h1 h2 e=>by
  rcases e with e | e | e
  ·omega
  ·have:=HLO.out b e;omega
  ·have:=hlo8 b e;omega))
 have hlo1:∀ b,hv1.ownBlock=some b->b<w.heap.size\/w2.heap.size<=b:=fun b e=>by
  rcases hf1 with f | ⟨q,f,hq⟩
  ·rw [f] at e;exact .inl (HLO.out b e)
  ·rw [f] at e;have:=Option.some.inj e;omega
 have HLO1:=hide hlo1
 have HF1:=hide hf1
 have KP9:Hid (Kp (fun b=>b=wb\/hv.ownBlock=some b) w w9):=⟨hk1.os.trans B8.out.os,hk1.tape.trans B8.out.tape,hk1.output.trans B8.out.output,by have:=B8.out.size;omega,fun b hb hnx=>(hk1.block b (by have:=B8.out.size;omega) (fun e=>by
  rcases e with e | e | e
  ·exact hnx (.inl e)
  ·exact hnx (.inr e)
  ·have:=hlo8 b e;omega)).trans (B8.out.block b hb)⟩
 have CA:=hide (keepArg_gen base wb W0.heap.size w1.heap.size pa ra wa xa (fun b=>w1.heap.size<=b/\b<w2.heap.size) rga hv1 L1 PA vsa usa w9 hn HS.out (by omega) (by omega) (by omega) (fun b e=>by have:=hlo1 b e;omega) (by omega) bpa HRA.out (fun b e=>by omega) (hW1.weaken (fun b o u ⟨x,y⟩ _=>⟨⟨by omega,by omega⟩,y⟩)) HA9.out)
 clear hW1 hk1 hlo1 hlo8 CK HA8 HB8 KW8 HA9
 go_wp2_with fail
 refine CA.out.mono ?_
 rintro e w10 ⟨rfl,hv2,L2,hl2,hW2,hk2,hf2⟩
 have z10:=hk2.size
 have HB10:=hide (HB1.out.kp HB9.out hk2 (fun b h1 h2 e=>by
  rcases e with e | e | e
  ·omega
  ·have:=HLO1.out b e;omega
  ·omega))
 have hlo2:∀ b,hv2.ownBlock=some b->b<w.heap.size\/w2.heap.size<=b:=fun b e=>by
  rcases hf2 with f | ⟨q,f,hq⟩
  ·rw [f] at e;exact HLO1.out b e
  ·rw [f] at e;have:=Option.some.inj e;omega
 have HLO2:=hide hlo2
 have HF2:=hide hf2
 have KP10:Hid (Kp (fun b=>b=wb\/hv.ownBlock=some b) w w10):=⟨hk2.os.trans KP9.out.os,hk2.tape.trans KP9.out.tape,hk2.output.trans KP9.out.output,by have:=KP9.out.size;omega,fun b hb hnx=>(hk2.block b (by have:=KP9.out.size;omega) (fun e=>by
  rcases e with e | e | e
  ·exact hnx (.inl e)
  ·exact hnx (.inr (HF1.out.old (by have:=B8.out.size;omega) e))
  ·omega)).trans (KP9.out.block b hb hnx)⟩
 have CB:=hide (keepArg_gen base wb w1.heap.size w2.heap.size pb rb wl xb (fun _=>False) rg hv2 L2 PB vs us w10 hn2 HS2.out (by omega) (by omega) (by omega) (fun b e=>by have:=hlo2 b e;omega) (by omega) bpb HRB.out (fun b e=>e.elim) (hW2.weaken (fun b o u ⟨x,y⟩ _=>⟨⟨by omega,fun e=>e⟩,y⟩)) HB10.out)
 clear hW2 hk2 hlo2 CA HB9 KP9 HB10
 go_wp2_with fail
 refine CB.out.mono ?_
 rintro e w11 ⟨rfl,hv3,L3,hl3,hW3,hk3,_⟩
 have HW':=hide hW3
 have HK':Hid (Kp (fun b=>b=wb\/hv.ownBlock=some b) w w11):=⟨hk3.os.trans KP10.out.os,hk3.tape.trans KP10.out.tape,hk3.output.trans KP10.out.output,by have:=KP10.out.size;have:=hk3.size;omega,fun b hb hnx=>(hk3.block b (by have:=KP10.out.size;omega) (fun e=>by
  rcases e with e | e | e
  ·exact hnx (.inl e)
  ·exact hnx (.inr (HF1.out.old (by have:=B8.out.size;omega) (HF2.out.old (by have:=KP10.out.size;omega) e)))
  ·omega)).trans (KP10.out.block b hb hnx)⟩
 clear hW3 hk3 CB
 go_wp2
 go_ret
 exact ⟨rfl,hv3,L3,by omega,HW'.out.weaken (fun b o u ⟨_,y⟩ _=>⟨trivial,y⟩),HK'.out⟩
set_option maxHeartbeats 1000000 in
theorem plays_cut (base wb:Nat)(hv:Value)(L:List Nat)(n:Int)(A B:Value)(p q r s:Pt)(PA PB:List (List Pt))(w:World)
  (hn:PA.length<=1048576) (hS:∀ i,i<PA.length->(PA.getD i []).length<=1048576) (hn2:PB.length<=1048576) (hS2:∀ i,i<PB.length->(PB.getD i []).length<=1048576) (hL:L.length+4*PA.length+4*PB.length+12<=1000000000000) (hbase:base<=w.heap.size)
  (hPA:PolyAt w A PA) (hPB:PolyAt w B PB) (hW:Wld w base wb hv L (FX (fun _ _=>True) wb hv)) :
  Calls Tryz.prog 6 #[.pointer (some ⟨wb,0,none⟩),opV 4 n A B p q r s] w fun e w'=>e = .returned (.bool true)/\∃ hv' L',L'.length=L.length+12+4*PA.length+4*PB.length/\Wld w' base wb hv' L' (FX (fun _ _=>True) wb hv')/\Kp (fun b=>b=wb\/hv.ownBlock=some b) w w':=by
 have B0:Hid (Below w.heap.size w (w.alloc (.cells #[.int .i64 4,.int .i64 n,A,B,.int .i64 p.x,.int .i64 p.y,.int .i64 p.d,.int .i64 q.x,.int .i64 q.y,.int .i64 q.d,.int .i64 r.x,.int .i64 r.y,.int .i64 r.d,.int .i64 s.x,.int .i64 s.y,.int .i64 s.d] 33))):=(Below.refl _ _).alloc (Nat.le_refl _) _
 have H:=hide (cut_any base wb hv L 4 n A B p q r s PA PB _ hn hS hn2 hS2 hL (by have:=B0.out.size;omega) (hPA.later B0.out) (hPB.later B0.out) ((hW.call B0.out).weaken (F':=FX (fun _ _=>True) wb hv) (fun b o u ⟨_,y⟩ _=>⟨trivial,y⟩)))
 clear hPA hPB hW hS hS2
 go_enter Tryz.func6,Tryz.ntmps6
 go_wp2_with fail
 refine H.out.mono ?_
 rintro e w1 ⟨rfl,hv',L',hl,hW',hk⟩
 have HW':=hide hW'
 have HK':Hid (Kp (fun b=>b=wb\/hv.ownBlock=some b) w w1):=(Kp.of B0.out).trans hk
 clear hW' hk H B0
 go_wp2
 go_ret
 exact ⟨rfl,hv',L',hl,HW'.out,HK'.out⟩
theorem set3 (u0 u1 u2:Value):∀ (o:Nat) (l:List Value),o+3<=l.length->(((l.set o u0).set (o+1) u1).set (o+2) u2)=l.take o ++ ([u0,u1,u2] ++ l.drop (o+3))
 | 0,l,h=>by
  match l,h with
  | a0::a1::a2::l',_=>simp
 | o+1,l,h=>by
  match l,h with
  | x::l',h=>
   have ih:=set3 u0 u1 u2 o l' (by simp at h;omega)
   have e:∀ j,o+1+j=o+j+1:=fun j=>by omega
   simp only [e,List.set_cons_succ,List.take_succ_cons,List.drop_succ_cons,List.cons_append]
   rw [ih];rfl
abbrev set3W (w:World)(g o:Nat)(m:Int):World:=((w.setCell ⟨g,o,none⟩ (.int .i64 0)).setCell ⟨g,o+1,none⟩ (.int .i64 m)).setCell ⟨g,o+2,none⟩ (.int .i64 0)
theorem own_set3 {w:World}{base g n cap k:Nat}{m:Int}{e:TypeId}{xs:List Value}(h:w.ownsRow base e 3 (.slice (some ⟨g,0,none⟩) n cap) n (rep k (ptMk m) ++ xs.drop (k*3)))(hxl:xs.length=n*3)(hlt:k<n) :
  (set3W w g (k*3) m).drew.ownsRow base e 3 (.slice (some ⟨g,0,none⟩) n cap) n (rep (k+1) (ptMk m) ++ xs.drop ((k+1)*3)):=by
 have hrl:(rep k (ptMk m)).length=k*3:=by rw [rep_len];rfl
 have e3:=set3 (.int .i64 0) (.int .i64 m) (.int .i64 0) (k*3) (rep k (ptMk m) ++ xs.drop (k*3)) (by rw [List.length_append,hrl,List.length_drop];omega)
 have t1:(rep k (ptMk m) ++ xs.drop (k*3)).take (k*3)=rep k (ptMk m):=List.take_left' hrl
 have t2:(rep k (ptMk m) ++ xs.drop (k*3)).drop (k*3+3)=xs.drop ((k+1)*3):=by
  rw [List.drop_append,hrl,List.drop_of_length_le (by omega),List.nil_append,List.drop_drop]
  congr 1;omega
 rw [t1,t2,<-List.append_assoc,<-rep_succ] at e3
 have o1:=own_set h g rfl (k*3) (.int .i64 0)
 have o2:=own_set o1 g rfl (k*3+1) (.int .i64 m)
 have o3:=own_set o2 g rfl (k*3+2) (.int .i64 0)
 rw [e3] at o3
 generalize hW:set3W w g (k*3) m=W
 have o4:W.ownsRow base e 3 (.slice (some ⟨g,0,none⟩) n cap) n (rep (k+1) (ptMk m) ++ xs.drop ((k+1)*3)):=by rw [<-hW];exact o3
 exact o4
theorem kp_set3 {X:Nat->Prop}{w w':World}{g o:Nat}{m:Int}(h:Kp X w w')(hg:X g):Kp X w (set3W w' g o m).drew:=
 ((((
   h.setCell (fun _=>hg) _).setCell (fun _=>hg) _).setCell (fun _=>hg) _)).drew
set_option maxRecDepth 100000 in
set_option maxHeartbeats 4000000 in
theorem marks_pointsO (base h n:Nat)(m:Int)(cv:Value)(xs:List Value)(w:World)(hne:cv.ownBlock≠some h)(hn:n<=1100000)(hh:Blk w h #[.slice none 0 0,cv,.slice none 0 0,.slice none 0 0,.int .i64 m])(hc:w.ownsRow base 31 3 cv n xs) :
  Calls Tryz.prog 51 #[.pointer (some ⟨h,0,none⟩)] w fun e w'=>e = .returned (.tuple #[])/\w'.ownsRow base 31 3 cv n (rep n (ptMk m))/\Kp (fun b=>cv.ownBlock=some b) w w':=by
 obtain ⟨a,cap,hcv,hag⟩:∃ a cap,cv = .slice a n cap/\(0<n->∃ g,a=some ⟨g,0,none⟩):=by
  rcases hc.2 with ⟨rfl,hn⟩ | ⟨g,cap,cur,rfl,_⟩
  ·exact ⟨none,0,by rw [hn],fun h=>by omega⟩
  ·exact ⟨some ⟨g,0,none⟩,cap,rfl,fun _=>⟨g,rfl⟩⟩
 subst hcv
 have hxl:xs.length=n*3:=hc.1
 obtain ⟨d0,d1,d2,d3,d4⟩:=And.intro (hh.cell 0) (And.intro (hh.cell 1) (And.intro (hh.cell 2) (And.intro (hh.cell 3) (hh.cell 4))))
 simp at d0 d1 d2 d3 d4
 go_enter Tryz.func51,Tryz.ntmps51
 go_wp2_with fail
 refine wp_loop_rounds 1 ?_
 rw [rounds_succ]
 go_wp2_with fail
 go_loopw [3] (fun i w'=>∃ k:Nat,i = .int .i64 k/\k<=n/\w'.ownsRow base 31 3 (.slice a n cap) n (rep k (ptMk m) ++ xs.drop (k*3))/\Kp (fun b=>(Value.slice a n cap).ownBlock=some b) w w') (fun i _=>n-(intOf i).toNat)
 case atStart=>exact ⟨0,rfl,Nat.zero_le _,by simpa [rep] using hc,Kp.refl _ _⟩
 case round=>
  obtain ⟨k,rfl,hk,hO,hkp⟩:=hrel
  have hcell:∀ o,wr.cell? ⟨h,o,none⟩=w.cell? ⟨h,o,none⟩:=fun o=>World.cell?_of_block (w:=w) (hkp.block h hh.lt hne)
  have c0:=(hcell 0).trans d0
  have c1:=(hcell 1).trans d1
  have c2:=(hcell 2).trans d2
  have c3:=(hcell 3).trans d3
  have c4:=(hcell 4).trans d4
  clear hcell d0 d1 d2 d3 d4
  by_cases hlt:k<n
  ·obtain ⟨g,rfl⟩:=hag (by omega)
   have hl:=(hO.lt g rfl).2
   have hf:∀ o,wr.frozen? ⟨g,o,none⟩=false:=fun o=>own_free hO g rfl o
   have hx:∀ t,t<3->∃ u,wr.cell? ⟨g,k*3+t,none⟩=some u:=fun t ht=>by
    have:=hO.cellAt (k*3+t) (by omega)
    rw [List.getElem?_eq_getElem (by rw [List.length_append,rep_len,List.length_drop];simp [ptMk];omega)] at this
    exact ⟨_,this⟩
   obtain ⟨x0,hx0⟩:=hx 0 (by decide)
   obtain ⟨x1,hx1⟩:=hx 1 (by decide)
   obtain ⟨x2,hx2⟩:=hx 2 (by decide)
   simp only [Nat.add_zero] at hx0
   have hhl:h<wr.heap.size:=Nat.lt_of_lt_of_le hh.lt hkp.size
   have hgh:g≠h:=fun e=>hne (by rw [e];rfl)
   have hk0:(0:Int)<=(k:Int):=Int.natCast_nonneg _
   have hk1:(k:Int)<(n:Int):=by omega
   have hk2:k+1<=n:=hlt
   have HO:=hide (own_set3 hO hxl hlt)
   have HKP:=hide (kp_set3 (g:=g) (o:=k*3) (m:=m) hkp rfl)
   clear hO hkp hx hag
   go_wp2_with fail
   go_region
   go_wp2
   exact ⟨⟨k+1,by go_num,hk2,HO.out,HKP.out⟩,by simp [intOf];omega⟩
  ·have ek:k=n:=by omega
   subst ek
   have HO:Hid (wr.ownsRow base 31 3 (.slice a k cap) k (rep k (ptMk m))):=by
    have:rep k (ptMk m) ++ xs.drop (k*3)=rep k (ptMk m):=by rw [List.drop_of_length_le (by omega),List.append_nil]
    rw [this] at hO
    exact hO
   have HKP:=hide hkp
   clear hO hkp hag
   go_wp2_with fail
   refine wp_loop_rounds 1 ?_
   rw [rounds_succ]
   go_wp2_with fail
   refine wp_loop_rounds 1 ?_
   rw [rounds_succ]
   go_wp2
   go_end0
   exact ⟨rfl,HO.out,HKP.out⟩
abbrev oneS (g:Nat):Value:=.slice (some ⟨g,0,none⟩) 1 1
theorem one_set {rs:List Nat}{xs:List Value}{k q:Nat}(hk:rs.length=k)(hx:k<xs.length):(rs.map oneS ++ xs.drop k).set k (oneS q)=(rs ++ [q]).map oneS ++ xs.drop (k+1):=by
 rw [List.set_append_right _ _ (by simp;omega),List.drop_eq_getElem_cons hx]
 have e:k-(rs.map oneS).length=0:=by simp;omega
 rw [e,List.set_cons_zero,List.map_append]
 simp
set_option maxRecDepth 100000 in
set_option maxHeartbeats 4000000 in
theorem marks_ringsO (base h n:Nat)(m:Int)(cv:Value)(xs:List Value)(w:World)(hne:cv.ownBlock≠some h)(hn:n<=1100000)(hh:Blk w h #[cv,.slice none 0 0,.slice none 0 0,.slice none 0 0,.int .i64 m])(hc:w.ownsRow base 57 1 cv n xs) :
  Calls Tryz.prog 51 #[.pointer (some ⟨h,0,none⟩)] w fun e w'=>e = .returned (.tuple #[])/\∃ rs:List Nat,rs.length=n/\w'.ownsRow base 57 1 cv n (rs.map oneS)/\(∀ g∈rs,w.heap.size<=g/\Blk w' g #[.int .i64 m,.int .i64 0,.int .i64 0])/\Kp (fun b=>cv.ownBlock=some b) w w':=by
 obtain ⟨a,cap,hcv,hag⟩:∃ a cap,cv = .slice a n cap/\(0<n->∃ g,a=some ⟨g,0,none⟩):=by
  rcases hc.2 with ⟨rfl,hn⟩ | ⟨g,cap,cur,rfl,_⟩
  ·exact ⟨none,0,by rw [hn],fun h=>by omega⟩
  ·exact ⟨some ⟨g,0,none⟩,cap,rfl,fun _=>⟨g,rfl⟩⟩
 subst hcv
 have hxl:xs.length=n*1:=hc.1
 have HLT:=hide hc.lt
 obtain ⟨d0,d1,d2,d3,d4⟩:=And.intro (hh.cell 0) (And.intro (hh.cell 1) (And.intro (hh.cell 2) (And.intro (hh.cell 3) (hh.cell 4))))
 simp at d0 d1 d2 d3 d4
 go_enter Tryz.func51,Tryz.ntmps51
 go_wp2_with fail
 go_loopw [2] (fun i w'=>∃ (k:Nat) (rs:List Nat),i = .int .i64 k/\k<=n/\rs.length=k/\w'.ownsRow base 57 1 (.slice a n cap) n (rs.map oneS ++ xs.drop k)/\(∀ g∈rs,w.heap.size<=g/\Blk w' g #[.int .i64 m,.int .i64 0,.int .i64 0])/\Kp (fun b=>(Value.slice a n cap).ownBlock=some b) w w') (fun i _=>n-(intOf i).toNat)
 case atStart=>exact ⟨0,[],rfl,Nat.zero_le _,rfl,by simpa using hc,fun g hg=>(by cases hg),Kp.refl _ _⟩
 case round=>
  obtain ⟨k,rs,rfl,hk,hrs,hO,hmk,hkp⟩:=hrel
  have hcell:∀ o,wr.cell? ⟨h,o,none⟩=w.cell? ⟨h,o,none⟩:=fun o=>World.cell?_of_block (w:=w) (hkp.block h hh.lt hne)
  have c0:=(hcell 0).trans d0
  have c1:=(hcell 1).trans d1
  have c2:=(hcell 2).trans d2
  have c3:=(hcell 3).trans d3
  have c4:=(hcell 4).trans d4
  clear hcell d0 d1 d2 d3 d4
  by_cases hlt:k<n
  ·obtain ⟨g,rfl⟩:=hag (by omega)
   have hl:=(hO.lt g rfl).2
   have hgw:=(HLT.out g rfl).2
   have hf:∀ o,wr.frozen? ⟨g,o,none⟩=false:=fun o=>own_free hO g rfl o
   obtain ⟨x0,hx0⟩:∃ u,wr.cell? ⟨g,k,none⟩=some u:=by
    have:=hO.cellAt k (by omega)
    rw [List.getElem?_eq_getElem (by rw [List.length_append,List.length_map,List.length_drop];omega)] at this
    exact ⟨_,this⟩
   have hhl:h<wr.heap.size:=Nat.lt_of_lt_of_le hh.lt hkp.size
   have hgh:g≠h:=fun e=>hne (by rw [e];rfl)
   have hk0:(0:Int)<=(k:Int):=Int.natCast_nonneg _
   have hk1:(k:Int)<(n:Int):=by omega
   have hk2:k+1<=n:=hlt
   have o1:=own_set hO g rfl k (oneS wr.heap.size)
   rw [one_set hrs (by omega)] at o1
   have HO:=hide o1
   have HKP:=hide hkp
   have HM:=hide hmk
   have hzs:=hkp.size
   clear hO hkp hag o1 hmk
   go_wp2_with fail
   go_region
   go_wp2
   refine ⟨⟨k+1,rs ++ [wr.heap.size],by go_num,hk2,by rw [List.length_append,hrs];rfl,(HO.out.alloc _).drew,fun q hq=>?_,((HKP.out.setCell (p:=⟨g,k,none⟩) (fun _=>rfl) _).alloc _).drew⟩,by simp [intOf];omega⟩
   rcases List.mem_append.1 hq with hq | hq
   ·obtain ⟨m1,m2⟩:=HM.out q hq
    exact ⟨m1,((m2.off (by omega) _ _).alloc _).drew⟩
   ·rw [List.mem_singleton.1 hq]
    exact ⟨hzs,(Blk.at _ (by simp)).drew⟩
  ·have ek:k=n:=by omega
   subst ek
   have HO:Hid (wr.ownsRow base 57 1 (.slice a k cap) k (rs.map oneS)):=by
    have:rs.map oneS ++ xs.drop k=rs.map oneS:=by rw [List.drop_of_length_le (by omega),List.append_nil]
    rw [this] at hO
    exact hO
   have HKP:=hide hkp
   have HM:=hide hmk
   clear hO hkp hag hmk
   go_wp2_with fail
   refine wp_loop_rounds 1 ?_
   rw [rounds_succ]
   go_wp2_with fail
   refine wp_loop_rounds 1 ?_
   rw [rounds_succ]
   go_wp2_with fail
   refine wp_loop_rounds 1 ?_
   rw [rounds_succ]
   go_wp2
   go_end0
   exact ⟨rfl,rs,hrs,HO.out,HM.out,HKP.out⟩
theorem fam_ringsO (w:World)(base h n:Nat)(m m0:Int)(cv:Value)(xs:List Value)(hne:cv.ownBlock≠some h)(hn:n<=1100000)(hh:Blk w h #[cv,.slice none 0 0,.slice none 0 0,.slice none 0 0,.int .i64 m0])(hc:w.ownsRow base 57 1 cv n xs) :
  Calls Tryz.prog 51 #[.pointer (some ⟨h,0,none⟩)] (w.setCell ⟨h,4,none⟩ (.int .i64 m)) fun e w'=>e = .returned (.tuple #[])/\∃ rs,Fam w' base m cv (.slice none 0 0) (.slice none 0 0) (.slice none 0 0) n 0 0 0 rs/\(∀ q∈rs,w.heap.size<=q)/\Kp (fun b=>cv.ownBlock=some b\/(Value.slice none 0 0).ownBlock=some b\/(Value.slice none 0 0).ownBlock=some b\/(Value.slice none 0 0).ownBlock=some b) (w.setCell ⟨h,4,none⟩ (.int .i64 m)) w':=by
 have hh1:=hh.set 4 (by simp) (.int .i64 m)
 have hlt:=hc.lt
 refine (marks_ringsO base h n m cv xs (w.setCell ⟨h,4,none⟩ (.int .i64 m)) hne hn (by simpa using hh1) (own_off hc hne _ _)).mono ?_
 rintro e w' ⟨rfl,rs,hrl,ho,hmk,hkp⟩
 refine ⟨rfl,rs,⟨hrl,ho,fun q hq=>?_,own_nil _ _ _ _,own_nil _ _ _ _,own_nil _ _ _ _,fun q hq=>?_⟩,fun q hq=>?_,hkp.weaken fun b _ e=>.inl e⟩
 ·have b:=(hmk q hq).2
  exact ⟨b.cell 0,b.cell 1,b.cell 2⟩
 ·have l:=(hmk q hq).1
  simp at l
  exact ⟨fun e=>by have:=(hlt q e).2;omega,nil_own _,nil_own _,nil_own _⟩
 ·have l:=(hmk q hq).1
  simpa using l
theorem keep_ringsO (base wb n:Nat)(hv cv:Value)(L:List Nat)(X:Nat->Prop)(xs:List Value)(w:World)(hL:L.length<=1000000000000)(hn:n<=1100000)(hX:∀ b,X b->b<w.heap.size)(hbase:base<=w.heap.size)
  (hW:Wld w base wb hv L (FX (fun b _=>¬ X b/\cv.ownBlock≠some b) wb hv)) (hc:w.ownsRow base 57 1 cv n xs) (hx:∀ b,cv.ownBlock=some b->¬ X b/\hv.ownBlock≠some b) :
  Calls Tryz.prog 27 #[.pointer (some ⟨wb,0,none⟩),.pointer (some ⟨w.heap.size,0,none⟩)] (w.alloc (.cells #[cv,.slice none 0 0,.slice none 0 0,.slice none 0 0,.int .i64 0] 60)) fun e w'=>e = .returned (.tuple #[])/\∃ hv' L',L'.length=L.length+4/\Wld w' base wb hv' L' (FX (fun b _=>¬ X b) wb hv')/\Kp (fun b=>b=wb\/hv.ownBlock=some b\/cv.ownBlock=some b) w w'/\Fresh w hv hv':=by
 have hh:=Blk.new w #[cv,.slice none 0 0,.slice none 0 0,.slice none 0 0,.int .i64 0] 60
 have hbl:=(Below.refl w.heap.size w).alloc (Nat.le_refl _) (.cells #[cv,.slice none 0 0,.slice none 0 0,.slice none 0 0,.int .i64 0] 60)
 have hwl:=hW.blk.lt
 have hcl:∀ b,cv.ownBlock=some b->base<=b/\b<w.heap.size:=fun b e=>hc.lt b e
 have hW1:Wld (w.alloc (.cells #[cv,.slice none 0 0,.slice none 0 0,.slice none 0 0,.int .i64 0] 60)) base wb hv L (FX (fun b _=>¬ X b/\b≠w.heap.size/\cv.ownBlock≠some b/\(Value.slice none 0 0).ownBlock≠some b/\(Value.slice none 0 0).ownBlock≠some b/\(Value.slice none 0 0).ownBlock≠some b) wb hv):=by
  refine hW.kp (X:=fun _=>False) (Kp.of hbl) (fun e=>e) (fun _ _ e=>e) (fun b o u ⟨⟨x1,x2⟩,x3,x4⟩ hc=>?_)
  have hlt:b<w.heap.size:=World.block_lt_of_cell? w ⟨b,o,none⟩ hc
  exact ⟨(hbl.cell (p:=⟨b,o,none⟩) hlt).trans hc,⟨x1,by omega,x2,nil_own _,nil_own _,nil_own _⟩,x3,x4⟩
 refine (keep_any base wb w.heap.size hv L X _ _ _ _ n 0 0 0 0 _ hL hn (by omega) (by omega) (by omega) (fun b e=>by have:=hX b e;simp;omega) hW1 hh (by omega) (fun e=>by have:=(hW.own.lt _ e).2;omega) (fun e=>by have:=hX _ e;omega) (fun e=>by have:=hcl _ e;omega) (nil_own _) (nil_own _) (nil_own _) ?_ (by simp;omega) ?_).mono ?_
 ·intro b e
  rcases e with e | e | e | e
  ·exact ⟨(hx b e).1,(hx b e).2,by have:=hW.lt;have:=hcl b e;omega⟩
  ·exact absurd e (nil_own _)
  ·exact absurd e (nil_own _)
  ·exact absurd e (nil_own _)
 ·exact (fam_ringsO _ base w.heap.size n _ 0 cv xs (fun e=>by have:=hcl _ e;omega) hn hh (hc.alloc _))
 ·rintro e w' ⟨rfl,hv',L',hl,hW',hk,hf⟩
  refine ⟨rfl,hv',L',hl,hW',⟨hk.os,hk.tape,hk.output,by have:=hk.size;simp at this;omega,fun b hb hnx=>?_⟩,?_⟩
  ·refine (hk.block b (by simp;omega) (fun e=>hnx ?_)).trans (hbl.block b hb)
   rcases e with e | e | e | e | e | e | e
   ·exact .inl e
   ·exact .inr (.inl e)
   ·omega
   ·exact .inr (.inr e)
   ·exact absurd e (nil_own _)
   ·exact absurd e (nil_own _)
   ·exact absurd e (nil_own _)
  ·rcases hf with hf | ⟨k,hf,hk⟩
   ·exact .inl hf
   ·exact .inr ⟨k,hf,by simp at hk;omega⟩
theorem fam_pointsO (w:World)(base h n:Nat)(m m0:Int)(cv:Value)(xs:List Value)(hne:cv.ownBlock≠some h)(hn:n<=1100000)(hh:Blk w h #[.slice none 0 0,cv,.slice none 0 0,.slice none 0 0,.int .i64 m0])(hc:w.ownsRow base 31 3 cv n xs) :
  Calls Tryz.prog 51 #[.pointer (some ⟨h,0,none⟩)] (w.setCell ⟨h,4,none⟩ (.int .i64 m)) fun e w'=>e = .returned (.tuple #[])/\∃ rs,Fam w' base m (.slice none 0 0) cv (.slice none 0 0) (.slice none 0 0) 0 n 0 0 rs/\(∀ q∈rs,w.heap.size<=q)/\Kp (fun b=>(Value.slice none 0 0).ownBlock=some b\/cv.ownBlock=some b\/(Value.slice none 0 0).ownBlock=some b\/(Value.slice none 0 0).ownBlock=some b) (w.setCell ⟨h,4,none⟩ (.int .i64 m)) w':=by
 have hh1:=hh.set 4 (by simp) (.int .i64 m)
 refine (marks_pointsO base h n m cv xs (w.setCell ⟨h,4,none⟩ (.int .i64 m)) hne hn (by simpa using hh1) (own_off hc hne _ _)).mono ?_
 rintro e w' ⟨rfl,ho,hkp⟩
 exact ⟨rfl,[],⟨rfl,own_nil _ _ _ _,fun q hq=>(by cases hq),ho,own_nil _ _ _ _,own_nil _ _ _ _,fun q hq=>(by cases hq)⟩,(fun q hq=>by cases hq),hkp.weaken fun b _ e=>.inr (.inl e)⟩
theorem keep_pointsO (base wb n:Nat)(hv cv:Value)(L:List Nat)(X:Nat->Prop)(xs:List Value)(w:World)(hL:L.length<=1000000000000)(hn:n<=1100000)(hX:∀ b,X b->b<w.heap.size)(hbase:base<=w.heap.size)
  (hW:Wld w base wb hv L (FX (fun b _=>¬ X b/\cv.ownBlock≠some b) wb hv)) (hc:w.ownsRow base 31 3 cv n xs) (hx:∀ b,cv.ownBlock=some b->¬ X b/\hv.ownBlock≠some b) :
  Calls Tryz.prog 27 #[.pointer (some ⟨wb,0,none⟩),.pointer (some ⟨w.heap.size,0,none⟩)] (w.alloc (.cells #[.slice none 0 0,cv,.slice none 0 0,.slice none 0 0,.int .i64 0] 60)) fun e w'=>e = .returned (.tuple #[])/\∃ hv' L',L'.length=L.length+4/\Wld w' base wb hv' L' (FX (fun b _=>¬ X b) wb hv')/\Kp (fun b=>b=wb\/hv.ownBlock=some b\/cv.ownBlock=some b) w w'/\Fresh w hv hv':=by
 have hh:=Blk.new w #[.slice none 0 0,cv,.slice none 0 0,.slice none 0 0,.int .i64 0] 60
 have hbl:=(Below.refl w.heap.size w).alloc (Nat.le_refl _) (.cells #[.slice none 0 0,cv,.slice none 0 0,.slice none 0 0,.int .i64 0] 60)
 have hwl:=hW.blk.lt
 have hcl:∀ b,cv.ownBlock=some b->base<=b/\b<w.heap.size:=fun b e=>hc.lt b e
 have hW1:Wld (w.alloc (.cells #[.slice none 0 0,cv,.slice none 0 0,.slice none 0 0,.int .i64 0] 60)) base wb hv L (FX (fun b _=>¬ X b/\b≠w.heap.size/\(Value.slice none 0 0).ownBlock≠some b/\cv.ownBlock≠some b/\(Value.slice none 0 0).ownBlock≠some b/\(Value.slice none 0 0).ownBlock≠some b) wb hv):=by
  refine hW.kp (X:=fun _=>False) (Kp.of hbl) (fun e=>e) (fun _ _ e=>e) (fun b o u ⟨⟨x1,x2⟩,x3,x4⟩ hc=>?_)
  have hlt:b<w.heap.size:=World.block_lt_of_cell? w ⟨b,o,none⟩ hc
  exact ⟨(hbl.cell (p:=⟨b,o,none⟩) hlt).trans hc,⟨x1,by omega,nil_own _,x2,nil_own _,nil_own _⟩,x3,x4⟩
 refine (keep_any base wb w.heap.size hv L X _ _ _ _ 0 n 0 0 0 _ hL (by omega) hn (by omega) (by omega) (fun b e=>by have:=hX b e;simp;omega) hW1 hh (by omega) (fun e=>by have:=(hW.own.lt _ e).2;omega) (fun e=>by have:=hX _ e;omega) (nil_own _) (fun e=>by have:=hcl _ e;omega) (nil_own _) (nil_own _) ?_ (by simp;omega) ?_).mono ?_
 ·intro b e
  rcases e with e | e | e | e
  ·exact absurd e (nil_own _)
  ·exact ⟨(hx b e).1,(hx b e).2,by have:=hW.lt;have:=hcl b e;omega⟩
  ·exact absurd e (nil_own _)
  ·exact absurd e (nil_own _)
 ·exact (fam_pointsO _ base w.heap.size n _ 0 cv xs (fun e=>by have:=hcl _ e;omega) hn hh (hc.alloc _))
 ·rintro e w' ⟨rfl,hv',L',hl,hW',hk,hf⟩
  refine ⟨rfl,hv',L',hl,hW',⟨hk.os,hk.tape,hk.output,by have:=hk.size;simp at this;omega,fun b hb hnx=>?_⟩,?_⟩
  ·refine (hk.block b (by simp;omega) (fun e=>hnx ?_)).trans (hbl.block b hb)
   rcases e with e | e | e | e | e | e | e
   ·exact .inl e
   ·exact .inr (.inl e)
   ·omega
   ·exact absurd e (nil_own _)
   ·exact .inr (.inr e)
   ·exact absurd e (nil_own _)
   ·exact absurd e (nil_own _)
  ·rcases hf with hf | ⟨k,hf,hk⟩
   ·exact .inl hf
   ·exact .inr ⟨k,hf,by simp at hk;omega⟩
end Go.Proofs.YtnkcbephceollabGreat
