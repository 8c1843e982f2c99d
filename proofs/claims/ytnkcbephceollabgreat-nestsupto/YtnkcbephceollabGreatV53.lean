import Derived.Test.YtnkcbephceollabGreatV52
import Derived.ProofKit
import Derived.ShutString
import Derived.ChangeOld
import Derived.JoinedCond
namespace Go.Proofs.YtnkcbephceollabGreat
open Go.RowKit
set_option linter.unusedSimpArgs false
set_option linter.unusedVariables false
set_option maxHeartbeats 1000000 in
theorem plays_nest (base wb:Nat)(hv:Value)(L:List Nat)(n:Int)(A B:Value)(p q r s:Pt)(PA PB:List (List Pt))(w:World)
  (hn:PA.length<=1048576) (hS:∀ i,i<PA.length->(PA.getD i []).length<=1048576) (hn2:PB.length<=1048576) (hS2:∀ i,i<PB.length->(PB.getD i []).length<=1048576) (hL:L.length+4*PA.length+4*PB.length+12<=1000000000000) (hbase:base<=w.heap.size)
  (hPA:PolyAt w A PA) (hPB:PolyAt w B PB) (hW:Wld w base wb hv L (FX (fun _ _=>True) wb hv)) :
  Calls Tryz.prog 6 #[.pointer (some ⟨wb,0,none⟩),opV 6 n A B p q r s] w fun e w'=>e = .returned (.bool true)/\∃ hv' L',L'.length=L.length+12+4*PA.length+4*PB.length/\Wld w' base wb hv' L' (FX (fun _ _=>True) wb hv')/\Kp (fun b=>b=wb\/hv.ownBlock=some b) w w':=by
 have B0:Hid (Below w.heap.size w (w.alloc (.cells #[.int .i64 6,.int .i64 n,A,B,.int .i64 p.x,.int .i64 p.y,.int .i64 p.d,.int .i64 q.x,.int .i64 q.y,.int .i64 q.d,.int .i64 r.x,.int .i64 r.y,.int .i64 r.d,.int .i64 s.x,.int .i64 s.y,.int .i64 s.d] 33))):=(Below.refl _ _).alloc (Nat.le_refl _) _
 have H:=hide (nested_any base wb hv L 6 n A B p q r s PA PB _ hn hS hn2 hS2 hL (by have:=B0.out.size;omega) (hPA.later B0.out) (hPB.later B0.out) ((hW.call B0.out).weaken (F':=FX (fun _ _=>True) wb hv) (fun b o u ⟨_,y⟩ _=>⟨trivial,y⟩)))
 clear hPA hPB hW hS hS2
 go_enter Tryz.func6,Tryz.ntmps6
 go_wp2_with fail
 refine H.out.mono ?_
 rintro e w1 ⟨rfl,hv',L',hl,hW',hk⟩
 have HW':=hide hW'
 have HK':Hid (Kp (fun b=>b=wb\/hv.ownBlock=some b) w w1):=(Kp.of B0.out).trans hk
 clear hW' hk H B0
 go_wp2
 go_ret
 exact ⟨rfl,hv',L',hl,HW'.out,HK'.out⟩
set_option maxRecDepth 100000 in
set_option maxHeartbeats 4000000 in
theorem upto_nests (a0:Option Addr)(len0 cap0:Nat)(N M:Nat->List (List Pt))(w:World)(hlen:len0<=9223372036854775807)(hops:PolysAt w a0 len0 N M)(hsum:sumTo N len0<=1048576)(hsum2:sumTo M len0<=1048576)(hsh:∀ k,k<len0->Short (N k)/\Short (M k)) :
  Calls Tryz.prog 5 #[.slice a0 len0 cap0,.int .i64 6,.int .i64 6] w fun e w'=>e = .returned (.int .i64 (-1))/\Below w.heap.size w w':=by
 go_enter Tryz.func5,Tryz.ntmps5
 go_wp2_with fail
 go_loopw [8,9,10] (fun i _ _ w'=>∃ (k:Nat) (hv:Value) (L:List Nat),i = .int .i64 k/\k<=len0/\L.length<=8*sumTo N k+4*sumTo M k/\Wld w' (w.heap.size+1) w.heap.size hv L (FX (fun _ _=>True) w.heap.size hv)/\Below w.heap.size w w') (fun i _ _ _=>(len0-(intOf i).toNat))
 case atStart=>exact ⟨0,_,[],rfl,Nat.zero_le _,by simp,wld_new w _,(Below.refl _ _).alloc (Nat.le_refl _) _⟩
 case round=>
  obtain ⟨k,hv,L,rfl,hk,hL,hW,hbel⟩:=hrel
  have HW:=hide hW
  have wlt:=hW.blk.lt
  have fw:=hW.blk.free
  have cw:=hW.blk.cell 0
  simp at cw
  by_cases hlt:k<len0
  ·obtain ⟨b,off,kd,n,A,B,p,q,r,s,rfl,hb,hop,hPA,hPB⟩:=hops k hlt
   obtain ⟨c0,c1,c2,c3,c4,c5,c6,c7,c8,c9,c10,c11,c12,c13,c14,c15⟩:=hop.later hbel hb
   have hs1:=sumTo_mono N (show k+1<=len0 by omega)
   have hs2:sumTo N (k+1)=sumTo N k+(1+(N k).length):=rfl
   have hs1':=sumTo_mono M (show k+1<=len0 by omega)
   have hs2':sumTo M (k+1)=sumTo M k+(1+(M k).length):=rfl
   have HB:=hide hbel
   have HS:=hide (hsh k hlt).1
   have HS2:=hide (hsh k hlt).2
   have HP:=hide (hPA.later hbel)
   have HP2:=hide (hPB.later hbel)
   have hs3:L.length<=8*sumTo N (k+1)+4*sumTo M (k+1):=by omega
   clear hops hop hsh hPA hPB hW hbel
   rcases Int.lt_trichotomy kd 6 with h | rfl | h
   ·go_wp2
    exact ⟨⟨k+1,hv,L,by go_num,by omega,hs3,HW.out,HB.out⟩,by simp [intOf];omega⟩
   ·have hpl:=hide (plays_nest (w.heap.size+1) w.heap.size hv L n A B p q r s (N k) (M k) wr (by omega) HS.out (by omega) HS2.out (by omega) (by omega) HP.out HP2.out HW.out)
    go_wp2_with fail
    refine hpl.out.mono ?_
    rintro e w1 ⟨rfl,hv1,L1,hl1,hW1,hk1⟩
    have B1:=hide (below_of_kp HB.out HW.out hk1)
    have HW1:=hide hW1
    have HO:=hide hW1.holds
    have cw1:=hW1.blk.cell 0
    simp at cw1
    have hl2:L1.length<=8*sumTo N (k+1)+4*sumTo M (k+1):=by omega
    clear hpl hk1 hW1 c0 c1 c2 c3 c4 c5 c6 c7 c8 c9 c10 c11 c12 c13 c14 c15 cw fw
    go_wp2_with fail
    refine (looks_yes w.heap.size hv1 L1 _ cw1 HO.out.1 HO.out.2).mono ?_
    rintro e w2 ⟨rfl,m,rfl⟩
    have B2:Hid (Below w.heap.size w (w1.drewN m)):=below_drewN B1.out m
    have HW2:=hide (HW1.out.drewN m)
    clear B1 HW1 HO cw1
    go_wp2
    exact ⟨⟨k+1,hv1,L1,by go_num,by omega,hl2,HW2.out,B2.out⟩,by simp [intOf];omega⟩
   ·go_wp2
    exact ⟨⟨k+1,hv,L,by go_num,by omega,hs3,HW.out,HB.out⟩,by simp [intOf];omega⟩
  ·clear hops hsh hW
   go_wp2
   go_ret
   exact ⟨rfl,hbel⟩
theorem nests_walk (a0:Option Addr)(len0 cap0:Nat)(N M:Nat->List (List Pt))(w:World)(hlen:len0<=9223372036854775807)(hops:PolysAt w a0 len0 N M)(hsum:sumTo N len0<=1048576)(hsum2:sumTo M len0<=1048576)(hsh:∀ k,k<len0->Short (N k)/\Short (M k)) :
  Calls Tryz.prog 3 #[.slice a0 len0 cap0] w fun e w'=>e = .returned (.bool true)/\Below w.heap.size w w':=by
 have H:=hide (upto_nests a0 len0 cap0 N M w hlen hops hsum hsum2 hsh)
 clear hops hsh
 go_enter Tryz.func3,Tryz.ntmps3
 go_wp2_with fail
 refine H.out.mono ?_
 rintro e w1 ⟨rfl,k⟩
 go_wp2
 go_ret
 exact ⟨rfl,k⟩
end Go.Proofs.YtnkcbephceollabGreat
namespace Go.Proofs.YtnkcbephceollabGreat
open Go.ChangeShapes Go.WideShapes Go.ChangeAt Go.RowKit
open Go.ChangeMaps (open_string shut_string)
set_option linter.unusedVariables false
theorem nests_own:ownKnob Tryz.prog.godebug=none:=by kernel_rfl
theorem nests_laidOut:laidOutB Tryz.prog=true:=by kernel_rfl
set_option maxRecDepth 100000 in
theorem nests_lifted (os:Os)(started:os.Started)(H:Type)(enc:TypeId×Value->H)(F:Stop.Interp) :
  ReturnsInHanded {} Tryz.checked os 3 .any ((Rows.OpenSpec.upto Rows.nestsSpec).pre6 enc Tryz.prog Tryz.f3 Rows.nestsUptoRow.domain false) (((Rows.OpenSpec.upto Rows.nestsSpec).at F).post enc Tryz.prog Tryz.f3 false true false false):=by
 refine returnsInHanded_of_cond (C:=Tryz.checked) (s:=Rows.OpenSpec.upto Rows.nestsSpec) (k:=Rows.uptoSmall) rfl nests_own started (by kernel_rfl) Tryz.func3
  (OpenSpec.witness (enc:=enc) (C:=Tryz.checked) (s:=Rows.OpenSpec.upto Rows.nestsSpec) (k:=Rows.uptoSmall) rfl false ⟨#[],#[.slice none 0 0],[]⟩ 8 (by kernel_rfl) (by kernel_rfl) (by kernel_rfl)
   (x:=([.nil],[],[])) (by kernel_rfl) rfl (by kernel_rfl)) ?_
 intro W base args ds gs before hval0 hW _ hk _
 have hval:∀ (j:Nat) t v,Tryz.f3.params[j]?=some t->args[j]?=some v->Value.okWide Tryz.prog W .any base t v:=hval0
 have hW':=hW
 obtain ⟨p,q,hA0,hV,rfl,hfz,hnd⟩:=hW
 have hA:DataW.TrodAll enc Tryz.prog W 0 (fun _=>true) true Tryz.f3.params.toList args.toList ds p:=hA0
 rw [Tryz.params3] at hA hval
 obtain ⟨v0,vs0,d0,ds0,p0,q0,hargs,rfl,rfl,h0,r0⟩:=trodAll_cons hA
 obtain ⟨rfl,rfl,rfl⟩:=trodAll_nil r0
 obtain rfl:args = #[v0]:=by cases args;simp_all
 obtain ⟨rfl,rfl⟩:=trodVars_none hV
 obtain ⟨a0,len0,cap0,rfl⟩:=okWide_slice Tryz.underlying22 (hval 0 22 v0 rfl rfl)
 have k0:=h0
 have lt0:∀ x∈p0,x.block<W.heap.size:=by obtain ⟨m,hm⟩:=k0;exact DataW.trod_lt m _ _ _ hm
 have hbulk:Rows.uptoBulk d0<=1048576:=by
  have h:Rows.uptoBulkAll ([d0] ++ [])<=1048576:=of_decide_eq_true hk
  simp only [List.append_nil,Rows.uptoBulkAll] at h
  omega
 obtain ⟨hlen,N,M,hops,hsum,hsum2,hsh⟩:len0<=9223372036854775807/\∃ N M,PolysAt W a0 len0 N M/\sumTo N len0<=1048576/\sumTo M len0<=1048576/\∀ k,k<len0->Short (N k)/\Short (M k):=by
  obtain ⟨fuel,hf⟩:=h0
  exact polys_of (by simpa [Value.cells] using hf) hbulk
 clear hA0 hval0
 refine (nests_walk a0 len0 cap0 N M W hlen hops hsum hsum2 hsh).mono fun e W' ⟨he,bel⟩=>?_
 subst he
 exact ⟨_,rfl,_,_,_,[],_,[],hW',trodAll_mk1 (shut_bool Tryz.underlying4 _),(trodAll_cons_mk (Below.trod nests_laidOut (by kernel_rfl) (of_decide_eq_true (by kernel_rfl)) k0 bel lt0) trodAll_mk0),rfl,bel.frame _,fun h=>by cases h⟩
theorem nests_over:Rows.nestsUptoRow.holds Tryz.pinned (Rows.OpenSpec.upto Rows.nestsSpec):=
 OpenClaim.holds_of_cond 3 Tryz.f3 rfl rfl rfl rfl rfl rfl rfl ⟨rfl,rfl,rfl,rfl,rfl⟩ rfl rfl rfl rfl rfl (by kernel_rfl) Tryz.func3 (by kernel_rfl)
  (of_decide_eq_true (by kernel_rfl)) (by unfold Func.isWrapper;first | (rw [if_pos (by decide +kernel)];kernel_rfl) | (rw [if_neg (by decide +kernel)];exact ⟨rfl,rfl⟩))
  (fun os started H enc _ F=>nests_lifted os started H enc F)
theorem nests_holds:Rows.NestsUptoSaid:=nests_over
#print axioms nests_holds
end Go.Proofs.YtnkcbephceollabGreat
