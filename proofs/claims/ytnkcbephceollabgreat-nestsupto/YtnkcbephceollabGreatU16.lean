import Derived.Test.YtnkcbephceollabGreatU15
namespace Go.Proofs.YtnkcbephceollabGreat
open Go.RowKit
set_option linter.unusedSimpArgs false
set_option linter.unusedVariables false
theorem list_rep3 {us:Array Value}{n:Nat}{m:Int}(hs:us.size=n*3)(h:∀ t,t<n->us[t*3]?=some (.int .i64 0)/\us[t*3+1]?=some (.int .i64 m)/\us[t*3+2]?=some (.int .i64 0)):us.toList=rep n (ptMk m):=by
 apply List.ext_getElem?
 intro i
 by_cases hi:i<n*3
 ·have e:i=i / 3*3+i % 3:=by omega
  have ht:i / 3<n:=by omega
  have hm:i % 3<3:=Nat.mod_lt _ (by decide)
  have hr:=rep_at n (i / 3) (i % 3) (ptMk m) ht hm
  obtain ⟨a0,a1,a2⟩:=h (i / 3) ht
  rw [Array.getElem?_toList]
  rw [e]
  generalize i / 3=t at *
  generalize i % 3=r at *
  rw [show (ptMk m).length=3 from rfl] at hr
  rw [hr]
  match r,hm with
  | 0,_=>exact a0
  | 1,_=>exact a1
  | 2,_=>exact a2
 ·rw [List.getElem?_eq_none (by simp;omega),List.getElem?_eq_none (by rw [rep_len];simp;omega)]
theorem list_rings {us:Array Value}{n:Nat}{rg:Nat->Nat}(hs:us.size=n)(h:∀ t,t<n->us[t]?=some (.slice (some ⟨rg t,0,none⟩) 1 1)):us.toList=(((List.range n).map rg).map fun g=>.slice (some ⟨g,0,none⟩) 1 1):=by
 apply List.ext_getElem?
 intro i
 by_cases hi:i<n
 ·rw [Array.getElem?_toList,h i hi]
  simp [hi]
 ·rw [List.getElem?_eq_none (by simp;omega),List.getElem?_eq_none (by simp;omega)]
theorem own_whole {w:World}{base b n s:Nat}{e:TypeId}{us:Array Value}{xs:List Value}(h:Blk w b us)(t:TyAt w b e)(hb:base<=b)(hn:n<=maxLen)(hs:us.size=n*s)(hx:us.toList=xs):w.ownsRow base e s (.slice (some ⟨b,0,none⟩) n n) n xs:=by
 refine ⟨by rw [<-hx,Array.length_toList];exact hs,.inr ⟨b,n,us,rfl,hb,h.whole t,Nat.le_refl _,hn,hs,?_⟩⟩
 rw [<-hx]
 exact List.take_of_length_le (by rw [Array.length_toList,hs];exact Nat.le_refl _)
theorem own_nil (w:World)(base:Nat)(e:TypeId)(s:Nat):w.ownsRow base e s (.slice none 0 0) 0 []:=World.ownsRow_nil _ _ _ _
theorem nil_own (b:Nat):(Value.slice none 0 0).ownBlock≠some b:=by simp [Value.ownBlock]
theorem fam_rings (w:World)(base h rb n:Nat)(m m0:Int)(vs:Array Value)(hne:rb≠h)(hn:n<=1100000)(hb:base<=rb)(hsz:vs.size=n)(hh:Blk w h #[.slice (some ⟨rb,0,none⟩) n n,.slice none 0 0,.slice none 0 0,.slice none 0 0,.int .i64 m0])(hr:Blk w rb vs)(ht:TyAt w rb 57) :
  Calls Tryz.prog 51 #[.pointer (some ⟨h,0,none⟩)] (w.setCell ⟨h,4,none⟩ (.int .i64 m)) fun e w'=>e = .returned (.tuple #[])/\∃ rs,Fam w' base m (.slice (some ⟨rb,0,none⟩) n n) (.slice none 0 0) (.slice none 0 0) (.slice none 0 0) n 0 0 0 rs/\(∀ q∈rs,w.heap.size<=q)/\Kp (fun b=>(Value.slice (some ⟨rb,0,none⟩) n n).ownBlock=some b\/(Value.slice none 0 0).ownBlock=some b\/(Value.slice none 0 0).ownBlock=some b\/(Value.slice none 0 0).ownBlock=some b) (w.setCell ⟨h,4,none⟩ (.int .i64 m)) w':=by
 have hh1:=hh.set 4 (by simp) (.int .i64 m)
 refine (marks_rings h rb n n 57 m vs (w.setCell ⟨h,4,none⟩ (.int .i64 m)) hne (by omega) hsz (by simpa using hh1) (hr.off hne _ _) (ht.setCell _ _ _)).mono ?_
 rintro e w' ⟨rfl,us,rg,hus,hru,hmk,hty,hkp⟩
 have hrg:∀ q∈(List.range n).map rg,∃ t,t<n/\q=rg t:=fun q hq=>by
  obtain ⟨t,ht,rfl⟩:=List.mem_map.1 hq
  exact ⟨t,List.mem_range.1 ht,rfl⟩
 have hrl:=hr.lt
 refine ⟨rfl,(List.range n).map rg,⟨by simp,own_whole hru hty hb (by unfold maxLen;omega) (by omega) (list_rings hus (fun t ht=>(hmk t ht).1)),fun q hq=>?_,own_nil _ _ _ _,own_nil _ _ _ _,own_nil _ _ _ _,fun q hq=>?_⟩,fun q hq=>?_,hkp.weaken fun b _ e=>.inl (by simp [Value.ownBlock,e])⟩
 ·obtain ⟨t,ht,rfl⟩:=hrg q hq
  have b:=(hmk t ht).2.2
  exact ⟨b.cell 0,b.cell 1,b.cell 2⟩
 ·obtain ⟨t,ht,rfl⟩:=hrg q hq
  have l:=(hmk t ht).2.1
  simp at l
  exact ⟨fun e=>by have:rb=rg t:=Option.some.inj e;omega,nil_own _,nil_own _,nil_own _⟩
 ·obtain ⟨t,ht,rfl⟩:=hrg q hq
  have l:=(hmk t ht).2.1
  simpa using l
theorem fam_points (w:World)(base h rb n:Nat)(m m0:Int)(vs:Array Value)(hne:rb≠h)(hn:n<=1100000)(hb:base<=rb)(hsz:vs.size=n*3)(hh:Blk w h #[.slice none 0 0,.slice (some ⟨rb,0,none⟩) n n,.slice none 0 0,.slice none 0 0,.int .i64 m0])(hr:Blk w rb vs)(ht:TyAt w rb 31) :
  Calls Tryz.prog 51 #[.pointer (some ⟨h,0,none⟩)] (w.setCell ⟨h,4,none⟩ (.int .i64 m)) fun e w'=>e = .returned (.tuple #[])/\∃ rs,Fam w' base m (.slice none 0 0) (.slice (some ⟨rb,0,none⟩) n n) (.slice none 0 0) (.slice none 0 0) 0 n 0 0 rs/\(∀ q∈rs,w.heap.size<=q)/\Kp (fun b=>(Value.slice none 0 0).ownBlock=some b\/(Value.slice (some ⟨rb,0,none⟩) n n).ownBlock=some b\/(Value.slice none 0 0).ownBlock=some b\/(Value.slice none 0 0).ownBlock=some b) (w.setCell ⟨h,4,none⟩ (.int .i64 m)) w':=by
 have hh1:=hh.set 4 (by simp) (.int .i64 m)
 refine (marks_points h rb n n 31 m vs (w.setCell ⟨h,4,none⟩ (.int .i64 m)) hne (by omega) hsz (by simpa using hh1) (hr.off hne _ _) (ht.setCell _ _ _)).mono ?_
 rintro e w' ⟨rfl,us,hus,hru,hmk,hty,hkp⟩
 exact ⟨rfl,[],⟨rfl,own_nil _ _ _ _,fun q hq=>(by cases hq),own_whole hru hty hb (by unfold maxLen;omega) hus (list_rep3 hus hmk),own_nil _ _ _ _,own_nil _ _ _ _,fun q hq=>(by cases hq)⟩,(fun q hq=>by cases hq),hkp.weaken fun b _ e=>.inr (.inl (by simp [Value.ownBlock,e]))⟩
theorem keep_rings (base wb rb n:Nat)(hv:Value)(L:List Nat)(X:Nat->Prop)(vs:Array Value)(w:World)(hL:L.length<=1000000000000)(hn:n<=1100000)(hX:∀ b,X b->b<w.heap.size)(hbase:base<=w.heap.size)
  (hW:Wld w base wb hv L (FX (fun b _=>¬ X b/\b≠rb) wb hv)) (hb:base<=rb) (hsz:vs.size=n) (hr:Blk w rb vs) (ht:TyAt w rb 57) (hx : ¬ X rb) (hvr:hv.ownBlock≠some rb) :
  Calls Tryz.prog 27 #[.pointer (some ⟨wb,0,none⟩),.pointer (some ⟨w.heap.size,0,none⟩)] (w.alloc (.cells #[.slice (some ⟨rb,0,none⟩) n n,.slice none 0 0,.slice none 0 0,.slice none 0 0,.int .i64 0] 60)) fun e w'=>e = .returned (.tuple #[])/\∃ hv' L',L'.length=L.length+4/\Wld w' base wb hv' L' (FX (fun b _=>¬ X b) wb hv')/\Kp (fun b=>b=wb\/hv.ownBlock=some b\/b=rb) w w'/\Fresh w hv hv':=by
 have hh:=Blk.new w #[.slice (some ⟨rb,0,none⟩) n n,.slice none 0 0,.slice none 0 0,.slice none 0 0,.int .i64 0] 60
 have hbl:=(Below.refl w.heap.size w).alloc (Nat.le_refl _) (.cells #[.slice (some ⟨rb,0,none⟩) n n,.slice none 0 0,.slice none 0 0,.slice none 0 0,.int .i64 0] 60)
 have hwl:=hW.blk.lt
 have hrl:=hr.lt
 have hrb:∀ b,(Value.slice (some ⟨rb,0,none⟩) n n).ownBlock=some b->b=rb:=fun b e=>(Option.some.inj e).symm
 have hW1:Wld (w.alloc (.cells #[.slice (some ⟨rb,0,none⟩) n n,.slice none 0 0,.slice none 0 0,.slice none 0 0,.int .i64 0] 60)) base wb hv L (FX (fun b _=>¬ X b/\b≠w.heap.size/\(Value.slice (some ⟨rb,0,none⟩) n n).ownBlock≠some b/\(Value.slice none 0 0).ownBlock≠some b/\(Value.slice none 0 0).ownBlock≠some b/\(Value.slice none 0 0).ownBlock≠some b) wb hv):=by
  refine hW.kp (X:=fun _=>False) (Kp.of hbl) (fun e=>e) (fun _ _ e=>e) (fun b o u ⟨⟨x1,x2⟩,x3,x4⟩ hc=>?_)
  have hlt:b<w.heap.size:=World.block_lt_of_cell? w ⟨b,o,none⟩ hc
  exact ⟨(hbl.cell (p:=⟨b,o,none⟩) hlt).trans hc,⟨x1,by omega,fun e=>x2 (hrb b e),nil_own _,nil_own _,nil_own _⟩,x3,x4⟩
 refine (keep_any base wb w.heap.size hv L X _ _ _ _ n 0 0 0 0 _ hL hn (by omega) (by omega) (by omega) (fun b e=>by have:=hX b e;simp;omega) hW1 hh (by omega) (fun e=>by have:=(hW.own.lt _ e).2;omega) (fun e=>by have:=hX _ e;omega) (fun e=>by have:=hrb _ e;omega) (nil_own _) (nil_own _) (nil_own _) ?_ (by simp;omega) ?_).mono ?_
 ·intro b e
  rcases e with e | e | e | e
  ·have:=hrb b e;subst this;exact ⟨hx,hvr,by have:=hW.lt;omega⟩
  ·exact absurd e (nil_own _)
  ·exact absurd e (nil_own _)
  ·exact absurd e (nil_own _)
 ·exact (fam_rings _ base w.heap.size rb n _ 0 vs (by omega) hn hb hsz hh (hr.alloc _) (ht.alloc _))
 ·rintro e w' ⟨rfl,hv',L',hl,hW',hk,hf⟩
  refine ⟨rfl,hv',L',hl,hW',⟨hk.os,hk.tape,hk.output,by have:=hk.size;simp at this;omega,fun b hb hnx=>?_⟩,?_⟩
  ·refine (hk.block b (by simp;omega) (fun e=>hnx ?_)).trans (hbl.block b hb)
   rcases e with e | e | e | e | e | e | e
   ·exact .inl e
   ·exact .inr (.inl e)
   ·omega
   ·exact .inr (.inr (hrb b e))
   ·exact absurd e (nil_own _)
   ·exact absurd e (nil_own _)
   ·exact absurd e (nil_own _)
  ·rcases hf with hf | ⟨k,hf,hk⟩
   ·exact .inl hf
   ·exact .inr ⟨k,hf,by simp at hk;omega⟩
theorem keep_points (base wb rb n:Nat)(hv:Value)(L:List Nat)(X:Nat->Prop)(vs:Array Value)(w:World)(hL:L.length<=1000000000000)(hn:n<=1100000)(hX:∀ b,X b->b<w.heap.size)(hbase:base<=w.heap.size)
  (hW:Wld w base wb hv L (FX (fun b _=>¬ X b/\b≠rb) wb hv)) (hb:base<=rb) (hsz:vs.size=n*3) (hr:Blk w rb vs) (ht:TyAt w rb 31) (hx : ¬ X rb) (hvr:hv.ownBlock≠some rb) :
  Calls Tryz.prog 27 #[.pointer (some ⟨wb,0,none⟩),.pointer (some ⟨w.heap.size,0,none⟩)] (w.alloc (.cells #[.slice none 0 0,.slice (some ⟨rb,0,none⟩) n n,.slice none 0 0,.slice none 0 0,.int .i64 0] 60)) fun e w'=>e = .returned (.tuple #[])/\∃ hv' L',L'.length=L.length+4/\Wld w' base wb hv' L' (FX (fun b _=>¬ X b) wb hv')/\Kp (fun b=>b=wb\/hv.ownBlock=some b\/b=rb) w w'/\Fresh w hv hv':=by
 have hh:=Blk.new w #[.slice none 0 0,.slice (some ⟨rb,0,none⟩) n n,.slice none 0 0,.slice none 0 0,.int .i64 0] 60
 have hbl:=(Below.refl w.heap.size w).alloc (Nat.le_refl _) (.cells #[.slice none 0 0,.slice (some ⟨rb,0,none⟩) n n,.slice none 0 0,.slice none 0 0,.int .i64 0] 60)
 have hwl:=hW.blk.lt
 have hrl:=hr.lt
 have hrb:∀ b,(Value.slice (some ⟨rb,0,none⟩) n n).ownBlock=some b->b=rb:=fun b e=>(Option.some.inj e).symm
 have hW1:Wld (w.alloc (.cells #[.slice none 0 0,.slice (some ⟨rb,0,none⟩) n n,.slice none 0 0,.slice none 0 0,.int .i64 0] 60)) base wb hv L (FX (fun b _=>¬ X b/\b≠w.heap.size/\(Value.slice none 0 0).ownBlock≠some b/\(Value.slice (some ⟨rb,0,none⟩) n n).ownBlock≠some b/\(Value.slice none 0 0).ownBlock≠some b/\(Value.slice none 0 0).ownBlock≠some b) wb hv):=by
  refine hW.kp (X:=fun _=>False) (Kp.of hbl) (fun e=>e) (fun _ _ e=>e) (fun b o u ⟨⟨x1,x2⟩,x3,x4⟩ hc=>?_)
  have hlt:b<w.heap.size:=World.block_lt_of_cell? w ⟨b,o,none⟩ hc
  exact ⟨(hbl.cell (p:=⟨b,o,none⟩) hlt).trans hc,⟨x1,by omega,nil_own _,fun e=>x2 (hrb b e),nil_own _,nil_own _⟩,x3,x4⟩
 refine (keep_any base wb w.heap.size hv L X _ _ _ _ 0 n 0 0 0 _ hL (by omega) hn (by omega) (by omega) (fun b e=>by have:=hX b e;simp;omega) hW1 hh (by omega) (fun e=>by have:=(hW.own.lt _ e).2;omega) (fun e=>by have:=hX _ e;omega) (nil_own _) (fun e=>by have:=hrb _ e;omega) (nil_own _) (nil_own _) ?_ (by simp;omega) ?_).mono ?_
 ·intro b e
  rcases e with e | e | e | e
  ·exact absurd e (nil_own _)
  ·have:=hrb b e;subst this;exact ⟨hx,hvr,by have:=hW.lt;omega⟩
  ·exact absurd e (nil_own _)
  ·exact absurd e (nil_own _)
 ·exact (fam_points _ base w.heap.size rb n _ 0 vs (by omega) hn hb hsz hh (hr.alloc _) (ht.alloc _))
 ·rintro e w' ⟨rfl,hv',L',hl,hW',hk,hf⟩
  refine ⟨rfl,hv',L',hl,hW',⟨hk.os,hk.tape,hk.output,by have:=hk.size;simp at this;omega,fun b hb hnx=>?_⟩,?_⟩
  ·refine (hk.block b (by simp;omega) (fun e=>hnx ?_)).trans (hbl.block b hb)
   rcases e with e | e | e | e | e | e | e
   ·exact .inl e
   ·exact .inr (.inl e)
   ·omega
   ·exact absurd e (nil_own _)
   ·exact .inr (.inr (hrb b e))
   ·exact absurd e (nil_own _)
   ·exact absurd e (nil_own _)
  ·rcases hf with hf | ⟨k,hf,hk⟩
   ·exact .inl hf
   ·exact .inr ⟨k,hf,by simp at hk;omega⟩
theorem ptCells_size (r:List Pt)(p:Pt):(ptCells (r ++ [p])).toArray.size=(r.length+1)*3:=by
 rw [List.size_toArray,ptCells_len]
 simp
set_option maxRecDepth 100000 in
set_option maxHeartbeats 4000000 in
theorem keepArg_gen (base wb s0 s1 pb rb wl xb:Nat)(X:Nat->Prop)(rg:Nat->Nat)(hv:Value)(L:List Nat)(P:List (List Pt))(vs us:Array Value)(w:World)
  (hn:P.length<=1048576) (hS:∀ i,i<P.length->(P.getD i []).length<=1048576) (hL:L.length+4*P.length+4<=1000000000000) (hs0:base<=s0) (hbase:base<=w.heap.size) (hlo:∀ b,hv.ownBlock=some b->b<s0\/s1<=b) (hs1:s1<=w.heap.size) (hpb:pb<s1) (hrg:∀ t,t<P.length->rg t<s1) (hX:∀ b,X b->(b<s0\/s1<=b)/\b<w.heap.size)
  (hW:Wld w base wb hv L (FX (fun b _=>(b<s0\/s1<=b)/\¬ X b) wb hv)) (hA:ArgAt w s0 pb rb wl xb rg P vs us) :
  Calls Tryz.prog 22 #[.pointer (some ⟨wb,0,none⟩),.pointer (some ⟨pb,0,none⟩)] w fun e w'=>e = .returned (.tuple #[])/\∃ hv' L',L'.length=L.length+4+4*P.length/\Wld w' base wb hv' L' (FX (fun b _=>¬ X b) wb hv')/\Kp (fun b=>b=wb\/hv.ownBlock=some b\/(s0<=b/\b<s1)) w w'/\Fresh w hv hv':=by
 have hrb:=hA.rbase
 have hwb:=hA.wbase
 have hrp:=hA.rp
 have hwp:=hA.wp
 have hrw:=hA.rw'
 have ho:=hA.hand.ord
 have hvs:=hA.hand.vsz
 have hpk:=hA.hand.pbk
 have hrk:=hA.hand.rbk
 have hwk:=hA.hand.wbk
 have huat:=hA.hand.uat
 have hpts:=hA.hand.pts
 have hrty:=hA.hand.rty
 have hpty:=hA.hand.pty
 have hwlt:=hW.lt
 have p0:=hpk.cell 0
 simp at p0
 have hpl:=hpk.lt
 have hwbl:=hW.blk.lt
 have hK0:=keep_rings base wb rb (P.length+1) hv L (fun b=>X b\/∃ t,t<P.length/\b=rg t) vs w (by omega) (by omega) (fun b e=>by
   rcases e with e | ⟨t,ht,e⟩
   ·exact (hX b e).2
   ·subst e;exact (hpts t ht).lt) hbase
  (hW.weaken (fun b o u ⟨⟨x,z⟩,y⟩ hc=>⟨⟨fun e=>by
   rcases e with e | ⟨t,ht,e⟩
   ·exact z e
   ·have:=(ho t ht).1;have:=hrg t ht;omega,by omega⟩,y⟩)) (by omega) hvs hrk hrty (fun e=>by
   rcases e with e | ⟨t,ht,e⟩
   ·have:=(hX _ e).1;omega
   ·have:=(ho t ht).1;omega) (fun e=>by have:=hlo _ e;omega)
 have HK0:=hide hK0
 have HA:=hide hA
 have HO:=hide ho
 have HP:=hide hpts
 have HT:=hide hpty
 have HU:=hide huat
 have HLO:=hide hlo
 have HRG:=hide hrg
 have HX:=hide hX
 clear hK0 hA ho hvs hrk huat hpts hpty hlo hrty hW hrg hX
 go_enter Tryz.func22,Tryz.ntmps22
 go_wp2_with fail
 refine HK0.out.mono ?_
 rintro e w1 ⟨rfl,hv1,L1,hl1,hW1,hk1,hf1⟩
 have hsz1:=hk1.size
 have k1:Kp (fun b=>b=wb\/hv.ownBlock=some b\/(s0<=b/\b<s1)\/w.heap.size<=b) w w1:=hk1.weaken fun b _ e=>by
  rcases e with e | e | e
  ·exact .inl e
  ·exact .inr (.inl e)
  ·exact .inr (.inr (.inl (by omega)))
 have far:∀ b,s0<=b->b<s1->b≠rb->¬ (b=wb\/hv.ownBlock=some b\/b=rb):=fun b hb hb1 hne e=>by
  rcases e with e | e | e
  ·omega
  ·have:=HLO.out b e;omega
  ·exact hne e
 have q0:Hid (Blk w1 pb #[.slice (some ⟨rb,0,none⟩) (P.length+1) (P.length+1),.slice (some ⟨wl,0,none⟩) P.length P.length]):=Kp.blk hpk hk1 (far pb (by omega) (by omega) (by omega))
 have q1:Hid (Blk w1 wl us):=Kp.blk hwk hk1 (far wl (by omega) (by omega) (by omega))
 have q2:Hid (∀ t,0<=t->t<P.length->Blk w1 (rg t) (ptCells (P.getD t [] ++ [bynd])).toArray/\TyAt w1 (rg t) 31):=fun t _ ht=>by
  have o:=(HO.out t ht).1
  have f:=far (rg t) (by omega) (HRG.out t ht) (by omega)
  exact ⟨Kp.blk (HP.out t ht) hk1 f,(HT.out t ht).same (hk1.block (rg t) (HP.out t ht).lt f)⟩
 have HW1:=hide (hW1.weaken (F':=FX (fun b _=>¬ X b/\∀ t,0<=t->t<P.length->b≠rg t) wb hv1) (fun b o u ⟨x,y⟩ hc=>⟨⟨fun e=>x (.inl e),fun t _ ht e=>x (.inr ⟨t,ht,e⟩)⟩,y⟩))
 have HF1:=hide hf1
 have HKP:=hide k1
 clear hW1 hf1 k1 hk1 far hpk hwk p0 HK0
 go_wp2_with fail
 go_loopw [4] (fun c w'=>∃ (i:Nat) (hv':Value) (L':List Nat),c = .int .i64 i/\i<=P.length/\L'.length=L.length+4+4*i/\Wld w' base wb hv' L' (FX (fun b _=>¬ X b/\∀ t,i<=t->t<P.length->b≠rg t) wb hv')/\Fresh w hv hv'/\Kp (fun b=>b=wb\/hv.ownBlock=some b\/(s0<=b/\b<s1)\/w.heap.size<=b) w w'/\
   Blk w' pb #[.slice (some ⟨rb,0,none⟩) (P.length+1) (P.length+1),.slice (some ⟨wl,0,none⟩) P.length P.length]/\Blk w' wl us/\(∀ t,i<=t->t<P.length->Blk w' (rg t) (ptCells (P.getD t [] ++ [bynd])).toArray/\TyAt w' (rg t) 31)) (fun c _=>P.length-(intOf c).toNat)
 case atStart=>exact ⟨0,hv1,L1,rfl,Nat.zero_le _,by omega,HW1.out,HF1.out,HKP.out,q0.out,q1.out,q2.out⟩
 case round=>
  clear HW1 HF1 HKP q0 q1 q2
  obtain ⟨i,hv2,L2,rfl,hi,hl2,hW2,hf2,hk2,hpk,hwk,hpt⟩:=hrel
  have p1:=hpk.cell 1
  simp at p1
  by_cases hlt:i<P.length
  ·have hu:=(hwk.cell i).trans (HU.out i hlt)
   have hsm:=hS i hlt
   have hri:=HO.out i hlt
   have hpi:=hpt i (Nat.le_refl _) hlt
   have hsz2:=hk2.size
   have hrl:∀ t,t<P.length->rg t<w.heap.size:=fun t ht=>(HP.out t ht).lt
   have hvn:∀ b,s0<=b->b<s1->hv2.ownBlock≠some b:=fun b hb hw e=>by
    have:=HLO.out b (hf2.old (by omega) e);omega
   have hK:=keep_points base wb (rg i) ((P.getD i []).length+1) hv2 L2 (fun b=>X b\/∃ t,i+1<=t/\t<P.length/\b=rg t) _ wr (by omega) (by omega) (fun b e=>by
     rcases e with e | ⟨t,_,ht,e⟩
     ·have:=(HX.out b e).2;omega
     ·subst e;have:=hrl t ht;omega) (by omega)
    (hW2.weaken (fun b o u ⟨⟨z,x⟩,y⟩ hc=>⟨⟨fun e=>by
     rcases e with e | ⟨t,h1,ht,e⟩
     ·exact z e
     ·exact x t (by omega) ht e,x i (Nat.le_refl _) hlt⟩,y⟩)) (by omega) (ptCells_size _ _) hpi.1 hpi.2 (fun e=>by
     rcases e with e | ⟨t,h1,ht,e⟩
     ·have:=(HX.out _ e).1;have:=HRG.out i hlt;omega
     ·have:=(HO.out t ht).2 i (by omega);omega) (hvn _ (by omega) (HRG.out i hlt))
   have HK:=hide hK
   have HW2:=hide hW2
   have HF2:=hide hf2
   have HK2:=hide hk2
   have HPK:=hide hpk
   have HWK:=hide hwk
   have HPT:=hide hpt
   have HRL:=hide hrl
   have HVN:=hide hvn
   have hi0:(0:Int)<=(i:Int):=Int.natCast_nonneg _
   have hi1:(i:Int)<(P.length:Int):=by omega
   generalize hrr:P.getD i []=r at *
   clear hK hW2 hf2 hk2 hpk hwk hpt hpi hrl hvn hS
   go_wp2_with fail
   refine HK.out.mono ?_
   rintro e w3 ⟨rfl,hv3,L3,hl3,hW3,hk3,hf3⟩
   have hsz3:=hk3.size
   have far:∀ b,s0<=b->b<s1->b≠rg i->¬ (b=wb\/hv2.ownBlock=some b\/b=rg i):=fun b hb hw hne e=>by
    rcases e with e | e | e
    ·omega
    ·exact HVN.out b hb hw e
    ·exact hne e
   have HW3:=hide (hW3.weaken (F':=FX (fun b _=>¬ X b/\∀ t,i+1<=t->t<P.length->b≠rg t) wb hv3) (fun b o u ⟨x,y⟩ hc=>⟨⟨fun e=>x (.inl e),fun t h1 ht e=>x (.inr ⟨t,h1,ht,e⟩)⟩,y⟩))
   have HF3:Hid (Fresh w hv hv3):=HF2.out.trans hf3 hsz2
   have HK3:Hid (Kp (fun b=>b=wb\/hv.ownBlock=some b\/(s0<=b/\b<s1)\/w.heap.size<=b) w w3):=HK2.out.trans ⟨hk3.os,hk3.tape,hk3.output,hk3.size,fun b hb hnx=>hk3.block b hb (fun e=>hnx (by
    rcases e with e | e | e
    ·exact .inl e
    ·by_cases hw:b<w.heap.size
     ·exact .inr (.inl (HF2.out.old hw e))
     ·exact .inr (.inr (.inr (by omega)))
    ·have:=HRG.out i hlt;exact .inr (.inr (.inl (by omega)))))⟩
   have HP3:Hid (Blk w3 pb #[.slice (some ⟨rb,0,none⟩) (P.length+1) (P.length+1),.slice (some ⟨wl,0,none⟩) P.length P.length]):=Kp.blk HPK.out hk3 (far pb (by omega) (by omega) (by omega))
   have HW4:Hid (Blk w3 wl us):=Kp.blk HWK.out hk3 (far wl (by omega) (by omega) (by omega))
   have HT3:Hid (∀ t,i+1<=t->t<P.length->Blk w3 (rg t) (ptCells (P.getD t [] ++ [bynd])).toArray/\TyAt w3 (rg t) 31):=fun t h1 ht=>by
    have o:=HO.out t ht
    have o2:=o.2 i (by omega)
    have f:=far (rg t) (by omega) (HRG.out t ht) (by omega)
    obtain ⟨a,b⟩:=HPT.out t (by omega) ht
    exact ⟨Kp.blk a hk3 f,b.same (hk3.block (rg t) a.lt f)⟩
   clear hW3 hf3 hk3 far
   go_wp2
   go_roundw
   case rel=>exact ⟨i+1,hv3,L3,by go_num,by omega,by omega,HW3.out,HF3.out,HK3.out,HP3.out,HW4.out,HT3.out⟩
   case measure=>simp [intOf];omega
  ·have ei:i=P.length:=by omega
   subst ei
   have HW2:=hide hW2
   have HF2:=hide hf2
   have HK2:=hide hk2
   clear hW2 hf2 hk2 hpt hwk hpk
   go_wp2
   go_end0
   exact ⟨rfl,hv2,L2,hl2,HW2.out.weaken (fun b o u ⟨x,y⟩ _=>⟨x.1,y⟩),HK2.out.weaken (fun b hb e=>by
    rcases e with e | e | e | e
    ·exact .inl e
    ·exact .inr (.inl e)
    ·exact .inr (.inr e)
    ·omega),HF2.out⟩
theorem keepArg_any (base wb s0 pb rb wl xb:Nat)(rg:Nat->Nat)(hv:Value)(L:List Nat)(P:List (List Pt))(vs us:Array Value)(w:World)
  (hn:P.length<=1048576) (hS:∀ i,i<P.length->(P.getD i []).length<=1048576) (hL:L.length+4*P.length+4<=1000000000000) (hs0:base<=s0) (hbase:base<=w.heap.size) (hlo:∀ b,hv.ownBlock=some b->b<s0)
  (hW:Wld w base wb hv L (FX (fun b _=>b<s0) wb hv)) (hA:ArgAt w s0 pb rb wl xb rg P vs us) :
  Calls Tryz.prog 22 #[.pointer (some ⟨wb,0,none⟩),.pointer (some ⟨pb,0,none⟩)] w fun e w'=>e = .returned (.tuple #[])/\∃ hv' L',L'.length=L.length+4+4*P.length/\Wld w' base wb hv' L' (FX (fun _ _=>True) wb hv')/\Kp (fun b=>b=wb\/hv.ownBlock=some b\/s0<=b) w w'/\Fresh w hv hv':=by
 refine (keepArg_gen base wb s0 w.heap.size pb rb wl xb (fun _=>False) rg hv L P vs us w hn hS hL hs0 hbase (fun b e=>.inl (hlo b e)) (Nat.le_refl _) hA.hand.pbk.lt (fun t ht=>(hA.hand.pts t ht).lt) (fun b e=>e.elim) (hW.weaken (fun b o u ⟨x,y⟩ _=>⟨⟨.inl x,fun e=>e⟩,y⟩)) hA).mono ?_
 rintro e w' ⟨rfl,hv',L',hl,hW',hk,hf⟩
 exact ⟨rfl,hv',L',hl,hW'.weaken (fun b o u ⟨_,y⟩ _=>⟨trivial,y⟩),hk.weaken (fun b hb e=>by
  rcases e with e | e | e
  ·exact .inl e
  ·exact .inr (.inl e)
  ·exact .inr (.inr e.1)),hf⟩
abbrev opV (kd n:Int)(A B:Value)(p q r s:Pt):Value:=.agg #[.int .i64 kd,.int .i64 n,A,B,.int .i64 p.x,.int .i64 p.y,.int .i64 p.d,.int .i64 q.x,.int .i64 q.y,.int .i64 q.d,.int .i64 r.x,.int .i64 r.y,.int .i64 r.d,.int .i64 s.x,.int .i64 s.y,.int .i64 s.d]
set_option maxHeartbeats 2000000 in
theorem met_any (kd n:Int)(A B:Value)(p q r s:Pt)(w:World) :
  Calls Tryz.prog 8 #[opV kd n A B p q r s] w fun e w'=>e = .returned (.bool true)/\Below w.heap.size w w':=by
 go_enter Tryz.func8,Tryz.ntmps8
 go_wp2_with fail
 refine (Meet_any p q r s _).mono ?_
 rintro e w1 ⟨rfl,k⟩
 have B1:=bvia ((Below.refl _ _).alloc (Nat.le_refl _) _) k
 obtain ⟨co1,fo1,zo1⟩:=(Blk.new w _ _).call k
 clear k
 go_wp2_with fail
 refine (rMeet_any p q r s _).mono ?_
 rintro e w2 ⟨rfl,k⟩
 have B2:=bvia (B1.alloc B1.size _) k
 obtain ⟨co2,fo2,zo2⟩:=((Blk.mk co1 fo1 zo1).alloc _).call k
 obtain ⟨cm2,fm2,zm2⟩:=(Blk.new w1 _ _).call k
 clear k co1 fo1 B1
 go_wp2
 all_goals (go_ret;exact ⟨rfl,B2.alloc B2.size _⟩)
set_option maxHeartbeats 1000000 in
theorem plays_meet (b:Nat)(n:Int)(A B:Value)(p q r s:Pt)(w:World) :
  Calls Tryz.prog 6 #[.pointer (some ⟨b,0,none⟩),opV 1 n A B p q r s] w fun e w'=>e = .returned (.bool true)/\Below w.heap.size w w':=by
 go_enter Tryz.func6,Tryz.ntmps6
 go_wp2_with fail
 refine (met_any 1 n A B p q r s _).mono ?_
 rintro e w1 ⟨rfl,k⟩
 have B1:=bvia ((Below.refl _ _).alloc (Nat.le_refl _) _) k
 obtain ⟨co1,fo1,zo1⟩:=(Blk.new w _ _).call k
 clear k
 go_wp2
 go_ret
 exact ⟨rfl,B1⟩
structure OpAt (w:World)(b o:Nat)(kd n:Int)(A B:Value)(p q r s:Pt):Prop where
 c0:w.cell? ⟨b,o,none⟩=some (.int .i64 kd)
 c1:w.cell? ⟨b,o+1,none⟩=some (.int .i64 n)
 c2:w.cell? ⟨b,o+2,none⟩=some (A)
 c3:w.cell? ⟨b,o+3,none⟩=some (B)
 c4:w.cell? ⟨b,o+4,none⟩=some (.int .i64 p.x)
 c5:w.cell? ⟨b,o+5,none⟩=some (.int .i64 p.y)
 c6:w.cell? ⟨b,o+6,none⟩=some (.int .i64 p.d)
 c7:w.cell? ⟨b,o+7,none⟩=some (.int .i64 q.x)
 c8:w.cell? ⟨b,o+8,none⟩=some (.int .i64 q.y)
 c9:w.cell? ⟨b,o+9,none⟩=some (.int .i64 q.d)
 c10:w.cell? ⟨b,o+10,none⟩=some (.int .i64 r.x)
 c11:w.cell? ⟨b,o+11,none⟩=some (.int .i64 r.y)
 c12:w.cell? ⟨b,o+12,none⟩=some (.int .i64 r.d)
 c13:w.cell? ⟨b,o+13,none⟩=some (.int .i64 s.x)
 c14:w.cell? ⟨b,o+14,none⟩=some (.int .i64 s.y)
 c15:w.cell? ⟨b,o+15,none⟩=some (.int .i64 s.d)
theorem OpAt.later {w w':World}{b o:Nat}{kd n:Int}{A B:Value}{p q r s:Pt}{m:Nat}(h:OpAt w b o kd n A B p q r s)(hb:Below m w w')(hl:b<m):OpAt w' b o kd n A B p q r s:=
 ⟨(hb.cell (p:=⟨b,o,none⟩) hl).trans h.c0,(hb.cell (p:=⟨b,o+1,none⟩) hl).trans h.c1,(hb.cell (p:=⟨b,o+2,none⟩) hl).trans h.c2,(hb.cell (p:=⟨b,o+3,none⟩) hl).trans h.c3,(hb.cell (p:=⟨b,o+4,none⟩) hl).trans h.c4,(hb.cell (p:=⟨b,o+5,none⟩) hl).trans h.c5,(hb.cell (p:=⟨b,o+6,none⟩) hl).trans h.c6,(hb.cell (p:=⟨b,o+7,none⟩) hl).trans h.c7,(hb.cell (p:=⟨b,o+8,none⟩) hl).trans h.c8,(hb.cell (p:=⟨b,o+9,none⟩) hl).trans h.c9,(hb.cell (p:=⟨b,o+10,none⟩) hl).trans h.c10,(hb.cell (p:=⟨b,o+11,none⟩) hl).trans h.c11,(hb.cell (p:=⟨b,o+12,none⟩) hl).trans h.c12,(hb.cell (p:=⟨b,o+13,none⟩) hl).trans h.c13,(hb.cell (p:=⟨b,o+14,none⟩) hl).trans h.c14,(hb.cell (p:=⟨b,o+15,none⟩) hl).trans h.c15⟩
theorem Wld.call {w w':World}{base wb:Nat}{hv:Value}{L:List Nat}{G:Nat->Nat->Prop}(h:Wld w base wb hv L (FX G wb hv))(k:Below w.heap.size w w'):Wld w' base wb hv L (FX (fun b _=>b<w.heap.size) wb hv):=
 h.kp (X:=fun _=>False) (Kp.of k) (fun e=>e) (fun _ _ e=>e) (fun b o u ⟨_,y⟩ hc=>
  have hlt:b<w.heap.size:=World.block_lt_of_cell? w ⟨b,o,none⟩ hc
  ⟨(k.cell (p:=⟨b,o,none⟩) hlt).trans hc,hlt,y⟩)
set_option maxRecDepth 100000 in
set_option maxHeartbeats 4000000 in
theorem checked_any (base wb:Nat)(hv:Value)(L:List Nat)(kd n:Int)(A B:Value)(p q r s:Pt)(P:List (List Pt))(w:World)
  (hn:P.length<=1048576) (hS:∀ i,i<P.length->(P.getD i []).length<=1048576) (hL:L.length+4*P.length+4<=1000000000000) (hbase:base<=w.heap.size)
  (hP:PolyAt w A P) (hW:Wld w base wb hv L (FX (fun _ _=>True) wb hv)) :
  Calls Tryz.prog 9 #[.pointer (some ⟨wb,0,none⟩),opV kd n A B p q r s] w fun e w'=>e = .returned (.bool true)/\∃ hv' L',L'.length=L.length+4+4*P.length/\Wld w' base wb hv' L' (FX (fun _ _=>True) wb hv')/\Kp (fun b=>b=wb\/hv.ownBlock=some b) w w':=by
 have HP0:=hide hP
 have HW:=hide hW
 have hlo:∀ b,hv.ownBlock=some b->b<w.heap.size:=fun b e=>(hW.own.lt b e).2
 have HLO:=hide hlo
 have HS:=hide hS
 clear hP hW hlo hS
 obtain ⟨W0,hW0⟩:∃ W,W=w.alloc (.cells #[.int .i64 kd,.int .i64 n,A,B,.int .i64 p.x,.int .i64 p.y,.int .i64 p.d,.int .i64 q.x,.int .i64 q.y,.int .i64 q.d,.int .i64 r.x,.int .i64 r.y,.int .i64 r.d,.int .i64 s.x,.int .i64 s.y,.int .i64 s.d] 33):=⟨_,rfl⟩
 have B0:Hid (Below w.heap.size w W0):=by rw [hW0];exact (Below.refl _ _).alloc (Nat.le_refl _) _
 have O0:W0.cell? ⟨w.heap.size,2,none⟩=some A:=by rw [hW0];exact (Blk.new w _ _).cell 2
 have z0:W0.heap.size=w.heap.size+1:=by rw [hW0];simp
 have P0:Hid (PolyAt W0 A P):=HP0.out.later B0.out
 go_enter Tryz.func9,Tryz.ntmps9
 go_wp2_with fail
 rw [<-hW0]
 clear hW0
 refine (handed_any A P W0 P0.out hn HS.out).mono ?_
 rintro e w1 ⟨pb,rb,wl,xb,rg,vs,us,rfl,hA,k1⟩
 have c1:=(k1.cell (p:=⟨w.heap.size,2,none⟩) (by simp;omega)).trans O0
 have p0:=hA.hand.pbk.cell 0
 have p1:=hA.hand.pbk.cell 1
 simp at p0 p1
 have HA:=hide hA
 have K1:=hide k1
 clear hA k1 O0
 go_wp2_with fail
 refine (it_any pb rb wl P.length _ p0 p1).mono ?_
 rintro e w2 ⟨rfl,m2,rfl⟩
 have k2:Hid (Below w1.heap.size w1 (w1.drewN m2)):=below_drewN (Below.refl _ _) _
 have A2:Hid (ArgAt (w1.drewN m2) W0.heap.size pb rb wl xb rg P vs us):=HA.out.later k2.out
 go_wp2_with fail
 refine (Check_any _ P _ (A2.out.poly hn HS.out)).mono ?_
 rintro e w3 ⟨rfl,k3⟩
 have A3:Hid (ArgAt w3 W0.heap.size pb rb wl xb rg P vs us):=A2.out.later k3
 have K3:Hid (Below W0.heap.size W0 w3):=bvia (bvia K1.out k2.out) k3
 have P3:Hid (PolyAt w3 A P):=P0.out.later K3.out
 have c3:=(k3.cell (p:=⟨w.heap.size,2,none⟩) (by have:=K1.out.size;simp;omega)).trans c1
 clear p0 p1 c1 k3 k2 A2 HA K1
 go_wp2_with fail
 refine (rCheck_any A P _ P3.out HS.out).mono ?_
 rintro e w4 ⟨rfl,k4⟩
 have z3:=K3.out.size
 have A4:Hid (ArgAt w4 W0.heap.size pb rb wl xb rg P vs us):=A3.out.later k4
 have K4:Hid (Below W0.heap.size W0 w4):=bvia K3.out k4
 have P4:Hid (PolyAt w4 A P):=P3.out.later k4
 have c4:=(k4.cell (p:=⟨w.heap.size,2,none⟩) (by simp;omega)).trans c3
 clear c3 k4 A3 K3 P3
 go_wp2_with fail
 refine (still_any A P _ P4.out A4.out hn HS.out).mono ?_
 rintro e w5 ⟨rfl,k5⟩
 have z4:=K4.out.size
 have A5:Hid (ArgAt w5 W0.heap.size pb rb wl xb rg P vs us):=A4.out.later k5
 have K5:Hid (Below W0.heap.size W0 w5):=bvia K4.out k5
 have B5:Hid (Below w.heap.size w w5):=bvia B0.out K5.out
 have V5:Hid (Wld w5 base wb hv L (FX (fun b _=>b<W0.heap.size) wb hv)):=(HW.out.call B5.out).weaken (fun b o u ⟨x,y⟩ _=>⟨by omega,y⟩)
 have z5:=B5.out.size
 clear c4 k5 A4 K4 P4
 go_wp2_with fail
 refine (keepArg_any base wb W0.heap.size pb rb wl xb rg hv L P vs us w5 hn HS.out hL (by omega) (by omega) (fun b e=>by have:=HLO.out b e;omega) V5.out A5.out).mono ?_
 rintro e w6 ⟨rfl,hv',L',hl,hW',hk,_⟩
 have HW':=hide hW'
 have HK':Hid (Kp (fun b=>b=wb\/hv.ownBlock=some b) w w6):=⟨hk.os.trans B5.out.os,hk.tape.trans B5.out.tape,hk.output.trans B5.out.output,Nat.le_trans z5 hk.size,fun b hb hnx=>(hk.block b (by omega) (fun e=>by
  rcases e with e | e | e
  ·exact hnx (.inl e)
  ·exact hnx (.inr e)
  ·omega)).trans (B5.out.block b hb)⟩
 clear hW' hk
 go_wp2
 go_ret
 exact ⟨rfl,hv',L',hl,HW'.out,HK'.out⟩
set_option maxHeartbeats 1000000 in
theorem plays_check (base wb:Nat)(hv:Value)(L:List Nat)(n:Int)(A B:Value)(p q r s:Pt)(P:List (List Pt))(w:World)
  (hn:P.length<=1048576) (hS:∀ i,i<P.length->(P.getD i []).length<=1048576) (hL:L.length+4*P.length+4<=1000000000000) (hbase:base<=w.heap.size)
  (hP:PolyAt w A P) (hW:Wld w base wb hv L (FX (fun _ _=>True) wb hv)) :
  Calls Tryz.prog 6 #[.pointer (some ⟨wb,0,none⟩),opV 2 n A B p q r s] w fun e w'=>e = .returned (.bool true)/\∃ hv' L',L'.length=L.length+4+4*P.length/\Wld w' base wb hv' L' (FX (fun _ _=>True) wb hv')/\Kp (fun b=>b=wb\/hv.ownBlock=some b) w w':=by
 have B0:Hid (Below w.heap.size w (w.alloc (.cells #[.int .i64 2,.int .i64 n,A,B,.int .i64 p.x,.int .i64 p.y,.int .i64 p.d,.int .i64 q.x,.int .i64 q.y,.int .i64 q.d,.int .i64 r.x,.int .i64 r.y,.int .i64 r.d,.int .i64 s.x,.int .i64 s.y,.int .i64 s.d] 33))):=(Below.refl _ _).alloc (Nat.le_refl _) _
 have H:=hide (checked_any base wb hv L 2 n A B p q r s P _ hn hS hL (by have:=B0.out.size;omega) (hP.later B0.out) ((hW.call B0.out).weaken (F':=FX (fun _ _=>True) wb hv) (fun b o u ⟨_,y⟩ _=>⟨trivial,y⟩)))
 clear hP hW hS
 go_enter Tryz.func6,Tryz.ntmps6
 go_wp2_with fail
 refine H.out.mono ?_
 rintro e w1 ⟨rfl,hv',L',hl,hW',hk⟩
 have HW':=hide hW'
 have HK':Hid (Kp (fun b=>b=wb\/hv.ownBlock=some b) w w1):=(Kp.of B0.out).trans hk
 clear hW' hk H B0
 go_wp2
 go_ret
 exact ⟨rfl,hv',L',hl,HW'.out,HK'.out⟩
end Go.Proofs.YtnkcbephceollabGreat
