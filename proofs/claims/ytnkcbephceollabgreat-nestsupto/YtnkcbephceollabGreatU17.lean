import Derived.Test.YtnkcbephceollabGreatRows
import Derived.Deep.Slices
import Derived.ChangeArms
import Derived.Test.YtnkcbephceollabGreatU16
namespace Go.Proofs.YtnkcbephceollabGreat
open Go.RowKit Go.ChangeShapes Go.WideShapes
set_option linter.unusedSimpArgs false
set_option linter.unusedVariables false
theorem cellsInt:Tryz.prog.cellsOf 3=1:=by kernel_rfl
theorem cellsPoint:Tryz.prog.cellsOf 31=3:=by kernel_rfl
theorem cellsRings:Tryz.prog.cellsOf 29=1:=by kernel_rfl
theorem list3 {α:Type}{l:List α}(h:l.length=3):∃ a b c,l=[a,b,c]:=by
 match l,h with
 | [a,b,c],_=>exact ⟨a,b,c,rfl⟩
theorem some_at {α:Type}{xs:List α}{n i:Nat}(h:xs.length=n)(hi:i<n):∃ x,xs[i]?=some x:=⟨_,List.getElem?_eq_getElem (by omega)⟩
theorem bulk_pos {H:Type}(d:DataW H):1<=Rows.uptoBulk d:=by
 cases d with
 | lit l=>cases l <;> simp only [Rows.uptoBulk] <;> omega
 | nil=>simp only [Rows.uptoBulk];omega
 | ptr d=>simp only [Rows.uptoBulk];omega
 | slice a b=>simp only [Rows.uptoBulk];omega
 | agg a=>simp only [Rows.uptoBulk];omega
 | iface t d=>simp only [Rows.uptoBulk];omega
 | map a=>simp only [Rows.uptoBulk];omega
 | held a=>simp only [Rows.uptoBulk];omega
theorem bulk_mem {H:Type}{d:DataW H}:∀ {l:List (DataW H)},d∈l->Rows.uptoBulk d<=Rows.uptoBulkAll l
 | x::r,h=>by
  simp only [Rows.uptoBulkAll]
  rcases List.mem_cons.1 h with e | e
  ·subst e;omega
  ·have:=bulk_mem e;omega
theorem bulk_app {H:Type}:∀ (l r:List (DataW H)),Rows.uptoBulkAll (l ++ r)=Rows.uptoBulkAll l+Rows.uptoBulkAll r
 | [],r=>by simp only [List.nil_append,Rows.uptoBulkAll];omega
 | x::l,r=>by simp only [List.cons_append,Rows.uptoBulkAll,bulk_app l r];omega
theorem bulk_len {H:Type}:∀ (l:List (DataW H)),l.length<=Rows.uptoBulkAll l
 | []=>by simp
 | x::r=>by have:=bulk_pos x;have:=bulk_len r;simp only [Rows.uptoBulkAll,List.length_cons];omega
section
variable {H:Type}{enc:TypeId×Value->H}{w:World}{base:Nat}{spare:Nat->Bool}{held:Bool}
set_option maxRecDepth 100000 in
theorem point_of {fuel:Nat}{cs:List Value}{x:DataW H×List MemPlace}(h:DataW.trod enc Tryz.prog w base spare held fuel 31 cs=some x) :
  ∃ p:Pt,cs=[.int .i64 p.x,.int .i64 p.y,.int .i64 p.d]/\((Lit.int .i64 p.x).wf=true/\(Lit.int .i64 p.y).wf=true/\(Lit.int .i64 p.d).wf=true):=by
 obtain ⟨xs,n,_,_,hl,hxs,hf⟩:=DataW.trod_struct Tryz.underlying31 h
 rw [cellsPoint] at hl
 obtain ⟨v0,v1,v2,rfl⟩:=list3 hl
 ·skip
  obtain ⟨x0,e0⟩:=some_at (i:=0) hxs (by decide)
  obtain ⟨x1,e1⟩:=some_at (i:=1) hxs (by decide)
  obtain ⟨x2,e2⟩:=some_at (i:=2) hxs (by decide)
  have f0:DataW.trod enc Tryz.prog w base spare held n 3 [v0]=some x0:=by
   have e:List.take (Tryz.prog.cellsOf 3) (List.drop 0 [v0,v1,v2])=[v0]:=by rw [cellsInt];rfl
   exact (congrArg (DataW.trod enc Tryz.prog w base spare held n 3) e).symm.trans ((hf 0 _ rfl).trans e0)
  have f1:DataW.trod enc Tryz.prog w base spare held n 3 [v1]=some x1:=by
   have e:List.take (Tryz.prog.cellsOf 3) (List.drop 1 [v0,v1,v2])=[v1]:=by rw [cellsInt];rfl
   exact (congrArg (DataW.trod enc Tryz.prog w base spare held n 3) e).symm.trans ((hf 1 _ rfl).trans e1)
  have f2:DataW.trod enc Tryz.prog w base spare held n 3 [v2]=some x2:=by
   have e:List.take (Tryz.prog.cellsOf 3) (List.drop 2 [v0,v1,v2])=[v2]:=by rw [cellsInt];rfl
   exact (congrArg (DataW.trod enc Tryz.prog w base spare held n 3) e).symm.trans ((hf 2 _ rfl).trans e2)
  obtain ⟨a,ha,_,wa⟩:=DataW.trod_int Tryz.underlying3 f0
  obtain ⟨b,hb,_,wb⟩:=DataW.trod_int Tryz.underlying3 f1
  obtain ⟨c,hc,_,wc⟩:=DataW.trod_int Tryz.underlying3 f2
  simp at ha hb hc
  subst ha hb hc
  exact ⟨⟨a,b,c⟩,rfl,wa,wb,wc⟩
theorem cell_off {a:Addr}{b off:Nat}(ha:a=⟨b,off,none⟩)(i j:Nat):(a.add i).add j=⟨b,off+i+j,none⟩:=by
 subst ha
 unfold Addr.add
 by_cases h1:i=0
 ·by_cases h2:j=0 <;> simp [h1,h2]
 ·by_cases h2:j=0 <;> simp [h1,h2]
theorem cellsSlice:Tryz.prog.cellsOf 57=1:=by kernel_rfl
theorem getD_range {α:Type}(f:Nat->α)(d:α)(n j:Nat)(hj:j<n):((List.range n).map f).getD j d=f j:=by
 simp [List.getD_eq_getElem?_getD,hj]
theorem spot_of {a:Addr}{v:Value}(h:w.cell? a=some v):∃ b off,a=⟨b,off,none⟩:=by
 have h6:=World.cell?_spot h
 obtain ⟨b,off,sp⟩:=a
 simp at h6
 subst h6
 exact ⟨b,off,rfl⟩
theorem add_spot (b off i:Nat):(⟨b,off,none⟩:Addr).add i=⟨b,off+i,none⟩:=by
 unfold Addr.add
 by_cases h:i=0 <;> simp [h]
theorem add_zero (a:Addr):a.add 0=a:=by simp [Addr.add]
set_option maxRecDepth 100000 in
theorem ring_of {fuel:Nat}{v:Value}{x:DataW H×List MemPlace}(h:DataW.trod enc Tryz.prog w base spare held fuel 57 [v]=some x) :
  ∃ r:List Pt,RingAt w v r/\r.length+1<=Rows.uptoBulk x.1:=by
 rcases Deep.open_slice Tryz.underlying57 h with ⟨hcs,hx⟩ | ⟨a,len,cap,m,n,D,Pl,hcs,hb,hl,hm,hmm,hx,hel⟩
 ·simp at hcs
  subst hcs
  exact ⟨[],⟨none,0,rfl,Nat.le_refl _,Nat.zero_le _,fun j hj=>absurd hj (Nat.not_lt_zero _)⟩,by rw [hx];exact bulk_pos _⟩
 ·simp at hcs
  subst hcs
  have hml:len<=m:=by rw [hmm];split <;> omega
  have hspot:0<len->∃ b off,a=⟨b,off,none⟩:=fun h0=>by
   obtain ⟨cs',h1,h2⟩:=hel 0 (by omega)
   obtain ⟨_,_,h4⟩:=World.cells?_some h1
   rw [cellsPoint] at h4
   obtain ⟨p,rfl,_⟩:=point_of h2
   have h5:=h4 0 (by decide)
   rw [Nat.zero_mul,add_zero,add_zero] at h5
   exact spot_of h5
  have hp:∀ i,∃ p:Pt,i<len->∃ b off,a=⟨b,off,none⟩/\b<w.heap.size/\PtAt w b (off+i*3) p:=by
   intro i
   by_cases hi:i<len
   ·obtain ⟨cs',h1,h2⟩:=hel i (by omega)
    obtain ⟨_,_,h4⟩:=World.cells?_some h1
    rw [cellsPoint] at h4
    obtain ⟨p,rfl,_⟩:=point_of h2
    obtain ⟨b,off,rfl⟩:=hspot (by omega)
    have hc:=fun j hj=>(congrArg w.cell? (cell_off (a:=⟨b,off,none⟩) rfl (i*3) j)).symm.trans (h4 j hj)
    refine ⟨p,fun _=>⟨b,off,rfl,World.block_lt_of_cell? w ⟨b,off+i*3,none⟩ (hc 0 (by decide)),hc 0 (by decide),hc 1 (by decide),hc 2 (by decide)⟩⟩
   ·exact ⟨zP,fun h=>absurd h hi⟩
  obtain ⟨f,hf⟩:=Classical.axiomOfChoice hp
  refine ⟨(List.range len).map f,⟨some a,cap,by simp,by simpa using hl,hm,fun j hj=>?_⟩,?_⟩
  ·have hj':j<len:=by simpa using hj
   obtain ⟨b,off,rfl,h1,h2⟩:=hf j hj'
   rw [getD_range _ _ _ _ hj']
   exact ⟨b,off,rfl,h1,h2⟩
  ·rw [hx]
   simp only [Rows.uptoBulk,List.length_map,List.length_range]
   have:=bulk_len ((List.range len).map D)
   simp at this
   omega
set_option maxRecDepth 100000 in
theorem poly_of {fuel:Nat}{v:Value}{x:DataW H×List MemPlace}(h:DataW.trod enc Tryz.prog w base spare held fuel 29 [v]=some x) :
  ∃ P:List (List Pt),PolyAt w v P/\P.length+1<=Rows.uptoBulk x.1/\∀ i,i<P.length->(P.getD i []).length+1<=Rows.uptoBulk x.1:=by
 rcases Deep.open_slice1 Tryz.underlying29 cellsSlice h with ⟨hcs,hx⟩ | ⟨a,len,cap,m,n,V,D,Pl,hcs,hb,hl,hm,hmm,hx,hel⟩
 ·simp at hcs
  subst hcs
  exact ⟨[],⟨none,0,rfl,Nat.le_refl _,Nat.zero_le _,fun j hj=>absurd hj (Nat.not_lt_zero _)⟩,by rw [hx];exact bulk_pos _,fun i hi=>absurd hi (Nat.not_lt_zero _)⟩
 ·simp at hcs
  subst hcs
  have hml:len<=m:=by rw [hmm];split <;> omega
  have hp:∀ i,∃ r:List Pt,i<len->RingAt w (V i) r/\r.length+1<=Rows.uptoBulk (D i):=by
   intro i
   by_cases hi:i<len
   ·obtain ⟨r,h1,h2⟩:=ring_of (hel i (by omega)).2
    exact ⟨r,fun _=>⟨h1,h2⟩⟩
   ·exact ⟨[],fun h=>absurd h hi⟩
  obtain ⟨f,hf⟩:=Classical.axiomOfChoice hp
  have hbulk:Rows.uptoBulk x.1=Rows.uptoBulkAll ((List.range len).map D)+Rows.uptoBulkAll ((List.range (m-len)).map fun j=>D (len+j))+1:=by
   rw [hx];simp only [Rows.uptoBulk]
  refine ⟨(List.range len).map f,⟨some a,cap,by simp,by simpa using hl,hm,fun j hj=>?_⟩,?_,fun i hi=>?_⟩
  ·have hj':j<len:=by simpa using hj
   obtain ⟨hc,_⟩:=hel j (by omega)
   obtain ⟨h0,_⟩:=hel 0 (by omega)
   rw [add_zero] at h0
   obtain ⟨b,off,rfl⟩:=spot_of h0
   rw [add_spot] at hc
   rw [getD_range _ _ _ _ hj']
   exact ⟨b,off,V j,rfl,World.block_lt_of_cell? w ⟨b,off+j,none⟩ hc,hc,(hf j hj').1⟩
  ·rw [hbulk]
   have:=bulk_len ((List.range len).map D)
   simp at this
   simp;omega
  ·have hi':i<len:=by simpa using hi
   rw [getD_range _ _ _ _ hi',hbulk]
   have h1:=(hf i hi').2
   have h2:=bulk_mem (d:=D i) (l:=(List.range len).map D) (List.mem_map.2 ⟨i,List.mem_range.2 hi',rfl⟩)
   omega
end
theorem cellsOp:Tryz.prog.cellsOf 33=16:=by kernel_rfl
theorem list16 {α:Type}{l:List α}(h:l.length=16):∃ v0 v1 v2 v3 v4 v5 v6 v7 v8 v9 v10 v11 v12 v13 v14 v15,l=[v0,v1,v2,v3,v4,v5,v6,v7,v8,v9,v10,v11,v12,v13,v14,v15]:=by
 match l,h with
 | [v0,v1,v2,v3,v4,v5,v6,v7,v8,v9,v10,v11,v12,v13,v14,v15],_=>exact ⟨v0,v1,v2,v3,v4,v5,v6,v7,v8,v9,v10,v11,v12,v13,v14,v15,rfl⟩
section
variable {H:Type}{enc:TypeId×Value->H}{w:World}{base:Nat}{spare:Nat->Bool}{held:Bool}
set_option maxRecDepth 100000 in
theorem op_of {fuel:Nat}{cs:List Value}{x:DataW H×List MemPlace}(h:DataW.trod enc Tryz.prog w base spare held fuel 33 cs=some x) :
  ∃ (kd n:Int) (A B:Value) (p q r s:Pt),cs=[.int .i64 kd,.int .i64 n,A,B,.int .i64 p.x,.int .i64 p.y,.int .i64 p.d,.int .i64 q.x,.int .i64 q.y,.int .i64 q.d,.int .i64 r.x,.int .i64 r.y,.int .i64 r.d,.int .i64 s.x,.int .i64 s.y,.int .i64 s.d]
   /\∃ parts,x.1 = .agg parts/\(∃ f y,DataW.trod enc Tryz.prog w base spare held f 29 [A]=some y/\y.1∈parts)/\(∃ f y,DataW.trod enc Tryz.prog w base spare held f 29 [B]=some y/\y.1∈parts):=by
 obtain ⟨xs,n,_,hx,hl,hxs,hf⟩:=DataW.trod_struct Tryz.underlying33 h
 rw [cellsOp] at hl
 obtain ⟨v0,v1,v2,v3,v4,v5,v6,v7,v8,v9,v10,v11,v12,v13,v14,v15,rfl⟩:=list16 hl
 ·skip
  obtain ⟨x0,e0⟩:=some_at (i:=0) hxs (by decide)
  obtain ⟨x1,e1⟩:=some_at (i:=1) hxs (by decide)
  obtain ⟨x2,e2⟩:=some_at (i:=2) hxs (by decide)
  obtain ⟨x3,e3⟩:=some_at (i:=3) hxs (by decide)
  obtain ⟨x4,e4⟩:=some_at (i:=4) hxs (by decide)
  obtain ⟨x5,e5⟩:=some_at (i:=5) hxs (by decide)
  obtain ⟨x6,e6⟩:=some_at (i:=6) hxs (by decide)
  obtain ⟨x7,e7⟩:=some_at (i:=7) hxs (by decide)
  have f0:DataW.trod enc Tryz.prog w base spare held n 3 [v0]=some x0:=by
   have e:List.take (Tryz.prog.cellsOf 3) (List.drop 0 [v0,v1,v2,v3,v4,v5,v6,v7,v8,v9,v10,v11,v12,v13,v14,v15])=[v0]:=by rw [cellsInt];rfl
   exact (congrArg (DataW.trod enc Tryz.prog w base spare held n 3) e).symm.trans ((hf 0 _ rfl).trans e0)
  have f1:DataW.trod enc Tryz.prog w base spare held n 3 [v1]=some x1:=by
   have e:List.take (Tryz.prog.cellsOf 3) (List.drop 1 [v0,v1,v2,v3,v4,v5,v6,v7,v8,v9,v10,v11,v12,v13,v14,v15])=[v1]:=by rw [cellsInt];rfl
   exact (congrArg (DataW.trod enc Tryz.prog w base spare held n 3) e).symm.trans ((hf 1 _ rfl).trans e1)
  have f2:DataW.trod enc Tryz.prog w base spare held n 29 [v2]=some x2:=by
   have e:List.take (Tryz.prog.cellsOf 29) (List.drop 2 [v0,v1,v2,v3,v4,v5,v6,v7,v8,v9,v10,v11,v12,v13,v14,v15])=[v2]:=by rw [cellsRings];rfl
   exact (congrArg (DataW.trod enc Tryz.prog w base spare held n 29) e).symm.trans ((hf 2 _ rfl).trans e2)
  have f3:DataW.trod enc Tryz.prog w base spare held n 29 [v3]=some x3:=by
   have e:List.take (Tryz.prog.cellsOf 29) (List.drop 3 [v0,v1,v2,v3,v4,v5,v6,v7,v8,v9,v10,v11,v12,v13,v14,v15])=[v3]:=by rw [cellsRings];rfl
   exact (congrArg (DataW.trod enc Tryz.prog w base spare held n 29) e).symm.trans ((hf 3 _ rfl).trans e3)
  have f4:DataW.trod enc Tryz.prog w base spare held n 31 [v4,v5,v6]=some x4:=by
   have e:List.take (Tryz.prog.cellsOf 31) (List.drop 4 [v0,v1,v2,v3,v4,v5,v6,v7,v8,v9,v10,v11,v12,v13,v14,v15])=[v4,v5,v6]:=by rw [cellsPoint];rfl
   exact (congrArg (DataW.trod enc Tryz.prog w base spare held n 31) e).symm.trans ((hf 4 _ rfl).trans e4)
  have f5:DataW.trod enc Tryz.prog w base spare held n 31 [v7,v8,v9]=some x5:=by
   have e:List.take (Tryz.prog.cellsOf 31) (List.drop 7 [v0,v1,v2,v3,v4,v5,v6,v7,v8,v9,v10,v11,v12,v13,v14,v15])=[v7,v8,v9]:=by rw [cellsPoint];rfl
   exact (congrArg (DataW.trod enc Tryz.prog w base spare held n 31) e).symm.trans ((hf 5 _ rfl).trans e5)
  have f6:DataW.trod enc Tryz.prog w base spare held n 31 [v10,v11,v12]=some x6:=by
   have e:List.take (Tryz.prog.cellsOf 31) (List.drop 10 [v0,v1,v2,v3,v4,v5,v6,v7,v8,v9,v10,v11,v12,v13,v14,v15])=[v10,v11,v12]:=by rw [cellsPoint];rfl
   exact (congrArg (DataW.trod enc Tryz.prog w base spare held n 31) e).symm.trans ((hf 6 _ rfl).trans e6)
  have f7:DataW.trod enc Tryz.prog w base spare held n 31 [v13,v14,v15]=some x7:=by
   have e:List.take (Tryz.prog.cellsOf 31) (List.drop 13 [v0,v1,v2,v3,v4,v5,v6,v7,v8,v9,v10,v11,v12,v13,v14,v15])=[v13,v14,v15]:=by rw [cellsPoint];rfl
   exact (congrArg (DataW.trod enc Tryz.prog w base spare held n 31) e).symm.trans ((hf 7 _ rfl).trans e7)
  obtain ⟨kd,h0,_,_⟩:=DataW.trod_int Tryz.underlying3 f0
  obtain ⟨m,h1,_,_⟩:=DataW.trod_int Tryz.underlying3 f1
  obtain ⟨p,h4,_⟩:=point_of f4
  obtain ⟨q,h5,_⟩:=point_of f5
  obtain ⟨r,h6,_⟩:=point_of f6
  obtain ⟨s,h7,_⟩:=point_of f7
  simp at h0 h1 h4 h5 h6 h7
  obtain ⟨rfl,rfl,rfl⟩:=h4
  obtain ⟨rfl,rfl,rfl⟩:=h5
  obtain ⟨rfl,rfl,rfl⟩:=h6
  obtain ⟨rfl,rfl,rfl⟩:=h7
  subst h0 h1
  exact ⟨kd,m,v2,v3,p,q,r,s,rfl,xs.map (·.1),by rw [hx],⟨_,_,f2,List.mem_map.2 ⟨x2,List.mem_of_getElem? e2,rfl⟩⟩,⟨_,_,f3,List.mem_map.2 ⟨x3,List.mem_of_getElem? e3,rfl⟩⟩⟩
end
def sumTo (N:Nat->List (List Pt)):Nat->Nat
 | 0=>0
 | k+1=>sumTo N k+(1+(N k).length)
theorem sumTo_mono (N:Nat->List (List Pt)){j k:Nat}(h:j<=k):sumTo N j<=sumTo N k:=by
 induction k with
 | zero=>
      have:j=0:=by omega
      subst this;exact Nat.le_refl _
 | succ k ih=>
  by_cases e:j=k+1
  ·subst e;exact Nat.le_refl _
  ·have:=ih (by omega)
   simp only [sumTo];omega
section
variable {H:Type}{enc:TypeId×Value->H}{w:World}{base:Nat}{spare:Nat->Bool}{held:Bool}
def PolysAt (w:World)(a:Option Addr)(len:Nat)(N M:Nat->List (List Pt)):Prop:=
 ∀ k,k<len->∃ (b off:Nat) (kd n:Int) (A B:Value) (p q r s:Pt),a=some ⟨b,off,none⟩/\b<w.heap.size/\OpAt w b (off+k*16) kd n A B p q r s/\PolyAt w A (N k)/\PolyAt w B (M k)
def Short (N:List (List Pt)):Prop:=∀ i,i<N.length->(N.getD i []).length<=1048576
set_option maxRecDepth 100000 in
theorem polys_of {fuel:Nat}{a0:Option Addr}{len0 cap0:Nat}{x:DataW H×List MemPlace}(h:DataW.trod enc Tryz.prog w base spare held fuel 22 [.slice a0 len0 cap0]=some x)(hs:Rows.uptoBulk x.1<=1048576) :
  len0<=9223372036854775807/\∃ N M,PolysAt w a0 len0 N M/\sumTo N len0<=1048576/\sumTo M len0<=1048576/\∀ k,k<len0->Short (N k)/\Short (M k):=by
 rcases Deep.open_slice Tryz.underlying22 h with ⟨hcs,_⟩ | ⟨a,len,cap,m,n,D,Pl,hcs,hb,hl,hm,hmm,hx,hel⟩
 ·simp at hcs
  obtain ⟨_,rfl,_⟩:=hcs
  exact ⟨by omega,fun _=>[],fun _=>[],fun k hk=>absurd hk (Nat.not_lt_zero _),by simp [sumTo],by simp [sumTo],fun k hk=>absurd hk (Nat.not_lt_zero _)⟩
 ·simp at hcs
  obtain ⟨rfl,rfl,rfl⟩:=hcs
  have hml:len0<=m:=by rw [hmm];split <;> omega
  have hbulk:Rows.uptoBulk x.1=Rows.uptoBulkAll ((List.range len0).map D)+Rows.uptoBulkAll ((List.range (m-len0)).map fun j=>D (len0+j))+1:=by
   rw [hx];simp only [Rows.uptoBulk]
  have hone:∀ k,k<len0->Rows.uptoBulk (D k)<=1048576:=fun k hk=>by
   have h2:=bulk_mem (d:=D k) (l:=(List.range len0).map D) (List.mem_map.2 ⟨k,List.mem_range.2 hk,rfl⟩)
   omega
  have hspot:0<len0->∃ b off,a=⟨b,off,none⟩:=fun h0=>by
   obtain ⟨cs',h1,h2⟩:=hel 0 (by omega)
   obtain ⟨_,_,h4⟩:=World.cells?_some h1
   rw [cellsOp] at h4
   obtain ⟨_,_,_,_,_,_,_,_,rfl,_⟩:=op_of h2
   have h5:=h4 0 (by decide)
   rw [Nat.zero_mul,add_zero,add_zero] at h5
   exact spot_of h5
  have hp:∀ k,∃ NM:List (List Pt)×List (List Pt),k<len0->(∃ (b off:Nat) (kd n:Int) (A B:Value) (p q r s:Pt),some a=some ⟨b,off,none⟩/\b<w.heap.size/\OpAt w b (off+k*16) kd n A B p q r s/\PolyAt w A NM.1/\PolyAt w B NM.2)/\
    1+NM.1.length<=Rows.uptoBulk (D k)/\1+NM.2.length<=Rows.uptoBulk (D k)/\(∀ i,i<NM.1.length->(NM.1.getD i []).length<=Rows.uptoBulk (D k))/\(∀ i,i<NM.2.length->(NM.2.getD i []).length<=Rows.uptoBulk (D k)):=by
   intro k
   by_cases hk:k<len0
   ·obtain ⟨cs',h1,h2⟩:=hel k (by omega)
    obtain ⟨_,_,h4⟩:=World.cells?_some h1
    rw [cellsOp] at h4
    obtain ⟨kd,n',A,B,p,q,r,s,rfl,parts,hparts,⟨fA,yA,tA,mA⟩,⟨fB,yB,tB,mB⟩⟩:=op_of h2
    have hparts':D k = .agg parts:=hparts
    obtain ⟨b,off,rfl⟩:=hspot (by omega)
    have hc:=fun j hj=>(congrArg w.cell? (cell_off (a:=⟨b,off,none⟩) rfl (k*16) j)).symm.trans (h4 j hj)
    obtain ⟨PA,pA,lA,rA⟩:=poly_of tA
    obtain ⟨PB,pB,lB,rB⟩:=poly_of tB
    have bA:=bulk_mem mA
    have bB:=bulk_mem mB
    have hD:Rows.uptoBulk (D k)=Rows.uptoBulkAll parts+1:=by rw [hparts'];simp only [Rows.uptoBulk]
    refine ⟨(PA,PB),fun _=>⟨⟨b,off,kd,n',A,B,p,q,r,s,rfl,World.block_lt_of_cell? w ⟨b,off+k*16,none⟩ (hc 0 (by decide)),?_,pA,pB⟩,by simp only;omega,by simp only;omega,fun i hi=>by have:=rA i hi;simp only;omega,fun i hi=>by have:=rB i hi;simp only;omega⟩⟩
    exact ⟨hc 0 (by decide),hc 1 (by decide),hc 2 (by decide),hc 3 (by decide),hc 4 (by decide),hc 5 (by decide),hc 6 (by decide),hc 7 (by decide),hc 8 (by decide),hc 9 (by decide),hc 10 (by decide),hc 11 (by decide),hc 12 (by decide),hc 13 (by decide),hc 14 (by decide),hc 15 (by decide)⟩
   ·exact ⟨([],[]),fun h=>absurd h hk⟩
  obtain ⟨f,hf⟩:=Classical.axiomOfChoice hp
  have sumN:∀ k,k<=len0->sumTo (fun j=>(f j).1) k<=Rows.uptoBulkAll ((List.range k).map D):=by
   intro k
   induction k with
   | zero=>intro _;simp [sumTo]
   | succ k ih=>
    intro hk
    have h1:=ih (by omega)
    have h2:=(hf k (by omega)).2.1
    rw [List.range_succ,List.map_append,bulk_app]
    simp only [sumTo,List.map_cons,List.map_nil,Rows.uptoBulkAll]
    omega
  have sumM:∀ k,k<=len0->sumTo (fun j=>(f j).2) k<=Rows.uptoBulkAll ((List.range k).map D):=by
   intro k
   induction k with
   | zero=>intro _;simp [sumTo]
   | succ k ih=>
    intro hk
    have h1:=ih (by omega)
    have h2:=(hf k (by omega)).2.2.1
    rw [List.range_succ,List.map_append,bulk_app]
    simp only [sumTo,List.map_cons,List.map_nil,Rows.uptoBulkAll]
    omega
  refine ⟨by unfold maxLen at hm;omega,fun j=>(f j).1,fun j=>(f j).2,fun k hk=>(hf k hk).1,by have:=sumN len0 (Nat.le_refl _);omega,by have:=sumM len0 (Nat.le_refl _);omega,fun k hk=>⟨fun i hi=>?_,fun i hi=>?_⟩⟩
  ·exact Nat.le_trans ((hf k hk).2.2.2.1 i hi) (hone k hk)
  ·exact Nat.le_trans ((hf k hk).2.2.2.2 i hi) (hone k hk)
end
end Go.Proofs.YtnkcbephceollabGreat
namespace Go.Proofs.YtnkcbephceollabGreat
open Go.RowKit
set_option linter.unusedSimpArgs false
set_option linter.unusedVariables false
theorem Wld.holds {w:World}{base wb:Nat}{hv:Value}{L:List Nat}{F:Nat->Nat->Prop}(h:Wld w base wb hv L F):HoldsAt w hv L/\AllMk w L:=by
 refine ⟨?_,fun j hj=>?_⟩
 ·obtain ⟨a,cap,e1,e2,e3,e4⟩:=own_form h.own
  refine ⟨a,cap,e1,by unfold maxLen at e4;omega,fun j hj=>?_⟩
  obtain ⟨b,hb⟩:=e3 (by omega)
  have hc:=own_cell h.own b hb j (by omega)
  rw [List.getElem?_map,List.getElem?_eq_getElem hj] at hc
  refine ⟨b,0,e2 b hb,?_⟩
  rw [Nat.zero_add,List.getD_eq_getElem?_getD,List.getElem?_eq_getElem hj]
  exact hc
 ·have hm:L.getD j 0∈L:=by rw [List.getD_eq_getElem?_getD,List.getElem?_eq_getElem hj];exact List.getElem_mem hj
  obtain ⟨m,rv,pv,cv,nv,k⟩:=h.all _ hm
  exact ⟨F,m,rv,pv,cv,nv,k⟩
theorem Wld.drewN {w:World}{base wb:Nat}{hv:Value}{L:List Nat}{F:Nat->Nat->Prop}(h:Wld w base wb hv L F)(n:Nat):Wld (w.drewN n) base wb hv L F:=
 h.kp (X:=fun _=>False) ((Kp.refl _ _).drewN n) (fun e=>e) (fun _ _ e=>e) (fun b o u f c=>⟨c,f⟩)
theorem wld_new (w:World)(t:TypeId):Wld (w.alloc (.cells #[.slice none 0 0] t)) (w.heap.size+1) w.heap.size (.slice none 0 0) [] (FX (fun _ _=>True) w.heap.size (.slice none 0 0)):=
 ⟨Blk.new w _ _,World.ownsRow_nil _ _ _ _,Nat.lt_succ_self _,fun h hh=>by cases hh⟩
theorem below_of_kp {w wr w1:World}{hv:Value}{L:List Nat}{F:Nat->Nat->Prop}(h:Below w.heap.size w wr)(W:Wld wr (w.heap.size+1) w.heap.size hv L F)(k:Kp (fun b=>b=w.heap.size\/hv.ownBlock=some b) wr w1):Below w.heap.size w w1:=
 ⟨k.os.trans h.os,k.tape.trans h.tape,k.output.trans h.output,Nat.le_trans h.size k.size,fun b hb=>(k.block b (Nat.lt_of_lt_of_le hb h.size) (fun e=>by
  rcases e with e | e
  ·omega
  ·have:=(W.own.lt b e).1;omega)).trans (h.block b hb)⟩
set_option maxHeartbeats 400000 in
theorem rdet_of (a b c:Pt)(w:World)(H:Hid (wrap64 (wrap64 (wrap64 (a.x*wrap64 (wrap64 (b.y*c.d)-wrap64 (c.y*b.d)))-wrap64 (a.y*wrap64 (wrap64 (b.x*c.d)-wrap64 (c.x*b.d))))+wrap64 (a.d*wrap64 (wrap64 (b.x*c.y)-wrap64 (c.x*b.y))))=detM a b c)) :
  Calls Tryz.prog 70 #[a.v,b.v,c.v] w fun e w'=>e = .returned (.int .i64 (detM a b c))/\Below w.heap.size w w':=by
 go_enter Tryz.func70,Tryz.ntmps70
 go_wp2
 go_ret
 exact ⟨ret_int H.out,(((Below.refl _ _).alloc (Nat.le_refl _) _).alloc (by simp) _).alloc (by simp;omega) _⟩
theorem rdet_w (a b c:Pt)(w:World)(ha:Gw a)(hb:Gw b)(hc:Gw c) :
  Calls Tryz.prog 70 #[a.v,b.v,c.v] w fun e w'=>e = .returned (.int .i64 (detM a b c))/\Below w.heap.size w w':=by
 refine rdet_of a b c w ?_
 refine hide ?_
 unfold detM
 rw [wrap_in (hb.y.mul hc.d) (by decide),wrap_in (hc.y.mul hb.d) (by decide),wrap_in (hb.x.mul hc.d) (by decide),wrap_in (hc.x.mul hb.d) (by decide),wrap_in (hb.x.mul hc.y) (by decide),wrap_in (hc.x.mul hb.y) (by decide),
  wrap_in ((hb.y.mul hc.d).sub (hc.y.mul hb.d)) (by decide),wrap_in ((hb.x.mul hc.d).sub (hc.x.mul hb.d)) (by decide),wrap_in ((hb.x.mul hc.y).sub (hc.x.mul hb.y)) (by decide),
  wrap_in (ha.x.mul ((hb.y.mul hc.d).sub (hc.y.mul hb.d))) (by decide),wrap_in (ha.y.mul ((hb.x.mul hc.d).sub (hc.x.mul hb.d))) (by decide),wrap_in (ha.d.mul ((hb.x.mul hc.y).sub (hc.x.mul hb.y))) (by decide),
  wrap_in ((ha.x.mul ((hb.y.mul hc.d).sub (hc.y.mul hb.d))).sub (ha.y.mul ((hb.x.mul hc.d).sub (hc.x.mul hb.d)))) (by decide),
  wrap_in (((ha.x.mul ((hb.y.mul hc.d).sub (hc.y.mul hb.d))).sub (ha.y.mul ((hb.x.mul hc.d).sub (hc.x.mul hb.d)))).add (ha.d.mul ((hb.x.mul hc.y).sub (hc.x.mul hb.y)))) (by decide)]
set_option maxHeartbeats 400000 in
theorem rapart_any (m n:Int)(w:World) :
  Calls Tryz.prog 108 #[.int .i64 m,.int .i64 n] w fun e w'=>e = .returned (.bool (apartB m n))/\w'=w:=by
 unfold apartB
 rcases Int.lt_trichotomy m 0 with h | h | h
 all_goals rcases Int.lt_trichotomy n 0 with k | k | k
 all_goals
  go_enter Tryz.func108,Tryz.ntmps108
  go_wp2
  go_ret
  exact ⟨ret_bool (by simp <;> omega),rfl⟩
set_option maxHeartbeats 1000000 in
theorem ron_any (p a b:Pt)(w:World)(hp:Gd p)(ha:Gd a)(hb:Gd b) :
  Calls Tryz.prog 82 #[p.v,sg a b] w fun e w'=>e = .returned (.bool (onB p a b))/\Below w.heap.size w w':=by
 go_enter Tryz.func82,Tryz.ntmps82
 go_wp2_with fail
 refine (rdet_any a b p _ ha hb hp).mono ?_
 rintro e w1 ⟨rfl,k⟩
 have B1:=bvia (((Below.refl _ _).alloc (Nat.le_refl _) _).alloc (by simp) _) k
 obtain ⟨cp1,fp1,zp1⟩:=((Blk.new w _ _).alloc _).call k
 obtain ⟨ce1,fe1,ze1⟩:=(Blk.at (w.heap.size+1) (by simp)).call k
 clear k
 go_wp2_with fail
 refine (rwithin_any p a b _ hp ha hb).mono ?_
 rintro e w2 ⟨rfl,k⟩
 have B2:=bvia B1 k
 clear k cp1 fp1 ce1 fe1 B1
 have hd:onB p a b=(decide (detM a b p=0) && withB p a b):=rfl
 have HD:=hide hd
 clear hd
 generalize withB p a b=wi at *
 by_cases h:detM a b p=0
 ·go_wp2
  all_goals
   go_ret
   exact ⟨ret_bool (by rw [HD.out];simp [h]),B2⟩
 ·go_wp2
  all_goals
   go_ret
   exact ⟨ret_bool (by rw [HD.out];simp [h]),B2⟩
def DetOk (a b c:Pt):Prop:=∀ w,Calls Tryz.prog 70 #[a.v,b.v,c.v] w fun e w'=>e = .returned (.int .i64 (detM a b c))/\Below w.heap.size w w'
set_option maxRecDepth 100000 in
set_option maxHeartbeats 4000000 in
theorem rfar_any (q:Pt)(v:Value)(l:List Pt)(ea eb:Pt)(w:World)(hl:RingAt w v l)(hn:l.length<=2000000)
  (h4:∀ k,k<=l.length+1->∀ p∈l,DetOk (outP k) q p) (h5:∀ k,k<=l.length+1->DetOk ea eb (outP k)) :
  Calls Tryz.prog 83 #[q.v,v,sg ea eb] w fun e w'=>e = .returned (farM q l ea eb).v/\Below w.heap.size w w':=by
 obtain ⟨a,cap,rfl,h1,h2,h3⟩:=hl
 unfold maxLen at h2
 have hln:(l.length:Int)<=2000000:=by omega
 have H3:=hide h3
 have H4:=hide h4
 have H5:=hide h5
 have HF:=hide (show farM q l ea eb=farL (freeB q l ea eb) (l.length+2-0) 0 from rfl)
 have HFr:=hide (show ∀ k,freeB q l ea eb k=(l.all (fun v=>decide (detM (outP k) q v≠0)) && decide (detM ea eb (outP k)≠0)) from fun k=>rfl)
 clear h3 h4 h5
 generalize farM q l ea eb=fm at *
 generalize freeB q l ea eb=fr at *
 go_enter Tryz.func83,Tryz.ntmps83
 go_wp2_with fail
 go_loopw [7,8,9,10,11,12] (fun kv _ _ _ _ _ w'=>∃ k:Nat,kv = .int .i64 k/\k<=l.length+2/\Blk w' w.heap.size #[.int .i64 q.x,.int .i64 q.y,.int .i64 q.d]/\Blk w' (w.heap.size+1) #[.int .i64 ea.x,.int .i64 ea.y,.int .i64 ea.d,.int .i64 eb.x,.int .i64 eb.y,.int .i64 eb.d]/\Blk w' (w.heap.size+1+1) #[.int .i64 0,.int .i64 0,.int .i64 0]/\Below w.heap.size w w'/\Hid (fm=farL fr (l.length+2-k) k)) (fun kv _ _ _ _ _ _=>l.length+2-(intOf kv).toNat)
 case atStart=>exact ⟨0,rfl,Nat.zero_le _,((Blk.new w _ _).alloc _).alloc _,(Blk.at (w.heap.size+1) (by simp)).alloc _,Blk.at (w.heap.size+1+1) (by simp),below3 _ _ _ _,HF⟩
 case round=>
  obtain ⟨k,rfl,hk,⟨cq,fq,zq⟩,⟨ce,fe,ze⟩,⟨cr,frz,zr⟩,hbel,HB⟩:=hrel
  by_cases hlt:k<l.length+2
  ·have HC:=hide (farL_step fr (l.length+2) k hlt)
   have hki:(k:Int)<=(l.length:Int)+1:=by omega
   have hkb:(k:Int)<=2000001:=by omega
   have hk0:(0:Int)<=(k:Int):=Int.natCast_nonneg _
   have D5:=H5.out k (by omega)
   have H4k:=hide (H4.out k (by omega))
   have HFk:=hide (HFr.out k)
   clear HF H4 H5 HFr
   go_upto_block 2 with fail
   have hwo:wr.heap.size<(wr.alloc (.cells #[.int .i64 (-65),.int .i64 k,.int .i64 1] 31)).heap.size:=by simp
   have hwo1:=hbel.size
   have P0:∃ wo,wo=wr.heap.size:=⟨_,rfl⟩
   obtain ⟨wo,hwoe⟩:=P0
   have K1:=((Blk.mk cq fq zq).alloc (.cells #[.int .i64 (-65),.int .i64 k,.int .i64 1] 31))
   have K2:=((Blk.mk ce fe ze).alloc (.cells #[.int .i64 (-65),.int .i64 k,.int .i64 1] 31))
   have K3:=((Blk.mk cr frz zr).alloc (.cells #[.int .i64 (-65),.int .i64 k,.int .i64 1] 31))
   have K4:=Blk.new wr #[.int .i64 (-65),.int .i64 k,.int .i64 1] 31
   have K5:=hbel.alloc hbel.size (.cells #[.int .i64 (-65),.int .i64 k,.int .i64 1] 31)
   rw [<-hwoe] at K4 hwo hwo1 ⊢
   clear cq fq zq ce fe ze cr frz zr hbel hwoe
   go_cut [8,9,10,11] (fun po fv _ _ w'=>po = .pointer (some ⟨wo,0,none⟩)/\fv = .bool (l.all (fun v=>decide (detM (outP k) q v≠0)))/\Blk w' w.heap.size #[.int .i64 q.x,.int .i64 q.y,.int .i64 q.d]/\Blk w' (w.heap.size+1) #[.int .i64 ea.x,.int .i64 ea.y,.int .i64 ea.d,.int .i64 eb.x,.int .i64 eb.y,.int .i64 eb.d]/\Blk w' (w.heap.size+1+1) #[.int .i64 0,.int .i64 0,.int .i64 0]/\Blk w' wo #[.int .i64 (-65),.int .i64 k,.int .i64 1]/\Below w.heap.size w w')
   case first=>
    clear D5 HB HC HFk
    go_wp2_with fail
    go_loopw [9,10,11] (fun fv iv _ w'=>∃ i:Nat,iv = .int .i64 i/\i<=l.length/\fv = .bool ((l.take i).all (fun v=>decide (detM (outP k) q v≠0)))/\Blk w' w.heap.size #[.int .i64 q.x,.int .i64 q.y,.int .i64 q.d]/\Blk w' (w.heap.size+1) #[.int .i64 ea.x,.int .i64 ea.y,.int .i64 ea.d,.int .i64 eb.x,.int .i64 eb.y,.int .i64 eb.d]/\Blk w' (w.heap.size+1+1) #[.int .i64 0,.int .i64 0,.int .i64 0]/\Blk w' wo #[.int .i64 (-65),.int .i64 k,.int .i64 1]/\Below w.heap.size w w') (fun _ iv _ _=>l.length-(intOf iv).toNat)
    case atStart=>exact ⟨0,rfl,Nat.zero_le _,rfl,K1,K2,K3,K4,K5⟩
    case round=>
     obtain ⟨i,rfl,hi,rfl,⟨cq,fq,zq⟩,K2',K3',⟨co,fo,zo⟩,hbel⟩:=hrel
     by_cases hit:i<l.length
     ·obtain ⟨b,off,rfl,hb,hp⟩:=H3.out i hit
      obtain ⟨px,py,pd⟩:=hp.later hbel hb
      have HA:=hide (all_take (fun v=>decide (detM (outP k) q v≠0)) l i hit zP)
      have D4:=H4k.out _ (getD_mem hit zP)
      generalize l.getD i zP=p at *
      obtain ⟨dv,hdv⟩:∃ dv,detM (outP k) q p=dv:=⟨_,rfl⟩
      have D6:∀ wz,Calls Tryz.prog 70 #[(outP k).v,q.v,p.v] wz fun e w'=>e = .returned (.int .i64 (detM (outP k) q p))/\Below wz.heap.size wz w':=D4
      rw [hdv] at D6
      have HD:Hid ((l.take (i+1)).all (fun v=>decide (detM (outP k) q v≠0))=((l.take i).all (fun v=>decide (detM (outP k) q v≠0)) && decide (dv≠0))):=by rw [<-hdv];exact HA
      clear hdv D4 HA hp
      generalize (l.take i).all (fun v=>decide (detM (outP k) q v≠0))=al at *
      have hi0:(0:Int)<=(i:Int):=Int.natCast_nonneg _
      have hi1:(i:Int)<(l.length:Int):=by omega
      go_upto_region 9 with fail
      go_cut [11] (fun nv w'=>nv = .int .i64 dv/\Blk w' w.heap.size #[.int .i64 q.x,.int .i64 q.y,.int .i64 q.d]/\Blk w' (w.heap.size+1) #[.int .i64 ea.x,.int .i64 ea.y,.int .i64 ea.d,.int .i64 eb.x,.int .i64 eb.y,.int .i64 eb.d]/\Blk w' (w.heap.size+1+1) #[.int .i64 0,.int .i64 0,.int .i64 0]/\Blk w' wo #[.int .i64 (-65),.int .i64 k,.int .i64 1]/\Below w.heap.size w w')
      case first=>
       go_region_with (go_at_call 70;refine (D6 _).mono ?_;rintro e' w1 ⟨rfl,k1⟩)
       all_goals
        go_wp2_with fail
        go_meet
        case rel=>exact ⟨rfl,(Blk.mk cq fq zq).drew.call k1,K2'.drew.call k1,K3'.drew.call k1,(Blk.mk co fo zo).drew.call k1,bvia hbel.drew k1⟩
      case rest=>
       clear cq fq zq co fo zo hbel px py pd K2' K3' D6
       obtain ⟨rfl,L1,L2,L3,L4,B1⟩:=hcut
       cases al
       ·have HE:Hid ((l.take (i+1)).all (fun v=>decide (detM (outP k) q v≠0))=false):=HD.out.trans rfl
        clear HD
        go_wp2
        go_roundw
        case rel=>exact ⟨i+1,by go_num,by omega,by rw [HE.out],L1,L2,L3,L4,B1⟩
        case measure=>simp [intOf];omega
       ·have HE:Hid ((l.take (i+1)).all (fun v=>decide (detM (outP k) q v≠0))=(dv != 0)):=HD.out.trans (by rw [Bool.true_and];by_cases h:dv=0 <;> simp [h])
        clear HD
        go_wp2
        go_roundw
        case rel=>exact ⟨i+1,by go_num,by omega,by rw [HE.out],L1,L2,L3,L4,B1⟩
        case measure=>simp [intOf];omega
     ·have HE:Hid (l.take i=l):=List.take_of_length_le (by omega)
      have hi1 : ¬ (i:Int)<(l.length:Int):=by omega
      go_wp2
      go_meet
      case rel=>exact ⟨rfl,by rw [HE.out];simp,Blk.mk cq fq zq,K2',K3',Blk.mk co fo zo,hbel⟩
   case rest=>
    obtain ⟨rfl,rfl,⟨cq,fq,zq⟩,⟨ce,fe,ze⟩,⟨cr,frz,zr⟩,⟨co,fo,zo⟩,hbel⟩:=hcut
    generalize l.all (fun v=>decide (detM (outP k) q v≠0))=al at *
    obtain ⟨dv,hdv⟩:∃ dv,detM ea eb (outP k)=dv:=⟨_,rfl⟩
    have D6:Calls Tryz.prog 70 #[ea.v,eb.v,(outP k).v] wc fun e w'=>e = .returned (.int .i64 (detM ea eb (outP k)))/\Below wc.heap.size wc w':=D5 wc
    rw [hdv] at D6 HFk
    clear hdv D5
    go_wp2_with fail
    refine D6.mono ?_
    rintro e w1 ⟨rfl,k1⟩
    have B1:=bvia hbel k1
    have L1:=(Blk.mk cq fq zq).call k1
    have L2:=(Blk.mk ce fe ze).call k1
    have L3:=(Blk.mk cr frz zr).call k1
    obtain ⟨co1,fo1,zo1⟩:=(Blk.mk co fo zo).call k1
    obtain ⟨cr1,fr1,zr1⟩:=L3
    clear k1 cq fq zq ce fe ze cr frz zr co fo hbel
    cases al
    ·have HE:Hid (fm=farL fr (l.length+2-(k+1)) (k+1)):=HB.out.trans (HC.out.trans (if_neg (by rw [HFk.out];simp)))
     clear HB HC HFk
     go_wp2
     go_roundw
     case rel=>exact ⟨k+1,by go_num,by omega,L1,L2,Blk.mk cr1 fr1 zr1,B1,HE⟩
     case measure=>simp [intOf];omega
    ·by_cases hd:dv=0
     ·have HE:Hid (fm=farL fr (l.length+2-(k+1)) (k+1)):=HB.out.trans (HC.out.trans (if_neg (by rw [HFk.out];simp [hd])))
      have hb:(dv != 0)=false:=by simpa using hd
      clear HB HC HFk
      go_wp2
      go_roundw
      case rel=>exact ⟨k+1,by go_num,by omega,L1,L2,Blk.mk cr1 fr1 zr1,B1,HE⟩
      case measure=>simp [intOf];omega
     ·have HE:Hid (fm=outP k):=HB.out.trans (HC.out.trans (if_pos (by rw [HFk.out];simp [hd])))
      have hb:(dv != 0)=true:=by simpa using hd
      clear HB HC HFk
      go_wp2
      exact bodyPost_ret (v:=Pt.v ⟨-65,k,1⟩) (by simp [results,Tryz.results83,go_sem,cr1,fr1]) rfl ⟨by rw [HE.out];rfl,below_set3 (o:=0) B1 (by omega)⟩
  ·have HE:Hid (fm=outP 0):=by rw [HB.out,show l.length+2-k=0 by omega];exact hide rfl
   have hki : ¬ (k:Int)<=(l.length:Int)+1:=by omega
   go_wp2
   exact bodyPost_ret (v:=Pt.v ⟨-65,0,1⟩) (by simp [results,Tryz.results83,go_sem,cr,frz]) rfl ⟨by rw [HE.out];rfl,below_set3 (o:=0) hbel (by omega)⟩
end Go.Proofs.YtnkcbephceollabGreat
