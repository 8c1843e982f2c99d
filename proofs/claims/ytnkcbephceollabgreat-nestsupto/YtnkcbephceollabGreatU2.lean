import Derived.OpenShut
import Derived.Deep.Cut
import Derived.Deep.CutBlock
import Derived.Deep.DeepCutAuto
import Derived.Deep.RegionWith
import Derived.Test.YtnkcbephceollabGreatU1
import Derived.Deep.AppendLies
import Derived.Deep.RegionHeld3
import Derived.OwnWalk
import Derived.Laws.OwnMore
namespace Go.Proofs.YtnkcbephceollabGreat
open Go.RowKit
set_option linter.unusedSimpArgs false
set_option linter.unusedVariables false
structure Kp (X:Nat->Prop)(w w':World):Prop where
 os:w'.os=w.os
 tape:w'.tape=w.tape
 output:w'.output=w.output
 size:w.heap.size<=w'.heap.size
 block:∀ b,b<w.heap.size->¬ X b->w'.heap[b]?=w.heap[b]?
theorem Kp.refl (X:Nat->Prop)(w:World):Kp X w w:=⟨rfl,rfl,rfl,Nat.le_refl _,fun _ _ _=>rfl⟩
theorem Kp.trans {X:Nat->Prop}{a b c:World}(h:Kp X a b)(k:Kp X b c):Kp X a c:=
 ⟨k.os.trans h.os,k.tape.trans h.tape,k.output.trans h.output,Nat.le_trans h.size k.size,fun x hx hn=>(k.block x (Nat.lt_of_lt_of_le hx h.size) hn).trans (h.block x hx hn)⟩
theorem Kp.weaken {X Y:Nat->Prop}{a b:World}(h:Kp X a b)(hxy:∀ x,x<a.heap.size->X x->Y x):Kp Y a b:=
 ⟨h.os,h.tape,h.output,h.size,fun x hx hn=>h.block x hx (fun e=>hn (hxy x hx e))⟩
theorem Kp.drewN {X:Nat->Prop}{a b:World}(h:Kp X a b)(n:Nat):Kp X a (b.drewN n):=⟨h.os,h.tape,h.output,h.size,h.block⟩
theorem Kp.drew {X:Nat->Prop}{a b:World}(h:Kp X a b):Kp X a b.drew:=⟨h.os,h.tape,h.output,h.size,h.block⟩
theorem Kp.alloc {X:Nat->Prop}{a b:World}(h:Kp X a b)(o:Obj):Kp X a (b.alloc o):=
 ⟨h.os,h.tape,h.output,by have:=h.size;simp;omega,fun x hx hn=>(Below.heap_alloc b o x (Nat.lt_of_lt_of_le hx h.size)).trans (h.block x hx hn)⟩
theorem Kp.setCell {X:Nat->Prop}{a b:World}(h:Kp X a b){p:Addr}(hp:p.block<a.heap.size->X p.block)(u:Value):Kp X a (b.setCell p u):=
 ⟨h.os,h.tape,h.output,by have:=h.size;simpa using this,fun x hx hn=>by
  rw [Below.heap_setCell b p u x (fun e=>hn (e ▸ hp (e ▸ hx)))];exact h.block x hx hn⟩
theorem Kp.of {X:Nat->Prop}{a b:World}(h:Below a.heap.size a b):Kp X a b:=⟨h.os,h.tape,h.output,h.size,fun x hx _=>h.block x hx⟩
theorem Kp.grown {X:Nat->Prop}{a b c:World}{row:Option Nat}(h:Kp X a b)(hg:b.grownBy c row)(hr:∀ k,row=some k->X k):Kp X a c:=
 h.trans ⟨hg.os,hg.tape,hg.output,hg.size,fun x hx hn=>hg.block x hx (fun e=>hn (hr x e.symm))⟩
section
variable {P:Program}(w:World)
theorem run_append_stay (t ty:TypeId)(base:Nat)(e:TypeId)(i:TypeInfo)(z:Value)(size bytes:Nat)(ht:P.underlying t=some (.slice e))(hi:P.info? e=some i)(hz:i.zero=some z)
  (hsize:i.size=size) (hby:i.bytes=bytes) (hzs:z.cells.size=size) (hsz:0<size)
  (v:Value) (n:Nat) (xs:List Value) (hown:w.ownsRow base e size v n xs)
  (ad:Addr) (m c:Nat) (news:List Value) (hl:news.length=m*size) (hnews:∀ j u,news[j]?=some u->w.cell? (ad.add j)=some u) (h1:∀ u∈news,u.oneCell'=true)
  (hm:0<m) (h63:n+m<=maxLen) (hbytes:(n+m)*bytes<=140737488355328) (hbase:base<=w.heap.size) (H:Nat) (hH:w.heap.size=H) :
  ∃ g cap w',(Builtin.append_ #[t,t] ty #[v,.slice (some ad) m c]).run P w = .ok (.slice (some ⟨g,0,none⟩) (n+m) cap) w'/\
   w'.ownsRow base e size (.slice (some ⟨g,0,none⟩) (n+m) cap) (n+m) (xs ++ news)/\w.grownBy w' v.ownBlock/\(v.ownBlock=some g\/(g=H/\w.grownBy w' none))/\g<w'.heap.size:=by
 obtain ⟨g,cap,w',hr,h2,h3,h4,h5⟩:=run_append_lies (P:=P) w t ty base e i z size bytes ht hi hz hsize hby hzs hsz v n xs hown ad m c news hl hnews h1 hm h63 hbytes hbase H hH
 refine ⟨g,cap,w',hr,h2,h3,?_,h5⟩
 subst hsize
 subst hby
 rcases hown.2 with ⟨rfl,rfl⟩ | ⟨k,cp,cur,rfl,hbg,hg,hnc,hcm,hcs,htake⟩
 ·right
  rcases h4 with h4 | h4
  ·simp [Value.ownBlock] at h4
  ·exact ⟨h4,h3⟩
 ·by_cases hroom:n+m<=cp
  ·have hfit:n*i.size+news.length<=cur.size:=by rw [hl,hcs,<-Nat.add_mul];exact Nat.mul_le_mul_right _ hroom
   have hr2:=run_append_room (P:=P) w t ty e i ht hi k n cp cur hg ad m c news hl hnews h1 hroom hfit
   rw [hr2] at hr
   simp only [Result.ok.injEq,Value.slice.injEq,Option.some.injEq,Addr.mk.injEq] at hr
   left
   simp only [Value.ownBlock]
   rw [hr.1.1.1]
  ·have holds:∀ j u,xs[j]?=some u->w.cell? ((⟨k,0,none⟩:Addr).add j)=some u:=hown.cells (g:=k) rfl
   have hr2:=run_append_grow (P:=P) w t ty e i z ht hi hz ⟨k,0,none⟩ n cp xs hown.1 holds ad m c news hl hnews (by omega) (by simp only [maxLen] at h63;omega) (growslice_fits (by omega) hbytes)
   rw [hr2] at hr
   simp only [Result.ok.injEq,Value.slice.injEq,Option.some.injEq,Addr.mk.injEq] at hr
   right
   refine ⟨?_,?_⟩
   ·rw [<-hr.1.1.1];exact hH
   ·rw [<-hr.2]
    exact ⟨rfl,rfl,rfl,by simp,fun q hq _=>Below.heap_alloc w.drew _ q hq⟩
theorem wp_append_stay {o:Oper}{a:Act}{K:Act->World->Prop}{Q:Exit->Act->World->Prop}(s x:Operand)(t:TypeId)
  (ho:o.op = .call { callee:=.builtin .append,args:=#[s,x],argTypes:=#[t,t] })
  (base:Nat) (e:TypeId) (i:TypeInfo) (z:Value) (size bytes:Nat) (ht:P.underlying t=some (.slice e)) (hi:P.info? e=some i) (hz:i.zero=some z)
  (hsize:i.size=size) (hby:i.bytes=bytes) (hzs:z.cells.size=size) (hsz:0<size)
  (v:Value) (n:Nat) (xs:List Value) (hs:a.eval s=v) (hown:w.ownsRow base e size v n xs)
  (ad:Addr) (m c:Nat) (news:List Value) (hx:a.eval x = .slice (some ad) m c) (hl:news.length=m*size) (hnews:∀ j u,news[j]?=some u->w.cell? (ad.add j)=some u) (h1:∀ u∈news,u.oneCell'=true)
  (hm:0<m) (h63:n+m<=maxLen) (hbytes:(n+m)*bytes<=140737488355328) (hbase:base<=w.heap.size) (H:Nat) (hH:w.heap.size=H)
  (h:∀ g cap w',w'.ownsRow base e size (.slice (some ⟨g,0,none⟩) (n+m) cap) (n+m) (xs ++ news)->w.grownBy w' v.ownBlock->(v.ownBlock=some g\/(g=H/\w.grownBy w' none))->g<w'.heap.size->K (a.put o.dst (.slice (some ⟨g,0,none⟩) (n+m) cap)) w'):o.wp P a w K Q:=by
 obtain ⟨g,cap,w',hr,h2,h3,h4,h5⟩:=run_append_stay (P:=P) w t o.type base e i z size bytes ht hi hz hsize hby hzs hsz v n xs hown ad m c news hl hnews h1 hm h63 hbytes hbase H hH
 unfold Oper.wp execOp
 simp only [ho,resolve,invoke,builtin,Sem.run_bind,Sem.run_pure,Result.andThen_ok,List.map_toArray,List.map_cons,List.map_nil,hs,hx,hr]
 exact h g cap w' h2 h3 h4 h5
theorem step_append_stay {ops:Array Oper}{o:Oper}{a:Act}{K:Act->World->Prop}{Q:Exit->Act->World->Prop}{E:Prop}(hgd:o.guard=none)(s x:Operand)(t:TypeId)
  (ho:o.op = .call { callee:=.builtin .append,args:=#[s,x],argTypes:=#[t,t] })
  (base:Nat) (e:TypeId) (i:TypeInfo) (z:Value) (size bytes:Nat) (ht:P.underlying t=some (.slice e)) (hi:P.info? e=some i) (hz:i.zero=some z)
  (hsize:i.size=size) (hby:i.bytes=bytes) (hzs:z.cells.size=size) (hsz:0<size)
  (v:Value) (n:Nat) (xs:List Value) (hs:a.eval s=v) (hown:w.ownsRow base e size v n xs)
  (ad:Addr) (m c:Nat) (news:List Value) (hx:a.eval x = .slice (some ad) m c) (hl:news.length=m*size) (hnews:∀ j u,news[j]?=some u->w.cell? (ad.add j)=some u) (h1:∀ u∈news,u.oneCell'=true)
  (hm:0<m) (h63:n+m<=maxLen) (hbytes:(n+m)*bytes<=140737488355328) (hbase:base<=w.heap.size) (H:Nat) (hH:w.heap.size=H)
  (h:∀ g cap w',w'.ownsRow base e size (.slice (some ⟨g,0,none⟩) (n+m) cap) (n+m) (xs ++ news)->w.grownBy w' v.ownBlock->(v.ownBlock=some g\/(g=H/\w.grownBy w' none))->g<w'.heap.size->K (a.put o.dst (.slice (some ⟨g,0,none⟩) (n+m) cap)) w') :
  if Region.wanted o (yielded ops a.tmps)=true then Oper.wp P o a w K Q else E:=by
 have hw:Region.wanted o (yielded ops a.tmps)=true:=by simp [Region.wanted,hgd]
 rw [if_pos hw]
 exact wp_append_stay w s x t ho base e i z size bytes ht hi hz hsize hby hzs hsz v n xs hs hown ad m c news hx hl hnews h1 hm h63 hbytes hbase H hH h
end
theorem own_apart {w:World}{base base':Nat}{e e':TypeId}{s s':Nat}{v v':Value}{n n':Nat}{xs xs':List Value}(h:w.ownsRow base e s v n xs)(h':w.ownsRow base' e' s' v' n' xs')(he:e≠e')(b:Nat)(hb:v.ownBlock=some b):v'.ownBlock≠some b:=by
 intro hb'
 rcases h.2 with ⟨rfl,_⟩ | ⟨g,cap,cur,rfl,_,hg,_⟩
 ·simp [Value.ownBlock] at hb
 ·rcases h'.2 with ⟨rfl,_⟩ | ⟨g',cap',cur',rfl,_,hg',_⟩
  ·simp [Value.ownBlock] at hb'
  ·simp [Value.ownBlock] at hb hb'
   subst hb hb'
   rw [hg] at hg'
   simp at hg'
   exact he hg'.2
theorem own_form {w:World}{base:Nat}{e:TypeId}{s:Nat}{v:Value}{n:Nat}{xs:List Value}(h:w.ownsRow base e s v n xs):∃ a cap,v = .slice a n cap/\(∀ b,v.ownBlock=some b->a=some ⟨b,0,none⟩)/\(0<n->∃ b,v.ownBlock=some b)/\n<=maxLen:=by
 rcases h.2 with ⟨rfl,rfl⟩ | ⟨g,cap,cur,rfl,_,hg,h1,h2,_⟩
 ·exact ⟨none,0,rfl,fun b hb=>by simp [Value.ownBlock] at hb,fun h=>absurd h (Nat.lt_irrefl _),Nat.zero_le _⟩
 ·exact ⟨_,cap,rfl,fun b hb=>by simp [Value.ownBlock] at hb;rw [hb],fun _=>⟨g,rfl⟩,by omega⟩
theorem own_cell {w:World}{base:Nat}{e:TypeId}{s:Nat}{v:Value}{n:Nat}{xs:List Value}(h:w.ownsRow base e s v n xs)(b:Nat)(hb:v.ownBlock=some b)(o:Nat)(ho:o<n*s):w.cell? ⟨b,o,none⟩=xs[o]?:=by
 rcases h.2 with ⟨rfl,_⟩ | ⟨g,cap,cur,rfl,_,hg,_⟩
 ·simp [Value.ownBlock] at hb
 ·simp [Value.ownBlock] at hb
  subst hb
  exact h.cellAt o ho
theorem Kp.blk {X:Nat->Prop}{w w':World}{b:Nat}{vs:Array Value}(h:Blk w b vs)(k:Kp X w w')(hx : ¬ X b):Blk w' b vs:=
 have e:=k.block b h.lt hx
 ⟨fun o=>(World.cell?_of_block (w:=w) (a:=⟨b,o,none⟩) e).trans (h.cell o),fun o=>(World.frozen?_of_block (w:=w) (a:=⟨b,o,none⟩) e).trans (h.free o),Nat.lt_of_lt_of_le h.lt k.size⟩
theorem Kp.own {X:Nat->Prop}{w w':World}{base:Nat}{e:TypeId}{s n:Nat}{v:Value}{xs:List Value}(h:w.ownsRow base e s v n xs)(k:Kp X w w')(hx:∀ b,v.ownBlock=some b->¬ X b):w'.ownsRow base e s v n xs:=by
 refine ⟨h.1,?_⟩
 rcases h.2 with hn | ⟨g,cap,cur,rfl,hb,hgg,rest⟩
 ·exact .inl hn
 ·refine .inr ⟨g,cap,cur,rfl,hb,?_,rest⟩
  rw [k.block g (Array.getElem?_eq_some_iff.1 hgg).1 (hx g rfl)]
  exact hgg
theorem Kp.cellOf {X:Nat->Prop}{w w':World}{b o:Nat}{u:Value}(k:Kp X w w')(hc:w.cell? ⟨b,o,none⟩=some u)(hx : ¬ X b):w'.cell? ⟨b,o,none⟩=some u:=
 (World.cell?_of_block (w:=w) (a:=⟨b,o,none⟩) (k.block b (World.block_lt_of_cell? w ⟨b,o,none⟩ hc) hx)).trans hc
theorem infoPoint:(Tryz.prog.info? 31).map (fun i=>(i.zero,i.size,i.bytes))=some (some (.agg #[.int .i64 0,.int .i64 0,.int .i64 0]),3,24):=by kernel_rfl
theorem infoPcs:(Tryz.prog.info? 55).map (fun i=>(i.zero,i.size,i.bytes))=some (some (.agg #[.int .i64 0,.int .i64 0,.int .i64 0,.int .i64 0,.int .i64 0,.int .i64 0,.bool false,.bool false,.bool false,.bool false]),10,56):=by kernel_rfl
theorem infoRing:(Tryz.prog.info? 57).map (fun i=>(i.zero,i.size,i.bytes))=some (some (.slice none 0 0),1,24):=by kernel_rfl
def ptCell (p:Pt):List Value:=[.int .i64 p.x,.int .i64 p.y,.int .i64 p.d]
def ptCells (r:List Pt):List Value:=r.flatMap ptCell
theorem ptCells_len (r:List Pt):(ptCells r).length=r.length*3:=by
 unfold ptCells
 induction r with
 | nil=>rfl
 | cons e E ih=>simp [ptCell,ih];omega
theorem ptCells_append (r s:List Pt):ptCells (r ++ s)=ptCells r ++ ptCells s:=by simp [ptCells]
theorem ptCells_at (r:List Pt)(j t:Nat)(hj:j<r.length)(ht:t<3):(ptCells r)[j*3+t]?=(ptCell (r.getD j zP))[t]?:=by
 induction r generalizing j with
 | nil=>simp at hj
 | cons e E ih=>
  have hc:ptCells (e::E)=ptCell e ++ ptCells E:=by simp [ptCells]
  rw [hc]
  cases j with
  | zero=>rw [List.getElem?_append_left (by simp [ptCell];omega)];simp
  | succ j=>
   rw [List.getElem?_append_right (by simp [ptCell];omega)]
   have:(j+1)*3+t-(ptCell e).length=j*3+t:=by simp [ptCell];omega
   rw [this,ih j (by simpa using hj)]
   simp
theorem ring_of_own {w:World}{base:Nat}{v:Value}{r:List Pt}(h:w.ownsRow base 31 3 v r.length (ptCells r))(hl:r.length<=maxLen):RingAt w v r:=by
 have h0:=h
 obtain ⟨_,h1⟩:=h
 rcases h1 with ⟨rfl,hn⟩ | ⟨g,cap,cur,rfl,hb,hh,hnc,hcap,_,_⟩
 ·exact ⟨none,0,by rw [hn],by omega,by unfold maxLen;omega,fun j hj=>by omega⟩
 ·refine ⟨some ⟨g,0,none⟩,cap,rfl,hnc,hcap,fun j hj=>⟨g,0,rfl,?_,?_⟩⟩
  ·exact (h0.lt g rfl).2
  ·have hc:=fun t (ht:t<3)=>(h0.cellAt (j*3+t) (by omega)).trans (ptCells_at r j t hj ht)
   simp only [Nat.zero_add]
   exact ⟨hc 0 (by decide),hc 1 (by decide),hc 2 (by decide)⟩
theorem ptCells_one (r:List Pt):∀ u∈ptCells r,u.oneCell'=true:=by
 intro u hu
 obtain ⟨p,_,h⟩:=List.mem_flatMap.1 hu
 simp [ptCell] at h
 rcases h with rfl | rfl | rfl <;> rfl
theorem PtAt.at {w:World}{b o:Nat}{p:Pt}(h:PtAt w b o p)(t:Nat)(ht:t<3):w.cell? ⟨b,o+t,none⟩=(ptCell p)[t]?:=by
 match t,ht with
 | 0,_=>exact h.x
 | 1,_=>exact h.y
 | 2,_=>exact h.d
theorem cell_off2 (b off t:Nat):(⟨b,off,none⟩:Addr).add t=⟨b,off+t,none⟩:=by
 unfold Addr.add
 by_cases h:t=0 <;> simp [h]
theorem ring_news {w:World}{b off:Nat}{r:List Pt}(h:∀ j,j<r.length->PtAt w b (off+j*3) (r.getD j zP)) :
  ∀ t u,(ptCells r)[t]?=some u->w.cell? ((⟨b,off,none⟩:Addr).add t)=some u:=by
 intro t u hu
 have hl:t<r.length*3:=by
  have:=(List.getElem?_eq_some_iff.1 hu).1;rwa [ptCells_len] at this
 have hd:t=t / 3*3+t % 3:=by omega
 have h1:=(h (t / 3) (by omega)).at (t % 3) (by omega)
 rw [hd,ptCells_at r (t / 3) (t % 3) (by omega) (by omega)] at hu
 have e:(⟨b,off,none⟩:Addr).add t=⟨b,off+t / 3*3+t % 3,none⟩:=by
  have:=cell_off2 b off t
  rw [this];congr 1;omega
 rw [e,h1,hu]
theorem run_append_zero {P:Program}(w:World)(base:Nat)(t ty e:TypeId)(i:TypeInfo)(size:Nat)(ht:P.underlying t=some (.slice e))(hi:P.info? e=some i)
  (v:Value) (n:Nat) (xs:List Value) (hown:w.ownsRow base e size v n xs) (a:Option Addr) (c:Nat) :
  (Builtin.append_ #[t,t] ty #[v,.slice a 0 c]).run P w = .ok v w:=by
 have l:=fun x:Addr=>run_loadCells_list (P:=P) w x [] (by intro j v h;simp at h)
 rcases hown.2 with ⟨rfl,rfl⟩ | ⟨g,cap,cur,rfl,_,_,hnc,_⟩
 ·cases a with
  | none=>simp [Builtin.append_,run_underlying ht,sizeOf,typeInfo,hi,Builtin.lenOf,Builtin.firstCells]
  | some x=>have:=l x;simp at this;simp [Builtin.append_,run_underlying ht,sizeOf,typeInfo,hi,Builtin.lenOf,Builtin.firstCells,this]
 ·cases a with
  | none=>simp [Builtin.append_,run_underlying ht,sizeOf,typeInfo,hi,Builtin.lenOf,Builtin.firstCells,hnc,storeCells]
  | some x=>have:=l x;simp at this;simp [Builtin.append_,run_underlying ht,sizeOf,typeInfo,hi,Builtin.lenOf,Builtin.firstCells,hnc,storeCells,this]
theorem wpList_append_zero {P:Program}{w:World}{ops:Array Oper}{rest:List Oper}{o:Oper}{a:Act}{Q:Exit->Act->World->Prop}(hgd:o.guard=none)(s x:Operand)(t:TypeId)
  (ho:o.op = .call { callee:=.builtin .append,args:=#[s,x],argTypes:=#[t,t] })
  (base:Nat) (e:TypeId) (i:TypeInfo) (size:Nat) (ht:P.underlying t=some (.slice e)) (hi:P.info? e=some i)
  (v:Value) (n:Nat) (xs:List Value) (hs:a.eval s=v) (hown:w.ownsRow base e size v n xs) (ad:Option Addr) (c:Nat) (hx:a.eval x = .slice ad 0 c)
  (h:wpList P ops Q rest (a.put o.dst v) w):wpList P ops Q (o::rest) a w:=by
 refine wpList_plain hgd fun K hK=>?_
 have hrun:=run_append_zero (P:=P) w base t o.type e i size ht hi v n xs hown ad c
 unfold Oper.wp
 simp [execOp,ho,resolve,invoke,builtin,hs,hx,hrun,Result.andThen]
 exact hK _ _ h
end Go.Proofs.YtnkcbephceollabGreat
namespace Go.Proofs.YtnkcbephceollabGreat
set_option linter.unusedSimpArgs false
set_option linter.unusedVariables false
def loM (a b:Pt):Pt:=if befB b a=true then b else a
def hiM (a b:Pt):Pt:=if befB b a=true then a else b
def withB (p a b:Pt):Bool:=!befB p (loM a b) && !befB (hiM a b) p
def placeB (p q:Pt):Bool:=!befB p q && !befB q p
def xX (a b c d:Pt):Int:=(b.x-a.x)*(c.x*d.y-d.x*c.y)-(a.x*b.y-b.x*a.y)*(d.x-c.x)
def xY (a b c d:Pt):Int:=(a.x*b.y-b.x*a.y)*(c.y-d.y)-(a.y-b.y)*(c.x*d.y-d.x*c.y)
def xD (a b c d:Pt):Int:=(a.y-b.y)*(d.x-c.x)-(b.x-a.x)*(c.y-d.y)
def rlineM (a b c d:Pt):Mt:=
 let lo:=if befB (loM a b) (loM c d)=true then loM c d else loM a b
 let hi:=if befB (hiM c d) (hiM a b)=true then hiM c d else hiM a b
 if befB hi lo=true then zM else if placeB lo hi=true then ⟨1,lo,zP⟩ else ⟨2,lo,hi⟩
def rmeetM (a b c d:Pt):Mt:=
 let p:=norm (xX a b c d) (xY a b c d) (xD a b c d)
 if 0<p.d then (if withB p a b=true/\withB p c d=true then ⟨1,leastM p,zP⟩ else zM)
 else if detM a b c≠0 then zM else rlineM a b c d
theorem loM_gd {p q:Pt}(hp:Gd p)(hq:Gd q):Gd (loM p q):=by unfold loM;split <;> assumption
theorem hiM_gd {p q:Pt}(hp:Gd p)(hq:Gd q):Gd (hiM p q):=by unfold hiM;split <;> assumption
theorem lo_first {a b:Pt}(ha:a.d=1)(hb:b.d=1):loM a b=firstM a b:=by
 unfold loM firstM
 by_cases h:befB b a=true
 ·rw [if_pos h,if_pos ((cmp_neg hb ha).2 ((bef_L hb ha).1 h))]
 ·rw [if_neg h,if_neg (fun e=>h ((bef_L hb ha).2 ((cmp_neg hb ha).1 e)))]
theorem hi_last {a b:Pt}(ha:a.d=1)(hb:b.d=1):hiM a b=lastM a b:=by
 unfold hiM lastM
 by_cases h:befB b a=true
 ·rw [if_pos h,if_neg (fun e=>L_asym ((bef_L hb ha).1 h) ((cmp_pos hb ha).1 e))]
 ·rw [if_neg h]
  by_cases e:L a b
  ·rw [if_pos ((cmp_pos hb ha).2 e)]
  ·have:=L_anti ha hb e (fun k=>h ((bef_L hb ha).2 k))
   rw [<-this,ite_self]
theorem rline_eq {a b c d:Pt}(ha:a.d=1)(hb:b.d=1)(hc:c.d=1)(hd:d.d=1):rlineM a b c d=lineM a b c d:=by
 unfold rlineM lineM
 rw [lo_first ha hb,lo_first hc hd,hi_last ha hb,hi_last hc hd]
 have d1:=first_d ha hb
 have d2:=first_d hc hd
 have d3:=last_d ha hb
 have d4:=last_d hc hd
 generalize firstM a b=f1 at *
 generalize firstM c d=f2 at *
 generalize lastM a b=l1 at *
 generalize lastM c d=l2 at *
 have e1:(if befB f1 f2=true then f2 else f1)=lastM f1 f2:=by
  unfold lastM
  by_cases h:befB f1 f2=true
  ·rw [if_pos h,if_pos ((cmp_pos d2 d1).2 ((bef_L d1 d2).1 h))]
  ·rw [if_neg h,if_neg (fun e=>h ((bef_L d1 d2).2 ((cmp_pos d2 d1).1 e)))]
 have e2:(if befB l2 l1=true then l2 else l1)=firstM l1 l2:=by
  unfold firstM
  by_cases h:befB l2 l1=true
  ·rw [if_pos h,if_pos ((cmp_neg d4 d3).2 ((bef_L d4 d3).1 h))]
  ·rw [if_neg h,if_neg (fun e=>h ((bef_L d4 d3).2 ((cmp_neg d4 d3).1 e)))]
 have d5:=last_d d1 d2
 have d6:=first_d d3 d4
 simp only [e1,e2]
 generalize lastM f1 f2=f at *
 generalize firstM l1 l2=t at *
 by_cases h:befB t f=true
 ·rw [if_pos h,if_pos ((cmp_pos d5 d6).2 ((bef_L d6 d5).1 h))]
 ·have hn : ¬ L t f:=fun e=>h ((bef_L d6 d5).2 e)
  rw [if_neg h,if_neg (fun e=>hn ((cmp_pos d5 d6).1 e))]
  have e3:placeB f t=true↔cmpM f t=0:=by
   rw [cmp_zero d5 d6]
   unfold placeB
   simp only [Bool.and_eq_true,Bool.not_eq_true']
   constructor
   ·rintro ⟨k1,k2⟩
    exact L_anti d5 d6 (fun e=>by rw [(bef_L d5 d6).2 e] at k1;cases k1) hn
   ·rintro rfl
    have:befB f f=false:=by cases e:befB f f;rfl;exact absurd ((bef_L d5 d5).1 e) (fun k=>L_asym k k)
    exact ⟨this,this⟩
  by_cases k:cmpM f t=0
  ·rw [if_pos (e3.2 k),if_pos k]
  ·rw [if_neg (fun e=>k (e3.1 e)),if_neg k]
def NG (ux uy t:Int):Prop:=ux*t<0\/(ux*t=0/\uy*t<0)
theorem ng_pos {ux uy t:Int}(h:0<ux\/(ux=0/\0<uy)):NG ux uy t↔t<0:=by
 unfold NG
 rcases h with h | ⟨rfl,h⟩
 ·constructor
  ·rintro (k | ⟨k,k2⟩)
   ·rcases Int.lt_or_le t 0 with g | g
    ·exact g
    ·have:=Int.mul_nonneg (Int.le_of_lt h) g;omega
   ·rcases Int.mul_eq_zero.1 k with g | g
    ·omega
    ·rw [g] at k2;simp at k2
  ·intro g;exact .inl (Int.mul_neg_of_pos_of_neg h g)
 ·simp only [Int.zero_mul,Int.lt_irrefl,false_or,true_and]
  constructor
  ·intro k
   rcases Int.lt_or_le t 0 with g | g
   ·exact g
   ·have:=Int.mul_nonneg (Int.le_of_lt h) g;omega
  ·intro g;exact Int.mul_neg_of_pos_of_neg h g
theorem ng_flip (ux uy t:Int):NG (-ux) (-uy) (-t)↔NG ux uy t:=by
 unfold NG
 rw [Int.neg_mul_neg,Int.neg_mul_neg]
theorem with_iff {a b:Pt}(ha:a.d=1)(hb:b.d=1)(hab:a≠b){w s:Int} :
  withB ⟨a.x*w+(b.x-a.x)*s,a.y*w+(b.y-a.y)*s,w⟩ a b=true↔0<=s/\s<=w:=by
 have hu : ¬ ((b.x-a.x)=0/\(b.y-a.y)=0):=fun e=>hab (Pt.ext' (by omega) (by omega) (by omega))
 have ex:a.x*w+(b.x-a.x)*s-b.x*w=(b.x-a.x)*(s-w):=by grind
 have ey:a.y*w+(b.y-a.y)*s-b.y*w=(b.y-a.y)*(s-w):=by grind
 have b1:befB ⟨a.x*w+(b.x-a.x)*s,a.y*w+(b.y-a.y)*s,w⟩ a=true↔NG (b.x-a.x) (b.y-a.y) s:=by
  rw [bef_iff];unfold NG;simp only [ha,Int.mul_one];omega
 have b2:befB ⟨a.x*w+(b.x-a.x)*s,a.y*w+(b.y-a.y)*s,w⟩ b=true↔NG (b.x-a.x) (b.y-a.y) (s-w):=by
  rw [bef_iff];unfold NG;simp only [hb,Int.mul_one];rw [<-ex,<-ey];omega
 have b3:befB a ⟨a.x*w+(b.x-a.x)*s,a.y*w+(b.y-a.y)*s,w⟩=true↔NG (b.x-a.x) (b.y-a.y) (-s):=by
  rw [bef_iff];unfold NG;simp only [ha,Int.mul_one,Int.mul_neg];omega
 have b4:befB b ⟨a.x*w+(b.x-a.x)*s,a.y*w+(b.y-a.y)*s,w⟩=true↔NG (b.x-a.x) (b.y-a.y) (-(s-w)):=by
  rw [bef_iff];unfold NG;simp only [hb,Int.mul_one];rw [Int.mul_neg,Int.mul_neg,<-ex,<-ey];omega
 generalize hP:(⟨a.x*w+(b.x-a.x)*s,a.y*w+(b.y-a.y)*s,w⟩:Pt)=P at *
 have key:∀ x y:Bool,(!x && !y)=true↔¬ x=true/\¬ y=true:=by decide
 unfold withB loM hiM
 by_cases h:befB b a=true
 ·have hl:=(bef_L hb ha).1 h
  unfold L at hl
  rw [if_pos h,if_pos h,key,b2,b3,<-ng_flip,ng_pos (by omega),<-ng_flip (b.x-a.x),ng_pos (by omega)]
  omega
 ·have hl : ¬ L b a:=fun e=>h ((bef_L hb ha).2 e)
  unfold L at hl
  rw [if_neg h,if_neg h,key,b1,b4,ng_pos (by omega),ng_pos (by omega)]
  omega
theorem xD_w {a b c d:Pt}(ha:a.d=1)(hb:b.d=1)(hc:c.d=1)(hd:d.d=1):xD a b c d=detM a b d-detM a b c:=by
 rw [<-w_mn ha hb hc hd];unfold xD crossM;grind
theorem xX_n {a b c d:Pt}(ha:a.d=1)(hb:b.d=1)(hc:c.d=1)(hd:d.d=1):xX a b c d=a.x*(detM a b d-detM a b c)+(b.x-a.x)*detM c d a:=by
 unfold xX detM;rw [ha,hb,hc,hd];grind
theorem xY_n {a b c d:Pt}(ha:a.d=1)(hb:b.d=1)(hc:c.d=1)(hd:d.d=1):xY a b c d=a.y*(detM a b d-detM a b c)+(b.y-a.y)*detM c d a:=by
 unfold xY detM;rw [ha,hb,hc,hd];grind
theorem rmeet_eq {a b c d:Pt}(ha:a.d=1)(hb:b.d=1)(hc:c.d=1)(hd:d.d=1)(hab:a≠b)(hcd:c≠d):rmeetM a b c d=meetM a b c d:=by
 rw [meet_eq ha hb hc hd]
 unfold rmeetM
 rw [xD_w ha hb hc hd,xX_n ha hb hc hd,xY_n ha hb hc hd]
 have e:=pq_mn ha hb hc hd
 have xc:=x_cd ha hb hc hd
 have yc:=y_cd ha hb hc hd
 by_cases hw:detM a b d-detM a b c=0
 ·have hn : ¬ 0<(norm (a.x*(detM a b d-detM a b c)+(b.x-a.x)*detM c d a) (a.y*(detM a b d-detM a b c)+(b.y-a.y)*detM c d a) (detM a b d-detM a b c)).d:=by
   unfold norm;rw [if_neg (by omega)];show ¬ 0<detM a b d-detM a b c;omega
  simp only [if_neg hn,if_pos hw]
  rw [rline_eq ha hb hc hd]
 ·have hn:0<(norm (a.x*(detM a b d-detM a b c)+(b.x-a.x)*detM c d a) (a.y*(detM a b d-detM a b c)+(b.y-a.y)*detM c d a) (detM a b d-detM a b c)).d:=by
   unfold norm;split
   ·show 0 < -(detM a b d-detM a b c);omega
   ·show 0<detM a b d-detM a b c;omega
  simp only [if_pos hn,if_neg hw]
  have hg:(withB (norm (a.x*(detM a b d-detM a b c)+(b.x-a.x)*detM c d a) (a.y*(detM a b d-detM a b c)+(b.y-a.y)*detM c d a) (detM a b d-detM a b c)) a b=true/\withB (norm (a.x*(detM a b d-detM a b c)+(b.x-a.x)*detM c d a) (a.y*(detM a b d-detM a b c)+(b.y-a.y)*detM c d a) (detM a b d-detM a b c)) c d=true)↔goodM (detM a b d-detM a b c) (detM a b c) (detM a b d) (detM c d a) (detM c d b):=by
   unfold norm goodM
   by_cases h:detM a b d-detM a b c<0
   ·rw [if_pos h]
    have ex : -(a.x*(detM a b d-detM a b c)+(b.x-a.x)*detM c d a)=a.x*(-(detM a b d-detM a b c))+(b.x-a.x)*(-detM c d a):=by grind
    have ey : -(a.y*(detM a b d-detM a b c)+(b.y-a.y)*detM c d a)=a.y*(-(detM a b d-detM a b c))+(b.y-a.y)*(-detM c d a):=by grind
    have fx : -(a.x*(detM a b d-detM a b c)+(b.x-a.x)*detM c d a)=c.x*(-(detM a b d-detM a b c))+(d.x-c.x)*(detM a b c):=by rw [<-xc];grind
    have fy : -(a.y*(detM a b d-detM a b c)+(b.y-a.y)*detM c d a)=c.y*(-(detM a b d-detM a b c))+(d.y-c.y)*(detM a b c):=by rw [<-yc];grind
    have k1:=with_iff ha hb hab (w:=-(detM a b d-detM a b c)) (s:=-detM c d a)
    have k2:=with_iff hc hd hcd (w:=-(detM a b d-detM a b c)) (s:=detM a b c)
    rw [<-ex,<-ey] at k1
    rw [<-fx,<-fy] at k2
    rw [k1,k2]
    omega
   ·rw [if_neg h]
    have k1:=with_iff ha hb hab (w:=detM a b d-detM a b c) (s:=detM c d a)
    have k2:=with_iff hc hd hcd (w:=detM a b d-detM a b c) (s:=-detM a b c)
    rw [xc,yc] at k2
    rw [k1,k2]
    omega
  by_cases g:goodM (detM a b d-detM a b c) (detM a b c) (detM a b d) (detM c d a) (detM c d b)
  ·rw [if_pos (hg.2 g),across_good ha hb hc hd hw g]
  ·rw [if_neg (fun e=>g (hg.1 e)),across_bad ha hb hc hd hw g]
end Go.Proofs.YtnkcbephceollabGreat
