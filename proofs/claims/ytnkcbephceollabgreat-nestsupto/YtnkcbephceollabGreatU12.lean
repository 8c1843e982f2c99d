import Derived.Test.YtnkcbephceollabGreatU11
import Derived.Laws.CopyRow
import Derived.Laws.IdiomCopy
import Derived.Laws.CopyOwn
import Derived.Laws.MakeOwn
import Derived.Deep.OwnRows
namespace Go.Proofs.YtnkcbephceollabGreat
open Go.RowKit
set_option linter.unusedSimpArgs false
set_option linter.unusedVariables false
def bynd:Pt:=⟨1,2,3⟩
set_option maxHeartbeats 400000 in
theorem beyond_any (w:World) :
  Calls Tryz.prog 39 #[] w fun e w'=>e = .returned bynd.v/\w'=w.alloc (.cells #[.int .i64 1,.int .i64 2,.int .i64 3] 31):=by
 go_enter Tryz.func39,Tryz.ntmps39
 go_wp2
 exact bodyPost_ret (v:=bynd.v) (by simp [results,Tryz.results39,go_sem,bynd]) rfl ⟨rfl,rfl⟩
theorem neq_pt (x y d x' y' d':Int)(w:World):(binOp .neq 31 (.agg #[.int .i64 x,.int .i64 y,.int .i64 d]) (.agg #[.int .i64 x',.int .i64 y',.int .i64 d'])).run Tryz.prog w = .ok (.bool (!eqP ⟨x,y,d⟩ ⟨x',y',d'⟩)) w:=by
 by_cases h1:x=x'
 ·by_cases h2:y=y'
  ·by_cases h3:d=d' <;> simp [go_sem,eqP,h1,h2,h3]
  ·simp [go_sem,eqP,h1,h2]
 ·simp [go_sem,eqP,h1]
theorem eqP_self (p:Pt):eqP p p=true:=by simp [eqP]
set_option maxRecDepth 100000 in
set_option maxHeartbeats 1000000 in
theorem samePoints_yes (v v':Value)(r:List Pt)(w:World)(h:RingAt w v r)(h':RingAt w v' r) :
  Calls Tryz.prog 44 #[v,v'] w fun e w'=>e = .returned (.bool true)/\∃ n,w'=w.drewN n:=by
 obtain ⟨a,cap,rfl,h1,h2,h3⟩:=h
 obtain ⟨a',cap',rfl,_,_,h3'⟩:=h'
 have hneq:=neq_pt
 unfold maxLen at h2
 go_enter Tryz.func44,Tryz.ntmps44
 go_wp2_with fail
 go_loopw [5] (fun i w'=>∃ (k n:Nat),i = .int .i64 k/\k<=r.length/\w'=w.drewN n) (fun i _=>r.length-(intOf i).toNat)
 case atStart=>exact ⟨0,0,rfl,Nat.zero_le _,rfl⟩
 case round=>
  obtain ⟨k,n,rfl,hk,rfl⟩:=hrel
  by_cases hlt:k<r.length
  ·obtain ⟨b,off,rfl,_,c0,c1,c2⟩:=h3 k hlt
   obtain ⟨b',off',rfl,_,d0,d1,d2⟩:=h3' k hlt
   generalize r.getD k zP=p at *
   have hk0:(0:Int)<=(k:Int):=Int.natCast_nonneg _
   have hk1:(k:Int)<(r.length:Int):=by omega
   have e1:eqP ⟨p.x,p.y,p.d⟩ ⟨p.x,p.y,p.d⟩=true:=eqP_self p
   clear h3 h3'
   go_wp2_with fail
   go_quiet (fail)
   go_wp2
   go_roundw
   case rel=>exact ⟨k+1,_,by go_num,by omega,rfl⟩
   case measure=>simp [intOf];omega
  ·clear h3 h3'
   go_wp2
   go_ret
   exact ⟨rfl,n,rfl⟩
theorem RingAt.drewN {w:World}{v:Value}{r:List Pt}(h:RingAt w v r)(n:Nat):RingAt (w.drewN n) v r:=h.later (below_drewN (Below.refl _ _) n)
theorem PolyAt.drewN {w:World}{v:Value}{P:List (List Pt)}(h:PolyAt w v P)(n:Nat):PolyAt (w.drewN n) v P:=h.later (below_drewN (Below.refl _ _) n)
set_option maxRecDepth 100000 in
set_option maxHeartbeats 1000000 in
theorem sameRings_yes (v v':Value)(P:List (List Pt))(w:World)(h:PolyAt w v P)(h':PolyAt w v' P) :
  Calls Tryz.prog 30 #[v,v'] w fun e w'=>e = .returned (.bool true)/\∃ n,w'=w.drewN n:=by
 obtain ⟨a,cap,rfl,h1,h2,h3⟩:=h
 obtain ⟨a',cap',rfl,_,_,h3'⟩:=h'
 unfold maxLen at h2
 go_enter Tryz.func30,Tryz.ntmps30
 go_wp2_with fail
 go_loopw [5,6] (fun i _ w'=>∃ (k n:Nat),i = .int .i64 k/\k<=P.length/\w'=w.drewN n) (fun i _ _=>P.length-(intOf i).toNat)
 case atStart=>exact ⟨0,0,rfl,Nat.zero_le _,rfl⟩
 case round=>
  obtain ⟨k,n,rfl,hk,hw⟩:=hrel
  have HW:=hide hw
  by_cases hlt:k<P.length
  ·obtain ⟨b,off,rv,rfl,_,c0',hr0⟩:=h3 k hlt
   obtain ⟨b',off',rv',rfl,_,d0',hr0'⟩:=h3' k hlt
   have c0:wr.cell? ⟨b,off+k,none⟩=some rv:=by rw [hw];exact c0'
   have d0:wr.cell? ⟨b',off'+k,none⟩=some rv':=by rw [hw];exact d0'
   have hr:RingAt wr rv (P.getD k []):=by rw [hw];exact hr0.drewN n
   have hr':RingAt wr rv' (P.getD k []):=by rw [hw];exact hr0'.drewN n
   clear c0' d0' hr0 hr0' hw
   generalize P.getD k []=r at *
   have hk0:(0:Int)<=(k:Int):=Int.natCast_nonneg _
   have hk1:(k:Int)<(P.length:Int):=by omega
   clear h3 h3'
   go_wp2_with fail
   go_quiet ((go_at_call 44;exact Calls.quiet_of (samePoints_yes _ _ r _ (hr.drewN _) (hr'.drewN _))))
   go_wp2
   go_roundw
   case rel=>exact ⟨k+1,n+nq,by go_num,by omega,by rw [HW.out,World.drewN_drewN]⟩
   case measure=>simp [intOf];omega
  ·clear h3 h3' hw
   go_wp2
   go_ret
   exact ⟨rfl,n,HW.out⟩
set_option maxHeartbeats 1000000 in
theorem it_any (pb rb wb n:Nat)(w:World)(h0:w.cell? ⟨pb,0,none⟩=some (.slice (some ⟨rb,0,none⟩) (n+1) (n+1)))(h1:w.cell? ⟨pb,1,none⟩=some (.slice (some ⟨wb,0,none⟩) n n)) :
  Calls Tryz.prog 19 #[.pointer (some ⟨pb,0,none⟩)] w fun e w'=>e = .returned (.slice (some ⟨rb,0,none⟩) n (n+1))/\∃ m,w'=w.drewN m:=by
 have hn:(n:Int)<=((n+1:Nat):Int):=by omega
 have hn2:n<=n+1:=by omega
 go_enter Tryz.func19,Tryz.ntmps19
 go_wp2_with fail
 go_quiet (fail)
 go_wp2
 go_ret
 exact ⟨rfl,_,rfl⟩
theorem run_copy_many {P:Program}(w:World)(dT sT ty elem:TypeId)(g dLen dCap:Nat)(a:Addr)(sLen sCap sz:Nat)(cur:Array Value)(t:TypeId)(cs:List Value)
  (hu:P.underlying dT=some (.slice elem)) (hs:(P.info? elem).map (·.size)=some sz) (hg:w.heap[g]?=some (.cells cur t (0,0))) (hle:sLen<=dLen) (hn:cs.length=sLen*sz)
  (hsrc:∀ j v,cs[j]?=some v->w.cell? (a.add j)=some v) (hfit:cs.length<=cur.size) (h1:∀ v∈cs,v.oneCell'=true) :
  (Builtin.copy_ #[dT,sT] ty #[.slice (some ⟨g,0,none⟩) dLen dCap,.slice (some a) sLen sCap]).run P w = .ok (goInt sLen) (w.setRow g (cs ++ cur.toList.drop cs.length).toArray):=by
 have e1:=run_loadCells_list (P:=P) w a cs hsrc
 have e2:=run_storeCells_at P g 0 t cs 0 cur w hg (by simpa using hfit) h1
 obtain ⟨i,hq,hi⟩:=Option.map_eq_some_iff.1 hs
 have hm:Nat.min sLen dLen=sLen:=Nat.min_eq_left hle
 simp only [Nat.zero_add,List.take_zero,List.nil_append] at e2
 simp [Builtin.copy_,run_underlying hu,Builtin.lenOf,Builtin.firstCells,sizeOf,typeInfo,hq,hi,hm,<-hn,e1,e2]
theorem run_copy_zero {P:Program}(w:World)(dT sT ty elem:TypeId)(d a:Option Addr)(dLen dCap sCap sz:Nat)(hu:P.underlying dT=some (.slice elem))(hs:(P.info? elem).map (·.size)=some sz) :
  (Builtin.copy_ #[dT,sT] ty #[.slice d dLen dCap,.slice a 0 sCap]).run P w = .ok (goInt 0) w:=by
 obtain ⟨i,hq,hi⟩:=Option.map_eq_some_iff.1 hs
 have e:=fun x:Addr=>run_loadCells_list (P:=P) w x [] (by intro j v h;simp at h)
 cases d <;> cases a <;> simp [Builtin.copy_,run_underlying hu,Builtin.lenOf,Builtin.firstCells,sizeOf,typeInfo,hq,hi,storeCells]
 ·have:=e (by assumption);simp at this;simp [this]
 ·rename_i x y;have:=e y;simp at this;simp [this,storeCells]
abbrev nilS:Value:=.slice none 0 0
def TyAt (w:World)(b:Nat)(t:TypeId):Prop:=∃ vs,w.heap[b]?=some (.cells vs t (0,0))
theorem TyAt.new (w:World)(vs:Array Value)(t:TypeId):TyAt (w.alloc (.cells vs t)) w.heap.size t:=⟨vs,heap_alloc_new w _⟩
theorem TyAt.at (b:Nat){w:World}{vs:Array Value}{t:TypeId}(h:b=w.heap.size):TyAt (w.alloc (.cells vs t)) b t:=h ▸ TyAt.new w vs t
theorem TyAt.lt {w:World}{b:Nat}{t:TypeId}(h:TyAt w b t):b<w.heap.size:=by
 obtain ⟨vs,e⟩:=h
 exact (Array.getElem?_eq_some_iff.1 e).1
theorem TyAt.alloc {w:World}{b:Nat}{t:TypeId}(h:TyAt w b t)(o:Obj):TyAt (w.alloc o) b t:=by
 have hl:=h.lt
 obtain ⟨vs,e⟩:=h
 exact ⟨vs,(Below.heap_alloc w o b hl).trans e⟩
theorem TyAt.setCell {w:World}{b:Nat}{t:TypeId}(h:TyAt w b t)(p o:Nat)(u:Value):TyAt (w.setCell ⟨p,o,none⟩ u) b t:=by
 obtain ⟨vs,e⟩:=h
 by_cases k:b=p
 ·subst k
  exact ⟨_,heap_setCell_same w b o vs t u e⟩
 ·exact ⟨vs,(heap_setCell_other w ⟨p,o,none⟩ b u k).trans e⟩
theorem TyAt.drew {w:World}{b:Nat}{t:TypeId}(h:TyAt w b t):TyAt w.drew b t:=h
theorem TyAt.same {w w':World}{b:Nat}{t:TypeId}(h:TyAt w b t)(e:w'.heap[b]?=w.heap[b]?):TyAt w' b t:=by
 obtain ⟨vs,k⟩:=h
 exact ⟨vs,e.trans k⟩
theorem TyAt.call {w w':World}{b:Nat}{t:TypeId}(h:TyAt w b t)(hb:Below w.heap.size w w'):TyAt w' b t:=h.same (hb.block b h.lt)
theorem Blk.whole {w:World}{b:Nat}{vs:Array Value}{t:TypeId}(h:Blk w b vs)(k:TyAt w b t):w.heap[b]?=some (.cells vs t (0,0)):=by
 obtain ⟨cs,e⟩:=k
 have:cs=vs:=by
  apply Array.ext_getElem?
  intro o
  rw [<-h.cell o,cell_of_row w b o cs t (0,0) e]
 rw [<-this];exact e
structure HandAt (w:World)(pb rb wb:Nat)(rg:Nat->Nat)(P:List (List Pt))(i:Nat)(vs us:Array Value):Prop where
 pbk:Blk w pb #[.slice (some ⟨rb,0,none⟩) (P.length+1) (P.length+1),.slice (some ⟨wb,0,none⟩) P.length P.length]
 rbk:Blk w rb vs
 wbk:Blk w wb us
 vsz:vs.size=P.length+1
 usz:us.size=P.length
 vat:∀ t,t<i->vs[t]?=some (.slice (some ⟨rg t,0,none⟩) (P.getD t []).length ((P.getD t []).length+1))
 uat:∀ t,t<i->us[t]?=some (.slice (some ⟨rg t,0,none⟩) ((P.getD t []).length+1) ((P.getD t []).length+1))
 pts:∀ t,t<i->Blk w (rg t) (ptCells (P.getD t [] ++ [bynd])).toArray
 ord:∀ t,t<i->pb<rg t/\∀ t',t'<t->rg t'<rg t
 rty:TyAt w rb 57
 pty:∀ t,t<i->TyAt w (rg t) 31
abbrev zeros (k:Nat):Array Value:=madeCells #[.int .i64 0,.int .i64 0,.int .i64 0] ((k+1)*3)
theorem mk_ring (k:Nat)(hk:k<=1048576)(W:World):(Instr.makeSlice 57 (.int .i64 ((k:Int)+1)) (.int .i64 ((k:Int)+1))).run Tryz.prog W = .ok (.slice (some ⟨W.heap.size,0,none⟩) (k+1) (k+1)) (W.alloc (.cells (zeros k) 31)):=by
 obtain ⟨i0,hi0,hz0,hz1,hz2⟩:=info_parts infoPoint
 have h:=run_make (P:=Tryz.prog) W 57 31 i0 _ Tryz.underlying57 hi0 hz0 .i64 .i64 ((k:Int)+1) ((k:Int)+1) (by omega) (by omega) (by rw [hz2];omega) (by omega)
 rw [h,hz1,show ((k:Int)+1).toNat=k+1 by omega]
 rfl
def copied (r:List Pt):Array Value:=(ptCells r ++ (zeros r.length).toList.drop (ptCells r).length).toArray
theorem copied_size (r:List Pt):(copied r).size=(r.length+1)*3:=by
 unfold copied
 simp [ptCells_len,size_madeCells]
 omega
theorem copied_tail (r:List Pt)(t:Nat)(ht:t<3):(copied r)[r.length*3+t]?=some (.int .i64 0):=by
 unfold copied
 rw [List.getElem?_toArray,List.getElem?_append_right (by rw [ptCells_len];omega),ptCells_len,List.getElem?_drop]
 simp only [Array.getElem?_toList]
 rw [show r.length*3+(r.length*3+t-r.length*3)=r.length*3+t by omega]
 have hm:(r.length*3+t) % 3=t:=by omega
 simp only [zeros,madeCells,Array.getElem?_map]
 rw [Array.getElem?_range]
 rw [if_pos (by omega)]
 match t,ht with
 | 0,_=>simp
 | 1,_=>simp [show (r.length*3+1) % 3=1 by omega]
 | 2,_=>simp [show (r.length*3+2) % 3=2 by omega]
theorem setRow_new (W:World)(x y:Array Value)(t:TypeId):(W.alloc (.cells x t)).setRow W.heap.size y=W.alloc (.cells y t):=by
 have h:((W.heap.push (.cells x t)).modify W.heap.size fun | .cells _ elem frozen=>.cells y elem frozen | o=>o)=W.heap.push (.cells y t):=by
  apply Array.ext
  ·simp
  ·intro k h1 h2
   simp only [Array.getElem_modify]
   by_cases e:W.heap.size=k
   ·subst e;simp
   ·rw [if_neg e]
    have hk:k<W.heap.size:=by simp at h2;omega
    simp [Array.getElem_push,hk]
 show World.mk _ _ _ _ _=World.mk _ _ _ _ _
 rw [<-h]
 rfl
theorem copy_ring (wr w:World)(r:List Pt)(a':Option Addr)(cap':Nat)(hbel:Below w.heap.size w wr)(g3:∀ j,j<r.length->∃ b off,a'=some ⟨b,off,none⟩/\b<w.heap.size/\PtAt w b (off+j*3) (r.getD j zP)) :
  (Builtin.copy_ #[57,57] 3 #[.slice (some ⟨wr.heap.size,0,none⟩) (r.length+1) (r.length+1),.slice a' r.length cap']).run Tryz.prog (wr.alloc (.cells (zeros r.length) 31)) = .ok (goInt r.length) (wr.alloc (.cells (copied r) 31)):=by
 have hs:(Tryz.prog.info? 31).map (·.size)=some 3:=by kernel_rfl
 by_cases h0:r.length=0
 ·have e:r=[]:=List.eq_nil_of_length_eq_zero h0
  subst e
  have:=run_copy_zero (P:=Tryz.prog) (wr.alloc (.cells (zeros 0) 31)) 57 57 3 31 (some ⟨wr.heap.size,0,none⟩) a' 1 1 cap' 3 Tryz.underlying57 hs
  simpa [copied,ptCells] using this
 ·obtain ⟨b,off,rfl,hb,_⟩:=g3 0 (by omega)
  have hp:∀ j,j<r.length->PtAt (wr.alloc (.cells (zeros r.length) 31)) b (off+j*3) (r.getD j zP):=fun j hj=>by
   obtain ⟨b2,off2,e2,_,h⟩:=g3 j hj
   simp at e2
   obtain ⟨rfl,rfl⟩:=e2
   exact h.later (hbel.alloc hbel.size _) hb
  have h:=run_copy_many (P:=Tryz.prog) (wr.alloc (.cells (zeros r.length) 31)) 57 57 3 31 wr.heap.size (r.length+1) (r.length+1) ⟨b,off,none⟩ r.length cap' 3 (zeros r.length) 31 (ptCells r) Tryz.underlying57 hs (heap_alloc_new wr _) (by omega) (ptCells_len r) (ring_news hp) (by rw [ptCells_len,size_madeCells];omega) (ptCells_one r)
  rw [h,setRow_new]
  rfl
theorem zeros_tail (r:List Pt):(zeros r.length).toList.drop (ptCells r).length=[.int .i64 0,.int .i64 0,.int .i64 0]:=by
 apply List.ext_getElem?
 intro t
 by_cases ht:t<3
 ·have h:=copied_tail r t ht
  unfold copied at h
  rw [List.getElem?_toArray,List.getElem?_append_right (by rw [ptCells_len];omega),ptCells_len] at h
  rw [ptCells_len]
  rw [show r.length*3+t-r.length*3=t by omega] at h
  rw [h]
  match t,ht with
  | 0,_=>rfl
  | 1,_=>rfl
  | 2,_=>rfl
 ·rw [List.getElem?_eq_none (by simp [ptCells_len,size_madeCells];omega),List.getElem?_eq_none (by simp;omega)]
theorem copied_eq (r:List Pt):copied r=(ptCells r ++ [Value.int .i64 0,Value.int .i64 0,Value.int .i64 0]).toArray:=by unfold copied;rw [zeros_tail]
theorem copied_done (r:List Pt):(((copied r).setIfInBounds (r.length*3) (.int .i64 bynd.x)).setIfInBounds (r.length*3+1) (.int .i64 bynd.y)).setIfInBounds (r.length*3+2) (.int .i64 bynd.d)=(ptCells (r ++ [bynd])).toArray:=by
 rw [copied_eq,ptCells_append]
 have hl:=ptCells_len r
 simp only [List.setIfInBounds_toArray]
 congr 1
 rw [<-hl]
 rw [List.set_append_right _ _ (by omega),List.set_append_right _ _ (by omega),List.set_append_right _ _ (by omega)]
 simp [ptCells,ptCell]
theorem hand_step {wr w1:World}{pb rb wb:Nat}{rg:Nat->Nat}{P:List (List Pt)}{i:Nat}{vs us:Array Value}{r:List Pt}(h:HandAt wr pb rb wb rg P i vs us)(hr:P.getD i []=r)(hi:i<P.length)(hrp:rb<pb)(hwp:wb<pb)(hrw:rb≠wb)
  (k1:Below (wr.alloc (.cells (copied r) 31)).heap.size (wr.alloc (.cells (copied r) 31)) w1) :
  HandAt (((((w1.setCell ⟨wr.heap.size,r.length*3,none⟩ (.int .i64 bynd.x)).setCell ⟨wr.heap.size,r.length*3+1,none⟩ (.int .i64 bynd.y)).setCell ⟨wr.heap.size,r.length*3+2,none⟩ (.int .i64 bynd.d)).setCell ⟨wb,i,none⟩ (.slice (some ⟨wr.heap.size,0,none⟩) (r.length+1) (r.length+1))).setCell ⟨rb,i,none⟩ (.slice (some ⟨wr.heap.size,0,none⟩) r.length (r.length+1))).drew
   pb rb wb (fun t=>if t=i then wr.heap.size else rg t) P (i+1) (vs.setIfInBounds i (.slice (some ⟨wr.heap.size,0,none⟩) r.length (r.length+1))) (us.setIfInBounds i (.slice (some ⟨wr.heap.size,0,none⟩) (r.length+1) (r.length+1))):=by
 have lp:=h.pbk.lt
 have lr:=h.rbk.lt
 have lw:=h.wbk.lt
 have g0:=(Blk.new wr (copied r) 31).call k1
 have g1:=((g0.set (r.length*3) (by rw [copied_size];omega) (.int .i64 bynd.x)).set (r.length*3+1) (by simp [copied_size];omega) (.int .i64 bynd.y)).set (r.length*3+2) (by simp [copied_size];omega) (.int .i64 bynd.d)
 rw [copied_done] at g1
 have far:∀ {b:Nat} {ws:Array Value},Blk wr b ws->b≠wb->b≠rb->Blk (((((w1.setCell ⟨wr.heap.size,r.length*3,none⟩ (.int .i64 bynd.x)).setCell ⟨wr.heap.size,r.length*3+1,none⟩ (.int .i64 bynd.y)).setCell ⟨wr.heap.size,r.length*3+2,none⟩ (.int .i64 bynd.d)).setCell ⟨wb,i,none⟩ (.slice (some ⟨wr.heap.size,0,none⟩) (r.length+1) (r.length+1))).setCell ⟨rb,i,none⟩ (.slice (some ⟨wr.heap.size,0,none⟩) r.length (r.length+1))).drew b ws:=fun {b ws} hb e1 e2=>by
  have hl:=hb.lt
  exact (((((((hb.alloc _).call k1).off (by omega) _ _).off (by omega) _ _).off (by omega) _ _).off e1 _ _).off e2 _ _).drew
 have farT:∀ {b:Nat} {ty:TypeId},TyAt wr b ty->TyAt (((((w1.setCell ⟨wr.heap.size,r.length*3,none⟩ (.int .i64 bynd.x)).setCell ⟨wr.heap.size,r.length*3+1,none⟩ (.int .i64 bynd.y)).setCell ⟨wr.heap.size,r.length*3+2,none⟩ (.int .i64 bynd.d)).setCell ⟨wb,i,none⟩ (.slice (some ⟨wr.heap.size,0,none⟩) (r.length+1) (r.length+1))).setCell ⟨rb,i,none⟩ (.slice (some ⟨wr.heap.size,0,none⟩) r.length (r.length+1))).drew b ty:=fun {b ty} hb=>
  ((((((((
      hb.alloc _).call k1).setCell _ _ _).setCell _ _ _).setCell _ _ _).setCell _ _ _).setCell _ _ _)).drew
 refine ⟨far h.pbk (by omega) (by omega),?_,?_,by simpa using h.vsz,by simpa using h.usz,?_,?_,?_,?_,farT h.rty,?_⟩
 ·exact ((((((((h.rbk.alloc _).call k1).off (by omega) _ _).off (by omega) _ _).off (by omega) _ _).off hrw _ _).set i (by rw [h.vsz];omega) _).drew)
 ·exact ((((((((h.wbk.alloc _).call k1).off (by omega) _ _).off (by omega) _ _).off (by omega) _ _).set i (by rw [h.usz];omega) _).off (Ne.symm hrw) _ _).drew)
 ·intro t ht
  rw [Array.getElem?_setIfInBounds]
  by_cases e:i=t
  ·subst e;rw [if_pos rfl,if_pos (by rw [h.vsz];omega),hr];simp
  ·rw [if_neg e,h.vat t (by omega),if_neg (fun k=>e k.symm)]
 ·intro t ht
  rw [Array.getElem?_setIfInBounds]
  by_cases e:i=t
  ·subst e;rw [if_pos rfl,if_pos (by rw [h.usz];omega),hr];simp
  ·rw [if_neg e,h.uat t (by omega),if_neg (fun k=>e k.symm)]
 ·intro t ht
  by_cases e:t=i
  ·subst e
   rw [if_pos rfl,hr]
   exact ((g1.off (by omega) _ _).off (by omega) _ _).drew
  ·rw [if_neg e]
   have o:=h.ord t (by omega)
   exact far (h.pts t (by omega)) (by omega) (by omega)
 ·intro t ht
  by_cases e:t=i
  ·subst e
   rw [if_pos rfl]
   refine ⟨lp,fun t' ht'=>?_⟩
   rw [if_neg (by omega)]
   exact (h.pts t' ht').lt
  ·rw [if_neg e]
   have o:=h.ord t (by omega)
   refine ⟨o.1,fun t' ht'=>?_⟩
   rw [if_neg (by omega)]
   exact o.2 t' ht'
 ·intro t ht
  by_cases e:t=i
  ·subst e
   rw [if_pos rfl]
   exact (((((((TyAt.new wr (copied r) 31).call k1).setCell _ _ _).setCell _ _ _).setCell _ _ _).setCell _ _ _).setCell _ _ _).drew
  ·rw [if_neg e]
   exact farT (h.pty t (by omega))
structure ArgAt (w:World)(base pb rb wb xb:Nat)(rg:Nat->Nat)(P:List (List Pt))(vs us:Array Value):Prop where
 hand:HandAt w pb rb wb rg P P.length vs us
 last:vs[P.length]?=some (.slice (some ⟨xb,0,none⟩) 1 1)
 xbk:Blk w xb #[.int .i64 1,.int .i64 2,.int .i64 3]
 xord:∀ t,t<P.length->rg t<xb
 pbx:pb<xb
 rbase:base<=rb
 wbase:base<=wb
 rp:rb<pb
 wp:wb<pb
 rw':rb≠wb
theorem hand_last {wr:World}{base pb rb wb:Nat}{rg:Nat->Nat}{P:List (List Pt)}{vs us:Array Value}(h:HandAt wr pb rb wb rg P P.length vs us)(hrp:rb<pb)(hwp:wb<pb)(hrw:rb≠wb)(hrb:base<=rb)(hwb:base<=wb) :
  ArgAt (((wr.setCell ⟨rb,P.length,none⟩ (.slice (some ⟨wr.heap.size+1,0,none⟩) 1 1)).alloc (.cells #[.int .i64 1,.int .i64 2,.int .i64 3] 31)).alloc (.cells #[.int .i64 bynd.x,.int .i64 bynd.y,.int .i64 bynd.d] 31)).drew
   base pb rb wb (wr.heap.size+1) rg P (vs.setIfInBounds P.length (.slice (some ⟨wr.heap.size+1,0,none⟩) 1 1)) us:=by
 have lp:=h.pbk.lt
 have lr:=h.rbk.lt
 have lw:=h.wbk.lt
 have far:∀ {b:Nat} {ws:Array Value},Blk wr b ws->b≠rb->Blk (((wr.setCell ⟨rb,P.length,none⟩ (.slice (some ⟨wr.heap.size+1,0,none⟩) 1 1)).alloc (.cells #[.int .i64 1,.int .i64 2,.int .i64 3] 31)).alloc (.cells #[.int .i64 bynd.x,.int .i64 bynd.y,.int .i64 bynd.d] 31)).drew b ws:=fun {b ws} hb e=>(((hb.off e _ _).alloc _).alloc _).drew
 refine ⟨⟨far h.pbk (by omega),(((h.rbk.set P.length (by rw [h.vsz];omega) _).alloc _).alloc _).drew,far h.wbk (Ne.symm hrw),by simpa using h.vsz,h.usz,?_,h.uat,?_,h.ord,(((h.rty.setCell _ _ _).alloc _).alloc _).drew,fun t ht=>((((h.pty t ht).setCell _ _ _).alloc _).alloc _).drew⟩,?_,?_,?_,by omega,hrb,hwb,hrp,hwp,hrw⟩
 ·intro t ht
  rw [Array.getElem?_setIfInBounds,if_neg (by omega)]
  exact h.vat t ht
 ·intro t ht
  have o:=h.ord t ht
  exact far (h.pts t ht) (by omega)
 ·rw [Array.getElem?_setIfInBounds,if_pos rfl,if_pos (by rw [h.vsz];omega)]
 ·exact (Blk.at (wr.heap.size+1) (by simp)).drew
 ·intro t ht
  have:=(h.pts t ht).lt
  omega
set_option maxRecDepth 100000 in
set_option maxHeartbeats 4000000 in
theorem handed_any (v:Value)(P:List (List Pt))(w:World)(hP:PolyAt w v P)(hn:P.length<=1048576)(hS:∀ i,i<P.length->(P.getD i []).length<=1048576) :
  Calls Tryz.prog 17 #[v] w fun e w'=>∃ pb rb wb xb rg vs us,e = .returned (.pointer (some ⟨pb,0,none⟩))/\ArgAt w' w.heap.size pb rb wb xb rg P vs us/\Below w.heap.size w w':=by
 obtain ⟨a,cap,rfl,h1,h2,h3⟩:=hP
 unfold maxLen at h2
 have hm1:∀ W,(Instr.makeSlice 29 (.int .i64 ((P.length:Int)+1)) (.int .i64 ((P.length:Int)+1))).run Tryz.prog W = .ok (.slice (some ⟨W.heap.size,0,none⟩) (P.length+1) (P.length+1)) (W.alloc (.cells (madeCells #[nilS] (P.length+1)) 57)):=fun W=>by
  have:=run_make_row' (P:=Tryz.prog) 29 57 nilS 24 Tryz.underlying29 infoRing rfl .i64 .i64 (P.length+1) (by omega) (by omega) W
  rw [show ((P.length+1:Nat):Int)=(P.length:Int)+1 by omega] at this
  exact this
 have hm2:∀ W,(Instr.makeSlice 29 (.int .i64 (P.length:Int)) (.int .i64 (P.length:Int))).run Tryz.prog W = .ok (.slice (some ⟨W.heap.size,0,none⟩) P.length P.length) (W.alloc (.cells (madeCells #[nilS] P.length) 57)):=fun W=>
  run_make_row' (P:=Tryz.prog) 29 57 nilS 24 Tryz.underlying29 infoRing rfl .i64 .i64 P.length (by omega) (by omega) W
 go_enter Tryz.func17,Tryz.ntmps17
 go_upto_region 2 with fail
 go_cut [4] (fun ap w'=>∃ pb rb wb:Nat,ap = .pointer (some ⟨pb,0,none⟩)/\rb≠wb/\w.heap.size<=rb/\w.heap.size<=wb/\rb<pb/\wb<pb/\Blk w' pb #[.slice (some ⟨rb,0,none⟩) (P.length+1) (P.length+1),.slice (some ⟨wb,0,none⟩) P.length P.length]/\Blk w' rb (madeCells #[nilS] (P.length+1))/\Blk w' wb (madeCells #[nilS] P.length)/\TyAt w' rb 57/\Below w.heap.size w w')
 case first=>
  go_region
  ·go_wp2_with fail
   go_meet
   exact ⟨w.heap.size+1+1,w.heap.size,w.heap.size+1,rfl,by omega,by omega,by omega,by omega,by omega,(Blk.at _ (by simp)).drew,(((Blk.new w _ _).alloc _).alloc _).drew,((Blk.at _ (by simp)).alloc _).drew,(((TyAt.new w _ _).alloc _).alloc _).drew,(below3 _ _ _ _).drew⟩
  ·go_wp2_with fail
   go_meet
   exact ⟨w.heap.size+1+1,w.heap.size+1,w.heap.size,rfl,by omega,by omega,by omega,by omega,by omega,(Blk.at _ (by simp)).drew,((Blk.at _ (by simp)).alloc _).drew,(((Blk.new w _ _).alloc _).alloc _).drew,((TyAt.at _ (by simp)).alloc _).drew,(below3 _ _ _ _).drew⟩
 case rest=>
  obtain ⟨pb,rb,wb,rfl,hrw,hrb,hwb,hrp,hwp,hpk,hrk,hwk,hrt,B0⟩:=hcut
  clear hm1 hm2
  go_wp2_with fail
  go_loopw [5,6,7] (fun c _ _ w'=>∃ (i:Nat) (rg:Nat->Nat) (vs us:Array Value),c = .int .i64 i/\i<=P.length/\HandAt w' pb rb wb rg P i vs us/\Below w.heap.size w w') (fun c _ _ _=>P.length-(intOf c).toNat)
  case atStart=>exact ⟨0,fun _=>0,_,_,rfl,Nat.zero_le _,⟨hpk,hrk,hwk,size_madeCells _ _,size_madeCells _ _,fun t h=>absurd h (Nat.not_lt_zero _),fun t h=>absurd h (Nat.not_lt_zero _),fun t h=>absurd h (Nat.not_lt_zero _),fun t h=>absurd h (Nat.not_lt_zero _),hrt,fun t h=>absurd h (Nat.not_lt_zero _)⟩,B0⟩
  case round=>
   clear hpk hrk hwk hrt B0
   obtain ⟨i,rg,vs,us,rfl,hi,hH,hbel⟩:=hrel
   by_cases hlt:i<P.length
   ·obtain ⟨b,off,rv,rfl,hb,hc0,hr0⟩:=h3 i hlt
    have hc:=(hbel.cell (p:=⟨b,off+i,none⟩) hb).trans hc0
    have hr:=hr0
    have hsm:=hS i hlt
    have HX:=hide hH
    generalize hrr:P.getD i []=r at *
    obtain ⟨a',cap',rfl,g1,g2,g3⟩:=hr
    unfold maxLen at g2
    have hm3:=mk_ring r.length (by omega)
    have hcp:=copy_ring wr w r a' cap' hbel g3
    obtain ⟨hp0,hp1⟩:=And.intro (hH.pbk.cell 0) (hH.pbk.cell 1)
    simp at hp0 hp1
    have hbw:b<wr.heap.size:=by have:=hbel.size;omega
    have hpw:=hH.pbk.lt
    have hrw':=hH.rbk.lt
    have hww':=hH.wbk.lt
    clear h3 hc0 hr0 hS hH g3
    go_wp2_with fail
    refine (beyond_any _).mono ?_
    rintro e w1 ⟨rfl,hw1⟩
    have k1:Below (wr.alloc (.cells (copied r) 31)).heap.size (wr.alloc (.cells (copied r) 31)) w1:=by
     rw [hw1];exact (Below.refl _ _).alloc (Nat.le_refl _) _
    clear hw1 hcp hm3 hc
    have hgb:=(Blk.new wr (copied r) 31).call k1
    have hx0:=(hgb.cell (r.length*3)).trans (copied_tail r 0 (by decide))
    have hx1:=(hgb.cell (r.length*3+1)).trans (copied_tail r 1 (by decide))
    have hx2:=(hgb.cell (r.length*3+2)).trans (copied_tail r 2 (by decide))
    have hfx:=hgb.free
    have hpk:=(HX.out.pbk.alloc (.cells (copied r) 31)).call k1
    have hp0:=hpk.cell 0
    have hp1:=hpk.cell 1
    simp at hp0 hp1
    have hwk:=(HX.out.wbk.alloc (.cells (copied r) 31)).call k1
    have hrk:=(HX.out.rbk.alloc (.cells (copied r) 31)).call k1
    obtain ⟨u0,hu0⟩:∃ u,us[i]?=some u:=⟨_,Array.getElem?_eq_getElem (by rw [HX.out.usz];exact hlt)⟩
    obtain ⟨v0,hv0⟩:∃ u,vs[i]?=some u:=⟨_,Array.getElem?_eq_getElem (by rw [HX.out.vsz];omega)⟩
    have hu:=(hwk.cell i).trans hu0
    have hv:=(hrk.cell i).trans hv0
    have hfw:=hwk.free
    have hfr:=hrk.free
    have hgl:=hgb.lt
    have hii1:(i:Int)<(P.length:Int):=by omega
    have hii2:(i:Int)<(P.length:Int)+1:=by omega
    have hrl:(r.length:Int)<=(r.length:Int)+1:=by omega
    have hrl2:r.length<=r.length+1:=by omega
    have K1:=hide k1
    have HU:=hide hu0
    have HV:=hide hv0
    clear hgb hpk hwk hrk k1 hu0 hv0
    go_wp2_with fail
    go_region
    go_wp2
    have hst:=hand_step HX.out hrr hlt hrp hwp hrw K1.out
    have hbl:Below w.heap.size w w1:=bvia (hbel.alloc hbel.size _) K1.out
    exact ⟨⟨i+1,_,_,_,by go_num,by omega,hst,((((((hbl.setCell (by have:=hbel.size;simpa using this) _).setCell (by have:=hbel.size;simpa using this) _).setCell (by have:=hbel.size;simpa using this) _).setCell (by simpa using hwb) _).setCell (by simpa using hrb) _).drew)⟩,by simp [intOf];omega⟩
   ·have ei:i=P.length:=by omega
    subst ei
    obtain ⟨hp0,hp1⟩:=And.intro (hH.pbk.cell 0) (hH.pbk.cell 1)
    simp at hp0 hp1
    have HX:=hide hH
    have hpw:=hH.pbk.lt
    have hrw':=hH.rbk.lt
    have hfr:=hH.rbk.free
    obtain ⟨v0,hv0⟩:∃ u,vs[P.length]?=some u:=⟨_,Array.getElem?_eq_getElem (by rw [hH.vsz];omega)⟩
    have hv:=(hH.rbk.cell P.length).trans hv0
    have hii2:(P.length:Int)<(P.length:Int)+1:=by omega
    clear h3 hS hH hv0
    go_wp2_with fail
    go_region_with (go_at_call 39;refine (beyond_any _).mono ?_;rintro e w1 ⟨rfl,hw1⟩;subst hw1)
    all_goals
     go_wp2
     go_ret
     have hst:=hand_last HX.out hrp hwp hrw hrb hwb
     exact ⟨pb,rb,wb,_,rg,_,us,rfl,hst,((((hbel.setCell (by simpa using hrb) _).alloc (by have:=hbel.size;simpa using this) _).alloc (by have:=hbel.size;simp;omega) _).drew)⟩
theorem ptAt_of_blk {w:World}{g:Nat}{l:List Pt}(h:Blk w g (ptCells l).toArray)(j:Nat)(hj:j<l.length):PtAt w g (0+j*3) (l.getD j zP):=by
 have hc:=fun t (ht:t<3)=>(h.cell (j*3+t)).trans ((List.getElem?_toArray ..).trans (ptCells_at l j t hj ht))
 simp only [Nat.zero_add]
 exact ⟨hc 0 (by decide),hc 1 (by decide),hc 2 (by decide)⟩
theorem getD_snoc {r:List Pt}{p:Pt}{j:Nat}(hj:j<r.length):(r ++ [p]).getD j zP=r.getD j zP:=by
 rw [List.getD_eq_getElem?_getD,List.getD_eq_getElem?_getD,List.getElem?_append_left hj]
theorem getD_last {r:List Pt}{p:Pt}:(r ++ [p]).getD r.length zP=p:=by
 rw [List.getD_eq_getElem?_getD,List.getElem?_append_right (Nat.le_refl _)];simp
theorem ring_of_blk {w:World}{g:Nat}{r:List Pt}{p:Pt}(h:Blk w g (ptCells (r ++ [p])).toArray)(hl:r.length<=1048576):RingAt w (.slice (some ⟨g,0,none⟩) r.length (r.length+1)) r:=by
 refine ⟨some ⟨g,0,none⟩,r.length+1,rfl,by omega,by unfold maxLen;omega,fun j hj=>⟨g,0,rfl,h.lt,?_⟩⟩
 rw [<-getD_snoc (p:=p) hj]
 exact ptAt_of_blk h j (by simp;omega)
theorem ArgAt.poly {w:World}{base pb rb wb xb:Nat}{rg:Nat->Nat}{P:List (List Pt)}{vs us:Array Value}(h:ArgAt w base pb rb wb xb rg P vs us)(hn:P.length<=1048576)(hS:∀ i,i<P.length->(P.getD i []).length<=1048576) :
  PolyAt w (.slice (some ⟨rb,0,none⟩) P.length (P.length+1)) P:=by
 refine ⟨_,_,rfl,by omega,by unfold maxLen;omega,fun i hi=>⟨rb,0,_,rfl,h.hand.rbk.lt,?_,ring_of_blk (h.hand.pts i hi) (hS i hi)⟩⟩
 rw [Nat.zero_add]
 exact (h.hand.rbk.cell i).trans (h.hand.vat i hi)
theorem HandAt.later {w w':World}{pb rb wb:Nat}{rg:Nat->Nat}{P:List (List Pt)}{i:Nat}{vs us:Array Value}(h:HandAt w pb rb wb rg P i vs us)(hb:Below w.heap.size w w'):HandAt w' pb rb wb rg P i vs us:=
 ⟨h.pbk.call hb,h.rbk.call hb,h.wbk.call hb,h.vsz,h.usz,h.vat,h.uat,fun t ht=>(h.pts t ht).call hb,h.ord,h.rty.call hb,fun t ht=>(h.pty t ht).call hb⟩
theorem ArgAt.later {w w':World}{base pb rb wb xb:Nat}{rg:Nat->Nat}{P:List (List Pt)}{vs us:Array Value}(h:ArgAt w base pb rb wb xb rg P vs us)(hb:Below w.heap.size w w'):ArgAt w' base pb rb wb xb rg P vs us:=
 ⟨h.hand.later hb,h.last,h.xbk.call hb,h.xord,h.pbx,h.rbase,h.wbase,h.rp,h.wp,h.rw'⟩
set_option maxRecDepth 100000 in
set_option maxHeartbeats 4000000 in
theorem still_any (v:Value)(P:List (List Pt))(w:World){base pb rb wb xb:Nat}{rg:Nat->Nat}{vs us:Array Value}(hP:PolyAt w v P)(hA:ArgAt w base pb rb wb xb rg P vs us)(hn:P.length<=1048576)(hS:∀ i,i<P.length->(P.getD i []).length<=1048576) :
  Calls Tryz.prog 21 #[.pointer (some ⟨pb,0,none⟩),v] w fun e w'=>e = .returned (.bool true)/\Below w.heap.size w w':=by
 have hp:=hA.poly hn hS
 have hP0:=hP
 have hneq:=neq_pt
 have heq:=eql_pt
 have heqb:eqP ⟨1,2,3⟩ ⟨1,2,3⟩=true:=rfl
 obtain ⟨a,cap,rfl,h1,h2,h3⟩:=hP
 obtain ⟨hp0,hp1⟩:=And.intro (hA.hand.pbk.cell 0) (hA.hand.pbk.cell 1)
 have hlast:=(hA.hand.rbk.cell P.length).trans hA.last
 simp at hp0 hp1
 go_enter Tryz.func21,Tryz.ntmps21
 go_wp2_with fail
 refine (it_any pb rb wb P.length _ hp0 hp1).mono ?_
 rintro e w1 ⟨rfl,m1,rfl⟩
 go_wp2_with fail
 refine (sameRings_yes _ _ P _ (hp.drewN _) (hP0.drewN _)).mono ?_
 rintro e w2 ⟨rfl,m2,rfl⟩
 have hkk:(P.length:Int)<(P.length:Int)+1:=by omega
 clear hP0 hp
 go_wp2_with fail
 refine (beyond_any _).mono ?_
 rintro e w3 ⟨rfl,hw3⟩
 have B3:Below w.heap.size w w3:=by rw [hw3];exact (below_drewN (Below.refl _ _) _).alloc (Nat.le_refl _) _
 clear hw3 hp0 hp1 hlast
 go_wp2_with fail
 go_loopw [8,9,10] (fun c _ _ w'=>∃ i:Nat,c = .int .i64 i/\i<=P.length/\Below w.heap.size w w'/\Blk w' w3.heap.size #[.int .i64 bynd.x,.int .i64 bynd.y,.int .i64 bynd.d]) (fun c _ _ _=>P.length-(intOf c).toNat)
 case atStart=>exact ⟨0,rfl,Nat.zero_le _,B3.alloc B3.size _,Blk.new w3 _ _⟩
 case round=>
  obtain ⟨i,rfl,hi,hbel,⟨cb,fb,zb⟩⟩:=hrel
  have hAr:=hA.later hbel
  obtain ⟨hp0,hp1⟩:=And.intro (hAr.hand.pbk.cell 0) (hAr.hand.pbk.cell 1)
  simp at hp0 hp1
  have cb0:=cb 0
  have cb1:=cb 1
  have cb2:=cb 2
  simp [bynd] at cb0 cb1 cb2
  by_cases hlt:i<P.length
  ·obtain ⟨b,off,rv,rfl,hb,hc0,hr0⟩:=h3 i hlt
   have hc:=(hbel.cell (p:=⟨b,off+i,none⟩) hb).trans hc0
   have hr:=hr0.later hbel
   have hsm:=hS i hlt
   have hwc:=(hAr.hand.wbk.cell i).trans (hAr.hand.uat i hlt)
   have hring:=ring_of_blk (hAr.hand.pts i hlt) hsm
   have hlast:=ptAt_of_blk (hAr.hand.pts i hlt) (P.getD i []).length (by simp)
   rw [getD_last] at hlast
   generalize P.getD i []=r at *
   obtain ⟨l0,l1,l2⟩:=hlast
   simp only [Nat.zero_add,bynd] at l0 l1 l2
   obtain ⟨a',cap',rfl,g1,g2,g3⟩:=hr0
   have hi0:(0:Int)<=(i:Int):=Int.natCast_nonneg _
   have hi1:(i:Int)<(P.length:Int):=by omega
   have hr1:(r.length:Int)<(r.length:Int)+1:=by omega
   have hr2:(r.length:Int)<=(r.length:Int)+1:=by omega
   have hr3:r.length<=r.length+1:=by omega
   have hr4:r.length<r.length+1:=by omega
   clear h3 hc0 g3 hA hAr hS
   go_wp2_with fail
   go_quiet ((go_at_call 44;exact Calls.quiet_of (samePoints_yes _ _ r _ (hring.drewN _) (hr.drewN _))))
   go_wp2_with fail
   go_quiet (fail)
   go_wp2
   go_roundw
   case rel=>exact ⟨i+1,by go_num,by omega,below_drewN hbel _,⟨cb,fb,zb⟩⟩
   case measure=>simp [intOf];omega
  ·have ei:i=P.length:=by omega
   subst ei
   have hlast:=(hAr.hand.rbk.cell P.length).trans hAr.last
   have x0:=hAr.xbk.cell 0
   have x1:=hAr.xbk.cell 1
   have x2:=hAr.xbk.cell 2
   simp at x0 x1 x2
   have hi0:(0:Int)<=(P.length:Int):=Int.natCast_nonneg _
   have hi1:(P.length:Int)<(P.length:Int)+1:=by omega
   have hi2:P.length<P.length+1:=by omega
   clear h3 hA hAr hS
   go_wp2_with fail
   go_quiet (fail)
   go_wp2
   go_ret
   exact ⟨rfl,below_drewN hbel _⟩
end Go.Proofs.YtnkcbephceollabGreat
