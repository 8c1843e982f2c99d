import Derived.Test.YtnkcbephceollabGreatU33
namespace Go.Proofs.YtnkcbephceollabGreat
set_option linter.unusedSimpArgs false
set_option linter.unusedVariables false
abbrev Sp:=Pt×Bool×Bool
def Lk:Bool->List Sp->Bool->Prop
 | s,[],e=>s=e
 | s,x::l,e=>x.2.1=s/\Lk x.2.2 l e
theorem lk_app:∀ {l1 l2:List Sp} {s e:Bool},Lk s (l1 ++ l2) e↔∃ m,Lk s l1 m/\Lk m l2 e
 | [],l2,s,e=>by
  constructor
  ·intro h;exact ⟨s,rfl,h⟩
  ·rintro ⟨m,h1,h2⟩
   have:s=m:=h1
   subst this;exact h2
 | x::l1,l2,s,e=>by
  constructor
  ·rintro ⟨h1,h2⟩
   obtain ⟨m,k1,k2⟩:=lk_app.1 h2
   exact ⟨m,⟨h1,k1⟩,k2⟩
  ·rintro ⟨m,⟨h1,k1⟩,k2⟩
   exact ⟨h1,lk_app.2 ⟨m,k1,k2⟩⟩
theorem lk_rot {pre post:List Sp}{x:Sp}{c:Bool}(h:Lk c (pre ++ x::post) c):Lk x.2.2 (post ++ pre) x.2.1:=by
 obtain ⟨m,h1,h2,h3⟩:=lk_app.1 h
 rw [h2]
 exact lk_app.2 ⟨c,h3,h1⟩
theorem first_out:∀ {l:List Sp},Lk true l false->∃ mid j rest,l=mid ++ j::rest/\(∀ m∈mid,m.2=(true,true))/\j.2=(true,false)
 | [],h=>by cases h
 | x::l,⟨h1,h2⟩=>by
  obtain ⟨z,a,b⟩:=x
  have h1':a=true:=h1
  subst h1'
  cases b with
  | false=>exact ⟨[],(z,true,false),l,rfl,(fun m hm=>absurd hm List.not_mem_nil),rfl⟩
  | true=>
   obtain ⟨mid,j,rest,e,k1,k2⟩:=first_out h2
   refine ⟨(z,true,true)::mid,j,rest,by rw [e];rfl,fun m hm=>?_,k2⟩
   rcases List.mem_cons.1 hm with h | h
   ·rw [h]
   ·exact k1 m h
theorem uniq_last {P:Sp->Bool}{a m a' m':List Sp}{x x':Sp}(h:a ++ x::m=a' ++ x'::m')(hm:∀ y∈m,P y=true)(hm':∀ y∈m',P y=true)(hx:P x=false)(hx':P x'=false):x=x':=by
 have f:∀ (a m:List Sp) (x:Sp),(∀ y∈m,P y=true)->P x=false->((a ++ x::m).filter (fun y=>!P y)).getLast?=some x:=fun a m x hm hx=>by
  have e:m.filter (fun y=>!P y)=[]:=List.filter_eq_nil_iff.2 fun y hy=>by rw [hm y hy];decide
  rw [List.filter_append,List.filter_cons,hx,e]
  simp
 have k1:=f a m x hm hx
 have k2:=f a' m' x' hm' hx'
 rw [h,k2] at k1
 exact (Option.some.inj k1).symm
theorem rot_back {C pre post mid rest:List Sp}{x j:Sp}(e1:C=pre ++ x::post)(e2:post ++ pre=mid ++ j::rest):∃ pre' post',C=pre' ++ j::post'/\post' ++ pre'=rest ++ x::mid:=by
 rcases List.append_eq_append_iff.1 e2 with ⟨m1,h1,h2⟩ | ⟨r1,h1,h2⟩
 · -- mid=post ++ m1,pre=m1 ++ j::rest
  refine ⟨m1,rest ++ x::post,?_,?_⟩
  ·rw [e1,h2];simp
  ·rw [h1];simp
 · -- post=mid ++ r1,j::rest=r1 ++ pre
  cases r1 with
  | nil=>
   simp at h1 h2
   refine ⟨[],rest ++ x::post,?_,?_⟩
   ·rw [e1,<-h2];simp
   ·rw [h1];simp
  | cons y r1=>
   simp at h2
   obtain ⟨rfl,h2⟩:=h2
   refine ⟨pre ++ x::mid,r1,?_,?_⟩
   ·rw [e1,h1];simp
   ·rw [h2];simp
theorem split_uniq {C p1 q1 p2 q2:List Sp}{j:Sp}(hn:C.Nodup)(h1:C=p1 ++ j::q1)(h2:C=p2 ++ j::q2):p1=p2/\q1=q2:=by
 have:∀ (p1 p2 q1 q2:List Sp),(p1 ++ j::q1).Nodup->p1 ++ j::q1=p2 ++ j::q2->p1=p2/\q1=q2:=by
  intro p1
  induction p1 with
  | nil=>
   intro p2 q1 q2 hn e
   cases p2 with
   | nil=>simp at e;exact ⟨rfl,e⟩
   | cons y p2=>
    simp at e
    obtain ⟨rfl,e⟩:=e
    rw [e] at hn
    simp at hn
  | cons y p1 ih=>
   intro p2 q1 q2 hn e
   cases p2 with
   | nil=>
    simp at e
    obtain ⟨rfl,e⟩:=e
    simp at hn
   | cons z p2=>
    simp at e
    obtain ⟨rfl,e⟩:=e
    obtain ⟨a,b⟩:=ih p2 q1 q2 (List.nodup_cons.1 hn).2 e
    exact ⟨by rw [a],b⟩
 exact this p1 p2 q1 q2 (h1 ▸ hn) (h1.symm.trans h2)
theorem next_inj {C pre post mid rest pre2 post2 mid2 rest2:List Sp}{x x2 j:Sp}(hn:C.Nodup)(e1:C=pre ++ x::post)(e2:C=pre2 ++ x2::post2)(f1:post ++ pre=mid ++ j::rest)(f2:post2 ++ pre2=mid2 ++ j::rest2)
  (n1:∀ m∈mid,m.2=(true,true)) (n2:∀ m∈mid2,m.2=(true,true)) (h1:x.2=(false,true)) (h2:x2.2=(false,true)):x=x2:=by
 obtain ⟨a,b,k1,k2⟩:=rot_back e1 f1
 obtain ⟨a',b',k1',k2'⟩:=rot_back e2 f2
 obtain ⟨rfl,rfl⟩:=split_uniq hn k1 k1'
 refine uniq_last (P:=fun y=>y.2.1 && y.2.2) (k2.symm.trans k2') (fun y hy=>by rw [n1 y hy];rfl) (fun y hy=>by rw [n2 y hy];rfl) (by rw [h1];rfl) (by rw [h2];rfl)
def onSp (op:Int)(A B:List (List Pt))(v z:Pt):Sp:=(z,inM op (parB (leftE v z) (edgesM A)) (parB (leftE v z) (edgesM B)),inM op (parB (rightE v z) (edgesM A)) (parB (rightE v z) (edgesM B)))
def backSp (op:Int)(A B:List (List Pt))(v y:Pt):Sp:=(ro y,inM op (parB (leftE (ro v) y) (edgesM (roL A))) (parB (leftE (ro v) y) (edgesM (roL B))),inM op (parB (rightE (ro v) y) (edgesM (roL A))) (parB (rightE (ro v) y) (edgesM (roL B))))
def Cyc (op:Int)(A B:List (List Pt))(v:Pt):List Sp:=(RS A B v).map (onSp op A B v) ++ (LS A B v).map (backSp op A B v)
theorem lk_map {f g:Pt->Bool}{h:Pt->Sp}(hf:∀ x,(h x).2.1=f x)(hg:∀ x,(h x).2.2=g x):∀ {l:List Pt} {s e:Bool},Ch f g s l e->Lk s (l.map h) e
 | [],_,_,k=>k
 | x::l,_,_,k=>⟨by rw [hf];exact k.1,by rw [hg];exact lk_map hf hg k.2⟩
section
variable {A B:List (List Pt)}(sA:Sound A)(sB:Sound B){v:Pt}(hv:0<v.d)(hm:v∈spotsM (edgesM A ++ edgesM B))(op:Int)
include sA sB hv hm
theorem cyc_lk:∃ c,Lk c (Cyc op A B v) c:=by
 have a1:=ring_on sA sB hv hm sA.sd (fun e he=>List.mem_append.2 (.inl he))
 have b1:=ring_on sA sB hv hm sB.sd (fun e he=>List.mem_append.2 (.inr he))
 have a2:=ring_back sA sB hv hm sA.sd (fun e he=>List.mem_append.2 (.inl he))
 have b2:=ring_back sA sB hv hm sB.sd (fun e he=>List.mem_append.2 (.inr he))
 refine ⟨inM op (nab A v) (nab B v),lk_app.2 ⟨inM op (nab (roL A) (ro v)) (nab (roL B) (ro v)),?_,?_⟩⟩
 ·exact lk_map (fun _=>rfl) (fun _=>rfl) (ch_two (inM op) a1 b1)
 ·exact lk_map (fun _=>rfl) (fun _=>rfl) (ch_two (inM op) a2 b2)
end
theorem on_piece {A B:List (List Pt)}(op:Int){v z:Pt}(h:(v,z)∈prs A B):pcOf (edgesM A) (edgesM B) (v,z)∈piecesM A B/\onSp op A B v z=(z,inM op (pcOf (edgesM A) (edgesM B) (v,z)).la (pcOf (edgesM A) (edgesM B) (v,z)).lb,inM op (pcOf (edgesM A) (edgesM B) (v,z)).ra (pcOf (edgesM A) (edgesM B) (v,z)).rb):=
 ⟨List.mem_map.2 ⟨_,h,rfl⟩,rfl⟩
section
variable {A B:List (List Pt)}(sA:Sound A)(sB:Sound B)(op:Int)
include sA sB
theorem back_piece {v y:Pt}(h:(ro y,v)∈prs A B):pcOf (edgesM A) (edgesM B) (ro y,v)∈piecesM A B/\backSp op A B v y=(ro y,inM op (pcOf (edgesM A) (edgesM B) (ro y,v)).ra (pcOf (edgesM A) (edgesM B) (ro y,v)).rb,inM op (pcOf (edgesM A) (edgesM B) (ro y,v)).la (pcOf (edgesM A) (edgesM B) (ro y,v)).lb):=by
 refine ⟨List.mem_map.2 ⟨_,h,rfl⟩,?_⟩
 obtain ⟨hb,d1,d2⟩:=prs_bef sA sB h
 obtain ⟨cA,cB⟩:=prs_clear sA sB h
 have l1:=far_left sA.sd d1 d2 hb cA
 have l2:=far_left sB.sd d1 d2 hb cB
 have r1:=far_right sA.sd d1 d2 hb cA
 have r2:=far_right sB.sd d1 d2 hb cB
 simp only [ro_ro] at l1 l2 r1 r2
 unfold backSp pcOf
 simp only
 rw [l1,l2,r1,r2]
theorem begins_iff {v z:Pt}:(v,z)∈bordM op (piecesM A B)↔(z,true,false)∈Cyc op A B v:=by
 unfold bordM
 rw [List.mem_flatMap]
 unfold Cyc
 rw [List.mem_append,List.mem_map,List.mem_map]
 constructor
 ·rintro ⟨x,hx,hb⟩
  unfold piecesM at hx
  obtain ⟨y,hy,rfl⟩:=List.mem_map.1 hx
  unfold bordOf at hb
  rcases List.mem_append.1 hb with hb | hb
  ·split at hb
   ·rename_i c
    have e:=List.mem_singleton.1 hb
    have e1:v=y.1:=congrArg Prod.fst e
    have e2:z=y.2:=congrArg Prod.snd e
    subst e1 e2
    refine .inl ⟨y.2,RS_mem.2 hy,?_⟩
    rw [(on_piece op hy).2]
    rw [Bool.and_eq_true,Bool.not_eq_true'] at c
    rw [c.1,c.2]
   ·simp at hb
  ·split at hb
   ·rename_i c
    have e:=List.mem_singleton.1 hb
    have e1:v=y.2:=congrArg Prod.fst e
    have e2:z=y.1:=congrArg Prod.snd e
    subst e1 e2
    refine .inr ⟨ro y.1,LS_mem.2 (by rw [ro_ro];exact hy),?_⟩
    have k:=(back_piece sA sB op (v:=y.2) (y:=ro y.1) (by rw [ro_ro];exact hy)).2
    rw [ro_ro] at k
    rw [k]
    rw [Bool.and_eq_true,Bool.not_eq_true'] at c
    rw [c.1,c.2]
   ·simp at hb
 ·rintro (⟨z',hz,e⟩ | ⟨y,hy,e⟩)
  ·have hz':=RS_mem.1 hz
   obtain ⟨k1,k2⟩:=on_piece op hz'
   rw [k2] at e
   simp only [Prod.mk.injEq] at e
   obtain ⟨rfl,e1,e2⟩:=e
   refine ⟨_,k1,?_⟩
   unfold bordOf
   rw [e1,e2]
   exact List.mem_append.2 (.inl (by simp [pcOf]))
  ·have hy':=LS_mem.1 hy
   obtain ⟨k1,k2⟩:=back_piece sA sB op hy'
   rw [k2] at e
   simp only [Prod.mk.injEq] at e
   obtain ⟨rfl,e1,e2⟩:=e
   refine ⟨_,k1,?_⟩
   unfold bordOf
   rw [e1,e2]
   exact List.mem_append.2 (.inr (by simp [pcOf]))
theorem ends_iff {v z:Pt}:(z,v)∈bordM op (piecesM A B)↔(z,false,true)∈Cyc op A B v:=by
 unfold bordM
 rw [List.mem_flatMap]
 unfold Cyc
 rw [List.mem_append,List.mem_map,List.mem_map]
 constructor
 ·rintro ⟨x,hx,hb⟩
  unfold piecesM at hx
  obtain ⟨y,hy,rfl⟩:=List.mem_map.1 hx
  unfold bordOf at hb
  rcases List.mem_append.1 hb with hb | hb
  ·split at hb
   ·rename_i c
    have e:=List.mem_singleton.1 hb
    have e1:z=y.1:=congrArg Prod.fst e
    have e2:v=y.2:=congrArg Prod.snd e
    subst e1 e2
    refine .inr ⟨ro y.1,LS_mem.2 (by rw [ro_ro];exact hy),?_⟩
    have k:=(back_piece sA sB op (v:=y.2) (y:=ro y.1) (by rw [ro_ro];exact hy)).2
    rw [ro_ro] at k
    rw [k]
    rw [Bool.and_eq_true,Bool.not_eq_true'] at c
    rw [c.1,c.2]
   ·simp at hb
  ·split at hb
   ·rename_i c
    have e:=List.mem_singleton.1 hb
    have e1:z=y.2:=congrArg Prod.fst e
    have e2:v=y.1:=congrArg Prod.snd e
    subst e1 e2
    refine .inl ⟨y.2,RS_mem.2 hy,?_⟩
    rw [(on_piece op hy).2]
    rw [Bool.and_eq_true,Bool.not_eq_true'] at c
    rw [c.1,c.2]
   ·simp at hb
 ·rintro (⟨z',hz,e⟩ | ⟨y,hy,e⟩)
  ·have hz':=RS_mem.1 hz
   obtain ⟨k1,k2⟩:=on_piece op hz'
   rw [k2] at e
   simp only [Prod.mk.injEq] at e
   obtain ⟨rfl,e1,e2⟩:=e
   refine ⟨_,k1,?_⟩
   unfold bordOf
   rw [e1,e2]
   exact List.mem_append.2 (.inr (by simp [pcOf]))
  ·have hy':=LS_mem.1 hy
   obtain ⟨k1,k2⟩:=back_piece sA sB op hy'
   rw [k2] at e
   simp only [Prod.mk.injEq] at e
   obtain ⟨rfl,e1,e2⟩:=e
   refine ⟨_,k1,?_⟩
   unfold bordOf
   rw [e1,e2]
   exact List.mem_append.2 (.inl (by simp [pcOf]))
end
structure Nx (L:List (Pt×Pt))(z v j:Pt):Prop where
 mem:(v,j)∈L
 first:∀ q,(v,q)∈L->q≠j->aheadM j q (z,v)=true
theorem cyc_points {op:Int}{A B:List (List Pt)}{v:Pt}{x:Sp}(h:x∈Cyc op A B v):(x.1∈RS A B v/\x=onSp op A B v x.1)\/(ro x.1∈LS A B v/\x=backSp op A B v (ro x.1)):=by
 unfold Cyc at h
 rcases List.mem_append.1 h with h | h
 ·obtain ⟨z,hz,rfl⟩:=List.mem_map.1 h
  exact .inl ⟨hz,rfl⟩
 ·obtain ⟨y,hy,rfl⟩:=List.mem_map.1 h
  refine .inr ⟨?_,?_⟩
  ·show ro (ro y)∈_
   rw [ro_ro];exact hy
  ·show backSp op A B v y=backSp op A B v (ro (ro y))
   rw [ro_ro]
section
variable {A B:List (List Pt)}(sA:Sound A)(sB:Sound B){v:Pt}(hv:0<v.d)(op:Int)
include sA sB hv
theorem cyc_order {pre post:List Sp}{x:Sp}(h:Cyc op A B v=pre ++ x::post):(post ++ pre).Pairwise (fun p q=>aheadM p.1 q.1 (x.1,v)=true):=by
 have hR:=RS_sorted sA sB hv
 have hL:=LS_sorted sA sB hv
 have bR:∀ z∈RS A B v,befB v z=true:=fun z hz=>(prs_bef sA sB (RS_mem.1 hz)).1
 have bL:∀ y∈LS A B v,befB (ro y) v=true:=fun y hy=>(prs_bef sA sB (LS_mem.1 hy)).1
 have fR:∀ l:List Pt,(l.map (onSp op A B v)).map (·.1)=l:=fun l=>by
  rw [List.map_map];exact (List.map_congr_left (fun _ _=>rfl)).trans (List.map_id l)
 have fL:∀ l:List Pt,(l.map (backSp op A B v)).map (·.1)=l.map ro:=fun l=>by
  rw [List.map_map];rfl
 have key:∀ l:List Sp,l.Pairwise (fun p q=>aheadM p.1 q.1 (x.1,v)=true)↔(l.map (·.1)).Pairwise (fun p q=>aheadM p q (x.1,v)=true):=fun l=>by rw [List.pairwise_map]
 rw [key,List.map_append]
 unfold Cyc at h
 rcases List.append_eq_append_iff.1 h with ⟨m,h1,h2⟩ | ⟨m,h1,h2⟩
 · -- pre=RS' ++ m,LS'=m ++ x::post
  obtain ⟨l1,l2',e1,e2,e3⟩:=List.map_eq_append_iff.1 h2
  obtain ⟨s,l2,e4,e5,e6⟩:=List.map_eq_cons_iff.1 e3
  subst e4
  have hx:x.1=ro s:=by rw [<-e5];rfl
  have epre:pre.map (·.1)=RS A B v ++ l1.map ro:=by rw [h1,List.map_append,fR,<-e2,fL]
  have epost:post.map (·.1)=l2.map ro:=by rw [<-e6,fL]
  rw [epre,epost,hx]
  have hs:s∈LS A B v:=by rw [e1];simp
  have hLs:=hL
  rw [e1] at hLs
  obtain ⟨q1,q2,q3⟩:=List.pairwise_append.1 hLs
  obtain ⟨q4,q5⟩:=List.pairwise_cons.1 q2
  have t:=turn_order (v:=ro v) (s:=s) hv (by have:=bL s hs;rw [<-ro_bef,ro_ro] at this;exact this) (R1:=l1) (R2:=l2) (L:=(RS A B v).map ro)
   (fun p hp=>⟨by have:=bL p (by rw [e1];simp [hp]);rw [<-ro_bef,ro_ro] at this;exact this,by have:=q3 p hp s (by simp);have:=d_anti (ro v) s p;omega⟩)
   (fun p hp=>⟨by have:=bL p (by rw [e1];simp [hp]);rw [<-ro_bef,ro_ro] at this;exact this,q4 p hp⟩)
   (fun p hp=>by
    obtain ⟨z,hz,rfl⟩:=List.mem_map.1 hp
    rw [ro_bef];exact bR z hz)
   q1 q5 (by rw [List.pairwise_map];exact hR.imp (fun k=>by rw [ro_det];exact k))
  have e:l2.map ro ++ (RS A B v ++ l1.map ro)=(l2 ++ ((RS A B v).map ro ++ l1)).map ro:=by
   rw [List.map_append,List.map_append,List.map_map]
   have:(RS A B v).map (ro ∘ ro)=RS A B v:=(List.map_congr_left (fun z _=>ro_ro z)).trans (List.map_id _)
   rw [this]
  rw [e,List.pairwise_map]
  refine t.imp fun {p q} k=>?_
  have:=ahead_ro p q (s,ro v)
  simp only [ro_ro] at this
  rw [this];exact k
 · -- RS'=pre ++ m,x::post=m ++ LS'
  cases m with
  | nil=>
   simp at h1 h2
   obtain ⟨s,l2,e4,e5,e6⟩:=List.map_eq_cons_iff.1 h2.symm
   have hx:x.1=ro s:=by rw [<-e5];rfl
   have epre:pre.map (·.1)=RS A B v:=by rw [<-h1,fR]
   have epost:post.map (·.1)=l2.map ro:=by rw [<-e6,fL]
   rw [epre,epost,hx]
   have hs:s∈LS A B v:=by rw [e4];simp
   have hLs:=hL
   rw [e4] at hLs
   obtain ⟨q4,q5⟩:=List.pairwise_cons.1 hLs
   have t:=turn_order (v:=ro v) (s:=s) hv (by have:=bL s hs;rw [<-ro_bef,ro_ro] at this;exact this) (R1:=[]) (R2:=l2) (L:=(RS A B v).map ro)
    (fun p hp=>by cases hp)
    (fun p hp=>⟨by have:=bL p (by rw [e4];simp [hp]);rw [<-ro_bef,ro_ro] at this;exact this,q4 p hp⟩)
    (fun p hp=>by
     obtain ⟨z,hz,rfl⟩:=List.mem_map.1 hp
     rw [ro_bef];exact bR z hz)
    List.Pairwise.nil q5 (by rw [List.pairwise_map];exact hR.imp (fun k=>by rw [ro_det];exact k))
   have e:l2.map ro ++ RS A B v=(l2 ++ ((RS A B v).map ro ++ [])).map ro:=by
    rw [List.append_nil,List.map_append,List.map_map]
    have:(RS A B v).map (ro ∘ ro)=RS A B v:=(List.map_congr_left (fun z _=>ro_ro z)).trans (List.map_id _)
    rw [this]
   rw [e,List.pairwise_map]
   refine t.imp fun {p q} k=>?_
   have:=ahead_ro p q (s,ro v)
   simp only [ro_ro] at this
   rw [this];exact k
  | cons y m=>
   simp at h2
   obtain ⟨rfl,h2⟩:=h2
   obtain ⟨r1,r2',e1,e2,e3⟩:=List.map_eq_append_iff.1 h1
   obtain ⟨s,r2,e4,e5,e6⟩:=List.map_eq_cons_iff.1 e3
   subst e4
   have hx:x.1=s:=by rw [<-e5];rfl
   have epre:pre.map (·.1)=r1:=by rw [<-e2,fR]
   have epost:post.map (·.1)=r2 ++ (LS A B v).map ro:=by rw [h2,List.map_append,fL,<-e6,fR]
   rw [epre,epost,hx,List.append_assoc]
   have hs:s∈RS A B v:=by rw [e1];simp
   have hRs:=hR
   rw [e1] at hRs
   obtain ⟨q1,q2,q3⟩:=List.pairwise_append.1 hRs
   obtain ⟨q4,q5⟩:=List.pairwise_cons.1 q2
   exact turn_order (v:=v) (s:=s) hv (bR s hs) (R1:=r1) (R2:=r2) (L:=(LS A B v).map ro)
    (fun p hp=>⟨bR p (by rw [e1];simp [hp]),by have:=q3 p hp s (by simp);have:=d_anti v s p;omega⟩)
    (fun p hp=>⟨bR p (by rw [e1];simp [hp]),q4 p hp⟩)
    (fun p hp=>by
     obtain ⟨z,hz,rfl⟩:=List.mem_map.1 hp
     exact bL z hz)
    q1 q5 (by rw [List.pairwise_map];exact hL.imp (fun {a b} k=>by rw [<-ro_det,ro_ro,ro_ro];exact k))
end
theorem ahead_asym {p q z v:Pt}(h:aheadM p q (z,v)=true):aheadM q p (z,v)=false:=by
 have e:=d_anti v p q
 unfold aheadM at *
 simp only at *
 by_cases a:detM v z p<0 <;> by_cases b:detM v z q<0
 ·rw [decide_eq_true a,decide_eq_true b] at *
  simp at h ⊢;omega
 ·rw [decide_eq_true a,decide_eq_false b] at *
  simp at h ⊢
 ·rw [decide_eq_false a,decide_eq_true b] at *
  simp at h
 ·rw [decide_eq_false a,decide_eq_false b] at *
  simp at h ⊢;omega
theorem Nx.uniq {L:List (Pt×Pt)}{z v j j':Pt}(h:Nx L z v j)(h':Nx L z v j'):j=j':=by
 apply Classical.byContradiction
 intro k
 have a:=h.first j' h'.mem (fun e=>k e.symm)
 have b:=h'.first j h.mem k
 rw [ahead_asym a] at b;cases b
theorem pw_nodup {v:Pt}{l:List Pt}(h:l.Pairwise (fun s t=>detM v s t<0)):l.Nodup:=
 h.imp fun {a b} k e=>by
  subst e
  have:detM v a a=0:=by unfold detM;grind
  omega
section
variable {A B:List (List Pt)}(sA:Sound A)(sB:Sound B)(op:Int)
include sA sB
theorem cyc_nodup {v:Pt}(hv:0<v.d):(Cyc op A B v).Nodup:=by
 unfold Cyc
 rw [List.nodup_append]
 have i1:∀ a b,onSp op A B v a=onSp op A B v b->a=b:=fun a b h=>congrArg Prod.fst h
 have i2:∀ a b,backSp op A B v a=backSp op A B v b->a=b:=fun a b h=>by
  have:ro a=ro b:=congrArg Prod.fst h
  rw [<-ro_ro a,this,ro_ro]
 refine ⟨?_,?_,?_⟩
 ·exact List.pairwise_map.2 ((pw_nodup (RS_sorted sA sB hv)).imp fun {a b} k e=>k (i1 _ _ e))
 ·exact List.pairwise_map.2 ((pw_nodup (LS_sorted sA sB hv)).imp fun {a b} k e=>k (i2 _ _ e))
 ·intro x hx y hy e
  obtain ⟨z,hz,rfl⟩:=List.mem_map.1 hx
  obtain ⟨u,hu,rfl⟩:=List.mem_map.1 hy
  have k1:=(prs_bef sA sB (RS_mem.1 hz)).1
  have k2:=(prs_bef sA sB (LS_mem.1 hu)).1
  have e1:z=ro u:=congrArg Prod.fst e
  simp only at k1 k2
  rw [e1,bef_asym k2] at k1;cases k1
theorem bord_spot {z v:Pt}(h:(z,v)∈bordM op (piecesM A B)):(v∈spotsM (edgesM A ++ edgesM B)/\0<v.d)/\(z∈spotsM (edgesM A ++ edgesM B)/\0<z.d)/\z≠v:=by
 obtain ⟨x,hx,hb⟩:=bord_mem h
 unfold piecesM at hx
 obtain ⟨y,hy,rfl⟩:=List.mem_map.1 hx
 have hG:=good_both sA sB
 have hS:=(spots_spec hG).1
 obtain ⟨e,he,ha⟩:=((pairs_spec _ hS).2 y).1 hy
 obtain ⟨m1,m2,_,_⟩:=AL_mem ha
 have b:=(AL_next hS.srt ha).1
 have ne:y.1≠y.2:=fun e=>by rw [e,bef_irr] at b;cases b
 have d1:=(hS.nc _ m1).d
 have d2:=(hS.nc _ m2).d
 rcases hb with hb | hb
 ·have e1:z=y.1:=congrArg Prod.fst hb
  have e2:v=y.2:=congrArg Prod.snd hb
  subst e1 e2
  exact ⟨⟨m2,d2⟩,⟨m1,d1⟩,ne⟩
 ·have e1:z=y.2:=congrArg Prod.fst hb
  have e2:v=y.1:=congrArg Prod.snd hb
  subst e1 e2
  exact ⟨⟨m1,d1⟩,⟨m2,d2⟩,fun e=>ne e.symm⟩
theorem from_end {z v:Pt}(h:(z,v)∈bordM op (piecesM A B)):∃ pre post mid j rest,Cyc op A B v=pre ++ (z,false,true)::post/\post ++ pre=mid ++ j::rest/\(∀ m∈mid,m.2=(true,true))/\j.2=(true,false)/\Nx (bordM op (piecesM A B)) z v j.1:=by
 obtain ⟨⟨hm,hv⟩,_,_⟩:=bord_spot sA sB op h
 obtain ⟨pre,post,e⟩:=List.append_of_mem ((ends_iff sA sB op).1 h)
 obtain ⟨c,hc⟩:=cyc_lk sA sB hv hm op
 have hr:=hc
 rw [e] at hr
 obtain ⟨mid,j,rest,e2,n,hj⟩:=first_out (lk_rot hr)
 have ord:=cyc_order sA sB hv op e
 refine ⟨pre,post,mid,j,rest,e,e2,n,hj,?_,?_⟩
 ·rw [begins_iff sA sB op]
  have:j∈post ++ pre:=by rw [e2];simp
  have hj':(j.1,true,false)=j:=by rw [<-hj]
  rw [hj',e]
  rcases List.mem_append.1 this with k | k
  ·simp [k]
  ·simp [k]
 ·intro q hq hne
  have hq':=(begins_iff sA sB op).1 hq
  have hin:(q,true,false)∈post ++ pre:=by
   rw [e] at hq'
   rcases List.mem_append.1 hq' with k | k
   ·exact List.mem_append.2 (.inr k)
   ·rcases List.mem_cons.1 k with k | k
    ·simp at k
    ·exact List.mem_append.2 (.inl k)
  rw [e2] at hin ord
  rcases List.mem_append.1 hin with k | k
  ·have:=n _ k
   simp at this
  ·rcases List.mem_cons.1 k with k | k
   ·have t:q=j.1:=congrArg Prod.fst k
    exact (hne t).elim
   ·have o:=(List.pairwise_append.1 ord).2.1
    have o2:=(List.pairwise_cons.1 o).1 (q,true,false) k
    simpa only using o2
theorem next_exists {z v:Pt}(h:(z,v)∈bordM op (piecesM A B)):∃ j,Nx (bordM op (piecesM A B)) z v j:=by
 obtain ⟨_,_,_,j,_,_,_,_,_,k⟩:=from_end sA sB op h
 exact ⟨j.1,k⟩
theorem next_one {z z' v j:Pt}(h:(z,v)∈bordM op (piecesM A B))(h':(z',v)∈bordM op (piecesM A B))(k:Nx (bordM op (piecesM A B)) z v j)(k':Nx (bordM op (piecesM A B)) z' v j):z=z':=by
 obtain ⟨⟨_,hv⟩,_,_⟩:=bord_spot sA sB op h
 obtain ⟨pre,post,mid,i,rest,e,f,n,hi,x⟩:=from_end sA sB op h
 obtain ⟨pre',post',mid',i',rest',e',f',n',hi',x'⟩:=from_end sA sB op h'
 have a:i=i':=by
  have a1:=x.uniq k
  have a2:=x'.uniq k'
  obtain ⟨p,q⟩:=i
  obtain ⟨p',q'⟩:=i'
  simp only at a1 a2 hi hi'
  rw [a1,a2,hi,hi']
 subst a
 have:=next_inj (cyc_nodup sA sB op hv) e e' f f' n n' rfl rfl
 exact congrArg Prod.fst this
end
theorem cmp_nice {a b:Pt}(ha:Nice a)(hb:Nice b):cmpM a b=0↔a=b:=by
 constructor
 ·intro h
  have h1:=cmpB a b
  have h2:=cmpB' a b
  rw [h] at h1 h2
  simp at h1 h2
  exact canon_eq ha.2 hb.2 h1 h2
 ·rintro rfl;exact cmp_self a
theorem edg_mem {L:List (Pt×Pt)}{k:Nat}(h:k<L.length):edg L k∈L:=by
 unfold edg
 rw [List.getD_eq_getElem?_getD,List.getElem?_eq_getElem h]
 exact List.getElem_mem h
theorem mem_edg {L:List (Pt×Pt)}{e:Pt×Pt}(h:e∈L):∃ k,k<L.length/\edg L k=e:=by
 obtain ⟨k,hk,e⟩:=List.getElem_of_mem h
 refine ⟨k,hk,?_⟩
 unfold edg
 rw [List.getD_eq_getElem?_getD,List.getElem?_eq_getElem hk]
 exact e
theorem edg_inj {L:List (Pt×Pt)}(hn:L.Nodup){i k:Nat}(hi:i<L.length)(hk:k<L.length)(h:edg L i=edg L k):i=k:=by
 unfold edg at h
 rw [List.getD_eq_getElem?_getD,List.getElem?_eq_getElem hi,List.getD_eq_getElem?_getD,List.getElem?_eq_getElem hk] at h
 exact (List.getElem_inj hn).1 h
theorem fol_inv {L:List (Pt×Pt)}(hc:∀ i k,i<L.length->k<L.length->(cmpM (edg L k).1 (edg L i).2=0↔(edg L k).1=(edg L i).2)){i:Nat}(hi:i<L.length){z v j:Pt}(e:edg L i=(z,v))(hz:z≠v)(hx:Nx L z v j):∀ k,k<=L.length->
  ((∃ m,m<k/\edg L m=(v,j))->edg L (folM L i k)=(v,j))/\((¬ ∃ m,m<k/\edg L m=(v,j))->folM L i k=i\/(edg L (folM L i k)).1=v)
 | 0,_=>⟨fun ⟨m,h,_⟩=>absurd h (by omega),fun _=>.inl rfl⟩
 | k+1,hk=>by
  obtain ⟨a,b⟩:=fol_inv hc hi e hz hx k (by omega)
  have lt:=fol_lt hi k (by omega)
  have c:=hc i k hi (by omega)
  have km:=edg_mem (L:=L) (k:=k) (by omega)
  have cm:=edg_mem lt
  unfold folM
  generalize folM L i k=f at *
  rw [e] at c ⊢
  simp only at c ⊢
  by_cases d:(edg L k).1=v
  ·rw [if_neg (fun w=>w (c.2 d))]
   rcases ek:edg L k with ⟨kx,ky⟩
   rw [ek] at d km
   simp only at d
   subst d
   simp only
   by_cases y:ky=j
   ·subst y
    have ey:∃ m,m<k+1/\edg L m=(kx,ky):=⟨k,by omega,ek⟩
    refine ⟨fun _=>?_,fun n=>absurd ey n⟩
    split
    ·exact ek
    ·rename_i t
     by_cases x:∃ m,m<k/\edg L m=(kx,ky)
     ·exact a x
     ·rcases b x with b | b
      ·exact absurd (.inl b) t
      ·rcases ef:edg L f with ⟨fx,fy⟩
       rw [ef] at b cm t
       simp only at b t
       subst b
       apply Classical.byContradiction
       intro w
       exact t (.inr (hx.first fy cm (fun q=>w (by rw [q]))))
   ·have nk:edg L k≠(kx,j):=fun q=>y (by rw [ek] at q;exact congrArg Prod.snd q)
    have fr:=hx.first ky km y
    have back:∀ {P:Prop},(∃ m,m<k+1/\edg L m=(kx,j))->((∃ m,m<k/\edg L m=(kx,j))->P)->P:=by
     intro P ⟨m,hm,em⟩ g
     by_cases q:m=k
     ·subst q;exact absurd em nk
     ·exact g ⟨m,by omega,em⟩
    refine ⟨fun q=>?_,fun q=>?_⟩
    ·refine back q fun q=>?_
     have af:=a q
     rw [if_neg]
     ·exact af
     ·rintro (w | w)
      ·rw [w,e] at af
       exact hz (congrArg Prod.fst af)
      ·rw [af] at w
       simp only at w
       rw [ahead_asym fr] at w;cases w
    ·have q' : ¬ ∃ m,m<k/\edg L m=(kx,j):=fun ⟨m,hm,em⟩=>q ⟨m,by omega,em⟩
     split
     ·right;rw [ek]
     ·exact b q'
  ·rw [if_pos (fun w=>d (c.1 w))]
   have nk:edg L k≠(v,j):=fun q=>d (by rw [q])
   refine ⟨fun ⟨m,hm,em⟩=>?_,fun q=>?_⟩
   ·by_cases q:m=k
    ·subst q;exact absurd em nk
    ·exact a ⟨m,by omega,em⟩
   ·exact b fun ⟨m,hm,em⟩=>q ⟨m,by omega,em⟩
theorem fol_nx {L:List (Pt×Pt)}(hc:∀ i k,i<L.length->k<L.length->(cmpM (edg L k).1 (edg L i).2=0↔(edg L k).1=(edg L i).2)){i:Nat}(hi:i<L.length){z v j:Pt}(e:edg L i=(z,v))(hz:z≠v)(hx:Nx L z v j):edg L (folM L i L.length)=(v,j):=by
 obtain ⟨m,hm,em⟩:=mem_edg hx.mem
 exact (fol_inv hc hi e hz hx L.length (Nat.le_refl _)).1 ⟨m,hm,em⟩
section
variable {A B:List (List Pt)}(sA:Sound A)(sB:Sound B)(op:Int)
include sA sB
theorem bord_nice {e:Pt×Pt}(h:e∈bordM op (piecesM A B)):Nice e.1/\Nice e.2/\e.1≠e.2:=by
 obtain ⟨z,v⟩:=e
 obtain ⟨a,b,c⟩:=bord_spot sA sB op h
 have hS:=(spots_spec (good_both sA sB)).1
 exact ⟨hS.nc _ b.1,hS.nc _ a.1,c⟩
theorem bord_nodup:(bordM op (piecesM A B)).Nodup:=by
 have hG:=good_both sA sB
 have hS:=(spots_spec hG).1
 unfold bordM piecesM
 rw [List.flatMap_map]
 refine List.pairwise_flatMap.2 ⟨?_,?_⟩
 ·intro y hy
  have:=bordOf_len op (pcOf (edgesM A) (edgesM B) y)
  generalize bordOf op (pcOf (edgesM A) (edgesM B) y)=l at *
  match l,this with
  | [],_=>exact List.Pairwise.nil
  | [_],_=>simp
 ·have hp:=pairs_spec (edgesM A ++ edgesM B) hS
  refine List.Pairwise.imp_of_mem ?_ hp.1
  intro y y' my my' hr x hx x' hx' e
  have bf:∀ w,w∈pairsL (edgesM A ++ edgesM B) (spotsM (edgesM A ++ edgesM B))->befB w.1 w.2=true:=by
   intro w hw
   obtain ⟨_,_,ha⟩:=(hp.2 w).1 hw
   exact (AL_next hS.srt ha).1
  have side:∀ w u,u∈bordOf op (pcOf (edgesM A) (edgesM B) w)->u=(w.1,w.2)\/u=(w.2,w.1):=by
   intro w u hu
   have:u∈bordM op [pcOf (edgesM A) (edgesM B) w]:=by unfold bordM;simpa using hu
   obtain ⟨c,hc,h⟩:=bord_mem this
   rw [List.mem_singleton.1 hc] at h
   exact h
  have b1:=bf y my
  have b2:=bf y' my'
  have s1:=side y x hx
  have s2:=side y' x' hx'
  subst e
  obtain ⟨p,q⟩:=y
  obtain ⟨p',q'⟩:=y'
  simp only at b1 b2 s1 s2
  rcases s1 with s1 | s1 <;> rcases s2 with s2 | s2 <;> rw [s1] at s2 <;> obtain ⟨rfl,rfl⟩:=Prod.mk.inj s2
  ·exact PR_irr _ hr
  ·rw [bef_asym b1] at b2;cases b2
  ·rw [bef_asym b1] at b2;cases b2
  ·exact PR_irr _ hr
theorem bord_cmp:∀ i k,i<(bordM op (piecesM A B)).length->k<(bordM op (piecesM A B)).length->(cmpM (edg (bordM op (piecesM A B)) k).1 (edg (bordM op (piecesM A B)) i).2=0↔(edg (bordM op (piecesM A B)) k).1=(edg (bordM op (piecesM A B)) i).2):=by
 intro i k hi hk
 exact cmp_nice (bord_nice sA sB op (edg_mem hk)).1 (bord_nice sA sB op (edg_mem hi)).2.1
theorem fol_is {i:Nat}(hi:i<(bordM op (piecesM A B)).length):∃ j,Nx (bordM op (piecesM A B)) (edg (bordM op (piecesM A B)) i).1 (edg (bordM op (piecesM A B)) i).2 j/\edg (bordM op (piecesM A B)) (folM (bordM op (piecesM A B)) i (bordM op (piecesM A B)).length)=((edg (bordM op (piecesM A B)) i).2,j):=by
 have hc:=bord_cmp sA sB op
 have hm:=edg_mem hi
 have hne:=(bord_nice sA sB op hm).2.2
 obtain ⟨j,hj⟩:=next_exists sA sB op (z:=(edg (bordM op (piecesM A B)) i).1) (v:=(edg (bordM op (piecesM A B)) i).2) hm
 exact ⟨j,hj,fol_nx hc hi rfl hne hj⟩
theorem fol_inj {i i':Nat}(hi:i<(bordM op (piecesM A B)).length)(hi':i'<(bordM op (piecesM A B)).length)(h:folM (bordM op (piecesM A B)) i (bordM op (piecesM A B)).length=folM (bordM op (piecesM A B)) i' (bordM op (piecesM A B)).length):i=i':=by
 obtain ⟨j,x,e⟩:=fol_is sA sB op hi
 obtain ⟨j',x',e'⟩:=fol_is sA sB op hi'
 have m:=edg_mem hi
 have m':=edg_mem hi'
 have g:=edg_inj (bord_nodup sA sB op) hi hi'
 rw [h,e'] at e
 obtain ⟨ev,ej⟩:=Prod.mk.inj e
 subst ej
 apply g
 generalize edg (bordM op (piecesM A B)) i=a at *
 generalize edg (bordM op (piecesM A B)) i'=b at *
 obtain ⟨z,v⟩:=a
 obtain ⟨z',v'⟩:=b
 simp only at ev x x' m m'
 subst ev
 rw [next_one sA sB op m m' x x']
end
end Go.Proofs.YtnkcbephceollabGreat
