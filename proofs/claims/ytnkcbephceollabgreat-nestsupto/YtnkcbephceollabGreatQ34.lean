import Derived.Test.YtnkcbephceollabGreatQ33
namespace Go.Proofs.YtnkcbephceollabGreat
set_option linter.unusedSimpArgs false
set_option linter.unusedVariables false
structure Nx (L:List (Pt×Pt))(z v j:Pt):Prop where
 mem:(v,j)∈L
 first:∀ q,(v,q)∈L->q≠j->aheadM j q (z,v)=true
theorem cyc_points {op:Int}{A B:List (List Pt)}{v:Pt}{x:Sp}(h:x∈Cyc op A B v):(x.1∈RS A B v/\x=onSp op A B v x.1)\/(ro x.1∈LS A B v/\x=backSp op A B v (ro x.1)):=by
 unfold Cyc at h
 rcases List.mem_append.1 h with h | h
 ·obtain ⟨z,hz,rfl⟩:=List.mem_map.1 h
  exact .inl ⟨hz,rfl⟩
 ·obtain ⟨y,hy,rfl⟩:=List.mem_map.1 h
  refine .inr ⟨?_,?_⟩
  ·show ro (ro y)∈_
   rw [ro_ro];exact hy
  ·show backSp op A B v y=backSp op A B v (ro (ro y))
   rw [ro_ro]
section
variable {A B:List (List Pt)}(sA:Sound A)(sB:Sound B){v:Pt}(hv:0<v.d)(op:Int)
include sA sB hv
theorem cyc_order {pre post:List Sp}{x:Sp}(h:Cyc op A B v=pre ++ x::post):(post ++ pre).Pairwise (fun p q=>aheadM p.1 q.1 (x.1,v)=true):=by
 have hR:=RS_sorted sA sB hv
 have hL:=LS_sorted sA sB hv
 have bR:∀ z∈RS A B v,befB v z=true:=fun z hz=>(prs_bef sA sB (RS_mem.1 hz)).1
 have bL:∀ y∈LS A B v,befB (ro y) v=true:=fun y hy=>(prs_bef sA sB (LS_mem.1 hy)).1
 have fR:∀ l:List Pt,(l.map (onSp op A B v)).map (·.1)=l:=fun l=>by
  rw [List.map_map];exact (List.map_congr_left (fun _ _=>rfl)).trans (List.map_id l)
 have fL:∀ l:List Pt,(l.map (backSp op A B v)).map (·.1)=l.map ro:=fun l=>by
  rw [List.map_map];rfl
 have key:∀ l:List Sp,l.Pairwise (fun p q=>aheadM p.1 q.1 (x.1,v)=true)↔(l.map (·.1)).Pairwise (fun p q=>aheadM p q (x.1,v)=true):=fun l=>by rw [List.pairwise_map]
 rw [key,List.map_append]
 unfold Cyc at h
 rcases List.append_eq_append_iff.1 h with ⟨m,h1,h2⟩ | ⟨m,h1,h2⟩
 · -- pre=RS' ++ m,LS'=m ++ x::post
  obtain ⟨l1,l2',e1,e2,e3⟩:=List.map_eq_append_iff.1 h2
  obtain ⟨s,l2,e4,e5,e6⟩:=List.map_eq_cons_iff.1 e3
  subst e4
  have hx:x.1=ro s:=by rw [<-e5];rfl
  have epre:pre.map (·.1)=RS A B v ++ l1.map ro:=by rw [h1,List.map_append,fR,<-e2,fL]
  have epost:post.map (·.1)=l2.map ro:=by rw [<-e6,fL]
  rw [epre,epost,hx]
  have hs:s∈LS A B v:=by rw [e1];simp
  have hLs:=hL
  rw [e1] at hLs
  obtain ⟨q1,q2,q3⟩:=List.pairwise_append.1 hLs
  obtain ⟨q4,q5⟩:=List.pairwise_cons.1 q2
  have t:=turn_order (v:=ro v) (s:=s) hv (by have:=bL s hs;rw [<-ro_bef,ro_ro] at this;exact this) (R1:=l1) (R2:=l2) (L:=(RS A B v).map ro)
   (fun p hp=>⟨by have:=bL p (by rw [e1];simp [hp]);rw [<-ro_bef,ro_ro] at this;exact this,by have:=q3 p hp s (by simp);have:=d_anti (ro v) s p;omega⟩)
   (fun p hp=>⟨by have:=bL p (by rw [e1];simp [hp]);rw [<-ro_bef,ro_ro] at this;exact this,q4 p hp⟩)
   (fun p hp=>by
    obtain ⟨z,hz,rfl⟩:=List.mem_map.1 hp
    rw [ro_bef];exact bR z hz)
   q1 q5 (by rw [List.pairwise_map];exact hR.imp (fun k=>by rw [ro_det];exact k))
  have e:l2.map ro ++ (RS A B v ++ l1.map ro)=(l2 ++ ((RS A B v).map ro ++ l1)).map ro:=by
   rw [List.map_append,List.map_append,List.map_map]
   have:(RS A B v).map (ro ∘ ro)=RS A B v:=(List.map_congr_left (fun z _=>ro_ro z)).trans (List.map_id _)
   rw [this]
  rw [e,List.pairwise_map]
  refine t.imp fun {p q} k=>?_
  have:=ahead_ro p q (s,ro v)
  simp only [ro_ro] at this
  rw [this];exact k
 · -- RS'=pre ++ m,x::post=m ++ LS'
  cases m with
  | nil=>
   simp at h1 h2
   obtain ⟨s,l2,e4,e5,e6⟩:=List.map_eq_cons_iff.1 h2.symm
   have hx:x.1=ro s:=by rw [<-e5];rfl
   have epre:pre.map (·.1)=RS A B v:=by rw [<-h1,fR]
   have epost:post.map (·.1)=l2.map ro:=by rw [<-e6,fL]
   rw [epre,epost,hx]
   have hs:s∈LS A B v:=by rw [e4];simp
   have hLs:=hL
   rw [e4] at hLs
   obtain ⟨q4,q5⟩:=List.pairwise_cons.1 hLs
   have t:=turn_order (v:=ro v) (s:=s) hv (by have:=bL s hs;rw [<-ro_bef,ro_ro] at this;exact this) (R1:=[]) (R2:=l2) (L:=(RS A B v).map ro)
    (fun p hp=>by cases hp)
    (fun p hp=>⟨by have:=bL p (by rw [e4];simp [hp]);rw [<-ro_bef,ro_ro] at this;exact this,q4 p hp⟩)
    (fun p hp=>by
     obtain ⟨z,hz,rfl⟩:=List.mem_map.1 hp
     rw [ro_bef];exact bR z hz)
    List.Pairwise.nil q5 (by rw [List.pairwise_map];exact hR.imp (fun k=>by rw [ro_det];exact k))
   have e:l2.map ro ++ RS A B v=(l2 ++ ((RS A B v).map ro ++ [])).map ro:=by
    rw [List.append_nil,List.map_append,List.map_map]
    have:(RS A B v).map (ro ∘ ro)=RS A B v:=(List.map_congr_left (fun z _=>ro_ro z)).trans (List.map_id _)
    rw [this]
   rw [e,List.pairwise_map]
   refine t.imp fun {p q} k=>?_
   have:=ahead_ro p q (s,ro v)
   simp only [ro_ro] at this
   rw [this];exact k
  | cons y m=>
   simp at h2
   obtain ⟨rfl,h2⟩:=h2
   obtain ⟨r1,r2',e1,e2,e3⟩:=List.map_eq_append_iff.1 h1
   obtain ⟨s,r2,e4,e5,e6⟩:=List.map_eq_cons_iff.1 e3
   subst e4
   have hx:x.1=s:=by rw [<-e5];rfl
   have epre:pre.map (·.1)=r1:=by rw [<-e2,fR]
   have epost:post.map (·.1)=r2 ++ (LS A B v).map ro:=by rw [h2,List.map_append,fL,<-e6,fR]
   rw [epre,epost,hx,List.append_assoc]
   have hs:s∈RS A B v:=by rw [e1];simp
   have hRs:=hR
   rw [e1] at hRs
   obtain ⟨q1,q2,q3⟩:=List.pairwise_append.1 hRs
   obtain ⟨q4,q5⟩:=List.pairwise_cons.1 q2
   exact turn_order (v:=v) (s:=s) hv (bR s hs) (R1:=r1) (R2:=r2) (L:=(LS A B v).map ro)
    (fun p hp=>⟨bR p (by rw [e1];simp [hp]),by have:=q3 p hp s (by simp);have:=d_anti v s p;omega⟩)
    (fun p hp=>⟨bR p (by rw [e1];simp [hp]),q4 p hp⟩)
    (fun p hp=>by
     obtain ⟨z,hz,rfl⟩:=List.mem_map.1 hp
     exact bL z hz)
    q1 q5 (by rw [List.pairwise_map];exact hL.imp (fun {a b} k=>by rw [<-ro_det,ro_ro,ro_ro];exact k))
end
theorem ahead_asym {p q z v:Pt}(h:aheadM p q (z,v)=true):aheadM q p (z,v)=false:=by
 have e:=d_anti v p q
 unfold aheadM at *
 simp only at *
 by_cases a:detM v z p<0 <;> by_cases b:detM v z q<0
 ·rw [decide_eq_true a,decide_eq_true b] at *
  simp at h ⊢;omega
 ·rw [decide_eq_true a,decide_eq_false b] at *
  simp at h ⊢
 ·rw [decide_eq_false a,decide_eq_true b] at *
  simp at h
 ·rw [decide_eq_false a,decide_eq_false b] at *
  simp at h ⊢;omega
theorem Nx.uniq {L:List (Pt×Pt)}{z v j j':Pt}(h:Nx L z v j)(h':Nx L z v j'):j=j':=by
 apply Classical.byContradiction
 intro k
 have a:=h.first j' h'.mem (fun e=>k e.symm)
 have b:=h'.first j h.mem k
 rw [ahead_asym a] at b;cases b
theorem pw_nodup {v:Pt}{l:List Pt}(h:l.Pairwise (fun s t=>detM v s t<0)):l.Nodup:=
 h.imp fun {a b} k e=>by
  subst e
  have:detM v a a=0:=by unfold detM;grind
  omega
section
variable {A B:List (List Pt)}(sA:Sound A)(sB:Sound B)(op:Int)
include sA sB
theorem cyc_nodup {v:Pt}(hv:0<v.d):(Cyc op A B v).Nodup:=by
 unfold Cyc
 rw [List.nodup_append]
 have i1:∀ a b,onSp op A B v a=onSp op A B v b->a=b:=fun a b h=>congrArg Prod.fst h
 have i2:∀ a b,backSp op A B v a=backSp op A B v b->a=b:=fun a b h=>by
  have:ro a=ro b:=congrArg Prod.fst h
  rw [<-ro_ro a,this,ro_ro]
 refine ⟨?_,?_,?_⟩
 ·exact List.pairwise_map.2 ((pw_nodup (RS_sorted sA sB hv)).imp fun {a b} k e=>k (i1 _ _ e))
 ·exact List.pairwise_map.2 ((pw_nodup (LS_sorted sA sB hv)).imp fun {a b} k e=>k (i2 _ _ e))
 ·intro x hx y hy e
  obtain ⟨z,hz,rfl⟩:=List.mem_map.1 hx
  obtain ⟨u,hu,rfl⟩:=List.mem_map.1 hy
  have k1:=(prs_bef sA sB (RS_mem.1 hz)).1
  have k2:=(prs_bef sA sB (LS_mem.1 hu)).1
  have e1:z=ro u:=congrArg Prod.fst e
  simp only at k1 k2
  rw [e1,bef_asym k2] at k1;cases k1
theorem bord_spot {z v:Pt}(h:(z,v)∈bordM op (piecesM A B)):(v∈spotsM (edgesM A ++ edgesM B)/\0<v.d)/\(z∈spotsM (edgesM A ++ edgesM B)/\0<z.d)/\z≠v:=by
 obtain ⟨x,hx,hb⟩:=bord_mem h
 unfold piecesM at hx
 obtain ⟨y,hy,rfl⟩:=List.mem_map.1 hx
 have hG:=good_both sA sB
 have hS:=(spots_spec hG).1
 obtain ⟨e,he,ha⟩:=((pairs_spec _ hS).2 y).1 hy
 obtain ⟨m1,m2,_,_⟩:=AL_mem ha
 have b:=(AL_next hS.srt ha).1
 have ne:y.1≠y.2:=fun e=>by rw [e,bef_irr] at b;cases b
 have d1:=(hS.nc _ m1).d
 have d2:=(hS.nc _ m2).d
 rcases hb with hb | hb
 ·have e1:z=y.1:=congrArg Prod.fst hb
  have e2:v=y.2:=congrArg Prod.snd hb
  subst e1 e2
  exact ⟨⟨m2,d2⟩,⟨m1,d1⟩,ne⟩
 ·have e1:z=y.2:=congrArg Prod.fst hb
  have e2:v=y.1:=congrArg Prod.snd hb
  subst e1 e2
  exact ⟨⟨m1,d1⟩,⟨m2,d2⟩,fun e=>ne e.symm⟩
theorem from_end {z v:Pt}(h:(z,v)∈bordM op (piecesM A B)):∃ pre post mid j rest,Cyc op A B v=pre ++ (z,false,true)::post/\post ++ pre=mid ++ j::rest/\(∀ m∈mid,m.2=(true,true))/\j.2=(true,false)/\Nx (bordM op (piecesM A B)) z v j.1:=by
 obtain ⟨⟨hm,hv⟩,_,_⟩:=bord_spot sA sB op h
 obtain ⟨pre,post,e⟩:=List.append_of_mem ((ends_iff sA sB op).1 h)
 obtain ⟨c,hc⟩:=cyc_lk sA sB hv hm op
 have hr:=hc
 rw [e] at hr
 obtain ⟨mid,j,rest,e2,n,hj⟩:=first_out (lk_rot hr)
 have ord:=cyc_order sA sB hv op e
 refine ⟨pre,post,mid,j,rest,e,e2,n,hj,?_,?_⟩
 ·rw [begins_iff sA sB op]
  have:j∈post ++ pre:=by rw [e2];simp
  have hj':(j.1,true,false)=j:=by rw [<-hj]
  rw [hj',e]
  rcases List.mem_append.1 this with k | k
  ·simp [k]
  ·simp [k]
 ·intro q hq hne
  have hq':=(begins_iff sA sB op).1 hq
  have hin:(q,true,false)∈post ++ pre:=by
   rw [e] at hq'
   rcases List.mem_append.1 hq' with k | k
   ·exact List.mem_append.2 (.inr k)
   ·rcases List.mem_cons.1 k with k | k
    ·simp at k
    ·exact List.mem_append.2 (.inl k)
  rw [e2] at hin ord
  rcases List.mem_append.1 hin with k | k
  ·have:=n _ k
   simp at this
  ·rcases List.mem_cons.1 k with k | k
   ·have t:q=j.1:=congrArg Prod.fst k
    exact (hne t).elim
   ·have o:=(List.pairwise_append.1 ord).2.1
    have o2:=(List.pairwise_cons.1 o).1 (q,true,false) k
    simpa only using o2
theorem next_exists {z v:Pt}(h:(z,v)∈bordM op (piecesM A B)):∃ j,Nx (bordM op (piecesM A B)) z v j:=by
 obtain ⟨_,_,_,j,_,_,_,_,_,k⟩:=from_end sA sB op h
 exact ⟨j.1,k⟩
theorem next_one {z z' v j:Pt}(h:(z,v)∈bordM op (piecesM A B))(h':(z',v)∈bordM op (piecesM A B))(k:Nx (bordM op (piecesM A B)) z v j)(k':Nx (bordM op (piecesM A B)) z' v j):z=z':=by
 obtain ⟨⟨_,hv⟩,_,_⟩:=bord_spot sA sB op h
 obtain ⟨pre,post,mid,i,rest,e,f,n,hi,x⟩:=from_end sA sB op h
 obtain ⟨pre',post',mid',i',rest',e',f',n',hi',x'⟩:=from_end sA sB op h'
 have a:i=i':=by
  have a1:=x.uniq k
  have a2:=x'.uniq k'
  obtain ⟨p,q⟩:=i
  obtain ⟨p',q'⟩:=i'
  simp only at a1 a2 hi hi'
  rw [a1,a2,hi,hi']
 subst a
 have:=next_inj (cyc_nodup sA sB op hv) e e' f f' n n' rfl rfl
 exact congrArg Prod.fst this
end
theorem cmp_nice {a b:Pt}(ha:Nice a)(hb:Nice b):cmpM a b=0↔a=b:=by
 constructor
 ·intro h
  have h1:=cmpB a b
  have h2:=cmpB' a b
  rw [h] at h1 h2
  simp at h1 h2
  exact canon_eq ha.2 hb.2 h1 h2
 ·rintro rfl;exact cmp_self a
theorem edg_mem {L:List (Pt×Pt)}{k:Nat}(h:k<L.length):edg L k∈L:=by
 unfold edg
 rw [List.getD_eq_getElem?_getD,List.getElem?_eq_getElem h]
 exact List.getElem_mem h
theorem mem_edg {L:List (Pt×Pt)}{e:Pt×Pt}(h:e∈L):∃ k,k<L.length/\edg L k=e:=by
 obtain ⟨k,hk,e⟩:=List.getElem_of_mem h
 refine ⟨k,hk,?_⟩
 unfold edg
 rw [List.getD_eq_getElem?_getD,List.getElem?_eq_getElem hk]
 exact e
theorem edg_inj {L:List (Pt×Pt)}(hn:L.Nodup){i k:Nat}(hi:i<L.length)(hk:k<L.length)(h:edg L i=edg L k):i=k:=by
 unfold edg at h
 rw [List.getD_eq_getElem?_getD,List.getElem?_eq_getElem hi,List.getD_eq_getElem?_getD,List.getElem?_eq_getElem hk] at h
 exact (List.getElem_inj hn).1 h
theorem fol_inv {L:List (Pt×Pt)}(hc:∀ i k,i<L.length->k<L.length->(cmpM (edg L k).1 (edg L i).2=0↔(edg L k).1=(edg L i).2)){i:Nat}(hi:i<L.length){z v j:Pt}(e:edg L i=(z,v))(hz:z≠v)(hx:Nx L z v j):∀ k,k<=L.length->
  ((∃ m,m<k/\edg L m=(v,j))->edg L (folM L i k)=(v,j))/\((¬ ∃ m,m<k/\edg L m=(v,j))->folM L i k=i\/(edg L (folM L i k)).1=v)
 | 0,_=>⟨fun ⟨m,h,_⟩=>absurd h (by omega),fun _=>.inl rfl⟩
 | k+1,hk=>by
  obtain ⟨a,b⟩:=fol_inv hc hi e hz hx k (by omega)
  have lt:=fol_lt hi k (by omega)
  have c:=hc i k hi (by omega)
  have km:=edg_mem (L:=L) (k:=k) (by omega)
  have cm:=edg_mem lt
  unfold folM
  generalize folM L i k=f at *
  rw [e] at c ⊢
  simp only at c ⊢
  by_cases d:(edg L k).1=v
  ·rw [if_neg (fun w=>w (c.2 d))]
   rcases ek:edg L k with ⟨kx,ky⟩
   rw [ek] at d km
   simp only at d
   subst d
   simp only
   by_cases y:ky=j
   ·subst y
    have ey:∃ m,m<k+1/\edg L m=(kx,ky):=⟨k,by omega,ek⟩
    refine ⟨fun _=>?_,fun n=>absurd ey n⟩
    split
    ·exact ek
    ·rename_i t
     by_cases x:∃ m,m<k/\edg L m=(kx,ky)
     ·exact a x
     ·rcases b x with b | b
      ·exact absurd (.inl b) t
      ·rcases ef:edg L f with ⟨fx,fy⟩
       rw [ef] at b cm t
       simp only at b t
       subst b
       apply Classical.byContradiction
       intro w
       exact t (.inr (hx.first fy cm (fun q=>w (by rw [q]))))
   ·have nk:edg L k≠(kx,j):=fun q=>y (by rw [ek] at q;exact congrArg Prod.snd q)
    have fr:=hx.first ky km y
    have back:∀ {P:Prop},(∃ m,m<k+1/\edg L m=(kx,j))->((∃ m,m<k/\edg L m=(kx,j))->P)->P:=by
     intro P ⟨m,hm,em⟩ g
     by_cases q:m=k
     ·subst q;exact absurd em nk
     ·exact g ⟨m,by omega,em⟩
    refine ⟨fun q=>?_,fun q=>?_⟩
    ·refine back q fun q=>?_
     have af:=a q
     rw [if_neg]
     ·exact af
     ·rintro (w | w)
      ·rw [w,e] at af
       exact hz (congrArg Prod.fst af)
      ·rw [af] at w
       simp only at w
       rw [ahead_asym fr] at w;cases w
    ·have q' : ¬ ∃ m,m<k/\edg L m=(kx,j):=fun ⟨m,hm,em⟩=>q ⟨m,by omega,em⟩
     split
     ·right;rw [ek]
     ·exact b q'
  ·rw [if_pos (fun w=>d (c.1 w))]
   have nk:edg L k≠(v,j):=fun q=>d (by rw [q])
   refine ⟨fun ⟨m,hm,em⟩=>?_,fun q=>?_⟩
   ·by_cases q:m=k
    ·subst q;exact absurd em nk
    ·exact a ⟨m,by omega,em⟩
   ·exact b fun ⟨m,hm,em⟩=>q ⟨m,by omega,em⟩
theorem fol_nx {L:List (Pt×Pt)}(hc:∀ i k,i<L.length->k<L.length->(cmpM (edg L k).1 (edg L i).2=0↔(edg L k).1=(edg L i).2)){i:Nat}(hi:i<L.length){z v j:Pt}(e:edg L i=(z,v))(hz:z≠v)(hx:Nx L z v j):edg L (folM L i L.length)=(v,j):=by
 obtain ⟨m,hm,em⟩:=mem_edg hx.mem
 exact (fol_inv hc hi e hz hx L.length (Nat.le_refl _)).1 ⟨m,hm,em⟩
section
variable {A B:List (List Pt)}(sA:Sound A)(sB:Sound B)(op:Int)
include sA sB
theorem bord_nice {e:Pt×Pt}(h:e∈bordM op (piecesM A B)):Nice e.1/\Nice e.2/\e.1≠e.2:=by
 obtain ⟨z,v⟩:=e
 obtain ⟨a,b,c⟩:=bord_spot sA sB op h
 have hS:=(spots_spec (good_both sA sB)).1
 exact ⟨hS.nc _ b.1,hS.nc _ a.1,c⟩
theorem bord_nodup:(bordM op (piecesM A B)).Nodup:=by
 have hG:=good_both sA sB
 have hS:=(spots_spec hG).1
 unfold bordM piecesM
 rw [List.flatMap_map]
 refine List.pairwise_flatMap.2 ⟨?_,?_⟩
 ·intro y hy
  have:=bordOf_len op (pcOf (edgesM A) (edgesM B) y)
  generalize bordOf op (pcOf (edgesM A) (edgesM B) y)=l at *
  match l,this with
  | [],_=>exact List.Pairwise.nil
  | [_],_=>simp
 ·have hp:=pairs_spec (edgesM A ++ edgesM B) hS
  refine List.Pairwise.imp_of_mem ?_ hp.1
  intro y y' my my' hr x hx x' hx' e
  have bf:∀ w,w∈pairsL (edgesM A ++ edgesM B) (spotsM (edgesM A ++ edgesM B))->befB w.1 w.2=true:=by
   intro w hw
   obtain ⟨_,_,ha⟩:=(hp.2 w).1 hw
   exact (AL_next hS.srt ha).1
  have side:∀ w u,u∈bordOf op (pcOf (edgesM A) (edgesM B) w)->u=(w.1,w.2)\/u=(w.2,w.1):=by
   intro w u hu
   have:u∈bordM op [pcOf (edgesM A) (edgesM B) w]:=by unfold bordM;simpa using hu
   obtain ⟨c,hc,h⟩:=bord_mem this
   rw [List.mem_singleton.1 hc] at h
   exact h
  have b1:=bf y my
  have b2:=bf y' my'
  have s1:=side y x hx
  have s2:=side y' x' hx'
  subst e
  obtain ⟨p,q⟩:=y
  obtain ⟨p',q'⟩:=y'
  simp only at b1 b2 s1 s2
  rcases s1 with s1 | s1 <;> rcases s2 with s2 | s2 <;> rw [s1] at s2 <;> obtain ⟨rfl,rfl⟩:=Prod.mk.inj s2
  ·exact PR_irr _ hr
  ·rw [bef_asym b1] at b2;cases b2
  ·rw [bef_asym b1] at b2;cases b2
  ·exact PR_irr _ hr
theorem bord_cmp:∀ i k,i<(bordM op (piecesM A B)).length->k<(bordM op (piecesM A B)).length->(cmpM (edg (bordM op (piecesM A B)) k).1 (edg (bordM op (piecesM A B)) i).2=0↔(edg (bordM op (piecesM A B)) k).1=(edg (bordM op (piecesM A B)) i).2):=by
 intro i k hi hk
 exact cmp_nice (bord_nice sA sB op (edg_mem hk)).1 (bord_nice sA sB op (edg_mem hi)).2.1
theorem fol_is {i:Nat}(hi:i<(bordM op (piecesM A B)).length):∃ j,Nx (bordM op (piecesM A B)) (edg (bordM op (piecesM A B)) i).1 (edg (bordM op (piecesM A B)) i).2 j/\edg (bordM op (piecesM A B)) (folM (bordM op (piecesM A B)) i (bordM op (piecesM A B)).length)=((edg (bordM op (piecesM A B)) i).2,j):=by
 have hc:=bord_cmp sA sB op
 have hm:=edg_mem hi
 have hne:=(bord_nice sA sB op hm).2.2
 obtain ⟨j,hj⟩:=next_exists sA sB op (z:=(edg (bordM op (piecesM A B)) i).1) (v:=(edg (bordM op (piecesM A B)) i).2) hm
 exact ⟨j,hj,fol_nx hc hi rfl hne hj⟩
theorem fol_inj {i i':Nat}(hi:i<(bordM op (piecesM A B)).length)(hi':i'<(bordM op (piecesM A B)).length)(h:folM (bordM op (piecesM A B)) i (bordM op (piecesM A B)).length=folM (bordM op (piecesM A B)) i' (bordM op (piecesM A B)).length):i=i':=by
 obtain ⟨j,x,e⟩:=fol_is sA sB op hi
 obtain ⟨j',x',e'⟩:=fol_is sA sB op hi'
 have m:=edg_mem hi
 have m':=edg_mem hi'
 have g:=edg_inj (bord_nodup sA sB op) hi hi'
 rw [h,e'] at e
 obtain ⟨ev,ej⟩:=Prod.mk.inj e
 subst ej
 apply g
 generalize edg (bordM op (piecesM A B)) i=a at *
 generalize edg (bordM op (piecesM A B)) i'=b at *
 obtain ⟨z,v⟩:=a
 obtain ⟨z',v'⟩:=b
 simp only at ev x x' m m'
 subst ev
 rw [next_one sA sB op m m' x x']
end
structure Pm (N:List Nat)(n:Nat):Prop where
 lt:∀ k,k<n->N.getD k 0<n
 inj:∀ k k',k<n->k'<n->N.getD k 0=N.getD k' 0->k=k'
def itN (N:List Nat)(i:Nat):Nat->Nat
 | 0=>i
 | a+1=>N.getD (itN N i a) 0
theorem holes:∀ (n:Nat) (l:List Nat),l.Nodup->(∀ x∈l,x<n)->l.length<=n
 | 0,[],_,_=>by simp
 | 0,x::l,_,h=>absurd (h x (by simp)) (by omega)
 | n+1,l,hn,h=>by
  have ih:=holes n (l.erase n) (hn.erase n) (fun x hx=>by
   have:=(hn.mem_erase_iff).1 hx
   have:=h x this.2
   omega)
  by_cases m:n∈l
  ·rw [List.length_erase_of_mem m] at ih;omega
  ·rw [List.erase_of_not_mem m] at ih;omega
theorem least_one {P:Nat->Prop}:∀ m,P m->∃ k,k<=m/\P k/\∀ a,a<k->¬ P a:=by
 intro m
 induction m using Nat.strongRecOn with
 | _ m ih=>
  intro h
  by_cases x:∃ a,a<m/\P a
  ·obtain ⟨a,ha,pa⟩:=x
   obtain ⟨k,hk,pk,g⟩:=ih a ha pa
   exact ⟨k,by omega,pk,g⟩
  ·exact ⟨m,Nat.le_refl _,h,fun a ha pa=>x ⟨a,ha,pa⟩⟩
section
variable {N:List Nat}{n i:Nat}(h:Pm N n)(hi:i<n)
include h hi
theorem it_lt:∀ a,itN N i a<n
 | 0=>hi
 | a+1=>h.lt _ (it_lt a)
theorem it_down:∀ a b,a<=b->itN N i a=itN N i b->itN N i (b-a)=i
 | 0,b,_,e=>e.symm
 | a+1,0,l,_=>absurd l (by omega)
 | a+1,b+1,l,e=>by
  have:=it_down a b (by omega) (h.inj _ _ (it_lt h hi a) (it_lt h hi b) e)
  rw [Nat.add_sub_add_right];exact this
theorem comes_back:∃ m,1<=m/\m<=n/\itN N i m=i/\∀ a,1<=a->a<m->itN N i a≠i:=by
 have ex:∃ m,1<=m/\m<=n/\itN N i m=i:=by
  apply Classical.byContradiction
  intro no
  have nd:((List.range (n+1)).map (itN N i)).Nodup:=by
   refine List.pairwise_map.2 (List.Pairwise.imp_of_mem ?_ List.pairwise_lt_range)
   intro a b ma mb lt e
   have la:=List.mem_range.1 ma
   have lb:=List.mem_range.1 mb
   exact no ⟨b-a,by omega,by omega,it_down h hi a b (by omega) e⟩
  have:=holes n _ nd (fun x hx=>by
   obtain ⟨a,_,rfl⟩:=List.mem_map.1 hx
   exact it_lt h hi a)
  simp at this
  omega
 obtain ⟨m,h1,h2,h3⟩:=ex
 obtain ⟨k,hk,⟨p1,p2⟩,g⟩:=least_one (P:=fun m=>1<=m/\itN N i m=i) m ⟨h1,h3⟩
 exact ⟨k,p1,by omega,p2,fun a ha la e=>g a la ⟨ha,e⟩⟩
end
def setN (t:List Bool)(N:List Nat)(i:Nat):Nat->List Bool
 | 0=>t
 | a+1=>(setN t N i a).set (itN N i a) true
theorem setN_len (t:List Bool)(N:List Nat)(i:Nat):∀ a,(setN t N i a).length=t.length
 | 0=>rfl
 | a+1=>by unfold setN;rw [List.length_set,setN_len t N i a]
theorem setN_at {t:List Bool}{N:List Nat}{i k:Nat}(hk:k<t.length):∀ a,(setN t N i a).getD k false=true↔t.getD k false=true\/∃ b,b<a/\itN N i b=k
 | 0=>by unfold setN;simp
 | a+1=>by
  have ih:=setN_at (N:=N) (i:=i) hk a
  have hl:=setN_len t N i a
  unfold setN
  by_cases e:itN N i a=k
  ·have:((setN t N i a).set (itN N i a) true).getD k false=true:=by
    rw [e,List.getD_eq_getElem?_getD,List.getElem?_set_self (by omega)];rfl
   rw [this]
   simp only [true_iff]
   exact .inr ⟨a,by omega,e⟩
  ·have:((setN t N i a).set (itN N i a) true).getD k false=(setN t N i a).getD k false:=by
    rw [List.getD_eq_getElem?_getD,List.getElem?_set_ne e,<-List.getD_eq_getElem?_getD]
   rw [this,ih]
   constructor
   ·rintro (w | ⟨b,hb,w⟩)
    ·exact .inl w
    ·exact .inr ⟨b,by omega,w⟩
   ·rintro (w | ⟨b,hb,w⟩)
    ·exact .inl w
    ·refine .inr ⟨b,?_,w⟩
     by_cases q:b=a
     ·subst q;exact absurd w e
     ·omega
def ptsN (L:List (Pt×Pt))(N:List Nat)(i:Nat):Nat->Nat->List Pt
 | _,0=>[]
 | a,c+1=>(if turnB (edg L (itN N i a)) (edg L (itN N i (a+1)))=true then [(edg L (itN N i a)).2] else []) ++ ptsN L N i (a+1) c
theorem walk_from (L:List (Pt×Pt)){N:List Nat}{n i:Nat}(h:Pm N n)(hi:i<n){t:List Bool}(ht:t.length=n)(hf:∀ a,t.getD (itN N i a) false=false){m:Nat}(m1:1<=m)(mi:itN N i m=i)(ml:∀ a,1<=a->a<m->itN N i a≠i):∀ c a f,a+c=m->c<f->walkM L N f (setN t N i a) (itN N i a)=(ptsN L N i a c,setN t N i m)
 | 0,a,f+1,e,_=>by
  have e:a=m:=by omega
  subst e
  unfold walkM ptsN
  have:(setN t N i a).getD (itN N i a) false=true:=by
   rw [setN_at (by rw [ht];exact it_lt h hi a)]
   exact .inr ⟨0,by omega,by rw [mi];rfl⟩
  rw [if_pos this]
 | c+1,a,f+1,e,l=>by
  have ih:=walk_from L h hi ht hf m1 mi ml c (a+1) f (by omega) (by omega)
  have no : ¬ (setN t N i a).getD (itN N i a) false=true:=by
   rw [setN_at (by rw [ht];exact it_lt h hi a)]
   rintro (w | ⟨b,hb,w⟩)
   ·rw [hf a] at w;cases w
   ·exact ml (a-b) (by omega) (by omega) (it_down h hi b a (by omega) w)
  unfold walkM ptsN
  rw [if_neg no]
  have e1:N.getD (itN N i a) 0=itN N i (a+1):=rfl
  have e2:(setN t N i a).set (itN N i a) true=setN t N i (a+1):=rfl
  rw [e1,e2,ih]
theorem walk_round (L:List (Pt×Pt)){N:List Nat}{n i:Nat}(h:Pm N n)(hi:i<n){t:List Bool}(ht:t.length=n)(hf:∀ a,t.getD (itN N i a) false=false):∃ m,1<=m/\m<=n/\itN N i m=i/\(∀ a,1<=a->a<m->itN N i a≠i)/\walkM L N (n+1) t i=(ptsN L N i 0 m,setN t N i m):=by
 obtain ⟨m,m1,mn,mi,ml⟩:=comes_back h hi
 exact ⟨m,m1,mn,mi,ml,walk_from L h hi ht hf m1 mi ml m 0 (n+1) (by omega) (by omega)⟩
def Whole (N:List Nat)(n:Nat)(t:List Bool):Prop:=∀ k,k<n->(t.getD k false=true↔t.getD (N.getD k 0) false=true)
theorem Whole.it {N:List Nat}{n i:Nat}{t:List Bool}(w:Whole N n t)(h:Pm N n)(hi:i<n):∀ a,t.getD (itN N i a) false=t.getD i false
 | 0=>rfl
 | a+1=>by
  rw [<-Whole.it w h hi a]
  have:=w _ (it_lt h hi a)
  have e1:N.getD (itN N i a) 0=itN N i (a+1):=rfl
  rw [e1] at this
  cases x:t.getD (itN N i a) false <;> cases y:t.getD (itN N i (a+1)) false <;> simp_all
theorem Whole.set {N:List Nat}{n i:Nat}{t:List Bool}(w:Whole N n t)(h:Pm N n)(hi:i<n)(ht:t.length=n){m:Nat}(m1:1<=m)(mi:itN N i m=i):Whole N n (setN t N i m):=by
 intro k hk
 rw [setN_at (by omega),setN_at (by rw [ht];exact h.lt k hk),w k hk]
 constructor
 ·rintro (x | ⟨b,hb,x⟩)
  ·exact .inl x
  ·right
   by_cases q:b+1=m
   ·refine ⟨0,by omega,?_⟩
    rw [<-x]
    show i=itN N i (b+1)
    rw [q,mi]
   ·exact ⟨b+1,by omega,by rw [<-x];rfl⟩
 ·rintro (x | ⟨b,hb,x⟩)
  ·exact .inl x
  ·right
   match b,hb,x with
   | 0,hb,x=>
    refine ⟨m-1,by omega,h.inj _ _ (it_lt h hi _) hk ?_⟩
    rw [<-x]
    show itN N i (m-1+1)=i
    rw [show m-1+1=m by omega,mi]
   | b+1,hb,x=>exact ⟨b,by omega,h.inj _ _ (it_lt h hi _) hk x⟩
theorem nexts_pm {A B:List (List Pt)}(sA:Sound A)(sB:Sound B)(op:Int):Pm (nextsM (bordM op (piecesM A B))) (bordM op (piecesM A B)).length:=
 ⟨nexts_lt _,fun k k' hk hk' e=>by
  rw [nexts_at _ k hk,nexts_at _ k' hk'] at e
  exact fol_inj sA sB op hk hk' e⟩
def betM (v z y x:Pt):Bool:=
 if detM v z y<0 then decide (detM v z x<0) && decide (detM v x y<0)
 else if detM v z y=0 then decide (detM v z x<0)
 else !(decide (detM v x y=0) && decide (detM v z x > 0)) && !(decide (detM v z x=0) && decide (detM v x y > 0)) && !(decide (detM v x y > 0) && decide (detM v z x > 0))
def Opp (v z y:Pt):Prop:=(befB v z=true/\befB y v=true)\/(befB z v=true/\befB v y=true)
theorem opp1 {v z y:Pt}(hv:0<v.d)(h1:befB v z=true)(h2:befB y v=true)(h0:detM v z y=0)(x:Pt):(detM v z x<0↔detM v x y<0)/\(detM v z x=0↔detM v x y=0):=by
 have hb:=refl_bef hv h2
 have hd:detM v z (refl v y)=0:=by rw [refl_det,h0];simp
 have ls:=line_sign (f:=v) (l:=z) (v:=v) (z:=refl v y) (x:=x) hv hv (det_first v z) hd h1 hb
 have e:detM v (refl v y) x=v.d*detM v x y:=by rw [d_anti,refl_det];omega
 rw [e] at ls
 have s1:v.d*detM v x y<0↔detM v x y<0:=by
  constructor
  ·intro h
   apply Classical.byContradiction
   intro g
   have:=Int.mul_nonneg (Int.le_of_lt hv) (show 0<=detM v x y by omega)
   omega
  ·intro h
   exact Int.mul_neg_of_pos_of_neg hv h
 have s2:v.d*detM v x y=0↔detM v x y=0:=by
  rw [Int.mul_eq_zero]
  constructor
  ·rintro (h | h)
   ·omega
   ·exact h
  ·exact .inr
 exact ⟨ls.1.trans s1,ls.2.trans s2⟩
theorem opp_sign {v z y:Pt}(hv:0<v.d)(h:Opp v z y)(h0:detM v z y=0)(x:Pt):(detM v z x<0↔detM v x y<0)/\(detM v z x=0↔detM v x y=0):=by
 rcases h with ⟨h1,h2⟩ | ⟨h1,h2⟩
 ·exact opp1 hv h1 h2 h0 x
 ·have a:=d_anti v z y
  have b:=d_anti v z x
  have c:=d_anti v x y
  have:=opp1 hv h2 h1 (by omega) x
  omega
theorem bet_ahead {v z y x:Pt}(hv:0<v.d)(h1:detM v z y=0->Opp v z y)(h2:detM v z x=0->Opp v z x):betM v z y x=aheadM x y (z,v):=by
 have a:=fun h=>opp_sign hv (h1 h) h x
 have b:=fun h=>opp_sign hv (h2 h) h y
 have c:=d_anti v x y
 unfold betM aheadM
 simp only
 generalize detM v z y=k at *
 generalize detM v z x=l at *
 generalize detM v x y=m at *
 generalize detM v y x=m' at *
 rw [Bool.eq_iff_iff]
 by_cases k1:k<0
 ·rw [if_pos k1,decide_eq_true k1]
  by_cases l1:l<0
  ·rw [decide_eq_true l1];simp
  ·rw [decide_eq_false l1];simp
 ·rw [if_neg k1,decide_eq_false k1]
  by_cases k2:k=0
  ·rw [if_pos k2]
   have a:=a k2
   by_cases l1:l<0
   ·rw [decide_eq_true l1];simp
   ·rw [decide_eq_false l1];simp;omega
  ·rw [if_neg k2]
   by_cases l1:l<0
   ·rw [decide_eq_true l1];simp;omega
   ·rw [decide_eq_false l1];simp
    by_cases l2:l=0
    ·have b:=b l2
     omega
    ·omega
section
variable {A B:List (List Pt)}(sA:Sound A)(sB:Sound B)(op:Int)
include sA sB
theorem bord_opp {z v q:Pt}(h:(z,v)∈bordM op (piecesM A B))(h':(v,q)∈bordM op (piecesM A B)):detM v z q=0->Opp v z q:=by
 intro h0
 have n1:=bord_nice sA sB op h
 have n2:=bord_nice sA sB op h'
 have c1:=cyc_points ((ends_iff sA sB op).1 h)
 have c2:=cyc_points ((begins_iff sA sB op).1 h')
 simp only at c1 c2
 rcases c1 with ⟨c1,d1⟩ | ⟨c1,d1⟩ <;> rcases c2 with ⟨c2,d2⟩ | ⟨c2,d2⟩
 ·have m1:=RS_mem.1 c1
  have m2:=RS_mem.1 c2
  exfalso
  cases b1:befB z q
  ·cases b2:befB q z
   ·have e:=canon_eq n1.1.2 n2.2.1.2 b1 b2
    subst e
    rw [<-d1] at d2
    simp at d2
   ·have:=ons_apart (good_both sA sB) m2 m1 b2
    rw [d_anti] at this
    omega
  ·exact ons_apart (good_both sA sB) m1 m2 b1 h0
 ·have m1:=(prs_bef sA sB (RS_mem.1 c1)).1
  have m2:=LS_mem.1 c2
  rw [ro_ro] at m2
  exact .inl ⟨m1,(prs_bef sA sB m2).1⟩
 ·have m1:=LS_mem.1 c1
  rw [ro_ro] at m1
  have m2:=(prs_bef sA sB (RS_mem.1 c2)).1
  exact .inr ⟨(prs_bef sA sB m1).1,m2⟩
 ·have m1:=LS_mem.1 c1
  have m2:=LS_mem.1 c2
  rw [ro_ro] at m1 m2
  exfalso
  cases b1:befB z q
  ·cases b2:befB q z
   ·have e:=canon_eq n1.1.2 n2.2.1.2 b1 b2
    subst e
    rw [<-d1] at d2
    simp at d2
   ·have:=backs_apart sA sB m2 m1 b2
    rw [d_anti] at this
    omega
  ·exact backs_apart sA sB m1 m2 b1 h0
end
end Go.Proofs.YtnkcbephceollabGreat
