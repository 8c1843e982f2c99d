import Derived.Test.YtnkcbephceollabGreatU22
namespace Go.Proofs.YtnkcbephceollabGreat
set_option linter.unusedVariables false
set_option linter.unusedSimpArgs false
set_option linter.unusedSectionVars false
def AL (f:Pt->Bool):List Pt->Pt×Pt->Prop
 | [],_=>False
 | s::l,x=>(f s=true/\x.1=s/\l.find? f=some x.2)\/AL f l x
theorem AL_congr {f g:Pt->Bool}:∀ {l:List Pt},(∀ s∈l,f s=g s)->∀ x,AL f l x↔AL g l x
 | [],_,_=>Iff.rfl
 | s::l,h,x=>by
  have hl:∀ y∈l,f y=g y:=fun y hy=>h y (List.mem_cons_of_mem _ hy)
  have e:l.find? f=l.find? g:=by
   clear h
   induction l with
   | nil=>rfl
   | cons y l ih=>
    rw [List.find?_cons,List.find?_cons,hl y (List.mem_cons_self ..),ih (fun z hz=>hl z (List.mem_cons_of_mem _ hz))]
  unfold AL
  rw [h s (List.mem_cons_self ..),e,AL_congr hl]
theorem AL_mem {f:Pt->Bool}:∀ {l:List Pt} {x:Pt×Pt},AL f l x->x.1∈l/\x.2∈l/\f x.1=true/\f x.2=true
 | s::l,x,h=>by
  unfold AL at h
  rcases h with ⟨h1,h2,h3⟩ | h
  ·exact ⟨by rw [h2];exact List.mem_cons_self ..,List.mem_cons_of_mem _ (List.mem_of_find?_eq_some h3),by rw [h2];exact h1,List.find?_some h3⟩
  ·obtain ⟨a,b,c⟩:=AL_mem h
   exact ⟨List.mem_cons_of_mem _ a,List.mem_cons_of_mem _ b,c⟩
theorem AL_next {f:Pt->Bool}:∀ {l:List Pt} {x:Pt×Pt},Srt l->AL f l x->befB x.1 x.2=true/\∀ y∈l,befB x.1 y=true->befB y x.2=true->f y=false
 | s::l,x,hs,h=>by
  have p:=List.pairwise_cons.1 hs
  unfold AL at h
  rcases h with ⟨h1,h2,h3⟩ | h
  ·rw [h2]
   refine ⟨p.1 _ (List.mem_of_find?_eq_some h3),fun y hy b1 b2=>?_⟩
   rcases List.mem_cons.1 hy with rfl | hy
   ·rw [bef_irr] at b1;cases b1
   ·obtain ⟨_,l1,l2,e,hn⟩:=List.find?_eq_some_iff_append.1 h3
    rw [e] at hy p
    rcases List.mem_append.1 hy with hy | hy
    ·simpa using hn y hy
    ·rcases List.mem_cons.1 hy with rfl | hy
     ·rw [bef_irr] at b2;cases b2
     ·have:=(List.pairwise_append.1 p.2).2.1
      have:=(List.pairwise_cons.1 this).1 y hy
      rw [bef_asym this] at b2;cases b2
  ·obtain ⟨a,b⟩:=AL_next p.2 h
   refine ⟨a,fun y hy b1 b2=>?_⟩
   rcases List.mem_cons.1 hy with rfl | hy
   ·have:=p.1 _ (AL_mem h).1
    rw [bef_asym this] at b1;cases b1
   ·exact b y hy b1 b2
def neighM (p:Pt)(behind:List Pt)(E:List (Pt×Pt)):List Pt:=
 E.foldl (fun l e=>if hasM e.1 e.2 p=true then (match behind.find? (fun q=>hasM e.1 e.2 q) with | some q=>insM l q | none=>l) else l) []
def pairsL (E:List (Pt×Pt)):List Pt->List (Pt×Pt)
 | []=>[]
 | p::S=>(neighM p S E).map (fun q=>(p,q)) ++ pairsL E S
def PR (x y:Pt×Pt):Prop:=befB x.1 y.1=true\/(x.1=y.1/\befB x.2 y.2=true)
theorem PR_irr (x:Pt×Pt) : ¬ PR x x:=by unfold PR;rw [bef_irr,bef_irr];simp
theorem PR_asy (x y:Pt×Pt)(h:PR x y) : ¬ PR y x:=by
 unfold PR at *
 rcases h with h | ⟨h1,h2⟩
 ·rw [bef_asym h]
  rintro (k | ⟨k,_⟩)
  ·cases k
  ·rw [k,bef_irr] at h;cases h
 ·rw [h1,bef_irr,bef_asym h2]
  rintro (k | ⟨_,k⟩) <;> cases k
theorem neigh_spec (p:Pt)(behind:List Pt)(E:List (Pt×Pt))(hb:∀ x∈behind,Nice x):SN (neighM p behind E)/\∀ x,x∈neighM p behind E↔∃ e∈E,hasM e.1 e.2 p=true/\behind.find? (fun q=>hasM e.1 e.2 q)=some x:=by
 obtain ⟨h1,h2⟩:=fold_spec (fun l (e:Pt×Pt)=>if hasM e.1 e.2 p=true then (match behind.find? (fun q=>hasM e.1 e.2 q) with | some q=>insM l q | none=>l) else l) (fun e x=>hasM e.1 e.2 p=true/\behind.find? (fun q=>hasM e.1 e.2 q)=some x) E [] (fun e he s hs=>by
  by_cases c:hasM e.1 e.2 p=true
  ·simp only [if_pos c]
   cases hf:behind.find? (fun q=>hasM e.1 e.2 q) with
   | none=>exact ⟨hs,fun x=>by simp [c]⟩
   | some q=>
    obtain ⟨a1,a2⟩:=ins_spec hs (hb q (List.mem_of_find?_eq_some hf))
    refine ⟨a1,fun x=>?_⟩
    simp only
    rw [a2]
    simp only [c,true_and,Option.some.injEq]
    constructor
    ·rintro (h | h)
     ·exact .inr h.symm
     ·exact .inl h
    ·rintro (h | h)
     ·exact .inr h
     ·exact .inl h.symm
  ·simp only [if_neg c]
   exact ⟨hs,fun x=>by simp [c]⟩) SN.nil
 exact ⟨h1,fun x=>by have:=h2 x;simpa [neighM] using this⟩
theorem pairs_spec (E:List (Pt×Pt)):∀ {S:List Pt},SN S->(pairsL E S).Pairwise PR/\∀ x,x∈pairsL E S↔∃ e∈E,AL (fun s=>hasM e.1 e.2 s) S x
 | [],_=>⟨List.Pairwise.nil,fun x=>by simp [pairsL,AL]⟩
 | p::S,h=>by
  have hp:=List.pairwise_cons.1 h.srt
  have hS:SN S:=⟨hp.2,fun x hx=>h.nc x (List.mem_cons_of_mem _ hx)⟩
  obtain ⟨i1,i2⟩:=pairs_spec E hS
  obtain ⟨n1,n2⟩:=neigh_spec p S E hS.nc
  have e:pairsL E (p::S)=(neighM p S E).map (fun q=>(p,q)) ++ pairsL E S:=rfl
  rw [e]
  constructor
  ·refine List.pairwise_append.2 ⟨?_,i1,fun x hx y hy=>?_⟩
   ·rw [List.pairwise_map]
    exact n1.srt.imp fun {a b} hab=>.inr ⟨rfl,hab⟩
   ·obtain ⟨q,_,rfl⟩:=List.mem_map.1 hx
    obtain ⟨e,_,ha⟩:=(i2 y).1 hy
    exact .inl (hp.1 _ (AL_mem ha).1)
  ·intro x
   rw [List.mem_append,i2]
   constructor
   ·rintro (hx | ⟨e,he,ha⟩)
    ·obtain ⟨q,hq,rfl⟩:=List.mem_map.1 hx
     obtain ⟨e,he,h1,h2⟩:=(n2 q).1 hq
     exact ⟨e,he,.inl ⟨h1,rfl,h2⟩⟩
    ·exact ⟨e,he,.inr ha⟩
   ·rintro ⟨e,he,⟨h1,h2,h3⟩ | ha⟩
    ·refine .inl (List.mem_map.2 ⟨x.2,(n2 x.2).2 ⟨e,he,h1,h3⟩,?_⟩)
     rw [<-h2]
    ·exact .inr ⟨e,he,ha⟩
def aheadB (x y:Pt×Pt):Bool:=if eqP x.1 y.1=true then befB x.2 y.2 else befB x.1 y.1
def knownB (l:List (Pt×Pt))(x:Pt×Pt):Bool:=l.any (fun y=>eqP y.1 x.1 && eqP y.2 x.2)
def sortM (l:List (Pt×Pt))(x:Pt×Pt):List (Pt×Pt):=l.takeWhile (fun y=>aheadB y x) ++ x::l.dropWhile (fun y=>aheadB y x)
def rwalkM (e:Pt×Pt)(st:List (Pt×Pt)×Pt)(s:Pt):List (Pt×Pt)×Pt:=
 if onB s e.1 e.2=true then ((if st.2.d=0\/knownB st.1 (st.2,s)=true then st.1 else sortM st.1 (st.2,s)),s) else st
def rpairsM (E:List (Pt×Pt))(S:List Pt):List (Pt×Pt):=E.foldl (fun out e=>(S.foldl (rwalkM e) (out,zP)).1) []
theorem eqP_iff {p q:Pt}:eqP p q=true↔p=q:=⟨eqP_true,fun h=>by rw [h];simp [eqP]⟩
theorem ahead_PR (x y:Pt×Pt):aheadB x y=true->PR x y:=by
 unfold aheadB PR
 split
 ·rename_i h;intro k;exact .inr ⟨eqP_iff.1 h,k⟩
 ·intro k;exact .inl k
theorem PR_ahead (x y:Pt×Pt)(h:PR x y):aheadB x y=true:=by
 unfold aheadB
 rcases h with h | ⟨h1,h2⟩
 ·rw [if_neg]
  ·exact h
  ·intro k;rw [eqP_iff.1 k,bef_irr] at h;cases h
 ·rw [if_pos (eqP_iff.2 h1)];exact h2
def NP (x:Pt×Pt):Prop:=Nice x.1/\Nice x.2
theorem PR_tri {x y:Pt×Pt}(hx:NP x)(hy:NP y):PR x y\/x=y\/PR y x:=by
 unfold PR
 cases b1:befB x.1 y.1
 ·cases b2:befB y.1 x.1
  ·have e:=canon_eq hx.1.2 hy.1.2 b1 b2
   cases c1:befB x.2 y.2
   ·cases c2:befB y.2 x.2
    ·exact .inr (.inl (Prod.ext e (canon_eq hx.2.2 hy.2.2 c1 c2)))
    ·exact .inr (.inr (.inr ⟨e.symm,rfl⟩))
   ·exact .inl (.inr ⟨e,rfl⟩)
  ·exact .inr (.inr (.inl rfl))
 ·exact .inl (.inl rfl)
theorem PR_trans {x y z:Pt×Pt}(hx:NP x)(hy:NP y)(hz:NP z)(h1:PR x y)(h2:PR y z):PR x z:=by
 unfold PR at *
 rcases h1 with h1 | ⟨e1,h1⟩
 ·rcases h2 with h2 | ⟨e2,h2⟩
  ·exact .inl (bef_lt hy.1.d hz.1.d hx.1.d h2 h1)
  ·rw [<-e2];exact .inl h1
 ·rcases h2 with h2 | ⟨e2,h2⟩
  ·rw [e1];exact .inl h2
  ·exact .inr ⟨e1.trans e2,bef_lt hy.2.d hz.2.d hx.2.d h2 h1⟩
structure SP (l:List (Pt×Pt)):Prop where
 srt:l.Pairwise PR
 np:∀ x∈l,NP x
theorem sort_spec {l:List (Pt×Pt)}{x:Pt×Pt}(h:SP l)(hx:NP x)(hn:x ∉ l):SP (sortM l x)/\∀ y,y∈sortM l x↔y=x\/y∈l:=by
 have el:l.takeWhile (fun y=>aheadB y x) ++ l.dropWhile (fun y=>aheadB y x)=l:=List.takeWhile_append_dropWhile
 have hs:(l.takeWhile (fun y=>aheadB y x) ++ l.dropWhile (fun y=>aheadB y x)).Pairwise PR:=by rw [el];exact h.srt
 have hp:=List.pairwise_append.1 hs
 have ht:∀ y∈l.takeWhile (fun y=>aheadB y x),PR y x:=fun y hy=>ahead_PR _ _ (List.all_eq_true.1 (List.all_takeWhile (p:=fun y=>aheadB y x) (l:=l)) y hy)
 have hd:∀ y∈l.dropWhile (fun y=>aheadB y x),PR x y:=by
  intro y hy
  cases hdw:l.dropWhile (fun y=>aheadB y x) with
  | nil=>rw [hdw] at hy;cases hy
  | cons z r=>
   have hz : ¬ (aheadB z x=true):=by
    have:=List.head?_dropWhile_not (fun y=>aheadB y x) l
    rw [hdw] at this
    simpa using this
   have hzl:z∈l:=by rw [<-el,hdw];simp
   have hzx:PR x z:=by
    rcases PR_tri hx (h.np z hzl) with k | k | k
    ·exact k
    ·subst k;exact absurd hzl hn
    ·exact absurd (PR_ahead _ _ k) hz
   rw [hdw] at hy
   rcases List.mem_cons.1 hy with rfl | hy'
   ·exact hzx
   ·have:=hp.2.1
    rw [hdw] at this
    have hyl:y∈l:=by rw [<-el,hdw];simp [hy']
    exact PR_trans hx (h.np z hzl) (h.np y hyl) hzx ((List.pairwise_cons.1 this).1 y hy')
 unfold sortM
 refine ⟨⟨List.pairwise_append.2 ⟨hp.1,List.pairwise_cons.2 ⟨hd,hp.2.1⟩,fun y hy z hz=>?_⟩,fun y hy=>?_⟩,fun y=>?_⟩
 ·rcases List.mem_cons.1 hz with rfl | hz
  ·exact ht y hy
  ·exact hp.2.2 y hy z hz
 ·rcases List.mem_append.1 hy with hy | hy
  ·exact h.np y (by rw [<-el];exact List.mem_append.2 (.inl hy))
  ·rcases List.mem_cons.1 hy with rfl | hy
   ·exact hx
   ·exact h.np y (by rw [<-el];exact List.mem_append.2 (.inr hy))
 ·have em:y∈l↔y∈l.takeWhile (fun y=>aheadB y x)\/y∈l.dropWhile (fun y=>aheadB y x):=by rw [<-List.mem_append,el]
  rw [em,List.mem_append,List.mem_cons]
  constructor
  ·rintro (h | h | h)
   ·exact .inr (.inl h)
   ·exact .inl h
   ·exact .inr (.inr h)
  ·rintro (h | h | h)
   ·exact .inr (.inl h)
   ·exact .inl h
   ·exact .inr (.inr h)
theorem known_iff {l:List (Pt×Pt)}{x:Pt×Pt}:knownB l x=true↔x∈l:=by
 unfold knownB
 rw [List.any_eq_true]
 constructor
 ·rintro ⟨y,hy,h⟩
  rw [Bool.and_eq_true] at h
  have:y=x:=Prod.ext (eqP_iff.1 h.1) (eqP_iff.1 h.2)
  rw [<-this];exact hy
 ·intro h
  exact ⟨x,h,by rw [eqP_iff.2 rfl,eqP_iff.2 rfl];rfl⟩
theorem walk_spec (e:Pt×Pt):∀ (S:List Pt) (out:List (Pt×Pt)) (last:Pt),(∀ s∈S,Nice s)->SP out->(last.d=0\/Nice last)->
  SP (S.foldl (rwalkM e) (out,last)).1/\∀ x,x∈(S.foldl (rwalkM e) (out,last)).1↔x∈out\/(last.d≠0/\x.1=last/\S.find? (fun s=>onB s e.1 e.2)=some x.2)\/AL (fun s=>onB s e.1 e.2) S x
 | [],out,last,_,h,_=>⟨h,fun x=>by simp [AL]⟩
 | s::S,out,last,hS,h,hl=>by
  have hs:=hS s (List.mem_cons_self ..)
  have hS':∀ y∈S,Nice y:=fun y hy=>hS y (List.mem_cons_of_mem _ hy)
  rw [List.foldl_cons]
  unfold AL
  rw [List.find?_cons]
  have sd:=hs.d
  have sd0:s.d≠0:=by omega
  cases c:onB s e.1 e.2
  ·have er:rwalkM e (out,last) s=(out,last):=by unfold rwalkM;rw [c];rfl
   rw [er]
   obtain ⟨a1,a2⟩:=walk_spec e S out last hS' h hl
   refine ⟨a1,fun x=>?_⟩
   rw [a2];simp
  ·by_cases k:last.d=0\/knownB out (last,s)=true
   ·have er:rwalkM e (out,last) s=(out,s):=by unfold rwalkM;rw [c,if_pos rfl,if_pos k]
    rw [er]
    obtain ⟨a1,a2⟩:=walk_spec e S out s hS' h (.inr hs)
    refine ⟨a1,fun x=>?_⟩
    rw [a2]
    constructor
    ·rintro (h1 | ⟨_,h2,h3⟩ | h1)
     ·exact .inl h1
     ·exact .inr (.inr (.inl ⟨rfl,h2,h3⟩))
     ·exact .inr (.inr (.inr h1))
    ·rintro (h1 | ⟨h1,h2,h3⟩ | ⟨_,h2,h3⟩ | h1)
     ·exact .inl h1
     ·rcases k with k | k
      ·exact absurd k h1
      ·refine .inl ?_
       have hx:x=(last,s):=Prod.ext h2 (by simpa using h3.symm)
       rw [hx];exact known_iff.1 k
     ·exact .inr (.inl ⟨sd0,h2,h3⟩)
     ·exact .inr (.inr h1)
   ·have er:rwalkM e (out,last) s=(sortM out (last,s),s):=by unfold rwalkM;rw [c,if_pos rfl,if_neg k]
    rw [er]
    have k1:last.d≠0:=fun z=>k (.inl z)
    have k2:(last,s) ∉ out:=fun z=>k (.inr (known_iff.2 z))
    have hl':Nice last:=hl.resolve_left k1
    obtain ⟨b1,b2⟩:=sort_spec (x:=(last,s)) h ⟨hl',hs⟩ k2
    obtain ⟨a1,a2⟩:=walk_spec e S _ s hS' b1 (.inr hs)
    refine ⟨a1,fun x=>?_⟩
    rw [a2,b2]
    constructor
    ·rintro ((h1 | h1) | ⟨_,h2,h3⟩ | h1)
     ·subst h1;exact .inr (.inl ⟨k1,rfl,rfl⟩)
     ·exact .inl h1
     ·exact .inr (.inr (.inl ⟨rfl,h2,h3⟩))
     ·exact .inr (.inr (.inr h1))
    ·rintro (h1 | ⟨h1,h2,h3⟩ | ⟨_,h2,h3⟩ | h1)
     ·exact .inl (.inr h1)
     ·exact .inl (.inl (Prod.ext h2 (by simpa using h3.symm)))
     ·exact .inr (.inl ⟨sd0,h2,h3⟩)
     ·exact .inr (.inr h1)
theorem rpairs_spec {S:List Pt}(hS:∀ s∈S,Nice s):∀ (E:List (Pt×Pt)) (out:List (Pt×Pt)),SP out->SP (E.foldl (fun out e=>(S.foldl (rwalkM e) (out,zP)).1) out)/\∀ x,x∈E.foldl (fun out e=>(S.foldl (rwalkM e) (out,zP)).1) out↔x∈out\/∃ e∈E,AL (fun s=>onB s e.1 e.2) S x
 | [],out,h=>⟨h,fun x=>by simp⟩
 | e::E,out,h=>by
  obtain ⟨a1,a2⟩:=walk_spec e S out zP hS h (.inl rfl)
  obtain ⟨b1,b2⟩:=rpairs_spec hS E _ a1
  refine ⟨b1,fun x=>?_⟩
  rw [List.foldl_cons,b2,a2]
  have z : ¬ (zP.d≠0):=by simp [zP]
  constructor
  ·rintro ((h1 | ⟨h1,_⟩ | h1) | ⟨f,hf,h1⟩)
   ·exact .inl h1
   ·exact absurd h1 z
   ·exact .inr ⟨e,List.mem_cons_self ..,h1⟩
   ·exact .inr ⟨f,List.mem_cons_of_mem _ hf,h1⟩
  ·rintro (h1 | ⟨f,hf,h1⟩)
   ·exact .inl (.inl h1)
   ·rcases List.mem_cons.1 hf with rfl | hf
    ·exact .inl (.inr (.inr h1))
    ·exact .inr ⟨f,hf,h1⟩
theorem pairs_eq {E:List (Pt×Pt)}{S:List Pt}(hE:∀ e∈E,Gr e.1/\Gr e.2)(hS:SN S):rpairsM E S=pairsL E S:=by
 obtain ⟨a1,a2⟩:=rpairs_spec hS.nc E [] ⟨List.Pairwise.nil,fun x hx=>by cases hx⟩
 obtain ⟨b1,b2⟩:=pairs_spec E hS
 refine srt_unique PR_irr PR_asy a1.srt b1 fun x=>?_
 show x∈E.foldl (fun out e=>(S.foldl (rwalkM e) (out,zP)).1) []↔_
 rw [a2,b2]
 constructor
 ·rintro (h | ⟨e,he,h⟩)
  ·cases h
  ·exact ⟨e,he,(AL_congr (fun s hs=>has_on (by have:=(hE e he).1.d;omega) (by have:=(hE e he).2.d;omega) (hS.nc s hs).d) x).2 h⟩
 ·rintro ⟨e,he,h⟩
  exact .inr ⟨e,he,(AL_congr (fun s hs=>has_on (by have:=(hE e he).1.d;omega) (by have:=(hE e he).2.d;omega) (hS.nc s hs).d) x).1 h⟩
theorem shear (L:List Pt):∃ K:Int,∀ u∈L,∀ v∈L,befB u v=decide (0<yv (shP K u) (shP K v)):=by
 obtain ⟨K,_,h⟩:=bounded (fun uv:Pt×Pt=>yv uv.1 uv.2) (L.flatMap (fun u=>L.map (fun v=>(u,v))))
 refine ⟨K,fun u hu v hv=>?_⟩
 have b:=h (u,v) (List.mem_flatMap.2 ⟨u,hu,List.mem_map.2 ⟨v,hv,rfl⟩⟩)
 rw [<-sh_up (K:=K) b.1 b.2]
 unfold upB;simp
theorem bef_h {K:Int}{u v:Pt}(h:befB u v=decide (0<yv (shP K u) (shP K v))):(befB u v=true↔0<yv (shP K u) (shP K v))/\(befB u v=false↔yv (shP K u) (shP K v)<=0):=by
 rw [h];simp
theorem yv_neg (u v:Pt):yv u v = -yv v u:=by unfold yv;grind
theorem line_lin (p q X a b:Pt)(h:detM p q X=0):yv p q*detM a b X=yv X q*detM a b p+yv p X*detM a b q:=by
 have:yv p q*detM a b X-(yv X q*detM a b p+yv p X*detM a b q)=detM p q X*yv a b:=by unfold yv detM;grind
 rw [h] at this;simp at this;omega
theorem line_sum (p q X:Pt):X.d*yv p q=q.d*yv p X+p.d*yv X q:=by unfold yv;grind
section
variable {p q a b v:Pt}(hp:0<p.d)(hq:0<q.d)(ha:0<a.d)(hb:0<b.d)(hv:0<v.d)
include hp hq ha hb hv
theorem with_between (h1:withB p a b=true)(h2:withB q a b=true)(b1:befB p v=true)(b2:befB v q=true):withB v a b=true:=by
 unfold withB loM hiM at *
 by_cases c:befB b a=true
 ·simp only [if_pos c,Bool.and_eq_true,Bool.not_eq_true'] at *
  refine ⟨?_,?_⟩
  ·cases k:befB v b
   ·rfl
   ·have:=bef_lt hv hb hp k (q:=p) b1;rw [h1.1] at this;cases this
  ·cases k:befB a v
   ·rfl
   ·have:=bef_lt hv hq ha b2 (q:=a) k;rw [h2.2] at this;cases this
 ·simp only [if_neg c,Bool.and_eq_true,Bool.not_eq_true'] at *
  refine ⟨?_,?_⟩
  ·cases k:befB v a
   ·rfl
   ·have:=bef_lt hv ha hp k (q:=p) b1;rw [h1.1] at this;cases this
  ·cases k:befB b v
   ·rfl
   ·have:=bef_lt hv hq hb b2 (q:=b) k;rw [h2.2] at this;cases this
end
theorem on_parts {s a b:Pt}(h:onB s a b=true):detM a b s=0/\withB s a b=true:=by
 unfold onB at h;simpa using h
theorem on_between {p q a b v:Pt}(hp:0<p.d)(hq:0<q.d)(ha:0<a.d)(hb:0<b.d)(hv:0<v.d)(hne:befB a b=true\/befB b a=true)
  (h1:onB p a b=true) (h2:onB q a b=true) (b1:befB p v=true) (b2:befB v q=true) (hl:detM p q v=0):onB v a b=true:=by
 obtain ⟨z1,w1⟩:=on_parts h1
 obtain ⟨z2,w2⟩:=on_parts h2
 obtain ⟨K,hK⟩:=shear [p,q,a,b,v]
 have hpq:befB p q=true:=bef_lt hv hq hp b2 b1
 have Y:=(bef_h (hK p (by simp) q (by simp))).1.1 hpq
 have hd:yv (shP K a) (shP K b)≠0:=by
  have e:=yv_neg (shP K a) (shP K b)
  rcases hne with h | h
  ·have:=(bef_h (hK a (by simp) b (by simp))).1.1 h;omega
  ·have:=(bef_h (hK b (by simp) a (by simp))).1.1 h;omega
 obtain ⟨A0,B0⟩:=col_of hp (by omega) hd z1 z2
 have pl:=plk2 (p:=shP K p) (q:=shP K q) (a:=shP K a) (b:=shP K b) (shP K v) (by rw [sh_det];exact A0) (by rw [sh_det];exact B0)
 rw [sh_det,sh_det,hl,Int.mul_zero] at pl
 have z:detM a b v=0:=by
  rcases Int.mul_eq_zero.1 pl with c | c
  ·omega
  ·exact c
 unfold onB
 rw [z,with_between hp hq ha hb hv w1 w2 b1 b2];rfl
theorem holds_det {a b X:Pt}(h:holdsB a b X=true):detM a b X=0:=((holds_iff a b X).1 h).1
theorem cross_spot {p q a b c d:Pt}(hp:0<p.d)(hq:0<q.d)(ha:Gr a)(hb:Gr b)(hc:Gr c)(hd:Gr d)(hab:a≠b)(hcd:c≠d)(hpq:befB p q=true)
  (h1:onB p a b=true) (h2:onB q a b=true) (hx:crossB p q c d=true) :
  ∃ X,inMt (meetM a b c d) X/\0<X.d/\befB p X=true/\befB X q=true/\detM p q X=0:=by
 have da:0<a.d:=by have:=ha.d;omega
 have db:0<b.d:=by have:=hb.d;omega
 obtain ⟨z1,w1⟩:=on_parts h1
 obtain ⟨z2,w2⟩:=on_parts h2
 have tri:∀ u v:Pt,u.d=1->v.d=1->u≠v->befB u v=true\/befB v u=true:=fun u v hu hv hne=>by
  rcases L_tri hu hv with t | t | t
  ·exact .inl ((bef_L hu hv).2 t)
  ·exact absurd t hne
  ·exact .inr ((bef_L hv hu).2 t)
 have nab:=tri a b ha.d hb.d hab
 unfold crossB apartB at hx
 simp only [Bool.and_eq_true,Bool.or_eq_true,decide_eq_true_eq] at hx
 obtain ⟨hx1,hx2⟩:=hx
 rcases meet_cases ha hb hc hd hab hcd with ⟨e,hs⟩ | ⟨X,e,_,xd,m1,m2,_⟩ | ⟨X,Y',e,gX,gY,m1,m2,m3,m4,bXY,_⟩
 · -- they are not apart
  exfalso
  obtain ⟨K,hK⟩:=shear [p,q,a,b]
  have Y:=(bef_h (hK p (by simp) q (by simp))).1.1 hpq
  have hdd:yv (shP K a) (shP K b)≠0:=by
   have e:=yv_neg (shP K a) (shP K b)
   rcases nab with h | h
   ·have:=(bef_h (hK a (by simp) b (by simp))).1.1 h;omega
   ·have:=(bef_h (hK b (by simp) a (by simp))).1.1 h;omega
  obtain ⟨A0,B0⟩:=col_of hp (by omega) hdd z1 z2
  have pc:=plk2 (p:=shP K p) (q:=shP K q) (a:=shP K a) (b:=shP K b) (shP K c) (by rw [sh_det];exact A0) (by rw [sh_det];exact B0)
  have pd:=plk2 (p:=shP K p) (q:=shP K q) (a:=shP K a) (b:=shP K b) (shP K d) (by rw [sh_det];exact A0) (by rw [sh_det];exact B0)
  rw [sh_det,sh_det] at pc pd
  have lp:=line_lin (shP K a) (shP K b) (shP K p) (shP K c) (shP K d) (by rw [sh_det];exact z1)
  have lq:=line_lin (shP K a) (shP K b) (shP K q) (shP K c) (shP K d) (by rw [sh_det];exact z2)
  simp only [sh_det] at lp lq
  have hts:(0<yv (shP K a) (shP K b)/\0<=yv (shP K a) (shP K p)/\0<=yv (shP K p) (shP K b)/\0<=yv (shP K a) (shP K q)/\0<=yv (shP K q) (shP K b))\/(yv (shP K a) (shP K b)<0/\yv (shP K a) (shP K p)<=0/\yv (shP K p) (shP K b)<=0/\yv (shP K a) (shP K q)<=0/\yv (shP K q) (shP K b)<=0):=by
   have e1:=yv_neg (shP K a) (shP K b)
   have e2:=yv_neg (shP K a) (shP K p)
   have e3:=yv_neg (shP K a) (shP K q)
   have e4:=yv_neg (shP K p) (shP K b)
   have e5:=yv_neg (shP K q) (shP K b)
   unfold withB loM hiM at w1 w2
   by_cases cc:befB b a=true
   ·simp only [if_pos cc,Bool.and_eq_true,Bool.not_eq_true'] at w1 w2
    have k0:=(bef_h (hK b (by simp) a (by simp))).1.1 cc
    have k1:=(bef_h (hK p (by simp) b (by simp))).2.1 w1.1
    have k2:=(bef_h (hK a (by simp) p (by simp))).2.1 w1.2
    have k3:=(bef_h (hK q (by simp) b (by simp))).2.1 w2.1
    have k4:=(bef_h (hK a (by simp) q (by simp))).2.1 w2.2
    exact .inr (by omega)
   ·have cc':befB a b=true:=nab.resolve_right cc
    simp only [if_neg cc,Bool.and_eq_true,Bool.not_eq_true'] at w1 w2
    have k0:=(bef_h (hK a (by simp) b (by simp))).1.1 cc'
    have k1:=(bef_h (hK p (by simp) a (by simp))).2.1 w1.1
    have k2:=(bef_h (hK b (by simp) p (by simp))).2.1 w1.2
    have k3:=(bef_h (hK q (by simp) a (by simp))).2.1 w2.1
    have k4:=(bef_h (hK b (by simp) q (by simp))).2.1 w2.2
    have f2:=yv_neg (shP K p) (shP K a)
    have f3:=yv_neg (shP K q) (shP K a)
    have f4:=yv_neg (shP K b) (shP K p)
    have f5:=yv_neg (shP K b) (shP K q)
    exact .inl (by omega)
  generalize yv (shP K a) (shP K b)=D at *
  generalize yv (shP K p) (shP K q)=Yv at *
  generalize yv (shP K a) (shP K p)=ap at *
  generalize yv (shP K p) (shP K b)=pb at *
  generalize yv (shP K a) (shP K q)=aq at *
  generalize yv (shP K q) (shP K b)=qb at *
  generalize detM c d a=u at *
  generalize detM c d b=w at *
  generalize detM c d p=al at *
  generalize detM c d q=be at *
  generalize detM a b c=C at *
  generalize detM a b d=D' at *
  generalize detM p q c=C0 at *
  generalize detM p q d=D0 at *
  have hne0:(C<0/\0<D')\/(0<C/\D'<0):=by
   have sg:∀ {x y:Int},Yv*x=D*y->y≠0->((0<D->(0<x↔0<y))/\(0<D->(x<0↔y<0))/\(D<0->(0<x↔y<0))/\(D<0->(x<0↔0<y))):=fun {x y} hxy hy=>by
    rcases Int.lt_trichotomy x 0 with cx | cx | cx
    ·have m1:=mul_pn Y cx
     refine ⟨fun hD=>?_,fun hD=>?_,fun hD=>?_,fun hD=>?_⟩
     all_goals rcases Int.lt_or_gt_of_ne hy with cy | cy
     ·omega
     ·have:=mul_pp hD cy;omega
     ·omega
     ·have:=mul_pp hD cy;omega
     ·have:=mul_nn hD cy;omega
     ·omega
     ·have:=mul_nn hD cy;omega
     ·omega
    ·subst cx
     rw [Int.mul_zero] at hxy
     rcases Int.mul_eq_zero.1 hxy.symm with k | k
     ·exact absurd k hdd
     ·exact absurd k hy
    ·have m1:=mul_pp Y cx
     refine ⟨fun hD=>?_,fun hD=>?_,fun hD=>?_,fun hD=>?_⟩
     all_goals rcases Int.lt_or_gt_of_ne hy with cy | cy
     ·have:=mul_pn hD cy;omega
     ·omega
     ·have:=mul_pn hD cy;omega
     ·omega
     ·omega
     ·have:=mul_np hD cy;omega
     ·omega
     ·have:=mul_np hD cy;omega
   have s1:=sg pc (by omega)
   have s2:=sg pd (by omega)
   rcases hts with ⟨hD,_⟩ | ⟨hD,_⟩
   ·have:=s1.1 hD;have:=s1.2.1 hD;have:=s2.1 hD;have:=s2.2.1 hD;omega
   ·have:=s1.2.2.1 hD;have:=s1.2.2.2 hD;have:=s2.2.2.1 hD;have:=s2.2.2.2 hD;omega
  have hns : ¬ ((u<0/\w<0)\/(0<u/\0<w)):=by
   intro hh
   rcases hts with ⟨hD,t1,t2,t3,t4⟩ | ⟨hD,t1,t2,t3,t4⟩
   ·rcases hh with ⟨c1,c2⟩ | ⟨c1,c2⟩
    ·have a1:=mul_gl t2 (Int.le_of_lt c1);have a2:=mul_gl t1 (Int.le_of_lt c2)
     have a3:=mul_gl t4 (Int.le_of_lt c1);have a4:=mul_gl t3 (Int.le_of_lt c2)
     rcases hx2 with ⟨x1,x2⟩ | ⟨x1,x2⟩
     ·have:=mul_pp hD x2;omega
     ·have:=mul_pp hD x1;omega
    ·have a1:=mul_gg t2 (Int.le_of_lt c1);have a2:=mul_gg t1 (Int.le_of_lt c2)
     have a3:=mul_gg t4 (Int.le_of_lt c1);have a4:=mul_gg t3 (Int.le_of_lt c2)
     rcases hx2 with ⟨x1,x2⟩ | ⟨x1,x2⟩
     ·have:=mul_pn hD x1;omega
     ·have:=mul_pn hD x2;omega
   ·rcases hh with ⟨c1,c2⟩ | ⟨c1,c2⟩
    ·have a1:=mul_ll t2 (Int.le_of_lt c1);have a2:=mul_ll t1 (Int.le_of_lt c2)
     have a3:=mul_ll t4 (Int.le_of_lt c1);have a4:=mul_ll t3 (Int.le_of_lt c2)
     rcases hx2 with ⟨x1,x2⟩ | ⟨x1,x2⟩
     ·have:=mul_np hD x2;omega
     ·have:=mul_np hD x1;omega
    ·have a1:=mul_lg t2 (Int.le_of_lt c1);have a2:=mul_lg t1 (Int.le_of_lt c2)
     have a3:=mul_lg t4 (Int.le_of_lt c1);have a4:=mul_lg t3 (Int.le_of_lt c2)
     rcases hx2 with ⟨x1,x2⟩ | ⟨x1,x2⟩
     ·have:=mul_nn hD x1;omega
     ·have:=mul_nn hD x2;omega
  rw [sides_one,sides_one] at hs
  have s0:sidesM C D'≠0:=by unfold sidesM;rw [if_neg (by omega)];split <;> decide
  rcases hs with hs | hs | hs
  ·omega
  ·exact hns hs
  ·exact s0 hs.1
 · -- they touch
  refine ⟨X,.inl ⟨by rw [e];show (1:Int)≠0;decide,by rw [e]⟩,xd,?_⟩
  have y1:=holds_det m1
  have y2:=holds_det m2
  obtain ⟨K,hK⟩:=shear [p,q,a,b,X]
  have Y:=(bef_h (hK p (by simp) q (by simp))).1.1 hpq
  have hdd:yv (shP K a) (shP K b)≠0:=by
   have e:=yv_neg (shP K a) (shP K b)
   rcases nab with h | h
   ·have:=(bef_h (hK a (by simp) b (by simp))).1.1 h;omega
   ·have:=(bef_h (hK b (by simp) a (by simp))).1.1 h;omega
  have px:=plk2 (p:=shP K a) (q:=shP K b) (a:=shP K p) (b:=shP K q) (shP K X) (by rw [sh_det];exact z1) (by rw [sh_det];exact z2)
  rw [sh_det,sh_det,y1,Int.mul_zero] at px
  have hl:detM p q X=0:=by
   rcases Int.mul_eq_zero.1 px with k | k
   ·exact absurd k hdd
   ·exact k
  have ll:=line_lin (shP K p) (shP K q) (shP K X) (shP K c) (shP K d) (by rw [sh_det];exact hl)
  simp only [sh_det,y2,Int.mul_zero] at ll
  have ls:=line_sum (shP K p) (shP K q) (shP K X)
  have e1:(shP K p).d=p.d:=rfl
  have e2:(shP K q).d=q.d:=rfl
  have e3:(shP K X).d=X.d:=rfl
  rw [e1,e2,e3] at ls
  have lp:=mul_pp xd Y
  have k1:=bef_h (hK p (by simp) X (by simp))
  have k2:=bef_h (hK X (by simp) q (by simp))
  rw [k1.1,k2.1]
  generalize yv (shP K p) (shP K X)=s at *
  generalize yv (shP K X) (shP K q)=t at *
  generalize detM c d p=al at *
  generalize detM c d q=be at *
  have both:0<s/\0<t:=by
   rcases Int.lt_or_le 0 s with c1 | c1
   ·rcases Int.lt_or_le 0 t with c2 | c2
    ·exact ⟨c1,c2⟩
    ·exfalso
     rcases hx2 with ⟨x1,x2⟩ | ⟨x1,x2⟩
     ·have:=mul_ll c2 (Int.le_of_lt x1);have:=mul_pp c1 x2;omega
     ·have:=mul_lg c2 (Int.le_of_lt x1);have:=mul_pn c1 x2;omega
   ·exfalso
    have c2:0<t:=by
     rcases Int.lt_or_le 0 t with c2 | c2
     ·exact c2
     ·have:=mul_gl (Int.le_of_lt hq) c1;have:=mul_gl (Int.le_of_lt hp) c2;omega
    rcases hx2 with ⟨x1,x2⟩ | ⟨x1,x2⟩
    ·have:=mul_pn c2 x1;have:=mul_lg c1 (Int.le_of_lt x2);omega
    ·have:=mul_pp c2 x1;have:=mul_ll c1 (Int.le_of_lt x2);omega
  exact ⟨both.1,both.2,hl⟩
 · -- they do not lie along each other
  exfalso
  have y1:=holds_det m1
  have y2:=holds_det m2
  have y3:=holds_det m3
  have y4:=holds_det m4
  have ncd:=tri c d hc.d hd.d hcd
  have key:∀ u v:Pt,befB u v=true↔(0<xv u v\/(xv u v=0/\0<yv u v)):=fun u v=>by rw [bef_iff];unfold xv yv;omega
  obtain ⟨K,hK⟩:=shear [p,q,a,b,X,Y',c,d]
  have Y:=(bef_h (hK p (by simp) q (by simp))).1.1 hpq
  have hdd:yv (shP K a) (shP K b)≠0:=by
   have e:=yv_neg (shP K a) (shP K b)
   rcases nab with h | h
   ·have:=(bef_h (hK a (by simp) b (by simp))).1.1 h;omega
   ·have:=(bef_h (hK b (by simp) a (by simp))).1.1 h;omega
  have XY:=(bef_h (hK X (by simp) Y' (by simp))).1.1 bXY
  have q1:=plk2 (p:=shP K c) (q:=shP K d) (a:=shP K X) (b:=shP K Y') (shP K c) (by rw [sh_det];exact y2) (by rw [sh_det];exact y4)
  rw [sh_det,sh_det] at q1
  have z0:detM c d c=0:=by unfold detM;grind
  have hcd0:yv (shP K c) (shP K d)≠0:=by
   have e:=yv_neg (shP K c) (shP K d)
   rcases ncd with h | h
   ·have:=(bef_h (hK c (by simp) d (by simp))).1.1 h;omega
   ·have:=(bef_h (hK d (by simp) c (by simp))).1.1 h;omega
  rw [z0,Int.mul_zero] at q1
  have c0:detM X Y' c=0:=by
   rcases Int.mul_eq_zero.1 q1 with k | k
   ·exact absurd k hcd0
   ·exact k
  have q2:=plk2 (p:=shP K a) (q:=shP K b) (a:=shP K X) (b:=shP K Y') (shP K c) (by rw [sh_det];exact y1) (by rw [sh_det];exact y3)
  rw [sh_det,sh_det,c0,Int.mul_zero] at q2
  have c1:detM a b c=0:=by
   rcases Int.mul_eq_zero.1 q2.symm with k | k
   ·omega
   ·exact k
  have q3:=plk2 (p:=shP K a) (q:=shP K b) (a:=shP K p) (b:=shP K q) (shP K c) (by rw [sh_det];exact z1) (by rw [sh_det];exact z2)
  rw [sh_det,sh_det,c1,Int.mul_zero] at q3
  rcases Int.mul_eq_zero.1 q3 with k | k
  ·exact hdd k
  ·omega
end Go.Proofs.YtnkcbephceollabGreat
