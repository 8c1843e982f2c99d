import Derived.Test.YtnkcbephceollabGreatQ20
namespace Go.Proofs.YtnkcbephceollabGreat
set_option linter.unusedVariables false
set_option linter.unusedSimpArgs false
def Srt (l:List Pt):Prop:=l.Pairwise (fun a b=>befB a b=true)
structure SN (l:List Pt):Prop where
 srt:Srt l
 nc:∀ x∈l,Nice x
theorem SN.nil:SN []:=⟨List.Pairwise.nil,fun x hx=>by cases hx⟩
def idxL (l:List Pt)(p:Pt):Nat->Nat
 | 0=>0
 | i+1=>if cmpM p (l.getD i zP)<0 then idxL l p i else i+1
def insM (l:List Pt)(p:Pt):List Pt:=
 if 0<idxL l p l.length/\cmpM p (l.getD (idxL l p l.length-1) zP)=0 then l
 else l.take (idxL l p l.length) ++ p::l.drop (idxL l p l.length)
def rinsGo (p:Pt):List Pt->Bool->List Pt
 | [],done=>if done=true then [] else [p]
 | x::l,done=>(if (!done && (placeB x p || befB p x))=true then [p] else []) ++ ((if placeB x p=true then [] else [x]) ++ rinsGo p l (done || (placeB x p || befB p x)))
def rinsM (l:List Pt)(p:Pt):List Pt:=rinsGo p l false
theorem idxL_le (l:List Pt)(p:Pt):∀ n,idxL l p n<=n
 | 0=>Nat.le_refl _
 | n+1=>by
  unfold idxL;split
  ·exact Nat.le_succ_of_le (idxL_le l p n)
  ·exact Nat.le_refl _
theorem idxL_hi (l:List Pt)(p:Pt):∀ n j,idxL l p n<=j->j<n->cmpM p (l.getD j zP)<0
 | 0,j,_,h=>by omega
 | n+1,j,h1,h2=>by
  unfold idxL at h1
  split at h1
  ·rename_i hc
   by_cases e:j=n
   ·subst e;exact hc
   ·exact idxL_hi l p n j h1 (by omega)
  ·omega
theorem idxL_lo (l:List Pt)(p:Pt):∀ n,0<idxL l p n->¬ cmpM p (l.getD (idxL l p n-1) zP)<0
 | 0,h=>by simp [idxL] at h
 | n+1,h=>by
  unfold idxL at h ⊢
  split
  ·rename_i hc
   rw [if_pos hc] at h
   exact idxL_lo l p n h
  ·rename_i hc;simpa using hc
theorem srt_getD {l:List Pt}(h:Srt l){i j:Nat}(hij:i<j)(hj:j<l.length):befB (l.getD i zP) (l.getD j zP)=true:=by
 have:=List.pairwise_iff_getElem.1 h i j (by omega) hj hij
 rw [List.getD_eq_getElem?_getD,List.getD_eq_getElem?_getD,List.getElem?_eq_getElem hj,List.getElem?_eq_getElem (by omega)]
 exact this
theorem mem_take_getD {l:List Pt}{i:Nat}{x:Pt}(h:x∈l.take i):∃ j,j<i/\j<l.length/\l.getD j zP=x:=by
 obtain ⟨j,hj,e⟩:=List.mem_iff_getElem.1 h
 have hj':j<i/\j<l.length:=by simpa [Nat.lt_min] using hj
 refine ⟨j,hj'.1,hj'.2,?_⟩
 rw [List.getD_eq_getElem?_getD,List.getElem?_eq_getElem hj'.2]
 simpa using e
theorem mem_drop_getD {l:List Pt}{i:Nat}{x:Pt}(h:x∈l.drop i):∃ j,i<=j/\j<l.length/\l.getD j zP=x:=by
 obtain ⟨j,hj,e⟩:=List.mem_iff_getElem.1 h
 have hj':i+j<l.length:=by simp at hj;omega
 refine ⟨i+j,by omega,hj',?_⟩
 rw [List.getD_eq_getElem?_getD,List.getElem?_eq_getElem hj']
 simpa using e
theorem ins_spec {l:List Pt}{p:Pt}(h:SN l)(hp:Nice p):SN (insM l p)/\∀ x,x∈insM l p↔x=p\/x∈l:=by
 have hle:=idxL_le l p l.length
 have hhi:=idxL_hi l p l.length
 have hlo:=idxL_lo l p l.length
 unfold insM
 generalize idxL l p l.length=i at *
 by_cases c:0<i/\cmpM p (l.getD (i-1) zP)=0
 ·rw [if_pos c]
  refine ⟨h,fun x=>⟨.inr,fun hx=>?_⟩⟩
  rcases hx with rfl | hx
  ·have hm:=getD_mem (l:=l) (i:=i-1) (by omega) zP
   have b1:befB x (l.getD (i-1) zP)=false:=by rw [<-cmpB,c.2];rfl
   have b2:befB (l.getD (i-1) zP) x=false:=by rw [<-cmpB',c.2];rfl
   rw [canon_eq hp.2 (h.nc _ hm).2 b1 b2];exact hm
  ·exact hx
 ·rw [if_neg c]
  have hd:∀ x∈l.drop i,befB p x=true:=fun x hx=>by
   obtain ⟨j,j1,j2,rfl⟩:=mem_drop_getD hx
   rw [<-cmpB];exact decide_eq_true (hhi j j1 j2)
  have ht:∀ x∈l.take i,befB x p=true:=fun x hx=>by
   obtain ⟨j,j1,j2,rfl⟩:=mem_take_getD hx
   have i0:0<i:=by omega
   have hl:=hlo i0
   have hc:cmpM p (l.getD (i-1) zP)≠0:=fun e=>c ⟨i0,e⟩
   have last:befB (l.getD (i-1) zP) p=true:=by rw [<-cmpB'];exact decide_eq_true (by omega)
   by_cases e:j=i-1
   ·subst e;exact last
   ·have b:=srt_getD h.srt (show j<i-1 by omega) (by omega)
    exact bef_le (h.nc _ (getD_mem j2 zP)).d (h.nc _ (getD_mem (show i-1<l.length by omega) zP)).d hp.d b (bef_asym last)
  have hs:Srt (l.take i ++ l.drop i):=by rw [List.take_append_drop];exact h.srt
  have hs':=List.pairwise_append.1 hs
  refine ⟨⟨?_,fun x hx=>?_⟩,fun x=>?_⟩
  ·refine List.pairwise_append.2 ⟨hs'.1,List.pairwise_cons.2 ⟨hd,hs'.2.1⟩,fun x hx y hy=>?_⟩
   rcases List.mem_cons.1 hy with rfl | hy
   ·exact ht x hx
   ·exact hs'.2.2 x hx y hy
  ·rcases List.mem_append.1 hx with hx | hx
   ·exact h.nc x (List.mem_of_mem_take hx)
   ·rcases List.mem_cons.1 hx with rfl | hx
    ·exact hp
    ·exact h.nc x (List.mem_of_mem_drop hx)
  ·have em:x∈l↔x∈l.take i\/x∈l.drop i:=by rw [<-List.mem_append,List.take_append_drop]
   rw [em,List.mem_append,List.mem_cons]
   constructor
   ·rintro (h | h | h)
    ·exact .inr (.inl h)
    ·exact .inl h
    ·exact .inr (.inr h)
   ·rintro (h | h | h)
    ·exact .inr (.inl h)
    ·exact .inl h
    ·exact .inr (.inr h)
theorem rins_done {p:Pt}:∀ {l:List Pt},(∀ x∈l,befB p x=true)->rinsGo p l true=l
 | [],_=>rfl
 | x::l,h=>by
  have hx:=h x (List.mem_cons_self ..)
  have hp:placeB x p=false:=by unfold placeB;rw [hx];simp
  unfold rinsGo
  rw [hp,show (true || (false || befB p x))=true from rfl,rins_done (fun y hy=>h y (List.mem_cons_of_mem _ hy))]
  simp
theorem rins_spec {p:Pt}(hp:Nice p):∀ {l:List Pt},SN l->SN (rinsM l p)/\∀ x,x∈rinsM l p↔x=p\/x∈l
 | [],h=>by
  have e:rinsM [] p=[p]:=rfl
  rw [e]
  exact ⟨⟨List.pairwise_singleton _ _,fun x hx=>by rw [List.mem_singleton.1 hx];exact hp⟩,fun x=>by simp⟩
 | y::l,h=>by
  have hs:=List.pairwise_cons.1 h.srt
  have hl:SN l:=⟨hs.2,fun x hx=>h.nc x (List.mem_cons_of_mem _ hx)⟩
  have hy:=h.nc y (List.mem_cons_self ..)
  have e:rinsM (y::l) p=(if (!false && (placeB y p || befB p y))=true then [p] else []) ++ ((if placeB y p=true then [] else [y]) ++ rinsGo p l (false || (placeB y p || befB p y))):=rfl
  rw [e]
  cases b1:befB y p
  ·cases b2:befB p y
   · -- one place
    have eq:=canon_eq hp.2 hy.2 b2 b1
    subst eq
    have hpl:placeB p p=true:=by unfold placeB;rw [bef_irr];rfl
    rw [hpl]
    have e2:rinsGo p l (false || (true || false))=l:=rins_done hs.1
    rw [e2]
    simp only [Bool.not_false,Bool.true_and,Bool.true_or,if_true,List.nil_append,List.cons_append]
    exact ⟨h,fun x=>by simp⟩
   ·have hpl:placeB y p=false:=by unfold placeB;rw [b1,b2];rfl
    rw [hpl]
    have hall:∀ x∈l,befB p x=true:=fun x hx=>bef_lt hy.d (hl.nc x hx).d hp.d (hs.1 x hx) b2
    have e2:rinsGo p l (false || (false || true))=l:=rins_done hall
    rw [e2]
    simp only [Bool.not_false,Bool.true_and,Bool.or_true,if_true,Bool.false_eq_true,if_false,List.cons_append,List.nil_append]
    refine ⟨⟨List.pairwise_cons.2 ⟨fun x hx=>?_,h.srt⟩,fun x hx=>?_⟩,fun x=>by simp⟩
    ·rcases List.mem_cons.1 hx with rfl | hx
     ·exact b2
     ·exact hall x hx
    ·rcases List.mem_cons.1 hx with rfl | hx
     ·exact hp
     ·exact h.nc x hx
  ·have b2:=bef_asym b1
   have hpl:placeB y p=false:=by unfold placeB;rw [b1];simp
   rw [hpl,b2]
   obtain ⟨ih1,ih2⟩:=rins_spec hp hl
   simp only [Bool.not_false,Bool.true_and,Bool.or_false,Bool.false_eq_true,if_false,List.nil_append,List.cons_append]
   have e3:rinsGo p l false=rinsM l p:=rfl
   rw [e3]
   refine ⟨⟨List.pairwise_cons.2 ⟨fun x hx=>?_,ih1.srt⟩,fun x hx=>?_⟩,fun x=>?_⟩
   ·rcases (ih2 x).1 hx with rfl | hx
    ·exact b1
    ·exact hs.1 x hx
   ·rcases List.mem_cons.1 hx with rfl | hx
    ·exact hy
    ·exact ih1.nc x hx
   ·rw [List.mem_cons,ih2,List.mem_cons]
    constructor
    ·rintro (h | h | h)
     ·exact .inr (.inl h)
     ·exact .inl h
     ·exact .inr (.inr h)
    ·rintro (h | h | h)
     ·exact .inr (.inl h)
     ·exact .inl h
     ·exact .inr (.inr h)
theorem srt_unique {α:Type}{R:α->α->Prop}(irr:∀ x,¬ R x x)(asy:∀ x y,R x y->¬ R y x):∀ {l1 l2:List α},l1.Pairwise R->l2.Pairwise R->(∀ x,x∈l1↔x∈l2)->l1=l2
 | [],[],_,_,_=>rfl
 | [],y::l2,_,_,h=>by have:=(h y).2 (List.mem_cons_self ..);cases this
 | x::l1,[],_,_,h=>by have:=(h x).1 (List.mem_cons_self ..);cases this
 | x::l1,y::l2,h1,h2,h=>by
  have p1:=List.pairwise_cons.1 h1
  have p2:=List.pairwise_cons.1 h2
  have e:x=y:=by
   rcases List.mem_cons.1 ((h x).1 (List.mem_cons_self ..)) with e | hx
   ·exact e
   ·rcases List.mem_cons.1 ((h y).2 (List.mem_cons_self ..)) with e | hy
    ·exact e.symm
    ·exact absurd (p2.1 x hx) (asy _ _ (p1.1 y hy))
  subst e
  congr 1
  refine srt_unique irr asy p1.2 p2.2 fun z=>?_
  constructor
  ·intro hz
   rcases List.mem_cons.1 ((h z).1 (List.mem_cons_of_mem _ hz)) with e | hz'
   ·subst e;exact absurd (p1.1 z hz) (irr z)
   ·exact hz'
  ·intro hz
   rcases List.mem_cons.1 ((h z).2 (List.mem_cons_of_mem _ hz)) with e | hz'
   ·subst e;exact absurd (p2.1 z hz) (irr z)
   ·exact hz'
theorem SN.eq {l1 l2:List Pt}(h1:SN l1)(h2:SN l2)(h:∀ x,x∈l1↔x∈l2):l1=l2:=
 srt_unique (fun x=>by rw [bef_irr];decide) (fun x y hxy=>by rw [bef_asym hxy];decide) h1.srt h2.srt h
def inMt (m:Mt)(x:Pt):Prop:=(m.k≠0/\x=m.p)\/(m.k=2/\x=m.q)
def NiceM (m:Mt):Prop:=m.k=0\/(m.k=1/\Nice m.p)\/(m.k=2/\Nice m.p/\Nice m.q)
def stepM (s:List Pt)(m:Mt):List Pt:=if m.k=2 then insM (if m.k≠0 then insM s m.p else s) m.q else (if m.k≠0 then insM s m.p else s)
def rstepM (s:List Pt)(m:Mt):List Pt:=if m.k=2 then rinsM (if m.k≠0 then rinsM s m.p else s) m.q else (if m.k≠0 then rinsM s m.p else s)
theorem step_spec {s:List Pt}{m:Mt}(h:SN s)(hm:NiceM m):SN (stepM s m)/\∀ x,x∈stepM s m↔x∈s\/inMt m x:=by
 unfold stepM inMt
 rcases hm with k | ⟨k,hp⟩ | ⟨k,hp,hq⟩
 ·rw [if_neg (by omega),if_neg (by omega)]
  exact ⟨h,fun x=>by simp [k]⟩
 ·rw [if_neg (by omega),if_pos (by omega)]
  obtain ⟨h1,h2⟩:=ins_spec h hp
  exact ⟨h1,fun x=>by rw [h2];simp [k,or_comm]⟩
 ·rw [if_pos k,if_pos (by omega)]
  obtain ⟨h1,h2⟩:=ins_spec h hp
  obtain ⟨h3,h4⟩:=ins_spec h1 hq
  refine ⟨h3,fun x=>?_⟩
  rw [h4,h2]
  simp only [k,ne_eq,show ¬ (2:Int)=0 by decide,not_false_iff,true_and]
  constructor
  ·rintro (e | e | e)
   ·exact .inr (.inr e)
   ·exact .inr (.inl e)
   ·exact .inl e
  ·rintro (e | e | e)
   ·exact .inr (.inr e)
   ·exact .inr (.inl e)
   ·exact .inl e
theorem rstep_spec {s:List Pt}{m:Mt}(h:SN s)(hm:NiceM m):SN (rstepM s m)/\∀ x,x∈rstepM s m↔x∈s\/inMt m x:=by
 unfold rstepM inMt
 rcases hm with k | ⟨k,hp⟩ | ⟨k,hp,hq⟩
 ·rw [if_neg (by omega),if_neg (by omega)]
  exact ⟨h,fun x=>by simp [k]⟩
 ·rw [if_neg (by omega),if_pos (by omega)]
  obtain ⟨h1,h2⟩:=rins_spec hp h
  exact ⟨h1,fun x=>by rw [h2];simp [k,or_comm]⟩
 ·rw [if_pos k,if_pos (by omega)]
  obtain ⟨h1,h2⟩:=rins_spec hp h
  obtain ⟨h3,h4⟩:=rins_spec hq h1
  refine ⟨h3,fun x=>?_⟩
  rw [h4,h2]
  simp only [k,ne_eq,show ¬ (2:Int)=0 by decide,not_false_iff,true_and]
  constructor
  ·rintro (e | e | e)
   ·exact .inr (.inr e)
   ·exact .inr (.inl e)
   ·exact .inl e
  ·rintro (e | e | e)
   ·exact .inr (.inr e)
   ·exact .inr (.inl e)
   ·exact .inl e
theorem fold_spec {α:Type}(f:List Pt->α->List Pt)(A:α->Pt->Prop):∀ (L:List α) (s:List Pt),(∀ i∈L,∀ s,SN s->SN (f s i)/\∀ x,x∈f s i↔x∈s\/A i x)->SN s->SN (L.foldl f s)/\∀ x,x∈L.foldl f s↔x∈s\/∃ i∈L,A i x
 | [],s,_,h=>⟨h,fun x=>by simp⟩
 | i::L,s,hf,h=>by
  obtain ⟨h1,h2⟩:=hf i (List.mem_cons_self ..) s h
  obtain ⟨h3,h4⟩:=fold_spec f A L (f s i) (fun j hj=>hf j (List.mem_cons_of_mem _ hj)) h1
  refine ⟨h3,fun x=>?_⟩
  rw [List.foldl_cons,h4,h2]
  constructor
  ·rintro ((e | e) | ⟨j,hj,e⟩)
   ·exact .inl e
   ·exact .inr ⟨i,List.mem_cons_self ..,e⟩
   ·exact .inr ⟨j,List.mem_cons_of_mem _ hj,e⟩
  ·rintro (e | ⟨j,hj,e⟩)
   ·exact .inl (.inl e)
   ·rcases List.mem_cons.1 hj with rfl | hj
    ·exact .inl (.inr e)
    ·exact .inr ⟨j,hj,e⟩
def spotsM (E:List (Pt×Pt)):List Pt:=E.foldl (fun s e=>E.foldl (fun s f=>stepM s (meetM e.1 e.2 f.1 f.2)) s) []
def rspotsM (E:List (Pt×Pt)):List Pt:=(List.range E.length).foldl (fun s i=>(E.take i).foldl (fun s f=>rstepM s (meetM (E.getD i (zP,zP)).1 (E.getD i (zP,zP)).2 f.1 f.2)) (rinsM s (E.getD i (zP,zP)).1)) []
structure Good (E:List (Pt×Pt)):Prop where
 gr:∀ e∈E,Gr e.1/\Gr e.2
 ne:∀ e∈E,e.1≠e.2
 sec:∀ e∈E,∃ e'∈E,e'.1=e.2
theorem Good.mt {E:List (Pt×Pt)}(h:Good E){e f:Pt×Pt}(he:e∈E)(hf:f∈E):NiceM (meetM e.1 e.2 f.1 f.2):=
 meet_nice (h.gr e he).1 (h.gr e he).2 (h.gr f hf).1 (h.gr f hf).2
theorem spots_spec {E:List (Pt×Pt)}(h:Good E):SN (spotsM E)/\∀ x,x∈spotsM E↔∃ e∈E,∃ f∈E,inMt (meetM e.1 e.2 f.1 f.2) x:=by
 obtain ⟨h1,h2⟩:=fold_spec (fun s e=>E.foldl (fun s f=>stepM s (meetM e.1 e.2 f.1 f.2)) s) (fun e x=>∃ f∈E,inMt (meetM e.1 e.2 f.1 f.2) x) E [] (fun e he s hs=>fold_spec (fun s (f:Pt×Pt)=>stepM s (meetM e.1 e.2 f.1 f.2)) (fun f x=>inMt (meetM e.1 e.2 f.1 f.2) x) E s (fun f hf s hs=>step_spec hs (h.mt he hf)) hs) SN.nil
 exact ⟨h1,fun x=>by have:=h2 x;simpa [spotsM] using this⟩
theorem rspots_spec {E:List (Pt×Pt)}(h:Good E):SN (rspotsM E)/\∀ x,x∈rspotsM E↔∃ i,i<E.length/\(x=(E.getD i (zP,zP)).1\/∃ f∈E.take i,inMt (meetM (E.getD i (zP,zP)).1 (E.getD i (zP,zP)).2 f.1 f.2) x):=by
 obtain ⟨h1,h2⟩:=fold_spec (fun s i=>(E.take i).foldl (fun s f=>rstepM s (meetM (E.getD i (zP,zP)).1 (E.getD i (zP,zP)).2 f.1 f.2)) (rinsM s (E.getD i (zP,zP)).1)) (fun i x=>x=(E.getD i (zP,zP)).1\/∃ f∈E.take i,inMt (meetM (E.getD i (zP,zP)).1 (E.getD i (zP,zP)).2 f.1 f.2) x) (List.range E.length) [] (fun i hi s hs=>by
  have hi':i<E.length:=by simpa using hi
  have he:=getD_mem hi' (zP,zP)
  obtain ⟨a1,a2⟩:=rins_spec (nice_gr (h.gr _ he).1) hs
  obtain ⟨b1,b2⟩:=fold_spec (fun s (f:Pt×Pt)=>rstepM s (meetM (E.getD i (zP,zP)).1 (E.getD i (zP,zP)).2 f.1 f.2)) (fun f x=>inMt (meetM (E.getD i (zP,zP)).1 (E.getD i (zP,zP)).2 f.1 f.2) x) (E.take i) _ (fun f hf s hs=>rstep_spec hs (h.mt he (List.mem_of_mem_take hf))) a1
  refine ⟨b1,fun x=>?_⟩
  rw [b2,a2]
  constructor
  ·rintro ((e | e) | e)
   ·exact .inr (.inl e)
   ·exact .inl e
   ·exact .inr (.inr e)
  ·rintro (e | e | e)
   ·exact .inl (.inr e)
   ·exact .inl (.inl e)
   ·exact .inr e) SN.nil
 exact ⟨h1,fun x=>by have:=h2 x;simpa [rspotsM] using this⟩
theorem meet_comm {a b c d:Pt}(ha:a.d=1)(hb:b.d=1)(hc:c.d=1)(hd:d.d=1)(hab:a≠b)(hcd:c≠d):meetM c d a b=meetM a b c d:=
 (meet_sym2 hd hc ha hb).trans (meet_sym1 ha hb hc hd hab hcd)
theorem meet_same {a b:Pt}(ha:a.d=1)(hb:b.d=1)(hab:a≠b):meetM a b a b=⟨2,firstM a b,lastM a b⟩:=
 ((
  meet_sym2 ha hb ha hb).symm.trans (meet_comm ha hb hb ha hab (Ne.symm hab))).trans (meet_self ha hb hab)
theorem spots_eq {E:List (Pt×Pt)}(h:Good E):rspotsM E=spotsM E:=by
 obtain ⟨s1,m1⟩:=spots_spec h
 obtain ⟨s2,m2⟩:=rspots_spec h
 refine s2.eq s1 fun x=>?_
 rw [m1,m2]
 have ends:∀ e∈E,∀ y,y=e.1\/y=e.2->inMt (meetM e.1 e.2 e.1 e.2) y:=fun e he y hy=>by
  rw [meet_same (h.gr e he).1.d (h.gr e he).2.d (h.ne e he)]
  unfold inMt
  simp only [ne_eq,show ¬ (2:Int)=0 by decide,not_false_iff,true_and]
  rw [first_eq,last_eq]
  have tri:=L_tri (h.gr e he).1.d (h.gr e he).2.d
  rcases tri with t | t | t
  ·have b1:=(bef_L (h.gr e he).1.d (h.gr e he).2.d).2 t
   have b2:=bef_asym b1
   rw [b1,b2];simpa using hy
  ·exact absurd t (h.ne e he)
  ·have b1:=(bef_L (h.gr e he).2.d (h.gr e he).1.d).2 t
   have b2:=bef_asym b1
   rw [b1,b2];simpa [or_comm] using hy
 constructor
 ·rintro ⟨i,hi,e | ⟨f,hf,e⟩⟩
  ·have he:=getD_mem hi (zP,zP)
   exact ⟨_,he,_,he,ends _ he x (.inl e)⟩
  ·exact ⟨_,getD_mem hi (zP,zP),f,List.mem_of_mem_take hf,e⟩
 ·rintro ⟨e,he,f,hf,k⟩
  obtain ⟨i,hi,ei⟩:=List.mem_iff_getElem.1 he
  obtain ⟨j,hj,ej⟩:=List.mem_iff_getElem.1 hf
  have gi:E.getD i (zP,zP)=e:=by rw [List.getD_eq_getElem?_getD,List.getElem?_eq_getElem hi];exact ei
  have gj:E.getD j (zP,zP)=f:=by rw [List.getD_eq_getElem?_getD,List.getElem?_eq_getElem hj];exact ej
  rcases Nat.lt_trichotomy i j with c | c | c
  ·refine ⟨j,hj,.inr ⟨e,?_,?_⟩⟩
   ·rw [List.mem_take_iff_getElem]
    exact ⟨i,by omega,ei⟩
   ·rw [gj,meet_comm (h.gr e he).1.d (h.gr e he).2.d (h.gr f hf).1.d (h.gr f hf).2.d (h.ne e he) (h.ne f hf)];exact k
  ·subst c
   have:e=f:=by rw [<-ei,<-ej]
   subst this
   rw [meet_same (h.gr e he).1.d (h.gr e he).2.d (h.ne e he)] at k
   have hx:x=e.1\/x=e.2:=by
    unfold inMt at k
    rcases k with ⟨_,k⟩ | ⟨_,k⟩
    ·rcases first_cases e.1 e.2 with c | c
     ·exact .inl (k.trans c)
     ·exact .inr (k.trans c)
    ·rcases last_cases e.1 e.2 with c | c
     ·exact .inl (k.trans c)
     ·exact .inr (k.trans c)
   rcases hx with hx | hx
   ·exact ⟨i,hi,.inl (by rw [gi];exact hx)⟩
   ·obtain ⟨e',he',e2⟩:=h.sec e he
    obtain ⟨n,hn,en⟩:=List.mem_iff_getElem.1 he'
    exact ⟨n,hn,.inl (by rw [List.getD_eq_getElem?_getD,List.getElem?_eq_getElem hn];show x=(E[n]).1;rw [en,e2];exact hx)⟩
  ·refine ⟨i,hi,.inr ⟨f,?_,?_⟩⟩
   ·rw [List.mem_take_iff_getElem]
    exact ⟨j,by omega,ej⟩
   ·rw [gi];exact k
end Go.Proofs.YtnkcbephceollabGreat
namespace Go.Proofs.YtnkcbephceollabGreat
set_option linter.unusedVariables false
set_option linter.unusedSimpArgs false
set_option linter.unusedSectionVars false
def AL (f:Pt->Bool):List Pt->Pt×Pt->Prop
 | [],_=>False
 | s::l,x=>(f s=true/\x.1=s/\l.find? f=some x.2)\/AL f l x
theorem AL_congr {f g:Pt->Bool}:∀ {l:List Pt},(∀ s∈l,f s=g s)->∀ x,AL f l x↔AL g l x
 | [],_,_=>Iff.rfl
 | s::l,h,x=>by
  have hl:∀ y∈l,f y=g y:=fun y hy=>h y (List.mem_cons_of_mem _ hy)
  have e:l.find? f=l.find? g:=by
   clear h
   induction l with
   | nil=>rfl
   | cons y l ih=>
    rw [List.find?_cons,List.find?_cons,hl y (List.mem_cons_self ..),ih (fun z hz=>hl z (List.mem_cons_of_mem _ hz))]
  unfold AL
  rw [h s (List.mem_cons_self ..),e,AL_congr hl]
theorem AL_mem {f:Pt->Bool}:∀ {l:List Pt} {x:Pt×Pt},AL f l x->x.1∈l/\x.2∈l/\f x.1=true/\f x.2=true
 | s::l,x,h=>by
  unfold AL at h
  rcases h with ⟨h1,h2,h3⟩ | h
  ·exact ⟨by rw [h2];exact List.mem_cons_self ..,List.mem_cons_of_mem _ (List.mem_of_find?_eq_some h3),by rw [h2];exact h1,List.find?_some h3⟩
  ·obtain ⟨a,b,c⟩:=AL_mem h
   exact ⟨List.mem_cons_of_mem _ a,List.mem_cons_of_mem _ b,c⟩
theorem AL_next {f:Pt->Bool}:∀ {l:List Pt} {x:Pt×Pt},Srt l->AL f l x->befB x.1 x.2=true/\∀ y∈l,befB x.1 y=true->befB y x.2=true->f y=false
 | s::l,x,hs,h=>by
  have p:=List.pairwise_cons.1 hs
  unfold AL at h
  rcases h with ⟨h1,h2,h3⟩ | h
  ·rw [h2]
   refine ⟨p.1 _ (List.mem_of_find?_eq_some h3),fun y hy b1 b2=>?_⟩
   rcases List.mem_cons.1 hy with rfl | hy
   ·rw [bef_irr] at b1;cases b1
   ·obtain ⟨_,l1,l2,e,hn⟩:=List.find?_eq_some_iff_append.1 h3
    rw [e] at hy p
    rcases List.mem_append.1 hy with hy | hy
    ·simpa using hn y hy
    ·rcases List.mem_cons.1 hy with rfl | hy
     ·rw [bef_irr] at b2;cases b2
     ·have:=(List.pairwise_append.1 p.2).2.1
      have:=(List.pairwise_cons.1 this).1 y hy
      rw [bef_asym this] at b2;cases b2
  ·obtain ⟨a,b⟩:=AL_next p.2 h
   refine ⟨a,fun y hy b1 b2=>?_⟩
   rcases List.mem_cons.1 hy with rfl | hy
   ·have:=p.1 _ (AL_mem h).1
    rw [bef_asym this] at b1;cases b1
   ·exact b y hy b1 b2
def neighM (p:Pt)(behind:List Pt)(E:List (Pt×Pt)):List Pt:=
 E.foldl (fun l e=>if hasM e.1 e.2 p=true then (match behind.find? (fun q=>hasM e.1 e.2 q) with | some q=>insM l q | none=>l) else l) []
def pairsL (E:List (Pt×Pt)):List Pt->List (Pt×Pt)
 | []=>[]
 | p::S=>(neighM p S E).map (fun q=>(p,q)) ++ pairsL E S
def PR (x y:Pt×Pt):Prop:=befB x.1 y.1=true\/(x.1=y.1/\befB x.2 y.2=true)
theorem PR_irr (x:Pt×Pt) : ¬ PR x x:=by unfold PR;rw [bef_irr,bef_irr];simp
theorem PR_asy (x y:Pt×Pt)(h:PR x y) : ¬ PR y x:=by
 unfold PR at *
 rcases h with h | ⟨h1,h2⟩
 ·rw [bef_asym h]
  rintro (k | ⟨k,_⟩)
  ·cases k
  ·rw [k,bef_irr] at h;cases h
 ·rw [h1,bef_irr,bef_asym h2]
  rintro (k | ⟨_,k⟩) <;> cases k
theorem neigh_spec (p:Pt)(behind:List Pt)(E:List (Pt×Pt))(hb:∀ x∈behind,Nice x):SN (neighM p behind E)/\∀ x,x∈neighM p behind E↔∃ e∈E,hasM e.1 e.2 p=true/\behind.find? (fun q=>hasM e.1 e.2 q)=some x:=by
 obtain ⟨h1,h2⟩:=fold_spec (fun l (e:Pt×Pt)=>if hasM e.1 e.2 p=true then (match behind.find? (fun q=>hasM e.1 e.2 q) with | some q=>insM l q | none=>l) else l) (fun e x=>hasM e.1 e.2 p=true/\behind.find? (fun q=>hasM e.1 e.2 q)=some x) E [] (fun e he s hs=>by
  by_cases c:hasM e.1 e.2 p=true
  ·simp only [if_pos c]
   cases hf:behind.find? (fun q=>hasM e.1 e.2 q) with
   | none=>exact ⟨hs,fun x=>by simp [c]⟩
   | some q=>
    obtain ⟨a1,a2⟩:=ins_spec hs (hb q (List.mem_of_find?_eq_some hf))
    refine ⟨a1,fun x=>?_⟩
    simp only
    rw [a2]
    simp only [c,true_and,Option.some.injEq]
    constructor
    ·rintro (h | h)
     ·exact .inr h.symm
     ·exact .inl h
    ·rintro (h | h)
     ·exact .inr h
     ·exact .inl h.symm
  ·simp only [if_neg c]
   exact ⟨hs,fun x=>by simp [c]⟩) SN.nil
 exact ⟨h1,fun x=>by have:=h2 x;simpa [neighM] using this⟩
theorem pairs_spec (E:List (Pt×Pt)):∀ {S:List Pt},SN S->(pairsL E S).Pairwise PR/\∀ x,x∈pairsL E S↔∃ e∈E,AL (fun s=>hasM e.1 e.2 s) S x
 | [],_=>⟨List.Pairwise.nil,fun x=>by simp [pairsL,AL]⟩
 | p::S,h=>by
  have hp:=List.pairwise_cons.1 h.srt
  have hS:SN S:=⟨hp.2,fun x hx=>h.nc x (List.mem_cons_of_mem _ hx)⟩
  obtain ⟨i1,i2⟩:=pairs_spec E hS
  obtain ⟨n1,n2⟩:=neigh_spec p S E hS.nc
  have e:pairsL E (p::S)=(neighM p S E).map (fun q=>(p,q)) ++ pairsL E S:=rfl
  rw [e]
  constructor
  ·refine List.pairwise_append.2 ⟨?_,i1,fun x hx y hy=>?_⟩
   ·rw [List.pairwise_map]
    exact n1.srt.imp fun {a b} hab=>.inr ⟨rfl,hab⟩
   ·obtain ⟨q,_,rfl⟩:=List.mem_map.1 hx
    obtain ⟨e,_,ha⟩:=(i2 y).1 hy
    exact .inl (hp.1 _ (AL_mem ha).1)
  ·intro x
   rw [List.mem_append,i2]
   constructor
   ·rintro (hx | ⟨e,he,ha⟩)
    ·obtain ⟨q,hq,rfl⟩:=List.mem_map.1 hx
     obtain ⟨e,he,h1,h2⟩:=(n2 q).1 hq
     exact ⟨e,he,.inl ⟨h1,rfl,h2⟩⟩
    ·exact ⟨e,he,.inr ha⟩
   ·rintro ⟨e,he,⟨h1,h2,h3⟩ | ha⟩
    ·refine .inl (List.mem_map.2 ⟨x.2,(n2 x.2).2 ⟨e,he,h1,h3⟩,?_⟩)
     rw [<-h2]
    ·exact .inr ⟨e,he,ha⟩
def aheadB (x y:Pt×Pt):Bool:=if eqP x.1 y.1=true then befB x.2 y.2 else befB x.1 y.1
def knownB (l:List (Pt×Pt))(x:Pt×Pt):Bool:=l.any (fun y=>eqP y.1 x.1 && eqP y.2 x.2)
def sortM (l:List (Pt×Pt))(x:Pt×Pt):List (Pt×Pt):=l.takeWhile (fun y=>aheadB y x) ++ x::l.dropWhile (fun y=>aheadB y x)
def rwalkM (e:Pt×Pt)(st:List (Pt×Pt)×Pt)(s:Pt):List (Pt×Pt)×Pt:=
 if onB s e.1 e.2=true then ((if st.2.d=0\/knownB st.1 (st.2,s)=true then st.1 else sortM st.1 (st.2,s)),s) else st
def rpairsM (E:List (Pt×Pt))(S:List Pt):List (Pt×Pt):=E.foldl (fun out e=>(S.foldl (rwalkM e) (out,zP)).1) []
theorem eqP_iff {p q:Pt}:eqP p q=true↔p=q:=⟨eqP_true,fun h=>by rw [h];simp [eqP]⟩
theorem ahead_PR (x y:Pt×Pt):aheadB x y=true->PR x y:=by
 unfold aheadB PR
 split
 ·rename_i h;intro k;exact .inr ⟨eqP_iff.1 h,k⟩
 ·intro k;exact .inl k
theorem PR_ahead (x y:Pt×Pt)(h:PR x y):aheadB x y=true:=by
 unfold aheadB
 rcases h with h | ⟨h1,h2⟩
 ·rw [if_neg]
  ·exact h
  ·intro k;rw [eqP_iff.1 k,bef_irr] at h;cases h
 ·rw [if_pos (eqP_iff.2 h1)];exact h2
def NP (x:Pt×Pt):Prop:=Nice x.1/\Nice x.2
theorem PR_tri {x y:Pt×Pt}(hx:NP x)(hy:NP y):PR x y\/x=y\/PR y x:=by
 unfold PR
 cases b1:befB x.1 y.1
 ·cases b2:befB y.1 x.1
  ·have e:=canon_eq hx.1.2 hy.1.2 b1 b2
   cases c1:befB x.2 y.2
   ·cases c2:befB y.2 x.2
    ·exact .inr (.inl (Prod.ext e (canon_eq hx.2.2 hy.2.2 c1 c2)))
    ·exact .inr (.inr (.inr ⟨e.symm,rfl⟩))
   ·exact .inl (.inr ⟨e,rfl⟩)
  ·exact .inr (.inr (.inl rfl))
 ·exact .inl (.inl rfl)
theorem PR_trans {x y z:Pt×Pt}(hx:NP x)(hy:NP y)(hz:NP z)(h1:PR x y)(h2:PR y z):PR x z:=by
 unfold PR at *
 rcases h1 with h1 | ⟨e1,h1⟩
 ·rcases h2 with h2 | ⟨e2,h2⟩
  ·exact .inl (bef_lt hy.1.d hz.1.d hx.1.d h2 h1)
  ·rw [<-e2];exact .inl h1
 ·rcases h2 with h2 | ⟨e2,h2⟩
  ·rw [e1];exact .inl h2
  ·exact .inr ⟨e1.trans e2,bef_lt hy.2.d hz.2.d hx.2.d h2 h1⟩
structure SP (l:List (Pt×Pt)):Prop where
 srt:l.Pairwise PR
 np:∀ x∈l,NP x
theorem sort_spec {l:List (Pt×Pt)}{x:Pt×Pt}(h:SP l)(hx:NP x)(hn:x ∉ l):SP (sortM l x)/\∀ y,y∈sortM l x↔y=x\/y∈l:=by
 have el:l.takeWhile (fun y=>aheadB y x) ++ l.dropWhile (fun y=>aheadB y x)=l:=List.takeWhile_append_dropWhile
 have hs:(l.takeWhile (fun y=>aheadB y x) ++ l.dropWhile (fun y=>aheadB y x)).Pairwise PR:=by rw [el];exact h.srt
 have hp:=List.pairwise_append.1 hs
 have ht:∀ y∈l.takeWhile (fun y=>aheadB y x),PR y x:=fun y hy=>ahead_PR _ _ (List.all_eq_true.1 (List.all_takeWhile (p:=fun y=>aheadB y x) (l:=l)) y hy)
 have hd:∀ y∈l.dropWhile (fun y=>aheadB y x),PR x y:=by
  intro y hy
  cases hdw:l.dropWhile (fun y=>aheadB y x) with
  | nil=>rw [hdw] at hy;cases hy
  | cons z r=>
   have hz : ¬ (aheadB z x=true):=by
    have:=List.head?_dropWhile_not (fun y=>aheadB y x) l
    rw [hdw] at this
    simpa using this
   have hzl:z∈l:=by rw [<-el,hdw];simp
   have hzx:PR x z:=by
    rcases PR_tri hx (h.np z hzl) with k | k | k
    ·exact k
    ·subst k;exact absurd hzl hn
    ·exact absurd (PR_ahead _ _ k) hz
   rw [hdw] at hy
   rcases List.mem_cons.1 hy with rfl | hy'
   ·exact hzx
   ·have:=hp.2.1
    rw [hdw] at this
    have hyl:y∈l:=by rw [<-el,hdw];simp [hy']
    exact PR_trans hx (h.np z hzl) (h.np y hyl) hzx ((List.pairwise_cons.1 this).1 y hy')
 unfold sortM
 refine ⟨⟨List.pairwise_append.2 ⟨hp.1,List.pairwise_cons.2 ⟨hd,hp.2.1⟩,fun y hy z hz=>?_⟩,fun y hy=>?_⟩,fun y=>?_⟩
 ·rcases List.mem_cons.1 hz with rfl | hz
  ·exact ht y hy
  ·exact hp.2.2 y hy z hz
 ·rcases List.mem_append.1 hy with hy | hy
  ·exact h.np y (by rw [<-el];exact List.mem_append.2 (.inl hy))
  ·rcases List.mem_cons.1 hy with rfl | hy
   ·exact hx
   ·exact h.np y (by rw [<-el];exact List.mem_append.2 (.inr hy))
 ·have em:y∈l↔y∈l.takeWhile (fun y=>aheadB y x)\/y∈l.dropWhile (fun y=>aheadB y x):=by rw [<-List.mem_append,el]
  rw [em,List.mem_append,List.mem_cons]
  constructor
  ·rintro (h | h | h)
   ·exact .inr (.inl h)
   ·exact .inl h
   ·exact .inr (.inr h)
  ·rintro (h | h | h)
   ·exact .inr (.inl h)
   ·exact .inl h
   ·exact .inr (.inr h)
theorem known_iff {l:List (Pt×Pt)}{x:Pt×Pt}:knownB l x=true↔x∈l:=by
 unfold knownB
 rw [List.any_eq_true]
 constructor
 ·rintro ⟨y,hy,h⟩
  rw [Bool.and_eq_true] at h
  have:y=x:=Prod.ext (eqP_iff.1 h.1) (eqP_iff.1 h.2)
  rw [<-this];exact hy
 ·intro h
  exact ⟨x,h,by rw [eqP_iff.2 rfl,eqP_iff.2 rfl];rfl⟩
theorem walk_spec (e:Pt×Pt):∀ (S:List Pt) (out:List (Pt×Pt)) (last:Pt),(∀ s∈S,Nice s)->SP out->(last.d=0\/Nice last)->
  SP (S.foldl (rwalkM e) (out,last)).1/\∀ x,x∈(S.foldl (rwalkM e) (out,last)).1↔x∈out\/(last.d≠0/\x.1=last/\S.find? (fun s=>onB s e.1 e.2)=some x.2)\/AL (fun s=>onB s e.1 e.2) S x
 | [],out,last,_,h,_=>⟨h,fun x=>by simp [AL]⟩
 | s::S,out,last,hS,h,hl=>by
  have hs:=hS s (List.mem_cons_self ..)
  have hS':∀ y∈S,Nice y:=fun y hy=>hS y (List.mem_cons_of_mem _ hy)
  rw [List.foldl_cons]
  unfold AL
  rw [List.find?_cons]
  have sd:=hs.d
  have sd0:s.d≠0:=by omega
  cases c:onB s e.1 e.2
  ·have er:rwalkM e (out,last) s=(out,last):=by unfold rwalkM;rw [c];rfl
   rw [er]
   obtain ⟨a1,a2⟩:=walk_spec e S out last hS' h hl
   refine ⟨a1,fun x=>?_⟩
   rw [a2];simp
  ·by_cases k:last.d=0\/knownB out (last,s)=true
   ·have er:rwalkM e (out,last) s=(out,s):=by unfold rwalkM;rw [c,if_pos rfl,if_pos k]
    rw [er]
    obtain ⟨a1,a2⟩:=walk_spec e S out s hS' h (.inr hs)
    refine ⟨a1,fun x=>?_⟩
    rw [a2]
    constructor
    ·rintro (h1 | ⟨_,h2,h3⟩ | h1)
     ·exact .inl h1
     ·exact .inr (.inr (.inl ⟨rfl,h2,h3⟩))
     ·exact .inr (.inr (.inr h1))
    ·rintro (h1 | ⟨h1,h2,h3⟩ | ⟨_,h2,h3⟩ | h1)
     ·exact .inl h1
     ·rcases k with k | k
      ·exact absurd k h1
      ·refine .inl ?_
       have hx:x=(last,s):=Prod.ext h2 (by simpa using h3.symm)
       rw [hx];exact known_iff.1 k
     ·exact .inr (.inl ⟨sd0,h2,h3⟩)
     ·exact .inr (.inr h1)
   ·have er:rwalkM e (out,last) s=(sortM out (last,s),s):=by unfold rwalkM;rw [c,if_pos rfl,if_neg k]
    rw [er]
    have k1:last.d≠0:=fun z=>k (.inl z)
    have k2:(last,s) ∉ out:=fun z=>k (.inr (known_iff.2 z))
    have hl':Nice last:=hl.resolve_left k1
    obtain ⟨b1,b2⟩:=sort_spec (x:=(last,s)) h ⟨hl',hs⟩ k2
    obtain ⟨a1,a2⟩:=walk_spec e S _ s hS' b1 (.inr hs)
    refine ⟨a1,fun x=>?_⟩
    rw [a2,b2]
    constructor
    ·rintro ((h1 | h1) | ⟨_,h2,h3⟩ | h1)
     ·subst h1;exact .inr (.inl ⟨k1,rfl,rfl⟩)
     ·exact .inl h1
     ·exact .inr (.inr (.inl ⟨rfl,h2,h3⟩))
     ·exact .inr (.inr (.inr h1))
    ·rintro (h1 | ⟨h1,h2,h3⟩ | ⟨_,h2,h3⟩ | h1)
     ·exact .inl (.inr h1)
     ·exact .inl (.inl (Prod.ext h2 (by simpa using h3.symm)))
     ·exact .inr (.inl ⟨sd0,h2,h3⟩)
     ·exact .inr (.inr h1)
theorem rpairs_spec {S:List Pt}(hS:∀ s∈S,Nice s):∀ (E:List (Pt×Pt)) (out:List (Pt×Pt)),SP out->SP (E.foldl (fun out e=>(S.foldl (rwalkM e) (out,zP)).1) out)/\∀ x,x∈E.foldl (fun out e=>(S.foldl (rwalkM e) (out,zP)).1) out↔x∈out\/∃ e∈E,AL (fun s=>onB s e.1 e.2) S x
 | [],out,h=>⟨h,fun x=>by simp⟩
 | e::E,out,h=>by
  obtain ⟨a1,a2⟩:=walk_spec e S out zP hS h (.inl rfl)
  obtain ⟨b1,b2⟩:=rpairs_spec hS E _ a1
  refine ⟨b1,fun x=>?_⟩
  rw [List.foldl_cons,b2,a2]
  have z : ¬ (zP.d≠0):=by simp [zP]
  constructor
  ·rintro ((h1 | ⟨h1,_⟩ | h1) | ⟨f,hf,h1⟩)
   ·exact .inl h1
   ·exact absurd h1 z
   ·exact .inr ⟨e,List.mem_cons_self ..,h1⟩
   ·exact .inr ⟨f,List.mem_cons_of_mem _ hf,h1⟩
  ·rintro (h1 | ⟨f,hf,h1⟩)
   ·exact .inl (.inl h1)
   ·rcases List.mem_cons.1 hf with rfl | hf
    ·exact .inl (.inr (.inr h1))
    ·exact .inr ⟨f,hf,h1⟩
theorem pairs_eq {E:List (Pt×Pt)}{S:List Pt}(hE:∀ e∈E,Gr e.1/\Gr e.2)(hS:SN S):rpairsM E S=pairsL E S:=by
 obtain ⟨a1,a2⟩:=rpairs_spec hS.nc E [] ⟨List.Pairwise.nil,fun x hx=>by cases hx⟩
 obtain ⟨b1,b2⟩:=pairs_spec E hS
 refine srt_unique PR_irr PR_asy a1.srt b1 fun x=>?_
 show x∈E.foldl (fun out e=>(S.foldl (rwalkM e) (out,zP)).1) []↔_
 rw [a2,b2]
 constructor
 ·rintro (h | ⟨e,he,h⟩)
  ·cases h
  ·exact ⟨e,he,(AL_congr (fun s hs=>has_on (by have:=(hE e he).1.d;omega) (by have:=(hE e he).2.d;omega) (hS.nc s hs).d) x).2 h⟩
 ·rintro ⟨e,he,h⟩
  exact .inr ⟨e,he,(AL_congr (fun s hs=>has_on (by have:=(hE e he).1.d;omega) (by have:=(hE e he).2.d;omega) (hS.nc s hs).d) x).1 h⟩
end Go.Proofs.YtnkcbephceollabGreat
