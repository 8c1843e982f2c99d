import Derived.Test.YtnkcbephceollabGreatU32
namespace Go.Proofs.YtnkcbephceollabGreat
set_option linter.unusedSimpArgs false
set_option linter.unusedVariables false
theorem same_place {a b v:Pt}(ha:0<a.d)(h1:befB a v=false)(h2:befB v a=false):detM a b v=0:=by
 have hx:xv a v=0/\yv a v=0:=by
  rw [bef_x] at h1
  rw [bef_x'] at h2
  omega
 have e:=det_xy a b v
 rw [hx.1,hx.2] at e
 simp only [Int.mul_zero,Int.sub_zero] at e
 rcases Int.mul_eq_zero.1 e with c | c
 ·omega
 ·exact c
theorem not_bef {a b v:Pt}(ha:0<a.d)(h:detM a b v≠0):befB a v = !befB v a:=by
 cases k:befB v a
 ·cases k2:befB a v
  ·exact absurd (same_place ha k2 k) h
  ·rfl
 ·rw [bef_asym k];rfl
theorem above_thru {v a b:Pt}(hv:0<v.d)(da:0<a.d)(db:0<b.d)(ne:befB a b=true\/befB b a=true):(aboveE v a b ^^ (thruE v a b ^^ aboveE (ro v) (ro a) (ro b)))=(befB v a ^^ befB v b):=by
 have rne:befB (ro a) (ro b)=true\/befB (ro b) (ro a)=true:=by rw [ro_bef,ro_bef];exact ne.symm
 have sp:=span_bef da db hv (p:=v) ne
 have sr:=span_bef (a:=ro a) (b:=ro b) (p:=ro v) da db hv rne
 rw [ro_bef,ro_bef] at sr
 have side:sideM (ro a) (ro b) (ro v) = -sideM a b v:=by
  unfold sideM
  rw [first_eq,last_eq,first_eq,last_eq,ro_bef,ro_bef]
  rcases ne with h | h
  ·rw [h,bef_asym h]
   simp only [if_true,Bool.false_eq_true,if_false]
   rw [ro_det,det_back]
  ·rw [h,bef_asym h]
   simp only [if_true,Bool.false_eq_true,if_false]
   rw [ro_det,det_back]
 unfold aboveE thruE
 rw [sp,sr,side]
 have zd:=side_zero da db hv v ne
 rcases Int.lt_trichotomy (sideM a b v) 0 with h | h | h
 ·have nd:detM a b v≠0:=fun c=>by have:=zd.2 c;omega
  have nd2:detM b a v≠0:=by rw [det_back];omega
  rw [not_bef da nd,not_bef db nd2]
  have h1 : ¬ sideM a b v=0:=by omega
  have h2 : ¬ 0<sideM a b v:=by omega
  cases befB v a <;> cases befB v b <;> simp [h,h1,h2] <;> omega
 ·cases befB v a <;> cases befB v b <;> simp [h]
 ·have nd:detM a b v≠0:=fun c=>by have:=zd.2 c;omega
  have nd2:detM b a v≠0:=by rw [det_back];omega
  rw [not_bef da nd,not_bef db nd2]
  have h1 : ¬ sideM a b v=0:=by omega
  have h2 : ¬ sideM a b v<0:=by omega
  cases befB v a <;> cases befB v b <;> simp [h,h1,h2] <;> omega
theorem join {P:List (List Pt)}{v:Pt}(hS:Sd P)(hv:0<v.d):(parB (aboveE v) (edgesM P) ^^ parB (thruE v) (edgesM P))=parB (aboveE (ro v)) (edgesM (roL P)):=by
 have ev:=poly_even (fun u=>befB v u) P
 have k:parB (fun a b=>aboveE v a b ^^ (thruE v a b ^^ aboveE (ro v) (ro a) (ro b))) (edgesM P)=false:=by
  rw [<-ev]
  exact parB_congr fun e he=>by
   obtain ⟨m1,m2⟩:=edge_ends he
   exact above_thru hv (hS.pd _ m1) (hS.pd _ m2) (hS.ne e he)
 rw [parB_xor (fun a b=>aboveE v a b) (fun a b=>thruE v a b ^^ aboveE (ro v) (ro a) (ro b)),parB_xor] at k
 rw [ro_edges,parB_map]
 have e1:parB (fun a b=>aboveE v a b) (edgesM P)=parB (aboveE v) (edgesM P):=rfl
 have e2:parB (fun a b=>thruE v a b) (edgesM P)=parB (thruE v) (edgesM P):=rfl
 rw [e1,e2] at k
 revert k
 cases parB (aboveE v) (edgesM P) <;> cases parB (thruE v) (edgesM P) <;> cases parB (fun a b=>aboveE (ro v) (ro a) (ro b)) (edgesM P) <;> simp
def Ch (f g:Pt->Bool):Bool->List Pt->Bool->Prop
 | s,[],e=>s=e
 | s,x::l,e=>f x=s/\Ch f g (g x) l e
theorem par_none {f:Pt->Pt->Bool}:∀ {E:List (Pt×Pt)},(∀ e∈E,f e.1 e.2=false)->parB f E=false
 | [],_=>rfl
 | e::E,h=>by
  show (f e.1 e.2 ^^ parB f E)=false
  rw [h e List.mem_cons_self,par_none (E:=E) fun x hx=>h x (List.mem_cons_of_mem _ hx)];rfl
theorem chain {P:List (List Pt)}{v:Pt}(hS:Sd P)(hv:0<v.d){S:List Pt}(hb:∀ s∈S,befB v s=true)(hs:S.Pairwise (fun s t=>detM v s t<0))(hC:Spokes P v (fun z=>z∈S)) :
  Ch (fun x=>parB (leftE v x) (edgesM P)) (fun x=>parB (rightE v x) (edgesM P)) (parB (aboveE v) (edgesM P)) S (parB (aboveE v) (edgesM P) ^^ parB (thruE v) (edgesM P)):=by
 have anti:∀ a b:Pt,detM v a b = -detM v b a:=fun a b=>by unfold detM;grind
 have self:∀ a:Pt,detM v a a=0:=fun a=>by unfold detM;grind
 have tail:∀ (l pre:List Pt) (x:Pt),S=pre ++ x::l->Ch (fun x=>parB (leftE v x) (edgesM P)) (fun x=>parB (rightE v x) (edgesM P)) (parB (rightE v x) (edgesM P)) l (parB (aboveE v) (edgesM P) ^^ parB (thruE v) (edgesM P)):=by
  intro l
  induction l with
  | nil=>
   intro pre x e
   refine sec_low hS hv fun ed he ht=>?_
   obtain ⟨z,h1,h2,h3⟩:=hC ed he ht
   refine ⟨z,h1,h2,?_⟩
   rw [e] at h3 hs
   rcases List.mem_append.1 h3 with h | h
   ·have:=(List.pairwise_append.1 hs).2.2 z h x (by simp)
    omega
   ·have:z=x:=by simpa using h
    rw [this,self];omega
  | cons t l ih=>
   intro pre x e
   have e':S=(pre ++ [x]) ++ t::l:=by rw [e];simp
   refine ⟨?_,ih (pre ++ [x]) t e'⟩
   have hxt:detM v x t<0:=by
    rw [e] at hs
    have:=(List.pairwise_append.1 hs).2.1
    exact (List.pairwise_cons.1 this).1 t (by simp)
   refine (sec_right hS hv (hb x (by rw [e];simp)) (hb t (by rw [e];simp)) hxt fun ed he ht=>?_).symm
   obtain ⟨z,h1,h2,h3⟩:=hC ed he ht
   refine ⟨z,h1,h2,fun ⟨k1,k2⟩=>?_⟩
   rw [e] at h3 hs
   rcases List.mem_append.1 h3 with h | h
   ·have:=(List.pairwise_append.1 hs).2.2 z h x (by simp)
    have:=anti x z
    omega
   ·rcases List.mem_cons.1 h with h | h
    ·rw [h,self] at k1;omega
    ·rcases List.mem_cons.1 h with h | h
     ·rw [h,self] at k2;omega
     ·have q:=(List.pairwise_append.1 hs).2.1
      have q2:=(List.pairwise_cons.1 q).2
      have:=(List.pairwise_cons.1 q2).1 z h
      have:=anti z t
      omega
 cases S with
 | nil=>
  have:parB (thruE v) (edgesM P)=false:=par_none fun e he=>by
   cases k:thruE v e.1 e.2
   ·rfl
   ·obtain ⟨z,_,_,hz⟩:=hC e he k
    cases hz
  show parB (aboveE v) (edgesM P)=_
  rw [this,Bool.xor_false]
 | cons x l=>
  refine ⟨?_,tail l [] x rfl⟩
  refine sec_top hS hv fun ed he ht=>?_
  obtain ⟨z,h1,h2,h3⟩:=hC ed he ht
  refine ⟨z,h1,h2,?_⟩
  rcases List.mem_cons.1 h3 with h | h
  ·rw [h,self];omega
  ·have:=(List.pairwise_cons.1 hs).1 z h
   have:=anti z x
   omega
def insD (v x:Pt):List Pt->List Pt
 | []=>[x]
 | y::l=>if detM v x y<0 then x::y::l else y::insD v x l
def srtD (v:Pt):List Pt->List Pt
 | []=>[]
 | x::l=>insD v x (srtD v l)
theorem insD_mem {v x z:Pt}:∀ {l:List Pt},z∈insD v x l↔z=x\/z∈l
 | []=>by simp [insD]
 | y::l=>by
  unfold insD
  split
  ·simp
  ·rw [List.mem_cons,insD_mem,List.mem_cons]
   constructor
   ·rintro (h | h | h)
    ·exact .inr (.inl h)
    ·exact .inl h
    ·exact .inr (.inr h)
   ·rintro (h | h | h)
    ·exact .inr (.inl h)
    ·exact .inl h
    ·exact .inr (.inr h)
theorem srtD_mem {v z:Pt}:∀ {l:List Pt},z∈srtD v l↔z∈l
 | []=>by simp [srtD]
 | x::l=>by
  unfold srtD
  rw [insD_mem,srtD_mem,List.mem_cons]
theorem insD_sorted {v x:Pt}(hv:0<v.d)(hx:befB v x=true):∀ {l:List Pt},(∀ y∈l,befB v y=true)->(∀ y∈l,detM v x y≠0)->l.Pairwise (fun s t=>detM v s t<0)->(insD v x l).Pairwise (fun s t=>detM v s t<0)
 | [],_,_,_=>by simp [insD]
 | y::l,hl,hne,hs=>by
  have anti:detM v y x = -detM v x y:=by unfold detM;grind
  obtain ⟨h1,h2⟩:=List.pairwise_cons.1 hs
  unfold insD
  split
  ·rename_i k
   refine List.pairwise_cons.2 ⟨fun z hz=>?_,hs⟩
   rcases List.mem_cons.1 hz with h | h
   ·rw [h];exact k
   ·exact (hp_trans hv hx (hl y List.mem_cons_self) (hl z hz) (by omega) (by have:=h1 z h;omega)).2 (.inl k)
  ·rename_i k
   have n:=hne y List.mem_cons_self
   refine List.pairwise_cons.2 ⟨fun z hz=>?_,insD_sorted hv hx (fun z hz=>hl z (List.mem_cons_of_mem _ hz)) (fun z hz=>hne z (List.mem_cons_of_mem _ hz)) h2⟩
   rcases insD_mem.1 hz with h | h
   ·rw [h];omega
   ·exact h1 z h
theorem srtD_sorted {v:Pt}(hv:0<v.d):∀ {l:List Pt},(∀ y∈l,befB v y=true)->l.Pairwise (fun s t=>detM v s t≠0)->(srtD v l).Pairwise (fun s t=>detM v s t<0)
 | [],_,_=>by simp [srtD]
 | x::l,hl,hs=>by
  obtain ⟨h1,h2⟩:=List.pairwise_cons.1 hs
  unfold srtD
  refine insD_sorted hv (hl x List.mem_cons_self) (fun y hy=>hl y (List.mem_cons_of_mem _ (srtD_mem.1 hy))) (fun y hy=>h1 y (srtD_mem.1 hy)) (srtD_sorted hv (fun y hy=>hl y (List.mem_cons_of_mem _ hy)) h2)
theorem AL_on {f:Pt->Bool}:∀ {S:List Pt} {v u:Pt},Srt S->v∈S->f v=true->u∈S->befB v u=true->f u=true->∃ z,AL f S (v,z)
 | s::S,v,u,hs,hv,fv,hu,b,fu=>by
  obtain ⟨h1,h2⟩:=List.pairwise_cons.1 hs
  rcases List.mem_cons.1 hv with h | h
  ·subst h
   have hu':u∈S:=by
    rcases List.mem_cons.1 hu with h | h
    ·subst h;rw [bef_irr] at b;cases b
    ·exact h
   cases k:S.find? f with
   | none=>
    have:=List.find?_eq_none.1 k u hu'
    exact absurd fu (by simpa using this)
   | some z=>exact ⟨z,.inl ⟨fv,rfl,k⟩⟩
  ·have hu':u∈S:=by
    rcases List.mem_cons.1 hu with e | e
    ·subst e
     have:=h1 v h
     rw [bef_asym this] at b;cases b
    ·exact e
   obtain ⟨z,hz⟩:=AL_on h2 h fv hu' b fu
   exact ⟨z,.inr hz⟩
theorem AL_back {f:Pt->Bool}:∀ {S:List Pt} {v u:Pt},Srt S->v∈S->f v=true->u∈S->befB u v=true->f u=true->∃ z,AL f S (z,v)
 | s::S,v,u,hs,hv,fv,hu,b,fu=>by
  obtain ⟨h1,h2⟩:=List.pairwise_cons.1 hs
  have hv':v∈S:=by
   rcases List.mem_cons.1 hv with h | h
   ·subst h
    rcases List.mem_cons.1 hu with e | e
    ·subst e;rw [bef_irr] at b;cases b
    ·have:=h1 u e
     rw [bef_asym this] at b;cases b
   ·exact h
  by_cases q:∃ y∈S,befB y v=true/\f y=true
  ·obtain ⟨y,hy,yb,fy⟩:=q
   obtain ⟨z,hz⟩:=AL_back h2 hv' fv hy yb fy
   exact ⟨z,.inr hz⟩
  ·have hus:u=s:=by
    rcases List.mem_cons.1 hu with e | e
    ·exact e
    ·exact absurd ⟨u,e,b,fu⟩ q
   subst hus
   refine ⟨u,.inl ⟨fu,rfl,?_⟩⟩
   clear hu hv h1 hs
   revert h2 hv' q
   induction S with
   | nil=>intro _ h;cases h
   | cons t S ih=>
    intro hs hv q
    obtain ⟨k1,k2⟩:=List.pairwise_cons.1 hs
    by_cases e:f t=true
    ·rcases List.mem_cons.1 hv with h | h
     ·subst h;rw [List.find?_cons,e]
     ·exact absurd ⟨t,List.mem_cons_self,k1 v h,e⟩ q
    ·have e':f t=false:=by simpa using e
     rcases List.mem_cons.1 hv with h | h
     ·subst h;exact absurd fv e
     ·rw [List.find?_cons,e']
      exact ih k2 h (fun ⟨y,hy,p⟩=>q ⟨y,List.mem_cons_of_mem _ hy,p⟩)
def onsOf (Q:List (Pt×Pt))(v:Pt):List Pt:=(Q.filter (fun x=>eqP x.1 v)).map (·.2)
def backsOf (Q:List (Pt×Pt))(v:Pt):List Pt:=(Q.filter (fun x=>eqP x.2 v)).map (·.1)
theorem ons_mem {Q:List (Pt×Pt)}{v z:Pt}:z∈onsOf Q v↔(v,z)∈Q:=by
 unfold onsOf
 rw [List.mem_map]
 constructor
 ·rintro ⟨x,hx,rfl⟩
  obtain ⟨h1,h2⟩:=List.mem_filter.1 hx
  have:=eqP_iff.1 h2
  rw [<-this];exact h1
 ·intro h
  exact ⟨(v,z),List.mem_filter.2 ⟨h,eqP_iff.2 rfl⟩,rfl⟩
theorem backs_mem {Q:List (Pt×Pt)}{v z:Pt}:z∈backsOf Q v↔(z,v)∈Q:=by
 unfold backsOf
 rw [List.mem_map]
 constructor
 ·rintro ⟨x,hx,rfl⟩
  obtain ⟨h1,h2⟩:=List.mem_filter.1 hx
  have:=eqP_iff.1 h2
  rw [<-this];exact h1
 ·intro h
  exact ⟨(z,v),List.mem_filter.2 ⟨h,eqP_iff.2 rfl⟩,rfl⟩
theorem cmp_self (p:Pt):cmpM p p=0:=by unfold cmpM;simp
theorem det_last (f l:Pt):detM f l l=0:=by unfold detM;grind
theorem det_first (f l:Pt):detM f l f=0:=by unfold detM;grind
section
variable {E:List (Pt×Pt)}(hG:Good E)
include hG
theorem edge_bef {e:Pt×Pt}(he:e∈E):befB (firstM e.1 e.2) (lastM e.1 e.2)=true:=by
 have g:=hG.gr e he
 rw [first_eq,last_eq]
 rcases L_tri g.1.d g.2.d with t | t | t
 ·have b:=(bef_L g.1.d g.2.d).2 t
  rw [b,bef_asym b];simpa using b
 ·exact absurd t (hG.ne e he)
 ·have b:=(bef_L g.2.d g.1.d).2 t
  rw [b,bef_asym b];simpa using b
theorem ends_spots {e:Pt×Pt}(he:e∈E):firstM e.1 e.2∈spotsM E/\lastM e.1 e.2∈spotsM E:=by
 have k:∀ y,y=firstM e.1 e.2\/y=lastM e.1 e.2->y∈spotsM E:=fun y hy=>by
  rw [(spots_spec hG).2]
  refine ⟨e,he,e,he,?_⟩
  rw [meet_same (hG.gr e he).1.d (hG.gr e he).2.d (hG.ne e he)]
  unfold inMt
  simpa using hy
 exact ⟨k _ (.inl rfl),k _ (.inr rfl)⟩
theorem has_ends {e:Pt×Pt}(he:e∈E):hasM e.1 e.2 (firstM e.1 e.2)=true/\hasM e.1 e.2 (lastM e.1 e.2)=true:=by
 have b:=edge_bef hG he
 have b':=bef_asym b
 have c1:=cmpB (lastM e.1 e.2) (firstM e.1 e.2)
 have c2:=cmpB' (firstM e.1 e.2) (lastM e.1 e.2)
 rw [b'] at c1 c2
 unfold hasM sideM
 rw [c1,c2,cmp_self,cmp_self,det_first,det_last];simp
theorem spoke_on {v:Pt}(hv:v∈spotsM E){e:Pt×Pt}(he:e∈E)(h:thruE v e.1 e.2=true):∃ z,(v,z)∈pairsL E (spotsM E)/\befB v z=true/\sideM e.1 e.2 z=0:=by
 have hS:=(spots_spec hG).1
 unfold thruE spanM at h
 simp only [Bool.and_eq_true,Bool.not_eq_true',decide_eq_false_iff_not,decide_eq_true_eq] at h
 obtain ⟨⟨h1,h2⟩,h3⟩:=h
 have fv:hasM e.1 e.2 v=true:=by
  unfold hasM
  simp only [Bool.and_eq_true,Bool.not_eq_true',decide_eq_false_iff_not,decide_eq_true_eq]
  exact ⟨h1,by omega,h3⟩
 have bl:befB v (lastM e.1 e.2)=true:=by rw [<-cmpB];exact decide_eq_true h2
 obtain ⟨z,hz⟩:=AL_on hS.srt hv fv (ends_spots hG he).2 bl (has_ends hG he).2
 obtain ⟨_,_,_,fz⟩:=AL_mem hz
 refine ⟨z,((pairs_spec E hS).2 _).2 ⟨e,he,hz⟩,(AL_next hS.srt hz).1,?_⟩
 unfold hasM at fz
 simp only [Bool.and_eq_true,decide_eq_true_eq] at fz
 exact fz.2.2
theorem spoke_back {v:Pt}(hv:v∈spotsM E){e:Pt×Pt}(he:e∈E)(h:hasM e.1 e.2 v=true)(hb:befB (firstM e.1 e.2) v=true):∃ z,(z,v)∈pairsL E (spotsM E)/\befB z v=true/\sideM e.1 e.2 z=0:=by
 have hS:=(spots_spec hG).1
 obtain ⟨z,hz⟩:=AL_back hS.srt hv h (ends_spots hG he).1 hb (has_ends hG he).1
 obtain ⟨_,_,fz,_⟩:=AL_mem hz
 refine ⟨z,((pairs_spec E hS).2 _).2 ⟨e,he,hz⟩,(AL_next hS.srt hz).1,?_⟩
 unfold hasM at fz
 simp only [Bool.and_eq_true,decide_eq_true_eq] at fz
 exact fz.2.2
theorem ons_apart {v z1 z2:Pt}(h1:(v,z1)∈pairsL E (spotsM E))(h2:(v,z2)∈pairsL E (spotsM E))(hb:befB z1 z2=true):detM v z1 z2≠0:=by
 intro hd
 have hS:=(spots_spec hG).1
 obtain ⟨e1,he1,a1⟩:=((pairs_spec E hS).2 _).1 h1
 obtain ⟨e2,he2,a2⟩:=((pairs_spec E hS).2 _).1 h2
 obtain ⟨mv,mz1,_,_⟩:=AL_mem a1
 obtain ⟨_,mz2,fv,fz2⟩:=AL_mem a2
 obtain ⟨b1,_⟩:=AL_next hS.srt a1
 obtain ⟨b2,no⟩:=AL_next hS.srt a2
 simp only at mv mz1 mz2 fv fz2 b1 b2 no
 have dv:=(hS.nc _ mv).d
 have d1:=(hS.nc _ mz1).d
 have d2:=(hS.nc _ mz2).d
 have f:=no z1 mz1 b1 hb
 have be:=edge_bef hG he2
 have gr:=hG.gr e2 he2
 have df:0<(firstM e2.1 e2.2).d:=by have:=gr.1.d;have:=gr.2.d;unfold firstM;split <;> omega
 have dl:0<(lastM e2.1 e2.2).d:=by have:=gr.1.d;have:=gr.2.d;unfold lastM;split <;> omega
 unfold hasM at fv fz2 f
 simp only [Bool.and_eq_true,Bool.not_eq_true',decide_eq_false_iff_not,decide_eq_true_eq] at fv fz2
 obtain ⟨v1,v2,v3⟩:=fv
 obtain ⟨w1,w2,w3⟩:=fz2
 have side:sideM e2.1 e2.2 z1=0:=by
  unfold sideM at *
  rw [(line_sign df dv v3 w3 be b2 (x:=z1)).2]
  have:detM v z2 z1 = -detM v z1 z2:=by unfold detM;grind
  omega
 have c1:befB z1 (firstM e2.1 e2.2)=false:=by
  have k:befB v (firstM e2.1 e2.2)=false:=by rw [<-cmpB];exact decide_eq_false v1
  exact bef_asym (le_bef df dv d1 k b1)
 have c2:befB (lastM e2.1 e2.2) z1=false:=by
  have k:befB (lastM e2.1 e2.2) z2=false:=by rw [<-cmpB'];exact decide_eq_false w2
  exact bef_asym (bef_le d1 d2 dl hb k)
 rw [cmpB,cmpB',c1,c2,decide_eq_true side] at f
 simp at f
end
theorem roL_roL (P:List (List Pt)):roL (roL P)=P:=by
 unfold roL
 rw [List.map_map]
 have:(List.map ro ∘ List.map ro)=id:=by
  funext r
  show (r.map ro).map ro=r
  rw [List.map_map]
  exact (List.map_congr_left (fun x _=>ro_ro x)).trans (List.map_id r)
 rw [this,List.map_id]
theorem side_ro {a b:Pt}(ne:befB a b=true\/befB b a=true)(x:Pt):sideM (ro a) (ro b) (ro x) = -sideM a b x:=by
 unfold sideM
 rw [first_eq,last_eq,first_eq,last_eq,ro_bef,ro_bef]
 rcases ne with h | h
 ·rw [h,bef_asym h]
  simp only [if_true,Bool.false_eq_true,if_false]
  rw [ro_det,det_back]
 ·rw [h,bef_asym h]
  simp only [if_true,Bool.false_eq_true,if_false]
  rw [ro_det,det_back]
theorem far_right {P:List (List Pt)}{p q:Pt}(hS:Sd P)(pd:0<p.d)(qd:0<q.d)(hpq:befB p q=true)(hc:Clear P p q) :
  parB (rightE p q) (edgesM P)=parB (leftE (ro q) (ro p)) (edgesM (roL P)):=by
 have f:=far_left hS pd qd hpq hc
 have hd:=hS.pd
 have hrd:∀ v∈(roL P).flatten,0<v.d:=fun v hv=>by
  obtain ⟨u,hu,rfl⟩:=ro_mem hv
  exact hd u hu
 have hrq:befB (ro q) (ro p)=true:=by rw [ro_bef];exact hpq
 have hrc:=ro_clear hc
 have e2:parB (rightE (ro q) (ro p)) (edgesM (roL P))=(parB (leftE (ro q) (ro p)) (edgesM (roL P)) ^^ parB (fun a b=>onB (midP (ro q) (ro p)) a b) (edgesM (roL P))):=by
  rw [<-parB_xor]
  refine parB_congr fun e he=>?_
  obtain ⟨m1,m2⟩:=edge_ends he
  have ne:=hS.ro.ne e he
  rw [rightE_eq (hrd _ m1) (hrd _ m2) (p:=ro q) qd ne,along_mid (p:=ro q) (q:=ro p) qd pd (hrd _ m1) (hrd _ m2) hrq ne (hrc.pt _ m1) (hrc.pt _ m2) (hrc.ed e he)]
 have e3:parB (rightE p q) (edgesM P)=(parB (leftE p q) (edgesM P) ^^ parB (fun a b=>onB (midP p q) a b) (edgesM P)):=by
  rw [<-parB_xor]
  refine parB_congr fun e he=>?_
  obtain ⟨m1,m2⟩:=edge_ends he
  rw [rightE_eq (hd _ m1) (hd _ m2) pd (hS.ne e he),along_mid pd qd (hd _ m1) (hd _ m2) hpq (hS.ne e he) (hc.pt _ m1) (hc.pt _ m2) (hc.ed e he)]
 have e4:parB (fun a b=>onB (midP (ro q) (ro p)) a b) (edgesM (roL P))=parB (fun a b=>onB (midP p q) a b) (edgesM P):=by
  rw [ro_mid,ro_edges,parB_map]
  exact parB_congr fun e he=>ro_on (hS.ne e he)
 rw [e4,<-f] at e2
 rw [e3,e2]
 cases parB (leftE (ro q) (ro p)) (edgesM (roL P)) <;> cases parB (fun a b=>onB (midP p q) a b) (edgesM P) <;> rfl
section
variable {A B:List (List Pt)}(sA:Sound A)(sB:Sound B)
def prs (A B:List (List Pt)):List (Pt×Pt):=pairsL (edgesM A ++ edgesM B) (spotsM (edgesM A ++ edgesM B))
def RS (A B:List (List Pt))(v:Pt):List Pt:=srtD v (onsOf (prs A B) v)
def LS (A B:List (List Pt))(v:Pt):List Pt:=srtD (ro v) ((backsOf (prs A B) v).map ro)
theorem RS_mem {v z:Pt}:z∈RS A B v↔(v,z)∈prs A B:=by
 unfold RS;rw [srtD_mem,ons_mem]
theorem LS_mem {v y:Pt}:y∈LS A B v↔(ro y,v)∈prs A B:=by
 unfold LS
 rw [srtD_mem,List.mem_map]
 constructor
 ·rintro ⟨p,hp,rfl⟩
  rw [ro_ro];exact backs_mem.1 hp
 ·intro h
  exact ⟨ro y,backs_mem.2 h,ro_ro y⟩
include sA sB
theorem prs_bef {x:Pt×Pt}(h:x∈prs A B):befB x.1 x.2=true/\0<x.1.d/\0<x.2.d:=by
 obtain ⟨⟨n1,n2⟩,hpq,_,_⟩:=piece_clear (good_both sA sB) h
 exact ⟨hpq,n1.d,n2.d⟩
theorem prs_clear {x:Pt×Pt}(h:x∈prs A B):Clear A x.1 x.2/\Clear B x.1 x.2:=by
 obtain ⟨_,_,hpt,hed⟩:=piece_clear (good_both sA sB) h
 exact ⟨⟨fun v hv b1 b2=>by
  obtain ⟨e,he,rfl⟩:=first_edge hv
  exact hpt e (List.mem_append.2 (.inl he)) b1 b2,fun e he=>hed e (List.mem_append.2 (.inl he))⟩,⟨fun v hv b1 b2=>by
  obtain ⟨e,he,rfl⟩:=first_edge hv
  exact hpt e (List.mem_append.2 (.inr he)) b1 b2,fun e he=>hed e (List.mem_append.2 (.inr he))⟩⟩
theorem prs_pairwise:(prs A B).Pairwise PR:=(pairs_spec _ (spots_spec (good_both sA sB)).1).1
theorem RS_sorted {v:Pt}(hv:0<v.d):(RS A B v).Pairwise (fun s t=>detM v s t<0):=by
 unfold RS
 refine srtD_sorted hv (fun y hy=>(prs_bef sA sB (ons_mem.1 hy)).1) ?_
 unfold onsOf
 rw [List.pairwise_map]
 have h:=(prs_pairwise sA sB).filter (fun x=>eqP x.1 v)
 refine h.imp_of_mem ?_
 intro x y hx hy pr
 obtain ⟨x1,x2⟩:=List.mem_filter.1 hx
 obtain ⟨y1,y2⟩:=List.mem_filter.1 hy
 have ex:=eqP_iff.1 x2
 have ey:=eqP_iff.1 y2
 have hb:befB x.2 y.2=true:=by
  rcases pr with k | k
  ·rw [ex,ey,bef_irr] at k;cases k
  ·exact k.2
 have hx':(v,x.2)∈prs A B:=by rw [<-ex];exact x1
 have hy':(v,y.2)∈prs A B:=by rw [<-ey];exact y1
 exact ons_apart (good_both sA sB) hx' hy' hb
theorem backs_apart {v z1 z2:Pt}(h1:(z1,v)∈prs A B)(h2:(z2,v)∈prs A B)(hb:befB z1 z2=true):detM v z1 z2≠0:=by
 intro hd
 have hG:=good_both sA sB
 have hS:=(spots_spec hG).1
 obtain ⟨e1,he1,a1⟩:=((pairs_spec _ hS).2 _).1 h1
 obtain ⟨e2,he2,a2⟩:=((pairs_spec _ hS).2 _).1 h2
 obtain ⟨mz1,mv,fz1,fv⟩:=AL_mem a1
 obtain ⟨mz2,_,_,_⟩:=AL_mem a2
 obtain ⟨b1,no⟩:=AL_next hS.srt a1
 obtain ⟨b2,_⟩:=AL_next hS.srt a2
 simp only at mv mz1 mz2 fv fz1 b1 b2 no
 have dv:=(hS.nc _ mv).d
 have d1:=(hS.nc _ mz1).d
 have d2:=(hS.nc _ mz2).d
 have f:=no z2 mz2 hb b2
 have be:=edge_bef hG he1
 have gr:=hG.gr e1 he1
 have df:0<(firstM e1.1 e1.2).d:=by have:=gr.1.d;have:=gr.2.d;unfold firstM;split <;> omega
 have dl:0<(lastM e1.1 e1.2).d:=by have:=gr.1.d;have:=gr.2.d;unfold lastM;split <;> omega
 unfold hasM at fv fz1 f
 simp only [Bool.and_eq_true,Bool.not_eq_true',decide_eq_false_iff_not,decide_eq_true_eq] at fv fz1
 obtain ⟨v1,v2,v3⟩:=fv
 obtain ⟨w1,w2,w3⟩:=fz1
 have side:sideM e1.1 e1.2 z2=0:=by
  unfold sideM at *
  rw [(line_sign df d1 w3 v3 be b1 (x:=z2)).2]
  have:detM z1 v z2 = -detM v z1 z2:=by unfold detM;grind
  omega
 have c1:befB z2 (firstM e1.1 e1.2)=false:=by
  have k:befB z1 (firstM e1.1 e1.2)=false:=by rw [<-cmpB];exact decide_eq_false w1
  exact bef_asym (le_bef df d1 d2 k hb)
 have c2:befB (lastM e1.1 e1.2) z2=false:=by
  have k:befB (lastM e1.1 e1.2) v=false:=by rw [<-cmpB'];exact decide_eq_false v2
  exact bef_asym (bef_le d2 dv dl b2 k)
 rw [cmpB,cmpB',c1,c2,decide_eq_true side] at f
 simp at f
theorem LS_sorted {v:Pt}(hv:0<v.d):(LS A B v).Pairwise (fun s t=>detM (ro v) s t<0):=by
 unfold LS
 refine srtD_sorted (v:=ro v) hv (fun y hy=>?_) ?_
 ·obtain ⟨p,hp,rfl⟩:=List.mem_map.1 hy
  rw [ro_bef];exact (prs_bef sA sB (backs_mem.1 hp)).1
 ·unfold backsOf
  rw [List.pairwise_map,List.pairwise_map]
  have h:=(prs_pairwise sA sB).filter (fun x=>eqP x.2 v)
  refine h.imp_of_mem ?_
  intro x y hx hy pr
  obtain ⟨x1,x2⟩:=List.mem_filter.1 hx
  obtain ⟨y1,y2⟩:=List.mem_filter.1 hy
  have ex:=eqP_iff.1 x2
  have ey:=eqP_iff.1 y2
  have hb:befB x.1 y.1=true:=by
   rcases pr with k | k
   ·exact k
   ·have:=k.2
    rw [ex,ey,bef_irr] at this;cases this
  have hx':(x.1,v)∈prs A B:=by rw [<-ex];exact x1
  have hy':(y.1,v)∈prs A B:=by rw [<-ey];exact y1
  rw [ro_det]
  exact backs_apart sA sB hx' hy' hb
end
abbrev nab (P:List (List Pt))(v:Pt):Bool:=parB (aboveE v) (edgesM P)
theorem ch_end {f g:Pt->Bool}{s e e':Bool}{l:List Pt}(h:Ch f g s l e)(k:e=e'):Ch f g s l e':=k ▸ h
theorem thru_ro {P:List (List Pt)}(hS:Sd P){v:Pt}(hv:0<v.d){e:Pt×Pt}(he:e∈edgesM P)(h:thruE (ro v) (ro e.1) (ro e.2)=true):hasM e.1 e.2 v=true/\befB (firstM e.1 e.2) v=true:=by
 obtain ⟨m1,m2⟩:=edge_ends he
 have da:=hS.pd _ m1
 have db:=hS.pd _ m2
 have ne:=hS.ne e he
 have rne:befB (ro e.1) (ro e.2)=true\/befB (ro e.2) (ro e.1)=true:=by rw [ro_bef,ro_bef];exact ne.symm
 unfold thruE at h
 rw [Bool.and_eq_true] at h
 obtain ⟨h1,h2⟩:=h
 rw [span_bef (a:=ro e.1) (b:=ro e.2) (p:=ro v) da db hv rne,ro_bef,ro_bef] at h1
 have s0:=of_decide_eq_true h2
 rw [side_ro ne] at s0
 have s0':sideM e.1 e.2 v=0:=by omega
 unfold hasM
 rw [cmpB,cmpB',s0',first_eq,last_eq]
 rcases ne with k | k
 ·rw [k,bef_asym k]
  have im:befB e.2 v=true->befB e.1 v=true:=fun q=>bef_le da db hv k (bef_asym q)
  simp only [Bool.false_eq_true,if_false,if_true]
  cases q1:befB e.1 v <;> cases q2:befB e.2 v <;> rw [q1,q2] at h1
  ·simp at h1
  ·rw [im q2] at q1;cases q1
  ·rw [bef_asym q1];simp
  ·simp at h1
 ·rw [k,bef_asym k]
  have im:befB e.1 v=true->befB e.2 v=true:=fun q=>bef_le db da hv k (bef_asym q)
  simp only [Bool.false_eq_true,if_false,if_true]
  cases q1:befB e.1 v <;> cases q2:befB e.2 v <;> rw [q1,q2] at h1
  ·simp at h1
  ·rw [bef_asym q2];simp
  ·rw [im q1] at q2;cases q2
  ·simp at h1
section
variable {A B:List (List Pt)}(sA:Sound A)(sB:Sound B){v:Pt}(hv:0<v.d)(hm:v∈spotsM (edgesM A ++ edgesM B))
include sA sB hv hm
theorem ring_on {P:List (List Pt)}(sP:Sd P)(hP:∀ e∈edgesM P,e∈edgesM A ++ edgesM B) :
  Ch (fun x=>parB (leftE v x) (edgesM P)) (fun x=>parB (rightE v x) (edgesM P)) (nab P v) (RS A B v) (nab (roL P) (ro v)):=by
 refine ch_end (chain sP hv (fun s hs=>(prs_bef sA sB (RS_mem.1 hs)).1) (RS_sorted sA sB hv) fun e he ht=>?_) (join sP hv)
 obtain ⟨z,h1,h2,h3⟩:=spoke_on (good_both sA sB) hm (hP e he) ht
 exact ⟨z,h2,h3,RS_mem.2 h1⟩
theorem ring_back {P:List (List Pt)}(sP:Sd P)(hP:∀ e∈edgesM P,e∈edgesM A ++ edgesM B) :
  Ch (fun y=>parB (leftE (ro v) y) (edgesM (roL P))) (fun y=>parB (rightE (ro v) y) (edgesM (roL P))) (nab (roL P) (ro v)) (LS A B v) (nab P v):=by
 have j:=join sP.ro (v:=ro v) hv
 rw [roL_roL,ro_ro] at j
 refine ch_end (chain sP.ro (v:=ro v) hv (fun s hs=>?_) (LS_sorted sA sB hv) fun e he ht=>?_) j
 ·have:=(prs_bef sA sB (LS_mem.1 hs)).1
  rw [<-ro_bef,ro_ro] at this
  exact this
 ·rw [ro_edges] at he
  obtain ⟨x,hx,rfl⟩:=List.mem_map.1 he
  obtain ⟨k1,k2⟩:=thru_ro sP hv hx ht
  obtain ⟨z,h1,h2,h3⟩:=spoke_back (good_both sA sB) hm (hP x hx) k1 k2
  refine ⟨ro z,by rw [ro_bef];exact h2,?_,LS_mem.2 (by rw [ro_ro];exact h1)⟩
  rw [side_ro (sP.ne x hx),h3];rfl
end
theorem ch_two {f1 g1 f2 g2:Pt->Bool}(h:Bool->Bool->Bool):∀ {l:List Pt} {s1 e1 s2 e2:Bool},Ch f1 g1 s1 l e1->Ch f2 g2 s2 l e2->Ch (fun x=>h (f1 x) (f2 x)) (fun x=>h (g1 x) (g2 x)) (h s1 s2) l (h e1 e2)
 | [],_,_,_,_,a,b=>by
  have a':_=_:=a
  have b':_=_:=b
  show h _ _=h _ _
  rw [a',b']
 | x::l,_,_,_,_,a,b=>⟨by show h (f1 x) (f2 x)=_;rw [show f1 x=_ from a.1,show f2 x=_ from b.1],ch_two h a.2 b.2⟩
def refl (v q:Pt):Pt:=⟨2*v.x*q.d-q.x*v.d,2*v.y*q.d-q.y*v.d,v.d*q.d⟩
theorem refl_det (v a q:Pt):detM v a (refl v q) = -(v.d*detM v a q):=by unfold detM refl;grind
theorem refl_det2 (v p q:Pt):detM v (refl v p) (refl v q)=v.d*v.d*detM v p q:=by unfold detM refl;grind
theorem refl_xv (v q:Pt):xv v (refl v q)=v.d*xv q v/\yv v (refl v q)=v.d*yv q v:=by
 constructor
 ·unfold xv refl;grind
 ·unfold yv refl;grind
theorem refl_bef {v q:Pt}(hv:0<v.d)(h:befB q v=true):befB v (refl v q)=true:=by
 have k:0<xv q v\/(xv q v=0/\0<yv q v):=by
  have:=(not_congr (bef_x q v)).1 (by rw [h];decide)
  omega
 obtain ⟨e1,e2⟩:=refl_xv v q
 cases c:befB v (refl v q)
 ·rw [bef_x,e1,e2] at c
  rcases k with k | ⟨k1,k2⟩
  ·have:=mul_pp hv k;omega
  ·rw [k1,Int.mul_zero] at c
   have:=mul_pp hv k2;omega
 ·rfl
theorem sgn_neg {d x:Int}(hd:0<d):(-(d*x)<0↔0<x)/\(0 < -(d*x)↔x<0)/\(-(d*x)<=0↔0<=x):=by
 rcases Int.lt_trichotomy x 0 with h | h | h
 ·have:=mul_pn hd h;omega
 ·rw [h,Int.mul_zero];omega
 ·have:=mul_pp hd h;omega
section
variable {v s:Pt}(hv:0<v.d)(hs:befB v s=true)
theorem d_anti (v a b:Pt):detM v a b = -detM v b a:=by unfold detM;grind
include hv hs
theorem mixed1 {p q:Pt}(hp:befB v p=true)(hq:befB q v=true)(h1:detM v s p<0)(h2:detM v s q<0):detM v p q<0:=by
 have hr:=refl_bef hv hq
 have a1:detM v (refl v q) s<0:=by rw [d_anti,refl_det];have:=mul_pn hv h2;omega
 have t:=(hp_trans hv hr hs hp (by omega) (by omega)).2 (.inl a1)
 rw [d_anti,refl_det] at t
 have:=(sgn_neg (d:=v.d) (x:=detM v p q) hv).2.1
 omega
theorem mixed2 {p q:Pt}(hp:befB p v=true)(hq:befB v q=true)(h1:0<detM v s q)(h2:0<=detM v s p):detM v p q<0:=by
 have hr:=refl_bef hv hp
 have a0:=d_anti v q s
 have a1:detM v s (refl v p)<=0:=by rw [refl_det];exact (sgn_neg hv).2.2.2 h2
 have t:=(hp_trans hv hq hs hr (by omega) a1).2 (.inl (by omega))
 rw [refl_det] at t
 have:=(sgn_neg (d:=v.d) (x:=detM v q p) hv).1
 have:=d_anti v p q
 omega
theorem mixed3 {p q:Pt}(hp:befB p v=true)(hq:befB q v=true)(h1:detM v p q<0)(h2:detM v s q<0):detM v s p<0:=by
 have rp:=refl_bef hv hp
 have rq:=refl_bef hv hq
 have a1:detM v (refl v p) (refl v q)<0:=by rw [refl_det2];exact mul_pn (mul_pp hv hv) h1
 have a2:detM v (refl v q) s<0:=by rw [d_anti,refl_det];have:=mul_pn hv h2;omega
 have t:=(hp_trans hv rp rq hs (by omega) (by omega)).2 (.inl a1)
 rw [d_anti,refl_det] at t
 have:=(sgn_neg (d:=v.d) (x:=detM v s p) hv).2.1
 omega
theorem turn_order {R1 R2 L:List Pt}(h1:∀ p∈R1,befB v p=true/\0<detM v s p)(h2:∀ p∈R2,befB v p=true/\detM v s p<0)(h3:∀ p∈L,befB p v=true)
  (o1:R1.Pairwise (fun p q=>detM v p q<0)) (o2:R2.Pairwise (fun p q=>detM v p q<0)) (o3:L.Pairwise (fun p q=>detM v p q<0)) :
  (R2 ++ (L ++ R1)).Pairwise (fun p q=>aheadM p q (s,v)=true):=by
 have key:∀ p q,aheadM p q (s,v)=if (decide (detM v s p<0) != decide (detM v s q<0))=true then decide (detM v s p<0) else decide (detM v p q<0):=fun _ _=>rfl
 rw [List.pairwise_append,List.pairwise_append]
 refine ⟨o2.imp_of_mem fun hp hq h=>?_,⟨o3.imp_of_mem fun {p q} hp hq h=>?_,o1.imp_of_mem fun {p q} hp hq h=>?_,fun p hp q hq=>?_⟩,fun p hp q hq=>?_⟩
 ·rw [key,decide_eq_true (h2 _ hp).2,decide_eq_true (h2 _ hq).2]
  simpa using h
 ·rw [key]
  by_cases a:detM v s p<0 <;> by_cases b:detM v s q<0
  ·simp [a,b,h]
  ·simp [a,b]
  ·exact absurd (mixed3 hv hs (h3 _ hp) (h3 _ hq) h b) a
  ·simp [a,b,h]
 ·have a:=(h1 _ hp).2
  have b:=(h1 _ hq).2
  rw [key,decide_eq_false (by omega),decide_eq_false (by omega)]
  simpa using h
 ·have b:=(h1 _ hq).2
  rw [key,decide_eq_false (show ¬ detM v s q<0 by omega)]
  by_cases a:detM v s p<0
  ·simp [a]
  ·have:=mixed2 hv hs (h3 _ hp) (h1 _ hq).1 b (by omega)
   simp [a,this]
 ·have a:=(h2 _ hp).2
  rw [key,decide_eq_true a]
  rcases List.mem_append.1 hq with hq | hq
  ·by_cases b:detM v s q<0
   ·have:=mixed1 hv hs (h2 _ hp).1 (h3 _ hq) a b
    simp [b,this]
   ·simp [b]
  ·have b:=(h1 _ hq).2
   rw [decide_eq_false (show ¬ detM v s q<0 by omega)]
   simp
end
theorem ahead_ro (p q:Pt)(e:Pt×Pt):aheadM (ro p) (ro q) (ro e.1,ro e.2)=aheadM p q e:=by
 unfold aheadM
 rw [ro_det,ro_det,ro_det]
end Go.Proofs.YtnkcbephceollabGreat
