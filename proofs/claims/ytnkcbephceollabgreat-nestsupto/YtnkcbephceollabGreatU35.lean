import Derived.Test.YtnkcbephceollabGreatU34
namespace Go.Proofs.YtnkcbephceollabGreat
set_option linter.unusedSimpArgs false
set_option linter.unusedVariables false
structure Pm (N:List Nat)(n:Nat):Prop where
 lt:∀ k,k<n->N.getD k 0<n
 inj:∀ k k',k<n->k'<n->N.getD k 0=N.getD k' 0->k=k'
def itN (N:List Nat)(i:Nat):Nat->Nat
 | 0=>i
 | a+1=>N.getD (itN N i a) 0
theorem holes:∀ (n:Nat) (l:List Nat),l.Nodup->(∀ x∈l,x<n)->l.length<=n
 | 0,[],_,_=>by simp
 | 0,x::l,_,h=>absurd (h x (by simp)) (by omega)
 | n+1,l,hn,h=>by
  have ih:=holes n (l.erase n) (hn.erase n) (fun x hx=>by
   have:=(hn.mem_erase_iff).1 hx
   have:=h x this.2
   omega)
  by_cases m:n∈l
  ·rw [List.length_erase_of_mem m] at ih;omega
  ·rw [List.erase_of_not_mem m] at ih;omega
theorem least_one {P:Nat->Prop}:∀ m,P m->∃ k,k<=m/\P k/\∀ a,a<k->¬ P a:=by
 intro m
 induction m using Nat.strongRecOn with
 | _ m ih=>
  intro h
  by_cases x:∃ a,a<m/\P a
  ·obtain ⟨a,ha,pa⟩:=x
   obtain ⟨k,hk,pk,g⟩:=ih a ha pa
   exact ⟨k,by omega,pk,g⟩
  ·exact ⟨m,Nat.le_refl _,h,fun a ha pa=>x ⟨a,ha,pa⟩⟩
section
variable {N:List Nat}{n i:Nat}(h:Pm N n)(hi:i<n)
include h hi
theorem it_lt:∀ a,itN N i a<n
 | 0=>hi
 | a+1=>h.lt _ (it_lt a)
theorem it_down:∀ a b,a<=b->itN N i a=itN N i b->itN N i (b-a)=i
 | 0,b,_,e=>e.symm
 | a+1,0,l,_=>absurd l (by omega)
 | a+1,b+1,l,e=>by
  have:=it_down a b (by omega) (h.inj _ _ (it_lt h hi a) (it_lt h hi b) e)
  rw [Nat.add_sub_add_right];exact this
theorem comes_back:∃ m,1<=m/\m<=n/\itN N i m=i/\∀ a,1<=a->a<m->itN N i a≠i:=by
 have ex:∃ m,1<=m/\m<=n/\itN N i m=i:=by
  apply Classical.byContradiction
  intro no
  have nd:((List.range (n+1)).map (itN N i)).Nodup:=by
   refine List.pairwise_map.2 (List.Pairwise.imp_of_mem ?_ List.pairwise_lt_range)
   intro a b ma mb lt e
   have la:=List.mem_range.1 ma
   have lb:=List.mem_range.1 mb
   exact no ⟨b-a,by omega,by omega,it_down h hi a b (by omega) e⟩
  have:=holes n _ nd (fun x hx=>by
   obtain ⟨a,_,rfl⟩:=List.mem_map.1 hx
   exact it_lt h hi a)
  simp at this
  omega
 obtain ⟨m,h1,h2,h3⟩:=ex
 obtain ⟨k,hk,⟨p1,p2⟩,g⟩:=least_one (P:=fun m=>1<=m/\itN N i m=i) m ⟨h1,h3⟩
 exact ⟨k,p1,by omega,p2,fun a ha la e=>g a la ⟨ha,e⟩⟩
end
def setN (t:List Bool)(N:List Nat)(i:Nat):Nat->List Bool
 | 0=>t
 | a+1=>(setN t N i a).set (itN N i a) true
theorem setN_len (t:List Bool)(N:List Nat)(i:Nat):∀ a,(setN t N i a).length=t.length
 | 0=>rfl
 | a+1=>by unfold setN;rw [List.length_set,setN_len t N i a]
theorem setN_at {t:List Bool}{N:List Nat}{i k:Nat}(hk:k<t.length):∀ a,(setN t N i a).getD k false=true↔t.getD k false=true\/∃ b,b<a/\itN N i b=k
 | 0=>by unfold setN;simp
 | a+1=>by
  have ih:=setN_at (N:=N) (i:=i) hk a
  have hl:=setN_len t N i a
  unfold setN
  by_cases e:itN N i a=k
  ·have:((setN t N i a).set (itN N i a) true).getD k false=true:=by
    rw [e,List.getD_eq_getElem?_getD,List.getElem?_set_self (by omega)];rfl
   rw [this]
   simp only [true_iff]
   exact .inr ⟨a,by omega,e⟩
  ·have:((setN t N i a).set (itN N i a) true).getD k false=(setN t N i a).getD k false:=by
    rw [List.getD_eq_getElem?_getD,List.getElem?_set_ne e,<-List.getD_eq_getElem?_getD]
   rw [this,ih]
   constructor
   ·rintro (w | ⟨b,hb,w⟩)
    ·exact .inl w
    ·exact .inr ⟨b,by omega,w⟩
   ·rintro (w | ⟨b,hb,w⟩)
    ·exact .inl w
    ·refine .inr ⟨b,?_,w⟩
     by_cases q:b=a
     ·subst q;exact absurd w e
     ·omega
def ptsN (L:List (Pt×Pt))(N:List Nat)(i:Nat):Nat->Nat->List Pt
 | _,0=>[]
 | a,c+1=>(if turnB (edg L (itN N i a)) (edg L (itN N i (a+1)))=true then [(edg L (itN N i a)).2] else []) ++ ptsN L N i (a+1) c
theorem walk_from (L:List (Pt×Pt)){N:List Nat}{n i:Nat}(h:Pm N n)(hi:i<n){t:List Bool}(ht:t.length=n)(hf:∀ a,t.getD (itN N i a) false=false){m:Nat}(m1:1<=m)(mi:itN N i m=i)(ml:∀ a,1<=a->a<m->itN N i a≠i):∀ c a f,a+c=m->c<f->walkM L N f (setN t N i a) (itN N i a)=(ptsN L N i a c,setN t N i m)
 | 0,a,f+1,e,_=>by
  have e:a=m:=by omega
  subst e
  unfold walkM ptsN
  have:(setN t N i a).getD (itN N i a) false=true:=by
   rw [setN_at (by rw [ht];exact it_lt h hi a)]
   exact .inr ⟨0,by omega,by rw [mi];rfl⟩
  rw [if_pos this]
 | c+1,a,f+1,e,l=>by
  have ih:=walk_from L h hi ht hf m1 mi ml c (a+1) f (by omega) (by omega)
  have no : ¬ (setN t N i a).getD (itN N i a) false=true:=by
   rw [setN_at (by rw [ht];exact it_lt h hi a)]
   rintro (w | ⟨b,hb,w⟩)
   ·rw [hf a] at w;cases w
   ·exact ml (a-b) (by omega) (by omega) (it_down h hi b a (by omega) w)
  unfold walkM ptsN
  rw [if_neg no]
  have e1:N.getD (itN N i a) 0=itN N i (a+1):=rfl
  have e2:(setN t N i a).set (itN N i a) true=setN t N i (a+1):=rfl
  rw [e1,e2,ih]
theorem walk_round (L:List (Pt×Pt)){N:List Nat}{n i:Nat}(h:Pm N n)(hi:i<n){t:List Bool}(ht:t.length=n)(hf:∀ a,t.getD (itN N i a) false=false):∃ m,1<=m/\m<=n/\itN N i m=i/\(∀ a,1<=a->a<m->itN N i a≠i)/\walkM L N (n+1) t i=(ptsN L N i 0 m,setN t N i m):=by
 obtain ⟨m,m1,mn,mi,ml⟩:=comes_back h hi
 exact ⟨m,m1,mn,mi,ml,walk_from L h hi ht hf m1 mi ml m 0 (n+1) (by omega) (by omega)⟩
def Whole (N:List Nat)(n:Nat)(t:List Bool):Prop:=∀ k,k<n->(t.getD k false=true↔t.getD (N.getD k 0) false=true)
theorem Whole.it {N:List Nat}{n i:Nat}{t:List Bool}(w:Whole N n t)(h:Pm N n)(hi:i<n):∀ a,t.getD (itN N i a) false=t.getD i false
 | 0=>rfl
 | a+1=>by
  rw [<-Whole.it w h hi a]
  have:=w _ (it_lt h hi a)
  have e1:N.getD (itN N i a) 0=itN N i (a+1):=rfl
  rw [e1] at this
  cases x:t.getD (itN N i a) false <;> cases y:t.getD (itN N i (a+1)) false <;> simp_all
theorem Whole.set {N:List Nat}{n i:Nat}{t:List Bool}(w:Whole N n t)(h:Pm N n)(hi:i<n)(ht:t.length=n){m:Nat}(m1:1<=m)(mi:itN N i m=i):Whole N n (setN t N i m):=by
 intro k hk
 rw [setN_at (by omega),setN_at (by rw [ht];exact h.lt k hk),w k hk]
 constructor
 ·rintro (x | ⟨b,hb,x⟩)
  ·exact .inl x
  ·right
   by_cases q:b+1=m
   ·refine ⟨0,by omega,?_⟩
    rw [<-x]
    show i=itN N i (b+1)
    rw [q,mi]
   ·exact ⟨b+1,by omega,by rw [<-x];rfl⟩
 ·rintro (x | ⟨b,hb,x⟩)
  ·exact .inl x
  ·right
   match b,hb,x with
   | 0,hb,x=>
    refine ⟨m-1,by omega,h.inj _ _ (it_lt h hi _) hk ?_⟩
    rw [<-x]
    show itN N i (m-1+1)=i
    rw [show m-1+1=m by omega,mi]
   | b+1,hb,x=>exact ⟨b,by omega,h.inj _ _ (it_lt h hi _) hk x⟩
theorem nexts_pm {A B:List (List Pt)}(sA:Sound A)(sB:Sound B)(op:Int):Pm (nextsM (bordM op (piecesM A B))) (bordM op (piecesM A B)).length:=
 ⟨nexts_lt _,fun k k' hk hk' e=>by
  rw [nexts_at _ k hk,nexts_at _ k' hk'] at e
  exact fol_inj sA sB op hk hk' e⟩
def betM (v z y x:Pt):Bool:=
 if detM v z y<0 then decide (detM v z x<0) && decide (detM v x y<0)
 else if detM v z y=0 then decide (detM v z x<0)
 else !(decide (detM v x y=0) && decide (detM v z x > 0)) && !(decide (detM v z x=0) && decide (detM v x y > 0)) && !(decide (detM v x y > 0) && decide (detM v z x > 0))
def Opp (v z y:Pt):Prop:=(befB v z=true/\befB y v=true)\/(befB z v=true/\befB v y=true)
theorem opp1 {v z y:Pt}(hv:0<v.d)(h1:befB v z=true)(h2:befB y v=true)(h0:detM v z y=0)(x:Pt):(detM v z x<0↔detM v x y<0)/\(detM v z x=0↔detM v x y=0):=by
 have hb:=refl_bef hv h2
 have hd:detM v z (refl v y)=0:=by rw [refl_det,h0];simp
 have ls:=line_sign (f:=v) (l:=z) (v:=v) (z:=refl v y) (x:=x) hv hv (det_first v z) hd h1 hb
 have e:detM v (refl v y) x=v.d*detM v x y:=by rw [d_anti,refl_det];omega
 rw [e] at ls
 have s1:v.d*detM v x y<0↔detM v x y<0:=by
  constructor
  ·intro h
   apply Classical.byContradiction
   intro g
   have:=Int.mul_nonneg (Int.le_of_lt hv) (show 0<=detM v x y by omega)
   omega
  ·intro h
   exact Int.mul_neg_of_pos_of_neg hv h
 have s2:v.d*detM v x y=0↔detM v x y=0:=by
  rw [Int.mul_eq_zero]
  constructor
  ·rintro (h | h)
   ·omega
   ·exact h
  ·exact .inr
 exact ⟨ls.1.trans s1,ls.2.trans s2⟩
theorem opp_sign {v z y:Pt}(hv:0<v.d)(h:Opp v z y)(h0:detM v z y=0)(x:Pt):(detM v z x<0↔detM v x y<0)/\(detM v z x=0↔detM v x y=0):=by
 rcases h with ⟨h1,h2⟩ | ⟨h1,h2⟩
 ·exact opp1 hv h1 h2 h0 x
 ·have a:=d_anti v z y
  have b:=d_anti v z x
  have c:=d_anti v x y
  have:=opp1 hv h2 h1 (by omega) x
  omega
theorem bet_ahead {v z y x:Pt}(hv:0<v.d)(h1:detM v z y=0->Opp v z y)(h2:detM v z x=0->Opp v z x):betM v z y x=aheadM x y (z,v):=by
 have a:=fun h=>opp_sign hv (h1 h) h x
 have b:=fun h=>opp_sign hv (h2 h) h y
 have c:=d_anti v x y
 unfold betM aheadM
 simp only
 generalize detM v z y=k at *
 generalize detM v z x=l at *
 generalize detM v x y=m at *
 generalize detM v y x=m' at *
 rw [Bool.eq_iff_iff]
 by_cases k1:k<0
 ·rw [if_pos k1,decide_eq_true k1]
  by_cases l1:l<0
  ·rw [decide_eq_true l1];simp
  ·rw [decide_eq_false l1];simp
 ·rw [if_neg k1,decide_eq_false k1]
  by_cases k2:k=0
  ·rw [if_pos k2]
   have a:=a k2
   by_cases l1:l<0
   ·rw [decide_eq_true l1];simp
   ·rw [decide_eq_false l1];simp;omega
  ·rw [if_neg k2]
   by_cases l1:l<0
   ·rw [decide_eq_true l1];simp;omega
   ·rw [decide_eq_false l1];simp
    by_cases l2:l=0
    ·have b:=b l2
     omega
    ·omega
section
variable {A B:List (List Pt)}(sA:Sound A)(sB:Sound B)(op:Int)
include sA sB
theorem bord_opp {z v q:Pt}(h:(z,v)∈bordM op (piecesM A B))(h':(v,q)∈bordM op (piecesM A B)):detM v z q=0->Opp v z q:=by
 intro h0
 have n1:=bord_nice sA sB op h
 have n2:=bord_nice sA sB op h'
 have c1:=cyc_points ((ends_iff sA sB op).1 h)
 have c2:=cyc_points ((begins_iff sA sB op).1 h')
 simp only at c1 c2
 rcases c1 with ⟨c1,d1⟩ | ⟨c1,d1⟩ <;> rcases c2 with ⟨c2,d2⟩ | ⟨c2,d2⟩
 ·have m1:=RS_mem.1 c1
  have m2:=RS_mem.1 c2
  exfalso
  cases b1:befB z q
  ·cases b2:befB q z
   ·have e:=canon_eq n1.1.2 n2.2.1.2 b1 b2
    subst e
    rw [<-d1] at d2
    simp at d2
   ·have:=ons_apart (good_both sA sB) m2 m1 b2
    rw [d_anti] at this
    omega
  ·exact ons_apart (good_both sA sB) m1 m2 b1 h0
 ·have m1:=(prs_bef sA sB (RS_mem.1 c1)).1
  have m2:=LS_mem.1 c2
  rw [ro_ro] at m2
  exact .inl ⟨m1,(prs_bef sA sB m2).1⟩
 ·have m1:=LS_mem.1 c1
  rw [ro_ro] at m1
  have m2:=(prs_bef sA sB (RS_mem.1 c2)).1
  exact .inr ⟨(prs_bef sA sB m1).1,m2⟩
 ·have m1:=LS_mem.1 c1
  have m2:=LS_mem.1 c2
  rw [ro_ro] at m1 m2
  exfalso
  cases b1:befB z q
  ·cases b2:befB q z
   ·have e:=canon_eq n1.1.2 n2.2.1.2 b1 b2
    subst e
    rw [<-d1] at d2
    simp at d2
   ·have:=backs_apart sA sB m2 m1 b2
    rw [d_anti] at this
    omega
  ·exact backs_apart sA sB m1 m2 b1 h0
end
def frM (L:List (Pt×Pt))(i j:Nat):Nat->Bool
 | 0=>true
 | k+1=>if k=j\/eqP (edg L k).1 (edg L i).2=false then frM L i j k else frM L i j k && !betM (edg L i).2 (edg L i).1 (edg L j).2 (edg L k).2
theorem fr_iff (L:List (Pt×Pt))(i j:Nat):∀ n,frM L i j n=true↔∀ k,k<n->k≠j->(edg L k).1=(edg L i).2->betM (edg L i).2 (edg L i).1 (edg L j).2 (edg L k).2=false
 | 0=>by unfold frM;simp
 | n+1=>by
  have ih:=fr_iff L i j n
  unfold frM
  split
  ·rename_i c
   rw [ih]
   constructor
   ·intro h k hk hj e
    by_cases q:k=n
    ·subst q
     rcases c with c | c
     ·exact absurd c hj
     ·exact absurd e (eqP_false c)
    ·exact h k (by omega) hj e
   ·intro h k hk
    exact h k (by omega)
  ·rename_i c
   rw [Bool.and_eq_true,ih]
   constructor
   ·rintro ⟨h,g⟩ k hk hj e
    by_cases q:k=n
    ·subst q
     simpa using g
    ·exact h k (by omega) hj e
   ·intro h
    refine ⟨fun k hk=>h k (by omega),?_⟩
    have:=h n (by omega) (fun q=>c (.inl q)) (Classical.byContradiction fun q=>c (.inr (by
     cases w:eqP (edg L n).1 (edg L i).2
     ·rfl
     ·exact absurd (eqP_true w) q)))
    rw [this];rfl
section
variable {A B:List (List Pt)}(sA:Sound A)(sB:Sound B)(op:Int)
include sA sB
theorem ok_iff {i j:Nat}(hi:i<(bordM op (piecesM A B)).length)(hj:j<(bordM op (piecesM A B)).length) :
  ((
   edg (bordM op (piecesM A B)) j).1=(edg (bordM op (piecesM A B)) i).2/\frM (bordM op (piecesM A B)) i j (bordM op (piecesM A B)).length=true)↔j=folM (bordM op (piecesM A B)) i (bordM op (piecesM A B)).length:=by
 obtain ⟨q,x,e⟩:=fol_is sA sB op hi
 have lt:=fol_lt hi (bordM op (piecesM A B)).length (Nat.le_refl _)
 have nd:=bord_nodup sA sB op
 have hm:=edg_mem hi
 have hv:=(bord_nice sA sB op hm).2.1.d
 have bo:∀ k,k<(bordM op (piecesM A B)).length->(edg (bordM op (piecesM A B)) k).1=(edg (bordM op (piecesM A B)) i).2->detM (edg (bordM op (piecesM A B)) i).2 (edg (bordM op (piecesM A B)) i).1 (edg (bordM op (piecesM A B)) k).2=0->Opp (edg (bordM op (piecesM A B)) i).2 (edg (bordM op (piecesM A B)) i).1 (edg (bordM op (piecesM A B)) k).2:=by
  intro k hk ek
  refine bord_opp sA sB op hm ?_
  rw [<-ek]
  exact edg_mem hk
 have mem:∀ k,k<(bordM op (piecesM A B)).length->(edg (bordM op (piecesM A B)) k).1=(edg (bordM op (piecesM A B)) i).2->((edg (bordM op (piecesM A B)) i).2,(edg (bordM op (piecesM A B)) k).2)∈bordM op (piecesM A B):=by
  intro k hk ek
  rw [<-ek]
  exact edg_mem hk
 rw [fr_iff]
 generalize folM (bordM op (piecesM A B)) i (bordM op (piecesM A B)).length=f at *
 have ef1:(edg (bordM op (piecesM A B)) f).1=(edg (bordM op (piecesM A B)) i).2:=by rw [e]
 have ef2:(edg (bordM op (piecesM A B)) f).2=q:=by rw [e]
 have df:∀ k,k<(bordM op (piecesM A B)).length->k≠f->(edg (bordM op (piecesM A B)) k).1=(edg (bordM op (piecesM A B)) i).2->(edg (bordM op (piecesM A B)) k).2≠q:=by
  intro k hk ne ek w
  refine ne (edg_inj nd hk lt ?_)
  exact Prod.ext (ek.trans ef1.symm) (w.trans ef2.symm)
 constructor
 ·rintro ⟨e1,g⟩
  apply Classical.byContradiction
  intro ne
  have b:=g f lt (fun w=>ne w.symm) ef1
  rw [bet_ahead hv (bo j hj e1) (bo f lt ef1),ef2] at b
  rw [x.first _ (mem j hj e1) (df j hj ne e1)] at b
  cases b
 ·rintro rfl
  refine ⟨ef1,fun k hk ne ek=>?_⟩
  rw [bet_ahead hv (bo _ lt ef1) (bo k hk ek),ef2]
  exact ahead_asym (x.first _ (mem k hk ek) (df k hk ne ek))
end
theorem pts_snoc (L:List (Pt×Pt))(N:List Nat)(i:Nat):∀ c a,ptsN L N i a (c+1)=ptsN L N i a c ++ (if turnB (edg L (itN N i (a+c))) (edg L (itN N i (a+c+1)))=true then [(edg L (itN N i (a+c))).2] else [])
 | 0,a=>by simp [ptsN]
 | c+1,a=>by
  have ih:=pts_snoc L N i c (a+1)
  rw [show a+1+c=a+(c+1) by omega] at ih
  rw [ptsN,ih,ptsN,List.append_assoc]
def ltL:List Pt->List Pt->Bool
 | [],m=>decide (0<m.length)
 | _::_,[]=>false
 | p::l,q::m=>if (befB p q || befB q p)=true then befB p q else ltL l m
theorem cmp_lt (p q:Pt):cmpM p q<0↔befB p q=true:=by rw [<-cmpB];simp
theorem cmp_gt (p q:Pt):0<cmpM p q↔befB q p=true:=by rw [<-cmpB'];simp
theorem cl_cc (p q:Pt)(l m:List Pt):clM (p::l) (q::m)=if cmpM p q≠0 then cmpM p q else clM l m:=by rw [clM]
theorem lt_cc (p q:Pt)(l m:List Pt):ltL (p::l) (q::m)=if (befB p q || befB q p)=true then befB p q else ltL l m:=by rw [ltL]
theorem cl_self:∀ l:List Pt,clM l l=0
 | []=>rfl
 | p::l=>by rw [cl_cc,if_neg (by simp [cmp_self]),cl_self l]
theorem lt_cl:∀ l m:List Pt,ltL l m=true↔clM l m<0
 | [],m=>by rw [ltL,clM];simp
 | _::l,[]=>by rw [ltL,clM];simp;omega
 | p::l,q::m=>by
  have ih:=lt_cl l m
  have h1:=cmp_lt p q
  have h2:=cmp_gt p q
  rw [lt_cc,cl_cc]
  cases b1:befB p q
  ·cases b2:befB q p
   ·rw [b1] at h1;rw [b2] at h2
    simp only [Bool.false_eq_true,iff_false] at h1 h2
    rw [if_neg (by simp),if_neg (by omega),ih]
   ·rw [b1] at h1;rw [b2] at h2
    simp only [Bool.false_eq_true,iff_false,iff_true] at h1 h2
    rw [if_pos (by simp),if_pos (by omega)]
    simp;omega
  ·rw [b1] at h1
   simp only [iff_true] at h1
   rw [if_pos (by simp),if_pos (by omega)]
   simp;omega
abbrev NL (l:List Pt):Prop:=∀ p∈l,Nice p
theorem NL.tl {p:Pt}{l:List Pt}(h:NL (p::l)):NL l:=fun x hx=>h x (List.mem_cons_of_mem _ hx)
theorem NL.hd {p:Pt}{l:List Pt}(h:NL (p::l)):Nice p:=h p (by simp)
theorem cl_lt {p q:Pt}{l m:List Pt}(hp:Nice p)(hq:Nice q):clM (p::l) (q::m)<0↔befB p q=true\/(p=q/\clM l m<0):=by
 have h0:=cmp_nice hp hq
 have h1:=cmp_lt p q
 rw [cl_cc]
 by_cases e:p=q
 ·subst e
  have:=bef_irr p
  rw [if_neg (by simp [h0]),this];simp
 ·have n : ¬ cmpM p q=0:=fun w=>e (h0.1 w)
  rw [if_pos n,h1];simp [e]
theorem cl_le {p q:Pt}{l m:List Pt}(hp:Nice p)(hq:Nice q):clM (p::l) (q::m)<=0↔befB p q=true\/(p=q/\clM l m<=0):=by
 have h0:=cmp_nice hp hq
 have h1:=cmp_lt p q
 rw [cl_cc]
 by_cases e:p=q
 ·subst e
  have:=bef_irr p
  rw [if_neg (by simp [h0]),this];simp
 ·have n : ¬ cmpM p q=0:=fun w=>e (h0.1 w)
  rw [if_pos n]
  simp only [e,false_and,or_false]
  rw [<-h1];omega
theorem cl_trans:∀ {a b c:List Pt},NL a->NL b->NL c->clM a b<=0->clM b c<=0->clM a c<=0
 | [],b,c,_,_,_,_,_=>by unfold clM;omega
 | p::l,[],c,_,_,_,h,_=>by unfold clM at h;omega
 | p::l,q::m,[],_,_,_,_,h=>by unfold clM at h;omega
 | p::l,q::m,r::n,ha,hb,hc,h1,h2=>by
  rw [cl_le ha.hd hb.hd] at h1
  rw [cl_le hb.hd hc.hd] at h2
  rw [cl_le ha.hd hc.hd]
  rcases h1 with h1 | ⟨rfl,h1⟩ <;> rcases h2 with h2 | ⟨rfl,h2⟩
  ·exact .inl (bef_le ha.hd.d hb.hd.d hc.hd.d h1 (bef_asym h2))
  ·exact .inl h1
  ·exact .inl h2
  ·exact .inr ⟨rfl,cl_trans ha.tl hb.tl hc.tl h1 h2⟩
theorem cl_tot:∀ {a b:List Pt},NL a->NL b->¬ clM a b<0->clM b a<=0
 | [],[],_,_,_=>by unfold clM;simp
 | [],q::m,_,_,h=>by unfold clM at h;simp at h
 | p::l,[],_,_,_=>by unfold clM;omega
 | p::l,q::m,ha,hb,h=>by
  rw [cl_lt ha.hd hb.hd] at h
  rw [cl_le hb.hd ha.hd]
  cases b2:befB q p
  ·right
   have b1:befB p q=false:=by
    cases b1:befB p q
    ·rfl
    ·exact absurd (.inl b1) h
   have e:=canon_eq ha.hd.2 hb.hd.2 b1 b2
   subst e
   exact ⟨rfl,cl_tot ha.tl hb.tl (fun w=>h (.inr ⟨rfl,w⟩))⟩
  ·exact .inl rfl
theorem cl_eq:∀ {a b:List Pt},NL a->NL b->clM a b<=0->clM b a<=0->a=b
 | [],[],_,_,_,_=>rfl
 | [],q::m,_,_,_,h=>by unfold clM at h;omega
 | p::l,[],_,_,h,_=>by unfold clM at h;omega
 | p::l,q::m,ha,hb,h1,h2=>by
  rw [cl_le ha.hd hb.hd] at h1
  rw [cl_le hb.hd ha.hd] at h2
  rcases h1 with h1 | ⟨rfl,h1⟩ <;> rcases h2 with h2 | ⟨e,h2⟩
  ·rw [bef_asym h1] at h2;cases h2
  ·rw [e,bef_irr] at h1;cases h1
  ·rw [bef_irr] at h2;cases h2
  ·rw [cl_eq ha.tl hb.tl h1 h2]
def rinsL:List (List Pt)->List Pt->List (List Pt)
 | [],w=>[w]
 | x::R,w=>if ltL x w=true then x::rinsL R w else w::x::R
theorem rins_cc (x w:List Pt)(R:List (List Pt)):rinsL (x::R) w=if ltL x w=true then x::rinsL R w else w::x::R:=by rw [rinsL]
theorem place_cons (x w:List Pt)(R:List (List Pt)):∀ k,placeL (x::R) w (k+1)=if placeL R w k=0 then (if clM w x<0 then 0 else 1) else placeL R w k+1
 | 0=>by simp [placeL]
 | k+1=>by
  have ih:=place_cons x w R k
  rw [placeL,ih]
  have e:(x::R).getD (k+1) []=R.getD k []:=by simp
  rw [e]
  conv=>rhs;rw [placeL]
  split
  ·rfl
  ·simp
theorem place_pos {R:List (List Pt)}{w:List Pt}:∀ {k},k<=R.length->placeL R w k≠0->∃ y∈R,¬ clM w y<0
 | 0,_,h=>absurd (by simp [placeL]) h
 | k+1,hk,h=>by
  by_cases c:clM w (R.getD k [])<0
  ·rw [placeL,if_pos c] at h
   exact place_pos (by omega) h
  ·refine ⟨R.getD k [],?_,c⟩
   rw [List.getD_eq_getElem?_getD,List.getElem?_eq_getElem (by omega)]
   exact List.getElem_mem _
theorem insL_cons (x w:List Pt)(R:List (List Pt)):insL (x::R) w=if placeL R w R.length=0/\clM w x<0 then w::x::R else x::insL R w:=by
 unfold insL
 rw [List.length_cons,place_cons]
 by_cases a:placeL R w R.length=0
 ·by_cases b:clM w x<0 <;> simp [a,b]
 ·simp [a]
theorem rins_low {w:List Pt}(hw:NL w):∀ {R:List (List Pt)},(∀ y∈R,NL y/\clM w y<=0)->rinsL R w=w::R
 | [],_=>rfl
 | x::R,h=>by
  rw [rins_cc]
  rw [if_neg]
  rw [lt_cl]
  intro c
  have:=h x (by simp)
  have k:=cl_eq hw this.1 this.2 (by omega)
  subst k
  rw [cl_self] at c;omega
theorem ins_rins {w:List Pt}(hw:NL w):∀ {R:List (List Pt)},(∀ y∈R,NL y)->R.Pairwise (fun x y=>clM x y<=0)->insL R w=rinsL R w
 | [],_,_=>rfl
 | x::R,h,hs=>by
  have hp:=List.pairwise_cons.1 hs
  have ih:=ins_rins hw (fun y hy=>h y (List.mem_cons_of_mem _ hy)) hp.2
  have hx:=h x (by simp)
  rw [insL_cons,ih]
  rw [rins_cc]
  by_cases a:clM w x<0
  ·have p0:placeL R w R.length=0:=by
    apply Classical.byContradiction
    intro n
    obtain ⟨y,hy,c⟩:=place_pos (Nat.le_refl _) n
    have ny:=h y (List.mem_cons_of_mem _ hy)
    have t:=cl_trans hx ny hw (hp.1 y hy) (cl_tot hw ny c)
    have e:=cl_eq hw hx (by omega) t
    subst e
    have:=cl_trans ny hw ny (cl_tot hw ny c) (hp.1 y hy)
    have:=cl_eq hw ny (hp.1 y hy) (cl_tot hw ny c)
    subst this
    omega
   rw [if_pos ⟨p0,a⟩,if_neg]
   rw [lt_cl]
   intro c
   have e:=cl_eq hw hx (by omega) (by omega)
   subst e
   rw [cl_self] at c;omega
  ·rw [if_neg (fun k=>a k.2)]
   split
   ·rfl
   ·rename_i b
    rw [lt_cl] at b
    have e:=cl_eq hw hx (cl_tot hx hw b) (cl_tot hw hx a)
    subst e
    rw [rins_low hw (fun y hy=>⟨h y (List.mem_cons_of_mem _ hy),hp.1 y hy⟩)]
theorem rinsL_mem {w y:List Pt}:∀ {R:List (List Pt)},y∈rinsL R w↔y=w\/y∈R
 | []=>by simp [rinsL]
 | x::R=>by
  have ih:=rinsL_mem (w:=w) (y:=y) (R:=R)
  rw [rins_cc]
  split
  ·rw [List.mem_cons,ih,List.mem_cons]
   constructor
   ·rintro (h | h | h) <;> simp [h]
   ·rintro (h | h | h) <;> simp [h]
  ·simp
theorem rinsL_sorted {w:List Pt}(hw:NL w):∀ {R:List (List Pt)},(∀ y∈R,NL y)->R.Pairwise (fun x y=>clM x y<=0)->(rinsL R w).Pairwise (fun x y=>clM x y<=0)
 | [],_,_=>by simp [rinsL]
 | x::R,h,hs=>by
  have hp:=List.pairwise_cons.1 hs
  have hx:=h x (by simp)
  have ih:=rinsL_sorted hw (fun y hy=>h y (List.mem_cons_of_mem _ hy)) hp.2
  rw [rins_cc]
  split
  ·rename_i c
   rw [lt_cl] at c
   refine List.pairwise_cons.2 ⟨fun y hy=>?_,ih⟩
   rcases rinsL_mem.1 hy with e | e
   ·rw [e];omega
   ·exact hp.1 y e
  ·rename_i c
   rw [lt_cl] at c
   have wx:=cl_tot hx hw c
   refine List.pairwise_cons.2 ⟨fun y hy=>?_,hs⟩
   rcases List.mem_cons.1 hy with e | e
   ·rw [e];exact wx
   ·exact cl_trans hw hx (h y (List.mem_cons_of_mem _ e)) wx (hp.1 y e)
theorem pts_nil (L:List (Pt×Pt))(N:List Nat)(i:Nat):∀ c a,ptsN L N i a c=[]->∀ b,a<=b->b<a+c->turnB (edg L (itN N i b)) (edg L (itN N i (b+1)))=false
 | 0,a,_,b,h1,h2=>absurd h2 (by omega)
 | c+1,a,h,b,h1,h2=>by
  rw [ptsN] at h
  have h3:=List.append_eq_nil_iff.1 h
  by_cases e:b=a
  ·subst e
   cases w:turnB (edg L (itN N i b)) (edg L (itN N i (b+1)))
   ·rfl
   ·rw [w] at h3;simp at h3
  ·exact pts_nil L N i c (a+1) h3.2 b (by omega) (by omega)
theorem pts_from (L:List (Pt×Pt))(N:List Nat)(i:Nat):∀ c a p,p∈ptsN L N i a c->∃ b,p=(edg L (itN N i b)).2
 | 0,a,p,h=>by rw [ptsN] at h;simp at h
 | c+1,a,p,h=>by
  rw [ptsN] at h
  rcases List.mem_append.1 h with h | h
  ·split at h
   ·exact ⟨a,List.mem_singleton.1 h⟩
   ·simp at h
  ·exact pts_from L N i c (a+1) p h
theorem rotL_from {r:List Pt}{i:Nat}{p:Pt}(h:p∈rotL r i):p∈r:=by
 unfold rotL at h
 rcases List.mem_append.1 h with h | h
 ·exact List.mem_of_mem_drop h
 ·exact List.mem_of_mem_take h
theorem leastL_from {r:List Pt}{p:Pt}:∀ k,p∈leastL r k->p∈r
 | 0,h=>by rw [leastL] at h;simp at h
 | k+1,h=>by
  rw [leastL] at h
  split at h
  ·exact rotL_from h
  ·exact leastL_from k h
def rstepR (L:List (Pt×Pt))(N:List Nat)(st:List (List Pt)×List Bool)(i:Nat):List (List Pt)×List Bool:=
 if st.2.getD i false=true then st else (rinsL st.1 (leastL (walkM L N (L.length+1) st.2 i).1 (walkM L N (L.length+1) st.2 i).1.length),(walkM L N (L.length+1) st.2 i).2)
def rringsN (L:List (Pt×Pt)):Nat->List (List Pt)×List Bool
 | 0=>([],List.replicate L.length false)
 | i+1=>rstepR L (nextsM L) (rringsN L i) i
section
variable {A B:List (List Pt)}(sA:Sound A)(sB:Sound B)(op:Int)
include sA sB
theorem it_chain {i:Nat}(hi:i<(bordM op (piecesM A B)).length)(a:Nat):(edg (bordM op (piecesM A B)) (itN (nextsM (bordM op (piecesM A B))) i (a+1))).1=(edg (bordM op (piecesM A B)) (itN (nextsM (bordM op (piecesM A B))) i a)).2:=by
 have l:=it_lt (nexts_pm sA sB op) hi a
 obtain ⟨j,_,e⟩:=fol_is sA sB op l
 rw [itN,nexts_at _ _ l,e]
theorem ring_turns {i m:Nat}(hi:i<(bordM op (piecesM A B)).length)(m1:1<=m)(mi:itN (nextsM (bordM op (piecesM A B))) i m=i):ptsN (bordM op (piecesM A B)) (nextsM (bordM op (piecesM A B))) i 0 m≠[]:=by
 intro h
 have no:=pts_nil _ _ _ m 0 h
 have lt:=it_lt (nexts_pm sA sB op) hi
 have ch:=it_chain sA sB op hi
 have op1:∀ b,b<m->Opp (edg (bordM op (piecesM A B)) (itN (nextsM (bordM op (piecesM A B))) i b)).2 (edg (bordM op (piecesM A B)) (itN (nextsM (bordM op (piecesM A B))) i b)).1 (edg (bordM op (piecesM A B)) (itN (nextsM (bordM op (piecesM A B))) i (b+1))).2:=by
  intro b hb
  have t:=no b (by omega) (by omega)
  refine bord_opp sA sB op (edg_mem (lt b)) ?_ ?_
  ·rw [<-ch b]
   exact edg_mem (lt (b+1))
  ·unfold turnB at t
   have t:detM (edg (bordM op (piecesM A B)) (itN (nextsM (bordM op (piecesM A B))) i b)).1 (edg (bordM op (piecesM A B)) (itN (nextsM (bordM op (piecesM A B))) i b)).2 (edg (bordM op (piecesM A B)) (itN (nextsM (bordM op (piecesM A B))) i (b+1))).2=0:=by
    simpa using t
   have sw:∀ a b c:Pt,detM b a c = -detM a b c:=by intro a b c;unfold detM;grind
   rw [sw,t];rfl
 have nice:=fun b=>bord_nice sA sB op (edg_mem (lt b))
 generalize hs:(fun b=>(edg (bordM op (piecesM A B)) (itN (nextsM (bordM op (piecesM A B))) i b)).1)=s
 have s0:∀ b,(edg (bordM op (piecesM A B)) (itN (nextsM (bordM op (piecesM A B))) i b)).1=s b:=fun b=>congrFun hs b
 have s1:∀ b,(edg (bordM op (piecesM A B)) (itN (nextsM (bordM op (piecesM A B))) i b)).2=s (b+1):=fun b=>by rw [<-ch b,s0]
 have hd:∀ b,0<(s b).d:=fun b=>by rw [<-s0];exact (nice b).1.d
 have oc:∀ b,b<m->Opp (s (b+1)) (s b) (s (b+2)):=fun b hb=>by
  have:=op1 b hb
  rw [s1 b,s0 b,s1 (b+1)] at this
  exact this
 have sm:s m=s 0:=by
  rw [<-s0 m,<-s0 0,mi];rfl
 have ne0:s 0≠s 1:=by
  have:=(nice 0).2.2
  rw [s0,s1] at this
  exact this
 have up:∀ b,b<m->(befB (s b) (s (b+1))=true↔befB (s (b+1)) (s (b+2))=true)/\(befB (s b) (s (b+1))=true\/befB (s (b+1)) (s b)=true):=by
  intro b hb
  rcases oc b hb with ⟨x,y⟩ | ⟨x,y⟩
  ·refine ⟨?_,.inr x⟩
   rw [bef_asym x,bef_asym y]
  ·refine ⟨?_,.inl x⟩
   rw [x,y]
 rcases (up 0 (by omega)).2 with k | k
 ·have g:∀ b,b<m->befB (s b) (s (b+1))=true/\befB (s 0) (s (b+1))=true:=by
   intro b
   induction b with
   | zero=>intro _;exact ⟨k,k⟩
   | succ b ih=>
    intro hb
    obtain ⟨i1,i2⟩:=ih (by omega)
    have j1:=(up b (by omega)).1.1 i1
    exact ⟨j1,bef_lt (hd (b+1)) (hd (b+2)) (hd 0) j1 i2⟩
  have:=(g (m-1) (by omega)).2
  rw [show m-1+1=m by omega,sm,bef_irr] at this
  cases this
 ·have g:∀ b,b<m->befB (s (b+1)) (s b)=true/\befB (s (b+1)) (s 0)=true:=by
   intro b
   induction b with
   | zero=>intro _;exact ⟨k,k⟩
   | succ b ih=>
    intro hb
    obtain ⟨i1,i2⟩:=ih (by omega)
    have j1:befB (s (b+2)) (s (b+1))=true:=by
     rcases (up (b+1) hb).2 with w | w
     ·have:=(up b (by omega)).1.2 w
      rw [bef_asym i1] at this;cases this
     ·exact w
    exact ⟨j1,bef_lt (hd (b+1)) (hd 0) (hd (b+2)) i2 j1⟩
  have:=(g (m-1) (by omega)).2
  rw [show m-1+1=m by omega,sm,bef_irr] at this
  cases this
theorem rings_eq:∀ i,i<=(bordM op (piecesM A B)).length->ringsN (bordM op (piecesM A B)) i=rringsN (bordM op (piecesM A B)) i/\
  (rringsN (bordM op (piecesM A B)) i).2.length=(bordM op (piecesM A B)).length/\Whole (nextsM (bordM op (piecesM A B))) (bordM op (piecesM A B)).length (rringsN (bordM op (piecesM A B)) i).2/\
  (∀ y∈(rringsN (bordM op (piecesM A B)) i).1,NL y)/\(rringsN (bordM op (piecesM A B)) i).1.Pairwise (fun x y=>clM x y<=0)
 | 0,_=>by
  refine ⟨rfl,by simp [rringsN],?_,by simp [rringsN],by simp [rringsN]⟩
  intro k hk
  have r:∀ k,(List.replicate (bordM op (piecesM A B)).length false).getD k false=false:=by
   intro k
   rw [List.getD_eq_getElem?_getD,List.getElem?_replicate]
   split <;> rfl
  rw [rringsN,r,r]
 | i+1,hi=>by
  obtain ⟨e,hl,hw,hn,hs⟩:=rings_eq i (by omega)
  have pm:=nexts_pm sA sB op
  rw [ringsN,rringsN,e]
  generalize rringsN (bordM op (piecesM A B)) i=st at *
  obtain ⟨R,t⟩:=st
  simp only at *
  unfold stepR rstepR
  simp only
  by_cases c:t.getD i false=true
  ·rw [if_pos c]
   have:walkM (bordM op (piecesM A B)) (nextsM (bordM op (piecesM A B))) ((bordM op (piecesM A B)).length+1) t i=([],t):=by
    rw [walkM,if_pos c]
   rw [this]
   exact ⟨by simp,hl,hw,hn,hs⟩
  ·rw [if_neg c]
   have c':t.getD i false=false:=by
    cases w:t.getD i false
    ·rfl
    ·exact absurd w c
   obtain ⟨m,m1,mn,mi,ml,ew⟩:=walk_round (bordM op (piecesM A B)) pm (show i<_ by omega) hl (fun a=>by rw [hw.it pm (by omega) a,c'])
   rw [ew]
   have ne:=ring_turns sA sB op (show i<_ by omega) m1 mi
   have nl:NL (leastL (ptsN (bordM op (piecesM A B)) (nextsM (bordM op (piecesM A B))) i 0 m) (ptsN (bordM op (piecesM A B)) (nextsM (bordM op (piecesM A B))) i 0 m).length):=by
    intro p hp
    obtain ⟨b,eb⟩:=pts_from _ _ _ m 0 p (leastL_from _ hp)
    rw [eb]
    exact (bord_nice sA sB op (edg_mem (it_lt pm (by omega) b))).2.1
   simp only
   rw [if_pos (List.length_pos_iff.2 ne),ins_rins nl hn hs]
   refine ⟨rfl,by rw [setN_len];exact hl,hw.set pm (by omega) hl m1 mi,?_,rinsL_sorted nl hn hs⟩
   intro y hy
   rcases rinsL_mem.1 hy with w | w
   ·rw [w];exact nl
   ·exact hn y w
end
end Go.Proofs.YtnkcbephceollabGreat
