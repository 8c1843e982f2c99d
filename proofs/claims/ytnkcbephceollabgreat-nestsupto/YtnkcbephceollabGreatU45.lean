import Derived.Test.YtnkcbephceollabGreatU44
namespace Go.Proofs.YtnkcbephceollabGreat
set_option linter.unusedSimpArgs false
set_option linter.unusedVariables false
theorem same_on {u v a b:Pt}(hu:0<u.d)(hv:0<v.d)(ha:0<a.d)(hb:0<b.d)(h1:befB u v=false)(h2:befB v u=false):onB u a b=onB v a b:=by
 have hx:xv u v=0/\yv u v=0:=by
  rw [bef_x] at h1
  rw [bef_x'] at h2
  omega
 have e:u.d*detM a b v=v.d*detM a b u+xv u v*(-yv a b)+yv u v*xv a b:=by unfold xv yv detM;grind
 rw [hx.1,hx.2] at e
 simp only [Int.zero_mul,Int.add_zero] at e
 have z:detM a b u=0↔detM a b v=0:=by
  constructor
  ·intro k;rw [k,Int.mul_zero] at e;exact (sgn_sc hu).2.2.1 e
  ·intro k;rw [k,Int.mul_zero] at e;exact (sgn_sc hv).2.2.1 e.symm
 have dl:0<(loM a b).d:=by unfold loM;split <;> assumption
 have dh:0<(hiM a b).d:=by unfold hiM;split <;> assumption
 unfold onB withB
 rw [bef_same_l hu hv dl h1 h2,bef_same_r hu hv dh h1 h2]
 simp only [z]
theorem on_sub {p z q a b:Pt}(hp:0<p.d)(hz:0<z.d)(hq:0<q.d)(ha:0<a.d)(hb:0<b.d)(ne:befB a b=true\/befB b a=true)(h1:onB p a b=true)(h2:onB z a b=true)(hpz:befB p z=true)(h:onB q p z=true):onB q a b=true:=by
 obtain ⟨l,w⟩:=on_parts h
 unfold withB at w
 rw [(lo_hi hpz).1,(lo_hi hpz).2.1] at w
 simp only [Bool.and_eq_true,Bool.not_eq_true'] at w
 cases k1:befB p q
 ·rw [same_on hq hp ha hb w.1 k1];exact h1
 ·cases k2:befB q z
  ·rw [same_on hq hz ha hb k2 w.2];exact h2
  ·exact on_between hp hz ha hb hq ne h1 h2 k1 k2 l
section
variable {A B:List (List Pt)}(sA:Sound A)(sB:Sound B)
include sA sB
theorem prs_edge {x:Pt×Pt}(hx:x∈prs A B):∃ e∈edgesM A ++ edgesM B,onB x.1 e.1 e.2=true/\onB x.2 e.1 e.2=true/\0<e.1.d/\0<e.2.d/\(befB e.1 e.2=true\/befB e.2 e.1=true):=by
 have hG:=good_both sA sB
 have hS:=(spots_spec hG).1
 obtain ⟨e,he,a⟩:=((pairs_spec _ hS).2 x).1 hx
 obtain ⟨m1,m2,f1,f2⟩:=AL_mem a
 have g:=hG.gr e he
 have d1:0<e.1.d:=by have:=g.1.d;omega
 have d2:0<e.2.d:=by have:=g.2.d;omega
 exact ⟨e,he,by rw [<-has_on d1 d2 (hS.nc _ m1).d];exact f1,by rw [<-has_on d1 d2 (hS.nc _ m2).d];exact f2,d1,d2,bef_or g.1.d g.2.d (hG.ne e he)⟩
theorem prs_none {x:Pt×Pt}(hx:x∈prs A B){y:Pt}(hy:y∈spotsM (edgesM A ++ edgesM B))(b1:befB x.1 y=true)(b2:befB y x.2=true):detM x.1 x.2 y≠0:=by
 have:=no_between (good_both sA sB) hy b1 (z2:=x.2) hx b2
 intro k
 apply this
 have e:detM x.1 y x.2 = -detM x.1 x.2 y:=by unfold detM;grind
 omega
theorem prs_spots {x:Pt×Pt}(hx:x∈prs A B):x.1∈spotsM (edgesM A ++ edgesM B)/\x.2∈spotsM (edgesM A ++ edgesM B):=by
 have hS:=(spots_spec (good_both sA sB)).1
 obtain ⟨e,he,a⟩:=((pairs_spec _ hS).2 x).1 hx
 obtain ⟨m1,m2,_,_⟩:=AL_mem a
 exact ⟨m1,m2⟩
theorem prs_uniq {x y:Pt×Pt}(hx:x∈prs A B)(hy:y∈prs A B){m:Pt}(w:Wi x.1 x.2 m)(on:onB m y.1 y.2=true):y=x:=by
 have hG:=good_both sA sB
 have hS:=(spots_spec hG).1
 obtain ⟨s1,s2⟩:=prs_spots sA sB hx
 obtain ⟨t1,t2⟩:=prs_spots sA sB hy
 obtain ⟨by_,yd1,yd2⟩:=prs_bef sA sB hy
 obtain ⟨e,he,o1,o2,d1,d2,ne⟩:=prs_edge sA sB hy
 obtain ⟨l,wi⟩:=on_parts on
 unfold withB at wi
 rw [(lo_hi by_).1,(lo_hi by_).2.1] at wi
 simp only [Bool.and_eq_true,Bool.not_eq_true'] at wi
 have no:∀ s∈spotsM (edgesM A ++ edgesM B),befB s m=false->befB m s=false->False:=fun s hs k1 k2=>by
  have sd:=(hS.nc s hs).d
  refine prs_none sA sB hx hs (bef_le w.pd w.d sd w.b1 k1) (le_bef sd w.d w.zd k2 w.b2) ?_
  have hxy:xv m s=0/\yv m s=0:=by
   rw [bef_x] at k2
   rw [bef_x'] at k1
   omega
  have e:m.d*detM x.1 x.2 s=s.d*detM x.1 x.2 m+xv m s*(-yv x.1 x.2)+yv m s*xv x.1 x.2:=by unfold xv yv detM;grind
  rw [hxy.1,hxy.2,w.l] at e
  simp only [Int.zero_mul,Int.mul_zero,Int.add_zero] at e
  exact (sgn_sc w.d).2.2.1 e
 have b1:befB y.1 m=true:=by
  cases k:befB y.1 m
  ·exact (no _ t1 k wi.1).elim
  ·rfl
 have b2:befB m y.2=true:=by
  cases k:befB m y.2
  ·exact (no _ t2 wi.2 k).elim
  ·rfl
 have wy:Wi y.1 y.2 m:=⟨yd1,yd2,w.d,b1,b2,l⟩
 have om:onB m e.1 e.2=true:=on_between yd1 yd2 d1 d2 w.d ne o1 o2 b1 b2 l
 obtain ⟨_,_,hpt,hed⟩:=piece_clear hG hx
 obtain ⟨e',he',ee'⟩:=hG.sec e he
 have al:=on_x w d1 d2 ne (hpt e he) (by rw [<-ee'];exact hpt e' he') (hed e he)
 rw [om] at al
 unfold alongE at al
 simp only [Bool.and_eq_true,decide_eq_true_eq] at al
 obtain ⟨_,x1,x2⟩:=al
 have lx:=fun u=>(line_apart d1 d2 w.pd ne w.bef x1 x2 u u).2
 have ly:=fun u=>(line_apart d1 d2 yd1 ne by_ (on_parts o1).1 (on_parts o2).1 u u).2
 have nx1:=hS.nc _ s1
 have nx2:=hS.nc _ s2
 have ny1:=hS.nc _ t1
 have ny2:=hS.nc _ t2
 refine Prod.ext ?_ ?_
 ·refine canon_eq ny1.2 nx1.2 ?_ ?_
  ·cases k:befB y.1 x.1
   ·rfl
   ·exact absurd ((ly _).2 x1) (prs_none sA sB hy s1 k (bef_lt w.d yd2 w.pd b2 w.b1))
  ·cases k:befB x.1 y.1
   ·rfl
   ·exact absurd ((lx _).2 (on_parts o1).1) (prs_none sA sB hx t1 k (bef_lt w.d w.zd yd1 w.b2 b1))
 ·refine canon_eq ny2.2 nx2.2 ?_ ?_
  ·cases k:befB y.2 x.2
   ·rfl
   ·exact absurd ((lx _).2 (on_parts o2).1) (prs_none sA sB hx t2 (bef_lt w.d yd2 w.pd b2 w.b1) k)
  ·cases k:befB x.2 y.2
   ·rfl
   ·exact absurd ((ly _).2 x2) (prs_none sA sB hy s2 (bef_lt w.d w.zd yd1 w.b2 b1) k)
theorem qs_of:Qs (spotsM (edgesM A ++ edgesM B)) (prs A B):=by
 have hG:=good_both sA sB
 have hS:=(spots_spec hG).1
 exact ⟨List.Pairwise.imp (fun {a b} (h:PR a b)=>(fun (e:a=b)=>PR_irr b (e ▸ h):a≠b)) (prs_pairwise sA sB),fun s hs=>(hS.nc s hs).d,fun x hx=>prs_spots sA sB hx,fun x hx=>(prs_bef sA sB hx).1,fun x hx y hy m w on=>prs_uniq sA sB hx hy w on⟩
end
theorem parB_perm {f:Pt->Pt->Bool}{l m:List (Pt×Pt)}(h:l.Perm m):parB f l=parB f m:=by
 induction h with
 | nil=>rfl
 | cons x _ ih=>show (f x.1 x.2 ^^ _)=(f x.1 x.2 ^^ _);rw [ih]
 | swap x y l=>
  show (f y.1 y.2 ^^ (f x.1 x.2 ^^ parB f l))=(f x.1 x.2 ^^ (f y.1 y.2 ^^ parB f l))
  cases f x.1 x.2 <;> cases f y.1 y.2 <;> cases parB f l <;> rfl
 | trans _ _ ih1 ih2=>exact ih1.trans ih2
theorem perm_nd {γ:Type}[DecidableEq γ]:∀ {l m:List γ},l.Nodup->m.Nodup->(∀ x,x∈l↔x∈m)->l.Perm m
 | [],m,_,_,h=>by
  cases m with
  | nil=>exact List.Perm.refl _
  | cons a m=>exact absurd ((h a).2 List.mem_cons_self) List.not_mem_nil
 | a::l,m,hl,hm,h=>by
  obtain ⟨n1,n2⟩:=List.nodup_cons.1 hl
  have ha:a∈m:=(h a).1 List.mem_cons_self
  have p:=perm_nd n2 (hm.erase a) (fun x=>by
   rw [hm.mem_erase_iff]
   constructor
   ·intro k
    exact ⟨fun e=>n1 (e ▸ k),(h x).1 (List.mem_cons_of_mem _ k)⟩
   ·rintro ⟨k1,k2⟩
    rcases List.mem_cons.1 ((h x).2 k2) with e | e
    ·exact absurd e k1
    ·exact e)
  exact (p.cons a).trans (List.perm_cons_erase ha).symm
end Go.Proofs.YtnkcbephceollabGreat
namespace Go.Proofs.YtnkcbephceollabGreat
set_option linter.unusedSimpArgs false
set_option linter.unusedVariables false
set_option linter.unusedSectionVars false
def wayR (L:List (Pt×Pt))(z:Nat×Nat):List Pt:=(List.range z.2).map (wayS L z.1)
def idxR (L:List (Pt×Pt))(z:Nat×Nat):List Nat:=(List.range z.2).map (itN (nextsM L) z.1)
theorem wayR_len (L:List (Pt×Pt))(z:Nat×Nat):(wayR L z).length=z.2:=by unfold wayR;simp
theorem wayR_at (L:List (Pt×Pt))(z:Nat×Nat){j:Nat}(h:j<z.2):(wayR L z).getD j zP=wayS L z.1 j:=by
 unfold wayR
 rw [List.getD_eq_getElem?_getD,List.getElem?_map,List.getElem?_range h];rfl
section
variable {A B:List (List Pt)}(sA:Sound A)(sB:Sound B)(op:Int)
include sA sB
theorem rounds2:∀ k,k<=(bordM op (piecesM A B)).length->∃ I:List (Nat×Nat),(rringsN (bordM op (piecesM A B)) k).1.Perm (I.map (ringAtL (bordM op (piecesM A B))))/\I.Pairwise (Sep (bordM op (piecesM A B)))/\(∀ z∈I,Rd (bordM op (piecesM A B)) z)/\(∀ z∈I,∀ a,(rringsN (bordM op (piecesM A B)) k).2.getD (itN (nextsM (bordM op (piecesM A B))) z.1 a) false=true)/\
  (∀ j,j<(bordM op (piecesM A B)).length->(rringsN (bordM op (piecesM A B)) k).2.getD j false=true->∃ z∈I,∃ a,itN (nextsM (bordM op (piecesM A B))) z.1 a=j)/\∀ j,j<k->(rringsN (bordM op (piecesM A B)) k).2.getD j false=true
 | 0,_=>by
  refine ⟨[],by simp [rringsN],List.Pairwise.nil,fun z hz=>(by cases hz),fun z hz=>(by cases hz),fun j hj h=>?_,fun j hj=>by omega⟩
  have r:(List.replicate (bordM op (piecesM A B)).length false).getD j false=false:=by
   rw [List.getD_eq_getElem?_getD,List.getElem?_replicate]
   split <;> rfl
  have h':(List.replicate (bordM op (piecesM A B)).length false).getD j false=true:=h
  rw [r] at h';cases h'
 | k+1,hk=>by
  obtain ⟨I,h1,h2,h3,h4,h5,h6⟩:=rounds2 k (by omega)
  obtain ⟨_,tl,wh,_,_⟩:=rings_eq sA sB op k (by omega)
  have pm:=nexts_pm sA sB op
  have hkl:k<(bordM op (piecesM A B)).length:=by omega
  rw [rringsN]
  unfold rstepR
  cases seen:(rringsN (bordM op (piecesM A B)) k).2.getD k false
  ·rw [if_neg (by decide)]
   obtain ⟨m,m1,mn,mi,ml,ew⟩:=walk_round (bordM op (piecesM A B)) pm hkl tl (fun a=>(wh.it pm hkl a).trans seen)
   rw [ew]
   dsimp only
   refine ⟨(k,m)::I,?_,?_,?_,?_,?_,?_⟩
   ·exact (rins_perm _ _).trans (h1.cons _)
   ·refine List.pairwise_cons.2 ⟨fun y hy a b e=>?_,h2⟩
    have s1:=h4 y hy b
    rw [<-e,wh.it pm hkl a,seen] at s1
    cases s1
   ·intro z hz
    rcases List.mem_cons.1 hz with rfl | hz
    ·exact ⟨hkl,m1,mi,ml⟩
    ·exact h3 z hz
   ·intro z hz a
    rcases List.mem_cons.1 hz with rfl | hz
    ·have lt:=it_lt pm hkl a
     rw [setN_at (by rw [tl];exact lt)]
     right
     refine ⟨a % m,Nat.mod_lt _ (by omega),?_⟩
     have red:∀ q c,itN (nextsM (bordM op (piecesM A B))) k (c+q*m)=itN (nextsM (bordM op (piecesM A B))) k c:=by
      intro q
      induction q with
      | zero=>intro c;rw [Nat.zero_mul,Nat.add_zero]
      | succ q ih=>intro c;rw [Nat.succ_mul,<-Nat.add_assoc,it_per mi,ih]
     have:=red (a / m) (a % m)
     rw [Nat.mul_comm,Nat.mod_add_div] at this
     exact this.symm
    ·have lt:=it_lt pm (h3 z hz).lt a
     rw [setN_at (by rw [tl];exact lt)]
     exact .inl (h4 z hz a)
   ·intro j hj h
    rw [setN_at (by rw [tl];exact hj)] at h
    rcases h with h | ⟨b,_,h⟩
    ·obtain ⟨z,hz,a,e⟩:=h5 j hj h
     exact ⟨z,List.mem_cons_of_mem _ hz,a,e⟩
    ·exact ⟨(k,m),List.mem_cons_self,b,h⟩
   ·intro j hj
    rw [setN_at (by rw [tl];omega)]
    rcases Nat.lt_or_ge j k with q | q
    ·exact .inl (h6 j q)
    · exact .inr ⟨0,by omega,by
                   have:j=k:=by omega
                   rw [this];rfl⟩
  ·rw [if_pos rfl]
   refine ⟨I,h1,h2,h3,h4,h5,fun j hj=>?_⟩
   rcases Nat.lt_or_ge j k with q | q
   ·exact h6 j q
   ·have:j=k:=by omega
    rw [this];exact seen
theorem it_mod {z:Nat×Nat}(hz:Rd (bordM op (piecesM A B)) z)(a:Nat):itN (nextsM (bordM op (piecesM A B))) z.1 (a % z.2)=itN (nextsM (bordM op (piecesM A B))) z.1 a:=by
 have red:∀ q c,itN (nextsM (bordM op (piecesM A B))) z.1 (c+q*z.2)=itN (nextsM (bordM op (piecesM A B))) z.1 c:=by
  intro q
  induction q with
  | zero=>intro c;rw [Nat.zero_mul,Nat.add_zero]
  | succ q ih=>intro c;rw [Nat.succ_mul,<-Nat.add_assoc,it_per hz.per,ih]
 have:=red (a / z.2) (a % z.2)
 rw [Nat.mul_comm,Nat.mod_add_div] at this
 exact this.symm
theorem rounds_whole:∃ I:List (Nat×Nat),(ringsM (bordM op (piecesM A B))).Perm (I.map (ringAtL (bordM op (piecesM A B))))/\I.Pairwise (Sep (bordM op (piecesM A B)))/\(∀ z∈I,Rd (bordM op (piecesM A B)) z)/\(I.flatMap (idxR (bordM op (piecesM A B)))).Perm (List.range (bordM op (piecesM A B)).length):=by
 obtain ⟨I,h1,h2,h3,h4,h5,h6⟩:=rounds2 sA sB op _ (Nat.le_refl _)
 have pm:=nexts_pm sA sB op
 refine ⟨I,?_,h2,h3,?_⟩
 ·unfold ringsM
  rw [(rings_eq sA sB op _ (Nat.le_refl _)).1]
  exact h1
 ·refine perm_nd ?_ List.nodup_range fun j=>?_
  ·show List.Pairwise _ _
   rw [List.pairwise_flatMap]
   constructor
   ·intro z hz
    unfold idxR
    rw [List.pairwise_map]
    refine List.Pairwise.imp_of_mem ?_ List.pairwise_lt_range
    intro a b ma mb lt e
    have lb:=List.mem_range.1 mb
    exact (h3 z hz).min (b-a) (by omega) (by omega) (it_down pm (h3 z hz).lt a b (by omega) e)
   ·refine h2.imp fun {z y} se i hi j hj e=>?_
    unfold idxR at hi hj
    obtain ⟨a,_,rfl⟩:=List.mem_map.1 hi
    obtain ⟨b,_,rfl⟩:=List.mem_map.1 hj
    exact se a b e
  ·rw [List.mem_flatMap,List.mem_range]
   constructor
   ·rintro ⟨z,hz,h⟩
    unfold idxR at h
    obtain ⟨a,_,rfl⟩:=List.mem_map.1 h
    exact it_lt pm (h3 z hz).lt a
   ·intro hj
    obtain ⟨z,hz,a,e⟩:=h5 j hj (h6 j hj)
    refine ⟨z,hz,?_⟩
    unfold idxR
    exact List.mem_map.2 ⟨a % z.2,List.mem_range.2 (Nat.mod_lt _ (by have:=(h3 z hz).one;omega)),by rw [it_mod sA sB op (h3 z hz),e]⟩
theorem way_edges {z:Nat×Nat}(hz:Rd (bordM op (piecesM A B)) z):ringEdges (wayR (bordM op (piecesM A B)) z)=(idxR (bordM op (piecesM A B)) z).map (edg (bordM op (piecesM A B))):=by
 unfold idxR
 rw [List.map_map]
 unfold ringEdges
 rw [wayR_len]
 refine List.map_congr_left fun j hj=>?_
 have hj:=List.mem_range.1 hj
 unfold edgeAt
 rw [wayR_len,wayR_at _ _ hj]
 refine Prod.ext rfl ?_
 show _=(edg (bordM op (piecesM A B)) (itN (nextsM (bordM op (piecesM A B))) z.1 j)).2
 rw [way_end sA sB op hz.lt j]
 by_cases e:j+1=z.2
 ·rw [if_pos e,wayR_at _ _ (by have:=hz.one;omega),e]
  have:=way_per hz.per 0
  rw [Nat.zero_add] at this
  exact this.symm
 ·rw [if_neg e,wayR_at _ _ (by omega)]
end
def sumX (h:Nat->Bool)(a:Nat):Nat->Bool
 | 0=>false
 | n+1=>sumX h a n ^^ h (a+n)
theorem sumX_app (h:Nat->Bool)(a n:Nat):∀ m,sumX h a (n+m)=(sumX h a n ^^ sumX h (a+n) m)
 | 0=>by simp [sumX]
 | m+1=>by
  rw [<-Nat.add_assoc,sumX,sumX_app h a n m,sumX,Nat.add_assoc,Bool.xor_assoc]
theorem sumX_shift {h:Nat->Bool}{m:Nat}(per:∀ c,h (c+m)=h c)(a:Nat):sumX h a m=sumX h 0 m:=by
 induction a with
 | zero=>rfl
 | succ a ih=>
  rw [<-ih]
  have e1:=sumX_app h a 1 m
  have e2:=sumX_app h a m 1
  rw [Nat.add_comm 1 m] at e1
  rw [e1] at e2
  simp only [sumX,Nat.add_zero,Bool.false_xor,per] at e2
  revert e2
  cases h a <;> cases sumX h (a+1) m <;> cases sumX h a m <;> simp
theorem sumX_par (f:Pt->Pt->Bool)(e:Nat->Pt×Pt)(a:Nat):∀ n,parB f ((List.range' a n).map e)=sumX (fun c=>f (e c).1 (e c).2) a n
 | 0=>rfl
 | n+1=>by
  rw [List.range'_concat,List.map_append,parB_app,sumX_par f e a n,sumX]
  congr 1
  show (f (e (a+1*n)).1 (e (a+1*n)).2 ^^ false)=_
  rw [Nat.one_mul,Bool.xor_false]
theorem turn_sum {s:Nat->Pt}{m:Nat}(per:∀ b,s (b+m)=s b){G:Pt->Pt->Bool}{h:Nat->Bool}(hp:∀ c,h (c+m)=h c)
  (run:∀ a b,a<=b->Run s a b->G (s a) (s (b+1))=sumX h a (b+1-a)) (ne:posN s m≠[]):parB G (ringEdges (turnP s m))=sumX h 0 m:=by
 have so:=pos_sorted s m
 have kp:0<(posN s m).length:=List.length_pos_iff.2 ne
 have hG:∀ j,j<(posN s m).length->G ((ringEdges (turnP s m)).getD j (zP,zP)).1 ((ringEdges (turnP s m)).getD j (zP,zP)).2=if j+1=(posN s m).length then sumX h ((posN s m).getD j 0+1) ((posN s m).getD 0 0+m-(posN s m).getD j 0) else sumX h ((posN s m).getD j 0+1) ((posN s m).getD (j+1) 0-(posN s m).getD j 0):=fun j hj=>by
  obtain ⟨b,h1,h2,h3,h4,h5⟩:=edge_run2 per hj
  rw [ringEdges_at (by rw [turn_len];exact hj)]
  dsimp only
  rw [turn_len,turn_at hj,<-h3,run _ _ h1 h2]
  by_cases e:j+1=(posN s m).length
  ·rw [if_pos e,h5 e]
   congr 1;omega
  ·rw [if_neg e,h4 (by omega)]
   congr 1;omega
 have part:∀ k,k<(posN s m).length->xr (fun j=>G ((ringEdges (turnP s m)).getD j (zP,zP)).1 ((ringEdges (turnP s m)).getD j (zP,zP)).2) k=sumX h ((posN s m).getD 0 0+1) ((posN s m).getD k 0-(posN s m).getD 0 0):=by
  intro k
  induction k with
  | zero=>intro _;rw [Nat.sub_self];rfl
  | succ k ih=>
   intro hk
   have hx:∀ g:Nat->Bool,xr g (k+1)=(xr g k ^^ g k):=fun _=>rfl
   rw [hx,ih (by omega),hG k (by omega),if_neg (by omega)]
   have q1:=sorted_at so hk (show k<k+1 by omega)
   have q0:(posN s m).getD 0 0<=(posN s m).getD k 0:=by
    rcases Nat.eq_zero_or_pos k with z | z
    ·rw [z];exact Nat.le_refl _
    ·exact Nat.le_of_lt (sorted_at so (by omega) z)
   have:=sumX_app h ((posN s m).getD 0 0+1) ((posN s m).getD k 0-(posN s m).getD 0 0) ((posN s m).getD (k+1) 0-(posN s m).getD k 0)
   rw [show (posN s m).getD 0 0+1+((posN s m).getD k 0-(posN s m).getD 0 0)=(posN s m).getD k 0+1 by omega,show (posN s m).getD k 0-(posN s m).getD 0 0+((posN s m).getD (k+1) 0-(posN s m).getD k 0)=(posN s m).getD (k+1) 0-(posN s m).getD 0 0 by omega] at this
   exact this.symm
 have e0:parB G (ringEdges (turnP s m))=xr (fun j=>G ((ringEdges (turnP s m)).getD j (zP,zP)).1 ((ringEdges (turnP s m)).getD j (zP,zP)).2) (posN s m).length:=by
  have e1:ringEdges (turnP s m)=(List.range (posN s m).length).map (fun j=>(ringEdges (turnP s m)).getD j (zP,zP)):=by
   apply List.ext_getElem
   ·rw [re_len,turn_len];simp
   ·intro i k1 k2
    rw [List.getElem_map,List.getElem_range,<-at_getD k1]
  conv=>lhs;rw [e1]
  exact parB_range G _ _
 rw [e0]
 obtain ⟨n,hn⟩:∃ n,(posN s m).length=n+1:=⟨(posN s m).length-1,by omega⟩
 have hx:∀ g:Nat->Bool,xr g (n+1)=(xr g n ^^ g n):=fun _=>rfl
 rw [hn,hx,part n (by omega),hG n (by omega),if_pos hn.symm]
 have q0:(posN s m).getD 0 0<=(posN s m).getD n 0:=by
  rcases Nat.eq_zero_or_pos n with z | z
  ·rw [z];exact Nat.le_refl _
  ·exact Nat.le_of_lt (sorted_at so (by omega) z)
 have lt:=(pos_mem.1 (at_mem (show n<(posN s m).length by omega))).1
 have:=sumX_app h ((posN s m).getD 0 0+1) ((posN s m).getD n 0-(posN s m).getD 0 0) ((posN s m).getD 0 0+m-(posN s m).getD n 0)
 rw [show (posN s m).getD 0 0+1+((posN s m).getD n 0-(posN s m).getD 0 0)=(posN s m).getD n 0+1 by omega,show (posN s m).getD n 0-(posN s m).getD 0 0+((posN s m).getD 0 0+m-(posN s m).getD n 0)=m by omega] at this
 rw [<-this]
 exact sumX_shift hp _
theorem turn_short (s:Nat->Pt)(m:Nat):(turnP s m).length<=m:=by
 rw [turn_len]
 unfold posN
 have:=List.length_filter_le (tn s) (List.range' 0 m)
 simpa using this
section
variable {A B:List (List Pt)}(sA:Sound A)(sB:Sound B)(op:Int)
include sA sB
theorem rings_total:(edgesM (ringsM (bordM op (piecesM A B)))).length<=(bordM op (piecesM A B)).length:=by
 obtain ⟨I,h1,h2,h3,h4⟩:=rounds_whole sA sB op
 have e1:(edgesM (ringsM (bordM op (piecesM A B)))).length=(edgesM (I.map (ringAtL (bordM op (piecesM A B))))).length:=by
  unfold edgesM
  exact (h1.flatMap_right _).length_eq
 have e2:=h4.length_eq
 rw [List.length_range] at e2
 rw [e1,<-e2]
 unfold edgesM
 rw [List.flatMap_map]
 clear e1 e2 h1 h4 h2
 induction I with
 | nil=>simp
 | cons z I ih=>
  have:=ih (fun y hy=>h3 y (List.mem_cons_of_mem _ hy))
  rw [List.flatMap_cons,List.flatMap_cons,List.length_append,List.length_append]
  have k:=(ring_edges sA sB op (h3 z List.mem_cons_self)).length_eq
  rw [re_len (turnP _ _)] at k
  have k2:=turn_short (wayS (bordM op (piecesM A B)) z.1) z.2
  have k3:(idxR (bordM op (piecesM A B)) z).length=z.2:=by unfold idxR;simp
  omega
end
theorem over_two {q x y w:Pt}(hq:0<q.d)(hx:0<x.d)(hy:0<y.d)(hw:0<w.d)(b1:befB x y=true)(b2:befB y w=true)(l:detM x y w=0)(o1:onB q x y=false)(o2:onB q y w=false) :
  onB q x w=false/\overB q x w=(overB q x y ^^ overB q y w):=by
 have b3:befB x w=true:=bef_lt hy hw hx b2 b1
 have s1:=line_sign (f:=x) (l:=y) (v:=x) (z:=w) (x:=q) hx hx (det_first _ _) l b1 b3
 have l2:detM x y y=0:=det_last _ _
 have s2:=line_sign (f:=x) (l:=y) (v:=y) (z:=w) (x:=q) hx hy l2 l b1 b2
 unfold onB withB at o1 o2 ⊢
 rw [(lo_hi b1).1,(lo_hi b1).2.1] at o1
 rw [(lo_hi b2).1,(lo_hi b2).2.1] at o2
 rw [(lo_hi b3).1,(lo_hi b3).2.1]
 unfold overB
 have i1:befB q x=true->befB q y=true:=fun k=>bef_lt hx hy hq b1 k
 have i2:befB q y=true->befB q w=true:=fun k=>bef_lt hy hw hq b2 k
 have j1:befB w q=true->befB y q=true:=fun k=>bef_lt hw hq hy k b2
 have j2:befB y q=true->befB x q=true:=fun k=>bef_lt hy hq hx k b1
 have a1:befB q y=true->befB y q=false:=fun k=>bef_asym k
 have a2:befB y q=true->befB q y=false:=fun k=>bef_asym k
 rcases Int.lt_trichotomy (detM x y q) 0 with k | k | k
 ·have k1:=s1.1.1 k
  have k2:=s2.1.1 k
  have n1 : ¬ detM x w q=0:=by omega
  have n2 : ¬ 0<detM x w q:=by omega
  have n3 : ¬ 0<detM x y q:=by omega
  have n4 : ¬ 0<detM y w q:=by omega
  simp only [k,k1,k2,n1,n2,n3,n4,decide_true,decide_false,Bool.and_true,Bool.and_false,Bool.or_false,Bool.false_and]
  refine ⟨trivial,?_⟩
  cases c1:befB q x <;> cases c2:befB q y <;> cases c3:befB q w <;> simp_all
 ·have k1:=s1.2.1 k
  have k2:=s2.2.1 k
  rw [k] at o1
  rw [k2] at o2
  rw [k,k1,k2]
  simp only [decide_true,Bool.true_and] at o1 o2 ⊢
  constructor
  ·cases c1:befB q x <;> cases c2:befB q y <;> cases c3:befB w q <;> cases c4:befB y q <;> simp_all
  ·simp
 ·have m1:0<detM x w q:=by
   rcases Int.lt_trichotomy (detM x w q) 0 with c | c | c
   ·have:=s1.1.2 c;omega
   ·have:=s1.2.2 c;omega
   ·exact c
  have m2:0<detM y w q:=by
   rcases Int.lt_trichotomy (detM y w q) 0 with c | c | c
   ·have:=s2.1.2 c;omega
   ·have:=s2.2.2 c;omega
   ·exact c
  have n1 : ¬ detM x w q=0:=by omega
  have n2 : ¬ detM x w q<0:=by omega
  have n3 : ¬ detM x y q<0:=by omega
  have n4 : ¬ detM y w q<0:=by omega
  simp only [k,m1,m2,n1,n2,n3,n4,decide_true,decide_false,Bool.and_true,Bool.and_false,Bool.or_false,Bool.false_and,Bool.false_or]
  refine ⟨trivial,?_⟩
  cases c1:befB q x <;> cases c2:befB q y <;> cases c3:befB q w <;> simp_all
theorem over_sw (q a b:Pt):overB q b a=overB q a b:=by
 unfold overB
 rw [det_sw2 a b q]
 have e1:decide (-detM a b q<0)=decide (0<detM a b q):=decide_eq_decide.2 (by omega)
 have e2:decide (0 < -detM a b q)=decide (detM a b q<0):=decide_eq_decide.2 (by omega)
 rw [e1,e2]
 cases befB q a <;> cases befB q b <;> cases decide (detM a b q<0) <;> cases decide (0<detM a b q) <;> rfl
theorem on_sw' {q a b:Pt}(hq:0<q.d)(ha:0<a.d)(hb:0<b.d):onB q b a=onB q a b:=by
 cases h:onB q a b
 ·exact on_sw hq ha hb h
 ·cases k:onB q b a
  ·rw [on_sw hq hb ha k] at h;cases h
  ·rfl
section
variable {s:Nat->Pt}(w:Way s){q:Pt}(hq:0<q.d)
include w hq
theorem over_run {a:Nat}:∀ k,Run s a (a+k)->(∀ c,a<=c->c<=a+k->onB q (s c) (s (c+1))=false)->onB q (s a) (s (a+k+1))=false/\overB q (s a) (s (a+k+1))=sumX (fun c=>overB q (s c) (s (c+1))) a (k+1)
 | 0,_,h=>⟨h a (by omega) (by omega),by simp [sumX]⟩
 | k+1,r,h=>by
  obtain ⟨i1,i2⟩:=over_run k r.tl (fun c h1 h2=>h c h1 (by omega))
  have last:=h (a+k+1) (by omega) (by omega)
  have rl:=run_line w (show a<=a+k+1 by omega) r
  have l0:detM (s a) (s (a+k+1)) (s (a+k+2))=0:=by
   have e1:detM (s a) (s (a+k+2)) (s (a+k+1))=0:=by
    rw [rl.1]
    rcases w.two a with f | f
    ·exact (run_fwd w f k r.tl).2.2.2
    ·have:=(run_bwd w f k r.tl).2.2.2
     rw [det_back] at this
     omega
   have e2:detM (s a) (s (a+k+1)) (s (a+k+2)) = -detM (s a) (s (a+k+2)) (s (a+k+1)):=by unfold detM;grind
   omega
  have es:sumX (fun c=>overB q (s c) (s (c+1))) a (k+1+1)=(sumX (fun c=>overB q (s c) (s (c+1))) a (k+1) ^^ overB q (s (a+k+1)) (s (a+k+2))):=rfl
  rw [es,<-i2]
  rcases w.two a with f | f
  ·have q1:=run_fwd w f k r.tl
   have q2:=run_fwd w f (k+1) r
   exact over_two hq (w.d a) (w.d (a+k+1)) (w.d (a+k+2)) q1.2.1 q2.1 l0 i1 last
  ·have q1:=run_bwd w f k r.tl
   have q2:=run_bwd w f (k+1) r
   have l1:detM (s (a+k+2)) (s (a+k+1)) (s a)=0:=by
    have:detM (s (a+k+2)) (s (a+k+1)) (s a) = -detM (s a) (s (a+k+1)) (s (a+k+2)):=by unfold detM;grind
    omega
   have:=over_two hq (w.d (a+k+2)) (w.d (a+k+1)) (w.d a) q2.1 q1.2.1 l1 (by rw [on_sw' hq (w.d _) (w.d _)];exact last) (by rw [on_sw' hq (w.d _) (w.d _)];exact i1)
   refine ⟨by rw [<-on_sw' hq (w.d _) (w.d _)];exact this.1,?_⟩
   show overB q (s a) (s (a+k+2))=_
   rw [<-over_sw,this.2,over_sw q (s (a+k+1)),over_sw q (s a),Bool.xor_comm]
end
end Go.Proofs.YtnkcbephceollabGreat
