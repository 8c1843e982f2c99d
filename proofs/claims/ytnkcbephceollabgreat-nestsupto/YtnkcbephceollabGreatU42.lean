import Derived.Test.YtnkcbephceollabGreatU35
namespace Go.Proofs.YtnkcbephceollabGreat
open Go.RowKit
set_option linter.unusedSimpArgs false
set_option linter.unusedVariables false
theorem set1 (u:Value):∀ (o:Nat) (l:List Value),o<l.length->l.set o u=l.take o ++ u::l.drop (o+1)
 | 0,l,h=>by
  match l,h with
  | a::l',_=>simp
 | o+1,l,h=>by
  match l,h with
  | x::l',h=>
   rw [List.set_cons_succ,set1 u o l' (by simpa using h)];simp
theorem own_set1 {w:World}{base g n cap k:Nat}{m:Int}{e:TypeId}{xs:List Value}(h:w.ownsRow base e 1 (.slice (some ⟨g,0,none⟩) n cap) n (rep k [.int .i64 m] ++ xs.drop k))(hxl:xs.length=n*1)(hlt:k<n) :
  (w.setCell ⟨g,k,none⟩ (.int .i64 m)).drew.ownsRow base e 1 (.slice (some ⟨g,0,none⟩) n cap) n (rep (k+1) [.int .i64 m] ++ xs.drop (k+1)):=by
 have hrl:(rep k [(.int .i64 m:Value)]).length=k:=by rw [rep_len];simp
 have o1:=own_set h g rfl k (.int .i64 m)
 have e1:(rep k [(.int .i64 m:Value)] ++ xs.drop k).set k (.int .i64 m)=rep (k+1) [.int .i64 m] ++ xs.drop (k+1):=by
  rw [set1 _ _ _ (by rw [List.length_append,hrl,List.length_drop];omega),List.take_left' hrl,List.drop_append,hrl,List.drop_of_length_le (by omega),List.nil_append,List.drop_drop,rep_succ,List.append_assoc]
  have e2:k+(k+1-k)=k+1:=by omega
  rw [e2]
  rfl
 rw [e1] at o1
 exact o1
set_option maxRecDepth 100000 in
set_option maxHeartbeats 4000000 in
theorem marks_nums (base h n:Nat)(m:Int)(cv:Value)(xs:List Value)(w:World)(hne:cv.ownBlock≠some h)(hn:n<=1100000)(hh:Blk w h #[.slice none 0 0,.slice none 0 0,.slice none 0 0,cv,.int .i64 m])(hc:w.ownsRow base 3 1 cv n xs) :
  Calls Tryz.prog 51 #[.pointer (some ⟨h,0,none⟩)] w fun e w'=>e = .returned (.tuple #[])/\w'.ownsRow base 3 1 cv n (rep n [.int .i64 m])/\Kp (fun b=>cv.ownBlock=some b) w w':=by
 obtain ⟨a,cap,hcv,hag⟩:∃ a cap,cv = .slice a n cap/\(0<n->∃ g,a=some ⟨g,0,none⟩):=by
  rcases hc.2 with ⟨rfl,hn⟩ | ⟨g,cap,cur,rfl,_⟩
  ·exact ⟨none,0,by rw [hn],fun h=>by omega⟩
  ·exact ⟨some ⟨g,0,none⟩,cap,rfl,fun _=>⟨g,rfl⟩⟩
 subst hcv
 have hxl:xs.length=n*1:=hc.1
 obtain ⟨d0,d1,d2,d3,d4⟩:=And.intro (hh.cell 0) (And.intro (hh.cell 1) (And.intro (hh.cell 2) (And.intro (hh.cell 3) (hh.cell 4))))
 simp at d0 d1 d2 d3 d4
 go_enter Tryz.func51,Tryz.ntmps51
 go_wp2_with fail
 refine wp_loop_rounds 1 ?_
 rw [rounds_succ]
 go_wp2_with fail
 refine wp_loop_rounds 1 ?_
 rw [rounds_succ]
 go_wp2_with fail
 refine wp_loop_rounds 1 ?_
 rw [rounds_succ]
 go_wp2_with fail
 go_loopw [5] (fun i w'=>∃ k:Nat,i = .int .i64 k/\k<=n/\w'.ownsRow base 3 1 (.slice a n cap) n (rep k [.int .i64 m] ++ xs.drop k)/\Kp (fun b=>(Value.slice a n cap).ownBlock=some b) w w') (fun i _=>n-(intOf i).toNat)
 case atStart=>exact ⟨0,rfl,Nat.zero_le _,by simpa [rep] using hc,Kp.refl _ _⟩
 case round=>
  obtain ⟨k,rfl,hk,hO,hkp⟩:=hrel
  have hcell:∀ o,wr.cell? ⟨h,o,none⟩=w.cell? ⟨h,o,none⟩:=fun o=>World.cell?_of_block (w:=w) (hkp.block h hh.lt hne)
  have c0:=(hcell 0).trans d0
  have c1:=(hcell 1).trans d1
  have c2:=(hcell 2).trans d2
  have c3:=(hcell 3).trans d3
  have c4:=(hcell 4).trans d4
  clear hcell d0 d1 d2 d3 d4
  by_cases hlt:k<n
  ·obtain ⟨g,rfl⟩:=hag (by omega)
   have hl:=(hO.lt g rfl).2
   have hf:∀ o,wr.frozen? ⟨g,o,none⟩=false:=fun o=>own_free hO g rfl o
   obtain ⟨x0,hx0⟩:∃ u,wr.cell? ⟨g,k,none⟩=some u:=by
    have:=hO.cellAt k (by omega)
    rw [List.getElem?_eq_getElem (by rw [List.length_append,rep_len,List.length_drop];simp;omega)] at this
    exact ⟨_,this⟩
   have hhl:h<wr.heap.size:=Nat.lt_of_lt_of_le hh.lt hkp.size
   have hgh:g≠h:=fun e=>hne (by rw [e];rfl)
   have hk0:(0:Int)<=(k:Int):=Int.natCast_nonneg _
   have hk1:(k:Int)<(n:Int):=by omega
   have hk2:k+1<=n:=hlt
   have HO:Hid ((wr.setCell ⟨g,k,none⟩ (.int .i64 m)).drew.ownsRow base 3 1 (.slice (some ⟨g,0,none⟩) n cap) n (rep (k+1) [.int .i64 m] ++ xs.drop (k+1))):=hide (own_set1 hO hxl hlt)
   have HKP:Hid (Kp (fun b=>(Value.slice (some ⟨g,0,none⟩) n cap).ownBlock=some b) w (wr.setCell ⟨g,k,none⟩ (.int .i64 m)).drew):=hide ((hkp.setCell (p:=⟨g,k,none⟩) (fun _=>rfl) _).drew)
   clear hO hkp hag
   go_wp2_with fail
   go_region
   go_wp2
   exact ⟨⟨k+1,by go_num,hk2,HO.out,HKP.out⟩,by simp [intOf];omega⟩
  ·have ek:k=n:=by omega
   subst ek
   have HO:Hid (wr.ownsRow base 3 1 (.slice a k cap) k (rep k [.int .i64 m])):=by
    have:rep k [.int .i64 m] ++ xs.drop k=rep k [.int .i64 m]:=by rw [List.drop_of_length_le (by omega),List.append_nil]
    rw [this] at hO
    exact hO
   have HKP:=hide hkp
   clear hO hkp hag
   go_wp2
   go_end0
   exact ⟨rfl,HO.out,HKP.out⟩
theorem fam_nums (w:World)(base h n:Nat)(m m0:Int)(cv:Value)(xs:List Value)(hne:cv.ownBlock≠some h)(hn:n<=1100000)(hh:Blk w h #[.slice none 0 0,.slice none 0 0,.slice none 0 0,cv,.int .i64 m0])(hc:w.ownsRow base 3 1 cv n xs) :
  Calls Tryz.prog 51 #[.pointer (some ⟨h,0,none⟩)] (w.setCell ⟨h,4,none⟩ (.int .i64 m)) fun e w'=>e = .returned (.tuple #[])/\∃ rs,Fam w' base m (.slice none 0 0) (.slice none 0 0) (.slice none 0 0) cv 0 0 0 n rs/\(∀ q∈rs,w.heap.size<=q)/\Kp (fun b=>(Value.slice none 0 0).ownBlock=some b\/(Value.slice none 0 0).ownBlock=some b\/(Value.slice none 0 0).ownBlock=some b\/cv.ownBlock=some b) (w.setCell ⟨h,4,none⟩ (.int .i64 m)) w':=by
 have hh1:=hh.set 4 (by simp) (.int .i64 m)
 refine (marks_nums base h n m cv xs (w.setCell ⟨h,4,none⟩ (.int .i64 m)) hne hn (by simpa using hh1) (own_off hc hne _ _)).mono ?_
 rintro e w' ⟨rfl,ho,hkp⟩
 exact ⟨rfl,[],⟨rfl,own_nil _ _ _ _,fun q hq=>(by cases hq),own_nil _ _ _ _,own_nil _ _ _ _,ho,fun q hq=>(by cases hq)⟩,(fun q hq=>by cases hq),hkp.weaken fun b _ e=>.inr (.inr (.inr e))⟩
theorem keep_nums (base wb n:Nat)(hv cv:Value)(L:List Nat)(X:Nat->Prop)(xs:List Value)(w:World)(hL:L.length<=1000000000000)(hn:n<=1100000)(hX:∀ b,X b->b<w.heap.size)(hbase:base<=w.heap.size)
  (hW:Wld w base wb hv L (FX (fun b _=>¬ X b/\cv.ownBlock≠some b) wb hv)) (hc:w.ownsRow base 3 1 cv n xs) (hx:∀ b,cv.ownBlock=some b->¬ X b/\hv.ownBlock≠some b) :
  Calls Tryz.prog 27 #[.pointer (some ⟨wb,0,none⟩),.pointer (some ⟨w.heap.size,0,none⟩)] (w.alloc (.cells #[.slice none 0 0,.slice none 0 0,.slice none 0 0,cv,.int .i64 0] 60)) fun e w'=>e = .returned (.tuple #[])/\∃ hv' L',L'.length=L.length+4/\Wld w' base wb hv' L' (FX (fun b _=>¬ X b) wb hv')/\Kp (fun b=>b=wb\/hv.ownBlock=some b\/cv.ownBlock=some b) w w'/\Fresh w hv hv':=by
 have hh:=Blk.new w #[.slice none 0 0,.slice none 0 0,.slice none 0 0,cv,.int .i64 0] 60
 have hbl:=(Below.refl w.heap.size w).alloc (Nat.le_refl _) (.cells #[.slice none 0 0,.slice none 0 0,.slice none 0 0,cv,.int .i64 0] 60)
 have hwl:=hW.blk.lt
 have hcl:∀ b,cv.ownBlock=some b->base<=b/\b<w.heap.size:=fun b e=>hc.lt b e
 have hW1:Wld (w.alloc (.cells #[.slice none 0 0,.slice none 0 0,.slice none 0 0,cv,.int .i64 0] 60)) base wb hv L (FX (fun b _=>¬ X b/\b≠w.heap.size/\(Value.slice none 0 0).ownBlock≠some b/\(Value.slice none 0 0).ownBlock≠some b/\(Value.slice none 0 0).ownBlock≠some b/\cv.ownBlock≠some b) wb hv):=by
  refine hW.kp (X:=fun _=>False) (Kp.of hbl) (fun e=>e) (fun _ _ e=>e) (fun b o u ⟨⟨x1,x2⟩,x3,x4⟩ hc=>?_)
  have hlt:b<w.heap.size:=World.block_lt_of_cell? w ⟨b,o,none⟩ hc
  exact ⟨(hbl.cell (p:=⟨b,o,none⟩) hlt).trans hc,⟨x1,by omega,nil_own _,nil_own _,nil_own _,x2⟩,x3,x4⟩
 refine (keep_any base wb w.heap.size hv L X _ _ _ _ 0 0 0 n 0 _ hL (by omega) (by omega) (by omega) hn (fun b e=>by have:=hX b e;simp;omega) hW1 hh (by omega) (fun e=>by have:=(hW.own.lt _ e).2;omega) (fun e=>by have:=hX _ e;omega) (nil_own _) (nil_own _) (nil_own _) (fun e=>by have:=hcl _ e;omega) ?_ (by simp;omega) ?_).mono ?_
 ·intro b e
  rcases e with e | e | e | e
  ·exact absurd e (nil_own _)
  ·exact absurd e (nil_own _)
  ·exact absurd e (nil_own _)
  ·exact ⟨(hx b e).1,(hx b e).2,by have:=hW.lt;have:=hcl b e;omega⟩
 ·exact (fam_nums _ base w.heap.size n _ 0 cv xs (fun e=>by have:=hcl _ e;omega) hn hh (hc.alloc _))
 ·rintro e w' ⟨rfl,hv',L',hl,hW',hk,hf⟩
  refine ⟨rfl,hv',L',hl,hW',⟨hk.os,hk.tape,hk.output,by have:=hk.size;simp at this;omega,fun b hb hnx=>?_⟩,?_⟩
  ·refine (hk.block b (by simp;omega) (fun e=>hnx ?_)).trans (hbl.block b hb)
   rcases e with e | e | e | e | e | e | e
   ·exact .inl e
   ·exact .inr (.inl e)
   ·omega
   ·exact absurd e (nil_own _)
   ·exact absurd e (nil_own _)
   ·exact absurd e (nil_own _)
   ·exact .inr (.inr e)
  ·rcases hf with hf | ⟨k,hf,hk⟩
   ·exact .inl hf
   ·exact .inr ⟨k,hf,by simp at hk;omega⟩
end Go.Proofs.YtnkcbephceollabGreat
namespace Go.Proofs.YtnkcbephceollabGreat
set_option linter.unusedSimpArgs false
set_option linter.unusedVariables false
theorem det_cyc (a b c:Pt):detM b c a=detM a b c:=by unfold detM;grind
structure Way (s:Nat->Pt):Prop where
 d:∀ b,0<(s b).d
 two:∀ b,befB (s b) (s (b+1))=true\/befB (s (b+1)) (s b)=true
 opp:∀ b,detM (s b) (s (b+1)) (s (b+2))=0->Opp (s (b+1)) (s b) (s (b+2))
def Run (s:Nat->Pt)(a b:Nat):Prop:=∀ c,a<=c->c<b->detM (s c) (s (c+1)) (s (c+2))=0
theorem Run.tl {s:Nat->Pt}{a b:Nat}(h:Run s a (b+1)):Run s a b:=fun c h1 h2=>h c h1 (by omega)
section
variable {s:Nat->Pt}(w:Way s)
include w
theorem run_fwd {a:Nat}(f:befB (s a) (s (a+1))=true):∀ k,Run s a (a+k)->befB (s (a+k)) (s (a+k+1))=true/\befB (s a) (s (a+k+1))=true/\detM (s a) (s (a+1)) (s (a+k))=0/\detM (s a) (s (a+1)) (s (a+k+1))=0
 | 0,_=>⟨f,f,det_first _ _,det_last _ _⟩
 | k+1,h=>by
  obtain ⟨i1,i2,i3,i4⟩:=run_fwd f k h.tl
  have st:=h (a+k) (by omega) (by omega)
  have j:befB (s (a+k+1)) (s (a+k+2))=true:=by
   rcases w.opp (a+k) st with ⟨x,y⟩ | ⟨x,y⟩
   ·rw [bef_asym i1] at x;cases x
   ·exact y
  have ls:=(line_sign (x:=s (a+k+2)) (w.d a) (w.d (a+k)) i3 i4 f i1).2.2 st
  exact ⟨j,bef_lt (w.d (a+k+1)) (w.d (a+k+2)) (w.d a) j i2,i4,ls⟩
theorem run_bwd {a:Nat}(f:befB (s (a+1)) (s a)=true):∀ k,Run s a (a+k)->befB (s (a+k+1)) (s (a+k))=true/\befB (s (a+k+1)) (s a)=true/\detM (s (a+1)) (s a) (s (a+k))=0/\detM (s (a+1)) (s a) (s (a+k+1))=0
 | 0,_=>⟨f,f,det_last _ _,det_first _ _⟩
 | k+1,h=>by
  obtain ⟨i1,i2,i3,i4⟩:=run_bwd f k h.tl
  have st:=h (a+k) (by omega) (by omega)
  have j:befB (s (a+k+2)) (s (a+k+1))=true:=by
   rcases w.opp (a+k) st with ⟨x,y⟩ | ⟨x,y⟩
   ·exact y
   ·rw [bef_asym i1] at x;cases x
  have st2:detM (s (a+k+1)) (s (a+k)) (s (a+k+2))=0:=by rw [det_back,st];rfl
  have ls:=(line_sign (x:=s (a+k+2)) (w.d (a+1)) (w.d (a+k+1)) i4 i3 f i1).2.2 st2
  exact ⟨j,bef_lt (w.d (a+k+1)) (w.d a) (w.d (a+k+2)) i2 j,i4,ls⟩
theorem run_line {a b:Nat}(ab:a<=b)(h:Run s a b):(∀ x,detM (s a) (s (b+1)) x=0↔detM (s a) (s (a+1)) x=0)/\(∀ x,detM (s a) (s (b+1)) x=0↔detM (s b) (s (b+1)) x=0)/\(befB (s a) (s (b+1))=true\/befB (s (b+1)) (s a)=true):=by
 obtain ⟨k,rfl⟩:∃ k,b=a+k:=⟨b-a,by omega⟩
 rcases w.two a with f | f
 ·obtain ⟨i1,i2,i3,i4⟩:=run_fwd w f k h
  have l1:=fun x=>(line_sign (x:=x) (w.d a) (w.d a) (det_first _ _) i4 f i2).2
  have l2:=fun x=>(line_sign (x:=x) (w.d a) (w.d (a+k)) i3 i4 f i1).2
  exact ⟨fun x=>(l1 x).symm,fun x=>(l1 x).symm.trans (l2 x),.inl i2⟩
 ·obtain ⟨i1,i2,i3,i4⟩:=run_bwd w f k h
  have l1:=fun x=>(line_sign (x:=x) (w.d (a+1)) (w.d (a+k+1)) i4 (det_last _ _) f i2).2
  have l2:=fun x=>(line_sign (x:=x) (w.d (a+1)) (w.d (a+k+1)) i4 i3 f i1).2
  have fl:∀ p q x:Pt,detM p q x=0↔detM q p x=0:=fun p q x=>by rw [det_back q p x];omega
  refine ⟨fun x=>?_,fun x=>?_,.inr i2⟩
  ·rw [fl (s a) (s (a+k+1)),fl (s a) (s (a+1))];exact (l1 x).symm
  ·rw [fl (s a) (s (a+k+1)),fl (s (a+k)) (s (a+k+1))];exact (l1 x).symm.trans (l2 x)
theorem turn_ends {a b a2 b2:Nat}(ab:a<=b)(h:Run s a b)(ab2:a2<=b2)(h2:Run s a2 b2)(e:s a2=s (b+1))(ht:detM (s b) (s (b+1)) (s (a2+1))≠0):detM (s a) (s (b+1)) (s (b2+1))≠0:=by
 intro k
 obtain ⟨_,r1,_⟩:=run_line w ab h
 obtain ⟨r2,_,_⟩:=run_line w ab2 h2
 have k1:=(r1 _).1 k
 rw [<-det_cyc,<-e] at k1
 have k2:=(r2 _).1 k1
 rw [e,det_cyc] at k2
 exact ht k2
end
def tn (s:Nat->Pt)(b:Nat):Bool:=decide (detM (s b) (s (b+1)) (s (b+2))≠0)
def posN (s:Nat->Pt)(m:Nat):List Nat:=(List.range' 0 m).filter (tn s)
def turnP (s:Nat->Pt)(m:Nat):List Pt:=(posN s m).map (fun b=>s (b+1))
theorem tn_false {s:Nat->Pt}{b:Nat}(h:tn s b=false):detM (s b) (s (b+1)) (s (b+2))=0:=by
 unfold tn at h;simpa using h
theorem tn_true {s:Nat->Pt}{b:Nat}(h:tn s b=true):detM (s b) (s (b+1)) (s (b+2))≠0:=by
 unfold tn at h;simpa using h
theorem pos_mem {s:Nat->Pt}{m b:Nat}:b∈posN s m↔b<m/\tn s b=true:=by
 unfold posN
 rw [List.mem_filter,List.mem_range']
 constructor
 ·rintro ⟨⟨i,hi,e⟩,h⟩;exact ⟨by omega,h⟩
 ·rintro ⟨h1,h2⟩;exact ⟨⟨b,h1,by omega⟩,h2⟩
theorem pos_sorted (s:Nat->Pt)(m:Nat):(posN s m).Pairwise (· < ·):=by
 unfold posN
 exact (List.pairwise_lt_range' (s:=0) (n:=m)).filter _
theorem sorted_at {l:List Nat}(h:l.Pairwise (· < ·)){i j:Nat}(hj:j<l.length)(ij:i<j):l.getD i 0<l.getD j 0:=by
 rw [List.pairwise_iff_getElem] at h
 have:=h i j (by omega) hj ij
 rw [List.getD_eq_getElem?_getD,List.getElem?_eq_getElem (by omega),List.getD_eq_getElem?_getD,List.getElem?_eq_getElem hj]
 exact this
theorem mem_at {l:List Nat}{x:Nat}(h:x∈l):∃ i,i<l.length/\l.getD i 0=x:=by
 obtain ⟨i,hi,e⟩:=List.getElem_of_mem h
 exact ⟨i,hi,by rw [List.getD_eq_getElem?_getD,List.getElem?_eq_getElem hi];exact e⟩
theorem at_mem {l:List Nat}{i:Nat}(h:i<l.length):l.getD i 0∈l:=by
 rw [List.getD_eq_getElem?_getD,List.getElem?_eq_getElem h];exact List.getElem_mem h
section
variable {s:Nat->Pt}{m:Nat}(per:∀ b,s (b+m)=s b)
theorem turn_len:(turnP s m).length=(posN s m).length:=by unfold turnP;simp
theorem turn_at {j:Nat}(h:j<(posN s m).length):(turnP s m).getD j zP=s ((posN s m).getD j 0+1):=by
 unfold turnP
 rw [List.getD_eq_getElem?_getD,List.getElem?_map,List.getElem?_eq_getElem h,List.getD_eq_getElem?_getD,List.getElem?_eq_getElem h];rfl
include per
theorem edge_run {j:Nat}(h:j<(posN s m).length):∃ b,(posN s m).getD j 0+1<=b/\Run s ((posN s m).getD j 0+1) b/\(b=(posN s m).getD ((j+1) % (posN s m).length) 0\/b=(posN s m).getD ((j+1) % (posN s m).length) 0+m)/\b<=(posN s m).getD j 0+m:=by
 have so:=pos_sorted s m
 have mem:∀ c,c<m->tn s c=true->c∈posN s m:=fun c h1 h2=>pos_mem.2 ⟨h1,h2⟩
 generalize hQ:posN s m=Q at *
 have lt:∀ i,i<Q.length->Q.getD i 0<m:=fun i hi=>by
  have:=at_mem hi
  rw [<-hQ] at this
  rw [<-hQ]
  exact (pos_mem.1 this).1
 have gap:∀ c i,c<m->i<Q.length->Q.getD i 0<c->(i+1<Q.length->c<Q.getD (i+1) 0)->tn s c=false:=fun c i hc hi h1 h2=>by
  cases t:tn s c
  ·rfl
  ·exfalso
   obtain ⟨l,hl,e⟩:=mem_at (mem c hc t)
   rcases Nat.lt_trichotomy l i with x | x | x
   ·have:=sorted_at so hi x;omega
   ·subst x;omega
   ·rcases Nat.lt_or_ge (i+1) l with y | y
    ·have:=sorted_at so hl y
     have:=h2 (by omega)
     omega
    ·have:l=i+1:=by omega
     subst this
     have:=h2 hl
     omega
 by_cases last:j+1<Q.length
 ·rw [Nat.mod_eq_of_lt last]
  have l1:=sorted_at so last (show j<j+1 by omega)
  have l2:=lt (j+1) last
  refine ⟨Q.getD (j+1) 0,l1,fun c h1 h2=>?_,.inl rfl,by have:=lt j h;omega⟩
  exact tn_false (gap c j (by omega) h (by omega) (fun _=>h2))
 ·have ej:j+1=Q.length:=by omega
  rw [ej,Nat.mod_self]
  have l0:=lt 0 (by omega)
  have lj:=lt j h
  have q0:Q.getD 0 0<=Q.getD j 0:=by
   rcases Nat.eq_zero_or_pos j with z | z
   ·rw [z];exact Nat.le_refl _
   ·exact Nat.le_of_lt (sorted_at so h z)
  refine ⟨Q.getD 0 0+m,by omega,fun c h1 h2=>?_,.inr rfl,by omega⟩
  by_cases cm:c<m
  ·exact tn_false (gap c j cm h (by omega) (fun x=>absurd x last))
  ·have e:c=(c-m)+m:=by omega
   have f:tn s (c-m)=false:=by
    cases t:tn s (c-m)
    ·rfl
    ·exfalso
     obtain ⟨l,hl,e2⟩:=mem_at (mem (c-m) (by omega) t)
     rcases Nat.eq_zero_or_pos l with z | z
     ·subst z;omega
     ·have:=sorted_at so hl z;omega
   have:=tn_false f
   rw [e,per,show c-m+m+1=(c-m+1)+m by omega,per,show c-m+m+2=(c-m+2)+m by omega,per]
   exact this
theorem cyc_turn (w:Way s){j:Nat}(h:j<(turnP s m).length):detM ((turnP s m).getD ((j+(turnP s m).length-1) % (turnP s m).length) zP) ((turnP s m).getD j zP) ((turnP s m).getD ((j+1) % (turnP s m).length) zP)≠0:=by
 rw [turn_len] at *
 have kp:0<(posN s m).length:=by omega
 have hp:(j+(posN s m).length-1) % (posN s m).length<(posN s m).length:=Nat.mod_lt _ kp
 have hn:(j+1) % (posN s m).length<(posN s m).length:=Nat.mod_lt _ kp
 have pn:((j+(posN s m).length-1) % (posN s m).length+1) % (posN s m).length=j:=by
  rcases Nat.eq_zero_or_pos j with z | z
  ·subst z
   rw [Nat.zero_add,Nat.mod_eq_of_lt (show (posN s m).length-1<(posN s m).length by omega),show (posN s m).length-1+1=(posN s m).length by omega,Nat.mod_self]
  ·rw [show j+(posN s m).length-1=(j-1)+(posN s m).length by omega,Nat.add_mod_right,Nat.mod_eq_of_lt (show j-1<(posN s m).length by omega),show j-1+1=j by omega,Nat.mod_eq_of_lt h]
 obtain ⟨b,ab,r1,eb,_⟩:=edge_run per hp
 obtain ⟨b2,ab2,r2,eb2,_⟩:=edge_run per h
 rw [pn] at eb
 rw [turn_at hp,turn_at h,turn_at hn]
 have tj:=tn_true (pos_mem.1 (at_mem h)).2
 generalize (posN s m).getD j 0=q at *
 generalize (posN s m).getD ((j+1) % (posN s m).length) 0=q2 at *
 generalize (posN s m).getD ((j+(posN s m).length-1) % (posN s m).length) 0=q0 at *
 have e1:s b=s q/\s (b+1)=s (q+1):=by
  rcases eb with x | x
  ·rw [x];exact ⟨rfl,rfl⟩
  ·rw [x];exact ⟨per q,by rw [show q+m+1=(q+1)+m by omega,per]⟩
 have e2:s (b2+1)=s (q2+1):=by
  rcases eb2 with x | x
  ·rw [x]
  ·rw [x,show q2+m+1=(q2+1)+m by omega,per]
 have:=turn_ends w ab r1 ab2 r2 e1.2.symm (by rw [e1.1,e1.2];exact tj)
 rw [e1.2,e2] at this
 exact this
theorem turn_three (w:Way s)(h:turnP s m≠[]):3<=(turnP s m).length:=by
 have kp:0<(turnP s m).length:=List.length_pos_iff.2 h
 apply Classical.byContradiction
 intro x
 have c:=cyc_turn per w kp
 have hk:(turnP s m).length=1\/(turnP s m).length=2:=by omega
 rcases hk with k | k <;> rw [k] at c
 ·exact c (det_first _ _)
 ·exact c (det_first _ _)
end
def wayS (L:List (Pt×Pt))(i:Nat)(b:Nat):Pt:=(edg L (itN (nextsM L) i b)).1
theorem it_add (N:List Nat)(i:Nat):∀ a b,itN N i (a+b)=itN N (itN N i a) b
 | a,0=>rfl
 | a,b+1=>by
  have ih:=it_add N i a b
  rw [<-Nat.add_assoc,itN,itN,ih]
theorem it_per {N:List Nat}{i m:Nat}(mi:itN N i m=i)(b:Nat):itN N i (b+m)=itN N i b:=by
 rw [Nat.add_comm,it_add,mi]
theorem way_per {L:List (Pt×Pt)}{i m:Nat}(mi:itN (nextsM L) i m=i)(b:Nat):wayS L i (b+m)=wayS L i b:=by
 unfold wayS;rw [it_per mi]
section
variable {A B:List (List Pt)}(sA:Sound A)(sB:Sound B)(op:Int)
include sA sB
theorem way_end {i:Nat}(hi:i<(bordM op (piecesM A B)).length)(b:Nat):(edg (bordM op (piecesM A B)) (itN (nextsM (bordM op (piecesM A B))) i b)).2=wayS (bordM op (piecesM A B)) i (b+1):=(it_chain sA sB op hi b).symm
theorem way_of {i:Nat}(hi:i<(bordM op (piecesM A B)).length):Way (wayS (bordM op (piecesM A B)) i):=by
 have lt:=it_lt (nexts_pm sA sB op) hi
 have en:=way_end sA sB op hi
 have nice:=fun b=>bord_nice sA sB op (edg_mem (lt b))
 refine ⟨fun b=>(nice b).1.d,fun b=>?_,fun b h=>?_⟩
 ·have n:=nice b
  rw [en] at n
  cases b1:befB (wayS (bordM op (piecesM A B)) i b) (wayS (bordM op (piecesM A B)) i (b+1))
  ·cases b2:befB (wayS (bordM op (piecesM A B)) i (b+1)) (wayS (bordM op (piecesM A B)) i b)
   ·exact absurd (canon_eq n.1.2 n.2.1.2 b1 b2) n.2.2
   ·exact .inr rfl
  ·exact .inl rfl
 ·have m1:=edg_mem (lt b)
  have m2:=edg_mem (lt (b+1))
  have e1:edg (bordM op (piecesM A B)) (itN (nextsM (bordM op (piecesM A B))) i b)=(wayS (bordM op (piecesM A B)) i b,wayS (bordM op (piecesM A B)) i (b+1)):=Prod.ext rfl (en b)
  have e2:edg (bordM op (piecesM A B)) (itN (nextsM (bordM op (piecesM A B))) i (b+1))=(wayS (bordM op (piecesM A B)) i (b+1),wayS (bordM op (piecesM A B)) i (b+2)):=Prod.ext rfl (en (b+1))
  rw [e1] at m1
  rw [e2] at m2
  refine bord_opp sA sB op m1 m2 ?_
  rw [det_back,h];rfl
theorem pts_turn {i:Nat}(hi:i<(bordM op (piecesM A B)).length):∀ c a,ptsN (bordM op (piecesM A B)) (nextsM (bordM op (piecesM A B))) i a c=((List.range' a c).filter (tn (wayS (bordM op (piecesM A B)) i))).map (fun b=>wayS (bordM op (piecesM A B)) i (b+1))
 | 0,a=>by rw [ptsN];rfl
 | c+1,a=>by
  have en:=way_end sA sB op hi
  rw [ptsN,pts_turn hi c (a+1),List.range'_succ,List.filter_cons]
  have e1:turnB (edg (bordM op (piecesM A B)) (itN (nextsM (bordM op (piecesM A B))) i a)) (edg (bordM op (piecesM A B)) (itN (nextsM (bordM op (piecesM A B))) i (a+1)))=tn (wayS (bordM op (piecesM A B)) i) a:=by
   unfold turnB tn
   rw [en a,en (a+1)];rfl
  rw [e1,en a]
  cases tn (wayS (bordM op (piecesM A B)) i) a
  ·rfl
  ·rfl
theorem pts_turnP {i:Nat}(hi:i<(bordM op (piecesM A B)).length)(m:Nat):ptsN (bordM op (piecesM A B)) (nextsM (bordM op (piecesM A B))) i 0 m=turnP (wayS (bordM op (piecesM A B)) i) m:=pts_turn sA sB op hi m 0
end
structure Rd (L:List (Pt×Pt))(z:Nat×Nat):Prop where
 lt:z.1<L.length
 one:1<=z.2
 per:itN (nextsM L) z.1 z.2=z.1
 min:∀ a,1<=a->a<z.2->itN (nextsM L) z.1 a≠z.1
def ringAtL (L:List (Pt×Pt))(z:Nat×Nat):List Pt:=leastL (ptsN L (nextsM L) z.1 0 z.2) (ptsN L (nextsM L) z.1 0 z.2).length
def Sep (L:List (Pt×Pt))(z y:Nat×Nat):Prop:=∀ a b,itN (nextsM L) z.1 a≠itN (nextsM L) y.1 b
theorem rins_perm (w:List Pt):∀ R:List (List Pt),(rinsL R w).Perm (w::R)
 | []=>List.Perm.refl _
 | x::R=>by
  rw [rins_cc]
  split
  ·exact ((rins_perm w R).cons x).trans (List.Perm.swap _ _ _)
  ·exact List.Perm.refl _
section
variable {A B:List (List Pt)}(sA:Sound A)(sB:Sound B)(op:Int)
include sA sB
theorem rounds:∀ k,k<=(bordM op (piecesM A B)).length->∃ I:List (Nat×Nat),(rringsN (bordM op (piecesM A B)) k).1.Perm (I.map (ringAtL (bordM op (piecesM A B))))/\I.Pairwise (Sep (bordM op (piecesM A B)))/\(∀ z∈I,Rd (bordM op (piecesM A B)) z)/\∀ z∈I,∀ a,(rringsN (bordM op (piecesM A B)) k).2.getD (itN (nextsM (bordM op (piecesM A B))) z.1 a) false=true
 | 0,_=>⟨[],by simp [rringsN],List.Pairwise.nil,fun z hz=>(by cases hz),fun z hz=>(by cases hz)⟩
 | k+1,hk=>by
  obtain ⟨I,h1,h2,h3,h4⟩:=rounds k (by omega)
  obtain ⟨_,tl,wh,_,_⟩:=rings_eq sA sB op k (by omega)
  have pm:=nexts_pm sA sB op
  have hkl:k<(bordM op (piecesM A B)).length:=by omega
  rw [rringsN]
  unfold rstepR
  cases seen:(rringsN (bordM op (piecesM A B)) k).2.getD k false
  ·rw [if_neg (by decide)]
   obtain ⟨m,m1,mn,mi,ml,ew⟩:=walk_round (bordM op (piecesM A B)) pm hkl tl (fun a=>(wh.it pm hkl a).trans seen)
   rw [ew]
   dsimp only
   refine ⟨(k,m)::I,?_,?_,?_,?_⟩
   ·exact (rins_perm _ _).trans (h1.cons _)
   ·refine List.pairwise_cons.2 ⟨fun y hy a b e=>?_,h2⟩
    have s1:=h4 y hy b
    rw [<-e,wh.it pm hkl a,seen] at s1
    cases s1
   ·intro z hz
    rcases List.mem_cons.1 hz with rfl | hz
    ·exact ⟨hkl,m1,mi,ml⟩
    ·exact h3 z hz
   ·intro z hz a
    rcases List.mem_cons.1 hz with rfl | hz
    ·have lt:=it_lt pm hkl a
     rw [setN_at (by rw [tl];exact lt)]
     right
     refine ⟨a % m,Nat.mod_lt _ (by omega),?_⟩
     have red:∀ q c,itN (nextsM (bordM op (piecesM A B))) k (c+q*m)=itN (nextsM (bordM op (piecesM A B))) k c:=by
      intro q
      induction q with
      | zero=>intro c;rw [Nat.zero_mul,Nat.add_zero]
      | succ q ih=>intro c;rw [Nat.succ_mul,<-Nat.add_assoc,it_per mi,ih]
     have:=red (a / m) (a % m)
     rw [Nat.mul_comm,Nat.mod_add_div] at this
     exact this.symm
    ·have lt:=it_lt pm (h3 z hz).lt a
     rw [setN_at (by rw [tl];exact lt)]
     exact .inl (h4 z hz a)
  ·rw [if_pos rfl]
   exact ⟨I,h1,h2,h3,h4⟩
theorem rounds_all:∃ I:List (Nat×Nat),(ringsM (bordM op (piecesM A B))).Perm (I.map (ringAtL (bordM op (piecesM A B))))/\I.Pairwise (Sep (bordM op (piecesM A B)))/\∀ z∈I,Rd (bordM op (piecesM A B)) z:=by
 obtain ⟨I,h1,h2,h3,_⟩:=rounds sA sB op _ (Nat.le_refl _)
 refine ⟨I,?_,h2,h3⟩
 unfold ringsM
 rw [(rings_eq sA sB op _ (Nat.le_refl _)).1]
 exact h1
end
theorem rot_at {P:List Pt}{i j:Nat}(hi:i<P.length)(hj:j<P.length):(rotL P i).getD j zP=P.getD ((i+j) % P.length) zP:=by
 unfold rotL
 rw [List.getD_eq_getElem?_getD,List.getD_eq_getElem?_getD]
 by_cases c:i+j<P.length
 ·rw [Nat.mod_eq_of_lt c,List.getElem?_append_left (by rw [List.length_drop];omega),List.getElem?_drop]
 ·rw [show i+j=(i+j-P.length)+P.length by omega,Nat.add_mod_right,Nat.mod_eq_of_lt (by omega),List.getElem?_append_right (by rw [List.length_drop];omega),List.length_drop,List.getElem?_take_of_lt (by omega)]
  congr 2;omega
theorem rot_full {P:List Pt}{i:Nat}(hi:i<=P.length):(rotL P i).length=P.length:=by unfold rotL;simp;omega
theorem least_is {P:List Pt}:∀ k,1<=k->∃ i,i<k/\leastL P k=rotL P i
 | k+1,_=>by
  rw [leastL]
  by_cases c:k=0\/clM (rotL P k) (leastL P k)<0
  ·rw [if_pos c];exact ⟨k,by omega,rfl⟩
  ·rw [if_neg c]
   obtain ⟨i,hi,e⟩:=least_is k (by omega)
   exact ⟨i,by omega,e⟩
theorem NL.rot {P:List Pt}(h:NL P)(i:Nat):NL (rotL P i):=fun p hp=>h p (rotL_from hp)
theorem NL.least {P:List Pt}(h:NL P)(i:Nat):NL (leastL P i):=fun p hp=>h p (leastL_from i hp)
theorem least_min {P:List Pt}(h:NL P):∀ k i,i<k->clM (leastL P k) (rotL P i)<=0
 | k+1,i,hi=>by
  rw [leastL]
  by_cases c:k=0\/clM (rotL P k) (leastL P k)<0
  ·rw [if_pos c]
   by_cases e:i=k
   ·rw [e,cl_self];exact Int.le_refl _
   ·rcases c with c | c
    ·omega
    ·exact cl_trans (h.rot k) (h.least k) (h.rot i) (by omega) (least_min h k i (by omega))
  ·rw [if_neg c]
   by_cases e:i=k
   ·rw [e]
    exact cl_tot (h.rot k) (h.least k) (fun x=>c (.inr x))
   ·exact least_min h k i (by omega)
theorem ring_first_le {a b:List Pt}(ha:NL a)(hb:NL b)(la:0<a.length)(lb:0<b.length)(h:clM a b<=0):befB (b.getD 0 zP) (a.getD 0 zP)=false:=by
 match a,b,la,lb with
 | p::l,q::n,_,_=>
  rw [cl_le ha.hd hb.hd] at h
  rcases h with h | ⟨h,_⟩
  ·exact bef_asym h
  ·subst h;exact bef_irr p
structure Fm (r:List Pt):Prop where
 three:3<=r.length
 nice:∀ p∈r,Nice p
 turn:∀ i,i<r.length->detM (r.getD ((i+r.length-1) % r.length) zP) (r.getD i zP) (r.getD ((i+1) % r.length) zP)≠0
 low:∀ i,i<r.length->befB (r.getD i zP) (r.getD 0 zP)=false
theorem mod_shift {i j n:Nat}(hn:0<n):(i+j % n) % n=(i+j) % n:=by
 rw [Nat.add_mod,Nat.mod_mod,<-Nat.add_mod]
theorem fm_of {P:List Pt}(h3:3<=P.length)(hN:NL P)(ht:∀ j,j<P.length->detM (P.getD ((j+P.length-1) % P.length) zP) (P.getD j zP) (P.getD ((j+1) % P.length) zP)≠0):Fm (leastL P P.length):=by
 obtain ⟨i,hi,e⟩:=least_is (P:=P) P.length (by omega)
 have mn:=least_min hN P.length
 have hl:(leastL P P.length).length=P.length:=by rw [e];exact rot_full (by omega)
 have np:0<P.length:=by omega
 refine ⟨by omega,fun p hp=>hN p (leastL_from _ hp),fun j hj=>?_,fun j hj=>?_⟩
 ·rw [hl] at *
  rw [e,rot_at hi (Nat.mod_lt _ np),rot_at hi hj,rot_at hi (Nat.mod_lt _ np),mod_shift np,mod_shift np]
  have:=ht ((i+j) % P.length) (Nat.mod_lt _ np)
  have e1:((i+j) % P.length+P.length-1) % P.length=(i+(j+P.length-1)) % P.length:=by
   have a1:(i+j) % P.length+P.length-1=(i+j) % P.length+(P.length-1):=by omega
   have a2:i+(j+P.length-1)=(i+j)+(P.length-1):=by omega
   rw [a1,a2,Nat.add_mod,Nat.mod_mod,<-Nat.add_mod]
  have e2:((i+j) % P.length+1) % P.length=(i+(j+1)) % P.length:=by
   rw [<-Nat.add_assoc,Nat.add_mod,Nat.mod_mod,<-Nat.add_mod]
  rw [e1,e2] at this
  exact this
 ·rw [hl] at hj
  have q:(i+j) % P.length<P.length:=Nat.mod_lt _ np
  have c:=mn _ q
  have f:=ring_first_le (hN.least P.length) (hN.rot ((i+j) % P.length)) (by omega) (by rw [rot_full (by omega)];omega) c
  rw [rot_at q np,Nat.add_zero,Nat.mod_mod] at f
  rw [show (leastL P P.length).getD j zP=P.getD ((i+j) % P.length) zP by rw [e,rot_at hi hj]]
  exact f
section
variable {A B:List (List Pt)}(sA:Sound A)(sB:Sound B)(op:Int)
include sA sB
theorem pts_nice {i:Nat}(hi:i<(bordM op (piecesM A B)).length)(m:Nat):NL (ptsN (bordM op (piecesM A B)) (nextsM (bordM op (piecesM A B))) i 0 m):=fun p hp=>by
 obtain ⟨b,rfl⟩:=pts_from _ _ _ _ _ _ hp
 exact (bord_nice sA sB op (edg_mem (it_lt (nexts_pm sA sB op) hi b))).2.1
theorem ring_fm {z:Nat×Nat}(hz:Rd (bordM op (piecesM A B)) z):Fm (ringAtL (bordM op (piecesM A B)) z):=by
 have ne:=ring_turns sA sB op hz.lt hz.one hz.per
 have ni:=pts_nice sA sB op hz.lt z.2
 have w:=way_of sA sB op hz.lt
 have per:=way_per hz.per
 unfold ringAtL
 have e:=pts_turnP sA sB op hz.lt z.2
 rw [e] at ne ni ⊢
 exact fm_of (turn_three per w ne) ni (fun j hj=>cyc_turn per w hj)
theorem rings_fm:(∀ r∈ringsM (bordM op (piecesM A B)),Fm r)/\(ringsM (bordM op (piecesM A B))).Pairwise (fun x y=>befB (y.getD 0 zP) (x.getD 0 zP)=false):=by
 obtain ⟨I,h1,h2,h3⟩:=rounds_all sA sB op
 have fm:∀ r∈ringsM (bordM op (piecesM A B)),Fm r:=fun r hr=>by
  obtain ⟨z,hz,rfl⟩:=List.mem_map.1 (h1.mem_iff.1 hr)
  exact ring_fm sA sB op (h3 z hz)
 refine ⟨fm,?_⟩
 have so:(ringsM (bordM op (piecesM A B))).Pairwise (fun x y=>clM x y<=0):=by
  unfold ringsM
  obtain ⟨q1,_,_,_,q5⟩:=rings_eq sA sB op _ (Nat.le_refl _)
  rw [q1];exact q5
 refine so.imp_of_mem fun {a b} ha hb k=>?_
 have f1:=fm a ha
 have f2:=fm b hb
 exact ring_first_le f1.nice f2.nice (by have:=f1.three;omega) (by have:=f2.three;omega) k
end
theorem no_between {E:List (Pt×Pt)}(hG:Good E){v z1 z2:Pt}(mz1:z1∈spotsM E)(b1:befB v z1=true)(h2:(v,z2)∈pairsL E (spotsM E))(hb:befB z1 z2=true):detM v z1 z2≠0:=by
 intro hd
 have hS:=(spots_spec hG).1
 obtain ⟨e2,he2,a2⟩:=((pairs_spec E hS).2 _).1 h2
 obtain ⟨mv,mz2,fv,fz2⟩:=AL_mem a2
 obtain ⟨b2,no⟩:=AL_next hS.srt a2
 simp only at mv mz2 fv fz2 b2 no
 have dv:=(hS.nc _ mv).d
 have d1:=(hS.nc _ mz1).d
 have d2:=(hS.nc _ mz2).d
 have f:=no z1 mz1 b1 hb
 have be:=edge_bef hG he2
 have gr:=hG.gr e2 he2
 have df:0<(firstM e2.1 e2.2).d:=by have:=gr.1.d;have:=gr.2.d;unfold firstM;split <;> omega
 have dl:0<(lastM e2.1 e2.2).d:=by have:=gr.1.d;have:=gr.2.d;unfold lastM;split <;> omega
 unfold hasM at fv fz2 f
 simp only [Bool.and_eq_true,Bool.not_eq_true',decide_eq_false_iff_not,decide_eq_true_eq] at fv fz2
 obtain ⟨v1,v2,v3⟩:=fv
 obtain ⟨w1,w2,w3⟩:=fz2
 have side:sideM e2.1 e2.2 z1=0:=by
  unfold sideM at *
  rw [(line_sign df dv v3 w3 be b2 (x:=z1)).2]
  have:detM v z2 z1 = -detM v z1 z2:=by unfold detM;grind
  omega
 have c1:befB z1 (firstM e2.1 e2.2)=false:=by
  have k:befB v (firstM e2.1 e2.2)=false:=by rw [<-cmpB];exact decide_eq_false v1
  exact bef_asym (le_bef df dv d1 k b1)
 have c2:befB (lastM e2.1 e2.2) z1=false:=by
  have k:befB (lastM e2.1 e2.2) z2=false:=by rw [<-cmpB'];exact decide_eq_false w2
  exact bef_asym (bef_le d1 d2 dl hb k)
 rw [cmpB,cmpB',c1,c2,decide_eq_true side] at f
 simp at f
section
variable {A B:List (List Pt)}(sA:Sound A)(sB:Sound B)(op:Int)
include sA sB
theorem one_way {p q:Pt}(h1:(p,q)∈bordM op (piecesM A B))(h2:(q,p)∈bordM op (piecesM A B)):False:=by
 have key:∀ {p q:Pt},befB p q=true->(p,q)∈bordM op (piecesM A B)->(q,p)∈bordM op (piecesM A B)->False:=fun {p q} b h1 h2=>by
  have a1:inM op (pcOf (edgesM A) (edgesM B) (p,q)).la (pcOf (edgesM A) (edgesM B) (p,q)).lb=true:=by
   unfold bordM at h1
   obtain ⟨x,hx,hb⟩:=List.mem_flatMap.1 h1
   unfold piecesM at hx
   obtain ⟨z,hz,rfl⟩:=List.mem_map.1 hx
   have bz:=(prs_bef sA sB (x:=z) hz).1
   unfold bordOf at hb
   rcases List.mem_append.1 hb with hb | hb
   ·split at hb
    ·rename_i c
     have e:=List.mem_singleton.1 hb
     have ez:z=(p,q):=by rw [e];rfl
     rw [ez] at c
     simp only [Bool.and_eq_true] at c
     exact c.1
    ·cases hb
   ·split at hb
    ·have e:=List.mem_singleton.1 hb
     injection e with e1 e2
     have e1':p=z.2:=e1
     have e2':q=z.1:=e2
     rw [<-e1',<-e2',bef_asym b] at bz
     cases bz
    ·cases hb
  unfold bordM at h2
  obtain ⟨x,hx,hb⟩:=List.mem_flatMap.1 h2
  unfold piecesM at hx
  obtain ⟨z,hz,rfl⟩:=List.mem_map.1 hx
  have bz:=(prs_bef sA sB (x:=z) hz).1
  unfold bordOf at hb
  rcases List.mem_append.1 hb with hb | hb
  ·split at hb
   ·have e:=List.mem_singleton.1 hb
    injection e with e1 e2
    have e1':q=z.1:=e1
    have e2':p=z.2:=e2
    rw [<-e1',<-e2',bef_asym b] at bz
    cases bz
   ·cases hb
  ·split at hb
   ·rename_i c
    have e:=List.mem_singleton.1 hb
    injection e with e1 e2
    have e1':q=z.2:=e1
    have e2':p=z.1:=e2
    have ez:z=(p,q):=by rw [e1',e2']
    rw [ez] at c
    simp only [Bool.and_eq_true,Bool.not_eq_true'] at c
    rw [a1] at c
    cases c.2
   ·cases hb
 have n:=bord_nice sA sB op h1
 cases b1:befB p q
 ·cases b2:befB q p
  ·exact n.2.2 (canon_eq n.1.2 n.2.1.2 b1 b2)
  ·exact key b2 h2 h1
 ·exact key b1 h1 h2
omit sA sB in
omit sA sB in
end
end Go.Proofs.YtnkcbephceollabGreat
