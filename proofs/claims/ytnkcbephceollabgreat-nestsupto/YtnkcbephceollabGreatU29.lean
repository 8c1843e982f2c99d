import Derived.Test.YtnkcbephceollabGreatU28
namespace Go.Proofs.YtnkcbephceollabGreat
open Go.RowKit
set_option linter.unusedSimpArgs false
set_option linter.unusedVariables false
theorem rinsGo_len (p:Pt):∀ (l:List Pt) (d:Bool),(rinsGo p l d).length<=l.length+(if d=true then 0 else 1)
 | [],d=>by unfold rinsGo;cases d <;> simp
 | x::l,d=>by
  unfold rinsGo
  have h1:=rinsGo_len p l true
  have h2:=rinsGo_len p l false
  cases d <;> cases placeB x p <;> cases befB p x <;> simp at h1 h2 ⊢ <;> omega
theorem rins_len (l:List Pt)(p:Pt):(rinsM l p).length<=l.length+1:=by have:=rinsGo_len p l false;simpa [rinsM] using this
theorem rinsGo_mem {p x:Pt}:∀ {l:List Pt} {d:Bool},x∈rinsGo p l d->x=p\/x∈l
 | [],d,h=>by unfold rinsGo at h;cases d <;> simp at h;exact .inl h
 | y::l,d,h=>by
  unfold rinsGo at h
  rcases List.mem_append.1 h with h | h
  ·split at h
   ·exact .inl (by simpa using h)
   ·cases h
  ·rcases List.mem_append.1 h with h | h
   ·split at h
    ·cases h
    ·exact .inr (by rw [List.mem_singleton.1 h];exact List.mem_cons_self ..)
   ·rcases rinsGo_mem h with h | h
    ·exact .inl h
    ·exact .inr (List.mem_cons_of_mem _ h)
theorem rins_gd {l:List Pt}{p:Pt}(hl:∀ x∈l,Gd x)(hp:Gd p):∀ x∈rinsM l p,Gd x:=fun x hx=>by
 rcases rinsGo_mem hx with rfl | h
 ·exact hp
 ·exact hl x h
def ri (E:List (Pt×Pt))(e:Pt×Pt)(s:List Pt)(k:Nat):List Pt:=(E.take k).foldl (fun s f=>rstepM s (meetM e.1 e.2 f.1 f.2)) s
def rspO (E:List (Pt×Pt))(i:Nat):List Pt:=(List.range i).foldl (fun s i=>(E.take i).foldl (fun s f=>rstepM s (meetM (E.getD i (zP,zP)).1 (E.getD i (zP,zP)).2 f.1 f.2)) (rinsM s (E.getD i (zP,zP)).1)) []
theorem ri_succ (E:List (Pt×Pt))(e:Pt×Pt)(s:List Pt)(k:Nat)(hk:k<E.length):ri E e s (k+1)=rstepM (ri E e s k) (meetM e.1 e.2 (E.getD k (zP,zP)).1 (E.getD k (zP,zP)).2):=by
 unfold ri
 rw [List.take_succ_eq_append_getElem hk,List.foldl_append,List.getD_eq_getElem?_getD,List.getElem?_eq_getElem hk];rfl
theorem rspO_succ (E:List (Pt×Pt))(i:Nat):rspO E (i+1)=ri E (E.getD i (zP,zP)) (rinsM (rspO E i) (E.getD i (zP,zP)).1) i:=by
 unfold rspO ri
 rw [List.range_succ,List.foldl_append];rfl
theorem RingAt.form {w:World}{v:Value}{r:List Pt}(h:RingAt w v r):∃ a cap,v = .slice a r.length cap:=by
 obtain ⟨a,cap,e,_⟩:=h
 exact ⟨a,cap,e⟩
theorem rinsert_r (v:Value)(l:List Pt)(p:Pt)(w:World)(hl:RingAt w v l)(gl:∀ x∈l,Gd x)(hp:Gd p)(hn:l.length<=99999) :
  Calls Tryz.prog 112 #[v,p.v] w fun e w'=>∃ v',e = .returned v'/\RingAt w' v' (rinsM l p)/\Below w.heap.size w w':=by
 refine (rinsert_any v l p w hl gl hp (by omega)).mono ?_
 rintro e w' ⟨v',rfl,o,k⟩
 have:=rins_len l p
 exact ⟨v',rfl,ring_of_own o (by unfold maxLen;omega),k⟩
set_option maxRecDepth 100000 in
set_option maxHeartbeats 8000000 in
theorem rspots_any (ev:Value)(E:List (Pt×Pt))(w:World)(hE:SegsAt w ev E)(gE:∀ e∈E,(Gr e.1/\Gr e.2)/\e.1≠e.2)(hn:E.length<=100) :
  Calls Tryz.prog 88 #[ev] w fun e w'=>∃ v',e = .returned v'/\RingAt w' v' (rspotsM E)/\Below w.heap.size w w':=by
 obtain ⟨ea,ecap,rfl,e1,e2,e3⟩:=hE
 unfold maxLen at e2
 have EE:=hide e3
 have GE:=hide gE
 clear e3 gE
 go_enter Tryz.func88,Tryz.ntmps88
 go_wp2_with fail
 go_loopw [3,4,5,6] (fun lv iv _ _ w'=>∃ i:Nat,iv = .int .i64 i/\i<=E.length/\RingAt w' lv (rspO E i)/\(rspO E i).length<=300*i/\Hid (∀ x∈rspO E i,Gd x)/\Below w.heap.size w w') (fun _ iv _ _ _=>E.length-(intOf iv).toNat)
 case atStart=>exact ⟨0,rfl,Nat.zero_le _,⟨none,0,rfl,Nat.le_refl _,by decide,fun j hj=>by simp [rspO] at hj⟩,Nat.zero_le _,fun x hx=>(by cases hx),Below.refl _ _⟩
 case round=>
  obtain ⟨i,rfl,hi,hR,hlen,HGd,hbel⟩:=hrel
  by_cases hlt:i<E.length
  ·obtain ⟨b,off,rfl,hb,hs⟩:=EE.out i hlt
   obtain ⟨c0,c1,c2,c3,c4,c5⟩:=hs.later hbel hb
   obtain ⟨⟨g1,g2⟩,g0⟩:=GE.out _ (getD_mem hlt (zP,zP))
   have HN:=hide (rspO_succ E i)
   have HSi:Hid (∀ wz,Below w.heap.size w wz->SegAt wz b (off+i*6) (E.getD i (zP,zP))):=fun wz kz=>hs.later kz hb
   generalize E.getD i (zP,zP)=e at *
   generalize rspO E i=l at *
   have hi0:(0:Int)<=(i:Int):=Int.natCast_nonneg _
   have hi1:(i:Int)<(E.length:Int):=by omega
   have hil:=rins_len l e.1
   have HGi:=hide (rins_gd HGd.out g1.gd)
   have hR':=hide hR
   have hHB:=hide hbel
   clear hs hR hbel
   go_wp2_with fail
   refine (rinsert_r u3 l e.1 _ hR'.out HGd.out g1.gd (by omega)).mono ?_
   rintro e' w1 ⟨v1,rfl,hR1,k1⟩
   have B1:=bvia hHB.out k1
   obtain ⟨va,vcap,rfl⟩:=hR1.form
   have hR1':=hide hR1
   have hB1':=hide B1
   clear c0 c1 c2 c3 c4 c5 k1 hR' hHB hR1 B1
   go_wp2_with fail
   go_loopw [3,5,6] (fun lv kv _ w'=>∃ k:Nat,kv = .int .i64 k/\k<=i/\RingAt w' lv (ri E e (rinsM l e.1) k)/\(ri E e (rinsM l e.1) k).length<=300*i+1+2*k/\Hid (∀ x∈ri E e (rinsM l e.1) k,Gd x)/\Below w.heap.size w w') (fun _ kv _ _=>i-(intOf kv).toNat)
   case atStart=>exact ⟨0,rfl,Nat.zero_le _,hR1'.out,by show (rinsM l e.1).length<=_;omega,HGi,hB1'.out⟩
   case round=>
    clear hR1' hB1'
    obtain ⟨k,rfl,hk,hR,hlk,HGk,hbel⟩:=hrel
    by_cases hkt:k<i
    ·obtain ⟨b',off',e0,hb',hs'⟩:=EE.out k (by omega)
     simp at e0
     obtain ⟨rfl,rfl⟩:=e0
     obtain ⟨c0,c1,c2,c3,c4,c5⟩:=hs'.later hbel hb'
     obtain ⟨d0,d1,d2,d3,d4,d5⟩:=HSi.out _ hbel
     obtain ⟨⟨g3,g4⟩,g5⟩:=GE.out _ (getD_mem (show k<E.length by omega) (zP,zP))
     have HM:=hide (ri_succ E e (rinsM l e.1) k (by omega))
     generalize E.getD k (zP,zP)=f at *
     have HRm:=hide (rmeet_eq g1.d g2.d g3.d g4.d g0 g5)
     have hnm:=meet_nice g1 g2 g3 g4
     have C:=fun wz=>rmeet_any e.1 e.2 f.1 f.2 wz g1 g2 g3 g4
     have hk0:(0:Int)<=(k:Int):=Int.natCast_nonneg _
     have hk1:(k:Int)<(E.length:Int):=by omega
     have hR':=hide hR
     have hHB:=hide hbel
     have hzr:=hbel.size
     have hbw:b<wr.heap.size:=by omega
     clear hs' hR
     go_upto_region 9 with fail
     go_cut [6] (fun mp w'=>∃ mb:Nat,mp = .pointer (some ⟨mb,0,none⟩)/\Blk w' mb #[.int .i64 (rmeetM e.1 e.2 f.1 f.2).k,.int .i64 (rmeetM e.1 e.2 f.1 f.2).p.x,.int .i64 (rmeetM e.1 e.2 f.1 f.2).p.y,.int .i64 (rmeetM e.1 e.2 f.1 f.2).p.d,.int .i64 (rmeetM e.1 e.2 f.1 f.2).q.x,.int .i64 (rmeetM e.1 e.2 f.1 f.2).q.y,.int .i64 (rmeetM e.1 e.2 f.1 f.2).q.d]/\Below wr.heap.size wr w')
     case first=>
      clear HM HRm hnm HSi EE GE HGk HN HGd HGi
      go_region_with (go_at_call 38;refine (C _).mono ?_;rintro e' w2 ⟨rfl,k2⟩;have hzr2:=k2.size;obtain ⟨hc1,hf1⟩:=bcell k2)
      all_goals
       clear c0 c1 c2 c3 c4 c5 d0 d1 d2 d3 d4 d5 hc1 hf1
       go_wp2_with fail
       go_meet
       first
        |(have kx:Below wr.drew.heap.size wr.drew w2:=k2;exact ⟨w2.heap.size,rfl,Blk.new w2 _ _,(bvia (Below.refl _ _).drew k2).alloc (bvia (Below.refl _ _).drew k2).size _⟩)
        | exact ⟨wr.heap.size,rfl,(((Blk.new wr _ _).drew).call k2).put7,below_set7 (bvia (((Below.refl _ _).alloc (Nat.le_refl _) _).drew) k2) (Nat.le_refl _)⟩
     case rest=>
      obtain ⟨mb,rfl,hM,k2⟩:=hcut
      rw [HRm.out] at hM
      have R2:=hide (hR'.out.later k2)
      have B2:=bvia hHB.out k2
      have HST:=hide (show rstepM (ri E e (rinsM l e.1) k) (meetM e.1 e.2 f.1 f.2)=if (meetM e.1 e.2 f.1 f.2).k=2 then rinsM (if (meetM e.1 e.2 f.1 f.2).k≠0 then rinsM (ri E e (rinsM l e.1) k) (meetM e.1 e.2 f.1 f.2).p else ri E e (rinsM l e.1) k) (meetM e.1 e.2 f.1 f.2).q else (if (meetM e.1 e.2 f.1 f.2).k≠0 then rinsM (ri E e (rinsM l e.1) k) (meetM e.1 e.2 f.1 f.2).p else ri E e (rinsM l e.1) k) from rfl)
      clear c0 c1 c2 c3 c4 c5 d0 d1 d2 d3 d4 d5 hbel hHB hR' k2 HRm C
      generalize meetM e.1 e.2 f.1 f.2=m at *
      generalize hs0:ri E e (rinsM l e.1) k=s at *
      have hil2:=rins_len s m.p
      have hil3:=rins_len (rinsM s m.p) m.q
      clear hs0
      rcases hnm with hm | ⟨hm,hmp⟩ | ⟨hm,hmp,hmq⟩
      ·have HE:Hid (ri E e (rinsM l e.1) (k+1)=s):=HM.out.trans (HST.out.trans (by rw [if_neg (by omega),if_neg (by omega)]))
       rw [hm] at hM
       obtain ⟨cm,fm,zm⟩:=hM
       clear HM HST
       go_wp2
       go_roundw
       case rel=>exact ⟨k+1,by go_num,by omega,by rw [HE.out];exact R2.out,by rw [HE.out];omega,by rw [HE.out];exact HGk,B2⟩
       case measure=>simp [intOf];omega
      ·have HE:Hid (ri E e (rinsM l e.1) (k+1)=rinsM s m.p):=HM.out.trans (HST.out.trans (by rw [if_neg (by omega),if_pos (by omega)]))
       have HG2:=hide (rins_gd HGk.out (gd_nice hmp))
       rw [hm] at hM
       obtain ⟨cm,fm,zm⟩:=id hM
       clear HM HST
       go_wp2_with fail
       refine (rinsert_r u3 s m.p _ R2.out HGk.out (gd_nice hmp) (by omega)).mono ?_
       rintro e' w3 ⟨v3,rfl,hR3,k3⟩
       have M3:=hM.call k3
       have B3:=bvia B2 k3
       have R3:=hide hR3
       obtain ⟨cm3,fm3,zm3⟩:=M3
       clear cm fm zm k3 hM B2 R2 hR3
       go_wp2
       go_roundw
       case rel=>exact ⟨k+1,by go_num,by omega,by rw [HE.out];exact R3.out,by rw [HE.out];omega,by rw [HE.out];exact HG2,B3⟩
       case measure=>simp [intOf];omega
      ·have HE:Hid (ri E e (rinsM l e.1) (k+1)=rinsM (rinsM s m.p) m.q):=HM.out.trans (HST.out.trans (by rw [if_pos hm,if_pos (by omega)]))
       have HG2:=hide (rins_gd HGk.out (gd_nice hmp))
       have HG3:=hide (rins_gd HG2.out (gd_nice hmq))
       rw [hm] at hM
       obtain ⟨cm,fm,zm⟩:=id hM
       clear HM HST
       go_wp2_with fail
       refine (rinsert_r u3 s m.p _ R2.out HGk.out (gd_nice hmp) (by omega)).mono ?_
       rintro e' w3 ⟨v3,rfl,hR3,k3⟩
       have M3:=hM.call k3
       have B3:=bvia B2 k3
       have R3:=hide hR3
       obtain ⟨cm3,fm3,zm3⟩:=id M3
       clear cm fm zm k3 hM B2 R2 hR3
       go_wp2_with fail
       refine (rinsert_r v3 (rinsM s m.p) m.q _ R3.out HG2.out (gd_nice hmq) (by omega)).mono ?_
       rintro e' w4 ⟨v4,rfl,hR4,k4⟩
       have B4:=bvia B3 k4
       have R4:=hide hR4
       clear cm3 fm3 zm3 k4 M3 B3 R3 hR4
       go_wp2
       go_roundw
       case rel=>exact ⟨k+1,by go_num,by omega,by rw [HE.out];exact R4.out,by rw [HE.out];omega,by rw [HE.out];exact HG3,B4⟩
       case measure=>simp [intOf];omega
    ·have ek:k=i:=by omega
     subst ek
     have hki : ¬ (k:Int)<(k:Int):=by omega
     go_wp2
     go_roundw
     case rel=>exact ⟨k+1,by go_num,by omega,by rw [HN.out];exact hR,by rw [HN.out];omega,by rw [HN.out];exact HGk,hbel⟩
     case measure=>simp [intOf];omega
  ·have ei:i=E.length:=by omega
   subst ei
   go_wp2
   go_ret
   exact ⟨_,rfl,hR,hbel⟩
def bare (x:Pt×Pt):Pc:=⟨x.1,x.2,false,false,false,false⟩
theorem bare_pair (x:Pt×Pt):pairOf (bare x)=x:=rfl
theorem bare_map (L:List (Pt×Pt)):(L.map bare).map pairOf=L:=by
 rw [List.map_map];exact (List.map_congr_left (fun x _=>bare_pair x)).trans (List.map_id L)
theorem bare_sort (L:List (Pt×Pt))(x:Pt×Pt):sortP (L.map bare) (bare x)=(sortM L x).map bare:=by
 unfold sortP sortM
 rw [List.map_append,List.map_cons,List.takeWhile_map,List.dropWhile_map];rfl
theorem sortM_len (L:List (Pt×Pt))(x:Pt×Pt):(sortM L x).length=L.length+1:=by
 unfold sortM
 have:=congrArg List.length (List.takeWhile_append_dropWhile (p:=fun y=>aheadB y x) (l:=L))
 rw [List.length_append] at this ⊢
 rw [List.length_cons];omega
theorem sortM_mem {L:List (Pt×Pt)}{x y:Pt×Pt}(h:y∈sortM L x):y=x\/y∈L:=by
 unfold sortM at h
 rcases List.mem_append.1 h with h | h
 ·exact .inr ((List.takeWhile_sublist _).mem h)
 ·rcases List.mem_cons.1 h with h | h
  ·exact .inl h
  ·exact .inr ((List.dropWhile_sublist _).mem h)
def wk (e:Pt×Pt)(S:List Pt)(L:List (Pt×Pt))(k:Nat):List (Pt×Pt)×Pt:=(S.take k).foldl (rwalkM e) (L,zP)
theorem wk_zero (e:Pt×Pt)(S:List Pt)(L:List (Pt×Pt)):wk e S L 0=(L,zP):=rfl
theorem wk_succ (e:Pt×Pt)(S:List Pt)(L:List (Pt×Pt))(k:Nat)(hk:k<S.length):wk e S L (k+1)=rwalkM e (wk e S L k) (S.getD k zP):=by
 unfold wk
 rw [List.take_succ_eq_append_getElem hk,List.foldl_append,List.getD_eq_getElem?_getD,List.getElem?_eq_getElem hk];rfl
def wo (E:List (Pt×Pt))(S:List Pt)(i:Nat):List (Pt×Pt):=(E.take i).foldl (fun out e=>(S.foldl (rwalkM e) (out,zP)).1) []
theorem wo_succ (E:List (Pt×Pt))(S:List Pt)(i:Nat)(hi:i<E.length):wo E S (i+1)=(wk (E.getD i (zP,zP)) S (wo E S i) S.length).1:=by
 unfold wo wk
 rw [List.take_succ_eq_append_getElem hi,List.foldl_append,List.getD_eq_getElem?_getD,List.getElem?_eq_getElem hi,List.take_length];rfl
theorem wo_end (E:List (Pt×Pt))(S:List Pt):wo E S E.length=rpairsM E S:=by
 unfold wo rpairsM;rw [List.take_length]
theorem rwalk_len (e:Pt×Pt)(st:List (Pt×Pt)×Pt)(s:Pt):(rwalkM e st s).1.length<=st.1.length+1:=by
 unfold rwalkM
 split
 ·dsimp only
  split
  ·omega
  ·rw [sortM_len];omega
 ·omega
theorem wk_len (e:Pt×Pt)(S:List Pt)(L:List (Pt×Pt)):∀ k,k<=S.length->(wk e S L k).1.length<=L.length+k
 | 0,_=>by rw [wk_zero];exact Nat.le_refl _
 | k+1,h=>by
  rw [wk_succ e S L k h]
  have:=wk_len e S L k (by omega)
  have:=rwalk_len e (wk e S L k) (S.getD k zP)
  omega
theorem wo_len (E:List (Pt×Pt))(S:List Pt):∀ i,i<=E.length->(wo E S i).length<=i*S.length
 | 0,_=>by simp [wo]
 | i+1,h=>by
  rw [wo_succ E S i h]
  have:=wo_len E S i (by omega)
  have:=wk_len (E.getD i (zP,zP)) S (wo E S i) S.length (Nat.le_refl _)
  rw [Nat.succ_mul];omega
def WG (st:List (Pt×Pt)×Pt):Prop:=(∀ x∈st.1,Gd x.1/\Gd x.2)/\(st.2.d=0\/Gd st.2)
theorem WG.step {e:Pt×Pt}{st:List (Pt×Pt)×Pt}{s:Pt}(h:WG st)(hs:Gd s):WG (rwalkM e st s):=by
 unfold rwalkM
 split
 ·refine ⟨?_,.inr hs⟩
  dsimp only
  split
  ·exact h.1
  ·rename_i k
   intro x hx
   rcases sortM_mem hx with rfl | hx
   ·exact ⟨h.2.resolve_left (fun z=>k (.inl z)),hs⟩
   ·exact h.1 x hx
 ·exact h
theorem wk_good {e:Pt×Pt}{S:List Pt}{L:List (Pt×Pt)}(hS:∀ s∈S,Gd s)(hL:∀ x∈L,Gd x.1/\Gd x.2):∀ k,k<=S.length->WG (wk e S L k)
 | 0,_=>⟨hL,.inl rfl⟩
 | k+1,h=>by
  rw [wk_succ e S L k h]
  exact (wk_good hS hL k (by omega)).step (hS _ (getD_mem h zP))
theorem wo_good {E:List (Pt×Pt)}{S:List Pt}(hS:∀ s∈S,Gd s):∀ i,i<=E.length->∀ x∈wo E S i,Gd x.1/\Gd x.2
 | 0,_=>by simp [wo]
 | i+1,h=>by
  rw [wo_succ E S i h]
  exact (wk_good hS (wo_good hS i (by omega)) S.length (Nat.le_refl _)).1
theorem rstep_len (s:List Pt)(m:Mt):(rstepM s m).length<=s.length+2:=by
 unfold rstepM
 have h1:(if m.k≠0 then rinsM s m.p else s).length<=s.length+1:=by
  split
  ·exact rins_len s m.p
  ·omega
 split
 ·have:=rins_len (if m.k≠0 then rinsM s m.p else s) m.q
  omega
 ·omega
theorem ri_len (E:List (Pt×Pt))(e:Pt×Pt)(s:List Pt):∀ k,k<=E.length->(ri E e s k).length<=s.length+2*k
 | 0,_=>by simp [ri]
 | k+1,h=>by
  rw [ri_succ E e s k h]
  have:=ri_len E e s k (by omega)
  have:=rstep_len (ri E e s k) (meetM e.1 e.2 (E.getD k (zP,zP)).1 (E.getD k (zP,zP)).2)
  omega
theorem rspO_len (E:List (Pt×Pt))(n:Nat)(hn:E.length<=n):∀ i,i<=E.length->(rspO E i).length<=i*(2*n+1)
 | 0,_=>by simp [rspO]
 | i+1,h=>by
  rw [rspO_succ E i]
  have:=rspO_len E n hn i (by omega)
  have h2:=ri_len E (E.getD i (zP,zP)) (rinsM (rspO E i) (E.getD i (zP,zP)).1) i (by omega)
  have h3:=rins_len (rspO E i) (E.getD i (zP,zP)).1
  rw [Nat.succ_mul];omega
theorem rspots_len {E:List (Pt×Pt)}(h:E.length<=24):(rspotsM E).length<=1176:=by
 have h1:rspotsM E=rspO E E.length:=rfl
 have:=rspO_len E 24 h E.length (Nat.le_refl _)
 rw [h1];omega
theorem wpList_append_both {P:Program}{w:World}{ops:Array Oper}{rest:List Oper}{o:Oper}{a:Act}{Q:Exit->Act->World->Prop}(hgd:o.guard=none)(s x:Operand)(t:TypeId)
  (ho:o.op = .call { callee:=.builtin .append,args:=#[s,x],argTypes:=#[t,t] })
  (base:Nat) (e:TypeId) (i:TypeInfo) (z:Value) (size bytes:Nat) (ht:P.underlying t=some (.slice e)) (hi:P.info? e=some i) (hz:i.zero=some z)
  (hsize:i.size=size) (hby:i.bytes=bytes) (hzs:z.cells.size=size) (hsz:0<size)
  (v:Value) (n:Nat) (xs:List Value) (hs:a.eval s=v) (hown:w.ownsRow base e size v n xs)
  (ad:Option Addr) (m c:Nat) (news:List Value) (hx:a.eval x = .slice ad m c) (hl:news.length=m*size)
  (hnews:0<m->∃ A,ad=some A/\∀ j u,news[j]?=some u->w.cell? (A.add j)=some u) (h1:∀ u∈news,u.oneCell'=true)
  (h63:n+m<=maxLen) (hbytes:(n+m)*bytes<=140737488355328) (hbase:base<=w.heap.size)
  (h:∀ v' w',w'.ownsRow base e size v' (n+m) (xs ++ news)->Kp (fun b=>v.ownBlock=some b) w w'->wpList P ops Q rest (a.put o.dst v') w'):wpList P ops Q (o::rest) a w:=by
 by_cases hm:0<m
 ·obtain ⟨A,rfl,hA⟩:=hnews hm
  refine wpList_append_lies w hgd s x t ho base e i z size bytes ht hi hz hsize hby hzs hsz v n xs hs hown A m c news hx hl hA h1 hm h63 hbytes hbase _ rfl ?_
  intro g cap w' h2 h3 _ _
  exact h _ _ h2 (Kp.grown (Kp.refl _ _) h3 (fun k hk=>hk))
 ·have hm0:m=0:=by omega
  subst hm0
  have hn:news=[]:=List.eq_nil_of_length_eq_zero (by omega)
  subst hn
  refine wpList_append_zero hgd s x t ho base e i size ht hi v n xs hs hown ad c hx ?_
  exact h v w (by simpa using hown) (Kp.refl _ _)
theorem segs_both {w:World}{a:Option Addr}{cap:Nat}{E:List (Pt×Pt)}(h:SegsAt w (.slice a E.length cap) E):0<E.length->∃ A,a=some A/\∀ j u,(segCells E)[j]?=some u->w.cell? (A.add j)=some u:=by
 intro h0
 obtain ⟨a',cap',e,h1,h2,h3⟩:=h
 injection e with e1 e2 e3
 subst e1
 obtain ⟨b,off,rfl,hb,_⟩:=h3 0 h0
 refine ⟨⟨b,off,none⟩,rfl,segs_news fun j hj=>?_⟩
 obtain ⟨b',off',e',_,hp⟩:=h3 j hj
 simp at e'
 obtain ⟨rfl,rfl⟩:=e'
 exact hp
theorem ring_both {w:World}{a:Option Addr}{cap:Nat}{r:List Pt}(h:RingAt w (.slice a r.length cap) r):0<r.length->∃ A,a=some A/\∀ j u,(ptCells r)[j]?=some u->w.cell? (A.add j)=some u:=by
 intro h0
 obtain ⟨a',cap',e,h1,h2,h3⟩:=h
 injection e with e1 e2 e3
 subst e1
 obtain ⟨b,off,rfl,hb,_⟩:=h3 0 h0
 refine ⟨⟨b,off,none⟩,rfl,ring_news fun j hj=>?_⟩
 obtain ⟨b',off',e',_,hp⟩:=h3 j hj
 simp at e'
 obtain ⟨rfl,rfl⟩:=e'
 exact hp
end Go.Proofs.YtnkcbephceollabGreat

namespace Go.Proofs.YtnkcbephceollabGreat
open Go.RowKit
set_option linter.unusedSimpArgs false
set_option linter.unusedVariables false
def mixM (Q:List (Pt×Pt))(f:Pt×Pt->Pc)(i:Nat):List Pc:=(Q.take i).map f ++ (Q.drop i).map bare
theorem mix_len (Q:List (Pt×Pt))(f:Pt×Pt->Pc)(i:Nat):(mixM Q f i).length=Q.length:=by
 unfold mixM;simp;omega
theorem mix_zero (Q:List (Pt×Pt))(f:Pt×Pt->Pc):mixM Q f 0=Q.map bare:=by simp [mixM]
theorem mix_end (Q:List (Pt×Pt))(f:Pt×Pt->Pc):mixM Q f Q.length=Q.map f:=by simp [mixM]
theorem mix_at (Q:List (Pt×Pt))(f:Pt×Pt->Pc)(i:Nat)(hi:i<Q.length):(mixM Q f i).getD i zPc=bare (Q.getD i (zP,zP)):=by
 unfold mixM
 rw [List.getD_eq_getElem?_getD,List.getElem?_append_right (by simp;omega)]
 have:i-((Q.take i).map f).length=0:=by simp;omega
 rw [this,List.drop_eq_getElem_cons hi,List.getD_eq_getElem?_getD,List.getElem?_eq_getElem hi];rfl
theorem mix_set (Q:List (Pt×Pt))(f:Pt×Pt->Pc)(i:Nat)(hi:i<Q.length):(mixM Q f i).set i (f (Q.getD i (zP,zP)))=mixM Q f (i+1):=by
 unfold mixM
 have hl:((Q.take i).map f).length=i:=by simp;omega
 rw [List.set_append_right _ _ (by omega),hl,Nat.sub_self,List.drop_eq_getElem_cons hi,List.take_succ_eq_append_getElem hi,List.getD_eq_getElem?_getD,List.getElem?_eq_getElem hi,List.map_append,List.append_assoc]
 rfl
theorem pcCells_setA (L:List Pc)(j:Nat)(l r:Bool)(hj:j<L.length):((pcCells L).set (j*10+6) (.bool l)).set (j*10+7) (.bool r)=pcCells (L.set j { L.getD j zPc with la:=l,ra:=r }):=by
 induction L generalizing j with
 | nil=>simp at hj
 | cons x L ih=>
  have e:∀ y:Pc,∀ M,pcCells (y::M) = .int .i64 y.p.x :: .int .i64 y.p.y :: .int .i64 y.p.d :: .int .i64 y.q.x :: .int .i64 y.q.y :: .int .i64 y.q.d :: .bool y.la :: .bool y.ra :: .bool y.lb :: .bool y.rb::pcCells M:=fun y M=>by simp [pcCells,pcCell]
  cases j with
  | zero=>
   rw [List.set_cons_zero,e,e];simp
  | succ j=>
   rw [List.set_cons_succ,e,e,List.getD_cons_succ,<-ih j (by simpa using hj)]
   have s1:(j+1)*10=j*10+1+1+1+1+1+1+1+1+1+1:=by omega
   have s2:j*10+1+1+1+1+1+1+1+1+1+1+6=j*10+6+1+1+1+1+1+1+1+1+1+1:=by omega
   have s3:j*10+1+1+1+1+1+1+1+1+1+1+7=j*10+7+1+1+1+1+1+1+1+1+1+1:=by omega
   rw [s1,s2,s3]
   simp only [List.set_cons_succ]
theorem pcCells_setB (L:List Pc)(j:Nat)(l r:Bool)(hj:j<L.length):((pcCells L).set (j*10+8) (.bool l)).set (j*10+9) (.bool r)=pcCells (L.set j { L.getD j zPc with lb:=l,rb:=r }):=by
 induction L generalizing j with
 | nil=>simp at hj
 | cons x L ih=>
  have e:∀ y:Pc,∀ M,pcCells (y::M) = .int .i64 y.p.x :: .int .i64 y.p.y :: .int .i64 y.p.d :: .int .i64 y.q.x :: .int .i64 y.q.y :: .int .i64 y.q.d :: .bool y.la :: .bool y.ra :: .bool y.lb :: .bool y.rb::pcCells M:=fun y M=>by simp [pcCells,pcCell]
  cases j with
  | zero=>
   rw [List.set_cons_zero,e,e];simp
  | succ j=>
   rw [List.set_cons_succ,e,e,List.getD_cons_succ,<-ih j (by simpa using hj)]
   have s1:(j+1)*10=j*10+1+1+1+1+1+1+1+1+1+1:=by omega
   have s2:j*10+1+1+1+1+1+1+1+1+1+1+8=j*10+8+1+1+1+1+1+1+1+1+1+1:=by omega
   have s3:j*10+1+1+1+1+1+1+1+1+1+1+9=j*10+9+1+1+1+1+1+1+1+1+1+1:=by omega
   rw [s1,s2,s3]
   simp only [List.set_cons_succ]
theorem tell_both (L:List Pc)(j:Nat)(x:Pt×Pt)(a b c d:Bool)(hj:j<L.length)(hL:L.getD j zPc=bare x) :
  (L.set j { L.getD j zPc with la:=a,ra:=b }).getD j zPc=⟨x.1,x.2,a,b,false,false⟩/\
  (L.set j { L.getD j zPc with la:=a,ra:=b }).set j { (L.set j { L.getD j zPc with la:=a,ra:=b }).getD j zPc with lb:=c,rb:=d } = L.set j ⟨x.1,x.2,a,b,c,d⟩:=by
 have e1:(L.set j { L.getD j zPc with la:=a,ra:=b }).getD j zPc=⟨x.1,x.2,a,b,false,false⟩:=by
  rw [List.getD_eq_getElem?_getD,List.getElem?_set_self hj,hL];rfl
 refine ⟨e1,?_⟩
 rw [e1,List.set_set]
theorem rwalk_nice {e:Pt×Pt}{S:List Pt}{st:List (Pt×Pt)×Pt}(hS:∀ s∈S,goodB s=true)(h1:∀ x∈st.1,goodB x.1=true/\goodB x.2=true)(h2:st.2.d=0\/goodB st.2=true):∀ x∈(S.foldl (rwalkM e) st).1,goodB x.1=true/\goodB x.2=true:=by
 induction S generalizing st with
 | nil=>exact h1
 | cons s S ih=>
  rw [List.foldl_cons]
  have hs:=hS s (List.mem_cons_self)
  refine ih (fun y hy=>hS y (List.mem_cons_of_mem _ hy)) ?_ ?_
  ·unfold rwalkM
   split
   ·dsimp only
    split
    ·exact h1
    ·rename_i k
     intro x hx
     rcases sortM_mem hx with rfl | hx
     ·exact ⟨h2.resolve_left (fun z=>k (.inl z)),hs⟩
     ·exact h1 x hx
   ·exact h1
  ·unfold rwalkM
   split
   ·exact .inr hs
   ·exact h2
theorem rpairs_good {E:List (Pt×Pt)}{S:List Pt}(hS:∀ s∈S,goodB s=true):∀ x∈rpairsM E S,goodB x.1=true/\goodB x.2=true:=by
 unfold rpairsM
 have:∀ (F:List (Pt×Pt)) (out:List (Pt×Pt)),(∀ x∈out,goodB x.1=true/\goodB x.2=true)->∀ x∈F.foldl (fun out e=>(S.foldl (rwalkM e) (out,zP)).1) out,goodB x.1=true/\goodB x.2=true:=by
  intro F
  induction F with
  | nil=>exact fun out h=>h
  | cons e F ih=>exact fun out h=>ih _ (rwalk_nice hS h (.inl rfl))
 exact this E [] (fun x hx=>by simp at hx)
end Go.Proofs.YtnkcbephceollabGreat
