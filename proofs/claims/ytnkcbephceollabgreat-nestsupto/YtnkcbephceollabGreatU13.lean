import Derived.Test.YtnkcbephceollabGreatU12
namespace Go.Proofs.YtnkcbephceollabGreat
open Go.RowKit
set_option linter.unusedSimpArgs false
set_option linter.unusedVariables false
def RingsMk (w:World)(F:Nat->Nat->Prop)(v:Value)(m:Int):Prop:=
 ∃ (a:Option Addr) (n cap:Nat),v = .slice a n cap/\n<=9223372036854775807/\∀ j,j<n->∃ b off g c,a=some ⟨b,off,none⟩/\F b (off+j)/\(F g 0/\F g 1/\F g 2)/\w.cell? ⟨b,off+j,none⟩=some (.slice (some ⟨g,0,none⟩) 1 c)/\PtAt w g 0 ⟨m,0,0⟩
def PtsMk (w:World)(F:Nat->Nat->Prop)(v:Value)(m:Int):Prop:=
 ∃ (a:Option Addr) (n cap:Nat),v = .slice a n cap/\n<=9223372036854775807/\∀ j,j<n->∃ b off,a=some ⟨b,off,none⟩/\(F b (off+j*3)/\F b (off+j*3+1)/\F b (off+j*3+2))/\PtAt w b (off+j*3) ⟨0,m,0⟩
structure PcAt (w:World)(b o:Nat)(m:Int):Prop where
 c0:w.cell? ⟨b,o,none⟩=some (.int .i64 0)
 c1:w.cell? ⟨b,o+1,none⟩=some (.int .i64 0)
 c2:w.cell? ⟨b,o+2,none⟩=some (.int .i64 m)
 c3:w.cell? ⟨b,o+3,none⟩=some (.int .i64 0)
 c4:w.cell? ⟨b,o+4,none⟩=some (.int .i64 0)
 c5:w.cell? ⟨b,o+5,none⟩=some (.int .i64 0)
 c6:w.cell? ⟨b,o+6,none⟩=some (.bool false)
 c7:w.cell? ⟨b,o+7,none⟩=some (.bool false)
 c8:w.cell? ⟨b,o+8,none⟩=some (.bool false)
 c9:w.cell? ⟨b,o+9,none⟩=some (.bool false)
def PcsMk (w:World)(F:Nat->Nat->Prop)(v:Value)(m:Int):Prop:=
 ∃ (a:Option Addr) (n cap:Nat),v = .slice a n cap/\n<=9223372036854775807/\∀ j,j<n->∃ b off,a=some ⟨b,off,none⟩/\(∀ t,t<10->F b (off+j*10+t))/\PcAt w b (off+j*10) m
def NumsMk (w:World)(F:Nat->Nat->Prop)(v:Value)(m:Int):Prop:=
 ∃ (a:Option Addr) (n cap:Nat),v = .slice a n cap/\n<=9223372036854775807/\∀ j,j<n->∃ b off,a=some ⟨b,off,none⟩/\F b (off+j)/\w.cell? ⟨b,off+j,none⟩=some (.int .i64 m)
structure HoldMk (w:World)(F:Nat->Nat->Prop)(h:Nat)(m:Int)(rv pv cv nv:Value):Prop where
 own:∀ o,o<5->F h o
 c0:w.cell? ⟨h,0,none⟩=some rv
 c1:w.cell? ⟨h,1,none⟩=some pv
 c2:w.cell? ⟨h,2,none⟩=some cv
 c3:w.cell? ⟨h,3,none⟩=some nv
 c4:w.cell? ⟨h,4,none⟩=some (.int .i64 m)
 rings:RingsMk w F rv m
 points:PtsMk w F pv m
 pieces:PcsMk w F cv m
 nums:NumsMk w F nv m
set_option maxRecDepth 100000 in
set_option maxHeartbeats 4000000 in
theorem marked_yes (F:Nat->Nat->Prop)(h:Nat)(m:Int)(rv pv cv nv:Value)(w:World)(hm:HoldMk w F h m rv pv cv nv) :
  Calls Tryz.prog 14 #[.pointer (some ⟨h,0,none⟩)] w fun e w'=>e = .returned (.bool true)/\∃ n,w'=w.drewN n:=by
 obtain ⟨_,h0,h1,h2,h3,h4,⟨ra,rn,rc,rfl,rl,hr⟩,⟨pa,pn,pc,rfl,pl,hp⟩,⟨ca,cn,cc,rfl,cl,hc⟩,⟨na,nn,nc,rfl,nl,hn⟩⟩:=hm
 have hneq:=neq_pt
 have e1:eqP ⟨m,0,0⟩ ⟨m,0,0⟩=true:=eqP_self _
 have e2:eqP ⟨0,m,0⟩ ⟨0,m,0⟩=true:=eqP_self _
 go_enter Tryz.func14,Tryz.ntmps14
 go_wp2_with fail
 go_loopw [3] (fun i w'=>∃ (k n:Nat),i = .int .i64 k/\k<=rn/\w'=w.drewN n) (fun i _=>rn-(intOf i).toNat)
 case atStart=>exact ⟨0,0,rfl,Nat.zero_le _,rfl⟩
 case round=>
  obtain ⟨k,n,rfl,hk,rfl⟩:=hrel
  by_cases hlt:k<rn
  ·obtain ⟨b,off,g,c,rfl,_,_,c0,p0,p1,p2⟩:=hr k hlt
   simp only [Nat.zero_add] at p1 p2
   have hk0:(0:Int)<=(k:Int):=Int.natCast_nonneg _
   have hk1:(k:Int)<(rn:Int):=by omega
   clear hr hp hc hn
   go_wp2_with fail
   go_quiet (fail)
   go_wp2
   go_roundw
   case rel=>exact ⟨k+1,_,by go_num,by omega,rfl⟩
   case measure=>simp [intOf];omega
  clear hr
  go_wp2_with fail
  go_loopw [4] (fun i w'=>∃ (k n:Nat),i = .int .i64 k/\k<=pn/\w'=w.drewN n) (fun i _=>pn-(intOf i).toNat)
  case atStart=>exact ⟨0,n,rfl,Nat.zero_le _,rfl⟩
  case round=>
   obtain ⟨k2,n2,rfl,hk2,rfl⟩:=hrel
   by_cases hlt2:k2<pn
   ·obtain ⟨b,off,rfl,_,p0,p1,p2⟩:=hp k2 hlt2
    have hk0:(0:Int)<=(k2:Int):=Int.natCast_nonneg _
    have hk1:(k2:Int)<(pn:Int):=by omega
    clear hp hc hn
    go_wp2_with fail
    go_quiet (fail)
    go_wp2
    go_roundw
    case rel=>exact ⟨k2+1,_,by go_num,by omega,rfl⟩
    case measure=>simp [intOf];omega
   clear hp
   go_wp2_with fail
   go_loopw [5] (fun i w'=>∃ (k n:Nat),i = .int .i64 k/\k<=cn/\w'=w.drewN n) (fun i _=>cn-(intOf i).toNat)
   case atStart=>exact ⟨0,n2,rfl,Nat.zero_le _,rfl⟩
   case round=>
    obtain ⟨k3,n3,rfl,hk3,rfl⟩:=hrel
    by_cases hlt3:k3<cn
    ·obtain ⟨b,off,rfl,_,⟨q0,q1,q2,q3,q4,q5,q6,q7,q8,q9⟩⟩:=hc k3 hlt3
     have hk0:(0:Int)<=(k3:Int):=Int.natCast_nonneg _
     have hk1:(k3:Int)<(cn:Int):=by omega
     clear hc hn
     go_wp2_with fail
     go_quiet (fail)
     go_wp2
     go_roundw
     case rel=>exact ⟨k3+1,_,by go_num,by omega,rfl⟩
     case measure=>simp [intOf];omega
    clear hc
    go_wp2_with fail
    go_loopw [6] (fun i w'=>∃ (k n:Nat),i = .int .i64 k/\k<=nn/\w'=w.drewN n) (fun i _=>nn-(intOf i).toNat)
    case atStart=>exact ⟨0,n3,rfl,Nat.zero_le _,rfl⟩
    case round=>
     obtain ⟨k4,n4,rfl,hk4,rfl⟩:=hrel
     by_cases hlt4:k4<nn
     ·obtain ⟨b,off,rfl,_,q0⟩:=hn k4 hlt4
      have hk0:(0:Int)<=(k4:Int):=Int.natCast_nonneg _
      have hk1:(k4:Int)<(nn:Int):=by omega
      clear hn
      go_wp2_with fail
      go_quiet (fail)
      go_wp2
      go_roundw
      case rel=>exact ⟨k4+1,_,by go_num,by omega,rfl⟩
      case measure=>simp [intOf];omega
     clear hn
     go_wp2
     go_ret
     exact ⟨rfl,n4,rfl⟩
def HoldsAt (w:World)(hv:Value)(L:List Nat):Prop:=
 ∃ (a:Option Addr) (cap:Nat),hv = .slice a L.length cap/\L.length<=9223372036854775807/\∀ j,j<L.length->∃ b off,a=some ⟨b,off,none⟩/\w.cell? ⟨b,off+j,none⟩=some (.pointer (some ⟨L.getD j 0,0,none⟩))
def AllMk (w:World)(L:List Nat):Prop:=∀ j,j<L.length->∃ F m rv pv cv nv,HoldMk w F (L.getD j 0) m rv pv cv nv
theorem HoldMk.later {w w':World}{F F':Nat->Nat->Prop}{h:Nat}{m:Int}{rv pv cv nv:Value}(k:HoldMk w F h m rv pv cv nv)(e:∀ b o u,F b o->w.cell? ⟨b,o,none⟩=some u->w'.cell? ⟨b,o,none⟩=some u/\F' b o):HoldMk w' F' h m rv pv cv nv:=by
 refine ⟨fun o ho=>?_,(e _ _ _ (k.own 0 (by decide)) k.c0).1,(e _ _ _ (k.own 1 (by decide)) k.c1).1,(e _ _ _ (k.own 2 (by decide)) k.c2).1,(e _ _ _ (k.own 3 (by decide)) k.c3).1,(e _ _ _ (k.own 4 (by decide)) k.c4).1,?_,?_,?_,?_⟩
 ·match o,ho with
  | 0,_=>exact (e _ _ _ (k.own 0 (by decide)) k.c0).2
  | 1,_=>exact (e _ _ _ (k.own 1 (by decide)) k.c1).2
  | 2,_=>exact (e _ _ _ (k.own 2 (by decide)) k.c2).2
  | 3,_=>exact (e _ _ _ (k.own 3 (by decide)) k.c3).2
  | 4,_=>exact (e _ _ _ (k.own 4 (by decide)) k.c4).2
 ·obtain ⟨a,n,cap,e1,e2,f⟩:=k.rings
  refine ⟨a,n,cap,e1,e2,fun j hj=>?_⟩
  obtain ⟨b,off,g,cc,e3,fb,⟨g0,g1,g2⟩,h1,⟨h2,h3,h4⟩⟩:=f j hj
  exact ⟨b,off,g,cc,e3,(e _ _ _ fb h1).2,⟨(e _ _ _ g0 h2).2,(e _ _ _ g1 h3).2,(e _ _ _ g2 h4).2⟩,(e _ _ _ fb h1).1,⟨(e _ _ _ g0 h2).1,(e _ _ _ g1 h3).1,(e _ _ _ g2 h4).1⟩⟩
 ·obtain ⟨a,n,cap,e1,e2,f⟩:=k.points
  refine ⟨a,n,cap,e1,e2,fun j hj=>?_⟩
  obtain ⟨b,off,e3,⟨g0,g1,g2⟩,⟨h2,h3,h4⟩⟩:=f j hj
  exact ⟨b,off,e3,⟨(e _ _ _ g0 h2).2,(e _ _ _ g1 h3).2,(e _ _ _ g2 h4).2⟩,⟨(e _ _ _ g0 h2).1,(e _ _ _ g1 h3).1,(e _ _ _ g2 h4).1⟩⟩
 ·obtain ⟨a,n,cap,e1,e2,f⟩:=k.pieces
  refine ⟨a,n,cap,e1,e2,fun j hj=>?_⟩
  obtain ⟨b,off,e3,g,⟨q0,q1,q2,q3,q4,q5,q6,q7,q8,q9⟩⟩:=f j hj
  refine ⟨b,off,e3,fun t ht=>?_,⟨(e _ _ _ (g 0 (by decide)) q0).1,(e _ _ _ (g 1 (by decide)) q1).1,(e _ _ _ (g 2 (by decide)) q2).1,(e _ _ _ (g 3 (by decide)) q3).1,(e _ _ _ (g 4 (by decide)) q4).1,(e _ _ _ (g 5 (by decide)) q5).1,(e _ _ _ (g 6 (by decide)) q6).1,(e _ _ _ (g 7 (by decide)) q7).1,(e _ _ _ (g 8 (by decide)) q8).1,(e _ _ _ (g 9 (by decide)) q9).1⟩⟩
  match t,ht with
  | 0,_=>exact (e _ _ _ (g 0 (by decide)) q0).2
  | 1,_=>exact (e _ _ _ (g 1 (by decide)) q1).2
  | 2,_=>exact (e _ _ _ (g 2 (by decide)) q2).2
  | 3,_=>exact (e _ _ _ (g 3 (by decide)) q3).2
  | 4,_=>exact (e _ _ _ (g 4 (by decide)) q4).2
  | 5,_=>exact (e _ _ _ (g 5 (by decide)) q5).2
  | 6,_=>exact (e _ _ _ (g 6 (by decide)) q6).2
  | 7,_=>exact (e _ _ _ (g 7 (by decide)) q7).2
  | 8,_=>exact (e _ _ _ (g 8 (by decide)) q8).2
  | 9,_=>exact (e _ _ _ (g 9 (by decide)) q9).2
 ·obtain ⟨a,n,cap,e1,e2,f⟩:=k.nums
  refine ⟨a,n,cap,e1,e2,fun j hj=>?_⟩
  obtain ⟨b,off,e3,fb,h2⟩:=f j hj
  exact ⟨b,off,e3,(e _ _ _ fb h2).2,(e _ _ _ fb h2).1⟩
theorem HoldMk.drewN {w:World}{F:Nat->Nat->Prop}{h:Nat}{m:Int}{rv pv cv nv:Value}(k:HoldMk w F h m rv pv cv nv)(n:Nat):HoldMk (w.drewN n) F h m rv pv cv nv:=
 k.later (fun b o u f c=>⟨c,f⟩)
set_option maxRecDepth 100000 in
set_option maxHeartbeats 1000000 in
theorem looks_yes (b:Nat)(hv:Value)(L:List Nat)(w:World)(hw:w.cell? ⟨b,0,none⟩=some hv)(hL:HoldsAt w hv L)(hA:AllMk w L) :
  Calls Tryz.prog 7 #[.pointer (some ⟨b,0,none⟩)] w fun e w'=>e = .returned (.bool true)/\∃ n,w'=w.drewN n:=by
 obtain ⟨a,cap,rfl,hl,h3⟩:=hL
 go_enter Tryz.func7,Tryz.ntmps7
 go_wp2_with fail
 go_loopw [3,4] (fun i _ w'=>∃ (k n:Nat),i = .int .i64 k/\k<=L.length/\w'=w.drewN n) (fun i _ _=>L.length-(intOf i).toNat)
 case atStart=>exact ⟨0,0,rfl,Nat.zero_le _,rfl⟩
 case round=>
  obtain ⟨k,n,rfl,hk,rfl⟩:=hrel
  by_cases hlt:k<L.length
  ·obtain ⟨b',off,rfl,c0⟩:=h3 k hlt
   obtain ⟨F,m,rv,pv,cv,nv,hm⟩:=hA k hlt
   generalize L.getD k 0=h at *
   have HM:=hide hm
   clear h3 hA hm
   go_wp2_with fail
   refine (marked_yes F h m rv pv cv nv _ (HM.out.drewN _)).mono ?_
   rintro e w1 ⟨rfl,n1,rfl⟩
   go_wp2
   go_roundw
   case rel=>exact ⟨k+1,_,by go_num,by omega,rfl⟩
   case measure=>simp [intOf];omega
  ·clear h3 hA
   go_wp2
   go_ret
   exact ⟨rfl,n,rfl⟩
set_option maxRecDepth 100000 in
set_option maxHeartbeats 2000000 in
theorem marks_rings (h rb n cap ty:Nat)(m:Int)(vs:Array Value)(w:World)(hne:rb≠h)(hn:n<=9223372036854775807)(hsz:vs.size=n)(hh:Blk w h #[.slice (some ⟨rb,0,none⟩) n cap,.slice none 0 0,.slice none 0 0,.slice none 0 0,.int .i64 m])(hr:Blk w rb vs)(ht:TyAt w rb ty) :
  Calls Tryz.prog 51 #[.pointer (some ⟨h,0,none⟩)] w fun e w'=>e = .returned (.tuple #[])/\∃ (us:Array Value) (rg:Nat->Nat),us.size=n/\Blk w' rb us/\(∀ t,t<n->us[t]?=some (.slice (some ⟨rg t,0,none⟩) 1 1)/\w.heap.size<=rg t/\Blk w' (rg t) #[.int .i64 m,.int .i64 0,.int .i64 0])/\TyAt w' rb ty/\Kp (fun b=>b=rb) w w':=by
 go_enter Tryz.func51,Tryz.ntmps51
 go_wp2_with fail
 go_loopw [2] (fun i w'=>∃ (k:Nat) (us:Array Value) (rg:Nat->Nat),i = .int .i64 k/\k<=n/\us.size=n/\Blk w' rb us/\(∀ t,t<k->us[t]?=some (.slice (some ⟨rg t,0,none⟩) 1 1)/\w.heap.size<=rg t/\Blk w' (rg t) #[.int .i64 m,.int .i64 0,.int .i64 0])/\TyAt w' rb ty/\Kp (fun b=>b=rb) w w') (fun i _=>n-(intOf i).toNat)
 case atStart=>exact ⟨0,vs,fun _=>0,rfl,Nat.zero_le _,hsz,hr,fun t ht=>absurd ht (Nat.not_lt_zero _),ht,Kp.refl _ _⟩
 case round=>
  obtain ⟨k,us,rg,rfl,hk,hus,hrk,hmk,hty,hkp⟩:=hrel
  have hcell:∀ o,wr.cell? ⟨h,o,none⟩=w.cell? ⟨h,o,none⟩:=fun o=>World.cell?_of_block (w:=w) (hkp.block h hh.lt (fun e=>hne e.symm))
  have c0:=(hcell 0).trans (hh.cell 0)
  have c1:=(hcell 1).trans (hh.cell 1)
  have c2:=(hcell 2).trans (hh.cell 2)
  have c3:=(hcell 3).trans (hh.cell 3)
  have c4:=(hcell 4).trans (hh.cell 4)
  simp at c0 c1 c2 c3 c4
  clear hcell
  by_cases hlt:k<n
  ·obtain ⟨u0,hu0⟩:∃ u,us[k]?=some u:=⟨_,Array.getElem?_eq_getElem (by omega)⟩
   have hu:=(hrk.cell k).trans hu0
   have hf:=hrk.free
   have hl:=hrk.lt
   have hhl:h<wr.heap.size:=Nat.lt_of_lt_of_le hh.lt hkp.size
   have hk0:(0:Int)<=(k:Int):=Int.natCast_nonneg _
   have hk1:(k:Int)<(n:Int):=by omega
   have HM:=hide hmk
   have HU:=hide hu0
   clear hmk hu0
   go_wp2_with fail
   go_region
   go_wp2
   refine ⟨⟨k+1,us.setIfInBounds k (.slice (some ⟨wr.heap.size,0,none⟩) 1 1),fun t=>if t=k then wr.heap.size else rg t,by go_num,by omega,by simpa using hus,((hrk.set k (by omega) _).alloc _).drew,?_,((hty.setCell _ _ _).alloc _).drew,((hkp.setCell (fun _=>rfl) _).alloc _).drew⟩,by simp [intOf];omega⟩
   intro t ht
   dsimp only
   rw [Array.getElem?_setIfInBounds]
   by_cases e:k=t
   ·subst e
    rw [if_pos rfl,if_pos (by omega),if_pos rfl]
    exact ⟨rfl,hkp.size,(Blk.at _ (by simp)).drew⟩
   ·rw [if_neg e,if_neg (show ¬ t=k from fun x=>e x.symm)]
    obtain ⟨m1,m2,m3⟩:=HM.out t (by omega)
    have:=hr.lt
    exact ⟨m1,m2,((m3.off (by omega) _ _).alloc _).drew⟩
  ·have ek:k=n:=by omega
   subst ek
   have HM:=hide hmk
   clear hmk
   go_wp2_with fail
   refine wp_loop_rounds 1 ?_
   rw [rounds_succ]
   go_wp2_with fail
   refine wp_loop_rounds 1 ?_
   rw [rounds_succ]
   go_wp2_with fail
   refine wp_loop_rounds 1 ?_
   rw [rounds_succ]
   go_wp2
   go_end0
   exact ⟨rfl,us,rg,hus,hrk,HM.out,hty,hkp⟩
set_option maxRecDepth 100000 in
set_option maxHeartbeats 2000000 in
theorem marks_points (h rb n cap ty:Nat)(m:Int)(vs:Array Value)(w:World)(hne:rb≠h)(hn:n<=9223372036854775807)(hsz:vs.size=n*3)(hh:Blk w h #[.slice none 0 0,.slice (some ⟨rb,0,none⟩) n cap,.slice none 0 0,.slice none 0 0,.int .i64 m])(hr:Blk w rb vs)(ht:TyAt w rb ty) :
  Calls Tryz.prog 51 #[.pointer (some ⟨h,0,none⟩)] w fun e w'=>e = .returned (.tuple #[])/\∃ us:Array Value,us.size=n*3/\Blk w' rb us/\(∀ t,t<n->us[t*3]?=some (.int .i64 0)/\us[t*3+1]?=some (.int .i64 m)/\us[t*3+2]?=some (.int .i64 0))/\TyAt w' rb ty/\Kp (fun b=>b=rb) w w':=by
 obtain ⟨d0,d1,d2,d3,d4⟩:=And.intro (hh.cell 0) (And.intro (hh.cell 1) (And.intro (hh.cell 2) (And.intro (hh.cell 3) (hh.cell 4))))
 simp at d0 d1 d2 d3 d4
 go_enter Tryz.func51,Tryz.ntmps51
 go_wp2_with fail
 refine wp_loop_rounds 1 ?_
 rw [rounds_succ]
 go_wp2_with fail
 go_loopw [3] (fun i w'=>∃ (k:Nat) (us:Array Value),i = .int .i64 k/\k<=n/\us.size=n*3/\Blk w' rb us/\(∀ t,t<k->us[t*3]?=some (.int .i64 0)/\us[t*3+1]?=some (.int .i64 m)/\us[t*3+2]?=some (.int .i64 0))/\TyAt w' rb ty/\Kp (fun b=>b=rb) w w') (fun i _=>n-(intOf i).toNat)
 case atStart=>exact ⟨0,vs,rfl,Nat.zero_le _,hsz,hr,fun t ht=>absurd ht (Nat.not_lt_zero _),ht,Kp.refl _ _⟩
 case round=>
  obtain ⟨k,us,rfl,hk,hus,hrk,hmk,hty,hkp⟩:=hrel
  have hcell:∀ o,wr.cell? ⟨h,o,none⟩=w.cell? ⟨h,o,none⟩:=fun o=>World.cell?_of_block (w:=w) (hkp.block h hh.lt (fun e=>hne e.symm))
  have c0:=(hcell 0).trans d0
  have c1:=(hcell 1).trans d1
  have c2:=(hcell 2).trans d2
  have c3:=(hcell 3).trans d3
  have c4:=(hcell 4).trans d4
  clear hcell d0 d1 d2 d3 d4
  by_cases hlt:k<n
  ·obtain ⟨u0,hu0⟩:∃ u,us[k*3]?=some u:=⟨_,Array.getElem?_eq_getElem (by omega)⟩
   obtain ⟨u1,hu1⟩:∃ u,us[k*3+1]?=some u:=⟨_,Array.getElem?_eq_getElem (by omega)⟩
   obtain ⟨u2,hu2⟩:∃ u,us[k*3+2]?=some u:=⟨_,Array.getElem?_eq_getElem (by omega)⟩
   have x0:=(hrk.cell (k*3)).trans hu0
   have x1:=(hrk.cell (k*3+1)).trans hu1
   have x2:=(hrk.cell (k*3+2)).trans hu2
   have hf:=hrk.free
   have hl:=hrk.lt
   have hhl:h<wr.heap.size:=Nat.lt_of_lt_of_le hh.lt hkp.size
   have hk0:(0:Int)<=(k:Int):=Int.natCast_nonneg _
   have hk1:(k:Int)<(n:Int):=by omega
   have HM:=hide hmk
   clear hmk hu0 hu1 hu2
   go_wp2_with fail
   go_region
   go_wp2
   refine ⟨⟨k+1,((us.setIfInBounds (k*3) (.int .i64 0)).setIfInBounds (k*3+1) (.int .i64 m)).setIfInBounds (k*3+2) (.int .i64 0),by go_num,by omega,by simpa using hus,(((hrk.set (k*3) (by omega) _).set (k*3+1) (by simp;omega) _).set (k*3+2) (by simp;omega) _).drew,?_,(((hty.setCell _ _ _).setCell _ _ _).setCell _ _ _).drew,(((hkp.setCell (fun _=>rfl) _).setCell (fun _=>rfl) _).setCell (fun _=>rfl) _).drew⟩,by simp [intOf];omega⟩
   intro t ht
   have g:∀ o,(((us.setIfInBounds (k*3) (.int .i64 0)).setIfInBounds (k*3+1) (.int .i64 m)).setIfInBounds (k*3+2) (.int .i64 0))[o]?=if k*3+2=o then some (.int .i64 0) else if k*3+1=o then some (.int .i64 m) else if k*3=o then some (.int .i64 0) else us[o]?:=fun o=>by
    simp only [Array.getElem?_setIfInBounds,Array.size_setIfInBounds]
    split
    ·rw [if_pos (by omega)]
    ·split
     ·rw [if_pos (by omega)]
     ·split
      ·rw [if_pos (by omega)]
      ·rfl
   rw [g,g,g]
   by_cases e:k=t
   ·subst e
    refine ⟨?_,?_,?_⟩
    ·rw [if_neg (by omega),if_neg (by omega),if_pos rfl]
    ·rw [if_neg (by omega),if_pos rfl]
    ·rw [if_pos rfl]
   ·obtain ⟨m1,m2,m3⟩:=HM.out t (by omega)
    refine ⟨?_,?_,?_⟩
    ·rw [if_neg (by omega),if_neg (by omega),if_neg (by omega)];exact m1
    ·rw [if_neg (by omega),if_neg (by omega),if_neg (by omega)];exact m2
    ·rw [if_neg (by omega),if_neg (by omega),if_neg (by omega)];exact m3
  ·have ek:k=n:=by omega
   subst ek
   have HM:=hide hmk
   clear hmk
   go_wp2_with fail
   refine wp_loop_rounds 1 ?_
   rw [rounds_succ]
   go_wp2_with fail
   refine wp_loop_rounds 1 ?_
   rw [rounds_succ]
   go_wp2
   go_end0
   exact ⟨rfl,us,hus,hrk,HM.out,hty,hkp⟩
def rep (n:Nat)(l:List Value):List Value:=(List.replicate n l).flatten
theorem rep_succ (n:Nat)(l:List Value):rep (n+1) l=rep n l ++ l:=by
 unfold rep
 rw [List.replicate_succ']
 simp
theorem rep_len (n:Nat)(l:List Value):(rep n l).length=n*l.length:=by
 unfold rep
 simp
theorem rep_at (n j t:Nat)(l:List Value)(hj:j<n)(ht:t<l.length):(rep n l)[j*l.length+t]?=l[t]?:=by
 induction n with
 | zero=>omega
 | succ n ih=>
  rw [rep_succ]
  by_cases h:j<n
  ·rw [List.getElem?_append_left,ih h]
   rw [rep_len]
   have:=Nat.mul_le_mul_right l.length (show j+1<=n by omega)
   rw [Nat.add_mul] at this
   omega
  ·have e:j=n:=by omega
   subst e
   rw [List.getElem?_append_right (by rw [rep_len];omega),rep_len]
   congr 1
   omega
abbrev ptMk (m:Int):List Value:=[.int .i64 0,.int .i64 m,.int .i64 0]
abbrev pcMk (m:Int):List Value:=[.int .i64 0,.int .i64 0,.int .i64 m,.int .i64 0,.int .i64 0,.int .i64 0,.bool false,.bool false,.bool false,.bool false]
structure Fam (w:World)(base:Nat)(m:Int)(rv pv cv nv:Value)(nr np nc nn:Nat)(rs:List Nat):Prop where
 rl:rs.length=nr
 ro:w.ownsRow base 57 1 rv nr (rs.map fun g=>.slice (some ⟨g,0,none⟩) 1 1)
 rp:∀ g∈rs,PtAt w g 0 ⟨m,0,0⟩
 po:w.ownsRow base 31 3 pv np (rep np (ptMk m))
 co:w.ownsRow base 55 10 cv nc (rep nc (pcMk m))
 no:w.ownsRow base 3 1 nv nn (rep nn [.int .i64 m])
 rn:∀ g∈rs,rv.ownBlock≠some g/\pv.ownBlock≠some g/\cv.ownBlock≠some g/\nv.ownBlock≠some g
theorem Fam.mk' {w:World}{base:Nat}{m:Int}{rv pv cv nv:Value}{nr np nc nn:Nat}{rs:List Nat}(f:Fam w base m rv pv cv nv nr np nc nn rs){F:Nat->Nat->Prop}{h:Nat}
  (c0:w.cell? ⟨h,0,none⟩=some rv) (c1:w.cell? ⟨h,1,none⟩=some pv) (c2:w.cell? ⟨h,2,none⟩=some cv) (c3:w.cell? ⟨h,3,none⟩=some nv) (c4:w.cell? ⟨h,4,none⟩=some (.int .i64 m))
  (fh:∀ o,o<5->F h o) (fr:∀ b o,rv.ownBlock=some b->o<nr->F b o) (fg:∀ g∈rs,∀ o,F g o) (fp:∀ b o,pv.ownBlock=some b->o<np*3->F b o) (fc:∀ b o,cv.ownBlock=some b->o<nc*10->F b o) (fn:∀ b o,nv.ownBlock=some b->o<nn->F b o) :
  HoldMk w F h m rv pv cv nv:=by
 refine ⟨fh,c0,c1,c2,c3,c4,?_,?_,?_,?_⟩
 ·obtain ⟨a,cap,e1,e2,e3,e4⟩:=own_form f.ro
  refine ⟨a,nr,cap,e1,by unfold maxLen at e4;omega,fun j hj=>?_⟩
  obtain ⟨b,hb⟩:=e3 (by omega)
  have hj':j<rs.length:=by rw [f.rl];exact hj
  have hc:=own_cell f.ro b hb j (by omega)
  rw [List.getElem?_map,List.getElem?_eq_getElem hj'] at hc
  have hm:rs[j]∈rs:=List.getElem_mem hj'
  refine ⟨b,0,rs[j],1,e2 b hb,by rw [Nat.zero_add];exact fr b j hb hj,⟨fg _ hm 0,fg _ hm 1,fg _ hm 2⟩,by rw [Nat.zero_add];exact hc,f.rp _ hm⟩
 ·obtain ⟨a,cap,e1,e2,e3,e4⟩:=own_form f.po
  refine ⟨a,np,cap,e1,by unfold maxLen at e4;omega,fun j hj=>?_⟩
  obtain ⟨b,hb⟩:=e3 (by omega)
  have hc:=fun t (ht:t<3)=>(own_cell f.po b hb (j*3+t) (by omega)).trans (rep_at np j t (ptMk m) hj ht)
  refine ⟨b,0,e2 b hb,?_,?_⟩
  ·rw [Nat.zero_add]
   exact ⟨fp b _ hb (by omega),fp b _ hb (by omega),fp b _ hb (by omega)⟩
  ·rw [Nat.zero_add]
   exact ⟨hc 0 (by decide),hc 1 (by decide),hc 2 (by decide)⟩
 ·obtain ⟨a,cap,e1,e2,e3,e4⟩:=own_form f.co
  refine ⟨a,nc,cap,e1,by unfold maxLen at e4;omega,fun j hj=>?_⟩
  obtain ⟨b,hb⟩:=e3 (by omega)
  have hc:=fun t (ht:t<10)=>(own_cell f.co b hb (j*10+t) (by omega)).trans (rep_at nc j t (pcMk m) hj ht)
  refine ⟨b,0,e2 b hb,?_,?_⟩
  ·rw [Nat.zero_add]
   exact fun t ht=>fc b _ hb (by omega)
  ·rw [Nat.zero_add]
   exact ⟨hc 0 (by decide),hc 1 (by decide),hc 2 (by decide),hc 3 (by decide),hc 4 (by decide),hc 5 (by decide),hc 6 (by decide),hc 7 (by decide),hc 8 (by decide),hc 9 (by decide)⟩
 ·obtain ⟨a,cap,e1,e2,e3,e4⟩:=own_form f.no
  refine ⟨a,nn,cap,e1,by unfold maxLen at e4;omega,fun j hj=>?_⟩
  obtain ⟨b,hb⟩:=e3 (by omega)
  have hc:=(own_cell f.no b hb j (by omega)).trans (by simpa using rep_at nn j 0 [.int .i64 m] hj (by simp))
  refine ⟨b,0,e2 b hb,?_,?_⟩
  ·rw [Nat.zero_add]
   exact fn b _ hb hj
  ·rw [Nat.zero_add]
   exact hc
end Go.Proofs.YtnkcbephceollabGreat
