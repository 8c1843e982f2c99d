import Derived.Test.YtnkcbephceollabGreatU6
namespace Go.Proofs.YtnkcbephceollabGreat
open Go.RowKit
set_option linter.unusedSimpArgs false
set_option linter.unusedVariables false
theorem gcdM_step {s t:Int}(hs:0<=s)(ht:0<t):gcdM t (s % t)=gcdM s t:=by
 have e:s % t=s.tmod t:=(Int.tmod_eq_emod_of_nonneg hs).symm
 rw [e];unfold gcdM;rw [gcd_step]
theorem gcdM_zero {s:Int}(hs:0<=s):gcdM s 0=s:=by unfold gcdM;simp;omega
theorem gcdM_pos {s t:Int}(hs:0<s):0<gcdM s t:=by
 unfold gcdM
 have:Int.gcd s t≠0:=fun e=>by have:=(Int.gcd_eq_zero_iff.1 e).1;omega
 omega
theorem gcdM_le {s t:Int}(hs:0<s):gcdM s t<=s:=by
 have:=Int.gcd_le_natAbs_left (a:=s) (b:=t) (by omega);unfold gcdM;omega
theorem gcd3 (x y d:Int):gcdM (gcdM d (-x)) (-y)=gcdM (gcdM x y) d/\gcdM (gcdM d x) (-y)=gcdM (gcdM x y) d/\gcdM (gcdM d (-x)) y=gcdM (gcdM x y) d/\gcdM (gcdM d x) y=gcdM (gcdM x y) d:=by
 have h:gcdM (gcdM d x) y=gcdM (gcdM x y) d:=by
  unfold gcdM
  rw [Int.gcd_assoc,Int.gcd_comm]
 have n1:gcdM d (-x)=gcdM d x:=by unfold gcdM;rw [Int.gcd_neg]
 have n2:∀ z,gcdM z (-y)=gcdM z y:=fun z=>by unfold gcdM;rw [Int.gcd_neg]
 rw [n1,n2]
 exact ⟨h,h,h,h⟩
set_option maxHeartbeats 2000000 in
theorem rleast_nn (p:Pt)(w:World)(hp:Gd p)(hd:0<p.d)(hx:p.x<0)(hy:p.y<0) :
  Calls Tryz.prog 69 #[p.v] w fun e w'=>e = .returned (leastM p).v/\Below w.heap.size w w':=by
 have hG:gcdM (gcdM p.d (-p.x)) (-p.y)=gcdM (gcdM p.x p.y) p.d:=(gcd3 p.x p.y p.d).1
 have g1:=gcdM_pos (t:=-p.x) hd
 have g2:=gcdM_pos (t:=-p.y) g1
 have g3:=gcdM_le (t:=-p.x) hd
 have g4:=gcdM_le (t:=-p.y) g1
 have H:Hid (leastM p=⟨p.x.tdiv (gcdM (gcdM p.d (-p.x)) (-p.y)),p.y.tdiv (gcdM (gcdM p.d (-p.x)) (-p.y)),p.d.tdiv (gcdM (gcdM p.d (-p.x)) (-p.y))⟩):=by
  rw [hG];rw [hG] at g2;exact if_neg (by omega)
 obtain ⟨lx,ux⟩:=hp.x
 obtain ⟨ly,uy⟩:=hp.y
 obtain ⟨ld,ud⟩:=hp.d
 obtain ⟨mx,vx⟩:=tdiv_in (g:=gcdM (gcdM p.d (-p.x)) (-p.y)) hp.x
 obtain ⟨my,vy⟩:=tdiv_in (g:=gcdM (gcdM p.d (-p.x)) (-p.y)) hp.y
 obtain ⟨md,vd⟩:=tdiv_in (g:=gcdM (gcdM p.d (-p.x)) (-p.y)) hp.d
 clear hG hp
 go_enter Tryz.func69,Tryz.ntmps69
 go_wp2_with fail
 refine wp_loop_rounds 3 ?_
 rw [rounds_succ]
 go_wp2_with fail
 go_loop [3,6,7] (fun g n _=>∃ s t:Int,g = .int .i64 s/\n = .int .i64 t/\Hid (gcdM s t=gcdM p.d (-p.x))/\0<s/\s<=9223372036854775807/\0<=t/\t<=2097152) (fun _ n _=>(intOf n).toNat)
 case atStart=>exact ⟨p.d,-p.x,rfl,rfl,rfl,by omega,by omega,by omega,by omega⟩
 case round=>
  obtain ⟨s0,t0,rfl,rfl,HG0,hs0,ks0,ht0,kt0⟩:=hrel
  by_cases hz0:0<t0
  ·have HG':Hid (gcdM t0 (s0 % t0)=gcdM p.d (-p.x)):=(gcdM_step (by omega) hz0).trans HG0.out
   have e1:=Int.emod_nonneg s0 (show t0≠0 by omega)
   have e2:=Int.emod_lt_of_pos s0 hz0
   go_wp2
   go_round
   case rel=>exact ⟨t0,s0 % t0,rfl,rfl,HG',hz0,by omega,e1,by omega⟩
   case measure=>simp [intOf];omega
  have ez0:t0=0:=by omega
  subst ez0
  have es0:s0=gcdM p.d (-p.x):=(gcdM_zero (by omega)).symm.trans HG0.out
  subst es0
  clear HG0
  go_wp2_with fail
  rw [rounds_succ]
  go_wp2_with fail
  go_loop [3,6,7] (fun g n _=>∃ s t:Int,g = .int .i64 s/\n = .int .i64 t/\Hid (gcdM s t=gcdM (gcdM p.d (-p.x)) (-p.y))/\0<s/\s<=9223372036854775807/\0<=t/\t<=2097152) (fun _ n _=>(intOf n).toNat)
  case atStart=>exact ⟨gcdM p.d (-p.x),-p.y,rfl,rfl,rfl,by omega,by omega,by omega,by omega⟩
  case round=>
   obtain ⟨s1,t1,rfl,rfl,HG1,hs1,ks1,ht1,kt1⟩:=hrel
   by_cases hz1:0<t1
   ·have HG':Hid (gcdM t1 (s1 % t1)=gcdM (gcdM p.d (-p.x)) (-p.y)):=(gcdM_step (by omega) hz1).trans HG1.out
    have e1:=Int.emod_nonneg s1 (show t1≠0 by omega)
    have e2:=Int.emod_lt_of_pos s1 hz1
    go_wp2
    go_round
    case rel=>exact ⟨t1,s1 % t1,rfl,rfl,HG',hz1,by omega,e1,by omega⟩
    case measure=>simp [intOf];omega
   have ez1:t1=0:=by omega
   subst ez1
   have es1:s1=gcdM (gcdM p.d (-p.x)) (-p.y):=(gcdM_zero (by omega)).symm.trans HG1.out
   subst es1
   clear HG1
   go_wp2_with fail
   rw [rounds_succ]
   go_wp2_with fail
   go_region
   go_wp2
   exact bodyPost_ret (v:=Pt.v ⟨p.x.tdiv (gcdM (gcdM p.d (-p.x)) (-p.y)),p.y.tdiv (gcdM (gcdM p.d (-p.x)) (-p.y)),p.d.tdiv (gcdM (gcdM p.d (-p.x)) (-p.y))⟩) (by simp [results,Tryz.results69,go_sem]) rfl ⟨by rw [H.out],(below3 _ _ _ _).drew⟩
set_option maxHeartbeats 2000000 in
theorem rleast_np (p:Pt)(w:World)(hp:Gd p)(hd:0<p.d)(hx:p.x<0)(hy:0<=p.y) :
  Calls Tryz.prog 69 #[p.v] w fun e w'=>e = .returned (leastM p).v/\Below w.heap.size w w':=by
 have hG:gcdM (gcdM p.d (-p.x)) (p.y)=gcdM (gcdM p.x p.y) p.d:=(gcd3 p.x p.y p.d).2.2.1
 have g1:=gcdM_pos (t:=-p.x) hd
 have g2:=gcdM_pos (t:=p.y) g1
 have g3:=gcdM_le (t:=-p.x) hd
 have g4:=gcdM_le (t:=p.y) g1
 have H:Hid (leastM p=⟨p.x.tdiv (gcdM (gcdM p.d (-p.x)) (p.y)),p.y.tdiv (gcdM (gcdM p.d (-p.x)) (p.y)),p.d.tdiv (gcdM (gcdM p.d (-p.x)) (p.y))⟩):=by
  rw [hG];rw [hG] at g2;exact if_neg (by omega)
 obtain ⟨lx,ux⟩:=hp.x
 obtain ⟨ly,uy⟩:=hp.y
 obtain ⟨ld,ud⟩:=hp.d
 obtain ⟨mx,vx⟩:=tdiv_in (g:=gcdM (gcdM p.d (-p.x)) (p.y)) hp.x
 obtain ⟨my,vy⟩:=tdiv_in (g:=gcdM (gcdM p.d (-p.x)) (p.y)) hp.y
 obtain ⟨md,vd⟩:=tdiv_in (g:=gcdM (gcdM p.d (-p.x)) (p.y)) hp.d
 clear hG hp
 go_enter Tryz.func69,Tryz.ntmps69
 go_wp2_with fail
 refine wp_loop_rounds 3 ?_
 rw [rounds_succ]
 go_wp2_with fail
 go_loop [3,6,7] (fun g n _=>∃ s t:Int,g = .int .i64 s/\n = .int .i64 t/\Hid (gcdM s t=gcdM p.d (-p.x))/\0<s/\s<=9223372036854775807/\0<=t/\t<=2097152) (fun _ n _=>(intOf n).toNat)
 case atStart=>exact ⟨p.d,-p.x,rfl,rfl,rfl,by omega,by omega,by omega,by omega⟩
 case round=>
  obtain ⟨s0,t0,rfl,rfl,HG0,hs0,ks0,ht0,kt0⟩:=hrel
  by_cases hz0:0<t0
  ·have HG':Hid (gcdM t0 (s0 % t0)=gcdM p.d (-p.x)):=(gcdM_step (by omega) hz0).trans HG0.out
   have e1:=Int.emod_nonneg s0 (show t0≠0 by omega)
   have e2:=Int.emod_lt_of_pos s0 hz0
   go_wp2
   go_round
   case rel=>exact ⟨t0,s0 % t0,rfl,rfl,HG',hz0,by omega,e1,by omega⟩
   case measure=>simp [intOf];omega
  have ez0:t0=0:=by omega
  subst ez0
  have es0:s0=gcdM p.d (-p.x):=(gcdM_zero (by omega)).symm.trans HG0.out
  subst es0
  clear HG0
  go_wp2_with fail
  rw [rounds_succ]
  go_wp2_with fail
  go_loop [3,6,7] (fun g n _=>∃ s t:Int,g = .int .i64 s/\n = .int .i64 t/\Hid (gcdM s t=gcdM (gcdM p.d (-p.x)) (p.y))/\0<s/\s<=9223372036854775807/\0<=t/\t<=2097152) (fun _ n _=>(intOf n).toNat)
  case atStart=>exact ⟨gcdM p.d (-p.x),p.y,rfl,rfl,rfl,by omega,by omega,by omega,by omega⟩
  case round=>
   obtain ⟨s1,t1,rfl,rfl,HG1,hs1,ks1,ht1,kt1⟩:=hrel
   by_cases hz1:0<t1
   ·have HG':Hid (gcdM t1 (s1 % t1)=gcdM (gcdM p.d (-p.x)) (p.y)):=(gcdM_step (by omega) hz1).trans HG1.out
    have e1:=Int.emod_nonneg s1 (show t1≠0 by omega)
    have e2:=Int.emod_lt_of_pos s1 hz1
    go_wp2
    go_round
    case rel=>exact ⟨t1,s1 % t1,rfl,rfl,HG',hz1,by omega,e1,by omega⟩
    case measure=>simp [intOf];omega
   have ez1:t1=0:=by omega
   subst ez1
   have es1:s1=gcdM (gcdM p.d (-p.x)) (p.y):=(gcdM_zero (by omega)).symm.trans HG1.out
   subst es1
   clear HG1
   go_wp2_with fail
   rw [rounds_succ]
   go_wp2_with fail
   go_region
   go_wp2
   exact bodyPost_ret (v:=Pt.v ⟨p.x.tdiv (gcdM (gcdM p.d (-p.x)) (p.y)),p.y.tdiv (gcdM (gcdM p.d (-p.x)) (p.y)),p.d.tdiv (gcdM (gcdM p.d (-p.x)) (p.y))⟩) (by simp [results,Tryz.results69,go_sem]) rfl ⟨by rw [H.out],(below3 _ _ _ _).drew⟩
set_option maxHeartbeats 2000000 in
theorem rleast_pn (p:Pt)(w:World)(hp:Gd p)(hd:0<p.d)(hx:0<=p.x)(hy:p.y<0) :
  Calls Tryz.prog 69 #[p.v] w fun e w'=>e = .returned (leastM p).v/\Below w.heap.size w w':=by
 have hG:gcdM (gcdM p.d (p.x)) (-p.y)=gcdM (gcdM p.x p.y) p.d:=(gcd3 p.x p.y p.d).2.1
 have g1:=gcdM_pos (t:=p.x) hd
 have g2:=gcdM_pos (t:=-p.y) g1
 have g3:=gcdM_le (t:=p.x) hd
 have g4:=gcdM_le (t:=-p.y) g1
 have H:Hid (leastM p=⟨p.x.tdiv (gcdM (gcdM p.d (p.x)) (-p.y)),p.y.tdiv (gcdM (gcdM p.d (p.x)) (-p.y)),p.d.tdiv (gcdM (gcdM p.d (p.x)) (-p.y))⟩):=by
  rw [hG];rw [hG] at g2;exact if_neg (by omega)
 obtain ⟨lx,ux⟩:=hp.x
 obtain ⟨ly,uy⟩:=hp.y
 obtain ⟨ld,ud⟩:=hp.d
 obtain ⟨mx,vx⟩:=tdiv_in (g:=gcdM (gcdM p.d (p.x)) (-p.y)) hp.x
 obtain ⟨my,vy⟩:=tdiv_in (g:=gcdM (gcdM p.d (p.x)) (-p.y)) hp.y
 obtain ⟨md,vd⟩:=tdiv_in (g:=gcdM (gcdM p.d (p.x)) (-p.y)) hp.d
 clear hG hp
 go_enter Tryz.func69,Tryz.ntmps69
 go_wp2_with fail
 refine wp_loop_rounds 3 ?_
 rw [rounds_succ]
 go_wp2_with fail
 go_loop [3,6,7] (fun g n _=>∃ s t:Int,g = .int .i64 s/\n = .int .i64 t/\Hid (gcdM s t=gcdM p.d (p.x))/\0<s/\s<=9223372036854775807/\0<=t/\t<=2097152) (fun _ n _=>(intOf n).toNat)
 case atStart=>exact ⟨p.d,p.x,rfl,rfl,rfl,by omega,by omega,by omega,by omega⟩
 case round=>
  obtain ⟨s0,t0,rfl,rfl,HG0,hs0,ks0,ht0,kt0⟩:=hrel
  by_cases hz0:0<t0
  ·have HG':Hid (gcdM t0 (s0 % t0)=gcdM p.d (p.x)):=(gcdM_step (by omega) hz0).trans HG0.out
   have e1:=Int.emod_nonneg s0 (show t0≠0 by omega)
   have e2:=Int.emod_lt_of_pos s0 hz0
   go_wp2
   go_round
   case rel=>exact ⟨t0,s0 % t0,rfl,rfl,HG',hz0,by omega,e1,by omega⟩
   case measure=>simp [intOf];omega
  have ez0:t0=0:=by omega
  subst ez0
  have es0:s0=gcdM p.d (p.x):=(gcdM_zero (by omega)).symm.trans HG0.out
  subst es0
  clear HG0
  go_wp2_with fail
  rw [rounds_succ]
  go_wp2_with fail
  go_loop [3,6,7] (fun g n _=>∃ s t:Int,g = .int .i64 s/\n = .int .i64 t/\Hid (gcdM s t=gcdM (gcdM p.d (p.x)) (-p.y))/\0<s/\s<=9223372036854775807/\0<=t/\t<=2097152) (fun _ n _=>(intOf n).toNat)
  case atStart=>exact ⟨gcdM p.d (p.x),-p.y,rfl,rfl,rfl,by omega,by omega,by omega,by omega⟩
  case round=>
   obtain ⟨s1,t1,rfl,rfl,HG1,hs1,ks1,ht1,kt1⟩:=hrel
   by_cases hz1:0<t1
   ·have HG':Hid (gcdM t1 (s1 % t1)=gcdM (gcdM p.d (p.x)) (-p.y)):=(gcdM_step (by omega) hz1).trans HG1.out
    have e1:=Int.emod_nonneg s1 (show t1≠0 by omega)
    have e2:=Int.emod_lt_of_pos s1 hz1
    go_wp2
    go_round
    case rel=>exact ⟨t1,s1 % t1,rfl,rfl,HG',hz1,by omega,e1,by omega⟩
    case measure=>simp [intOf];omega
   have ez1:t1=0:=by omega
   subst ez1
   have es1:s1=gcdM (gcdM p.d (p.x)) (-p.y):=(gcdM_zero (by omega)).symm.trans HG1.out
   subst es1
   clear HG1
   go_wp2_with fail
   rw [rounds_succ]
   go_wp2_with fail
   go_region
   go_wp2
   exact bodyPost_ret (v:=Pt.v ⟨p.x.tdiv (gcdM (gcdM p.d (p.x)) (-p.y)),p.y.tdiv (gcdM (gcdM p.d (p.x)) (-p.y)),p.d.tdiv (gcdM (gcdM p.d (p.x)) (-p.y))⟩) (by simp [results,Tryz.results69,go_sem]) rfl ⟨by rw [H.out],(below3 _ _ _ _).drew⟩
set_option maxHeartbeats 2000000 in
theorem rleast_pp (p:Pt)(w:World)(hp:Gd p)(hd:0<p.d)(hx:0<=p.x)(hy:0<=p.y) :
  Calls Tryz.prog 69 #[p.v] w fun e w'=>e = .returned (leastM p).v/\Below w.heap.size w w':=by
 have hG:gcdM (gcdM p.d (p.x)) (p.y)=gcdM (gcdM p.x p.y) p.d:=(gcd3 p.x p.y p.d).2.2.2
 have g1:=gcdM_pos (t:=p.x) hd
 have g2:=gcdM_pos (t:=p.y) g1
 have g3:=gcdM_le (t:=p.x) hd
 have g4:=gcdM_le (t:=p.y) g1
 have H:Hid (leastM p=⟨p.x.tdiv (gcdM (gcdM p.d (p.x)) (p.y)),p.y.tdiv (gcdM (gcdM p.d (p.x)) (p.y)),p.d.tdiv (gcdM (gcdM p.d (p.x)) (p.y))⟩):=by
  rw [hG];rw [hG] at g2;exact if_neg (by omega)
 obtain ⟨lx,ux⟩:=hp.x
 obtain ⟨ly,uy⟩:=hp.y
 obtain ⟨ld,ud⟩:=hp.d
 obtain ⟨mx,vx⟩:=tdiv_in (g:=gcdM (gcdM p.d (p.x)) (p.y)) hp.x
 obtain ⟨my,vy⟩:=tdiv_in (g:=gcdM (gcdM p.d (p.x)) (p.y)) hp.y
 obtain ⟨md,vd⟩:=tdiv_in (g:=gcdM (gcdM p.d (p.x)) (p.y)) hp.d
 clear hG hp
 go_enter Tryz.func69,Tryz.ntmps69
 go_wp2_with fail
 refine wp_loop_rounds 3 ?_
 rw [rounds_succ]
 go_wp2_with fail
 go_loop [3,6,7] (fun g n _=>∃ s t:Int,g = .int .i64 s/\n = .int .i64 t/\Hid (gcdM s t=gcdM p.d (p.x))/\0<s/\s<=9223372036854775807/\0<=t/\t<=2097152) (fun _ n _=>(intOf n).toNat)
 case atStart=>exact ⟨p.d,p.x,rfl,rfl,rfl,by omega,by omega,by omega,by omega⟩
 case round=>
  obtain ⟨s0,t0,rfl,rfl,HG0,hs0,ks0,ht0,kt0⟩:=hrel
  by_cases hz0:0<t0
  ·have HG':Hid (gcdM t0 (s0 % t0)=gcdM p.d (p.x)):=(gcdM_step (by omega) hz0).trans HG0.out
   have e1:=Int.emod_nonneg s0 (show t0≠0 by omega)
   have e2:=Int.emod_lt_of_pos s0 hz0
   go_wp2
   go_round
   case rel=>exact ⟨t0,s0 % t0,rfl,rfl,HG',hz0,by omega,e1,by omega⟩
   case measure=>simp [intOf];omega
  have ez0:t0=0:=by omega
  subst ez0
  have es0:s0=gcdM p.d (p.x):=(gcdM_zero (by omega)).symm.trans HG0.out
  subst es0
  clear HG0
  go_wp2_with fail
  rw [rounds_succ]
  go_wp2_with fail
  go_loop [3,6,7] (fun g n _=>∃ s t:Int,g = .int .i64 s/\n = .int .i64 t/\Hid (gcdM s t=gcdM (gcdM p.d (p.x)) (p.y))/\0<s/\s<=9223372036854775807/\0<=t/\t<=2097152) (fun _ n _=>(intOf n).toNat)
  case atStart=>exact ⟨gcdM p.d (p.x),p.y,rfl,rfl,rfl,by omega,by omega,by omega,by omega⟩
  case round=>
   obtain ⟨s1,t1,rfl,rfl,HG1,hs1,ks1,ht1,kt1⟩:=hrel
   by_cases hz1:0<t1
   ·have HG':Hid (gcdM t1 (s1 % t1)=gcdM (gcdM p.d (p.x)) (p.y)):=(gcdM_step (by omega) hz1).trans HG1.out
    have e1:=Int.emod_nonneg s1 (show t1≠0 by omega)
    have e2:=Int.emod_lt_of_pos s1 hz1
    go_wp2
    go_round
    case rel=>exact ⟨t1,s1 % t1,rfl,rfl,HG',hz1,by omega,e1,by omega⟩
    case measure=>simp [intOf];omega
   have ez1:t1=0:=by omega
   subst ez1
   have es1:s1=gcdM (gcdM p.d (p.x)) (p.y):=(gcdM_zero (by omega)).symm.trans HG1.out
   subst es1
   clear HG1
   go_wp2_with fail
   rw [rounds_succ]
   go_wp2_with fail
   go_region
   go_wp2
   exact bodyPost_ret (v:=Pt.v ⟨p.x.tdiv (gcdM (gcdM p.d (p.x)) (p.y)),p.y.tdiv (gcdM (gcdM p.d (p.x)) (p.y)),p.d.tdiv (gcdM (gcdM p.d (p.x)) (p.y))⟩) (by simp [results,Tryz.results69,go_sem]) rfl ⟨by rw [H.out],(below3 _ _ _ _).drew⟩
theorem rleast_any (p:Pt)(w:World)(hp:Gd p)(hd:0<p.d) :
  Calls Tryz.prog 69 #[p.v] w fun e w'=>e = .returned (leastM p).v/\Below w.heap.size w w':=by
 by_cases hx:p.x<0
 ·by_cases hy:p.y<0
  ·exact rleast_nn p w hp hd hx hy
  ·exact rleast_np p w hp hd hx (by omega)
 ·by_cases hy:p.y<0
  ·exact rleast_pn p w hp hd (by omega) hy
  ·exact rleast_pp p w hp hd (by omega) (by omega)
theorem rcross_any (a b c d:Pt)(w:World)(ha:Gr a)(hb:Gr b)(hc:Gr c)(hd:Gr d) :
  Calls Tryz.prog 67 #[sg a b,sg c d] w fun e w'=>e = .returned (norm (xX a b c d) (xY a b c d) (xD a b c d)).v/\Below w.heap.size w w':=by
 unfold norm
 by_cases h:xD a b c d<0
 ·rw [if_pos h];exact rcross_neg a b c d w ha hb hc hd h
 ·rw [if_neg h];exact rcross_pos a b c d w ha hb hc hd (by omega)
theorem norm_gd {a b c d:Pt}(ha:Gr a)(hb:Gr b)(hc:Gr c)(hd:Gr d):Gd (norm (xX a b c d) (xY a b c d) (xD a b c d)):=by
 have h1:In (xX a b c d) 2097152:=(((hb.x.sub ha.x).mul ((hc.x.mul hd.y).sub (hd.x.mul hc.y))).sub (((ha.x.mul hb.y).sub (hb.x.mul ha.y)).mul (hd.x.sub hc.x))).mono (by decide)
 have h2:In (xY a b c d) 2097152:=((((ha.x.mul hb.y).sub (hb.x.mul ha.y)).mul (hc.y.sub hd.y)).sub ((ha.y.sub hb.y).mul ((hc.x.mul hd.y).sub (hd.x.mul hc.y)))).mono (by decide)
 have h3:In (xD a b c d) 32768:=(((ha.y.sub hb.y).mul (hd.x.sub hc.x)).sub ((hb.x.sub ha.x).mul (hc.y.sub hd.y))).mono (by decide)
 unfold norm;split
 ·exact ⟨h1.neg,h2.neg,h3.neg⟩
 ·exact ⟨h1,h2,h3⟩
set_option maxHeartbeats 2000000 in
theorem rmeet_a0 (a b c d:Pt)(w:World)(ha:Gr a)(hb:Gr b)(hc:Gr c)(hd:Gr d)(hp:0<(norm (xX a b c d) (xY a b c d) (xD a b c d)).d)(h1:withB (norm (xX a b c d) (xY a b c d) (xD a b c d)) a b=true)(h2:withB (norm (xX a b c d) (xY a b c d) (xD a b c d)) c d=true) :
  Calls Tryz.prog 38 #[sg a b,sg c d] w fun e w'=>e = .returned (Mt.mk 1 (leastM (norm (xX a b c d) (xY a b c d) (xD a b c d))) zP).v/\Below w.heap.size w w':=by
 generalize hP:norm (xX a b c d) (xY a b c d) (xD a b c d)=P at *
 have HP:=hide hP
 have gp:Gd P:=by rw [<-hP];exact norm_gd ha hb hc hd
 clear hP
 go_enter Tryz.func38,Tryz.ntmps38
 go_wp2_with fail
 refine (rcross_any a b c d _ ha hb hc hd).mono ?_
 rintro e w1 ⟨rfl,k⟩
 have B1:=bvia (below3 _ _ _ _) k
 obtain ⟨cs1,fs1,zs1⟩:=(((Blk.new w _ _).alloc _).alloc _).call k
 obtain ⟨ct1,ft1,zt1⟩:=((Blk.at (w.heap.size+1) (by simp)).alloc _).call k
 obtain ⟨cr1,fr1,zr1⟩:=(Blk.at (w.heap.size+1+1) (by simp)).call k
 clear k
 rw [HP.out]
 go_wp2_with fail
 refine (rwithin_any P a b _ gp ha.gd hb.gd).mono ?_
 rintro e w2 ⟨rfl,k⟩
 have B2:=bvia (B1.alloc B1.size _) k
 obtain ⟨cs2,fs2,zs2⟩:=((Blk.mk cs1 fs1 zs1).alloc _).call k
 obtain ⟨ct2,ft2,zt2⟩:=((Blk.mk ct1 ft1 zt1).alloc _).call k
 obtain ⟨cr2,fr2,zr2⟩:=((Blk.mk cr1 fr1 zr1).alloc _).call k
 obtain ⟨cp2,fp2,zp2⟩:=(Blk.new w1 _ _).call k
 clear k cs1 fs1 ct1 ft1 cr1 fr1 B1
 rw [h1]
 go_wp2_with fail
 refine (rwithin_any P c d _ gp hc.gd hd.gd).mono ?_
 rintro e w3 ⟨rfl,k⟩
 have B3:=bvia B2 k
 obtain ⟨cs3,fs3,zs3⟩:=(Blk.mk cs2 fs2 zs2).call k
 obtain ⟨ct3,ft3,zt3⟩:=(Blk.mk ct2 ft2 zt2).call k
 obtain ⟨cr3,fr3,zr3⟩:=(Blk.mk cr2 fr2 zr2).call k
 obtain ⟨cp3,fp3,zp3⟩:=(Blk.mk cp2 fp2 zp2).call k
 clear k cs2 fs2 ct2 ft2 cr2 fr2 cp2 fp2 B2
 rw [h2]
 go_wp2_with fail
 refine (rleast_any P _ gp hp).mono ?_
 rintro e w4 ⟨rfl,k⟩
 have B4:=bvia B3 k
 obtain ⟨cs4,fs4,zs4⟩:=(Blk.mk cs3 fs3 zs3).call k
 obtain ⟨ct4,ft4,zt4⟩:=(Blk.mk ct3 ft3 zt3).call k
 obtain ⟨cr4,fr4,zr4⟩:=(Blk.mk cr3 fr3 zr3).call k
 obtain ⟨cp4,fp4,zp4⟩:=(Blk.mk cp3 fp3 zp3).call k
 clear k cs3 fs3 ct3 ft3 cr3 fr3 cp3 fp3 B3
 go_wp2
 exact bodyPost_ret (v:=Mt.v ⟨1,leastM P,zP⟩) (by simp [results,Tryz.results38,go_sem,cr4,fr4,zP]) rfl ⟨rfl,below_set7 B4 (by omega)⟩
set_option maxHeartbeats 2000000 in
theorem rmeet_a1 (a b c d:Pt)(w:World)(ha:Gr a)(hb:Gr b)(hc:Gr c)(hd:Gr d)(hp:0<(norm (xX a b c d) (xY a b c d) (xD a b c d)).d)(h1:withB (norm (xX a b c d) (xY a b c d) (xD a b c d)) a b=true)(h2:withB (norm (xX a b c d) (xY a b c d) (xD a b c d)) c d=false) :
  Calls Tryz.prog 38 #[sg a b,sg c d] w fun e w'=>e = .returned (zM).v/\Below w.heap.size w w':=by
 generalize hP:norm (xX a b c d) (xY a b c d) (xD a b c d)=P at *
 have HP:=hide hP
 have gp:Gd P:=by rw [<-hP];exact norm_gd ha hb hc hd
 clear hP
 go_enter Tryz.func38,Tryz.ntmps38
 go_wp2_with fail
 refine (rcross_any a b c d _ ha hb hc hd).mono ?_
 rintro e w1 ⟨rfl,k⟩
 have B1:=bvia (below3 _ _ _ _) k
 obtain ⟨cs1,fs1,zs1⟩:=(((Blk.new w _ _).alloc _).alloc _).call k
 obtain ⟨ct1,ft1,zt1⟩:=((Blk.at (w.heap.size+1) (by simp)).alloc _).call k
 obtain ⟨cr1,fr1,zr1⟩:=(Blk.at (w.heap.size+1+1) (by simp)).call k
 clear k
 rw [HP.out]
 go_wp2_with fail
 refine (rwithin_any P a b _ gp ha.gd hb.gd).mono ?_
 rintro e w2 ⟨rfl,k⟩
 have B2:=bvia (B1.alloc B1.size _) k
 obtain ⟨cs2,fs2,zs2⟩:=((Blk.mk cs1 fs1 zs1).alloc _).call k
 obtain ⟨ct2,ft2,zt2⟩:=((Blk.mk ct1 ft1 zt1).alloc _).call k
 obtain ⟨cr2,fr2,zr2⟩:=((Blk.mk cr1 fr1 zr1).alloc _).call k
 obtain ⟨cp2,fp2,zp2⟩:=(Blk.new w1 _ _).call k
 clear k cs1 fs1 ct1 ft1 cr1 fr1 B1
 rw [h1]
 go_wp2_with fail
 refine (rwithin_any P c d _ gp hc.gd hd.gd).mono ?_
 rintro e w3 ⟨rfl,k⟩
 have B3:=bvia B2 k
 obtain ⟨cs3,fs3,zs3⟩:=(Blk.mk cs2 fs2 zs2).call k
 obtain ⟨ct3,ft3,zt3⟩:=(Blk.mk ct2 ft2 zt2).call k
 obtain ⟨cr3,fr3,zr3⟩:=(Blk.mk cr2 fr2 zr2).call k
 obtain ⟨cp3,fp3,zp3⟩:=(Blk.mk cp2 fp2 zp2).call k
 clear k cs2 fs2 ct2 ft2 cr2 fr2 cp2 fp2 B2
 rw [h2]
 go_wp2
 exact bodyPost_ret (v:=zM.v) (by simp [results,Tryz.results38,go_sem,cr3,fr3,zM,zP]) rfl ⟨rfl,below_set7 B3 (by omega)⟩
set_option maxHeartbeats 2000000 in
theorem rmeet_a2 (a b c d:Pt)(w:World)(ha:Gr a)(hb:Gr b)(hc:Gr c)(hd:Gr d)(hp:0<(norm (xX a b c d) (xY a b c d) (xD a b c d)).d)(h1:withB (norm (xX a b c d) (xY a b c d) (xD a b c d)) a b=false)(h2:withB (norm (xX a b c d) (xY a b c d) (xD a b c d)) c d=true) :
  Calls Tryz.prog 38 #[sg a b,sg c d] w fun e w'=>e = .returned (zM).v/\Below w.heap.size w w':=by
 generalize hP:norm (xX a b c d) (xY a b c d) (xD a b c d)=P at *
 have HP:=hide hP
 have gp:Gd P:=by rw [<-hP];exact norm_gd ha hb hc hd
 clear hP
 go_enter Tryz.func38,Tryz.ntmps38
 go_wp2_with fail
 refine (rcross_any a b c d _ ha hb hc hd).mono ?_
 rintro e w1 ⟨rfl,k⟩
 have B1:=bvia (below3 _ _ _ _) k
 obtain ⟨cs1,fs1,zs1⟩:=(((Blk.new w _ _).alloc _).alloc _).call k
 obtain ⟨ct1,ft1,zt1⟩:=((Blk.at (w.heap.size+1) (by simp)).alloc _).call k
 obtain ⟨cr1,fr1,zr1⟩:=(Blk.at (w.heap.size+1+1) (by simp)).call k
 clear k
 rw [HP.out]
 go_wp2_with fail
 refine (rwithin_any P a b _ gp ha.gd hb.gd).mono ?_
 rintro e w2 ⟨rfl,k⟩
 have B2:=bvia (B1.alloc B1.size _) k
 obtain ⟨cs2,fs2,zs2⟩:=((Blk.mk cs1 fs1 zs1).alloc _).call k
 obtain ⟨ct2,ft2,zt2⟩:=((Blk.mk ct1 ft1 zt1).alloc _).call k
 obtain ⟨cr2,fr2,zr2⟩:=((Blk.mk cr1 fr1 zr1).alloc _).call k
 obtain ⟨cp2,fp2,zp2⟩:=(Blk.new w1 _ _).call k
 clear k cs1 fs1 ct1 ft1 cr1 fr1 B1
 rw [h1]
 go_wp2_with fail
 refine (rwithin_any P c d _ gp hc.gd hd.gd).mono ?_
 rintro e w3 ⟨rfl,k⟩
 have B3:=bvia B2 k
 obtain ⟨cs3,fs3,zs3⟩:=(Blk.mk cs2 fs2 zs2).call k
 obtain ⟨ct3,ft3,zt3⟩:=(Blk.mk ct2 ft2 zt2).call k
 obtain ⟨cr3,fr3,zr3⟩:=(Blk.mk cr2 fr2 zr2).call k
 obtain ⟨cp3,fp3,zp3⟩:=(Blk.mk cp2 fp2 zp2).call k
 clear k cs2 fs2 ct2 ft2 cr2 fr2 cp2 fp2 B2
 rw [h2]
 go_wp2
 exact bodyPost_ret (v:=zM.v) (by simp [results,Tryz.results38,go_sem,cr3,fr3,zM,zP]) rfl ⟨rfl,below_set7 B3 (by omega)⟩
set_option maxHeartbeats 2000000 in
theorem rmeet_a3 (a b c d:Pt)(w:World)(ha:Gr a)(hb:Gr b)(hc:Gr c)(hd:Gr d)(hp:0<(norm (xX a b c d) (xY a b c d) (xD a b c d)).d)(h1:withB (norm (xX a b c d) (xY a b c d) (xD a b c d)) a b=false)(h2:withB (norm (xX a b c d) (xY a b c d) (xD a b c d)) c d=false) :
  Calls Tryz.prog 38 #[sg a b,sg c d] w fun e w'=>e = .returned (zM).v/\Below w.heap.size w w':=by
 generalize hP:norm (xX a b c d) (xY a b c d) (xD a b c d)=P at *
 have HP:=hide hP
 have gp:Gd P:=by rw [<-hP];exact norm_gd ha hb hc hd
 clear hP
 go_enter Tryz.func38,Tryz.ntmps38
 go_wp2_with fail
 refine (rcross_any a b c d _ ha hb hc hd).mono ?_
 rintro e w1 ⟨rfl,k⟩
 have B1:=bvia (below3 _ _ _ _) k
 obtain ⟨cs1,fs1,zs1⟩:=(((Blk.new w _ _).alloc _).alloc _).call k
 obtain ⟨ct1,ft1,zt1⟩:=((Blk.at (w.heap.size+1) (by simp)).alloc _).call k
 obtain ⟨cr1,fr1,zr1⟩:=(Blk.at (w.heap.size+1+1) (by simp)).call k
 clear k
 rw [HP.out]
 go_wp2_with fail
 refine (rwithin_any P a b _ gp ha.gd hb.gd).mono ?_
 rintro e w2 ⟨rfl,k⟩
 have B2:=bvia (B1.alloc B1.size _) k
 obtain ⟨cs2,fs2,zs2⟩:=((Blk.mk cs1 fs1 zs1).alloc _).call k
 obtain ⟨ct2,ft2,zt2⟩:=((Blk.mk ct1 ft1 zt1).alloc _).call k
 obtain ⟨cr2,fr2,zr2⟩:=((Blk.mk cr1 fr1 zr1).alloc _).call k
 obtain ⟨cp2,fp2,zp2⟩:=(Blk.new w1 _ _).call k
 clear k cs1 fs1 ct1 ft1 cr1 fr1 B1
 rw [h1]
 go_wp2_with fail
 refine (rwithin_any P c d _ gp hc.gd hd.gd).mono ?_
 rintro e w3 ⟨rfl,k⟩
 have B3:=bvia B2 k
 obtain ⟨cs3,fs3,zs3⟩:=(Blk.mk cs2 fs2 zs2).call k
 obtain ⟨ct3,ft3,zt3⟩:=(Blk.mk ct2 ft2 zt2).call k
 obtain ⟨cr3,fr3,zr3⟩:=(Blk.mk cr2 fr2 zr2).call k
 obtain ⟨cp3,fp3,zp3⟩:=(Blk.mk cp2 fp2 zp2).call k
 clear k cs2 fs2 ct2 ft2 cr2 fr2 cp2 fp2 B2
 rw [h2]
 go_wp2
 exact bodyPost_ret (v:=zM.v) (by simp [results,Tryz.results38,go_sem,cr3,fr3,zM,zP]) rfl ⟨rfl,below_set7 B3 (by omega)⟩
end Go.Proofs.YtnkcbephceollabGreat
