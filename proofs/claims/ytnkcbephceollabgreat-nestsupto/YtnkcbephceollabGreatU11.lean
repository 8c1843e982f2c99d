import Derived.Test.YtnkcbephceollabGreatU10
import Derived.Test.YtnkcbephceollabGreatU9
namespace Go.Proofs.YtnkcbephceollabGreat
open Go.RowKit
set_option linter.unusedSimpArgs false
set_option linter.unusedVariables false
set_option maxHeartbeats 1000000 in
theorem rMeet_bad0 (a b c d:Pt)(w:World)(ga:gridB a=false) :
  Calls Tryz.prog 16 #[a.v,b.v,c.v,d.v] w fun e w'=>e = .returned (.tuple #[(zM).v,.int .i64 3])/\Below w.heap.size w w':=by
 have heq:=eql_pt
 go_enter Tryz.func16,Tryz.ntmps16
 go_wp2_with fail
 refine wp_loop_rounds 5 ?_
 rw [rounds_succ]
 go_wp2_with fail
 refine (rgrid_any a _).mono ?_
 rintro e w1 ⟨rfl,k⟩
 have B1:=bvia (below6 _ _ _ _ _ _ _) k
 obtain ⟨ca1,fa1,za1⟩:=((((((Blk.new w _ _).alloc _).alloc _).alloc _).alloc _).alloc _).call k
 obtain ⟨cb1,fb1,zb1⟩:=(((((Blk.at (w.heap.size+1) (by simp)).alloc _).alloc _).alloc _).alloc _).call k
 obtain ⟨cc1,fc1,zc1⟩:=((((Blk.at (w.heap.size+1+1) (by simp)).alloc _).alloc _).alloc _).call k
 obtain ⟨cd1,fd1,zd1⟩:=(((Blk.at (w.heap.size+1+1+1) (by simp)).alloc _).alloc _).call k
 obtain ⟨cr1,fr1,zr1⟩:=((Blk.at (w.heap.size+1+1+1+1) (by simp)).alloc _).call k
 obtain ⟨cl1,fl1,zl1⟩:=(Blk.at (w.heap.size+1+1+1+1+1) (by simp)).call k
 clear k
 go_wp2
 exact bodyPost_ret (v:=.tuple #[(zM).v,.int .i64 3]) (by simp [results,Tryz.results16,go_sem,cr1,fr1,zM,zP]) rfl ⟨rfl,below_set7 B1 (by omega)⟩
set_option maxHeartbeats 1000000 in
theorem rMeet_bad1 (a b c d:Pt)(w:World)(ga:gridB a=true)(gb:gridB b=false) :
  Calls Tryz.prog 16 #[a.v,b.v,c.v,d.v] w fun e w'=>e = .returned (.tuple #[(zM).v,.int .i64 3])/\Below w.heap.size w w':=by
 have heq:=eql_pt
 go_enter Tryz.func16,Tryz.ntmps16
 go_wp2_with fail
 refine wp_loop_rounds 5 ?_
 rw [rounds_succ]
 go_wp2_with fail
 refine (rgrid_any a _).mono ?_
 rintro e w1 ⟨rfl,k⟩
 have B1:=bvia (below6 _ _ _ _ _ _ _) k
 obtain ⟨ca1,fa1,za1⟩:=((((((Blk.new w _ _).alloc _).alloc _).alloc _).alloc _).alloc _).call k
 obtain ⟨cb1,fb1,zb1⟩:=(((((Blk.at (w.heap.size+1) (by simp)).alloc _).alloc _).alloc _).alloc _).call k
 obtain ⟨cc1,fc1,zc1⟩:=((((Blk.at (w.heap.size+1+1) (by simp)).alloc _).alloc _).alloc _).call k
 obtain ⟨cd1,fd1,zd1⟩:=(((Blk.at (w.heap.size+1+1+1) (by simp)).alloc _).alloc _).call k
 obtain ⟨cr1,fr1,zr1⟩:=((Blk.at (w.heap.size+1+1+1+1) (by simp)).alloc _).call k
 obtain ⟨cl1,fl1,zl1⟩:=(Blk.at (w.heap.size+1+1+1+1+1) (by simp)).call k
 clear k
 go_wp2_with fail
 rw [rounds_succ]
 go_wp2_with fail
 refine (rgrid_any b _).mono ?_
 rintro e w2 ⟨rfl,k⟩
 have B2:=bvia B1 k
 obtain ⟨ca2,fa2,za2⟩:=(Blk.mk ca1 fa1 za1).call k
 obtain ⟨cb2,fb2,zb2⟩:=(Blk.mk cb1 fb1 zb1).call k
 obtain ⟨cc2,fc2,zc2⟩:=(Blk.mk cc1 fc1 zc1).call k
 obtain ⟨cd2,fd2,zd2⟩:=(Blk.mk cd1 fd1 zd1).call k
 obtain ⟨cr2,fr2,zr2⟩:=(Blk.mk cr1 fr1 zr1).call k
 obtain ⟨cl2,fl2,zl2⟩:=(Blk.mk cl1 fl1 zl1).call k
 clear k ca1 fa1 cb1 fb1 cc1 fc1 cd1 fd1 cr1 fr1 cl1 fl1 B1
 go_wp2
 exact bodyPost_ret (v:=.tuple #[(zM).v,.int .i64 3]) (by simp [results,Tryz.results16,go_sem,cr2,fr2,zM,zP]) rfl ⟨rfl,below_set7 B2 (by omega)⟩
set_option maxHeartbeats 1000000 in
theorem rMeet_bad2 (a b c d:Pt)(w:World)(ga:gridB a=true)(gb:gridB b=true)(gc:gridB c=false) :
  Calls Tryz.prog 16 #[a.v,b.v,c.v,d.v] w fun e w'=>e = .returned (.tuple #[(zM).v,.int .i64 3])/\Below w.heap.size w w':=by
 have heq:=eql_pt
 go_enter Tryz.func16,Tryz.ntmps16
 go_wp2_with fail
 refine wp_loop_rounds 5 ?_
 rw [rounds_succ]
 go_wp2_with fail
 refine (rgrid_any a _).mono ?_
 rintro e w1 ⟨rfl,k⟩
 have B1:=bvia (below6 _ _ _ _ _ _ _) k
 obtain ⟨ca1,fa1,za1⟩:=((((((Blk.new w _ _).alloc _).alloc _).alloc _).alloc _).alloc _).call k
 obtain ⟨cb1,fb1,zb1⟩:=(((((Blk.at (w.heap.size+1) (by simp)).alloc _).alloc _).alloc _).alloc _).call k
 obtain ⟨cc1,fc1,zc1⟩:=((((Blk.at (w.heap.size+1+1) (by simp)).alloc _).alloc _).alloc _).call k
 obtain ⟨cd1,fd1,zd1⟩:=(((Blk.at (w.heap.size+1+1+1) (by simp)).alloc _).alloc _).call k
 obtain ⟨cr1,fr1,zr1⟩:=((Blk.at (w.heap.size+1+1+1+1) (by simp)).alloc _).call k
 obtain ⟨cl1,fl1,zl1⟩:=(Blk.at (w.heap.size+1+1+1+1+1) (by simp)).call k
 clear k
 go_wp2_with fail
 rw [rounds_succ]
 go_wp2_with fail
 refine (rgrid_any b _).mono ?_
 rintro e w2 ⟨rfl,k⟩
 have B2:=bvia B1 k
 obtain ⟨ca2,fa2,za2⟩:=(Blk.mk ca1 fa1 za1).call k
 obtain ⟨cb2,fb2,zb2⟩:=(Blk.mk cb1 fb1 zb1).call k
 obtain ⟨cc2,fc2,zc2⟩:=(Blk.mk cc1 fc1 zc1).call k
 obtain ⟨cd2,fd2,zd2⟩:=(Blk.mk cd1 fd1 zd1).call k
 obtain ⟨cr2,fr2,zr2⟩:=(Blk.mk cr1 fr1 zr1).call k
 obtain ⟨cl2,fl2,zl2⟩:=(Blk.mk cl1 fl1 zl1).call k
 clear k ca1 fa1 cb1 fb1 cc1 fc1 cd1 fd1 cr1 fr1 cl1 fl1 B1
 go_wp2_with fail
 rw [rounds_succ]
 go_wp2_with fail
 refine (rgrid_any c _).mono ?_
 rintro e w3 ⟨rfl,k⟩
 have B3:=bvia B2 k
 obtain ⟨ca3,fa3,za3⟩:=(Blk.mk ca2 fa2 za2).call k
 obtain ⟨cb3,fb3,zb3⟩:=(Blk.mk cb2 fb2 zb2).call k
 obtain ⟨cc3,fc3,zc3⟩:=(Blk.mk cc2 fc2 zc2).call k
 obtain ⟨cd3,fd3,zd3⟩:=(Blk.mk cd2 fd2 zd2).call k
 obtain ⟨cr3,fr3,zr3⟩:=(Blk.mk cr2 fr2 zr2).call k
 obtain ⟨cl3,fl3,zl3⟩:=(Blk.mk cl2 fl2 zl2).call k
 clear k ca2 fa2 cb2 fb2 cc2 fc2 cd2 fd2 cr2 fr2 cl2 fl2 B2
 go_wp2
 exact bodyPost_ret (v:=.tuple #[(zM).v,.int .i64 3]) (by simp [results,Tryz.results16,go_sem,cr3,fr3,zM,zP]) rfl ⟨rfl,below_set7 B3 (by omega)⟩
set_option maxHeartbeats 1000000 in
theorem rMeet_bad3 (a b c d:Pt)(w:World)(ga:gridB a=true)(gb:gridB b=true)(gc:gridB c=true)(gd:gridB d=false) :
  Calls Tryz.prog 16 #[a.v,b.v,c.v,d.v] w fun e w'=>e = .returned (.tuple #[(zM).v,.int .i64 3])/\Below w.heap.size w w':=by
 have heq:=eql_pt
 go_enter Tryz.func16,Tryz.ntmps16
 go_wp2_with fail
 refine wp_loop_rounds 5 ?_
 rw [rounds_succ]
 go_wp2_with fail
 refine (rgrid_any a _).mono ?_
 rintro e w1 ⟨rfl,k⟩
 have B1:=bvia (below6 _ _ _ _ _ _ _) k
 obtain ⟨ca1,fa1,za1⟩:=((((((Blk.new w _ _).alloc _).alloc _).alloc _).alloc _).alloc _).call k
 obtain ⟨cb1,fb1,zb1⟩:=(((((Blk.at (w.heap.size+1) (by simp)).alloc _).alloc _).alloc _).alloc _).call k
 obtain ⟨cc1,fc1,zc1⟩:=((((Blk.at (w.heap.size+1+1) (by simp)).alloc _).alloc _).alloc _).call k
 obtain ⟨cd1,fd1,zd1⟩:=(((Blk.at (w.heap.size+1+1+1) (by simp)).alloc _).alloc _).call k
 obtain ⟨cr1,fr1,zr1⟩:=((Blk.at (w.heap.size+1+1+1+1) (by simp)).alloc _).call k
 obtain ⟨cl1,fl1,zl1⟩:=(Blk.at (w.heap.size+1+1+1+1+1) (by simp)).call k
 clear k
 go_wp2_with fail
 rw [rounds_succ]
 go_wp2_with fail
 refine (rgrid_any b _).mono ?_
 rintro e w2 ⟨rfl,k⟩
 have B2:=bvia B1 k
 obtain ⟨ca2,fa2,za2⟩:=(Blk.mk ca1 fa1 za1).call k
 obtain ⟨cb2,fb2,zb2⟩:=(Blk.mk cb1 fb1 zb1).call k
 obtain ⟨cc2,fc2,zc2⟩:=(Blk.mk cc1 fc1 zc1).call k
 obtain ⟨cd2,fd2,zd2⟩:=(Blk.mk cd1 fd1 zd1).call k
 obtain ⟨cr2,fr2,zr2⟩:=(Blk.mk cr1 fr1 zr1).call k
 obtain ⟨cl2,fl2,zl2⟩:=(Blk.mk cl1 fl1 zl1).call k
 clear k ca1 fa1 cb1 fb1 cc1 fc1 cd1 fd1 cr1 fr1 cl1 fl1 B1
 go_wp2_with fail
 rw [rounds_succ]
 go_wp2_with fail
 refine (rgrid_any c _).mono ?_
 rintro e w3 ⟨rfl,k⟩
 have B3:=bvia B2 k
 obtain ⟨ca3,fa3,za3⟩:=(Blk.mk ca2 fa2 za2).call k
 obtain ⟨cb3,fb3,zb3⟩:=(Blk.mk cb2 fb2 zb2).call k
 obtain ⟨cc3,fc3,zc3⟩:=(Blk.mk cc2 fc2 zc2).call k
 obtain ⟨cd3,fd3,zd3⟩:=(Blk.mk cd2 fd2 zd2).call k
 obtain ⟨cr3,fr3,zr3⟩:=(Blk.mk cr2 fr2 zr2).call k
 obtain ⟨cl3,fl3,zl3⟩:=(Blk.mk cl2 fl2 zl2).call k
 clear k ca2 fa2 cb2 fb2 cc2 fc2 cd2 fd2 cr2 fr2 cl2 fl2 B2
 go_wp2_with fail
 rw [rounds_succ]
 go_wp2_with fail
 refine (rgrid_any d _).mono ?_
 rintro e w4 ⟨rfl,k⟩
 have B4:=bvia B3 k
 obtain ⟨ca4,fa4,za4⟩:=(Blk.mk ca3 fa3 za3).call k
 obtain ⟨cb4,fb4,zb4⟩:=(Blk.mk cb3 fb3 zb3).call k
 obtain ⟨cc4,fc4,zc4⟩:=(Blk.mk cc3 fc3 zc3).call k
 obtain ⟨cd4,fd4,zd4⟩:=(Blk.mk cd3 fd3 zd3).call k
 obtain ⟨cr4,fr4,zr4⟩:=(Blk.mk cr3 fr3 zr3).call k
 obtain ⟨cl4,fl4,zl4⟩:=(Blk.mk cl3 fl3 zl3).call k
 clear k ca3 fa3 cb3 fb3 cc3 fc3 cd3 fd3 cr3 fr3 cl3 fl3 B3
 go_wp2
 exact bodyPost_ret (v:=.tuple #[(zM).v,.int .i64 3]) (by simp [results,Tryz.results16,go_sem,cr4,fr4,zM,zP]) rfl ⟨rfl,below_set7 B4 (by omega)⟩
set_option maxHeartbeats 1000000 in
theorem rMeet_edge1 (a b c d:Pt)(w:World)(ga:gridB a=true)(gb:gridB b=true)(gc:gridB c=true)(gd:gridB d=true)(h1:eqP a b=true) :
  Calls Tryz.prog 16 #[a.v,b.v,c.v,d.v] w fun e w'=>e = .returned (.tuple #[(zM).v,.int .i64 4])/\Below w.heap.size w w':=by
 have heq:=eql_pt
 go_enter Tryz.func16,Tryz.ntmps16
 go_wp2_with fail
 refine wp_loop_rounds 5 ?_
 rw [rounds_succ]
 go_wp2_with fail
 refine (rgrid_any a _).mono ?_
 rintro e w1 ⟨rfl,k⟩
 have B1:=bvia (below6 _ _ _ _ _ _ _) k
 obtain ⟨ca1,fa1,za1⟩:=((((((Blk.new w _ _).alloc _).alloc _).alloc _).alloc _).alloc _).call k
 obtain ⟨cb1,fb1,zb1⟩:=(((((Blk.at (w.heap.size+1) (by simp)).alloc _).alloc _).alloc _).alloc _).call k
 obtain ⟨cc1,fc1,zc1⟩:=((((Blk.at (w.heap.size+1+1) (by simp)).alloc _).alloc _).alloc _).call k
 obtain ⟨cd1,fd1,zd1⟩:=(((Blk.at (w.heap.size+1+1+1) (by simp)).alloc _).alloc _).call k
 obtain ⟨cr1,fr1,zr1⟩:=((Blk.at (w.heap.size+1+1+1+1) (by simp)).alloc _).call k
 obtain ⟨cl1,fl1,zl1⟩:=(Blk.at (w.heap.size+1+1+1+1+1) (by simp)).call k
 clear k
 go_wp2_with fail
 rw [rounds_succ]
 go_wp2_with fail
 refine (rgrid_any b _).mono ?_
 rintro e w2 ⟨rfl,k⟩
 have B2:=bvia B1 k
 obtain ⟨ca2,fa2,za2⟩:=(Blk.mk ca1 fa1 za1).call k
 obtain ⟨cb2,fb2,zb2⟩:=(Blk.mk cb1 fb1 zb1).call k
 obtain ⟨cc2,fc2,zc2⟩:=(Blk.mk cc1 fc1 zc1).call k
 obtain ⟨cd2,fd2,zd2⟩:=(Blk.mk cd1 fd1 zd1).call k
 obtain ⟨cr2,fr2,zr2⟩:=(Blk.mk cr1 fr1 zr1).call k
 obtain ⟨cl2,fl2,zl2⟩:=(Blk.mk cl1 fl1 zl1).call k
 clear k ca1 fa1 cb1 fb1 cc1 fc1 cd1 fd1 cr1 fr1 cl1 fl1 B1
 go_wp2_with fail
 rw [rounds_succ]
 go_wp2_with fail
 refine (rgrid_any c _).mono ?_
 rintro e w3 ⟨rfl,k⟩
 have B3:=bvia B2 k
 obtain ⟨ca3,fa3,za3⟩:=(Blk.mk ca2 fa2 za2).call k
 obtain ⟨cb3,fb3,zb3⟩:=(Blk.mk cb2 fb2 zb2).call k
 obtain ⟨cc3,fc3,zc3⟩:=(Blk.mk cc2 fc2 zc2).call k
 obtain ⟨cd3,fd3,zd3⟩:=(Blk.mk cd2 fd2 zd2).call k
 obtain ⟨cr3,fr3,zr3⟩:=(Blk.mk cr2 fr2 zr2).call k
 obtain ⟨cl3,fl3,zl3⟩:=(Blk.mk cl2 fl2 zl2).call k
 clear k ca2 fa2 cb2 fb2 cc2 fc2 cd2 fd2 cr2 fr2 cl2 fl2 B2
 go_wp2_with fail
 rw [rounds_succ]
 go_wp2_with fail
 refine (rgrid_any d _).mono ?_
 rintro e w4 ⟨rfl,k⟩
 have B4:=bvia B3 k
 obtain ⟨ca4,fa4,za4⟩:=(Blk.mk ca3 fa3 za3).call k
 obtain ⟨cb4,fb4,zb4⟩:=(Blk.mk cb3 fb3 zb3).call k
 obtain ⟨cc4,fc4,zc4⟩:=(Blk.mk cc3 fc3 zc3).call k
 obtain ⟨cd4,fd4,zd4⟩:=(Blk.mk cd3 fd3 zd3).call k
 obtain ⟨cr4,fr4,zr4⟩:=(Blk.mk cr3 fr3 zr3).call k
 obtain ⟨cl4,fl4,zl4⟩:=(Blk.mk cl3 fl3 zl3).call k
 clear k ca3 fa3 cb3 fb3 cc3 fc3 cd3 fd3 cr3 fr3 cl3 fl3 B3
 go_wp2_with fail
 rw [rounds_succ]
 go_wp2
 exact bodyPost_ret (v:=.tuple #[(zM).v,.int .i64 4]) (by simp [results,Tryz.results16,go_sem,cr4,fr4,zM,zP]) rfl ⟨rfl,below_set7 B4 (by omega)⟩
set_option maxHeartbeats 1000000 in
theorem rMeet_edge2 (a b c d:Pt)(w:World)(ga:gridB a=true)(gb:gridB b=true)(gc:gridB c=true)(gd:gridB d=true)(h1:eqP a b=false)(h2:eqP c d=true) :
  Calls Tryz.prog 16 #[a.v,b.v,c.v,d.v] w fun e w'=>e = .returned (.tuple #[(zM).v,.int .i64 4])/\Below w.heap.size w w':=by
 have heq:=eql_pt
 go_enter Tryz.func16,Tryz.ntmps16
 go_wp2_with fail
 refine wp_loop_rounds 5 ?_
 rw [rounds_succ]
 go_wp2_with fail
 refine (rgrid_any a _).mono ?_
 rintro e w1 ⟨rfl,k⟩
 have B1:=bvia (below6 _ _ _ _ _ _ _) k
 obtain ⟨ca1,fa1,za1⟩:=((((((Blk.new w _ _).alloc _).alloc _).alloc _).alloc _).alloc _).call k
 obtain ⟨cb1,fb1,zb1⟩:=(((((Blk.at (w.heap.size+1) (by simp)).alloc _).alloc _).alloc _).alloc _).call k
 obtain ⟨cc1,fc1,zc1⟩:=((((Blk.at (w.heap.size+1+1) (by simp)).alloc _).alloc _).alloc _).call k
 obtain ⟨cd1,fd1,zd1⟩:=(((Blk.at (w.heap.size+1+1+1) (by simp)).alloc _).alloc _).call k
 obtain ⟨cr1,fr1,zr1⟩:=((Blk.at (w.heap.size+1+1+1+1) (by simp)).alloc _).call k
 obtain ⟨cl1,fl1,zl1⟩:=(Blk.at (w.heap.size+1+1+1+1+1) (by simp)).call k
 clear k
 go_wp2_with fail
 rw [rounds_succ]
 go_wp2_with fail
 refine (rgrid_any b _).mono ?_
 rintro e w2 ⟨rfl,k⟩
 have B2:=bvia B1 k
 obtain ⟨ca2,fa2,za2⟩:=(Blk.mk ca1 fa1 za1).call k
 obtain ⟨cb2,fb2,zb2⟩:=(Blk.mk cb1 fb1 zb1).call k
 obtain ⟨cc2,fc2,zc2⟩:=(Blk.mk cc1 fc1 zc1).call k
 obtain ⟨cd2,fd2,zd2⟩:=(Blk.mk cd1 fd1 zd1).call k
 obtain ⟨cr2,fr2,zr2⟩:=(Blk.mk cr1 fr1 zr1).call k
 obtain ⟨cl2,fl2,zl2⟩:=(Blk.mk cl1 fl1 zl1).call k
 clear k ca1 fa1 cb1 fb1 cc1 fc1 cd1 fd1 cr1 fr1 cl1 fl1 B1
 go_wp2_with fail
 rw [rounds_succ]
 go_wp2_with fail
 refine (rgrid_any c _).mono ?_
 rintro e w3 ⟨rfl,k⟩
 have B3:=bvia B2 k
 obtain ⟨ca3,fa3,za3⟩:=(Blk.mk ca2 fa2 za2).call k
 obtain ⟨cb3,fb3,zb3⟩:=(Blk.mk cb2 fb2 zb2).call k
 obtain ⟨cc3,fc3,zc3⟩:=(Blk.mk cc2 fc2 zc2).call k
 obtain ⟨cd3,fd3,zd3⟩:=(Blk.mk cd2 fd2 zd2).call k
 obtain ⟨cr3,fr3,zr3⟩:=(Blk.mk cr2 fr2 zr2).call k
 obtain ⟨cl3,fl3,zl3⟩:=(Blk.mk cl2 fl2 zl2).call k
 clear k ca2 fa2 cb2 fb2 cc2 fc2 cd2 fd2 cr2 fr2 cl2 fl2 B2
 go_wp2_with fail
 rw [rounds_succ]
 go_wp2_with fail
 refine (rgrid_any d _).mono ?_
 rintro e w4 ⟨rfl,k⟩
 have B4:=bvia B3 k
 obtain ⟨ca4,fa4,za4⟩:=(Blk.mk ca3 fa3 za3).call k
 obtain ⟨cb4,fb4,zb4⟩:=(Blk.mk cb3 fb3 zb3).call k
 obtain ⟨cc4,fc4,zc4⟩:=(Blk.mk cc3 fc3 zc3).call k
 obtain ⟨cd4,fd4,zd4⟩:=(Blk.mk cd3 fd3 zd3).call k
 obtain ⟨cr4,fr4,zr4⟩:=(Blk.mk cr3 fr3 zr3).call k
 obtain ⟨cl4,fl4,zl4⟩:=(Blk.mk cl3 fl3 zl3).call k
 clear k ca3 fa3 cb3 fb3 cc3 fc3 cd3 fd3 cr3 fr3 cl3 fl3 B3
 go_wp2_with fail
 rw [rounds_succ]
 go_wp2
 exact bodyPost_ret (v:=.tuple #[(zM).v,.int .i64 4]) (by simp [results,Tryz.results16,go_sem,cr4,fr4,zM,zP]) rfl ⟨rfl,below_set7 B4 (by omega)⟩
set_option maxHeartbeats 1000000 in
theorem rMeet_ok (a b c d:Pt)(w:World)(ga:gridB a=true)(gb:gridB b=true)(gc:gridB c=true)(gd:gridB d=true)(h1:eqP a b=false)(h2:eqP c d=false) :
  Calls Tryz.prog 16 #[a.v,b.v,c.v,d.v] w fun e w'=>e = .returned (.tuple #[(rmeetM a b c d).v,.int .i64 0])/\Below w.heap.size w w':=by
 have heq:=eql_pt
 go_enter Tryz.func16,Tryz.ntmps16
 go_wp2_with fail
 refine wp_loop_rounds 5 ?_
 rw [rounds_succ]
 go_wp2_with fail
 refine (rgrid_any a _).mono ?_
 rintro e w1 ⟨rfl,k⟩
 have B1:=bvia (below6 _ _ _ _ _ _ _) k
 obtain ⟨ca1,fa1,za1⟩:=((((((Blk.new w _ _).alloc _).alloc _).alloc _).alloc _).alloc _).call k
 obtain ⟨cb1,fb1,zb1⟩:=(((((Blk.at (w.heap.size+1) (by simp)).alloc _).alloc _).alloc _).alloc _).call k
 obtain ⟨cc1,fc1,zc1⟩:=((((Blk.at (w.heap.size+1+1) (by simp)).alloc _).alloc _).alloc _).call k
 obtain ⟨cd1,fd1,zd1⟩:=(((Blk.at (w.heap.size+1+1+1) (by simp)).alloc _).alloc _).call k
 obtain ⟨cr1,fr1,zr1⟩:=((Blk.at (w.heap.size+1+1+1+1) (by simp)).alloc _).call k
 obtain ⟨cl1,fl1,zl1⟩:=(Blk.at (w.heap.size+1+1+1+1+1) (by simp)).call k
 clear k
 go_wp2_with fail
 rw [rounds_succ]
 go_wp2_with fail
 refine (rgrid_any b _).mono ?_
 rintro e w2 ⟨rfl,k⟩
 have B2:=bvia B1 k
 obtain ⟨ca2,fa2,za2⟩:=(Blk.mk ca1 fa1 za1).call k
 obtain ⟨cb2,fb2,zb2⟩:=(Blk.mk cb1 fb1 zb1).call k
 obtain ⟨cc2,fc2,zc2⟩:=(Blk.mk cc1 fc1 zc1).call k
 obtain ⟨cd2,fd2,zd2⟩:=(Blk.mk cd1 fd1 zd1).call k
 obtain ⟨cr2,fr2,zr2⟩:=(Blk.mk cr1 fr1 zr1).call k
 obtain ⟨cl2,fl2,zl2⟩:=(Blk.mk cl1 fl1 zl1).call k
 clear k ca1 fa1 cb1 fb1 cc1 fc1 cd1 fd1 cr1 fr1 cl1 fl1 B1
 go_wp2_with fail
 rw [rounds_succ]
 go_wp2_with fail
 refine (rgrid_any c _).mono ?_
 rintro e w3 ⟨rfl,k⟩
 have B3:=bvia B2 k
 obtain ⟨ca3,fa3,za3⟩:=(Blk.mk ca2 fa2 za2).call k
 obtain ⟨cb3,fb3,zb3⟩:=(Blk.mk cb2 fb2 zb2).call k
 obtain ⟨cc3,fc3,zc3⟩:=(Blk.mk cc2 fc2 zc2).call k
 obtain ⟨cd3,fd3,zd3⟩:=(Blk.mk cd2 fd2 zd2).call k
 obtain ⟨cr3,fr3,zr3⟩:=(Blk.mk cr2 fr2 zr2).call k
 obtain ⟨cl3,fl3,zl3⟩:=(Blk.mk cl2 fl2 zl2).call k
 clear k ca2 fa2 cb2 fb2 cc2 fc2 cd2 fd2 cr2 fr2 cl2 fl2 B2
 go_wp2_with fail
 rw [rounds_succ]
 go_wp2_with fail
 refine (rgrid_any d _).mono ?_
 rintro e w4 ⟨rfl,k⟩
 have B4:=bvia B3 k
 obtain ⟨ca4,fa4,za4⟩:=(Blk.mk ca3 fa3 za3).call k
 obtain ⟨cb4,fb4,zb4⟩:=(Blk.mk cb3 fb3 zb3).call k
 obtain ⟨cc4,fc4,zc4⟩:=(Blk.mk cc3 fc3 zc3).call k
 obtain ⟨cd4,fd4,zd4⟩:=(Blk.mk cd3 fd3 zd3).call k
 obtain ⟨cr4,fr4,zr4⟩:=(Blk.mk cr3 fr3 zr3).call k
 obtain ⟨cl4,fl4,zl4⟩:=(Blk.mk cl3 fl3 zl3).call k
 clear k ca3 fa3 cb3 fb3 cc3 fc3 cd3 fd3 cr3 fr3 cl3 fl3 B3
 go_wp2_with fail
 rw [rounds_succ]
 go_wp2_with fail
 refine (rmeet_any a b c d _ (gr_of ga) (gr_of gb) (gr_of gc) (gr_of gd)).mono ?_
 rintro e w5 ⟨rfl,k⟩
 have B5:=bvia B4 k
 obtain ⟨ca5,fa5,za5⟩:=(Blk.mk ca4 fa4 za4).call k
 obtain ⟨cb5,fb5,zb5⟩:=(Blk.mk cb4 fb4 zb4).call k
 obtain ⟨cc5,fc5,zc5⟩:=(Blk.mk cc4 fc4 zc4).call k
 obtain ⟨cd5,fd5,zd5⟩:=(Blk.mk cd4 fd4 zd4).call k
 obtain ⟨cr5,fr5,zr5⟩:=(Blk.mk cr4 fr4 zr4).call k
 obtain ⟨cl5,fl5,zl5⟩:=(Blk.mk cl4 fl4 zl4).call k
 clear k ca4 fa4 cb4 fb4 cc4 fc4 cd4 fd4 cr4 fr4 cl4 fl4 B4
 go_wp2
 exact bodyPost_ret (v:=.tuple #[(rmeetM a b c d).v,.int .i64 0]) (by simp [results,Tryz.results16,go_sem,cr5,fr5]) rfl ⟨rfl,below_set7 B5 (by omega)⟩
theorem rMeet_any (a b c d:Pt)(w:World) :
  Calls Tryz.prog 16 #[a.v,b.v,c.v,d.v] w fun e w'=>e = .returned (.tuple #[(mtM a b c d).1.v,.int .i64 (mtM a b c d).2])/\Below w.heap.size w w':=by
 by_cases ga:gridB a=true
 ·by_cases gb:gridB b=true
  ·by_cases gc:gridB c=true
   ·by_cases gd:gridB d=true
    ·by_cases h1:eqP a b=true
     ·have e:mtM a b c d=(zM,4):=by unfold mtM;rw [if_neg (by simp [ga,gb,gc,gd]),if_pos (.inl h1)]
      rw [e];exact rMeet_edge1 a b c d w ga gb gc gd h1
     ·by_cases h2:eqP c d=true
      ·have e:mtM a b c d=(zM,4):=by unfold mtM;rw [if_neg (by simp [ga,gb,gc,gd]),if_pos (.inr h2)]
       rw [e];exact rMeet_edge2 a b c d w ga gb gc gd (by simpa using h1) h2
      ·have e:mtM a b c d=(meetM a b c d,0):=by unfold mtM;rw [if_neg (by simp [ga,gb,gc,gd]),if_neg (by simp [h1,h2])]
       rw [e,<-rmeet_eq (gr_of ga).d (gr_of gb).d (gr_of gc).d (gr_of gd).d (eqP_false (by simpa using h1)) (eqP_false (by simpa using h2))]
       exact rMeet_ok a b c d w ga gb gc gd (by simpa using h1) (by simpa using h2)
    ·have e:mtM a b c d=(zM,3):=by unfold mtM;rw [if_pos (by simp [gd])]
     rw [e];exact rMeet_bad3 a b c d w ga gb gc (by simpa using gd)
   ·have e:mtM a b c d=(zM,3):=by unfold mtM;rw [if_pos (by simp [gc])]
    rw [e];exact rMeet_bad2 a b c d w ga gb (by simpa using gc)
  ·have e:mtM a b c d=(zM,3):=by unfold mtM;rw [if_pos (by simp [gb])]
   rw [e];exact rMeet_bad1 a b c d w ga (by simpa using gb)
 ·have e:mtM a b c d=(zM,3):=by unfold mtM;rw [if_pos (by simp [ga])]
  rw [e];exact rMeet_bad0 a b c d w (by simpa using ga)
theorem findM_map {α β:Type}(f:β->Bool)(g:α->β):∀ (l:List α) (i:Int),findM f i (l.map g)=findM (fun x=>f (g x)) i l
 | [],_=>rfl
 | x::l,i=>by simp only [List.map_cons,findM];rw [findM_map f g l (i+1)]
theorem grid_same (P:List (List Pt)):findM (fun p:Pt=>!gridB p) 0 P.flatten=findM (fun e:Pt×Pt=>!gridB e.1) 0 (edgesM P):=by
 rw [<-edges_firsts P,findM_map]
theorem badM_len (P:List (List Pt)):∀ (room i:Int),0<=i->badM room i P = -1->∀ k,k<P.length->0<(P.getD k []).length:=by
 induction P with
 | nil=>intro _ _ _ _ k hk;simp at hk
 | cons r P ih=>
  intro room i hi h k hk
  simp only [badM] at h
  split at h
  ·omega
  ·rename_i hb
   cases k with
   | zero=>simp;cases r with | nil=>simp at hb | cons a r=>simp
   | succ k=>simpa using ih _ _ (by omega) h k (by simpa using hk)
set_option maxRecDepth 100000 in
set_option maxHeartbeats 4000000 in
theorem rCheck_any (v:Value)(P:List (List Pt))(w:World)(hP:PolyAt w v P)(hS:∀ i,i<P.length->(P.getD i []).length<=1048576) :
  Calls Tryz.prog 20 #[v] w fun e w'=>e = .returned (.tuple #[.int .i64 (checkM P).1,.int .i64 (checkM P).2])/\Below w.heap.size w w':=by
 have hP0:=hP
 have heq:=eql_pt
 obtain ⟨a,cap,rfl,h1,h2,h3⟩:=hP
 unfold maxLen at h2
 by_cases c1:4<P.length
 ·have e:checkM P=(1,0):=if_pos c1
  rw [e]
  go_enter Tryz.func20,Tryz.ntmps20
  go_wp2
  go_ret2
  exact ⟨rfl,Below.refl _ _⟩
 have E1:checkM P=_:=if_neg c1
 have HE1:=hide E1
 clear E1
 go_enter Tryz.func20,Tryz.ntmps20
 go_wp2_with fail
 go_loop [4,5] (fun n i=>∃ (k:Nat) (rm:Int),i = .int .i64 k/\n = .int .i64 (12-rm)/\k<=P.length/\0<=rm/\rm<=12/\Hid (badM 12 0 P=badM rm k (P.drop k))) (fun _ i=>P.length-(intOf i).toNat)
 case atStart=>exact ⟨0,12,rfl,rfl,Nat.zero_le _,by decide,by decide,rfl⟩
 case round=>
  obtain ⟨k,rm,rfl,rfl,hk,hr0,hr1,HB⟩:=hrel
  by_cases hlt:k<P.length
  ·obtain ⟨b,off,rv,rfl,hb,hc,⟨a',cap',rfl,g1,g2,_⟩⟩:=h3 k hlt
   have HC:=hide (badM_cons rm k P k hlt)
   have hsm:=hS k hlt
   generalize P.getD k []=r at *
   by_cases hbad:(r.length:Int)<3\/rm<(r.length:Int)
   ·have HX:Hid (badM 12 0 P=k):=HB.out.trans (HC.out.trans (if_pos hbad))
    have HE:Hid (checkM P=(2,(k:Int))):=by
     refine hide ?_
     rw [HE1.out,if_pos (by rw [HX.out];omega),HX.out]
    clear h3 HB HC HE1 hP0 hS
    by_cases hb3:(r.length:Int)<3
    ·go_wp2
     go_ret2
     exact ⟨by rw [HE.out];rfl,Below.refl _ _⟩
    ·have hb4:12<12-rm+(r.length:Int):=by omega
     go_wp2
     go_ret2
     exact ⟨by rw [HE.out];rfl,Below.refl _ _⟩
   ·have HX:Hid (badM 12 0 P=badM (rm-r.length) (k+1) (P.drop (k+1))):=HB.out.trans (HC.out.trans (if_neg hbad))
    clear h3 HB HC HE1 hP0 hS
    have e1 : ¬ (r.length:Int)<3:=by omega
    have e2:12-rm+(r.length:Int)<=12:=by omega
    go_wp2
    go_round
    case rel=>exact ⟨k+1,rm-r.length,by go_num,by go_num,by omega,by omega,by omega,HX⟩
    case measure=>simp [intOf];omega
  have HX:badM 12 0 P = -1:=by rw [HB.out,List.drop_of_length_le (by omega)];rfl
  have hT:(edgesM P).length<=12:=by have:=badM_none P 12 0 (by decide) HX (by decide);omega
  have hTf:P.flatten.length<=12:=by rw [<-edgesM_len];exact hT
  have hN:=badM_len P 12 0 (by decide) HX
  have HE2:=hide (HE1.out.trans (if_neg (fun k=>k HX)))
  have HTf:=hide hTf
  clear h3 HB HE1 HX hS hTf
  go_wp2_with fail
  refine (points_any _ P _ hP0 (Nat.le_trans HTf.out (by decide))).mono ?_
  rintro e w1 ⟨pv,rfl,hR1,B1⟩
  obtain ⟨pa,pcap,rfl,q1,q2,q3⟩:=hR1
  unfold maxLen at q2
  have HGS:=hide (grid_same P)
  generalize P.flatten=F at *
  clear hN HTf
  go_wp2_with fail
  go_loopw [7,8] (fun i _ w'=>∃ k:Nat,i = .int .i64 k/\k<=F.length/\Below w.heap.size w w'/\Below w1.heap.size w1 w'/\Hid (findM (fun p:Pt=>!gridB p) 0 F=findM (fun p:Pt=>!gridB p) k (F.drop k))) (fun i _ _=>F.length-(intOf i).toNat)
  case atStart=>exact ⟨0,rfl,Nat.zero_le _,B1,Below.refl _ _,rfl⟩
  case round=>
   obtain ⟨k2,rfl,hk2,B2,B2',HB2⟩:=hrel
   by_cases hlt2:k2<F.length
   ·obtain ⟨b,off,rfl,hb,hs⟩:=q3 k2 hlt2
    obtain ⟨c0,c1',c2'⟩:=hs.later B2' hb
    have HC:=hide (findM_cons (fun p:Pt=>!gridB p) k2 F k2 hlt2 zP)
    generalize F.getD k2 zP=p at *
    clear q3 hs
    go_wp2_with fail
    refine (rgrid_any p _).mono ?_
    rintro e' w2 ⟨rfl,k3⟩
    have B3:=bvia B2 k3
    have B3':=bvia B2' k3
    clear k3 c0 c1' c2'
    by_cases ht:gridB p=true
    ·have HX:Hid (findM (fun p:Pt=>!gridB p) 0 F=findM (fun p:Pt=>!gridB p) (k2+1) (F.drop (k2+1))):=HB2.out.trans (HC.out.trans (if_neg (by simp [ht])))
     clear HB2 HC HE2
     go_wp2
     go_roundw
     case rel=>exact ⟨k2+1,by go_num,by omega,B3,B3',HX⟩
     case measure=>simp [intOf];omega
    ·have ht':gridB p=false:=by simpa using ht
     have HX:Hid (findM (fun e:Pt×Pt=>!gridB e.1) 0 (edgesM P)=k2):=HGS.out.symm.trans (HB2.out.trans (HC.out.trans (if_pos (by simp [ht']))))
     have HE:Hid (checkM P=(3,(k2:Int))):=by
      refine hide ?_
      rw [HE2.out,if_pos (by rw [HX.out];omega),HX.out]
     clear HB2 HC HE2 HX ht
     go_wp2
     go_ret2
     exact ⟨by rw [HE.out];rfl,B3⟩
   have HX:findM (fun e:Pt×Pt=>!gridB e.1) 0 (edgesM P) = -1:=by rw [<-HGS.out,HB2.out,List.drop_of_length_le (by omega)];rfl
   have hG:=grE_of P HX
   have HE3:=hide (HE2.out.trans (if_neg (fun k=>k HX)))
   have hPr:=hP0.later B2
   clear q3 HB2 HE2 HX B1 B2' HGS hP0
   go_wp2_with fail
   refine (rEdges_any _ P _ hPr (Nat.le_trans hT (by decide))).mono ?_
   rintro e w3 ⟨ev,rfl,hE1,k4⟩
   have B4:=bvia B2 k4
   have hEs:=hE1
   obtain ⟨ea,ecap,rfl,r1,r2,r3⟩:=hE1
   unfold maxLen at r2
   generalize hEE:edgesM P=E at *
   clear hEE hPr k4 B2
   go_wp2_with fail
   go_loopw [10] (fun i w'=>∃ k:Nat,i = .int .i64 k/\k<=E.length/\Below w.heap.size w w'/\Below w3.heap.size w3 w'/\Hid (findM (fun e:Pt×Pt=>eqB e.1 e.2) 0 E=findM (fun e:Pt×Pt=>eqB e.1 e.2) k (E.drop k))) (fun i _=>E.length-(intOf i).toNat)
   case atStart=>exact ⟨0,rfl,Nat.zero_le _,B4,Below.refl _ _,rfl⟩
   case round=>
    obtain ⟨k5,rfl,hk5,B5,B5',HB5⟩:=hrel
    by_cases hlt5:k5<E.length
    ·obtain ⟨b,off,rfl,hb,hs⟩:=r3 k5 hlt5
     obtain ⟨c0,c1',c2',c3',c4',c5'⟩:=hs.later B5' hb
     have HC:=hide (findM_cons (fun e:Pt×Pt=>eqB e.1 e.2) k5 E k5 hlt5 (zP,zP))
     have hk50:(0:Int)<=(k5:Int):=Int.natCast_nonneg _
     have hk51:(k5:Int)<(E.length:Int):=by omega
     generalize E.getD k5 (zP,zP)=e at *
     clear r3 hs hG
     go_wp2_with fail
     go_quiet (fail)
     by_cases ht:eqP e.1 e.2=true
     ·have ht2:eqP ⟨e.1.x,e.1.y,e.1.d⟩ ⟨e.2.x,e.2.y,e.2.d⟩=true:=ht
      have HX:Hid (findM (fun e:Pt×Pt=>eqB e.1 e.2) 0 E=k5):=HB5.out.trans (HC.out.trans (if_pos ht))
      have HE:Hid (checkM P=(4,(k5:Int))):=by
       refine hide ?_
       rw [HE3.out,if_pos (by rw [HX.out];omega),HX.out]
      clear HB5 HC HE3 HX c0 c1' c2' c3' c4' c5'
      rw [ht2]
      go_wp2
      go_ret2
      exact ⟨by rw [HE.out];rfl,below_drewN B5 _⟩
     ·have ht':eqP e.1 e.2=false:=by simpa using ht
      have ht2:eqP ⟨e.1.x,e.1.y,e.1.d⟩ ⟨e.2.x,e.2.y,e.2.d⟩=false:=ht'
      have HX:Hid (findM (fun e:Pt×Pt=>eqB e.1 e.2) 0 E=findM (fun e:Pt×Pt=>eqB e.1 e.2) (k5+1) (E.drop (k5+1))):=HB5.out.trans (HC.out.trans (if_neg ht))
      clear HB5 HC HE3 ht c0 c1' c2' c3' c4' c5'
      rw [ht2]
      go_wp2
      go_roundw
      case rel=>exact ⟨k5+1,by go_num,by omega,below_drewN B5 _,below_drewN B5' _,HX⟩
      case measure=>simp [intOf];omega
    have HX:findM (fun e:Pt×Pt=>eqB e.1 e.2) 0 E = -1:=by rw [HB5.out,List.drop_of_length_le (by omega)];rfl
    have hZ:NzE E:=by
     have hall:=findM_none _ _ 0 (by decide) HX
     intro j hj
     have hm:E.getD j (zP,zP)∈E:=by
      rw [List.getD_eq_getElem?_getD,List.getElem?_eq_getElem hj];exact List.getElem_mem hj
     exact eqP_false (hall _ hm)
    have HE4:=hide (HE3.out.trans (if_neg (fun k=>k HX)))
    clear HB5 HE3 HX B4 heq
    go_wp2_with fail
    go_loopw [11,12] (fun i _ w'=>∃ k:Nat,i = .int .i64 k/\k<=E.length/\Below w.heap.size w w'/\Below w3.heap.size w3 w'/\Hid (findM (sharesM E) 0 (List.range E.length)=findM (sharesM E) k ((List.range E.length).drop k))) (fun i _ _=>E.length-(intOf i).toNat)
    case atStart=>exact ⟨0,rfl,Nat.zero_le _,B5,B5',rfl⟩
    case round=>
     clear B5 B5'
     obtain ⟨k6,rfl,hk6,B6,B6',HB6⟩:=hrel
     by_cases hlt6:k6<E.length
     ·obtain ⟨b,off,rfl,hb,hs⟩:=r3 k6 hlt6
      obtain ⟨c0,c1',c2',c3',c4',c5'⟩:=hs.later B6' hb
      have HC:=hide (findM_cons (sharesM E) k6 (List.range E.length) k6 (by simpa using hlt6) 0)
      have eget:(List.range E.length).getD k6 0=k6:=by rw [List.getD_eq_getElem?_getD,List.getElem?_range hlt6];rfl
      rw [eget] at HC
      have HS:=hide (show sharesM E k6=(E.take k6).any (alongB (E.getD k6 (zP,zP))) from rfl)
      have hgr:=hG k6 hlt6
      have hnz:=hZ k6 hlt6
      have hT6:=((hEs.take k6 hk6).later B6')
      have hGT:=hG.take k6
      have hZT:=hZ.take k6
      generalize E.getD k6 (zP,zP)=e at *
      obtain ⟨he1,he2⟩:=hgr
      have hkc:(k6:Int)<=(ecap:Int):=by omega
      have hk60:(0:Int)<=(k6:Int):=Int.natCast_nonneg _
      have hk61:(k6:Int)<(E.length:Int):=by omega
      clear r3 hs hG hZ hEs eget
      go_wp2_with fail
      go_region_with (go_at_call 43;refine (rshares_any e _ (E.take k6) _ (by exact hT6.later (Below.refl _ _).drew) he1 he2 hnz hGT hZT).mono ?_;rintro e' w1 ⟨rfl,k1⟩)
      all_goals
       have B7:=bvia B6.drew k1
       have B7':=bvia B6'.drew k1
       clear k1 c0 c1' c2' c3' c4' c5' hT6 hGT hZT
       by_cases ht:(E.take k6).any (alongB e)=true
       ·have HX:Hid (findM (sharesM E) 0 (List.range E.length)=k6):=HB6.out.trans (HC.out.trans (if_pos (HS.out.trans ht)))
        have HE:Hid (checkM P=(5,(k6:Int))):=by
         refine hide ?_
         rw [HE4.out,if_pos (by rw [HX.out];omega),HX.out]
        rw [ht]
        clear HB6 HC HS ht HE4 HX
        go_wp2
        go_ret2
        exact ⟨by rw [HE.out];rfl,B7⟩
       ·have ht':(E.take k6).any (alongB e)=false:=by simpa using ht
        have HX:Hid (findM (sharesM E) 0 (List.range E.length)=findM (sharesM E) (k6+1) ((List.range E.length).drop (k6+1))):=HB6.out.trans (HC.out.trans (if_neg (by rw [HS.out,ht'];decide)))
        rw [ht']
        clear HB6 HC HS ht ht' HE4
        go_wp2
        go_roundw
        case rel=>exact ⟨k6+1,by go_num,by omega,B7,B7',HX⟩
        case measure=>simp [intOf];omega
     ·have HX:findM (sharesM E) 0 (List.range E.length) = -1:=by rw [HB6.out,List.drop_of_length_le (by simp;omega)];rfl
      have HE:Hid (checkM P=(0,0)):=hide (HE4.out.trans (if_neg (fun k=>k HX)))
      clear HB6 HE4 HX r3 hG hZ hEs
      go_wp2
      go_ret2
      exact ⟨by rw [HE.out];rfl,B6⟩
end Go.Proofs.YtnkcbephceollabGreat
