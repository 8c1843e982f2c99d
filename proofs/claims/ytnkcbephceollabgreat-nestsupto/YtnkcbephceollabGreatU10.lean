import Derived.Test.YtnkcbephceollabGreatU5
namespace Go.Proofs.YtnkcbephceollabGreat
open Go.RowKit
set_option linter.unusedSimpArgs false
set_option linter.unusedVariables false
theorem below6 (w:World)(a b c d e f:Obj):Below w.heap.size w ((((((w.alloc a).alloc b).alloc c).alloc d).alloc e).alloc f):=
 ((((((
    Below.refl _ _).alloc (Nat.le_refl _) _).alloc (by simp) _).alloc (by simp;omega) _).alloc (by simp;omega) _).alloc (by simp;omega) _).alloc (by simp;omega) _
theorem idx0 (a b c d:Pt)(w:World):(Instr.index 67 (.agg #[.int .i64 a.x,.int .i64 a.y,.int .i64 a.d,.int .i64 b.x,.int .i64 b.y,.int .i64 b.d,.int .i64 c.x,.int .i64 c.y,.int .i64 c.d,.int .i64 d.x,.int .i64 d.y,.int .i64 d.d]) (.int .i64 0)).run Tryz.prog w = .ok a.v w:=by kernel_rfl
theorem idx1 (a b c d:Pt)(w:World):(Instr.index 67 (.agg #[.int .i64 a.x,.int .i64 a.y,.int .i64 a.d,.int .i64 b.x,.int .i64 b.y,.int .i64 b.d,.int .i64 c.x,.int .i64 c.y,.int .i64 c.d,.int .i64 d.x,.int .i64 d.y,.int .i64 d.d]) (.int .i64 1)).run Tryz.prog w = .ok b.v w:=by kernel_rfl
theorem idx2 (a b c d:Pt)(w:World):(Instr.index 67 (.agg #[.int .i64 a.x,.int .i64 a.y,.int .i64 a.d,.int .i64 b.x,.int .i64 b.y,.int .i64 b.d,.int .i64 c.x,.int .i64 c.y,.int .i64 c.d,.int .i64 d.x,.int .i64 d.y,.int .i64 d.d]) (.int .i64 2)).run Tryz.prog w = .ok c.v w:=by kernel_rfl
theorem idx3 (a b c d:Pt)(w:World):(Instr.index 67 (.agg #[.int .i64 a.x,.int .i64 a.y,.int .i64 a.d,.int .i64 b.x,.int .i64 b.y,.int .i64 b.d,.int .i64 c.x,.int .i64 c.y,.int .i64 c.d,.int .i64 d.x,.int .i64 d.y,.int .i64 d.d]) (.int .i64 3)).run Tryz.prog w = .ok d.v w:=by kernel_rfl
set_option maxHeartbeats 1000000 in
theorem Meet_bad0 (a b c d:Pt)(w:World)(ga:gridB a=false) :
  Calls Tryz.prog 15 #[a.v,b.v,c.v,d.v] w fun e w'=>e = .returned (.tuple #[(zM).v,.int .i64 3])/\Below w.heap.size w w':=by
 have i0:=idx0 a b c d
 have i1:=idx1 a b c d
 have i2:=idx2 a b c d
 have i3:=idx3 a b c d
 go_enter Tryz.func15,Tryz.ntmps15
 go_wp2_with fail
 refine wp_loop_rounds 5 ?_
 rw [rounds_succ]
 go_wp2_with fail
 refine (IsGrid_any a _).mono ?_
 rintro e w1 ⟨rfl,k⟩
 have B1:=bvia (below6 _ _ _ _ _ _ _) k
 obtain ⟨ca1,fa1,za1⟩:=((((((Blk.new w _ _).alloc _).alloc _).alloc _).alloc _).alloc _).call k
 obtain ⟨cb1,fb1,zb1⟩:=(((((Blk.at (w.heap.size+1) (by simp)).alloc _).alloc _).alloc _).alloc _).call k
 obtain ⟨cc1,fc1,zc1⟩:=((((Blk.at (w.heap.size+1+1) (by simp)).alloc _).alloc _).alloc _).call k
 obtain ⟨cd1,fd1,zd1⟩:=(((Blk.at (w.heap.size+1+1+1) (by simp)).alloc _).alloc _).call k
 obtain ⟨cr1,fr1,zr1⟩:=((Blk.at (w.heap.size+1+1+1+1) (by simp)).alloc _).call k
 clear k
 go_wp2
 exact bodyPost_ret (v:=.tuple #[(zM).v,.int .i64 3]) (by simp [results,Tryz.results15,go_sem,cr1,fr1,zM,zP]) rfl ⟨rfl,below_set7 B1 (by omega)⟩
set_option maxHeartbeats 1000000 in
theorem Meet_bad1 (a b c d:Pt)(w:World)(ga:gridB a=true)(gb:gridB b=false) :
  Calls Tryz.prog 15 #[a.v,b.v,c.v,d.v] w fun e w'=>e = .returned (.tuple #[(zM).v,.int .i64 3])/\Below w.heap.size w w':=by
 have i0:=idx0 a b c d
 have i1:=idx1 a b c d
 have i2:=idx2 a b c d
 have i3:=idx3 a b c d
 go_enter Tryz.func15,Tryz.ntmps15
 go_wp2_with fail
 refine wp_loop_rounds 5 ?_
 rw [rounds_succ]
 go_wp2_with fail
 refine (IsGrid_any a _).mono ?_
 rintro e w1 ⟨rfl,k⟩
 have B1:=bvia (below6 _ _ _ _ _ _ _) k
 obtain ⟨ca1,fa1,za1⟩:=((((((Blk.new w _ _).alloc _).alloc _).alloc _).alloc _).alloc _).call k
 obtain ⟨cb1,fb1,zb1⟩:=(((((Blk.at (w.heap.size+1) (by simp)).alloc _).alloc _).alloc _).alloc _).call k
 obtain ⟨cc1,fc1,zc1⟩:=((((Blk.at (w.heap.size+1+1) (by simp)).alloc _).alloc _).alloc _).call k
 obtain ⟨cd1,fd1,zd1⟩:=(((Blk.at (w.heap.size+1+1+1) (by simp)).alloc _).alloc _).call k
 obtain ⟨cr1,fr1,zr1⟩:=((Blk.at (w.heap.size+1+1+1+1) (by simp)).alloc _).call k
 clear k
 go_wp2_with fail
 rw [rounds_succ]
 go_wp2_with fail
 refine (IsGrid_any b _).mono ?_
 rintro e w2 ⟨rfl,k⟩
 have B2:=bvia (B1.alloc B1.size _) k
 obtain ⟨ca2,fa2,za2⟩:=((Blk.mk ca1 fa1 za1).alloc _).call k
 obtain ⟨cb2,fb2,zb2⟩:=((Blk.mk cb1 fb1 zb1).alloc _).call k
 obtain ⟨cc2,fc2,zc2⟩:=((Blk.mk cc1 fc1 zc1).alloc _).call k
 obtain ⟨cd2,fd2,zd2⟩:=((Blk.mk cd1 fd1 zd1).alloc _).call k
 obtain ⟨cr2,fr2,zr2⟩:=((Blk.mk cr1 fr1 zr1).alloc _).call k
 obtain ⟨cxb2,fxb2,zxb2⟩:=(Blk.new w1 _ _).call k
 clear k ca1 fa1 cb1 fb1 cc1 fc1 cd1 fd1 cr1 fr1 B1
 go_wp2
 exact bodyPost_ret (v:=.tuple #[(zM).v,.int .i64 3]) (by simp [results,Tryz.results15,go_sem,cr2,fr2,zM,zP]) rfl ⟨rfl,below_set7 B2 (by omega)⟩
set_option maxHeartbeats 1000000 in
theorem Meet_bad2 (a b c d:Pt)(w:World)(ga:gridB a=true)(gb:gridB b=true)(gc:gridB c=false) :
  Calls Tryz.prog 15 #[a.v,b.v,c.v,d.v] w fun e w'=>e = .returned (.tuple #[(zM).v,.int .i64 3])/\Below w.heap.size w w':=by
 have i0:=idx0 a b c d
 have i1:=idx1 a b c d
 have i2:=idx2 a b c d
 have i3:=idx3 a b c d
 go_enter Tryz.func15,Tryz.ntmps15
 go_wp2_with fail
 refine wp_loop_rounds 5 ?_
 rw [rounds_succ]
 go_wp2_with fail
 refine (IsGrid_any a _).mono ?_
 rintro e w1 ⟨rfl,k⟩
 have B1:=bvia (below6 _ _ _ _ _ _ _) k
 obtain ⟨ca1,fa1,za1⟩:=((((((Blk.new w _ _).alloc _).alloc _).alloc _).alloc _).alloc _).call k
 obtain ⟨cb1,fb1,zb1⟩:=(((((Blk.at (w.heap.size+1) (by simp)).alloc _).alloc _).alloc _).alloc _).call k
 obtain ⟨cc1,fc1,zc1⟩:=((((Blk.at (w.heap.size+1+1) (by simp)).alloc _).alloc _).alloc _).call k
 obtain ⟨cd1,fd1,zd1⟩:=(((Blk.at (w.heap.size+1+1+1) (by simp)).alloc _).alloc _).call k
 obtain ⟨cr1,fr1,zr1⟩:=((Blk.at (w.heap.size+1+1+1+1) (by simp)).alloc _).call k
 clear k
 go_wp2_with fail
 rw [rounds_succ]
 go_wp2_with fail
 refine (IsGrid_any b _).mono ?_
 rintro e w2 ⟨rfl,k⟩
 have B2:=bvia (B1.alloc B1.size _) k
 obtain ⟨ca2,fa2,za2⟩:=((Blk.mk ca1 fa1 za1).alloc _).call k
 obtain ⟨cb2,fb2,zb2⟩:=((Blk.mk cb1 fb1 zb1).alloc _).call k
 obtain ⟨cc2,fc2,zc2⟩:=((Blk.mk cc1 fc1 zc1).alloc _).call k
 obtain ⟨cd2,fd2,zd2⟩:=((Blk.mk cd1 fd1 zd1).alloc _).call k
 obtain ⟨cr2,fr2,zr2⟩:=((Blk.mk cr1 fr1 zr1).alloc _).call k
 obtain ⟨cxb2,fxb2,zxb2⟩:=(Blk.new w1 _ _).call k
 clear k ca1 fa1 cb1 fb1 cc1 fc1 cd1 fd1 cr1 fr1 B1
 go_wp2_with fail
 rw [rounds_succ]
 go_wp2_with fail
 refine (IsGrid_any c _).mono ?_
 rintro e w3 ⟨rfl,k⟩
 have B3:=bvia (B2.alloc B2.size _) k
 obtain ⟨ca3,fa3,za3⟩:=((Blk.mk ca2 fa2 za2).alloc _).call k
 obtain ⟨cb3,fb3,zb3⟩:=((Blk.mk cb2 fb2 zb2).alloc _).call k
 obtain ⟨cc3,fc3,zc3⟩:=((Blk.mk cc2 fc2 zc2).alloc _).call k
 obtain ⟨cd3,fd3,zd3⟩:=((Blk.mk cd2 fd2 zd2).alloc _).call k
 obtain ⟨cr3,fr3,zr3⟩:=((Blk.mk cr2 fr2 zr2).alloc _).call k
 obtain ⟨cxb3,fxb3,zxb3⟩:=((Blk.mk cxb2 fxb2 zxb2).alloc _).call k
 obtain ⟨cxc3,fxc3,zxc3⟩:=(Blk.new w2 _ _).call k
 clear k ca2 fa2 cb2 fb2 cc2 fc2 cd2 fd2 cr2 fr2 cxb2 fxb2 B2
 go_wp2
 exact bodyPost_ret (v:=.tuple #[(zM).v,.int .i64 3]) (by simp [results,Tryz.results15,go_sem,cr3,fr3,zM,zP]) rfl ⟨rfl,below_set7 B3 (by omega)⟩
set_option maxHeartbeats 1000000 in
theorem Meet_bad3 (a b c d:Pt)(w:World)(ga:gridB a=true)(gb:gridB b=true)(gc:gridB c=true)(gd:gridB d=false) :
  Calls Tryz.prog 15 #[a.v,b.v,c.v,d.v] w fun e w'=>e = .returned (.tuple #[(zM).v,.int .i64 3])/\Below w.heap.size w w':=by
 have i0:=idx0 a b c d
 have i1:=idx1 a b c d
 have i2:=idx2 a b c d
 have i3:=idx3 a b c d
 go_enter Tryz.func15,Tryz.ntmps15
 go_wp2_with fail
 refine wp_loop_rounds 5 ?_
 rw [rounds_succ]
 go_wp2_with fail
 refine (IsGrid_any a _).mono ?_
 rintro e w1 ⟨rfl,k⟩
 have B1:=bvia (below6 _ _ _ _ _ _ _) k
 obtain ⟨ca1,fa1,za1⟩:=((((((Blk.new w _ _).alloc _).alloc _).alloc _).alloc _).alloc _).call k
 obtain ⟨cb1,fb1,zb1⟩:=(((((Blk.at (w.heap.size+1) (by simp)).alloc _).alloc _).alloc _).alloc _).call k
 obtain ⟨cc1,fc1,zc1⟩:=((((Blk.at (w.heap.size+1+1) (by simp)).alloc _).alloc _).alloc _).call k
 obtain ⟨cd1,fd1,zd1⟩:=(((Blk.at (w.heap.size+1+1+1) (by simp)).alloc _).alloc _).call k
 obtain ⟨cr1,fr1,zr1⟩:=((Blk.at (w.heap.size+1+1+1+1) (by simp)).alloc _).call k
 clear k
 go_wp2_with fail
 rw [rounds_succ]
 go_wp2_with fail
 refine (IsGrid_any b _).mono ?_
 rintro e w2 ⟨rfl,k⟩
 have B2:=bvia (B1.alloc B1.size _) k
 obtain ⟨ca2,fa2,za2⟩:=((Blk.mk ca1 fa1 za1).alloc _).call k
 obtain ⟨cb2,fb2,zb2⟩:=((Blk.mk cb1 fb1 zb1).alloc _).call k
 obtain ⟨cc2,fc2,zc2⟩:=((Blk.mk cc1 fc1 zc1).alloc _).call k
 obtain ⟨cd2,fd2,zd2⟩:=((Blk.mk cd1 fd1 zd1).alloc _).call k
 obtain ⟨cr2,fr2,zr2⟩:=((Blk.mk cr1 fr1 zr1).alloc _).call k
 obtain ⟨cxb2,fxb2,zxb2⟩:=(Blk.new w1 _ _).call k
 clear k ca1 fa1 cb1 fb1 cc1 fc1 cd1 fd1 cr1 fr1 B1
 go_wp2_with fail
 rw [rounds_succ]
 go_wp2_with fail
 refine (IsGrid_any c _).mono ?_
 rintro e w3 ⟨rfl,k⟩
 have B3:=bvia (B2.alloc B2.size _) k
 obtain ⟨ca3,fa3,za3⟩:=((Blk.mk ca2 fa2 za2).alloc _).call k
 obtain ⟨cb3,fb3,zb3⟩:=((Blk.mk cb2 fb2 zb2).alloc _).call k
 obtain ⟨cc3,fc3,zc3⟩:=((Blk.mk cc2 fc2 zc2).alloc _).call k
 obtain ⟨cd3,fd3,zd3⟩:=((Blk.mk cd2 fd2 zd2).alloc _).call k
 obtain ⟨cr3,fr3,zr3⟩:=((Blk.mk cr2 fr2 zr2).alloc _).call k
 obtain ⟨cxb3,fxb3,zxb3⟩:=((Blk.mk cxb2 fxb2 zxb2).alloc _).call k
 obtain ⟨cxc3,fxc3,zxc3⟩:=(Blk.new w2 _ _).call k
 clear k ca2 fa2 cb2 fb2 cc2 fc2 cd2 fd2 cr2 fr2 cxb2 fxb2 B2
 go_wp2_with fail
 rw [rounds_succ]
 go_wp2_with fail
 refine (IsGrid_any d _).mono ?_
 rintro e w4 ⟨rfl,k⟩
 have B4:=bvia (B3.alloc B3.size _) k
 obtain ⟨ca4,fa4,za4⟩:=((Blk.mk ca3 fa3 za3).alloc _).call k
 obtain ⟨cb4,fb4,zb4⟩:=((Blk.mk cb3 fb3 zb3).alloc _).call k
 obtain ⟨cc4,fc4,zc4⟩:=((Blk.mk cc3 fc3 zc3).alloc _).call k
 obtain ⟨cd4,fd4,zd4⟩:=((Blk.mk cd3 fd3 zd3).alloc _).call k
 obtain ⟨cr4,fr4,zr4⟩:=((Blk.mk cr3 fr3 zr3).alloc _).call k
 obtain ⟨cxb4,fxb4,zxb4⟩:=((Blk.mk cxb3 fxb3 zxb3).alloc _).call k
 obtain ⟨cxc4,fxc4,zxc4⟩:=((Blk.mk cxc3 fxc3 zxc3).alloc _).call k
 obtain ⟨cxd4,fxd4,zxd4⟩:=(Blk.new w3 _ _).call k
 clear k ca3 fa3 cb3 fb3 cc3 fc3 cd3 fd3 cr3 fr3 cxb3 fxb3 cxc3 fxc3 B3
 go_wp2
 exact bodyPost_ret (v:=.tuple #[(zM).v,.int .i64 3]) (by simp [results,Tryz.results15,go_sem,cr4,fr4,zM,zP]) rfl ⟨rfl,below_set7 B4 (by omega)⟩
set_option maxHeartbeats 1000000 in
theorem Meet_edge1 (a b c d:Pt)(w:World)(ga:gridB a=true)(gb:gridB b=true)(gc:gridB c=true)(gd:gridB d=true)(h1:eqP a b=true) :
  Calls Tryz.prog 15 #[a.v,b.v,c.v,d.v] w fun e w'=>e = .returned (.tuple #[(zM).v,.int .i64 4])/\Below w.heap.size w w':=by
 have i0:=idx0 a b c d
 have i1:=idx1 a b c d
 have i2:=idx2 a b c d
 have i3:=idx3 a b c d
 go_enter Tryz.func15,Tryz.ntmps15
 go_wp2_with fail
 refine wp_loop_rounds 5 ?_
 rw [rounds_succ]
 go_wp2_with fail
 refine (IsGrid_any a _).mono ?_
 rintro e w1 ⟨rfl,k⟩
 have B1:=bvia (below6 _ _ _ _ _ _ _) k
 obtain ⟨ca1,fa1,za1⟩:=((((((Blk.new w _ _).alloc _).alloc _).alloc _).alloc _).alloc _).call k
 obtain ⟨cb1,fb1,zb1⟩:=(((((Blk.at (w.heap.size+1) (by simp)).alloc _).alloc _).alloc _).alloc _).call k
 obtain ⟨cc1,fc1,zc1⟩:=((((Blk.at (w.heap.size+1+1) (by simp)).alloc _).alloc _).alloc _).call k
 obtain ⟨cd1,fd1,zd1⟩:=(((Blk.at (w.heap.size+1+1+1) (by simp)).alloc _).alloc _).call k
 obtain ⟨cr1,fr1,zr1⟩:=((Blk.at (w.heap.size+1+1+1+1) (by simp)).alloc _).call k
 clear k
 go_wp2_with fail
 rw [rounds_succ]
 go_wp2_with fail
 refine (IsGrid_any b _).mono ?_
 rintro e w2 ⟨rfl,k⟩
 have B2:=bvia (B1.alloc B1.size _) k
 obtain ⟨ca2,fa2,za2⟩:=((Blk.mk ca1 fa1 za1).alloc _).call k
 obtain ⟨cb2,fb2,zb2⟩:=((Blk.mk cb1 fb1 zb1).alloc _).call k
 obtain ⟨cc2,fc2,zc2⟩:=((Blk.mk cc1 fc1 zc1).alloc _).call k
 obtain ⟨cd2,fd2,zd2⟩:=((Blk.mk cd1 fd1 zd1).alloc _).call k
 obtain ⟨cr2,fr2,zr2⟩:=((Blk.mk cr1 fr1 zr1).alloc _).call k
 obtain ⟨cxb2,fxb2,zxb2⟩:=(Blk.new w1 _ _).call k
 clear k ca1 fa1 cb1 fb1 cc1 fc1 cd1 fd1 cr1 fr1 B1
 go_wp2_with fail
 rw [rounds_succ]
 go_wp2_with fail
 refine (IsGrid_any c _).mono ?_
 rintro e w3 ⟨rfl,k⟩
 have B3:=bvia (B2.alloc B2.size _) k
 obtain ⟨ca3,fa3,za3⟩:=((Blk.mk ca2 fa2 za2).alloc _).call k
 obtain ⟨cb3,fb3,zb3⟩:=((Blk.mk cb2 fb2 zb2).alloc _).call k
 obtain ⟨cc3,fc3,zc3⟩:=((Blk.mk cc2 fc2 zc2).alloc _).call k
 obtain ⟨cd3,fd3,zd3⟩:=((Blk.mk cd2 fd2 zd2).alloc _).call k
 obtain ⟨cr3,fr3,zr3⟩:=((Blk.mk cr2 fr2 zr2).alloc _).call k
 obtain ⟨cxb3,fxb3,zxb3⟩:=((Blk.mk cxb2 fxb2 zxb2).alloc _).call k
 obtain ⟨cxc3,fxc3,zxc3⟩:=(Blk.new w2 _ _).call k
 clear k ca2 fa2 cb2 fb2 cc2 fc2 cd2 fd2 cr2 fr2 cxb2 fxb2 B2
 go_wp2_with fail
 rw [rounds_succ]
 go_wp2_with fail
 refine (IsGrid_any d _).mono ?_
 rintro e w4 ⟨rfl,k⟩
 have B4:=bvia (B3.alloc B3.size _) k
 obtain ⟨ca4,fa4,za4⟩:=((Blk.mk ca3 fa3 za3).alloc _).call k
 obtain ⟨cb4,fb4,zb4⟩:=((Blk.mk cb3 fb3 zb3).alloc _).call k
 obtain ⟨cc4,fc4,zc4⟩:=((Blk.mk cc3 fc3 zc3).alloc _).call k
 obtain ⟨cd4,fd4,zd4⟩:=((Blk.mk cd3 fd3 zd3).alloc _).call k
 obtain ⟨cr4,fr4,zr4⟩:=((Blk.mk cr3 fr3 zr3).alloc _).call k
 obtain ⟨cxb4,fxb4,zxb4⟩:=((Blk.mk cxb3 fxb3 zxb3).alloc _).call k
 obtain ⟨cxc4,fxc4,zxc4⟩:=((Blk.mk cxc3 fxc3 zxc3).alloc _).call k
 obtain ⟨cxd4,fxd4,zxd4⟩:=(Blk.new w3 _ _).call k
 clear k ca3 fa3 cb3 fb3 cc3 fc3 cd3 fd3 cr3 fr3 cxb3 fxb3 cxc3 fxc3 B3
 go_wp2_with fail
 rw [rounds_succ]
 go_wp2_with fail
 refine (IsEmpty_any a b _).mono ?_
 rintro e w5 ⟨rfl,k⟩
 have B5:=bvia (B4.alloc B4.size _) k
 obtain ⟨ca5,fa5,za5⟩:=((Blk.mk ca4 fa4 za4).alloc _).call k
 obtain ⟨cb5,fb5,zb5⟩:=((Blk.mk cb4 fb4 zb4).alloc _).call k
 obtain ⟨cc5,fc5,zc5⟩:=((Blk.mk cc4 fc4 zc4).alloc _).call k
 obtain ⟨cd5,fd5,zd5⟩:=((Blk.mk cd4 fd4 zd4).alloc _).call k
 obtain ⟨cr5,fr5,zr5⟩:=((Blk.mk cr4 fr4 zr4).alloc _).call k
 obtain ⟨cxb5,fxb5,zxb5⟩:=((Blk.mk cxb4 fxb4 zxb4).alloc _).call k
 obtain ⟨cxc5,fxc5,zxc5⟩:=((Blk.mk cxc4 fxc4 zxc4).alloc _).call k
 obtain ⟨cxd5,fxd5,zxd5⟩:=((Blk.mk cxd4 fxd4 zxd4).alloc _).call k
 obtain ⟨cs5,fs5,zs5⟩:=(Blk.new w4 _ _).call k
 clear k ca4 fa4 cb4 fb4 cc4 fc4 cd4 fd4 cr4 fr4 cxb4 fxb4 cxc4 fxc4 cxd4 fxd4 B4
 go_wp2
 exact bodyPost_ret (v:=.tuple #[(zM).v,.int .i64 4]) (by simp [results,Tryz.results15,go_sem,cr5,fr5,zM,zP]) rfl ⟨rfl,below_set7 B5 (by omega)⟩
set_option maxHeartbeats 1000000 in
theorem Meet_edge2 (a b c d:Pt)(w:World)(ga:gridB a=true)(gb:gridB b=true)(gc:gridB c=true)(gd:gridB d=true)(h1:eqP a b=false)(h2:eqP c d=true) :
  Calls Tryz.prog 15 #[a.v,b.v,c.v,d.v] w fun e w'=>e = .returned (.tuple #[(zM).v,.int .i64 4])/\Below w.heap.size w w':=by
 have i0:=idx0 a b c d
 have i1:=idx1 a b c d
 have i2:=idx2 a b c d
 have i3:=idx3 a b c d
 go_enter Tryz.func15,Tryz.ntmps15
 go_wp2_with fail
 refine wp_loop_rounds 5 ?_
 rw [rounds_succ]
 go_wp2_with fail
 refine (IsGrid_any a _).mono ?_
 rintro e w1 ⟨rfl,k⟩
 have B1:=bvia (below6 _ _ _ _ _ _ _) k
 obtain ⟨ca1,fa1,za1⟩:=((((((Blk.new w _ _).alloc _).alloc _).alloc _).alloc _).alloc _).call k
 obtain ⟨cb1,fb1,zb1⟩:=(((((Blk.at (w.heap.size+1) (by simp)).alloc _).alloc _).alloc _).alloc _).call k
 obtain ⟨cc1,fc1,zc1⟩:=((((Blk.at (w.heap.size+1+1) (by simp)).alloc _).alloc _).alloc _).call k
 obtain ⟨cd1,fd1,zd1⟩:=(((Blk.at (w.heap.size+1+1+1) (by simp)).alloc _).alloc _).call k
 obtain ⟨cr1,fr1,zr1⟩:=((Blk.at (w.heap.size+1+1+1+1) (by simp)).alloc _).call k
 clear k
 go_wp2_with fail
 rw [rounds_succ]
 go_wp2_with fail
 refine (IsGrid_any b _).mono ?_
 rintro e w2 ⟨rfl,k⟩
 have B2:=bvia (B1.alloc B1.size _) k
 obtain ⟨ca2,fa2,za2⟩:=((Blk.mk ca1 fa1 za1).alloc _).call k
 obtain ⟨cb2,fb2,zb2⟩:=((Blk.mk cb1 fb1 zb1).alloc _).call k
 obtain ⟨cc2,fc2,zc2⟩:=((Blk.mk cc1 fc1 zc1).alloc _).call k
 obtain ⟨cd2,fd2,zd2⟩:=((Blk.mk cd1 fd1 zd1).alloc _).call k
 obtain ⟨cr2,fr2,zr2⟩:=((Blk.mk cr1 fr1 zr1).alloc _).call k
 obtain ⟨cxb2,fxb2,zxb2⟩:=(Blk.new w1 _ _).call k
 clear k ca1 fa1 cb1 fb1 cc1 fc1 cd1 fd1 cr1 fr1 B1
 go_wp2_with fail
 rw [rounds_succ]
 go_wp2_with fail
 refine (IsGrid_any c _).mono ?_
 rintro e w3 ⟨rfl,k⟩
 have B3:=bvia (B2.alloc B2.size _) k
 obtain ⟨ca3,fa3,za3⟩:=((Blk.mk ca2 fa2 za2).alloc _).call k
 obtain ⟨cb3,fb3,zb3⟩:=((Blk.mk cb2 fb2 zb2).alloc _).call k
 obtain ⟨cc3,fc3,zc3⟩:=((Blk.mk cc2 fc2 zc2).alloc _).call k
 obtain ⟨cd3,fd3,zd3⟩:=((Blk.mk cd2 fd2 zd2).alloc _).call k
 obtain ⟨cr3,fr3,zr3⟩:=((Blk.mk cr2 fr2 zr2).alloc _).call k
 obtain ⟨cxb3,fxb3,zxb3⟩:=((Blk.mk cxb2 fxb2 zxb2).alloc _).call k
 obtain ⟨cxc3,fxc3,zxc3⟩:=(Blk.new w2 _ _).call k
 clear k ca2 fa2 cb2 fb2 cc2 fc2 cd2 fd2 cr2 fr2 cxb2 fxb2 B2
 go_wp2_with fail
 rw [rounds_succ]
 go_wp2_with fail
 refine (IsGrid_any d _).mono ?_
 rintro e w4 ⟨rfl,k⟩
 have B4:=bvia (B3.alloc B3.size _) k
 obtain ⟨ca4,fa4,za4⟩:=((Blk.mk ca3 fa3 za3).alloc _).call k
 obtain ⟨cb4,fb4,zb4⟩:=((Blk.mk cb3 fb3 zb3).alloc _).call k
 obtain ⟨cc4,fc4,zc4⟩:=((Blk.mk cc3 fc3 zc3).alloc _).call k
 obtain ⟨cd4,fd4,zd4⟩:=((Blk.mk cd3 fd3 zd3).alloc _).call k
 obtain ⟨cr4,fr4,zr4⟩:=((Blk.mk cr3 fr3 zr3).alloc _).call k
 obtain ⟨cxb4,fxb4,zxb4⟩:=((Blk.mk cxb3 fxb3 zxb3).alloc _).call k
 obtain ⟨cxc4,fxc4,zxc4⟩:=((Blk.mk cxc3 fxc3 zxc3).alloc _).call k
 obtain ⟨cxd4,fxd4,zxd4⟩:=(Blk.new w3 _ _).call k
 clear k ca3 fa3 cb3 fb3 cc3 fc3 cd3 fd3 cr3 fr3 cxb3 fxb3 cxc3 fxc3 B3
 go_wp2_with fail
 rw [rounds_succ]
 go_wp2_with fail
 refine (IsEmpty_any a b _).mono ?_
 rintro e w5 ⟨rfl,k⟩
 have B5:=bvia (B4.alloc B4.size _) k
 obtain ⟨ca5,fa5,za5⟩:=((Blk.mk ca4 fa4 za4).alloc _).call k
 obtain ⟨cb5,fb5,zb5⟩:=((Blk.mk cb4 fb4 zb4).alloc _).call k
 obtain ⟨cc5,fc5,zc5⟩:=((Blk.mk cc4 fc4 zc4).alloc _).call k
 obtain ⟨cd5,fd5,zd5⟩:=((Blk.mk cd4 fd4 zd4).alloc _).call k
 obtain ⟨cr5,fr5,zr5⟩:=((Blk.mk cr4 fr4 zr4).alloc _).call k
 obtain ⟨cxb5,fxb5,zxb5⟩:=((Blk.mk cxb4 fxb4 zxb4).alloc _).call k
 obtain ⟨cxc5,fxc5,zxc5⟩:=((Blk.mk cxc4 fxc4 zxc4).alloc _).call k
 obtain ⟨cxd5,fxd5,zxd5⟩:=((Blk.mk cxd4 fxd4 zxd4).alloc _).call k
 obtain ⟨cs5,fs5,zs5⟩:=(Blk.new w4 _ _).call k
 clear k ca4 fa4 cb4 fb4 cc4 fc4 cd4 fd4 cr4 fr4 cxb4 fxb4 cxc4 fxc4 cxd4 fxd4 B4
 go_wp2_with fail
 refine (IsEmpty_any c d _).mono ?_
 rintro e w6 ⟨rfl,k⟩
 have B6:=bvia (B5.alloc B5.size _) k
 obtain ⟨ca6,fa6,za6⟩:=((Blk.mk ca5 fa5 za5).alloc _).call k
 obtain ⟨cb6,fb6,zb6⟩:=((Blk.mk cb5 fb5 zb5).alloc _).call k
 obtain ⟨cc6,fc6,zc6⟩:=((Blk.mk cc5 fc5 zc5).alloc _).call k
 obtain ⟨cd6,fd6,zd6⟩:=((Blk.mk cd5 fd5 zd5).alloc _).call k
 obtain ⟨cr6,fr6,zr6⟩:=((Blk.mk cr5 fr5 zr5).alloc _).call k
 obtain ⟨cxb6,fxb6,zxb6⟩:=((Blk.mk cxb5 fxb5 zxb5).alloc _).call k
 obtain ⟨cxc6,fxc6,zxc6⟩:=((Blk.mk cxc5 fxc5 zxc5).alloc _).call k
 obtain ⟨cxd6,fxd6,zxd6⟩:=((Blk.mk cxd5 fxd5 zxd5).alloc _).call k
 obtain ⟨cs6,fs6,zs6⟩:=((Blk.mk cs5 fs5 zs5).alloc _).call k
 obtain ⟨ct6,ft6,zt6⟩:=(Blk.new w5 _ _).call k
 clear k ca5 fa5 cb5 fb5 cc5 fc5 cd5 fd5 cr5 fr5 cxb5 fxb5 cxc5 fxc5 cxd5 fxd5 cs5 fs5 B5
 go_wp2
 exact bodyPost_ret (v:=.tuple #[(zM).v,.int .i64 4]) (by simp [results,Tryz.results15,go_sem,cr6,fr6,zM,zP]) rfl ⟨rfl,below_set7 B6 (by omega)⟩
set_option maxHeartbeats 1000000 in
theorem Meet_ok (a b c d:Pt)(w:World)(ga:gridB a=true)(gb:gridB b=true)(gc:gridB c=true)(gd:gridB d=true)(h1:eqP a b=false)(h2:eqP c d=false) :
  Calls Tryz.prog 15 #[a.v,b.v,c.v,d.v] w fun e w'=>e = .returned (.tuple #[(meetM a b c d).v,.int .i64 0])/\Below w.heap.size w w':=by
 have i0:=idx0 a b c d
 have i1:=idx1 a b c d
 have i2:=idx2 a b c d
 have i3:=idx3 a b c d
 go_enter Tryz.func15,Tryz.ntmps15
 go_wp2_with fail
 refine wp_loop_rounds 5 ?_
 rw [rounds_succ]
 go_wp2_with fail
 refine (IsGrid_any a _).mono ?_
 rintro e w1 ⟨rfl,k⟩
 have B1:=bvia (below6 _ _ _ _ _ _ _) k
 obtain ⟨ca1,fa1,za1⟩:=((((((Blk.new w _ _).alloc _).alloc _).alloc _).alloc _).alloc _).call k
 obtain ⟨cb1,fb1,zb1⟩:=(((((Blk.at (w.heap.size+1) (by simp)).alloc _).alloc _).alloc _).alloc _).call k
 obtain ⟨cc1,fc1,zc1⟩:=((((Blk.at (w.heap.size+1+1) (by simp)).alloc _).alloc _).alloc _).call k
 obtain ⟨cd1,fd1,zd1⟩:=(((Blk.at (w.heap.size+1+1+1) (by simp)).alloc _).alloc _).call k
 obtain ⟨cr1,fr1,zr1⟩:=((Blk.at (w.heap.size+1+1+1+1) (by simp)).alloc _).call k
 clear k
 go_wp2_with fail
 rw [rounds_succ]
 go_wp2_with fail
 refine (IsGrid_any b _).mono ?_
 rintro e w2 ⟨rfl,k⟩
 have B2:=bvia (B1.alloc B1.size _) k
 obtain ⟨ca2,fa2,za2⟩:=((Blk.mk ca1 fa1 za1).alloc _).call k
 obtain ⟨cb2,fb2,zb2⟩:=((Blk.mk cb1 fb1 zb1).alloc _).call k
 obtain ⟨cc2,fc2,zc2⟩:=((Blk.mk cc1 fc1 zc1).alloc _).call k
 obtain ⟨cd2,fd2,zd2⟩:=((Blk.mk cd1 fd1 zd1).alloc _).call k
 obtain ⟨cr2,fr2,zr2⟩:=((Blk.mk cr1 fr1 zr1).alloc _).call k
 obtain ⟨cxb2,fxb2,zxb2⟩:=(Blk.new w1 _ _).call k
 clear k ca1 fa1 cb1 fb1 cc1 fc1 cd1 fd1 cr1 fr1 B1
 go_wp2_with fail
 rw [rounds_succ]
 go_wp2_with fail
 refine (IsGrid_any c _).mono ?_
 rintro e w3 ⟨rfl,k⟩
 have B3:=bvia (B2.alloc B2.size _) k
 obtain ⟨ca3,fa3,za3⟩:=((Blk.mk ca2 fa2 za2).alloc _).call k
 obtain ⟨cb3,fb3,zb3⟩:=((Blk.mk cb2 fb2 zb2).alloc _).call k
 obtain ⟨cc3,fc3,zc3⟩:=((Blk.mk cc2 fc2 zc2).alloc _).call k
 obtain ⟨cd3,fd3,zd3⟩:=((Blk.mk cd2 fd2 zd2).alloc _).call k
 obtain ⟨cr3,fr3,zr3⟩:=((Blk.mk cr2 fr2 zr2).alloc _).call k
 obtain ⟨cxb3,fxb3,zxb3⟩:=((Blk.mk cxb2 fxb2 zxb2).alloc _).call k
 obtain ⟨cxc3,fxc3,zxc3⟩:=(Blk.new w2 _ _).call k
 clear k ca2 fa2 cb2 fb2 cc2 fc2 cd2 fd2 cr2 fr2 cxb2 fxb2 B2
 go_wp2_with fail
 rw [rounds_succ]
 go_wp2_with fail
 refine (IsGrid_any d _).mono ?_
 rintro e w4 ⟨rfl,k⟩
 have B4:=bvia (B3.alloc B3.size _) k
 obtain ⟨ca4,fa4,za4⟩:=((Blk.mk ca3 fa3 za3).alloc _).call k
 obtain ⟨cb4,fb4,zb4⟩:=((Blk.mk cb3 fb3 zb3).alloc _).call k
 obtain ⟨cc4,fc4,zc4⟩:=((Blk.mk cc3 fc3 zc3).alloc _).call k
 obtain ⟨cd4,fd4,zd4⟩:=((Blk.mk cd3 fd3 zd3).alloc _).call k
 obtain ⟨cr4,fr4,zr4⟩:=((Blk.mk cr3 fr3 zr3).alloc _).call k
 obtain ⟨cxb4,fxb4,zxb4⟩:=((Blk.mk cxb3 fxb3 zxb3).alloc _).call k
 obtain ⟨cxc4,fxc4,zxc4⟩:=((Blk.mk cxc3 fxc3 zxc3).alloc _).call k
 obtain ⟨cxd4,fxd4,zxd4⟩:=(Blk.new w3 _ _).call k
 clear k ca3 fa3 cb3 fb3 cc3 fc3 cd3 fd3 cr3 fr3 cxb3 fxb3 cxc3 fxc3 B3
 go_wp2_with fail
 rw [rounds_succ]
 go_wp2_with fail
 refine (IsEmpty_any a b _).mono ?_
 rintro e w5 ⟨rfl,k⟩
 have B5:=bvia (B4.alloc B4.size _) k
 obtain ⟨ca5,fa5,za5⟩:=((Blk.mk ca4 fa4 za4).alloc _).call k
 obtain ⟨cb5,fb5,zb5⟩:=((Blk.mk cb4 fb4 zb4).alloc _).call k
 obtain ⟨cc5,fc5,zc5⟩:=((Blk.mk cc4 fc4 zc4).alloc _).call k
 obtain ⟨cd5,fd5,zd5⟩:=((Blk.mk cd4 fd4 zd4).alloc _).call k
 obtain ⟨cr5,fr5,zr5⟩:=((Blk.mk cr4 fr4 zr4).alloc _).call k
 obtain ⟨cxb5,fxb5,zxb5⟩:=((Blk.mk cxb4 fxb4 zxb4).alloc _).call k
 obtain ⟨cxc5,fxc5,zxc5⟩:=((Blk.mk cxc4 fxc4 zxc4).alloc _).call k
 obtain ⟨cxd5,fxd5,zxd5⟩:=((Blk.mk cxd4 fxd4 zxd4).alloc _).call k
 obtain ⟨cs5,fs5,zs5⟩:=(Blk.new w4 _ _).call k
 clear k ca4 fa4 cb4 fb4 cc4 fc4 cd4 fd4 cr4 fr4 cxb4 fxb4 cxc4 fxc4 cxd4 fxd4 B4
 go_wp2_with fail
 refine (IsEmpty_any c d _).mono ?_
 rintro e w6 ⟨rfl,k⟩
 have B6:=bvia (B5.alloc B5.size _) k
 obtain ⟨ca6,fa6,za6⟩:=((Blk.mk ca5 fa5 za5).alloc _).call k
 obtain ⟨cb6,fb6,zb6⟩:=((Blk.mk cb5 fb5 zb5).alloc _).call k
 obtain ⟨cc6,fc6,zc6⟩:=((Blk.mk cc5 fc5 zc5).alloc _).call k
 obtain ⟨cd6,fd6,zd6⟩:=((Blk.mk cd5 fd5 zd5).alloc _).call k
 obtain ⟨cr6,fr6,zr6⟩:=((Blk.mk cr5 fr5 zr5).alloc _).call k
 obtain ⟨cxb6,fxb6,zxb6⟩:=((Blk.mk cxb5 fxb5 zxb5).alloc _).call k
 obtain ⟨cxc6,fxc6,zxc6⟩:=((Blk.mk cxc5 fxc5 zxc5).alloc _).call k
 obtain ⟨cxd6,fxd6,zxd6⟩:=((Blk.mk cxd5 fxd5 zxd5).alloc _).call k
 obtain ⟨cs6,fs6,zs6⟩:=((Blk.mk cs5 fs5 zs5).alloc _).call k
 obtain ⟨ct6,ft6,zt6⟩:=(Blk.new w5 _ _).call k
 clear k ca5 fa5 cb5 fb5 cc5 fc5 cd5 fd5 cr5 fr5 cxb5 fxb5 cxc5 fxc5 cxd5 fxd5 cs5 fs5 B5
 go_wp2_with fail
 refine (segMeet_any a b c d _ (gr_of ga) (gr_of gb) (gr_of gc) (gr_of gd)).mono ?_
 rintro e w7 ⟨rfl,k⟩
 have B7:=bvia B6 k
 obtain ⟨ca7,fa7,za7⟩:=(Blk.mk ca6 fa6 za6).call k
 obtain ⟨cb7,fb7,zb7⟩:=(Blk.mk cb6 fb6 zb6).call k
 obtain ⟨cc7,fc7,zc7⟩:=(Blk.mk cc6 fc6 zc6).call k
 obtain ⟨cd7,fd7,zd7⟩:=(Blk.mk cd6 fd6 zd6).call k
 obtain ⟨cr7,fr7,zr7⟩:=(Blk.mk cr6 fr6 zr6).call k
 obtain ⟨cxb7,fxb7,zxb7⟩:=(Blk.mk cxb6 fxb6 zxb6).call k
 obtain ⟨cxc7,fxc7,zxc7⟩:=(Blk.mk cxc6 fxc6 zxc6).call k
 obtain ⟨cxd7,fxd7,zxd7⟩:=(Blk.mk cxd6 fxd6 zxd6).call k
 obtain ⟨cs7,fs7,zs7⟩:=(Blk.mk cs6 fs6 zs6).call k
 obtain ⟨ct7,ft7,zt7⟩:=(Blk.mk ct6 ft6 zt6).call k
 clear k ca6 fa6 cb6 fb6 cc6 fc6 cd6 fd6 cr6 fr6 cxb6 fxb6 cxc6 fxc6 cxd6 fxd6 cs6 fs6 ct6 ft6 B6
 go_wp2
 exact bodyPost_ret (v:=.tuple #[(meetM a b c d).v,.int .i64 0]) (by simp [results,Tryz.results15,go_sem,cr7,fr7]) rfl ⟨rfl,below_set7 B7 (by omega)⟩
theorem Meet_any (a b c d:Pt)(w:World) :
  Calls Tryz.prog 15 #[a.v,b.v,c.v,d.v] w fun e w'=>e = .returned (.tuple #[(mtM a b c d).1.v,.int .i64 (mtM a b c d).2])/\Below w.heap.size w w':=by
 by_cases ga:gridB a=true
 ·by_cases gb:gridB b=true
  ·by_cases gc:gridB c=true
   ·by_cases gd:gridB d=true
    ·by_cases h1:eqP a b=true
     ·have e:mtM a b c d=(zM,4):=by unfold mtM;rw [if_neg (by simp [ga,gb,gc,gd]),if_pos (.inl h1)]
      rw [e];exact Meet_edge1 a b c d w ga gb gc gd h1
     ·by_cases h2:eqP c d=true
      ·have e:mtM a b c d=(zM,4):=by unfold mtM;rw [if_neg (by simp [ga,gb,gc,gd]),if_pos (.inr h2)]
       rw [e];exact Meet_edge2 a b c d w ga gb gc gd (by simpa using h1) h2
      ·have e:mtM a b c d=(meetM a b c d,0):=by unfold mtM;rw [if_neg (by simp [ga,gb,gc,gd]),if_neg (by simp [h1,h2])]
       rw [e];exact Meet_ok a b c d w ga gb gc gd (by simpa using h1) (by simpa using h2)
    ·have e:mtM a b c d=(zM,3):=by unfold mtM;rw [if_pos (by simp [gd])]
     rw [e];exact Meet_bad3 a b c d w ga gb gc (by simpa using gd)
   ·have e:mtM a b c d=(zM,3):=by unfold mtM;rw [if_pos (by simp [gc])]
    rw [e];exact Meet_bad2 a b c d w ga gb (by simpa using gc)
  ·have e:mtM a b c d=(zM,3):=by unfold mtM;rw [if_pos (by simp [gb])]
   rw [e];exact Meet_bad1 a b c d w ga (by simpa using gb)
 ·have e:mtM a b c d=(zM,3):=by unfold mtM;rw [if_pos (by simp [ga])]
  rw [e];exact Meet_bad0 a b c d w (by simpa using ga)
end Go.Proofs.YtnkcbephceollabGreat
