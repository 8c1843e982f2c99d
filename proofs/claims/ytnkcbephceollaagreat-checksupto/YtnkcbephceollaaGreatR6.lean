import Derived.Test.YtnkcbephceollaaGreatR5
import Derived.Test.YtnkcbephceollaaGreatW7
namespace Go.Proofs.YtnkcbephceollaaGreat
open Go.RowKit
set_option linter.unusedSimpArgs false
set_option linter.unusedVariables false


set_option maxHeartbeats 1000000 in
theorem rMeet_bad0 (a b c d : Pt) (w : World) (ga : gridB a = false) :
    Calls Tryz.prog 19 #[a.v, b.v, c.v, d.v] w fun e w' => e = .returned (.tuple #[(zM).v, .int .i64 3]) ∧ Below w.heap.size w w' := by
  have heq := eql_pt
  go_enter Tryz.func19, Tryz.ntmps19
  go_wp2_with fail
  refine wp_loop_rounds 5 ?_
  rw [rounds_succ]
  go_wp2_with fail
  refine (rgrid_any a _).mono ?_
  rintro e w1 ⟨rfl, k⟩
  have B1 := bvia (below6 _ _ _ _ _ _ _) k
  obtain ⟨ca1, fa1, za1⟩ := ((((((Blk.new w _ _).alloc _).alloc _).alloc _).alloc _).alloc _).call k
  obtain ⟨cb1, fb1, zb1⟩ := (((((Blk.at (w.heap.size + 1) (by simp)).alloc _).alloc _).alloc _).alloc _).call k
  obtain ⟨cc1, fc1, zc1⟩ := ((((Blk.at (w.heap.size + 1 + 1) (by simp)).alloc _).alloc _).alloc _).call k
  obtain ⟨cd1, fd1, zd1⟩ := (((Blk.at (w.heap.size + 1 + 1 + 1) (by simp)).alloc _).alloc _).call k
  obtain ⟨cr1, fr1, zr1⟩ := ((Blk.at (w.heap.size + 1 + 1 + 1 + 1) (by simp)).alloc _).call k
  obtain ⟨cl1, fl1, zl1⟩ := (Blk.at (w.heap.size + 1 + 1 + 1 + 1 + 1) (by simp)).call k
  clear k
  go_wp2
  exact bodyPost_ret (v := .tuple #[(zM).v, .int .i64 3]) (by simp [results, Tryz.results19, go_sem, cr1, fr1, zM, zP]) rfl ⟨rfl, below_set7 B1 (by omega)⟩

set_option maxHeartbeats 1000000 in
theorem rMeet_bad1 (a b c d : Pt) (w : World) (ga : gridB a = true) (gb : gridB b = false) :
    Calls Tryz.prog 19 #[a.v, b.v, c.v, d.v] w fun e w' => e = .returned (.tuple #[(zM).v, .int .i64 3]) ∧ Below w.heap.size w w' := by
  have heq := eql_pt
  go_enter Tryz.func19, Tryz.ntmps19
  go_wp2_with fail
  refine wp_loop_rounds 5 ?_
  rw [rounds_succ]
  go_wp2_with fail
  refine (rgrid_any a _).mono ?_
  rintro e w1 ⟨rfl, k⟩
  have B1 := bvia (below6 _ _ _ _ _ _ _) k
  obtain ⟨ca1, fa1, za1⟩ := ((((((Blk.new w _ _).alloc _).alloc _).alloc _).alloc _).alloc _).call k
  obtain ⟨cb1, fb1, zb1⟩ := (((((Blk.at (w.heap.size + 1) (by simp)).alloc _).alloc _).alloc _).alloc _).call k
  obtain ⟨cc1, fc1, zc1⟩ := ((((Blk.at (w.heap.size + 1 + 1) (by simp)).alloc _).alloc _).alloc _).call k
  obtain ⟨cd1, fd1, zd1⟩ := (((Blk.at (w.heap.size + 1 + 1 + 1) (by simp)).alloc _).alloc _).call k
  obtain ⟨cr1, fr1, zr1⟩ := ((Blk.at (w.heap.size + 1 + 1 + 1 + 1) (by simp)).alloc _).call k
  obtain ⟨cl1, fl1, zl1⟩ := (Blk.at (w.heap.size + 1 + 1 + 1 + 1 + 1) (by simp)).call k
  clear k
  go_wp2_with fail
  rw [rounds_succ]
  go_wp2_with fail
  refine (rgrid_any b _).mono ?_
  rintro e w2 ⟨rfl, k⟩
  have B2 := bvia B1 k
  obtain ⟨ca2, fa2, za2⟩ := (Blk.mk ca1 fa1 za1).call k
  obtain ⟨cb2, fb2, zb2⟩ := (Blk.mk cb1 fb1 zb1).call k
  obtain ⟨cc2, fc2, zc2⟩ := (Blk.mk cc1 fc1 zc1).call k
  obtain ⟨cd2, fd2, zd2⟩ := (Blk.mk cd1 fd1 zd1).call k
  obtain ⟨cr2, fr2, zr2⟩ := (Blk.mk cr1 fr1 zr1).call k
  obtain ⟨cl2, fl2, zl2⟩ := (Blk.mk cl1 fl1 zl1).call k
  clear k ca1 fa1 cb1 fb1 cc1 fc1 cd1 fd1 cr1 fr1 cl1 fl1 B1
  go_wp2
  exact bodyPost_ret (v := .tuple #[(zM).v, .int .i64 3]) (by simp [results, Tryz.results19, go_sem, cr2, fr2, zM, zP]) rfl ⟨rfl, below_set7 B2 (by omega)⟩

set_option maxHeartbeats 1000000 in
theorem rMeet_bad2 (a b c d : Pt) (w : World) (ga : gridB a = true) (gb : gridB b = true) (gc : gridB c = false) :
    Calls Tryz.prog 19 #[a.v, b.v, c.v, d.v] w fun e w' => e = .returned (.tuple #[(zM).v, .int .i64 3]) ∧ Below w.heap.size w w' := by
  have heq := eql_pt
  go_enter Tryz.func19, Tryz.ntmps19
  go_wp2_with fail
  refine wp_loop_rounds 5 ?_
  rw [rounds_succ]
  go_wp2_with fail
  refine (rgrid_any a _).mono ?_
  rintro e w1 ⟨rfl, k⟩
  have B1 := bvia (below6 _ _ _ _ _ _ _) k
  obtain ⟨ca1, fa1, za1⟩ := ((((((Blk.new w _ _).alloc _).alloc _).alloc _).alloc _).alloc _).call k
  obtain ⟨cb1, fb1, zb1⟩ := (((((Blk.at (w.heap.size + 1) (by simp)).alloc _).alloc _).alloc _).alloc _).call k
  obtain ⟨cc1, fc1, zc1⟩ := ((((Blk.at (w.heap.size + 1 + 1) (by simp)).alloc _).alloc _).alloc _).call k
  obtain ⟨cd1, fd1, zd1⟩ := (((Blk.at (w.heap.size + 1 + 1 + 1) (by simp)).alloc _).alloc _).call k
  obtain ⟨cr1, fr1, zr1⟩ := ((Blk.at (w.heap.size + 1 + 1 + 1 + 1) (by simp)).alloc _).call k
  obtain ⟨cl1, fl1, zl1⟩ := (Blk.at (w.heap.size + 1 + 1 + 1 + 1 + 1) (by simp)).call k
  clear k
  go_wp2_with fail
  rw [rounds_succ]
  go_wp2_with fail
  refine (rgrid_any b _).mono ?_
  rintro e w2 ⟨rfl, k⟩
  have B2 := bvia B1 k
  obtain ⟨ca2, fa2, za2⟩ := (Blk.mk ca1 fa1 za1).call k
  obtain ⟨cb2, fb2, zb2⟩ := (Blk.mk cb1 fb1 zb1).call k
  obtain ⟨cc2, fc2, zc2⟩ := (Blk.mk cc1 fc1 zc1).call k
  obtain ⟨cd2, fd2, zd2⟩ := (Blk.mk cd1 fd1 zd1).call k
  obtain ⟨cr2, fr2, zr2⟩ := (Blk.mk cr1 fr1 zr1).call k
  obtain ⟨cl2, fl2, zl2⟩ := (Blk.mk cl1 fl1 zl1).call k
  clear k ca1 fa1 cb1 fb1 cc1 fc1 cd1 fd1 cr1 fr1 cl1 fl1 B1
  go_wp2_with fail
  rw [rounds_succ]
  go_wp2_with fail
  refine (rgrid_any c _).mono ?_
  rintro e w3 ⟨rfl, k⟩
  have B3 := bvia B2 k
  obtain ⟨ca3, fa3, za3⟩ := (Blk.mk ca2 fa2 za2).call k
  obtain ⟨cb3, fb3, zb3⟩ := (Blk.mk cb2 fb2 zb2).call k
  obtain ⟨cc3, fc3, zc3⟩ := (Blk.mk cc2 fc2 zc2).call k
  obtain ⟨cd3, fd3, zd3⟩ := (Blk.mk cd2 fd2 zd2).call k
  obtain ⟨cr3, fr3, zr3⟩ := (Blk.mk cr2 fr2 zr2).call k
  obtain ⟨cl3, fl3, zl3⟩ := (Blk.mk cl2 fl2 zl2).call k
  clear k ca2 fa2 cb2 fb2 cc2 fc2 cd2 fd2 cr2 fr2 cl2 fl2 B2
  go_wp2
  exact bodyPost_ret (v := .tuple #[(zM).v, .int .i64 3]) (by simp [results, Tryz.results19, go_sem, cr3, fr3, zM, zP]) rfl ⟨rfl, below_set7 B3 (by omega)⟩

set_option maxHeartbeats 1000000 in
theorem rMeet_bad3 (a b c d : Pt) (w : World) (ga : gridB a = true) (gb : gridB b = true) (gc : gridB c = true) (gd : gridB d = false) :
    Calls Tryz.prog 19 #[a.v, b.v, c.v, d.v] w fun e w' => e = .returned (.tuple #[(zM).v, .int .i64 3]) ∧ Below w.heap.size w w' := by
  have heq := eql_pt
  go_enter Tryz.func19, Tryz.ntmps19
  go_wp2_with fail
  refine wp_loop_rounds 5 ?_
  rw [rounds_succ]
  go_wp2_with fail
  refine (rgrid_any a _).mono ?_
  rintro e w1 ⟨rfl, k⟩
  have B1 := bvia (below6 _ _ _ _ _ _ _) k
  obtain ⟨ca1, fa1, za1⟩ := ((((((Blk.new w _ _).alloc _).alloc _).alloc _).alloc _).alloc _).call k
  obtain ⟨cb1, fb1, zb1⟩ := (((((Blk.at (w.heap.size + 1) (by simp)).alloc _).alloc _).alloc _).alloc _).call k
  obtain ⟨cc1, fc1, zc1⟩ := ((((Blk.at (w.heap.size + 1 + 1) (by simp)).alloc _).alloc _).alloc _).call k
  obtain ⟨cd1, fd1, zd1⟩ := (((Blk.at (w.heap.size + 1 + 1 + 1) (by simp)).alloc _).alloc _).call k
  obtain ⟨cr1, fr1, zr1⟩ := ((Blk.at (w.heap.size + 1 + 1 + 1 + 1) (by simp)).alloc _).call k
  obtain ⟨cl1, fl1, zl1⟩ := (Blk.at (w.heap.size + 1 + 1 + 1 + 1 + 1) (by simp)).call k
  clear k
  go_wp2_with fail
  rw [rounds_succ]
  go_wp2_with fail
  refine (rgrid_any b _).mono ?_
  rintro e w2 ⟨rfl, k⟩
  have B2 := bvia B1 k
  obtain ⟨ca2, fa2, za2⟩ := (Blk.mk ca1 fa1 za1).call k
  obtain ⟨cb2, fb2, zb2⟩ := (Blk.mk cb1 fb1 zb1).call k
  obtain ⟨cc2, fc2, zc2⟩ := (Blk.mk cc1 fc1 zc1).call k
  obtain ⟨cd2, fd2, zd2⟩ := (Blk.mk cd1 fd1 zd1).call k
  obtain ⟨cr2, fr2, zr2⟩ := (Blk.mk cr1 fr1 zr1).call k
  obtain ⟨cl2, fl2, zl2⟩ := (Blk.mk cl1 fl1 zl1).call k
  clear k ca1 fa1 cb1 fb1 cc1 fc1 cd1 fd1 cr1 fr1 cl1 fl1 B1
  go_wp2_with fail
  rw [rounds_succ]
  go_wp2_with fail
  refine (rgrid_any c _).mono ?_
  rintro e w3 ⟨rfl, k⟩
  have B3 := bvia B2 k
  obtain ⟨ca3, fa3, za3⟩ := (Blk.mk ca2 fa2 za2).call k
  obtain ⟨cb3, fb3, zb3⟩ := (Blk.mk cb2 fb2 zb2).call k
  obtain ⟨cc3, fc3, zc3⟩ := (Blk.mk cc2 fc2 zc2).call k
  obtain ⟨cd3, fd3, zd3⟩ := (Blk.mk cd2 fd2 zd2).call k
  obtain ⟨cr3, fr3, zr3⟩ := (Blk.mk cr2 fr2 zr2).call k
  obtain ⟨cl3, fl3, zl3⟩ := (Blk.mk cl2 fl2 zl2).call k
  clear k ca2 fa2 cb2 fb2 cc2 fc2 cd2 fd2 cr2 fr2 cl2 fl2 B2
  go_wp2_with fail
  rw [rounds_succ]
  go_wp2_with fail
  refine (rgrid_any d _).mono ?_
  rintro e w4 ⟨rfl, k⟩
  have B4 := bvia B3 k
  obtain ⟨ca4, fa4, za4⟩ := (Blk.mk ca3 fa3 za3).call k
  obtain ⟨cb4, fb4, zb4⟩ := (Blk.mk cb3 fb3 zb3).call k
  obtain ⟨cc4, fc4, zc4⟩ := (Blk.mk cc3 fc3 zc3).call k
  obtain ⟨cd4, fd4, zd4⟩ := (Blk.mk cd3 fd3 zd3).call k
  obtain ⟨cr4, fr4, zr4⟩ := (Blk.mk cr3 fr3 zr3).call k
  obtain ⟨cl4, fl4, zl4⟩ := (Blk.mk cl3 fl3 zl3).call k
  clear k ca3 fa3 cb3 fb3 cc3 fc3 cd3 fd3 cr3 fr3 cl3 fl3 B3
  go_wp2
  exact bodyPost_ret (v := .tuple #[(zM).v, .int .i64 3]) (by simp [results, Tryz.results19, go_sem, cr4, fr4, zM, zP]) rfl ⟨rfl, below_set7 B4 (by omega)⟩

set_option maxHeartbeats 1000000 in
theorem rMeet_edge1 (a b c d : Pt) (w : World) (ga : gridB a = true) (gb : gridB b = true) (gc : gridB c = true) (gd : gridB d = true) (h1 : eqP a b = true) :
    Calls Tryz.prog 19 #[a.v, b.v, c.v, d.v] w fun e w' => e = .returned (.tuple #[(zM).v, .int .i64 4]) ∧ Below w.heap.size w w' := by
  have heq := eql_pt
  go_enter Tryz.func19, Tryz.ntmps19
  go_wp2_with fail
  refine wp_loop_rounds 5 ?_
  rw [rounds_succ]
  go_wp2_with fail
  refine (rgrid_any a _).mono ?_
  rintro e w1 ⟨rfl, k⟩
  have B1 := bvia (below6 _ _ _ _ _ _ _) k
  obtain ⟨ca1, fa1, za1⟩ := ((((((Blk.new w _ _).alloc _).alloc _).alloc _).alloc _).alloc _).call k
  obtain ⟨cb1, fb1, zb1⟩ := (((((Blk.at (w.heap.size + 1) (by simp)).alloc _).alloc _).alloc _).alloc _).call k
  obtain ⟨cc1, fc1, zc1⟩ := ((((Blk.at (w.heap.size + 1 + 1) (by simp)).alloc _).alloc _).alloc _).call k
  obtain ⟨cd1, fd1, zd1⟩ := (((Blk.at (w.heap.size + 1 + 1 + 1) (by simp)).alloc _).alloc _).call k
  obtain ⟨cr1, fr1, zr1⟩ := ((Blk.at (w.heap.size + 1 + 1 + 1 + 1) (by simp)).alloc _).call k
  obtain ⟨cl1, fl1, zl1⟩ := (Blk.at (w.heap.size + 1 + 1 + 1 + 1 + 1) (by simp)).call k
  clear k
  go_wp2_with fail
  rw [rounds_succ]
  go_wp2_with fail
  refine (rgrid_any b _).mono ?_
  rintro e w2 ⟨rfl, k⟩
  have B2 := bvia B1 k
  obtain ⟨ca2, fa2, za2⟩ := (Blk.mk ca1 fa1 za1).call k
  obtain ⟨cb2, fb2, zb2⟩ := (Blk.mk cb1 fb1 zb1).call k
  obtain ⟨cc2, fc2, zc2⟩ := (Blk.mk cc1 fc1 zc1).call k
  obtain ⟨cd2, fd2, zd2⟩ := (Blk.mk cd1 fd1 zd1).call k
  obtain ⟨cr2, fr2, zr2⟩ := (Blk.mk cr1 fr1 zr1).call k
  obtain ⟨cl2, fl2, zl2⟩ := (Blk.mk cl1 fl1 zl1).call k
  clear k ca1 fa1 cb1 fb1 cc1 fc1 cd1 fd1 cr1 fr1 cl1 fl1 B1
  go_wp2_with fail
  rw [rounds_succ]
  go_wp2_with fail
  refine (rgrid_any c _).mono ?_
  rintro e w3 ⟨rfl, k⟩
  have B3 := bvia B2 k
  obtain ⟨ca3, fa3, za3⟩ := (Blk.mk ca2 fa2 za2).call k
  obtain ⟨cb3, fb3, zb3⟩ := (Blk.mk cb2 fb2 zb2).call k
  obtain ⟨cc3, fc3, zc3⟩ := (Blk.mk cc2 fc2 zc2).call k
  obtain ⟨cd3, fd3, zd3⟩ := (Blk.mk cd2 fd2 zd2).call k
  obtain ⟨cr3, fr3, zr3⟩ := (Blk.mk cr2 fr2 zr2).call k
  obtain ⟨cl3, fl3, zl3⟩ := (Blk.mk cl2 fl2 zl2).call k
  clear k ca2 fa2 cb2 fb2 cc2 fc2 cd2 fd2 cr2 fr2 cl2 fl2 B2
  go_wp2_with fail
  rw [rounds_succ]
  go_wp2_with fail
  refine (rgrid_any d _).mono ?_
  rintro e w4 ⟨rfl, k⟩
  have B4 := bvia B3 k
  obtain ⟨ca4, fa4, za4⟩ := (Blk.mk ca3 fa3 za3).call k
  obtain ⟨cb4, fb4, zb4⟩ := (Blk.mk cb3 fb3 zb3).call k
  obtain ⟨cc4, fc4, zc4⟩ := (Blk.mk cc3 fc3 zc3).call k
  obtain ⟨cd4, fd4, zd4⟩ := (Blk.mk cd3 fd3 zd3).call k
  obtain ⟨cr4, fr4, zr4⟩ := (Blk.mk cr3 fr3 zr3).call k
  obtain ⟨cl4, fl4, zl4⟩ := (Blk.mk cl3 fl3 zl3).call k
  clear k ca3 fa3 cb3 fb3 cc3 fc3 cd3 fd3 cr3 fr3 cl3 fl3 B3
  go_wp2_with fail
  rw [rounds_succ]
  go_wp2
  exact bodyPost_ret (v := .tuple #[(zM).v, .int .i64 4]) (by simp [results, Tryz.results19, go_sem, cr4, fr4, zM, zP]) rfl ⟨rfl, below_set7 B4 (by omega)⟩

set_option maxHeartbeats 1000000 in
theorem rMeet_edge2 (a b c d : Pt) (w : World) (ga : gridB a = true) (gb : gridB b = true) (gc : gridB c = true) (gd : gridB d = true) (h1 : eqP a b = false) (h2 : eqP c d = true) :
    Calls Tryz.prog 19 #[a.v, b.v, c.v, d.v] w fun e w' => e = .returned (.tuple #[(zM).v, .int .i64 4]) ∧ Below w.heap.size w w' := by
  have heq := eql_pt
  go_enter Tryz.func19, Tryz.ntmps19
  go_wp2_with fail
  refine wp_loop_rounds 5 ?_
  rw [rounds_succ]
  go_wp2_with fail
  refine (rgrid_any a _).mono ?_
  rintro e w1 ⟨rfl, k⟩
  have B1 := bvia (below6 _ _ _ _ _ _ _) k
  obtain ⟨ca1, fa1, za1⟩ := ((((((Blk.new w _ _).alloc _).alloc _).alloc _).alloc _).alloc _).call k
  obtain ⟨cb1, fb1, zb1⟩ := (((((Blk.at (w.heap.size + 1) (by simp)).alloc _).alloc _).alloc _).alloc _).call k
  obtain ⟨cc1, fc1, zc1⟩ := ((((Blk.at (w.heap.size + 1 + 1) (by simp)).alloc _).alloc _).alloc _).call k
  obtain ⟨cd1, fd1, zd1⟩ := (((Blk.at (w.heap.size + 1 + 1 + 1) (by simp)).alloc _).alloc _).call k
  obtain ⟨cr1, fr1, zr1⟩ := ((Blk.at (w.heap.size + 1 + 1 + 1 + 1) (by simp)).alloc _).call k
  obtain ⟨cl1, fl1, zl1⟩ := (Blk.at (w.heap.size + 1 + 1 + 1 + 1 + 1) (by simp)).call k
  clear k
  go_wp2_with fail
  rw [rounds_succ]
  go_wp2_with fail
  refine (rgrid_any b _).mono ?_
  rintro e w2 ⟨rfl, k⟩
  have B2 := bvia B1 k
  obtain ⟨ca2, fa2, za2⟩ := (Blk.mk ca1 fa1 za1).call k
  obtain ⟨cb2, fb2, zb2⟩ := (Blk.mk cb1 fb1 zb1).call k
  obtain ⟨cc2, fc2, zc2⟩ := (Blk.mk cc1 fc1 zc1).call k
  obtain ⟨cd2, fd2, zd2⟩ := (Blk.mk cd1 fd1 zd1).call k
  obtain ⟨cr2, fr2, zr2⟩ := (Blk.mk cr1 fr1 zr1).call k
  obtain ⟨cl2, fl2, zl2⟩ := (Blk.mk cl1 fl1 zl1).call k
  clear k ca1 fa1 cb1 fb1 cc1 fc1 cd1 fd1 cr1 fr1 cl1 fl1 B1
  go_wp2_with fail
  rw [rounds_succ]
  go_wp2_with fail
  refine (rgrid_any c _).mono ?_
  rintro e w3 ⟨rfl, k⟩
  have B3 := bvia B2 k
  obtain ⟨ca3, fa3, za3⟩ := (Blk.mk ca2 fa2 za2).call k
  obtain ⟨cb3, fb3, zb3⟩ := (Blk.mk cb2 fb2 zb2).call k
  obtain ⟨cc3, fc3, zc3⟩ := (Blk.mk cc2 fc2 zc2).call k
  obtain ⟨cd3, fd3, zd3⟩ := (Blk.mk cd2 fd2 zd2).call k
  obtain ⟨cr3, fr3, zr3⟩ := (Blk.mk cr2 fr2 zr2).call k
  obtain ⟨cl3, fl3, zl3⟩ := (Blk.mk cl2 fl2 zl2).call k
  clear k ca2 fa2 cb2 fb2 cc2 fc2 cd2 fd2 cr2 fr2 cl2 fl2 B2
  go_wp2_with fail
  rw [rounds_succ]
  go_wp2_with fail
  refine (rgrid_any d _).mono ?_
  rintro e w4 ⟨rfl, k⟩
  have B4 := bvia B3 k
  obtain ⟨ca4, fa4, za4⟩ := (Blk.mk ca3 fa3 za3).call k
  obtain ⟨cb4, fb4, zb4⟩ := (Blk.mk cb3 fb3 zb3).call k
  obtain ⟨cc4, fc4, zc4⟩ := (Blk.mk cc3 fc3 zc3).call k
  obtain ⟨cd4, fd4, zd4⟩ := (Blk.mk cd3 fd3 zd3).call k
  obtain ⟨cr4, fr4, zr4⟩ := (Blk.mk cr3 fr3 zr3).call k
  obtain ⟨cl4, fl4, zl4⟩ := (Blk.mk cl3 fl3 zl3).call k
  clear k ca3 fa3 cb3 fb3 cc3 fc3 cd3 fd3 cr3 fr3 cl3 fl3 B3
  go_wp2_with fail
  rw [rounds_succ]
  go_wp2
  exact bodyPost_ret (v := .tuple #[(zM).v, .int .i64 4]) (by simp [results, Tryz.results19, go_sem, cr4, fr4, zM, zP]) rfl ⟨rfl, below_set7 B4 (by omega)⟩

set_option maxHeartbeats 1000000 in
theorem rMeet_ok (a b c d : Pt) (w : World) (ga : gridB a = true) (gb : gridB b = true) (gc : gridB c = true) (gd : gridB d = true) (h1 : eqP a b = false) (h2 : eqP c d = false) :
    Calls Tryz.prog 19 #[a.v, b.v, c.v, d.v] w fun e w' => e = .returned (.tuple #[(rmeetM a b c d).v, .int .i64 0]) ∧ Below w.heap.size w w' := by
  have heq := eql_pt
  go_enter Tryz.func19, Tryz.ntmps19
  go_wp2_with fail
  refine wp_loop_rounds 5 ?_
  rw [rounds_succ]
  go_wp2_with fail
  refine (rgrid_any a _).mono ?_
  rintro e w1 ⟨rfl, k⟩
  have B1 := bvia (below6 _ _ _ _ _ _ _) k
  obtain ⟨ca1, fa1, za1⟩ := ((((((Blk.new w _ _).alloc _).alloc _).alloc _).alloc _).alloc _).call k
  obtain ⟨cb1, fb1, zb1⟩ := (((((Blk.at (w.heap.size + 1) (by simp)).alloc _).alloc _).alloc _).alloc _).call k
  obtain ⟨cc1, fc1, zc1⟩ := ((((Blk.at (w.heap.size + 1 + 1) (by simp)).alloc _).alloc _).alloc _).call k
  obtain ⟨cd1, fd1, zd1⟩ := (((Blk.at (w.heap.size + 1 + 1 + 1) (by simp)).alloc _).alloc _).call k
  obtain ⟨cr1, fr1, zr1⟩ := ((Blk.at (w.heap.size + 1 + 1 + 1 + 1) (by simp)).alloc _).call k
  obtain ⟨cl1, fl1, zl1⟩ := (Blk.at (w.heap.size + 1 + 1 + 1 + 1 + 1) (by simp)).call k
  clear k
  go_wp2_with fail
  rw [rounds_succ]
  go_wp2_with fail
  refine (rgrid_any b _).mono ?_
  rintro e w2 ⟨rfl, k⟩
  have B2 := bvia B1 k
  obtain ⟨ca2, fa2, za2⟩ := (Blk.mk ca1 fa1 za1).call k
  obtain ⟨cb2, fb2, zb2⟩ := (Blk.mk cb1 fb1 zb1).call k
  obtain ⟨cc2, fc2, zc2⟩ := (Blk.mk cc1 fc1 zc1).call k
  obtain ⟨cd2, fd2, zd2⟩ := (Blk.mk cd1 fd1 zd1).call k
  obtain ⟨cr2, fr2, zr2⟩ := (Blk.mk cr1 fr1 zr1).call k
  obtain ⟨cl2, fl2, zl2⟩ := (Blk.mk cl1 fl1 zl1).call k
  clear k ca1 fa1 cb1 fb1 cc1 fc1 cd1 fd1 cr1 fr1 cl1 fl1 B1
  go_wp2_with fail
  rw [rounds_succ]
  go_wp2_with fail
  refine (rgrid_any c _).mono ?_
  rintro e w3 ⟨rfl, k⟩
  have B3 := bvia B2 k
  obtain ⟨ca3, fa3, za3⟩ := (Blk.mk ca2 fa2 za2).call k
  obtain ⟨cb3, fb3, zb3⟩ := (Blk.mk cb2 fb2 zb2).call k
  obtain ⟨cc3, fc3, zc3⟩ := (Blk.mk cc2 fc2 zc2).call k
  obtain ⟨cd3, fd3, zd3⟩ := (Blk.mk cd2 fd2 zd2).call k
  obtain ⟨cr3, fr3, zr3⟩ := (Blk.mk cr2 fr2 zr2).call k
  obtain ⟨cl3, fl3, zl3⟩ := (Blk.mk cl2 fl2 zl2).call k
  clear k ca2 fa2 cb2 fb2 cc2 fc2 cd2 fd2 cr2 fr2 cl2 fl2 B2
  go_wp2_with fail
  rw [rounds_succ]
  go_wp2_with fail
  refine (rgrid_any d _).mono ?_
  rintro e w4 ⟨rfl, k⟩
  have B4 := bvia B3 k
  obtain ⟨ca4, fa4, za4⟩ := (Blk.mk ca3 fa3 za3).call k
  obtain ⟨cb4, fb4, zb4⟩ := (Blk.mk cb3 fb3 zb3).call k
  obtain ⟨cc4, fc4, zc4⟩ := (Blk.mk cc3 fc3 zc3).call k
  obtain ⟨cd4, fd4, zd4⟩ := (Blk.mk cd3 fd3 zd3).call k
  obtain ⟨cr4, fr4, zr4⟩ := (Blk.mk cr3 fr3 zr3).call k
  obtain ⟨cl4, fl4, zl4⟩ := (Blk.mk cl3 fl3 zl3).call k
  clear k ca3 fa3 cb3 fb3 cc3 fc3 cd3 fd3 cr3 fr3 cl3 fl3 B3
  go_wp2_with fail
  rw [rounds_succ]
  go_wp2_with fail
  refine (rmeet_any a b c d _ (gr_of ga) (gr_of gb) (gr_of gc) (gr_of gd)).mono ?_
  rintro e w5 ⟨rfl, k⟩
  have B5 := bvia B4 k
  obtain ⟨ca5, fa5, za5⟩ := (Blk.mk ca4 fa4 za4).call k
  obtain ⟨cb5, fb5, zb5⟩ := (Blk.mk cb4 fb4 zb4).call k
  obtain ⟨cc5, fc5, zc5⟩ := (Blk.mk cc4 fc4 zc4).call k
  obtain ⟨cd5, fd5, zd5⟩ := (Blk.mk cd4 fd4 zd4).call k
  obtain ⟨cr5, fr5, zr5⟩ := (Blk.mk cr4 fr4 zr4).call k
  obtain ⟨cl5, fl5, zl5⟩ := (Blk.mk cl4 fl4 zl4).call k
  clear k ca4 fa4 cb4 fb4 cc4 fc4 cd4 fd4 cr4 fr4 cl4 fl4 B4
  go_wp2
  exact bodyPost_ret (v := .tuple #[(rmeetM a b c d).v, .int .i64 0]) (by simp [results, Tryz.results19, go_sem, cr5, fr5]) rfl ⟨rfl, below_set7 B5 (by omega)⟩

theorem rMeet_any (a b c d : Pt) (w : World) :
    Calls Tryz.prog 19 #[a.v, b.v, c.v, d.v] w fun e w' => e = .returned (.tuple #[(mtM a b c d).1.v, .int .i64 (mtM a b c d).2]) ∧ Below w.heap.size w w' := by
  by_cases ga : gridB a = true
  · by_cases gb : gridB b = true
    · by_cases gc : gridB c = true
      · by_cases gd : gridB d = true
        · by_cases h1 : eqP a b = true
          · have e : mtM a b c d = (zM, 4) := by unfold mtM; rw [if_neg (by simp [ga, gb, gc, gd]), if_pos (.inl h1)]
            rw [e]; exact rMeet_edge1 a b c d w ga gb gc gd h1
          · by_cases h2 : eqP c d = true
            · have e : mtM a b c d = (zM, 4) := by unfold mtM; rw [if_neg (by simp [ga, gb, gc, gd]), if_pos (.inr h2)]
              rw [e]; exact rMeet_edge2 a b c d w ga gb gc gd (by simpa using h1) h2
            · have e : mtM a b c d = (meetM a b c d, 0) := by unfold mtM; rw [if_neg (by simp [ga, gb, gc, gd]), if_neg (by simp [h1, h2])]
              rw [e, ← rmeet_eq (gr_of ga).d (gr_of gb).d (gr_of gc).d (gr_of gd).d (eqP_false (by simpa using h1)) (eqP_false (by simpa using h2))]
              exact rMeet_ok a b c d w ga gb gc gd (by simpa using h1) (by simpa using h2)
        · have e : mtM a b c d = (zM, 3) := by unfold mtM; rw [if_pos (by simp [gd])]
          rw [e]; exact rMeet_bad3 a b c d w ga gb gc (by simpa using gd)
      · have e : mtM a b c d = (zM, 3) := by unfold mtM; rw [if_pos (by simp [gc])]
        rw [e]; exact rMeet_bad2 a b c d w ga gb (by simpa using gc)
    · have e : mtM a b c d = (zM, 3) := by unfold mtM; rw [if_pos (by simp [gb])]
      rw [e]; exact rMeet_bad1 a b c d w ga (by simpa using gb)
  · have e : mtM a b c d = (zM, 3) := by unfold mtM; rw [if_pos (by simp [ga])]
    rw [e]; exact rMeet_bad0 a b c d w (by simpa using ga)

end Go.Proofs.YtnkcbephceollaaGreat
