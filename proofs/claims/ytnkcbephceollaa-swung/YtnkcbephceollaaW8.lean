import Derived.Test.YtnkcbephceollaaW7
import Derived.Test.YtnkcbephceollaaQ17
import Derived.Test.YtnkcbephceollaaM2
namespace Go.Proofs.Ytnkcbephceollaa
open Go.RowKit
set_option linter.unusedSimpArgs false
set_option linter.unusedVariables false

theorem below5 (w : World) (a b c d e : Obj) : Below w.heap.size w (((((w.alloc a).alloc b).alloc c).alloc d).alloc e) :=
  (((((Below.refl _ _).alloc (Nat.le_refl _) _).alloc (by simp) _).alloc (by simp; omega) _).alloc (by simp; omega) _).alloc (by simp; omega) _
theorem below4 (w : World) (a b c d : Obj) : Below w.heap.size w ((((w.alloc a).alloc b).alloc c).alloc d) :=
  ((((Below.refl _ _).alloc (Nat.le_refl _) _).alloc (by simp) _).alloc (by simp; omega) _).alloc (by simp; omega) _

set_option maxHeartbeats 300000 in
theorem meeting_ok (a b c d : Pt) (w : World) (ga : Gr a) (gb : Gr b) (gc : Gr c) (gd : Gr d) (h1 : eqP a b = false) (h2 : eqP c d = false) :
    Calls Try.prog 12 #[a.v, b.v, c.v, d.v] w fun e w' => e = .returned (.tuple #[(meetM a b c d).v, .bool true]) ∧ Below w.heap.size w w' := by
  go_enter Try.func12, Try.ntmps12
  go_wp2_with fail
  refine (Meet_ok a b c d _ (grid_iff ga) (grid_iff gb) (grid_iff gc) (grid_iff gd) h1 h2).mono ?_
  rintro e w1 ⟨rfl, k⟩
  have B1 := bvia (below5 _ _ _ _ _ _) k
  obtain ⟨cr1, fr1, zr1⟩ := (Blk.at (w.heap.size + 1 + 1 + 1 + 1) (by simp)).call k
  clear k
  go_wp2
  exact bodyPost_ret (v := .tuple #[(meetM a b c d).v, .bool true]) (by simp [results, Try.results12, go_sem, cr1, fr1, zr1]) rfl ⟨rfl, (below_set7 B1 (by omega)).alloc (below_set7 B1 (by omega)).size _⟩


set_option maxHeartbeats 1000000 in
theorem sides_any (a b c d : Pt) (w : World) (ha : Gd a) (hb : Gd b) (hc : Gd c) (hd : Gd d) :
    Calls Try.prog 14 #[a.v, b.v, c.v, d.v] w fun e w' => e = .returned (.int .i64 (sidesM (detM a b c) (detM a b d))) ∧ Below w.heap.size w w' := by
  go_enter Try.func14, Try.ntmps14
  go_wp2_with fail
  refine (det_any a b c _ ha hb hc).mono ?_
  rintro e w1 ⟨rfl, k⟩
  have B1 := bvia (below4 _ _ _ _ _) k
  obtain ⟨ca1, fa1, za1⟩ := ((((Blk.new w _ _).alloc _).alloc _).alloc _).call k
  obtain ⟨cb1, fb1, zb1⟩ := (((Blk.at (w.heap.size + 1) (by simp)).alloc _).alloc _).call k
  obtain ⟨cc1, fc1, zc1⟩ := ((Blk.at (w.heap.size + 1 + 1) (by simp)).alloc _).call k
  obtain ⟨cd1, fd1, zd1⟩ := (Blk.at (w.heap.size + 1 + 1 + 1) (by simp)).call k
  clear k
  go_wp2_with fail
  refine (det_any a b d _ ha hb hd).mono ?_
  rintro e w2 ⟨rfl, k⟩
  have B2 := bvia B1 k
  obtain ⟨ca2, fa2, za2⟩ := (Blk.mk ca1 fa1 za1).call k
  obtain ⟨cb2, fb2, zb2⟩ := (Blk.mk cb1 fb1 zb1).call k
  obtain ⟨cc2, fc2, zc2⟩ := (Blk.mk cc1 fc1 zc1).call k
  obtain ⟨cd2, fd2, zd2⟩ := (Blk.mk cd1 fd1 zd1).call k
  clear k ca1 fa1 cb1 fb1 cc1 fc1 cd1 fd1 B1
  clear ca2 fa2 cb2 fb2 cc2 fc2 cd2 fd2
  by_cases h0 : (detM a b c == 0) = true
  · have H : Hid (sidesM (detM a b c) (detM a b d) = 0) := sides_0 (.inl (by simpa using h0))
    go_wp2
    go_ret
    exact ⟨ret_int H.out.symm, B2⟩
  have h0' : (detM a b c == 0) = false := by simpa using h0
  by_cases h1 : (detM a b d == 0) = true
  · have H : Hid (sidesM (detM a b c) (detM a b d) = 0) := sides_0 (.inr (by simpa using h1))
    clear h0
    go_wp2
    go_ret
    exact ⟨ret_int H.out.symm, B2⟩
  have h1' : (detM a b d == 0) = false := by simpa using h1
  have hn : ¬ (detM a b c = 0 ∨ detM a b d = 0) := by simpa using And.intro h0' h1'
  by_cases h2 : (decide (detM a b c < 0) == decide (detM a b d < 0)) = true
  · have H : Hid (sidesM (detM a b c) (detM a b d) = 1) := sides_1 hn h2
    clear h0 h1 hn
    go_wp2
    all_goals (go_ret; exact ⟨ret_int H.out.symm, B2⟩)
  · have H : Hid (sidesM (detM a b c) (detM a b d) = -1) := sides_2 hn h2
    have h2' : (decide (detM a b c < 0) == decide (detM a b d < 0)) = false := by simpa using h2
    clear h0 h1 hn h2
    go_wp2
    all_goals (go_ret; exact ⟨ret_int H.out.symm, B2⟩)


set_option maxHeartbeats 1000000 in
theorem holds_any (a b p : Pt) (w : World) (ha : Gd a) (hb : Gd b) (hp : Gd p) (h : holdsB a b p = true) :
    Calls Try.prog 15 #[a.v, b.v, p.v] w fun e w' => e = .returned (.bool true) ∧ Below w.heap.size w w' := by
  unfold holdsB at h
  simp only [Bool.and_eq_true, Bool.not_eq_true'] at h
  obtain ⟨⟨h1, h2⟩, h3⟩ := h
  go_enter Try.func15, Try.ntmps15
  go_wp2_with fail
  refine (det_any a b p _ ha hb hp).mono ?_
  rintro e w1 ⟨rfl, k⟩
  have B1 := bvia (below3 _ _ _ _) k
  obtain ⟨ca1, fa1, za1⟩ := (((Blk.new w _ _).alloc _).alloc _).call k
  obtain ⟨cb1, fb1, zb1⟩ := ((Blk.at (w.heap.size + 1) (by simp)).alloc _).call k
  obtain ⟨cp1, fp1, zp1⟩ := (Blk.at (w.heap.size + 1 + 1) (by simp)).call k
  clear k
  go_wp2_with fail
  refine (before_any p a _ hp ha).mono ?_
  rintro e w2 ⟨rfl, k⟩
  have B2 := bvia B1 k
  obtain ⟨ca2, fa2, za2⟩ := (Blk.mk ca1 fa1 za1).call k
  obtain ⟨cb2, fb2, zb2⟩ := (Blk.mk cb1 fb1 zb1).call k
  obtain ⟨cp2, fp2, zp2⟩ := (Blk.mk cp1 fp1 zp1).call k
  clear k ca1 fa1 cb1 fb1 cp1 fp1 B1
  go_wp2_with fail
  refine (before_any p b _ hp hb).mono ?_
  rintro e w3 ⟨rfl, k⟩
  have B3 := bvia B2 k
  obtain ⟨ca3, fa3, za3⟩ := (Blk.mk ca2 fa2 za2).call k
  obtain ⟨cb3, fb3, zb3⟩ := (Blk.mk cb2 fb2 zb2).call k
  obtain ⟨cp3, fp3, zp3⟩ := (Blk.mk cp2 fp2 zp2).call k
  clear k ca2 fa2 cb2 fb2 cp2 fp2 B2
  go_wp2_with fail
  refine (before_any a p _ ha hp).mono ?_
  rintro e w4 ⟨rfl, k⟩
  have B4 := bvia B3 k
  obtain ⟨ca4, fa4, za4⟩ := (Blk.mk ca3 fa3 za3).call k
  obtain ⟨cb4, fb4, zb4⟩ := (Blk.mk cb3 fb3 zb3).call k
  obtain ⟨cp4, fp4, zp4⟩ := (Blk.mk cp3 fp3 zp3).call k
  clear k ca3 fa3 cb3 fb3 cp3 fp3 B3
  go_wp2_with fail
  refine (before_any b p _ hb hp).mono ?_
  rintro e w5 ⟨rfl, k⟩
  have B5 := bvia B4 k
  obtain ⟨ca5, fa5, za5⟩ := (Blk.mk ca4 fa4 za4).call k
  obtain ⟨cb5, fb5, zb5⟩ := (Blk.mk cb4 fb4 zb4).call k
  obtain ⟨cp5, fp5, zp5⟩ := (Blk.mk cp4 fp4 zp4).call k
  clear k ca4 fa4 cb4 fb4 cp4 fp4 B4
  clear ca5 fa5 cb5 fb5 cp5 fp5
  generalize detM a b p = m at *
  generalize befB p a = x at *
  generalize befB p b = y at *
  generalize befB a p = u at *
  generalize befB b p = v at *
  cases x <;> cases y <;> cases u <;> cases v <;> simp at h2 h3
  all_goals (go_wp2; go_ret; exact ⟨rfl, B5⟩)

end Go.Proofs.Ytnkcbephceollaa
