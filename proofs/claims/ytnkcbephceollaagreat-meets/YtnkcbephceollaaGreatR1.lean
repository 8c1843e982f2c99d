import Derived.Test.YtnkcbephceollaaGreatQ3
import Derived.Test.YtnkcbephceollaaGreatM5
namespace Go.Proofs.YtnkcbephceollaaGreat
open Go.RowKit
set_option linter.unusedSimpArgs false
set_option linter.unusedVariables false

set_option maxHeartbeats 400000 in
theorem rdet_any (a b c : Pt) (w : World) (ha : Gd a) (hb : Gd b) (hc : Gd c) :
    Calls Tryz.prog 73 #[a.v, b.v, c.v] w fun e w' => e = .returned (.int .i64 (detM a b c)) ∧ Below w.heap.size w w' := by
  have e : wrap64 (wrap64 (wrap64 (a.x * wrap64 (wrap64 (b.y * c.d) - wrap64 (c.y * b.d))) - wrap64 (a.y * wrap64 (wrap64 (b.x * c.d) - wrap64 (c.x * b.d)))) + wrap64 (a.d * wrap64 (wrap64 (b.x * c.y) - wrap64 (c.x * b.y)))) = detM a b c := by
    unfold detM
    rw [wrap_in (hb.y.mul hc.d) (by decide), wrap_in (hc.y.mul hb.d) (by decide), wrap_in (hb.x.mul hc.d) (by decide), wrap_in (hc.x.mul hb.d) (by decide), wrap_in (hb.x.mul hc.y) (by decide), wrap_in (hc.x.mul hb.y) (by decide),
      wrap_in ((hb.y.mul hc.d).sub (hc.y.mul hb.d)) (by decide), wrap_in ((hb.x.mul hc.d).sub (hc.x.mul hb.d)) (by decide), wrap_in ((hb.x.mul hc.y).sub (hc.x.mul hb.y)) (by decide),
      wrap_in (ha.x.mul ((hb.y.mul hc.d).sub (hc.y.mul hb.d))) (by decide), wrap_in (ha.y.mul ((hb.x.mul hc.d).sub (hc.x.mul hb.d))) (by decide), wrap_in (ha.d.mul ((hb.x.mul hc.y).sub (hc.x.mul hb.y))) (by decide),
      wrap_in ((ha.x.mul ((hb.y.mul hc.d).sub (hc.y.mul hb.d))).sub (ha.y.mul ((hb.x.mul hc.d).sub (hc.x.mul hb.d)))) (by decide),
      wrap_in (((ha.x.mul ((hb.y.mul hc.d).sub (hc.y.mul hb.d))).sub (ha.y.mul ((hb.x.mul hc.d).sub (hc.x.mul hb.d)))).add (ha.d.mul ((hb.x.mul hc.y).sub (hc.x.mul hb.y)))) (by decide)]
  have E := e
  clear e ha hb hc
  have H : Hid (wrap64 (wrap64 (wrap64 (a.x * wrap64 (wrap64 (b.y * c.d) - wrap64 (c.y * b.d))) - wrap64 (a.y * wrap64 (wrap64 (b.x * c.d) - wrap64 (c.x * b.d)))) + wrap64 (a.d * wrap64 (wrap64 (b.x * c.y) - wrap64 (c.x * b.y)))) = detM a b c) := E
  clear E
  go_enter Tryz.func73, Tryz.ntmps73
  go_wp2
  go_ret
  exact ⟨ret_int H.out, (((Below.refl _ _).alloc (Nat.le_refl _) _).alloc (by simp) _).alloc (by simp; omega) _⟩


set_option maxHeartbeats 400000 in
theorem rbefore_any (p q : Pt) (w : World) (hp : Gd p) (hq : Gd q) :
    Calls Tryz.prog 75 #[p.v, q.v] w fun e w' => e = .returned (.bool (befB p q)) ∧ Below w.heap.size w w' := by
  obtain ⟨l1, u1⟩ := hp.x.mul hq.d
  obtain ⟨l2, u2⟩ := hq.x.mul hp.d
  obtain ⟨l3, u3⟩ := hp.y.mul hq.d
  obtain ⟨l4, u4⟩ := hq.y.mul hp.d
  clear hp hq
  by_cases h : (p.x * q.d != q.x * p.d) = true
  · go_enter Tryz.func75, Tryz.ntmps75
    go_wp2
    go_ret
    exact ⟨ret_bool (by unfold befB; rw [if_pos (by simpa using h)]), ((Below.refl _ _).alloc (Nat.le_refl _) _).alloc (by simp) _⟩
  · have h' : (p.x * q.d != q.x * p.d) = false := by simpa using h
    clear h
    go_enter Tryz.func75, Tryz.ntmps75
    go_wp2
    go_ret
    exact ⟨ret_bool (by unfold befB; rw [if_neg (by simpa using h')]), ((Below.refl _ _).alloc (Nat.le_refl _) _).alloc (by simp) _⟩


set_option maxHeartbeats 1000000 in
theorem rgood_any (p : Pt) (w : World) :
    Calls Tryz.prog 49 #[p.v] w fun e w' => e = .returned (.bool (goodB p)) ∧ Below w.heap.size w w' := by
  by_cases h1 : p.d < 1
  · go_enter Tryz.func49, Tryz.ntmps49
    go_wp2
    all_goals
      go_ret
      refine ⟨ret_bool ?_, (Below.refl _ _).alloc (Nat.le_refl _) _⟩
      simp_all [goodB]
      try omega
  by_cases h2 : 32768 < p.d
  · go_enter Tryz.func49, Tryz.ntmps49
    go_wp2
    all_goals
      go_ret
      refine ⟨ret_bool ?_, (Below.refl _ _).alloc (Nat.le_refl _) _⟩
      simp_all [goodB]
      try omega
  go_enter Tryz.func49, Tryz.ntmps49
  go_wp2
  all_goals
    go_ret
    refine ⟨ret_bool ?_, (Below.refl _ _).alloc (Nat.le_refl _) _⟩
    first | (simp_all [goodB]; done) | (simp_all [goodB]; omega)

theorem grid_good (p : Pt) : (goodB p && p.d == 1) = gridB p := by
  unfold goodB gridB
  by_cases h : p.d = 1
  · rw [h]; simp
  · simp [h]

set_option maxHeartbeats 1000000 in
theorem rgrid_any (p : Pt) (w : World) :
    Calls Tryz.prog 40 #[p.v] w fun e w' => e = .returned (.bool (gridB p)) ∧ Below w.heap.size w w' := by
  have H := grid_good p
  have HH : Hid ((goodB p && p.d == 1) = gridB p) := H
  clear H
  go_enter Tryz.func40, Tryz.ntmps40
  go_wp2_with fail
  refine (rgood_any p _).mono ?_
  rintro e w1 ⟨rfl, k⟩
  have B1 := bvia ((Below.refl _ _).alloc (Nat.le_refl _) _) k
  obtain ⟨cp1, fp1, zp1⟩ := (Blk.new w _ _).call k
  clear k
  cases hg : goodB p
  · rw [hg] at HH
    go_wp2
    go_ret
    exact ⟨ret_bool HH.out, B1⟩
  · rw [hg] at HH
    go_wp2
    go_ret
    exact ⟨ret_bool HH.out, B1⟩

set_option maxHeartbeats 1000000 in
theorem rplace_any (p q : Pt) (w : World) (hp : Gd p) (hq : Gd q) :
    Calls Tryz.prog 76 #[p.v, q.v] w fun e w' => e = .returned (.bool (placeB p q)) ∧ Below w.heap.size w w' := by
  go_enter Tryz.func76, Tryz.ntmps76
  go_wp2_with fail
  refine (rbefore_any p q _ hp hq).mono ?_
  rintro e w1 ⟨rfl, k⟩
  have B1 := bvia (((Below.refl _ _).alloc (Nat.le_refl _) _).alloc (by simp) _) k
  obtain ⟨cp1, fp1, zp1⟩ := ((Blk.new w _ _).alloc _).call k
  obtain ⟨cq1, fq1, zq1⟩ := (Blk.at (w.heap.size + 1) (by simp)).call k
  clear k
  go_wp2_with fail
  refine (rbefore_any q p _ hq hp).mono ?_
  rintro e w2 ⟨rfl, k⟩
  have B2 := bvia B1 k
  obtain ⟨cp2, fp2, zp2⟩ := (Blk.mk cp1 fp1 zp1).call k
  obtain ⟨cq2, fq2, zq2⟩ := (Blk.mk cq1 fq1 zq1).call k
  clear k cp1 fp1 cq1 fq1 B1
  cases h1 : befB p q <;> cases h2 : befB q p
  all_goals (go_wp2; go_ret; exact ⟨ret_bool (by simp [placeB, h1, h2]), B2⟩)

end Go.Proofs.YtnkcbephceollaaGreat
