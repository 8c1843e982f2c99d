import Derived.Test.YtkhejfnhpdbhjaaGreatR8
import Derived.Test.YtkhejfnhpdbhjaaGreatG3
import Derived.Deep.QuietTactic
import Derived.BigQuiet
namespace Go.Proofs.YtkhejfnhpdbhjaaGreat
open Go.RowKit
set_option linter.unusedSimpArgs false
set_option linter.unusedVariables false

/-- A little more room than a good point's numbers have. -/
structure Gw (p : Pt) : Prop where
  x : In p.x 2200000
  y : In p.y 2200000
  d : In p.d 32768
theorem Gd.gw {p : Pt} (h : Gd p) : Gw p := ⟨h.x.mono (by decide), h.y.mono (by decide), h.d⟩
theorem gd_of_good {p : Pt} (h : goodB p = true) : Gd p ∧ 0 < p.d := by
  have := of_decide_eq_true h
  exact ⟨⟨⟨by omega, by omega⟩, ⟨by omega, by omega⟩, ⟨by omega, by omega⟩⟩, by omega⟩

set_option maxHeartbeats 400000 in
theorem rdet_of (a b c : Pt) (w : World) (H : Hid (wrap64 (wrap64 (wrap64 (a.x * wrap64 (wrap64 (b.y * c.d) - wrap64 (c.y * b.d))) - wrap64 (a.y * wrap64 (wrap64 (b.x * c.d) - wrap64 (c.x * b.d)))) + wrap64 (a.d * wrap64 (wrap64 (b.x * c.y) - wrap64 (c.x * b.y)))) = detM a b c)) :
    Calls Tryz.prog 70 #[a.v, b.v, c.v] w fun e w' => e = .returned (.int .i64 (detM a b c)) ∧ Below w.heap.size w w' := by
  go_enter Tryz.func70, Tryz.ntmps70
  go_wp2
  go_ret
  exact ⟨ret_int H.out, (((Below.refl _ _).alloc (Nat.le_refl _) _).alloc (by simp) _).alloc (by simp; omega) _⟩
theorem rdet_w (a b c : Pt) (w : World) (ha : Gw a) (hb : Gw b) (hc : Gw c) :
    Calls Tryz.prog 70 #[a.v, b.v, c.v] w fun e w' => e = .returned (.int .i64 (detM a b c)) ∧ Below w.heap.size w w' := by
  refine rdet_of a b c w ?_
  refine hide ?_
  unfold detM
  rw [wrap_in (hb.y.mul hc.d) (by decide), wrap_in (hc.y.mul hb.d) (by decide), wrap_in (hb.x.mul hc.d) (by decide), wrap_in (hc.x.mul hb.d) (by decide), wrap_in (hb.x.mul hc.y) (by decide), wrap_in (hc.x.mul hb.y) (by decide),
    wrap_in ((hb.y.mul hc.d).sub (hc.y.mul hb.d)) (by decide), wrap_in ((hb.x.mul hc.d).sub (hc.x.mul hb.d)) (by decide), wrap_in ((hb.x.mul hc.y).sub (hc.x.mul hb.y)) (by decide),
    wrap_in (ha.x.mul ((hb.y.mul hc.d).sub (hc.y.mul hb.d))) (by decide), wrap_in (ha.y.mul ((hb.x.mul hc.d).sub (hc.x.mul hb.d))) (by decide), wrap_in (ha.d.mul ((hb.x.mul hc.y).sub (hc.x.mul hb.y))) (by decide),
    wrap_in ((ha.x.mul ((hb.y.mul hc.d).sub (hc.y.mul hb.d))).sub (ha.y.mul ((hb.x.mul hc.d).sub (hc.x.mul hb.d)))) (by decide),
    wrap_in (((ha.x.mul ((hb.y.mul hc.d).sub (hc.y.mul hb.d))).sub (ha.y.mul ((hb.x.mul hc.d).sub (hc.x.mul hb.d)))).add (ha.d.mul ((hb.x.mul hc.y).sub (hc.x.mul hb.y)))) (by decide)]

set_option maxHeartbeats 400000 in
theorem rapart_any (m n : Int) (w : World) :
    Calls Tryz.prog 101 #[.int .i64 m, .int .i64 n] w fun e w' => e = .returned (.bool (apartB m n)) ∧ w' = w := by
  unfold apartB
  rcases Int.lt_trichotomy m 0 with h | h | h
  all_goals rcases Int.lt_trichotomy n 0 with k | k | k
  all_goals
    go_enter Tryz.func101, Tryz.ntmps101
    go_wp2
    go_ret
    exact ⟨ret_bool (by simp <;> omega), rfl⟩

set_option maxHeartbeats 1000000 in
theorem ron_any (p a b : Pt) (w : World) (hp : Gd p) (ha : Gd a) (hb : Gd b) :
    Calls Tryz.prog 82 #[p.v, sg a b] w fun e w' => e = .returned (.bool (onB p a b)) ∧ Below w.heap.size w w' := by
  go_enter Tryz.func82, Tryz.ntmps82
  go_wp2_with fail
  refine (rdet_any a b p _ ha hb hp).mono ?_
  rintro e w1 ⟨rfl, k⟩
  have B1 := bvia (((Below.refl _ _).alloc (Nat.le_refl _) _).alloc (by simp) _) k
  obtain ⟨cp1, fp1, zp1⟩ := ((Blk.new w _ _).alloc _).call k
  obtain ⟨ce1, fe1, ze1⟩ := (Blk.at (w.heap.size + 1) (by simp)).call k
  clear k
  go_wp2_with fail
  refine (rwithin_any p a b _ hp ha hb).mono ?_
  rintro e w2 ⟨rfl, k⟩
  have B2 := bvia B1 k
  clear k cp1 fp1 ce1 fe1 B1
  have hd : onB p a b = (decide (detM a b p = 0) && withB p a b) := rfl
  have HD := hide hd
  clear hd
  generalize withB p a b = wi at *
  by_cases h : detM a b p = 0
  · go_wp2
    all_goals
      go_ret
      exact ⟨ret_bool (by rw [HD.out]; simp [h]), B2⟩
  · go_wp2
    all_goals
      go_ret
      exact ⟨ret_bool (by rw [HD.out]; simp [h]), B2⟩
end Go.Proofs.YtkhejfnhpdbhjaaGreat
