import Derived.Test.YtnkcbephceollaaQ43
import Derived.Test.YtnkcbephceollaaQ34
import Derived.Test.YtnkcbephceollaaQ44
namespace Go.Proofs.Ytnkcbephceollaa
open Go.RowKit
set_option linter.unusedSimpArgs false
set_option linter.unusedVariables false


def spotM (x y : Int) : Pt := ⟨coordM x, coordM y, 1⟩
theorem spotM_gr (x y : Int) : Gr (spotM x y) := ⟨coordM_in x, coordM_in y, rfl⟩

set_option maxHeartbeats 400000 in
theorem spot_any (x y : Int) (w : World) (h1 : -9223372036854775808 ≤ x) (h2 : x ≤ 9223372036854775807) (h3 : -9223372036854775808 ≤ y) (h4 : y ≤ 9223372036854775807) :
    Calls Try.prog 10 #[.int .i64 x, .int .i64 y] w fun e w' => e = .returned (spotM x y).v ∧ Below w.heap.size w w' := by
  go_enter Try.func10, Try.ntmps10
  go_wp2_with fail
  refine (coordinate_any x _ h1 h2).mono ?_
  rintro e w' ⟨rfl, rfl⟩
  go_wp2_with fail
  refine (coordinate_any y _ h3 h4).mono ?_
  rintro e w' ⟨rfl, rfl⟩
  go_wp2_with fail
  refine (at_any _ _ _).mono ?_
  rintro e w1 ⟨rfl, hb⟩
  have hz : w.heap.size < w1.heap.size := by have := hb.size; simp at this; omega
  obtain ⟨hc, hf⟩ := bcell hb
  go_wp2
  exact bodyPost_ret (v := (spotM x y).v) (by simp [results, Try.results10, go_sem, hc, hz, spotM]) rfl ⟨rfl, (((bvia ((Below.refl _ _).alloc (Nat.le_refl _) _) hb).setCell (by simp) _).setCell (by simp) _).setCell (by simp) _⟩

set_option maxHeartbeats 400000 in
theorem det_any (a b c : Pt) (w : World) (ha : Gd a) (hb : Gd b) (hc : Gd c) :
    Calls Try.prog 43 #[a.v, b.v, c.v] w fun e w' => e = .returned (.int .i64 (detM a b c)) ∧ Below w.heap.size w w' := by
  have e : wrap64 (wrap64 (wrap64 (a.x * wrap64 (wrap64 (b.y * c.d) - wrap64 (c.y * b.d))) - wrap64 (a.y * wrap64 (wrap64 (b.x * c.d) - wrap64 (c.x * b.d)))) + wrap64 (a.d * wrap64 (wrap64 (b.x * c.y) - wrap64 (c.x * b.y)))) = detM a b c := by
    unfold detM
    rw [wrap_in (hb.y.mul hc.d) (by decide), wrap_in (hc.y.mul hb.d) (by decide), wrap_in (hb.x.mul hc.d) (by decide), wrap_in (hc.x.mul hb.d) (by decide), wrap_in (hb.x.mul hc.y) (by decide), wrap_in (hc.x.mul hb.y) (by decide),
      wrap_in ((hb.y.mul hc.d).sub (hc.y.mul hb.d)) (by decide), wrap_in ((hb.x.mul hc.d).sub (hc.x.mul hb.d)) (by decide), wrap_in ((hb.x.mul hc.y).sub (hc.x.mul hb.y)) (by decide),
      wrap_in (ha.x.mul ((hb.y.mul hc.d).sub (hc.y.mul hb.d))) (by decide), wrap_in (ha.y.mul ((hb.x.mul hc.d).sub (hc.x.mul hb.d))) (by decide), wrap_in (ha.d.mul ((hb.x.mul hc.y).sub (hc.x.mul hb.y))) (by decide),
      wrap_in ((ha.x.mul ((hb.y.mul hc.d).sub (hc.y.mul hb.d))).sub (ha.y.mul ((hb.x.mul hc.d).sub (hc.x.mul hb.d)))) (by decide),
      wrap_in (((ha.x.mul ((hb.y.mul hc.d).sub (hc.y.mul hb.d))).sub (ha.y.mul ((hb.x.mul hc.d).sub (hc.x.mul hb.d)))).add (ha.d.mul ((hb.x.mul hc.y).sub (hc.x.mul hb.y)))) (by decide)]
  have E := e
  clear e ha hb hc
  have H : Hid (wrap64 (wrap64 (wrap64 (a.x * wrap64 (wrap64 (b.y * c.d) - wrap64 (c.y * b.d))) - wrap64 (a.y * wrap64 (wrap64 (b.x * c.d) - wrap64 (c.x * b.d)))) + wrap64 (a.d * wrap64 (wrap64 (b.x * c.y) - wrap64 (c.x * b.y)))) = detM a b c) := E
  clear E
  go_enter Try.func43, Try.ntmps43
  go_wp2
  go_ret
  exact ⟨ret_int H.out, (((Below.refl _ _).alloc (Nat.le_refl _) _).alloc (by simp) _).alloc (by simp; omega) _⟩

set_option maxHeartbeats 400000 in
theorem before_any (p q : Pt) (w : World) (hp : Gd p) (hq : Gd q) :
    Calls Try.prog 13 #[p.v, q.v] w fun e w' => e = .returned (.bool (befB p q)) ∧ Below w.heap.size w w' := by
  obtain ⟨l1, u1⟩ := hp.x.mul hq.d
  obtain ⟨l2, u2⟩ := hq.x.mul hp.d
  obtain ⟨l3, u3⟩ := hp.y.mul hq.d
  obtain ⟨l4, u4⟩ := hq.y.mul hp.d
  clear hp hq
  by_cases h : (p.x * q.d != q.x * p.d) = true
  · go_enter Try.func13, Try.ntmps13
    go_wp2
    go_ret
    exact ⟨ret_bool (by unfold befB; rw [if_pos (by simpa using h)]), ((Below.refl _ _).alloc (Nat.le_refl _) _).alloc (by simp) _⟩
  · have h' : (p.x * q.d != q.x * p.d) = false := by simpa using h
    clear h
    go_enter Try.func13, Try.ntmps13
    go_wp2
    go_ret
    exact ⟨ret_bool (by unfold befB; rw [if_neg (by simpa using h')]), ((Below.refl _ _).alloc (Nat.le_refl _) _).alloc (by simp) _⟩

end Go.Proofs.Ytnkcbephceollaa
namespace Go.Proofs.Ytnkcbephceollaa
open Go.RowKit
set_option linter.unusedSimpArgs false
set_option linter.unusedVariables false

set_option maxHeartbeats 1000000 in
theorem follows_any (x y : Pc) (w : World) (h1 : Gd x.p) (h2 : Gd x.q) (h3 : Gd y.p) (h4 : Gd y.q) :
    Calls Try.prog 33 #[x.v, y.v] w fun e w' => e = .returned (.bool (aheadB (x.p, x.q) (y.p, y.q))) ∧ Below w.heap.size w w' := by
  have heq := eql_pt
  cases h : eqP x.p y.p
  · have H : Hid (aheadB (x.p, x.q) (y.p, y.q) = befB x.p y.p) := by unfold aheadB; rw [h]; exact hide rfl
    have h' : eqP ⟨x.p.x, x.p.y, x.p.d⟩ ⟨y.p.x, y.p.y, y.p.d⟩ = false := h
    go_enter Try.func33, Try.ntmps33
    go_wp2_with fail
    refine (before_any x.p y.p _ h1 h3).mono ?_
    rintro e w1 ⟨rfl, k⟩
    have B1 := bvia (below2 _ _ _) k
    clear k
    go_wp2
    go_ret
    exact ⟨ret_bool H.out.symm, B1⟩
  · have H : Hid (aheadB (x.p, x.q) (y.p, y.q) = befB x.q y.q) := by unfold aheadB; rw [h]; exact hide rfl
    have h' : eqP ⟨x.p.x, x.p.y, x.p.d⟩ ⟨y.p.x, y.p.y, y.p.d⟩ = true := h
    go_enter Try.func33, Try.ntmps33
    go_wp2_with fail
    refine (before_any x.q y.q _ h2 h4).mono ?_
    rintro e w1 ⟨rfl, k⟩
    have B1 := bvia (below2 _ _ _) k
    clear k
    go_wp2
    go_ret
    exact ⟨ret_bool H.out.symm, B1⟩

set_option maxHeartbeats 1000000 in
theorem middleK_any (x : Pc) (w : World) (hp : Gd x.p) (hq : Gd x.q) :
    Calls Try.prog 34 #[x.v] w fun e w' => e = .returned (.tuple #[(midP x.p x.q).v, .bool (decide (2 * x.p.d * x.q.d ≤ 32768))]) ∧ Below w.heap.size w w' := by
  obtain ⟨l1, u1⟩ := hp.x.mul hq.d
  obtain ⟨l2, u2⟩ := hq.x.mul hp.d
  obtain ⟨l3, u3⟩ := hp.y.mul hq.d
  obtain ⟨l4, u4⟩ := hq.y.mul hp.d
  obtain ⟨l5, u5⟩ := (In.mk (a := 2) (A := 2) (by decide) (by decide)).mul hp.d
  obtain ⟨l6, u6⟩ := ((In.mk (a := 2) (A := 2) (by decide) (by decide)).mul hp.d).mul hq.d
  clear hp hq
  go_enter Try.func34, Try.ntmps34
  go_wp2
  go_region
  all_goals
    go_wp2
    exact bodyPost_ret (v := .tuple #[(midP x.p x.q).v, .bool (decide (2 * x.p.d * x.q.d ≤ 32768))]) (by simp [results, Try.results34, go_sem, midP]) rfl ⟨rfl, by first | exact (below3 _ _ _ _).drew | exact below3 _ _ _ _⟩

set_option maxHeartbeats 1000000 in
theorem beside_any (n : Int) (l r : Bool) (w : World) :
    Calls Try.prog 35 #[.int .i64 n, .bool l, .bool r] w fun e w' => e = .returned (.bool (besideB n l r)) ∧ w' = w := by
  by_cases h2 : n = 2
  · subst h2
    cases l <;> cases r <;>
      (go_enter Try.func35, Try.ntmps35
       go_wp2
       go_ret
       exact ⟨rfl, rfl⟩)
  by_cases h1 : n = 1
  · subst h1
    cases l <;> cases r <;>
      (go_enter Try.func35, Try.ntmps35
       go_wp2
       go_ret
       exact ⟨rfl, rfl⟩)
  by_cases h0 : n = 0
  · subst h0
    cases l <;> cases r <;>
      (go_enter Try.func35, Try.ntmps35
       go_wp2
       go_ret
       exact ⟨rfl, rfl⟩)
  · have H : Hid (besideB n l r = false) := by unfold besideB; rw [if_neg h2, if_neg h1, decide_eq_false h0]; exact hide rfl
    have h0' : (n == 0) = false := by simpa using h0
    go_enter Try.func35, Try.ntmps35
    go_wp2
    go_ret
    exact ⟨ret_bool H.out.symm, rfl⟩

theorem mid_good {p q : Pt} (hp : goodB p = true) (hq : goodB q = true) (h : 2 * p.d * q.d ≤ 32768) : goodB (midP p q) = true := by
  have a := of_decide_eq_true hp
  have b := of_decide_eq_true hq
  obtain ⟨a1, a2, a3, a4, a5, a6⟩ := a
  obtain ⟨b1, b2, b3, b4, b5, b6⟩ := b
  have m : ∀ {x y z : Int}, 0 ≤ z → x ≤ y → x * z ≤ y * z := fun hz h => Int.mul_le_mul_of_nonneg_right h hz
  have pd : (0 : Int) ≤ p.d := by omega
  have qd : (0 : Int) ≤ q.d := by omega
  have c1 := m qd a3
  have c2 := m qd a4
  have c3 := m qd a5
  have c4 := m qd a6
  have e1 := m pd b3
  have e2 := m pd b4
  have e3 := m pd b5
  have e4 := m pd b6
  have k1 : -(64 * p.d) * q.d = -(64 * (p.d * q.d)) := by grind
  have k2 : 64 * p.d * q.d = 64 * (p.d * q.d) := by grind
  have k3 : -(64 * q.d) * p.d = -(64 * (p.d * q.d)) := by grind
  have k4 : 64 * q.d * p.d = 64 * (p.d * q.d) := by grind
  have k5 : 2 * p.d * q.d = 2 * (p.d * q.d) := by grind
  rw [k1] at c1 c3
  rw [k2] at c2 c4
  rw [k3] at e1 e3
  rw [k4] at e2 e4
  have pos : 1 ≤ p.d * q.d := by
    have := m (z := q.d) (by omega) a1
    omega
  unfold goodB midP
  refine decide_eq_true ?_
  simp only
  rw [k5] at h ⊢
  generalize p.d * q.d = D at *
  generalize p.x * q.d = X1 at *
  generalize q.x * p.d = X2 at *
  generalize p.y * q.d = Y1 at *
  generalize q.y * p.d = Y2 at *
  omega
theorem more_few : ∀ (P : List (List Pt)) (room : Int), ((edgesM P).length : Int) ≤ room → moreM room P = false
  | [], _, _ => rfl
  | r :: P, room, h => by
    have e : (edgesM (r :: P)).length = r.length + (edgesM P).length := by simp [edgesM, ringEdges_len]
    rw [e] at h
    unfold moreM
    rw [if_neg (by omega)]
    exact more_few P _ (by omega)
theorem good_gr {v : Pt} (hv : Gr v) : goodB v = true := by
  have h1 := hv.x; have h2 := hv.y; have h3 := hv.d
  unfold In at h1 h2
  unfold goodB; rw [h3]; exact decide_eq_true (by omega)
theorem loc_mid {A : List (List Pt)} {m : Pt} (h : (checkM A).1 = 0) (hm : goodB m = true) : locM A m = (whereM m 0 (edgesM A), 0) := by
  have hS := sound_of h
  have hf := check_few h
  have hall : (edgesM A).all (fun e => goodB e.1) = true := List.all_eq_true.2 fun e he => good_gr (hS.gr _ (edge_ends he).1)
  unfold locM
  rw [more_few A 2000 (by omega), hm, hall]; rfl
end Go.Proofs.Ytnkcbephceollaa
