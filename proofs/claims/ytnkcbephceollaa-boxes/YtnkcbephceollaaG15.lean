import Derived.Test.YtnkcbephceollaaG14
namespace Go.Proofs.Ytnkcbephceollaa
set_option linter.unusedVariables false
set_option linter.unusedSimpArgs false
set_option linter.unusedSectionVars false

/-- A shear that turns the order of these places into that of their heights. -/
theorem shear (L : List Pt) : ∃ K : Int, ∀ u ∈ L, ∀ v ∈ L, befB u v = decide (0 < yv (shP K u) (shP K v)) := by
  obtain ⟨K, _, h⟩ := bounded (fun uv : Pt × Pt => yv uv.1 uv.2) (L.flatMap (fun u => L.map (fun v => (u, v))))
  refine ⟨K, fun u hu v hv => ?_⟩
  have b := h (u, v) (List.mem_flatMap.2 ⟨u, hu, List.mem_map.2 ⟨v, hv, rfl⟩⟩)
  rw [← sh_up (K := K) b.1 b.2]
  unfold upB; simp
theorem bef_h {K : Int} {u v : Pt} (h : befB u v = decide (0 < yv (shP K u) (shP K v))) : (befB u v = true ↔ 0 < yv (shP K u) (shP K v)) ∧ (befB u v = false ↔ yv (shP K u) (shP K v) ≤ 0) := by
  rw [h]; simp
theorem yv_neg (u v : Pt) : yv u v = -yv v u := by unfold yv; grind
/-- p, q, X on one line: what a measure says at X. -/
theorem line_lin (p q X a b : Pt) (h : detM p q X = 0) : yv p q * detM a b X = yv X q * detM a b p + yv p X * detM a b q := by
  have : yv p q * detM a b X - (yv X q * detM a b p + yv p X * detM a b q) = detM p q X * yv a b := by unfold yv detM; grind
  rw [h] at this; simp at this; omega
theorem line_sum (p q X : Pt) : X.d * yv p q = q.d * yv p X + p.d * yv X q := by unfold yv; grind
section
variable {p q a b v : Pt} (hp : 0 < p.d) (hq : 0 < q.d) (ha : 0 < a.d) (hb : 0 < b.d) (hv : 0 < v.d)
include hp hq ha hb hv
theorem with_between (h1 : withB p a b = true) (h2 : withB q a b = true) (b1 : befB p v = true) (b2 : befB v q = true) : withB v a b = true := by
  unfold withB loM hiM at *
  by_cases c : befB b a = true
  · simp only [if_pos c, Bool.and_eq_true, Bool.not_eq_true'] at *
    refine ⟨?_, ?_⟩
    · cases k : befB v b
      · rfl
      · have := bef_lt hv hb hp k (q := p) b1; rw [h1.1] at this; cases this
    · cases k : befB a v
      · rfl
      · have := bef_lt hv hq ha b2 (q := a) k; rw [h2.2] at this; cases this
  · simp only [if_neg c, Bool.and_eq_true, Bool.not_eq_true'] at *
    refine ⟨?_, ?_⟩
    · cases k : befB v a
      · rfl
      · have := bef_lt hv ha hp k (q := p) b1; rw [h1.1] at this; cases this
    · cases k : befB b v
      · rfl
      · have := bef_lt hv hq hb b2 (q := b) k; rw [h2.2] at this; cases this
end
theorem on_parts {s a b : Pt} (h : onB s a b = true) : detM a b s = 0 ∧ withB s a b = true := by
  unfold onB at h; simpa using h
/-- Between two places on an edge, on their line: on the edge. -/
theorem on_between {p q a b v : Pt} (hp : 0 < p.d) (hq : 0 < q.d) (ha : 0 < a.d) (hb : 0 < b.d) (hv : 0 < v.d) (hne : befB a b = true ∨ befB b a = true)
    (h1 : onB p a b = true) (h2 : onB q a b = true) (b1 : befB p v = true) (b2 : befB v q = true) (hl : detM p q v = 0) : onB v a b = true := by
  obtain ⟨z1, w1⟩ := on_parts h1
  obtain ⟨z2, w2⟩ := on_parts h2
  obtain ⟨K, hK⟩ := shear [p, q, a, b, v]
  have hpq : befB p q = true := bef_lt hv hq hp b2 b1
  have Y := (bef_h (hK p (by simp) q (by simp))).1.1 hpq
  have hd : yv (shP K a) (shP K b) ≠ 0 := by
    have e := yv_neg (shP K a) (shP K b)
    rcases hne with h | h
    · have := (bef_h (hK a (by simp) b (by simp))).1.1 h; omega
    · have := (bef_h (hK b (by simp) a (by simp))).1.1 h; omega
  obtain ⟨A0, B0⟩ := col_of hp (by omega) hd z1 z2
  have pl := plk2 (p := shP K p) (q := shP K q) (a := shP K a) (b := shP K b) (shP K v) (by rw [sh_det]; exact A0) (by rw [sh_det]; exact B0)
  rw [sh_det, sh_det, hl, Int.mul_zero] at pl
  have z : detM a b v = 0 := by
    rcases Int.mul_eq_zero.1 pl with c | c
    · omega
    · exact c
  unfold onB
  rw [z, with_between hp hq ha hb hv w1 w2 b1 b2]; rfl
theorem holds_det {a b X : Pt} (h : holdsB a b X = true) : detM a b X = 0 := ((holds_iff a b X).1 h).1

/-- An edge that crosses the piece meets the edge that bears it within the piece. -/
theorem cross_spot {p q a b c d : Pt} (hp : 0 < p.d) (hq : 0 < q.d) (ha : Gr a) (hb : Gr b) (hc : Gr c) (hd : Gr d) (hab : a ≠ b) (hcd : c ≠ d) (hpq : befB p q = true)
    (h1 : onB p a b = true) (h2 : onB q a b = true) (hx : crossB p q c d = true) :
    ∃ X, inMt (meetM a b c d) X ∧ 0 < X.d ∧ befB p X = true ∧ befB X q = true ∧ detM p q X = 0 := by
  have da : 0 < a.d := by have := ha.d; omega
  have db : 0 < b.d := by have := hb.d; omega
  obtain ⟨z1, w1⟩ := on_parts h1
  obtain ⟨z2, w2⟩ := on_parts h2
  have tri : ∀ u v : Pt, u.d = 1 → v.d = 1 → u ≠ v → befB u v = true ∨ befB v u = true := fun u v hu hv hne => by
    rcases L_tri hu hv with t | t | t
    · exact .inl ((bef_L hu hv).2 t)
    · exact absurd t hne
    · exact .inr ((bef_L hv hu).2 t)
  have nab := tri a b ha.d hb.d hab
  unfold crossB apartB at hx
  simp only [Bool.and_eq_true, Bool.or_eq_true, decide_eq_true_eq] at hx
  obtain ⟨hx1, hx2⟩ := hx
  rcases meet_cases ha hb hc hd hab hcd with ⟨e, hs⟩ | ⟨X, e, _, xd, m1, m2, _⟩ | ⟨X, Y', e, gX, gY, m1, m2, m3, m4, bXY, _⟩
  · -- they are not apart
    exfalso
    obtain ⟨K, hK⟩ := shear [p, q, a, b]
    have Y := (bef_h (hK p (by simp) q (by simp))).1.1 hpq
    have hdd : yv (shP K a) (shP K b) ≠ 0 := by
      have e := yv_neg (shP K a) (shP K b)
      rcases nab with h | h
      · have := (bef_h (hK a (by simp) b (by simp))).1.1 h; omega
      · have := (bef_h (hK b (by simp) a (by simp))).1.1 h; omega
    obtain ⟨A0, B0⟩ := col_of hp (by omega) hdd z1 z2
    have pc := plk2 (p := shP K p) (q := shP K q) (a := shP K a) (b := shP K b) (shP K c) (by rw [sh_det]; exact A0) (by rw [sh_det]; exact B0)
    have pd := plk2 (p := shP K p) (q := shP K q) (a := shP K a) (b := shP K b) (shP K d) (by rw [sh_det]; exact A0) (by rw [sh_det]; exact B0)
    rw [sh_det, sh_det] at pc pd
    have lp := line_lin (shP K a) (shP K b) (shP K p) (shP K c) (shP K d) (by rw [sh_det]; exact z1)
    have lq := line_lin (shP K a) (shP K b) (shP K q) (shP K c) (shP K d) (by rw [sh_det]; exact z2)
    simp only [sh_det] at lp lq
    -- heights of p, q against a, b
    have hts : (0 < yv (shP K a) (shP K b) ∧ 0 ≤ yv (shP K a) (shP K p) ∧ 0 ≤ yv (shP K p) (shP K b) ∧ 0 ≤ yv (shP K a) (shP K q) ∧ 0 ≤ yv (shP K q) (shP K b)) ∨ (yv (shP K a) (shP K b) < 0 ∧ yv (shP K a) (shP K p) ≤ 0 ∧ yv (shP K p) (shP K b) ≤ 0 ∧ yv (shP K a) (shP K q) ≤ 0 ∧ yv (shP K q) (shP K b) ≤ 0) := by
      have e1 := yv_neg (shP K a) (shP K b)
      have e2 := yv_neg (shP K a) (shP K p)
      have e3 := yv_neg (shP K a) (shP K q)
      have e4 := yv_neg (shP K p) (shP K b)
      have e5 := yv_neg (shP K q) (shP K b)
      unfold withB loM hiM at w1 w2
      by_cases cc : befB b a = true
      · simp only [if_pos cc, Bool.and_eq_true, Bool.not_eq_true'] at w1 w2
        have k0 := (bef_h (hK b (by simp) a (by simp))).1.1 cc
        have k1 := (bef_h (hK p (by simp) b (by simp))).2.1 w1.1
        have k2 := (bef_h (hK a (by simp) p (by simp))).2.1 w1.2
        have k3 := (bef_h (hK q (by simp) b (by simp))).2.1 w2.1
        have k4 := (bef_h (hK a (by simp) q (by simp))).2.1 w2.2
        exact .inr (by omega)
      · have cc' : befB a b = true := nab.resolve_right cc
        simp only [if_neg cc, Bool.and_eq_true, Bool.not_eq_true'] at w1 w2
        have k0 := (bef_h (hK a (by simp) b (by simp))).1.1 cc'
        have k1 := (bef_h (hK p (by simp) a (by simp))).2.1 w1.1
        have k2 := (bef_h (hK b (by simp) p (by simp))).2.1 w1.2
        have k3 := (bef_h (hK q (by simp) a (by simp))).2.1 w2.1
        have k4 := (bef_h (hK b (by simp) q (by simp))).2.1 w2.2
        have f2 := yv_neg (shP K p) (shP K a)
        have f3 := yv_neg (shP K q) (shP K a)
        have f4 := yv_neg (shP K b) (shP K p)
        have f5 := yv_neg (shP K b) (shP K q)
        exact .inl (by omega)
    generalize yv (shP K a) (shP K b) = D at *
    generalize yv (shP K p) (shP K q) = Yv at *
    generalize yv (shP K a) (shP K p) = ap at *
    generalize yv (shP K p) (shP K b) = pb at *
    generalize yv (shP K a) (shP K q) = aq at *
    generalize yv (shP K q) (shP K b) = qb at *
    generalize detM c d a = u at *
    generalize detM c d b = w at *
    generalize detM c d p = al at *
    generalize detM c d q = be at *
    generalize detM a b c = C at *
    generalize detM a b d = D' at *
    generalize detM p q c = C0 at *
    generalize detM p q d = D0 at *
    -- the ends of the other edge lie on different sides
    have hne0 : (C < 0 ∧ 0 < D') ∨ (0 < C ∧ D' < 0) := by
      have sg : ∀ {x y : Int}, Yv * x = D * y → y ≠ 0 → ((0 < D → (0 < x ↔ 0 < y)) ∧ (0 < D → (x < 0 ↔ y < 0)) ∧ (D < 0 → (0 < x ↔ y < 0)) ∧ (D < 0 → (x < 0 ↔ 0 < y))) := fun {x y} hxy hy => by
        rcases Int.lt_trichotomy x 0 with cx | cx | cx
        · have m1 := mul_pn Y cx
          refine ⟨fun hD => ?_, fun hD => ?_, fun hD => ?_, fun hD => ?_⟩
          all_goals rcases Int.lt_or_gt_of_ne hy with cy | cy
          · omega
          · have := mul_pp hD cy; omega
          · omega
          · have := mul_pp hD cy; omega
          · have := mul_nn hD cy; omega
          · omega
          · have := mul_nn hD cy; omega
          · omega
        · subst cx
          rw [Int.mul_zero] at hxy
          rcases Int.mul_eq_zero.1 hxy.symm with k | k
          · exact absurd k hdd
          · exact absurd k hy
        · have m1 := mul_pp Y cx
          refine ⟨fun hD => ?_, fun hD => ?_, fun hD => ?_, fun hD => ?_⟩
          all_goals rcases Int.lt_or_gt_of_ne hy with cy | cy
          · have := mul_pn hD cy; omega
          · omega
          · have := mul_pn hD cy; omega
          · omega
          · omega
          · have := mul_np hD cy; omega
          · omega
          · have := mul_np hD cy; omega
      have s1 := sg pc (by omega)
      have s2 := sg pd (by omega)
      rcases hts with ⟨hD, _⟩ | ⟨hD, _⟩
      · have := s1.1 hD; have := s1.2.1 hD; have := s2.1 hD; have := s2.2.1 hD; omega
      · have := s1.2.2.1 hD; have := s1.2.2.2 hD; have := s2.2.2.1 hD; have := s2.2.2.2 hD; omega
    -- the ends of the bearing edge do not lie on one side
    have hns : ¬ ((u < 0 ∧ w < 0) ∨ (0 < u ∧ 0 < w)) := by
      intro hh
      rcases hts with ⟨hD, t1, t2, t3, t4⟩ | ⟨hD, t1, t2, t3, t4⟩
      · rcases hh with ⟨c1, c2⟩ | ⟨c1, c2⟩
        · have a1 := mul_gl t2 (Int.le_of_lt c1); have a2 := mul_gl t1 (Int.le_of_lt c2)
          have a3 := mul_gl t4 (Int.le_of_lt c1); have a4 := mul_gl t3 (Int.le_of_lt c2)
          rcases hx2 with ⟨x1, x2⟩ | ⟨x1, x2⟩
          · have := mul_pp hD x2; omega
          · have := mul_pp hD x1; omega
        · have a1 := mul_gg t2 (Int.le_of_lt c1); have a2 := mul_gg t1 (Int.le_of_lt c2)
          have a3 := mul_gg t4 (Int.le_of_lt c1); have a4 := mul_gg t3 (Int.le_of_lt c2)
          rcases hx2 with ⟨x1, x2⟩ | ⟨x1, x2⟩
          · have := mul_pn hD x1; omega
          · have := mul_pn hD x2; omega
      · rcases hh with ⟨c1, c2⟩ | ⟨c1, c2⟩
        · have a1 := mul_ll t2 (Int.le_of_lt c1); have a2 := mul_ll t1 (Int.le_of_lt c2)
          have a3 := mul_ll t4 (Int.le_of_lt c1); have a4 := mul_ll t3 (Int.le_of_lt c2)
          rcases hx2 with ⟨x1, x2⟩ | ⟨x1, x2⟩
          · have := mul_np hD x2; omega
          · have := mul_np hD x1; omega
        · have a1 := mul_lg t2 (Int.le_of_lt c1); have a2 := mul_lg t1 (Int.le_of_lt c2)
          have a3 := mul_lg t4 (Int.le_of_lt c1); have a4 := mul_lg t3 (Int.le_of_lt c2)
          rcases hx2 with ⟨x1, x2⟩ | ⟨x1, x2⟩
          · have := mul_nn hD x1; omega
          · have := mul_nn hD x2; omega
    rw [sides_one, sides_one] at hs
    have s0 : sidesM C D' ≠ 0 := by unfold sidesM; rw [if_neg (by omega)]; split <;> decide
    rcases hs with hs | hs | hs
    · omega
    · exact hns hs
    · exact s0 hs.1
  · -- they touch
    refine ⟨X, .inl ⟨by rw [e]; show (1 : Int) ≠ 0; decide, by rw [e]⟩, xd, ?_⟩
    have y1 := holds_det m1
    have y2 := holds_det m2
    obtain ⟨K, hK⟩ := shear [p, q, a, b, X]
    have Y := (bef_h (hK p (by simp) q (by simp))).1.1 hpq
    have hdd : yv (shP K a) (shP K b) ≠ 0 := by
      have e := yv_neg (shP K a) (shP K b)
      rcases nab with h | h
      · have := (bef_h (hK a (by simp) b (by simp))).1.1 h; omega
      · have := (bef_h (hK b (by simp) a (by simp))).1.1 h; omega
    have px := plk2 (p := shP K a) (q := shP K b) (a := shP K p) (b := shP K q) (shP K X) (by rw [sh_det]; exact z1) (by rw [sh_det]; exact z2)
    rw [sh_det, sh_det, y1, Int.mul_zero] at px
    have hl : detM p q X = 0 := by
      rcases Int.mul_eq_zero.1 px with k | k
      · exact absurd k hdd
      · exact k
    have ll := line_lin (shP K p) (shP K q) (shP K X) (shP K c) (shP K d) (by rw [sh_det]; exact hl)
    simp only [sh_det, y2, Int.mul_zero] at ll
    have ls := line_sum (shP K p) (shP K q) (shP K X)
    have e1 : (shP K p).d = p.d := rfl
    have e2 : (shP K q).d = q.d := rfl
    have e3 : (shP K X).d = X.d := rfl
    rw [e1, e2, e3] at ls
    have lp := mul_pp xd Y
    have k1 := bef_h (hK p (by simp) X (by simp))
    have k2 := bef_h (hK X (by simp) q (by simp))
    rw [k1.1, k2.1]
    generalize yv (shP K p) (shP K X) = s at *
    generalize yv (shP K X) (shP K q) = t at *
    generalize detM c d p = al at *
    generalize detM c d q = be at *
    have both : 0 < s ∧ 0 < t := by
      rcases Int.lt_or_le 0 s with c1 | c1
      · rcases Int.lt_or_le 0 t with c2 | c2
        · exact ⟨c1, c2⟩
        · exfalso
          rcases hx2 with ⟨x1, x2⟩ | ⟨x1, x2⟩
          · have := mul_ll c2 (Int.le_of_lt x1); have := mul_pp c1 x2; omega
          · have := mul_lg c2 (Int.le_of_lt x1); have := mul_pn c1 x2; omega
      · exfalso
        have c2 : 0 < t := by
          rcases Int.lt_or_le 0 t with c2 | c2
          · exact c2
          · have := mul_gl (Int.le_of_lt hq) c1; have := mul_gl (Int.le_of_lt hp) c2; omega
        rcases hx2 with ⟨x1, x2⟩ | ⟨x1, x2⟩
        · have := mul_pn c2 x1; have := mul_lg c1 (Int.le_of_lt x2); omega
        · have := mul_pp c2 x1; have := mul_ll c1 (Int.le_of_lt x2); omega
    exact ⟨both.1, both.2, hl⟩
  · -- they do not lie along each other
    exfalso
    have y1 := holds_det m1
    have y2 := holds_det m2
    have y3 := holds_det m3
    have y4 := holds_det m4
    have ncd := tri c d hc.d hd.d hcd
    have key : ∀ u v : Pt, befB u v = true ↔ (0 < xv u v ∨ (xv u v = 0 ∧ 0 < yv u v)) := fun u v => by rw [bef_iff]; unfold xv yv; omega
    obtain ⟨K, hK⟩ := shear [p, q, a, b, X, Y', c, d]
    have Y := (bef_h (hK p (by simp) q (by simp))).1.1 hpq
    have hdd : yv (shP K a) (shP K b) ≠ 0 := by
      have e := yv_neg (shP K a) (shP K b)
      rcases nab with h | h
      · have := (bef_h (hK a (by simp) b (by simp))).1.1 h; omega
      · have := (bef_h (hK b (by simp) a (by simp))).1.1 h; omega
    have XY := (bef_h (hK X (by simp) Y' (by simp))).1.1 bXY
    -- c lies on the line of a and b
    have q1 := plk2 (p := shP K c) (q := shP K d) (a := shP K X) (b := shP K Y') (shP K c) (by rw [sh_det]; exact y2) (by rw [sh_det]; exact y4)
    rw [sh_det, sh_det] at q1
    have z0 : detM c d c = 0 := by unfold detM; grind
    have hcd0 : yv (shP K c) (shP K d) ≠ 0 := by
      have e := yv_neg (shP K c) (shP K d)
      rcases ncd with h | h
      · have := (bef_h (hK c (by simp) d (by simp))).1.1 h; omega
      · have := (bef_h (hK d (by simp) c (by simp))).1.1 h; omega
    rw [z0, Int.mul_zero] at q1
    have c0 : detM X Y' c = 0 := by
      rcases Int.mul_eq_zero.1 q1 with k | k
      · exact absurd k hcd0
      · exact k
    have q2 := plk2 (p := shP K a) (q := shP K b) (a := shP K X) (b := shP K Y') (shP K c) (by rw [sh_det]; exact y1) (by rw [sh_det]; exact y3)
    rw [sh_det, sh_det, c0, Int.mul_zero] at q2
    have c1 : detM a b c = 0 := by
      rcases Int.mul_eq_zero.1 q2.symm with k | k
      · omega
      · exact k
    have q3 := plk2 (p := shP K a) (q := shP K b) (a := shP K p) (b := shP K q) (shP K c) (by rw [sh_det]; exact z1) (by rw [sh_det]; exact z2)
    rw [sh_det, sh_det, c1, Int.mul_zero] at q3
    rcases Int.mul_eq_zero.1 q3 with k | k
    · exact hdd k
    · omega
end Go.Proofs.Ytnkcbephceollaa
