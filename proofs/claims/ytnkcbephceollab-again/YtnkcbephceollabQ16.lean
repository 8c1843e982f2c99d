import Derived.Test.YtnkcbephceollabQ15
namespace Go.Proofs.Ytnkcbephceollab
set_option linter.unusedVariables false
set_option linter.unusedSimpArgs false
set_option linter.unusedSectionVars false

/-- A shear that turns the order of these places into that of their heights. -/
theorem shear (L : List Pt) : ∃ K : Int, ∀ u ∈ L, ∀ v ∈ L, befB u v = decide (0 < yv (shP K u) (shP K v)) := by
  obtain ⟨K, _, h⟩ := bounded (fun uv : Pt × Pt => yv uv.1 uv.2) (L.flatMap (fun u => L.map (fun v => (u, v))))
  refine ⟨K, fun u hu v hv => ?_⟩
  have b := h (u, v) (List.mem_flatMap.2 ⟨u, hu, List.mem_map.2 ⟨v, hv, rfl⟩⟩)
  rw [← sh_up (K := K) b.1 b.2]
  unfold upB; simp
theorem bef_h {K : Int} {u v : Pt} (h : befB u v = decide (0 < yv (shP K u) (shP K v))) : (befB u v = true ↔ 0 < yv (shP K u) (shP K v)) ∧ (befB u v = false ↔ yv (shP K u) (shP K v) ≤ 0) := by
  rw [h]; simp
theorem yv_neg (u v : Pt) : yv u v = -yv v u := by unfold yv; grind
/-- p, q, X on one line: what a measure says at X. -/
theorem line_lin (p q X a b : Pt) (h : detM p q X = 0) : yv p q * detM a b X = yv X q * detM a b p + yv p X * detM a b q := by
  have : yv p q * detM a b X - (yv X q * detM a b p + yv p X * detM a b q) = detM p q X * yv a b := by unfold yv detM; grind
  rw [h] at this; simp at this; omega
theorem line_sum (p q X : Pt) : X.d * yv p q = q.d * yv p X + p.d * yv X q := by unfold yv; grind
section
variable {p q a b v : Pt} (hp : 0 < p.d) (hq : 0 < q.d) (ha : 0 < a.d) (hb : 0 < b.d) (hv : 0 < v.d)
include hp hq ha hb hv
theorem with_between (h1 : withB p a b = true) (h2 : withB q a b = true) (b1 : befB p v = true) (b2 : befB v q = true) : withB v a b = true := by
  unfold withB loM hiM at *
  by_cases c : befB b a = true
  · simp only [if_pos c, Bool.and_eq_true, Bool.not_eq_true'] at *
    refine ⟨?_, ?_⟩
    · cases k : befB v b
      · rfl
      · have := bef_lt hv hb hp k (q := p) b1; rw [h1.1] at this; cases this
    · cases k : befB a v
      · rfl
      · have := bef_lt hv hq ha b2 (q := a) k; rw [h2.2] at this; cases this
  · simp only [if_neg c, Bool.and_eq_true, Bool.not_eq_true'] at *
    refine ⟨?_, ?_⟩
    · cases k : befB v a
      · rfl
      · have := bef_lt hv ha hp k (q := p) b1; rw [h1.1] at this; cases this
    · cases k : befB b v
      · rfl
      · have := bef_lt hv hq hb b2 (q := b) k; rw [h2.2] at this; cases this
end
theorem on_parts {s a b : Pt} (h : onB s a b = true) : detM a b s = 0 ∧ withB s a b = true := by
  unfold onB at h; simpa using h
/-- Between two places on an edge, on their line: on the edge. -/
theorem on_between {p q a b v : Pt} (hp : 0 < p.d) (hq : 0 < q.d) (ha : 0 < a.d) (hb : 0 < b.d) (hv : 0 < v.d) (hne : befB a b = true ∨ befB b a = true)
    (h1 : onB p a b = true) (h2 : onB q a b = true) (b1 : befB p v = true) (b2 : befB v q = true) (hl : detM p q v = 0) : onB v a b = true := by
  obtain ⟨z1, w1⟩ := on_parts h1
  obtain ⟨z2, w2⟩ := on_parts h2
  obtain ⟨K, hK⟩ := shear [p, q, a, b, v]
  have hpq : befB p q = true := bef_lt hv hq hp b2 b1
  have Y := (bef_h (hK p (by simp) q (by simp))).1.1 hpq
  have hd : yv (shP K a) (shP K b) ≠ 0 := by
    have e := yv_neg (shP K a) (shP K b)
    rcases hne with h | h
    · have := (bef_h (hK a (by simp) b (by simp))).1.1 h; omega
    · have := (bef_h (hK b (by simp) a (by simp))).1.1 h; omega
  obtain ⟨A0, B0⟩ := col_of hp (by omega) hd z1 z2
  have pl := plk2 (p := shP K p) (q := shP K q) (a := shP K a) (b := shP K b) (shP K v) (by rw [sh_det]; exact A0) (by rw [sh_det]; exact B0)
  rw [sh_det, sh_det, hl, Int.mul_zero] at pl
  have z : detM a b v = 0 := by
    rcases Int.mul_eq_zero.1 pl with c | c
    · omega
    · exact c
  unfold onB
  rw [z, with_between hp hq ha hb hv w1 w2 b1 b2]; rfl
theorem holds_det {a b X : Pt} (h : holdsB a b X = true) : detM a b X = 0 := ((holds_iff a b X).1 h).1

/-- An edge that crosses the piece meets the edge that bears it within the piece. -/
theorem cross_spot {p q a b c d : Pt} (hp : 0 < p.d) (hq : 0 < q.d) (ha : Gr a) (hb : Gr b) (hc : Gr c) (hd : Gr d) (hab : a ≠ b) (hcd : c ≠ d) (hpq : befB p q = true)
    (h1 : onB p a b = true) (h2 : onB q a b = true) (hx : crossB p q c d = true) :
    ∃ X, inMt (meetM a b c d) X ∧ 0 < X.d ∧ befB p X = true ∧ befB X q = true ∧ detM p q X = 0 := by
  have da : 0 < a.d := by have := ha.d; omega
  have db : 0 < b.d := by have := hb.d; omega
  obtain ⟨z1, w1⟩ := on_parts h1
  obtain ⟨z2, w2⟩ := on_parts h2
  have tri : ∀ u v : Pt, u.d = 1 → v.d = 1 → u ≠ v → befB u v = true ∨ befB v u = true := fun u v hu hv hne => by
    rcases L_tri hu hv with t | t | t
    · exact .inl ((bef_L hu hv).2 t)
    · exact absurd t hne
    · exact .inr ((bef_L hv hu).2 t)
  have nab := tri a b ha.d hb.d hab
  unfold crossB apartB at hx
  simp only [Bool.and_eq_true, Bool.or_eq_true, decide_eq_true_eq] at hx
  obtain ⟨hx1, hx2⟩ := hx
  rcases meet_cases ha hb hc hd hab hcd with ⟨e, hs⟩ | ⟨X, e, _, xd, m1, m2, _⟩ | ⟨X, Y', e, gX, gY, m1, m2, m3, m4, bXY, _⟩
  · -- they are not apart
    exfalso
    obtain ⟨K, hK⟩ := shear [p, q, a, b]
    have Y := (bef_h (hK p (by simp) q (by simp))).1.1 hpq
    have hdd : yv (shP K a) (shP K b) ≠ 0 := by
      have e := yv_neg (shP K a) (shP K b)
      rcases nab with h | h
      · have := (bef_h (hK a (by simp) b (by simp))).1.1 h; omega
      · have := (bef_h (hK b (by simp) a (by simp))).1.1 h; omega
    obtain ⟨A0, B0⟩ := col_of hp (by omega) hdd z1 z2
    have pc := plk2 (p := shP K p) (q := shP K q) (a := shP K a) (b := shP K b) (shP K c) (by rw [sh_det]; exact A0) (by rw [sh_det]; exact B0)
    have pd := plk2 (p := shP K p) (q := shP K q) (a := shP K a) (b := shP K b) (shP K d) (by rw [sh_det]; exact A0) (by rw [sh_det]; exact B0)
    rw [sh_det, sh_det] at pc pd
    have lp := line_lin (shP K a) (shP K b) (shP K p) (shP K c) (shP K d) (by rw [sh_det]; exact z1)
    have lq := line_lin (shP K a) (shP K b) (shP K q) (shP K c) (shP K d) (by rw [sh_det]; exact z2)
    simp only [sh_det] at lp lq
    -- heights of p, q against a, b
    have hts : (0 < yv (shP K a) (shP K b) ∧ 0 ≤ yv (shP K a) (shP K p) ∧ 0 ≤ yv (shP K p) (shP K b) ∧ 0 ≤ yv (shP K a) (shP K q) ∧ 0 ≤ yv (shP K q) (shP K b)) ∨ (yv (shP K a) (shP K b) < 0 ∧ yv (shP K a) (shP K p) ≤ 0 ∧ yv (shP K p) (shP K b) ≤ 0 ∧ yv (shP K a) (shP K q) ≤ 0 ∧ yv (shP K q) (shP K b) ≤ 0) := by
      have e1 := yv_neg (shP K a) (shP K b)
      have e2 := yv_neg (shP K a) (shP K p)
      have e3 := yv_neg (shP K a) (shP K q)
      have e4 := yv_neg (shP K p) (shP K b)
      have e5 := yv_neg (shP K q) (shP K b)
      unfold withB loM hiM at w1 w2
      by_cases cc : befB b a = true
      · simp only [if_pos cc, Bool.and_eq_true, Bool.not_eq_true'] at w1 w2
        have k0 := (bef_h (hK b (by simp) a (by simp))).1.1 cc
        have k1 := (bef_h (hK p (by simp) b (by simp))).2.1 w1.1
        have k2 := (bef_h (hK a (by simp) p (by simp))).2.1 w1.2
        have k3 := (bef_h (hK q (by simp) b (by simp))).2.1 w2.1
        have k4 := (bef_h (hK a (by simp) q (by simp))).2.1 w2.2
        exact .inr (by omega)
      · have cc' : befB a b = true := nab.resolve_right cc
        simp only [if_neg cc, Bool.and_eq_true, Bool.not_eq_true'] at w1 w2
        have k0 := (bef_h (hK a (by simp) b (by simp))).1.1 cc'
        have k1 := (bef_h (hK p (by simp) a (by simp))).2.1 w1.1
        have k2 := (bef_h (hK b (by simp) p (by simp))).2.1 w1.2
        have k3 := (bef_h (hK q (by simp) a (by simp))).2.1 w2.1
        have k4 := (bef_h (hK b (by simp) q (by simp))).2.1 w2.2
        have f2 := yv_neg (shP K p) (shP K a)
        have f3 := yv_neg (shP K q) (shP K a)
        have f4 := yv_neg (shP K b) (shP K p)
        have f5 := yv_neg (shP K b) (shP K q)
        exact .inl (by omega)
    generalize yv (shP K a) (shP K b) = D at *
    generalize yv (shP K p) (shP K q) = Yv at *
    generalize yv (shP K a) (shP K p) = ap at *
    generalize yv (shP K p) (shP K b) = pb at *
    generalize yv (shP K a) (shP K q) = aq at *
    generalize yv (shP K q) (shP K b) = qb at *
    generalize detM c d a = u at *
    generalize detM c d b = w at *
    generalize detM c d p = al at *
    generalize detM c d q = be at *
    generalize detM a b c = C at *
    generalize detM a b d = D' at *
    generalize detM p q c = C0 at *
    generalize detM p q d = D0 at *
    -- the ends of the other edge lie on different sides
    have hne0 : (C < 0 ∧ 0 < D') ∨ (0 < C ∧ D' < 0) := by
      have sg : ∀ {x y : Int}, Yv * x = D * y → y ≠ 0 → ((0 < D → (0 < x ↔ 0 < y)) ∧ (0 < D → (x < 0 ↔ y < 0)) ∧ (D < 0 → (0 < x ↔ y < 0)) ∧ (D < 0 → (x < 0 ↔ 0 < y))) := fun {x y} hxy hy => by
        rcases Int.lt_trichotomy x 0 with cx | cx | cx
        · have m1 := mul_pn Y cx
          refine ⟨fun hD => ?_, fun hD => ?_, fun hD => ?_, fun hD => ?_⟩
          all_goals rcases Int.lt_or_gt_of_ne hy with cy | cy
          · omega
          · have := mul_pp hD cy; omega
          · omega
          · have := mul_pp hD cy; omega
          · have := mul_nn hD cy; omega
          · omega
          · have := mul_nn hD cy; omega
          · omega
        · subst cx
          rw [Int.mul_zero] at hxy
          rcases Int.mul_eq_zero.1 hxy.symm with k | k
          · exact absurd k hdd
          · exact absurd k hy
        · have m1 := mul_pp Y cx
          refine ⟨fun hD => ?_, fun hD => ?_, fun hD => ?_, fun hD => ?_⟩
          all_goals rcases Int.lt_or_gt_of_ne hy with cy | cy
          · have := mul_pn hD cy; omega
          · omega
          · have := mul_pn hD cy; omega
          · omega
          · omega
          · have := mul_np hD cy; omega
          · omega
          · have := mul_np hD cy; omega
      have s1 := sg pc (by omega)
      have s2 := sg pd (by omega)
      rcases hts with ⟨hD, _⟩ | ⟨hD, _⟩
      · have := s1.1 hD; have := s1.2.1 hD; have := s2.1 hD; have := s2.2.1 hD; omega
      · have := s1.2.2.1 hD; have := s1.2.2.2 hD; have := s2.2.2.1 hD; have := s2.2.2.2 hD; omega
    -- the ends of the bearing edge do not lie on one side
    have hns : ¬ ((u < 0 ∧ w < 0) ∨ (0 < u ∧ 0 < w)) := by
      intro hh
      rcases hts with ⟨hD, t1, t2, t3, t4⟩ | ⟨hD, t1, t2, t3, t4⟩
      · rcases hh with ⟨c1, c2⟩ | ⟨c1, c2⟩
        · have a1 := mul_gl t2 (Int.le_of_lt c1); have a2 := mul_gl t1 (Int.le_of_lt c2)
          have a3 := mul_gl t4 (Int.le_of_lt c1); have a4 := mul_gl t3 (Int.le_of_lt c2)
          rcases hx2 with ⟨x1, x2⟩ | ⟨x1, x2⟩
          · have := mul_pp hD x2; omega
          · have := mul_pp hD x1; omega
        · have a1 := mul_gg t2 (Int.le_of_lt c1); have a2 := mul_gg t1 (Int.le_of_lt c2)
          have a3 := mul_gg t4 (Int.le_of_lt c1); have a4 := mul_gg t3 (Int.le_of_lt c2)
          rcases hx2 with ⟨x1, x2⟩ | ⟨x1, x2⟩
          · have := mul_pn hD x1; omega
          · have := mul_pn hD x2; omega
      · rcases hh with ⟨c1, c2⟩ | ⟨c1, c2⟩
        · have a1 := mul_ll t2 (Int.le_of_lt c1); have a2 := mul_ll t1 (Int.le_of_lt c2)
          have a3 := mul_ll t4 (Int.le_of_lt c1); have a4 := mul_ll t3 (Int.le_of_lt c2)
          rcases hx2 with ⟨x1, x2⟩ | ⟨x1, x2⟩
          · have := mul_np hD x2; omega
          · have := mul_np hD x1; omega
        · have a1 := mul_lg t2 (Int.le_of_lt c1); have a2 := mul_lg t1 (Int.le_of_lt c2)
          have a3 := mul_lg t4 (Int.le_of_lt c1); have a4 := mul_lg t3 (Int.le_of_lt c2)
          rcases hx2 with ⟨x1, x2⟩ | ⟨x1, x2⟩
          · have := mul_nn hD x1; omega
          · have := mul_nn hD x2; omega
    rw [sides_one, sides_one] at hs
    have s0 : sidesM C D' ≠ 0 := by unfold sidesM; rw [if_neg (by omega)]; split <;> decide
    rcases hs with hs | hs | hs
    · omega
    · exact hns hs
    · exact s0 hs.1
  · -- they touch
    refine ⟨X, .inl ⟨by rw [e]; show (1 : Int) ≠ 0; decide, by rw [e]⟩, xd, ?_⟩
    have y1 := holds_det m1
    have y2 := holds_det m2
    obtain ⟨K, hK⟩ := shear [p, q, a, b, X]
    have Y := (bef_h (hK p (by simp) q (by simp))).1.1 hpq
    have hdd : yv (shP K a) (shP K b) ≠ 0 := by
      have e := yv_neg (shP K a) (shP K b)
      rcases nab with h | h
      · have := (bef_h (hK a (by simp) b (by simp))).1.1 h; omega
      · have := (bef_h (hK b (by simp) a (by simp))).1.1 h; omega
    have px := plk2 (p := shP K a) (q := shP K b) (a := shP K p) (b := shP K q) (shP K X) (by rw [sh_det]; exact z1) (by rw [sh_det]; exact z2)
    rw [sh_det, sh_det, y1, Int.mul_zero] at px
    have hl : detM p q X = 0 := by
      rcases Int.mul_eq_zero.1 px with k | k
      · exact absurd k hdd
      · exact k
    have ll := line_lin (shP K p) (shP K q) (shP K X) (shP K c) (shP K d) (by rw [sh_det]; exact hl)
    simp only [sh_det, y2, Int.mul_zero] at ll
    have ls := line_sum (shP K p) (shP K q) (shP K X)
    have e1 : (shP K p).d = p.d := rfl
    have e2 : (shP K q).d = q.d := rfl
    have e3 : (shP K X).d = X.d := rfl
    rw [e1, e2, e3] at ls
    have lp := mul_pp xd Y
    have k1 := bef_h (hK p (by simp) X (by simp))
    have k2 := bef_h (hK X (by simp) q (by simp))
    rw [k1.1, k2.1]
    generalize yv (shP K p) (shP K X) = s at *
    generalize yv (shP K X) (shP K q) = t at *
    generalize detM c d p = al at *
    generalize detM c d q = be at *
    have both : 0 < s ∧ 0 < t := by
      rcases Int.lt_or_le 0 s with c1 | c1
      · rcases Int.lt_or_le 0 t with c2 | c2
        · exact ⟨c1, c2⟩
        · exfalso
          rcases hx2 with ⟨x1, x2⟩ | ⟨x1, x2⟩
          · have := mul_ll c2 (Int.le_of_lt x1); have := mul_pp c1 x2; omega
          · have := mul_lg c2 (Int.le_of_lt x1); have := mul_pn c1 x2; omega
      · exfalso
        have c2 : 0 < t := by
          rcases Int.lt_or_le 0 t with c2 | c2
          · exact c2
          · have := mul_gl (Int.le_of_lt hq) c1; have := mul_gl (Int.le_of_lt hp) c2; omega
        rcases hx2 with ⟨x1, x2⟩ | ⟨x1, x2⟩
        · have := mul_pn c2 x1; have := mul_lg c1 (Int.le_of_lt x2); omega
        · have := mul_pp c2 x1; have := mul_ll c1 (Int.le_of_lt x2); omega
    exact ⟨both.1, both.2, hl⟩
  · -- they do not lie along each other
    exfalso
    have y1 := holds_det m1
    have y2 := holds_det m2
    have y3 := holds_det m3
    have y4 := holds_det m4
    have ncd := tri c d hc.d hd.d hcd
    have key : ∀ u v : Pt, befB u v = true ↔ (0 < xv u v ∨ (xv u v = 0 ∧ 0 < yv u v)) := fun u v => by rw [bef_iff]; unfold xv yv; omega
    obtain ⟨K, hK⟩ := shear [p, q, a, b, X, Y', c, d]
    have Y := (bef_h (hK p (by simp) q (by simp))).1.1 hpq
    have hdd : yv (shP K a) (shP K b) ≠ 0 := by
      have e := yv_neg (shP K a) (shP K b)
      rcases nab with h | h
      · have := (bef_h (hK a (by simp) b (by simp))).1.1 h; omega
      · have := (bef_h (hK b (by simp) a (by simp))).1.1 h; omega
    have XY := (bef_h (hK X (by simp) Y' (by simp))).1.1 bXY
    -- c lies on the line of a and b
    have q1 := plk2 (p := shP K c) (q := shP K d) (a := shP K X) (b := shP K Y') (shP K c) (by rw [sh_det]; exact y2) (by rw [sh_det]; exact y4)
    rw [sh_det, sh_det] at q1
    have z0 : detM c d c = 0 := by unfold detM; grind
    have hcd0 : yv (shP K c) (shP K d) ≠ 0 := by
      have e := yv_neg (shP K c) (shP K d)
      rcases ncd with h | h
      · have := (bef_h (hK c (by simp) d (by simp))).1.1 h; omega
      · have := (bef_h (hK d (by simp) c (by simp))).1.1 h; omega
    rw [z0, Int.mul_zero] at q1
    have c0 : detM X Y' c = 0 := by
      rcases Int.mul_eq_zero.1 q1 with k | k
      · exact absurd k hcd0
      · exact k
    have q2 := plk2 (p := shP K a) (q := shP K b) (a := shP K X) (b := shP K Y') (shP K c) (by rw [sh_det]; exact y1) (by rw [sh_det]; exact y3)
    rw [sh_det, sh_det, c0, Int.mul_zero] at q2
    have c1 : detM a b c = 0 := by
      rcases Int.mul_eq_zero.1 q2.symm with k | k
      · omega
      · exact k
    have q3 := plk2 (p := shP K a) (q := shP K b) (a := shP K p) (b := shP K q) (shP K c) (by rw [sh_det]; exact z1) (by rw [sh_det]; exact z2)
    rw [sh_det, sh_det, c1, Int.mul_zero] at q3
    rcases Int.mul_eq_zero.1 q3 with k | k
    · exact hdd k
    · omega
/-- A piece with its sides. -/
structure Pc where
  p : Pt
  q : Pt
  la : Bool
  ra : Bool
  lb : Bool
  rb : Bool
def pcOf (EA EB : List (Pt × Pt)) (x : Pt × Pt) : Pc := ⟨x.1, x.2, parB (leftE x.1 x.2) EA, parB (rightE x.1 x.2) EA, parB (leftE x.1 x.2) EB, parB (rightE x.1 x.2) EB⟩
def piecesM (A B : List (List Pt)) : List Pc := (pairsL (edgesM A ++ edgesM B) (spotsM (edgesM A ++ edgesM B))).map (pcOf (edgesM A) (edgesM B))
def rpcOf (EA EB : List (Pt × Pt)) (all : List Pt) (x : Pt × Pt) : Pc := ⟨x.1, x.2, (rsidesM x.1 x.2 EA all).1, (rsidesM x.1 x.2 EA all).2, (rsidesM x.1 x.2 EB all).1, (rsidesM x.1 x.2 EB all).2⟩
def rpiecesM (A B : List (List Pt)) : List Pc := (rpairsM (edgesM A ++ edgesM B) (rspotsM (edgesM A ++ edgesM B))).map (rpcOf (edgesM A) (edgesM B) (A.flatten ++ B.flatten))

theorem ne_of_bef {u v : Pt} (h : befB u v = true ∨ befB v u = true) : u ≠ v := fun e => by
  subst e; rw [bef_irr] at h; simp at h
theorem good_both {A B : List (List Pt)} (hA : Sound A) (hB : Sound B) : Good (edgesM A ++ edgesM B) := by
  refine ⟨fun e he => ?_, fun e he => ?_, fun e he => ?_⟩
  · rcases List.mem_append.1 he with he | he
    · exact ⟨hA.gr _ (edge_ends he).1, hA.gr _ (edge_ends he).2⟩
    · exact ⟨hB.gr _ (edge_ends he).1, hB.gr _ (edge_ends he).2⟩
  · rcases List.mem_append.1 he with he | he
    · exact ne_of_bef (hA.ne e he)
    · exact ne_of_bef (hB.ne e he)
  · rcases List.mem_append.1 he with he | he
    · obtain ⟨e', h1, h2⟩ := edge_second A e he
      exact ⟨e', List.mem_append.2 (.inl h1), h2⟩
    · obtain ⟨e', h1, h2⟩ := edge_second B e he
      exact ⟨e', List.mem_append.2 (.inr h1), h2⟩
theorem end_spot {E : List (Pt × Pt)} (h : Good E) {e : Pt × Pt} (he : e ∈ E) : e.1 ∈ spotsM E := by
  obtain ⟨_, m⟩ := spots_spec h
  rw [← spots_eq h]
  obtain ⟨_, m2⟩ := rspots_spec h
  obtain ⟨i, hi, ei⟩ := List.mem_iff_getElem.1 he
  refine (m2 _).2 ⟨i, hi, .inl ?_⟩
  rw [List.getD_eq_getElem?_getD, List.getElem?_eq_getElem hi]
  show e.1 = (E[i]).1
  rw [ei]
theorem bef_or {u v : Pt} (hu : u.d = 1) (hv : v.d = 1) (h : u ≠ v) : befB u v = true ∨ befB v u = true := by
  rcases L_tri hu hv with t | t | t
  · exact .inl ((bef_L hu hv).2 t)
  · exact absurd t h
  · exact .inr ((bef_L hv hu).2 t)
/-- Of a piece no point lies within it and no edge comes across it. -/
theorem piece_clear {E : List (Pt × Pt)} (h : Good E) {x : Pt × Pt} (hx : x ∈ pairsL E (spotsM E)) :
    (Nice x.1 ∧ Nice x.2) ∧ befB x.1 x.2 = true ∧ (∀ e ∈ E, befB x.1 e.1 = true → befB e.1 x.2 = true → detM x.1 x.2 e.1 ≠ 0) ∧ (∀ e ∈ E, crossB x.1 x.2 e.1 e.2 = false) := by
  obtain ⟨s1, s2⟩ := spots_spec h
  obtain ⟨_, p2⟩ := pairs_spec E s1
  obtain ⟨e0, he0, ha⟩ := (p2 x).1 hx
  obtain ⟨m1, m2, f1, f2⟩ := AL_mem ha
  obtain ⟨hpq, hno⟩ := AL_next s1.srt ha
  have n1 := s1.nc _ m1
  have n2 := s1.nc _ m2
  have g0 := h.gr e0 he0
  have da : 0 < e0.1.d := by have := g0.1.d; omega
  have db : 0 < e0.2.d := by have := g0.2.d; omega
  have o1 : onB x.1 e0.1 e0.2 = true := by rw [← has_on da db n1.d]; exact f1
  have o2 : onB x.2 e0.1 e0.2 = true := by rw [← has_on da db n2.d]; exact f2
  have nab := bef_or g0.1.d g0.2.d (h.ne e0 he0)
  -- nothing of the spots lies between on that edge
  have none : ∀ y ∈ spotsM E, befB x.1 y = true → befB y x.2 = true → detM x.1 x.2 y ≠ 0 := fun y hy b1 b2 hl => by
    have ny := s1.nc y hy
    have := hno y hy b1 b2
    rw [has_on da db ny.d, on_between n1.d n2.d da db ny.d nab o1 o2 b1 b2 hl] at this
    cases this
  refine ⟨⟨n1, n2⟩, hpq, fun e he b1 b2 => none _ (end_spot h he) b1 b2, fun e he => ?_⟩
  cases hc : crossB x.1 x.2 e.1 e.2
  · rfl
  · exfalso
    have ge := h.gr e he
    obtain ⟨X, hX, xd, b1, b2, hl⟩ := cross_spot n1.d n2.d g0.1 g0.2 ge.1 ge.2 (h.ne e0 he0) (h.ne e he) hpq o1 o2 hc
    exact none X ((s2 X).2 ⟨e0, he0, e, he, hX⟩) b1 b2 hl
/-- The pieces are the document's. -/
theorem pieces_eq {A B : List (List Pt)} (hA : Sound A) (hB : Sound B) : rpiecesM A B = piecesM A B := by
  have hG := good_both hA hB
  unfold rpiecesM piecesM
  rw [spots_eq hG, pairs_eq (fun e he => hG.gr e he) (spots_spec hG).1]
  refine List.map_congr_left fun x hx => ?_
  obtain ⟨⟨n1, n2⟩, hpq, hpt, hed⟩ := piece_clear hG hx
  have hptA : ∀ v ∈ A.flatten, befB x.1 v = true → befB v x.2 = true → detM x.1 x.2 v ≠ 0 := fun v hv b1 b2 => by
    obtain ⟨e, he, rfl⟩ := first_edge hv
    exact hpt e (List.mem_append.2 (.inl he)) b1 b2
  have hptB : ∀ v ∈ B.flatten, befB x.1 v = true → befB v x.2 = true → detM x.1 x.2 v ≠ 0 := fun v hv b1 b2 => by
    obtain ⟨e, he, rfl⟩ := first_edge hv
    exact hpt e (List.mem_append.2 (.inr he)) b1 b2
  have hall : ∀ v ∈ A.flatten ++ B.flatten, befB x.1 v = true → befB v x.2 = true → detM x.1 x.2 v ≠ 0 := fun v hv => by
    rcases List.mem_append.1 hv with hv | hv
    · exact hptA v hv
    · exact hptB v hv
  have had : ∀ v ∈ A.flatten ++ B.flatten, 0 < v.d := fun v hv => by
    rcases List.mem_append.1 hv with hv | hv
    · have := (hA.gr v hv).d; omega
    · have := (hB.gr v hv).d; omega
  have sA := sides_eq hA n1.1 n2.1 hpq ⟨hptA, fun e he => hed e (List.mem_append.2 (.inl he))⟩ (fun v hv => List.mem_append.2 (.inl hv)) hall had
  have sB := sides_eq hB n1.1 n2.1 hpq ⟨hptB, fun e he => hed e (List.mem_append.2 (.inr he))⟩ (fun v hv => List.mem_append.2 (.inr hv)) hall had
  unfold rpcOf pcOf
  rw [← sA, ← sB]
/-- A polygon that Check has nothing against. -/
theorem sound_of {P : List (List Pt)} (h : (checkM P).1 = 0) : Sound P := by
  have u : checkM P = if 4 < P.length then (1, 0) else if badM 12 0 P ≠ -1 then (2, badM 12 0 P) else if findM (fun e : Pt × Pt => !gridB e.1) 0 (edgesM P) ≠ -1 then (3, findM (fun e : Pt × Pt => !gridB e.1) 0 (edgesM P)) else if findM (fun e : Pt × Pt => eqB e.1 e.2) 0 (edgesM P) ≠ -1 then (4, findM (fun e : Pt × Pt => eqB e.1 e.2) 0 (edgesM P)) else if findM (sharesM (edgesM P)) 0 (List.range (edgesM P).length) ≠ -1 then (5, findM (sharesM (edgesM P)) 0 (List.range (edgesM P).length)) else (0, 0) := rfl
  rw [u] at h
  by_cases c1 : 4 < P.length
  · rw [if_pos c1] at h; simp at h
  rw [if_neg c1] at h
  by_cases c2 : badM 12 0 P ≠ -1
  · rw [if_pos c2] at h; simp at h
  rw [if_neg c2] at h
  by_cases c3 : findM (fun e : Pt × Pt => !gridB e.1) 0 (edgesM P) ≠ -1
  · rw [if_pos c3] at h; simp at h
  rw [if_neg c3] at h
  by_cases c4 : findM (fun e : Pt × Pt => eqB e.1 e.2) 0 (edgesM P) ≠ -1
  · rw [if_pos c4] at h; simp at h
  rw [if_neg c4] at h
  by_cases c5 : findM (sharesM (edgesM P)) 0 (List.range (edgesM P).length) ≠ -1
  · rw [if_pos c5] at h; simp at h
  have d3 := findM_none _ _ 0 (by decide) (by omega : findM (fun e : Pt × Pt => !gridB e.1) 0 (edgesM P) = -1)
  have d4 := findM_none _ _ 0 (by decide) (by omega : findM (fun e : Pt × Pt => eqB e.1 e.2) 0 (edgesM P) = -1)
  have d5 := findM_none _ _ 0 (by decide) (by omega : findM (sharesM (edgesM P)) 0 (List.range (edgesM P).length) = -1)
  have gr : ∀ v ∈ P.flatten, Gr v := fun v hv => by
    obtain ⟨e, he, rfl⟩ := first_edge hv
    have := d3 e he
    exact gr_of (by simpa using this)
  refine ⟨gr, fun e he => ?_, fun i j hij hj => ?_⟩
  · obtain ⟨m1, m2⟩ := edge_ends he
    refine bef_or (gr _ m1).d (gr _ m2).d fun k => ?_
    have := d4 e he
    rw [k] at this
    simp [eqB] at this
  · have := d5 j (by simpa using hj)
    unfold sharesM at this
    rw [← Bool.not_eq_true, List.any_eq_true] at this
    cases k : alongB ((edgesM P).getD j (zP, zP)) ((edgesM P).getD i (zP, zP))
    · rfl
    · refine absurd ⟨(edgesM P).getD i (zP, zP), ?_, k⟩ this
      rw [List.mem_take_iff_getElem]
      refine ⟨i, by omega, ?_⟩
      rw [List.getD_eq_getElem?_getD, List.getElem?_eq_getElem (by omega)]; rfl
end Go.Proofs.Ytnkcbephceollab
