import Derived.Test.YtnkcbephceollaaQ14
namespace Go.Proofs.Ytnkcbephceollaa
set_option linter.unusedVariables false
set_option linter.unusedSimpArgs false

/-- Half way. -/
def midP (p q : Pt) : Pt := ⟨p.x * q.d + q.x * p.d, p.y * q.d + q.y * p.d, 2 * p.d * q.d⟩
theorem mid_det (a b p q : Pt) : detM a b (midP p q) = q.d * detM a b p + p.d * detM a b q := by unfold detM midP; grind
theorem mid_yv (p q v : Pt) : yv (midP p q) v = q.d * yv p v + p.d * yv q v := by unfold yv midP; grind
theorem mid_xv (p q v : Pt) : xv (midP p q) v = q.d * xv p v + p.d * xv q v := by unfold xv midP; grind
theorem sh_mid (K : Int) (p q : Pt) : shP K (midP p q) = midP (shP K p) (shP K q) := by
  unfold shP midP; simp only [Pt.mk.injEq, true_and, and_true]; grind
theorem neg2_neg (s t : Int) : neg2 (-s) (-t) ↔ pos2 s t := by unfold neg2 pos2; omega
theorem pos2_neg (s t : Int) : pos2 (-s) (-t) ↔ neg2 s t := by unfold neg2 pos2; omega

/-- Does the edge lie over the piece from p to q, close to p? -/
def ovL (p q a b : Pt) : Bool := (!befB p a && befB p b && decide (neg2 (detM a b p) (detM a b q))) || (befB p a && !befB p b && decide (pos2 (detM a b p) (detM a b q)))
/-- To the left of the first half of the piece. -/
def gB (p q v : Pt) : Bool := befB p v && !befB (midP p q) v && decide (0 < detM p q v)

theorem bnd7 (x1 x2 x3 x4 x5 x6 x7 : Int) : ∃ K : Int, (-K < x1 ∧ x1 < K) ∧ (-K < x2 ∧ x2 < K) ∧ (-K < x3 ∧ x3 < K) ∧ (-K < x4 ∧ x4 < K) ∧ (-K < x5 ∧ x5 < K) ∧ (-K < x6 ∧ x6 < K) ∧ (-K < x7 ∧ x7 < K) :=
  ⟨x1.natAbs + x2.natAbs + x3.natAbs + x4.natAbs + x5.natAbs + x6.natAbs + x7.natAbs + 1, by omega⟩

theorem strip_edge {p q a b : Pt} (hp : 0 < p.d) (hq : 0 < q.d) (ha : 0 < a.d) (hb : 0 < b.d) (hpq : befB p q = true)
    (fa : befB p a = true → befB a q = true → detM p q a ≠ 0) (fb : befB p b = true → befB b q = true → detM p q b ≠ 0) (hx : crossB p q a b = false) :
    (ovL p q a b ^^ overB (midP p q) a b) = (gB p q a ^^ gB p q b) := by
  obtain ⟨K, k1, k2, k3, k4, k5, k6, k7⟩ := bnd7 (yv p a) (yv p b) (yv p q) (yv q a) (yv q b) (yv (midP p q) a) (yv (midP p q) b)
  have sw : ∀ u v, yv u v = -yv v u := fun u v => by unfold yv; grind
  have u1 := sh_up k1.1 k1.2
  have u2 := sh_up k2.1 k2.2
  have u3 := sh_up k3.1 k3.2
  have u4 : upB false (shP K a) (shP K q) = befB a q := sh_up (by have := sw a q; omega) (by have := sw a q; omega)
  have u5 : upB false (shP K b) (shP K q) = befB b q := sh_up (by have := sw b q; omega) (by have := sw b q; omega)
  have u6 := sh_up k6.1 k6.2
  have u7 := sh_up k7.1 k7.2
  have upd : ∀ u v, upB false u v = decide (0 < yv u v) := fun u v => by unfold upB; simp
  rw [upd] at u1 u2 u3 u4 u5 u6 u7
  have ep : (shP K p).d = p.d := rfl
  have eq : (shP K q).d = q.d := rfl
  have ea : (shP K a).d = a.d := rfl
  have eb : (shP K b).d = b.d := rfl
  have I1 := id1 (shP K q) (shP K p) (shP K a) (shP K b)
  have I2 := id2 (shP K q) (shP K p) (shP K a) (shP K b)
  rw [sh_det, sh_det, sh_det, det_sw p q a, det_sw p q b] at I1 I2
  have J1 : (shP K p).d * yv (shP K q) (shP K a) = (shP K q).d * yv (shP K p) (shP K a) - (shP K a).d * yv (shP K p) (shP K q) := by unfold yv; grind
  have J2 : (shP K p).d * yv (shP K q) (shP K b) = (shP K q).d * yv (shP K p) (shP K b) - (shP K b).d * yv (shP K p) (shP K q) := by unfold yv; grind
  have M1 := mid_yv (shP K p) (shP K q) (shP K a)
  have M2 := mid_yv (shP K p) (shP K q) (shP K b)
  rw [← sh_mid] at M1 M2
  have sq1 := sw (shP K a) (shP K q)
  have sq2 := sw (shP K b) (shP K q)
  rw [sq1] at u4
  rw [sq2] at u5
  have mix := mid_det a b p q
  unfold ovL gB overB
  have hxx : NoX (detM p q a) (detM p q b) (detM a b p) (detM a b q) := by
    unfold NoX
    intro h
    have : crossB p q a b = true := by
      unfold crossB apartB
      simp only [Bool.and_eq_true, Bool.or_eq_true, decide_eq_true_eq]
      omega
    rw [hx] at this; cases this
  rw [ep, eq, ea] at J1
  rw [ep, eq, eb] at J2
  rw [ep, eq] at M1 M2
  have hY : 0 < yv (shP K p) (shP K q) := by rw [hpq] at u3; exact of_decide_eq_true u3
  rw [← u1] at fa ⊢
  rw [← u2] at fb ⊢
  rw [← u4] at fa
  rw [← u5] at fb
  rw [← u6, ← u7]
  generalize detM p q a = A at *
  generalize detM p q b = B at *
  generalize detM a b p = al at *
  generalize detM a b q = be at *
  generalize detM a b (midP p q) = mu at *
  generalize yv (shP K p) (shP K q) = Y at *
  generalize yv (shP K p) (shP K a) = ap at *
  generalize yv (shP K p) (shP K b) = bp at *
  generalize yv (shP K q) (shP K a) = aq at *
  generalize yv (shP K q) (shP K b) = bq at *
  generalize yv (shP K (midP p q)) (shP K a) = am at *
  generalize yv (shP K (midP p q)) (shP K b) = bm at *
  simp only [decide_eq_true_eq] at fa fb
  clear u1 u2 u3 u4 u5 u6 u7 sq1 sq2 k1 k2 k3 k4 k5 k6 k7 upd sw ep eq ea eb hx hpq
  have hal : Y * al = B * ap - A * bp := by rw [I1]; grind
  have hbe : Y * be = B * aq - A * bq := by rw [I2]; grind
  have hmu : Y * mu = B * am - A * bm := by
    rw [mix, M1, M2]
    have e : Y * (q.d * al + p.d * be) = q.d * (Y * al) + p.d * (Y * be) := by grind
    rw [e, hal, hbe]; grind
  clear I1 I2
  -- the order of heights
  have oa : (ap ≤ 0 → am < 0) ∧ (am ≤ 0 → aq < 0) := by
    have t := mul_pp ha hY
    have M1' : am = 2 * (q.d * ap) - a.d * Y := by rw [M1, J1]; omega
    refine ⟨fun h => ?_, fun h => ?_⟩
    · have := mul_gl (Int.le_of_lt hq) h; omega
    · rcases Int.lt_or_le aq 0 with c | c
      · exact c
      · have := mul_gg (Int.le_of_lt hp) c; omega
  have ob : (bp ≤ 0 → bm < 0) ∧ (bm ≤ 0 → bq < 0) := by
    have t := mul_pp hb hY
    have M2' : bm = 2 * (q.d * bp) - b.d * Y := by rw [M2, J2]; omega
    refine ⟨fun h => ?_, fun h => ?_⟩
    · have := mul_gl (Int.le_of_lt hq) h; omega
    · rcases Int.lt_or_le bq 0 with c | c
      · exact c
      · have := mul_gg (Int.le_of_lt hp) c; omega
  clear M1 M2 J1 J2
  have hal' : Y * (-al) = A * bp - B * ap := by rw [Int.mul_neg, hal]; omega
  have hbe' : Y * (-be) = A * bq - B * aq := by rw [Int.mul_neg, hbe]; omega
  have hmu' : Y * (-mu) = A * bm - B * am := by rw [Int.mul_neg, hmu]; omega
  have mix' : -mu = q.d * (-al) + p.d * (-be) := by rw [mix, Int.mul_neg, Int.mul_neg]; omega
  have hxx' : NoX B A (-al) (-be) := by unfold NoX at hxx ⊢; omega
  have T : ∀ {c : Prop} [Decidable c], c → decide c = true := fun h => decide_eq_true h
  have F : ∀ {c : Prop} [Decidable c], ¬ c → decide c = false := fun h => decide_eq_false h
  by_cases a1 : 0 < ap
  · by_cases a2 : 0 < am
    · -- a above m
      by_cases b1 : 0 < bp
      · by_cases b2 : 0 < bm
        · rw [T a1, T a2, T b1, T b2]; simp
        · -- b in the strip, a above
          have c := case12 hY hal' hmu' mix' hq hp hxx' b1 (by omega) a1 a2 (fb b1 (by have := ob.2 (by omega); omega))
          rw [T a1, T a2, T b1, F b2]
          have e : decide (0 < mu) = decide (0 < B) := decide_eq_decide.2 (by have := c.1; omega)
          rw [e]; simp
      · have h2 := ob.1 (by omega)
        have h3 := ob.2 (by omega)
        have c := case02 hY hal' hbe' hmu' mix' hq hp hxx' (by omega) h2 h3 a1 a2
        rw [T a1, T a2, F b1, F (by omega : ¬ 0 < bm)]
        have e : decide (pos2 al be) = decide (0 < mu) := decide_eq_decide.2 (by have := c.1; rw [neg2_neg] at this; rw [this]; omega)
        rw [e]; simp
    · have hq1 := oa.2 (by omega)
      have hA := fa a1 (by omega)
      by_cases b1 : 0 < bp
      · by_cases b2 : 0 < bm
        · have c := case12 hY hal hmu mix hq hp hxx a1 (by omega) b1 b2 hA
          rw [T a1, F a2, T b1, T b2]
          have e : decide (mu < 0) = decide (0 < A) := decide_eq_decide.2 c.1
          rw [e]; simp
        · have hq2 := ob.2 (by omega)
          have hB := fb b1 (by omega)
          have c := case11 hY hal hbe hxx a1 hq1 b1 hq2 hA hB
          rw [T a1, F a2, T b1, F b2]
          have e : decide (0 < A) = decide (0 < B) := decide_eq_decide.2 c
          rw [e]; simp
      · have h2 := ob.1 (by omega)
        have h3 := ob.2 (by omega)
        have c := case01 hY hal' hbe' hxx' (by omega) h3 a1 hq1 hA
        rw [T a1, F a2, F b1, F (by omega : ¬ 0 < bm)]
        have e : decide (pos2 al be) = decide (0 < A) := decide_eq_decide.2 (by have := c.1; rw [neg2_neg] at this; exact this)
        rw [e]; simp
  · have h2 := oa.1 (by omega)
    have h3 := oa.2 (by omega)
    by_cases b1 : 0 < bp
    · by_cases b2 : 0 < bm
      · have c := case02 hY hal hbe hmu mix hq hp hxx (by omega) h2 h3 b1 b2
        rw [F a1, F (by omega : ¬ 0 < am), T b1, T b2]
        have e : decide (neg2 al be) = decide (mu < 0) := decide_eq_decide.2 c.1
        rw [e]; simp
      · have hq2 := ob.2 (by omega)
        have hB := fb b1 (by omega)
        have c := case01 hY hal hbe hxx (by omega) h3 b1 hq2 hB
        rw [F a1, F (by omega : ¬ 0 < am), T b1, F b2]
        have e : decide (neg2 al be) = decide (0 < B) := decide_eq_decide.2 c.1
        rw [e]; simp
    · have g2 := ob.1 (by omega)
      rw [F a1, F (by omega : ¬ 0 < am), F b1, F (by omega : ¬ 0 < bm)]; simp
end Go.Proofs.Ytnkcbephceollaa
