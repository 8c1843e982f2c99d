import Derived.Test.YtnkcbephceollabQ9
namespace Go.Proofs.Ytnkcbephceollab
set_option linter.unusedVariables false
set_option linter.unusedSimpArgs false

def neg2 (s t : Int) : Prop := s < 0 ∨ (s = 0 ∧ t < 0)
def pos2 (s t : Int) : Prop := 0 < s ∨ (s = 0 ∧ 0 < t)
instance (s t : Int) : Decidable (neg2 s t) := by unfold neg2; infer_instance
instance (s t : Int) : Decidable (pos2 s t) := by unfold pos2; infer_instance
/-- Not on either side. -/
def NoX (A B al be : Int) : Prop := ¬ (((A < 0 ∧ 0 < B) ∨ (0 < A ∧ B < 0)) ∧ ((al < 0 ∧ 0 < be) ∨ (0 < al ∧ be < 0)))
section
variable {Y A B al be mu ap bp am bm aq bq D P : Int} (hY : 0 < Y) (hal : Y * al = B * ap - A * bp) (hbe : Y * be = B * aq - A * bq) (hmu : Y * mu = B * am - A * bm) (hmix : mu = D * al + P * be) (hD : 0 < D) (hP : 0 < P) (hx : NoX A B al be)
include hY
theorem sg_neg {z r : Int} (h : Y * z = r) : (r < 0 → z < 0) ∧ (0 < r → 0 < z) ∧ (r = 0 → z = 0) ∧ (r ≤ 0 → z ≤ 0) ∧ (0 ≤ r → 0 ≤ z) := by
  rcases Int.lt_trichotomy z 0 with c | c | c
  · have := mul_pn hY c; omega
  · subst c; rw [Int.mul_zero] at h; omega
  · have := mul_pp hY c; omega
omit hY in
include hmix hD hP in
theorem mix_sg : (al < 0 → be ≤ 0 → mu < 0) ∧ (al = 0 → be < 0 → mu < 0) ∧ (0 < al → 0 ≤ be → 0 < mu) ∧ (al = 0 → 0 < be → 0 < mu) ∧ (al = 0 → be = 0 → mu = 0) := by
  refine ⟨fun h1 h2 => ?_, fun h1 h2 => ?_, fun h1 h2 => ?_, fun h1 h2 => ?_, fun h1 h2 => ?_⟩
  · have := mul_pn hD h1; have := mul_gl (Int.le_of_lt hP) h2; omega
  · have := mul_pn hP h2; rw [h1, Int.mul_zero] at hmix; omega
  · have := mul_pp hD h1; have := mul_gg (Int.le_of_lt hP) h2; omega
  · have := mul_pp hP h2; rw [h1, Int.mul_zero] at hmix; omega
  · rw [h1, h2, Int.mul_zero, Int.mul_zero] at hmix; omega
include hal hbe hmu hmix hD hP hx
/-- From below p to above m. -/
theorem case02 (h1 : ap ≤ 0) (h2 : am < 0) (h3 : aq < 0) (h4 : 0 < bp) (h5 : 0 < bm) : (neg2 al be ↔ mu < 0) ∧ (pos2 al be ↔ 0 < mu) := by
  have sa := sg_neg hY hal
  have sb := sg_neg hY hbe
  have sm := sg_neg hY hmu
  have mx := mix_sg hmix hD hP
  unfold NoX at hx
  unfold neg2 pos2
  rcases Int.lt_trichotomy al 0 with c | c | c
  · rcases Int.lt_or_le 0 be with d | d
    · -- on either side
      have k : (0 ≤ A ∧ 0 ≤ B) ∨ (A ≤ 0 ∧ B ≤ 0) := by omega
      rcases k with ⟨k1, k2⟩ | ⟨k1, k2⟩
      · have e1 := mul_gl k2 (Int.le_of_lt h3)
        have e2 := mul_gl k2 (Int.le_of_lt h2)
        have e3 := mul_gg k1 (Int.le_of_lt h5)
        have hA : 0 < A := by
          rcases Int.lt_or_eq_of_le k1 with z | z
          · exact z
          · subst z; simp only [Int.zero_mul] at hbe; omega
        have e4 := mul_pp hA h5
        omega
      · have e1 := mul_ll k2 h1
        have e2 := mul_lg k1 (Int.le_of_lt h4)
        omega
    · have := mx.1 c d; omega
  · rcases Int.lt_trichotomy be 0 with d | d | d
    · have := mx.2.1 c d; omega
    · have := mx.2.2.2.2 c d; omega
    · have := mx.2.2.2.1 c d; omega
  · rcases Int.lt_or_le be 0 with d | d
    · have k : (0 ≤ A ∧ 0 ≤ B) ∨ (A ≤ 0 ∧ B ≤ 0) := by omega
      rcases k with ⟨k1, k2⟩ | ⟨k1, k2⟩
      · have e1 := mul_gl k2 h1
        have e2 := mul_gg k1 (Int.le_of_lt h4)
        omega
      · have e1 := mul_ll k2 (Int.le_of_lt h3)
        have e2 := mul_ll k2 (Int.le_of_lt h2)
        have hA : A < 0 := by
          rcases Int.lt_or_eq_of_le k1 with z | z
          · exact z
          · subst z; simp only [Int.zero_mul] at hbe; omega
        have e4 := mul_np hA h5
        omega
    · have := mx.2.2.1 c d; omega
omit hmu hmix hD hP in
/-- From below p into the strip. -/
theorem case01 (h1 : ap ≤ 0) (h3 : aq < 0) (h4 : 0 < bp) (h5 : bq < 0) (hB : B ≠ 0) : (neg2 al be ↔ 0 < B) ∧ (pos2 al be ↔ B < 0) := by
  have sa := sg_neg hY hal
  have sb := sg_neg hY hbe
  unfold NoX at hx
  unfold neg2 pos2
  rcases Int.lt_or_gt_of_ne hB with b | b
  · rcases Int.lt_or_le 0 A with a | a
    · have e1 := mul_nn b h3
      have e2 := mul_pn a h5
      omega
    · have e1 := mul_ll (Int.le_of_lt b) h1
      have e2 := mul_lg a (Int.le_of_lt h4)
      rcases Int.lt_or_eq_of_le h1 with z | z
      · have e3 := mul_nn b z
        omega
      · rcases Int.lt_or_eq_of_le a with y | y
        · have e4 := mul_np y h4
          omega
        · subst z; subst y
          simp only [Int.zero_mul, Int.mul_zero] at hal hbe
          have e5 := mul_nn b h3
          omega
  · rcases Int.lt_or_le A 0 with a | a
    · have e1 := mul_pn b h3
      have e2 := mul_nn a h5
      omega
    · have e1 := mul_gl (Int.le_of_lt b) h1
      have e2 := mul_gg a (Int.le_of_lt h4)
      rcases Int.lt_or_eq_of_le h1 with z | z
      · have e3 := mul_pn b z
        omega
      · rcases Int.lt_or_eq_of_le a with y | y
        · have e4 := mul_pp y h4
          omega
        · subst z; subst y
          simp only [Int.zero_mul, Int.mul_zero] at hal hbe
          have e5 := mul_pn b h3
          omega
omit hbe in
/-- Out of the strip to above m. -/
theorem case12 (h1 : 0 < ap) (h2 : am ≤ 0) (h4 : 0 < bp) (h5 : 0 < bm) (hA : A ≠ 0) : (mu < 0 ↔ 0 < A) ∧ (0 < mu ↔ A < 0) := by
  have sa := sg_neg hY hal
  have sm := sg_neg hY hmu
  have mx := mix_sg hmix hD hP
  unfold NoX at hx
  rcases Int.lt_or_gt_of_ne hA with a | a
  · rcases Int.lt_or_le 0 B with b | b
    · have e1 := mul_pp b h1
      have e2 := mul_np a h4
      have : 0 < al := by omega
      have : 0 ≤ be := by omega
      have := mx.2.2.1 (by omega) this
      omega
    · have e1 := mul_ll b h2
      have e2 := mul_np a h5
      omega
  · rcases Int.lt_or_le B 0 with b | b
    · have e1 := mul_np b h1
      have e2 := mul_pp a h4
      have : al < 0 := by omega
      have : be ≤ 0 := by omega
      have := mx.1 (by omega) this
      omega
    · have e1 := mul_gl b h2
      have e2 := mul_pp a h5
      omega
omit hmu hmix hD hP in
/-- Within the strip. -/
theorem case11 (h1 : 0 < ap) (h3 : aq < 0) (h4 : 0 < bp) (h5 : bq < 0) (hA : A ≠ 0) (hB : B ≠ 0) : (0 < A ↔ 0 < B) := by
  have sa := sg_neg hY hal
  have sb := sg_neg hY hbe
  unfold NoX at hx
  rcases Int.lt_or_gt_of_ne hA with a | a <;> rcases Int.lt_or_gt_of_ne hB with b | b
  · omega
  · have e1 := mul_pp b h1
    have e2 := mul_np a h4
    have e3 := mul_pn b h3
    have e4 := mul_nn a h5
    omega
  · have e1 := mul_np b h1
    have e2 := mul_pp a h4
    have e3 := mul_nn b h3
    have e4 := mul_pn a h5
    omega
  · omega
end
/-- Half way. -/
def midP (p q : Pt) : Pt := ⟨p.x * q.d + q.x * p.d, p.y * q.d + q.y * p.d, 2 * p.d * q.d⟩
theorem mid_det (a b p q : Pt) : detM a b (midP p q) = q.d * detM a b p + p.d * detM a b q := by unfold detM midP; grind
theorem mid_yv (p q v : Pt) : yv (midP p q) v = q.d * yv p v + p.d * yv q v := by unfold yv midP; grind
theorem mid_xv (p q v : Pt) : xv (midP p q) v = q.d * xv p v + p.d * xv q v := by unfold xv midP; grind
theorem sh_mid (K : Int) (p q : Pt) : shP K (midP p q) = midP (shP K p) (shP K q) := by
  unfold shP midP; simp only [Pt.mk.injEq, true_and, and_true]; grind
theorem neg2_neg (s t : Int) : neg2 (-s) (-t) ↔ pos2 s t := by unfold neg2 pos2; omega
theorem pos2_neg (s t : Int) : pos2 (-s) (-t) ↔ neg2 s t := by unfold neg2 pos2; omega

/-- Does the edge lie over the piece from p to q, close to p? -/
def ovL (p q a b : Pt) : Bool := (!befB p a && befB p b && decide (neg2 (detM a b p) (detM a b q))) || (befB p a && !befB p b && decide (pos2 (detM a b p) (detM a b q)))
/-- To the left of the first half of the piece. -/
def gB (p q v : Pt) : Bool := befB p v && !befB (midP p q) v && decide (0 < detM p q v)

theorem bnd7 (x1 x2 x3 x4 x5 x6 x7 : Int) : ∃ K : Int, (-K < x1 ∧ x1 < K) ∧ (-K < x2 ∧ x2 < K) ∧ (-K < x3 ∧ x3 < K) ∧ (-K < x4 ∧ x4 < K) ∧ (-K < x5 ∧ x5 < K) ∧ (-K < x6 ∧ x6 < K) ∧ (-K < x7 ∧ x7 < K) :=
  ⟨x1.natAbs + x2.natAbs + x3.natAbs + x4.natAbs + x5.natAbs + x6.natAbs + x7.natAbs + 1, by omega⟩

theorem strip_edge {p q a b : Pt} (hp : 0 < p.d) (hq : 0 < q.d) (ha : 0 < a.d) (hb : 0 < b.d) (hpq : befB p q = true)
    (fa : befB p a = true → befB a q = true → detM p q a ≠ 0) (fb : befB p b = true → befB b q = true → detM p q b ≠ 0) (hx : crossB p q a b = false) :
    (ovL p q a b ^^ overB (midP p q) a b) = (gB p q a ^^ gB p q b) := by
  obtain ⟨K, k1, k2, k3, k4, k5, k6, k7⟩ := bnd7 (yv p a) (yv p b) (yv p q) (yv q a) (yv q b) (yv (midP p q) a) (yv (midP p q) b)
  have sw : ∀ u v, yv u v = -yv v u := fun u v => by unfold yv; grind
  have u1 := sh_up k1.1 k1.2
  have u2 := sh_up k2.1 k2.2
  have u3 := sh_up k3.1 k3.2
  have u4 : upB false (shP K a) (shP K q) = befB a q := sh_up (by have := sw a q; omega) (by have := sw a q; omega)
  have u5 : upB false (shP K b) (shP K q) = befB b q := sh_up (by have := sw b q; omega) (by have := sw b q; omega)
  have u6 := sh_up k6.1 k6.2
  have u7 := sh_up k7.1 k7.2
  have upd : ∀ u v, upB false u v = decide (0 < yv u v) := fun u v => by unfold upB; simp
  rw [upd] at u1 u2 u3 u4 u5 u6 u7
  have ep : (shP K p).d = p.d := rfl
  have eq : (shP K q).d = q.d := rfl
  have ea : (shP K a).d = a.d := rfl
  have eb : (shP K b).d = b.d := rfl
  have I1 := id1 (shP K q) (shP K p) (shP K a) (shP K b)
  have I2 := id2 (shP K q) (shP K p) (shP K a) (shP K b)
  rw [sh_det, sh_det, sh_det, det_sw p q a, det_sw p q b] at I1 I2
  have J1 : (shP K p).d * yv (shP K q) (shP K a) = (shP K q).d * yv (shP K p) (shP K a) - (shP K a).d * yv (shP K p) (shP K q) := by unfold yv; grind
  have J2 : (shP K p).d * yv (shP K q) (shP K b) = (shP K q).d * yv (shP K p) (shP K b) - (shP K b).d * yv (shP K p) (shP K q) := by unfold yv; grind
  have M1 := mid_yv (shP K p) (shP K q) (shP K a)
  have M2 := mid_yv (shP K p) (shP K q) (shP K b)
  rw [← sh_mid] at M1 M2
  have sq1 := sw (shP K a) (shP K q)
  have sq2 := sw (shP K b) (shP K q)
  rw [sq1] at u4
  rw [sq2] at u5
  have mix := mid_det a b p q
  unfold ovL gB overB
  have hxx : NoX (detM p q a) (detM p q b) (detM a b p) (detM a b q) := by
    unfold NoX
    intro h
    have : crossB p q a b = true := by
      unfold crossB apartB
      simp only [Bool.and_eq_true, Bool.or_eq_true, decide_eq_true_eq]
      omega
    rw [hx] at this; cases this
  rw [ep, eq, ea] at J1
  rw [ep, eq, eb] at J2
  rw [ep, eq] at M1 M2
  have hY : 0 < yv (shP K p) (shP K q) := by rw [hpq] at u3; exact of_decide_eq_true u3
  rw [← u1] at fa ⊢
  rw [← u2] at fb ⊢
  rw [← u4] at fa
  rw [← u5] at fb
  rw [← u6, ← u7]
  generalize detM p q a = A at *
  generalize detM p q b = B at *
  generalize detM a b p = al at *
  generalize detM a b q = be at *
  generalize detM a b (midP p q) = mu at *
  generalize yv (shP K p) (shP K q) = Y at *
  generalize yv (shP K p) (shP K a) = ap at *
  generalize yv (shP K p) (shP K b) = bp at *
  generalize yv (shP K q) (shP K a) = aq at *
  generalize yv (shP K q) (shP K b) = bq at *
  generalize yv (shP K (midP p q)) (shP K a) = am at *
  generalize yv (shP K (midP p q)) (shP K b) = bm at *
  simp only [decide_eq_true_eq] at fa fb
  clear u1 u2 u3 u4 u5 u6 u7 sq1 sq2 k1 k2 k3 k4 k5 k6 k7 upd sw ep eq ea eb hx hpq
  have hal : Y * al = B * ap - A * bp := by rw [I1]; grind
  have hbe : Y * be = B * aq - A * bq := by rw [I2]; grind
  have hmu : Y * mu = B * am - A * bm := by
    rw [mix, M1, M2]
    have e : Y * (q.d * al + p.d * be) = q.d * (Y * al) + p.d * (Y * be) := by grind
    rw [e, hal, hbe]; grind
  clear I1 I2
  -- the order of heights
  have oa : (ap ≤ 0 → am < 0) ∧ (am ≤ 0 → aq < 0) := by
    have t := mul_pp ha hY
    have M1' : am = 2 * (q.d * ap) - a.d * Y := by rw [M1, J1]; omega
    refine ⟨fun h => ?_, fun h => ?_⟩
    · have := mul_gl (Int.le_of_lt hq) h; omega
    · rcases Int.lt_or_le aq 0 with c | c
      · exact c
      · have := mul_gg (Int.le_of_lt hp) c; omega
  have ob : (bp ≤ 0 → bm < 0) ∧ (bm ≤ 0 → bq < 0) := by
    have t := mul_pp hb hY
    have M2' : bm = 2 * (q.d * bp) - b.d * Y := by rw [M2, J2]; omega
    refine ⟨fun h => ?_, fun h => ?_⟩
    · have := mul_gl (Int.le_of_lt hq) h; omega
    · rcases Int.lt_or_le bq 0 with c | c
      · exact c
      · have := mul_gg (Int.le_of_lt hp) c; omega
  clear M1 M2 J1 J2
  have hal' : Y * (-al) = A * bp - B * ap := by rw [Int.mul_neg, hal]; omega
  have hbe' : Y * (-be) = A * bq - B * aq := by rw [Int.mul_neg, hbe]; omega
  have hmu' : Y * (-mu) = A * bm - B * am := by rw [Int.mul_neg, hmu]; omega
  have mix' : -mu = q.d * (-al) + p.d * (-be) := by rw [mix, Int.mul_neg, Int.mul_neg]; omega
  have hxx' : NoX B A (-al) (-be) := by unfold NoX at hxx ⊢; omega
  have T : ∀ {c : Prop} [Decidable c], c → decide c = true := fun h => decide_eq_true h
  have F : ∀ {c : Prop} [Decidable c], ¬ c → decide c = false := fun h => decide_eq_false h
  by_cases a1 : 0 < ap
  · by_cases a2 : 0 < am
    · -- a above m
      by_cases b1 : 0 < bp
      · by_cases b2 : 0 < bm
        · rw [T a1, T a2, T b1, T b2]; simp
        · -- b in the strip, a above
          have c := case12 hY hal' hmu' mix' hq hp hxx' b1 (by omega) a1 a2 (fb b1 (by have := ob.2 (by omega); omega))
          rw [T a1, T a2, T b1, F b2]
          have e : decide (0 < mu) = decide (0 < B) := decide_eq_decide.2 (by have := c.1; omega)
          rw [e]; simp
      · have h2 := ob.1 (by omega)
        have h3 := ob.2 (by omega)
        have c := case02 hY hal' hbe' hmu' mix' hq hp hxx' (by omega) h2 h3 a1 a2
        rw [T a1, T a2, F b1, F (by omega : ¬ 0 < bm)]
        have e : decide (pos2 al be) = decide (0 < mu) := decide_eq_decide.2 (by have := c.1; rw [neg2_neg] at this; rw [this]; omega)
        rw [e]; simp
    · have hq1 := oa.2 (by omega)
      have hA := fa a1 (by omega)
      by_cases b1 : 0 < bp
      · by_cases b2 : 0 < bm
        · have c := case12 hY hal hmu mix hq hp hxx a1 (by omega) b1 b2 hA
          rw [T a1, F a2, T b1, T b2]
          have e : decide (mu < 0) = decide (0 < A) := decide_eq_decide.2 c.1
          rw [e]; simp
        · have hq2 := ob.2 (by omega)
          have hB := fb b1 (by omega)
          have c := case11 hY hal hbe hxx a1 hq1 b1 hq2 hA hB
          rw [T a1, F a2, T b1, F b2]
          have e : decide (0 < A) = decide (0 < B) := decide_eq_decide.2 c
          rw [e]; simp
      · have h2 := ob.1 (by omega)
        have h3 := ob.2 (by omega)
        have c := case01 hY hal' hbe' hxx' (by omega) h3 a1 hq1 hA
        rw [T a1, F a2, F b1, F (by omega : ¬ 0 < bm)]
        have e : decide (pos2 al be) = decide (0 < A) := decide_eq_decide.2 (by have := c.1; rw [neg2_neg] at this; exact this)
        rw [e]; simp
  · have h2 := oa.1 (by omega)
    have h3 := oa.2 (by omega)
    by_cases b1 : 0 < bp
    · by_cases b2 : 0 < bm
      · have c := case02 hY hal hbe hmu mix hq hp hxx (by omega) h2 h3 b1 b2
        rw [F a1, F (by omega : ¬ 0 < am), T b1, T b2]
        have e : decide (neg2 al be) = decide (mu < 0) := decide_eq_decide.2 c.1
        rw [e]; simp
      · have hq2 := ob.2 (by omega)
        have hB := fb b1 (by omega)
        have c := case01 hY hal hbe hxx (by omega) h3 b1 hq2 hB
        rw [F a1, F (by omega : ¬ 0 < am), T b1, F b2]
        have e : decide (neg2 al be) = decide (0 < B) := decide_eq_decide.2 c.1
        rw [e]; simp
    · have g2 := ob.1 (by omega)
      rw [F a1, F (by omega : ¬ 0 < am), F b1, F (by omega : ¬ 0 < bm)]; simp
theorem cmpB (p q : Pt) : decide (cmpM p q < 0) = befB p q := by
  unfold cmpM befB
  by_cases h : p.x * q.d = q.x * p.d
  · rw [if_neg (by omega), if_neg (by simpa using h)]; congr 1; exact propext (by omega)
  · rw [if_pos (by omega), if_pos (by simpa using h)]; congr 1; exact propext (by omega)
theorem cmpB' (p q : Pt) : decide (0 < cmpM p q) = befB q p := by
  unfold cmpM befB
  by_cases h : p.x * q.d = q.x * p.d
  · rw [if_neg (by omega), if_neg (by simpa using h.symm)]; congr 1; exact propext (by omega)
  · rw [if_pos (by omega), if_pos (by simpa using fun e => h e.symm)]; congr 1; exact propext (by omega)
theorem first_eq (a b : Pt) : firstM a b = if befB b a = true then b else a := by
  unfold firstM; rw [← cmpB]; simp
theorem last_eq (a b : Pt) : lastM a b = if befB a b = true then b else a := by
  unfold lastM; rw [← cmpB']; simp
theorem bef_irr (p : Pt) : befB p p = false := by rw [bef_false]; omega
theorem bef_asym {p q : Pt} (h : befB p q = true) : befB q p = false := by
  rw [bef_iff] at h; rw [bef_false]; omega
section
variable {a b q : Pt} (ha : 0 < a.d) (hb : 0 < b.d) (hq : 0 < q.d)
include ha hb hq
/-- Of one place: neither is ahead. -/
theorem bef_same_r (h1 : befB a b = false) (h2 : befB b a = false) : befB q a = befB q b := by
  cases k : befB q a
  · cases k2 : befB q b
    · rfl
    · have := bef_le hq hb ha k2 h1; rw [k] at this; cases this
  · exact (bef_le hq ha hb k h2).symm
theorem bef_same_l (h1 : befB a b = false) (h2 : befB b a = false) : befB a q = befB b q := by
  cases k : befB a q
  · cases k2 : befB b q
    · rfl
    · have := le_bef ha hb hq h2 k2; rw [k] at this; cases this
  · exact (le_bef hb ha hq h1 k).symm
theorem bef_lt (h : befB a b = true) (h2 : befB q a = true) : befB q b = true := bef_le hq ha hb h2 (bef_asym h)
theorem has_on : hasM a b q = onB q a b := by
  unfold hasM onB withB sideM loM hiM
  rw [cmpB, cmpB']
  by_cases h : befB b a = true
  · have h' := bef_asym h
    rw [first_eq, last_eq, if_pos h, if_neg (by rw [h']; decide), if_pos h]
    have e : decide (detM b a q = 0) = decide (detM a b q = 0) := by rw [det_sw2]; congr 1; exact propext (by omega)
    rw [e]
    cases befB q b <;> cases befB a q <;> cases decide (detM a b q = 0) <;> rfl
  · have h0 : befB b a = false := by simpa using h
    by_cases h2 : befB a b = true
    · rw [first_eq, last_eq, if_neg h, if_pos h2, if_neg h]
      cases befB q a <;> cases befB b q <;> cases decide (detM a b q = 0) <;> rfl
    · have h2' : befB a b = false := by simpa using h2
      rw [first_eq, last_eq, if_neg h, if_neg h2, if_neg h]
      have e1 := bef_same_l ha hb hq h2' h0
      rw [e1]
      -- of one place: the determinant is 0 at both
      have z1 : detM a a q = 0 := by unfold detM; grind
      have z2 : detM a b q = 0 := by
        rw [bef_false] at h0 h2'
        have ex : a.x * b.d = b.x * a.d := by omega
        have ey : a.y * b.d = b.y * a.d := by omega
        have k : a.d * detM a b q = 0 := by
          have : a.d * detM a b q = (a.x * b.d - b.x * a.d) * (a.d * q.y) * (-1) + (a.y * b.d - b.y * a.d) * (a.d * q.x) + (a.x * (b.y * a.d) - a.y * (b.x * a.d)) * q.d := by unfold detM; grind
          rw [this, ← ex, ← ey]
          grind
        rcases Int.mul_eq_zero.1 k with c | c
        · omega
        · exact c
      rw [z1, z2]
      cases befB q a <;> cases befB b q <;> rfl
theorem over_eq : overM a b q = overB q a b := by
  unfold overM spanM sideM overB
  rw [cmpB, cmpB]
  by_cases h : befB b a = true
  · have h' := bef_asym h
    rw [first_eq, last_eq, if_pos h, if_neg (by rw [h']; decide)]
    have e : decide (detM b a q < 0) = decide (0 < detM a b q) := by rw [det_sw2]; congr 1; exact propext (by omega)
    rw [e]
    have m := fun k => bef_lt hb ha hq h (q := q) k
    cases ka : befB q a <;> cases kb : befB q b
    · simp
    · have := m kb; rw [ka] at this; cases this
    · simp
    · simp
  · have h0 : befB b a = false := by simpa using h
    by_cases h2 : befB a b = true
    · rw [first_eq, last_eq, if_neg h, if_pos h2]
      have m := fun k => bef_lt ha hb hq h2 (q := q) k
      cases ka : befB q a <;> cases kb : befB q b
      · simp
      · simp
      · have := m ka; rw [kb] at this; cases this
      · simp
    · have h2' : befB a b = false := by simpa using h2
      rw [first_eq, last_eq, if_neg h, if_neg h2, bef_same_r ha hb hq h2' h0]
      cases befB q b <;> simp
end

theorem whereM_eq (q : Pt) : ∀ (E : List (Pt × Pt)) (n : Int), n = 0 ∨ n = 1 → E.any (fun e => hasM e.1 e.2 q) = false → whereM q n E = if (parB (fun a b => overM a b q) E ^^ decide (n = 1)) = true then 1 else 0
  | [], n, hn, _ => by rcases hn with rfl | rfl <;> rfl
  | e :: E, n, hn, h => by
    simp only [List.any_cons, Bool.or_eq_false_iff] at h
    have ew : whereM q n (e :: E) = if hasM e.1 e.2 q = true then 2 else whereM q (if overM e.1 e.2 q = true then otherM n else n) E := rfl
    have ep : parB (fun a b => overM a b q) (e :: E) = (overM e.1 e.2 q ^^ parB (fun a b => overM a b q) E) := rfl
    rw [ew, ep, if_neg (by rw [h.1]; decide)]
    by_cases ho : overM e.1 e.2 q = true
    case neg =>
      have ho' : overM e.1 e.2 q = false := by simpa using ho
      rw [if_neg ho, ho', whereM_eq q E n hn h.2, Bool.false_xor]
    case pos =>
      rw [if_pos ho, ho, whereM_eq q E (otherM n) (by rcases hn with rfl | rfl <;> simp [otherM]) h.2, Bool.true_xor]
      rcases hn with rfl | rfl
      · have : otherM 0 = 1 := rfl
        rw [this]; cases parB (fun a b => overM a b q) E <;> rfl
      · have : otherM 1 = 0 := rfl
        rw [this]; cases parB (fun a b => overM a b q) E <;> rfl
theorem whereM_two (q : Pt) : ∀ (E : List (Pt × Pt)) (n : Int), E.any (fun e => hasM e.1 e.2 q) = true → whereM q n E = 2
  | [], n, h => by simp at h
  | e :: E, n, h => by
    simp only [whereM]
    split
    · rfl
    · rename_i k
      exact whereM_two q E _ (by simpa [k] using h)

/-- If each of fewer than there are places bars one at most, one is free. -/
theorem pigeon : ∀ (L : List (Nat → Bool)) (S : List Nat), S.Nodup → (∀ b ∈ L, ∀ i j, b i = true → b j = true → i = j) → L.length < S.length → ∃ k ∈ S, ∀ b ∈ L, b k = false
  | [], S, _, _, h => by
    cases S with
    | nil => simp at h
    | cons k S => exact ⟨k, List.mem_cons_self .., fun b hb => by cases hb⟩
  | b :: L, S, hS, hb, h => by
    have hc : S.countP b ≤ 1 := by
      clear h
      induction S with
      | nil => simp
      | cons x S ih =>
        rw [List.countP_cons]
        have hx := List.nodup_cons.1 hS
        cases hbx : b x
        · simpa using ih hx.2
        · have z : S.countP b = 0 := by
            rw [List.countP_eq_zero]
            intro y hy k
            have := hb b (List.mem_cons_self ..) x y hbx k
            subst this
            exact hx.1 hy
          simp [z]
    have hl : (S.filter (fun k => !b k)).length + S.countP b = S.length := by
      rw [← List.countP_eq_length_filter, Nat.add_comm]
      have := List.length_eq_countP_add_countP b (l := S)
      simp only [Bool.not_eq_true] at this
      have e : S.countP (fun k => !b k) = S.countP (fun a => decide (b a = false)) := by
        congr 1; funext k; cases b k <;> rfl
      rw [e]; omega
    obtain ⟨k, hk, hf⟩ := pigeon L (S.filter (fun k => !b k)) (hS.filter _) (fun c hc => hb c (List.mem_cons_of_mem _ hc)) (by simp only [List.length_cons] at h; omega)
    obtain ⟨hk1, hk2⟩ := List.mem_filter.1 hk
    refine ⟨k, hk1, fun c hc => ?_⟩
    rcases List.mem_cons.1 hc with rfl | hc
    · simpa using hk2
    · exact hf c hc
theorem farL_free (f : Nat → Bool) : ∀ n k, (∃ j, k ≤ j ∧ j < k + n ∧ f j = true) → ∃ j, f j = true ∧ farL f n k = outP j
  | 0, k, ⟨j, h1, h2, _⟩ => by omega
  | n + 1, k, ⟨j, h1, h2, h3⟩ => by
    unfold farL
    cases hk : f k
    · rw [if_neg (by decide)]
      have : j ≠ k := fun e => by rw [e, hk] at h3; cases h3
      exact farL_free f n (k + 1) ⟨j, by omega, by omega, h3⟩
    · exact ⟨k, hk, rfl⟩

/-- q is in bounds. -/
theorem out_xv {q : Pt} (k : Nat) (h : goodB q = true) : 0 < xv (outP k) q ∧ xv q (outP k) < 0 := by
  have := of_decide_eq_true h
  unfold xv outP; simp only [Int.mul_one]; constructor <;> omega
theorem det_out (k : Nat) (q v : Pt) : detM (outP k) q v = detM (outP 0) q v + k * xv q v := by
  unfold detM outP xv; simp only [Int.natCast_zero]; grind
/-- A point that is another place than q bars one k at most. -/
theorem bar_one {q v : Pt} (hq : goodB q = true) (hv : 0 < v.d) (hne : ¬ (xv q v = 0 ∧ yv q v = 0)) (i j : Nat) (h1 : detM (outP i) q v = 0) (h2 : detM (outP j) q v = 0) : i = j := by
  have hd : 0 < q.d := by have := of_decide_eq_true hq; omega
  by_cases hx : xv q v = 0
  · exfalso
    have e := id5 (outP i) q v
    rw [h1, hx, Int.mul_zero, Int.mul_zero, Int.zero_sub] at e
    have o := (out_xv i hq).2
    have z : xv q (outP i) * yv q v = 0 := by omega
    rcases Int.mul_eq_zero.1 z with c | c
    · omega
    · exact hne ⟨hx, c⟩
  · rw [det_out] at h1 h2
    have z : ((i : Int) - j) * xv q v = 0 := by rw [Int.sub_mul]; omega
    rcases Int.mul_eq_zero.1 z with c | c
    · omega
    · exact absurd c hx
theorem bar_edge {p r : Pt} (hx : xv p r ≠ 0) (i j : Nat) (h1 : detM p r (outP i) = 0) (h2 : detM p r (outP j) = 0) : i = j := by
  have e : ∀ k : Nat, detM p r (outP k) = detM p r (outP 0) + k * xv p r := fun k => by
    unfold detM outP xv; simp only [Int.natCast_zero]; grind
  rw [e] at h1 h2
  have z : ((i : Int) - j) * xv p r = 0 := by rw [Int.sub_mul]; omega
  rcases Int.mul_eq_zero.1 z with c | c
  · omega
  · exact absurd c hx
/-- The place far outside is free. -/
theorem far_free {q : Pt} {l : List Pt} {p r : Pt} (hq : goodB q = true) (hv : ∀ v ∈ l, 0 < v.d) (hne : ∀ v ∈ l, ¬ (xv q v = 0 ∧ yv q v = 0)) (hx : xv p r ≠ 0) :
    ∃ k, farM q l p r = outP k ∧ (∀ v ∈ l, detM (outP k) q v ≠ 0) ∧ detM p r (outP k) ≠ 0 := by
  obtain ⟨k, hk, hf⟩ := pigeon ((fun k => decide (detM p r (outP k) = 0)) :: l.map (fun v k => decide (detM (outP k) q v = 0))) (List.range (l.length + 2)) List.nodup_range (by
    intro b hb i j h1 h2
    rcases List.mem_cons.1 hb with rfl | hb
    · exact bar_edge hx i j (of_decide_eq_true h1) (of_decide_eq_true h2)
    · obtain ⟨v, hv', rfl⟩ := List.mem_map.1 hb
      exact bar_one hq (hv v hv') (hne v hv') i j (of_decide_eq_true h1) (of_decide_eq_true h2)) (by simp)
  have hk' : k < l.length + 2 := by simpa using hk
  have fr : freeB q l p r k = true := by
    unfold freeB
    rw [Bool.and_eq_true, List.all_eq_true]
    refine ⟨fun v hv' => ?_, ?_⟩
    · have := hf _ (List.mem_cons_of_mem _ (List.mem_map.2 ⟨v, hv', rfl⟩))
      exact decide_eq_true (of_decide_eq_false this)
    · have := hf _ (List.mem_cons_self ..)
      exact decide_eq_true (of_decide_eq_false this)
  obtain ⟨j, hj, e⟩ := farL_free (freeB q l p r) (l.length + 2) 0 ⟨k, Nat.zero_le _, by omega, fr⟩
  refine ⟨j, e, ?_⟩
  unfold freeB at hj
  rw [Bool.and_eq_true, List.all_eq_true] at hj
  exact ⟨fun v hv' => of_decide_eq_true (hj.1 v hv'), of_decide_eq_true hj.2⟩
theorem on_first {q a b : Pt} (ha : 0 < a.d) (hb : 0 < b.d) (hq : 0 < q.d) (h1 : xv q a = 0) (h2 : yv q a = 0) : onB q a b = true := by
  have b1 : befB q a = false := by rw [bef_x]; omega
  have b2 : befB a q = false := by rw [bef_x']; omega
  have z : detM a b q = 0 := by
    have e := id4 q a b
    rw [h1, h2, Int.zero_mul, Int.mul_zero, Int.sub_zero] at e
    rcases Int.mul_eq_zero.1 e with c | c
    · omega
    · exact c
  unfold onB
  rw [z]
  cases k : befB q b
  · -- q is not ahead of b: it lies between b and a
    rw [with_ba hq ha hb k b2]; rfl
  · have b3 : befB b q = false := bef_asym k
    rw [with_ab hq ha hb b1 b3]; rfl
end Go.Proofs.Ytnkcbephceollab
