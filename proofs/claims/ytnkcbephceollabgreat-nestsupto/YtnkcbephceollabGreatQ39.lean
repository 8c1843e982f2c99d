import Derived.Test.YtnkcbephceollabGreatQ38
namespace Go.Proofs.YtnkcbephceollabGreat
set_option linter.unusedSimpArgs false
set_option linter.unusedVariables false

/-! Any place within a piece, where G7 to G10 have the one half way. -/
def cmb (D P : Int) (p q : Pt) : Pt := ⟨D * p.x + P * q.x, D * p.y + P * q.y, D * p.d + P * q.d⟩
theorem cmb_det (D P : Int) (a b p q : Pt) : detM a b (cmb D P p q) = D * detM a b p + P * detM a b q := by unfold detM cmb; grind
theorem cmb_yv (D P : Int) (p q v : Pt) : yv (cmb D P p q) v = D * yv p v + P * yv q v := by unfold yv cmb; grind
theorem sh_cmb (K D P : Int) (p q : Pt) : shP K (cmb D P p q) = cmb D P (shP K p) (shP K q) := by
  unfold shP cmb; simp only [Pt.mk.injEq, true_and, and_true]; grind
theorem cmb_pos {D P : Int} {p q : Pt} (hD : 0 < D) (hP : 0 < P) (hp : 0 < p.d) (hq : 0 < q.d) : 0 < (cmb D P p q).d := by
  have := mul_pp hD hp
  have := mul_pp hP hq
  show 0 < D * p.d + P * q.d
  omega
theorem bef_cmb {D P : Int} {p q : Pt} (hD : 0 < D) (hP : 0 < P) (h : befB p q = true) : befB p (cmb D P p q) = true ∧ befB (cmb D P p q) q = true := by
  have z1 : xv p (cmb D P p q) = P * xv p q := by unfold xv cmb; grind
  have z2 : yv p (cmb D P p q) = P * yv p q := by unfold yv cmb; grind
  have z3 : xv (cmb D P p q) q = D * xv p q := by unfold xv cmb; grind
  have z4 : yv (cmb D P p q) q = D * yv p q := by unfold yv cmb; grind
  have key : ∀ u v : Pt, befB u v = true ↔ (0 < xv u v ∨ (xv u v = 0 ∧ 0 < yv u v)) := fun u v => by rw [bef_iff]; unfold xv yv; omega
  rw [key] at h
  rw [key, key, z1, z2, z3, z4]
  rcases h with h | ⟨h1, h2⟩
  · exact ⟨.inl (mul_pp hP h), .inl (mul_pp hD h)⟩
  · rw [h1, Int.mul_zero, Int.mul_zero]
    exact ⟨.inr ⟨rfl, mul_pp hP h2⟩, .inr ⟨rfl, mul_pp hD h2⟩⟩
def gBc (D P : Int) (p q v : Pt) : Bool := befB p v && !befB (cmb D P p q) v && decide (0 < detM p q v)
theorem strip_c {D P : Int} (hD : 0 < D) (hP : 0 < P) {p q a b : Pt} (hp : 0 < p.d) (hq : 0 < q.d) (ha : 0 < a.d) (hb : 0 < b.d) (hpq : befB p q = true)
    (fa : befB p a = true → befB a q = true → detM p q a ≠ 0) (fb : befB p b = true → befB b q = true → detM p q b ≠ 0) (hx : crossB p q a b = false) :
    (ovL p q a b ^^ overB (cmb D P p q) a b) = (gBc D P p q a ^^ gBc D P p q b) := by
  obtain ⟨K, k1, k2, k3, k4, k5, k6, k7⟩ := bnd7 (yv p a) (yv p b) (yv p q) (yv q a) (yv q b) (yv (cmb D P p q) a) (yv (cmb D P p q) b)
  have sw : ∀ u v, yv u v = -yv v u := fun u v => by unfold yv; grind
  have u1 := sh_up k1.1 k1.2
  have u2 := sh_up k2.1 k2.2
  have u3 := sh_up k3.1 k3.2
  have u4 : upB false (shP K a) (shP K q) = befB a q := sh_up (by have := sw a q; omega) (by have := sw a q; omega)
  have u5 : upB false (shP K b) (shP K q) = befB b q := sh_up (by have := sw b q; omega) (by have := sw b q; omega)
  have u6 := sh_up k6.1 k6.2
  have u7 := sh_up k7.1 k7.2
  have upd : ∀ u v, upB false u v = decide (0 < yv u v) := fun u v => by unfold upB; simp
  rw [upd] at u1 u2 u3 u4 u5 u6 u7
  have ep : (shP K p).d = p.d := rfl
  have eq : (shP K q).d = q.d := rfl
  have ea : (shP K a).d = a.d := rfl
  have eb : (shP K b).d = b.d := rfl
  have I1 := id1 (shP K q) (shP K p) (shP K a) (shP K b)
  have I2 := id2 (shP K q) (shP K p) (shP K a) (shP K b)
  rw [sh_det, sh_det, sh_det, det_sw p q a, det_sw p q b] at I1 I2
  have J1 : (shP K p).d * yv (shP K q) (shP K a) = (shP K q).d * yv (shP K p) (shP K a) - (shP K a).d * yv (shP K p) (shP K q) := by unfold yv; grind
  have J2 : (shP K p).d * yv (shP K q) (shP K b) = (shP K q).d * yv (shP K p) (shP K b) - (shP K b).d * yv (shP K p) (shP K q) := by unfold yv; grind
  have M1 := cmb_yv D P (shP K p) (shP K q) (shP K a)
  have M2 := cmb_yv D P (shP K p) (shP K q) (shP K b)
  rw [← sh_cmb] at M1 M2
  have sq1 := sw (shP K a) (shP K q)
  have sq2 := sw (shP K b) (shP K q)
  rw [sq1] at u4
  rw [sq2] at u5
  have mix := cmb_det D P a b p q
  unfold ovL gBc overB
  have hxx : NoX (detM p q a) (detM p q b) (detM a b p) (detM a b q) := by
    unfold NoX
    intro h
    have : crossB p q a b = true := by
      unfold crossB apartB
      simp only [Bool.and_eq_true, Bool.or_eq_true, decide_eq_true_eq]
      omega
    rw [hx] at this; cases this
  rw [ep, eq, ea] at J1
  rw [ep, eq, eb] at J2
  have hY : 0 < yv (shP K p) (shP K q) := by rw [hpq] at u3; exact of_decide_eq_true u3
  rw [← u1] at fa ⊢
  rw [← u2] at fb ⊢
  rw [← u4] at fa
  rw [← u5] at fb
  rw [← u6, ← u7]
  generalize detM p q a = A at *
  generalize detM p q b = B at *
  generalize detM a b p = al at *
  generalize detM a b q = be at *
  generalize detM a b (cmb D P p q) = mu at *
  generalize yv (shP K p) (shP K q) = Y at *
  generalize yv (shP K p) (shP K a) = ap at *
  generalize yv (shP K p) (shP K b) = bp at *
  generalize yv (shP K q) (shP K a) = aq at *
  generalize yv (shP K q) (shP K b) = bq at *
  generalize yv (shP K (cmb D P p q)) (shP K a) = am at *
  generalize yv (shP K (cmb D P p q)) (shP K b) = bm at *
  simp only [decide_eq_true_eq] at fa fb
  clear u1 u2 u3 u4 u5 u6 u7 sq1 sq2 k1 k2 k3 k4 k5 k6 k7 upd sw ep eq ea eb hx hpq
  have hal : Y * al = B * ap - A * bp := by rw [I1]; grind
  have hbe : Y * be = B * aq - A * bq := by rw [I2]; grind
  have hmu : Y * mu = B * am - A * bm := by
    rw [mix, M1, M2]
    have e : Y * (D * al + P * be) = D * (Y * al) + P * (Y * be) := by grind
    rw [e, hal, hbe]; grind
  clear I1 I2
  -- the order of heights
  have oa : (ap ≤ 0 → am < 0) ∧ (am ≤ 0 → aq < 0) := by
    have t := mul_pp ha hY
    refine ⟨fun h => ?_, fun h => ?_⟩
    · have u1 := mul_gl (Int.le_of_lt hq) h
      have u2 : aq < 0 := by
        rcases Int.lt_or_le aq 0 with c | c
        · exact c
        · have := mul_gg (Int.le_of_lt hp) c; omega
      have u3 := mul_gl (Int.le_of_lt hD) h
      have u4 := mul_pn hP u2
      omega
    · rcases Int.lt_or_le aq 0 with c | c
      · exact c
      · have u1 := mul_gg (Int.le_of_lt hp) c
        have u2 : 0 < ap := by
          rcases Int.lt_or_le 0 ap with k | k
          · exact k
          · have := mul_gl (Int.le_of_lt hq) k; omega
        have u3 := mul_pp hD u2
        have u4 := mul_gg (Int.le_of_lt hP) c
        omega
  have ob : (bp ≤ 0 → bm < 0) ∧ (bm ≤ 0 → bq < 0) := by
    have t := mul_pp hb hY
    refine ⟨fun h => ?_, fun h => ?_⟩
    · have u1 := mul_gl (Int.le_of_lt hq) h
      have u2 : bq < 0 := by
        rcases Int.lt_or_le bq 0 with c | c
        · exact c
        · have := mul_gg (Int.le_of_lt hp) c; omega
      have u3 := mul_gl (Int.le_of_lt hD) h
      have u4 := mul_pn hP u2
      omega
    · rcases Int.lt_or_le bq 0 with c | c
      · exact c
      · have u1 := mul_gg (Int.le_of_lt hp) c
        have u2 : 0 < bp := by
          rcases Int.lt_or_le 0 bp with k | k
          · exact k
          · have := mul_gl (Int.le_of_lt hq) k; omega
        have u3 := mul_pp hD u2
        have u4 := mul_gg (Int.le_of_lt hP) c
        omega
  clear M1 M2 J1 J2
  have hal' : Y * (-al) = A * bp - B * ap := by rw [Int.mul_neg, hal]; omega
  have hbe' : Y * (-be) = A * bq - B * aq := by rw [Int.mul_neg, hbe]; omega
  have hmu' : Y * (-mu) = A * bm - B * am := by rw [Int.mul_neg, hmu]; omega
  have mix' : -mu = D * (-al) + P * (-be) := by rw [mix, Int.mul_neg, Int.mul_neg]; omega
  have hxx' : NoX B A (-al) (-be) := by unfold NoX at hxx ⊢; omega
  have T : ∀ {c : Prop} [Decidable c], c → decide c = true := fun h => decide_eq_true h
  have F : ∀ {c : Prop} [Decidable c], ¬ c → decide c = false := fun h => decide_eq_false h
  by_cases a1 : 0 < ap
  · by_cases a2 : 0 < am
    · -- a above m
      by_cases b1 : 0 < bp
      · by_cases b2 : 0 < bm
        · rw [T a1, T a2, T b1, T b2]; simp
        · -- b in the strip, a above
          have c := case12 hY hal' hmu' mix' hD hP hxx' b1 (by omega) a1 a2 (fb b1 (by have := ob.2 (by omega); omega))
          rw [T a1, T a2, T b1, F b2]
          have e : decide (0 < mu) = decide (0 < B) := decide_eq_decide.2 (by have := c.1; omega)
          rw [e]; simp
      · have h2 := ob.1 (by omega)
        have h3 := ob.2 (by omega)
        have c := case02 hY hal' hbe' hmu' mix' hD hP hxx' (by omega) h2 h3 a1 a2
        rw [T a1, T a2, F b1, F (by omega : ¬ 0 < bm)]
        have e : decide (pos2 al be) = decide (0 < mu) := decide_eq_decide.2 (by have := c.1; rw [neg2_neg] at this; rw [this]; omega)
        rw [e]; simp
    · have hq1 := oa.2 (by omega)
      have hA := fa a1 (by omega)
      by_cases b1 : 0 < bp
      · by_cases b2 : 0 < bm
        · have c := case12 hY hal hmu mix hD hP hxx a1 (by omega) b1 b2 hA
          rw [T a1, F a2, T b1, T b2]
          have e : decide (mu < 0) = decide (0 < A) := decide_eq_decide.2 c.1
          rw [e]; simp
        · have hq2 := ob.2 (by omega)
          have hB := fb b1 (by omega)
          have c := case11 hY hal hbe hxx a1 hq1 b1 hq2 hA hB
          rw [T a1, F a2, T b1, F b2]
          have e : decide (0 < A) = decide (0 < B) := decide_eq_decide.2 c
          rw [e]; simp
      · have h2 := ob.1 (by omega)
        have h3 := ob.2 (by omega)
        have c := case01 hY hal' hbe' hxx' (by omega) h3 a1 hq1 hA
        rw [T a1, F a2, F b1, F (by omega : ¬ 0 < bm)]
        have e : decide (pos2 al be) = decide (0 < A) := decide_eq_decide.2 (by have := c.1; rw [neg2_neg] at this; exact this)
        rw [e]; simp
  · have h2 := oa.1 (by omega)
    have h3 := oa.2 (by omega)
    by_cases b1 : 0 < bp
    · by_cases b2 : 0 < bm
      · have c := case02 hY hal hbe hmu mix hD hP hxx (by omega) h2 h3 b1 b2
        rw [F a1, F (by omega : ¬ 0 < am), T b1, T b2]
        have e : decide (neg2 al be) = decide (mu < 0) := decide_eq_decide.2 c.1
        rw [e]; simp
      · have hq2 := ob.2 (by omega)
        have hB := fb b1 (by omega)
        have c := case01 hY hal hbe hxx (by omega) h3 b1 hq2 hB
        rw [F a1, F (by omega : ¬ 0 < am), T b1, F b2]
        have e : decide (neg2 al be) = decide (0 < B) := decide_eq_decide.2 c.1
        rw [e]; simp
    · have g2 := ob.1 (by omega)
      rw [F a1, F (by omega : ¬ 0 < am), F b1, F (by omega : ¬ 0 < bm)]; simp
/-- Close to p and anywhere within: the same. -/
theorem along_c {D P : Int} (hD : 0 < D) (hP : 0 < P) {Q : List (List Pt)} {p q : Pt} (hp : 0 < p.d) (hq : 0 < q.d) (hpq : befB p q = true) (hd : ∀ v ∈ Q.flatten, 0 < v.d) (hc : Clear Q p q) :
    parB (ovL p q) (edgesM Q) = parB (overB (cmb D P p q)) (edgesM Q) := by
  have h : parB (fun a b => ovL p q a b ^^ overB (cmb D P p q) a b) (edgesM Q) = parB (fun a b => gBc D P p q a ^^ gBc D P p q b) (edgesM Q) := parB_congr fun e he => by
    obtain ⟨m1, m2⟩ := edge_ends he
    exact strip_c hD hP hp hq (hd _ m1) (hd _ m2) hpq (hc.pt _ m1) (hc.pt _ m2) (hc.ed e he)
  rw [poly_even, parB_xor] at h
  revert h
  cases parB (ovL p q) (edgesM Q) <;> cases parB (overB (cmb D P p q)) (edgesM Q) <;> simp
section
variable {D P : Int} (hD : 0 < D) (hP : 0 < P) {p q a b : Pt} (hp : 0 < p.d) (hq : 0 < q.d) (ha : 0 < a.d) (hb : 0 < b.d) (hpq : befB p q = true) (hne : befB a b = true ∨ befB b a = true)
  (fa : befB p a = true → befB a q = true → detM p q a ≠ 0) (fb : befB p b = true → befB b q = true → detM p q b ≠ 0) (hx : crossB p q a b = false)
include hD hP hp hq ha hb hpq hne fa fb hx
/-- An edge through the piece's middle lies along the piece, over its whole length. -/
theorem along_in (hon : onB (cmb D P p q) a b = true) : (detM p q a = 0 ∧ detM p q b = 0) ∧ (detM a b p = 0 ∧ detM a b q = 0) ∧ ((befB p a = false ∧ befB b q = false) ∨ (befB p b = false ∧ befB a q = false)) := by
  have hm := cmb_pos hD hP hp hq
  obtain ⟨pm, mq⟩ := bef_cmb hD hP hpq
  obtain ⟨K, k1, k2, k3, k4, k5, k6, k7⟩ := bnd7 (yv p a) (yv p b) (yv p q) (yv a b) (yv q b) (yv (cmb D P p q) a) (yv (cmb D P p q) b)
  have sw : ∀ u v, yv u v = -yv v u := fun u v => by unfold yv; grind
  have upd : ∀ u v, upB false u v = decide (0 < yv u v) := fun u v => by unfold upB; simp
  have u3 := sh_up k3.1 k3.2
  have u6 := sh_up k6.1 k6.2
  have u7 := sh_up k7.1 k7.2
  have v6 := sh_up (K := K) (q := a) (v := cmb D P p q) (by have := sw a (cmb D P p q); omega) (by have := sw a (cmb D P p q); omega)
  have v7 := sh_up (K := K) (q := b) (v := cmb D P p q) (by have := sw b (cmb D P p q); omega) (by have := sw b (cmb D P p q); omega)
  rw [upd] at u3 u6 u7 v6 v7
  rw [sw (shP K a)] at v6
  rw [sw (shP K b)] at v7
  have hY : 0 < yv (shP K p) (shP K q) := by rw [hpq] at u3; exact of_decide_eq_true u3
  have hd : yv (shP K a) (shP K b) ≠ 0 := by
    intro e
    have e' := sw (shP K a) (shP K b)
    have w1 := sh_up k4.1 k4.2
    have w2 := sh_up (K := K) (q := b) (v := a) (by have := sw b a; omega) (by have := sw b a; omega)
    rw [upd] at w1 w2
    rcases hne with h | h
    · rw [h] at w1; have := of_decide_eq_true w1; omega
    · rw [h] at w2; have := of_decide_eq_true w2; omega
  have I1 := id1 (shP K q) (shP K p) (shP K a) (shP K b)
  have I2 := id2 (shP K q) (shP K p) (shP K a) (shP K b)
  rw [sh_det, sh_det, sh_det, det_sw p q a, det_sw p q b] at I1 I2
  have M1 := cmb_yv D P (shP K p) (shP K q) (shP K a)
  have M2 := cmb_yv D P (shP K p) (shP K q) (shP K b)
  rw [← sh_cmb] at M1 M2
  have mix := cmb_det D P a b p q
  have hmu : detM a b (cmb D P p q) = 0 := by unfold onB at hon; simp at hon; exact hon.1
  have hw : withB (cmb D P p q) a b = true := by unfold onB at hon; simp at hon; exact hon.2
  have J : (shP K (cmb D P p q)).d * yv (shP K a) (shP K b) = (shP K a).d * yv (shP K (cmb D P p q)) (shP K b) - (shP K b).d * yv (shP K (cmb D P p q)) (shP K a) := by unfold yv; grind
  -- heights: one not above, the other not below
  have lt : (yv (shP K (cmb D P p q)) (shP K a) ≤ 0 ∧ 0 ≤ yv (shP K (cmb D P p q)) (shP K b) ∧ befB (cmb D P p q) a = false ∧ befB b (cmb D P p q) = false) ∨ (0 ≤ yv (shP K (cmb D P p q)) (shP K a) ∧ yv (shP K (cmb D P p q)) (shP K b) ≤ 0 ∧ befB (cmb D P p q) b = false ∧ befB a (cmb D P p q) = false) := by
    unfold withB loM hiM at hw
    by_cases c : befB b a = true
    · simp only [if_pos c, Bool.and_eq_true, Bool.not_eq_true'] at hw
      refine .inr ⟨?_, ?_, hw.1, hw.2⟩
      · rw [hw.2] at v6; have := of_decide_eq_false v6; omega
      · rw [hw.1] at u7; have := of_decide_eq_false u7; omega
    · simp only [if_neg c, Bool.and_eq_true, Bool.not_eq_true'] at hw
      refine .inl ⟨?_, ?_, hw.1, hw.2⟩
      · rw [hw.1] at u6; have := of_decide_eq_false u6; omega
      · rw [hw.2] at v7; have := of_decide_eq_false v7; omega
  have hxx : NoX (detM p q a) (detM p q b) (detM a b p) (detM a b q) := by
    unfold NoX
    intro h
    have : crossB p q a b = true := by
      unfold crossB apartB
      simp only [Bool.and_eq_true, Bool.or_eq_true, decide_eq_true_eq]
      omega
    rw [hx] at this; cases this
  -- at the middle itself there is no point
  have pa : yv (shP K (cmb D P p q)) (shP K a) = 0 → detM p q a ≠ 0 := fun e => by
    have b1 : befB (cmb D P p q) a = false := by rw [← u6, e]; rfl
    have b2 : befB a (cmb D P p q) = false := by rw [← v6, e]; rfl
    exact fa (bef_le hp hm ha pm b2) (le_bef ha hm hq b1 mq)
  have pb : yv (shP K (cmb D P p q)) (shP K b) = 0 → detM p q b ≠ 0 := fun e => by
    have b1 : befB (cmb D P p q) b = false := by rw [← u7, e]; rfl
    have b2 : befB b (cmb D P p q) = false := by rw [← v7, e]; rfl
    exact fb (bef_le hp hm hb pm b2) (le_bef hb hm hq b1 mq)
  have hmu2 : yv (shP K p) (shP K q) * detM a b (cmb D P p q) = detM p q b * yv (shP K (cmb D P p q)) (shP K a) - detM p q a * yv (shP K (cmb D P p q)) (shP K b) := by
    rw [mix, M1, M2]
    have e : yv (shP K p) (shP K q) * (D * detM a b p + P * detM a b q) = D * (yv (shP K p) (shP K q) * detM a b p) + P * (yv (shP K p) (shP K q) * detM a b q) := by grind
    rw [e, I1, I2]; grind
  rw [hmu, Int.mul_zero] at hmu2
  -- both ends lie on the piece's line
  have hAB : detM p q a = 0 ∧ detM p q b = 0 := by
    have nap : ¬ ((detM a b p < 0 ∧ 0 < detM a b q) ∨ (0 < detM a b p ∧ detM a b q < 0)) → detM a b p = 0 ∧ detM a b q = 0 := fun h => by
      have mx := mix_sg mix hD hP
      rw [hmu] at mx
      rcases Int.lt_trichotomy (detM a b p) 0 with c | c | c
      · have := mx.1 c; omega
      · rcases Int.lt_trichotomy (detM a b q) 0 with d | d | d
        · have := mx.2.1 c d; omega
        · exact ⟨c, d⟩
        · have := mx.2.2.2.1 c d; omega
      · have := mx.2.2.1 c; omega
    by_cases hap : (detM a b p < 0 ∧ 0 < detM a b q) ∨ (0 < detM a b p ∧ detM a b q < 0)
    · have k : (0 ≤ detM p q a ∧ 0 ≤ detM p q b) ∨ (detM p q a ≤ 0 ∧ detM p q b ≤ 0) := by unfold NoX at hxx; omega
      generalize yv (shP K (cmb D P p q)) (shP K a) = am at *
      generalize yv (shP K (cmb D P p q)) (shP K b) = bm at *
      have both : detM p q b * am = 0 ∧ detM p q a * bm = 0 := by
        rcases lt with ⟨l1, l2, _⟩ | ⟨l1, l2, _⟩ <;> rcases k with ⟨k1, k2⟩ | ⟨k1, k2⟩
        · have := mul_gl k2 l1; have := mul_gg k1 l2; omega
        · have := mul_ll k2 l1; have := mul_lg k1 l2; omega
        · have := mul_gg k2 l1; have := mul_gl k1 l2; omega
        · have := mul_lg k2 l1; have := mul_ll k1 l2; omega
      rcases Int.mul_eq_zero.1 both.1 with c | c
      · rcases Int.mul_eq_zero.1 both.2 with d | d
        · exact ⟨d, c⟩
        · exact absurd c (pb d)
      · rcases Int.mul_eq_zero.1 both.2 with d | d
        · exact absurd d (pa c)
        · exfalso
          rw [c, d, Int.mul_zero, Int.mul_zero, Int.sub_zero] at J
          rcases Int.mul_eq_zero.1 J with z | z
          · have : (shP K (cmb D P p q)).d = (cmb D P p q).d := rfl
            omega
          · exact hd z
    · obtain ⟨z1, z2⟩ := nap hap
      exact col_of hp (by omega) hd z1 z2
  have hal : detM a b p = 0 ∧ detM a b q = 0 := by
    rw [hAB.1, hAB.2] at I1 I2
    simp only [Int.neg_zero, Int.zero_mul, Int.sub_zero] at I1 I2
    constructor
    · rcases Int.mul_eq_zero.1 I1 with c | c
      · omega
      · exact c
    · rcases Int.mul_eq_zero.1 I2 with c | c
      · omega
      · exact c
  refine ⟨hAB, hal, ?_⟩
  -- no end lies within the piece
  have na : ¬ (befB p a = true ∧ befB a q = true) := fun h => fa h.1 h.2 hAB.1
  have nb : ¬ (befB p b = true ∧ befB b q = true) := fun h => fb h.1 h.2 hAB.2
  rcases lt with ⟨_, _, l3, l4⟩ | ⟨_, _, l3, l4⟩
  · refine .inl ⟨?_, ?_⟩
    · cases k : befB p a
      · rfl
      · exact absurd ⟨k, le_bef ha hm hq l3 mq⟩ na
    · cases k : befB b q
      · rfl
      · exact absurd ⟨bef_le hp hm hb pm l4, k⟩ nb
  · refine .inr ⟨?_, ?_⟩
    · cases k : befB p b
      · rfl
      · exact absurd ⟨k, le_bef hb hm hq l3 mq⟩ nb
    · cases k : befB a q
      · rfl
      · exact absurd ⟨bef_le hp hm ha pm l4, k⟩ na
theorem on_in : alongE p q a b = onB (cmb D P p q) a b := by
  have hm := cmb_pos hD hP hp hq
  obtain ⟨pm, mq⟩ := bef_cmb hD hP hpq
  cases hon : onB (cmb D P p q) a b
  · cases hal : alongE p q a b
    · rfl
    · exfalso
      unfold alongE at hal
      simp only [Bool.and_eq_true, decide_eq_true_eq] at hal
      obtain ⟨hs, z1, z2⟩ := hal
      rw [span_bef ha hb hp hne] at hs
      have zm : detM a b (cmb D P p q) = 0 := by rw [cmb_det, z1, z2]; simp
      -- both ends lie on the piece's line
      obtain ⟨K, k1, k2, k3, k4, k5, k6, k7⟩ := bnd7 (yv p a) (yv p b) (yv p q) (yv a b) (yv q b) (yv (cmb D P p q) a) (yv (cmb D P p q) b)
      have sw : ∀ u v, yv u v = -yv v u := fun u v => by unfold yv; grind
      have upd : ∀ u v, upB false u v = decide (0 < yv u v) := fun u v => by unfold upB; simp
      have u3 := sh_up k3.1 k3.2
      rw [upd] at u3
      have hY : 0 < yv (shP K p) (shP K q) := by rw [hpq] at u3; exact of_decide_eq_true u3
      have hd : yv (shP K a) (shP K b) ≠ 0 := by
        intro e
        have e' := sw (shP K a) (shP K b)
        have w1 := sh_up k4.1 k4.2
        have w2 := sh_up (K := K) (q := b) (v := a) (by have := sw b a; omega) (by have := sw b a; omega)
        rw [upd] at w1 w2
        rcases hne with h | h
        · rw [h] at w1; have := of_decide_eq_true w1; omega
        · rw [h] at w2; have := of_decide_eq_true w2; omega
      obtain ⟨A0, B0⟩ := col_of hp (by omega) hd z1 z2
      have na : ¬ (befB p a = true ∧ befB a q = true) := fun h => fa h.1 h.2 A0
      have nb : ¬ (befB p b = true ∧ befB b q = true) := fun h => fb h.1 h.2 B0
      simp only [Bool.or_eq_true, Bool.and_eq_true, Bool.not_eq_true'] at hs
      have : withB (cmb D P p q) a b = true := by
        rcases hs with ⟨h1, h2⟩ | ⟨h1, h2⟩
        · have hbq : befB b q = false := by
            cases k : befB b q
            · rfl
            · exact absurd ⟨h2, k⟩ nb
          refine with_ab hm ha hb ?_ ?_
          · cases k : befB (cmb D P p q) a
            · rfl
            · have := bef_lt hm ha hp k (q := p) pm; rw [h1] at this; cases this
          · exact bef_asym (bef_le hm hq hb mq hbq)
        · have haq : befB a q = false := by
            cases k : befB a q
            · rfl
            · exact absurd ⟨h1, k⟩ na
          refine with_ba hm ha hb ?_ ?_
          · cases k : befB (cmb D P p q) b
            · rfl
            · have := bef_lt hm hb hp k (q := p) pm; rw [h2] at this; cases this
          · exact bef_asym (bef_le hm hq ha mq haq)
      unfold onB at hon
      rw [zm, this] at hon
      simp at hon
  · obtain ⟨_, ⟨z1, z2⟩, h⟩ := along_in hD hP hp hq ha hb hpq hne fa fb hx hon
    unfold alongE
    rw [span_bef ha hb hp hne, z1, z2]
    rcases h with ⟨h1, h2⟩ | ⟨h1, h2⟩
    · have : befB p b = true := bef_le hp hq hb hpq h2
      rw [h1, this]; rfl
    · have : befB p a = true := bef_le hp hq ha hpq h2
      rw [h1, this]; rfl
/-- The way past it: on the side that o is on. -/
theorem thr_in (o : Pt) : thrB o (cmb D P p q) a b = (onB (cmb D P p q) a b && decide (0 < detM p q o)) := by
  unfold thrB
  cases hon : onB (cmb D P p q) a b
  · rfl
  · simp only [Bool.true_and]
    obtain ⟨⟨A0, B0⟩, _, _⟩ := along_in hD hP hp hq ha hb hpq hne fa fb hx hon
    obtain ⟨K, k1, k2, k3, k4, k5, k6, k7⟩ := bnd7 (yv p a) (yv p b) (yv p q) (yv a b) (yv q b) (yv (cmb D P p q) a) (yv (cmb D P p q) b)
    have sw : ∀ u v, yv u v = -yv v u := fun u v => by unfold yv; grind
    have upd : ∀ u v, upB false u v = decide (0 < yv u v) := fun u v => by unfold upB; simp
    have u3 := sh_up k3.1 k3.2
    rw [upd] at u3
    have hY : 0 < yv (shP K p) (shP K q) := by rw [hpq] at u3; exact of_decide_eq_true u3
    have e' := sw (shP K a) (shP K b)
    have w1 := sh_up k4.1 k4.2
    have w2 := sh_up (K := K) (q := b) (v := a) (by have := sw b a; omega) (by have := sw b a; omega)
    rw [upd] at w1 w2
    have pl := plk2 (p := shP K p) (q := shP K q) (a := shP K a) (b := shP K b) (shP K o) (by rw [sh_det]; exact A0) (by rw [sh_det]; exact B0)
    rw [sh_det, sh_det] at pl
    generalize yv (shP K p) (shP K q) = Y at *
    generalize detM a b o = om at *
    generalize detM p q o = tu at *
    rcases hne with h | h
    · have h' := bef_asym h
      rw [h] at w1
      have d := of_decide_eq_true w1
      rw [h, h']
      generalize yv (shP K a) (shP K b) = Dd at *
      have : (0 < om ↔ 0 < tu) := by
        constructor
        · intro x
          have := mul_pp hY x
          rcases Int.lt_or_le 0 tu with c | c
          · exact c
          · have := mul_gl (Int.le_of_lt d) c; omega
        · intro x
          have := mul_pp d x
          rcases Int.lt_or_le 0 om with c | c
          · exact c
          · have := mul_gl (Int.le_of_lt hY) c; omega
      have e : decide (0 < om) = decide (0 < tu) := decide_eq_decide.2 this
      rw [e]; simp
    · have h' := bef_asym h
      rw [h] at w2
      have d := of_decide_eq_true w2
      rw [h, h']
      have d' : yv (shP K a) (shP K b) < 0 := by omega
      generalize yv (shP K a) (shP K b) = Dd at *
      have : (om < 0 ↔ 0 < tu) := by
        constructor
        · intro x
          have := mul_pn hY x
          rcases Int.lt_or_le 0 tu with c | c
          · exact c
          · have := mul_ll (Int.le_of_lt d') c; omega
        · intro x
          have := mul_np d' x
          rcases Int.lt_or_le om 0 with c | c
          · exact c
          · have := mul_gg (Int.le_of_lt hY) c; omega
      have e : decide (om < 0) = decide (0 < tu) := decide_eq_decide.2 this
      rw [e]; simp
end
end Go.Proofs.YtnkcbephceollabGreat
namespace Go.Proofs.YtnkcbephceollabGreat
set_option linter.unusedSimpArgs false
set_option linter.unusedVariables false

/-! The same place, written otherwise. -/
def sc (c : Int) (m : Pt) : Pt := ⟨c * m.x, c * m.y, c * m.d⟩
theorem sc_det (c : Int) (a b m : Pt) : detM a b (sc c m) = c * detM a b m := by unfold detM sc; grind
theorem sgn_sc {c x : Int} (hc : 0 < c) : (c * x < 0 ↔ x < 0) ∧ (0 < c * x ↔ 0 < x) ∧ (c * x = 0 ↔ x = 0) := by
  rcases Int.lt_trichotomy x 0 with h | h | h
  · have := mul_pn hc h; omega
  · rw [h, Int.mul_zero]; omega
  · have := mul_pp hc h; omega
theorem bef_key (u v : Pt) : befB u v = true ↔ (0 < xv u v ∨ (xv u v = 0 ∧ 0 < yv u v)) := by
  rw [bef_iff]; unfold xv yv; omega
theorem sc_bef {c : Int} (hc : 0 < c) (m v : Pt) : befB (sc c m) v = befB m v ∧ befB v (sc c m) = befB v m := by
  have x1 : xv (sc c m) v = c * xv m v := by unfold xv sc; grind
  have y1 : yv (sc c m) v = c * yv m v := by unfold yv sc; grind
  have x2 : xv v (sc c m) = c * xv v m := by unfold xv sc; grind
  have y2 : yv v (sc c m) = c * yv v m := by unfold yv sc; grind
  have a := @sgn_sc c (xv m v) hc
  have b := @sgn_sc c (yv m v) hc
  have a' := @sgn_sc c (xv v m) hc
  have b' := @sgn_sc c (yv v m) hc
  constructor
  · rw [Bool.eq_iff_iff, bef_key, bef_key, x1, y1]; omega
  · rw [Bool.eq_iff_iff, bef_key, bef_key, x2, y2]; omega
theorem apart_sc {c : Int} (hc : 0 < c) (x y : Int) : apartB (c * x) (c * y) = apartB x y ∧ apartB x (c * y) = apartB x y := by
  unfold apartB
  constructor <;> simp only [(sgn_sc hc).1, (sgn_sc hc).2.1]
theorem sc_over {c : Int} (hc : 0 < c) (m a b : Pt) : overB (sc c m) a b = overB m a b := by
  unfold overB
  rw [(sc_bef hc m a).1, (sc_bef hc m b).1, sc_det]
  simp only [(sgn_sc hc).1, (sgn_sc hc).2.1]
theorem sc_on {c : Int} (hc : 0 < c) (m a b : Pt) : onB (sc c m) a b = onB m a b := by
  unfold onB withB
  rw [(sc_bef hc m (loM a b)).1, (sc_bef hc m (hiM a b)).2, sc_det]
  simp only [(sgn_sc hc).2.2]
theorem sc_thr {c : Int} (hc : 0 < c) (o m a b : Pt) : thrB o (sc c m) a b = thrB o m a b := by
  unfold thrB; rw [sc_on hc]
/-- A place within a piece is a mean of its ends. -/
theorem in_piece {p z X : Pt} (b1 : befB p X = true) (b2 : befB X z = true) (hp : 0 < p.d) (hX : 0 < X.d) (hz : 0 < z.d) (h : detM p z X = 0) : ∃ c D P : Int, 0 < c ∧ 0 < D ∧ 0 < P ∧ sc c X = cmb D P p z := by
  obtain ⟨K, hK⟩ := shear [p, z, X]
  have hpz : befB p z = true := bef_lt hX hz hp b2 b1
  have k1 := (bef_h (hK p (by simp) z (by simp))).1.1 hpz
  have k2 := (bef_h (hK X (by simp) z (by simp))).1.1 b2
  have k3 := (bef_h (hK p (by simp) X (by simp))).1.1 b1
  refine ⟨_, _, _, k1, k2, k3, ?_⟩
  rw [sh_yv, sh_yv, sh_yv]
  apply Pt.ext'
  · have : (K * xv p z + yv p z) * X.x - ((K * xv X z + yv X z) * p.x + (K * xv p X + yv p X) * z.x) = -detM p z X := by unfold xv yv detM; grind
    show (K * xv p z + yv p z) * X.x = (K * xv X z + yv X z) * p.x + (K * xv p X + yv p X) * z.x
    omega
  · have : (K * xv p z + yv p z) * X.y - ((K * xv X z + yv X z) * p.y + (K * xv p X + yv p X) * z.y) = K * detM p z X := by unfold xv yv detM; grind
    show (K * xv p z + yv p z) * X.y = (K * xv X z + yv X z) * p.y + (K * xv p X + yv p X) * z.y
    rw [h, Int.mul_zero] at this
    omega
  · have : (K * xv p z + yv p z) * X.d - ((K * xv X z + yv X z) * p.d + (K * xv p X + yv p X) * z.d) = 0 := by unfold xv yv; grind
    show (K * xv p z + yv p z) * X.d = (K * xv X z + yv X z) * p.d + (K * xv p X + yv p X) * z.d
    omega
/-- Strictly within the piece. -/
structure Wi (p z X : Pt) : Prop where
  pd : 0 < p.d
  zd : 0 < z.d
  d : 0 < X.d
  b1 : befB p X = true
  b2 : befB X z = true
  l : detM p z X = 0
theorem Wi.bef {p z X : Pt} (h : Wi p z X) : befB p z = true := bef_lt h.d h.zd h.pd h.b2 h.b1
section
variable {p z X : Pt} (w : Wi p z X)
include w
theorem along_x {Q : List (List Pt)} (hd : ∀ v ∈ Q.flatten, 0 < v.d) (hc : Clear Q p z) : parB (ovL p z) (edgesM Q) = parB (overB X) (edgesM Q) := by
  obtain ⟨c, D, P, hc0, hD, hP, e⟩ := in_piece w.b1 w.b2 w.pd w.d w.zd w.l
  rw [along_c hD hP w.pd w.zd w.bef hd hc, ← e]
  exact parB_congr fun x _ => sc_over hc0 _ _ _
variable {a b : Pt} (ha : 0 < a.d) (hb : 0 < b.d) (hne : befB a b = true ∨ befB b a = true)
  (fa : befB p a = true → befB a z = true → detM p z a ≠ 0) (fb : befB p b = true → befB b z = true → detM p z b ≠ 0) (hx : crossB p z a b = false)
include ha hb hne fa fb hx
theorem on_x : alongE p z a b = onB X a b := by
  obtain ⟨c, D, P, hc0, hD, hP, e⟩ := in_piece w.b1 w.b2 w.pd w.d w.zd w.l
  rw [on_in hD hP w.pd w.zd ha hb w.bef hne fa fb hx, ← e, sc_on hc0]
theorem thr_x (o : Pt) : thrB o X a b = (onB X a b && decide (0 < detM p z o)) := by
  obtain ⟨c, D, P, hc0, hD, hP, e⟩ := in_piece w.b1 w.b2 w.pd w.d w.zd w.l
  have := thr_in hD hP w.pd w.zd ha hb w.bef hne fa fb hx o
  rw [← e, sc_on hc0, sc_thr hc0] at this
  exact this
end
/-- What a way from far outside to a place within a piece crosses. -/
theorem side_way {P : List (List Pt)} {p z X o : Pt} (w : Wi p z X) (sd : Sd P) (hc : Clear P p z) (ho : 0 < o.d) (far : ∀ v ∈ P.flatten, 0 < xv o v) (gen : ∀ v ∈ P.flatten, detM o X v ≠ 0) :
    parB (fun a b => onB X a b) (edgesM P) = (parB (leftE p z) (edgesM P) ^^ parB (rightE p z) (edgesM P)) ∧ parB (crossB o X) (edgesM P) = if 0 < detM p z o then parB (leftE p z) (edgesM P) else parB (rightE p z) (edgesM P) := by
  have el : parB (leftE p z) (edgesM P) = parB (overB X) (edgesM P) := by
    rw [← along_x w sd.pd hc]
    exact parB_congr fun e he => by
      obtain ⟨m1, m2⟩ := edge_ends he
      exact leftE_eq (sd.pd _ m1) (sd.pd _ m2) w.pd
  have er : parB (rightE p z) (edgesM P) = (parB (leftE p z) (edgesM P) ^^ parB (fun a b => onB X a b) (edgesM P)) := by
    rw [← parB_xor]
    exact parB_congr fun e he => by
      obtain ⟨m1, m2⟩ := edge_ends he
      rw [rightE_eq (sd.pd _ m1) (sd.pd _ m2) w.pd (sd.ne e he), on_x w (sd.pd _ m1) (sd.pd _ m2) (sd.ne e he) (hc.pt _ m1) (hc.pt _ m2) (hc.ed e he)]
  have way := way_mid ho w.d sd.pd far gen sd.ne
  have et : parB (thrB o X) (edgesM P) = (parB (fun a b => onB X a b) (edgesM P) && decide (0 < detM p z o)) := by
    have : parB (thrB o X) (edgesM P) = parB (fun a b => onB X a b && decide (0 < detM p z o)) (edgesM P) := parB_congr fun e he => by
      obtain ⟨m1, m2⟩ := edge_ends he
      exact thr_x w (sd.pd _ m1) (sd.pd _ m2) (sd.ne e he) (hc.pt _ m1) (hc.pt _ m2) (hc.ed e he) o
    rw [this]
    cases decide (0 < detM p z o)
    · simp only [Bool.and_false]
      exact par_none fun _ _ => rfl
    · simp only [Bool.and_true]
  rw [← el, et] at way
  rw [er]
  by_cases k : 0 < detM p z o
  · rw [if_pos k]
    rw [decide_eq_true k] at way
    revert way
    cases parB (crossB o X) (edgesM P) <;> cases parB (fun a b => onB X a b) (edgesM P) <;> cases parB (leftE p z) (edgesM P) <;> simp
  · rw [if_neg k]
    rw [decide_eq_false k] at way
    revert way
    cases parB (crossB o X) (edgesM P) <;> cases parB (fun a b => onB X a b) (edgesM P) <;> cases parB (leftE p z) (edgesM P) <;> simp
theorem on_apart' {o m a b : Pt} (ho : 0 < o.d) (hm : 0 < m.d) (ha : 0 < a.d) (hb : 0 < b.d) (hA : detM o m a ≠ 0) (hB : detM o m b ≠ 0) (hne : befB a b = true ∨ befB b a = true) (h0 : detM a b m = 0) : onB m a b = apartB (detM o m a) (detM o m b) := by
  obtain ⟨K, k1, k2, k3, _⟩ := bnd7 (yv m a) (yv m b) (yv a b) 0 0 0 0
  exact on_apart ho hm ha hb k1 k2 k3 hA hB hne h0
/-- From far outside an edge whose line one stands on does not come across one's way. -/
theorem far_apart {o m a b : Pt} (ho : 0 < o.d) (fa : 0 < xv o a) (fb : 0 < xv o b) (ap : apartB (detM o m a) (detM o m b) = true) : detM a b o ≠ 0 := by
  intro h
  have e0 : detM o a b = 0 := by
    have : detM o a b = detM a b o := by unfold detM; grind
    omega
  have e1 := det_xy o a b
  rw [e0, Int.mul_zero] at e1
  have e2 := det_xy o m a
  have e3 := det_xy o m b
  have e4 : o.d * (xv o b * detM o m a) = o.d * (xv o a * detM o m b) := by
    have a1 : o.d * (xv o b * detM o m a) = xv o b * (o.d * detM o m a) := by grind
    have a2 : o.d * (xv o a * detM o m b) = xv o a * (o.d * detM o m b) := by grind
    rw [a1, a2, e2, e3]
    have a3 : xv o m * (xv o a * yv o b - yv o a * xv o b) = 0 := by rw [← e1, Int.mul_zero]
    have a4 : xv o b * (xv o m * yv o a - yv o m * xv o a) - xv o a * (xv o m * yv o b - yv o m * xv o b) = -(xv o m * (xv o a * yv o b - yv o a * xv o b)) := by grind
    omega
  have e5 : xv o b * detM o m a = xv o a * detM o m b := Int.eq_of_mul_eq_mul_left (by omega) e4
  unfold apartB at ap
  simp only [Bool.or_eq_true, Bool.and_eq_true, decide_eq_true_eq] at ap
  rcases ap with ⟨x, y⟩ | ⟨x, y⟩
  · have := mul_pn fb x; have := mul_pp fa y; omega
  · have := mul_pp fb x; have := mul_pn fa y; omega
theorem cmb_way (α β : Int) (o m v : Pt) : detM o (cmb α β o m) v = β * detM o m v := by unfold detM cmb; grind
/-- A way cut at a place behind which it crosses nothing more. -/
theorem cross_cut {o m a b : Pt} {α β : Int} (hα : 0 < α) (hβ : 0 < β) (ho : 0 < o.d) (hm : 0 < m.d) (ha : 0 < a.d) (hb : 0 < b.d) (fa : 0 < xv o a) (fb : 0 < xv o b) (hA : detM o m a ≠ 0) (hB : detM o m b ≠ 0) (hne : befB a b = true ∨ befB b a = true)
    (near : crossB o m a b = true → detM a b (cmb α β o m) = 0 ∨ apartB (detM a b o) (detM a b (cmb α β o m)) = true) :
    crossB o m a b = (crossB o (cmb α β o m) a b ^^ onB (cmb α β o m) a b) := by
  have hd0 := cmb_pos hα hβ ho hm
  have nz : ∀ v, detM o m v ≠ 0 → detM o (cmb α β o m) v ≠ 0 := fun v h k => by
    rw [cmb_way] at k
    exact h ((sgn_sc hβ).2.2.1 k)
  have onz : detM a b (cmb α β o m) = 0 → onB (cmb α β o m) a b = apartB (detM o m a) (detM o m b) := fun h => by
    rw [on_apart' ho hd0 ha hb (nz a hA) (nz b hB) hne h, cmb_way, cmb_way, (apart_sc hβ _ _).1]
  have onn : detM a b (cmb α β o m) ≠ 0 → onB (cmb α β o m) a b = false := fun h => by unfold onB; simp [h]
  unfold crossB at near ⊢
  rw [cmb_way, cmb_way, (apart_sc hβ _ _).1]
  cases ap : apartB (detM o m a) (detM o m b)
  · simp only [Bool.false_and, Bool.false_xor]
    by_cases h : detM a b (cmb α β o m) = 0
    · rw [onz h, ap]
    · rw [onn h]
  · have u := far_apart ho fa fb ap
    rw [ap] at near onz
    simp only [Bool.true_and] at near ⊢
    have e := cmb_det α β a b o m
    by_cases h : detM a b (cmb α β o m) = 0
    · rw [onz h, h]
      have a0 : apartB (detM a b o) 0 = false := by unfold apartB; simp
      rw [a0]
      rw [h] at e
      show apartB (detM a b o) (detM a b m) = true
      unfold apartB
      simp only [Bool.or_eq_true, Bool.and_eq_true, decide_eq_true_eq]
      rcases Int.lt_or_gt_of_ne u with k | k
      · have := mul_pn hα k
        have : 0 < β * detM a b m := by omega
        exact .inl ⟨k, (sgn_sc hβ).2.1.1 this⟩
      · have := mul_pp hα k
        have : β * detM a b m < 0 := by omega
        exact .inr ⟨k, (sgn_sc hβ).1.1 this⟩
    · rw [onn h, Bool.xor_false]
      cases c : apartB (detM a b o) (detM a b m)
      · -- on one side: so is what lies between
        symm
        cases c2 : apartB (detM a b o) (detM a b (cmb α β o m))
        · rfl
        · exfalso
          unfold apartB at c c2
          simp only [Bool.or_eq_true, Bool.and_eq_true, decide_eq_true_eq] at c2
          rw [Bool.or_eq_false_iff] at c
          simp only [Bool.and_eq_false_iff, decide_eq_false_iff_not] at c
          rcases c2 with ⟨x, y⟩ | ⟨x, y⟩
          · have m1 : detM a b m ≤ 0 := by rcases c.1 with q | q <;> omega
            have := mul_pn hα x
            have := mul_gl (Int.le_of_lt hβ) m1
            omega
          · have m1 : 0 ≤ detM a b m := by rcases c.2 with q | q <;> omega
            have := mul_pp hα x
            have := mul_gg (Int.le_of_lt hβ) m1
            omega
      · rcases near c with k | k
        · exact absurd k h
        · exact k.symm
/-- Of some fractions one is greatest. -/
theorem far_max {γ : Type} (f g : γ → Nat) (c : γ → Bool) (hg : ∀ x, c x = true → 0 < g x) : ∀ l : List γ, (∃ x ∈ l, c x = true) → ∃ x ∈ l, c x = true ∧ ∀ y ∈ l, c y = true → f y * g x ≤ f x * g y
  | [], h => by obtain ⟨x, hx, _⟩ := h; cases hx
  | a :: l, h => by
    by_cases ex : ∃ x ∈ l, c x = true
    · obtain ⟨y, hy, cy, my⟩ := far_max f g c hg l ex
      by_cases ca : c a = true
      · by_cases le : f y * g a ≤ f a * g y
        · refine ⟨a, List.mem_cons_self, ca, fun z hz cz => ?_⟩
          rcases List.mem_cons.1 hz with rfl | hz
          · exact Nat.le_refl _
          · have h1 := my z hz cz
            have h2 : f z * g y * g a ≤ f y * g z * g a := Nat.mul_le_mul_right _ h1
            have h3 : f y * g a * g z ≤ f a * g y * g z := Nat.mul_le_mul_right _ le
            have h4 : f z * g a * g y ≤ f a * g z * g y := by
              have e1 : f z * g a * g y = f z * g y * g a := by rw [Nat.mul_assoc, Nat.mul_comm (g a), ← Nat.mul_assoc]
              have e2 : f y * g z * g a = f y * g a * g z := by rw [Nat.mul_assoc, Nat.mul_comm (g z), ← Nat.mul_assoc]
              have e3 : f a * g z * g y = f a * g y * g z := by rw [Nat.mul_assoc, Nat.mul_comm (g z), ← Nat.mul_assoc]
              omega
            exact Nat.le_of_mul_le_mul_right h4 (hg y cy)
        · refine ⟨y, List.mem_cons_of_mem _ hy, cy, fun z hz cz => ?_⟩
          rcases List.mem_cons.1 hz with rfl | hz
          · omega
          · exact my z hz cz
      · refine ⟨y, List.mem_cons_of_mem _ hy, cy, fun z hz cz => ?_⟩
        rcases List.mem_cons.1 hz with rfl | hz
        · exact absurd cz ca
        · exact my z hz cz
    · obtain ⟨x, hx, cx⟩ := h
      rcases List.mem_cons.1 hx with rfl | hx
      · refine ⟨x, List.mem_cons_self, cx, fun z hz cz => ?_⟩
        rcases List.mem_cons.1 hz with rfl | hz
        · exact Nat.le_refl _
        · exact absurd ⟨z, hz, cz⟩ ex
      · exact absurd ⟨x, hx, cx⟩ ex
theorem countP_less {γ : Type} {p q : γ → Bool} : ∀ {l : List γ}, (∀ x ∈ l, p x = true → q x = true) → (∃ x ∈ l, q x = true ∧ p x = false) → l.countP p < l.countP q
  | [], _, h => by obtain ⟨x, hx, _⟩ := h; cases hx
  | a :: l, h, ex => by
    have hl : ∀ x ∈ l, p x = true → q x = true := fun x hx => h x (List.mem_cons_of_mem _ hx)
    rw [List.countP_cons, List.countP_cons]
    have le : l.countP p ≤ l.countP q := List.countP_mono_left hl
    have ha := h a List.mem_cons_self
    by_cases e : ∃ x ∈ l, q x = true ∧ p x = false
    · have := countP_less hl e
      cases pa : p a <;> cases qa : q a <;> simp <;> (try omega)
      rw [ha pa] at qa; cases qa
    · obtain ⟨x, hx, qx, px⟩ := ex
      rcases List.mem_cons.1 hx with rfl | hx
      · rw [qx, px]; simp; omega
      · exact absurd ⟨x, hx, qx, px⟩ e
theorem par_one {f : Pt → Pt → Bool} : ∀ {Q : List (Pt × Pt)} {x : Pt × Pt}, Q.Nodup → x ∈ Q → (∀ y ∈ Q, y ≠ x → f y.1 y.2 = false) → parB f Q = f x.1 x.2
  | a :: Q, x, hn, hx, h => by
    show (f a.1 a.2 ^^ parB f Q) = _
    obtain ⟨n1, n2⟩ := List.nodup_cons.1 hn
    rcases List.mem_cons.1 hx with rfl | hx
    · rw [par_none (E := Q) fun y hy => h y (List.mem_cons_of_mem _ hy) (fun e => n1 (e ▸ hy))]
      simp
    · rw [h a List.mem_cons_self (fun e => n1 (e ▸ hx)), par_one n2 hx (fun y hy => h y (List.mem_cons_of_mem _ hy))]
      simp
theorem par_some {f : Pt → Pt → Bool} : ∀ {E : List (Pt × Pt)}, parB f E = true → ∃ e ∈ E, f e.1 e.2 = true
  | [], h => by cases h
  | e :: E, h => by
    have h' : (f e.1 e.2 ^^ parB f E) = true := h
    cases k : f e.1 e.2
    · rw [k, Bool.false_xor] at h'
      obtain ⟨x, hx, q⟩ := par_some h'
      exact ⟨x, List.mem_cons_of_mem _ hx, q⟩
    · exact ⟨e, List.mem_cons_self, k⟩
end Go.Proofs.YtnkcbephceollabGreat
