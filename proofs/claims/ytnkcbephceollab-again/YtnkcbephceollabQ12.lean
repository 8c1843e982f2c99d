import Derived.Test.YtnkcbephceollabQ11
namespace Go.Proofs.Ytnkcbephceollab
set_option linter.unusedVariables false
set_option linter.unusedSimpArgs false
set_option linter.unusedSectionVars false

/-- On which side of the edge the piece lies, close to p. -/
def sideOfM (p q a b : Pt) : Int := if sideM a b p ≠ 0 then sideM a b p else sideM a b q
def leftE (p q a b : Pt) : Bool := spanM a b p && decide (sideOfM p q a b < 0)
def rightE (p q a b : Pt) : Bool := spanM a b p && decide (sideOfM p q a b ≤ 0)
def alongE (p q a b : Pt) : Bool := spanM a b p && (decide (detM a b p = 0) && decide (detM a b q = 0))

theorem so_neg (p q a b : Pt) : sideOfM p q a b < 0 ↔ neg2 (sideM a b p) (sideM a b q) := by
  unfold sideOfM neg2; split <;> omega
theorem so_le (p q a b : Pt) : sideOfM p q a b ≤ 0 ↔ (neg2 (sideM a b p) (sideM a b q) ∨ (sideM a b p = 0 ∧ sideM a b q = 0)) := by
  unfold sideOfM neg2; split <;> omega
section
variable {a b p q : Pt} (ha : 0 < a.d) (hb : 0 < b.d) (hp : 0 < p.d)
include ha hb hp
theorem leftE_eq : leftE p q a b = ovL p q a b := by
  unfold leftE ovL
  have ed : decide (sideOfM p q a b < 0) = decide (neg2 (sideM a b p) (sideM a b q)) := decide_eq_decide.2 (so_neg p q a b)
  rw [ed]
  unfold spanM
  rw [cmpB, cmpB]
  unfold sideM
  by_cases h : befB b a = true
  · have h' := bef_asym h
    rw [first_eq, last_eq, if_pos h, if_neg (by rw [h']; decide), det_sw2 a b p, det_sw2 a b q]
    have e : decide (neg2 (-detM a b p) (-detM a b q)) = decide (pos2 (detM a b p) (detM a b q)) := decide_eq_decide.2 (neg2_neg _ _)
    rw [e]
    have m := fun k => bef_lt hb ha hp h (q := p) k
    cases ka : befB p a <;> cases kb : befB p b
    · simp
    · have := m kb; rw [ka] at this; cases this
    · simp
    · simp
  · have h0 : befB b a = false := by simpa using h
    by_cases h2 : befB a b = true
    · rw [first_eq, last_eq, if_neg h, if_pos h2]
      have m := fun k => bef_lt ha hb hp h2 (q := p) k
      cases ka : befB p a <;> cases kb : befB p b
      · simp
      · simp
      · have := m ka; rw [kb] at this; cases this
      · simp
    · have h2' : befB a b = false := by simpa using h2
      rw [first_eq, last_eq, if_neg h, if_neg h2, bef_same_r ha hb hp h2' h0]
      cases befB p b <;> simp
theorem side_zero (x : Pt) (hne : befB a b = true ∨ befB b a = true) : (sideM a b x = 0 ↔ detM a b x = 0) := by
  unfold sideM
  rcases hne with h | h
  · have h' := bef_asym h
    rw [first_eq, last_eq, if_neg (by rw [h']; decide), if_pos h]
  · have h' := bef_asym h
    rw [first_eq, last_eq, if_pos h, if_neg (by rw [h']; decide), det_sw2]; omega
theorem rightE_eq (hne : befB a b = true ∨ befB b a = true) : rightE p q a b = (leftE p q a b ^^ alongE p q a b) := by
  unfold rightE leftE alongE
  have z1 := side_zero ha hb hp p hne
  have z2 := side_zero ha hb hp q hne
  cases spanM a b p
  · rfl
  · simp only [Bool.true_and]
    have l := so_le p q a b
    have n := so_neg p q a b
    have e1 : decide (sideOfM p q a b ≤ 0) = decide (neg2 (sideM a b p) (sideM a b q) ∨ (sideM a b p = 0 ∧ sideM a b q = 0)) := decide_eq_decide.2 l
    have e2 : decide (sideOfM p q a b < 0) = decide (neg2 (sideM a b p) (sideM a b q)) := decide_eq_decide.2 n
    have e3 : decide (detM a b p = 0) = decide (sideM a b p = 0) := decide_eq_decide.2 z1.symm
    have e4 : decide (detM a b q = 0) = decide (sideM a b q = 0) := decide_eq_decide.2 z2.symm
    rw [e1, e2, e3, e4]
    by_cases c1 : sideM a b p = 0 <;> by_cases c2 : sideM a b q = 0 <;> by_cases c3 : neg2 (sideM a b p) (sideM a b q)
    all_goals simp only [c1, c2, c3, decide_true, decide_false, Bool.and_true, Bool.and_false, Bool.true_and, Bool.false_and, or_true, or_false, true_or, false_or, and_true, and_false, true_and, false_and, not_true, not_false_iff, Bool.xor_false, Bool.xor_true, Bool.not_true, Bool.not_false]
    all_goals first
      | rfl
      | (exfalso; unfold neg2 at c3; omega)
      | simp
theorem span_bef (hne : befB a b = true ∨ befB b a = true) : spanM a b p = ((!befB p a && befB p b) || (befB p a && !befB p b)) := by
  unfold spanM
  rw [cmpB, cmpB]
  rcases hne with h | h
  · have h' := bef_asym h
    rw [first_eq, last_eq, if_neg (by rw [h']; decide), if_pos h]
    have m := fun k => bef_lt ha hb hp h (q := p) k
    cases ka : befB p a <;> cases kb : befB p b
    · rfl
    · rfl
    · have := m ka; rw [kb] at this; cases this
    · rfl
  · have h' := bef_asym h
    rw [first_eq, last_eq, if_pos h, if_neg (by rw [h']; decide)]
    have m := fun k => bef_lt hb ha hp h (q := p) k
    cases ka : befB p a <;> cases kb : befB p b
    · rfl
    · have := m kb; rw [ka] at this; cases this
    · rfl
    · rfl
end

theorem bef_pm {p q : Pt} (hp : 0 < p.d) (hq : 0 < q.d) (h : befB p q = true) : befB p (midP p q) = true ∧ befB (midP p q) q = true := by
  have z1 : xv p (midP p q) = p.d * xv p q := by unfold xv midP; grind
  have z2 : yv p (midP p q) = p.d * yv p q := by unfold yv midP; grind
  have z3 : xv (midP p q) q = q.d * xv p q := by unfold xv midP; grind
  have z4 : yv (midP p q) q = q.d * yv p q := by unfold yv midP; grind
  have key : ∀ u v : Pt, befB u v = true ↔ (0 < xv u v ∨ (xv u v = 0 ∧ 0 < yv u v)) := fun u v => by rw [bef_iff]; unfold xv yv; omega
  rw [key] at h
  rw [key, key, z1, z2, z3, z4]
  rcases h with h | ⟨h1, h2⟩
  · exact ⟨.inl (mul_pp hp h), .inl (mul_pp hq h)⟩
  · rw [h1, Int.mul_zero, Int.mul_zero]
    exact ⟨.inr ⟨rfl, mul_pp hp h2⟩, .inr ⟨rfl, mul_pp hq h2⟩⟩
theorem mid_pos {p q : Pt} (hp : 0 < p.d) (hq : 0 < q.d) : 0 < (midP p q).d := by
  have := mul_pp hp hq
  show 0 < 2 * p.d * q.d
  rw [Int.mul_assoc]; omega

/-- The lines are one. -/
theorem col_of {p q a b : Pt} {K : Int} (hp : 0 < p.d) (hY : yv (shP K p) (shP K q) ≠ 0) (hd : yv (shP K a) (shP K b) ≠ 0) (h1 : detM a b p = 0) (h2 : detM a b q = 0) : detM p q a = 0 ∧ detM p q b = 0 := by
  have e1 := plk2 (p := shP K a) (q := shP K b) (a := shP K p) (b := shP K q) (shP K a) (by rw [sh_det]; exact h1) (by rw [sh_det]; exact h2)
  have e2 := plk2 (p := shP K a) (q := shP K b) (a := shP K p) (b := shP K q) (shP K b) (by rw [sh_det]; exact h1) (by rw [sh_det]; exact h2)
  rw [sh_det, sh_det] at e1 e2
  have z1 : detM a b a = 0 := by unfold detM; grind
  have z2 : detM a b b = 0 := by unfold detM; grind
  rw [z1, Int.mul_zero] at e1
  rw [z2, Int.mul_zero] at e2
  constructor
  · rcases Int.mul_eq_zero.1 e1 with c | c
    · exact absurd c hd
    · exact c
  · rcases Int.mul_eq_zero.1 e2 with c | c
    · exact absurd c hd
    · exact c
section
variable {p q a b : Pt} (hp : 0 < p.d) (hq : 0 < q.d) (ha : 0 < a.d) (hb : 0 < b.d) (hpq : befB p q = true) (hne : befB a b = true ∨ befB b a = true)
  (fa : befB p a = true → befB a q = true → detM p q a ≠ 0) (fb : befB p b = true → befB b q = true → detM p q b ≠ 0) (hx : crossB p q a b = false)
include hp hq ha hb hpq hne fa fb hx
/-- An edge through the piece's middle lies along the piece, over its whole length. -/
theorem mid_along (hon : onB (midP p q) a b = true) : (detM p q a = 0 ∧ detM p q b = 0) ∧ (detM a b p = 0 ∧ detM a b q = 0) ∧ ((befB p a = false ∧ befB b q = false) ∨ (befB p b = false ∧ befB a q = false)) := by
  have hm := mid_pos hp hq
  obtain ⟨pm, mq⟩ := bef_pm hp hq hpq
  obtain ⟨K, k1, k2, k3, k4, k5, k6, k7⟩ := bnd7 (yv p a) (yv p b) (yv p q) (yv a b) (yv q b) (yv (midP p q) a) (yv (midP p q) b)
  have sw : ∀ u v, yv u v = -yv v u := fun u v => by unfold yv; grind
  have upd : ∀ u v, upB false u v = decide (0 < yv u v) := fun u v => by unfold upB; simp
  have u3 := sh_up k3.1 k3.2
  have u6 := sh_up k6.1 k6.2
  have u7 := sh_up k7.1 k7.2
  have v6 := sh_up (K := K) (q := a) (v := midP p q) (by have := sw a (midP p q); omega) (by have := sw a (midP p q); omega)
  have v7 := sh_up (K := K) (q := b) (v := midP p q) (by have := sw b (midP p q); omega) (by have := sw b (midP p q); omega)
  rw [upd] at u3 u6 u7 v6 v7
  rw [sw (shP K a)] at v6
  rw [sw (shP K b)] at v7
  have hY : 0 < yv (shP K p) (shP K q) := by rw [hpq] at u3; exact of_decide_eq_true u3
  have hd : yv (shP K a) (shP K b) ≠ 0 := by
    intro e
    have e' := sw (shP K a) (shP K b)
    have w1 := sh_up k4.1 k4.2
    have w2 := sh_up (K := K) (q := b) (v := a) (by have := sw b a; omega) (by have := sw b a; omega)
    rw [upd] at w1 w2
    rcases hne with h | h
    · rw [h] at w1; have := of_decide_eq_true w1; omega
    · rw [h] at w2; have := of_decide_eq_true w2; omega
  have I1 := id1 (shP K q) (shP K p) (shP K a) (shP K b)
  have I2 := id2 (shP K q) (shP K p) (shP K a) (shP K b)
  rw [sh_det, sh_det, sh_det, det_sw p q a, det_sw p q b] at I1 I2
  have M1 := mid_yv (shP K p) (shP K q) (shP K a)
  have M2 := mid_yv (shP K p) (shP K q) (shP K b)
  rw [← sh_mid] at M1 M2
  have mix := mid_det a b p q
  have hmu : detM a b (midP p q) = 0 := by unfold onB at hon; simp at hon; exact hon.1
  have hw : withB (midP p q) a b = true := by unfold onB at hon; simp at hon; exact hon.2
  have J : (shP K (midP p q)).d * yv (shP K a) (shP K b) = (shP K a).d * yv (shP K (midP p q)) (shP K b) - (shP K b).d * yv (shP K (midP p q)) (shP K a) := by unfold yv; grind
  -- heights: one not above, the other not below
  have lt : (yv (shP K (midP p q)) (shP K a) ≤ 0 ∧ 0 ≤ yv (shP K (midP p q)) (shP K b) ∧ befB (midP p q) a = false ∧ befB b (midP p q) = false) ∨ (0 ≤ yv (shP K (midP p q)) (shP K a) ∧ yv (shP K (midP p q)) (shP K b) ≤ 0 ∧ befB (midP p q) b = false ∧ befB a (midP p q) = false) := by
    unfold withB loM hiM at hw
    by_cases c : befB b a = true
    · simp only [if_pos c, Bool.and_eq_true, Bool.not_eq_true'] at hw
      refine .inr ⟨?_, ?_, hw.1, hw.2⟩
      · rw [hw.2] at v6; have := of_decide_eq_false v6; omega
      · rw [hw.1] at u7; have := of_decide_eq_false u7; omega
    · simp only [if_neg c, Bool.and_eq_true, Bool.not_eq_true'] at hw
      refine .inl ⟨?_, ?_, hw.1, hw.2⟩
      · rw [hw.1] at u6; have := of_decide_eq_false u6; omega
      · rw [hw.2] at v7; have := of_decide_eq_false v7; omega
  have hxx : NoX (detM p q a) (detM p q b) (detM a b p) (detM a b q) := by
    unfold NoX
    intro h
    have : crossB p q a b = true := by
      unfold crossB apartB
      simp only [Bool.and_eq_true, Bool.or_eq_true, decide_eq_true_eq]
      omega
    rw [hx] at this; cases this
  -- at the middle itself there is no point
  have pa : yv (shP K (midP p q)) (shP K a) = 0 → detM p q a ≠ 0 := fun e => by
    have b1 : befB (midP p q) a = false := by rw [← u6, e]; rfl
    have b2 : befB a (midP p q) = false := by rw [← v6, e]; rfl
    exact fa (bef_le hp hm ha pm b2) (le_bef ha hm hq b1 mq)
  have pb : yv (shP K (midP p q)) (shP K b) = 0 → detM p q b ≠ 0 := fun e => by
    have b1 : befB (midP p q) b = false := by rw [← u7, e]; rfl
    have b2 : befB b (midP p q) = false := by rw [← v7, e]; rfl
    exact fb (bef_le hp hm hb pm b2) (le_bef hb hm hq b1 mq)
  have hmu2 : yv (shP K p) (shP K q) * detM a b (midP p q) = detM p q b * yv (shP K (midP p q)) (shP K a) - detM p q a * yv (shP K (midP p q)) (shP K b) := by
    have ep : (shP K p).d = p.d := rfl
    have eq : (shP K q).d = q.d := rfl
    rw [mix, M1, M2, ep, eq]
    have e : yv (shP K p) (shP K q) * (q.d * detM a b p + p.d * detM a b q) = q.d * (yv (shP K p) (shP K q) * detM a b p) + p.d * (yv (shP K p) (shP K q) * detM a b q) := by grind
    rw [e, I1, I2]; grind
  rw [hmu, Int.mul_zero] at hmu2
  -- both ends lie on the piece's line
  have hAB : detM p q a = 0 ∧ detM p q b = 0 := by
    have nap : ¬ ((detM a b p < 0 ∧ 0 < detM a b q) ∨ (0 < detM a b p ∧ detM a b q < 0)) → detM a b p = 0 ∧ detM a b q = 0 := fun h => by
      have mx := mix_sg mix hq hp
      rw [hmu] at mx
      rcases Int.lt_trichotomy (detM a b p) 0 with c | c | c
      · have := mx.1 c; omega
      · rcases Int.lt_trichotomy (detM a b q) 0 with d | d | d
        · have := mx.2.1 c d; omega
        · exact ⟨c, d⟩
        · have := mx.2.2.2.1 c d; omega
      · have := mx.2.2.1 c; omega
    by_cases hap : (detM a b p < 0 ∧ 0 < detM a b q) ∨ (0 < detM a b p ∧ detM a b q < 0)
    · have k : (0 ≤ detM p q a ∧ 0 ≤ detM p q b) ∨ (detM p q a ≤ 0 ∧ detM p q b ≤ 0) := by unfold NoX at hxx; omega
      generalize yv (shP K (midP p q)) (shP K a) = am at *
      generalize yv (shP K (midP p q)) (shP K b) = bm at *
      have both : detM p q b * am = 0 ∧ detM p q a * bm = 0 := by
        rcases lt with ⟨l1, l2, _⟩ | ⟨l1, l2, _⟩ <;> rcases k with ⟨k1, k2⟩ | ⟨k1, k2⟩
        · have := mul_gl k2 l1; have := mul_gg k1 l2; omega
        · have := mul_ll k2 l1; have := mul_lg k1 l2; omega
        · have := mul_gg k2 l1; have := mul_gl k1 l2; omega
        · have := mul_lg k2 l1; have := mul_ll k1 l2; omega
      rcases Int.mul_eq_zero.1 both.1 with c | c
      · rcases Int.mul_eq_zero.1 both.2 with d | d
        · exact ⟨d, c⟩
        · exact absurd c (pb d)
      · rcases Int.mul_eq_zero.1 both.2 with d | d
        · exact absurd d (pa c)
        · exfalso
          rw [c, d, Int.mul_zero, Int.mul_zero, Int.sub_zero] at J
          rcases Int.mul_eq_zero.1 J with z | z
          · have : (shP K (midP p q)).d = (midP p q).d := rfl
            omega
          · exact hd z
    · obtain ⟨z1, z2⟩ := nap hap
      exact col_of hp (by omega) hd z1 z2
  have hal : detM a b p = 0 ∧ detM a b q = 0 := by
    rw [hAB.1, hAB.2] at I1 I2
    simp only [Int.neg_zero, Int.zero_mul, Int.sub_zero] at I1 I2
    constructor
    · rcases Int.mul_eq_zero.1 I1 with c | c
      · omega
      · exact c
    · rcases Int.mul_eq_zero.1 I2 with c | c
      · omega
      · exact c
  refine ⟨hAB, hal, ?_⟩
  -- no end lies within the piece
  have na : ¬ (befB p a = true ∧ befB a q = true) := fun h => fa h.1 h.2 hAB.1
  have nb : ¬ (befB p b = true ∧ befB b q = true) := fun h => fb h.1 h.2 hAB.2
  rcases lt with ⟨_, _, l3, l4⟩ | ⟨_, _, l3, l4⟩
  · refine .inl ⟨?_, ?_⟩
    · cases k : befB p a
      · rfl
      · exact absurd ⟨k, le_bef ha hm hq l3 mq⟩ na
    · cases k : befB b q
      · rfl
      · exact absurd ⟨bef_le hp hm hb pm l4, k⟩ nb
  · refine .inr ⟨?_, ?_⟩
    · cases k : befB p b
      · rfl
      · exact absurd ⟨k, le_bef hb hm hq l3 mq⟩ nb
    · cases k : befB a q
      · rfl
      · exact absurd ⟨bef_le hp hm ha pm l4, k⟩ na
theorem along_mid : alongE p q a b = onB (midP p q) a b := by
  have hm := mid_pos hp hq
  obtain ⟨pm, mq⟩ := bef_pm hp hq hpq
  cases hon : onB (midP p q) a b
  · cases hal : alongE p q a b
    · rfl
    · exfalso
      unfold alongE at hal
      simp only [Bool.and_eq_true, decide_eq_true_eq] at hal
      obtain ⟨hs, z1, z2⟩ := hal
      rw [span_bef ha hb hp hne] at hs
      have zm : detM a b (midP p q) = 0 := by rw [mid_det, z1, z2]; simp
      -- both ends lie on the piece's line
      obtain ⟨K, k1, k2, k3, k4, k5, k6, k7⟩ := bnd7 (yv p a) (yv p b) (yv p q) (yv a b) (yv q b) (yv (midP p q) a) (yv (midP p q) b)
      have sw : ∀ u v, yv u v = -yv v u := fun u v => by unfold yv; grind
      have upd : ∀ u v, upB false u v = decide (0 < yv u v) := fun u v => by unfold upB; simp
      have u3 := sh_up k3.1 k3.2
      rw [upd] at u3
      have hY : 0 < yv (shP K p) (shP K q) := by rw [hpq] at u3; exact of_decide_eq_true u3
      have hd : yv (shP K a) (shP K b) ≠ 0 := by
        intro e
        have e' := sw (shP K a) (shP K b)
        have w1 := sh_up k4.1 k4.2
        have w2 := sh_up (K := K) (q := b) (v := a) (by have := sw b a; omega) (by have := sw b a; omega)
        rw [upd] at w1 w2
        rcases hne with h | h
        · rw [h] at w1; have := of_decide_eq_true w1; omega
        · rw [h] at w2; have := of_decide_eq_true w2; omega
      obtain ⟨A0, B0⟩ := col_of hp (by omega) hd z1 z2
      have na : ¬ (befB p a = true ∧ befB a q = true) := fun h => fa h.1 h.2 A0
      have nb : ¬ (befB p b = true ∧ befB b q = true) := fun h => fb h.1 h.2 B0
      simp only [Bool.or_eq_true, Bool.and_eq_true, Bool.not_eq_true'] at hs
      have : withB (midP p q) a b = true := by
        rcases hs with ⟨h1, h2⟩ | ⟨h1, h2⟩
        · have hbq : befB b q = false := by
            cases k : befB b q
            · rfl
            · exact absurd ⟨h2, k⟩ nb
          refine with_ab hm ha hb ?_ ?_
          · cases k : befB (midP p q) a
            · rfl
            · have := bef_lt hm ha hp k (q := p) pm; rw [h1] at this; cases this
          · exact bef_asym (bef_le hm hq hb mq hbq)
        · have haq : befB a q = false := by
            cases k : befB a q
            · rfl
            · exact absurd ⟨h1, k⟩ na
          refine with_ba hm ha hb ?_ ?_
          · cases k : befB (midP p q) b
            · rfl
            · have := bef_lt hm hb hp k (q := p) pm; rw [h2] at this; cases this
          · exact bef_asym (bef_le hm hq ha mq haq)
      unfold onB at hon
      rw [zm, this] at hon
      simp at hon
  · obtain ⟨_, ⟨z1, z2⟩, h⟩ := mid_along hp hq ha hb hpq hne fa fb hx hon
    unfold alongE
    rw [span_bef ha hb hp hne, z1, z2]
    rcases h with ⟨h1, h2⟩ | ⟨h1, h2⟩
    · have : befB p b = true := bef_le hp hq hb hpq h2
      rw [h1, this]; rfl
    · have : befB p a = true := bef_le hp hq ha hpq h2
      rw [h1, this]; rfl
/-- The way past it: on the side that o is on. -/
theorem thr_mid (o : Pt) : thrB o (midP p q) a b = (onB (midP p q) a b && decide (0 < detM p q o)) := by
  unfold thrB
  cases hon : onB (midP p q) a b
  · rfl
  · simp only [Bool.true_and]
    obtain ⟨⟨A0, B0⟩, _, _⟩ := mid_along hp hq ha hb hpq hne fa fb hx hon
    obtain ⟨K, k1, k2, k3, k4, k5, k6, k7⟩ := bnd7 (yv p a) (yv p b) (yv p q) (yv a b) (yv q b) (yv (midP p q) a) (yv (midP p q) b)
    have sw : ∀ u v, yv u v = -yv v u := fun u v => by unfold yv; grind
    have upd : ∀ u v, upB false u v = decide (0 < yv u v) := fun u v => by unfold upB; simp
    have u3 := sh_up k3.1 k3.2
    rw [upd] at u3
    have hY : 0 < yv (shP K p) (shP K q) := by rw [hpq] at u3; exact of_decide_eq_true u3
    have e' := sw (shP K a) (shP K b)
    have w1 := sh_up k4.1 k4.2
    have w2 := sh_up (K := K) (q := b) (v := a) (by have := sw b a; omega) (by have := sw b a; omega)
    rw [upd] at w1 w2
    have pl := plk2 (p := shP K p) (q := shP K q) (a := shP K a) (b := shP K b) (shP K o) (by rw [sh_det]; exact A0) (by rw [sh_det]; exact B0)
    rw [sh_det, sh_det] at pl
    generalize yv (shP K p) (shP K q) = Y at *
    generalize detM a b o = om at *
    generalize detM p q o = tu at *
    rcases hne with h | h
    · have h' := bef_asym h
      rw [h] at w1
      have d := of_decide_eq_true w1
      rw [h, h']
      generalize yv (shP K a) (shP K b) = D at *
      have : (0 < om ↔ 0 < tu) := by
        constructor
        · intro x
          have := mul_pp hY x
          rcases Int.lt_or_le 0 tu with c | c
          · exact c
          · have := mul_gl (Int.le_of_lt d) c; omega
        · intro x
          have := mul_pp d x
          rcases Int.lt_or_le 0 om with c | c
          · exact c
          · have := mul_gl (Int.le_of_lt hY) c; omega
      have e : decide (0 < om) = decide (0 < tu) := decide_eq_decide.2 this
      rw [e]; simp
    · have h' := bef_asym h
      rw [h] at w2
      have d := of_decide_eq_true w2
      rw [h, h']
      have d' : yv (shP K a) (shP K b) < 0 := by omega
      generalize yv (shP K a) (shP K b) = D at *
      have : (om < 0 ↔ 0 < tu) := by
        constructor
        · intro x
          have := mul_pn hY x
          rcases Int.lt_or_le 0 tu with c | c
          · exact c
          · have := mul_ll (Int.le_of_lt d') c; omega
        · intro x
          have := mul_np d' x
          rcases Int.lt_or_le om 0 with c | c
          · exact c
          · have := mul_gg (Int.le_of_lt hY) c; omega
      have e : decide (om < 0) = decide (0 < tu) := decide_eq_decide.2 this
      rw [e]; simp
end
end Go.Proofs.Ytnkcbephceollab
