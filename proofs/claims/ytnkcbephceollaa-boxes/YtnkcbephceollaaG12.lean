import Derived.Test.YtnkcbephceollaaG11
namespace Go.Proofs.Ytnkcbephceollaa
set_option linter.unusedVariables false
set_option linter.unusedSimpArgs false

/-- In least terms. -/
def Canon (p : Pt) : Prop := 0 < p.d ∧ gcdM (gcdM p.x p.y) p.d = 1
/-- A good point in least terms. -/
def Nice (p : Pt) : Prop := goodB p = true ∧ Canon p
theorem Nice.d {p : Pt} (h : Nice p) : 0 < p.d := h.2.1
theorem nice_gr {p : Pt} (h : Gr p) : Nice p := by
  have h1 := h.x; have h2 := h.y; have h3 := h.d
  unfold In at h1 h2
  refine ⟨by unfold goodB; rw [h3]; exact decide_eq_true (by omega), by omega, ?_⟩
  unfold gcdM; rw [h3]; simp
theorem gcd_dv {k x y d : Int} (h1 : k ∣ x) (h2 : k ∣ y) (h3 : k ∣ d) : k ∣ gcdM (gcdM x y) d := Int.dvd_coe_gcd (Int.dvd_coe_gcd h1 h2) h3
theorem canon_least {p : Pt} (hd : 0 < p.d) : Canon (leastM p) := by
  refine ⟨least_d hd, ?_⟩
  have hg : gcdM (gcdM p.x p.y) p.d ≠ 0 := by
    unfold gcdM; intro h
    have h' : Int.gcd (↑(p.x.gcd p.y)) p.d = 0 := by omega
    have := (Int.gcd_eq_zero_iff.1 h').2
    omega
  have h0 : 0 ≤ gcdM (gcdM p.x p.y) p.d := by unfold gcdM; omega
  have hD : gcdM (gcdM p.x p.y) p.d ∣ p.d := Int.gcd_dvd_right ..
  have hG : gcdM (gcdM p.x p.y) p.d ∣ gcdM p.x p.y := Int.gcd_dvd_left ..
  have hX : gcdM (gcdM p.x p.y) p.d ∣ p.x := Int.dvd_trans hG (Int.gcd_dvd_left ..)
  have hY : gcdM (gcdM p.x p.y) p.d ∣ p.y := Int.dvd_trans hG (Int.gcd_dvd_right ..)
  have el : leastM p = ⟨p.x.tdiv (gcdM (gcdM p.x p.y) p.d), p.y.tdiv (gcdM (gcdM p.x p.y) p.d), p.d.tdiv (gcdM (gcdM p.x p.y) p.d)⟩ := if_neg hg
  rw [el]
  have ex := Int.tdiv_mul_cancel hX
  have ey := Int.tdiv_mul_cancel hY
  have ed := Int.tdiv_mul_cancel hD
  generalize hGG : gcdM (gcdM p.x p.y) p.d = G at *
  generalize p.x.tdiv G = x at *
  generalize p.y.tdiv G = y at *
  generalize p.d.tdiv G = d at *
  simp only
  have k1 : gcdM (gcdM x y) d ∣ d := Int.gcd_dvd_right ..
  have k2 : gcdM (gcdM x y) d ∣ gcdM x y := Int.gcd_dvd_left ..
  have k3 : gcdM (gcdM x y) d ∣ x := Int.dvd_trans k2 (Int.gcd_dvd_left ..)
  have k4 : gcdM (gcdM x y) d ∣ y := Int.dvd_trans k2 (Int.gcd_dvd_right ..)
  have kk : gcdM (gcdM x y) d * G ∣ G := by
    have := gcd_dv (k := gcdM (gcdM x y) d * G) (x := p.x) (y := p.y) (d := p.d) (by rw [← ex]; exact Int.mul_dvd_mul k3 (Int.dvd_refl _)) (by rw [← ey]; exact Int.mul_dvd_mul k4 (Int.dvd_refl _)) (by rw [← ed]; exact Int.mul_dvd_mul k1 (Int.dvd_refl _))
    rw [hGG] at this
    exact this
  have k0 : 0 ≤ gcdM (gcdM x y) d := by unfold gcdM; omega
  obtain ⟨c, hc⟩ := kk
  have : gcdM (gcdM x y) d * c = 1 := by
    have e : G * (gcdM (gcdM x y) d * c) = G * 1 := by rw [Int.mul_one]; rw [show G * (gcdM (gcdM x y) d * c) = gcdM (gcdM x y) d * G * c by grind]; exact hc.symm
    exact Int.eq_of_mul_eq_mul_left hg e
  exact Int.eq_one_of_dvd_one k0 ⟨c, this.symm⟩
theorem dvd_den {p q : Pt} (hp : Canon p) (hq : 0 < q.d) (hx : p.x * q.d = q.x * p.d) (hy : p.y * q.d = q.y * p.d) : p.d ∣ q.d := by
  have h1 : p.d ∣ q.d * p.x := ⟨q.x, by rw [Int.mul_comm q.d, hx, Int.mul_comm]⟩
  have h2 : p.d ∣ q.d * p.y := ⟨q.y, by rw [Int.mul_comm q.d, hy, Int.mul_comm]⟩
  have h3 : p.d ∣ q.d * p.d := ⟨q.d, by rw [Int.mul_comm]⟩
  have g1 : p.d ∣ (Int.gcd (q.d * p.x) (q.d * p.y) : Int) := Int.dvd_coe_gcd h1 h2
  rw [Int.gcd_mul_left] at g1
  have e1 : ((q.d.natAbs * p.x.gcd p.y : Nat) : Int) = q.d * gcdM p.x p.y := by unfold gcdM; rw [Int.natCast_mul]; congr 1; omega
  rw [e1] at g1
  have g2 : p.d ∣ (Int.gcd (q.d * gcdM p.x p.y) (q.d * p.d) : Int) := Int.dvd_coe_gcd g1 h3
  rw [Int.gcd_mul_left] at g2
  have e2 : ((q.d.natAbs * (gcdM p.x p.y).gcd p.d : Nat) : Int) = q.d * gcdM (gcdM p.x p.y) p.d := by
    rw [Int.natCast_mul]
    have : ((q.d.natAbs : Nat) : Int) = q.d := by omega
    rw [this]; rfl
  rw [e2, hp.2, Int.mul_one] at g2
  exact g2
/-- In least terms one place is one point. -/
theorem canon_eq {p q : Pt} (hp : Canon p) (hq : Canon q) (h1 : befB p q = false) (h2 : befB q p = false) : p = q := by
  rw [bef_false] at h1 h2
  have hx : p.x * q.d = q.x * p.d := by omega
  have hy : p.y * q.d = q.y * p.d := by omega
  have d1 := dvd_den hp hq.1 hx hy
  have d2 := dvd_den hq hp.1 hx.symm hy.symm
  have ed : p.d = q.d := Int.le_antisymm (Int.le_of_dvd hq.1 d1) (Int.le_of_dvd hp.1 d2)
  have pd := hp.1
  refine Pt.ext' ?_ ?_ ed
  · rw [ed] at hx; exact Int.eq_of_mul_eq_mul_right (by omega) hx
  · rw [ed] at hy; exact Int.eq_of_mul_eq_mul_right (by omega) hy

theorem mix64 {a b W S : Int} (ha : In a 64) (hb : In b 64) (h0 : 0 ≤ S) (h1 : S ≤ W) : In (a * W + (b - a) * S) (64 * W) := by
  rw [mixEq]
  have e1 := ha.mul (In.mk (a := W - S) (A := W - S) (by omega) (by omega))
  have e2 := hb.mul (In.mk (a := S) (A := S) (by omega) (by omega))
  have := e1.add e2
  unfold In at *; omega
theorem nice_least {p : Pt} (hd : 0 < p.d) (hg : Gd p) (hx : In p.x (64 * p.d)) (hy : In p.y (64 * p.d)) : Nice (leastM p) := by
  refine ⟨?_, canon_least hd⟩
  obtain ⟨g, g0, e⟩ := least_mul hd
  have ex : p.x = (leastM p).x * g := congrArg Pt.x e
  have ey : p.y = (leastM p).y * g := congrArg Pt.y e
  have ed : p.d = (leastM p).d * g := congrArg Pt.d e
  have hgd := least_gd hd hg
  have ld := least_d hd
  have dd := hgd.d
  have key : ∀ z w : Int, z = w * g → In z (64 * p.d) → -(64 * (leastM p).d) ≤ w ∧ w ≤ 64 * (leastM p).d := fun z w hz h => by
    unfold In at h
    have e1 : 64 * p.d = (64 * (leastM p).d) * g := by rw [ed]; grind
    rw [e1, hz] at h
    constructor
    · refine Int.le_of_mul_le_mul_right ?_ g0
      have : -(64 * (leastM p).d) * g = -(64 * (leastM p).d * g) := by grind
      omega
    · exact Int.le_of_mul_le_mul_right h.2 g0
  have kx := key _ _ ex hx
  have ky := key _ _ ey hy
  unfold In at dd
  unfold goodB
  exact decide_eq_true (by omega)
/-- What two edges have in common is told by good points in least terms. -/
theorem meet_nice {a b c d : Pt} (ha : Gr a) (hb : Gr b) (hc : Gr c) (hd : Gr d) : (meetM a b c d).k = 0 ∨ ((meetM a b c d).k = 1 ∧ Nice (meetM a b c d).p) ∨ ((meetM a b c d).k = 2 ∧ Nice (meetM a b c d).p ∧ Nice (meetM a b c d).q) := by
  rw [meet_eq ha.d hb.d hc.d hd.d]
  by_cases hw : detM a b d - detM a b c = 0
  · rw [if_pos hw]
    by_cases m : detM a b c = 0
    · rw [if_neg (show ¬ (detM a b c ≠ 0) by omega)]
      have gf := nice_gr (lastM_gr (firstM_gr ha hb) (firstM_gr hc hd))
      have gt := nice_gr (firstM_gr (lastM_gr ha hb) (lastM_gr hc hd))
      unfold lineM
      simp only
      split
      · exact .inl rfl
      · split
        · exact .inr (.inl ⟨rfl, gf⟩)
        · exact .inr (.inr ⟨rfl, gf, gt⟩)
    · rw [if_pos m]; exact .inl rfl
  · rw [if_neg hw]
    by_cases g : goodM (detM a b d - detM a b c) (detM a b c) (detM a b d) (detM c d a) (detM c d b)
    · rw [across_good ha.d hb.d hc.d hd.d hw g]
      refine .inr (.inl ⟨rfl, ?_⟩)
      obtain ⟨P, hP, h1, h2, h3, h4⟩ := crossPt ha hb hc hd hw g
      have hb' : In P.x (64 * P.d) ∧ In P.y (64 * P.d) := by
        rw [← hP]
        unfold norm
        unfold goodM at g
        have e := pq_mn ha.d hb.d hc.d hd.d
        by_cases h : detM a b d - detM a b c < 0
        · rw [if_pos h]
          simp only
          have ex : -(a.x * (detM a b d - detM a b c) + (b.x - a.x) * detM c d a) = a.x * (-(detM a b d - detM a b c)) + (b.x - a.x) * (-detM c d a) := by grind
          have ey : -(a.y * (detM a b d - detM a b c) + (b.y - a.y) * detM c d a) = a.y * (-(detM a b d - detM a b c)) + (b.y - a.y) * (-detM c d a) := by grind
          rw [ex, ey]
          exact ⟨mix64 ha.x hb.x (by omega) (by omega), mix64 ha.y hb.y (by omega) (by omega)⟩
        · rw [if_neg h]
          exact ⟨mix64 ha.x hb.x (by omega) (by omega), mix64 ha.y hb.y (by omega) (by omega)⟩
      rw [hP]
      exact nice_least h2 h1 hb'.1 hb'.2
    · rw [across_bad ha.d hb.d hc.d hd.d hw g]; exact .inl rfl
end Go.Proofs.Ytnkcbephceollaa
