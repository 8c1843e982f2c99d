import Derived.Test.YtnkcbephceollaaGreatQ0
/- Plain mathematics of Meet: what Swung asks. -/
namespace Go.Proofs.YtnkcbephceollaaGreat
set_option linter.unusedSimpArgs false
set_option linter.unusedVariables false

def sidesM (m n : Int) : Int := if m = 0 ∨ n = 0 then 0 else if (decide (m < 0) == decide (n < 0)) = true then 1 else -1
theorem sides_0 {m n : Int} (h : m = 0 ∨ n = 0) : sidesM m n = 0 := if_pos h
theorem sides_1 {m n : Int} (h0 : ¬ (m = 0 ∨ n = 0)) (h : (decide (m < 0) == decide (n < 0)) = true) : sidesM m n = 1 := (if_neg h0).trans (if_pos h)
theorem sides_2 {m n : Int} (h0 : ¬ (m = 0 ∨ n = 0)) (h : ¬ (decide (m < 0) == decide (n < 0)) = true) : sidesM m n = -1 := (if_neg h0).trans (if_neg h)
def holdsB (a b p : Pt) : Bool := detM a b p == 0 && !(befB p a && befB p b) && !(befB a p && befB b p)

/-- When two of them are on one side. -/
theorem sides_one (m n : Int) : sidesM m n = 1 ↔ (m < 0 ∧ n < 0 ∨ 0 < m ∧ 0 < n) := by
  unfold sidesM
  split
  · omega
  · split
    · rename_i h1 h2
      simp at h2
      omega
    · rename_i h1 h2
      simp at h2
      omega

theorem bef_iff (p q : Pt) : befB p q = true ↔ (p.x * q.d < q.x * p.d ∨ (p.x * q.d = q.x * p.d ∧ p.y * q.d < q.y * p.d)) := by
  unfold befB
  split
  · simp; omega
  · simp; omega
theorem holds_iff (a b p : Pt) : holdsB a b p = true ↔ detM a b p = 0 ∧ ¬ (befB p a = true ∧ befB p b = true) ∧ ¬ (befB a p = true ∧ befB b p = true) := by
  unfold holdsB
  simp only [Bool.and_eq_true, beq_iff_eq, Bool.not_eq_true', Bool.and_eq_false_iff]
  cases befB p a <;> cases befB p b <;> cases befB a p <;> cases befB b p <;> simp

/-! The four determinants. -/
theorem w_mn {a b c d : Pt} (ha : a.d = 1) (hb : b.d = 1) (hc : c.d = 1) (hd : d.d = 1) : crossM (b.x - a.x) (b.y - a.y) (d.x - c.x) (d.y - c.y) = detM a b d - detM a b c := by
  unfold crossM detM; rw [ha, hb, hc, hd]; grind
theorem w_pq {a b c d : Pt} (ha : a.d = 1) (hb : b.d = 1) (hc : c.d = 1) (hd : d.d = 1) : crossM (b.x - a.x) (b.y - a.y) (d.x - c.x) (d.y - c.y) = detM c d a - detM c d b := by
  unfold crossM detM; rw [ha, hb, hc, hd]; grind
theorem s_p {a c d : Pt} (ha : a.d = 1) (hc : c.d = 1) (hd : d.d = 1) : crossM (c.x - a.x) (c.y - a.y) (d.x - c.x) (d.y - c.y) = detM c d a := by
  unfold crossM detM; rw [ha, hc, hd]; grind
theorem t_m {a b c : Pt} (ha : a.d = 1) (hb : b.d = 1) (hc : c.d = 1) : crossM (c.x - a.x) (c.y - a.y) (b.x - a.x) (b.y - a.y) = - detM a b c := by
  unfold crossM detM; rw [ha, hb, hc]; grind
theorem par_m {a b c : Pt} (ha : a.d = 1) (hb : b.d = 1) (hc : c.d = 1) : crossM (b.x - a.x) (b.y - a.y) (c.x - a.x) (c.y - a.y) = detM a b c := by
  unfold crossM detM; rw [ha, hb, hc]; grind

def norm (x y w : Int) : Pt := if w < 0 then ⟨-x, -y, -w⟩ else ⟨x, y, w⟩
theorem norm_neg {x y w : Int} (h : w ≠ 0) : norm (-x) (-y) (-w) = norm x y w := by
  unfold norm
  by_cases g : w < 0
  · rw [if_neg (by omega), if_pos g]
  · rw [if_pos (by omega), if_neg g]; simp
/-- They meet. -/
def goodM (w m n p q : Int) : Prop := w < 0 ∧ p ≤ 0 ∧ 0 ≤ q ∧ 0 ≤ m ∧ n ≤ 0 ∨ 0 < w ∧ 0 ≤ p ∧ q ≤ 0 ∧ m ≤ 0 ∧ 0 ≤ n

theorem across_good {a b c d : Pt} (ha : a.d = 1) (hb : b.d = 1) (hc : c.d = 1) (hd : d.d = 1) (hw : detM a b d - detM a b c ≠ 0)
    (g : goodM (detM a b d - detM a b c) (detM a b c) (detM a b d) (detM c d a) (detM c d b)) :
    acrossM a b c d = ⟨1, leastM (norm (a.x * (detM a b d - detM a b c) + (b.x - a.x) * detM c d a) (a.y * (detM a b d - detM a b c) + (b.y - a.y) * detM c d a) (detM a b d - detM a b c)), zP⟩ := by
  have e1 := w_mn ha hb hc hd
  have e2 := w_pq ha hb hc hd
  have e3 := s_p ha hc hd
  have e4 := t_m ha hb hc
  unfold acrossM
  simp only [e3, e4]
  rw [e1] at e2 ⊢
  generalize detM a b c = m at *
  generalize detM a b d = n at *
  generalize detM c d a = p at *
  generalize detM c d b = q at *
  unfold norm goodM at *
  by_cases h : n - m < 0
  · simp only [if_pos h]
    rw [if_neg (by omega)]
    simp [Int.mul_neg, Int.neg_add]
  · simp only [if_neg h]
    rw [if_neg (by omega)]
theorem across_bad {a b c d : Pt} (ha : a.d = 1) (hb : b.d = 1) (hc : c.d = 1) (hd : d.d = 1) (hw : detM a b d - detM a b c ≠ 0)
    (g : ¬ goodM (detM a b d - detM a b c) (detM a b c) (detM a b d) (detM c d a) (detM c d b)) : acrossM a b c d = zM := by
  have e1 := w_mn ha hb hc hd
  have e2 := w_pq ha hb hc hd
  have e3 := s_p ha hc hd
  have e4 := t_m ha hb hc
  unfold acrossM
  simp only [e3, e4]
  rw [e1] at e2 ⊢
  generalize detM a b c = m at *
  generalize detM a b d = n at *
  generalize detM c d a = p at *
  generalize detM c d b = q at *
  unfold goodM at *
  by_cases h : n - m < 0
  · simp only [if_pos h]
    rw [if_pos (by omega)]
  · simp only [if_neg h]
    rw [if_pos (by omega)]

end Go.Proofs.YtnkcbephceollaaGreat
