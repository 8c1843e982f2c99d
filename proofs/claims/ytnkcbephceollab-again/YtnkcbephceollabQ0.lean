
/- Plain mathematics: points, how segments meet. Imports nothing of the program. -/
namespace Go.Proofs.Ytnkcbephceollab

structure Pt where
  x : Int
  y : Int
  d : Int
structure Mt where
  k : Int
  p : Pt
  q : Pt

theorem Pt.ext' {p q : Pt} (h1 : p.x = q.x) (h2 : p.y = q.y) (h3 : p.d = q.d) : p = q := by
  cases p; cases q; simp_all
theorem Mt.ext' {p q : Mt} (h1 : p.k = q.k) (h2 : p.p = q.p) (h3 : p.q = q.q) : p = q := by
  cases p; cases q; simp_all

/-- Between -A and A. -/
def In (a A : Int) : Prop := -A ≤ a ∧ a ≤ A
theorem In.mk {a A : Int} (h1 : -A ≤ a) (h2 : a ≤ A) : In a A := ⟨h1, h2⟩
theorem In.lo {a A : Int} (h : In a A) : -A ≤ a := h.1
theorem In.hi {a A : Int} (h : In a A) : a ≤ A := h.2
theorem In.nonneg {a A : Int} (h : In a A) : 0 ≤ A := by have := h.1; have := h.2; omega
theorem In.add {a b A B : Int} (h : In a A) (g : In b B) : In (a + b) (A + B) := by unfold In at *; omega
theorem In.sub {a b A B : Int} (h : In a A) (g : In b B) : In (a - b) (A + B) := by unfold In at *; omega
theorem In.neg {a A : Int} (h : In a A) : In (-a) A := by unfold In at *; omega
theorem In.mono {a A B : Int} (h : In a A) (g : A ≤ B) : In a B := by unfold In at *; omega
theorem In.mul {a b A B : Int} (h : In a A) (g : In b B) : In (a * b) (A * B) := by
  have hA := h.nonneg
  have hB := g.nonneg
  have h1 : a.natAbs ≤ A.natAbs := by unfold In at h; omega
  have h2 : b.natAbs ≤ B.natAbs := by unfold In at g; omega
  have h3 : (a * b).natAbs ≤ (A * B).natAbs := by rw [Int.natAbs_mul, Int.natAbs_mul]; exact Nat.mul_le_mul h1 h2
  have h4 : 0 ≤ A * B := Int.mul_nonneg hA hB
  unfold In; omega

/-- A point whose numbers are no greater than a good point's may be. -/
structure Gd (p : Pt) : Prop where
  x : In p.x 2097152
  y : In p.y 2097152
  d : In p.d 32768
/-- A grid point. -/
structure Gr (p : Pt) : Prop where
  x : In p.x 64
  y : In p.y 64
  d : p.d = 1
theorem Gr.gd {p : Pt} (h : Gr p) : Gd p := ⟨h.x.mono (by decide), h.y.mono (by decide), by rw [h.d]; exact ⟨by decide, by decide⟩⟩

def detM (a b c : Pt) : Int := a.x * (b.y * c.d - c.y * b.d) - a.y * (b.x * c.d - c.x * b.d) + a.d * (b.x * c.y - c.x * b.y)
def befB (p q : Pt) : Bool := if p.x * q.d ≠ q.x * p.d then decide (p.x * q.d < q.x * p.d) else decide (p.y * q.d < q.y * p.d)
def cmpM (p q : Pt) : Int := if p.x * q.d - q.x * p.d ≠ 0 then p.x * q.d - q.x * p.d else p.y * q.d - q.y * p.d
def firstM (p q : Pt) : Pt := if cmpM q p < 0 then q else p
def lastM (p q : Pt) : Pt := if cmpM q p > 0 then q else p
def gridB (p : Pt) : Bool := decide (p.d = 1 ∧ -64 ≤ p.x ∧ p.x ≤ 64 ∧ -64 ≤ p.y ∧ p.y ≤ 64)
def goodB (p : Pt) : Bool := decide (1 ≤ p.d ∧ p.d ≤ 32768 ∧ -(64 * p.d) ≤ p.x ∧ p.x ≤ 64 * p.d ∧ -(64 * p.d) ≤ p.y ∧ p.y ≤ 64 * p.d)
theorem grid_of (p : Pt) (h : p.d = 1) : goodB p = gridB p := by unfold goodB gridB; simp [h]
theorem grid_no (p : Pt) (h : p.d ≠ 1) : gridB p = false := by unfold gridB; simp [h]
def gcdM (a b : Int) : Int := (Int.gcd a b : Int)
def leastM (p : Pt) : Pt := if gcdM (gcdM p.x p.y) p.d = 0 then p else ⟨p.x.tdiv (gcdM (gcdM p.x p.y) p.d), p.y.tdiv (gcdM (gcdM p.x p.y) p.d), p.d.tdiv (gcdM (gcdM p.x p.y) p.d)⟩
def crossM (ax ay bx by' : Int) : Int := ax * by' - ay * bx
def zP : Pt := ⟨0, 0, 0⟩
def zM : Mt := ⟨0, zP, zP⟩
/-- Not parallel. -/
def acrossM (a b c d : Pt) : Mt :=
  let w := crossM (b.x - a.x) (b.y - a.y) (d.x - c.x) (d.y - c.y)
  let s := crossM (c.x - a.x) (c.y - a.y) (d.x - c.x) (d.y - c.y)
  let t := crossM (c.x - a.x) (c.y - a.y) (b.x - a.x) (b.y - a.y)
  let w' := if w < 0 then -w else w
  let s' := if w < 0 then -s else s
  let t' := if w < 0 then -t else t
  if s' < 0 ∨ s' > w' ∨ t' < 0 ∨ t' > w' then zM
  else ⟨1, leastM ⟨a.x * w' + (b.x - a.x) * s', a.y * w' + (b.y - a.y) * s', w'⟩, zP⟩
def lineM (a b c d : Pt) : Mt :=
  let f := lastM (firstM a b) (firstM c d)
  let t := firstM (lastM a b) (lastM c d)
  if cmpM f t > 0 then zM else if cmpM f t = 0 then ⟨1, f, zP⟩ else ⟨2, f, t⟩
def parM (a b c d : Pt) : Mt := if crossM (b.x - a.x) (b.y - a.y) (c.x - a.x) (c.y - a.y) ≠ 0 then zM else lineM a b c d
def meetM (a b c d : Pt) : Mt := if crossM (b.x - a.x) (b.y - a.y) (d.x - c.x) (d.y - c.y) = 0 then parM a b c d else acrossM a b c d

theorem det_in {a b c : Pt} (ha : Gd a) (hb : Gd b) (hc : Gd c) : In (detM a b c) 1152921504606846976 :=
  ((((ha.x.mul ((hb.y.mul hc.d).sub (hc.y.mul hb.d))).sub (ha.y.mul ((hb.x.mul hc.d).sub (hc.x.mul hb.d)))).add (ha.d.mul ((hb.x.mul hc.y).sub (hc.x.mul hb.y))))).mono (by decide)
theorem firstM_gd {p q : Pt} (hp : Gd p) (hq : Gd q) : Gd (firstM p q) := by unfold firstM; split <;> assumption
theorem lastM_gd {p q : Pt} (hp : Gd p) (hq : Gd q) : Gd (lastM p q) := by unfold lastM; split <;> assumption
theorem firstM_gr {p q : Pt} (hp : Gr p) (hq : Gr q) : Gr (firstM p q) := by unfold firstM; split <;> assumption
theorem lastM_gr {p q : Pt} (hp : Gr p) (hq : Gr q) : Gr (lastM p q) := by unfold lastM; split <;> assumption
end Go.Proofs.Ytnkcbephceollab
/- Plain mathematics of Meet: what Swung asks. -/
namespace Go.Proofs.Ytnkcbephceollab
set_option linter.unusedSimpArgs false
set_option linter.unusedVariables false

def sidesM (m n : Int) : Int := if m = 0 ∨ n = 0 then 0 else if (decide (m < 0) == decide (n < 0)) = true then 1 else -1
theorem sides_0 {m n : Int} (h : m = 0 ∨ n = 0) : sidesM m n = 0 := if_pos h
theorem sides_1 {m n : Int} (h0 : ¬ (m = 0 ∨ n = 0)) (h : (decide (m < 0) == decide (n < 0)) = true) : sidesM m n = 1 := (if_neg h0).trans (if_pos h)
theorem sides_2 {m n : Int} (h0 : ¬ (m = 0 ∨ n = 0)) (h : ¬ (decide (m < 0) == decide (n < 0)) = true) : sidesM m n = -1 := (if_neg h0).trans (if_neg h)
def holdsB (a b p : Pt) : Bool := detM a b p == 0 && !(befB p a && befB p b) && !(befB a p && befB b p)

/-- When two of them are on one side. -/
theorem sides_one (m n : Int) : sidesM m n = 1 ↔ (m < 0 ∧ n < 0 ∨ 0 < m ∧ 0 < n) := by
  unfold sidesM
  split
  · omega
  · split
    · rename_i h1 h2
      simp at h2
      omega
    · rename_i h1 h2
      simp at h2
      omega

theorem bef_iff (p q : Pt) : befB p q = true ↔ (p.x * q.d < q.x * p.d ∨ (p.x * q.d = q.x * p.d ∧ p.y * q.d < q.y * p.d)) := by
  unfold befB
  split
  · simp; omega
  · simp; omega
theorem holds_iff (a b p : Pt) : holdsB a b p = true ↔ detM a b p = 0 ∧ ¬ (befB p a = true ∧ befB p b = true) ∧ ¬ (befB a p = true ∧ befB b p = true) := by
  unfold holdsB
  simp only [Bool.and_eq_true, beq_iff_eq, Bool.not_eq_true', Bool.and_eq_false_iff]
  cases befB p a <;> cases befB p b <;> cases befB a p <;> cases befB b p <;> simp

/-! The four determinants. -/
theorem w_mn {a b c d : Pt} (ha : a.d = 1) (hb : b.d = 1) (hc : c.d = 1) (hd : d.d = 1) : crossM (b.x - a.x) (b.y - a.y) (d.x - c.x) (d.y - c.y) = detM a b d - detM a b c := by
  unfold crossM detM; rw [ha, hb, hc, hd]; grind
theorem w_pq {a b c d : Pt} (ha : a.d = 1) (hb : b.d = 1) (hc : c.d = 1) (hd : d.d = 1) : crossM (b.x - a.x) (b.y - a.y) (d.x - c.x) (d.y - c.y) = detM c d a - detM c d b := by
  unfold crossM detM; rw [ha, hb, hc, hd]; grind
theorem s_p {a c d : Pt} (ha : a.d = 1) (hc : c.d = 1) (hd : d.d = 1) : crossM (c.x - a.x) (c.y - a.y) (d.x - c.x) (d.y - c.y) = detM c d a := by
  unfold crossM detM; rw [ha, hc, hd]; grind
theorem t_m {a b c : Pt} (ha : a.d = 1) (hb : b.d = 1) (hc : c.d = 1) : crossM (c.x - a.x) (c.y - a.y) (b.x - a.x) (b.y - a.y) = - detM a b c := by
  unfold crossM detM; rw [ha, hb, hc]; grind
theorem par_m {a b c : Pt} (ha : a.d = 1) (hb : b.d = 1) (hc : c.d = 1) : crossM (b.x - a.x) (b.y - a.y) (c.x - a.x) (c.y - a.y) = detM a b c := by
  unfold crossM detM; rw [ha, hb, hc]; grind

def norm (x y w : Int) : Pt := if w < 0 then ⟨-x, -y, -w⟩ else ⟨x, y, w⟩
theorem norm_neg {x y w : Int} (h : w ≠ 0) : norm (-x) (-y) (-w) = norm x y w := by
  unfold norm
  by_cases g : w < 0
  · rw [if_neg (by omega), if_pos g]
  · rw [if_pos (by omega), if_neg g]; simp
/-- They meet. -/
def goodM (w m n p q : Int) : Prop := w < 0 ∧ p ≤ 0 ∧ 0 ≤ q ∧ 0 ≤ m ∧ n ≤ 0 ∨ 0 < w ∧ 0 ≤ p ∧ q ≤ 0 ∧ m ≤ 0 ∧ 0 ≤ n

theorem across_good {a b c d : Pt} (ha : a.d = 1) (hb : b.d = 1) (hc : c.d = 1) (hd : d.d = 1) (hw : detM a b d - detM a b c ≠ 0)
    (g : goodM (detM a b d - detM a b c) (detM a b c) (detM a b d) (detM c d a) (detM c d b)) :
    acrossM a b c d = ⟨1, leastM (norm (a.x * (detM a b d - detM a b c) + (b.x - a.x) * detM c d a) (a.y * (detM a b d - detM a b c) + (b.y - a.y) * detM c d a) (detM a b d - detM a b c)), zP⟩ := by
  have e1 := w_mn ha hb hc hd
  have e2 := w_pq ha hb hc hd
  have e3 := s_p ha hc hd
  have e4 := t_m ha hb hc
  unfold acrossM
  simp only [e3, e4]
  rw [e1] at e2 ⊢
  generalize detM a b c = m at *
  generalize detM a b d = n at *
  generalize detM c d a = p at *
  generalize detM c d b = q at *
  unfold norm goodM at *
  by_cases h : n - m < 0
  · simp only [if_pos h]
    rw [if_neg (by omega)]
    simp [Int.mul_neg, Int.neg_add]
  · simp only [if_neg h]
    rw [if_neg (by omega)]
theorem across_bad {a b c d : Pt} (ha : a.d = 1) (hb : b.d = 1) (hc : c.d = 1) (hd : d.d = 1) (hw : detM a b d - detM a b c ≠ 0)
    (g : ¬ goodM (detM a b d - detM a b c) (detM a b c) (detM a b d) (detM c d a) (detM c d b)) : acrossM a b c d = zM := by
  have e1 := w_mn ha hb hc hd
  have e2 := w_pq ha hb hc hd
  have e3 := s_p ha hc hd
  have e4 := t_m ha hb hc
  unfold acrossM
  simp only [e3, e4]
  rw [e1] at e2 ⊢
  generalize detM a b c = m at *
  generalize detM a b d = n at *
  generalize detM c d a = p at *
  generalize detM c d b = q at *
  unfold goodM at *
  by_cases h : n - m < 0
  · simp only [if_pos h]
    rw [if_pos (by omega)]
  · simp only [if_neg h]
    rw [if_pos (by omega)]

end Go.Proofs.Ytnkcbephceollab
/- Plain mathematics of Meet, continued: which way, which first; what is common is on both. -/
namespace Go.Proofs.Ytnkcbephceollab
set_option linter.unusedSimpArgs false
set_option linter.unusedVariables false

theorem det_swap (a b c : Pt) : detM b a c = - detM a b c := by unfold detM; grind
theorem det_left (a b : Pt) : detM a b a = 0 := by unfold detM; grind
theorem det_right (a b : Pt) : detM a b b = 0 := by unfold detM; grind
theorem x_cd {a b c d : Pt} (ha : a.d = 1) (hb : b.d = 1) (hc : c.d = 1) (hd : d.d = 1) : c.x * (detM a b d - detM a b c) + (d.x - c.x) * (- detM a b c) = a.x * (detM a b d - detM a b c) + (b.x - a.x) * detM c d a := by
  unfold detM; rw [ha, hb, hc, hd]; grind
theorem y_cd {a b c d : Pt} (ha : a.d = 1) (hb : b.d = 1) (hc : c.d = 1) (hd : d.d = 1) : c.y * (detM a b d - detM a b c) + (d.y - c.y) * (- detM a b c) = a.y * (detM a b d - detM a b c) + (b.y - a.y) * detM c d a := by
  unfold detM; rw [ha, hb, hc, hd]; grind
theorem pq_mn {a b c d : Pt} (ha : a.d = 1) (hb : b.d = 1) (hc : c.d = 1) (hd : d.d = 1) : detM c d a - detM c d b = detM a b d - detM a b c := by
  rw [← w_mn ha hb hc hd, w_pq ha hb hc hd]
/-- All four on one line. -/
theorem col {a b c d : Pt} (ha : a.d = 1) (hb : b.d = 1) (hc : c.d = 1) (hd : d.d = 1) (hab : a ≠ b) (h : detM a b c = 0) (g : detM a b d = 0) : detM c d a = 0 ∧ detM c d b = 0 := by
  have e := pq_mn ha hb hc hd
  have hx : (b.x - a.x) * detM c d a = 0 := by
    have : (b.x - a.x) * detM c d a = (d.x - c.x) * (- detM a b c) + (c.x - a.x) * (detM a b d - detM a b c) := by
      have := x_cd ha hb hc hd; grind
    rw [this, h, g]; simp
  have hy : (b.y - a.y) * detM c d a = 0 := by
    have : (b.y - a.y) * detM c d a = (d.y - c.y) * (- detM a b c) + (c.y - a.y) * (detM a b d - detM a b c) := by
      have := y_cd ha hb hc hd; grind
    rw [this, h, g]; simp
  have hp : detM c d a = 0 := by
    rcases Int.mul_eq_zero.1 hx with h1 | h1
    · rcases Int.mul_eq_zero.1 hy with h2 | h2
      · exact absurd (Pt.ext' (by omega) (by omega) (by omega)) hab
      · exact h2
    · exact h1
  exact ⟨hp, by omega⟩

/-! The order of grid points. -/
def L (p q : Pt) : Prop := p.x < q.x ∨ (p.x = q.x ∧ p.y < q.y)
theorem cmp_neg {p q : Pt} (hp : p.d = 1) (hq : q.d = 1) : cmpM p q < 0 ↔ L p q := by unfold cmpM L; rw [hp, hq]; simp only [Int.mul_one]; split <;> omega
theorem cmp_pos {p q : Pt} (hp : p.d = 1) (hq : q.d = 1) : 0 < cmpM p q ↔ L q p := by unfold cmpM L; rw [hp, hq]; simp only [Int.mul_one]; split <;> omega
theorem cmp_zero {p q : Pt} (hp : p.d = 1) (hq : q.d = 1) : cmpM p q = 0 ↔ p = q := by
  constructor
  · intro h
    have : p.x = q.x ∧ p.y = q.y := by unfold cmpM at h; rw [hp, hq] at h; simp only [Int.mul_one] at h; split at h <;> omega
    exact Pt.ext' this.1 this.2 (by omega)
  · rintro rfl; unfold cmpM; simp
theorem bef_L {p q : Pt} (hp : p.d = 1) (hq : q.d = 1) : befB p q = true ↔ L p q := by rw [bef_iff, hp, hq]; unfold L; simp only [Int.mul_one]
theorem L_tri {p q : Pt} (hp : p.d = 1) (hq : q.d = 1) : L p q ∨ p = q ∨ L q p := by
  by_cases h : p = q
  · exact .inr (.inl h)
  · have : ¬ (p.x = q.x ∧ p.y = q.y) := fun e => h (Pt.ext' e.1 e.2 (by omega))
    unfold L; omega
theorem L_asym {p q : Pt} (h : L p q) : ¬ L q p := by unfold L at *; omega
theorem L_trans {p q r : Pt} (h : L p q) (g : L q r) : L p r := by unfold L at *; omega
theorem L_le {p q r : Pt} (h : L p q) (g : ¬ L r q) : L p r := by unfold L at *; omega
theorem L_le' {p q r : Pt} (h : ¬ L q p) (g : L q r) : L p r := by unfold L at *; omega
theorem first_cases (p q : Pt) : firstM p q = p ∨ firstM p q = q := by unfold firstM; split <;> simp
theorem last_cases (p q : Pt) : lastM p q = p ∨ lastM p q = q := by unfold lastM; split <;> simp
theorem first_le {p q : Pt} (hp : p.d = 1) (hq : q.d = 1) : ¬ L p (firstM p q) ∧ ¬ L q (firstM p q) := by
  unfold firstM; split
  · rename_i h; rw [cmp_neg hq hp] at h; exact ⟨L_asym h, fun e => L_asym e e⟩
  · rename_i h; rw [cmp_neg hq hp] at h; exact ⟨fun e => L_asym e e, h⟩
theorem last_ge {p q : Pt} (hp : p.d = 1) (hq : q.d = 1) : ¬ L (lastM p q) p ∧ ¬ L (lastM p q) q := by
  unfold lastM; split
  · rename_i h; have h := (cmp_pos hq hp).1 h; exact ⟨L_asym h, fun e => L_asym e e⟩
  · rename_i h; have h := fun e => h ((cmp_pos hq hp).2 e); exact ⟨fun e => L_asym e e, h⟩
theorem first_d {p q : Pt} (hp : p.d = 1) (hq : q.d = 1) : (firstM p q).d = 1 := by rcases first_cases p q with h | h <;> rw [h] <;> assumption
theorem last_d {p q : Pt} (hp : p.d = 1) (hq : q.d = 1) : (lastM p q).d = 1 := by rcases last_cases p q with h | h <;> rw [h] <;> assumption
theorem L_anti {p q : Pt} (hp : p.d = 1) (hq : q.d = 1) (h : ¬ L p q) (g : ¬ L q p) : p = q := (L_tri hp hq).elim (fun e => absurd e h) (fun e => e.elim id (fun e => absurd e g))
theorem first_comm {p q : Pt} (hp : p.d = 1) (hq : q.d = 1) : firstM p q = firstM q p := by
  refine L_anti (first_d hp hq) (first_d hq hp) ?_ ?_
  · rcases first_cases p q with h | h <;> rw [h]
    · exact (first_le hq hp).2
    · exact (first_le hq hp).1
  · rcases first_cases q p with h | h <;> rw [h]
    · exact (first_le hp hq).2
    · exact (first_le hp hq).1
theorem last_comm {p q : Pt} (hp : p.d = 1) (hq : q.d = 1) : lastM p q = lastM q p := by
  refine L_anti (last_d hp hq) (last_d hq hp) ?_ ?_
  · rcases last_cases q p with h | h <;> rw [h]
    · exact (last_ge hp hq).2
    · exact (last_ge hp hq).1
  · rcases last_cases p q with h | h <;> rw [h]
    · exact (last_ge hq hp).2
    · exact (last_ge hq hp).1
theorem first_self (p : Pt) : firstM p p = p := by rcases first_cases p p with h | h <;> exact h
theorem last_self (p : Pt) : lastM p p = p := by rcases last_cases p p with h | h <;> exact h

theorem line_sym1 {a b c d : Pt} (ha : a.d = 1) (hb : b.d = 1) (hc : c.d = 1) (hd : d.d = 1) : lineM d c a b = lineM a b c d := by
  unfold lineM
  rw [first_comm hd hc, last_comm hd hc, last_comm (first_d hc hd) (first_d ha hb), first_comm (last_d hc hd) (last_d ha hb)]
theorem line_sym2 {a b c d : Pt} (ha : a.d = 1) (hb : b.d = 1) : lineM b a c d = lineM a b c d := by
  unfold lineM
  rw [first_comm hb ha, last_comm hb ha]

theorem meet_eq {a b c d : Pt} (ha : a.d = 1) (hb : b.d = 1) (hc : c.d = 1) (hd : d.d = 1) :
    meetM a b c d = if detM a b d - detM a b c = 0 then (if detM a b c ≠ 0 then zM else lineM a b c d) else acrossM a b c d := by
  unfold meetM parM; rw [w_mn ha hb hc hd, par_m ha hb hc]

theorem meet_sym1 {a b c d : Pt} (ha : a.d = 1) (hb : b.d = 1) (hc : c.d = 1) (hd : d.d = 1) (hab : a ≠ b) (hcd : c ≠ d) : meetM d c a b = meetM a b c d := by
  rw [meet_eq ha hb hc hd, meet_eq hd hc ha hb]
  have e := pq_mn ha hb hc hd
  have s1 := det_swap c d a
  have s2 := det_swap c d b
  by_cases hw : detM a b d - detM a b c = 0
  · rw [if_pos hw, if_pos (by omega)]
    by_cases hm : detM a b c = 0
    · have := col ha hb hc hd hab hm (by omega)
      rw [if_neg (show ¬ (detM d c a ≠ 0) by omega), if_neg (show ¬ (detM a b c ≠ 0) by omega), line_sym1 ha hb hc hd]
    · rw [if_pos hm]
      by_cases hp : detM d c a = 0
      · have := col hd hc ha hb (Ne.symm hcd) hp (by omega)
        have t1 := det_swap a b c; have t2 := det_swap a b d
        omega
      · rw [if_pos hp]
  · rw [if_neg hw, if_neg (by omega)]
    by_cases g : goodM (detM a b d - detM a b c) (detM a b c) (detM a b d) (detM c d a) (detM c d b)
    · rw [across_good ha hb hc hd hw g, across_good hd hc ha hb (by omega) (by rw [s1, s2]; unfold goodM at *; omega)]
      have ew : detM d c b - detM d c a = detM a b d - detM a b c := by omega
      rw [ew]
      have ex : d.x * (detM a b d - detM a b c) + (c.x - d.x) * detM a b d = a.x * (detM a b d - detM a b c) + (b.x - a.x) * detM c d a := by rw [← x_cd ha hb hc hd]; grind
      have ey : d.y * (detM a b d - detM a b c) + (c.y - d.y) * detM a b d = a.y * (detM a b d - detM a b c) + (b.y - a.y) * detM c d a := by rw [← y_cd ha hb hc hd]; grind
      rw [ex, ey]
    · rw [across_bad ha hb hc hd hw g, across_bad hd hc ha hb (by omega) (by rw [s1, s2]; unfold goodM at *; omega)]

theorem meet_sym2 {a b c d : Pt} (ha : a.d = 1) (hb : b.d = 1) (hc : c.d = 1) (hd : d.d = 1) : meetM b a c d = meetM a b c d := by
  rw [meet_eq ha hb hc hd, meet_eq hb ha hc hd]
  have e := pq_mn ha hb hc hd
  have s1 := det_swap a b c
  have s2 := det_swap a b d
  by_cases hw : detM a b d - detM a b c = 0
  · rw [if_pos hw, if_pos (by omega)]
    by_cases hm : detM a b c = 0
    · rw [if_neg (show ¬ (detM b a c ≠ 0) by omega), if_neg (show ¬ (detM a b c ≠ 0) by omega), line_sym2 ha hb]
    · rw [if_pos hm, if_pos (by omega)]
  · rw [if_neg hw, if_neg (by omega)]
    by_cases g : goodM (detM a b d - detM a b c) (detM a b c) (detM a b d) (detM c d a) (detM c d b)
    · rw [across_good ha hb hc hd hw g, across_good hb ha hc hd (by omega) (by rw [s1, s2]; unfold goodM at *; omega)]
      have ew : detM b a d - detM b a c = -(detM a b d - detM a b c) := by omega
      have eq' : detM c d b = detM c d a - (detM a b d - detM a b c) := by omega
      have ex : b.x * (-(detM a b d - detM a b c)) + (a.x - b.x) * detM c d b = -(a.x * (detM a b d - detM a b c) + (b.x - a.x) * detM c d a) := by rw [eq']; grind
      have ey : b.y * (-(detM a b d - detM a b c)) + (a.y - b.y) * detM c d b = -(a.y * (detM a b d - detM a b c) + (b.y - a.y) * detM c d a) := by rw [eq']; grind
      rw [ew, ex, ey, norm_neg hw]
    · rw [across_bad ha hb hc hd hw g, across_bad hb ha hc hd (by omega) (by rw [s1, s2]; unfold goodM at *; omega)]

theorem meet_self {a b : Pt} (ha : a.d = 1) (hb : b.d = 1) (hab : a ≠ b) : meetM a b b a = ⟨2, firstM a b, lastM a b⟩ := by
  rw [meet_eq ha hb hb ha, det_left, det_right]
  simp only [Int.sub_self, if_true, ne_eq, not_true_eq_false, if_false]
  have e1 : lastM (firstM a b) (firstM b a) = firstM a b := by rw [first_comm hb ha, last_self]
  have e2 : firstM (lastM a b) (lastM b a) = lastM a b := by rw [last_comm hb ha, first_self]
  have hl : L (firstM a b) (lastM a b) := by
    rcases L_tri (first_d ha hb) (last_d ha hb) with h | h | h
    · exact h
    · exfalso
      have f1 := first_le ha hb
      have l1 := last_ge ha hb
      rw [h] at f1
      have := L_anti ha (last_d ha hb) f1.1 l1.1
      have := L_anti hb (last_d ha hb) f1.2 l1.2
      exact hab (by rw [‹a = _›, ← this])
    · exfalso
      rcases first_cases a b with e | e <;> rw [e] at h
      · exact (last_ge ha hb).1 h
      · exact (last_ge ha hb).2 h
  have hc := (cmp_neg (first_d ha hb) (last_d ha hb)).2 hl
  unfold lineM
  rw [e1, e2]
  rw [if_neg (by omega), if_neg (by omega)]
theorem first_of_bef {a b : Pt} (ha : a.d = 1) (hb : b.d = 1) (h : befB b a = true) : firstM a b = b ∧ lastM a b = a := by
  have h := (bef_L hb ha).1 h
  have h1 := (cmp_neg hb ha).2 h
  exact ⟨if_pos h1, if_neg (by omega)⟩
theorem first_of_nbef {a b : Pt} (ha : a.d = 1) (hb : b.d = 1) (hab : a ≠ b) (h : befB b a = false) : firstM a b = a ∧ lastM a b = b := by
  have h : ¬ L b a := fun e => by rw [(bef_L hb ha).2 e] at h; cases h
  have h1 : L a b := (L_tri ha hb).elim id (fun e => e.elim (fun e => absurd e hab) (fun e => absurd e h))
  have h2 := (cmp_pos hb ha).2 h1
  exact ⟨if_neg (by omega), if_pos h2⟩

/-! What is common is on both. -/
theorem mul_neg_of {u s : Int} (h : u * s < 0) (hs : 0 ≤ s) : u < 0 := by
  rcases Int.lt_or_le u 0 with g | g
  · exact g
  · have := Int.mul_nonneg g hs; omega
theorem no_neg {ux uy s w : Int} (h0 : 0 ≤ s) (h1 : s ≤ w) : ¬ ((ux * s < 0 ∨ (ux * s = 0 ∧ uy * s < 0)) ∧ (ux * (s - w) < 0 ∨ (ux * (s - w) = 0 ∧ uy * (s - w) < 0))) := by
  rintro ⟨g, k⟩
  have n1 : ux * (s - w) = -ux * (w - s) := by grind
  have n2 : uy * (s - w) = -uy * (w - s) := by grind
  rw [n1, n2] at k
  rcases g with g | ⟨g0, g⟩
  · have hx := mul_neg_of g h0
    rcases k with k | ⟨k0, k⟩
    · have := mul_neg_of k (by omega); omega
    · rcases Int.mul_eq_zero.1 k0 with e | e
      · omega
      · rw [e] at k; simp at k
  · have hy := mul_neg_of g h0
    rcases k with k | ⟨k0, k⟩
    · have := mul_neg_of k (by omega)
      rcases Int.mul_eq_zero.1 g0 with e | e
      · omega
      · rw [e] at g; simp at g
    · have := mul_neg_of k (by omega); omega
theorem hold_mix {a b : Pt} (ha : a.d = 1) (hb : b.d = 1) {w s : Int} (hw : 0 < w) (h0 : 0 ≤ s) (h1 : s ≤ w) :
    holdsB a b ⟨a.x * w + (b.x - a.x) * s, a.y * w + (b.y - a.y) * s, w⟩ = true := by
  rw [holds_iff]
  refine ⟨?_, ?_, ?_⟩
  · unfold detM; simp only [ha, hb]; grind
  · rw [bef_iff, bef_iff]
    simp only [ha, hb, Int.mul_one]
    have k := no_neg (ux := b.x - a.x) (uy := b.y - a.y) h0 h1
    have ex : a.x * w + (b.x - a.x) * s - b.x * w = (b.x - a.x) * (s - w) := by grind
    have ey : a.y * w + (b.y - a.y) * s - b.y * w = (b.y - a.y) * (s - w) := by grind
    rw [← ex, ← ey] at k
    omega
  · rw [bef_iff, bef_iff]
    simp only [ha, hb, Int.mul_one]
    have k := no_neg (ux := -(b.x - a.x)) (uy := -(b.y - a.y)) h0 h1
    have ex : -(b.x - a.x) * (s - w) = -(a.x * w + (b.x - a.x) * s - b.x * w) := by grind
    have ey : -(b.y - a.y) * (s - w) = -(a.y * w + (b.y - a.y) * s - b.y * w) := by grind
    have ez : -(b.x - a.x) * s = -((b.x - a.x) * s) := by grind
    have et : -(b.y - a.y) * s = -((b.y - a.y) * s) := by grind
    rw [ex, ey, ez, et] at k
    omega
theorem bef_scale_l {p q : Pt} {g : Int} (hg : 0 < g) : befB ⟨p.x * g, p.y * g, p.d * g⟩ q = befB p q := by
  rw [Bool.eq_iff_iff, bef_iff, bef_iff]
  have e1 : p.x * g * q.d = (p.x * q.d) * g := by grind
  have e2 : q.x * (p.d * g) = (q.x * p.d) * g := by grind
  have e3 : p.y * g * q.d = (p.y * q.d) * g := by grind
  have e4 : q.y * (p.d * g) = (q.y * p.d) * g := by grind
  simp only [e1, e2, e3, e4]
  rw [Int.mul_lt_mul_right hg, Int.mul_lt_mul_right hg, Int.mul_eq_mul_right_iff (by omega)]
theorem bef_scale_r {p q : Pt} {g : Int} (hg : 0 < g) : befB q ⟨p.x * g, p.y * g, p.d * g⟩ = befB q p := by
  rw [Bool.eq_iff_iff, bef_iff, bef_iff]
  have e1 : p.x * g * q.d = (p.x * q.d) * g := by grind
  have e2 : q.x * (p.d * g) = (q.x * p.d) * g := by grind
  have e3 : p.y * g * q.d = (p.y * q.d) * g := by grind
  have e4 : q.y * (p.d * g) = (q.y * p.d) * g := by grind
  simp only [e1, e2, e3, e4]
  rw [Int.mul_lt_mul_right hg, Int.mul_lt_mul_right hg, Int.mul_eq_mul_right_iff (by omega)]
theorem holds_scale {a b p : Pt} {g : Int} (hg : 0 < g) : holdsB a b ⟨p.x * g, p.y * g, p.d * g⟩ = holdsB a b p := by
  have e : detM a b ⟨p.x * g, p.y * g, p.d * g⟩ = detM a b p * g := by unfold detM; grind
  rw [Bool.eq_iff_iff, holds_iff, holds_iff, bef_scale_l hg, bef_scale_l hg, bef_scale_r hg, bef_scale_r hg, e]
  simp only [Int.mul_eq_zero]
  constructor
  · rintro ⟨h1, h2⟩; exact ⟨h1.elim id (fun e => by omega), h2⟩
  · rintro ⟨h1, h2⟩; exact ⟨.inl h1, h2⟩

/-- In least terms. -/
theorem least_mul {p : Pt} (hd : 0 < p.d) : ∃ g : Int, 0 < g ∧ p = ⟨(leastM p).x * g, (leastM p).y * g, (leastM p).d * g⟩ := by
  have hg : gcdM (gcdM p.x p.y) p.d ≠ 0 := by
    unfold gcdM; intro h
    have h' : Int.gcd (↑(p.x.gcd p.y)) p.d = 0 := by omega
    have := (Int.gcd_eq_zero_iff.1 h').2
    omega
  have h0 : 0 ≤ gcdM (gcdM p.x p.y) p.d := by unfold gcdM; omega
  have hD : gcdM (gcdM p.x p.y) p.d ∣ p.d := Int.gcd_dvd_right ..
  have hG : gcdM (gcdM p.x p.y) p.d ∣ gcdM p.x p.y := Int.gcd_dvd_left ..
  have hX : gcdM (gcdM p.x p.y) p.d ∣ p.x := Int.dvd_trans hG (Int.gcd_dvd_left ..)
  have hY : gcdM (gcdM p.x p.y) p.d ∣ p.y := Int.dvd_trans hG (Int.gcd_dvd_right ..)
  refine ⟨gcdM (gcdM p.x p.y) p.d, by omega, ?_⟩
  unfold leastM
  rw [if_neg hg]
  exact Pt.ext' (Int.tdiv_mul_cancel hX).symm (Int.tdiv_mul_cancel hY).symm (Int.tdiv_mul_cancel hD).symm
theorem least_holds {a b p : Pt} (hd : 0 < p.d) (h : holdsB a b p = true) : holdsB a b (leastM p) = true := by
  obtain ⟨g, hg, e⟩ := least_mul hd
  rw [e, holds_scale hg] at h
  exact h
theorem least_d {p : Pt} (hd : 0 < p.d) : 0 < (leastM p).d := by
  obtain ⟨g, hg, e⟩ := least_mul hd
  have e : p.d = (leastM p).d * g := congrArg Pt.d e
  rcases Int.lt_or_le 0 (leastM p).d with k | k
  · exact k
  · have := Int.mul_nonneg (show 0 ≤ -(leastM p).d by omega) (show 0 ≤ g by omega)
    have : -(leastM p).d * g = -((leastM p).d * g) := by grind
    omega
theorem in_of_mul {a g A : Int} (h : In (a * g) A) (hg : 0 < g) : In a A := by
  have : a.natAbs ≤ (a * g).natAbs := by rw [Int.natAbs_mul]; exact Nat.le_mul_of_pos_right _ (by omega)
  unfold In at *; omega
theorem least_gd {p : Pt} (hd : 0 < p.d) (h : Gd p) : Gd (leastM p) := by
  obtain ⟨g, hg, e⟩ := least_mul hd
  rw [e] at h
  exact ⟨in_of_mul h.x hg, in_of_mul h.y hg, in_of_mul h.d hg⟩

end Go.Proofs.Ytnkcbephceollab
