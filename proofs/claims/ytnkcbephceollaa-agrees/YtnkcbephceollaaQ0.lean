
/- Plain mathematics: points, how segments meet. Imports nothing of the program. -/
namespace Go.Proofs.Ytnkcbephceollaa

structure Pt where
  x : Int
  y : Int
  d : Int
structure Mt where
  k : Int
  p : Pt
  q : Pt

theorem Pt.ext' {p q : Pt} (h1 : p.x = q.x) (h2 : p.y = q.y) (h3 : p.d = q.d) : p = q := by
  cases p; cases q; simp_all
theorem Mt.ext' {p q : Mt} (h1 : p.k = q.k) (h2 : p.p = q.p) (h3 : p.q = q.q) : p = q := by
  cases p; cases q; simp_all

/-- Between -A and A. -/
def In (a A : Int) : Prop := -A ≤ a ∧ a ≤ A
theorem In.mk {a A : Int} (h1 : -A ≤ a) (h2 : a ≤ A) : In a A := ⟨h1, h2⟩
theorem In.lo {a A : Int} (h : In a A) : -A ≤ a := h.1
theorem In.hi {a A : Int} (h : In a A) : a ≤ A := h.2
theorem In.nonneg {a A : Int} (h : In a A) : 0 ≤ A := by have := h.1; have := h.2; omega
theorem In.add {a b A B : Int} (h : In a A) (g : In b B) : In (a + b) (A + B) := by unfold In at *; omega
theorem In.sub {a b A B : Int} (h : In a A) (g : In b B) : In (a - b) (A + B) := by unfold In at *; omega
theorem In.neg {a A : Int} (h : In a A) : In (-a) A := by unfold In at *; omega
theorem In.mono {a A B : Int} (h : In a A) (g : A ≤ B) : In a B := by unfold In at *; omega
theorem In.mul {a b A B : Int} (h : In a A) (g : In b B) : In (a * b) (A * B) := by
  have hA := h.nonneg
  have hB := g.nonneg
  have h1 : a.natAbs ≤ A.natAbs := by unfold In at h; omega
  have h2 : b.natAbs ≤ B.natAbs := by unfold In at g; omega
  have h3 : (a * b).natAbs ≤ (A * B).natAbs := by rw [Int.natAbs_mul, Int.natAbs_mul]; exact Nat.mul_le_mul h1 h2
  have h4 : 0 ≤ A * B := Int.mul_nonneg hA hB
  unfold In; omega

/-- A point whose numbers are no greater than a good point's may be. -/
structure Gd (p : Pt) : Prop where
  x : In p.x 2097152
  y : In p.y 2097152
  d : In p.d 32768
/-- A grid point. -/
structure Gr (p : Pt) : Prop where
  x : In p.x 64
  y : In p.y 64
  d : p.d = 1
theorem Gr.gd {p : Pt} (h : Gr p) : Gd p := ⟨h.x.mono (by decide), h.y.mono (by decide), by rw [h.d]; exact ⟨by decide, by decide⟩⟩

def detM (a b c : Pt) : Int := a.x * (b.y * c.d - c.y * b.d) - a.y * (b.x * c.d - c.x * b.d) + a.d * (b.x * c.y - c.x * b.y)
def befB (p q : Pt) : Bool := if p.x * q.d ≠ q.x * p.d then decide (p.x * q.d < q.x * p.d) else decide (p.y * q.d < q.y * p.d)
def cmpM (p q : Pt) : Int := if p.x * q.d - q.x * p.d ≠ 0 then p.x * q.d - q.x * p.d else p.y * q.d - q.y * p.d
def firstM (p q : Pt) : Pt := if cmpM q p < 0 then q else p
def lastM (p q : Pt) : Pt := if cmpM q p > 0 then q else p
def gridB (p : Pt) : Bool := decide (p.d = 1 ∧ -64 ≤ p.x ∧ p.x ≤ 64 ∧ -64 ≤ p.y ∧ p.y ≤ 64)
def goodB (p : Pt) : Bool := decide (1 ≤ p.d ∧ p.d ≤ 32768 ∧ -(64 * p.d) ≤ p.x ∧ p.x ≤ 64 * p.d ∧ -(64 * p.d) ≤ p.y ∧ p.y ≤ 64 * p.d)
theorem grid_of (p : Pt) (h : p.d = 1) : goodB p = gridB p := by unfold goodB gridB; simp [h]
theorem grid_no (p : Pt) (h : p.d ≠ 1) : gridB p = false := by unfold gridB; simp [h]
def gcdM (a b : Int) : Int := (Int.gcd a b : Int)
def leastM (p : Pt) : Pt := if gcdM (gcdM p.x p.y) p.d = 0 then p else ⟨p.x.tdiv (gcdM (gcdM p.x p.y) p.d), p.y.tdiv (gcdM (gcdM p.x p.y) p.d), p.d.tdiv (gcdM (gcdM p.x p.y) p.d)⟩
def crossM (ax ay bx by' : Int) : Int := ax * by' - ay * bx
def zP : Pt := ⟨0, 0, 0⟩
def zM : Mt := ⟨0, zP, zP⟩
/-- Not parallel. -/
def acrossM (a b c d : Pt) : Mt :=
  let w := crossM (b.x - a.x) (b.y - a.y) (d.x - c.x) (d.y - c.y)
  let s := crossM (c.x - a.x) (c.y - a.y) (d.x - c.x) (d.y - c.y)
  let t := crossM (c.x - a.x) (c.y - a.y) (b.x - a.x) (b.y - a.y)
  let w' := if w < 0 then -w else w
  let s' := if w < 0 then -s else s
  let t' := if w < 0 then -t else t
  if s' < 0 ∨ s' > w' ∨ t' < 0 ∨ t' > w' then zM
  else ⟨1, leastM ⟨a.x * w' + (b.x - a.x) * s', a.y * w' + (b.y - a.y) * s', w'⟩, zP⟩
def lineM (a b c d : Pt) : Mt :=
  let f := lastM (firstM a b) (firstM c d)
  let t := firstM (lastM a b) (lastM c d)
  if cmpM f t > 0 then zM else if cmpM f t = 0 then ⟨1, f, zP⟩ else ⟨2, f, t⟩
def parM (a b c d : Pt) : Mt := if crossM (b.x - a.x) (b.y - a.y) (c.x - a.x) (c.y - a.y) ≠ 0 then zM else lineM a b c d
def meetM (a b c d : Pt) : Mt := if crossM (b.x - a.x) (b.y - a.y) (d.x - c.x) (d.y - c.y) = 0 then parM a b c d else acrossM a b c d

theorem det_in {a b c : Pt} (ha : Gd a) (hb : Gd b) (hc : Gd c) : In (detM a b c) 1152921504606846976 :=
  ((((ha.x.mul ((hb.y.mul hc.d).sub (hc.y.mul hb.d))).sub (ha.y.mul ((hb.x.mul hc.d).sub (hc.x.mul hb.d)))).add (ha.d.mul ((hb.x.mul hc.y).sub (hc.x.mul hb.y))))).mono (by decide)
theorem firstM_gd {p q : Pt} (hp : Gd p) (hq : Gd q) : Gd (firstM p q) := by unfold firstM; split <;> assumption
theorem lastM_gd {p q : Pt} (hp : Gd p) (hq : Gd q) : Gd (lastM p q) := by unfold lastM; split <;> assumption
theorem firstM_gr {p q : Pt} (hp : Gr p) (hq : Gr q) : Gr (firstM p q) := by unfold firstM; split <;> assumption
theorem lastM_gr {p q : Pt} (hp : Gr p) (hq : Gr q) : Gr (lastM p q) := by unfold lastM; split <;> assumption
end Go.Proofs.Ytnkcbephceollaa
/- Plain mathematics of Meet: what Swung asks. -/
namespace Go.Proofs.Ytnkcbephceollaa
set_option linter.unusedSimpArgs false
set_option linter.unusedVariables false

def sidesM (m n : Int) : Int := if m = 0 ∨ n = 0 then 0 else if (decide (m < 0) == decide (n < 0)) = true then 1 else -1
theorem sides_0 {m n : Int} (h : m = 0 ∨ n = 0) : sidesM m n = 0 := if_pos h
theorem sides_1 {m n : Int} (h0 : ¬ (m = 0 ∨ n = 0)) (h : (decide (m < 0) == decide (n < 0)) = true) : sidesM m n = 1 := (if_neg h0).trans (if_pos h)
theorem sides_2 {m n : Int} (h0 : ¬ (m = 0 ∨ n = 0)) (h : ¬ (decide (m < 0) == decide (n < 0)) = true) : sidesM m n = -1 := (if_neg h0).trans (if_neg h)
def holdsB (a b p : Pt) : Bool := detM a b p == 0 && !(befB p a && befB p b) && !(befB a p && befB b p)

/-- When two of them are on one side. -/
theorem sides_one (m n : Int) : sidesM m n = 1 ↔ (m < 0 ∧ n < 0 ∨ 0 < m ∧ 0 < n) := by
  unfold sidesM
  split
  · omega
  · split
    · rename_i h1 h2
      simp at h2
      omega
    · rename_i h1 h2
      simp at h2
      omega

theorem bef_iff (p q : Pt) : befB p q = true ↔ (p.x * q.d < q.x * p.d ∨ (p.x * q.d = q.x * p.d ∧ p.y * q.d < q.y * p.d)) := by
  unfold befB
  split
  · simp; omega
  · simp; omega
theorem holds_iff (a b p : Pt) : holdsB a b p = true ↔ detM a b p = 0 ∧ ¬ (befB p a = true ∧ befB p b = true) ∧ ¬ (befB a p = true ∧ befB b p = true) := by
  unfold holdsB
  simp only [Bool.and_eq_true, beq_iff_eq, Bool.not_eq_true', Bool.and_eq_false_iff]
  cases befB p a <;> cases befB p b <;> cases befB a p <;> cases befB b p <;> simp

/-! The four determinants. -/
theorem w_mn {a b c d : Pt} (ha : a.d = 1) (hb : b.d = 1) (hc : c.d = 1) (hd : d.d = 1) : crossM (b.x - a.x) (b.y - a.y) (d.x - c.x) (d.y - c.y) = detM a b d - detM a b c := by
  unfold crossM detM; rw [ha, hb, hc, hd]; grind
theorem w_pq {a b c d : Pt} (ha : a.d = 1) (hb : b.d = 1) (hc : c.d = 1) (hd : d.d = 1) : crossM (b.x - a.x) (b.y - a.y) (d.x - c.x) (d.y - c.y) = detM c d a - detM c d b := by
  unfold crossM detM; rw [ha, hb, hc, hd]; grind
theorem s_p {a c d : Pt} (ha : a.d = 1) (hc : c.d = 1) (hd : d.d = 1) : crossM (c.x - a.x) (c.y - a.y) (d.x - c.x) (d.y - c.y) = detM c d a := by
  unfold crossM detM; rw [ha, hc, hd]; grind
theorem t_m {a b c : Pt} (ha : a.d = 1) (hb : b.d = 1) (hc : c.d = 1) : crossM (c.x - a.x) (c.y - a.y) (b.x - a.x) (b.y - a.y) = - detM a b c := by
  unfold crossM detM; rw [ha, hb, hc]; grind
theorem par_m {a b c : Pt} (ha : a.d = 1) (hb : b.d = 1) (hc : c.d = 1) : crossM (b.x - a.x) (b.y - a.y) (c.x - a.x) (c.y - a.y) = detM a b c := by
  unfold crossM detM; rw [ha, hb, hc]; grind

def norm (x y w : Int) : Pt := if w < 0 then ⟨-x, -y, -w⟩ else ⟨x, y, w⟩
theorem norm_neg {x y w : Int} (h : w ≠ 0) : norm (-x) (-y) (-w) = norm x y w := by
  unfold norm
  by_cases g : w < 0
  · rw [if_neg (by omega), if_pos g]
  · rw [if_pos (by omega), if_neg g]; simp
/-- They meet. -/
def goodM (w m n p q : Int) : Prop := w < 0 ∧ p ≤ 0 ∧ 0 ≤ q ∧ 0 ≤ m ∧ n ≤ 0 ∨ 0 < w ∧ 0 ≤ p ∧ q ≤ 0 ∧ m ≤ 0 ∧ 0 ≤ n

theorem across_good {a b c d : Pt} (ha : a.d = 1) (hb : b.d = 1) (hc : c.d = 1) (hd : d.d = 1) (hw : detM a b d - detM a b c ≠ 0)
    (g : goodM (detM a b d - detM a b c) (detM a b c) (detM a b d) (detM c d a) (detM c d b)) :
    acrossM a b c d = ⟨1, leastM (norm (a.x * (detM a b d - detM a b c) + (b.x - a.x) * detM c d a) (a.y * (detM a b d - detM a b c) + (b.y - a.y) * detM c d a) (detM a b d - detM a b c)), zP⟩ := by
  have e1 := w_mn ha hb hc hd
  have e2 := w_pq ha hb hc hd
  have e3 := s_p ha hc hd
  have e4 := t_m ha hb hc
  unfold acrossM
  simp only [e3, e4]
  rw [e1] at e2 ⊢
  generalize detM a b c = m at *
  generalize detM a b d = n at *
  generalize detM c d a = p at *
  generalize detM c d b = q at *
  unfold norm goodM at *
  by_cases h : n - m < 0
  · simp only [if_pos h]
    rw [if_neg (by omega)]
    simp [Int.mul_neg, Int.neg_add]
  · simp only [if_neg h]
    rw [if_neg (by omega)]
theorem across_bad {a b c d : Pt} (ha : a.d = 1) (hb : b.d = 1) (hc : c.d = 1) (hd : d.d = 1) (hw : detM a b d - detM a b c ≠ 0)
    (g : ¬ goodM (detM a b d - detM a b c) (detM a b c) (detM a b d) (detM c d a) (detM c d b)) : acrossM a b c d = zM := by
  have e1 := w_mn ha hb hc hd
  have e2 := w_pq ha hb hc hd
  have e3 := s_p ha hc hd
  have e4 := t_m ha hb hc
  unfold acrossM
  simp only [e3, e4]
  rw [e1] at e2 ⊢
  generalize detM a b c = m at *
  generalize detM a b d = n at *
  generalize detM c d a = p at *
  generalize detM c d b = q at *
  unfold goodM at *
  by_cases h : n - m < 0
  · simp only [if_pos h]
    rw [if_pos (by omega)]
  · simp only [if_neg h]
    rw [if_pos (by omega)]

end Go.Proofs.Ytnkcbephceollaa
