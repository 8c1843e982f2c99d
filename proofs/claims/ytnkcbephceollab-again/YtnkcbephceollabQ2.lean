import Derived.Test.YtnkcbephceollabQ1
namespace Go.Proofs.Ytnkcbephceollab
set_option linter.unusedVariables false

/-- How high v lies above q, as a number of one sign with it. -/
def yv (q v : Pt) : Int := v.y * q.d - q.y * v.d
def xv (q v : Pt) : Int := v.x * q.d - q.x * v.d
/-- Above q; at its height: as c says. -/
def upB (c : Bool) (q v : Pt) : Bool := decide (0 < yv q v) || (c && decide (yv q v = 0))
/-- Does the edge cross the way from q to the right? -/
def rayB (c : Bool) (q a b : Pt) : Bool := (!upB c q a && upB c q b && decide (0 < detM a b q)) || (upB c q a && !upB c q b && decide (detM a b q < 0))
def apartB (m n : Int) : Bool := (decide (m < 0) && decide (0 < n)) || (decide (0 < m) && decide (n < 0))
/-- Does the way from o to q cross the edge? -/
def crossB (o q a b : Pt) : Bool := apartB (detM o q a) (detM o q b) && apartB (detM a b o) (detM a b q)
def onB (p a b : Pt) : Bool := decide (detM a b p = 0) && withB p a b

theorem id1 (o q a b : Pt) : yv q o * detM a b q = detM o q a * yv q b - detM o q b * yv q a := by unfold yv detM; grind
theorem id2 (o q a b : Pt) : yv q o * detM a b o = detM o q a * yv o b - detM o q b * yv o a := by unfold yv detM; grind
theorem id3 (o q a b : Pt) : q.d * detM a b o = o.d * detM a b q + a.d * detM o q b - b.d * detM o q a := by unfold detM; grind
theorem id4 (q a b : Pt) : q.d * detM a b q = xv q a * yv q b - xv q b * yv q a := by unfold xv yv detM; grind
theorem id5 (o q a : Pt) : q.d * detM o q a = yv q o * xv q a - xv q o * yv q a := by unfold xv yv detM; grind
theorem det_sw (o q a : Pt) : detM q o a = -detM o q a := by unfold detM; grind
theorem det_sw2 (a b q : Pt) : detM b a q = -detM a b q := by unfold detM; grind
theorem yv_sw (o q : Pt) : yv o q = -yv q o := by unfold yv; grind

theorem mul_pp {a b : Int} (ha : 0 < a) (hb : 0 < b) : 0 < a * b := Int.mul_pos ha hb
theorem mul_np {a b : Int} (ha : a < 0) (hb : 0 < b) : a * b < 0 := Int.mul_neg_of_neg_of_pos ha hb
theorem mul_pn {a b : Int} (ha : 0 < a) (hb : b < 0) : a * b < 0 := Int.mul_neg_of_pos_of_neg ha hb
theorem mul_nn {a b : Int} (ha : a < 0) (hb : b < 0) : 0 < a * b := Int.mul_pos_of_neg_of_neg ha hb
theorem mul_gg {a b : Int} (ha : 0 ≤ a) (hb : 0 ≤ b) : 0 ≤ a * b := Int.mul_nonneg ha hb
theorem mul_gl {a b : Int} (ha : 0 ≤ a) (hb : b ≤ 0) : a * b ≤ 0 := Int.mul_nonpos_of_nonneg_of_nonpos ha hb
theorem mul_lg {a b : Int} (ha : a ≤ 0) (hb : 0 ≤ b) : a * b ≤ 0 := Int.mul_nonpos_of_nonpos_of_nonneg ha hb
theorem mul_ll {a b : Int} (ha : a ≤ 0) (hb : b ≤ 0) : 0 ≤ a * b := Int.mul_nonneg_of_nonpos_of_nonpos ha hb

section
variable {yo A B H ya yb : Int} {ua ub : Bool}
theorem ray_pm (h1 : yo * H = A * yb - B * ya) (hy : yo < 0) (hA : 0 < A) (hB : B < 0) (hH : H ≠ 0) (a1 : ua = true → 0 ≤ ya) (a2 : ua = false → ya ≤ 0) (b1 : ub = true → 0 ≤ yb) (b2 : ub = false → yb ≤ 0) :
    ((!ua && ub && decide (0 < H)) || (ua && !ub && decide (H < 0))) = (ub ^^ !decide (0 < H)) := by
  rcases Int.lt_or_gt_of_ne hH with h | h
  · have p := mul_nn hy h
    have e1 : decide (0 < H) = false := by simp; omega
    have e2 : decide (H < 0) = true := by simp; omega
    rw [e1, e2]
    cases ua <;> cases ub
    · have := mul_gl (Int.le_of_lt hA) (b2 rfl); have := mul_ll (Int.le_of_lt hB) (a2 rfl); omega
    · rfl
    · rfl
    · rfl
  · have p := mul_np hy h
    have e1 : decide (0 < H) = true := by simp; omega
    have e2 : decide (H < 0) = false := by simp; omega
    rw [e1, e2]
    cases ua <;> cases ub
    · rfl
    · rfl
    · rfl
    · have := mul_gg (Int.le_of_lt hA) (b1 rfl); have := mul_lg (Int.le_of_lt hB) (a1 rfl); omega
theorem ray_pp (h1 : yo * H = A * yb - B * ya) (hy : yo < 0) (hA : 0 < A) (hB : 0 < B) (a1 : ua = true → 0 ≤ ya) (a2 : ua = false → ya ≤ 0) (b1 : ub = true → 0 ≤ yb) (b2 : ub = false → yb ≤ 0) :
    ((!ua && ub && decide (0 < H)) || (ua && !ub && decide (H < 0))) = false := by
  cases ua <;> cases ub
  · simp
  · have := mul_gg (Int.le_of_lt hA) (b1 rfl); have := mul_gl (Int.le_of_lt hB) (a2 rfl)
    have : ¬ 0 < H := fun h => by have := mul_np hy h; omega
    simp; omega
  · have := mul_gl (Int.le_of_lt hA) (b2 rfl); have := mul_gg (Int.le_of_lt hB) (a1 rfl)
    have : ¬ H < 0 := fun h => by have := mul_nn hy h; omega
    simp; omega
  · simp
theorem ray_mm (h1 : yo * H = A * yb - B * ya) (hy : yo < 0) (hA : A < 0) (hB : B < 0) (hH : ua ≠ ub → H ≠ 0) (a1 : ua = true → 0 ≤ ya) (a2 : ua = false → ya ≤ 0) (b1 : ub = true → 0 ≤ yb) (b2 : ub = false → yb ≤ 0) :
    ((!ua && ub && decide (0 < H)) || (ua && !ub && decide (H < 0))) = (ua ^^ ub) := by
  cases ua <;> cases ub
  · simp
  · have := mul_lg (Int.le_of_lt hA) (b1 rfl); have := mul_ll (Int.le_of_lt hB) (a2 rfl)
    have := hH (by simp)
    have : 0 < H := by
      rcases Int.lt_or_gt_of_ne this with h | h
      · have := mul_nn hy h; omega
      · exact h
    simp; omega
  · have := mul_ll (Int.le_of_lt hA) (b2 rfl); have := mul_lg (Int.le_of_lt hB) (a1 rfl)
    have := hH (by simp)
    have : H < 0 := by
      rcases Int.lt_or_gt_of_ne this with h | h
      · exact h
      · have := mul_np hy h; omega
    simp; omega
  · simp
end
theorem up_true {c : Bool} {q v : Pt} (h : upB c q v = true) : 0 ≤ yv q v := by
  unfold upB at h; simp at h; omega
theorem up_false {c : Bool} {q v : Pt} (h : upB c q v = false) : yv q v ≤ 0 := by
  unfold upB at h; simp at h; omega
theorem up_same {c : Bool} {q a b : Pt} (h : yv q a = yv q b) : upB c q a = upB c q b := by
  unfold upB; rw [h]

theorem fr_trans {px pd qx qd rx rd : Int} (hp : 0 < pd) (hq : 0 < qd) (hr : 0 < rd) (h1 : px * qd ≤ qx * pd) (h2 : qx * rd ≤ rx * qd) : px * rd ≤ rx * pd ∧ (px * rd = rx * pd → px * qd = qx * pd ∧ qx * rd = rx * qd) := by
  have m1 := Int.mul_le_mul_of_nonneg_right h1 (Int.le_of_lt hr)
  have m2 := Int.mul_le_mul_of_nonneg_right h2 (Int.le_of_lt hp)
  have r1 : px * rd * qd = px * qd * rd := Int.mul_right_comm ..
  have r2 : rx * pd * qd = rx * qd * pd := Int.mul_right_comm ..
  have r3 : qx * rd * pd = qx * pd * rd := Int.mul_right_comm ..
  have e : (px * rd) * qd ≤ (rx * pd) * qd := by omega
  refine ⟨Int.le_of_mul_le_mul_right e hq, fun h => ?_⟩
  have e2 : (px * rd) * qd = (rx * pd) * qd := by rw [h]
  have n1 : (px * qd) * rd = (qx * pd) * rd := by omega
  have n2 : (qx * rd) * pd = (rx * qd) * pd := by omega
  exact ⟨Int.eq_of_mul_eq_mul_right (by omega) n1, Int.eq_of_mul_eq_mul_right (by omega) n2⟩
theorem bef_false (p q : Pt) : befB p q = false ↔ (q.x * p.d < p.x * q.d ∨ (q.x * p.d = p.x * q.d ∧ q.y * p.d ≤ p.y * q.d)) := by
  rw [← Bool.not_eq_true, bef_iff]; omega
/-- p ahead of q, q not behind r: p is ahead of r. -/
theorem bef_le {p q r : Pt} (hp : 0 < p.d) (hq : 0 < q.d) (hr : 0 < r.d) (h1 : befB p q = true) (h2 : befB r q = false) : befB p r = true := by
  rw [bef_iff] at h1
  rw [bef_false] at h2
  rw [bef_iff]
  have t := fr_trans hp hq hr (px := p.x) (qx := q.x) (rx := r.x) (by omega) (by omega)
  rcases Int.lt_or_eq_of_le t.1 with h | h
  · exact .inl h
  · obtain ⟨e1, e2⟩ := t.2 h
    have u := fr_trans hp hq hr (px := p.y) (qx := q.y) (rx := r.y) (by omega) (by omega)
    refine .inr ⟨h, ?_⟩
    rcases Int.lt_or_eq_of_le u.1 with g | g
    · exact g
    · obtain ⟨g1, g2⟩ := u.2 g
      omega
theorem le_bef {p q r : Pt} (hp : 0 < p.d) (hq : 0 < q.d) (hr : 0 < r.d) (h1 : befB q p = false) (h2 : befB q r = true) : befB p r = true := by
  rw [bef_false] at h1
  rw [bef_iff] at h2
  rw [bef_iff]
  have t := fr_trans hp hq hr (px := p.x) (qx := q.x) (rx := r.x) (by omega) (by omega)
  rcases Int.lt_or_eq_of_le t.1 with h | h
  · exact .inl h
  · obtain ⟨e1, e2⟩ := t.2 h
    have u := fr_trans hp hq hr (px := p.y) (qx := q.y) (rx := r.y) (by omega) (by omega)
    refine .inr ⟨h, ?_⟩
    rcases Int.lt_or_eq_of_le u.1 with g | g
    · exact g
    · obtain ⟨g1, g2⟩ := u.2 g
      omega
/-- Not ahead of a, and b not ahead of it: between them. -/
theorem with_ab {q a b : Pt} (hq : 0 < q.d) (ha : 0 < a.d) (hb : 0 < b.d) (h1 : befB q a = false) (h2 : befB b q = false) : withB q a b = true := by
  have e : befB b a = false := by
    cases h : befB b a
    · rfl
    · exact absurd (bef_le hb ha hq h h1) (by rw [h2]; simp)
  unfold withB loM hiM
  rw [e]
  simp [h1, h2]
theorem with_ba {q a b : Pt} (hq : 0 < q.d) (ha : 0 < a.d) (hb : 0 < b.d) (h1 : befB q b = false) (h2 : befB a q = false) : withB q a b = true := by
  unfold withB loM hiM
  by_cases h : befB b a = true
  · simp [h, h1, h2]
  · have h' : befB b a = false := by simpa using h
    have e1 : befB q a = false := by
      cases k : befB q a
      · rfl
      · exact absurd (bef_le hq ha hb k h') (by rw [h1]; simp)
    have e2 : befB b q = false := by
      cases k : befB b q
      · rfl
      · exact absurd (le_bef ha hb hq h' k) (by rw [h2]; simp)
    simp [h', e1, e2]
theorem bef_x (q v : Pt) : befB q v = false ↔ (xv q v < 0 ∨ (xv q v = 0 ∧ yv q v ≤ 0)) := by
  rw [bef_false]; unfold xv yv; omega
theorem bef_x' (q v : Pt) : befB v q = false ↔ (0 < xv q v ∨ (xv q v = 0 ∧ 0 ≤ yv q v)) := by
  rw [bef_false]; unfold xv yv; omega
theorem sgn_of {f g x y : Int} (h : f * x = g * y) (hf : f ≤ 0) (hg : 0 < g) : (0 < x → y ≤ 0) ∧ (x < 0 → 0 ≤ y) ∧ (x = 0 → y = 0) := by
  refine ⟨fun hx => ?_, fun hx => ?_, fun hx => ?_⟩
  · have := mul_lg hf (Int.le_of_lt hx)
    rcases Int.lt_or_le 0 y with k | k
    · have := mul_pp hg k; omega
    · exact k
  · have := mul_ll hf (Int.le_of_lt hx)
    rcases Int.lt_or_le y 0 with k | k
    · have := mul_pn hg k; omega
    · exact k
  · subst hx
    rcases Int.lt_trichotomy y 0 with k | k | k
    · have := mul_pn hg k; simp at h; omega
    · exact k
    · have := mul_pp hg k; simp at h; omega
theorem zero_of {f g x y : Int} (h : f * x = g * y) (hg : g ≠ 0) (hf : f = 0) : y = 0 := by
  rw [hf, Int.zero_mul] at h
  rcases Int.mul_eq_zero.1 h.symm with e | e
  · exact absurd e hg
  · exact e
/-- f1 ≤ 0 < f2: a lies against b. -/
theorem with_1 {q a b : Pt} (hq : 0 < q.d) (ha : 0 < a.d) (hb : 0 < b.d) {f1 f2 : Int} (hx : f1 * xv q b = f2 * xv q a) (hy : f1 * yv q b = f2 * yv q a) (h1 : f1 ≤ 0) (h2 : 0 < f2) : withB q a b = true := by
  obtain ⟨x1, x2, x3⟩ := sgn_of hx h1 h2
  obtain ⟨y1, y2, y3⟩ := sgn_of hy h1 h2
  by_cases c : befB b q = false
  · refine with_ab hq ha hb ?_ c
    rw [bef_x'] at c
    rw [bef_x]
    rcases c with c | ⟨c, d⟩
    · have := x1 c
      rcases Int.lt_or_eq_of_le this with k | k
      · exact .inl k
      · by_cases e : f1 = 0
        · exact .inr ⟨k, by rw [zero_of hy (by omega) e]; exact Int.le_refl _⟩
        · exact absurd (zero_of ((Int.mul_comm ..).trans hx.symm) (show f1 ≠ 0 from e) k) (by omega)
    · have := x3 c
      refine .inr ⟨this, ?_⟩
      rcases Int.lt_or_eq_of_le d with d | d
      · exact y1 d
      · have := y3 d.symm; omega
  · have c' : befB b q = true := by simpa using c
    have c2 : befB q b = false := by
      rw [bef_x]; rw [bef_iff] at c'; unfold xv yv; omega
    refine with_ba hq ha hb c2 ?_
    rw [bef_x] at c2
    rw [bef_x']
    rcases c2 with c | ⟨c, d⟩
    · have := x2 c
      rcases Int.lt_or_eq_of_le this with k | k
      · exact .inl k
      · by_cases e : f1 = 0
        · exact .inr ⟨k.symm, by rw [zero_of hy (by omega) e]; exact Int.le_refl _⟩
        · exact absurd (zero_of ((Int.mul_comm ..).trans hx.symm) (show f1 ≠ 0 from e) k.symm) (by omega)
    · have := x3 c
      refine .inr ⟨this, ?_⟩
      rcases Int.lt_or_eq_of_le d with d | d
      · exact y2 d
      · have := y3 d; omega
theorem with_sym {q a b : Pt} (hq : 0 < q.d) (ha : 0 < a.d) (hb : 0 < b.d) (h : withB q b a = true) : withB q a b = true := by
  unfold withB loM hiM at h
  by_cases c : befB a b = true
  · rw [if_pos c, if_pos c] at h
    simp at h
    exact with_ab hq ha hb h.1 h.2
  · rw [if_neg c, if_neg c] at h
    simp at h
    exact with_ba hq ha hb h.1 h.2
/-- q is between a and b, if some measure that is 0 at q says so, and the three are on one line. -/
theorem with_of {q a b : Pt} (hq : 0 < q.d) (ha : 0 < a.d) (hb : 0 < b.d) {f1 f2 : Int} (hx : f1 * xv q b = f2 * xv q a) (hy : f1 * yv q b = f2 * yv q a) (h : (f1 ≤ 0 ∧ 0 < f2) ∨ (f1 < 0 ∧ 0 ≤ f2) ∨ (0 ≤ f1 ∧ f2 < 0) ∨ (0 < f1 ∧ f2 ≤ 0)) : withB q a b = true := by
  rcases h with ⟨h1, h2⟩ | ⟨h1, h2⟩ | ⟨h1, h2⟩ | ⟨h1, h2⟩
  · exact with_1 hq ha hb hx hy h1 h2
  · exact with_sym hq ha hb (with_1 hq hb ha (f1 := -f2) (f2 := -f1) (by rw [Int.neg_mul, Int.neg_mul, hx]) (by rw [Int.neg_mul, Int.neg_mul, hy]) (by omega) (by omega))
  · exact with_1 hq ha hb (f1 := -f1) (f2 := -f2) (by rw [Int.neg_mul, Int.neg_mul, hx]) (by rw [Int.neg_mul, Int.neg_mul, hy]) (by omega) (by omega)
  · exact with_sym hq ha hb (with_1 hq hb ha (f1 := f2) (f2 := f1) hx.symm hy.symm h2 h1)

/-- A measure of two parts. -/
theorem col_x {al be x1 y1 x2 y2 : Int} (h : x1 * y2 - x2 * y1 = 0) : (al * x1 + be * y1) * x2 = (al * x2 + be * y2) * x1 ∧ (al * x1 + be * y1) * y2 = (al * x2 + be * y2) * y1 := by
  constructor <;> grind
section
variable {o q a b : Pt} (hq : 0 < q.d) (ha : 0 < a.d) (hb : 0 < b.d)
include hq ha hb
/-- The way's ends lie on either side of the edge's line, q on it: q is on the edge. -/
theorem nz_cross (hon : onB q a b = false) (h : (detM o q a < 0 ∧ 0 < detM o q b) ∨ (0 < detM o q a ∧ detM o q b < 0)) : detM a b q ≠ 0 := by
  intro e
  have c : xv q a * yv q b - xv q b * yv q a = 0 := by rw [← id4, e]; simp
  have m := col_x (al := yv q o) (be := -xv q o) c
  have ea := id5 o q a
  have eb := id5 o q b
  have w : withB q a b = true := by
    refine with_of hq ha hb m.1 m.2 ?_
    have ea' : yv q o * xv q a + -xv q o * yv q a = q.d * detM o q a := by rw [ea]; grind
    have eb' : yv q o * xv q b + -xv q o * yv q b = q.d * detM o q b := by rw [eb]; grind
    rw [ea', eb']
    rcases h with ⟨h1, h2⟩ | ⟨h1, h2⟩
    · exact .inl ⟨Int.le_of_lt (mul_pn hq h1), mul_pp hq h2⟩
    · exact .inr (.inr (.inl ⟨Int.le_of_lt (mul_pp hq h1), mul_pn hq h2⟩))
  unfold onB at hon
  rw [w, e] at hon
  simp at hon
/-- The edge comes past q's height, q on its line: q is on the edge. -/
theorem nz_up (c : Bool) (hon : onB q a b = false) (h : upB c q a ≠ upB c q b) : detM a b q ≠ 0 := by
  intro e
  have cc : xv q a * yv q b - xv q b * yv q a = 0 := by rw [← id4, e]; simp
  have m := col_x (al := 0) (be := 1) cc
  simp only [Int.zero_mul, Int.zero_add, Int.one_mul] at m
  have hne : yv q a ≠ yv q b := fun k => h (up_same k)
  have w : withB q a b = true := by
    refine with_of hq ha hb m.1 m.2 ?_
    cases ua : upB c q a <;> cases ub : upB c q b
    · rw [ua, ub] at h; exact absurd rfl h
    · have := up_false ua; have := up_true ub; omega
    · have := up_true ua; have := up_false ub; omega
    · rw [ua, ub] at h; exact absurd rfl h
  unfold onB at hon
  rw [w, e] at hon
  simp at hon
end
end Go.Proofs.Ytnkcbephceollab
/- Plain mathematics of Check. -/
namespace Go.Proofs.Ytnkcbephceollab
set_option linter.unusedSimpArgs false
set_option linter.unusedVariables false

/-- The first ring that has too few points, or too many with those ahead of it: its number, else -1. -/
def badM : Int → Int → List (List Pt) → Int
  | _, _, [] => -1
  | room, i, r :: rs => if (r.length : Int) < 3 ∨ room < (r.length : Int) then i else badM (room - r.length) (i + 1) rs
/-- The edges of a ring: from each point to the next, from the last to the first. -/
def edgeAt (r : List Pt) (j : Nat) : Pt × Pt := (r.getD j zP, r.getD (if j + 1 = r.length then 0 else j + 1) zP)
def ringEdges (r : List Pt) : List (Pt × Pt) := (List.range r.length).map (edgeAt r)
def edgesM (P : List (List Pt)) : List (Pt × Pt) := P.flatMap ringEdges
/-- The first place at which a test says yes: its number, else -1. -/
def findM {α : Type} (f : α → Bool) : Int → List α → Int
  | _, [] => -1
  | i, x :: xs => if f x = true then i else findM f (i + 1) xs
def eqB (p q : Pt) : Bool := decide (p.x = q.x ∧ p.y = q.y ∧ p.d = q.d)
def alongB (e f : Pt × Pt) : Bool := (meetM e.1 e.2 f.1 f.2).k == 2
def sharesM (E : List (Pt × Pt)) (i : Nat) : Bool := (E.take i).any (alongB (E.getD i (zP, zP)))
def checkM (P : List (List Pt)) : Int × Int :=
  if 4 < P.length then (1, 0)
  else if badM 12 0 P ≠ -1 then (2, badM 12 0 P)
  else if findM (fun e : Pt × Pt => !gridB e.1) 0 (edgesM P) ≠ -1 then (3, findM (fun e : Pt × Pt => !gridB e.1) 0 (edgesM P))
  else if findM (fun e : Pt × Pt => eqB e.1 e.2) 0 (edgesM P) ≠ -1 then (4, findM (fun e : Pt × Pt => eqB e.1 e.2) 0 (edgesM P))
  else if findM (sharesM (edgesM P)) 0 (List.range (edgesM P).length) ≠ -1 then (5, findM (sharesM (edgesM P)) 0 (List.range (edgesM P).length))
  else (0, 0)

theorem badM_cons (room i : Int) (P : List (List Pt)) (k : Nat) (hk : k < P.length) :
    badM room i (P.drop k) = if ((P.getD k []).length : Int) < 3 ∨ room < ((P.getD k []).length : Int) then i else badM (room - (P.getD k []).length) (i + 1) (P.drop (k + 1)) := by
  rw [List.drop_eq_getElem_cons hk]
  simp only [badM]
  rw [List.getD_eq_getElem?_getD, List.getElem?_eq_getElem hk]; rfl
theorem findM_cons {α : Type} (f : α → Bool) (i : Int) (l : List α) (k : Nat) (hk : k < l.length) (d : α) :
    findM f i (l.drop k) = if f (l.getD k d) = true then i else findM f (i + 1) (l.drop (k + 1)) := by
  rw [List.drop_eq_getElem_cons hk]
  simp only [findM]
  rw [List.getD_eq_getElem?_getD, List.getElem?_eq_getElem hk]; rfl
end Go.Proofs.Ytnkcbephceollab
