import Derived.Test.YtnkcbephceollaaGreatQ2
/- Plain mathematics of Meet: the document's answer, reckoned otherwise, is the same. -/
namespace Go.Proofs.YtnkcbephceollaaGreat
set_option linter.unusedSimpArgs false
set_option linter.unusedVariables false

def loM (a b : Pt) : Pt := if befB b a = true then b else a
def hiM (a b : Pt) : Pt := if befB b a = true then a else b
def withB (p a b : Pt) : Bool := !befB p (loM a b) && !befB (hiM a b) p
def placeB (p q : Pt) : Bool := !befB p q && !befB q p
def xX (a b c d : Pt) : Int := (b.x - a.x) * (c.x * d.y - d.x * c.y) - (a.x * b.y - b.x * a.y) * (d.x - c.x)
def xY (a b c d : Pt) : Int := (a.x * b.y - b.x * a.y) * (c.y - d.y) - (a.y - b.y) * (c.x * d.y - d.x * c.y)
def xD (a b c d : Pt) : Int := (a.y - b.y) * (d.x - c.x) - (b.x - a.x) * (c.y - d.y)
def rlineM (a b c d : Pt) : Mt :=
  let lo := if befB (loM a b) (loM c d) = true then loM c d else loM a b
  let hi := if befB (hiM c d) (hiM a b) = true then hiM c d else hiM a b
  if befB hi lo = true then zM else if placeB lo hi = true then ⟨1, lo, zP⟩ else ⟨2, lo, hi⟩
def rmeetM (a b c d : Pt) : Mt :=
  let p := norm (xX a b c d) (xY a b c d) (xD a b c d)
  if 0 < p.d then (if withB p a b = true ∧ withB p c d = true then ⟨1, leastM p, zP⟩ else zM)
  else if detM a b c ≠ 0 then zM else rlineM a b c d

theorem loM_gd {p q : Pt} (hp : Gd p) (hq : Gd q) : Gd (loM p q) := by unfold loM; split <;> assumption
theorem hiM_gd {p q : Pt} (hp : Gd p) (hq : Gd q) : Gd (hiM p q) := by unfold hiM; split <;> assumption
theorem lo_first {a b : Pt} (ha : a.d = 1) (hb : b.d = 1) : loM a b = firstM a b := by
  unfold loM firstM
  by_cases h : befB b a = true
  · rw [if_pos h, if_pos ((cmp_neg hb ha).2 ((bef_L hb ha).1 h))]
  · rw [if_neg h, if_neg (fun e => h ((bef_L hb ha).2 ((cmp_neg hb ha).1 e)))]
theorem hi_last {a b : Pt} (ha : a.d = 1) (hb : b.d = 1) : hiM a b = lastM a b := by
  unfold hiM lastM
  by_cases h : befB b a = true
  · rw [if_pos h, if_neg (fun e => L_asym ((bef_L hb ha).1 h) ((cmp_pos hb ha).1 e))]
  · rw [if_neg h]
    by_cases e : L a b
    · rw [if_pos ((cmp_pos hb ha).2 e)]
    · have := L_anti ha hb e (fun k => h ((bef_L hb ha).2 k))
      rw [← this, ite_self]
theorem rline_eq {a b c d : Pt} (ha : a.d = 1) (hb : b.d = 1) (hc : c.d = 1) (hd : d.d = 1) : rlineM a b c d = lineM a b c d := by
  unfold rlineM lineM
  rw [lo_first ha hb, lo_first hc hd, hi_last ha hb, hi_last hc hd]
  have d1 := first_d ha hb
  have d2 := first_d hc hd
  have d3 := last_d ha hb
  have d4 := last_d hc hd
  generalize firstM a b = f1 at *
  generalize firstM c d = f2 at *
  generalize lastM a b = l1 at *
  generalize lastM c d = l2 at *
  have e1 : (if befB f1 f2 = true then f2 else f1) = lastM f1 f2 := by
    unfold lastM
    by_cases h : befB f1 f2 = true
    · rw [if_pos h, if_pos ((cmp_pos d2 d1).2 ((bef_L d1 d2).1 h))]
    · rw [if_neg h, if_neg (fun e => h ((bef_L d1 d2).2 ((cmp_pos d2 d1).1 e)))]
  have e2 : (if befB l2 l1 = true then l2 else l1) = firstM l1 l2 := by
    unfold firstM
    by_cases h : befB l2 l1 = true
    · rw [if_pos h, if_pos ((cmp_neg d4 d3).2 ((bef_L d4 d3).1 h))]
    · rw [if_neg h, if_neg (fun e => h ((bef_L d4 d3).2 ((cmp_neg d4 d3).1 e)))]
  have d5 := last_d d1 d2
  have d6 := first_d d3 d4
  simp only [e1, e2]
  generalize lastM f1 f2 = f at *
  generalize firstM l1 l2 = t at *
  by_cases h : befB t f = true
  · rw [if_pos h, if_pos ((cmp_pos d5 d6).2 ((bef_L d6 d5).1 h))]
  · have hn : ¬ L t f := fun e => h ((bef_L d6 d5).2 e)
    rw [if_neg h, if_neg (fun e => hn ((cmp_pos d5 d6).1 e))]
    have e3 : placeB f t = true ↔ cmpM f t = 0 := by
      rw [cmp_zero d5 d6]
      unfold placeB
      simp only [Bool.and_eq_true, Bool.not_eq_true']
      constructor
      · rintro ⟨k1, k2⟩
        exact L_anti d5 d6 (fun e => by rw [(bef_L d5 d6).2 e] at k1; cases k1) hn
      · rintro rfl
        have : befB f f = false := by cases e : befB f f; rfl; exact absurd ((bef_L d5 d5).1 e) (fun k => L_asym k k)
        exact ⟨this, this⟩
    by_cases k : cmpM f t = 0
    · rw [if_pos (e3.2 k), if_pos k]
    · rw [if_neg (fun e => k (e3.1 e)), if_neg k]

/-! Within. -/
def NG (ux uy t : Int) : Prop := ux * t < 0 ∨ (ux * t = 0 ∧ uy * t < 0)
theorem ng_pos {ux uy t : Int} (h : 0 < ux ∨ (ux = 0 ∧ 0 < uy)) : NG ux uy t ↔ t < 0 := by
  unfold NG
  rcases h with h | ⟨rfl, h⟩
  · constructor
    · rintro (k | ⟨k, k2⟩)
      · rcases Int.lt_or_le t 0 with g | g
        · exact g
        · have := Int.mul_nonneg (Int.le_of_lt h) g; omega
      · rcases Int.mul_eq_zero.1 k with g | g
        · omega
        · rw [g] at k2; simp at k2
    · intro g; exact .inl (Int.mul_neg_of_pos_of_neg h g)
  · simp only [Int.zero_mul, Int.lt_irrefl, false_or, true_and]
    constructor
    · intro k
      rcases Int.lt_or_le t 0 with g | g
      · exact g
      · have := Int.mul_nonneg (Int.le_of_lt h) g; omega
    · intro g; exact Int.mul_neg_of_pos_of_neg h g
theorem ng_flip (ux uy t : Int) : NG (-ux) (-uy) (-t) ↔ NG ux uy t := by
  unfold NG
  rw [Int.neg_mul_neg, Int.neg_mul_neg]
theorem with_iff {a b : Pt} (ha : a.d = 1) (hb : b.d = 1) (hab : a ≠ b) {w s : Int} :
    withB ⟨a.x * w + (b.x - a.x) * s, a.y * w + (b.y - a.y) * s, w⟩ a b = true ↔ 0 ≤ s ∧ s ≤ w := by
  have hu : ¬ ((b.x - a.x) = 0 ∧ (b.y - a.y) = 0) := fun e => hab (Pt.ext' (by omega) (by omega) (by omega))
  have ex : a.x * w + (b.x - a.x) * s - b.x * w = (b.x - a.x) * (s - w) := by grind
  have ey : a.y * w + (b.y - a.y) * s - b.y * w = (b.y - a.y) * (s - w) := by grind
  have b1 : befB ⟨a.x * w + (b.x - a.x) * s, a.y * w + (b.y - a.y) * s, w⟩ a = true ↔ NG (b.x - a.x) (b.y - a.y) s := by
    rw [bef_iff]; unfold NG; simp only [ha, Int.mul_one]; omega
  have b2 : befB ⟨a.x * w + (b.x - a.x) * s, a.y * w + (b.y - a.y) * s, w⟩ b = true ↔ NG (b.x - a.x) (b.y - a.y) (s - w) := by
    rw [bef_iff]; unfold NG; simp only [hb, Int.mul_one]; rw [← ex, ← ey]; omega
  have b3 : befB a ⟨a.x * w + (b.x - a.x) * s, a.y * w + (b.y - a.y) * s, w⟩ = true ↔ NG (b.x - a.x) (b.y - a.y) (-s) := by
    rw [bef_iff]; unfold NG; simp only [ha, Int.mul_one, Int.mul_neg]; omega
  have b4 : befB b ⟨a.x * w + (b.x - a.x) * s, a.y * w + (b.y - a.y) * s, w⟩ = true ↔ NG (b.x - a.x) (b.y - a.y) (-(s - w)) := by
    rw [bef_iff]; unfold NG; simp only [hb, Int.mul_one]; rw [Int.mul_neg, Int.mul_neg, ← ex, ← ey]; omega
  generalize hP : (⟨a.x * w + (b.x - a.x) * s, a.y * w + (b.y - a.y) * s, w⟩ : Pt) = P at *
  have key : ∀ x y : Bool, (!x && !y) = true ↔ ¬ x = true ∧ ¬ y = true := by decide
  unfold withB loM hiM
  by_cases h : befB b a = true
  · have hl := (bef_L hb ha).1 h
    unfold L at hl
    rw [if_pos h, if_pos h, key, b2, b3, ← ng_flip, ng_pos (by omega), ← ng_flip (b.x - a.x), ng_pos (by omega)]
    omega
  · have hl : ¬ L b a := fun e => h ((bef_L hb ha).2 e)
    unfold L at hl
    rw [if_neg h, if_neg h, key, b1, b4, ng_pos (by omega), ng_pos (by omega)]
    omega

theorem xD_w {a b c d : Pt} (ha : a.d = 1) (hb : b.d = 1) (hc : c.d = 1) (hd : d.d = 1) : xD a b c d = detM a b d - detM a b c := by
  rw [← w_mn ha hb hc hd]; unfold xD crossM; grind
theorem xX_n {a b c d : Pt} (ha : a.d = 1) (hb : b.d = 1) (hc : c.d = 1) (hd : d.d = 1) : xX a b c d = a.x * (detM a b d - detM a b c) + (b.x - a.x) * detM c d a := by
  unfold xX detM; rw [ha, hb, hc, hd]; grind
theorem xY_n {a b c d : Pt} (ha : a.d = 1) (hb : b.d = 1) (hc : c.d = 1) (hd : d.d = 1) : xY a b c d = a.y * (detM a b d - detM a b c) + (b.y - a.y) * detM c d a := by
  unfold xY detM; rw [ha, hb, hc, hd]; grind

theorem rmeet_eq {a b c d : Pt} (ha : a.d = 1) (hb : b.d = 1) (hc : c.d = 1) (hd : d.d = 1) (hab : a ≠ b) (hcd : c ≠ d) : rmeetM a b c d = meetM a b c d := by
  rw [meet_eq ha hb hc hd]
  unfold rmeetM
  rw [xD_w ha hb hc hd, xX_n ha hb hc hd, xY_n ha hb hc hd]
  have e := pq_mn ha hb hc hd
  have xc := x_cd ha hb hc hd
  have yc := y_cd ha hb hc hd
  by_cases hw : detM a b d - detM a b c = 0
  · have hn : ¬ 0 < (norm (a.x * (detM a b d - detM a b c) + (b.x - a.x) * detM c d a) (a.y * (detM a b d - detM a b c) + (b.y - a.y) * detM c d a) (detM a b d - detM a b c)).d := by
      unfold norm; rw [if_neg (by omega)]; show ¬ 0 < detM a b d - detM a b c; omega
    simp only [if_neg hn, if_pos hw]
    rw [rline_eq ha hb hc hd]
  · have hn : 0 < (norm (a.x * (detM a b d - detM a b c) + (b.x - a.x) * detM c d a) (a.y * (detM a b d - detM a b c) + (b.y - a.y) * detM c d a) (detM a b d - detM a b c)).d := by
      unfold norm; split
      · show 0 < -(detM a b d - detM a b c); omega
      · show 0 < detM a b d - detM a b c; omega
    simp only [if_pos hn, if_neg hw]
    have hg : (withB (norm (a.x * (detM a b d - detM a b c) + (b.x - a.x) * detM c d a) (a.y * (detM a b d - detM a b c) + (b.y - a.y) * detM c d a) (detM a b d - detM a b c)) a b = true ∧ withB (norm (a.x * (detM a b d - detM a b c) + (b.x - a.x) * detM c d a) (a.y * (detM a b d - detM a b c) + (b.y - a.y) * detM c d a) (detM a b d - detM a b c)) c d = true) ↔ goodM (detM a b d - detM a b c) (detM a b c) (detM a b d) (detM c d a) (detM c d b) := by
      unfold norm goodM
      by_cases h : detM a b d - detM a b c < 0
      · rw [if_pos h]
        have ex : -(a.x * (detM a b d - detM a b c) + (b.x - a.x) * detM c d a) = a.x * (-(detM a b d - detM a b c)) + (b.x - a.x) * (-detM c d a) := by grind
        have ey : -(a.y * (detM a b d - detM a b c) + (b.y - a.y) * detM c d a) = a.y * (-(detM a b d - detM a b c)) + (b.y - a.y) * (-detM c d a) := by grind
        have fx : -(a.x * (detM a b d - detM a b c) + (b.x - a.x) * detM c d a) = c.x * (-(detM a b d - detM a b c)) + (d.x - c.x) * (detM a b c) := by rw [← xc]; grind
        have fy : -(a.y * (detM a b d - detM a b c) + (b.y - a.y) * detM c d a) = c.y * (-(detM a b d - detM a b c)) + (d.y - c.y) * (detM a b c) := by rw [← yc]; grind
        have k1 := with_iff ha hb hab (w := -(detM a b d - detM a b c)) (s := -detM c d a)
        have k2 := with_iff hc hd hcd (w := -(detM a b d - detM a b c)) (s := detM a b c)
        rw [← ex, ← ey] at k1
        rw [← fx, ← fy] at k2
        rw [k1, k2]
        omega
      · rw [if_neg h]
        have k1 := with_iff ha hb hab (w := detM a b d - detM a b c) (s := detM c d a)
        have k2 := with_iff hc hd hcd (w := detM a b d - detM a b c) (s := -detM a b c)
        rw [xc, yc] at k2
        rw [k1, k2]
        omega
    by_cases g : goodM (detM a b d - detM a b c) (detM a b c) (detM a b d) (detM c d a) (detM c d b)
    · rw [if_pos (hg.2 g), across_good ha hb hc hd hw g]
    · rw [if_neg (fun e => g (hg.1 e)), across_bad ha hb hc hd hw g]
end Go.Proofs.YtnkcbephceollaaGreat
namespace Go.Proofs.YtnkcbephceollaaGreat
set_option linter.unusedVariables false

/-- How high v lies above q, as a number of one sign with it. -/
def yv (q v : Pt) : Int := v.y * q.d - q.y * v.d
def xv (q v : Pt) : Int := v.x * q.d - q.x * v.d
/-- Above q; at its height: as c says. -/
def upB (c : Bool) (q v : Pt) : Bool := decide (0 < yv q v) || (c && decide (yv q v = 0))
/-- Does the edge cross the way from q to the right? -/
def rayB (c : Bool) (q a b : Pt) : Bool := (!upB c q a && upB c q b && decide (0 < detM a b q)) || (upB c q a && !upB c q b && decide (detM a b q < 0))
def apartB (m n : Int) : Bool := (decide (m < 0) && decide (0 < n)) || (decide (0 < m) && decide (n < 0))
/-- Does the way from o to q cross the edge? -/
def crossB (o q a b : Pt) : Bool := apartB (detM o q a) (detM o q b) && apartB (detM a b o) (detM a b q)
def onB (p a b : Pt) : Bool := decide (detM a b p = 0) && withB p a b

theorem id1 (o q a b : Pt) : yv q o * detM a b q = detM o q a * yv q b - detM o q b * yv q a := by unfold yv detM; grind
theorem id2 (o q a b : Pt) : yv q o * detM a b o = detM o q a * yv o b - detM o q b * yv o a := by unfold yv detM; grind
theorem id3 (o q a b : Pt) : q.d * detM a b o = o.d * detM a b q + a.d * detM o q b - b.d * detM o q a := by unfold detM; grind
theorem id4 (q a b : Pt) : q.d * detM a b q = xv q a * yv q b - xv q b * yv q a := by unfold xv yv detM; grind
theorem id5 (o q a : Pt) : q.d * detM o q a = yv q o * xv q a - xv q o * yv q a := by unfold xv yv detM; grind
theorem det_sw (o q a : Pt) : detM q o a = -detM o q a := by unfold detM; grind
theorem det_sw2 (a b q : Pt) : detM b a q = -detM a b q := by unfold detM; grind
theorem yv_sw (o q : Pt) : yv o q = -yv q o := by unfold yv; grind

theorem mul_pp {a b : Int} (ha : 0 < a) (hb : 0 < b) : 0 < a * b := Int.mul_pos ha hb
theorem mul_np {a b : Int} (ha : a < 0) (hb : 0 < b) : a * b < 0 := Int.mul_neg_of_neg_of_pos ha hb
theorem mul_pn {a b : Int} (ha : 0 < a) (hb : b < 0) : a * b < 0 := Int.mul_neg_of_pos_of_neg ha hb
theorem mul_nn {a b : Int} (ha : a < 0) (hb : b < 0) : 0 < a * b := Int.mul_pos_of_neg_of_neg ha hb
theorem mul_gg {a b : Int} (ha : 0 ≤ a) (hb : 0 ≤ b) : 0 ≤ a * b := Int.mul_nonneg ha hb
theorem mul_gl {a b : Int} (ha : 0 ≤ a) (hb : b ≤ 0) : a * b ≤ 0 := Int.mul_nonpos_of_nonneg_of_nonpos ha hb
theorem mul_lg {a b : Int} (ha : a ≤ 0) (hb : 0 ≤ b) : a * b ≤ 0 := Int.mul_nonpos_of_nonpos_of_nonneg ha hb
theorem mul_ll {a b : Int} (ha : a ≤ 0) (hb : b ≤ 0) : 0 ≤ a * b := Int.mul_nonneg_of_nonpos_of_nonpos ha hb

section
variable {yo A B H ya yb : Int} {ua ub : Bool}
theorem ray_pm (h1 : yo * H = A * yb - B * ya) (hy : yo < 0) (hA : 0 < A) (hB : B < 0) (hH : H ≠ 0) (a1 : ua = true → 0 ≤ ya) (a2 : ua = false → ya ≤ 0) (b1 : ub = true → 0 ≤ yb) (b2 : ub = false → yb ≤ 0) :
    ((!ua && ub && decide (0 < H)) || (ua && !ub && decide (H < 0))) = (ub ^^ !decide (0 < H)) := by
  rcases Int.lt_or_gt_of_ne hH with h | h
  · have p := mul_nn hy h
    have e1 : decide (0 < H) = false := by simp; omega
    have e2 : decide (H < 0) = true := by simp; omega
    rw [e1, e2]
    cases ua <;> cases ub
    · have := mul_gl (Int.le_of_lt hA) (b2 rfl); have := mul_ll (Int.le_of_lt hB) (a2 rfl); omega
    · rfl
    · rfl
    · rfl
  · have p := mul_np hy h
    have e1 : decide (0 < H) = true := by simp; omega
    have e2 : decide (H < 0) = false := by simp; omega
    rw [e1, e2]
    cases ua <;> cases ub
    · rfl
    · rfl
    · rfl
    · have := mul_gg (Int.le_of_lt hA) (b1 rfl); have := mul_lg (Int.le_of_lt hB) (a1 rfl); omega
theorem ray_pp (h1 : yo * H = A * yb - B * ya) (hy : yo < 0) (hA : 0 < A) (hB : 0 < B) (a1 : ua = true → 0 ≤ ya) (a2 : ua = false → ya ≤ 0) (b1 : ub = true → 0 ≤ yb) (b2 : ub = false → yb ≤ 0) :
    ((!ua && ub && decide (0 < H)) || (ua && !ub && decide (H < 0))) = false := by
  cases ua <;> cases ub
  · simp
  · have := mul_gg (Int.le_of_lt hA) (b1 rfl); have := mul_gl (Int.le_of_lt hB) (a2 rfl)
    have : ¬ 0 < H := fun h => by have := mul_np hy h; omega
    simp; omega
  · have := mul_gl (Int.le_of_lt hA) (b2 rfl); have := mul_gg (Int.le_of_lt hB) (a1 rfl)
    have : ¬ H < 0 := fun h => by have := mul_nn hy h; omega
    simp; omega
  · simp
theorem ray_mm (h1 : yo * H = A * yb - B * ya) (hy : yo < 0) (hA : A < 0) (hB : B < 0) (hH : ua ≠ ub → H ≠ 0) (a1 : ua = true → 0 ≤ ya) (a2 : ua = false → ya ≤ 0) (b1 : ub = true → 0 ≤ yb) (b2 : ub = false → yb ≤ 0) :
    ((!ua && ub && decide (0 < H)) || (ua && !ub && decide (H < 0))) = (ua ^^ ub) := by
  cases ua <;> cases ub
  · simp
  · have := mul_lg (Int.le_of_lt hA) (b1 rfl); have := mul_ll (Int.le_of_lt hB) (a2 rfl)
    have := hH (by simp)
    have : 0 < H := by
      rcases Int.lt_or_gt_of_ne this with h | h
      · have := mul_nn hy h; omega
      · exact h
    simp; omega
  · have := mul_ll (Int.le_of_lt hA) (b2 rfl); have := mul_lg (Int.le_of_lt hB) (a1 rfl)
    have := hH (by simp)
    have : H < 0 := by
      rcases Int.lt_or_gt_of_ne this with h | h
      · exact h
      · have := mul_np hy h; omega
    simp; omega
  · simp
end
theorem up_true {c : Bool} {q v : Pt} (h : upB c q v = true) : 0 ≤ yv q v := by
  unfold upB at h; simp at h; omega
theorem up_false {c : Bool} {q v : Pt} (h : upB c q v = false) : yv q v ≤ 0 := by
  unfold upB at h; simp at h; omega
theorem up_same {c : Bool} {q a b : Pt} (h : yv q a = yv q b) : upB c q a = upB c q b := by
  unfold upB; rw [h]

theorem fr_trans {px pd qx qd rx rd : Int} (hp : 0 < pd) (hq : 0 < qd) (hr : 0 < rd) (h1 : px * qd ≤ qx * pd) (h2 : qx * rd ≤ rx * qd) : px * rd ≤ rx * pd ∧ (px * rd = rx * pd → px * qd = qx * pd ∧ qx * rd = rx * qd) := by
  have m1 := Int.mul_le_mul_of_nonneg_right h1 (Int.le_of_lt hr)
  have m2 := Int.mul_le_mul_of_nonneg_right h2 (Int.le_of_lt hp)
  have r1 : px * rd * qd = px * qd * rd := Int.mul_right_comm ..
  have r2 : rx * pd * qd = rx * qd * pd := Int.mul_right_comm ..
  have r3 : qx * rd * pd = qx * pd * rd := Int.mul_right_comm ..
  have e : (px * rd) * qd ≤ (rx * pd) * qd := by omega
  refine ⟨Int.le_of_mul_le_mul_right e hq, fun h => ?_⟩
  have e2 : (px * rd) * qd = (rx * pd) * qd := by rw [h]
  have n1 : (px * qd) * rd = (qx * pd) * rd := by omega
  have n2 : (qx * rd) * pd = (rx * qd) * pd := by omega
  exact ⟨Int.eq_of_mul_eq_mul_right (by omega) n1, Int.eq_of_mul_eq_mul_right (by omega) n2⟩
theorem bef_false (p q : Pt) : befB p q = false ↔ (q.x * p.d < p.x * q.d ∨ (q.x * p.d = p.x * q.d ∧ q.y * p.d ≤ p.y * q.d)) := by
  rw [← Bool.not_eq_true, bef_iff]; omega
/-- p ahead of q, q not behind r: p is ahead of r. -/
theorem bef_le {p q r : Pt} (hp : 0 < p.d) (hq : 0 < q.d) (hr : 0 < r.d) (h1 : befB p q = true) (h2 : befB r q = false) : befB p r = true := by
  rw [bef_iff] at h1
  rw [bef_false] at h2
  rw [bef_iff]
  have t := fr_trans hp hq hr (px := p.x) (qx := q.x) (rx := r.x) (by omega) (by omega)
  rcases Int.lt_or_eq_of_le t.1 with h | h
  · exact .inl h
  · obtain ⟨e1, e2⟩ := t.2 h
    have u := fr_trans hp hq hr (px := p.y) (qx := q.y) (rx := r.y) (by omega) (by omega)
    refine .inr ⟨h, ?_⟩
    rcases Int.lt_or_eq_of_le u.1 with g | g
    · exact g
    · obtain ⟨g1, g2⟩ := u.2 g
      omega
theorem le_bef {p q r : Pt} (hp : 0 < p.d) (hq : 0 < q.d) (hr : 0 < r.d) (h1 : befB q p = false) (h2 : befB q r = true) : befB p r = true := by
  rw [bef_false] at h1
  rw [bef_iff] at h2
  rw [bef_iff]
  have t := fr_trans hp hq hr (px := p.x) (qx := q.x) (rx := r.x) (by omega) (by omega)
  rcases Int.lt_or_eq_of_le t.1 with h | h
  · exact .inl h
  · obtain ⟨e1, e2⟩ := t.2 h
    have u := fr_trans hp hq hr (px := p.y) (qx := q.y) (rx := r.y) (by omega) (by omega)
    refine .inr ⟨h, ?_⟩
    rcases Int.lt_or_eq_of_le u.1 with g | g
    · exact g
    · obtain ⟨g1, g2⟩ := u.2 g
      omega
/-- Not ahead of a, and b not ahead of it: between them. -/
theorem with_ab {q a b : Pt} (hq : 0 < q.d) (ha : 0 < a.d) (hb : 0 < b.d) (h1 : befB q a = false) (h2 : befB b q = false) : withB q a b = true := by
  have e : befB b a = false := by
    cases h : befB b a
    · rfl
    · exact absurd (bef_le hb ha hq h h1) (by rw [h2]; simp)
  unfold withB loM hiM
  rw [e]
  simp [h1, h2]
theorem with_ba {q a b : Pt} (hq : 0 < q.d) (ha : 0 < a.d) (hb : 0 < b.d) (h1 : befB q b = false) (h2 : befB a q = false) : withB q a b = true := by
  unfold withB loM hiM
  by_cases h : befB b a = true
  · simp [h, h1, h2]
  · have h' : befB b a = false := by simpa using h
    have e1 : befB q a = false := by
      cases k : befB q a
      · rfl
      · exact absurd (bef_le hq ha hb k h') (by rw [h1]; simp)
    have e2 : befB b q = false := by
      cases k : befB b q
      · rfl
      · exact absurd (le_bef ha hb hq h' k) (by rw [h2]; simp)
    simp [h', e1, e2]
theorem bef_x (q v : Pt) : befB q v = false ↔ (xv q v < 0 ∨ (xv q v = 0 ∧ yv q v ≤ 0)) := by
  rw [bef_false]; unfold xv yv; omega
theorem bef_x' (q v : Pt) : befB v q = false ↔ (0 < xv q v ∨ (xv q v = 0 ∧ 0 ≤ yv q v)) := by
  rw [bef_false]; unfold xv yv; omega
theorem sgn_of {f g x y : Int} (h : f * x = g * y) (hf : f ≤ 0) (hg : 0 < g) : (0 < x → y ≤ 0) ∧ (x < 0 → 0 ≤ y) ∧ (x = 0 → y = 0) := by
  refine ⟨fun hx => ?_, fun hx => ?_, fun hx => ?_⟩
  · have := mul_lg hf (Int.le_of_lt hx)
    rcases Int.lt_or_le 0 y with k | k
    · have := mul_pp hg k; omega
    · exact k
  · have := mul_ll hf (Int.le_of_lt hx)
    rcases Int.lt_or_le y 0 with k | k
    · have := mul_pn hg k; omega
    · exact k
  · subst hx
    rcases Int.lt_trichotomy y 0 with k | k | k
    · have := mul_pn hg k; simp at h; omega
    · exact k
    · have := mul_pp hg k; simp at h; omega
theorem zero_of {f g x y : Int} (h : f * x = g * y) (hg : g ≠ 0) (hf : f = 0) : y = 0 := by
  rw [hf, Int.zero_mul] at h
  rcases Int.mul_eq_zero.1 h.symm with e | e
  · exact absurd e hg
  · exact e
/-- f1 ≤ 0 < f2: a lies against b. -/
theorem with_1 {q a b : Pt} (hq : 0 < q.d) (ha : 0 < a.d) (hb : 0 < b.d) {f1 f2 : Int} (hx : f1 * xv q b = f2 * xv q a) (hy : f1 * yv q b = f2 * yv q a) (h1 : f1 ≤ 0) (h2 : 0 < f2) : withB q a b = true := by
  obtain ⟨x1, x2, x3⟩ := sgn_of hx h1 h2
  obtain ⟨y1, y2, y3⟩ := sgn_of hy h1 h2
  by_cases c : befB b q = false
  · refine with_ab hq ha hb ?_ c
    rw [bef_x'] at c
    rw [bef_x]
    rcases c with c | ⟨c, d⟩
    · have := x1 c
      rcases Int.lt_or_eq_of_le this with k | k
      · exact .inl k
      · by_cases e : f1 = 0
        · exact .inr ⟨k, by rw [zero_of hy (by omega) e]; exact Int.le_refl _⟩
        · exact absurd (zero_of ((Int.mul_comm ..).trans hx.symm) (show f1 ≠ 0 from e) k) (by omega)
    · have := x3 c
      refine .inr ⟨this, ?_⟩
      rcases Int.lt_or_eq_of_le d with d | d
      · exact y1 d
      · have := y3 d.symm; omega
  · have c' : befB b q = true := by simpa using c
    have c2 : befB q b = false := by
      rw [bef_x]; rw [bef_iff] at c'; unfold xv yv; omega
    refine with_ba hq ha hb c2 ?_
    rw [bef_x] at c2
    rw [bef_x']
    rcases c2 with c | ⟨c, d⟩
    · have := x2 c
      rcases Int.lt_or_eq_of_le this with k | k
      · exact .inl k
      · by_cases e : f1 = 0
        · exact .inr ⟨k.symm, by rw [zero_of hy (by omega) e]; exact Int.le_refl _⟩
        · exact absurd (zero_of ((Int.mul_comm ..).trans hx.symm) (show f1 ≠ 0 from e) k.symm) (by omega)
    · have := x3 c
      refine .inr ⟨this, ?_⟩
      rcases Int.lt_or_eq_of_le d with d | d
      · exact y2 d
      · have := y3 d; omega
theorem with_sym {q a b : Pt} (hq : 0 < q.d) (ha : 0 < a.d) (hb : 0 < b.d) (h : withB q b a = true) : withB q a b = true := by
  unfold withB loM hiM at h
  by_cases c : befB a b = true
  · rw [if_pos c, if_pos c] at h
    simp at h
    exact with_ab hq ha hb h.1 h.2
  · rw [if_neg c, if_neg c] at h
    simp at h
    exact with_ba hq ha hb h.1 h.2
/-- q is between a and b, if some measure that is 0 at q says so, and the three are on one line. -/
theorem with_of {q a b : Pt} (hq : 0 < q.d) (ha : 0 < a.d) (hb : 0 < b.d) {f1 f2 : Int} (hx : f1 * xv q b = f2 * xv q a) (hy : f1 * yv q b = f2 * yv q a) (h : (f1 ≤ 0 ∧ 0 < f2) ∨ (f1 < 0 ∧ 0 ≤ f2) ∨ (0 ≤ f1 ∧ f2 < 0) ∨ (0 < f1 ∧ f2 ≤ 0)) : withB q a b = true := by
  rcases h with ⟨h1, h2⟩ | ⟨h1, h2⟩ | ⟨h1, h2⟩ | ⟨h1, h2⟩
  · exact with_1 hq ha hb hx hy h1 h2
  · exact with_sym hq ha hb (with_1 hq hb ha (f1 := -f2) (f2 := -f1) (by rw [Int.neg_mul, Int.neg_mul, hx]) (by rw [Int.neg_mul, Int.neg_mul, hy]) (by omega) (by omega))
  · exact with_1 hq ha hb (f1 := -f1) (f2 := -f2) (by rw [Int.neg_mul, Int.neg_mul, hx]) (by rw [Int.neg_mul, Int.neg_mul, hy]) (by omega) (by omega)
  · exact with_sym hq ha hb (with_1 hq hb ha (f1 := f2) (f2 := f1) hx.symm hy.symm h2 h1)

/-- A measure of two parts. -/
theorem col_x {al be x1 y1 x2 y2 : Int} (h : x1 * y2 - x2 * y1 = 0) : (al * x1 + be * y1) * x2 = (al * x2 + be * y2) * x1 ∧ (al * x1 + be * y1) * y2 = (al * x2 + be * y2) * y1 := by
  constructor <;> grind
section
variable {o q a b : Pt} (hq : 0 < q.d) (ha : 0 < a.d) (hb : 0 < b.d)
include hq ha hb
/-- The way's ends lie on either side of the edge's line, q on it: q is on the edge. -/
theorem nz_cross (hon : onB q a b = false) (h : (detM o q a < 0 ∧ 0 < detM o q b) ∨ (0 < detM o q a ∧ detM o q b < 0)) : detM a b q ≠ 0 := by
  intro e
  have c : xv q a * yv q b - xv q b * yv q a = 0 := by rw [← id4, e]; simp
  have m := col_x (al := yv q o) (be := -xv q o) c
  have ea := id5 o q a
  have eb := id5 o q b
  have w : withB q a b = true := by
    refine with_of hq ha hb m.1 m.2 ?_
    have ea' : yv q o * xv q a + -xv q o * yv q a = q.d * detM o q a := by rw [ea]; grind
    have eb' : yv q o * xv q b + -xv q o * yv q b = q.d * detM o q b := by rw [eb]; grind
    rw [ea', eb']
    rcases h with ⟨h1, h2⟩ | ⟨h1, h2⟩
    · exact .inl ⟨Int.le_of_lt (mul_pn hq h1), mul_pp hq h2⟩
    · exact .inr (.inr (.inl ⟨Int.le_of_lt (mul_pp hq h1), mul_pn hq h2⟩))
  unfold onB at hon
  rw [w, e] at hon
  simp at hon
/-- The edge comes past q's height, q on its line: q is on the edge. -/
theorem nz_up (c : Bool) (hon : onB q a b = false) (h : upB c q a ≠ upB c q b) : detM a b q ≠ 0 := by
  intro e
  have cc : xv q a * yv q b - xv q b * yv q a = 0 := by rw [← id4, e]; simp
  have m := col_x (al := 0) (be := 1) cc
  simp only [Int.zero_mul, Int.zero_add, Int.one_mul] at m
  have hne : yv q a ≠ yv q b := fun k => h (up_same k)
  have w : withB q a b = true := by
    refine with_of hq ha hb m.1 m.2 ?_
    cases ua : upB c q a <;> cases ub : upB c q b
    · rw [ua, ub] at h; exact absurd rfl h
    · have := up_false ua; have := up_true ub; omega
    · have := up_true ua; have := up_false ub; omega
    · rw [ua, ub] at h; exact absurd rfl h
  unfold onB at hon
  rw [w, e] at hon
  simp at hon
end
end Go.Proofs.YtnkcbephceollaaGreat
