import Derived.Test.YtnkcbephceollabM4
/- Plain mathematics of Meet: the document's answer, reckoned otherwise, is the same. -/
namespace Go.Proofs.Ytnkcbephceollab
set_option linter.unusedSimpArgs false
set_option linter.unusedVariables false

def loM (a b : Pt) : Pt := if befB b a = true then b else a
def hiM (a b : Pt) : Pt := if befB b a = true then a else b
def withB (p a b : Pt) : Bool := !befB p (loM a b) && !befB (hiM a b) p
def placeB (p q : Pt) : Bool := !befB p q && !befB q p
def xX (a b c d : Pt) : Int := (b.x - a.x) * (c.x * d.y - d.x * c.y) - (a.x * b.y - b.x * a.y) * (d.x - c.x)
def xY (a b c d : Pt) : Int := (a.x * b.y - b.x * a.y) * (c.y - d.y) - (a.y - b.y) * (c.x * d.y - d.x * c.y)
def xD (a b c d : Pt) : Int := (a.y - b.y) * (d.x - c.x) - (b.x - a.x) * (c.y - d.y)
def rlineM (a b c d : Pt) : Mt :=
  let lo := if befB (loM a b) (loM c d) = true then loM c d else loM a b
  let hi := if befB (hiM c d) (hiM a b) = true then hiM c d else hiM a b
  if befB hi lo = true then zM else if placeB lo hi = true then ⟨1, lo, zP⟩ else ⟨2, lo, hi⟩
def rmeetM (a b c d : Pt) : Mt :=
  let p := norm (xX a b c d) (xY a b c d) (xD a b c d)
  if 0 < p.d then (if withB p a b = true ∧ withB p c d = true then ⟨1, leastM p, zP⟩ else zM)
  else if detM a b c ≠ 0 then zM else rlineM a b c d

theorem loM_gd {p q : Pt} (hp : Gd p) (hq : Gd q) : Gd (loM p q) := by unfold loM; split <;> assumption
theorem hiM_gd {p q : Pt} (hp : Gd p) (hq : Gd q) : Gd (hiM p q) := by unfold hiM; split <;> assumption
theorem lo_first {a b : Pt} (ha : a.d = 1) (hb : b.d = 1) : loM a b = firstM a b := by
  unfold loM firstM
  by_cases h : befB b a = true
  · rw [if_pos h, if_pos ((cmp_neg hb ha).2 ((bef_L hb ha).1 h))]
  · rw [if_neg h, if_neg (fun e => h ((bef_L hb ha).2 ((cmp_neg hb ha).1 e)))]
theorem hi_last {a b : Pt} (ha : a.d = 1) (hb : b.d = 1) : hiM a b = lastM a b := by
  unfold hiM lastM
  by_cases h : befB b a = true
  · rw [if_pos h, if_neg (fun e => L_asym ((bef_L hb ha).1 h) ((cmp_pos hb ha).1 e))]
  · rw [if_neg h]
    by_cases e : L a b
    · rw [if_pos ((cmp_pos hb ha).2 e)]
    · have := L_anti ha hb e (fun k => h ((bef_L hb ha).2 k))
      rw [← this, ite_self]
theorem rline_eq {a b c d : Pt} (ha : a.d = 1) (hb : b.d = 1) (hc : c.d = 1) (hd : d.d = 1) : rlineM a b c d = lineM a b c d := by
  unfold rlineM lineM
  rw [lo_first ha hb, lo_first hc hd, hi_last ha hb, hi_last hc hd]
  have d1 := first_d ha hb
  have d2 := first_d hc hd
  have d3 := last_d ha hb
  have d4 := last_d hc hd
  generalize firstM a b = f1 at *
  generalize firstM c d = f2 at *
  generalize lastM a b = l1 at *
  generalize lastM c d = l2 at *
  have e1 : (if befB f1 f2 = true then f2 else f1) = lastM f1 f2 := by
    unfold lastM
    by_cases h : befB f1 f2 = true
    · rw [if_pos h, if_pos ((cmp_pos d2 d1).2 ((bef_L d1 d2).1 h))]
    · rw [if_neg h, if_neg (fun e => h ((bef_L d1 d2).2 ((cmp_pos d2 d1).1 e)))]
  have e2 : (if befB l2 l1 = true then l2 else l1) = firstM l1 l2 := by
    unfold firstM
    by_cases h : befB l2 l1 = true
    · rw [if_pos h, if_pos ((cmp_neg d4 d3).2 ((bef_L d4 d3).1 h))]
    · rw [if_neg h, if_neg (fun e => h ((bef_L d4 d3).2 ((cmp_neg d4 d3).1 e)))]
  have d5 := last_d d1 d2
  have d6 := first_d d3 d4
  simp only [e1, e2]
  generalize lastM f1 f2 = f at *
  generalize firstM l1 l2 = t at *
  by_cases h : befB t f = true
  · rw [if_pos h, if_pos ((cmp_pos d5 d6).2 ((bef_L d6 d5).1 h))]
  · have hn : ¬ L t f := fun e => h ((bef_L d6 d5).2 e)
    rw [if_neg h, if_neg (fun e => hn ((cmp_pos d5 d6).1 e))]
    have e3 : placeB f t = true ↔ cmpM f t = 0 := by
      rw [cmp_zero d5 d6]
      unfold placeB
      simp only [Bool.and_eq_true, Bool.not_eq_true']
      constructor
      · rintro ⟨k1, k2⟩
        exact L_anti d5 d6 (fun e => by rw [(bef_L d5 d6).2 e] at k1; cases k1) hn
      · rintro rfl
        have : befB f f = false := by cases e : befB f f; rfl; exact absurd ((bef_L d5 d5).1 e) (fun k => L_asym k k)
        exact ⟨this, this⟩
    by_cases k : cmpM f t = 0
    · rw [if_pos (e3.2 k), if_pos k]
    · rw [if_neg (fun e => k (e3.1 e)), if_neg k]

/-! Within. -/
def NG (ux uy t : Int) : Prop := ux * t < 0 ∨ (ux * t = 0 ∧ uy * t < 0)
theorem ng_pos {ux uy t : Int} (h : 0 < ux ∨ (ux = 0 ∧ 0 < uy)) : NG ux uy t ↔ t < 0 := by
  unfold NG
  rcases h with h | ⟨rfl, h⟩
  · constructor
    · rintro (k | ⟨k, k2⟩)
      · rcases Int.lt_or_le t 0 with g | g
        · exact g
        · have := Int.mul_nonneg (Int.le_of_lt h) g; omega
      · rcases Int.mul_eq_zero.1 k with g | g
        · omega
        · rw [g] at k2; simp at k2
    · intro g; exact .inl (Int.mul_neg_of_pos_of_neg h g)
  · simp only [Int.zero_mul, Int.lt_irrefl, false_or, true_and]
    constructor
    · intro k
      rcases Int.lt_or_le t 0 with g | g
      · exact g
      · have := Int.mul_nonneg (Int.le_of_lt h) g; omega
    · intro g; exact Int.mul_neg_of_pos_of_neg h g
theorem ng_flip (ux uy t : Int) : NG (-ux) (-uy) (-t) ↔ NG ux uy t := by
  unfold NG
  rw [Int.neg_mul_neg, Int.neg_mul_neg]
theorem with_iff {a b : Pt} (ha : a.d = 1) (hb : b.d = 1) (hab : a ≠ b) {w s : Int} :
    withB ⟨a.x * w + (b.x - a.x) * s, a.y * w + (b.y - a.y) * s, w⟩ a b = true ↔ 0 ≤ s ∧ s ≤ w := by
  have hu : ¬ ((b.x - a.x) = 0 ∧ (b.y - a.y) = 0) := fun e => hab (Pt.ext' (by omega) (by omega) (by omega))
  have ex : a.x * w + (b.x - a.x) * s - b.x * w = (b.x - a.x) * (s - w) := by grind
  have ey : a.y * w + (b.y - a.y) * s - b.y * w = (b.y - a.y) * (s - w) := by grind
  have b1 : befB ⟨a.x * w + (b.x - a.x) * s, a.y * w + (b.y - a.y) * s, w⟩ a = true ↔ NG (b.x - a.x) (b.y - a.y) s := by
    rw [bef_iff]; unfold NG; simp only [ha, Int.mul_one]; omega
  have b2 : befB ⟨a.x * w + (b.x - a.x) * s, a.y * w + (b.y - a.y) * s, w⟩ b = true ↔ NG (b.x - a.x) (b.y - a.y) (s - w) := by
    rw [bef_iff]; unfold NG; simp only [hb, Int.mul_one]; rw [← ex, ← ey]; omega
  have b3 : befB a ⟨a.x * w + (b.x - a.x) * s, a.y * w + (b.y - a.y) * s, w⟩ = true ↔ NG (b.x - a.x) (b.y - a.y) (-s) := by
    rw [bef_iff]; unfold NG; simp only [ha, Int.mul_one, Int.mul_neg]; omega
  have b4 : befB b ⟨a.x * w + (b.x - a.x) * s, a.y * w + (b.y - a.y) * s, w⟩ = true ↔ NG (b.x - a.x) (b.y - a.y) (-(s - w)) := by
    rw [bef_iff]; unfold NG; simp only [hb, Int.mul_one]; rw [Int.mul_neg, Int.mul_neg, ← ex, ← ey]; omega
  generalize hP : (⟨a.x * w + (b.x - a.x) * s, a.y * w + (b.y - a.y) * s, w⟩ : Pt) = P at *
  have key : ∀ x y : Bool, (!x && !y) = true ↔ ¬ x = true ∧ ¬ y = true := by decide
  unfold withB loM hiM
  by_cases h : befB b a = true
  · have hl := (bef_L hb ha).1 h
    unfold L at hl
    rw [if_pos h, if_pos h, key, b2, b3, ← ng_flip, ng_pos (by omega), ← ng_flip (b.x - a.x), ng_pos (by omega)]
    omega
  · have hl : ¬ L b a := fun e => h ((bef_L hb ha).2 e)
    unfold L at hl
    rw [if_neg h, if_neg h, key, b1, b4, ng_pos (by omega), ng_pos (by omega)]
    omega

theorem xD_w {a b c d : Pt} (ha : a.d = 1) (hb : b.d = 1) (hc : c.d = 1) (hd : d.d = 1) : xD a b c d = detM a b d - detM a b c := by
  rw [← w_mn ha hb hc hd]; unfold xD crossM; grind
theorem xX_n {a b c d : Pt} (ha : a.d = 1) (hb : b.d = 1) (hc : c.d = 1) (hd : d.d = 1) : xX a b c d = a.x * (detM a b d - detM a b c) + (b.x - a.x) * detM c d a := by
  unfold xX detM; rw [ha, hb, hc, hd]; grind
theorem xY_n {a b c d : Pt} (ha : a.d = 1) (hb : b.d = 1) (hc : c.d = 1) (hd : d.d = 1) : xY a b c d = a.y * (detM a b d - detM a b c) + (b.y - a.y) * detM c d a := by
  unfold xY detM; rw [ha, hb, hc, hd]; grind

theorem rmeet_eq {a b c d : Pt} (ha : a.d = 1) (hb : b.d = 1) (hc : c.d = 1) (hd : d.d = 1) (hab : a ≠ b) (hcd : c ≠ d) : rmeetM a b c d = meetM a b c d := by
  rw [meet_eq ha hb hc hd]
  unfold rmeetM
  rw [xD_w ha hb hc hd, xX_n ha hb hc hd, xY_n ha hb hc hd]
  have e := pq_mn ha hb hc hd
  have xc := x_cd ha hb hc hd
  have yc := y_cd ha hb hc hd
  by_cases hw : detM a b d - detM a b c = 0
  · have hn : ¬ 0 < (norm (a.x * (detM a b d - detM a b c) + (b.x - a.x) * detM c d a) (a.y * (detM a b d - detM a b c) + (b.y - a.y) * detM c d a) (detM a b d - detM a b c)).d := by
      unfold norm; rw [if_neg (by omega)]; show ¬ 0 < detM a b d - detM a b c; omega
    simp only [if_neg hn, if_pos hw]
    rw [rline_eq ha hb hc hd]
  · have hn : 0 < (norm (a.x * (detM a b d - detM a b c) + (b.x - a.x) * detM c d a) (a.y * (detM a b d - detM a b c) + (b.y - a.y) * detM c d a) (detM a b d - detM a b c)).d := by
      unfold norm; split
      · show 0 < -(detM a b d - detM a b c); omega
      · show 0 < detM a b d - detM a b c; omega
    simp only [if_pos hn, if_neg hw]
    have hg : (withB (norm (a.x * (detM a b d - detM a b c) + (b.x - a.x) * detM c d a) (a.y * (detM a b d - detM a b c) + (b.y - a.y) * detM c d a) (detM a b d - detM a b c)) a b = true ∧ withB (norm (a.x * (detM a b d - detM a b c) + (b.x - a.x) * detM c d a) (a.y * (detM a b d - detM a b c) + (b.y - a.y) * detM c d a) (detM a b d - detM a b c)) c d = true) ↔ goodM (detM a b d - detM a b c) (detM a b c) (detM a b d) (detM c d a) (detM c d b) := by
      unfold norm goodM
      by_cases h : detM a b d - detM a b c < 0
      · rw [if_pos h]
        have ex : -(a.x * (detM a b d - detM a b c) + (b.x - a.x) * detM c d a) = a.x * (-(detM a b d - detM a b c)) + (b.x - a.x) * (-detM c d a) := by grind
        have ey : -(a.y * (detM a b d - detM a b c) + (b.y - a.y) * detM c d a) = a.y * (-(detM a b d - detM a b c)) + (b.y - a.y) * (-detM c d a) := by grind
        have fx : -(a.x * (detM a b d - detM a b c) + (b.x - a.x) * detM c d a) = c.x * (-(detM a b d - detM a b c)) + (d.x - c.x) * (detM a b c) := by rw [← xc]; grind
        have fy : -(a.y * (detM a b d - detM a b c) + (b.y - a.y) * detM c d a) = c.y * (-(detM a b d - detM a b c)) + (d.y - c.y) * (detM a b c) := by rw [← yc]; grind
        have k1 := with_iff ha hb hab (w := -(detM a b d - detM a b c)) (s := -detM c d a)
        have k2 := with_iff hc hd hcd (w := -(detM a b d - detM a b c)) (s := detM a b c)
        rw [← ex, ← ey] at k1
        rw [← fx, ← fy] at k2
        rw [k1, k2]
        omega
      · rw [if_neg h]
        have k1 := with_iff ha hb hab (w := detM a b d - detM a b c) (s := detM c d a)
        have k2 := with_iff hc hd hcd (w := detM a b d - detM a b c) (s := -detM a b c)
        rw [xc, yc] at k2
        rw [k1, k2]
        omega
    by_cases g : goodM (detM a b d - detM a b c) (detM a b c) (detM a b d) (detM c d a) (detM c d b)
    · rw [if_pos (hg.2 g), across_good ha hb hc hd hw g]
    · rw [if_neg (fun e => g (hg.1 e)), across_bad ha hb hc hd hw g]
end Go.Proofs.Ytnkcbephceollab
