import Derived.Test.YtnkcbephceollabQ0
/- Plain mathematics of Meet: the three kinds. -/
namespace Go.Proofs.Ytnkcbephceollab
set_option linter.unusedSimpArgs false
set_option linter.unusedVariables false

theorem mixEq (a b W S : Int) : a * W + (b - a) * S = a * (W - S) + b * S := by grind
theorem mixIn {a b W S : Int} (ha : In a 64) (hb : In b 64) (h0 : 0 ≤ S) (h1 : S ≤ W) (h2 : W ≤ 32768) : In (a * W + (b - a) * S) 2097152 := by
  rw [mixEq]
  have i1 := Int.mul_le_mul_of_nonneg_right ha.hi (show 0 ≤ W - S by omega)
  have i2 := Int.mul_le_mul_of_nonneg_right ha.lo (show 0 ≤ W - S by omega)
  have i3 := Int.mul_le_mul_of_nonneg_right hb.hi h0
  have i4 := Int.mul_le_mul_of_nonneg_right hb.lo h0
  unfold In; omega
theorem w_in {a b c d : Pt} (ha : Gr a) (hb : Gr b) (hc : Gr c) (hd : Gr d) : In (detM a b d - detM a b c) 32768 := by
  rw [← w_mn ha.d hb.d hc.d hd.d]
  exact (((hb.x.sub ha.x).mul (hd.y.sub hc.y)).sub ((hb.y.sub ha.y).mul (hd.x.sub hc.x))).mono (by decide)

/-- The point at which lines that are not parallel meet, before it is brought to least terms. -/
theorem crossPt {a b c d : Pt} (ha : Gr a) (hb : Gr b) (hc : Gr c) (hd : Gr d) (hw : detM a b d - detM a b c ≠ 0)
    (g : goodM (detM a b d - detM a b c) (detM a b c) (detM a b d) (detM c d a) (detM c d b)) :
    ∃ P : Pt, norm (a.x * (detM a b d - detM a b c) + (b.x - a.x) * detM c d a) (a.y * (detM a b d - detM a b c) + (b.y - a.y) * detM c d a) (detM a b d - detM a b c) = P ∧ Gd P ∧ 0 < P.d ∧ holdsB a b P = true ∧ holdsB c d P = true := by
  have e := pq_mn ha.d hb.d hc.d hd.d
  have hi := w_in ha hb hc hd
  have xc := x_cd ha.d hb.d hc.d hd.d
  have yc := y_cd ha.d hb.d hc.d hd.d
  refine ⟨_, rfl, ?_⟩
  unfold norm
  unfold In at hi
  unfold goodM at g
  by_cases h : detM a b d - detM a b c < 0
  · rw [if_pos h]
    have ex : -(a.x * (detM a b d - detM a b c) + (b.x - a.x) * detM c d a) = a.x * (-(detM a b d - detM a b c)) + (b.x - a.x) * (-detM c d a) := by grind
    have ey : -(a.y * (detM a b d - detM a b c) + (b.y - a.y) * detM c d a) = a.y * (-(detM a b d - detM a b c)) + (b.y - a.y) * (-detM c d a) := by grind
    have fx : -(a.x * (detM a b d - detM a b c) + (b.x - a.x) * detM c d a) = c.x * (-(detM a b d - detM a b c)) + (d.x - c.x) * (detM a b c) := by rw [← xc]; grind
    have fy : -(a.y * (detM a b d - detM a b c) + (b.y - a.y) * detM c d a) = c.y * (-(detM a b d - detM a b c)) + (d.y - c.y) * (detM a b c) := by rw [← yc]; grind
    refine ⟨⟨?_, ?_, ?_⟩, ?_, ?_, ?_⟩
    · show In (-(a.x * (detM a b d - detM a b c) + (b.x - a.x) * detM c d a)) 2097152
      rw [ex]; exact mixIn ha.x hb.x (by omega) (by omega) (by omega)
    · show In (-(a.y * (detM a b d - detM a b c) + (b.y - a.y) * detM c d a)) 2097152
      rw [ey]; exact mixIn ha.y hb.y (by omega) (by omega) (by omega)
    · show In (-(detM a b d - detM a b c)) 32768
      unfold In; omega
    · show 0 < -(detM a b d - detM a b c); omega
    · rw [ex, ey]; exact hold_mix ha.d hb.d (by omega) (by omega) (by omega)
    · rw [fx, fy]; exact hold_mix hc.d hd.d (by omega) (by omega) (by omega)
  · rw [if_neg h]
    refine ⟨⟨?_, ?_, ?_⟩, ?_, ?_, ?_⟩
    · exact mixIn ha.x hb.x (by omega) (by omega) (by omega)
    · exact mixIn ha.y hb.y (by omega) (by omega) (by omega)
    · show In (detM a b d - detM a b c) 32768
      unfold In; omega
    · show 0 < detM a b d - detM a b c; omega
    · exact hold_mix ha.d hb.d (by omega) (by omega) (by omega)
    · rw [← xc, ← yc]; exact hold_mix hc.d hd.d (by omega) (by omega) (by omega)

theorem hold_between {a b r : Pt} (ha : a.d = 1) (hb : b.d = 1) (hr : r.d = 1) (h : detM a b r = 0) (h1 : ¬ L r (firstM a b)) (h2 : ¬ L (lastM a b) r) : holdsB a b r = true := by
  rw [holds_iff, bef_L hr ha, bef_L hr hb, bef_L ha hr, bef_L hb hr]
  refine ⟨h, ?_, ?_⟩
  · rintro ⟨g1, g2⟩
    rcases first_cases a b with e | e <;> rw [e] at h1
    · exact h1 g1
    · exact h1 g2
  · rintro ⟨g1, g2⟩
    rcases last_cases a b with e | e <;> rw [e] at h2
    · exact h2 g1
    · exact h2 g2
theorem det_of_cases {a b r s t : Pt} (h : r = s ∨ r = t) (hs : detM a b s = 0) (ht : detM a b t = 0) : detM a b r = 0 := by rcases h with e | e <;> rw [e] <;> assumption

/-- On one line: where the two begin to be together, and where they end, is on both. -/
theorem line_holds {a b c d : Pt} (ha : a.d = 1) (hb : b.d = 1) (hc : c.d = 1) (hd : d.d = 1) (m : detM a b c = 0) (n : detM a b d = 0) (p : detM c d a = 0) (q : detM c d b = 0)
    (h : ¬ L (firstM (lastM a b) (lastM c d)) (lastM (firstM a b) (firstM c d))) :
    (holdsB a b (lastM (firstM a b) (firstM c d)) = true ∧ holdsB c d (lastM (firstM a b) (firstM c d)) = true) ∧ holdsB a b (firstM (lastM a b) (lastM c d)) = true ∧ holdsB c d (firstM (lastM a b) (lastM c d)) = true := by
  have df := first_d ha hb
  have dg := first_d hc hd
  have dl := last_d ha hb
  have dm := last_d hc hd
  have lg := last_ge df dg
  have fl := first_le dl dm
  have za : ∀ r, r = a ∨ r = b → detM a b r = 0 := fun r e => det_of_cases e (det_left a b) (det_right a b)
  have zc : ∀ r, r = c ∨ r = d → detM a b r = 0 := fun r e => det_of_cases e m n
  have ya : ∀ r, r = a ∨ r = b → detM c d r = 0 := fun r e => det_of_cases e p q
  have yc : ∀ r, r = c ∨ r = d → detM c d r = 0 := fun r e => det_of_cases e (det_left c d) (det_right c d)
  have f1 := det_of_cases (a := a) (b := b) (last_cases (firstM a b) (firstM c d)) (za _ (first_cases a b)) (zc _ (first_cases c d))
  have f2 := det_of_cases (a := c) (b := d) (last_cases (firstM a b) (firstM c d)) (ya _ (first_cases a b)) (yc _ (first_cases c d))
  have t1 := det_of_cases (a := a) (b := b) (first_cases (lastM a b) (lastM c d)) (za _ (last_cases a b)) (zc _ (last_cases c d))
  have t2 := det_of_cases (a := c) (b := d) (first_cases (lastM a b) (lastM c d)) (ya _ (last_cases a b)) (yc _ (last_cases c d))
  exact ⟨⟨hold_between ha hb (last_d df dg) f1 lg.1 (fun e => h (L_le' fl.1 e)), hold_between hc hd (last_d df dg) f2 lg.2 (fun e => h (L_le' fl.2 e))⟩,
    hold_between ha hb (first_d dl dm) t1 (fun e => h (L_le e lg.1)) fl.1, hold_between hc hd (first_d dl dm) t2 (fun e => h (L_le e lg.2)) fl.2⟩

theorem meet_cases {a b c d : Pt} (ha : Gr a) (hb : Gr b) (hc : Gr c) (hd : Gr d) (hab : a ≠ b) (hcd : c ≠ d) :
    (meetM a b c d = zM ∧ (sidesM (detM a b c) (detM a b d) = 1 ∨ sidesM (detM c d a) (detM c d b) = 1 ∨ (sidesM (detM a b c) (detM a b d) = 0 ∧ sidesM (detM c d a) (detM c d b) = 0)))
    ∨ (∃ P, meetM a b c d = ⟨1, P, zP⟩ ∧ Gd P ∧ 0 < P.d ∧ holdsB a b P = true ∧ holdsB c d P = true ∧ sidesM (detM a b c) (detM a b d) ≠ 1 ∧ sidesM (detM c d a) (detM c d b) ≠ 1)
    ∨ (∃ P Q, meetM a b c d = ⟨2, P, Q⟩ ∧ Gd P ∧ Gd Q ∧ holdsB a b P = true ∧ holdsB c d P = true ∧ holdsB a b Q = true ∧ holdsB c d Q = true ∧ befB P Q = true ∧ sidesM (detM a b c) (detM a b d) ≠ 1 ∧ sidesM (detM c d a) (detM c d b) ≠ 1) := by
  have e := pq_mn ha.d hb.d hc.d hd.d
  rw [meet_eq ha.d hb.d hc.d hd.d]
  by_cases hw : detM a b d - detM a b c = 0
  · rw [if_pos hw]
    by_cases m : detM a b c = 0
    · have n : detM a b d = 0 := by omega
      obtain ⟨p, q⟩ := col ha.d hb.d hc.d hd.d hab m n
      rw [if_neg (show ¬ (detM a b c ≠ 0) by omega), sides_0 (.inl m), sides_0 (.inl p)]
      have df := last_d (first_d ha.d hb.d) (first_d hc.d hd.d)
      have dt := first_d (last_d ha.d hb.d) (last_d hc.d hd.d)
      have gf := lastM_gr (firstM_gr ha hb) (firstM_gr hc hd)
      have gt := firstM_gr (lastM_gr ha hb) (lastM_gr hc hd)
      have lh := line_holds ha.d hb.d hc.d hd.d m n p q
      unfold lineM
      generalize lastM (firstM a b) (firstM c d) = f at *
      generalize firstM (lastM a b) (lastM c d) = t at *
      by_cases k : 0 < cmpM f t
      · rw [if_pos k]; exact .inl ⟨rfl, .inr (.inr ⟨rfl, rfl⟩)⟩
      · rw [if_neg k]
        obtain ⟨⟨h1, h2⟩, h3, h4⟩ := lh (fun e => k ((cmp_pos df dt).2 e))
        by_cases k0 : cmpM f t = 0
        · rw [if_pos k0]
          exact .inr (.inl ⟨f, rfl, gf.gd, by omega, h1, h2, by decide, by decide⟩)
        · rw [if_neg k0]
          have : befB f t = true := (bef_L df dt).2 ((cmp_neg df dt).1 (by omega))
          exact .inr (.inr ⟨f, t, rfl, gf.gd, gt.gd, h1, h2, h3, h4, this, by decide, by decide⟩)
    · rw [if_pos m]
      refine .inl ⟨rfl, .inl ?_⟩
      rw [sides_one]; omega
  · rw [if_neg hw]
    by_cases g : goodM (detM a b d - detM a b c) (detM a b c) (detM a b d) (detM c d a) (detM c d b)
    · rw [across_good ha.d hb.d hc.d hd.d hw g]
      obtain ⟨P, hP, h1, h2, h3, h4⟩ := crossPt ha hb hc hd hw g
      rw [hP]
      refine .inr (.inl ⟨_, rfl, least_gd h2 h1, least_d h2, least_holds h2 h3, least_holds h2 h4, ?_, ?_⟩)
      · rw [ne_eq, sides_one]; unfold goodM at g; omega
      · rw [ne_eq, sides_one]; unfold goodM at g; omega
    · rw [across_bad ha.d hb.d hc.d hd.d hw g]
      refine .inl ⟨rfl, ?_⟩
      rw [sides_one, sides_one]; unfold goodM at g; omega
end Go.Proofs.Ytnkcbephceollab
/- Plain mathematics of Meet: the document's answer, reckoned otherwise, is the same. -/
namespace Go.Proofs.Ytnkcbephceollab
set_option linter.unusedSimpArgs false
set_option linter.unusedVariables false

def loM (a b : Pt) : Pt := if befB b a = true then b else a
def hiM (a b : Pt) : Pt := if befB b a = true then a else b
def withB (p a b : Pt) : Bool := !befB p (loM a b) && !befB (hiM a b) p
def placeB (p q : Pt) : Bool := !befB p q && !befB q p
def xX (a b c d : Pt) : Int := (b.x - a.x) * (c.x * d.y - d.x * c.y) - (a.x * b.y - b.x * a.y) * (d.x - c.x)
def xY (a b c d : Pt) : Int := (a.x * b.y - b.x * a.y) * (c.y - d.y) - (a.y - b.y) * (c.x * d.y - d.x * c.y)
def xD (a b c d : Pt) : Int := (a.y - b.y) * (d.x - c.x) - (b.x - a.x) * (c.y - d.y)
def rlineM (a b c d : Pt) : Mt :=
  let lo := if befB (loM a b) (loM c d) = true then loM c d else loM a b
  let hi := if befB (hiM c d) (hiM a b) = true then hiM c d else hiM a b
  if befB hi lo = true then zM else if placeB lo hi = true then ⟨1, lo, zP⟩ else ⟨2, lo, hi⟩
def rmeetM (a b c d : Pt) : Mt :=
  let p := norm (xX a b c d) (xY a b c d) (xD a b c d)
  if 0 < p.d then (if withB p a b = true ∧ withB p c d = true then ⟨1, leastM p, zP⟩ else zM)
  else if detM a b c ≠ 0 then zM else rlineM a b c d

theorem loM_gd {p q : Pt} (hp : Gd p) (hq : Gd q) : Gd (loM p q) := by unfold loM; split <;> assumption
theorem hiM_gd {p q : Pt} (hp : Gd p) (hq : Gd q) : Gd (hiM p q) := by unfold hiM; split <;> assumption
theorem lo_first {a b : Pt} (ha : a.d = 1) (hb : b.d = 1) : loM a b = firstM a b := by
  unfold loM firstM
  by_cases h : befB b a = true
  · rw [if_pos h, if_pos ((cmp_neg hb ha).2 ((bef_L hb ha).1 h))]
  · rw [if_neg h, if_neg (fun e => h ((bef_L hb ha).2 ((cmp_neg hb ha).1 e)))]
theorem hi_last {a b : Pt} (ha : a.d = 1) (hb : b.d = 1) : hiM a b = lastM a b := by
  unfold hiM lastM
  by_cases h : befB b a = true
  · rw [if_pos h, if_neg (fun e => L_asym ((bef_L hb ha).1 h) ((cmp_pos hb ha).1 e))]
  · rw [if_neg h]
    by_cases e : L a b
    · rw [if_pos ((cmp_pos hb ha).2 e)]
    · have := L_anti ha hb e (fun k => h ((bef_L hb ha).2 k))
      rw [← this, ite_self]
theorem rline_eq {a b c d : Pt} (ha : a.d = 1) (hb : b.d = 1) (hc : c.d = 1) (hd : d.d = 1) : rlineM a b c d = lineM a b c d := by
  unfold rlineM lineM
  rw [lo_first ha hb, lo_first hc hd, hi_last ha hb, hi_last hc hd]
  have d1 := first_d ha hb
  have d2 := first_d hc hd
  have d3 := last_d ha hb
  have d4 := last_d hc hd
  generalize firstM a b = f1 at *
  generalize firstM c d = f2 at *
  generalize lastM a b = l1 at *
  generalize lastM c d = l2 at *
  have e1 : (if befB f1 f2 = true then f2 else f1) = lastM f1 f2 := by
    unfold lastM
    by_cases h : befB f1 f2 = true
    · rw [if_pos h, if_pos ((cmp_pos d2 d1).2 ((bef_L d1 d2).1 h))]
    · rw [if_neg h, if_neg (fun e => h ((bef_L d1 d2).2 ((cmp_pos d2 d1).1 e)))]
  have e2 : (if befB l2 l1 = true then l2 else l1) = firstM l1 l2 := by
    unfold firstM
    by_cases h : befB l2 l1 = true
    · rw [if_pos h, if_pos ((cmp_neg d4 d3).2 ((bef_L d4 d3).1 h))]
    · rw [if_neg h, if_neg (fun e => h ((bef_L d4 d3).2 ((cmp_neg d4 d3).1 e)))]
  have d5 := last_d d1 d2
  have d6 := first_d d3 d4
  simp only [e1, e2]
  generalize lastM f1 f2 = f at *
  generalize firstM l1 l2 = t at *
  by_cases h : befB t f = true
  · rw [if_pos h, if_pos ((cmp_pos d5 d6).2 ((bef_L d6 d5).1 h))]
  · have hn : ¬ L t f := fun e => h ((bef_L d6 d5).2 e)
    rw [if_neg h, if_neg (fun e => hn ((cmp_pos d5 d6).1 e))]
    have e3 : placeB f t = true ↔ cmpM f t = 0 := by
      rw [cmp_zero d5 d6]
      unfold placeB
      simp only [Bool.and_eq_true, Bool.not_eq_true']
      constructor
      · rintro ⟨k1, k2⟩
        exact L_anti d5 d6 (fun e => by rw [(bef_L d5 d6).2 e] at k1; cases k1) hn
      · rintro rfl
        have : befB f f = false := by cases e : befB f f; rfl; exact absurd ((bef_L d5 d5).1 e) (fun k => L_asym k k)
        exact ⟨this, this⟩
    by_cases k : cmpM f t = 0
    · rw [if_pos (e3.2 k), if_pos k]
    · rw [if_neg (fun e => k (e3.1 e)), if_neg k]

/-! Within. -/
def NG (ux uy t : Int) : Prop := ux * t < 0 ∨ (ux * t = 0 ∧ uy * t < 0)
theorem ng_pos {ux uy t : Int} (h : 0 < ux ∨ (ux = 0 ∧ 0 < uy)) : NG ux uy t ↔ t < 0 := by
  unfold NG
  rcases h with h | ⟨rfl, h⟩
  · constructor
    · rintro (k | ⟨k, k2⟩)
      · rcases Int.lt_or_le t 0 with g | g
        · exact g
        · have := Int.mul_nonneg (Int.le_of_lt h) g; omega
      · rcases Int.mul_eq_zero.1 k with g | g
        · omega
        · rw [g] at k2; simp at k2
    · intro g; exact .inl (Int.mul_neg_of_pos_of_neg h g)
  · simp only [Int.zero_mul, Int.lt_irrefl, false_or, true_and]
    constructor
    · intro k
      rcases Int.lt_or_le t 0 with g | g
      · exact g
      · have := Int.mul_nonneg (Int.le_of_lt h) g; omega
    · intro g; exact Int.mul_neg_of_pos_of_neg h g
theorem ng_flip (ux uy t : Int) : NG (-ux) (-uy) (-t) ↔ NG ux uy t := by
  unfold NG
  rw [Int.neg_mul_neg, Int.neg_mul_neg]
theorem with_iff {a b : Pt} (ha : a.d = 1) (hb : b.d = 1) (hab : a ≠ b) {w s : Int} :
    withB ⟨a.x * w + (b.x - a.x) * s, a.y * w + (b.y - a.y) * s, w⟩ a b = true ↔ 0 ≤ s ∧ s ≤ w := by
  have hu : ¬ ((b.x - a.x) = 0 ∧ (b.y - a.y) = 0) := fun e => hab (Pt.ext' (by omega) (by omega) (by omega))
  have ex : a.x * w + (b.x - a.x) * s - b.x * w = (b.x - a.x) * (s - w) := by grind
  have ey : a.y * w + (b.y - a.y) * s - b.y * w = (b.y - a.y) * (s - w) := by grind
  have b1 : befB ⟨a.x * w + (b.x - a.x) * s, a.y * w + (b.y - a.y) * s, w⟩ a = true ↔ NG (b.x - a.x) (b.y - a.y) s := by
    rw [bef_iff]; unfold NG; simp only [ha, Int.mul_one]; omega
  have b2 : befB ⟨a.x * w + (b.x - a.x) * s, a.y * w + (b.y - a.y) * s, w⟩ b = true ↔ NG (b.x - a.x) (b.y - a.y) (s - w) := by
    rw [bef_iff]; unfold NG; simp only [hb, Int.mul_one]; rw [← ex, ← ey]; omega
  have b3 : befB a ⟨a.x * w + (b.x - a.x) * s, a.y * w + (b.y - a.y) * s, w⟩ = true ↔ NG (b.x - a.x) (b.y - a.y) (-s) := by
    rw [bef_iff]; unfold NG; simp only [ha, Int.mul_one, Int.mul_neg]; omega
  have b4 : befB b ⟨a.x * w + (b.x - a.x) * s, a.y * w + (b.y - a.y) * s, w⟩ = true ↔ NG (b.x - a.x) (b.y - a.y) (-(s - w)) := by
    rw [bef_iff]; unfold NG; simp only [hb, Int.mul_one]; rw [Int.mul_neg, Int.mul_neg, ← ex, ← ey]; omega
  generalize hP : (⟨a.x * w + (b.x - a.x) * s, a.y * w + (b.y - a.y) * s, w⟩ : Pt) = P at *
  have key : ∀ x y : Bool, (!x && !y) = true ↔ ¬ x = true ∧ ¬ y = true := by decide
  unfold withB loM hiM
  by_cases h : befB b a = true
  · have hl := (bef_L hb ha).1 h
    unfold L at hl
    rw [if_pos h, if_pos h, key, b2, b3, ← ng_flip, ng_pos (by omega), ← ng_flip (b.x - a.x), ng_pos (by omega)]
    omega
  · have hl : ¬ L b a := fun e => h ((bef_L hb ha).2 e)
    unfold L at hl
    rw [if_neg h, if_neg h, key, b1, b4, ng_pos (by omega), ng_pos (by omega)]
    omega

theorem xD_w {a b c d : Pt} (ha : a.d = 1) (hb : b.d = 1) (hc : c.d = 1) (hd : d.d = 1) : xD a b c d = detM a b d - detM a b c := by
  rw [← w_mn ha hb hc hd]; unfold xD crossM; grind
theorem xX_n {a b c d : Pt} (ha : a.d = 1) (hb : b.d = 1) (hc : c.d = 1) (hd : d.d = 1) : xX a b c d = a.x * (detM a b d - detM a b c) + (b.x - a.x) * detM c d a := by
  unfold xX detM; rw [ha, hb, hc, hd]; grind
theorem xY_n {a b c d : Pt} (ha : a.d = 1) (hb : b.d = 1) (hc : c.d = 1) (hd : d.d = 1) : xY a b c d = a.y * (detM a b d - detM a b c) + (b.y - a.y) * detM c d a := by
  unfold xY detM; rw [ha, hb, hc, hd]; grind

theorem rmeet_eq {a b c d : Pt} (ha : a.d = 1) (hb : b.d = 1) (hc : c.d = 1) (hd : d.d = 1) (hab : a ≠ b) (hcd : c ≠ d) : rmeetM a b c d = meetM a b c d := by
  rw [meet_eq ha hb hc hd]
  unfold rmeetM
  rw [xD_w ha hb hc hd, xX_n ha hb hc hd, xY_n ha hb hc hd]
  have e := pq_mn ha hb hc hd
  have xc := x_cd ha hb hc hd
  have yc := y_cd ha hb hc hd
  by_cases hw : detM a b d - detM a b c = 0
  · have hn : ¬ 0 < (norm (a.x * (detM a b d - detM a b c) + (b.x - a.x) * detM c d a) (a.y * (detM a b d - detM a b c) + (b.y - a.y) * detM c d a) (detM a b d - detM a b c)).d := by
      unfold norm; rw [if_neg (by omega)]; show ¬ 0 < detM a b d - detM a b c; omega
    simp only [if_neg hn, if_pos hw]
    rw [rline_eq ha hb hc hd]
  · have hn : 0 < (norm (a.x * (detM a b d - detM a b c) + (b.x - a.x) * detM c d a) (a.y * (detM a b d - detM a b c) + (b.y - a.y) * detM c d a) (detM a b d - detM a b c)).d := by
      unfold norm; split
      · show 0 < -(detM a b d - detM a b c); omega
      · show 0 < detM a b d - detM a b c; omega
    simp only [if_pos hn, if_neg hw]
    have hg : (withB (norm (a.x * (detM a b d - detM a b c) + (b.x - a.x) * detM c d a) (a.y * (detM a b d - detM a b c) + (b.y - a.y) * detM c d a) (detM a b d - detM a b c)) a b = true ∧ withB (norm (a.x * (detM a b d - detM a b c) + (b.x - a.x) * detM c d a) (a.y * (detM a b d - detM a b c) + (b.y - a.y) * detM c d a) (detM a b d - detM a b c)) c d = true) ↔ goodM (detM a b d - detM a b c) (detM a b c) (detM a b d) (detM c d a) (detM c d b) := by
      unfold norm goodM
      by_cases h : detM a b d - detM a b c < 0
      · rw [if_pos h]
        have ex : -(a.x * (detM a b d - detM a b c) + (b.x - a.x) * detM c d a) = a.x * (-(detM a b d - detM a b c)) + (b.x - a.x) * (-detM c d a) := by grind
        have ey : -(a.y * (detM a b d - detM a b c) + (b.y - a.y) * detM c d a) = a.y * (-(detM a b d - detM a b c)) + (b.y - a.y) * (-detM c d a) := by grind
        have fx : -(a.x * (detM a b d - detM a b c) + (b.x - a.x) * detM c d a) = c.x * (-(detM a b d - detM a b c)) + (d.x - c.x) * (detM a b c) := by rw [← xc]; grind
        have fy : -(a.y * (detM a b d - detM a b c) + (b.y - a.y) * detM c d a) = c.y * (-(detM a b d - detM a b c)) + (d.y - c.y) * (detM a b c) := by rw [← yc]; grind
        have k1 := with_iff ha hb hab (w := -(detM a b d - detM a b c)) (s := -detM c d a)
        have k2 := with_iff hc hd hcd (w := -(detM a b d - detM a b c)) (s := detM a b c)
        rw [← ex, ← ey] at k1
        rw [← fx, ← fy] at k2
        rw [k1, k2]
        omega
      · rw [if_neg h]
        have k1 := with_iff ha hb hab (w := detM a b d - detM a b c) (s := detM c d a)
        have k2 := with_iff hc hd hcd (w := detM a b d - detM a b c) (s := -detM a b c)
        rw [xc, yc] at k2
        rw [k1, k2]
        omega
    by_cases g : goodM (detM a b d - detM a b c) (detM a b c) (detM a b d) (detM c d a) (detM c d b)
    · rw [if_pos (hg.2 g), across_good ha hb hc hd hw g]
    · rw [if_neg (fun e => g (hg.1 e)), across_bad ha hb hc hd hw g]
end Go.Proofs.Ytnkcbephceollab
