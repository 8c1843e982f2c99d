import Derived.Test.YtnkcbephceollabM3
/- Plain mathematics of Meet: the three kinds. -/
namespace Go.Proofs.Ytnkcbephceollab
set_option linter.unusedSimpArgs false
set_option linter.unusedVariables false

theorem mixEq (a b W S : Int) : a * W + (b - a) * S = a * (W - S) + b * S := by grind
theorem mixIn {a b W S : Int} (ha : In a 64) (hb : In b 64) (h0 : 0 ≤ S) (h1 : S ≤ W) (h2 : W ≤ 32768) : In (a * W + (b - a) * S) 2097152 := by
  rw [mixEq]
  have i1 := Int.mul_le_mul_of_nonneg_right ha.hi (show 0 ≤ W - S by omega)
  have i2 := Int.mul_le_mul_of_nonneg_right ha.lo (show 0 ≤ W - S by omega)
  have i3 := Int.mul_le_mul_of_nonneg_right hb.hi h0
  have i4 := Int.mul_le_mul_of_nonneg_right hb.lo h0
  unfold In; omega
theorem w_in {a b c d : Pt} (ha : Gr a) (hb : Gr b) (hc : Gr c) (hd : Gr d) : In (detM a b d - detM a b c) 32768 := by
  rw [← w_mn ha.d hb.d hc.d hd.d]
  exact (((hb.x.sub ha.x).mul (hd.y.sub hc.y)).sub ((hb.y.sub ha.y).mul (hd.x.sub hc.x))).mono (by decide)

/-- The point at which lines that are not parallel meet, before it is brought to least terms. -/
theorem crossPt {a b c d : Pt} (ha : Gr a) (hb : Gr b) (hc : Gr c) (hd : Gr d) (hw : detM a b d - detM a b c ≠ 0)
    (g : goodM (detM a b d - detM a b c) (detM a b c) (detM a b d) (detM c d a) (detM c d b)) :
    ∃ P : Pt, norm (a.x * (detM a b d - detM a b c) + (b.x - a.x) * detM c d a) (a.y * (detM a b d - detM a b c) + (b.y - a.y) * detM c d a) (detM a b d - detM a b c) = P ∧ Gd P ∧ 0 < P.d ∧ holdsB a b P = true ∧ holdsB c d P = true := by
  have e := pq_mn ha.d hb.d hc.d hd.d
  have hi := w_in ha hb hc hd
  have xc := x_cd ha.d hb.d hc.d hd.d
  have yc := y_cd ha.d hb.d hc.d hd.d
  refine ⟨_, rfl, ?_⟩
  unfold norm
  unfold In at hi
  unfold goodM at g
  by_cases h : detM a b d - detM a b c < 0
  · rw [if_pos h]
    have ex : -(a.x * (detM a b d - detM a b c) + (b.x - a.x) * detM c d a) = a.x * (-(detM a b d - detM a b c)) + (b.x - a.x) * (-detM c d a) := by grind
    have ey : -(a.y * (detM a b d - detM a b c) + (b.y - a.y) * detM c d a) = a.y * (-(detM a b d - detM a b c)) + (b.y - a.y) * (-detM c d a) := by grind
    have fx : -(a.x * (detM a b d - detM a b c) + (b.x - a.x) * detM c d a) = c.x * (-(detM a b d - detM a b c)) + (d.x - c.x) * (detM a b c) := by rw [← xc]; grind
    have fy : -(a.y * (detM a b d - detM a b c) + (b.y - a.y) * detM c d a) = c.y * (-(detM a b d - detM a b c)) + (d.y - c.y) * (detM a b c) := by rw [← yc]; grind
    refine ⟨⟨?_, ?_, ?_⟩, ?_, ?_, ?_⟩
    · show In (-(a.x * (detM a b d - detM a b c) + (b.x - a.x) * detM c d a)) 2097152
      rw [ex]; exact mixIn ha.x hb.x (by omega) (by omega) (by omega)
    · show In (-(a.y * (detM a b d - detM a b c) + (b.y - a.y) * detM c d a)) 2097152
      rw [ey]; exact mixIn ha.y hb.y (by omega) (by omega) (by omega)
    · show In (-(detM a b d - detM a b c)) 32768
      unfold In; omega
    · show 0 < -(detM a b d - detM a b c); omega
    · rw [ex, ey]; exact hold_mix ha.d hb.d (by omega) (by omega) (by omega)
    · rw [fx, fy]; exact hold_mix hc.d hd.d (by omega) (by omega) (by omega)
  · rw [if_neg h]
    refine ⟨⟨?_, ?_, ?_⟩, ?_, ?_, ?_⟩
    · exact mixIn ha.x hb.x (by omega) (by omega) (by omega)
    · exact mixIn ha.y hb.y (by omega) (by omega) (by omega)
    · show In (detM a b d - detM a b c) 32768
      unfold In; omega
    · show 0 < detM a b d - detM a b c; omega
    · exact hold_mix ha.d hb.d (by omega) (by omega) (by omega)
    · rw [← xc, ← yc]; exact hold_mix hc.d hd.d (by omega) (by omega) (by omega)

theorem hold_between {a b r : Pt} (ha : a.d = 1) (hb : b.d = 1) (hr : r.d = 1) (h : detM a b r = 0) (h1 : ¬ L r (firstM a b)) (h2 : ¬ L (lastM a b) r) : holdsB a b r = true := by
  rw [holds_iff, bef_L hr ha, bef_L hr hb, bef_L ha hr, bef_L hb hr]
  refine ⟨h, ?_, ?_⟩
  · rintro ⟨g1, g2⟩
    rcases first_cases a b with e | e <;> rw [e] at h1
    · exact h1 g1
    · exact h1 g2
  · rintro ⟨g1, g2⟩
    rcases last_cases a b with e | e <;> rw [e] at h2
    · exact h2 g1
    · exact h2 g2
theorem det_of_cases {a b r s t : Pt} (h : r = s ∨ r = t) (hs : detM a b s = 0) (ht : detM a b t = 0) : detM a b r = 0 := by rcases h with e | e <;> rw [e] <;> assumption

/-- On one line: where the two begin to be together, and where they end, is on both. -/
theorem line_holds {a b c d : Pt} (ha : a.d = 1) (hb : b.d = 1) (hc : c.d = 1) (hd : d.d = 1) (m : detM a b c = 0) (n : detM a b d = 0) (p : detM c d a = 0) (q : detM c d b = 0)
    (h : ¬ L (firstM (lastM a b) (lastM c d)) (lastM (firstM a b) (firstM c d))) :
    (holdsB a b (lastM (firstM a b) (firstM c d)) = true ∧ holdsB c d (lastM (firstM a b) (firstM c d)) = true) ∧ holdsB a b (firstM (lastM a b) (lastM c d)) = true ∧ holdsB c d (firstM (lastM a b) (lastM c d)) = true := by
  have df := first_d ha hb
  have dg := first_d hc hd
  have dl := last_d ha hb
  have dm := last_d hc hd
  have lg := last_ge df dg
  have fl := first_le dl dm
  have za : ∀ r, r = a ∨ r = b → detM a b r = 0 := fun r e => det_of_cases e (det_left a b) (det_right a b)
  have zc : ∀ r, r = c ∨ r = d → detM a b r = 0 := fun r e => det_of_cases e m n
  have ya : ∀ r, r = a ∨ r = b → detM c d r = 0 := fun r e => det_of_cases e p q
  have yc : ∀ r, r = c ∨ r = d → detM c d r = 0 := fun r e => det_of_cases e (det_left c d) (det_right c d)
  have f1 := det_of_cases (a := a) (b := b) (last_cases (firstM a b) (firstM c d)) (za _ (first_cases a b)) (zc _ (first_cases c d))
  have f2 := det_of_cases (a := c) (b := d) (last_cases (firstM a b) (firstM c d)) (ya _ (first_cases a b)) (yc _ (first_cases c d))
  have t1 := det_of_cases (a := a) (b := b) (first_cases (lastM a b) (lastM c d)) (za _ (last_cases a b)) (zc _ (last_cases c d))
  have t2 := det_of_cases (a := c) (b := d) (first_cases (lastM a b) (lastM c d)) (ya _ (last_cases a b)) (yc _ (last_cases c d))
  exact ⟨⟨hold_between ha hb (last_d df dg) f1 lg.1 (fun e => h (L_le' fl.1 e)), hold_between hc hd (last_d df dg) f2 lg.2 (fun e => h (L_le' fl.2 e))⟩,
    hold_between ha hb (first_d dl dm) t1 (fun e => h (L_le e lg.1)) fl.1, hold_between hc hd (first_d dl dm) t2 (fun e => h (L_le e lg.2)) fl.2⟩

theorem meet_cases {a b c d : Pt} (ha : Gr a) (hb : Gr b) (hc : Gr c) (hd : Gr d) (hab : a ≠ b) (hcd : c ≠ d) :
    (meetM a b c d = zM ∧ (sidesM (detM a b c) (detM a b d) = 1 ∨ sidesM (detM c d a) (detM c d b) = 1 ∨ (sidesM (detM a b c) (detM a b d) = 0 ∧ sidesM (detM c d a) (detM c d b) = 0)))
    ∨ (∃ P, meetM a b c d = ⟨1, P, zP⟩ ∧ Gd P ∧ 0 < P.d ∧ holdsB a b P = true ∧ holdsB c d P = true ∧ sidesM (detM a b c) (detM a b d) ≠ 1 ∧ sidesM (detM c d a) (detM c d b) ≠ 1)
    ∨ (∃ P Q, meetM a b c d = ⟨2, P, Q⟩ ∧ Gd P ∧ Gd Q ∧ holdsB a b P = true ∧ holdsB c d P = true ∧ holdsB a b Q = true ∧ holdsB c d Q = true ∧ befB P Q = true ∧ sidesM (detM a b c) (detM a b d) ≠ 1 ∧ sidesM (detM c d a) (detM c d b) ≠ 1) := by
  have e := pq_mn ha.d hb.d hc.d hd.d
  rw [meet_eq ha.d hb.d hc.d hd.d]
  by_cases hw : detM a b d - detM a b c = 0
  · rw [if_pos hw]
    by_cases m : detM a b c = 0
    · have n : detM a b d = 0 := by omega
      obtain ⟨p, q⟩ := col ha.d hb.d hc.d hd.d hab m n
      rw [if_neg (show ¬ (detM a b c ≠ 0) by omega), sides_0 (.inl m), sides_0 (.inl p)]
      have df := last_d (first_d ha.d hb.d) (first_d hc.d hd.d)
      have dt := first_d (last_d ha.d hb.d) (last_d hc.d hd.d)
      have gf := lastM_gr (firstM_gr ha hb) (firstM_gr hc hd)
      have gt := firstM_gr (lastM_gr ha hb) (lastM_gr hc hd)
      have lh := line_holds ha.d hb.d hc.d hd.d m n p q
      unfold lineM
      generalize lastM (firstM a b) (firstM c d) = f at *
      generalize firstM (lastM a b) (lastM c d) = t at *
      by_cases k : 0 < cmpM f t
      · rw [if_pos k]; exact .inl ⟨rfl, .inr (.inr ⟨rfl, rfl⟩)⟩
      · rw [if_neg k]
        obtain ⟨⟨h1, h2⟩, h3, h4⟩ := lh (fun e => k ((cmp_pos df dt).2 e))
        by_cases k0 : cmpM f t = 0
        · rw [if_pos k0]
          exact .inr (.inl ⟨f, rfl, gf.gd, by omega, h1, h2, by decide, by decide⟩)
        · rw [if_neg k0]
          have : befB f t = true := (bef_L df dt).2 ((cmp_neg df dt).1 (by omega))
          exact .inr (.inr ⟨f, t, rfl, gf.gd, gt.gd, h1, h2, h3, h4, this, by decide, by decide⟩)
    · rw [if_pos m]
      refine .inl ⟨rfl, .inl ?_⟩
      rw [sides_one]; omega
  · rw [if_neg hw]
    by_cases g : goodM (detM a b d - detM a b c) (detM a b c) (detM a b d) (detM c d a) (detM c d b)
    · rw [across_good ha.d hb.d hc.d hd.d hw g]
      obtain ⟨P, hP, h1, h2, h3, h4⟩ := crossPt ha hb hc hd hw g
      rw [hP]
      refine .inr (.inl ⟨_, rfl, least_gd h2 h1, least_d h2, least_holds h2 h3, least_holds h2 h4, ?_, ?_⟩)
      · rw [ne_eq, sides_one]; unfold goodM at g; omega
      · rw [ne_eq, sides_one]; unfold goodM at g; omega
    · rw [across_bad ha.d hb.d hc.d hd.d hw g]
      refine .inl ⟨rfl, ?_⟩
      rw [sides_one, sides_one]; unfold goodM at g; omega
end Go.Proofs.Ytnkcbephceollab
