import Derived.Test.YtnkcbephceollaaQ4
namespace Go.Proofs.Ytnkcbephceollaa
set_option linter.unusedVariables false
set_option linter.unusedSimpArgs false

/-- Which side of the way's fence v lies on. -/
def sB (c : Bool) (o q v : Pt) : Bool := (if yv q o < 0 then decide (detM o q v < 0) else decide (0 < detM o q v)) && (upB c o v ^^ upB c q v)

theorem apart_no {m n : Int} (h : (0 < m ∧ 0 < n) ∨ (m < 0 ∧ n < 0)) : apartB m n = false := by
  unfold apartB
  rcases h with ⟨h1, h2⟩ | ⟨h1, h2⟩ <;> simp <;> omega
theorem apart_yes {m n : Int} (h : (0 < m ∧ n < 0) ∨ (m < 0 ∧ 0 < n)) : apartB m n = true := by
  unfold apartB
  rcases h with ⟨h1, h2⟩ | ⟨h1, h2⟩ <;> simp [h1, h2]
theorem apart_sw (m n : Int) : apartB m n = apartB n m := by
  unfold apartB
  cases decide (m < 0) <;> cases decide (0 < n) <;> cases decide (0 < m) <;> cases decide (n < 0) <;> rfl
theorem apart_neg (m n : Int) : apartB (-m) (-n) = apartB m n := by
  unfold apartB
  have e1 : decide (-m < 0) = decide (0 < m) := by congr 1; exact propext (by omega)
  have e2 : decide (0 < -n) = decide (n < 0) := by congr 1; exact propext (by omega)
  have e3 : decide (0 < -m) = decide (m < 0) := by congr 1; exact propext (by omega)
  have e4 : decide (-n < 0) = decide (0 < n) := by congr 1; exact propext (by omega)
  rw [e1, e2, e3, e4, Bool.or_comm]
theorem cross_sw (o q a b : Pt) : crossB q o a b = crossB o q a b := by
  unfold crossB
  rw [det_sw o q a, det_sw o q b, apart_neg, apart_sw (detM a b q)]
theorem cross_sw2 (o q a b : Pt) : crossB o q b a = crossB o q a b := by
  unfold crossB
  rw [det_sw2 a b o, det_sw2 a b q, apart_neg, apart_sw (detM o q b)]
theorem ray_sw (c : Bool) (q a b : Pt) : rayB c q b a = rayB c q a b := by
  unfold rayB
  rw [det_sw2 a b q]
  have e1 : decide (0 < -detM a b q) = decide (detM a b q < 0) := by congr 1; exact propext (by omega)
  have e2 : decide (-detM a b q < 0) = decide (0 < detM a b q) := by congr 1; exact propext (by omega)
  rw [e1, e2]
  cases upB c q a <;> cases upB c q b <;> simp
theorem on_sw {q a b : Pt} (hq : 0 < q.d) (ha : 0 < a.d) (hb : 0 < b.d) (h : onB q a b = false) : onB q b a = false := by
  cases k : onB q b a
  · rfl
  · unfold onB at k h
    simp at k
    have e : detM a b q = 0 := by have := det_sw2 a b q; omega
    rw [e, with_sym hq ha hb k.2] at h
    simp at h

section
variable {o q a b : Pt} (ho : 0 < o.d) (hq : 0 < q.d) (ha : 0 < a.d) (hb : 0 < b.d)
include ho hq ha hb
theorem edge_pm (c : Bool) (hy : yv q o < 0) (hA : 0 < detM o q a) (hB : detM o q b < 0) (h1 : onB q a b = false) (h2 : onB o a b = false) :
    (crossB o q a b ^^ rayB c q a b ^^ rayB c o a b) = (sB c o q a ^^ sB c o q b) := by
  have nH := nz_cross (o := o) hq ha hb h1 (.inr ⟨hA, hB⟩)
  have nG := nz_cross (o := q) ho ha hb h2 (.inl ⟨by rw [det_sw]; omega, by rw [det_sw]; omega⟩)
  have r1 : rayB c q a b = _ := ray_pm (id1 o q a b) hy hA hB nH up_true up_false up_true up_false
  have r2 : rayB c o a b = _ := ray_pm (id2 o q a b) hy hA hB nG up_true up_false up_true up_false
  have gh : 0 < detM a b o → 0 < detM a b q := fun g => by
    have e := id3 o q a b
    have p1 := mul_pp hq g
    have p2 := mul_pn ha hB
    have p3 := mul_pp hb hA
    rcases Int.lt_or_le 0 (detM a b q) with k | k
    · exact k
    · have := mul_gl (Int.le_of_lt ho) k; omega
  have cr : crossB o q a b = (decide (0 < detM a b q) ^^ decide (0 < detM a b o)) := by
    unfold crossB
    rw [apart_yes (.inl ⟨hA, hB⟩), Bool.true_and]
    rcases Int.lt_or_gt_of_ne nG with g | g
    · rcases Int.lt_or_gt_of_ne nH with k | k
      · rw [apart_no (.inr ⟨g, k⟩)]
        have e1 : decide (0 < detM a b q) = false := by simp; omega
        have e2 : decide (0 < detM a b o) = false := by simp; omega
        rw [e1, e2]; rfl
      · rw [apart_yes (.inr ⟨g, k⟩)]
        have e1 : decide (0 < detM a b q) = true := by simp; omega
        have e2 : decide (0 < detM a b o) = false := by simp; omega
        rw [e1, e2]; rfl
    · have k := gh g
      rw [apart_no (.inl ⟨g, k⟩)]
      have e1 : decide (0 < detM a b q) = true := by simp; omega
      have e2 : decide (0 < detM a b o) = true := by simp; omega
      rw [e1, e2]; rfl
  rw [r1, r2, cr]
  have s1 : sB c o q a = false := by
    unfold sB
    rw [if_pos hy]
    have : decide (detM o q a < 0) = false := by simp; omega
    rw [this]; rfl
  have s2 : sB c o q b = (upB c o b ^^ upB c q b) := by
    unfold sB
    rw [if_pos hy]
    have : decide (detM o q b < 0) = true := by simp; omega
    rw [this]; rfl
  rw [s1, s2]
  cases decide (0 < detM a b q) <;> cases decide (0 < detM a b o) <;> cases upB c o b <;> cases upB c q b <;> rfl
theorem edge_neg (c : Bool) (hy : yv q o < 0) (hA : detM o q a ≠ 0) (hB : detM o q b ≠ 0) (h1 : onB q a b = false) (h2 : onB o a b = false) :
    (crossB o q a b ^^ rayB c q a b ^^ rayB c o a b) = (sB c o q a ^^ sB c o q b) := by
  rcases Int.lt_or_gt_of_ne hA with kA | kA <;> rcases Int.lt_or_gt_of_ne hB with kB | kB
  · have r1 : rayB c q a b = _ := ray_mm (id1 o q a b) hy kA kB (nz_up hq ha hb c h1) up_true up_false up_true up_false
    have r2 : rayB c o a b = _ := ray_mm (id2 o q a b) hy kA kB (nz_up ho ha hb c h2) up_true up_false up_true up_false
    have cr : crossB o q a b = false := by unfold crossB; rw [apart_no (.inr ⟨kA, kB⟩)]; rfl
    rw [r1, r2, cr]
    unfold sB
    rw [if_pos hy, if_pos hy]
    have e1 : decide (detM o q a < 0) = true := by simp; omega
    have e2 : decide (detM o q b < 0) = true := by simp; omega
    rw [e1, e2]
    cases upB c o a <;> cases upB c q a <;> cases upB c o b <;> cases upB c q b <;> rfl
  · have := edge_pm (o := o) (q := q) (a := b) (b := a) ho hq hb ha c hy kB kA (on_sw hq ha hb h1) (on_sw ho ha hb h2)
    rw [cross_sw2, ray_sw c q a b, ray_sw c o a b] at this
    rw [this, Bool.xor_comm]
  · exact edge_pm ho hq ha hb c hy kA kB h1 h2
  · have r1 : rayB c q a b = _ := ray_pp (id1 o q a b) hy kA kB up_true up_false up_true up_false
    have r2 : rayB c o a b = _ := ray_pp (id2 o q a b) hy kA kB up_true up_false up_true up_false
    have cr : crossB o q a b = false := by unfold crossB; rw [apart_no (.inl ⟨kA, kB⟩)]; rfl
    rw [r1, r2, cr]
    unfold sB
    rw [if_pos hy, if_pos hy]
    have e1 : decide (detM o q a < 0) = false := by simp; omega
    have e2 : decide (detM o q b < 0) = false := by simp; omega
    rw [e1, e2]; rfl
omit ho hq ha hb in
theorem yo_id (o q v : Pt) : q.d * yv o v = o.d * yv q v - v.d * yv q o := by unfold yv; grind
omit ha hb in
theorem up_level (c : Bool) (v : Pt) (hy : yv q o = 0) : upB c o v = upB c q v := by
  have e := yo_id o q v
  rw [hy, Int.mul_zero, Int.sub_zero] at e
  have k1 : 0 < yv o v ↔ 0 < yv q v := by
    constructor
    · intro h
      have := mul_pp hq h
      rcases Int.lt_or_le 0 (yv q v) with k | k
      · exact k
      · have := mul_gl (Int.le_of_lt ho) k; omega
    · intro h
      have := mul_pp ho h
      rcases Int.lt_or_le 0 (yv o v) with k | k
      · exact k
      · have := mul_gl (Int.le_of_lt hq) k; omega
  have k2 : yv o v = 0 ↔ yv q v = 0 := by
    constructor
    · intro h
      exact zero_of ((Int.mul_comm ..).trans e) (by omega) h
    · intro h
      exact zero_of ((Int.mul_comm ..).trans e.symm) (by omega) h
  unfold upB
  rw [decide_eq_decide.2 k1, decide_eq_decide.2 k2]
theorem edge_zero (c : Bool) (hy : yv q o = 0) (hA : detM o q a ≠ 0) (hB : detM o q b ≠ 0) (h1 : onB q a b = false) (h2 : onB o a b = false) :
    (crossB o q a b ^^ rayB c q a b ^^ rayB c o a b) = (sB c o q a ^^ sB c o q b) := by
  have s : ∀ v, sB c o q v = false := fun v => by
    unfold sB
    rw [up_level ho hq c v hy]
    cases upB c q v <;> simp
  rw [s, s]
  have fa := id5 o q a
  have fb := id5 o q b
  rw [hy] at fa fb
  simp only [Int.zero_mul, Int.zero_sub] at fa fb
  have za : yv q a ≠ 0 := fun e => by
    rw [e, Int.mul_zero, Int.neg_zero] at fa
    rcases Int.mul_eq_zero.1 fa with k | k <;> omega
  have zb : yv q b ≠ 0 := fun e => by
    rw [e, Int.mul_zero, Int.neg_zero] at fb
    rcases Int.mul_eq_zero.1 fb with k | k <;> omega
  have xo : xv q o ≠ 0 := fun e => by
    rw [e, Int.zero_mul, Int.neg_zero] at fa
    rcases Int.mul_eq_zero.1 fa with k | k <;> omega
  have u : ∀ v, yv q v ≠ 0 → upB c q v = decide (0 < yv q v) := fun v h => by
    unfold upB
    have : decide (yv q v = 0) = false := by simp [h]
    rw [this]; simp
  have sa : (detM o q a < 0 ↔ 0 < xv q o * yv q a) := by
    constructor
    · intro h; have := mul_pn hq h; omega
    · intro h
      rcases Int.lt_or_gt_of_ne hA with k | k
      · exact k
      · have := mul_pp hq k; omega
  have sb : (detM o q b < 0 ↔ 0 < xv q o * yv q b) := by
    constructor
    · intro h; have := mul_pn hq h; omega
    · intro h
      rcases Int.lt_or_gt_of_ne hB with k | k
      · exact k
      · have := mul_pp hq k; omega
  have same : (decide (0 < yv q a) = decide (0 < yv q b)) → ((0 < detM o q a ∧ 0 < detM o q b) ∨ (detM o q a < 0 ∧ detM o q b < 0)) := fun h => by
    have h' : (0 < yv q a ↔ 0 < yv q b) := decide_eq_decide.1 h
    have k : (0 < xv q o * yv q a ↔ 0 < xv q o * yv q b) := by
      rcases Int.lt_or_gt_of_ne xo with x | x <;> rcases Int.lt_or_gt_of_ne za with y | y
      · have y2 : yv q b < 0 := by omega
        exact ⟨fun _ => mul_nn x y2, fun _ => mul_nn x y⟩
      · have y2 : 0 < yv q b := by omega
        have := mul_np x y; have := mul_np x y2
        constructor <;> intro <;> omega
      · have y2 : yv q b < 0 := by omega
        have := mul_pn x y; have := mul_pn x y2
        constructor <;> intro <;> omega
      · have y2 : 0 < yv q b := by omega
        exact ⟨fun _ => mul_pp x y2, fun _ => mul_pp x y⟩
    omega
  have diff : (decide (0 < yv q a) ≠ decide (0 < yv q b)) → ((0 < detM o q a ∧ detM o q b < 0) ∨ (detM o q a < 0 ∧ 0 < detM o q b)) := fun h => by
    have h' : ¬ (0 < yv q a ↔ 0 < yv q b) := fun k => h (decide_eq_decide.2 k)
    have k : ¬ (0 < xv q o * yv q a ↔ 0 < xv q o * yv q b) := by
      rcases Int.lt_or_gt_of_ne xo with x | x <;> rcases Int.lt_or_gt_of_ne za with y | y
      · have y2 : 0 < yv q b := by omega
        have := mul_nn x y; have := mul_np x y2
        intro e; omega
      · have y2 : yv q b < 0 := by omega
        have := mul_np x y; have := mul_nn x y2
        intro e; omega
      · have y2 : 0 < yv q b := by omega
        have := mul_pn x y; have := mul_pp x y2
        intro e; omega
      · have y2 : yv q b < 0 := by omega
        have := mul_pp x y; have := mul_pn x y2
        intro e; omega
    omega
  unfold rayB
  rw [up_level ho hq c a hy, up_level ho hq c b hy, u a za, u b zb]
  by_cases e : decide (0 < yv q a) = decide (0 < yv q b)
  · have cr : crossB o q a b = false := by unfold crossB; rw [apart_no (same e)]; rfl
    rw [cr, e]
    cases decide (0 < yv q b) <;> rfl
  · have d := diff e
    have nH := nz_cross (o := o) hq ha hb h1 (by omega)
    have nG := nz_cross (o := q) ho ha hb h2 (by rw [det_sw, det_sw o q b]; omega)
    have cr : crossB o q a b = apartB (detM a b o) (detM a b q) := by unfold crossB; rw [apart_yes d]; rfl
    rw [cr]
    unfold apartB
    have g1 : decide (detM a b q < 0) = !decide (0 < detM a b q) := by
      rcases Int.lt_or_gt_of_ne nH with k | k
      · have x1 : decide (detM a b q < 0) = true := by simp; omega
        have x2 : decide (0 < detM a b q) = false := by simp; omega
        rw [x1, x2]; rfl
      · have x1 : decide (detM a b q < 0) = false := by simp; omega
        have x2 : decide (0 < detM a b q) = true := by simp; omega
        rw [x1, x2]; rfl
    have g2 : decide (detM a b o < 0) = !decide (0 < detM a b o) := by
      rcases Int.lt_or_gt_of_ne nG with k | k
      · have x1 : decide (detM a b o < 0) = true := by simp; omega
        have x2 : decide (0 < detM a b o) = false := by simp; omega
        rw [x1, x2]; rfl
      · have x1 : decide (detM a b o < 0) = false := by simp; omega
        have x2 : decide (0 < detM a b o) = true := by simp; omega
        rw [x1, x2]; rfl
    rw [g1, g2]
    revert e
    cases decide (0 < yv q a) <;> cases decide (0 < yv q b) <;> cases decide (0 < detM a b q) <;> cases decide (0 < detM a b o) <;> simp
theorem edge_par (c : Bool) (hA : detM o q a ≠ 0) (hB : detM o q b ≠ 0) (h1 : onB q a b = false) (h2 : onB o a b = false) :
    (crossB o q a b ^^ rayB c q a b ^^ rayB c o a b) = (sB c o q a ^^ sB c o q b) := by
  rcases Int.lt_trichotomy (yv q o) 0 with hy | hy | hy
  · exact edge_neg ho hq ha hb c hy hA hB h1 h2
  · exact edge_zero ho hq ha hb c hy hA hB h1 h2
  · have e := yv_sw o q
    have hy' : yv o q < 0 := by omega
    have := edge_neg (o := q) (q := o) hq ho ha hb c hy' (by rw [det_sw]; omega) (by rw [det_sw]; omega) h2 h1
    rw [cross_sw] at this
    have s : ∀ v, sB c q o v = sB c o q v := fun v => by
      unfold sB
      rw [if_pos hy', if_neg (by omega), det_sw o q v, Bool.xor_comm]
      have : decide (-detM o q v < 0) = decide (0 < detM o q v) := by congr 1; exact propext (by omega)
      rw [this]
    rw [s, s] at this
    rw [← this]
    cases crossB o q a b <;> cases rayB c q a b <;> cases rayB c o a b <;> rfl
end
end Go.Proofs.Ytnkcbephceollaa
