import Derived.Test.YtnkcbephceollabQ2
namespace Go.Proofs.Ytnkcbephceollab
set_option linter.unusedVariables false
set_option linter.unusedSimpArgs false

/-- Which side of the way's fence v lies on. -/
def sB (c : Bool) (o q v : Pt) : Bool := (if yv q o < 0 then decide (detM o q v < 0) else decide (0 < detM o q v)) && (upB c o v ^^ upB c q v)

theorem apart_no {m n : Int} (h : (0 < m ∧ 0 < n) ∨ (m < 0 ∧ n < 0)) : apartB m n = false := by
  unfold apartB
  rcases h with ⟨h1, h2⟩ | ⟨h1, h2⟩ <;> simp <;> omega
theorem apart_yes {m n : Int} (h : (0 < m ∧ n < 0) ∨ (m < 0 ∧ 0 < n)) : apartB m n = true := by
  unfold apartB
  rcases h with ⟨h1, h2⟩ | ⟨h1, h2⟩ <;> simp [h1, h2]
theorem apart_sw (m n : Int) : apartB m n = apartB n m := by
  unfold apartB
  cases decide (m < 0) <;> cases decide (0 < n) <;> cases decide (0 < m) <;> cases decide (n < 0) <;> rfl
theorem apart_neg (m n : Int) : apartB (-m) (-n) = apartB m n := by
  unfold apartB
  have e1 : decide (-m < 0) = decide (0 < m) := by congr 1; exact propext (by omega)
  have e2 : decide (0 < -n) = decide (n < 0) := by congr 1; exact propext (by omega)
  have e3 : decide (0 < -m) = decide (m < 0) := by congr 1; exact propext (by omega)
  have e4 : decide (-n < 0) = decide (0 < n) := by congr 1; exact propext (by omega)
  rw [e1, e2, e3, e4, Bool.or_comm]
theorem cross_sw (o q a b : Pt) : crossB q o a b = crossB o q a b := by
  unfold crossB
  rw [det_sw o q a, det_sw o q b, apart_neg, apart_sw (detM a b q)]
theorem cross_sw2 (o q a b : Pt) : crossB o q b a = crossB o q a b := by
  unfold crossB
  rw [det_sw2 a b o, det_sw2 a b q, apart_neg, apart_sw (detM o q b)]
theorem ray_sw (c : Bool) (q a b : Pt) : rayB c q b a = rayB c q a b := by
  unfold rayB
  rw [det_sw2 a b q]
  have e1 : decide (0 < -detM a b q) = decide (detM a b q < 0) := by congr 1; exact propext (by omega)
  have e2 : decide (-detM a b q < 0) = decide (0 < detM a b q) := by congr 1; exact propext (by omega)
  rw [e1, e2]
  cases upB c q a <;> cases upB c q b <;> simp
theorem on_sw {q a b : Pt} (hq : 0 < q.d) (ha : 0 < a.d) (hb : 0 < b.d) (h : onB q a b = false) : onB q b a = false := by
  cases k : onB q b a
  · rfl
  · unfold onB at k h
    simp at k
    have e : detM a b q = 0 := by have := det_sw2 a b q; omega
    rw [e, with_sym hq ha hb k.2] at h
    simp at h

section
variable {o q a b : Pt} (ho : 0 < o.d) (hq : 0 < q.d) (ha : 0 < a.d) (hb : 0 < b.d)
include ho hq ha hb
theorem edge_pm (c : Bool) (hy : yv q o < 0) (hA : 0 < detM o q a) (hB : detM o q b < 0) (h1 : onB q a b = false) (h2 : onB o a b = false) :
    (crossB o q a b ^^ rayB c q a b ^^ rayB c o a b) = (sB c o q a ^^ sB c o q b) := by
  have nH := nz_cross (o := o) hq ha hb h1 (.inr ⟨hA, hB⟩)
  have nG := nz_cross (o := q) ho ha hb h2 (.inl ⟨by rw [det_sw]; omega, by rw [det_sw]; omega⟩)
  have r1 : rayB c q a b = _ := ray_pm (id1 o q a b) hy hA hB nH up_true up_false up_true up_false
  have r2 : rayB c o a b = _ := ray_pm (id2 o q a b) hy hA hB nG up_true up_false up_true up_false
  have gh : 0 < detM a b o → 0 < detM a b q := fun g => by
    have e := id3 o q a b
    have p1 := mul_pp hq g
    have p2 := mul_pn ha hB
    have p3 := mul_pp hb hA
    rcases Int.lt_or_le 0 (detM a b q) with k | k
    · exact k
    · have := mul_gl (Int.le_of_lt ho) k; omega
  have cr : crossB o q a b = (decide (0 < detM a b q) ^^ decide (0 < detM a b o)) := by
    unfold crossB
    rw [apart_yes (.inl ⟨hA, hB⟩), Bool.true_and]
    rcases Int.lt_or_gt_of_ne nG with g | g
    · rcases Int.lt_or_gt_of_ne nH with k | k
      · rw [apart_no (.inr ⟨g, k⟩)]
        have e1 : decide (0 < detM a b q) = false := by simp; omega
        have e2 : decide (0 < detM a b o) = false := by simp; omega
        rw [e1, e2]; rfl
      · rw [apart_yes (.inr ⟨g, k⟩)]
        have e1 : decide (0 < detM a b q) = true := by simp; omega
        have e2 : decide (0 < detM a b o) = false := by simp; omega
        rw [e1, e2]; rfl
    · have k := gh g
      rw [apart_no (.inl ⟨g, k⟩)]
      have e1 : decide (0 < detM a b q) = true := by simp; omega
      have e2 : decide (0 < detM a b o) = true := by simp; omega
      rw [e1, e2]; rfl
  rw [r1, r2, cr]
  have s1 : sB c o q a = false := by
    unfold sB
    rw [if_pos hy]
    have : decide (detM o q a < 0) = false := by simp; omega
    rw [this]; rfl
  have s2 : sB c o q b = (upB c o b ^^ upB c q b) := by
    unfold sB
    rw [if_pos hy]
    have : decide (detM o q b < 0) = true := by simp; omega
    rw [this]; rfl
  rw [s1, s2]
  cases decide (0 < detM a b q) <;> cases decide (0 < detM a b o) <;> cases upB c o b <;> cases upB c q b <;> rfl
theorem edge_neg (c : Bool) (hy : yv q o < 0) (hA : detM o q a ≠ 0) (hB : detM o q b ≠ 0) (h1 : onB q a b = false) (h2 : onB o a b = false) :
    (crossB o q a b ^^ rayB c q a b ^^ rayB c o a b) = (sB c o q a ^^ sB c o q b) := by
  rcases Int.lt_or_gt_of_ne hA with kA | kA <;> rcases Int.lt_or_gt_of_ne hB with kB | kB
  · have r1 : rayB c q a b = _ := ray_mm (id1 o q a b) hy kA kB (nz_up hq ha hb c h1) up_true up_false up_true up_false
    have r2 : rayB c o a b = _ := ray_mm (id2 o q a b) hy kA kB (nz_up ho ha hb c h2) up_true up_false up_true up_false
    have cr : crossB o q a b = false := by unfold crossB; rw [apart_no (.inr ⟨kA, kB⟩)]; rfl
    rw [r1, r2, cr]
    unfold sB
    rw [if_pos hy, if_pos hy]
    have e1 : decide (detM o q a < 0) = true := by simp; omega
    have e2 : decide (detM o q b < 0) = true := by simp; omega
    rw [e1, e2]
    cases upB c o a <;> cases upB c q a <;> cases upB c o b <;> cases upB c q b <;> rfl
  · have := edge_pm (o := o) (q := q) (a := b) (b := a) ho hq hb ha c hy kB kA (on_sw hq ha hb h1) (on_sw ho ha hb h2)
    rw [cross_sw2, ray_sw c q a b, ray_sw c o a b] at this
    rw [this, Bool.xor_comm]
  · exact edge_pm ho hq ha hb c hy kA kB h1 h2
  · have r1 : rayB c q a b = _ := ray_pp (id1 o q a b) hy kA kB up_true up_false up_true up_false
    have r2 : rayB c o a b = _ := ray_pp (id2 o q a b) hy kA kB up_true up_false up_true up_false
    have cr : crossB o q a b = false := by unfold crossB; rw [apart_no (.inl ⟨kA, kB⟩)]; rfl
    rw [r1, r2, cr]
    unfold sB
    rw [if_pos hy, if_pos hy]
    have e1 : decide (detM o q a < 0) = false := by simp; omega
    have e2 : decide (detM o q b < 0) = false := by simp; omega
    rw [e1, e2]; rfl
omit ho hq ha hb in
theorem yo_id (o q v : Pt) : q.d * yv o v = o.d * yv q v - v.d * yv q o := by unfold yv; grind
omit ha hb in
theorem up_level (c : Bool) (v : Pt) (hy : yv q o = 0) : upB c o v = upB c q v := by
  have e := yo_id o q v
  rw [hy, Int.mul_zero, Int.sub_zero] at e
  have k1 : 0 < yv o v ↔ 0 < yv q v := by
    constructor
    · intro h
      have := mul_pp hq h
      rcases Int.lt_or_le 0 (yv q v) with k | k
      · exact k
      · have := mul_gl (Int.le_of_lt ho) k; omega
    · intro h
      have := mul_pp ho h
      rcases Int.lt_or_le 0 (yv o v) with k | k
      · exact k
      · have := mul_gl (Int.le_of_lt hq) k; omega
  have k2 : yv o v = 0 ↔ yv q v = 0 := by
    constructor
    · intro h
      exact zero_of ((Int.mul_comm ..).trans e) (by omega) h
    · intro h
      exact zero_of ((Int.mul_comm ..).trans e.symm) (by omega) h
  unfold upB
  rw [decide_eq_decide.2 k1, decide_eq_decide.2 k2]
theorem edge_zero (c : Bool) (hy : yv q o = 0) (hA : detM o q a ≠ 0) (hB : detM o q b ≠ 0) (h1 : onB q a b = false) (h2 : onB o a b = false) :
    (crossB o q a b ^^ rayB c q a b ^^ rayB c o a b) = (sB c o q a ^^ sB c o q b) := by
  have s : ∀ v, sB c o q v = false := fun v => by
    unfold sB
    rw [up_level ho hq c v hy]
    cases upB c q v <;> simp
  rw [s, s]
  have fa := id5 o q a
  have fb := id5 o q b
  rw [hy] at fa fb
  simp only [Int.zero_mul, Int.zero_sub] at fa fb
  have za : yv q a ≠ 0 := fun e => by
    rw [e, Int.mul_zero, Int.neg_zero] at fa
    rcases Int.mul_eq_zero.1 fa with k | k <;> omega
  have zb : yv q b ≠ 0 := fun e => by
    rw [e, Int.mul_zero, Int.neg_zero] at fb
    rcases Int.mul_eq_zero.1 fb with k | k <;> omega
  have xo : xv q o ≠ 0 := fun e => by
    rw [e, Int.zero_mul, Int.neg_zero] at fa
    rcases Int.mul_eq_zero.1 fa with k | k <;> omega
  have u : ∀ v, yv q v ≠ 0 → upB c q v = decide (0 < yv q v) := fun v h => by
    unfold upB
    have : decide (yv q v = 0) = false := by simp [h]
    rw [this]; simp
  have sa : (detM o q a < 0 ↔ 0 < xv q o * yv q a) := by
    constructor
    · intro h; have := mul_pn hq h; omega
    · intro h
      rcases Int.lt_or_gt_of_ne hA with k | k
      · exact k
      · have := mul_pp hq k; omega
  have sb : (detM o q b < 0 ↔ 0 < xv q o * yv q b) := by
    constructor
    · intro h; have := mul_pn hq h; omega
    · intro h
      rcases Int.lt_or_gt_of_ne hB with k | k
      · exact k
      · have := mul_pp hq k; omega
  have same : (decide (0 < yv q a) = decide (0 < yv q b)) → ((0 < detM o q a ∧ 0 < detM o q b) ∨ (detM o q a < 0 ∧ detM o q b < 0)) := fun h => by
    have h' : (0 < yv q a ↔ 0 < yv q b) := decide_eq_decide.1 h
    have k : (0 < xv q o * yv q a ↔ 0 < xv q o * yv q b) := by
      rcases Int.lt_or_gt_of_ne xo with x | x <;> rcases Int.lt_or_gt_of_ne za with y | y
      · have y2 : yv q b < 0 := by omega
        exact ⟨fun _ => mul_nn x y2, fun _ => mul_nn x y⟩
      · have y2 : 0 < yv q b := by omega
        have := mul_np x y; have := mul_np x y2
        constructor <;> intro <;> omega
      · have y2 : yv q b < 0 := by omega
        have := mul_pn x y; have := mul_pn x y2
        constructor <;> intro <;> omega
      · have y2 : 0 < yv q b := by omega
        exact ⟨fun _ => mul_pp x y2, fun _ => mul_pp x y⟩
    omega
  have diff : (decide (0 < yv q a) ≠ decide (0 < yv q b)) → ((0 < detM o q a ∧ detM o q b < 0) ∨ (detM o q a < 0 ∧ 0 < detM o q b)) := fun h => by
    have h' : ¬ (0 < yv q a ↔ 0 < yv q b) := fun k => h (decide_eq_decide.2 k)
    have k : ¬ (0 < xv q o * yv q a ↔ 0 < xv q o * yv q b) := by
      rcases Int.lt_or_gt_of_ne xo with x | x <;> rcases Int.lt_or_gt_of_ne za with y | y
      · have y2 : 0 < yv q b := by omega
        have := mul_nn x y; have := mul_np x y2
        intro e; omega
      · have y2 : yv q b < 0 := by omega
        have := mul_np x y; have := mul_nn x y2
        intro e; omega
      · have y2 : 0 < yv q b := by omega
        have := mul_pn x y; have := mul_pp x y2
        intro e; omega
      · have y2 : yv q b < 0 := by omega
        have := mul_pp x y; have := mul_pn x y2
        intro e; omega
    omega
  unfold rayB
  rw [up_level ho hq c a hy, up_level ho hq c b hy, u a za, u b zb]
  by_cases e : decide (0 < yv q a) = decide (0 < yv q b)
  · have cr : crossB o q a b = false := by unfold crossB; rw [apart_no (same e)]; rfl
    rw [cr, e]
    cases decide (0 < yv q b) <;> rfl
  · have d := diff e
    have nH := nz_cross (o := o) hq ha hb h1 (by omega)
    have nG := nz_cross (o := q) ho ha hb h2 (by rw [det_sw, det_sw o q b]; omega)
    have cr : crossB o q a b = apartB (detM a b o) (detM a b q) := by unfold crossB; rw [apart_yes d]; rfl
    rw [cr]
    unfold apartB
    have g1 : decide (detM a b q < 0) = !decide (0 < detM a b q) := by
      rcases Int.lt_or_gt_of_ne nH with k | k
      · have x1 : decide (detM a b q < 0) = true := by simp; omega
        have x2 : decide (0 < detM a b q) = false := by simp; omega
        rw [x1, x2]; rfl
      · have x1 : decide (detM a b q < 0) = false := by simp; omega
        have x2 : decide (0 < detM a b q) = true := by simp; omega
        rw [x1, x2]; rfl
    have g2 : decide (detM a b o < 0) = !decide (0 < detM a b o) := by
      rcases Int.lt_or_gt_of_ne nG with k | k
      · have x1 : decide (detM a b o < 0) = true := by simp; omega
        have x2 : decide (0 < detM a b o) = false := by simp; omega
        rw [x1, x2]; rfl
      · have x1 : decide (detM a b o < 0) = false := by simp; omega
        have x2 : decide (0 < detM a b o) = true := by simp; omega
        rw [x1, x2]; rfl
    rw [g1, g2]
    revert e
    cases decide (0 < yv q a) <;> cases decide (0 < yv q b) <;> cases decide (0 < detM a b q) <;> cases decide (0 < detM a b o) <;> simp
theorem edge_par (c : Bool) (hA : detM o q a ≠ 0) (hB : detM o q b ≠ 0) (h1 : onB q a b = false) (h2 : onB o a b = false) :
    (crossB o q a b ^^ rayB c q a b ^^ rayB c o a b) = (sB c o q a ^^ sB c o q b) := by
  rcases Int.lt_trichotomy (yv q o) 0 with hy | hy | hy
  · exact edge_neg ho hq ha hb c hy hA hB h1 h2
  · exact edge_zero ho hq ha hb c hy hA hB h1 h2
  · have e := yv_sw o q
    have hy' : yv o q < 0 := by omega
    have := edge_neg (o := q) (q := o) hq ho ha hb c hy' (by rw [det_sw]; omega) (by rw [det_sw]; omega) h2 h1
    rw [cross_sw] at this
    have s : ∀ v, sB c q o v = sB c o q v := fun v => by
      unfold sB
      rw [if_pos hy', if_neg (by omega), det_sw o q v, Bool.xor_comm]
      have : decide (-detM o q v < 0) = decide (0 < detM o q v) := by congr 1; exact propext (by omega)
      rw [this]
    rw [s, s] at this
    rw [← this]
    cases crossB o q a b <;> cases rayB c q a b <;> cases rayB c o a b <;> rfl
end
/-- Is it so of an odd number of the edges? -/
def parB (f : Pt → Pt → Bool) : List (Pt × Pt) → Bool
  | [] => false
  | e :: l => f e.1 e.2 ^^ parB f l
theorem parB_app (f : Pt → Pt → Bool) : ∀ l m, parB f (l ++ m) = (parB f l ^^ parB f m)
  | [], m => by simp [parB]
  | e :: l, m => by simp only [List.cons_append, parB, parB_app f l m, Bool.xor_assoc]
theorem parB_congr {f g : Pt → Pt → Bool} : ∀ {l : List (Pt × Pt)}, (∀ e ∈ l, f e.1 e.2 = g e.1 e.2) → parB f l = parB g l
  | [], _ => rfl
  | e :: l, h => by simp only [parB, h e (List.mem_cons_self ..), parB_congr (fun x hx => h x (List.mem_cons_of_mem _ hx))]
theorem parB_xor (f g : Pt → Pt → Bool) : ∀ l, parB (fun a b => f a b ^^ g a b) l = (parB f l ^^ parB g l)
  | [] => rfl
  | e :: l => by
    simp only [parB, parB_xor f g l]
    cases f e.1 e.2 <;> cases g e.1 e.2 <;> cases parB f l <;> cases parB g l <;> rfl
theorem parB_count (f : Pt → Pt → Bool) : ∀ l, parB f l = decide (l.countP (fun e => f e.1 e.2) % 2 = 1)
  | [] => rfl
  | e :: l => by
    rw [parB, parB_count f l, List.countP_cons]
    cases f e.1 e.2
    · simp
    · simp only [Bool.true_xor, if_true]
      have := Nat.mod_two_eq_zero_or_one (l.countP fun e => f e.1 e.2)
      rcases this with h | h
      · have e2 : (l.countP (fun e => f e.1 e.2) + 1) % 2 = 1 := by omega
        rw [h, e2]; rfl
      · have e2 : (l.countP (fun e => f e.1 e.2) + 1) % 2 = 0 := by omega
        rw [h, e2]; rfl

/-- Exclusive or over the first k. -/
def xr (g : Nat → Bool) : Nat → Bool
  | 0 => false
  | k + 1 => xr g k ^^ g k
theorem parB_range (f : Pt → Pt → Bool) (e : Nat → Pt × Pt) : ∀ n, parB f ((List.range n).map e) = xr (fun j => f (e j).1 (e j).2) n
  | 0 => rfl
  | n + 1 => by rw [List.range_succ, List.map_append, parB_app, parB_range f e n]; simp [parB, xr]
theorem tele (t : Nat → Bool) (n : Nat) : ∀ k, k < n → xr (fun j => t j ^^ t (if j + 1 = n then 0 else j + 1)) k = (t 0 ^^ t k)
  | 0, _ => by simp [xr]
  | k + 1, h => by
    rw [xr, tele t n k (by omega), if_neg (by omega)]
    cases t 0 <;> cases t k <;> cases t (k + 1) <;> rfl
/-- Round a ring what is told of a point comes out even. -/
theorem ring_even (s : Pt → Bool) (r : List Pt) : parB (fun a b => s a ^^ s b) (ringEdges r) = false := by
  unfold ringEdges
  rw [parB_range]
  unfold edgeAt
  simp only
  cases h : r.length with
  | zero => rfl
  | succ k =>
    have := tele (fun j => s (r.getD j zP)) (k + 1) k (by omega)
    rw [xr, this, if_pos rfl]
    cases s (r.getD 0 zP) <;> cases s (r.getD k zP) <;> rfl
theorem poly_even (s : Pt → Bool) : ∀ P : List (List Pt), parB (fun a b => s a ^^ s b) (edgesM P) = false
  | [] => rfl
  | r :: P => by
    have e : edgesM (r :: P) = ringEdges r ++ edgesM P := by simp [edgesM]
    rw [e, parB_app, ring_even, poly_even s P]; rfl

/-- An edge's ends are points of the polygon. -/
theorem edge_ends {P : List (List Pt)} {e : Pt × Pt} (h : e ∈ edgesM P) : e.1 ∈ P.flatten ∧ e.2 ∈ P.flatten := by
  unfold edgesM at h
  obtain ⟨r, hr, h⟩ := List.mem_flatMap.1 h
  unfold ringEdges at h
  obtain ⟨j, hj, rfl⟩ := List.mem_map.1 h
  have hj' : j < r.length := by simpa using hj
  have g : ∀ i, i < r.length → r.getD i zP ∈ P.flatten := fun i hi => by
    rw [List.getD_eq_getElem?_getD, List.getElem?_eq_getElem hi]
    exact List.mem_flatten.2 ⟨r, hr, List.getElem_mem hi⟩
  unfold edgeAt
  exact ⟨g j hj', g _ (by split <;> omega)⟩

/-- Far to the left of an edge. -/
theorem far_on {o a b : Pt} (ho : 0 < o.d) (ha : 0 < xv o a) (hb : 0 < xv o b) : onB o a b = false := by
  have h : ∀ v, 0 < xv o v → befB o v = true := fun v hv => by
    cases k : befB o v
    · rw [bef_x] at k; omega
    · rfl
  unfold onB withB loM
  by_cases c : befB b a = true
  · rw [if_pos c, h b hb]; simp
  · rw [if_neg c, h a ha]; simp
theorem far_ray {o a b : Pt} (c : Bool) (ho : 0 < o.d) (ha : 0 < xv o a) (hb : 0 < xv o b) : rayB c o a b = (upB c o a ^^ upB c o b) := by
  have e := id4 o a b
  unfold rayB
  cases ua : upB c o a <;> cases ub : upB c o b
  · simp
  · have y1 := up_false ua
    have y2 := up_true ub
    have ne : yv o a ≠ yv o b := fun k => by have := up_same (c := c) k; rw [ua, ub] at this; cases this
    have : 0 < detM a b o := by
      rcases Int.lt_or_le 0 (detM a b o) with k | k
      · exact k
      · have := mul_gl (Int.le_of_lt ho) k
        have p1 := mul_gg (Int.le_of_lt ha) y2
        have p2 := mul_gl (Int.le_of_lt hb) y1
        have z1 : xv o a * yv o b = 0 := by omega
        have z2 : xv o b * yv o a = 0 := by omega
        rcases Int.mul_eq_zero.1 z1 with z | z
        · omega
        · rcases Int.mul_eq_zero.1 z2 with z' | z' <;> omega
    simp [this]
  · have y1 := up_true ua
    have y2 := up_false ub
    have ne : yv o a ≠ yv o b := fun k => by have := up_same (c := c) k; rw [ua, ub] at this; cases this
    have : detM a b o < 0 := by
      rcases Int.lt_or_le (detM a b o) 0 with k | k
      · exact k
      · have := mul_gg (Int.le_of_lt ho) k
        have p1 := mul_gl (Int.le_of_lt ha) y2
        have p2 := mul_gg (Int.le_of_lt hb) y1
        have z1 : xv o a * yv o b = 0 := by omega
        have z2 : xv o b * yv o a = 0 := by omega
        rcases Int.mul_eq_zero.1 z1 with z | z
        · omega
        · rcases Int.mul_eq_zero.1 z2 with z' | z' <;> omega
    simp [this]
  · simp

/-- How often the way from far to the left crosses the edges, and how often the one to the right: odd alike. -/
theorem parity (c : Bool) {o q : Pt} {P : List (List Pt)} (ho : 0 < o.d) (hq : 0 < q.d) (hd : ∀ v ∈ P.flatten, 0 < v.d) (hl : ∀ v ∈ P.flatten, 0 < xv o v) (hA : ∀ v ∈ P.flatten, detM o q v ≠ 0) (hon : ∀ e ∈ edgesM P, onB q e.1 e.2 = false) :
    parB (crossB o q) (edgesM P) = parB (rayB c q) (edgesM P) := by
  have h1 : parB (fun a b => crossB o q a b ^^ rayB c q a b ^^ rayB c o a b) (edgesM P) = parB (fun a b => sB c o q a ^^ sB c o q b) (edgesM P) :=
    parB_congr fun e he => by
      obtain ⟨m1, m2⟩ := edge_ends he
      exact edge_par ho hq (hd _ m1) (hd _ m2) c (hA _ m1) (hA _ m2) (hon e he) (far_on ho (hl _ m1) (hl _ m2))
  have h2 : parB (rayB c o) (edgesM P) = parB (fun a b => upB c o a ^^ upB c o b) (edgesM P) :=
    parB_congr fun e he => by
      obtain ⟨m1, m2⟩ := edge_ends he
      exact far_ray c ho (hl _ m1) (hl _ m2)
  rw [poly_even] at h1 h2
  have h3 := parB_xor (fun a b => crossB o q a b ^^ rayB c q a b) (rayB c o) (edgesM P)
  have h4 := parB_xor (crossB o q) (rayB c q) (edgesM P)
  rw [h4, h2] at h3
  rw [h3] at h1
  revert h1
  cases parB (crossB o q) (edgesM P) <;> cases parB (rayB c q) (edgesM P) <;> simp

/-- The way to the left. -/
def leftB (c : Bool) (q a b : Pt) : Bool := (!upB c q a && upB c q b && decide (detM a b q < 0)) || (upB c q a && !upB c q b && decide (0 < detM a b q))
theorem left_right (c : Bool) {q : Pt} {P : List (List Pt)} (hq : 0 < q.d) (hd : ∀ v ∈ P.flatten, 0 < v.d) (hon : ∀ e ∈ edgesM P, onB q e.1 e.2 = false) :
    parB (leftB c q) (edgesM P) = parB (rayB c q) (edgesM P) := by
  have h : parB (fun a b => leftB c q a b ^^ rayB c q a b) (edgesM P) = parB (fun a b => upB c q a ^^ upB c q b) (edgesM P) :=
    parB_congr fun e he => by
      obtain ⟨m1, m2⟩ := edge_ends he
      have nz := nz_up hq (hd _ m1) (hd _ m2) c (hon e he)
      unfold leftB rayB
      cases ua : upB c q e.1 <;> cases ub : upB c q e.2
      · simp
      · have := nz (by rw [ua, ub]; simp)
        rcases Int.lt_or_gt_of_ne this with k | k
        · have x : ¬ 0 < detM e.1 e.2 q := by omega
          simp [k, x]
        · have x : ¬ detM e.1 e.2 q < 0 := by omega
          simp [k, x]
      · have := nz (by rw [ua, ub]; simp)
        rcases Int.lt_or_gt_of_ne this with k | k
        · have x : ¬ 0 < detM e.1 e.2 q := by omega
          simp [k, x]
        · have x : ¬ detM e.1 e.2 q < 0 := by omega
          simp [k, x]
      · simp
  rw [poly_even, parB_xor] at h
  revert h
  cases parB (leftB c q) (edgesM P) <;> cases parB (rayB c q) (edgesM P) <;> simp
theorem ringEdges_len (r : List Pt) : (ringEdges r).length = r.length := by simp [ringEdges]
/-- A little more room than a good point's numbers have. -/
structure Gw (p : Pt) : Prop where
  x : In p.x 2200000
  y : In p.y 2200000
  d : In p.d 32768
theorem Gd.gw {p : Pt} (h : Gd p) : Gw p := ⟨h.x.mono (by decide), h.y.mono (by decide), h.d⟩
theorem gd_of_good {p : Pt} (h : goodB p = true) : Gd p ∧ 0 < p.d := by
  have := of_decide_eq_true h
  exact ⟨⟨⟨by omega, by omega⟩, ⟨by omega, by omega⟩, ⟨by omega, by omega⟩⟩, by omega⟩
/-- The places far outside. -/
def outP (k : Nat) : Pt := ⟨-65, k, 1⟩
def freeB (q : Pt) (l : List Pt) (ea eb : Pt) (k : Nat) : Bool := l.all (fun v => decide (detM (outP k) q v ≠ 0)) && decide (detM ea eb (outP k) ≠ 0)
def farL (f : Nat → Bool) : Nat → Nat → Pt
  | 0, _ => outP 0
  | n + 1, k => if f k then outP k else farL f n (k + 1)
def farM (q : Pt) (l : List Pt) (ea eb : Pt) : Pt := farL (freeB q l ea eb) (l.length + 2) 0
theorem outP_gw (k : Nat) (h : k ≤ 2200000) : Gw (outP k) := ⟨⟨by simp [outP], by simp [outP]⟩, ⟨by simp [outP] <;> omega, by simp [outP] <;> omega⟩, ⟨by simp [outP], by simp [outP]⟩⟩
theorem all_take {α : Type} (f : α → Bool) (l : List α) (i : Nat) (hi : i < l.length) (d : α) : (l.take (i + 1)).all f = ((l.take i).all f && f (l.getD i d)) := by
  rw [List.take_succ_eq_append_getElem hi, List.all_append]
  simp [List.getD_eq_getElem?_getD, List.getElem?_eq_getElem hi]
theorem farL_step (f : Nat → Bool) (n k : Nat) (h : k < n) : farL f (n - k) k = if f k then outP k else farL f (n - (k + 1)) (k + 1) := by
  have e : n - k = (n - (k + 1)) + 1 := by omega
  rw [e]; rfl
theorem getD_mem {α : Type} {l : List α} {i : Nat} (h : i < l.length) (d : α) : l.getD i d ∈ l := by
  rw [List.getD_eq_getElem?_getD, List.getElem?_eq_getElem h]; exact List.getElem_mem h
def nCross (o q : Pt) (E : List (Pt × Pt)) : Nat := E.countP (fun e => crossB o q e.1 e.2)
theorem nCross_take (o q : Pt) (E : List (Pt × Pt)) (i : Nat) (hi : i < E.length) : nCross o q (E.take (i + 1)) = nCross o q (E.take i) + (if crossB o q (E.getD i (zP, zP)).1 (E.getD i (zP, zP)).2 = true then 1 else 0) := by
  unfold nCross
  rw [List.take_succ_eq_append_getElem hi, List.countP_append]
  simp [List.getD_eq_getElem?_getD, List.getElem?_eq_getElem hi, List.countP_cons]
theorem nCross_le (o q : Pt) (E : List (Pt × Pt)) : nCross o q E ≤ E.length := List.countP_le_length
/-- A place to the right of q, by 1. -/
def rightP (q : Pt) : Pt := ⟨q.x + q.d, q.y, q.d⟩
/-- Where the place lies, as the document reckons. -/
def rlocM (P : List (List Pt)) (q : Pt) : Int :=
  if (edgesM P).any (fun e => onB q e.1 e.2) = true then 2
  else if nCross (farM q P.flatten q (rightP q)) q (edgesM P) % 2 = 1 then 1 else 0
theorem farL_out (f : Nat → Bool) : ∀ n k, ∃ j, j ≤ n + k ∧ farL f n k = outP j
  | 0, k => ⟨0, Nat.zero_le _, rfl⟩
  | n + 1, k => by
    unfold farL
    split
    · exact ⟨k, by omega, rfl⟩
    · obtain ⟨j, hj, e⟩ := farL_out f n (k + 1)
      exact ⟨j, by omega, e⟩
theorem gw_right {q : Pt} (h : goodB q = true) : Gw (rightP q) := by
  have := of_decide_eq_true h
  exact ⟨⟨by simp [rightP]; omega, by simp [rightP]; omega⟩, ⟨by simp [rightP]; omega, by simp [rightP]; omega⟩, ⟨by simp [rightP]; omega, by simp [rightP]; omega⟩⟩
theorem edges_mem {P : List (List Pt)} {e : Pt × Pt} (h : e ∈ edgesM P) : e.1 ∈ P.flatten ∧ e.2 ∈ P.flatten := edge_ends h
theorem ring_firsts (r : List Pt) : (ringEdges r).map (·.1) = r := by
  apply List.ext_getElem
  · simp [ringEdges]
  · intro j h1 h2
    simp [ringEdges, edgeAt, List.getD_eq_getElem?_getD, List.getElem?_eq_getElem h2]
theorem edges_firsts (P : List (List Pt)) : (edgesM P).map (·.1) = P.flatten := by
  unfold edgesM
  induction P with
  | nil => rfl
  | cons r P ih => simp [ring_firsts, ih]
theorem all_firsts (P : List (List Pt)) : (edgesM P).all (fun e => goodB e.1) = P.flatten.all goodB := by
  rw [← edges_firsts, List.all_map]; rfl
theorem first_edge {P : List (List Pt)} {v : Pt} (h : v ∈ P.flatten) : ∃ e ∈ edgesM P, e.1 = v := by
  rw [← edges_firsts] at h
  obtain ⟨e, he, rfl⟩ := List.mem_map.1 h
  exact ⟨e, he, rfl⟩
theorem findM_none {α : Type} (f : α → Bool) : ∀ (l : List α) (i : Int), 0 ≤ i → findM f i l = -1 → ∀ x ∈ l, f x = false
  | [], _, _, _, _, hx => by cases hx
  | y :: l, i, hi, h, x, hx => by
    simp only [findM] at h
    split at h
    · omega
    · rename_i hy
      rcases List.mem_cons.1 hx with rfl | hx
      · simpa using hy
      · exact findM_none f l (i + 1) (by omega) h x hx
theorem edge_second (P : List (List Pt)) (e : Pt × Pt) (he : e ∈ edgesM P) : ∃ e' ∈ edgesM P, e'.1 = e.2 := by
  unfold edgesM at *
  obtain ⟨r, hr, h⟩ := List.mem_flatMap.1 he
  obtain ⟨j, hj, rfl⟩ := List.mem_map.1 h
  have hj' : j < r.length := by simpa using hj
  refine ⟨edgeAt r (if j + 1 = r.length then 0 else j + 1), List.mem_flatMap.2 ⟨r, hr, List.mem_map.2 ⟨_, by simp; split <;> omega, rfl⟩⟩, rfl⟩
theorem badM_none : ∀ (P : List (List Pt)) (room i : Int), 0 ≤ i → badM room i P = -1 → 0 ≤ room → ((edgesM P).length : Int) ≤ room
  | [], room, _, _, _, hr => by simp [edgesM]; omega
  | r :: P, room, i, hi, h, hr => by
    simp only [badM] at h
    split at h
    · omega
    · rename_i hb
      have ih := badM_none P (room - r.length) (i + 1) (by omega) h (by omega)
      have e : (edgesM (r :: P)).length = r.length + (edgesM P).length := by simp [edgesM, ringEdges_len]
      rw [e]; omega
theorem edgesM_len (P : List (List Pt)) : (edgesM P).length = P.flatten.length := by
  unfold edgesM
  induction P with
  | nil => rfl
  | cons r P ih => simp [ringEdges_len, ih]
theorem gr_of {p : Pt} (h : gridB p = true) : Gr p := by
  have := of_decide_eq_true h
  exact ⟨In.mk this.2.1 this.2.2.1, In.mk this.2.2.2.1 this.2.2.2.2, this.1⟩
end Go.Proofs.Ytnkcbephceollab
