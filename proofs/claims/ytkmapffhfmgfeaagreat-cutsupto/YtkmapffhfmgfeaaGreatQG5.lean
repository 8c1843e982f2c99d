import Derived.Test.YtkmapffhfmgfeaaGreatQG1
import Derived.Test.YtkmapffhfmgfeaaGreatQD
import Derived.Test.YtkmapffhfmgfeaaGreatQR11
import Derived.Test.YtkmapffhfmgfeaaGreatQG6
namespace Go.Proofs.YtkmapffhfmgfeaaGreat
set_option linter.unusedVariables false
set_option linter.unusedSimpArgs false

theorem cmpB (p q : Pt) : decide (cmpM p q < 0) = befB p q := by
  unfold cmpM befB
  by_cases h : p.x * q.d = q.x * p.d
  · rw [if_neg (by omega), if_neg (by simpa using h)]; congr 1; exact propext (by omega)
  · rw [if_pos (by omega), if_pos (by simpa using h)]; congr 1; exact propext (by omega)
theorem cmpB' (p q : Pt) : decide (0 < cmpM p q) = befB q p := by
  unfold cmpM befB
  by_cases h : p.x * q.d = q.x * p.d
  · rw [if_neg (by omega), if_neg (by simpa using h.symm)]; congr 1; exact propext (by omega)
  · rw [if_pos (by omega), if_pos (by simpa using fun e => h e.symm)]; congr 1; exact propext (by omega)
theorem first_eq (a b : Pt) : firstM a b = if befB b a = true then b else a := by
  unfold firstM; rw [← cmpB]; simp
theorem last_eq (a b : Pt) : lastM a b = if befB a b = true then b else a := by
  unfold lastM; rw [← cmpB']; simp
theorem bef_irr (p : Pt) : befB p p = false := by rw [bef_false]; omega
theorem bef_asym {p q : Pt} (h : befB p q = true) : befB q p = false := by
  rw [bef_iff] at h; rw [bef_false]; omega
section
variable {a b q : Pt} (ha : 0 < a.d) (hb : 0 < b.d) (hq : 0 < q.d)
include ha hb hq
/-- Of one place: neither is ahead. -/
theorem bef_same_r (h1 : befB a b = false) (h2 : befB b a = false) : befB q a = befB q b := by
  cases k : befB q a
  · cases k2 : befB q b
    · rfl
    · have := bef_le hq hb ha k2 h1; rw [k] at this; cases this
  · exact (bef_le hq ha hb k h2).symm
theorem bef_same_l (h1 : befB a b = false) (h2 : befB b a = false) : befB a q = befB b q := by
  cases k : befB a q
  · cases k2 : befB b q
    · rfl
    · have := le_bef ha hb hq h2 k2; rw [k] at this; cases this
  · exact (le_bef hb ha hq h1 k).symm
theorem bef_lt (h : befB a b = true) (h2 : befB q a = true) : befB q b = true := bef_le hq ha hb h2 (bef_asym h)
theorem has_on : hasM a b q = onB q a b := by
  unfold hasM onB withB sideM loM hiM
  rw [cmpB, cmpB']
  by_cases h : befB b a = true
  · have h' := bef_asym h
    rw [first_eq, last_eq, if_pos h, if_neg (by rw [h']; decide), if_pos h]
    have e : decide (detM b a q = 0) = decide (detM a b q = 0) := by rw [det_sw2]; congr 1; exact propext (by omega)
    rw [e]
    cases befB q b <;> cases befB a q <;> cases decide (detM a b q = 0) <;> rfl
  · have h0 : befB b a = false := by simpa using h
    by_cases h2 : befB a b = true
    · rw [first_eq, last_eq, if_neg h, if_pos h2, if_neg h]
      cases befB q a <;> cases befB b q <;> cases decide (detM a b q = 0) <;> rfl
    · have h2' : befB a b = false := by simpa using h2
      rw [first_eq, last_eq, if_neg h, if_neg h2, if_neg h]
      have e1 := bef_same_l ha hb hq h2' h0
      rw [e1]
      -- of one place: the determinant is 0 at both
      have z1 : detM a a q = 0 := by unfold detM; grind
      have z2 : detM a b q = 0 := by
        rw [bef_false] at h0 h2'
        have ex : a.x * b.d = b.x * a.d := by omega
        have ey : a.y * b.d = b.y * a.d := by omega
        have k : a.d * detM a b q = 0 := by
          have : a.d * detM a b q = (a.x * b.d - b.x * a.d) * (a.d * q.y) * (-1) + (a.y * b.d - b.y * a.d) * (a.d * q.x) + (a.x * (b.y * a.d) - a.y * (b.x * a.d)) * q.d := by unfold detM; grind
          rw [this, ← ex, ← ey]
          grind
        rcases Int.mul_eq_zero.1 k with c | c
        · omega
        · exact c
      rw [z1, z2]
      cases befB q a <;> cases befB b q <;> rfl
theorem over_eq : overM a b q = overB q a b := by
  unfold overM spanM sideM overB
  rw [cmpB, cmpB]
  by_cases h : befB b a = true
  · have h' := bef_asym h
    rw [first_eq, last_eq, if_pos h, if_neg (by rw [h']; decide)]
    have e : decide (detM b a q < 0) = decide (0 < detM a b q) := by rw [det_sw2]; congr 1; exact propext (by omega)
    rw [e]
    have m := fun k => bef_lt hb ha hq h (q := q) k
    cases ka : befB q a <;> cases kb : befB q b
    · simp
    · have := m kb; rw [ka] at this; cases this
    · simp
    · simp
  · have h0 : befB b a = false := by simpa using h
    by_cases h2 : befB a b = true
    · rw [first_eq, last_eq, if_neg h, if_pos h2]
      have m := fun k => bef_lt ha hb hq h2 (q := q) k
      cases ka : befB q a <;> cases kb : befB q b
      · simp
      · simp
      · have := m ka; rw [kb] at this; cases this
      · simp
    · have h2' : befB a b = false := by simpa using h2
      rw [first_eq, last_eq, if_neg h, if_neg h2, bef_same_r ha hb hq h2' h0]
      cases befB q b <;> simp
end

theorem whereM_eq (q : Pt) : ∀ (E : List (Pt × Pt)) (n : Int), n = 0 ∨ n = 1 → E.any (fun e => hasM e.1 e.2 q) = false → whereM q n E = if (parB (fun a b => overM a b q) E ^^ decide (n = 1)) = true then 1 else 0
  | [], n, hn, _ => by rcases hn with rfl | rfl <;> rfl
  | e :: E, n, hn, h => by
    simp only [List.any_cons, Bool.or_eq_false_iff] at h
    have ew : whereM q n (e :: E) = if hasM e.1 e.2 q = true then 2 else whereM q (if overM e.1 e.2 q = true then otherM n else n) E := rfl
    have ep : parB (fun a b => overM a b q) (e :: E) = (overM e.1 e.2 q ^^ parB (fun a b => overM a b q) E) := rfl
    rw [ew, ep, if_neg (by rw [h.1]; decide)]
    by_cases ho : overM e.1 e.2 q = true
    case neg =>
      have ho' : overM e.1 e.2 q = false := by simpa using ho
      rw [if_neg ho, ho', whereM_eq q E n hn h.2, Bool.false_xor]
    case pos =>
      rw [if_pos ho, ho, whereM_eq q E (otherM n) (by rcases hn with rfl | rfl <;> simp [otherM]) h.2, Bool.true_xor]
      rcases hn with rfl | rfl
      · have : otherM 0 = 1 := rfl
        rw [this]; cases parB (fun a b => overM a b q) E <;> rfl
      · have : otherM 1 = 0 := rfl
        rw [this]; cases parB (fun a b => overM a b q) E <;> rfl
theorem whereM_two (q : Pt) : ∀ (E : List (Pt × Pt)) (n : Int), E.any (fun e => hasM e.1 e.2 q) = true → whereM q n E = 2
  | [], n, h => by simp at h
  | e :: E, n, h => by
    simp only [whereM]
    split
    · rfl
    · rename_i k
      exact whereM_two q E _ (by simpa [k] using h)

/-- If each of fewer than there are places bars one at most, one is free. -/
theorem pigeon : ∀ (L : List (Nat → Bool)) (S : List Nat), S.Nodup → (∀ b ∈ L, ∀ i j, b i = true → b j = true → i = j) → L.length < S.length → ∃ k ∈ S, ∀ b ∈ L, b k = false
  | [], S, _, _, h => by
    cases S with
    | nil => simp at h
    | cons k S => exact ⟨k, List.mem_cons_self .., fun b hb => by cases hb⟩
  | b :: L, S, hS, hb, h => by
    have hc : S.countP b ≤ 1 := by
      clear h
      induction S with
      | nil => simp
      | cons x S ih =>
        rw [List.countP_cons]
        have hx := List.nodup_cons.1 hS
        cases hbx : b x
        · simpa using ih hx.2
        · have z : S.countP b = 0 := by
            rw [List.countP_eq_zero]
            intro y hy k
            have := hb b (List.mem_cons_self ..) x y hbx k
            subst this
            exact hx.1 hy
          simp [z]
    have hl : (S.filter (fun k => !b k)).length + S.countP b = S.length := by
      rw [← List.countP_eq_length_filter, Nat.add_comm]
      have := List.length_eq_countP_add_countP b (l := S)
      simp only [Bool.not_eq_true] at this
      have e : S.countP (fun k => !b k) = S.countP (fun a => decide (b a = false)) := by
        congr 1; funext k; cases b k <;> rfl
      rw [e]; omega
    obtain ⟨k, hk, hf⟩ := pigeon L (S.filter (fun k => !b k)) (hS.filter _) (fun c hc => hb c (List.mem_cons_of_mem _ hc)) (by simp only [List.length_cons] at h; omega)
    obtain ⟨hk1, hk2⟩ := List.mem_filter.1 hk
    refine ⟨k, hk1, fun c hc => ?_⟩
    rcases List.mem_cons.1 hc with rfl | hc
    · simpa using hk2
    · exact hf c hc
theorem farL_free (f : Nat → Bool) : ∀ n k, (∃ j, k ≤ j ∧ j < k + n ∧ f j = true) → ∃ j, f j = true ∧ farL f n k = outP j
  | 0, k, ⟨j, h1, h2, _⟩ => by omega
  | n + 1, k, ⟨j, h1, h2, h3⟩ => by
    unfold farL
    cases hk : f k
    · rw [if_neg (by decide)]
      have : j ≠ k := fun e => by rw [e, hk] at h3; cases h3
      exact farL_free f n (k + 1) ⟨j, by omega, by omega, h3⟩
    · exact ⟨k, hk, rfl⟩

/-- q is in bounds. -/
theorem out_xv {q : Pt} (k : Nat) (h : goodB q = true) : 0 < xv (outP k) q ∧ xv q (outP k) < 0 := by
  have := of_decide_eq_true h
  unfold xv outP; simp only [Int.mul_one]; constructor <;> omega
theorem det_out (k : Nat) (q v : Pt) : detM (outP k) q v = detM (outP 0) q v + k * xv q v := by
  unfold detM outP xv; simp only [Int.natCast_zero]; grind
/-- A point that is another place than q bars one k at most. -/
theorem bar_one {q v : Pt} (hq : goodB q = true) (hv : 0 < v.d) (hne : ¬ (xv q v = 0 ∧ yv q v = 0)) (i j : Nat) (h1 : detM (outP i) q v = 0) (h2 : detM (outP j) q v = 0) : i = j := by
  have hd : 0 < q.d := by have := of_decide_eq_true hq; omega
  by_cases hx : xv q v = 0
  · exfalso
    have e := id5 (outP i) q v
    rw [h1, hx, Int.mul_zero, Int.mul_zero, Int.zero_sub] at e
    have o := (out_xv i hq).2
    have z : xv q (outP i) * yv q v = 0 := by omega
    rcases Int.mul_eq_zero.1 z with c | c
    · omega
    · exact hne ⟨hx, c⟩
  · rw [det_out] at h1 h2
    have z : ((i : Int) - j) * xv q v = 0 := by rw [Int.sub_mul]; omega
    rcases Int.mul_eq_zero.1 z with c | c
    · omega
    · exact absurd c hx
theorem bar_edge {p r : Pt} (hx : xv p r ≠ 0) (i j : Nat) (h1 : detM p r (outP i) = 0) (h2 : detM p r (outP j) = 0) : i = j := by
  have e : ∀ k : Nat, detM p r (outP k) = detM p r (outP 0) + k * xv p r := fun k => by
    unfold detM outP xv; simp only [Int.natCast_zero]; grind
  rw [e] at h1 h2
  have z : ((i : Int) - j) * xv p r = 0 := by rw [Int.sub_mul]; omega
  rcases Int.mul_eq_zero.1 z with c | c
  · omega
  · exact absurd c hx
/-- The place far outside is free. -/
theorem far_free {q : Pt} {l : List Pt} {p r : Pt} (hq : goodB q = true) (hv : ∀ v ∈ l, 0 < v.d) (hne : ∀ v ∈ l, ¬ (xv q v = 0 ∧ yv q v = 0)) (hx : xv p r ≠ 0) :
    ∃ k, farM q l p r = outP k ∧ (∀ v ∈ l, detM (outP k) q v ≠ 0) ∧ detM p r (outP k) ≠ 0 := by
  obtain ⟨k, hk, hf⟩ := pigeon ((fun k => decide (detM p r (outP k) = 0)) :: l.map (fun v k => decide (detM (outP k) q v = 0))) (List.range (l.length + 2)) List.nodup_range (by
    intro b hb i j h1 h2
    rcases List.mem_cons.1 hb with rfl | hb
    · exact bar_edge hx i j (of_decide_eq_true h1) (of_decide_eq_true h2)
    · obtain ⟨v, hv', rfl⟩ := List.mem_map.1 hb
      exact bar_one hq (hv v hv') (hne v hv') i j (of_decide_eq_true h1) (of_decide_eq_true h2)) (by simp)
  have hk' : k < l.length + 2 := by simpa using hk
  have fr : freeB q l p r k = true := by
    unfold freeB
    rw [Bool.and_eq_true, List.all_eq_true]
    refine ⟨fun v hv' => ?_, ?_⟩
    · have := hf _ (List.mem_cons_of_mem _ (List.mem_map.2 ⟨v, hv', rfl⟩))
      exact decide_eq_true (of_decide_eq_false this)
    · have := hf _ (List.mem_cons_self ..)
      exact decide_eq_true (of_decide_eq_false this)
  obtain ⟨j, hj, e⟩ := farL_free (freeB q l p r) (l.length + 2) 0 ⟨k, Nat.zero_le _, by omega, fr⟩
  refine ⟨j, e, ?_⟩
  unfold freeB at hj
  rw [Bool.and_eq_true, List.all_eq_true] at hj
  exact ⟨fun v hv' => of_decide_eq_true (hj.1 v hv'), of_decide_eq_true hj.2⟩
theorem on_first {q a b : Pt} (ha : 0 < a.d) (hb : 0 < b.d) (hq : 0 < q.d) (h1 : xv q a = 0) (h2 : yv q a = 0) : onB q a b = true := by
  have b1 : befB q a = false := by rw [bef_x]; omega
  have b2 : befB a q = false := by rw [bef_x']; omega
  have z : detM a b q = 0 := by
    have e := id4 q a b
    rw [h1, h2, Int.zero_mul, Int.mul_zero, Int.sub_zero] at e
    rcases Int.mul_eq_zero.1 e with c | c
    · omega
    · exact c
  unfold onB
  rw [z]
  cases k : befB q b
  · -- q is not ahead of b: it lies between b and a
    rw [with_ba hq ha hb k b2]; rfl
  · have b3 : befB b q = false := bef_asym k
    rw [with_ab hq ha hb b1 b3]; rfl
end Go.Proofs.YtkmapffhfmgfeaaGreat
namespace Go.Proofs.YtkmapffhfmgfeaaGreat
set_option linter.unusedVariables false
set_option linter.unusedSimpArgs false
set_option linter.unusedSectionVars false

/-- Just beyond m, as seen from o. -/
def pastP (T : Int) (o m : Pt) : Pt := ⟨T * m.x - o.x, T * m.y - o.y, T * m.d - o.d⟩
theorem past_det (T : Int) (o m a b : Pt) : detM a b (pastP T o m) = T * detM a b m - detM a b o := by unfold detM pastP; grind
theorem past_way (T : Int) (o m v : Pt) : detM o (pastP T o m) v = T * detM o m v := by unfold detM pastP; grind
theorem past_yv (T : Int) (o m v : Pt) : yv (pastP T o m) v = T * yv m v - yv o v := by unfold yv pastP; grind
theorem sh_past (K T : Int) (o m : Pt) : shP K (pastP T o m) = pastP T (shP K o) (shP K m) := by
  unfold shP pastP; simp only [Pt.mk.injEq, true_and, and_true]; grind
theorem plk (o m a b : Pt) : yv a b * detM o m a = detM a b m * yv a o - detM a b o * yv a m := by unfold yv detM; grind
theorem plk2 {p q a b : Pt} (o : Pt) (h1 : detM p q a = 0) (h2 : detM p q b = 0) : yv p q * detM a b o = yv a b * detM p q o := by
  have : yv p q * detM a b o - yv a b * detM p q o = detM p q a * yv b o - detM p q b * yv a o := by unfold yv detM; grind
  rw [h1, h2] at this
  omega
theorem big_sg {T x y : Int} (h1 : -T < y) (h2 : y < T) (hx : x ≠ 0) : (T * x - y < 0 ↔ x < 0) ∧ (0 < T * x - y ↔ 0 < x) := by
  have hT : 0 < T := by omega
  rcases Int.lt_or_gt_of_ne hx with c | c
  · have e : T * (x + 1) ≤ 0 := mul_gl (Int.le_of_lt hT) (by omega)
    have e2 : T * (x + 1) = T * x + T := by grind
    omega
  · have e : 0 ≤ T * (x - 1) := mul_gg (Int.le_of_lt hT) (by omega)
    have e2 : T * (x - 1) = T * x - T := by grind
    omega
/-- The way past an edge through m. -/
def thrB (o m a b : Pt) : Bool := onB m a b && ((befB a b && decide (0 < detM a b o)) || (befB b a && decide (detM a b o < 0)))

section
variable {o m a b : Pt} {K T : Int} (ho : 0 < o.d) (hm : 0 < m.d) (ha : 0 < a.d) (hb : 0 < b.d)
  (ka : -K < yv m a ∧ yv m a < K) (kb : -K < yv m b ∧ yv m b < K) (kab : -K < yv a b ∧ yv a b < K)
  (hA : detM o m a ≠ 0) (hB : detM o m b ≠ 0) (hne : befB a b = true ∨ befB b a = true)
include ho hm ha hb ka kb kab hA hB hne
theorem on_apart (h0 : detM a b m = 0) : onB m a b = apartB (detM o m a) (detM o m b) := by
  cases hon : onB m a b
  · cases hap : apartB (detM o m a) (detM o m b)
    · rfl
    · exfalso
      refine nz_cross (o := o) hm ha hb hon ?_ h0
      unfold apartB at hap
      simp only [Bool.or_eq_true, Bool.and_eq_true, decide_eq_true_eq] at hap
      exact hap
  · -- m lies between a and b
    have I := id1 (shP K o) (shP K m) (shP K a) (shP K b)
    rw [sh_det, sh_det, sh_det, h0, Int.mul_zero] at I
    have ua := sh_up ka.1 ka.2
    have ub := sh_up kb.1 kb.2
    have upd : ∀ u v, upB false u v = decide (0 < yv u v) := fun u v => by unfold upB; simp
    rw [upd] at ua ub
    have hd : yv (shP K a) (shP K b) ≠ 0 := by
      intro e
      have sw : ∀ u v, yv u v = -yv v u := fun u v => by unfold yv; grind
      have e' := sw (shP K a) (shP K b)
      have w1 := sh_up kab.1 kab.2
      have w2 := sh_up (K := K) (q := b) (v := a) (by have := sw b a; omega) (by have := sw b a; omega)
      rw [upd] at w1 w2
      rcases hne with h | h
      · rw [h] at w1; have := of_decide_eq_true w1; omega
      · rw [h] at w2; have := of_decide_eq_true w2; omega
    have J : (shP K m).d * yv (shP K a) (shP K b) = (shP K a).d * yv (shP K m) (shP K b) - (shP K b).d * yv (shP K m) (shP K a) := by unfold yv; grind
    have hw : withB m a b = true := by unfold onB at hon; simp at hon; exact hon.2
    -- not both above nor both below
    have lt : (yv (shP K m) (shP K a) ≤ 0 ∧ 0 ≤ yv (shP K m) (shP K b)) ∨ (0 ≤ yv (shP K m) (shP K a) ∧ yv (shP K m) (shP K b) ≤ 0) := by
      unfold withB loM hiM at hw
      have sw : ∀ u v, yv u v = -yv v u := fun u v => by unfold yv; grind
      have va := sh_up (K := K) (q := a) (v := m) (by have := sw a m; omega) (by have := sw a m; omega)
      have vb := sh_up (K := K) (q := b) (v := m) (by have := sw b m; omega) (by have := sw b m; omega)
      rw [upd, sw (shP K a)] at va
      rw [upd, sw (shP K b)] at vb
      by_cases c : befB b a = true
      · simp only [if_pos c, Bool.and_eq_true, Bool.not_eq_true'] at hw
        rw [hw.1] at ub; rw [hw.2] at va
        have := of_decide_eq_false ub; have := of_decide_eq_false va
        omega
      · simp only [if_neg c, Bool.and_eq_true, Bool.not_eq_true'] at hw
        rw [hw.1] at ua; rw [hw.2] at vb
        have := of_decide_eq_false ua; have := of_decide_eq_false vb
        omega
    generalize yv (shP K m) (shP K a) = am at *
    generalize yv (shP K m) (shP K b) = bm at *
    generalize detM o m a = A at *
    generalize detM o m b = B at *
    have z1 : am ≠ 0 := fun e => by
      rw [e, Int.mul_zero, Int.sub_zero] at I
      rcases Int.mul_eq_zero.1 I.symm with c | c
      · exact hA c
      · rw [e, c, Int.mul_zero, Int.mul_zero, Int.sub_zero] at J
        rcases Int.mul_eq_zero.1 J with c | c
        · have : (shP K m).d = m.d := rfl
          omega
        · exact hd c
    have z2 : bm ≠ 0 := fun e => by
      rw [e, Int.mul_zero, Int.zero_sub] at I
      have I' : B * am = 0 := by omega
      rcases Int.mul_eq_zero.1 I' with c | c
      · exact hB c
      · exact z1 c
    symm
    unfold apartB
    simp only [Bool.or_eq_true, Bool.and_eq_true, decide_eq_true_eq]
    have I' : A * bm = B * am := by omega
    rcases lt with ⟨l1, l2⟩ | ⟨l1, l2⟩
    · have l1' : am < 0 := by omega
      have l2' : 0 < bm := by omega
      rcases Int.lt_or_gt_of_ne hA with c | c <;> rcases Int.lt_or_gt_of_ne hB with d | d
      · have := mul_np c l2'; have := mul_nn d l1'; omega
      · omega
      · omega
      · have := mul_pp c l2'; have := mul_pn d l1'; omega
    · have l1' : 0 < am := by omega
      have l2' : bm < 0 := by omega
      rcases Int.lt_or_gt_of_ne hA with c | c <;> rcases Int.lt_or_gt_of_ne hB with d | d
      · have := mul_nn c l2'; have := mul_np d l1'; omega
      · omega
      · omega
      · have := mul_pn c l2'; have := mul_pp d l1'; omega
/-- o is on no edge's line that m is on. -/
theorem om_nz (h0 : detM a b m = 0) : detM a b o ≠ 0 := by
  intro e
  have pl := plk (shP K o) (shP K m) (shP K a) (shP K b)
  rw [sh_det, sh_det, sh_det, h0, e, Int.zero_mul, Int.zero_mul, Int.sub_zero] at pl
  rcases Int.mul_eq_zero.1 pl with c | c
  · have upd : ∀ u v, upB false u v = decide (0 < yv u v) := fun u v => by unfold upB; simp
    have sw : ∀ u v, yv u v = -yv v u := fun u v => by unfold yv; grind
    have e' := sw (shP K a) (shP K b)
    have w1 := sh_up kab.1 kab.2
    have w2 := sh_up (K := K) (q := b) (v := a) (by have := sw b a; omega) (by have := sw b a; omega)
    rw [upd] at w1 w2
    rcases hne with h | h
    · rw [h] at w1; have := of_decide_eq_true w1; omega
    · rw [h] at w2; have := of_decide_eq_true w2; omega
  · exact hA c
theorem past_nz (t1 : -T < detM a b o ∧ detM a b o < T) : detM a b (pastP T o m) ≠ 0 := by
  rw [past_det]
  by_cases h0 : detM a b m = 0
  · have := om_nz ho hm ha hb ka kb kab hA hB hne h0
    rw [h0, Int.mul_zero]; omega
  · have := big_sg t1.1 t1.2 h0
    omega
theorem past_cross (t1 : -T < detM a b o ∧ detM a b o < T) : crossB o (pastP T o m) a b = (crossB o m a b ^^ onB m a b) := by
  have hT : 0 < T := by omega
  have sc : ∀ x : Int, (T * x < 0 ↔ x < 0) ∧ (0 < T * x ↔ 0 < x) := fun x => by
    rcases Int.lt_trichotomy x 0 with c | c | c
    · have := mul_pn hT c; omega
    · subst c; rw [Int.mul_zero]; omega
    · have := mul_pp hT c; omega
  unfold crossB
  rw [past_way, past_way, past_det]
  have e1 : apartB (T * detM o m a) (T * detM o m b) = apartB (detM o m a) (detM o m b) := by
    unfold apartB; simp only [(sc _).1, (sc _).2]
  rw [e1]
  by_cases h0 : detM a b m = 0
  · rw [on_apart ho hm ha hb ka kb kab hA hB hne h0]
    have nz := om_nz ho hm ha hb ka kb kab hA hB hne h0
    rw [h0, Int.mul_zero]
    have e2 : apartB (detM a b o) (0 - detM a b o) = true := by unfold apartB; simp; omega
    have e3 : apartB (detM a b o) 0 = false := by unfold apartB; simp
    rw [e2, e3]; cases apartB (detM o m a) (detM o m b) <;> rfl
  · have e2 : apartB (detM a b o) (T * detM a b m - detM a b o) = apartB (detM a b o) (detM a b m) := by
      unfold apartB; simp only [(big_sg t1.1 t1.2 h0).1, (big_sg t1.1 t1.2 h0).2]
    have e3 : onB m a b = false := by unfold onB; simp [h0]
    rw [e2, e3]; simp
theorem past_left (t1 : -T < detM a b o ∧ detM a b o < T) (ta : 0 < yv (shP K o) (shP K a) ∧ yv (shP K o) (shP K a) < T) (tb : 0 < yv (shP K o) (shP K b) ∧ yv (shP K o) (shP K b) < T) :
    leftB false (shP K (pastP T o m)) (shP K a) (shP K b) = (overB m a b ^^ thrB o m a b) := by
  have upd : ∀ u v, upB false u v = decide (0 < yv u v) := fun u v => by unfold upB; simp
  have upx : ∀ v, -K < yv m v ∧ yv m v < K → 0 < yv (shP K o) (shP K v) ∧ yv (shP K o) (shP K v) < T → upB false (shP K (pastP T o m)) (shP K v) = befB m v := fun v kv tv => by
    have u := sh_up kv.1 kv.2
    rw [upd] at u ⊢
    rw [← u, sh_past, past_yv]
    refine decide_eq_decide.2 ?_
    by_cases z : yv (shP K m) (shP K v) = 0
    · rw [z, Int.mul_zero]; omega
    · exact (big_sg (by omega) tv.2 z).2
  unfold leftB
  rw [upx a ka ta, upx b kb tb, sh_det, past_det]
  unfold overB thrB
  by_cases h0 : detM a b m = 0
  · rw [h0, Int.mul_zero]
    have d1 : decide ((0 : Int) < 0) = false := rfl
    rw [d1]
    have up := nz_up (q := m) (a := shP K a) (b := shP K b)
    cases ua : befB m a <;> cases ub : befB m b
    · -- both not behind m
      have : onB m a b = false ∨ onB m a b = true := by cases onB m a b <;> simp
      rcases this with h | h
      · rw [h]; simp
      · -- then one of them is m
        exfalso
        have ap := on_apart ho hm ha hb ka kb kab hA hB hne h0
        rw [h] at ap
        have I := id1 (shP K o) (shP K m) (shP K a) (shP K b)
        rw [sh_det, sh_det, sh_det, h0, Int.mul_zero] at I
        have va := sh_up ka.1 ka.2
        have vb := sh_up kb.1 kb.2
        rw [upd, ua] at va
        rw [upd, ub] at vb
        have xa := of_decide_eq_false va
        have xb := of_decide_eq_false vb
        have ap' := ap.symm
        unfold apartB at ap'
        simp only [Bool.or_eq_true, Bool.and_eq_true, decide_eq_true_eq] at ap'
        have J : (shP K m).d * yv (shP K a) (shP K b) = (shP K a).d * yv (shP K m) (shP K b) - (shP K b).d * yv (shP K m) (shP K a) := by unfold yv; grind
        generalize yv (shP K m) (shP K a) = am at *
        generalize yv (shP K m) (shP K b) = bm at *
        have both : am = 0 ∧ bm = 0 := by
          rcases ap' with ⟨p1, p2⟩ | ⟨p1, p2⟩
          · have m1 := mul_ll (Int.le_of_lt p1) (show bm ≤ 0 by omega)
            have m2 := mul_gl (Int.le_of_lt p2) (show am ≤ 0 by omega)
            refine ⟨?_, ?_⟩
            · rcases Int.mul_eq_zero.1 (show detM o m b * am = 0 by omega) with c | c <;> omega
            · rcases Int.mul_eq_zero.1 (show detM o m a * bm = 0 by omega) with c | c <;> omega
          · have m1 := mul_gl (Int.le_of_lt p1) (show bm ≤ 0 by omega)
            have m2 := mul_ll (Int.le_of_lt p2) (show am ≤ 0 by omega)
            refine ⟨?_, ?_⟩
            · rcases Int.mul_eq_zero.1 (show detM o m b * am = 0 by omega) with c | c <;> omega
            · rcases Int.mul_eq_zero.1 (show detM o m a * bm = 0 by omega) with c | c <;> omega
        rw [both.1, both.2, Int.mul_zero, Int.mul_zero, Int.sub_zero] at J
        rcases Int.mul_eq_zero.1 J with c | c
        · have : (shP K m).d = m.d := rfl
          omega
        · have sw : ∀ u v, yv u v = -yv v u := fun u v => by unfold yv; grind
          have e' := sw (shP K a) (shP K b)
          have w1 := sh_up kab.1 kab.2
          have w2 := sh_up (K := K) (q := b) (v := a) (by have := sw b a; omega) (by have := sw b a; omega)
          rw [upd] at w1 w2
          rcases hne with h | h
          · rw [h] at w1; have := of_decide_eq_true w1; omega
          · rw [h] at w2; have := of_decide_eq_true w2; omega
    · have hab : befB a b = true := le_bef ha hm hb ua ub
      have hba := bef_asym hab
      have hon : onB m a b = true := by
        cases h : onB m a b
        · exfalso
          have := with_ab hm ha hb ua (bef_asym ub)
          unfold onB at h; rw [h0, this] at h; simp at h
        · rfl
      rw [hab, hba, hon]
      have e : decide (0 - detM a b o < 0) = decide (0 < detM a b o) := decide_eq_decide.2 (by omega)
      rw [e]; simp
    · have hba : befB b a = true := le_bef hb hm ha ub ua
      have hab := bef_asym hba
      have hon : onB m a b = true := by
        cases h : onB m a b
        · exfalso
          have := with_ba hm ha hb ub (bef_asym ua)
          unfold onB at h; rw [h0, this] at h; simp at h
        · rfl
      rw [hab, hba, hon]
      have e : decide (0 < 0 - detM a b o) = decide (detM a b o < 0) := decide_eq_decide.2 (by omega)
      rw [e]; simp
    · have : onB m a b = false := by
        cases h : onB m a b
        · rfl
        · exfalso
          have hw : withB m a b = true := by unfold onB at h; simp at h; exact h.2
          unfold withB loM hiM at hw
          by_cases c : befB b a = true
          · simp [if_pos c, ub] at hw
          · simp [if_neg c, ua] at hw
      rw [this]; simp
  · have e3 : onB m a b = false := by unfold onB; simp [h0]
    rw [e3]
    have g := big_sg t1.1 t1.2 h0
    have g1 : decide (T * detM a b m - detM a b o < 0) = decide (detM a b m < 0) := decide_eq_decide.2 g.1
    have g2 : decide (0 < T * detM a b m - detM a b o) = decide (0 < detM a b m) := decide_eq_decide.2 g.2
    rw [g1, g2]
    simp
end
end Go.Proofs.YtkmapffhfmgfeaaGreat
namespace Go.Proofs.YtkmapffhfmgfeaaGreat
set_option linter.unusedVariables false
set_option linter.unusedSimpArgs false

theorem bounded {α : Type} (f : α → Int) : ∀ l : List α, ∃ K : Int, 0 < K ∧ ∀ x ∈ l, -K < f x ∧ f x < K
  | [] => ⟨1, by decide, fun x hx => by cases hx⟩
  | x :: l => by
    obtain ⟨K, h0, h⟩ := bounded f l
    refine ⟨K + (f x).natAbs, by omega, fun y hy => ?_⟩
    rcases List.mem_cons.1 hy with rfl | hy
    · omega
    · have := h y hy; omega
/-- How often the way from far outside to m crosses the edges, m lying on some of them. -/
theorem way_mid {o m : Pt} {P : List (List Pt)} (ho : 0 < o.d) (hm : 0 < m.d) (hd : ∀ v ∈ P.flatten, 0 < v.d) (hl : ∀ v ∈ P.flatten, 0 < xv o v) (hA : ∀ v ∈ P.flatten, detM o m v ≠ 0) (hne : ∀ e ∈ edgesM P, befB e.1 e.2 = true ∨ befB e.2 e.1 = true) :
    (parB (crossB o m) (edgesM P) ^^ parB (fun a b => onB m a b) (edgesM P)) = (parB (overB m) (edgesM P) ^^ parB (thrB o m) (edgesM P)) := by
  obtain ⟨K1, p1, h1⟩ := bounded (fun v => yv m v) P.flatten
  obtain ⟨K2, p2, h2⟩ := bounded (fun v => yv o v) P.flatten
  obtain ⟨K3, p3, h3⟩ := bounded (fun e : Pt × Pt => yv e.1 e.2) (edgesM P)
  obtain ⟨K, hK⟩ : ∃ K, K = K1 + K2 + K3 := ⟨_, rfl⟩
  obtain ⟨T1, t1, g1⟩ := bounded (fun v => yv (shP K o) (shP K v)) P.flatten
  obtain ⟨T2, t2, g2⟩ := bounded (fun e : Pt × Pt => detM e.1 e.2 o) (edgesM P)
  obtain ⟨T, hT⟩ : ∃ T, T = T1 + T2 + o.d := ⟨_, rfl⟩
  have hT0 : 0 < T := by omega
  have upd : ∀ u v, upB false u v = decide (0 < yv u v) := fun u v => by unfold upB; simp
  have po : ∀ v ∈ P.flatten, 0 < yv (shP K o) (shP K v) ∧ yv (shP K o) (shP K v) < T := fun v hv => by
    have b := h2 v hv
    have u := sh_up (K := K) (q := o) (v := v) (by omega) (by omega)
    rw [upd] at u
    have bf : befB o v = true := by
      cases k : befB o v
      · rw [bef_x] at k; have := hl v hv; omega
      · rfl
    rw [bf] at u
    have g := g1 v hv
    exact ⟨of_decide_eq_true u, by omega⟩
  have km : ∀ v ∈ P.flatten, -K < yv m v ∧ yv m v < K := fun v hv => by have := h1 v hv; omega
  have ke : ∀ e ∈ edgesM P, -K < yv e.1 e.2 ∧ yv e.1 e.2 < K := fun e he => by have := h3 e he; omega
  have te : ∀ e ∈ edgesM P, -T < detM e.1 e.2 o ∧ detM e.1 e.2 o < T := fun e he => by have := g2 e he; omega
  have dp : 0 < (pastP T o m).d := by
    have : T * m.d ≥ T * 1 := Int.mul_le_mul_of_nonneg_left (by omega) (by omega)
    show 0 < T * m.d - o.d
    omega
  have on' : ∀ e ∈ edgesM (shL K P), onB (shP K (pastP T o m)) e.1 e.2 = false := fun e he => by
    rw [sh_edges] at he
    obtain ⟨e', he', rfl⟩ := List.mem_map.1 he
    obtain ⟨m1, m2⟩ := edge_ends he'
    rw [sh_on]
    unfold onB
    have := past_nz ho hm (hd _ m1) (hd _ m2) (km _ m1) (km _ m2) (ke _ he') (hA _ m1) (hA _ m2) (hne _ he') (te _ he')
    simp [this]
  have hd' : ∀ v ∈ (shL K P).flatten, 0 < v.d := fun v hv => by
    obtain ⟨u, hu, rfl⟩ := mem_sh hv
    exact hd u hu
  have p := parity false (o := shP K o) (q := shP K (pastP T o m)) (P := shL K P) ho dp hd'
    (fun v hv => by obtain ⟨u, hu, rfl⟩ := mem_sh hv; rw [sh_xv]; exact hl u hu)
    (fun v hv => by
      obtain ⟨u, hu, rfl⟩ := mem_sh hv
      rw [sh_det, past_way]
      intro e
      rcases Int.mul_eq_zero.1 e with c | c
      · omega
      · exact hA u hu c) on'
  have p2 := left_right false (q := shP K (pastP T o m)) (P := shL K P) dp hd' on'
  rw [← p2, sh_edges, parB_map, parB_map] at p
  have c1 : parB (fun a b => crossB (shP K o) (shP K (pastP T o m)) (shP K a) (shP K b)) (edgesM P) = parB (fun a b => crossB o m a b ^^ onB m a b) (edgesM P) := parB_congr fun e he => by
    obtain ⟨m1, m2⟩ := edge_ends he
    rw [sh_cross]
    exact past_cross ho hm (hd _ m1) (hd _ m2) (km _ m1) (km _ m2) (ke _ he) (hA _ m1) (hA _ m2) (hne _ he) (te _ he)
  have c2 : parB (fun a b => leftB false (shP K (pastP T o m)) (shP K a) (shP K b)) (edgesM P) = parB (fun a b => overB m a b ^^ thrB o m a b) (edgesM P) := parB_congr fun e he => by
    obtain ⟨m1, m2⟩ := edge_ends he
    exact past_left ho hm (hd _ m1) (hd _ m2) (km _ m1) (km _ m2) (ke _ he) (hA _ m1) (hA _ m2) (hne _ he) (te _ he) (po _ m1) (po _ m2)
  rw [c1, c2, parB_xor, parB_xor] at p
  exact p
/-- No edge of the polygon comes across the piece from p to q, and no point lies within it. -/
structure Clear (P : List (List Pt)) (p q : Pt) : Prop where
  pt : ∀ v ∈ P.flatten, befB p v = true → befB v q = true → detM p q v ≠ 0
  ed : ∀ e ∈ edgesM P, crossB p q e.1 e.2 = false
/-- Close to p and half way: the same. -/
theorem along {P : List (List Pt)} {p q : Pt} (hp : 0 < p.d) (hq : 0 < q.d) (hpq : befB p q = true) (hd : ∀ v ∈ P.flatten, 0 < v.d) (hc : Clear P p q) :
    parB (ovL p q) (edgesM P) = parB (overB (midP p q)) (edgesM P) := by
  have h : parB (fun a b => ovL p q a b ^^ overB (midP p q) a b) (edgesM P) = parB (fun a b => gB p q a ^^ gB p q b) (edgesM P) := parB_congr fun e he => by
    obtain ⟨m1, m2⟩ := edge_ends he
    exact strip_edge hp hq (hd _ m1) (hd _ m2) hpq (hc.pt _ m1) (hc.pt _ m2) (hc.ed e he)
  rw [poly_even, parB_xor] at h
  revert h
  cases parB (ovL p q) (edgesM P) <;> cases parB (overB (midP p q)) (edgesM P) <;> simp
end Go.Proofs.YtkmapffhfmgfeaaGreat
namespace Go.Proofs.YtkmapffhfmgfeaaGreat
set_option linter.unusedVariables false
set_option linter.unusedSimpArgs false
set_option linter.unusedSectionVars false

/-- On which side of the edge the piece lies, close to p. -/
def sideOfM (p q a b : Pt) : Int := if sideM a b p ≠ 0 then sideM a b p else sideM a b q
def leftE (p q a b : Pt) : Bool := spanM a b p && decide (sideOfM p q a b < 0)
def rightE (p q a b : Pt) : Bool := spanM a b p && decide (sideOfM p q a b ≤ 0)
def alongE (p q a b : Pt) : Bool := spanM a b p && (decide (detM a b p = 0) && decide (detM a b q = 0))

theorem so_neg (p q a b : Pt) : sideOfM p q a b < 0 ↔ neg2 (sideM a b p) (sideM a b q) := by
  unfold sideOfM neg2; split <;> omega
theorem so_le (p q a b : Pt) : sideOfM p q a b ≤ 0 ↔ (neg2 (sideM a b p) (sideM a b q) ∨ (sideM a b p = 0 ∧ sideM a b q = 0)) := by
  unfold sideOfM neg2; split <;> omega
section
variable {a b p q : Pt} (ha : 0 < a.d) (hb : 0 < b.d) (hp : 0 < p.d)
include ha hb hp
theorem leftE_eq : leftE p q a b = ovL p q a b := by
  unfold leftE ovL
  have ed : decide (sideOfM p q a b < 0) = decide (neg2 (sideM a b p) (sideM a b q)) := decide_eq_decide.2 (so_neg p q a b)
  rw [ed]
  unfold spanM
  rw [cmpB, cmpB]
  unfold sideM
  by_cases h : befB b a = true
  · have h' := bef_asym h
    rw [first_eq, last_eq, if_pos h, if_neg (by rw [h']; decide), det_sw2 a b p, det_sw2 a b q]
    have e : decide (neg2 (-detM a b p) (-detM a b q)) = decide (pos2 (detM a b p) (detM a b q)) := decide_eq_decide.2 (neg2_neg _ _)
    rw [e]
    have m := fun k => bef_lt hb ha hp h (q := p) k
    cases ka : befB p a <;> cases kb : befB p b
    · simp
    · have := m kb; rw [ka] at this; cases this
    · simp
    · simp
  · have h0 : befB b a = false := by simpa using h
    by_cases h2 : befB a b = true
    · rw [first_eq, last_eq, if_neg h, if_pos h2]
      have m := fun k => bef_lt ha hb hp h2 (q := p) k
      cases ka : befB p a <;> cases kb : befB p b
      · simp
      · simp
      · have := m ka; rw [kb] at this; cases this
      · simp
    · have h2' : befB a b = false := by simpa using h2
      rw [first_eq, last_eq, if_neg h, if_neg h2, bef_same_r ha hb hp h2' h0]
      cases befB p b <;> simp
theorem side_zero (x : Pt) (hne : befB a b = true ∨ befB b a = true) : (sideM a b x = 0 ↔ detM a b x = 0) := by
  unfold sideM
  rcases hne with h | h
  · have h' := bef_asym h
    rw [first_eq, last_eq, if_neg (by rw [h']; decide), if_pos h]
  · have h' := bef_asym h
    rw [first_eq, last_eq, if_pos h, if_neg (by rw [h']; decide), det_sw2]; omega
theorem rightE_eq (hne : befB a b = true ∨ befB b a = true) : rightE p q a b = (leftE p q a b ^^ alongE p q a b) := by
  unfold rightE leftE alongE
  have z1 := side_zero ha hb hp p hne
  have z2 := side_zero ha hb hp q hne
  cases spanM a b p
  · rfl
  · simp only [Bool.true_and]
    have l := so_le p q a b
    have n := so_neg p q a b
    have e1 : decide (sideOfM p q a b ≤ 0) = decide (neg2 (sideM a b p) (sideM a b q) ∨ (sideM a b p = 0 ∧ sideM a b q = 0)) := decide_eq_decide.2 l
    have e2 : decide (sideOfM p q a b < 0) = decide (neg2 (sideM a b p) (sideM a b q)) := decide_eq_decide.2 n
    have e3 : decide (detM a b p = 0) = decide (sideM a b p = 0) := decide_eq_decide.2 z1.symm
    have e4 : decide (detM a b q = 0) = decide (sideM a b q = 0) := decide_eq_decide.2 z2.symm
    rw [e1, e2, e3, e4]
    by_cases c1 : sideM a b p = 0 <;> by_cases c2 : sideM a b q = 0 <;> by_cases c3 : neg2 (sideM a b p) (sideM a b q)
    all_goals simp only [c1, c2, c3, decide_true, decide_false, Bool.and_true, Bool.and_false, Bool.true_and, Bool.false_and, or_true, or_false, true_or, false_or, and_true, and_false, true_and, false_and, not_true, not_false_iff, Bool.xor_false, Bool.xor_true, Bool.not_true, Bool.not_false]
    all_goals first
      | rfl
      | (exfalso; unfold neg2 at c3; omega)
      | simp
theorem span_bef (hne : befB a b = true ∨ befB b a = true) : spanM a b p = ((!befB p a && befB p b) || (befB p a && !befB p b)) := by
  unfold spanM
  rw [cmpB, cmpB]
  rcases hne with h | h
  · have h' := bef_asym h
    rw [first_eq, last_eq, if_neg (by rw [h']; decide), if_pos h]
    have m := fun k => bef_lt ha hb hp h (q := p) k
    cases ka : befB p a <;> cases kb : befB p b
    · rfl
    · rfl
    · have := m ka; rw [kb] at this; cases this
    · rfl
  · have h' := bef_asym h
    rw [first_eq, last_eq, if_pos h, if_neg (by rw [h']; decide)]
    have m := fun k => bef_lt hb ha hp h (q := p) k
    cases ka : befB p a <;> cases kb : befB p b
    · rfl
    · have := m kb; rw [ka] at this; cases this
    · rfl
    · rfl
end

theorem bef_pm {p q : Pt} (hp : 0 < p.d) (hq : 0 < q.d) (h : befB p q = true) : befB p (midP p q) = true ∧ befB (midP p q) q = true := by
  have z1 : xv p (midP p q) = p.d * xv p q := by unfold xv midP; grind
  have z2 : yv p (midP p q) = p.d * yv p q := by unfold yv midP; grind
  have z3 : xv (midP p q) q = q.d * xv p q := by unfold xv midP; grind
  have z4 : yv (midP p q) q = q.d * yv p q := by unfold yv midP; grind
  have key : ∀ u v : Pt, befB u v = true ↔ (0 < xv u v ∨ (xv u v = 0 ∧ 0 < yv u v)) := fun u v => by rw [bef_iff]; unfold xv yv; omega
  rw [key] at h
  rw [key, key, z1, z2, z3, z4]
  rcases h with h | ⟨h1, h2⟩
  · exact ⟨.inl (mul_pp hp h), .inl (mul_pp hq h)⟩
  · rw [h1, Int.mul_zero, Int.mul_zero]
    exact ⟨.inr ⟨rfl, mul_pp hp h2⟩, .inr ⟨rfl, mul_pp hq h2⟩⟩
theorem mid_pos {p q : Pt} (hp : 0 < p.d) (hq : 0 < q.d) : 0 < (midP p q).d := by
  have := mul_pp hp hq
  show 0 < 2 * p.d * q.d
  rw [Int.mul_assoc]; omega

/-- The lines are one. -/
theorem col_of {p q a b : Pt} {K : Int} (hp : 0 < p.d) (hY : yv (shP K p) (shP K q) ≠ 0) (hd : yv (shP K a) (shP K b) ≠ 0) (h1 : detM a b p = 0) (h2 : detM a b q = 0) : detM p q a = 0 ∧ detM p q b = 0 := by
  have e1 := plk2 (p := shP K a) (q := shP K b) (a := shP K p) (b := shP K q) (shP K a) (by rw [sh_det]; exact h1) (by rw [sh_det]; exact h2)
  have e2 := plk2 (p := shP K a) (q := shP K b) (a := shP K p) (b := shP K q) (shP K b) (by rw [sh_det]; exact h1) (by rw [sh_det]; exact h2)
  rw [sh_det, sh_det] at e1 e2
  have z1 : detM a b a = 0 := by unfold detM; grind
  have z2 : detM a b b = 0 := by unfold detM; grind
  rw [z1, Int.mul_zero] at e1
  rw [z2, Int.mul_zero] at e2
  constructor
  · rcases Int.mul_eq_zero.1 e1 with c | c
    · exact absurd c hd
    · exact c
  · rcases Int.mul_eq_zero.1 e2 with c | c
    · exact absurd c hd
    · exact c
section
variable {p q a b : Pt} (hp : 0 < p.d) (hq : 0 < q.d) (ha : 0 < a.d) (hb : 0 < b.d) (hpq : befB p q = true) (hne : befB a b = true ∨ befB b a = true)
  (fa : befB p a = true → befB a q = true → detM p q a ≠ 0) (fb : befB p b = true → befB b q = true → detM p q b ≠ 0) (hx : crossB p q a b = false)
include hp hq ha hb hpq hne fa fb hx
/-- An edge through the piece's middle lies along the piece, over its whole length. -/
theorem mid_along (hon : onB (midP p q) a b = true) : (detM p q a = 0 ∧ detM p q b = 0) ∧ (detM a b p = 0 ∧ detM a b q = 0) ∧ ((befB p a = false ∧ befB b q = false) ∨ (befB p b = false ∧ befB a q = false)) := by
  have hm := mid_pos hp hq
  obtain ⟨pm, mq⟩ := bef_pm hp hq hpq
  obtain ⟨K, k1, k2, k3, k4, k5, k6, k7⟩ := bnd7 (yv p a) (yv p b) (yv p q) (yv a b) (yv q b) (yv (midP p q) a) (yv (midP p q) b)
  have sw : ∀ u v, yv u v = -yv v u := fun u v => by unfold yv; grind
  have upd : ∀ u v, upB false u v = decide (0 < yv u v) := fun u v => by unfold upB; simp
  have u3 := sh_up k3.1 k3.2
  have u6 := sh_up k6.1 k6.2
  have u7 := sh_up k7.1 k7.2
  have v6 := sh_up (K := K) (q := a) (v := midP p q) (by have := sw a (midP p q); omega) (by have := sw a (midP p q); omega)
  have v7 := sh_up (K := K) (q := b) (v := midP p q) (by have := sw b (midP p q); omega) (by have := sw b (midP p q); omega)
  rw [upd] at u3 u6 u7 v6 v7
  rw [sw (shP K a)] at v6
  rw [sw (shP K b)] at v7
  have hY : 0 < yv (shP K p) (shP K q) := by rw [hpq] at u3; exact of_decide_eq_true u3
  have hd : yv (shP K a) (shP K b) ≠ 0 := by
    intro e
    have e' := sw (shP K a) (shP K b)
    have w1 := sh_up k4.1 k4.2
    have w2 := sh_up (K := K) (q := b) (v := a) (by have := sw b a; omega) (by have := sw b a; omega)
    rw [upd] at w1 w2
    rcases hne with h | h
    · rw [h] at w1; have := of_decide_eq_true w1; omega
    · rw [h] at w2; have := of_decide_eq_true w2; omega
  have I1 := id1 (shP K q) (shP K p) (shP K a) (shP K b)
  have I2 := id2 (shP K q) (shP K p) (shP K a) (shP K b)
  rw [sh_det, sh_det, sh_det, det_sw p q a, det_sw p q b] at I1 I2
  have M1 := mid_yv (shP K p) (shP K q) (shP K a)
  have M2 := mid_yv (shP K p) (shP K q) (shP K b)
  rw [← sh_mid] at M1 M2
  have mix := mid_det a b p q
  have hmu : detM a b (midP p q) = 0 := by unfold onB at hon; simp at hon; exact hon.1
  have hw : withB (midP p q) a b = true := by unfold onB at hon; simp at hon; exact hon.2
  have J : (shP K (midP p q)).d * yv (shP K a) (shP K b) = (shP K a).d * yv (shP K (midP p q)) (shP K b) - (shP K b).d * yv (shP K (midP p q)) (shP K a) := by unfold yv; grind
  -- heights: one not above, the other not below
  have lt : (yv (shP K (midP p q)) (shP K a) ≤ 0 ∧ 0 ≤ yv (shP K (midP p q)) (shP K b) ∧ befB (midP p q) a = false ∧ befB b (midP p q) = false) ∨ (0 ≤ yv (shP K (midP p q)) (shP K a) ∧ yv (shP K (midP p q)) (shP K b) ≤ 0 ∧ befB (midP p q) b = false ∧ befB a (midP p q) = false) := by
    unfold withB loM hiM at hw
    by_cases c : befB b a = true
    · simp only [if_pos c, Bool.and_eq_true, Bool.not_eq_true'] at hw
      refine .inr ⟨?_, ?_, hw.1, hw.2⟩
      · rw [hw.2] at v6; have := of_decide_eq_false v6; omega
      · rw [hw.1] at u7; have := of_decide_eq_false u7; omega
    · simp only [if_neg c, Bool.and_eq_true, Bool.not_eq_true'] at hw
      refine .inl ⟨?_, ?_, hw.1, hw.2⟩
      · rw [hw.1] at u6; have := of_decide_eq_false u6; omega
      · rw [hw.2] at v7; have := of_decide_eq_false v7; omega
  have hxx : NoX (detM p q a) (detM p q b) (detM a b p) (detM a b q) := by
    unfold NoX
    intro h
    have : crossB p q a b = true := by
      unfold crossB apartB
      simp only [Bool.and_eq_true, Bool.or_eq_true, decide_eq_true_eq]
      omega
    rw [hx] at this; cases this
  -- at the middle itself there is no point
  have pa : yv (shP K (midP p q)) (shP K a) = 0 → detM p q a ≠ 0 := fun e => by
    have b1 : befB (midP p q) a = false := by rw [← u6, e]; rfl
    have b2 : befB a (midP p q) = false := by rw [← v6, e]; rfl
    exact fa (bef_le hp hm ha pm b2) (le_bef ha hm hq b1 mq)
  have pb : yv (shP K (midP p q)) (shP K b) = 0 → detM p q b ≠ 0 := fun e => by
    have b1 : befB (midP p q) b = false := by rw [← u7, e]; rfl
    have b2 : befB b (midP p q) = false := by rw [← v7, e]; rfl
    exact fb (bef_le hp hm hb pm b2) (le_bef hb hm hq b1 mq)
  have hmu2 : yv (shP K p) (shP K q) * detM a b (midP p q) = detM p q b * yv (shP K (midP p q)) (shP K a) - detM p q a * yv (shP K (midP p q)) (shP K b) := by
    have ep : (shP K p).d = p.d := rfl
    have eq : (shP K q).d = q.d := rfl
    rw [mix, M1, M2, ep, eq]
    have e : yv (shP K p) (shP K q) * (q.d * detM a b p + p.d * detM a b q) = q.d * (yv (shP K p) (shP K q) * detM a b p) + p.d * (yv (shP K p) (shP K q) * detM a b q) := by grind
    rw [e, I1, I2]; grind
  rw [hmu, Int.mul_zero] at hmu2
  -- both ends lie on the piece's line
  have hAB : detM p q a = 0 ∧ detM p q b = 0 := by
    have nap : ¬ ((detM a b p < 0 ∧ 0 < detM a b q) ∨ (0 < detM a b p ∧ detM a b q < 0)) → detM a b p = 0 ∧ detM a b q = 0 := fun h => by
      have mx := mix_sg mix hq hp
      rw [hmu] at mx
      rcases Int.lt_trichotomy (detM a b p) 0 with c | c | c
      · have := mx.1 c; omega
      · rcases Int.lt_trichotomy (detM a b q) 0 with d | d | d
        · have := mx.2.1 c d; omega
        · exact ⟨c, d⟩
        · have := mx.2.2.2.1 c d; omega
      · have := mx.2.2.1 c; omega
    by_cases hap : (detM a b p < 0 ∧ 0 < detM a b q) ∨ (0 < detM a b p ∧ detM a b q < 0)
    · have k : (0 ≤ detM p q a ∧ 0 ≤ detM p q b) ∨ (detM p q a ≤ 0 ∧ detM p q b ≤ 0) := by unfold NoX at hxx; omega
      generalize yv (shP K (midP p q)) (shP K a) = am at *
      generalize yv (shP K (midP p q)) (shP K b) = bm at *
      have both : detM p q b * am = 0 ∧ detM p q a * bm = 0 := by
        rcases lt with ⟨l1, l2, _⟩ | ⟨l1, l2, _⟩ <;> rcases k with ⟨k1, k2⟩ | ⟨k1, k2⟩
        · have := mul_gl k2 l1; have := mul_gg k1 l2; omega
        · have := mul_ll k2 l1; have := mul_lg k1 l2; omega
        · have := mul_gg k2 l1; have := mul_gl k1 l2; omega
        · have := mul_lg k2 l1; have := mul_ll k1 l2; omega
      rcases Int.mul_eq_zero.1 both.1 with c | c
      · rcases Int.mul_eq_zero.1 both.2 with d | d
        · exact ⟨d, c⟩
        · exact absurd c (pb d)
      · rcases Int.mul_eq_zero.1 both.2 with d | d
        · exact absurd d (pa c)
        · exfalso
          rw [c, d, Int.mul_zero, Int.mul_zero, Int.sub_zero] at J
          rcases Int.mul_eq_zero.1 J with z | z
          · have : (shP K (midP p q)).d = (midP p q).d := rfl
            omega
          · exact hd z
    · obtain ⟨z1, z2⟩ := nap hap
      exact col_of hp (by omega) hd z1 z2
  have hal : detM a b p = 0 ∧ detM a b q = 0 := by
    rw [hAB.1, hAB.2] at I1 I2
    simp only [Int.neg_zero, Int.zero_mul, Int.sub_zero] at I1 I2
    constructor
    · rcases Int.mul_eq_zero.1 I1 with c | c
      · omega
      · exact c
    · rcases Int.mul_eq_zero.1 I2 with c | c
      · omega
      · exact c
  refine ⟨hAB, hal, ?_⟩
  -- no end lies within the piece
  have na : ¬ (befB p a = true ∧ befB a q = true) := fun h => fa h.1 h.2 hAB.1
  have nb : ¬ (befB p b = true ∧ befB b q = true) := fun h => fb h.1 h.2 hAB.2
  rcases lt with ⟨_, _, l3, l4⟩ | ⟨_, _, l3, l4⟩
  · refine .inl ⟨?_, ?_⟩
    · cases k : befB p a
      · rfl
      · exact absurd ⟨k, le_bef ha hm hq l3 mq⟩ na
    · cases k : befB b q
      · rfl
      · exact absurd ⟨bef_le hp hm hb pm l4, k⟩ nb
  · refine .inr ⟨?_, ?_⟩
    · cases k : befB p b
      · rfl
      · exact absurd ⟨k, le_bef hb hm hq l3 mq⟩ nb
    · cases k : befB a q
      · rfl
      · exact absurd ⟨bef_le hp hm ha pm l4, k⟩ na
theorem along_mid : alongE p q a b = onB (midP p q) a b := by
  have hm := mid_pos hp hq
  obtain ⟨pm, mq⟩ := bef_pm hp hq hpq
  cases hon : onB (midP p q) a b
  · cases hal : alongE p q a b
    · rfl
    · exfalso
      unfold alongE at hal
      simp only [Bool.and_eq_true, decide_eq_true_eq] at hal
      obtain ⟨hs, z1, z2⟩ := hal
      rw [span_bef ha hb hp hne] at hs
      have zm : detM a b (midP p q) = 0 := by rw [mid_det, z1, z2]; simp
      -- both ends lie on the piece's line
      obtain ⟨K, k1, k2, k3, k4, k5, k6, k7⟩ := bnd7 (yv p a) (yv p b) (yv p q) (yv a b) (yv q b) (yv (midP p q) a) (yv (midP p q) b)
      have sw : ∀ u v, yv u v = -yv v u := fun u v => by unfold yv; grind
      have upd : ∀ u v, upB false u v = decide (0 < yv u v) := fun u v => by unfold upB; simp
      have u3 := sh_up k3.1 k3.2
      rw [upd] at u3
      have hY : 0 < yv (shP K p) (shP K q) := by rw [hpq] at u3; exact of_decide_eq_true u3
      have hd : yv (shP K a) (shP K b) ≠ 0 := by
        intro e
        have e' := sw (shP K a) (shP K b)
        have w1 := sh_up k4.1 k4.2
        have w2 := sh_up (K := K) (q := b) (v := a) (by have := sw b a; omega) (by have := sw b a; omega)
        rw [upd] at w1 w2
        rcases hne with h | h
        · rw [h] at w1; have := of_decide_eq_true w1; omega
        · rw [h] at w2; have := of_decide_eq_true w2; omega
      obtain ⟨A0, B0⟩ := col_of hp (by omega) hd z1 z2
      have na : ¬ (befB p a = true ∧ befB a q = true) := fun h => fa h.1 h.2 A0
      have nb : ¬ (befB p b = true ∧ befB b q = true) := fun h => fb h.1 h.2 B0
      simp only [Bool.or_eq_true, Bool.and_eq_true, Bool.not_eq_true'] at hs
      have : withB (midP p q) a b = true := by
        rcases hs with ⟨h1, h2⟩ | ⟨h1, h2⟩
        · have hbq : befB b q = false := by
            cases k : befB b q
            · rfl
            · exact absurd ⟨h2, k⟩ nb
          refine with_ab hm ha hb ?_ ?_
          · cases k : befB (midP p q) a
            · rfl
            · have := bef_lt hm ha hp k (q := p) pm; rw [h1] at this; cases this
          · exact bef_asym (bef_le hm hq hb mq hbq)
        · have haq : befB a q = false := by
            cases k : befB a q
            · rfl
            · exact absurd ⟨h1, k⟩ na
          refine with_ba hm ha hb ?_ ?_
          · cases k : befB (midP p q) b
            · rfl
            · have := bef_lt hm hb hp k (q := p) pm; rw [h2] at this; cases this
          · exact bef_asym (bef_le hm hq ha mq haq)
      unfold onB at hon
      rw [zm, this] at hon
      simp at hon
  · obtain ⟨_, ⟨z1, z2⟩, h⟩ := mid_along hp hq ha hb hpq hne fa fb hx hon
    unfold alongE
    rw [span_bef ha hb hp hne, z1, z2]
    rcases h with ⟨h1, h2⟩ | ⟨h1, h2⟩
    · have : befB p b = true := bef_le hp hq hb hpq h2
      rw [h1, this]; rfl
    · have : befB p a = true := bef_le hp hq ha hpq h2
      rw [h1, this]; rfl
/-- The way past it: on the side that o is on. -/
theorem thr_mid (o : Pt) : thrB o (midP p q) a b = (onB (midP p q) a b && decide (0 < detM p q o)) := by
  unfold thrB
  cases hon : onB (midP p q) a b
  · rfl
  · simp only [Bool.true_and]
    obtain ⟨⟨A0, B0⟩, _, _⟩ := mid_along hp hq ha hb hpq hne fa fb hx hon
    obtain ⟨K, k1, k2, k3, k4, k5, k6, k7⟩ := bnd7 (yv p a) (yv p b) (yv p q) (yv a b) (yv q b) (yv (midP p q) a) (yv (midP p q) b)
    have sw : ∀ u v, yv u v = -yv v u := fun u v => by unfold yv; grind
    have upd : ∀ u v, upB false u v = decide (0 < yv u v) := fun u v => by unfold upB; simp
    have u3 := sh_up k3.1 k3.2
    rw [upd] at u3
    have hY : 0 < yv (shP K p) (shP K q) := by rw [hpq] at u3; exact of_decide_eq_true u3
    have e' := sw (shP K a) (shP K b)
    have w1 := sh_up k4.1 k4.2
    have w2 := sh_up (K := K) (q := b) (v := a) (by have := sw b a; omega) (by have := sw b a; omega)
    rw [upd] at w1 w2
    have pl := plk2 (p := shP K p) (q := shP K q) (a := shP K a) (b := shP K b) (shP K o) (by rw [sh_det]; exact A0) (by rw [sh_det]; exact B0)
    rw [sh_det, sh_det] at pl
    generalize yv (shP K p) (shP K q) = Y at *
    generalize detM a b o = om at *
    generalize detM p q o = tu at *
    rcases hne with h | h
    · have h' := bef_asym h
      rw [h] at w1
      have d := of_decide_eq_true w1
      rw [h, h']
      generalize yv (shP K a) (shP K b) = D at *
      have : (0 < om ↔ 0 < tu) := by
        constructor
        · intro x
          have := mul_pp hY x
          rcases Int.lt_or_le 0 tu with c | c
          · exact c
          · have := mul_gl (Int.le_of_lt d) c; omega
        · intro x
          have := mul_pp d x
          rcases Int.lt_or_le 0 om with c | c
          · exact c
          · have := mul_gl (Int.le_of_lt hY) c; omega
      have e : decide (0 < om) = decide (0 < tu) := decide_eq_decide.2 this
      rw [e]; simp
    · have h' := bef_asym h
      rw [h] at w2
      have d := of_decide_eq_true w2
      rw [h, h']
      have d' : yv (shP K a) (shP K b) < 0 := by omega
      generalize yv (shP K a) (shP K b) = D at *
      have : (om < 0 ↔ 0 < tu) := by
        constructor
        · intro x
          have := mul_pn hY x
          rcases Int.lt_or_le 0 tu with c | c
          · exact c
          · have := mul_ll (Int.le_of_lt d') c; omega
        · intro x
          have := mul_np d' x
          rcases Int.lt_or_le om 0 with c | c
          · exact c
          · have := mul_gg (Int.le_of_lt hY) c; omega
      have e : decide (om < 0) = decide (0 < tu) := decide_eq_decide.2 this
      rw [e]; simp
end
end Go.Proofs.YtkmapffhfmgfeaaGreat
namespace Go.Proofs.YtkmapffhfmgfeaaGreat
set_option linter.unusedVariables false
set_option linter.unusedSimpArgs false
set_option linter.unusedSectionVars false

theorem bar_one' {q v : Pt} (hd : 0 < q.d) (hqx : ∀ k : Nat, xv q (outP k) < 0) (hne : ¬ (xv q v = 0 ∧ yv q v = 0)) (i j : Nat) (h1 : detM (outP i) q v = 0) (h2 : detM (outP j) q v = 0) : i = j := by
  by_cases hx : xv q v = 0
  · exfalso
    have e := id5 (outP i) q v
    rw [h1, hx, Int.mul_zero, Int.mul_zero, Int.zero_sub] at e
    have o := hqx i
    have z : xv q (outP i) * yv q v = 0 := by omega
    rcases Int.mul_eq_zero.1 z with c | c
    · omega
    · exact hne ⟨hx, c⟩
  · rw [det_out] at h1 h2
    have z : ((i : Int) - j) * xv q v = 0 := by rw [Int.sub_mul]; omega
    rcases Int.mul_eq_zero.1 z with c | c
    · omega
    · exact absurd c hx
theorem bar_edge' {p r : Pt} (hd : 0 < p.d) (hpx : ∀ k : Nat, xv p (outP k) < 0) (hne : ¬ (xv p r = 0 ∧ yv p r = 0)) (i j : Nat) (h1 : detM p r (outP i) = 0) (h2 : detM p r (outP j) = 0) : i = j := by
  have cy : ∀ o : Pt, detM p r o = detM o p r := fun o => by unfold detM; grind
  rw [cy] at h1 h2
  exact bar_one' hd hpx hne i j h1 h2
theorem far_free' {q : Pt} {l : List Pt} {p r : Pt} (hd : 0 < q.d) (hqx : ∀ k : Nat, xv q (outP k) < 0) (hne : ∀ v ∈ l, ¬ (xv q v = 0 ∧ yv q v = 0)) (hpd : 0 < p.d) (hpx : ∀ k : Nat, xv p (outP k) < 0) (hpr : ¬ (xv p r = 0 ∧ yv p r = 0)) :
    ∃ k, k ≤ l.length + 1 ∧ farM q l p r = outP k ∧ (∀ v ∈ l, detM (outP k) q v ≠ 0) ∧ detM p r (outP k) ≠ 0 := by
  obtain ⟨k, hk, hf⟩ := pigeon ((fun k => decide (detM p r (outP k) = 0)) :: l.map (fun v k => decide (detM (outP k) q v = 0))) (List.range (l.length + 2)) List.nodup_range (by
    intro b hb i j h1 h2
    rcases List.mem_cons.1 hb with rfl | hb
    · exact bar_edge' hpd hpx hpr i j (of_decide_eq_true h1) (of_decide_eq_true h2)
    · obtain ⟨v, hv', rfl⟩ := List.mem_map.1 hb
      exact bar_one' hd hqx (hne v hv') i j (of_decide_eq_true h1) (of_decide_eq_true h2)) (by simp)
  have hk' : k < l.length + 2 := by simpa using hk
  have fr : freeB q l p r k = true := by
    unfold freeB
    rw [Bool.and_eq_true, List.all_eq_true]
    refine ⟨fun v hv' => ?_, ?_⟩
    · have := hf _ (List.mem_cons_of_mem _ (List.mem_map.2 ⟨v, hv', rfl⟩))
      exact decide_eq_true (of_decide_eq_false this)
    · have := hf _ (List.mem_cons_self ..)
      exact decide_eq_true (of_decide_eq_false this)
  have free2 : ∀ n k, (∃ j, k ≤ j ∧ j < k + n ∧ freeB q l p r j = true) → ∃ j, j < k + n ∧ freeB q l p r j = true ∧ farL (freeB q l p r) n k = outP j := by
    intro n
    induction n with
    | zero => intro k ⟨j, h1, h2, _⟩; omega
    | succ n ih =>
      intro k ⟨j, h1, h2, h3⟩
      unfold farL
      cases hk : freeB q l p r k
      · rw [if_neg (by decide)]
        have : j ≠ k := fun e => by rw [e, hk] at h3; cases h3
        obtain ⟨j', a1, a2, a3⟩ := ih (k + 1) ⟨j, by omega, by omega, h3⟩
        exact ⟨j', by omega, a2, a3⟩
      · exact ⟨k, by omega, hk, rfl⟩
  obtain ⟨j, hj0, hj, e⟩ := free2 (l.length + 2) 0 ⟨k, Nat.zero_le _, by omega, fr⟩
  refine ⟨j, by omega, e, ?_⟩
  unfold freeB at hj
  rw [Bool.and_eq_true, List.all_eq_true] at hj
  exact ⟨fun v hv' => of_decide_eq_true (hj.1 v hv'), of_decide_eq_true hj.2⟩

theorem par_any {f : Pt → Pt → Bool} : ∀ {E : List (Pt × Pt)}, (∀ i j, i < j → j < E.length → ¬ (f (E.getD i (zP, zP)).1 (E.getD i (zP, zP)).2 = true ∧ f (E.getD j (zP, zP)).1 (E.getD j (zP, zP)).2 = true)) → parB f E = E.any (fun e => f e.1 e.2)
  | [], _ => rfl
  | e :: E, h => by
    have ih := par_any (f := f) (E := E) (fun i j h1 h2 => by
      have := h (i + 1) (j + 1) (by omega) (by simp; omega)
      simpa using this)
    have ep : parB f (e :: E) = (f e.1 e.2 ^^ parB f E) := rfl
    rw [ep, List.any_cons, ih]
    cases hf : f e.1 e.2
    · simp
    · have : E.any (fun e => f e.1 e.2) = false := by
        rw [← Bool.not_eq_true, List.any_eq_true]
        rintro ⟨x, hx, hfx⟩
        obtain ⟨j, hj, rfl⟩ := List.mem_iff_getElem.1 hx
        refine h 0 (j + 1) (by omega) (by simp; omega) ⟨by simpa using hf, ?_⟩
        simp only [List.getD_cons_succ]
        rw [List.getD_eq_getElem?_getD, List.getElem?_eq_getElem hj]
        exact hfx
      rw [this]; rfl

theorem cross_det {a b c : Pt} (ha : a.d = 1) (hb : b.d = 1) (hc : c.d = 1) : crossM (b.x - a.x) (b.y - a.y) (c.x - a.x) (c.y - a.y) = detM a b c := by
  unfold crossM detM; rw [ha, hb, hc]; grind
theorem cross_det2 {a b c d : Pt} (ha : a.d = 1) (hb : b.d = 1) (hc : c.d = 1) (hd : d.d = 1) : crossM (b.x - a.x) (b.y - a.y) (d.x - c.x) (d.y - c.y) = detM a b d - detM a b c := by
  unfold crossM detM; rw [ha, hb, hc, hd]; grind
/-- It covers the piece. -/
def Covers (p q a b : Pt) : Prop := (detM p q a = 0 ∧ detM p q b = 0) ∧ ((befB p a = false ∧ befB b q = false) ∨ (befB p b = false ∧ befB a q = false))
theorem cover_fl {p q a b : Pt} (hp : 0 < p.d) (hq : 0 < q.d) (ha : 0 < a.d) (hb : 0 < b.d) (hpq : befB p q = true) (h : Covers p q a b) : befB p (firstM a b) = false ∧ befB (lastM a b) q = false := by
  rcases h.2 with ⟨h1, h2⟩ | ⟨h1, h2⟩
  · have aq := le_bef ha hp hq h1 hpq
    have ab := bef_le ha hq hb aq h2
    have ba := bef_asym ab
    rw [first_eq, last_eq, if_neg (by rw [ba]; decide), if_pos ab]
    exact ⟨h1, h2⟩
  · have bq := le_bef hb hp hq h1 hpq
    have ba := bef_le hb hq ha bq h2
    have ab := bef_asym ba
    rw [first_eq, last_eq, if_pos ba, if_neg (by rw [ab]; decide)]
    exact ⟨h1, h2⟩
theorem two_along {p q a b c d : Pt} (hp : 0 < p.d) (hq : 0 < q.d) (ha : a.d = 1) (hb : b.d = 1) (hc : c.d = 1) (hd : d.d = 1) (hpq : befB p q = true) (h1 : Covers p q a b) (h2 : Covers p q c d) : (meetM a b c d).k = 2 := by
  obtain ⟨f1, l1⟩ := cover_fl hp hq (by omega) (by omega) hpq h1
  obtain ⟨f2, l2⟩ := cover_fl hp hq (by omega) (by omega) hpq h2
  obtain ⟨K, k1, k2, k3, k4, k5, k6, k7⟩ := bnd7 (yv p a) (yv p b) (yv p q) (yv a b) (yv q b) (yv p c) (yv p d)
  have upd : ∀ u v, upB false u v = decide (0 < yv u v) := fun u v => by unfold upB; simp
  have u3 := sh_up k3.1 k3.2
  rw [upd] at u3
  have hY : 0 < yv (shP K p) (shP K q) := by rw [hpq] at u3; exact of_decide_eq_true u3
  have col : ∀ x, detM p q x = 0 → detM a b x = 0 := fun x hx => by
    have pl := plk2 (p := shP K p) (q := shP K q) (a := shP K a) (b := shP K b) (shP K x) (by rw [sh_det]; exact h1.1.1) (by rw [sh_det]; exact h1.1.2)
    rw [sh_det, sh_det, hx, Int.mul_zero] at pl
    rcases Int.mul_eq_zero.1 pl with c | c
    · omega
    · exact c
  have z1 := col c h2.1.1
  have z2 := col d h2.1.2
  unfold meetM
  rw [cross_det2 ha hb hc hd, z1, z2, if_pos (by decide)]
  unfold parM
  rw [cross_det ha hb hc, z1, if_neg (by simp)]
  unfold lineM
  have hf : befB p (lastM (firstM a b) (firstM c d)) = false := by unfold lastM; split <;> assumption
  have hl : befB (firstM (lastM a b) (lastM c d)) q = false := by unfold firstM; split <;> assumption
  have df : 0 < (lastM (firstM a b) (firstM c d)).d := by
    unfold lastM firstM; repeat' split
    all_goals omega
  have dl : 0 < (firstM (lastM a b) (lastM c d)).d := by
    unfold lastM firstM; repeat' split
    all_goals omega
  have key : befB (lastM (firstM a b) (firstM c d)) (firstM (lastM a b) (lastM c d)) = true := bef_le df hq dl (le_bef df hp hq hf hpq) hl
  rw [← cmpB] at key
  have k := of_decide_eq_true key
  simp only
  rw [if_neg (by omega), if_neg (by omega)]

/-- A polygon that Check has nothing against, as far as is needed. -/
structure Sound (P : List (List Pt)) : Prop where
  gr : ∀ v ∈ P.flatten, Gr v
  ne : ∀ e ∈ edgesM P, befB e.1 e.2 = true ∨ befB e.2 e.1 = true
  no : ∀ i j, i < j → j < (edgesM P).length → alongB ((edgesM P).getD j (zP, zP)) ((edgesM P).getD i (zP, zP)) = false

/-- The document's sides. -/
def rsidesM (p q : Pt) (E : List (Pt × Pt)) (all : List Pt) : Bool × Bool :=
  let o := farM (midP p q) all p q
  let near := decide (nCross o (midP p q) E % 2 = 1)
  let beyond := if E.any (fun e => onB (midP p q) e.1 e.2) = true then !near else near
  if 0 < detM p q o then (near, beyond) else (beyond, near)
theorem out_x {v : Pt} (hv : goodB v = true) (k : Nat) : xv v (outP k) < 0 := (out_xv k hv).2
/-- The sides, as the program tells them, are the document's. -/
theorem sides_eq {P : List (List Pt)} {p q : Pt} {all : List Pt} (hS : Sound P) (hp : goodB p = true) (hq : goodB q = true) (hpq : befB p q = true) (hc : Clear P p q)
    (hall : ∀ v ∈ P.flatten, v ∈ all) (hcl : ∀ v ∈ all, befB p v = true → befB v q = true → detM p q v ≠ 0) (had : ∀ v ∈ all, 0 < v.d) :
    (parB (leftE p q) (edgesM P), parB (rightE p q) (edgesM P)) = rsidesM p q (edgesM P) all := by
  have pd : 0 < p.d := by have := of_decide_eq_true hp; omega
  have qd : 0 < q.d := by have := of_decide_eq_true hq; omega
  have hm := mid_pos pd qd
  obtain ⟨pm, mq⟩ := bef_pm pd qd hpq
  have hd : ∀ v ∈ P.flatten, 0 < v.d := fun v hv => by have := (hS.gr v hv).d; omega
  have hxm : ∀ k : Nat, xv (midP p q) (outP k) < 0 := fun k => by
    rw [mid_xv]
    have := mul_pn qd (out_x hp k); have := mul_pn pd (out_x hq k); omega
  have hpr : ¬ (xv p q = 0 ∧ yv p q = 0) := fun ⟨h1, h2⟩ => by
    rw [bef_iff] at hpq; unfold xv yv at *; omega
  have hne : ∀ v ∈ all, ¬ (xv (midP p q) v = 0 ∧ yv (midP p q) v = 0) := fun v hv ⟨h1, h2⟩ => by
    have b1 : befB (midP p q) v = false := by rw [bef_x]; omega
    have b2 : befB v (midP p q) = false := by rw [bef_x']; omega
    refine hcl v hv (bef_le pd hm (had v hv) pm b2) (le_bef (had v hv) hm qd b1 mq) ?_
    -- v is the middle, and that lies on the line
    have z : detM p q (midP p q) = 0 := by rw [mid_det]; unfold detM; grind
    have e : (midP p q).d * detM p q v = v.d * detM p q (midP p q) + xv (midP p q) v * (-yv p q) + yv (midP p q) v * xv p q := by unfold xv yv detM; grind
    rw [z, h1, h2] at e
    simp only [Int.mul_zero, Int.zero_mul, Int.add_zero] at e
    rcases Int.mul_eq_zero.1 e with c | c
    · omega
    · exact c
  obtain ⟨k, _, hk, hA, hT⟩ := far_free' (l := all) hm hxm hne pd (out_x hp) hpr
  have hgood : ∀ v, Gr v → goodB v = true := fun v hv => by
    have h1 := hv.x; have h2 := hv.y; have h3 := hv.d
    unfold In at h1 h2
    unfold goodB; rw [h3]; exact decide_eq_true (by omega)
  have way := way_mid (o := outP k) (m := midP p q) (P := P) (by simp [outP]) hm hd (fun v hv => (out_xv k (hgood v (hS.gr v hv))).1) (fun v hv => hA v (hall v hv)) hS.ne
  have eth : parB (thrB (outP k) (midP p q)) (edgesM P) = (parB (fun a b => onB (midP p q) a b) (edgesM P) && decide (0 < detM p q (outP k))) := by
    have e : parB (thrB (outP k) (midP p q)) (edgesM P) = parB (fun a b => onB (midP p q) a b && decide (0 < detM p q (outP k))) (edgesM P) := parB_congr fun e he => by
      obtain ⟨m1, m2⟩ := edge_ends he
      exact thr_mid pd qd (hd _ m1) (hd _ m2) hpq (hS.ne e he) (hc.pt _ m1) (hc.pt _ m2) (hc.ed e he) _
    rw [e]
    cases decide (0 < detM p q (outP k))
    · rw [Bool.and_false]
      have : ∀ l : List (Pt × Pt), parB (fun a b => onB (midP p q) a b && false) l = false := fun l => by
        induction l with
        | nil => rfl
        | cons x l ih => show ((_ && false) ^^ parB _ l) = false; rw [ih, Bool.and_false]; rfl
      exact this _
    · rw [Bool.and_true]
      exact parB_congr fun e he => by simp
  have el : parB (leftE p q) (edgesM P) = parB (overB (midP p q)) (edgesM P) := by
    rw [← along pd qd hpq hd hc]
    exact parB_congr fun e he => by
      obtain ⟨m1, m2⟩ := edge_ends he
      exact leftE_eq (hd _ m1) (hd _ m2) pd
  have er : parB (rightE p q) (edgesM P) = (parB (leftE p q) (edgesM P) ^^ parB (fun a b => onB (midP p q) a b) (edgesM P)) := by
    rw [← parB_xor]
    exact parB_congr fun e he => by
      obtain ⟨m1, m2⟩ := edge_ends he
      rw [rightE_eq (hd _ m1) (hd _ m2) pd (hS.ne e he), along_mid pd qd (hd _ m1) (hd _ m2) hpq (hS.ne e he) (hc.pt _ m1) (hc.pt _ m2) (hc.ed e he)]
  have eany : parB (fun a b => onB (midP p q) a b) (edgesM P) = (edgesM P).any (fun e => onB (midP p q) e.1 e.2) := par_any fun i j hij hj ⟨h1, h2⟩ => by
    have cov : ∀ n, n < (edgesM P).length → onB (midP p q) ((edgesM P).getD n (zP, zP)).1 ((edgesM P).getD n (zP, zP)).2 = true → Covers p q ((edgesM P).getD n (zP, zP)).1 ((edgesM P).getD n (zP, zP)).2 ∧ ((edgesM P).getD n (zP, zP)).1.d = 1 ∧ ((edgesM P).getD n (zP, zP)).2.d = 1 := fun n hn ho => by
      have he := getD_mem hn (zP, zP)
      obtain ⟨m1, m2⟩ := edge_ends he
      obtain ⟨c1, _, c3⟩ := mid_along pd qd (hd _ m1) (hd _ m2) hpq (hS.ne _ he) (hc.pt _ m1) (hc.pt _ m2) (hc.ed _ he) ho
      exact ⟨⟨c1, c3⟩, (hS.gr _ m1).d, (hS.gr _ m2).d⟩
    obtain ⟨c1, d1, d2⟩ := cov i (by omega) h1
    obtain ⟨c2, d3, d4⟩ := cov j hj h2
    have k2 := two_along pd qd d3 d4 d1 d2 hpq c2 c1
    have := hS.no i j hij hj
    unfold alongB at this
    rw [k2] at this
    exact absurd this (by decide)
  rw [eth, ← el, parB_count] at way
  rw [er]
  unfold rsidesM
  simp only [hk]
  unfold nCross
  rw [← eany]
  generalize parB (fun a b => onB (midP p q) a b) (edgesM P) = c at *
  generalize parB (leftE p q) (edgesM P) = L at *
  by_cases t : 0 < detM p q (outP k)
  · rw [if_pos t]
    rw [decide_eq_true t] at way
    revert way
    generalize decide ((edgesM P).countP (fun e => crossB (outP k) (midP p q) e.1 e.2) % 2 = 1) = n
    cases c <;> cases L <;> cases n <;> simp
  · rw [if_neg t]
    rw [decide_eq_false t] at way
    revert way
    generalize decide ((edgesM P).countP (fun e => crossB (outP k) (midP p q) e.1 e.2) % 2 = 1) = n
    cases c <;> cases L <;> cases n <;> simp
end Go.Proofs.YtkmapffhfmgfeaaGreat
namespace Go.Proofs.YtkmapffhfmgfeaaGreat
set_option linter.unusedVariables false
set_option linter.unusedSimpArgs false

/-- In least terms. -/
def Canon (p : Pt) : Prop := 0 < p.d ∧ gcdM (gcdM p.x p.y) p.d = 1
/-- A good point in least terms. -/
def Nice (p : Pt) : Prop := goodB p = true ∧ Canon p
theorem Nice.d {p : Pt} (h : Nice p) : 0 < p.d := h.2.1
theorem nice_gr {p : Pt} (h : Gr p) : Nice p := by
  have h1 := h.x; have h2 := h.y; have h3 := h.d
  unfold In at h1 h2
  refine ⟨by unfold goodB; rw [h3]; exact decide_eq_true (by omega), by omega, ?_⟩
  unfold gcdM; rw [h3]; simp
theorem gcd_dv {k x y d : Int} (h1 : k ∣ x) (h2 : k ∣ y) (h3 : k ∣ d) : k ∣ gcdM (gcdM x y) d := Int.dvd_coe_gcd (Int.dvd_coe_gcd h1 h2) h3
theorem canon_least {p : Pt} (hd : 0 < p.d) : Canon (leastM p) := by
  refine ⟨least_d hd, ?_⟩
  have hg : gcdM (gcdM p.x p.y) p.d ≠ 0 := by
    unfold gcdM; intro h
    have h' : Int.gcd (↑(p.x.gcd p.y)) p.d = 0 := by omega
    have := (Int.gcd_eq_zero_iff.1 h').2
    omega
  have h0 : 0 ≤ gcdM (gcdM p.x p.y) p.d := by unfold gcdM; omega
  have hD : gcdM (gcdM p.x p.y) p.d ∣ p.d := Int.gcd_dvd_right ..
  have hG : gcdM (gcdM p.x p.y) p.d ∣ gcdM p.x p.y := Int.gcd_dvd_left ..
  have hX : gcdM (gcdM p.x p.y) p.d ∣ p.x := Int.dvd_trans hG (Int.gcd_dvd_left ..)
  have hY : gcdM (gcdM p.x p.y) p.d ∣ p.y := Int.dvd_trans hG (Int.gcd_dvd_right ..)
  have el : leastM p = ⟨p.x.tdiv (gcdM (gcdM p.x p.y) p.d), p.y.tdiv (gcdM (gcdM p.x p.y) p.d), p.d.tdiv (gcdM (gcdM p.x p.y) p.d)⟩ := if_neg hg
  rw [el]
  have ex := Int.tdiv_mul_cancel hX
  have ey := Int.tdiv_mul_cancel hY
  have ed := Int.tdiv_mul_cancel hD
  generalize hGG : gcdM (gcdM p.x p.y) p.d = G at *
  generalize p.x.tdiv G = x at *
  generalize p.y.tdiv G = y at *
  generalize p.d.tdiv G = d at *
  simp only
  have k1 : gcdM (gcdM x y) d ∣ d := Int.gcd_dvd_right ..
  have k2 : gcdM (gcdM x y) d ∣ gcdM x y := Int.gcd_dvd_left ..
  have k3 : gcdM (gcdM x y) d ∣ x := Int.dvd_trans k2 (Int.gcd_dvd_left ..)
  have k4 : gcdM (gcdM x y) d ∣ y := Int.dvd_trans k2 (Int.gcd_dvd_right ..)
  have kk : gcdM (gcdM x y) d * G ∣ G := by
    have := gcd_dv (k := gcdM (gcdM x y) d * G) (x := p.x) (y := p.y) (d := p.d) (by rw [← ex]; exact Int.mul_dvd_mul k3 (Int.dvd_refl _)) (by rw [← ey]; exact Int.mul_dvd_mul k4 (Int.dvd_refl _)) (by rw [← ed]; exact Int.mul_dvd_mul k1 (Int.dvd_refl _))
    rw [hGG] at this
    exact this
  have k0 : 0 ≤ gcdM (gcdM x y) d := by unfold gcdM; omega
  obtain ⟨c, hc⟩ := kk
  have : gcdM (gcdM x y) d * c = 1 := by
    have e : G * (gcdM (gcdM x y) d * c) = G * 1 := by rw [Int.mul_one]; rw [show G * (gcdM (gcdM x y) d * c) = gcdM (gcdM x y) d * G * c by grind]; exact hc.symm
    exact Int.eq_of_mul_eq_mul_left hg e
  exact Int.eq_one_of_dvd_one k0 ⟨c, this.symm⟩
theorem dvd_den {p q : Pt} (hp : Canon p) (hq : 0 < q.d) (hx : p.x * q.d = q.x * p.d) (hy : p.y * q.d = q.y * p.d) : p.d ∣ q.d := by
  have h1 : p.d ∣ q.d * p.x := ⟨q.x, by rw [Int.mul_comm q.d, hx, Int.mul_comm]⟩
  have h2 : p.d ∣ q.d * p.y := ⟨q.y, by rw [Int.mul_comm q.d, hy, Int.mul_comm]⟩
  have h3 : p.d ∣ q.d * p.d := ⟨q.d, by rw [Int.mul_comm]⟩
  have g1 : p.d ∣ (Int.gcd (q.d * p.x) (q.d * p.y) : Int) := Int.dvd_coe_gcd h1 h2
  rw [Int.gcd_mul_left] at g1
  have e1 : ((q.d.natAbs * p.x.gcd p.y : Nat) : Int) = q.d * gcdM p.x p.y := by unfold gcdM; rw [Int.natCast_mul]; congr 1; omega
  rw [e1] at g1
  have g2 : p.d ∣ (Int.gcd (q.d * gcdM p.x p.y) (q.d * p.d) : Int) := Int.dvd_coe_gcd g1 h3
  rw [Int.gcd_mul_left] at g2
  have e2 : ((q.d.natAbs * (gcdM p.x p.y).gcd p.d : Nat) : Int) = q.d * gcdM (gcdM p.x p.y) p.d := by
    rw [Int.natCast_mul]
    have : ((q.d.natAbs : Nat) : Int) = q.d := by omega
    rw [this]; rfl
  rw [e2, hp.2, Int.mul_one] at g2
  exact g2
/-- In least terms one place is one point. -/
theorem canon_eq {p q : Pt} (hp : Canon p) (hq : Canon q) (h1 : befB p q = false) (h2 : befB q p = false) : p = q := by
  rw [bef_false] at h1 h2
  have hx : p.x * q.d = q.x * p.d := by omega
  have hy : p.y * q.d = q.y * p.d := by omega
  have d1 := dvd_den hp hq.1 hx hy
  have d2 := dvd_den hq hp.1 hx.symm hy.symm
  have ed : p.d = q.d := Int.le_antisymm (Int.le_of_dvd hq.1 d1) (Int.le_of_dvd hp.1 d2)
  have pd := hp.1
  refine Pt.ext' ?_ ?_ ed
  · rw [ed] at hx; exact Int.eq_of_mul_eq_mul_right (by omega) hx
  · rw [ed] at hy; exact Int.eq_of_mul_eq_mul_right (by omega) hy

theorem mix64 {a b W S : Int} (ha : In a 64) (hb : In b 64) (h0 : 0 ≤ S) (h1 : S ≤ W) : In (a * W + (b - a) * S) (64 * W) := by
  rw [mixEq]
  have e1 := ha.mul (In.mk (a := W - S) (A := W - S) (by omega) (by omega))
  have e2 := hb.mul (In.mk (a := S) (A := S) (by omega) (by omega))
  have := e1.add e2
  unfold In at *; omega
theorem nice_least {p : Pt} (hd : 0 < p.d) (hg : Gd p) (hx : In p.x (64 * p.d)) (hy : In p.y (64 * p.d)) : Nice (leastM p) := by
  refine ⟨?_, canon_least hd⟩
  obtain ⟨g, g0, e⟩ := least_mul hd
  have ex : p.x = (leastM p).x * g := congrArg Pt.x e
  have ey : p.y = (leastM p).y * g := congrArg Pt.y e
  have ed : p.d = (leastM p).d * g := congrArg Pt.d e
  have hgd := least_gd hd hg
  have ld := least_d hd
  have dd := hgd.d
  have key : ∀ z w : Int, z = w * g → In z (64 * p.d) → -(64 * (leastM p).d) ≤ w ∧ w ≤ 64 * (leastM p).d := fun z w hz h => by
    unfold In at h
    have e1 : 64 * p.d = (64 * (leastM p).d) * g := by rw [ed]; grind
    rw [e1, hz] at h
    constructor
    · refine Int.le_of_mul_le_mul_right ?_ g0
      have : -(64 * (leastM p).d) * g = -(64 * (leastM p).d * g) := by grind
      omega
    · exact Int.le_of_mul_le_mul_right h.2 g0
  have kx := key _ _ ex hx
  have ky := key _ _ ey hy
  unfold In at dd
  unfold goodB
  exact decide_eq_true (by omega)
/-- What two edges have in common is told by good points in least terms. -/
theorem meet_nice {a b c d : Pt} (ha : Gr a) (hb : Gr b) (hc : Gr c) (hd : Gr d) : (meetM a b c d).k = 0 ∨ ((meetM a b c d).k = 1 ∧ Nice (meetM a b c d).p) ∨ ((meetM a b c d).k = 2 ∧ Nice (meetM a b c d).p ∧ Nice (meetM a b c d).q) := by
  rw [meet_eq ha.d hb.d hc.d hd.d]
  by_cases hw : detM a b d - detM a b c = 0
  · rw [if_pos hw]
    by_cases m : detM a b c = 0
    · rw [if_neg (show ¬ (detM a b c ≠ 0) by omega)]
      have gf := nice_gr (lastM_gr (firstM_gr ha hb) (firstM_gr hc hd))
      have gt := nice_gr (firstM_gr (lastM_gr ha hb) (lastM_gr hc hd))
      unfold lineM
      simp only
      split
      · exact .inl rfl
      · split
        · exact .inr (.inl ⟨rfl, gf⟩)
        · exact .inr (.inr ⟨rfl, gf, gt⟩)
    · rw [if_pos m]; exact .inl rfl
  · rw [if_neg hw]
    by_cases g : goodM (detM a b d - detM a b c) (detM a b c) (detM a b d) (detM c d a) (detM c d b)
    · rw [across_good ha.d hb.d hc.d hd.d hw g]
      refine .inr (.inl ⟨rfl, ?_⟩)
      obtain ⟨P, hP, h1, h2, h3, h4⟩ := crossPt ha hb hc hd hw g
      have hb' : In P.x (64 * P.d) ∧ In P.y (64 * P.d) := by
        rw [← hP]
        unfold norm
        unfold goodM at g
        have e := pq_mn ha.d hb.d hc.d hd.d
        by_cases h : detM a b d - detM a b c < 0
        · rw [if_pos h]
          simp only
          have ex : -(a.x * (detM a b d - detM a b c) + (b.x - a.x) * detM c d a) = a.x * (-(detM a b d - detM a b c)) + (b.x - a.x) * (-detM c d a) := by grind
          have ey : -(a.y * (detM a b d - detM a b c) + (b.y - a.y) * detM c d a) = a.y * (-(detM a b d - detM a b c)) + (b.y - a.y) * (-detM c d a) := by grind
          rw [ex, ey]
          exact ⟨mix64 ha.x hb.x (by omega) (by omega), mix64 ha.y hb.y (by omega) (by omega)⟩
        · rw [if_neg h]
          exact ⟨mix64 ha.x hb.x (by omega) (by omega), mix64 ha.y hb.y (by omega) (by omega)⟩
      rw [hP]
      exact nice_least h2 h1 hb'.1 hb'.2
    · rw [across_bad ha.d hb.d hc.d hd.d hw g]; exact .inl rfl
end Go.Proofs.YtkmapffhfmgfeaaGreat
namespace Go.Proofs.YtkmapffhfmgfeaaGreat
set_option linter.unusedVariables false
set_option linter.unusedSimpArgs false

def Srt (l : List Pt) : Prop := l.Pairwise (fun a b => befB a b = true)
/-- In order, good points in least terms. -/
structure SN (l : List Pt) : Prop where
  srt : Srt l
  nc : ∀ x ∈ l, Nice x
theorem SN.nil : SN [] := ⟨List.Pairwise.nil, fun x hx => by cases hx⟩

/-- Where the program lays p in. -/
def idxL (l : List Pt) (p : Pt) : Nat → Nat
  | 0 => 0
  | i + 1 => if cmpM p (l.getD i zP) < 0 then idxL l p i else i + 1
def insM (l : List Pt) (p : Pt) : List Pt :=
  if 0 < idxL l p l.length ∧ cmpM p (l.getD (idxL l p l.length - 1) zP) = 0 then l
  else l.take (idxL l p l.length) ++ p :: l.drop (idxL l p l.length)
/-- How the document does. -/
def rinsGo (p : Pt) : List Pt → Bool → List Pt
  | [], done => if done = true then [] else [p]
  | x :: l, done => (if (!done && (placeB x p || befB p x)) = true then [p] else []) ++ ((if placeB x p = true then [] else [x]) ++ rinsGo p l (done || (placeB x p || befB p x)))
def rinsM (l : List Pt) (p : Pt) : List Pt := rinsGo p l false

theorem idxL_le (l : List Pt) (p : Pt) : ∀ n, idxL l p n ≤ n
  | 0 => Nat.le_refl _
  | n + 1 => by
    unfold idxL; split
    · exact Nat.le_succ_of_le (idxL_le l p n)
    · exact Nat.le_refl _
theorem idxL_hi (l : List Pt) (p : Pt) : ∀ n j, idxL l p n ≤ j → j < n → cmpM p (l.getD j zP) < 0
  | 0, j, _, h => by omega
  | n + 1, j, h1, h2 => by
    unfold idxL at h1
    split at h1
    · rename_i hc
      by_cases e : j = n
      · subst e; exact hc
      · exact idxL_hi l p n j h1 (by omega)
    · omega
theorem idxL_lo (l : List Pt) (p : Pt) : ∀ n, 0 < idxL l p n → ¬ cmpM p (l.getD (idxL l p n - 1) zP) < 0
  | 0, h => by simp [idxL] at h
  | n + 1, h => by
    unfold idxL at h ⊢
    split
    · rename_i hc
      rw [if_pos hc] at h
      exact idxL_lo l p n h
    · rename_i hc; simpa using hc
theorem srt_getD {l : List Pt} (h : Srt l) {i j : Nat} (hij : i < j) (hj : j < l.length) : befB (l.getD i zP) (l.getD j zP) = true := by
  have := List.pairwise_iff_getElem.1 h i j (by omega) hj hij
  rw [List.getD_eq_getElem?_getD, List.getD_eq_getElem?_getD, List.getElem?_eq_getElem hj, List.getElem?_eq_getElem (by omega)]
  exact this
theorem mem_take_getD {l : List Pt} {i : Nat} {x : Pt} (h : x ∈ l.take i) : ∃ j, j < i ∧ j < l.length ∧ l.getD j zP = x := by
  obtain ⟨j, hj, e⟩ := List.mem_iff_getElem.1 h
  have hj' : j < i ∧ j < l.length := by simpa [Nat.lt_min] using hj
  refine ⟨j, hj'.1, hj'.2, ?_⟩
  rw [List.getD_eq_getElem?_getD, List.getElem?_eq_getElem hj'.2]
  simpa using e
theorem mem_drop_getD {l : List Pt} {i : Nat} {x : Pt} (h : x ∈ l.drop i) : ∃ j, i ≤ j ∧ j < l.length ∧ l.getD j zP = x := by
  obtain ⟨j, hj, e⟩ := List.mem_iff_getElem.1 h
  have hj' : i + j < l.length := by simp at hj; omega
  refine ⟨i + j, by omega, hj', ?_⟩
  rw [List.getD_eq_getElem?_getD, List.getElem?_eq_getElem hj']
  simpa using e
theorem ins_spec {l : List Pt} {p : Pt} (h : SN l) (hp : Nice p) : SN (insM l p) ∧ ∀ x, x ∈ insM l p ↔ x = p ∨ x ∈ l := by
  have hle := idxL_le l p l.length
  have hhi := idxL_hi l p l.length
  have hlo := idxL_lo l p l.length
  unfold insM
  generalize idxL l p l.length = i at *
  by_cases c : 0 < i ∧ cmpM p (l.getD (i - 1) zP) = 0
  · rw [if_pos c]
    refine ⟨h, fun x => ⟨.inr, fun hx => ?_⟩⟩
    rcases hx with rfl | hx
    · have hm := getD_mem (l := l) (i := i - 1) (by omega) zP
      have b1 : befB x (l.getD (i - 1) zP) = false := by rw [← cmpB, c.2]; rfl
      have b2 : befB (l.getD (i - 1) zP) x = false := by rw [← cmpB', c.2]; rfl
      rw [canon_eq hp.2 (h.nc _ hm).2 b1 b2]; exact hm
    · exact hx
  · rw [if_neg c]
    have hd : ∀ x ∈ l.drop i, befB p x = true := fun x hx => by
      obtain ⟨j, j1, j2, rfl⟩ := mem_drop_getD hx
      rw [← cmpB]; exact decide_eq_true (hhi j j1 j2)
    have ht : ∀ x ∈ l.take i, befB x p = true := fun x hx => by
      obtain ⟨j, j1, j2, rfl⟩ := mem_take_getD hx
      have i0 : 0 < i := by omega
      have hl := hlo i0
      have hc : cmpM p (l.getD (i - 1) zP) ≠ 0 := fun e => c ⟨i0, e⟩
      have last : befB (l.getD (i - 1) zP) p = true := by rw [← cmpB']; exact decide_eq_true (by omega)
      by_cases e : j = i - 1
      · subst e; exact last
      · have b := srt_getD h.srt (show j < i - 1 by omega) (by omega)
        exact bef_le (h.nc _ (getD_mem j2 zP)).d (h.nc _ (getD_mem (show i - 1 < l.length by omega) zP)).d hp.d b (bef_asym last)
    have hs : Srt (l.take i ++ l.drop i) := by rw [List.take_append_drop]; exact h.srt
    have hs' := List.pairwise_append.1 hs
    refine ⟨⟨?_, fun x hx => ?_⟩, fun x => ?_⟩
    · refine List.pairwise_append.2 ⟨hs'.1, List.pairwise_cons.2 ⟨hd, hs'.2.1⟩, fun x hx y hy => ?_⟩
      rcases List.mem_cons.1 hy with rfl | hy
      · exact ht x hx
      · exact hs'.2.2 x hx y hy
    · rcases List.mem_append.1 hx with hx | hx
      · exact h.nc x (List.mem_of_mem_take hx)
      · rcases List.mem_cons.1 hx with rfl | hx
        · exact hp
        · exact h.nc x (List.mem_of_mem_drop hx)
    · have em : x ∈ l ↔ x ∈ l.take i ∨ x ∈ l.drop i := by rw [← List.mem_append, List.take_append_drop]
      rw [em, List.mem_append, List.mem_cons]
      constructor
      · rintro (h | h | h)
        · exact .inr (.inl h)
        · exact .inl h
        · exact .inr (.inr h)
      · rintro (h | h | h)
        · exact .inr (.inl h)
        · exact .inl h
        · exact .inr (.inr h)
theorem rins_done {p : Pt} : ∀ {l : List Pt}, (∀ x ∈ l, befB p x = true) → rinsGo p l true = l
  | [], _ => rfl
  | x :: l, h => by
    have hx := h x (List.mem_cons_self ..)
    have hp : placeB x p = false := by unfold placeB; rw [hx]; simp
    unfold rinsGo
    rw [hp, show (true || (false || befB p x)) = true from rfl, rins_done (fun y hy => h y (List.mem_cons_of_mem _ hy))]
    simp
theorem rins_spec {p : Pt} (hp : Nice p) : ∀ {l : List Pt}, SN l → SN (rinsM l p) ∧ ∀ x, x ∈ rinsM l p ↔ x = p ∨ x ∈ l
  | [], h => by
    have e : rinsM [] p = [p] := rfl
    rw [e]
    exact ⟨⟨List.pairwise_singleton _ _, fun x hx => by rw [List.mem_singleton.1 hx]; exact hp⟩, fun x => by simp⟩
  | y :: l, h => by
    have hs := List.pairwise_cons.1 h.srt
    have hl : SN l := ⟨hs.2, fun x hx => h.nc x (List.mem_cons_of_mem _ hx)⟩
    have hy := h.nc y (List.mem_cons_self ..)
    have e : rinsM (y :: l) p = (if (!false && (placeB y p || befB p y)) = true then [p] else []) ++ ((if placeB y p = true then [] else [y]) ++ rinsGo p l (false || (placeB y p || befB p y))) := rfl
    rw [e]
    cases b1 : befB y p
    · cases b2 : befB p y
      · -- one place
        have eq := canon_eq hp.2 hy.2 b2 b1
        subst eq
        have hpl : placeB p p = true := by unfold placeB; rw [bef_irr]; rfl
        rw [hpl]
        have e2 : rinsGo p l (false || (true || false)) = l := rins_done hs.1
        rw [e2]
        simp only [Bool.not_false, Bool.true_and, Bool.true_or, if_true, List.nil_append, List.cons_append]
        exact ⟨h, fun x => by simp⟩
      · have hpl : placeB y p = false := by unfold placeB; rw [b1, b2]; rfl
        rw [hpl]
        have hall : ∀ x ∈ l, befB p x = true := fun x hx => bef_lt hy.d (hl.nc x hx).d hp.d (hs.1 x hx) b2
        have e2 : rinsGo p l (false || (false || true)) = l := rins_done hall
        rw [e2]
        simp only [Bool.not_false, Bool.true_and, Bool.or_true, if_true, Bool.false_eq_true, if_false, List.cons_append, List.nil_append]
        refine ⟨⟨List.pairwise_cons.2 ⟨fun x hx => ?_, h.srt⟩, fun x hx => ?_⟩, fun x => by simp⟩
        · rcases List.mem_cons.1 hx with rfl | hx
          · exact b2
          · exact hall x hx
        · rcases List.mem_cons.1 hx with rfl | hx
          · exact hp
          · exact h.nc x hx
    · have b2 := bef_asym b1
      have hpl : placeB y p = false := by unfold placeB; rw [b1]; simp
      rw [hpl, b2]
      obtain ⟨ih1, ih2⟩ := rins_spec hp hl
      simp only [Bool.not_false, Bool.true_and, Bool.or_false, Bool.false_eq_true, if_false, List.nil_append, List.cons_append]
      have e3 : rinsGo p l false = rinsM l p := rfl
      rw [e3]
      refine ⟨⟨List.pairwise_cons.2 ⟨fun x hx => ?_, ih1.srt⟩, fun x hx => ?_⟩, fun x => ?_⟩
      · rcases (ih2 x).1 hx with rfl | hx
        · exact b1
        · exact hs.1 x hx
      · rcases List.mem_cons.1 hx with rfl | hx
        · exact hy
        · exact ih1.nc x hx
      · rw [List.mem_cons, ih2, List.mem_cons]
        constructor
        · rintro (h | h | h)
          · exact .inr (.inl h)
          · exact .inl h
          · exact .inr (.inr h)
        · rintro (h | h | h)
          · exact .inr (.inl h)
          · exact .inl h
          · exact .inr (.inr h)
/-- What is in order is told by what is in it. -/
theorem srt_unique {α : Type} {R : α → α → Prop} (irr : ∀ x, ¬ R x x) (asy : ∀ x y, R x y → ¬ R y x) : ∀ {l1 l2 : List α}, l1.Pairwise R → l2.Pairwise R → (∀ x, x ∈ l1 ↔ x ∈ l2) → l1 = l2
  | [], [], _, _, _ => rfl
  | [], y :: l2, _, _, h => by have := (h y).2 (List.mem_cons_self ..); cases this
  | x :: l1, [], _, _, h => by have := (h x).1 (List.mem_cons_self ..); cases this
  | x :: l1, y :: l2, h1, h2, h => by
    have p1 := List.pairwise_cons.1 h1
    have p2 := List.pairwise_cons.1 h2
    have e : x = y := by
      rcases List.mem_cons.1 ((h x).1 (List.mem_cons_self ..)) with e | hx
      · exact e
      · rcases List.mem_cons.1 ((h y).2 (List.mem_cons_self ..)) with e | hy
        · exact e.symm
        · exact absurd (p2.1 x hx) (asy _ _ (p1.1 y hy))
    subst e
    congr 1
    refine srt_unique irr asy p1.2 p2.2 fun z => ?_
    constructor
    · intro hz
      rcases List.mem_cons.1 ((h z).1 (List.mem_cons_of_mem _ hz)) with e | hz'
      · subst e; exact absurd (p1.1 z hz) (irr z)
      · exact hz'
    · intro hz
      rcases List.mem_cons.1 ((h z).2 (List.mem_cons_of_mem _ hz)) with e | hz'
      · subst e; exact absurd (p2.1 z hz) (irr z)
      · exact hz'
theorem SN.eq {l1 l2 : List Pt} (h1 : SN l1) (h2 : SN l2) (h : ∀ x, x ∈ l1 ↔ x ∈ l2) : l1 = l2 :=
  srt_unique (fun x => by rw [bef_irr]; decide) (fun x y hxy => by rw [bef_asym hxy]; decide) h1.srt h2.srt h

/-- Laying in what two edges have in common. -/
def inMt (m : Mt) (x : Pt) : Prop := (m.k ≠ 0 ∧ x = m.p) ∨ (m.k = 2 ∧ x = m.q)
def NiceM (m : Mt) : Prop := m.k = 0 ∨ (m.k = 1 ∧ Nice m.p) ∨ (m.k = 2 ∧ Nice m.p ∧ Nice m.q)
def stepM (s : List Pt) (m : Mt) : List Pt := if m.k = 2 then insM (if m.k ≠ 0 then insM s m.p else s) m.q else (if m.k ≠ 0 then insM s m.p else s)
def rstepM (s : List Pt) (m : Mt) : List Pt := if m.k = 2 then rinsM (if m.k ≠ 0 then rinsM s m.p else s) m.q else (if m.k ≠ 0 then rinsM s m.p else s)
theorem step_spec {s : List Pt} {m : Mt} (h : SN s) (hm : NiceM m) : SN (stepM s m) ∧ ∀ x, x ∈ stepM s m ↔ x ∈ s ∨ inMt m x := by
  unfold stepM inMt
  rcases hm with k | ⟨k, hp⟩ | ⟨k, hp, hq⟩
  · rw [if_neg (by omega), if_neg (by omega)]
    exact ⟨h, fun x => by simp [k]⟩
  · rw [if_neg (by omega), if_pos (by omega)]
    obtain ⟨h1, h2⟩ := ins_spec h hp
    exact ⟨h1, fun x => by rw [h2]; simp [k, or_comm]⟩
  · rw [if_pos k, if_pos (by omega)]
    obtain ⟨h1, h2⟩ := ins_spec h hp
    obtain ⟨h3, h4⟩ := ins_spec h1 hq
    refine ⟨h3, fun x => ?_⟩
    rw [h4, h2]
    simp only [k, ne_eq, show ¬ (2 : Int) = 0 by decide, not_false_iff, true_and]
    constructor
    · rintro (e | e | e)
      · exact .inr (.inr e)
      · exact .inr (.inl e)
      · exact .inl e
    · rintro (e | e | e)
      · exact .inr (.inr e)
      · exact .inr (.inl e)
      · exact .inl e
theorem rstep_spec {s : List Pt} {m : Mt} (h : SN s) (hm : NiceM m) : SN (rstepM s m) ∧ ∀ x, x ∈ rstepM s m ↔ x ∈ s ∨ inMt m x := by
  unfold rstepM inMt
  rcases hm with k | ⟨k, hp⟩ | ⟨k, hp, hq⟩
  · rw [if_neg (by omega), if_neg (by omega)]
    exact ⟨h, fun x => by simp [k]⟩
  · rw [if_neg (by omega), if_pos (by omega)]
    obtain ⟨h1, h2⟩ := rins_spec hp h
    exact ⟨h1, fun x => by rw [h2]; simp [k, or_comm]⟩
  · rw [if_pos k, if_pos (by omega)]
    obtain ⟨h1, h2⟩ := rins_spec hp h
    obtain ⟨h3, h4⟩ := rins_spec hq h1
    refine ⟨h3, fun x => ?_⟩
    rw [h4, h2]
    simp only [k, ne_eq, show ¬ (2 : Int) = 0 by decide, not_false_iff, true_and]
    constructor
    · rintro (e | e | e)
      · exact .inr (.inr e)
      · exact .inr (.inl e)
      · exact .inl e
    · rintro (e | e | e)
      · exact .inr (.inr e)
      · exact .inr (.inl e)
      · exact .inl e
theorem fold_spec {α : Type} (f : List Pt → α → List Pt) (A : α → Pt → Prop) : ∀ (L : List α) (s : List Pt), (∀ i ∈ L, ∀ s, SN s → SN (f s i) ∧ ∀ x, x ∈ f s i ↔ x ∈ s ∨ A i x) → SN s → SN (L.foldl f s) ∧ ∀ x, x ∈ L.foldl f s ↔ x ∈ s ∨ ∃ i ∈ L, A i x
  | [], s, _, h => ⟨h, fun x => by simp⟩
  | i :: L, s, hf, h => by
    obtain ⟨h1, h2⟩ := hf i (List.mem_cons_self ..) s h
    obtain ⟨h3, h4⟩ := fold_spec f A L (f s i) (fun j hj => hf j (List.mem_cons_of_mem _ hj)) h1
    refine ⟨h3, fun x => ?_⟩
    rw [List.foldl_cons, h4, h2]
    constructor
    · rintro ((e | e) | ⟨j, hj, e⟩)
      · exact .inl e
      · exact .inr ⟨i, List.mem_cons_self .., e⟩
      · exact .inr ⟨j, List.mem_cons_of_mem _ hj, e⟩
    · rintro (e | ⟨j, hj, e⟩)
      · exact .inl (.inl e)
      · rcases List.mem_cons.1 hj with rfl | hj
        · exact .inl (.inr e)
        · exact .inr ⟨j, hj, e⟩
/-- The spots. -/
def spotsM (E : List (Pt × Pt)) : List Pt := E.foldl (fun s e => E.foldl (fun s f => stepM s (meetM e.1 e.2 f.1 f.2)) s) []
def rspotsM (E : List (Pt × Pt)) : List Pt := (List.range E.length).foldl (fun s i => (E.take i).foldl (fun s f => rstepM s (meetM (E.getD i (zP, zP)).1 (E.getD i (zP, zP)).2 f.1 f.2)) (rinsM s (E.getD i (zP, zP)).1)) []
/-- Edges between grid points, each between two, each to where another begins. -/
structure Good (E : List (Pt × Pt)) : Prop where
  gr : ∀ e ∈ E, Gr e.1 ∧ Gr e.2
  ne : ∀ e ∈ E, e.1 ≠ e.2
  sec : ∀ e ∈ E, ∃ e' ∈ E, e'.1 = e.2
theorem Good.mt {E : List (Pt × Pt)} (h : Good E) {e f : Pt × Pt} (he : e ∈ E) (hf : f ∈ E) : NiceM (meetM e.1 e.2 f.1 f.2) :=
  meet_nice (h.gr e he).1 (h.gr e he).2 (h.gr f hf).1 (h.gr f hf).2
theorem spots_spec {E : List (Pt × Pt)} (h : Good E) : SN (spotsM E) ∧ ∀ x, x ∈ spotsM E ↔ ∃ e ∈ E, ∃ f ∈ E, inMt (meetM e.1 e.2 f.1 f.2) x := by
  obtain ⟨h1, h2⟩ := fold_spec (fun s e => E.foldl (fun s f => stepM s (meetM e.1 e.2 f.1 f.2)) s) (fun e x => ∃ f ∈ E, inMt (meetM e.1 e.2 f.1 f.2) x) E [] (fun e he s hs => fold_spec (fun s (f : Pt × Pt) => stepM s (meetM e.1 e.2 f.1 f.2)) (fun f x => inMt (meetM e.1 e.2 f.1 f.2) x) E s (fun f hf s hs => step_spec hs (h.mt he hf)) hs) SN.nil
  exact ⟨h1, fun x => by have := h2 x; simpa [spotsM] using this⟩
theorem rspots_spec {E : List (Pt × Pt)} (h : Good E) : SN (rspotsM E) ∧ ∀ x, x ∈ rspotsM E ↔ ∃ i, i < E.length ∧ (x = (E.getD i (zP, zP)).1 ∨ ∃ f ∈ E.take i, inMt (meetM (E.getD i (zP, zP)).1 (E.getD i (zP, zP)).2 f.1 f.2) x) := by
  obtain ⟨h1, h2⟩ := fold_spec (fun s i => (E.take i).foldl (fun s f => rstepM s (meetM (E.getD i (zP, zP)).1 (E.getD i (zP, zP)).2 f.1 f.2)) (rinsM s (E.getD i (zP, zP)).1)) (fun i x => x = (E.getD i (zP, zP)).1 ∨ ∃ f ∈ E.take i, inMt (meetM (E.getD i (zP, zP)).1 (E.getD i (zP, zP)).2 f.1 f.2) x) (List.range E.length) [] (fun i hi s hs => by
    have hi' : i < E.length := by simpa using hi
    have he := getD_mem hi' (zP, zP)
    obtain ⟨a1, a2⟩ := rins_spec (nice_gr (h.gr _ he).1) hs
    obtain ⟨b1, b2⟩ := fold_spec (fun s (f : Pt × Pt) => rstepM s (meetM (E.getD i (zP, zP)).1 (E.getD i (zP, zP)).2 f.1 f.2)) (fun f x => inMt (meetM (E.getD i (zP, zP)).1 (E.getD i (zP, zP)).2 f.1 f.2) x) (E.take i) _ (fun f hf s hs => rstep_spec hs (h.mt he (List.mem_of_mem_take hf))) a1
    refine ⟨b1, fun x => ?_⟩
    rw [b2, a2]
    constructor
    · rintro ((e | e) | e)
      · exact .inr (.inl e)
      · exact .inl e
      · exact .inr (.inr e)
    · rintro (e | e | e)
      · exact .inl (.inr e)
      · exact .inl (.inl e)
      · exact .inr e) SN.nil
  exact ⟨h1, fun x => by have := h2 x; simpa [rspotsM] using this⟩
theorem meet_comm {a b c d : Pt} (ha : a.d = 1) (hb : b.d = 1) (hc : c.d = 1) (hd : d.d = 1) (hab : a ≠ b) (hcd : c ≠ d) : meetM c d a b = meetM a b c d :=
  (meet_sym2 hd hc ha hb).trans (meet_sym1 ha hb hc hd hab hcd)
theorem meet_same {a b : Pt} (ha : a.d = 1) (hb : b.d = 1) (hab : a ≠ b) : meetM a b a b = ⟨2, firstM a b, lastM a b⟩ :=
  ((meet_sym2 ha hb ha hb).symm.trans (meet_comm ha hb hb ha hab (Ne.symm hab))).trans (meet_self ha hb hab)
/-- Both have the same spots. -/
theorem spots_eq {E : List (Pt × Pt)} (h : Good E) : rspotsM E = spotsM E := by
  obtain ⟨s1, m1⟩ := spots_spec h
  obtain ⟨s2, m2⟩ := rspots_spec h
  refine s2.eq s1 fun x => ?_
  rw [m1, m2]
  have ends : ∀ e ∈ E, ∀ y, y = e.1 ∨ y = e.2 → inMt (meetM e.1 e.2 e.1 e.2) y := fun e he y hy => by
    rw [meet_same (h.gr e he).1.d (h.gr e he).2.d (h.ne e he)]
    unfold inMt
    simp only [ne_eq, show ¬ (2 : Int) = 0 by decide, not_false_iff, true_and]
    rw [first_eq, last_eq]
    have tri := L_tri (h.gr e he).1.d (h.gr e he).2.d
    rcases tri with t | t | t
    · have b1 := (bef_L (h.gr e he).1.d (h.gr e he).2.d).2 t
      have b2 := bef_asym b1
      rw [b1, b2]; simpa using hy
    · exact absurd t (h.ne e he)
    · have b1 := (bef_L (h.gr e he).2.d (h.gr e he).1.d).2 t
      have b2 := bef_asym b1
      rw [b1, b2]; simpa [or_comm] using hy
  constructor
  · rintro ⟨i, hi, e | ⟨f, hf, e⟩⟩
    · have he := getD_mem hi (zP, zP)
      exact ⟨_, he, _, he, ends _ he x (.inl e)⟩
    · exact ⟨_, getD_mem hi (zP, zP), f, List.mem_of_mem_take hf, e⟩
  · rintro ⟨e, he, f, hf, k⟩
    obtain ⟨i, hi, ei⟩ := List.mem_iff_getElem.1 he
    obtain ⟨j, hj, ej⟩ := List.mem_iff_getElem.1 hf
    have gi : E.getD i (zP, zP) = e := by rw [List.getD_eq_getElem?_getD, List.getElem?_eq_getElem hi]; exact ei
    have gj : E.getD j (zP, zP) = f := by rw [List.getD_eq_getElem?_getD, List.getElem?_eq_getElem hj]; exact ej
    rcases Nat.lt_trichotomy i j with c | c | c
    · refine ⟨j, hj, .inr ⟨e, ?_, ?_⟩⟩
      · rw [List.mem_take_iff_getElem]
        exact ⟨i, by omega, ei⟩
      · rw [gj, meet_comm (h.gr e he).1.d (h.gr e he).2.d (h.gr f hf).1.d (h.gr f hf).2.d (h.ne e he) (h.ne f hf)]; exact k
    · subst c
      have : e = f := by rw [← ei, ← ej]
      subst this
      rw [meet_same (h.gr e he).1.d (h.gr e he).2.d (h.ne e he)] at k
      have hx : x = e.1 ∨ x = e.2 := by
        unfold inMt at k
        rcases k with ⟨_, k⟩ | ⟨_, k⟩
        · rcases first_cases e.1 e.2 with c | c
          · exact .inl (k.trans c)
          · exact .inr (k.trans c)
        · rcases last_cases e.1 e.2 with c | c
          · exact .inl (k.trans c)
          · exact .inr (k.trans c)
      rcases hx with hx | hx
      · exact ⟨i, hi, .inl (by rw [gi]; exact hx)⟩
      · obtain ⟨e', he', e2⟩ := h.sec e he
        obtain ⟨n, hn, en⟩ := List.mem_iff_getElem.1 he'
        exact ⟨n, hn, .inl (by rw [List.getD_eq_getElem?_getD, List.getElem?_eq_getElem hn]; show x = (E[n]).1; rw [en, e2]; exact hx)⟩
    · refine ⟨i, hi, .inr ⟨f, ?_, ?_⟩⟩
      · rw [List.mem_take_iff_getElem]
        exact ⟨j, by omega, ej⟩
      · rw [gi]; exact k
end Go.Proofs.YtkmapffhfmgfeaaGreat
namespace Go.Proofs.YtkmapffhfmgfeaaGreat
set_option linter.unusedVariables false
set_option linter.unusedSimpArgs false
set_option linter.unusedSectionVars false

/-- x goes from a place that f says yes to, to the next. -/
def AL (f : Pt → Bool) : List Pt → Pt × Pt → Prop
  | [], _ => False
  | s :: l, x => (f s = true ∧ x.1 = s ∧ l.find? f = some x.2) ∨ AL f l x
theorem AL_congr {f g : Pt → Bool} : ∀ {l : List Pt}, (∀ s ∈ l, f s = g s) → ∀ x, AL f l x ↔ AL g l x
  | [], _, _ => Iff.rfl
  | s :: l, h, x => by
    have hl : ∀ y ∈ l, f y = g y := fun y hy => h y (List.mem_cons_of_mem _ hy)
    have e : l.find? f = l.find? g := by
      clear h
      induction l with
      | nil => rfl
      | cons y l ih =>
        rw [List.find?_cons, List.find?_cons, hl y (List.mem_cons_self ..), ih (fun z hz => hl z (List.mem_cons_of_mem _ hz))]
    unfold AL
    rw [h s (List.mem_cons_self ..), e, AL_congr hl]
theorem AL_mem {f : Pt → Bool} : ∀ {l : List Pt} {x : Pt × Pt}, AL f l x → x.1 ∈ l ∧ x.2 ∈ l ∧ f x.1 = true ∧ f x.2 = true
  | s :: l, x, h => by
    unfold AL at h
    rcases h with ⟨h1, h2, h3⟩ | h
    · exact ⟨by rw [h2]; exact List.mem_cons_self .., List.mem_cons_of_mem _ (List.mem_of_find?_eq_some h3), by rw [h2]; exact h1, List.find?_some h3⟩
    · obtain ⟨a, b, c⟩ := AL_mem h
      exact ⟨List.mem_cons_of_mem _ a, List.mem_cons_of_mem _ b, c⟩
theorem AL_next {f : Pt → Bool} : ∀ {l : List Pt} {x : Pt × Pt}, Srt l → AL f l x → befB x.1 x.2 = true ∧ ∀ y ∈ l, befB x.1 y = true → befB y x.2 = true → f y = false
  | s :: l, x, hs, h => by
    have p := List.pairwise_cons.1 hs
    unfold AL at h
    rcases h with ⟨h1, h2, h3⟩ | h
    · rw [h2]
      refine ⟨p.1 _ (List.mem_of_find?_eq_some h3), fun y hy b1 b2 => ?_⟩
      rcases List.mem_cons.1 hy with rfl | hy
      · rw [bef_irr] at b1; cases b1
      · obtain ⟨_, l1, l2, e, hn⟩ := List.find?_eq_some_iff_append.1 h3
        rw [e] at hy p
        rcases List.mem_append.1 hy with hy | hy
        · simpa using hn y hy
        · rcases List.mem_cons.1 hy with rfl | hy
          · rw [bef_irr] at b2; cases b2
          · have := (List.pairwise_append.1 p.2).2.1
            have := (List.pairwise_cons.1 this).1 y hy
            rw [bef_asym this] at b2; cases b2
    · obtain ⟨a, b⟩ := AL_next p.2 h
      refine ⟨a, fun y hy b1 b2 => ?_⟩
      rcases List.mem_cons.1 hy with rfl | hy
      · have := p.1 _ (AL_mem h).1
        rw [bef_asym this] at b1; cases b1
      · exact b y hy b1 b2

/-- The next spots behind p. -/
def neighM (p : Pt) (behind : List Pt) (E : List (Pt × Pt)) : List Pt :=
  E.foldl (fun l e => if hasM e.1 e.2 p = true then (match behind.find? (fun q => hasM e.1 e.2 q) with | some q => insM l q | none => l) else l) []
def pairsL (E : List (Pt × Pt)) : List Pt → List (Pt × Pt)
  | [] => []
  | p :: S => (neighM p S E).map (fun q => (p, q)) ++ pairsL E S
/-- The order of pieces. -/
def PR (x y : Pt × Pt) : Prop := befB x.1 y.1 = true ∨ (x.1 = y.1 ∧ befB x.2 y.2 = true)
theorem PR_irr (x : Pt × Pt) : ¬ PR x x := by unfold PR; rw [bef_irr, bef_irr]; simp
theorem PR_asy (x y : Pt × Pt) (h : PR x y) : ¬ PR y x := by
  unfold PR at *
  rcases h with h | ⟨h1, h2⟩
  · rw [bef_asym h]
    rintro (k | ⟨k, _⟩)
    · cases k
    · rw [k, bef_irr] at h; cases h
  · rw [h1, bef_irr, bef_asym h2]
    rintro (k | ⟨_, k⟩) <;> cases k
theorem neigh_spec (p : Pt) (behind : List Pt) (E : List (Pt × Pt)) (hb : ∀ x ∈ behind, Nice x) : SN (neighM p behind E) ∧ ∀ x, x ∈ neighM p behind E ↔ ∃ e ∈ E, hasM e.1 e.2 p = true ∧ behind.find? (fun q => hasM e.1 e.2 q) = some x := by
  obtain ⟨h1, h2⟩ := fold_spec (fun l (e : Pt × Pt) => if hasM e.1 e.2 p = true then (match behind.find? (fun q => hasM e.1 e.2 q) with | some q => insM l q | none => l) else l) (fun e x => hasM e.1 e.2 p = true ∧ behind.find? (fun q => hasM e.1 e.2 q) = some x) E [] (fun e he s hs => by
    by_cases c : hasM e.1 e.2 p = true
    · simp only [if_pos c]
      cases hf : behind.find? (fun q => hasM e.1 e.2 q) with
      | none => exact ⟨hs, fun x => by simp [c]⟩
      | some q =>
        obtain ⟨a1, a2⟩ := ins_spec hs (hb q (List.mem_of_find?_eq_some hf))
        refine ⟨a1, fun x => ?_⟩
        simp only
        rw [a2]
        simp only [c, true_and, Option.some.injEq]
        constructor
        · rintro (h | h)
          · exact .inr h.symm
          · exact .inl h
        · rintro (h | h)
          · exact .inr h
          · exact .inl h.symm
    · simp only [if_neg c]
      exact ⟨hs, fun x => by simp [c]⟩) SN.nil
  exact ⟨h1, fun x => by have := h2 x; simpa [neighM] using this⟩
theorem pairs_spec (E : List (Pt × Pt)) : ∀ {S : List Pt}, SN S → (pairsL E S).Pairwise PR ∧ ∀ x, x ∈ pairsL E S ↔ ∃ e ∈ E, AL (fun s => hasM e.1 e.2 s) S x
  | [], _ => ⟨List.Pairwise.nil, fun x => by simp [pairsL, AL]⟩
  | p :: S, h => by
    have hp := List.pairwise_cons.1 h.srt
    have hS : SN S := ⟨hp.2, fun x hx => h.nc x (List.mem_cons_of_mem _ hx)⟩
    obtain ⟨i1, i2⟩ := pairs_spec E hS
    obtain ⟨n1, n2⟩ := neigh_spec p S E hS.nc
    have e : pairsL E (p :: S) = (neighM p S E).map (fun q => (p, q)) ++ pairsL E S := rfl
    rw [e]
    constructor
    · refine List.pairwise_append.2 ⟨?_, i1, fun x hx y hy => ?_⟩
      · rw [List.pairwise_map]
        exact n1.srt.imp fun {a b} hab => .inr ⟨rfl, hab⟩
      · obtain ⟨q, _, rfl⟩ := List.mem_map.1 hx
        obtain ⟨e, _, ha⟩ := (i2 y).1 hy
        exact .inl (hp.1 _ (AL_mem ha).1)
    · intro x
      rw [List.mem_append, i2]
      constructor
      · rintro (hx | ⟨e, he, ha⟩)
        · obtain ⟨q, hq, rfl⟩ := List.mem_map.1 hx
          obtain ⟨e, he, h1, h2⟩ := (n2 q).1 hq
          exact ⟨e, he, .inl ⟨h1, rfl, h2⟩⟩
        · exact ⟨e, he, .inr ha⟩
      · rintro ⟨e, he, ⟨h1, h2, h3⟩ | ha⟩
        · refine .inl (List.mem_map.2 ⟨x.2, (n2 x.2).2 ⟨e, he, h1, h3⟩, ?_⟩)
          rw [← h2]
        · exact .inr ⟨e, he, ha⟩

/-- How the document finds them. -/
def aheadB (x y : Pt × Pt) : Bool := if eqP x.1 y.1 = true then befB x.2 y.2 else befB x.1 y.1
def knownB (l : List (Pt × Pt)) (x : Pt × Pt) : Bool := l.any (fun y => eqP y.1 x.1 && eqP y.2 x.2)
def sortM (l : List (Pt × Pt)) (x : Pt × Pt) : List (Pt × Pt) := l.takeWhile (fun y => aheadB y x) ++ x :: l.dropWhile (fun y => aheadB y x)
def rwalkM (e : Pt × Pt) (st : List (Pt × Pt) × Pt) (s : Pt) : List (Pt × Pt) × Pt :=
  if onB s e.1 e.2 = true then ((if st.2.d = 0 ∨ knownB st.1 (st.2, s) = true then st.1 else sortM st.1 (st.2, s)), s) else st
def rpairsM (E : List (Pt × Pt)) (S : List Pt) : List (Pt × Pt) := E.foldl (fun out e => (S.foldl (rwalkM e) (out, zP)).1) []

theorem eqP_iff {p q : Pt} : eqP p q = true ↔ p = q := ⟨eqP_true, fun h => by rw [h]; simp [eqP]⟩
theorem ahead_PR (x y : Pt × Pt) : aheadB x y = true → PR x y := by
  unfold aheadB PR
  split
  · rename_i h; intro k; exact .inr ⟨eqP_iff.1 h, k⟩
  · intro k; exact .inl k
theorem PR_ahead (x y : Pt × Pt) (h : PR x y) : aheadB x y = true := by
  unfold aheadB
  rcases h with h | ⟨h1, h2⟩
  · rw [if_neg]
    · exact h
    · intro k; rw [eqP_iff.1 k, bef_irr] at h; cases h
  · rw [if_pos (eqP_iff.2 h1)]; exact h2
/-- Pieces between good points in least terms. -/
def NP (x : Pt × Pt) : Prop := Nice x.1 ∧ Nice x.2
theorem PR_tri {x y : Pt × Pt} (hx : NP x) (hy : NP y) : PR x y ∨ x = y ∨ PR y x := by
  unfold PR
  cases b1 : befB x.1 y.1
  · cases b2 : befB y.1 x.1
    · have e := canon_eq hx.1.2 hy.1.2 b1 b2
      cases c1 : befB x.2 y.2
      · cases c2 : befB y.2 x.2
        · exact .inr (.inl (Prod.ext e (canon_eq hx.2.2 hy.2.2 c1 c2)))
        · exact .inr (.inr (.inr ⟨e.symm, rfl⟩))
      · exact .inl (.inr ⟨e, rfl⟩)
    · exact .inr (.inr (.inl rfl))
  · exact .inl (.inl rfl)
theorem PR_trans {x y z : Pt × Pt} (hx : NP x) (hy : NP y) (hz : NP z) (h1 : PR x y) (h2 : PR y z) : PR x z := by
  unfold PR at *
  rcases h1 with h1 | ⟨e1, h1⟩
  · rcases h2 with h2 | ⟨e2, h2⟩
    · exact .inl (bef_lt hy.1.d hz.1.d hx.1.d h2 h1)
    · rw [← e2]; exact .inl h1
  · rcases h2 with h2 | ⟨e2, h2⟩
    · rw [e1]; exact .inl h2
    · exact .inr ⟨e1.trans e2, bef_lt hy.2.d hz.2.d hx.2.d h2 h1⟩
structure SP (l : List (Pt × Pt)) : Prop where
  srt : l.Pairwise PR
  np : ∀ x ∈ l, NP x
theorem sort_spec {l : List (Pt × Pt)} {x : Pt × Pt} (h : SP l) (hx : NP x) (hn : x ∉ l) : SP (sortM l x) ∧ ∀ y, y ∈ sortM l x ↔ y = x ∨ y ∈ l := by
  have el : l.takeWhile (fun y => aheadB y x) ++ l.dropWhile (fun y => aheadB y x) = l := List.takeWhile_append_dropWhile
  have hs : (l.takeWhile (fun y => aheadB y x) ++ l.dropWhile (fun y => aheadB y x)).Pairwise PR := by rw [el]; exact h.srt
  have hp := List.pairwise_append.1 hs
  have ht : ∀ y ∈ l.takeWhile (fun y => aheadB y x), PR y x := fun y hy => ahead_PR _ _ (List.all_eq_true.1 (List.all_takeWhile (p := fun y => aheadB y x) (l := l)) y hy)
  have hd : ∀ y ∈ l.dropWhile (fun y => aheadB y x), PR x y := by
    intro y hy
    cases hdw : l.dropWhile (fun y => aheadB y x) with
    | nil => rw [hdw] at hy; cases hy
    | cons z r =>
      have hz : ¬ (aheadB z x = true) := by
        have := List.head?_dropWhile_not (fun y => aheadB y x) l
        rw [hdw] at this
        simpa using this
      have hzl : z ∈ l := by rw [← el, hdw]; simp
      have hzx : PR x z := by
        rcases PR_tri hx (h.np z hzl) with k | k | k
        · exact k
        · subst k; exact absurd hzl hn
        · exact absurd (PR_ahead _ _ k) hz
      rw [hdw] at hy
      rcases List.mem_cons.1 hy with rfl | hy'
      · exact hzx
      · have := hp.2.1
        rw [hdw] at this
        have hyl : y ∈ l := by rw [← el, hdw]; simp [hy']
        exact PR_trans hx (h.np z hzl) (h.np y hyl) hzx ((List.pairwise_cons.1 this).1 y hy')
  unfold sortM
  refine ⟨⟨List.pairwise_append.2 ⟨hp.1, List.pairwise_cons.2 ⟨hd, hp.2.1⟩, fun y hy z hz => ?_⟩, fun y hy => ?_⟩, fun y => ?_⟩
  · rcases List.mem_cons.1 hz with rfl | hz
    · exact ht y hy
    · exact hp.2.2 y hy z hz
  · rcases List.mem_append.1 hy with hy | hy
    · exact h.np y (by rw [← el]; exact List.mem_append.2 (.inl hy))
    · rcases List.mem_cons.1 hy with rfl | hy
      · exact hx
      · exact h.np y (by rw [← el]; exact List.mem_append.2 (.inr hy))
  · have em : y ∈ l ↔ y ∈ l.takeWhile (fun y => aheadB y x) ∨ y ∈ l.dropWhile (fun y => aheadB y x) := by rw [← List.mem_append, el]
    rw [em, List.mem_append, List.mem_cons]
    constructor
    · rintro (h | h | h)
      · exact .inr (.inl h)
      · exact .inl h
      · exact .inr (.inr h)
    · rintro (h | h | h)
      · exact .inr (.inl h)
      · exact .inl h
      · exact .inr (.inr h)
theorem known_iff {l : List (Pt × Pt)} {x : Pt × Pt} : knownB l x = true ↔ x ∈ l := by
  unfold knownB
  rw [List.any_eq_true]
  constructor
  · rintro ⟨y, hy, h⟩
    rw [Bool.and_eq_true] at h
    have : y = x := Prod.ext (eqP_iff.1 h.1) (eqP_iff.1 h.2)
    rw [← this]; exact hy
  · intro h
    exact ⟨x, h, by rw [eqP_iff.2 rfl, eqP_iff.2 rfl]; rfl⟩
theorem walk_spec (e : Pt × Pt) : ∀ (S : List Pt) (out : List (Pt × Pt)) (last : Pt), (∀ s ∈ S, Nice s) → SP out → (last.d = 0 ∨ Nice last) →
    SP (S.foldl (rwalkM e) (out, last)).1 ∧ ∀ x, x ∈ (S.foldl (rwalkM e) (out, last)).1 ↔ x ∈ out ∨ (last.d ≠ 0 ∧ x.1 = last ∧ S.find? (fun s => onB s e.1 e.2) = some x.2) ∨ AL (fun s => onB s e.1 e.2) S x
  | [], out, last, _, h, _ => ⟨h, fun x => by simp [AL]⟩
  | s :: S, out, last, hS, h, hl => by
    have hs := hS s (List.mem_cons_self ..)
    have hS' : ∀ y ∈ S, Nice y := fun y hy => hS y (List.mem_cons_of_mem _ hy)
    rw [List.foldl_cons]
    unfold AL
    rw [List.find?_cons]
    have sd := hs.d
    have sd0 : s.d ≠ 0 := by omega
    cases c : onB s e.1 e.2
    · have er : rwalkM e (out, last) s = (out, last) := by unfold rwalkM; rw [c]; rfl
      rw [er]
      obtain ⟨a1, a2⟩ := walk_spec e S out last hS' h hl
      refine ⟨a1, fun x => ?_⟩
      rw [a2]; simp
    · by_cases k : last.d = 0 ∨ knownB out (last, s) = true
      · have er : rwalkM e (out, last) s = (out, s) := by unfold rwalkM; rw [c, if_pos rfl, if_pos k]
        rw [er]
        obtain ⟨a1, a2⟩ := walk_spec e S out s hS' h (.inr hs)
        refine ⟨a1, fun x => ?_⟩
        rw [a2]
        constructor
        · rintro (h1 | ⟨_, h2, h3⟩ | h1)
          · exact .inl h1
          · exact .inr (.inr (.inl ⟨rfl, h2, h3⟩))
          · exact .inr (.inr (.inr h1))
        · rintro (h1 | ⟨h1, h2, h3⟩ | ⟨_, h2, h3⟩ | h1)
          · exact .inl h1
          · rcases k with k | k
            · exact absurd k h1
            · refine .inl ?_
              have hx : x = (last, s) := Prod.ext h2 (by simpa using h3.symm)
              rw [hx]; exact known_iff.1 k
          · exact .inr (.inl ⟨sd0, h2, h3⟩)
          · exact .inr (.inr h1)
      · have er : rwalkM e (out, last) s = (sortM out (last, s), s) := by unfold rwalkM; rw [c, if_pos rfl, if_neg k]
        rw [er]
        have k1 : last.d ≠ 0 := fun z => k (.inl z)
        have k2 : (last, s) ∉ out := fun z => k (.inr (known_iff.2 z))
        have hl' : Nice last := hl.resolve_left k1
        obtain ⟨b1, b2⟩ := sort_spec (x := (last, s)) h ⟨hl', hs⟩ k2
        obtain ⟨a1, a2⟩ := walk_spec e S _ s hS' b1 (.inr hs)
        refine ⟨a1, fun x => ?_⟩
        rw [a2, b2]
        constructor
        · rintro ((h1 | h1) | ⟨_, h2, h3⟩ | h1)
          · subst h1; exact .inr (.inl ⟨k1, rfl, rfl⟩)
          · exact .inl h1
          · exact .inr (.inr (.inl ⟨rfl, h2, h3⟩))
          · exact .inr (.inr (.inr h1))
        · rintro (h1 | ⟨h1, h2, h3⟩ | ⟨_, h2, h3⟩ | h1)
          · exact .inl (.inr h1)
          · exact .inl (.inl (Prod.ext h2 (by simpa using h3.symm)))
          · exact .inr (.inl ⟨sd0, h2, h3⟩)
          · exact .inr (.inr h1)
theorem rpairs_spec {S : List Pt} (hS : ∀ s ∈ S, Nice s) : ∀ (E : List (Pt × Pt)) (out : List (Pt × Pt)), SP out → SP (E.foldl (fun out e => (S.foldl (rwalkM e) (out, zP)).1) out) ∧ ∀ x, x ∈ E.foldl (fun out e => (S.foldl (rwalkM e) (out, zP)).1) out ↔ x ∈ out ∨ ∃ e ∈ E, AL (fun s => onB s e.1 e.2) S x
  | [], out, h => ⟨h, fun x => by simp⟩
  | e :: E, out, h => by
    obtain ⟨a1, a2⟩ := walk_spec e S out zP hS h (.inl rfl)
    obtain ⟨b1, b2⟩ := rpairs_spec hS E _ a1
    refine ⟨b1, fun x => ?_⟩
    rw [List.foldl_cons, b2, a2]
    have z : ¬ (zP.d ≠ 0) := by simp [zP]
    constructor
    · rintro ((h1 | ⟨h1, _⟩ | h1) | ⟨f, hf, h1⟩)
      · exact .inl h1
      · exact absurd h1 z
      · exact .inr ⟨e, List.mem_cons_self .., h1⟩
      · exact .inr ⟨f, List.mem_cons_of_mem _ hf, h1⟩
    · rintro (h1 | ⟨f, hf, h1⟩)
      · exact .inl (.inl h1)
      · rcases List.mem_cons.1 hf with rfl | hf
        · exact .inl (.inr (.inr h1))
        · exact .inr ⟨f, hf, h1⟩
/-- Both have the same pieces. -/
theorem pairs_eq {E : List (Pt × Pt)} {S : List Pt} (hE : ∀ e ∈ E, Gr e.1 ∧ Gr e.2) (hS : SN S) : rpairsM E S = pairsL E S := by
  obtain ⟨a1, a2⟩ := rpairs_spec hS.nc E [] ⟨List.Pairwise.nil, fun x hx => by cases hx⟩
  obtain ⟨b1, b2⟩ := pairs_spec E hS
  refine srt_unique PR_irr PR_asy a1.srt b1 fun x => ?_
  show x ∈ E.foldl (fun out e => (S.foldl (rwalkM e) (out, zP)).1) [] ↔ _
  rw [a2, b2]
  constructor
  · rintro (h | ⟨e, he, h⟩)
    · cases h
    · exact ⟨e, he, (AL_congr (fun s hs => has_on (by have := (hE e he).1.d; omega) (by have := (hE e he).2.d; omega) (hS.nc s hs).d) x).2 h⟩
  · rintro ⟨e, he, h⟩
    exact .inr ⟨e, he, (AL_congr (fun s hs => has_on (by have := (hE e he).1.d; omega) (by have := (hE e he).2.d; omega) (hS.nc s hs).d) x).1 h⟩
end Go.Proofs.YtkmapffhfmgfeaaGreat
namespace Go.Proofs.YtkmapffhfmgfeaaGreat
set_option linter.unusedVariables false
set_option linter.unusedSimpArgs false
set_option linter.unusedSectionVars false

/-- A shear that turns the order of these places into that of their heights. -/
theorem shear (L : List Pt) : ∃ K : Int, ∀ u ∈ L, ∀ v ∈ L, befB u v = decide (0 < yv (shP K u) (shP K v)) := by
  obtain ⟨K, _, h⟩ := bounded (fun uv : Pt × Pt => yv uv.1 uv.2) (L.flatMap (fun u => L.map (fun v => (u, v))))
  refine ⟨K, fun u hu v hv => ?_⟩
  have b := h (u, v) (List.mem_flatMap.2 ⟨u, hu, List.mem_map.2 ⟨v, hv, rfl⟩⟩)
  rw [← sh_up (K := K) b.1 b.2]
  unfold upB; simp
theorem bef_h {K : Int} {u v : Pt} (h : befB u v = decide (0 < yv (shP K u) (shP K v))) : (befB u v = true ↔ 0 < yv (shP K u) (shP K v)) ∧ (befB u v = false ↔ yv (shP K u) (shP K v) ≤ 0) := by
  rw [h]; simp
theorem yv_neg (u v : Pt) : yv u v = -yv v u := by unfold yv; grind
/-- p, q, X on one line: what a measure says at X. -/
theorem line_lin (p q X a b : Pt) (h : detM p q X = 0) : yv p q * detM a b X = yv X q * detM a b p + yv p X * detM a b q := by
  have : yv p q * detM a b X - (yv X q * detM a b p + yv p X * detM a b q) = detM p q X * yv a b := by unfold yv detM; grind
  rw [h] at this; simp at this; omega
theorem line_sum (p q X : Pt) : X.d * yv p q = q.d * yv p X + p.d * yv X q := by unfold yv; grind
section
variable {p q a b v : Pt} (hp : 0 < p.d) (hq : 0 < q.d) (ha : 0 < a.d) (hb : 0 < b.d) (hv : 0 < v.d)
include hp hq ha hb hv
theorem with_between (h1 : withB p a b = true) (h2 : withB q a b = true) (b1 : befB p v = true) (b2 : befB v q = true) : withB v a b = true := by
  unfold withB loM hiM at *
  by_cases c : befB b a = true
  · simp only [if_pos c, Bool.and_eq_true, Bool.not_eq_true'] at *
    refine ⟨?_, ?_⟩
    · cases k : befB v b
      · rfl
      · have := bef_lt hv hb hp k (q := p) b1; rw [h1.1] at this; cases this
    · cases k : befB a v
      · rfl
      · have := bef_lt hv hq ha b2 (q := a) k; rw [h2.2] at this; cases this
  · simp only [if_neg c, Bool.and_eq_true, Bool.not_eq_true'] at *
    refine ⟨?_, ?_⟩
    · cases k : befB v a
      · rfl
      · have := bef_lt hv ha hp k (q := p) b1; rw [h1.1] at this; cases this
    · cases k : befB b v
      · rfl
      · have := bef_lt hv hq hb b2 (q := b) k; rw [h2.2] at this; cases this
end
theorem on_parts {s a b : Pt} (h : onB s a b = true) : detM a b s = 0 ∧ withB s a b = true := by
  unfold onB at h; simpa using h
/-- Between two places on an edge, on their line: on the edge. -/
theorem on_between {p q a b v : Pt} (hp : 0 < p.d) (hq : 0 < q.d) (ha : 0 < a.d) (hb : 0 < b.d) (hv : 0 < v.d) (hne : befB a b = true ∨ befB b a = true)
    (h1 : onB p a b = true) (h2 : onB q a b = true) (b1 : befB p v = true) (b2 : befB v q = true) (hl : detM p q v = 0) : onB v a b = true := by
  obtain ⟨z1, w1⟩ := on_parts h1
  obtain ⟨z2, w2⟩ := on_parts h2
  obtain ⟨K, hK⟩ := shear [p, q, a, b, v]
  have hpq : befB p q = true := bef_lt hv hq hp b2 b1
  have Y := (bef_h (hK p (by simp) q (by simp))).1.1 hpq
  have hd : yv (shP K a) (shP K b) ≠ 0 := by
    have e := yv_neg (shP K a) (shP K b)
    rcases hne with h | h
    · have := (bef_h (hK a (by simp) b (by simp))).1.1 h; omega
    · have := (bef_h (hK b (by simp) a (by simp))).1.1 h; omega
  obtain ⟨A0, B0⟩ := col_of hp (by omega) hd z1 z2
  have pl := plk2 (p := shP K p) (q := shP K q) (a := shP K a) (b := shP K b) (shP K v) (by rw [sh_det]; exact A0) (by rw [sh_det]; exact B0)
  rw [sh_det, sh_det, hl, Int.mul_zero] at pl
  have z : detM a b v = 0 := by
    rcases Int.mul_eq_zero.1 pl with c | c
    · omega
    · exact c
  unfold onB
  rw [z, with_between hp hq ha hb hv w1 w2 b1 b2]; rfl
theorem holds_det {a b X : Pt} (h : holdsB a b X = true) : detM a b X = 0 := ((holds_iff a b X).1 h).1

/-- An edge that crosses the piece meets the edge that bears it within the piece. -/
theorem cross_spot {p q a b c d : Pt} (hp : 0 < p.d) (hq : 0 < q.d) (ha : Gr a) (hb : Gr b) (hc : Gr c) (hd : Gr d) (hab : a ≠ b) (hcd : c ≠ d) (hpq : befB p q = true)
    (h1 : onB p a b = true) (h2 : onB q a b = true) (hx : crossB p q c d = true) :
    ∃ X, inMt (meetM a b c d) X ∧ 0 < X.d ∧ befB p X = true ∧ befB X q = true ∧ detM p q X = 0 := by
  have da : 0 < a.d := by have := ha.d; omega
  have db : 0 < b.d := by have := hb.d; omega
  obtain ⟨z1, w1⟩ := on_parts h1
  obtain ⟨z2, w2⟩ := on_parts h2
  have tri : ∀ u v : Pt, u.d = 1 → v.d = 1 → u ≠ v → befB u v = true ∨ befB v u = true := fun u v hu hv hne => by
    rcases L_tri hu hv with t | t | t
    · exact .inl ((bef_L hu hv).2 t)
    · exact absurd t hne
    · exact .inr ((bef_L hv hu).2 t)
  have nab := tri a b ha.d hb.d hab
  unfold crossB apartB at hx
  simp only [Bool.and_eq_true, Bool.or_eq_true, decide_eq_true_eq] at hx
  obtain ⟨hx1, hx2⟩ := hx
  rcases meet_cases ha hb hc hd hab hcd with ⟨e, hs⟩ | ⟨X, e, _, xd, m1, m2, _⟩ | ⟨X, Y', e, gX, gY, m1, m2, m3, m4, bXY, _⟩
  · -- they are not apart
    exfalso
    obtain ⟨K, hK⟩ := shear [p, q, a, b]
    have Y := (bef_h (hK p (by simp) q (by simp))).1.1 hpq
    have hdd : yv (shP K a) (shP K b) ≠ 0 := by
      have e := yv_neg (shP K a) (shP K b)
      rcases nab with h | h
      · have := (bef_h (hK a (by simp) b (by simp))).1.1 h; omega
      · have := (bef_h (hK b (by simp) a (by simp))).1.1 h; omega
    obtain ⟨A0, B0⟩ := col_of hp (by omega) hdd z1 z2
    have pc := plk2 (p := shP K p) (q := shP K q) (a := shP K a) (b := shP K b) (shP K c) (by rw [sh_det]; exact A0) (by rw [sh_det]; exact B0)
    have pd := plk2 (p := shP K p) (q := shP K q) (a := shP K a) (b := shP K b) (shP K d) (by rw [sh_det]; exact A0) (by rw [sh_det]; exact B0)
    rw [sh_det, sh_det] at pc pd
    have lp := line_lin (shP K a) (shP K b) (shP K p) (shP K c) (shP K d) (by rw [sh_det]; exact z1)
    have lq := line_lin (shP K a) (shP K b) (shP K q) (shP K c) (shP K d) (by rw [sh_det]; exact z2)
    simp only [sh_det] at lp lq
    -- heights of p, q against a, b
    have hts : (0 < yv (shP K a) (shP K b) ∧ 0 ≤ yv (shP K a) (shP K p) ∧ 0 ≤ yv (shP K p) (shP K b) ∧ 0 ≤ yv (shP K a) (shP K q) ∧ 0 ≤ yv (shP K q) (shP K b)) ∨ (yv (shP K a) (shP K b) < 0 ∧ yv (shP K a) (shP K p) ≤ 0 ∧ yv (shP K p) (shP K b) ≤ 0 ∧ yv (shP K a) (shP K q) ≤ 0 ∧ yv (shP K q) (shP K b) ≤ 0) := by
      have e1 := yv_neg (shP K a) (shP K b)
      have e2 := yv_neg (shP K a) (shP K p)
      have e3 := yv_neg (shP K a) (shP K q)
      have e4 := yv_neg (shP K p) (shP K b)
      have e5 := yv_neg (shP K q) (shP K b)
      unfold withB loM hiM at w1 w2
      by_cases cc : befB b a = true
      · simp only [if_pos cc, Bool.and_eq_true, Bool.not_eq_true'] at w1 w2
        have k0 := (bef_h (hK b (by simp) a (by simp))).1.1 cc
        have k1 := (bef_h (hK p (by simp) b (by simp))).2.1 w1.1
        have k2 := (bef_h (hK a (by simp) p (by simp))).2.1 w1.2
        have k3 := (bef_h (hK q (by simp) b (by simp))).2.1 w2.1
        have k4 := (bef_h (hK a (by simp) q (by simp))).2.1 w2.2
        exact .inr (by omega)
      · have cc' : befB a b = true := nab.resolve_right cc
        simp only [if_neg cc, Bool.and_eq_true, Bool.not_eq_true'] at w1 w2
        have k0 := (bef_h (hK a (by simp) b (by simp))).1.1 cc'
        have k1 := (bef_h (hK p (by simp) a (by simp))).2.1 w1.1
        have k2 := (bef_h (hK b (by simp) p (by simp))).2.1 w1.2
        have k3 := (bef_h (hK q (by simp) a (by simp))).2.1 w2.1
        have k4 := (bef_h (hK b (by simp) q (by simp))).2.1 w2.2
        have f2 := yv_neg (shP K p) (shP K a)
        have f3 := yv_neg (shP K q) (shP K a)
        have f4 := yv_neg (shP K b) (shP K p)
        have f5 := yv_neg (shP K b) (shP K q)
        exact .inl (by omega)
    generalize yv (shP K a) (shP K b) = D at *
    generalize yv (shP K p) (shP K q) = Yv at *
    generalize yv (shP K a) (shP K p) = ap at *
    generalize yv (shP K p) (shP K b) = pb at *
    generalize yv (shP K a) (shP K q) = aq at *
    generalize yv (shP K q) (shP K b) = qb at *
    generalize detM c d a = u at *
    generalize detM c d b = w at *
    generalize detM c d p = al at *
    generalize detM c d q = be at *
    generalize detM a b c = C at *
    generalize detM a b d = D' at *
    generalize detM p q c = C0 at *
    generalize detM p q d = D0 at *
    -- the ends of the other edge lie on different sides
    have hne0 : (C < 0 ∧ 0 < D') ∨ (0 < C ∧ D' < 0) := by
      have sg : ∀ {x y : Int}, Yv * x = D * y → y ≠ 0 → ((0 < D → (0 < x ↔ 0 < y)) ∧ (0 < D → (x < 0 ↔ y < 0)) ∧ (D < 0 → (0 < x ↔ y < 0)) ∧ (D < 0 → (x < 0 ↔ 0 < y))) := fun {x y} hxy hy => by
        rcases Int.lt_trichotomy x 0 with cx | cx | cx
        · have m1 := mul_pn Y cx
          refine ⟨fun hD => ?_, fun hD => ?_, fun hD => ?_, fun hD => ?_⟩
          all_goals rcases Int.lt_or_gt_of_ne hy with cy | cy
          · omega
          · have := mul_pp hD cy; omega
          · omega
          · have := mul_pp hD cy; omega
          · have := mul_nn hD cy; omega
          · omega
          · have := mul_nn hD cy; omega
          · omega
        · subst cx
          rw [Int.mul_zero] at hxy
          rcases Int.mul_eq_zero.1 hxy.symm with k | k
          · exact absurd k hdd
          · exact absurd k hy
        · have m1 := mul_pp Y cx
          refine ⟨fun hD => ?_, fun hD => ?_, fun hD => ?_, fun hD => ?_⟩
          all_goals rcases Int.lt_or_gt_of_ne hy with cy | cy
          · have := mul_pn hD cy; omega
          · omega
          · have := mul_pn hD cy; omega
          · omega
          · omega
          · have := mul_np hD cy; omega
          · omega
          · have := mul_np hD cy; omega
      have s1 := sg pc (by omega)
      have s2 := sg pd (by omega)
      rcases hts with ⟨hD, _⟩ | ⟨hD, _⟩
      · have := s1.1 hD; have := s1.2.1 hD; have := s2.1 hD; have := s2.2.1 hD; omega
      · have := s1.2.2.1 hD; have := s1.2.2.2 hD; have := s2.2.2.1 hD; have := s2.2.2.2 hD; omega
    -- the ends of the bearing edge do not lie on one side
    have hns : ¬ ((u < 0 ∧ w < 0) ∨ (0 < u ∧ 0 < w)) := by
      intro hh
      rcases hts with ⟨hD, t1, t2, t3, t4⟩ | ⟨hD, t1, t2, t3, t4⟩
      · rcases hh with ⟨c1, c2⟩ | ⟨c1, c2⟩
        · have a1 := mul_gl t2 (Int.le_of_lt c1); have a2 := mul_gl t1 (Int.le_of_lt c2)
          have a3 := mul_gl t4 (Int.le_of_lt c1); have a4 := mul_gl t3 (Int.le_of_lt c2)
          rcases hx2 with ⟨x1, x2⟩ | ⟨x1, x2⟩
          · have := mul_pp hD x2; omega
          · have := mul_pp hD x1; omega
        · have a1 := mul_gg t2 (Int.le_of_lt c1); have a2 := mul_gg t1 (Int.le_of_lt c2)
          have a3 := mul_gg t4 (Int.le_of_lt c1); have a4 := mul_gg t3 (Int.le_of_lt c2)
          rcases hx2 with ⟨x1, x2⟩ | ⟨x1, x2⟩
          · have := mul_pn hD x1; omega
          · have := mul_pn hD x2; omega
      · rcases hh with ⟨c1, c2⟩ | ⟨c1, c2⟩
        · have a1 := mul_ll t2 (Int.le_of_lt c1); have a2 := mul_ll t1 (Int.le_of_lt c2)
          have a3 := mul_ll t4 (Int.le_of_lt c1); have a4 := mul_ll t3 (Int.le_of_lt c2)
          rcases hx2 with ⟨x1, x2⟩ | ⟨x1, x2⟩
          · have := mul_np hD x2; omega
          · have := mul_np hD x1; omega
        · have a1 := mul_lg t2 (Int.le_of_lt c1); have a2 := mul_lg t1 (Int.le_of_lt c2)
          have a3 := mul_lg t4 (Int.le_of_lt c1); have a4 := mul_lg t3 (Int.le_of_lt c2)
          rcases hx2 with ⟨x1, x2⟩ | ⟨x1, x2⟩
          · have := mul_nn hD x1; omega
          · have := mul_nn hD x2; omega
    rw [sides_one, sides_one] at hs
    have s0 : sidesM C D' ≠ 0 := by unfold sidesM; rw [if_neg (by omega)]; split <;> decide
    rcases hs with hs | hs | hs
    · omega
    · exact hns hs
    · exact s0 hs.1
  · -- they touch
    refine ⟨X, .inl ⟨by rw [e]; show (1 : Int) ≠ 0; decide, by rw [e]⟩, xd, ?_⟩
    have y1 := holds_det m1
    have y2 := holds_det m2
    obtain ⟨K, hK⟩ := shear [p, q, a, b, X]
    have Y := (bef_h (hK p (by simp) q (by simp))).1.1 hpq
    have hdd : yv (shP K a) (shP K b) ≠ 0 := by
      have e := yv_neg (shP K a) (shP K b)
      rcases nab with h | h
      · have := (bef_h (hK a (by simp) b (by simp))).1.1 h; omega
      · have := (bef_h (hK b (by simp) a (by simp))).1.1 h; omega
    have px := plk2 (p := shP K a) (q := shP K b) (a := shP K p) (b := shP K q) (shP K X) (by rw [sh_det]; exact z1) (by rw [sh_det]; exact z2)
    rw [sh_det, sh_det, y1, Int.mul_zero] at px
    have hl : detM p q X = 0 := by
      rcases Int.mul_eq_zero.1 px with k | k
      · exact absurd k hdd
      · exact k
    have ll := line_lin (shP K p) (shP K q) (shP K X) (shP K c) (shP K d) (by rw [sh_det]; exact hl)
    simp only [sh_det, y2, Int.mul_zero] at ll
    have ls := line_sum (shP K p) (shP K q) (shP K X)
    have e1 : (shP K p).d = p.d := rfl
    have e2 : (shP K q).d = q.d := rfl
    have e3 : (shP K X).d = X.d := rfl
    rw [e1, e2, e3] at ls
    have lp := mul_pp xd Y
    have k1 := bef_h (hK p (by simp) X (by simp))
    have k2 := bef_h (hK X (by simp) q (by simp))
    rw [k1.1, k2.1]
    generalize yv (shP K p) (shP K X) = s at *
    generalize yv (shP K X) (shP K q) = t at *
    generalize detM c d p = al at *
    generalize detM c d q = be at *
    have both : 0 < s ∧ 0 < t := by
      rcases Int.lt_or_le 0 s with c1 | c1
      · rcases Int.lt_or_le 0 t with c2 | c2
        · exact ⟨c1, c2⟩
        · exfalso
          rcases hx2 with ⟨x1, x2⟩ | ⟨x1, x2⟩
          · have := mul_ll c2 (Int.le_of_lt x1); have := mul_pp c1 x2; omega
          · have := mul_lg c2 (Int.le_of_lt x1); have := mul_pn c1 x2; omega
      · exfalso
        have c2 : 0 < t := by
          rcases Int.lt_or_le 0 t with c2 | c2
          · exact c2
          · have := mul_gl (Int.le_of_lt hq) c1; have := mul_gl (Int.le_of_lt hp) c2; omega
        rcases hx2 with ⟨x1, x2⟩ | ⟨x1, x2⟩
        · have := mul_pn c2 x1; have := mul_lg c1 (Int.le_of_lt x2); omega
        · have := mul_pp c2 x1; have := mul_ll c1 (Int.le_of_lt x2); omega
    exact ⟨both.1, both.2, hl⟩
  · -- they do not lie along each other
    exfalso
    have y1 := holds_det m1
    have y2 := holds_det m2
    have y3 := holds_det m3
    have y4 := holds_det m4
    have ncd := tri c d hc.d hd.d hcd
    have key : ∀ u v : Pt, befB u v = true ↔ (0 < xv u v ∨ (xv u v = 0 ∧ 0 < yv u v)) := fun u v => by rw [bef_iff]; unfold xv yv; omega
    obtain ⟨K, hK⟩ := shear [p, q, a, b, X, Y', c, d]
    have Y := (bef_h (hK p (by simp) q (by simp))).1.1 hpq
    have hdd : yv (shP K a) (shP K b) ≠ 0 := by
      have e := yv_neg (shP K a) (shP K b)
      rcases nab with h | h
      · have := (bef_h (hK a (by simp) b (by simp))).1.1 h; omega
      · have := (bef_h (hK b (by simp) a (by simp))).1.1 h; omega
    have XY := (bef_h (hK X (by simp) Y' (by simp))).1.1 bXY
    -- c lies on the line of a and b
    have q1 := plk2 (p := shP K c) (q := shP K d) (a := shP K X) (b := shP K Y') (shP K c) (by rw [sh_det]; exact y2) (by rw [sh_det]; exact y4)
    rw [sh_det, sh_det] at q1
    have z0 : detM c d c = 0 := by unfold detM; grind
    have hcd0 : yv (shP K c) (shP K d) ≠ 0 := by
      have e := yv_neg (shP K c) (shP K d)
      rcases ncd with h | h
      · have := (bef_h (hK c (by simp) d (by simp))).1.1 h; omega
      · have := (bef_h (hK d (by simp) c (by simp))).1.1 h; omega
    rw [z0, Int.mul_zero] at q1
    have c0 : detM X Y' c = 0 := by
      rcases Int.mul_eq_zero.1 q1 with k | k
      · exact absurd k hcd0
      · exact k
    have q2 := plk2 (p := shP K a) (q := shP K b) (a := shP K X) (b := shP K Y') (shP K c) (by rw [sh_det]; exact y1) (by rw [sh_det]; exact y3)
    rw [sh_det, sh_det, c0, Int.mul_zero] at q2
    have c1 : detM a b c = 0 := by
      rcases Int.mul_eq_zero.1 q2.symm with k | k
      · omega
      · exact k
    have q3 := plk2 (p := shP K a) (q := shP K b) (a := shP K p) (b := shP K q) (shP K c) (by rw [sh_det]; exact z1) (by rw [sh_det]; exact z2)
    rw [sh_det, sh_det, c1, Int.mul_zero] at q3
    rcases Int.mul_eq_zero.1 q3 with k | k
    · exact hdd k
    · omega
end Go.Proofs.YtkmapffhfmgfeaaGreat
