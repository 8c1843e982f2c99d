import Derived.Test.YtnkcbephceollabQ10
namespace Go.Proofs.Ytnkcbephceollab
set_option linter.unusedVariables false
set_option linter.unusedSimpArgs false
set_option linter.unusedSectionVars false

/-- Just beyond m, as seen from o. -/
def pastP (T : Int) (o m : Pt) : Pt := ⟨T * m.x - o.x, T * m.y - o.y, T * m.d - o.d⟩
theorem past_det (T : Int) (o m a b : Pt) : detM a b (pastP T o m) = T * detM a b m - detM a b o := by unfold detM pastP; grind
theorem past_way (T : Int) (o m v : Pt) : detM o (pastP T o m) v = T * detM o m v := by unfold detM pastP; grind
theorem past_yv (T : Int) (o m v : Pt) : yv (pastP T o m) v = T * yv m v - yv o v := by unfold yv pastP; grind
theorem sh_past (K T : Int) (o m : Pt) : shP K (pastP T o m) = pastP T (shP K o) (shP K m) := by
  unfold shP pastP; simp only [Pt.mk.injEq, true_and, and_true]; grind
theorem plk (o m a b : Pt) : yv a b * detM o m a = detM a b m * yv a o - detM a b o * yv a m := by unfold yv detM; grind
theorem plk2 {p q a b : Pt} (o : Pt) (h1 : detM p q a = 0) (h2 : detM p q b = 0) : yv p q * detM a b o = yv a b * detM p q o := by
  have : yv p q * detM a b o - yv a b * detM p q o = detM p q a * yv b o - detM p q b * yv a o := by unfold yv detM; grind
  rw [h1, h2] at this
  omega
theorem big_sg {T x y : Int} (h1 : -T < y) (h2 : y < T) (hx : x ≠ 0) : (T * x - y < 0 ↔ x < 0) ∧ (0 < T * x - y ↔ 0 < x) := by
  have hT : 0 < T := by omega
  rcases Int.lt_or_gt_of_ne hx with c | c
  · have e : T * (x + 1) ≤ 0 := mul_gl (Int.le_of_lt hT) (by omega)
    have e2 : T * (x + 1) = T * x + T := by grind
    omega
  · have e : 0 ≤ T * (x - 1) := mul_gg (Int.le_of_lt hT) (by omega)
    have e2 : T * (x - 1) = T * x - T := by grind
    omega
/-- The way past an edge through m. -/
def thrB (o m a b : Pt) : Bool := onB m a b && ((befB a b && decide (0 < detM a b o)) || (befB b a && decide (detM a b o < 0)))

section
variable {o m a b : Pt} {K T : Int} (ho : 0 < o.d) (hm : 0 < m.d) (ha : 0 < a.d) (hb : 0 < b.d)
  (ka : -K < yv m a ∧ yv m a < K) (kb : -K < yv m b ∧ yv m b < K) (kab : -K < yv a b ∧ yv a b < K)
  (hA : detM o m a ≠ 0) (hB : detM o m b ≠ 0) (hne : befB a b = true ∨ befB b a = true)
include ho hm ha hb ka kb kab hA hB hne
theorem on_apart (h0 : detM a b m = 0) : onB m a b = apartB (detM o m a) (detM o m b) := by
  cases hon : onB m a b
  · cases hap : apartB (detM o m a) (detM o m b)
    · rfl
    · exfalso
      refine nz_cross (o := o) hm ha hb hon ?_ h0
      unfold apartB at hap
      simp only [Bool.or_eq_true, Bool.and_eq_true, decide_eq_true_eq] at hap
      exact hap
  · -- m lies between a and b
    have I := id1 (shP K o) (shP K m) (shP K a) (shP K b)
    rw [sh_det, sh_det, sh_det, h0, Int.mul_zero] at I
    have ua := sh_up ka.1 ka.2
    have ub := sh_up kb.1 kb.2
    have upd : ∀ u v, upB false u v = decide (0 < yv u v) := fun u v => by unfold upB; simp
    rw [upd] at ua ub
    have hd : yv (shP K a) (shP K b) ≠ 0 := by
      intro e
      have sw : ∀ u v, yv u v = -yv v u := fun u v => by unfold yv; grind
      have e' := sw (shP K a) (shP K b)
      have w1 := sh_up kab.1 kab.2
      have w2 := sh_up (K := K) (q := b) (v := a) (by have := sw b a; omega) (by have := sw b a; omega)
      rw [upd] at w1 w2
      rcases hne with h | h
      · rw [h] at w1; have := of_decide_eq_true w1; omega
      · rw [h] at w2; have := of_decide_eq_true w2; omega
    have J : (shP K m).d * yv (shP K a) (shP K b) = (shP K a).d * yv (shP K m) (shP K b) - (shP K b).d * yv (shP K m) (shP K a) := by unfold yv; grind
    have hw : withB m a b = true := by unfold onB at hon; simp at hon; exact hon.2
    -- not both above nor both below
    have lt : (yv (shP K m) (shP K a) ≤ 0 ∧ 0 ≤ yv (shP K m) (shP K b)) ∨ (0 ≤ yv (shP K m) (shP K a) ∧ yv (shP K m) (shP K b) ≤ 0) := by
      unfold withB loM hiM at hw
      have sw : ∀ u v, yv u v = -yv v u := fun u v => by unfold yv; grind
      have va := sh_up (K := K) (q := a) (v := m) (by have := sw a m; omega) (by have := sw a m; omega)
      have vb := sh_up (K := K) (q := b) (v := m) (by have := sw b m; omega) (by have := sw b m; omega)
      rw [upd, sw (shP K a)] at va
      rw [upd, sw (shP K b)] at vb
      by_cases c : befB b a = true
      · simp only [if_pos c, Bool.and_eq_true, Bool.not_eq_true'] at hw
        rw [hw.1] at ub; rw [hw.2] at va
        have := of_decide_eq_false ub; have := of_decide_eq_false va
        omega
      · simp only [if_neg c, Bool.and_eq_true, Bool.not_eq_true'] at hw
        rw [hw.1] at ua; rw [hw.2] at vb
        have := of_decide_eq_false ua; have := of_decide_eq_false vb
        omega
    generalize yv (shP K m) (shP K a) = am at *
    generalize yv (shP K m) (shP K b) = bm at *
    generalize detM o m a = A at *
    generalize detM o m b = B at *
    have z1 : am ≠ 0 := fun e => by
      rw [e, Int.mul_zero, Int.sub_zero] at I
      rcases Int.mul_eq_zero.1 I.symm with c | c
      · exact hA c
      · rw [e, c, Int.mul_zero, Int.mul_zero, Int.sub_zero] at J
        rcases Int.mul_eq_zero.1 J with c | c
        · have : (shP K m).d = m.d := rfl
          omega
        · exact hd c
    have z2 : bm ≠ 0 := fun e => by
      rw [e, Int.mul_zero, Int.zero_sub] at I
      have I' : B * am = 0 := by omega
      rcases Int.mul_eq_zero.1 I' with c | c
      · exact hB c
      · exact z1 c
    symm
    unfold apartB
    simp only [Bool.or_eq_true, Bool.and_eq_true, decide_eq_true_eq]
    have I' : A * bm = B * am := by omega
    rcases lt with ⟨l1, l2⟩ | ⟨l1, l2⟩
    · have l1' : am < 0 := by omega
      have l2' : 0 < bm := by omega
      rcases Int.lt_or_gt_of_ne hA with c | c <;> rcases Int.lt_or_gt_of_ne hB with d | d
      · have := mul_np c l2'; have := mul_nn d l1'; omega
      · omega
      · omega
      · have := mul_pp c l2'; have := mul_pn d l1'; omega
    · have l1' : 0 < am := by omega
      have l2' : bm < 0 := by omega
      rcases Int.lt_or_gt_of_ne hA with c | c <;> rcases Int.lt_or_gt_of_ne hB with d | d
      · have := mul_nn c l2'; have := mul_np d l1'; omega
      · omega
      · omega
      · have := mul_pn c l2'; have := mul_pp d l1'; omega
/-- o is on no edge's line that m is on. -/
theorem om_nz (h0 : detM a b m = 0) : detM a b o ≠ 0 := by
  intro e
  have pl := plk (shP K o) (shP K m) (shP K a) (shP K b)
  rw [sh_det, sh_det, sh_det, h0, e, Int.zero_mul, Int.zero_mul, Int.sub_zero] at pl
  rcases Int.mul_eq_zero.1 pl with c | c
  · have upd : ∀ u v, upB false u v = decide (0 < yv u v) := fun u v => by unfold upB; simp
    have sw : ∀ u v, yv u v = -yv v u := fun u v => by unfold yv; grind
    have e' := sw (shP K a) (shP K b)
    have w1 := sh_up kab.1 kab.2
    have w2 := sh_up (K := K) (q := b) (v := a) (by have := sw b a; omega) (by have := sw b a; omega)
    rw [upd] at w1 w2
    rcases hne with h | h
    · rw [h] at w1; have := of_decide_eq_true w1; omega
    · rw [h] at w2; have := of_decide_eq_true w2; omega
  · exact hA c
theorem past_nz (t1 : -T < detM a b o ∧ detM a b o < T) : detM a b (pastP T o m) ≠ 0 := by
  rw [past_det]
  by_cases h0 : detM a b m = 0
  · have := om_nz ho hm ha hb ka kb kab hA hB hne h0
    rw [h0, Int.mul_zero]; omega
  · have := big_sg t1.1 t1.2 h0
    omega
theorem past_cross (t1 : -T < detM a b o ∧ detM a b o < T) : crossB o (pastP T o m) a b = (crossB o m a b ^^ onB m a b) := by
  have hT : 0 < T := by omega
  have sc : ∀ x : Int, (T * x < 0 ↔ x < 0) ∧ (0 < T * x ↔ 0 < x) := fun x => by
    rcases Int.lt_trichotomy x 0 with c | c | c
    · have := mul_pn hT c; omega
    · subst c; rw [Int.mul_zero]; omega
    · have := mul_pp hT c; omega
  unfold crossB
  rw [past_way, past_way, past_det]
  have e1 : apartB (T * detM o m a) (T * detM o m b) = apartB (detM o m a) (detM o m b) := by
    unfold apartB; simp only [(sc _).1, (sc _).2]
  rw [e1]
  by_cases h0 : detM a b m = 0
  · rw [on_apart ho hm ha hb ka kb kab hA hB hne h0]
    have nz := om_nz ho hm ha hb ka kb kab hA hB hne h0
    rw [h0, Int.mul_zero]
    have e2 : apartB (detM a b o) (0 - detM a b o) = true := by unfold apartB; simp; omega
    have e3 : apartB (detM a b o) 0 = false := by unfold apartB; simp
    rw [e2, e3]; cases apartB (detM o m a) (detM o m b) <;> rfl
  · have e2 : apartB (detM a b o) (T * detM a b m - detM a b o) = apartB (detM a b o) (detM a b m) := by
      unfold apartB; simp only [(big_sg t1.1 t1.2 h0).1, (big_sg t1.1 t1.2 h0).2]
    have e3 : onB m a b = false := by unfold onB; simp [h0]
    rw [e2, e3]; simp
theorem past_left (t1 : -T < detM a b o ∧ detM a b o < T) (ta : 0 < yv (shP K o) (shP K a) ∧ yv (shP K o) (shP K a) < T) (tb : 0 < yv (shP K o) (shP K b) ∧ yv (shP K o) (shP K b) < T) :
    leftB false (shP K (pastP T o m)) (shP K a) (shP K b) = (overB m a b ^^ thrB o m a b) := by
  have upd : ∀ u v, upB false u v = decide (0 < yv u v) := fun u v => by unfold upB; simp
  have upx : ∀ v, -K < yv m v ∧ yv m v < K → 0 < yv (shP K o) (shP K v) ∧ yv (shP K o) (shP K v) < T → upB false (shP K (pastP T o m)) (shP K v) = befB m v := fun v kv tv => by
    have u := sh_up kv.1 kv.2
    rw [upd] at u ⊢
    rw [← u, sh_past, past_yv]
    refine decide_eq_decide.2 ?_
    by_cases z : yv (shP K m) (shP K v) = 0
    · rw [z, Int.mul_zero]; omega
    · exact (big_sg (by omega) tv.2 z).2
  unfold leftB
  rw [upx a ka ta, upx b kb tb, sh_det, past_det]
  unfold overB thrB
  by_cases h0 : detM a b m = 0
  · rw [h0, Int.mul_zero]
    have d1 : decide ((0 : Int) < 0) = false := rfl
    rw [d1]
    have up := nz_up (q := m) (a := shP K a) (b := shP K b)
    cases ua : befB m a <;> cases ub : befB m b
    · -- both not behind m
      have : onB m a b = false ∨ onB m a b = true := by cases onB m a b <;> simp
      rcases this with h | h
      · rw [h]; simp
      · -- then one of them is m
        exfalso
        have ap := on_apart ho hm ha hb ka kb kab hA hB hne h0
        rw [h] at ap
        have I := id1 (shP K o) (shP K m) (shP K a) (shP K b)
        rw [sh_det, sh_det, sh_det, h0, Int.mul_zero] at I
        have va := sh_up ka.1 ka.2
        have vb := sh_up kb.1 kb.2
        rw [upd, ua] at va
        rw [upd, ub] at vb
        have xa := of_decide_eq_false va
        have xb := of_decide_eq_false vb
        have ap' := ap.symm
        unfold apartB at ap'
        simp only [Bool.or_eq_true, Bool.and_eq_true, decide_eq_true_eq] at ap'
        have J : (shP K m).d * yv (shP K a) (shP K b) = (shP K a).d * yv (shP K m) (shP K b) - (shP K b).d * yv (shP K m) (shP K a) := by unfold yv; grind
        generalize yv (shP K m) (shP K a) = am at *
        generalize yv (shP K m) (shP K b) = bm at *
        have both : am = 0 ∧ bm = 0 := by
          rcases ap' with ⟨p1, p2⟩ | ⟨p1, p2⟩
          · have m1 := mul_ll (Int.le_of_lt p1) (show bm ≤ 0 by omega)
            have m2 := mul_gl (Int.le_of_lt p2) (show am ≤ 0 by omega)
            refine ⟨?_, ?_⟩
            · rcases Int.mul_eq_zero.1 (show detM o m b * am = 0 by omega) with c | c <;> omega
            · rcases Int.mul_eq_zero.1 (show detM o m a * bm = 0 by omega) with c | c <;> omega
          · have m1 := mul_gl (Int.le_of_lt p1) (show bm ≤ 0 by omega)
            have m2 := mul_ll (Int.le_of_lt p2) (show am ≤ 0 by omega)
            refine ⟨?_, ?_⟩
            · rcases Int.mul_eq_zero.1 (show detM o m b * am = 0 by omega) with c | c <;> omega
            · rcases Int.mul_eq_zero.1 (show detM o m a * bm = 0 by omega) with c | c <;> omega
        rw [both.1, both.2, Int.mul_zero, Int.mul_zero, Int.sub_zero] at J
        rcases Int.mul_eq_zero.1 J with c | c
        · have : (shP K m).d = m.d := rfl
          omega
        · have sw : ∀ u v, yv u v = -yv v u := fun u v => by unfold yv; grind
          have e' := sw (shP K a) (shP K b)
          have w1 := sh_up kab.1 kab.2
          have w2 := sh_up (K := K) (q := b) (v := a) (by have := sw b a; omega) (by have := sw b a; omega)
          rw [upd] at w1 w2
          rcases hne with h | h
          · rw [h] at w1; have := of_decide_eq_true w1; omega
          · rw [h] at w2; have := of_decide_eq_true w2; omega
    · have hab : befB a b = true := le_bef ha hm hb ua ub
      have hba := bef_asym hab
      have hon : onB m a b = true := by
        cases h : onB m a b
        · exfalso
          have := with_ab hm ha hb ua (bef_asym ub)
          unfold onB at h; rw [h0, this] at h; simp at h
        · rfl
      rw [hab, hba, hon]
      have e : decide (0 - detM a b o < 0) = decide (0 < detM a b o) := decide_eq_decide.2 (by omega)
      rw [e]; simp
    · have hba : befB b a = true := le_bef hb hm ha ub ua
      have hab := bef_asym hba
      have hon : onB m a b = true := by
        cases h : onB m a b
        · exfalso
          have := with_ba hm ha hb ub (bef_asym ua)
          unfold onB at h; rw [h0, this] at h; simp at h
        · rfl
      rw [hab, hba, hon]
      have e : decide (0 < 0 - detM a b o) = decide (detM a b o < 0) := decide_eq_decide.2 (by omega)
      rw [e]; simp
    · have : onB m a b = false := by
        cases h : onB m a b
        · rfl
        · exfalso
          have hw : withB m a b = true := by unfold onB at h; simp at h; exact h.2
          unfold withB loM hiM at hw
          by_cases c : befB b a = true
          · simp [if_pos c, ub] at hw
          · simp [if_neg c, ua] at hw
      rw [this]; simp
  · have e3 : onB m a b = false := by unfold onB; simp [h0]
    rw [e3]
    have g := big_sg t1.1 t1.2 h0
    have g1 : decide (T * detM a b m - detM a b o < 0) = decide (detM a b m < 0) := decide_eq_decide.2 g.1
    have g2 : decide (0 < T * detM a b m - detM a b o) = decide (0 < detM a b m) := decide_eq_decide.2 g.2
    rw [g1, g2]
    simp
end
end Go.Proofs.Ytnkcbephceollab
namespace Go.Proofs.Ytnkcbephceollab
set_option linter.unusedVariables false
set_option linter.unusedSimpArgs false

theorem bounded {α : Type} (f : α → Int) : ∀ l : List α, ∃ K : Int, 0 < K ∧ ∀ x ∈ l, -K < f x ∧ f x < K
  | [] => ⟨1, by decide, fun x hx => by cases hx⟩
  | x :: l => by
    obtain ⟨K, h0, h⟩ := bounded f l
    refine ⟨K + (f x).natAbs, by omega, fun y hy => ?_⟩
    rcases List.mem_cons.1 hy with rfl | hy
    · omega
    · have := h y hy; omega
/-- How often the way from far outside to m crosses the edges, m lying on some of them. -/
theorem way_mid {o m : Pt} {P : List (List Pt)} (ho : 0 < o.d) (hm : 0 < m.d) (hd : ∀ v ∈ P.flatten, 0 < v.d) (hl : ∀ v ∈ P.flatten, 0 < xv o v) (hA : ∀ v ∈ P.flatten, detM o m v ≠ 0) (hne : ∀ e ∈ edgesM P, befB e.1 e.2 = true ∨ befB e.2 e.1 = true) :
    (parB (crossB o m) (edgesM P) ^^ parB (fun a b => onB m a b) (edgesM P)) = (parB (overB m) (edgesM P) ^^ parB (thrB o m) (edgesM P)) := by
  obtain ⟨K1, p1, h1⟩ := bounded (fun v => yv m v) P.flatten
  obtain ⟨K2, p2, h2⟩ := bounded (fun v => yv o v) P.flatten
  obtain ⟨K3, p3, h3⟩ := bounded (fun e : Pt × Pt => yv e.1 e.2) (edgesM P)
  obtain ⟨K, hK⟩ : ∃ K, K = K1 + K2 + K3 := ⟨_, rfl⟩
  obtain ⟨T1, t1, g1⟩ := bounded (fun v => yv (shP K o) (shP K v)) P.flatten
  obtain ⟨T2, t2, g2⟩ := bounded (fun e : Pt × Pt => detM e.1 e.2 o) (edgesM P)
  obtain ⟨T, hT⟩ : ∃ T, T = T1 + T2 + o.d := ⟨_, rfl⟩
  have hT0 : 0 < T := by omega
  have upd : ∀ u v, upB false u v = decide (0 < yv u v) := fun u v => by unfold upB; simp
  have po : ∀ v ∈ P.flatten, 0 < yv (shP K o) (shP K v) ∧ yv (shP K o) (shP K v) < T := fun v hv => by
    have b := h2 v hv
    have u := sh_up (K := K) (q := o) (v := v) (by omega) (by omega)
    rw [upd] at u
    have bf : befB o v = true := by
      cases k : befB o v
      · rw [bef_x] at k; have := hl v hv; omega
      · rfl
    rw [bf] at u
    have g := g1 v hv
    exact ⟨of_decide_eq_true u, by omega⟩
  have km : ∀ v ∈ P.flatten, -K < yv m v ∧ yv m v < K := fun v hv => by have := h1 v hv; omega
  have ke : ∀ e ∈ edgesM P, -K < yv e.1 e.2 ∧ yv e.1 e.2 < K := fun e he => by have := h3 e he; omega
  have te : ∀ e ∈ edgesM P, -T < detM e.1 e.2 o ∧ detM e.1 e.2 o < T := fun e he => by have := g2 e he; omega
  have dp : 0 < (pastP T o m).d := by
    have : T * m.d ≥ T * 1 := Int.mul_le_mul_of_nonneg_left (by omega) (by omega)
    show 0 < T * m.d - o.d
    omega
  have on' : ∀ e ∈ edgesM (shL K P), onB (shP K (pastP T o m)) e.1 e.2 = false := fun e he => by
    rw [sh_edges] at he
    obtain ⟨e', he', rfl⟩ := List.mem_map.1 he
    obtain ⟨m1, m2⟩ := edge_ends he'
    rw [sh_on]
    unfold onB
    have := past_nz ho hm (hd _ m1) (hd _ m2) (km _ m1) (km _ m2) (ke _ he') (hA _ m1) (hA _ m2) (hne _ he') (te _ he')
    simp [this]
  have hd' : ∀ v ∈ (shL K P).flatten, 0 < v.d := fun v hv => by
    obtain ⟨u, hu, rfl⟩ := mem_sh hv
    exact hd u hu
  have p := parity false (o := shP K o) (q := shP K (pastP T o m)) (P := shL K P) ho dp hd'
    (fun v hv => by obtain ⟨u, hu, rfl⟩ := mem_sh hv; rw [sh_xv]; exact hl u hu)
    (fun v hv => by
      obtain ⟨u, hu, rfl⟩ := mem_sh hv
      rw [sh_det, past_way]
      intro e
      rcases Int.mul_eq_zero.1 e with c | c
      · omega
      · exact hA u hu c) on'
  have p2 := left_right false (q := shP K (pastP T o m)) (P := shL K P) dp hd' on'
  rw [← p2, sh_edges, parB_map, parB_map] at p
  have c1 : parB (fun a b => crossB (shP K o) (shP K (pastP T o m)) (shP K a) (shP K b)) (edgesM P) = parB (fun a b => crossB o m a b ^^ onB m a b) (edgesM P) := parB_congr fun e he => by
    obtain ⟨m1, m2⟩ := edge_ends he
    rw [sh_cross]
    exact past_cross ho hm (hd _ m1) (hd _ m2) (km _ m1) (km _ m2) (ke _ he) (hA _ m1) (hA _ m2) (hne _ he) (te _ he)
  have c2 : parB (fun a b => leftB false (shP K (pastP T o m)) (shP K a) (shP K b)) (edgesM P) = parB (fun a b => overB m a b ^^ thrB o m a b) (edgesM P) := parB_congr fun e he => by
    obtain ⟨m1, m2⟩ := edge_ends he
    exact past_left ho hm (hd _ m1) (hd _ m2) (km _ m1) (km _ m2) (ke _ he) (hA _ m1) (hA _ m2) (hne _ he) (te _ he) (po _ m1) (po _ m2)
  rw [c1, c2, parB_xor, parB_xor] at p
  exact p
/-- No edge of the polygon comes across the piece from p to q, and no point lies within it. -/
structure Clear (P : List (List Pt)) (p q : Pt) : Prop where
  pt : ∀ v ∈ P.flatten, befB p v = true → befB v q = true → detM p q v ≠ 0
  ed : ∀ e ∈ edgesM P, crossB p q e.1 e.2 = false
/-- Close to p and half way: the same. -/
theorem along {P : List (List Pt)} {p q : Pt} (hp : 0 < p.d) (hq : 0 < q.d) (hpq : befB p q = true) (hd : ∀ v ∈ P.flatten, 0 < v.d) (hc : Clear P p q) :
    parB (ovL p q) (edgesM P) = parB (overB (midP p q)) (edgesM P) := by
  have h : parB (fun a b => ovL p q a b ^^ overB (midP p q) a b) (edgesM P) = parB (fun a b => gB p q a ^^ gB p q b) (edgesM P) := parB_congr fun e he => by
    obtain ⟨m1, m2⟩ := edge_ends he
    exact strip_edge hp hq (hd _ m1) (hd _ m2) hpq (hc.pt _ m1) (hc.pt _ m2) (hc.ed e he)
  rw [poly_even, parB_xor] at h
  revert h
  cases parB (ovL p q) (edgesM P) <;> cases parB (overB (midP p q)) (edgesM P) <;> simp
end Go.Proofs.Ytnkcbephceollab
