import Derived.Test.YtnkcbephceollabQ28
namespace Go.Proofs.Ytnkcbephceollab
set_option linter.unusedSimpArgs false
set_option linter.unusedVariables false

/-- What lies above a spot, by evenness; and the same in the half turn: below it. -/
abbrev nab (P : List (List Pt)) (v : Pt) : Bool := parB (aboveE v) (edgesM P)
theorem ch_end {f g : Pt → Bool} {s e e' : Bool} {l : List Pt} (h : Ch f g s l e) (k : e = e') : Ch f g s l e' := k ▸ h
/-- An edge that goes on through v in the half turn comes to v from ahead. -/
theorem thru_ro {P : List (List Pt)} (hS : Sd P) {v : Pt} (hv : 0 < v.d) {e : Pt × Pt} (he : e ∈ edgesM P) (h : thruE (ro v) (ro e.1) (ro e.2) = true) : hasM e.1 e.2 v = true ∧ befB (firstM e.1 e.2) v = true := by
  obtain ⟨m1, m2⟩ := edge_ends he
  have da := hS.pd _ m1
  have db := hS.pd _ m2
  have ne := hS.ne e he
  have rne : befB (ro e.1) (ro e.2) = true ∨ befB (ro e.2) (ro e.1) = true := by rw [ro_bef, ro_bef]; exact ne.symm
  unfold thruE at h
  rw [Bool.and_eq_true] at h
  obtain ⟨h1, h2⟩ := h
  rw [span_bef (a := ro e.1) (b := ro e.2) (p := ro v) da db hv rne, ro_bef, ro_bef] at h1
  have s0 := of_decide_eq_true h2
  rw [side_ro ne] at s0
  have s0' : sideM e.1 e.2 v = 0 := by omega
  unfold hasM
  rw [cmpB, cmpB', s0', first_eq, last_eq]
  rcases ne with k | k
  · rw [k, bef_asym k]
    have im : befB e.2 v = true → befB e.1 v = true := fun q => bef_le da db hv k (bef_asym q)
    simp only [Bool.false_eq_true, if_false, if_true]
    cases q1 : befB e.1 v <;> cases q2 : befB e.2 v <;> rw [q1, q2] at h1
    · simp at h1
    · rw [im q2] at q1; cases q1
    · rw [bef_asym q1]; simp
    · simp at h1
  · rw [k, bef_asym k]
    have im : befB e.1 v = true → befB e.2 v = true := fun q => bef_le db da hv k (bef_asym q)
    simp only [Bool.false_eq_true, if_false, if_true]
    cases q1 : befB e.1 v <;> cases q2 : befB e.2 v <;> rw [q1, q2] at h1
    · simp at h1
    · rw [bef_asym q2]; simp
    · rw [im q1] at q2; cases q2
    · simp at h1
section
variable {A B : List (List Pt)} (sA : Sound A) (sB : Sound B) {v : Pt} (hv : 0 < v.d) (hm : v ∈ spotsM (edgesM A ++ edgesM B))
include sA sB hv hm
/-- Round a spot, the half that goes on: all sectors. -/
theorem ring_on {P : List (List Pt)} (sP : Sd P) (hP : ∀ e ∈ edgesM P, e ∈ edgesM A ++ edgesM B) :
    Ch (fun x => parB (leftE v x) (edgesM P)) (fun x => parB (rightE v x) (edgesM P)) (nab P v) (RS A B v) (nab (roL P) (ro v)) := by
  refine ch_end (chain sP hv (fun s hs => (prs_bef sA sB (RS_mem.1 hs)).1) (RS_sorted sA sB hv) fun e he ht => ?_) (join sP hv)
  obtain ⟨z, h1, h2, h3⟩ := spoke_on (good_both sA sB) hm (hP e he) ht
  exact ⟨z, h2, h3, RS_mem.2 h1⟩
/-- And the half that comes from ahead, as the half turn sees it. -/
theorem ring_back {P : List (List Pt)} (sP : Sd P) (hP : ∀ e ∈ edgesM P, e ∈ edgesM A ++ edgesM B) :
    Ch (fun y => parB (leftE (ro v) y) (edgesM (roL P))) (fun y => parB (rightE (ro v) y) (edgesM (roL P))) (nab (roL P) (ro v)) (LS A B v) (nab P v) := by
  have j := join sP.ro (v := ro v) hv
  rw [roL_roL, ro_ro] at j
  refine ch_end (chain sP.ro (v := ro v) hv (fun s hs => ?_) (LS_sorted sA sB hv) fun e he ht => ?_) j
  · have := (prs_bef sA sB (LS_mem.1 hs)).1
    rw [← ro_bef, ro_ro] at this
    exact this
  · rw [ro_edges] at he
    obtain ⟨x, hx, rfl⟩ := List.mem_map.1 he
    obtain ⟨k1, k2⟩ := thru_ro sP hv hx ht
    obtain ⟨z, h1, h2, h3⟩ := spoke_back (good_both sA sB) hm (hP x hx) k1 k2
    refine ⟨ro z, by rw [ro_bef]; exact h2, ?_, LS_mem.2 (by rw [ro_ro]; exact h1)⟩
    rw [side_ro (sP.ne x hx), h3]; rfl
end
theorem ch_two {f1 g1 f2 g2 : Pt → Bool} (h : Bool → Bool → Bool) : ∀ {l : List Pt} {s1 e1 s2 e2 : Bool}, Ch f1 g1 s1 l e1 → Ch f2 g2 s2 l e2 → Ch (fun x => h (f1 x) (f2 x)) (fun x => h (g1 x) (g2 x)) (h s1 s2) l (h e1 e2)
  | [], _, _, _, _, a, b => by
    have a' : _ = _ := a
    have b' : _ = _ := b
    show h _ _ = h _ _
    rw [a', b']
  | x :: l, _, _, _, _, a, b => ⟨by show h (f1 x) (f2 x) = _; rw [show f1 x = _ from a.1, show f2 x = _ from b.1], ch_two h a.2 b.2⟩
/-! Clockwise round a spot. -/
/-- On the other side of v. -/
def refl (v q : Pt) : Pt := ⟨2 * v.x * q.d - q.x * v.d, 2 * v.y * q.d - q.y * v.d, v.d * q.d⟩
theorem refl_det (v a q : Pt) : detM v a (refl v q) = -(v.d * detM v a q) := by unfold detM refl; grind
theorem refl_det2 (v p q : Pt) : detM v (refl v p) (refl v q) = v.d * v.d * detM v p q := by unfold detM refl; grind
theorem refl_xv (v q : Pt) : xv v (refl v q) = v.d * xv q v ∧ yv v (refl v q) = v.d * yv q v := by
  constructor
  · unfold xv refl; grind
  · unfold yv refl; grind
theorem refl_bef {v q : Pt} (hv : 0 < v.d) (h : befB q v = true) : befB v (refl v q) = true := by
  have k : 0 < xv q v ∨ (xv q v = 0 ∧ 0 < yv q v) := by
    have := (not_congr (bef_x q v)).1 (by rw [h]; decide)
    omega
  obtain ⟨e1, e2⟩ := refl_xv v q
  cases c : befB v (refl v q)
  · rw [bef_x, e1, e2] at c
    rcases k with k | ⟨k1, k2⟩
    · have := mul_pp hv k; omega
    · rw [k1, Int.mul_zero] at c
      have := mul_pp hv k2; omega
  · rfl
theorem sgn_neg {d x : Int} (hd : 0 < d) : (-(d * x) < 0 ↔ 0 < x) ∧ (0 < -(d * x) ↔ x < 0) ∧ (-(d * x) ≤ 0 ↔ 0 ≤ x) := by
  rcases Int.lt_trichotomy x 0 with h | h | h
  · have := mul_pn hd h; omega
  · rw [h, Int.mul_zero]; omega
  · have := mul_pp hd h; omega
section
variable {v s : Pt} (hv : 0 < v.d) (hs : befB v s = true)
theorem d_anti (v a b : Pt) : detM v a b = -detM v b a := by unfold detM; grind
include hv hs
theorem mixed1 {p q : Pt} (hp : befB v p = true) (hq : befB q v = true) (h1 : detM v s p < 0) (h2 : detM v s q < 0) : detM v p q < 0 := by
  have hr := refl_bef hv hq
  have a1 : detM v (refl v q) s < 0 := by rw [d_anti, refl_det]; have := mul_pn hv h2; omega
  have t := (hp_trans hv hr hs hp (by omega) (by omega)).2 (.inl a1)
  rw [d_anti, refl_det] at t
  have := (sgn_neg (d := v.d) (x := detM v p q) hv).2.1
  omega
theorem mixed2 {p q : Pt} (hp : befB p v = true) (hq : befB v q = true) (h1 : 0 < detM v s q) (h2 : 0 ≤ detM v s p) : detM v p q < 0 := by
  have hr := refl_bef hv hp
  have a0 := d_anti v q s
  have a1 : detM v s (refl v p) ≤ 0 := by rw [refl_det]; exact (sgn_neg hv).2.2.2 h2
  have t := (hp_trans hv hq hs hr (by omega) a1).2 (.inl (by omega))
  rw [refl_det] at t
  have := (sgn_neg (d := v.d) (x := detM v q p) hv).1
  have := d_anti v p q
  omega
theorem mixed3 {p q : Pt} (hp : befB p v = true) (hq : befB q v = true) (h1 : detM v p q < 0) (h2 : detM v s q < 0) : detM v s p < 0 := by
  have rp := refl_bef hv hp
  have rq := refl_bef hv hq
  have a1 : detM v (refl v p) (refl v q) < 0 := by rw [refl_det2]; exact mul_pn (mul_pp hv hv) h1
  have a2 : detM v (refl v q) s < 0 := by rw [d_anti, refl_det]; have := mul_pn hv h2; omega
  have t := (hp_trans hv rp rq hs (by omega) (by omega)).2 (.inl a1)
  rw [d_anti, refl_det] at t
  have := (sgn_neg (d := v.d) (x := detM v s p) hv).2.1
  omega
/-- Who turns clockwise from s meets first what goes on behind it, then what comes from ahead, then what goes on ahead of s. -/
theorem turn_order {R1 R2 L : List Pt} (h1 : ∀ p ∈ R1, befB v p = true ∧ 0 < detM v s p) (h2 : ∀ p ∈ R2, befB v p = true ∧ detM v s p < 0) (h3 : ∀ p ∈ L, befB p v = true)
    (o1 : R1.Pairwise (fun p q => detM v p q < 0)) (o2 : R2.Pairwise (fun p q => detM v p q < 0)) (o3 : L.Pairwise (fun p q => detM v p q < 0)) :
    (R2 ++ (L ++ R1)).Pairwise (fun p q => aheadM p q (s, v) = true) := by
  have key : ∀ p q, aheadM p q (s, v) = if (decide (detM v s p < 0) != decide (detM v s q < 0)) = true then decide (detM v s p < 0) else decide (detM v p q < 0) := fun _ _ => rfl
  rw [List.pairwise_append, List.pairwise_append]
  refine ⟨o2.imp_of_mem fun hp hq h => ?_, ⟨o3.imp_of_mem fun {p q} hp hq h => ?_, o1.imp_of_mem fun {p q} hp hq h => ?_, fun p hp q hq => ?_⟩, fun p hp q hq => ?_⟩
  · rw [key, decide_eq_true (h2 _ hp).2, decide_eq_true (h2 _ hq).2]
    simpa using h
  · rw [key]
    by_cases a : detM v s p < 0 <;> by_cases b : detM v s q < 0
    · simp [a, b, h]
    · simp [a, b]
    · exact absurd (mixed3 hv hs (h3 _ hp) (h3 _ hq) h b) a
    · simp [a, b, h]
  · have a := (h1 _ hp).2
    have b := (h1 _ hq).2
    rw [key, decide_eq_false (by omega), decide_eq_false (by omega)]
    simpa using h
  · have b := (h1 _ hq).2
    rw [key, decide_eq_false (show ¬ detM v s q < 0 by omega)]
    by_cases a : detM v s p < 0
    · simp [a]
    · have := mixed2 hv hs (h3 _ hp) (h1 _ hq).1 b (by omega)
      simp [a, this]
  · have a := (h2 _ hp).2
    rw [key, decide_eq_true a]
    rcases List.mem_append.1 hq with hq | hq
    · by_cases b : detM v s q < 0
      · have := mixed1 hv hs (h2 _ hp).1 (h3 _ hq) a b
        simp [b, this]
      · simp [b]
    · have b := (h1 _ hq).2
      rw [decide_eq_false (show ¬ detM v s q < 0 by omega)]
      simp
end
theorem ahead_ro (p q : Pt) (e : Pt × Pt) : aheadM (ro p) (ro q) (ro e.1, ro e.2) = aheadM p q e := by
  unfold aheadM
  rw [ro_det, ro_det, ro_det]
/-! A row in which each truth value goes on from the one before. -/
abbrev Sp := Pt × Bool × Bool
def Lk : Bool → List Sp → Bool → Prop
  | s, [], e => s = e
  | s, x :: l, e => x.2.1 = s ∧ Lk x.2.2 l e
theorem lk_app : ∀ {l1 l2 : List Sp} {s e : Bool}, Lk s (l1 ++ l2) e ↔ ∃ m, Lk s l1 m ∧ Lk m l2 e
  | [], l2, s, e => by
    constructor
    · intro h; exact ⟨s, rfl, h⟩
    · rintro ⟨m, h1, h2⟩
      have : s = m := h1
      subst this; exact h2
  | x :: l1, l2, s, e => by
    constructor
    · rintro ⟨h1, h2⟩
      obtain ⟨m, k1, k2⟩ := lk_app.1 h2
      exact ⟨m, ⟨h1, k1⟩, k2⟩
    · rintro ⟨m, ⟨h1, k1⟩, k2⟩
      exact ⟨h1, lk_app.2 ⟨m, k1, k2⟩⟩
theorem lk_rot {pre post : List Sp} {x : Sp} {c : Bool} (h : Lk c (pre ++ x :: post) c) : Lk x.2.2 (post ++ pre) x.2.1 := by
  obtain ⟨m, h1, h2, h3⟩ := lk_app.1 h
  rw [h2]
  exact lk_app.2 ⟨c, h3, h1⟩
/-- Where it is true at the start and not at the end, there is a first that ends it. -/
theorem first_out : ∀ {l : List Sp}, Lk true l false → ∃ mid j rest, l = mid ++ j :: rest ∧ (∀ m ∈ mid, m.2 = (true, true)) ∧ j.2 = (true, false)
  | [], h => by cases h
  | x :: l, ⟨h1, h2⟩ => by
    obtain ⟨z, a, b⟩ := x
    have h1' : a = true := h1
    subst h1'
    cases b with
    | false => exact ⟨[], (z, true, false), l, rfl, (fun m hm => absurd hm List.not_mem_nil), rfl⟩
    | true =>
      obtain ⟨mid, j, rest, e, k1, k2⟩ := first_out h2
      refine ⟨(z, true, true) :: mid, j, rest, by rw [e]; rfl, fun m hm => ?_, k2⟩
      rcases List.mem_cons.1 hm with h | h
      · rw [h]
      · exact k1 m h
theorem uniq_last {P : Sp → Bool} {a m a' m' : List Sp} {x x' : Sp} (h : a ++ x :: m = a' ++ x' :: m') (hm : ∀ y ∈ m, P y = true) (hm' : ∀ y ∈ m', P y = true) (hx : P x = false) (hx' : P x' = false) : x = x' := by
  have f : ∀ (a m : List Sp) (x : Sp), (∀ y ∈ m, P y = true) → P x = false → ((a ++ x :: m).filter (fun y => !P y)).getLast? = some x := fun a m x hm hx => by
    have e : m.filter (fun y => !P y) = [] := List.filter_eq_nil_iff.2 fun y hy => by rw [hm y hy]; decide
    rw [List.filter_append, List.filter_cons, hx, e]
    simp
  have k1 := f a m x hm hx
  have k2 := f a' m' x' hm' hx'
  rw [h, k2] at k1
  exact (Option.some.inj k1).symm
theorem rot_back {C pre post mid rest : List Sp} {x j : Sp} (e1 : C = pre ++ x :: post) (e2 : post ++ pre = mid ++ j :: rest) : ∃ pre' post', C = pre' ++ j :: post' ∧ post' ++ pre' = rest ++ x :: mid := by
  rcases List.append_eq_append_iff.1 e2 with ⟨m1, h1, h2⟩ | ⟨r1, h1, h2⟩
  · -- mid = post ++ m1, pre = m1 ++ j :: rest
    refine ⟨m1, rest ++ x :: post, ?_, ?_⟩
    · rw [e1, h2]; simp
    · rw [h1]; simp
  · -- post = mid ++ r1, j :: rest = r1 ++ pre
    cases r1 with
    | nil =>
      simp at h1 h2
      refine ⟨[], rest ++ x :: post, ?_, ?_⟩
      · rw [e1, ← h2]; simp
      · rw [h1]; simp
    | cons y r1 =>
      simp at h2
      obtain ⟨rfl, h2⟩ := h2
      refine ⟨pre ++ x :: mid, r1, ?_, ?_⟩
      · rw [e1, h1]; simp
      · rw [h2]; simp
theorem split_uniq {C p1 q1 p2 q2 : List Sp} {j : Sp} (hn : C.Nodup) (h1 : C = p1 ++ j :: q1) (h2 : C = p2 ++ j :: q2) : p1 = p2 ∧ q1 = q2 := by
  have : ∀ (p1 p2 q1 q2 : List Sp), (p1 ++ j :: q1).Nodup → p1 ++ j :: q1 = p2 ++ j :: q2 → p1 = p2 ∧ q1 = q2 := by
    intro p1
    induction p1 with
    | nil =>
      intro p2 q1 q2 hn e
      cases p2 with
      | nil => simp at e; exact ⟨rfl, e⟩
      | cons y p2 =>
        simp at e
        obtain ⟨rfl, e⟩ := e
        rw [e] at hn
        simp at hn
    | cons y p1 ih =>
      intro p2 q1 q2 hn e
      cases p2 with
      | nil =>
        simp at e
        obtain ⟨rfl, e⟩ := e
        simp at hn
      | cons z p2 =>
        simp at e
        obtain ⟨rfl, e⟩ := e
        obtain ⟨a, b⟩ := ih p2 q1 q2 (List.nodup_cons.1 hn).2 e
        exact ⟨by rw [a], b⟩
  exact this p1 p2 q1 q2 (h1 ▸ hn) (h1.symm.trans h2)
/-- No two that begin it are followed by the same that ends it. -/
theorem next_inj {C pre post mid rest pre2 post2 mid2 rest2 : List Sp} {x x2 j : Sp} (hn : C.Nodup) (e1 : C = pre ++ x :: post) (e2 : C = pre2 ++ x2 :: post2) (f1 : post ++ pre = mid ++ j :: rest) (f2 : post2 ++ pre2 = mid2 ++ j :: rest2)
    (n1 : ∀ m ∈ mid, m.2 = (true, true)) (n2 : ∀ m ∈ mid2, m.2 = (true, true)) (h1 : x.2 = (false, true)) (h2 : x2.2 = (false, true)) : x = x2 := by
  obtain ⟨a, b, k1, k2⟩ := rot_back e1 f1
  obtain ⟨a', b', k1', k2'⟩ := rot_back e2 f2
  obtain ⟨rfl, rfl⟩ := split_uniq hn k1 k1'
  refine uniq_last (P := fun y => y.2.1 && y.2.2) (k2.symm.trans k2') (fun y hy => by rw [n1 y hy]; rfl) (fun y hy => by rw [n2 y hy]; rfl) (by rw [h1]; rfl) (by rw [h2]; rfl)
/-- All that begins or ends at v, clockwise from the top: the far end, whether the result is on the side that one meets first, and on the other. -/
def onSp (op : Int) (A B : List (List Pt)) (v z : Pt) : Sp := (z, inM op (parB (leftE v z) (edgesM A)) (parB (leftE v z) (edgesM B)), inM op (parB (rightE v z) (edgesM A)) (parB (rightE v z) (edgesM B)))
def backSp (op : Int) (A B : List (List Pt)) (v y : Pt) : Sp := (ro y, inM op (parB (leftE (ro v) y) (edgesM (roL A))) (parB (leftE (ro v) y) (edgesM (roL B))), inM op (parB (rightE (ro v) y) (edgesM (roL A))) (parB (rightE (ro v) y) (edgesM (roL B))))
def Cyc (op : Int) (A B : List (List Pt)) (v : Pt) : List Sp := (RS A B v).map (onSp op A B v) ++ (LS A B v).map (backSp op A B v)
theorem lk_map {f g : Pt → Bool} {h : Pt → Sp} (hf : ∀ x, (h x).2.1 = f x) (hg : ∀ x, (h x).2.2 = g x) : ∀ {l : List Pt} {s e : Bool}, Ch f g s l e → Lk s (l.map h) e
  | [], _, _, k => k
  | x :: l, _, _, k => ⟨by rw [hf]; exact k.1, by rw [hg]; exact lk_map hf hg k.2⟩
section
variable {A B : List (List Pt)} (sA : Sound A) (sB : Sound B) {v : Pt} (hv : 0 < v.d) (hm : v ∈ spotsM (edgesM A ++ edgesM B)) (op : Int)
include sA sB hv hm
/-- Round a spot the truth values come back to where they began. -/
theorem cyc_lk : ∃ c, Lk c (Cyc op A B v) c := by
  have a1 := ring_on sA sB hv hm sA.sd (fun e he => List.mem_append.2 (.inl he))
  have b1 := ring_on sA sB hv hm sB.sd (fun e he => List.mem_append.2 (.inr he))
  have a2 := ring_back sA sB hv hm sA.sd (fun e he => List.mem_append.2 (.inl he))
  have b2 := ring_back sA sB hv hm sB.sd (fun e he => List.mem_append.2 (.inr he))
  refine ⟨inM op (nab A v) (nab B v), lk_app.2 ⟨inM op (nab (roL A) (ro v)) (nab (roL B) (ro v)), ?_, ?_⟩⟩
  · exact lk_map (fun _ => rfl) (fun _ => rfl) (ch_two (inM op) a1 b1)
  · exact lk_map (fun _ => rfl) (fun _ => rfl) (ch_two (inM op) a2 b2)
end
/-- A piece that goes on from v, seen from v. -/
theorem on_piece {A B : List (List Pt)} (op : Int) {v z : Pt} (h : (v, z) ∈ prs A B) : pcOf (edgesM A) (edgesM B) (v, z) ∈ piecesM A B ∧ onSp op A B v z = (z, inM op (pcOf (edgesM A) (edgesM B) (v, z)).la (pcOf (edgesM A) (edgesM B) (v, z)).lb, inM op (pcOf (edgesM A) (edgesM B) (v, z)).ra (pcOf (edgesM A) (edgesM B) (v, z)).rb) :=
  ⟨List.mem_map.2 ⟨_, h, rfl⟩, rfl⟩
section
variable {A B : List (List Pt)} (sA : Sound A) (sB : Sound B) (op : Int)
include sA sB
/-- A piece that comes to v from ahead, seen from v. -/
theorem back_piece {v y : Pt} (h : (ro y, v) ∈ prs A B) : pcOf (edgesM A) (edgesM B) (ro y, v) ∈ piecesM A B ∧ backSp op A B v y = (ro y, inM op (pcOf (edgesM A) (edgesM B) (ro y, v)).ra (pcOf (edgesM A) (edgesM B) (ro y, v)).rb, inM op (pcOf (edgesM A) (edgesM B) (ro y, v)).la (pcOf (edgesM A) (edgesM B) (ro y, v)).lb) := by
  refine ⟨List.mem_map.2 ⟨_, h, rfl⟩, ?_⟩
  obtain ⟨hb, d1, d2⟩ := prs_bef sA sB h
  obtain ⟨cA, cB⟩ := prs_clear sA sB h
  have l1 := far_left sA.sd d1 d2 hb cA
  have l2 := far_left sB.sd d1 d2 hb cB
  have r1 := far_right sA.sd d1 d2 hb cA
  have r2 := far_right sB.sd d1 d2 hb cB
  simp only [ro_ro] at l1 l2 r1 r2
  unfold backSp pcOf
  simp only
  rw [l1, l2, r1, r2]
/-- The borders that begin at v. -/
theorem begins_iff {v z : Pt} : (v, z) ∈ bordM op (piecesM A B) ↔ (z, true, false) ∈ Cyc op A B v := by
  unfold bordM
  rw [List.mem_flatMap]
  unfold Cyc
  rw [List.mem_append, List.mem_map, List.mem_map]
  constructor
  · rintro ⟨x, hx, hb⟩
    unfold piecesM at hx
    obtain ⟨y, hy, rfl⟩ := List.mem_map.1 hx
    unfold bordOf at hb
    rcases List.mem_append.1 hb with hb | hb
    · split at hb
      · rename_i c
        have e := List.mem_singleton.1 hb
        have e1 : v = y.1 := congrArg Prod.fst e
        have e2 : z = y.2 := congrArg Prod.snd e
        subst e1 e2
        refine .inl ⟨y.2, RS_mem.2 hy, ?_⟩
        rw [(on_piece op hy).2]
        rw [Bool.and_eq_true, Bool.not_eq_true'] at c
        rw [c.1, c.2]
      · simp at hb
    · split at hb
      · rename_i c
        have e := List.mem_singleton.1 hb
        have e1 : v = y.2 := congrArg Prod.fst e
        have e2 : z = y.1 := congrArg Prod.snd e
        subst e1 e2
        refine .inr ⟨ro y.1, LS_mem.2 (by rw [ro_ro]; exact hy), ?_⟩
        have k := (back_piece sA sB op (v := y.2) (y := ro y.1) (by rw [ro_ro]; exact hy)).2
        rw [ro_ro] at k
        rw [k]
        rw [Bool.and_eq_true, Bool.not_eq_true'] at c
        rw [c.1, c.2]
      · simp at hb
  · rintro (⟨z', hz, e⟩ | ⟨y, hy, e⟩)
    · have hz' := RS_mem.1 hz
      obtain ⟨k1, k2⟩ := on_piece op hz'
      rw [k2] at e
      simp only [Prod.mk.injEq] at e
      obtain ⟨rfl, e1, e2⟩ := e
      refine ⟨_, k1, ?_⟩
      unfold bordOf
      rw [e1, e2]
      exact List.mem_append.2 (.inl (by simp [pcOf]))
    · have hy' := LS_mem.1 hy
      obtain ⟨k1, k2⟩ := back_piece sA sB op hy'
      rw [k2] at e
      simp only [Prod.mk.injEq] at e
      obtain ⟨rfl, e1, e2⟩ := e
      refine ⟨_, k1, ?_⟩
      unfold bordOf
      rw [e1, e2]
      exact List.mem_append.2 (.inr (by simp [pcOf]))
/-- The borders that end at v. -/
theorem ends_iff {v z : Pt} : (z, v) ∈ bordM op (piecesM A B) ↔ (z, false, true) ∈ Cyc op A B v := by
  unfold bordM
  rw [List.mem_flatMap]
  unfold Cyc
  rw [List.mem_append, List.mem_map, List.mem_map]
  constructor
  · rintro ⟨x, hx, hb⟩
    unfold piecesM at hx
    obtain ⟨y, hy, rfl⟩ := List.mem_map.1 hx
    unfold bordOf at hb
    rcases List.mem_append.1 hb with hb | hb
    · split at hb
      · rename_i c
        have e := List.mem_singleton.1 hb
        have e1 : z = y.1 := congrArg Prod.fst e
        have e2 : v = y.2 := congrArg Prod.snd e
        subst e1 e2
        refine .inr ⟨ro y.1, LS_mem.2 (by rw [ro_ro]; exact hy), ?_⟩
        have k := (back_piece sA sB op (v := y.2) (y := ro y.1) (by rw [ro_ro]; exact hy)).2
        rw [ro_ro] at k
        rw [k]
        rw [Bool.and_eq_true, Bool.not_eq_true'] at c
        rw [c.1, c.2]
      · simp at hb
    · split at hb
      · rename_i c
        have e := List.mem_singleton.1 hb
        have e1 : z = y.2 := congrArg Prod.fst e
        have e2 : v = y.1 := congrArg Prod.snd e
        subst e1 e2
        refine .inl ⟨y.2, RS_mem.2 hy, ?_⟩
        rw [(on_piece op hy).2]
        rw [Bool.and_eq_true, Bool.not_eq_true'] at c
        rw [c.1, c.2]
      · simp at hb
  · rintro (⟨z', hz, e⟩ | ⟨y, hy, e⟩)
    · have hz' := RS_mem.1 hz
      obtain ⟨k1, k2⟩ := on_piece op hz'
      rw [k2] at e
      simp only [Prod.mk.injEq] at e
      obtain ⟨rfl, e1, e2⟩ := e
      refine ⟨_, k1, ?_⟩
      unfold bordOf
      rw [e1, e2]
      exact List.mem_append.2 (.inr (by simp [pcOf]))
    · have hy' := LS_mem.1 hy
      obtain ⟨k1, k2⟩ := back_piece sA sB op hy'
      rw [k2] at e
      simp only [Prod.mk.injEq] at e
      obtain ⟨rfl, e1, e2⟩ := e
      refine ⟨_, k1, ?_⟩
      unfold bordOf
      rw [e1, e2]
      exact List.mem_append.2 (.inl (by simp [pcOf]))
end
end Go.Proofs.Ytnkcbephceollab
