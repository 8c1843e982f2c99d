import Derived.Test.YtnkcbephceollabQ20
namespace Go.Proofs.Ytnkcbephceollab
set_option linter.unusedSimpArgs false
set_option linter.unusedVariables false

/-! Half way along a piece. -/
/-- No edge of no length. -/
structure Sd (P : List (List Pt)) : Prop where
  pd : ∀ v ∈ P.flatten, 0 < v.d
  ne : ∀ e ∈ edgesM P, befB e.1 e.2 = true ∨ befB e.2 e.1 = true
theorem Sound.sd {P : List (List Pt)} (h : Sound P) : Sd P := ⟨fun v hv => by have := (h.gr v hv).d; omega, h.ne⟩
theorem side_l {P : List (List Pt)} {p q : Pt} (hS : Sd P) (pd : 0 < p.d) (qd : 0 < q.d) (hpq : befB p q = true) (hc : Clear P p q) :
    parB (leftE p q) (edgesM P) = parB (overB (midP p q)) (edgesM P) := by
  rw [← along pd qd hpq hS.pd hc]
  exact parB_congr fun e he => by
    obtain ⟨m1, m2⟩ := edge_ends he
    exact leftE_eq (hS.pd _ m1) (hS.pd _ m2) pd
theorem side_mid {P : List (List Pt)} {p q : Pt} (hS : Sound P) (pd : 0 < p.d) (qd : 0 < q.d) (hpq : befB p q = true) (hc : Clear P p q) :
    parB (leftE p q) (edgesM P) = parB (overB (midP p q)) (edgesM P) ∧ parB (rightE p q) (edgesM P) = (parB (leftE p q) (edgesM P) ^^ (edgesM P).any (fun e => onB (midP p q) e.1 e.2)) := by
  have hd : ∀ v ∈ P.flatten, 0 < v.d := fun v hv => by have := (hS.gr v hv).d; omega
  have el : parB (leftE p q) (edgesM P) = parB (overB (midP p q)) (edgesM P) := by
    rw [← along pd qd hpq hd hc]
    exact parB_congr fun e he => by
      obtain ⟨m1, m2⟩ := edge_ends he
      exact leftE_eq (hd _ m1) (hd _ m2) pd
  have er : parB (rightE p q) (edgesM P) = (parB (leftE p q) (edgesM P) ^^ parB (fun a b => onB (midP p q) a b) (edgesM P)) := by
    rw [← parB_xor]
    exact parB_congr fun e he => by
      obtain ⟨m1, m2⟩ := edge_ends he
      rw [rightE_eq (hd _ m1) (hd _ m2) pd (hS.ne e he), along_mid pd qd (hd _ m1) (hd _ m2) hpq (hS.ne e he) (hc.pt _ m1) (hc.pt _ m2) (hc.ed e he)]
  have eany : parB (fun a b => onB (midP p q) a b) (edgesM P) = (edgesM P).any (fun e => onB (midP p q) e.1 e.2) := par_any fun i j hij hj ⟨h1, h2⟩ => by
    have cov : ∀ n, n < (edgesM P).length → onB (midP p q) ((edgesM P).getD n (zP, zP)).1 ((edgesM P).getD n (zP, zP)).2 = true → Covers p q ((edgesM P).getD n (zP, zP)).1 ((edgesM P).getD n (zP, zP)).2 ∧ ((edgesM P).getD n (zP, zP)).1.d = 1 ∧ ((edgesM P).getD n (zP, zP)).2.d = 1 := fun n hn ho => by
      have he := getD_mem hn (zP, zP)
      obtain ⟨m1, m2⟩ := edge_ends he
      obtain ⟨c1, _, c3⟩ := mid_along pd qd (hd _ m1) (hd _ m2) hpq (hS.ne _ he) (hc.pt _ m1) (hc.pt _ m2) (hc.ed _ he) ho
      exact ⟨⟨c1, c3⟩, (hS.gr _ m1).d, (hS.gr _ m2).d⟩
    obtain ⟨c1, d1, d2⟩ := cov i (by omega) h1
    obtain ⟨c2, d3, d4⟩ := cov j hj h2
    have k2 := two_along pd qd d3 d4 d1 d2 hpq c2 c1
    have := hS.no i j hij hj
    unfold alongB at this
    rw [k2] at this
    exact absurd this (by decide)
  exact ⟨el, by rw [er, eany]⟩
/-- Where half way along a piece lies, by the sides that it has. -/
def besideB (n : Int) (l r : Bool) : Bool := if n = 2 then l != r else if n = 1 then l && r else decide (n = 0) && !l && !r
theorem where_mid {P : List (List Pt)} {p q : Pt} (hS : Sound P) (pd : 0 < p.d) (qd : 0 < q.d) (hpq : befB p q = true) (hc : Clear P p q) :
    besideB (whereM (midP p q) 0 (edgesM P)) (parB (leftE p q) (edgesM P)) (parB (rightE p q) (edgesM P)) = true := by
  have hd : ∀ v ∈ P.flatten, 0 < v.d := fun v hv => by have := (hS.gr v hv).d; omega
  have hm := mid_pos pd qd
  obtain ⟨el, er⟩ := side_mid hS pd qd hpq hc
  have eany : (edgesM P).any (fun e => hasM e.1 e.2 (midP p q)) = (edgesM P).any (fun e => onB (midP p q) e.1 e.2) := by
    refine Bool.eq_iff_iff.2 ?_
    simp only [List.any_eq_true]
    constructor
    · rintro ⟨e, he, h⟩
      obtain ⟨m1, m2⟩ := edge_ends he
      exact ⟨e, he, by rw [← has_on (hd _ m1) (hd _ m2) hm]; exact h⟩
    · rintro ⟨e, he, h⟩
      obtain ⟨m1, m2⟩ := edge_ends he
      exact ⟨e, he, by rw [has_on (hd _ m1) (hd _ m2) hm]; exact h⟩
  have e2 : parB (fun a b => overM a b (midP p q)) (edgesM P) = parB (overB (midP p q)) (edgesM P) := parB_congr fun e he => by
    obtain ⟨m1, m2⟩ := edge_ends he
    exact over_eq (hd _ m1) (hd _ m2) hm
  cases h : (edgesM P).any (fun e => onB (midP p q) e.1 e.2)
  · rw [h] at er
    rw [whereM_eq _ _ 0 (.inl rfl) (eany.trans h), e2, ← el, er]
    cases parB (leftE p q) (edgesM P) <;> rfl
  · rw [h] at er
    rw [whereM_two _ _ _ (eany.trans h), er]
    cases parB (leftE p q) (edgesM P) <;> rfl
/-- An edge that has both ends of a piece has what lies half way. -/
theorem mid_on {E : List (Pt × Pt)} {x e : Pt × Pt} (hx1 : 0 < x.1.d) (hx2 : 0 < x.2.d) (ge : Gr e.1 ∧ Gr e.2) (ne : befB e.1 e.2 = true ∨ befB e.2 e.1 = true) (hpq : befB x.1 x.2 = true) (h1 : hasM e.1 e.2 x.1 = true) (h2 : hasM e.1 e.2 x.2 = true) : alongE x.1 x.2 e.1 e.2 = true := by
  have d1 : 0 < e.1.d := by have := ge.1.d; omega
  have d2 : 0 < e.2.d := by have := ge.2.d; omega
  have dl : 0 < (lastM e.1 e.2).d := by unfold lastM; split <;> assumption
  unfold hasM at h1 h2
  simp only [Bool.and_eq_true, Bool.not_eq_true', decide_eq_false_iff_not, decide_eq_true_eq] at h1 h2
  obtain ⟨a1, a2, a3⟩ := h1
  obtain ⟨b1, b2, b3⟩ := h2
  have z1 := (side_zero d1 d2 hx1 x.1 ne).1 a3
  have z2 := (side_zero d1 d2 hx1 x.2 ne).1 b3
  have c1 : befB (lastM e.1 e.2) x.2 = false := by rw [← cmpB']; exact decide_eq_false b2
  have c2 := bef_le hx1 hx2 dl hpq c1
  have c3 : cmpM x.1 (lastM e.1 e.2) < 0 := by
    have := cmpB x.1 (lastM e.1 e.2)
    rw [c2] at this; exact of_decide_eq_true this
  unfold alongE spanM
  simp only [Bool.and_eq_true, Bool.not_eq_true', decide_eq_false_iff_not, decide_eq_true_eq]
  exact ⟨⟨a1, c3⟩, z1, z2⟩
/-- All that Parts asks of a piece. -/
theorem piece_parts {A B : List (List Pt)} (sA : Sound A) (sB : Sound B) {x : Pc} (hx : x ∈ piecesM A B) :
    goodB x.p = true ∧ goodB x.q = true ∧ befB x.p x.q = true ∧ ((x.la == x.ra) && (x.lb == x.rb)) = false ∧ besideB (whereM (midP x.p x.q) 0 (edgesM A)) x.la x.ra = true ∧ besideB (whereM (midP x.p x.q) 0 (edgesM B)) x.lb x.rb = true := by
  have hG := good_both sA sB
  unfold piecesM at hx
  obtain ⟨y, hy, rfl⟩ := List.mem_map.1 hx
  obtain ⟨⟨n1, n2⟩, hpq, hpt, hed⟩ := piece_clear hG hy
  have pd := n1.d
  have qd := n2.d
  have hcA : Clear A y.1 y.2 := ⟨fun v hv b1 b2 => by
    obtain ⟨e, he, rfl⟩ := first_edge hv
    exact hpt e (List.mem_append.2 (.inl he)) b1 b2, fun e he => hed e (List.mem_append.2 (.inl he))⟩
  have hcB : Clear B y.1 y.2 := ⟨fun v hv b1 b2 => by
    obtain ⟨e, he, rfl⟩ := first_edge hv
    exact hpt e (List.mem_append.2 (.inr he)) b1 b2, fun e he => hed e (List.mem_append.2 (.inr he))⟩
  refine ⟨n1.1, n2.1, hpq, ?_, where_mid sA pd qd hpq hcA, where_mid sB pd qd hpq hcB⟩
  have hs := (spots_spec hG).1
  obtain ⟨e, he, ha⟩ := ((pairs_spec _ hs).2 y).1 hy
  obtain ⟨_, _, f1, f2⟩ := AL_mem ha
  have rA := (side_mid sA pd qd hpq hcA).2
  have rB := (side_mid sB pd qd hpq hcB).2
  have key : ∀ {P : List (List Pt)}, Sound P → Clear P y.1 y.2 → e ∈ edgesM P → parB (rightE y.1 y.2) (edgesM P) = !parB (leftE y.1 y.2) (edgesM P) := fun {P} sP hcP hP => by
    have hd : ∀ v ∈ P.flatten, 0 < v.d := fun v hv => by have := (sP.gr v hv).d; omega
    obtain ⟨m1, m2⟩ := edge_ends hP
    have al := mid_on (E := []) pd qd ⟨sP.gr _ m1, sP.gr _ m2⟩ (sP.ne e hP) hpq f1 f2
    rw [along_mid pd qd (hd _ m1) (hd _ m2) hpq (sP.ne e hP) (hcP.pt _ m1) (hcP.pt _ m2) (hcP.ed e hP)] at al
    have : (edgesM P).any (fun e => onB (midP y.1 y.2) e.1 e.2) = true := List.any_eq_true.2 ⟨e, hP, al⟩
    rw [(side_mid sP pd qd hpq hcP).2, this, Bool.xor_true]
  show ((parB (leftE y.1 y.2) (edgesM A) == parB (rightE y.1 y.2) (edgesM A)) && (parB (leftE y.1 y.2) (edgesM B) == parB (rightE y.1 y.2) (edgesM B))) = false
  rcases List.mem_append.1 he with h | h
  · rw [key sA hcA h]
    cases parB (leftE y.1 y.2) (edgesM A) <;> rfl
  · rw [key sB hcB h]
    cases parB (leftE y.1 y.2) (edgesM B) <;> simp
/-- And of two that follow one another. -/
theorem pieces_order {A B : List (List Pt)} (sA : Sound A) (sB : Sound B) (i : Nat) (hi : i + 1 < (piecesM A B).length) (d : Pc) : PR (((piecesM A B).getD i d).p, ((piecesM A B).getD i d).q) (((piecesM A B).getD (i + 1) d).p, ((piecesM A B).getD (i + 1) d).q) := by
  have hG := good_both sA sB
  have hP := (pairs_spec (edgesM A ++ edgesM B) (spots_spec hG).1).1
  unfold piecesM at *
  rw [List.length_map] at hi
  rw [List.getD_eq_getElem?_getD, List.getD_eq_getElem?_getD, List.getElem?_map, List.getElem?_map, List.getElem?_eq_getElem (by omega), List.getElem?_eq_getElem hi]
  exact List.pairwise_iff_getElem.1 hP i (i + 1) (by omega) hi (by omega)
/-! Half a turn of the plane: a piece, seen from its other end. -/
def ro (p : Pt) : Pt := ⟨-p.x, -p.y, p.d⟩
theorem ro_ro (p : Pt) : ro (ro p) = p := by unfold ro; simp
theorem ro_zero : ro zP = zP := by simp [ro, zP]
theorem ro_det (a b c : Pt) : detM (ro a) (ro b) (ro c) = detM a b c := by unfold detM ro; grind
theorem ro_bef (p q : Pt) : befB (ro p) (ro q) = befB q p := by
  have e : befB (ro p) (ro q) = true ↔ befB q p = true := by
    rw [bef_iff, bef_iff]
    unfold ro
    have e1 : -p.x * q.d = -(p.x * q.d) := by grind
    have e2 : -q.x * p.d = -(q.x * p.d) := by grind
    have e3 : -p.y * q.d = -(p.y * q.d) := by grind
    have e4 : -q.y * p.d = -(q.y * p.d) := by grind
    simp only [e1, e2, e3, e4]
    omega
  cases h : befB q p
  · cases h2 : befB (ro p) (ro q)
    · rfl
    · exact absurd (e.1 h2) (by rw [h]; decide)
  · exact e.2 h
def roL (P : List (List Pt)) : List (List Pt) := P.map (List.map ro)
theorem ro_ring (r : List Pt) : ringEdges (r.map ro) = (ringEdges r).map (fun e => (ro e.1, ro e.2)) := by
  unfold ringEdges
  rw [List.map_map, List.length_map]
  refine List.map_congr_left fun j hj => ?_
  have hg : ∀ i, (r.map ro).getD i zP = ro (r.getD i zP) := fun i => by
    rw [List.getD_eq_getElem?_getD, List.getD_eq_getElem?_getD, List.getElem?_map]
    cases r[i]? with
    | none => exact ro_zero.symm
    | some x => rfl
  show edgeAt (r.map ro) j = (ro (edgeAt r j).1, ro (edgeAt r j).2)
  unfold edgeAt
  rw [List.length_map, hg, hg]
theorem ro_edges (P : List (List Pt)) : edgesM (roL P) = (edgesM P).map (fun e => (ro e.1, ro e.2)) := by
  unfold edgesM roL
  induction P with
  | nil => rfl
  | cons r P ih => simp only [List.map_cons, List.flatMap_cons, List.map_append, ih, ro_ring]
theorem ro_mem {P : List (List Pt)} {v : Pt} (h : v ∈ (roL P).flatten) : ∃ u ∈ P.flatten, v = ro u := by
  obtain ⟨r, hr, hv⟩ := List.mem_flatten.1 h
  obtain ⟨s, hs, rfl⟩ := List.mem_map.1 hr
  obtain ⟨u, hu, rfl⟩ := List.mem_map.1 hv
  exact ⟨u, List.mem_flatten.2 ⟨s, hs, hu⟩, rfl⟩
theorem ro_mid (p q : Pt) : midP (ro q) (ro p) = ro (midP p q) := by
  unfold midP ro
  simp only [Pt.mk.injEq]
  refine ⟨by grind, by grind, by grind⟩
theorem apart_comm (m n : Int) : apartB m n = apartB n m := by
  unfold apartB
  rw [Bool.eq_iff_iff]
  simp only [Bool.or_eq_true, Bool.and_eq_true, decide_eq_true_eq]
  omega
theorem det_back (p q v : Pt) : detM q p v = -detM p q v := by unfold detM; grind
theorem ro_cross (p q a b : Pt) : crossB (ro q) (ro p) (ro a) (ro b) = crossB p q a b := by
  unfold crossB
  rw [ro_det, ro_det, ro_det, ro_det, det_back p q a, det_back p q b, apart_neg, apart_comm (detM a b q)]
theorem ro_clear {P : List (List Pt)} {p q : Pt} (h : Clear P p q) : Clear (roL P) (ro q) (ro p) := by
  refine ⟨fun v hv b1 b2 => ?_, fun e he => ?_⟩
  · obtain ⟨u, hu, rfl⟩ := ro_mem hv
    rw [ro_bef] at b1 b2
    rw [ro_det, det_back]
    have := h.pt u hu b2 b1
    omega
  · rw [ro_edges] at he
    obtain ⟨x, hx, rfl⟩ := List.mem_map.1 he
    rw [ro_cross]; exact h.ed x hx
theorem lo_hi {a b : Pt} (h : befB a b = true) : loM a b = a ∧ hiM a b = b ∧ loM b a = a ∧ hiM b a = b := by
  have k := bef_asym h
  unfold loM hiM
  rw [h, k]; simp
theorem ro_on {m a b : Pt} (ne : befB a b = true ∨ befB b a = true) : onB (ro m) (ro a) (ro b) = onB m a b := by
  unfold onB withB
  rw [ro_det]
  rcases ne with h | h
  · obtain ⟨e1, e2, _, _⟩ := lo_hi h
    obtain ⟨_, _, e3, e4⟩ := lo_hi (a := ro b) (b := ro a) (by rw [ro_bef]; exact h)
    rw [e1, e2, e3, e4, ro_bef, ro_bef]
    cases befB m a <;> cases befB b m <;> rfl
  · obtain ⟨_, _, e1, e2⟩ := lo_hi h
    obtain ⟨e3, e4, _, _⟩ := lo_hi (a := ro a) (b := ro b) (by rw [ro_bef]; exact h)
    rw [e1, e2, e3, e4, ro_bef, ro_bef]
    cases befB m b <;> cases befB a m <;> rfl
theorem with_sp {m a b : Pt} (dm : 0 < m.d) (da : 0 < a.d) (db : 0 < b.d) (ne : befB a b = true ∨ befB b a = true) (ha : befB a m = !befB m a) (hb : befB b m = !befB m b) : withB m a b = (befB m a ^^ befB m b) := by
  unfold withB
  rcases ne with h | h
  · obtain ⟨e1, e2, _, _⟩ := lo_hi h
    have im : befB m a = true → befB m b = true := fun k => bef_le dm da db k (bef_asym h)
    rw [e1, e2, hb]
    cases k : befB m a <;> cases k2 : befB m b
    · rfl
    · rfl
    · rw [im k] at k2; cases k2
    · rfl
  · obtain ⟨_, _, e1, e2⟩ := lo_hi h
    have im : befB m b = true → befB m a = true := fun k => bef_le dm db da k (bef_asym h)
    rw [e1, e2, ha]
    cases k : befB m a <;> cases k2 : befB m b
    · rfl
    · rw [im k2] at k; cases k
    · rfl
    · rfl
/-- Above, below, or through. -/
theorem above_below {m a b : Pt} (dm : 0 < m.d) (da : 0 < a.d) (db : 0 < b.d) (ne : befB a b = true ∨ befB b a = true) (ha : befB a m = !befB m a) (hb : befB b m = !befB m b) : (overB m a b ^^ (overB (ro m) (ro a) (ro b) ^^ onB m a b)) = (befB m a ^^ befB m b) := by
  unfold overB onB
  rw [ro_det, ro_bef, ro_bef, with_sp dm da db ne ha hb, ha, hb]
  rcases Int.lt_trichotomy (detM a b m) 0 with h | h | h
  · have h1 : ¬ 0 < detM a b m := by omega
    have h2 : ¬ detM a b m = 0 := by omega
    cases befB m a <;> cases befB m b <;> simp [h, h1, h2]
  · cases befB m a <;> cases befB m b <;> simp [h]
  · have h1 : ¬ detM a b m < 0 := by omega
    have h2 : ¬ detM a b m = 0 := by omega
    cases befB m a <;> cases befB m b <;> simp [h, h1, h2]
/-- The left side of a piece, as it is told at the end that is behind. -/
theorem far_left {P : List (List Pt)} {p q : Pt} (hS : Sd P) (pd : 0 < p.d) (qd : 0 < q.d) (hpq : befB p q = true) (hc : Clear P p q) :
    parB (leftE p q) (edgesM P) = parB (rightE (ro q) (ro p)) (edgesM (roL P)) := by
  have hd := hS.pd
  have hm := mid_pos pd qd
  obtain ⟨pm, mq⟩ := bef_pm pd qd hpq
  have hrd : ∀ v ∈ (roL P).flatten, 0 < v.d := fun v hv => by
    obtain ⟨u, hu, rfl⟩ := ro_mem hv
    exact hd u hu
  have hrq : befB (ro q) (ro p) = true := by rw [ro_bef]; exact hpq
  have hrc := ro_clear hc
  -- at no point of the polygon
  have hne : ∀ v ∈ P.flatten, befB v (midP p q) = !befB (midP p q) v := fun v hv => by
    cases h : befB (midP p q) v
    · cases h2 : befB v (midP p q)
      · exfalso
        refine hc.pt v hv (bef_le pd hm (hd v hv) pm h2) (le_bef (hd v hv) hm qd h mq) ?_
        have z : detM p q (midP p q) = 0 := by rw [mid_det]; unfold detM; grind
        have hx : xv (midP p q) v = 0 ∧ yv (midP p q) v = 0 := by
          rw [bef_x] at h
          rw [bef_x'] at h2
          omega
        have e : (midP p q).d * detM p q v = v.d * detM p q (midP p q) + xv (midP p q) v * (-yv p q) + yv (midP p q) v * xv p q := by unfold xv yv detM; grind
        rw [z, hx.1, hx.2] at e
        simp only [Int.mul_zero, Int.zero_mul, Int.add_zero] at e
        rcases Int.mul_eq_zero.1 e with c | c
        · omega
        · exact c
      · rfl
    · rw [bef_asym h]; rfl
  have e1 := side_l hS pd qd hpq hc
  have e2 : parB (rightE (ro q) (ro p)) (edgesM (roL P)) = (parB (leftE (ro q) (ro p)) (edgesM (roL P)) ^^ parB (fun a b => onB (midP (ro q) (ro p)) a b) (edgesM (roL P))) := by
    rw [← parB_xor]
    refine parB_congr fun e he => ?_
    obtain ⟨m1, m2⟩ := edge_ends he
    have ne : befB e.1 e.2 = true ∨ befB e.2 e.1 = true := by
      rw [ro_edges] at he
      obtain ⟨x, hx, rfl⟩ := List.mem_map.1 he
      rw [ro_bef, ro_bef]
      exact (hS.ne x hx).symm
    rw [rightE_eq (hrd _ m1) (hrd _ m2) (p := ro q) qd ne, along_mid (p := ro q) (q := ro p) qd pd (hrd _ m1) (hrd _ m2) hrq ne (hrc.pt _ m1) (hrc.pt _ m2) (hrc.ed e he)]
  have e3 : parB (leftE (ro q) (ro p)) (edgesM (roL P)) = parB (overB (midP (ro q) (ro p))) (edgesM (roL P)) := by
    rw [← along (p := ro q) (q := ro p) qd pd hrq hrd hrc]
    exact parB_congr fun e he => by
      obtain ⟨m1, m2⟩ := edge_ends he
      exact leftE_eq (hrd _ m1) (hrd _ m2) (p := ro q) qd
  rw [e1, e2, e3, ro_mid, ro_edges, parB_map, parB_map]
  have ev := poly_even (fun v => befB (midP p q) v) P
  have k : parB (fun a b => overB (midP p q) a b ^^ (overB (ro (midP p q)) (ro a) (ro b) ^^ onB (midP p q) a b)) (edgesM P) = false := by
    rw [← ev]
    exact parB_congr fun e he => by
      obtain ⟨m1, m2⟩ := edge_ends he
      exact above_below hm (hd _ m1) (hd _ m2) (hS.ne e he) (hne _ m1) (hne _ m2)
  rw [parB_xor (fun a b => overB (midP p q) a b) (fun a b => overB (ro (midP p q)) (ro a) (ro b) ^^ onB (midP p q) a b), parB_xor] at k
  have e4 : parB (fun a b => onB (ro (midP p q)) (ro a) (ro b)) (edgesM P) = parB (fun a b => onB (midP p q) a b) (edgesM P) := parB_congr fun e he => ro_on (hS.ne e he)
  rw [e4]
  revert k
  have e5 : parB (fun a b => overB (midP p q) a b) (edgesM P) = parB (overB (midP p q)) (edgesM P) := rfl
  rw [e5]
  cases parB (overB (midP p q)) (edgesM P) <;> cases parB (fun a b => overB (ro (midP p q)) (ro a) (ro b)) (edgesM P) <;> cases parB (fun a b => onB (midP p q) a b) (edgesM P) <;> simp
/-! Directions at a spot that go on in the order of places: they lie within half a turn. -/
theorem det_xy (v a b : Pt) : v.d * detM v a b = xv v a * yv v b - yv v a * xv v b := by unfold detM xv yv; grind
def phi (K : Int) (v a : Pt) : Int := K * xv v a + yv v a
theorem phi_id (K : Int) (v a b c : Pt) : (v.d * detM v a b) * phi K v c + (v.d * detM v b c) * phi K v a = (v.d * detM v a c) * phi K v b := by
  rw [det_xy, det_xy, det_xy]; unfold phi; grind
theorem phi_pos {K : Int} {v a : Pt} (h : befB v a = true) (h1 : -K < yv v a) (h2 : yv v a < K) : 0 < phi K v a := by
  have k : 0 < xv v a ∨ (xv v a = 0 ∧ 0 < yv v a) := by
    cases c : befB v a
    · rw [c] at h; cases h
    · have := (not_congr (bef_x v a)).1 (by rw [c]; decide)
      omega
  unfold phi
  rcases k with k | ⟨k1, k2⟩
  · have : K * 1 ≤ K * xv v a := Int.mul_le_mul_of_nonneg_left (by omega) (by omega)
    omega
  · rw [k1]; omega
/-- Three such directions: one behind the other, clockwise. -/
theorem hp_trans {v a b c : Pt} (hv : 0 < v.d) (ha : befB v a = true) (hb : befB v b = true) (hc : befB v c = true) (h1 : detM v a b ≤ 0) (h2 : detM v b c ≤ 0) : detM v a c ≤ 0 ∧ ((detM v a b < 0 ∨ detM v b c < 0) → detM v a c < 0) := by
  obtain ⟨K, k1, k2, k3, _⟩ := bnd7 (yv v a) (yv v b) (yv v c) 0 0 0 0
  have pa := phi_pos ha k1.1 k1.2
  have pb := phi_pos hb k2.1 k2.2
  have pc := phi_pos hc k3.1 k3.2
  have e := phi_id K v a b c
  have m1 : v.d * detM v a b ≤ 0 := Int.mul_nonpos_of_nonneg_of_nonpos (by omega) h1
  have m2 : v.d * detM v b c ≤ 0 := Int.mul_nonpos_of_nonneg_of_nonpos (by omega) h2
  have n1 : (v.d * detM v a b) * phi K v c ≤ 0 := Int.mul_nonpos_of_nonpos_of_nonneg m1 (by omega)
  have n2 : (v.d * detM v b c) * phi K v a ≤ 0 := Int.mul_nonpos_of_nonpos_of_nonneg m2 (by omega)
  have le : detM v a c ≤ 0 := by
    apply Decidable.byContradiction
    intro k
    have := mul_pp (mul_pp hv (show 0 < detM v a c by omega)) pb
    omega
  refine ⟨le, fun k => ?_⟩
  apply Decidable.byContradiction
  intro q
  have z : detM v a c = 0 := by omega
  rw [z, Int.mul_zero, Int.zero_mul] at e
  rcases k with k | k
  · have := mul_np (mul_pn hv k) pc
    omega
  · have := mul_np (mul_pn hv k) pa
    omega
/-- Two points of a line, both ways on: they tell the same side. -/
theorem line_sign {f l v z x : Pt} (hf : 0 < f.d) (hv : 0 < v.d) (h1 : detM f l v = 0) (h2 : detM f l z = 0) (b1 : befB f l = true) (b2 : befB v z = true) : (detM f l x < 0 ↔ detM v z x < 0) ∧ (detM f l x = 0 ↔ detM v z x = 0) := by
  obtain ⟨K, k1, k2, _⟩ := bnd7 (yv f l) (yv v z) 0 0 0 0 0
  have p1 := phi_pos b1 k1.1 k1.2
  have p2 := phi_pos b2 k2.1 k2.2
  have ey : yv f l * detM v z x = yv v z * detM f l x := plk2 x h1 h2
  have ex : xv f l * detM v z x = xv v z * detM f l x := by
    have : xv f l * detM v z x - xv v z * detM f l x = detM f l v * xv z x - detM f l z * xv v x := by unfold xv detM; grind
    rw [h1, h2] at this
    omega
  have e : phi K f l * detM v z x = phi K v z * detM f l x := by
    unfold phi
    have : (K * xv f l + yv f l) * detM v z x = K * (xv f l * detM v z x) + yv f l * detM v z x := by grind
    rw [this, ex, ey]; grind
  generalize detM v z x = s at *
  generalize detM f l x = t at *
  constructor
  · constructor
    · intro h
      apply Decidable.byContradiction
      intro k
      have := mul_pn p2 h
      have : 0 ≤ phi K f l * s := Int.mul_nonneg (by omega) (by omega)
      omega
    · intro h
      apply Decidable.byContradiction
      intro k
      have := mul_pn p1 h
      have : 0 ≤ phi K v z * t := Int.mul_nonneg (by omega) (by omega)
      omega
  · constructor
    · intro h
      rw [h, Int.mul_zero] at e
      rcases Int.mul_eq_zero.1 e with c | c
      · omega
      · exact c
    · intro h
      rw [h, Int.mul_zero] at e
      rcases Int.mul_eq_zero.1 e.symm with c | c
      · omega
      · exact c
theorem ro_gr {p : Pt} (h : Gr p) : Gr (ro p) := by
  have h1 := h.x; have h2 := h.y
  unfold In at h1 h2
  exact ⟨⟨by unfold ro; simp only; omega, by unfold ro; simp only; omega⟩, ⟨by unfold ro; simp only; omega, by unfold ro; simp only; omega⟩, h.d⟩
theorem Sd.ro {P : List (List Pt)} (h : Sd P) : Sd (roL P) := by
  refine ⟨fun v hv => ?_, fun e he => ?_⟩
  · obtain ⟨u, hu, rfl⟩ := ro_mem hv
    exact h.pd u hu
  · rw [ro_edges] at he
    obtain ⟨x, hx, rfl⟩ := List.mem_map.1 he
    rw [ro_bef, ro_bef]; exact (h.ne x hx).symm
/-- The edges above a spot; those through it that go on. -/
def aboveE (v a b : Pt) : Bool := spanM a b v && decide (sideM a b v < 0)
def thruE (v a b : Pt) : Bool := spanM a b v && decide (sideM a b v = 0)
/-- On every edge that goes on through v there is a direction of which C speaks. -/
def Spokes (P : List (List Pt)) (v : Pt) (C : Pt → Prop) : Prop := ∀ e ∈ edgesM P, thruE v e.1 e.2 = true → ∃ z, befB v z = true ∧ sideM e.1 e.2 z = 0 ∧ C z
section
variable {P : List (List Pt)} {v : Pt} (hS : Sd P) (hv : 0 < v.d)
include hS hv
theorem thru_sign {e : Pt × Pt} (he : e ∈ edgesM P) (h0 : sideM e.1 e.2 v = 0) {z : Pt} (hz : befB v z = true) (z0 : sideM e.1 e.2 z = 0) (x : Pt) : (sideM e.1 e.2 x < 0 ↔ detM v z x < 0) ∧ (sideM e.1 e.2 x = 0 ↔ detM v z x = 0) := by
  obtain ⟨m1, m2⟩ := edge_ends he
  have d1 := hS.pd _ m1
  have d2 := hS.pd _ m2
  have b : befB (firstM e.1 e.2) (lastM e.1 e.2) = true := by
    rw [first_eq, last_eq]
    rcases hS.ne e he with h | h
    · rw [h, bef_asym h]; simpa using h
    · rw [h, bef_asym h]; simpa using h
  have df : 0 < (firstM e.1 e.2).d := by unfold firstM; split <;> omega
  unfold sideM at *
  exact line_sign df hv h0 z0 b hz
/-- Two directions, none between them: the sector has one side. -/
theorem sec_right {x1 x2 : Pt} (b1 : befB v x1 = true) (b2 : befB v x2 = true) (h : detM v x1 x2 < 0) (hC : Spokes P v (fun z => ¬ (detM v x1 z < 0 ∧ detM v z x2 < 0))) : parB (rightE v x1) (edgesM P) = parB (leftE v x2) (edgesM P) := by
  refine parB_congr fun e he => ?_
  unfold rightE leftE sideOfM
  cases hs : spanM e.1 e.2 v
  · rfl
  by_cases h0 : sideM e.1 e.2 v = 0
  · obtain ⟨z, hz, z0, hn⟩ := hC e he (by unfold thruE; rw [hs, decide_eq_true h0]; rfl)
    have s1 := thru_sign hS hv he h0 hz z0 x1
    have s2 := thru_sign hS hv he h0 hz z0 x2
    rw [if_neg (by simpa using h0), if_neg (by simpa using h0), Bool.true_and, Bool.true_and, decide_eq_decide]
    constructor
    · intro k
      rw [s2.1]
      have k' : detM v z x1 ≤ 0 := by
        rcases Int.lt_or_eq_of_le k with k | k
        · have := s1.1.1 k; omega
        · have := s1.2.1 k; omega
      exact (hp_trans hv hz b1 b2 k' (by omega)).2 (.inr h)
    · intro k
      have k' := s2.1.1 k
      apply Decidable.byContradiction
      intro q
      refine hn ⟨?_, k'⟩
      have nz : ¬ detM v z x1 < 0 := fun c => q (by have := s1.1.2 c; omega)
      have nz2 : ¬ detM v z x1 = 0 := fun c => q (by have := s1.2.2 c; omega)
      have e : detM v x1 z = - detM v z x1 := by unfold detM; grind
      omega
  · rw [if_pos h0, if_pos h0, Bool.true_and, Bool.true_and, decide_eq_decide]; omega
/-- The topmost direction. -/
theorem sec_top {x : Pt} (hC : Spokes P v (fun z => ¬ detM v z x < 0)) : parB (leftE v x) (edgesM P) = parB (aboveE v) (edgesM P) := by
  refine parB_congr fun e he => ?_
  unfold leftE aboveE sideOfM
  cases hs : spanM e.1 e.2 v
  · rfl
  by_cases h0 : sideM e.1 e.2 v = 0
  · obtain ⟨z, hz, z0, hn⟩ := hC e he (by unfold thruE; rw [hs, decide_eq_true h0]; rfl)
    have s := thru_sign hS hv he h0 hz z0 x
    rw [if_neg (by simpa using h0), Bool.true_and, Bool.true_and, decide_eq_decide, h0]
    constructor
    · exact fun k => absurd (s.1.1 k) hn
    · intro k; omega
  · rw [if_pos h0]
/-- The lowest direction. -/
theorem sec_low {x : Pt} (hC : Spokes P v (fun z => detM v z x ≤ 0)) : parB (rightE v x) (edgesM P) = (parB (aboveE v) (edgesM P) ^^ parB (thruE v) (edgesM P)) := by
  rw [← parB_xor]
  refine parB_congr fun e he => ?_
  unfold rightE aboveE thruE sideOfM
  cases hs : spanM e.1 e.2 v
  · rfl
  by_cases h0 : sideM e.1 e.2 v = 0
  · obtain ⟨z, hz, z0, hn⟩ := hC e he (by unfold thruE; rw [hs, decide_eq_true h0]; rfl)
    have s := thru_sign hS hv he h0 hz z0 x
    rw [if_neg (by simpa using h0), h0]
    have : sideM e.1 e.2 x ≤ 0 := by
      rcases Int.lt_or_eq_of_le hn with k | k
      · have := s.1.2 k; omega
      · have := s.2.2 k; omega
    simp [this]
  · rw [if_pos h0]
    simp only [Bool.true_and, decide_eq_false h0, Bool.xor_false, decide_eq_decide]
    omega
end
end Go.Proofs.Ytnkcbephceollab
