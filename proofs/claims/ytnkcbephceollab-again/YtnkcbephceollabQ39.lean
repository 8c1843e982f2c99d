import Derived.Test.YtnkcbephceollabQ38
namespace Go.Proofs.Ytnkcbephceollab
set_option linter.unusedSimpArgs false
set_option linter.unusedVariables false
set_option linter.unusedSectionVars false

theorem turn_short (s : Nat → Pt) (m : Nat) : (turnP s m).length ≤ m := by
  rw [turn_len]
  unfold posN
  have := List.length_filter_le (tn s) (List.range' 0 m)
  simpa using this
section
variable {A B : List (List Pt)} (sA : Sound A) (sB : Sound B) (op : Int)
include sA sB
/-- The rings have no more points than there are borders. -/
theorem rings_total : (edgesM (ringsM (bordM op (piecesM A B)))).length ≤ (bordM op (piecesM A B)).length := by
  obtain ⟨I, h1, h2, h3, h4⟩ := rounds_whole sA sB op
  have e1 : (edgesM (ringsM (bordM op (piecesM A B)))).length = (edgesM (I.map (ringAtL (bordM op (piecesM A B))))).length := by
    unfold edgesM
    exact (h1.flatMap_right _).length_eq
  have e2 := h4.length_eq
  rw [List.length_range] at e2
  rw [e1, ← e2]
  unfold edgesM
  rw [List.flatMap_map]
  clear e1 e2 h1 h4 h2
  induction I with
  | nil => simp
  | cons z I ih =>
    have := ih (fun y hy => h3 y (List.mem_cons_of_mem _ hy))
    rw [List.flatMap_cons, List.flatMap_cons, List.length_append, List.length_append]
    have k := (ring_edges sA sB op (h3 z List.mem_cons_self)).length_eq
    rw [re_len (turnP _ _)] at k
    have k2 := turn_short (wayS (bordM op (piecesM A B)) z.1) z.2
    have k3 : (idxR (bordM op (piecesM A B)) z).length = z.2 := by unfold idxR; simp
    omega
end
/-! The way up from a place, and a straight run that it may cross. -/
theorem over_two {q x y w : Pt} (hq : 0 < q.d) (hx : 0 < x.d) (hy : 0 < y.d) (hw : 0 < w.d) (b1 : befB x y = true) (b2 : befB y w = true) (l : detM x y w = 0) (o1 : onB q x y = false) (o2 : onB q y w = false) :
    onB q x w = false ∧ overB q x w = (overB q x y ^^ overB q y w) := by
  have b3 : befB x w = true := bef_lt hy hw hx b2 b1
  have s1 := line_sign (f := x) (l := y) (v := x) (z := w) (x := q) hx hx (det_first _ _) l b1 b3
  have l2 : detM x y y = 0 := det_last _ _
  have s2 := line_sign (f := x) (l := y) (v := y) (z := w) (x := q) hx hy l2 l b1 b2
  unfold onB withB at o1 o2 ⊢
  rw [(lo_hi b1).1, (lo_hi b1).2.1] at o1
  rw [(lo_hi b2).1, (lo_hi b2).2.1] at o2
  rw [(lo_hi b3).1, (lo_hi b3).2.1]
  unfold overB
  -- the order of q against the three
  have i1 : befB q x = true → befB q y = true := fun k => bef_lt hx hy hq b1 k
  have i2 : befB q y = true → befB q w = true := fun k => bef_lt hy hw hq b2 k
  have j1 : befB w q = true → befB y q = true := fun k => bef_lt hw hq hy k b2
  have j2 : befB y q = true → befB x q = true := fun k => bef_lt hy hq hx k b1
  have a1 : befB q y = true → befB y q = false := fun k => bef_asym k
  have a2 : befB y q = true → befB q y = false := fun k => bef_asym k
  rcases Int.lt_trichotomy (detM x y q) 0 with k | k | k
  · have k1 := s1.1.1 k
    have k2 := s2.1.1 k
    have n1 : ¬ detM x w q = 0 := by omega
    have n2 : ¬ 0 < detM x w q := by omega
    have n3 : ¬ 0 < detM x y q := by omega
    have n4 : ¬ 0 < detM y w q := by omega
    simp only [k, k1, k2, n1, n2, n3, n4, decide_true, decide_false, Bool.and_true, Bool.and_false, Bool.or_false, Bool.false_and]
    refine ⟨trivial, ?_⟩
    cases c1 : befB q x <;> cases c2 : befB q y <;> cases c3 : befB q w <;> simp_all
  · have k1 := s1.2.1 k
    have k2 := s2.2.1 k
    rw [k] at o1
    rw [k2] at o2
    rw [k, k1, k2]
    simp only [decide_true, Bool.true_and] at o1 o2 ⊢
    constructor
    · cases c1 : befB q x <;> cases c2 : befB q y <;> cases c3 : befB w q <;> cases c4 : befB y q <;> simp_all
    · simp
  · have m1 : 0 < detM x w q := by
      rcases Int.lt_trichotomy (detM x w q) 0 with c | c | c
      · have := s1.1.2 c; omega
      · have := s1.2.2 c; omega
      · exact c
    have m2 : 0 < detM y w q := by
      rcases Int.lt_trichotomy (detM y w q) 0 with c | c | c
      · have := s2.1.2 c; omega
      · have := s2.2.2 c; omega
      · exact c
    have n1 : ¬ detM x w q = 0 := by omega
    have n2 : ¬ detM x w q < 0 := by omega
    have n3 : ¬ detM x y q < 0 := by omega
    have n4 : ¬ detM y w q < 0 := by omega
    simp only [k, m1, m2, n1, n2, n3, n4, decide_true, decide_false, Bool.and_true, Bool.and_false, Bool.or_false, Bool.false_and, Bool.false_or]
    refine ⟨trivial, ?_⟩
    cases c1 : befB q x <;> cases c2 : befB q y <;> cases c3 : befB q w <;> simp_all
theorem over_sw (q a b : Pt) : overB q b a = overB q a b := by
  unfold overB
  rw [det_sw2 a b q]
  have e1 : decide (-detM a b q < 0) = decide (0 < detM a b q) := decide_eq_decide.2 (by omega)
  have e2 : decide (0 < -detM a b q) = decide (detM a b q < 0) := decide_eq_decide.2 (by omega)
  rw [e1, e2]
  cases befB q a <;> cases befB q b <;> cases decide (detM a b q < 0) <;> cases decide (0 < detM a b q) <;> rfl
theorem on_sw' {q a b : Pt} (hq : 0 < q.d) (ha : 0 < a.d) (hb : 0 < b.d) : onB q b a = onB q a b := by
  cases h : onB q a b
  · exact on_sw hq ha hb h
  · cases k : onB q b a
    · rw [on_sw hq hb ha k] at h; cases h
    · rfl
section
variable {s : Nat → Pt} (w : Way s) {q : Pt} (hq : 0 < q.d)
include w hq
theorem over_run {a : Nat} : ∀ k, Run s a (a + k) → (∀ c, a ≤ c → c ≤ a + k → onB q (s c) (s (c + 1)) = false) → onB q (s a) (s (a + k + 1)) = false ∧ overB q (s a) (s (a + k + 1)) = sumX (fun c => overB q (s c) (s (c + 1))) a (k + 1)
  | 0, _, h => ⟨h a (by omega) (by omega), by simp [sumX]⟩
  | k + 1, r, h => by
    obtain ⟨i1, i2⟩ := over_run k r.tl (fun c h1 h2 => h c h1 (by omega))
    have last := h (a + k + 1) (by omega) (by omega)
    have rl := run_line w (show a ≤ a + k + 1 by omega) r
    have l0 : detM (s a) (s (a + k + 1)) (s (a + k + 2)) = 0 := by
      have e1 : detM (s a) (s (a + k + 2)) (s (a + k + 1)) = 0 := by
        rw [rl.1]
        rcases w.two a with f | f
        · exact (run_fwd w f k r.tl).2.2.2
        · have := (run_bwd w f k r.tl).2.2.2
          rw [det_back] at this
          omega
      have e2 : detM (s a) (s (a + k + 1)) (s (a + k + 2)) = -detM (s a) (s (a + k + 2)) (s (a + k + 1)) := by unfold detM; grind
      omega
    have es : sumX (fun c => overB q (s c) (s (c + 1))) a (k + 1 + 1) = (sumX (fun c => overB q (s c) (s (c + 1))) a (k + 1) ^^ overB q (s (a + k + 1)) (s (a + k + 2))) := rfl
    rw [es, ← i2]
    rcases w.two a with f | f
    · have q1 := run_fwd w f k r.tl
      have q2 := run_fwd w f (k + 1) r
      exact over_two hq (w.d a) (w.d (a + k + 1)) (w.d (a + k + 2)) q1.2.1 q2.1 l0 i1 last
    · have q1 := run_bwd w f k r.tl
      have q2 := run_bwd w f (k + 1) r
      have l1 : detM (s (a + k + 2)) (s (a + k + 1)) (s a) = 0 := by
        have : detM (s (a + k + 2)) (s (a + k + 1)) (s a) = -detM (s a) (s (a + k + 1)) (s (a + k + 2)) := by unfold detM; grind
        omega
      have := over_two hq (w.d (a + k + 2)) (w.d (a + k + 1)) (w.d a) q2.1 q1.2.1 l1 (by rw [on_sw' hq (w.d _) (w.d _)]; exact last) (by rw [on_sw' hq (w.d _) (w.d _)]; exact i1)
      refine ⟨by rw [← on_sw' hq (w.d _) (w.d _)]; exact this.1, ?_⟩
      show overB q (s a) (s (a + k + 2)) = _
      rw [← over_sw, this.2, over_sw q (s (a + k + 1)), over_sw q (s a), Bool.xor_comm]
end
/-! How many pieces there can be: a spot on an edge is told by an edge that meets it there. -/
theorem n10 : ¬ (1 : Int) = 0 := by decide
theorem n12 : ¬ (1 : Int) = 2 := by decide
theorem n20 : ¬ (2 : Int) = 0 := by decide
theorem on_three {s c d : Pt} (hs : Nice s) (hc : Gr c) (hd : Gr d) (ne : c ≠ d) (on : onB s c d = true) : s = c ∨ s = d ∨ ∃ k D P : Int, 0 < k ∧ 0 < D ∧ 0 < P ∧ sc k s = cmb D P c d := by
  have dc : 0 < c.d := by have := hc.d; omega
  have dd : 0 < d.d := by have := hd.d; omega
  obtain ⟨l, w⟩ := on_parts on
  have sd := hs.d
  rcases bef_or hc.d hd.d ne with b | b
  · unfold withB at w
    rw [(lo_hi b).1, (lo_hi b).2.1] at w
    simp only [Bool.and_eq_true, Bool.not_eq_true'] at w
    cases k1 : befB c s
    · exact .inl (canon_eq hs.2 (nice_gr hc).2 w.1 k1)
    · cases k2 : befB s d
      · exact .inr (.inl (canon_eq hs.2 (nice_gr hd).2 k2 w.2))
      · obtain ⟨k, D, P, h⟩ := in_piece k1 k2 dc sd dd l
        exact .inr (.inr ⟨k, D, P, h⟩)
  · unfold withB at w
    rw [(lo_hi b).2.2.1, (lo_hi b).2.2.2] at w
    simp only [Bool.and_eq_true, Bool.not_eq_true'] at w
    cases k1 : befB d s
    · exact .inr (.inl (canon_eq hs.2 (nice_gr hd).2 w.1 k1))
    · cases k2 : befB s c
      · exact .inl (canon_eq hs.2 (nice_gr hc).2 k2 w.2)
      · have l' : detM d c s = 0 := by rw [det_back, l]; rfl
        obtain ⟨k, D, P, h1, h2, h3, h4⟩ := in_piece k1 k2 dd sd dc l'
        refine .inr (.inr ⟨k, P, D, h1, h3, h2, ?_⟩)
        rw [h4]
        unfold cmb
        apply Pt.ext' <;> simp only <;> omega
/-- A line through a place on an edge has not both ends of it on one side. -/
theorem opp_on {s a b c d : Pt} (hs : Nice s) (hc : Gr c) (hd : Gr d) (ne : c ≠ d) (on : onB s c d = true) (l : detM a b s = 0) : ¬ (0 < detM a b c ∧ 0 < detM a b d) ∧ ¬ (detM a b c < 0 ∧ detM a b d < 0) ∧ (detM a b c = detM a b d → detM a b c = 0) := by
  rcases on_three hs hc hd ne on with e | e | ⟨k, D, P, hk, hD, hP, e⟩
  · rw [← e, l]; omega
  · rw [← e, l]; omega
  · have e2 : detM a b (sc k s) = detM a b (cmb D P c d) := by rw [e]
    rw [sc_det, l, Int.mul_zero, cmb_det] at e2
    refine ⟨fun h => ?_, fun h => ?_, fun h => ?_⟩
    · have := mul_pp hD h.1; have := mul_pp hP h.2; omega
    · have := mul_pn hD h.1; have := mul_pn hP h.2; omega
    · rw [← h] at e2
      rcases Int.lt_trichotomy (detM a b c) 0 with q | q | q
      · have := mul_pn hD q; have := mul_pn hP q; omega
      · exact q
      · have := mul_pp hD q; have := mul_pp hP q; omega
theorem holds_on {a b X : Pt} (ha : 0 < a.d) (hb : 0 < b.d) (hX : 0 < X.d) (h : holdsB a b X = true) : onB X a b = true := by
  obtain ⟨l, h1, h2⟩ := (holds_iff a b X).1 h
  unfold onB
  rw [l]
  show (decide ((0 : Int) = 0) && withB X a b) = true
  have d0 : decide ((0 : Int) = 0) = true := by decide
  rw [d0, Bool.true_and]
  unfold withB loM hiM
  by_cases c : befB b a = true
  · rw [if_pos c, if_pos c]
    have i1 : befB X b = true → befB X a = true := fun k => bef_lt hb ha hX c k
    have i2 : befB a X = true → befB b X = true := fun k => bef_lt ha hX hb k c
    cases k1 : befB X b
    · cases k2 : befB a X
      · rfl
      · exact absurd ⟨k2, i2 k2⟩ h2
    · exact absurd ⟨i1 k1, k1⟩ h1
  · rw [if_neg c, if_neg c]
    have c' : befB b a = false := by simpa using c
    cases k1 : befB X a
    · cases k2 : befB b X
      · rfl
      · exact absurd ⟨le_bef ha hb hX c' k2, k2⟩ h2
    · exact absurd ⟨k1, bef_le hX ha hb k1 c'⟩ h1
/-- Two places on two lines that are not one are one place. -/
theorem two_lines {a b c d X Y : Pt} (hX : 0 < X.d) (hY : 0 < Y.d) (nc : detM a b d - detM a b c ≠ 0) (x1 : detM a b X = 0) (x2 : detM c d X = 0) (y1 : detM a b Y = 0) (y2 : detM c d Y = 0) (ha : a.d = 1) (hb : b.d = 1) (hc : c.d = 1) (hd : d.d = 1) : befB X Y = false ∧ befB Y X = false := by
  have e1 : (detM a b d - detM a b c) * xv X Y = (d.x - c.x) * (X.d * detM a b Y - Y.d * detM a b X) - (b.x - a.x) * (X.d * detM c d Y - Y.d * detM c d X) := by
    clear x1 x2 y1 y2 nc; unfold xv detM; rw [ha, hb, hc, hd]; grind
  have e2 : (detM a b d - detM a b c) * yv X Y = (d.y - c.y) * (X.d * detM a b Y - Y.d * detM a b X) - (b.y - a.y) * (X.d * detM c d Y - Y.d * detM c d X) := by
    clear x1 x2 y1 y2 nc e1; unfold yv detM; rw [ha, hb, hc, hd]; grind
  rw [x1, x2, y1, y2] at e1 e2
  simp only [Int.mul_zero, Int.sub_self] at e1 e2
  have z1 : xv X Y = 0 := by
    rcases Int.mul_eq_zero.1 e1 with k | k
    · exact absurd k nc
    · exact k
  have z2 : yv X Y = 0 := by
    rcases Int.mul_eq_zero.1 e2 with k | k
    · exact absurd k nc
    · exact k
  constructor
  · rw [bef_x]; omega
  · rw [bef_x']; omega
theorem meet_across {a b c d s : Pt} (ha : Gr a) (hb : Gr b) (hc : Gr c) (hd : Gr d) (hab : a ≠ b) (hcd : c ≠ d) (hs : Nice s) (o1 : onB s a b = true) (o2 : onB s c d = true) (nc : ¬ (detM a b c = 0 ∧ detM a b d = 0)) : inMt (meetM a b c d) s := by
  have da : 0 < a.d := by have := ha.d; omega
  have db : 0 < b.d := by have := hb.d; omega
  have dc : 0 < c.d := by have := hc.d; omega
  have dd : 0 < d.d := by have := hd.d; omega
  have p1 := opp_on hs hc hd hcd o2 (on_parts o1).1
  have p2 := opp_on hs ha hb hab o1 (on_parts o2).1
  have pq := pq_mn ha.d hb.d hc.d hd.d
  have hw : detM a b d - detM a b c ≠ 0 := by omega
  have g : goodM (detM a b d - detM a b c) (detM a b c) (detM a b d) (detM c d a) (detM c d b) := by
    unfold goodM; omega
  have mn := meet_nice ha hb hc hd
  have em : meetM a b c d = acrossM a b c d := by rw [meet_eq ha.d hb.d hc.d hd.d, if_neg hw]
  rcases meet_cases ha hb hc hd hab hcd with ⟨e, _⟩ | ⟨P, e, _, pd, h1, h2, _⟩ | ⟨P, Q, e, _⟩
  · rw [em, across_good ha.d hb.d hc.d hd.d hw g] at e
    have := congrArg Mt.k e
    exact absurd this n10
  · rw [e] at mn
    have nP : Nice P := by
      rcases mn with k | k | k
      · exact absurd k n10
      · exact k.2
      · exact absurd k.1 n12
    have l1 := (on_parts (holds_on da db pd h1)).1
    have l2 := (on_parts (holds_on dc dd pd h2)).1
    obtain ⟨k1, k2⟩ := two_lines hs.d pd hw (on_parts o1).1 (on_parts o2).1 l1 l2 ha.d hb.d hc.d hd.d
    rw [e]
    exact .inl ⟨n10, canon_eq hs.2 nP.2 k1 k2⟩
  · rw [em, across_good ha.d hb.d hc.d hd.d hw g] at e
    have := congrArg Mt.k e
    exact absurd this n12
theorem meet_ends {a b c d s : Pt} (ha : Gr a) (hb : Gr b) (hc : Gr c) (hd : Gr d) (hab : a ≠ b) (o1 : onB s a b = true) (l1 : detM a b c = 0) (l2 : detM a b d = 0) (hs : s = c ∨ s = d) : inMt (meetM a b c d) s := by
  have gs : Gr s := by rcases hs with e | e <;> rw [e] <;> assumption
  have em : meetM a b c d = lineM a b c d := by rw [meet_eq ha.d hb.d hc.d hd.d, if_pos (by omega), if_neg (by simpa using l1)]
  have w := (on_parts o1).2
  have fd := first_d ha.d hb.d
  have ld := last_d ha.d hb.d
  have b1 : ¬ L s (firstM a b) ∧ ¬ L (lastM a b) s := by
    rw [first_eq, last_eq]
    unfold withB loM hiM at w
    rw [Bool.and_eq_true, Bool.not_eq_true', Bool.not_eq_true'] at w
    by_cases c : befB b a = true
    · rw [if_pos c] at w ⊢
      rw [if_pos c] at w
      rw [if_neg (by rw [bef_asym c]; decide)]
      exact ⟨fun k => by rw [(bef_L gs.d hb.d).2 k] at w; exact absurd w.1 (by decide), fun k => by rw [(bef_L ha.d gs.d).2 k] at w; exact absurd w.2 (by decide)⟩
    · have c' : befB a b = true := (bef_or ha.d hb.d hab).resolve_right c
      rw [if_neg c] at w ⊢
      rw [if_neg c] at w
      rw [if_pos c']
      exact ⟨fun k => by rw [(bef_L gs.d ha.d).2 k] at w; exact absurd w.1 (by decide), fun k => by rw [(bef_L hb.d gs.d).2 k] at w; exact absurd w.2 (by decide)⟩
  have fc := first_le hc.d hd.d
  have lc := last_ge hc.d hd.d
  have fcd := first_d hc.d hd.d
  have lcd := last_d hc.d hd.d
  have sfl : s = firstM c d ∨ s = lastM c d := by
    rcases L_tri hc.d hd.d with t | t | t
    · have f1 : firstM c d = c := by rw [first_eq, if_neg (by rw [bef_asym ((bef_L hc.d hd.d).2 t)]; decide)]
      have f2 : lastM c d = d := by rw [last_eq, if_pos ((bef_L hc.d hd.d).2 t)]
      rw [f1, f2]; exact hs
    · subst t
      rw [first_self]
      rcases hs with e | e <;> exact .inl e
    · have f1 : firstM c d = d := by rw [first_eq, if_pos ((bef_L hd.d hc.d).2 t)]
      have f2 : lastM c d = c := by rw [last_eq, if_neg (by rw [bef_asym ((bef_L hd.d hc.d).2 t)]; decide)]
      rw [f1, f2]; exact hs.symm
  have dF := last_d fd fcd
  have dT := first_d ld lcd
  have hF := last_ge fd fcd
  have hT := first_le ld lcd
  have cF := last_cases (firstM a b) (firstM c d)
  have cT := first_cases (lastM a b) (lastM c d)
  have fl : ¬ L (lastM c d) (firstM c d) := fun k => fc.1 (by
    rcases last_cases c d with e | e
    · rw [e] at k; exact k
    · rw [e] at k; exact absurd k fc.2)
  rw [em]
  unfold lineM
  simp only
  generalize lastM (firstM a b) (firstM c d) = F at *
  generalize firstM (lastM a b) (lastM c d) = T at *
  generalize firstM a b = f1 at *
  generalize lastM a b = t1 at *
  generalize firstM c d = f2 at *
  generalize lastM c d = t2 at *
  have nFs : ¬ L s F := by
    rcases cF with e | e
    · rw [e]; exact b1.1
    · rw [e]
      rcases sfl with k | k
      · rw [k]; exact fun q => L_asym q q
      · rw [k]; exact fl
  have nsT : ¬ L T s := by
    rcases cT with e | e
    · rw [e]; exact b1.2
    · rw [e]
      rcases sfl with k | k
      · rw [k]; exact fl
      · rw [k]; exact fun q => L_asym q q
  have nTF : ¬ cmpM F T > 0 := fun k => by
    have k' := (cmp_pos dF dT).1 k
    rcases L_tri gs.d dF with q | q | q
    · exact nFs q
    · rw [q] at nsT; exact nsT k'
    · exact nsT (L_trans k' q)
  rw [if_neg nTF]
  by_cases z : cmpM F T = 0
  · rw [if_pos z]
    have e := (cmp_zero dF dT).1 z
    refine .inl ⟨n10, L_anti gs.d dF nFs (by rw [e]; exact nsT)⟩
  · rw [if_neg z]
    rcases sfl with k | k
    · refine .inl ⟨n20, L_anti gs.d dF nFs (by rw [k]; exact hF.2)⟩
    · refine .inr ⟨rfl, L_anti gs.d dT (by rw [k]; exact hT.2) nsT⟩
theorem spot_both {E : List (Pt × Pt)} (hG : Good E) {s : Pt} (ns : Nice s) {g h : Pt × Pt} (hg : g ∈ E) (hh : h ∈ E) (im : inMt (meetM g.1 g.2 h.1 h.2) s) : onB s g.1 g.2 = true ∧ onB s h.1 h.2 = true := by
  have gg := hG.gr g hg
  have gh := hG.gr h hh
  have pos : ∀ {p : Pt}, Gr p → 0 < p.d := fun k => by have := k.d; omega
  rcases meet_cases gg.1 gg.2 gh.1 gh.2 (hG.ne g hg) (hG.ne h hh) with ⟨k, _⟩ | ⟨P, k, _, pd, h1, h2, _⟩ | ⟨P, Q, k, gP, gQ, h1, h2, h3, h4, bb, _⟩
  · rw [k] at im
    rcases im with ⟨q, _⟩ | ⟨q, _⟩
    · exact absurd rfl q
    · exact absurd q (by decide)
  · rw [k] at im
    rcases im with ⟨_, q⟩ | ⟨q, _⟩
    · rw [q]; exact ⟨holds_on (pos gg.1) (pos gg.2) pd h1, holds_on (pos gh.1) (pos gh.2) pd h2⟩
    · exact absurd q n12
  · rw [k] at im
    rcases im with ⟨_, q⟩ | ⟨_, q⟩
    · have pd : 0 < P.d := by have := ns.d; rw [q] at this; exact this
      rw [q]; exact ⟨holds_on (pos gg.1) (pos gg.2) pd h1, holds_on (pos gh.1) (pos gh.2) pd h2⟩
    · have pd : 0 < Q.d := by have := ns.d; rw [q] at this; exact this
      rw [q]; exact ⟨holds_on (pos gg.1) (pos gg.2) pd h3, holds_on (pos gh.1) (pos gh.2) pd h4⟩
/-- Each spot lies on an edge. -/
theorem spot_edge {E : List (Pt × Pt)} (hG : Good E) {s : Pt} (hs : s ∈ spotsM E) : ∃ e ∈ E, onB s e.1 e.2 = true := by
  obtain ⟨sn, sm⟩ := spots_spec hG
  obtain ⟨g, hg, h, hh, im⟩ := (sm s).1 hs
  exact ⟨g, hg, (spot_both hG (sn.nc s hs) hg hh im).1⟩
theorem spot_meet {E : List (Pt × Pt)} (hG : Good E) {s : Pt} (hs : s ∈ spotsM E) {e : Pt × Pt} (he : e ∈ E) (on : onB s e.1 e.2 = true) : ∃ f ∈ E, inMt (meetM e.1 e.2 f.1 f.2) s := by
  obtain ⟨sn, sm⟩ := spots_spec hG
  have ns := sn.nc s hs
  obtain ⟨g, hg, h, hh, im⟩ := (sm s).1 hs
  have ge := hG.gr e he
  have gg := hG.gr g hg
  have gh := hG.gr h hh
  have pos : ∀ {p : Pt}, Gr p → 0 < p.d := fun k => by have := k.d; omega
  have both := spot_both hG ns hg hh im
  by_cases c1 : detM e.1 e.2 g.1 = 0 ∧ detM e.1 e.2 g.2 = 0
  · by_cases c2 : detM e.1 e.2 h.1 = 0 ∧ detM e.1 e.2 h.2 = 0
    · -- all on one line: s is an end of one of the two
      have ne := bef_or ge.1.d ge.2.d (hG.ne e he)
      have lg : ∀ x, detM e.1 e.2 x = 0 → detM g.1 g.2 x = 0 := fun x hx => by
        rcases bef_or gg.1.d gg.2.d (hG.ne g hg) with b | b
        · exact (line_apart (pos ge.1) (pos ge.2) (pos gg.1) ne b c1.1 c1.2 x x).2.2 hx
        · have := (line_apart (pos ge.1) (pos ge.2) (pos gg.2) ne b c1.2 c1.1 x x).2.2 hx
          rw [det_back] at this; omega
      have m1 := lg _ c2.1
      have m2 := lg _ c2.2
      have em : meetM g.1 g.2 h.1 h.2 = lineM g.1 g.2 h.1 h.2 := by rw [meet_eq gg.1.d gg.2.d gh.1.d gh.2.d, if_pos (by omega), if_neg (by simpa using m1)]
      rw [em] at im
      have fc : ∀ p q : Pt, firstM p q = p ∨ firstM p q = q := first_cases
      have lc : ∀ p q : Pt, lastM p q = p ∨ lastM p q = q := last_cases
      have F4 : ∀ x, x = lastM (firstM g.1 g.2) (firstM h.1 h.2) ∨ x = firstM (lastM g.1 g.2) (lastM h.1 h.2) → (x = g.1 ∨ x = g.2) ∨ (x = h.1 ∨ x = h.2) := fun x hx => by
        rcases hx with k | k
        · rcases lc (firstM g.1 g.2) (firstM h.1 h.2) with q | q
          · rw [k, q]; exact .inl (fc _ _)
          · rw [k, q]; exact .inr (fc _ _)
        · rcases fc (lastM g.1 g.2) (lastM h.1 h.2) with q | q
          · rw [k, q]; exact .inl (lc _ _)
          · rw [k, q]; exact .inr (lc _ _)
      have ends : (s = g.1 ∨ s = g.2) ∨ (s = h.1 ∨ s = h.2) := by
        unfold lineM at im
        simp only at im
        by_cases q1 : cmpM (lastM (firstM g.1 g.2) (firstM h.1 h.2)) (firstM (lastM g.1 g.2) (lastM h.1 h.2)) > 0
        · rw [if_pos q1] at im
          rcases im with ⟨q, _⟩ | ⟨q, _⟩
          · exact absurd rfl q
          · exact absurd q (by decide)
        · rw [if_neg q1] at im
          by_cases q2 : cmpM (lastM (firstM g.1 g.2) (firstM h.1 h.2)) (firstM (lastM g.1 g.2) (lastM h.1 h.2)) = 0
          · rw [if_pos q2] at im
            rcases im with ⟨_, q⟩ | ⟨q, _⟩
            · exact F4 s (.inl q)
            · exact absurd q n12
          · rw [if_neg q2] at im
            rcases im with ⟨_, q⟩ | ⟨_, q⟩
            · exact F4 s (.inl q)
            · exact F4 s (.inr q)
      rcases ends with k | k
      · exact ⟨g, hg, meet_ends ge.1 ge.2 gg.1 gg.2 (hG.ne e he) on c1.1 c1.2 k⟩
      · exact ⟨h, hh, meet_ends ge.1 ge.2 gh.1 gh.2 (hG.ne e he) on c2.1 c2.2 k⟩
    · exact ⟨h, hh, meet_across ge.1 ge.2 gh.1 gh.2 (hG.ne e he) (hG.ne h hh) ns on both.2 c2⟩
  · exact ⟨g, hg, meet_across ge.1 ge.2 gg.1 gg.2 (hG.ne e he) (hG.ne g hg) ns on both.1 c1⟩
theorem nd_le {γ : Type} : ∀ {l m : List γ}, l.Nodup → (∀ x ∈ l, x ∈ m) → l.length ≤ m.length
  | [], m, _, _ => Nat.zero_le _
  | a :: l, m, hn, h => by
    haveI : DecidableEq γ := fun a b => Classical.propDecidable (a = b)
    obtain ⟨n1, n2⟩ := List.nodup_cons.1 hn
    have ha := h a List.mem_cons_self
    have ih := nd_le (m := m.erase a) n2 (fun x hx => (List.mem_erase_of_ne (fun (e : x = a) => n1 (e ▸ hx))).2 (h x (List.mem_cons_of_mem _ hx)))
    rw [List.length_erase_of_mem ha] at ih
    have := List.length_pos_of_mem ha
    rw [List.length_cons]; omega
theorem AL_zip {f : Pt → Bool} : ∀ {S : List Pt} {x : Pt × Pt}, AL f S x → x ∈ (S.filter f).zip ((S.filter f).drop 1)
  | s :: l, x, h => by
    rcases h with ⟨fs, e, k⟩ | h
    · rw [List.filter_cons, if_pos fs]
      have hh : (l.filter f).head? = some x.2 := by rw [List.head?_filter]; exact k
      cases c : l.filter f with
      | nil => rw [c] at hh; cases hh
      | cons y r =>
        rw [c] at hh
        have : y = x.2 := Option.some.inj hh
        have ex : x = (s, y) := Prod.ext e this.symm
        rw [ex]
        simp
    · have ih := AL_zip h
      rw [List.filter_cons]
      by_cases fs : f s = true
      · rw [if_pos fs]
        cases c : l.filter f with
        | nil => rw [c] at ih; cases ih
        | cons y r =>
          rw [c] at ih
          simp only [List.drop_succ_cons, List.drop_zero] at ih ⊢
          rw [List.zip_cons_cons]
          exact List.mem_cons_of_mem _ ih
      · rw [if_neg fs]; exact ih
theorem pairs_bound {E : List (Pt × Pt)} (hG : Good E) : (pairsL E (spotsM E)).length ≤ E.length * (2 * E.length) := by
  obtain ⟨sn, sm⟩ := spots_spec hG
  obtain ⟨pw, pm⟩ := pairs_spec E sn
  have nd : (pairsL E (spotsM E)).Nodup := List.Pairwise.imp (fun {a b} (h : PR a b) => (fun (e : a = b) => PR_irr b (e ▸ h) : a ≠ b)) pw
  have few : ∀ e ∈ E, ((spotsM E).filter (fun s => hasM e.1 e.2 s)).length ≤ 2 * E.length := fun e he => by
    have ge := hG.gr e he
    have d1 : 0 < e.1.d := by have := ge.1.d; omega
    have d2 : 0 < e.2.d := by have := ge.2.d; omega
    have nds : ((spotsM E).filter (fun s => hasM e.1 e.2 s)).Nodup := List.Pairwise.imp (fun {a b} (h : befB a b = true) => ((fun (q : a = b) => by rw [q, bef_irr] at h; cases h) : a ≠ b)) (List.Pairwise.filter _ sn.srt)
    have := nd_le (m := E.flatMap (fun f => [(meetM e.1 e.2 f.1 f.2).p, (meetM e.1 e.2 f.1 f.2).q])) nds (fun s hs => by
      obtain ⟨h1, h2⟩ := List.mem_filter.1 hs
      obtain ⟨f, hf, im⟩ := spot_meet hG h1 he (by rw [← has_on d1 d2 (sn.nc s h1).d]; exact h2)
      refine List.mem_flatMap.2 ⟨f, hf, ?_⟩
      rcases im with ⟨_, k⟩ | ⟨_, k⟩
      · rw [k]; simp
      · rw [k]; simp)
    have l2 : ∀ F : List (Pt × Pt), (F.flatMap (fun f => [(meetM e.1 e.2 f.1 f.2).p, (meetM e.1 e.2 f.1 f.2).q])).length = 2 * F.length := fun F => by
      induction F with
      | nil => rfl
      | cons f F ih => rw [List.flatMap_cons, List.length_append, ih]; simp; omega
    rw [l2] at this
    exact this
  have := nd_le (m := E.flatMap (fun e => ((spotsM E).filter (fun s => hasM e.1 e.2 s)).zip (((spotsM E).filter (fun s => hasM e.1 e.2 s)).drop 1))) nd (fun x hx => by
    obtain ⟨e, he, a⟩ := (pm x).1 hx
    exact List.mem_flatMap.2 ⟨e, he, AL_zip a⟩)
  refine Nat.le_trans this ?_
  have gen : ∀ F : List (Pt × Pt), (∀ e ∈ F, e ∈ E) → (F.flatMap (fun e => ((spotsM E).filter (fun s => hasM e.1 e.2 s)).zip (((spotsM E).filter (fun s => hasM e.1 e.2 s)).drop 1))).length ≤ F.length * (2 * E.length) := fun F => by
    induction F with
    | nil => intro _; simp
    | cons e F ih =>
      intro h
      have i := ih (fun x hx => h x (List.mem_cons_of_mem _ hx))
      have k := few e (h e List.mem_cons_self)
      rw [List.flatMap_cons, List.length_append, List.length_cons, Nat.succ_mul]
      have z : (((spotsM E).filter (fun s => hasM e.1 e.2 s)).zip (((spotsM E).filter (fun s => hasM e.1 e.2 s)).drop 1)).length ≤ ((spotsM E).filter (fun s => hasM e.1 e.2 s)).length := by
        rw [List.length_zip]; omega
      omega
  exact gen E (fun _ h => h)
/-- The rings of a result have not so many points that Locate would refuse them. -/
theorem rings_bound {A B : List (List Pt)} (c1 : (checkM A).1 = 0) (c2 : (checkM B).1 = 0) (op : Int) : (edgesM (ringsM (bordM op (piecesM A B)))).length ≤ 1152 := by
  have t := rings_total (sound_of c1) (sound_of c2) op
  have b := bord_len op (piecesM A B)
  have e : (piecesM A B).length = (pairsL (edgesM A ++ edgesM B) (spotsM (edgesM A ++ edgesM B))).length := by unfold piecesM; rw [List.length_map]
  have p := pairs_bound (good_both (sound_of c1) (sound_of c2))
  have hE : (edgesM A ++ edgesM B).length ≤ 24 := by
    have := check_few c1; have := check_few c2
    rw [List.length_append]; omega
  have : (edgesM A ++ edgesM B).length * (2 * (edgesM A ++ edgesM B).length) ≤ 24 * (2 * 24) := Nat.mul_le_mul hE (by omega)
  omega
theorem moreM_ok : ∀ (P : List (List Pt)) (room : Int), ((edgesM P).length : Int) ≤ room → moreM room P = false
  | [], room, _ => rfl
  | r :: P, room, h => by
    have e : (edgesM (r :: P)).length = r.length + (edgesM P).length := by simp [edgesM, ringEdges_len]
    rw [e] at h
    show (if room < (r.length : Int) then true else moreM (room - r.length) P) = false
    rw [if_neg (by omega)]
    exact moreM_ok P _ (by omega)
end Go.Proofs.Ytnkcbephceollab
