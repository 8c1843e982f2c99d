import Derived.Test.YtnkcbephceollabQ42
namespace Go.Proofs.Ytnkcbephceollab
set_option linter.unusedSimpArgs false
set_option linter.unusedVariables false
set_option linter.unusedSectionVars false

/-! What a way crosses of the borders it crosses of the rings. -/
theorem far_in {S : List Pt} (hS : ∀ s ∈ S, goodB s = true) {p X : Pt} (hp : goodB p = true) (hX : 0 < X.d) (b : befB p X = true) (off : ∀ s ∈ S, befB s X = true ∨ befB X s = true) : ∃ o : Pt, 0 < o.d ∧ (∀ s ∈ S, 0 < xv o s) ∧ ∀ s ∈ S, detM o X s ≠ 0 := by
  have ox : ∀ k : Nat, xv X (outP k) < 0 := fun k => by
    have h1 := out_x hp k
    have pd := (gd_of_good hp).2
    rw [bef_key] at b
    have b0 : 0 ≤ xv p X := by omega
    have e : p.d * xv X (outP k) = X.d * xv p (outP k) - xv p X := by unfold xv outP; simp only; grind
    have h2 := mul_pn hX h1
    rcases Int.lt_or_le (xv X (outP k)) 0 with c | c
    · exact c
    · have := mul_gg (Int.le_of_lt pd) c
      omega
  obtain ⟨k, _, _, h, _⟩ := far_free' (q := X) (l := S) (p := X) (r := rightP X) hX ox (fun v hv ⟨h1, h2⟩ => by
    rcases off v hv with b | b
    · rw [bef_key] at b
      have e1 : xv v X = -xv X v := by unfold xv; grind
      have e2 : yv v X = -yv X v := by unfold yv; grind
      omega
    · rw [bef_key] at b; omega) hX ox (fun ⟨h1, _⟩ => by
    have e : xv X (rightP X) = X.d * X.d := by unfold xv rightP; grind
    have := mul_pp hX hX
    omega)
  exact ⟨outP k, by simp [outP], fun s hs => (out_xv k (hS s hs)).1, h⟩
theorem sg_same {a b : Int} (h : (a < 0 ↔ b < 0) ∧ (a = 0 ↔ b = 0)) : decide (a < 0) = decide (b < 0) ∧ decide (0 < a) = decide (0 < b) := by
  refine ⟨decide_eq_decide.2 h.1, decide_eq_decide.2 ?_⟩
  omega
theorem cross_two {o m x y w : Pt} (hx : 0 < x.d) (hy : 0 < y.d) (hw : 0 < w.d) (b1 : befB x y = true) (b2 : befB y w = true) (l : detM x y w = 0) (g1 : detM o m x ≠ 0) (g2 : detM o m y ≠ 0) (g3 : detM o m w ≠ 0) :
    crossB o m x w = (crossB o m x y ^^ crossB o m y w) := by
  have b3 : befB x w = true := bef_lt hy hw hx b2 b1
  have s1 := fun q => sg_same (line_sign (f := x) (l := y) (v := x) (z := w) (x := q) hx hx (det_first _ _) l b1 b3)
  have l2 : detM x y y = 0 := det_last _ _
  have s2 := fun q => sg_same (line_sign (f := x) (l := y) (v := y) (z := w) (x := q) hx hy l2 l b1 b2)
  have fl : ∀ a : Int, a ≠ 0 → decide (0 < a) = !decide (a < 0) := fun a ha => by
    by_cases k : a < 0
    · rw [decide_eq_true k, decide_eq_false (by omega)]; rfl
    · rw [decide_eq_false k, decide_eq_true (by omega)]; rfl
  unfold crossB apartB
  rw [← (s1 o).1, ← (s1 o).2, ← (s1 m).1, ← (s1 m).2, ← (s2 o).1, ← (s2 o).2, ← (s2 m).1, ← (s2 m).2, fl _ g1, fl _ g2, fl _ g3]
  cases decide (detM o m x < 0) <;> cases decide (detM o m y < 0) <;> cases decide (detM o m w < 0) <;> simp
theorem cross_run {s : Nat → Pt} (w : Way s) {o m : Pt} (gen : ∀ c, detM o m (s c) ≠ 0) {a : Nat} : ∀ k, Run s a (a + k) → crossB o m (s a) (s (a + k + 1)) = sumX (fun c => crossB o m (s c) (s (c + 1))) a (k + 1)
  | 0, _ => by simp [sumX]
  | k + 1, r => by
    have i2 := cross_run w gen k r.tl
    have l0 := run_zero w (a := a) (k := k) r
    have es : sumX (fun c => crossB o m (s c) (s (c + 1))) a (k + 1 + 1) = (sumX (fun c => crossB o m (s c) (s (c + 1))) a (k + 1) ^^ crossB o m (s (a + k + 1)) (s (a + k + 2))) := rfl
    rw [es, ← i2]
    rcases w.two a with f | f
    · have q1 := run_fwd w f k r.tl
      have q2 := run_fwd w f (k + 1) r
      exact cross_two (w.d a) (w.d (a + k + 1)) (w.d (a + k + 2)) q1.2.1 q2.1 l0 (gen _) (gen _) (gen _)
    · have q1 := run_bwd w f k r.tl
      have q2 := run_bwd w f (k + 1) r
      have l1 : detM (s (a + k + 2)) (s (a + k + 1)) (s a) = 0 := by
        have : detM (s (a + k + 2)) (s (a + k + 1)) (s a) = -detM (s a) (s (a + k + 1)) (s (a + k + 2)) := by unfold detM; grind
        omega
      have := cross_two (o := o) (m := m) (w.d (a + k + 2)) (w.d (a + k + 1)) (w.d a) q2.1 q1.2.1 l1 (gen _) (gen _) (gen _)
      show crossB o m (s a) (s (a + k + 2)) = _
      rw [← cross_sw2 o m (s a), this, cross_sw2 o m (s (a + k + 1)), cross_sw2 o m (s a), Bool.xor_comm]
/-- A place on a straight run that is none of its spots. -/
theorem on_three' {q x y w : Pt} (hq : 0 < q.d) (hx : 0 < x.d) (hy : 0 < y.d) (hw : 0 < w.d) (b1 : befB x y = true) (b2 : befB y w = true) (l : detM x y w = 0) (off : befB y q = true ∨ befB q y = true) :
    onB q x w = (onB q x y ^^ onB q y w) := by
  have b3 : befB x w = true := bef_lt hy hw hx b2 b1
  have s1 := (line_sign (f := x) (l := y) (v := x) (z := w) (x := q) hx hx (det_first _ _) l b1 b3).2
  have l2 : detM x y y = 0 := det_last _ _
  have s2 := (line_sign (f := x) (l := y) (v := y) (z := w) (x := q) hx hy l2 l b1 b2).2
  have e1 : decide (detM x w q = 0) = decide (detM x y q = 0) := decide_eq_decide.2 s1.symm
  have e2 : decide (detM y w q = 0) = decide (detM x y q = 0) := decide_eq_decide.2 s2.symm
  unfold onB withB
  rw [(lo_hi b1).1, (lo_hi b1).2.1, (lo_hi b2).1, (lo_hi b2).2.1, (lo_hi b3).1, (lo_hi b3).2.1, e1, e2]
  have i1 : befB q x = true → befB q y = true := fun k => bef_lt hx hy hq b1 k
  have j1 : befB w q = true → befB y q = true := fun k => bef_lt hw hq hy k b2
  have a1 : befB q y = true → befB y q = false := fun k => bef_asym k
  have a2 : befB y q = true → befB q y = false := fun k => bef_asym k
  cases decide (detM x y q = 0)
  · simp
  · cases c1 : befB q x <;> cases c2 : befB q y <;> cases c3 : befB w q <;> cases c4 : befB y q <;> simp_all
theorem onx_run {s : Nat → Pt} (w : Way s) {q : Pt} (hq : 0 < q.d) (off : ∀ c, befB (s c) q = true ∨ befB q (s c) = true) {a : Nat} : ∀ k, Run s a (a + k) → onB q (s a) (s (a + k + 1)) = sumX (fun c => onB q (s c) (s (c + 1))) a (k + 1)
  | 0, _ => by simp [sumX]
  | k + 1, r => by
    have i2 := onx_run w hq off k r.tl
    have l0 := run_zero w (a := a) (k := k) r
    have es : sumX (fun c => onB q (s c) (s (c + 1))) a (k + 1 + 1) = (sumX (fun c => onB q (s c) (s (c + 1))) a (k + 1) ^^ onB q (s (a + k + 1)) (s (a + k + 2))) := rfl
    rw [es, ← i2]
    rcases w.two a with f | f
    · have q1 := run_fwd w f k r.tl
      have q2 := run_fwd w f (k + 1) r
      exact on_three' hq (w.d a) (w.d (a + k + 1)) (w.d (a + k + 2)) q1.2.1 q2.1 l0 (off _)
    · have q1 := run_bwd w f k r.tl
      have q2 := run_bwd w f (k + 1) r
      have l1 : detM (s (a + k + 2)) (s (a + k + 1)) (s a) = 0 := by
        have : detM (s (a + k + 2)) (s (a + k + 1)) (s a) = -detM (s a) (s (a + k + 1)) (s (a + k + 2)) := by unfold detM; grind
        omega
      have := on_three' hq (w.d (a + k + 2)) (w.d (a + k + 1)) (w.d a) q2.1 q1.2.1 l1 (off _)
      show onB q (s a) (s (a + k + 2)) = _
      rw [← on_sw' hq (w.d _) (w.d _), this, on_sw' hq (w.d (a + k + 1)) (w.d (a + k + 2)), on_sw' hq (w.d a) (w.d (a + k + 1)), Bool.xor_comm]
section
variable {A B : List (List Pt)} (sA : Sound A) (sB : Sound B) (op : Int)
include sA sB
/-- What is told of straight runs as of their parts, is told of the rings as of the borders. -/
theorem rings_sum {G : Pt → Pt → Bool} (hG : ∀ i, i < (bordM op (piecesM A B)).length → ∀ a k, Run (wayS (bordM op (piecesM A B)) i) a (a + k) → G (wayS (bordM op (piecesM A B)) i a) (wayS (bordM op (piecesM A B)) i (a + k + 1)) = sumX (fun c => G (wayS (bordM op (piecesM A B)) i c) (wayS (bordM op (piecesM A B)) i (c + 1))) a (k + 1)) :
    parB G (edgesM (ringsM (bordM op (piecesM A B)))) = parB G (bordM op (piecesM A B)) := by
  obtain ⟨I, h1, h2, h3, h4⟩ := rounds_whole sA sB op
  have pe : (edgesM (ringsM (bordM op (piecesM A B)))).Perm (edgesM (I.map (ringAtL (bordM op (piecesM A B))))) := by
    unfold edgesM; exact h1.flatMap_right _
  have one : ∀ z ∈ I, parB G (ringEdges (ringAtL (bordM op (piecesM A B)) z)) = parB G (ringEdges (wayR (bordM op (piecesM A B)) z)) := fun z hz' => by
    have hz := h3 z hz'
    have per := way_per hz.per
    rw [parB_perm (ring_edges sA sB op hz), turn_sum per (h := fun c => G (wayS (bordM op (piecesM A B)) z.1 c) (wayS (bordM op (piecesM A B)) z.1 (c + 1))) (fun c => by
      show G (wayS _ z.1 (c + z.2)) (wayS _ z.1 (c + z.2 + 1)) = _
      rw [per, show c + z.2 + 1 = (c + 1) + z.2 by omega, per]) (fun a b ab r => by
        obtain ⟨k, rfl⟩ : ∃ k, b = a + k := ⟨b - a, by omega⟩
        rw [show a + k + 1 - a = k + 1 by omega]
        exact hG z.1 hz.lt a k r) (pos_some sA sB op hz), way_list sA sB op hz]
    exact (sumX_par G (fun c => (wayS (bordM op (piecesM A B)) z.1 c, wayS (bordM op (piecesM A B)) z.1 (c + 1))) 0 z.2).symm
  rw [← parB_perm (ways_perm sA sB op h3 h4), parB_perm pe]
  clear pe h1 h2 h4 h3 hG
  unfold edgesM
  rw [List.flatMap_map, List.flatMap_map]
  induction I with
  | nil => rfl
  | cons z I ih =>
    rw [List.flatMap_cons, List.flatMap_cons, parB_app, parB_app, one z List.mem_cons_self, ih (fun y hy => one y (List.mem_cons_of_mem _ hy))]
theorem wayS_spot {i : Nat} (hi : i < (bordM op (piecesM A B)).length) (c : Nat) : wayS (bordM op (piecesM A B)) i c ∈ spotsM (edgesM A ++ edgesM B) := (bord_ends sA sB op (edg_mem (it_lt (nexts_pm sA sB op) hi c))).1
theorem rings_cross {o m : Pt} (gen : ∀ s ∈ spotsM (edgesM A ++ edgesM B), detM o m s ≠ 0) : parB (crossB o m) (edgesM (ringsM (bordM op (piecesM A B)))) = parB (crossB o m) (bordM op (piecesM A B)) :=
  rings_sum sA sB op fun i hi a k r => cross_run (way_of sA sB op hi) (fun c => gen _ (wayS_spot sA sB op hi c)) k r
theorem rings_on {q : Pt} (hq : 0 < q.d) (off : ∀ s ∈ spotsM (edgesM A ++ edgesM B), befB s q = true ∨ befB q s = true) : parB (fun a b => onB q a b) (edgesM (ringsM (bordM op (piecesM A B)))) = parB (fun a b => onB q a b) (bordM op (piecesM A B)) :=
  rings_sum sA sB op fun i hi a k r => onx_run (way_of sA sB op hi) hq (fun c => off _ (wayS_spot sA sB op hi c)) k r
end
/-! The sides of a ring's piece are those of the border within. -/
theorem Wi.on {p z X : Pt} (w : Wi p z X) : onB X p z = true := by
  unfold onB withB
  rw [(lo_hi w.bef).1, (lo_hi w.bef).2.1]
  simp [w.l, bef_asym w.b1, bef_asym w.b2]
section
variable {A B : List (List Pt)} (sA : Sound A) (sB : Sound B) (op : Int)
include sA sB
theorem wi_off {x : Pt × Pt} (hx : x ∈ prs A B) {X : Pt} (w : Wi x.1 x.2 X) : ∀ s ∈ spotsM (edgesM A ++ edgesM B), befB s X = true ∨ befB X s = true := fun s hs => by
  have sd := ((spots_spec (good_both sA sB)).1.nc s hs).d
  cases k1 : befB s X
  · cases k2 : befB X s
    · exfalso
      refine prs_none sA sB hx hs (bef_le w.pd w.d sd w.b1 k1) (le_bef sd w.d w.zd k2 w.b2) ?_
      have hxy : xv X s = 0 ∧ yv X s = 0 := by
        rw [bef_x] at k2
        rw [bef_x'] at k1
        omega
      have e : X.d * detM x.1 x.2 s = s.d * detM x.1 x.2 X + xv X s * (-yv x.1 x.2) + yv X s * xv x.1 x.2 := by unfold xv yv detM; grind
      rw [hxy.1, hxy.2, w.l] at e
      simp only [Int.zero_mul, Int.mul_zero, Int.add_zero] at e
      exact (sgn_sc w.d).2.2.1 e
    · exact .inr rfl
  · exact .inl rfl
theorem bord_iff {x : Pt × Pt} (hx : x ∈ prs A B) :
    (x ∈ bordM op (piecesM A B) ↔ inM op (parB (leftE x.1 x.2) (edgesM A)) (parB (leftE x.1 x.2) (edgesM B)) = true ∧ inM op (parB (rightE x.1 x.2) (edgesM A)) (parB (rightE x.1 x.2) (edgesM B)) = false) ∧
    ((x.2, x.1) ∈ bordM op (piecesM A B) ↔ inM op (parB (rightE x.1 x.2) (edgesM A)) (parB (rightE x.1 x.2) (edgesM B)) = true ∧ inM op (parB (leftE x.1 x.2) (edgesM A)) (parB (leftE x.1 x.2) (edgesM B)) = false) := by
  have bx := (prs_bef sA sB hx).1
  have key : ∀ e : Pt × Pt, e ∈ bordM op (piecesM A B) ↔ ∃ y ∈ prs A B, e ∈ bordOf op (pcOf (edgesM A) (edgesM B) y) := fun e => by
    unfold bordM
    rw [List.mem_flatMap]
    constructor
    · rintro ⟨q, hq, h⟩
      have hq : q ∈ (prs A B).map (pcOf (edgesM A) (edgesM B)) := hq
      obtain ⟨y, hy, rfl⟩ := List.mem_map.1 hq
      exact ⟨y, hy, h⟩
    · rintro ⟨y, hy, h⟩
      exact ⟨_, show pcOf (edgesM A) (edgesM B) y ∈ (prs A B).map (pcOf (edgesM A) (edgesM B)) from List.mem_map.2 ⟨y, hy, rfl⟩, h⟩
  have of : ∀ (y e : Pt × Pt), e ∈ bordOf op (pcOf (edgesM A) (edgesM B) y) ↔ (e = y ∧ inM op (parB (leftE y.1 y.2) (edgesM A)) (parB (leftE y.1 y.2) (edgesM B)) = true ∧ inM op (parB (rightE y.1 y.2) (edgesM A)) (parB (rightE y.1 y.2) (edgesM B)) = false) ∨ (e = (y.2, y.1) ∧ inM op (parB (rightE y.1 y.2) (edgesM A)) (parB (rightE y.1 y.2) (edgesM B)) = true ∧ inM op (parB (leftE y.1 y.2) (edgesM A)) (parB (leftE y.1 y.2) (edgesM B)) = false) := fun y e => by
    unfold bordOf pcOf
    dsimp only
    cases inM op (parB (leftE y.1 y.2) (edgesM A)) (parB (leftE y.1 y.2) (edgesM B)) <;> cases inM op (parB (rightE y.1 y.2) (edgesM A)) (parB (rightE y.1 y.2) (edgesM B)) <;> simp
  constructor
  · rw [key]
    constructor
    · rintro ⟨y, hy, h⟩
      rcases (of y x).1 h with ⟨rfl, h⟩ | ⟨e, _⟩
      · exact h
      · have b := (prs_bef sA sB hy).1
        rw [e] at bx
        rw [bef_asym bx] at b; cases b
    · intro h
      exact ⟨x, hx, (of x x).2 (.inl ⟨rfl, h⟩)⟩
  · rw [key]
    constructor
    · rintro ⟨y, hy, h⟩
      rcases (of y _).1 h with ⟨e, h⟩ | ⟨e, h⟩
      · have b := (prs_bef sA sB hy).1
        rw [← e] at b
        simp only at b
        rw [bef_asym bx] at b; cases b
      · have e1 := congrArg Prod.fst e
        have e2 := congrArg Prod.snd e
        simp only at e1 e2
        rw [e1, e2]
        exact h
    · intro h
      exact ⟨x, hx, (of x _).2 (.inr ⟨rfl, h⟩)⟩
/-- Just one border holds a place within it. -/
theorem bord_on {x : Pt × Pt} (hx : x ∈ prs A B) {X : Pt} (w : Wi x.1 x.2 X) : parB (fun a b => onB X a b) (bordM op (piecesM A B)) = sidF (inM op) (edgesM A) (edgesM B) x.1 x.2 := by
  have e1 : parB (fun a b => onB X a b) (bordM op (piecesM A B)) = parB (fun a b => onB X a b || onB X b a) (bordM op (piecesM A B)) := parB_congr fun e he => by
    have n := bord_nice sA sB op he
    rw [on_sw' w.d n.1.d n.2.1.d, Bool.or_self]
  have P := bord_par (g := fun a b => onB X a b || onB X b a) (fun a b => Bool.or_comm _ _) op (edgesM A) (edgesM B) (prs A B)
  have eP : (prs A B).map (pcOf (edgesM A) (edgesM B)) = piecesM A B := rfl
  rw [eP] at P
  rw [e1, P, par_one (x := x) (qs_of sA sB).nd hx fun y hy ne => ?_]
  · rw [w.on, Bool.true_or, Bool.and_true]
  · have b := prs_bef sA sB hy
    rw [on_sw' w.d b.2.1 b.2.2, Bool.or_self]
    cases k : onB X y.1 y.2
    · rw [Bool.and_false]
    · exact absurd (prs_uniq sA sB hx hy w k) ne
/-- The rings have a border's sides. -/
theorem side_c {x x' : Pt × Pt} (hx : x ∈ prs A B) {X : Pt} (w : Wi x.1 x.2 X) (w' : Wi x'.1 x'.2 X) (l1 : detM x.1 x.2 x'.1 = 0) (l2 : detM x.1 x.2 x'.2 = 0)
    (sd : Sd (ringsM (bordM op (piecesM A B)))) (pts : ∀ v ∈ (ringsM (bordM op (piecesM A B))).flatten, v ∈ spotsM (edgesM A ++ edgesM B)) (cl : Clear (ringsM (bordM op (piecesM A B))) x'.1 x'.2) :
    parB (leftE x'.1 x'.2) (edgesM (ringsM (bordM op (piecesM A B)))) = inM op (parB (leftE x.1 x.2) (edgesM A)) (parB (leftE x.1 x.2) (edgesM B)) ∧ parB (rightE x'.1 x'.2) (edgesM (ringsM (bordM op (piecesM A B)))) = inM op (parB (rightE x.1 x.2) (edgesM A)) (parB (rightE x.1 x.2) (edgesM B)) := by
  have hG := good_both sA sB
  have off := wi_off sA sB hx w
  have m1 := (prs_spots sA sB hx).1
  have nc := (spots_spec hG).1.nc
  have wA := webA sA sB
  have wB := webB sA sB
  obtain ⟨o, od, far, gen⟩ := far_in (fun s hs => (nc s hs).1) (nc _ m1).1 w.d w.b1 off
  have cA := side_way w wA.sd (wA.clear x hx) od (fun v hv => far v (wA.pts v hv)) (fun v hv => gen v (wA.pts v hv))
  have cB := side_way w wB.sd (wB.clear x hx) od (fun v hv => far v (wB.pts v hv)) (fun v hv => gen v (wB.pts v hv))
  have cC := side_way w' sd cl od (fun v hv => far v (pts v hv)) (fun v hv => gen v (pts v hv))
  have T := way_T (qs_of sA sB) od far wA wB (inM op) (inM_none op) _ X w.d gen (Nat.le_refl _)
  have P := bord_par (g := crossB o X) (fun a b => cross_sw2 o X a b) op (edgesM A) (edgesM B) (prs A B)
  have eP : (prs A B).map (pcOf (edgesM A) (edgesM B)) = piecesM A B := rfl
  rw [eP, T] at P
  have ec := rings_cross sA sB op (o := o) (m := X) gen
  have eo := rings_on sA sB op w.d off
  rw [bord_on sA sB op hx w, cC.1] at eo
  rw [P, cC.2, cA.2, cB.2] at ec
  have ls := line_sign (x := o) w.pd w'.pd l1 l2 w.bef w'.bef
  have sg : (0 < detM x.1 x.2 o ↔ 0 < detM x'.1 x'.2 o) := by omega
  unfold sidF at eo
  by_cases k : 0 < detM x.1 x.2 o
  · rw [if_pos k, if_pos k, if_pos (sg.1 k)] at ec
    refine ⟨ec, ?_⟩
    rw [ec] at eo
    revert eo
    cases parB (rightE x'.1 x'.2) (edgesM (ringsM (bordM op (piecesM A B)))) <;> cases inM op (parB (leftE x.1 x.2) (edgesM A)) (parB (leftE x.1 x.2) (edgesM B)) <;> cases inM op (parB (rightE x.1 x.2) (edgesM A)) (parB (rightE x.1 x.2) (edgesM B)) <;> simp
  · rw [if_neg k, if_neg k, if_neg (fun h => k (sg.2 h))] at ec
    refine ⟨?_, ec⟩
    rw [ec] at eo
    revert eo
    cases parB (leftE x'.1 x'.2) (edgesM (ringsM (bordM op (piecesM A B)))) <;> cases inM op (parB (leftE x.1 x.2) (edgesM A)) (parB (leftE x.1 x.2) (edgesM B)) <;> cases inM op (parB (rightE x.1 x.2) (edgesM A)) (parB (rightE x.1 x.2) (edgesM B)) <;> simp
end
/-! The rings as a polygon: its edges, its spots, its pieces, and the borders that they were made of. -/
theorem sumX_some {h : Nat → Bool} {a : Nat} : ∀ {n}, sumX h a n = true → ∃ c, a ≤ c ∧ c < a + n ∧ h c = true
  | 0, k => by cases k
  | n + 1, k => by
    rw [sumX] at k
    cases e : h (a + n)
    · rw [e, Bool.xor_false] at k
      obtain ⟨c, h1, h2, h3⟩ := sumX_some k
      exact ⟨c, h1, by omega, h3⟩
    · exact ⟨a + n, by omega, by omega, e⟩
theorem way_shift (L : List (Pt × Pt)) (i a c : Nat) : wayS L (itN (nextsM L) i a) c = wayS L i (a + c) := by
  unfold wayS; rw [it_add]
theorem sound_none : Sound [] := ⟨fun v hv => by simp at hv, fun e he => by simp [edgesM] at he, fun i j _ h => by simp [edgesM] at h⟩
theorem wi_some {p z : Pt} (hp : 0 < p.d) (hz : 0 < z.d) (h : befB p z = true) : ∃ X, Wi p z X := by
  have b := bef_cmb (D := 1) (P := 1) (by decide) (by decide) h
  refine ⟨cmb 1 1 p z, hp, hz, cmb_pos (by decide) (by decide) hp hz, b.1, b.2, ?_⟩
  rw [cmb_det, det_first, det_last]; rfl
section
variable {A B : List (List Pt)} (sA : Sound A) (sB : Sound B) (op : Int)
include sA sB
theorem edge_of {e : Pt × Pt} (he : e ∈ edgesM (ringsM (bordM op (piecesM A B)))) : ∃ i k, i < (bordM op (piecesM A B)).length ∧ Run (wayS (bordM op (piecesM A B)) i) 0 (0 + k) ∧ e = (wayS (bordM op (piecesM A B)) i 0, wayS (bordM op (piecesM A B)) i (0 + k + 1)) := by
  obtain ⟨I, h1, h2, h3⟩ := rounds_all sA sB op
  have pe : (edgesM (ringsM (bordM op (piecesM A B)))).Perm (edgesM (I.map (ringAtL (bordM op (piecesM A B))))) := by
    unfold edgesM; exact h1.flatMap_right _
  have he := pe.mem_iff.1 he
  unfold edgesM at he
  rw [List.flatMap_map] at he
  obtain ⟨z, hz', he⟩ := List.mem_flatMap.1 he
  have hz := h3 z hz'
  have per := way_per hz.per
  have he := (ring_edges sA sB op hz).mem_iff.1 he
  obtain ⟨j, hj, ej⟩ := List.getElem_of_mem he
  have hj' : j < (posN (wayS (bordM op (piecesM A B)) z.1) z.2).length := by rw [re_len, turn_len] at hj; exact hj
  obtain ⟨b, h1, h2, h3, _, _⟩ := edge_run2 per hj'
  have er := ringEdges_at (r := turnP (wayS (bordM op (piecesM A B)) z.1) z.2) (j := j) (by rw [turn_len]; exact hj')
  rw [at_getD hj, ej, turn_len, turn_at hj', ← h3] at er
  obtain ⟨a, ha⟩ : ∃ a, a = (posN (wayS (bordM op (piecesM A B)) z.1) z.2).getD j 0 + 1 := ⟨_, rfl⟩
  rw [← ha] at er h1 h2
  refine ⟨itN (nextsM (bordM op (piecesM A B))) z.1 a, b - a, it_lt (nexts_pm sA sB op) hz.lt a, fun c _ hc => ?_, ?_⟩
  · rw [way_shift, way_shift, way_shift, ← Nat.add_assoc, ← Nat.add_assoc]
    exact h2 (a + c) (by omega) (by omega)
  · rw [way_shift, way_shift, er, show a + (0 + (b - a) + 1) = b + 1 by omega]; rfl
theorem ring_pts {v : Pt} (hv : v ∈ (ringsM (bordM op (piecesM A B))).flatten) : v ∈ spotsM (edgesM A ++ edgesM B) := by
  obtain ⟨e, he, rfl⟩ := first_edge hv
  obtain ⟨i, k, hi, _, rfl⟩ := edge_of sA sB op he
  exact wayS_spot sA sB op hi 0
theorem ring_sd : Sd (ringsM (bordM op (piecesM A B))) := by
  refine ⟨fun v hv => ((spots_spec (good_both sA sB)).1.nc v (ring_pts sA sB op hv)).d, fun e he => ?_⟩
  obtain ⟨i, k, hi, r, rfl⟩ := edge_of sA sB op he
  exact (run_line (way_of sA sB op hi) (Nat.le_add_right 0 k) r).2.2
/-- An edge of a ring that holds a place within a piece: it holds the piece, and that is a border. -/
theorem edge_hold {e : Pt × Pt} (he : e ∈ edgesM (ringsM (bordM op (piecesM A B)))) {x : Pt × Pt} (hx : x ∈ prs A B) {X : Pt} (w : Wi x.1 x.2 X) (on : onB X e.1 e.2 = true) : onB x.1 e.1 e.2 = true ∧ onB x.2 e.1 e.2 = true ∧ (x ∈ bordM op (piecesM A B) ∨ (x.2, x.1) ∈ bordM op (piecesM A B)) := by
  obtain ⟨i, k, hi, r, rfl⟩ := edge_of sA sB op he
  have wy := way_of sA sB op hi
  have off := wi_off sA sB hx w
  have s := onx_run wy w.d (fun c => off _ (wayS_spot sA sB op hi c)) k r
  rw [on] at s
  obtain ⟨c, h1, h2, h3⟩ := sumX_some s.symm
  have lt := it_lt (nexts_pm sA sB op) hi c
  have em := edg_mem lt
  have ee : edg (bordM op (piecesM A B)) (itN (nextsM (bordM op (piecesM A B))) i c) = (wayS (bordM op (piecesM A B)) i c, wayS (bordM op (piecesM A B)) i (c + 1)) := Prod.ext rfl (way_end sA sB op hi c)
  rw [ee] at em
  have d0 := wy.d c
  have d1 := wy.d (c + 1)
  have on0 : onB (wayS (bordM op (piecesM A B)) i c) (wayS (bordM op (piecesM A B)) i c) (wayS (bordM op (piecesM A B)) i (c + 1)) = true := on_first d0 d1 d0 (by unfold xv; omega) (by unfold yv; omega)
  have on1 : onB (wayS (bordM op (piecesM A B)) i (c + 1)) (wayS (bordM op (piecesM A B)) i c) (wayS (bordM op (piecesM A B)) i (c + 1)) = true := by
    rw [← on_sw' d1 d0 d1]
    exact on_first d1 d0 d1 (by unfold xv; omega) (by unfold yv; omega)
  have q0 := run_on wy d0 k c r (by omega) (by omega) on0
  have q1 := run_on wy d1 k c r (by omega) (by omega) on1
  rcases bord_piece sA sB op em with hy | hy
  · have e := prs_uniq sA sB hx hy w h3
    rw [← e]
    exact ⟨q0, q1, .inl em⟩
  · have e := prs_uniq sA sB hx hy w (by simp only; rw [on_sw' w.d d0 d1]; exact h3)
    rw [← e]
    exact ⟨q1, q0, .inr em⟩
/-- A border within: some edge of a ring holds it. -/
theorem hold_some {x : Pt × Pt} (hx : x ∈ prs A B) (hb : x ∈ bordM op (piecesM A B) ∨ (x.2, x.1) ∈ bordM op (piecesM A B)) {X : Pt} (w : Wi x.1 x.2 X) : ∃ e ∈ edgesM (ringsM (bordM op (piecesM A B))), onB X e.1 e.2 = true := by
  have s := rings_on sA sB op w.d (wi_off sA sB hx w)
  rw [bord_on sA sB op hx w] at s
  have : sidF (inM op) (edgesM A) (edgesM B) x.1 x.2 = true := by
    unfold sidF
    rcases hb with h | h
    · have := (bord_iff sA sB op hx).1.1 h
      rw [this.1, this.2]; rfl
    · have := (bord_iff sA sB op hx).2.1 h
      rw [this.1, this.2]; rfl
  rw [this] at s
  exact par_some s
theorem ov_hold {e f : Pt × Pt} (d1 : 0 < e.1.d) (d2 : 0 < e.2.d) (d3 : 0 < f.1.d) (d4 : 0 < f.2.d) (ne : befB e.1 e.2 = true ∨ befB e.2 e.1 = true) (nf : befB f.1 f.2 = true ∨ befB f.2 f.1 = true) {p z : Pt} (hp : 0 < p.d) (hz : 0 < z.d) (b : befB p z = true) (p1 : onB p e.1 e.2 = true) (z1 : onB z e.1 e.2 = true) (p2 : onB p f.1 f.2 = true) (z2 : onB z f.1 f.2 = true) : ovB e f = true := by
  have le := fun u => (line_apart d1 d2 hp ne b (on_parts p1).1 (on_parts z1).1 u u).2
  have lf := fun u => (line_apart d3 d4 hp nf b (on_parts p2).1 (on_parts z2).1 u u).2
  have e1 := (le f.1).1 ((lf f.1).2 (det_first _ _))
  have e2 := (le f.2).1 ((lf f.2).2 (det_last _ _))
  have lo : ∀ {a c q : Pt}, (befB a c = true ∨ befB c a = true) → onB q a c = true → befB q (if befB c a = true then c else a) = false ∧ befB (if befB c a = true then a else c) q = false := fun {a c q} n o => by
    have wi := (on_parts o).2
    unfold withB at wi
    rcases n with n | n
    · rw [(lo_hi n).1, (lo_hi n).2.1] at wi
      simp only [Bool.and_eq_true, Bool.not_eq_true'] at wi
      rw [bef_asym n]
      exact wi
    · rw [(lo_hi n).2.2.1, (lo_hi n).2.2.2] at wi
      simp only [Bool.and_eq_true, Bool.not_eq_true'] at wi
      rw [n]
      exact wi
  have a1 := lo ne p1
  have a2 := lo ne z1
  have a3 := lo nf p2
  have a4 := lo nf z2
  have pos : ∀ {a c : Pt}, 0 < a.d → 0 < c.d → 0 < (if befB c a = true then c else a).d ∧ 0 < (if befB c a = true then a else c).d := fun {a c} x y => by
    cases befB c a
    · exact ⟨x, y⟩
    · exact ⟨y, x⟩
  obtain ⟨pe1, pe2⟩ := pos d1 d2
  obtain ⟨pf1, pf2⟩ := pos d3 d4
  unfold ovB
  rw [decide_eq_true e1, decide_eq_true e2, Bool.true_and, Bool.true_and, Bool.and_eq_true]
  refine ⟨?_, ?_⟩
  · exact bef_le pe1 hz pf2 (le_bef pe1 hp hz a1.1 b) a4.2
  · exact bef_le pf1 hz pe2 (le_bef pf1 hp hz a3.1 b) a2.2
theorem one_edge {e f : Pt × Pt} (he : e ∈ edgesM (ringsM (bordM op (piecesM A B)))) (hf : f ∈ edgesM (ringsM (bordM op (piecesM A B)))) {p z : Pt} (hp : 0 < p.d) (hz : 0 < z.d) (b : befB p z = true) (p1 : onB p e.1 e.2 = true) (z1 : onB z e.1 e.2 = true) (p2 : onB p f.1 f.2 = true) (z2 : onB z f.1 f.2 = true) : e = f := by
  have sd := ring_sd sA sB op
  have dj := rings_dj sA sB op
  have pos : ∀ g ∈ edgesM (ringsM (bordM op (piecesM A B))), 0 < g.1.d ∧ 0 < g.2.d := fun g hg => ⟨sd.pd _ (edge_ends hg).1, sd.pd _ (edge_ends hg).2⟩
  obtain ⟨i, hi, ei⟩ := List.getElem_of_mem he
  obtain ⟨j, hj, ej⟩ := List.getElem_of_mem hf
  rw [List.pairwise_iff_getElem] at dj
  rcases Nat.lt_trichotomy i j with k | k | k
  · have := (dj i j hi hj k).1
    rw [ei, ej, ov_hold sA sB (pos e he).1 (pos e he).2 (pos f hf).1 (pos f hf).2 (sd.ne e he) (sd.ne f hf) hp hz b p1 z1 p2 z2] at this
    cases this
  · subst k; rw [← ei, ← ej]
  · have := (dj j i hj hi k).2
    rw [ei, ej, ov_hold sA sB (pos e he).1 (pos e he).2 (pos f hf).1 (pos f hf).2 (sd.ne e he) (sd.ne f hf) hp hz b p1 z1 p2 z2] at this
    cases this
end
end Go.Proofs.Ytnkcbephceollab
