import Derived.Test.YtnkcbephceollabQ24
namespace Go.Proofs.Ytnkcbephceollab
open Go.RowKit
set_option linter.unusedSimpArgs false
set_option linter.unusedVariables false

/-- Rings that are few and short enough, of good points. -/
structure FewR (R : List (List Pt)) : Prop where
  few : R.length ≤ 100000
  short : ∀ k, k < R.length → (R.getD k []).length ≤ 100000
  good : ∀ q ∈ R, ∀ p ∈ q, Gd p

theorem rings_short {L : List (Pt × Pt)} : ∀ i, ∀ q ∈ (ringsN L i).1, q.length ≤ L.length + 1
  | 0, q, hq => by simp [ringsN] at hq
  | i + 1, q, hq => by
    have e : (ringsN L (i + 1)).1 = if (walkM L (nextsM L) (L.length + 1) (ringsN L i).2 i).1.length > 0 then insL (ringsN L i).1 (leastL (walkM L (nextsM L) (L.length + 1) (ringsN L i).2 i).1 (walkM L (nextsM L) (L.length + 1) (ringsN L i).2 i).1.length) else (ringsN L i).1 := rfl
    rw [e] at hq
    split at hq
    · rcases insL_mem hq with hq | hq
      · rw [hq]
        exact Nat.le_trans (least_len _ _ (Nat.le_refl _)) (walk_len L (nextsM L) (L.length + 1) (ringsN L i).2 i)
      · exact rings_short i q hq
    · exact rings_short i q hq
/-- What comes out of Clip is few and short, of good points. -/
theorem clip_few (op : Int) (A B : List (List Pt)) : FewR (clipM op A B).1 := by
  unfold clipM
  split
  · exact ⟨by simp, fun k hk => by simp at hk, fun q hq => by simp at hq⟩
  split
  · exact ⟨by simp, fun k hk => by simp at hk, fun q hq => by simp at hq⟩
  rename_i h
  have h0 : bothM A B = 0 := Decidable.byContradiction h
  obtain ⟨c1, c2⟩ := both_zero h0
  have hpf := pieces_few (check_few c1) (check_few c2)
  have hl := bord_len op (piecesM A B)
  have hG : GdE (bordM op (piecesM A B)) := fun j hj => by
    obtain ⟨x, hx, h⟩ := bord_mem (getD_mem hj (zP, zP))
    have hg := pieces_gd (sound_of c1) (sound_of c2) x hx
    rcases h with h | h
    · rw [h]; exact hg
    · rw [h]; exact hg.symm
  generalize bordM op (piecesM A B) = L at *
  show FewR (ringsM L)
  unfold ringsM
  exact ⟨by have := rings_len L L.length; omega, fun k hk => by have := rings_short (L := L) L.length _ (getD_mem hk []); omega, rings_good hG L.length⟩
/-- Rings of one's own, as a polygon. -/
theorem OwnR.poly {w : World} {base : Nat} {v : Value} {R : List (List Pt)} {vs : List Value} (h : OwnR w base v R vs) (hn : R.length ≤ maxLen) : PolyAt w v R := by
  obtain ⟨a, cap, rfl, hag, hpos, hm⟩ := own_form h.row
  rcases h.row.2 with ⟨e, h0⟩ | ⟨g, cp, cur, e, hb, hh, h1, h2, _⟩
  · refine ⟨a, cap, rfl, ?_, ?_, fun i hi => by omega⟩
    · simp at e; omega
    · simp at e; unfold maxLen; omega
  · simp at e
    obtain ⟨rfl, rfl⟩ := e
    refine ⟨_, cap, rfl, h1, h2, fun i hi => ⟨g, 0, vs.getD i nilV, rfl, (h.row.lt g rfl).2, ?_, ring_of_own (h.each i hi) (by have := h.small i hi; unfold maxLen; omega)⟩⟩
    rw [Nat.zero_add, own_cell h.row g rfl i (by omega), List.getD_eq_getElem?_getD, List.getElem?_eq_getElem (by rw [h.len]; exact hi)]; rfl
end Go.Proofs.Ytnkcbephceollab
namespace Go.Proofs.Ytnkcbephceollab
set_option linter.unusedVariables false
set_option linter.unusedSimpArgs false

theorem whereM_on (q : Pt) : ∀ (E F : List (Pt × Pt)) (n : Int), E.any (fun e => hasM e.1 e.2 q) = true → whereM q n (E ++ F) = 2
  | [], F, n, h => by simp at h
  | e :: E, F, n, h => by
    simp only [List.cons_append, whereM]
    split
    · rfl
    · rename_i k
      exact whereM_on q E F _ (by simpa [k] using h)
theorem whereM_off (q : Pt) : ∀ (E F : List (Pt × Pt)) (n : Int), E.any (fun e => hasM e.1 e.2 q) = false → whereM q n (E ++ F) = whereM q (E.foldl (fun n e => if overM e.1 e.2 q = true then otherM n else n) n) F
  | [], F, n, h => rfl
  | e :: E, F, n, h => by
    simp only [List.any_cons, Bool.or_eq_false_iff] at h
    simp only [List.cons_append, whereM, List.foldl_cons]
    rw [if_neg (by rw [h.1]; decide)]
    exact whereM_off q E F _ h.2

/-- A grid point. -/
abbrev gp (x y : Int) : Pt := ⟨x, y, 1⟩
section
variable {q : Pt} (hd : 0 < q.d)
include hd
omit hd in
theorem cmp_gp (x y : Int) : (cmpM q (gp x y) < 0 ↔ (q.x < x * q.d ∨ (q.x = x * q.d ∧ q.y < y * q.d))) ∧ (0 < cmpM q (gp x y) ↔ (x * q.d < q.x ∨ (q.x = x * q.d ∧ y * q.d < q.y))) := by
  unfold cmpM
  simp only [Int.mul_one]
  split <;> constructor <;> constructor <;> intro h <;> omega
omit hd in
theorem cmp_gg (x y x' y' : Int) : cmpM (gp x y) (gp x' y') = if x - x' ≠ 0 then x - x' else y - y' := by
  unfold cmpM; simp only [Int.mul_one]
omit hd in
theorem sgn_mul {k m : Int} (hk : 0 < k) : (k * m < 0 ↔ m < 0) ∧ (k * m = 0 ↔ m = 0) := by
  refine ⟨⟨fun h => ?_, fun h => Int.mul_neg_of_pos_of_neg hk h⟩, ⟨fun h => ?_, fun h => by rw [h, Int.mul_zero]⟩⟩
  · rcases Int.lt_or_le m 0 with c | c
    · exact c
    · have := Int.mul_nonneg (Int.le_of_lt hk) c; omega
  · rcases Int.mul_eq_zero.1 h with c | c <;> omega
omit hd in
theorem fl_h {x0 x1 y : Int} (h : x0 < x1) : firstM (gp x0 y) (gp x1 y) = gp x0 y ∧ lastM (gp x0 y) (gp x1 y) = gp x1 y ∧ firstM (gp x1 y) (gp x0 y) = gp x0 y ∧ lastM (gp x1 y) (gp x0 y) = gp x1 y := by
  unfold firstM lastM
  simp only [cmp_gg]
  refine ⟨?_, ?_, ?_, ?_⟩
  · rw [if_neg]; rw [if_pos (by omega)]; omega
  · rw [if_pos]; rw [if_pos (by omega)]; omega
  · rw [if_pos]; rw [if_pos (by omega)]; omega
  · rw [if_neg]; rw [if_pos (by omega)]; omega
omit hd in
theorem fl_v {x y0 y1 : Int} (h : y0 < y1) : firstM (gp x y0) (gp x y1) = gp x y0 ∧ lastM (gp x y0) (gp x y1) = gp x y1 ∧ firstM (gp x y1) (gp x y0) = gp x y0 ∧ lastM (gp x y1) (gp x y0) = gp x y1 := by
  unfold firstM lastM
  simp only [cmp_gg]
  refine ⟨?_, ?_, ?_, ?_⟩
  · rw [if_neg]; rw [if_neg (by omega)]; omega
  · rw [if_pos]; rw [if_neg (by omega)]; omega
  · rw [if_pos]; rw [if_neg (by omega)]; omega
  · rw [if_neg]; rw [if_neg (by omega)]; omega
omit hd in
theorem det_h (x0 x1 y : Int) : detM (gp x0 y) (gp x1 y) q = (x1 - x0) * (q.y - y * q.d) := by unfold detM; grind
omit hd in
theorem det_v (x y0 y1 : Int) : detM (gp x y0) (gp x y1) q = (y1 - y0) * (x * q.d - q.x) := by unfold detM; grind

theorem flat {a b : Pt} {x0 x1 y : Int} (h : x0 < x1) (hf : firstM a b = gp x0 y) (hl : lastM a b = gp x1 y) :
    hasM a b q = decide (q.y = y * q.d ∧ x0 * q.d ≤ q.x ∧ q.x ≤ x1 * q.d) ∧ overM a b q = decide (q.y < y * q.d ∧ x0 * q.d < q.x ∧ q.x ≤ x1 * q.d) := by
  have k := sgn_mul (k := x1 - x0) (m := q.y - y * q.d) (by omega)
  have c0 := cmp_gp (q := q) x0 y
  have c1 := cmp_gp (q := q) x1 y
  have m : x0 * q.d < x1 * q.d := Int.mul_lt_mul_of_pos_right h hd
  unfold hasM overM spanM sideM
  rw [hf, hl, det_h]
  constructor
  · rw [Bool.eq_iff_iff]
    simp only [Bool.and_eq_true, Bool.not_eq_true', decide_eq_false_iff_not, decide_eq_true_eq, c0.1, c1.2, k.2]
    omega
  · rw [Bool.eq_iff_iff]
    simp only [Bool.and_eq_true, Bool.not_eq_true', decide_eq_false_iff_not, decide_eq_true_eq, c0.1, c1.1, k.1]
    omega
theorem steep {a b : Pt} {x y0 y1 : Int} (h : y0 < y1) (hf : firstM a b = gp x y0) (hl : lastM a b = gp x y1) :
    hasM a b q = decide (q.x = x * q.d ∧ y0 * q.d ≤ q.y ∧ q.y ≤ y1 * q.d) ∧ overM a b q = false := by
  have k := sgn_mul (k := y1 - y0) (m := x * q.d - q.x) (by omega)
  have c0 := cmp_gp (q := q) x y0
  have c1 := cmp_gp (q := q) x y1
  have m : y0 * q.d < y1 * q.d := Int.mul_lt_mul_of_pos_right h hd
  unfold hasM overM spanM sideM
  rw [hf, hl, det_v]
  constructor
  · rw [Bool.eq_iff_iff]
    simp only [Bool.and_eq_true, Bool.not_eq_true', decide_eq_false_iff_not, decide_eq_true_eq, c0.1, c1.2, k.2]
    omega
  · rw [← Bool.not_eq_true]
    simp only [Bool.and_eq_true, Bool.not_eq_true', decide_eq_false_iff_not, decide_eq_true_eq, c0.1, c1.1, k.1]
    omega
end

def boxM (x0 y0 x1 y1 : Int) : List Pt := [gp x0 y0, gp x1 y0, gp x1 y1, gp x0 y1]
theorem box_edges (x0 y0 x1 y1 : Int) : ringEdges (boxM x0 y0 x1 y1) = [(gp x0 y0, gp x1 y0), (gp x1 y0, gp x1 y1), (gp x1 y1, gp x0 y1), (gp x0 y1, gp x0 y0)] := rfl
/-- Within the box, its edges too. -/
def inBx (q : Pt) (x0 y0 x1 y1 : Int) : Prop := x0 * q.d ≤ q.x ∧ q.x ≤ x1 * q.d ∧ y0 * q.d ≤ q.y ∧ q.y ≤ y1 * q.d
def deepM (q : Pt) (x0 y0 x1 y1 : Int) : Prop := x0 * q.d < q.x ∧ q.x < x1 * q.d ∧ y0 * q.d < q.y ∧ q.y < y1 * q.d
theorem box_where {q : Pt} (hd : 0 < q.d) {x0 y0 x1 y1 : Int} (hx : x0 < x1) (hy : y0 < y1) (F : List (Pt × Pt)) (n : Int) (hn : n = 0 ∨ n = 1) :
    (inBx q x0 y0 x1 y1 → ¬ deepM q x0 y0 x1 y1 → whereM q n (ringEdges (boxM x0 y0 x1 y1) ++ F) = 2) ∧
    (deepM q x0 y0 x1 y1 → whereM q n (ringEdges (boxM x0 y0 x1 y1) ++ F) = whereM q (otherM n) F) ∧
    (¬ inBx q x0 y0 x1 y1 → whereM q n (ringEdges (boxM x0 y0 x1 y1) ++ F) = whereM q n F) := by
  have f0 := flat hd hx (fl_h (y := y0) hx).1 (fl_h (y := y0) hx).2.1
  have f2 := flat hd hx (fl_h (y := y1) hx).2.2.1 (fl_h (y := y1) hx).2.2.2
  have f1 := steep hd hy (fl_v (x := x1) hy).1 (fl_v (x := x1) hy).2.1
  have f3 := steep hd hy (fl_v (x := x0) hy).2.2.1 (fl_v (x := x0) hy).2.2.2
  have m1 : x0 * q.d < x1 * q.d := Int.mul_lt_mul_of_pos_right hx hd
  have m2 : y0 * q.d < y1 * q.d := Int.mul_lt_mul_of_pos_right hy hd
  rw [box_edges]
  unfold inBx deepM
  generalize x0 * q.d = A at *
  generalize x1 * q.d = B at *
  generalize y0 * q.d = C at *
  generalize y1 * q.d = D at *
  refine ⟨fun h1 h2 => whereM_on _ _ _ _ ?_, fun h => ?_, fun h => ?_⟩
  · simp only [List.any_cons, List.any_nil, f0.1, f1.1, f2.1, f3.1, Bool.or_eq_true, decide_eq_true_eq, Bool.or_false]
    omega
  · rw [whereM_off]
    · have o0 : decide (q.y < C ∧ A < q.x ∧ q.x ≤ B) = false := by simp; omega
      have o2 : decide (q.y < D ∧ A < q.x ∧ q.x ≤ B) = true := by simp; omega
      simp only [List.foldl_cons, List.foldl_nil, f0.2, f1.2, f2.2, f3.2, o0, o2, if_true, Bool.false_eq_true, if_false]
    · rw [← Bool.not_eq_true]
      simp only [List.any_cons, List.any_nil, f0.1, f1.1, f2.1, f3.1, Bool.or_eq_true, decide_eq_true_eq, Bool.or_false]
      omega
  · rw [whereM_off]
    · have oo : otherM (otherM n) = n := by rcases hn with rfl | rfl <;> rfl
      by_cases c : q.y < C ∧ A < q.x ∧ q.x ≤ B
      · have o0 : decide (q.y < C ∧ A < q.x ∧ q.x ≤ B) = true := by simp; omega
        have o2 : decide (q.y < D ∧ A < q.x ∧ q.x ≤ B) = true := by simp; omega
        simp only [List.foldl_cons, List.foldl_nil, f0.2, f1.2, f2.2, f3.2, o0, o2, if_true, Bool.false_eq_true, if_false, oo]
      · have o0 : decide (q.y < C ∧ A < q.x ∧ q.x ≤ B) = false := by simp; omega
        have o2 : decide (q.y < D ∧ A < q.x ∧ q.x ≤ B) = false := by simp; omega
        simp only [List.foldl_cons, List.foldl_nil, f0.2, f1.2, f2.2, f3.2, o0, o2, if_true, Bool.false_eq_true, if_false, oo]
    · rw [← Bool.not_eq_true]
      simp only [List.any_cons, List.any_nil, f0.1, f1.1, f2.1, f3.1, Bool.or_eq_true, decide_eq_true_eq, Bool.or_false]
      omega

def btwM (v n lo hi : Int) : Int := if v < lo * n ∨ hi * n < v then 0 else if lo * n < v ∧ v < hi * n then 1 else 2
/-- What is wanted of one box, and of two. -/
def want1 (i j : Int) : Int := if i = 0 ∨ j = 0 then 0 else if i = 1 ∧ j = 1 then 1 else 2
def want2 (i j k l : Int) : Int := if k = 1 ∧ l = 1 then 0 else if k ≠ 0 ∧ l ≠ 0 then 2 else want1 i j

theorem bet_cases (v n lo hi : Int) : (btwM v n lo hi = 0 ∧ (v < lo * n ∨ hi * n < v)) ∨ (btwM v n lo hi = 1 ∧ lo * n < v ∧ v < hi * n) ∨ (btwM v n lo hi = 2 ∧ lo * n ≤ v ∧ v ≤ hi * n ∧ ¬ (lo * n < v ∧ v < hi * n)) := by
  unfold btwM
  split
  · exact .inl ⟨rfl, by assumption⟩
  · split
    · exact .inr (.inl ⟨rfl, by assumption⟩)
    · exact .inr (.inr ⟨rfl, by omega⟩)
theorem boxed1 {q : Pt} (hd : 0 < q.d) {w h : Int} (hw : 0 < w) (hh : 0 < h) : whereM q 0 (edgesM [boxM 0 0 w h]) = want1 (btwM q.x q.d 0 w) (btwM q.y q.d 0 h) := by
  have b := box_where hd hw hh [] 0 (.inl rfl)
  have e : edgesM [boxM 0 0 w h] = ringEdges (boxM 0 0 w h) ++ [] := rfl
  rw [e]
  unfold inBx deepM at b
  have b1 := bet_cases q.x q.d 0 w
  have b2 := bet_cases q.y q.d 0 h
  unfold want1
  rcases b1 with ⟨e1, b1⟩ | ⟨e1, b1⟩ | ⟨e1, b1⟩ <;> rcases b2 with ⟨e2, b2⟩ | ⟨e2, b2⟩ | ⟨e2, b2⟩ <;> rw [e1, e2]
  all_goals first
    | (rw [b.2.2 (by omega)]; rfl)
    | (rw [b.2.1 (by omega)]; rfl)
    | (rw [b.1 (by omega) (by omega)]; rfl)
theorem boxed2 {q : Pt} (hd : 0 < q.d) {w h : Int} (hw : 4 ≤ w) (hh : 4 ≤ h) : whereM q 0 (edgesM [boxM 0 0 w h, boxM 1 1 (w - 1) (h - 1)]) = want2 (btwM q.x q.d 0 w) (btwM q.y q.d 0 h) (btwM q.x q.d 1 (w - 1)) (btwM q.y q.d 1 (h - 1)) := by
  have c : ∀ n : Int, n = 0 ∨ n = 1 → _ := fun n hn => box_where hd (show (1 : Int) < w - 1 by omega) (show (1 : Int) < h - 1 by omega) [] n hn
  have c0 := c 0 (.inl rfl)
  have c1 := c 1 (.inr rfl)
  have b := box_where hd (show (0 : Int) < w by omega) (show (0 : Int) < h by omega) (ringEdges (boxM 1 1 (w - 1) (h - 1)) ++ []) 0 (.inl rfl)
  have e : edgesM [boxM 0 0 w h, boxM 1 1 (w - 1) (h - 1)] = ringEdges (boxM 0 0 w h) ++ (ringEdges (boxM 1 1 (w - 1) (h - 1)) ++ []) := rfl
  rw [e]
  unfold inBx deepM at b c0 c1
  have b1 := bet_cases q.x q.d 0 w
  have b2 := bet_cases q.y q.d 0 h
  have b3 := bet_cases q.x q.d 1 (w - 1)
  have b4 := bet_cases q.y q.d 1 (h - 1)
  have x1 : (w - 1) * q.d = w * q.d - q.d := by grind
  have x2 : (h - 1) * q.d = h * q.d - q.d := by grind
  rw [x1, x2] at c0 c1
  rw [x1] at b3
  rw [x2] at b4
  have x3 : otherM 0 = 1 := rfl
  rw [x3] at b
  have m1 : 4 * q.d ≤ w * q.d := Int.mul_le_mul_of_nonneg_right hw (Int.le_of_lt hd)
  have m2 : 4 * q.d ≤ h * q.d := Int.mul_le_mul_of_nonneg_right hh (Int.le_of_lt hd)
  unfold want2 want1
  rcases b1 with ⟨e1, b1⟩ | ⟨e1, b1⟩ | ⟨e1, b1⟩ <;> rcases b2 with ⟨e2, b2⟩ | ⟨e2, b2⟩ | ⟨e2, b2⟩ <;> rcases b3 with ⟨e3, b3⟩ | ⟨e3, b3⟩ | ⟨e3, b3⟩ <;> rcases b4 with ⟨e4, b4⟩ | ⟨e4, b4⟩ | ⟨e4, b4⟩ <;> rw [e1, e2, e3, e4]
  all_goals first
    | (exfalso; omega)
    | (rw [b.2.2 (by omega), c0.2.2 (by omega)]; rfl)
    | (rw [b.2.1 (by omega), c1.2.2 (by omega)]; rfl)
    | (rw [b.2.1 (by omega), c1.2.1 (by omega)]; rfl)
    | (rw [b.2.1 (by omega), c1.1 (by omega) (by omega)]; rfl)
    | (rw [b.1 (by omega) (by omega)]; rfl)
end Go.Proofs.Ytnkcbephceollab
namespace Go.Proofs.Ytnkcbephceollab
open Go.RowKit
set_option linter.unusedSimpArgs false
set_option linter.unusedVariables false

def pickM (c n : Int) : Int := (if c < 0 then -(c + 1) else c) % n
theorem pickM_bd (c n : Int) (hn : 0 < n) : 0 ≤ pickM c n ∧ pickM c n < n := ⟨Int.emod_nonneg _ (by omega), Int.emod_lt_of_pos _ hn⟩
theorem pick_neg {c n : Int} (h : c < 0) : -(c + 1).tmod n = pickM c n := by
  unfold pickM; rw [if_pos h, ← Int.neg_tmod]; exact Int.tmod_eq_emod_of_nonneg (by omega)
theorem pick_pos {c n : Int} (h : ¬ c < 0) : c.tmod n = pickM c n := by
  unfold pickM; rw [if_neg h]; exact Int.tmod_eq_emod_of_nonneg (by omega)

set_option maxHeartbeats 400000 in
theorem pick_any (c n : Int) (w : World) (h1 : -9223372036854775808 ≤ c) (h2 : c ≤ 9223372036854775807) (hn : 0 < n) (hn2 : n ≤ 100000000) :
    Calls Try.prog 16 #[.int .i64 c, .int .i64 n] w fun e w' => e = .returned (.int .i64 (pickM c n)) ∧ w' = w := by
  by_cases hc : c < 0
  · go_enter Try.func16, Try.ntmps16
    go_wp2
    go_ret
    exact ⟨ret_int (pick_neg hc), rfl⟩
  · go_enter Try.func16, Try.ntmps16
    go_wp2
    go_ret
    exact ⟨ret_int (by unfold pickM; rw [if_neg (by omega)]), rfl⟩

def coordM (c : Int) : Int := pickM c 129 - 64
theorem coordM_in (c : Int) : In (coordM c) 64 := by have := pickM_bd c 129 (by decide); unfold In coordM; omega

set_option maxHeartbeats 400000 in
theorem coordinate_any (c : Int) (w : World) (h1 : -9223372036854775808 ≤ c) (h2 : c ≤ 9223372036854775807) :
    Calls Try.prog 11 #[.int .i64 c] w fun e w' => e = .returned (.int .i64 (coordM c)) ∧ w' = w := by
  have hb := pickM_bd c 129 (by decide)
  obtain ⟨hb1, hb2⟩ := hb
  go_enter Try.func11, Try.ntmps11
  go_wp2_with (go_at_call 16; refine (pick_any _ _ _ h1 h2 (by decide) (by decide)).mono ?_; rintro e w' ⟨rfl, rfl⟩)
  go_ret
  exact ⟨rfl, rfl⟩

set_option maxHeartbeats 400000 in
theorem at_any (x y : Int) (w : World) :
    Calls Try.prog 20 #[.int .i64 x, .int .i64 y] w fun e w' => e = .returned (Pt.v ⟨x, y, 1⟩) ∧ Below w.heap.size w w' := by
  go_enter Try.func20, Try.ntmps20
  go_wp2
  exact bodyPost_ret (v := Pt.v ⟨x, y, 1⟩) (by simp [results, Try.results20, go_sem]) rfl ⟨rfl, (Below.refl _ _).alloc (Nat.le_refl _) _⟩
set_option maxHeartbeats 1000000 in
theorem one_any (v : Value) (r : List Pt) (w : World) (hr : RingAt w v r) :
    Calls Try.prog 18 #[v] w fun e w' => ∃ v', e = .returned v' ∧ PolyAt w' v' [r] ∧ Below w.heap.size w w' := by
  have hr0 := hr
  obtain ⟨a, cap, rfl, h1, h2, h3⟩ := hr
  go_enter Try.func18, Try.ntmps18
  go_wp2
  refine bodyPost_ret (v := .slice (some ⟨w.heap.size, 0, none⟩) 1 1) (by simp [results, Try.results18, go_sem]) rfl ⟨_, rfl, ?_, (Below.refl _ _).alloc (Nat.le_refl _) _⟩
  refine ⟨some ⟨w.heap.size, 0, none⟩, 1, rfl, Nat.le_refl _, by decide, fun i hi => ?_⟩
  obtain rfl : i = 0 := by simp at hi; omega
  exact ⟨_, 0, _, rfl, by simp, (World.cell?_alloc_at _ _ _ _ rfl).trans rfl, hr0.later ((Below.refl _ _).alloc (Nat.le_refl _) _)⟩

set_option maxHeartbeats 1000000 in
theorem box_any (x0 y0 x1 y1 : Int) (w : World) :
    Calls Try.prog 17 #[.int .i64 x0, .int .i64 y0, .int .i64 x1, .int .i64 y1] w fun e w' => ∃ g, e = .returned (.slice (some ⟨g, 0, none⟩) 4 4) ∧ RingAt w' (.slice (some ⟨g, 0, none⟩) 4 4) (boxM x0 y0 x1 y1) ∧ Below w.heap.size w w' := by
  go_enter Try.func17, Try.ntmps17
  go_wp2_with fail
  refine (at_any x0 y0 _).mono ?_
  rintro e w1 ⟨rfl, k1⟩
  go_wp2_with fail
  refine (at_any x1 y0 _).mono ?_
  rintro e w2 ⟨rfl, k2⟩
  have B2 := bvia k1 k2
  clear k1 k2
  go_wp2_with fail
  refine (at_any x1 y1 _).mono ?_
  rintro e w3 ⟨rfl, k3⟩
  have B3 := bvia B2 k3
  clear B2 k3
  go_wp2_with fail
  refine (at_any x0 y1 _).mono ?_
  rintro e w4 ⟨rfl, k4⟩
  have B4 := bvia B3 k4
  clear B3 k4
  go_wp2
  refine bodyPost_ret (v := .slice (some ⟨w4.heap.size, 0, none⟩) 4 4) (by simp [results, Try.results17, go_sem]) rfl ⟨_, rfl, ?_, B4.alloc B4.size _⟩
  refine ⟨some ⟨w4.heap.size, 0, none⟩, 4, rfl, Nat.le_refl _, by decide, fun j hj => ⟨_, 0, rfl, by simp, ?_⟩⟩
  have h4 : j < 4 := hj
  have hc := fun o => World.cell?_alloc_at (w := w4) #[.int .i64 x0, .int .i64 y0, .int .i64 1, .int .i64 x1, .int .i64 y0, .int .i64 1, .int .i64 x1, .int .i64 y1, .int .i64 1, .int .i64 x0, .int .i64 y1, .int .i64 1] 29 _ o rfl
  match j, h4 with
  | 0, _ => exact ⟨hc 0, hc 1, hc 2⟩
  | 1, _ => exact ⟨hc 3, hc 4, hc 5⟩
  | 2, _ => exact ⟨hc 6, hc 7, hc 8⟩
  | 3, _ => exact ⟨hc 9, hc 10, hc 11⟩
theorem poly2 {w : World} {v1 v2 : Value} {r1 r2 : List Pt} (h1 : RingAt w v1 r1) (h2 : RingAt w v2 r2) (t : TypeId) : PolyAt (w.alloc (.cells #[v1, v2] t)) (.slice (some ⟨w.heap.size, 0, none⟩) 2 2) [r1, r2] := by
  refine ⟨some ⟨w.heap.size, 0, none⟩, 2, rfl, Nat.le_refl _, by decide, fun i hi => ?_⟩
  have hi2 : i < 2 := hi
  have B : Below w.heap.size w (w.alloc (.cells #[v1, v2] t)) := (Below.refl _ _).alloc (Nat.le_refl _) _
  match i, hi2 with
  | 0, _ => exact ⟨_, 0, _, rfl, by simp, (World.cell?_alloc_at _ _ _ _ rfl).trans rfl, h1.later B⟩
  | 1, _ => exact ⟨_, 0, _, rfl, by simp, (World.cell?_alloc_at _ _ _ _ rfl).trans rfl, h2.later B⟩
theorem neq_pt (x y d x' y' d' : Int) (w : World) : (binOp .neq 29 (.agg #[.int .i64 x, .int .i64 y, .int .i64 d]) (.agg #[.int .i64 x', .int .i64 y', .int .i64 d'])).run Try.prog w = .ok (.bool (!eqP ⟨x, y, d⟩ ⟨x', y', d'⟩)) w := by
  by_cases h1 : x = x'
  · by_cases h2 : y = y'
    · by_cases h3 : d = d' <;> simp [go_sem, eqP, h1, h2, h3]
    · simp [go_sem, eqP, h1, h2]
  · simp [go_sem, eqP, h1]
theorem eqP_self (p : Pt) : eqP p p = true := by simp [eqP]

set_option maxRecDepth 100000 in
set_option maxHeartbeats 1000000 in
/-- Two slices of the same points. -/
theorem samePoints_yes (v v' : Value) (r : List Pt) (w : World) (h : RingAt w v r) (h' : RingAt w v' r) :
    Calls Try.prog 26 #[v, v'] w fun e w' => e = .returned (.bool true) ∧ ∃ n, w' = w.drewN n := by
  obtain ⟨a, cap, rfl, h1, h2, h3⟩ := h
  obtain ⟨a', cap', rfl, _, _, h3'⟩ := h'
  have hneq := neq_pt
  unfold maxLen at h2
  go_enter Try.func26, Try.ntmps26
  go_wp2_with fail
  go_loopw [5] (fun i w' => ∃ (k n : Nat), i = .int .i64 k ∧ k ≤ r.length ∧ w' = w.drewN n) (fun i _ => r.length - (intOf i).toNat)
  case atStart => exact ⟨0, 0, rfl, Nat.zero_le _, rfl⟩
  case round =>
    obtain ⟨k, n, rfl, hk, rfl⟩ := hrel
    by_cases hlt : k < r.length
    · obtain ⟨b, off, rfl, _, c0, c1, c2⟩ := h3 k hlt
      obtain ⟨b', off', rfl, _, d0, d1, d2⟩ := h3' k hlt
      generalize r.getD k zP = p at *
      have hk0 : (0 : Int) ≤ (k : Int) := Int.natCast_nonneg _
      have hk1 : (k : Int) < (r.length : Int) := by omega
      have e1 : eqP ⟨p.x, p.y, p.d⟩ ⟨p.x, p.y, p.d⟩ = true := eqP_self p
      clear h3 h3'
      go_wp2_with fail
      go_quiet (fail)
      go_wp2
      go_roundw
      case rel => exact ⟨k + 1, _, by go_num, by omega, rfl⟩
      case measure => simp [intOf]; omega
    · clear h3 h3'
      go_wp2
      go_ret
      exact ⟨rfl, n, rfl⟩

theorem RingAt.drewN {w : World} {v : Value} {r : List Pt} (h : RingAt w v r) (n : Nat) : RingAt (w.drewN n) v r := h.later (below_drewN (Below.refl _ _) n)
theorem PolyAt.drewN {w : World} {v : Value} {P : List (List Pt)} (h : PolyAt w v P) (n : Nat) : PolyAt (w.drewN n) v P := h.later (below_drewN (Below.refl _ _) n)

set_option maxRecDepth 100000 in
set_option maxHeartbeats 1000000 in
/-- Two slices of slices of the same points. -/
theorem sameRings_yes (v v' : Value) (P : List (List Pt)) (w : World) (h : PolyAt w v P) (h' : PolyAt w v' P) :
    Calls Try.prog 13 #[v, v'] w fun e w' => e = .returned (.bool true) ∧ ∃ n, w' = w.drewN n := by
  obtain ⟨a, cap, rfl, h1, h2, h3⟩ := h
  obtain ⟨a', cap', rfl, _, _, h3'⟩ := h'
  unfold maxLen at h2
  go_enter Try.func13, Try.ntmps13
  go_wp2_with fail
  go_loopw [5, 6] (fun i _ w' => ∃ (k n : Nat), i = .int .i64 k ∧ k ≤ P.length ∧ w' = w.drewN n) (fun i _ _ => P.length - (intOf i).toNat)
  case atStart => exact ⟨0, 0, rfl, Nat.zero_le _, rfl⟩
  case round =>
    obtain ⟨k, n, rfl, hk, hw⟩ := hrel
    have HW := hide hw
    by_cases hlt : k < P.length
    · obtain ⟨b, off, rv, rfl, _, c0', hr0⟩ := h3 k hlt
      obtain ⟨b', off', rv', rfl, _, d0', hr0'⟩ := h3' k hlt
      have c0 : wr.cell? ⟨b, off + k, none⟩ = some rv := by rw [hw]; exact c0'
      have d0 : wr.cell? ⟨b', off' + k, none⟩ = some rv' := by rw [hw]; exact d0'
      have hr : RingAt wr rv (P.getD k []) := by rw [hw]; exact hr0.drewN n
      have hr' : RingAt wr rv' (P.getD k []) := by rw [hw]; exact hr0'.drewN n
      clear c0' d0' hr0 hr0' hw
      generalize P.getD k [] = r at *
      have hk0 : (0 : Int) ≤ (k : Int) := Int.natCast_nonneg _
      have hk1 : (k : Int) < (P.length : Int) := by omega
      clear h3 h3'
      go_wp2_with fail
      go_quiet ((go_at_call 26; exact Calls.quiet_of (samePoints_yes _ _ r _ (hr.drewN _) (hr'.drewN _))))
      go_wp2
      go_roundw
      case rel => exact ⟨k + 1, n + nq, by go_num, by omega, by rw [HW.out, World.drewN_drewN]⟩
      case measure => simp [intOf]; omega
    · clear h3 h3' hw
      go_wp2
      go_ret
      exact ⟨rfl, n, HW.out⟩


set_option maxHeartbeats 1000000 in
/-- 'clips' says yes where the wanted rings are those of the model. -/
theorem clips_yes (op : Int) (va vb vw : Value) (A B W : List (List Pt)) (w : World) (hA : PolyAt w va A) (hB : PolyAt w vb B) (hW : PolyAt w vw W) (h : clipM op A B = (W, 0)) (hn : W.length ≤ 1000000) :
    Calls Try.prog 10 #[.int .i64 op, va, vb, vw] w fun e w' => e = .returned (.bool true) ∧ Below w.heap.size w w' := by
  have C := hide (Clip_any op va vb A B w hA hB)
  rw [h] at C
  have HW := hide hW
  clear hA hB hW
  go_enter Try.func10, Try.ntmps10
  go_wp2_with fail
  refine C.out.mono ?_
  rintro e w1 ⟨v', vs, rfl, o, k⟩
  have hP := hide (o.poly (by unfold maxLen; omega))
  have hW1 := hide (HW.out.later k)
  clear o C HW
  go_wp2_with fail
  refine (sameRings_yes v' vw W w1 hP.out hW1.out).mono ?_
  rintro e w2 ⟨rfl, m, rfl⟩
  have K2 := hide (below_drewN k m)
  clear hP hW1 k
  go_wp2
  go_ret
  exact ⟨rfl, K2.out⟩
end Go.Proofs.Ytnkcbephceollab
