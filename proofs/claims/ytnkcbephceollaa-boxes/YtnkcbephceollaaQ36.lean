import Derived.Test.YtnkcbephceollaaV6
import Derived.Test.YtnkcbephceollaaQ14
namespace Go.Proofs.Ytnkcbephceollaa
open Go.RowKit
set_option linter.unusedSimpArgs false
set_option linter.unusedVariables false

theorem sfold_len' (e : Pt × Pt) : ∀ (F : List (Pt × Pt)) (s : List Pt), (F.foldl (fun s f => stepM s (meetM e.1 e.2 f.1 f.2)) s).length ≤ s.length + 2 * F.length
  | [], s => by simp
  | f :: F, s => by
    have h1 := sfold_len' e F (stepM s (meetM e.1 e.2 f.1 f.2))
    have h2 := step_len s (meetM e.1 e.2 f.1 f.2)
    rw [List.foldl_cons, List.length_cons]; omega
theorem ofold_len' (E : List (Pt × Pt)) : ∀ (F : List (Pt × Pt)) (s : List Pt), (F.foldl (fun s e => E.foldl (fun s f => stepM s (meetM e.1 e.2 f.1 f.2)) s) s).length ≤ s.length + F.length * (2 * E.length)
  | [], s => by simp
  | e :: F, s => by
    have h1 := ofold_len' E F (E.foldl (fun s f => stepM s (meetM e.1 e.2 f.1 f.2)) s)
    have h2 := sfold_len' e E s
    rw [List.foldl_cons, List.length_cons, Nat.succ_mul]; omega
theorem spots_few {E : List (Pt × Pt)} (h : E.length ≤ 24) : (spotsM E).length ≤ 1152 := by
  have h1 := ofold_len' E E []
  have h2 : E.length * (2 * E.length) ≤ 24 * 48 := Nat.mul_le_mul h (by omega)
  have e : spotsM E = E.foldl (fun s e => E.foldl (fun s f => stepM s (meetM e.1 e.2 f.1 f.2)) s) [] := rfl
  rw [e]
  rw [List.length_nil] at h1; omega
theorem pairs_few (E : List (Pt × Pt)) : ∀ S : List Pt, (pairsL E S).length ≤ E.length * S.length
  | [] => by simp [pairsL]
  | p :: S => by
    have h1 := pairs_few E S
    have h2 := neigh_len' p S E
    have e : pairsL E (p :: S) = (neighM p S E).map (fun q => (p, q)) ++ pairsL E S := rfl
    rw [e, List.length_append, List.length_map, List.length_cons, Nat.mul_succ]; omega
theorem pairs_gd {E : List (Pt × Pt)} : ∀ {S : List Pt}, (∀ s ∈ S, Gd s) → ∀ x ∈ pairsL E S, Gd x.1 ∧ Gd x.2
  | [], _, x, hx => by simp [pairsL] at hx
  | p :: S, h, x, hx => by
    have e : pairsL E (p :: S) = (neighM p S E).map (fun q => (p, q)) ++ pairsL E S := rfl
    rw [e] at hx
    rcases List.mem_append.1 hx with hx | hx
    · obtain ⟨q, hq, rfl⟩ := List.mem_map.1 hx
      exact ⟨h p List.mem_cons_self, neigh_gd (p := p) (fun s hs => h s (List.mem_cons_of_mem _ hs)) E [] (fun x hx => by cases hx) q hq⟩
    · exact pairs_gd (fun s hs => h s (List.mem_cons_of_mem _ hs)) x hx
theorem pieces_few {A B : List (List Pt)} (nA : (edgesM A).length ≤ 12) (nB : (edgesM B).length ≤ 12) : (piecesM A B).length ≤ 27648 := by
  unfold piecesM
  have hE : (edgesM A ++ edgesM B).length ≤ 24 := by rw [List.length_append]; omega
  generalize edgesM A ++ edgesM B = E at *
  have h1 := pairs_few E (spotsM E)
  have h2 : E.length * (spotsM E).length ≤ 24 * 1152 := Nat.mul_le_mul hE (spots_few hE)
  rw [List.length_map]; omega
theorem pieces_gd {A B : List (List Pt)} (sA : Sound A) (sB : Sound B) : ∀ x ∈ piecesM A B, Gd x.p ∧ Gd x.q := fun x hx => by
  unfold piecesM at hx
  obtain ⟨y, hy, rfl⟩ := List.mem_map.1 hx
  exact pairs_gd (fun s hs => gd_nice ((spots_spec (good_both sA sB)).1.nc s hs)) y hy

set_option maxHeartbeats 1000000 in
theorem Clip_any (op : Int) (va vb : Value) (A B : List (List Pt)) (w : World) (hA : PolyAt w va A) (hB : PolyAt w vb B) :
    Calls Try.prog 27 #[.int .i64 op, va, vb] w fun e w' => ∃ v' vs, e = .returned (.tuple #[v', .int .i64 (clipM op A B).2]) ∧ OwnR w' w.heap.size v' (clipM op A B).1 vs ∧ Below w.heap.size w w' := by
  by_cases h0 : op < 0 ∨ op > 4
  · have H : Hid (clipM op A B = ([], 6)) := if_pos h0
    by_cases h1 : op < 0
    · go_enter Try.func27, Try.ntmps27
      go_wp2
      go_ret2
      exact ⟨_, [], by rw [H.out]; rfl, by rw [H.out]; exact OwnR.nil _ _, Below.refl _ _⟩
    · have h2 : op > 4 := by omega
      have h1' : ¬ op < 0 := h1
      have h2' : (4 : Int) < op := h2
      clear h0
      have HF : Hid (∃ v' vs, Ending.returned (.tuple #[.slice none 0 0, .int .i64 6]) = Ending.returned (.tuple #[v', .int .i64 (clipM op A B).2]) ∧ OwnR w w.heap.size v' (clipM op A B).1 vs ∧ Below w.heap.size w w) := hide ⟨_, [], by rw [H.out], by rw [H.out]; exact OwnR.nil _ _, Below.refl _ _⟩
      go_enter Try.func27, Try.ntmps27
      go_wp2
      go_ret2
      first
        | exact HF.out
        | exact ⟨_, by rw [H.out]; rfl, ⟨[], by rw [H.out]; exact OwnR.nil _ _⟩, Below.refl _ _⟩
  · have H1 : Hid (clipM op A B = if bothM A B ≠ 0 then ([], bothM A B) else (ringsM (bordM op (piecesM A B)), 0)) := if_neg h0
    have l1 : ¬ op < 0 := fun h => h0 (.inl h)
    have l2 : ¬ (4 : Int) < op := fun h => h0 (.inr h)
    clear h0
    by_cases h : bothM A B = 0
    · have H : Hid (clipM op A B = (ringsM (bordM op (piecesM A B)), 0)) := by rw [H1.out, if_neg (by simpa using h)]; exact hide rfl
      obtain ⟨c1, c2⟩ := both_zero h
      have hpf := pieces_few (check_few c1) (check_few c2)
      have HPG := hide (pieces_gd (sound_of c1) (sound_of c2))
      have C := hide (fun wz (k1 : PolyAt wz va A) (k2 : PolyAt wz vb B) => cutPieces_any va vb A B wz k1 k2 (sound_of c1) (sound_of c2) (check_few c1) (check_few c2))
      generalize clipM op A B = res at *
      clear c1 c2 H1
      go_enter Try.func27, Try.ntmps27
      go_wp2_with fail
      refine (checkBoth_any va vb A B _ hA hB).mono ?_
      rintro e w1 ⟨rfl, k⟩
      rw [h]
      go_wp2_with fail
      refine (C.out _ (hA.later k) (hB.later k)).mono ?_
      rintro e w2 ⟨v', rfl, o, k2⟩
      generalize piecesM A B = P at *
      have CR := hide (Rings_any op v' P w2 (pcs_of_own o (by unfold maxLen; omega)) (by omega) HPG.out)
      have k12 := bvia k k2
      clear o C
      go_wp2_with fail
      refine CR.out.mono ?_
      rintro e w3 ⟨rv, vs, rfl, o3, k3⟩
      have O3 := hide (o3.mono (by have := k12.size; omega))
      have K3 := hide (bvia k12 k3)
      clear o3 k3 CR k12 k k2
      go_wp2
      go_ret2
      exact ⟨rv, vs, by rw [H.out]; rfl, by rw [H.out]; exact O3.out, K3.out⟩
    · have H : Hid (clipM op A B = ([], bothM A B)) := by rw [H1.out, if_pos h]; exact hide rfl
      have h' : (bothM A B != 0) = true := by simpa using h
      clear H1
      generalize clipM op A B = res at *
      go_enter Try.func27, Try.ntmps27
      go_wp2_with fail
      refine (checkBoth_any va vb A B _ hA hB).mono ?_
      rintro e w1 ⟨rfl, k⟩
      go_wp2
      go_ret2
      exact ⟨_, [], by rw [H.out]; rfl, by rw [H.out]; exact OwnR.nil _ _, k⟩
end Go.Proofs.Ytnkcbephceollaa
namespace Go.Proofs.Ytnkcbephceollaa
open Go.RowKit
set_option linter.unusedSimpArgs false
set_option linter.unusedVariables false

/-- Rings that are few and short enough, of good points. -/
structure FewR (R : List (List Pt)) : Prop where
  few : R.length ≤ 100000
  short : ∀ k, k < R.length → (R.getD k []).length ≤ 100000
  good : ∀ q ∈ R, ∀ p ∈ q, Gd p

theorem rings_short {L : List (Pt × Pt)} : ∀ i, ∀ q ∈ (ringsN L i).1, q.length ≤ L.length + 1
  | 0, q, hq => by simp [ringsN] at hq
  | i + 1, q, hq => by
    have e : (ringsN L (i + 1)).1 = if (walkM L (nextsM L) (L.length + 1) (ringsN L i).2 i).1.length > 0 then insL (ringsN L i).1 (leastL (walkM L (nextsM L) (L.length + 1) (ringsN L i).2 i).1 (walkM L (nextsM L) (L.length + 1) (ringsN L i).2 i).1.length) else (ringsN L i).1 := rfl
    rw [e] at hq
    split at hq
    · rcases insL_mem hq with hq | hq
      · rw [hq]
        exact Nat.le_trans (least_len _ _ (Nat.le_refl _)) (walk_len L (nextsM L) (L.length + 1) (ringsN L i).2 i)
      · exact rings_short i q hq
    · exact rings_short i q hq
/-- What comes out of Clip is few and short, of good points. -/
theorem clip_few (op : Int) (A B : List (List Pt)) : FewR (clipM op A B).1 := by
  unfold clipM
  split
  · exact ⟨by simp, fun k hk => by simp at hk, fun q hq => by simp at hq⟩
  split
  · exact ⟨by simp, fun k hk => by simp at hk, fun q hq => by simp at hq⟩
  rename_i h
  have h0 : bothM A B = 0 := Decidable.byContradiction h
  obtain ⟨c1, c2⟩ := both_zero h0
  have hpf := pieces_few (check_few c1) (check_few c2)
  have hl := bord_len op (piecesM A B)
  have hG : GdE (bordM op (piecesM A B)) := fun j hj => by
    obtain ⟨x, hx, h⟩ := bord_mem (getD_mem hj (zP, zP))
    have hg := pieces_gd (sound_of c1) (sound_of c2) x hx
    rcases h with h | h
    · rw [h]; exact hg
    · rw [h]; exact hg.symm
  generalize bordM op (piecesM A B) = L at *
  show FewR (ringsM L)
  unfold ringsM
  exact ⟨by have := rings_len L L.length; omega, fun k hk => by have := rings_short (L := L) L.length _ (getD_mem hk []); omega, rings_good hG L.length⟩
/-- Rings of one's own, as a polygon. -/
theorem OwnR.poly {w : World} {base : Nat} {v : Value} {R : List (List Pt)} {vs : List Value} (h : OwnR w base v R vs) (hn : R.length ≤ maxLen) : PolyAt w v R := by
  obtain ⟨a, cap, rfl, hag, hpos, hm⟩ := own_form h.row
  rcases h.row.2 with ⟨e, h0⟩ | ⟨g, cp, cur, e, hb, hh, h1, h2, _⟩
  · refine ⟨a, cap, rfl, ?_, ?_, fun i hi => by omega⟩
    · simp at e; omega
    · simp at e; unfold maxLen; omega
  · simp at e
    obtain ⟨rfl, rfl⟩ := e
    refine ⟨_, cap, rfl, h1, h2, fun i hi => ⟨g, 0, vs.getD i nilV, rfl, (h.row.lt g rfl).2, ?_, ring_of_own (h.each i hi) (by have := h.small i hi; unfold maxLen; omega)⟩⟩
    rw [Nat.zero_add, own_cell h.row g rfl i (by omega), List.getD_eq_getElem?_getD, List.getElem?_eq_getElem (by rw [h.len]; exact hi)]; rfl
end Go.Proofs.Ytnkcbephceollaa
namespace Go.Proofs.Ytnkcbephceollaa
set_option linter.unusedVariables false
set_option linter.unusedSimpArgs false

theorem whereM_on (q : Pt) : ∀ (E F : List (Pt × Pt)) (n : Int), E.any (fun e => hasM e.1 e.2 q) = true → whereM q n (E ++ F) = 2
  | [], F, n, h => by simp at h
  | e :: E, F, n, h => by
    simp only [List.cons_append, whereM]
    split
    · rfl
    · rename_i k
      exact whereM_on q E F _ (by simpa [k] using h)
theorem whereM_off (q : Pt) : ∀ (E F : List (Pt × Pt)) (n : Int), E.any (fun e => hasM e.1 e.2 q) = false → whereM q n (E ++ F) = whereM q (E.foldl (fun n e => if overM e.1 e.2 q = true then otherM n else n) n) F
  | [], F, n, h => rfl
  | e :: E, F, n, h => by
    simp only [List.any_cons, Bool.or_eq_false_iff] at h
    simp only [List.cons_append, whereM, List.foldl_cons]
    rw [if_neg (by rw [h.1]; decide)]
    exact whereM_off q E F _ h.2

/-- A grid point. -/
abbrev gp (x y : Int) : Pt := ⟨x, y, 1⟩
section
variable {q : Pt} (hd : 0 < q.d)
include hd
omit hd in
theorem cmp_gp (x y : Int) : (cmpM q (gp x y) < 0 ↔ (q.x < x * q.d ∨ (q.x = x * q.d ∧ q.y < y * q.d))) ∧ (0 < cmpM q (gp x y) ↔ (x * q.d < q.x ∨ (q.x = x * q.d ∧ y * q.d < q.y))) := by
  unfold cmpM
  simp only [Int.mul_one]
  split <;> constructor <;> constructor <;> intro h <;> omega
omit hd in
theorem cmp_gg (x y x' y' : Int) : cmpM (gp x y) (gp x' y') = if x - x' ≠ 0 then x - x' else y - y' := by
  unfold cmpM; simp only [Int.mul_one]
omit hd in
theorem sgn_mul {k m : Int} (hk : 0 < k) : (k * m < 0 ↔ m < 0) ∧ (k * m = 0 ↔ m = 0) := by
  refine ⟨⟨fun h => ?_, fun h => Int.mul_neg_of_pos_of_neg hk h⟩, ⟨fun h => ?_, fun h => by rw [h, Int.mul_zero]⟩⟩
  · rcases Int.lt_or_le m 0 with c | c
    · exact c
    · have := Int.mul_nonneg (Int.le_of_lt hk) c; omega
  · rcases Int.mul_eq_zero.1 h with c | c <;> omega
omit hd in
theorem fl_h {x0 x1 y : Int} (h : x0 < x1) : firstM (gp x0 y) (gp x1 y) = gp x0 y ∧ lastM (gp x0 y) (gp x1 y) = gp x1 y ∧ firstM (gp x1 y) (gp x0 y) = gp x0 y ∧ lastM (gp x1 y) (gp x0 y) = gp x1 y := by
  unfold firstM lastM
  simp only [cmp_gg]
  refine ⟨?_, ?_, ?_, ?_⟩
  · rw [if_neg]; rw [if_pos (by omega)]; omega
  · rw [if_pos]; rw [if_pos (by omega)]; omega
  · rw [if_pos]; rw [if_pos (by omega)]; omega
  · rw [if_neg]; rw [if_pos (by omega)]; omega
omit hd in
theorem fl_v {x y0 y1 : Int} (h : y0 < y1) : firstM (gp x y0) (gp x y1) = gp x y0 ∧ lastM (gp x y0) (gp x y1) = gp x y1 ∧ firstM (gp x y1) (gp x y0) = gp x y0 ∧ lastM (gp x y1) (gp x y0) = gp x y1 := by
  unfold firstM lastM
  simp only [cmp_gg]
  refine ⟨?_, ?_, ?_, ?_⟩
  · rw [if_neg]; rw [if_neg (by omega)]; omega
  · rw [if_pos]; rw [if_neg (by omega)]; omega
  · rw [if_pos]; rw [if_neg (by omega)]; omega
  · rw [if_neg]; rw [if_neg (by omega)]; omega
omit hd in
theorem det_h (x0 x1 y : Int) : detM (gp x0 y) (gp x1 y) q = (x1 - x0) * (q.y - y * q.d) := by unfold detM; grind
omit hd in
theorem det_v (x y0 y1 : Int) : detM (gp x y0) (gp x y1) q = (y1 - y0) * (x * q.d - q.x) := by unfold detM; grind

theorem flat {a b : Pt} {x0 x1 y : Int} (h : x0 < x1) (hf : firstM a b = gp x0 y) (hl : lastM a b = gp x1 y) :
    hasM a b q = decide (q.y = y * q.d ∧ x0 * q.d ≤ q.x ∧ q.x ≤ x1 * q.d) ∧ overM a b q = decide (q.y < y * q.d ∧ x0 * q.d < q.x ∧ q.x ≤ x1 * q.d) := by
  have k := sgn_mul (k := x1 - x0) (m := q.y - y * q.d) (by omega)
  have c0 := cmp_gp (q := q) x0 y
  have c1 := cmp_gp (q := q) x1 y
  have m : x0 * q.d < x1 * q.d := Int.mul_lt_mul_of_pos_right h hd
  unfold hasM overM spanM sideM
  rw [hf, hl, det_h]
  constructor
  · rw [Bool.eq_iff_iff]
    simp only [Bool.and_eq_true, Bool.not_eq_true', decide_eq_false_iff_not, decide_eq_true_eq, c0.1, c1.2, k.2]
    omega
  · rw [Bool.eq_iff_iff]
    simp only [Bool.and_eq_true, Bool.not_eq_true', decide_eq_false_iff_not, decide_eq_true_eq, c0.1, c1.1, k.1]
    omega
theorem steep {a b : Pt} {x y0 y1 : Int} (h : y0 < y1) (hf : firstM a b = gp x y0) (hl : lastM a b = gp x y1) :
    hasM a b q = decide (q.x = x * q.d ∧ y0 * q.d ≤ q.y ∧ q.y ≤ y1 * q.d) ∧ overM a b q = false := by
  have k := sgn_mul (k := y1 - y0) (m := x * q.d - q.x) (by omega)
  have c0 := cmp_gp (q := q) x y0
  have c1 := cmp_gp (q := q) x y1
  have m : y0 * q.d < y1 * q.d := Int.mul_lt_mul_of_pos_right h hd
  unfold hasM overM spanM sideM
  rw [hf, hl, det_v]
  constructor
  · rw [Bool.eq_iff_iff]
    simp only [Bool.and_eq_true, Bool.not_eq_true', decide_eq_false_iff_not, decide_eq_true_eq, c0.1, c1.2, k.2]
    omega
  · rw [← Bool.not_eq_true]
    simp only [Bool.and_eq_true, Bool.not_eq_true', decide_eq_false_iff_not, decide_eq_true_eq, c0.1, c1.1, k.1]
    omega
end

def boxM (x0 y0 x1 y1 : Int) : List Pt := [gp x0 y0, gp x1 y0, gp x1 y1, gp x0 y1]
theorem box_edges (x0 y0 x1 y1 : Int) : ringEdges (boxM x0 y0 x1 y1) = [(gp x0 y0, gp x1 y0), (gp x1 y0, gp x1 y1), (gp x1 y1, gp x0 y1), (gp x0 y1, gp x0 y0)] := rfl
/-- Within the box, its edges too. -/
def inBx (q : Pt) (x0 y0 x1 y1 : Int) : Prop := x0 * q.d ≤ q.x ∧ q.x ≤ x1 * q.d ∧ y0 * q.d ≤ q.y ∧ q.y ≤ y1 * q.d
def deepM (q : Pt) (x0 y0 x1 y1 : Int) : Prop := x0 * q.d < q.x ∧ q.x < x1 * q.d ∧ y0 * q.d < q.y ∧ q.y < y1 * q.d
theorem box_where {q : Pt} (hd : 0 < q.d) {x0 y0 x1 y1 : Int} (hx : x0 < x1) (hy : y0 < y1) (F : List (Pt × Pt)) (n : Int) (hn : n = 0 ∨ n = 1) :
    (inBx q x0 y0 x1 y1 → ¬ deepM q x0 y0 x1 y1 → whereM q n (ringEdges (boxM x0 y0 x1 y1) ++ F) = 2) ∧
    (deepM q x0 y0 x1 y1 → whereM q n (ringEdges (boxM x0 y0 x1 y1) ++ F) = whereM q (otherM n) F) ∧
    (¬ inBx q x0 y0 x1 y1 → whereM q n (ringEdges (boxM x0 y0 x1 y1) ++ F) = whereM q n F) := by
  have f0 := flat hd hx (fl_h (y := y0) hx).1 (fl_h (y := y0) hx).2.1
  have f2 := flat hd hx (fl_h (y := y1) hx).2.2.1 (fl_h (y := y1) hx).2.2.2
  have f1 := steep hd hy (fl_v (x := x1) hy).1 (fl_v (x := x1) hy).2.1
  have f3 := steep hd hy (fl_v (x := x0) hy).2.2.1 (fl_v (x := x0) hy).2.2.2
  have m1 : x0 * q.d < x1 * q.d := Int.mul_lt_mul_of_pos_right hx hd
  have m2 : y0 * q.d < y1 * q.d := Int.mul_lt_mul_of_pos_right hy hd
  rw [box_edges]
  unfold inBx deepM
  generalize x0 * q.d = A at *
  generalize x1 * q.d = B at *
  generalize y0 * q.d = C at *
  generalize y1 * q.d = D at *
  refine ⟨fun h1 h2 => whereM_on _ _ _ _ ?_, fun h => ?_, fun h => ?_⟩
  · simp only [List.any_cons, List.any_nil, f0.1, f1.1, f2.1, f3.1, Bool.or_eq_true, decide_eq_true_eq, Bool.or_false]
    omega
  · rw [whereM_off]
    · have o0 : decide (q.y < C ∧ A < q.x ∧ q.x ≤ B) = false := by simp; omega
      have o2 : decide (q.y < D ∧ A < q.x ∧ q.x ≤ B) = true := by simp; omega
      simp only [List.foldl_cons, List.foldl_nil, f0.2, f1.2, f2.2, f3.2, o0, o2, if_true, Bool.false_eq_true, if_false]
    · rw [← Bool.not_eq_true]
      simp only [List.any_cons, List.any_nil, f0.1, f1.1, f2.1, f3.1, Bool.or_eq_true, decide_eq_true_eq, Bool.or_false]
      omega
  · rw [whereM_off]
    · have oo : otherM (otherM n) = n := by rcases hn with rfl | rfl <;> rfl
      by_cases c : q.y < C ∧ A < q.x ∧ q.x ≤ B
      · have o0 : decide (q.y < C ∧ A < q.x ∧ q.x ≤ B) = true := by simp; omega
        have o2 : decide (q.y < D ∧ A < q.x ∧ q.x ≤ B) = true := by simp; omega
        simp only [List.foldl_cons, List.foldl_nil, f0.2, f1.2, f2.2, f3.2, o0, o2, if_true, Bool.false_eq_true, if_false, oo]
      · have o0 : decide (q.y < C ∧ A < q.x ∧ q.x ≤ B) = false := by simp; omega
        have o2 : decide (q.y < D ∧ A < q.x ∧ q.x ≤ B) = false := by simp; omega
        simp only [List.foldl_cons, List.foldl_nil, f0.2, f1.2, f2.2, f3.2, o0, o2, if_true, Bool.false_eq_true, if_false, oo]
    · rw [← Bool.not_eq_true]
      simp only [List.any_cons, List.any_nil, f0.1, f1.1, f2.1, f3.1, Bool.or_eq_true, decide_eq_true_eq, Bool.or_false]
      omega

def btwM (v n lo hi : Int) : Int := if v < lo * n ∨ hi * n < v then 0 else if lo * n < v ∧ v < hi * n then 1 else 2
/-- What is wanted of one box, and of two. -/
def want1 (i j : Int) : Int := if i = 0 ∨ j = 0 then 0 else if i = 1 ∧ j = 1 then 1 else 2
def want2 (i j k l : Int) : Int := if k = 1 ∧ l = 1 then 0 else if k ≠ 0 ∧ l ≠ 0 then 2 else want1 i j

theorem bet_cases (v n lo hi : Int) : (btwM v n lo hi = 0 ∧ (v < lo * n ∨ hi * n < v)) ∨ (btwM v n lo hi = 1 ∧ lo * n < v ∧ v < hi * n) ∨ (btwM v n lo hi = 2 ∧ lo * n ≤ v ∧ v ≤ hi * n ∧ ¬ (lo * n < v ∧ v < hi * n)) := by
  unfold btwM
  split
  · exact .inl ⟨rfl, by assumption⟩
  · split
    · exact .inr (.inl ⟨rfl, by assumption⟩)
    · exact .inr (.inr ⟨rfl, by omega⟩)
theorem boxed1 {q : Pt} (hd : 0 < q.d) {w h : Int} (hw : 0 < w) (hh : 0 < h) : whereM q 0 (edgesM [boxM 0 0 w h]) = want1 (btwM q.x q.d 0 w) (btwM q.y q.d 0 h) := by
  have b := box_where hd hw hh [] 0 (.inl rfl)
  have e : edgesM [boxM 0 0 w h] = ringEdges (boxM 0 0 w h) ++ [] := rfl
  rw [e]
  unfold inBx deepM at b
  have b1 := bet_cases q.x q.d 0 w
  have b2 := bet_cases q.y q.d 0 h
  unfold want1
  rcases b1 with ⟨e1, b1⟩ | ⟨e1, b1⟩ | ⟨e1, b1⟩ <;> rcases b2 with ⟨e2, b2⟩ | ⟨e2, b2⟩ | ⟨e2, b2⟩ <;> rw [e1, e2]
  all_goals first
    | (rw [b.2.2 (by omega)]; rfl)
    | (rw [b.2.1 (by omega)]; rfl)
    | (rw [b.1 (by omega) (by omega)]; rfl)
theorem boxed2 {q : Pt} (hd : 0 < q.d) {w h : Int} (hw : 4 ≤ w) (hh : 4 ≤ h) : whereM q 0 (edgesM [boxM 0 0 w h, boxM 1 1 (w - 1) (h - 1)]) = want2 (btwM q.x q.d 0 w) (btwM q.y q.d 0 h) (btwM q.x q.d 1 (w - 1)) (btwM q.y q.d 1 (h - 1)) := by
  have c : ∀ n : Int, n = 0 ∨ n = 1 → _ := fun n hn => box_where hd (show (1 : Int) < w - 1 by omega) (show (1 : Int) < h - 1 by omega) [] n hn
  have c0 := c 0 (.inl rfl)
  have c1 := c 1 (.inr rfl)
  have b := box_where hd (show (0 : Int) < w by omega) (show (0 : Int) < h by omega) (ringEdges (boxM 1 1 (w - 1) (h - 1)) ++ []) 0 (.inl rfl)
  have e : edgesM [boxM 0 0 w h, boxM 1 1 (w - 1) (h - 1)] = ringEdges (boxM 0 0 w h) ++ (ringEdges (boxM 1 1 (w - 1) (h - 1)) ++ []) := rfl
  rw [e]
  unfold inBx deepM at b c0 c1
  have b1 := bet_cases q.x q.d 0 w
  have b2 := bet_cases q.y q.d 0 h
  have b3 := bet_cases q.x q.d 1 (w - 1)
  have b4 := bet_cases q.y q.d 1 (h - 1)
  have x1 : (w - 1) * q.d = w * q.d - q.d := by grind
  have x2 : (h - 1) * q.d = h * q.d - q.d := by grind
  rw [x1, x2] at c0 c1
  rw [x1] at b3
  rw [x2] at b4
  have x3 : otherM 0 = 1 := rfl
  rw [x3] at b
  have m1 : 4 * q.d ≤ w * q.d := Int.mul_le_mul_of_nonneg_right hw (Int.le_of_lt hd)
  have m2 : 4 * q.d ≤ h * q.d := Int.mul_le_mul_of_nonneg_right hh (Int.le_of_lt hd)
  unfold want2 want1
  rcases b1 with ⟨e1, b1⟩ | ⟨e1, b1⟩ | ⟨e1, b1⟩ <;> rcases b2 with ⟨e2, b2⟩ | ⟨e2, b2⟩ | ⟨e2, b2⟩ <;> rcases b3 with ⟨e3, b3⟩ | ⟨e3, b3⟩ | ⟨e3, b3⟩ <;> rcases b4 with ⟨e4, b4⟩ | ⟨e4, b4⟩ | ⟨e4, b4⟩ <;> rw [e1, e2, e3, e4]
  all_goals first
    | (exfalso; omega)
    | (rw [b.2.2 (by omega), c0.2.2 (by omega)]; rfl)
    | (rw [b.2.1 (by omega), c1.2.2 (by omega)]; rfl)
    | (rw [b.2.1 (by omega), c1.2.1 (by omega)]; rfl)
    | (rw [b.2.1 (by omega), c1.1 (by omega) (by omega)]; rfl)
    | (rw [b.1 (by omega) (by omega)]; rfl)
end Go.Proofs.Ytnkcbephceollaa
