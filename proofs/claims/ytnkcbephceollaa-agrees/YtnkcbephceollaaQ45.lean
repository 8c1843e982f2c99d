import Derived.Test.YtnkcbephceollaaQ6
import Derived.Test.YtnkcbephceollaaQ43
import Derived.Test.YtnkcbephceollaaQ10
import Derived.Test.YtnkcbephceollaaQ11
import Derived.Test.YtnkcbephceollaaQ38
namespace Go.Proofs.Ytnkcbephceollaa
open Go.RowKit
set_option linter.unusedSimpArgs false
set_option linter.unusedVariables false

/-- The ends of edges, one behind the other. -/
def twosL (E : List (Pt × Pt)) : List Pt := E.flatMap (fun e => [e.1, e.2])
theorem twos_len (E : List (Pt × Pt)) : (twosL E).length = E.length * 2 := by
  unfold twosL
  induction E with
  | nil => rfl
  | cons e E ih => simp [ih]; omega
theorem twos_cells (E : List (Pt × Pt)) : ptCells (twosL E) = segCells E := by
  unfold twosL ptCells segCells
  induction E with
  | nil => rfl
  | cons e E ih => rw [List.flatMap_cons, List.flatMap_append, ih]; simp [ptCell, segCell]
theorem twos_at (E : List (Pt × Pt)) (j : Nat) (hj : j < E.length) : (twosL E).getD (2 * j) zP = (E.getD j (zP, zP)).1 ∧ (twosL E).getD (2 * j + 1) zP = (E.getD j (zP, zP)).2 := by
  unfold twosL
  induction E generalizing j with
  | nil => simp at hj
  | cons e E ih =>
    cases j with
    | zero => simp
    | succ j =>
      have := ih j (by simpa using hj)
      rw [List.flatMap_cons, show 2 * (j + 1) = (2 * j) + 1 + 1 by omega, show 2 * j + 1 + 1 + 1 = (2 * j + 1) + 1 + 1 by omega]
      simpa using this

set_option maxRecDepth 100000 in
set_option maxHeartbeats 4000000 in
theorem kedges_any (v : Value) (P : List (List Pt)) (w : World) (hP : PolyAt w v P) (hT : (edgesM P).length ≤ 1000000000) :
    Calls Try.prog 29 #[v] w fun e w' => ∃ v', e = .returned v' ∧ RingAt w' v' (twosL (edgesM P)) ∧ Below w.heap.size w w' := by
  obtain ⟨i0, hi0, hz0, hz1, hz2⟩ := info_parts infoPoint
  obtain ⟨a, cap, rfl, h1, h2, h3⟩ := hP
  unfold maxLen at h2
  go_enter Try.func29, Try.ntmps29
  go_wp2_with fail
  go_loopw [3, 4, 5] (fun ev c _ w' => ∃ i : Nat, c = .int .i64 i ∧ i ≤ P.length ∧ w'.ownsRow w.heap.size 25 3 ev ((edgesM (P.take i)).length * 2) (segCells (edgesM (P.take i))) ∧ Below w.heap.size w w') (fun _ c _ _ => P.length - (intOf c).toNat)
  case atStart => exact ⟨0, rfl, Nat.zero_le _, World.ownsRow_nil _ _ _ _, Below.refl _ _⟩
  case round =>
    obtain ⟨i, rfl, hi, hown, hbel⟩ := hrel
    by_cases hlt : i < P.length
    · obtain ⟨b, off, rv, rfl, hb, hc, hring⟩ := h3 i hlt
      have u0 := upToM_zero P i
      have us := fun j => upToM_succ P i j
      have ue := upToM_end P i hlt
      have ul := fun j => upToM_le P i j hlt
      generalize hr : P.getD i [] = r at *
      obtain ⟨a', cap', rfl, g1, g2, g3⟩ := hring
      unfold maxLen at g2
      rw [← u0] at hown
      have U0 := hide u0
      have US := hide us
      have UE := hide ue
      have UL := hide ul
      have HT := hide hT
      have hi0' : (0 : Int) ≤ (i : Int) := Int.natCast_nonneg _
      have hi1' : (i : Int) < (P.length : Int) := by omega
      clear h3 hr u0 us ue ul hT
      go_wp2_with fail
      go_loopw [3, 5] (fun ev c w' => ∃ j : Nat, c = .int .i64 j ∧ j ≤ r.length ∧ w'.ownsRow w.heap.size 25 3 ev ((upToM P i j).length * 2) (segCells (upToM P i j)) ∧ Below w.heap.size w w') (fun _ c _ => r.length - (intOf c).toNat)
      case atStart => exact ⟨0, rfl, Nat.zero_le _, hown, hbel⟩
      case round =>
        clear hown hbel
        obtain ⟨j, rfl, hj, hown, hbel⟩ := hrel
        have hc' := (hbel.cell (p := ⟨b, off + i, none⟩) hb).trans hc
        by_cases hjt : j < r.length
        · obtain ⟨b', off', rfl, hb', hp'⟩ := g3 j hjt
          obtain ⟨px, py, pd⟩ := hp'.later hbel hb'
          have hml2 : (j + 1) % r.length < r.length := Nat.mod_lt _ (by omega)
          have htm2 : ((j : Int) + 1).tmod (r.length : Int) = (((j + 1) % r.length : Nat) : Int) := by
            have := tmod_nat (j + 1) r.length
            rw [← this]; congr 1
          have htm3 : ((j : Int) + 1) % (r.length : Int) = (((j + 1) % r.length : Nat) : Int) := by rw [← htm2, Int.tmod_eq_emod_of_nonneg (by omega)]
          have hidx : (if j + 1 = r.length then 0 else j + 1) = (j + 1) % r.length := by
            split
            · rename_i e; rw [e, Nat.mod_self]
            · rw [Nat.mod_eq_of_lt (by omega)]
          obtain ⟨b2, off2, e2, _, hq0⟩ := g3 _ hml2
          simp at e2
          obtain ⟨rfl, rfl⟩ := e2
          obtain ⟨qx, qy, qd⟩ := hq0.later hbel hb'
          have EA := hide (show edgeAt r j = (r.getD j zP, r.getD ((j + 1) % r.length) zP) by rw [← hidx]; rfl)
          generalize r.getD j zP = p at *
          generalize r.getD ((j + 1) % r.length) zP = q at *
          generalize (j + 1) % r.length = m2 at *
          clear g3 hp' hq0 hidx
          have hm20 : (0 : Int) ≤ (m2 : Int) := Int.natCast_nonneg _
          have hm21 : (m2 : Int) < (r.length : Int) := by omega
          have hj0 : (0 : Int) ≤ (j : Int) := Int.natCast_nonneg _
          have hj1 : (j : Int) < (r.length : Int) := by omega
          have hr0 : (r.length : Int) ≠ 0 := by omega
          have hne1 : u3.ownBlock ≠ some b := fun e => by have := (hown.lt _ e).1; omega
          have hne2 : u3.ownBlock ≠ some b' := fun e => by have := (hown.lt _ e).1; omega
          have hbw : b' < wr.heap.size := by have := hbel.size; omega
          have hbw2 : b < wr.heap.size := by have := hbel.size; omega
          have hlen := UL.out j hj
          have hT12 := HT.out
          have hn1 : (upToM P i j).length * 2 + 2 ≤ maxLen := by unfold maxLen; omega
          have hn2 : ((upToM P i j).length * 2 + 2) * 24 ≤ 140737488355328 := by omega
          have hposN : 0 < r.length := by omega
          have hposI : (0 : Int) < (r.length : Int) := by omega
          have ewr : IntKind.i64.wrap ((j : Int) + 1) = (j : Int) + 1 := by simp [IntKind.wrap, IntKind.bits, IntKind.signed]; omega
          have hposM : ¬ r.length = 0 := by omega
          have hposL : ¬ r = [] := by intro e; rw [e] at hposN; simp at hposN
          go_wp2_with fail
          go_region_held3 (fun w' => w'.cell? ⟨b, off + i, none⟩ = some (.slice (some ⟨b', off', none⟩) r.length cap') ∧ w'.cell? ⟨b', off' + j * 3, none⟩ = some (.int .i64 p.x) ∧ w'.cell? ⟨b', off' + j * 3 + 1, none⟩ = some (.int .i64 p.y) ∧ w'.cell? ⟨b', off' + j * 3 + 2, none⟩ = some (.int .i64 p.d) ∧
              w'.cell? ⟨b', off' + m2 * 3, none⟩ = some (.int .i64 q.x) ∧ w'.cell? ⟨b', off' + m2 * 3 + 1, none⟩ = some (.int .i64 q.y) ∧ w'.cell? ⟨b', off' + m2 * 3 + 2, none⟩ = some (.int .i64 q.d))
            (first
              | go_keep
              | (go_split_ands
                 refine ⟨?_, ?_, ?_, ?_, ?_, ?_, ?_⟩
                 · (rw [hgrow.cell_far _ (by simp; omega) (Ne.symm hne1)]; assumption)
                 · (rw [hgrow.cell_far _ (by simp; omega) (Ne.symm hne2)]; assumption)
                 · (rw [hgrow.cell_far _ (by simp; omega) (Ne.symm hne2)]; assumption)
                 · (rw [hgrow.cell_far _ (by simp; omega) (Ne.symm hne2)]; assumption)
                 · (rw [hgrow.cell_far _ (by simp; omega) (Ne.symm hne2)]; assumption)
                 · (rw [hgrow.cell_far _ (by simp; omega) (Ne.symm hne2)]; assumption)
                 · (rw [hgrow.cell_far _ (by simp; omega) (Ne.symm hne2)]; assumption)))
            ((refine step_append_lies _ (by rfl) _ _ _ (by rfl) w.heap.size 25 i0 _ 3 24 Try.underlying44 hi0 hz0 hz1 hz2 rfl (by omega) u3 ((upToM P i j).length * 2) (segCells (upToM P i j)) (by rfl) ((hown.alloc _).drew) ⟨wr.heap.size, 0, none⟩ 2 2 (segCell (p, q)) (by rfl) (by rfl) (World.news_of_block (cs := #[.int .i64 p.x, .int .i64 p.y, .int .i64 p.d, .int .i64 q.x, .int .i64 q.y, .int .i64 q.d]) (t := 25) (fr := (0, 0)) (heap_alloc_new wr _)) (by simp [segCell, Value.oneCell']) (by omega) hn1 hn2 (by have := hbel.size; simp; omega) (wr.heap.size + 1) (by simp) ?_; intro gg cp w1 hown1 hgrow hat hlt1))
          have HO : Hid (w1.ownsRow w.heap.size 25 3 (.slice (some ⟨gg, 0, none⟩) ((upToM P i j).length * 2 + 2) cp) ((upToM P i (j + 1)).length * 2) (segCells (upToM P i (j + 1)))) := by
            refine hide ?_
            have e := US.out j hjt
            rw [EA.out] at e
            rw [e, segCells_snoc]
            have e3 : (upToM P i j ++ [(p, q)]).length * 2 = (upToM P i j).length * 2 + 2 := by simp; omega
            rw [e3]
            exact hown1
          have B1 : Below w.heap.size w w1 := by
            refine Below.grown ((hbel.alloc hbel.size _).drew) hgrow (by have := hbel.size; simp; omega) (fun k hk => (hown.lt k hk).1)
          clear hown hown1 hgrow px py pd qx qy qd hat hc'
          go_wp2
          go_roundw
          case rel => exact ⟨j + 1, by go_num, by omega, HO, B1⟩
          case measure => simp [intOf]; omega
        · have ej : j = r.length := by omega
          subst ej
          have HO : Hid (wr.ownsRow w.heap.size 25 3 u3 ((edgesM (P.take (i + 1))).length * 2) (segCells (edgesM (P.take (i + 1))))) := by
            rw [UE.out] at hown; exact hown
          clear hown g3
          go_wp2
          go_roundw
          case rel => exact ⟨i + 1, by go_num, by omega, HO, hbel⟩
          case measure => simp [intOf]; omega
    · have e : P.take i = P := List.take_of_length_le (by omega)
      rw [e] at hown
      have HR := hide (show RingAt wr u3 (twosL (edgesM P)) from ring_of_own (by rw [twos_len, twos_cells]; exact hown) (by rw [twos_len]; unfold maxLen; omega))
      clear h3 hown
      go_wp2
      go_ret
      exact ⟨_, rfl, HR.out, hbel⟩
end Go.Proofs.Ytnkcbephceollaa
namespace Go.Proofs.Ytnkcbephceollaa
set_option linter.unusedVariables false
set_option linter.unusedSimpArgs false

theorem whereM_on (q : Pt) : ∀ (E F : List (Pt × Pt)) (n : Int), E.any (fun e => hasM e.1 e.2 q) = true → whereM q n (E ++ F) = 2
  | [], F, n, h => by simp at h
  | e :: E, F, n, h => by
    simp only [List.cons_append, whereM]
    split
    · rfl
    · rename_i k
      exact whereM_on q E F _ (by simpa [k] using h)
theorem whereM_off (q : Pt) : ∀ (E F : List (Pt × Pt)) (n : Int), E.any (fun e => hasM e.1 e.2 q) = false → whereM q n (E ++ F) = whereM q (E.foldl (fun n e => if overM e.1 e.2 q = true then otherM n else n) n) F
  | [], F, n, h => rfl
  | e :: E, F, n, h => by
    simp only [List.any_cons, Bool.or_eq_false_iff] at h
    simp only [List.cons_append, whereM, List.foldl_cons]
    rw [if_neg (by rw [h.1]; decide)]
    exact whereM_off q E F _ h.2

/-- A grid point. -/
abbrev gp (x y : Int) : Pt := ⟨x, y, 1⟩
section
variable {q : Pt} (hd : 0 < q.d)
include hd
omit hd in
theorem cmp_gp (x y : Int) : (cmpM q (gp x y) < 0 ↔ (q.x < x * q.d ∨ (q.x = x * q.d ∧ q.y < y * q.d))) ∧ (0 < cmpM q (gp x y) ↔ (x * q.d < q.x ∨ (q.x = x * q.d ∧ y * q.d < q.y))) := by
  unfold cmpM
  simp only [Int.mul_one]
  split <;> constructor <;> constructor <;> intro h <;> omega
omit hd in
theorem cmp_gg (x y x' y' : Int) : cmpM (gp x y) (gp x' y') = if x - x' ≠ 0 then x - x' else y - y' := by
  unfold cmpM; simp only [Int.mul_one]
omit hd in
theorem sgn_mul {k m : Int} (hk : 0 < k) : (k * m < 0 ↔ m < 0) ∧ (k * m = 0 ↔ m = 0) := by
  refine ⟨⟨fun h => ?_, fun h => Int.mul_neg_of_pos_of_neg hk h⟩, ⟨fun h => ?_, fun h => by rw [h, Int.mul_zero]⟩⟩
  · rcases Int.lt_or_le m 0 with c | c
    · exact c
    · have := Int.mul_nonneg (Int.le_of_lt hk) c; omega
  · rcases Int.mul_eq_zero.1 h with c | c <;> omega
omit hd in
theorem fl_h {x0 x1 y : Int} (h : x0 < x1) : firstM (gp x0 y) (gp x1 y) = gp x0 y ∧ lastM (gp x0 y) (gp x1 y) = gp x1 y ∧ firstM (gp x1 y) (gp x0 y) = gp x0 y ∧ lastM (gp x1 y) (gp x0 y) = gp x1 y := by
  unfold firstM lastM
  simp only [cmp_gg]
  refine ⟨?_, ?_, ?_, ?_⟩
  · rw [if_neg]; rw [if_pos (by omega)]; omega
  · rw [if_pos]; rw [if_pos (by omega)]; omega
  · rw [if_pos]; rw [if_pos (by omega)]; omega
  · rw [if_neg]; rw [if_pos (by omega)]; omega
omit hd in
theorem fl_v {x y0 y1 : Int} (h : y0 < y1) : firstM (gp x y0) (gp x y1) = gp x y0 ∧ lastM (gp x y0) (gp x y1) = gp x y1 ∧ firstM (gp x y1) (gp x y0) = gp x y0 ∧ lastM (gp x y1) (gp x y0) = gp x y1 := by
  unfold firstM lastM
  simp only [cmp_gg]
  refine ⟨?_, ?_, ?_, ?_⟩
  · rw [if_neg]; rw [if_neg (by omega)]; omega
  · rw [if_pos]; rw [if_neg (by omega)]; omega
  · rw [if_pos]; rw [if_neg (by omega)]; omega
  · rw [if_neg]; rw [if_neg (by omega)]; omega
omit hd in
theorem det_h (x0 x1 y : Int) : detM (gp x0 y) (gp x1 y) q = (x1 - x0) * (q.y - y * q.d) := by unfold detM; grind
omit hd in
theorem det_v (x y0 y1 : Int) : detM (gp x y0) (gp x y1) q = (y1 - y0) * (x * q.d - q.x) := by unfold detM; grind

theorem flat {a b : Pt} {x0 x1 y : Int} (h : x0 < x1) (hf : firstM a b = gp x0 y) (hl : lastM a b = gp x1 y) :
    hasM a b q = decide (q.y = y * q.d ∧ x0 * q.d ≤ q.x ∧ q.x ≤ x1 * q.d) ∧ overM a b q = decide (q.y < y * q.d ∧ x0 * q.d < q.x ∧ q.x ≤ x1 * q.d) := by
  have k := sgn_mul (k := x1 - x0) (m := q.y - y * q.d) (by omega)
  have c0 := cmp_gp (q := q) x0 y
  have c1 := cmp_gp (q := q) x1 y
  have m : x0 * q.d < x1 * q.d := Int.mul_lt_mul_of_pos_right h hd
  unfold hasM overM spanM sideM
  rw [hf, hl, det_h]
  constructor
  · rw [Bool.eq_iff_iff]
    simp only [Bool.and_eq_true, Bool.not_eq_true', decide_eq_false_iff_not, decide_eq_true_eq, c0.1, c1.2, k.2]
    omega
  · rw [Bool.eq_iff_iff]
    simp only [Bool.and_eq_true, Bool.not_eq_true', decide_eq_false_iff_not, decide_eq_true_eq, c0.1, c1.1, k.1]
    omega
theorem steep {a b : Pt} {x y0 y1 : Int} (h : y0 < y1) (hf : firstM a b = gp x y0) (hl : lastM a b = gp x y1) :
    hasM a b q = decide (q.x = x * q.d ∧ y0 * q.d ≤ q.y ∧ q.y ≤ y1 * q.d) ∧ overM a b q = false := by
  have k := sgn_mul (k := y1 - y0) (m := x * q.d - q.x) (by omega)
  have c0 := cmp_gp (q := q) x y0
  have c1 := cmp_gp (q := q) x y1
  have m : y0 * q.d < y1 * q.d := Int.mul_lt_mul_of_pos_right h hd
  unfold hasM overM spanM sideM
  rw [hf, hl, det_v]
  constructor
  · rw [Bool.eq_iff_iff]
    simp only [Bool.and_eq_true, Bool.not_eq_true', decide_eq_false_iff_not, decide_eq_true_eq, c0.1, c1.2, k.2]
    omega
  · rw [← Bool.not_eq_true]
    simp only [Bool.and_eq_true, Bool.not_eq_true', decide_eq_false_iff_not, decide_eq_true_eq, c0.1, c1.1, k.1]
    omega
end

def boxM (x0 y0 x1 y1 : Int) : List Pt := [gp x0 y0, gp x1 y0, gp x1 y1, gp x0 y1]
theorem box_edges (x0 y0 x1 y1 : Int) : ringEdges (boxM x0 y0 x1 y1) = [(gp x0 y0, gp x1 y0), (gp x1 y0, gp x1 y1), (gp x1 y1, gp x0 y1), (gp x0 y1, gp x0 y0)] := rfl
/-- Within the box, its edges too. -/
def inBx (q : Pt) (x0 y0 x1 y1 : Int) : Prop := x0 * q.d ≤ q.x ∧ q.x ≤ x1 * q.d ∧ y0 * q.d ≤ q.y ∧ q.y ≤ y1 * q.d
def deepM (q : Pt) (x0 y0 x1 y1 : Int) : Prop := x0 * q.d < q.x ∧ q.x < x1 * q.d ∧ y0 * q.d < q.y ∧ q.y < y1 * q.d
theorem box_where {q : Pt} (hd : 0 < q.d) {x0 y0 x1 y1 : Int} (hx : x0 < x1) (hy : y0 < y1) (F : List (Pt × Pt)) (n : Int) (hn : n = 0 ∨ n = 1) :
    (inBx q x0 y0 x1 y1 → ¬ deepM q x0 y0 x1 y1 → whereM q n (ringEdges (boxM x0 y0 x1 y1) ++ F) = 2) ∧
    (deepM q x0 y0 x1 y1 → whereM q n (ringEdges (boxM x0 y0 x1 y1) ++ F) = whereM q (otherM n) F) ∧
    (¬ inBx q x0 y0 x1 y1 → whereM q n (ringEdges (boxM x0 y0 x1 y1) ++ F) = whereM q n F) := by
  have f0 := flat hd hx (fl_h (y := y0) hx).1 (fl_h (y := y0) hx).2.1
  have f2 := flat hd hx (fl_h (y := y1) hx).2.2.1 (fl_h (y := y1) hx).2.2.2
  have f1 := steep hd hy (fl_v (x := x1) hy).1 (fl_v (x := x1) hy).2.1
  have f3 := steep hd hy (fl_v (x := x0) hy).2.2.1 (fl_v (x := x0) hy).2.2.2
  have m1 : x0 * q.d < x1 * q.d := Int.mul_lt_mul_of_pos_right hx hd
  have m2 : y0 * q.d < y1 * q.d := Int.mul_lt_mul_of_pos_right hy hd
  rw [box_edges]
  unfold inBx deepM
  generalize x0 * q.d = A at *
  generalize x1 * q.d = B at *
  generalize y0 * q.d = C at *
  generalize y1 * q.d = D at *
  refine ⟨fun h1 h2 => whereM_on _ _ _ _ ?_, fun h => ?_, fun h => ?_⟩
  · simp only [List.any_cons, List.any_nil, f0.1, f1.1, f2.1, f3.1, Bool.or_eq_true, decide_eq_true_eq, Bool.or_false]
    omega
  · rw [whereM_off]
    · have o0 : decide (q.y < C ∧ A < q.x ∧ q.x ≤ B) = false := by simp; omega
      have o2 : decide (q.y < D ∧ A < q.x ∧ q.x ≤ B) = true := by simp; omega
      simp only [List.foldl_cons, List.foldl_nil, f0.2, f1.2, f2.2, f3.2, o0, o2, if_true, Bool.false_eq_true, if_false]
    · rw [← Bool.not_eq_true]
      simp only [List.any_cons, List.any_nil, f0.1, f1.1, f2.1, f3.1, Bool.or_eq_true, decide_eq_true_eq, Bool.or_false]
      omega
  · rw [whereM_off]
    · have oo : otherM (otherM n) = n := by rcases hn with rfl | rfl <;> rfl
      by_cases c : q.y < C ∧ A < q.x ∧ q.x ≤ B
      · have o0 : decide (q.y < C ∧ A < q.x ∧ q.x ≤ B) = true := by simp; omega
        have o2 : decide (q.y < D ∧ A < q.x ∧ q.x ≤ B) = true := by simp; omega
        simp only [List.foldl_cons, List.foldl_nil, f0.2, f1.2, f2.2, f3.2, o0, o2, if_true, Bool.false_eq_true, if_false, oo]
      · have o0 : decide (q.y < C ∧ A < q.x ∧ q.x ≤ B) = false := by simp; omega
        have o2 : decide (q.y < D ∧ A < q.x ∧ q.x ≤ B) = false := by simp; omega
        simp only [List.foldl_cons, List.foldl_nil, f0.2, f1.2, f2.2, f3.2, o0, o2, if_true, Bool.false_eq_true, if_false, oo]
    · rw [← Bool.not_eq_true]
      simp only [List.any_cons, List.any_nil, f0.1, f1.1, f2.1, f3.1, Bool.or_eq_true, decide_eq_true_eq, Bool.or_false]
      omega

def btwM (v n lo hi : Int) : Int := if v < lo * n ∨ hi * n < v then 0 else if lo * n < v ∧ v < hi * n then 1 else 2
/-- What is wanted of one box, and of two. -/
def want1 (i j : Int) : Int := if i = 0 ∨ j = 0 then 0 else if i = 1 ∧ j = 1 then 1 else 2
def want2 (i j k l : Int) : Int := if k = 1 ∧ l = 1 then 0 else if k ≠ 0 ∧ l ≠ 0 then 2 else want1 i j

theorem bet_cases (v n lo hi : Int) : (btwM v n lo hi = 0 ∧ (v < lo * n ∨ hi * n < v)) ∨ (btwM v n lo hi = 1 ∧ lo * n < v ∧ v < hi * n) ∨ (btwM v n lo hi = 2 ∧ lo * n ≤ v ∧ v ≤ hi * n ∧ ¬ (lo * n < v ∧ v < hi * n)) := by
  unfold btwM
  split
  · exact .inl ⟨rfl, by assumption⟩
  · split
    · exact .inr (.inl ⟨rfl, by assumption⟩)
    · exact .inr (.inr ⟨rfl, by omega⟩)
theorem boxed1 {q : Pt} (hd : 0 < q.d) {w h : Int} (hw : 0 < w) (hh : 0 < h) : whereM q 0 (edgesM [boxM 0 0 w h]) = want1 (btwM q.x q.d 0 w) (btwM q.y q.d 0 h) := by
  have b := box_where hd hw hh [] 0 (.inl rfl)
  have e : edgesM [boxM 0 0 w h] = ringEdges (boxM 0 0 w h) ++ [] := rfl
  rw [e]
  unfold inBx deepM at b
  have b1 := bet_cases q.x q.d 0 w
  have b2 := bet_cases q.y q.d 0 h
  unfold want1
  rcases b1 with ⟨e1, b1⟩ | ⟨e1, b1⟩ | ⟨e1, b1⟩ <;> rcases b2 with ⟨e2, b2⟩ | ⟨e2, b2⟩ | ⟨e2, b2⟩ <;> rw [e1, e2]
  all_goals first
    | (rw [b.2.2 (by omega)]; rfl)
    | (rw [b.2.1 (by omega)]; rfl)
    | (rw [b.1 (by omega) (by omega)]; rfl)
theorem boxed2 {q : Pt} (hd : 0 < q.d) {w h : Int} (hw : 4 ≤ w) (hh : 4 ≤ h) : whereM q 0 (edgesM [boxM 0 0 w h, boxM 1 1 (w - 1) (h - 1)]) = want2 (btwM q.x q.d 0 w) (btwM q.y q.d 0 h) (btwM q.x q.d 1 (w - 1)) (btwM q.y q.d 1 (h - 1)) := by
  have c : ∀ n : Int, n = 0 ∨ n = 1 → _ := fun n hn => box_where hd (show (1 : Int) < w - 1 by omega) (show (1 : Int) < h - 1 by omega) [] n hn
  have c0 := c 0 (.inl rfl)
  have c1 := c 1 (.inr rfl)
  have b := box_where hd (show (0 : Int) < w by omega) (show (0 : Int) < h by omega) (ringEdges (boxM 1 1 (w - 1) (h - 1)) ++ []) 0 (.inl rfl)
  have e : edgesM [boxM 0 0 w h, boxM 1 1 (w - 1) (h - 1)] = ringEdges (boxM 0 0 w h) ++ (ringEdges (boxM 1 1 (w - 1) (h - 1)) ++ []) := rfl
  rw [e]
  unfold inBx deepM at b c0 c1
  have b1 := bet_cases q.x q.d 0 w
  have b2 := bet_cases q.y q.d 0 h
  have b3 := bet_cases q.x q.d 1 (w - 1)
  have b4 := bet_cases q.y q.d 1 (h - 1)
  have x1 : (w - 1) * q.d = w * q.d - q.d := by grind
  have x2 : (h - 1) * q.d = h * q.d - q.d := by grind
  rw [x1, x2] at c0 c1
  rw [x1] at b3
  rw [x2] at b4
  have x3 : otherM 0 = 1 := rfl
  rw [x3] at b
  have m1 : 4 * q.d ≤ w * q.d := Int.mul_le_mul_of_nonneg_right hw (Int.le_of_lt hd)
  have m2 : 4 * q.d ≤ h * q.d := Int.mul_le_mul_of_nonneg_right hh (Int.le_of_lt hd)
  unfold want2 want1
  rcases b1 with ⟨e1, b1⟩ | ⟨e1, b1⟩ | ⟨e1, b1⟩ <;> rcases b2 with ⟨e2, b2⟩ | ⟨e2, b2⟩ | ⟨e2, b2⟩ <;> rcases b3 with ⟨e3, b3⟩ | ⟨e3, b3⟩ | ⟨e3, b3⟩ <;> rcases b4 with ⟨e4, b4⟩ | ⟨e4, b4⟩ | ⟨e4, b4⟩ <;> rw [e1, e2, e3, e4]
  all_goals first
    | (exfalso; omega)
    | (rw [b.2.2 (by omega), c0.2.2 (by omega)]; rfl)
    | (rw [b.2.1 (by omega), c1.2.2 (by omega)]; rfl)
    | (rw [b.2.1 (by omega), c1.2.1 (by omega)]; rfl)
    | (rw [b.2.1 (by omega), c1.1 (by omega) (by omega)]; rfl)
    | (rw [b.1 (by omega) (by omega)]; rfl)
end Go.Proofs.Ytnkcbephceollaa
namespace Go.Proofs.Ytnkcbephceollaa
open Go.RowKit
set_option linter.unusedSimpArgs false
set_option linter.unusedVariables false

set_option maxHeartbeats 1000000 in
theorem one_any (v : Value) (r : List Pt) (w : World) (hr : RingAt w v r) :
    Calls Try.prog 19 #[v] w fun e w' => ∃ v', e = .returned v' ∧ PolyAt w' v' [r] ∧ Below w.heap.size w w' := by
  have hr0 := hr
  obtain ⟨a, cap, rfl, h1, h2, h3⟩ := hr
  go_enter Try.func19, Try.ntmps19
  go_wp2
  refine bodyPost_ret (v := .slice (some ⟨w.heap.size, 0, none⟩) 1 1) (by simp [results, Try.results19, go_sem]) rfl ⟨_, rfl, ?_, (Below.refl _ _).alloc (Nat.le_refl _) _⟩
  refine ⟨some ⟨w.heap.size, 0, none⟩, 1, rfl, Nat.le_refl _, by decide, fun i hi => ?_⟩
  obtain rfl : i = 0 := by simp at hi; omega
  exact ⟨_, 0, _, rfl, by simp, (World.cell?_alloc_at _ _ _ _ rfl).trans rfl, hr0.later ((Below.refl _ _).alloc (Nat.le_refl _) _)⟩

set_option maxHeartbeats 1000000 in
theorem box_any (x0 y0 x1 y1 : Int) (w : World) :
    Calls Try.prog 20 #[.int .i64 x0, .int .i64 y0, .int .i64 x1, .int .i64 y1] w fun e w' => ∃ g, e = .returned (.slice (some ⟨g, 0, none⟩) 4 4) ∧ RingAt w' (.slice (some ⟨g, 0, none⟩) 4 4) (boxM x0 y0 x1 y1) ∧ Below w.heap.size w w' := by
  go_enter Try.func20, Try.ntmps20
  go_wp2_with fail
  refine (at_any x0 y0 _).mono ?_
  rintro e w1 ⟨rfl, k1⟩
  go_wp2_with fail
  refine (at_any x1 y0 _).mono ?_
  rintro e w2 ⟨rfl, k2⟩
  have B2 := bvia k1 k2
  clear k1 k2
  go_wp2_with fail
  refine (at_any x1 y1 _).mono ?_
  rintro e w3 ⟨rfl, k3⟩
  have B3 := bvia B2 k3
  clear B2 k3
  go_wp2_with fail
  refine (at_any x0 y1 _).mono ?_
  rintro e w4 ⟨rfl, k4⟩
  have B4 := bvia B3 k4
  clear B3 k4
  go_wp2
  refine bodyPost_ret (v := .slice (some ⟨w4.heap.size, 0, none⟩) 4 4) (by simp [results, Try.results20, go_sem]) rfl ⟨_, rfl, ?_, B4.alloc B4.size _⟩
  refine ⟨some ⟨w4.heap.size, 0, none⟩, 4, rfl, Nat.le_refl _, by decide, fun j hj => ⟨_, 0, rfl, by simp, ?_⟩⟩
  have h4 : j < 4 := hj
  have hc := fun o => World.cell?_alloc_at (w := w4) #[.int .i64 x0, .int .i64 y0, .int .i64 1, .int .i64 x1, .int .i64 y0, .int .i64 1, .int .i64 x1, .int .i64 y1, .int .i64 1, .int .i64 x0, .int .i64 y1, .int .i64 1] 25 _ o rfl
  match j, h4 with
  | 0, _ => exact ⟨hc 0, hc 1, hc 2⟩
  | 1, _ => exact ⟨hc 3, hc 4, hc 5⟩
  | 2, _ => exact ⟨hc 6, hc 7, hc 8⟩
  | 3, _ => exact ⟨hc 9, hc 10, hc 11⟩
theorem poly2 {w : World} {v1 v2 : Value} {r1 r2 : List Pt} (h1 : RingAt w v1 r1) (h2 : RingAt w v2 r2) (t : TypeId) : PolyAt (w.alloc (.cells #[v1, v2] t)) (.slice (some ⟨w.heap.size, 0, none⟩) 2 2) [r1, r2] := by
  refine ⟨some ⟨w.heap.size, 0, none⟩, 2, rfl, Nat.le_refl _, by decide, fun i hi => ?_⟩
  have hi2 : i < 2 := hi
  have B : Below w.heap.size w (w.alloc (.cells #[v1, v2] t)) := (Below.refl _ _).alloc (Nat.le_refl _) _
  match i, hi2 with
  | 0, _ => exact ⟨_, 0, _, rfl, by simp, (World.cell?_alloc_at _ _ _ _ rfl).trans rfl, h1.later B⟩
  | 1, _ => exact ⟨_, 0, _, rfl, by simp, (World.cell?_alloc_at _ _ _ _ rfl).trans rfl, h2.later B⟩
end Go.Proofs.Ytnkcbephceollaa
