import Derived.Test.YtnkcbephceollaaGreatProg
import Derived.Test.YtnkcbephceollaaGreatM1
import Derived.WalkKit
import Derived.Below
import Derived.WalkSpells
import Derived.WalkLawsBesides
namespace Go.Proofs.YtnkcbephceollaaGreat
open Go.RowKit
set_option linter.unusedSimpArgs false
set_option linter.unusedVariables false

/-- Old cells and old marks, over a world that has only grown. -/
theorem bcell {W w1 : World} (hb : Below W.heap.size W w1) : (∀ b o, b < W.heap.size → w1.cell? ⟨b, o, none⟩ = W.cell? ⟨b, o, none⟩) ∧ (∀ b o, b < W.heap.size → w1.frozen? ⟨b, o, none⟩ = W.frozen? ⟨b, o, none⟩) :=
  ⟨fun b o h => hb.cell (p := ⟨b, o, none⟩) h, fun b o h => hb.frozen (p := ⟨b, o, none⟩) h⟩
theorem bvia {w W w1 : World} (h : Below w.heap.size w W) (hb : Below W.heap.size W w1) : Below w.heap.size w w1 := h.trans (hb.mono h.size)
theorem ret_int {k : IntKind} {a b : Int} (h : a = b) : Ending.returned (.int k a) = .returned (.int k b) := by rw [h]
theorem ret_bool {a b : Bool} (h : a = b) : Ending.returned (.bool a) = .returned (.bool b) := by rw [h]
theorem wrap_in {a A : Int} (h : In a A) (g : A ≤ 9223372036854775807) : wrap64 a = a := IntWalk.wrap64_in a (by unfold In at h; omega)

abbrev I (n : Int) : Value := .int .i64 n
abbrev Pt.v (p : Pt) : Value := .agg #[.int .i64 p.x, .int .i64 p.y, .int .i64 p.d]
abbrev sg (a b : Pt) : Value := .agg #[.int .i64 a.x, .int .i64 a.y, .int .i64 a.d, .int .i64 b.x, .int .i64 b.y, .int .i64 b.d]
abbrev Mt.v (m : Mt) : Value := .agg #[.int .i64 m.k, .int .i64 m.p.x, .int .i64 m.p.y, .int .i64 m.p.d, .int .i64 m.q.x, .int .i64 m.q.y, .int .i64 m.q.d]

set_option maxHeartbeats 1000000 in
theorem IsGood_any (p : Pt) (w : World) :
    Calls Tryz.prog 65 #[p.v] w fun e w' => e = .returned (.bool (goodB p)) ∧ Below w.heap.size w w' := by
  by_cases h1 : p.d < 1
  · go_enter Tryz.func65, Tryz.ntmps65
    go_wp2
    all_goals
      go_ret
      refine ⟨ret_bool ?_, (Below.refl _ _).alloc (Nat.le_refl _) _⟩
      simp_all [goodB]
      try omega
  by_cases h2 : 32768 < p.d
  · go_enter Tryz.func65, Tryz.ntmps65
    go_wp2
    all_goals
      go_ret
      refine ⟨ret_bool ?_, (Below.refl _ _).alloc (Nat.le_refl _) _⟩
      simp_all [goodB]
      try omega
  go_enter Tryz.func65, Tryz.ntmps65
  go_wp2
  all_goals
    go_ret
    refine ⟨ret_bool ?_, (Below.refl _ _).alloc (Nat.le_refl _) _⟩
    first | (simp_all [goodB]; done) | (simp_all [goodB]; omega)

set_option maxHeartbeats 400000 in
theorem IsGrid_any (p : Pt) (w : World) :
    Calls Tryz.prog 37 #[p.v] w fun e w' => e = .returned (.bool (gridB p)) ∧ Below w.heap.size w w' := by
  by_cases h : p.d = 1
  · have H : Hid (goodB p = gridB p) := grid_of p h
    have h' : (p.d != 1) = false := by simpa using h
    clear h
    go_enter Tryz.func37, Tryz.ntmps37
    go_wp2_with fail
    refine (IsGood_any p _).mono ?_
    rintro e w1 ⟨rfl, k⟩
    have B1 := bvia ((Below.refl _ _).alloc (Nat.le_refl _) _) k
    clear k
    go_wp2
    go_ret
    exact ⟨ret_bool H.out, B1⟩
  · have H : Hid (gridB p = false) := grid_no p h
    have h' : (p.d != 1) = true := by simpa using h
    clear h
    go_enter Tryz.func37, Tryz.ntmps37
    go_wp2
    go_ret
    exact ⟨ret_bool H.out.symm, (Below.refl _ _).alloc (Nat.le_refl _) _⟩

theorem side_eq (a b c : Pt) : (a.y * b.d - b.y * a.d) * c.x + (b.x * a.d - a.x * b.d) * c.y + (a.x * b.y - b.x * a.y) * c.d = detM a b c := by unfold detM; grind
set_option maxHeartbeats 400000 in
theorem Side_any (a b c : Pt) (w : World) (ha : Gd a) (hb : Gd b) (hc : Gd c) :
    Calls Tryz.prog 122 #[a.v, b.v, c.v] w fun e w' => e = .returned (.int .i64 (detM a b c)) ∧ Below w.heap.size w w' := by
  have e : wrap64 (wrap64 (wrap64 (wrap64 (wrap64 (a.y * b.d) - wrap64 (b.y * a.d)) * c.x) + wrap64 (wrap64 (wrap64 (b.x * a.d) - wrap64 (a.x * b.d)) * c.y)) + wrap64 (wrap64 (wrap64 (a.x * b.y) - wrap64 (b.x * a.y)) * c.d)) = detM a b c := by
    rw [← side_eq]
    have i1 := (ha.y.mul hb.d).sub (hb.y.mul ha.d)
    have i2 := (hb.x.mul ha.d).sub (ha.x.mul hb.d)
    have i3 := (ha.x.mul hb.y).sub (hb.x.mul ha.y)
    rw [wrap_in (ha.y.mul hb.d) (by decide), wrap_in (hb.y.mul ha.d) (by decide), wrap_in (hb.x.mul ha.d) (by decide), wrap_in (ha.x.mul hb.d) (by decide), wrap_in (ha.x.mul hb.y) (by decide), wrap_in (hb.x.mul ha.y) (by decide),
      wrap_in i1 (by decide), wrap_in i2 (by decide), wrap_in i3 (by decide), wrap_in (i1.mul hc.x) (by decide), wrap_in (i2.mul hc.y) (by decide), wrap_in (i3.mul hc.d) (by decide),
      wrap_in ((i1.mul hc.x).add (i2.mul hc.y)) (by decide), wrap_in (((i1.mul hc.x).add (i2.mul hc.y)).add (i3.mul hc.d)) (by decide)]
  have E := e
  clear e ha hb hc
  have H : Hid (wrap64 (wrap64 (wrap64 (wrap64 (wrap64 (a.y * b.d) - wrap64 (b.y * a.d)) * c.x) + wrap64 (wrap64 (wrap64 (b.x * a.d) - wrap64 (a.x * b.d)) * c.y)) + wrap64 (wrap64 (wrap64 (a.x * b.y) - wrap64 (b.x * a.y)) * c.d)) = detM a b c) := E
  clear E
  go_enter Tryz.func122, Tryz.ntmps122
  go_wp2
  go_ret
  exact ⟨ret_int H.out, (((Below.refl _ _).alloc (Nat.le_refl _) _).alloc (by simp) _).alloc (by simp; omega) _⟩

def eqP (p q : Pt) : Bool := decide (p.x = q.x ∧ p.y = q.y ∧ p.d = q.d)
theorem eqP_true {p q : Pt} (h : eqP p q = true) : p = q := by have := of_decide_eq_true h; exact Pt.ext' this.1 this.2.1 this.2.2
theorem eqP_false {p q : Pt} (h : eqP p q = false) : p ≠ q := by intro e; subst e; simp [eqP] at h
theorem eql_pt (x y d x' y' d' : Int) (w : World) : (binOp .eql 31 (.agg #[.int .i64 x, .int .i64 y, .int .i64 d]) (.agg #[.int .i64 x', .int .i64 y', .int .i64 d'])).run Tryz.prog w = .ok (.bool (eqP ⟨x, y, d⟩ ⟨x', y', d'⟩)) w := by
  by_cases h1 : x = x'
  · by_cases h2 : y = y'
    · by_cases h3 : d = d' <;> simp [go_sem, eqP, h1, h2, h3]
    · simp [go_sem, eqP, h1, h2]
  · simp [go_sem, eqP, h1]
set_option maxHeartbeats 400000 in
theorem IsEmpty_any (a b : Pt) (w : World) :
    Calls Tryz.prog 38 #[sg a b] w fun e w' => e = .returned (.bool (eqP a b)) ∧ Below w.heap.size w w' := by
  have heq := eql_pt
  go_enter Tryz.func38, Tryz.ntmps38
  go_wp2
  go_ret
  exact ⟨rfl, (Below.refl _ _).alloc (Nat.le_refl _) _⟩

set_option maxHeartbeats 400000 in
theorem Compare_any (p q : Pt) (w : World) (hp : Gd p) (hq : Gd q) :
    Calls Tryz.prog 120 #[p.v, q.v] w fun e w' => e = .returned (.int .i64 (cmpM p q)) ∧ Below w.heap.size w w' := by
  obtain ⟨l1, u1⟩ := hp.x.mul hq.d
  obtain ⟨l2, u2⟩ := hq.x.mul hp.d
  obtain ⟨l3, u3⟩ := hp.y.mul hq.d
  obtain ⟨l4, u4⟩ := hq.y.mul hp.d
  clear hp hq
  by_cases h : (p.x * q.d - q.x * p.d != 0) = true
  · go_enter Tryz.func120, Tryz.ntmps120
    go_wp2
    go_ret
    exact ⟨ret_int (by unfold cmpM; rw [if_pos (by simpa using h)]), ((Below.refl _ _).alloc (Nat.le_refl _) _).alloc (by simp) _⟩
  · have h' : (p.x * q.d - q.x * p.d != 0) = false := by simpa using h
    clear h
    go_enter Tryz.func120, Tryz.ntmps120
    go_wp2
    go_ret
    exact ⟨ret_int (by unfold cmpM; rw [if_neg (by simpa using h')]), ((Below.refl _ _).alloc (Nat.le_refl _) _).alloc (by simp) _⟩

set_option maxHeartbeats 400000 in
theorem wayFrom_any (p q : Pt) (w : World) (hp : Gd p) (hq : Gd q) :
    Calls Tryz.prog 66 #[p.v, q.v] w fun e w' => e = .returned (.agg #[.int .i64 (q.x - p.x), .int .i64 (q.y - p.y)]) ∧ Below w.heap.size w w' := by
  obtain ⟨l1, u1⟩ := hp.x
  obtain ⟨l2, u2⟩ := hq.x
  obtain ⟨l3, u3⟩ := hp.y
  obtain ⟨l4, u4⟩ := hq.y
  clear hp hq
  go_enter Tryz.func66, Tryz.ntmps66
  go_wp2
  exact bodyPost_ret (v := .agg #[.int .i64 (q.x - p.x), .int .i64 (q.y - p.y)]) (by simp [results, Tryz.results66, go_sem]) rfl ⟨rfl, (((Below.refl _ _).alloc (Nat.le_refl _) _).alloc (by simp) _).alloc (by simp; omega) _⟩

set_option maxHeartbeats 400000 in
theorem cross_any (ax ay bx by' : Int) (w : World) (h1 : In ax 4194304) (h2 : In ay 4194304) (h3 : In bx 4194304) (h4 : In by' 4194304) :
    Calls Tryz.prog 67 #[.agg #[.int .i64 ax, .int .i64 ay], .agg #[.int .i64 bx, .int .i64 by']] w fun e w' => e = .returned (.int .i64 (crossM ax ay bx by')) ∧ Below w.heap.size w w' := by
  obtain ⟨l1, u1⟩ := h1.mul h4
  obtain ⟨l2, u2⟩ := h2.mul h3
  clear h1 h2 h3 h4
  go_enter Tryz.func67, Tryz.ntmps67
  go_wp2
  go_ret
  exact ⟨rfl, ((Below.refl _ _).alloc (Nat.le_refl _) _).alloc (by simp) _⟩

end Go.Proofs.YtnkcbephceollaaGreat
