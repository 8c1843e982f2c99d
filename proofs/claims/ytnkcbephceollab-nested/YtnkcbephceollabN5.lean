import Derived.Test.YtnkcbephceollabQ40
namespace Go.Proofs.Ytnkcbephceollab
open Go.RowKit
set_option linter.unusedSimpArgs false
set_option linter.unusedVariables false

theorem OwnR.snoc {w w' : World} {base : Nat} {v V rv : Value} {R : List (List Pt)} {r : List Pt} {vs : List Value} (h : OwnR w base v R vs) (hr : w.ownsRow base 29 3 rv r.length (ptCells r)) (hap : ∀ j g, j < R.length → (vs.getD j nilV).ownBlock = some g → rv.ownBlock ≠ some g) (hrl : r.length ≤ 2000000)
    (k : Kp (fun b => v.ownBlock = some b) w w') (hrow : w'.ownsRow base 27 1 V (R.length + 1) (vs ++ [rv])) : OwnR w' base V (R ++ [r]) (vs ++ [rv]) := by
  have e1 : vs.take R.length ++ rv :: vs.drop R.length = vs ++ [rv] := by rw [← h.len, List.take_length, List.drop_length]
  have e2 : R.take R.length ++ r :: R.drop R.length = R ++ [r] := by rw [List.take_length, List.drop_length]
  have := h.ins (i := R.length) hr hap hrl (Nat.le_refl _) k (by rw [e1]; exact hrow)
  rw [e1, e2] at this; exact this
theorem tmod_nat (a b : Nat) : ((a : Int)).tmod (b : Int) = ((a % b : Nat) : Int) := by
  rw [Int.tmod_eq_emod_of_nonneg (Int.natCast_nonneg _)]; rfl
/-- Rings beside a list of rings that grows. -/
theorem OwnR.aside {w w1 : World} {base base' n2 : Nat} {v v2 : Value} {R : List (List Pt)} {vs xs2 : List Value} (h : OwnR w base v R vs) (h2 : w.ownsRow base' 27 1 v2 n2 xs2) (hne : ∀ g, v.ownBlock = some g → v2.ownBlock ≠ some g) (k : Kp (fun b => v2.ownBlock = some b) w w1) : OwnR w1 base v R vs :=
  ⟨h.len, Kp.own h.row k hne, fun j hj => Kp.own (h.each j hj) k (own_apart (h.each j hj) h2 (by decide)), h.apart, h.small⟩
theorem own_four (w : World) (base : Nat) (hb : base ≤ w.heap.size) (p q r s : Pt) : (w.alloc (.cells #[.int .i64 p.x, .int .i64 p.y, .int .i64 p.d, .int .i64 q.x, .int .i64 q.y, .int .i64 q.d, .int .i64 r.x, .int .i64 r.y, .int .i64 r.d, .int .i64 s.x, .int .i64 s.y, .int .i64 s.d] 29)).ownsRow base 29 3 (.slice (some ⟨w.heap.size, 0, none⟩) 4 4) 4 (ptCells [p, q, r, s]) :=
  ⟨rfl, .inr ⟨w.heap.size, 4, _, rfl, hb, heap_alloc_new w _, Nat.le_refl _, by decide, rfl, rfl⟩⟩
end Go.Proofs.Ytnkcbephceollab
