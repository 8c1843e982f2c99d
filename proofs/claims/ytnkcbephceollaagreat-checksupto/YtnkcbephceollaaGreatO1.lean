import Derived.Test.YtnkcbephceollaaGreatO0
import Derived.Test.YtnkcbephceollaaGreatQ43
import Derived.Deep.Slices
import Derived.ChangeArms
namespace Go.Proofs.YtnkcbephceollaaGreat
open Go.RowKit Go.ChangeShapes Go.WideShapes
set_option linter.unusedSimpArgs false
set_option linter.unusedVariables false

theorem cellsOp : Tryz.prog.cellsOf 33 = 16 := by kernel_rfl

theorem list16 {α : Type} {l : List α} (h : l.length = 16) : ∃ v0 v1 v2 v3 v4 v5 v6 v7 v8 v9 v10 v11 v12 v13 v14 v15, l = [v0, v1, v2, v3, v4, v5, v6, v7, v8, v9, v10, v11, v12, v13, v14, v15] := by
  match l, h with
  | [v0, v1, v2, v3, v4, v5, v6, v7, v8, v9, v10, v11, v12, v13, v14, v15], _ => exact ⟨v0, v1, v2, v3, v4, v5, v6, v7, v8, v9, v10, v11, v12, v13, v14, v15, rfl⟩
section
variable {H : Type} {enc : TypeId × Value → H} {w : World} {base : Nat} {spare : Nat → Bool} {held : Bool}



set_option maxRecDepth 100000 in
/-- A step of a script. -/
theorem op_of {fuel : Nat} {cs : List Value} {x : DataW H × List MemPlace} (h : DataW.trod enc Tryz.prog w base spare held fuel 33 cs = some x) :
    ∃ (kd n : Int) (A B : Value) (p q r s : Pt), cs = [.int .i64 kd, .int .i64 n, A, B, .int .i64 p.x, .int .i64 p.y, .int .i64 p.d, .int .i64 q.x, .int .i64 q.y, .int .i64 q.d, .int .i64 r.x, .int .i64 r.y, .int .i64 r.d, .int .i64 s.x, .int .i64 s.y, .int .i64 s.d]
      ∧ ∃ parts, x.1 = .agg parts ∧ (∃ f y, DataW.trod enc Tryz.prog w base spare held f 29 [A] = some y ∧ y.1 ∈ parts) ∧ (∃ f y, DataW.trod enc Tryz.prog w base spare held f 29 [B] = some y ∧ y.1 ∈ parts) := by
  obtain ⟨xs, n, _, hx, hl, hxs, hf⟩ := DataW.trod_struct Tryz.underlying33 h
  rw [cellsOp] at hl
  obtain ⟨v0, v1, v2, v3, v4, v5, v6, v7, v8, v9, v10, v11, v12, v13, v14, v15, rfl⟩ := list16 hl
  · skip
    obtain ⟨x0, e0⟩ := some_at (i := 0) hxs (by decide)
    obtain ⟨x1, e1⟩ := some_at (i := 1) hxs (by decide)
    obtain ⟨x2, e2⟩ := some_at (i := 2) hxs (by decide)
    obtain ⟨x3, e3⟩ := some_at (i := 3) hxs (by decide)
    obtain ⟨x4, e4⟩ := some_at (i := 4) hxs (by decide)
    obtain ⟨x5, e5⟩ := some_at (i := 5) hxs (by decide)
    obtain ⟨x6, e6⟩ := some_at (i := 6) hxs (by decide)
    obtain ⟨x7, e7⟩ := some_at (i := 7) hxs (by decide)
    have f0 : DataW.trod enc Tryz.prog w base spare held n 3 [v0] = some x0 := by
      have e : List.take (Tryz.prog.cellsOf 3) (List.drop 0 [v0, v1, v2, v3, v4, v5, v6, v7, v8, v9, v10, v11, v12, v13, v14, v15]) = [v0] := by rw [cellsInt]; rfl
      exact (congrArg (DataW.trod enc Tryz.prog w base spare held n 3) e).symm.trans ((hf 0 _ rfl).trans e0)
    have f1 : DataW.trod enc Tryz.prog w base spare held n 3 [v1] = some x1 := by
      have e : List.take (Tryz.prog.cellsOf 3) (List.drop 1 [v0, v1, v2, v3, v4, v5, v6, v7, v8, v9, v10, v11, v12, v13, v14, v15]) = [v1] := by rw [cellsInt]; rfl
      exact (congrArg (DataW.trod enc Tryz.prog w base spare held n 3) e).symm.trans ((hf 1 _ rfl).trans e1)
    have f2 : DataW.trod enc Tryz.prog w base spare held n 29 [v2] = some x2 := by
      have e : List.take (Tryz.prog.cellsOf 29) (List.drop 2 [v0, v1, v2, v3, v4, v5, v6, v7, v8, v9, v10, v11, v12, v13, v14, v15]) = [v2] := by rw [cellsRings]; rfl
      exact (congrArg (DataW.trod enc Tryz.prog w base spare held n 29) e).symm.trans ((hf 2 _ rfl).trans e2)
    have f3 : DataW.trod enc Tryz.prog w base spare held n 29 [v3] = some x3 := by
      have e : List.take (Tryz.prog.cellsOf 29) (List.drop 3 [v0, v1, v2, v3, v4, v5, v6, v7, v8, v9, v10, v11, v12, v13, v14, v15]) = [v3] := by rw [cellsRings]; rfl
      exact (congrArg (DataW.trod enc Tryz.prog w base spare held n 29) e).symm.trans ((hf 3 _ rfl).trans e3)
    have f4 : DataW.trod enc Tryz.prog w base spare held n 31 [v4, v5, v6] = some x4 := by
      have e : List.take (Tryz.prog.cellsOf 31) (List.drop 4 [v0, v1, v2, v3, v4, v5, v6, v7, v8, v9, v10, v11, v12, v13, v14, v15]) = [v4, v5, v6] := by rw [cellsPoint]; rfl
      exact (congrArg (DataW.trod enc Tryz.prog w base spare held n 31) e).symm.trans ((hf 4 _ rfl).trans e4)
    have f5 : DataW.trod enc Tryz.prog w base spare held n 31 [v7, v8, v9] = some x5 := by
      have e : List.take (Tryz.prog.cellsOf 31) (List.drop 7 [v0, v1, v2, v3, v4, v5, v6, v7, v8, v9, v10, v11, v12, v13, v14, v15]) = [v7, v8, v9] := by rw [cellsPoint]; rfl
      exact (congrArg (DataW.trod enc Tryz.prog w base spare held n 31) e).symm.trans ((hf 5 _ rfl).trans e5)
    have f6 : DataW.trod enc Tryz.prog w base spare held n 31 [v10, v11, v12] = some x6 := by
      have e : List.take (Tryz.prog.cellsOf 31) (List.drop 10 [v0, v1, v2, v3, v4, v5, v6, v7, v8, v9, v10, v11, v12, v13, v14, v15]) = [v10, v11, v12] := by rw [cellsPoint]; rfl
      exact (congrArg (DataW.trod enc Tryz.prog w base spare held n 31) e).symm.trans ((hf 6 _ rfl).trans e6)
    have f7 : DataW.trod enc Tryz.prog w base spare held n 31 [v13, v14, v15] = some x7 := by
      have e : List.take (Tryz.prog.cellsOf 31) (List.drop 13 [v0, v1, v2, v3, v4, v5, v6, v7, v8, v9, v10, v11, v12, v13, v14, v15]) = [v13, v14, v15] := by rw [cellsPoint]; rfl
      exact (congrArg (DataW.trod enc Tryz.prog w base spare held n 31) e).symm.trans ((hf 7 _ rfl).trans e7)
    obtain ⟨kd, h0, _, _⟩ := DataW.trod_int Tryz.underlying3 f0
    obtain ⟨m, h1, _, _⟩ := DataW.trod_int Tryz.underlying3 f1
    obtain ⟨p, h4, _⟩ := point_of f4
    obtain ⟨q, h5, _⟩ := point_of f5
    obtain ⟨r, h6, _⟩ := point_of f6
    obtain ⟨s, h7, _⟩ := point_of f7
    simp at h0 h1 h4 h5 h6 h7
    obtain ⟨rfl, rfl, rfl⟩ := h4
    obtain ⟨rfl, rfl, rfl⟩ := h5
    obtain ⟨rfl, rfl, rfl⟩ := h6
    obtain ⟨rfl, rfl, rfl⟩ := h7
    subst h0 h1
    exact ⟨kd, m, v2, v3, p, q, r, s, rfl, xs.map (·.1), by rw [hx], ⟨_, _, f2, List.mem_map.2 ⟨x2, List.mem_of_getElem? e2, rfl⟩⟩, ⟨_, _, f3, List.mem_map.2 ⟨x3, List.mem_of_getElem? e3, rfl⟩⟩⟩


set_option maxRecDepth 100000 in
theorem ops_of {fuel : Nat} {a0 : Option Addr} {len0 cap0 : Nat} {x : DataW H × List MemPlace} (h : DataW.trod enc Tryz.prog w base spare held fuel 22 [.slice a0 len0 cap0] = some x) :
    OpsAt w a0 len0 ∧ len0 ≤ 9223372036854775807 := by
  rcases Deep.open_slice Tryz.underlying22 h with ⟨hcs, _⟩ | ⟨a, len, cap, m, n, D, Pl, hcs, hb, hl, hm, hmm, _, hel⟩
  · simp at hcs
    obtain ⟨_, rfl, _⟩ := hcs
    exact ⟨fun k hk => absurd hk (Nat.not_lt_zero _), by omega⟩
  · simp at hcs
    obtain ⟨rfl, rfl, rfl⟩ := hcs
    have hml : len0 ≤ m := by rw [hmm]; split <;> omega
    refine ⟨fun k hk => ?_, by unfold maxLen at hm; omega⟩
    have hspot : ∃ b off, a = ⟨b, off, none⟩ := by
      obtain ⟨cs', h1, _⟩ := hel 0 (by omega)
      obtain ⟨_, h3, h4⟩ := World.cells?_some h1
      rw [cellsOp] at h3 h4
      have h5 := h4 0 (by decide)
      obtain ⟨v, hv⟩ := some_at (i := 0) h3 (by decide)
      rw [hv] at h5
      have h6 := World.cell?_spot h5
      obtain ⟨b, off, sp⟩ := a
      simp [Addr.add] at h6
      subst h6
      exact ⟨b, off, rfl⟩
    obtain ⟨b, off, ha⟩ := hspot
    obtain ⟨cs', h1, h2⟩ := hel k (by omega)
    obtain ⟨h3, _, h4⟩ := World.cells?_some h1
    rw [cellsOp] at h4
    obtain ⟨kd, n', A, B, p, q, r, s, rfl, _⟩ := op_of h2
    have hc := fun j hj => (congrArg w.cell? (cell_off ha (k * 16) j)).symm.trans (h4 j hj)
    refine ⟨b, off, kd, n', A, B, p, q, r, s, by rw [ha], World.block_lt_of_cell? w ⟨b, off + k * 16, none⟩ (hc 0 (by decide)), ?_⟩
    exact ⟨hc 0 (by decide), hc 1 (by decide), hc 2 (by decide), hc 3 (by decide), hc 4 (by decide), hc 5 (by decide), hc 6 (by decide), hc 7 (by decide), hc 8 (by decide), hc 9 (by decide), hc 10 (by decide), hc 11 (by decide), hc 12 (by decide), hc 13 (by decide), hc 14 (by decide), hc 15 (by decide)⟩
end
end Go.Proofs.YtnkcbephceollaaGreat
