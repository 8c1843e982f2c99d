import Derived.Test.YtnkcbephceollaaGreatO0
import Derived.Test.YtnkcbephceollaaGreatQ36
import Derived.Deep.Slices
import Derived.ChangeArms
import Derived.Test.YtnkcbephceollaaGreatRows
import Derived.Test.YtnkcbephceollaaGreatQ14
namespace Go.Proofs.YtnkcbephceollaaGreat
open Go.RowKit Go.ChangeShapes Go.WideShapes
set_option linter.unusedSimpArgs false
set_option linter.unusedVariables false

theorem cellsOp : Tryz.prog.cellsOf 33 = 16 := by kernel_rfl

theorem list16 {α : Type} {l : List α} (h : l.length = 16) : ∃ v0 v1 v2 v3 v4 v5 v6 v7 v8 v9 v10 v11 v12 v13 v14 v15, l = [v0, v1, v2, v3, v4, v5, v6, v7, v8, v9, v10, v11, v12, v13, v14, v15] := by
  match l, h with
  | [v0, v1, v2, v3, v4, v5, v6, v7, v8, v9, v10, v11, v12, v13, v14, v15], _ => exact ⟨v0, v1, v2, v3, v4, v5, v6, v7, v8, v9, v10, v11, v12, v13, v14, v15, rfl⟩
section
variable {H : Type} {enc : TypeId × Value → H} {w : World} {base : Nat} {spare : Nat → Bool} {held : Bool}



set_option maxRecDepth 100000 in
/-- A step of a script. -/
theorem op_of {fuel : Nat} {cs : List Value} {x : DataW H × List MemPlace} (h : DataW.trod enc Tryz.prog w base spare held fuel 33 cs = some x) :
    ∃ (kd n : Int) (A B : Value) (p q r s : Pt), cs = [.int .i64 kd, .int .i64 n, A, B, .int .i64 p.x, .int .i64 p.y, .int .i64 p.d, .int .i64 q.x, .int .i64 q.y, .int .i64 q.d, .int .i64 r.x, .int .i64 r.y, .int .i64 r.d, .int .i64 s.x, .int .i64 s.y, .int .i64 s.d]
      ∧ ∃ parts, x.1 = .agg parts ∧ (∃ f y, DataW.trod enc Tryz.prog w base spare held f 29 [A] = some y ∧ y.1 ∈ parts) ∧ (∃ f y, DataW.trod enc Tryz.prog w base spare held f 29 [B] = some y ∧ y.1 ∈ parts) := by
  obtain ⟨xs, n, _, hx, hl, hxs, hf⟩ := DataW.trod_struct Tryz.underlying33 h
  rw [cellsOp] at hl
  obtain ⟨v0, v1, v2, v3, v4, v5, v6, v7, v8, v9, v10, v11, v12, v13, v14, v15, rfl⟩ := list16 hl
  · skip
    obtain ⟨x0, e0⟩ := some_at (i := 0) hxs (by decide)
    obtain ⟨x1, e1⟩ := some_at (i := 1) hxs (by decide)
    obtain ⟨x2, e2⟩ := some_at (i := 2) hxs (by decide)
    obtain ⟨x3, e3⟩ := some_at (i := 3) hxs (by decide)
    obtain ⟨x4, e4⟩ := some_at (i := 4) hxs (by decide)
    obtain ⟨x5, e5⟩ := some_at (i := 5) hxs (by decide)
    obtain ⟨x6, e6⟩ := some_at (i := 6) hxs (by decide)
    obtain ⟨x7, e7⟩ := some_at (i := 7) hxs (by decide)
    have f0 : DataW.trod enc Tryz.prog w base spare held n 3 [v0] = some x0 := by
      have e : List.take (Tryz.prog.cellsOf 3) (List.drop 0 [v0, v1, v2, v3, v4, v5, v6, v7, v8, v9, v10, v11, v12, v13, v14, v15]) = [v0] := by rw [cellsInt]; rfl
      exact (congrArg (DataW.trod enc Tryz.prog w base spare held n 3) e).symm.trans ((hf 0 _ rfl).trans e0)
    have f1 : DataW.trod enc Tryz.prog w base spare held n 3 [v1] = some x1 := by
      have e : List.take (Tryz.prog.cellsOf 3) (List.drop 1 [v0, v1, v2, v3, v4, v5, v6, v7, v8, v9, v10, v11, v12, v13, v14, v15]) = [v1] := by rw [cellsInt]; rfl
      exact (congrArg (DataW.trod enc Tryz.prog w base spare held n 3) e).symm.trans ((hf 1 _ rfl).trans e1)
    have f2 : DataW.trod enc Tryz.prog w base spare held n 29 [v2] = some x2 := by
      have e : List.take (Tryz.prog.cellsOf 29) (List.drop 2 [v0, v1, v2, v3, v4, v5, v6, v7, v8, v9, v10, v11, v12, v13, v14, v15]) = [v2] := by rw [cellsRings]; rfl
      exact (congrArg (DataW.trod enc Tryz.prog w base spare held n 29) e).symm.trans ((hf 2 _ rfl).trans e2)
    have f3 : DataW.trod enc Tryz.prog w base spare held n 29 [v3] = some x3 := by
      have e : List.take (Tryz.prog.cellsOf 29) (List.drop 3 [v0, v1, v2, v3, v4, v5, v6, v7, v8, v9, v10, v11, v12, v13, v14, v15]) = [v3] := by rw [cellsRings]; rfl
      exact (congrArg (DataW.trod enc Tryz.prog w base spare held n 29) e).symm.trans ((hf 3 _ rfl).trans e3)
    have f4 : DataW.trod enc Tryz.prog w base spare held n 31 [v4, v5, v6] = some x4 := by
      have e : List.take (Tryz.prog.cellsOf 31) (List.drop 4 [v0, v1, v2, v3, v4, v5, v6, v7, v8, v9, v10, v11, v12, v13, v14, v15]) = [v4, v5, v6] := by rw [cellsPoint]; rfl
      exact (congrArg (DataW.trod enc Tryz.prog w base spare held n 31) e).symm.trans ((hf 4 _ rfl).trans e4)
    have f5 : DataW.trod enc Tryz.prog w base spare held n 31 [v7, v8, v9] = some x5 := by
      have e : List.take (Tryz.prog.cellsOf 31) (List.drop 7 [v0, v1, v2, v3, v4, v5, v6, v7, v8, v9, v10, v11, v12, v13, v14, v15]) = [v7, v8, v9] := by rw [cellsPoint]; rfl
      exact (congrArg (DataW.trod enc Tryz.prog w base spare held n 31) e).symm.trans ((hf 5 _ rfl).trans e5)
    have f6 : DataW.trod enc Tryz.prog w base spare held n 31 [v10, v11, v12] = some x6 := by
      have e : List.take (Tryz.prog.cellsOf 31) (List.drop 10 [v0, v1, v2, v3, v4, v5, v6, v7, v8, v9, v10, v11, v12, v13, v14, v15]) = [v10, v11, v12] := by rw [cellsPoint]; rfl
      exact (congrArg (DataW.trod enc Tryz.prog w base spare held n 31) e).symm.trans ((hf 6 _ rfl).trans e6)
    have f7 : DataW.trod enc Tryz.prog w base spare held n 31 [v13, v14, v15] = some x7 := by
      have e : List.take (Tryz.prog.cellsOf 31) (List.drop 13 [v0, v1, v2, v3, v4, v5, v6, v7, v8, v9, v10, v11, v12, v13, v14, v15]) = [v13, v14, v15] := by rw [cellsPoint]; rfl
      exact (congrArg (DataW.trod enc Tryz.prog w base spare held n 31) e).symm.trans ((hf 7 _ rfl).trans e7)
    obtain ⟨kd, h0, _, _⟩ := DataW.trod_int Tryz.underlying3 f0
    obtain ⟨m, h1, _, _⟩ := DataW.trod_int Tryz.underlying3 f1
    obtain ⟨p, h4, _⟩ := point_of f4
    obtain ⟨q, h5, _⟩ := point_of f5
    obtain ⟨r, h6, _⟩ := point_of f6
    obtain ⟨s, h7, _⟩ := point_of f7
    simp at h0 h1 h4 h5 h6 h7
    obtain ⟨rfl, rfl, rfl⟩ := h4
    obtain ⟨rfl, rfl, rfl⟩ := h5
    obtain ⟨rfl, rfl, rfl⟩ := h6
    obtain ⟨rfl, rfl, rfl⟩ := h7
    subst h0 h1
    exact ⟨kd, m, v2, v3, p, q, r, s, rfl, xs.map (·.1), by rw [hx], ⟨_, _, f2, List.mem_map.2 ⟨x2, List.mem_of_getElem? e2, rfl⟩⟩, ⟨_, _, f3, List.mem_map.2 ⟨x3, List.mem_of_getElem? e3, rfl⟩⟩⟩


set_option maxRecDepth 100000 in
theorem ops_of {fuel : Nat} {a0 : Option Addr} {len0 cap0 : Nat} {x : DataW H × List MemPlace} (h : DataW.trod enc Tryz.prog w base spare held fuel 22 [.slice a0 len0 cap0] = some x) :
    OpsAt w a0 len0 ∧ len0 ≤ 9223372036854775807 := by
  rcases Deep.open_slice Tryz.underlying22 h with ⟨hcs, _⟩ | ⟨a, len, cap, m, n, D, Pl, hcs, hb, hl, hm, hmm, _, hel⟩
  · simp at hcs
    obtain ⟨_, rfl, _⟩ := hcs
    exact ⟨fun k hk => absurd hk (Nat.not_lt_zero _), by omega⟩
  · simp at hcs
    obtain ⟨rfl, rfl, rfl⟩ := hcs
    have hml : len0 ≤ m := by rw [hmm]; split <;> omega
    refine ⟨fun k hk => ?_, by unfold maxLen at hm; omega⟩
    have hspot : ∃ b off, a = ⟨b, off, none⟩ := by
      obtain ⟨cs', h1, _⟩ := hel 0 (by omega)
      obtain ⟨_, h3, h4⟩ := World.cells?_some h1
      rw [cellsOp] at h3 h4
      have h5 := h4 0 (by decide)
      obtain ⟨v, hv⟩ := some_at (i := 0) h3 (by decide)
      rw [hv] at h5
      have h6 := World.cell?_spot h5
      obtain ⟨b, off, sp⟩ := a
      simp [Addr.add] at h6
      subst h6
      exact ⟨b, off, rfl⟩
    obtain ⟨b, off, ha⟩ := hspot
    obtain ⟨cs', h1, h2⟩ := hel k (by omega)
    obtain ⟨h3, _, h4⟩ := World.cells?_some h1
    rw [cellsOp] at h4
    obtain ⟨kd, n', A, B, p, q, r, s, rfl, _⟩ := op_of h2
    have hc := fun j hj => (congrArg w.cell? (cell_off ha (k * 16) j)).symm.trans (h4 j hj)
    refine ⟨b, off, kd, n', A, B, p, q, r, s, by rw [ha], World.block_lt_of_cell? w ⟨b, off + k * 16, none⟩ (hc 0 (by decide)), ?_⟩
    exact ⟨hc 0 (by decide), hc 1 (by decide), hc 2 (by decide), hc 3 (by decide), hc 4 (by decide), hc 5 (by decide), hc 6 (by decide), hc 7 (by decide), hc 8 (by decide), hc 9 (by decide), hc 10 (by decide), hc 11 (by decide), hc 12 (by decide), hc 13 (by decide), hc 14 (by decide), hc 15 (by decide)⟩
end
end Go.Proofs.YtnkcbephceollaaGreat
namespace Go.Proofs.YtnkcbephceollaaGreat
open Go.RowKit Go.ChangeShapes Go.WideShapes
set_option linter.unusedSimpArgs false
set_option linter.unusedVariables false


/-- How many lists a script hands in, up to step k. -/
def sumTo (N : Nat → List (List Pt)) : Nat → Nat
  | 0 => 0
  | k + 1 => sumTo N k + (1 + (N k).length)
theorem sumTo_mono (N : Nat → List (List Pt)) {j k : Nat} (h : j ≤ k) : sumTo N j ≤ sumTo N k := by
  induction k with
  | zero => have : j = 0 := by omega
            subst this; exact Nat.le_refl _
  | succ k ih =>
    by_cases e : j = k + 1
    · subst e; exact Nat.le_refl _
    · have := ih (by omega)
      simp only [sumTo]; omega

section
variable {H : Type} {enc : TypeId × Value → H} {w : World} {base : Nat} {spare : Nat → Bool} {held : Bool}



/-- A script with its polygons: the first polygon of step k reads as N k, the second as M k. -/
def PolysAt (w : World) (a : Option Addr) (len : Nat) (N M : Nat → List (List Pt)) : Prop :=
  ∀ k, k < len → ∃ (b off : Nat) (kd n : Int) (A B : Value) (p q r s : Pt), a = some ⟨b, off, none⟩ ∧ b < w.heap.size ∧ OpAt w b (off + k * 16) kd n A B p q r s ∧ PolyAt w A (N k) ∧ PolyAt w B (M k)
/-- No ring of it is longer than this. -/
def Short (N : List (List Pt)) : Prop := ∀ i, i < N.length → (N.getD i []).length ≤ 1048576

set_option maxRecDepth 100000 in
theorem polys_of {fuel : Nat} {a0 : Option Addr} {len0 cap0 : Nat} {x : DataW H × List MemPlace} (h : DataW.trod enc Tryz.prog w base spare held fuel 22 [.slice a0 len0 cap0] = some x) (hs : Rows.uptoBulk x.1 ≤ 1048576) :
    len0 ≤ 9223372036854775807 ∧ ∃ N M, PolysAt w a0 len0 N M ∧ sumTo N len0 ≤ 1048576 ∧ sumTo M len0 ≤ 1048576 ∧ ∀ k, k < len0 → Short (N k) ∧ Short (M k) := by
  rcases Deep.open_slice Tryz.underlying22 h with ⟨hcs, _⟩ | ⟨a, len, cap, m, n, D, Pl, hcs, hb, hl, hm, hmm, hx, hel⟩
  · simp at hcs
    obtain ⟨_, rfl, _⟩ := hcs
    exact ⟨by omega, fun _ => [], fun _ => [], fun k hk => absurd hk (Nat.not_lt_zero _), by simp [sumTo], by simp [sumTo], fun k hk => absurd hk (Nat.not_lt_zero _)⟩
  · simp at hcs
    obtain ⟨rfl, rfl, rfl⟩ := hcs
    have hml : len0 ≤ m := by rw [hmm]; split <;> omega
    have hbulk : Rows.uptoBulk x.1 = Rows.uptoBulkAll ((List.range len0).map D) + Rows.uptoBulkAll ((List.range (m - len0)).map fun j => D (len0 + j)) + 1 := by
      rw [hx]; simp only [Rows.uptoBulk]
    have hone : ∀ k, k < len0 → Rows.uptoBulk (D k) ≤ 1048576 := fun k hk => by
      have h2 := bulk_mem (d := D k) (l := (List.range len0).map D) (List.mem_map.2 ⟨k, List.mem_range.2 hk, rfl⟩)
      omega
    have hspot : 0 < len0 → ∃ b off, a = ⟨b, off, none⟩ := fun h0 => by
      obtain ⟨cs', h1, h2⟩ := hel 0 (by omega)
      obtain ⟨_, _, h4⟩ := World.cells?_some h1
      rw [cellsOp] at h4
      obtain ⟨_, _, _, _, _, _, _, _, rfl, _⟩ := op_of h2
      have h5 := h4 0 (by decide)
      rw [Nat.zero_mul, add_zero, add_zero] at h5
      exact spot_of h5
    have hp : ∀ k, ∃ NM : List (List Pt) × List (List Pt), k < len0 → (∃ (b off : Nat) (kd n : Int) (A B : Value) (p q r s : Pt), some a = some ⟨b, off, none⟩ ∧ b < w.heap.size ∧ OpAt w b (off + k * 16) kd n A B p q r s ∧ PolyAt w A NM.1 ∧ PolyAt w B NM.2) ∧
        1 + NM.1.length ≤ Rows.uptoBulk (D k) ∧ 1 + NM.2.length ≤ Rows.uptoBulk (D k) ∧ (∀ i, i < NM.1.length → (NM.1.getD i []).length ≤ Rows.uptoBulk (D k)) ∧ (∀ i, i < NM.2.length → (NM.2.getD i []).length ≤ Rows.uptoBulk (D k)) := by
      intro k
      by_cases hk : k < len0
      · obtain ⟨cs', h1, h2⟩ := hel k (by omega)
        obtain ⟨_, _, h4⟩ := World.cells?_some h1
        rw [cellsOp] at h4
        obtain ⟨kd, n', A, B, p, q, r, s, rfl, parts, hparts, ⟨fA, yA, tA, mA⟩, ⟨fB, yB, tB, mB⟩⟩ := op_of h2
        have hparts' : D k = .agg parts := hparts
        obtain ⟨b, off, rfl⟩ := hspot (by omega)
        have hc := fun j hj => (congrArg w.cell? (cell_off (a := ⟨b, off, none⟩) rfl (k * 16) j)).symm.trans (h4 j hj)
        obtain ⟨PA, pA, lA, rA⟩ := poly_of tA
        obtain ⟨PB, pB, lB, rB⟩ := poly_of tB
        have bA := bulk_mem mA
        have bB := bulk_mem mB
        have hD : Rows.uptoBulk (D k) = Rows.uptoBulkAll parts + 1 := by rw [hparts']; simp only [Rows.uptoBulk]
        refine ⟨(PA, PB), fun _ => ⟨⟨b, off, kd, n', A, B, p, q, r, s, rfl, World.block_lt_of_cell? w ⟨b, off + k * 16, none⟩ (hc 0 (by decide)), ?_, pA, pB⟩, by simp only; omega, by simp only; omega, fun i hi => by have := rA i hi; simp only; omega, fun i hi => by have := rB i hi; simp only; omega⟩⟩
        exact ⟨hc 0 (by decide), hc 1 (by decide), hc 2 (by decide), hc 3 (by decide), hc 4 (by decide), hc 5 (by decide), hc 6 (by decide), hc 7 (by decide), hc 8 (by decide), hc 9 (by decide), hc 10 (by decide), hc 11 (by decide), hc 12 (by decide), hc 13 (by decide), hc 14 (by decide), hc 15 (by decide)⟩
      · exact ⟨([], []), fun h => absurd h hk⟩
    obtain ⟨f, hf⟩ := Classical.axiomOfChoice hp
    have sumN : ∀ k, k ≤ len0 → sumTo (fun j => (f j).1) k ≤ Rows.uptoBulkAll ((List.range k).map D) := by
      intro k
      induction k with
      | zero => intro _; simp [sumTo]
      | succ k ih =>
        intro hk
        have h1 := ih (by omega)
        have h2 := (hf k (by omega)).2.1
        rw [List.range_succ, List.map_append, bulk_app]
        simp only [sumTo, List.map_cons, List.map_nil, Rows.uptoBulkAll]
        omega
    have sumM : ∀ k, k ≤ len0 → sumTo (fun j => (f j).2) k ≤ Rows.uptoBulkAll ((List.range k).map D) := by
      intro k
      induction k with
      | zero => intro _; simp [sumTo]
      | succ k ih =>
        intro hk
        have h1 := ih (by omega)
        have h2 := (hf k (by omega)).2.2.1
        rw [List.range_succ, List.map_append, bulk_app]
        simp only [sumTo, List.map_cons, List.map_nil, Rows.uptoBulkAll]
        omega
    refine ⟨by unfold maxLen at hm; omega, fun j => (f j).1, fun j => (f j).2, fun k hk => (hf k hk).1, by have := sumN len0 (Nat.le_refl _); omega, by have := sumM len0 (Nat.le_refl _); omega, fun k hk => ⟨fun i hi => ?_, fun i hi => ?_⟩⟩
    · exact Nat.le_trans ((hf k hk).2.2.2.1 i hi) (hone k hk)
    · exact Nat.le_trans ((hf k hk).2.2.2.2 i hi) (hone k hk)
end
end Go.Proofs.YtnkcbephceollaaGreat
