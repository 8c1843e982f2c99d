import Derived.Test.YtnkcbephceollaaGreatO0
import Derived.Test.YtnkcbephceollaaGreatRows
import Derived.Test.YtnkcbephceollaaGreatO1
import Derived.Test.YtnkcbephceollaaGreatQ18
namespace Go.Proofs.YtnkcbephceollaaGreat
open Go.RowKit Go.ChangeShapes Go.WideShapes
set_option linter.unusedSimpArgs false
set_option linter.unusedVariables false


/-- How many lists a script hands in, up to step k. -/
def sumTo (N : Nat → List (List Pt)) : Nat → Nat
  | 0 => 0
  | k + 1 => sumTo N k + (1 + (N k).length)
theorem sumTo_mono (N : Nat → List (List Pt)) {j k : Nat} (h : j ≤ k) : sumTo N j ≤ sumTo N k := by
  induction k with
  | zero => have : j = 0 := by omega
            subst this; exact Nat.le_refl _
  | succ k ih =>
    by_cases e : j = k + 1
    · subst e; exact Nat.le_refl _
    · have := ih (by omega)
      simp only [sumTo]; omega

section
variable {H : Type} {enc : TypeId × Value → H} {w : World} {base : Nat} {spare : Nat → Bool} {held : Bool}



/-- A script with its polygons: the first polygon of step k reads as N k, the second as M k. -/
def PolysAt (w : World) (a : Option Addr) (len : Nat) (N M : Nat → List (List Pt)) : Prop :=
  ∀ k, k < len → ∃ (b off : Nat) (kd n : Int) (A B : Value) (p q r s : Pt), a = some ⟨b, off, none⟩ ∧ b < w.heap.size ∧ OpAt w b (off + k * 16) kd n A B p q r s ∧ PolyAt w A (N k) ∧ PolyAt w B (M k)
/-- No ring of it is longer than this. -/
def Short (N : List (List Pt)) : Prop := ∀ i, i < N.length → (N.getD i []).length ≤ 1048576

set_option maxRecDepth 100000 in
theorem polys_of {fuel : Nat} {a0 : Option Addr} {len0 cap0 : Nat} {x : DataW H × List MemPlace} (h : DataW.trod enc Tryz.prog w base spare held fuel 22 [.slice a0 len0 cap0] = some x) (hs : Rows.uptoBulk x.1 ≤ 1048576) :
    len0 ≤ 9223372036854775807 ∧ ∃ N M, PolysAt w a0 len0 N M ∧ sumTo N len0 ≤ 1048576 ∧ sumTo M len0 ≤ 1048576 ∧ ∀ k, k < len0 → Short (N k) ∧ Short (M k) := by
  rcases Deep.open_slice Tryz.underlying22 h with ⟨hcs, _⟩ | ⟨a, len, cap, m, n, D, Pl, hcs, hb, hl, hm, hmm, hx, hel⟩
  · simp at hcs
    obtain ⟨_, rfl, _⟩ := hcs
    exact ⟨by omega, fun _ => [], fun _ => [], fun k hk => absurd hk (Nat.not_lt_zero _), by simp [sumTo], by simp [sumTo], fun k hk => absurd hk (Nat.not_lt_zero _)⟩
  · simp at hcs
    obtain ⟨rfl, rfl, rfl⟩ := hcs
    have hml : len0 ≤ m := by rw [hmm]; split <;> omega
    have hbulk : Rows.uptoBulk x.1 = Rows.uptoBulkAll ((List.range len0).map D) + Rows.uptoBulkAll ((List.range (m - len0)).map fun j => D (len0 + j)) + 1 := by
      rw [hx]; simp only [Rows.uptoBulk]
    have hone : ∀ k, k < len0 → Rows.uptoBulk (D k) ≤ 1048576 := fun k hk => by
      have h2 := bulk_mem (d := D k) (l := (List.range len0).map D) (List.mem_map.2 ⟨k, List.mem_range.2 hk, rfl⟩)
      omega
    have hspot : 0 < len0 → ∃ b off, a = ⟨b, off, none⟩ := fun h0 => by
      obtain ⟨cs', h1, h2⟩ := hel 0 (by omega)
      obtain ⟨_, _, h4⟩ := World.cells?_some h1
      rw [cellsOp] at h4
      obtain ⟨_, _, _, _, _, _, _, _, rfl, _⟩ := op_of h2
      have h5 := h4 0 (by decide)
      rw [Nat.zero_mul, add_zero, add_zero] at h5
      exact spot_of h5
    have hp : ∀ k, ∃ NM : List (List Pt) × List (List Pt), k < len0 → (∃ (b off : Nat) (kd n : Int) (A B : Value) (p q r s : Pt), some a = some ⟨b, off, none⟩ ∧ b < w.heap.size ∧ OpAt w b (off + k * 16) kd n A B p q r s ∧ PolyAt w A NM.1 ∧ PolyAt w B NM.2) ∧
        1 + NM.1.length ≤ Rows.uptoBulk (D k) ∧ 1 + NM.2.length ≤ Rows.uptoBulk (D k) ∧ (∀ i, i < NM.1.length → (NM.1.getD i []).length ≤ Rows.uptoBulk (D k)) ∧ (∀ i, i < NM.2.length → (NM.2.getD i []).length ≤ Rows.uptoBulk (D k)) := by
      intro k
      by_cases hk : k < len0
      · obtain ⟨cs', h1, h2⟩ := hel k (by omega)
        obtain ⟨_, _, h4⟩ := World.cells?_some h1
        rw [cellsOp] at h4
        obtain ⟨kd, n', A, B, p, q, r, s, rfl, parts, hparts, ⟨fA, yA, tA, mA⟩, ⟨fB, yB, tB, mB⟩⟩ := op_of h2
        have hparts' : D k = .agg parts := hparts
        obtain ⟨b, off, rfl⟩ := hspot (by omega)
        have hc := fun j hj => (congrArg w.cell? (cell_off (a := ⟨b, off, none⟩) rfl (k * 16) j)).symm.trans (h4 j hj)
        obtain ⟨PA, pA, lA, rA⟩ := poly_of tA
        obtain ⟨PB, pB, lB, rB⟩ := poly_of tB
        have bA := bulk_mem mA
        have bB := bulk_mem mB
        have hD : Rows.uptoBulk (D k) = Rows.uptoBulkAll parts + 1 := by rw [hparts']; simp only [Rows.uptoBulk]
        refine ⟨(PA, PB), fun _ => ⟨⟨b, off, kd, n', A, B, p, q, r, s, rfl, World.block_lt_of_cell? w ⟨b, off + k * 16, none⟩ (hc 0 (by decide)), ?_, pA, pB⟩, by simp only; omega, by simp only; omega, fun i hi => by have := rA i hi; simp only; omega, fun i hi => by have := rB i hi; simp only; omega⟩⟩
        exact ⟨hc 0 (by decide), hc 1 (by decide), hc 2 (by decide), hc 3 (by decide), hc 4 (by decide), hc 5 (by decide), hc 6 (by decide), hc 7 (by decide), hc 8 (by decide), hc 9 (by decide), hc 10 (by decide), hc 11 (by decide), hc 12 (by decide), hc 13 (by decide), hc 14 (by decide), hc 15 (by decide)⟩
      · exact ⟨([], []), fun h => absurd h hk⟩
    obtain ⟨f, hf⟩ := Classical.axiomOfChoice hp
    have sumN : ∀ k, k ≤ len0 → sumTo (fun j => (f j).1) k ≤ Rows.uptoBulkAll ((List.range k).map D) := by
      intro k
      induction k with
      | zero => intro _; simp [sumTo]
      | succ k ih =>
        intro hk
        have h1 := ih (by omega)
        have h2 := (hf k (by omega)).2.1
        rw [List.range_succ, List.map_append, bulk_app]
        simp only [sumTo, List.map_cons, List.map_nil, Rows.uptoBulkAll]
        omega
    have sumM : ∀ k, k ≤ len0 → sumTo (fun j => (f j).2) k ≤ Rows.uptoBulkAll ((List.range k).map D) := by
      intro k
      induction k with
      | zero => intro _; simp [sumTo]
      | succ k ih =>
        intro hk
        have h1 := ih (by omega)
        have h2 := (hf k (by omega)).2.2.1
        rw [List.range_succ, List.map_append, bulk_app]
        simp only [sumTo, List.map_cons, List.map_nil, Rows.uptoBulkAll]
        omega
    refine ⟨by unfold maxLen at hm; omega, fun j => (f j).1, fun j => (f j).2, fun k hk => (hf k hk).1, by have := sumN len0 (Nat.le_refl _); omega, by have := sumM len0 (Nat.le_refl _); omega, fun k hk => ⟨fun i hi => ?_, fun i hi => ?_⟩⟩
    · exact Nat.le_trans ((hf k hk).2.2.2.1 i hi) (hone k hk)
    · exact Nat.le_trans ((hf k hk).2.2.2.2 i hi) (hone k hk)
end
end Go.Proofs.YtnkcbephceollaaGreat
