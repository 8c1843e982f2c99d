import Derived.Test.YtnkcbephceollaaGreatQ1
import Derived.Test.YtnkcbephceollaaGreatQ4
namespace Go.Proofs.YtnkcbephceollaaGreat
open Go.RowKit
set_option linter.unusedSimpArgs false
set_option linter.unusedVariables false

/-- A point's three cells. -/
structure PtAt (w : World) (b o : Nat) (p : Pt) : Prop where
  x : w.cell? ⟨b, o, none⟩ = some (.int .i64 p.x)
  y : w.cell? ⟨b, o + 1, none⟩ = some (.int .i64 p.y)
  d : w.cell? ⟨b, o + 2, none⟩ = some (.int .i64 p.d)
theorem PtAt.later {w w' : World} {b o : Nat} {p : Pt} {m : Nat} (h : PtAt w b o p) (hb : Below m w w') (hl : b < m) : PtAt w' b o p :=
  ⟨(hb.cell (p := ⟨b, o, none⟩) hl).trans h.x, (hb.cell (p := ⟨b, o + 1, none⟩) hl).trans h.y, (hb.cell (p := ⟨b, o + 2, none⟩) hl).trans h.d⟩
/-- A slice of points. -/
def RingAt (w : World) (v : Value) (r : List Pt) : Prop :=
  ∃ (a : Option Addr) (cap : Nat), v = .slice a r.length cap ∧ r.length ≤ cap ∧ cap ≤ maxLen ∧ ∀ j, j < r.length → ∃ b off, a = some ⟨b, off, none⟩ ∧ b < w.heap.size ∧ PtAt w b (off + j * 3) (r.getD j zP)
theorem RingAt.later {w w' : World} {v : Value} {r : List Pt} (h : RingAt w v r) (hb : Below w.heap.size w w') : RingAt w' v r := by
  obtain ⟨a, cap, rfl, h1, h2, h3⟩ := h
  refine ⟨a, cap, rfl, h1, h2, fun j hj => ?_⟩
  obtain ⟨b, off, rfl, hl, hp⟩ := h3 j hj
  exact ⟨b, off, rfl, Nat.lt_of_lt_of_le hl hb.size, hp.later hb hl⟩
/-- A slice of slices of points. -/
def PolyAt (w : World) (v : Value) (P : List (List Pt)) : Prop :=
  ∃ (a : Option Addr) (cap : Nat), v = .slice a P.length cap ∧ P.length ≤ cap ∧ cap ≤ maxLen ∧ ∀ i, i < P.length → ∃ b off rv, a = some ⟨b, off, none⟩ ∧ b < w.heap.size ∧ w.cell? ⟨b, off + i, none⟩ = some rv ∧ RingAt w rv (P.getD i [])
theorem PolyAt.later {w w' : World} {v : Value} {P : List (List Pt)} (h : PolyAt w v P) (hb : Below w.heap.size w w') : PolyAt w' v P := by
  obtain ⟨a, cap, rfl, h1, h2, h3⟩ := h
  refine ⟨a, cap, rfl, h1, h2, fun i hi => ?_⟩
  obtain ⟨b, off, rv, rfl, hl, hc, hr⟩ := h3 i hi
  exact ⟨b, off, rv, rfl, Nat.lt_of_lt_of_le hl hb.size, (hb.cell (p := ⟨b, off + i, none⟩) hl).trans hc, hr.later hb⟩

theorem ret_if {a b : Int} (h : a = b) : Ending.returned (.int .i64 a) = .returned (.int .i64 b) := by rw [h]

/-- A segment's six cells. -/
structure SegAt (w : World) (b o : Nat) (e : Pt × Pt) : Prop where
  c0 : w.cell? ⟨b, o, none⟩ = some (.int .i64 e.1.x)
  c1 : w.cell? ⟨b, o + 1, none⟩ = some (.int .i64 e.1.y)
  c2 : w.cell? ⟨b, o + 2, none⟩ = some (.int .i64 e.1.d)
  c3 : w.cell? ⟨b, o + 3, none⟩ = some (.int .i64 e.2.x)
  c4 : w.cell? ⟨b, o + 4, none⟩ = some (.int .i64 e.2.y)
  c5 : w.cell? ⟨b, o + 5, none⟩ = some (.int .i64 e.2.d)
theorem SegAt.later {w w' : World} {b o : Nat} {e : Pt × Pt} {m : Nat} (h : SegAt w b o e) (hb : Below m w w') (hl : b < m) : SegAt w' b o e :=
  ⟨(hb.cell (p := ⟨b, o, none⟩) hl).trans h.c0, (hb.cell (p := ⟨b, o + 1, none⟩) hl).trans h.c1, (hb.cell (p := ⟨b, o + 2, none⟩) hl).trans h.c2, (hb.cell (p := ⟨b, o + 3, none⟩) hl).trans h.c3, (hb.cell (p := ⟨b, o + 4, none⟩) hl).trans h.c4, (hb.cell (p := ⟨b, o + 5, none⟩) hl).trans h.c5⟩
/-- A slice of segments. -/
def SegsAt (w : World) (v : Value) (E : List (Pt × Pt)) : Prop :=
  ∃ (a : Option Addr) (cap : Nat), v = .slice a E.length cap ∧ E.length ≤ cap ∧ cap ≤ maxLen ∧ ∀ j, j < E.length → ∃ b off, a = some ⟨b, off, none⟩ ∧ b < w.heap.size ∧ SegAt w b (off + j * 6) (E.getD j (zP, zP))
theorem SegsAt.later {w w' : World} {v : Value} {E : List (Pt × Pt)} (h : SegsAt w v E) (hb : Below w.heap.size w w') : SegsAt w' v E := by
  obtain ⟨a, cap, rfl, h1, h2, h3⟩ := h
  refine ⟨a, cap, rfl, h1, h2, fun j hj => ?_⟩
  obtain ⟨b, off, rfl, hl, hp⟩ := h3 j hj
  exact ⟨b, off, rfl, Nat.lt_of_lt_of_le hl hb.size, hp.later hb hl⟩

end Go.Proofs.YtnkcbephceollaaGreat
