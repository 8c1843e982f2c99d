import Derived.Test.YtnkcbephceollabQ7
import Derived.Test.YtnkcbephceollabQ4
namespace Go.Proofs.Ytnkcbephceollab
open Go.RowKit
set_option linter.unusedSimpArgs false
set_option linter.unusedVariables false

/-- A block of the call's own: its cells, that they may be written, that it is there. -/
structure Blk (w : World) (b : Nat) (vs : Array Value) : Prop where
  cell : ∀ o, w.cell? ⟨b, o, none⟩ = vs[o]?
  free : ∀ o, w.frozen? ⟨b, o, none⟩ = false
  lt : b < w.heap.size
theorem Blk.new (w : World) (vs : Array Value) (t : TypeId) : Blk (w.alloc (.cells vs t)) w.heap.size vs :=
  ⟨fun o => World.cell?_alloc_at vs t _ o rfl, fun o => World.frozen?_alloc_at vs t _ o rfl, by simp⟩
theorem Blk.at (b : Nat) {w : World} {vs : Array Value} {t : TypeId} (h : b = w.heap.size) : Blk (w.alloc (.cells vs t)) b vs := h ▸ Blk.new w vs t
theorem Blk.alloc {w : World} {b : Nat} {vs : Array Value} (h : Blk w b vs) (o : Obj) : Blk (w.alloc o) b vs :=
  ⟨fun i => (World.cell?_alloc_past o b i h.lt).trans (h.cell i), fun i => (World.frozen?_alloc_past o b i h.lt).trans (h.free i), by have := h.lt; simp; omega⟩
theorem Blk.call {w w' : World} {b : Nat} {vs : Array Value} (h : Blk w b vs) (hb : Below w.heap.size w w') : Blk w' b vs :=
  ⟨fun i => (hb.cell (p := ⟨b, i, none⟩) h.lt).trans (h.cell i), fun i => (hb.frozen (p := ⟨b, i, none⟩) h.lt).trans (h.free i), Nat.lt_of_lt_of_le h.lt hb.size⟩

end Go.Proofs.Ytnkcbephceollab
namespace Go.Proofs.Ytnkcbephceollab
open Go.RowKit
set_option linter.unusedSimpArgs false
set_option linter.unusedVariables false

theorem Blk.set {w : World} {b : Nat} {vs : Array Value} (h : Blk w b vs) (i : Nat) (hi : i < vs.size) (x : Value) : Blk (w.setCell ⟨b, i, none⟩ x) b (vs.setIfInBounds i x) := by
  refine ⟨fun o => ?_, fun o => ?_, ?_⟩
  · rw [Array.getElem?_setIfInBounds]
    by_cases e : i = o
    · subst e
      rw [if_pos rfl, if_pos hi]
      have hc := h.cell i
      rw [Array.getElem?_eq_getElem hi] at hc
      simp [go_sem, hc]
    · rw [if_neg e, ← h.cell o]
      have : ((⟨b, i, none⟩ : Addr) = ⟨b, o, none⟩) = False := by simp [e]
      simp [go_sem, this, e, Ne.symm e]
  · simp [go_sem, h.free o]
  · simpa using h.lt

theorem Blk.drew {w : World} {b : Nat} {vs : Array Value} (h : Blk w b vs) : Blk w.drew b vs := ⟨h.cell, h.free, h.lt⟩
theorem Blk.off {w : World} {b : Nat} {vs : Array Value} (h : Blk w b vs) {p : Nat} (hne : b ≠ p) (i : Nat) (x : Value) : Blk (w.setCell ⟨p, i, none⟩ x) b vs :=
  ⟨fun o => (World.cell?_of_block (w := w) (Below.heap_setCell w ⟨p, i, none⟩ x b hne)).trans (h.cell o), fun o => by simpa using h.free o, by simpa using h.lt⟩
theorem Blk.off3 {w : World} {b : Nat} {vs : Array Value} (h : Blk w b vs) {p : Nat} (hne : b ≠ p) (x y z : Value) : Blk (((w.setCell ⟨p, 0, none⟩ x).setCell ⟨p, 1, none⟩ y).setCell ⟨p, 2, none⟩ z) b vs :=
  ((h.off hne 0 x).off hne 1 y).off hne 2 z
theorem Blk.put3 {w : World} {p : Nat} {x y z x' y' z' : Value} (h : Blk w p #[x, y, z]) : Blk (((w.setCell ⟨p, 0, none⟩ x').setCell ⟨p, 1, none⟩ y').setCell ⟨p, 2, none⟩ z') p #[x', y', z'] :=
  ((h.set 0 (by simp) x').set 1 (by simp) y').set 2 (by simp) z'
theorem hide {p : Prop} (h : p) : Hid p := h

end Go.Proofs.Ytnkcbephceollab
namespace Go.Proofs.Ytnkcbephceollab
open Go.RowKit
set_option linter.unusedSimpArgs false
set_option linter.unusedVariables false

/-- A point's three cells. -/
structure PtAt (w : World) (b o : Nat) (p : Pt) : Prop where
  x : w.cell? ⟨b, o, none⟩ = some (.int .i64 p.x)
  y : w.cell? ⟨b, o + 1, none⟩ = some (.int .i64 p.y)
  d : w.cell? ⟨b, o + 2, none⟩ = some (.int .i64 p.d)
theorem PtAt.later {w w' : World} {b o : Nat} {p : Pt} {m : Nat} (h : PtAt w b o p) (hb : Below m w w') (hl : b < m) : PtAt w' b o p :=
  ⟨(hb.cell (p := ⟨b, o, none⟩) hl).trans h.x, (hb.cell (p := ⟨b, o + 1, none⟩) hl).trans h.y, (hb.cell (p := ⟨b, o + 2, none⟩) hl).trans h.d⟩
/-- A slice of points. -/
def RingAt (w : World) (v : Value) (r : List Pt) : Prop :=
  ∃ (a : Option Addr) (cap : Nat), v = .slice a r.length cap ∧ r.length ≤ cap ∧ cap ≤ maxLen ∧ ∀ j, j < r.length → ∃ b off, a = some ⟨b, off, none⟩ ∧ b < w.heap.size ∧ PtAt w b (off + j * 3) (r.getD j zP)
theorem RingAt.later {w w' : World} {v : Value} {r : List Pt} (h : RingAt w v r) (hb : Below w.heap.size w w') : RingAt w' v r := by
  obtain ⟨a, cap, rfl, h1, h2, h3⟩ := h
  refine ⟨a, cap, rfl, h1, h2, fun j hj => ?_⟩
  obtain ⟨b, off, rfl, hl, hp⟩ := h3 j hj
  exact ⟨b, off, rfl, Nat.lt_of_lt_of_le hl hb.size, hp.later hb hl⟩
/-- A slice of slices of points. -/
def PolyAt (w : World) (v : Value) (P : List (List Pt)) : Prop :=
  ∃ (a : Option Addr) (cap : Nat), v = .slice a P.length cap ∧ P.length ≤ cap ∧ cap ≤ maxLen ∧ ∀ i, i < P.length → ∃ b off rv, a = some ⟨b, off, none⟩ ∧ b < w.heap.size ∧ w.cell? ⟨b, off + i, none⟩ = some rv ∧ RingAt w rv (P.getD i [])
theorem PolyAt.later {w w' : World} {v : Value} {P : List (List Pt)} (h : PolyAt w v P) (hb : Below w.heap.size w w') : PolyAt w' v P := by
  obtain ⟨a, cap, rfl, h1, h2, h3⟩ := h
  refine ⟨a, cap, rfl, h1, h2, fun i hi => ?_⟩
  obtain ⟨b, off, rv, rfl, hl, hc, hr⟩ := h3 i hi
  exact ⟨b, off, rv, rfl, Nat.lt_of_lt_of_le hl hb.size, (hb.cell (p := ⟨b, off + i, none⟩) hl).trans hc, hr.later hb⟩

theorem ret_if {a b : Int} (h : a = b) : Ending.returned (.int .i64 a) = .returned (.int .i64 b) := by rw [h]

/-- A segment's six cells. -/
structure SegAt (w : World) (b o : Nat) (e : Pt × Pt) : Prop where
  c0 : w.cell? ⟨b, o, none⟩ = some (.int .i64 e.1.x)
  c1 : w.cell? ⟨b, o + 1, none⟩ = some (.int .i64 e.1.y)
  c2 : w.cell? ⟨b, o + 2, none⟩ = some (.int .i64 e.1.d)
  c3 : w.cell? ⟨b, o + 3, none⟩ = some (.int .i64 e.2.x)
  c4 : w.cell? ⟨b, o + 4, none⟩ = some (.int .i64 e.2.y)
  c5 : w.cell? ⟨b, o + 5, none⟩ = some (.int .i64 e.2.d)
theorem SegAt.later {w w' : World} {b o : Nat} {e : Pt × Pt} {m : Nat} (h : SegAt w b o e) (hb : Below m w w') (hl : b < m) : SegAt w' b o e :=
  ⟨(hb.cell (p := ⟨b, o, none⟩) hl).trans h.c0, (hb.cell (p := ⟨b, o + 1, none⟩) hl).trans h.c1, (hb.cell (p := ⟨b, o + 2, none⟩) hl).trans h.c2, (hb.cell (p := ⟨b, o + 3, none⟩) hl).trans h.c3, (hb.cell (p := ⟨b, o + 4, none⟩) hl).trans h.c4, (hb.cell (p := ⟨b, o + 5, none⟩) hl).trans h.c5⟩
/-- A slice of segments. -/
def SegsAt (w : World) (v : Value) (E : List (Pt × Pt)) : Prop :=
  ∃ (a : Option Addr) (cap : Nat), v = .slice a E.length cap ∧ E.length ≤ cap ∧ cap ≤ maxLen ∧ ∀ j, j < E.length → ∃ b off, a = some ⟨b, off, none⟩ ∧ b < w.heap.size ∧ SegAt w b (off + j * 6) (E.getD j (zP, zP))
theorem SegsAt.later {w w' : World} {v : Value} {E : List (Pt × Pt)} (h : SegsAt w v E) (hb : Below w.heap.size w w') : SegsAt w' v E := by
  obtain ⟨a, cap, rfl, h1, h2, h3⟩ := h
  refine ⟨a, cap, rfl, h1, h2, fun j hj => ?_⟩
  obtain ⟨b, off, rfl, hl, hp⟩ := h3 j hj
  exact ⟨b, off, rfl, Nat.lt_of_lt_of_le hl hb.size, hp.later hb hl⟩

end Go.Proofs.Ytnkcbephceollab
