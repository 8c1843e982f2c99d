import Derived.Test.YtkmapffhfmgfeaaGreatW2
namespace Go.Proofs.YtkmapffhfmgfeaaGreat
open Go.RowKit
set_option linter.unusedSimpArgs false
set_option linter.unusedVariables false

/-- A block of the call's own: its cells, that they may be written, that it is there. -/
structure Blk (w : World) (b : Nat) (vs : Array Value) : Prop where
  cell : ∀ o, w.cell? ⟨b, o, none⟩ = vs[o]?
  free : ∀ o, w.frozen? ⟨b, o, none⟩ = false
  lt : b < w.heap.size
theorem Blk.new (w : World) (vs : Array Value) (t : TypeId) : Blk (w.alloc (.cells vs t)) w.heap.size vs :=
  ⟨fun o => World.cell?_alloc_at vs t _ o rfl, fun o => World.frozen?_alloc_at vs t _ o rfl, by simp⟩
theorem Blk.at (b : Nat) {w : World} {vs : Array Value} {t : TypeId} (h : b = w.heap.size) : Blk (w.alloc (.cells vs t)) b vs := h ▸ Blk.new w vs t
theorem Blk.alloc {w : World} {b : Nat} {vs : Array Value} (h : Blk w b vs) (o : Obj) : Blk (w.alloc o) b vs :=
  ⟨fun i => (World.cell?_alloc_past o b i h.lt).trans (h.cell i), fun i => (World.frozen?_alloc_past o b i h.lt).trans (h.free i), by have := h.lt; simp; omega⟩
theorem Blk.call {w w' : World} {b : Nat} {vs : Array Value} (h : Blk w b vs) (hb : Below w.heap.size w w') : Blk w' b vs :=
  ⟨fun i => (hb.cell (p := ⟨b, i, none⟩) h.lt).trans (h.cell i), fun i => (hb.frozen (p := ⟨b, i, none⟩) h.lt).trans (h.free i), Nat.lt_of_lt_of_le h.lt hb.size⟩

end Go.Proofs.YtkmapffhfmgfeaaGreat
