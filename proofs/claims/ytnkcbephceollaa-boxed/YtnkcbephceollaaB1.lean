import Derived.Test.YtnkcbephceollaaQ3
namespace Go.Proofs.Ytnkcbephceollaa
open Go.RowKit
set_option linter.unusedSimpArgs false
set_option linter.unusedVariables false

theorem Blk.set {w : World} {b : Nat} {vs : Array Value} (h : Blk w b vs) (i : Nat) (hi : i < vs.size) (x : Value) : Blk (w.setCell ⟨b, i, none⟩ x) b (vs.setIfInBounds i x) := by
  refine ⟨fun o => ?_, fun o => ?_, ?_⟩
  · rw [Array.getElem?_setIfInBounds]
    by_cases e : i = o
    · subst e
      rw [if_pos rfl, if_pos hi]
      have hc := h.cell i
      rw [Array.getElem?_eq_getElem hi] at hc
      simp [go_sem, hc]
    · rw [if_neg e, ← h.cell o]
      have : ((⟨b, i, none⟩ : Addr) = ⟨b, o, none⟩) = False := by simp [e]
      simp [go_sem, this, e, Ne.symm e]
  · simp [go_sem, h.free o]
  · simpa using h.lt

theorem Blk.drew {w : World} {b : Nat} {vs : Array Value} (h : Blk w b vs) : Blk w.drew b vs := ⟨h.cell, h.free, h.lt⟩
theorem Blk.off {w : World} {b : Nat} {vs : Array Value} (h : Blk w b vs) {p : Nat} (hne : b ≠ p) (i : Nat) (x : Value) : Blk (w.setCell ⟨p, i, none⟩ x) b vs :=
  ⟨fun o => (World.cell?_of_block (w := w) (Below.heap_setCell w ⟨p, i, none⟩ x b hne)).trans (h.cell o), fun o => by simpa using h.free o, by simpa using h.lt⟩
theorem Blk.off3 {w : World} {b : Nat} {vs : Array Value} (h : Blk w b vs) {p : Nat} (hne : b ≠ p) (x y z : Value) : Blk (((w.setCell ⟨p, 0, none⟩ x).setCell ⟨p, 1, none⟩ y).setCell ⟨p, 2, none⟩ z) b vs :=
  ((h.off hne 0 x).off hne 1 y).off hne 2 z
theorem Blk.put3 {w : World} {p : Nat} {x y z x' y' z' : Value} (h : Blk w p #[x, y, z]) : Blk (((w.setCell ⟨p, 0, none⟩ x').setCell ⟨p, 1, none⟩ y').setCell ⟨p, 2, none⟩ z') p #[x', y', z'] :=
  ((h.set 0 (by simp) x').set 1 (by simp) y').set 2 (by simp) z'
theorem hide {p : Prop} (h : p) : Hid p := h

end Go.Proofs.Ytnkcbephceollaa
