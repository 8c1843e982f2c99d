import Derived.Test.YtnkcbephceollaaGreatM4
import Derived.Test.YtnkcbephceollaaGreatQ3
/- Plain mathematics of Check. -/
namespace Go.Proofs.YtnkcbephceollaaGreat
set_option linter.unusedSimpArgs false
set_option linter.unusedVariables false

/-- The first ring that has too few points, or too many with those ahead of it: its number, else -1. -/
def badM : Int → Int → List (List Pt) → Int
  | _, _, [] => -1
  | room, i, r :: rs => if (r.length : Int) < 3 ∨ room < (r.length : Int) then i else badM (room - r.length) (i + 1) rs
/-- The edges of a ring: from each point to the next, from the last to the first. -/
def edgeAt (r : List Pt) (j : Nat) : Pt × Pt := (r.getD j zP, r.getD (if j + 1 = r.length then 0 else j + 1) zP)
def ringEdges (r : List Pt) : List (Pt × Pt) := (List.range r.length).map (edgeAt r)
def edgesM (P : List (List Pt)) : List (Pt × Pt) := P.flatMap ringEdges
/-- The first place at which a test says yes: its number, else -1. -/
def findM {α : Type} (f : α → Bool) : Int → List α → Int
  | _, [] => -1
  | i, x :: xs => if f x = true then i else findM f (i + 1) xs
def eqB (p q : Pt) : Bool := decide (p.x = q.x ∧ p.y = q.y ∧ p.d = q.d)
def alongB (e f : Pt × Pt) : Bool := (meetM e.1 e.2 f.1 f.2).k == 2
def sharesM (E : List (Pt × Pt)) (i : Nat) : Bool := (E.take i).any (alongB (E.getD i (zP, zP)))
def checkM (P : List (List Pt)) : Int × Int :=
  if 4 < P.length then (1, 0)
  else if badM 12 0 P ≠ -1 then (2, badM 12 0 P)
  else if findM (fun e : Pt × Pt => !gridB e.1) 0 (edgesM P) ≠ -1 then (3, findM (fun e : Pt × Pt => !gridB e.1) 0 (edgesM P))
  else if findM (fun e : Pt × Pt => eqB e.1 e.2) 0 (edgesM P) ≠ -1 then (4, findM (fun e : Pt × Pt => eqB e.1 e.2) 0 (edgesM P))
  else if findM (sharesM (edgesM P)) 0 (List.range (edgesM P).length) ≠ -1 then (5, findM (sharesM (edgesM P)) 0 (List.range (edgesM P).length))
  else (0, 0)

theorem badM_cons (room i : Int) (P : List (List Pt)) (k : Nat) (hk : k < P.length) :
    badM room i (P.drop k) = if ((P.getD k []).length : Int) < 3 ∨ room < ((P.getD k []).length : Int) then i else badM (room - (P.getD k []).length) (i + 1) (P.drop (k + 1)) := by
  rw [List.drop_eq_getElem_cons hk]
  simp only [badM]
  rw [List.getD_eq_getElem?_getD, List.getElem?_eq_getElem hk]; rfl
theorem findM_cons {α : Type} (f : α → Bool) (i : Int) (l : List α) (k : Nat) (hk : k < l.length) (d : α) :
    findM f i (l.drop k) = if f (l.getD k d) = true then i else findM f (i + 1) (l.drop (k + 1)) := by
  rw [List.drop_eq_getElem_cons hk]
  simp only [findM]
  rw [List.getD_eq_getElem?_getD, List.getElem?_eq_getElem hk]; rfl
end Go.Proofs.YtnkcbephceollaaGreat
namespace Go.Proofs.YtnkcbephceollaaGreat
open Go.RowKit
set_option linter.unusedSimpArgs false
set_option linter.unusedVariables false

theorem Blk.set {w : World} {b : Nat} {vs : Array Value} (h : Blk w b vs) (i : Nat) (hi : i < vs.size) (x : Value) : Blk (w.setCell ⟨b, i, none⟩ x) b (vs.setIfInBounds i x) := by
  refine ⟨fun o => ?_, fun o => ?_, ?_⟩
  · rw [Array.getElem?_setIfInBounds]
    by_cases e : i = o
    · subst e
      rw [if_pos rfl, if_pos hi]
      have hc := h.cell i
      rw [Array.getElem?_eq_getElem hi] at hc
      simp [go_sem, hc]
    · rw [if_neg e, ← h.cell o]
      have : ((⟨b, i, none⟩ : Addr) = ⟨b, o, none⟩) = False := by simp [e]
      simp [go_sem, this, e, Ne.symm e]
  · simp [go_sem, h.free o]
  · simpa using h.lt

theorem Blk.drew {w : World} {b : Nat} {vs : Array Value} (h : Blk w b vs) : Blk w.drew b vs := ⟨h.cell, h.free, h.lt⟩
theorem Blk.off {w : World} {b : Nat} {vs : Array Value} (h : Blk w b vs) {p : Nat} (hne : b ≠ p) (i : Nat) (x : Value) : Blk (w.setCell ⟨p, i, none⟩ x) b vs :=
  ⟨fun o => (World.cell?_of_block (w := w) (Below.heap_setCell w ⟨p, i, none⟩ x b hne)).trans (h.cell o), fun o => by simpa using h.free o, by simpa using h.lt⟩
theorem Blk.off3 {w : World} {b : Nat} {vs : Array Value} (h : Blk w b vs) {p : Nat} (hne : b ≠ p) (x y z : Value) : Blk (((w.setCell ⟨p, 0, none⟩ x).setCell ⟨p, 1, none⟩ y).setCell ⟨p, 2, none⟩ z) b vs :=
  ((h.off hne 0 x).off hne 1 y).off hne 2 z
theorem Blk.put3 {w : World} {p : Nat} {x y z x' y' z' : Value} (h : Blk w p #[x, y, z]) : Blk (((w.setCell ⟨p, 0, none⟩ x').setCell ⟨p, 1, none⟩ y').setCell ⟨p, 2, none⟩ z') p #[x', y', z'] :=
  ((h.set 0 (by simp) x').set 1 (by simp) y').set 2 (by simp) z'
theorem hide {p : Prop} (h : p) : Hid p := h

end Go.Proofs.YtnkcbephceollaaGreat
