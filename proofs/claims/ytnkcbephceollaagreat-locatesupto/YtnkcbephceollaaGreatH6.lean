import Derived.Test.YtnkcbephceollaaGreatH5
import Derived.Deep.AppendLies
import Derived.Deep.RegionHeld3
import Derived.OwnWalk
import Derived.Laws.OwnMore
namespace Go.Proofs.YtnkcbephceollaaGreat
open Go.RowKit
set_option linter.unusedSimpArgs false
set_option linter.unusedVariables false

/-- n times the same cells. -/
def rep (n : Nat) (l : List Value) : List Value := (List.replicate n l).flatten
theorem rep_succ (n : Nat) (l : List Value) : rep (n + 1) l = rep n l ++ l := by
  unfold rep
  rw [List.replicate_succ']
  simp
theorem rep_len (n : Nat) (l : List Value) : (rep n l).length = n * l.length := by
  unfold rep
  simp
theorem rep_at (n j t : Nat) (l : List Value) (hj : j < n) (ht : t < l.length) : (rep n l)[j * l.length + t]? = l[t]? := by
  induction n with
  | zero => omega
  | succ n ih =>
    rw [rep_succ]
    by_cases h : j < n
    · rw [List.getElem?_append_left, ih h]
      rw [rep_len]
      have := Nat.mul_le_mul_right l.length (show j + 1 ≤ n by omega)
      rw [Nat.add_mul] at this
      omega
    · have e : j = n := by omega
      subst e
      rw [List.getElem?_append_right (by rw [rep_len]; omega), rep_len]
      congr 1
      omega
abbrev ptMk (m : Int) : List Value := [.int .i64 0, .int .i64 m, .int .i64 0]
abbrev pcMk (m : Int) : List Value := [.int .i64 0, .int .i64 0, .int .i64 m, .int .i64 0, .int .i64 0, .int .i64 0, .bool false, .bool false, .bool false, .bool false]

/-- The four rows of a hold: each is owned, each place is marked; rs: the blocks of the marks of the rings. -/
structure Fam (w : World) (base : Nat) (m : Int) (rv pv cv nv : Value) (nr np nc nn : Nat) (rs : List Nat) : Prop where
  rl : rs.length = nr
  ro : w.ownsRow base 57 1 rv nr (rs.map fun g => .slice (some ⟨g, 0, none⟩) 1 1)
  rp : ∀ g ∈ rs, PtAt w g 0 ⟨m, 0, 0⟩
  po : w.ownsRow base 31 3 pv np (rep np (ptMk m))
  co : w.ownsRow base 55 10 cv nc (rep nc (pcMk m))
  no : w.ownsRow base 3 1 nv nn (rep nn [.int .i64 m])
  rn : ∀ g ∈ rs, rv.ownBlock ≠ some g ∧ pv.ownBlock ≠ some g ∧ cv.ownBlock ≠ some g ∧ nv.ownBlock ≠ some g


/-- What a hold of such rows reads as. -/
theorem Fam.mk' {w : World} {base : Nat} {m : Int} {rv pv cv nv : Value} {nr np nc nn : Nat} {rs : List Nat} (f : Fam w base m rv pv cv nv nr np nc nn rs) {F : Nat → Nat → Prop} {h : Nat}
    (c0 : w.cell? ⟨h, 0, none⟩ = some rv) (c1 : w.cell? ⟨h, 1, none⟩ = some pv) (c2 : w.cell? ⟨h, 2, none⟩ = some cv) (c3 : w.cell? ⟨h, 3, none⟩ = some nv) (c4 : w.cell? ⟨h, 4, none⟩ = some (.int .i64 m))
    (fh : ∀ o, o < 5 → F h o) (fr : ∀ b o, rv.ownBlock = some b → o < nr → F b o) (fg : ∀ g ∈ rs, ∀ o, F g o) (fp : ∀ b o, pv.ownBlock = some b → o < np * 3 → F b o) (fc : ∀ b o, cv.ownBlock = some b → o < nc * 10 → F b o) (fn : ∀ b o, nv.ownBlock = some b → o < nn → F b o) :
    HoldMk w F h m rv pv cv nv := by
  refine ⟨fh, c0, c1, c2, c3, c4, ?_, ?_, ?_, ?_⟩
  · obtain ⟨a, cap, e1, e2, e3, e4⟩ := own_form f.ro
    refine ⟨a, nr, cap, e1, by unfold maxLen at e4; omega, fun j hj => ?_⟩
    obtain ⟨b, hb⟩ := e3 (by omega)
    have hj' : j < rs.length := by rw [f.rl]; exact hj
    have hc := own_cell f.ro b hb j (by omega)
    rw [List.getElem?_map, List.getElem?_eq_getElem hj'] at hc
    have hm : rs[j] ∈ rs := List.getElem_mem hj'
    refine ⟨b, 0, rs[j], 1, e2 b hb, by rw [Nat.zero_add]; exact fr b j hb hj, ⟨fg _ hm 0, fg _ hm 1, fg _ hm 2⟩, by rw [Nat.zero_add]; exact hc, f.rp _ hm⟩
  · obtain ⟨a, cap, e1, e2, e3, e4⟩ := own_form f.po
    refine ⟨a, np, cap, e1, by unfold maxLen at e4; omega, fun j hj => ?_⟩
    obtain ⟨b, hb⟩ := e3 (by omega)
    have hc := fun t (ht : t < 3) => (own_cell f.po b hb (j * 3 + t) (by omega)).trans (rep_at np j t (ptMk m) hj ht)
    refine ⟨b, 0, e2 b hb, ?_, ?_⟩
    · rw [Nat.zero_add]
      exact ⟨fp b _ hb (by omega), fp b _ hb (by omega), fp b _ hb (by omega)⟩
    · rw [Nat.zero_add]
      exact ⟨hc 0 (by decide), hc 1 (by decide), hc 2 (by decide)⟩
  · obtain ⟨a, cap, e1, e2, e3, e4⟩ := own_form f.co
    refine ⟨a, nc, cap, e1, by unfold maxLen at e4; omega, fun j hj => ?_⟩
    obtain ⟨b, hb⟩ := e3 (by omega)
    have hc := fun t (ht : t < 10) => (own_cell f.co b hb (j * 10 + t) (by omega)).trans (rep_at nc j t (pcMk m) hj ht)
    refine ⟨b, 0, e2 b hb, ?_, ?_⟩
    · rw [Nat.zero_add]
      exact fun t ht => fc b _ hb (by omega)
    · rw [Nat.zero_add]
      exact ⟨hc 0 (by decide), hc 1 (by decide), hc 2 (by decide), hc 3 (by decide), hc 4 (by decide), hc 5 (by decide), hc 6 (by decide), hc 7 (by decide), hc 8 (by decide), hc 9 (by decide)⟩
  · obtain ⟨a, cap, e1, e2, e3, e4⟩ := own_form f.no
    refine ⟨a, nn, cap, e1, by unfold maxLen at e4; omega, fun j hj => ?_⟩
    obtain ⟨b, hb⟩ := e3 (by omega)
    have hc := (own_cell f.no b hb j (by omega)).trans (by simpa using rep_at nn j 0 [.int .i64 m] hj (by simp))
    refine ⟨b, 0, e2 b hb, ?_, ?_⟩
    · rw [Nat.zero_add]
      exact fn b _ hb hj
    · rw [Nat.zero_add]
      exact hc
end Go.Proofs.YtnkcbephceollaaGreat
