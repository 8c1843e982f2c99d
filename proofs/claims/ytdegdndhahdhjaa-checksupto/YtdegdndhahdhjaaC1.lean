import Derived.Test.YtdegdndhahdhjaaW6
import Derived.Test.YtdegdndhahdhjaaM6
import Derived.Test.YtdegdndhahdhjaaB1
namespace Go.Proofs.Ytdegdndhahdhjaa
open Go.RowKit
set_option linter.unusedSimpArgs false
set_option linter.unusedVariables false

/-- A point's three cells. -/
structure PtAt (w : World) (b o : Nat) (p : Pt) : Prop where
  x : w.cell? ⟨b, o, none⟩ = some (.int .i64 p.x)
  y : w.cell? ⟨b, o + 1, none⟩ = some (.int .i64 p.y)
  d : w.cell? ⟨b, o + 2, none⟩ = some (.int .i64 p.d)
theorem PtAt.later {w w' : World} {b o : Nat} {p : Pt} {m : Nat} (h : PtAt w b o p) (hb : Below m w w') (hl : b < m) : PtAt w' b o p :=
  ⟨(hb.cell (p := ⟨b, o, none⟩) hl).trans h.x, (hb.cell (p := ⟨b, o + 1, none⟩) hl).trans h.y, (hb.cell (p := ⟨b, o + 2, none⟩) hl).trans h.d⟩
/-- A slice of points. -/
def RingAt (w : World) (v : Value) (r : List Pt) : Prop :=
  ∃ (a : Option Addr) (cap : Nat), v = .slice a r.length cap ∧ r.length ≤ cap ∧ cap ≤ maxLen ∧ ∀ j, j < r.length → ∃ b off, a = some ⟨b, off, none⟩ ∧ b < w.heap.size ∧ PtAt w b (off + j * 3) (r.getD j zP)
theorem RingAt.later {w w' : World} {v : Value} {r : List Pt} (h : RingAt w v r) (hb : Below w.heap.size w w') : RingAt w' v r := by
  obtain ⟨a, cap, rfl, h1, h2, h3⟩ := h
  refine ⟨a, cap, rfl, h1, h2, fun j hj => ?_⟩
  obtain ⟨b, off, rfl, hl, hp⟩ := h3 j hj
  exact ⟨b, off, rfl, Nat.lt_of_lt_of_le hl hb.size, hp.later hb hl⟩
/-- A slice of slices of points. -/
def PolyAt (w : World) (v : Value) (P : List (List Pt)) : Prop :=
  ∃ (a : Option Addr) (cap : Nat), v = .slice a P.length cap ∧ P.length ≤ cap ∧ cap ≤ maxLen ∧ ∀ i, i < P.length → ∃ b off rv, a = some ⟨b, off, none⟩ ∧ b < w.heap.size ∧ w.cell? ⟨b, off + i, none⟩ = some rv ∧ RingAt w rv (P.getD i [])
theorem PolyAt.later {w w' : World} {v : Value} {P : List (List Pt)} (h : PolyAt w v P) (hb : Below w.heap.size w w') : PolyAt w' v P := by
  obtain ⟨a, cap, rfl, h1, h2, h3⟩ := h
  refine ⟨a, cap, rfl, h1, h2, fun i hi => ?_⟩
  obtain ⟨b, off, rv, rfl, hl, hc, hr⟩ := h3 i hi
  exact ⟨b, off, rv, rfl, Nat.lt_of_lt_of_le hl hb.size, (hb.cell (p := ⟨b, off + i, none⟩) hl).trans hc, hr.later hb⟩

theorem ret_if {a b : Int} (h : a = b) : Ending.returned (.int .i64 a) = .returned (.int .i64 b) := by rw [h]

set_option maxRecDepth 100000 in
set_option maxHeartbeats 1000000 in
theorem badRing_any (v : Value) (P : List (List Pt)) (w : World) (hP : PolyAt w v P) :
    Calls Try.prog 84 #[v] w fun e w' => e = .returned (.int .i64 (badM 12 0 P)) ∧ w' = w := by
  obtain ⟨a, cap, rfl, h1, h2, h3⟩ := hP
  unfold maxLen at h2
  go_enter Try.func84, Try.ntmps84
  go_wp2_with fail
  go_loop [3, 4, 5, 8] (fun room _ _ i => ∃ (k : Nat) (rm : Int), i = .int .i64 k ∧ room = .int .i64 rm ∧ k ≤ P.length ∧ 0 ≤ rm ∧ rm ≤ 12 ∧ Hid (badM 12 0 P = badM rm k (P.drop k))) (fun _ _ _ i => P.length - (intOf i).toNat)
  case atStart => exact ⟨0, 12, rfl, rfl, Nat.zero_le _, by decide, by decide, rfl⟩
  case round =>
    obtain ⟨k, rm, rfl, rfl, hk, hr0, hr1, HB⟩ := hrel
    by_cases hlt : k < P.length
    · obtain ⟨b, off, rv, rfl, hb, hc, ⟨a', cap', rfl, g1, g2, _⟩⟩ := h3 k hlt
      have HC := hide (badM_cons rm k P k hlt)
      generalize P.getD k [] = r at *
      unfold maxLen at g2
      by_cases hbad : (r.length : Int) < 3 ∨ rm < (r.length : Int)
      · have HE : Hid (badM 12 0 P = k) := HB.out.trans (HC.out.trans (if_pos hbad))
        clear h3 HB HC
        by_cases hb3 : (r.length : Int) < 3
        · go_wp2
          go_ret
          exact ⟨ret_if HE.out.symm, rfl⟩
        · go_wp2
          go_ret
          exact ⟨ret_if HE.out.symm, rfl⟩
      · have HE : Hid (badM 12 0 P = badM (rm - r.length) (k + 1) (P.drop (k + 1))) := HB.out.trans (HC.out.trans (if_neg hbad))
        clear h3 HB HC
        have e1 : ¬ (r.length : Int) < 3 := by omega
        have e2 : (r.length : Int) ≤ rm := by omega
        go_wp2
        go_round
        case rel => exact ⟨k + 1, rm - r.length, by go_num, rfl, by omega, by omega, by omega, HE⟩
        case measure => simp [intOf]; omega
    · have HE : Hid (badM 12 0 P = -1) := by rw [HB.out, List.drop_of_length_le (by omega)]; rfl
      clear h3 HB
      go_wp2
      go_ret
      exact ⟨ret_if HE.out.symm, rfl⟩
end Go.Proofs.Ytdegdndhahdhjaa
