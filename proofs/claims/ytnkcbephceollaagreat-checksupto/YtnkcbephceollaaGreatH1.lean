import Derived.Test.YtnkcbephceollaaGreatR10
import Derived.Deep.QuietTactic
import Derived.BigQuiet
namespace Go.Proofs.YtnkcbephceollaaGreat
open Go.RowKit
set_option linter.unusedSimpArgs false
set_option linter.unusedVariables false

def bynd : Pt := ⟨1, 2, 3⟩
set_option maxHeartbeats 400000 in
theorem beyond_any (w : World) :
    Calls Tryz.prog 42 #[] w fun e w' => e = .returned bynd.v ∧ w' = w.alloc (.cells #[.int .i64 1, .int .i64 2, .int .i64 3] 31) := by
  go_enter Tryz.func42, Tryz.ntmps42
  go_wp2
  exact bodyPost_ret (v := bynd.v) (by simp [results, Tryz.results42, go_sem, bynd]) rfl ⟨rfl, rfl⟩

theorem neq_pt (x y d x' y' d' : Int) (w : World) : (binOp .neq 31 (.agg #[.int .i64 x, .int .i64 y, .int .i64 d]) (.agg #[.int .i64 x', .int .i64 y', .int .i64 d'])).run Tryz.prog w = .ok (.bool (!eqP ⟨x, y, d⟩ ⟨x', y', d'⟩)) w := by
  by_cases h1 : x = x'
  · by_cases h2 : y = y'
    · by_cases h3 : d = d' <;> simp [go_sem, eqP, h1, h2, h3]
    · simp [go_sem, eqP, h1, h2]
  · simp [go_sem, eqP, h1]
theorem eqP_self (p : Pt) : eqP p p = true := by simp [eqP]

set_option maxRecDepth 100000 in
set_option maxHeartbeats 1000000 in
/-- Two slices of the same points. -/
theorem samePoints_yes (v v' : Value) (r : List Pt) (w : World) (h : RingAt w v r) (h' : RingAt w v' r) :
    Calls Tryz.prog 47 #[v, v'] w fun e w' => e = .returned (.bool true) ∧ ∃ n, w' = w.drewN n := by
  obtain ⟨a, cap, rfl, h1, h2, h3⟩ := h
  obtain ⟨a', cap', rfl, _, _, h3'⟩ := h'
  have hneq := neq_pt
  unfold maxLen at h2
  go_enter Tryz.func47, Tryz.ntmps47
  go_wp2_with fail
  go_loopw [5] (fun i w' => ∃ (k n : Nat), i = .int .i64 k ∧ k ≤ r.length ∧ w' = w.drewN n) (fun i _ => r.length - (intOf i).toNat)
  case atStart => exact ⟨0, 0, rfl, Nat.zero_le _, rfl⟩
  case round =>
    obtain ⟨k, n, rfl, hk, rfl⟩ := hrel
    by_cases hlt : k < r.length
    · obtain ⟨b, off, rfl, _, c0, c1, c2⟩ := h3 k hlt
      obtain ⟨b', off', rfl, _, d0, d1, d2⟩ := h3' k hlt
      generalize r.getD k zP = p at *
      have hk0 : (0 : Int) ≤ (k : Int) := Int.natCast_nonneg _
      have hk1 : (k : Int) < (r.length : Int) := by omega
      have e1 : eqP ⟨p.x, p.y, p.d⟩ ⟨p.x, p.y, p.d⟩ = true := eqP_self p
      clear h3 h3'
      go_wp2_with fail
      go_quiet (fail)
      go_wp2
      go_roundw
      case rel => exact ⟨k + 1, _, by go_num, by omega, rfl⟩
      case measure => simp [intOf]; omega
    · clear h3 h3'
      go_wp2
      go_ret
      exact ⟨rfl, n, rfl⟩

theorem RingAt.drewN {w : World} {v : Value} {r : List Pt} (h : RingAt w v r) (n : Nat) : RingAt (w.drewN n) v r := h.later (below_drewN (Below.refl _ _) n)
theorem PolyAt.drewN {w : World} {v : Value} {P : List (List Pt)} (h : PolyAt w v P) (n : Nat) : PolyAt (w.drewN n) v P := h.later (below_drewN (Below.refl _ _) n)

set_option maxRecDepth 100000 in
set_option maxHeartbeats 1000000 in
/-- Two slices of slices of the same points. -/
theorem sameRings_yes (v v' : Value) (P : List (List Pt)) (w : World) (h : PolyAt w v P) (h' : PolyAt w v' P) :
    Calls Tryz.prog 33 #[v, v'] w fun e w' => e = .returned (.bool true) ∧ ∃ n, w' = w.drewN n := by
  obtain ⟨a, cap, rfl, h1, h2, h3⟩ := h
  obtain ⟨a', cap', rfl, _, _, h3'⟩ := h'
  unfold maxLen at h2
  go_enter Tryz.func33, Tryz.ntmps33
  go_wp2_with fail
  go_loopw [5, 6] (fun i _ w' => ∃ (k n : Nat), i = .int .i64 k ∧ k ≤ P.length ∧ w' = w.drewN n) (fun i _ _ => P.length - (intOf i).toNat)
  case atStart => exact ⟨0, 0, rfl, Nat.zero_le _, rfl⟩
  case round =>
    obtain ⟨k, n, rfl, hk, hw⟩ := hrel
    have HW := hide hw
    by_cases hlt : k < P.length
    · obtain ⟨b, off, rv, rfl, _, c0', hr0⟩ := h3 k hlt
      obtain ⟨b', off', rv', rfl, _, d0', hr0'⟩ := h3' k hlt
      have c0 : wr.cell? ⟨b, off + k, none⟩ = some rv := by rw [hw]; exact c0'
      have d0 : wr.cell? ⟨b', off' + k, none⟩ = some rv' := by rw [hw]; exact d0'
      have hr : RingAt wr rv (P.getD k []) := by rw [hw]; exact hr0.drewN n
      have hr' : RingAt wr rv' (P.getD k []) := by rw [hw]; exact hr0'.drewN n
      clear c0' d0' hr0 hr0' hw
      generalize P.getD k [] = r at *
      have hk0 : (0 : Int) ≤ (k : Int) := Int.natCast_nonneg _
      have hk1 : (k : Int) < (P.length : Int) := by omega
      clear h3 h3'
      go_wp2_with fail
      go_quiet ((go_at_call 47; exact Calls.quiet_of (samePoints_yes _ _ r _ (hr.drewN _) (hr'.drewN _))))
      go_wp2
      go_roundw
      case rel => exact ⟨k + 1, n + nq, by go_num, by omega, by rw [HW.out, World.drewN_drewN]⟩
      case measure => simp [intOf]; omega
    · clear h3 h3' hw
      go_wp2
      go_ret
      exact ⟨rfl, n, HW.out⟩

set_option maxHeartbeats 1000000 in
theorem it_any (pb rb wb n : Nat) (w : World) (h0 : w.cell? ⟨pb, 0, none⟩ = some (.slice (some ⟨rb, 0, none⟩) (n + 1) (n + 1))) (h1 : w.cell? ⟨pb, 1, none⟩ = some (.slice (some ⟨wb, 0, none⟩) n n)) :
    Calls Tryz.prog 22 #[.pointer (some ⟨pb, 0, none⟩)] w fun e w' => e = .returned (.slice (some ⟨rb, 0, none⟩) n (n + 1)) ∧ ∃ m, w' = w.drewN m := by
  have hn : (n : Int) ≤ ((n + 1 : Nat) : Int) := by omega
  have hn2 : n ≤ n + 1 := by omega
  go_enter Tryz.func22, Tryz.ntmps22
  go_wp2_with fail
  go_quiet (fail)
  go_wp2
  go_ret
  exact ⟨rfl, _, rfl⟩
end Go.Proofs.YtnkcbephceollaaGreat
