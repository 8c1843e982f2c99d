import Derived.Test.YtnkcbephceollaaGreatH3
namespace Go.Proofs.YtnkcbephceollaaGreat
open Go.RowKit
set_option linter.unusedSimpArgs false
set_option linter.unusedVariables false

/-- A list that reads as its owner marked it: rings, points, pieces, numbers. -/
def RingsMk (w : World) (F : Nat → Nat → Prop) (v : Value) (m : Int) : Prop :=
  ∃ (a : Option Addr) (n cap : Nat), v = .slice a n cap ∧ n ≤ 9223372036854775807 ∧ ∀ j, j < n → ∃ b off g c, a = some ⟨b, off, none⟩ ∧ F b (off + j) ∧ (F g 0 ∧ F g 1 ∧ F g 2) ∧ w.cell? ⟨b, off + j, none⟩ = some (.slice (some ⟨g, 0, none⟩) 1 c) ∧ PtAt w g 0 ⟨m, 0, 0⟩
def PtsMk (w : World) (F : Nat → Nat → Prop) (v : Value) (m : Int) : Prop :=
  ∃ (a : Option Addr) (n cap : Nat), v = .slice a n cap ∧ n ≤ 9223372036854775807 ∧ ∀ j, j < n → ∃ b off, a = some ⟨b, off, none⟩ ∧ (F b (off + j * 3) ∧ F b (off + j * 3 + 1) ∧ F b (off + j * 3 + 2)) ∧ PtAt w b (off + j * 3) ⟨0, m, 0⟩
structure PcAt (w : World) (b o : Nat) (m : Int) : Prop where
  c0 : w.cell? ⟨b, o, none⟩ = some (.int .i64 0)
  c1 : w.cell? ⟨b, o + 1, none⟩ = some (.int .i64 0)
  c2 : w.cell? ⟨b, o + 2, none⟩ = some (.int .i64 m)
  c3 : w.cell? ⟨b, o + 3, none⟩ = some (.int .i64 0)
  c4 : w.cell? ⟨b, o + 4, none⟩ = some (.int .i64 0)
  c5 : w.cell? ⟨b, o + 5, none⟩ = some (.int .i64 0)
  c6 : w.cell? ⟨b, o + 6, none⟩ = some (.bool false)
  c7 : w.cell? ⟨b, o + 7, none⟩ = some (.bool false)
  c8 : w.cell? ⟨b, o + 8, none⟩ = some (.bool false)
  c9 : w.cell? ⟨b, o + 9, none⟩ = some (.bool false)
def PcsMk (w : World) (F : Nat → Nat → Prop) (v : Value) (m : Int) : Prop :=
  ∃ (a : Option Addr) (n cap : Nat), v = .slice a n cap ∧ n ≤ 9223372036854775807 ∧ ∀ j, j < n → ∃ b off, a = some ⟨b, off, none⟩ ∧ (∀ t, t < 10 → F b (off + j * 10 + t)) ∧ PcAt w b (off + j * 10) m
def NumsMk (w : World) (F : Nat → Nat → Prop) (v : Value) (m : Int) : Prop :=
  ∃ (a : Option Addr) (n cap : Nat), v = .slice a n cap ∧ n ≤ 9223372036854775807 ∧ ∀ j, j < n → ∃ b off, a = some ⟨b, off, none⟩ ∧ F b (off + j) ∧ w.cell? ⟨b, off + j, none⟩ = some (.int .i64 m)
/-- A hold: its five cells, its four lists. -/
structure HoldMk (w : World) (F : Nat → Nat → Prop) (h : Nat) (m : Int) (rv pv cv nv : Value) : Prop where
  own : ∀ o, o < 5 → F h o
  c0 : w.cell? ⟨h, 0, none⟩ = some rv
  c1 : w.cell? ⟨h, 1, none⟩ = some pv
  c2 : w.cell? ⟨h, 2, none⟩ = some cv
  c3 : w.cell? ⟨h, 3, none⟩ = some nv
  c4 : w.cell? ⟨h, 4, none⟩ = some (.int .i64 m)
  rings : RingsMk w F rv m
  points : PtsMk w F pv m
  pieces : PcsMk w F cv m
  nums : NumsMk w F nv m

set_option maxRecDepth 100000 in
set_option maxHeartbeats 4000000 in
theorem marked_yes (F : Nat → Nat → Prop) (h : Nat) (m : Int) (rv pv cv nv : Value) (w : World) (hm : HoldMk w F h m rv pv cv nv) :
    Calls Tryz.prog 17 #[.pointer (some ⟨h, 0, none⟩)] w fun e w' => e = .returned (.bool true) ∧ ∃ n, w' = w.drewN n := by
  obtain ⟨_, h0, h1, h2, h3, h4, ⟨ra, rn, rc, rfl, rl, hr⟩, ⟨pa, pn, pc, rfl, pl, hp⟩, ⟨ca, cn, cc, rfl, cl, hc⟩, ⟨na, nn, nc, rfl, nl, hn⟩⟩ := hm
  have hneq := neq_pt
  have e1 : eqP ⟨m, 0, 0⟩ ⟨m, 0, 0⟩ = true := eqP_self _
  have e2 : eqP ⟨0, m, 0⟩ ⟨0, m, 0⟩ = true := eqP_self _
  go_enter Tryz.func17, Tryz.ntmps17
  go_wp2_with fail
  go_loopw [3] (fun i w' => ∃ (k n : Nat), i = .int .i64 k ∧ k ≤ rn ∧ w' = w.drewN n) (fun i _ => rn - (intOf i).toNat)
  case atStart => exact ⟨0, 0, rfl, Nat.zero_le _, rfl⟩
  case round =>
    obtain ⟨k, n, rfl, hk, rfl⟩ := hrel
    by_cases hlt : k < rn
    · obtain ⟨b, off, g, c, rfl, _, _, c0, p0, p1, p2⟩ := hr k hlt
      simp only [Nat.zero_add] at p1 p2
      have hk0 : (0 : Int) ≤ (k : Int) := Int.natCast_nonneg _
      have hk1 : (k : Int) < (rn : Int) := by omega
      clear hr hp hc hn
      go_wp2_with fail
      go_quiet (fail)
      go_wp2
      go_roundw
      case rel => exact ⟨k + 1, _, by go_num, by omega, rfl⟩
      case measure => simp [intOf]; omega
    clear hr
    go_wp2_with fail
    go_loopw [4] (fun i w' => ∃ (k n : Nat), i = .int .i64 k ∧ k ≤ pn ∧ w' = w.drewN n) (fun i _ => pn - (intOf i).toNat)
    case atStart => exact ⟨0, n, rfl, Nat.zero_le _, rfl⟩
    case round =>
      obtain ⟨k2, n2, rfl, hk2, rfl⟩ := hrel
      by_cases hlt2 : k2 < pn
      · obtain ⟨b, off, rfl, _, p0, p1, p2⟩ := hp k2 hlt2
        have hk0 : (0 : Int) ≤ (k2 : Int) := Int.natCast_nonneg _
        have hk1 : (k2 : Int) < (pn : Int) := by omega
        clear hp hc hn
        go_wp2_with fail
        go_quiet (fail)
        go_wp2
        go_roundw
        case rel => exact ⟨k2 + 1, _, by go_num, by omega, rfl⟩
        case measure => simp [intOf]; omega
      clear hp
      go_wp2_with fail
      go_loopw [5] (fun i w' => ∃ (k n : Nat), i = .int .i64 k ∧ k ≤ cn ∧ w' = w.drewN n) (fun i _ => cn - (intOf i).toNat)
      case atStart => exact ⟨0, n2, rfl, Nat.zero_le _, rfl⟩
      case round =>
        obtain ⟨k3, n3, rfl, hk3, rfl⟩ := hrel
        by_cases hlt3 : k3 < cn
        · obtain ⟨b, off, rfl, _, ⟨q0, q1, q2, q3, q4, q5, q6, q7, q8, q9⟩⟩ := hc k3 hlt3
          have hk0 : (0 : Int) ≤ (k3 : Int) := Int.natCast_nonneg _
          have hk1 : (k3 : Int) < (cn : Int) := by omega
          clear hc hn
          go_wp2_with fail
          go_quiet (fail)
          go_wp2
          go_roundw
          case rel => exact ⟨k3 + 1, _, by go_num, by omega, rfl⟩
          case measure => simp [intOf]; omega
        clear hc
        go_wp2_with fail
        go_loopw [6] (fun i w' => ∃ (k n : Nat), i = .int .i64 k ∧ k ≤ nn ∧ w' = w.drewN n) (fun i _ => nn - (intOf i).toNat)
        case atStart => exact ⟨0, n3, rfl, Nat.zero_le _, rfl⟩
        case round =>
          obtain ⟨k4, n4, rfl, hk4, rfl⟩ := hrel
          by_cases hlt4 : k4 < nn
          · obtain ⟨b, off, rfl, _, q0⟩ := hn k4 hlt4
            have hk0 : (0 : Int) ≤ (k4 : Int) := Int.natCast_nonneg _
            have hk1 : (k4 : Int) < (nn : Int) := by omega
            clear hn
            go_wp2_with fail
            go_quiet (fail)
            go_wp2
            go_roundw
            case rel => exact ⟨k4 + 1, _, by go_num, by omega, rfl⟩
            case measure => simp [intOf]; omega
          clear hn
          go_wp2
          go_ret
          exact ⟨rfl, n4, rfl⟩
end Go.Proofs.YtnkcbephceollaaGreat
