import Derived.Test.YtkhejfnhpdbhjaaGreatW6
import Derived.Test.YtkhejfnhpdbhjaaGreatC0
namespace Go.Proofs.YtkhejfnhpdbhjaaGreat
open Go.RowKit
set_option linter.unusedSimpArgs false
set_option linter.unusedVariables false

set_option maxRecDepth 100000 in
set_option maxHeartbeats 1000000 in
theorem badRing_any (v : Value) (P : List (List Pt)) (w : World) (hP : PolyAt w v P) :
    Calls Tryz.prog 74 #[v] w fun e w' => e = .returned (.int .i64 (badM 12 0 P)) ∧ w' = w := by
  obtain ⟨a, cap, rfl, h1, h2, h3⟩ := hP
  unfold maxLen at h2
  go_enter Tryz.func74, Tryz.ntmps74
  go_wp2_with fail
  go_loop [3, 4, 5, 8] (fun room _ _ i => ∃ (k : Nat) (rm : Int), i = .int .i64 k ∧ room = .int .i64 rm ∧ k ≤ P.length ∧ 0 ≤ rm ∧ rm ≤ 12 ∧ Hid (badM 12 0 P = badM rm k (P.drop k))) (fun _ _ _ i => P.length - (intOf i).toNat)
  case atStart => exact ⟨0, 12, rfl, rfl, Nat.zero_le _, by decide, by decide, rfl⟩
  case round =>
    obtain ⟨k, rm, rfl, rfl, hk, hr0, hr1, HB⟩ := hrel
    by_cases hlt : k < P.length
    · obtain ⟨b, off, rv, rfl, hb, hc, ⟨a', cap', rfl, g1, g2, _⟩⟩ := h3 k hlt
      have HC := hide (badM_cons rm k P k hlt)
      generalize P.getD k [] = r at *
      unfold maxLen at g2
      by_cases hbad : (r.length : Int) < 3 ∨ rm < (r.length : Int)
      · have HE : Hid (badM 12 0 P = k) := HB.out.trans (HC.out.trans (if_pos hbad))
        clear h3 HB HC
        by_cases hb3 : (r.length : Int) < 3
        · go_wp2
          go_ret
          exact ⟨ret_if HE.out.symm, rfl⟩
        · go_wp2
          go_ret
          exact ⟨ret_if HE.out.symm, rfl⟩
      · have HE : Hid (badM 12 0 P = badM (rm - r.length) (k + 1) (P.drop (k + 1))) := HB.out.trans (HC.out.trans (if_neg hbad))
        clear h3 HB HC
        have e1 : ¬ (r.length : Int) < 3 := by omega
        have e2 : (r.length : Int) ≤ rm := by omega
        go_wp2
        go_round
        case rel => exact ⟨k + 1, rm - r.length, by go_num, rfl, by omega, by omega, by omega, HE⟩
        case measure => simp [intOf]; omega
    · have HE : Hid (badM 12 0 P = -1) := by rw [HB.out, List.drop_of_length_le (by omega)]; rfl
      clear h3 HB
      go_wp2
      go_ret
      exact ⟨ret_if HE.out.symm, rfl⟩
end Go.Proofs.YtkhejfnhpdbhjaaGreat
