import Derived.Test.YtkhejfnhpdbhjaaGreatR6
namespace Go.Proofs.YtkhejfnhpdbhjaaGreat
open Go.RowKit
set_option linter.unusedSimpArgs false
set_option linter.unusedVariables false

abbrev opV (kd n : Int) (A B : Value) (p q r s : Pt) : Value := .agg #[.int .i64 kd, .int .i64 n, A, B, .int .i64 p.x, .int .i64 p.y, .int .i64 p.d, .int .i64 q.x, .int .i64 q.y, .int .i64 q.d, .int .i64 r.x, .int .i64 r.y, .int .i64 r.d, .int .i64 s.x, .int .i64 s.y, .int .i64 s.d]

set_option maxHeartbeats 2000000 in
theorem met_any (kd n : Int) (A B : Value) (p q r s : Pt) (w : World) :
    Calls Tryz.prog 10 #[opV kd n A B p q r s] w fun e w' => e = .returned (.bool true) ∧ Below w.heap.size w w' := by
  go_enter Tryz.func10, Tryz.ntmps10
  go_wp2_with fail
  refine (Meet_any p q r s _).mono ?_
  rintro e w1 ⟨rfl, k⟩
  have B1 := bvia ((Below.refl _ _).alloc (Nat.le_refl _) _) k
  obtain ⟨co1, fo1, zo1⟩ := (Blk.new w _ _).call k
  clear k
  go_wp2_with fail
  refine (rMeet_any p q r s _).mono ?_
  rintro e w2 ⟨rfl, k⟩
  have B2 := bvia (B1.alloc B1.size _) k
  obtain ⟨co2, fo2, zo2⟩ := ((Blk.mk co1 fo1 zo1).alloc _).call k
  obtain ⟨cm2, fm2, zm2⟩ := (Blk.new w1 _ _).call k
  clear k co1 fo1 B1
  go_wp2
  all_goals (go_ret; exact ⟨rfl, B2.alloc B2.size _⟩)

set_option maxHeartbeats 1000000 in
/-- No list is held yet. -/
theorem looks_none (b : Nat) (w : World) (hb : Blk w b #[.slice none 0 0]) :
    Calls Tryz.prog 9 #[.pointer (some ⟨b, 0, none⟩)] w fun e w' => e = .returned (.bool true) ∧ w' = w := by
  obtain ⟨c, f, z⟩ := hb
  go_enter Tryz.func9, Tryz.ntmps9
  go_wp2_with fail
  refine wp_loop_rounds 1 ?_
  rw [rounds_succ]
  go_wp2
  go_ret
  exact ⟨rfl, rfl⟩

set_option maxHeartbeats 1000000 in
theorem plays_meet (b : Nat) (n : Int) (A B : Value) (p q r s : Pt) (w : World) :
    Calls Tryz.prog 8 #[.pointer (some ⟨b, 0, none⟩), opV 1 n A B p q r s] w fun e w' => e = .returned (.bool true) ∧ Below w.heap.size w w' := by
  go_enter Tryz.func8, Tryz.ntmps8
  go_wp2_with fail
  refine (met_any 1 n A B p q r s _).mono ?_
  rintro e w1 ⟨rfl, k⟩
  have B1 := bvia ((Below.refl _ _).alloc (Nat.le_refl _) _) k
  obtain ⟨co1, fo1, zo1⟩ := (Blk.new w _ _).call k
  clear k
  go_wp2
  go_ret
  exact ⟨rfl, B1⟩

end Go.Proofs.YtkhejfnhpdbhjaaGreat
