import Derived.Test.YtnkcbephceollaaGreatR6
namespace Go.Proofs.YtnkcbephceollaaGreat
open Go.RowKit
set_option linter.unusedSimpArgs false
set_option linter.unusedVariables false

abbrev opV (kd n : Int) (A B : Value) (p q r s : Pt) : Value := .agg #[.int .i64 kd, .int .i64 n, A, B, .int .i64 p.x, .int .i64 p.y, .int .i64 p.d, .int .i64 q.x, .int .i64 q.y, .int .i64 q.d, .int .i64 r.x, .int .i64 r.y, .int .i64 r.d, .int .i64 s.x, .int .i64 s.y, .int .i64 s.d]

set_option maxHeartbeats 2000000 in
theorem met_any (kd n : Int) (A B : Value) (p q r s : Pt) (w : World) :
    Calls Tryz.prog 11 #[opV kd n A B p q r s] w fun e w' => e = .returned (.bool true) ∧ Below w.heap.size w w' := by
  go_enter Tryz.func11, Tryz.ntmps11
  go_wp2_with fail
  refine (Meet_any p q r s _).mono ?_
  rintro e w1 ⟨rfl, k⟩
  have B1 := bvia ((Below.refl _ _).alloc (Nat.le_refl _) _) k
  obtain ⟨co1, fo1, zo1⟩ := (Blk.new w _ _).call k
  clear k
  go_wp2_with fail
  refine (rMeet_any p q r s _).mono ?_
  rintro e w2 ⟨rfl, k⟩
  have B2 := bvia (B1.alloc B1.size _) k
  obtain ⟨co2, fo2, zo2⟩ := ((Blk.mk co1 fo1 zo1).alloc _).call k
  obtain ⟨cm2, fm2, zm2⟩ := (Blk.new w1 _ _).call k
  clear k co1 fo1 B1
  go_wp2
  all_goals (go_ret; exact ⟨rfl, B2.alloc B2.size _⟩)

set_option maxHeartbeats 1000000 in
/-- No list is held yet. -/
theorem looks_none (b : Nat) (w : World) (hb : Blk w b #[.slice none 0 0]) :
    Calls Tryz.prog 10 #[.pointer (some ⟨b, 0, none⟩)] w fun e w' => e = .returned (.bool true) ∧ w' = w := by
  obtain ⟨c, f, z⟩ := hb
  go_enter Tryz.func10, Tryz.ntmps10
  go_wp2_with fail
  refine wp_loop_rounds 1 ?_
  rw [rounds_succ]
  go_wp2
  go_ret
  exact ⟨rfl, rfl⟩

set_option maxHeartbeats 1000000 in
theorem plays_meet (b : Nat) (n : Int) (A B : Value) (p q r s : Pt) (w : World) :
    Calls Tryz.prog 9 #[.pointer (some ⟨b, 0, none⟩), opV 1 n A B p q r s] w fun e w' => e = .returned (.bool true) ∧ Below w.heap.size w w' := by
  go_enter Tryz.func9, Tryz.ntmps9
  go_wp2_with fail
  refine (met_any 1 n A B p q r s _).mono ?_
  rintro e w1 ⟨rfl, k⟩
  have B1 := bvia ((Below.refl _ _).alloc (Nat.le_refl _) _) k
  obtain ⟨co1, fo1, zo1⟩ := (Blk.new w _ _).call k
  clear k
  go_wp2
  go_ret
  exact ⟨rfl, B1⟩

end Go.Proofs.YtnkcbephceollaaGreat
namespace Go.Proofs.YtnkcbephceollaaGreat
open Go.RowKit
set_option linter.unusedSimpArgs false
set_option linter.unusedVariables false

/-- A step's sixteen cells. -/
structure OpAt (w : World) (b o : Nat) (kd n : Int) (A B : Value) (p q r s : Pt) : Prop where
  c0 : w.cell? ⟨b, o, none⟩ = some (.int .i64 kd)
  c1 : w.cell? ⟨b, o + 1, none⟩ = some (.int .i64 n)
  c2 : w.cell? ⟨b, o + 2, none⟩ = some (A)
  c3 : w.cell? ⟨b, o + 3, none⟩ = some (B)
  c4 : w.cell? ⟨b, o + 4, none⟩ = some (.int .i64 p.x)
  c5 : w.cell? ⟨b, o + 5, none⟩ = some (.int .i64 p.y)
  c6 : w.cell? ⟨b, o + 6, none⟩ = some (.int .i64 p.d)
  c7 : w.cell? ⟨b, o + 7, none⟩ = some (.int .i64 q.x)
  c8 : w.cell? ⟨b, o + 8, none⟩ = some (.int .i64 q.y)
  c9 : w.cell? ⟨b, o + 9, none⟩ = some (.int .i64 q.d)
  c10 : w.cell? ⟨b, o + 10, none⟩ = some (.int .i64 r.x)
  c11 : w.cell? ⟨b, o + 11, none⟩ = some (.int .i64 r.y)
  c12 : w.cell? ⟨b, o + 12, none⟩ = some (.int .i64 r.d)
  c13 : w.cell? ⟨b, o + 13, none⟩ = some (.int .i64 s.x)
  c14 : w.cell? ⟨b, o + 14, none⟩ = some (.int .i64 s.y)
  c15 : w.cell? ⟨b, o + 15, none⟩ = some (.int .i64 s.d)
/-- A script that came in. -/
def OpsAt (w : World) (a : Option Addr) (len : Nat) : Prop :=
  ∀ k, k < len → ∃ (b off : Nat) (kd n : Int) (A B : Value) (p q r s : Pt), a = some ⟨b, off, none⟩ ∧ b < w.heap.size ∧ OpAt w b (off + k * 16) kd n A B p q r s
theorem OpAt.later {w w' : World} {b o : Nat} {kd n : Int} {A B : Value} {p q r s : Pt} {m : Nat} (h : OpAt w b o kd n A B p q r s) (hb : Below m w w') (hl : b < m) : OpAt w' b o kd n A B p q r s :=
  ⟨(hb.cell (p := ⟨b, o, none⟩) hl).trans h.c0, (hb.cell (p := ⟨b, o + 1, none⟩) hl).trans h.c1, (hb.cell (p := ⟨b, o + 2, none⟩) hl).trans h.c2, (hb.cell (p := ⟨b, o + 3, none⟩) hl).trans h.c3, (hb.cell (p := ⟨b, o + 4, none⟩) hl).trans h.c4, (hb.cell (p := ⟨b, o + 5, none⟩) hl).trans h.c5, (hb.cell (p := ⟨b, o + 6, none⟩) hl).trans h.c6, (hb.cell (p := ⟨b, o + 7, none⟩) hl).trans h.c7, (hb.cell (p := ⟨b, o + 8, none⟩) hl).trans h.c8, (hb.cell (p := ⟨b, o + 9, none⟩) hl).trans h.c9, (hb.cell (p := ⟨b, o + 10, none⟩) hl).trans h.c10, (hb.cell (p := ⟨b, o + 11, none⟩) hl).trans h.c11, (hb.cell (p := ⟨b, o + 12, none⟩) hl).trans h.c12, (hb.cell (p := ⟨b, o + 13, none⟩) hl).trans h.c13, (hb.cell (p := ⟨b, o + 14, none⟩) hl).trans h.c14, (hb.cell (p := ⟨b, o + 15, none⟩) hl).trans h.c15⟩

set_option maxRecDepth 100000 in
set_option maxHeartbeats 4000000 in
theorem upto_meets (a0 : Option Addr) (len0 cap0 : Nat) (w : World) (hlen : len0 ≤ 9223372036854775807) (hops : OpsAt w a0 len0) :
    Calls Tryz.prog 8 #[.slice a0 len0 cap0, .int .i64 1, .int .i64 1] w fun e w' => e = .returned (.int .i64 (-1)) ∧ Below w.heap.size w w' := by
  go_enter Tryz.func8, Tryz.ntmps8
  go_wp2_with fail
  go_loopw [8, 9, 10] (fun i _ _ w' => ∃ k : Nat, i = .int .i64 k ∧ k ≤ len0 ∧ Blk w' w.heap.size #[.slice none 0 0] ∧ Below w.heap.size w w') (fun i _ _ _ => (len0 - (intOf i).toNat))
  case atStart => exact ⟨0, rfl, Nat.zero_le _, Blk.new w _ _, (Below.refl _ _).alloc (Nat.le_refl _) _⟩
  case round =>
    obtain ⟨k, rfl, hk, ⟨cw, fw, zw⟩, hbel⟩ := hrel
    by_cases hlt : k < len0
    · obtain ⟨b, off, kd, n, A, B, p, q, r, s, rfl, hb, hop⟩ := hops k hlt
      obtain ⟨c0, c1, c2, c3, c4, c5, c6, c7, c8, c9, c10, c11, c12, c13, c14, c15⟩ := hop.later hbel hb
      clear hops hop
      rcases Int.lt_trichotomy kd 1 with h | rfl | h
      · go_wp2
        exact ⟨⟨k + 1, by go_num, by omega, ⟨cw, fw, zw⟩, hbel⟩, by simp [intOf]; omega⟩
      · go_wp2_with fail
        refine (plays_meet w.heap.size n A B p q r s _).mono ?_
        rintro e w1 ⟨rfl, k1⟩
        have B1 := bvia hbel k1
        obtain ⟨cw1, fw1, zw1⟩ := (Blk.mk cw fw zw).call k1
        clear k1 c0 c1 c2 c3 c4 c5 c6 c7 c8 c9 c10 c11 c12 c13 c14 c15 cw fw
        go_wp2_with fail
        refine (looks_none w.heap.size _ ⟨cw1, fw1, zw1⟩).mono ?_
        rintro e w2 ⟨rfl, rfl⟩
        go_wp2
        exact ⟨⟨k + 1, by go_num, by omega, ⟨cw1, fw1, zw1⟩, B1⟩, by simp [intOf]; omega⟩
      · go_wp2
        exact ⟨⟨k + 1, by go_num, by omega, ⟨cw, fw, zw⟩, hbel⟩, by simp [intOf]; omega⟩
    · go_wp2
      go_ret
      exact ⟨rfl, hbel⟩

theorem meets_walk (a0 : Option Addr) (len0 cap0 : Nat) (w : World) (hlen : len0 ≤ 9223372036854775807) (hops : OpsAt w a0 len0) :
    Calls Tryz.prog 3 #[.slice a0 len0 cap0] w fun e w' => e = .returned (.bool true) ∧ Below w.heap.size w w' := by
  go_enter Tryz.func3, Tryz.ntmps3
  go_wp2_with fail
  refine (upto_meets a0 len0 cap0 _ hlen hops).mono ?_
  rintro e w1 ⟨rfl, k⟩
  go_wp2
  go_ret
  exact ⟨rfl, k⟩
end Go.Proofs.YtnkcbephceollaaGreat
