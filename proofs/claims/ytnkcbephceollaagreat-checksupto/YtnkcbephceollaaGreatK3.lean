import Derived.Test.YtnkcbephceollaaGreatK2
import Derived.Test.YtnkcbephceollaaGreatQ43
namespace Go.Proofs.YtnkcbephceollaaGreat
open Go.RowKit
set_option linter.unusedSimpArgs false
set_option linter.unusedVariables false

theorem Wld.call {w w' : World} {base wb : Nat} {hv : Value} {L : List Nat} {G : Nat → Nat → Prop} (h : Wld w base wb hv L (FX G wb hv)) (k : Below w.heap.size w w') : Wld w' base wb hv L (FX (fun b _ => b < w.heap.size) wb hv) :=
  h.kp (X := fun _ => False) (Kp.of k) (fun e => e) (fun _ _ e => e) (fun b o u ⟨_, y⟩ hc =>
    have hlt : b < w.heap.size := World.block_lt_of_cell? w ⟨b, o, none⟩ hc
    ⟨(k.cell (p := ⟨b, o, none⟩) hlt).trans hc, hlt, y⟩)

set_option maxRecDepth 100000 in
set_option maxHeartbeats 4000000 in
theorem checked_any (base wb : Nat) (hv : Value) (L : List Nat) (kd n : Int) (A B : Value) (p q r s : Pt) (P : List (List Pt)) (w : World)
    (hn : P.length ≤ 1048576) (hS : ∀ i, i < P.length → (P.getD i []).length ≤ 1048576) (hL : L.length + 4 * P.length + 4 ≤ 1000000000000) (hbase : base ≤ w.heap.size)
    (hP : PolyAt w A P) (hW : Wld w base wb hv L (FX (fun _ _ => True) wb hv)) :
    Calls Tryz.prog 12 #[.pointer (some ⟨wb, 0, none⟩), opV kd n A B p q r s] w fun e w' => e = .returned (.bool true) ∧ ∃ hv' L', L'.length = L.length + 4 + 4 * P.length ∧ Wld w' base wb hv' L' (FX (fun _ _ => True) wb hv') ∧ Kp (fun b => b = wb ∨ hv.ownBlock = some b) w w' := by
  have HP0 := hide hP
  have HW := hide hW
  have hlo : ∀ b, hv.ownBlock = some b → b < w.heap.size := fun b e => (hW.own.lt b e).2
  have HLO := hide hlo
  have HS := hide hS
  clear hP hW hlo hS
  obtain ⟨W0, hW0⟩ : ∃ W, W = w.alloc (.cells #[.int .i64 kd, .int .i64 n, A, B, .int .i64 p.x, .int .i64 p.y, .int .i64 p.d, .int .i64 q.x, .int .i64 q.y, .int .i64 q.d, .int .i64 r.x, .int .i64 r.y, .int .i64 r.d, .int .i64 s.x, .int .i64 s.y, .int .i64 s.d] 33) := ⟨_, rfl⟩
  have B0 : Hid (Below w.heap.size w W0) := by rw [hW0]; exact (Below.refl _ _).alloc (Nat.le_refl _) _
  have O0 : W0.cell? ⟨w.heap.size, 2, none⟩ = some A := by rw [hW0]; exact (Blk.new w _ _).cell 2
  have z0 : W0.heap.size = w.heap.size + 1 := by rw [hW0]; simp
  have P0 : Hid (PolyAt W0 A P) := HP0.out.later B0.out
  go_enter Tryz.func12, Tryz.ntmps12
  go_wp2_with fail
  rw [← hW0]
  clear hW0
  refine (handed_any A P W0 P0.out hn HS.out).mono ?_
  rintro e w1 ⟨pb, rb, wl, xb, rg, vs, us, rfl, hA, k1⟩
  have c1 := (k1.cell (p := ⟨w.heap.size, 2, none⟩) (by simp; omega)).trans O0
  have p0 := hA.hand.pbk.cell 0
  have p1 := hA.hand.pbk.cell 1
  simp at p0 p1
  have HA := hide hA
  have K1 := hide k1
  clear hA k1 O0
  go_wp2_with fail
  refine (it_any pb rb wl P.length _ p0 p1).mono ?_
  rintro e w2 ⟨rfl, m2, rfl⟩
  have k2 : Hid (Below w1.heap.size w1 (w1.drewN m2)) := below_drewN (Below.refl _ _) _
  have A2 : Hid (ArgAt (w1.drewN m2) W0.heap.size pb rb wl xb rg P vs us) := HA.out.later k2.out
  go_wp2_with fail
  refine (Check_any _ P _ (A2.out.poly hn HS.out)).mono ?_
  rintro e w3 ⟨rfl, k3⟩
  have A3 : Hid (ArgAt w3 W0.heap.size pb rb wl xb rg P vs us) := A2.out.later k3
  have K3 : Hid (Below W0.heap.size W0 w3) := bvia (bvia K1.out k2.out) k3
  have P3 : Hid (PolyAt w3 A P) := P0.out.later K3.out
  have c3 := (k3.cell (p := ⟨w.heap.size, 2, none⟩) (by have := K1.out.size; simp; omega)).trans c1
  clear p0 p1 c1 k3 k2 A2 HA K1
  go_wp2_with fail
  refine (rCheck_any A P _ P3.out HS.out).mono ?_
  rintro e w4 ⟨rfl, k4⟩
  have z3 := K3.out.size
  have A4 : Hid (ArgAt w4 W0.heap.size pb rb wl xb rg P vs us) := A3.out.later k4
  have K4 : Hid (Below W0.heap.size W0 w4) := bvia K3.out k4
  have P4 : Hid (PolyAt w4 A P) := P3.out.later k4
  have c4 := (k4.cell (p := ⟨w.heap.size, 2, none⟩) (by simp; omega)).trans c3
  clear c3 k4 A3 K3 P3
  go_wp2_with fail
  refine (still_any A P _ P4.out A4.out hn HS.out).mono ?_
  rintro e w5 ⟨rfl, k5⟩
  have z4 := K4.out.size
  have A5 : Hid (ArgAt w5 W0.heap.size pb rb wl xb rg P vs us) := A4.out.later k5
  have K5 : Hid (Below W0.heap.size W0 w5) := bvia K4.out k5
  have B5 : Hid (Below w.heap.size w w5) := bvia B0.out K5.out
  have V5 : Hid (Wld w5 base wb hv L (FX (fun b _ => b < W0.heap.size) wb hv)) := (HW.out.call B5.out).weaken (fun b o u ⟨x, y⟩ _ => ⟨by omega, y⟩)
  have z5 := B5.out.size
  clear c4 k5 A4 K4 P4
  go_wp2_with fail
  refine (keepArg_any base wb W0.heap.size pb rb wl xb rg hv L P vs us w5 hn HS.out hL (by omega) (by omega) (fun b e => by have := HLO.out b e; omega) V5.out A5.out).mono ?_
  rintro e w6 ⟨rfl, hv', L', hl, hW', hk, _⟩
  have HW' := hide hW'
  have HK' : Hid (Kp (fun b => b = wb ∨ hv.ownBlock = some b) w w6) := ⟨hk.os.trans B5.out.os, hk.tape.trans B5.out.tape, hk.output.trans B5.out.output, Nat.le_trans z5 hk.size, fun b hb hnx => (hk.block b (by omega) (fun e => by
    rcases e with e | e | e
    · exact hnx (.inl e)
    · exact hnx (.inr e)
    · omega)).trans (B5.out.block b hb)⟩
  clear hW' hk
  go_wp2
  go_ret
  exact ⟨rfl, hv', L', hl, HW'.out, HK'.out⟩

set_option maxHeartbeats 1000000 in
theorem plays_check (base wb : Nat) (hv : Value) (L : List Nat) (n : Int) (A B : Value) (p q r s : Pt) (P : List (List Pt)) (w : World)
    (hn : P.length ≤ 1048576) (hS : ∀ i, i < P.length → (P.getD i []).length ≤ 1048576) (hL : L.length + 4 * P.length + 4 ≤ 1000000000000) (hbase : base ≤ w.heap.size)
    (hP : PolyAt w A P) (hW : Wld w base wb hv L (FX (fun _ _ => True) wb hv)) :
    Calls Tryz.prog 9 #[.pointer (some ⟨wb, 0, none⟩), opV 2 n A B p q r s] w fun e w' => e = .returned (.bool true) ∧ ∃ hv' L', L'.length = L.length + 4 + 4 * P.length ∧ Wld w' base wb hv' L' (FX (fun _ _ => True) wb hv') ∧ Kp (fun b => b = wb ∨ hv.ownBlock = some b) w w' := by
  have B0 : Hid (Below w.heap.size w (w.alloc (.cells #[.int .i64 2, .int .i64 n, A, B, .int .i64 p.x, .int .i64 p.y, .int .i64 p.d, .int .i64 q.x, .int .i64 q.y, .int .i64 q.d, .int .i64 r.x, .int .i64 r.y, .int .i64 r.d, .int .i64 s.x, .int .i64 s.y, .int .i64 s.d] 33))) := (Below.refl _ _).alloc (Nat.le_refl _) _
  have H := hide (checked_any base wb hv L 2 n A B p q r s P _ hn hS hL (by have := B0.out.size; omega) (hP.later B0.out) ((hW.call B0.out).weaken (F' := FX (fun _ _ => True) wb hv) (fun b o u ⟨_, y⟩ _ => ⟨trivial, y⟩)))
  clear hP hW hS
  go_enter Tryz.func9, Tryz.ntmps9
  go_wp2_with fail
  refine H.out.mono ?_
  rintro e w1 ⟨rfl, hv', L', hl, hW', hk⟩
  have HW' := hide hW'
  have HK' : Hid (Kp (fun b => b = wb ∨ hv.ownBlock = some b) w w1) := (Kp.of B0.out).trans hk
  clear hW' hk H B0
  go_wp2
  go_ret
  exact ⟨rfl, hv', L', hl, HW'.out, HK'.out⟩
end Go.Proofs.YtnkcbephceollaaGreat
