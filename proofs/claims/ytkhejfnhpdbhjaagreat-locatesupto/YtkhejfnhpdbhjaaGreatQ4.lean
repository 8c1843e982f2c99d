import Derived.Test.YtkhejfnhpdbhjaaGreatK3
import Derived.Test.YtkhejfnhpdbhjaaGreatO2
import Derived.Test.YtkhejfnhpdbhjaaGreatQ3
import Derived.Test.YtkhejfnhpdbhjaaGreatRows
import Derived.WalkKit
import Derived.ProofKit
import Derived.OpenShut
import Derived.ShutString
import Derived.ChangeOld
import Derived.Below
import Derived.JoinedCond
namespace Go.Proofs.YtkhejfnhpdbhjaaGreat
open Go.RowKit
set_option linter.unusedSimpArgs false
set_option linter.unusedVariables false

theorem Wld.holds {w : World} {base wb : Nat} {hv : Value} {L : List Nat} {F : Nat → Nat → Prop} (h : Wld w base wb hv L F) : HoldsAt w hv L ∧ AllMk w L := by
  refine ⟨?_, fun j hj => ?_⟩
  · obtain ⟨a, cap, e1, e2, e3, e4⟩ := own_form h.own
    refine ⟨a, cap, e1, by unfold maxLen at e4; omega, fun j hj => ?_⟩
    obtain ⟨b, hb⟩ := e3 (by omega)
    have hc := own_cell h.own b hb j (by omega)
    rw [List.getElem?_map, List.getElem?_eq_getElem hj] at hc
    refine ⟨b, 0, e2 b hb, ?_⟩
    rw [Nat.zero_add, List.getD_eq_getElem?_getD, List.getElem?_eq_getElem hj]
    exact hc
  · have hm : L.getD j 0 ∈ L := by rw [List.getD_eq_getElem?_getD, List.getElem?_eq_getElem hj]; exact List.getElem_mem hj
    obtain ⟨m, rv, pv, cv, nv, k⟩ := h.all _ hm
    exact ⟨F, m, rv, pv, cv, nv, k⟩
theorem Wld.drewN {w : World} {base wb : Nat} {hv : Value} {L : List Nat} {F : Nat → Nat → Prop} (h : Wld w base wb hv L F) (n : Nat) : Wld (w.drewN n) base wb hv L F :=
  h.kp (X := fun _ => False) ((Kp.refl _ _).drewN n) (fun e => e) (fun _ _ e => e) (fun b o u f c => ⟨c, f⟩)
/-- No hold yet. -/
theorem wld_new (w : World) (t : TypeId) : Wld (w.alloc (.cells #[.slice none 0 0] t)) (w.heap.size + 1) w.heap.size (.slice none 0 0) [] (FX (fun _ _ => True) w.heap.size (.slice none 0 0)) :=
  ⟨Blk.new w _ _, World.ownsRow_nil _ _ _ _, Nat.lt_succ_self _, fun h hh => by cases hh⟩
theorem below_of_kp {w wr w1 : World} {hv : Value} {L : List Nat} {F : Nat → Nat → Prop} (h : Below w.heap.size w wr) (W : Wld wr (w.heap.size + 1) w.heap.size hv L F) (k : Kp (fun b => b = w.heap.size ∨ hv.ownBlock = some b) wr w1) : Below w.heap.size w w1 :=
  ⟨k.os.trans h.os, k.tape.trans h.tape, k.output.trans h.output, Nat.le_trans h.size k.size, fun b hb => (k.block b (Nat.lt_of_lt_of_le hb h.size) (fun e => by
    rcases e with e | e
    · omega
    · have := (W.own.lt b e).1; omega)).trans (h.block b hb)⟩

set_option maxRecDepth 100000 in
set_option maxHeartbeats 4000000 in
theorem upto_checks (a0 : Option Addr) (len0 cap0 : Nat) (N M : Nat → List (List Pt)) (w : World) (hlen : len0 ≤ 9223372036854775807) (hops : PolysAt w a0 len0 N M) (hsum : sumTo N len0 ≤ 1048576) (hsh : ∀ k, k < len0 → Short (N k)) :
    Calls Tryz.prog 7 #[.slice a0 len0 cap0, .int .i64 2, .int .i64 2] w fun e w' => e = .returned (.int .i64 (-1)) ∧ Below w.heap.size w w' := by
  go_enter Tryz.func7, Tryz.ntmps7
  go_wp2_with fail
  go_loopw [8, 9, 10] (fun i _ _ w' => ∃ (k : Nat) (hv : Value) (L : List Nat), i = .int .i64 k ∧ k ≤ len0 ∧ L.length ≤ 4 * sumTo N k ∧ Wld w' (w.heap.size + 1) w.heap.size hv L (FX (fun _ _ => True) w.heap.size hv) ∧ Below w.heap.size w w') (fun i _ _ _ => (len0 - (intOf i).toNat))
  case atStart => exact ⟨0, _, [], rfl, Nat.zero_le _, by simp, wld_new w _, (Below.refl _ _).alloc (Nat.le_refl _) _⟩
  case round =>
    obtain ⟨k, hv, L, rfl, hk, hL, hW, hbel⟩ := hrel
    have HW := hide hW
    have wlt := hW.blk.lt
    have fw := hW.blk.free
    have cw := hW.blk.cell 0
    simp at cw
    by_cases hlt : k < len0
    · obtain ⟨b, off, kd, n, A, B, p, q, r, s, rfl, hb, hop, hPA, _⟩ := hops k hlt
      obtain ⟨c0, c1, c2, c3, c4, c5, c6, c7, c8, c9, c10, c11, c12, c13, c14, c15⟩ := hop.later hbel hb
      have hs1 := sumTo_mono N (show k + 1 ≤ len0 by omega)
      have hs2 : sumTo N (k + 1) = sumTo N k + (1 + (N k).length) := rfl
      have HB := hide hbel
      have HS := hide (hsh k hlt)
      have HP := hide (hPA.later hbel)
      have hs3 : L.length ≤ 4 * sumTo N (k + 1) := by omega
      clear hops hop hsh hPA hW hbel
      rcases Int.lt_trichotomy kd 2 with h | rfl | h
      · go_wp2
        exact ⟨⟨k + 1, hv, L, by go_num, by omega, hs3, HW.out, HB.out⟩, by simp [intOf]; omega⟩
      · have hpl := hide (plays_check (w.heap.size + 1) w.heap.size hv L n A B p q r s (N k) wr (by omega) HS.out (by omega) (by omega) HP.out HW.out)
        go_wp2_with fail
        refine hpl.out.mono ?_
        rintro e w1 ⟨rfl, hv1, L1, hl1, hW1, hk1⟩
        have B1 := hide (below_of_kp HB.out HW.out hk1)
        have HW1 := hide hW1
        have HO := hide hW1.holds
        have cw1 := hW1.blk.cell 0
        simp at cw1
        clear hpl hk1 hW1 c0 c1 c2 c3 c4 c5 c6 c7 c8 c9 c10 c11 c12 c13 c14 c15 cw fw
        go_wp2_with fail
        refine (looks_yes w.heap.size hv1 L1 _ cw1 HO.out.1 HO.out.2).mono ?_
        rintro e w2 ⟨rfl, m, rfl⟩
        have B2 : Hid (Below w.heap.size w (w1.drewN m)) := below_drewN B1.out m
        have HW2 := hide (HW1.out.drewN m)
        clear B1 HW1 HO cw1
        go_wp2
        exact ⟨⟨k + 1, hv1, L1, by go_num, by omega, by omega, HW2.out, B2.out⟩, by simp [intOf]; omega⟩
      · go_wp2
        exact ⟨⟨k + 1, hv, L, by go_num, by omega, hs3, HW.out, HB.out⟩, by simp [intOf]; omega⟩
    · clear hops hsh hW
      go_wp2
      go_ret
      exact ⟨rfl, hbel⟩

theorem checks_walk (a0 : Option Addr) (len0 cap0 : Nat) (N M : Nat → List (List Pt)) (w : World) (hlen : len0 ≤ 9223372036854775807) (hops : PolysAt w a0 len0 N M) (hsum : sumTo N len0 ≤ 1048576) (hsh : ∀ k, k < len0 → Short (N k)) :
    Calls Tryz.prog 4 #[.slice a0 len0 cap0] w fun e w' => e = .returned (.bool true) ∧ Below w.heap.size w w' := by
  have H := hide (upto_checks a0 len0 cap0 N M w hlen hops hsum hsh)
  clear hops hsh
  go_enter Tryz.func4, Tryz.ntmps4
  go_wp2_with fail
  refine H.out.mono ?_
  rintro e w1 ⟨rfl, k⟩
  go_wp2
  go_ret
  exact ⟨rfl, k⟩
end Go.Proofs.YtkhejfnhpdbhjaaGreat
namespace Go.Proofs.YtkhejfnhpdbhjaaGreat
open Go.RowKit
set_option linter.unusedSimpArgs false
set_option linter.unusedVariables false

set_option maxRecDepth 100000 in
set_option maxHeartbeats 4000000 in
theorem located_any (base wb : Nat) (hv : Value) (L : List Nat) (kd n : Int) (A B : Value) (p q r s : Pt) (P : List (List Pt)) (w : World)
    (hn : P.length ≤ 1048576) (hS : ∀ i, i < P.length → (P.getD i []).length ≤ 1048576) (hL : L.length + 4 * P.length + 4 ≤ 100000000) (hbase : base ≤ w.heap.size)
    (hP : PolyAt w A P) (hW : Wld w base wb hv L (FX (fun _ _ => True) wb hv)) :
    Calls Tryz.prog 12 #[.pointer (some ⟨wb, 0, none⟩), opV kd n A B p q r s] w fun e w' => e = .returned (.bool true) ∧ ∃ hv' L', L'.length = L.length + 4 + 4 * P.length ∧ Wld w' base wb hv' L' (FX (fun _ _ => True) wb hv') ∧ Kp (fun b => b = wb ∨ hv.ownBlock = some b) w w' := by
  have HP0 := hide hP
  have HW := hide hW
  have hlo : ∀ b, hv.ownBlock = some b → b < w.heap.size := fun b e => (hW.own.lt b e).2
  have HLO := hide hlo
  have HS := hide hS
  clear hP hW hlo hS
  obtain ⟨W0, hW0⟩ : ∃ W, W = w.alloc (.cells #[.int .i64 kd, .int .i64 n, A, B, .int .i64 p.x, .int .i64 p.y, .int .i64 p.d, .int .i64 q.x, .int .i64 q.y, .int .i64 q.d, .int .i64 r.x, .int .i64 r.y, .int .i64 r.d, .int .i64 s.x, .int .i64 s.y, .int .i64 s.d] 33) := ⟨_, rfl⟩
  have B0 : Hid (Below w.heap.size w W0) := by rw [hW0]; exact (Below.refl _ _).alloc (Nat.le_refl _) _
  have O0 : W0.cell? ⟨w.heap.size, 2, none⟩ = some A := by rw [hW0]; exact (Blk.new w _ _).cell 2
  have O4 : W0.cell? ⟨w.heap.size, 4, none⟩ = some (.int .i64 p.x) := by rw [hW0]; exact (Blk.new w _ _).cell 4
  have O5 : W0.cell? ⟨w.heap.size, 5, none⟩ = some (.int .i64 p.y) := by rw [hW0]; exact (Blk.new w _ _).cell 5
  have O6 : W0.cell? ⟨w.heap.size, 6, none⟩ = some (.int .i64 p.d) := by rw [hW0]; exact (Blk.new w _ _).cell 6
  have z0 : W0.heap.size = w.heap.size + 1 := by rw [hW0]; simp
  have P0 : Hid (PolyAt W0 A P) := HP0.out.later B0.out
  go_enter Tryz.func12, Tryz.ntmps12
  go_wp2_with fail
  rw [← hW0]
  clear hW0
  refine (handed_any A P W0 P0.out hn HS.out).mono ?_
  rintro e w1 ⟨pb, rb, wl, xb, rg, vs, us, rfl, hA, k1⟩
  have c1 := (k1.cell (p := ⟨w.heap.size, 2, none⟩) (by simp; omega)).trans O0
  have x1 := (k1.cell (p := ⟨w.heap.size, 4, none⟩) (by simp; omega)).trans O4
  have y1 := (k1.cell (p := ⟨w.heap.size, 5, none⟩) (by simp; omega)).trans O5
  have d1 := (k1.cell (p := ⟨w.heap.size, 6, none⟩) (by simp; omega)).trans O6
  have p0 := hA.hand.pbk.cell 0
  have p1 := hA.hand.pbk.cell 1
  simp at p0 p1
  have HA := hide hA
  have K1 := hide k1
  have O0' := O0
  have O4' := O4
  have O5' := O5
  have O6' := O6
  clear hA k1 O0 O4 O5 O6
  have A2 : Hid (∀ m, ArgAt (w1.drewN m) W0.heap.size pb rb wl xb rg P vs us) := fun m => HA.out.later (below_drewN (Below.refl _ _) m)
  have K2 : Hid (∀ m, Below W0.heap.size W0 (w1.drewN m)) := fun m => below_drewN K1.out m
  have P2 := hide (fun m => (A2.out m).poly hn HS.out)
  have CI := hide (it_any pb rb wl P.length w1.drew p0 p1)
  go_upto_region 2 with fail
  go_cut [6, 7] (fun nv ev w' => nv = .int .i64 (locM P p).1 ∧ ev = .int .i64 (locM P p).2 ∧ Hid (ArgAt w' W0.heap.size pb rb wl xb rg P vs us) ∧ Hid (Below W0.heap.size W0 w'))
  case first =>
    go_region_with (first
      | (go_at_call 21; refine CI.out.mono ?_; rintro e w2 ⟨rfl, m2, rfl⟩)
      | (go_at_call 25; refine (Locate_any _ P p _ (P2.out _)).mono ?_; rintro e w3 ⟨rfl, k3⟩))
    all_goals
      go_wp2_with fail
      go_meet
      case rel => exact ⟨rfl, rfl, (A2.out _).later k3, bvia (K2.out _) k3⟩
  case rest =>
  obtain ⟨rfl, rfl, A3, K3⟩ := hcut
  have P3 : Hid (PolyAt wc A P) := P0.out.later K3.out
  have c3 : wc.cell? ⟨w.heap.size, 2, none⟩ = some A := (K3.out.cell (p := ⟨w.heap.size, 2, none⟩) (by simp; omega)).trans O0'
  have x3 : wc.cell? ⟨w.heap.size, 4, none⟩ = some (.int .i64 p.x) := (K3.out.cell (p := ⟨w.heap.size, 4, none⟩) (by simp; omega)).trans O4'
  have y3 : wc.cell? ⟨w.heap.size, 5, none⟩ = some (.int .i64 p.y) := (K3.out.cell (p := ⟨w.heap.size, 5, none⟩) (by simp; omega)).trans O5'
  have d3 : wc.cell? ⟨w.heap.size, 6, none⟩ = some (.int .i64 p.d) := (K3.out.cell (p := ⟨w.heap.size, 6, none⟩) (by simp; omega)).trans O6'
  clear p0 p1 c1 x1 y1 d1 A2 K2 P2 HA K1
  have hloc := locM_eq P p
  go_wp2_with fail
  refine (rLocate_any A P p _ P3.out HS.out).mono ?_
  rintro e w4 ⟨rfl, k4⟩
  rw [hloc]
  clear hloc x3 y3 d3
  have z3 := K3.out.size
  have A4 : Hid (ArgAt w4 W0.heap.size pb rb wl xb rg P vs us) := A3.out.later k4
  have K4 : Hid (Below W0.heap.size W0 w4) := bvia K3.out k4
  have P4 : Hid (PolyAt w4 A P) := P3.out.later k4
  have c4 := (k4.cell (p := ⟨w.heap.size, 2, none⟩) (by simp; omega)).trans c3
  clear c3 k4 A3 K3 P3
  go_wp2_with fail
  refine (still_any A P _ P4.out A4.out hn HS.out).mono ?_
  rintro e w5 ⟨rfl, k5⟩
  have z4 := K4.out.size
  have A5 : Hid (ArgAt w5 W0.heap.size pb rb wl xb rg P vs us) := A4.out.later k5
  have K5 : Hid (Below W0.heap.size W0 w5) := bvia K4.out k5
  have B5 : Hid (Below w.heap.size w w5) := bvia B0.out K5.out
  have V5 : Hid (Wld w5 base wb hv L (FX (fun b _ => b < W0.heap.size) wb hv)) := (HW.out.call B5.out).weaken (fun b o u ⟨x, y⟩ _ => ⟨by omega, y⟩)
  have z5 := B5.out.size
  clear c4 k5 A4 K4 P4
  go_wp2_with fail
  refine (keepArg_any base wb W0.heap.size pb rb wl xb rg hv L P vs us w5 hn HS.out hL (by omega) (by omega) (fun b e => by have := HLO.out b e; omega) V5.out A5.out).mono ?_
  rintro e w6 ⟨rfl, hv', L', hl, hW', hk, _⟩
  have HW' := hide hW'
  have HK' : Hid (Kp (fun b => b = wb ∨ hv.ownBlock = some b) w w6) := ⟨hk.os.trans B5.out.os, hk.tape.trans B5.out.tape, hk.output.trans B5.out.output, Nat.le_trans z5 hk.size, fun b hb hnx => (hk.block b (by omega) (fun e => by
    rcases e with e | e | e
    · exact hnx (.inl e)
    · exact hnx (.inr e)
    · omega)).trans (B5.out.block b hb)⟩
  clear hW' hk
  go_wp2
  go_ret
  exact ⟨rfl, hv', L', hl, HW'.out, HK'.out⟩

set_option maxHeartbeats 1000000 in
theorem plays_locate (base wb : Nat) (hv : Value) (L : List Nat) (n : Int) (A B : Value) (p q r s : Pt) (P : List (List Pt)) (w : World)
    (hn : P.length ≤ 1048576) (hS : ∀ i, i < P.length → (P.getD i []).length ≤ 1048576) (hL : L.length + 4 * P.length + 4 ≤ 100000000) (hbase : base ≤ w.heap.size)
    (hP : PolyAt w A P) (hW : Wld w base wb hv L (FX (fun _ _ => True) wb hv)) :
    Calls Tryz.prog 8 #[.pointer (some ⟨wb, 0, none⟩), opV 3 n A B p q r s] w fun e w' => e = .returned (.bool true) ∧ ∃ hv' L', L'.length = L.length + 4 + 4 * P.length ∧ Wld w' base wb hv' L' (FX (fun _ _ => True) wb hv') ∧ Kp (fun b => b = wb ∨ hv.ownBlock = some b) w w' := by
  have B0 : Hid (Below w.heap.size w (w.alloc (.cells #[.int .i64 3, .int .i64 n, A, B, .int .i64 p.x, .int .i64 p.y, .int .i64 p.d, .int .i64 q.x, .int .i64 q.y, .int .i64 q.d, .int .i64 r.x, .int .i64 r.y, .int .i64 r.d, .int .i64 s.x, .int .i64 s.y, .int .i64 s.d] 33))) := (Below.refl _ _).alloc (Nat.le_refl _) _
  have H := hide (located_any base wb hv L 3 n A B p q r s P _ hn hS hL (by have := B0.out.size; omega) (hP.later B0.out) ((hW.call B0.out).weaken (F' := FX (fun _ _ => True) wb hv) (fun b o u ⟨_, y⟩ _ => ⟨trivial, y⟩)))
  clear hP hW hS
  go_enter Tryz.func8, Tryz.ntmps8
  go_wp2_with fail
  refine H.out.mono ?_
  rintro e w1 ⟨rfl, hv', L', hl, hW', hk⟩
  have HW' := hide hW'
  have HK' : Hid (Kp (fun b => b = wb ∨ hv.ownBlock = some b) w w1) := (Kp.of B0.out).trans hk
  clear hW' hk H B0
  go_wp2
  go_ret
  exact ⟨rfl, hv', L', hl, HW'.out, HK'.out⟩
end Go.Proofs.YtkhejfnhpdbhjaaGreat
namespace Go.Proofs.YtkhejfnhpdbhjaaGreat
open Go.RowKit
set_option linter.unusedSimpArgs false
set_option linter.unusedVariables false

set_option maxRecDepth 100000 in
set_option maxHeartbeats 4000000 in
theorem upto_locates (a0 : Option Addr) (len0 cap0 : Nat) (N M : Nat → List (List Pt)) (w : World) (hlen : len0 ≤ 9223372036854775807) (hops : PolysAt w a0 len0 N M) (hsum : sumTo N len0 ≤ 1048576) (hsh : ∀ k, k < len0 → Short (N k)) :
    Calls Tryz.prog 7 #[.slice a0 len0 cap0, .int .i64 3, .int .i64 3] w fun e w' => e = .returned (.int .i64 (-1)) ∧ Below w.heap.size w w' := by
  go_enter Tryz.func7, Tryz.ntmps7
  go_wp2_with fail
  go_loopw [8, 9, 10] (fun i _ _ w' => ∃ (k : Nat) (hv : Value) (L : List Nat), i = .int .i64 k ∧ k ≤ len0 ∧ L.length ≤ 4 * sumTo N k ∧ Wld w' (w.heap.size + 1) w.heap.size hv L (FX (fun _ _ => True) w.heap.size hv) ∧ Below w.heap.size w w') (fun i _ _ _ => (len0 - (intOf i).toNat))
  case atStart => exact ⟨0, _, [], rfl, Nat.zero_le _, by simp, wld_new w _, (Below.refl _ _).alloc (Nat.le_refl _) _⟩
  case round =>
    obtain ⟨k, hv, L, rfl, hk, hL, hW, hbel⟩ := hrel
    have HW := hide hW
    have wlt := hW.blk.lt
    have fw := hW.blk.free
    have cw := hW.blk.cell 0
    simp at cw
    by_cases hlt : k < len0
    · obtain ⟨b, off, kd, n, A, B, p, q, r, s, rfl, hb, hop, hPA, _⟩ := hops k hlt
      obtain ⟨c0, c1, c2, c3, c4, c5, c6, c7, c8, c9, c10, c11, c12, c13, c14, c15⟩ := hop.later hbel hb
      have hs1 := sumTo_mono N (show k + 1 ≤ len0 by omega)
      have hs2 : sumTo N (k + 1) = sumTo N k + (1 + (N k).length) := rfl
      have HB := hide hbel
      have HS := hide (hsh k hlt)
      have HP := hide (hPA.later hbel)
      have hs3 : L.length ≤ 4 * sumTo N (k + 1) := by omega
      clear hops hop hsh hPA hW hbel
      rcases Int.lt_trichotomy kd 3 with h | rfl | h
      · go_wp2
        exact ⟨⟨k + 1, hv, L, by go_num, by omega, hs3, HW.out, HB.out⟩, by simp [intOf]; omega⟩
      · have hpl := hide (plays_locate (w.heap.size + 1) w.heap.size hv L n A B p q r s (N k) wr (by omega) HS.out (by omega) (by omega) HP.out HW.out)
        go_wp2_with fail
        refine hpl.out.mono ?_
        rintro e w1 ⟨rfl, hv1, L1, hl1, hW1, hk1⟩
        have B1 := hide (below_of_kp HB.out HW.out hk1)
        have HW1 := hide hW1
        have HO := hide hW1.holds
        have cw1 := hW1.blk.cell 0
        simp at cw1
        clear hpl hk1 hW1 c0 c1 c2 c3 c4 c5 c6 c7 c8 c9 c10 c11 c12 c13 c14 c15 cw fw
        go_wp2_with fail
        refine (looks_yes w.heap.size hv1 L1 _ cw1 HO.out.1 HO.out.2).mono ?_
        rintro e w2 ⟨rfl, m, rfl⟩
        have B2 : Hid (Below w.heap.size w (w1.drewN m)) := below_drewN B1.out m
        have HW2 := hide (HW1.out.drewN m)
        clear B1 HW1 HO cw1
        go_wp2
        exact ⟨⟨k + 1, hv1, L1, by go_num, by omega, by omega, HW2.out, B2.out⟩, by simp [intOf]; omega⟩
      · go_wp2
        exact ⟨⟨k + 1, hv, L, by go_num, by omega, hs3, HW.out, HB.out⟩, by simp [intOf]; omega⟩
    · clear hops hsh hW
      go_wp2
      go_ret
      exact ⟨rfl, hbel⟩

theorem locates_walk (a0 : Option Addr) (len0 cap0 : Nat) (N M : Nat → List (List Pt)) (w : World) (hlen : len0 ≤ 9223372036854775807) (hops : PolysAt w a0 len0 N M) (hsum : sumTo N len0 ≤ 1048576) (hsh : ∀ k, k < len0 → Short (N k)) :
    Calls Tryz.prog 5 #[.slice a0 len0 cap0] w fun e w' => e = .returned (.bool true) ∧ Below w.heap.size w w' := by
  have H := hide (upto_locates a0 len0 cap0 N M w hlen hops hsum hsh)
  clear hops hsh
  go_enter Tryz.func5, Tryz.ntmps5
  go_wp2_with fail
  refine H.out.mono ?_
  rintro e w1 ⟨rfl, k⟩
  go_wp2
  go_ret
  exact ⟨rfl, k⟩
end Go.Proofs.YtkhejfnhpdbhjaaGreat
namespace Go.Proofs.YtkhejfnhpdbhjaaGreat
open Go.ChangeShapes Go.WideShapes Go.ChangeAt Go.RowKit
open Go.ChangeMaps (open_string shut_string)
set_option linter.unusedVariables false

theorem locates_own : ownKnob Tryz.prog.godebug = none := by kernel_rfl
theorem locates_laidOut : laidOutB Tryz.prog = true := by kernel_rfl

set_option maxRecDepth 100000 in
theorem locates_lifted (os : Os) (started : os.Started) (H : Type) (enc : TypeId × Value → H) (F : Stop.Interp) :
    ReturnsInHanded {} Tryz.checked os 5 .any ((Rows.OpenSpec.upto Rows.locatesSpec).pre6 enc Tryz.prog Tryz.f5 Rows.locatesUptoRow.domain false) (((Rows.OpenSpec.upto Rows.locatesSpec).at F).post enc Tryz.prog Tryz.f5 false true false false) := by
  refine returnsInHanded_of_cond (C := Tryz.checked) (s := Rows.OpenSpec.upto Rows.locatesSpec) (k := Rows.uptoSmall) rfl locates_own started (by kernel_rfl) Tryz.func5
    (OpenSpec.witness (enc := enc) (C := Tryz.checked) (s := Rows.OpenSpec.upto Rows.locatesSpec) (k := Rows.uptoSmall) rfl false ⟨#[], #[.slice none 0 0], []⟩ 8 (by kernel_rfl) (by kernel_rfl) (by kernel_rfl)
      (x := ([.nil], [], [])) (by kernel_rfl) rfl (by kernel_rfl)) ?_
  intro W base args ds gs before hval0 hW _ hk _
  have hval : ∀ (j : Nat) t v, Tryz.f5.params[j]? = some t → args[j]? = some v → Value.okWide Tryz.prog W .any base t v := hval0
  have hW' := hW
  obtain ⟨p, q, hA0, hV, rfl, hfz, hnd⟩ := hW
  have hA : DataW.TrodAll enc Tryz.prog W 0 (fun _ => true) true Tryz.f5.params.toList args.toList ds p := hA0
  rw [Tryz.params5] at hA hval
  obtain ⟨v0, vs0, d0, ds0, p0, q0, hargs, rfl, rfl, h0, r0⟩ := trodAll_cons hA
  obtain ⟨rfl, rfl, rfl⟩ := trodAll_nil r0
  obtain rfl : args = #[v0] := by cases args; simp_all
  obtain ⟨rfl, rfl⟩ := trodVars_none hV
  obtain ⟨a0, len0, cap0, rfl⟩ := okWide_slice Tryz.underlying22 (hval 0 22 v0 rfl rfl)
  have k0 := h0
  have lt0 : ∀ x ∈ p0, x.block < W.heap.size := by obtain ⟨m, hm⟩ := k0; exact DataW.trod_lt m _ _ _ hm
  have hbulk : Rows.uptoBulk d0 ≤ 1048576 := by
    have h : Rows.uptoBulkAll ([d0] ++ []) ≤ 1048576 := of_decide_eq_true hk
    simp only [List.append_nil, Rows.uptoBulkAll] at h
    omega
  obtain ⟨hlen, N, M, hops, hsum, _, hsh⟩ : len0 ≤ 9223372036854775807 ∧ ∃ N M, PolysAt W a0 len0 N M ∧ sumTo N len0 ≤ 1048576 ∧ sumTo M len0 ≤ 1048576 ∧ ∀ k, k < len0 → Short (N k) ∧ Short (M k) := by
    obtain ⟨fuel, hf⟩ := h0
    exact polys_of (by simpa [Value.cells] using hf) hbulk
  clear hA0 hval0
  refine (locates_walk a0 len0 cap0 N M W hlen hops hsum (fun k hk => (hsh k hk).1)).mono fun e W' ⟨he, bel⟩ => ?_
  subst he
  exact ⟨_, rfl, _, _, _, [], _, [], hW', trodAll_mk1 (shut_bool Tryz.underlying4 _), (trodAll_cons_mk (Below.trod locates_laidOut (by kernel_rfl) (of_decide_eq_true (by kernel_rfl)) k0 bel lt0) trodAll_mk0), rfl, bel.frame _, fun h => by cases h⟩

theorem locates_over : Rows.locatesUptoRow.holds Tryz.pinned (Rows.OpenSpec.upto Rows.locatesSpec) :=
  OpenClaim.holds_of_cond 5 Tryz.f5 rfl rfl rfl rfl rfl rfl rfl ⟨rfl, rfl, rfl, rfl, rfl⟩ rfl rfl rfl rfl rfl (by kernel_rfl) Tryz.func5 (by kernel_rfl)
    (of_decide_eq_true (by kernel_rfl)) (by unfold Func.isWrapper; first | (rw [if_pos (by decide +kernel)]; kernel_rfl) | (rw [if_neg (by decide +kernel)]; exact ⟨rfl, rfl⟩))
    (fun os started H enc _ F => locates_lifted os started H enc F)

/-- The statement. -/
theorem locates_holds : Rows.LocatesUptoSaid := locates_over
#print axioms locates_holds
end Go.Proofs.YtkhejfnhpdbhjaaGreat
