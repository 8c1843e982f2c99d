import Derived.Test.YtnkcbephceollaaGreatQ45
import Derived.Test.YtnkcbephceollaaGreatG5
import Derived.Test.YtnkcbephceollaaGreatR10
import Derived.Test.YtnkcbephceollaaGreatQ36
namespace Go.Proofs.YtnkcbephceollaaGreat
set_option linter.unusedVariables false
set_option linter.unusedSimpArgs false

/-- The document's reckoning is the program's. -/
theorem rlocM_eq (P : List (List Pt)) (q : Pt) (hq : goodB q = true) (hG : ∀ p ∈ P.flatten, goodB p = true) : rlocM P q = whereM q 0 (edgesM P) := by
  have hd : ∀ v, goodB v = true → 0 < v.d := fun v h => by have := of_decide_eq_true h; omega
  have eany : (edgesM P).any (fun e => hasM e.1 e.2 q) = (edgesM P).any (fun e => onB q e.1 e.2) := by
    refine Bool.eq_iff_iff.2 ?_
    simp only [List.any_eq_true]
    constructor
    · rintro ⟨e, he, h⟩
      obtain ⟨m1, m2⟩ := edge_ends he
      exact ⟨e, he, by rw [← has_on (hd _ (hG _ m1)) (hd _ (hG _ m2)) (hd _ hq)]; exact h⟩
    · rintro ⟨e, he, h⟩
      obtain ⟨m1, m2⟩ := edge_ends he
      exact ⟨e, he, by rw [has_on (hd _ (hG _ m1)) (hd _ (hG _ m2)) (hd _ hq)]; exact h⟩
  unfold rlocM
  cases h : (edgesM P).any (fun e => onB q e.1 e.2)
  case true => rw [if_pos rfl, whereM_two q _ _ (eany.trans h)]
  case false =>
    rw [if_neg (by decide), whereM_eq q _ 0 (.inl rfl) (eany.trans h)]
    have hon : ∀ e ∈ edgesM P, onB q e.1 e.2 = false := fun e he => by
      cases k : onB q e.1 e.2
      · rfl
      · have : (edgesM P).any (fun e => onB q e.1 e.2) = true := List.any_eq_true.2 ⟨e, he, k⟩
        rw [h] at this; cases this
    have hne : ∀ v ∈ P.flatten, ¬ (xv q v = 0 ∧ yv q v = 0) := fun v hv ⟨h1, h2⟩ => by
      obtain ⟨e, he, rfl⟩ := first_edge hv
      have := on_first (hd _ (hG _ hv)) (hd _ (hG _ (edge_ends he).2)) (hd _ hq) h1 h2 (b := e.2)
      rw [hon e he] at this; cases this
    have hxr : xv q (rightP q) ≠ 0 := by
      have h0 := hd _ hq
      have e : xv q (rightP q) = q.d * q.d := by unfold xv rightP; grind
      rw [e]
      have := mul_pp h0 h0
      omega
    obtain ⟨k, hk, hA, _⟩ := far_free (p := q) (r := rightP q) hq (fun v hv => hd _ (hG v hv)) hne hxr
    rw [hk]
    have par := parity_up (o := outP k) (q := q) (P := P) (by simp [outP]) (hd _ hq) (fun v hv => hd _ (hG v hv)) (fun v hv => (out_xv k (hG v hv)).1) hA hon
    have e2 : parB (fun a b => overM a b q) (edgesM P) = parB (overB q) (edgesM P) := parB_congr fun e he => by
      obtain ⟨m1, m2⟩ := edge_ends he
      exact over_eq (hd _ (hG _ m1)) (hd _ (hG _ m2)) (hd _ hq)
    rw [e2, ← par, parB_count]
    unfold nCross
    by_cases c : (edgesM P).countP (fun e => crossB (outP k) q e.1 e.2) % 2 = 1
    · rw [if_pos c]; simp [c]
    · rw [if_neg c]; simp [c]
theorem locM_eq (P : List (List Pt)) (q : Pt) : rLocM P q = locM P q := by
  unfold rLocM locM
  cases h : moreM 2000 P
  case true => rfl
  case false =>
    rw [if_neg (show ¬ (false = true) by decide), if_neg (show ¬ (false = true) by decide)]
    rw [List.all_append, all_firsts]
    cases hF : P.flatten.all goodB
    · cases hq : goodB q <;> simp [hq]
    · cases hq : goodB q
      · simp [hq]
      · have e := rlocM_eq P q hq (fun p hp => List.all_eq_true.1 hF p hp)
        rw [e]
        simp [hq]
end Go.Proofs.YtnkcbephceollaaGreat
namespace Go.Proofs.YtnkcbephceollaaGreat
open Go.RowKit
set_option linter.unusedSimpArgs false
set_option linter.unusedVariables false

set_option maxRecDepth 100000 in
set_option maxHeartbeats 4000000 in
theorem located_any (base wb : Nat) (hv : Value) (L : List Nat) (kd n : Int) (A B : Value) (p q r s : Pt) (P : List (List Pt)) (w : World)
    (hn : P.length ≤ 1048576) (hS : ∀ i, i < P.length → (P.getD i []).length ≤ 1048576) (hL : L.length + 4 * P.length + 4 ≤ 1000000000000) (hbase : base ≤ w.heap.size)
    (hP : PolyAt w A P) (hW : Wld w base wb hv L (FX (fun _ _ => True) wb hv)) :
    Calls Tryz.prog 13 #[.pointer (some ⟨wb, 0, none⟩), opV kd n A B p q r s] w fun e w' => e = .returned (.bool true) ∧ ∃ hv' L', L'.length = L.length + 4 + 4 * P.length ∧ Wld w' base wb hv' L' (FX (fun _ _ => True) wb hv') ∧ Kp (fun b => b = wb ∨ hv.ownBlock = some b) w w' := by
  have HP0 := hide hP
  have HW := hide hW
  have hlo : ∀ b, hv.ownBlock = some b → b < w.heap.size := fun b e => (hW.own.lt b e).2
  have HLO := hide hlo
  have HS := hide hS
  clear hP hW hlo hS
  obtain ⟨W0, hW0⟩ : ∃ W, W = w.alloc (.cells #[.int .i64 kd, .int .i64 n, A, B, .int .i64 p.x, .int .i64 p.y, .int .i64 p.d, .int .i64 q.x, .int .i64 q.y, .int .i64 q.d, .int .i64 r.x, .int .i64 r.y, .int .i64 r.d, .int .i64 s.x, .int .i64 s.y, .int .i64 s.d] 33) := ⟨_, rfl⟩
  have B0 : Hid (Below w.heap.size w W0) := by rw [hW0]; exact (Below.refl _ _).alloc (Nat.le_refl _) _
  have O0 : W0.cell? ⟨w.heap.size, 2, none⟩ = some A := by rw [hW0]; exact (Blk.new w _ _).cell 2
  have O4 : W0.cell? ⟨w.heap.size, 4, none⟩ = some (.int .i64 p.x) := by rw [hW0]; exact (Blk.new w _ _).cell 4
  have O5 : W0.cell? ⟨w.heap.size, 5, none⟩ = some (.int .i64 p.y) := by rw [hW0]; exact (Blk.new w _ _).cell 5
  have O6 : W0.cell? ⟨w.heap.size, 6, none⟩ = some (.int .i64 p.d) := by rw [hW0]; exact (Blk.new w _ _).cell 6
  have z0 : W0.heap.size = w.heap.size + 1 := by rw [hW0]; simp
  have P0 : Hid (PolyAt W0 A P) := HP0.out.later B0.out
  go_enter Tryz.func13, Tryz.ntmps13
  go_wp2_with fail
  rw [← hW0]
  clear hW0
  refine (handed_any A P W0 P0.out hn HS.out).mono ?_
  rintro e w1 ⟨pb, rb, wl, xb, rg, vs, us, rfl, hA, k1⟩
  have c1 := (k1.cell (p := ⟨w.heap.size, 2, none⟩) (by simp; omega)).trans O0
  have x1 := (k1.cell (p := ⟨w.heap.size, 4, none⟩) (by simp; omega)).trans O4
  have y1 := (k1.cell (p := ⟨w.heap.size, 5, none⟩) (by simp; omega)).trans O5
  have d1 := (k1.cell (p := ⟨w.heap.size, 6, none⟩) (by simp; omega)).trans O6
  have p0 := hA.hand.pbk.cell 0
  have p1 := hA.hand.pbk.cell 1
  simp at p0 p1
  have HA := hide hA
  have K1 := hide k1
  have O0' := O0
  have O4' := O4
  have O5' := O5
  have O6' := O6
  clear hA k1 O0 O4 O5 O6
  have A2 : Hid (∀ m, ArgAt (w1.drewN m) W0.heap.size pb rb wl xb rg P vs us) := fun m => HA.out.later (below_drewN (Below.refl _ _) m)
  have K2 : Hid (∀ m, Below W0.heap.size W0 (w1.drewN m)) := fun m => below_drewN K1.out m
  have P2 := hide (fun m => (A2.out m).poly hn HS.out)
  have CI := hide (it_any pb rb wl P.length w1.drew p0 p1)
  go_upto_region 2 with fail
  go_cut [6, 7] (fun nv ev w' => nv = .int .i64 (locM P p).1 ∧ ev = .int .i64 (locM P p).2 ∧ Hid (ArgAt w' W0.heap.size pb rb wl xb rg P vs us) ∧ Hid (Below W0.heap.size W0 w'))
  case first =>
    go_region_with (first
      | (go_at_call 22; refine CI.out.mono ?_; rintro e w2 ⟨rfl, m2, rfl⟩)
      | (go_at_call 26; refine (Locate_any _ P p _ (P2.out _)).mono ?_; rintro e w3 ⟨rfl, k3⟩))
    all_goals
      go_wp2_with fail
      go_meet
      case rel => exact ⟨rfl, rfl, (A2.out _).later k3, bvia (K2.out _) k3⟩
  case rest =>
  obtain ⟨rfl, rfl, A3, K3⟩ := hcut
  have P3 : Hid (PolyAt wc A P) := P0.out.later K3.out
  have c3 : wc.cell? ⟨w.heap.size, 2, none⟩ = some A := (K3.out.cell (p := ⟨w.heap.size, 2, none⟩) (by simp; omega)).trans O0'
  have x3 : wc.cell? ⟨w.heap.size, 4, none⟩ = some (.int .i64 p.x) := (K3.out.cell (p := ⟨w.heap.size, 4, none⟩) (by simp; omega)).trans O4'
  have y3 : wc.cell? ⟨w.heap.size, 5, none⟩ = some (.int .i64 p.y) := (K3.out.cell (p := ⟨w.heap.size, 5, none⟩) (by simp; omega)).trans O5'
  have d3 : wc.cell? ⟨w.heap.size, 6, none⟩ = some (.int .i64 p.d) := (K3.out.cell (p := ⟨w.heap.size, 6, none⟩) (by simp; omega)).trans O6'
  clear p0 p1 c1 x1 y1 d1 A2 K2 P2 HA K1
  have hloc := locM_eq P p
  go_wp2_with fail
  refine (rLocate_any A P p _ P3.out HS.out).mono ?_
  rintro e w4 ⟨rfl, k4⟩
  rw [hloc]
  clear hloc x3 y3 d3
  have z3 := K3.out.size
  have A4 : Hid (ArgAt w4 W0.heap.size pb rb wl xb rg P vs us) := A3.out.later k4
  have K4 : Hid (Below W0.heap.size W0 w4) := bvia K3.out k4
  have P4 : Hid (PolyAt w4 A P) := P3.out.later k4
  have c4 := (k4.cell (p := ⟨w.heap.size, 2, none⟩) (by simp; omega)).trans c3
  clear c3 k4 A3 K3 P3
  go_wp2_with fail
  refine (still_any A P _ P4.out A4.out hn HS.out).mono ?_
  rintro e w5 ⟨rfl, k5⟩
  have z4 := K4.out.size
  have A5 : Hid (ArgAt w5 W0.heap.size pb rb wl xb rg P vs us) := A4.out.later k5
  have K5 : Hid (Below W0.heap.size W0 w5) := bvia K4.out k5
  have B5 : Hid (Below w.heap.size w w5) := bvia B0.out K5.out
  have V5 : Hid (Wld w5 base wb hv L (FX (fun b _ => b < W0.heap.size) wb hv)) := (HW.out.call B5.out).weaken (fun b o u ⟨x, y⟩ _ => ⟨by omega, y⟩)
  have z5 := B5.out.size
  clear c4 k5 A4 K4 P4
  go_wp2_with fail
  refine (keepArg_any base wb W0.heap.size pb rb wl xb rg hv L P vs us w5 hn HS.out hL (by omega) (by omega) (fun b e => by have := HLO.out b e; omega) V5.out A5.out).mono ?_
  rintro e w6 ⟨rfl, hv', L', hl, hW', hk, _⟩
  have HW' := hide hW'
  have HK' : Hid (Kp (fun b => b = wb ∨ hv.ownBlock = some b) w w6) := ⟨hk.os.trans B5.out.os, hk.tape.trans B5.out.tape, hk.output.trans B5.out.output, Nat.le_trans z5 hk.size, fun b hb hnx => (hk.block b (by omega) (fun e => by
    rcases e with e | e | e
    · exact hnx (.inl e)
    · exact hnx (.inr e)
    · omega)).trans (B5.out.block b hb)⟩
  clear hW' hk
  go_wp2
  go_ret
  exact ⟨rfl, hv', L', hl, HW'.out, HK'.out⟩

set_option maxHeartbeats 1000000 in
theorem plays_locate (base wb : Nat) (hv : Value) (L : List Nat) (n : Int) (A B : Value) (p q r s : Pt) (P : List (List Pt)) (w : World)
    (hn : P.length ≤ 1048576) (hS : ∀ i, i < P.length → (P.getD i []).length ≤ 1048576) (hL : L.length + 4 * P.length + 4 ≤ 1000000000000) (hbase : base ≤ w.heap.size)
    (hP : PolyAt w A P) (hW : Wld w base wb hv L (FX (fun _ _ => True) wb hv)) :
    Calls Tryz.prog 9 #[.pointer (some ⟨wb, 0, none⟩), opV 3 n A B p q r s] w fun e w' => e = .returned (.bool true) ∧ ∃ hv' L', L'.length = L.length + 4 + 4 * P.length ∧ Wld w' base wb hv' L' (FX (fun _ _ => True) wb hv') ∧ Kp (fun b => b = wb ∨ hv.ownBlock = some b) w w' := by
  have B0 : Hid (Below w.heap.size w (w.alloc (.cells #[.int .i64 3, .int .i64 n, A, B, .int .i64 p.x, .int .i64 p.y, .int .i64 p.d, .int .i64 q.x, .int .i64 q.y, .int .i64 q.d, .int .i64 r.x, .int .i64 r.y, .int .i64 r.d, .int .i64 s.x, .int .i64 s.y, .int .i64 s.d] 33))) := (Below.refl _ _).alloc (Nat.le_refl _) _
  have H := hide (located_any base wb hv L 3 n A B p q r s P _ hn hS hL (by have := B0.out.size; omega) (hP.later B0.out) ((hW.call B0.out).weaken (F' := FX (fun _ _ => True) wb hv) (fun b o u ⟨_, y⟩ _ => ⟨trivial, y⟩)))
  clear hP hW hS
  go_enter Tryz.func9, Tryz.ntmps9
  go_wp2_with fail
  refine H.out.mono ?_
  rintro e w1 ⟨rfl, hv', L', hl, hW', hk⟩
  have HW' := hide hW'
  have HK' : Hid (Kp (fun b => b = wb ∨ hv.ownBlock = some b) w w1) := (Kp.of B0.out).trans hk
  clear hW' hk H B0
  go_wp2
  go_ret
  exact ⟨rfl, hv', L', hl, HW'.out, HK'.out⟩
end Go.Proofs.YtnkcbephceollaaGreat
