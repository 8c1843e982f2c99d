import Derived.Test.YtnkcbephceollaaGreatQ36
import Derived.Test.YtnkcbephceollaaGreatQ38
import Derived.Test.YtnkcbephceollaaGreatQ10
import Derived.Test.YtnkcbephceollaaGreatQ22
import Derived.Deep.QuietTactic
import Derived.BigQuiet
namespace Go.Proofs.YtnkcbephceollaaGreat
open Go.RowKit
set_option linter.unusedSimpArgs false
set_option linter.unusedVariables false

theorem Wld.holds {w : World} {base wb : Nat} {hv : Value} {L : List Nat} {F : Nat → Nat → Prop} (h : Wld w base wb hv L F) : HoldsAt w hv L ∧ AllMk w L := by
  refine ⟨?_, fun j hj => ?_⟩
  · obtain ⟨a, cap, e1, e2, e3, e4⟩ := own_form h.own
    refine ⟨a, cap, e1, by unfold maxLen at e4; omega, fun j hj => ?_⟩
    obtain ⟨b, hb⟩ := e3 (by omega)
    have hc := own_cell h.own b hb j (by omega)
    rw [List.getElem?_map, List.getElem?_eq_getElem hj] at hc
    refine ⟨b, 0, e2 b hb, ?_⟩
    rw [Nat.zero_add, List.getD_eq_getElem?_getD, List.getElem?_eq_getElem hj]
    exact hc
  · have hm : L.getD j 0 ∈ L := by rw [List.getD_eq_getElem?_getD, List.getElem?_eq_getElem hj]; exact List.getElem_mem hj
    obtain ⟨m, rv, pv, cv, nv, k⟩ := h.all _ hm
    exact ⟨F, m, rv, pv, cv, nv, k⟩
theorem Wld.drewN {w : World} {base wb : Nat} {hv : Value} {L : List Nat} {F : Nat → Nat → Prop} (h : Wld w base wb hv L F) (n : Nat) : Wld (w.drewN n) base wb hv L F :=
  h.kp (X := fun _ => False) ((Kp.refl _ _).drewN n) (fun e => e) (fun _ _ e => e) (fun b o u f c => ⟨c, f⟩)
/-- No hold yet. -/
theorem wld_new (w : World) (t : TypeId) : Wld (w.alloc (.cells #[.slice none 0 0] t)) (w.heap.size + 1) w.heap.size (.slice none 0 0) [] (FX (fun _ _ => True) w.heap.size (.slice none 0 0)) :=
  ⟨Blk.new w _ _, World.ownsRow_nil _ _ _ _, Nat.lt_succ_self _, fun h hh => by cases hh⟩
theorem below_of_kp {w wr w1 : World} {hv : Value} {L : List Nat} {F : Nat → Nat → Prop} (h : Below w.heap.size w wr) (W : Wld wr (w.heap.size + 1) w.heap.size hv L F) (k : Kp (fun b => b = w.heap.size ∨ hv.ownBlock = some b) wr w1) : Below w.heap.size w w1 :=
  ⟨k.os.trans h.os, k.tape.trans h.tape, k.output.trans h.output, Nat.le_trans h.size k.size, fun b hb => (k.block b (Nat.lt_of_lt_of_le hb h.size) (fun e => by
    rcases e with e | e
    · omega
    · have := (W.own.lt b e).1; omega)).trans (h.block b hb)⟩

set_option maxRecDepth 100000 in
set_option maxHeartbeats 4000000 in
theorem upto_checks (a0 : Option Addr) (len0 cap0 : Nat) (N M : Nat → List (List Pt)) (w : World) (hlen : len0 ≤ 9223372036854775807) (hops : PolysAt w a0 len0 N M) (hsum : sumTo N len0 ≤ 1048576) (hsh : ∀ k, k < len0 → Short (N k)) :
    Calls Tryz.prog 8 #[.slice a0 len0 cap0, .int .i64 2, .int .i64 2] w fun e w' => e = .returned (.int .i64 (-1)) ∧ Below w.heap.size w w' := by
  go_enter Tryz.func8, Tryz.ntmps8
  go_wp2_with fail
  go_loopw [8, 9, 10] (fun i _ _ w' => ∃ (k : Nat) (hv : Value) (L : List Nat), i = .int .i64 k ∧ k ≤ len0 ∧ L.length ≤ 4 * sumTo N k ∧ Wld w' (w.heap.size + 1) w.heap.size hv L (FX (fun _ _ => True) w.heap.size hv) ∧ Below w.heap.size w w') (fun i _ _ _ => (len0 - (intOf i).toNat))
  case atStart => exact ⟨0, _, [], rfl, Nat.zero_le _, by simp, wld_new w _, (Below.refl _ _).alloc (Nat.le_refl _) _⟩
  case round =>
    obtain ⟨k, hv, L, rfl, hk, hL, hW, hbel⟩ := hrel
    have HW := hide hW
    have wlt := hW.blk.lt
    have fw := hW.blk.free
    have cw := hW.blk.cell 0
    simp at cw
    by_cases hlt : k < len0
    · obtain ⟨b, off, kd, n, A, B, p, q, r, s, rfl, hb, hop, hPA, _⟩ := hops k hlt
      obtain ⟨c0, c1, c2, c3, c4, c5, c6, c7, c8, c9, c10, c11, c12, c13, c14, c15⟩ := hop.later hbel hb
      have hs1 := sumTo_mono N (show k + 1 ≤ len0 by omega)
      have hs2 : sumTo N (k + 1) = sumTo N k + (1 + (N k).length) := rfl
      have HB := hide hbel
      have HS := hide (hsh k hlt)
      have HP := hide (hPA.later hbel)
      have hs3 : L.length ≤ 4 * sumTo N (k + 1) := by omega
      clear hops hop hsh hPA hW hbel
      rcases Int.lt_trichotomy kd 2 with h | rfl | h
      · go_wp2
        exact ⟨⟨k + 1, hv, L, by go_num, by omega, hs3, HW.out, HB.out⟩, by simp [intOf]; omega⟩
      · have hpl := hide (plays_check (w.heap.size + 1) w.heap.size hv L n A B p q r s (N k) wr (by omega) HS.out (by omega) (by omega) HP.out HW.out)
        go_wp2_with fail
        refine hpl.out.mono ?_
        rintro e w1 ⟨rfl, hv1, L1, hl1, hW1, hk1⟩
        have B1 := hide (below_of_kp HB.out HW.out hk1)
        have HW1 := hide hW1
        have HO := hide hW1.holds
        have cw1 := hW1.blk.cell 0
        simp at cw1
        clear hpl hk1 hW1 c0 c1 c2 c3 c4 c5 c6 c7 c8 c9 c10 c11 c12 c13 c14 c15 cw fw
        go_wp2_with fail
        refine (looks_yes w.heap.size hv1 L1 _ cw1 HO.out.1 HO.out.2).mono ?_
        rintro e w2 ⟨rfl, m, rfl⟩
        have B2 : Hid (Below w.heap.size w (w1.drewN m)) := below_drewN B1.out m
        have HW2 := hide (HW1.out.drewN m)
        clear B1 HW1 HO cw1
        go_wp2
        exact ⟨⟨k + 1, hv1, L1, by go_num, by omega, by omega, HW2.out, B2.out⟩, by simp [intOf]; omega⟩
      · go_wp2
        exact ⟨⟨k + 1, hv, L, by go_num, by omega, hs3, HW.out, HB.out⟩, by simp [intOf]; omega⟩
    · clear hops hsh hW
      go_wp2
      go_ret
      exact ⟨rfl, hbel⟩

theorem checks_walk (a0 : Option Addr) (len0 cap0 : Nat) (N M : Nat → List (List Pt)) (w : World) (hlen : len0 ≤ 9223372036854775807) (hops : PolysAt w a0 len0 N M) (hsum : sumTo N len0 ≤ 1048576) (hsh : ∀ k, k < len0 → Short (N k)) :
    Calls Tryz.prog 4 #[.slice a0 len0 cap0] w fun e w' => e = .returned (.bool true) ∧ Below w.heap.size w w' := by
  have H := hide (upto_checks a0 len0 cap0 N M w hlen hops hsum hsh)
  clear hops hsh
  go_enter Tryz.func4, Tryz.ntmps4
  go_wp2_with fail
  refine H.out.mono ?_
  rintro e w1 ⟨rfl, k⟩
  go_wp2
  go_ret
  exact ⟨rfl, k⟩
end Go.Proofs.YtnkcbephceollaaGreat
namespace Go.Proofs.YtnkcbephceollaaGreat
open Go.RowKit
set_option linter.unusedSimpArgs false
set_option linter.unusedVariables false


set_option maxHeartbeats 400000 in
theorem rdet_of (a b c : Pt) (w : World) (H : Hid (wrap64 (wrap64 (wrap64 (a.x * wrap64 (wrap64 (b.y * c.d) - wrap64 (c.y * b.d))) - wrap64 (a.y * wrap64 (wrap64 (b.x * c.d) - wrap64 (c.x * b.d)))) + wrap64 (a.d * wrap64 (wrap64 (b.x * c.y) - wrap64 (c.x * b.y)))) = detM a b c)) :
    Calls Tryz.prog 73 #[a.v, b.v, c.v] w fun e w' => e = .returned (.int .i64 (detM a b c)) ∧ Below w.heap.size w w' := by
  go_enter Tryz.func73, Tryz.ntmps73
  go_wp2
  go_ret
  exact ⟨ret_int H.out, (((Below.refl _ _).alloc (Nat.le_refl _) _).alloc (by simp) _).alloc (by simp; omega) _⟩
theorem rdet_w (a b c : Pt) (w : World) (ha : Gw a) (hb : Gw b) (hc : Gw c) :
    Calls Tryz.prog 73 #[a.v, b.v, c.v] w fun e w' => e = .returned (.int .i64 (detM a b c)) ∧ Below w.heap.size w w' := by
  refine rdet_of a b c w ?_
  refine hide ?_
  unfold detM
  rw [wrap_in (hb.y.mul hc.d) (by decide), wrap_in (hc.y.mul hb.d) (by decide), wrap_in (hb.x.mul hc.d) (by decide), wrap_in (hc.x.mul hb.d) (by decide), wrap_in (hb.x.mul hc.y) (by decide), wrap_in (hc.x.mul hb.y) (by decide),
    wrap_in ((hb.y.mul hc.d).sub (hc.y.mul hb.d)) (by decide), wrap_in ((hb.x.mul hc.d).sub (hc.x.mul hb.d)) (by decide), wrap_in ((hb.x.mul hc.y).sub (hc.x.mul hb.y)) (by decide),
    wrap_in (ha.x.mul ((hb.y.mul hc.d).sub (hc.y.mul hb.d))) (by decide), wrap_in (ha.y.mul ((hb.x.mul hc.d).sub (hc.x.mul hb.d))) (by decide), wrap_in (ha.d.mul ((hb.x.mul hc.y).sub (hc.x.mul hb.y))) (by decide),
    wrap_in ((ha.x.mul ((hb.y.mul hc.d).sub (hc.y.mul hb.d))).sub (ha.y.mul ((hb.x.mul hc.d).sub (hc.x.mul hb.d)))) (by decide),
    wrap_in (((ha.x.mul ((hb.y.mul hc.d).sub (hc.y.mul hb.d))).sub (ha.y.mul ((hb.x.mul hc.d).sub (hc.x.mul hb.d)))).add (ha.d.mul ((hb.x.mul hc.y).sub (hc.x.mul hb.y)))) (by decide)]

set_option maxHeartbeats 400000 in
theorem rapart_any (m n : Int) (w : World) :
    Calls Tryz.prog 111 #[.int .i64 m, .int .i64 n] w fun e w' => e = .returned (.bool (apartB m n)) ∧ w' = w := by
  unfold apartB
  rcases Int.lt_trichotomy m 0 with h | h | h
  all_goals rcases Int.lt_trichotomy n 0 with k | k | k
  all_goals
    go_enter Tryz.func111, Tryz.ntmps111
    go_wp2
    go_ret
    exact ⟨ret_bool (by simp <;> omega), rfl⟩

set_option maxHeartbeats 1000000 in
theorem ron_any (p a b : Pt) (w : World) (hp : Gd p) (ha : Gd a) (hb : Gd b) :
    Calls Tryz.prog 85 #[p.v, sg a b] w fun e w' => e = .returned (.bool (onB p a b)) ∧ Below w.heap.size w w' := by
  go_enter Tryz.func85, Tryz.ntmps85
  go_wp2_with fail
  refine (rdet_any a b p _ ha hb hp).mono ?_
  rintro e w1 ⟨rfl, k⟩
  have B1 := bvia (((Below.refl _ _).alloc (Nat.le_refl _) _).alloc (by simp) _) k
  obtain ⟨cp1, fp1, zp1⟩ := ((Blk.new w _ _).alloc _).call k
  obtain ⟨ce1, fe1, ze1⟩ := (Blk.at (w.heap.size + 1) (by simp)).call k
  clear k
  go_wp2_with fail
  refine (rwithin_any p a b _ hp ha hb).mono ?_
  rintro e w2 ⟨rfl, k⟩
  have B2 := bvia B1 k
  clear k cp1 fp1 ce1 fe1 B1
  have hd : onB p a b = (decide (detM a b p = 0) && withB p a b) := rfl
  have HD := hide hd
  clear hd
  generalize withB p a b = wi at *
  by_cases h : detM a b p = 0
  · go_wp2
    all_goals
      go_ret
      exact ⟨ret_bool (by rw [HD.out]; simp [h]), B2⟩
  · go_wp2
    all_goals
      go_ret
      exact ⟨ret_bool (by rw [HD.out]; simp [h]), B2⟩
end Go.Proofs.YtnkcbephceollaaGreat
