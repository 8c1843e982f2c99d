import Derived.Test.YtkmapffhfmgfeaaQ43
import Derived.Test.YtkmapffhfmgfeaaQ34
namespace Go.Proofs.Ytkmapffhfmgfeaa
open Go.RowKit
set_option linter.unusedSimpArgs false
set_option linter.unusedVariables false

theorem kn1 : checkM [boxM 0 0 4 4] = (0, 0) := by kernel_rfl
theorem kn2 : checkM [(boxM 0 0 4 4).take 2] = (2, 0) := by kernel_rfl
theorem kn3 : locM [boxM 0 0 4 4] ⟨1, 1, 1⟩ = (1, 0) := by kernel_rfl
theorem kn4 : locM [boxM 0 0 4 4] ⟨5, 1, 1⟩ = (0, 0) := by kernel_rfl
theorem kn5 : clipM 0 [boxM 0 0 4 4] [boxM 2 2 6 6] = ([boxM 2 2 4 4], 0) := by kernel_rfl
theorem kn6 : clipM 2 [boxM 0 0 4 4] [boxM 2 2 6 6] = ([[⟨0, 0, 1⟩, ⟨4, 0, 1⟩, ⟨4, 2, 1⟩, ⟨2, 2, 1⟩, ⟨2, 4, 1⟩, ⟨0, 4, 1⟩]], 0) := by kernel_rfl
theorem kn7 : (pcsM [boxM 0 0 4 4] [boxM 2 2 6 6]).length = 12 := by kernel_rfl
theorem kn8 : bothM [boxM 0 0 4 4] [boxM 2 2 6 6] = 0 := by kernel_rfl

theorem one_at (v : Value) (r : List Pt) (w : World) (hr : RingAt w v r) :
    Calls Try.prog 19 #[v] w fun e w' => ∃ g, e = .returned (.slice (some ⟨g, 0, none⟩) 1 1) ∧ g < w'.heap.size ∧ w'.cell? ⟨g, 0, none⟩ = some v ∧ PolyAt w' (.slice (some ⟨g, 0, none⟩) 1 1) [r] ∧ Below w.heap.size w w' := by
  have hr0 := hr
  obtain ⟨a, cap, rfl, h1, h2, h3⟩ := hr
  go_enter Try.func19, Try.ntmps19
  go_wp2
  refine bodyPost_ret (v := .slice (some ⟨w.heap.size, 0, none⟩) 1 1) (by simp [results, Try.results19, go_sem]) rfl ⟨w.heap.size, rfl, by simp, (World.cell?_alloc_at _ _ _ _ rfl).trans rfl, ?_, (Below.refl _ _).alloc (Nat.le_refl _) _⟩
  refine ⟨some ⟨w.heap.size, 0, none⟩, 1, rfl, Nat.le_refl _, by decide, fun i hi => ?_⟩
  obtain rfl : i = 0 := by simp at hi; omega
  exact ⟨_, 0, _, rfl, by simp, (World.cell?_alloc_at _ _ _ _ rfl).trans rfl, hr0.later ((Below.refl _ _).alloc (Nat.le_refl _) _)⟩
theorem ring_take {w : World} {g n cap k : Nat} {r : List Pt} (h : RingAt w (.slice (some ⟨g, 0, none⟩) n cap) r) (hk : k ≤ n) : RingAt w (.slice (some ⟨g, 0, none⟩) k cap) (r.take k) := by
  obtain ⟨a, cap', e, h1, h2, h3⟩ := h
  simp at e
  obtain ⟨rfl, rfl, rfl⟩ := e
  have hl : (r.take k).length = k := by simp; omega
  refine ⟨_, cap, by rw [hl], by omega, h2, fun j hj => ?_⟩
  rw [hl] at hj
  obtain ⟨b, off, e, hb, hp⟩ := h3 j (by omega)
  refine ⟨b, off, e, hb, ?_⟩
  have : (r.take k).getD j zP = r.getD j zP := by rw [List.getD_eq_getElem?_getD, List.getD_eq_getElem?_getD, List.getElem?_take_of_lt hj]
  rw [this]; exact hp
theorem ring_six (w : World) (p0 p1 p2 p3 p4 p5 : Pt) (t : TypeId) : RingAt (w.alloc (.cells #[.int .i64 p0.x, .int .i64 p0.y, .int .i64 p0.d, .int .i64 p1.x, .int .i64 p1.y, .int .i64 p1.d, .int .i64 p2.x, .int .i64 p2.y, .int .i64 p2.d, .int .i64 p3.x, .int .i64 p3.y, .int .i64 p3.d, .int .i64 p4.x, .int .i64 p4.y, .int .i64 p4.d, .int .i64 p5.x, .int .i64 p5.y, .int .i64 p5.d] t)) (.slice (some ⟨w.heap.size, 0, none⟩) 6 6) [p0, p1, p2, p3, p4, p5] := by
  refine ⟨_, 6, rfl, Nat.le_refl _, by decide, fun j hj => ⟨_, 0, rfl, by simp, ?_⟩⟩
  have h6 : j < 6 := hj
  have hc := fun o => World.cell?_alloc_at (w := w) #[.int .i64 p0.x, .int .i64 p0.y, .int .i64 p0.d, .int .i64 p1.x, .int .i64 p1.y, .int .i64 p1.d, .int .i64 p2.x, .int .i64 p2.y, .int .i64 p2.d, .int .i64 p3.x, .int .i64 p3.y, .int .i64 p3.d, .int .i64 p4.x, .int .i64 p4.y, .int .i64 p4.d, .int .i64 p5.x, .int .i64 p5.y, .int .i64 p5.d] t _ o rfl
  match j, h6 with
  | 0, _ => exact ⟨hc 0, hc 1, hc 2⟩
  | 1, _ => exact ⟨hc 3, hc 4, hc 5⟩
  | 2, _ => exact ⟨hc 6, hc 7, hc 8⟩
  | 3, _ => exact ⟨hc 9, hc 10, hc 11⟩
  | 4, _ => exact ⟨hc 12, hc 13, hc 14⟩
  | 5, _ => exact ⟨hc 15, hc 16, hc 17⟩

set_option maxRecDepth 100000 in
set_option maxHeartbeats 8000000 in
theorem known_yes (w : World) : Calls Try.prog 26 #[] w fun e w' => e = .returned (.bool true) ∧ Below w.heap.size w w' := by
  have K1 := hide kn1
  have K2 := hide kn2
  have K3 := hide kn3
  have K4 := hide kn4
  have K5 := hide kn5
  have K6 := hide kn6
  have K7 := hide kn7
  have K8 := hide kn8
  go_enter Try.func26, Try.ntmps26
  go_wp2_with fail
  refine (box_any 0 0 4 4 _).mono ?_
  rintro e w1 ⟨g1, rfl, r1, k1⟩
  have R1 := hide r1
  clear r1
  go_wp2_with fail
  refine (one_at _ _ _ R1.out).mono ?_
  rintro e w2 ⟨ga, rfl, ga1, ca, pa, k2⟩
  have PA2 := hide pa
  have R2 := hide (R1.out.later k2)
  have B2 := bvia k1 k2
  clear R1 pa k1 k2
  go_wp2_with fail
  refine (box_any 2 2 6 6 _).mono ?_
  rintro e w3 ⟨g2, rfl, r3, k3⟩
  have R3 := hide r3
  clear r3
  go_wp2_with fail
  refine (one_at _ _ _ R3.out).mono ?_
  rintro e w4 ⟨gb, rfl, gb1, cb, pb, k4⟩
  have k34 := bvia k3 k4
  have PB4 := hide pb
  have PA4 := hide (PA2.out.later k34)
  have R4 := hide (R2.out.later k34)
  have ca4 := (k34.cell (p := ⟨ga, 0, none⟩) ga1).trans ca
  have B4 := bvia B2 k34
  have ga4 : ga < w4.heap.size := by have := k34.size; omega
  clear R3 R2 PA2 pb k3 k4 k34 ca B2 cb ga1
  generalize hbA : boxM 0 0 4 4 = bA at *
  generalize hbB : boxM 2 2 6 6 = bB at *
  go_wp2_with fail
  refine (Check_any _ _ _ PA4.out).mono ?_
  rintro e w5 ⟨rfl, k5⟩
  rw [K1.out]
  have PA5 := hide (PA4.out.later k5)
  have PB5 := hide (PB4.out.later k5)
  have R5 := hide (ring_take (R4.out.later k5) (show 2 ≤ 4 by decide))
  have ca5 := (k5.cell (p := ⟨ga, 0, none⟩) ga4).trans ca4
  have B5 := bvia B4 k5
  clear PA4 PB4 R4 ca4 B4 k5
  go_wp2_with fail
  refine (one_at _ _ _ R5.out).mono ?_
  rintro e w6 ⟨gc, rfl, _, _, pc, k6⟩
  have PC6 := hide pc
  have PA6 := hide (PA5.out.later k6)
  have PB6 := hide (PB5.out.later k6)
  have B6 := bvia B5 k6
  clear PA5 PB5 R5 ca5 B5 k6 pc
  go_wp2_with fail
  refine (Check_any _ _ _ PC6.out).mono ?_
  rintro e w7 ⟨rfl, k7⟩
  rw [K2.out]
  have PA7 := hide (PA6.out.later k7)
  have PB7 := hide (PB6.out.later k7)
  have B7 := bvia B6 k7
  clear PA6 PB6 PC6 B6 k7
  go_wp2_with fail
  refine (at_any 1 1 _).mono ?_
  rintro e w8 ⟨rfl, k8⟩
  have PA8 := hide (PA7.out.later k8)
  have PB8 := hide (PB7.out.later k8)
  have B8 := bvia B7 k8
  clear PA7 PB7 B7 k8
  go_wp2_with fail
  refine (Locate_any _ _ ⟨1, 1, 1⟩ _ PA8.out).mono ?_
  rintro e w9 ⟨rfl, k9⟩
  rw [K3.out]
  have PA9 := hide (PA8.out.later k9)
  have PB9 := hide (PB8.out.later k9)
  have B9 := bvia B8 k9
  clear PA8 PB8 B8 k9
  go_wp2_with fail
  refine (at_any 5 1 _).mono ?_
  rintro e w10 ⟨rfl, k10⟩
  have PA10 := hide (PA9.out.later k10)
  have PB10 := hide (PB9.out.later k10)
  have B10 := bvia B9 k10
  clear PA9 PB9 B9 k10
  go_wp2_with fail
  refine (Locate_any _ _ ⟨5, 1, 1⟩ _ PA10.out).mono ?_
  rintro e w11 ⟨rfl, k11⟩
  rw [K4.out]
  have PA11 := hide (PA10.out.later k11)
  have PB11 := hide (PB10.out.later k11)
  have B11 := bvia B10 k11
  clear PA10 PB10 B10 k11
  go_wp2_with fail
  refine (box_any 2 2 4 4 _).mono ?_
  rintro e w12 ⟨g3, rfl, r12, k12⟩
  have R12 := hide r12
  have PA12 := hide (PA11.out.later k12)
  have PB12 := hide (PB11.out.later k12)
  have B12 := bvia B11 k12
  clear PA11 PB11 B11 k12 r12
  go_wp2_with fail
  refine (one_at _ _ _ R12.out).mono ?_
  rintro e w13 ⟨gd, rfl, _, _, pd, k13⟩
  have PD13 := hide pd
  have PA13 := hide (PA12.out.later k13)
  have PB13 := hide (PB12.out.later k13)
  have B13 := bvia B12 k13
  clear PA12 PB12 B12 k13 pd R12
  go_wp2_with fail
  refine (clips_yes 0 _ _ _ _ _ _ _ PA13.out PB13.out PD13.out K5.out (by decide)).mono ?_
  rintro e w14 ⟨rfl, k14⟩
  have PA14 := hide (PA13.out.later k14)
  have PB14 := hide (PB13.out.later k14)
  have B14 := bvia B13 k14
  clear PA13 PB13 PD13 B13 k14
  go_wp2_with fail
  refine (at_any 0 0 _).mono ?_
  rintro e w15 ⟨rfl, k15⟩
  go_wp2_with fail
  refine (at_any 4 0 _).mono ?_
  rintro e w16 ⟨rfl, k16⟩
  go_wp2_with fail
  refine (at_any 4 2 _).mono ?_
  rintro e w17 ⟨rfl, k17⟩
  go_wp2_with fail
  refine (at_any 2 2 _).mono ?_
  rintro e w18 ⟨rfl, k18⟩
  go_wp2_with fail
  refine (at_any 2 4 _).mono ?_
  rintro e w19 ⟨rfl, k19⟩
  go_wp2_with fail
  refine (at_any 0 4 _).mono ?_
  rintro e w20 ⟨rfl, k20⟩
  have kk := bvia (bvia (bvia (bvia (bvia k15 k16) k17) k18) k19) k20
  have PA20 := hide (PA14.out.later kk)
  have PB20 := hide (PB14.out.later kk)
  have B20 := bvia B14 kk
  clear PA14 PB14 B14 kk k15 k16 k17 k18 k19 k20
  have R20 := hide (ring_six w20 ⟨0, 0, 1⟩ ⟨4, 0, 1⟩ ⟨4, 2, 1⟩ ⟨2, 2, 1⟩ ⟨2, 4, 1⟩ ⟨0, 4, 1⟩ 25)
  have kA : Hid (Below w20.heap.size w20 (w20.alloc (.cells #[.int .i64 0, .int .i64 0, .int .i64 1, .int .i64 4, .int .i64 0, .int .i64 1, .int .i64 4, .int .i64 2, .int .i64 1, .int .i64 2, .int .i64 2, .int .i64 1, .int .i64 2, .int .i64 4, .int .i64 1, .int .i64 0, .int .i64 4, .int .i64 1] 25))) := hide ((Below.refl _ _).alloc (Nat.le_refl _) _)
  go_wp2_with fail
  refine (one_at _ _ _ R20.out).mono ?_
  rintro e w21 ⟨ge, rfl, _, _, pe, k21⟩
  have k22 := bvia kA.out k21
  have PE21 := hide pe
  have PA21 := hide (PA20.out.later k22)
  have PB21 := hide (PB20.out.later k22)
  have B21 := bvia B20 k22
  clear PA20 PB20 B20 k21 k22 pe R20 kA
  go_wp2_with fail
  refine (clips_yes 2 _ _ _ _ _ _ _ PA21.out PB21.out PE21.out K6.out (by decide)).mono ?_
  rintro e w23 ⟨rfl, k23⟩
  have PA23 := hide (PA21.out.later k23)
  have PB23 := hide (PB21.out.later k23)
  have B23 := bvia B21 k23
  clear PA21 PB21 PE21 B21 k23
  go_wp2_with fail
  refine (Pieces_any _ _ _ _ _ PA23.out PB23.out).mono ?_
  rintro e w24 ⟨v', rfl, o24, k24⟩
  rw [K8.out]
  have B24 := bvia B23 k24
  obtain ⟨la, lcap, rfl, _, _, _⟩ := own_form o24
  rw [K7.out]
  clear o24 k24 PA23 PB23 B23
  go_wp2
  go_ret
  exact ⟨rfl, B24⟩
end Go.Proofs.Ytkmapffhfmgfeaa
namespace Go.Proofs.Ytkmapffhfmgfeaa
open Go.RowKit
set_option linter.unusedSimpArgs false
set_option linter.unusedVariables false

set_option maxHeartbeats 1000000 in
theorem follows_any (x y : Pc) (w : World) (h1 : Gd x.p) (h2 : Gd x.q) (h3 : Gd y.p) (h4 : Gd y.q) :
    Calls Try.prog 33 #[x.v, y.v] w fun e w' => e = .returned (.bool (aheadB (x.p, x.q) (y.p, y.q))) ∧ Below w.heap.size w w' := by
  have heq := eql_pt
  cases h : eqP x.p y.p
  · have H : Hid (aheadB (x.p, x.q) (y.p, y.q) = befB x.p y.p) := by unfold aheadB; rw [h]; exact hide rfl
    have h' : eqP ⟨x.p.x, x.p.y, x.p.d⟩ ⟨y.p.x, y.p.y, y.p.d⟩ = false := h
    go_enter Try.func33, Try.ntmps33
    go_wp2_with fail
    refine (before_any x.p y.p _ h1 h3).mono ?_
    rintro e w1 ⟨rfl, k⟩
    have B1 := bvia (below2 _ _ _) k
    clear k
    go_wp2
    go_ret
    exact ⟨ret_bool H.out.symm, B1⟩
  · have H : Hid (aheadB (x.p, x.q) (y.p, y.q) = befB x.q y.q) := by unfold aheadB; rw [h]; exact hide rfl
    have h' : eqP ⟨x.p.x, x.p.y, x.p.d⟩ ⟨y.p.x, y.p.y, y.p.d⟩ = true := h
    go_enter Try.func33, Try.ntmps33
    go_wp2_with fail
    refine (before_any x.q y.q _ h2 h4).mono ?_
    rintro e w1 ⟨rfl, k⟩
    have B1 := bvia (below2 _ _ _) k
    clear k
    go_wp2
    go_ret
    exact ⟨ret_bool H.out.symm, B1⟩

set_option maxHeartbeats 1000000 in
theorem middleK_any (x : Pc) (w : World) (hp : Gd x.p) (hq : Gd x.q) :
    Calls Try.prog 34 #[x.v] w fun e w' => e = .returned (.tuple #[(midP x.p x.q).v, .bool (decide (2 * x.p.d * x.q.d ≤ 32768))]) ∧ Below w.heap.size w w' := by
  obtain ⟨l1, u1⟩ := hp.x.mul hq.d
  obtain ⟨l2, u2⟩ := hq.x.mul hp.d
  obtain ⟨l3, u3⟩ := hp.y.mul hq.d
  obtain ⟨l4, u4⟩ := hq.y.mul hp.d
  obtain ⟨l5, u5⟩ := (In.mk (a := 2) (A := 2) (by decide) (by decide)).mul hp.d
  obtain ⟨l6, u6⟩ := ((In.mk (a := 2) (A := 2) (by decide) (by decide)).mul hp.d).mul hq.d
  clear hp hq
  go_enter Try.func34, Try.ntmps34
  go_wp2
  go_region
  all_goals
    go_wp2
    exact bodyPost_ret (v := .tuple #[(midP x.p x.q).v, .bool (decide (2 * x.p.d * x.q.d ≤ 32768))]) (by simp [results, Try.results34, go_sem, midP]) rfl ⟨rfl, by first | exact (below3 _ _ _ _).drew | exact below3 _ _ _ _⟩

set_option maxHeartbeats 1000000 in
theorem beside_any (n : Int) (l r : Bool) (w : World) :
    Calls Try.prog 35 #[.int .i64 n, .bool l, .bool r] w fun e w' => e = .returned (.bool (besideB n l r)) ∧ w' = w := by
  by_cases h2 : n = 2
  · subst h2
    cases l <;> cases r <;>
      (go_enter Try.func35, Try.ntmps35
       go_wp2
       go_ret
       exact ⟨rfl, rfl⟩)
  by_cases h1 : n = 1
  · subst h1
    cases l <;> cases r <;>
      (go_enter Try.func35, Try.ntmps35
       go_wp2
       go_ret
       exact ⟨rfl, rfl⟩)
  by_cases h0 : n = 0
  · subst h0
    cases l <;> cases r <;>
      (go_enter Try.func35, Try.ntmps35
       go_wp2
       go_ret
       exact ⟨rfl, rfl⟩)
  · have H : Hid (besideB n l r = false) := by unfold besideB; rw [if_neg h2, if_neg h1, decide_eq_false h0]; exact hide rfl
    have h0' : (n == 0) = false := by simpa using h0
    go_enter Try.func35, Try.ntmps35
    go_wp2
    go_ret
    exact ⟨ret_bool H.out.symm, rfl⟩

set_option maxHeartbeats 1000000 in
/-- The error with which two polygons are refused. -/
theorem refusal_any (op : Int) (va vb : Value) (A B : List (List Pt)) (w : World) (h0 : 0 ≤ op) (h4 : op ≤ 4) (hA : PolyAt w va A) (hB : PolyAt w vb B) :
    Calls Try.prog 32 #[.int .i64 op, va, vb] w fun e w' => e = .returned (.int .i64 (bothM A B)) ∧ Below w.heap.size w w' := by
  have l1 : ¬ op < 0 := by omega
  have l2 : ¬ (4 : Int) < op := by omega
  by_cases h : (checkM A).1 = 0
  · have H : Hid (bothM A B = (checkM B).1) := if_neg (by simpa using h)
    go_enter Try.func32, Try.ntmps32
    go_wp2_with fail
    refine (Check_any va A _ hA).mono ?_
    rintro e w1 ⟨rfl, k⟩
    have B1 := hB.later k
    rw [h]
    go_wp2_with fail
    refine (Check_any vb B _ B1).mono ?_
    rintro e w2 ⟨rfl, k2⟩
    have K := bvia k k2
    clear k k2 B1
    go_wp2
    go_ret
    exact ⟨ret_int H.out.symm, K⟩
  · have H : Hid (bothM A B = (checkM A).1) := if_pos h
    have h' : ((checkM A).1 != 0) = true := by simpa using h
    go_enter Try.func32, Try.ntmps32
    go_wp2_with fail
    refine (Check_any va A _ hA).mono ?_
    rintro e w1 ⟨rfl, k⟩
    go_wp2
    go_ret
    exact ⟨ret_int H.out.symm, k⟩

theorem mid_good {p q : Pt} (hp : goodB p = true) (hq : goodB q = true) (h : 2 * p.d * q.d ≤ 32768) : goodB (midP p q) = true := by
  have a := of_decide_eq_true hp
  have b := of_decide_eq_true hq
  obtain ⟨a1, a2, a3, a4, a5, a6⟩ := a
  obtain ⟨b1, b2, b3, b4, b5, b6⟩ := b
  have m : ∀ {x y z : Int}, 0 ≤ z → x ≤ y → x * z ≤ y * z := fun hz h => Int.mul_le_mul_of_nonneg_right h hz
  have pd : (0 : Int) ≤ p.d := by omega
  have qd : (0 : Int) ≤ q.d := by omega
  have c1 := m qd a3
  have c2 := m qd a4
  have c3 := m qd a5
  have c4 := m qd a6
  have e1 := m pd b3
  have e2 := m pd b4
  have e3 := m pd b5
  have e4 := m pd b6
  have k1 : -(64 * p.d) * q.d = -(64 * (p.d * q.d)) := by grind
  have k2 : 64 * p.d * q.d = 64 * (p.d * q.d) := by grind
  have k3 : -(64 * q.d) * p.d = -(64 * (p.d * q.d)) := by grind
  have k4 : 64 * q.d * p.d = 64 * (p.d * q.d) := by grind
  have k5 : 2 * p.d * q.d = 2 * (p.d * q.d) := by grind
  rw [k1] at c1 c3
  rw [k2] at c2 c4
  rw [k3] at e1 e3
  rw [k4] at e2 e4
  have pos : 1 ≤ p.d * q.d := by
    have := m (z := q.d) (by omega) a1
    omega
  unfold goodB midP
  refine decide_eq_true ?_
  simp only
  rw [k5] at h ⊢
  generalize p.d * q.d = D at *
  generalize p.x * q.d = X1 at *
  generalize q.x * p.d = X2 at *
  generalize p.y * q.d = Y1 at *
  generalize q.y * p.d = Y2 at *
  omega
theorem more_few : ∀ (P : List (List Pt)) (room : Int), ((edgesM P).length : Int) ≤ room → moreM room P = false
  | [], _, _ => rfl
  | r :: P, room, h => by
    have e : (edgesM (r :: P)).length = r.length + (edgesM P).length := by simp [edgesM, ringEdges_len]
    rw [e] at h
    unfold moreM
    rw [if_neg (by omega)]
    exact more_few P _ (by omega)
theorem good_gr {v : Pt} (hv : Gr v) : goodB v = true := by
  have h1 := hv.x; have h2 := hv.y; have h3 := hv.d
  unfold In at h1 h2
  unfold goodB; rw [h3]; exact decide_eq_true (by omega)
theorem loc_mid {A : List (List Pt)} {m : Pt} (h : (checkM A).1 = 0) (hm : goodB m = true) : locM A m = (whereM m 0 (edgesM A), 0) := by
  have hS := sound_of h
  have hf := check_few h
  have hall : (edgesM A).all (fun e => goodB e.1) = true := List.all_eq_true.2 fun e he => good_gr (hS.gr _ (edge_ends he).1)
  unfold locM
  rw [more_few A 2000 (by omega), hm, hall]; rfl
end Go.Proofs.Ytkmapffhfmgfeaa
