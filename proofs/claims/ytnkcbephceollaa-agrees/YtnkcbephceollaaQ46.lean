import Derived.Test.YtnkcbephceollaaQ43
import Derived.Test.YtnkcbephceollaaQ45
import Derived.Deep.QuietTactic
import Derived.BigQuiet
namespace Go.Proofs.Ytnkcbephceollaa
open Go.RowKit
set_option linter.unusedSimpArgs false
set_option linter.unusedVariables false

theorem neq_pt (x y d x' y' d' : Int) (w : World) : (binOp .neq 25 (.agg #[.int .i64 x, .int .i64 y, .int .i64 d]) (.agg #[.int .i64 x', .int .i64 y', .int .i64 d'])).run Try.prog w = .ok (.bool (!eqP ⟨x, y, d⟩ ⟨x', y', d'⟩)) w := by
  by_cases h1 : x = x'
  · by_cases h2 : y = y'
    · by_cases h3 : d = d' <;> simp [go_sem, eqP, h1, h2, h3]
    · simp [go_sem, eqP, h1, h2]
  · simp [go_sem, eqP, h1]
theorem eqP_self (p : Pt) : eqP p p = true := by simp [eqP]

set_option maxRecDepth 100000 in
set_option maxHeartbeats 1000000 in
/-- Two slices of the same points. -/
theorem samePoints_yes (v v' : Value) (r : List Pt) (w : World) (h : RingAt w v r) (h' : RingAt w v' r) :
    Calls Try.prog 50 #[v, v'] w fun e w' => e = .returned (.bool true) ∧ ∃ n, w' = w.drewN n := by
  obtain ⟨a, cap, rfl, h1, h2, h3⟩ := h
  obtain ⟨a', cap', rfl, _, _, h3'⟩ := h'
  have hneq := neq_pt
  unfold maxLen at h2
  go_enter Try.func50, Try.ntmps50
  go_wp2_with fail
  go_loopw [5] (fun i w' => ∃ (k n : Nat), i = .int .i64 k ∧ k ≤ r.length ∧ w' = w.drewN n) (fun i _ => r.length - (intOf i).toNat)
  case atStart => exact ⟨0, 0, rfl, Nat.zero_le _, rfl⟩
  case round =>
    obtain ⟨k, n, rfl, hk, rfl⟩ := hrel
    by_cases hlt : k < r.length
    · obtain ⟨b, off, rfl, _, c0, c1, c2⟩ := h3 k hlt
      obtain ⟨b', off', rfl, _, d0, d1, d2⟩ := h3' k hlt
      generalize r.getD k zP = p at *
      have hk0 : (0 : Int) ≤ (k : Int) := Int.natCast_nonneg _
      have hk1 : (k : Int) < (r.length : Int) := by omega
      have e1 : eqP ⟨p.x, p.y, p.d⟩ ⟨p.x, p.y, p.d⟩ = true := eqP_self p
      clear h3 h3'
      go_wp2_with fail
      go_quiet (fail)
      go_wp2
      go_roundw
      case rel => exact ⟨k + 1, _, by go_num, by omega, rfl⟩
      case measure => simp [intOf]; omega
    · clear h3 h3'
      go_wp2
      go_ret
      exact ⟨rfl, n, rfl⟩

theorem RingAt.drewN {w : World} {v : Value} {r : List Pt} (h : RingAt w v r) (n : Nat) : RingAt (w.drewN n) v r := h.later (below_drewN (Below.refl _ _) n)
theorem PolyAt.drewN {w : World} {v : Value} {P : List (List Pt)} (h : PolyAt w v P) (n : Nat) : PolyAt (w.drewN n) v P := h.later (below_drewN (Below.refl _ _) n)

set_option maxRecDepth 100000 in
set_option maxHeartbeats 1000000 in
/-- Two slices of slices of the same points. -/
theorem sameRings_yes (v v' : Value) (P : List (List Pt)) (w : World) (h : PolyAt w v P) (h' : PolyAt w v' P) :
    Calls Try.prog 38 #[v, v'] w fun e w' => e = .returned (.bool true) ∧ ∃ n, w' = w.drewN n := by
  obtain ⟨a, cap, rfl, h1, h2, h3⟩ := h
  obtain ⟨a', cap', rfl, _, _, h3'⟩ := h'
  unfold maxLen at h2
  go_enter Try.func38, Try.ntmps38
  go_wp2_with fail
  go_loopw [5, 6] (fun i _ w' => ∃ (k n : Nat), i = .int .i64 k ∧ k ≤ P.length ∧ w' = w.drewN n) (fun i _ _ => P.length - (intOf i).toNat)
  case atStart => exact ⟨0, 0, rfl, Nat.zero_le _, rfl⟩
  case round =>
    obtain ⟨k, n, rfl, hk, hw⟩ := hrel
    have HW := hide hw
    by_cases hlt : k < P.length
    · obtain ⟨b, off, rv, rfl, _, c0', hr0⟩ := h3 k hlt
      obtain ⟨b', off', rv', rfl, _, d0', hr0'⟩ := h3' k hlt
      have c0 : wr.cell? ⟨b, off + k, none⟩ = some rv := by rw [hw]; exact c0'
      have d0 : wr.cell? ⟨b', off' + k, none⟩ = some rv' := by rw [hw]; exact d0'
      have hr : RingAt wr rv (P.getD k []) := by rw [hw]; exact hr0.drewN n
      have hr' : RingAt wr rv' (P.getD k []) := by rw [hw]; exact hr0'.drewN n
      clear c0' d0' hr0 hr0' hw
      generalize P.getD k [] = r at *
      have hk0 : (0 : Int) ≤ (k : Int) := Int.natCast_nonneg _
      have hk1 : (k : Int) < (P.length : Int) := by omega
      clear h3 h3'
      go_wp2_with fail
      go_quiet ((go_at_call 50; exact Calls.quiet_of (samePoints_yes _ _ r _ (hr.drewN _) (hr'.drewN _))))
      go_wp2
      go_roundw
      case rel => exact ⟨k + 1, n + nq, by go_num, by omega, by rw [HW.out, World.drewN_drewN]⟩
      case measure => simp [intOf]; omega
    · clear h3 h3' hw
      go_wp2
      go_ret
      exact ⟨rfl, n, HW.out⟩


set_option maxHeartbeats 1000000 in
/-- 'clips' says yes where the wanted rings are those of the model. -/
theorem clips_yes (op : Int) (va vb vw : Value) (A B W : List (List Pt)) (w : World) (hA : PolyAt w va A) (hB : PolyAt w vb B) (hW : PolyAt w vw W) (h : clipM op A B = (W, 0)) (hn : W.length ≤ 1000000) :
    Calls Try.prog 24 #[.int .i64 op, va, vb, vw] w fun e w' => e = .returned (.bool true) ∧ Below w.heap.size w w' := by
  have C := hide (Clip_any op va vb A B w hA hB)
  rw [h] at C
  have HW := hide hW
  clear hA hB hW
  go_enter Try.func24, Try.ntmps24
  go_wp2_with fail
  refine C.out.mono ?_
  rintro e w1 ⟨v', vs, rfl, o, k⟩
  have hP := hide (o.poly (by unfold maxLen; omega))
  have hW1 := hide (HW.out.later k)
  clear o C HW
  go_wp2_with fail
  refine (sameRings_yes v' vw W w1 hP.out hW1.out).mono ?_
  rintro e w2 ⟨rfl, m, rfl⟩
  have K2 := hide (below_drewN k m)
  clear hP hW1 k
  go_wp2
  go_ret
  exact ⟨rfl, K2.out⟩
end Go.Proofs.Ytnkcbephceollaa
namespace Go.Proofs.Ytnkcbephceollaa
open Go.RowKit
set_option linter.unusedSimpArgs false
set_option linter.unusedVariables false

theorem kn1 : checkM [boxM 0 0 4 4] = (0, 0) := by kernel_rfl
theorem kn2 : checkM [(boxM 0 0 4 4).take 2] = (2, 0) := by kernel_rfl
theorem kn3 : locM [boxM 0 0 4 4] ⟨1, 1, 1⟩ = (1, 0) := by kernel_rfl
theorem kn4 : locM [boxM 0 0 4 4] ⟨5, 1, 1⟩ = (0, 0) := by kernel_rfl
theorem kn5 : clipM 0 [boxM 0 0 4 4] [boxM 2 2 6 6] = ([boxM 2 2 4 4], 0) := by kernel_rfl
theorem kn6 : clipM 2 [boxM 0 0 4 4] [boxM 2 2 6 6] = ([[⟨0, 0, 1⟩, ⟨4, 0, 1⟩, ⟨4, 2, 1⟩, ⟨2, 2, 1⟩, ⟨2, 4, 1⟩, ⟨0, 4, 1⟩]], 0) := by kernel_rfl
theorem kn7 : (pcsM [boxM 0 0 4 4] [boxM 2 2 6 6]).length = 12 := by kernel_rfl
theorem kn8 : bothM [boxM 0 0 4 4] [boxM 2 2 6 6] = 0 := by kernel_rfl

theorem one_at (v : Value) (r : List Pt) (w : World) (hr : RingAt w v r) :
    Calls Try.prog 19 #[v] w fun e w' => ∃ g, e = .returned (.slice (some ⟨g, 0, none⟩) 1 1) ∧ g < w'.heap.size ∧ w'.cell? ⟨g, 0, none⟩ = some v ∧ PolyAt w' (.slice (some ⟨g, 0, none⟩) 1 1) [r] ∧ Below w.heap.size w w' := by
  have hr0 := hr
  obtain ⟨a, cap, rfl, h1, h2, h3⟩ := hr
  go_enter Try.func19, Try.ntmps19
  go_wp2
  refine bodyPost_ret (v := .slice (some ⟨w.heap.size, 0, none⟩) 1 1) (by simp [results, Try.results19, go_sem]) rfl ⟨w.heap.size, rfl, by simp, (World.cell?_alloc_at _ _ _ _ rfl).trans rfl, ?_, (Below.refl _ _).alloc (Nat.le_refl _) _⟩
  refine ⟨some ⟨w.heap.size, 0, none⟩, 1, rfl, Nat.le_refl _, by decide, fun i hi => ?_⟩
  obtain rfl : i = 0 := by simp at hi; omega
  exact ⟨_, 0, _, rfl, by simp, (World.cell?_alloc_at _ _ _ _ rfl).trans rfl, hr0.later ((Below.refl _ _).alloc (Nat.le_refl _) _)⟩
theorem ring_take {w : World} {g n cap k : Nat} {r : List Pt} (h : RingAt w (.slice (some ⟨g, 0, none⟩) n cap) r) (hk : k ≤ n) : RingAt w (.slice (some ⟨g, 0, none⟩) k cap) (r.take k) := by
  obtain ⟨a, cap', e, h1, h2, h3⟩ := h
  simp at e
  obtain ⟨rfl, rfl, rfl⟩ := e
  have hl : (r.take k).length = k := by simp; omega
  refine ⟨_, cap, by rw [hl], by omega, h2, fun j hj => ?_⟩
  rw [hl] at hj
  obtain ⟨b, off, e, hb, hp⟩ := h3 j (by omega)
  refine ⟨b, off, e, hb, ?_⟩
  have : (r.take k).getD j zP = r.getD j zP := by rw [List.getD_eq_getElem?_getD, List.getD_eq_getElem?_getD, List.getElem?_take_of_lt hj]
  rw [this]; exact hp
theorem ring_six (w : World) (p0 p1 p2 p3 p4 p5 : Pt) (t : TypeId) : RingAt (w.alloc (.cells #[.int .i64 p0.x, .int .i64 p0.y, .int .i64 p0.d, .int .i64 p1.x, .int .i64 p1.y, .int .i64 p1.d, .int .i64 p2.x, .int .i64 p2.y, .int .i64 p2.d, .int .i64 p3.x, .int .i64 p3.y, .int .i64 p3.d, .int .i64 p4.x, .int .i64 p4.y, .int .i64 p4.d, .int .i64 p5.x, .int .i64 p5.y, .int .i64 p5.d] t)) (.slice (some ⟨w.heap.size, 0, none⟩) 6 6) [p0, p1, p2, p3, p4, p5] := by
  refine ⟨_, 6, rfl, Nat.le_refl _, by decide, fun j hj => ⟨_, 0, rfl, by simp, ?_⟩⟩
  have h6 : j < 6 := hj
  have hc := fun o => World.cell?_alloc_at (w := w) #[.int .i64 p0.x, .int .i64 p0.y, .int .i64 p0.d, .int .i64 p1.x, .int .i64 p1.y, .int .i64 p1.d, .int .i64 p2.x, .int .i64 p2.y, .int .i64 p2.d, .int .i64 p3.x, .int .i64 p3.y, .int .i64 p3.d, .int .i64 p4.x, .int .i64 p4.y, .int .i64 p4.d, .int .i64 p5.x, .int .i64 p5.y, .int .i64 p5.d] t _ o rfl
  match j, h6 with
  | 0, _ => exact ⟨hc 0, hc 1, hc 2⟩
  | 1, _ => exact ⟨hc 3, hc 4, hc 5⟩
  | 2, _ => exact ⟨hc 6, hc 7, hc 8⟩
  | 3, _ => exact ⟨hc 9, hc 10, hc 11⟩
  | 4, _ => exact ⟨hc 12, hc 13, hc 14⟩
  | 5, _ => exact ⟨hc 15, hc 16, hc 17⟩

set_option maxRecDepth 100000 in
set_option maxHeartbeats 8000000 in
theorem known_yes (w : World) : Calls Try.prog 26 #[] w fun e w' => e = .returned (.bool true) ∧ Below w.heap.size w w' := by
  have K1 := hide kn1
  have K2 := hide kn2
  have K3 := hide kn3
  have K4 := hide kn4
  have K5 := hide kn5
  have K6 := hide kn6
  have K7 := hide kn7
  have K8 := hide kn8
  go_enter Try.func26, Try.ntmps26
  go_wp2_with fail
  refine (box_any 0 0 4 4 _).mono ?_
  rintro e w1 ⟨g1, rfl, r1, k1⟩
  have R1 := hide r1
  clear r1
  go_wp2_with fail
  refine (one_at _ _ _ R1.out).mono ?_
  rintro e w2 ⟨ga, rfl, ga1, ca, pa, k2⟩
  have PA2 := hide pa
  have R2 := hide (R1.out.later k2)
  have B2 := bvia k1 k2
  clear R1 pa k1 k2
  go_wp2_with fail
  refine (box_any 2 2 6 6 _).mono ?_
  rintro e w3 ⟨g2, rfl, r3, k3⟩
  have R3 := hide r3
  clear r3
  go_wp2_with fail
  refine (one_at _ _ _ R3.out).mono ?_
  rintro e w4 ⟨gb, rfl, gb1, cb, pb, k4⟩
  have k34 := bvia k3 k4
  have PB4 := hide pb
  have PA4 := hide (PA2.out.later k34)
  have R4 := hide (R2.out.later k34)
  have ca4 := (k34.cell (p := ⟨ga, 0, none⟩) ga1).trans ca
  have B4 := bvia B2 k34
  have ga4 : ga < w4.heap.size := by have := k34.size; omega
  clear R3 R2 PA2 pb k3 k4 k34 ca B2 cb ga1
  generalize hbA : boxM 0 0 4 4 = bA at *
  generalize hbB : boxM 2 2 6 6 = bB at *
  go_wp2_with fail
  refine (Check_any _ _ _ PA4.out).mono ?_
  rintro e w5 ⟨rfl, k5⟩
  rw [K1.out]
  have PA5 := hide (PA4.out.later k5)
  have PB5 := hide (PB4.out.later k5)
  have R5 := hide (ring_take (R4.out.later k5) (show 2 ≤ 4 by decide))
  have ca5 := (k5.cell (p := ⟨ga, 0, none⟩) ga4).trans ca4
  have B5 := bvia B4 k5
  clear PA4 PB4 R4 ca4 B4 k5
  go_wp2_with fail
  refine (one_at _ _ _ R5.out).mono ?_
  rintro e w6 ⟨gc, rfl, _, _, pc, k6⟩
  have PC6 := hide pc
  have PA6 := hide (PA5.out.later k6)
  have PB6 := hide (PB5.out.later k6)
  have B6 := bvia B5 k6
  clear PA5 PB5 R5 ca5 B5 k6 pc
  go_wp2_with fail
  refine (Check_any _ _ _ PC6.out).mono ?_
  rintro e w7 ⟨rfl, k7⟩
  rw [K2.out]
  have PA7 := hide (PA6.out.later k7)
  have PB7 := hide (PB6.out.later k7)
  have B7 := bvia B6 k7
  clear PA6 PB6 PC6 B6 k7
  go_wp2_with fail
  refine (at_any 1 1 _).mono ?_
  rintro e w8 ⟨rfl, k8⟩
  have PA8 := hide (PA7.out.later k8)
  have PB8 := hide (PB7.out.later k8)
  have B8 := bvia B7 k8
  clear PA7 PB7 B7 k8
  go_wp2_with fail
  refine (Locate_any _ _ ⟨1, 1, 1⟩ _ PA8.out).mono ?_
  rintro e w9 ⟨rfl, k9⟩
  rw [K3.out]
  have PA9 := hide (PA8.out.later k9)
  have PB9 := hide (PB8.out.later k9)
  have B9 := bvia B8 k9
  clear PA8 PB8 B8 k9
  go_wp2_with fail
  refine (at_any 5 1 _).mono ?_
  rintro e w10 ⟨rfl, k10⟩
  have PA10 := hide (PA9.out.later k10)
  have PB10 := hide (PB9.out.later k10)
  have B10 := bvia B9 k10
  clear PA9 PB9 B9 k10
  go_wp2_with fail
  refine (Locate_any _ _ ⟨5, 1, 1⟩ _ PA10.out).mono ?_
  rintro e w11 ⟨rfl, k11⟩
  rw [K4.out]
  have PA11 := hide (PA10.out.later k11)
  have PB11 := hide (PB10.out.later k11)
  have B11 := bvia B10 k11
  clear PA10 PB10 B10 k11
  go_wp2_with fail
  refine (box_any 2 2 4 4 _).mono ?_
  rintro e w12 ⟨g3, rfl, r12, k12⟩
  have R12 := hide r12
  have PA12 := hide (PA11.out.later k12)
  have PB12 := hide (PB11.out.later k12)
  have B12 := bvia B11 k12
  clear PA11 PB11 B11 k12 r12
  go_wp2_with fail
  refine (one_at _ _ _ R12.out).mono ?_
  rintro e w13 ⟨gd, rfl, _, _, pd, k13⟩
  have PD13 := hide pd
  have PA13 := hide (PA12.out.later k13)
  have PB13 := hide (PB12.out.later k13)
  have B13 := bvia B12 k13
  clear PA12 PB12 B12 k13 pd R12
  go_wp2_with fail
  refine (clips_yes 0 _ _ _ _ _ _ _ PA13.out PB13.out PD13.out K5.out (by decide)).mono ?_
  rintro e w14 ⟨rfl, k14⟩
  have PA14 := hide (PA13.out.later k14)
  have PB14 := hide (PB13.out.later k14)
  have B14 := bvia B13 k14
  clear PA13 PB13 PD13 B13 k14
  go_wp2_with fail
  refine (at_any 0 0 _).mono ?_
  rintro e w15 ⟨rfl, k15⟩
  go_wp2_with fail
  refine (at_any 4 0 _).mono ?_
  rintro e w16 ⟨rfl, k16⟩
  go_wp2_with fail
  refine (at_any 4 2 _).mono ?_
  rintro e w17 ⟨rfl, k17⟩
  go_wp2_with fail
  refine (at_any 2 2 _).mono ?_
  rintro e w18 ⟨rfl, k18⟩
  go_wp2_with fail
  refine (at_any 2 4 _).mono ?_
  rintro e w19 ⟨rfl, k19⟩
  go_wp2_with fail
  refine (at_any 0 4 _).mono ?_
  rintro e w20 ⟨rfl, k20⟩
  have kk := bvia (bvia (bvia (bvia (bvia k15 k16) k17) k18) k19) k20
  have PA20 := hide (PA14.out.later kk)
  have PB20 := hide (PB14.out.later kk)
  have B20 := bvia B14 kk
  clear PA14 PB14 B14 kk k15 k16 k17 k18 k19 k20
  have R20 := hide (ring_six w20 ⟨0, 0, 1⟩ ⟨4, 0, 1⟩ ⟨4, 2, 1⟩ ⟨2, 2, 1⟩ ⟨2, 4, 1⟩ ⟨0, 4, 1⟩ 25)
  have kA : Hid (Below w20.heap.size w20 (w20.alloc (.cells #[.int .i64 0, .int .i64 0, .int .i64 1, .int .i64 4, .int .i64 0, .int .i64 1, .int .i64 4, .int .i64 2, .int .i64 1, .int .i64 2, .int .i64 2, .int .i64 1, .int .i64 2, .int .i64 4, .int .i64 1, .int .i64 0, .int .i64 4, .int .i64 1] 25))) := hide ((Below.refl _ _).alloc (Nat.le_refl _) _)
  go_wp2_with fail
  refine (one_at _ _ _ R20.out).mono ?_
  rintro e w21 ⟨ge, rfl, _, _, pe, k21⟩
  have k22 := bvia kA.out k21
  have PE21 := hide pe
  have PA21 := hide (PA20.out.later k22)
  have PB21 := hide (PB20.out.later k22)
  have B21 := bvia B20 k22
  clear PA20 PB20 B20 k21 k22 pe R20 kA
  go_wp2_with fail
  refine (clips_yes 2 _ _ _ _ _ _ _ PA21.out PB21.out PE21.out K6.out (by decide)).mono ?_
  rintro e w23 ⟨rfl, k23⟩
  have PA23 := hide (PA21.out.later k23)
  have PB23 := hide (PB21.out.later k23)
  have B23 := bvia B21 k23
  clear PA21 PB21 PE21 B21 k23
  go_wp2_with fail
  refine (Pieces_any _ _ _ _ _ PA23.out PB23.out).mono ?_
  rintro e w24 ⟨v', rfl, o24, k24⟩
  rw [K8.out]
  have B24 := bvia B23 k24
  obtain ⟨la, lcap, rfl, _, _, _⟩ := own_form o24
  rw [K7.out]
  clear o24 k24 PA23 PB23 B23
  go_wp2
  go_ret
  exact ⟨rfl, B24⟩
end Go.Proofs.Ytnkcbephceollaa
