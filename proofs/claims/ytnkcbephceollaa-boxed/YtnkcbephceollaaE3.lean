import Derived.Test.YtnkcbephceollaaQ20
import Derived.OpenShut
import Derived.Deep.Cut
import Derived.Deep.CutBlock
import Derived.Deep.DeepCutAuto
import Derived.Deep.RegionWith
namespace Go.Proofs.Ytnkcbephceollaa
open Go.RowKit
set_option linter.unusedSimpArgs false
set_option linter.unusedVariables false

theorem more_of (P : List (List Pt)) : ∀ room : Int, ((edgesM P).length : Int) ≤ room → moreM room P = false := by
  induction P with
  | nil => intro room h; rfl
  | cons r P ih =>
    intro room h
    have e : (edgesM (r :: P)).length = r.length + (edgesM P).length := by simp [edgesM, ringEdges_len]
    rw [e] at h
    simp only [moreM]
    rw [if_neg (by omega)]
    exact ih _ (by omega)
theorem good_gp {x y : Int} (h1 : 0 ≤ x) (h2 : x ≤ 64) (h3 : 0 ≤ y) (h4 : y ≤ 64) : goodB (gp x y) = true := by
  unfold goodB; simp; omega
theorem loc_box1 {q : Pt} (hq : goodB q = true) {W H : Int} (w1 : 4 ≤ W) (w2 : W ≤ 63) (h1 : 4 ≤ H) (h2 : H ≤ 63) : locM [boxM 0 0 W H] q = (want1 (btwM q.x q.d 0 W) (btwM q.y q.d 0 H), 0) := by
  have hd : 0 < q.d := by have := of_decide_eq_true hq; omega
  unfold locM
  rw [if_neg (by rw [more_of _ 2000 (by simp [edgesM, box_edges])]; decide), if_neg (by rw [hq]; decide), if_neg, boxed1 hd (by omega) (by omega)]
  simp only [edgesM, List.flatMap_cons, List.flatMap_nil, box_edges, List.cons_append, List.nil_append, List.all_cons, List.all_nil, Bool.and_true]
  simp [good_gp, w2, h2, show W ≤ 64 by omega, show H ≤ 64 by omega, show 0 ≤ W by omega, show 0 ≤ H by omega]
theorem loc_box2 {q : Pt} (hq : goodB q = true) {W H : Int} (w1 : 4 ≤ W) (w2 : W ≤ 63) (h1 : 4 ≤ H) (h2 : H ≤ 63) : locM [boxM 0 0 W H, boxM 1 1 (W - 1) (H - 1)] q = (want2 (btwM q.x q.d 0 W) (btwM q.y q.d 0 H) (btwM q.x q.d 1 (W - 1)) (btwM q.y q.d 1 (H - 1)), 0) := by
  have hd : 0 < q.d := by have := of_decide_eq_true hq; omega
  unfold locM
  rw [if_neg (by rw [more_of _ 2000 (by simp [edgesM, box_edges])]; decide), if_neg (by rw [hq]; decide), if_neg, boxed2 hd (by omega) (by omega)]
  simp only [edgesM, List.flatMap_cons, List.flatMap_nil, box_edges, List.cons_append, List.nil_append, List.all_cons, List.all_nil, Bool.and_true]
  rw [good_gp (by omega) (by omega) (by omega) (by omega), good_gp (by omega) (by omega) (by omega) (by omega), good_gp (by omega) (by omega) (by omega) (by omega), good_gp (by omega) (by omega) (by omega) (by omega), good_gp (by omega) (by omega) (by omega) (by omega), good_gp (by omega) (by omega) (by omega) (by omega), good_gp (by omega) (by omega) (by omega) (by omega), good_gp (by omega) (by omega) (by omega) (by omega)]
  decide

set_option maxRecDepth 100000 in
set_option maxHeartbeats 4000000 in
theorem boxed_walk (c d x y n : Int) (w : World) (c1 : -9223372036854775808 ≤ c) (c2 : c ≤ 9223372036854775807) (d1 : -9223372036854775808 ≤ d) (d2 : d ≤ 9223372036854775807) (x1 : -9223372036854775808 ≤ x) (x2 : x ≤ 9223372036854775807) (y1 : -9223372036854775808 ≤ y) (y2 : y ≤ 9223372036854775807) (n1 : -9223372036854775808 ≤ n) (n2 : n ≤ 9223372036854775807) :
    Calls Try.prog 4 #[.int .i64 c, .int .i64 d, .int .i64 x, .int .i64 y, .int .i64 n] w fun e w' => e = .returned (.bool true) ∧ Below w.heap.size w w' := by
  have p1 := pick_any c 60 w c1 c2 (by decide) (by decide)
  have p2 := pick_any d 60 w d1 d2 (by decide) (by decide)
  have p3 := pick_any n 32768 w n1 n2 (by decide) (by decide)
  obtain ⟨b1, b1'⟩ := pickM_bd c 60 (by decide)
  obtain ⟨b2, b2'⟩ := pickM_bd d 60 (by decide)
  obtain ⟨b3, b3'⟩ := pickM_bd n 32768 (by decide)
  generalize pickM c 60 = pc at *
  generalize pickM d 60 = pd at *
  generalize pickM n 32768 = pn at *
  have p4 := pick_any x (128 * (1 + pn) + 1) w x1 x2 (by omega) (by omega)
  have p5 := pick_any y (128 * (1 + pn) + 1) w y1 y2 (by omega) (by omega)
  obtain ⟨b4, b4'⟩ := pickM_bd x (128 * (1 + pn) + 1) (by omega)
  obtain ⟨b5, b5'⟩ := pickM_bd y (128 * (1 + pn) + 1) (by omega)
  generalize pickM x (128 * (1 + pn) + 1) = px at *
  generalize pickM y (128 * (1 + pn) + 1) = py at *
  clear c1 c2 d1 d2 x1 x2 y1 y2 n1 n2
  have hq : goodB ⟨px - 64 * (1 + pn), py - 64 * (1 + pn), 1 + pn⟩ = true := by unfold goodB; simp; omega
  have L1' := loc_box1 hq (W := 4 + pc) (H := 4 + pd) (by omega) (by omega) (by omega) (by omega)
  have L2' := loc_box2 hq (W := 4 + pc) (H := 4 + pd) (by omega) (by omega) (by omega) (by omega)
  have dn : In (1 + pn) 32768 := ⟨by omega, by omega⟩
  have m1 : In (0 * (1 + pn)) 100000000 := by rw [Int.zero_mul]; exact ⟨by decide, by decide⟩
  have m2 : In ((4 + pc) * (1 + pn)) 100000000 := (In.mul (A := 63) ⟨by omega, by omega⟩ dn).mono (by decide)
  have m3 : In ((4 + pd) * (1 + pn)) 100000000 := (In.mul (A := 63) ⟨by omega, by omega⟩ dn).mono (by decide)
  have m4 : In (1 * (1 + pn)) 100000000 := by rw [Int.one_mul]; exact dn.mono (by decide)
  have m5 : In ((4 + pc - 1) * (1 + pn)) 100000000 := (In.mul (A := 63) ⟨by omega, by omega⟩ dn).mono (by decide)
  have m6 : In ((4 + pd - 1) * (1 + pn)) 100000000 := (In.mul (A := 63) ⟨by omega, by omega⟩ dn).mono (by decide)
  have t1 := fun w => between_any (px - 64 * (1 + pn)) (1 + pn) 0 (4 + pc) w m1 m2
  have t2 := fun w => between_any (py - 64 * (1 + pn)) (1 + pn) 0 (4 + pd) w m1 m3
  have t3 := fun w => between_any (px - 64 * (1 + pn)) (1 + pn) 1 (4 + pc - 1) w m4 m5
  have t4 := fun w => between_any (py - 64 * (1 + pn)) (1 + pn) 1 (4 + pd - 1) w m4 m6
  generalize btwM (px - 64 * (1 + pn)) (1 + pn) 0 (4 + pc) = i at *
  generalize btwM (py - 64 * (1 + pn)) (1 + pn) 0 (4 + pd) = j at *
  generalize btwM (px - 64 * (1 + pn)) (1 + pn) 1 (4 + pc - 1) = k at *
  generalize btwM (py - 64 * (1 + pn)) (1 + pn) 1 (4 + pd - 1) = l at *
  have L1 := hide L1'
  have L2 := hide L2'
  clear m1 m2 m3 m4 m5 m6 dn hq L1' L2'
  go_enter Try.func4, Try.ntmps4
  go_wp2_with fail
  refine p1.mono ?_
  rintro e w' ⟨rfl, hw⟩
  obtain rfl := hw.symm
  go_wp2_with fail
  refine p2.mono ?_
  rintro e w' ⟨rfl, hw⟩
  obtain rfl := hw.symm
  go_wp2_with fail
  refine p3.mono ?_
  rintro e w' ⟨rfl, hw⟩
  obtain rfl := hw.symm
  go_wp2_with fail
  refine p4.mono ?_
  rintro e w' ⟨rfl, hw⟩
  obtain rfl := hw.symm
  go_wp2_with fail
  refine p5.mono ?_
  rintro e w' ⟨rfl, hw⟩
  obtain rfl := hw.symm
  go_wp2_with fail
  refine (t1 _).mono ?_
  rintro e w' ⟨rfl, hw⟩
  obtain rfl := hw.symm
  go_wp2_with fail
  refine (t2 _).mono ?_
  rintro e w' ⟨rfl, hw⟩
  obtain rfl := hw.symm
  have Q0 := Blk.new w #[.int .i64 (px - 64 * (1 + pn)), .int .i64 (py - 64 * (1 + pn)), .int .i64 (1 + pn)] 25
  have B0 : Below w.heap.size w (w.alloc (.cells #[.int .i64 (px - 64 * (1 + pn)), .int .i64 (py - 64 * (1 + pn)), .int .i64 (1 + pn)] 25)) := (Below.refl _ _).alloc (Nat.le_refl _) _
  generalize w.alloc (.cells #[.int .i64 (px - 64 * (1 + pn)), .int .i64 (py - 64 * (1 + pn)), .int .i64 (1 + pn)] 25) = wq at *
  go_upto_block 0 with fail
  go_cut [19] (fun wt w' => wt = .int .i64 (want1 i j) ∧ w' = wq)
  case first =>
    by_cases hi0 : i = 0
    · subst hi0
      have HE : Hid (want1 0 j = 0) := if_pos (.inl rfl)
      go_wp2
      go_meet
      case rel => exact ⟨by rw [HE.out], rfl⟩
    have hib : (i == 0) = false := by simpa using hi0
    by_cases hj0 : j = 0
    · subst hj0
      have HE : Hid (want1 i 0 = 0) := if_pos (.inr rfl)
      go_wp2
      go_meet
      case rel => exact ⟨by rw [HE.out], rfl⟩
    have hjb : (j == 0) = false := by simpa using hj0
    have h0 := hide (show want1 i j = _ from if_neg (fun k => k.elim hi0 hj0))
    by_cases hi1 : i = 1
    · subst hi1
      by_cases hj1 : j = 1
      · subst hj1
        go_wp2
        go_meet
        case rel => exact ⟨rfl, rfl⟩
      · have hjc : (j == 1) = false := by simpa using hj1
        have HE : Hid (want1 1 j = 2) := h0.out.trans (if_neg (fun k => hj1 k.2))
        go_wp2
        go_meet
        case rel => exact ⟨by rw [HE.out], rfl⟩
    · have hic : (i == 1) = false := by simpa using hi1
      have HE : Hid (want1 i j = 2) := h0.out.trans (if_neg (fun k => hi1 k.1))
      go_wp2
      go_meet
      case rel => exact ⟨by rw [HE.out], rfl⟩
  case rest =>
    obtain ⟨rfl, rfl⟩ := hcut
    go_upto_region 14 with fail
    go_cut [20, 21] (fun g e w' => g = .int .i64 (want1 i j) ∧ e = .int .i64 0 ∧ Blk w' w.heap.size #[.int .i64 (px - 64 * (1 + pn)), .int .i64 (py - 64 * (1 + pn)), .int .i64 (1 + pn)] ∧ Below w.heap.size w w')
    case first =>
      obtain ⟨cq, fq, zq⟩ := Q0
      go_region_with (first
        | (go_at_call 20; refine (box_any _ _ _ _ _).mono ?_; rintro e w1 ⟨g1, rfl, hr1, k1⟩; have B1 := bvia B0.drew k1; have Q1 := (Blk.mk cq fq zq).drew.call k1; obtain ⟨cq1, fq1, zq1⟩ := Q1)
        | (go_at_call 19; refine (one_any _ _ _ hr1).mono ?_; rintro e w2 ⟨v2, rfl, hr2, k2⟩; have B2 := bvia B1 k2; have Q2 := (Blk.mk cq1 fq1 zq1).call k2; obtain ⟨cq2, fq2, zq2⟩ := Q2)
        | (go_at_call 18; refine (Locate_any _ _ ⟨px - 64 * (1 + pn), py - 64 * (1 + pn), 1 + pn⟩ _ hr2).mono ?_; rintro e w3 ⟨rfl, k3⟩; rw [L1.out]; have B3 := bvia B2 k3; have Q3 := (Blk.mk cq2 fq2 zq2).call k3))
      all_goals
        go_wp2_with fail
        go_meet
        case rel => exact ⟨rfl, rfl, Q3, B3⟩
    case rest =>
      obtain ⟨rfl, rfl, ⟨cq, fq, zq⟩, B1⟩ := hcut
      go_wp2_with fail
      refine (t3 _).mono ?_
      rintro e w' ⟨rfl, hw⟩
      obtain rfl := hw.symm
      go_wp2_with fail
      refine (t4 _).mono ?_
      rintro e w' ⟨rfl, hw⟩
      obtain rfl := hw.symm
      have hww : Hid (want2 i j k l = if k = 1 ∧ l = 1 then 0 else if k ≠ 0 ∧ l ≠ 0 then 2 else want1 i j) := hide rfl
      generalize want1 i j = n1 at *
      generalize want2 i j k l = n2 at *
      go_upto_region 19 with fail
      go_cut [104] (fun t w' => t = .bool (decide (k = 1 ∧ l = 1)) ∧ w' = wc)
      case first =>
        by_cases hk1 : k = 1
        · subst hk1
          by_cases hl1 : l = 1
          · subst hl1
            go_wp2
            go_meet
            case rel => exact ⟨rfl, rfl⟩
          · have hb : (l == 1) = false := by simpa using hl1
            have hd : decide ((1 : Int) = 1 ∧ l = 1) = false := decide_eq_false (fun k => hl1 k.2)
            go_wp2
            go_meet
            case rel => exact ⟨by rw [hd], rfl⟩
        · have hb : (k == 1) = false := by simpa using hk1
          have hd : decide (k = 1 ∧ l = 1) = false := decide_eq_false (fun k => hk1 k.1)
          go_wp2
          go_meet
          case rel => exact ⟨by rw [hd], rfl⟩
      case rest =>
        obtain ⟨rfl, rfl⟩ := hcut
        go_upto_if 104 with fail
        go_cut [19] (fun wt w' => wt = .int .i64 n2 ∧ w' = wc)
        case first =>
          by_cases h1 : k = 1 ∧ l = 1
          · have HE : Hid (n2 = 0) := hww.out.trans (if_pos h1)
            have hd : decide (k = 1 ∧ l = 1) = true := decide_eq_true h1
            rw [hd]
            clear hd hww h1
            go_wp2
            go_meet
            case rel => exact ⟨by rw [HE.out], rfl⟩
          · have H1 := hide (hww.out.trans (if_neg h1))
            have hd : decide (k = 1 ∧ l = 1) = false := decide_eq_false h1
            rw [hd]
            clear hd hww
            by_cases hk0 : k = 0
            · have HE : Hid (n2 = n1) := H1.out.trans (if_neg (fun h => h.1 hk0))
              have hb : (k != 0) = false := by simpa using hk0
              go_wp2
              go_meet
              case rel => exact ⟨by rw [HE.out], rfl⟩
            · have hb : (k != 0) = true := by simpa using hk0
              by_cases hl0 : l = 0
              · have HE : Hid (n2 = n1) := H1.out.trans (if_neg (fun h => h.2 hl0))
                have hc : (l != 0) = false := by simpa using hl0
                go_wp2
                go_meet
                case rel => exact ⟨by rw [HE.out], rfl⟩
              · have HE : Hid (n2 = 2) := H1.out.trans (if_pos ⟨hk0, hl0⟩)
                have hc : (l != 0) = true := by simpa using hl0
                go_wp2
                go_meet
                case rel => exact ⟨by rw [HE.out], rfl⟩
        case rest =>
          obtain ⟨rfl, rfl⟩ := hcut
          go_upto_region 23 with fail
          go_cut [20, 21] (fun g e w' => g = .int .i64 n2 ∧ e = .int .i64 0 ∧ Below w.heap.size w w')
          case first =>
            have wr1 : IntKind.i64.wrap (4 + pc - 1) = 4 + pc - 1 := IntWalk.i64_in _ (by omega)
            have wr2 : IntKind.i64.wrap (4 + pd - 1) = 4 + pd - 1 := IntWalk.i64_in _ (by omega)
            go_region_with (first
              | (go_at_call 20; refine (box_any _ _ _ _ _).mono ?_; rintro e w2 ⟨g2, rfl, hr2, k2⟩; (try rw [wr1, wr2] at hr2); have hr3 := poly2 (hr1.later k2) hr2 44; have B4 := bvia B2 k2; have Q2 := (Blk.mk cq1 fq1 zq1).call k2; obtain ⟨cq2, fq2, zq2⟩ := Q2)
              | (go_at_call 20; refine (box_any _ _ _ _ _).mono ?_; rintro e w1 ⟨g1, rfl, hr1, k1⟩; have B2 := bvia B1.drew k1; have Q1 := (Blk.mk cq fq zq).drew.call k1; obtain ⟨cq1, fq1, zq1⟩ := Q1)
              | (go_at_call 18; refine (Locate_any _ _ ⟨px - 64 * (1 + pn), py - 64 * (1 + pn), 1 + pn⟩ _ hr3).mono ?_; rintro e w3 ⟨rfl, k3⟩; rw [L2.out]; have B3 := bvia (B4.alloc B4.size _) k3))
            all_goals
              go_wp2_with fail
              go_meet
              case rel => exact ⟨rfl, rfl, B3⟩
          case rest =>
            obtain ⟨rfl, rfl, B2⟩ := hcut
            go_wp2
            go_ret
            exact ⟨by simp, B2⟩
end Go.Proofs.Ytnkcbephceollaa
