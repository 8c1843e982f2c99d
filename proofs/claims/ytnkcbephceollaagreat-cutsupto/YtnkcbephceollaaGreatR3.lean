import Derived.Test.YtnkcbephceollaaGreatQ10
namespace Go.Proofs.YtnkcbephceollaaGreat
open Go.RowKit
set_option linter.unusedSimpArgs false
set_option linter.unusedVariables false

theorem gcdM_step {s t : Int} (hs : 0 ≤ s) (ht : 0 < t) : gcdM t (s % t) = gcdM s t := by
  have e : s % t = s.tmod t := (Int.tmod_eq_emod_of_nonneg hs).symm
  rw [e]; unfold gcdM; rw [gcd_step]
theorem gcdM_zero {s : Int} (hs : 0 ≤ s) : gcdM s 0 = s := by unfold gcdM; simp; omega
theorem gcdM_pos {s t : Int} (hs : 0 < s) : 0 < gcdM s t := by
  unfold gcdM
  have : Int.gcd s t ≠ 0 := fun e => by have := (Int.gcd_eq_zero_iff.1 e).1; omega
  omega
theorem gcdM_le {s t : Int} (hs : 0 < s) : gcdM s t ≤ s := by
  have := Int.gcd_le_natAbs_left (a := s) (b := t) (by omega); unfold gcdM; omega
theorem gcd3 (x y d : Int) : gcdM (gcdM d (-x)) (-y) = gcdM (gcdM x y) d ∧ gcdM (gcdM d x) (-y) = gcdM (gcdM x y) d ∧ gcdM (gcdM d (-x)) y = gcdM (gcdM x y) d ∧ gcdM (gcdM d x) y = gcdM (gcdM x y) d := by
  have h : gcdM (gcdM d x) y = gcdM (gcdM x y) d := by
    unfold gcdM
    rw [Int.gcd_assoc, Int.gcd_comm]
  have n1 : gcdM d (-x) = gcdM d x := by unfold gcdM; rw [Int.gcd_neg]
  have n2 : ∀ z, gcdM z (-y) = gcdM z y := fun z => by unfold gcdM; rw [Int.gcd_neg]
  rw [n1, n2]
  exact ⟨h, h, h, h⟩

set_option maxHeartbeats 2000000 in
theorem rleast_nn (p : Pt) (w : World) (hp : Gd p) (hd : 0 < p.d) (hx : p.x < 0) (hy : p.y < 0) :
    Calls Tryz.prog 72 #[p.v] w fun e w' => e = .returned (leastM p).v ∧ Below w.heap.size w w' := by
  have hG : gcdM (gcdM p.d (-p.x)) (-p.y) = gcdM (gcdM p.x p.y) p.d := (gcd3 p.x p.y p.d).1
  have g1 := gcdM_pos (t := -p.x) hd
  have g2 := gcdM_pos (t := -p.y) g1
  have g3 := gcdM_le (t := -p.x) hd
  have g4 := gcdM_le (t := -p.y) g1
  have H : Hid (leastM p = ⟨p.x.tdiv (gcdM (gcdM p.d (-p.x)) (-p.y)), p.y.tdiv (gcdM (gcdM p.d (-p.x)) (-p.y)), p.d.tdiv (gcdM (gcdM p.d (-p.x)) (-p.y))⟩) := by
    rw [hG]; rw [hG] at g2; exact if_neg (by omega)
  obtain ⟨lx, ux⟩ := hp.x
  obtain ⟨ly, uy⟩ := hp.y
  obtain ⟨ld, ud⟩ := hp.d
  obtain ⟨mx, vx⟩ := tdiv_in (g := gcdM (gcdM p.d (-p.x)) (-p.y)) hp.x
  obtain ⟨my, vy⟩ := tdiv_in (g := gcdM (gcdM p.d (-p.x)) (-p.y)) hp.y
  obtain ⟨md, vd⟩ := tdiv_in (g := gcdM (gcdM p.d (-p.x)) (-p.y)) hp.d
  clear hG hp
  go_enter Tryz.func72, Tryz.ntmps72
  go_wp2_with fail
  refine wp_loop_rounds 3 ?_
  rw [rounds_succ]
  go_wp2_with fail
  go_loop [3, 6, 7] (fun g n _ => ∃ s t : Int, g = .int .i64 s ∧ n = .int .i64 t ∧ Hid (gcdM s t = gcdM p.d (-p.x)) ∧ 0 < s ∧ s ≤ 9223372036854775807 ∧ 0 ≤ t ∧ t ≤ 2097152) (fun _ n _ => (intOf n).toNat)
  case atStart => exact ⟨p.d, -p.x, rfl, rfl, rfl, by omega, by omega, by omega, by omega⟩
  case round =>
    obtain ⟨s0, t0, rfl, rfl, HG0, hs0, ks0, ht0, kt0⟩ := hrel
    by_cases hz0 : 0 < t0
    · have HG' : Hid (gcdM t0 (s0 % t0) = gcdM p.d (-p.x)) := (gcdM_step (by omega) hz0).trans HG0.out
      have e1 := Int.emod_nonneg s0 (show t0 ≠ 0 by omega)
      have e2 := Int.emod_lt_of_pos s0 hz0
      go_wp2
      go_round
      case rel => exact ⟨t0, s0 % t0, rfl, rfl, HG', hz0, by omega, e1, by omega⟩
      case measure => simp [intOf]; omega
    have ez0 : t0 = 0 := by omega
    subst ez0
    have es0 : s0 = gcdM p.d (-p.x) := (gcdM_zero (by omega)).symm.trans HG0.out
    subst es0
    clear HG0
    go_wp2_with fail
    rw [rounds_succ]
    go_wp2_with fail
    go_loop [3, 6, 7] (fun g n _ => ∃ s t : Int, g = .int .i64 s ∧ n = .int .i64 t ∧ Hid (gcdM s t = gcdM (gcdM p.d (-p.x)) (-p.y)) ∧ 0 < s ∧ s ≤ 9223372036854775807 ∧ 0 ≤ t ∧ t ≤ 2097152) (fun _ n _ => (intOf n).toNat)
    case atStart => exact ⟨gcdM p.d (-p.x), -p.y, rfl, rfl, rfl, by omega, by omega, by omega, by omega⟩
    case round =>
      obtain ⟨s1, t1, rfl, rfl, HG1, hs1, ks1, ht1, kt1⟩ := hrel
      by_cases hz1 : 0 < t1
      · have HG' : Hid (gcdM t1 (s1 % t1) = gcdM (gcdM p.d (-p.x)) (-p.y)) := (gcdM_step (by omega) hz1).trans HG1.out
        have e1 := Int.emod_nonneg s1 (show t1 ≠ 0 by omega)
        have e2 := Int.emod_lt_of_pos s1 hz1
        go_wp2
        go_round
        case rel => exact ⟨t1, s1 % t1, rfl, rfl, HG', hz1, by omega, e1, by omega⟩
        case measure => simp [intOf]; omega
      have ez1 : t1 = 0 := by omega
      subst ez1
      have es1 : s1 = gcdM (gcdM p.d (-p.x)) (-p.y) := (gcdM_zero (by omega)).symm.trans HG1.out
      subst es1
      clear HG1
      go_wp2_with fail
      rw [rounds_succ]
      go_wp2_with fail
      go_region
      go_wp2
      exact bodyPost_ret (v := Pt.v ⟨p.x.tdiv (gcdM (gcdM p.d (-p.x)) (-p.y)), p.y.tdiv (gcdM (gcdM p.d (-p.x)) (-p.y)), p.d.tdiv (gcdM (gcdM p.d (-p.x)) (-p.y))⟩) (by simp [results, Tryz.results72, go_sem]) rfl ⟨by rw [H.out], (below3 _ _ _ _).drew⟩

set_option maxHeartbeats 2000000 in
theorem rleast_np (p : Pt) (w : World) (hp : Gd p) (hd : 0 < p.d) (hx : p.x < 0) (hy : 0 ≤ p.y) :
    Calls Tryz.prog 72 #[p.v] w fun e w' => e = .returned (leastM p).v ∧ Below w.heap.size w w' := by
  have hG : gcdM (gcdM p.d (-p.x)) (p.y) = gcdM (gcdM p.x p.y) p.d := (gcd3 p.x p.y p.d).2.2.1
  have g1 := gcdM_pos (t := -p.x) hd
  have g2 := gcdM_pos (t := p.y) g1
  have g3 := gcdM_le (t := -p.x) hd
  have g4 := gcdM_le (t := p.y) g1
  have H : Hid (leastM p = ⟨p.x.tdiv (gcdM (gcdM p.d (-p.x)) (p.y)), p.y.tdiv (gcdM (gcdM p.d (-p.x)) (p.y)), p.d.tdiv (gcdM (gcdM p.d (-p.x)) (p.y))⟩) := by
    rw [hG]; rw [hG] at g2; exact if_neg (by omega)
  obtain ⟨lx, ux⟩ := hp.x
  obtain ⟨ly, uy⟩ := hp.y
  obtain ⟨ld, ud⟩ := hp.d
  obtain ⟨mx, vx⟩ := tdiv_in (g := gcdM (gcdM p.d (-p.x)) (p.y)) hp.x
  obtain ⟨my, vy⟩ := tdiv_in (g := gcdM (gcdM p.d (-p.x)) (p.y)) hp.y
  obtain ⟨md, vd⟩ := tdiv_in (g := gcdM (gcdM p.d (-p.x)) (p.y)) hp.d
  clear hG hp
  go_enter Tryz.func72, Tryz.ntmps72
  go_wp2_with fail
  refine wp_loop_rounds 3 ?_
  rw [rounds_succ]
  go_wp2_with fail
  go_loop [3, 6, 7] (fun g n _ => ∃ s t : Int, g = .int .i64 s ∧ n = .int .i64 t ∧ Hid (gcdM s t = gcdM p.d (-p.x)) ∧ 0 < s ∧ s ≤ 9223372036854775807 ∧ 0 ≤ t ∧ t ≤ 2097152) (fun _ n _ => (intOf n).toNat)
  case atStart => exact ⟨p.d, -p.x, rfl, rfl, rfl, by omega, by omega, by omega, by omega⟩
  case round =>
    obtain ⟨s0, t0, rfl, rfl, HG0, hs0, ks0, ht0, kt0⟩ := hrel
    by_cases hz0 : 0 < t0
    · have HG' : Hid (gcdM t0 (s0 % t0) = gcdM p.d (-p.x)) := (gcdM_step (by omega) hz0).trans HG0.out
      have e1 := Int.emod_nonneg s0 (show t0 ≠ 0 by omega)
      have e2 := Int.emod_lt_of_pos s0 hz0
      go_wp2
      go_round
      case rel => exact ⟨t0, s0 % t0, rfl, rfl, HG', hz0, by omega, e1, by omega⟩
      case measure => simp [intOf]; omega
    have ez0 : t0 = 0 := by omega
    subst ez0
    have es0 : s0 = gcdM p.d (-p.x) := (gcdM_zero (by omega)).symm.trans HG0.out
    subst es0
    clear HG0
    go_wp2_with fail
    rw [rounds_succ]
    go_wp2_with fail
    go_loop [3, 6, 7] (fun g n _ => ∃ s t : Int, g = .int .i64 s ∧ n = .int .i64 t ∧ Hid (gcdM s t = gcdM (gcdM p.d (-p.x)) (p.y)) ∧ 0 < s ∧ s ≤ 9223372036854775807 ∧ 0 ≤ t ∧ t ≤ 2097152) (fun _ n _ => (intOf n).toNat)
    case atStart => exact ⟨gcdM p.d (-p.x), p.y, rfl, rfl, rfl, by omega, by omega, by omega, by omega⟩
    case round =>
      obtain ⟨s1, t1, rfl, rfl, HG1, hs1, ks1, ht1, kt1⟩ := hrel
      by_cases hz1 : 0 < t1
      · have HG' : Hid (gcdM t1 (s1 % t1) = gcdM (gcdM p.d (-p.x)) (p.y)) := (gcdM_step (by omega) hz1).trans HG1.out
        have e1 := Int.emod_nonneg s1 (show t1 ≠ 0 by omega)
        have e2 := Int.emod_lt_of_pos s1 hz1
        go_wp2
        go_round
        case rel => exact ⟨t1, s1 % t1, rfl, rfl, HG', hz1, by omega, e1, by omega⟩
        case measure => simp [intOf]; omega
      have ez1 : t1 = 0 := by omega
      subst ez1
      have es1 : s1 = gcdM (gcdM p.d (-p.x)) (p.y) := (gcdM_zero (by omega)).symm.trans HG1.out
      subst es1
      clear HG1
      go_wp2_with fail
      rw [rounds_succ]
      go_wp2_with fail
      go_region
      go_wp2
      exact bodyPost_ret (v := Pt.v ⟨p.x.tdiv (gcdM (gcdM p.d (-p.x)) (p.y)), p.y.tdiv (gcdM (gcdM p.d (-p.x)) (p.y)), p.d.tdiv (gcdM (gcdM p.d (-p.x)) (p.y))⟩) (by simp [results, Tryz.results72, go_sem]) rfl ⟨by rw [H.out], (below3 _ _ _ _).drew⟩

set_option maxHeartbeats 2000000 in
theorem rleast_pn (p : Pt) (w : World) (hp : Gd p) (hd : 0 < p.d) (hx : 0 ≤ p.x) (hy : p.y < 0) :
    Calls Tryz.prog 72 #[p.v] w fun e w' => e = .returned (leastM p).v ∧ Below w.heap.size w w' := by
  have hG : gcdM (gcdM p.d (p.x)) (-p.y) = gcdM (gcdM p.x p.y) p.d := (gcd3 p.x p.y p.d).2.1
  have g1 := gcdM_pos (t := p.x) hd
  have g2 := gcdM_pos (t := -p.y) g1
  have g3 := gcdM_le (t := p.x) hd
  have g4 := gcdM_le (t := -p.y) g1
  have H : Hid (leastM p = ⟨p.x.tdiv (gcdM (gcdM p.d (p.x)) (-p.y)), p.y.tdiv (gcdM (gcdM p.d (p.x)) (-p.y)), p.d.tdiv (gcdM (gcdM p.d (p.x)) (-p.y))⟩) := by
    rw [hG]; rw [hG] at g2; exact if_neg (by omega)
  obtain ⟨lx, ux⟩ := hp.x
  obtain ⟨ly, uy⟩ := hp.y
  obtain ⟨ld, ud⟩ := hp.d
  obtain ⟨mx, vx⟩ := tdiv_in (g := gcdM (gcdM p.d (p.x)) (-p.y)) hp.x
  obtain ⟨my, vy⟩ := tdiv_in (g := gcdM (gcdM p.d (p.x)) (-p.y)) hp.y
  obtain ⟨md, vd⟩ := tdiv_in (g := gcdM (gcdM p.d (p.x)) (-p.y)) hp.d
  clear hG hp
  go_enter Tryz.func72, Tryz.ntmps72
  go_wp2_with fail
  refine wp_loop_rounds 3 ?_
  rw [rounds_succ]
  go_wp2_with fail
  go_loop [3, 6, 7] (fun g n _ => ∃ s t : Int, g = .int .i64 s ∧ n = .int .i64 t ∧ Hid (gcdM s t = gcdM p.d (p.x)) ∧ 0 < s ∧ s ≤ 9223372036854775807 ∧ 0 ≤ t ∧ t ≤ 2097152) (fun _ n _ => (intOf n).toNat)
  case atStart => exact ⟨p.d, p.x, rfl, rfl, rfl, by omega, by omega, by omega, by omega⟩
  case round =>
    obtain ⟨s0, t0, rfl, rfl, HG0, hs0, ks0, ht0, kt0⟩ := hrel
    by_cases hz0 : 0 < t0
    · have HG' : Hid (gcdM t0 (s0 % t0) = gcdM p.d (p.x)) := (gcdM_step (by omega) hz0).trans HG0.out
      have e1 := Int.emod_nonneg s0 (show t0 ≠ 0 by omega)
      have e2 := Int.emod_lt_of_pos s0 hz0
      go_wp2
      go_round
      case rel => exact ⟨t0, s0 % t0, rfl, rfl, HG', hz0, by omega, e1, by omega⟩
      case measure => simp [intOf]; omega
    have ez0 : t0 = 0 := by omega
    subst ez0
    have es0 : s0 = gcdM p.d (p.x) := (gcdM_zero (by omega)).symm.trans HG0.out
    subst es0
    clear HG0
    go_wp2_with fail
    rw [rounds_succ]
    go_wp2_with fail
    go_loop [3, 6, 7] (fun g n _ => ∃ s t : Int, g = .int .i64 s ∧ n = .int .i64 t ∧ Hid (gcdM s t = gcdM (gcdM p.d (p.x)) (-p.y)) ∧ 0 < s ∧ s ≤ 9223372036854775807 ∧ 0 ≤ t ∧ t ≤ 2097152) (fun _ n _ => (intOf n).toNat)
    case atStart => exact ⟨gcdM p.d (p.x), -p.y, rfl, rfl, rfl, by omega, by omega, by omega, by omega⟩
    case round =>
      obtain ⟨s1, t1, rfl, rfl, HG1, hs1, ks1, ht1, kt1⟩ := hrel
      by_cases hz1 : 0 < t1
      · have HG' : Hid (gcdM t1 (s1 % t1) = gcdM (gcdM p.d (p.x)) (-p.y)) := (gcdM_step (by omega) hz1).trans HG1.out
        have e1 := Int.emod_nonneg s1 (show t1 ≠ 0 by omega)
        have e2 := Int.emod_lt_of_pos s1 hz1
        go_wp2
        go_round
        case rel => exact ⟨t1, s1 % t1, rfl, rfl, HG', hz1, by omega, e1, by omega⟩
        case measure => simp [intOf]; omega
      have ez1 : t1 = 0 := by omega
      subst ez1
      have es1 : s1 = gcdM (gcdM p.d (p.x)) (-p.y) := (gcdM_zero (by omega)).symm.trans HG1.out
      subst es1
      clear HG1
      go_wp2_with fail
      rw [rounds_succ]
      go_wp2_with fail
      go_region
      go_wp2
      exact bodyPost_ret (v := Pt.v ⟨p.x.tdiv (gcdM (gcdM p.d (p.x)) (-p.y)), p.y.tdiv (gcdM (gcdM p.d (p.x)) (-p.y)), p.d.tdiv (gcdM (gcdM p.d (p.x)) (-p.y))⟩) (by simp [results, Tryz.results72, go_sem]) rfl ⟨by rw [H.out], (below3 _ _ _ _).drew⟩

set_option maxHeartbeats 2000000 in
theorem rleast_pp (p : Pt) (w : World) (hp : Gd p) (hd : 0 < p.d) (hx : 0 ≤ p.x) (hy : 0 ≤ p.y) :
    Calls Tryz.prog 72 #[p.v] w fun e w' => e = .returned (leastM p).v ∧ Below w.heap.size w w' := by
  have hG : gcdM (gcdM p.d (p.x)) (p.y) = gcdM (gcdM p.x p.y) p.d := (gcd3 p.x p.y p.d).2.2.2
  have g1 := gcdM_pos (t := p.x) hd
  have g2 := gcdM_pos (t := p.y) g1
  have g3 := gcdM_le (t := p.x) hd
  have g4 := gcdM_le (t := p.y) g1
  have H : Hid (leastM p = ⟨p.x.tdiv (gcdM (gcdM p.d (p.x)) (p.y)), p.y.tdiv (gcdM (gcdM p.d (p.x)) (p.y)), p.d.tdiv (gcdM (gcdM p.d (p.x)) (p.y))⟩) := by
    rw [hG]; rw [hG] at g2; exact if_neg (by omega)
  obtain ⟨lx, ux⟩ := hp.x
  obtain ⟨ly, uy⟩ := hp.y
  obtain ⟨ld, ud⟩ := hp.d
  obtain ⟨mx, vx⟩ := tdiv_in (g := gcdM (gcdM p.d (p.x)) (p.y)) hp.x
  obtain ⟨my, vy⟩ := tdiv_in (g := gcdM (gcdM p.d (p.x)) (p.y)) hp.y
  obtain ⟨md, vd⟩ := tdiv_in (g := gcdM (gcdM p.d (p.x)) (p.y)) hp.d
  clear hG hp
  go_enter Tryz.func72, Tryz.ntmps72
  go_wp2_with fail
  refine wp_loop_rounds 3 ?_
  rw [rounds_succ]
  go_wp2_with fail
  go_loop [3, 6, 7] (fun g n _ => ∃ s t : Int, g = .int .i64 s ∧ n = .int .i64 t ∧ Hid (gcdM s t = gcdM p.d (p.x)) ∧ 0 < s ∧ s ≤ 9223372036854775807 ∧ 0 ≤ t ∧ t ≤ 2097152) (fun _ n _ => (intOf n).toNat)
  case atStart => exact ⟨p.d, p.x, rfl, rfl, rfl, by omega, by omega, by omega, by omega⟩
  case round =>
    obtain ⟨s0, t0, rfl, rfl, HG0, hs0, ks0, ht0, kt0⟩ := hrel
    by_cases hz0 : 0 < t0
    · have HG' : Hid (gcdM t0 (s0 % t0) = gcdM p.d (p.x)) := (gcdM_step (by omega) hz0).trans HG0.out
      have e1 := Int.emod_nonneg s0 (show t0 ≠ 0 by omega)
      have e2 := Int.emod_lt_of_pos s0 hz0
      go_wp2
      go_round
      case rel => exact ⟨t0, s0 % t0, rfl, rfl, HG', hz0, by omega, e1, by omega⟩
      case measure => simp [intOf]; omega
    have ez0 : t0 = 0 := by omega
    subst ez0
    have es0 : s0 = gcdM p.d (p.x) := (gcdM_zero (by omega)).symm.trans HG0.out
    subst es0
    clear HG0
    go_wp2_with fail
    rw [rounds_succ]
    go_wp2_with fail
    go_loop [3, 6, 7] (fun g n _ => ∃ s t : Int, g = .int .i64 s ∧ n = .int .i64 t ∧ Hid (gcdM s t = gcdM (gcdM p.d (p.x)) (p.y)) ∧ 0 < s ∧ s ≤ 9223372036854775807 ∧ 0 ≤ t ∧ t ≤ 2097152) (fun _ n _ => (intOf n).toNat)
    case atStart => exact ⟨gcdM p.d (p.x), p.y, rfl, rfl, rfl, by omega, by omega, by omega, by omega⟩
    case round =>
      obtain ⟨s1, t1, rfl, rfl, HG1, hs1, ks1, ht1, kt1⟩ := hrel
      by_cases hz1 : 0 < t1
      · have HG' : Hid (gcdM t1 (s1 % t1) = gcdM (gcdM p.d (p.x)) (p.y)) := (gcdM_step (by omega) hz1).trans HG1.out
        have e1 := Int.emod_nonneg s1 (show t1 ≠ 0 by omega)
        have e2 := Int.emod_lt_of_pos s1 hz1
        go_wp2
        go_round
        case rel => exact ⟨t1, s1 % t1, rfl, rfl, HG', hz1, by omega, e1, by omega⟩
        case measure => simp [intOf]; omega
      have ez1 : t1 = 0 := by omega
      subst ez1
      have es1 : s1 = gcdM (gcdM p.d (p.x)) (p.y) := (gcdM_zero (by omega)).symm.trans HG1.out
      subst es1
      clear HG1
      go_wp2_with fail
      rw [rounds_succ]
      go_wp2_with fail
      go_region
      go_wp2
      exact bodyPost_ret (v := Pt.v ⟨p.x.tdiv (gcdM (gcdM p.d (p.x)) (p.y)), p.y.tdiv (gcdM (gcdM p.d (p.x)) (p.y)), p.d.tdiv (gcdM (gcdM p.d (p.x)) (p.y))⟩) (by simp [results, Tryz.results72, go_sem]) rfl ⟨by rw [H.out], (below3 _ _ _ _).drew⟩

theorem rleast_any (p : Pt) (w : World) (hp : Gd p) (hd : 0 < p.d) :
    Calls Tryz.prog 72 #[p.v] w fun e w' => e = .returned (leastM p).v ∧ Below w.heap.size w w' := by
  by_cases hx : p.x < 0
  · by_cases hy : p.y < 0
    · exact rleast_nn p w hp hd hx hy
    · exact rleast_np p w hp hd hx (by omega)
  · by_cases hy : p.y < 0
    · exact rleast_pn p w hp hd (by omega) hy
    · exact rleast_pp p w hp hd (by omega) (by omega)

end Go.Proofs.YtnkcbephceollaaGreat
