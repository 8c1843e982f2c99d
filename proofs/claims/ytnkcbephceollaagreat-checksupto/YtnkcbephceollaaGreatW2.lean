import Derived.Test.YtnkcbephceollaaGreatW1
import Derived.RegionTactic
import Derived.BigRegion
import Derived.Deep.QuietTactic
import Derived.BigQuiet
namespace Go.Proofs.YtnkcbephceollaaGreat
open Go.RowKit
set_option linter.unusedSimpArgs false
set_option linter.unusedVariables false

/-- Three cells of a new block are written. -/
theorem below_set3 {w w1 : World} {b o : Nat} {x y z : Value} (h : Below w.heap.size w w1) (hb : w.heap.size ≤ b) :
    Below w.heap.size w (((w1.setCell ⟨b, o, none⟩ x).setCell ⟨b, o + 1, none⟩ y).setCell ⟨b, o + 2, none⟩ z) :=
  ((h.setCell hb _).setCell hb _).setCell hb _
theorem below3 (w : World) (x y z : Obj) : Below w.heap.size w (((w.alloc x).alloc y).alloc z) :=
  (((Below.refl _ _).alloc (Nat.le_refl _) _).alloc (by simp) _).alloc (by simp; omega) _

set_option maxHeartbeats 400000 in
theorem First_any (p q : Pt) (w : World) (hp : Gd p) (hq : Gd q) :
    Calls Tryz.prog 129 #[p.v, q.v] w fun e w' => e = .returned (firstM p q).v ∧ Below w.heap.size w w' := by
  by_cases h : cmpM q p < 0
  · have H : Hid (firstM p q = q) := if_pos h
    go_enter Tryz.func129, Tryz.ntmps129
    go_wp2_with fail
    refine (Compare_any q p _ hq hp).mono ?_
    rintro e w1 ⟨rfl, hb⟩
    have hz : w.heap.size + 2 < w1.heap.size := by have := hb.size; simp at this; omega
    obtain ⟨hc, hf⟩ := bcell hb
    go_wp2
    exact bodyPost_ret (v := q.v) (by simp [results, Tryz.results129, go_sem, hc, hz]) rfl ⟨by rw [H.out], below_set3 (o := 0) (bvia (below3 _ _ _ _) hb) (by omega)⟩
  · have H : Hid (firstM p q = p) := if_neg h
    go_enter Tryz.func129, Tryz.ntmps129
    go_wp2_with fail
    refine (Compare_any q p _ hq hp).mono ?_
    rintro e w1 ⟨rfl, hb⟩
    have hz : w.heap.size + 2 < w1.heap.size := by have := hb.size; simp at this; omega
    obtain ⟨hc, hf⟩ := bcell hb
    go_wp2
    exact bodyPost_ret (v := p.v) (by simp [results, Tryz.results129, go_sem, hc, hz]) rfl ⟨by rw [H.out], below_set3 (o := 0) (bvia (below3 _ _ _ _) hb) (by omega)⟩

set_option maxHeartbeats 400000 in
theorem Last_any (p q : Pt) (w : World) (hp : Gd p) (hq : Gd q) :
    Calls Tryz.prog 128 #[p.v, q.v] w fun e w' => e = .returned (lastM p q).v ∧ Below w.heap.size w w' := by
  by_cases h : 0 < cmpM q p
  · have H : Hid (lastM p q = q) := if_pos h
    go_enter Tryz.func128, Tryz.ntmps128
    go_wp2_with fail
    refine (Compare_any q p _ hq hp).mono ?_
    rintro e w1 ⟨rfl, hb⟩
    have hz : w.heap.size + 2 < w1.heap.size := by have := hb.size; simp at this; omega
    obtain ⟨hc, hf⟩ := bcell hb
    go_wp2
    exact bodyPost_ret (v := q.v) (by simp [results, Tryz.results128, go_sem, hc, hz]) rfl ⟨by rw [H.out], below_set3 (o := 0) (bvia (below3 _ _ _ _) hb) (by omega)⟩
  · have H : Hid (lastM p q = p) := if_neg h
    go_enter Tryz.func128, Tryz.ntmps128
    go_wp2_with fail
    refine (Compare_any q p _ hq hp).mono ?_
    rintro e w1 ⟨rfl, hb⟩
    have hz : w.heap.size + 2 < w1.heap.size := by have := hb.size; simp at this; omega
    obtain ⟨hc, hf⟩ := bcell hb
    go_wp2
    exact bodyPost_ret (v := p.v) (by simp [results, Tryz.results128, go_sem, hc, hz]) rfl ⟨by rw [H.out], below_set3 (o := 0) (bvia (below3 _ _ _ _) hb) (by omega)⟩

theorem tmod_lt_abs (a b : Int) (h : b ≠ 0) : (a.tmod b).natAbs < b.natAbs := by
  rw [Int.natAbs_tmod]; exact Nat.mod_lt _ (by omega)
theorem gcd_step (a b : Int) : Int.gcd b (a.tmod b) = Int.gcd a b := by
  unfold Int.gcd; rw [Int.natAbs_tmod, Nat.gcd_comm a.natAbs, Nat.gcd_rec b.natAbs a.natAbs, Nat.gcd_comm]
theorem gcd_end_pos {s g : Int} (h : gcdM s 0 = g) (h0 : 0 ≤ s) : s = g := by rw [← h]; unfold gcdM; simp; omega
theorem gcd_end_neg {s g : Int} (h : gcdM s 0 = g) (h0 : s < 0) : -s = g := by rw [← h]; unfold gcdM; simp; omega
theorem tmod_in {s t A : Int} (h : In t A) (h0 : t ≠ 0) : In (s.tmod t) A := by have := tmod_lt_abs s t h0; unfold In at *; omega

set_option maxHeartbeats 400000 in
theorem divisor_any (a b : Int) (w : World) (ha : In a 9223372036854775807) (hb : In b 9223372036854775807) :
    Calls Tryz.prog 130 #[.int .i64 a, .int .i64 b] w fun e w' => e = .returned (.int .i64 (gcdM a b)) ∧ Below w.heap.size w w' := by
  obtain ⟨la, ua⟩ := ha
  obtain ⟨lb, ub⟩ := hb
  go_enter Tryz.func130, Tryz.ntmps130
  go_wp2
  go_loopw [0, 1] (fun x y w' => ∃ s t : Int, x = .int .i64 s ∧ y = .int .i64 t ∧ Hid (gcdM s t = gcdM a b) ∧ -9223372036854775807 ≤ s ∧ s ≤ 9223372036854775807 ∧ -9223372036854775807 ≤ t ∧ t ≤ 9223372036854775807 ∧ Below w.heap.size w w') (fun _ y _ => (intOf y).natAbs)
  case atStart => exact ⟨a, b, rfl, rfl, rfl, la, ua, lb, ub, Below.refl _ _⟩
  case round =>
    obtain ⟨s, t, rfl, rfl, H, ls, us, lt, ut, hbel⟩ := hrel
    by_cases h : t = 0
    · subst h
      go_wp2
      · go_ret
        exact ⟨ret_int (gcd_end_neg H.out (by assumption)), hbel⟩
      · go_ret
        exact ⟨ret_int (gcd_end_pos H.out (by assumption)), hbel⟩
    · have h' : (t != 0) = true := by simpa using h
      have H2 : Hid (gcdM t (s.tmod t) = gcdM a b) := by
        have e : gcdM t (s.tmod t) = gcdM s t := by unfold gcdM; rw [gcd_step]
        exact e.trans H.out
      have hlt := tmod_lt_abs s t h
      obtain ⟨l2, u2⟩ := tmod_in (s := s) (In.mk lt ut) h
      clear H
      go_wp2
      go_quiet (fail)
      go_wp2
      go_roundw
      case rel => exact ⟨t, s.tmod t, rfl, rfl, H2, lt, ut, l2, u2, below_drewN hbel _⟩
      case measure => exact hlt
theorem tdiv_in {a g A : Int} (h : In a A) : In (a.tdiv g) A := by
  have h1 : (a.tdiv g).natAbs ≤ a.natAbs := by rw [Int.natAbs_tdiv]; exact Nat.div_le_self _ _
  unfold In at *; omega
theorem gcdM_nonneg (a b : Int) : 0 ≤ gcdM a b := by unfold gcdM; omega
theorem gcdM_in {a b A : Int} (h : In a A) (g : In b A) : In (gcdM a b) A := by
  have h0 := gcdM_nonneg a b
  have hA := h.nonneg
  refine ⟨by omega, ?_⟩
  unfold gcdM at *
  by_cases ha : a = 0
  · subst ha; simp; unfold In at *; omega
  · have := Int.gcd_le_natAbs_left (a := a) (b := b) ha; unfold In at *; omega
set_option maxHeartbeats 400000 in
theorem Least_any (p : Pt) (w : World) (hp : Gd p) :
    Calls Tryz.prog 106 #[p.v] w fun e w' => e = .returned (leastM p).v ∧ Below w.heap.size w w' := by
  have h0 := gcdM_nonneg (gcdM p.x p.y) p.d
  by_cases h : gcdM (gcdM p.x p.y) p.d = 0
  · have H : Hid (leastM p = p) := if_pos h
    have h' : (gcdM (gcdM p.x p.y) p.d == 0) = true := by simpa using h
    clear h
    go_enter Tryz.func106, Tryz.ntmps106
    go_wp2_with fail
    refine (divisor_any _ _ _ (hp.x.mono (by decide)) (hp.y.mono (by decide))).mono ?_
    rintro e w1 ⟨rfl, hb1⟩
    have hz1 : w.heap.size + 1 < w1.heap.size := by have := hb1.size; simp at this; omega
    have hy1 : w.heap.size < w1.heap.size := by omega
    obtain ⟨hc1, hf1⟩ := bcell hb1
    go_wp2_with fail
    refine (divisor_any _ _ _ ((gcdM_in (hp.x.mono (by decide)) (hp.y.mono (by decide)))) (hp.d.mono (by decide))).mono ?_
    rintro e w2 ⟨rfl, hb2⟩
    have hz2 : w.heap.size + 1 < w2.heap.size := Nat.lt_of_lt_of_le hz1 hb2.size
    obtain ⟨hc2, hf2⟩ := bcell hb2
    go_wp2
    exact bodyPost_ret (v := p.v) (by simp [results, Tryz.results106, go_sem, hc1, hz1, hc2, hz2, hy1]) rfl ⟨by rw [H.out], below_set3 (o := 0) (bvia (bvia (((Below.refl _ _).alloc (Nat.le_refl _) _).alloc (by simp) _) hb1) hb2) (by omega)⟩
  · have H : Hid (leastM p = ⟨p.x.tdiv (gcdM (gcdM p.x p.y) p.d), p.y.tdiv (gcdM (gcdM p.x p.y) p.d), p.d.tdiv (gcdM (gcdM p.x p.y) p.d)⟩) := if_neg h
    have h' : (gcdM (gcdM p.x p.y) p.d == 0) = false := by simpa using h
    have hpos : 0 < gcdM (gcdM p.x p.y) p.d := by omega
    obtain ⟨lx, ux⟩ := tdiv_in (g := gcdM (gcdM p.x p.y) p.d) hp.x
    obtain ⟨ly, uy⟩ := tdiv_in (g := gcdM (gcdM p.x p.y) p.d) hp.y
    obtain ⟨ld, ud⟩ := tdiv_in (g := gcdM (gcdM p.x p.y) p.d) hp.d
    clear h
    go_enter Tryz.func106, Tryz.ntmps106
    go_wp2_with fail
    refine (divisor_any _ _ _ (hp.x.mono (by decide)) (hp.y.mono (by decide))).mono ?_
    rintro e w1 ⟨rfl, hb1⟩
    have hz1 : w.heap.size + 1 < w1.heap.size := by have := hb1.size; simp at this; omega
    have hy1 : w.heap.size < w1.heap.size := by omega
    obtain ⟨hc1, hf1⟩ := bcell hb1
    go_wp2_with fail
    refine (divisor_any _ _ _ ((gcdM_in (hp.x.mono (by decide)) (hp.y.mono (by decide)))) (hp.d.mono (by decide))).mono ?_
    rintro e w2 ⟨rfl, hb2⟩
    have hz2 : w.heap.size + 1 < w2.heap.size := Nat.lt_of_lt_of_le hz1 hb2.size
    obtain ⟨hc2, hf2⟩ := bcell hb2
    go_wp2
    go_region
    go_wp2
    exact bodyPost_ret (v := Pt.v ⟨p.x.tdiv (gcdM (gcdM p.x p.y) p.d), p.y.tdiv (gcdM (gcdM p.x p.y) p.d), p.d.tdiv (gcdM (gcdM p.x p.y) p.d)⟩) (by simp [results, Tryz.results106, go_sem, hc1, hz1, hc2, hz2, hy1]) rfl ⟨by rw [H.out], (below_set3 (o := 0) (bvia (bvia (((Below.refl _ _).alloc (Nat.le_refl _) _).alloc (by simp) _) hb1) hb2) (by omega)).drew⟩

theorem below_set6 {w w1 : World} {b : Nat} {x0 x1 x2 x3 x4 x5 : Value} (h : Below w.heap.size w w1) (hb : w.heap.size ≤ b) :
    Below w.heap.size w ((((((w1.setCell ⟨b, 0, none⟩ x0).setCell ⟨b, 1, none⟩ x1).setCell ⟨b, 2, none⟩ x2).setCell ⟨b, 3, none⟩ x3).setCell ⟨b, 4, none⟩ x4).setCell ⟨b, 5, none⟩ x5) :=
  (((((h.setCell hb _).setCell hb _).setCell hb _).setCell hb _).setCell hb _).setCell hb _
end Go.Proofs.YtnkcbephceollaaGreat
