import Derived.Test.YtnkcbephceollaaW1
import Derived.Test.YtnkcbephceollaaE1
namespace Go.Proofs.Ytnkcbephceollaa
open Go.RowKit
set_option linter.unusedSimpArgs false
set_option linter.unusedVariables false

def pickM (c n : Int) : Int := (if c < 0 then -(c + 1) else c) % n
theorem pickM_bd (c n : Int) (hn : 0 < n) : 0 ≤ pickM c n ∧ pickM c n < n := ⟨Int.emod_nonneg _ (by omega), Int.emod_lt_of_pos _ hn⟩
theorem pick_neg {c n : Int} (h : c < 0) : -(c + 1).tmod n = pickM c n := by
  unfold pickM; rw [if_pos h, ← Int.neg_tmod]; exact Int.tmod_eq_emod_of_nonneg (by omega)
theorem pick_pos {c n : Int} (h : ¬ c < 0) : c.tmod n = pickM c n := by
  unfold pickM; rw [if_neg h]; exact Int.tmod_eq_emod_of_nonneg (by omega)

set_option maxHeartbeats 400000 in
theorem pick_any (c n : Int) (w : World) (h1 : -9223372036854775808 ≤ c) (h2 : c ≤ 9223372036854775807) (hn : 0 < n) (hn2 : n ≤ 100000000) :
    Calls Try.prog 16 #[.int .i64 c, .int .i64 n] w fun e w' => e = .returned (.int .i64 (pickM c n)) ∧ w' = w := by
  by_cases hc : c < 0
  · go_enter Try.func16, Try.ntmps16
    go_wp2
    go_ret
    exact ⟨ret_int (pick_neg hc), rfl⟩
  · go_enter Try.func16, Try.ntmps16
    go_wp2
    go_ret
    exact ⟨ret_int (by unfold pickM; rw [if_neg (by omega)]), rfl⟩

def coordM (c : Int) : Int := pickM c 129 - 64
theorem coordM_in (c : Int) : In (coordM c) 64 := by have := pickM_bd c 129 (by decide); unfold In coordM; omega

set_option maxHeartbeats 400000 in
theorem coordinate_any (c : Int) (w : World) (h1 : -9223372036854775808 ≤ c) (h2 : c ≤ 9223372036854775807) :
    Calls Try.prog 39 #[.int .i64 c] w fun e w' => e = .returned (.int .i64 (coordM c)) ∧ w' = w := by
  have hb := pickM_bd c 129 (by decide)
  obtain ⟨hb1, hb2⟩ := hb
  go_enter Try.func39, Try.ntmps39
  go_wp2_with (go_at_call 16; refine (pick_any _ _ _ h1 h2 (by decide) (by decide)).mono ?_; rintro e w' ⟨rfl, rfl⟩)
  go_ret
  exact ⟨rfl, rfl⟩

set_option maxHeartbeats 400000 in
theorem at_any (x y : Int) (w : World) :
    Calls Try.prog 25 #[.int .i64 x, .int .i64 y] w fun e w' => e = .returned (Pt.v ⟨x, y, 1⟩) ∧ Below w.heap.size w w' := by
  go_enter Try.func25, Try.ntmps25
  go_wp2
  exact bodyPost_ret (v := Pt.v ⟨x, y, 1⟩) (by simp [results, Try.results25, go_sem]) rfl ⟨rfl, (Below.refl _ _).alloc (Nat.le_refl _) _⟩
end Go.Proofs.Ytnkcbephceollaa
namespace Go.Proofs.Ytnkcbephceollaa
open Go.RowKit
set_option linter.unusedSimpArgs false
set_option linter.unusedVariables false

set_option maxHeartbeats 1000000 in
theorem one_any (v : Value) (r : List Pt) (w : World) (hr : RingAt w v r) :
    Calls Try.prog 19 #[v] w fun e w' => ∃ v', e = .returned v' ∧ PolyAt w' v' [r] ∧ Below w.heap.size w w' := by
  have hr0 := hr
  obtain ⟨a, cap, rfl, h1, h2, h3⟩ := hr
  go_enter Try.func19, Try.ntmps19
  go_wp2
  refine bodyPost_ret (v := .slice (some ⟨w.heap.size, 0, none⟩) 1 1) (by simp [results, Try.results19, go_sem]) rfl ⟨_, rfl, ?_, (Below.refl _ _).alloc (Nat.le_refl _) _⟩
  refine ⟨some ⟨w.heap.size, 0, none⟩, 1, rfl, Nat.le_refl _, by decide, fun i hi => ?_⟩
  obtain rfl : i = 0 := by simp at hi; omega
  exact ⟨_, 0, _, rfl, by simp, (World.cell?_alloc_at _ _ _ _ rfl).trans rfl, hr0.later ((Below.refl _ _).alloc (Nat.le_refl _) _)⟩

set_option maxHeartbeats 1000000 in
theorem box_any (x0 y0 x1 y1 : Int) (w : World) :
    Calls Try.prog 20 #[.int .i64 x0, .int .i64 y0, .int .i64 x1, .int .i64 y1] w fun e w' => ∃ g, e = .returned (.slice (some ⟨g, 0, none⟩) 4 4) ∧ RingAt w' (.slice (some ⟨g, 0, none⟩) 4 4) (boxM x0 y0 x1 y1) ∧ Below w.heap.size w w' := by
  go_enter Try.func20, Try.ntmps20
  go_wp2_with fail
  refine (at_any x0 y0 _).mono ?_
  rintro e w1 ⟨rfl, k1⟩
  go_wp2_with fail
  refine (at_any x1 y0 _).mono ?_
  rintro e w2 ⟨rfl, k2⟩
  have B2 := bvia k1 k2
  clear k1 k2
  go_wp2_with fail
  refine (at_any x1 y1 _).mono ?_
  rintro e w3 ⟨rfl, k3⟩
  have B3 := bvia B2 k3
  clear B2 k3
  go_wp2_with fail
  refine (at_any x0 y1 _).mono ?_
  rintro e w4 ⟨rfl, k4⟩
  have B4 := bvia B3 k4
  clear B3 k4
  go_wp2
  refine bodyPost_ret (v := .slice (some ⟨w4.heap.size, 0, none⟩) 4 4) (by simp [results, Try.results20, go_sem]) rfl ⟨_, rfl, ?_, B4.alloc B4.size _⟩
  refine ⟨some ⟨w4.heap.size, 0, none⟩, 4, rfl, Nat.le_refl _, by decide, fun j hj => ⟨_, 0, rfl, by simp, ?_⟩⟩
  have h4 : j < 4 := hj
  have hc := fun o => World.cell?_alloc_at (w := w4) #[.int .i64 x0, .int .i64 y0, .int .i64 1, .int .i64 x1, .int .i64 y0, .int .i64 1, .int .i64 x1, .int .i64 y1, .int .i64 1, .int .i64 x0, .int .i64 y1, .int .i64 1] 25 _ o rfl
  match j, h4 with
  | 0, _ => exact ⟨hc 0, hc 1, hc 2⟩
  | 1, _ => exact ⟨hc 3, hc 4, hc 5⟩
  | 2, _ => exact ⟨hc 6, hc 7, hc 8⟩
  | 3, _ => exact ⟨hc 9, hc 10, hc 11⟩
theorem poly2 {w : World} {v1 v2 : Value} {r1 r2 : List Pt} (h1 : RingAt w v1 r1) (h2 : RingAt w v2 r2) (t : TypeId) : PolyAt (w.alloc (.cells #[v1, v2] t)) (.slice (some ⟨w.heap.size, 0, none⟩) 2 2) [r1, r2] := by
  refine ⟨some ⟨w.heap.size, 0, none⟩, 2, rfl, Nat.le_refl _, by decide, fun i hi => ?_⟩
  have hi2 : i < 2 := hi
  have B : Below w.heap.size w (w.alloc (.cells #[v1, v2] t)) := (Below.refl _ _).alloc (Nat.le_refl _) _
  match i, hi2 with
  | 0, _ => exact ⟨_, 0, _, rfl, by simp, (World.cell?_alloc_at _ _ _ _ rfl).trans rfl, h1.later B⟩
  | 1, _ => exact ⟨_, 0, _, rfl, by simp, (World.cell?_alloc_at _ _ _ _ rfl).trans rfl, h2.later B⟩
end Go.Proofs.Ytnkcbephceollaa
namespace Go.Proofs.Ytnkcbephceollaa
open Go.RowKit
set_option linter.unusedSimpArgs false
set_option linter.unusedVariables false

set_option maxHeartbeats 1000000 in
theorem between_any (v n lo hi : Int) (w : World) (h1 : In (lo * n) 100000000) (h2 : In (hi * n) 100000000) :
    Calls Try.prog 17 #[.int .i64 v, .int .i64 n, .int .i64 lo, .int .i64 hi] w fun e w' => e = .returned (.int .i64 (btwM v n lo hi)) ∧ w' = w := by
  have b := hide (bet_cases v n lo hi)
  obtain ⟨l1, u1⟩ := h1
  obtain ⟨l2, u2⟩ := h2
  have H := hide (show btwM v n lo hi = if v < lo * n ∨ hi * n < v then 0 else if lo * n < v ∧ v < hi * n then 1 else 2 from rfl)
  by_cases c1 : v < lo * n
  · have HE : Hid (btwM v n lo hi = 0) := H.out.trans (if_pos (.inl c1))
    go_enter Try.func17, Try.ntmps17
    go_wp2
    go_ret
    exact ⟨ret_int HE.out.symm, rfl⟩
  by_cases c2 : hi * n < v
  · have HE : Hid (btwM v n lo hi = 0) := H.out.trans (if_pos (.inr c2))
    go_enter Try.func17, Try.ntmps17
    go_wp2
    go_ret
    exact ⟨ret_int HE.out.symm, rfl⟩
  have H2 := hide (H.out.trans (if_neg (fun k => k.elim c1 c2)))
  by_cases c3 : lo * n < v
  · by_cases c4 : v < hi * n
    · have HE : Hid (btwM v n lo hi = 1) := H2.out.trans (if_pos ⟨c3, c4⟩)
      go_enter Try.func17, Try.ntmps17
      go_wp2
      go_ret
      exact ⟨ret_int HE.out.symm, rfl⟩
    · have HE : Hid (btwM v n lo hi = 2) := H2.out.trans (if_neg (fun k => c4 k.2))
      go_enter Try.func17, Try.ntmps17
      go_wp2
      go_ret
      exact ⟨ret_int HE.out.symm, rfl⟩
  · have HE : Hid (btwM v n lo hi = 2) := H2.out.trans (if_neg (fun k => c3 k.1))
    go_enter Try.func17, Try.ntmps17
    go_wp2
    go_ret
    exact ⟨ret_int HE.out.symm, rfl⟩
end Go.Proofs.Ytnkcbephceollaa
