import Derived.Test.YtkmapffhfmgfeaaQ7
import Derived.Test.YtkmapffhfmgfeaaQ42
import Derived.Deep.QuietTactic
import Derived.BigQuiet
namespace Go.Proofs.Ytkmapffhfmgfeaa
open Go.RowKit
set_option linter.unusedSimpArgs false
set_option linter.unusedVariables false

def pickM (c n : Int) : Int := (if c < 0 then -(c + 1) else c) % n
theorem pickM_bd (c n : Int) (hn : 0 < n) : 0 ≤ pickM c n ∧ pickM c n < n := ⟨Int.emod_nonneg _ (by omega), Int.emod_lt_of_pos _ hn⟩
theorem pick_neg {c n : Int} (h : c < 0) : -(c + 1).tmod n = pickM c n := by
  unfold pickM; rw [if_pos h, ← Int.neg_tmod]; exact Int.tmod_eq_emod_of_nonneg (by omega)
theorem pick_pos {c n : Int} (h : ¬ c < 0) : c.tmod n = pickM c n := by
  unfold pickM; rw [if_neg h]; exact Int.tmod_eq_emod_of_nonneg (by omega)

set_option maxHeartbeats 400000 in
theorem pick_any (c n : Int) (w : World) (h1 : -9223372036854775808 ≤ c) (h2 : c ≤ 9223372036854775807) (hn : 0 < n) (hn2 : n ≤ 100000000) :
    Calls Try.prog 16 #[.int .i64 c, .int .i64 n] w fun e w' => e = .returned (.int .i64 (pickM c n)) ∧ w' = w := by
  by_cases hc : c < 0
  · go_enter Try.func16, Try.ntmps16
    go_wp2
    go_ret
    exact ⟨ret_int (pick_neg hc), rfl⟩
  · go_enter Try.func16, Try.ntmps16
    go_wp2
    go_ret
    exact ⟨ret_int (by unfold pickM; rw [if_neg (by omega)]), rfl⟩

def coordM (c : Int) : Int := pickM c 129 - 64
theorem coordM_in (c : Int) : In (coordM c) 64 := by have := pickM_bd c 129 (by decide); unfold In coordM; omega

set_option maxHeartbeats 400000 in
theorem coordinate_any (c : Int) (w : World) (h1 : -9223372036854775808 ≤ c) (h2 : c ≤ 9223372036854775807) :
    Calls Try.prog 39 #[.int .i64 c] w fun e w' => e = .returned (.int .i64 (coordM c)) ∧ w' = w := by
  have hb := pickM_bd c 129 (by decide)
  obtain ⟨hb1, hb2⟩ := hb
  go_enter Try.func39, Try.ntmps39
  go_wp2_with (go_at_call 16; refine (pick_any _ _ _ h1 h2 (by decide) (by decide)).mono ?_; rintro e w' ⟨rfl, rfl⟩)
  go_ret
  exact ⟨rfl, rfl⟩

set_option maxHeartbeats 400000 in
theorem at_any (x y : Int) (w : World) :
    Calls Try.prog 25 #[.int .i64 x, .int .i64 y] w fun e w' => e = .returned (Pt.v ⟨x, y, 1⟩) ∧ Below w.heap.size w w' := by
  go_enter Try.func25, Try.ntmps25
  go_wp2
  exact bodyPost_ret (v := Pt.v ⟨x, y, 1⟩) (by simp [results, Try.results25, go_sem]) rfl ⟨rfl, (Below.refl _ _).alloc (Nat.le_refl _) _⟩

def spotM (x y : Int) : Pt := ⟨coordM x, coordM y, 1⟩
theorem spotM_gr (x y : Int) : Gr (spotM x y) := ⟨coordM_in x, coordM_in y, rfl⟩

set_option maxHeartbeats 400000 in
theorem spot_any (x y : Int) (w : World) (h1 : -9223372036854775808 ≤ x) (h2 : x ≤ 9223372036854775807) (h3 : -9223372036854775808 ≤ y) (h4 : y ≤ 9223372036854775807) :
    Calls Try.prog 10 #[.int .i64 x, .int .i64 y] w fun e w' => e = .returned (spotM x y).v ∧ Below w.heap.size w w' := by
  go_enter Try.func10, Try.ntmps10
  go_wp2_with fail
  refine (coordinate_any x _ h1 h2).mono ?_
  rintro e w' ⟨rfl, rfl⟩
  go_wp2_with fail
  refine (coordinate_any y _ h3 h4).mono ?_
  rintro e w' ⟨rfl, rfl⟩
  go_wp2_with fail
  refine (at_any _ _ _).mono ?_
  rintro e w1 ⟨rfl, hb⟩
  have hz : w.heap.size < w1.heap.size := by have := hb.size; simp at this; omega
  obtain ⟨hc, hf⟩ := bcell hb
  go_wp2
  exact bodyPost_ret (v := (spotM x y).v) (by simp [results, Try.results10, go_sem, hc, hz, spotM]) rfl ⟨rfl, (((bvia ((Below.refl _ _).alloc (Nat.le_refl _) _) hb).setCell (by simp) _).setCell (by simp) _).setCell (by simp) _⟩

set_option maxHeartbeats 400000 in
theorem det_any (a b c : Pt) (w : World) (ha : Gd a) (hb : Gd b) (hc : Gd c) :
    Calls Try.prog 43 #[a.v, b.v, c.v] w fun e w' => e = .returned (.int .i64 (detM a b c)) ∧ Below w.heap.size w w' := by
  have e : wrap64 (wrap64 (wrap64 (a.x * wrap64 (wrap64 (b.y * c.d) - wrap64 (c.y * b.d))) - wrap64 (a.y * wrap64 (wrap64 (b.x * c.d) - wrap64 (c.x * b.d)))) + wrap64 (a.d * wrap64 (wrap64 (b.x * c.y) - wrap64 (c.x * b.y)))) = detM a b c := by
    unfold detM
    rw [wrap_in (hb.y.mul hc.d) (by decide), wrap_in (hc.y.mul hb.d) (by decide), wrap_in (hb.x.mul hc.d) (by decide), wrap_in (hc.x.mul hb.d) (by decide), wrap_in (hb.x.mul hc.y) (by decide), wrap_in (hc.x.mul hb.y) (by decide),
      wrap_in ((hb.y.mul hc.d).sub (hc.y.mul hb.d)) (by decide), wrap_in ((hb.x.mul hc.d).sub (hc.x.mul hb.d)) (by decide), wrap_in ((hb.x.mul hc.y).sub (hc.x.mul hb.y)) (by decide),
      wrap_in (ha.x.mul ((hb.y.mul hc.d).sub (hc.y.mul hb.d))) (by decide), wrap_in (ha.y.mul ((hb.x.mul hc.d).sub (hc.x.mul hb.d))) (by decide), wrap_in (ha.d.mul ((hb.x.mul hc.y).sub (hc.x.mul hb.y))) (by decide),
      wrap_in ((ha.x.mul ((hb.y.mul hc.d).sub (hc.y.mul hb.d))).sub (ha.y.mul ((hb.x.mul hc.d).sub (hc.x.mul hb.d)))) (by decide),
      wrap_in (((ha.x.mul ((hb.y.mul hc.d).sub (hc.y.mul hb.d))).sub (ha.y.mul ((hb.x.mul hc.d).sub (hc.x.mul hb.d)))).add (ha.d.mul ((hb.x.mul hc.y).sub (hc.x.mul hb.y)))) (by decide)]
  have E := e
  clear e ha hb hc
  have H : Hid (wrap64 (wrap64 (wrap64 (a.x * wrap64 (wrap64 (b.y * c.d) - wrap64 (c.y * b.d))) - wrap64 (a.y * wrap64 (wrap64 (b.x * c.d) - wrap64 (c.x * b.d)))) + wrap64 (a.d * wrap64 (wrap64 (b.x * c.y) - wrap64 (c.x * b.y)))) = detM a b c) := E
  clear E
  go_enter Try.func43, Try.ntmps43
  go_wp2
  go_ret
  exact ⟨ret_int H.out, (((Below.refl _ _).alloc (Nat.le_refl _) _).alloc (by simp) _).alloc (by simp; omega) _⟩

set_option maxHeartbeats 400000 in
theorem before_any (p q : Pt) (w : World) (hp : Gd p) (hq : Gd q) :
    Calls Try.prog 13 #[p.v, q.v] w fun e w' => e = .returned (.bool (befB p q)) ∧ Below w.heap.size w w' := by
  obtain ⟨l1, u1⟩ := hp.x.mul hq.d
  obtain ⟨l2, u2⟩ := hq.x.mul hp.d
  obtain ⟨l3, u3⟩ := hp.y.mul hq.d
  obtain ⟨l4, u4⟩ := hq.y.mul hp.d
  clear hp hq
  by_cases h : (p.x * q.d != q.x * p.d) = true
  · go_enter Try.func13, Try.ntmps13
    go_wp2
    go_ret
    exact ⟨ret_bool (by unfold befB; rw [if_pos (by simpa using h)]), ((Below.refl _ _).alloc (Nat.le_refl _) _).alloc (by simp) _⟩
  · have h' : (p.x * q.d != q.x * p.d) = false := by simpa using h
    clear h
    go_enter Try.func13, Try.ntmps13
    go_wp2
    go_ret
    exact ⟨ret_bool (by unfold befB; rw [if_neg (by simpa using h')]), ((Below.refl _ _).alloc (Nat.le_refl _) _).alloc (by simp) _⟩

end Go.Proofs.Ytkmapffhfmgfeaa
namespace Go.Proofs.Ytkmapffhfmgfeaa
open Go.RowKit
set_option linter.unusedSimpArgs false
set_option linter.unusedVariables false

set_option maxHeartbeats 1000000 in
theorem between_any (v n lo hi : Int) (w : World) (h1 : In (lo * n) 100000000) (h2 : In (hi * n) 100000000) :
    Calls Try.prog 17 #[.int .i64 v, .int .i64 n, .int .i64 lo, .int .i64 hi] w fun e w' => e = .returned (.int .i64 (betM v n lo hi)) ∧ w' = w := by
  have b := hide (bet_cases v n lo hi)
  obtain ⟨l1, u1⟩ := h1
  obtain ⟨l2, u2⟩ := h2
  have H := hide (show betM v n lo hi = if v < lo * n ∨ hi * n < v then 0 else if lo * n < v ∧ v < hi * n then 1 else 2 from rfl)
  by_cases c1 : v < lo * n
  · have HE : Hid (betM v n lo hi = 0) := H.out.trans (if_pos (.inl c1))
    go_enter Try.func17, Try.ntmps17
    go_wp2
    go_ret
    exact ⟨ret_int HE.out.symm, rfl⟩
  by_cases c2 : hi * n < v
  · have HE : Hid (betM v n lo hi = 0) := H.out.trans (if_pos (.inr c2))
    go_enter Try.func17, Try.ntmps17
    go_wp2
    go_ret
    exact ⟨ret_int HE.out.symm, rfl⟩
  have H2 := hide (H.out.trans (if_neg (fun k => k.elim c1 c2)))
  by_cases c3 : lo * n < v
  · by_cases c4 : v < hi * n
    · have HE : Hid (betM v n lo hi = 1) := H2.out.trans (if_pos ⟨c3, c4⟩)
      go_enter Try.func17, Try.ntmps17
      go_wp2
      go_ret
      exact ⟨ret_int HE.out.symm, rfl⟩
    · have HE : Hid (betM v n lo hi = 2) := H2.out.trans (if_neg (fun k => c4 k.2))
      go_enter Try.func17, Try.ntmps17
      go_wp2
      go_ret
      exact ⟨ret_int HE.out.symm, rfl⟩
  · have HE : Hid (betM v n lo hi = 2) := H2.out.trans (if_neg (fun k => c3 k.1))
    go_enter Try.func17, Try.ntmps17
    go_wp2
    go_ret
    exact ⟨ret_int HE.out.symm, rfl⟩

set_option maxHeartbeats 1000000 in
theorem one_any (v : Value) (r : List Pt) (w : World) (hr : RingAt w v r) :
    Calls Try.prog 19 #[v] w fun e w' => ∃ v', e = .returned v' ∧ PolyAt w' v' [r] ∧ Below w.heap.size w w' := by
  have hr0 := hr
  obtain ⟨a, cap, rfl, h1, h2, h3⟩ := hr
  go_enter Try.func19, Try.ntmps19
  go_wp2
  refine bodyPost_ret (v := .slice (some ⟨w.heap.size, 0, none⟩) 1 1) (by simp [results, Try.results19, go_sem]) rfl ⟨_, rfl, ?_, (Below.refl _ _).alloc (Nat.le_refl _) _⟩
  refine ⟨some ⟨w.heap.size, 0, none⟩, 1, rfl, Nat.le_refl _, by decide, fun i hi => ?_⟩
  obtain rfl : i = 0 := by simp at hi; omega
  exact ⟨_, 0, _, rfl, by simp, (World.cell?_alloc_at _ _ _ _ rfl).trans rfl, hr0.later ((Below.refl _ _).alloc (Nat.le_refl _) _)⟩

set_option maxHeartbeats 1000000 in
theorem box_any (x0 y0 x1 y1 : Int) (w : World) :
    Calls Try.prog 20 #[.int .i64 x0, .int .i64 y0, .int .i64 x1, .int .i64 y1] w fun e w' => ∃ g, e = .returned (.slice (some ⟨g, 0, none⟩) 4 4) ∧ RingAt w' (.slice (some ⟨g, 0, none⟩) 4 4) (boxM x0 y0 x1 y1) ∧ Below w.heap.size w w' := by
  go_enter Try.func20, Try.ntmps20
  go_wp2_with fail
  refine (at_any x0 y0 _).mono ?_
  rintro e w1 ⟨rfl, k1⟩
  go_wp2_with fail
  refine (at_any x1 y0 _).mono ?_
  rintro e w2 ⟨rfl, k2⟩
  have B2 := bvia k1 k2
  clear k1 k2
  go_wp2_with fail
  refine (at_any x1 y1 _).mono ?_
  rintro e w3 ⟨rfl, k3⟩
  have B3 := bvia B2 k3
  clear B2 k3
  go_wp2_with fail
  refine (at_any x0 y1 _).mono ?_
  rintro e w4 ⟨rfl, k4⟩
  have B4 := bvia B3 k4
  clear B3 k4
  go_wp2
  refine bodyPost_ret (v := .slice (some ⟨w4.heap.size, 0, none⟩) 4 4) (by simp [results, Try.results20, go_sem]) rfl ⟨_, rfl, ?_, B4.alloc B4.size _⟩
  refine ⟨some ⟨w4.heap.size, 0, none⟩, 4, rfl, Nat.le_refl _, by decide, fun j hj => ⟨_, 0, rfl, by simp, ?_⟩⟩
  have h4 : j < 4 := hj
  have hc := fun o => World.cell?_alloc_at (w := w4) #[.int .i64 x0, .int .i64 y0, .int .i64 1, .int .i64 x1, .int .i64 y0, .int .i64 1, .int .i64 x1, .int .i64 y1, .int .i64 1, .int .i64 x0, .int .i64 y1, .int .i64 1] 25 _ o rfl
  match j, h4 with
  | 0, _ => exact ⟨hc 0, hc 1, hc 2⟩
  | 1, _ => exact ⟨hc 3, hc 4, hc 5⟩
  | 2, _ => exact ⟨hc 6, hc 7, hc 8⟩
  | 3, _ => exact ⟨hc 9, hc 10, hc 11⟩
theorem poly2 {w : World} {v1 v2 : Value} {r1 r2 : List Pt} (h1 : RingAt w v1 r1) (h2 : RingAt w v2 r2) (t : TypeId) : PolyAt (w.alloc (.cells #[v1, v2] t)) (.slice (some ⟨w.heap.size, 0, none⟩) 2 2) [r1, r2] := by
  refine ⟨some ⟨w.heap.size, 0, none⟩, 2, rfl, Nat.le_refl _, by decide, fun i hi => ?_⟩
  have hi2 : i < 2 := hi
  have B : Below w.heap.size w (w.alloc (.cells #[v1, v2] t)) := (Below.refl _ _).alloc (Nat.le_refl _) _
  match i, hi2 with
  | 0, _ => exact ⟨_, 0, _, rfl, by simp, (World.cell?_alloc_at _ _ _ _ rfl).trans rfl, h1.later B⟩
  | 1, _ => exact ⟨_, 0, _, rfl, by simp, (World.cell?_alloc_at _ _ _ _ rfl).trans rfl, h2.later B⟩
end Go.Proofs.Ytkmapffhfmgfeaa
namespace Go.Proofs.Ytkmapffhfmgfeaa
open Go.RowKit
set_option linter.unusedSimpArgs false
set_option linter.unusedVariables false

theorem neq_pt (x y d x' y' d' : Int) (w : World) : (binOp .neq 25 (.agg #[.int .i64 x, .int .i64 y, .int .i64 d]) (.agg #[.int .i64 x', .int .i64 y', .int .i64 d'])).run Try.prog w = .ok (.bool (!eqP ⟨x, y, d⟩ ⟨x', y', d'⟩)) w := by
  by_cases h1 : x = x'
  · by_cases h2 : y = y'
    · by_cases h3 : d = d' <;> simp [go_sem, eqP, h1, h2, h3]
    · simp [go_sem, eqP, h1, h2]
  · simp [go_sem, eqP, h1]
theorem eqP_self (p : Pt) : eqP p p = true := by simp [eqP]

set_option maxRecDepth 100000 in
set_option maxHeartbeats 1000000 in
/-- Two slices of the same points. -/
theorem samePoints_yes (v v' : Value) (r : List Pt) (w : World) (h : RingAt w v r) (h' : RingAt w v' r) :
    Calls Try.prog 50 #[v, v'] w fun e w' => e = .returned (.bool true) ∧ ∃ n, w' = w.drewN n := by
  obtain ⟨a, cap, rfl, h1, h2, h3⟩ := h
  obtain ⟨a', cap', rfl, _, _, h3'⟩ := h'
  have hneq := neq_pt
  unfold maxLen at h2
  go_enter Try.func50, Try.ntmps50
  go_wp2_with fail
  go_loopw [5] (fun i w' => ∃ (k n : Nat), i = .int .i64 k ∧ k ≤ r.length ∧ w' = w.drewN n) (fun i _ => r.length - (intOf i).toNat)
  case atStart => exact ⟨0, 0, rfl, Nat.zero_le _, rfl⟩
  case round =>
    obtain ⟨k, n, rfl, hk, rfl⟩ := hrel
    by_cases hlt : k < r.length
    · obtain ⟨b, off, rfl, _, c0, c1, c2⟩ := h3 k hlt
      obtain ⟨b', off', rfl, _, d0, d1, d2⟩ := h3' k hlt
      generalize r.getD k zP = p at *
      have hk0 : (0 : Int) ≤ (k : Int) := Int.natCast_nonneg _
      have hk1 : (k : Int) < (r.length : Int) := by omega
      have e1 : eqP ⟨p.x, p.y, p.d⟩ ⟨p.x, p.y, p.d⟩ = true := eqP_self p
      clear h3 h3'
      go_wp2_with fail
      go_quiet (fail)
      go_wp2
      go_roundw
      case rel => exact ⟨k + 1, _, by go_num, by omega, rfl⟩
      case measure => simp [intOf]; omega
    · clear h3 h3'
      go_wp2
      go_ret
      exact ⟨rfl, n, rfl⟩

theorem RingAt.drewN {w : World} {v : Value} {r : List Pt} (h : RingAt w v r) (n : Nat) : RingAt (w.drewN n) v r := h.later (below_drewN (Below.refl _ _) n)
theorem PolyAt.drewN {w : World} {v : Value} {P : List (List Pt)} (h : PolyAt w v P) (n : Nat) : PolyAt (w.drewN n) v P := h.later (below_drewN (Below.refl _ _) n)

set_option maxRecDepth 100000 in
set_option maxHeartbeats 1000000 in
/-- Two slices of slices of the same points. -/
theorem sameRings_yes (v v' : Value) (P : List (List Pt)) (w : World) (h : PolyAt w v P) (h' : PolyAt w v' P) :
    Calls Try.prog 38 #[v, v'] w fun e w' => e = .returned (.bool true) ∧ ∃ n, w' = w.drewN n := by
  obtain ⟨a, cap, rfl, h1, h2, h3⟩ := h
  obtain ⟨a', cap', rfl, _, _, h3'⟩ := h'
  unfold maxLen at h2
  go_enter Try.func38, Try.ntmps38
  go_wp2_with fail
  go_loopw [5, 6] (fun i _ w' => ∃ (k n : Nat), i = .int .i64 k ∧ k ≤ P.length ∧ w' = w.drewN n) (fun i _ _ => P.length - (intOf i).toNat)
  case atStart => exact ⟨0, 0, rfl, Nat.zero_le _, rfl⟩
  case round =>
    obtain ⟨k, n, rfl, hk, hw⟩ := hrel
    have HW := hide hw
    by_cases hlt : k < P.length
    · obtain ⟨b, off, rv, rfl, _, c0', hr0⟩ := h3 k hlt
      obtain ⟨b', off', rv', rfl, _, d0', hr0'⟩ := h3' k hlt
      have c0 : wr.cell? ⟨b, off + k, none⟩ = some rv := by rw [hw]; exact c0'
      have d0 : wr.cell? ⟨b', off' + k, none⟩ = some rv' := by rw [hw]; exact d0'
      have hr : RingAt wr rv (P.getD k []) := by rw [hw]; exact hr0.drewN n
      have hr' : RingAt wr rv' (P.getD k []) := by rw [hw]; exact hr0'.drewN n
      clear c0' d0' hr0 hr0' hw
      generalize P.getD k [] = r at *
      have hk0 : (0 : Int) ≤ (k : Int) := Int.natCast_nonneg _
      have hk1 : (k : Int) < (P.length : Int) := by omega
      clear h3 h3'
      go_wp2_with fail
      go_quiet ((go_at_call 50; exact Calls.quiet_of (samePoints_yes _ _ r _ (hr.drewN _) (hr'.drewN _))))
      go_wp2
      go_roundw
      case rel => exact ⟨k + 1, n + nq, by go_num, by omega, by rw [HW.out, World.drewN_drewN]⟩
      case measure => simp [intOf]; omega
    · clear h3 h3' hw
      go_wp2
      go_ret
      exact ⟨rfl, n, HW.out⟩


/-- Rings of one's own, as a polygon. -/
theorem OwnR.poly {w : World} {base : Nat} {v : Value} {R : List (List Pt)} {vs : List Value} (h : OwnR w base v R vs) (hn : R.length ≤ maxLen) : PolyAt w v R := by
  obtain ⟨a, cap, rfl, hag, hpos, hm⟩ := own_form h.row
  rcases h.row.2 with ⟨e, h0⟩ | ⟨g, cp, cur, e, hb, hh, h1, h2, _⟩
  · refine ⟨a, cap, rfl, ?_, ?_, fun i hi => by omega⟩
    · simp at e; omega
    · simp at e; unfold maxLen; omega
  · simp at e
    obtain ⟨rfl, rfl⟩ := e
    refine ⟨_, cap, rfl, h1, h2, fun i hi => ⟨g, 0, vs.getD i nilV, rfl, (h.row.lt g rfl).2, ?_, ring_of_own (h.each i hi) (by have := h.small i hi; unfold maxLen; omega)⟩⟩
    rw [Nat.zero_add, own_cell h.row g rfl i (by omega), List.getD_eq_getElem?_getD, List.getElem?_eq_getElem (by rw [h.len]; exact hi)]; rfl

set_option maxHeartbeats 1000000 in
/-- 'clips' says yes where the wanted rings are those of the model. -/
theorem clips_yes (op : Int) (va vb vw : Value) (A B W : List (List Pt)) (w : World) (hA : PolyAt w va A) (hB : PolyAt w vb B) (hW : PolyAt w vw W) (h : clipM op A B = (W, 0)) (hn : W.length ≤ 1000000) :
    Calls Try.prog 24 #[.int .i64 op, va, vb, vw] w fun e w' => e = .returned (.bool true) ∧ Below w.heap.size w w' := by
  have C := hide (Clip_any op va vb A B w hA hB)
  rw [h] at C
  have HW := hide hW
  clear hA hB hW
  go_enter Try.func24, Try.ntmps24
  go_wp2_with fail
  refine C.out.mono ?_
  rintro e w1 ⟨v', vs, rfl, o, k⟩
  have hP := hide (o.poly (by unfold maxLen; omega))
  have hW1 := hide (HW.out.later k)
  clear o C HW
  go_wp2_with fail
  refine (sameRings_yes v' vw W w1 hP.out hW1.out).mono ?_
  rintro e w2 ⟨rfl, m, rfl⟩
  have K2 := hide (below_drewN k m)
  clear hP hW1 k
  go_wp2
  go_ret
  exact ⟨rfl, K2.out⟩
end Go.Proofs.Ytkmapffhfmgfeaa
