import Derived.Test.YtnkcbephceollaaW1
namespace Go.Proofs.Ytnkcbephceollaa
open Go.RowKit
set_option linter.unusedSimpArgs false
set_option linter.unusedVariables false

def pickM (c n : Int) : Int := (if c < 0 then -(c + 1) else c) % n
theorem pickM_bd (c n : Int) (hn : 0 < n) : 0 ≤ pickM c n ∧ pickM c n < n := ⟨Int.emod_nonneg _ (by omega), Int.emod_lt_of_pos _ hn⟩
theorem pick_neg {c n : Int} (h : c < 0) : -(c + 1).tmod n = pickM c n := by
  unfold pickM; rw [if_pos h, ← Int.neg_tmod]; exact Int.tmod_eq_emod_of_nonneg (by omega)
theorem pick_pos {c n : Int} (h : ¬ c < 0) : c.tmod n = pickM c n := by
  unfold pickM; rw [if_neg h]; exact Int.tmod_eq_emod_of_nonneg (by omega)

set_option maxHeartbeats 400000 in
theorem pick_any (c n : Int) (w : World) (h1 : -9223372036854775808 ≤ c) (h2 : c ≤ 9223372036854775807) (hn : 0 < n) (hn2 : n ≤ 100000000) :
    Calls Try.prog 16 #[.int .i64 c, .int .i64 n] w fun e w' => e = .returned (.int .i64 (pickM c n)) ∧ w' = w := by
  by_cases hc : c < 0
  · go_enter Try.func16, Try.ntmps16
    go_wp2
    go_ret
    exact ⟨ret_int (pick_neg hc), rfl⟩
  · go_enter Try.func16, Try.ntmps16
    go_wp2
    go_ret
    exact ⟨ret_int (by unfold pickM; rw [if_neg (by omega)]), rfl⟩

def coordM (c : Int) : Int := pickM c 129 - 64
theorem coordM_in (c : Int) : In (coordM c) 64 := by have := pickM_bd c 129 (by decide); unfold In coordM; omega

set_option maxHeartbeats 400000 in
theorem coordinate_any (c : Int) (w : World) (h1 : -9223372036854775808 ≤ c) (h2 : c ≤ 9223372036854775807) :
    Calls Try.prog 39 #[.int .i64 c] w fun e w' => e = .returned (.int .i64 (coordM c)) ∧ w' = w := by
  have hb := pickM_bd c 129 (by decide)
  obtain ⟨hb1, hb2⟩ := hb
  go_enter Try.func39, Try.ntmps39
  go_wp2_with (go_at_call 16; refine (pick_any _ _ _ h1 h2 (by decide) (by decide)).mono ?_; rintro e w' ⟨rfl, rfl⟩)
  go_ret
  exact ⟨rfl, rfl⟩

set_option maxHeartbeats 400000 in
theorem at_any (x y : Int) (w : World) :
    Calls Try.prog 25 #[.int .i64 x, .int .i64 y] w fun e w' => e = .returned (Pt.v ⟨x, y, 1⟩) ∧ Below w.heap.size w w' := by
  go_enter Try.func25, Try.ntmps25
  go_wp2
  exact bodyPost_ret (v := Pt.v ⟨x, y, 1⟩) (by simp [results, Try.results25, go_sem]) rfl ⟨rfl, (Below.refl _ _).alloc (Nat.le_refl _) _⟩
end Go.Proofs.Ytnkcbephceollaa
namespace Go.Proofs.Ytnkcbephceollaa
open Go.RowKit
set_option linter.unusedSimpArgs false
set_option linter.unusedVariables false


def spotM (x y : Int) : Pt := ⟨coordM x, coordM y, 1⟩
theorem spotM_gr (x y : Int) : Gr (spotM x y) := ⟨coordM_in x, coordM_in y, rfl⟩

set_option maxHeartbeats 400000 in
theorem spot_any (x y : Int) (w : World) (h1 : -9223372036854775808 ≤ x) (h2 : x ≤ 9223372036854775807) (h3 : -9223372036854775808 ≤ y) (h4 : y ≤ 9223372036854775807) :
    Calls Try.prog 10 #[.int .i64 x, .int .i64 y] w fun e w' => e = .returned (spotM x y).v ∧ Below w.heap.size w w' := by
  go_enter Try.func10, Try.ntmps10
  go_wp2_with fail
  refine (coordinate_any x _ h1 h2).mono ?_
  rintro e w' ⟨rfl, rfl⟩
  go_wp2_with fail
  refine (coordinate_any y _ h3 h4).mono ?_
  rintro e w' ⟨rfl, rfl⟩
  go_wp2_with fail
  refine (at_any _ _ _).mono ?_
  rintro e w1 ⟨rfl, hb⟩
  have hz : w.heap.size < w1.heap.size := by have := hb.size; simp at this; omega
  obtain ⟨hc, hf⟩ := bcell hb
  go_wp2
  exact bodyPost_ret (v := (spotM x y).v) (by simp [results, Try.results10, go_sem, hc, hz, spotM]) rfl ⟨rfl, (((bvia ((Below.refl _ _).alloc (Nat.le_refl _) _) hb).setCell (by simp) _).setCell (by simp) _).setCell (by simp) _⟩

set_option maxHeartbeats 400000 in
theorem det_any (a b c : Pt) (w : World) (ha : Gd a) (hb : Gd b) (hc : Gd c) :
    Calls Try.prog 43 #[a.v, b.v, c.v] w fun e w' => e = .returned (.int .i64 (detM a b c)) ∧ Below w.heap.size w w' := by
  have e : wrap64 (wrap64 (wrap64 (a.x * wrap64 (wrap64 (b.y * c.d) - wrap64 (c.y * b.d))) - wrap64 (a.y * wrap64 (wrap64 (b.x * c.d) - wrap64 (c.x * b.d)))) + wrap64 (a.d * wrap64 (wrap64 (b.x * c.y) - wrap64 (c.x * b.y)))) = detM a b c := by
    unfold detM
    rw [wrap_in (hb.y.mul hc.d) (by decide), wrap_in (hc.y.mul hb.d) (by decide), wrap_in (hb.x.mul hc.d) (by decide), wrap_in (hc.x.mul hb.d) (by decide), wrap_in (hb.x.mul hc.y) (by decide), wrap_in (hc.x.mul hb.y) (by decide),
      wrap_in ((hb.y.mul hc.d).sub (hc.y.mul hb.d)) (by decide), wrap_in ((hb.x.mul hc.d).sub (hc.x.mul hb.d)) (by decide), wrap_in ((hb.x.mul hc.y).sub (hc.x.mul hb.y)) (by decide),
      wrap_in (ha.x.mul ((hb.y.mul hc.d).sub (hc.y.mul hb.d))) (by decide), wrap_in (ha.y.mul ((hb.x.mul hc.d).sub (hc.x.mul hb.d))) (by decide), wrap_in (ha.d.mul ((hb.x.mul hc.y).sub (hc.x.mul hb.y))) (by decide),
      wrap_in ((ha.x.mul ((hb.y.mul hc.d).sub (hc.y.mul hb.d))).sub (ha.y.mul ((hb.x.mul hc.d).sub (hc.x.mul hb.d)))) (by decide),
      wrap_in (((ha.x.mul ((hb.y.mul hc.d).sub (hc.y.mul hb.d))).sub (ha.y.mul ((hb.x.mul hc.d).sub (hc.x.mul hb.d)))).add (ha.d.mul ((hb.x.mul hc.y).sub (hc.x.mul hb.y)))) (by decide)]
  have E := e
  clear e ha hb hc
  have H : Hid (wrap64 (wrap64 (wrap64 (a.x * wrap64 (wrap64 (b.y * c.d) - wrap64 (c.y * b.d))) - wrap64 (a.y * wrap64 (wrap64 (b.x * c.d) - wrap64 (c.x * b.d)))) + wrap64 (a.d * wrap64 (wrap64 (b.x * c.y) - wrap64 (c.x * b.y)))) = detM a b c) := E
  clear E
  go_enter Try.func43, Try.ntmps43
  go_wp2
  go_ret
  exact ⟨ret_int H.out, (((Below.refl _ _).alloc (Nat.le_refl _) _).alloc (by simp) _).alloc (by simp; omega) _⟩

set_option maxHeartbeats 400000 in
theorem before_any (p q : Pt) (w : World) (hp : Gd p) (hq : Gd q) :
    Calls Try.prog 13 #[p.v, q.v] w fun e w' => e = .returned (.bool (befB p q)) ∧ Below w.heap.size w w' := by
  obtain ⟨l1, u1⟩ := hp.x.mul hq.d
  obtain ⟨l2, u2⟩ := hq.x.mul hp.d
  obtain ⟨l3, u3⟩ := hp.y.mul hq.d
  obtain ⟨l4, u4⟩ := hq.y.mul hp.d
  clear hp hq
  by_cases h : (p.x * q.d != q.x * p.d) = true
  · go_enter Try.func13, Try.ntmps13
    go_wp2
    go_ret
    exact ⟨ret_bool (by unfold befB; rw [if_pos (by simpa using h)]), ((Below.refl _ _).alloc (Nat.le_refl _) _).alloc (by simp) _⟩
  · have h' : (p.x * q.d != q.x * p.d) = false := by simpa using h
    clear h
    go_enter Try.func13, Try.ntmps13
    go_wp2
    go_ret
    exact ⟨ret_bool (by unfold befB; rw [if_neg (by simpa using h')]), ((Below.refl _ _).alloc (Nat.le_refl _) _).alloc (by simp) _⟩

end Go.Proofs.Ytnkcbephceollaa
