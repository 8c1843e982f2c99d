import Derived.Test.YtnkcbephceollabProg
import Derived.WalkKit
import Derived.Below
import Derived.WalkSpells
import Derived.WalkLawsBesides
import Derived.RegionTactic
import Derived.BigRegion
import Derived.Deep.QuietTactic
import Derived.BigQuiet
import Derived.Test.YtnkcbephceollabQ2
namespace Go.Proofs.Ytnkcbephceollab
open Go.RowKit
set_option linter.unusedSimpArgs false
set_option linter.unusedVariables false

/-- Old cells and old marks, over a world that has only grown. -/
theorem bcell {W w1 : World} (hb : Below W.heap.size W w1) : (∀ b o, b < W.heap.size → w1.cell? ⟨b, o, none⟩ = W.cell? ⟨b, o, none⟩) ∧ (∀ b o, b < W.heap.size → w1.frozen? ⟨b, o, none⟩ = W.frozen? ⟨b, o, none⟩) :=
  ⟨fun b o h => hb.cell (p := ⟨b, o, none⟩) h, fun b o h => hb.frozen (p := ⟨b, o, none⟩) h⟩
theorem bvia {w W w1 : World} (h : Below w.heap.size w W) (hb : Below W.heap.size W w1) : Below w.heap.size w w1 := h.trans (hb.mono h.size)
theorem ret_int {k : IntKind} {a b : Int} (h : a = b) : Ending.returned (.int k a) = .returned (.int k b) := by rw [h]
theorem ret_bool {a b : Bool} (h : a = b) : Ending.returned (.bool a) = .returned (.bool b) := by rw [h]
theorem wrap_in {a A : Int} (h : In a A) (g : A ≤ 9223372036854775807) : wrap64 a = a := IntWalk.wrap64_in a (by unfold In at h; omega)

abbrev I (n : Int) : Value := .int .i64 n
abbrev Pt.v (p : Pt) : Value := .agg #[.int .i64 p.x, .int .i64 p.y, .int .i64 p.d]
abbrev sg (a b : Pt) : Value := .agg #[.int .i64 a.x, .int .i64 a.y, .int .i64 a.d, .int .i64 b.x, .int .i64 b.y, .int .i64 b.d]
abbrev Mt.v (m : Mt) : Value := .agg #[.int .i64 m.k, .int .i64 m.p.x, .int .i64 m.p.y, .int .i64 m.p.d, .int .i64 m.q.x, .int .i64 m.q.y, .int .i64 m.q.d]

set_option maxHeartbeats 1000000 in
theorem IsGood_any (p : Pt) (w : World) :
    Calls Try.prog 45 #[p.v] w fun e w' => e = .returned (.bool (goodB p)) ∧ Below w.heap.size w w' := by
  by_cases h1 : p.d < 1
  · go_enter Try.func45, Try.ntmps45
    go_wp2
    all_goals
      go_ret
      refine ⟨ret_bool ?_, (Below.refl _ _).alloc (Nat.le_refl _) _⟩
      simp_all [goodB]
      try omega
  by_cases h2 : 32768 < p.d
  · go_enter Try.func45, Try.ntmps45
    go_wp2
    all_goals
      go_ret
      refine ⟨ret_bool ?_, (Below.refl _ _).alloc (Nat.le_refl _) _⟩
      simp_all [goodB]
      try omega
  go_enter Try.func45, Try.ntmps45
  go_wp2
  all_goals
    go_ret
    refine ⟨ret_bool ?_, (Below.refl _ _).alloc (Nat.le_refl _) _⟩
    first | (simp_all [goodB]; done) | (simp_all [goodB]; omega)

set_option maxHeartbeats 400000 in
theorem IsGrid_any (p : Pt) (w : World) :
    Calls Try.prog 58 #[p.v] w fun e w' => e = .returned (.bool (gridB p)) ∧ Below w.heap.size w w' := by
  by_cases h : p.d = 1
  · have H : Hid (goodB p = gridB p) := grid_of p h
    have h' : (p.d != 1) = false := by simpa using h
    clear h
    go_enter Try.func58, Try.ntmps58
    go_wp2_with fail
    refine (IsGood_any p _).mono ?_
    rintro e w1 ⟨rfl, k⟩
    have B1 := bvia ((Below.refl _ _).alloc (Nat.le_refl _) _) k
    clear k
    go_wp2
    go_ret
    exact ⟨ret_bool H.out, B1⟩
  · have H : Hid (gridB p = false) := grid_no p h
    have h' : (p.d != 1) = true := by simpa using h
    clear h
    go_enter Try.func58, Try.ntmps58
    go_wp2
    go_ret
    exact ⟨ret_bool H.out.symm, (Below.refl _ _).alloc (Nat.le_refl _) _⟩

theorem side_eq (a b c : Pt) : (a.y * b.d - b.y * a.d) * c.x + (b.x * a.d - a.x * b.d) * c.y + (a.x * b.y - b.x * a.y) * c.d = detM a b c := by unfold detM; grind
set_option maxHeartbeats 400000 in
theorem Side_any (a b c : Pt) (w : World) (ha : Gd a) (hb : Gd b) (hc : Gd c) :
    Calls Try.prog 56 #[a.v, b.v, c.v] w fun e w' => e = .returned (.int .i64 (detM a b c)) ∧ Below w.heap.size w w' := by
  have e : wrap64 (wrap64 (wrap64 (wrap64 (wrap64 (a.y * b.d) - wrap64 (b.y * a.d)) * c.x) + wrap64 (wrap64 (wrap64 (b.x * a.d) - wrap64 (a.x * b.d)) * c.y)) + wrap64 (wrap64 (wrap64 (a.x * b.y) - wrap64 (b.x * a.y)) * c.d)) = detM a b c := by
    rw [← side_eq]
    have i1 := (ha.y.mul hb.d).sub (hb.y.mul ha.d)
    have i2 := (hb.x.mul ha.d).sub (ha.x.mul hb.d)
    have i3 := (ha.x.mul hb.y).sub (hb.x.mul ha.y)
    rw [wrap_in (ha.y.mul hb.d) (by decide), wrap_in (hb.y.mul ha.d) (by decide), wrap_in (hb.x.mul ha.d) (by decide), wrap_in (ha.x.mul hb.d) (by decide), wrap_in (ha.x.mul hb.y) (by decide), wrap_in (hb.x.mul ha.y) (by decide),
      wrap_in i1 (by decide), wrap_in i2 (by decide), wrap_in i3 (by decide), wrap_in (i1.mul hc.x) (by decide), wrap_in (i2.mul hc.y) (by decide), wrap_in (i3.mul hc.d) (by decide),
      wrap_in ((i1.mul hc.x).add (i2.mul hc.y)) (by decide), wrap_in (((i1.mul hc.x).add (i2.mul hc.y)).add (i3.mul hc.d)) (by decide)]
  have E := e
  clear e ha hb hc
  have H : Hid (wrap64 (wrap64 (wrap64 (wrap64 (wrap64 (a.y * b.d) - wrap64 (b.y * a.d)) * c.x) + wrap64 (wrap64 (wrap64 (b.x * a.d) - wrap64 (a.x * b.d)) * c.y)) + wrap64 (wrap64 (wrap64 (a.x * b.y) - wrap64 (b.x * a.y)) * c.d)) = detM a b c) := E
  clear E
  go_enter Try.func56, Try.ntmps56
  go_wp2
  go_ret
  exact ⟨ret_int H.out, (((Below.refl _ _).alloc (Nat.le_refl _) _).alloc (by simp) _).alloc (by simp; omega) _⟩

def eqP (p q : Pt) : Bool := decide (p.x = q.x ∧ p.y = q.y ∧ p.d = q.d)
theorem eqP_true {p q : Pt} (h : eqP p q = true) : p = q := by have := of_decide_eq_true h; exact Pt.ext' this.1 this.2.1 this.2.2
theorem eqP_false {p q : Pt} (h : eqP p q = false) : p ≠ q := by intro e; subst e; simp [eqP] at h
theorem eql_pt (x y d x' y' d' : Int) (w : World) : (binOp .eql 29 (.agg #[.int .i64 x, .int .i64 y, .int .i64 d]) (.agg #[.int .i64 x', .int .i64 y', .int .i64 d'])).run Try.prog w = .ok (.bool (eqP ⟨x, y, d⟩ ⟨x', y', d'⟩)) w := by
  by_cases h1 : x = x'
  · by_cases h2 : y = y'
    · by_cases h3 : d = d' <;> simp [go_sem, eqP, h1, h2, h3]
    · simp [go_sem, eqP, h1, h2]
  · simp [go_sem, eqP, h1]
set_option maxHeartbeats 400000 in
theorem IsEmpty_any (a b : Pt) (w : World) :
    Calls Try.prog 59 #[sg a b] w fun e w' => e = .returned (.bool (eqP a b)) ∧ Below w.heap.size w w' := by
  have heq := eql_pt
  go_enter Try.func59, Try.ntmps59
  go_wp2
  go_ret
  exact ⟨rfl, (Below.refl _ _).alloc (Nat.le_refl _) _⟩

set_option maxHeartbeats 400000 in
theorem Compare_any (p q : Pt) (w : World) (hp : Gd p) (hq : Gd q) :
    Calls Try.prog 54 #[p.v, q.v] w fun e w' => e = .returned (.int .i64 (cmpM p q)) ∧ Below w.heap.size w w' := by
  obtain ⟨l1, u1⟩ := hp.x.mul hq.d
  obtain ⟨l2, u2⟩ := hq.x.mul hp.d
  obtain ⟨l3, u3⟩ := hp.y.mul hq.d
  obtain ⟨l4, u4⟩ := hq.y.mul hp.d
  clear hp hq
  by_cases h : (p.x * q.d - q.x * p.d != 0) = true
  · go_enter Try.func54, Try.ntmps54
    go_wp2
    go_ret
    exact ⟨ret_int (by unfold cmpM; rw [if_pos (by simpa using h)]), ((Below.refl _ _).alloc (Nat.le_refl _) _).alloc (by simp) _⟩
  · have h' : (p.x * q.d - q.x * p.d != 0) = false := by simpa using h
    clear h
    go_enter Try.func54, Try.ntmps54
    go_wp2
    go_ret
    exact ⟨ret_int (by unfold cmpM; rw [if_neg (by simpa using h')]), ((Below.refl _ _).alloc (Nat.le_refl _) _).alloc (by simp) _⟩

set_option maxHeartbeats 400000 in
theorem wayFrom_any (p q : Pt) (w : World) (hp : Gd p) (hq : Gd q) :
    Calls Try.prog 65 #[p.v, q.v] w fun e w' => e = .returned (.agg #[.int .i64 (q.x - p.x), .int .i64 (q.y - p.y)]) ∧ Below w.heap.size w w' := by
  obtain ⟨l1, u1⟩ := hp.x
  obtain ⟨l2, u2⟩ := hq.x
  obtain ⟨l3, u3⟩ := hp.y
  obtain ⟨l4, u4⟩ := hq.y
  clear hp hq
  go_enter Try.func65, Try.ntmps65
  go_wp2
  exact bodyPost_ret (v := .agg #[.int .i64 (q.x - p.x), .int .i64 (q.y - p.y)]) (by simp [results, Try.results65, go_sem]) rfl ⟨rfl, (((Below.refl _ _).alloc (Nat.le_refl _) _).alloc (by simp) _).alloc (by simp; omega) _⟩

set_option maxHeartbeats 400000 in
theorem cross_any (ax ay bx by' : Int) (w : World) (h1 : In ax 4194304) (h2 : In ay 4194304) (h3 : In bx 4194304) (h4 : In by' 4194304) :
    Calls Try.prog 66 #[.agg #[.int .i64 ax, .int .i64 ay], .agg #[.int .i64 bx, .int .i64 by']] w fun e w' => e = .returned (.int .i64 (crossM ax ay bx by')) ∧ Below w.heap.size w w' := by
  obtain ⟨l1, u1⟩ := h1.mul h4
  obtain ⟨l2, u2⟩ := h2.mul h3
  clear h1 h2 h3 h4
  go_enter Try.func66, Try.ntmps66
  go_wp2
  go_ret
  exact ⟨rfl, ((Below.refl _ _).alloc (Nat.le_refl _) _).alloc (by simp) _⟩

/-- Three cells of a new block are written. -/
theorem below_set3 {w w1 : World} {b o : Nat} {x y z : Value} (h : Below w.heap.size w w1) (hb : w.heap.size ≤ b) :
    Below w.heap.size w (((w1.setCell ⟨b, o, none⟩ x).setCell ⟨b, o + 1, none⟩ y).setCell ⟨b, o + 2, none⟩ z) :=
  ((h.setCell hb _).setCell hb _).setCell hb _
theorem below3 (w : World) (x y z : Obj) : Below w.heap.size w (((w.alloc x).alloc y).alloc z) :=
  (((Below.refl _ _).alloc (Nat.le_refl _) _).alloc (by simp) _).alloc (by simp; omega) _

set_option maxHeartbeats 400000 in
theorem First_any (p q : Pt) (w : World) (hp : Gd p) (hq : Gd q) :
    Calls Try.prog 73 #[p.v, q.v] w fun e w' => e = .returned (firstM p q).v ∧ Below w.heap.size w w' := by
  by_cases h : cmpM q p < 0
  · have H : Hid (firstM p q = q) := if_pos h
    go_enter Try.func73, Try.ntmps73
    go_wp2_with fail
    refine (Compare_any q p _ hq hp).mono ?_
    rintro e w1 ⟨rfl, hb⟩
    have hz : w.heap.size + 2 < w1.heap.size := by have := hb.size; simp at this; omega
    obtain ⟨hc, hf⟩ := bcell hb
    go_wp2
    exact bodyPost_ret (v := q.v) (by simp [results, Try.results73, go_sem, hc, hz]) rfl ⟨by rw [H.out], below_set3 (o := 0) (bvia (below3 _ _ _ _) hb) (by omega)⟩
  · have H : Hid (firstM p q = p) := if_neg h
    go_enter Try.func73, Try.ntmps73
    go_wp2_with fail
    refine (Compare_any q p _ hq hp).mono ?_
    rintro e w1 ⟨rfl, hb⟩
    have hz : w.heap.size + 2 < w1.heap.size := by have := hb.size; simp at this; omega
    obtain ⟨hc, hf⟩ := bcell hb
    go_wp2
    exact bodyPost_ret (v := p.v) (by simp [results, Try.results73, go_sem, hc, hz]) rfl ⟨by rw [H.out], below_set3 (o := 0) (bvia (below3 _ _ _ _) hb) (by omega)⟩

set_option maxHeartbeats 400000 in
theorem Last_any (p q : Pt) (w : World) (hp : Gd p) (hq : Gd q) :
    Calls Try.prog 74 #[p.v, q.v] w fun e w' => e = .returned (lastM p q).v ∧ Below w.heap.size w w' := by
  by_cases h : 0 < cmpM q p
  · have H : Hid (lastM p q = q) := if_pos h
    go_enter Try.func74, Try.ntmps74
    go_wp2_with fail
    refine (Compare_any q p _ hq hp).mono ?_
    rintro e w1 ⟨rfl, hb⟩
    have hz : w.heap.size + 2 < w1.heap.size := by have := hb.size; simp at this; omega
    obtain ⟨hc, hf⟩ := bcell hb
    go_wp2
    exact bodyPost_ret (v := q.v) (by simp [results, Try.results74, go_sem, hc, hz]) rfl ⟨by rw [H.out], below_set3 (o := 0) (bvia (below3 _ _ _ _) hb) (by omega)⟩
  · have H : Hid (lastM p q = p) := if_neg h
    go_enter Try.func74, Try.ntmps74
    go_wp2_with fail
    refine (Compare_any q p _ hq hp).mono ?_
    rintro e w1 ⟨rfl, hb⟩
    have hz : w.heap.size + 2 < w1.heap.size := by have := hb.size; simp at this; omega
    obtain ⟨hc, hf⟩ := bcell hb
    go_wp2
    exact bodyPost_ret (v := p.v) (by simp [results, Try.results74, go_sem, hc, hz]) rfl ⟨by rw [H.out], below_set3 (o := 0) (bvia (below3 _ _ _ _) hb) (by omega)⟩

theorem tmod_lt_abs (a b : Int) (h : b ≠ 0) : (a.tmod b).natAbs < b.natAbs := by
  rw [Int.natAbs_tmod]; exact Nat.mod_lt _ (by omega)
theorem gcd_step (a b : Int) : Int.gcd b (a.tmod b) = Int.gcd a b := by
  unfold Int.gcd; rw [Int.natAbs_tmod, Nat.gcd_comm a.natAbs, Nat.gcd_rec b.natAbs a.natAbs, Nat.gcd_comm]
theorem gcd_end_pos {s g : Int} (h : gcdM s 0 = g) (h0 : 0 ≤ s) : s = g := by rw [← h]; unfold gcdM; simp; omega
theorem gcd_end_neg {s g : Int} (h : gcdM s 0 = g) (h0 : s < 0) : -s = g := by rw [← h]; unfold gcdM; simp; omega
theorem tmod_in {s t A : Int} (h : In t A) (h0 : t ≠ 0) : In (s.tmod t) A := by have := tmod_lt_abs s t h0; unfold In at *; omega

set_option maxHeartbeats 400000 in
theorem divisor_any (a b : Int) (w : World) (ha : In a 9223372036854775807) (hb : In b 9223372036854775807) :
    Calls Try.prog 75 #[.int .i64 a, .int .i64 b] w fun e w' => e = .returned (.int .i64 (gcdM a b)) ∧ Below w.heap.size w w' := by
  obtain ⟨la, ua⟩ := ha
  obtain ⟨lb, ub⟩ := hb
  go_enter Try.func75, Try.ntmps75
  go_wp2
  go_loopw [0, 1] (fun x y w' => ∃ s t : Int, x = .int .i64 s ∧ y = .int .i64 t ∧ Hid (gcdM s t = gcdM a b) ∧ -9223372036854775807 ≤ s ∧ s ≤ 9223372036854775807 ∧ -9223372036854775807 ≤ t ∧ t ≤ 9223372036854775807 ∧ Below w.heap.size w w') (fun _ y _ => (intOf y).natAbs)
  case atStart => exact ⟨a, b, rfl, rfl, rfl, la, ua, lb, ub, Below.refl _ _⟩
  case round =>
    obtain ⟨s, t, rfl, rfl, H, ls, us, lt, ut, hbel⟩ := hrel
    by_cases h : t = 0
    · subst h
      go_wp2
      · go_ret
        exact ⟨ret_int (gcd_end_neg H.out (by assumption)), hbel⟩
      · go_ret
        exact ⟨ret_int (gcd_end_pos H.out (by assumption)), hbel⟩
    · have h' : (t != 0) = true := by simpa using h
      have H2 : Hid (gcdM t (s.tmod t) = gcdM a b) := by
        have e : gcdM t (s.tmod t) = gcdM s t := by unfold gcdM; rw [gcd_step]
        exact e.trans H.out
      have hlt := tmod_lt_abs s t h
      obtain ⟨l2, u2⟩ := tmod_in (s := s) (In.mk lt ut) h
      clear H
      go_wp2
      go_quiet (fail)
      go_wp2
      go_roundw
      case rel => exact ⟨t, s.tmod t, rfl, rfl, H2, lt, ut, l2, u2, below_drewN hbel _⟩
      case measure => exact hlt
theorem tdiv_in {a g A : Int} (h : In a A) : In (a.tdiv g) A := by
  have h1 : (a.tdiv g).natAbs ≤ a.natAbs := by rw [Int.natAbs_tdiv]; exact Nat.div_le_self _ _
  unfold In at *; omega
theorem gcdM_nonneg (a b : Int) : 0 ≤ gcdM a b := by unfold gcdM; omega
theorem gcdM_in {a b A : Int} (h : In a A) (g : In b A) : In (gcdM a b) A := by
  have h0 := gcdM_nonneg a b
  have hA := h.nonneg
  refine ⟨by omega, ?_⟩
  unfold gcdM at *
  by_cases ha : a = 0
  · subst ha; simp; unfold In at *; omega
  · have := Int.gcd_le_natAbs_left (a := a) (b := b) ha; unfold In at *; omega
set_option maxHeartbeats 400000 in
theorem Least_any (p : Pt) (w : World) (hp : Gd p) :
    Calls Try.prog 72 #[p.v] w fun e w' => e = .returned (leastM p).v ∧ Below w.heap.size w w' := by
  have h0 := gcdM_nonneg (gcdM p.x p.y) p.d
  by_cases h : gcdM (gcdM p.x p.y) p.d = 0
  · have H : Hid (leastM p = p) := if_pos h
    have h' : (gcdM (gcdM p.x p.y) p.d == 0) = true := by simpa using h
    clear h
    go_enter Try.func72, Try.ntmps72
    go_wp2_with fail
    refine (divisor_any _ _ _ (hp.x.mono (by decide)) (hp.y.mono (by decide))).mono ?_
    rintro e w1 ⟨rfl, hb1⟩
    have hz1 : w.heap.size + 1 < w1.heap.size := by have := hb1.size; simp at this; omega
    have hy1 : w.heap.size < w1.heap.size := by omega
    obtain ⟨hc1, hf1⟩ := bcell hb1
    go_wp2_with fail
    refine (divisor_any _ _ _ ((gcdM_in (hp.x.mono (by decide)) (hp.y.mono (by decide)))) (hp.d.mono (by decide))).mono ?_
    rintro e w2 ⟨rfl, hb2⟩
    have hz2 : w.heap.size + 1 < w2.heap.size := Nat.lt_of_lt_of_le hz1 hb2.size
    obtain ⟨hc2, hf2⟩ := bcell hb2
    go_wp2
    exact bodyPost_ret (v := p.v) (by simp [results, Try.results72, go_sem, hc1, hz1, hc2, hz2, hy1]) rfl ⟨by rw [H.out], below_set3 (o := 0) (bvia (bvia (((Below.refl _ _).alloc (Nat.le_refl _) _).alloc (by simp) _) hb1) hb2) (by omega)⟩
  · have H : Hid (leastM p = ⟨p.x.tdiv (gcdM (gcdM p.x p.y) p.d), p.y.tdiv (gcdM (gcdM p.x p.y) p.d), p.d.tdiv (gcdM (gcdM p.x p.y) p.d)⟩) := if_neg h
    have h' : (gcdM (gcdM p.x p.y) p.d == 0) = false := by simpa using h
    have hpos : 0 < gcdM (gcdM p.x p.y) p.d := by omega
    obtain ⟨lx, ux⟩ := tdiv_in (g := gcdM (gcdM p.x p.y) p.d) hp.x
    obtain ⟨ly, uy⟩ := tdiv_in (g := gcdM (gcdM p.x p.y) p.d) hp.y
    obtain ⟨ld, ud⟩ := tdiv_in (g := gcdM (gcdM p.x p.y) p.d) hp.d
    clear h
    go_enter Try.func72, Try.ntmps72
    go_wp2_with fail
    refine (divisor_any _ _ _ (hp.x.mono (by decide)) (hp.y.mono (by decide))).mono ?_
    rintro e w1 ⟨rfl, hb1⟩
    have hz1 : w.heap.size + 1 < w1.heap.size := by have := hb1.size; simp at this; omega
    have hy1 : w.heap.size < w1.heap.size := by omega
    obtain ⟨hc1, hf1⟩ := bcell hb1
    go_wp2_with fail
    refine (divisor_any _ _ _ ((gcdM_in (hp.x.mono (by decide)) (hp.y.mono (by decide)))) (hp.d.mono (by decide))).mono ?_
    rintro e w2 ⟨rfl, hb2⟩
    have hz2 : w.heap.size + 1 < w2.heap.size := Nat.lt_of_lt_of_le hz1 hb2.size
    obtain ⟨hc2, hf2⟩ := bcell hb2
    go_wp2
    go_region
    go_wp2
    exact bodyPost_ret (v := Pt.v ⟨p.x.tdiv (gcdM (gcdM p.x p.y) p.d), p.y.tdiv (gcdM (gcdM p.x p.y) p.d), p.d.tdiv (gcdM (gcdM p.x p.y) p.d)⟩) (by simp [results, Try.results72, go_sem, hc1, hz1, hc2, hz2, hy1]) rfl ⟨by rw [H.out], (below_set3 (o := 0) (bvia (bvia (((Below.refl _ _).alloc (Nat.le_refl _) _).alloc (by simp) _) hb1) hb2) (by omega)).drew⟩

theorem below_set6 {w w1 : World} {b : Nat} {x0 x1 x2 x3 x4 x5 : Value} (h : Below w.heap.size w w1) (hb : w.heap.size ≤ b) :
    Below w.heap.size w ((((((w1.setCell ⟨b, 0, none⟩ x0).setCell ⟨b, 1, none⟩ x1).setCell ⟨b, 2, none⟩ x2).setCell ⟨b, 3, none⟩ x3).setCell ⟨b, 4, none⟩ x4).setCell ⟨b, 5, none⟩ x5) :=
  (((((h.setCell hb _).setCell hb _).setCell hb _).setCell hb _).setCell hb _).setCell hb _
/-- A block of the call's own: its cells, that they may be written, that it is there. -/
structure Blk (w : World) (b : Nat) (vs : Array Value) : Prop where
  cell : ∀ o, w.cell? ⟨b, o, none⟩ = vs[o]?
  free : ∀ o, w.frozen? ⟨b, o, none⟩ = false
  lt : b < w.heap.size
theorem Blk.new (w : World) (vs : Array Value) (t : TypeId) : Blk (w.alloc (.cells vs t)) w.heap.size vs :=
  ⟨fun o => World.cell?_alloc_at vs t _ o rfl, fun o => World.frozen?_alloc_at vs t _ o rfl, by simp⟩
theorem Blk.at (b : Nat) {w : World} {vs : Array Value} {t : TypeId} (h : b = w.heap.size) : Blk (w.alloc (.cells vs t)) b vs := h ▸ Blk.new w vs t
theorem Blk.alloc {w : World} {b : Nat} {vs : Array Value} (h : Blk w b vs) (o : Obj) : Blk (w.alloc o) b vs :=
  ⟨fun i => (World.cell?_alloc_past o b i h.lt).trans (h.cell i), fun i => (World.frozen?_alloc_past o b i h.lt).trans (h.free i), by have := h.lt; simp; omega⟩
theorem Blk.call {w w' : World} {b : Nat} {vs : Array Value} (h : Blk w b vs) (hb : Below w.heap.size w w') : Blk w' b vs :=
  ⟨fun i => (hb.cell (p := ⟨b, i, none⟩) h.lt).trans (h.cell i), fun i => (hb.frozen (p := ⟨b, i, none⟩) h.lt).trans (h.free i), Nat.lt_of_lt_of_le h.lt hb.size⟩

theorem Blk.set {w : World} {b : Nat} {vs : Array Value} (h : Blk w b vs) (i : Nat) (hi : i < vs.size) (x : Value) : Blk (w.setCell ⟨b, i, none⟩ x) b (vs.setIfInBounds i x) := by
  refine ⟨fun o => ?_, fun o => ?_, ?_⟩
  · rw [Array.getElem?_setIfInBounds]
    by_cases e : i = o
    · subst e
      rw [if_pos rfl, if_pos hi]
      have hc := h.cell i
      rw [Array.getElem?_eq_getElem hi] at hc
      simp [go_sem, hc]
    · rw [if_neg e, ← h.cell o]
      have : ((⟨b, i, none⟩ : Addr) = ⟨b, o, none⟩) = False := by simp [e]
      simp [go_sem, this, e, Ne.symm e]
  · simp [go_sem, h.free o]
  · simpa using h.lt

theorem Blk.drew {w : World} {b : Nat} {vs : Array Value} (h : Blk w b vs) : Blk w.drew b vs := ⟨h.cell, h.free, h.lt⟩
theorem Blk.off {w : World} {b : Nat} {vs : Array Value} (h : Blk w b vs) {p : Nat} (hne : b ≠ p) (i : Nat) (x : Value) : Blk (w.setCell ⟨p, i, none⟩ x) b vs :=
  ⟨fun o => (World.cell?_of_block (w := w) (Below.heap_setCell w ⟨p, i, none⟩ x b hne)).trans (h.cell o), fun o => by simpa using h.free o, by simpa using h.lt⟩
theorem Blk.off3 {w : World} {b : Nat} {vs : Array Value} (h : Blk w b vs) {p : Nat} (hne : b ≠ p) (x y z : Value) : Blk (((w.setCell ⟨p, 0, none⟩ x).setCell ⟨p, 1, none⟩ y).setCell ⟨p, 2, none⟩ z) b vs :=
  ((h.off hne 0 x).off hne 1 y).off hne 2 z
theorem Blk.put3 {w : World} {p : Nat} {x y z x' y' z' : Value} (h : Blk w p #[x, y, z]) : Blk (((w.setCell ⟨p, 0, none⟩ x').setCell ⟨p, 1, none⟩ y').setCell ⟨p, 2, none⟩ z') p #[x', y', z'] :=
  ((h.set 0 (by simp) x').set 1 (by simp) y').set 2 (by simp) z'
theorem hide {p : Prop} (h : p) : Hid p := h

/-- A point's three cells. -/
structure PtAt (w : World) (b o : Nat) (p : Pt) : Prop where
  x : w.cell? ⟨b, o, none⟩ = some (.int .i64 p.x)
  y : w.cell? ⟨b, o + 1, none⟩ = some (.int .i64 p.y)
  d : w.cell? ⟨b, o + 2, none⟩ = some (.int .i64 p.d)
theorem PtAt.later {w w' : World} {b o : Nat} {p : Pt} {m : Nat} (h : PtAt w b o p) (hb : Below m w w') (hl : b < m) : PtAt w' b o p :=
  ⟨(hb.cell (p := ⟨b, o, none⟩) hl).trans h.x, (hb.cell (p := ⟨b, o + 1, none⟩) hl).trans h.y, (hb.cell (p := ⟨b, o + 2, none⟩) hl).trans h.d⟩
/-- A slice of points. -/
def RingAt (w : World) (v : Value) (r : List Pt) : Prop :=
  ∃ (a : Option Addr) (cap : Nat), v = .slice a r.length cap ∧ r.length ≤ cap ∧ cap ≤ maxLen ∧ ∀ j, j < r.length → ∃ b off, a = some ⟨b, off, none⟩ ∧ b < w.heap.size ∧ PtAt w b (off + j * 3) (r.getD j zP)
theorem RingAt.later {w w' : World} {v : Value} {r : List Pt} (h : RingAt w v r) (hb : Below w.heap.size w w') : RingAt w' v r := by
  obtain ⟨a, cap, rfl, h1, h2, h3⟩ := h
  refine ⟨a, cap, rfl, h1, h2, fun j hj => ?_⟩
  obtain ⟨b, off, rfl, hl, hp⟩ := h3 j hj
  exact ⟨b, off, rfl, Nat.lt_of_lt_of_le hl hb.size, hp.later hb hl⟩
/-- A slice of slices of points. -/
def PolyAt (w : World) (v : Value) (P : List (List Pt)) : Prop :=
  ∃ (a : Option Addr) (cap : Nat), v = .slice a P.length cap ∧ P.length ≤ cap ∧ cap ≤ maxLen ∧ ∀ i, i < P.length → ∃ b off rv, a = some ⟨b, off, none⟩ ∧ b < w.heap.size ∧ w.cell? ⟨b, off + i, none⟩ = some rv ∧ RingAt w rv (P.getD i [])
theorem PolyAt.later {w w' : World} {v : Value} {P : List (List Pt)} (h : PolyAt w v P) (hb : Below w.heap.size w w') : PolyAt w' v P := by
  obtain ⟨a, cap, rfl, h1, h2, h3⟩ := h
  refine ⟨a, cap, rfl, h1, h2, fun i hi => ?_⟩
  obtain ⟨b, off, rv, rfl, hl, hc, hr⟩ := h3 i hi
  exact ⟨b, off, rv, rfl, Nat.lt_of_lt_of_le hl hb.size, (hb.cell (p := ⟨b, off + i, none⟩) hl).trans hc, hr.later hb⟩

theorem ret_if {a b : Int} (h : a = b) : Ending.returned (.int .i64 a) = .returned (.int .i64 b) := by rw [h]

/-- A segment's six cells. -/
structure SegAt (w : World) (b o : Nat) (e : Pt × Pt) : Prop where
  c0 : w.cell? ⟨b, o, none⟩ = some (.int .i64 e.1.x)
  c1 : w.cell? ⟨b, o + 1, none⟩ = some (.int .i64 e.1.y)
  c2 : w.cell? ⟨b, o + 2, none⟩ = some (.int .i64 e.1.d)
  c3 : w.cell? ⟨b, o + 3, none⟩ = some (.int .i64 e.2.x)
  c4 : w.cell? ⟨b, o + 4, none⟩ = some (.int .i64 e.2.y)
  c5 : w.cell? ⟨b, o + 5, none⟩ = some (.int .i64 e.2.d)
theorem SegAt.later {w w' : World} {b o : Nat} {e : Pt × Pt} {m : Nat} (h : SegAt w b o e) (hb : Below m w w') (hl : b < m) : SegAt w' b o e :=
  ⟨(hb.cell (p := ⟨b, o, none⟩) hl).trans h.c0, (hb.cell (p := ⟨b, o + 1, none⟩) hl).trans h.c1, (hb.cell (p := ⟨b, o + 2, none⟩) hl).trans h.c2, (hb.cell (p := ⟨b, o + 3, none⟩) hl).trans h.c3, (hb.cell (p := ⟨b, o + 4, none⟩) hl).trans h.c4, (hb.cell (p := ⟨b, o + 5, none⟩) hl).trans h.c5⟩
/-- A slice of segments. -/
def SegsAt (w : World) (v : Value) (E : List (Pt × Pt)) : Prop :=
  ∃ (a : Option Addr) (cap : Nat), v = .slice a E.length cap ∧ E.length ≤ cap ∧ cap ≤ maxLen ∧ ∀ j, j < E.length → ∃ b off, a = some ⟨b, off, none⟩ ∧ b < w.heap.size ∧ SegAt w b (off + j * 6) (E.getD j (zP, zP))
theorem SegsAt.later {w w' : World} {v : Value} {E : List (Pt × Pt)} (h : SegsAt w v E) (hb : Below w.heap.size w w') : SegsAt w' v E := by
  obtain ⟨a, cap, rfl, h1, h2, h3⟩ := h
  refine ⟨a, cap, rfl, h1, h2, fun j hj => ?_⟩
  obtain ⟨b, off, rfl, hl, hp⟩ := h3 j hj
  exact ⟨b, off, rfl, Nat.lt_of_lt_of_le hl hb.size, hp.later hb hl⟩

end Go.Proofs.Ytnkcbephceollab
