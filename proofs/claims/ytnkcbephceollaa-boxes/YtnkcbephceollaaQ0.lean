import Derived.Test.YtnkcbephceollaaProg
import Derived.WalkKit
import Derived.Below
import Derived.WalkSpells
import Derived.WalkLawsBesides
/- Plain mathematics: points, how segments meet. Imports nothing of the program. -/
namespace Go.Proofs.Ytnkcbephceollaa

structure Pt where
  x : Int
  y : Int
  d : Int
structure Mt where
  k : Int
  p : Pt
  q : Pt

theorem Pt.ext' {p q : Pt} (h1 : p.x = q.x) (h2 : p.y = q.y) (h3 : p.d = q.d) : p = q := by
  cases p; cases q; simp_all
theorem Mt.ext' {p q : Mt} (h1 : p.k = q.k) (h2 : p.p = q.p) (h3 : p.q = q.q) : p = q := by
  cases p; cases q; simp_all

/-- Between -A and A. -/
def In (a A : Int) : Prop := -A ≤ a ∧ a ≤ A
theorem In.mk {a A : Int} (h1 : -A ≤ a) (h2 : a ≤ A) : In a A := ⟨h1, h2⟩
theorem In.lo {a A : Int} (h : In a A) : -A ≤ a := h.1
theorem In.hi {a A : Int} (h : In a A) : a ≤ A := h.2
theorem In.nonneg {a A : Int} (h : In a A) : 0 ≤ A := by have := h.1; have := h.2; omega
theorem In.add {a b A B : Int} (h : In a A) (g : In b B) : In (a + b) (A + B) := by unfold In at *; omega
theorem In.sub {a b A B : Int} (h : In a A) (g : In b B) : In (a - b) (A + B) := by unfold In at *; omega
theorem In.neg {a A : Int} (h : In a A) : In (-a) A := by unfold In at *; omega
theorem In.mono {a A B : Int} (h : In a A) (g : A ≤ B) : In a B := by unfold In at *; omega
theorem In.mul {a b A B : Int} (h : In a A) (g : In b B) : In (a * b) (A * B) := by
  have hA := h.nonneg
  have hB := g.nonneg
  have h1 : a.natAbs ≤ A.natAbs := by unfold In at h; omega
  have h2 : b.natAbs ≤ B.natAbs := by unfold In at g; omega
  have h3 : (a * b).natAbs ≤ (A * B).natAbs := by rw [Int.natAbs_mul, Int.natAbs_mul]; exact Nat.mul_le_mul h1 h2
  have h4 : 0 ≤ A * B := Int.mul_nonneg hA hB
  unfold In; omega

/-- A point whose numbers are no greater than a good point's may be. -/
structure Gd (p : Pt) : Prop where
  x : In p.x 2097152
  y : In p.y 2097152
  d : In p.d 32768
/-- A grid point. -/
structure Gr (p : Pt) : Prop where
  x : In p.x 64
  y : In p.y 64
  d : p.d = 1
theorem Gr.gd {p : Pt} (h : Gr p) : Gd p := ⟨h.x.mono (by decide), h.y.mono (by decide), by rw [h.d]; exact ⟨by decide, by decide⟩⟩

def detM (a b c : Pt) : Int := a.x * (b.y * c.d - c.y * b.d) - a.y * (b.x * c.d - c.x * b.d) + a.d * (b.x * c.y - c.x * b.y)
def befB (p q : Pt) : Bool := if p.x * q.d ≠ q.x * p.d then decide (p.x * q.d < q.x * p.d) else decide (p.y * q.d < q.y * p.d)
def cmpM (p q : Pt) : Int := if p.x * q.d - q.x * p.d ≠ 0 then p.x * q.d - q.x * p.d else p.y * q.d - q.y * p.d
def firstM (p q : Pt) : Pt := if cmpM q p < 0 then q else p
def lastM (p q : Pt) : Pt := if cmpM q p > 0 then q else p
def gridB (p : Pt) : Bool := decide (p.d = 1 ∧ -64 ≤ p.x ∧ p.x ≤ 64 ∧ -64 ≤ p.y ∧ p.y ≤ 64)
def goodB (p : Pt) : Bool := decide (1 ≤ p.d ∧ p.d ≤ 32768 ∧ -(64 * p.d) ≤ p.x ∧ p.x ≤ 64 * p.d ∧ -(64 * p.d) ≤ p.y ∧ p.y ≤ 64 * p.d)
theorem grid_of (p : Pt) (h : p.d = 1) : goodB p = gridB p := by unfold goodB gridB; simp [h]
theorem grid_no (p : Pt) (h : p.d ≠ 1) : gridB p = false := by unfold gridB; simp [h]
def gcdM (a b : Int) : Int := (Int.gcd a b : Int)
def leastM (p : Pt) : Pt := if gcdM (gcdM p.x p.y) p.d = 0 then p else ⟨p.x.tdiv (gcdM (gcdM p.x p.y) p.d), p.y.tdiv (gcdM (gcdM p.x p.y) p.d), p.d.tdiv (gcdM (gcdM p.x p.y) p.d)⟩
def crossM (ax ay bx by' : Int) : Int := ax * by' - ay * bx
def zP : Pt := ⟨0, 0, 0⟩
def zM : Mt := ⟨0, zP, zP⟩
/-- Not parallel. -/
def acrossM (a b c d : Pt) : Mt :=
  let w := crossM (b.x - a.x) (b.y - a.y) (d.x - c.x) (d.y - c.y)
  let s := crossM (c.x - a.x) (c.y - a.y) (d.x - c.x) (d.y - c.y)
  let t := crossM (c.x - a.x) (c.y - a.y) (b.x - a.x) (b.y - a.y)
  let w' := if w < 0 then -w else w
  let s' := if w < 0 then -s else s
  let t' := if w < 0 then -t else t
  if s' < 0 ∨ s' > w' ∨ t' < 0 ∨ t' > w' then zM
  else ⟨1, leastM ⟨a.x * w' + (b.x - a.x) * s', a.y * w' + (b.y - a.y) * s', w'⟩, zP⟩
def lineM (a b c d : Pt) : Mt :=
  let f := lastM (firstM a b) (firstM c d)
  let t := firstM (lastM a b) (lastM c d)
  if cmpM f t > 0 then zM else if cmpM f t = 0 then ⟨1, f, zP⟩ else ⟨2, f, t⟩
def parM (a b c d : Pt) : Mt := if crossM (b.x - a.x) (b.y - a.y) (c.x - a.x) (c.y - a.y) ≠ 0 then zM else lineM a b c d
def meetM (a b c d : Pt) : Mt := if crossM (b.x - a.x) (b.y - a.y) (d.x - c.x) (d.y - c.y) = 0 then parM a b c d else acrossM a b c d

theorem det_in {a b c : Pt} (ha : Gd a) (hb : Gd b) (hc : Gd c) : In (detM a b c) 1152921504606846976 :=
  ((((ha.x.mul ((hb.y.mul hc.d).sub (hc.y.mul hb.d))).sub (ha.y.mul ((hb.x.mul hc.d).sub (hc.x.mul hb.d)))).add (ha.d.mul ((hb.x.mul hc.y).sub (hc.x.mul hb.y))))).mono (by decide)
theorem firstM_gd {p q : Pt} (hp : Gd p) (hq : Gd q) : Gd (firstM p q) := by unfold firstM; split <;> assumption
theorem lastM_gd {p q : Pt} (hp : Gd p) (hq : Gd q) : Gd (lastM p q) := by unfold lastM; split <;> assumption
theorem firstM_gr {p q : Pt} (hp : Gr p) (hq : Gr q) : Gr (firstM p q) := by unfold firstM; split <;> assumption
theorem lastM_gr {p q : Pt} (hp : Gr p) (hq : Gr q) : Gr (lastM p q) := by unfold lastM; split <;> assumption
end Go.Proofs.Ytnkcbephceollaa
namespace Go.Proofs.Ytnkcbephceollaa
open Go.RowKit
set_option linter.unusedSimpArgs false
set_option linter.unusedVariables false

/-- Old cells and old marks, over a world that has only grown. -/
theorem bcell {W w1 : World} (hb : Below W.heap.size W w1) : (∀ b o, b < W.heap.size → w1.cell? ⟨b, o, none⟩ = W.cell? ⟨b, o, none⟩) ∧ (∀ b o, b < W.heap.size → w1.frozen? ⟨b, o, none⟩ = W.frozen? ⟨b, o, none⟩) :=
  ⟨fun b o h => hb.cell (p := ⟨b, o, none⟩) h, fun b o h => hb.frozen (p := ⟨b, o, none⟩) h⟩
theorem bvia {w W w1 : World} (h : Below w.heap.size w W) (hb : Below W.heap.size W w1) : Below w.heap.size w w1 := h.trans (hb.mono h.size)
theorem ret_int {k : IntKind} {a b : Int} (h : a = b) : Ending.returned (.int k a) = .returned (.int k b) := by rw [h]
theorem ret_bool {a b : Bool} (h : a = b) : Ending.returned (.bool a) = .returned (.bool b) := by rw [h]
theorem wrap_in {a A : Int} (h : In a A) (g : A ≤ 9223372036854775807) : wrap64 a = a := IntWalk.wrap64_in a (by unfold In at h; omega)

abbrev I (n : Int) : Value := .int .i64 n
abbrev Pt.v (p : Pt) : Value := .agg #[.int .i64 p.x, .int .i64 p.y, .int .i64 p.d]
abbrev sg (a b : Pt) : Value := .agg #[.int .i64 a.x, .int .i64 a.y, .int .i64 a.d, .int .i64 b.x, .int .i64 b.y, .int .i64 b.d]
abbrev Mt.v (m : Mt) : Value := .agg #[.int .i64 m.k, .int .i64 m.p.x, .int .i64 m.p.y, .int .i64 m.p.d, .int .i64 m.q.x, .int .i64 m.q.y, .int .i64 m.q.d]

set_option maxHeartbeats 1000000 in
theorem IsGood_any (p : Pt) (w : World) :
    Calls Try.prog 51 #[p.v] w fun e w' => e = .returned (.bool (goodB p)) ∧ Below w.heap.size w w' := by
  by_cases h1 : p.d < 1
  · go_enter Try.func51, Try.ntmps51
    go_wp2
    all_goals
      go_ret
      refine ⟨ret_bool ?_, (Below.refl _ _).alloc (Nat.le_refl _) _⟩
      simp_all [goodB]
      try omega
  by_cases h2 : 32768 < p.d
  · go_enter Try.func51, Try.ntmps51
    go_wp2
    all_goals
      go_ret
      refine ⟨ret_bool ?_, (Below.refl _ _).alloc (Nat.le_refl _) _⟩
      simp_all [goodB]
      try omega
  go_enter Try.func51, Try.ntmps51
  go_wp2
  all_goals
    go_ret
    refine ⟨ret_bool ?_, (Below.refl _ _).alloc (Nat.le_refl _) _⟩
    first | (simp_all [goodB]; done) | (simp_all [goodB]; omega)

set_option maxHeartbeats 400000 in
theorem IsGrid_any (p : Pt) (w : World) :
    Calls Try.prog 40 #[p.v] w fun e w' => e = .returned (.bool (gridB p)) ∧ Below w.heap.size w w' := by
  by_cases h : p.d = 1
  · have H : Hid (goodB p = gridB p) := grid_of p h
    have h' : (p.d != 1) = false := by simpa using h
    clear h
    go_enter Try.func40, Try.ntmps40
    go_wp2_with fail
    refine (IsGood_any p _).mono ?_
    rintro e w1 ⟨rfl, k⟩
    have B1 := bvia ((Below.refl _ _).alloc (Nat.le_refl _) _) k
    clear k
    go_wp2
    go_ret
    exact ⟨ret_bool H.out, B1⟩
  · have H : Hid (gridB p = false) := grid_no p h
    have h' : (p.d != 1) = true := by simpa using h
    clear h
    go_enter Try.func40, Try.ntmps40
    go_wp2
    go_ret
    exact ⟨ret_bool H.out.symm, (Below.refl _ _).alloc (Nat.le_refl _) _⟩

theorem side_eq (a b c : Pt) : (a.y * b.d - b.y * a.d) * c.x + (b.x * a.d - a.x * b.d) * c.y + (a.x * b.y - b.x * a.y) * c.d = detM a b c := by unfold detM; grind
set_option maxHeartbeats 400000 in
theorem Side_any (a b c : Pt) (w : World) (ha : Gd a) (hb : Gd b) (hc : Gd c) :
    Calls Try.prog 84 #[a.v, b.v, c.v] w fun e w' => e = .returned (.int .i64 (detM a b c)) ∧ Below w.heap.size w w' := by
  have e : wrap64 (wrap64 (wrap64 (wrap64 (wrap64 (a.y * b.d) - wrap64 (b.y * a.d)) * c.x) + wrap64 (wrap64 (wrap64 (b.x * a.d) - wrap64 (a.x * b.d)) * c.y)) + wrap64 (wrap64 (wrap64 (a.x * b.y) - wrap64 (b.x * a.y)) * c.d)) = detM a b c := by
    rw [← side_eq]
    have i1 := (ha.y.mul hb.d).sub (hb.y.mul ha.d)
    have i2 := (hb.x.mul ha.d).sub (ha.x.mul hb.d)
    have i3 := (ha.x.mul hb.y).sub (hb.x.mul ha.y)
    rw [wrap_in (ha.y.mul hb.d) (by decide), wrap_in (hb.y.mul ha.d) (by decide), wrap_in (hb.x.mul ha.d) (by decide), wrap_in (ha.x.mul hb.d) (by decide), wrap_in (ha.x.mul hb.y) (by decide), wrap_in (hb.x.mul ha.y) (by decide),
      wrap_in i1 (by decide), wrap_in i2 (by decide), wrap_in i3 (by decide), wrap_in (i1.mul hc.x) (by decide), wrap_in (i2.mul hc.y) (by decide), wrap_in (i3.mul hc.d) (by decide),
      wrap_in ((i1.mul hc.x).add (i2.mul hc.y)) (by decide), wrap_in (((i1.mul hc.x).add (i2.mul hc.y)).add (i3.mul hc.d)) (by decide)]
  have E := e
  clear e ha hb hc
  have H : Hid (wrap64 (wrap64 (wrap64 (wrap64 (wrap64 (a.y * b.d) - wrap64 (b.y * a.d)) * c.x) + wrap64 (wrap64 (wrap64 (b.x * a.d) - wrap64 (a.x * b.d)) * c.y)) + wrap64 (wrap64 (wrap64 (a.x * b.y) - wrap64 (b.x * a.y)) * c.d)) = detM a b c) := E
  clear E
  go_enter Try.func84, Try.ntmps84
  go_wp2
  go_ret
  exact ⟨ret_int H.out, (((Below.refl _ _).alloc (Nat.le_refl _) _).alloc (by simp) _).alloc (by simp; omega) _⟩

def eqP (p q : Pt) : Bool := decide (p.x = q.x ∧ p.y = q.y ∧ p.d = q.d)
theorem eqP_true {p q : Pt} (h : eqP p q = true) : p = q := by have := of_decide_eq_true h; exact Pt.ext' this.1 this.2.1 this.2.2
theorem eqP_false {p q : Pt} (h : eqP p q = false) : p ≠ q := by intro e; subst e; simp [eqP] at h
theorem eql_pt (x y d x' y' d' : Int) (w : World) : (binOp .eql 25 (.agg #[.int .i64 x, .int .i64 y, .int .i64 d]) (.agg #[.int .i64 x', .int .i64 y', .int .i64 d'])).run Try.prog w = .ok (.bool (eqP ⟨x, y, d⟩ ⟨x', y', d'⟩)) w := by
  by_cases h1 : x = x'
  · by_cases h2 : y = y'
    · by_cases h3 : d = d' <;> simp [go_sem, eqP, h1, h2, h3]
    · simp [go_sem, eqP, h1, h2]
  · simp [go_sem, eqP, h1]
set_option maxHeartbeats 400000 in
theorem IsEmpty_any (a b : Pt) (w : World) :
    Calls Try.prog 41 #[sg a b] w fun e w' => e = .returned (.bool (eqP a b)) ∧ Below w.heap.size w w' := by
  have heq := eql_pt
  go_enter Try.func41, Try.ntmps41
  go_wp2
  go_ret
  exact ⟨rfl, (Below.refl _ _).alloc (Nat.le_refl _) _⟩

set_option maxHeartbeats 400000 in
theorem Compare_any (p q : Pt) (w : World) (hp : Gd p) (hq : Gd q) :
    Calls Try.prog 82 #[p.v, q.v] w fun e w' => e = .returned (.int .i64 (cmpM p q)) ∧ Below w.heap.size w w' := by
  obtain ⟨l1, u1⟩ := hp.x.mul hq.d
  obtain ⟨l2, u2⟩ := hq.x.mul hp.d
  obtain ⟨l3, u3⟩ := hp.y.mul hq.d
  obtain ⟨l4, u4⟩ := hq.y.mul hp.d
  clear hp hq
  by_cases h : (p.x * q.d - q.x * p.d != 0) = true
  · go_enter Try.func82, Try.ntmps82
    go_wp2
    go_ret
    exact ⟨ret_int (by unfold cmpM; rw [if_pos (by simpa using h)]), ((Below.refl _ _).alloc (Nat.le_refl _) _).alloc (by simp) _⟩
  · have h' : (p.x * q.d - q.x * p.d != 0) = false := by simpa using h
    clear h
    go_enter Try.func82, Try.ntmps82
    go_wp2
    go_ret
    exact ⟨ret_int (by unfold cmpM; rw [if_neg (by simpa using h')]), ((Below.refl _ _).alloc (Nat.le_refl _) _).alloc (by simp) _⟩

set_option maxHeartbeats 400000 in
theorem wayFrom_any (p q : Pt) (w : World) (hp : Gd p) (hq : Gd q) :
    Calls Try.prog 52 #[p.v, q.v] w fun e w' => e = .returned (.agg #[.int .i64 (q.x - p.x), .int .i64 (q.y - p.y)]) ∧ Below w.heap.size w w' := by
  obtain ⟨l1, u1⟩ := hp.x
  obtain ⟨l2, u2⟩ := hq.x
  obtain ⟨l3, u3⟩ := hp.y
  obtain ⟨l4, u4⟩ := hq.y
  clear hp hq
  go_enter Try.func52, Try.ntmps52
  go_wp2
  exact bodyPost_ret (v := .agg #[.int .i64 (q.x - p.x), .int .i64 (q.y - p.y)]) (by simp [results, Try.results52, go_sem]) rfl ⟨rfl, (((Below.refl _ _).alloc (Nat.le_refl _) _).alloc (by simp) _).alloc (by simp; omega) _⟩

set_option maxHeartbeats 400000 in
theorem cross_any (ax ay bx by' : Int) (w : World) (h1 : In ax 4194304) (h2 : In ay 4194304) (h3 : In bx 4194304) (h4 : In by' 4194304) :
    Calls Try.prog 53 #[.agg #[.int .i64 ax, .int .i64 ay], .agg #[.int .i64 bx, .int .i64 by']] w fun e w' => e = .returned (.int .i64 (crossM ax ay bx by')) ∧ Below w.heap.size w w' := by
  obtain ⟨l1, u1⟩ := h1.mul h4
  obtain ⟨l2, u2⟩ := h2.mul h3
  clear h1 h2 h3 h4
  go_enter Try.func53, Try.ntmps53
  go_wp2
  go_ret
  exact ⟨rfl, ((Below.refl _ _).alloc (Nat.le_refl _) _).alloc (by simp) _⟩

end Go.Proofs.Ytnkcbephceollaa
