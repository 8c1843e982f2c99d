import Derived.Test.YtnkcbephceollaaQ0
import Derived.RegionTactic
import Derived.BigRegion
import Derived.Deep.QuietTactic
import Derived.BigQuiet
import Derived.OpenShut
namespace Go.Proofs.Ytnkcbephceollaa
open Go.RowKit
set_option linter.unusedSimpArgs false
set_option linter.unusedVariables false

/-- Three cells of a new block are written. -/
theorem below_set3 {w w1 : World} {b o : Nat} {x y z : Value} (h : Below w.heap.size w w1) (hb : w.heap.size ≤ b) :
    Below w.heap.size w (((w1.setCell ⟨b, o, none⟩ x).setCell ⟨b, o + 1, none⟩ y).setCell ⟨b, o + 2, none⟩ z) :=
  ((h.setCell hb _).setCell hb _).setCell hb _
theorem below3 (w : World) (x y z : Obj) : Below w.heap.size w (((w.alloc x).alloc y).alloc z) :=
  (((Below.refl _ _).alloc (Nat.le_refl _) _).alloc (by simp) _).alloc (by simp; omega) _

set_option maxHeartbeats 400000 in
theorem First_any (p q : Pt) (w : World) (hp : Gd p) (hq : Gd q) :
    Calls Try.prog 88 #[p.v, q.v] w fun e w' => e = .returned (firstM p q).v ∧ Below w.heap.size w w' := by
  by_cases h : cmpM q p < 0
  · have H : Hid (firstM p q = q) := if_pos h
    go_enter Try.func88, Try.ntmps88
    go_wp2_with fail
    refine (Compare_any q p _ hq hp).mono ?_
    rintro e w1 ⟨rfl, hb⟩
    have hz : w.heap.size + 2 < w1.heap.size := by have := hb.size; simp at this; omega
    obtain ⟨hc, hf⟩ := bcell hb
    go_wp2
    exact bodyPost_ret (v := q.v) (by simp [results, Try.results88, go_sem, hc, hz]) rfl ⟨by rw [H.out], below_set3 (o := 0) (bvia (below3 _ _ _ _) hb) (by omega)⟩
  · have H : Hid (firstM p q = p) := if_neg h
    go_enter Try.func88, Try.ntmps88
    go_wp2_with fail
    refine (Compare_any q p _ hq hp).mono ?_
    rintro e w1 ⟨rfl, hb⟩
    have hz : w.heap.size + 2 < w1.heap.size := by have := hb.size; simp at this; omega
    obtain ⟨hc, hf⟩ := bcell hb
    go_wp2
    exact bodyPost_ret (v := p.v) (by simp [results, Try.results88, go_sem, hc, hz]) rfl ⟨by rw [H.out], below_set3 (o := 0) (bvia (below3 _ _ _ _) hb) (by omega)⟩

set_option maxHeartbeats 400000 in
theorem Last_any (p q : Pt) (w : World) (hp : Gd p) (hq : Gd q) :
    Calls Try.prog 87 #[p.v, q.v] w fun e w' => e = .returned (lastM p q).v ∧ Below w.heap.size w w' := by
  by_cases h : 0 < cmpM q p
  · have H : Hid (lastM p q = q) := if_pos h
    go_enter Try.func87, Try.ntmps87
    go_wp2_with fail
    refine (Compare_any q p _ hq hp).mono ?_
    rintro e w1 ⟨rfl, hb⟩
    have hz : w.heap.size + 2 < w1.heap.size := by have := hb.size; simp at this; omega
    obtain ⟨hc, hf⟩ := bcell hb
    go_wp2
    exact bodyPost_ret (v := q.v) (by simp [results, Try.results87, go_sem, hc, hz]) rfl ⟨by rw [H.out], below_set3 (o := 0) (bvia (below3 _ _ _ _) hb) (by omega)⟩
  · have H : Hid (lastM p q = p) := if_neg h
    go_enter Try.func87, Try.ntmps87
    go_wp2_with fail
    refine (Compare_any q p _ hq hp).mono ?_
    rintro e w1 ⟨rfl, hb⟩
    have hz : w.heap.size + 2 < w1.heap.size := by have := hb.size; simp at this; omega
    obtain ⟨hc, hf⟩ := bcell hb
    go_wp2
    exact bodyPost_ret (v := p.v) (by simp [results, Try.results87, go_sem, hc, hz]) rfl ⟨by rw [H.out], below_set3 (o := 0) (bvia (below3 _ _ _ _) hb) (by omega)⟩

theorem tmod_lt_abs (a b : Int) (h : b ≠ 0) : (a.tmod b).natAbs < b.natAbs := by
  rw [Int.natAbs_tmod]; exact Nat.mod_lt _ (by omega)
theorem gcd_step (a b : Int) : Int.gcd b (a.tmod b) = Int.gcd a b := by
  unfold Int.gcd; rw [Int.natAbs_tmod, Nat.gcd_comm a.natAbs, Nat.gcd_rec b.natAbs a.natAbs, Nat.gcd_comm]
theorem gcd_end_pos {s g : Int} (h : gcdM s 0 = g) (h0 : 0 ≤ s) : s = g := by rw [← h]; unfold gcdM; simp; omega
theorem gcd_end_neg {s g : Int} (h : gcdM s 0 = g) (h0 : s < 0) : -s = g := by rw [← h]; unfold gcdM; simp; omega
theorem tmod_in {s t A : Int} (h : In t A) (h0 : t ≠ 0) : In (s.tmod t) A := by have := tmod_lt_abs s t h0; unfold In at *; omega

set_option maxHeartbeats 400000 in
theorem divisor_any (a b : Int) (w : World) (ha : In a 9223372036854775807) (hb : In b 9223372036854775807) :
    Calls Try.prog 89 #[.int .i64 a, .int .i64 b] w fun e w' => e = .returned (.int .i64 (gcdM a b)) ∧ Below w.heap.size w w' := by
  obtain ⟨la, ua⟩ := ha
  obtain ⟨lb, ub⟩ := hb
  go_enter Try.func89, Try.ntmps89
  go_wp2
  go_loopw [0, 1] (fun x y w' => ∃ s t : Int, x = .int .i64 s ∧ y = .int .i64 t ∧ Hid (gcdM s t = gcdM a b) ∧ -9223372036854775807 ≤ s ∧ s ≤ 9223372036854775807 ∧ -9223372036854775807 ≤ t ∧ t ≤ 9223372036854775807 ∧ Below w.heap.size w w') (fun _ y _ => (intOf y).natAbs)
  case atStart => exact ⟨a, b, rfl, rfl, rfl, la, ua, lb, ub, Below.refl _ _⟩
  case round =>
    obtain ⟨s, t, rfl, rfl, H, ls, us, lt, ut, hbel⟩ := hrel
    by_cases h : t = 0
    · subst h
      go_wp2
      · go_ret
        exact ⟨ret_int (gcd_end_neg H.out (by assumption)), hbel⟩
      · go_ret
        exact ⟨ret_int (gcd_end_pos H.out (by assumption)), hbel⟩
    · have h' : (t != 0) = true := by simpa using h
      have H2 : Hid (gcdM t (s.tmod t) = gcdM a b) := by
        have e : gcdM t (s.tmod t) = gcdM s t := by unfold gcdM; rw [gcd_step]
        exact e.trans H.out
      have hlt := tmod_lt_abs s t h
      obtain ⟨l2, u2⟩ := tmod_in (s := s) (In.mk lt ut) h
      clear H
      go_wp2
      go_quiet (fail)
      go_wp2
      go_roundw
      case rel => exact ⟨t, s.tmod t, rfl, rfl, H2, lt, ut, l2, u2, below_drewN hbel _⟩
      case measure => exact hlt
theorem tdiv_in {a g A : Int} (h : In a A) : In (a.tdiv g) A := by
  have h1 : (a.tdiv g).natAbs ≤ a.natAbs := by rw [Int.natAbs_tdiv]; exact Nat.div_le_self _ _
  unfold In at *; omega
theorem gcdM_nonneg (a b : Int) : 0 ≤ gcdM a b := by unfold gcdM; omega
theorem gcdM_in {a b A : Int} (h : In a A) (g : In b A) : In (gcdM a b) A := by
  have h0 := gcdM_nonneg a b
  have hA := h.nonneg
  refine ⟨by omega, ?_⟩
  unfold gcdM at *
  by_cases ha : a = 0
  · subst ha; simp; unfold In at *; omega
  · have := Int.gcd_le_natAbs_left (a := a) (b := b) ha; unfold In at *; omega
set_option maxHeartbeats 400000 in
theorem Least_any (p : Pt) (w : World) (hp : Gd p) :
    Calls Try.prog 70 #[p.v] w fun e w' => e = .returned (leastM p).v ∧ Below w.heap.size w w' := by
  have h0 := gcdM_nonneg (gcdM p.x p.y) p.d
  by_cases h : gcdM (gcdM p.x p.y) p.d = 0
  · have H : Hid (leastM p = p) := if_pos h
    have h' : (gcdM (gcdM p.x p.y) p.d == 0) = true := by simpa using h
    clear h
    go_enter Try.func70, Try.ntmps70
    go_wp2_with fail
    refine (divisor_any _ _ _ (hp.x.mono (by decide)) (hp.y.mono (by decide))).mono ?_
    rintro e w1 ⟨rfl, hb1⟩
    have hz1 : w.heap.size + 1 < w1.heap.size := by have := hb1.size; simp at this; omega
    have hy1 : w.heap.size < w1.heap.size := by omega
    obtain ⟨hc1, hf1⟩ := bcell hb1
    go_wp2_with fail
    refine (divisor_any _ _ _ ((gcdM_in (hp.x.mono (by decide)) (hp.y.mono (by decide)))) (hp.d.mono (by decide))).mono ?_
    rintro e w2 ⟨rfl, hb2⟩
    have hz2 : w.heap.size + 1 < w2.heap.size := Nat.lt_of_lt_of_le hz1 hb2.size
    obtain ⟨hc2, hf2⟩ := bcell hb2
    go_wp2
    exact bodyPost_ret (v := p.v) (by simp [results, Try.results70, go_sem, hc1, hz1, hc2, hz2, hy1]) rfl ⟨by rw [H.out], below_set3 (o := 0) (bvia (bvia (((Below.refl _ _).alloc (Nat.le_refl _) _).alloc (by simp) _) hb1) hb2) (by omega)⟩
  · have H : Hid (leastM p = ⟨p.x.tdiv (gcdM (gcdM p.x p.y) p.d), p.y.tdiv (gcdM (gcdM p.x p.y) p.d), p.d.tdiv (gcdM (gcdM p.x p.y) p.d)⟩) := if_neg h
    have h' : (gcdM (gcdM p.x p.y) p.d == 0) = false := by simpa using h
    have hpos : 0 < gcdM (gcdM p.x p.y) p.d := by omega
    obtain ⟨lx, ux⟩ := tdiv_in (g := gcdM (gcdM p.x p.y) p.d) hp.x
    obtain ⟨ly, uy⟩ := tdiv_in (g := gcdM (gcdM p.x p.y) p.d) hp.y
    obtain ⟨ld, ud⟩ := tdiv_in (g := gcdM (gcdM p.x p.y) p.d) hp.d
    clear h
    go_enter Try.func70, Try.ntmps70
    go_wp2_with fail
    refine (divisor_any _ _ _ (hp.x.mono (by decide)) (hp.y.mono (by decide))).mono ?_
    rintro e w1 ⟨rfl, hb1⟩
    have hz1 : w.heap.size + 1 < w1.heap.size := by have := hb1.size; simp at this; omega
    have hy1 : w.heap.size < w1.heap.size := by omega
    obtain ⟨hc1, hf1⟩ := bcell hb1
    go_wp2_with fail
    refine (divisor_any _ _ _ ((gcdM_in (hp.x.mono (by decide)) (hp.y.mono (by decide)))) (hp.d.mono (by decide))).mono ?_
    rintro e w2 ⟨rfl, hb2⟩
    have hz2 : w.heap.size + 1 < w2.heap.size := Nat.lt_of_lt_of_le hz1 hb2.size
    obtain ⟨hc2, hf2⟩ := bcell hb2
    go_wp2
    go_region
    go_wp2
    exact bodyPost_ret (v := Pt.v ⟨p.x.tdiv (gcdM (gcdM p.x p.y) p.d), p.y.tdiv (gcdM (gcdM p.x p.y) p.d), p.d.tdiv (gcdM (gcdM p.x p.y) p.d)⟩) (by simp [results, Try.results70, go_sem, hc1, hz1, hc2, hz2, hy1]) rfl ⟨by rw [H.out], (below_set3 (o := 0) (bvia (bvia (((Below.refl _ _).alloc (Nat.le_refl _) _).alloc (by simp) _) hb1) hb2) (by omega)).drew⟩

theorem below_set6 {w w1 : World} {b : Nat} {x0 x1 x2 x3 x4 x5 : Value} (h : Below w.heap.size w w1) (hb : w.heap.size ≤ b) :
    Below w.heap.size w ((((((w1.setCell ⟨b, 0, none⟩ x0).setCell ⟨b, 1, none⟩ x1).setCell ⟨b, 2, none⟩ x2).setCell ⟨b, 3, none⟩ x3).setCell ⟨b, 4, none⟩ x4).setCell ⟨b, 5, none⟩ x5) :=
  (((((h.setCell hb _).setCell hb _).setCell hb _).setCell hb _).setCell hb _).setCell hb _
end Go.Proofs.Ytnkcbephceollaa
namespace Go.Proofs.Ytnkcbephceollaa
open Go.RowKit
set_option linter.unusedSimpArgs false
set_option linter.unusedVariables false

/-- A block of the call's own: its cells, that they may be written, that it is there. -/
structure Blk (w : World) (b : Nat) (vs : Array Value) : Prop where
  cell : ∀ o, w.cell? ⟨b, o, none⟩ = vs[o]?
  free : ∀ o, w.frozen? ⟨b, o, none⟩ = false
  lt : b < w.heap.size
theorem Blk.new (w : World) (vs : Array Value) (t : TypeId) : Blk (w.alloc (.cells vs t)) w.heap.size vs :=
  ⟨fun o => World.cell?_alloc_at vs t _ o rfl, fun o => World.frozen?_alloc_at vs t _ o rfl, by simp⟩
theorem Blk.at (b : Nat) {w : World} {vs : Array Value} {t : TypeId} (h : b = w.heap.size) : Blk (w.alloc (.cells vs t)) b vs := h ▸ Blk.new w vs t
theorem Blk.alloc {w : World} {b : Nat} {vs : Array Value} (h : Blk w b vs) (o : Obj) : Blk (w.alloc o) b vs :=
  ⟨fun i => (World.cell?_alloc_past o b i h.lt).trans (h.cell i), fun i => (World.frozen?_alloc_past o b i h.lt).trans (h.free i), by have := h.lt; simp; omega⟩
theorem Blk.call {w w' : World} {b : Nat} {vs : Array Value} (h : Blk w b vs) (hb : Below w.heap.size w w') : Blk w' b vs :=
  ⟨fun i => (hb.cell (p := ⟨b, i, none⟩) h.lt).trans (h.cell i), fun i => (hb.frozen (p := ⟨b, i, none⟩) h.lt).trans (h.free i), Nat.lt_of_lt_of_le h.lt hb.size⟩

end Go.Proofs.Ytnkcbephceollaa
namespace Go.Proofs.Ytnkcbephceollaa
open Go.RowKit
set_option linter.unusedSimpArgs false
set_option linter.unusedVariables false

theorem Blk.set {w : World} {b : Nat} {vs : Array Value} (h : Blk w b vs) (i : Nat) (hi : i < vs.size) (x : Value) : Blk (w.setCell ⟨b, i, none⟩ x) b (vs.setIfInBounds i x) := by
  refine ⟨fun o => ?_, fun o => ?_, ?_⟩
  · rw [Array.getElem?_setIfInBounds]
    by_cases e : i = o
    · subst e
      rw [if_pos rfl, if_pos hi]
      have hc := h.cell i
      rw [Array.getElem?_eq_getElem hi] at hc
      simp [go_sem, hc]
    · rw [if_neg e, ← h.cell o]
      have : ((⟨b, i, none⟩ : Addr) = ⟨b, o, none⟩) = False := by simp [e]
      simp [go_sem, this, e, Ne.symm e]
  · simp [go_sem, h.free o]
  · simpa using h.lt

theorem Blk.drew {w : World} {b : Nat} {vs : Array Value} (h : Blk w b vs) : Blk w.drew b vs := ⟨h.cell, h.free, h.lt⟩
theorem Blk.off {w : World} {b : Nat} {vs : Array Value} (h : Blk w b vs) {p : Nat} (hne : b ≠ p) (i : Nat) (x : Value) : Blk (w.setCell ⟨p, i, none⟩ x) b vs :=
  ⟨fun o => (World.cell?_of_block (w := w) (Below.heap_setCell w ⟨p, i, none⟩ x b hne)).trans (h.cell o), fun o => by simpa using h.free o, by simpa using h.lt⟩
theorem Blk.off3 {w : World} {b : Nat} {vs : Array Value} (h : Blk w b vs) {p : Nat} (hne : b ≠ p) (x y z : Value) : Blk (((w.setCell ⟨p, 0, none⟩ x).setCell ⟨p, 1, none⟩ y).setCell ⟨p, 2, none⟩ z) b vs :=
  ((h.off hne 0 x).off hne 1 y).off hne 2 z
theorem Blk.put3 {w : World} {p : Nat} {x y z x' y' z' : Value} (h : Blk w p #[x, y, z]) : Blk (((w.setCell ⟨p, 0, none⟩ x').setCell ⟨p, 1, none⟩ y').setCell ⟨p, 2, none⟩ z') p #[x', y', z'] :=
  ((h.set 0 (by simp) x').set 1 (by simp) y').set 2 (by simp) z'
theorem hide {p : Prop} (h : p) : Hid p := h

end Go.Proofs.Ytnkcbephceollaa
namespace Go.Proofs.Ytnkcbephceollaa
open Go.RowKit
set_option linter.unusedSimpArgs false
set_option linter.unusedVariables false

/-- A slice of integers that came in: nil, or a row of cells. -/
def IsRow (k : IntKind) (w : World) (a : Option Addr) (len cap : Nat) (zs : List Int) : Prop :=
  (a = none ∧ len = 0 ∧ cap = 0 ∧ zs = []) ∨
  ∃ x, a = some x ∧ len ≤ cap ∧ cap ≤ maxLen ∧ zs.length = cap ∧ (∀ i, i < zs.length → w.cell? (x.add i) = some (.int k (zs.getD i 0))) ∧ ∀ n ∈ zs, (Lit.int k n).wf = true

/-- An int's numbers. -/
structure I64 (n : Int) : Prop where
  lo : -9223372036854775808 ≤ n
  hi : n ≤ 9223372036854775807

theorem row_at {w : World} {a0 : Option Addr} {len0 cap0 : Nat} {z0 : List Int} (w0 : IsRow .i64 w a0 len0 cap0 z0) (k : Nat) (hk : k < len0) :
    ∃ b off n, a0 = some ⟨b, off, none⟩ ∧ b < w.heap.size ∧ w.cell? ⟨b, off + k, none⟩ = some (.int .i64 n) ∧ I64 n := by
  rcases w0 with ⟨_, rfl, _, _⟩ | ⟨x, rfl, hl, hm, hz, hcell, hwz⟩
  · omega
  · obtain ⟨b, off, rfl, hc⟩ := ints_at hcell (by omega)
    have hc0 := hc k (by omega)
    have hr := range_i64 hwz k
    refine ⟨b, off, z0.getD k 0, rfl, World.block_lt_of_cell? _ _ hc0, hc0, ?_⟩
    rw [List.getD_eq_getElem?_getD]
    exact ⟨hr.1, hr.2⟩
theorem row_len {w : World} {a0 : Option Addr} {len0 cap0 : Nat} {z0 : List Int} (w0 : IsRow .i64 w a0 len0 cap0 z0) : len0 ≤ 9223372036854775807 := by
  rcases w0 with ⟨_, rfl, _, _⟩ | ⟨x, _, h1, h2, _⟩
  · omega
  · unfold maxLen at h2; omega

def Ints (vs : Array Value) : Prop := ∀ (j : Nat) (v : Value), vs[j]? = some v → ∃ n, v = .int .i64 n ∧ I64 n
theorem ints_zero (k : Nat) : Ints (Array.replicate k (.int .i64 0)) := by
  intro j v h
  rw [Array.getElem?_replicate] at h
  split at h
  · cases h; exact ⟨0, rfl, by omega, by omega⟩
  · cases h
theorem ints_set {vs : Array Value} (h : Ints vs) (i : Nat) {n : Int} (hn : I64 n) : Ints (vs.setIfInBounds i (.int .i64 n)) := by
  intro j v g
  rw [Array.getElem?_setIfInBounds] at g
  split at g
  · split at g
    · cases g; exact ⟨n, rfl, hn⟩
    · cases g
  · exact h j v g
theorem ints_4 {vs : Array Value} (h : Ints vs) (hs : vs.size = 4) : ∃ n0 n1 n2 n3 : Int, vs = #[.int .i64 n0, .int .i64 n1, .int .i64 n2, .int .i64 n3] ∧ I64 n0 ∧ I64 n1 ∧ I64 n2 ∧ I64 n3 := by
  obtain ⟨l⟩ := vs
  match l, hs with
  | [a, b, c, d], _ =>
    obtain ⟨n0, rfl, h0⟩ := h 0 a rfl
    obtain ⟨n1, rfl, h1⟩ := h 1 b rfl
    obtain ⟨n2, rfl, h2⟩ := h 2 c rfl
    obtain ⟨n3, rfl, h3⟩ := h 3 d rfl
    exact ⟨n0, n1, n2, n3, rfl, h0, h1, h2, h3⟩
end Go.Proofs.Ytnkcbephceollaa
/- Plain mathematics of Meet: what Swung asks. -/
namespace Go.Proofs.Ytnkcbephceollaa
set_option linter.unusedSimpArgs false
set_option linter.unusedVariables false

def sidesM (m n : Int) : Int := if m = 0 ∨ n = 0 then 0 else if (decide (m < 0) == decide (n < 0)) = true then 1 else -1
theorem sides_0 {m n : Int} (h : m = 0 ∨ n = 0) : sidesM m n = 0 := if_pos h
theorem sides_1 {m n : Int} (h0 : ¬ (m = 0 ∨ n = 0)) (h : (decide (m < 0) == decide (n < 0)) = true) : sidesM m n = 1 := (if_neg h0).trans (if_pos h)
theorem sides_2 {m n : Int} (h0 : ¬ (m = 0 ∨ n = 0)) (h : ¬ (decide (m < 0) == decide (n < 0)) = true) : sidesM m n = -1 := (if_neg h0).trans (if_neg h)
def holdsB (a b p : Pt) : Bool := detM a b p == 0 && !(befB p a && befB p b) && !(befB a p && befB b p)

/-- When two of them are on one side. -/
theorem sides_one (m n : Int) : sidesM m n = 1 ↔ (m < 0 ∧ n < 0 ∨ 0 < m ∧ 0 < n) := by
  unfold sidesM
  split
  · omega
  · split
    · rename_i h1 h2
      simp at h2
      omega
    · rename_i h1 h2
      simp at h2
      omega

theorem bef_iff (p q : Pt) : befB p q = true ↔ (p.x * q.d < q.x * p.d ∨ (p.x * q.d = q.x * p.d ∧ p.y * q.d < q.y * p.d)) := by
  unfold befB
  split
  · simp; omega
  · simp; omega
theorem holds_iff (a b p : Pt) : holdsB a b p = true ↔ detM a b p = 0 ∧ ¬ (befB p a = true ∧ befB p b = true) ∧ ¬ (befB a p = true ∧ befB b p = true) := by
  unfold holdsB
  simp only [Bool.and_eq_true, beq_iff_eq, Bool.not_eq_true', Bool.and_eq_false_iff]
  cases befB p a <;> cases befB p b <;> cases befB a p <;> cases befB b p <;> simp

/-! The four determinants. -/
theorem w_mn {a b c d : Pt} (ha : a.d = 1) (hb : b.d = 1) (hc : c.d = 1) (hd : d.d = 1) : crossM (b.x - a.x) (b.y - a.y) (d.x - c.x) (d.y - c.y) = detM a b d - detM a b c := by
  unfold crossM detM; rw [ha, hb, hc, hd]; grind
theorem w_pq {a b c d : Pt} (ha : a.d = 1) (hb : b.d = 1) (hc : c.d = 1) (hd : d.d = 1) : crossM (b.x - a.x) (b.y - a.y) (d.x - c.x) (d.y - c.y) = detM c d a - detM c d b := by
  unfold crossM detM; rw [ha, hb, hc, hd]; grind
theorem s_p {a c d : Pt} (ha : a.d = 1) (hc : c.d = 1) (hd : d.d = 1) : crossM (c.x - a.x) (c.y - a.y) (d.x - c.x) (d.y - c.y) = detM c d a := by
  unfold crossM detM; rw [ha, hc, hd]; grind
theorem t_m {a b c : Pt} (ha : a.d = 1) (hb : b.d = 1) (hc : c.d = 1) : crossM (c.x - a.x) (c.y - a.y) (b.x - a.x) (b.y - a.y) = - detM a b c := by
  unfold crossM detM; rw [ha, hb, hc]; grind
theorem par_m {a b c : Pt} (ha : a.d = 1) (hb : b.d = 1) (hc : c.d = 1) : crossM (b.x - a.x) (b.y - a.y) (c.x - a.x) (c.y - a.y) = detM a b c := by
  unfold crossM detM; rw [ha, hb, hc]; grind

def norm (x y w : Int) : Pt := if w < 0 then ⟨-x, -y, -w⟩ else ⟨x, y, w⟩
theorem norm_neg {x y w : Int} (h : w ≠ 0) : norm (-x) (-y) (-w) = norm x y w := by
  unfold norm
  by_cases g : w < 0
  · rw [if_neg (by omega), if_pos g]
  · rw [if_pos (by omega), if_neg g]; simp
/-- They meet. -/
def goodM (w m n p q : Int) : Prop := w < 0 ∧ p ≤ 0 ∧ 0 ≤ q ∧ 0 ≤ m ∧ n ≤ 0 ∨ 0 < w ∧ 0 ≤ p ∧ q ≤ 0 ∧ m ≤ 0 ∧ 0 ≤ n

theorem across_good {a b c d : Pt} (ha : a.d = 1) (hb : b.d = 1) (hc : c.d = 1) (hd : d.d = 1) (hw : detM a b d - detM a b c ≠ 0)
    (g : goodM (detM a b d - detM a b c) (detM a b c) (detM a b d) (detM c d a) (detM c d b)) :
    acrossM a b c d = ⟨1, leastM (norm (a.x * (detM a b d - detM a b c) + (b.x - a.x) * detM c d a) (a.y * (detM a b d - detM a b c) + (b.y - a.y) * detM c d a) (detM a b d - detM a b c)), zP⟩ := by
  have e1 := w_mn ha hb hc hd
  have e2 := w_pq ha hb hc hd
  have e3 := s_p ha hc hd
  have e4 := t_m ha hb hc
  unfold acrossM
  simp only [e3, e4]
  rw [e1] at e2 ⊢
  generalize detM a b c = m at *
  generalize detM a b d = n at *
  generalize detM c d a = p at *
  generalize detM c d b = q at *
  unfold norm goodM at *
  by_cases h : n - m < 0
  · simp only [if_pos h]
    rw [if_neg (by omega)]
    simp [Int.mul_neg, Int.neg_add]
  · simp only [if_neg h]
    rw [if_neg (by omega)]
theorem across_bad {a b c d : Pt} (ha : a.d = 1) (hb : b.d = 1) (hc : c.d = 1) (hd : d.d = 1) (hw : detM a b d - detM a b c ≠ 0)
    (g : ¬ goodM (detM a b d - detM a b c) (detM a b c) (detM a b d) (detM c d a) (detM c d b)) : acrossM a b c d = zM := by
  have e1 := w_mn ha hb hc hd
  have e2 := w_pq ha hb hc hd
  have e3 := s_p ha hc hd
  have e4 := t_m ha hb hc
  unfold acrossM
  simp only [e3, e4]
  rw [e1] at e2 ⊢
  generalize detM a b c = m at *
  generalize detM a b d = n at *
  generalize detM c d a = p at *
  generalize detM c d b = q at *
  unfold goodM at *
  by_cases h : n - m < 0
  · simp only [if_pos h]
    rw [if_pos (by omega)]
  · simp only [if_neg h]
    rw [if_pos (by omega)]

end Go.Proofs.Ytnkcbephceollaa
