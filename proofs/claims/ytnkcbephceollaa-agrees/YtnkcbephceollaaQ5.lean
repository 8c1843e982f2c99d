import Derived.Test.YtnkcbephceollaaQ4
import Derived.Test.YtnkcbephceollaaProg
import Derived.Test.YtnkcbephceollaaQ0
import Derived.WalkKit
import Derived.Below
import Derived.WalkSpells
import Derived.WalkLawsBesides
import Derived.RegionTactic
import Derived.BigRegion
import Derived.Deep.QuietTactic
import Derived.BigQuiet
namespace Go.Proofs.Ytnkcbephceollaa
set_option linter.unusedSimpArgs false
set_option linter.unusedVariables false

theorem ringEdges_len (r : List Pt) : (ringEdges r).length = r.length := by simp [ringEdges]
/-- A little more room than a good point's numbers have. -/
structure Gw (p : Pt) : Prop where
  x : In p.x 2200000
  y : In p.y 2200000
  d : In p.d 32768
theorem Gd.gw {p : Pt} (h : Gd p) : Gw p := ⟨h.x.mono (by decide), h.y.mono (by decide), h.d⟩
theorem gd_of_good {p : Pt} (h : goodB p = true) : Gd p ∧ 0 < p.d := by
  have := of_decide_eq_true h
  exact ⟨⟨⟨by omega, by omega⟩, ⟨by omega, by omega⟩, ⟨by omega, by omega⟩⟩, by omega⟩
/-- The places far outside. -/
def outP (k : Nat) : Pt := ⟨-65, k, 1⟩
def freeB (q : Pt) (l : List Pt) (ea eb : Pt) (k : Nat) : Bool := l.all (fun v => decide (detM (outP k) q v ≠ 0)) && decide (detM ea eb (outP k) ≠ 0)
def farL (f : Nat → Bool) : Nat → Nat → Pt
  | 0, _ => outP 0
  | n + 1, k => if f k then outP k else farL f n (k + 1)
def farM (q : Pt) (l : List Pt) (ea eb : Pt) : Pt := farL (freeB q l ea eb) (l.length + 2) 0
theorem outP_gw (k : Nat) (h : k ≤ 2200000) : Gw (outP k) := ⟨⟨by simp [outP], by simp [outP]⟩, ⟨by simp [outP] <;> omega, by simp [outP] <;> omega⟩, ⟨by simp [outP], by simp [outP]⟩⟩
theorem all_take {α : Type} (f : α → Bool) (l : List α) (i : Nat) (hi : i < l.length) (d : α) : (l.take (i + 1)).all f = ((l.take i).all f && f (l.getD i d)) := by
  rw [List.take_succ_eq_append_getElem hi, List.all_append]
  simp [List.getD_eq_getElem?_getD, List.getElem?_eq_getElem hi]
theorem farL_step (f : Nat → Bool) (n k : Nat) (h : k < n) : farL f (n - k) k = if f k then outP k else farL f (n - (k + 1)) (k + 1) := by
  have e : n - k = (n - (k + 1)) + 1 := by omega
  rw [e]; rfl
theorem getD_mem {α : Type} {l : List α} {i : Nat} (h : i < l.length) (d : α) : l.getD i d ∈ l := by
  rw [List.getD_eq_getElem?_getD, List.getElem?_eq_getElem h]; exact List.getElem_mem h
def nCross (o q : Pt) (E : List (Pt × Pt)) : Nat := E.countP (fun e => crossB o q e.1 e.2)
theorem nCross_take (o q : Pt) (E : List (Pt × Pt)) (i : Nat) (hi : i < E.length) : nCross o q (E.take (i + 1)) = nCross o q (E.take i) + (if crossB o q (E.getD i (zP, zP)).1 (E.getD i (zP, zP)).2 = true then 1 else 0) := by
  unfold nCross
  rw [List.take_succ_eq_append_getElem hi, List.countP_append]
  simp [List.getD_eq_getElem?_getD, List.getElem?_eq_getElem hi, List.countP_cons]
theorem nCross_le (o q : Pt) (E : List (Pt × Pt)) : nCross o q E ≤ E.length := List.countP_le_length
/-- A place to the right of q, by 1. -/
def rightP (q : Pt) : Pt := ⟨q.x + q.d, q.y, q.d⟩
/-- Where the place lies, as the document reckons. -/
def rlocM (P : List (List Pt)) (q : Pt) : Int :=
  if (edgesM P).any (fun e => onB q e.1 e.2) = true then 2
  else if nCross (farM q P.flatten q (rightP q)) q (edgesM P) % 2 = 1 then 1 else 0
theorem farL_out (f : Nat → Bool) : ∀ n k, ∃ j, j ≤ n + k ∧ farL f n k = outP j
  | 0, k => ⟨0, Nat.zero_le _, rfl⟩
  | n + 1, k => by
    unfold farL
    split
    · exact ⟨k, by omega, rfl⟩
    · obtain ⟨j, hj, e⟩ := farL_out f n (k + 1)
      exact ⟨j, by omega, e⟩
theorem gw_right {q : Pt} (h : goodB q = true) : Gw (rightP q) := by
  have := of_decide_eq_true h
  exact ⟨⟨by simp [rightP]; omega, by simp [rightP]; omega⟩, ⟨by simp [rightP]; omega, by simp [rightP]; omega⟩, ⟨by simp [rightP]; omega, by simp [rightP]; omega⟩⟩
theorem edges_mem {P : List (List Pt)} {e : Pt × Pt} (h : e ∈ edgesM P) : e.1 ∈ P.flatten ∧ e.2 ∈ P.flatten := edge_ends h
theorem ring_firsts (r : List Pt) : (ringEdges r).map (·.1) = r := by
  apply List.ext_getElem
  · simp [ringEdges]
  · intro j h1 h2
    simp [ringEdges, edgeAt, List.getD_eq_getElem?_getD, List.getElem?_eq_getElem h2]
theorem edges_firsts (P : List (List Pt)) : (edgesM P).map (·.1) = P.flatten := by
  unfold edgesM
  induction P with
  | nil => rfl
  | cons r P ih => simp [ring_firsts, ih]
theorem all_firsts (P : List (List Pt)) : (edgesM P).all (fun e => goodB e.1) = P.flatten.all goodB := by
  rw [← edges_firsts, List.all_map]; rfl
theorem first_edge {P : List (List Pt)} {v : Pt} (h : v ∈ P.flatten) : ∃ e ∈ edgesM P, e.1 = v := by
  rw [← edges_firsts] at h
  obtain ⟨e, he, rfl⟩ := List.mem_map.1 h
  exact ⟨e, he, rfl⟩
theorem findM_none {α : Type} (f : α → Bool) : ∀ (l : List α) (i : Int), 0 ≤ i → findM f i l = -1 → ∀ x ∈ l, f x = false
  | [], _, _, _, _, hx => by cases hx
  | y :: l, i, hi, h, x, hx => by
    simp only [findM] at h
    split at h
    · omega
    · rename_i hy
      rcases List.mem_cons.1 hx with rfl | hx
      · simpa using hy
      · exact findM_none f l (i + 1) (by omega) h x hx
theorem edge_second (P : List (List Pt)) (e : Pt × Pt) (he : e ∈ edgesM P) : ∃ e' ∈ edgesM P, e'.1 = e.2 := by
  unfold edgesM at *
  obtain ⟨r, hr, h⟩ := List.mem_flatMap.1 he
  obtain ⟨j, hj, rfl⟩ := List.mem_map.1 h
  have hj' : j < r.length := by simpa using hj
  refine ⟨edgeAt r (if j + 1 = r.length then 0 else j + 1), List.mem_flatMap.2 ⟨r, hr, List.mem_map.2 ⟨_, by simp; split <;> omega, rfl⟩⟩, rfl⟩
theorem badM_none : ∀ (P : List (List Pt)) (room i : Int), 0 ≤ i → badM room i P = -1 → 0 ≤ room → ((edgesM P).length : Int) ≤ room
  | [], room, _, _, _, hr => by simp [edgesM]; omega
  | r :: P, room, i, hi, h, hr => by
    simp only [badM] at h
    split at h
    · omega
    · rename_i hb
      have ih := badM_none P (room - r.length) (i + 1) (by omega) h (by omega)
      have e : (edgesM (r :: P)).length = r.length + (edgesM P).length := by simp [edgesM, ringEdges_len]
      rw [e]; omega
theorem edgesM_len (P : List (List Pt)) : (edgesM P).length = P.flatten.length := by
  unfold edgesM
  induction P with
  | nil => rfl
  | cons r P ih => simp [ringEdges_len, ih]
theorem gr_of {p : Pt} (h : gridB p = true) : Gr p := by
  have := of_decide_eq_true h
  exact ⟨In.mk this.2.1 this.2.2.1, In.mk this.2.2.2.1 this.2.2.2.2, this.1⟩
end Go.Proofs.Ytnkcbephceollaa
namespace Go.Proofs.Ytnkcbephceollaa
open Go.RowKit
set_option linter.unusedSimpArgs false
set_option linter.unusedVariables false

/-- Old cells and old marks, over a world that has only grown. -/
theorem bcell {W w1 : World} (hb : Below W.heap.size W w1) : (∀ b o, b < W.heap.size → w1.cell? ⟨b, o, none⟩ = W.cell? ⟨b, o, none⟩) ∧ (∀ b o, b < W.heap.size → w1.frozen? ⟨b, o, none⟩ = W.frozen? ⟨b, o, none⟩) :=
  ⟨fun b o h => hb.cell (p := ⟨b, o, none⟩) h, fun b o h => hb.frozen (p := ⟨b, o, none⟩) h⟩
theorem bvia {w W w1 : World} (h : Below w.heap.size w W) (hb : Below W.heap.size W w1) : Below w.heap.size w w1 := h.trans (hb.mono h.size)
theorem ret_int {k : IntKind} {a b : Int} (h : a = b) : Ending.returned (.int k a) = .returned (.int k b) := by rw [h]
theorem ret_bool {a b : Bool} (h : a = b) : Ending.returned (.bool a) = .returned (.bool b) := by rw [h]
theorem wrap_in {a A : Int} (h : In a A) (g : A ≤ 9223372036854775807) : wrap64 a = a := IntWalk.wrap64_in a (by unfold In at h; omega)

abbrev I (n : Int) : Value := .int .i64 n
abbrev Pt.v (p : Pt) : Value := .agg #[.int .i64 p.x, .int .i64 p.y, .int .i64 p.d]
abbrev sg (a b : Pt) : Value := .agg #[.int .i64 a.x, .int .i64 a.y, .int .i64 a.d, .int .i64 b.x, .int .i64 b.y, .int .i64 b.d]
abbrev Mt.v (m : Mt) : Value := .agg #[.int .i64 m.k, .int .i64 m.p.x, .int .i64 m.p.y, .int .i64 m.p.d, .int .i64 m.q.x, .int .i64 m.q.y, .int .i64 m.q.d]

set_option maxHeartbeats 1000000 in
theorem IsGood_any (p : Pt) (w : World) :
    Calls Try.prog 51 #[p.v] w fun e w' => e = .returned (.bool (goodB p)) ∧ Below w.heap.size w w' := by
  by_cases h1 : p.d < 1
  · go_enter Try.func51, Try.ntmps51
    go_wp2
    all_goals
      go_ret
      refine ⟨ret_bool ?_, (Below.refl _ _).alloc (Nat.le_refl _) _⟩
      simp_all [goodB]
      try omega
  by_cases h2 : 32768 < p.d
  · go_enter Try.func51, Try.ntmps51
    go_wp2
    all_goals
      go_ret
      refine ⟨ret_bool ?_, (Below.refl _ _).alloc (Nat.le_refl _) _⟩
      simp_all [goodB]
      try omega
  go_enter Try.func51, Try.ntmps51
  go_wp2
  all_goals
    go_ret
    refine ⟨ret_bool ?_, (Below.refl _ _).alloc (Nat.le_refl _) _⟩
    first | (simp_all [goodB]; done) | (simp_all [goodB]; omega)

set_option maxHeartbeats 400000 in
theorem IsGrid_any (p : Pt) (w : World) :
    Calls Try.prog 40 #[p.v] w fun e w' => e = .returned (.bool (gridB p)) ∧ Below w.heap.size w w' := by
  by_cases h : p.d = 1
  · have H : Hid (goodB p = gridB p) := grid_of p h
    have h' : (p.d != 1) = false := by simpa using h
    clear h
    go_enter Try.func40, Try.ntmps40
    go_wp2_with fail
    refine (IsGood_any p _).mono ?_
    rintro e w1 ⟨rfl, k⟩
    have B1 := bvia ((Below.refl _ _).alloc (Nat.le_refl _) _) k
    clear k
    go_wp2
    go_ret
    exact ⟨ret_bool H.out, B1⟩
  · have H : Hid (gridB p = false) := grid_no p h
    have h' : (p.d != 1) = true := by simpa using h
    clear h
    go_enter Try.func40, Try.ntmps40
    go_wp2
    go_ret
    exact ⟨ret_bool H.out.symm, (Below.refl _ _).alloc (Nat.le_refl _) _⟩

theorem side_eq (a b c : Pt) : (a.y * b.d - b.y * a.d) * c.x + (b.x * a.d - a.x * b.d) * c.y + (a.x * b.y - b.x * a.y) * c.d = detM a b c := by unfold detM; grind
set_option maxHeartbeats 400000 in
theorem Side_any (a b c : Pt) (w : World) (ha : Gd a) (hb : Gd b) (hc : Gd c) :
    Calls Try.prog 84 #[a.v, b.v, c.v] w fun e w' => e = .returned (.int .i64 (detM a b c)) ∧ Below w.heap.size w w' := by
  have e : wrap64 (wrap64 (wrap64 (wrap64 (wrap64 (a.y * b.d) - wrap64 (b.y * a.d)) * c.x) + wrap64 (wrap64 (wrap64 (b.x * a.d) - wrap64 (a.x * b.d)) * c.y)) + wrap64 (wrap64 (wrap64 (a.x * b.y) - wrap64 (b.x * a.y)) * c.d)) = detM a b c := by
    rw [← side_eq]
    have i1 := (ha.y.mul hb.d).sub (hb.y.mul ha.d)
    have i2 := (hb.x.mul ha.d).sub (ha.x.mul hb.d)
    have i3 := (ha.x.mul hb.y).sub (hb.x.mul ha.y)
    rw [wrap_in (ha.y.mul hb.d) (by decide), wrap_in (hb.y.mul ha.d) (by decide), wrap_in (hb.x.mul ha.d) (by decide), wrap_in (ha.x.mul hb.d) (by decide), wrap_in (ha.x.mul hb.y) (by decide), wrap_in (hb.x.mul ha.y) (by decide),
      wrap_in i1 (by decide), wrap_in i2 (by decide), wrap_in i3 (by decide), wrap_in (i1.mul hc.x) (by decide), wrap_in (i2.mul hc.y) (by decide), wrap_in (i3.mul hc.d) (by decide),
      wrap_in ((i1.mul hc.x).add (i2.mul hc.y)) (by decide), wrap_in (((i1.mul hc.x).add (i2.mul hc.y)).add (i3.mul hc.d)) (by decide)]
  have E := e
  clear e ha hb hc
  have H : Hid (wrap64 (wrap64 (wrap64 (wrap64 (wrap64 (a.y * b.d) - wrap64 (b.y * a.d)) * c.x) + wrap64 (wrap64 (wrap64 (b.x * a.d) - wrap64 (a.x * b.d)) * c.y)) + wrap64 (wrap64 (wrap64 (a.x * b.y) - wrap64 (b.x * a.y)) * c.d)) = detM a b c) := E
  clear E
  go_enter Try.func84, Try.ntmps84
  go_wp2
  go_ret
  exact ⟨ret_int H.out, (((Below.refl _ _).alloc (Nat.le_refl _) _).alloc (by simp) _).alloc (by simp; omega) _⟩

def eqP (p q : Pt) : Bool := decide (p.x = q.x ∧ p.y = q.y ∧ p.d = q.d)
theorem eqP_true {p q : Pt} (h : eqP p q = true) : p = q := by have := of_decide_eq_true h; exact Pt.ext' this.1 this.2.1 this.2.2
theorem eqP_false {p q : Pt} (h : eqP p q = false) : p ≠ q := by intro e; subst e; simp [eqP] at h
theorem eql_pt (x y d x' y' d' : Int) (w : World) : (binOp .eql 25 (.agg #[.int .i64 x, .int .i64 y, .int .i64 d]) (.agg #[.int .i64 x', .int .i64 y', .int .i64 d'])).run Try.prog w = .ok (.bool (eqP ⟨x, y, d⟩ ⟨x', y', d'⟩)) w := by
  by_cases h1 : x = x'
  · by_cases h2 : y = y'
    · by_cases h3 : d = d' <;> simp [go_sem, eqP, h1, h2, h3]
    · simp [go_sem, eqP, h1, h2]
  · simp [go_sem, eqP, h1]
set_option maxHeartbeats 400000 in
theorem IsEmpty_any (a b : Pt) (w : World) :
    Calls Try.prog 41 #[sg a b] w fun e w' => e = .returned (.bool (eqP a b)) ∧ Below w.heap.size w w' := by
  have heq := eql_pt
  go_enter Try.func41, Try.ntmps41
  go_wp2
  go_ret
  exact ⟨rfl, (Below.refl _ _).alloc (Nat.le_refl _) _⟩

set_option maxHeartbeats 400000 in
theorem Compare_any (p q : Pt) (w : World) (hp : Gd p) (hq : Gd q) :
    Calls Try.prog 82 #[p.v, q.v] w fun e w' => e = .returned (.int .i64 (cmpM p q)) ∧ Below w.heap.size w w' := by
  obtain ⟨l1, u1⟩ := hp.x.mul hq.d
  obtain ⟨l2, u2⟩ := hq.x.mul hp.d
  obtain ⟨l3, u3⟩ := hp.y.mul hq.d
  obtain ⟨l4, u4⟩ := hq.y.mul hp.d
  clear hp hq
  by_cases h : (p.x * q.d - q.x * p.d != 0) = true
  · go_enter Try.func82, Try.ntmps82
    go_wp2
    go_ret
    exact ⟨ret_int (by unfold cmpM; rw [if_pos (by simpa using h)]), ((Below.refl _ _).alloc (Nat.le_refl _) _).alloc (by simp) _⟩
  · have h' : (p.x * q.d - q.x * p.d != 0) = false := by simpa using h
    clear h
    go_enter Try.func82, Try.ntmps82
    go_wp2
    go_ret
    exact ⟨ret_int (by unfold cmpM; rw [if_neg (by simpa using h')]), ((Below.refl _ _).alloc (Nat.le_refl _) _).alloc (by simp) _⟩

set_option maxHeartbeats 400000 in
theorem wayFrom_any (p q : Pt) (w : World) (hp : Gd p) (hq : Gd q) :
    Calls Try.prog 52 #[p.v, q.v] w fun e w' => e = .returned (.agg #[.int .i64 (q.x - p.x), .int .i64 (q.y - p.y)]) ∧ Below w.heap.size w w' := by
  obtain ⟨l1, u1⟩ := hp.x
  obtain ⟨l2, u2⟩ := hq.x
  obtain ⟨l3, u3⟩ := hp.y
  obtain ⟨l4, u4⟩ := hq.y
  clear hp hq
  go_enter Try.func52, Try.ntmps52
  go_wp2
  exact bodyPost_ret (v := .agg #[.int .i64 (q.x - p.x), .int .i64 (q.y - p.y)]) (by simp [results, Try.results52, go_sem]) rfl ⟨rfl, (((Below.refl _ _).alloc (Nat.le_refl _) _).alloc (by simp) _).alloc (by simp; omega) _⟩

set_option maxHeartbeats 400000 in
theorem cross_any (ax ay bx by' : Int) (w : World) (h1 : In ax 4194304) (h2 : In ay 4194304) (h3 : In bx 4194304) (h4 : In by' 4194304) :
    Calls Try.prog 53 #[.agg #[.int .i64 ax, .int .i64 ay], .agg #[.int .i64 bx, .int .i64 by']] w fun e w' => e = .returned (.int .i64 (crossM ax ay bx by')) ∧ Below w.heap.size w w' := by
  obtain ⟨l1, u1⟩ := h1.mul h4
  obtain ⟨l2, u2⟩ := h2.mul h3
  clear h1 h2 h3 h4
  go_enter Try.func53, Try.ntmps53
  go_wp2
  go_ret
  exact ⟨rfl, ((Below.refl _ _).alloc (Nat.le_refl _) _).alloc (by simp) _⟩

end Go.Proofs.Ytnkcbephceollaa
namespace Go.Proofs.Ytnkcbephceollaa
open Go.RowKit
set_option linter.unusedSimpArgs false
set_option linter.unusedVariables false

/-- Three cells of a new block are written. -/
theorem below_set3 {w w1 : World} {b o : Nat} {x y z : Value} (h : Below w.heap.size w w1) (hb : w.heap.size ≤ b) :
    Below w.heap.size w (((w1.setCell ⟨b, o, none⟩ x).setCell ⟨b, o + 1, none⟩ y).setCell ⟨b, o + 2, none⟩ z) :=
  ((h.setCell hb _).setCell hb _).setCell hb _
theorem below3 (w : World) (x y z : Obj) : Below w.heap.size w (((w.alloc x).alloc y).alloc z) :=
  (((Below.refl _ _).alloc (Nat.le_refl _) _).alloc (by simp) _).alloc (by simp; omega) _

set_option maxHeartbeats 400000 in
theorem First_any (p q : Pt) (w : World) (hp : Gd p) (hq : Gd q) :
    Calls Try.prog 88 #[p.v, q.v] w fun e w' => e = .returned (firstM p q).v ∧ Below w.heap.size w w' := by
  by_cases h : cmpM q p < 0
  · have H : Hid (firstM p q = q) := if_pos h
    go_enter Try.func88, Try.ntmps88
    go_wp2_with fail
    refine (Compare_any q p _ hq hp).mono ?_
    rintro e w1 ⟨rfl, hb⟩
    have hz : w.heap.size + 2 < w1.heap.size := by have := hb.size; simp at this; omega
    obtain ⟨hc, hf⟩ := bcell hb
    go_wp2
    exact bodyPost_ret (v := q.v) (by simp [results, Try.results88, go_sem, hc, hz]) rfl ⟨by rw [H.out], below_set3 (o := 0) (bvia (below3 _ _ _ _) hb) (by omega)⟩
  · have H : Hid (firstM p q = p) := if_neg h
    go_enter Try.func88, Try.ntmps88
    go_wp2_with fail
    refine (Compare_any q p _ hq hp).mono ?_
    rintro e w1 ⟨rfl, hb⟩
    have hz : w.heap.size + 2 < w1.heap.size := by have := hb.size; simp at this; omega
    obtain ⟨hc, hf⟩ := bcell hb
    go_wp2
    exact bodyPost_ret (v := p.v) (by simp [results, Try.results88, go_sem, hc, hz]) rfl ⟨by rw [H.out], below_set3 (o := 0) (bvia (below3 _ _ _ _) hb) (by omega)⟩

set_option maxHeartbeats 400000 in
theorem Last_any (p q : Pt) (w : World) (hp : Gd p) (hq : Gd q) :
    Calls Try.prog 87 #[p.v, q.v] w fun e w' => e = .returned (lastM p q).v ∧ Below w.heap.size w w' := by
  by_cases h : 0 < cmpM q p
  · have H : Hid (lastM p q = q) := if_pos h
    go_enter Try.func87, Try.ntmps87
    go_wp2_with fail
    refine (Compare_any q p _ hq hp).mono ?_
    rintro e w1 ⟨rfl, hb⟩
    have hz : w.heap.size + 2 < w1.heap.size := by have := hb.size; simp at this; omega
    obtain ⟨hc, hf⟩ := bcell hb
    go_wp2
    exact bodyPost_ret (v := q.v) (by simp [results, Try.results87, go_sem, hc, hz]) rfl ⟨by rw [H.out], below_set3 (o := 0) (bvia (below3 _ _ _ _) hb) (by omega)⟩
  · have H : Hid (lastM p q = p) := if_neg h
    go_enter Try.func87, Try.ntmps87
    go_wp2_with fail
    refine (Compare_any q p _ hq hp).mono ?_
    rintro e w1 ⟨rfl, hb⟩
    have hz : w.heap.size + 2 < w1.heap.size := by have := hb.size; simp at this; omega
    obtain ⟨hc, hf⟩ := bcell hb
    go_wp2
    exact bodyPost_ret (v := p.v) (by simp [results, Try.results87, go_sem, hc, hz]) rfl ⟨by rw [H.out], below_set3 (o := 0) (bvia (below3 _ _ _ _) hb) (by omega)⟩

theorem tmod_lt_abs (a b : Int) (h : b ≠ 0) : (a.tmod b).natAbs < b.natAbs := by
  rw [Int.natAbs_tmod]; exact Nat.mod_lt _ (by omega)
theorem gcd_step (a b : Int) : Int.gcd b (a.tmod b) = Int.gcd a b := by
  unfold Int.gcd; rw [Int.natAbs_tmod, Nat.gcd_comm a.natAbs, Nat.gcd_rec b.natAbs a.natAbs, Nat.gcd_comm]
theorem gcd_end_pos {s g : Int} (h : gcdM s 0 = g) (h0 : 0 ≤ s) : s = g := by rw [← h]; unfold gcdM; simp; omega
theorem gcd_end_neg {s g : Int} (h : gcdM s 0 = g) (h0 : s < 0) : -s = g := by rw [← h]; unfold gcdM; simp; omega
theorem tmod_in {s t A : Int} (h : In t A) (h0 : t ≠ 0) : In (s.tmod t) A := by have := tmod_lt_abs s t h0; unfold In at *; omega

set_option maxHeartbeats 400000 in
theorem divisor_any (a b : Int) (w : World) (ha : In a 9223372036854775807) (hb : In b 9223372036854775807) :
    Calls Try.prog 89 #[.int .i64 a, .int .i64 b] w fun e w' => e = .returned (.int .i64 (gcdM a b)) ∧ Below w.heap.size w w' := by
  obtain ⟨la, ua⟩ := ha
  obtain ⟨lb, ub⟩ := hb
  go_enter Try.func89, Try.ntmps89
  go_wp2
  go_loopw [0, 1] (fun x y w' => ∃ s t : Int, x = .int .i64 s ∧ y = .int .i64 t ∧ Hid (gcdM s t = gcdM a b) ∧ -9223372036854775807 ≤ s ∧ s ≤ 9223372036854775807 ∧ -9223372036854775807 ≤ t ∧ t ≤ 9223372036854775807 ∧ Below w.heap.size w w') (fun _ y _ => (intOf y).natAbs)
  case atStart => exact ⟨a, b, rfl, rfl, rfl, la, ua, lb, ub, Below.refl _ _⟩
  case round =>
    obtain ⟨s, t, rfl, rfl, H, ls, us, lt, ut, hbel⟩ := hrel
    by_cases h : t = 0
    · subst h
      go_wp2
      · go_ret
        exact ⟨ret_int (gcd_end_neg H.out (by assumption)), hbel⟩
      · go_ret
        exact ⟨ret_int (gcd_end_pos H.out (by assumption)), hbel⟩
    · have h' : (t != 0) = true := by simpa using h
      have H2 : Hid (gcdM t (s.tmod t) = gcdM a b) := by
        have e : gcdM t (s.tmod t) = gcdM s t := by unfold gcdM; rw [gcd_step]
        exact e.trans H.out
      have hlt := tmod_lt_abs s t h
      obtain ⟨l2, u2⟩ := tmod_in (s := s) (In.mk lt ut) h
      clear H
      go_wp2
      go_quiet (fail)
      go_wp2
      go_roundw
      case rel => exact ⟨t, s.tmod t, rfl, rfl, H2, lt, ut, l2, u2, below_drewN hbel _⟩
      case measure => exact hlt
theorem tdiv_in {a g A : Int} (h : In a A) : In (a.tdiv g) A := by
  have h1 : (a.tdiv g).natAbs ≤ a.natAbs := by rw [Int.natAbs_tdiv]; exact Nat.div_le_self _ _
  unfold In at *; omega
theorem gcdM_nonneg (a b : Int) : 0 ≤ gcdM a b := by unfold gcdM; omega
theorem gcdM_in {a b A : Int} (h : In a A) (g : In b A) : In (gcdM a b) A := by
  have h0 := gcdM_nonneg a b
  have hA := h.nonneg
  refine ⟨by omega, ?_⟩
  unfold gcdM at *
  by_cases ha : a = 0
  · subst ha; simp; unfold In at *; omega
  · have := Int.gcd_le_natAbs_left (a := a) (b := b) ha; unfold In at *; omega
set_option maxHeartbeats 400000 in
theorem Least_any (p : Pt) (w : World) (hp : Gd p) :
    Calls Try.prog 70 #[p.v] w fun e w' => e = .returned (leastM p).v ∧ Below w.heap.size w w' := by
  have h0 := gcdM_nonneg (gcdM p.x p.y) p.d
  by_cases h : gcdM (gcdM p.x p.y) p.d = 0
  · have H : Hid (leastM p = p) := if_pos h
    have h' : (gcdM (gcdM p.x p.y) p.d == 0) = true := by simpa using h
    clear h
    go_enter Try.func70, Try.ntmps70
    go_wp2_with fail
    refine (divisor_any _ _ _ (hp.x.mono (by decide)) (hp.y.mono (by decide))).mono ?_
    rintro e w1 ⟨rfl, hb1⟩
    have hz1 : w.heap.size + 1 < w1.heap.size := by have := hb1.size; simp at this; omega
    have hy1 : w.heap.size < w1.heap.size := by omega
    obtain ⟨hc1, hf1⟩ := bcell hb1
    go_wp2_with fail
    refine (divisor_any _ _ _ ((gcdM_in (hp.x.mono (by decide)) (hp.y.mono (by decide)))) (hp.d.mono (by decide))).mono ?_
    rintro e w2 ⟨rfl, hb2⟩
    have hz2 : w.heap.size + 1 < w2.heap.size := Nat.lt_of_lt_of_le hz1 hb2.size
    obtain ⟨hc2, hf2⟩ := bcell hb2
    go_wp2
    exact bodyPost_ret (v := p.v) (by simp [results, Try.results70, go_sem, hc1, hz1, hc2, hz2, hy1]) rfl ⟨by rw [H.out], below_set3 (o := 0) (bvia (bvia (((Below.refl _ _).alloc (Nat.le_refl _) _).alloc (by simp) _) hb1) hb2) (by omega)⟩
  · have H : Hid (leastM p = ⟨p.x.tdiv (gcdM (gcdM p.x p.y) p.d), p.y.tdiv (gcdM (gcdM p.x p.y) p.d), p.d.tdiv (gcdM (gcdM p.x p.y) p.d)⟩) := if_neg h
    have h' : (gcdM (gcdM p.x p.y) p.d == 0) = false := by simpa using h
    have hpos : 0 < gcdM (gcdM p.x p.y) p.d := by omega
    obtain ⟨lx, ux⟩ := tdiv_in (g := gcdM (gcdM p.x p.y) p.d) hp.x
    obtain ⟨ly, uy⟩ := tdiv_in (g := gcdM (gcdM p.x p.y) p.d) hp.y
    obtain ⟨ld, ud⟩ := tdiv_in (g := gcdM (gcdM p.x p.y) p.d) hp.d
    clear h
    go_enter Try.func70, Try.ntmps70
    go_wp2_with fail
    refine (divisor_any _ _ _ (hp.x.mono (by decide)) (hp.y.mono (by decide))).mono ?_
    rintro e w1 ⟨rfl, hb1⟩
    have hz1 : w.heap.size + 1 < w1.heap.size := by have := hb1.size; simp at this; omega
    have hy1 : w.heap.size < w1.heap.size := by omega
    obtain ⟨hc1, hf1⟩ := bcell hb1
    go_wp2_with fail
    refine (divisor_any _ _ _ ((gcdM_in (hp.x.mono (by decide)) (hp.y.mono (by decide)))) (hp.d.mono (by decide))).mono ?_
    rintro e w2 ⟨rfl, hb2⟩
    have hz2 : w.heap.size + 1 < w2.heap.size := Nat.lt_of_lt_of_le hz1 hb2.size
    obtain ⟨hc2, hf2⟩ := bcell hb2
    go_wp2
    go_region
    go_wp2
    exact bodyPost_ret (v := Pt.v ⟨p.x.tdiv (gcdM (gcdM p.x p.y) p.d), p.y.tdiv (gcdM (gcdM p.x p.y) p.d), p.d.tdiv (gcdM (gcdM p.x p.y) p.d)⟩) (by simp [results, Try.results70, go_sem, hc1, hz1, hc2, hz2, hy1]) rfl ⟨by rw [H.out], (below_set3 (o := 0) (bvia (bvia (((Below.refl _ _).alloc (Nat.le_refl _) _).alloc (by simp) _) hb1) hb2) (by omega)).drew⟩

theorem below_set6 {w w1 : World} {b : Nat} {x0 x1 x2 x3 x4 x5 : Value} (h : Below w.heap.size w w1) (hb : w.heap.size ≤ b) :
    Below w.heap.size w ((((((w1.setCell ⟨b, 0, none⟩ x0).setCell ⟨b, 1, none⟩ x1).setCell ⟨b, 2, none⟩ x2).setCell ⟨b, 3, none⟩ x3).setCell ⟨b, 4, none⟩ x4).setCell ⟨b, 5, none⟩ x5) :=
  (((((h.setCell hb _).setCell hb _).setCell hb _).setCell hb _).setCell hb _).setCell hb _
end Go.Proofs.Ytnkcbephceollaa
namespace Go.Proofs.Ytnkcbephceollaa
open Go.RowKit
set_option linter.unusedSimpArgs false
set_option linter.unusedVariables false

/-- A block of the call's own: its cells, that they may be written, that it is there. -/
structure Blk (w : World) (b : Nat) (vs : Array Value) : Prop where
  cell : ∀ o, w.cell? ⟨b, o, none⟩ = vs[o]?
  free : ∀ o, w.frozen? ⟨b, o, none⟩ = false
  lt : b < w.heap.size
theorem Blk.new (w : World) (vs : Array Value) (t : TypeId) : Blk (w.alloc (.cells vs t)) w.heap.size vs :=
  ⟨fun o => World.cell?_alloc_at vs t _ o rfl, fun o => World.frozen?_alloc_at vs t _ o rfl, by simp⟩
theorem Blk.at (b : Nat) {w : World} {vs : Array Value} {t : TypeId} (h : b = w.heap.size) : Blk (w.alloc (.cells vs t)) b vs := h ▸ Blk.new w vs t
theorem Blk.alloc {w : World} {b : Nat} {vs : Array Value} (h : Blk w b vs) (o : Obj) : Blk (w.alloc o) b vs :=
  ⟨fun i => (World.cell?_alloc_past o b i h.lt).trans (h.cell i), fun i => (World.frozen?_alloc_past o b i h.lt).trans (h.free i), by have := h.lt; simp; omega⟩
theorem Blk.call {w w' : World} {b : Nat} {vs : Array Value} (h : Blk w b vs) (hb : Below w.heap.size w w') : Blk w' b vs :=
  ⟨fun i => (hb.cell (p := ⟨b, i, none⟩) h.lt).trans (h.cell i), fun i => (hb.frozen (p := ⟨b, i, none⟩) h.lt).trans (h.free i), Nat.lt_of_lt_of_le h.lt hb.size⟩

end Go.Proofs.Ytnkcbephceollaa
