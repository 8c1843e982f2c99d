import Derived.Test.YtnkcbephceollaaGreatG3
namespace Go.Proofs.YtnkcbephceollaaGreat
set_option linter.unusedSimpArgs false
set_option linter.unusedVariables false

theorem ringEdges_len (r : List Pt) : (ringEdges r).length = r.length := by simp [ringEdges]
/-- A little more room than a good point's numbers have. -/
structure Gw (p : Pt) : Prop where
  x : In p.x 2200000
  y : In p.y 2200000
  d : In p.d 32768
theorem Gd.gw {p : Pt} (h : Gd p) : Gw p := ⟨h.x.mono (by decide), h.y.mono (by decide), h.d⟩
theorem gd_of_good {p : Pt} (h : goodB p = true) : Gd p ∧ 0 < p.d := by
  have := of_decide_eq_true h
  exact ⟨⟨⟨by omega, by omega⟩, ⟨by omega, by omega⟩, ⟨by omega, by omega⟩⟩, by omega⟩
/-- The places far outside. -/
def outP (k : Nat) : Pt := ⟨-65, k, 1⟩
def freeB (q : Pt) (l : List Pt) (ea eb : Pt) (k : Nat) : Bool := l.all (fun v => decide (detM (outP k) q v ≠ 0)) && decide (detM ea eb (outP k) ≠ 0)
def farL (f : Nat → Bool) : Nat → Nat → Pt
  | 0, _ => outP 0
  | n + 1, k => if f k then outP k else farL f n (k + 1)
def farM (q : Pt) (l : List Pt) (ea eb : Pt) : Pt := farL (freeB q l ea eb) (l.length + 2) 0
theorem outP_gw (k : Nat) (h : k ≤ 2200000) : Gw (outP k) := ⟨⟨by simp [outP], by simp [outP]⟩, ⟨by simp [outP] <;> omega, by simp [outP] <;> omega⟩, ⟨by simp [outP], by simp [outP]⟩⟩
theorem all_take {α : Type} (f : α → Bool) (l : List α) (i : Nat) (hi : i < l.length) (d : α) : (l.take (i + 1)).all f = ((l.take i).all f && f (l.getD i d)) := by
  rw [List.take_succ_eq_append_getElem hi, List.all_append]
  simp [List.getD_eq_getElem?_getD, List.getElem?_eq_getElem hi]
theorem farL_step (f : Nat → Bool) (n k : Nat) (h : k < n) : farL f (n - k) k = if f k then outP k else farL f (n - (k + 1)) (k + 1) := by
  have e : n - k = (n - (k + 1)) + 1 := by omega
  rw [e]; rfl
theorem getD_mem {α : Type} {l : List α} {i : Nat} (h : i < l.length) (d : α) : l.getD i d ∈ l := by
  rw [List.getD_eq_getElem?_getD, List.getElem?_eq_getElem h]; exact List.getElem_mem h
def nCross (o q : Pt) (E : List (Pt × Pt)) : Nat := E.countP (fun e => crossB o q e.1 e.2)
theorem nCross_take (o q : Pt) (E : List (Pt × Pt)) (i : Nat) (hi : i < E.length) : nCross o q (E.take (i + 1)) = nCross o q (E.take i) + (if crossB o q (E.getD i (zP, zP)).1 (E.getD i (zP, zP)).2 = true then 1 else 0) := by
  unfold nCross
  rw [List.take_succ_eq_append_getElem hi, List.countP_append]
  simp [List.getD_eq_getElem?_getD, List.getElem?_eq_getElem hi, List.countP_cons]
theorem nCross_le (o q : Pt) (E : List (Pt × Pt)) : nCross o q E ≤ E.length := List.countP_le_length
/-- A place to the right of q, by 1. -/
def rightP (q : Pt) : Pt := ⟨q.x + q.d, q.y, q.d⟩
/-- Where the place lies, as the document reckons. -/
def rlocM (P : List (List Pt)) (q : Pt) : Int :=
  if (edgesM P).any (fun e => onB q e.1 e.2) = true then 2
  else if nCross (farM q P.flatten q (rightP q)) q (edgesM P) % 2 = 1 then 1 else 0
theorem farL_out (f : Nat → Bool) : ∀ n k, ∃ j, j ≤ n + k ∧ farL f n k = outP j
  | 0, k => ⟨0, Nat.zero_le _, rfl⟩
  | n + 1, k => by
    unfold farL
    split
    · exact ⟨k, by omega, rfl⟩
    · obtain ⟨j, hj, e⟩ := farL_out f n (k + 1)
      exact ⟨j, by omega, e⟩
theorem gw_right {q : Pt} (h : goodB q = true) : Gw (rightP q) := by
  have := of_decide_eq_true h
  exact ⟨⟨by simp [rightP]; omega, by simp [rightP]; omega⟩, ⟨by simp [rightP]; omega, by simp [rightP]; omega⟩, ⟨by simp [rightP]; omega, by simp [rightP]; omega⟩⟩
theorem edges_mem {P : List (List Pt)} {e : Pt × Pt} (h : e ∈ edgesM P) : e.1 ∈ P.flatten ∧ e.2 ∈ P.flatten := edge_ends h
theorem ring_firsts (r : List Pt) : (ringEdges r).map (·.1) = r := by
  apply List.ext_getElem
  · simp [ringEdges]
  · intro j h1 h2
    simp [ringEdges, edgeAt, List.getD_eq_getElem?_getD, List.getElem?_eq_getElem h2]
theorem edges_firsts (P : List (List Pt)) : (edgesM P).map (·.1) = P.flatten := by
  unfold edgesM
  induction P with
  | nil => rfl
  | cons r P ih => simp [ring_firsts, ih]
theorem all_firsts (P : List (List Pt)) : (edgesM P).all (fun e => goodB e.1) = P.flatten.all goodB := by
  rw [← edges_firsts, List.all_map]; rfl
theorem first_edge {P : List (List Pt)} {v : Pt} (h : v ∈ P.flatten) : ∃ e ∈ edgesM P, e.1 = v := by
  rw [← edges_firsts] at h
  obtain ⟨e, he, rfl⟩ := List.mem_map.1 h
  exact ⟨e, he, rfl⟩
theorem findM_none {α : Type} (f : α → Bool) : ∀ (l : List α) (i : Int), 0 ≤ i → findM f i l = -1 → ∀ x ∈ l, f x = false
  | [], _, _, _, _, hx => by cases hx
  | y :: l, i, hi, h, x, hx => by
    simp only [findM] at h
    split at h
    · omega
    · rename_i hy
      rcases List.mem_cons.1 hx with rfl | hx
      · simpa using hy
      · exact findM_none f l (i + 1) (by omega) h x hx
theorem edge_second (P : List (List Pt)) (e : Pt × Pt) (he : e ∈ edgesM P) : ∃ e' ∈ edgesM P, e'.1 = e.2 := by
  unfold edgesM at *
  obtain ⟨r, hr, h⟩ := List.mem_flatMap.1 he
  obtain ⟨j, hj, rfl⟩ := List.mem_map.1 h
  have hj' : j < r.length := by simpa using hj
  refine ⟨edgeAt r (if j + 1 = r.length then 0 else j + 1), List.mem_flatMap.2 ⟨r, hr, List.mem_map.2 ⟨_, by simp; split <;> omega, rfl⟩⟩, rfl⟩
theorem badM_none : ∀ (P : List (List Pt)) (room i : Int), 0 ≤ i → badM room i P = -1 → 0 ≤ room → ((edgesM P).length : Int) ≤ room
  | [], room, _, _, _, hr => by simp [edgesM]; omega
  | r :: P, room, i, hi, h, hr => by
    simp only [badM] at h
    split at h
    · omega
    · rename_i hb
      have ih := badM_none P (room - r.length) (i + 1) (by omega) h (by omega)
      have e : (edgesM (r :: P)).length = r.length + (edgesM P).length := by simp [edgesM, ringEdges_len]
      rw [e]; omega
theorem edgesM_len (P : List (List Pt)) : (edgesM P).length = P.flatten.length := by
  unfold edgesM
  induction P with
  | nil => rfl
  | cons r P ih => simp [ringEdges_len, ih]
theorem gr_of {p : Pt} (h : gridB p = true) : Gr p := by
  have := of_decide_eq_true h
  exact ⟨In.mk this.2.1 this.2.2.1, In.mk this.2.2.2.1 this.2.2.2.2, this.1⟩
end Go.Proofs.YtnkcbephceollaaGreat
