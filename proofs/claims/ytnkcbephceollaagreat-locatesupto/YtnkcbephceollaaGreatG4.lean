import Derived.Test.YtnkcbephceollaaGreatQ10
namespace Go.Proofs.YtnkcbephceollaaGreat
set_option linter.unusedVariables false
set_option linter.unusedSimpArgs false

/-- Sheared upward: the order of places becomes that of heights, if by enough. -/
def shP (K : Int) (v : Pt) : Pt := ⟨v.x, K * v.x + v.y, v.d⟩
theorem sh_zero (K : Int) : shP K zP = zP := by simp [shP, zP]
theorem sh_det (K : Int) (a b c : Pt) : detM (shP K a) (shP K b) (shP K c) = detM a b c := by unfold detM shP; grind
theorem sh_xv (K : Int) (q v : Pt) : xv (shP K q) (shP K v) = xv q v := rfl
theorem sh_yv (K : Int) (q v : Pt) : yv (shP K q) (shP K v) = K * xv q v + yv q v := by unfold yv xv shP; grind
theorem sh_bef (K : Int) (p q : Pt) : befB (shP K p) (shP K q) = befB p q := by
  unfold befB
  have e1 : (shP K p).x * (shP K q).d = p.x * q.d := rfl
  have e2 : (shP K q).x * (shP K p).d = q.x * p.d := rfl
  have e3 : (shP K p).y * (shP K q).d = K * (p.x * q.d) + p.y * q.d := by unfold shP; grind
  have e4 : (shP K q).y * (shP K p).d = K * (q.x * p.d) + q.y * p.d := by unfold shP; grind
  rw [e1, e2, e3, e4]
  split
  · rfl
  · rename_i h
    have h' : p.x * q.d = q.x * p.d := by simpa using h
    rw [h']
    congr 1
    exact propext (by omega)
theorem sh_on (K : Int) (p a b : Pt) : onB (shP K p) (shP K a) (shP K b) = onB p a b := by
  unfold onB withB loM hiM
  rw [sh_det, sh_bef]
  by_cases h : befB b a = true
  · simp only [h, if_true, sh_bef]
  · simp only [h, if_false, sh_bef, Bool.false_eq_true]
theorem sh_cross (K : Int) (o q a b : Pt) : crossB (shP K o) (shP K q) (shP K a) (shP K b) = crossB o q a b := by
  unfold crossB; simp only [sh_det]
theorem sh_up {K : Int} {q v : Pt} (h1 : -K < yv q v) (h2 : yv q v < K) : upB false (shP K q) (shP K v) = befB q v := by
  have e : upB false (shP K q) (shP K v) = decide (0 < K * xv q v + yv q v) := by unfold upB; rw [sh_yv]; simp
  rw [e]
  have b := bef_iff q v
  have k : befB q v = true ↔ (0 < xv q v ∨ (xv q v = 0 ∧ 0 < yv q v)) := by rw [b]; unfold xv yv; omega
  have hK : 0 < K := by omega
  have f : 0 < K * xv q v + yv q v ↔ (0 < xv q v ∨ (xv q v = 0 ∧ 0 < yv q v)) := by
    rcases Int.lt_trichotomy (xv q v) 0 with h | h | h
    · have : K * (xv q v + 1) ≤ 0 := mul_gl (Int.le_of_lt hK) (by omega)
      have e2 : K * (xv q v + 1) = K * xv q v + K := by grind
      constructor
      · intro x; omega
      · intro x; omega
    · rw [h, Int.mul_zero]; omega
    · have : 0 ≤ K * (xv q v - 1) := mul_gg (Int.le_of_lt hK) (by omega)
      have e2 : K * (xv q v - 1) = K * xv q v - K := by grind
      constructor
      · intro x; exact .inl h
      · intro x; omega
  cases hb : befB q v
  · rw [hb] at k
    simp
    have : ¬ (0 < K * xv q v + yv q v) := fun x => by have := k.2 (f.1 x); cases this
    omega
  · simp; exact f.2 (k.1 hb)

def shL (K : Int) (P : List (List Pt)) : List (List Pt) := P.map (List.map (shP K))
theorem sh_ring (K : Int) (r : List Pt) : ringEdges (r.map (shP K)) = (ringEdges r).map (fun e => (shP K e.1, shP K e.2)) := by
  have g : ∀ j, (r.map (shP K)).getD j zP = shP K (r.getD j zP) := fun j => by
    rw [List.getD_eq_getElem?_getD, List.getD_eq_getElem?_getD, List.getElem?_map]
    cases r[j]? with
    | none => simp [sh_zero]
    | some v => rfl
  unfold ringEdges edgeAt
  rw [List.map_map, List.length_map]
  refine List.map_congr_left fun j _ => ?_
  simp only [g, Function.comp]
theorem sh_edges (K : Int) (P : List (List Pt)) : edgesM (shL K P) = (edgesM P).map (fun e => (shP K e.1, shP K e.2)) := by
  induction P with
  | nil => rfl
  | cons r P ih =>
    have e1 : edgesM (r :: P) = ringEdges r ++ edgesM P := by simp [edgesM]
    have e2 : edgesM (shL K (r :: P)) = ringEdges (r.map (shP K)) ++ edgesM (shL K P) := by simp [edgesM, shL]
    rw [e1, e2, ih, sh_ring, List.map_append]
theorem parB_map (f : Pt → Pt → Bool) (g : Pt → Pt) : ∀ l, parB f (l.map (fun e => (g e.1, g e.2))) = parB (fun a b => f (g a) (g b)) l
  | [] => rfl
  | e :: l => by simp only [List.map_cons, parB, parB_map f g l]

/-- Does the edge cross the way up from q, which leans to the left by less than any number? -/
def overB (q a b : Pt) : Bool := (!befB q a && befB q b && decide (detM a b q < 0)) || (befB q a && !befB q b && decide (0 < detM a b q))
theorem enough (q : Pt) : ∀ l : List Pt, ∃ K : Int, ∀ v ∈ l, -K < yv q v ∧ yv q v < K
  | [] => ⟨0, fun v hv => by cases hv⟩
  | v :: l => by
    obtain ⟨K, h⟩ := enough q l
    refine ⟨(if K < 0 then 0 else K) + (yv q v).natAbs + 1, fun u hu => ?_⟩
    rcases List.mem_cons.1 hu with rfl | hu
    · split <;> omega
    · have := h u hu; split <;> omega
theorem sh_left {K : Int} {q a b : Pt} (ha : -K < yv q a ∧ yv q a < K) (hb : -K < yv q b ∧ yv q b < K) : leftB false (shP K q) (shP K a) (shP K b) = overB q a b := by
  unfold leftB overB
  rw [sh_up ha.1 ha.2, sh_up hb.1 hb.2, sh_det]
theorem mem_sh {K : Int} {P : List (List Pt)} {v : Pt} (h : v ∈ (shL K P).flatten) : ∃ u ∈ P.flatten, v = shP K u := by
  obtain ⟨r, hr, hv⟩ := List.mem_flatten.1 h
  unfold shL at hr
  obtain ⟨r', hr', rfl⟩ := List.mem_map.1 hr
  obtain ⟨u, hu, rfl⟩ := List.mem_map.1 hv
  exact ⟨u, List.mem_flatten.2 ⟨r', hr', hu⟩, rfl⟩
/-- How often the way from far to the left crosses the edges, and how often the one up: odd alike. -/
theorem parity_up {o q : Pt} {P : List (List Pt)} (ho : 0 < o.d) (hq : 0 < q.d) (hd : ∀ v ∈ P.flatten, 0 < v.d) (hl : ∀ v ∈ P.flatten, 0 < xv o v) (hA : ∀ v ∈ P.flatten, detM o q v ≠ 0) (hon : ∀ e ∈ edgesM P, onB q e.1 e.2 = false) :
    parB (crossB o q) (edgesM P) = parB (overB q) (edgesM P) := by
  obtain ⟨K, hK⟩ := enough q P.flatten
  have on' : ∀ e ∈ edgesM (shL K P), onB (shP K q) e.1 e.2 = false := fun e he => by
    rw [sh_edges] at he
    obtain ⟨e', he', rfl⟩ := List.mem_map.1 he
    rw [sh_on]; exact hon e' he'
  have hd' : ∀ v ∈ (shL K P).flatten, 0 < v.d := fun v hv => by
    obtain ⟨u, hu, rfl⟩ := mem_sh hv
    exact hd u hu
  have p := parity false (o := shP K o) (q := shP K q) (P := shL K P) ho hq hd'
    (fun v hv => by obtain ⟨u, hu, rfl⟩ := mem_sh hv; rw [sh_xv]; exact hl u hu)
    (fun v hv => by obtain ⟨u, hu, rfl⟩ := mem_sh hv; rw [sh_det]; exact hA u hu) on'
  have p2 := left_right false (q := shP K q) (P := shL K P) hq hd' on'
  rw [← p2, sh_edges, parB_map, parB_map] at p
  have c1 : parB (fun a b => crossB (shP K o) (shP K q) (shP K a) (shP K b)) (edgesM P) = parB (crossB o q) (edgesM P) := parB_congr fun e _ => sh_cross ..
  have c2 : parB (fun a b => leftB false (shP K q) (shP K a) (shP K b)) (edgesM P) = parB (overB q) (edgesM P) := parB_congr fun e he => by
    obtain ⟨m1, m2⟩ := edge_ends he
    exact sh_left (hK _ m1) (hK _ m2)
  rw [c1, c2] at p
  exact p
end Go.Proofs.YtnkcbephceollaaGreat
