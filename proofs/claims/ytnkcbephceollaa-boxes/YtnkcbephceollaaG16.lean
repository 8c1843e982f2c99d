import Derived.Test.YtnkcbephceollaaQ6
import Derived.Test.YtnkcbephceollaaQ14
import Derived.Test.YtnkcbephceollaaG15
namespace Go.Proofs.Ytnkcbephceollaa
set_option linter.unusedVariables false
set_option linter.unusedSimpArgs false
set_option linter.unusedSectionVars false

/-- A piece with its sides. -/
structure Pc where
  p : Pt
  q : Pt
  la : Bool
  ra : Bool
  lb : Bool
  rb : Bool
def pcOf (EA EB : List (Pt × Pt)) (x : Pt × Pt) : Pc := ⟨x.1, x.2, parB (leftE x.1 x.2) EA, parB (rightE x.1 x.2) EA, parB (leftE x.1 x.2) EB, parB (rightE x.1 x.2) EB⟩
def piecesM (A B : List (List Pt)) : List Pc := (pairsL (edgesM A ++ edgesM B) (spotsM (edgesM A ++ edgesM B))).map (pcOf (edgesM A) (edgesM B))
def rpcOf (EA EB : List (Pt × Pt)) (all : List Pt) (x : Pt × Pt) : Pc := ⟨x.1, x.2, (rsidesM x.1 x.2 EA all).1, (rsidesM x.1 x.2 EA all).2, (rsidesM x.1 x.2 EB all).1, (rsidesM x.1 x.2 EB all).2⟩
def rpiecesM (A B : List (List Pt)) : List Pc := (rpairsM (edgesM A ++ edgesM B) (rspotsM (edgesM A ++ edgesM B))).map (rpcOf (edgesM A) (edgesM B) (A.flatten ++ B.flatten))

theorem ne_of_bef {u v : Pt} (h : befB u v = true ∨ befB v u = true) : u ≠ v := fun e => by
  subst e; rw [bef_irr] at h; simp at h
theorem good_both {A B : List (List Pt)} (hA : Sound A) (hB : Sound B) : Good (edgesM A ++ edgesM B) := by
  refine ⟨fun e he => ?_, fun e he => ?_, fun e he => ?_⟩
  · rcases List.mem_append.1 he with he | he
    · exact ⟨hA.gr _ (edge_ends he).1, hA.gr _ (edge_ends he).2⟩
    · exact ⟨hB.gr _ (edge_ends he).1, hB.gr _ (edge_ends he).2⟩
  · rcases List.mem_append.1 he with he | he
    · exact ne_of_bef (hA.ne e he)
    · exact ne_of_bef (hB.ne e he)
  · rcases List.mem_append.1 he with he | he
    · obtain ⟨e', h1, h2⟩ := edge_second A e he
      exact ⟨e', List.mem_append.2 (.inl h1), h2⟩
    · obtain ⟨e', h1, h2⟩ := edge_second B e he
      exact ⟨e', List.mem_append.2 (.inr h1), h2⟩
theorem end_spot {E : List (Pt × Pt)} (h : Good E) {e : Pt × Pt} (he : e ∈ E) : e.1 ∈ spotsM E := by
  obtain ⟨_, m⟩ := spots_spec h
  rw [← spots_eq h]
  obtain ⟨_, m2⟩ := rspots_spec h
  obtain ⟨i, hi, ei⟩ := List.mem_iff_getElem.1 he
  refine (m2 _).2 ⟨i, hi, .inl ?_⟩
  rw [List.getD_eq_getElem?_getD, List.getElem?_eq_getElem hi]
  show e.1 = (E[i]).1
  rw [ei]
theorem bef_or {u v : Pt} (hu : u.d = 1) (hv : v.d = 1) (h : u ≠ v) : befB u v = true ∨ befB v u = true := by
  rcases L_tri hu hv with t | t | t
  · exact .inl ((bef_L hu hv).2 t)
  · exact absurd t h
  · exact .inr ((bef_L hv hu).2 t)
/-- Of a piece no point lies within it and no edge comes across it. -/
theorem piece_clear {E : List (Pt × Pt)} (h : Good E) {x : Pt × Pt} (hx : x ∈ pairsL E (spotsM E)) :
    (Nice x.1 ∧ Nice x.2) ∧ befB x.1 x.2 = true ∧ (∀ e ∈ E, befB x.1 e.1 = true → befB e.1 x.2 = true → detM x.1 x.2 e.1 ≠ 0) ∧ (∀ e ∈ E, crossB x.1 x.2 e.1 e.2 = false) := by
  obtain ⟨s1, s2⟩ := spots_spec h
  obtain ⟨_, p2⟩ := pairs_spec E s1
  obtain ⟨e0, he0, ha⟩ := (p2 x).1 hx
  obtain ⟨m1, m2, f1, f2⟩ := AL_mem ha
  obtain ⟨hpq, hno⟩ := AL_next s1.srt ha
  have n1 := s1.nc _ m1
  have n2 := s1.nc _ m2
  have g0 := h.gr e0 he0
  have da : 0 < e0.1.d := by have := g0.1.d; omega
  have db : 0 < e0.2.d := by have := g0.2.d; omega
  have o1 : onB x.1 e0.1 e0.2 = true := by rw [← has_on da db n1.d]; exact f1
  have o2 : onB x.2 e0.1 e0.2 = true := by rw [← has_on da db n2.d]; exact f2
  have nab := bef_or g0.1.d g0.2.d (h.ne e0 he0)
  -- nothing of the spots lies between on that edge
  have none : ∀ y ∈ spotsM E, befB x.1 y = true → befB y x.2 = true → detM x.1 x.2 y ≠ 0 := fun y hy b1 b2 hl => by
    have ny := s1.nc y hy
    have := hno y hy b1 b2
    rw [has_on da db ny.d, on_between n1.d n2.d da db ny.d nab o1 o2 b1 b2 hl] at this
    cases this
  refine ⟨⟨n1, n2⟩, hpq, fun e he b1 b2 => none _ (end_spot h he) b1 b2, fun e he => ?_⟩
  cases hc : crossB x.1 x.2 e.1 e.2
  · rfl
  · exfalso
    have ge := h.gr e he
    obtain ⟨X, hX, xd, b1, b2, hl⟩ := cross_spot n1.d n2.d g0.1 g0.2 ge.1 ge.2 (h.ne e0 he0) (h.ne e he) hpq o1 o2 hc
    exact none X ((s2 X).2 ⟨e0, he0, e, he, hX⟩) b1 b2 hl
/-- The pieces are the document's. -/
theorem pieces_eq {A B : List (List Pt)} (hA : Sound A) (hB : Sound B) : rpiecesM A B = piecesM A B := by
  have hG := good_both hA hB
  unfold rpiecesM piecesM
  rw [spots_eq hG, pairs_eq (fun e he => hG.gr e he) (spots_spec hG).1]
  refine List.map_congr_left fun x hx => ?_
  obtain ⟨⟨n1, n2⟩, hpq, hpt, hed⟩ := piece_clear hG hx
  have hptA : ∀ v ∈ A.flatten, befB x.1 v = true → befB v x.2 = true → detM x.1 x.2 v ≠ 0 := fun v hv b1 b2 => by
    obtain ⟨e, he, rfl⟩ := first_edge hv
    exact hpt e (List.mem_append.2 (.inl he)) b1 b2
  have hptB : ∀ v ∈ B.flatten, befB x.1 v = true → befB v x.2 = true → detM x.1 x.2 v ≠ 0 := fun v hv b1 b2 => by
    obtain ⟨e, he, rfl⟩ := first_edge hv
    exact hpt e (List.mem_append.2 (.inr he)) b1 b2
  have hall : ∀ v ∈ A.flatten ++ B.flatten, befB x.1 v = true → befB v x.2 = true → detM x.1 x.2 v ≠ 0 := fun v hv => by
    rcases List.mem_append.1 hv with hv | hv
    · exact hptA v hv
    · exact hptB v hv
  have had : ∀ v ∈ A.flatten ++ B.flatten, 0 < v.d := fun v hv => by
    rcases List.mem_append.1 hv with hv | hv
    · have := (hA.gr v hv).d; omega
    · have := (hB.gr v hv).d; omega
  have sA := sides_eq hA n1.1 n2.1 hpq ⟨hptA, fun e he => hed e (List.mem_append.2 (.inl he))⟩ (fun v hv => List.mem_append.2 (.inl hv)) hall had
  have sB := sides_eq hB n1.1 n2.1 hpq ⟨hptB, fun e he => hed e (List.mem_append.2 (.inr he))⟩ (fun v hv => List.mem_append.2 (.inr hv)) hall had
  unfold rpcOf pcOf
  rw [← sA, ← sB]
/-- A polygon that Check has nothing against. -/
theorem sound_of {P : List (List Pt)} (h : (checkM P).1 = 0) : Sound P := by
  have u : checkM P = if 4 < P.length then (1, 0) else if badM 12 0 P ≠ -1 then (2, badM 12 0 P) else if findM (fun e : Pt × Pt => !gridB e.1) 0 (edgesM P) ≠ -1 then (3, findM (fun e : Pt × Pt => !gridB e.1) 0 (edgesM P)) else if findM (fun e : Pt × Pt => eqB e.1 e.2) 0 (edgesM P) ≠ -1 then (4, findM (fun e : Pt × Pt => eqB e.1 e.2) 0 (edgesM P)) else if findM (sharesM (edgesM P)) 0 (List.range (edgesM P).length) ≠ -1 then (5, findM (sharesM (edgesM P)) 0 (List.range (edgesM P).length)) else (0, 0) := rfl
  rw [u] at h
  by_cases c1 : 4 < P.length
  · rw [if_pos c1] at h; simp at h
  rw [if_neg c1] at h
  by_cases c2 : badM 12 0 P ≠ -1
  · rw [if_pos c2] at h; simp at h
  rw [if_neg c2] at h
  by_cases c3 : findM (fun e : Pt × Pt => !gridB e.1) 0 (edgesM P) ≠ -1
  · rw [if_pos c3] at h; simp at h
  rw [if_neg c3] at h
  by_cases c4 : findM (fun e : Pt × Pt => eqB e.1 e.2) 0 (edgesM P) ≠ -1
  · rw [if_pos c4] at h; simp at h
  rw [if_neg c4] at h
  by_cases c5 : findM (sharesM (edgesM P)) 0 (List.range (edgesM P).length) ≠ -1
  · rw [if_pos c5] at h; simp at h
  have d3 := findM_none _ _ 0 (by decide) (by omega : findM (fun e : Pt × Pt => !gridB e.1) 0 (edgesM P) = -1)
  have d4 := findM_none _ _ 0 (by decide) (by omega : findM (fun e : Pt × Pt => eqB e.1 e.2) 0 (edgesM P) = -1)
  have d5 := findM_none _ _ 0 (by decide) (by omega : findM (sharesM (edgesM P)) 0 (List.range (edgesM P).length) = -1)
  have gr : ∀ v ∈ P.flatten, Gr v := fun v hv => by
    obtain ⟨e, he, rfl⟩ := first_edge hv
    have := d3 e he
    exact gr_of (by simpa using this)
  refine ⟨gr, fun e he => ?_, fun i j hij hj => ?_⟩
  · obtain ⟨m1, m2⟩ := edge_ends he
    refine bef_or (gr _ m1).d (gr _ m2).d fun k => ?_
    have := d4 e he
    rw [k] at this
    simp [eqB] at this
  · have := d5 j (by simpa using hj)
    unfold sharesM at this
    rw [← Bool.not_eq_true, List.any_eq_true] at this
    cases k : alongB ((edgesM P).getD j (zP, zP)) ((edgesM P).getD i (zP, zP))
    · rfl
    · refine absurd ⟨(edgesM P).getD i (zP, zP), ?_, k⟩ this
      rw [List.mem_take_iff_getElem]
      refine ⟨i, by omega, ?_⟩
      rw [List.getD_eq_getElem?_getD, List.getElem?_eq_getElem (by omega)]; rfl
end Go.Proofs.Ytnkcbephceollaa
