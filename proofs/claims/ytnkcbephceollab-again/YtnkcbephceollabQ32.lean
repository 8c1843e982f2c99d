import Derived.Test.YtnkcbephceollabQ31
namespace Go.Proofs.Ytnkcbephceollab
set_option linter.unusedSimpArgs false
set_option linter.unusedVariables false

theorem pts_nil (L : List (Pt × Pt)) (N : List Nat) (i : Nat) : ∀ c a, ptsN L N i a c = [] → ∀ b, a ≤ b → b < a + c → turnB (edg L (itN N i b)) (edg L (itN N i (b + 1))) = false
  | 0, a, _, b, h1, h2 => absurd h2 (by omega)
  | c + 1, a, h, b, h1, h2 => by
    rw [ptsN] at h
    have h3 := List.append_eq_nil_iff.1 h
    by_cases e : b = a
    · subst e
      cases w : turnB (edg L (itN N i b)) (edg L (itN N i (b + 1)))
      · rfl
      · rw [w] at h3; simp at h3
    · exact pts_nil L N i c (a + 1) h3.2 b (by omega) (by omega)
theorem pts_from (L : List (Pt × Pt)) (N : List Nat) (i : Nat) : ∀ c a p, p ∈ ptsN L N i a c → ∃ b, p = (edg L (itN N i b)).2
  | 0, a, p, h => by rw [ptsN] at h; simp at h
  | c + 1, a, p, h => by
    rw [ptsN] at h
    rcases List.mem_append.1 h with h | h
    · split at h
      · exact ⟨a, List.mem_singleton.1 h⟩
      · simp at h
    · exact pts_from L N i c (a + 1) p h
theorem rotL_from {r : List Pt} {i : Nat} {p : Pt} (h : p ∈ rotL r i) : p ∈ r := by
  unfold rotL at h
  rcases List.mem_append.1 h with h | h
  · exact List.mem_of_mem_drop h
  · exact List.mem_of_mem_take h
theorem leastL_from {r : List Pt} {p : Pt} : ∀ k, p ∈ leastL r k → p ∈ r
  | 0, h => by rw [leastL] at h; simp at h
  | k + 1, h => by
    rw [leastL] at h
    split at h
    · exact rotL_from h
    · exact leastL_from k h
/-- One step, as the document takes it. -/
def rstepR (L : List (Pt × Pt)) (N : List Nat) (st : List (List Pt) × List Bool) (i : Nat) : List (List Pt) × List Bool :=
  if st.2.getD i false = true then st else (rinsL st.1 (leastL (walkM L N (L.length + 1) st.2 i).1 (walkM L N (L.length + 1) st.2 i).1.length), (walkM L N (L.length + 1) st.2 i).2)
def rringsN (L : List (Pt × Pt)) : Nat → List (List Pt) × List Bool
  | 0 => ([], List.replicate L.length false)
  | i + 1 => rstepR L (nextsM L) (rringsN L i) i
section
variable {A B : List (List Pt)} (sA : Sound A) (sB : Sound B) (op : Int)
include sA sB
theorem it_chain {i : Nat} (hi : i < (bordM op (piecesM A B)).length) (a : Nat) : (edg (bordM op (piecesM A B)) (itN (nextsM (bordM op (piecesM A B))) i (a + 1))).1 = (edg (bordM op (piecesM A B)) (itN (nextsM (bordM op (piecesM A B))) i a)).2 := by
  have l := it_lt (nexts_pm sA sB op) hi a
  obtain ⟨j, _, e⟩ := fol_is sA sB op l
  rw [itN, nexts_at _ _ l, e]
/-- Each ring turns somewhere. -/
theorem ring_turns {i m : Nat} (hi : i < (bordM op (piecesM A B)).length) (m1 : 1 ≤ m) (mi : itN (nextsM (bordM op (piecesM A B))) i m = i) : ptsN (bordM op (piecesM A B)) (nextsM (bordM op (piecesM A B))) i 0 m ≠ [] := by
  intro h
  have no := pts_nil _ _ _ m 0 h
  have lt := it_lt (nexts_pm sA sB op) hi
  have ch := it_chain sA sB op hi
  have op1 : ∀ b, b < m → Opp (edg (bordM op (piecesM A B)) (itN (nextsM (bordM op (piecesM A B))) i b)).2 (edg (bordM op (piecesM A B)) (itN (nextsM (bordM op (piecesM A B))) i b)).1 (edg (bordM op (piecesM A B)) (itN (nextsM (bordM op (piecesM A B))) i (b + 1))).2 := by
    intro b hb
    have t := no b (by omega) (by omega)
    refine bord_opp sA sB op (edg_mem (lt b)) ?_ ?_
    · rw [← ch b]
      exact edg_mem (lt (b + 1))
    · unfold turnB at t
      have t : detM (edg (bordM op (piecesM A B)) (itN (nextsM (bordM op (piecesM A B))) i b)).1 (edg (bordM op (piecesM A B)) (itN (nextsM (bordM op (piecesM A B))) i b)).2 (edg (bordM op (piecesM A B)) (itN (nextsM (bordM op (piecesM A B))) i (b + 1))).2 = 0 := by
        simpa using t
      have sw : ∀ a b c : Pt, detM b a c = -detM a b c := by intro a b c; unfold detM; grind
      rw [sw, t]; rfl
  have nice := fun b => bord_nice sA sB op (edg_mem (lt b))
  generalize hs : (fun b => (edg (bordM op (piecesM A B)) (itN (nextsM (bordM op (piecesM A B))) i b)).1) = s
  have s0 : ∀ b, (edg (bordM op (piecesM A B)) (itN (nextsM (bordM op (piecesM A B))) i b)).1 = s b := fun b => congrFun hs b
  have s1 : ∀ b, (edg (bordM op (piecesM A B)) (itN (nextsM (bordM op (piecesM A B))) i b)).2 = s (b + 1) := fun b => by rw [← ch b, s0]
  have hd : ∀ b, 0 < (s b).d := fun b => by rw [← s0]; exact (nice b).1.d
  have oc : ∀ b, b < m → Opp (s (b + 1)) (s b) (s (b + 2)) := fun b hb => by
    have := op1 b hb
    rw [s1 b, s0 b, s1 (b + 1)] at this
    exact this
  have sm : s m = s 0 := by
    rw [← s0 m, ← s0 0, mi]; rfl
  have ne0 : s 0 ≠ s 1 := by
    have := (nice 0).2.2
    rw [s0, s1] at this
    exact this
  have up : ∀ b, b < m → (befB (s b) (s (b + 1)) = true ↔ befB (s (b + 1)) (s (b + 2)) = true) ∧ (befB (s b) (s (b + 1)) = true ∨ befB (s (b + 1)) (s b) = true) := by
    intro b hb
    rcases oc b hb with ⟨x, y⟩ | ⟨x, y⟩
    · refine ⟨?_, .inr x⟩
      rw [bef_asym x, bef_asym y]
    · refine ⟨?_, .inl x⟩
      rw [x, y]
  rcases (up 0 (by omega)).2 with k | k
  · have g : ∀ b, b < m → befB (s b) (s (b + 1)) = true ∧ befB (s 0) (s (b + 1)) = true := by
      intro b
      induction b with
      | zero => intro _; exact ⟨k, k⟩
      | succ b ih =>
        intro hb
        obtain ⟨i1, i2⟩ := ih (by omega)
        have j1 := (up b (by omega)).1.1 i1
        exact ⟨j1, bef_lt (hd (b + 1)) (hd (b + 2)) (hd 0) j1 i2⟩
    have := (g (m - 1) (by omega)).2
    rw [show m - 1 + 1 = m by omega, sm, bef_irr] at this
    cases this
  · have g : ∀ b, b < m → befB (s (b + 1)) (s b) = true ∧ befB (s (b + 1)) (s 0) = true := by
      intro b
      induction b with
      | zero => intro _; exact ⟨k, k⟩
      | succ b ih =>
        intro hb
        obtain ⟨i1, i2⟩ := ih (by omega)
        have j1 : befB (s (b + 2)) (s (b + 1)) = true := by
          rcases (up (b + 1) hb).2 with w | w
          · have := (up b (by omega)).1.2 w
            rw [bef_asym i1] at this; cases this
          · exact w
        exact ⟨j1, bef_lt (hd (b + 1)) (hd 0) (hd (b + 2)) i2 j1⟩
    have := (g (m - 1) (by omega)).2
    rw [show m - 1 + 1 = m by omega, sm, bef_irr] at this
    cases this
/-- The program's rings are the document's. -/
theorem rings_eq : ∀ i, i ≤ (bordM op (piecesM A B)).length → ringsN (bordM op (piecesM A B)) i = rringsN (bordM op (piecesM A B)) i ∧
    (rringsN (bordM op (piecesM A B)) i).2.length = (bordM op (piecesM A B)).length ∧ Whole (nextsM (bordM op (piecesM A B))) (bordM op (piecesM A B)).length (rringsN (bordM op (piecesM A B)) i).2 ∧
    (∀ y ∈ (rringsN (bordM op (piecesM A B)) i).1, NL y) ∧ (rringsN (bordM op (piecesM A B)) i).1.Pairwise (fun x y => clM x y ≤ 0)
  | 0, _ => by
    refine ⟨rfl, by simp [rringsN], ?_, by simp [rringsN], by simp [rringsN]⟩
    intro k hk
    have r : ∀ k, (List.replicate (bordM op (piecesM A B)).length false).getD k false = false := by
      intro k
      rw [List.getD_eq_getElem?_getD, List.getElem?_replicate]
      split <;> rfl
    rw [rringsN, r, r]
  | i + 1, hi => by
    obtain ⟨e, hl, hw, hn, hs⟩ := rings_eq i (by omega)
    have pm := nexts_pm sA sB op
    rw [ringsN, rringsN, e]
    generalize rringsN (bordM op (piecesM A B)) i = st at *
    obtain ⟨R, t⟩ := st
    simp only at *
    unfold stepR rstepR
    simp only
    by_cases c : t.getD i false = true
    · rw [if_pos c]
      have : walkM (bordM op (piecesM A B)) (nextsM (bordM op (piecesM A B))) ((bordM op (piecesM A B)).length + 1) t i = ([], t) := by
        rw [walkM, if_pos c]
      rw [this]
      exact ⟨by simp, hl, hw, hn, hs⟩
    · rw [if_neg c]
      have c' : t.getD i false = false := by
        cases w : t.getD i false
        · rfl
        · exact absurd w c
      obtain ⟨m, m1, mn, mi, ml, ew⟩ := walk_round (bordM op (piecesM A B)) pm (show i < _ by omega) hl (fun a => by rw [hw.it pm (by omega) a, c'])
      rw [ew]
      have ne := ring_turns sA sB op (show i < _ by omega) m1 mi
      have nl : NL (leastL (ptsN (bordM op (piecesM A B)) (nextsM (bordM op (piecesM A B))) i 0 m) (ptsN (bordM op (piecesM A B)) (nextsM (bordM op (piecesM A B))) i 0 m).length) := by
        intro p hp
        obtain ⟨b, eb⟩ := pts_from _ _ _ m 0 p (leastL_from _ hp)
        rw [eb]
        exact (bord_nice sA sB op (edg_mem (it_lt pm (by omega) b))).2.1
      simp only
      rw [if_pos (List.length_pos_iff.2 ne), ins_rins nl hn hs]
      refine ⟨rfl, by rw [setN_len]; exact hl, hw.set pm (by omega) hl m1 mi, ?_, rinsL_sorted nl hn hs⟩
      intro y hy
      rcases rinsL_mem.1 hy with w | w
      · rw [w]; exact nl
      · exact hn y w
end
/-! A way from point to point, its straight runs and its turns. -/
theorem det_cyc (a b c : Pt) : detM b c a = detM a b c := by unfold detM; grind
structure Way (s : Nat → Pt) : Prop where
  d : ∀ b, 0 < (s b).d
  two : ∀ b, befB (s b) (s (b + 1)) = true ∨ befB (s (b + 1)) (s b) = true
  opp : ∀ b, detM (s b) (s (b + 1)) (s (b + 2)) = 0 → Opp (s (b + 1)) (s b) (s (b + 2))
def Run (s : Nat → Pt) (a b : Nat) : Prop := ∀ c, a ≤ c → c < b → detM (s c) (s (c + 1)) (s (c + 2)) = 0
theorem Run.tl {s : Nat → Pt} {a b : Nat} (h : Run s a (b + 1)) : Run s a b := fun c h1 h2 => h c h1 (by omega)
section
variable {s : Nat → Pt} (w : Way s)
include w
theorem run_fwd {a : Nat} (f : befB (s a) (s (a + 1)) = true) : ∀ k, Run s a (a + k) → befB (s (a + k)) (s (a + k + 1)) = true ∧ befB (s a) (s (a + k + 1)) = true ∧ detM (s a) (s (a + 1)) (s (a + k)) = 0 ∧ detM (s a) (s (a + 1)) (s (a + k + 1)) = 0
  | 0, _ => ⟨f, f, det_first _ _, det_last _ _⟩
  | k + 1, h => by
    obtain ⟨i1, i2, i3, i4⟩ := run_fwd f k h.tl
    have st := h (a + k) (by omega) (by omega)
    have j : befB (s (a + k + 1)) (s (a + k + 2)) = true := by
      rcases w.opp (a + k) st with ⟨x, y⟩ | ⟨x, y⟩
      · rw [bef_asym i1] at x; cases x
      · exact y
    have ls := (line_sign (x := s (a + k + 2)) (w.d a) (w.d (a + k)) i3 i4 f i1).2.2 st
    exact ⟨j, bef_lt (w.d (a + k + 1)) (w.d (a + k + 2)) (w.d a) j i2, i4, ls⟩
theorem run_bwd {a : Nat} (f : befB (s (a + 1)) (s a) = true) : ∀ k, Run s a (a + k) → befB (s (a + k + 1)) (s (a + k)) = true ∧ befB (s (a + k + 1)) (s a) = true ∧ detM (s (a + 1)) (s a) (s (a + k)) = 0 ∧ detM (s (a + 1)) (s a) (s (a + k + 1)) = 0
  | 0, _ => ⟨f, f, det_last _ _, det_first _ _⟩
  | k + 1, h => by
    obtain ⟨i1, i2, i3, i4⟩ := run_bwd f k h.tl
    have st := h (a + k) (by omega) (by omega)
    have j : befB (s (a + k + 2)) (s (a + k + 1)) = true := by
      rcases w.opp (a + k) st with ⟨x, y⟩ | ⟨x, y⟩
      · exact y
      · rw [bef_asym i1] at x; cases x
    have st2 : detM (s (a + k + 1)) (s (a + k)) (s (a + k + 2)) = 0 := by rw [det_back, st]; rfl
    have ls := (line_sign (x := s (a + k + 2)) (w.d (a + 1)) (w.d (a + k + 1)) i4 i3 f i1).2.2 st2
    exact ⟨j, bef_lt (w.d (a + k + 1)) (w.d a) (w.d (a + k + 2)) i2 j, i4, ls⟩
/-- A run goes along one line. -/
theorem run_line {a b : Nat} (ab : a ≤ b) (h : Run s a b) : (∀ x, detM (s a) (s (b + 1)) x = 0 ↔ detM (s a) (s (a + 1)) x = 0) ∧ (∀ x, detM (s a) (s (b + 1)) x = 0 ↔ detM (s b) (s (b + 1)) x = 0) ∧ (befB (s a) (s (b + 1)) = true ∨ befB (s (b + 1)) (s a) = true) := by
  obtain ⟨k, rfl⟩ : ∃ k, b = a + k := ⟨b - a, by omega⟩
  rcases w.two a with f | f
  · obtain ⟨i1, i2, i3, i4⟩ := run_fwd w f k h
    have l1 := fun x => (line_sign (x := x) (w.d a) (w.d a) (det_first _ _) i4 f i2).2
    have l2 := fun x => (line_sign (x := x) (w.d a) (w.d (a + k)) i3 i4 f i1).2
    exact ⟨fun x => (l1 x).symm, fun x => (l1 x).symm.trans (l2 x), .inl i2⟩
  · obtain ⟨i1, i2, i3, i4⟩ := run_bwd w f k h
    have l1 := fun x => (line_sign (x := x) (w.d (a + 1)) (w.d (a + k + 1)) i4 (det_last _ _) f i2).2
    have l2 := fun x => (line_sign (x := x) (w.d (a + 1)) (w.d (a + k + 1)) i4 i3 f i1).2
    have fl : ∀ p q x : Pt, detM p q x = 0 ↔ detM q p x = 0 := fun p q x => by rw [det_back q p x]; omega
    refine ⟨fun x => ?_, fun x => ?_, .inr i2⟩
    · rw [fl (s a) (s (a + k + 1)), fl (s a) (s (a + 1))]; exact (l1 x).symm
    · rw [fl (s a) (s (a + k + 1)), fl (s (a + k)) (s (a + k + 1))]; exact (l1 x).symm.trans (l2 x)
/-- Where two runs meet in a turn, their ends turn too. -/
theorem turn_ends {a b a2 b2 : Nat} (ab : a ≤ b) (h : Run s a b) (ab2 : a2 ≤ b2) (h2 : Run s a2 b2) (e : s a2 = s (b + 1)) (ht : detM (s b) (s (b + 1)) (s (a2 + 1)) ≠ 0) : detM (s a) (s (b + 1)) (s (b2 + 1)) ≠ 0 := by
  intro k
  obtain ⟨_, r1, _⟩ := run_line w ab h
  obtain ⟨r2, _, _⟩ := run_line w ab2 h2
  have k1 := (r1 _).1 k
  rw [← det_cyc, ← e] at k1
  have k2 := (r2 _).1 k1
  rw [e, det_cyc] at k2
  exact ht k2
end
/-! The turns of a round, one behind the other. -/
def tn (s : Nat → Pt) (b : Nat) : Bool := decide (detM (s b) (s (b + 1)) (s (b + 2)) ≠ 0)
def posN (s : Nat → Pt) (m : Nat) : List Nat := (List.range' 0 m).filter (tn s)
def turnP (s : Nat → Pt) (m : Nat) : List Pt := (posN s m).map (fun b => s (b + 1))
theorem tn_false {s : Nat → Pt} {b : Nat} (h : tn s b = false) : detM (s b) (s (b + 1)) (s (b + 2)) = 0 := by
  unfold tn at h; simpa using h
theorem tn_true {s : Nat → Pt} {b : Nat} (h : tn s b = true) : detM (s b) (s (b + 1)) (s (b + 2)) ≠ 0 := by
  unfold tn at h; simpa using h
theorem pos_mem {s : Nat → Pt} {m b : Nat} : b ∈ posN s m ↔ b < m ∧ tn s b = true := by
  unfold posN
  rw [List.mem_filter, List.mem_range']
  constructor
  · rintro ⟨⟨i, hi, e⟩, h⟩; exact ⟨by omega, h⟩
  · rintro ⟨h1, h2⟩; exact ⟨⟨b, h1, by omega⟩, h2⟩
theorem pos_sorted (s : Nat → Pt) (m : Nat) : (posN s m).Pairwise (· < ·) := by
  unfold posN
  exact (List.pairwise_lt_range' (s := 0) (n := m)).filter _
theorem sorted_at {l : List Nat} (h : l.Pairwise (· < ·)) {i j : Nat} (hj : j < l.length) (ij : i < j) : l.getD i 0 < l.getD j 0 := by
  rw [List.pairwise_iff_getElem] at h
  have := h i j (by omega) hj ij
  rw [List.getD_eq_getElem?_getD, List.getElem?_eq_getElem (by omega), List.getD_eq_getElem?_getD, List.getElem?_eq_getElem hj]
  exact this
theorem mem_at {l : List Nat} {x : Nat} (h : x ∈ l) : ∃ i, i < l.length ∧ l.getD i 0 = x := by
  obtain ⟨i, hi, e⟩ := List.getElem_of_mem h
  exact ⟨i, hi, by rw [List.getD_eq_getElem?_getD, List.getElem?_eq_getElem hi]; exact e⟩
theorem at_mem {l : List Nat} {i : Nat} (h : i < l.length) : l.getD i 0 ∈ l := by
  rw [List.getD_eq_getElem?_getD, List.getElem?_eq_getElem h]; exact List.getElem_mem h
section
variable {s : Nat → Pt} {m : Nat} (per : ∀ b, s (b + m) = s b)
theorem turn_len : (turnP s m).length = (posN s m).length := by unfold turnP; simp
theorem turn_at {j : Nat} (h : j < (posN s m).length) : (turnP s m).getD j zP = s ((posN s m).getD j 0 + 1) := by
  unfold turnP
  rw [List.getD_eq_getElem?_getD, List.getElem?_map, List.getElem?_eq_getElem h, List.getD_eq_getElem?_getD, List.getElem?_eq_getElem h]; rfl
include per
/-- From each turn to the next one the way is straight. -/
theorem edge_run {j : Nat} (h : j < (posN s m).length) : ∃ b, (posN s m).getD j 0 + 1 ≤ b ∧ Run s ((posN s m).getD j 0 + 1) b ∧ (b = (posN s m).getD ((j + 1) % (posN s m).length) 0 ∨ b = (posN s m).getD ((j + 1) % (posN s m).length) 0 + m) ∧ b ≤ (posN s m).getD j 0 + m := by
  have so := pos_sorted s m
  have mem : ∀ c, c < m → tn s c = true → c ∈ posN s m := fun c h1 h2 => pos_mem.2 ⟨h1, h2⟩
  generalize hQ : posN s m = Q at *
  have lt : ∀ i, i < Q.length → Q.getD i 0 < m := fun i hi => by
    have := at_mem hi
    rw [← hQ] at this
    rw [← hQ]
    exact (pos_mem.1 this).1
  have gap : ∀ c i, c < m → i < Q.length → Q.getD i 0 < c → (i + 1 < Q.length → c < Q.getD (i + 1) 0) → tn s c = false := fun c i hc hi h1 h2 => by
    cases t : tn s c
    · rfl
    · exfalso
      obtain ⟨l, hl, e⟩ := mem_at (mem c hc t)
      rcases Nat.lt_trichotomy l i with x | x | x
      · have := sorted_at so hi x; omega
      · subst x; omega
      · rcases Nat.lt_or_ge (i + 1) l with y | y
        · have := sorted_at so hl y
          have := h2 (by omega)
          omega
        · have : l = i + 1 := by omega
          subst this
          have := h2 hl
          omega
  by_cases last : j + 1 < Q.length
  · rw [Nat.mod_eq_of_lt last]
    have l1 := sorted_at so last (show j < j + 1 by omega)
    have l2 := lt (j + 1) last
    refine ⟨Q.getD (j + 1) 0, l1, fun c h1 h2 => ?_, .inl rfl, by have := lt j h; omega⟩
    exact tn_false (gap c j (by omega) h (by omega) (fun _ => h2))
  · have ej : j + 1 = Q.length := by omega
    rw [ej, Nat.mod_self]
    have l0 := lt 0 (by omega)
    have lj := lt j h
    have q0 : Q.getD 0 0 ≤ Q.getD j 0 := by
      rcases Nat.eq_zero_or_pos j with z | z
      · rw [z]; exact Nat.le_refl _
      · exact Nat.le_of_lt (sorted_at so h z)
    refine ⟨Q.getD 0 0 + m, by omega, fun c h1 h2 => ?_, .inr rfl, by omega⟩
    by_cases cm : c < m
    · exact tn_false (gap c j cm h (by omega) (fun x => absurd x last))
    · have e : c = (c - m) + m := by omega
      have f : tn s (c - m) = false := by
        cases t : tn s (c - m)
        · rfl
        · exfalso
          obtain ⟨l, hl, e2⟩ := mem_at (mem (c - m) (by omega) t)
          rcases Nat.eq_zero_or_pos l with z | z
          · subst z; omega
          · have := sorted_at so hl z; omega
      have := tn_false f
      rw [e, per, show c - m + m + 1 = (c - m + 1) + m by omega, per, show c - m + m + 2 = (c - m + 2) + m by omega, per]
      exact this
/-- At each of its points the round turns, as they stand in the list. -/
theorem cyc_turn (w : Way s) {j : Nat} (h : j < (turnP s m).length) : detM ((turnP s m).getD ((j + (turnP s m).length - 1) % (turnP s m).length) zP) ((turnP s m).getD j zP) ((turnP s m).getD ((j + 1) % (turnP s m).length) zP) ≠ 0 := by
  rw [turn_len] at *
  have kp : 0 < (posN s m).length := by omega
  have hp : (j + (posN s m).length - 1) % (posN s m).length < (posN s m).length := Nat.mod_lt _ kp
  have hn : (j + 1) % (posN s m).length < (posN s m).length := Nat.mod_lt _ kp
  have pn : ((j + (posN s m).length - 1) % (posN s m).length + 1) % (posN s m).length = j := by
    rcases Nat.eq_zero_or_pos j with z | z
    · subst z
      rw [Nat.zero_add, Nat.mod_eq_of_lt (show (posN s m).length - 1 < (posN s m).length by omega), show (posN s m).length - 1 + 1 = (posN s m).length by omega, Nat.mod_self]
    · rw [show j + (posN s m).length - 1 = (j - 1) + (posN s m).length by omega, Nat.add_mod_right, Nat.mod_eq_of_lt (show j - 1 < (posN s m).length by omega), show j - 1 + 1 = j by omega, Nat.mod_eq_of_lt h]
  obtain ⟨b, ab, r1, eb, _⟩ := edge_run per hp
  obtain ⟨b2, ab2, r2, eb2, _⟩ := edge_run per h
  rw [pn] at eb
  rw [turn_at hp, turn_at h, turn_at hn]
  have tj := tn_true (pos_mem.1 (at_mem h)).2
  generalize (posN s m).getD j 0 = q at *
  generalize (posN s m).getD ((j + 1) % (posN s m).length) 0 = q2 at *
  generalize (posN s m).getD ((j + (posN s m).length - 1) % (posN s m).length) 0 = q0 at *
  have e1 : s b = s q ∧ s (b + 1) = s (q + 1) := by
    rcases eb with x | x
    · rw [x]; exact ⟨rfl, rfl⟩
    · rw [x]; exact ⟨per q, by rw [show q + m + 1 = (q + 1) + m by omega, per]⟩
  have e2 : s (b2 + 1) = s (q2 + 1) := by
    rcases eb2 with x | x
    · rw [x]
    · rw [x, show q2 + m + 1 = (q2 + 1) + m by omega, per]
  have := turn_ends w ab r1 ab2 r2 e1.2.symm (by rw [e1.1, e1.2]; exact tj)
  rw [e1.2, e2] at this
  exact this
theorem turn_three (w : Way s) (h : turnP s m ≠ []) : 3 ≤ (turnP s m).length := by
  have kp : 0 < (turnP s m).length := List.length_pos_iff.2 h
  apply Classical.byContradiction
  intro x
  have c := cyc_turn per w kp
  have hk : (turnP s m).length = 1 ∨ (turnP s m).length = 2 := by omega
  rcases hk with k | k <;> rw [k] at c
  · exact c (det_first _ _)
  · exact c (det_first _ _)
end
/-- The points from which the borders of a round go. -/
def wayS (L : List (Pt × Pt)) (i : Nat) (b : Nat) : Pt := (edg L (itN (nextsM L) i b)).1
theorem it_add (N : List Nat) (i : Nat) : ∀ a b, itN N i (a + b) = itN N (itN N i a) b
  | a, 0 => rfl
  | a, b + 1 => by
    have ih := it_add N i a b
    rw [← Nat.add_assoc, itN, itN, ih]
theorem it_per {N : List Nat} {i m : Nat} (mi : itN N i m = i) (b : Nat) : itN N i (b + m) = itN N i b := by
  rw [Nat.add_comm, it_add, mi]
theorem way_per {L : List (Pt × Pt)} {i m : Nat} (mi : itN (nextsM L) i m = i) (b : Nat) : wayS L i (b + m) = wayS L i b := by
  unfold wayS; rw [it_per mi]
section
variable {A B : List (List Pt)} (sA : Sound A) (sB : Sound B) (op : Int)
include sA sB
theorem way_end {i : Nat} (hi : i < (bordM op (piecesM A B)).length) (b : Nat) : (edg (bordM op (piecesM A B)) (itN (nextsM (bordM op (piecesM A B))) i b)).2 = wayS (bordM op (piecesM A B)) i (b + 1) := (it_chain sA sB op hi b).symm
theorem way_of {i : Nat} (hi : i < (bordM op (piecesM A B)).length) : Way (wayS (bordM op (piecesM A B)) i) := by
  have lt := it_lt (nexts_pm sA sB op) hi
  have en := way_end sA sB op hi
  have nice := fun b => bord_nice sA sB op (edg_mem (lt b))
  refine ⟨fun b => (nice b).1.d, fun b => ?_, fun b h => ?_⟩
  · have n := nice b
    rw [en] at n
    cases b1 : befB (wayS (bordM op (piecesM A B)) i b) (wayS (bordM op (piecesM A B)) i (b + 1))
    · cases b2 : befB (wayS (bordM op (piecesM A B)) i (b + 1)) (wayS (bordM op (piecesM A B)) i b)
      · exact absurd (canon_eq n.1.2 n.2.1.2 b1 b2) n.2.2
      · exact .inr rfl
    · exact .inl rfl
  · have m1 := edg_mem (lt b)
    have m2 := edg_mem (lt (b + 1))
    have e1 : edg (bordM op (piecesM A B)) (itN (nextsM (bordM op (piecesM A B))) i b) = (wayS (bordM op (piecesM A B)) i b, wayS (bordM op (piecesM A B)) i (b + 1)) := Prod.ext rfl (en b)
    have e2 : edg (bordM op (piecesM A B)) (itN (nextsM (bordM op (piecesM A B))) i (b + 1)) = (wayS (bordM op (piecesM A B)) i (b + 1), wayS (bordM op (piecesM A B)) i (b + 2)) := Prod.ext rfl (en (b + 1))
    rw [e1] at m1
    rw [e2] at m2
    refine bord_opp sA sB op m1 m2 ?_
    rw [det_back, h]; rfl
theorem pts_turn {i : Nat} (hi : i < (bordM op (piecesM A B)).length) : ∀ c a, ptsN (bordM op (piecesM A B)) (nextsM (bordM op (piecesM A B))) i a c = ((List.range' a c).filter (tn (wayS (bordM op (piecesM A B)) i))).map (fun b => wayS (bordM op (piecesM A B)) i (b + 1))
  | 0, a => by rw [ptsN]; rfl
  | c + 1, a => by
    have en := way_end sA sB op hi
    rw [ptsN, pts_turn hi c (a + 1), List.range'_succ, List.filter_cons]
    have e1 : turnB (edg (bordM op (piecesM A B)) (itN (nextsM (bordM op (piecesM A B))) i a)) (edg (bordM op (piecesM A B)) (itN (nextsM (bordM op (piecesM A B))) i (a + 1))) = tn (wayS (bordM op (piecesM A B)) i) a := by
      unfold turnB tn
      rw [en a, en (a + 1)]; rfl
    rw [e1, en a]
    cases tn (wayS (bordM op (piecesM A B)) i) a
    · rfl
    · rfl
theorem pts_turnP {i : Nat} (hi : i < (bordM op (piecesM A B)).length) (m : Nat) : ptsN (bordM op (piecesM A B)) (nextsM (bordM op (piecesM A B))) i 0 m = turnP (wayS (bordM op (piecesM A B)) i) m := pts_turn sA sB op hi m 0
end
/-! The rings, each with where it begins. -/
structure Rd (L : List (Pt × Pt)) (z : Nat × Nat) : Prop where
  lt : z.1 < L.length
  one : 1 ≤ z.2
  per : itN (nextsM L) z.1 z.2 = z.1
  min : ∀ a, 1 ≤ a → a < z.2 → itN (nextsM L) z.1 a ≠ z.1
def ringAtL (L : List (Pt × Pt)) (z : Nat × Nat) : List Pt := leastL (ptsN L (nextsM L) z.1 0 z.2) (ptsN L (nextsM L) z.1 0 z.2).length
/-- No border of the one is one of the other. -/
def Sep (L : List (Pt × Pt)) (z y : Nat × Nat) : Prop := ∀ a b, itN (nextsM L) z.1 a ≠ itN (nextsM L) y.1 b
theorem rins_perm (w : List Pt) : ∀ R : List (List Pt), (rinsL R w).Perm (w :: R)
  | [] => List.Perm.refl _
  | x :: R => by
    rw [rins_cc]
    split
    · exact ((rins_perm w R).cons x).trans (List.Perm.swap _ _ _)
    · exact List.Perm.refl _
section
variable {A B : List (List Pt)} (sA : Sound A) (sB : Sound B) (op : Int)
include sA sB
theorem rounds : ∀ k, k ≤ (bordM op (piecesM A B)).length → ∃ I : List (Nat × Nat), (rringsN (bordM op (piecesM A B)) k).1.Perm (I.map (ringAtL (bordM op (piecesM A B)))) ∧ I.Pairwise (Sep (bordM op (piecesM A B))) ∧ (∀ z ∈ I, Rd (bordM op (piecesM A B)) z) ∧ ∀ z ∈ I, ∀ a, (rringsN (bordM op (piecesM A B)) k).2.getD (itN (nextsM (bordM op (piecesM A B))) z.1 a) false = true
  | 0, _ => ⟨[], by simp [rringsN], List.Pairwise.nil, fun z hz => (by cases hz), fun z hz => (by cases hz)⟩
  | k + 1, hk => by
    obtain ⟨I, h1, h2, h3, h4⟩ := rounds k (by omega)
    obtain ⟨_, tl, wh, _, _⟩ := rings_eq sA sB op k (by omega)
    have pm := nexts_pm sA sB op
    have hkl : k < (bordM op (piecesM A B)).length := by omega
    rw [rringsN]
    unfold rstepR
    cases seen : (rringsN (bordM op (piecesM A B)) k).2.getD k false
    · rw [if_neg (by decide)]
      obtain ⟨m, m1, mn, mi, ml, ew⟩ := walk_round (bordM op (piecesM A B)) pm hkl tl (fun a => (wh.it pm hkl a).trans seen)
      rw [ew]
      dsimp only
      refine ⟨(k, m) :: I, ?_, ?_, ?_, ?_⟩
      · exact (rins_perm _ _).trans (h1.cons _)
      · refine List.pairwise_cons.2 ⟨fun y hy a b e => ?_, h2⟩
        have s1 := h4 y hy b
        rw [← e, wh.it pm hkl a, seen] at s1
        cases s1
      · intro z hz
        rcases List.mem_cons.1 hz with rfl | hz
        · exact ⟨hkl, m1, mi, ml⟩
        · exact h3 z hz
      · intro z hz a
        rcases List.mem_cons.1 hz with rfl | hz
        · have lt := it_lt pm hkl a
          rw [setN_at (by rw [tl]; exact lt)]
          right
          refine ⟨a % m, Nat.mod_lt _ (by omega), ?_⟩
          have red : ∀ q c, itN (nextsM (bordM op (piecesM A B))) k (c + q * m) = itN (nextsM (bordM op (piecesM A B))) k c := by
            intro q
            induction q with
            | zero => intro c; rw [Nat.zero_mul, Nat.add_zero]
            | succ q ih => intro c; rw [Nat.succ_mul, ← Nat.add_assoc, it_per mi, ih]
          have := red (a / m) (a % m)
          rw [Nat.mul_comm, Nat.mod_add_div] at this
          exact this.symm
        · have lt := it_lt pm (h3 z hz).lt a
          rw [setN_at (by rw [tl]; exact lt)]
          exact .inl (h4 z hz a)
    · rw [if_pos rfl]
      exact ⟨I, h1, h2, h3, h4⟩
theorem rounds_all : ∃ I : List (Nat × Nat), (ringsM (bordM op (piecesM A B))).Perm (I.map (ringAtL (bordM op (piecesM A B)))) ∧ I.Pairwise (Sep (bordM op (piecesM A B))) ∧ ∀ z ∈ I, Rd (bordM op (piecesM A B)) z := by
  obtain ⟨I, h1, h2, h3, _⟩ := rounds sA sB op _ (Nat.le_refl _)
  refine ⟨I, ?_, h2, h3⟩
  unfold ringsM
  rw [(rings_eq sA sB op _ (Nat.le_refl _)).1]
  exact h1
end
end Go.Proofs.Ytnkcbephceollab
