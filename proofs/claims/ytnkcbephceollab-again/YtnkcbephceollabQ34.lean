import Derived.Test.YtnkcbephceollabQ33
namespace Go.Proofs.Ytnkcbephceollab
set_option linter.unusedSimpArgs false
set_option linter.unusedVariables false

/-- Have two edges more than one place in common? -/
def ovB (e f : Pt × Pt) : Bool :=
  decide (detM e.1 e.2 f.1 = 0) && (decide (detM e.1 e.2 f.2 = 0) && (befB (if befB e.2 e.1 = true then e.2 else e.1) (if befB f.2 f.1 = true then f.1 else f.2) && befB (if befB f.2 f.1 = true then f.2 else f.1) (if befB e.2 e.1 = true then e.1 else e.2)))
/-- The borders of a run. -/
def jOf (L : List (Pt × Pt)) (i a b : Nat) (n : Nat) : Prop := ∃ c, a ≤ c ∧ c ≤ b ∧ n = itN (nextsM L) i c
section
variable {A B : List (List Pt)} (sA : Sound A) (sB : Sound B) (op : Int)
include sA sB
theorem run_chn {i a b : Nat} (hi : i < (bordM op (piecesM A B)).length) (ab : a ≤ b) (h : Run (wayS (bordM op (piecesM A B)) i) a b) :
    (befB (wayS (bordM op (piecesM A B)) i a) (wayS (bordM op (piecesM A B)) i (b + 1)) = true ∧ Chn (bordM op (piecesM A B)) (wayS (bordM op (piecesM A B)) i a) (wayS (bordM op (piecesM A B)) i (b + 1)) (jOf (bordM op (piecesM A B)) i a b)) ∨
    (befB (wayS (bordM op (piecesM A B)) i (b + 1)) (wayS (bordM op (piecesM A B)) i a) = true ∧ Chn (bordM op (piecesM A B)) (wayS (bordM op (piecesM A B)) i (b + 1)) (wayS (bordM op (piecesM A B)) i a) (jOf (bordM op (piecesM A B)) i a b)) := by
  have w := way_of sA sB op hi
  have lt := it_lt (nexts_pm sA sB op) hi
  have en := way_end sA sB op hi
  have ed : ∀ c, edg (bordM op (piecesM A B)) (itN (nextsM (bordM op (piecesM A B))) i c) = (wayS (bordM op (piecesM A B)) i c, wayS (bordM op (piecesM A B)) i (c + 1)) := fun c => Prod.ext rfl (en c)
  have rl := run_line w ab h
  generalize hs : wayS (bordM op (piecesM A B)) i = s at *
  have sub : ∀ k, a + k ≤ b → Run s a (a + k) := fun k hk c h1 h2 => h c h1 (by omega)
  rcases w.two a with f | f
  · left
    have top := run_fwd w f (b - a) (by rw [show a + (b - a) = b by omega]; exact h)
    rw [show a + (b - a) = b by omega] at top
    refine ⟨top.2.1, b - a + 1, fun k => s (a + k), fun k => itN (nextsM (bordM op (piecesM A B))) i (a + k), by omega, rfl, by show s (a + (b - a + 1)) = _; rw [show a + (b - a + 1) = b + 1 by omega], fun k hk => ?_, fun k hk => ?_, top.2.1⟩
    · have q := run_fwd w f k (sub k (by omega))
      refine ⟨q.1, lt _, .inl (ed (a + k)), a + k, by omega, by omega, rfl⟩
    · by_cases e : k = b - a + 1
      · subst e
        show detM _ _ (s (a + (b - a + 1))) = 0
        rw [show a + (b - a + 1) = b + 1 by omega]; exact det_last _ _
      · have q := run_fwd w f k (sub k (by omega))
        exact (rl.1 _).2 q.2.2.1
  · right
    have top := run_bwd w f (b - a) (by rw [show a + (b - a) = b by omega]; exact h)
    rw [show a + (b - a) = b by omega] at top
    have fl : ∀ p q x : Pt, detM p q x = 0 ↔ detM q p x = 0 := fun p q x => by rw [det_back q p x]; omega
    refine ⟨top.2.1, b - a + 1, fun k => s (b + 1 - k), fun k => itN (nextsM (bordM op (piecesM A B))) i (b - k), by omega, rfl, by show s (b + 1 - (b - a + 1)) = _; rw [show b + 1 - (b - a + 1) = a by omega], fun k hk => ?_, fun k hk => ?_, top.2.1⟩
    · have q := run_bwd w f (b - k - a) (sub (b - k - a) (by omega))
      rw [show a + (b - k - a) = b - k by omega] at q
      have e1 : b + 1 - k = b - k + 1 := by omega
      have e2 : b + 1 - (k + 1) = b - k := by omega
      refine ⟨by show befB (s (b + 1 - k)) (s (b + 1 - (k + 1))) = true; rw [e1, e2]; exact q.1, lt _, .inr ?_, b - k, by omega, by omega, rfl⟩
      show edg _ (itN _ i (b - k)) = (s (b + 1 - (k + 1)), s (b + 1 - k))
      rw [e1, e2]; exact ed (b - k)
    · show detM (s (b + 1)) (s a) (s (b + 1 - k)) = 0
      rw [fl, rl.1]
      by_cases e : k = 0
      · subst e
        rw [fl]
        exact top.2.2.2
      · have q := run_bwd w f (b + 1 - k - a) (sub (b + 1 - k - a) (by omega))
        rw [show a + (b + 1 - k - a) = b + 1 - k by omega] at q
        rw [fl]; exact q.2.2.1
/-- Runs that lie along each other have a border in common. -/
theorem run_share {i a b i' a' b' : Nat} (hi : i < (bordM op (piecesM A B)).length) (ab : a ≤ b) (h : Run (wayS (bordM op (piecesM A B)) i) a b) (hi' : i' < (bordM op (piecesM A B)).length) (ab' : a' ≤ b') (h' : Run (wayS (bordM op (piecesM A B)) i') a' b')
    (ov : ovB (wayS (bordM op (piecesM A B)) i a, wayS (bordM op (piecesM A B)) i (b + 1)) (wayS (bordM op (piecesM A B)) i' a', wayS (bordM op (piecesM A B)) i' (b' + 1)) = true) : ∃ n, jOf (bordM op (piecesM A B)) i a b n ∧ jOf (bordM op (piecesM A B)) i' a' b' n := by
  have c1 := run_chn sA sB op hi ab h
  have c2 := run_chn sA sB op hi' ab' h'
  generalize wayS (bordM op (piecesM A B)) i a = p at *
  generalize wayS (bordM op (piecesM A B)) i (b + 1) = q at *
  generalize wayS (bordM op (piecesM A B)) i' a' = p' at *
  generalize wayS (bordM op (piecesM A B)) i' (b' + 1) = q' at *
  unfold ovB at ov
  dsimp only at ov
  simp only [Bool.and_eq_true, decide_eq_true_eq] at ov
  obtain ⟨d1, d2, o1, o2⟩ := ov
  have fl : ∀ p q x : Pt, detM p q x = 0 ↔ detM q p x = 0 := fun p q x => by rw [det_back q p x]; omega
  rcases c1 with ⟨b1, c1⟩ | ⟨b1, c1⟩ <;> rcases c2 with ⟨b2, c2⟩ | ⟨b2, c2⟩
  · have n1 : ¬ befB q p = true := by rw [bef_asym b1]; decide
    have n2 : ¬ befB q' p' = true := by rw [bef_asym b2]; decide
    rw [if_neg n1, if_neg n2] at o1 o2
    exact share sA sB op c1 c2 d1 d2 o1 o2
  · have n1 : ¬ befB q p = true := by rw [bef_asym b1]; decide
    rw [if_neg n1, if_pos b2] at o1 o2
    exact share sA sB op c1 c2 d2 d1 o1 o2
  · have n2 : ¬ befB q' p' = true := by rw [bef_asym b2]; decide
    rw [if_pos b1, if_neg n2] at o1 o2
    exact share sA sB op c1 c2 ((fl _ _ _).1 d1) ((fl _ _ _).1 d2) o1 o2
  · rw [if_pos b1, if_pos b2] at o1 o2
    exact share sA sB op c1 c2 ((fl _ _ _).1 d2) ((fl _ _ _).1 d1) o1 o2
end
/-! The edges of a round. -/
theorem ringEdges_at {r : List Pt} {j : Nat} (h : j < r.length) : (ringEdges r).getD j (zP, zP) = (r.getD j zP, r.getD ((j + 1) % r.length) zP) := by
  unfold ringEdges
  rw [List.getD_eq_getElem?_getD, List.getElem?_map, List.getElem?_range h]
  show edgeAt r j = _
  unfold edgeAt
  by_cases e : j + 1 = r.length
  · rw [if_pos e, e, Nat.mod_self]
  · rw [if_neg e, Nat.mod_eq_of_lt (by omega)]
theorem edge_run2 {s : Nat → Pt} {m : Nat} (per : ∀ b, s (b + m) = s b) {j : Nat} (h : j < (posN s m).length) : ∃ b, (posN s m).getD j 0 + 1 ≤ b ∧ Run s ((posN s m).getD j 0 + 1) b ∧ s (b + 1) = (turnP s m).getD ((j + 1) % (posN s m).length) zP ∧ (j + 1 < (posN s m).length → b = (posN s m).getD (j + 1) 0) ∧ (j + 1 = (posN s m).length → b = (posN s m).getD 0 0 + m) := by
  obtain ⟨b, h1, h2, h3, h4⟩ := edge_run per h
  have so := pos_sorted s m
  have hn : (j + 1) % (posN s m).length < (posN s m).length := Nat.mod_lt _ (by omega)
  refine ⟨b, h1, h2, ?_, fun x => ?_, fun x => ?_⟩
  · rw [turn_at hn]
    rcases h3 with e | e
    · rw [e]
    · rw [e, show (posN s m).getD ((j + 1) % (posN s m).length) 0 + m + 1 = ((posN s m).getD ((j + 1) % (posN s m).length) 0 + 1) + m by omega, per]
  · rw [Nat.mod_eq_of_lt x] at h3
    have := sorted_at so x (show j < j + 1 by omega)
    omega
  · rw [x, Nat.mod_self] at h3
    have : (posN s m).getD 0 0 ≤ (posN s m).getD j 0 := by
      rcases Nat.eq_zero_or_pos j with z | z
      · rw [z]; exact Nat.le_refl _
      · exact Nat.le_of_lt (sorted_at so h z)
    omega
section
variable {A B : List (List Pt)} (sA : Sound A) (sB : Sound B) (op : Int)
include sA sB
/-- Edges of one round do not lie along each other. -/
theorem same_round {z : Nat × Nat} (hz : Rd (bordM op (piecesM A B)) z) {j j' : Nat} (jj : j < j') (h : j' < (turnP (wayS (bordM op (piecesM A B)) z.1) z.2).length) :
    ovB ((ringEdges (turnP (wayS (bordM op (piecesM A B)) z.1) z.2)).getD j (zP, zP)) ((ringEdges (turnP (wayS (bordM op (piecesM A B)) z.1) z.2)).getD j' (zP, zP)) = false ∧ ovB ((ringEdges (turnP (wayS (bordM op (piecesM A B)) z.1) z.2)).getD j' (zP, zP)) ((ringEdges (turnP (wayS (bordM op (piecesM A B)) z.1) z.2)).getD j (zP, zP)) = false := by
  have per := way_per hz.per
  have pm := nexts_pm sA sB op
  rw [ringEdges_at (by omega), ringEdges_at h, turn_len]
  have so := pos_sorted (wayS (bordM op (piecesM A B)) z.1) z.2
  have hl := turn_len (s := wayS (bordM op (piecesM A B)) z.1) (m := z.2)
  rw [hl] at h
  have hj : j < (posN (wayS (bordM op (piecesM A B)) z.1) z.2).length := by omega
  obtain ⟨b, a1, r1, e1, n1, _⟩ := edge_run2 per hj
  obtain ⟨b', a1', r1', e1', n1', l1'⟩ := edge_run2 per h
  rw [turn_at hj, turn_at h, ← e1, ← e1']
  have lt := (pos_mem.1 (at_mem h)).1
  have nb := n1 (by omega)
  have q1 := sorted_at so h jj
  have q2 : (posN (wayS (bordM op (piecesM A B)) z.1) z.2).getD (j + 1) 0 ≤ (posN (wayS (bordM op (piecesM A B)) z.1) z.2).getD j' 0 := by
    rcases Nat.lt_or_ge (j + 1) j' with x | x
    · exact Nat.le_of_lt (sorted_at so h x)
    · rw [show j' = j + 1 by omega]; exact Nat.le_refl _
  have q0 : (posN (wayS (bordM op (piecesM A B)) z.1) z.2).getD 0 0 ≤ (posN (wayS (bordM op (piecesM A B)) z.1) z.2).getD j 0 := by
    rcases Nat.eq_zero_or_pos j with x | x
    · rw [x]; exact Nat.le_refl _
    · exact Nat.le_of_lt (sorted_at so hj x)
  have up : b' ≤ (posN (wayS (bordM op (piecesM A B)) z.1) z.2).getD j 0 + z.2 := by
    by_cases x : j' + 1 < (posN (wayS (bordM op (piecesM A B)) z.1) z.2).length
    · rw [n1' x]
      have := (pos_mem.1 (at_mem x)).1
      omega
    · rw [l1' (by omega)]; omega
  have no : ∀ n, jOf (bordM op (piecesM A B)) z.1 ((posN (wayS (bordM op (piecesM A B)) z.1) z.2).getD j 0 + 1) b n → jOf (bordM op (piecesM A B)) z.1 ((posN (wayS (bordM op (piecesM A B)) z.1) z.2).getD j' 0 + 1) b' n → False := fun n k1 k2 => by
    obtain ⟨c, c1, c2, rfl⟩ := k1
    obtain ⟨c', c1', c2', e⟩ := k2
    have := it_down pm hz.lt c c' (by omega) e
    exact hz.min (c' - c) (by omega) (by omega) this
  constructor
  · cases o : ovB _ _
    · rfl
    · obtain ⟨n, k1, k2⟩ := run_share sA sB op hz.lt a1 r1 hz.lt a1' r1' o
      exact (no n k1 k2).elim
  · cases o : ovB _ _
    · rfl
    · obtain ⟨n, k1, k2⟩ := run_share sA sB op hz.lt a1' r1' hz.lt a1 r1 o
      exact (no n k2 k1).elim
/-- Edges of two rounds do not lie along each other. -/
theorem two_rounds {z y : Nat × Nat} (hz : Rd (bordM op (piecesM A B)) z) (hy : Rd (bordM op (piecesM A B)) y) (se : Sep (bordM op (piecesM A B)) z y) {j j' : Nat} (hj : j < (turnP (wayS (bordM op (piecesM A B)) z.1) z.2).length) (h : j' < (turnP (wayS (bordM op (piecesM A B)) y.1) y.2).length) :
    ovB ((ringEdges (turnP (wayS (bordM op (piecesM A B)) z.1) z.2)).getD j (zP, zP)) ((ringEdges (turnP (wayS (bordM op (piecesM A B)) y.1) y.2)).getD j' (zP, zP)) = false ∧ ovB ((ringEdges (turnP (wayS (bordM op (piecesM A B)) y.1) y.2)).getD j' (zP, zP)) ((ringEdges (turnP (wayS (bordM op (piecesM A B)) z.1) z.2)).getD j (zP, zP)) = false := by
  rw [ringEdges_at hj, ringEdges_at h, turn_len, turn_len]
  rw [turn_len] at hj h
  obtain ⟨b, a1, r1, e1, _, _⟩ := edge_run2 (way_per hz.per) hj
  obtain ⟨b', a1', r1', e1', _, _⟩ := edge_run2 (way_per hy.per) h
  rw [turn_at hj, turn_at h, ← e1, ← e1']
  have no : ∀ n a b a' b', jOf (bordM op (piecesM A B)) z.1 a b n → jOf (bordM op (piecesM A B)) y.1 a' b' n → False := fun n a b a' b' k1 k2 => by
    obtain ⟨c, _, _, rfl⟩ := k1
    obtain ⟨c', _, _, e⟩ := k2
    exact se c c' e
  constructor
  · cases o : ovB _ _
    · rfl
    · obtain ⟨n, k1, k2⟩ := run_share sA sB op hz.lt a1 r1 hy.lt a1' r1' o
      exact (no n _ _ _ _ k1 k2).elim
  · cases o : ovB _ _
    · rfl
    · obtain ⟨n, k1, k2⟩ := run_share sA sB op hy.lt a1' r1' hz.lt a1 r1 o
      exact (no n _ _ _ _ k2 k1).elim
end
def Dj (e f : Pt × Pt) : Prop := ovB e f = false ∧ ovB f e = false
theorem Dj.sym {e f : Pt × Pt} (h : Dj e f) : Dj f e := ⟨h.2, h.1⟩
theorem re_len (r : List Pt) : (ringEdges r).length = r.length := by unfold ringEdges; simp
theorem at_getD {l : List (Pt × Pt)} {i : Nat} (h : i < l.length) : l.getD i (zP, zP) = l[i] := by
  rw [List.getD_eq_getElem?_getD, List.getElem?_eq_getElem h]; rfl
theorem ringEdges_rot {P : List Pt} {i : Nat} (hi : i < P.length) : ringEdges (rotL P i) = (ringEdges P).drop i ++ (ringEdges P).take i := by
  have hl := rot_full (P := P) (i := i) (by omega)
  have np : 0 < P.length := by omega
  apply List.ext_getElem
  · rw [re_len, hl, List.length_append, List.length_drop, List.length_take, re_len]; omega
  · intro j h1 h2
    rw [re_len, hl] at h1
    rw [← at_getD, ringEdges_at (by rw [hl]; exact h1), hl, rot_at hi h1, rot_at hi (Nat.mod_lt _ np), mod_shift np]
    have q : (i + j) % P.length < P.length := Nat.mod_lt _ np
    have e2 : ((i + j) % P.length + 1) % P.length = (i + (j + 1)) % P.length := by
      rw [← Nat.add_assoc, Nat.add_mod, Nat.mod_mod, ← Nat.add_mod]
    have e3 := ringEdges_at q
    rw [e2] at e3
    rw [← e3]
    by_cases c : i + j < P.length
    · rw [List.getElem_append_left (by rw [List.length_drop, re_len]; omega), List.getElem_drop, at_getD (by rw [re_len]; exact q)]
      congr 1
      exact Nat.mod_eq_of_lt c
    · rw [List.getElem_append_right (by rw [List.length_drop, re_len]; omega), List.getElem_take, at_getD (by rw [re_len]; exact q)]
      congr 1
      rw [List.length_drop, re_len, show i + j = (i + j - P.length) + P.length by omega, Nat.add_mod_right, Nat.mod_eq_of_lt (by omega)]
      omega
theorem ringEdges_least {P : List Pt} (h : 0 < P.length) : (ringEdges (leastL P P.length)).Perm (ringEdges P) := by
  obtain ⟨i, hi, e⟩ := least_is (P := P) P.length (by omega)
  rw [e, ringEdges_rot hi]
  have := List.take_append_drop i (ringEdges P)
  conv => rhs; rw [← this]
  exact List.perm_append_comm
section
variable {A B : List (List Pt)} (sA : Sound A) (sB : Sound B) (op : Int)
include sA sB
theorem round_dj {z : Nat × Nat} (hz : Rd (bordM op (piecesM A B)) z) : (ringEdges (turnP (wayS (bordM op (piecesM A B)) z.1) z.2)).Pairwise Dj := by
  rw [List.pairwise_iff_getElem]
  intro i j hi hj ij
  have hj' := hj
  rw [re_len] at hj'
  have := same_round sA sB op hz ij hj'
  rw [at_getD hi, at_getD hj] at this
  exact this
theorem ring_edges {z : Nat × Nat} (hz : Rd (bordM op (piecesM A B)) z) : (ringEdges (ringAtL (bordM op (piecesM A B)) z)).Perm (ringEdges (turnP (wayS (bordM op (piecesM A B)) z.1) z.2)) := by
  have ne := ring_turns sA sB op hz.lt hz.one hz.per
  unfold ringAtL
  have e := pts_turnP sA sB op hz.lt z.2
  rw [e] at ne ⊢
  exact ringEdges_least (List.length_pos_iff.2 ne)
/-- No two edges of the rings lie along each other. -/
theorem rings_dj : (edgesM (ringsM (bordM op (piecesM A B)))).Pairwise Dj := by
  obtain ⟨I, h1, h2, h3⟩ := rounds_all sA sB op
  have p : (edgesM (ringsM (bordM op (piecesM A B)))).Perm (edgesM (I.map (ringAtL (bordM op (piecesM A B))))) := by
    unfold edgesM
    exact h1.flatMap_right _
  rw [p.pairwise_iff (fun {x y} h => h.sym)]
  unfold edgesM
  rw [List.flatMap_map, List.pairwise_flatMap]
  constructor
  · intro z hz
    rw [(ring_edges sA sB op (h3 z hz)).pairwise_iff (fun {x y} h => h.sym)]
    exact round_dj sA sB op (h3 z hz)
  · refine h2.imp_of_mem fun {z y} mz my se e he f hf => ?_
    have he' := (ring_edges sA sB op (h3 z mz)).mem_iff.1 he
    have hf' := (ring_edges sA sB op (h3 y my)).mem_iff.1 hf
    obtain ⟨j, hj, ej⟩ := List.getElem_of_mem he'
    obtain ⟨j', hj', ej'⟩ := List.getElem_of_mem hf'
    have k := hj
    have k' := hj'
    rw [re_len] at k k'
    have := two_rounds sA sB op (h3 z mz) (h3 y my) se k k'
    rw [at_getD hj, at_getD hj', ej, ej'] at this
    exact this
end
end Go.Proofs.Ytnkcbephceollab
