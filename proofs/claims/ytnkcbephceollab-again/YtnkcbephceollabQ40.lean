import Derived.Test.YtnkcbephceollabQ39
namespace Go.Proofs.Ytnkcbephceollab
set_option linter.unusedSimpArgs false
set_option linter.unusedVariables false
set_option linter.unusedSectionVars false

/-- A place far outside from which a way to q meets no spot. -/
theorem far_way {S : List Pt} (hS : ∀ s ∈ S, goodB s = true) {q : Pt} (hq : goodB q = true) (off : ∀ s ∈ S, befB s q = true ∨ befB q s = true) : ∃ o : Pt, 0 < o.d ∧ (∀ s ∈ S, 0 < xv o s) ∧ ∀ s ∈ S, detM o q s ≠ 0 := by
  have qd := (gd_of_good hq).2
  obtain ⟨k, _, _, h, _⟩ := far_free' (q := q) (l := S) (p := q) (r := rightP q) qd (out_x hq) (fun v hv ⟨h1, h2⟩ => by
    rcases off v hv with b | b
    · rw [bef_key] at b
      have e1 : xv v q = -xv q v := by unfold xv; grind
      have e2 : yv v q = -yv q v := by unfold yv; grind
      omega
    · rw [bef_key] at b; omega) qd (out_x hq) (fun ⟨h1, _⟩ => by
    have e : xv q (rightP q) = q.d * q.d := by unfold xv rightP; grind
    have := mul_pp qd qd
    omega)
  exact ⟨outP k, by simp [outP], fun s hs => (out_xv k (hS s hs)).1, h⟩
theorem inM_none (op : Int) : inM op false false = false := by
  unfold inM
  split
  · rfl
  split
  · rfl
  split
  · rfl
  split
  · rfl
  · rfl
section
variable {A B : List (List Pt)} (sA : Sound A) (sB : Sound B) (op : Int)
include sA sB
theorem bord_piece {e : Pt × Pt} (he : e ∈ bordM op (piecesM A B)) : e ∈ prs A B ∨ (e.2, e.1) ∈ prs A B := by
  obtain ⟨x, hx, k⟩ := bord_mem he
  unfold piecesM at hx
  obtain ⟨z, hz, rfl⟩ := List.mem_map.1 hx
  rcases k with k | k
  · left; rw [k]; exact hz
  · right; rw [k]; exact hz
theorem bord_ends {e : Pt × Pt} (he : e ∈ bordM op (piecesM A B)) : e.1 ∈ spotsM (edgesM A ++ edgesM B) ∧ e.2 ∈ spotsM (edgesM A ++ edgesM B) ∧ (befB e.1 e.2 = true ∨ befB e.2 e.1 = true) := by
  rcases bord_piece sA sB op he with h | h
  · exact ⟨(prs_spots sA sB h).1, (prs_spots sA sB h).2, .inl (prs_bef sA sB h).1⟩
  · exact ⟨(prs_spots sA sB h).2, (prs_spots sA sB h).1, .inr (prs_bef sA sB h).1⟩
theorem prs_off {q : Pt} (hq : 0 < q.d) (off : ∀ e ∈ edgesM A ++ edgesM B, onB q e.1 e.2 = false) {x : Pt × Pt} (hx : x ∈ prs A B) : onB q x.1 x.2 = false := by
  obtain ⟨e, he, o1, o2, d1, d2, ne⟩ := prs_edge sA sB hx
  obtain ⟨b, pd, zd⟩ := prs_bef sA sB hx
  cases k : onB q x.1 x.2
  · rfl
  · rw [← off e he, on_sub pd zd hq d1 d2 ne o1 o2 b k]
theorem bord_off {q : Pt} (hq : 0 < q.d) (off : ∀ e ∈ edgesM A ++ edgesM B, onB q e.1 e.2 = false) {e : Pt × Pt} (he : e ∈ bordM op (piecesM A B)) : onB q e.1 e.2 = false := by
  have hS := (qs_of sA sB).sd
  obtain ⟨s1, s2, _⟩ := bord_ends sA sB op he
  rcases bord_piece sA sB op he with h | h
  · exact prs_off sA sB hq off h
  · rw [on_sw' hq (hS _ s2) (hS _ s1)]; exact prs_off sA sB hq off h
theorem spot_off {q : Pt} (hq : 0 < q.d) (off : ∀ e ∈ edgesM A ++ edgesM B, onB q e.1 e.2 = false) : ∀ s ∈ spotsM (edgesM A ++ edgesM B), befB s q = true ∨ befB q s = true := fun s hs => by
  have hG := good_both sA sB
  obtain ⟨e, he, on⟩ := spot_edge hG hs
  have ge := hG.gr e he
  cases k1 : befB s q
  · cases k2 : befB q s
    · have := same_on ((spots_spec hG).1.nc s hs).d hq (show 0 < e.1.d by have := ge.1.d; omega) (show 0 < e.2.d by have := ge.2.d; omega) k1 k2
      rw [on, off e he] at this; cases this
    · exact .inr rfl
  · exact .inl rfl
theorem way_mem {I : List (Nat × Nat)} (h3 : ∀ z ∈ I, Rd (bordM op (piecesM A B)) z) {v : Pt} (hv : v ∈ (I.map (wayR (bordM op (piecesM A B)))).flatten) : v ∈ spotsM (edgesM A ++ edgesM B) := by
  obtain ⟨r, hr, hv⟩ := List.mem_flatten.1 hv
  obtain ⟨z, hz, rfl⟩ := List.mem_map.1 hr
  unfold wayR at hv
  obtain ⟨a, _, rfl⟩ := List.mem_map.1 hv
  exact (bord_ends sA sB op (edg_mem (it_lt (nexts_pm sA sB op) (h3 z hz).lt a))).1
theorem way_sd {I : List (Nat × Nat)} (h3 : ∀ z ∈ I, Rd (bordM op (piecesM A B)) z) : Sd (I.map (wayR (bordM op (piecesM A B)))) := by
  refine ⟨fun v hv => (qs_of sA sB).sd v (way_mem sA sB op h3 hv), fun e he => ?_⟩
  unfold edgesM at he
  rw [List.flatMap_map] at he
  obtain ⟨z, hz, he⟩ := List.mem_flatMap.1 he
  rw [way_edges sA sB op (h3 z hz)] at he
  obtain ⟨i, hi, rfl⟩ := List.mem_map.1 he
  unfold idxR at hi
  obtain ⟨a, _, rfl⟩ := List.mem_map.1 hi
  exact (bord_ends sA sB op (edg_mem (it_lt (nexts_pm sA sB op) (h3 z hz).lt a))).2.2
theorem way_bord {I : List (Nat × Nat)} (h3 : ∀ z ∈ I, Rd (bordM op (piecesM A B)) z) {e : Pt × Pt} (he : e ∈ edgesM (I.map (wayR (bordM op (piecesM A B))))) : e ∈ bordM op (piecesM A B) := by
  unfold edgesM at he
  rw [List.flatMap_map] at he
  obtain ⟨z, hz, he⟩ := List.mem_flatMap.1 he
  rw [way_edges sA sB op (h3 z hz)] at he
  obtain ⟨i, hi, rfl⟩ := List.mem_map.1 he
  unfold idxR at hi
  obtain ⟨a, _, rfl⟩ := List.mem_map.1 hi
  exact edg_mem (it_lt (nexts_pm sA sB op) (h3 z hz).lt a)
/-- A place that is on no edge is in the result just where the operation says so: by the borders. -/
theorem agree_way {I : List (Nat × Nat)} (h3 : ∀ z ∈ I, Rd (bordM op (piecesM A B)) z) (h4 : (I.flatMap (idxR (bordM op (piecesM A B)))).Perm (List.range (bordM op (piecesM A B)).length)) {q : Pt} (gq : goodB q = true) (off : ∀ e ∈ edgesM A ++ edgesM B, onB q e.1 e.2 = false) :
    parB (overB q) (edgesM (I.map (wayR (bordM op (piecesM A B))))) = inM op (parB (overB q) (edgesM A)) (parB (overB q) (edgesM B)) := by
  have hG := good_both sA sB
  have hq := (gd_of_good gq).2
  have wA := webA sA sB
  have wB := webB sA sB
  obtain ⟨o, od, far, gen⟩ := far_way (fun s hs => ((spots_spec hG).1.nc s hs).1) gq (spot_off sA sB hq off)
  have T := way_T (qs_of sA sB) od far wA wB (inM op) (inM_none op) _ q hq gen (Nat.le_refl _)
  have P := bord_par (g := crossB o q) (fun a b => cross_sw2 o q a b) op (edgesM A) (edgesM B) (prs A B)
  have eP : (prs A B).map (pcOf (edgesM A) (edgesM B)) = piecesM A B := rfl
  rw [eP, T] at P
  have pA := parity_up od hq wA.sd.pd (fun v hv => far v (wA.pts v hv)) (fun v hv => gen v (wA.pts v hv)) (fun e he => off e (List.mem_append.2 (.inl he)))
  have pB := parity_up od hq wB.sd.pd (fun v hv => far v (wB.pts v hv)) (fun v hv => gen v (wB.pts v hv)) (fun e he => off e (List.mem_append.2 (.inr he)))
  have pW := parity_up (P := I.map (wayR (bordM op (piecesM A B)))) od hq (way_sd sA sB op h3).pd (fun v hv => far v (way_mem sA sB op h3 hv)) (fun v hv => gen v (way_mem sA sB op h3 hv)) (fun e he => bord_off sA sB op hq off (way_bord sA sB op h3 he))
  rw [← pW, parB_perm (ways_perm sA sB op h3 h4), P, pA, pB]
/-- A ring, and the borders that it goes along. -/
theorem ring_way {z : Nat × Nat} (hz : Rd (bordM op (piecesM A B)) z) {q : Pt} (hq : 0 < q.d) (offB : ∀ e ∈ ringEdges (wayR (bordM op (piecesM A B)) z), onB q e.1 e.2 = false) :
    (∀ e ∈ ringEdges (ringAtL (bordM op (piecesM A B)) z), onB q e.1 e.2 = false) ∧ parB (overB q) (ringEdges (ringAtL (bordM op (piecesM A B)) z)) = parB (overB q) (ringEdges (wayR (bordM op (piecesM A B)) z)) := by
  have w := way_of sA sB op hz.lt
  have per := way_per hz.per
  have en := way_end sA sB op hz.lt
  have ne : turnP (wayS (bordM op (piecesM A B)) z.1) z.2 ≠ [] := by
    rw [← pts_turnP sA sB op hz.lt]; exact ring_turns sA sB op hz.lt hz.one hz.per
  have ned : posN (wayS (bordM op (piecesM A B)) z.1) z.2 ≠ [] := fun k => ne (by unfold turnP; rw [k]; rfl)
  have eW : ringEdges (wayR (bordM op (piecesM A B)) z) = (List.range' 0 z.2).map (fun c => (wayS (bordM op (piecesM A B)) z.1 c, wayS (bordM op (piecesM A B)) z.1 (c + 1))) := by
    rw [way_edges sA sB op hz]
    unfold idxR
    rw [List.map_map, List.range_eq_range']
    exact List.map_congr_left fun c _ => Prod.ext rfl (en c)
  have offc : ∀ c, onB q (wayS (bordM op (piecesM A B)) z.1 c) (wayS (bordM op (piecesM A B)) z.1 (c + 1)) = false := fun c => by
    have m1 := it_mod sA sB op hz c
    have e1 : wayS (bordM op (piecesM A B)) z.1 c = wayS (bordM op (piecesM A B)) z.1 (c % z.2) := by unfold wayS; rw [m1]
    have e2 : wayS (bordM op (piecesM A B)) z.1 (c + 1) = wayS (bordM op (piecesM A B)) z.1 (c % z.2 + 1) := by rw [← en c, ← en (c % z.2), m1]
    rw [e1, e2]
    refine offB (wayS (bordM op (piecesM A B)) z.1 (c % z.2), wayS (bordM op (piecesM A B)) z.1 (c % z.2 + 1)) ?_
    rw [eW]
    exact List.mem_map.2 ⟨c % z.2, by rw [← List.range_eq_range']; exact List.mem_range.2 (Nat.mod_lt _ (by have := hz.one; omega)), rfl⟩
  have run : ∀ a b, a ≤ b → Run (wayS (bordM op (piecesM A B)) z.1) a b → onB q (wayS (bordM op (piecesM A B)) z.1 a) (wayS (bordM op (piecesM A B)) z.1 (b + 1)) = false ∧ overB q (wayS (bordM op (piecesM A B)) z.1 a) (wayS (bordM op (piecesM A B)) z.1 (b + 1)) = sumX (fun c => overB q (wayS (bordM op (piecesM A B)) z.1 c) (wayS (bordM op (piecesM A B)) z.1 (c + 1))) a (b + 1 - a) := fun a b ab r => by
    obtain ⟨k, rfl⟩ : ∃ k, b = a + k := ⟨b - a, by omega⟩
    have := over_run w hq k r (fun c _ _ => offc c)
    rw [show a + k + 1 - a = k + 1 by omega]
    exact this
  have rp := ring_edges sA sB op hz
  constructor
  · intro e he
    have he := rp.mem_iff.1 he
    obtain ⟨j, hj, ej⟩ := List.getElem_of_mem he
    have hj' : j < (posN (wayS (bordM op (piecesM A B)) z.1) z.2).length := by rw [re_len, turn_len] at hj; exact hj
    obtain ⟨b, h1, h2, h3, _, _⟩ := edge_run2 per hj'
    have er := ringEdges_at (r := turnP (wayS (bordM op (piecesM A B)) z.1) z.2) (j := j) (by rw [turn_len]; exact hj')
    rw [at_getD hj, ej, turn_len, turn_at hj', ← h3] at er
    rw [er]
    exact (run _ _ h1 h2).1
  · rw [parB_perm rp, turn_sum per (h := fun c => overB q (wayS (bordM op (piecesM A B)) z.1 c) (wayS (bordM op (piecesM A B)) z.1 (c + 1))) (fun c => by
      show overB q (wayS _ z.1 (c + z.2)) (wayS _ z.1 (c + z.2 + 1)) = _
      rw [per, show c + z.2 + 1 = (c + 1) + z.2 by omega, per]) (fun a b ab r => (run a b ab r).2) ned, eW]
    exact (sumX_par (overB q) (fun c => (wayS (bordM op (piecesM A B)) z.1 c, wayS (bordM op (piecesM A B)) z.1 (c + 1))) 0 z.2).symm
/-- A place that is on no edge is in the result just where the operation says so. -/
theorem agree_rings {q : Pt} (gq : goodB q = true) (off : ∀ e ∈ edgesM A ++ edgesM B, onB q e.1 e.2 = false) :
    (∀ e ∈ edgesM (ringsM (bordM op (piecesM A B))), onB q e.1 e.2 = false) ∧ parB (overB q) (edgesM (ringsM (bordM op (piecesM A B)))) = inM op (parB (overB q) (edgesM A)) (parB (overB q) (edgesM B)) := by
  obtain ⟨I, h1, h2, h3, h4⟩ := rounds_whole sA sB op
  have hq := (gd_of_good gq).2
  have pe : (edgesM (ringsM (bordM op (piecesM A B)))).Perm (edgesM (I.map (ringAtL (bordM op (piecesM A B))))) := by
    unfold edgesM; exact h1.flatMap_right _
  have rw_ : ∀ z ∈ I, (∀ e ∈ ringEdges (ringAtL (bordM op (piecesM A B)) z), onB q e.1 e.2 = false) ∧ parB (overB q) (ringEdges (ringAtL (bordM op (piecesM A B)) z)) = parB (overB q) (ringEdges (wayR (bordM op (piecesM A B)) z)) := fun z hz => by
    refine ring_way sA sB op (h3 z hz) hq (fun e he => ?_)
    refine bord_off sA sB op hq off (way_bord sA sB op h3 ?_)
    unfold edgesM
    rw [List.flatMap_map]
    exact List.mem_flatMap.2 ⟨z, hz, he⟩
  constructor
  · intro e he
    have he := pe.mem_iff.1 he
    unfold edgesM at he
    rw [List.flatMap_map] at he
    obtain ⟨z, hz, he⟩ := List.mem_flatMap.1 he
    exact (rw_ z hz).1 e he
  · rw [← agree_way sA sB op h3 h4 gq off, parB_perm pe]
    clear pe h1 h2 h4 h3
    unfold edgesM
    rw [List.flatMap_map, List.flatMap_map]
    induction I with
    | nil => rfl
    | cons z I ih =>
      rw [List.flatMap_cons, List.flatMap_cons, parB_app, parB_app, (rw_ z List.mem_cons_self).2, ih (fun y hy => rw_ y (List.mem_cons_of_mem _ hy))]
end
/-! As Locate tells it. -/
theorem where_two {P : List (List Pt)} {q : Pt} (pd : ∀ v ∈ P.flatten, 0 < v.d) (hq : 0 < q.d) (h : whereM q 0 (edgesM P) ≠ 2) : ∀ e ∈ edgesM P, onB q e.1 e.2 = false := fun e he => by
  cases k : onB q e.1 e.2
  · rfl
  · obtain ⟨m1, m2⟩ := edge_ends he
    exact absurd (whereM_two q _ 0 (List.any_eq_true.2 ⟨e, he, by rw [has_on (pd _ m1) (pd _ m2) hq]; exact k⟩)) h
theorem where_of {P : List (List Pt)} {q : Pt} (pd : ∀ v ∈ P.flatten, 0 < v.d) (hq : 0 < q.d) (off : ∀ e ∈ edgesM P, onB q e.1 e.2 = false) : whereM q 0 (edgesM P) = if parB (overB q) (edgesM P) = true then 1 else 0 := by
  rw [whereM_eq q _ 0 (.inl rfl)]
  · have : parB (fun a b => overM a b q) (edgesM P) = parB (overB q) (edgesM P) := parB_congr fun e he => by
      obtain ⟨m1, m2⟩ := edge_ends he
      exact over_eq (pd _ m1) (pd _ m2) hq
    rw [this]; simp
  · rw [Bool.eq_false_iff]
    intro k
    obtain ⟨e, he, h⟩ := List.any_eq_true.1 k
    obtain ⟨m1, m2⟩ := edge_ends he
    rw [has_on (pd _ m1) (pd _ m2) hq, off e he] at h
    cases h
theorem loc_few {P : List (List Pt)} (few : (edgesM P).length ≤ 2000) (gd : ∀ v ∈ P.flatten, goodB v = true) (q : Pt) : locM P q = if goodB q = false then (0, 3) else (whereM q 0 (edgesM P), 0) := by
  unfold locM
  rw [moreM_ok P 2000 (by omega), if_neg (by decide)]
  by_cases g : goodB q = false
  · rw [if_pos g, if_pos g]
  · rw [if_neg g, if_neg g]
    have : (edgesM P).all (fun e => goodB e.1) = true := List.all_eq_true.2 fun e he => gd _ (edge_ends he).1
    rw [this, if_neg (by decide)]
theorem gr_good {v : Pt} (hv : Gr v) : goodB v = true := (nice_gr hv).1
/-- What Agrees asks. -/
theorem agree_loc {A B : List (List Pt)} (c1 : (checkM A).1 = 0) (c2 : (checkM B).1 = 0) (op : Int) (q : Pt) :
    (goodB q = false ∧ locM A q = (0, 3) ∧ locM B q = (0, 3) ∧ locM (ringsM (bordM op (piecesM A B))) q = (0, 3)) ∨
    (locM A q = (whereM q 0 (edgesM A), 0) ∧ locM B q = (whereM q 0 (edgesM B), 0) ∧ locM (ringsM (bordM op (piecesM A B))) q = (whereM q 0 (edgesM (ringsM (bordM op (piecesM A B)))), 0) ∧
      (whereM q 0 (edgesM A) ≠ 2 → whereM q 0 (edgesM B) ≠ 2 → whereM q 0 (edgesM (ringsM (bordM op (piecesM A B)))) = if inM op (decide (whereM q 0 (edgesM A) = 1)) (decide (whereM q 0 (edgesM B) = 1)) = true then 1 else 0)) := by
  have sA := sound_of c1
  have sB := sound_of c2
  have fA := check_few c1
  have fB := check_few c2
  have fR := rings_bound c1 c2 op
  have nR : ∀ v ∈ (ringsM (bordM op (piecesM A B))).flatten, Nice v := fun v hv => by
    obtain ⟨r, hr, hv⟩ := List.mem_flatten.1 hv
    exact ((rings_fm sA sB op).1 r hr).nice v hv
  rw [loc_few (by omega) (fun v hv => gr_good (sA.gr v hv)), loc_few (by omega) (fun v hv => gr_good (sB.gr v hv)), loc_few (by omega) (fun v hv => (nR v hv).1)]
  by_cases g : goodB q = false
  · left
    rw [if_pos g]
    exact ⟨g, rfl, by rw [if_pos g], by rw [if_pos g]⟩
  · right
    have g' : goodB q = true := by simpa using g
    have hq := (gd_of_good g').2
    rw [if_neg g, if_neg g, if_neg g]
    refine ⟨rfl, rfl, rfl, fun h1 h2 => ?_⟩
    have o1 := where_two sA.sd.pd hq h1
    have o2 := where_two sB.sd.pd hq h2
    obtain ⟨o3, e⟩ := agree_rings sA sB op g' (fun e he => by
      rcases List.mem_append.1 he with k | k
      · exact o1 e k
      · exact o2 e k)
    rw [where_of (fun v hv => (nR v hv).d) hq o3, where_of sA.sd.pd hq o1, where_of sB.sd.pd hq o2, e]
    cases parB (overB q) (edgesM A) <;> cases parB (overB q) (edgesM B) <;> simp
end Go.Proofs.Ytnkcbephceollab
