import Derived.Test.YtnkcbephceollaaS1
namespace Go.Proofs.Ytnkcbephceollaa
set_option linter.unusedSimpArgs false
set_option linter.unusedVariables false

/-! What is moved. -/
def mv (x y : Int) (p : Pt) : Pt := ⟨p.x + x * p.d, p.y + y * p.d, p.d⟩
def mvE (x y : Int) (e : Pt × Pt) : Pt × Pt := (mv x y e.1, mv x y e.2)
def mvM (x y : Int) (m : Mt) : Mt := ⟨m.k, mv x y m.p, mv x y m.q⟩
section
variable (x y : Int)
theorem mv_z : mv x y zP = zP := by unfold mv zP; simp
theorem mvE_z : mvE x y (zP, zP) = (zP, zP) := by unfold mvE; rw [mv_z]
theorem mvM_z : mvM x y zM = zM := by unfold mvM zM; rw [mv_z]
theorem det_mv (a b c : Pt) : detM (mv x y a) (mv x y b) (mv x y c) = detM a b c := by unfold detM mv; grind
theorem mvx (p q : Pt) : (mv x y p).x * (mv x y q).d - (mv x y q).x * (mv x y p).d = p.x * q.d - q.x * p.d := by unfold mv; grind
theorem mvy (p q : Pt) : (mv x y p).y * (mv x y q).d - (mv x y q).y * (mv x y p).d = p.y * q.d - q.y * p.d := by unfold mv; grind
theorem cmp_mv (p q : Pt) : cmpM (mv x y p) (mv x y q) = cmpM p q := by unfold cmpM; rw [mvx, mvy]
theorem first_mv (p q : Pt) : firstM (mv x y p) (mv x y q) = mv x y (firstM p q) := by unfold firstM; rw [cmp_mv]; split <;> rfl
theorem last_mv (p q : Pt) : lastM (mv x y p) (mv x y q) = mv x y (lastM p q) := by unfold lastM; rw [cmp_mv]; split <;> rfl
theorem span_mv (a b p : Pt) : spanM (mv x y a) (mv x y b) (mv x y p) = spanM a b p := by unfold spanM; rw [first_mv, last_mv, cmp_mv, cmp_mv]
theorem side_mv (a b p : Pt) : sideM (mv x y a) (mv x y b) (mv x y p) = sideM a b p := by unfold sideM; rw [first_mv, last_mv, det_mv]
theorem has_mv (a b p : Pt) : hasM (mv x y a) (mv x y b) (mv x y p) = hasM a b p := by unfold hasM; rw [first_mv, last_mv, cmp_mv, cmp_mv, side_mv]
theorem sideOf_mv (p q a b : Pt) : sideOfM (mv x y p) (mv x y q) (mv x y a) (mv x y b) = sideOfM p q a b := by unfold sideOfM; rw [side_mv, side_mv]
theorem leftE_mv (p q a b : Pt) : leftE (mv x y p) (mv x y q) (mv x y a) (mv x y b) = leftE p q a b := by unfold leftE; rw [span_mv, sideOf_mv]
theorem rightE_mv (p q a b : Pt) : rightE (mv x y p) (mv x y q) (mv x y a) (mv x y b) = rightE p q a b := by unfold rightE; rw [span_mv, sideOf_mv]

theorem dvd_gcd3 (k a b c : Int) : k ∣ gcdM (gcdM a b) c ↔ k ∣ a ∧ k ∣ b ∧ k ∣ c := by
  unfold gcdM
  constructor
  · intro h
    have h1 := Int.dvd_trans h (Int.gcd_dvd_left ((Int.gcd a b : Nat) : Int) c)
    have h2 := Int.dvd_trans h (Int.gcd_dvd_right ((Int.gcd a b : Nat) : Int) c)
    exact ⟨Int.dvd_trans h1 (Int.gcd_dvd_left a b), Int.dvd_trans h1 (Int.gcd_dvd_right a b), h2⟩
  · rintro ⟨h1, h2, h3⟩
    exact Int.dvd_coe_gcd (Int.dvd_coe_gcd h1 h2) h3
theorem gcd3_mv (a b d : Int) : gcdM (gcdM (a + x * d) (b + y * d)) d = gcdM (gcdM a b) d := by
  have n1 : 0 ≤ gcdM (gcdM (a + x * d) (b + y * d)) d := by unfold gcdM; omega
  have n2 : 0 ≤ gcdM (gcdM a b) d := by unfold gcdM; omega
  have key : ∀ k : Int, k ∣ gcdM (gcdM (a + x * d) (b + y * d)) d ↔ k ∣ gcdM (gcdM a b) d := fun k => by
    rw [dvd_gcd3, dvd_gcd3]
    constructor
    · rintro ⟨h1, h2, h3⟩
      exact ⟨(Int.dvd_add_left (Int.dvd_mul_of_dvd_right h3)).1 h1, (Int.dvd_add_left (Int.dvd_mul_of_dvd_right h3)).1 h2, h3⟩
    · rintro ⟨h1, h2, h3⟩
      exact ⟨Int.dvd_add h1 (Int.dvd_mul_of_dvd_right h3), Int.dvd_add h2 (Int.dvd_mul_of_dvd_right h3), h3⟩
  exact Int.dvd_antisymm n1 n2 ((key _).1 (Int.dvd_refl _)) ((key _).2 (Int.dvd_refl _))
theorem tdiv_mv (a d g : Int) (hg : g ≠ 0) (h1 : g ∣ a) (h2 : g ∣ d) : (a + x * d).tdiv g = a.tdiv g + x * d.tdiv g := by
  obtain ⟨a', rfl⟩ := h1
  obtain ⟨d', rfl⟩ := h2
  have e : g * a' + x * (g * d') = g * (a' + x * d') := by grind
  rw [e, Int.mul_tdiv_cancel_left _ hg, Int.mul_tdiv_cancel_left _ hg, Int.mul_tdiv_cancel_left _ hg]
theorem least_mv (p : Pt) : leastM (mv x y p) = mv x y (leastM p) := by
  have e : gcdM (gcdM (mv x y p).x (mv x y p).y) (mv x y p).d = gcdM (gcdM p.x p.y) p.d := gcd3_mv x y p.x p.y p.d
  unfold leastM
  rw [e]
  split
  · rfl
  · rename_i h
    have dv := (dvd_gcd3 (gcdM (gcdM p.x p.y) p.d) p.x p.y p.d).1 (Int.dvd_refl _)
    generalize gcdM (gcdM p.x p.y) p.d = g at *
    show (⟨(p.x + x * p.d).tdiv g, (p.y + y * p.d).tdiv g, p.d.tdiv g⟩ : Pt) = ⟨p.x.tdiv g + x * p.d.tdiv g, p.y.tdiv g + y * p.d.tdiv g, p.d.tdiv g⟩
    rw [tdiv_mv x _ _ _ h dv.1 dv.2.2, tdiv_mv y _ _ _ h dv.2.1 dv.2.2]
theorem mv_dx {p q : Pt} (hp : p.d = 1) (hq : q.d = 1) : (mv x y p).x - (mv x y q).x = p.x - q.x := by
  show (p.x + x * p.d) - (q.x + x * q.d) = _
  rw [hp, hq]; omega
theorem mv_dy {p q : Pt} (hp : p.d = 1) (hq : q.d = 1) : (mv x y p).y - (mv x y q).y = p.y - q.y := by
  show (p.y + y * p.d) - (q.y + y * q.d) = _
  rw [hp, hq]; omega
theorem line_mv (a b c d : Pt) : lineM (mv x y a) (mv x y b) (mv x y c) (mv x y d) = mvM x y (lineM a b c d) := by
  unfold lineM
  dsimp only
  rw [first_mv, first_mv, last_mv, last_mv, last_mv, first_mv, cmp_mv]
  split
  · rw [mvM_z]
  · split
    · unfold mvM; rw [mv_z]
    · rfl
theorem across_mv {a b c d : Pt} (ha : a.d = 1) (hb : b.d = 1) (hc : c.d = 1) (hd : d.d = 1) : acrossM (mv x y a) (mv x y b) (mv x y c) (mv x y d) = mvM x y (acrossM a b c d) := by
  have e1 : (mv x y b).x - (mv x y a).x = b.x - a.x := mv_dx x y hb ha
  have e2 : (mv x y b).y - (mv x y a).y = b.y - a.y := mv_dy x y hb ha
  have e3 : (mv x y d).x - (mv x y c).x = d.x - c.x := mv_dx x y hd hc
  have e4 : (mv x y d).y - (mv x y c).y = d.y - c.y := mv_dy x y hd hc
  have e5 : (mv x y c).x - (mv x y a).x = c.x - a.x := mv_dx x y hc ha
  have e6 : (mv x y c).y - (mv x y a).y = c.y - a.y := mv_dy x y hc ha
  unfold acrossM
  dsimp only
  rw [e1, e2, e3, e4, e5, e6]
  generalize (if crossM (b.x - a.x) (b.y - a.y) (d.x - c.x) (d.y - c.y) < 0 then -crossM (b.x - a.x) (b.y - a.y) (d.x - c.x) (d.y - c.y) else crossM (b.x - a.x) (b.y - a.y) (d.x - c.x) (d.y - c.y)) = w
  generalize (if crossM (b.x - a.x) (b.y - a.y) (d.x - c.x) (d.y - c.y) < 0 then -crossM (c.x - a.x) (c.y - a.y) (d.x - c.x) (d.y - c.y) else crossM (c.x - a.x) (c.y - a.y) (d.x - c.x) (d.y - c.y)) = s
  generalize (if crossM (b.x - a.x) (b.y - a.y) (d.x - c.x) (d.y - c.y) < 0 then -crossM (c.x - a.x) (c.y - a.y) (b.x - a.x) (b.y - a.y) else crossM (c.x - a.x) (c.y - a.y) (b.x - a.x) (b.y - a.y)) = t
  split
  · rw [mvM_z]
  · have ep : (⟨(mv x y a).x * w + (b.x - a.x) * s, (mv x y a).y * w + (b.y - a.y) * s, w⟩ : Pt) = mv x y ⟨a.x * w + (b.x - a.x) * s, a.y * w + (b.y - a.y) * s, w⟩ := by
      unfold mv
      simp only [Pt.mk.injEq, and_true, ha]
      constructor <;> grind
    rw [ep, least_mv]
    unfold mvM
    rw [mv_z]
theorem meet_mv {a b c d : Pt} (ha : a.d = 1) (hb : b.d = 1) (hc : c.d = 1) (hd : d.d = 1) : meetM (mv x y a) (mv x y b) (mv x y c) (mv x y d) = mvM x y (meetM a b c d) := by
  have e1 : (mv x y b).x - (mv x y a).x = b.x - a.x := mv_dx x y hb ha
  have e2 : (mv x y b).y - (mv x y a).y = b.y - a.y := mv_dy x y hb ha
  have e3 : (mv x y d).x - (mv x y c).x = d.x - c.x := mv_dx x y hd hc
  have e4 : (mv x y d).y - (mv x y c).y = d.y - c.y := mv_dy x y hd hc
  have e5 : (mv x y c).x - (mv x y a).x = c.x - a.x := mv_dx x y hc ha
  have e6 : (mv x y c).y - (mv x y a).y = c.y - a.y := mv_dy x y hc ha
  unfold meetM
  rw [e1, e2, e3, e4]
  split
  · unfold parM
    rw [e1, e2, e5, e6]
    split
    · rw [mvM_z]
    · exact line_mv x y a b c d
  · exact across_mv x y ha hb hc hd
/-! Rows. -/
theorem getD_mv (l : List Pt) (i : Nat) : (l.map (mv x y)).getD i zP = mv x y (l.getD i zP) := by
  rw [List.getD_eq_getElem?_getD, List.getD_eq_getElem?_getD, List.getElem?_map]
  cases l[i]? with
  | none => exact (mv_z x y).symm
  | some p => rfl
theorem edg_mv (L : List (Pt × Pt)) (i : Nat) : edg (L.map (mvE x y)) i = mvE x y (edg L i) := by
  unfold edg
  rw [List.getD_eq_getElem?_getD, List.getD_eq_getElem?_getD, List.getElem?_map]
  cases L[i]? with
  | none => exact (mvE_z x y).symm
  | some p => rfl
theorem idx_mv (l : List Pt) (p : Pt) : ∀ i, idxL (l.map (mv x y)) (mv x y p) i = idxL l p i
  | 0 => rfl
  | i + 1 => by unfold idxL; rw [getD_mv, cmp_mv, idx_mv l p i]
theorem ins_mv (l : List Pt) (p : Pt) : insM (l.map (mv x y)) (mv x y p) = (insM l p).map (mv x y) := by
  unfold insM
  rw [List.length_map, idx_mv, getD_mv, cmp_mv]
  split
  · rfl
  · rw [List.map_append, List.map_take, List.map_cons, List.map_drop]
theorem step_mv (s : List Pt) (m : Mt) : stepM (s.map (mv x y)) (mvM x y m) = (stepM s m).map (mv x y) := by
  unfold stepM
  show (if m.k = 2 then insM (if m.k ≠ 0 then insM (s.map (mv x y)) (mv x y m.p) else s.map (mv x y)) (mv x y m.q) else (if m.k ≠ 0 then insM (s.map (mv x y)) (mv x y m.p) else s.map (mv x y))) = _
  by_cases h0 : m.k = 0
  · rw [if_neg (by omega), if_neg (by simpa using h0), if_neg (by omega), if_neg (by simpa using h0)]
  · rw [if_pos h0, if_pos h0]
    by_cases h2 : m.k = 2
    · rw [if_pos h2, if_pos h2, ins_mv, ins_mv]
    · rw [if_neg h2, if_neg h2, ins_mv]
/-- Edges between points whose D is 1. -/
def D1 (E : List (Pt × Pt)) : Prop := ∀ e ∈ E, e.1.d = 1 ∧ e.2.d = 1
theorem sfold_mv {e : Pt × Pt} (he : e.1.d = 1 ∧ e.2.d = 1) : ∀ (F : List (Pt × Pt)), D1 F → ∀ s : List Pt, (F.map (mvE x y)).foldl (fun s f => stepM s (meetM (mvE x y e).1 (mvE x y e).2 f.1 f.2)) (s.map (mv x y)) = (F.foldl (fun s f => stepM s (meetM e.1 e.2 f.1 f.2)) s).map (mv x y)
  | [], _, s => rfl
  | f :: F, h, s => by
    have hf := h f List.mem_cons_self
    rw [List.map_cons, List.foldl_cons, List.foldl_cons]
    have e1 : meetM (mvE x y e).1 (mvE x y e).2 (mvE x y f).1 (mvE x y f).2 = mvM x y (meetM e.1 e.2 f.1 f.2) := meet_mv x y he.1 he.2 hf.1 hf.2
    rw [e1, step_mv]
    exact sfold_mv he F (fun g hg => h g (List.mem_cons_of_mem _ hg)) _
theorem ofold_mv {E : List (Pt × Pt)} (hE : D1 E) : ∀ (F : List (Pt × Pt)), D1 F → ∀ s : List Pt, (F.map (mvE x y)).foldl (fun s e => (E.map (mvE x y)).foldl (fun s f => stepM s (meetM e.1 e.2 f.1 f.2)) s) (s.map (mv x y)) = (F.foldl (fun s e => E.foldl (fun s f => stepM s (meetM e.1 e.2 f.1 f.2)) s) s).map (mv x y)
  | [], _, s => rfl
  | f :: F, h, s => by
    rw [List.map_cons, List.foldl_cons, List.foldl_cons, sfold_mv x y (h f List.mem_cons_self) E hE]
    exact ofold_mv hE F (fun g hg => h g (List.mem_cons_of_mem _ hg)) _
theorem spots_mv {E : List (Pt × Pt)} (hE : D1 E) : spotsM (E.map (mvE x y)) = (spotsM E).map (mv x y) := ofold_mv x y hE E hE []
theorem find_mv (e : Pt × Pt) : ∀ S : List Pt, (S.map (mv x y)).find? (fun q => hasM (mvE x y e).1 (mvE x y e).2 q) = (S.find? (fun q => hasM e.1 e.2 q)).map (mv x y)
  | [] => rfl
  | q :: S => by
    rw [List.map_cons, List.find?_cons, List.find?_cons]
    have e1 : hasM (mvE x y e).1 (mvE x y e).2 (mv x y q) = hasM e.1 e.2 q := has_mv x y _ _ _
    rw [e1]
    cases hasM e.1 e.2 q
    · exact find_mv e S
    · rfl
theorem neigh_mv (p : Pt) (S : List Pt) : ∀ (E : List (Pt × Pt)) (l : List Pt),
    (E.map (mvE x y)).foldl (fun l e => if hasM e.1 e.2 (mv x y p) = true then (match (S.map (mv x y)).find? (fun q => hasM e.1 e.2 q) with | some q => insM l q | none => l) else l) (l.map (mv x y)) = (E.foldl (fun l e => if hasM e.1 e.2 p = true then (match S.find? (fun q => hasM e.1 e.2 q) with | some q => insM l q | none => l) else l) l).map (mv x y)
  | [], l => rfl
  | e :: E, l => by
    rw [List.map_cons, List.foldl_cons, List.foldl_cons, ← neigh_mv p S E]
    congr 1
    have e1 : hasM (mvE x y e).1 (mvE x y e).2 (mv x y p) = hasM e.1 e.2 p := has_mv x y _ _ _
    rw [e1, find_mv]
    cases hasM e.1 e.2 p
    · rfl
    · rw [if_pos rfl, if_pos rfl]
      cases S.find? (fun q => hasM e.1 e.2 q) with
      | none => rfl
      | some q => exact ins_mv x y l q
theorem pairs_mv (E : List (Pt × Pt)) : ∀ S : List Pt, pairsL (E.map (mvE x y)) (S.map (mv x y)) = (pairsL E S).map (mvE x y)
  | [] => rfl
  | p :: S => by
    rw [List.map_cons, pairsL, pairsL, pairs_mv E S, List.map_append]
    congr 1
    have e1 : neighM (mv x y p) (S.map (mv x y)) (E.map (mvE x y)) = (neighM p S E).map (mv x y) := neigh_mv x y p S E []
    rw [e1, List.map_map, List.map_map]; rfl
theorem par_mv {f g : Pt → Pt → Bool} (h : ∀ a b, f (mv x y a) (mv x y b) = g a b) : ∀ E : List (Pt × Pt), parB f (E.map (mvE x y)) = parB g E
  | [] => rfl
  | e :: E => by
    rw [List.map_cons, parB, parB, par_mv h E]
    have : f (mvE x y e).1 (mvE x y e).2 = g e.1 e.2 := h _ _
    rw [this]
def mvR (P : List (List Pt)) : List (List Pt) := P.map (fun r => r.map (mv x y))
theorem edgeAt_mv (r : List Pt) (j : Nat) : edgeAt (r.map (mv x y)) j = mvE x y (edgeAt r j) := by
  unfold edgeAt mvE
  rw [List.length_map, getD_mv, getD_mv]
theorem ringEdges_mv (r : List Pt) : ringEdges (r.map (mv x y)) = (ringEdges r).map (mvE x y) := by
  unfold ringEdges
  rw [List.length_map, List.map_map]
  exact List.map_congr_left fun j _ => edgeAt_mv x y r j
theorem edges_mv (P : List (List Pt)) : edgesM (mvR x y P) = (edgesM P).map (mvE x y) := by
  unfold edgesM mvR
  rw [List.flatMap_map, List.map_flatMap]
  congr 1
  funext r
  exact ringEdges_mv x y r
def mvP (z : Pc) : Pc := ⟨mv x y z.p, mv x y z.q, z.la, z.ra, z.lb, z.rb⟩
theorem pieces_mv {A B : List (List Pt)} (hE : D1 (edgesM A ++ edgesM B)) : piecesM (mvR x y A) (mvR x y B) = (piecesM A B).map (mvP x y) := by
  unfold piecesM
  rw [edges_mv, edges_mv, ← List.map_append, spots_mv x y hE, pairs_mv, List.map_map, List.map_map]
  refine List.map_congr_left fun z _ => ?_
  show pcOf ((edgesM A).map (mvE x y)) ((edgesM B).map (mvE x y)) (mvE x y z) = mvP x y (pcOf (edgesM A) (edgesM B) z)
  unfold pcOf mvP
  have l := fun E => par_mv x y (f := leftE (mvE x y z).1 (mvE x y z).2) (g := leftE z.1 z.2) (fun a b => leftE_mv x y _ _ a b) E
  have r := fun E => par_mv x y (f := rightE (mvE x y z).1 (mvE x y z).2) (g := rightE z.1 z.2) (fun a b => rightE_mv x y _ _ a b) E
  rw [l, l, r, r]; rfl
theorem bord_mv (op : Int) (l : List Pc) : bordM op (l.map (mvP x y)) = (bordM op l).map (mvE x y) := by
  unfold bordM
  rw [List.flatMap_map, List.map_flatMap]
  congr 1
  funext z
  unfold bordOf mvP
  dsimp only
  rw [List.map_append]
  congr 1
  · split <;> rfl
  · split <;> rfl
theorem ahead_mv (p q : Pt) (e : Pt × Pt) : aheadM (mv x y p) (mv x y q) (mvE x y e) = aheadM p q e := by
  unfold aheadM mvE
  dsimp only
  rw [det_mv, det_mv, det_mv]
theorem fol_mv (L : List (Pt × Pt)) (i : Nat) : ∀ k, folM (L.map (mvE x y)) i k = folM L i k
  | 0 => rfl
  | k + 1 => by
    rw [folM, folM, fol_mv L i k, edg_mv, edg_mv, edg_mv]
    have e1 : cmpM (mvE x y (edg L k)).1 (mvE x y (edg L i)).2 = cmpM (edg L k).1 (edg L i).2 := cmp_mv x y _ _
    have e2 : aheadM (mvE x y (edg L k)).2 (mvE x y (edg L (folM L i k))).2 (mvE x y (edg L i)) = aheadM (edg L k).2 (edg L (folM L i k)).2 (edg L i) := ahead_mv x y _ _ _
    rw [e1, e2]
theorem nexts_mv (L : List (Pt × Pt)) : nextsM (L.map (mvE x y)) = nextsM L := by
  unfold nextsM
  rw [List.length_map]
  exact List.map_congr_left fun i _ => fol_mv x y L i _
theorem walk_mv (L : List (Pt × Pt)) (N : List Nat) : ∀ (f : Nat) (t : List Bool) (k : Nat), walkM (L.map (mvE x y)) N f t k = ((walkM L N f t k).1.map (mv x y), (walkM L N f t k).2)
  | 0, t, k => rfl
  | f + 1, t, k => by
    rw [walkM, walkM, walk_mv L N f, edg_mv, edg_mv]
    have e1 : turnB (mvE x y (edg L k)) (mvE x y (edg L (N.getD k 0))) = turnB (edg L k) (edg L (N.getD k 0)) := by
      unfold turnB mvE
      dsimp only
      rw [det_mv]
    rw [e1]
    split
    · rfl
    · dsimp only
      rw [List.map_append]
      congr 2
      split <;> rfl
theorem cl_mv : ∀ l m : List Pt, clM (l.map (mv x y)) (m.map (mv x y)) = clM l m
  | [], m => by rw [List.map_nil, clM, clM, List.length_map]
  | p :: l, [] => by rw [List.map_cons, List.map_nil, clM, clM, List.length_map]
  | p :: l, q :: m => by rw [List.map_cons, List.map_cons, clM, clM, cmp_mv, cl_mv l m]
theorem rot_mv (r : List Pt) (i : Nat) : rotL (r.map (mv x y)) i = (rotL r i).map (mv x y) := by
  unfold rotL; rw [List.map_append, List.map_drop, List.map_take]
theorem leastL_mv (r : List Pt) : ∀ i, leastL (r.map (mv x y)) i = (leastL r i).map (mv x y)
  | 0 => rfl
  | i + 1 => by
    rw [leastL, leastL, leastL_mv r i, rot_mv, cl_mv]
    split <;> rfl
theorem getR_mv (R : List (List Pt)) (i : Nat) : (mvR x y R).getD i [] = (R.getD i []).map (mv x y) := by
  unfold mvR
  rw [List.getD_eq_getElem?_getD, List.getD_eq_getElem?_getD, List.getElem?_map]
  cases R[i]? with
  | none => rfl
  | some p => rfl
theorem place_mv (R : List (List Pt)) (r : List Pt) : ∀ i, placeL (mvR x y R) (r.map (mv x y)) i = placeL R r i
  | 0 => rfl
  | i + 1 => by rw [placeL, placeL, getR_mv, cl_mv, place_mv R r i]
theorem insL_mv (R : List (List Pt)) (r : List Pt) : insL (mvR x y R) (r.map (mv x y)) = mvR x y (insL R r) := by
  unfold insL
  have hl : (mvR x y R).length = R.length := by unfold mvR; simp
  rw [hl, place_mv]
  unfold mvR
  rw [List.map_append, List.map_take, List.map_cons, List.map_drop]
theorem rings_mv (L : List (Pt × Pt)) : ∀ i, ringsN (L.map (mvE x y)) i = (mvR x y (ringsN L i).1, (ringsN L i).2)
  | 0 => by rw [ringsN, ringsN, List.length_map]; rfl
  | i + 1 => by
    rw [ringsN, ringsN, rings_mv L i, nexts_mv]
    unfold stepR
    dsimp only
    rw [List.length_map, walk_mv]
    dsimp only
    rw [List.length_map, leastL_mv, insL_mv]
    split <;> rfl
theorem ringsM_mv (L : List (Pt × Pt)) : ringsM (L.map (mvE x y)) = mvR x y (ringsM L) := by
  unfold ringsM
  rw [List.length_map, rings_mv]
end
end Go.Proofs.Ytnkcbephceollaa
