import Derived.Test.YtnkcbephceollabQ41
namespace Go.Proofs.Ytnkcbephceollab
set_option linter.unusedSimpArgs false
set_option linter.unusedVariables false
set_option linter.unusedSectionVars false

/-! A ring lies wholly within another one, or wholly without. -/
def lsd (E : List (Pt × Pt)) (e : Pt × Pt) : Bool := if befB e.1 e.2 = true then parB (leftE e.1 e.2) E else parB (leftE e.2 e.1) E
/-- The directions round a spot. -/
def dirs (A B : List (List Pt)) (v : Pt) : List (Bool × Pt) := (RS A B v).map (fun z => (true, z)) ++ (LS A B v).map (fun y => (false, y))
def dirF (op : Int) (A B : List (List Pt)) (v : Pt) (d : Bool × Pt) : Sp := if d.1 = true then onSp op A B v d.2 else backSp op A B v d.2
def dirG (P : List (List Pt)) (v : Pt) (d : Bool × Pt) : Sp := if d.1 = true then (d.2, parB (leftE v d.2) (edgesM P), parB (rightE v d.2) (edgesM P)) else (ro d.2, parB (leftE (ro v) d.2) (edgesM (roL P)), parB (rightE (ro v) d.2) (edgesM (roL P)))
theorem cyc_dirs (op : Int) (A B : List (List Pt)) (v : Pt) : Cyc op A B v = (dirs A B v).map (dirF op A B v) := by
  unfold Cyc dirs
  rw [List.map_append, List.map_map, List.map_map]; rfl
theorem lk_const {c : Bool} : ∀ {l : List Sp} {e : Bool}, (∀ x ∈ l, x.2.1 = x.2.2) → Lk c l e → c = e
  | [], _, _, h => h
  | x :: l, e, hx, h => by
    have h1 := h.1
    have := lk_const (c := x.2.2) (fun y hy => hx y (List.mem_cons_of_mem _ hy)) h.2
    rw [← h1, hx x List.mem_cons_self, this]
section
variable {A B : List (List Pt)} (sA : Sound A) (sB : Sound B) (op : Int)
include sA sB
theorem dirs_mem {v : Pt} {d : Bool × Pt} (h : d ∈ dirs A B v) : (d.1 = true ∧ (v, d.2) ∈ prs A B) ∨ (d.1 = false ∧ (ro d.2, v) ∈ prs A B) := by
  unfold dirs at h
  rcases List.mem_append.1 h with h | h
  · obtain ⟨z, hz, rfl⟩ := List.mem_map.1 h
    exact .inl ⟨rfl, RS_mem.1 hz⟩
  · obtain ⟨y, hy, rfl⟩ := List.mem_map.1 h
    exact .inr ⟨rfl, LS_mem.1 hy⟩
/-- A piece that a spot lies on begins or ends there. -/
theorem spot_end {x : Pt × Pt} (hx : x ∈ prs A B) {v : Pt} (hm : v ∈ spotsM (edgesM A ++ edgesM B)) (l : detM x.1 x.2 v = 0) (b1 : befB v x.1 = false) (b2 : befB x.2 v = false) : v = x.1 ∨ v = x.2 := by
  have hS := (spots_spec (good_both sA sB)).1
  obtain ⟨m1, m2⟩ := prs_spots sA sB hx
  cases k1 : befB x.1 v
  · exact .inl (canon_eq (hS.nc v hm).2 (hS.nc _ m1).2 b1 k1)
  · cases k2 : befB v x.2
    · exact .inr (canon_eq (hS.nc v hm).2 (hS.nc _ m2).2 k2 b2)
    · exact absurd l (prs_none sA sB hx hm k1 k2)
theorem first_last {a b : Pt} (h : befB a b = true) : (firstM a b = a ∧ lastM a b = b) ∧ firstM b a = a ∧ lastM b a = b := by
  rw [first_eq, last_eq, first_eq, last_eq, h, bef_asym h]; simp
section
variable {z : Nat × Nat} (hz : Rd (bordM op (piecesM A B)) z) {v : Pt} (hv : 0 < v.d) (hm : v ∈ spotsM (edgesM A ++ edgesM B))
include hz hv hm
theorem chain_on : Ch (fun x => parB (leftE v x) (edgesM [wayR (bordM op (piecesM A B)) z])) (fun x => parB (rightE v x) (edgesM [wayR (bordM op (piecesM A B)) z])) (nab [wayR (bordM op (piecesM A B)) z] v) (RS A B v) (nab (roL [wayR (bordM op (piecesM A B)) z]) (ro v)) := by
  obtain ⟨w1, w2, w3⟩ := way_one sA sB op hz
  refine ch_end (chain w1 hv (fun s hs => (prs_bef sA sB (RS_mem.1 hs)).1) (RS_sorted sA sB hv) fun e he ht => ?_) (join w1 hv)
  have hb := w3 e he
  -- the piece, its ends in order
  obtain ⟨x, hx, hf, hl⟩ : ∃ x ∈ prs A B, firstM e.1 e.2 = x.1 ∧ lastM e.1 e.2 = x.2 := by
    rcases bord_piece sA sB op hb with h | h
    · have := first_last sA sB (prs_bef sA sB h).1
      exact ⟨e, h, this.1.1, this.1.2⟩
    · have := first_last sA sB (prs_bef sA sB h).1
      exact ⟨(e.2, e.1), h, this.2.1, this.2.2⟩
  unfold thruE spanM sideM at ht
  rw [hf, hl] at ht
  simp only [Bool.and_eq_true, Bool.not_eq_true', decide_eq_true_eq] at ht
  obtain ⟨⟨t1, t2⟩, t3⟩ := ht
  rw [cmpB] at t1
  have t2' : befB v x.2 = true := by rw [← cmpB]; exact decide_eq_true t2
  have ev : v = x.1 := by
    rcases spot_end sA sB hx hm t3 t1 (bef_asym t2') with k | k
    · exact k
    · rw [k, bef_irr] at t2'; cases t2'
  refine ⟨x.2, t2', ?_, RS_mem.2 (by rw [ev]; exact hx)⟩
  unfold sideM
  rw [hf, hl]; exact det_last _ _
theorem chain_back : Ch (fun y => parB (leftE (ro v) y) (edgesM (roL [wayR (bordM op (piecesM A B)) z]))) (fun y => parB (rightE (ro v) y) (edgesM (roL [wayR (bordM op (piecesM A B)) z]))) (nab (roL [wayR (bordM op (piecesM A B)) z]) (ro v)) (LS A B v) (nab [wayR (bordM op (piecesM A B)) z] v) := by
  obtain ⟨w1, w2, w3⟩ := way_one sA sB op hz
  have j := join w1.ro (v := ro v) hv
  rw [roL_roL, ro_ro] at j
  refine ch_end (chain w1.ro (v := ro v) hv (fun s hs => ?_) (LS_sorted sA sB hv) fun e he ht => ?_) j
  · have := (prs_bef sA sB (LS_mem.1 hs)).1
    rw [← ro_bef, ro_ro] at this
    exact this
  · rw [ro_edges] at he
    obtain ⟨e0, he0, rfl⟩ := List.mem_map.1 he
    obtain ⟨k1, k2⟩ := thru_ro w1 hv he0 ht
    have hb := w3 e0 he0
    obtain ⟨x, hx, hf, hl⟩ : ∃ x ∈ prs A B, firstM e0.1 e0.2 = x.1 ∧ lastM e0.1 e0.2 = x.2 := by
      rcases bord_piece sA sB op hb with h | h
      · have := first_last sA sB (prs_bef sA sB h).1
        exact ⟨e0, h, this.1.1, this.1.2⟩
      · have := first_last sA sB (prs_bef sA sB h).1
        exact ⟨(e0.2, e0.1), h, this.2.1, this.2.2⟩
    rw [hf] at k2
    unfold hasM sideM at k1
    rw [hf, hl] at k1
    simp only [Bool.and_eq_true, Bool.not_eq_true', decide_eq_true_eq] at k1
    obtain ⟨t1, t2, t3⟩ := k1
    rw [cmpB] at t1
    rw [cmpB'] at t2
    have ev : v = x.2 := by
      rcases spot_end sA sB hx hm t3 t1 t2 with k | k
      · rw [k, bef_irr] at k2; cases k2
      · exact k
    refine ⟨ro x.1, by rw [ro_bef]; exact k2, ?_, LS_mem.2 (by rw [ro_ro, ev]; exact hx)⟩
    rw [side_ro (w1.ne e0 he0)]
    unfold sideM
    rw [hf, hl, det_first]; rfl
theorem way_lk : ∃ c, Lk c ((dirs A B v).map (dirG [wayR (bordM op (piecesM A B)) z] v)) c := by
  refine ⟨nab [wayR (bordM op (piecesM A B)) z] v, ?_⟩
  unfold dirs
  rw [List.map_append, List.map_map, List.map_map]
  refine lk_app.2 ⟨nab (roL [wayR (bordM op (piecesM A B)) z]) (ro v), ?_, ?_⟩
  · exact lk_map (fun _ => rfl) (fun _ => rfl) (chain_on sA sB op hz hv hm)
  · exact lk_map (fun _ => rfl) (fun _ => rfl) (chain_back sA sB op hz hv hm)
/-- Where a direction's piece is none of the round's borders: the ring has one side there. -/
theorem dir_side {d : Bool × Pt} (hd : d ∈ dirs A B v) (h1 : (v, (dirG [wayR (bordM op (piecesM A B)) z] v d).1) ∉ edgesM [wayR (bordM op (piecesM A B)) z]) (h2 : ((dirG [wayR (bordM op (piecesM A B)) z] v d).1, v) ∉ edgesM [wayR (bordM op (piecesM A B)) z]) :
    (dirG [wayR (bordM op (piecesM A B)) z] v d).2.1 = (dirG [wayR (bordM op (piecesM A B)) z] v d).2.2 ∧ lsd (edgesM [wayR (bordM op (piecesM A B)) z]) (v, (dirG [wayR (bordM op (piecesM A B)) z] v d).1) = (dirG [wayR (bordM op (piecesM A B)) z] v d).2.1 ∧ lsd (edgesM [wayR (bordM op (piecesM A B)) z]) ((dirG [wayR (bordM op (piecesM A B)) z] v d).1, v) = (dirG [wayR (bordM op (piecesM A B)) z] v d).2.1 := by
  obtain ⟨w1, w2, w3⟩ := way_one sA sB op hz
  obtain ⟨b, p⟩ := d
  rcases dirs_mem sA sB hd with ⟨e, hp⟩ | ⟨e, hp⟩
  · simp only at e hp
    subst e
    have bb := (prs_bef sA sB hp).1
    simp only at bb
    have eg : dirG [wayR (bordM op (piecesM A B)) z] v (true, p) = (p, parB (leftE v p) (edgesM [wayR (bordM op (piecesM A B)) z]), parB (rightE v p) (edgesM [wayR (bordM op (piecesM A B)) z])) := rfl
    rw [eg] at h1 h2 ⊢
    simp only at h1 h2 ⊢
    have ss : parB (leftE v p) (edgesM [wayR (bordM op (piecesM A B)) z]) = parB (rightE v p) (edgesM [wayR (bordM op (piecesM A B)) z]) := by
      rcases sides_way sA sB op hz hp with k | k | k
      · exact k
      · exact absurd k h1
      · exact absurd k h2
    refine ⟨ss, ?_, ?_⟩
    · unfold lsd; rw [if_pos bb]
    · unfold lsd; rw [if_neg (by rw [bef_asym bb]; decide)]
  · simp only at e hp
    subst e
    obtain ⟨bb, d1, d2⟩ := prs_bef sA sB hp
    simp only at bb d1 d2
    have eg : dirG [wayR (bordM op (piecesM A B)) z] v (false, p) = (ro p, parB (leftE (ro v) p) (edgesM (roL [wayR (bordM op (piecesM A B)) z])), parB (rightE (ro v) p) (edgesM (roL [wayR (bordM op (piecesM A B)) z]))) := rfl
    rw [eg] at h1 h2 ⊢
    simp only at h1 h2 ⊢
    have cl := clear_way sA sB op hz hp
    have fl := far_left w1 d1 d2 bb cl
    have fr := far_right w1 d1 d2 bb cl
    rw [ro_ro] at fl fr
    have ss : parB (leftE (ro p) v) (edgesM [wayR (bordM op (piecesM A B)) z]) = parB (rightE (ro p) v) (edgesM [wayR (bordM op (piecesM A B)) z]) := by
      rcases sides_way sA sB op hz hp with k | k | k
      · exact k
      · exact absurd k h2
      · exact absurd k h1
    refine ⟨by rw [← fl, ← fr, ss], ?_, ?_⟩
    · unfold lsd
      rw [if_neg (by rw [bef_asym bb]; decide)]
      rw [← fr, ← ss]
    · unfold lsd
      rw [if_pos bb, ← fr, ← ss]
end
theorem cyc_val {v : Pt} (hv : 0 < v.d) {x : Sp} (hx : x ∈ Cyc op A B v) (h : x.2 = (true, true)) : (v, x.1) ∉ bordM op (piecesM A B) ∧ (x.1, v) ∉ bordM op (piecesM A B) := by
  have key : ∀ y ∈ Cyc op A B v, y.1 = x.1 → y = x := fun y hy e => by
    rcases cyc_points hx with ⟨a, b⟩ | ⟨a, b⟩ <;> rcases cyc_points hy with ⟨c, d⟩ | ⟨c, d⟩
    · rw [b, d, e]
    · have k1 := (prs_bef sA sB (RS_mem.1 a)).1
      have k2 := (prs_bef sA sB (LS_mem.1 c)).1
      simp only [ro_ro] at k1 k2
      rw [e, bef_asym k1] at k2; cases k2
    · have k1 := (prs_bef sA sB (LS_mem.1 a)).1
      have k2 := (prs_bef sA sB (RS_mem.1 c)).1
      simp only [ro_ro] at k1 k2
      rw [e, bef_asym k1] at k2; cases k2
    · rw [b, d, e]
  constructor
  · intro k
    have := key _ ((begins_iff sA sB op).1 k) rfl
    rw [← this] at h
    exact absurd h (by simp)
  · intro k
    have := key _ ((ends_iff sA sB op).1 k) rfl
    rw [← this] at h
    exact absurd h (by simp)
/-- From a border to the next one of a ring: another ring has them on one side. -/
theorem same_next {z y : Nat × Nat} (hz : Rd (bordM op (piecesM A B)) z) (hy : Rd (bordM op (piecesM A B)) y) (se : Sep (bordM op (piecesM A B)) z y) (a : Nat) :
    lsd (edgesM [wayR (bordM op (piecesM A B)) y]) (edg (bordM op (piecesM A B)) (itN (nextsM (bordM op (piecesM A B))) z.1 (a + 1))) = lsd (edgesM [wayR (bordM op (piecesM A B)) y]) (edg (bordM op (piecesM A B)) (itN (nextsM (bordM op (piecesM A B))) z.1 a)) := by
  have lt := it_lt (nexts_pm sA sB op) hz.lt
  have en := way_end sA sB op hz.lt
  have me := fun c => edg_mem (lt c)
  have ee : ∀ c, edg (bordM op (piecesM A B)) (itN (nextsM (bordM op (piecesM A B))) z.1 c) = (wayS (bordM op (piecesM A B)) z.1 c, wayS (bordM op (piecesM A B)) z.1 (c + 1)) := fun c => Prod.ext rfl (en c)
  -- borders of the one are none of the other
  have inz : ∀ c, edg (bordM op (piecesM A B)) (itN (nextsM (bordM op (piecesM A B))) z.1 c) ∈ edgesM [wayR (bordM op (piecesM A B)) z] := fun c => by
    rw [edges_one', way_edges sA sB op hz]
    refine List.mem_map.2 ⟨itN (nextsM (bordM op (piecesM A B))) z.1 c, ?_, rfl⟩
    unfold idxR
    exact List.mem_map.2 ⟨c % z.2, List.mem_range.2 (Nat.mod_lt _ (by have := hz.one; omega)), it_mod sA sB op hz c⟩
  have noty : ∀ c, edg (bordM op (piecesM A B)) (itN (nextsM (bordM op (piecesM A B))) z.1 c) ∉ edgesM [wayR (bordM op (piecesM A B)) y] ∧ ((edg (bordM op (piecesM A B)) (itN (nextsM (bordM op (piecesM A B))) z.1 c)).2, (edg (bordM op (piecesM A B)) (itN (nextsM (bordM op (piecesM A B))) z.1 c)).1) ∉ edgesM [wayR (bordM op (piecesM A B)) y] := fun c => ⟨fun k => sep_way sA sB op hz hy se (.inl (inz c)) (.inl k), fun k => sep_way sA sB op hz hy se (.inl (inz c)) (.inr k)⟩
  have m1 := me a
  have n1 := noty a
  have n2 := noty (a + 1)
  -- the next one
  obtain ⟨j0, nx0, ej0⟩ := fol_is sA sB op (lt a)
  have e2 : edg (bordM op (piecesM A B)) (itN (nextsM (bordM op (piecesM A B))) z.1 (a + 1)) = ((edg (bordM op (piecesM A B)) (itN (nextsM (bordM op (piecesM A B))) z.1 a)).2, j0) := by
    rw [← ej0, itN, nexts_at _ _ (lt a)]
  rw [e2] at n2 ⊢
  generalize edg (bordM op (piecesM A B)) (itN (nextsM (bordM op (piecesM A B))) z.1 a) = e at *
  obtain ⟨p, v⟩ := e
  simp only at m1 n1 n2 nx0 ⊢
  obtain ⟨⟨hm, hv⟩, _, _⟩ := bord_spot sA sB op m1
  obtain ⟨pre, post, mid, j, rest, c1, c2, c3, c4, nx⟩ := from_end sA sB op m1
  have ej : j.1 = j0 := nx.uniq nx0
  rw [cyc_dirs] at c1
  obtain ⟨dpre, t1, dd1, dd2, dd3⟩ := List.map_eq_append_iff.1 c1
  obtain ⟨d, dpost, dd4, dd5, dd6⟩ := List.map_eq_cons_iff.1 dd3
  subst dd4
  have c2' : (dpost ++ dpre).map (dirF op A B v) = mid ++ j :: rest := by rw [List.map_append, dd6, dd2]; exact c2
  obtain ⟨dmid, t2, ff1, ff2, ff3⟩ := List.map_eq_append_iff.1 c2'
  obtain ⟨dj, drest, ff4, ff5, ff6⟩ := List.map_eq_cons_iff.1 ff3
  subst ff4
  have memD : ∀ u ∈ dpost ++ dpre, u ∈ dirs A B v := fun u hu => by
    rw [dd1]
    rcases List.mem_append.1 hu with k | k
    · exact List.mem_append.2 (.inr (List.mem_cons_of_mem _ k))
    · exact List.mem_append.2 (.inl k)
  have dD : d ∈ dirs A B v := by rw [dd1]; simp
  have djD : dj ∈ dirs A B v := memD dj (by rw [ff1]; simp)
  have dmD : ∀ u ∈ dmid, u ∈ dirs A B v := fun u hu => memD u (by rw [ff1]; simp [hu])
  have fg : ∀ u : Bool × Pt, (dirG [wayR (bordM op (piecesM A B)) y] v u).1 = (dirF op A B v u).1 := fun u => by
    unfold dirG dirF
    cases u.1 <;> rfl
  have ed : (dirG [wayR (bordM op (piecesM A B)) y] v d).1 = p := by rw [fg, dd5]
  have edj : (dirG [wayR (bordM op (piecesM A B)) y] v dj).1 = j0 := by rw [fg, ff5, ej]
  obtain ⟨w1, w2, w3⟩ := way_one sA sB op hy
  have sd := dir_side sA sB op hy hv hm dD (by rw [ed]; exact n1.2) (by rw [ed]; exact n1.1)
  have sj := dir_side sA sB op hy hv hm djD (by rw [edj]; exact n2.1) (by rw [edj]; exact n2.2)
  have sm : ∀ u ∈ dmid, (dirG [wayR (bordM op (piecesM A B)) y] v u).2.1 = (dirG [wayR (bordM op (piecesM A B)) y] v u).2.2 := fun u hu => by
    have hF : dirF op A B v u ∈ mid := by rw [← ff2]; exact List.mem_map.2 ⟨u, hu, rfl⟩
    have hC : dirF op A B v u ∈ Cyc op A B v := by rw [cyc_dirs]; exact List.mem_map.2 ⟨u, dmD u hu, rfl⟩
    have no := cyc_val sA sB op hv hC (c3 _ hF)
    rw [← fg] at no
    exact (dir_side sA sB op hy hv hm (dmD u hu) (fun k => no.1 (w3 _ k)) (fun k => no.2 (w3 _ k))).1
  obtain ⟨c, hc⟩ := way_lk sA sB op hy hv hm
  rw [dd1, List.map_append, List.map_cons] at hc
  have hr := lk_rot hc
  rw [← List.map_append, ff1, List.map_append, List.map_cons] at hr
  obtain ⟨m, l1, l2⟩ := lk_app.1 hr
  have cm := lk_const (fun x hx => by
    obtain ⟨u, hu, rfl⟩ := List.mem_map.1 hx
    exact sm u hu) l1
  have l2' : (dirG [wayR (bordM op (piecesM A B)) y] v dj).2.1 = m := l2.1
  have a1 := sj.2.1
  have a2 := sd.2.2
  rw [edj] at a1
  rw [ed] at a2
  rw [a1, a2, l2', ← cm, ← sd.1]
theorem same_all {z y : Nat × Nat} (hz : Rd (bordM op (piecesM A B)) z) (hy : Rd (bordM op (piecesM A B)) y) (se : Sep (bordM op (piecesM A B)) z y) : ∀ a, lsd (edgesM [wayR (bordM op (piecesM A B)) y]) (edg (bordM op (piecesM A B)) (itN (nextsM (bordM op (piecesM A B))) z.1 a)) = lsd (edgesM [wayR (bordM op (piecesM A B)) y]) (edg (bordM op (piecesM A B)) z.1)
  | 0 => rfl
  | a + 1 => (same_next sA sB op hz hy se a).trans (same_all hz hy se a)
end
/-! The borders of a round lie on the ring's edges. -/
theorem on_two {q x y w : Pt} (hq : 0 < q.d) (hx : 0 < x.d) (hy : 0 < y.d) (hw : 0 < w.d) (b1 : befB x y = true) (b2 : befB y w = true) (l : detM x y w = 0) (o : onB q x y = true ∨ onB q y w = true) : onB q x w = true := by
  have b3 : befB x w = true := bef_lt hy hw hx b2 b1
  have ox : onB x x w = true := on_first hx hw hx (by unfold xv; omega) (by unfold yv; omega)
  have ow : onB w x w = true := by
    rw [← on_sw' hw hx hw]
    exact on_first hw hx hw (by unfold xv; omega) (by unfold yv; omega)
  have oy : onB y x w = true := by
    unfold onB
    have l' : detM x w y = 0 := by
      have : detM x w y = -detM x y w := by unfold detM; grind
      omega
    rw [l', with_ab hy hx hw (bef_asym b1) (bef_asym b2)]; rfl
  rcases o with o | o
  · exact on_sub hx hy hq hx hw (.inl b3) ox oy b1 o
  · exact on_sub hy hw hq hx hw (.inl b3) oy ow b2 o
section
variable {s : Nat → Pt} (w : Way s)
include w
theorem run_zero {a k : Nat} (r : Run s a (a + k + 1)) : detM (s a) (s (a + k + 1)) (s (a + k + 2)) = 0 := by
  have rl := run_line w (show a ≤ a + k + 1 by omega) r
  have e1 : detM (s a) (s (a + k + 2)) (s (a + k + 1)) = 0 := by
    rw [rl.1]
    rcases w.two a with f | f
    · exact (run_fwd w f k r.tl).2.2.2
    · have := (run_bwd w f k r.tl).2.2.2
      rw [det_back] at this
      omega
  have e2 : detM (s a) (s (a + k + 1)) (s (a + k + 2)) = -detM (s a) (s (a + k + 2)) (s (a + k + 1)) := by unfold detM; grind
  omega
theorem run_on {a : Nat} {q : Pt} (hq : 0 < q.d) : ∀ k c, Run s a (a + k) → a ≤ c → c ≤ a + k → onB q (s c) (s (c + 1)) = true → onB q (s a) (s (a + k + 1)) = true
  | 0, c, _, h1, h2, o => by
    have : c = a := by omega
    rw [this] at o; exact o
  | k + 1, c, r, h1, h2, o => by
    have l0 := run_zero w r
    have oo : onB q (s a) (s (a + k + 1)) = true ∨ onB q (s (a + k + 1)) (s (a + k + 2)) = true := by
      by_cases e : c = a + k + 1
      · right; rw [e] at o; exact o
      · left; exact run_on hq k c r.tl h1 (by omega) o
    rcases w.two a with f | f
    · exact on_two hq (w.d a) (w.d (a + k + 1)) (w.d (a + k + 2)) (run_fwd w f k r.tl).2.1 (run_fwd w f (k + 1) r).1 l0 oo
    · have l1 : detM (s (a + k + 2)) (s (a + k + 1)) (s a) = 0 := by
        have : detM (s (a + k + 2)) (s (a + k + 1)) (s a) = -detM (s a) (s (a + k + 1)) (s (a + k + 2)) := by unfold detM; grind
        omega
      have := on_two hq (w.d (a + k + 2)) (w.d (a + k + 1)) (w.d a) (run_bwd w f (k + 1) r).1 (run_bwd w f k r.tl).2.1 l1 (oo.symm.imp (fun h => by rw [on_sw' hq (w.d _) (w.d _)]; exact h) (fun h => by rw [on_sw' hq (w.d _) (w.d _)]; exact h))
      rw [← on_sw' hq (w.d _) (w.d _)]
      exact this
/-- Which of the straight runs a step belongs to. -/
theorem in_run {m : Nat} (per : ∀ b, s (b + m) = s b) (ne : posN s m ≠ []) (hm : 1 ≤ m) {c : Nat} (hc : c < m) : ∃ j, j < (posN s m).length ∧ ∃ b c', (posN s m).getD j 0 + 1 ≤ c' ∧ c' ≤ b ∧ Run s ((posN s m).getD j 0 + 1) b ∧ s (b + 1) = (turnP s m).getD ((j + 1) % (posN s m).length) zP ∧ (c' = c ∨ c' = c + m) := by
  have so := pos_sorted s m
  have kp : 0 < (posN s m).length := List.length_pos_iff.2 ne
  obtain ⟨k, hk, p1, p2⟩ := least_one (P := fun k => ¬ (k < (posN s m).length ∧ (posN s m).getD k 0 < c)) (posN s m).length (by omega)
  have before : ∀ i, i < k → i < (posN s m).length ∧ (posN s m).getD i 0 < c := fun i hi => Decidable.byContradiction (p2 i hi)
  rcases Nat.eq_zero_or_pos k with z | z
  · subst z
    have q0 : c ≤ (posN s m).getD 0 0 := by
      rcases Nat.lt_or_ge ((posN s m).getD 0 0) c with x | x
      · exact absurd ⟨kp, x⟩ p1
      · exact x
    obtain ⟨b, h1, h2, h3, _, h5⟩ := edge_run2 per (j := (posN s m).length - 1) (by omega)
    have l := (pos_mem.1 (at_mem (show (posN s m).length - 1 < (posN s m).length by omega))).1
    have eb := h5 (by omega)
    exact ⟨(posN s m).length - 1, by omega, b, c + m, by omega, by omega, h2, h3, .inr rfl⟩
  · obtain ⟨b1, b2⟩ := before (k - 1) (by omega)
    obtain ⟨b, h1, h2, h3, h4, h5⟩ := edge_run2 per b1
    by_cases e : k - 1 + 1 < (posN s m).length
    · have eb := h4 e
      rw [show k - 1 + 1 = k by omega] at eb e
      have : ¬ (posN s m).getD k 0 < c := fun x => p1 ⟨e, x⟩
      exact ⟨k - 1, b1, b, c, by omega, by omega, h2, h3, .inl rfl⟩
    · have eb := h5 (by omega)
      exact ⟨k - 1, b1, b, c, by omega, by omega, h2, h3, .inl rfl⟩
end
section
variable {A B : List (List Pt)} (sA : Sound A) (sB : Sound B) (op : Int)
include sA sB
theorem pos_some {z : Nat × Nat} (hz : Rd (bordM op (piecesM A B)) z) : posN (wayS (bordM op (piecesM A B)) z.1) z.2 ≠ [] := fun k => by
  refine ring_turns sA sB op hz.lt hz.one hz.per ?_
  rw [pts_turnP sA sB op hz.lt]
  unfold turnP; rw [k]; rfl
theorem way_list {z : Nat × Nat} (hz : Rd (bordM op (piecesM A B)) z) : ringEdges (wayR (bordM op (piecesM A B)) z) = (List.range' 0 z.2).map (fun c => (wayS (bordM op (piecesM A B)) z.1 c, wayS (bordM op (piecesM A B)) z.1 (c + 1))) := by
  rw [way_edges sA sB op hz]
  unfold idxR
  rw [List.map_map, List.range_eq_range']
  exact List.map_congr_left fun c _ => Prod.ext rfl (way_end sA sB op hz.lt c)
/-- A place that is on no edge of the ring is on none of its borders. -/
theorem ring_off {z : Nat × Nat} (hz : Rd (bordM op (piecesM A B)) z) {q : Pt} (hq : 0 < q.d) (off : ∀ e ∈ ringEdges (ringAtL (bordM op (piecesM A B)) z), onB q e.1 e.2 = false) : ∀ e ∈ ringEdges (wayR (bordM op (piecesM A B)) z), onB q e.1 e.2 = false := fun e he => by
  have w := way_of sA sB op hz.lt
  have per := way_per hz.per
  rw [way_list sA sB op hz] at he
  obtain ⟨c, hc, rfl⟩ := List.mem_map.1 he
  rw [← List.range_eq_range'] at hc
  have hc := List.mem_range.1 hc
  obtain ⟨j, hj, b, c', h1, h2, h3, h4, h5⟩ := in_run w per (pos_some sA sB op hz) hz.one hc
  cases o : onB q (wayS (bordM op (piecesM A B)) z.1 c) (wayS (bordM op (piecesM A B)) z.1 (c + 1))
  · rfl
  · exfalso
    have o' : onB q (wayS (bordM op (piecesM A B)) z.1 c') (wayS (bordM op (piecesM A B)) z.1 (c' + 1)) = true := by
      rcases h5 with k | k
      · rw [k]; exact o
      · rw [k, show c + z.2 + 1 = (c + 1) + z.2 by omega, per, per]; exact o
    obtain ⟨k, rfl⟩ : ∃ k, b = (posN (wayS (bordM op (piecesM A B)) z.1) z.2).getD j 0 + 1 + k := ⟨b - ((posN (wayS (bordM op (piecesM A B)) z.1) z.2).getD j 0 + 1), by omega⟩
    have on := run_on w hq k c' h3 h1 h2 o'
    have er := ringEdges_at (r := turnP (wayS (bordM op (piecesM A B)) z.1) z.2) (j := j) (by rw [turn_len]; exact hj)
    rw [turn_len, turn_at hj, ← h4] at er
    have hj' : j < (ringEdges (turnP (wayS (bordM op (piecesM A B)) z.1) z.2)).length := by rw [re_len, turn_len]; exact hj
    have me : (ringEdges (turnP (wayS (bordM op (piecesM A B)) z.1) z.2)).getD j (zP, zP) ∈ ringEdges (ringAtL (bordM op (piecesM A B)) z) := (ring_edges sA sB op hz).mem_iff.2 (by rw [at_getD hj']; exact List.getElem_mem hj')
    have := off _ me
    rw [er, on] at this
    cases this
/-- No place of the round is ahead of the first point of its ring. -/
theorem way_least {z : Nat × Nat} (hz : Rd (bordM op (piecesM A B)) z) (c : Nat) : befB (wayS (bordM op (piecesM A B)) z.1 c) ((ringAtL (bordM op (piecesM A B)) z).getD 0 zP) = false := by
  have w := way_of sA sB op hz.lt
  have per := way_per hz.per
  have fm := ring_fm sA sB op hz
  have low : ∀ p ∈ ringAtL (bordM op (piecesM A B)) z, befB p ((ringAtL (bordM op (piecesM A B)) z).getD 0 zP) = false := fun p hp => by
    obtain ⟨i, hi, e⟩ := List.getElem_of_mem hp
    have := fm.low i hi
    rw [List.getD_eq_getElem?_getD, List.getElem?_eq_getElem hi] at this
    rw [← e]; exact this
  have fd : 0 < ((ringAtL (bordM op (piecesM A B)) z).getD 0 zP).d := (fm.nice _ (getD_mem (by have := fm.three; omega) zP)).d
  have perm : ∀ p, p ∈ turnP (wayS (bordM op (piecesM A B)) z.1) z.2 → p ∈ ringAtL (bordM op (piecesM A B)) z := fun p hp => by
    unfold ringAtL
    rw [pts_turnP sA sB op hz.lt]
    have ne : turnP (wayS (bordM op (piecesM A B)) z.1) z.2 ≠ [] := fun k => by rw [k] at hp; cases hp
    obtain ⟨i, hi, e⟩ := least_is (P := turnP (wayS (bordM op (piecesM A B)) z.1) z.2) _ (List.length_pos_iff.2 ne)
    rw [e]
    unfold rotL
    have := List.take_append_drop i (turnP (wayS (bordM op (piecesM A B)) z.1) z.2)
    rw [← this] at hp
    rcases List.mem_append.1 hp with k | k
    · exact List.mem_append.2 (.inr k)
    · exact List.mem_append.2 (.inl k)
  have hm : c % z.2 < z.2 := Nat.mod_lt _ (by have := hz.one; omega)
  have ec : wayS (bordM op (piecesM A B)) z.1 c = wayS (bordM op (piecesM A B)) z.1 (c % z.2) := by unfold wayS; rw [it_mod sA sB op hz c]
  rw [ec]
  obtain ⟨j, hj, b, c', h1, h2, h3, h4, h5⟩ := in_run w per (pos_some sA sB op hz) hz.one hm
  have e' : wayS (bordM op (piecesM A B)) z.1 (c % z.2) = wayS (bordM op (piecesM A B)) z.1 c' := by
    rcases h5 with k | k
    · rw [k]
    · rw [k, per]
  rw [e']
  obtain ⟨k, rfl⟩ : ∃ k, c' = (posN (wayS (bordM op (piecesM A B)) z.1) z.2).getD j 0 + 1 + k := ⟨c' - ((posN (wayS (bordM op (piecesM A B)) z.1) z.2).getD j 0 + 1), by omega⟩
  have pj : wayS (bordM op (piecesM A B)) z.1 ((posN (wayS (bordM op (piecesM A B)) z.1) z.2).getD j 0 + 1) ∈ ringAtL (bordM op (piecesM A B)) z := perm _ (by
    rw [← turn_at hj]
    exact getD_mem (by rw [turn_len]; exact hj) zP)
  have pe : wayS (bordM op (piecesM A B)) z.1 (b + 1) ∈ ringAtL (bordM op (piecesM A B)) z := perm _ (by
    rw [h4]
    exact getD_mem (by rw [turn_len]; exact Nat.mod_lt _ (by omega)) zP)
  have sub : Run (wayS (bordM op (piecesM A B)) z.1) ((posN (wayS (bordM op (piecesM A B)) z.1) z.2).getD j 0 + 1) ((posN (wayS (bordM op (piecesM A B)) z.1) z.2).getD j 0 + 1 + k) := fun i i1 i2 => h3 i i1 (by omega)
  generalize (posN (wayS (bordM op (piecesM A B)) z.1) z.2).getD j 0 + 1 = a at *
  generalize (ringAtL (bordM op (piecesM A B)) z).getD 0 zP = f at *
  cases o : befB (wayS (bordM op (piecesM A B)) z.1 (a + k)) f
  · rfl
  · exfalso
    rcases w.two a with g | g
    · -- going up: the run's beginning is ahead
      rcases Nat.eq_zero_or_pos k with q | q
      · subst q
        rw [Nat.add_zero] at o
        rw [low _ pj] at o; cases o
      · obtain ⟨k', rfl⟩ : ∃ k', k = k' + 1 := ⟨k - 1, by omega⟩
        have u := (run_fwd w g k' (fun i i1 i2 => sub i i1 (by omega))).2.1
        have := bef_lt (w.d (a + k' + 1)) fd (w.d a) o u
        rw [low _ pj] at this; cases this
    · -- going down: its end is
      have tail : ∀ n, a + k + n ≤ b → befB (wayS (bordM op (piecesM A B)) z.1 (a + k + n + 1)) (wayS (bordM op (piecesM A B)) z.1 (a + k)) = true := by
        intro n
        induction n with
        | zero =>
          intro hn
          exact (run_bwd w g k (fun i i1 i2 => h3 i i1 (by omega))).1
        | succ n ih =>
          intro hn
          have i1 := ih (by omega)
          have i2 := (run_bwd w g (k + n + 1) (fun i i1 i2 => h3 i i1 (by omega))).1
          rw [show a + (k + n + 1) = a + k + n + 1 by omega] at i2
          exact bef_lt (w.d (a + k + n + 1)) (w.d (a + k)) (w.d (a + k + n + 1 + 1)) i1 i2
      have u := tail (b - (a + k)) (by omega)
      rw [show a + k + (b - (a + k)) + 1 = b + 1 by omega] at u
      have := bef_lt (w.d (a + k)) fd (w.d (b + 1)) o u
      rw [low _ pe] at this; cases this
end
end Go.Proofs.Ytnkcbephceollab
