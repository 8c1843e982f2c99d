import Derived.Test.YtnkcbephceollabQ40
namespace Go.Proofs.Ytnkcbephceollab
set_option linter.unusedSimpArgs false
set_option linter.unusedVariables false
set_option linter.unusedSectionVars false

/-! The rings of a result against one another. -/
theorem edges_one' (r : List Pt) : edgesM [r] = ringEdges r := by unfold edgesM; simp
/-- Where a segment crosses another there is a place within the one and on the other. -/
theorem cross_place {p q a b : Pt} (hp : 0 < p.d) (hq : 0 < q.d) (ha : 0 < a.d) (hb : 0 < b.d) (hpq : befB p q = true) (ne : befB a b = true ∨ befB b a = true) (h : crossB p q a b = true) : ∃ X, Wi p q X ∧ onB X a b = true := by
  unfold crossB at h
  rw [Bool.and_eq_true] at h
  obtain ⟨h1, h2⟩ := h
  obtain ⟨α, β, hα, hβ, e0⟩ : ∃ α β : Int, 0 < α ∧ 0 < β ∧ α * detM a b p + β * detM a b q = 0 := by
    unfold apartB at h2
    simp only [Bool.or_eq_true, Bool.and_eq_true, decide_eq_true_eq] at h2
    rcases h2 with ⟨x, y⟩ | ⟨x, y⟩
    · exact ⟨detM a b q, -detM a b p, y, by omega, by grind⟩
    · exact ⟨-detM a b q, detM a b p, by omega, x, by grind⟩
  have hd := cmb_pos hα hβ hp hq
  have bb := bef_cmb hα hβ hpq
  have z0 : detM a b (cmb α β p q) = 0 := by rw [cmb_det]; exact e0
  have zl : detM p q (cmb α β p q) = 0 := by rw [cmb_det, det_first, det_last]; simp
  have nz : ∀ v, detM p q v ≠ 0 → detM p (cmb α β p q) v ≠ 0 := fun v k e => by
    rw [cmb_way] at e
    exact k ((sgn_sc hβ).2.2.1 e)
  have na : detM p q a ≠ 0 ∧ detM p q b ≠ 0 := by
    unfold apartB at h1
    simp only [Bool.or_eq_true, Bool.and_eq_true, decide_eq_true_eq] at h1
    omega
  refine ⟨cmb α β p q, ⟨hp, hq, hd, bb.1, bb.2, zl⟩, ?_⟩
  rw [on_apart' hp hd ha hb (nz a na.1) (nz b na.2) ne z0, cmb_way, cmb_way, (apart_sc hβ _ _).1]
  exact h1
section
variable {A B : List (List Pt)} (sA : Sound A) (sB : Sound B) (op : Int)
include sA sB
theorem way_one {z : Nat × Nat} (hz : Rd (bordM op (piecesM A B)) z) : Sd [wayR (bordM op (piecesM A B)) z] ∧ (∀ v ∈ [wayR (bordM op (piecesM A B)) z].flatten, v ∈ spotsM (edgesM A ++ edgesM B)) ∧ ∀ e ∈ edgesM [wayR (bordM op (piecesM A B)) z], e ∈ bordM op (piecesM A B) := by
  have h3 : ∀ y ∈ [z], Rd (bordM op (piecesM A B)) y := fun y hy => by rw [List.mem_singleton.1 hy]; exact hz
  exact ⟨way_sd sA sB op h3, fun v hv => way_mem sA sB op h3 hv, fun e he => way_bord sA sB op h3 he⟩
/-- No piece crosses a border. -/
theorem clear_way {z : Nat × Nat} (hz : Rd (bordM op (piecesM A B)) z) {x : Pt × Pt} (hx : x ∈ prs A B) : Clear [wayR (bordM op (piecesM A B)) z] x.1 x.2 := by
  obtain ⟨_, w2, w3⟩ := way_one sA sB op hz
  have qs := qs_of sA sB
  obtain ⟨bx, dx1, dx2⟩ := prs_bef sA sB hx
  refine ⟨fun v hv b1 b2 => prs_none sA sB hx (w2 v hv) b1 b2, fun e he => ?_⟩
  have hb := w3 e he
  obtain ⟨s1, s2, ne⟩ := bord_ends sA sB op hb
  cases k : crossB x.1 x.2 e.1 e.2
  · rfl
  · exfalso
    obtain ⟨X, wX, on⟩ := cross_place dx1 dx2 (qs.sd _ s1) (qs.sd _ s2) bx ne k
    have zero : e.1 = x.1 ∨ e.1 = x.2 := by
      rcases bord_piece sA sB op hb with h | h
      · left; rw [prs_uniq sA sB hx h wX on]
      · right
        rw [on_sw' wX.d (qs.sd _ s2) (qs.sd _ s1)] at on
        have := prs_uniq sA sB hx h wX on
        rw [← this]
    unfold crossB apartB at k
    rcases zero with q | q
    · rw [q, det_first] at k; simp at k
    · rw [q, det_last] at k; simp at k
/-- Without the spots of which keep says no. -/
theorem qs_keep (keep : Pt → Bool) : Qs ((spotsM (edgesM A ++ edgesM B)).filter keep) ((prs A B).filter (fun x => keep x.1 && keep x.2)) := by
  have qs := qs_of sA sB
  refine ⟨qs.nd.filter _, fun s hs => qs.sd s (List.mem_filter.1 hs).1, fun x hx => ?_, fun x hx => qs.bef x (List.mem_filter.1 hx).1, fun x hx y hy m w on => qs.uniq x (List.mem_filter.1 hx).1 y (List.mem_filter.1 hy).1 m w on⟩
  obtain ⟨h1, h2⟩ := List.mem_filter.1 hx
  rw [Bool.and_eq_true] at h2
  obtain ⟨m1, m2⟩ := qs.mem x h1
  exact ⟨List.mem_filter.2 ⟨m1, h2.1⟩, List.mem_filter.2 ⟨m2, h2.2⟩⟩
theorem web_way {z : Nat × Nat} (hz : Rd (bordM op (piecesM A B)) z) (keep : Pt → Bool) (hk : ∀ v ∈ [wayR (bordM op (piecesM A B)) z].flatten, keep v = true) : Web ((spotsM (edgesM A ++ edgesM B)).filter keep) ((prs A B).filter (fun x => keep x.1 && keep x.2)) [wayR (bordM op (piecesM A B)) z] := by
  obtain ⟨w1, w2, w3⟩ := way_one sA sB op hz
  have qs := qs_of sA sB
  refine ⟨w1, fun v hv => List.mem_filter.2 ⟨w2 v hv, hk v hv⟩, fun x hx => clear_way sA sB op hz (List.mem_filter.1 hx).1, fun e he m hm on off => ?_⟩
  obtain ⟨m1, m2⟩ := edge_ends he
  have k1 := hk _ m1
  have k2 := hk _ m2
  have key : ∀ x ∈ prs A B, keep x.1 = true → keep x.2 = true → onB m x.1 x.2 = true → Wi x.1 x.2 m := fun x hx c1 c2 o => by
    obtain ⟨bx, d1, d2⟩ := prs_bef sA sB hx
    obtain ⟨s1, s2⟩ := prs_spots sA sB hx
    obtain ⟨l, w⟩ := on_parts o
    unfold withB at w
    rw [(lo_hi bx).1, (lo_hi bx).2.1] at w
    simp only [Bool.and_eq_true, Bool.not_eq_true'] at w
    exact ⟨d1, d2, hm, (off _ (List.mem_filter.2 ⟨s1, c1⟩)).resolve_right (by rw [w.1]; decide), (off _ (List.mem_filter.2 ⟨s2, c2⟩)).resolve_left (by rw [w.2]; decide), l⟩
  obtain ⟨s1, s2, _⟩ := bord_ends sA sB op (w3 e he)
  rcases bord_piece sA sB op (w3 e he) with h | h
  · exact ⟨e, List.mem_filter.2 ⟨h, by rw [k1, k2]; rfl⟩, key e h k1 k2 on⟩
  · exact ⟨(e.2, e.1), List.mem_filter.2 ⟨h, by rw [k1, k2]; rfl⟩, key (e.2, e.1) h k2 k1 (by rw [on_sw' hm (qs.sd _ s1) (qs.sd _ s2)]; exact on)⟩
/-- A piece lies along a round just if it is one of its borders. -/
theorem along_way {z : Nat × Nat} (hz : Rd (bordM op (piecesM A B)) z) {x : Pt × Pt} (hx : x ∈ prs A B) {e : Pt × Pt} (he : e ∈ edgesM [wayR (bordM op (piecesM A B)) z]) (al : alongE x.1 x.2 e.1 e.2 = true) : e = x ∨ (e.2, e.1) = x := by
  obtain ⟨w1, w2, w3⟩ := way_one sA sB op hz
  have qs := qs_of sA sB
  have hb := w3 e he
  obtain ⟨s1, s2, ne⟩ := bord_ends sA sB op hb
  obtain ⟨bx, d1, d2⟩ := prs_bef sA sB hx
  have bc := bef_cmb (D := 1) (P := 1) (by decide) (by decide) bx
  have wi : Wi x.1 x.2 (cmb 1 1 x.1 x.2) := ⟨d1, d2, cmb_pos (by decide) (by decide) d1 d2, bc.1, bc.2, by rw [cmb_det, det_first, det_last]; simp⟩
  have cl := clear_way sA sB op hz hx
  obtain ⟨m1, m2⟩ := edge_ends he
  have on : onB (cmb 1 1 x.1 x.2) e.1 e.2 = true := by
    rw [← on_x wi (qs.sd _ s1) (qs.sd _ s2) ne (cl.pt _ m1) (cl.pt _ m2) (cl.ed e he)]; exact al
  rcases bord_piece sA sB op hb with h | h
  · exact .inl (prs_uniq sA sB hx h wi on)
  · right
    rw [on_sw' wi.d (qs.sd _ s2) (qs.sd _ s1)] at on
    exact prs_uniq sA sB hx h wi on
/-- Left and right of a piece, in a round's ring: the same, unless it is one of its borders. -/
theorem sides_way {z : Nat × Nat} (hz : Rd (bordM op (piecesM A B)) z) {x : Pt × Pt} (hx : x ∈ prs A B) : parB (leftE x.1 x.2) (edgesM [wayR (bordM op (piecesM A B)) z]) = parB (rightE x.1 x.2) (edgesM [wayR (bordM op (piecesM A B)) z]) ∨ x ∈ edgesM [wayR (bordM op (piecesM A B)) z] ∨ (x.2, x.1) ∈ edgesM [wayR (bordM op (piecesM A B)) z] := by
  obtain ⟨w1, w2, w3⟩ := way_one sA sB op hz
  have pd := (prs_bef sA sB hx).2.1
  have e1 : parB (rightE x.1 x.2) (edgesM [wayR (bordM op (piecesM A B)) z]) = (parB (leftE x.1 x.2) (edgesM [wayR (bordM op (piecesM A B)) z]) ^^ parB (alongE x.1 x.2) (edgesM [wayR (bordM op (piecesM A B)) z])) := by
    rw [← parB_xor]
    exact parB_congr fun e he => by
      obtain ⟨m1, m2⟩ := edge_ends he
      exact rightE_eq (w1.pd _ m1) (w1.pd _ m2) pd (w1.ne e he)
  cases k : parB (alongE x.1 x.2) (edgesM [wayR (bordM op (piecesM A B)) z])
  · left; rw [e1, k, Bool.xor_false]
  · obtain ⟨e, he, al⟩ := par_some k
    rcases along_way sA sB op hz hx he al with q | q
    · right; left; rw [← q]; exact he
    · right; right; rw [← q]; exact he
/-- The borders of rounds that have none in common: no piece is in both. -/
theorem sep_way {z y : Nat × Nat} (hz : Rd (bordM op (piecesM A B)) z) (hy : Rd (bordM op (piecesM A B)) y) (se : Sep (bordM op (piecesM A B)) z y) {x : Pt × Pt} (h1 : x ∈ edgesM [wayR (bordM op (piecesM A B)) z] ∨ (x.2, x.1) ∈ edgesM [wayR (bordM op (piecesM A B)) z]) (h2 : x ∈ edgesM [wayR (bordM op (piecesM A B)) y] ∨ (x.2, x.1) ∈ edgesM [wayR (bordM op (piecesM A B)) y]) : False := by
  have idx : ∀ {u : Nat × Nat}, Rd (bordM op (piecesM A B)) u → ∀ {e : Pt × Pt}, e ∈ edgesM [wayR (bordM op (piecesM A B)) u] → ∃ a, e = edg (bordM op (piecesM A B)) (itN (nextsM (bordM op (piecesM A B))) u.1 a) := fun {u} hu {e} he => by
    rw [edges_one', way_edges sA sB op hu] at he
    obtain ⟨i, hi, rfl⟩ := List.mem_map.1 he
    unfold idxR at hi
    obtain ⟨a, _, rfl⟩ := List.mem_map.1 hi
    exact ⟨a, rfl⟩
  have lt : ∀ {u : Nat × Nat}, Rd (bordM op (piecesM A B)) u → ∀ a, itN (nextsM (bordM op (piecesM A B))) u.1 a < (bordM op (piecesM A B)).length := fun hu a => it_lt (nexts_pm sA sB op) hu.lt a
  have inj : ∀ {i j : Nat}, i < (bordM op (piecesM A B)).length → j < (bordM op (piecesM A B)).length → edg (bordM op (piecesM A B)) i = edg (bordM op (piecesM A B)) j → i = j := fun {i j} hi hj e => by
    have nd := bord_nodup sA sB op
    unfold edg at e
    rw [List.getD_eq_getElem?_getD, List.getElem?_eq_getElem hi, List.getD_eq_getElem?_getD, List.getElem?_eq_getElem hj] at e
    have pw := List.pairwise_iff_getElem.1 nd
    rcases Nat.lt_trichotomy i j with k | k | k
    · exact absurd e (pw i j hi hj k)
    · exact k
    · exact absurd e.symm (pw j i hj hi k)
  have w3 := (way_one sA sB op hz).2.2
  have w3' := (way_one sA sB op hy).2.2
  rcases h1 with a | a <;> rcases h2 with b | b
  · obtain ⟨i, ei⟩ := idx hz a
    obtain ⟨j, ej⟩ := idx hy b
    exact se i j (inj (lt hz i) (lt hy j) (ei.symm.trans ej))
  · exact one_way sA sB op (w3 _ a) (w3' _ b)
  · exact one_way sA sB op (w3' _ b) (w3 _ a)
  · obtain ⟨i, ei⟩ := idx hz a
    obtain ⟨j, ej⟩ := idx hy b
    exact se i j (inj (lt hz i) (lt hy j) (ei.symm.trans ej))
/-- Of two rings that have a place in them in common one has a border within the other. -/
theorem one_within {z y : Nat × Nat} (hz : Rd (bordM op (piecesM A B)) z) (hy : Rd (bordM op (piecesM A B)) y) (se : Sep (bordM op (piecesM A B)) z y) {q : Pt} (gq : goodB q = true)
    (o1 : ∀ e ∈ edgesM [wayR (bordM op (piecesM A B)) z], onB q e.1 e.2 = false) (o2 : ∀ e ∈ edgesM [wayR (bordM op (piecesM A B)) y], onB q e.1 e.2 = false)
    (i1 : parB (overB q) (edgesM [wayR (bordM op (piecesM A B)) z]) = true) (i2 : parB (overB q) (edgesM [wayR (bordM op (piecesM A B)) y]) = true) :
    ∃ x ∈ prs A B, ((x ∈ edgesM [wayR (bordM op (piecesM A B)) z] ∨ (x.2, x.1) ∈ edgesM [wayR (bordM op (piecesM A B)) z]) ∧ parB (leftE x.1 x.2) (edgesM [wayR (bordM op (piecesM A B)) y]) = true) ∨ ((x ∈ edgesM [wayR (bordM op (piecesM A B)) y] ∨ (x.2, x.1) ∈ edgesM [wayR (bordM op (piecesM A B)) y]) ∧ parB (leftE x.1 x.2) (edgesM [wayR (bordM op (piecesM A B)) z]) = true) := by
  have hG := good_both sA sB
  have hq := (gd_of_good gq).2
  have qs := qs_of sA sB
  have hk : ∀ {u : Nat × Nat}, Rd (bordM op (piecesM A B)) u → (∀ e ∈ edgesM [wayR (bordM op (piecesM A B)) u], onB q e.1 e.2 = false) → ∀ v ∈ [wayR (bordM op (piecesM A B)) u].flatten, (befB v q || befB q v) = true := fun {u} hu of v hv => by
    obtain ⟨u1, u2, u3⟩ := way_one sA sB op hu
    cases k1 : befB v q
    · cases k2 : befB q v
      · exfalso
        obtain ⟨e, he, rfl⟩ := first_edge hv
        obtain ⟨m1, m2⟩ := edge_ends he
        have d1 := u1.pd _ m1
        have d2 := u1.pd _ m2
        have s := same_on d1 hq d1 d2 k1 k2
        have t0 : onB e.1 e.1 e.2 = true := on_first d1 d2 d1 (by unfold xv; omega) (by unfold yv; omega)
        rw [t0, of e he] at s
        cases s
      · rfl
    · rfl
  have wz := web_way sA sB op hz (fun v => befB v q || befB q v) (hk hz o1)
  have wy := web_way sA sB op hy (fun v => befB v q || befB q v) (hk hy o2)
  have qk := qs_keep sA sB (fun v => befB v q || befB q v)
  obtain ⟨o, od, far, gen⟩ := far_way (S := (spotsM (edgesM A ++ edgesM B)).filter (fun v => befB v q || befB q v)) (fun s hs => ((spots_spec hG).1.nc s (List.mem_filter.1 hs).1).1) gq (fun s hs => by
    have := (List.mem_filter.1 hs).2
    simpa using this)
  have T := way_T qk od far wz wy (fun a b => a && b) rfl _ q hq gen (Nat.le_refl _)
  have pz := parity_up od hq wz.sd.pd (fun v hv => far v (wz.pts v hv)) (fun v hv => gen v (wz.pts v hv)) o1
  have py := parity_up od hq wy.sd.pd (fun v hv => far v (wy.pts v hv)) (fun v hv => gen v (wy.pts v hv)) o2
  rw [pz, py, i1, i2] at T
  obtain ⟨x, hx, k⟩ := par_some (f := fun p z' => sidF (fun a b => a && b) (edgesM [wayR (bordM op (piecesM A B)) z]) (edgesM [wayR (bordM op (piecesM A B)) y]) p z' && crossB o q p z') T
  rw [Bool.and_eq_true] at k
  have hx' := (List.mem_filter.1 hx).1
  refine ⟨x, hx', ?_⟩
  have k1 := k.1
  unfold sidF at k1
  rcases sides_way sA sB op hz hx' with s1 | s1
  · rcases sides_way sA sB op hy hx' with s2 | s2
    · rw [← s1, ← s2] at k1
      simp at k1
    · right
      refine ⟨s2, ?_⟩
      rw [← s1] at k1
      cases c : parB (leftE x.1 x.2) (edgesM [wayR (bordM op (piecesM A B)) z])
      · rw [c] at k1; simp at k1
      · rfl
  · rcases sides_way sA sB op hy hx' with s2 | s2
    · left
      refine ⟨s1, ?_⟩
      rw [← s2] at k1
      cases c : parB (leftE x.1 x.2) (edgesM [wayR (bordM op (piecesM A B)) y])
      · rw [c] at k1; simp at k1
      · rfl
    · exact (sep_way sA sB op hz hy se s1 s2).elim
end
end Go.Proofs.Ytnkcbephceollab
