import Derived.Test.YtnkcbephceollabQ44
namespace Go.Proofs.Ytnkcbephceollab
set_option linter.unusedSimpArgs false
set_option linter.unusedVariables false
set_option linter.unusedSectionVars false

/-! A round, from wherever it begins, makes one ring. -/
theorem rot_rot {P : List Pt} {a b : Nat} (ha : a < P.length) (hb : b < P.length) : rotL (rotL P a) b = rotL P ((a + b) % P.length) := by
  have np : 0 < P.length := by omega
  have l1 : (rotL P a).length = P.length := rot_full (by omega)
  have hm := Nat.mod_lt (a + b) np
  have l2 : (rotL (rotL P a) b).length = P.length := by rw [rot_full (by omega), l1]
  have l3 : (rotL P ((a + b) % P.length)).length = P.length := rot_full (by omega)
  apply List.ext_getElem (by rw [l2, l3])
  intro j h1 h2
  have hj : j < P.length := by omega
  have e1 : (rotL (rotL P a) b).getD j zP = (rotL (rotL P a) b)[j] := by rw [List.getD_eq_getElem?_getD, List.getElem?_eq_getElem h1]; rfl
  have e2 : (rotL P ((a + b) % P.length)).getD j zP = (rotL P ((a + b) % P.length))[j] := by rw [List.getD_eq_getElem?_getD, List.getElem?_eq_getElem h2]; rfl
  rw [← e1, ← e2, rot_at (by omega) (by omega), l1, rot_at ha (Nat.mod_lt _ np), rot_at hm hj, mod_shift np, Nat.add_mod ((a + b) % P.length) j, Nat.mod_mod, ← Nat.add_mod, Nat.add_assoc]
theorem least_rot {P : List Pt} (h : NL P) {a : Nat} (ha : a < P.length) : leastL (rotL P a) P.length = leastL P P.length := by
  have np : 0 < P.length := by omega
  have l1 : (rotL P a).length = P.length := rot_full (by omega)
  obtain ⟨i, hi, ei⟩ := least_is (P := P) P.length (by omega)
  obtain ⟨j, hj, ej⟩ := least_is (P := rotL P a) P.length (by omega)
  have m1 := least_min h P.length ((a + j) % P.length) (Nat.mod_lt _ np)
  rw [← rot_rot ha hj, ← ej] at m1
  have m2 := least_min (h.rot a) P.length ((i + P.length - a) % P.length) (Nat.mod_lt _ np)
  rw [rot_rot ha (Nat.mod_lt _ np), mod_shift np, show a + (i + P.length - a) = i + P.length by omega, Nat.add_mod_right, Nat.mod_eq_of_lt hi, ← ei] at m2
  exact cl_eq ((h.rot a).least _) (h.least _) m2 m1
theorem least_swap {T R : List Pt} (h : NL (T ++ R)) : leastL (R ++ T) (R ++ T).length = leastL (T ++ R) (T ++ R).length := by
  by_cases e : R = []
  · subst e; simp
  · have hl : 0 < R.length := List.length_pos_iff.2 e
    have k := least_rot h (a := T.length) (by rw [List.length_append]; omega)
    have er : rotL (T ++ R) T.length = R ++ T := by unfold rotL; simp
    rw [er] at k
    rw [show (R ++ T).length = (T ++ R).length by simp; omega]
    exact k
theorem pts_next (L : List (Pt × Pt)) (N : List Nat) (i : Nat) : ∀ c a, ptsN L N (N.getD i 0) a c = ptsN L N i (a + 1) c
  | 0, a => rfl
  | c + 1, a => by
    rw [ptsN, ptsN, pts_next L N i c (a + 1), it_next, it_next]
section
variable {A B : List (List Pt)} (sA : Sound A) (sB : Sound B) (op : Int)
include sA sB
theorem rd_next {z : Nat × Nat} (hz : Rd (bordM op (piecesM A B)) z) : Rd (bordM op (piecesM A B)) ((nextsM (bordM op (piecesM A B))).getD z.1 0, z.2) ∧ ringAtL (bordM op (piecesM A B)) ((nextsM (bordM op (piecesM A B))).getD z.1 0, z.2) = ringAtL (bordM op (piecesM A B)) z := by
  have pm := nexts_pm sA sB op
  have hlt := pm.lt _ hz.lt
  constructor
  · refine ⟨hlt, hz.one, ?_, fun a h1 h2 k => ?_⟩
    · show itN _ _ z.2 = _
      rw [it_next, itN, hz.per]
    · simp only at k h2
      rw [it_next, itN] at k
      exact hz.min a h1 h2 (pm.inj _ _ (it_lt pm hz.lt a) hz.lt k)
  · obtain ⟨i, m⟩ := z
    obtain ⟨n, rfl⟩ : ∃ n, m = n + 1 := ⟨m - 1, by have := hz.one; simp only at this; omega⟩
    have ni := pts_nice sA sB op hz.lt (n + 1)
    unfold ringAtL
    simp only at ni ⊢
    have per : itN (nextsM (bordM op (piecesM A B))) i (n + 1) = i := hz.per
    rw [pts_next, pts_snoc]
    have e0 : ptsN (bordM op (piecesM A B)) (nextsM (bordM op (piecesM A B))) i 0 (n + 1) = (if turnB (edg (bordM op (piecesM A B)) (itN (nextsM (bordM op (piecesM A B))) i 0)) (edg (bordM op (piecesM A B)) (itN (nextsM (bordM op (piecesM A B))) i (0 + 1))) = true then [(edg (bordM op (piecesM A B)) (itN (nextsM (bordM op (piecesM A B))) i 0)).2] else []) ++ ptsN (bordM op (piecesM A B)) (nextsM (bordM op (piecesM A B))) i (0 + 1) n := by rw [ptsN]
    have e1 : itN (nextsM (bordM op (piecesM A B))) i (0 + 1 + n) = itN (nextsM (bordM op (piecesM A B))) i 0 := by rw [show 0 + 1 + n = n + 1 by omega, per]; rfl
    have e2 : itN (nextsM (bordM op (piecesM A B))) i (0 + 1 + n + 1) = itN (nextsM (bordM op (piecesM A B))) i (0 + 1) := by rw [itN, e1]; rfl
    rw [e1, e2]
    rw [e0] at ni ⊢
    exact least_swap ni
theorem rd_rot {z : Nat × Nat} (hz : Rd (bordM op (piecesM A B)) z) : ∀ b, Rd (bordM op (piecesM A B)) (itN (nextsM (bordM op (piecesM A B))) z.1 b, z.2) ∧ ringAtL (bordM op (piecesM A B)) (itN (nextsM (bordM op (piecesM A B))) z.1 b, z.2) = ringAtL (bordM op (piecesM A B)) z
  | 0 => ⟨hz, rfl⟩
  | b + 1 => by
    obtain ⟨h1, h2⟩ := rd_rot hz b
    obtain ⟨k1, k2⟩ := rd_next sA sB op h1
    exact ⟨k1, k2.trans h2⟩
theorem rd_per {i m m' : Nat} (h : Rd (bordM op (piecesM A B)) (i, m)) (h' : Rd (bordM op (piecesM A B)) (i, m')) : m = m' := by
  rcases Nat.lt_trichotomy m m' with k | k | k
  · exact absurd h.per (h'.min m h.one k)
  · exact k
  · exact absurd h'.per (h.min m' h'.one k)
theorem rd_round {I : List (Nat × Nat)} (h4 : (I.flatMap (idxR (bordM op (piecesM A B)))).Perm (List.range (bordM op (piecesM A B)).length)) {i : Nat} (hi : i < (bordM op (piecesM A B)).length) : ∃ z ∈ I, ∃ a, i = itN (nextsM (bordM op (piecesM A B))) z.1 a := by
  have := h4.mem_iff.2 (List.mem_range.2 hi)
  obtain ⟨z, hz, h⟩ := List.mem_flatMap.1 this
  unfold idxR at h
  obtain ⟨a, _, rfl⟩ := List.mem_map.1 h
  exact ⟨z, hz, a, rfl⟩
/-- Each round's ring is one of the rings. -/
theorem rd_mem {z : Nat × Nat} (hz : Rd (bordM op (piecesM A B)) z) : ringAtL (bordM op (piecesM A B)) z ∈ ringsM (bordM op (piecesM A B)) := by
  obtain ⟨I, h1, h2, h3, h4⟩ := rounds_whole sA sB op
  obtain ⟨y, hy, a, e⟩ := rd_round sA sB op h4 hz.lt
  obtain ⟨k1, k2⟩ := rd_rot sA sB op (h3 y hy) a
  rw [← e] at k1 k2
  have em := rd_per sA sB op (show Rd _ (z.1, z.2) from hz) k1
  rw [← em] at k2
  refine h1.mem_iff.2 (List.mem_map.2 ⟨y, hy, ?_⟩)
  rw [← k2]
/-- Where a round turns is a point of its ring. -/
theorem turn_pt {i : Nat} (hi : i < (bordM op (piecesM A B)).length) {b : Nat} (t : tn (wayS (bordM op (piecesM A B)) i) b = true) : wayS (bordM op (piecesM A B)) i (b + 1) ∈ (ringsM (bordM op (piecesM A B))).flatten := by
  obtain ⟨I, h1, h2, h3, h4⟩ := rounds_whole sA sB op
  obtain ⟨y, hy, a, e⟩ := rd_round sA sB op h4 hi
  have hz := h3 y hy
  -- the round from i on
  obtain ⟨k1, k2⟩ := rd_rot sA sB op hz (a + b)
  have e1 : ∀ c, wayS (bordM op (piecesM A B)) (itN (nextsM (bordM op (piecesM A B))) y.1 (a + b)) c = wayS (bordM op (piecesM A B)) i (b + c) := fun c => by rw [way_shift, e, way_shift, Nat.add_assoc]
  have t0 : tn (wayS (bordM op (piecesM A B)) (itN (nextsM (bordM op (piecesM A B))) y.1 (a + b))) 0 = true := by
    unfold tn at t ⊢
    rw [e1, e1, e1]
    exact t
  have m0 : wayS (bordM op (piecesM A B)) i (b + 1) ∈ turnP (wayS (bordM op (piecesM A B)) (itN (nextsM (bordM op (piecesM A B))) y.1 (a + b))) y.2 := by
    unfold turnP
    refine List.mem_map.2 ⟨0, pos_mem.2 ⟨hz.one, t0⟩, ?_⟩
    exact e1 1
  rw [← pts_turnP sA sB op k1.lt] at m0
  have m1 : wayS (bordM op (piecesM A B)) i (b + 1) ∈ ringAtL (bordM op (piecesM A B)) (itN (nextsM (bordM op (piecesM A B))) y.1 (a + b), y.2) := by
    unfold ringAtL
    have np : 0 < (ptsN (bordM op (piecesM A B)) (nextsM (bordM op (piecesM A B))) (itN (nextsM (bordM op (piecesM A B))) y.1 (a + b)) 0 y.2).length := List.length_pos_iff.2 (fun k => by rw [k] at m0; cases m0)
    obtain ⟨j, hj, ej⟩ := least_is (P := ptsN (bordM op (piecesM A B)) (nextsM (bordM op (piecesM A B))) (itN (nextsM (bordM op (piecesM A B))) y.1 (a + b)) 0 y.2) _ np
    rw [ej]
    unfold rotL
    rw [List.mem_append]
    have := m0
    rw [← List.take_append_drop j (ptsN (bordM op (piecesM A B)) (nextsM (bordM op (piecesM A B))) (itN (nextsM (bordM op (piecesM A B))) y.1 (a + b)) 0 y.2)] at this
    exact (List.mem_append.1 this).symm
  exact List.mem_flatten.2 ⟨_, rd_mem sA sB op k1, m1⟩
end
/-! The rings, laid over nothing, are the same rings. -/
def Ray (v p p' : Pt) : Prop := ∀ u, (detM v p u < 0 ↔ detM v p' u < 0) ∧ (detM v p u = 0 ↔ detM v p' u = 0)
theorem ahead_ray {v p p' j j' k k' : Pt} (hp : Ray v p p') (hj : Ray v j j') (hk : Ray v k k') : aheadM j k (p, v) = aheadM j' k' (p', v) := by
  have fl : ∀ a b : Pt, detM v a b = -detM v b a := fun a b => by unfold detM; grind
  have two : ∀ {a a' b b' : Pt}, Ray v a a' → Ray v b b' → (detM v a b < 0 ↔ detM v a' b' < 0) := fun {a a' b b'} ha hb => by
    have h1 := ha b
    have h2 := hb a'
    have e1 := fl a' b
    have e2 := fl a' b'
    omega
  have d1 : decide (detM v p j < 0) = decide (detM v p' j' < 0) := decide_eq_decide.2 (two hp hj)
  have d2 : decide (detM v p k < 0) = decide (detM v p' k' < 0) := decide_eq_decide.2 (two hp hk)
  have d3 : decide (detM v j k < 0) = decide (detM v j' k' < 0) := decide_eq_decide.2 (two hj hk)
  unfold aheadM
  simp only
  rw [d1, d2, d3]
theorem turnP_succ (s : Nat → Pt) (a : Nat) : turnP s (a + 1) = turnP s a ++ (if tn s a = true then [s (a + 1)] else []) := by
  unfold turnP posN
  rw [List.range'_concat, List.filter_append, List.map_append]
  congr 1
  rw [Nat.zero_add, Nat.one_mul]
  cases h : tn s a
  · simp [h]
  · simp [h]
section
variable {A B : List (List Pt)} (sA : Sound A) (sB : Sound B) (op : Int)
include sA sB
theorem next_edge {n : Nat} (hn : n < (bordM op (piecesM A B)).length) : ∃ j, Nx (bordM op (piecesM A B)) (edg (bordM op (piecesM A B)) n).1 (edg (bordM op (piecesM A B)) n).2 j ∧ edg (bordM op (piecesM A B)) ((nextsM (bordM op (piecesM A B))).getD n 0) = ((edg (bordM op (piecesM A B)) n).2, j) := by
  obtain ⟨j, h1, h2⟩ := fol_is sA sB op hn
  exact ⟨j, h1, by rw [nexts_at _ _ hn]; exact h2⟩
theorem rings_nodup : (ringsM (bordM op (piecesM A B))).Nodup := by
  have fm := (rings_fm sA sB op).1
  have dj := rings_dj sA sB op
  unfold edgesM at dj
  rw [List.pairwise_flatMap] at dj
  refine List.Pairwise.imp_of_mem (R := fun x y => ∀ a ∈ ringEdges x, ∀ b ∈ ringEdges y, Dj a b) (fun {x y} hx hy h e => ?_) dj.2
  subst e
  have t := (fm x hx).three
  have ne : 0 < (ringEdges x).length := by rw [re_len]; omega
  have m0 := List.getElem_mem ne
  have d := (h _ m0 _ m0).1
  have he : (ringEdges x)[0] ∈ edgesM (ringsM (bordM op (piecesM A B))) := by
    unfold edgesM
    exact List.mem_flatMap.2 ⟨x, hx, m0⟩
  have sd := ring_sd sA sB op
  obtain ⟨e1, e2⟩ := edge_ends he
  generalize (ringEdges x)[0] = g at *
  have p1 := sd.pd _ e1
  have p2 := sd.pd _ e2
  have o1 : onB g.1 g.1 g.2 = true := on_first p1 p2 p1 (by unfold xv; omega) (by unfold yv; omega)
  have o2 : onB g.2 g.1 g.2 = true := by
    rw [← on_sw' p2 p1 p2]
    exact on_first p2 p1 p2 (by unfold xv; omega) (by unfold yv; omega)
  rcases sd.ne g he with b | b
  · rw [ov_hold sA sB p1 p2 p1 p2 (sd.ne g he) (sd.ne g he) p1 p2 b o1 o2 o1 o2] at d; cases d
  · rw [ov_hold sA sB p1 p2 p1 p2 (sd.ne g he) (sd.ne g he) p2 p1 b o2 o1 o2 o1] at d; cases d
variable {C : List (List Pt)} (hC : C = ringsM (bordM op (piecesM A B))) (sC : Sound C)
include hC sC
theorem c_spot {v : Pt} (hv : v ∈ (ringsM (bordM op (piecesM A B))).flatten) : v ∈ spotsM (edgesM C ++ edgesM []) := (webA sC sound_none).pts v (by rw [hC]; exact hv)
/-- From a border to the next: within the same of the rings' borders, or on to its next. -/
theorem step_sub {n n' : Nat} (hn : n < (bordM op (piecesM A B)).length) (hn' : n' < (bordM 1 (piecesM C [])).length) (su : Sub (edg (bordM op (piecesM A B)) n) (edg (bordM 1 (piecesM C [])) n')) :
    ((edg (bordM op (piecesM A B)) n).2 ≠ (edg (bordM 1 (piecesM C [])) n').2 ∧ detM (edg (bordM op (piecesM A B)) n).1 (edg (bordM op (piecesM A B)) n).2 (edg (bordM op (piecesM A B)) ((nextsM (bordM op (piecesM A B))).getD n 0)).2 = 0 ∧ Sub (edg (bordM op (piecesM A B)) ((nextsM (bordM op (piecesM A B))).getD n 0)) (edg (bordM 1 (piecesM C [])) n')) ∨
    ((edg (bordM op (piecesM A B)) n).2 = (edg (bordM 1 (piecesM C [])) n').2 ∧ Sub (edg (bordM op (piecesM A B)) ((nextsM (bordM op (piecesM A B))).getD n 0)) (edg (bordM 1 (piecesM C [])) ((nextsM (bordM 1 (piecesM C []))).getD n' 0)) ∧ (edg (bordM op (piecesM A B)) ((nextsM (bordM op (piecesM A B))).getD n 0)).1 = (edg (bordM 1 (piecesM C [])) ((nextsM (bordM 1 (piecesM C []))).getD n' 0)).1) := by
  have hb := edg_mem hn
  have hb' := edg_mem hn'
  obtain ⟨j, nx, ej⟩ := next_edge sA sB op hn
  obtain ⟨j0, nx', ej'⟩ := next_edge sC sound_none 1 hn'
  have tp : detM (edg (bordM op (piecesM A B)) n).1 (edg (bordM op (piecesM A B)) n).2 j ≠ 0 → (edg (bordM op (piecesM A B)) n).2 ∈ spotsM (edgesM C ++ edgesM []) := fun h => by
    refine c_spot sA sB op hC sC ?_
    have e0 : wayS (bordM op (piecesM A B)) n 0 = (edg (bordM op (piecesM A B)) n).1 := rfl
    have e1 : wayS (bordM op (piecesM A B)) n (0 + 1) = (edg (bordM op (piecesM A B)) n).2 := (way_end sA sB op hn 0).symm
    have e2 : wayS (bordM op (piecesM A B)) n (0 + 2) = j := by
      rw [← way_end sA sB op hn 1]
      show (edg (bordM op (piecesM A B)) ((nextsM (bordM op (piecesM A B))).getD n 0)).2 = j
      rw [ej]
    rw [← e1]
    refine turn_pt sA sB op hn (b := 0) ?_
    unfold tn
    rw [e0, e1, e2]
    exact decide_eq_true h
  rw [ej, ej']
  generalize edg (bordM op (piecesM A B)) n = b at *
  generalize edg (bordM 1 (piecesM C [])) n' = b' at *
  have hd := bord_dd sA sB op hb
  have hd' := bord_dd sC sound_none 1 hb'
  have hq := nx.mem
  obtain ⟨b2, hb2, su2⟩ := sub_ex sA sB op hC sC hq
  have hd2 := bord_dd sC sound_none 1 hb2
  have hdq := bord_dd sA sB op hq
  by_cases e : b.2 = b'.2
  · refine .inr ⟨e, ?_⟩
    have sp : b.2 ∈ spotsM (edgesM C ++ edgesM []) := by rw [e]; exact (bord_ends sC sound_none 1 hb').2.1
    have st := sub_start sA sB op hC sC hq hb2 su2 sp
    simp only at st
    obtain ⟨v2, j2⟩ := b2
    simp only at st
    subst st
    have r1 : Ray b.2 b.1 b'.1 := fun u => by
      have s := sub_sign su hd hd' u
      rw [← e] at s
      rw [det_flip b.1 b.2 u, det_flip b'.1 b.2 u]
      omega
    have r2 : Ray b.2 j j2 := fun u => sub_sign su2 hdq hd2 u
    have nn : Nx (bordM 1 (piecesM C [])) b'.1 b'.2 j2 := by
      refine ⟨by rw [← e]; exact hb2, fun k' hk' ne => ?_⟩
      rw [← e] at hk' ⊢
      obtain ⟨b3, hb3, su3, st3⟩ := sub_first sA sB op hC sC hk'
      obtain ⟨v3, k⟩ := b3
      simp only at st3
      subst st3
      have r3 : Ray b.2 k k' := fun u => sub_sign su3 (bord_dd sA sB op hb3) (bord_dd sC sound_none 1 hk') u
      rw [← ahead_ray r1 r2 r3]
      refine nx.first k hb3 fun ek => ne ?_
      subst ek
      exact congrArg Prod.snd (sub_one sA sB op hC sC hb3 hk' hb2 su3 su2)
    have := nx'.uniq nn
    subst this
    rw [← e]
    exact ⟨su2, rfl⟩
  · refine .inl ⟨e, ?_⟩
    have w := sub_stop sA sB op hC sC hb hb' su e
    have z0 : detM b.1 b.2 j = 0 := by
      apply Classical.byContradiction
      intro h
      exact prs_none sC sound_none (fl_in sC sound_none 1 hb') (tp h) w.b1 w.b2 w.l
    refine ⟨z0, ?_⟩
    have on2 : onB b.2 (fl b2).1 (fl b2).2 = true := by rw [fl_on hd2 hd.d2]; exact su2.o1
    have ef := prs_uniq sC sound_none (fl_in sC sound_none 1 hb') (fl_in sC sound_none 1 hb2) w on2
    have op' : Opp b.2 b.1 j := bord_opp sA sB op (z := b.1) (v := b.2) hb hq (by rw [det_flip, z0]; rfl)
    have dr : befB b.2 j = befB b.1 b.2 := by
      rcases op' with ⟨x, y⟩ | ⟨x, y⟩
      · rw [bef_asym y, bef_asym x]
      · rw [x, y]
    have : b2 = b' := fl_inj ef (by rw [← su2.dr, ← su.dr]; exact dr)
    rw [← this]
    exact su2
/-- Two borders that begin at one place within one of the rings' borders are one. -/
theorem same_start {b c b' : Pt × Pt} (hb : b ∈ bordM op (piecesM A B)) (hc : c ∈ bordM op (piecesM A B)) (hb' : b' ∈ bordM 1 (piecesM C [])) (s1 : Sub b b') (s2 : Sub c b') (e : b.1 = c.1) : b = c := by
  have hd := bord_dd sA sB op hb
  have dc := bord_dd sA sB op hc
  have d' := bord_dd sC sound_none 1 hb'
  have nc := (spots_spec (good_both sA sB)).1.nc
  have mb := (bord_ends sA sB op hb).2.1
  have mc := (bord_ends sA sB op hc).2.1
  have xb := fl_in sA sB op hb
  have xc := fl_in sA sB op hc
  have l1 : detM b.1 b.2 c.2 = 0 := (sub_sign s1 hd d' c.2).2.2 (on_parts s2.o2).1
  have l2 : detM c.1 c.2 b.2 = 0 := (sub_sign s2 dc d' b.2).2.2 (on_parts s1.o2).1
  have dr : befB b.1 b.2 = befB c.1 c.2 := s1.dr.trans s2.dr.symm
  refine Prod.ext e ?_
  by_cases f : befB b.1 b.2 = true
  · have f2 : befB c.1 c.2 = true := by rw [← dr]; exact f
    unfold fl at xb xc
    rw [if_pos f] at xb
    rw [if_pos f2] at xc
    refine canon_eq (nc _ mb).2 (nc _ mc).2 ?_ ?_
    · cases k : befB b.2 c.2
      · rfl
      · exact absurd l2 (prs_none sA sB xc mb (by rw [← e]; exact f) k)
    · cases k : befB c.2 b.2
      · rfl
      · exact absurd l1 (prs_none sA sB xb mc (by rw [e]; exact f2) k)
  · have g : befB b.2 b.1 = true := hd.ne.resolve_left f
    have f2 : ¬ befB c.1 c.2 = true := by rw [← dr]; exact f
    have g2 : befB c.2 c.1 = true := dc.ne.resolve_left f2
    unfold fl at xb xc
    rw [if_neg f] at xb
    rw [if_neg f2] at xc
    refine canon_eq (nc _ mb).2 (nc _ mc).2 ?_ ?_
    · cases k : befB b.2 c.2
      · rfl
      · exact absurd (by simp only; rw [det_flip, l1]; rfl) (prs_none sA sB xb mc k (by simp only; rw [e]; exact g2))
    · cases k : befB c.2 b.2
      · rfl
      · exact absurd (by simp only; rw [det_flip, l2]; rfl) (prs_none sA sB xc mb k (by simp only; rw [← e]; exact g))
theorem walk_inv {i i' : Nat} (hi : i < (bordM op (piecesM A B)).length) (hi' : i' < (bordM 1 (piecesM C [])).length) (su : Sub (edg (bordM op (piecesM A B)) i) (edg (bordM 1 (piecesM C [])) i')) :
    ∀ a, ∃ j, Sub (edg (bordM op (piecesM A B)) (itN (nextsM (bordM op (piecesM A B))) i a)) (edg (bordM 1 (piecesM C [])) (itN (nextsM (bordM 1 (piecesM C []))) i' j)) ∧ turnP (wayS (bordM op (piecesM A B)) i) a = turnP (wayS (bordM 1 (piecesM C [])) i') j ∧
      ∀ t, 1 ≤ t → t ≤ j → ∃ b, 1 ≤ b ∧ b + (j - t) ≤ a ∧ Sub (edg (bordM op (piecesM A B)) (itN (nextsM (bordM op (piecesM A B))) i b)) (edg (bordM 1 (piecesM C [])) (itN (nextsM (bordM 1 (piecesM C []))) i' t)) ∧ (edg (bordM op (piecesM A B)) (itN (nextsM (bordM op (piecesM A B))) i b)).1 = (edg (bordM 1 (piecesM C [])) (itN (nextsM (bordM 1 (piecesM C []))) i' t)).1
  | 0 => ⟨0, su, rfl, fun t h1 h2 => by omega⟩
  | a + 1 => by
    obtain ⟨j, h1, h2, h3⟩ := walk_inv hi hi' su a
    have lt := it_lt (nexts_pm sA sB op) hi
    have lt' := it_lt (nexts_pm sC sound_none 1) hi'
    have en := way_end sA sB op hi
    have en' := way_end sC sound_none 1 hi'
    rcases step_sub sA sB op hC sC (lt a) (lt' j) h1 with ⟨k1, k2, k3⟩ | ⟨k1, k2, k3⟩
    · refine ⟨j, k3, ?_, fun t t1 t2 => ?_⟩
      · rw [turnP_succ, h2]
        have : tn (wayS (bordM op (piecesM A B)) i) a = false := by
          unfold tn
          refine decide_eq_false fun x => x ?_
          rw [← en a, ← en (a + 1)]
          exact k2
        rw [this]; simp
      · obtain ⟨b, b1, b2, b3⟩ := h3 t t1 t2
        exact ⟨b, b1, by omega, b3⟩
    · refine ⟨j + 1, k2, ?_, fun t t1 t2 => ?_⟩
      · rw [turnP_succ, turnP_succ, h2]
        have ep : wayS (bordM op (piecesM A B)) i (a + 1) = wayS (bordM 1 (piecesM C [])) i' (j + 1) := by rw [← en a, ← en' j]; exact k1
        have et : tn (wayS (bordM op (piecesM A B)) i) a = tn (wayS (bordM 1 (piecesM C [])) i') j := by
          have hd := bord_dd sA sB op (edg_mem (lt a))
          have hd' := bord_dd sC sound_none 1 (edg_mem (lt' j))
          have hn := bord_dd sA sB op (edg_mem (lt (a + 1)))
          have hn' := bord_dd sC sound_none 1 (edg_mem (lt' (j + 1)))
          have s1 := (sub_sign h1 hd hd' (wayS (bordM op (piecesM A B)) i (a + 2))).2
          have s2 := (sub_sign k2 hn hn' (wayS (bordM 1 (piecesM C [])) i' j)).2
          have q1 : edg (bordM op (piecesM A B)) (itN (nextsM (bordM op (piecesM A B))) i a) = (wayS (bordM op (piecesM A B)) i a, wayS (bordM op (piecesM A B)) i (a + 1)) := Prod.ext rfl (en a)
          have q2 : edg (bordM op (piecesM A B)) (itN (nextsM (bordM op (piecesM A B))) i (a + 1)) = (wayS (bordM op (piecesM A B)) i (a + 1), wayS (bordM op (piecesM A B)) i (a + 2)) := Prod.ext rfl (en (a + 1))
          have q3 : edg (bordM 1 (piecesM C [])) (itN (nextsM (bordM 1 (piecesM C []))) i' j) = (wayS (bordM 1 (piecesM C [])) i' j, wayS (bordM 1 (piecesM C [])) i' (j + 1)) := Prod.ext rfl (en' j)
          have q4 : edg (bordM 1 (piecesM C [])) (itN (nextsM (bordM 1 (piecesM C []))) i' (j + 1)) = (wayS (bordM 1 (piecesM C [])) i' (j + 1), wayS (bordM 1 (piecesM C [])) i' (j + 2)) := Prod.ext rfl (en' (j + 1))
          have q2' : edg (bordM op (piecesM A B)) ((nextsM (bordM op (piecesM A B))).getD (itN (nextsM (bordM op (piecesM A B))) i a) 0) = (wayS (bordM op (piecesM A B)) i (a + 1), wayS (bordM op (piecesM A B)) i (a + 2)) := q2
          have q4' : edg (bordM 1 (piecesM C [])) ((nextsM (bordM 1 (piecesM C []))).getD (itN (nextsM (bordM 1 (piecesM C []))) i' j) 0) = (wayS (bordM 1 (piecesM C [])) i' (j + 1), wayS (bordM 1 (piecesM C [])) i' (j + 2)) := q4
          rw [q1, q3] at s1
          rw [q2', q4'] at s2
          simp only at s1 s2
          unfold tn
          refine decide_eq_decide.2 (not_congr ?_)
          rw [s1, ← ep, ← det_cyc, s2, ← ep, det_cyc]
        rw [et, ep]
      · by_cases et : t = j + 1
        · subst et
          exact ⟨a + 1, by omega, by omega, k2, k3⟩
        · obtain ⟨b, b1, b2, b3⟩ := h3 t t1 (by omega)
          exact ⟨b, b1, by omega, b3⟩
/-- A round and that over it make one ring. -/
theorem ring_same {i i' m m' : Nat} (hz : Rd (bordM op (piecesM A B)) (i, m)) (hz' : Rd (bordM 1 (piecesM C [])) (i', m')) (su : Sub (edg (bordM op (piecesM A B)) i) (edg (bordM 1 (piecesM C [])) i')) (st : (edg (bordM op (piecesM A B)) i).1 = (edg (bordM 1 (piecesM C [])) i').1) :
    ringAtL (bordM op (piecesM A B)) (i, m) = ringAtL (bordM 1 (piecesM C [])) (i', m') := by
  have hi : i < (bordM op (piecesM A B)).length := hz.lt
  have hi' : i' < (bordM 1 (piecesM C [])).length := hz'.lt
  have per : itN (nextsM (bordM op (piecesM A B))) i m = i := hz.per
  have per' : itN (nextsM (bordM 1 (piecesM C []))) i' m' = i' := hz'.per
  have one' : 1 ≤ m' := hz'.one
  obtain ⟨j, h1, h2, h3⟩ := walk_inv sA sB op hC sC hi hi' su m
  have lt := it_lt (nexts_pm sA sB op) hi
  have lt' := it_lt (nexts_pm sC sound_none 1) hi'
  rw [per] at h1
  have ej : itN (nextsM (bordM 1 (piecesM C []))) i' j = i' := edg_inj (bord_nodup sC sound_none 1) (lt' j) hi' (sub_one sA sB op hC sC (edg_mem hi) (edg_mem (lt' j)) (edg_mem hi') h1 su)
  have j1 : 1 ≤ j := by
    rcases Nat.eq_zero_or_pos j with k | k
    · exfalso
      subst k
      have := pos_some sA sB op hz
      have e0 : turnP (wayS (bordM op (piecesM A B)) i) m = [] := by rw [h2]; rfl
      unfold turnP at e0
      exact this (List.map_eq_nil_iff.1 e0)
    · exact k
  have jm : j = m' := by
    have q := it_mod sC sound_none 1 hz' j
    simp only at q
    rw [ej] at q
    have q0 : j % m' = 0 := by
      rcases Nat.eq_zero_or_pos (j % m') with k | k
      · exact k
      · exact absurd q (hz'.min _ k (Nat.mod_lt _ (by omega)))
    have le : m' ≤ j := Nat.le_of_dvd (by omega) (Nat.dvd_of_mod_eq_zero q0)
    rcases Nat.lt_or_ge m' j with k | k
    · exfalso
      obtain ⟨b, b1, b2, b3, b4⟩ := h3 m' one' le
      rw [per'] at b3 b4
      have := same_start sA sB op hC sC (edg_mem (lt b)) (edg_mem hi) (edg_mem hi') b3 su (b4.trans st.symm)
      exact hz.min b b1 (by simp only; omega) (edg_inj (bord_nodup sA sB op) (lt b) hi this)
    · omega
  subst jm
  unfold ringAtL
  simp only
  rw [pts_turnP sA sB op hi, pts_turnP sC sound_none 1 hi', h2]
end
end Go.Proofs.Ytnkcbephceollab
