import Derived.Test.YtnkcbephceollabQ32
namespace Go.Proofs.Ytnkcbephceollab
set_option linter.unusedSimpArgs false
set_option linter.unusedVariables false

theorem rot_at {P : List Pt} {i j : Nat} (hi : i < P.length) (hj : j < P.length) : (rotL P i).getD j zP = P.getD ((i + j) % P.length) zP := by
  unfold rotL
  rw [List.getD_eq_getElem?_getD, List.getD_eq_getElem?_getD]
  by_cases c : i + j < P.length
  · rw [Nat.mod_eq_of_lt c, List.getElem?_append_left (by rw [List.length_drop]; omega), List.getElem?_drop]
  · rw [show i + j = (i + j - P.length) + P.length by omega, Nat.add_mod_right, Nat.mod_eq_of_lt (by omega), List.getElem?_append_right (by rw [List.length_drop]; omega), List.length_drop, List.getElem?_take_of_lt (by omega)]
    congr 2; omega
theorem rot_full {P : List Pt} {i : Nat} (hi : i ≤ P.length) : (rotL P i).length = P.length := by unfold rotL; simp; omega
theorem least_is {P : List Pt} : ∀ k, 1 ≤ k → ∃ i, i < k ∧ leastL P k = rotL P i
  | k + 1, _ => by
    rw [leastL]
    by_cases c : k = 0 ∨ clM (rotL P k) (leastL P k) < 0
    · rw [if_pos c]; exact ⟨k, by omega, rfl⟩
    · rw [if_neg c]
      obtain ⟨i, hi, e⟩ := least_is k (by omega)
      exact ⟨i, by omega, e⟩
theorem NL.rot {P : List Pt} (h : NL P) (i : Nat) : NL (rotL P i) := fun p hp => h p (rotL_from hp)
theorem NL.least {P : List Pt} (h : NL P) (i : Nat) : NL (leastL P i) := fun p hp => h p (leastL_from i hp)
theorem least_min {P : List Pt} (h : NL P) : ∀ k i, i < k → clM (leastL P k) (rotL P i) ≤ 0
  | k + 1, i, hi => by
    rw [leastL]
    by_cases c : k = 0 ∨ clM (rotL P k) (leastL P k) < 0
    · rw [if_pos c]
      by_cases e : i = k
      · rw [e, cl_self]; exact Int.le_refl _
      · rcases c with c | c
        · omega
        · exact cl_trans (h.rot k) (h.least k) (h.rot i) (by omega) (least_min h k i (by omega))
    · rw [if_neg c]
      by_cases e : i = k
      · rw [e]
        exact cl_tot (h.rot k) (h.least k) (fun x => c (.inr x))
      · exact least_min h k i (by omega)
theorem ring_first_le {a b : List Pt} (ha : NL a) (hb : NL b) (la : 0 < a.length) (lb : 0 < b.length) (h : clM a b ≤ 0) : befB (b.getD 0 zP) (a.getD 0 zP) = false := by
  match a, b, la, lb with
  | p :: l, q :: n, _, _ =>
    rw [cl_le ha.hd hb.hd] at h
    rcases h with h | ⟨h, _⟩
    · exact bef_asym h
    · subst h; exact bef_irr p
/-- What a ring is. -/
structure Fm (r : List Pt) : Prop where
  three : 3 ≤ r.length
  nice : ∀ p ∈ r, Nice p
  turn : ∀ i, i < r.length → detM (r.getD ((i + r.length - 1) % r.length) zP) (r.getD i zP) (r.getD ((i + 1) % r.length) zP) ≠ 0
  low : ∀ i, i < r.length → befB (r.getD i zP) (r.getD 0 zP) = false
theorem mod_shift {i j n : Nat} (hn : 0 < n) : (i + j % n) % n = (i + j) % n := by
  rw [Nat.add_mod, Nat.mod_mod, ← Nat.add_mod]
theorem fm_of {P : List Pt} (h3 : 3 ≤ P.length) (hN : NL P) (ht : ∀ j, j < P.length → detM (P.getD ((j + P.length - 1) % P.length) zP) (P.getD j zP) (P.getD ((j + 1) % P.length) zP) ≠ 0) : Fm (leastL P P.length) := by
  obtain ⟨i, hi, e⟩ := least_is (P := P) P.length (by omega)
  have mn := least_min hN P.length
  have hl : (leastL P P.length).length = P.length := by rw [e]; exact rot_full (by omega)
  have np : 0 < P.length := by omega
  refine ⟨by omega, fun p hp => hN p (leastL_from _ hp), fun j hj => ?_, fun j hj => ?_⟩
  · rw [hl] at *
    rw [e, rot_at hi (Nat.mod_lt _ np), rot_at hi hj, rot_at hi (Nat.mod_lt _ np), mod_shift np, mod_shift np]
    have := ht ((i + j) % P.length) (Nat.mod_lt _ np)
    have e1 : ((i + j) % P.length + P.length - 1) % P.length = (i + (j + P.length - 1)) % P.length := by
      have a1 : (i + j) % P.length + P.length - 1 = (i + j) % P.length + (P.length - 1) := by omega
      have a2 : i + (j + P.length - 1) = (i + j) + (P.length - 1) := by omega
      rw [a1, a2, Nat.add_mod, Nat.mod_mod, ← Nat.add_mod]
    have e2 : ((i + j) % P.length + 1) % P.length = (i + (j + 1)) % P.length := by
      rw [← Nat.add_assoc, Nat.add_mod, Nat.mod_mod, ← Nat.add_mod]
    rw [e1, e2] at this
    exact this
  · rw [hl] at hj
    have q : (i + j) % P.length < P.length := Nat.mod_lt _ np
    have c := mn _ q
    have f := ring_first_le (hN.least P.length) (hN.rot ((i + j) % P.length)) (by omega) (by rw [rot_full (by omega)]; omega) c
    rw [rot_at q np, Nat.add_zero, Nat.mod_mod] at f
    rw [show (leastL P P.length).getD j zP = P.getD ((i + j) % P.length) zP by rw [e, rot_at hi hj]]
    exact f
section
variable {A B : List (List Pt)} (sA : Sound A) (sB : Sound B) (op : Int)
include sA sB
theorem pts_nice {i : Nat} (hi : i < (bordM op (piecesM A B)).length) (m : Nat) : NL (ptsN (bordM op (piecesM A B)) (nextsM (bordM op (piecesM A B))) i 0 m) := fun p hp => by
  obtain ⟨b, rfl⟩ := pts_from _ _ _ _ _ _ hp
  exact (bord_nice sA sB op (edg_mem (it_lt (nexts_pm sA sB op) hi b))).2.1
theorem ring_fm {z : Nat × Nat} (hz : Rd (bordM op (piecesM A B)) z) : Fm (ringAtL (bordM op (piecesM A B)) z) := by
  have ne := ring_turns sA sB op hz.lt hz.one hz.per
  have ni := pts_nice sA sB op hz.lt z.2
  have w := way_of sA sB op hz.lt
  have per := way_per hz.per
  unfold ringAtL
  have e := pts_turnP sA sB op hz.lt z.2
  rw [e] at ne ni ⊢
  exact fm_of (turn_three per w ne) ni (fun j hj => cyc_turn per w hj)
theorem rings_fm : (∀ r ∈ ringsM (bordM op (piecesM A B)), Fm r) ∧ (ringsM (bordM op (piecesM A B))).Pairwise (fun x y => befB (y.getD 0 zP) (x.getD 0 zP) = false) := by
  obtain ⟨I, h1, h2, h3⟩ := rounds_all sA sB op
  have fm : ∀ r ∈ ringsM (bordM op (piecesM A B)), Fm r := fun r hr => by
    obtain ⟨z, hz, rfl⟩ := List.mem_map.1 (h1.mem_iff.1 hr)
    exact ring_fm sA sB op (h3 z hz)
  refine ⟨fm, ?_⟩
  have so : (ringsM (bordM op (piecesM A B))).Pairwise (fun x y => clM x y ≤ 0) := by
    unfold ringsM
    obtain ⟨q1, _, _, _, q5⟩ := rings_eq sA sB op _ (Nat.le_refl _)
    rw [q1]; exact q5
  refine so.imp_of_mem fun {a b} ha hb k => ?_
  have f1 := fm a ha
  have f2 := fm b hb
  exact ring_first_le f1.nice f2.nice (by have := f1.three; omega) (by have := f2.three; omega) k
end
/-- No spot lies within a piece. -/
theorem no_between {E : List (Pt × Pt)} (hG : Good E) {v z1 z2 : Pt} (mz1 : z1 ∈ spotsM E) (b1 : befB v z1 = true) (h2 : (v, z2) ∈ pairsL E (spotsM E)) (hb : befB z1 z2 = true) : detM v z1 z2 ≠ 0 := by
  intro hd
  have hS := (spots_spec hG).1
  obtain ⟨e2, he2, a2⟩ := ((pairs_spec E hS).2 _).1 h2
  obtain ⟨mv, mz2, fv, fz2⟩ := AL_mem a2
  obtain ⟨b2, no⟩ := AL_next hS.srt a2
  simp only at mv mz2 fv fz2 b2 no
  have dv := (hS.nc _ mv).d
  have d1 := (hS.nc _ mz1).d
  have d2 := (hS.nc _ mz2).d
  have f := no z1 mz1 b1 hb
  have be := edge_bef hG he2
  have gr := hG.gr e2 he2
  have df : 0 < (firstM e2.1 e2.2).d := by have := gr.1.d; have := gr.2.d; unfold firstM; split <;> omega
  have dl : 0 < (lastM e2.1 e2.2).d := by have := gr.1.d; have := gr.2.d; unfold lastM; split <;> omega
  unfold hasM at fv fz2 f
  simp only [Bool.and_eq_true, Bool.not_eq_true', decide_eq_false_iff_not, decide_eq_true_eq] at fv fz2
  obtain ⟨v1, v2, v3⟩ := fv
  obtain ⟨w1, w2, w3⟩ := fz2
  have side : sideM e2.1 e2.2 z1 = 0 := by
    unfold sideM at *
    rw [(line_sign df dv v3 w3 be b2 (x := z1)).2]
    have : detM v z2 z1 = -detM v z1 z2 := by unfold detM; grind
    omega
  have c1 : befB z1 (firstM e2.1 e2.2) = false := by
    have k : befB v (firstM e2.1 e2.2) = false := by rw [← cmpB]; exact decide_eq_false v1
    exact bef_asym (le_bef df dv d1 k b1)
  have c2 : befB (lastM e2.1 e2.2) z1 = false := by
    have k : befB (lastM e2.1 e2.2) z2 = false := by rw [← cmpB']; exact decide_eq_false w2
    exact bef_asym (bef_le d1 d2 dl hb k)
  rw [cmpB, cmpB', c1, c2, decide_eq_true side] at f
  simp at f
section
variable {A B : List (List Pt)} (sA : Sound A) (sB : Sound B) (op : Int)
include sA sB
theorem bord_prs {p q : Pt} (h : (p, q) ∈ bordM op (piecesM A B) ∨ (q, p) ∈ bordM op (piecesM A B)) (b : befB p q = true) : (p, q) ∈ prs A B := by
  have go : ∀ e ∈ bordM op (piecesM A B), ∃ z ∈ prs A B, e = (z.1, z.2) ∨ e = (z.2, z.1) := fun e he => by
    obtain ⟨x, hx, k⟩ := bord_mem he
    unfold piecesM at hx
    obtain ⟨z, hz, rfl⟩ := List.mem_map.1 hx
    exact ⟨z, hz, k⟩
  rcases h with h | h
  · obtain ⟨z, hz, k | k⟩ := go _ h
    · injection k with k1 k2
      rw [k1, k2]; exact hz
    · injection k with k1 k2
      have := (prs_bef sA sB hz).1
      rw [← k1, ← k2, bef_asym b] at this
      cases this
  · obtain ⟨z, hz, k | k⟩ := go _ h
    · injection k with k1 k2
      have := (prs_bef sA sB hz).1
      rw [← k1, ← k2, bef_asym b] at this
      cases this
    · injection k with k1 k2
      rw [k1, k2]; exact hz
theorem one_way {p q : Pt} (h1 : (p, q) ∈ bordM op (piecesM A B)) (h2 : (q, p) ∈ bordM op (piecesM A B)) : False := by
  have key : ∀ {p q : Pt}, befB p q = true → (p, q) ∈ bordM op (piecesM A B) → (q, p) ∈ bordM op (piecesM A B) → False := fun {p q} b h1 h2 => by
    have a1 : inM op (pcOf (edgesM A) (edgesM B) (p, q)).la (pcOf (edgesM A) (edgesM B) (p, q)).lb = true := by
      unfold bordM at h1
      obtain ⟨x, hx, hb⟩ := List.mem_flatMap.1 h1
      unfold piecesM at hx
      obtain ⟨z, hz, rfl⟩ := List.mem_map.1 hx
      have bz := (prs_bef sA sB (x := z) hz).1
      unfold bordOf at hb
      rcases List.mem_append.1 hb with hb | hb
      · split at hb
        · rename_i c
          have e := List.mem_singleton.1 hb
          have ez : z = (p, q) := by rw [e]; rfl
          rw [ez] at c
          simp only [Bool.and_eq_true] at c
          exact c.1
        · cases hb
      · split at hb
        · have e := List.mem_singleton.1 hb
          injection e with e1 e2
          have e1' : p = z.2 := e1
          have e2' : q = z.1 := e2
          rw [← e1', ← e2', bef_asym b] at bz
          cases bz
        · cases hb
    unfold bordM at h2
    obtain ⟨x, hx, hb⟩ := List.mem_flatMap.1 h2
    unfold piecesM at hx
    obtain ⟨z, hz, rfl⟩ := List.mem_map.1 hx
    have bz := (prs_bef sA sB (x := z) hz).1
    unfold bordOf at hb
    rcases List.mem_append.1 hb with hb | hb
    · split at hb
      · have e := List.mem_singleton.1 hb
        injection e with e1 e2
        have e1' : q = z.1 := e1
        have e2' : p = z.2 := e2
        rw [← e1', ← e2', bef_asym b] at bz
        cases bz
      · cases hb
    · split at hb
      · rename_i c
        have e := List.mem_singleton.1 hb
        injection e with e1 e2
        have e1' : q = z.2 := e1
        have e2' : p = z.1 := e2
        have ez : z = (p, q) := by rw [e1', e2']
        rw [ez] at c
        simp only [Bool.and_eq_true, Bool.not_eq_true'] at c
        rw [a1] at c
        cases c.2
      · cases hb
  have n := bord_nice sA sB op h1
  cases b1 : befB p q
  · cases b2 : befB q p
    · exact n.2.2 (canon_eq n.1.2 n.2.1.2 b1 b2)
    · exact key b2 h2 h1
  · exact key b1 h1 h2
omit sA sB in
/-- A straight row of borders from u to v; J: their numbers. -/
def Chn (L : List (Pt × Pt)) (u v : Pt) (J : Nat → Prop) : Prop := ∃ (r : Nat) (x : Nat → Pt) (ι : Nat → Nat), 1 ≤ r ∧ x 0 = u ∧ x r = v ∧ (∀ k, k < r → befB (x k) (x (k + 1)) = true ∧ ι k < L.length ∧ (edg L (ι k) = (x k, x (k + 1)) ∨ edg L (ι k) = (x (k + 1), x k)) ∧ J (ι k)) ∧ (∀ k, k ≤ r → detM u v (x k) = 0) ∧ befB u v = true
omit sA sB in
theorem find_step {x : Nat → Pt} {σ : Pt} : ∀ r, befB σ (x 0) = false → befB σ (x r) = true → ∃ k, k < r ∧ befB σ (x k) = false ∧ befB σ (x (k + 1)) = true
  | 0, h0, h1 => by rw [h0] at h1; cases h1
  | r + 1, h0, h1 => by
    cases c : befB σ (x r)
    · exact ⟨r, by omega, c, h1⟩
    · obtain ⟨k, hk, a, b⟩ := find_step r h0 c
      exact ⟨k, by omega, a, b⟩
theorem share_one {u v u' v' : Pt} {J J' : Nat → Prop} (h : Chn (bordM op (piecesM A B)) u v J) (h' : Chn (bordM op (piecesM A B)) u' v' J') (d1 : detM u v u' = 0) (d2 : detM u v v' = 0) (o1 : befB u v' = true) (le : befB u u' = false) : ∃ n, J n ∧ J' n := by
  obtain ⟨r, x, ι, r1, x0, xr, hk, hl, huv⟩ := h
  obtain ⟨r', x', ι', r1', x0', xr', hk', hl', huv'⟩ := h'
  have hG := good_both sA sB
  have hS := (spots_spec hG).1
  have mem : ∀ {p q : Pt} {n : Nat}, n < (bordM op (piecesM A B)).length → (edg (bordM op (piecesM A B)) n = (p, q) ∨ edg (bordM op (piecesM A B)) n = (q, p)) → ((p, q) ∈ bordM op (piecesM A B) ∨ (q, p) ∈ bordM op (piecesM A B)) := fun {p q n} hn e => by
    rcases e with e | e
    · exact .inl (by rw [← e]; exact edg_mem hn)
    · exact .inr (by rw [← e]; exact edg_mem hn)
  -- the first piece of the one
  obtain ⟨b0, i0, e0, j0⟩ := hk 0 (by omega)
  rw [x0, Nat.zero_add] at b0 e0
  have p0 := bord_prs sA sB op (mem i0 e0) b0
  obtain ⟨k, hkr, c1, c2⟩ := find_step (x := x') (σ := u) r' (by rw [x0']; exact le) (by rw [xr']; exact o1)
  obtain ⟨bk, ik, ek, jk⟩ := hk' k hkr
  have pk := bord_prs sA sB op (mem ik ek) bk
  have d0 := (prs_bef sA sB p0)
  have dk := (prs_bef sA sB pk)
  -- all on one line
  have l0 : ∀ z, detM u v z = 0 ↔ detM u (x 1) z = 0 := fun z => by
    have t1 := hl 1 (by omega)
    have t0 : detM u v u = 0 := det_first _ _
    exact (line_sign d0.2.1 d0.2.1 t0 t1 huv b0).2
  have du' : 0 < u'.d := by
    have := (prs_bef sA sB (bord_prs sA sB op (mem (hk' 0 (by omega)).2.1 (hk' 0 (by omega)).2.2.1) (hk' 0 (by omega)).1)).2.1
    rw [x0'] at this; exact this
  have l1 : ∀ z, detM u v z = 0 ↔ detM u' v' z = 0 := fun z => (line_sign d0.2.1 du' d1 d2 huv huv').2
  have l2 : ∀ z, detM u' v' z = 0 ↔ detM (x' k) (x' (k + 1)) z = 0 := fun z => (line_sign du' dk.2.1 (hl' k (by omega)) (hl' (k + 1) (by omega)) huv' bk).2
  have su : u ∈ spotsM (edgesM A ++ edgesM B) := by
    obtain ⟨e, he, al⟩ := ((pairs_spec _ hS).2 _).1 p0
    exact (AL_mem al).1
  have eu : u = x' k := by
    cases c3 : befB (x' k) u
    · have m2 : x' k ∈ spotsM (edgesM A ++ edgesM B) := by
        obtain ⟨e, he, al⟩ := ((pairs_spec _ hS).2 _).1 pk
        exact (AL_mem al).1
      exact canon_eq (hS.nc _ su).2 (hS.nc _ m2).2 c1 c3
    · exfalso
      have z := no_between hG su c3 pk c2
      have z0 : detM (x' k) (x' (k + 1)) u = 0 := (l2 u).1 ((l1 u).1 (det_first _ _))
      apply z
      have : detM (x' k) u (x' (k + 1)) = -detM (x' k) (x' (k + 1)) u := by unfold detM; grind
      omega
  rw [← eu] at pk bk ek l2
  have e1 : x 1 = x' (k + 1) := by
    have s1 : detM u (x 1) (x' (k + 1)) = 0 := (l0 _).1 ((l1 _).2 ((l2 _).2 (det_last _ _)))
    have m1 : x 1 ∈ spotsM (edgesM A ++ edgesM B) := by
      obtain ⟨e, he, al⟩ := ((pairs_spec _ hS).2 _).1 p0
      exact (AL_mem al).2.1
    have m2 : x' (k + 1) ∈ spotsM (edgesM A ++ edgesM B) := by
      obtain ⟨e, he, al⟩ := ((pairs_spec _ hS).2 _).1 pk
      exact (AL_mem al).2.1
    cases c3 : befB (x 1) (x' (k + 1))
    · cases c4 : befB (x' (k + 1)) (x 1)
      · exact canon_eq (hS.nc _ m1).2 (hS.nc _ m2).2 c3 c4
      · exfalso
        have z := ons_apart hG pk p0 c4
        apply z
        have : detM u (x' (k + 1)) (x 1) = -detM u (x 1) (x' (k + 1)) := by unfold detM; grind
        omega
    · exact absurd s1 (ons_apart hG p0 pk c3)
  rw [← e1] at ek
  have nd := bord_nodup sA sB op
  refine ⟨ι 0, j0, ?_⟩
  have same : ι 0 = ι' k := by
    refine edg_inj nd i0 ik ?_
    rcases e0 with e0 | e0 <;> rcases ek with ek | ek
    · rw [e0, ek]
    · exfalso
      have a := edg_mem i0
      have b := edg_mem ik
      rw [e0] at a
      rw [ek] at b
      exact one_way sA sB op a b
    · exfalso
      have a := edg_mem i0
      have b := edg_mem ik
      rw [e0] at a
      rw [ek] at b
      exact one_way sA sB op b a
    · rw [e0, ek]
  rw [same]; exact jk
/-- Straight rows of borders that lie along each other have a border in common. -/
theorem share {u v u' v' : Pt} {J J' : Nat → Prop} (h : Chn (bordM op (piecesM A B)) u v J) (h' : Chn (bordM op (piecesM A B)) u' v' J') (d1 : detM u v u' = 0) (d2 : detM u v v' = 0) (o1 : befB u v' = true) (o2 : befB u' v = true) : ∃ n, J n ∧ J' n := by
  cases c : befB u u'
  · exact share_one sA sB op h h' d1 d2 o1 c
  · have q := h
    have q' := h'
    obtain ⟨r, x, ι, r1, x0, xr, hk, hl, huv⟩ := q
    obtain ⟨r', x', ι', r1', x0', xr', hk', hl', huv'⟩ := q'
    have mem : ∀ {p q : Pt} {n : Nat}, n < (bordM op (piecesM A B)).length → (edg (bordM op (piecesM A B)) n = (p, q) ∨ edg (bordM op (piecesM A B)) n = (q, p)) → ((p, q) ∈ bordM op (piecesM A B) ∨ (q, p) ∈ bordM op (piecesM A B)) := fun {p q n} hn e => by
      rcases e with e | e
      · exact .inl (by rw [← e]; exact edg_mem hn)
      · exact .inr (by rw [← e]; exact edg_mem hn)
    have du : 0 < u.d := by
      have := (prs_bef sA sB (bord_prs sA sB op (mem (hk 0 (by omega)).2.1 (hk 0 (by omega)).2.2.1) (hk 0 (by omega)).1)).2.1
      rw [x0] at this; exact this
    have du' : 0 < u'.d := by
      have := (prs_bef sA sB (bord_prs sA sB op (mem (hk' 0 (by omega)).2.1 (hk' 0 (by omega)).2.2.1) (hk' 0 (by omega)).1)).2.1
      rw [x0'] at this; exact this
    have l1 : ∀ z, detM u v z = 0 ↔ detM u' v' z = 0 := fun z => (line_sign du du' d1 d2 huv huv').2
    obtain ⟨n, a, b⟩ := share_one sA sB op h' h ((l1 u).1 (det_first _ _)) ((l1 v).1 (det_last _ _)) o2 (bef_asym c)
    exact ⟨n, b, a⟩
end
end Go.Proofs.Ytnkcbephceollab
