import Derived.Test.YtnkcbephceollabQ45
namespace Go.Proofs.Ytnkcbephceollab
set_option linter.unusedSimpArgs false
set_option linter.unusedVariables false
set_option linter.unusedSectionVars false

/-! The rings, laid over nothing, are the same rings: as Clip tells them. -/
section
variable {A B : List (List Pt)} (sA : Sound A) (sB : Sound B) (op : Int)
include sA sB
theorem rings_sorted : (ringsM (bordM op (piecesM A B))).Pairwise (fun x y => clM x y ≤ 0) := by
  unfold ringsM
  obtain ⟨q1, _, _, _, q5⟩ := rings_eq sA sB op _ (Nat.le_refl _)
  rw [q1]; exact q5
theorem rd_from {i : Nat} (hi : i < (bordM op (piecesM A B)).length) : ∃ m, Rd (bordM op (piecesM A B)) (i, m) := by
  obtain ⟨m, m1, _, mi, ml⟩ := comes_back (nexts_pm sA sB op) hi
  exact ⟨m, hi, m1, mi, ml⟩
variable {C : List (List Pt)} (hC : C = ringsM (bordM op (piecesM A B))) (sC : Sound C)
include hC sC
theorem again_mem (r : List Pt) : r ∈ ringsM (bordM 1 (piecesM C [])) ↔ r ∈ ringsM (bordM op (piecesM A B)) := by
  constructor
  · intro hr
    obtain ⟨I, h1, h2, h3, h4⟩ := rounds_whole sC sound_none 1
    obtain ⟨z, hz, rfl⟩ := List.mem_map.1 (h1.mem_iff.1 hr)
    have rd := h3 z hz
    obtain ⟨b, hb, su, st⟩ := sub_first sA sB op hC sC (edg_mem rd.lt)
    obtain ⟨i, hi, rfl⟩ := mem_edg hb
    obtain ⟨m, rm⟩ := rd_from sA sB op hi
    rw [← ring_same sA sB op hC sC rm (show Rd _ (z.1, z.2) from rd) su st]
    exact rd_mem sA sB op rm
  · intro hr
    obtain ⟨I, h1, h2, h3, h4⟩ := rounds_whole sA sB op
    obtain ⟨z, hz, rfl⟩ := List.mem_map.1 (h1.mem_iff.1 hr)
    have rd := h3 z hz
    have ps := pos_some sA sB op rd
    obtain ⟨b, hb⟩ := List.exists_mem_of_ne_nil _ ps
    have tb := (pos_mem.1 hb).2
    have sp := c_spot sA sB op hC sC (turn_pt sA sB op rd.lt tb)
    obtain ⟨r1, r2⟩ := rd_rot sA sB op rd (b + 1)
    have lt : itN (nextsM (bordM op (piecesM A B))) z.1 (b + 1) < (bordM op (piecesM A B)).length := r1.lt
    obtain ⟨b', hb', su⟩ := sub_ex sA sB op hC sC (edg_mem lt)
    have st := sub_start sA sB op hC sC (edg_mem lt) hb' su sp
    obtain ⟨i', hi', rfl⟩ := mem_edg hb'
    obtain ⟨m', rm'⟩ := rd_from sC sound_none 1 hi'
    rw [← r2, ring_same sA sB op hC sC r1 rm' su st]
    exact rd_mem sC sound_none 1 rm'
end
theorem sorted_eq : ∀ {l m : List (List Pt)}, (∀ r ∈ l, NL r) → l.Perm m → l.Pairwise (fun x y => clM x y ≤ 0) → m.Pairwise (fun x y => clM x y ≤ 0) → l = m
  | [], m, _, p, _, _ => (List.nil_perm.1 p).symm ▸ rfl
  | x :: l, [], _, p, _, _ => by simp at p
  | x :: l, y :: m, h, p, s1, s2 => by
    have q1 := List.pairwise_cons.1 s1
    have q2 := List.pairwise_cons.1 s2
    have hm : ∀ r ∈ y :: m, NL r := fun r hr => h r (p.mem_iff.2 hr)
    have le1 : clM x y ≤ 0 := by
      rcases List.mem_cons.1 (p.mem_iff.2 (List.mem_cons_self (a := y) (l := m))) with e | e
      · rw [e, cl_self]; exact Int.le_refl _
      · exact q1.1 y e
    have le2 : clM y x ≤ 0 := by
      rcases List.mem_cons.1 (p.mem_iff.1 (List.mem_cons_self (a := x) (l := l))) with e | e
      · rw [e, cl_self]; exact Int.le_refl _
      · exact q2.1 x e
    have e := cl_eq (h x List.mem_cons_self) (hm y List.mem_cons_self) le1 le2
    subst e
    rw [sorted_eq (fun r hr => h r (List.mem_cons_of_mem _ hr)) ((List.perm_cons x).1 p) q1.2 q2.2]
/-- Laid over nothing. -/
theorem again_eq {A B : List (List Pt)} (sA : Sound A) (sB : Sound B) (op : Int) {C : List (List Pt)} (hC : C = ringsM (bordM op (piecesM A B))) (sC : Sound C) : ringsM (bordM 1 (piecesM C [])) = C := by
  have fm := (rings_fm sC sound_none 1).1
  conv => rhs; rw [hC]
  letI : DecidableEq (List Pt) := fun a b => Classical.propDecidable (a = b)
  exact sorted_eq (fun r hr => (fm r hr).nice) (perm_nd (rings_nodup sC sound_none 1) (rings_nodup sA sB op) (again_mem sA sB op hC sC)) (rings_sorted sC sound_none 1) (rings_sorted sA sB op)
/-- One border list for the three. -/
theorem bord_cong {op : Int} {A B C : List (List Pt)} (hp : prs A B = prs C []) (hi : ∀ g : Pt → Pt → Bool, inM op (parB g (edgesM A)) (parB g (edgesM B)) = parB g (edgesM C)) : bordM op (piecesM A B) = bordM 1 (piecesM C []) := by
  have e1 : piecesM A B = (prs A B).map (pcOf (edgesM A) (edgesM B)) := rfl
  have e2 : piecesM C [] = (prs C []).map (pcOf (edgesM C) (edgesM [])) := rfl
  rw [e1, e2, hp]
  unfold bordM
  rw [List.flatMap_map, List.flatMap_map]
  congr 1
  funext x
  have one : ∀ a : Bool, inM 1 a false = a := fun a => by unfold inM; cases a <;> decide
  have f : ∀ g : Pt → Pt → Bool, parB g (edgesM []) = false := fun g => rfl
  unfold bordOf pcOf
  simp only
  rw [hi, hi, f, f, one, one]
theorem prs_none_l (C : List (List Pt)) : prs [] C = prs C [] := by
  unfold prs
  have : edgesM ([] : List (List Pt)) = [] := rfl
  rw [this, List.append_nil, List.nil_append]
theorem prs_two {C : List (List Pt)} (sC : Sound C) : prs C C = prs C [] := by
  have e0 : edgesM ([] : List (List Pt)) = [] := rfl
  have g1 := good_both sC sC
  have g2 := good_both sC sound_none
  obtain ⟨s1, m1⟩ := spots_spec g1
  obtain ⟨s2, m2⟩ := spots_spec g2
  have mm : ∀ e, e ∈ edgesM C ++ edgesM C ↔ e ∈ edgesM C ++ edgesM [] := fun e => by rw [e0]; simp
  have es : spotsM (edgesM C ++ edgesM C) = spotsM (edgesM C ++ edgesM []) := s1.eq s2 fun x => by
    rw [m1, m2]
    constructor
    · rintro ⟨e, he, f, hf, h⟩; exact ⟨e, (mm e).1 he, f, (mm f).1 hf, h⟩
    · rintro ⟨e, he, f, hf, h⟩; exact ⟨e, (mm e).2 he, f, (mm f).2 hf, h⟩
  unfold prs
  rw [es]
  obtain ⟨p1, q1⟩ := pairs_spec (edgesM C ++ edgesM C) s2
  obtain ⟨p2, q2⟩ := pairs_spec (edgesM C ++ edgesM []) s2
  exact srt_unique PR_irr PR_asy p1 p2 fun x => by
    rw [q1, q2]
    constructor
    · rintro ⟨e, he, h⟩; exact ⟨e, (mm e).1 he, h⟩
    · rintro ⟨e, he, h⟩; exact ⟨e, (mm e).2 he, h⟩
theorem again_three {A B : List (List Pt)} (sA : Sound A) (sB : Sound B) (op : Int) {C : List (List Pt)} (hC : C = ringsM (bordM op (piecesM A B))) (sC : Sound C) :
    ringsM (bordM 1 (piecesM C [])) = C ∧ ringsM (bordM 4 (piecesM [] C)) = C ∧ ringsM (bordM 0 (piecesM C C)) = C := by
  have h := again_eq sA sB op hC sC
  have f : ∀ g : Pt → Pt → Bool, parB g (edgesM []) = false := fun g => rfl
  refine ⟨h, ?_, ?_⟩
  · rw [bord_cong (prs_none_l C) (fun g => by rw [f]; unfold inM; cases parB g (edgesM C) <;> decide)]
    exact h
  · rw [bord_cong (prs_two sC) (fun g => by unfold inM; cases parB g (edgesM C) <;> decide)]
    exact h
end Go.Proofs.Ytnkcbephceollab
namespace Go.Proofs.Ytnkcbephceollab
set_option linter.unusedSimpArgs false
set_option linter.unusedVariables false

/-! Edges turned round, and in another order: what does not hang on that. -/
def sw (e : Pt × Pt) : Pt × Pt := (e.2, e.1)
theorem sw_sw (e : Pt × Pt) : sw (sw e) = e := rfl
theorem parB_permS {f : Pt → Pt → Bool} {l m : List (Pt × Pt)} (h : l.Perm m) : parB f l = parB f m := by
  rw [parB_count, parB_count, h.countP_eq]
theorem parB_sw (f : Pt → Pt → Bool) : ∀ l, parB f (l.map sw) = parB (fun a b => f b a) l
  | [] => rfl
  | e :: l => by simp only [List.map_cons, parB, parB_sw f l, sw]
/-- An edge between two grid points. -/
def Eg (e : Pt × Pt) : Prop := Gr e.1 ∧ Gr e.2 ∧ e.1 ≠ e.2
theorem Eg.sw {e : Pt × Pt} (h : Eg e) : Eg (sw e) := ⟨h.2.1, h.1, fun e => h.2.2 e.symm⟩
theorem cmp_gr {a b : Pt} (ha : Gr a) (hb : Gr b) : cmpM a b = 0 ↔ a = b := by
  obtain ⟨ax, ay, ad⟩ := a
  obtain ⟨bx, by', bd⟩ := b
  have h1 : ad = 1 := ha.d
  have h2 : bd = 1 := hb.d
  subst h1 h2
  unfold cmpM
  simp only [Int.mul_one, Pt.mk.injEq, and_true]
  split
  · omega
  · omega
theorem cmp_flip {a b : Pt} (ha : Gr a) (hb : Gr b) : cmpM b a < 0 ↔ 0 < cmpM a b := by
  obtain ⟨ax, ay, ad⟩ := a
  obtain ⟨bx, by', bd⟩ := b
  have h1 : ad = 1 := ha.d
  have h2 : bd = 1 := hb.d
  subst h1 h2
  unfold cmpM
  simp only [Int.mul_one]
  split <;> split <;> omega
theorem first_sw {a b : Pt} (ha : Gr a) (hb : Gr b) (h : a ≠ b) : firstM b a = firstM a b := by
  have z := cmp_gr ha hb
  have n1 := cmp_flip ha hb
  unfold firstM
  by_cases c : cmpM a b < 0
  · rw [if_pos c, if_neg (by omega)]
  · have : cmpM a b ≠ 0 := fun e => h (z.1 e)
    rw [if_neg c, if_pos (by omega)]
theorem last_sw {a b : Pt} (ha : Gr a) (hb : Gr b) (h : a ≠ b) : lastM b a = lastM a b := by
  have z := cmp_gr ha hb
  have n1 := cmp_flip ha hb
  have n2 := cmp_flip hb ha
  unfold lastM
  by_cases c : cmpM a b > 0
  · rw [if_pos c, if_neg (by omega)]
  · have : cmpM a b ≠ 0 := fun e => h (z.1 e)
    rw [if_neg c, if_pos (by omega)]
theorem side_sw {e : Pt × Pt} (h : Eg e) (p : Pt) : sideM e.2 e.1 p = sideM e.1 e.2 p := by
  unfold sideM; rw [first_sw h.1 h.2.1 h.2.2, last_sw h.1 h.2.1 h.2.2]
theorem span_sw {e : Pt × Pt} (h : Eg e) (p : Pt) : spanM e.2 e.1 p = spanM e.1 e.2 p := by
  unfold spanM; rw [first_sw h.1 h.2.1 h.2.2, last_sw h.1 h.2.1 h.2.2]
theorem has_sw {e : Pt × Pt} (h : Eg e) (p : Pt) : hasM e.2 e.1 p = hasM e.1 e.2 p := by
  unfold hasM; rw [first_sw h.1 h.2.1 h.2.2, last_sw h.1 h.2.1 h.2.2, side_sw h]
theorem leftE_sw {e : Pt × Pt} (h : Eg e) (p q : Pt) : leftE p q e.2 e.1 = leftE p q e.1 e.2 := by
  unfold leftE sideOfM; rw [span_sw h, side_sw h, side_sw h]
theorem rightE_sw {e : Pt × Pt} (h : Eg e) (p q : Pt) : rightE p q e.2 e.1 = rightE p q e.1 e.2 := by
  unfold rightE sideOfM; rw [span_sw h, side_sw h, side_sw h]
theorem meet_sw1 {e f : Pt × Pt} (he : Eg e) (hf : Eg f) : meetM e.2 e.1 f.1 f.2 = meetM e.1 e.2 f.1 f.2 :=
  meet_sym2 he.1.d he.2.1.d hf.1.d hf.2.1.d
theorem meet_sw2 {e f : Pt × Pt} (he : Eg e) (hf : Eg f) : meetM e.1 e.2 f.2 f.1 = meetM e.1 e.2 f.1 f.2 := by
  have h1 := meet_sym1 he.1.d he.2.1.d hf.1.d hf.2.1.d he.2.2 hf.2.2
  have h2 := meet_sym1 he.1.d he.2.1.d hf.2.1.d hf.1.d he.2.2 (fun e => hf.2.2 e.symm)
  have h3 := meet_sw1 hf he
  rw [← h2, ← h1, h3]
theorem meet_swp {e f : Pt × Pt} (he : Eg e) (hf : Eg f) : meetM f.1 f.2 e.1 e.2 = meetM e.1 e.2 f.1 f.2 := by
  have h1 := meet_sym1 he.1.d he.2.1.d hf.1.d hf.2.1.d he.2.2 hf.2.2
  rw [← h1, meet_sw1 hf he]
theorem good_eg {E : List (Pt × Pt)} (h : Good E) : ∀ e ∈ E, Eg e := fun e he => ⟨(h.gr e he).1, (h.gr e he).2, h.ne e he⟩

/-- Every edge of E is one of F, or one of F turned round. -/
def Cov (E F : List (Pt × Pt)) : Prop := ∀ e ∈ E, e ∈ F ∨ sw e ∈ F
theorem spots_cov {E F : List (Pt × Pt)} (hE : Good E) (hF : Good F) (h : Cov E F) : ∀ x ∈ spotsM E, x ∈ spotsM F := fun x hx => by
  rw [(spots_spec hE).2] at hx
  rw [(spots_spec hF).2]
  obtain ⟨e, he, f, hf, k⟩ := hx
  have ge := good_eg hE e he
  have gf := good_eg hE f hf
  rcases h e he with h1 | h1 <;> rcases h f hf with h2 | h2
  · exact ⟨e, h1, f, h2, k⟩
  · exact ⟨e, h1, sw f, h2, by show inMt (meetM e.1 e.2 f.2 f.1) x; rw [meet_sw2 ge gf]; exact k⟩
  · exact ⟨sw e, h1, f, h2, by show inMt (meetM e.2 e.1 f.1 f.2) x; rw [meet_sw1 ge gf]; exact k⟩
  · exact ⟨sw e, h1, sw f, h2, by show inMt (meetM e.2 e.1 f.2 f.1) x; rw [show meetM e.2 e.1 f.2 f.1 = meetM e.1 e.2 f.2 f.1 from meet_sw1 ge gf.sw, meet_sw2 ge gf]; exact k⟩
theorem spots_same {E F : List (Pt × Pt)} (hE : Good E) (hF : Good F) (h1 : Cov E F) (h2 : Cov F E) : spotsM E = spotsM F :=
  (spots_spec hE).1.eq (spots_spec hF).1 fun x => ⟨spots_cov hE hF h1 x, spots_cov hF hE h2 x⟩
theorem pairs_cov {E F : List (Pt × Pt)} {S : List Pt} (hE : Good E) (hS : SN S) (h : Cov E F) : ∀ x ∈ pairsL E S, x ∈ pairsL F S := fun x hx => by
  rw [(pairs_spec E hS).2] at hx
  rw [(pairs_spec F hS).2]
  obtain ⟨e, he, k⟩ := hx
  rcases h e he with h1 | h1
  · exact ⟨e, h1, k⟩
  · exact ⟨sw e, h1, (AL_congr (fun s _ => has_sw (good_eg hE e he) s) x).2 k⟩
theorem pairs_same {E F : List (Pt × Pt)} {S : List Pt} (hE : Good E) (hF : Good F) (hS : SN S) (h1 : Cov E F) (h2 : Cov F E) : pairsL E S = pairsL F S :=
  srt_unique PR_irr PR_asy (pairs_spec E hS).1 (pairs_spec F hS).1 fun x => ⟨pairs_cov hE hS h1 x, pairs_cov hF hS h2 x⟩
theorem sound_eg {P : List (List Pt)} (h : Sound P) : ∀ e ∈ edgesM P, Eg e := fun e he => by
  have := good_both h h
  exact good_eg this e (List.mem_append.2 (.inl he))
theorem cov_of {E F G : List (Pt × Pt)} (h : F.Perm (E.map sw)) : Cov (E ++ G) (F ++ G) ∧ Cov (F ++ G) (E ++ G) := by
  constructor
  · intro e he
    rcases List.mem_append.1 he with he | he
    · exact .inr (List.mem_append.2 (.inl (h.mem_iff.2 (List.mem_map.2 ⟨e, he, rfl⟩))))
    · exact .inl (List.mem_append.2 (.inr he))
  · intro e he
    rcases List.mem_append.1 he with he | he
    · obtain ⟨x, hx, rfl⟩ := List.mem_map.1 (h.mem_iff.1 he)
      exact .inr (List.mem_append.2 (.inl hx))
    · exact .inl (List.mem_append.2 (.inr he))
/-- The pieces are the same. -/
theorem pieces_tw {A A' B : List (List Pt)} (sA : Sound A) (sA' : Sound A') (sB : Sound B) (h : (edgesM A').Perm ((edgesM A).map sw)) : piecesM A' B = piecesM A B := by
  have g := good_both sA sB
  have g' := good_both sA' sB
  obtain ⟨c1, c2⟩ := cov_of (G := edgesM B) h
  have s := spots_same g' g c2 c1
  unfold piecesM
  rw [s, pairs_same g' g (spots_spec g).1 c2 c1]
  refine List.map_congr_left fun x _ => ?_
  unfold pcOf
  have l : parB (leftE x.1 x.2) (edgesM A') = parB (leftE x.1 x.2) (edgesM A) := by
    rw [parB_permS h, parB_sw]
    exact parB_congr fun e he => leftE_sw (sound_eg sA e he) _ _
  have r : parB (rightE x.1 x.2) (edgesM A') = parB (rightE x.1 x.2) (edgesM A) := by
    rw [parB_permS h, parB_sw]
    exact parB_congr fun e he => rightE_sw (sound_eg sA e he) _ _
  rw [l, r]

/-! Check. -/
theorem findM_iff {α : Type} (f : α → Bool) : ∀ (l : List α) (i : Int), 0 ≤ i → (findM f i l = -1 ↔ ∀ x ∈ l, f x = false)
  | [], _, _ => by simp [findM]
  | y :: l, i, hi => by
    have ih := findM_iff f l (i + 1) (by omega)
    constructor
    · exact fun h => findM_none f (y :: l) i hi h
    · intro h
      have hy := h y List.mem_cons_self
      unfold findM
      rw [if_neg (by rw [hy]; decide)]
      exact ih.2 (fun x hx => h x (List.mem_cons_of_mem _ hx))
theorem badM_iff : ∀ (P : List (List Pt)) (room i : Int), 0 ≤ i → 0 ≤ room → (badM room i P = -1 ↔ (∀ n ∈ P.map List.length, 3 ≤ n) ∧ ((P.map List.length).sum : Int) ≤ room)
  | [], _, _, _, hr => by simp [badM]; omega
  | r :: P, room, i, hi, hr => by
    unfold badM
    by_cases c : (r.length : Int) < 3 ∨ room < (r.length : Int)
    · rw [if_pos c]
      constructor
      · intro h; omega
      · rintro ⟨h1, h2⟩
        have h3 := h1 r.length (by simp)
        simp only [List.map_cons, List.sum_cons] at h2
        omega
    · rw [if_neg c]
      rw [badM_iff P (room - r.length) (i + 1) (by omega) (by omega)]
      simp only [List.map_cons, List.sum_cons, List.mem_cons, forall_eq_or_imp]
      constructor
      · rintro ⟨h1, h2⟩; exact ⟨⟨by omega, h1⟩, by omega⟩
      · rintro ⟨⟨_, h1⟩, h2⟩; exact ⟨h1, by omega⟩
theorem shares_iff (E : List (Pt × Pt)) : findM (sharesM E) 0 (List.range E.length) = -1 ↔ E.Pairwise (fun e f => alongB f e = false) := by
  rw [findM_iff _ _ _ (by decide), List.pairwise_iff_getElem]
  constructor
  · intro h i j hi hj hij
    have := h j (by simpa using hj)
    unfold sharesM at this
    rw [List.any_eq_false] at this
    have h2 := this E[i] (by rw [List.mem_take_iff_getElem]; exact ⟨i, by omega, rfl⟩)
    rw [List.getD_eq_getElem?_getD, List.getElem?_eq_getElem hj] at h2
    simpa using h2
  · intro h j hj
    have hj' : j < E.length := by simpa using hj
    unfold sharesM
    rw [List.any_eq_false]
    intro x hx
    rw [List.mem_take_iff_getElem] at hx
    obtain ⟨i, hi, rfl⟩ := hx
    rw [List.getD_eq_getElem?_getD, List.getElem?_eq_getElem hj']
    have := h i j (by omega) hj' (by omega)
    simpa using this
theorem along_sw {e f : Pt × Pt} (he : Eg e) (hf : Eg f) : alongB (sw e) (sw f) = alongB e f := by
  unfold alongB
  show ((meetM e.2 e.1 f.2 f.1).k == 2) = _
  rw [show meetM e.2 e.1 f.2 f.1 = meetM e.1 e.2 f.2 f.1 from meet_sw1 he hf.sw, meet_sw2 he hf]
theorem along_comm {e f : Pt × Pt} (he : Eg e) (hf : Eg f) : alongB f e = alongB e f := by
  unfold alongB; rw [meet_swp he hf]
theorem shares_tw {E F : List (Pt × Pt)} (hE : ∀ e ∈ E, Eg e) (h : F.Perm (E.map sw)) : findM (sharesM F) 0 (List.range F.length) = -1 ↔ findM (sharesM E) 0 (List.range E.length) = -1 := by
  rw [shares_iff, shares_iff]
  have hF : ∀ e ∈ F, Eg e := fun e he => by
    obtain ⟨x, hx, rfl⟩ := List.mem_map.1 (h.mem_iff.1 he)
    exact (hE x hx).sw
  have e1 : F.Pairwise (fun e f => alongB f e = false) ↔ F.Pairwise (fun e f => Eg e → Eg f → alongB f e = false) :=
    ⟨fun k => k.imp (fun x _ _ => x), fun k => k.imp_of_mem (fun ha hb x => x (hF _ ha) (hF _ hb))⟩
  have e2 : E.Pairwise (fun e f => alongB f e = false) ↔ E.Pairwise (fun e f => Eg e → Eg f → alongB f e = false) :=
    ⟨fun k => k.imp (fun x _ _ => x), fun k => k.imp_of_mem (fun ha hb x => x (hE _ ha) (hE _ hb))⟩
  rw [e1, e2, h.pairwise_iff (fun {x y} k hy hx => by rw [along_comm hy hx]; exact k hx hy), List.pairwise_map]
  constructor
  · exact fun k => k.imp (fun x ha hb => by rw [← along_sw hb ha]; exact x ha.sw hb.sw)
  · exact fun k => k.imp (fun {a b} x ha hb => by
      have ha' : Eg a := ha.sw
      have hb' : Eg b := hb.sw
      rw [along_sw hb' ha']; exact x ha' hb')
theorem perm_sum {l m : List Nat} (h : l.Perm m) : l.sum = m.sum := by
  induction h with
  | nil => rfl
  | cons x _ ih => simp [ih]
  | swap x y l => simp; omega
  | trans _ _ h1 h2 => exact h1.trans h2
/-- What Check says of the one it says of the other. -/
theorem check_tw {A A' : List (List Pt)} (hl : (A'.map List.length).Perm (A.map List.length)) (h : (edgesM A').Perm ((edgesM A).map sw)) : (checkM A').1 = (checkM A).1 := by
  have hn : A'.length = A.length := by simpa using hl.length_eq
  have hm : ∀ e, e ∈ edgesM A' ↔ sw e ∈ edgesM A := fun e => by
    rw [h.mem_iff, List.mem_map]
    exact ⟨fun ⟨x, hx, ex⟩ => by rw [← ex]; exact hx, fun k => ⟨sw e, k, rfl⟩⟩
  unfold checkM
  rw [hn]
  by_cases c1 : 4 < A.length
  · rw [if_pos c1, if_pos c1]
  rw [if_neg c1, if_neg c1]
  have b : badM 12 0 A' = -1 ↔ badM 12 0 A = -1 := by
    rw [badM_iff A' 12 0 (by decide) (by decide), badM_iff A 12 0 (by decide) (by decide), perm_sum hl]
    exact ⟨fun ⟨k1, k2⟩ => ⟨fun n hn => k1 n (hl.mem_iff.2 hn), k2⟩, fun ⟨k1, k2⟩ => ⟨fun n hn => k1 n (hl.mem_iff.1 hn), k2⟩⟩
  by_cases c2 : badM 12 0 A = -1
  · have n1 : ¬ badM 12 0 A' ≠ -1 := fun k => k (b.2 c2)
    have n2 : ¬ badM 12 0 A ≠ -1 := fun k => k c2
    rw [if_neg n1, if_neg n2]
    have g : findM (fun e : Pt × Pt => !gridB e.1) 0 (edgesM A') = -1 ↔ findM (fun e : Pt × Pt => !gridB e.1) 0 (edgesM A) = -1 := by
      rw [findM_iff _ _ _ (by decide), findM_iff _ _ _ (by decide)]
      constructor
      · intro k e he
        obtain ⟨x, hx, ex⟩ := edge_second A' (sw e) ((hm _).2 he)
        have := k x hx
        rw [ex] at this; exact this
      · intro k e he
        obtain ⟨x, hx, ex⟩ := edge_second A (sw e) ((hm _).1 he)
        have := k x hx
        rw [ex] at this; exact this
    by_cases c3 : findM (fun e : Pt × Pt => !gridB e.1) 0 (edgesM A) = -1
    · have n1 : ¬ findM (fun e : Pt × Pt => !gridB e.1) 0 (edgesM A') ≠ -1 := fun k => k (g.2 c3)
      have n2 : ¬ findM (fun e : Pt × Pt => !gridB e.1) 0 (edgesM A) ≠ -1 := fun k => k c3
      rw [if_neg n1, if_neg n2]
      have z : findM (fun e : Pt × Pt => eqB e.1 e.2) 0 (edgesM A') = -1 ↔ findM (fun e : Pt × Pt => eqB e.1 e.2) 0 (edgesM A) = -1 := by
        rw [findM_iff _ _ _ (by decide), findM_iff _ _ _ (by decide)]
        have sy : ∀ p q : Pt, eqB p q = eqB q p := fun p q => by unfold eqB; simp only [decide_eq_decide]; omega
        exact ⟨fun k e he => by rw [sy]; exact k (sw e) ((hm _).2 he), fun k e he => by rw [sy]; exact k (sw e) ((hm _).1 he)⟩
      by_cases c4 : findM (fun e : Pt × Pt => eqB e.1 e.2) 0 (edgesM A) = -1
      · have n1 : ¬ findM (fun e : Pt × Pt => eqB e.1 e.2) 0 (edgesM A') ≠ -1 := fun k => k (z.2 c4)
        have n2 : ¬ findM (fun e : Pt × Pt => eqB e.1 e.2) 0 (edgesM A) ≠ -1 := fun k => k c4
        rw [if_neg n1, if_neg n2]
        have hE : ∀ e ∈ edgesM A, Eg e := fun e he => by
          have k3 := (findM_iff _ _ _ (by decide)).1 c3
          have k4 := (findM_iff _ _ _ (by decide)).1 c4 e he
          obtain ⟨x, hx, ex⟩ := edge_second A e he
          have g1 : Gr e.1 := gr_of (by have := k3 e he; simpa using this)
          have g2 : Gr e.2 := gr_of (by have := k3 x hx; rw [ex] at this; simpa using this)
          refine ⟨g1, g2, fun ee => ?_⟩
          rw [ee] at k4
          unfold eqB at k4; simp at k4
        have s := shares_tw hE h
        by_cases c5 : findM (sharesM (edgesM A)) 0 (List.range (edgesM A).length) = -1
        · have n1 : ¬ findM (sharesM (edgesM A')) 0 (List.range (edgesM A').length) ≠ -1 := fun k => k (s.2 c5)
          have n2 : ¬ findM (sharesM (edgesM A)) 0 (List.range (edgesM A).length) ≠ -1 := fun k => k c5
          rw [if_neg n1, if_neg n2]
        · have n1 : findM (sharesM (edgesM A')) 0 (List.range (edgesM A').length) ≠ -1 := fun k => c5 (s.1 k)
          have n2 : findM (sharesM (edgesM A)) 0 (List.range (edgesM A).length) ≠ -1 := c5
          rw [if_pos n1, if_pos n2]
      · have n1 : findM (fun e : Pt × Pt => eqB e.1 e.2) 0 (edgesM A') ≠ -1 := fun k => c4 (z.1 k)
        have n2 : findM (fun e : Pt × Pt => eqB e.1 e.2) 0 (edgesM A) ≠ -1 := c4
        rw [if_pos n1, if_pos n2]
    · have n1 : findM (fun e : Pt × Pt => !gridB e.1) 0 (edgesM A') ≠ -1 := fun k => c3 (g.1 k)
      have n2 : findM (fun e : Pt × Pt => !gridB e.1) 0 (edgesM A) ≠ -1 := c3
      rw [if_pos n1, if_pos n2]
  · have n1 : badM 12 0 A' ≠ -1 := fun k => c2 (b.1 k)
    have n2 : badM 12 0 A ≠ -1 := c2
    rw [if_pos n1, if_pos n2]
theorem both_tw {A A' B : List (List Pt)} (hl : (A'.map List.length).Perm (A.map List.length)) (h : (edgesM A').Perm ((edgesM A).map sw)) : bothM A' B = bothM A B := by
  unfold bothM; rw [check_tw hl h]
theorem pcs_tw {A A' B : List (List Pt)} (hl : (A'.map List.length).Perm (A.map List.length)) (h : (edgesM A').Perm ((edgesM A).map sw)) : pcsM A' B = pcsM A B := by
  unfold pcsM
  rw [both_tw hl h]
  by_cases c : bothM A B = 0
  · obtain ⟨c1, c2⟩ := both_zero c
    rw [if_neg (by simpa using c), if_neg (by simpa using c), pieces_tw (sound_of c1) (sound_of (by rw [check_tw hl h]; exact c1)) (sound_of c2) h]
  · rw [if_pos c, if_pos c]
theorem clip_tw {A A' B : List (List Pt)} (op : Int) (hl : (A'.map List.length).Perm (A.map List.length)) (h : (edgesM A').Perm ((edgesM A).map sw)) : clipM op A' B = clipM op A B := by
  unfold clipM
  rw [both_tw hl h]
  by_cases c0 : op < 0 ∨ op > 4
  · rw [if_pos c0, if_pos c0]
  rw [if_neg c0, if_neg c0]
  by_cases c : bothM A B = 0
  · obtain ⟨c1, c2⟩ := both_zero c
    rw [if_neg (by simpa using c), if_neg (by simpa using c), pieces_tw (sound_of c1) (sound_of (by rw [check_tw hl h]; exact c1)) (sound_of c2) h]
  · rw [if_pos c, if_pos c]
end Go.Proofs.Ytnkcbephceollab
