import Derived.Test.YtnkcbephceollabQ43
namespace Go.Proofs.Ytnkcbephceollab
set_option linter.unusedSimpArgs false
set_option linter.unusedVariables false
set_option linter.unusedSectionVars false

/-! The pieces of the rings, and the borders within them. -/
theorem wi_same {p z X s : Pt} (w : Wi p z X) (sd : 0 < s.d) (k1 : befB s X = false) (k2 : befB X s = false) : Wi p z s := by
  refine ⟨w.pd, w.zd, sd, bef_le w.pd w.d sd w.b1 k1, le_bef sd w.d w.zd k2 w.b2, ?_⟩
  have hxy : xv X s = 0 ∧ yv X s = 0 := by
    rw [bef_x] at k2
    rw [bef_x'] at k1
    omega
  have e : X.d * detM p z s = s.d * detM p z X + xv X s * (-yv p z) + yv X s * xv p z := by unfold xv yv detM; grind
  rw [hxy.1, hxy.2, w.l] at e
  simp only [Int.zero_mul, Int.mul_zero, Int.add_zero] at e
  exact (sgn_sc w.d).2.2.1 e
/-- A piece within a greater one. -/
structure InP (x x' : Pt × Pt) : Prop where
  l1 : detM x.1 x.2 x'.1 = 0
  l2 : detM x.1 x.2 x'.2 = 0
  lo : befB x.1 x'.1 = false
  hi : befB x'.2 x.2 = false
section
variable {A B : List (List Pt)} (sA : Sound A) (sB : Sound B) (op : Int) {C : List (List Pt)} (hC : C = ringsM (bordM op (piecesM A B))) (sC : Sound C)
include sA sB hC sC
theorem c_mem {e : Pt × Pt} (he : e ∈ edgesM C ++ edgesM []) : e ∈ edgesM (ringsM (bordM op (piecesM A B))) := by
  rcases List.mem_append.1 he with h | h
  · rw [← hC]; exact h
  · simp [edgesM] at h
/-- No spot of the rings lies within a border. -/
theorem spot_no {v : Pt} (hv : v ∈ spotsM (edgesM C ++ edgesM [])) {x : Pt × Pt} (hx : x ∈ prs A B) (w : Wi x.1 x.2 v) : False := by
  have hG := good_both sC sound_none
  obtain ⟨hS, ms⟩ := spots_spec hG
  obtain ⟨e, he, f, hf, im⟩ := (ms v).1 hv
  obtain ⟨o1, o2⟩ := spot_both hG (hS.nc v hv) he hf im
  have he' := c_mem sA sB op hC sC he
  have hf' := c_mem sA sB op hC sC hf
  obtain ⟨a1, a2, _⟩ := edge_hold sA sB op he' hx w o1
  obtain ⟨b1, b2, _⟩ := edge_hold sA sB op hf' hx w o2
  have ee := one_edge sA sB op he' hf' w.pd w.zd w.bef a1 a2 b1 b2
  subst ee
  have g := hG.gr e he
  rw [meet_same g.1.d g.2.d (hG.ne e he)] at im
  have ends : v = e.1 ∨ v = e.2 := by
    unfold inMt at im
    simp only at im
    rw [first_eq, last_eq] at im
    rcases im with ⟨_, k⟩ | ⟨_, k⟩
    · rw [k]; split <;> simp
    · rw [k]; split <;> simp
  have m : v ∈ spotsM (edgesM A ++ edgesM B) := by
    obtain ⟨m1, m2⟩ := edge_ends he'
    rcases ends with k | k
    · rw [k]; exact ring_pts sA sB op m1
    · rw [k]; exact ring_pts sA sB op m2
  rcases wi_off sA sB hx w v m with k | k
  · rw [bef_irr] at k; cases k
  · rw [bef_irr] at k; cases k
theorem no_off {x : Pt × Pt} (hx : x ∈ prs A B) {X : Pt} (w : Wi x.1 x.2 X) : ∀ s ∈ spotsM (edgesM C ++ edgesM []), befB s X = true ∨ befB X s = true := fun s hs => by
  have sd := ((spots_spec (good_both sC sound_none)).1.nc s hs).d
  cases k1 : befB s X
  · cases k2 : befB X s
    · exact (spot_no sA sB op hC sC hs hx (wi_same w sd k1 k2)).elim
    · exact .inr rfl
  · exact .inl rfl
/-- Over each border a piece of the rings. -/
theorem lift {x : Pt × Pt} (hx : x ∈ prs A B) (hb : x ∈ bordM op (piecesM A B) ∨ (x.2, x.1) ∈ bordM op (piecesM A B)) {X : Pt} (w : Wi x.1 x.2 X) : ∃ x' ∈ prs C [], Wi x'.1 x'.2 X := by
  obtain ⟨e, he, on⟩ := hold_some sA sB op hx hb w
  rw [← hC] at he
  exact (webA sC sound_none).ex e he X w.d on (no_off sA sB op hC sC hx w)
theorem hold_in {x x' : Pt × Pt} (hx : x ∈ prs A B) (hx' : x' ∈ prs C []) {X : Pt} (w : Wi x.1 x.2 X) (w' : Wi x'.1 x'.2 X) : InP x x' ∧ (x ∈ bordM op (piecesM A B) ∨ (x.2, x.1) ∈ bordM op (piecesM A B)) := by
  obtain ⟨e, he, o1, o2, d1, d2, ne⟩ := prs_edge sC sound_none hx'
  have he' := c_mem sA sB op hC sC he
  have on := on_between w'.pd w'.zd d1 d2 w'.d ne o1 o2 w'.b1 w'.b2 w'.l
  obtain ⟨a1, a2, hb⟩ := edge_hold sA sB op he' hx w on
  have ln := fun u => (line_apart d1 d2 w.pd ne w.bef (on_parts a1).1 (on_parts a2).1 u u).2
  obtain ⟨s1, s2⟩ := prs_spots sC sound_none hx'
  have l1 := (ln x'.1).2 (on_parts o1).1
  have l2 := (ln x'.2).2 (on_parts o2).1
  refine ⟨⟨l1, l2, ?_, ?_⟩, hb⟩
  · cases k : befB x.1 x'.1
    · rfl
    · exact (spot_no sA sB op hC sC s1 hx ⟨w.pd, w.zd, w'.pd, k, bef_lt w.d w.zd w'.pd w.b2 w'.b1, l1⟩).elim
  · cases k : befB x'.2 x.2
    · rfl
    · exact (spot_no sA sB op hC sC s2 hx ⟨w.pd, w.zd, w'.zd, bef_lt w.d w'.zd w.pd w'.b2 w.b1, k, l2⟩).elim
/-- The piece over a border is a border, in the same direction. -/
theorem dir_in {x x' : Pt × Pt} (hx : x ∈ prs A B) (hx' : x' ∈ prs C []) {X : Pt} (w : Wi x.1 x.2 X) (w' : Wi x'.1 x'.2 X) : (x ∈ bordM op (piecesM A B) ↔ x' ∈ bordM 1 (piecesM C [])) ∧ ((x.2, x.1) ∈ bordM op (piecesM A B) ↔ (x'.2, x'.1) ∈ bordM 1 (piecesM C [])) := by
  obtain ⟨i, _⟩ := hold_in sA sB op hC sC hx hx' w w'
  have cl := (prs_clear sC sound_none hx').1
  have cl' : Clear (ringsM (bordM op (piecesM A B))) x'.1 x'.2 := by rw [← hC]; exact cl
  obtain ⟨e1, e2⟩ := side_c sA sB op hx w w' i.l1 i.l2 (ring_sd sA sB op) (fun v hv => ring_pts sA sB op hv) cl'
  rw [← hC] at e1 e2
  have one : ∀ a : Bool, inM 1 a false = a := fun a => by unfold inM; cases a <;> decide
  have f : ∀ g : Pt → Pt → Bool, parB g (edgesM []) = false := fun g => rfl
  obtain ⟨b1, b2⟩ := bord_iff sC sound_none 1 hx'
  obtain ⟨c1, c2⟩ := bord_iff sA sB op hx
  rw [f, f, one, one] at b1 b2
  rw [c1, c2, b1, b2, e1, e2]
  exact ⟨Iff.rfl, Iff.rfl⟩
/-- Under each place of a piece of the rings that is no spot: a border. -/
theorem under {x' : Pt × Pt} (hx' : x' ∈ prs C []) {X : Pt} (w' : Wi x'.1 x'.2 X) (off : ∀ s ∈ spotsM (edgesM A ++ edgesM B), befB s X = true ∨ befB X s = true) : ∃ x ∈ prs A B, Wi x.1 x.2 X := by
  obtain ⟨e, he, o1, o2, d1, d2, ne⟩ := prs_edge sC sound_none hx'
  have he' := c_mem sA sB op hC sC he
  have on := on_between w'.pd w'.zd d1 d2 w'.d ne o1 o2 w'.b1 w'.b2 w'.l
  obtain ⟨i, k, hi, r, rfl⟩ := edge_of sA sB op he'
  have wy := way_of sA sB op hi
  have s := onx_run wy w'.d (fun c => off _ (wayS_spot sA sB op hi c)) k r
  simp only at on
  rw [on] at s
  obtain ⟨c, h1, h2, h3⟩ := sumX_some s.symm
  have lt := it_lt (nexts_pm sA sB op) hi c
  have em := edg_mem lt
  have ee : edg (bordM op (piecesM A B)) (itN (nextsM (bordM op (piecesM A B))) i c) = (wayS (bordM op (piecesM A B)) i c, wayS (bordM op (piecesM A B)) i (c + 1)) := Prod.ext rfl (way_end sA sB op hi c)
  rw [ee] at em
  have key : ∀ y : Pt × Pt, y ∈ prs A B → onB X y.1 y.2 = true → Wi y.1 y.2 X := fun y hy o => by
    obtain ⟨b, p1, p2⟩ := prs_bef sA sB hy
    obtain ⟨m1, m2⟩ := prs_spots sA sB hy
    obtain ⟨l, wi⟩ := on_parts o
    unfold withB at wi
    rw [(lo_hi b).1, (lo_hi b).2.1] at wi
    simp only [Bool.and_eq_true, Bool.not_eq_true'] at wi
    exact ⟨p1, p2, w'.d, (off _ m1).resolve_right (by rw [wi.1]; decide), (off _ m2).resolve_left (by rw [wi.2]; decide), l⟩
  rcases bord_piece sA sB op em with hy | hy
  · exact ⟨_, hy, key _ hy h3⟩
  · exact ⟨_, hy, key _ hy (by simp only; rw [on_sw' w'.d (wy.d c) (wy.d (c + 1))]; exact h3)⟩
end
/-! A border within a border of the rings. -/
structure Sub (b b' : Pt × Pt) : Prop where
  o1 : onB b.1 b'.1 b'.2 = true
  o2 : onB b.2 b'.1 b'.2 = true
  dr : befB b.1 b.2 = befB b'.1 b'.2
/-- An edge with both its ends sound, which goes somewhere. -/
structure Dd (b : Pt × Pt) : Prop where
  d1 : 0 < b.1.d
  d2 : 0 < b.2.d
  ne : befB b.1 b.2 = true ∨ befB b.2 b.1 = true
theorem Dd.sw {b : Pt × Pt} (h : Dd b) : Dd (b.2, b.1) := ⟨h.d2, h.d1, h.ne.symm⟩
theorem Sub.sw {b b' : Pt × Pt} (h : Sub b b') (hb : Dd b) (hb' : Dd b') : Sub (b.2, b.1) (b'.2, b'.1) := by
  refine ⟨by simp only; rw [on_sw' hb.d2 hb'.d1 hb'.d2]; exact h.o2, by simp only; rw [on_sw' hb.d1 hb'.d1 hb'.d2]; exact h.o1, ?_⟩
  have := h.dr
  simp only
  rcases hb.ne with k | k <;> rcases hb'.ne with k' | k'
  · rw [bef_asym k, bef_asym k']
  · rw [k, bef_asym k'] at this; cases this
  · rw [bef_asym k, k'] at this; cases this
  · rw [k, k']
theorem sub_fwd {b b' : Pt × Pt} (h : Sub b b') (f' : befB b'.1 b'.2 = true) : befB b.1 b.2 = true ∧ befB b.1 b'.1 = false ∧ befB b'.2 b.1 = false ∧ befB b.2 b'.1 = false ∧ befB b'.2 b.2 = false := by
  have f : befB b.1 b.2 = true := by rw [h.dr]; exact f'
  have w1 := (on_parts h.o1).2
  have w2 := (on_parts h.o2).2
  unfold withB at w1 w2
  rw [(lo_hi f').1, (lo_hi f').2.1] at w1 w2
  simp only [Bool.and_eq_true, Bool.not_eq_true'] at w1 w2
  exact ⟨f, w1.1, w1.2, w2.1, w2.2⟩
theorem sub_sign1 {b b' : Pt × Pt} (h : Sub b b') (hb : Dd b) (hb' : Dd b') (f' : befB b'.1 b'.2 = true) (u : Pt) : (detM b.1 b.2 u < 0 ↔ detM b'.1 b'.2 u < 0) ∧ (detM b.1 b.2 u = 0 ↔ detM b'.1 b'.2 u = 0) := by
  have s := line_sign (x := u) hb'.d1 hb.d1 (on_parts h.o1).1 (on_parts h.o2).1 f' (sub_fwd h f').1
  exact ⟨s.1.symm, s.2.symm⟩
theorem det_flip (a b u : Pt) : detM b a u = -detM a b u := by unfold detM; grind
theorem sub_sign {b b' : Pt × Pt} (h : Sub b b') (hb : Dd b) (hb' : Dd b') (u : Pt) : (detM b.1 b.2 u < 0 ↔ detM b'.1 b'.2 u < 0) ∧ (detM b.1 b.2 u = 0 ↔ detM b'.1 b'.2 u = 0) := by
  rcases hb'.ne with f | f
  · exact sub_sign1 h hb hb' f u
  · have s := sub_sign1 (h.sw hb hb') hb.sw hb'.sw f u
    simp only at s
    rw [det_flip b.1 b.2, det_flip b'.1 b'.2] at s
    omega
/-- The place within the one is within the other. -/
theorem sub_wi1 {b b' : Pt × Pt} (h : Sub b b') (hb : Dd b) (hb' : Dd b') (f' : befB b'.1 b'.2 = true) {X : Pt} (w : Wi b.1 b.2 X) : Wi b'.1 b'.2 X := by
  obtain ⟨f, a1, a2, a3, a4⟩ := sub_fwd h f'
  exact ⟨hb'.d1, hb'.d2, w.d, le_bef hb'.d1 hb.d1 w.d a1 w.b1, bef_le w.d hb.d2 hb'.d2 w.b2 a4, (sub_sign1 h hb hb' f' X).2.1 w.l⟩
/-- The piece of a border. -/
def fl (b : Pt × Pt) : Pt × Pt := if befB b.1 b.2 = true then b else (b.2, b.1)
theorem fl_on {b : Pt × Pt} (hb : Dd b) {q : Pt} (hq : 0 < q.d) : onB q (fl b).1 (fl b).2 = onB q b.1 b.2 := by
  unfold fl
  split
  · rfl
  · exact on_sw' hq hb.d1 hb.d2
theorem fl_bef {b : Pt × Pt} (hb : Dd b) : befB (fl b).1 (fl b).2 = true := by
  unfold fl
  split
  · assumption
  · rename_i h
    exact hb.ne.resolve_left h
theorem fl_inj {b c : Pt × Pt} (h : fl b = fl c) (d : befB b.1 b.2 = befB c.1 c.2) : b = c := by
  unfold fl at h
  rw [d] at h
  split at h
  · exact h
  · have h1 := congrArg Prod.fst h
    have h2 := congrArg Prod.snd h
    exact Prod.ext h2 h1
theorem sub_wi {b b' : Pt × Pt} (h : Sub b b') (hb : Dd b) (hb' : Dd b') {X : Pt} (w : Wi (fl b).1 (fl b).2 X) : Wi (fl b').1 (fl b').2 X := by
  unfold fl at *
  rcases hb'.ne with f | f
  · rw [if_pos f]
    rw [if_pos (by rw [h.dr]; exact f)] at w
    exact sub_wi1 h hb hb' f w
  · have n : ¬ befB b'.1 b'.2 = true := by rw [bef_asym f]; decide
    rw [if_neg n]
    rw [if_neg (by rw [h.dr]; exact n)] at w
    exact sub_wi1 (h.sw hb hb') hb.sw hb'.sw f w
theorem least_of {R : Pt → Pt → Bool} (irr : ∀ a, R a a = false) {g : Pt → Prop} : ∀ {l : List Pt}, (∀ a ∈ l, ∀ b ∈ l, ∀ c ∈ l, R a b = true → R b c = true → R a c = true) → (∃ s ∈ l, g s) → ∃ w ∈ l, g w ∧ ∀ s ∈ l, g s → R s w = false
  | [], _, ⟨s, hs, _⟩ => by cases hs
  | x :: l, tr, ex => by
    have trl : ∀ a ∈ l, ∀ b ∈ l, ∀ c ∈ l, R a b = true → R b c = true → R a c = true := fun a ha b hb c hc => tr a (List.mem_cons_of_mem _ ha) b (List.mem_cons_of_mem _ hb) c (List.mem_cons_of_mem _ hc)
    by_cases el : ∃ s ∈ l, g s
    · obtain ⟨w, hw, gw, mn⟩ := least_of irr trl el
      by_cases c : g x ∧ R x w = true
      · refine ⟨x, List.mem_cons_self, c.1, fun s hs gs => ?_⟩
        rcases List.mem_cons.1 hs with rfl | hs
        · exact irr _
        · cases k : R s x
          · rfl
          · have := tr s (List.mem_cons_of_mem _ hs) x List.mem_cons_self w (List.mem_cons_of_mem _ hw) k c.2
            rw [mn s hs gs] at this; cases this
      · refine ⟨w, List.mem_cons_of_mem _ hw, gw, fun s hs gs => ?_⟩
        rcases List.mem_cons.1 hs with rfl | hs
        · cases k : R s w
          · rfl
          · exact absurd ⟨gs, k⟩ c
        · exact mn s hs gs
    · obtain ⟨s, hs, gs⟩ := ex
      rcases List.mem_cons.1 hs with rfl | hs'
      · refine ⟨s, List.mem_cons_self, gs, fun t ht gt => ?_⟩
        rcases List.mem_cons.1 ht with rfl | ht
        · exact irr _
        · exact absurd ⟨t, ht, gt⟩ el
      · exact absurd ⟨s, hs', gs⟩ el
section
variable {A B : List (List Pt)} (sA : Sound A) (sB : Sound B) (op : Int)
include sA sB
theorem bord_dd {b : Pt × Pt} (h : b ∈ bordM op (piecesM A B)) : Dd b := by
  obtain ⟨m1, m2, ne⟩ := bord_ends sA sB op h
  have nc := (spots_spec (good_both sA sB)).1.nc
  exact ⟨(nc _ m1).d, (nc _ m2).d, ne⟩
theorem fl_in {b : Pt × Pt} (h : b ∈ bordM op (piecesM A B)) : fl b ∈ prs A B := by
  unfold fl
  rcases bord_piece sA sB op h with k | k
  · rw [if_pos (prs_bef sA sB k).1]; exact k
  · rw [if_neg (by rw [bef_asym (prs_bef sA sB k).1]; decide)]; exact k
theorem prs_dd {x : Pt × Pt} (hx : x ∈ prs A B) : Dd x := ⟨(prs_bef sA sB hx).2.1, (prs_bef sA sB hx).2.2, .inl (prs_bef sA sB hx).1⟩
variable {C : List (List Pt)} (hC : C = ringsM (bordM op (piecesM A B))) (sC : Sound C)
include hC sC
theorem sub_of {x x' : Pt × Pt} (hx : x ∈ prs A B) (hx' : x' ∈ prs C []) {X : Pt} (w : Wi x.1 x.2 X) (w' : Wi x'.1 x'.2 X) : Sub x x' := by
  obtain ⟨i, _⟩ := hold_in sA sB op hC sC hx hx' w w'
  have s := fun u => (line_sign (x := u) w.pd w'.pd i.l1 i.l2 w.bef w'.bef).2
  have on : ∀ u, detM x.1 x.2 u = 0 → befB u x'.1 = false → befB x'.2 u = false → onB u x'.1 x'.2 = true := fun u l b1 b2 => by
    unfold onB withB
    rw [(lo_hi w'.bef).1, (lo_hi w'.bef).2.1, decide_eq_true ((s u).1 l), b1, b2]; rfl
  refine ⟨on _ (det_first _ _) i.lo ?_, on _ (det_last _ _) ?_ i.hi, by rw [w.bef, w'.bef]⟩
  · cases k : befB x'.2 x.1
    · rfl
    · have := bef_lt w.pd w.zd w'.zd w.bef k
      rw [i.hi] at this; cases this
  · cases k : befB x.2 x'.1
    · rfl
    · have := bef_lt w.zd w'.pd w.pd k w.bef
      rw [i.lo] at this; cases this
/-- Each border lies within one of the rings' borders. -/
theorem sub_ex {b : Pt × Pt} (hb : b ∈ bordM op (piecesM A B)) : ∃ b' ∈ bordM 1 (piecesM C []), Sub b b' := by
  have hd := bord_dd sA sB op hb
  rcases bord_piece sA sB op hb with hx | hx
  · have bx := prs_bef sA sB hx
    obtain ⟨X, w⟩ := wi_some bx.2.1 bx.2.2 bx.1
    obtain ⟨x', hx', w'⟩ := lift sA sB op hC sC hx (.inl hb) w
    exact ⟨x', ((dir_in sA sB op hC sC hx hx' w w').1).1 hb, sub_of sA sB op hC sC hx hx' w w'⟩
  · have bx := prs_bef sA sB hx
    obtain ⟨X, w⟩ := wi_some bx.2.1 bx.2.2 bx.1
    obtain ⟨x', hx', w'⟩ := lift sA sB op hC sC hx (.inr hb) w
    exact ⟨(x'.2, x'.1), ((dir_in sA sB op hC sC hx hx' w w').2).1 hb, (sub_of sA sB op hC sC hx hx' w w').sw hd.sw (prs_dd sC sound_none hx')⟩
/-- .. and within one alone. -/
theorem sub_one {b b1 b2 : Pt × Pt} (hb : b ∈ bordM op (piecesM A B)) (h1 : b1 ∈ bordM 1 (piecesM C [])) (h2 : b2 ∈ bordM 1 (piecesM C [])) (s1 : Sub b b1) (s2 : Sub b b2) : b1 = b2 := by
  have hd := bord_dd sA sB op hb
  have d1 := bord_dd sC sound_none 1 h1
  have d2 := bord_dd sC sound_none 1 h2
  have bx := prs_bef sA sB (fl_in sA sB op hb)
  obtain ⟨X, w⟩ := wi_some bx.2.1 bx.2.2 bx.1
  have w1 := sub_wi s1 hd d1 w
  have w2 := sub_wi s2 hd d2 w
  have := prs_uniq sC sound_none (fl_in sC sound_none 1 h1) (fl_in sC sound_none 1 h2) w1 w2.on
  exact fl_inj this.symm (s1.dr.symm.trans s2.dr)
/-- Under each place of one of the rings' borders, one of the borders. -/
theorem sub_under {b' : Pt × Pt} (hb' : b' ∈ bordM 1 (piecesM C [])) {X : Pt} (w' : Wi (fl b').1 (fl b').2 X) (off : ∀ s ∈ spotsM (edgesM A ++ edgesM B), befB s X = true ∨ befB X s = true) : ∃ b ∈ bordM op (piecesM A B), Sub b b' ∧ Wi (fl b).1 (fl b).2 X := by
  have d' := bord_dd sC sound_none 1 hb'
  have hx' := fl_in sC sound_none 1 hb'
  obtain ⟨x, hx, w⟩ := under sA sB op hC sC hx' w' off
  have su := sub_of sA sB op hC sC hx hx' w w'
  have di := dir_in sA sB op hC sC hx hx' w w'
  have bx := (prs_bef sA sB hx).1
  by_cases f : befB b'.1 b'.2 = true
  · have e : fl b' = b' := by unfold fl; rw [if_pos f]
    rw [e] at su di
    exact ⟨x, di.1.2 hb', su, by unfold fl; rw [if_pos bx]; exact w⟩
  · have e : fl b' = (b'.2, b'.1) := by unfold fl; rw [if_neg f]
    rw [e] at su di
    refine ⟨(x.2, x.1), di.2.2 hb', ?_, by unfold fl; rw [if_neg (by rw [bef_asym bx]; decide)]; exact w⟩
    exact su.sw (prs_dd sA sB hx) d'.sw
/-- Where one of the rings' borders begins, a border begins that lies within it. -/
theorem sub_first {b' : Pt × Pt} (hb' : b' ∈ bordM 1 (piecesM C [])) : ∃ b ∈ bordM op (piecesM A B), Sub b b' ∧ b.1 = b'.1 := by
  have d' := bord_dd sC sound_none 1 hb'
  have nc := (spots_spec (good_both sA sB)).1.nc
  have ncC := (spots_spec (good_both sC sound_none)).1.nc
  have nv := ncC _ (bord_ends sC sound_none 1 hb').1
  rcases d'.ne with f | f
  · -- forth
    obtain ⟨wz, dz, bz, oz, nz⟩ : ∃ z, 0 < z.d ∧ befB b'.1 z = true ∧ (detM b'.1 b'.2 z = 0 ∧ befB b'.2 z = false) ∧ ∀ s ∈ spotsM (edgesM A ++ edgesM B), Wi b'.1 b'.2 s → befB s z = false := by
      by_cases ex : ∃ s ∈ spotsM (edgesM A ++ edgesM B), Wi b'.1 b'.2 s
      · obtain ⟨w, hw, gw, mn⟩ := least_of (R := befB) bef_irr (fun a ha b hb c hc h1 h2 => bef_lt (nc b hb).d (nc c hc).d (nc a ha).d h2 h1) ex
        exact ⟨w, gw.d, gw.b1, ⟨gw.l, bef_asym gw.b2⟩, mn⟩
      · exact ⟨b'.2, d'.d2, f, ⟨det_last _ _, bef_irr _⟩, fun s hs gs => absurd ⟨s, hs, gs⟩ ex⟩
    obtain ⟨X, w⟩ := wi_some d'.d1 dz bz
    have e : fl b' = b' := by unfold fl; rw [if_pos f]
    have w' : Wi b'.1 b'.2 X := ⟨d'.d1, d'.d2, w.d, w.b1, bef_le w.d dz d'.d2 w.b2 oz.2, (line_sign (x := X) d'.d1 d'.d1 (det_first _ _) oz.1 f bz).2.2 w.l⟩
    have off : ∀ s ∈ spotsM (edgesM A ++ edgesM B), befB s X = true ∨ befB X s = true := fun s hs => by
      cases k1 : befB s X
      · cases k2 : befB X s
        · exfalso
          have sd := (nc s hs).d
          have := nz s hs (wi_same w' sd k1 k2)
          have b2 := le_bef sd w.d dz k2 w.b2
          rw [this] at b2; cases b2
        · exact .inr rfl
      · exact .inl rfl
    obtain ⟨b, hb, su, wb⟩ := sub_under sA sB op hC sC hb' (by rw [e]; exact w') off
    have hd := bord_dd sA sB op hb
    obtain ⟨fb, a1, a2, a3, a4⟩ := sub_fwd su f
    have eb : fl b = b := by unfold fl; rw [if_pos fb]
    rw [eb] at wb
    refine ⟨b, hb, su, ?_⟩
    have m1 := (bord_ends sA sB op hb).1
    refine canon_eq (nc _ m1).2 nv.2 a1 ?_
    cases k : befB b'.1 b.1
    · rfl
    · exfalso
      have wi : Wi b'.1 b'.2 b.1 := ⟨d'.d1, d'.d2, hd.d1, k, bef_lt w.d d'.d2 hd.d1 w'.b2 wb.b1, (on_parts su.o1).1⟩
      have := nz _ m1 wi
      have b2 := bef_lt w.d dz hd.d1 w.b2 wb.b1
      rw [this] at b2; cases b2
  · -- back
    obtain ⟨wz, dz, bz, oz, nz⟩ : ∃ z, 0 < z.d ∧ befB z b'.1 = true ∧ (detM b'.2 b'.1 z = 0 ∧ befB z b'.2 = false) ∧ ∀ s ∈ spotsM (edgesM A ++ edgesM B), Wi b'.2 b'.1 s → befB z s = false := by
      by_cases ex : ∃ s ∈ spotsM (edgesM A ++ edgesM B), Wi b'.2 b'.1 s
      · obtain ⟨w, hw, gw, mn⟩ := least_of (R := fun a b => befB b a) bef_irr (fun a ha b hb c hc h1 h2 => bef_lt (nc b hb).d (nc a ha).d (nc c hc).d h1 h2) ex
        exact ⟨w, gw.d, gw.b2, ⟨gw.l, bef_asym gw.b1⟩, mn⟩
      · exact ⟨b'.2, d'.d2, f, ⟨det_first _ _, bef_irr _⟩, fun s hs gs => absurd ⟨s, hs, gs⟩ ex⟩
    obtain ⟨X, w⟩ := wi_some dz d'.d1 bz
    have n : ¬ befB b'.1 b'.2 = true := by rw [bef_asym f]; decide
    have e : fl b' = (b'.2, b'.1) := by unfold fl; rw [if_neg n]
    have w' : Wi b'.2 b'.1 X := ⟨d'.d2, d'.d1, w.d, le_bef d'.d2 dz w.d oz.2 w.b1, w.b2, (line_sign (x := X) d'.d2 dz oz.1 (det_last _ _) f bz).2.2 w.l⟩
    have off : ∀ s ∈ spotsM (edgesM A ++ edgesM B), befB s X = true ∨ befB X s = true := fun s hs => by
      cases k1 : befB s X
      · cases k2 : befB X s
        · exfalso
          have sd := (nc s hs).d
          have := nz s hs (wi_same w' sd k1 k2)
          have b2 := bef_le dz w.d sd w.b1 k1
          rw [this] at b2; cases b2
        · exact .inr rfl
      · exact .inl rfl
    obtain ⟨b, hb, su, wb⟩ := sub_under sA sB op hC sC hb' (by rw [e]; exact w') off
    have hd := bord_dd sA sB op hb
    obtain ⟨fb, a1, a2, a3, a4⟩ := sub_fwd (su.sw hd d') f
    simp only at fb a1 a2 a3 a4
    have nb : ¬ befB b.1 b.2 = true := by rw [bef_asym fb]; decide
    have eb : fl b = (b.2, b.1) := by unfold fl; rw [if_neg nb]
    rw [eb] at wb
    refine ⟨b, hb, su, ?_⟩
    have m1 := (bord_ends sA sB op hb).1
    refine canon_eq (nc _ m1).2 nv.2 ?_ a4
    cases k : befB b.1 b'.1
    · rfl
    · exfalso
      have wi : Wi b'.2 b'.1 b.1 := ⟨d'.d2, d'.d1, hd.d1, bef_lt w.d hd.d1 d'.d2 wb.b2 w'.b1, k, by rw [det_flip, (on_parts su.o1).1]; rfl⟩
      have := nz _ m1 wi
      have b2 := bef_lt w.d hd.d1 dz wb.b2 w.b1
      rw [this] at b2; cases b2
/-- A border that begins, or ends, at a spot of the rings: so does that over it. -/
theorem sub_start {b b' : Pt × Pt} (hb : b ∈ bordM op (piecesM A B)) (hb' : b' ∈ bordM 1 (piecesM C [])) (su : Sub b b') (hv : b.1 ∈ spotsM (edgesM C ++ edgesM [])) : b.1 = b'.1 := by
  have hd := bord_dd sA sB op hb
  have d' := bord_dd sC sound_none 1 hb'
  have hx' := fl_in sC sound_none 1 hb'
  rcases d'.ne with f | f
  · obtain ⟨fb, a1, a2, a3, a4⟩ := sub_fwd su f
    have e : fl b' = b' := by unfold fl; rw [if_pos f]
    rw [e] at hx'
    rcases spot_end sC sound_none hx' hv (on_parts su.o1).1 a1 a2 with k | k
    · exact k
    · rw [← k, fb] at a4; cases a4
  · obtain ⟨fb, a1, a2, a3, a4⟩ := sub_fwd (su.sw hd d') f
    simp only at fb a1 a2 a3 a4
    have n : ¬ befB b'.1 b'.2 = true := by rw [bef_asym f]; decide
    have e : fl b' = (b'.2, b'.1) := by unfold fl; rw [if_neg n]
    rw [e] at hx'
    rcases spot_end sC sound_none hx' hv (by simp only; rw [det_flip, (on_parts su.o1).1]; rfl) a3 a4 with k | k
    · simp only at k
      rw [← k, fb] at a1; cases a1
    · exact k
theorem sub_stop {b b' : Pt × Pt} (hb : b ∈ bordM op (piecesM A B)) (hb' : b' ∈ bordM 1 (piecesM C [])) (su : Sub b b') (ne : b.2 ≠ b'.2) : Wi (fl b').1 (fl b').2 b.2 := by
  have hd := bord_dd sA sB op hb
  have d' := bord_dd sC sound_none 1 hb'
  have nc := (spots_spec (good_both sA sB)).1.nc
  have ncC := (spots_spec (good_both sC sound_none)).1.nc
  have n2 := nc _ (bord_ends sA sB op hb).2.1
  have n2' := ncC _ (bord_ends sC sound_none 1 hb').2.1
  rcases d'.ne with f | f
  · obtain ⟨fb, a1, a2, a3, a4⟩ := sub_fwd su f
    have e : fl b' = b' := by unfold fl; rw [if_pos f]
    rw [e]
    refine ⟨d'.d1, d'.d2, hd.d2, le_bef d'.d1 hd.d1 hd.d2 a1 fb, ?_, (on_parts su.o2).1⟩
    cases k : befB b.2 b'.2
    · exact absurd (canon_eq n2.2 n2'.2 k a4) ne
    · rfl
  · obtain ⟨fb, a1, a2, a3, a4⟩ := sub_fwd (su.sw hd d') f
    simp only at fb a1 a2 a3 a4
    have n : ¬ befB b'.1 b'.2 = true := by rw [bef_asym f]; decide
    have e : fl b' = (b'.2, b'.1) := by unfold fl; rw [if_neg n]
    rw [e]
    refine ⟨d'.d2, d'.d1, hd.d2, ?_, bef_le hd.d2 hd.d1 d'.d1 fb a4, by simp only; rw [det_flip, (on_parts su.o2).1]; rfl⟩
    cases k : befB b'.2 b.2
    · exact absurd (canon_eq n2.2 n2'.2 a1 k) ne
    · rfl
end
end Go.Proofs.Ytnkcbephceollab
