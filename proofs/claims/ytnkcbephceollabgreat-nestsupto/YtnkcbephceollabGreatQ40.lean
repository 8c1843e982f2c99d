import Derived.Test.YtnkcbephceollabGreatQ39
namespace Go.Proofs.YtnkcbephceollabGreat
set_option linter.unusedSimpArgs false
set_option linter.unusedVariables false
set_option linter.unusedSectionVars false

/-- One line: what lies on either side of it. -/
theorem line_apart {a b p z : Pt} (ha : 0 < a.d) (hb : 0 < b.d) (hp : 0 < p.d) (ne : befB a b = true ∨ befB b a = true) (hpz : befB p z = true) (h1 : detM a b p = 0) (h2 : detM a b z = 0) (u v : Pt) :
    apartB (detM p z u) (detM p z v) = apartB (detM a b u) (detM a b v) ∧ (detM p z u = 0 ↔ detM a b u = 0) := by
  rcases ne with h | h
  · have s := fun x => line_sign (x := x) ha hp h1 h2 h hpz
    have su := s u
    have sv := s v
    refine ⟨?_, su.2.symm⟩
    unfold apartB
    rw [Bool.eq_iff_iff]
    simp only [Bool.or_eq_true, Bool.and_eq_true, decide_eq_true_eq]
    omega
  · have fl : ∀ x, detM b a x = -detM a b x := fun x => by unfold detM; grind
    have s := fun x => line_sign (x := x) hb hp (by rw [fl, h1]; rfl) (by rw [fl, h2]; rfl) h hpz
    have su := s u
    have sv := s v
    rw [fl] at su sv
    refine ⟨?_, by omega⟩
    unfold apartB
    rw [Bool.eq_iff_iff]
    simp only [Bool.or_eq_true, Bool.and_eq_true, decide_eq_true_eq]
    omega
/-! Pieces Q between spots S, and a polygon whose edges they bear. -/
structure Qs (S : List Pt) (Q : List (Pt × Pt)) : Prop where
  nd : Q.Nodup
  sd : ∀ s ∈ S, 0 < s.d
  mem : ∀ x ∈ Q, x.1 ∈ S ∧ x.2 ∈ S
  bef : ∀ x ∈ Q, befB x.1 x.2 = true
  uniq : ∀ x ∈ Q, ∀ y ∈ Q, ∀ m, Wi x.1 x.2 m → onB m y.1 y.2 = true → y = x
structure Web (S : List Pt) (Q : List (Pt × Pt)) (P : List (List Pt)) : Prop where
  sd : Sd P
  pts : ∀ v ∈ P.flatten, v ∈ S
  clear : ∀ x ∈ Q, Clear P x.1 x.2
  ex : ∀ e ∈ edgesM P, ∀ m, 0 < m.d → onB m e.1 e.2 = true → (∀ s ∈ S, befB s m = true ∨ befB m s = true) → ∃ x ∈ Q, Wi x.1 x.2 m
def sidF (f : Bool → Bool → Bool) (EA EB : List (Pt × Pt)) (p z : Pt) : Bool := f (parB (leftE p z) EA) (parB (leftE p z) EB) ^^ f (parB (rightE p z) EA) (parB (rightE p z) EB)
theorem Qs.pos {S : List Pt} {Q : List (Pt × Pt)} (h : Qs S Q) {x : Pt × Pt} (hx : x ∈ Q) : 0 < x.1.d ∧ 0 < x.2.d := ⟨h.sd _ (h.mem x hx).1, h.sd _ (h.mem x hx).2⟩
section
variable {S : List Pt} {Q : List (Pt × Pt)} (hQ : Qs S Q) {o : Pt} (ho : 0 < o.d) (far : ∀ s ∈ S, 0 < xv o s)
include hQ ho far
/-- The place at which a way crosses a piece. -/
theorem cross_at {p z m : Pt} (hp : p ∈ S) (hz : z ∈ S) (hpz : befB p z = true) (hm : 0 < m.d) (gen : ∀ s ∈ S, detM o m s ≠ 0) (h : crossB o m p z = true) : ∃ α β : Int, 0 < α ∧ 0 < β ∧ Wi p z (cmb α β o m) := by
  have pd := hQ.sd _ hp
  have zd := hQ.sd _ hz
  unfold crossB at h
  rw [Bool.and_eq_true] at h
  obtain ⟨h1, h2⟩ := h
  obtain ⟨α, β, hα, hβ, e0⟩ : ∃ α β : Int, 0 < α ∧ 0 < β ∧ α * detM p z o + β * detM p z m = 0 := by
    unfold apartB at h2
    simp only [Bool.or_eq_true, Bool.and_eq_true, decide_eq_true_eq] at h2
    rcases h2 with ⟨x, y⟩ | ⟨x, y⟩
    · exact ⟨detM p z m, -detM p z o, y, by omega, by grind⟩
    · exact ⟨-detM p z m, detM p z o, by omega, x, by grind⟩
  have hd := cmb_pos hα hβ ho hm
  have z0 : detM p z (cmb α β o m) = 0 := by rw [cmb_det]; exact e0
  have nz : ∀ v, v ∈ S → detM o (cmb α β o m) v ≠ 0 := fun v hv k => by
    rw [cmb_way] at k
    exact gen v hv ((sgn_sc hβ).2.2.1 k)
  have on : onB (cmb α β o m) p z = true := by
    rw [on_apart' ho hd pd zd (nz p hp) (nz z hz) (.inl hpz) z0, cmb_way, cmb_way, (apart_sc hβ _ _).1]; exact h1
  have wi := (on_parts on).2
  unfold withB at wi
  rw [(lo_hi hpz).1, (lo_hi hpz).2.1] at wi
  simp only [Bool.and_eq_true, Bool.not_eq_true'] at wi
  have ne : ∀ s ∈ S, befB s (cmb α β o m) = false → befB (cmb α β o m) s = false → False := fun s hs k1 k2 => by
    have := same_place (b := o) hd k2 k1
    refine nz s hs ?_
    have e : detM o (cmb α β o m) s = -detM (cmb α β o m) o s := by unfold detM; grind
    omega
  refine ⟨α, β, hα, hβ, pd, zd, hd, ?_, ?_, z0⟩
  · cases k : befB p (cmb α β o m)
    · exact (ne p hp k wi.1).elim
    · rfl
  · cases k : befB (cmb α β o m) z
    · exact (ne z hz wi.2 k).elim
    · rfl
variable {A B : List (List Pt)} (wA : Web S Q A) (wB : Web S Q B)
include wA wB
theorem edge_gen {e : Pt × Pt} (he : e ∈ edgesM A ++ edgesM B) : e.1 ∈ S ∧ e.2 ∈ S ∧ (befB e.1 e.2 = true ∨ befB e.2 e.1 = true) := by
  rcases List.mem_append.1 he with h | h
  · obtain ⟨m1, m2⟩ := edge_ends h
    exact ⟨wA.pts _ m1, wA.pts _ m2, wA.sd.ne e h⟩
  · obtain ⟨m1, m2⟩ := edge_ends h
    exact ⟨wB.pts _ m1, wB.pts _ m2, wB.sd.ne e h⟩
/-- A border lies along an edge. -/
theorem bord_edge {f : Bool → Bool → Bool} {x : Pt × Pt} (hx : x ∈ Q) (hF : sidF f (edgesM A) (edgesM B) x.1 x.2 = true) : ∃ e ∈ edgesM A ++ edgesM B, alongE x.1 x.2 e.1 e.2 = true := by
  have pd := (hQ.pos hx).1
  have key : ∀ {P : List (List Pt)}, Sd P → parB (rightE x.1 x.2) (edgesM P) = (parB (leftE x.1 x.2) (edgesM P) ^^ parB (alongE x.1 x.2) (edgesM P)) := fun {P} sd => by
    rw [← parB_xor]
    exact parB_congr fun e he => by
      obtain ⟨m1, m2⟩ := edge_ends he
      exact rightE_eq (sd.pd _ m1) (sd.pd _ m2) pd (sd.ne e he)
  unfold sidF at hF
  rw [key wA.sd, key wB.sd] at hF
  cases a : parB (alongE x.1 x.2) (edgesM A)
  · cases b : parB (alongE x.1 x.2) (edgesM B)
    · rw [a, b] at hF
      simp at hF
    · obtain ⟨e, he, k⟩ := par_some b
      exact ⟨e, List.mem_append.2 (.inr he), k⟩
  · obtain ⟨e, he, k⟩ := par_some a
    exact ⟨e, List.mem_append.2 (.inl he), k⟩
theorem edge_on {x : Pt × Pt} (hx : x ∈ Q) {m : Pt} (w : Wi x.1 x.2 m) {e : Pt × Pt} (he : e ∈ edgesM A ++ edgesM B) : alongE x.1 x.2 e.1 e.2 = onB m e.1 e.2 := by
  obtain ⟨s1, s2, ne⟩ := edge_gen hQ ho far wA wB he
  rcases List.mem_append.1 he with h | h
  · obtain ⟨m1, m2⟩ := edge_ends h
    have c := wA.clear x hx
    exact on_x w (hQ.sd _ s1) (hQ.sd _ s2) ne (c.pt _ m1) (c.pt _ m2) (c.ed e h)
  · obtain ⟨m1, m2⟩ := edge_ends h
    have c := wB.clear x hx
    exact on_x w (hQ.sd _ s1) (hQ.sd _ s2) ne (c.pt _ m1) (c.pt _ m2) (c.ed e h)
/-- A border that a way crosses: so it does an edge, there. -/
theorem bord_cross {f : Bool → Bool → Bool} {m : Pt} (hm : 0 < m.d) (gen : ∀ s ∈ S, detM o m s ≠ 0) {x : Pt × Pt} (hx : x ∈ Q) (hF : sidF f (edgesM A) (edgesM B) x.1 x.2 = true) (h : crossB o m x.1 x.2 = true) :
    ∃ e ∈ edgesM A ++ edgesM B, crossB o m e.1 e.2 = true ∧ detM e.1 e.2 x.1 = 0 ∧ detM e.1 e.2 x.2 = 0 := by
  obtain ⟨e, he, al⟩ := bord_edge hQ ho far wA wB hx hF
  obtain ⟨α, β, hα, hβ, w⟩ := cross_at hQ ho far (hQ.mem x hx).1 (hQ.mem x hx).2 (hQ.bef x hx) hm gen h
  have on : onB (cmb α β o m) e.1 e.2 = true := by rw [← edge_on hQ ho far wA wB hx w he]; exact al
  obtain ⟨s1, s2, ne⟩ := edge_gen hQ ho far wA wB he
  have nz : ∀ v, v ∈ S → detM o (cmb α β o m) v ≠ 0 := fun v hv k => by
    rw [cmb_way] at k
    exact gen v hv ((sgn_sc hβ).2.2.1 k)
  have z0 := (on_parts on).1
  have ap := on_apart' ho w.d (hQ.sd _ s1) (hQ.sd _ s2) (nz _ s1) (nz _ s2) ne z0
  rw [on, cmb_way, cmb_way, (apart_sc hβ _ _).1] at ap
  have u := far_apart ho (far _ s1) (far _ s2) ap.symm
  rw [cmb_det] at z0
  refine ⟨e, he, ?_, ?_, ?_⟩
  · unfold crossB
    rw [← ap, Bool.true_and]
    unfold apartB
    simp only [Bool.or_eq_true, Bool.and_eq_true, decide_eq_true_eq]
    rcases Int.lt_or_gt_of_ne u with k | k
    · have := mul_pn hα k
      have : 0 < β * detM e.1 e.2 m := by omega
      exact .inl ⟨k, (sgn_sc hβ).2.1.1 this⟩
    · have := mul_pp hα k
      have : β * detM e.1 e.2 m < 0 := by omega
      exact .inr ⟨k, (sgn_sc hβ).1.1 this⟩
  · unfold alongE at al
    simp only [Bool.and_eq_true, decide_eq_true_eq] at al
    exact al.2.1
  · unfold alongE at al
    simp only [Bool.and_eq_true, decide_eq_true_eq] at al
    exact al.2.2
/-- Along a way from far outside what is made of two polygons changes just at the borders. -/
theorem way_T (f : Bool → Bool → Bool) (f0 : f false false = false) : ∀ (n : Nat) (m : Pt), 0 < m.d → (∀ s ∈ S, detM o m s ≠ 0) → (edgesM A ++ edgesM B).countP (fun e => crossB o m e.1 e.2) ≤ n →
    parB (fun p z => sidF f (edgesM A) (edgesM B) p z && crossB o m p z) Q = f (parB (crossB o m) (edgesM A)) (parB (crossB o m) (edgesM B)) := by
  intro n
  induction n with
  | zero =>
    intro m hm gen hn
    have none : ∀ e ∈ edgesM A ++ edgesM B, crossB o m e.1 e.2 = false := fun e he => by
      cases k : crossB o m e.1 e.2
      · rfl
      · have := List.countP_pos_iff (p := fun e : Pt × Pt => crossB o m e.1 e.2).2 ⟨e, he, k⟩
        omega
    rw [par_none fun e he => none e (List.mem_append.2 (.inl he)), par_none fun e he => none e (List.mem_append.2 (.inr he)), f0]
    refine par_none fun x hx => ?_
    cases hF : sidF f (edgesM A) (edgesM B) x.1 x.2
    · rfl
    · cases k : crossB o m x.1 x.2
      · rfl
      · obtain ⟨e, he, c, _⟩ := bord_cross hQ ho far wA wB hm gen hx hF k
        rw [none e he] at c; cases c
  | succ n ih =>
    intro m hm gen hn
    by_cases ex : ∃ e ∈ edgesM A ++ edgesM B, crossB o m e.1 e.2 = true
    · have apz : ∀ e : Pt × Pt, crossB o m e.1 e.2 = true → apartB (detM e.1 e.2 o) (detM e.1 e.2 m) = true := fun e h => by
        unfold crossB at h; rw [Bool.and_eq_true] at h; exact h.2
      obtain ⟨e, he, ce, mx⟩ := far_max (fun e : Pt × Pt => (detM e.1 e.2 o).natAbs) (fun e => (detM e.1 e.2 m).natAbs) (fun e => crossB o m e.1 e.2) (fun e h => by
        have := apz e h
        unfold apartB at this
        simp only [Bool.or_eq_true, Bool.and_eq_true, decide_eq_true_eq] at this
        omega) _ ex
      have ape := apz e ce
      obtain ⟨α, hα⟩ : ∃ α : Int, α = ((detM e.1 e.2 m).natAbs : Int) := ⟨_, rfl⟩
      obtain ⟨β, hβ⟩ : ∃ β : Int, β = ((detM e.1 e.2 o).natAbs : Int) := ⟨_, rfl⟩
      have pos : 0 < α ∧ 0 < β ∧ α * detM e.1 e.2 o + β * detM e.1 e.2 m = 0 := by
        unfold apartB at ape
        simp only [Bool.or_eq_true, Bool.and_eq_true, decide_eq_true_eq] at ape
        rcases ape with ⟨x, y⟩ | ⟨x, y⟩
        · have e1 : α = detM e.1 e.2 m := by omega
          have e2 : β = -detM e.1 e.2 o := by omega
          refine ⟨by omega, by omega, ?_⟩
          rw [e1, e2]; grind
        · have e1 : α = -detM e.1 e.2 m := by omega
          have e2 : β = detM e.1 e.2 o := by omega
          refine ⟨by omega, by omega, ?_⟩
          rw [e1, e2]; grind
      obtain ⟨pα, pβ, ez⟩ := pos
      have near : ∀ e' ∈ edgesM A ++ edgesM B, crossB o m e'.1 e'.2 = true → detM e'.1 e'.2 (cmb α β o m) = 0 ∨ apartB (detM e'.1 e'.2 o) (detM e'.1 e'.2 (cmb α β o m)) = true := fun e' he' ce' => by
        have le := mx e' he' ce'
        have le' : ((detM e'.1 e'.2 o).natAbs : Int) * α ≤ β * ((detM e'.1 e'.2 m).natAbs : Int) := by
          rw [hα, hβ]; exact_mod_cast le
        have ap' := apz e' ce'
        rw [cmb_det]
        unfold apartB at ap' ⊢
        simp only [Bool.or_eq_true, Bool.and_eq_true, decide_eq_true_eq] at ap' ⊢
        generalize detM e'.1 e'.2 o = u at *
        generalize detM e'.1 e'.2 m = v at *
        rcases ap' with ⟨x, y⟩ | ⟨x, y⟩
        · have e1 : ((u.natAbs : Nat) : Int) = -u := by omega
          have e2 : ((v.natAbs : Nat) : Int) = v := by omega
          rw [e1, e2] at le'
          have : -u * α = -(α * u) := by grind
          omega
        · have e1 : ((u.natAbs : Nat) : Int) = u := by omega
          have e2 : ((v.natAbs : Nat) : Int) = -v := by omega
          rw [e1, e2] at le'
          have : β * -v = -(β * v) := by grind
          have : u * α = α * u := by grind
          omega
      have d0 := cmb_pos pα pβ ho hm
      have cut : ∀ e' ∈ edgesM A ++ edgesM B, crossB o m e'.1 e'.2 = (crossB o (cmb α β o m) e'.1 e'.2 ^^ onB (cmb α β o m) e'.1 e'.2) := fun e' he' => by
        obtain ⟨s1, s2, ne⟩ := edge_gen hQ ho far wA wB he'
        exact cross_cut pα pβ ho hm (hQ.sd _ s1) (hQ.sd _ s2) (far _ s1) (far _ s2) (gen _ s1) (gen _ s2) ne (near e' he')
      have gen0 : ∀ s ∈ S, detM o (cmb α β o m) s ≠ 0 := fun s hs k => by
        rw [cmb_way] at k
        exact gen s hs ((sgn_sc pβ).2.2.1 k)
      have z0 : detM e.1 e.2 (cmb α β o m) = 0 := by rw [cmb_det]; exact ez
      have noc : crossB o (cmb α β o m) e.1 e.2 = false := by
        unfold crossB; rw [z0]; unfold apartB; simp
      have on0 : onB (cmb α β o m) e.1 e.2 = true := by
        have := cut e he
        rw [ce, noc, Bool.false_xor] at this
        exact this.symm
      have off : ∀ s ∈ S, befB s (cmb α β o m) = true ∨ befB (cmb α β o m) s = true := fun s hs => by
        cases k1 : befB s (cmb α β o m)
        · cases k2 : befB (cmb α β o m) s
          · exfalso
            have := same_place (b := o) d0 k2 k1
            refine gen0 s hs ?_
            have e : detM o (cmb α β o m) s = -detM (cmb α β o m) o s := by unfold detM; grind
            omega
          · exact .inr rfl
        · exact .inl rfl
      obtain ⟨x, hx, wx⟩ : ∃ x ∈ Q, Wi x.1 x.2 (cmb α β o m) := by
        rcases List.mem_append.1 he with h | h
        · exact wA.ex e h _ d0 on0 off
        · exact wB.ex e h _ d0 on0 off
      have less : (edgesM A ++ edgesM B).countP (fun e => crossB o (cmb α β o m) e.1 e.2) ≤ n := by
        have := countP_less (p := fun e : Pt × Pt => crossB o (cmb α β o m) e.1 e.2) (q := fun e => crossB o m e.1 e.2) (l := edgesM A ++ edgesM B) (fun e' he' c => by
          have k := cut e' he'
          have nz : detM e'.1 e'.2 (cmb α β o m) ≠ 0 := fun z => by
            unfold crossB at c; rw [z] at c; unfold apartB at c; simp at c
          have no : onB (cmb α β o m) e'.1 e'.2 = false := by unfold onB; simp [nz]
          rw [k, c, no]; rfl) ⟨e, he, ce, noc⟩
        omega
      have T := ih _ d0 gen0 less
      have sA := side_way wx wA.sd (wA.clear x hx) ho (fun v hv => far v (wA.pts v hv)) (fun v hv => gen0 v (wA.pts v hv))
      have sB := side_way wx wB.sd (wB.clear x hx) ho (fun v hv => far v (wB.pts v hv)) (fun v hv => gen0 v (wB.pts v hv))
      have cA : parB (crossB o m) (edgesM A) = (parB (crossB o (cmb α β o m)) (edgesM A) ^^ parB (fun a b => onB (cmb α β o m) a b) (edgesM A)) := by
        rw [← parB_xor]
        exact parB_congr fun e' he' => cut e' (List.mem_append.2 (.inl he'))
      have cB : parB (crossB o m) (edgesM B) = (parB (crossB o (cmb α β o m)) (edgesM B) ^^ parB (fun a b => onB (cmb α β o m) a b) (edgesM B)) := by
        rw [← parB_xor]
        exact parB_congr fun e' he' => cut e' (List.mem_append.2 (.inr he'))
      have cQ : parB (fun p z => sidF f (edgesM A) (edgesM B) p z && crossB o m p z) Q = (parB (fun p z => sidF f (edgesM A) (edgesM B) p z && crossB o (cmb α β o m) p z) Q ^^ parB (fun p z => sidF f (edgesM A) (edgesM B) p z && onB (cmb α β o m) p z) Q) := by
        rw [← parB_xor]
        refine parB_congr fun y hy => ?_
        cases hF : sidF f (edgesM A) (edgesM B) y.1 y.2
        · rfl
        · simp only [Bool.true_and]
          obtain ⟨s1, s2⟩ := hQ.mem y hy
          refine cross_cut pα pβ ho hm (hQ.sd _ s1) (hQ.sd _ s2) (far _ s1) (far _ s2) (gen _ s1) (gen _ s2) (.inl (hQ.bef y hy)) (fun c => ?_)
          obtain ⟨e', he', c', l1, l2⟩ := bord_cross hQ ho far wA wB hm gen hy hF c
          obtain ⟨t1, t2, ne⟩ := edge_gen hQ ho far wA wB he'
          have la := line_apart (hQ.sd _ t1) (hQ.sd _ t2) (hQ.sd _ s1) ne (hQ.bef y hy) l1 l2
          rcases near e' he' c' with k | k
          · exact .inl ((la _ o).2.2 k)
          · exact .inr ((la o _).1.trans k)
      have one : parB (fun p z => sidF f (edgesM A) (edgesM B) p z && onB (cmb α β o m) p z) Q = sidF f (edgesM A) (edgesM B) x.1 x.2 := by
        have onx : onB (cmb α β o m) x.1 x.2 = true := by
          unfold onB
          rw [wx.l, with_ab wx.d wx.pd wx.zd (bef_asym wx.b1) (bef_asym wx.b2)]; rfl
        rw [par_one hQ.nd hx (fun y hy hne => ?_), onx, Bool.and_true]
        cases k : onB (cmb α β o m) y.1 y.2
        · rw [Bool.and_false]
        · exact absurd (hQ.uniq x hx y hy _ wx k) hne
      rw [cQ, T, one, cA, cB, sA.1, sB.1, sA.2, sB.2]
      unfold sidF
      have q1 : ∀ a b : Bool, (a ^^ (a ^^ b)) = b := by decide
      have q2 : ∀ a b : Bool, (b ^^ (a ^^ b)) = a := by decide
      by_cases k : 0 < detM x.1 x.2 o
      · rw [if_pos k, if_pos k, q1, q1, q1]
      · rw [if_neg k, if_neg k, q2, q2, q2]
    · exact ih m hm gen (by
        rw [List.countP_eq_zero.2 fun e he k => ex ⟨e, he, k⟩]; omega)
end
end Go.Proofs.YtnkcbephceollabGreat
namespace Go.Proofs.YtnkcbephceollabGreat
set_option linter.unusedSimpArgs false
set_option linter.unusedVariables false

/-! The pieces of two polygons bear their edges. -/
theorem same_on {u v a b : Pt} (hu : 0 < u.d) (hv : 0 < v.d) (ha : 0 < a.d) (hb : 0 < b.d) (h1 : befB u v = false) (h2 : befB v u = false) : onB u a b = onB v a b := by
  have hx : xv u v = 0 ∧ yv u v = 0 := by
    rw [bef_x] at h1
    rw [bef_x'] at h2
    omega
  have e : u.d * detM a b v = v.d * detM a b u + xv u v * (-yv a b) + yv u v * xv a b := by unfold xv yv detM; grind
  rw [hx.1, hx.2] at e
  simp only [Int.zero_mul, Int.add_zero] at e
  have z : detM a b u = 0 ↔ detM a b v = 0 := by
    constructor
    · intro k; rw [k, Int.mul_zero] at e; exact (sgn_sc hu).2.2.1 e
    · intro k; rw [k, Int.mul_zero] at e; exact (sgn_sc hv).2.2.1 e.symm
  have dl : 0 < (loM a b).d := by unfold loM; split <;> assumption
  have dh : 0 < (hiM a b).d := by unfold hiM; split <;> assumption
  unfold onB withB
  rw [bef_same_l hu hv dl h1 h2, bef_same_r hu hv dh h1 h2]
  simp only [z]
/-- A place on a part of an edge is on the edge. -/
theorem on_sub {p z q a b : Pt} (hp : 0 < p.d) (hz : 0 < z.d) (hq : 0 < q.d) (ha : 0 < a.d) (hb : 0 < b.d) (ne : befB a b = true ∨ befB b a = true) (h1 : onB p a b = true) (h2 : onB z a b = true) (hpz : befB p z = true) (h : onB q p z = true) : onB q a b = true := by
  obtain ⟨l, w⟩ := on_parts h
  unfold withB at w
  rw [(lo_hi hpz).1, (lo_hi hpz).2.1] at w
  simp only [Bool.and_eq_true, Bool.not_eq_true'] at w
  cases k1 : befB p q
  · rw [same_on hq hp ha hb w.1 k1]; exact h1
  · cases k2 : befB q z
    · rw [same_on hq hz ha hb k2 w.2]; exact h2
    · exact on_between hp hz ha hb hq ne h1 h2 k1 k2 l
section
variable {A B : List (List Pt)} (sA : Sound A) (sB : Sound B)
include sA sB
/-- The edge that bears a piece. -/
theorem prs_edge {x : Pt × Pt} (hx : x ∈ prs A B) : ∃ e ∈ edgesM A ++ edgesM B, onB x.1 e.1 e.2 = true ∧ onB x.2 e.1 e.2 = true ∧ 0 < e.1.d ∧ 0 < e.2.d ∧ (befB e.1 e.2 = true ∨ befB e.2 e.1 = true) := by
  have hG := good_both sA sB
  have hS := (spots_spec hG).1
  obtain ⟨e, he, a⟩ := ((pairs_spec _ hS).2 x).1 hx
  obtain ⟨m1, m2, f1, f2⟩ := AL_mem a
  have g := hG.gr e he
  have d1 : 0 < e.1.d := by have := g.1.d; omega
  have d2 : 0 < e.2.d := by have := g.2.d; omega
  exact ⟨e, he, by rw [← has_on d1 d2 (hS.nc _ m1).d]; exact f1, by rw [← has_on d1 d2 (hS.nc _ m2).d]; exact f2, d1, d2, bef_or g.1.d g.2.d (hG.ne e he)⟩
theorem prs_none {x : Pt × Pt} (hx : x ∈ prs A B) {y : Pt} (hy : y ∈ spotsM (edgesM A ++ edgesM B)) (b1 : befB x.1 y = true) (b2 : befB y x.2 = true) : detM x.1 x.2 y ≠ 0 := by
  have := no_between (good_both sA sB) hy b1 (z2 := x.2) hx b2
  intro k
  apply this
  have e : detM x.1 y x.2 = -detM x.1 x.2 y := by unfold detM; grind
  omega
theorem prs_spots {x : Pt × Pt} (hx : x ∈ prs A B) : x.1 ∈ spotsM (edgesM A ++ edgesM B) ∧ x.2 ∈ spotsM (edgesM A ++ edgesM B) := by
  have hS := (spots_spec (good_both sA sB)).1
  obtain ⟨e, he, a⟩ := ((pairs_spec _ hS).2 x).1 hx
  obtain ⟨m1, m2, _, _⟩ := AL_mem a
  exact ⟨m1, m2⟩
/-- Two pieces that have a place in common within one of them are one. -/
theorem prs_uniq {x y : Pt × Pt} (hx : x ∈ prs A B) (hy : y ∈ prs A B) {m : Pt} (w : Wi x.1 x.2 m) (on : onB m y.1 y.2 = true) : y = x := by
  have hG := good_both sA sB
  have hS := (spots_spec hG).1
  obtain ⟨s1, s2⟩ := prs_spots sA sB hx
  obtain ⟨t1, t2⟩ := prs_spots sA sB hy
  obtain ⟨by_, yd1, yd2⟩ := prs_bef sA sB hy
  obtain ⟨e, he, o1, o2, d1, d2, ne⟩ := prs_edge sA sB hy
  obtain ⟨l, wi⟩ := on_parts on
  unfold withB at wi
  rw [(lo_hi by_).1, (lo_hi by_).2.1] at wi
  simp only [Bool.and_eq_true, Bool.not_eq_true'] at wi
  -- a spot that is at m would lie within x
  have no : ∀ s ∈ spotsM (edgesM A ++ edgesM B), befB s m = false → befB m s = false → False := fun s hs k1 k2 => by
    have sd := (hS.nc s hs).d
    refine prs_none sA sB hx hs (bef_le w.pd w.d sd w.b1 k1) (le_bef sd w.d w.zd k2 w.b2) ?_
    have hxy : xv m s = 0 ∧ yv m s = 0 := by
      rw [bef_x] at k2
      rw [bef_x'] at k1
      omega
    have e : m.d * detM x.1 x.2 s = s.d * detM x.1 x.2 m + xv m s * (-yv x.1 x.2) + yv m s * xv x.1 x.2 := by unfold xv yv detM; grind
    rw [hxy.1, hxy.2, w.l] at e
    simp only [Int.zero_mul, Int.mul_zero, Int.add_zero] at e
    exact (sgn_sc w.d).2.2.1 e
  have b1 : befB y.1 m = true := by
    cases k : befB y.1 m
    · exact (no _ t1 k wi.1).elim
    · rfl
  have b2 : befB m y.2 = true := by
    cases k : befB m y.2
    · exact (no _ t2 wi.2 k).elim
    · rfl
  have wy : Wi y.1 y.2 m := ⟨yd1, yd2, w.d, b1, b2, l⟩
  have om : onB m e.1 e.2 = true := on_between yd1 yd2 d1 d2 w.d ne o1 o2 b1 b2 l
  obtain ⟨_, _, hpt, hed⟩ := piece_clear hG hx
  obtain ⟨e', he', ee'⟩ := hG.sec e he
  have al := on_x w d1 d2 ne (hpt e he) (by rw [← ee']; exact hpt e' he') (hed e he)
  rw [om] at al
  unfold alongE at al
  simp only [Bool.and_eq_true, decide_eq_true_eq] at al
  obtain ⟨_, x1, x2⟩ := al
  have lx := fun u => (line_apart d1 d2 w.pd ne w.bef x1 x2 u u).2
  have ly := fun u => (line_apart d1 d2 yd1 ne by_ (on_parts o1).1 (on_parts o2).1 u u).2
  have nx1 := hS.nc _ s1
  have nx2 := hS.nc _ s2
  have ny1 := hS.nc _ t1
  have ny2 := hS.nc _ t2
  refine Prod.ext ?_ ?_
  · refine canon_eq ny1.2 nx1.2 ?_ ?_
    · cases k : befB y.1 x.1
      · rfl
      · exact absurd ((ly _).2 x1) (prs_none sA sB hy s1 k (bef_lt w.d yd2 w.pd b2 w.b1))
    · cases k : befB x.1 y.1
      · rfl
      · exact absurd ((lx _).2 (on_parts o1).1) (prs_none sA sB hx t1 k (bef_lt w.d w.zd yd1 w.b2 b1))
  · refine canon_eq ny2.2 nx2.2 ?_ ?_
    · cases k : befB y.2 x.2
      · rfl
      · exact absurd ((lx _).2 (on_parts o2).1) (prs_none sA sB hx t2 (bef_lt w.d yd2 w.pd b2 w.b1) k)
    · cases k : befB x.2 y.2
      · rfl
      · exact absurd ((ly _).2 x2) (prs_none sA sB hy s2 (bef_lt w.d w.zd yd1 w.b2 b1) k)
theorem qs_of : Qs (spotsM (edgesM A ++ edgesM B)) (prs A B) := by
  have hG := good_both sA sB
  have hS := (spots_spec hG).1
  exact ⟨List.Pairwise.imp (fun {a b} (h : PR a b) => (fun (e : a = b) => PR_irr b (e ▸ h) : a ≠ b)) (prs_pairwise sA sB), fun s hs => (hS.nc s hs).d, fun x hx => prs_spots sA sB hx, fun x hx => (prs_bef sA sB hx).1, fun x hx y hy m w on => prs_uniq sA sB hx hy w on⟩
end
theorem parB_perm {f : Pt → Pt → Bool} {l m : List (Pt × Pt)} (h : l.Perm m) : parB f l = parB f m := by
  induction h with
  | nil => rfl
  | cons x _ ih => show (f x.1 x.2 ^^ _) = (f x.1 x.2 ^^ _); rw [ih]
  | swap x y l =>
    show (f y.1 y.2 ^^ (f x.1 x.2 ^^ parB f l)) = (f x.1 x.2 ^^ (f y.1 y.2 ^^ parB f l))
    cases f x.1 x.2 <;> cases f y.1 y.2 <;> cases parB f l <;> rfl
  | trans _ _ ih1 ih2 => exact ih1.trans ih2
theorem perm_nd {γ : Type} [DecidableEq γ] : ∀ {l m : List γ}, l.Nodup → m.Nodup → (∀ x, x ∈ l ↔ x ∈ m) → l.Perm m
  | [], m, _, _, h => by
    cases m with
    | nil => exact List.Perm.refl _
    | cons a m => exact absurd ((h a).2 List.mem_cons_self) List.not_mem_nil
  | a :: l, m, hl, hm, h => by
    obtain ⟨n1, n2⟩ := List.nodup_cons.1 hl
    have ha : a ∈ m := (h a).1 List.mem_cons_self
    have p := perm_nd n2 (hm.erase a) (fun x => by
      rw [hm.mem_erase_iff]
      constructor
      · intro k
        exact ⟨fun e => n1 (e ▸ k), (h x).1 (List.mem_cons_of_mem _ k)⟩
      · rintro ⟨k1, k2⟩
        rcases List.mem_cons.1 ((h x).2 k2) with e | e
        · exact absurd e k1
        · exact e)
    exact (p.cons a).trans (List.perm_cons_erase ha).symm
end Go.Proofs.YtnkcbephceollabGreat
namespace Go.Proofs.YtnkcbephceollabGreat
set_option linter.unusedSimpArgs false
set_option linter.unusedVariables false
set_option linter.unusedSectionVars false

/-! All borders lie in the rounds. -/
/-- The borders of a round, as a ring of their own: with the points at which it goes straight on. -/
def wayR (L : List (Pt × Pt)) (z : Nat × Nat) : List Pt := (List.range z.2).map (wayS L z.1)
def idxR (L : List (Pt × Pt)) (z : Nat × Nat) : List Nat := (List.range z.2).map (itN (nextsM L) z.1)
theorem wayR_len (L : List (Pt × Pt)) (z : Nat × Nat) : (wayR L z).length = z.2 := by unfold wayR; simp
theorem wayR_at (L : List (Pt × Pt)) (z : Nat × Nat) {j : Nat} (h : j < z.2) : (wayR L z).getD j zP = wayS L z.1 j := by
  unfold wayR
  rw [List.getD_eq_getElem?_getD, List.getElem?_map, List.getElem?_range h]; rfl
section
variable {A B : List (List Pt)} (sA : Sound A) (sB : Sound B) (op : Int)
include sA sB
theorem rounds2 : ∀ k, k ≤ (bordM op (piecesM A B)).length → ∃ I : List (Nat × Nat), (rringsN (bordM op (piecesM A B)) k).1.Perm (I.map (ringAtL (bordM op (piecesM A B)))) ∧ I.Pairwise (Sep (bordM op (piecesM A B))) ∧ (∀ z ∈ I, Rd (bordM op (piecesM A B)) z) ∧ (∀ z ∈ I, ∀ a, (rringsN (bordM op (piecesM A B)) k).2.getD (itN (nextsM (bordM op (piecesM A B))) z.1 a) false = true) ∧
    (∀ j, j < (bordM op (piecesM A B)).length → (rringsN (bordM op (piecesM A B)) k).2.getD j false = true → ∃ z ∈ I, ∃ a, itN (nextsM (bordM op (piecesM A B))) z.1 a = j) ∧ ∀ j, j < k → (rringsN (bordM op (piecesM A B)) k).2.getD j false = true
  | 0, _ => by
    refine ⟨[], by simp [rringsN], List.Pairwise.nil, fun z hz => (by cases hz), fun z hz => (by cases hz), fun j hj h => ?_, fun j hj => by omega⟩
    have r : (List.replicate (bordM op (piecesM A B)).length false).getD j false = false := by
      rw [List.getD_eq_getElem?_getD, List.getElem?_replicate]
      split <;> rfl
    have h' : (List.replicate (bordM op (piecesM A B)).length false).getD j false = true := h
    rw [r] at h'; cases h'
  | k + 1, hk => by
    obtain ⟨I, h1, h2, h3, h4, h5, h6⟩ := rounds2 k (by omega)
    obtain ⟨_, tl, wh, _, _⟩ := rings_eq sA sB op k (by omega)
    have pm := nexts_pm sA sB op
    have hkl : k < (bordM op (piecesM A B)).length := by omega
    rw [rringsN]
    unfold rstepR
    cases seen : (rringsN (bordM op (piecesM A B)) k).2.getD k false
    · rw [if_neg (by decide)]
      obtain ⟨m, m1, mn, mi, ml, ew⟩ := walk_round (bordM op (piecesM A B)) pm hkl tl (fun a => (wh.it pm hkl a).trans seen)
      rw [ew]
      dsimp only
      refine ⟨(k, m) :: I, ?_, ?_, ?_, ?_, ?_, ?_⟩
      · exact (rins_perm _ _).trans (h1.cons _)
      · refine List.pairwise_cons.2 ⟨fun y hy a b e => ?_, h2⟩
        have s1 := h4 y hy b
        rw [← e, wh.it pm hkl a, seen] at s1
        cases s1
      · intro z hz
        rcases List.mem_cons.1 hz with rfl | hz
        · exact ⟨hkl, m1, mi, ml⟩
        · exact h3 z hz
      · intro z hz a
        rcases List.mem_cons.1 hz with rfl | hz
        · have lt := it_lt pm hkl a
          rw [setN_at (by rw [tl]; exact lt)]
          right
          refine ⟨a % m, Nat.mod_lt _ (by omega), ?_⟩
          have red : ∀ q c, itN (nextsM (bordM op (piecesM A B))) k (c + q * m) = itN (nextsM (bordM op (piecesM A B))) k c := by
            intro q
            induction q with
            | zero => intro c; rw [Nat.zero_mul, Nat.add_zero]
            | succ q ih => intro c; rw [Nat.succ_mul, ← Nat.add_assoc, it_per mi, ih]
          have := red (a / m) (a % m)
          rw [Nat.mul_comm, Nat.mod_add_div] at this
          exact this.symm
        · have lt := it_lt pm (h3 z hz).lt a
          rw [setN_at (by rw [tl]; exact lt)]
          exact .inl (h4 z hz a)
      · intro j hj h
        rw [setN_at (by rw [tl]; exact hj)] at h
        rcases h with h | ⟨b, _, h⟩
        · obtain ⟨z, hz, a, e⟩ := h5 j hj h
          exact ⟨z, List.mem_cons_of_mem _ hz, a, e⟩
        · exact ⟨(k, m), List.mem_cons_self, b, h⟩
      · intro j hj
        rw [setN_at (by rw [tl]; omega)]
        rcases Nat.lt_or_ge j k with q | q
        · exact .inl (h6 j q)
        · exact .inr ⟨0, by omega, by have : j = k := by omega
                                      rw [this]; rfl⟩
    · rw [if_pos rfl]
      refine ⟨I, h1, h2, h3, h4, h5, fun j hj => ?_⟩
      rcases Nat.lt_or_ge j k with q | q
      · exact h6 j q
      · have : j = k := by omega
        rw [this]; exact seen
theorem it_mod {z : Nat × Nat} (hz : Rd (bordM op (piecesM A B)) z) (a : Nat) : itN (nextsM (bordM op (piecesM A B))) z.1 (a % z.2) = itN (nextsM (bordM op (piecesM A B))) z.1 a := by
  have red : ∀ q c, itN (nextsM (bordM op (piecesM A B))) z.1 (c + q * z.2) = itN (nextsM (bordM op (piecesM A B))) z.1 c := by
    intro q
    induction q with
    | zero => intro c; rw [Nat.zero_mul, Nat.add_zero]
    | succ q ih => intro c; rw [Nat.succ_mul, ← Nat.add_assoc, it_per hz.per, ih]
  have := red (a / z.2) (a % z.2)
  rw [Nat.mul_comm, Nat.mod_add_div] at this
  exact this.symm
/-- The rings are those of rounds that have no border in common, and all borders. -/
theorem rounds_whole : ∃ I : List (Nat × Nat), (ringsM (bordM op (piecesM A B))).Perm (I.map (ringAtL (bordM op (piecesM A B)))) ∧ I.Pairwise (Sep (bordM op (piecesM A B))) ∧ (∀ z ∈ I, Rd (bordM op (piecesM A B)) z) ∧ (I.flatMap (idxR (bordM op (piecesM A B)))).Perm (List.range (bordM op (piecesM A B)).length) := by
  obtain ⟨I, h1, h2, h3, h4, h5, h6⟩ := rounds2 sA sB op _ (Nat.le_refl _)
  have pm := nexts_pm sA sB op
  refine ⟨I, ?_, h2, h3, ?_⟩
  · unfold ringsM
    rw [(rings_eq sA sB op _ (Nat.le_refl _)).1]
    exact h1
  · refine perm_nd ?_ List.nodup_range fun j => ?_
    · show List.Pairwise _ _
      rw [List.pairwise_flatMap]
      constructor
      · intro z hz
        unfold idxR
        rw [List.pairwise_map]
        refine List.Pairwise.imp_of_mem ?_ List.pairwise_lt_range
        intro a b ma mb lt e
        have lb := List.mem_range.1 mb
        exact (h3 z hz).min (b - a) (by omega) (by omega) (it_down pm (h3 z hz).lt a b (by omega) e)
      · refine h2.imp fun {z y} se i hi j hj e => ?_
        unfold idxR at hi hj
        obtain ⟨a, _, rfl⟩ := List.mem_map.1 hi
        obtain ⟨b, _, rfl⟩ := List.mem_map.1 hj
        exact se a b e
    · rw [List.mem_flatMap, List.mem_range]
      constructor
      · rintro ⟨z, hz, h⟩
        unfold idxR at h
        obtain ⟨a, _, rfl⟩ := List.mem_map.1 h
        exact it_lt pm (h3 z hz).lt a
      · intro hj
        obtain ⟨z, hz, a, e⟩ := h5 j hj (h6 j hj)
        refine ⟨z, hz, ?_⟩
        unfold idxR
        exact List.mem_map.2 ⟨a % z.2, List.mem_range.2 (Nat.mod_lt _ (by have := (h3 z hz).one; omega)), by rw [it_mod sA sB op (h3 z hz), e]⟩
/-- The edges of a round's borders are those borders. -/
theorem way_edges {z : Nat × Nat} (hz : Rd (bordM op (piecesM A B)) z) : ringEdges (wayR (bordM op (piecesM A B)) z) = (idxR (bordM op (piecesM A B)) z).map (edg (bordM op (piecesM A B))) := by
  unfold idxR
  rw [List.map_map]
  unfold ringEdges
  rw [wayR_len]
  refine List.map_congr_left fun j hj => ?_
  have hj := List.mem_range.1 hj
  unfold edgeAt
  rw [wayR_len, wayR_at _ _ hj]
  refine Prod.ext rfl ?_
  show _ = (edg (bordM op (piecesM A B)) (itN (nextsM (bordM op (piecesM A B))) z.1 j)).2
  rw [way_end sA sB op hz.lt j]
  by_cases e : j + 1 = z.2
  · rw [if_pos e, wayR_at _ _ (by have := hz.one; omega), e]
    have := way_per hz.per 0
    rw [Nat.zero_add] at this
    exact this.symm
  · rw [if_neg e, wayR_at _ _ (by omega)]
end
/-! What is told of a straight run is told of its parts. -/
def sumX (h : Nat → Bool) (a : Nat) : Nat → Bool
  | 0 => false
  | n + 1 => sumX h a n ^^ h (a + n)
theorem sumX_app (h : Nat → Bool) (a n : Nat) : ∀ m, sumX h a (n + m) = (sumX h a n ^^ sumX h (a + n) m)
  | 0 => by simp [sumX]
  | m + 1 => by
    rw [← Nat.add_assoc, sumX, sumX_app h a n m, sumX, Nat.add_assoc, Bool.xor_assoc]
theorem sumX_shift {h : Nat → Bool} {m : Nat} (per : ∀ c, h (c + m) = h c) (a : Nat) : sumX h a m = sumX h 0 m := by
  induction a with
  | zero => rfl
  | succ a ih =>
    rw [← ih]
    have e1 := sumX_app h a 1 m
    have e2 := sumX_app h a m 1
    rw [Nat.add_comm 1 m] at e1
    rw [e1] at e2
    simp only [sumX, Nat.add_zero, Bool.false_xor, per] at e2
    revert e2
    cases h a <;> cases sumX h (a + 1) m <;> cases sumX h a m <;> simp
theorem sumX_par (f : Pt → Pt → Bool) (e : Nat → Pt × Pt) (a : Nat) : ∀ n, parB f ((List.range' a n).map e) = sumX (fun c => f (e c).1 (e c).2) a n
  | 0 => rfl
  | n + 1 => by
    rw [List.range'_concat, List.map_append, parB_app, sumX_par f e a n, sumX]
    congr 1
    show (f (e (a + 1 * n)).1 (e (a + 1 * n)).2 ^^ false) = _
    rw [Nat.one_mul, Bool.xor_false]
/-- Round a ring: from turn to turn, all of it. -/
theorem turn_sum {s : Nat → Pt} {m : Nat} (per : ∀ b, s (b + m) = s b) {G : Pt → Pt → Bool} {h : Nat → Bool} (hp : ∀ c, h (c + m) = h c)
    (run : ∀ a b, a ≤ b → Run s a b → G (s a) (s (b + 1)) = sumX h a (b + 1 - a)) (ne : posN s m ≠ []) : parB G (ringEdges (turnP s m)) = sumX h 0 m := by
  have so := pos_sorted s m
  have kp : 0 < (posN s m).length := List.length_pos_iff.2 ne
  have hG : ∀ j, j < (posN s m).length → G ((ringEdges (turnP s m)).getD j (zP, zP)).1 ((ringEdges (turnP s m)).getD j (zP, zP)).2 = if j + 1 = (posN s m).length then sumX h ((posN s m).getD j 0 + 1) ((posN s m).getD 0 0 + m - (posN s m).getD j 0) else sumX h ((posN s m).getD j 0 + 1) ((posN s m).getD (j + 1) 0 - (posN s m).getD j 0) := fun j hj => by
    obtain ⟨b, h1, h2, h3, h4, h5⟩ := edge_run2 per hj
    rw [ringEdges_at (by rw [turn_len]; exact hj)]
    dsimp only
    rw [turn_len, turn_at hj, ← h3, run _ _ h1 h2]
    by_cases e : j + 1 = (posN s m).length
    · rw [if_pos e, h5 e]
      congr 1; omega
    · rw [if_neg e, h4 (by omega)]
      congr 1; omega
  have part : ∀ k, k < (posN s m).length → xr (fun j => G ((ringEdges (turnP s m)).getD j (zP, zP)).1 ((ringEdges (turnP s m)).getD j (zP, zP)).2) k = sumX h ((posN s m).getD 0 0 + 1) ((posN s m).getD k 0 - (posN s m).getD 0 0) := by
    intro k
    induction k with
    | zero => intro _; rw [Nat.sub_self]; rfl
    | succ k ih =>
      intro hk
      have hx : ∀ g : Nat → Bool, xr g (k + 1) = (xr g k ^^ g k) := fun _ => rfl
      rw [hx, ih (by omega), hG k (by omega), if_neg (by omega)]
      have q1 := sorted_at so hk (show k < k + 1 by omega)
      have q0 : (posN s m).getD 0 0 ≤ (posN s m).getD k 0 := by
        rcases Nat.eq_zero_or_pos k with z | z
        · rw [z]; exact Nat.le_refl _
        · exact Nat.le_of_lt (sorted_at so (by omega) z)
      have := sumX_app h ((posN s m).getD 0 0 + 1) ((posN s m).getD k 0 - (posN s m).getD 0 0) ((posN s m).getD (k + 1) 0 - (posN s m).getD k 0)
      rw [show (posN s m).getD 0 0 + 1 + ((posN s m).getD k 0 - (posN s m).getD 0 0) = (posN s m).getD k 0 + 1 by omega, show (posN s m).getD k 0 - (posN s m).getD 0 0 + ((posN s m).getD (k + 1) 0 - (posN s m).getD k 0) = (posN s m).getD (k + 1) 0 - (posN s m).getD 0 0 by omega] at this
      exact this.symm
  have e0 : parB G (ringEdges (turnP s m)) = xr (fun j => G ((ringEdges (turnP s m)).getD j (zP, zP)).1 ((ringEdges (turnP s m)).getD j (zP, zP)).2) (posN s m).length := by
    have e1 : ringEdges (turnP s m) = (List.range (posN s m).length).map (fun j => (ringEdges (turnP s m)).getD j (zP, zP)) := by
      apply List.ext_getElem
      · rw [re_len, turn_len]; simp
      · intro i k1 k2
        rw [List.getElem_map, List.getElem_range, ← at_getD k1]
    conv => lhs; rw [e1]
    exact parB_range G _ _
  rw [e0]
  obtain ⟨n, hn⟩ : ∃ n, (posN s m).length = n + 1 := ⟨(posN s m).length - 1, by omega⟩
  have hx : ∀ g : Nat → Bool, xr g (n + 1) = (xr g n ^^ g n) := fun _ => rfl
  rw [hn, hx, part n (by omega), hG n (by omega), if_pos hn.symm]
  have q0 : (posN s m).getD 0 0 ≤ (posN s m).getD n 0 := by
    rcases Nat.eq_zero_or_pos n with z | z
    · rw [z]; exact Nat.le_refl _
    · exact Nat.le_of_lt (sorted_at so (by omega) z)
  have lt := (pos_mem.1 (at_mem (show n < (posN s m).length by omega))).1
  have := sumX_app h ((posN s m).getD 0 0 + 1) ((posN s m).getD n 0 - (posN s m).getD 0 0) ((posN s m).getD 0 0 + m - (posN s m).getD n 0)
  rw [show (posN s m).getD 0 0 + 1 + ((posN s m).getD n 0 - (posN s m).getD 0 0) = (posN s m).getD n 0 + 1 by omega, show (posN s m).getD n 0 - (posN s m).getD 0 0 + ((posN s m).getD 0 0 + m - (posN s m).getD n 0) = m by omega] at this
  rw [← this]
  exact sumX_shift hp _
end Go.Proofs.YtnkcbephceollabGreat
