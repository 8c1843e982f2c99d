import Derived.Test.YtnkcbephceollabQ36
namespace Go.Proofs.Ytnkcbephceollab
set_option linter.unusedSimpArgs false
set_option linter.unusedVariables false
set_option linter.unusedSectionVars false

/-- One line: what lies on either side of it. -/
theorem line_apart {a b p z : Pt} (ha : 0 < a.d) (hb : 0 < b.d) (hp : 0 < p.d) (ne : befB a b = true ∨ befB b a = true) (hpz : befB p z = true) (h1 : detM a b p = 0) (h2 : detM a b z = 0) (u v : Pt) :
    apartB (detM p z u) (detM p z v) = apartB (detM a b u) (detM a b v) ∧ (detM p z u = 0 ↔ detM a b u = 0) := by
  rcases ne with h | h
  · have s := fun x => line_sign (x := x) ha hp h1 h2 h hpz
    have su := s u
    have sv := s v
    refine ⟨?_, su.2.symm⟩
    unfold apartB
    rw [Bool.eq_iff_iff]
    simp only [Bool.or_eq_true, Bool.and_eq_true, decide_eq_true_eq]
    omega
  · have fl : ∀ x, detM b a x = -detM a b x := fun x => by unfold detM; grind
    have s := fun x => line_sign (x := x) hb hp (by rw [fl, h1]; rfl) (by rw [fl, h2]; rfl) h hpz
    have su := s u
    have sv := s v
    rw [fl] at su sv
    refine ⟨?_, by omega⟩
    unfold apartB
    rw [Bool.eq_iff_iff]
    simp only [Bool.or_eq_true, Bool.and_eq_true, decide_eq_true_eq]
    omega
/-! Pieces Q between spots S, and a polygon whose edges they bear. -/
structure Qs (S : List Pt) (Q : List (Pt × Pt)) : Prop where
  nd : Q.Nodup
  sd : ∀ s ∈ S, 0 < s.d
  mem : ∀ x ∈ Q, x.1 ∈ S ∧ x.2 ∈ S
  bef : ∀ x ∈ Q, befB x.1 x.2 = true
  uniq : ∀ x ∈ Q, ∀ y ∈ Q, ∀ m, Wi x.1 x.2 m → onB m y.1 y.2 = true → y = x
structure Web (S : List Pt) (Q : List (Pt × Pt)) (P : List (List Pt)) : Prop where
  sd : Sd P
  pts : ∀ v ∈ P.flatten, v ∈ S
  clear : ∀ x ∈ Q, Clear P x.1 x.2
  ex : ∀ e ∈ edgesM P, ∀ m, 0 < m.d → onB m e.1 e.2 = true → (∀ s ∈ S, befB s m = true ∨ befB m s = true) → ∃ x ∈ Q, Wi x.1 x.2 m
def sidF (f : Bool → Bool → Bool) (EA EB : List (Pt × Pt)) (p z : Pt) : Bool := f (parB (leftE p z) EA) (parB (leftE p z) EB) ^^ f (parB (rightE p z) EA) (parB (rightE p z) EB)
theorem Qs.pos {S : List Pt} {Q : List (Pt × Pt)} (h : Qs S Q) {x : Pt × Pt} (hx : x ∈ Q) : 0 < x.1.d ∧ 0 < x.2.d := ⟨h.sd _ (h.mem x hx).1, h.sd _ (h.mem x hx).2⟩
section
variable {S : List Pt} {Q : List (Pt × Pt)} (hQ : Qs S Q) {o : Pt} (ho : 0 < o.d) (far : ∀ s ∈ S, 0 < xv o s)
include hQ ho far
/-- The place at which a way crosses a piece. -/
theorem cross_at {p z m : Pt} (hp : p ∈ S) (hz : z ∈ S) (hpz : befB p z = true) (hm : 0 < m.d) (gen : ∀ s ∈ S, detM o m s ≠ 0) (h : crossB o m p z = true) : ∃ α β : Int, 0 < α ∧ 0 < β ∧ Wi p z (cmb α β o m) := by
  have pd := hQ.sd _ hp
  have zd := hQ.sd _ hz
  unfold crossB at h
  rw [Bool.and_eq_true] at h
  obtain ⟨h1, h2⟩ := h
  obtain ⟨α, β, hα, hβ, e0⟩ : ∃ α β : Int, 0 < α ∧ 0 < β ∧ α * detM p z o + β * detM p z m = 0 := by
    unfold apartB at h2
    simp only [Bool.or_eq_true, Bool.and_eq_true, decide_eq_true_eq] at h2
    rcases h2 with ⟨x, y⟩ | ⟨x, y⟩
    · exact ⟨detM p z m, -detM p z o, y, by omega, by grind⟩
    · exact ⟨-detM p z m, detM p z o, by omega, x, by grind⟩
  have hd := cmb_pos hα hβ ho hm
  have z0 : detM p z (cmb α β o m) = 0 := by rw [cmb_det]; exact e0
  have nz : ∀ v, v ∈ S → detM o (cmb α β o m) v ≠ 0 := fun v hv k => by
    rw [cmb_way] at k
    exact gen v hv ((sgn_sc hβ).2.2.1 k)
  have on : onB (cmb α β o m) p z = true := by
    rw [on_apart' ho hd pd zd (nz p hp) (nz z hz) (.inl hpz) z0, cmb_way, cmb_way, (apart_sc hβ _ _).1]; exact h1
  have wi := (on_parts on).2
  unfold withB at wi
  rw [(lo_hi hpz).1, (lo_hi hpz).2.1] at wi
  simp only [Bool.and_eq_true, Bool.not_eq_true'] at wi
  have ne : ∀ s ∈ S, befB s (cmb α β o m) = false → befB (cmb α β o m) s = false → False := fun s hs k1 k2 => by
    have := same_place (b := o) hd k2 k1
    refine nz s hs ?_
    have e : detM o (cmb α β o m) s = -detM (cmb α β o m) o s := by unfold detM; grind
    omega
  refine ⟨α, β, hα, hβ, pd, zd, hd, ?_, ?_, z0⟩
  · cases k : befB p (cmb α β o m)
    · exact (ne p hp k wi.1).elim
    · rfl
  · cases k : befB (cmb α β o m) z
    · exact (ne z hz wi.2 k).elim
    · rfl
variable {A B : List (List Pt)} (wA : Web S Q A) (wB : Web S Q B)
include wA wB
theorem edge_gen {e : Pt × Pt} (he : e ∈ edgesM A ++ edgesM B) : e.1 ∈ S ∧ e.2 ∈ S ∧ (befB e.1 e.2 = true ∨ befB e.2 e.1 = true) := by
  rcases List.mem_append.1 he with h | h
  · obtain ⟨m1, m2⟩ := edge_ends h
    exact ⟨wA.pts _ m1, wA.pts _ m2, wA.sd.ne e h⟩
  · obtain ⟨m1, m2⟩ := edge_ends h
    exact ⟨wB.pts _ m1, wB.pts _ m2, wB.sd.ne e h⟩
/-- A border lies along an edge. -/
theorem bord_edge {f : Bool → Bool → Bool} {x : Pt × Pt} (hx : x ∈ Q) (hF : sidF f (edgesM A) (edgesM B) x.1 x.2 = true) : ∃ e ∈ edgesM A ++ edgesM B, alongE x.1 x.2 e.1 e.2 = true := by
  have pd := (hQ.pos hx).1
  have key : ∀ {P : List (List Pt)}, Sd P → parB (rightE x.1 x.2) (edgesM P) = (parB (leftE x.1 x.2) (edgesM P) ^^ parB (alongE x.1 x.2) (edgesM P)) := fun {P} sd => by
    rw [← parB_xor]
    exact parB_congr fun e he => by
      obtain ⟨m1, m2⟩ := edge_ends he
      exact rightE_eq (sd.pd _ m1) (sd.pd _ m2) pd (sd.ne e he)
  unfold sidF at hF
  rw [key wA.sd, key wB.sd] at hF
  cases a : parB (alongE x.1 x.2) (edgesM A)
  · cases b : parB (alongE x.1 x.2) (edgesM B)
    · rw [a, b] at hF
      simp at hF
    · obtain ⟨e, he, k⟩ := par_some b
      exact ⟨e, List.mem_append.2 (.inr he), k⟩
  · obtain ⟨e, he, k⟩ := par_some a
    exact ⟨e, List.mem_append.2 (.inl he), k⟩
theorem edge_on {x : Pt × Pt} (hx : x ∈ Q) {m : Pt} (w : Wi x.1 x.2 m) {e : Pt × Pt} (he : e ∈ edgesM A ++ edgesM B) : alongE x.1 x.2 e.1 e.2 = onB m e.1 e.2 := by
  obtain ⟨s1, s2, ne⟩ := edge_gen hQ ho far wA wB he
  rcases List.mem_append.1 he with h | h
  · obtain ⟨m1, m2⟩ := edge_ends h
    have c := wA.clear x hx
    exact on_x w (hQ.sd _ s1) (hQ.sd _ s2) ne (c.pt _ m1) (c.pt _ m2) (c.ed e h)
  · obtain ⟨m1, m2⟩ := edge_ends h
    have c := wB.clear x hx
    exact on_x w (hQ.sd _ s1) (hQ.sd _ s2) ne (c.pt _ m1) (c.pt _ m2) (c.ed e h)
/-- A border that a way crosses: so it does an edge, there. -/
theorem bord_cross {f : Bool → Bool → Bool} {m : Pt} (hm : 0 < m.d) (gen : ∀ s ∈ S, detM o m s ≠ 0) {x : Pt × Pt} (hx : x ∈ Q) (hF : sidF f (edgesM A) (edgesM B) x.1 x.2 = true) (h : crossB o m x.1 x.2 = true) :
    ∃ e ∈ edgesM A ++ edgesM B, crossB o m e.1 e.2 = true ∧ detM e.1 e.2 x.1 = 0 ∧ detM e.1 e.2 x.2 = 0 := by
  obtain ⟨e, he, al⟩ := bord_edge hQ ho far wA wB hx hF
  obtain ⟨α, β, hα, hβ, w⟩ := cross_at hQ ho far (hQ.mem x hx).1 (hQ.mem x hx).2 (hQ.bef x hx) hm gen h
  have on : onB (cmb α β o m) e.1 e.2 = true := by rw [← edge_on hQ ho far wA wB hx w he]; exact al
  obtain ⟨s1, s2, ne⟩ := edge_gen hQ ho far wA wB he
  have nz : ∀ v, v ∈ S → detM o (cmb α β o m) v ≠ 0 := fun v hv k => by
    rw [cmb_way] at k
    exact gen v hv ((sgn_sc hβ).2.2.1 k)
  have z0 := (on_parts on).1
  have ap := on_apart' ho w.d (hQ.sd _ s1) (hQ.sd _ s2) (nz _ s1) (nz _ s2) ne z0
  rw [on, cmb_way, cmb_way, (apart_sc hβ _ _).1] at ap
  have u := far_apart ho (far _ s1) (far _ s2) ap.symm
  rw [cmb_det] at z0
  refine ⟨e, he, ?_, ?_, ?_⟩
  · unfold crossB
    rw [← ap, Bool.true_and]
    unfold apartB
    simp only [Bool.or_eq_true, Bool.and_eq_true, decide_eq_true_eq]
    rcases Int.lt_or_gt_of_ne u with k | k
    · have := mul_pn hα k
      have : 0 < β * detM e.1 e.2 m := by omega
      exact .inl ⟨k, (sgn_sc hβ).2.1.1 this⟩
    · have := mul_pp hα k
      have : β * detM e.1 e.2 m < 0 := by omega
      exact .inr ⟨k, (sgn_sc hβ).1.1 this⟩
  · unfold alongE at al
    simp only [Bool.and_eq_true, decide_eq_true_eq] at al
    exact al.2.1
  · unfold alongE at al
    simp only [Bool.and_eq_true, decide_eq_true_eq] at al
    exact al.2.2
/-- Along a way from far outside what is made of two polygons changes just at the borders. -/
theorem way_T (f : Bool → Bool → Bool) (f0 : f false false = false) : ∀ (n : Nat) (m : Pt), 0 < m.d → (∀ s ∈ S, detM o m s ≠ 0) → (edgesM A ++ edgesM B).countP (fun e => crossB o m e.1 e.2) ≤ n →
    parB (fun p z => sidF f (edgesM A) (edgesM B) p z && crossB o m p z) Q = f (parB (crossB o m) (edgesM A)) (parB (crossB o m) (edgesM B)) := by
  intro n
  induction n with
  | zero =>
    intro m hm gen hn
    have none : ∀ e ∈ edgesM A ++ edgesM B, crossB o m e.1 e.2 = false := fun e he => by
      cases k : crossB o m e.1 e.2
      · rfl
      · have := List.countP_pos_iff (p := fun e : Pt × Pt => crossB o m e.1 e.2).2 ⟨e, he, k⟩
        omega
    rw [par_none fun e he => none e (List.mem_append.2 (.inl he)), par_none fun e he => none e (List.mem_append.2 (.inr he)), f0]
    refine par_none fun x hx => ?_
    cases hF : sidF f (edgesM A) (edgesM B) x.1 x.2
    · rfl
    · cases k : crossB o m x.1 x.2
      · rfl
      · obtain ⟨e, he, c, _⟩ := bord_cross hQ ho far wA wB hm gen hx hF k
        rw [none e he] at c; cases c
  | succ n ih =>
    intro m hm gen hn
    by_cases ex : ∃ e ∈ edgesM A ++ edgesM B, crossB o m e.1 e.2 = true
    · have apz : ∀ e : Pt × Pt, crossB o m e.1 e.2 = true → apartB (detM e.1 e.2 o) (detM e.1 e.2 m) = true := fun e h => by
        unfold crossB at h; rw [Bool.and_eq_true] at h; exact h.2
      obtain ⟨e, he, ce, mx⟩ := far_max (fun e : Pt × Pt => (detM e.1 e.2 o).natAbs) (fun e => (detM e.1 e.2 m).natAbs) (fun e => crossB o m e.1 e.2) (fun e h => by
        have := apz e h
        unfold apartB at this
        simp only [Bool.or_eq_true, Bool.and_eq_true, decide_eq_true_eq] at this
        omega) _ ex
      have ape := apz e ce
      obtain ⟨α, hα⟩ : ∃ α : Int, α = ((detM e.1 e.2 m).natAbs : Int) := ⟨_, rfl⟩
      obtain ⟨β, hβ⟩ : ∃ β : Int, β = ((detM e.1 e.2 o).natAbs : Int) := ⟨_, rfl⟩
      have pos : 0 < α ∧ 0 < β ∧ α * detM e.1 e.2 o + β * detM e.1 e.2 m = 0 := by
        unfold apartB at ape
        simp only [Bool.or_eq_true, Bool.and_eq_true, decide_eq_true_eq] at ape
        rcases ape with ⟨x, y⟩ | ⟨x, y⟩
        · have e1 : α = detM e.1 e.2 m := by omega
          have e2 : β = -detM e.1 e.2 o := by omega
          refine ⟨by omega, by omega, ?_⟩
          rw [e1, e2]; grind
        · have e1 : α = -detM e.1 e.2 m := by omega
          have e2 : β = detM e.1 e.2 o := by omega
          refine ⟨by omega, by omega, ?_⟩
          rw [e1, e2]; grind
      obtain ⟨pα, pβ, ez⟩ := pos
      have near : ∀ e' ∈ edgesM A ++ edgesM B, crossB o m e'.1 e'.2 = true → detM e'.1 e'.2 (cmb α β o m) = 0 ∨ apartB (detM e'.1 e'.2 o) (detM e'.1 e'.2 (cmb α β o m)) = true := fun e' he' ce' => by
        have le := mx e' he' ce'
        have le' : ((detM e'.1 e'.2 o).natAbs : Int) * α ≤ β * ((detM e'.1 e'.2 m).natAbs : Int) := by
          rw [hα, hβ]; exact_mod_cast le
        have ap' := apz e' ce'
        rw [cmb_det]
        unfold apartB at ap' ⊢
        simp only [Bool.or_eq_true, Bool.and_eq_true, decide_eq_true_eq] at ap' ⊢
        generalize detM e'.1 e'.2 o = u at *
        generalize detM e'.1 e'.2 m = v at *
        rcases ap' with ⟨x, y⟩ | ⟨x, y⟩
        · have e1 : ((u.natAbs : Nat) : Int) = -u := by omega
          have e2 : ((v.natAbs : Nat) : Int) = v := by omega
          rw [e1, e2] at le'
          have : -u * α = -(α * u) := by grind
          omega
        · have e1 : ((u.natAbs : Nat) : Int) = u := by omega
          have e2 : ((v.natAbs : Nat) : Int) = -v := by omega
          rw [e1, e2] at le'
          have : β * -v = -(β * v) := by grind
          have : u * α = α * u := by grind
          omega
      have d0 := cmb_pos pα pβ ho hm
      have cut : ∀ e' ∈ edgesM A ++ edgesM B, crossB o m e'.1 e'.2 = (crossB o (cmb α β o m) e'.1 e'.2 ^^ onB (cmb α β o m) e'.1 e'.2) := fun e' he' => by
        obtain ⟨s1, s2, ne⟩ := edge_gen hQ ho far wA wB he'
        exact cross_cut pα pβ ho hm (hQ.sd _ s1) (hQ.sd _ s2) (far _ s1) (far _ s2) (gen _ s1) (gen _ s2) ne (near e' he')
      have gen0 : ∀ s ∈ S, detM o (cmb α β o m) s ≠ 0 := fun s hs k => by
        rw [cmb_way] at k
        exact gen s hs ((sgn_sc pβ).2.2.1 k)
      have z0 : detM e.1 e.2 (cmb α β o m) = 0 := by rw [cmb_det]; exact ez
      have noc : crossB o (cmb α β o m) e.1 e.2 = false := by
        unfold crossB; rw [z0]; unfold apartB; simp
      have on0 : onB (cmb α β o m) e.1 e.2 = true := by
        have := cut e he
        rw [ce, noc, Bool.false_xor] at this
        exact this.symm
      have off : ∀ s ∈ S, befB s (cmb α β o m) = true ∨ befB (cmb α β o m) s = true := fun s hs => by
        cases k1 : befB s (cmb α β o m)
        · cases k2 : befB (cmb α β o m) s
          · exfalso
            have := same_place (b := o) d0 k2 k1
            refine gen0 s hs ?_
            have e : detM o (cmb α β o m) s = -detM (cmb α β o m) o s := by unfold detM; grind
            omega
          · exact .inr rfl
        · exact .inl rfl
      obtain ⟨x, hx, wx⟩ : ∃ x ∈ Q, Wi x.1 x.2 (cmb α β o m) := by
        rcases List.mem_append.1 he with h | h
        · exact wA.ex e h _ d0 on0 off
        · exact wB.ex e h _ d0 on0 off
      have less : (edgesM A ++ edgesM B).countP (fun e => crossB o (cmb α β o m) e.1 e.2) ≤ n := by
        have := countP_less (p := fun e : Pt × Pt => crossB o (cmb α β o m) e.1 e.2) (q := fun e => crossB o m e.1 e.2) (l := edgesM A ++ edgesM B) (fun e' he' c => by
          have k := cut e' he'
          have nz : detM e'.1 e'.2 (cmb α β o m) ≠ 0 := fun z => by
            unfold crossB at c; rw [z] at c; unfold apartB at c; simp at c
          have no : onB (cmb α β o m) e'.1 e'.2 = false := by unfold onB; simp [nz]
          rw [k, c, no]; rfl) ⟨e, he, ce, noc⟩
        omega
      have T := ih _ d0 gen0 less
      have sA := side_way wx wA.sd (wA.clear x hx) ho (fun v hv => far v (wA.pts v hv)) (fun v hv => gen0 v (wA.pts v hv))
      have sB := side_way wx wB.sd (wB.clear x hx) ho (fun v hv => far v (wB.pts v hv)) (fun v hv => gen0 v (wB.pts v hv))
      have cA : parB (crossB o m) (edgesM A) = (parB (crossB o (cmb α β o m)) (edgesM A) ^^ parB (fun a b => onB (cmb α β o m) a b) (edgesM A)) := by
        rw [← parB_xor]
        exact parB_congr fun e' he' => cut e' (List.mem_append.2 (.inl he'))
      have cB : parB (crossB o m) (edgesM B) = (parB (crossB o (cmb α β o m)) (edgesM B) ^^ parB (fun a b => onB (cmb α β o m) a b) (edgesM B)) := by
        rw [← parB_xor]
        exact parB_congr fun e' he' => cut e' (List.mem_append.2 (.inr he'))
      have cQ : parB (fun p z => sidF f (edgesM A) (edgesM B) p z && crossB o m p z) Q = (parB (fun p z => sidF f (edgesM A) (edgesM B) p z && crossB o (cmb α β o m) p z) Q ^^ parB (fun p z => sidF f (edgesM A) (edgesM B) p z && onB (cmb α β o m) p z) Q) := by
        rw [← parB_xor]
        refine parB_congr fun y hy => ?_
        cases hF : sidF f (edgesM A) (edgesM B) y.1 y.2
        · rfl
        · simp only [Bool.true_and]
          obtain ⟨s1, s2⟩ := hQ.mem y hy
          refine cross_cut pα pβ ho hm (hQ.sd _ s1) (hQ.sd _ s2) (far _ s1) (far _ s2) (gen _ s1) (gen _ s2) (.inl (hQ.bef y hy)) (fun c => ?_)
          obtain ⟨e', he', c', l1, l2⟩ := bord_cross hQ ho far wA wB hm gen hy hF c
          obtain ⟨t1, t2, ne⟩ := edge_gen hQ ho far wA wB he'
          have la := line_apart (hQ.sd _ t1) (hQ.sd _ t2) (hQ.sd _ s1) ne (hQ.bef y hy) l1 l2
          rcases near e' he' c' with k | k
          · exact .inl ((la _ o).2.2 k)
          · exact .inr ((la o _).1.trans k)
      have one : parB (fun p z => sidF f (edgesM A) (edgesM B) p z && onB (cmb α β o m) p z) Q = sidF f (edgesM A) (edgesM B) x.1 x.2 := by
        have onx : onB (cmb α β o m) x.1 x.2 = true := by
          unfold onB
          rw [wx.l, with_ab wx.d wx.pd wx.zd (bef_asym wx.b1) (bef_asym wx.b2)]; rfl
        rw [par_one hQ.nd hx (fun y hy hne => ?_), onx, Bool.and_true]
        cases k : onB (cmb α β o m) y.1 y.2
        · rw [Bool.and_false]
        · exact absurd (hQ.uniq x hx y hy _ wx k) hne
      rw [cQ, T, one, cA, cB, sA.1, sB.1, sA.2, sB.2]
      unfold sidF
      have q1 : ∀ a b : Bool, (a ^^ (a ^^ b)) = b := by decide
      have q2 : ∀ a b : Bool, (b ^^ (a ^^ b)) = a := by decide
      by_cases k : 0 < detM x.1 x.2 o
      · rw [if_pos k, if_pos k, q1, q1, q1]
      · rw [if_neg k, if_neg k, q2, q2, q2]
    · exact ih m hm gen (by
        rw [List.countP_eq_zero.2 fun e he k => ex ⟨e, he, k⟩]; omega)
end
end Go.Proofs.Ytnkcbephceollab
