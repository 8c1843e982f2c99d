import Derived.Test.YtnkcbephceollabG8
namespace Go.Proofs.Ytnkcbephceollab
set_option linter.unusedVariables false
set_option linter.unusedSimpArgs false

theorem bounded {α : Type} (f : α → Int) : ∀ l : List α, ∃ K : Int, 0 < K ∧ ∀ x ∈ l, -K < f x ∧ f x < K
  | [] => ⟨1, by decide, fun x hx => by cases hx⟩
  | x :: l => by
    obtain ⟨K, h0, h⟩ := bounded f l
    refine ⟨K + (f x).natAbs, by omega, fun y hy => ?_⟩
    rcases List.mem_cons.1 hy with rfl | hy
    · omega
    · have := h y hy; omega
/-- How often the way from far outside to m crosses the edges, m lying on some of them. -/
theorem way_mid {o m : Pt} {P : List (List Pt)} (ho : 0 < o.d) (hm : 0 < m.d) (hd : ∀ v ∈ P.flatten, 0 < v.d) (hl : ∀ v ∈ P.flatten, 0 < xv o v) (hA : ∀ v ∈ P.flatten, detM o m v ≠ 0) (hne : ∀ e ∈ edgesM P, befB e.1 e.2 = true ∨ befB e.2 e.1 = true) :
    (parB (crossB o m) (edgesM P) ^^ parB (fun a b => onB m a b) (edgesM P)) = (parB (overB m) (edgesM P) ^^ parB (thrB o m) (edgesM P)) := by
  obtain ⟨K1, p1, h1⟩ := bounded (fun v => yv m v) P.flatten
  obtain ⟨K2, p2, h2⟩ := bounded (fun v => yv o v) P.flatten
  obtain ⟨K3, p3, h3⟩ := bounded (fun e : Pt × Pt => yv e.1 e.2) (edgesM P)
  obtain ⟨K, hK⟩ : ∃ K, K = K1 + K2 + K3 := ⟨_, rfl⟩
  obtain ⟨T1, t1, g1⟩ := bounded (fun v => yv (shP K o) (shP K v)) P.flatten
  obtain ⟨T2, t2, g2⟩ := bounded (fun e : Pt × Pt => detM e.1 e.2 o) (edgesM P)
  obtain ⟨T, hT⟩ : ∃ T, T = T1 + T2 + o.d := ⟨_, rfl⟩
  have hT0 : 0 < T := by omega
  have upd : ∀ u v, upB false u v = decide (0 < yv u v) := fun u v => by unfold upB; simp
  have po : ∀ v ∈ P.flatten, 0 < yv (shP K o) (shP K v) ∧ yv (shP K o) (shP K v) < T := fun v hv => by
    have b := h2 v hv
    have u := sh_up (K := K) (q := o) (v := v) (by omega) (by omega)
    rw [upd] at u
    have bf : befB o v = true := by
      cases k : befB o v
      · rw [bef_x] at k; have := hl v hv; omega
      · rfl
    rw [bf] at u
    have g := g1 v hv
    exact ⟨of_decide_eq_true u, by omega⟩
  have km : ∀ v ∈ P.flatten, -K < yv m v ∧ yv m v < K := fun v hv => by have := h1 v hv; omega
  have ke : ∀ e ∈ edgesM P, -K < yv e.1 e.2 ∧ yv e.1 e.2 < K := fun e he => by have := h3 e he; omega
  have te : ∀ e ∈ edgesM P, -T < detM e.1 e.2 o ∧ detM e.1 e.2 o < T := fun e he => by have := g2 e he; omega
  have dp : 0 < (pastP T o m).d := by
    have : T * m.d ≥ T * 1 := Int.mul_le_mul_of_nonneg_left (by omega) (by omega)
    show 0 < T * m.d - o.d
    omega
  have on' : ∀ e ∈ edgesM (shL K P), onB (shP K (pastP T o m)) e.1 e.2 = false := fun e he => by
    rw [sh_edges] at he
    obtain ⟨e', he', rfl⟩ := List.mem_map.1 he
    obtain ⟨m1, m2⟩ := edge_ends he'
    rw [sh_on]
    unfold onB
    have := past_nz ho hm (hd _ m1) (hd _ m2) (km _ m1) (km _ m2) (ke _ he') (hA _ m1) (hA _ m2) (hne _ he') (te _ he')
    simp [this]
  have hd' : ∀ v ∈ (shL K P).flatten, 0 < v.d := fun v hv => by
    obtain ⟨u, hu, rfl⟩ := mem_sh hv
    exact hd u hu
  have p := parity false (o := shP K o) (q := shP K (pastP T o m)) (P := shL K P) ho dp hd'
    (fun v hv => by obtain ⟨u, hu, rfl⟩ := mem_sh hv; rw [sh_xv]; exact hl u hu)
    (fun v hv => by
      obtain ⟨u, hu, rfl⟩ := mem_sh hv
      rw [sh_det, past_way]
      intro e
      rcases Int.mul_eq_zero.1 e with c | c
      · omega
      · exact hA u hu c) on'
  have p2 := left_right false (q := shP K (pastP T o m)) (P := shL K P) dp hd' on'
  rw [← p2, sh_edges, parB_map, parB_map] at p
  have c1 : parB (fun a b => crossB (shP K o) (shP K (pastP T o m)) (shP K a) (shP K b)) (edgesM P) = parB (fun a b => crossB o m a b ^^ onB m a b) (edgesM P) := parB_congr fun e he => by
    obtain ⟨m1, m2⟩ := edge_ends he
    rw [sh_cross]
    exact past_cross ho hm (hd _ m1) (hd _ m2) (km _ m1) (km _ m2) (ke _ he) (hA _ m1) (hA _ m2) (hne _ he) (te _ he)
  have c2 : parB (fun a b => leftB false (shP K (pastP T o m)) (shP K a) (shP K b)) (edgesM P) = parB (fun a b => overB m a b ^^ thrB o m a b) (edgesM P) := parB_congr fun e he => by
    obtain ⟨m1, m2⟩ := edge_ends he
    exact past_left ho hm (hd _ m1) (hd _ m2) (km _ m1) (km _ m2) (ke _ he) (hA _ m1) (hA _ m2) (hne _ he) (te _ he) (po _ m1) (po _ m2)
  rw [c1, c2, parB_xor, parB_xor] at p
  exact p
/-- No edge of the polygon comes across the piece from p to q, and no point lies within it. -/
structure Clear (P : List (List Pt)) (p q : Pt) : Prop where
  pt : ∀ v ∈ P.flatten, befB p v = true → befB v q = true → detM p q v ≠ 0
  ed : ∀ e ∈ edgesM P, crossB p q e.1 e.2 = false
/-- Close to p and half way: the same. -/
theorem along {P : List (List Pt)} {p q : Pt} (hp : 0 < p.d) (hq : 0 < q.d) (hpq : befB p q = true) (hd : ∀ v ∈ P.flatten, 0 < v.d) (hc : Clear P p q) :
    parB (ovL p q) (edgesM P) = parB (overB (midP p q)) (edgesM P) := by
  have h : parB (fun a b => ovL p q a b ^^ overB (midP p q) a b) (edgesM P) = parB (fun a b => gB p q a ^^ gB p q b) (edgesM P) := parB_congr fun e he => by
    obtain ⟨m1, m2⟩ := edge_ends he
    exact strip_edge hp hq (hd _ m1) (hd _ m2) hpq (hc.pt _ m1) (hc.pt _ m2) (hc.ed e he)
  rw [poly_even, parB_xor] at h
  revert h
  cases parB (ovL p q) (edgesM P) <;> cases parB (overB (midP p q)) (edgesM P) <;> simp
end Go.Proofs.Ytnkcbephceollab
