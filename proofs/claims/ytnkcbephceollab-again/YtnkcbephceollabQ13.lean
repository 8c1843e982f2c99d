import Derived.Test.YtnkcbephceollabQ12
namespace Go.Proofs.Ytnkcbephceollab
set_option linter.unusedVariables false
set_option linter.unusedSimpArgs false
set_option linter.unusedSectionVars false

theorem bar_one' {q v : Pt} (hd : 0 < q.d) (hqx : ∀ k : Nat, xv q (outP k) < 0) (hne : ¬ (xv q v = 0 ∧ yv q v = 0)) (i j : Nat) (h1 : detM (outP i) q v = 0) (h2 : detM (outP j) q v = 0) : i = j := by
  by_cases hx : xv q v = 0
  · exfalso
    have e := id5 (outP i) q v
    rw [h1, hx, Int.mul_zero, Int.mul_zero, Int.zero_sub] at e
    have o := hqx i
    have z : xv q (outP i) * yv q v = 0 := by omega
    rcases Int.mul_eq_zero.1 z with c | c
    · omega
    · exact hne ⟨hx, c⟩
  · rw [det_out] at h1 h2
    have z : ((i : Int) - j) * xv q v = 0 := by rw [Int.sub_mul]; omega
    rcases Int.mul_eq_zero.1 z with c | c
    · omega
    · exact absurd c hx
theorem bar_edge' {p r : Pt} (hd : 0 < p.d) (hpx : ∀ k : Nat, xv p (outP k) < 0) (hne : ¬ (xv p r = 0 ∧ yv p r = 0)) (i j : Nat) (h1 : detM p r (outP i) = 0) (h2 : detM p r (outP j) = 0) : i = j := by
  have cy : ∀ o : Pt, detM p r o = detM o p r := fun o => by unfold detM; grind
  rw [cy] at h1 h2
  exact bar_one' hd hpx hne i j h1 h2
theorem far_free' {q : Pt} {l : List Pt} {p r : Pt} (hd : 0 < q.d) (hqx : ∀ k : Nat, xv q (outP k) < 0) (hne : ∀ v ∈ l, ¬ (xv q v = 0 ∧ yv q v = 0)) (hpd : 0 < p.d) (hpx : ∀ k : Nat, xv p (outP k) < 0) (hpr : ¬ (xv p r = 0 ∧ yv p r = 0)) :
    ∃ k, k ≤ l.length + 1 ∧ farM q l p r = outP k ∧ (∀ v ∈ l, detM (outP k) q v ≠ 0) ∧ detM p r (outP k) ≠ 0 := by
  obtain ⟨k, hk, hf⟩ := pigeon ((fun k => decide (detM p r (outP k) = 0)) :: l.map (fun v k => decide (detM (outP k) q v = 0))) (List.range (l.length + 2)) List.nodup_range (by
    intro b hb i j h1 h2
    rcases List.mem_cons.1 hb with rfl | hb
    · exact bar_edge' hpd hpx hpr i j (of_decide_eq_true h1) (of_decide_eq_true h2)
    · obtain ⟨v, hv', rfl⟩ := List.mem_map.1 hb
      exact bar_one' hd hqx (hne v hv') i j (of_decide_eq_true h1) (of_decide_eq_true h2)) (by simp)
  have hk' : k < l.length + 2 := by simpa using hk
  have fr : freeB q l p r k = true := by
    unfold freeB
    rw [Bool.and_eq_true, List.all_eq_true]
    refine ⟨fun v hv' => ?_, ?_⟩
    · have := hf _ (List.mem_cons_of_mem _ (List.mem_map.2 ⟨v, hv', rfl⟩))
      exact decide_eq_true (of_decide_eq_false this)
    · have := hf _ (List.mem_cons_self ..)
      exact decide_eq_true (of_decide_eq_false this)
  have free2 : ∀ n k, (∃ j, k ≤ j ∧ j < k + n ∧ freeB q l p r j = true) → ∃ j, j < k + n ∧ freeB q l p r j = true ∧ farL (freeB q l p r) n k = outP j := by
    intro n
    induction n with
    | zero => intro k ⟨j, h1, h2, _⟩; omega
    | succ n ih =>
      intro k ⟨j, h1, h2, h3⟩
      unfold farL
      cases hk : freeB q l p r k
      · rw [if_neg (by decide)]
        have : j ≠ k := fun e => by rw [e, hk] at h3; cases h3
        obtain ⟨j', a1, a2, a3⟩ := ih (k + 1) ⟨j, by omega, by omega, h3⟩
        exact ⟨j', by omega, a2, a3⟩
      · exact ⟨k, by omega, hk, rfl⟩
  obtain ⟨j, hj0, hj, e⟩ := free2 (l.length + 2) 0 ⟨k, Nat.zero_le _, by omega, fr⟩
  refine ⟨j, by omega, e, ?_⟩
  unfold freeB at hj
  rw [Bool.and_eq_true, List.all_eq_true] at hj
  exact ⟨fun v hv' => of_decide_eq_true (hj.1 v hv'), of_decide_eq_true hj.2⟩

theorem par_any {f : Pt → Pt → Bool} : ∀ {E : List (Pt × Pt)}, (∀ i j, i < j → j < E.length → ¬ (f (E.getD i (zP, zP)).1 (E.getD i (zP, zP)).2 = true ∧ f (E.getD j (zP, zP)).1 (E.getD j (zP, zP)).2 = true)) → parB f E = E.any (fun e => f e.1 e.2)
  | [], _ => rfl
  | e :: E, h => by
    have ih := par_any (f := f) (E := E) (fun i j h1 h2 => by
      have := h (i + 1) (j + 1) (by omega) (by simp; omega)
      simpa using this)
    have ep : parB f (e :: E) = (f e.1 e.2 ^^ parB f E) := rfl
    rw [ep, List.any_cons, ih]
    cases hf : f e.1 e.2
    · simp
    · have : E.any (fun e => f e.1 e.2) = false := by
        rw [← Bool.not_eq_true, List.any_eq_true]
        rintro ⟨x, hx, hfx⟩
        obtain ⟨j, hj, rfl⟩ := List.mem_iff_getElem.1 hx
        refine h 0 (j + 1) (by omega) (by simp; omega) ⟨by simpa using hf, ?_⟩
        simp only [List.getD_cons_succ]
        rw [List.getD_eq_getElem?_getD, List.getElem?_eq_getElem hj]
        exact hfx
      rw [this]; rfl

theorem cross_det {a b c : Pt} (ha : a.d = 1) (hb : b.d = 1) (hc : c.d = 1) : crossM (b.x - a.x) (b.y - a.y) (c.x - a.x) (c.y - a.y) = detM a b c := by
  unfold crossM detM; rw [ha, hb, hc]; grind
theorem cross_det2 {a b c d : Pt} (ha : a.d = 1) (hb : b.d = 1) (hc : c.d = 1) (hd : d.d = 1) : crossM (b.x - a.x) (b.y - a.y) (d.x - c.x) (d.y - c.y) = detM a b d - detM a b c := by
  unfold crossM detM; rw [ha, hb, hc, hd]; grind
/-- It covers the piece. -/
def Covers (p q a b : Pt) : Prop := (detM p q a = 0 ∧ detM p q b = 0) ∧ ((befB p a = false ∧ befB b q = false) ∨ (befB p b = false ∧ befB a q = false))
theorem cover_fl {p q a b : Pt} (hp : 0 < p.d) (hq : 0 < q.d) (ha : 0 < a.d) (hb : 0 < b.d) (hpq : befB p q = true) (h : Covers p q a b) : befB p (firstM a b) = false ∧ befB (lastM a b) q = false := by
  rcases h.2 with ⟨h1, h2⟩ | ⟨h1, h2⟩
  · have aq := le_bef ha hp hq h1 hpq
    have ab := bef_le ha hq hb aq h2
    have ba := bef_asym ab
    rw [first_eq, last_eq, if_neg (by rw [ba]; decide), if_pos ab]
    exact ⟨h1, h2⟩
  · have bq := le_bef hb hp hq h1 hpq
    have ba := bef_le hb hq ha bq h2
    have ab := bef_asym ba
    rw [first_eq, last_eq, if_pos ba, if_neg (by rw [ab]; decide)]
    exact ⟨h1, h2⟩
theorem two_along {p q a b c d : Pt} (hp : 0 < p.d) (hq : 0 < q.d) (ha : a.d = 1) (hb : b.d = 1) (hc : c.d = 1) (hd : d.d = 1) (hpq : befB p q = true) (h1 : Covers p q a b) (h2 : Covers p q c d) : (meetM a b c d).k = 2 := by
  obtain ⟨f1, l1⟩ := cover_fl hp hq (by omega) (by omega) hpq h1
  obtain ⟨f2, l2⟩ := cover_fl hp hq (by omega) (by omega) hpq h2
  obtain ⟨K, k1, k2, k3, k4, k5, k6, k7⟩ := bnd7 (yv p a) (yv p b) (yv p q) (yv a b) (yv q b) (yv p c) (yv p d)
  have upd : ∀ u v, upB false u v = decide (0 < yv u v) := fun u v => by unfold upB; simp
  have u3 := sh_up k3.1 k3.2
  rw [upd] at u3
  have hY : 0 < yv (shP K p) (shP K q) := by rw [hpq] at u3; exact of_decide_eq_true u3
  have col : ∀ x, detM p q x = 0 → detM a b x = 0 := fun x hx => by
    have pl := plk2 (p := shP K p) (q := shP K q) (a := shP K a) (b := shP K b) (shP K x) (by rw [sh_det]; exact h1.1.1) (by rw [sh_det]; exact h1.1.2)
    rw [sh_det, sh_det, hx, Int.mul_zero] at pl
    rcases Int.mul_eq_zero.1 pl with c | c
    · omega
    · exact c
  have z1 := col c h2.1.1
  have z2 := col d h2.1.2
  unfold meetM
  rw [cross_det2 ha hb hc hd, z1, z2, if_pos (by decide)]
  unfold parM
  rw [cross_det ha hb hc, z1, if_neg (by simp)]
  unfold lineM
  have hf : befB p (lastM (firstM a b) (firstM c d)) = false := by unfold lastM; split <;> assumption
  have hl : befB (firstM (lastM a b) (lastM c d)) q = false := by unfold firstM; split <;> assumption
  have df : 0 < (lastM (firstM a b) (firstM c d)).d := by
    unfold lastM firstM; repeat' split
    all_goals omega
  have dl : 0 < (firstM (lastM a b) (lastM c d)).d := by
    unfold lastM firstM; repeat' split
    all_goals omega
  have key : befB (lastM (firstM a b) (firstM c d)) (firstM (lastM a b) (lastM c d)) = true := bef_le df hq dl (le_bef df hp hq hf hpq) hl
  rw [← cmpB] at key
  have k := of_decide_eq_true key
  simp only
  rw [if_neg (by omega), if_neg (by omega)]

/-- A polygon that Check has nothing against, as far as is needed. -/
structure Sound (P : List (List Pt)) : Prop where
  gr : ∀ v ∈ P.flatten, Gr v
  ne : ∀ e ∈ edgesM P, befB e.1 e.2 = true ∨ befB e.2 e.1 = true
  no : ∀ i j, i < j → j < (edgesM P).length → alongB ((edgesM P).getD j (zP, zP)) ((edgesM P).getD i (zP, zP)) = false

/-- The document's sides. -/
def rsidesM (p q : Pt) (E : List (Pt × Pt)) (all : List Pt) : Bool × Bool :=
  let o := farM (midP p q) all p q
  let near := decide (nCross o (midP p q) E % 2 = 1)
  let beyond := if E.any (fun e => onB (midP p q) e.1 e.2) = true then !near else near
  if 0 < detM p q o then (near, beyond) else (beyond, near)
theorem out_x {v : Pt} (hv : goodB v = true) (k : Nat) : xv v (outP k) < 0 := (out_xv k hv).2
/-- The sides, as the program tells them, are the document's. -/
theorem sides_eq {P : List (List Pt)} {p q : Pt} {all : List Pt} (hS : Sound P) (hp : goodB p = true) (hq : goodB q = true) (hpq : befB p q = true) (hc : Clear P p q)
    (hall : ∀ v ∈ P.flatten, v ∈ all) (hcl : ∀ v ∈ all, befB p v = true → befB v q = true → detM p q v ≠ 0) (had : ∀ v ∈ all, 0 < v.d) :
    (parB (leftE p q) (edgesM P), parB (rightE p q) (edgesM P)) = rsidesM p q (edgesM P) all := by
  have pd : 0 < p.d := by have := of_decide_eq_true hp; omega
  have qd : 0 < q.d := by have := of_decide_eq_true hq; omega
  have hm := mid_pos pd qd
  obtain ⟨pm, mq⟩ := bef_pm pd qd hpq
  have hd : ∀ v ∈ P.flatten, 0 < v.d := fun v hv => by have := (hS.gr v hv).d; omega
  have hxm : ∀ k : Nat, xv (midP p q) (outP k) < 0 := fun k => by
    rw [mid_xv]
    have := mul_pn qd (out_x hp k); have := mul_pn pd (out_x hq k); omega
  have hpr : ¬ (xv p q = 0 ∧ yv p q = 0) := fun ⟨h1, h2⟩ => by
    rw [bef_iff] at hpq; unfold xv yv at *; omega
  have hne : ∀ v ∈ all, ¬ (xv (midP p q) v = 0 ∧ yv (midP p q) v = 0) := fun v hv ⟨h1, h2⟩ => by
    have b1 : befB (midP p q) v = false := by rw [bef_x]; omega
    have b2 : befB v (midP p q) = false := by rw [bef_x']; omega
    refine hcl v hv (bef_le pd hm (had v hv) pm b2) (le_bef (had v hv) hm qd b1 mq) ?_
    -- v is the middle, and that lies on the line
    have z : detM p q (midP p q) = 0 := by rw [mid_det]; unfold detM; grind
    have e : (midP p q).d * detM p q v = v.d * detM p q (midP p q) + xv (midP p q) v * (-yv p q) + yv (midP p q) v * xv p q := by unfold xv yv detM; grind
    rw [z, h1, h2] at e
    simp only [Int.mul_zero, Int.zero_mul, Int.add_zero] at e
    rcases Int.mul_eq_zero.1 e with c | c
    · omega
    · exact c
  obtain ⟨k, _, hk, hA, hT⟩ := far_free' (l := all) hm hxm hne pd (out_x hp) hpr
  have hgood : ∀ v, Gr v → goodB v = true := fun v hv => by
    have h1 := hv.x; have h2 := hv.y; have h3 := hv.d
    unfold In at h1 h2
    unfold goodB; rw [h3]; exact decide_eq_true (by omega)
  have way := way_mid (o := outP k) (m := midP p q) (P := P) (by simp [outP]) hm hd (fun v hv => (out_xv k (hgood v (hS.gr v hv))).1) (fun v hv => hA v (hall v hv)) hS.ne
  have eth : parB (thrB (outP k) (midP p q)) (edgesM P) = (parB (fun a b => onB (midP p q) a b) (edgesM P) && decide (0 < detM p q (outP k))) := by
    have e : parB (thrB (outP k) (midP p q)) (edgesM P) = parB (fun a b => onB (midP p q) a b && decide (0 < detM p q (outP k))) (edgesM P) := parB_congr fun e he => by
      obtain ⟨m1, m2⟩ := edge_ends he
      exact thr_mid pd qd (hd _ m1) (hd _ m2) hpq (hS.ne e he) (hc.pt _ m1) (hc.pt _ m2) (hc.ed e he) _
    rw [e]
    cases decide (0 < detM p q (outP k))
    · rw [Bool.and_false]
      have : ∀ l : List (Pt × Pt), parB (fun a b => onB (midP p q) a b && false) l = false := fun l => by
        induction l with
        | nil => rfl
        | cons x l ih => show ((_ && false) ^^ parB _ l) = false; rw [ih, Bool.and_false]; rfl
      exact this _
    · rw [Bool.and_true]
      exact parB_congr fun e he => by simp
  have el : parB (leftE p q) (edgesM P) = parB (overB (midP p q)) (edgesM P) := by
    rw [← along pd qd hpq hd hc]
    exact parB_congr fun e he => by
      obtain ⟨m1, m2⟩ := edge_ends he
      exact leftE_eq (hd _ m1) (hd _ m2) pd
  have er : parB (rightE p q) (edgesM P) = (parB (leftE p q) (edgesM P) ^^ parB (fun a b => onB (midP p q) a b) (edgesM P)) := by
    rw [← parB_xor]
    exact parB_congr fun e he => by
      obtain ⟨m1, m2⟩ := edge_ends he
      rw [rightE_eq (hd _ m1) (hd _ m2) pd (hS.ne e he), along_mid pd qd (hd _ m1) (hd _ m2) hpq (hS.ne e he) (hc.pt _ m1) (hc.pt _ m2) (hc.ed e he)]
  have eany : parB (fun a b => onB (midP p q) a b) (edgesM P) = (edgesM P).any (fun e => onB (midP p q) e.1 e.2) := par_any fun i j hij hj ⟨h1, h2⟩ => by
    have cov : ∀ n, n < (edgesM P).length → onB (midP p q) ((edgesM P).getD n (zP, zP)).1 ((edgesM P).getD n (zP, zP)).2 = true → Covers p q ((edgesM P).getD n (zP, zP)).1 ((edgesM P).getD n (zP, zP)).2 ∧ ((edgesM P).getD n (zP, zP)).1.d = 1 ∧ ((edgesM P).getD n (zP, zP)).2.d = 1 := fun n hn ho => by
      have he := getD_mem hn (zP, zP)
      obtain ⟨m1, m2⟩ := edge_ends he
      obtain ⟨c1, _, c3⟩ := mid_along pd qd (hd _ m1) (hd _ m2) hpq (hS.ne _ he) (hc.pt _ m1) (hc.pt _ m2) (hc.ed _ he) ho
      exact ⟨⟨c1, c3⟩, (hS.gr _ m1).d, (hS.gr _ m2).d⟩
    obtain ⟨c1, d1, d2⟩ := cov i (by omega) h1
    obtain ⟨c2, d3, d4⟩ := cov j hj h2
    have k2 := two_along pd qd d3 d4 d1 d2 hpq c2 c1
    have := hS.no i j hij hj
    unfold alongB at this
    rw [k2] at this
    exact absurd this (by decide)
  rw [eth, ← el, parB_count] at way
  rw [er]
  unfold rsidesM
  simp only [hk]
  unfold nCross
  rw [← eany]
  generalize parB (fun a b => onB (midP p q) a b) (edgesM P) = c at *
  generalize parB (leftE p q) (edgesM P) = L at *
  by_cases t : 0 < detM p q (outP k)
  · rw [if_pos t]
    rw [decide_eq_true t] at way
    revert way
    generalize decide ((edgesM P).countP (fun e => crossB (outP k) (midP p q) e.1 e.2) % 2 = 1) = n
    cases c <;> cases L <;> cases n <;> simp
  · rw [if_neg t]
    rw [decide_eq_false t] at way
    revert way
    generalize decide ((edgesM P).countP (fun e => crossB (outP k) (midP p q) e.1 e.2) % 2 = 1) = n
    cases c <;> cases L <;> cases n <;> simp
end Go.Proofs.Ytnkcbephceollab
namespace Go.Proofs.Ytnkcbephceollab
set_option linter.unusedVariables false
set_option linter.unusedSimpArgs false

/-- In least terms. -/
def Canon (p : Pt) : Prop := 0 < p.d ∧ gcdM (gcdM p.x p.y) p.d = 1
/-- A good point in least terms. -/
def Nice (p : Pt) : Prop := goodB p = true ∧ Canon p
theorem Nice.d {p : Pt} (h : Nice p) : 0 < p.d := h.2.1
theorem nice_gr {p : Pt} (h : Gr p) : Nice p := by
  have h1 := h.x; have h2 := h.y; have h3 := h.d
  unfold In at h1 h2
  refine ⟨by unfold goodB; rw [h3]; exact decide_eq_true (by omega), by omega, ?_⟩
  unfold gcdM; rw [h3]; simp
theorem gcd_dv {k x y d : Int} (h1 : k ∣ x) (h2 : k ∣ y) (h3 : k ∣ d) : k ∣ gcdM (gcdM x y) d := Int.dvd_coe_gcd (Int.dvd_coe_gcd h1 h2) h3
theorem canon_least {p : Pt} (hd : 0 < p.d) : Canon (leastM p) := by
  refine ⟨least_d hd, ?_⟩
  have hg : gcdM (gcdM p.x p.y) p.d ≠ 0 := by
    unfold gcdM; intro h
    have h' : Int.gcd (↑(p.x.gcd p.y)) p.d = 0 := by omega
    have := (Int.gcd_eq_zero_iff.1 h').2
    omega
  have h0 : 0 ≤ gcdM (gcdM p.x p.y) p.d := by unfold gcdM; omega
  have hD : gcdM (gcdM p.x p.y) p.d ∣ p.d := Int.gcd_dvd_right ..
  have hG : gcdM (gcdM p.x p.y) p.d ∣ gcdM p.x p.y := Int.gcd_dvd_left ..
  have hX : gcdM (gcdM p.x p.y) p.d ∣ p.x := Int.dvd_trans hG (Int.gcd_dvd_left ..)
  have hY : gcdM (gcdM p.x p.y) p.d ∣ p.y := Int.dvd_trans hG (Int.gcd_dvd_right ..)
  have el : leastM p = ⟨p.x.tdiv (gcdM (gcdM p.x p.y) p.d), p.y.tdiv (gcdM (gcdM p.x p.y) p.d), p.d.tdiv (gcdM (gcdM p.x p.y) p.d)⟩ := if_neg hg
  rw [el]
  have ex := Int.tdiv_mul_cancel hX
  have ey := Int.tdiv_mul_cancel hY
  have ed := Int.tdiv_mul_cancel hD
  generalize hGG : gcdM (gcdM p.x p.y) p.d = G at *
  generalize p.x.tdiv G = x at *
  generalize p.y.tdiv G = y at *
  generalize p.d.tdiv G = d at *
  simp only
  have k1 : gcdM (gcdM x y) d ∣ d := Int.gcd_dvd_right ..
  have k2 : gcdM (gcdM x y) d ∣ gcdM x y := Int.gcd_dvd_left ..
  have k3 : gcdM (gcdM x y) d ∣ x := Int.dvd_trans k2 (Int.gcd_dvd_left ..)
  have k4 : gcdM (gcdM x y) d ∣ y := Int.dvd_trans k2 (Int.gcd_dvd_right ..)
  have kk : gcdM (gcdM x y) d * G ∣ G := by
    have := gcd_dv (k := gcdM (gcdM x y) d * G) (x := p.x) (y := p.y) (d := p.d) (by rw [← ex]; exact Int.mul_dvd_mul k3 (Int.dvd_refl _)) (by rw [← ey]; exact Int.mul_dvd_mul k4 (Int.dvd_refl _)) (by rw [← ed]; exact Int.mul_dvd_mul k1 (Int.dvd_refl _))
    rw [hGG] at this
    exact this
  have k0 : 0 ≤ gcdM (gcdM x y) d := by unfold gcdM; omega
  obtain ⟨c, hc⟩ := kk
  have : gcdM (gcdM x y) d * c = 1 := by
    have e : G * (gcdM (gcdM x y) d * c) = G * 1 := by rw [Int.mul_one]; rw [show G * (gcdM (gcdM x y) d * c) = gcdM (gcdM x y) d * G * c by grind]; exact hc.symm
    exact Int.eq_of_mul_eq_mul_left hg e
  exact Int.eq_one_of_dvd_one k0 ⟨c, this.symm⟩
theorem dvd_den {p q : Pt} (hp : Canon p) (hq : 0 < q.d) (hx : p.x * q.d = q.x * p.d) (hy : p.y * q.d = q.y * p.d) : p.d ∣ q.d := by
  have h1 : p.d ∣ q.d * p.x := ⟨q.x, by rw [Int.mul_comm q.d, hx, Int.mul_comm]⟩
  have h2 : p.d ∣ q.d * p.y := ⟨q.y, by rw [Int.mul_comm q.d, hy, Int.mul_comm]⟩
  have h3 : p.d ∣ q.d * p.d := ⟨q.d, by rw [Int.mul_comm]⟩
  have g1 : p.d ∣ (Int.gcd (q.d * p.x) (q.d * p.y) : Int) := Int.dvd_coe_gcd h1 h2
  rw [Int.gcd_mul_left] at g1
  have e1 : ((q.d.natAbs * p.x.gcd p.y : Nat) : Int) = q.d * gcdM p.x p.y := by unfold gcdM; rw [Int.natCast_mul]; congr 1; omega
  rw [e1] at g1
  have g2 : p.d ∣ (Int.gcd (q.d * gcdM p.x p.y) (q.d * p.d) : Int) := Int.dvd_coe_gcd g1 h3
  rw [Int.gcd_mul_left] at g2
  have e2 : ((q.d.natAbs * (gcdM p.x p.y).gcd p.d : Nat) : Int) = q.d * gcdM (gcdM p.x p.y) p.d := by
    rw [Int.natCast_mul]
    have : ((q.d.natAbs : Nat) : Int) = q.d := by omega
    rw [this]; rfl
  rw [e2, hp.2, Int.mul_one] at g2
  exact g2
/-- In least terms one place is one point. -/
theorem canon_eq {p q : Pt} (hp : Canon p) (hq : Canon q) (h1 : befB p q = false) (h2 : befB q p = false) : p = q := by
  rw [bef_false] at h1 h2
  have hx : p.x * q.d = q.x * p.d := by omega
  have hy : p.y * q.d = q.y * p.d := by omega
  have d1 := dvd_den hp hq.1 hx hy
  have d2 := dvd_den hq hp.1 hx.symm hy.symm
  have ed : p.d = q.d := Int.le_antisymm (Int.le_of_dvd hq.1 d1) (Int.le_of_dvd hp.1 d2)
  have pd := hp.1
  refine Pt.ext' ?_ ?_ ed
  · rw [ed] at hx; exact Int.eq_of_mul_eq_mul_right (by omega) hx
  · rw [ed] at hy; exact Int.eq_of_mul_eq_mul_right (by omega) hy

theorem mix64 {a b W S : Int} (ha : In a 64) (hb : In b 64) (h0 : 0 ≤ S) (h1 : S ≤ W) : In (a * W + (b - a) * S) (64 * W) := by
  rw [mixEq]
  have e1 := ha.mul (In.mk (a := W - S) (A := W - S) (by omega) (by omega))
  have e2 := hb.mul (In.mk (a := S) (A := S) (by omega) (by omega))
  have := e1.add e2
  unfold In at *; omega
theorem nice_least {p : Pt} (hd : 0 < p.d) (hg : Gd p) (hx : In p.x (64 * p.d)) (hy : In p.y (64 * p.d)) : Nice (leastM p) := by
  refine ⟨?_, canon_least hd⟩
  obtain ⟨g, g0, e⟩ := least_mul hd
  have ex : p.x = (leastM p).x * g := congrArg Pt.x e
  have ey : p.y = (leastM p).y * g := congrArg Pt.y e
  have ed : p.d = (leastM p).d * g := congrArg Pt.d e
  have hgd := least_gd hd hg
  have ld := least_d hd
  have dd := hgd.d
  have key : ∀ z w : Int, z = w * g → In z (64 * p.d) → -(64 * (leastM p).d) ≤ w ∧ w ≤ 64 * (leastM p).d := fun z w hz h => by
    unfold In at h
    have e1 : 64 * p.d = (64 * (leastM p).d) * g := by rw [ed]; grind
    rw [e1, hz] at h
    constructor
    · refine Int.le_of_mul_le_mul_right ?_ g0
      have : -(64 * (leastM p).d) * g = -(64 * (leastM p).d * g) := by grind
      omega
    · exact Int.le_of_mul_le_mul_right h.2 g0
  have kx := key _ _ ex hx
  have ky := key _ _ ey hy
  unfold In at dd
  unfold goodB
  exact decide_eq_true (by omega)
/-- What two edges have in common is told by good points in least terms. -/
theorem meet_nice {a b c d : Pt} (ha : Gr a) (hb : Gr b) (hc : Gr c) (hd : Gr d) : (meetM a b c d).k = 0 ∨ ((meetM a b c d).k = 1 ∧ Nice (meetM a b c d).p) ∨ ((meetM a b c d).k = 2 ∧ Nice (meetM a b c d).p ∧ Nice (meetM a b c d).q) := by
  rw [meet_eq ha.d hb.d hc.d hd.d]
  by_cases hw : detM a b d - detM a b c = 0
  · rw [if_pos hw]
    by_cases m : detM a b c = 0
    · rw [if_neg (show ¬ (detM a b c ≠ 0) by omega)]
      have gf := nice_gr (lastM_gr (firstM_gr ha hb) (firstM_gr hc hd))
      have gt := nice_gr (firstM_gr (lastM_gr ha hb) (lastM_gr hc hd))
      unfold lineM
      simp only
      split
      · exact .inl rfl
      · split
        · exact .inr (.inl ⟨rfl, gf⟩)
        · exact .inr (.inr ⟨rfl, gf, gt⟩)
    · rw [if_pos m]; exact .inl rfl
  · rw [if_neg hw]
    by_cases g : goodM (detM a b d - detM a b c) (detM a b c) (detM a b d) (detM c d a) (detM c d b)
    · rw [across_good ha.d hb.d hc.d hd.d hw g]
      refine .inr (.inl ⟨rfl, ?_⟩)
      obtain ⟨P, hP, h1, h2, h3, h4⟩ := crossPt ha hb hc hd hw g
      have hb' : In P.x (64 * P.d) ∧ In P.y (64 * P.d) := by
        rw [← hP]
        unfold norm
        unfold goodM at g
        have e := pq_mn ha.d hb.d hc.d hd.d
        by_cases h : detM a b d - detM a b c < 0
        · rw [if_pos h]
          simp only
          have ex : -(a.x * (detM a b d - detM a b c) + (b.x - a.x) * detM c d a) = a.x * (-(detM a b d - detM a b c)) + (b.x - a.x) * (-detM c d a) := by grind
          have ey : -(a.y * (detM a b d - detM a b c) + (b.y - a.y) * detM c d a) = a.y * (-(detM a b d - detM a b c)) + (b.y - a.y) * (-detM c d a) := by grind
          rw [ex, ey]
          exact ⟨mix64 ha.x hb.x (by omega) (by omega), mix64 ha.y hb.y (by omega) (by omega)⟩
        · rw [if_neg h]
          exact ⟨mix64 ha.x hb.x (by omega) (by omega), mix64 ha.y hb.y (by omega) (by omega)⟩
      rw [hP]
      exact nice_least h2 h1 hb'.1 hb'.2
    · rw [across_bad ha.d hb.d hc.d hd.d hw g]; exact .inl rfl
end Go.Proofs.Ytnkcbephceollab
