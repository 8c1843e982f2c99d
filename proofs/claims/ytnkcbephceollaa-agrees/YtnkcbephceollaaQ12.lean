import Derived.Test.YtnkcbephceollaaQ4
namespace Go.Proofs.Ytnkcbephceollaa
set_option linter.unusedVariables false
set_option linter.unusedSimpArgs false

/-- Sheared upward: the order of places becomes that of heights, if by enough. -/
def shP (K : Int) (v : Pt) : Pt := ⟨v.x, K * v.x + v.y, v.d⟩
theorem sh_zero (K : Int) : shP K zP = zP := by simp [shP, zP]
theorem sh_det (K : Int) (a b c : Pt) : detM (shP K a) (shP K b) (shP K c) = detM a b c := by unfold detM shP; grind
theorem sh_xv (K : Int) (q v : Pt) : xv (shP K q) (shP K v) = xv q v := rfl
theorem sh_yv (K : Int) (q v : Pt) : yv (shP K q) (shP K v) = K * xv q v + yv q v := by unfold yv xv shP; grind
theorem sh_bef (K : Int) (p q : Pt) : befB (shP K p) (shP K q) = befB p q := by
  unfold befB
  have e1 : (shP K p).x * (shP K q).d = p.x * q.d := rfl
  have e2 : (shP K q).x * (shP K p).d = q.x * p.d := rfl
  have e3 : (shP K p).y * (shP K q).d = K * (p.x * q.d) + p.y * q.d := by unfold shP; grind
  have e4 : (shP K q).y * (shP K p).d = K * (q.x * p.d) + q.y * p.d := by unfold shP; grind
  rw [e1, e2, e3, e4]
  split
  · rfl
  · rename_i h
    have h' : p.x * q.d = q.x * p.d := by simpa using h
    rw [h']
    congr 1
    exact propext (by omega)
theorem sh_on (K : Int) (p a b : Pt) : onB (shP K p) (shP K a) (shP K b) = onB p a b := by
  unfold onB withB loM hiM
  rw [sh_det, sh_bef]
  by_cases h : befB b a = true
  · simp only [h, if_true, sh_bef]
  · simp only [h, if_false, sh_bef, Bool.false_eq_true]
theorem sh_cross (K : Int) (o q a b : Pt) : crossB (shP K o) (shP K q) (shP K a) (shP K b) = crossB o q a b := by
  unfold crossB; simp only [sh_det]
theorem sh_up {K : Int} {q v : Pt} (h1 : -K < yv q v) (h2 : yv q v < K) : upB false (shP K q) (shP K v) = befB q v := by
  have e : upB false (shP K q) (shP K v) = decide (0 < K * xv q v + yv q v) := by unfold upB; rw [sh_yv]; simp
  rw [e]
  have b := bef_iff q v
  have k : befB q v = true ↔ (0 < xv q v ∨ (xv q v = 0 ∧ 0 < yv q v)) := by rw [b]; unfold xv yv; omega
  have hK : 0 < K := by omega
  have f : 0 < K * xv q v + yv q v ↔ (0 < xv q v ∨ (xv q v = 0 ∧ 0 < yv q v)) := by
    rcases Int.lt_trichotomy (xv q v) 0 with h | h | h
    · have : K * (xv q v + 1) ≤ 0 := mul_gl (Int.le_of_lt hK) (by omega)
      have e2 : K * (xv q v + 1) = K * xv q v + K := by grind
      constructor
      · intro x; omega
      · intro x; omega
    · rw [h, Int.mul_zero]; omega
    · have : 0 ≤ K * (xv q v - 1) := mul_gg (Int.le_of_lt hK) (by omega)
      have e2 : K * (xv q v - 1) = K * xv q v - K := by grind
      constructor
      · intro x; exact .inl h
      · intro x; omega
  cases hb : befB q v
  · rw [hb] at k
    simp
    have : ¬ (0 < K * xv q v + yv q v) := fun x => by have := k.2 (f.1 x); cases this
    omega
  · simp; exact f.2 (k.1 hb)

def shL (K : Int) (P : List (List Pt)) : List (List Pt) := P.map (List.map (shP K))
theorem sh_ring (K : Int) (r : List Pt) : ringEdges (r.map (shP K)) = (ringEdges r).map (fun e => (shP K e.1, shP K e.2)) := by
  have g : ∀ j, (r.map (shP K)).getD j zP = shP K (r.getD j zP) := fun j => by
    rw [List.getD_eq_getElem?_getD, List.getD_eq_getElem?_getD, List.getElem?_map]
    cases r[j]? with
    | none => simp [sh_zero]
    | some v => rfl
  unfold ringEdges edgeAt
  rw [List.map_map, List.length_map]
  refine List.map_congr_left fun j _ => ?_
  simp only [g, Function.comp]
theorem sh_edges (K : Int) (P : List (List Pt)) : edgesM (shL K P) = (edgesM P).map (fun e => (shP K e.1, shP K e.2)) := by
  induction P with
  | nil => rfl
  | cons r P ih =>
    have e1 : edgesM (r :: P) = ringEdges r ++ edgesM P := by simp [edgesM]
    have e2 : edgesM (shL K (r :: P)) = ringEdges (r.map (shP K)) ++ edgesM (shL K P) := by simp [edgesM, shL]
    rw [e1, e2, ih, sh_ring, List.map_append]
theorem parB_map (f : Pt → Pt → Bool) (g : Pt → Pt) : ∀ l, parB f (l.map (fun e => (g e.1, g e.2))) = parB (fun a b => f (g a) (g b)) l
  | [] => rfl
  | e :: l => by simp only [List.map_cons, parB, parB_map f g l]

/-- Does the edge cross the way up from q, which leans to the left by less than any number? -/
def overB (q a b : Pt) : Bool := (!befB q a && befB q b && decide (detM a b q < 0)) || (befB q a && !befB q b && decide (0 < detM a b q))
theorem enough (q : Pt) : ∀ l : List Pt, ∃ K : Int, ∀ v ∈ l, -K < yv q v ∧ yv q v < K
  | [] => ⟨0, fun v hv => by cases hv⟩
  | v :: l => by
    obtain ⟨K, h⟩ := enough q l
    refine ⟨(if K < 0 then 0 else K) + (yv q v).natAbs + 1, fun u hu => ?_⟩
    rcases List.mem_cons.1 hu with rfl | hu
    · split <;> omega
    · have := h u hu; split <;> omega
theorem sh_left {K : Int} {q a b : Pt} (ha : -K < yv q a ∧ yv q a < K) (hb : -K < yv q b ∧ yv q b < K) : leftB false (shP K q) (shP K a) (shP K b) = overB q a b := by
  unfold leftB overB
  rw [sh_up ha.1 ha.2, sh_up hb.1 hb.2, sh_det]
theorem mem_sh {K : Int} {P : List (List Pt)} {v : Pt} (h : v ∈ (shL K P).flatten) : ∃ u ∈ P.flatten, v = shP K u := by
  obtain ⟨r, hr, hv⟩ := List.mem_flatten.1 h
  unfold shL at hr
  obtain ⟨r', hr', rfl⟩ := List.mem_map.1 hr
  obtain ⟨u, hu, rfl⟩ := List.mem_map.1 hv
  exact ⟨u, List.mem_flatten.2 ⟨r', hr', hu⟩, rfl⟩
/-- How often the way from far to the left crosses the edges, and how often the one up: odd alike. -/
theorem parity_up {o q : Pt} {P : List (List Pt)} (ho : 0 < o.d) (hq : 0 < q.d) (hd : ∀ v ∈ P.flatten, 0 < v.d) (hl : ∀ v ∈ P.flatten, 0 < xv o v) (hA : ∀ v ∈ P.flatten, detM o q v ≠ 0) (hon : ∀ e ∈ edgesM P, onB q e.1 e.2 = false) :
    parB (crossB o q) (edgesM P) = parB (overB q) (edgesM P) := by
  obtain ⟨K, hK⟩ := enough q P.flatten
  have on' : ∀ e ∈ edgesM (shL K P), onB (shP K q) e.1 e.2 = false := fun e he => by
    rw [sh_edges] at he
    obtain ⟨e', he', rfl⟩ := List.mem_map.1 he
    rw [sh_on]; exact hon e' he'
  have hd' : ∀ v ∈ (shL K P).flatten, 0 < v.d := fun v hv => by
    obtain ⟨u, hu, rfl⟩ := mem_sh hv
    exact hd u hu
  have p := parity false (o := shP K o) (q := shP K q) (P := shL K P) ho hq hd'
    (fun v hv => by obtain ⟨u, hu, rfl⟩ := mem_sh hv; rw [sh_xv]; exact hl u hu)
    (fun v hv => by obtain ⟨u, hu, rfl⟩ := mem_sh hv; rw [sh_det]; exact hA u hu) on'
  have p2 := left_right false (q := shP K q) (P := shL K P) hq hd' on'
  rw [← p2, sh_edges, parB_map, parB_map] at p
  have c1 : parB (fun a b => crossB (shP K o) (shP K q) (shP K a) (shP K b)) (edgesM P) = parB (crossB o q) (edgesM P) := parB_congr fun e _ => sh_cross ..
  have c2 : parB (fun a b => leftB false (shP K q) (shP K a) (shP K b)) (edgesM P) = parB (overB q) (edgesM P) := parB_congr fun e he => by
    obtain ⟨m1, m2⟩ := edge_ends he
    exact sh_left (hK _ m1) (hK _ m2)
  rw [c1, c2] at p
  exact p
end Go.Proofs.Ytnkcbephceollaa
namespace Go.Proofs.Ytnkcbephceollaa
set_option linter.unusedVariables false
set_option linter.unusedSimpArgs false

def neg2 (s t : Int) : Prop := s < 0 ∨ (s = 0 ∧ t < 0)
def pos2 (s t : Int) : Prop := 0 < s ∨ (s = 0 ∧ 0 < t)
instance (s t : Int) : Decidable (neg2 s t) := by unfold neg2; infer_instance
instance (s t : Int) : Decidable (pos2 s t) := by unfold pos2; infer_instance
/-- Not on either side. -/
def NoX (A B al be : Int) : Prop := ¬ (((A < 0 ∧ 0 < B) ∨ (0 < A ∧ B < 0)) ∧ ((al < 0 ∧ 0 < be) ∨ (0 < al ∧ be < 0)))
section
variable {Y A B al be mu ap bp am bm aq bq D P : Int} (hY : 0 < Y) (hal : Y * al = B * ap - A * bp) (hbe : Y * be = B * aq - A * bq) (hmu : Y * mu = B * am - A * bm) (hmix : mu = D * al + P * be) (hD : 0 < D) (hP : 0 < P) (hx : NoX A B al be)
include hY
theorem sg_neg {z r : Int} (h : Y * z = r) : (r < 0 → z < 0) ∧ (0 < r → 0 < z) ∧ (r = 0 → z = 0) ∧ (r ≤ 0 → z ≤ 0) ∧ (0 ≤ r → 0 ≤ z) := by
  rcases Int.lt_trichotomy z 0 with c | c | c
  · have := mul_pn hY c; omega
  · subst c; rw [Int.mul_zero] at h; omega
  · have := mul_pp hY c; omega
omit hY in
include hmix hD hP in
theorem mix_sg : (al < 0 → be ≤ 0 → mu < 0) ∧ (al = 0 → be < 0 → mu < 0) ∧ (0 < al → 0 ≤ be → 0 < mu) ∧ (al = 0 → 0 < be → 0 < mu) ∧ (al = 0 → be = 0 → mu = 0) := by
  refine ⟨fun h1 h2 => ?_, fun h1 h2 => ?_, fun h1 h2 => ?_, fun h1 h2 => ?_, fun h1 h2 => ?_⟩
  · have := mul_pn hD h1; have := mul_gl (Int.le_of_lt hP) h2; omega
  · have := mul_pn hP h2; rw [h1, Int.mul_zero] at hmix; omega
  · have := mul_pp hD h1; have := mul_gg (Int.le_of_lt hP) h2; omega
  · have := mul_pp hP h2; rw [h1, Int.mul_zero] at hmix; omega
  · rw [h1, h2, Int.mul_zero, Int.mul_zero] at hmix; omega
include hal hbe hmu hmix hD hP hx
/-- From below p to above m. -/
theorem case02 (h1 : ap ≤ 0) (h2 : am < 0) (h3 : aq < 0) (h4 : 0 < bp) (h5 : 0 < bm) : (neg2 al be ↔ mu < 0) ∧ (pos2 al be ↔ 0 < mu) := by
  have sa := sg_neg hY hal
  have sb := sg_neg hY hbe
  have sm := sg_neg hY hmu
  have mx := mix_sg hmix hD hP
  unfold NoX at hx
  unfold neg2 pos2
  rcases Int.lt_trichotomy al 0 with c | c | c
  · rcases Int.lt_or_le 0 be with d | d
    · -- on either side
      have k : (0 ≤ A ∧ 0 ≤ B) ∨ (A ≤ 0 ∧ B ≤ 0) := by omega
      rcases k with ⟨k1, k2⟩ | ⟨k1, k2⟩
      · have e1 := mul_gl k2 (Int.le_of_lt h3)
        have e2 := mul_gl k2 (Int.le_of_lt h2)
        have e3 := mul_gg k1 (Int.le_of_lt h5)
        have hA : 0 < A := by
          rcases Int.lt_or_eq_of_le k1 with z | z
          · exact z
          · subst z; simp only [Int.zero_mul] at hbe; omega
        have e4 := mul_pp hA h5
        omega
      · have e1 := mul_ll k2 h1
        have e2 := mul_lg k1 (Int.le_of_lt h4)
        omega
    · have := mx.1 c d; omega
  · rcases Int.lt_trichotomy be 0 with d | d | d
    · have := mx.2.1 c d; omega
    · have := mx.2.2.2.2 c d; omega
    · have := mx.2.2.2.1 c d; omega
  · rcases Int.lt_or_le be 0 with d | d
    · have k : (0 ≤ A ∧ 0 ≤ B) ∨ (A ≤ 0 ∧ B ≤ 0) := by omega
      rcases k with ⟨k1, k2⟩ | ⟨k1, k2⟩
      · have e1 := mul_gl k2 h1
        have e2 := mul_gg k1 (Int.le_of_lt h4)
        omega
      · have e1 := mul_ll k2 (Int.le_of_lt h3)
        have e2 := mul_ll k2 (Int.le_of_lt h2)
        have hA : A < 0 := by
          rcases Int.lt_or_eq_of_le k1 with z | z
          · exact z
          · subst z; simp only [Int.zero_mul] at hbe; omega
        have e4 := mul_np hA h5
        omega
    · have := mx.2.2.1 c d; omega
omit hmu hmix hD hP in
/-- From below p into the strip. -/
theorem case01 (h1 : ap ≤ 0) (h3 : aq < 0) (h4 : 0 < bp) (h5 : bq < 0) (hB : B ≠ 0) : (neg2 al be ↔ 0 < B) ∧ (pos2 al be ↔ B < 0) := by
  have sa := sg_neg hY hal
  have sb := sg_neg hY hbe
  unfold NoX at hx
  unfold neg2 pos2
  rcases Int.lt_or_gt_of_ne hB with b | b
  · rcases Int.lt_or_le 0 A with a | a
    · have e1 := mul_nn b h3
      have e2 := mul_pn a h5
      omega
    · have e1 := mul_ll (Int.le_of_lt b) h1
      have e2 := mul_lg a (Int.le_of_lt h4)
      rcases Int.lt_or_eq_of_le h1 with z | z
      · have e3 := mul_nn b z
        omega
      · rcases Int.lt_or_eq_of_le a with y | y
        · have e4 := mul_np y h4
          omega
        · subst z; subst y
          simp only [Int.zero_mul, Int.mul_zero] at hal hbe
          have e5 := mul_nn b h3
          omega
  · rcases Int.lt_or_le A 0 with a | a
    · have e1 := mul_pn b h3
      have e2 := mul_nn a h5
      omega
    · have e1 := mul_gl (Int.le_of_lt b) h1
      have e2 := mul_gg a (Int.le_of_lt h4)
      rcases Int.lt_or_eq_of_le h1 with z | z
      · have e3 := mul_pn b z
        omega
      · rcases Int.lt_or_eq_of_le a with y | y
        · have e4 := mul_pp y h4
          omega
        · subst z; subst y
          simp only [Int.zero_mul, Int.mul_zero] at hal hbe
          have e5 := mul_pn b h3
          omega
omit hbe in
/-- Out of the strip to above m. -/
theorem case12 (h1 : 0 < ap) (h2 : am ≤ 0) (h4 : 0 < bp) (h5 : 0 < bm) (hA : A ≠ 0) : (mu < 0 ↔ 0 < A) ∧ (0 < mu ↔ A < 0) := by
  have sa := sg_neg hY hal
  have sm := sg_neg hY hmu
  have mx := mix_sg hmix hD hP
  unfold NoX at hx
  rcases Int.lt_or_gt_of_ne hA with a | a
  · rcases Int.lt_or_le 0 B with b | b
    · have e1 := mul_pp b h1
      have e2 := mul_np a h4
      have : 0 < al := by omega
      have : 0 ≤ be := by omega
      have := mx.2.2.1 (by omega) this
      omega
    · have e1 := mul_ll b h2
      have e2 := mul_np a h5
      omega
  · rcases Int.lt_or_le B 0 with b | b
    · have e1 := mul_np b h1
      have e2 := mul_pp a h4
      have : al < 0 := by omega
      have : be ≤ 0 := by omega
      have := mx.1 (by omega) this
      omega
    · have e1 := mul_gl b h2
      have e2 := mul_pp a h5
      omega
omit hmu hmix hD hP in
/-- Within the strip. -/
theorem case11 (h1 : 0 < ap) (h3 : aq < 0) (h4 : 0 < bp) (h5 : bq < 0) (hA : A ≠ 0) (hB : B ≠ 0) : (0 < A ↔ 0 < B) := by
  have sa := sg_neg hY hal
  have sb := sg_neg hY hbe
  unfold NoX at hx
  rcases Int.lt_or_gt_of_ne hA with a | a <;> rcases Int.lt_or_gt_of_ne hB with b | b
  · omega
  · have e1 := mul_pp b h1
    have e2 := mul_np a h4
    have e3 := mul_pn b h3
    have e4 := mul_nn a h5
    omega
  · have e1 := mul_np b h1
    have e2 := mul_pp a h4
    have e3 := mul_nn b h3
    have e4 := mul_pn a h5
    omega
  · omega
end
end Go.Proofs.Ytnkcbephceollaa
namespace Go.Proofs.Ytnkcbephceollaa
set_option linter.unusedVariables false
set_option linter.unusedSimpArgs false

/-- Half way. -/
def midP (p q : Pt) : Pt := ⟨p.x * q.d + q.x * p.d, p.y * q.d + q.y * p.d, 2 * p.d * q.d⟩
theorem mid_det (a b p q : Pt) : detM a b (midP p q) = q.d * detM a b p + p.d * detM a b q := by unfold detM midP; grind
theorem mid_yv (p q v : Pt) : yv (midP p q) v = q.d * yv p v + p.d * yv q v := by unfold yv midP; grind
theorem mid_xv (p q v : Pt) : xv (midP p q) v = q.d * xv p v + p.d * xv q v := by unfold xv midP; grind
theorem sh_mid (K : Int) (p q : Pt) : shP K (midP p q) = midP (shP K p) (shP K q) := by
  unfold shP midP; simp only [Pt.mk.injEq, true_and, and_true]; grind
theorem neg2_neg (s t : Int) : neg2 (-s) (-t) ↔ pos2 s t := by unfold neg2 pos2; omega
theorem pos2_neg (s t : Int) : pos2 (-s) (-t) ↔ neg2 s t := by unfold neg2 pos2; omega

/-- Does the edge lie over the piece from p to q, close to p? -/
def ovL (p q a b : Pt) : Bool := (!befB p a && befB p b && decide (neg2 (detM a b p) (detM a b q))) || (befB p a && !befB p b && decide (pos2 (detM a b p) (detM a b q)))
/-- To the left of the first half of the piece. -/
def gB (p q v : Pt) : Bool := befB p v && !befB (midP p q) v && decide (0 < detM p q v)

theorem bnd7 (x1 x2 x3 x4 x5 x6 x7 : Int) : ∃ K : Int, (-K < x1 ∧ x1 < K) ∧ (-K < x2 ∧ x2 < K) ∧ (-K < x3 ∧ x3 < K) ∧ (-K < x4 ∧ x4 < K) ∧ (-K < x5 ∧ x5 < K) ∧ (-K < x6 ∧ x6 < K) ∧ (-K < x7 ∧ x7 < K) :=
  ⟨x1.natAbs + x2.natAbs + x3.natAbs + x4.natAbs + x5.natAbs + x6.natAbs + x7.natAbs + 1, by omega⟩

theorem strip_edge {p q a b : Pt} (hp : 0 < p.d) (hq : 0 < q.d) (ha : 0 < a.d) (hb : 0 < b.d) (hpq : befB p q = true)
    (fa : befB p a = true → befB a q = true → detM p q a ≠ 0) (fb : befB p b = true → befB b q = true → detM p q b ≠ 0) (hx : crossB p q a b = false) :
    (ovL p q a b ^^ overB (midP p q) a b) = (gB p q a ^^ gB p q b) := by
  obtain ⟨K, k1, k2, k3, k4, k5, k6, k7⟩ := bnd7 (yv p a) (yv p b) (yv p q) (yv q a) (yv q b) (yv (midP p q) a) (yv (midP p q) b)
  have sw : ∀ u v, yv u v = -yv v u := fun u v => by unfold yv; grind
  have u1 := sh_up k1.1 k1.2
  have u2 := sh_up k2.1 k2.2
  have u3 := sh_up k3.1 k3.2
  have u4 : upB false (shP K a) (shP K q) = befB a q := sh_up (by have := sw a q; omega) (by have := sw a q; omega)
  have u5 : upB false (shP K b) (shP K q) = befB b q := sh_up (by have := sw b q; omega) (by have := sw b q; omega)
  have u6 := sh_up k6.1 k6.2
  have u7 := sh_up k7.1 k7.2
  have upd : ∀ u v, upB false u v = decide (0 < yv u v) := fun u v => by unfold upB; simp
  rw [upd] at u1 u2 u3 u4 u5 u6 u7
  have ep : (shP K p).d = p.d := rfl
  have eq : (shP K q).d = q.d := rfl
  have ea : (shP K a).d = a.d := rfl
  have eb : (shP K b).d = b.d := rfl
  have I1 := id1 (shP K q) (shP K p) (shP K a) (shP K b)
  have I2 := id2 (shP K q) (shP K p) (shP K a) (shP K b)
  rw [sh_det, sh_det, sh_det, det_sw p q a, det_sw p q b] at I1 I2
  have J1 : (shP K p).d * yv (shP K q) (shP K a) = (shP K q).d * yv (shP K p) (shP K a) - (shP K a).d * yv (shP K p) (shP K q) := by unfold yv; grind
  have J2 : (shP K p).d * yv (shP K q) (shP K b) = (shP K q).d * yv (shP K p) (shP K b) - (shP K b).d * yv (shP K p) (shP K q) := by unfold yv; grind
  have M1 := mid_yv (shP K p) (shP K q) (shP K a)
  have M2 := mid_yv (shP K p) (shP K q) (shP K b)
  rw [← sh_mid] at M1 M2
  have sq1 := sw (shP K a) (shP K q)
  have sq2 := sw (shP K b) (shP K q)
  rw [sq1] at u4
  rw [sq2] at u5
  have mix := mid_det a b p q
  unfold ovL gB overB
  have hxx : NoX (detM p q a) (detM p q b) (detM a b p) (detM a b q) := by
    unfold NoX
    intro h
    have : crossB p q a b = true := by
      unfold crossB apartB
      simp only [Bool.and_eq_true, Bool.or_eq_true, decide_eq_true_eq]
      omega
    rw [hx] at this; cases this
  rw [ep, eq, ea] at J1
  rw [ep, eq, eb] at J2
  rw [ep, eq] at M1 M2
  have hY : 0 < yv (shP K p) (shP K q) := by rw [hpq] at u3; exact of_decide_eq_true u3
  rw [← u1] at fa ⊢
  rw [← u2] at fb ⊢
  rw [← u4] at fa
  rw [← u5] at fb
  rw [← u6, ← u7]
  generalize detM p q a = A at *
  generalize detM p q b = B at *
  generalize detM a b p = al at *
  generalize detM a b q = be at *
  generalize detM a b (midP p q) = mu at *
  generalize yv (shP K p) (shP K q) = Y at *
  generalize yv (shP K p) (shP K a) = ap at *
  generalize yv (shP K p) (shP K b) = bp at *
  generalize yv (shP K q) (shP K a) = aq at *
  generalize yv (shP K q) (shP K b) = bq at *
  generalize yv (shP K (midP p q)) (shP K a) = am at *
  generalize yv (shP K (midP p q)) (shP K b) = bm at *
  simp only [decide_eq_true_eq] at fa fb
  clear u1 u2 u3 u4 u5 u6 u7 sq1 sq2 k1 k2 k3 k4 k5 k6 k7 upd sw ep eq ea eb hx hpq
  have hal : Y * al = B * ap - A * bp := by rw [I1]; grind
  have hbe : Y * be = B * aq - A * bq := by rw [I2]; grind
  have hmu : Y * mu = B * am - A * bm := by
    rw [mix, M1, M2]
    have e : Y * (q.d * al + p.d * be) = q.d * (Y * al) + p.d * (Y * be) := by grind
    rw [e, hal, hbe]; grind
  clear I1 I2
  -- the order of heights
  have oa : (ap ≤ 0 → am < 0) ∧ (am ≤ 0 → aq < 0) := by
    have t := mul_pp ha hY
    have M1' : am = 2 * (q.d * ap) - a.d * Y := by rw [M1, J1]; omega
    refine ⟨fun h => ?_, fun h => ?_⟩
    · have := mul_gl (Int.le_of_lt hq) h; omega
    · rcases Int.lt_or_le aq 0 with c | c
      · exact c
      · have := mul_gg (Int.le_of_lt hp) c; omega
  have ob : (bp ≤ 0 → bm < 0) ∧ (bm ≤ 0 → bq < 0) := by
    have t := mul_pp hb hY
    have M2' : bm = 2 * (q.d * bp) - b.d * Y := by rw [M2, J2]; omega
    refine ⟨fun h => ?_, fun h => ?_⟩
    · have := mul_gl (Int.le_of_lt hq) h; omega
    · rcases Int.lt_or_le bq 0 with c | c
      · exact c
      · have := mul_gg (Int.le_of_lt hp) c; omega
  clear M1 M2 J1 J2
  have hal' : Y * (-al) = A * bp - B * ap := by rw [Int.mul_neg, hal]; omega
  have hbe' : Y * (-be) = A * bq - B * aq := by rw [Int.mul_neg, hbe]; omega
  have hmu' : Y * (-mu) = A * bm - B * am := by rw [Int.mul_neg, hmu]; omega
  have mix' : -mu = q.d * (-al) + p.d * (-be) := by rw [mix, Int.mul_neg, Int.mul_neg]; omega
  have hxx' : NoX B A (-al) (-be) := by unfold NoX at hxx ⊢; omega
  have T : ∀ {c : Prop} [Decidable c], c → decide c = true := fun h => decide_eq_true h
  have F : ∀ {c : Prop} [Decidable c], ¬ c → decide c = false := fun h => decide_eq_false h
  by_cases a1 : 0 < ap
  · by_cases a2 : 0 < am
    · -- a above m
      by_cases b1 : 0 < bp
      · by_cases b2 : 0 < bm
        · rw [T a1, T a2, T b1, T b2]; simp
        · -- b in the strip, a above
          have c := case12 hY hal' hmu' mix' hq hp hxx' b1 (by omega) a1 a2 (fb b1 (by have := ob.2 (by omega); omega))
          rw [T a1, T a2, T b1, F b2]
          have e : decide (0 < mu) = decide (0 < B) := decide_eq_decide.2 (by have := c.1; omega)
          rw [e]; simp
      · have h2 := ob.1 (by omega)
        have h3 := ob.2 (by omega)
        have c := case02 hY hal' hbe' hmu' mix' hq hp hxx' (by omega) h2 h3 a1 a2
        rw [T a1, T a2, F b1, F (by omega : ¬ 0 < bm)]
        have e : decide (pos2 al be) = decide (0 < mu) := decide_eq_decide.2 (by have := c.1; rw [neg2_neg] at this; rw [this]; omega)
        rw [e]; simp
    · have hq1 := oa.2 (by omega)
      have hA := fa a1 (by omega)
      by_cases b1 : 0 < bp
      · by_cases b2 : 0 < bm
        · have c := case12 hY hal hmu mix hq hp hxx a1 (by omega) b1 b2 hA
          rw [T a1, F a2, T b1, T b2]
          have e : decide (mu < 0) = decide (0 < A) := decide_eq_decide.2 c.1
          rw [e]; simp
        · have hq2 := ob.2 (by omega)
          have hB := fb b1 (by omega)
          have c := case11 hY hal hbe hxx a1 hq1 b1 hq2 hA hB
          rw [T a1, F a2, T b1, F b2]
          have e : decide (0 < A) = decide (0 < B) := decide_eq_decide.2 c
          rw [e]; simp
      · have h2 := ob.1 (by omega)
        have h3 := ob.2 (by omega)
        have c := case01 hY hal' hbe' hxx' (by omega) h3 a1 hq1 hA
        rw [T a1, F a2, F b1, F (by omega : ¬ 0 < bm)]
        have e : decide (pos2 al be) = decide (0 < A) := decide_eq_decide.2 (by have := c.1; rw [neg2_neg] at this; exact this)
        rw [e]; simp
  · have h2 := oa.1 (by omega)
    have h3 := oa.2 (by omega)
    by_cases b1 : 0 < bp
    · by_cases b2 : 0 < bm
      · have c := case02 hY hal hbe hmu mix hq hp hxx (by omega) h2 h3 b1 b2
        rw [F a1, F (by omega : ¬ 0 < am), T b1, T b2]
        have e : decide (neg2 al be) = decide (mu < 0) := decide_eq_decide.2 c.1
        rw [e]; simp
      · have hq2 := ob.2 (by omega)
        have hB := fb b1 (by omega)
        have c := case01 hY hal hbe hxx (by omega) h3 b1 hq2 hB
        rw [F a1, F (by omega : ¬ 0 < am), T b1, F b2]
        have e : decide (neg2 al be) = decide (0 < B) := decide_eq_decide.2 c.1
        rw [e]; simp
    · have g2 := ob.1 (by omega)
      rw [F a1, F (by omega : ¬ 0 < am), F b1, F (by omega : ¬ 0 < bm)]; simp
end Go.Proofs.Ytnkcbephceollaa
