import Derived.Test.YtnkcbephceollaaS10
import Derived.Test.YtnkcbephceollaaQ36
namespace Go.Proofs.Ytnkcbephceollaa
set_option linter.unusedSimpArgs false
set_option linter.unusedVariables false

def hvB (e : Pt × Pt) : Bool := decide (e.1.d = 1) && (decide (e.2.d = 1) && ((decide (e.1.x = e.2.x) || decide (e.1.y = e.2.y)) && !eqB e.1 e.2))
theorem hvB_of {e : Pt × Pt} (h : hvB e = true) : HV e.1 e.2 ∧ e.1 ≠ e.2 := by
  unfold hvB at h
  simp only [Bool.and_eq_true, Bool.or_eq_true, decide_eq_true_eq, Bool.not_eq_true'] at h
  obtain ⟨h1, h2, h3, h4⟩ := h
  refine ⟨⟨h1, h2, h3⟩, fun k => ?_⟩
  rw [k] at h4
  unfold eqB at h4; simp at h4
def eqRs : List Pt → List Pt → Bool
  | [], [] => true
  | p :: l, q :: m => eqB p q && eqRs l m
  | _, _ => false
theorem eqRs_of : ∀ {l m : List Pt}, eqRs l m = true → l = m
  | [], [], _ => rfl
  | [], _ :: _, h => by simp [eqRs] at h
  | _ :: _, [], h => by simp [eqRs] at h
  | p :: l, q :: m, h => by
    rw [eqRs, Bool.and_eq_true] at h
    have e : p = q := by
      have := of_decide_eq_true h.1
      obtain ⟨px, py, pd⟩ := p
      obtain ⟨qx, qy, qd⟩ := q
      obtain ⟨a, b, c⟩ := this
      simp only at a b c
      rw [a, b, c]
    rw [e, eqRs_of h.2]
def eqRR : List (List Pt) → List (List Pt) → Bool
  | [], [] => true
  | p :: l, q :: m => eqRs p q && eqRR l m
  | _, _ => false
theorem eqRR_of : ∀ {l m : List (List Pt)}, eqRR l m = true → l = m
  | [], [], _ => rfl
  | [], _ :: _, h => by simp [eqRR] at h
  | _ :: _, [], h => by simp [eqRR] at h
  | p :: l, q :: m, h => by
    rw [eqRR, Bool.and_eq_true] at h
    rw [eqRs_of h.1, eqRR_of h.2]
/-- Of these polygons comes this, and all of their edges go straight up or across. -/
def okC (op : Int) (A B R : List (List Pt)) : Bool := (edgesM A ++ edgesM B).all hvB && ((bordM op (piecesM A B)).all hvB && (decide ((clipM op A B).2 = 0) && eqRR (clipM op A B).1 R))
theorem okC_of {op : Int} {A B R : List (List Pt)} (h : okC op A B R = true) : EHV (edgesM A ++ edgesM B) ∧ LHV (bordM op (piecesM A B)) ∧ clipM op A B = (R, 0) := by
  unfold okC at h
  simp only [Bool.and_eq_true, decide_eq_true_eq] at h
  obtain ⟨h1, h2, h3, h4⟩ := h
  rw [List.all_eq_true] at h1 h2
  refine ⟨fun e he => hvB_of (h1 e he), fun e he => (hvB_of (h2 e he)).1, ?_⟩
  rw [← eqRR_of h4, ← h3]
def FF (v0 v1 v2 v3 t : Int) : Int := if t ≤ 0 then v0 + t else if t = 1 then v1 else if t = 2 then v2 else v3 + (t - 3)
theorem FF_mono {v0 v1 v2 v3 : Int} (h1 : v0 < v1) (h2 : v1 < v2) (h3 : v2 < v3) : ∀ a b, a < b → FF v0 v1 v2 v3 a < FF v0 v1 v2 v3 b := by
  intro a b h
  unfold FF
  repeat' split
  all_goals omega
abbrev Q4 : Type := Int × Int × Int × Int
def cfgs : List Q4 := [(0, 1, 2, 3), (0, 1, 1, 2), (0, 2, 1, 3), (0, 2, 1, 2), (0, 3, 1, 2), (0, 1, 0, 2), (0, 1, 0, 1), (0, 2, 0, 1), (1, 2, 0, 3), (1, 2, 0, 2), (1, 3, 0, 2), (1, 2, 0, 1), (2, 3, 0, 1)]
def mx (a b : Int) : Int := if a > b then a else b
def mn (a b : Int) : Int := if a < b then a else b
def wantM (a b c d e f g h : Int) : List (List Pt) := if mx a e < mn c g ∧ mx b f < mn d h then [boxM (mx a e) (mx b f) (mn c g) (mn d h)] else []
def okXY (X Y : Q4) : Bool := okC 0 [boxM X.1 Y.1 X.2.1 Y.2.1] [boxM X.2.2.1 Y.2.2.1 X.2.2.2 Y.2.2.2] (wantM X.1 Y.1 X.2.1 Y.2.1 X.2.2.1 Y.2.2.1 X.2.2.2 Y.2.2.2)
theorem all_cfgs : (cfgs.all fun X => cfgs.all fun Y => okXY X Y) = true := by kernel_rfl
theorem rank {a c e g : Int} (h1 : a < c) (h2 : e < g) : ∃ X ∈ cfgs, ∃ f : Int → Int, (∀ u v, u < v → f u < f v) ∧ f X.1 = a ∧ f X.2.1 = c ∧ f X.2.2.1 = e ∧ f X.2.2.2 = g := by
  have go : ∀ (X : Q4) (v0 v1 v2 v3 : Int), X ∈ cfgs → v0 < v1 → v1 < v2 → v2 < v3 → FF v0 v1 v2 v3 X.1 = a → FF v0 v1 v2 v3 X.2.1 = c → FF v0 v1 v2 v3 X.2.2.1 = e → FF v0 v1 v2 v3 X.2.2.2 = g → ∃ X ∈ cfgs, ∃ f : Int → Int, (∀ u v, u < v → f u < f v) ∧ f X.1 = a ∧ f X.2.1 = c ∧ f X.2.2.1 = e ∧ f X.2.2.2 = g :=
    fun X v0 v1 v2 v3 hX k1 k2 k3 z1 z2 z3 z4 => ⟨X, hX, _, FF_mono k1 k2 k3, z1, z2, z3, z4⟩
  have F0 : ∀ v0 v1 v2 v3 : Int, FF v0 v1 v2 v3 0 = v0 := fun v0 v1 v2 v3 => by unfold FF; simp
  have F1 : ∀ v0 v1 v2 v3 : Int, FF v0 v1 v2 v3 1 = v1 := fun v0 v1 v2 v3 => by unfold FF; simp
  have F2 : ∀ v0 v1 v2 v3 : Int, FF v0 v1 v2 v3 2 = v2 := fun v0 v1 v2 v3 => by unfold FF; simp
  have F3 : ∀ v0 v1 v2 v3 : Int, FF v0 v1 v2 v3 3 = v3 := fun v0 v1 v2 v3 => by unfold FF; simp
  rcases Int.lt_trichotomy a e with p | p | p
  · rcases Int.lt_trichotomy c e with q | q | q
    · exact go (0, 1, 2, 3) a c e g (by decide) h1 q h2 (F0 _ _ _ _) (F1 _ _ _ _) (F2 _ _ _ _) (F3 _ _ _ _)
    · exact go (0, 1, 1, 2) a c g (g + 1) (by decide) h1 (by omega) (by omega) (F0 _ _ _ _) (F1 _ _ _ _) ((F1 _ _ _ _).trans q) (F2 _ _ _ _)
    · rcases Int.lt_trichotomy c g with r | r | r
      · exact go (0, 2, 1, 3) a e c g (by decide) p q r (F0 _ _ _ _) (F2 _ _ _ _) (F1 _ _ _ _) (F3 _ _ _ _)
      · exact go (0, 2, 1, 2) a e c (c + 1) (by decide) p q (by omega) (F0 _ _ _ _) (F2 _ _ _ _) (F1 _ _ _ _) ((F2 _ _ _ _).trans r)
      · exact go (0, 3, 1, 2) a e g c (by decide) p h2 r (F0 _ _ _ _) (F3 _ _ _ _) (F1 _ _ _ _) (F2 _ _ _ _)
  · rcases Int.lt_trichotomy c g with r | r | r
    · exact go (0, 1, 0, 2) a c g (g + 1) (by decide) h1 r (by omega) (F0 _ _ _ _) (F1 _ _ _ _) ((F0 _ _ _ _).trans p) (F2 _ _ _ _)
    · exact go (0, 1, 0, 1) a c (c + 1) (c + 2) (by decide) h1 (by omega) (by omega) (F0 _ _ _ _) (F1 _ _ _ _) ((F0 _ _ _ _).trans p) ((F1 _ _ _ _).trans r)
    · exact go (0, 2, 0, 1) a g c (c + 1) (by decide) (by omega) r (by omega) (F0 _ _ _ _) (F2 _ _ _ _) ((F0 _ _ _ _).trans p) (F1 _ _ _ _)
  · rcases Int.lt_trichotomy a g with q | q | q
    · rcases Int.lt_trichotomy c g with r | r | r
      · exact go (1, 2, 0, 3) e a c g (by decide) p h1 r (F1 _ _ _ _) (F2 _ _ _ _) (F0 _ _ _ _) (F3 _ _ _ _)
      · exact go (1, 2, 0, 2) e a c (c + 1) (by decide) p h1 (by omega) (F1 _ _ _ _) (F2 _ _ _ _) (F0 _ _ _ _) ((F2 _ _ _ _).trans r)
      · exact go (1, 3, 0, 2) e a g c (by decide) p q r (F1 _ _ _ _) (F3 _ _ _ _) (F0 _ _ _ _) (F2 _ _ _ _)
    · exact go (1, 2, 0, 1) e a c (c + 1) (by decide) p h1 (by omega) (F1 _ _ _ _) (F2 _ _ _ _) (F0 _ _ _ _) ((F1 _ _ _ _).trans q)
    · exact go (2, 3, 0, 1) e g a c (by decide) h2 q h1 (F2 _ _ _ _) (F3 _ _ _ _) (F0 _ _ _ _) (F1 _ _ _ _)
theorem grid_gp {x y : Int} (h1 : -64 ≤ x) (h2 : x ≤ 64) (h3 : -64 ≤ y) (h4 : y ≤ 64) : gridB (gp x y) = true := by
  unfold gridB gp
  exact decide_eq_true ⟨rfl, h1, h2, h3, h4⟩
/-- Between -64 and 64. -/
abbrev Gc (x : Int) : Prop := -64 ≤ x ∧ x ≤ 64
section
variable {φ ψ : Int → Int}
theorem box_ph (x0 y0 x1 y1 : Int) : (boxM x0 y0 x1 y1).map (ph φ ψ) = boxM (φ x0) (ψ y0) (φ x1) (ψ y1) := rfl
theorem grid_box {x0 y0 x1 y1 : Int} (h1 : Gc (φ x0)) (h2 : Gc (φ x1)) (h3 : Gc (ψ y0)) (h4 : Gc (ψ y1)) : ∀ e ∈ edgesM [boxM x0 y0 x1 y1], gridB (ph φ ψ e.1) = true := by
  intro e he
  have e1 : edgesM [boxM x0 y0 x1 y1] = [(gp x0 y0, gp x1 y0), (gp x1 y0, gp x1 y1), (gp x1 y1, gp x0 y1), (gp x0 y1, gp x0 y0)] := rfl
  rw [e1] at he
  simp only [List.mem_cons, List.not_mem_nil, or_false] at he
  rcases he with rfl | rfl | rfl | rfl
  · exact grid_gp h1.1 h1.2 h3.1 h3.2
  · exact grid_gp h2.1 h2.2 h3.1 h3.2
  · exact grid_gp h2.1 h2.2 h4.1 h4.2
  · exact grid_gp h1.1 h1.2 h4.1 h4.2
theorem grid_none : ∀ e ∈ edgesM [], gridB (ph φ ψ e.1) = true := fun e he => by simp [edgesM] at he
theorem mx_f {f : Int → Int} (hf : ∀ a b, a < b → f a < f b) (a b : Int) : mx (f a) (f b) = f (mx a b) := by
  have := sg_gt (sd hf a b)
  unfold mx
  by_cases c : a > b
  · rw [if_pos (by omega), if_pos c]
  · rw [if_neg (by omega), if_neg c]
theorem mn_f {f : Int → Int} (hf : ∀ a b, a < b → f a < f b) (a b : Int) : mn (f a) (f b) = f (mn a b) := by
  have := sg_lt (sd hf a b)
  unfold mn
  by_cases c : a < b
  · rw [if_pos (by omega), if_pos c]
  · rw [if_neg (by omega), if_neg c]
theorem want_ph (hφ : ∀ a b, a < b → φ a < φ b) (hψ : ∀ a b, a < b → ψ a < ψ b) (a b c d e f g h : Int) : phR φ ψ (wantM a b c d e f g h) = wantM (φ a) (ψ b) (φ c) (ψ d) (φ e) (ψ f) (φ g) (ψ h) := by
  unfold wantM
  rw [mx_f hφ, mx_f hψ, mn_f hφ, mn_f hψ]
  have k1 := sg_lt (sd hφ (mx a e) (mn c g))
  have k2 := sg_lt (sd hψ (mx b f) (mn d h))
  by_cases q : mx a e < mn c g ∧ mx b f < mn d h
  · rw [if_pos q, if_pos (by omega)]; rfl
  · rw [if_neg q, if_neg (by omega)]; rfl
end
theorem and_box {a b c d e f g h : Int} (h1 : a < c) (h2 : e < g) (h3 : b < d) (h4 : f < h) (ga : Gc a) (gb : Gc b) (gc : Gc c) (gd : Gc d) (ge : Gc e) (gf : Gc f) (gg : Gc g) (gh : Gc h) : clipM 0 [boxM a b c d] [boxM e f g h] = (wantM a b c d e f g h, 0) := by
  obtain ⟨X, hX, φ, hφ, rfl, rfl, rfl, rfl⟩ := rank h1 h2
  obtain ⟨Y, hY, ψ, hψ, rfl, rfl, rfl, rfl⟩ := rank h3 h4
  have ok : okXY X Y = true := List.all_eq_true.1 (List.all_eq_true.1 all_cfgs X hX) Y hY
  obtain ⟨k1, k2, k3⟩ := okC_of ok
  have := clip_ph hφ hψ k1 k2 k3 (grid_box ga gc gb gd) (grid_box ge gg gf gh)
  rw [want_ph hφ hψ] at this
  exact this
theorem one_ok1 : okC 0 [boxM 0 0 1 1] [boxM 0 0 1 1] [boxM 0 0 1 1] = true := by kernel_rfl
theorem one_ok2 : okC 1 [boxM 0 0 1 1] [boxM 0 0 1 1] [boxM 0 0 1 1] = true := by kernel_rfl
theorem one_ok3 : okC 4 [boxM 0 0 1 1] [boxM 0 0 1 1] [] = true := by kernel_rfl
theorem one_ok4 : okC 2 [boxM 0 0 1 1] [] [boxM 0 0 1 1] = true := by kernel_rfl
theorem one_ok5 : okC 3 [boxM 0 0 1 1] [] [] = true := by kernel_rfl
theorem none_ok : clipM 1 [] [] = ([], 0) := by kernel_rfl
theorem touch_ok : okC 1 [boxM 0 0 1 1] [boxM 1 1 2 2] [boxM 0 0 1 1, boxM 1 1 2 2] = true := by kernel_rfl
section
variable {a b c d : Int} (h1 : a < c) (h3 : b < d) (ga : Gc a) (gb : Gc b) (gc : Gc c) (gd : Gc d)
include h1 h3 ga gb gc gd
theorem box_one {op : Int} {R : List (List Pt)} (ok : okC op [boxM 0 0 1 1] [boxM 0 0 1 1] R = true) : clipM op [boxM a b c d] [boxM a b c d] = (phR (FF a c (c + 1) (c + 2)) (FF b d (d + 1) (d + 2)) R, 0) := by
  obtain ⟨k1, k2, k3⟩ := okC_of ok
  have hφ := FF_mono (v0 := a) (v1 := c) (v2 := c + 1) (v3 := c + 2) h1 (by omega) (by omega)
  have hψ := FF_mono (v0 := b) (v1 := d) (v2 := d + 1) (v3 := d + 2) h3 (by omega) (by omega)
  have e0 : FF a c (c + 1) (c + 2) 0 = a := by unfold FF; simp
  have e1 : FF a c (c + 1) (c + 2) 1 = c := by unfold FF; simp
  have e2 : FF b d (d + 1) (d + 2) 0 = b := by unfold FF; simp
  have e3 : FF b d (d + 1) (d + 2) 1 = d := by unfold FF; simp
  have g := grid_box (φ := FF a c (c + 1) (c + 2)) (ψ := FF b d (d + 1) (d + 2)) (x0 := 0) (x1 := 1) (y0 := 0) (y1 := 1) (by rw [e0]; exact ga) (by rw [e1]; exact gc) (by rw [e2]; exact gb) (by rw [e3]; exact gd)
  have := clip_ph hφ hψ k1 k2 k3 g g
  have eb : phR (FF a c (c + 1) (c + 2)) (FF b d (d + 1) (d + 2)) [boxM 0 0 1 1] = [boxM a b c d] := by
    unfold phR
    rw [List.map_cons, List.map_nil, box_ph, e0, e1, e2, e3]
  rw [eb] at this
  exact this
theorem box_none {op : Int} {R : List (List Pt)} (ok : okC op [boxM 0 0 1 1] [] R = true) : clipM op [boxM a b c d] [] = (phR (FF a c (c + 1) (c + 2)) (FF b d (d + 1) (d + 2)) R, 0) := by
  obtain ⟨k1, k2, k3⟩ := okC_of ok
  have hφ := FF_mono (v0 := a) (v1 := c) (v2 := c + 1) (v3 := c + 2) h1 (by omega) (by omega)
  have hψ := FF_mono (v0 := b) (v1 := d) (v2 := d + 1) (v3 := d + 2) h3 (by omega) (by omega)
  have e0 : FF a c (c + 1) (c + 2) 0 = a := by unfold FF; simp
  have e1 : FF a c (c + 1) (c + 2) 1 = c := by unfold FF; simp
  have e2 : FF b d (d + 1) (d + 2) 0 = b := by unfold FF; simp
  have e3 : FF b d (d + 1) (d + 2) 1 = d := by unfold FF; simp
  have g := grid_box (φ := FF a c (c + 1) (c + 2)) (ψ := FF b d (d + 1) (d + 2)) (x0 := 0) (x1 := 1) (y0 := 0) (y1 := 1) (by rw [e0]; exact ga) (by rw [e1]; exact gc) (by rw [e2]; exact gb) (by rw [e3]; exact gd)
  have := clip_ph hφ hψ k1 k2 k3 g grid_none
  have eb : phR (FF a c (c + 1) (c + 2)) (FF b d (d + 1) (d + 2)) [boxM 0 0 1 1] = [boxM a b c d] := by
    unfold phR
    rw [List.map_cons, List.map_nil, box_ph, e0, e1, e2, e3]
  rw [eb] at this
  exact this
omit h1 h3 ga gb gc gd in
theorem box_back : phR (FF a c (c + 1) (c + 2)) (FF b d (d + 1) (d + 2)) [boxM 0 0 1 1] = [boxM a b c d] := by
  have e0 : FF a c (c + 1) (c + 2) 0 = a := by unfold FF; simp
  have e1 : FF a c (c + 1) (c + 2) 1 = c := by unfold FF; simp
  have e2 : FF b d (d + 1) (d + 2) 0 = b := by unfold FF; simp
  have e3 : FF b d (d + 1) (d + 2) 1 = d := by unfold FF; simp
  unfold phR
  rw [List.map_cons, List.map_nil, box_ph, e0, e1, e2, e3]
theorem touch_box (gc2 : Gc (c + 1)) (gd2 : Gc (d + 1)) : clipM 1 [boxM a b c d] [boxM c d (c + 1) (d + 1)] = ([boxM a b c d, boxM c d (c + 1) (d + 1)], 0) := by
  obtain ⟨k1, k2, k3⟩ := okC_of touch_ok
  have hφ := FF_mono (v0 := a) (v1 := c) (v2 := c + 1) (v3 := c + 2) h1 (by omega) (by omega)
  have hψ := FF_mono (v0 := b) (v1 := d) (v2 := d + 1) (v3 := d + 2) h3 (by omega) (by omega)
  have e0 : FF a c (c + 1) (c + 2) 0 = a := by unfold FF; simp
  have e1 : FF a c (c + 1) (c + 2) 1 = c := by unfold FF; simp
  have e4 : FF a c (c + 1) (c + 2) 2 = c + 1 := by unfold FF; simp
  have e2 : FF b d (d + 1) (d + 2) 0 = b := by unfold FF; simp
  have e3 : FF b d (d + 1) (d + 2) 1 = d := by unfold FF; simp
  have e5 : FF b d (d + 1) (d + 2) 2 = d + 1 := by unfold FF; simp
  have g := grid_box (φ := FF a c (c + 1) (c + 2)) (ψ := FF b d (d + 1) (d + 2)) (x0 := 0) (x1 := 1) (y0 := 0) (y1 := 1) (by rw [e0]; exact ga) (by rw [e1]; exact gc) (by rw [e2]; exact gb) (by rw [e3]; exact gd)
  have g2 := grid_box (φ := FF a c (c + 1) (c + 2)) (ψ := FF b d (d + 1) (d + 2)) (x0 := 1) (x1 := 2) (y0 := 1) (y1 := 2) (by rw [e1]; exact gc) (by rw [e4]; exact gc2) (by rw [e3]; exact gd) (by rw [e5]; exact gd2)
  have := clip_ph hφ hψ k1 k2 k3 g g2
  unfold phR at this
  simp only [List.map_cons, List.map_nil, box_ph, e0, e1, e2, e3, e4, e5] at this
  exact this
end
/-! A box with a notch, moved. -/
theorem check_mv0 {P : List (List Pt)} (x y : Int) (h : (checkM P).1 = 0) (hg : ∀ e ∈ edgesM P, gridB (mv x y e.1) = true) : (checkM (mvR x y P)).1 = 0 := by
  have g3 : findM (fun e : Pt × Pt => !gridB e.1) 0 (edgesM (mvR x y P)) = -1 := by
    rw [edges_mv, findM_iff _ _ _ (by decide)]
    intro e he
    obtain ⟨f, hf, rfl⟩ := List.mem_map.1 he
    have := hg f hf
    show (!gridB (mv x y f.1)) = false
    rw [this]; rfl
  rcases check_mv x y h with k | k
  · exact k
  · exfalso
    unfold checkM at k
    repeat' split at k
    all_goals first
      | (simp at k; done)
      | (rename_i z; exact z g3)
theorem clip_mv0 {A B R : List (List Pt)} {op x y : Int} (h : clipM op A B = (R, 0)) (gA : ∀ e ∈ edgesM A, gridB (mv x y e.1) = true) (gB : ∀ e ∈ edgesM B, gridB (mv x y e.1) = true) : clipM op (mvR x y A) (mvR x y B) = (mvR x y R, 0) := by
  have h2 : (clipM op A B).2 = 0 := by rw [h]
  rcases clip_mv x y op h2 with k | k
  · exfalso
    have c0 : ¬ (op < 0 ∨ op > 4) := fun c => by
      unfold clipM at h2; rw [if_pos c] at h2; simp at h2
    have c : bothM A B = 0 := by
      unfold clipM at h2
      rw [if_neg c0] at h2
      apply Classical.byContradiction
      intro z
      rw [if_pos z] at h2; exact z h2
    obtain ⟨k1, k3⟩ := both_zero c
    have b : bothM (mvR x y A) (mvR x y B) = 0 := by
      unfold bothM
      rw [if_neg (fun z => z (check_mv0 x y k1 gA))]
      exact check_mv0 x y k3 gB
    unfold clipM at k
    rw [if_neg c0, if_neg (by simpa using b)] at k
    simp at k
  · rw [k, h]
theorem torn_ok : clipM 2 [boxM 0 0 22 22] [[gp 0 0, gp 20 10, gp 10 20]] = ([[gp 0 0, gp 10 20, gp 20 10, gp 0 0, gp 22 0, gp 22 22, gp 0 22]], 0) := by kernel_rfl
theorem mv_gp (x y u v : Int) : mv x y (gp u v) = gp (x + u) (y + v) := by
  unfold mv gp
  simp only [Int.mul_one, Pt.mk.injEq, and_true]
  omega
theorem torn_box {a b : Int} (ga : 0 ≤ a ∧ a ≤ 40) (gb : 0 ≤ b ∧ b ≤ 40) : clipM 2 [boxM a b (a + 22) (b + 22)] [[gp a b, gp (a + 20) (b + 10), gp (a + 10) (b + 20)]] = ([[gp a b, gp (a + 10) (b + 20), gp (a + 20) (b + 10), gp a b, gp (a + 22) b, gp (a + 22) (b + 22), gp a (b + 22)]], 0) := by
  have g1 : ∀ e ∈ edgesM [boxM 0 0 22 22], gridB (mv a b e.1) = true := by
    intro e he
    have e1 : edgesM [boxM 0 0 22 22] = [(gp 0 0, gp 22 0), (gp 22 0, gp 22 22), (gp 22 22, gp 0 22), (gp 0 22, gp 0 0)] := rfl
    rw [e1] at he
    simp only [List.mem_cons, List.not_mem_nil, or_false] at he
    rcases he with rfl | rfl | rfl | rfl <;> rw [mv_gp] <;> exact grid_gp (by omega) (by omega) (by omega) (by omega)
  have g2 : ∀ e ∈ edgesM [[gp 0 0, gp 20 10, gp 10 20]], gridB (mv a b e.1) = true := by
    intro e he
    have e1 : edgesM [[gp 0 0, gp 20 10, gp 10 20]] = [(gp 0 0, gp 20 10), (gp 20 10, gp 10 20), (gp 10 20, gp 0 0)] := rfl
    rw [e1] at he
    simp only [List.mem_cons, List.not_mem_nil, or_false] at he
    rcases he with rfl | rfl | rfl <;> rw [mv_gp] <;> exact grid_gp (by omega) (by omega) (by omega) (by omega)
  have := clip_mv0 (x := a) (y := b) torn_ok g1 g2
  unfold mvR boxM at this
  simp only [List.map_cons, List.map_nil, mv_gp, Int.add_zero] at this
  exact this
end Go.Proofs.Ytnkcbephceollaa
