import Derived.Test.YtnkcbephceollaaQ40
namespace Go.Proofs.Ytnkcbephceollaa
set_option linter.unusedSimpArgs false
set_option linter.unusedVariables false

def bt (x p q : Int) : Prop := (p ≤ x ∧ x ≤ q) ∨ (q ≤ x ∧ x ≤ p)
instance (x p q : Int) : Decidable (bt x p q) := by unfold bt; infer_instance
theorem mp1 {v m : Int} (h : 0 < v) : m * v < 0 ↔ m < 0 := by
  constructor
  · intro k
    apply Classical.byContradiction
    intro x
    have := Int.mul_nonneg (show 0 ≤ m by omega) (show 0 ≤ v by omega)
    omega
  · intro k
    have := Int.mul_pos (show 0 < -m by omega) h
    rw [Int.neg_mul] at this
    omega
theorem mp2 {v m u : Int} (h : 0 < v) : u * v < m * v ↔ u < m := by
  have := mp1 (v := v) (m := u - m) h
  rw [Int.sub_mul] at this
  omega
theorem mn1 {v m : Int} (h : v < 0) : m * v < 0 ↔ 0 < m := by
  have := mp1 (v := -v) (m := -m) (by omega)
  rw [Int.neg_mul_neg] at this
  omega
theorem mn2 {v m u : Int} (h : v < 0) : u * v < m * v ↔ m < u := by
  have := mn1 (v := v) (m := u - m) h
  rw [Int.sub_mul] at this
  omega
theorem meet_swp1 {a b c d : Pt} (ha : a.d = 1) (hb : b.d = 1) (hc : c.d = 1) (hd : d.d = 1) (n1 : a ≠ b) (n2 : c ≠ d) : meetM c d a b = meetM a b c d := by
  have h1 := meet_sym1 ha hb hc hd n1 n2
  rw [← h1]
  exact (meet_sym2 hc hd ha hb).symm
/-- One across, one up. -/
theorem across_hv {a b c d : Pt} (ha : a.d = 1) (hb : b.d = 1) (hc : c.d = 1) (hd : d.d = 1) (hy : a.y = b.y) (hx : c.x = d.x) (hu : a.x ≠ b.x) (hv : c.y ≠ d.y) :
    meetM a b c d = if bt c.x a.x b.x ∧ bt a.y c.y d.y then ⟨1, ⟨c.x, a.y, 1⟩, zP⟩ else zM := by
  have e1 : b.y - a.y = 0 := by omega
  have e2 : d.x - c.x = 0 := by omega
  unfold meetM
  rw [e1, e2]
  have w0 : crossM (b.x - a.x) 0 0 (d.y - c.y) = (b.x - a.x) * (d.y - c.y) := by unfold crossM; simp
  have hw : (b.x - a.x) * (d.y - c.y) ≠ 0 := Int.mul_ne_zero (by omega) (by omega)
  rw [w0, if_neg hw]
  unfold acrossM
  dsimp only
  rw [e1, e2, w0]
  have s0 : crossM (c.x - a.x) (c.y - a.y) 0 (d.y - c.y) = (c.x - a.x) * (d.y - c.y) := by unfold crossM; simp
  have t0 : crossM (c.x - a.x) (c.y - a.y) (b.x - a.x) 0 = -((c.y - a.y) * (b.x - a.x)) := by unfold crossM; simp
  rw [s0, t0]
  have hn : (c.y - a.y) * (b.x - a.x) = (b.x - a.x) * (c.y - a.y) := Int.mul_comm _ _
  have hpt : ∀ s w : Int, (b.x - a.x) * s = (c.x - a.x) * w → 0 < w → leastM ⟨a.x * w + (b.x - a.x) * s, a.y * w + 0 * s, w⟩ = ⟨c.x, a.y, 1⟩ := fun s w h hw => by
    have q1 : a.x * w + (b.x - a.x) * s = c.x * w := by rw [h, Int.sub_mul]; omega
    rw [q1, Int.zero_mul, Int.add_zero, least_1 hw]
  have x1 : (b.x - a.x) * ((c.x - a.x) * (d.y - c.y)) = (c.x - a.x) * ((b.x - a.x) * (d.y - c.y)) := by
    rw [← Int.mul_assoc, ← Int.mul_assoc, Int.mul_comm (b.x - a.x)]
  have x2 : (b.x - a.x) * (-((c.x - a.x) * (d.y - c.y))) = (c.x - a.x) * (-((b.x - a.x) * (d.y - c.y))) := by
    rw [Int.mul_neg, Int.mul_neg, x1]
  rcases Int.lt_or_gt_of_ne (show b.x - a.x ≠ 0 by omega) with u | u <;> rcases Int.lt_or_gt_of_ne (show d.y - c.y ≠ 0 by omega) with v | v
  · have k0 : ¬ (b.x - a.x) * (d.y - c.y) < 0 := by have := mn1 (m := b.x - a.x) v; omega
    rw [if_neg k0, if_neg k0, if_neg k0]
    have k1 := mn1 (m := c.x - a.x) v
    have k2 := mn2 (m := c.x - a.x) (u := b.x - a.x) v
    have k3 := mn1 (m := c.y - a.y) u
    have k6 := mn2 (u := 0) (m := c.y - a.y) u
    rw [Int.zero_mul] at k6
    have k4 := mn2 (m := d.y - c.y) (u := -(c.y - a.y)) u
    rw [Int.neg_mul, Int.mul_comm (d.y - c.y)] at k4
    have k5 := mn2 (m := -(c.y - a.y)) (u := d.y - c.y) u
    rw [Int.neg_mul, Int.mul_comm (d.y - c.y)] at k5
    by_cases g : bt c.x a.x b.x ∧ bt a.y c.y d.y
    · rw [if_pos g, if_neg (by unfold bt at g; omega), hpt _ _ x1 (by omega)]
    · rw [if_neg g, if_pos (by unfold bt at g; omega)]
  · have k0 : (b.x - a.x) * (d.y - c.y) < 0 := by have := mp1 (m := b.x - a.x) v; omega
    rw [if_pos k0, if_pos k0, if_pos k0]
    have k1 := mp1 (m := c.x - a.x) v
    have k2 := mp2 (m := c.x - a.x) (u := b.x - a.x) v
    have k2' := mp2 (u := c.x - a.x) (m := b.x - a.x) v
    have k1' := mp2 (u := 0) (m := c.x - a.x) v
    rw [Int.zero_mul] at k1'
    have k3 := mn1 (m := c.y - a.y) u
    have k4 := mn2 (m := d.y - c.y) (u := -(c.y - a.y)) u
    rw [Int.neg_mul, Int.mul_comm (d.y - c.y)] at k4
    have k5 := mn2 (m := -(c.y - a.y)) (u := d.y - c.y) u
    rw [Int.neg_mul, Int.mul_comm (d.y - c.y)] at k5
    have k6 := mn2 (u := 0) (m := c.y - a.y) u
    rw [Int.zero_mul] at k6
    by_cases g : bt c.x a.x b.x ∧ bt a.y c.y d.y
    · rw [if_pos g, if_neg (by unfold bt at g; omega), hpt _ _ x2 (by omega)]
    · rw [if_neg g, if_pos (by unfold bt at g; omega)]
  · have k0 : (b.x - a.x) * (d.y - c.y) < 0 := by have := mn1 (m := b.x - a.x) v; omega
    rw [if_pos k0, if_pos k0, if_pos k0]
    have k1 := mn1 (m := c.x - a.x) v
    have k1' := mn2 (u := 0) (m := c.x - a.x) v
    rw [Int.zero_mul] at k1'
    have k2 := mn2 (m := c.x - a.x) (u := b.x - a.x) v
    have k2' := mn2 (u := c.x - a.x) (m := b.x - a.x) v
    have k3 := mp1 (m := c.y - a.y) u
    have k4 := mp2 (m := d.y - c.y) (u := -(c.y - a.y)) u
    rw [Int.neg_mul, Int.mul_comm (d.y - c.y)] at k4
    have k5 := mp2 (m := -(c.y - a.y)) (u := d.y - c.y) u
    rw [Int.neg_mul, Int.mul_comm (d.y - c.y)] at k5
    have k6 := mp2 (u := 0) (m := c.y - a.y) u
    rw [Int.zero_mul] at k6
    by_cases g : bt c.x a.x b.x ∧ bt a.y c.y d.y
    · rw [if_pos g, if_neg (by unfold bt at g; omega), hpt _ _ x2 (by omega)]
    · rw [if_neg g, if_pos (by unfold bt at g; omega)]
  · have k0 : ¬ (b.x - a.x) * (d.y - c.y) < 0 := by have := mp1 (m := b.x - a.x) v; omega
    rw [if_neg k0, if_neg k0, if_neg k0]
    have k1 := mp1 (m := c.x - a.x) v
    have k2 := mp2 (m := c.x - a.x) (u := b.x - a.x) v
    have k3 := mp1 (m := c.y - a.y) u
    have k6 := mp2 (u := 0) (m := c.y - a.y) u
    rw [Int.zero_mul] at k6
    have k4 := mp2 (m := d.y - c.y) (u := -(c.y - a.y)) u
    rw [Int.neg_mul, Int.mul_comm (d.y - c.y)] at k4
    have k5 := mp2 (m := -(c.y - a.y)) (u := d.y - c.y) u
    rw [Int.neg_mul, Int.mul_comm (d.y - c.y)] at k5
    by_cases g : bt c.x a.x b.x ∧ bt a.y c.y d.y
    · rw [if_pos g, if_neg (by unfold bt at g; omega), hpt _ _ x1 (by omega)]
    · rw [if_neg g, if_pos (by unfold bt at g; omega)]
/-- Both across. -/
theorem meet_hh {a b c d : Pt} (hy : a.y = b.y) (hy2 : c.y = d.y) (hu : a.x ≠ b.x) : meetM a b c d = if c.y = a.y then lineM a b c d else zM := by
  have e1 : b.y - a.y = 0 := by omega
  have e2 : d.y - c.y = 0 := by omega
  unfold meetM
  rw [e1, e2]
  have w0 : crossM (b.x - a.x) 0 (d.x - c.x) 0 = 0 := by unfold crossM; simp
  rw [if_pos w0]
  unfold parM
  rw [e1]
  have w1 : crossM (b.x - a.x) 0 (c.x - a.x) (c.y - a.y) = (b.x - a.x) * (c.y - a.y) := by unfold crossM; simp
  rw [w1]
  by_cases h : c.y = a.y
  · have : (b.x - a.x) * (c.y - a.y) = 0 := by rw [show c.y - a.y = 0 by omega, Int.mul_zero]
    rw [if_pos h, if_neg (fun k => k this)]
  · rw [if_neg h, if_pos (Int.mul_ne_zero (by omega) (by omega))]
/-- Both up. -/
theorem meet_vv {a b c d : Pt} (hx : a.x = b.x) (hx2 : c.x = d.x) (hu : a.y ≠ b.y) : meetM a b c d = if c.x = a.x then lineM a b c d else zM := by
  have e1 : b.x - a.x = 0 := by omega
  have e2 : d.x - c.x = 0 := by omega
  unfold meetM
  rw [e1, e2]
  have w0 : crossM 0 (b.y - a.y) 0 (d.y - c.y) = 0 := by unfold crossM; simp
  rw [if_pos w0]
  unfold parM
  rw [e1]
  have w1 : crossM 0 (b.y - a.y) (c.x - a.x) (c.y - a.y) = -((b.y - a.y) * (c.x - a.x)) := by unfold crossM; simp
  rw [w1]
  by_cases h : c.x = a.x
  · have : (b.y - a.y) * (c.x - a.x) = 0 := by rw [show c.x - a.x = 0 by omega, Int.mul_zero]
    rw [if_pos h, if_neg (by rw [this]; simp)]
  · have : (b.y - a.y) * (c.x - a.x) ≠ 0 := Int.mul_ne_zero (by omega) (by omega)
    rw [if_neg h, if_pos (by omega)]
section
variable {φ ψ : Int → Int} (hφ : ∀ a b, a < b → φ a < φ b) (hψ : ∀ a b, a < b → ψ a < ψ b)
variable (φ ψ) in
def phM (m : Mt) : Mt := ⟨m.k, ph φ ψ m.p, ph φ ψ m.q⟩
theorem phM_z : phM φ ψ zM = zM := rfl
include hφ hψ
theorem line_ph {a b c d : Pt} (ha : a.d = 1) (hb : b.d = 1) (hc : c.d = 1) (hd : d.d = 1) : lineM (ph φ ψ a) (ph φ ψ b) (ph φ ψ c) (ph φ ψ d) = phM φ ψ (lineM a b c d) := by
  have oa : O1 a := .inl ha
  have ob : O1 b := .inl hb
  have oc : O1 c := .inl hc
  have od : O1 d := .inl hd
  unfold lineM
  dsimp only
  rw [first_ph hφ hψ oa ob, first_ph hφ hψ oc od, last_ph hφ hψ oa ob, last_ph hφ hψ oc od, last_ph hφ hψ (oa.first ob) (oc.first od), first_ph hφ hψ (oa.last ob) (oc.last od)]
  have k := cmp_ph hφ hψ ((oa.first ob).last (oc.first od)) ((oa.last ob).first (oc.last od))
  have k1 := sg_gt k
  have k2 := sg_eq k
  generalize lastM (firstM a b) (firstM c d) = f at *
  generalize firstM (lastM a b) (lastM c d) = t at *
  by_cases g1 : cmpM f t > 0
  · rw [if_pos (k1.2 g1), if_pos g1, phM_z]
  · rw [if_neg (fun x => g1 (k1.1 x)), if_neg g1]
    by_cases g2 : cmpM f t = 0
    · rw [if_pos (k2.2 g2), if_pos g2]; rfl
    · rw [if_neg (fun x => g2 (k2.1 x)), if_neg g2]; rfl
omit hφ hψ in
theorem bt_ph {f : Int → Int} (hf : ∀ a b, a < b → f a < f b) {x p q : Int} : bt (f x) (f p) (f q) ↔ bt x p q := by
  have h1 := sg_gt (sd hf p x)
  have h2 := sg_gt (sd hf x q)
  have h3 := sg_gt (sd hf q x)
  have h4 := sg_gt (sd hf x p)
  unfold bt
  omega
theorem hv_ph {a b c d : Pt} (ha : a.d = 1) (hb : b.d = 1) (hc : c.d = 1) (hd : d.d = 1) (hy : a.y = b.y) (hx : c.x = d.x) (hu : a.x ≠ b.x) (hv : c.y ≠ d.y) : meetM (ph φ ψ a) (ph φ ψ b) (ph φ ψ c) (ph φ ψ d) = phM φ ψ (meetM a b c d) := by
  have q1 := ph_1 (φ := φ) (ψ := ψ) ha
  have q2 := ph_1 (φ := φ) (ψ := ψ) hb
  have q3 := ph_1 (φ := φ) (ψ := ψ) hc
  have q4 := ph_1 (φ := φ) (ψ := ψ) hd
  rw [across_hv ha hb hc hd hy hx hu hv, across_hv (by rw [ph_d]; exact ha) (by rw [ph_d]; exact hb) (by rw [ph_d]; exact hc) (by rw [ph_d]; exact hd) (by rw [q1, q2, hy]) (by rw [q3, q4, hx]) (by rw [q1, q2]; exact fun k => hu ((fm_eq hφ).1 k)) (by rw [q3, q4]; exact fun k => hv ((fm_eq hψ).1 k)), q1, q2, q3, q4]
  dsimp only
  have b1 := bt_ph hφ (x := c.x) (p := a.x) (q := b.x)
  have b2 := bt_ph hψ (x := a.y) (p := c.y) (q := d.y)
  by_cases g : bt c.x a.x b.x ∧ bt a.y c.y d.y
  · rw [if_pos g, if_pos ⟨b1.2 g.1, b2.2 g.2⟩]; rfl
  · rw [if_neg g, if_neg (fun k => g ⟨b1.1 k.1, b2.1 k.2⟩), phM_z]
omit hφ hψ in
theorem pt_ne {a b : Pt} (ha : a.d = 1) (hb : b.d = 1) (n : a ≠ b) : a.x ≠ b.x ∨ a.y ≠ b.y := by
  apply Classical.byContradiction
  intro k
  apply n
  obtain ⟨ax, ay, ad⟩ := a
  obtain ⟨bx, by', bd⟩ := b
  simp only at ha hb k
  subst ha hb
  have : ax = bx ∧ ay = by' := by omega
  rw [this.1, this.2]
theorem meet_ph {a b c d : Pt} (h1 : HV a b) (h2 : HV c d) (n1 : a ≠ b) (n2 : c ≠ d) : meetM (ph φ ψ a) (ph φ ψ b) (ph φ ψ c) (ph φ ψ d) = phM φ ψ (meetM a b c d) := by
  obtain ⟨ha, hb, e1⟩ := h1
  obtain ⟨hc, hd, e2⟩ := h2
  have q1 := ph_1 (φ := φ) (ψ := ψ) ha
  have q2 := ph_1 (φ := φ) (ψ := ψ) hb
  have q3 := ph_1 (φ := φ) (ψ := ψ) hc
  have q4 := ph_1 (φ := φ) (ψ := ψ) hd
  have m1 := pt_ne ha hb n1
  have m2 := pt_ne hc hd n2
  rcases e1 with e1 | e1 <;> rcases e2 with e2 | e2
  · have y1 : a.y ≠ b.y := m1.resolve_left (fun k => k e1)
    rw [meet_vv e1 e2 y1, meet_vv (by rw [q1, q2, e1]) (by rw [q3, q4, e2]) (by rw [q1, q2]; exact fun k => y1 ((fm_eq hψ).1 k))]
    by_cases g : c.x = a.x
    · rw [if_pos g, if_pos (by rw [q1, q3, g]), line_ph hφ hψ ha hb hc hd]
    · rw [if_neg g, if_neg (by rw [q1, q3]; exact fun k => g ((fm_eq hφ).1 k)), phM_z]
  · have y1 : a.y ≠ b.y := m1.resolve_left (fun k => k e1)
    have x2 : c.x ≠ d.x := m2.resolve_right (fun k => k e2)
    have k := hv_ph hφ hψ hc hd ha hb e2 e1 x2 y1
    rw [meet_swp1 ha hb hc hd n1 n2] at k
    rw [← k]
    refine (meet_swp1 (by rw [ph_d]; exact ha) (by rw [ph_d]; exact hb) (by rw [ph_d]; exact hc) (by rw [ph_d]; exact hd) ?_ ?_).symm
    · rw [q1, q2]; intro z; injection z with _ z2 _; exact y1 ((fm_eq hψ).1 z2)
    · rw [q3, q4]; intro z; injection z with z1 _ _; exact x2 ((fm_eq hφ).1 z1)
  · have x1 : a.x ≠ b.x := m1.resolve_right (fun k => k e1)
    have y2 : c.y ≠ d.y := m2.resolve_left (fun k => k e2)
    exact hv_ph hφ hψ ha hb hc hd e1 e2 x1 y2
  · have x1 : a.x ≠ b.x := m1.resolve_right (fun k => k e1)
    rw [meet_hh e1 e2 x1, meet_hh (by rw [q1, q2, e1]) (by rw [q3, q4, e2]) (by rw [q1, q2]; exact fun k => x1 ((fm_eq hφ).1 k))]
    by_cases g : c.y = a.y
    · rw [if_pos g, if_pos (by rw [q1, q3, g]), line_ph hφ hψ ha hb hc hd]
    · rw [if_neg g, if_neg (by rw [q1, q3]; exact fun k => g ((fm_eq hψ).1 k)), phM_z]
end
end Go.Proofs.Ytnkcbephceollaa
