import Derived.Test.YtnkcbephceollaaS5
namespace Go.Proofs.Ytnkcbephceollaa
set_option linter.unusedSimpArgs false
set_option linter.unusedVariables false

theorem check_parts {P : List (List Pt)} (h : (checkM P).1 = 0) : ¬ 4 < P.length ∧ badM 12 0 P = -1 ∧ findM (fun e : Pt × Pt => !gridB e.1) 0 (edgesM P) = -1 ∧ findM (fun e : Pt × Pt => eqB e.1 e.2) 0 (edgesM P) = -1 ∧ findM (sharesM (edgesM P)) 0 (List.range (edgesM P).length) = -1 := by
  unfold checkM at h
  by_cases c1 : 4 < P.length
  · rw [if_pos c1] at h; simp at h
  rw [if_neg c1] at h
  by_cases c2 : badM 12 0 P = -1
  · rw [if_neg (by simpa using c2)] at h
    by_cases c3 : findM (fun e : Pt × Pt => !gridB e.1) 0 (edgesM P) = -1
    · rw [if_neg (by simpa using c3)] at h
      by_cases c4 : findM (fun e : Pt × Pt => eqB e.1 e.2) 0 (edgesM P) = -1
      · rw [if_neg (by simpa using c4)] at h
        by_cases c5 : findM (sharesM (edgesM P)) 0 (List.range (edgesM P).length) = -1
        · exact ⟨c1, c2, c3, c4, c5⟩
        · rw [if_pos c5] at h; simp at h
      · rw [if_pos c4] at h; simp at h
    · rw [if_pos c3] at h; simp at h
  · rw [if_pos c2] at h; simp at h
theorem check_made {P : List (List Pt)} (c1 : ¬ 4 < P.length) (c2 : badM 12 0 P = -1) (c4 : findM (fun e : Pt × Pt => eqB e.1 e.2) 0 (edgesM P) = -1) (c5 : findM (sharesM (edgesM P)) 0 (List.range (edgesM P).length) = -1) : (checkM P).1 = 0 ∨ (checkM P).1 = 3 := by
  unfold checkM
  rw [if_neg c1, if_neg (by simpa using c2)]
  by_cases c3 : findM (fun e : Pt × Pt => !gridB e.1) 0 (edgesM P) = -1
  · rw [if_neg (by simpa using c3), if_neg (by simpa using c4), if_neg (by simpa using c5)]
    exact .inl rfl
  · rw [if_pos c3]
    exact .inr rfl
section
variable (x y : Int)
theorem bad_mv : ∀ (P : List (List Pt)) (room i : Int), badM room i (mvR x y P) = badM room i P
  | [], _, _ => rfl
  | r :: P, room, i => by
    have e : mvR x y (r :: P) = r.map (mv x y) :: mvR x y P := rfl
    rw [e, badM, badM, List.length_map, bad_mv P]
theorem eq_mv (a b : Pt) : eqB (mv x y a) (mv x y b) = eqB a b := by
  unfold eqB mv
  rw [decide_eq_decide]
  constructor
  · rintro ⟨h1, h2, h3⟩
    dsimp only at h1 h2 h3
    rw [h3] at h1 h2
    exact ⟨by omega, by omega, h3⟩
  · rintro ⟨h1, h2, h3⟩
    dsimp only
    rw [h1, h2, h3]; exact ⟨rfl, rfl, rfl⟩
theorem along_mv {e f : Pt × Pt} (he : e.1.d = 1 ∧ e.2.d = 1) (hf : f.1.d = 1 ∧ f.2.d = 1) : alongB (mvE x y e) (mvE x y f) = alongB e f := by
  unfold alongB mvE
  dsimp only
  rw [meet_mv x y he.1 he.2 hf.1 hf.2]; rfl
theorem d1_sound {P : List (List Pt)} (h : Sound P) : D1 (edgesM P) := fun e he => by
  have := sound_eg h e he
  exact ⟨this.1.d, this.2.1.d⟩
theorem d1_both {A B : List (List Pt)} (sA : Sound A) (sB : Sound B) : D1 (edgesM A ++ edgesM B) := fun e he => by
  rcases List.mem_append.1 he with he | he
  · exact d1_sound sA e he
  · exact d1_sound sB e he
theorem check_mv {P : List (List Pt)} (h : (checkM P).1 = 0) : (checkM (mvR x y P)).1 = 0 ∨ (checkM (mvR x y P)).1 = 3 := by
  have dd := d1_sound (sound_of h)
  obtain ⟨c1, c2, c3, c4, c5⟩ := check_parts h
  have hl : (mvR x y P).length = P.length := by unfold mvR; simp
  refine check_made (by rw [hl]; exact c1) (by rw [bad_mv]; exact c2) ?_ ?_
  · rw [edges_mv, findM_iff _ _ _ (by decide)]
    rw [findM_iff _ _ _ (by decide)] at c4
    intro e he
    obtain ⟨f, hf, rfl⟩ := List.mem_map.1 he
    have : eqB (mvE x y f).1 (mvE x y f).2 = eqB f.1 f.2 := eq_mv x y _ _
    rw [this]; exact c4 f hf
  · rw [edges_mv, shares_iff, List.pairwise_map]
    rw [shares_iff] at c5
    refine c5.imp_of_mem fun {a b} ha hb k => ?_
    rw [along_mv x y (dd b hb) (dd a ha)]; exact k
theorem both_mv {A B : List (List Pt)} (h : bothM A B = 0) : bothM (mvR x y A) (mvR x y B) = 0 ∨ bothM (mvR x y A) (mvR x y B) = 3 := by
  obtain ⟨h1, h2⟩ := both_zero h
  unfold bothM
  rcases check_mv x y h1 with a | a
  · rw [if_neg (by simpa using a)]
    exact check_mv x y h2
  · rw [if_pos (by rw [a]; decide)]
    exact .inr a
theorem clip_mv {A B : List (List Pt)} (op : Int) (h : (clipM op A B).2 = 0) : (clipM op (mvR x y A) (mvR x y B)).2 = 3 ∨ clipM op (mvR x y A) (mvR x y B) = (mvR x y (clipM op A B).1, 0) := by
  unfold clipM at h
  by_cases c0 : op < 0 ∨ op > 4
  · rw [if_pos c0] at h; simp at h
  rw [if_neg c0] at h
  by_cases c : bothM A B = 0
  · obtain ⟨h1, h2⟩ := both_zero c
    have e1 : clipM op A B = (ringsM (bordM op (piecesM A B)), 0) := by
      unfold clipM; rw [if_neg c0, if_neg (by simpa using c)]
    rcases both_mv x y c with b | b
    · right
      rw [e1]
      unfold clipM
      rw [if_neg c0, if_neg (by simpa using b), pieces_mv x y (d1_both (sound_of h1) (sound_of h2)), bord_mv, ringsM_mv]
    · left
      unfold clipM
      rw [if_neg c0, if_pos (by rw [b]; decide)]
      exact b
  · rw [if_pos c] at h; exact absurd h c
end
end Go.Proofs.Ytnkcbephceollaa
namespace Go.Proofs.Ytnkcbephceollaa
set_option linter.unusedSimpArgs false
set_option linter.unusedVariables false

/-! Edges that go straight up or straight across: what comes of them hangs on the order of their coordinates alone. -/
theorem sg_lt {a b : Int} (h : a.sign = b.sign) : a < 0 ↔ b < 0 := by rw [← Int.sign_eq_neg_one_iff_neg, ← Int.sign_eq_neg_one_iff_neg, h]
theorem sg_gt {a b : Int} (h : a.sign = b.sign) : 0 < a ↔ 0 < b := by rw [← Int.sign_eq_one_iff_pos, ← Int.sign_eq_one_iff_pos, h]
theorem sg_eq {a b : Int} (h : a.sign = b.sign) : a = 0 ↔ b = 0 := by rw [← Int.sign_eq_zero_iff_zero, ← Int.sign_eq_zero_iff_zero (a := b), h]
theorem sg_le {a b : Int} (h : a.sign = b.sign) : a ≤ 0 ↔ b ≤ 0 := by have := sg_gt h; omega
section
variable {φ ψ : Int → Int} (hφ : ∀ a b, a < b → φ a < φ b) (hψ : ∀ a b, a < b → ψ a < ψ b)
theorem sd {f : Int → Int} (hf : ∀ a b, a < b → f a < f b) (a b : Int) : (f a - f b).sign = (a - b).sign := by
  rcases Int.lt_trichotomy a b with h | h | h
  · have := hf a b h
    rw [Int.sign_eq_neg_one_of_neg (by omega), Int.sign_eq_neg_one_of_neg (by omega)]
  · subst h; simp
  · have := hf b a h
    rw [Int.sign_eq_one_of_pos (by omega), Int.sign_eq_one_of_pos (by omega)]
theorem fm_eq {f : Int → Int} (hf : ∀ a b, a < b → f a < f b) {a b : Int} : f a = f b ↔ a = b := by
  constructor
  · intro h
    rcases Int.lt_trichotomy a b with k | k | k
    · have := hf a b k; omega
    · exact k
    · have := hf b a k; omega
  · intro h; rw [h]
variable (φ ψ) in
def ph (p : Pt) : Pt := if p.d = 1 then ⟨φ p.x, ψ p.y, 1⟩ else p
theorem ph_z : ph φ ψ zP = zP := rfl
theorem ph_1 {p : Pt} (h : p.d = 1) : ph φ ψ p = ⟨φ p.x, ψ p.y, 1⟩ := if_pos h
theorem ph_d {p : Pt} : (ph φ ψ p).d = p.d := by
  unfold ph
  split
  · rename_i h; exact h.symm
  · rfl
/-- A point with D 1, or none. -/
def O1 (p : Pt) : Prop := p.d = 1 ∨ p = zP
include hφ hψ
theorem cmp_ph {p q : Pt} (hp : O1 p) (hq : O1 q) : (cmpM (ph φ ψ p) (ph φ ψ q)).sign = (cmpM p q).sign := by
  rcases hp with hp | rfl
  · rcases hq with hq | rfl
    · obtain ⟨px, py, pd⟩ := p
      obtain ⟨qx, qy, qd⟩ := q
      simp only at hp hq
      subst hp hq
      rw [ph_1 rfl, ph_1 rfl]
      unfold cmpM
      simp only [Int.mul_one]
      have h1 := sd hφ px qx
      have h2 := sg_eq h1
      by_cases c : px - qx = 0
      · rw [if_neg (by simpa using h2.2 c), if_neg (by simpa using c)]; exact sd hψ py qy
      · rw [if_pos (fun k => c (h2.1 k)), if_pos c]; exact h1
    · rw [ph_z]; unfold cmpM zP; simp
  · rw [ph_z]
    unfold cmpM zP; simp
theorem first_ph {p q : Pt} (hp : O1 p) (hq : O1 q) : firstM (ph φ ψ p) (ph φ ψ q) = ph φ ψ (firstM p q) := by
  unfold firstM
  have h := sg_lt (cmp_ph hφ hψ hq hp)
  by_cases c : cmpM q p < 0
  · rw [if_pos (h.2 c), if_pos c]
  · rw [if_neg (fun k => c (h.1 k)), if_neg c]
theorem last_ph {p q : Pt} (hp : O1 p) (hq : O1 q) : lastM (ph φ ψ p) (ph φ ψ q) = ph φ ψ (lastM p q) := by
  unfold lastM
  have h := sg_gt (cmp_ph hφ hψ hq hp)
  by_cases c : cmpM q p > 0
  · rw [if_pos (h.2 c), if_pos c]
  · rw [if_neg (fun k => c (h.1 k)), if_neg c]
omit hφ hψ in
theorem first_is (p q : Pt) : firstM p q = p ∨ firstM p q = q := by unfold firstM; split <;> simp
omit hφ hψ in
theorem last_is (p q : Pt) : lastM p q = p ∨ lastM p q = q := by unfold lastM; split <;> simp
/-- Straight up, or straight across. -/
def HV (a b : Pt) : Prop := a.d = 1 ∧ b.d = 1 ∧ (a.x = b.x ∨ a.y = b.y)
omit hφ hψ in
theorem HV.sw {a b : Pt} (h : HV a b) : HV b a := ⟨h.2.1, h.1, h.2.2.imp Eq.symm Eq.symm⟩
omit hφ hψ in
theorem det_h1 {a b p : Pt} (ha : a.d = 1) (hb : b.d = 1) (hp : p.d = 1) (h : a.y = b.y) : detM a b p = (b.x - a.x) * (p.y - a.y) := by
  unfold detM; rw [ha, hb, hp, h]; grind
omit hφ hψ in
theorem det_v1 {a b p : Pt} (ha : a.d = 1) (hb : b.d = 1) (hp : p.d = 1) (h : a.x = b.x) : detM a b p = (b.y - a.y) * (a.x - p.x) := by
  unfold detM; rw [ha, hb, hp, h]; grind
theorem det_ph {a b p : Pt} (h : HV a b) (hp : p.d = 1) : (detM (ph φ ψ a) (ph φ ψ b) (ph φ ψ p)).sign = (detM a b p).sign := by
  obtain ⟨ha, hb, h | h⟩ := h
  · rw [det_v1 ha hb hp h, det_v1 (by rw [ph_d]; exact ha) (by rw [ph_d]; exact hb) (by rw [ph_d]; exact hp) (by rw [ph_1 ha, ph_1 hb, h]), ph_1 ha, ph_1 hb, ph_1 hp, Int.sign_mul, Int.sign_mul, sd hψ, sd hφ]
  · rw [det_h1 ha hb hp h, det_h1 (by rw [ph_d]; exact ha) (by rw [ph_d]; exact hb) (by rw [ph_d]; exact hp) (by rw [ph_1 ha, ph_1 hb, h]), ph_1 ha, ph_1 hb, ph_1 hp, Int.sign_mul, Int.sign_mul, sd hφ, sd hψ]
omit hφ hψ in
theorem HV.fl {a b : Pt} (h : HV a b) : HV (firstM a b) (lastM a b) := by
  obtain ⟨h1, h2, h3⟩ := h
  rcases first_is a b with e | e <;> rcases last_is a b with f | f <;> rw [e, f]
  · exact ⟨h1, h1, .inl rfl⟩
  · exact ⟨h1, h2, h3⟩
  · exact ⟨h2, h1, h3.imp Eq.symm Eq.symm⟩
  · exact ⟨h2, h2, .inl rfl⟩
theorem side_ph {a b p : Pt} (h : HV a b) (hp : p.d = 1) : (sideM (ph φ ψ a) (ph φ ψ b) (ph φ ψ p)).sign = (sideM a b p).sign := by
  unfold sideM
  rw [first_ph hφ hψ (.inl h.1) (.inl h.2.1), last_ph hφ hψ (.inl h.1) (.inl h.2.1)]
  exact det_ph hφ hψ h.fl hp
omit hφ hψ in
theorem O1.first {a b : Pt} (ha : O1 a) (hb : O1 b) : O1 (firstM a b) := by rcases first_is a b with e | e <;> rw [e] <;> assumption
omit hφ hψ in
theorem O1.last {a b : Pt} (ha : O1 a) (hb : O1 b) : O1 (lastM a b) := by rcases last_is a b with e | e <;> rw [e] <;> assumption
omit hφ hψ in
theorem dec_iff {p q : Prop} [Decidable p] [Decidable q] (h : p ↔ q) : decide p = decide q := by
  by_cases c : q
  · rw [decide_eq_true c, decide_eq_true (h.2 c)]
  · rw [decide_eq_false c, decide_eq_false (fun k => c (h.1 k))]
theorem span_ph {a b p : Pt} (h : HV a b) (hp : p.d = 1) : spanM (ph φ ψ a) (ph φ ψ b) (ph φ ψ p) = spanM a b p := by
  unfold spanM
  have oa : O1 a := .inl h.1
  have ob : O1 b := .inl h.2.1
  rw [first_ph hφ hψ oa ob, last_ph hφ hψ oa ob]
  rw [dec_iff (sg_lt (cmp_ph hφ hψ (.inl hp) (oa.first ob))), dec_iff (sg_lt (cmp_ph hφ hψ (.inl hp) (oa.last ob)))]
theorem has_ph {a b p : Pt} (h : HV a b) (hp : p.d = 1) : hasM (ph φ ψ a) (ph φ ψ b) (ph φ ψ p) = hasM a b p := by
  unfold hasM
  have oa : O1 a := .inl h.1
  have ob : O1 b := .inl h.2.1
  rw [first_ph hφ hψ oa ob, last_ph hφ hψ oa ob]
  rw [dec_iff (sg_lt (cmp_ph hφ hψ (.inl hp) (oa.first ob))), dec_iff (sg_gt (cmp_ph hφ hψ (.inl hp) (oa.last ob))), dec_iff (sg_eq (side_ph hφ hψ h hp))]
theorem sideOf_ph {p q a b : Pt} (h : HV a b) (hp : p.d = 1) (hq : q.d = 1) : (sideOfM (ph φ ψ p) (ph φ ψ q) (ph φ ψ a) (ph φ ψ b)).sign = (sideOfM p q a b).sign := by
  unfold sideOfM
  have k := sg_eq (side_ph hφ hψ h hp)
  by_cases c : sideM a b p = 0
  · rw [if_neg (by simpa using k.2 c), if_neg (by simpa using c)]; exact side_ph hφ hψ h hq
  · rw [if_pos (fun x => c (k.1 x)), if_pos c]; exact side_ph hφ hψ h hp
theorem leftE_ph {p q a b : Pt} (h : HV a b) (hp : p.d = 1) (hq : q.d = 1) : leftE (ph φ ψ p) (ph φ ψ q) (ph φ ψ a) (ph φ ψ b) = leftE p q a b := by
  unfold leftE
  rw [span_ph hφ hψ h hp, dec_iff (sg_lt (sideOf_ph hφ hψ h hp hq))]
theorem rightE_ph {p q a b : Pt} (h : HV a b) (hp : p.d = 1) (hq : q.d = 1) : rightE (ph φ ψ p) (ph φ ψ q) (ph φ ψ a) (ph φ ψ b) = rightE p q a b := by
  unfold rightE
  rw [span_ph hφ hψ h hp, dec_iff (sg_le (sideOf_ph hφ hψ h hp hq))]

/-! Where such edges meet. -/
omit hφ hψ in
theorem least_1 {X Y w : Int} (hw : 0 < w) : leastM ⟨X * w, Y * w, w⟩ = ⟨X, Y, 1⟩ := by
  have g : gcdM (gcdM (X * w) (Y * w)) w = w := by
    have n1 : 0 ≤ gcdM (gcdM (X * w) (Y * w)) w := by unfold gcdM; omega
    have h1 := ((dvd_gcd3 (gcdM (gcdM (X * w) (Y * w)) w) (X * w) (Y * w) w).1 (Int.dvd_refl _)).2.2
    have h2 : w ∣ gcdM (gcdM (X * w) (Y * w)) w := (dvd_gcd3 w (X * w) (Y * w) w).2 ⟨Int.dvd_mul_left _ _, Int.dvd_mul_left _ _, Int.dvd_refl _⟩
    exact Int.dvd_antisymm n1 (by omega) h1 h2
  unfold leastM
  simp only [g]
  rw [if_neg (by omega), Int.mul_tdiv_cancel _ (by omega), Int.mul_tdiv_cancel _ (by omega), Int.tdiv_self (by omega)]
end
end Go.Proofs.Ytnkcbephceollaa
