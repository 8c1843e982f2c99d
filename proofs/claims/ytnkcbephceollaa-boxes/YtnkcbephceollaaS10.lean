import Derived.Test.YtnkcbephceollaaS9
namespace Go.Proofs.Ytnkcbephceollaa
set_option linter.unusedSimpArgs false
set_option linter.unusedVariables false

/-- Borders that go straight up or straight across. -/
def LHV (L : List (Pt × Pt)) : Prop := ∀ e ∈ L, HV e.1 e.2
theorem LHV.at {L : List (Pt × Pt)} (h : LHV L) {i : Nat} (hi : i < L.length) : HV (edg L i).1 (edg L i).2 := h _ (getD_mem hi (zP, zP))
theorem cmp_one {p q : Pt} (hp : p.d = 1) (hq : q.d = 1) (h : cmpM p q = 0) : p = q := by
  obtain ⟨px, py, pd⟩ := p
  obtain ⟨qx, qy, qd⟩ := q
  simp only at hp hq
  subst hp hq
  unfold cmpM at h
  simp only [Int.mul_one] at h
  split at h
  · omega
  · have : px = qx ∧ py = qy := by omega
    rw [this.1, this.2]
section
variable {φ ψ : Int → Int} (hφ : ∀ a b, a < b → φ a < φ b) (hψ : ∀ a b, a < b → ψ a < ψ b)
include hφ hψ
theorem ahead_ph {p q : Pt} {e : Pt × Pt} (he : HV e.1 e.2) (hp : p.d = 1) (hq : q.d = 1) (hv : HV e.2 p) : aheadM (ph φ ψ p) (ph φ ψ q) (phE φ ψ e) = aheadM p q e := by
  unfold aheadM phE
  dsimp only
  rw [dec_iff (sg_lt (det_ph hφ hψ he.sw hp)), dec_iff (sg_lt (det_ph hφ hψ he.sw hq)), dec_iff (sg_lt (det_ph hφ hψ hv hq))]
theorem fol_ph {L : List (Pt × Pt)} (hL : LHV L) {i : Nat} (hi : i < L.length) : ∀ k, k ≤ L.length → folM (L.map (phE φ ψ)) i k = folM L i k
  | 0, _ => rfl
  | k + 1, hk => by
    have hkl : k < L.length := by omega
    have ek := hL.at hkl
    have ei := hL.at hi
    have lt := fol_lt hi k (by omega)
    have ef := hL.at lt
    rw [folM, folM, fol_ph hL hi k (by omega), edg_ph, edg_ph, edg_ph]
    have c := sg_eq (cmp_ph hφ hψ (p := (edg L k).1) (q := (edg L i).2) (.inl ek.1) (.inl ei.2.1))
    by_cases g : cmpM (edg L k).1 (edg L i).2 = 0
    · have e0 := cmp_one ek.1 ei.2.1 g
      have e2 : aheadM (phE φ ψ (edg L k)).2 (phE φ ψ (edg L (folM L i k))).2 (phE φ ψ (edg L i)) = aheadM (edg L k).2 (edg L (folM L i k)).2 (edg L i) := ahead_ph hφ hψ ei ek.2.1 ef.2.1 (by rw [← e0]; exact ek)
      have n1 : ¬ cmpM (phE φ ψ (edg L k)).1 (phE φ ψ (edg L i)).2 ≠ 0 := fun x => x (c.2 g)
      have n2 : ¬ cmpM (edg L k).1 (edg L i).2 ≠ 0 := fun x => x g
      rw [if_neg n1, if_neg n2, e2]
    · have n1 : cmpM (phE φ ψ (edg L k)).1 (phE φ ψ (edg L i)).2 ≠ 0 := fun x => g (c.1 x)
      rw [if_pos n1, if_pos g]
theorem nexts_ph {L : List (Pt × Pt)} (hL : LHV L) : nextsM (L.map (phE φ ψ)) = nextsM L := by
  unfold nextsM
  rw [List.length_map]
  exact List.map_congr_left fun i hi => fol_ph hφ hψ hL (List.mem_range.1 hi) _ (Nat.le_refl _)
theorem walk_ph {L : List (Pt × Pt)} (hL : LHV L) {N : List Nat} (hN : ∀ k, k < L.length → N.getD k 0 < L.length) : ∀ (f : Nat) (t : List Bool) (k : Nat), k < L.length → walkM (L.map (phE φ ψ)) N f t k = ((walkM L N f t k).1.map (ph φ ψ), (walkM L N f t k).2) ∧ A1 (walkM L N f t k).1
  | 0, t, k, _ => ⟨rfl, A1.nil⟩
  | f + 1, t, k, hk => by
    have ih := walk_ph hL hN f (t.set k true) (N.getD k 0) (hN k hk)
    have ek := hL.at hk
    have en := hL.at (hN k hk)
    have e1 : turnB (phE φ ψ (edg L k)) (phE φ ψ (edg L (N.getD k 0))) = turnB (edg L k) (edg L (N.getD k 0)) := by
      unfold turnB phE
      dsimp only
      exact dec_iff (not_congr (sg_eq (det_ph hφ hψ ek en.2.1)))
    rw [walkM, walkM, edg_ph, edg_ph, ih.1, e1]
    split
    · exact ⟨rfl, A1.nil⟩
    · dsimp only
      constructor
      · rw [List.map_append]
        congr 2
        split <;> rfl
      · intro q hq
        rcases List.mem_append.1 hq with hq | hq
        · split at hq
          · rw [List.mem_singleton.1 hq]; exact ek.2.1
          · cases hq
        · exact ih.2 q hq
theorem cl_ph : ∀ {l m : List Pt}, A1 l → A1 m → (clM (l.map (ph φ ψ)) (m.map (ph φ ψ))).sign = (clM l m).sign
  | [], m, _, _ => by rw [List.map_nil, clM, clM, List.length_map]
  | p :: l, [], _, _ => by rw [List.map_cons, List.map_nil, clM, clM, List.length_map]
  | p :: l, q :: m, hl, hm => by
    have c := cmp_ph hφ hψ (p := p) (q := q) (.inl (hl p List.mem_cons_self)) (.inl (hm q List.mem_cons_self))
    have c0 := sg_eq c
    rw [List.map_cons, List.map_cons, clM, clM]
    by_cases g : cmpM p q = 0
    · rw [if_neg (fun x => x (c0.2 g)), if_neg (fun x => x g)]
      exact cl_ph (fun z hz => hl z (List.mem_cons_of_mem _ hz)) (fun z hz => hm z (List.mem_cons_of_mem _ hz))
    · rw [if_pos (fun x => g (c0.1 x)), if_pos g]; exact c
omit hφ hψ in
theorem rot_ph (r : List Pt) (i : Nat) : rotL (r.map (ph φ ψ)) i = (rotL r i).map (ph φ ψ) := by
  unfold rotL; rw [List.map_append, List.map_drop, List.map_take]
theorem leastL_ph {r : List Pt} (h : A1 r) : ∀ i, leastL (r.map (ph φ ψ)) i = (leastL r i).map (ph φ ψ)
  | 0 => rfl
  | i + 1 => by
    have c := sg_lt (cl_ph hφ hψ (h.rot i) (h.least i))
    rw [leastL, leastL, leastL_ph h i, rot_ph]
    by_cases g : i = 0 ∨ clM (rotL r i) (leastL r i) < 0
    · rw [if_pos (g.imp id c.2), if_pos g]
    · rw [if_neg (fun x => g (x.imp id c.1)), if_neg g]
omit hφ hψ in
theorem getR_ph (R : List (List Pt)) (i : Nat) : (phR φ ψ R).getD i [] = (R.getD i []).map (ph φ ψ) := by
  unfold phR
  rw [List.getD_eq_getElem?_getD, List.getD_eq_getElem?_getD, List.getElem?_map]
  cases R[i]? with
  | none => rfl
  | some p => rfl
omit hφ hψ in
theorem A1_getR {R : List (List Pt)} (h : ∀ r ∈ R, A1 r) (i : Nat) : A1 (R.getD i []) := by
  by_cases c : i < R.length
  · exact h _ (getD_mem c [])
  · rw [List.getD_eq_getElem?_getD, List.getElem?_eq_none (by omega)]; exact A1.nil
theorem place_ph {R : List (List Pt)} {r : List Pt} (hR : ∀ q ∈ R, A1 q) (hr : A1 r) : ∀ i, placeL (phR φ ψ R) (r.map (ph φ ψ)) i = placeL R r i
  | 0 => rfl
  | i + 1 => by
    have c := sg_lt (cl_ph hφ hψ hr (A1_getR hR i))
    rw [placeL, placeL, getR_ph, place_ph hR hr i]
    by_cases g : clM r (R.getD i []) < 0
    · rw [if_pos (c.2 g), if_pos g]
    · rw [if_neg (fun x => g (c.1 x)), if_neg g]
theorem insL_ph {R : List (List Pt)} {r : List Pt} (hR : ∀ q ∈ R, A1 q) (hr : A1 r) : insL (phR φ ψ R) (r.map (ph φ ψ)) = phR φ ψ (insL R r) := by
  unfold insL
  have hl : (phR φ ψ R).length = R.length := by unfold phR; simp
  rw [hl, place_ph hφ hψ hR hr]
  unfold phR
  rw [List.map_append, List.map_take, List.map_cons, List.map_drop]
theorem rings_ph {L : List (Pt × Pt)} (hL : LHV L) : ∀ i, i ≤ L.length → ringsN (L.map (phE φ ψ)) i = (phR φ ψ (ringsN L i).1, (ringsN L i).2) ∧ ∀ q ∈ (ringsN L i).1, A1 q
  | 0, _ => by
    refine ⟨by rw [ringsN, ringsN, List.length_map]; rfl, fun q hq => by simp [ringsN] at hq⟩
  | i + 1, hi => by
    have ih := rings_ph hL i (by omega)
    have wk := walk_ph hφ hψ hL (nexts_lt L) (L.length + 1) (ringsN L i).2 i (by omega)
    rw [ringsN, ringsN, ih.1, nexts_ph hφ hψ hL]
    unfold stepR
    dsimp only
    rw [List.length_map, wk.1]
    dsimp only
    rw [List.length_map, leastL_ph hφ hψ wk.2, insL_ph hφ hψ ih.2 (wk.2.least _)]
    constructor
    · split <;> rfl
    · intro q hq
      split at hq
      · unfold insL at hq
        rcases List.mem_append.1 hq with hq | hq
        · exact ih.2 q (List.mem_of_mem_take hq)
        · rcases List.mem_cons.1 hq with hq | hq
          · rw [hq]; exact wk.2.least _
          · exact ih.2 q (List.mem_of_mem_drop hq)
      · exact ih.2 q hq
theorem ringsM_ph {L : List (Pt × Pt)} (hL : LHV L) : ringsM (L.map (phE φ ψ)) = phR φ ψ (ringsM L) := by
  unfold ringsM
  rw [List.length_map, (rings_ph hφ hψ hL _ (Nat.le_refl _)).1]
omit hφ hψ in
theorem bad_ph : ∀ (P : List (List Pt)) (room i : Int), badM room i (phR φ ψ P) = badM room i P
  | [], _, _ => rfl
  | r :: P, room, i => by
    have e : phR φ ψ (r :: P) = r.map (ph φ ψ) :: phR φ ψ P := rfl
    rw [e, badM, badM, List.length_map, bad_ph P]
theorem check_ph {P : List (List Pt)} (hE : EHV (edgesM P)) (h : (checkM P).1 = 0) (hg : ∀ e ∈ edgesM P, gridB (ph φ ψ e.1) = true) : (checkM (phR φ ψ P)).1 = 0 := by
  obtain ⟨c1, c2, c3, c4, c5⟩ := check_parts h
  have hl : (phR φ ψ P).length = P.length := by unfold phR; simp
  unfold checkM
  rw [if_neg (by rw [hl]; exact c1), if_neg (by rw [bad_ph]; exact fun k => k c2)]
  have g3 : findM (fun e : Pt × Pt => !gridB e.1) 0 (edgesM (phR φ ψ P)) = -1 := by
    rw [edges_ph, findM_iff _ _ _ (by decide)]
    intro e he
    obtain ⟨f, hf, rfl⟩ := List.mem_map.1 he
    have := hg f hf
    show (!gridB (ph φ ψ f.1)) = false
    rw [this]; rfl
  have g4 : findM (fun e : Pt × Pt => eqB e.1 e.2) 0 (edgesM (phR φ ψ P)) = -1 := by
    rw [edges_ph, findM_iff _ _ _ (by decide)]
    intro e he
    obtain ⟨f, hf, rfl⟩ := List.mem_map.1 he
    have k := hE f hf
    show eqB (ph φ ψ f.1) (ph φ ψ f.2) = false
    unfold eqB
    rw [decide_eq_false_iff_not, ph_1 k.1.1, ph_1 k.1.2.1]
    rintro ⟨z1, z2, _⟩
    have y1 := (fm_eq hφ).1 z1
    have y2 := (fm_eq hψ).1 z2
    rcases pt_ne k.1.1 k.1.2.1 k.2 with x | x
    · exact x y1
    · exact x y2
  have g5 : findM (sharesM (edgesM (phR φ ψ P))) 0 (List.range (edgesM (phR φ ψ P)).length) = -1 := by
    rw [edges_ph, shares_iff, List.pairwise_map]
    rw [shares_iff] at c5
    refine c5.imp_of_mem fun {a b} ha hb k => ?_
    unfold alongB phE at *
    dsimp only
    rw [meet_ph hφ hψ (hE b hb).1 (hE a ha).1 (hE b hb).2 (hE a ha).2]; exact k
  rw [if_neg (fun k => k g3), if_neg (fun k => k g4), if_neg (fun k => k g5)]
/-- What comes of polygons whose edges go straight up or across hangs on the order of their coordinates alone. -/
theorem clip_ph {A B : List (List Pt)} {op : Int} {R : List (List Pt)} (hE : EHV (edgesM A ++ edgesM B)) (hL : LHV (bordM op (piecesM A B))) (h : clipM op A B = (R, 0)) (gA : ∀ e ∈ edgesM A, gridB (ph φ ψ e.1) = true) (gB : ∀ e ∈ edgesM B, gridB (ph φ ψ e.1) = true) : clipM op (phR φ ψ A) (phR φ ψ B) = (phR φ ψ R, 0) := by
  have hA : EHV (edgesM A) := fun e he => hE e (List.mem_append.2 (.inl he))
  have hB : EHV (edgesM B) := fun e he => hE e (List.mem_append.2 (.inr he))
  have h2 : (clipM op A B).2 = 0 := by rw [h]
  unfold clipM at h h2
  by_cases c0 : op < 0 ∨ op > 4
  · rw [if_pos c0] at h2; simp at h2
  rw [if_neg c0] at h h2
  by_cases c : bothM A B = 0
  · rw [if_neg (by simpa using c)] at h
    obtain ⟨h1, h3⟩ := both_zero c
    have b : bothM (phR φ ψ A) (phR φ ψ B) = 0 := by
      unfold bothM
      rw [if_neg (fun k => k (check_ph hφ hψ hA h1 gA))]
      exact check_ph hφ hψ hB h3 gB
    unfold clipM
    rw [if_neg c0, if_neg (by simpa using b), pieces_ph hφ hψ hE, bord_ph, ringsM_ph hφ hψ hL]
    injection h with h _
    rw [h]
  · rw [if_pos c] at h2; exact absurd h2 c
end
end Go.Proofs.Ytnkcbephceollaa
