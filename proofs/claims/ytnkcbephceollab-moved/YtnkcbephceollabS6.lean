import Derived.Test.YtnkcbephceollabS5
namespace Go.Proofs.Ytnkcbephceollab
set_option linter.unusedSimpArgs false
set_option linter.unusedVariables false

theorem check_parts {P : List (List Pt)} (h : (checkM P).1 = 0) : ¬ 4 < P.length ∧ badM 12 0 P = -1 ∧ findM (fun e : Pt × Pt => !gridB e.1) 0 (edgesM P) = -1 ∧ findM (fun e : Pt × Pt => eqB e.1 e.2) 0 (edgesM P) = -1 ∧ findM (sharesM (edgesM P)) 0 (List.range (edgesM P).length) = -1 := by
  unfold checkM at h
  by_cases c1 : 4 < P.length
  · rw [if_pos c1] at h; simp at h
  rw [if_neg c1] at h
  by_cases c2 : badM 12 0 P = -1
  · rw [if_neg (by simpa using c2)] at h
    by_cases c3 : findM (fun e : Pt × Pt => !gridB e.1) 0 (edgesM P) = -1
    · rw [if_neg (by simpa using c3)] at h
      by_cases c4 : findM (fun e : Pt × Pt => eqB e.1 e.2) 0 (edgesM P) = -1
      · rw [if_neg (by simpa using c4)] at h
        by_cases c5 : findM (sharesM (edgesM P)) 0 (List.range (edgesM P).length) = -1
        · exact ⟨c1, c2, c3, c4, c5⟩
        · rw [if_pos c5] at h; simp at h
      · rw [if_pos c4] at h; simp at h
    · rw [if_pos c3] at h; simp at h
  · rw [if_pos c2] at h; simp at h
theorem check_made {P : List (List Pt)} (c1 : ¬ 4 < P.length) (c2 : badM 12 0 P = -1) (c4 : findM (fun e : Pt × Pt => eqB e.1 e.2) 0 (edgesM P) = -1) (c5 : findM (sharesM (edgesM P)) 0 (List.range (edgesM P).length) = -1) : (checkM P).1 = 0 ∨ (checkM P).1 = 3 := by
  unfold checkM
  rw [if_neg c1, if_neg (by simpa using c2)]
  by_cases c3 : findM (fun e : Pt × Pt => !gridB e.1) 0 (edgesM P) = -1
  · rw [if_neg (by simpa using c3), if_neg (by simpa using c4), if_neg (by simpa using c5)]
    exact .inl rfl
  · rw [if_pos c3]
    exact .inr rfl
section
variable (x y : Int)
theorem bad_mv : ∀ (P : List (List Pt)) (room i : Int), badM room i (mvR x y P) = badM room i P
  | [], _, _ => rfl
  | r :: P, room, i => by
    have e : mvR x y (r :: P) = r.map (mv x y) :: mvR x y P := rfl
    rw [e, badM, badM, List.length_map, bad_mv P]
theorem eq_mv (a b : Pt) : eqB (mv x y a) (mv x y b) = eqB a b := by
  unfold eqB mv
  rw [decide_eq_decide]
  constructor
  · rintro ⟨h1, h2, h3⟩
    dsimp only at h1 h2 h3
    rw [h3] at h1 h2
    exact ⟨by omega, by omega, h3⟩
  · rintro ⟨h1, h2, h3⟩
    dsimp only
    rw [h1, h2, h3]; exact ⟨rfl, rfl, rfl⟩
theorem along_mv {e f : Pt × Pt} (he : e.1.d = 1 ∧ e.2.d = 1) (hf : f.1.d = 1 ∧ f.2.d = 1) : alongB (mvE x y e) (mvE x y f) = alongB e f := by
  unfold alongB mvE
  dsimp only
  rw [meet_mv x y he.1 he.2 hf.1 hf.2]; rfl
theorem d1_sound {P : List (List Pt)} (h : Sound P) : D1 (edgesM P) := fun e he => by
  have := sound_eg h e he
  exact ⟨this.1.d, this.2.1.d⟩
theorem d1_both {A B : List (List Pt)} (sA : Sound A) (sB : Sound B) : D1 (edgesM A ++ edgesM B) := fun e he => by
  rcases List.mem_append.1 he with he | he
  · exact d1_sound sA e he
  · exact d1_sound sB e he
theorem check_mv {P : List (List Pt)} (h : (checkM P).1 = 0) : (checkM (mvR x y P)).1 = 0 ∨ (checkM (mvR x y P)).1 = 3 := by
  have dd := d1_sound (sound_of h)
  obtain ⟨c1, c2, c3, c4, c5⟩ := check_parts h
  have hl : (mvR x y P).length = P.length := by unfold mvR; simp
  refine check_made (by rw [hl]; exact c1) (by rw [bad_mv]; exact c2) ?_ ?_
  · rw [edges_mv, findM_iff _ _ _ (by decide)]
    rw [findM_iff _ _ _ (by decide)] at c4
    intro e he
    obtain ⟨f, hf, rfl⟩ := List.mem_map.1 he
    have : eqB (mvE x y f).1 (mvE x y f).2 = eqB f.1 f.2 := eq_mv x y _ _
    rw [this]; exact c4 f hf
  · rw [edges_mv, shares_iff, List.pairwise_map]
    rw [shares_iff] at c5
    refine c5.imp_of_mem fun {a b} ha hb k => ?_
    rw [along_mv x y (dd b hb) (dd a ha)]; exact k
theorem both_mv {A B : List (List Pt)} (h : bothM A B = 0) : bothM (mvR x y A) (mvR x y B) = 0 ∨ bothM (mvR x y A) (mvR x y B) = 3 := by
  obtain ⟨h1, h2⟩ := both_zero h
  unfold bothM
  rcases check_mv x y h1 with a | a
  · rw [if_neg (by simpa using a)]
    exact check_mv x y h2
  · rw [if_pos (by rw [a]; decide)]
    exact .inr a
theorem clip_mv {A B : List (List Pt)} (op : Int) (h : (clipM op A B).2 = 0) : (clipM op (mvR x y A) (mvR x y B)).2 = 3 ∨ clipM op (mvR x y A) (mvR x y B) = (mvR x y (clipM op A B).1, 0) := by
  unfold clipM at h
  by_cases c0 : op < 0 ∨ op > 4
  · rw [if_pos c0] at h; simp at h
  rw [if_neg c0] at h
  by_cases c : bothM A B = 0
  · obtain ⟨h1, h2⟩ := both_zero c
    have e1 : clipM op A B = (ringsM (bordM op (piecesM A B)), 0) := by
      unfold clipM; rw [if_neg c0, if_neg (by simpa using c)]
    rcases both_mv x y c with b | b
    · right
      rw [e1]
      unfold clipM
      rw [if_neg c0, if_neg (by simpa using b), pieces_mv x y (d1_both (sound_of h1) (sound_of h2)), bord_mv, ringsM_mv]
    · left
      unfold clipM
      rw [if_neg c0, if_pos (by rw [b]; decide)]
      exact b
  · rw [if_pos c] at h; exact absurd h c
end
end Go.Proofs.Ytnkcbephceollab
