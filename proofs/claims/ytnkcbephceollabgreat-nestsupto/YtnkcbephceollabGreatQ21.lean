import Derived.Test.YtnkcbephceollabGreatQ20
namespace Go.Proofs.YtnkcbephceollabGreat
open Go.RowKit
set_option linter.unusedSimpArgs false
set_option linter.unusedVariables false

theorem set3 (u0 u1 u2 : Value) : ∀ (o : Nat) (l : List Value), o + 3 ≤ l.length → (((l.set o u0).set (o + 1) u1).set (o + 2) u2) = l.take o ++ ([u0, u1, u2] ++ l.drop (o + 3))
  | 0, l, h => by
    match l, h with
    | a0 :: a1 :: a2 :: l', _ => simp
  | o + 1, l, h => by
    match l, h with
    | x :: l', h =>
      have ih := set3 u0 u1 u2 o l' (by simp at h; omega)
      have e : ∀ j, o + 1 + j = o + j + 1 := fun j => by omega
      simp only [e, List.set_cons_succ, List.take_succ_cons, List.drop_succ_cons, List.cons_append]
      rw [ih]; rfl
abbrev set3W (w : World) (g o : Nat) (m : Int) : World := ((w.setCell ⟨g, o, none⟩ (.int .i64 0)).setCell ⟨g, o + 1, none⟩ (.int .i64 m)).setCell ⟨g, o + 2, none⟩ (.int .i64 0)
theorem own_set3 {w : World} {base g n cap k : Nat} {m : Int} {e : TypeId} {xs : List Value} (h : w.ownsRow base e 3 (.slice (some ⟨g, 0, none⟩) n cap) n (rep k (ptMk m) ++ xs.drop (k * 3))) (hxl : xs.length = n * 3) (hlt : k < n) :
    (set3W w g (k * 3) m).drew.ownsRow base e 3 (.slice (some ⟨g, 0, none⟩) n cap) n (rep (k + 1) (ptMk m) ++ xs.drop ((k + 1) * 3)) := by
  have hrl : (rep k (ptMk m)).length = k * 3 := by rw [rep_len]; rfl
  have e3 := set3 (.int .i64 0) (.int .i64 m) (.int .i64 0) (k * 3) (rep k (ptMk m) ++ xs.drop (k * 3)) (by rw [List.length_append, hrl, List.length_drop]; omega)
  have t1 : (rep k (ptMk m) ++ xs.drop (k * 3)).take (k * 3) = rep k (ptMk m) := List.take_left' hrl
  have t2 : (rep k (ptMk m) ++ xs.drop (k * 3)).drop (k * 3 + 3) = xs.drop ((k + 1) * 3) := by
    rw [List.drop_append, hrl, List.drop_of_length_le (by omega), List.nil_append, List.drop_drop]
    congr 1; omega
  rw [t1, t2, ← List.append_assoc, ← rep_succ] at e3
  have o1 := own_set h g rfl (k * 3) (.int .i64 0)
  have o2 := own_set o1 g rfl (k * 3 + 1) (.int .i64 m)
  have o3 := own_set o2 g rfl (k * 3 + 2) (.int .i64 0)
  rw [e3] at o3
  generalize hW : set3W w g (k * 3) m = W
  have o4 : W.ownsRow base e 3 (.slice (some ⟨g, 0, none⟩) n cap) n (rep (k + 1) (ptMk m) ++ xs.drop ((k + 1) * 3)) := by rw [← hW]; exact o3
  exact o4
theorem kp_set3 {X : Nat → Prop} {w w' : World} {g o : Nat} {m : Int} (h : Kp X w w') (hg : X g) : Kp X w (set3W w' g o m).drew :=
  ((((h.setCell (fun _ => hg) _).setCell (fun _ => hg) _).setCell (fun _ => hg) _)).drew

set_option maxRecDepth 100000 in
set_option maxHeartbeats 4000000 in
/-- The points of a hold are marked; the row may have spare room. -/
theorem marks_pointsO (base h n : Nat) (m : Int) (cv : Value) (xs : List Value) (w : World) (hne : cv.ownBlock ≠ some h) (hn : n ≤ 1100000) (hh : Blk w h #[.slice none 0 0, cv, .slice none 0 0, .slice none 0 0, .int .i64 m]) (hc : w.ownsRow base 31 3 cv n xs) :
    Calls Tryz.prog 51 #[.pointer (some ⟨h, 0, none⟩)] w fun e w' => e = .returned (.tuple #[]) ∧ w'.ownsRow base 31 3 cv n (rep n (ptMk m)) ∧ Kp (fun b => cv.ownBlock = some b) w w' := by
  obtain ⟨a, cap, hcv, hag⟩ : ∃ a cap, cv = .slice a n cap ∧ (0 < n → ∃ g, a = some ⟨g, 0, none⟩) := by
    rcases hc.2 with ⟨rfl, hn⟩ | ⟨g, cap, cur, rfl, _⟩
    · exact ⟨none, 0, by rw [hn], fun h => by omega⟩
    · exact ⟨some ⟨g, 0, none⟩, cap, rfl, fun _ => ⟨g, rfl⟩⟩
  subst hcv
  have hxl : xs.length = n * 3 := hc.1
  obtain ⟨d0, d1, d2, d3, d4⟩ := And.intro (hh.cell 0) (And.intro (hh.cell 1) (And.intro (hh.cell 2) (And.intro (hh.cell 3) (hh.cell 4))))
  simp at d0 d1 d2 d3 d4
  go_enter Tryz.func51, Tryz.ntmps51
  go_wp2_with fail
  refine wp_loop_rounds 1 ?_
  rw [rounds_succ]
  go_wp2_with fail
  go_loopw [3] (fun i w' => ∃ k : Nat, i = .int .i64 k ∧ k ≤ n ∧ w'.ownsRow base 31 3 (.slice a n cap) n (rep k (ptMk m) ++ xs.drop (k * 3)) ∧ Kp (fun b => (Value.slice a n cap).ownBlock = some b) w w') (fun i _ => n - (intOf i).toNat)
  case atStart => exact ⟨0, rfl, Nat.zero_le _, by simpa [rep] using hc, Kp.refl _ _⟩
  case round =>
    obtain ⟨k, rfl, hk, hO, hkp⟩ := hrel
    have hcell : ∀ o, wr.cell? ⟨h, o, none⟩ = w.cell? ⟨h, o, none⟩ := fun o => World.cell?_of_block (w := w) (hkp.block h hh.lt hne)
    have c0 := (hcell 0).trans d0
    have c1 := (hcell 1).trans d1
    have c2 := (hcell 2).trans d2
    have c3 := (hcell 3).trans d3
    have c4 := (hcell 4).trans d4
    clear hcell d0 d1 d2 d3 d4
    by_cases hlt : k < n
    · obtain ⟨g, rfl⟩ := hag (by omega)
      have hl := (hO.lt g rfl).2
      have hf : ∀ o, wr.frozen? ⟨g, o, none⟩ = false := fun o => own_free hO g rfl o
      have hx : ∀ t, t < 3 → ∃ u, wr.cell? ⟨g, k * 3 + t, none⟩ = some u := fun t ht => by
        have := hO.cellAt (k * 3 + t) (by omega)
        rw [List.getElem?_eq_getElem (by rw [List.length_append, rep_len, List.length_drop]; simp [ptMk]; omega)] at this
        exact ⟨_, this⟩
      obtain ⟨x0, hx0⟩ := hx 0 (by decide)
      obtain ⟨x1, hx1⟩ := hx 1 (by decide)
      obtain ⟨x2, hx2⟩ := hx 2 (by decide)
      simp only [Nat.add_zero] at hx0
      have hhl : h < wr.heap.size := Nat.lt_of_lt_of_le hh.lt hkp.size
      have hgh : g ≠ h := fun e => hne (by rw [e]; rfl)
      have hk0 : (0 : Int) ≤ (k : Int) := Int.natCast_nonneg _
      have hk1 : (k : Int) < (n : Int) := by omega
      have hk2 : k + 1 ≤ n := hlt
      have HO := hide (own_set3 hO hxl hlt)
      have HKP := hide (kp_set3 (g := g) (o := k * 3) (m := m) hkp rfl)
      clear hO hkp hx hag
      go_wp2_with fail
      go_region
      go_wp2
      exact ⟨⟨k + 1, by go_num, hk2, HO.out, HKP.out⟩, by simp [intOf]; omega⟩
    · have ek : k = n := by omega
      subst ek
      have HO : Hid (wr.ownsRow base 31 3 (.slice a k cap) k (rep k (ptMk m))) := by
        have : rep k (ptMk m) ++ xs.drop (k * 3) = rep k (ptMk m) := by rw [List.drop_of_length_le (by omega), List.append_nil]
        rw [this] at hO
        exact hO
      have HKP := hide hkp
      clear hO hkp hag
      go_wp2_with fail
      refine wp_loop_rounds 1 ?_
      rw [rounds_succ]
      go_wp2_with fail
      refine wp_loop_rounds 1 ?_
      rw [rounds_succ]
      go_wp2
      go_end0
      exact ⟨rfl, HO.out, HKP.out⟩

abbrev oneS (g : Nat) : Value := .slice (some ⟨g, 0, none⟩) 1 1
theorem one_set {rs : List Nat} {xs : List Value} {k q : Nat} (hk : rs.length = k) (hx : k < xs.length) : (rs.map oneS ++ xs.drop k).set k (oneS q) = (rs ++ [q]).map oneS ++ xs.drop (k + 1) := by
  rw [List.set_append_right _ _ (by simp; omega), List.drop_eq_getElem_cons hx]
  have e : k - (rs.map oneS).length = 0 := by simp; omega
  rw [e, List.set_cons_zero, List.map_append]
  simp

set_option maxRecDepth 100000 in
set_option maxHeartbeats 4000000 in
/-- The rings of a hold are marked; the row may have spare room. -/
theorem marks_ringsO (base h n : Nat) (m : Int) (cv : Value) (xs : List Value) (w : World) (hne : cv.ownBlock ≠ some h) (hn : n ≤ 1100000) (hh : Blk w h #[cv, .slice none 0 0, .slice none 0 0, .slice none 0 0, .int .i64 m]) (hc : w.ownsRow base 57 1 cv n xs) :
    Calls Tryz.prog 51 #[.pointer (some ⟨h, 0, none⟩)] w fun e w' => e = .returned (.tuple #[]) ∧ ∃ rs : List Nat, rs.length = n ∧ w'.ownsRow base 57 1 cv n (rs.map oneS) ∧ (∀ g ∈ rs, w.heap.size ≤ g ∧ Blk w' g #[.int .i64 m, .int .i64 0, .int .i64 0]) ∧ Kp (fun b => cv.ownBlock = some b) w w' := by
  obtain ⟨a, cap, hcv, hag⟩ : ∃ a cap, cv = .slice a n cap ∧ (0 < n → ∃ g, a = some ⟨g, 0, none⟩) := by
    rcases hc.2 with ⟨rfl, hn⟩ | ⟨g, cap, cur, rfl, _⟩
    · exact ⟨none, 0, by rw [hn], fun h => by omega⟩
    · exact ⟨some ⟨g, 0, none⟩, cap, rfl, fun _ => ⟨g, rfl⟩⟩
  subst hcv
  have hxl : xs.length = n * 1 := hc.1
  have HLT := hide hc.lt
  obtain ⟨d0, d1, d2, d3, d4⟩ := And.intro (hh.cell 0) (And.intro (hh.cell 1) (And.intro (hh.cell 2) (And.intro (hh.cell 3) (hh.cell 4))))
  simp at d0 d1 d2 d3 d4
  go_enter Tryz.func51, Tryz.ntmps51
  go_wp2_with fail
  go_loopw [2] (fun i w' => ∃ (k : Nat) (rs : List Nat), i = .int .i64 k ∧ k ≤ n ∧ rs.length = k ∧ w'.ownsRow base 57 1 (.slice a n cap) n (rs.map oneS ++ xs.drop k) ∧ (∀ g ∈ rs, w.heap.size ≤ g ∧ Blk w' g #[.int .i64 m, .int .i64 0, .int .i64 0]) ∧ Kp (fun b => (Value.slice a n cap).ownBlock = some b) w w') (fun i _ => n - (intOf i).toNat)
  case atStart => exact ⟨0, [], rfl, Nat.zero_le _, rfl, by simpa using hc, fun g hg => (by cases hg), Kp.refl _ _⟩
  case round =>
    obtain ⟨k, rs, rfl, hk, hrs, hO, hmk, hkp⟩ := hrel
    have hcell : ∀ o, wr.cell? ⟨h, o, none⟩ = w.cell? ⟨h, o, none⟩ := fun o => World.cell?_of_block (w := w) (hkp.block h hh.lt hne)
    have c0 := (hcell 0).trans d0
    have c1 := (hcell 1).trans d1
    have c2 := (hcell 2).trans d2
    have c3 := (hcell 3).trans d3
    have c4 := (hcell 4).trans d4
    clear hcell d0 d1 d2 d3 d4
    by_cases hlt : k < n
    · obtain ⟨g, rfl⟩ := hag (by omega)
      have hl := (hO.lt g rfl).2
      have hgw := (HLT.out g rfl).2
      have hf : ∀ o, wr.frozen? ⟨g, o, none⟩ = false := fun o => own_free hO g rfl o
      obtain ⟨x0, hx0⟩ : ∃ u, wr.cell? ⟨g, k, none⟩ = some u := by
        have := hO.cellAt k (by omega)
        rw [List.getElem?_eq_getElem (by rw [List.length_append, List.length_map, List.length_drop]; omega)] at this
        exact ⟨_, this⟩
      have hhl : h < wr.heap.size := Nat.lt_of_lt_of_le hh.lt hkp.size
      have hgh : g ≠ h := fun e => hne (by rw [e]; rfl)
      have hk0 : (0 : Int) ≤ (k : Int) := Int.natCast_nonneg _
      have hk1 : (k : Int) < (n : Int) := by omega
      have hk2 : k + 1 ≤ n := hlt
      have o1 := own_set hO g rfl k (oneS wr.heap.size)
      rw [one_set hrs (by omega)] at o1
      have HO := hide o1
      have HKP := hide hkp
      have HM := hide hmk
      have hzs := hkp.size
      clear hO hkp hag o1 hmk
      go_wp2_with fail
      go_region
      go_wp2
      refine ⟨⟨k + 1, rs ++ [wr.heap.size], by go_num, hk2, by rw [List.length_append, hrs]; rfl, (HO.out.alloc _).drew, fun q hq => ?_, ((HKP.out.setCell (p := ⟨g, k, none⟩) (fun _ => rfl) _).alloc _).drew⟩, by simp [intOf]; omega⟩
      rcases List.mem_append.1 hq with hq | hq
      · obtain ⟨m1, m2⟩ := HM.out q hq
        exact ⟨m1, ((m2.off (by omega) _ _).alloc _).drew⟩
      · rw [List.mem_singleton.1 hq]
        exact ⟨hzs, (Blk.at _ (by simp)).drew⟩
    · have ek : k = n := by omega
      subst ek
      have HO : Hid (wr.ownsRow base 57 1 (.slice a k cap) k (rs.map oneS)) := by
        have : rs.map oneS ++ xs.drop k = rs.map oneS := by rw [List.drop_of_length_le (by omega), List.append_nil]
        rw [this] at hO
        exact hO
      have HKP := hide hkp
      have HM := hide hmk
      clear hO hkp hag hmk
      go_wp2_with fail
      refine wp_loop_rounds 1 ?_
      rw [rounds_succ]
      go_wp2_with fail
      refine wp_loop_rounds 1 ?_
      rw [rounds_succ]
      go_wp2_with fail
      refine wp_loop_rounds 1 ?_
      rw [rounds_succ]
      go_wp2
      go_end0
      exact ⟨rfl, rs, hrs, HO.out, HM.out, HKP.out⟩
end Go.Proofs.YtnkcbephceollabGreat
namespace Go.Proofs.YtnkcbephceollabGreat
open Go.RowKit
set_option linter.unusedSimpArgs false
set_option linter.unusedVariables false

/-- What 'marks' makes of a hold of rings; the row may have spare room. -/
theorem fam_ringsO (w : World) (base h n : Nat) (m m0 : Int) (cv : Value) (xs : List Value) (hne : cv.ownBlock ≠ some h) (hn : n ≤ 1100000) (hh : Blk w h #[cv, .slice none 0 0, .slice none 0 0, .slice none 0 0, .int .i64 m0]) (hc : w.ownsRow base 57 1 cv n xs) :
    Calls Tryz.prog 51 #[.pointer (some ⟨h, 0, none⟩)] (w.setCell ⟨h, 4, none⟩ (.int .i64 m)) fun e w' => e = .returned (.tuple #[]) ∧ ∃ rs, Fam w' base m cv (.slice none 0 0) (.slice none 0 0) (.slice none 0 0) n 0 0 0 rs ∧ (∀ q ∈ rs, w.heap.size ≤ q) ∧ Kp (fun b => cv.ownBlock = some b ∨ (Value.slice none 0 0).ownBlock = some b ∨ (Value.slice none 0 0).ownBlock = some b ∨ (Value.slice none 0 0).ownBlock = some b) (w.setCell ⟨h, 4, none⟩ (.int .i64 m)) w' := by
  have hh1 := hh.set 4 (by simp) (.int .i64 m)
  have hlt := hc.lt
  refine (marks_ringsO base h n m cv xs (w.setCell ⟨h, 4, none⟩ (.int .i64 m)) hne hn (by simpa using hh1) (own_off hc hne _ _)).mono ?_
  rintro e w' ⟨rfl, rs, hrl, ho, hmk, hkp⟩
  refine ⟨rfl, rs, ⟨hrl, ho, fun q hq => ?_, own_nil _ _ _ _, own_nil _ _ _ _, own_nil _ _ _ _, fun q hq => ?_⟩, fun q hq => ?_, hkp.weaken fun b _ e => .inl e⟩
  · have b := (hmk q hq).2
    exact ⟨b.cell 0, b.cell 1, b.cell 2⟩
  · have l := (hmk q hq).1
    simp at l
    exact ⟨fun e => by have := (hlt q e).2; omega, nil_own _, nil_own _, nil_own _⟩
  · have l := (hmk q hq).1
    simpa using l
/-- 'keep' of a list of rings that came out; it may have spare room. -/
theorem keep_ringsO (base wb n : Nat) (hv cv : Value) (L : List Nat) (X : Nat → Prop) (xs : List Value) (w : World) (hL : L.length ≤ 1000000000000) (hn : n ≤ 1100000) (hX : ∀ b, X b → b < w.heap.size) (hbase : base ≤ w.heap.size)
    (hW : Wld w base wb hv L (FX (fun b _ => ¬ X b ∧ cv.ownBlock ≠ some b) wb hv)) (hc : w.ownsRow base 57 1 cv n xs) (hx : ∀ b, cv.ownBlock = some b → ¬ X b ∧ hv.ownBlock ≠ some b) :
    Calls Tryz.prog 27 #[.pointer (some ⟨wb, 0, none⟩), .pointer (some ⟨w.heap.size, 0, none⟩)] (w.alloc (.cells #[cv, .slice none 0 0, .slice none 0 0, .slice none 0 0, .int .i64 0] 60)) fun e w' => e = .returned (.tuple #[]) ∧ ∃ hv' L', L'.length = L.length + 4 ∧ Wld w' base wb hv' L' (FX (fun b _ => ¬ X b) wb hv') ∧ Kp (fun b => b = wb ∨ hv.ownBlock = some b ∨ cv.ownBlock = some b) w w' ∧ Fresh w hv hv' := by
  have hh := Blk.new w #[cv, .slice none 0 0, .slice none 0 0, .slice none 0 0, .int .i64 0] 60
  have hbl := (Below.refl w.heap.size w).alloc (Nat.le_refl _) (.cells #[cv, .slice none 0 0, .slice none 0 0, .slice none 0 0, .int .i64 0] 60)
  have hwl := hW.blk.lt
  have hcl : ∀ b, cv.ownBlock = some b → base ≤ b ∧ b < w.heap.size := fun b e => hc.lt b e
  have hW1 : Wld (w.alloc (.cells #[cv, .slice none 0 0, .slice none 0 0, .slice none 0 0, .int .i64 0] 60)) base wb hv L (FX (fun b _ => ¬ X b ∧ b ≠ w.heap.size ∧ cv.ownBlock ≠ some b ∧ (Value.slice none 0 0).ownBlock ≠ some b ∧ (Value.slice none 0 0).ownBlock ≠ some b ∧ (Value.slice none 0 0).ownBlock ≠ some b) wb hv) := by
    refine hW.kp (X := fun _ => False) (Kp.of hbl) (fun e => e) (fun _ _ e => e) (fun b o u ⟨⟨x1, x2⟩, x3, x4⟩ hc => ?_)
    have hlt : b < w.heap.size := World.block_lt_of_cell? w ⟨b, o, none⟩ hc
    exact ⟨(hbl.cell (p := ⟨b, o, none⟩) hlt).trans hc, ⟨x1, by omega, x2, nil_own _, nil_own _, nil_own _⟩, x3, x4⟩
  refine (keep_any base wb w.heap.size hv L X _ _ _ _ n 0 0 0 0 _ hL hn (by omega) (by omega) (by omega) (fun b e => by have := hX b e; simp; omega) hW1 hh (by omega) (fun e => by have := (hW.own.lt _ e).2; omega) (fun e => by have := hX _ e; omega) (fun e => by have := hcl _ e; omega) (nil_own _) (nil_own _) (nil_own _) ?_ (by simp; omega) ?_).mono ?_
  · intro b e
    rcases e with e | e | e | e
    · exact ⟨(hx b e).1, (hx b e).2, by have := hW.lt; have := hcl b e; omega⟩
    · exact absurd e (nil_own _)
    · exact absurd e (nil_own _)
    · exact absurd e (nil_own _)
  · exact (fam_ringsO _ base w.heap.size n _ 0 cv xs (fun e => by have := hcl _ e; omega) hn hh (hc.alloc _))
  · rintro e w' ⟨rfl, hv', L', hl, hW', hk, hf⟩
    refine ⟨rfl, hv', L', hl, hW', ⟨hk.os, hk.tape, hk.output, by have := hk.size; simp at this; omega, fun b hb hnx => ?_⟩, ?_⟩
    · refine (hk.block b (by simp; omega) (fun e => hnx ?_)).trans (hbl.block b hb)
      rcases e with e | e | e | e | e | e | e
      · exact .inl e
      · exact .inr (.inl e)
      · omega
      · exact .inr (.inr e)
      · exact absurd e (nil_own _)
      · exact absurd e (nil_own _)
      · exact absurd e (nil_own _)
    · rcases hf with hf | ⟨k, hf, hk⟩
      · exact .inl hf
      · exact .inr ⟨k, hf, by simp at hk; omega⟩
/-- What 'marks' makes of a hold of points; the row may have spare room. -/
theorem fam_pointsO (w : World) (base h n : Nat) (m m0 : Int) (cv : Value) (xs : List Value) (hne : cv.ownBlock ≠ some h) (hn : n ≤ 1100000) (hh : Blk w h #[.slice none 0 0, cv, .slice none 0 0, .slice none 0 0, .int .i64 m0]) (hc : w.ownsRow base 31 3 cv n xs) :
    Calls Tryz.prog 51 #[.pointer (some ⟨h, 0, none⟩)] (w.setCell ⟨h, 4, none⟩ (.int .i64 m)) fun e w' => e = .returned (.tuple #[]) ∧ ∃ rs, Fam w' base m (.slice none 0 0) cv (.slice none 0 0) (.slice none 0 0) 0 n 0 0 rs ∧ (∀ q ∈ rs, w.heap.size ≤ q) ∧ Kp (fun b => (Value.slice none 0 0).ownBlock = some b ∨ cv.ownBlock = some b ∨ (Value.slice none 0 0).ownBlock = some b ∨ (Value.slice none 0 0).ownBlock = some b) (w.setCell ⟨h, 4, none⟩ (.int .i64 m)) w' := by
  have hh1 := hh.set 4 (by simp) (.int .i64 m)
  refine (marks_pointsO base h n m cv xs (w.setCell ⟨h, 4, none⟩ (.int .i64 m)) hne hn (by simpa using hh1) (own_off hc hne _ _)).mono ?_
  rintro e w' ⟨rfl, ho, hkp⟩
  exact ⟨rfl, [], ⟨rfl, own_nil _ _ _ _, fun q hq => (by cases hq), ho, own_nil _ _ _ _, own_nil _ _ _ _, fun q hq => (by cases hq)⟩, (fun q hq => by cases hq), hkp.weaken fun b _ e => .inr (.inl e)⟩
/-- 'keep' of a list of points that came out; it may have spare room. -/
theorem keep_pointsO (base wb n : Nat) (hv cv : Value) (L : List Nat) (X : Nat → Prop) (xs : List Value) (w : World) (hL : L.length ≤ 1000000000000) (hn : n ≤ 1100000) (hX : ∀ b, X b → b < w.heap.size) (hbase : base ≤ w.heap.size)
    (hW : Wld w base wb hv L (FX (fun b _ => ¬ X b ∧ cv.ownBlock ≠ some b) wb hv)) (hc : w.ownsRow base 31 3 cv n xs) (hx : ∀ b, cv.ownBlock = some b → ¬ X b ∧ hv.ownBlock ≠ some b) :
    Calls Tryz.prog 27 #[.pointer (some ⟨wb, 0, none⟩), .pointer (some ⟨w.heap.size, 0, none⟩)] (w.alloc (.cells #[.slice none 0 0, cv, .slice none 0 0, .slice none 0 0, .int .i64 0] 60)) fun e w' => e = .returned (.tuple #[]) ∧ ∃ hv' L', L'.length = L.length + 4 ∧ Wld w' base wb hv' L' (FX (fun b _ => ¬ X b) wb hv') ∧ Kp (fun b => b = wb ∨ hv.ownBlock = some b ∨ cv.ownBlock = some b) w w' ∧ Fresh w hv hv' := by
  have hh := Blk.new w #[.slice none 0 0, cv, .slice none 0 0, .slice none 0 0, .int .i64 0] 60
  have hbl := (Below.refl w.heap.size w).alloc (Nat.le_refl _) (.cells #[.slice none 0 0, cv, .slice none 0 0, .slice none 0 0, .int .i64 0] 60)
  have hwl := hW.blk.lt
  have hcl : ∀ b, cv.ownBlock = some b → base ≤ b ∧ b < w.heap.size := fun b e => hc.lt b e
  have hW1 : Wld (w.alloc (.cells #[.slice none 0 0, cv, .slice none 0 0, .slice none 0 0, .int .i64 0] 60)) base wb hv L (FX (fun b _ => ¬ X b ∧ b ≠ w.heap.size ∧ (Value.slice none 0 0).ownBlock ≠ some b ∧ cv.ownBlock ≠ some b ∧ (Value.slice none 0 0).ownBlock ≠ some b ∧ (Value.slice none 0 0).ownBlock ≠ some b) wb hv) := by
    refine hW.kp (X := fun _ => False) (Kp.of hbl) (fun e => e) (fun _ _ e => e) (fun b o u ⟨⟨x1, x2⟩, x3, x4⟩ hc => ?_)
    have hlt : b < w.heap.size := World.block_lt_of_cell? w ⟨b, o, none⟩ hc
    exact ⟨(hbl.cell (p := ⟨b, o, none⟩) hlt).trans hc, ⟨x1, by omega, nil_own _, x2, nil_own _, nil_own _⟩, x3, x4⟩
  refine (keep_any base wb w.heap.size hv L X _ _ _ _ 0 n 0 0 0 _ hL (by omega) hn (by omega) (by omega) (fun b e => by have := hX b e; simp; omega) hW1 hh (by omega) (fun e => by have := (hW.own.lt _ e).2; omega) (fun e => by have := hX _ e; omega) (nil_own _) (fun e => by have := hcl _ e; omega) (nil_own _) (nil_own _) ?_ (by simp; omega) ?_).mono ?_
  · intro b e
    rcases e with e | e | e | e
    · exact absurd e (nil_own _)
    · exact ⟨(hx b e).1, (hx b e).2, by have := hW.lt; have := hcl b e; omega⟩
    · exact absurd e (nil_own _)
    · exact absurd e (nil_own _)
  · exact (fam_pointsO _ base w.heap.size n _ 0 cv xs (fun e => by have := hcl _ e; omega) hn hh (hc.alloc _))
  · rintro e w' ⟨rfl, hv', L', hl, hW', hk, hf⟩
    refine ⟨rfl, hv', L', hl, hW', ⟨hk.os, hk.tape, hk.output, by have := hk.size; simp at this; omega, fun b hb hnx => ?_⟩, ?_⟩
    · refine (hk.block b (by simp; omega) (fun e => hnx ?_)).trans (hbl.block b hb)
      rcases e with e | e | e | e | e | e | e
      · exact .inl e
      · exact .inr (.inl e)
      · omega
      · exact absurd e (nil_own _)
      · exact .inr (.inr e)
      · exact absurd e (nil_own _)
      · exact absurd e (nil_own _)
    · rcases hf with hf | ⟨k, hf, hk⟩
      · exact .inl hf
      · exact .inr ⟨k, hf, by simp at hk; omega⟩
end Go.Proofs.YtnkcbephceollabGreat
namespace Go.Proofs.YtnkcbephceollabGreat
open Go.RowKit
set_option linter.unusedSimpArgs false
set_option linter.unusedVariables false

set_option maxHeartbeats 1000000 in
theorem sideOf_any (p q a b : Pt) (w : World) (hp : Gd p) (hq : Gd q) (ha : Gd a) (hb : Gd b) :
    Calls Tryz.prog 111 #[p.v, q.v, sg a b] w fun e w' => e = .returned (.int .i64 (sideOfM p q a b)) ∧ Below w.heap.size w w' := by
  by_cases h : sideM a b p = 0
  · have H : Hid (sideOfM p q a b = sideM a b q) := by unfold sideOfM; rw [if_neg (by simpa using h)]; exact hide rfl
    have h' : (sideM a b p != 0) = false := by simpa using h
    go_enter Tryz.func111, Tryz.ntmps111
    go_wp2_with fail
    refine (segSide_any a b p _ ha hb hp).mono ?_
    rintro e w1 ⟨rfl, k⟩
    have B1 := bvia (below3 _ _ _ _) k
    obtain ⟨cq, fq, zq⟩ := ((Blk.at (w.heap.size + 1) (by simp)).alloc _).call k
    obtain ⟨ce, fe, ze⟩ := (Blk.at (w.heap.size + 1 + 1) (by simp)).call k
    clear k
    go_wp2_with fail
    refine (segSide_any a b q _ ha hb hq).mono ?_
    rintro e w2 ⟨rfl, k⟩
    have B2 := bvia B1 k
    clear k cq fq ce fe B1
    go_wp2
    go_ret
    exact ⟨ret_int H.out.symm, B2⟩
  · have H : Hid (sideOfM p q a b = sideM a b p) := by unfold sideOfM; rw [if_pos h]; exact hide rfl
    have h' : (sideM a b p != 0) = true := by simpa using h
    go_enter Tryz.func111, Tryz.ntmps111
    go_wp2_with fail
    refine (segSide_any a b p _ ha hb hp).mono ?_
    rintro e w1 ⟨rfl, k⟩
    have B1 := bvia (below3 _ _ _ _) k
    clear k
    go_wp2
    go_ret
    exact ⟨ret_int H.out.symm, B1⟩

theorem par_drop (f : Pt → Pt → Bool) (E : List (Pt × Pt)) (k : Nat) (hk : k < E.length) : parB f (E.drop k) = (f (E.getD k (zP, zP)).1 (E.getD k (zP, zP)).2 ^^ parB f (E.drop (k + 1))) := by
  rw [List.drop_eq_getElem_cons hk, List.getD_eq_getElem?_getD, List.getElem?_eq_getElem hk]; rfl

set_option maxRecDepth 100000 in
set_option maxHeartbeats 4000000 in
theorem cutSides_any (p q : Pt) (v : Value) (E : List (Pt × Pt)) (w : World) (hE : SegsAt w v E) (hG : GdE E) (hp : Gd p) (hq : Gd q) :
    Calls Tryz.prog 87 #[p.v, q.v, v] w fun e w' => e = .returned (.tuple #[.bool (parB (leftE p q) E), .bool (parB (rightE p q) E)]) ∧ Below w.heap.size w w' := by
  obtain ⟨a, cap, rfl, h1, h2, h3⟩ := hE
  unfold maxLen at h2
  have H3 := hide h3
  have HG := hide hG
  clear h3 hG
  go_enter Tryz.func87, Tryz.ntmps87
  go_wp2_with fail
  go_loopw [8, 9, 11, 12, 15] (fun lv rv _ _ iv w' => ∃ (k : Nat) (x y : Bool), iv = .int .i64 k ∧ lv = .bool x ∧ rv = .bool y ∧ k ≤ E.length ∧ Blk w' w.heap.size #[.int .i64 p.x, .int .i64 p.y, .int .i64 p.d] ∧ Blk w' (w.heap.size + 1) #[.int .i64 q.x, .int .i64 q.y, .int .i64 q.d] ∧ Below w.heap.size w w' ∧ Hid (parB (leftE p q) E = (x ^^ parB (leftE p q) (E.drop k))) ∧ Hid (parB (rightE p q) E = (y ^^ parB (rightE p q) (E.drop k)))) (fun _ _ _ _ iv _ => E.length - (intOf iv).toNat)
  case atStart => exact ⟨0, false, false, rfl, rfl, rfl, Nat.zero_le _, (Blk.new w _ _).alloc _, Blk.at (w.heap.size + 1) (by simp), below2 _ _ _, by simp [hide], by simp [hide]⟩
  case round =>
    obtain ⟨k, x, y, rfl, rfl, rfl, hk, ⟨cp, fp, zp⟩, ⟨cq, fq, zq⟩, hbel, HL, HR⟩ := hrel
    by_cases hlt : k < E.length
    · obtain ⟨b, off, rfl, hb, hs⟩ := H3.out k hlt
      obtain ⟨c0, c1, c2, c3, c4, c5⟩ := hs.later hbel hb
      obtain ⟨g1, g2⟩ := HG.out k hlt
      have HL1 := hide (par_drop (leftE p q) E k hlt)
      have HR1 := hide (par_drop (rightE p q) E k hlt)
      generalize E.getD k (zP, zP) = e at *
      have HLe := hide (show leftE p q e.1 e.2 = (spanM e.1 e.2 p && decide (sideOfM p q e.1 e.2 < 0)) from rfl)
      have HRe := hide (show rightE p q e.1 e.2 = (spanM e.1 e.2 p && decide (sideOfM p q e.1 e.2 ≤ 0)) from rfl)
      clear hs
      go_wp2_with fail
      refine (Spans_any e.1 e.2 p _ g1 g2 hp).mono ?_
      rintro e' w1 ⟨rfl, k1⟩
      have B1 := bvia (hbel.alloc hbel.size _) k1
      have P1 := ((Blk.mk cp fp zp).alloc _).call k1
      have Q1 := ((Blk.mk cq fq zq).alloc _).call k1
      obtain ⟨ce, fe, ze⟩ := (Blk.new wr _ _).call k1
      obtain ⟨cp1, fp1, zp1⟩ := id P1
      obtain ⟨cq1, fq1, zq1⟩ := id Q1
      clear k1 c0 c1 c2 c3 c4 c5 cp fp zp cq fq zq hbel
      cases hsp : spanM e.1 e.2 p
      · have HE : Hid (parB (leftE p q) E = (x ^^ parB (leftE p q) (E.drop (k + 1)))) := HL.out.trans (by rw [HL1.out, HLe.out, hsp]; simp)
        have HF : Hid (parB (rightE p q) E = (y ^^ parB (rightE p q) (E.drop (k + 1)))) := HR.out.trans (by rw [HR1.out, HRe.out, hsp]; simp)
        clear HL HR HL1 HR1 HLe HRe
        go_wp2
        go_roundw
        case rel => exact ⟨k + 1, x, y, by go_num, rfl, rfl, by omega, P1, Q1, B1, HE, HF⟩
        case measure => simp [intOf]; omega
      · go_wp2_with fail
        refine (sideOf_any p q e.1 e.2 _ hp hq g1 g2).mono ?_
        rintro e' w2 ⟨rfl, k2⟩
        have B2 := bvia B1 k2
        have P2 := P1.call k2
        have Q2 := Q1.call k2
        clear k2 cp1 fp1 zp1 cq1 fq1 zq1 ce fe ze B1 P1 Q1
        generalize sideOfM p q e.1 e.2 = sd at *
        rcases Int.lt_trichotomy sd 0 with c | c | c
        · have HE : Hid (parB (leftE p q) E = ((!x) ^^ parB (leftE p q) (E.drop (k + 1)))) := HL.out.trans (by rw [HL1.out, HLe.out, hsp, decide_eq_true c]; simp)
          have HF : Hid (parB (rightE p q) E = ((!y) ^^ parB (rightE p q) (E.drop (k + 1)))) := HR.out.trans (by rw [HR1.out, HRe.out, hsp, decide_eq_true (by omega : sd ≤ 0)]; simp)
          have c' : sd ≤ 0 := by omega
          clear HL HR HL1 HR1 HLe HRe
          go_wp2
          go_roundw
          case rel => exact ⟨k + 1, !x, !y, by go_num, rfl, rfl, by omega, P2, Q2, B2, HE, HF⟩
          case measure => simp [intOf]; omega
        · subst c
          have HE : Hid (parB (leftE p q) E = (x ^^ parB (leftE p q) (E.drop (k + 1)))) := HL.out.trans (by rw [HL1.out, HLe.out, hsp]; simp)
          have HF : Hid (parB (rightE p q) E = ((!y) ^^ parB (rightE p q) (E.drop (k + 1)))) := HR.out.trans (by rw [HR1.out, HRe.out, hsp]; simp)
          clear HL HR HL1 HR1 HLe HRe
          go_wp2
          go_roundw
          case rel => exact ⟨k + 1, x, !y, by go_num, rfl, rfl, by omega, P2, Q2, B2, HE, HF⟩
          case measure => simp [intOf]; omega
        · have HE : Hid (parB (leftE p q) E = (x ^^ parB (leftE p q) (E.drop (k + 1)))) := HL.out.trans (by rw [HL1.out, HLe.out, hsp, decide_eq_false (by omega : ¬ sd < 0)]; simp)
          have HF : Hid (parB (rightE p q) E = (y ^^ parB (rightE p q) (E.drop (k + 1)))) := HR.out.trans (by rw [HR1.out, HRe.out, hsp, decide_eq_false (by omega : ¬ sd ≤ 0)]; simp)
          have c1 : ¬ sd < 0 := by omega
          have c2 : ¬ sd ≤ 0 := by omega
          clear HL HR HL1 HR1 HLe HRe
          go_wp2
          go_roundw
          case rel => exact ⟨k + 1, x, y, by go_num, rfl, rfl, by omega, P2, Q2, B2, HE, HF⟩
          case measure => simp [intOf]; omega
    · have HE : Hid (parB (leftE p q) E = x) := HL.out.trans (by rw [List.drop_of_length_le (by omega)]; simp [parB])
      have HF : Hid (parB (rightE p q) E = y) := HR.out.trans (by rw [List.drop_of_length_le (by omega)]; simp [parB])
      clear HL HR
      go_wp2
      go_ret2
      exact ⟨by rw [HE.out, HF.out]; rfl, hbel⟩
end Go.Proofs.YtnkcbephceollabGreat
namespace Go.Proofs.YtnkcbephceollabGreat
open Go.RowKit
set_option linter.unusedSimpArgs false
set_option linter.unusedVariables false

theorem Blk.kp {w w' : World} {b : Nat} {vs : Array Value} {X : Nat → Prop} (h : Blk w b vs) (k : Kp X w w') (hx : ¬ X b) : Blk w' b vs := by
  have e := k.block b h.lt hx
  exact ⟨fun o => (World.cell?_of_block (a := ⟨b, o, none⟩) e).trans (h.cell o), fun o => (World.frozen?_of_block (a := ⟨b, o, none⟩) e).trans (h.free o), Nat.lt_of_lt_of_le h.lt k.size⟩
theorem below_kp {m : Nat} {w wr w2 : World} {X : Nat → Prop} (h : Below m w wr) (k : Kp X wr w2) (hm : m ≤ wr.heap.size) (hx : ∀ b, X b → m ≤ b) : Below m w w2 :=
  ⟨k.os.trans h.os, k.tape.trans h.tape, k.output.trans h.output, Nat.le_trans h.size k.size, fun b hb => (k.block b (Nat.lt_of_lt_of_le hb hm) (fun e => by have := hx b e; omega)).trans (h.block b hb)⟩
theorem ins_mem {l : List Pt} {q x : Pt} (h : x ∈ insM l q) : x = q ∨ x ∈ l := by
  unfold insM at h
  split at h
  · exact .inr h
  · rcases List.mem_append.1 h with h | h
    · exact .inr (List.mem_of_mem_take h)
    · rcases List.mem_cons.1 h with h | h
      · exact .inl h
      · exact .inr (List.mem_of_mem_drop h)
theorem ins_len (l : List Pt) (q : Pt) : (insM l q).length ≤ l.length + 1 := by
  unfold insM
  split
  · omega
  · simp; omega
/-- What an edge adds to the neighbours. -/
def nstep (p : Pt) (B : List Pt) (l : List Pt) (e : Pt × Pt) : List Pt :=
  if hasM e.1 e.2 p = true then (match B.find? (fun q => hasM e.1 e.2 q) with | some q => insM l q | none => l) else l
theorem neigh_fold (p : Pt) (B : List Pt) (E : List (Pt × Pt)) : neighM p B E = E.foldl (nstep p B) [] := rfl
def nfold (p : Pt) (B : List Pt) (E : List (Pt × Pt)) (k : Nat) : List Pt := (E.take k).foldl (nstep p B) []
theorem nfold_succ (p : Pt) (B : List Pt) (E : List (Pt × Pt)) (k : Nat) (hk : k < E.length) : nfold p B E (k + 1) = nstep p B (nfold p B E k) (E.getD k (zP, zP)) := by
  unfold nfold
  rw [List.take_succ_eq_append_getElem hk, List.foldl_append, List.getD_eq_getElem?_getD, List.getElem?_eq_getElem hk]; rfl
theorem nfold_end (p : Pt) (B : List Pt) (E : List (Pt × Pt)) (k : Nat) (hk : E.length ≤ k) : nfold p B E k = neighM p B E := by
  unfold nfold; rw [List.take_of_length_le hk]; rfl
theorem nstep_mem {p : Pt} {B l : List Pt} {e : Pt × Pt} {x : Pt} (h : x ∈ nstep p B l e) : x ∈ B ∨ x ∈ l := by
  unfold nstep at h
  split at h
  · split at h
    · rename_i hf
      rcases ins_mem h with rfl | h
      · exact .inl (List.mem_of_find?_eq_some hf)
      · exact .inr h
    · exact .inr h
  · exact .inr h
theorem nstep_len (p : Pt) (B l : List Pt) (e : Pt × Pt) : (nstep p B l e).length ≤ l.length + 1 := by
  unfold nstep
  split
  · split
    · exact ins_len _ _
    · omega
  · omega
theorem find_drop (f : Pt → Bool) (B : List Pt) (j : Nat) (hj : j < B.length) : (B.drop j).find? f = if f (B.getD j zP) = true then some (B.getD j zP) else (B.drop (j + 1)).find? f := by
  rw [List.drop_eq_getElem_cons hj, List.find?_cons, List.getD_eq_getElem?_getD, List.getElem?_eq_getElem hj]
  simp only [Option.getD_some]
  cases f B[j] <;> rfl

set_option maxRecDepth 100000 in
set_option maxHeartbeats 4000000 in
theorem neighbours_any (p : Pt) (bv : Value) (B : List Pt) (ev : Value) (E : List (Pt × Pt)) (w : World) (hB : RingAt w bv B) (hE : SegsAt w ev E) (hp : Gd p) (gB : ∀ x ∈ B, Gd x) (gE : GdE E) (hn : E.length ≤ 1000) :
    Calls Tryz.prog 86 #[p.v, bv, ev] w fun e w' => ∃ v', e = .returned v' ∧ w'.ownsRow (w.heap.size + 1) 31 3 v' (neighM p B E).length (ptCells (neighM p B E)) ∧ Below w.heap.size w w' := by
  obtain ⟨ba, bcap, rfl, b1, b2, b3⟩ := hB
  obtain ⟨ea, ecap, rfl, e1, e2, e3⟩ := hE
  unfold maxLen at b2 e2
  have BB := hide b3
  have EE := hide e3
  have GB := hide gB
  have GE := hide gE
  clear b3 e3 gB gE
  go_enter Tryz.func86, Tryz.ntmps86
  go_wp2_with fail
  go_loopw [7, 9, 11, 14] (fun lv _ _ iv w' => ∃ k : Nat, iv = .int .i64 k ∧ k ≤ E.length ∧ w'.ownsRow (w.heap.size + 1) 31 3 lv (nfold p B E k).length (ptCells (nfold p B E k)) ∧ (nfold p B E k).length ≤ k ∧ Hid (∀ x ∈ nfold p B E k, Gd x) ∧ Blk w' w.heap.size #[.int .i64 p.x, .int .i64 p.y, .int .i64 p.d] ∧ Below w.heap.size w w') (fun _ _ _ iv _ => E.length - (intOf iv).toNat)
  case atStart => exact ⟨0, rfl, Nat.zero_le _, World.ownsRow_nil _ _ _ _, Nat.le_refl _, fun x hx => (by cases hx), Blk.new w _ _, (Below.refl _ _).alloc (Nat.le_refl _) _⟩
  case round =>
    obtain ⟨k, rfl, hk, hO, hlen, HGd, hP, hbel⟩ := hrel
    by_cases hlt : k < E.length
    · obtain ⟨b, off, rfl, hb, hs⟩ := EE.out k hlt
      obtain ⟨c0, c1, c2, c3, c4, c5⟩ := hs.later hbel hb
      obtain ⟨g1, g2⟩ := GE.out k hlt
      have HN := hide (nfold_succ p B E k hlt)
      generalize E.getD k (zP, zP) = e at *
      generalize hl : nfold p B E k = l at *
      have HNs := hide (show nstep p B l e = if hasM e.1 e.2 p = true then (match B.find? (fun q => hasM e.1 e.2 q) with | some q => insM l q | none => l) else l from rfl)
      have hp0 := hP.lt
      obtain ⟨cp, fp, zp⟩ := id hP
      clear hs hl
      go_wp2_with fail
      refine (Has_any e.1 e.2 p _ g1 g2 hp).mono ?_
      rintro e' w1 ⟨rfl, k1⟩
      have B1 := bvia (hbel.alloc hbel.size _) k1
      have P1 := (hP.alloc _).call k1
      have E1 := (Blk.new wr #[.int .i64 e.1.x, .int .i64 e.1.y, .int .i64 e.1.d, .int .i64 e.2.x, .int .i64 e.2.y, .int .i64 e.2.d] 70).call k1
      have O1 := hide (own_later (hO.alloc (.cells #[.int .i64 e.1.x, .int .i64 e.1.y, .int .i64 e.1.d, .int .i64 e.2.x, .int .i64 e.2.y, .int .i64 e.2.d] 70)) k1)
      have hbl : ∀ g, u7.ownBlock = some g → g < wr.heap.size := fun g hg => (hO.lt g hg).2
      have hbg : ∀ g, u7.ownBlock = some g → w.heap.size + 1 ≤ g := fun g hg => (hO.lt g hg).1
      have HBL := hide hbl
      have HBG := hide hbg
      have hsz := hbel.size
      have hsz1 : wr.heap.size < w1.heap.size := E1.lt
      clear k1 c0 c1 c2 c3 c4 c5 cp fp zp hO hP hbel hbl hbg
      obtain ⟨eb, heb⟩ : ∃ eb, eb = wr.heap.size := ⟨_, rfl⟩
      rw [← heb] at E1 HBL hsz hsz1 ⊢
      clear heb
      cases hh : hasM e.1 e.2 p
      · have HE : Hid (nfold p B E (k + 1) = l) := HN.out.trans (HNs.out.trans (by rw [hh]; rfl))
        clear HN HNs
        go_wp2
        go_roundw
        case rel => exact ⟨k + 1, by go_num, by omega, by rw [HE.out]; exact O1.out, by rw [HE.out]; omega, by rw [HE.out]; exact HGd, P1, B1⟩
        case measure => simp [intOf]; omega
      · have HNt : Hid (nfold p B E (k + 1) = (match B.find? (fun q => hasM e.1 e.2 q) with | some q => insM l q | none => l)) := HN.out.trans (HNs.out.trans (by rw [hh]; rfl))
        clear HN HNs
        go_wp2_with fail
        go_loopw [7, 11, 24] (fun lv _ jv w' => lv = u7 ∧ ∃ j : Nat, jv = .int .i64 j ∧ j ≤ B.length ∧ Hid (w'.ownsRow (w.heap.size + 1) 31 3 u7 l.length (ptCells l)) ∧ Blk w' w.heap.size #[.int .i64 p.x, .int .i64 p.y, .int .i64 p.d] ∧ Blk w' eb #[.int .i64 e.1.x, .int .i64 e.1.y, .int .i64 e.1.d, .int .i64 e.2.x, .int .i64 e.2.y, .int .i64 e.2.d] ∧ Below w.heap.size w w' ∧ Hid (B.find? (fun q => hasM e.1 e.2 q) = (B.drop j).find? (fun q => hasM e.1 e.2 q))) (fun _ _ jv _ => B.length - (intOf jv).toNat)
        case atStart => exact ⟨rfl, 0, rfl, Nat.zero_le _, O1, P1, E1, B1, rfl⟩
        case round =>
          clear P1 E1 B1 O1
          obtain ⟨rfl, j, rfl, hj, O2, hP, hEb, hbel, HB⟩ := hrel
          by_cases hjt : j < B.length
          · obtain ⟨b', off', rfl, hb', hs'⟩ := BB.out j hjt
            obtain ⟨x0, x1, x2⟩ := hs'.later hbel hb'
            have HC := hide (find_drop (fun q => hasM e.1 e.2 q) B j hjt)
            have gx := GB.out _ (getD_mem hjt zP)
            generalize B.getD j zP = q at *
            obtain ⟨ce, fe, ze⟩ := id hEb
            clear hs'
            go_wp2_with fail
            refine (Has_any e.1 e.2 q _ g1 g2 gx).mono ?_
            rintro e' w2 ⟨rfl, k2⟩
            have P2 := (hP.alloc _).call k2
            have Q2 := (Blk.new wr #[.int .i64 q.x, .int .i64 q.y, .int .i64 q.d] 31).call k2
            have E2 := (hEb.alloc _).call k2
            have B2 := bvia (hbel.alloc hbel.size _) k2
            have O3 := hide (own_later (O2.out.alloc (.cells #[.int .i64 q.x, .int .i64 q.y, .int .i64 q.d] 31)) k2)
            have hs2 := B2.size
            clear k2 x0 x1 x2 ce fe ze hP hEb hbel O2
            cases hh2 : hasM e.1 e.2 q
            · have HE : Hid (B.find? (fun q => hasM e.1 e.2 q) = (B.drop (j + 1)).find? (fun q => hasM e.1 e.2 q)) := HB.out.trans (HC.out.trans (by rw [if_neg]; simp [hh2]))
              clear HB HC
              go_wp2
              go_roundw
              case rel => exact ⟨rfl, j + 1, by go_num, by omega, O3, P2, E2, B2, HE⟩
              case measure => simp [intOf]; omega
            · have HE : Hid (nfold p B E (k + 1) = insM l q) := HNt.out.trans (by rw [HB.out, HC.out, if_pos hh2])
              clear HB HC
              obtain ⟨cq, fq, zq⟩ := Q2
              go_wp2_with fail
              refine (insert_any (w.heap.size + 1) u7 l q _ O3.out (by have := P2.lt; omega) (by omega) HGd.out gx).mono ?_
              rintro e' w3 ⟨v', rfl, O4, k3, _⟩
              have P3 := P2.kp k3 (fun h => by have := HBG.out _ h; omega)
              have B3 := below_kp B2 k3 B2.size (fun b h => by have := HBG.out b h; omega)
              have HO4 := hide O4
              have hle := ins_len l q
              have HGd2 : Hid (∀ x ∈ insM l q, Gd x) := fun x hx => by
                rcases ins_mem hx with rfl | hx
                · exact gx
                · exact HGd.out x hx
              clear cq fq zq P2 E2 B2 O3 k3 O4
              go_wp2
              go_roundw
              case rel => exact ⟨k + 1, by go_num, by omega, by rw [HE.out]; exact HO4.out, by rw [HE.out]; omega, by rw [HE.out]; exact HGd2, P3, B3⟩
              case measure => simp [intOf]; omega
          · have HE : Hid (nfold p B E (k + 1) = l) := HNt.out.trans (by rw [HB.out, List.drop_of_length_le (by omega)]; rfl)
            go_wp2
            go_roundw
            case rel => exact ⟨k + 1, by go_num, by omega, by rw [HE.out]; exact O2.out, by rw [HE.out]; omega, by rw [HE.out]; exact HGd, hP, hbel⟩
            case measure => simp [intOf]; omega
    · have HE : Hid (nfold p B E k = neighM p B E) := nfold_end p B E k (by omega)
      go_wp2
      go_ret
      exact ⟨_, rfl, by rw [← HE.out]; exact hO, hbel⟩
end Go.Proofs.YtnkcbephceollabGreat
