import Derived.Test.YtnkcbephceollabQ42
import Derived.Test.YtnkcbephceollabQ45
import Derived.Test.YtnkcbephceollabN5
namespace Go.Proofs.Ytnkcbephceollab
open Go.RowKit
set_option linter.unusedSimpArgs false
set_option linter.unusedVariables false

set_option maxHeartbeats 1000000 in
theorem box_own (x0 y0 x1 y1 : Int) (w : World) :
    Calls Try.prog 17 #[.int .i64 x0, .int .i64 y0, .int .i64 x1, .int .i64 y1] w fun e w' => ∃ g, e = .returned (.slice (some ⟨g, 0, none⟩) 4 4) ∧ w'.ownsRow w.heap.size 29 3 (.slice (some ⟨g, 0, none⟩) 4 4) 4 (ptCells (boxM x0 y0 x1 y1)) ∧ Below w.heap.size w w' := by
  go_enter Try.func17, Try.ntmps17
  go_wp2_with fail
  refine (at_any x0 y0 _).mono ?_
  rintro e w1 ⟨rfl, k1⟩
  go_wp2_with fail
  refine (at_any x1 y0 _).mono ?_
  rintro e w2 ⟨rfl, k2⟩
  have B2 := bvia k1 k2
  clear k1 k2
  go_wp2_with fail
  refine (at_any x1 y1 _).mono ?_
  rintro e w3 ⟨rfl, k3⟩
  have B3 := bvia B2 k3
  clear B2 k3
  go_wp2_with fail
  refine (at_any x0 y1 _).mono ?_
  rintro e w4 ⟨rfl, k4⟩
  have B4 := bvia B3 k4
  clear B3 k4
  go_wp2
  exact bodyPost_ret (v := .slice (some ⟨w4.heap.size, 0, none⟩) 4 4) (by simp [results, Try.results17, go_sem]) rfl ⟨_, rfl, own_four w4 w.heap.size B4.size (gp x0 y0) (gp x1 y0) (gp x1 y1) (gp x0 y1), B4.alloc B4.size _⟩

theorem nbx_len (i : Nat) : (nbx i).length = 4 := rfl
theorem nwt_len (i : Nat) : (nwt i).length = 4 := by unfold nwt; split <;> rfl
theorem nA_len : ∀ i, (nA i).length ≤ i
  | 0 => Nat.le_refl _
  | i + 1 => by
    have := nA_len i
    rw [nA]; split
    · rw [List.length_append, List.length_singleton]; omega
    · omega
theorem nB_len : ∀ i, (nB i).length ≤ i
  | 0 => Nat.le_refl _
  | i + 1 => by
    have := nB_len i
    rw [nB]; split
    · omega
    · rw [List.length_append, List.length_singleton]; omega
/-- Three lists of rings side by side. -/
structure Tri (w : World) (base : Nat) (va vb vw : Value) (A B W : List (List Pt)) : Prop where
  a : ∃ vs, OwnR w base va A vs
  b : ∃ vs, OwnR w base vb B vs
  c : ∃ vs, OwnR w base vw W vs
  ab : ∀ g, va.ownBlock = some g → vb.ownBlock ≠ some g
  ac : ∀ g, va.ownBlock = some g → vw.ownBlock ≠ some g
  bc : ∀ g, vb.ownBlock = some g → vw.ownBlock ≠ some g
theorem Tri.later {w w' : World} {base : Nat} {va vb vw : Value} {A B W : List (List Pt)} (h : Tri w base va vb vw A B W) (k : Below w.heap.size w w') : Tri w' base va vb vw A B W := by
  obtain ⟨⟨x, a⟩, ⟨y, b⟩, ⟨z, c⟩, h1, h2, h3⟩ := h
  exact ⟨⟨x, a.kp (Kp.of (X := fun _ => False) k) (fun b _ _ e => e)⟩, ⟨y, b.kp (Kp.of (X := fun _ => False) k) (fun b _ _ e => e)⟩, ⟨z, c.kp (Kp.of (X := fun _ => False) k) (fun b _ _ e => e)⟩, h1, h2, h3⟩
/-- The first list grows. -/
theorem Tri.growA {w w' : World} {base : Nat} {va vb vw V rv : Value} {A B W : List (List Pt)} {r : List Pt} {vs : List Value} (h : Tri w base va vb vw A B W) (ha : OwnR w base va A vs) (hr : w.ownsRow base 29 3 rv r.length (ptCells r)) (hap : ∀ j g, j < A.length → (vs.getD j nilV).ownBlock = some g → rv.ownBlock ≠ some g) (hrl : r.length ≤ 2000000)
    (k : Kp (fun b => va.ownBlock = some b) w w') (hrow : w'.ownsRow base 27 1 V (A.length + 1) (vs ++ [rv])) (hat : ∀ g, V.ownBlock = some g → va.ownBlock = some g ∨ w.heap.size ≤ g) : Tri w' base V vb vw (A ++ [r]) B W := by
  obtain ⟨_, ⟨y, b⟩, ⟨z, c⟩, h1, h2, h3⟩ := h
  refine ⟨⟨_, ha.snoc hr hap hrl k hrow⟩, ⟨y, b.aside ha.row (fun g e e2 => h1 g e2 e) k⟩, ⟨z, c.aside ha.row (fun g e e2 => h2 g e2 e) k⟩, fun g e e2 => ?_, fun g e e2 => ?_, h3⟩
  · rcases hat g e with x | x
    · exact h1 g x e2
    · have := (b.row.lt g e2).2; omega
  · rcases hat g e with x | x
    · exact h2 g x e2
    · have := (c.row.lt g e2).2; omega
theorem Tri.growB {w w' : World} {base : Nat} {va vb vw V rv : Value} {A B W : List (List Pt)} {r : List Pt} {vs : List Value} (h : Tri w base va vb vw A B W) (hb : OwnR w base vb B vs) (hr : w.ownsRow base 29 3 rv r.length (ptCells r)) (hap : ∀ j g, j < B.length → (vs.getD j nilV).ownBlock = some g → rv.ownBlock ≠ some g) (hrl : r.length ≤ 2000000)
    (k : Kp (fun b => vb.ownBlock = some b) w w') (hrow : w'.ownsRow base 27 1 V (B.length + 1) (vs ++ [rv])) (hat : ∀ g, V.ownBlock = some g → vb.ownBlock = some g ∨ w.heap.size ≤ g) : Tri w' base va V vw A (B ++ [r]) W := by
  obtain ⟨⟨x, a⟩, _, ⟨z, c⟩, h1, h2, h3⟩ := h
  refine ⟨⟨x, a.aside hb.row (fun g e e2 => h1 g e e2) k⟩, ⟨_, hb.snoc hr hap hrl k hrow⟩, ⟨z, c.aside hb.row (fun g e e2 => h3 g e2 e) k⟩, fun g e e2 => ?_, h2, fun g e e2 => ?_⟩
  · rcases hat g e2 with x | x
    · exact h1 g e x
    · have := (a.row.lt g e).2; omega
  · rcases hat g e with x | x
    · exact h3 g x e2
    · have := (c.row.lt g e2).2; omega
theorem Tri.growC {w w' : World} {base : Nat} {va vb vw V rv : Value} {A B W : List (List Pt)} {r : List Pt} {vs : List Value} (h : Tri w base va vb vw A B W) (hc : OwnR w base vw W vs) (hr : w.ownsRow base 29 3 rv r.length (ptCells r)) (hap : ∀ j g, j < W.length → (vs.getD j nilV).ownBlock = some g → rv.ownBlock ≠ some g) (hrl : r.length ≤ 2000000)
    (k : Kp (fun b => vw.ownBlock = some b) w w') (hrow : w'.ownsRow base 27 1 V (W.length + 1) (vs ++ [rv])) (hat : ∀ g, V.ownBlock = some g → vw.ownBlock = some g ∨ w.heap.size ≤ g) : Tri w' base va vb V A B (W ++ [r]) := by
  obtain ⟨⟨x, a⟩, ⟨y, b⟩, _, h1, h2, h3⟩ := h
  refine ⟨⟨x, a.aside hc.row (fun g e e2 => h2 g e e2) k⟩, ⟨y, b.aside hc.row (fun g e e2 => h3 g e e2) k⟩, ⟨_, hc.snoc hr hap hrl k hrow⟩, h1, fun g e e2 => ?_, fun g e e2 => ?_⟩
  · rcases hat g e2 with x | x
    · exact h2 g e x
    · have := (a.row.lt g e).2; omega
  · rcases hat g e2 with x | x
    · exact h3 g e x
    · have := (b.row.lt g e).2; omega
theorem tri_nil (w : World) (base : Nat) : Tri w base nilV nilV nilV [] [] [] := ⟨⟨[], OwnR.nil _ _⟩, ⟨[], OwnR.nil _ _⟩, ⟨[], OwnR.nil _ _⟩, fun g e => by simp [Value.ownBlock] at e, fun g e => by simp [Value.ownBlock] at e, fun g e => by simp [Value.ownBlock] at e⟩
/-- A ring that came to be after all of a list's. -/
theorem OwnR.young {w w' : World} {base : Nat} {v rv : Value} {R : List (List Pt)} {vs : List Value} {n : Nat} {xs : List Value} (h : OwnR w base v R vs) (hr : w'.ownsRow w.heap.size 29 3 rv n xs) : ∀ j g, j < R.length → (vs.getD j nilV).ownBlock = some g → rv.ownBlock ≠ some g := fun j g hj e e2 => by
  have h1 := (h.lt j g hj e).2
  have h2 := (hr.lt g e2).1
  omega

set_option maxRecDepth 100000 in
set_option maxHeartbeats 8000000 in
theorem nested_walk (c : Int) (w : World) (hc1 : -9223372036854775808 ≤ c) (hc2 : c ≤ 9223372036854775807) :
    Calls Try.prog 6 #[.int .i64 c] w fun e w' => e = .returned (.bool true) ∧ Below w.heap.size w w' := by
  obtain ⟨i0, hi0, hz0, hz1, hz2⟩ := info_parts infoRing
  have hpk := pickM_bd c 6 (by decide)
  obtain ⟨m, hm⟩ : ∃ m : Nat, (m : Int) = 1 + pickM c 6 := ⟨(1 + pickM c 6).toNat, by omega⟩
  have hm1 : 1 ≤ m := by omega
  have hm6 : m ≤ 6 := by omega
  have CP := hide (pick_any c 6 w hc1 hc2 (by decide) (by decide))
  generalize pickM c 6 = pk at *
  have hm' : 1 + pk = (m : Int) := hm.symm
  clear hm hpk
  go_enter Try.func6, Try.ntmps6
  go_wp2_with fail
  refine CP.out.mono ?_
  rintro e w' ⟨rfl, hw'⟩
  have hw2 := hw'.symm
  subst hw2
  clear CP
  go_upto_block 0 with fail
  go_cut [4, 5, 6, 7, 8, 9] (fun av bv wv _ _ _ w' => Tri w' w.heap.size av bv wv (nA m) (nB m) (nW m) ∧ Below w.heap.size w w')
  case first =>
    go_wp2_with fail
    go_loopw [4, 5, 6, 7, 8, 9] (fun av bv wv iv _ _ w' => ∃ i : Nat, iv = .int .i64 i ∧ i ≤ m ∧ Tri w' w.heap.size av bv wv (nA i) (nB i) (nW i) ∧ Below w.heap.size w w') (fun _ _ _ iv _ _ _ => m - (intOf iv).toNat)
    case atStart => exact ⟨0, rfl, Nat.zero_le _, tri_nil _ _, Below.refl _ _⟩
    case round =>
      obtain ⟨i, rfl, hi, hT, hbel⟩ := hrel
      by_cases hlt : i < m
      · have hi6 : (i : Int) ≤ 6 := by omega
        have hi00 : (0 : Int) ≤ (i : Int) := Int.natCast_nonneg _
        have CB := hide (box_own (i : Int) (i : Int) (20 - (i : Int)) (20 - (i : Int)) wr)
        have HBX := hide (show nbx i = boxM (i : Int) (i : Int) (20 - (i : Int)) (20 - (i : Int)) from rfl)
        rw [← HBX.out] at CB
        have HA1 := hide (show nA (i + 1) = if i % 2 = 0 then nA i ++ [nbx i] else nA i by rw [nA])
        have HB1 := hide (show nB (i + 1) = if i % 2 = 0 then nB i else nB i ++ [nbx i] by rw [nB])
        have HW1 := hide (show nW (i + 1) = nW i ++ [nwt i] by rw [nW])
        have HWT := hide (show nwt i = if i % 2 = 0 then nbx i else [(nbx i).getD 0 zP, (nbx i).getD 3 zP, (nbx i).getD 2 zP, (nbx i).getD 1 zP] from rfl)
        have hAl := nA_len i
        have hBl := nB_len i
        have hWl := Nat.le_of_eq (nW_len i)
        obtain ⟨q0, q1, q2, q3, HQ⟩ : ∃ q0 q1 q2 q3, Hid (nbx i = [q0, q1, q2, q3]) := ⟨_, _, _, _, hide rfl⟩
        generalize nA i = A at *
        generalize nB i = B at *
        generalize nW i = W at *
        generalize nbx i = r at *
        have HT := hide hT
        have HB := hide hbel
        clear hT hbel HBX
        go_wp2_with fail
        refine CB.out.mono ?_
        rintro e w1 ⟨g, rfl, o1, k1⟩
        have z1 := k1.size
        have T1 := hide (HT.out.later k1)
        have B1 := hide (bvia HB.out k1)
        have zb := HB.out.size
        have O1 := hide o1
        have hrl : r.length = 4 := by rw [HQ.out]; rfl
        have O1b : Hid (w1.ownsRow w.heap.size 29 3 (.slice (some ⟨g, 0, none⟩) 4 4) r.length (ptCells r)) := by rw [hrl]; exact hide (own_mono o1 zb)
        have zz1 := B1.out.size
        have HKK := hide k1
        clear k1 CB o1
        by_cases hpar : i % 2 = 0
        · have hp' : ((i : Int).tmod 2 == 0) = true := by
            rw [show (2 : Int) = ((2 : Nat) : Int) from rfl, tmod_nat, hpar]; rfl
          have HA2 : Hid (nA (i + 1) = A ++ [r]) := by rw [HA1.out, if_pos hpar]; exact hide rfl
          have HB2 : Hid (nB (i + 1) = B) := by rw [HB1.out, if_pos hpar]; exact hide rfl
          have HW2 : Hid (nW (i + 1) = W ++ [r]) := by rw [HW1.out, HWT.out, if_pos hpar]; exact hide rfl
          clear HA1 HB1 HW1 HWT
          obtain ⟨vsA, oA0⟩ := HT.out.a
          have HapA := hide (oA0.young O1.out)
          obtain ⟨vsC, oC0⟩ := HT.out.c
          have HapC := hide (oC0.young O1.out)
          have OA := hide (oA0.kp (Kp.of (X := fun _ => False) HKK.out) (fun b _ _ e => e))
          have OC := hide (oC0.kp (Kp.of (X := fun _ => False) HKK.out) (fun b _ _ e => e))
          have hnews1 := World.news_of_block (w := w1.alloc (.cells #[.slice (some ⟨g, 0, none⟩) 4 4] 27)) (cs := #[.slice (some ⟨g, 0, none⟩) 4 4]) (t := 27) (fr := (0, 0)) (heap_alloc_new w1 _)
          clear oA0 oC0 HT HB HKK O1
          go_upto_region 12 with (at_builtin; refine wpList_append_lies _ rfl _ _ _ rfl w.heap.size 27 i0 _ 1 24 Try.underlying22 hi0 hz0 hz1 hz2 rfl (by omega) u4 A.length vsA rfl (OA.out.row.alloc _) ⟨w1.heap.size, 0, none⟩ 1 1 [.slice (some ⟨g, 0, none⟩) 4 4] rfl rfl hnews1 (by simp [Value.oneCell']) (by omega) (by unfold maxLen; omega) (by omega) (by simp; omega) _ rfl ?_; intro gg cp w2 ho hgrow hat hlt2)
          have K2 : Kp (fun b => u4.ownBlock = some b) w1 w2 := Kp.grown ((Kp.refl _ _).alloc _) hgrow (fun k hk => hk)
          have T2 := hide (T1.out.growA OA.out O1b.out HapA.out (by omega) K2 ho (fun g' e => by
              have eg : gg = g' := by simpa [Value.ownBlock] using e
              subst eg
              rcases hat with k | k
              · exact .inl k
              · right; simp at k; omega))
          have O2 := hide (Kp.own O1b.out K2 (own_apart O1b.out OA.out.row (by decide)))
          have OC2 := hide (OC.out.aside OA.out.row (fun g e e2 => T1.out.ac g e2 e) K2)
          have B2 := hide (below_kp B1.out K2 B1.out.size (fun b h => (OA.out.row.lt b h).1))
          have zz2 := B2.out.size
          clear ho hgrow hat hnews1 K2 OA OC T1 B1 O1b HapA
          have hnews2 := World.news_of_block (w := w2.alloc (.cells #[.slice (some ⟨g, 0, none⟩) 4 4] 27)) (cs := #[.slice (some ⟨g, 0, none⟩) 4 4]) (t := 27) (fr := (0, 0)) (heap_alloc_new w2 _)
          go_wp2_with (at_builtin; refine wpList_append_lies _ rfl _ _ _ rfl w.heap.size 27 i0 _ 1 24 Try.underlying22 hi0 hz0 hz1 hz2 rfl (by omega) u6 W.length vsC rfl (OC2.out.row.alloc _) ⟨w2.heap.size, 0, none⟩ 1 1 [.slice (some ⟨g, 0, none⟩) 4 4] rfl rfl hnews2 (by simp [Value.oneCell']) (by omega) (by unfold maxLen; omega) (by omega) (by simp; omega) _ rfl ?_; intro gg cp w3 ho hgrow hat hlt3)
          have K3 : Kp (fun b => u6.ownBlock = some b) w2 w3 := Kp.grown ((Kp.refl _ _).alloc _) hgrow (fun k hk => hk)
          have T3 := hide (T2.out.growC OC2.out O2.out HapC.out (by omega) K3 ho (fun g' e => by
              have eg : gg = g' := by simpa [Value.ownBlock] using e
              subst eg
              rcases hat with k | k
              · exact .inl k
              · right; simp at k; omega))
          have B3 := hide (below_kp B2.out K3 B2.out.size (fun b h => (OC2.out.row.lt b h).1))
          clear ho hgrow hat hnews2 K3 OC2 T2 B2 O2 HapC
          go_wp2
          go_roundw
          case rel => exact ⟨i + 1, by go_num, by omega, by rw [HA2.out, HB2.out, HW2.out]; exact T3.out, B3.out⟩
          case measure => simp [intOf]; omega
        · have hp' : ((i : Int).tmod 2 == 0) = false := by
            rw [show (2 : Int) = ((2 : Nat) : Int) from rfl, tmod_nat]
            have : i % 2 = 1 := by omega
            rw [this]; rfl
          have HA2 : Hid (nA (i + 1) = A) := by rw [HA1.out, if_neg hpar]; exact hide rfl
          have HB2 : Hid (nB (i + 1) = B ++ [r]) := by rw [HB1.out, if_neg hpar]; exact hide rfl
          have HW2 : Hid (nW (i + 1) = W ++ [[q0, q3, q2, q1]]) := by rw [HW1.out, HWT.out, if_neg hpar, HQ.out]; exact hide rfl
          clear HA1 HB1 HW1 HWT
          obtain ⟨vsB, oB0⟩ := HT.out.b
          have HapB := hide (oB0.young O1.out)
          obtain ⟨vsC, oC0⟩ := HT.out.c
          have OB := hide (oB0.kp (Kp.of (X := fun _ => False) HKK.out) (fun b _ _ e => e))
          have OC := hide (oC0.kp (Kp.of (X := fun _ => False) HKK.out) (fun b _ _ e => e))
          have hnews1 := World.news_of_block (w := w1.alloc (.cells #[.slice (some ⟨g, 0, none⟩) 4 4] 27)) (cs := #[.slice (some ⟨g, 0, none⟩) 4 4]) (t := 27) (fr := (0, 0)) (heap_alloc_new w1 _)
          clear oB0 oC0 HT HB HKK O1
          go_upto_region 11 with (at_builtin; refine wpList_append_lies _ rfl _ _ _ rfl w.heap.size 27 i0 _ 1 24 Try.underlying22 hi0 hz0 hz1 hz2 rfl (by omega) u5 B.length vsB rfl (OB.out.row.alloc _) ⟨w1.heap.size, 0, none⟩ 1 1 [.slice (some ⟨g, 0, none⟩) 4 4] rfl rfl hnews1 (by simp [Value.oneCell']) (by omega) (by unfold maxLen; omega) (by omega) (by simp; omega) _ rfl ?_; intro gg cp w2 ho hgrow hat hlt2)
          have K2 : Kp (fun b => u5.ownBlock = some b) w1 w2 := Kp.grown ((Kp.refl _ _).alloc _) hgrow (fun k hk => hk)
          have T2 := hide (T1.out.growB OB.out O1b.out HapB.out (by omega) K2 ho (fun g' e => by
              have eg : gg = g' := by simpa [Value.ownBlock] using e
              subst eg
              rcases hat with k | k
              · exact .inl k
              · right; simp at k; omega))
          have o2 := Kp.own O1b.out K2 (own_apart O1b.out OB.out.row (by decide))
          have OC2 := hide (OC.out.aside OB.out.row (fun g e e2 => T1.out.bc g e2 e) K2)
          have B2 := hide (below_kp B1.out K2 B1.out.size (fun b h => (OB.out.row.lt b h).1))
          have zz2 := B2.out.size
          have hgl := (o2.lt g rfl).2
          have hcell : ∀ k u, (ptCells r)[k]? = some u → w2.cell? ⟨g, k, none⟩ = some u := fun k u hu => by
            have hk : k < r.length * 3 := by
              apply Classical.byContradiction
              intro x
              rw [List.getElem?_eq_none (by rw [ptCells_len]; omega)] at hu; cases hu
            rw [own_cell o2 g rfl k hk]; exact hu
          rw [HQ.out] at hcell
          have y0 := hcell 0 _ rfl
          have y1 := hcell 1 _ rfl
          have y2 := hcell 2 _ rfl
          have y3 := hcell 3 _ rfl
          have y4 := hcell 4 _ rfl
          have y5 := hcell 5 _ rfl
          have y6 := hcell 6 _ rfl
          have y7 := hcell 7 _ rfl
          have y8 := hcell 8 _ rfl
          have y9 := hcell 9 _ rfl
          have y10 := hcell 10 _ rfl
          have y11 := hcell 11 _ rfl
          clear ho hgrow hat hnews1 K2 OB OC T1 B1 O1b HapB hcell o2
          go_cut [9] (fun wv w' => wv = .slice (some ⟨w2.heap.size, 0, none⟩) 4 4 ∧ w'.ownsRow w2.heap.size 29 3 (.slice (some ⟨w2.heap.size, 0, none⟩) 4 4) 4 (ptCells [q0, q3, q2, q1]) ∧ Below w2.heap.size w2 w')
          case first =>
            clear T2 OC2 B2 HA2 HB2 HW2 HQ
            go_region
            all_goals
              go_wp2
              go_meet
              case rel => exact ⟨rfl, (own_four w2 w2.heap.size (Nat.le_refl _) q0 q3 q2 q1).drew, ((Below.refl _ _).alloc (Nat.le_refl _) _).drew⟩
          case rest =>
            obtain ⟨rfl, o3, k3⟩ := hcut
            clear y0 y1 y2 y3 y4 y5 y6 y7 y8 y9 y10 y11
            have HapC := hide (OC2.out.young o3)
            have T3 := hide (T2.out.later k3)
            have OC3 := hide (OC2.out.kp (Kp.of (X := fun _ => False) k3) (fun b _ _ e => e))
            have B3 := hide (bvia B2.out k3)
            have zz3 := B3.out.size
            have O3 := hide (own_mono o3 zz2)
            have z3 := k3.size
            clear T2 OC2 B2 o3 k3
            have hnews2 := World.news_of_block (w := wc.alloc (.cells #[.slice (some ⟨w2.heap.size, 0, none⟩) 4 4] 27)) (cs := #[.slice (some ⟨w2.heap.size, 0, none⟩) 4 4]) (t := 27) (fr := (0, 0)) (heap_alloc_new wc _)
            go_wp2_with (at_builtin; refine wpList_append_lies _ rfl _ _ _ rfl w.heap.size 27 i0 _ 1 24 Try.underlying22 hi0 hz0 hz1 hz2 rfl (by omega) u6 W.length vsC rfl (OC3.out.row.alloc _) ⟨wc.heap.size, 0, none⟩ 1 1 [.slice (some ⟨w2.heap.size, 0, none⟩) 4 4] rfl rfl hnews2 (by simp [Value.oneCell']) (by omega) (by unfold maxLen; omega) (by omega) (by simp; omega) _ rfl ?_; intro gg cp w4 ho hgrow hat hlt4)
            have K4 : Kp (fun b => u6.ownBlock = some b) wc w4 := Kp.grown ((Kp.refl _ _).alloc _) hgrow (fun k hk => hk)
            have T4 := hide (T3.out.growC (r := [q0, q3, q2, q1]) OC3.out O3.out HapC.out (by simp) K4 ho (fun g' e => by
              have eg : gg = g' := by simpa [Value.ownBlock] using e
              subst eg
              rcases hat with k | k
              · exact .inl k
              · right; simp at k; omega))
            have B4 := hide (below_kp B3.out K4 B3.out.size (fun b h => (OC3.out.row.lt b h).1))
            clear ho hgrow hat hnews2 K4 OC3 T3 B3 O3 HapC
            go_wp2
            go_roundw
            case rel => exact ⟨i + 1, by go_num, by omega, by rw [HA2.out, HB2.out, HW2.out]; exact T4.out, B4.out⟩
            case measure => simp [intOf]; omega
      · have ei : i = m := by omega
        subst ei
        have HT := hide hT
        clear hT
        go_wp2
        go_meet
        case rel => exact ⟨HT.out, hbel⟩
  case rest =>
    obtain ⟨hT, hbel⟩ := hcut
    obtain ⟨⟨x, oa⟩, ⟨y, ob⟩, ⟨z, oc⟩, _, _, _⟩ := hT
    have hAl := nA_len m
    have hBl := nB_len m
    have hWl := nW_len m
    have PA := hide (oa.poly (by unfold maxLen; omega))
    have PB := hide (ob.poly (by unfold maxLen; omega))
    have PW := hide (oc.poly (by unfold maxLen; omega))
    have CC := hide (clips_yes 4 u4 u5 u6 (nA m) (nB m) (nW m) wc PA.out PB.out PW.out (nested_clip m hm1 hm6) (by omega))
    have CN := hide (fun wz (kz : Below wc.heap.size wc wz) => Nest_any 4 u4 u5 (nA m) (nB m) wz (PA.out.later kz) (PB.out.later kz))
    rw [nested_nest m hm1 hm6] at CN
    have HB := hide hbel
    clear oa ob oc hbel PA PB PW
    go_wp2_with fail
    refine CC.out.mono ?_
    rintro e w2 ⟨rfl, k2⟩
    have CN2 := hide (CN.out w2 k2)
    have B2 := hide (bvia HB.out k2)
    clear CC CN k2 HB
    go_wp2_with fail
    refine CN2.out.mono ?_
    rintro e w3 ⟨v', rfl, o3, k3⟩
    simp only [nS_len] at o3
    have B3 := hide (bvia B2.out k3)
    obtain ⟨la, lcap, rfl, lag, lpos, lmx⟩ := own_form o3
    have HLC : Hid (∀ wz, Below w3.heap.size w3 wz → ∀ j, j < m → ∃ g, la = some ⟨g, 0, none⟩ ∧ wz.cell? ⟨g, j, none⟩ = some (.int .i64 (if j % 2 = 0 then -1 else (j : Int) - 1))) := hide fun wz kz j hj => by
      obtain ⟨g, hg⟩ := lpos (by omega)
      have e1 := lag g hg
      subst e1
      refine ⟨g, rfl, ?_⟩
      rw [← nS_at m j hj]
      refine (kz.cell (p := ⟨g, j, none⟩) (o3.lt g rfl).2).trans ?_
      rw [own_cell o3 g rfl j (by omega)]
      unfold intCells
      rw [List.getElem?_map, List.getElem?_eq_getElem (by rw [nS_len]; exact hj), List.getD_eq_getElem?_getD, List.getElem?_eq_getElem (by rw [nS_len]; exact hj)]; rfl
    clear CN2 B2 o3 k3 lag lpos
    go_wp2_with fail
    go_loopw [13] (fun iv w' => ∃ i : Nat, iv = .int .i64 i ∧ i ≤ m ∧ Below w3.heap.size w3 w') (fun iv _ => m - (intOf iv).toNat)
    case atStart => exact ⟨0, rfl, Nat.zero_le _, Below.refl _ _⟩
    case round =>
      obtain ⟨i, rfl, hi, hb⟩ := hrel
      by_cases hil : i < m
      · obtain ⟨g, rfl, x1⟩ := HLC.out wr hb i hil
        have hi0' : (0 : Int) ≤ (i : Int) := Int.natCast_nonneg _
        have hi1 : (i : Int) < (m : Int) := by omega
        clear HLC
        by_cases hpar : i % 2 = 0
        · rw [if_pos hpar] at x1
          have hp' : (i : Int).tmod 2 = 0 := by
            rw [show (2 : Int) = ((2 : Nat) : Int) from rfl, tmod_nat, hpar]; rfl
          clear hpar
          go_wp2
          go_roundw
          case rel => exact ⟨i + 1, by go_num, by omega, hb⟩
          case measure => simp [intOf]; omega
        · rw [if_neg hpar] at x1
          have hp' : (i : Int).tmod 2 = 1 := by
            rw [show (2 : Int) = ((2 : Nat) : Int) from rfl, tmod_nat]
            have : i % 2 = 1 := by omega
            rw [this]; rfl
          clear hpar
          go_wp2
          go_roundw
          case rel => exact ⟨i + 1, by go_num, by omega, hb⟩
          case measure => simp [intOf]; omega
      · have B4 := hide (bvia B3.out hb)
        clear HLC hb B3
        go_wp2
        go_ret
        exact ⟨rfl, B4.out⟩
end Go.Proofs.Ytnkcbephceollab
