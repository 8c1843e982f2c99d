import Derived.Test.YtnkcbephceollabQ44
import Derived.Test.YtnkcbephceollabS6
namespace Go.Proofs.Ytnkcbephceollab
open Go.RowKit
set_option linter.unusedSimpArgs false
set_option linter.unusedVariables false

theorem mvr_len (x y : Int) (r : List Pt) : (r.map (mv x y)).length = r.length := by simp
theorem mvR_len (x y : Int) (A : List (List Pt)) : (mvR x y A).length = A.length := by unfold mvR; simp
theorem mvR_take (x y : Int) (A : List (List Pt)) (i : Nat) (hi : i < A.length) : (mvR x y A).take (i + 1) = (mvR x y A).take i ++ [(A.getD i []).map (mv x y)] := by
  rw [List.take_succ_eq_append_getElem (by rw [mvR_len]; exact hi), List.getD_eq_getElem?_getD, List.getElem?_eq_getElem hi]
  unfold mvR
  simp
theorem mvr_take (x y : Int) (r : List Pt) (j : Nat) (hj : j < r.length) : (r.map (mv x y)).take (j + 1) = (r.map (mv x y)).take j ++ [mv x y (r.getD j zP)] := by
  rw [List.take_succ_eq_append_getElem (by simpa using hj), List.getD_eq_getElem?_getD, List.getElem?_eq_getElem hj]
  simp

set_option maxRecDepth 100000 in
set_option maxHeartbeats 8000000 in
theorem movedK_any (v : Value) (A : List (List Pt)) (x y : Int) (w : World) (hA : PolyAt w v A) (hx : In x 64) (hy : In y 64) (hF : FewR A) :
    Calls Try.prog 12 #[v, .int .i64 x, .int .i64 y] w fun e w' => ∃ v' vs, e = .returned v' ∧ OwnR w' w.heap.size v' (mvR x y A) vs ∧ Below w.heap.size w w' := by
  obtain ⟨i0, hi0, hz0, hz1, hz2⟩ := info_parts infoPoint
  obtain ⟨i1, hi1, hy0, hy1, hy2⟩ := info_parts infoRing
  obtain ⟨a, cap, rfl, a1, a2, a3⟩ := hA
  unfold maxLen at a2
  have HA := hide a3
  have HF := hide hF
  have hl := hF.few
  have HX := hide hx
  have HY := hide hy
  clear a3 hF hx hy
  go_enter Try.func12, Try.ntmps12
  have hol := mvR_len x y A
  go_wp2_with fail
  go_loopw [7, 8, 9, 10, 11] (fun ov iv _ _ _ w' => ∃ (i : Nat) (vs : List Value), iv = .int .i64 i ∧ i ≤ A.length ∧ OwnR w' w.heap.size ov ((mvR x y A).take i) vs ∧ Below w.heap.size w w') (fun _ iv _ _ _ _ => A.length - (intOf iv).toNat)
  case atStart => exact ⟨0, [], rfl, Nat.zero_le _, OwnR.nil _ _, Below.refl _ _⟩
  case round =>
    obtain ⟨i, vs, rfl, hi, hO, hbel⟩ := hrel
    rename World => wo
    by_cases hlt : i < A.length
    · have HT := hide (mvR_take x y A i hlt)
      have hRl : ((mvR x y A).take i).length = i := by rw [List.length_take]; omega
      obtain ⟨b, off, rv, rfl, hb, hcell, hring⟩ := HA.out i hlt
      have hrs := HF.out.short i hlt
      have HRG := hide (HF.out.good (A.getD i []) (getD_mem hlt []))
      have HC0 : Hid (∀ wz, Below w.heap.size w wz → wz.cell? ⟨b, off + i, none⟩ = some rv) := hide fun wz kz => (kz.cell (p := ⟨b, off + i, none⟩) hb).trans hcell
      generalize A.getD i [] = r at *
      have hr1 := hring.later hbel
      obtain ⟨ra, rcap, rfl, r1, r2, r3⟩ := id hr1
      unfold maxLen at r2
      have HR3 := hide r3
      generalize (mvR x y A).take i = R at *
      have HO := hide hO
      have HB := hide hbel
      have hi0' : (0 : Int) ≤ (i : Int) := Int.natCast_nonneg _
      have hi1' : (i : Int) < (A.length : Int) := by omega
      have hzo := hbel.size
      clear hcell hring hr1 r3 hO hbel HA HF
      go_upto_block 2 with fail
      go_cut [9, 10, 11] (fun sv _ _ w' => w'.ownsRow wo.heap.size 29 3 sv r.length (ptCells (r.map (mv x y))) ∧ Below wo.heap.size wo w')
      case first =>
        clear HT HO
        go_wp2_with fail
        go_loopw [9, 10, 11] (fun sv kv _ w' => ∃ j : Nat, kv = .int .i64 j ∧ j ≤ r.length ∧ w'.ownsRow wo.heap.size 29 3 sv j (ptCells ((r.map (mv x y)).take j)) ∧ Below wo.heap.size wo w') (fun _ kv _ _ => r.length - (intOf kv).toNat)
        case atStart => exact ⟨0, rfl, Nat.zero_le _, World.ownsRow_nil _ _ _ _, Below.refl _ _⟩
        case round =>
          obtain ⟨j, rfl, hj, hs, hbel⟩ := hrel
          have c0 := HC0.out wr (bvia HB.out hbel)
          by_cases hjl : j < r.length
          · have HT2 := hide (mvr_take x y r j hjl)
            obtain ⟨b2, off2, rfl, hb2, hp2⟩ := HR3.out j hjl
            obtain ⟨px, py, pd⟩ := hp2.later hbel hb2
            have gp := HRG.out _ (getD_mem hjl zP)
            generalize r.getD j zP = p at *
            generalize (r.map (mv x y)).take j = D at *
            obtain ⟨l1, v1⟩ := (HX.out.mul gp.d).mono (show (64 * 32768 : Int) ≤ 2097152 by decide)
            obtain ⟨l2, v2⟩ := (HY.out.mul gp.d).mono (show (64 * 32768 : Int) ≤ 2097152 by decide)
            obtain ⟨l3, v3⟩ := gp.x
            obtain ⟨l4, v4⟩ := gp.y
            have HMV := hide (show mv x y p = ⟨p.x + x * p.d, p.y + y * p.d, p.d⟩ from rfl)
            have hs' := hide hs
            have hb' := hide hbel
            have hzr := hbel.size
            have hj0 : (0 : Int) ≤ (j : Int) := Int.natCast_nonneg _
            have hj1 : (j : Int) < (r.length : Int) := by omega
            obtain ⟨W1, hW1⟩ : ∃ W, W = wr.alloc (.cells #[.int .i64 p.x, .int .i64 p.y, .int .i64 p.d] 29) := ⟨_, rfl⟩
            obtain ⟨pb, hpb⟩ : ∃ b, b = wr.heap.size := ⟨_, rfl⟩
            have B1 : Hid (Below wo.heap.size wo W1) := by rw [hW1]; exact hide (hbel.alloc hbel.size _)
            have S1 : Hid (W1.ownsRow wo.heap.size 29 3 u9 j (ptCells D)) := by rw [hW1]; exact hide (hs.alloc _)
            obtain ⟨cp, fp, zp⟩ : Blk W1 pb #[.int .i64 p.x, .int .i64 p.y, .int .i64 p.d] := by rw [hW1, hpb]; exact Blk.new wr _ _
            have z1 := B1.out.size
            clear hs hbel hp2 HR3 hs' hb'
            go_upto_region 10 with fail
            rw [← hW1, ← hpb]
            clear hW1 hpb px py pd c0
            have hnews := World.news_of_block (w := W1.alloc (.cells #[.int .i64 (p.x + x * p.d), .int .i64 (p.y + y * p.d), .int .i64 p.d] 29)) (cs := #[.int .i64 (p.x + x * p.d), .int .i64 (p.y + y * p.d), .int .i64 p.d]) (t := 29) (fr := (0, 0)) (heap_alloc_new W1 _)
            have hn1' : j + 1 ≤ maxLen := by unfold maxLen; omega
            have hn2' : (j + 1) * 24 ≤ 140737488355328 := by omega
            go_wp2_with (at_builtin; refine wpList_append_lies _ rfl _ _ _ rfl wo.heap.size 29 i0 _ 3 24 Try.underlying27 hi0 hz0 hz1 hz2 rfl (by omega) u9 j (ptCells D) rfl (S1.out.alloc _) ⟨W1.heap.size, 0, none⟩ 1 1 (ptCell ⟨p.x + x * p.d, p.y + y * p.d, p.d⟩) rfl rfl hnews (by simp [ptCell, Value.oneCell']) (by omega) hn1' hn2' (by simp; omega) _ rfl ?_; intro gg cp' w4 ho hgrow hat hlt4)
            have O4 : Hid (w4.ownsRow wo.heap.size 29 3 (.slice (some ⟨gg, 0, none⟩) (j + 1) cp') (j + 1) (ptCells ((r.map (mv x y)).take (j + 1)))) := by
              refine hide ?_
              rw [HT2.out, ptCells_append, HMV.out]
              have e2 : ptCells [(⟨p.x + x * p.d, p.y + y * p.d, p.d⟩ : Pt)] = ptCell ⟨p.x + x * p.d, p.y + y * p.d, p.d⟩ := by simp [ptCells]
              rw [e2]; exact ho
            have B4 : Hid (Below wo.heap.size wo w4) := hide (Below.grown (B1.out.alloc B1.out.size _) hgrow (by have := B1.out.size; simp; omega) (fun q hq => (S1.out.lt q hq).1))
            clear ho hgrow hat hnews S1 B1 cp fp zp HT2 HMV
            go_wp2
            go_roundw
            case rel => exact ⟨j + 1, by go_num, by omega, O4.out, B4.out⟩
            case measure => simp [intOf]; omega
          · have ej : j = r.length := by omega
            subst ej
            have HS : Hid (wr.ownsRow wo.heap.size 29 3 u9 r.length (ptCells (r.map (mv x y)))) := by
              rw [List.take_of_length_le (by rw [mvr_len]; exact Nat.le_refl _)] at hs; exact hide hs
            clear hs HR3
            go_wp2
            go_meet
            case rel => exact ⟨HS.out, hbel⟩
      case rest =>
        obtain ⟨hs, hbel⟩ := hcut
        obtain ⟨sa, scap, rfl, _, _, _⟩ := own_form hs
        have hor := mvr_len x y r
        have O5 := HO.out.kp (Kp.of (X := fun _ => False) hbel) (fun b _ _ e => e)
        have HO5 := hide O5
        have hs5 : wc.ownsRow w.heap.size 29 3 (.slice sa r.length scap) (r.map (mv x y)).length (ptCells (r.map (mv x y))) := by rw [hor]; exact own_mono hs hzo
        have HS5 := hide hs5
        have HAP : Hid (∀ j g, j < R.length → (vs.getD j nilV).ownBlock = some g → (Value.slice sa r.length scap).ownBlock ≠ some g) := hide fun j g hj e e2 => by
          have h1 := (HO.out.lt j g hj e).2
          have h2 := (hs.lt g e2).1
          omega
        have B5 := hide (bvia HB.out hbel)
        have zc := hbel.size
        have HRow := hide O5.row
        obtain ⟨oa, ocap, rfl, _, _, _⟩ := own_form O5.row
        have hnews := World.news_of_block (w := wc.alloc (.cells #[.slice sa r.length scap] 27)) (cs := #[.slice sa r.length scap]) (t := 27) (fr := (0, 0)) (heap_alloc_new wc _)
        have hn1' : R.length + 1 ≤ maxLen := by unfold maxLen; omega
        have hn2' : (R.length + 1) * 24 ≤ 140737488355328 := by omega
        clear hs hs5 O5 HO hbel HB
        go_wp2_with (at_builtin; refine wpList_append_lies _ rfl _ _ _ rfl w.heap.size 27 i1 _ 1 24 Try.underlying22 hi1 hy0 hy1 hy2 rfl (by omega) (.slice oa R.length ocap) R.length vs rfl (HRow.out.alloc _) ⟨wc.heap.size, 0, none⟩ 1 1 [.slice sa r.length scap] rfl rfl hnews (by simp [Value.oneCell']) (by omega) hn1' hn2' (by simp; omega) _ rfl ?_; intro gg cp w6 ho hgrow hat hlt6)
        have K6 : Kp (fun b => (Value.slice oa R.length ocap).ownBlock = some b) wc w6 := Kp.grown ((Kp.refl _ _).alloc _) hgrow (fun k hk => hk)
        have O6 : Hid (OwnR w6 w.heap.size (.slice (some ⟨gg, 0, none⟩) (R.length + 1) cp) ((mvR x y A).take (i + 1)) (vs ++ [.slice sa r.length scap])) := by
          rw [HT.out]
          exact hide (HO5.out.snoc HS5.out HAP.out (by rw [hor]; omega) K6 ho)
        have B6 : Hid (Below w.heap.size w w6) := hide (below_kp B5.out K6 B5.out.size (fun b h => (HRow.out.lt b h).1))
        clear ho hgrow hat hnews K6 HO5 HS5 HAP HRow B5 HT
        go_wp2
        go_roundw
        case rel => exact ⟨i + 1, vs ++ [.slice sa r.length scap], by go_num, by omega, by have h := O6.out; rw [hRl] at h; exact h, B6.out⟩
        case measure => simp [intOf]; omega
    · have ei : i = A.length := by omega
      have HO : Hid (OwnR wo w.heap.size u7 (mvR x y A) vs) := by
        rw [List.take_of_length_le (by omega)] at hO; exact hide hO
      clear hO
      go_wp2
      go_ret
      exact ⟨_, vs, rfl, HO.out, hbel⟩

theorem few_check {A : List (List Pt)} (h : (checkM A).1 = 0) : FewR A := by
  have s := sound_of h
  have f := check_few h
  obtain ⟨c1, _⟩ := check_parts h
  refine ⟨by omega, fun k hk => ?_, fun q hq p hp => (s.gr p (List.mem_flatten.2 ⟨q, hq, hp⟩)).gd⟩
  have hm := getD_mem hk []
  generalize A.getD k [] = r at *
  have : (ringEdges r).length ≤ (edgesM A).length := by
    unfold edgesM
    obtain ⟨s1, s2, rfl⟩ := List.append_of_mem hm
    rw [List.flatMap_append, List.flatMap_cons, List.length_append, List.length_append]; omega
  rw [ringEdges_len] at this
  omega
theorem clip_err {op : Int} {A B : List (List Pt)} (h : (clipM op A B).2 ≠ 0) : (clipM op A B).1 = [] := by
  unfold clipM at *
  by_cases c0 : op < 0 ∨ op > 4
  · rw [if_pos c0]
  rw [if_neg c0] at *
  by_cases c : bothM A B = 0
  · rw [if_neg (by simpa using c)] at h; exact absurd rfl h
  · rw [if_pos c]
theorem clip_zero {op : Int} {A B : List (List Pt)} (h : (clipM op A B).2 = 0) : bothM A B = 0 := by
  unfold clipM at h
  by_cases c0 : op < 0 ∨ op > 4
  · rw [if_pos c0] at h; simp at h
  rw [if_neg c0] at h
  by_cases c : bothM A B = 0
  · exact c
  · rw [if_pos c] at h; exact absurd h c

set_option maxRecDepth 100000 in
set_option maxHeartbeats 8000000 in
theorem moved_walk (op : Int) (va vb : Value) (A B : List (List Pt)) (x y : Int) (w : World) (hA : PolyAt w va A) (hB : PolyAt w vb B) (hx1 : -9223372036854775808 ≤ x) (hx2 : x ≤ 9223372036854775807) (hy1 : -9223372036854775808 ≤ y) (hy2 : y ≤ 9223372036854775807) :
    Calls Try.prog 4 #[.int .i64 op, va, vb, .int .i64 x, .int .i64 y] w fun e w' => e = .returned (.bool true) ∧ Below w.heap.size w w' := by
  have HA := hide hA
  have HB := hide hB
  have CX := hide (fun wz => coordinate_any x wz hx1 hx2)
  have CY := hide (fun wz => coordinate_any y wz hy1 hy2)
  have HIX := hide (coordM_in x)
  have HIY := hide (coordM_in y)
  have C1 := hide (fun wz (kz : Below w.heap.size w wz) => Clip_any op va vb A B wz (hA.later kz) (hB.later kz))
  clear hA hB
  by_cases hz : (clipM op A B).2 = 0
  · have hb := clip_zero hz
    obtain ⟨h1, h2⟩ := both_zero hb
    have FA := hide (few_check h1)
    have FB := hide (few_check h2)
    have FC := hide (clip_few op A B)
    have HMV := hide (fun p q => clip_mv p q op hz)
    have C2 := hide (fun p q va' vb' wz k1 k2 => Clip_any op va' vb' (mvR p q A) (mvR p q B) wz k1 k2)
    generalize clipM op A B = cl at *
    obtain ⟨R, z⟩ := cl
    simp only at hz
    subst hz
    simp only at C1 FC HMV
    clear hb h1 h2
    have hRl := FC.out.few
    generalize coordM x = dx at *
    generalize coordM y = dy at *
    have HM2 := hide (HMV.out dx dy)
    have C2' := hide (C2.out dx dy)
    generalize clipM op (mvR dx dy A) (mvR dx dy B) = cl2 at *
    clear HMV C2
    go_enter Try.func4, Try.ntmps4
    go_wp2_with fail
    refine (known_yes _).mono ?_
    rintro e w1 ⟨rfl, k1⟩
    have C1' := hide (C1.out w1 k1)
    have B1 := hide k1
    clear k1 C1
    go_wp2_with fail
    refine C1'.out.mono ?_
    rintro e w2 ⟨v1, vs1, rfl, o1, k2⟩
    have P2 := hide (o1.poly (by unfold maxLen; omega))
    have B2 := hide (bvia B1.out k2)
    clear C1' o1 k2 B1
    go_wp2_with fail
    refine (CX.out _).mono ?_
    rintro e w' ⟨rfl, hw⟩
    have hw2 := hw.symm
    subst hw2
    go_wp2_with fail
    refine (CY.out _).mono ?_
    rintro e w' ⟨rfl, hw⟩
    have hw2 := hw.symm
    subst hw2
    have CA := hide (movedK_any va A dx dy w2 (HA.out.later B2.out) HIX.out HIY.out FA.out)
    clear CX CY hw
    go_wp2_with fail
    refine CA.out.mono ?_
    rintro e w3 ⟨v3, vs3, rfl, o3, k3⟩
    have P3 := hide (P2.out.later k3)
    have Q3 := hide (o3.poly (by rw [mvR_len]; have := FA.out.few; unfold maxLen; omega))
    have B3 := hide (bvia B2.out k3)
    have CB := hide (movedK_any vb B dx dy w3 (HB.out.later B3.out) HIX.out HIY.out FB.out)
    clear CA P2 B2 o3 k3
    go_wp2_with fail
    refine CB.out.mono ?_
    rintro e w4 ⟨v4, vs4, rfl, o4, k4⟩
    have P4 := hide (P3.out.later k4)
    have Q4 := hide (Q3.out.later k4)
    have S4 := hide (o4.poly (by rw [mvR_len]; have := FB.out.few; unfold maxLen; omega))
    have B4 := hide (bvia B3.out k4)
    have CC := hide (C2'.out v3 v4 w4 Q4.out S4.out)
    clear CB P3 Q3 B3 o4 k4 C2' Q4 S4 FA FB
    go_wp2_with fail
    refine CC.out.mono ?_
    rintro e w5 ⟨v5, vs5, rfl, o5, k5⟩
    have P5 := hide (P4.out.later k5)
    have B5 := hide (bvia B4.out k5)
    have O5 := hide o5
    clear CC P4 B4 o5 k5
    by_cases h3 : cl2.2 = 0
    · have HE : Hid (cl2 = (mvR dx dy R, 0)) := hide (by
        rcases HM2.out with k | k
        · rw [h3] at k; cases k
        · exact k)
      have Q5 : Hid (PolyAt w5 v5 (mvR dx dy R)) := by
        refine hide ?_
        have := O5.out
        rw [HE.out] at this
        exact this.poly (by rw [mvR_len]; unfold maxLen; omega)
      rw [h3]
      have CD := hide (movedK_any v1 R dx dy w5 P5.out HIX.out HIY.out FC.out)
      clear O5 HM2
      go_wp2_with fail
      refine CD.out.mono ?_
      rintro e w6 ⟨v6, vs6, rfl, o6, k6⟩
      have B6 := hide (bvia B5.out k6)
      have CS := hide (sameRings_yes v5 v6 (mvR dx dy R) w6 (Q5.out.later k6) (o6.poly (by rw [mvR_len]; unfold maxLen; omega)))
      clear CD o6 k6 B5 P5 Q5
      go_wp2_with fail
      refine CS.out.mono ?_
      rintro e w7 ⟨rfl, n7, rfl⟩
      have B7 := hide (below_drewN B6.out n7)
      clear CS B6
      go_wp2
      go_ret
      exact ⟨rfl, B7.out⟩
    · have h4 : cl2.2 = 3 := by
        rcases HM2.out with k | k
        · exact k
        · rw [k] at h3; exact absurd rfl h3
      rw [h4]
      clear O5 HM2 h3 h4
      go_wp2
      go_ret
      exact ⟨rfl, B5.out⟩
  · have HE := hide (clip_err hz)
    generalize clipM op A B = cl at *
    obtain ⟨R, z⟩ := cl
    simp only at hz HE C1
    have eR := HE.out
    subst eR
    have hz' : (z != 0) = true := by simpa using hz
    go_enter Try.func4, Try.ntmps4
    go_wp2_with fail
    refine (known_yes _).mono ?_
    rintro e w1 ⟨rfl, k1⟩
    have C1' := hide (C1.out w1 k1)
    have B1 := hide k1
    clear k1 C1
    go_wp2_with fail
    refine C1'.out.mono ?_
    rintro e w2 ⟨v1, vs1, rfl, o1, k2⟩
    have B2 := hide (bvia B1.out k2)
    obtain ⟨oa, ocap, rfl, _, _, _⟩ := own_form o1.row
    clear C1' o1 k2 B1
    go_wp2
    go_ret
    exact ⟨rfl, B2.out⟩
end Go.Proofs.Ytnkcbephceollab
