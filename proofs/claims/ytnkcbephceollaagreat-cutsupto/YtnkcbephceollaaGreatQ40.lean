import Derived.Test.YtnkcbephceollaaGreatQ39
import Derived.Test.YtnkcbephceollaaGreatQ27
namespace Go.Proofs.YtnkcbephceollaaGreat
open Go.RowKit
set_option linter.unusedSimpArgs false
set_option linter.unusedVariables false


set_option maxRecDepth 100000 in
set_option maxHeartbeats 4000000 in
theorem rcrossed_any (o q : Pt) (v : Value) (E : List (Pt × Pt)) (w : World) (hE : SegsAt w v E)
    (hD : ∀ e ∈ E, DetOk o q e.1 ∧ DetOk o q e.2 ∧ DetOk e.1 e.2 o ∧ DetOk e.1 e.2 q) :
    Calls Tryz.prog 87 #[o.v, q.v, v] w fun e w' => e = .returned (.int .i64 (nCross o q E)) ∧ Below w.heap.size w w' := by
  obtain ⟨a, cap, rfl, h1, h2, h3⟩ := hE
  unfold maxLen at h2
  have H3 := hide h3
  have HD := hide hD
  clear h3 hD
  go_enter Tryz.func87, Tryz.ntmps87
  go_wp2_with fail
  go_loopw [7, 8, 9, 10, 11, 12, 13, 14, 15] (fun cv iv _ _ _ _ _ _ _ w' => ∃ i : Nat, iv = .int .i64 i ∧ i ≤ E.length ∧ cv = .int .i64 (nCross o q (E.take i)) ∧ Blk w' w.heap.size #[.int .i64 o.x, .int .i64 o.y, .int .i64 o.d] ∧ Blk w' (w.heap.size + 1) #[.int .i64 q.x, .int .i64 q.y, .int .i64 q.d] ∧ Below w.heap.size w w') (fun _ iv _ _ _ _ _ _ _ _ => E.length - (intOf iv).toNat)
  case atStart => exact ⟨0, rfl, Nat.zero_le _, rfl, (Blk.new w _ _).alloc _, Blk.at (w.heap.size + 1) (by simp), below2 _ _ _⟩
  case round =>
    obtain ⟨i, rfl, hi, rfl, ⟨co, fo, zo⟩, ⟨cq, fq, zq⟩, hbel⟩ := hrel
    by_cases hlt : i < E.length
    · obtain ⟨b, off, rfl, hb, hs⟩ := H3.out i hlt
      obtain ⟨c0, c1, c2, c3, c4, c5⟩ := hs.later hbel hb
      have hm : E.getD i (zP, zP) ∈ E := getD_mem hlt _
      obtain ⟨D1, D2, D3, D4⟩ := HD.out _ hm
      have HN := hide (nCross_take o q E i hlt)
      have hle : nCross o q (E.take i) ≤ i := Nat.le_trans (nCross_le ..) (by simp; omega)
      have HX := hide (show crossB o q (E.getD i (zP, zP)).1 (E.getD i (zP, zP)).2 = _ from rfl)
      generalize E.getD i (zP, zP) = e at *
      have hc0 : (0 : Int) ≤ (nCross o q (E.take i) : Int) := Int.natCast_nonneg _
      have hcl : (nCross o q (E.take i) : Int) ≤ 9223372036854775806 := by omega
      generalize nCross o q (E.take i) = nc at *
      have HX : Hid (crossB o q e.1 e.2 = (apartB (detM o q e.1) (detM o q e.2) && apartB (detM e.1 e.2 o) (detM e.1 e.2 q))) := hide rfl
      clear hs hm
      go_wp2_with fail
      refine (D1 _).mono ?_
      rintro e' w1 ⟨rfl, k1⟩
      have B1 := bvia (hbel.alloc hbel.size _) k1
      obtain ⟨co1, fo1, zo1⟩ := ((Blk.mk co fo zo).alloc _).call k1
      obtain ⟨cq1, fq1, zq1⟩ := ((Blk.mk cq fq zq).alloc _).call k1
      obtain ⟨ce1, fe1, ze1⟩ := (Blk.new wr _ _).call k1
      clear k1 c0 c1 c2 c3 c4 c5 co fo zo cq fq zq hbel
      go_wp2_with fail
      refine (D2 _).mono ?_
      rintro e' w2 ⟨rfl, k1⟩
      have B2 := bvia B1 k1
      obtain ⟨co2, fo2, zo2⟩ := (Blk.mk co1 fo1 zo1).call k1
      obtain ⟨cq2, fq2, zq2⟩ := (Blk.mk cq1 fq1 zq1).call k1
      obtain ⟨ce2, fe2, ze2⟩ := (Blk.mk ce1 fe1 ze1).call k1
      clear k1 co1 fo1 zo1 cq1 fq1 zq1 ce1 fe1 ze1 B1
      go_wp2_with fail
      refine (D3 _).mono ?_
      rintro e' w3 ⟨rfl, k1⟩
      have B3 := bvia B2 k1
      obtain ⟨co3, fo3, zo3⟩ := (Blk.mk co2 fo2 zo2).call k1
      obtain ⟨cq3, fq3, zq3⟩ := (Blk.mk cq2 fq2 zq2).call k1
      obtain ⟨ce3, fe3, ze3⟩ := (Blk.mk ce2 fe2 ze2).call k1
      clear k1 co2 fo2 zo2 cq2 fq2 zq2 ce2 fe2 ze2 B2
      go_wp2_with fail
      refine (D4 _).mono ?_
      rintro e' w4 ⟨rfl, k1⟩
      have B4 := bvia B3 k1
      have Lo := (Blk.mk co3 fo3 zo3).call k1
      have Lq := (Blk.mk cq3 fq3 zq3).call k1
      clear k1 co3 fo3 zo3 cq3 fq3 zq3 ce3 fe3 ze3 B3
      clear D1 D2 D3 D4
      generalize detM o q e.1 = m1 at *
      generalize detM o q e.2 = m2 at *
      generalize detM e.1 e.2 o = m3 at *
      generalize detM e.1 e.2 q = m4 at *
      go_wp2_with fail
      refine (rapart_any m1 m2 _).mono ?_
      rintro e' w5 ⟨rfl, hw⟩
      obtain rfl := hw.symm
      go_wp2_with fail
      refine (rapart_any m3 m4 _).mono ?_
      rintro e' w6 ⟨rfl, hw⟩
      obtain rfl := hw.symm
      generalize apartB m1 m2 = x1 at *
      generalize apartB m3 m4 = x2 at *
      cases x1
      · have HE : Hid (nCross o q (E.take (i + 1)) = nc) := HN.out.trans (by rw [HX.out]; rfl)
        go_wp2
        go_roundw
        case rel => exact ⟨i + 1, by go_num, by omega, by rw [HE.out], Lo, Lq, B4⟩
        case measure => simp [intOf]; omega
      · cases x2
        · have HE : Hid (nCross o q (E.take (i + 1)) = nc) := HN.out.trans (by rw [HX.out]; rfl)
          go_wp2
          go_roundw
          case rel => exact ⟨i + 1, by go_num, by omega, by rw [HE.out], Lo, Lq, B4⟩
          case measure => simp [intOf]; omega
        · have HE : Hid (nCross o q (E.take (i + 1)) = nc + 1) := HN.out.trans (by rw [HX.out]; rfl)
          go_wp2
          go_roundw
          case rel => exact ⟨i + 1, by go_num, by omega, by rw [HE.out]; go_num, Lo, Lq, B4⟩
          case measure => simp [intOf]; omega
    · have HE : Hid (E.take i = E) := List.take_of_length_le (by omega)
      go_wp2
      go_ret
      exact ⟨ret_int (by rw [HE.out]), hbel⟩
end Go.Proofs.YtnkcbephceollaaGreat
namespace Go.Proofs.YtnkcbephceollaaGreat
open Go.RowKit
set_option linter.unusedSimpArgs false
set_option linter.unusedVariables false

theorem detOk_w {a b c : Pt} (ha : Gw a) (hb : Gw b) (hc : Gw c) : DetOk a b c := fun w => rdet_w a b c w ha hb hc

set_option maxRecDepth 100000 in
set_option maxHeartbeats 4000000 in
theorem rlocate_any (v : Value) (P : List (List Pt)) (q : Pt) (w : World) (hP : PolyAt w v P) (hT : P.flatten.length ≤ 100000) (hq : goodB q = true) (hG : ∀ p ∈ P.flatten, goodB p = true) :
    Calls Tryz.prog 50 #[v, q.v] w fun e w' => e = .returned (.int .i64 (rlocM P q)) ∧ Below w.heap.size w w' := by
  have hT' : (edgesM P).length ≤ 100000 := by rw [edgesM_len]; exact hT
  have gq := (gd_of_good hq).1
  have gqw := gq.gw
  have grw := gw_right hq
  have h4 : ∀ k, k ≤ P.flatten.length + 1 → ∀ p ∈ P.flatten, DetOk (outP k) q p := fun k hk p hp => detOk_w (outP_gw k (by omega)) gqw (gd_of_good (hG p hp)).1.gw
  have h5 : ∀ k, k ≤ P.flatten.length + 1 → DetOk q (rightP q) (outP k) := fun k hk => detOk_w gqw grw (outP_gw k (by omega))
  have HX : Hid (∀ e ∈ edgesM P, DetOk (farM q P.flatten q (rightP q)) q e.1 ∧ DetOk (farM q P.flatten q (rightP q)) q e.2 ∧ DetOk e.1 e.2 (farM q P.flatten q (rightP q)) ∧ DetOk e.1 e.2 q) := by
    refine hide (fun e he => ?_)
    obtain ⟨j, hj, ej⟩ := farL_out (freeB q P.flatten q (rightP q)) (P.flatten.length + 2) 0
    have hf : Gw (farM q P.flatten q (rightP q)) := by unfold farM; rw [ej]; exact outP_gw j (by omega)
    obtain ⟨m1, m2⟩ := edges_mem he
    have g1 := (gd_of_good (hG _ m1)).1.gw
    have g2 := (gd_of_good (hG _ m2)).1.gw
    exact ⟨detOk_w hf gqw g1, detOk_w hf gqw g2, detOk_w g1 g2 hf, detOk_w g1 g2 gqw⟩
  have HFar := hide (fun (pv : Value) (wz : World) (hr : RingAt wz pv P.flatten) => rfar_any q pv P.flatten q (rightP q) wz hr (by omega) h4 h5)
  have hGe : ∀ e ∈ edgesM P, Gd e.1 ∧ Gd e.2 := fun e he => ⟨(gd_of_good (hG _ (edges_mem he).1)).1, (gd_of_good (hG _ (edges_mem he).2)).1⟩
  have HGe := hide hGe
  have HR := hide (show rlocM P q = if (edgesM P).any (fun e => onB q e.1 e.2) = true then 2 else if nCross (farM q P.flatten q (rightP q)) q (edgesM P) % 2 = 1 then 1 else 0 from rfl)
  obtain ⟨lx, ux⟩ := gq.x
  obtain ⟨ld, ud⟩ := gq.d
  clear h4 h5 hGe hG grw gqw
  generalize rlocM P q = res at *
  go_enter Tryz.func50, Tryz.ntmps50
  go_wp2_with fail
  refine (rEdges_any v P _ (hP.later ((Below.refl _ _).alloc (Nat.le_refl _) _)) hT').mono ?_
  rintro e w1 ⟨ev, rfl, hE, k1⟩
  have B1 := bvia ((Below.refl _ _).alloc (Nat.le_refl _) _) k1
  have Q1 := (Blk.new w #[.int .i64 q.x, .int .i64 q.y, .int .i64 q.d] 31).call k1
  clear k1
  obtain ⟨ea, ecap, rfl, e1, e2, e3⟩ := id hE
  unfold maxLen at e2
  generalize hEe : edgesM P = E at *
  go_upto_block 0 with fail
  go_cut [6, 7] (fun _ _ w' => E.any (fun e => onB q e.1 e.2) = false ∧ Blk w' w.heap.size #[.int .i64 q.x, .int .i64 q.y, .int .i64 q.d] ∧ Below w.heap.size w w' ∧ Below w1.heap.size w1 w')
  case first =>
    go_wp2_with fail
    go_loopw [6, 7] (fun iv _ w' => ∃ i : Nat, iv = .int .i64 i ∧ i ≤ E.length ∧ Blk w' w.heap.size #[.int .i64 q.x, .int .i64 q.y, .int .i64 q.d] ∧ Below w.heap.size w w' ∧ Below w1.heap.size w1 w' ∧ Hid (E.any (fun e => onB q e.1 e.2) = (E.drop i).any (fun e => onB q e.1 e.2))) (fun iv _ _ => E.length - (intOf iv).toNat)
    case atStart => exact ⟨0, rfl, Nat.zero_le _, Q1, B1, Below.refl _ _, rfl⟩
    case round =>
      obtain ⟨i, rfl, hi, ⟨cq, fq, zq⟩, hbel, hb1, HB⟩ := hrel
      by_cases hlt : i < E.length
      · obtain ⟨b, off, rfl, hb, hs⟩ := e3 i hlt
        obtain ⟨c0, c1, c2, c3, c4, c5⟩ := hs.later hb1 hb
        have HC := hide (any_drop (fun e : Pt × Pt => onB q e.1 e.2) E i hlt (zP, zP))
        obtain ⟨ge1, ge2⟩ := HGe.out _ (getD_mem hlt (zP, zP))
        generalize E.getD i (zP, zP) = e at *
        have hi0 : (0 : Int) ≤ (i : Int) := Int.natCast_nonneg _
        have hi1 : (i : Int) < (E.length : Int) := by omega
        have C := fun wz => ron_any q e.1 e.2 wz gq ge1 ge2
        clear e3 hs
        go_upto_region 5 with fail
        go_cut [7] (fun bv w' => bv = .bool (onB q e.1 e.2) ∧ Blk w' w.heap.size #[.int .i64 q.x, .int .i64 q.y, .int .i64 q.d] ∧ Below w.heap.size w w' ∧ Below w1.heap.size w1 w')
        case first =>
          go_region_with (go_at_call 85; refine (C _).mono ?_; rintro e' w2 ⟨rfl, k2⟩)
          all_goals
            go_wp2_with fail
            go_meet
            case rel => exact ⟨rfl, (Blk.mk cq fq zq).drew.call k2, bvia hbel.drew k2, bvia hb1.drew k2⟩
        case rest =>
          clear cq fq zq hbel hb1 c0 c1 c2 c3 c4 c5 C
          obtain ⟨rfl, L1, L2, L3⟩ := hcut
          cases ho : onB q e.1 e.2
          · have HE : Hid (E.any (fun e => onB q e.1 e.2) = (E.drop (i + 1)).any (fun e => onB q e.1 e.2)) := HB.out.trans (HC.out.trans (by simp [ho]))
            clear HB HC
            go_wp2
            go_roundw
            case rel => exact ⟨i + 1, by go_num, by omega, L1, L2, L3, HE⟩
            case measure => simp [intOf]; omega
          · have HE : Hid (res = 2) := HR.out.trans (if_pos (HB.out.trans (HC.out.trans (by simp [ho]))))
            clear HB HC
            go_wp2
            go_ret
            exact ⟨ret_int HE.out.symm, L2⟩
      · have HE : Hid (E.any (fun e => onB q e.1 e.2) = false) := by rw [HB.out, List.drop_of_length_le (by omega)]; exact hide rfl
        have hi1 : ¬ (i : Int) < (E.length : Int) := by omega
        go_wp2
        go_meet
        case rel => exact ⟨HE.out, Blk.mk cq fq zq, hbel, hb1⟩
  case rest =>
    obtain ⟨hno, Q2, B2, k2⟩ := hcut
    have HE : Hid (res = if nCross (farM q P.flatten q (rightP q)) q E % 2 = 1 then 1 else 0) := HR.out.trans (if_neg (by rw [hno]; decide))
    have hE2 := hE.later k2
    have hP2 := hP.later B2
    clear HR hno Q1 B1 hE k2 hP
    generalize farM q P.flatten q (rightP q) = fm at *
    obtain ⟨cq, fq, zq⟩ := Q2
    go_upto_region 9 with fail
    have SX := Blk.new wc #[.int .i64 q.x, .int .i64 q.y, .int .i64 q.d, .int .i64 (q.x + q.d), .int .i64 q.y, .int .i64 q.d] 73
    have QX := (Blk.mk cq fq zq).alloc (.cells #[.int .i64 q.x, .int .i64 q.y, .int .i64 q.d, .int .i64 (q.x + q.d), .int .i64 q.y, .int .i64 q.d] 73)
    have BX := B2.alloc B2.size (.cells #[.int .i64 q.x, .int .i64 q.y, .int .i64 q.d, .int .i64 (q.x + q.d), .int .i64 q.y, .int .i64 q.d] 73)
    have kX : Below wc.heap.size wc (wc.alloc (.cells #[.int .i64 q.x, .int .i64 q.y, .int .i64 q.d, .int .i64 (q.x + q.d), .int .i64 q.y, .int .i64 q.d] 73)) := (Below.refl _ _).alloc (Nat.le_refl _) _
    have EX := hE2.later kX
    have PX := hP2.later kX
    have hsz := B2.size
    generalize wc.alloc (.cells #[.int .i64 q.x, .int .i64 q.y, .int .i64 q.d, .int .i64 (q.x + q.d), .int .i64 q.y, .int .i64 q.d] 73) = wX at *
    generalize wc.heap.size = sb at *
    clear kX hE2 hP2 cq fq zq B2
    obtain ⟨cs, fs, zs⟩ := SX
    obtain ⟨cq, fq, zq⟩ := QX
    have hqs : w.heap.size < wX.heap.size := zq
    go_cut [9] (fun po w' => ∃ ob, po = .pointer (some ⟨ob, 0, none⟩) ∧ Blk w' ob #[.int .i64 fm.x, .int .i64 fm.y, .int .i64 fm.d] ∧ Blk w' w.heap.size #[.int .i64 q.x, .int .i64 q.y, .int .i64 q.d] ∧ Below w.heap.size w w' ∧ Below wX.heap.size wX w')
    case first =>
      go_region_with (first
        | (go_at_call 44; refine (points_any v P _ (by first | exact PX.later (Below.refl _ _).drew | exact PX.later (((Below.refl _ _).alloc (Nat.le_refl _) _).drew)) hT).mono ?_; rintro e' w3 ⟨pv, rfl, hr3, k3⟩; have BQ : Blk w3 w.heap.size #[.int .i64 q.x, .int .i64 q.y, .int .i64 q.d] := (by first | exact (Blk.mk cq fq zq).drew.call k3 | exact ((Blk.mk cq fq zq).alloc _).drew.call k3); have BS : Blk w3 sb #[.int .i64 q.x, .int .i64 q.y, .int .i64 q.d, .int .i64 (q.x + q.d), .int .i64 q.y, .int .i64 q.d] := (by first | exact (Blk.mk cs fs zs).drew.call k3 | exact ((Blk.mk cs fs zs).alloc _).drew.call k3); have BB : Below w.heap.size w w3 := (by first | exact bvia BX.drew k3 | exact bvia (BX.alloc BX.size _).drew k3); have BK : Below wX.heap.size wX w3 := (by first | exact bvia (Below.refl _ _).drew k3 | exact bvia ((Below.refl _ _).alloc (Nat.le_refl _) _).drew k3); obtain ⟨cq3, fq3, zq3⟩ := id BQ; obtain ⟨cs3, fs3, zs3⟩ := BS; try (have BO : Blk w3 wX.heap.size #[.int .i64 0, .int .i64 0, .int .i64 0] := (by exact (Blk.new wX _ _).drew.call k3); obtain ⟨co3, fo3, zo3⟩ := BO))
        | (go_at_call 86; refine (HFar.out pv _ (by first | exact hr3 | exact hr3.later ((Below.refl _ _).alloc (Nat.le_refl _) _))).mono ?_; rintro e' w4 ⟨rfl, k4⟩; first | (have BO : Blk w4 wX.heap.size #[.int .i64 0, .int .i64 0, .int .i64 0] := (by exact (Blk.mk co3 fo3 zo3).call k4); obtain ⟨co4, fo4, zo4⟩ := BO) | (have BO : Blk w4 w3.heap.size #[.int .i64 0, .int .i64 0, .int .i64 0] := (by exact (Blk.new w3 _ _).call k4); obtain ⟨co4, fo4, zo4⟩ := BO) | skip))
      all_goals
        go_wp2_with fail
        go_meet
        first
          | (have k4' : Below w3.heap.size w3 w4 := k4; exact ⟨w4.heap.size, rfl, Blk.new w4 _ _, (BQ.call k4').alloc _, (bvia BB k4').alloc (bvia BB k4').size _, (bvia BK k4').alloc (bvia BK k4').size _⟩)
          | (have k4' : Below w3.heap.size w3 w4 := k4; exact ⟨wX.heap.size, rfl, (Blk.mk co4 fo4 zo4).put3, (BQ.call k4').off3 (by omega) _ _ _, below_set3 (o := 0) (bvia BB k4') (by omega), below_set3 (o := 0) (bvia BK k4') (by omega)⟩)
          | (have hz3 := BK.size; exact ⟨w3.heap.size, rfl, (Blk.mk co4 fo4 zo4).put3, ((BQ.alloc _).call k4).off3 (by omega) _ _ _, below_set3 (o := 0) (bvia (BB.alloc BB.size _) k4) (by omega), below_set3 (o := 0) (bvia (BK.alloc BK.size _) k4) (by omega)⟩)
    case rest =>
      obtain ⟨ob, rfl, ⟨co, fo, zo⟩, ⟨cq4, fq4, zq4⟩, B4, k4⟩ := hcut
      have hE4 := EX.later k4
      have hnl := nCross_le fm q E
      have hnl2 : (nCross fm q E : Int) ≤ 100000 := by omega
      have hn0 : (0 : Int) ≤ (nCross fm q E : Int) := Int.natCast_nonneg _
      have C := rcrossed_any fm q _ E wc hE4 HX.out
      have hmod : ((nCross fm q E : Int).tmod 2 == 1) = decide (nCross fm q E % 2 = 1) := by
        rw [Int.tmod_eq_emod_of_nonneg hn0, Bool.eq_iff_iff]; simp; omega
      generalize nCross fm q E = nc at *
      go_wp2_with fail
      refine C.mono ?_
      rintro e' w5 ⟨rfl, k5⟩
      have B5 := bvia B4 k5
      clear k5 C co fo zo cq4 fq4 zq4 B4 k4
      by_cases hm : nc % 2 = 1
      · have hmod : ((nc : Int).tmod 2 == 1) = true := hmod.trans (decide_eq_true hm)
        have HF : Hid (res = 1) := HE.out.trans (if_pos hm)
        clear HE
        go_wp2
        go_ret
        exact ⟨ret_int HF.out.symm, B5⟩
      · have hmod : ((nc : Int).tmod 2 == 1) = false := hmod.trans (decide_eq_false hm)
        have HF : Hid (res = 0) := HE.out.trans (if_neg hm)
        clear HE
        go_wp2
        go_ret
        exact ⟨ret_int HF.out.symm, B5⟩
end Go.Proofs.YtnkcbephceollaaGreat
namespace Go.Proofs.YtnkcbephceollaaGreat
open Go.RowKit
set_option linter.unusedSimpArgs false
set_option linter.unusedVariables false

/-- What the document answers. -/
def rLocM (P : List (List Pt)) (q : Pt) : Int × Int :=
  if moreM 2000 P = true then (0, 2)
  else if (P.flatten ++ [q]).all goodB = false then (0, 3)
  else (rlocM P q, 0)

set_option maxRecDepth 100000 in
set_option maxHeartbeats 4000000 in
theorem rLocate_any (v : Value) (P : List (List Pt)) (q : Pt) (w : World) (hP : PolyAt w v P) (hS : ∀ i, i < P.length → (P.getD i []).length ≤ 1048576) :
    Calls Tryz.prog 27 #[v, q.v] w fun e w' => e = .returned (.tuple #[.int .i64 (rLocM P q).1, .int .i64 (rLocM P q).2]) ∧ Below w.heap.size w w' := by
  obtain ⟨i0, hi0, hz0, hz1, hz2⟩ := info_parts infoPoint
  have hP0 := hP
  obtain ⟨a, cap, rfl, h1, h2, h3⟩ := hP
  unfold maxLen at h2
  have hP1 : PolyAt (w.alloc (.cells #[.int .i64 q.x, .int .i64 q.y, .int .i64 q.d] 31)) (.slice a P.length cap) P := hP0.later ((Below.refl _ _).alloc (Nat.le_refl _) _)
  have HS := hide hS
  have H3 := hide h3
  have HR := hide (show rLocM P q = if moreM 2000 P = true then (0, 2) else if (P.flatten ++ [q]).all goodB = false then (0, 3) else (rlocM P q, 0) from rfl)
  clear hS h3
  generalize rLocM P q = res at *
  have Q0 := Blk.new w #[.int .i64 q.x, .int .i64 q.y, .int .i64 q.d] 31
  have B0 : Below w.heap.size w (w.alloc (.cells #[.int .i64 q.x, .int .i64 q.y, .int .i64 q.d] 31)) := (Below.refl _ _).alloc (Nat.le_refl _) _
  go_enter Tryz.func27, Tryz.ntmps27
  go_wp2_with fail
  generalize w.alloc (.cells #[.int .i64 q.x, .int .i64 q.y, .int .i64 q.d] 31) = W0 at *
  go_loop [6, 7] (fun nv iv => ∃ (i : Nat) (n : Int), iv = .int .i64 i ∧ nv = .int .i64 n ∧ i ≤ P.length ∧ 0 ≤ n ∧ n ≤ 2000 ∧ Hid (moreM 2000 P = moreM (2000 - n) (P.drop i))) (fun _ iv => P.length - (intOf iv).toNat)
  case atStart => exact ⟨0, 0, rfl, rfl, Nat.zero_le _, by decide, by decide, rfl⟩
  case round =>
    obtain ⟨i, n, rfl, rfl, hi, hn0, hn1, HB⟩ := hrel
    by_cases hlt : i < P.length
    · obtain ⟨b, off, rv, rfl, hb, hc, ⟨a', cap', rfl, g1, g2, _⟩⟩ := H3.out i hlt
      have hsz := HS.out i hlt
      have HC := hide (moreM_cons (2000 - n) P i hlt)
      have hc' := (B0.cell (p := ⟨b, off + i, none⟩) hb).trans hc
      generalize P.getD i [] = r at *
      have hi0' : (0 : Int) ≤ (i : Int) := Int.natCast_nonneg _
      have hi1' : (i : Int) < (P.length : Int) := by omega
      unfold maxLen at g2
      by_cases ht : 2000 - n < (r.length : Int)
      · have HE : Hid (res = (0, 2)) := HR.out.trans (if_pos (HB.out.trans (HC.out.trans (if_pos ht))))
        clear HB HC HR
        go_wp2
        go_ret2
        exact ⟨by rw [HE.out]; rfl, B0⟩
      · have HE : Hid (moreM 2000 P = moreM (2000 - (n + r.length)) (P.drop (i + 1))) := HB.out.trans (HC.out.trans ((if_neg ht).trans (by congr 1; omega)))
        clear HB HC
        go_wp2
        go_round
        case rel => exact ⟨i + 1, n + r.length, by go_num, rfl, by omega, by omega, by omega, HE⟩
        case measure => simp [intOf]; omega
    · have hmo : moreM 2000 P = false := by rw [HB.out, List.drop_of_length_le (by omega)]; rfl
      have hT : P.flatten.length ≤ 2000 := by have := moreM_none P 2000 hmo (by decide); rw [edgesM_len] at this; omega
      have HR2 := hide (HR.out.trans (if_neg (by rw [hmo]; decide)))
      have hi1' : ¬ (i : Int) < (P.length : Int) := by omega
      clear HR HB hmo
      have HL := fun wz (hq : goodB q = true) (hG : ∀ p ∈ P.flatten, goodB p = true) (hPz : PolyAt wz (.slice a P.length cap) P) => rlocate_any (.slice a P.length cap) P q wz hPz (by omega) hq hG
      have C1 := points_own _ P _ hP1 (by omega)
      generalize P.flatten = F at *
      go_wp2_with fail
      refine C1.mono ?_
      rintro e w1 ⟨pv, rfl, hown, k1⟩
      have Q1 := Q0.call k1
      obtain ⟨cq, fq, zq⟩ := id Q1
      have hn1 : F.length + 1 ≤ maxLen := by unfold maxLen; omega
      have hn2 : (F.length + 1) * 24 ≤ 140737488355328 := by omega
      have hb1 := k1.size
      have hnews := World.news_of_block (w := w1.alloc (.cells #[.int .i64 q.x, .int .i64 q.y, .int .i64 q.d] 31)) (cs := #[.int .i64 q.x, .int .i64 q.y, .int .i64 q.d]) (t := 31) (fr := (0, 0)) (heap_alloc_new w1 _)
      go_wp2_with (at_builtin; refine wpList_append_lies _ rfl _ _ _ rfl W0.heap.size 31 i0 _ 3 24 Tryz.underlying57 hi0 hz0 hz1 hz2 rfl (by omega) pv F.length (ptCells F) rfl (hown.alloc _) ⟨w1.heap.size, 0, none⟩ 1 1 (ptCell q) rfl rfl hnews (by simp [ptCell, Value.oneCell']) (by omega) hn1 hn2 (by simp; omega) _ rfl ?_; intro gg cp w2 hown2 hgrow hat hlt2)
      have hLR : RingAt w2 (.slice (some ⟨gg, 0, none⟩) (F.length + 1) cp) (F ++ [q]) := by
        have h := ring_of_own (w := w2) (base := W0.heap.size) (v := .slice (some ⟨gg, 0, none⟩) (F.length + 1) cp) (r := F ++ [q]) (by
          rw [ptCells_append]
          have e1 : (F ++ [q]).length = F.length + 1 := by simp
          have e2 : ptCells [q] = ptCell q := by simp [ptCells]
          rw [e1, e2]; exact hown2) (by simp; exact hn1)
        exact h
      have B2 : Below W0.heap.size W0 w2 := Below.grown (k1.alloc k1.size _) hgrow (by simp; omega) (fun k hk => (hown.lt k hk).1)
      have Q2 := Q0.call B2
      have B2' := bvia B0 B2
      have hP2 := hP0.later B2'
      obtain ⟨a2, cap2, e2, r1, r2, r3⟩ := hLR
      have el : (F ++ [q]).length = F.length + 1 := by simp
      rw [el] at e2 r1 r3
      obtain ⟨rfl, rfl⟩ : a2 = some ⟨gg, 0, none⟩ ∧ cap2 = cp := by simp at e2; exact ⟨e2.1.symm, e2.2.symm⟩
      unfold maxLen at r2
      have R3 := hide r3
      have HL := hide HL
      clear hown hown2 hgrow hat hnews C1 cq fq zq Q1 r3 e2 B2 k1 hP1 el hlt2
      generalize hLL : F ++ [q] = L at *
      go_loopw [9, 10] (fun iv _ w' => ∃ j : Nat, iv = .int .i64 j ∧ j ≤ F.length + 1 ∧ Blk w' w.heap.size #[.int .i64 q.x, .int .i64 q.y, .int .i64 q.d] ∧ Below w.heap.size w w' ∧ Below w2.heap.size w2 w' ∧ Hid (L.all goodB = (L.drop j).all goodB)) (fun iv _ _ => F.length + 1 - (intOf iv).toNat)
      case atStart => exact ⟨0, rfl, Nat.zero_le _, Q2, B2', Below.refl _ _, rfl⟩
      case round =>
        obtain ⟨j, rfl, hj, ⟨cq, fq, zq⟩, hbel, hb2, HB⟩ := hrel
        have hLlen : L.length = F.length + 1 := by rw [← hLL]; simp
        by_cases hjt : j < F.length + 1
        · obtain ⟨b, off, e3, hb, hp⟩ := R3.out j hjt
          simp at e3
          obtain ⟨rfl, rfl⟩ := e3
          obtain ⟨px, py, pd⟩ := hp.later hb2 hb
          have HC := hide (all_drop goodB L j (by omega) zP)
          generalize L.getD j zP = p at *
          have hj0 : (0 : Int) ≤ (j : Int) := Int.natCast_nonneg _
          have hj1 : (j : Int) < (F.length : Int) + 1 := by omega
          simp only [Nat.zero_add] at px py pd
          clear hp
          go_wp2_with fail
          refine (rgood_any p _).mono ?_
          rintro e' w3 ⟨rfl, k3⟩
          have Q3 := (Blk.mk cq fq zq).call k3
          have B3 := bvia hbel k3
          have B3' := bvia hb2 k3
          clear k3 cq fq zq hbel hb2 px py pd
          cases hg : goodB p
          · have HE : Hid (res = (0, 3)) := HR2.out.trans (if_pos (HB.out.trans (HC.out.trans (by rw [hg]; rfl))))
            clear HB HC
            go_wp2
            go_ret2
            exact ⟨by rw [HE.out]; rfl, B3⟩
          · have HE : Hid (L.all goodB = (L.drop (j + 1)).all goodB) := HB.out.trans (HC.out.trans (by rw [hg]; rfl))
            clear HB HC
            go_wp2
            go_roundw
            case rel => exact ⟨j + 1, by go_num, by omega, Q3, B3, B3', HE⟩
            case measure => simp [intOf]; omega
        · have hall : L.all goodB = true := by rw [HB.out, List.drop_of_length_le (by omega)]; rfl
          have HE : Hid (res = (rlocM P q, 0)) := HR2.out.trans (if_neg (by rw [hall]; decide))
          have hall2 : ∀ p ∈ F ++ [q], goodB p = true := by rw [hLL]; exact List.all_eq_true.1 hall
          have C := HL.out wr (hall2 q (by simp)) (fun p hp => hall2 p (by simp [hp])) (hP0.later hbel)
          have hj1 : ¬ (j : Int) < (F.length : Int) + 1 := by omega
          clear HB hall hall2 HR2
          go_wp2_with fail
          refine C.mono ?_
          rintro e' w3 ⟨rfl, k3⟩
          have B3 := bvia hbel k3
          clear k3
          go_wp2
          go_ret2
          exact ⟨by rw [HE.out]; rfl, B3⟩
end Go.Proofs.YtnkcbephceollaaGreat
