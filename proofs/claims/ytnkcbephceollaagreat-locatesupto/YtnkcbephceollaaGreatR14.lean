import Derived.Test.YtnkcbephceollaaGreatR13
namespace Go.Proofs.YtnkcbephceollaaGreat
open Go.RowKit
set_option linter.unusedSimpArgs false
set_option linter.unusedVariables false

theorem detOk_w {a b c : Pt} (ha : Gw a) (hb : Gw b) (hc : Gw c) : DetOk a b c := fun w => rdet_w a b c w ha hb hc

set_option maxRecDepth 100000 in
set_option maxHeartbeats 4000000 in
theorem rlocate_any (v : Value) (P : List (List Pt)) (q : Pt) (w : World) (hP : PolyAt w v P) (hT : P.flatten.length ≤ 100000) (hq : goodB q = true) (hG : ∀ p ∈ P.flatten, goodB p = true) :
    Calls Tryz.prog 50 #[v, q.v] w fun e w' => e = .returned (.int .i64 (rlocM P q)) ∧ Below w.heap.size w w' := by
  have hT' : (edgesM P).length ≤ 100000 := by rw [edgesM_len]; exact hT
  have gq := (gd_of_good hq).1
  have gqw := gq.gw
  have grw := gw_right hq
  have h4 : ∀ k, k ≤ P.flatten.length + 1 → ∀ p ∈ P.flatten, DetOk (outP k) q p := fun k hk p hp => detOk_w (outP_gw k (by omega)) gqw (gd_of_good (hG p hp)).1.gw
  have h5 : ∀ k, k ≤ P.flatten.length + 1 → DetOk q (rightP q) (outP k) := fun k hk => detOk_w gqw grw (outP_gw k (by omega))
  have HX : Hid (∀ e ∈ edgesM P, DetOk (farM q P.flatten q (rightP q)) q e.1 ∧ DetOk (farM q P.flatten q (rightP q)) q e.2 ∧ DetOk e.1 e.2 (farM q P.flatten q (rightP q)) ∧ DetOk e.1 e.2 q) := by
    refine hide (fun e he => ?_)
    obtain ⟨j, hj, ej⟩ := farL_out (freeB q P.flatten q (rightP q)) (P.flatten.length + 2) 0
    have hf : Gw (farM q P.flatten q (rightP q)) := by unfold farM; rw [ej]; exact outP_gw j (by omega)
    obtain ⟨m1, m2⟩ := edges_mem he
    have g1 := (gd_of_good (hG _ m1)).1.gw
    have g2 := (gd_of_good (hG _ m2)).1.gw
    exact ⟨detOk_w hf gqw g1, detOk_w hf gqw g2, detOk_w g1 g2 hf, detOk_w g1 g2 gqw⟩
  have HFar := hide (fun (pv : Value) (wz : World) (hr : RingAt wz pv P.flatten) => rfar_any q pv P.flatten q (rightP q) wz hr (by omega) h4 h5)
  have hGe : ∀ e ∈ edgesM P, Gd e.1 ∧ Gd e.2 := fun e he => ⟨(gd_of_good (hG _ (edges_mem he).1)).1, (gd_of_good (hG _ (edges_mem he).2)).1⟩
  have HGe := hide hGe
  have HR := hide (show rlocM P q = if (edgesM P).any (fun e => onB q e.1 e.2) = true then 2 else if nCross (farM q P.flatten q (rightP q)) q (edgesM P) % 2 = 1 then 1 else 0 from rfl)
  obtain ⟨lx, ux⟩ := gq.x
  obtain ⟨ld, ud⟩ := gq.d
  clear h4 h5 hGe hG grw gqw
  generalize rlocM P q = res at *
  go_enter Tryz.func50, Tryz.ntmps50
  go_wp2_with fail
  refine (rEdges_any v P _ (hP.later ((Below.refl _ _).alloc (Nat.le_refl _) _)) hT').mono ?_
  rintro e w1 ⟨ev, rfl, hE, k1⟩
  have B1 := bvia ((Below.refl _ _).alloc (Nat.le_refl _) _) k1
  have Q1 := (Blk.new w #[.int .i64 q.x, .int .i64 q.y, .int .i64 q.d] 31).call k1
  clear k1
  obtain ⟨ea, ecap, rfl, e1, e2, e3⟩ := id hE
  unfold maxLen at e2
  generalize hEe : edgesM P = E at *
  go_upto_block 0 with fail
  go_cut [6, 7] (fun _ _ w' => E.any (fun e => onB q e.1 e.2) = false ∧ Blk w' w.heap.size #[.int .i64 q.x, .int .i64 q.y, .int .i64 q.d] ∧ Below w.heap.size w w' ∧ Below w1.heap.size w1 w')
  case first =>
    go_wp2_with fail
    go_loopw [6, 7] (fun iv _ w' => ∃ i : Nat, iv = .int .i64 i ∧ i ≤ E.length ∧ Blk w' w.heap.size #[.int .i64 q.x, .int .i64 q.y, .int .i64 q.d] ∧ Below w.heap.size w w' ∧ Below w1.heap.size w1 w' ∧ Hid (E.any (fun e => onB q e.1 e.2) = (E.drop i).any (fun e => onB q e.1 e.2))) (fun iv _ _ => E.length - (intOf iv).toNat)
    case atStart => exact ⟨0, rfl, Nat.zero_le _, Q1, B1, Below.refl _ _, rfl⟩
    case round =>
      obtain ⟨i, rfl, hi, ⟨cq, fq, zq⟩, hbel, hb1, HB⟩ := hrel
      by_cases hlt : i < E.length
      · obtain ⟨b, off, rfl, hb, hs⟩ := e3 i hlt
        obtain ⟨c0, c1, c2, c3, c4, c5⟩ := hs.later hb1 hb
        have HC := hide (any_drop (fun e : Pt × Pt => onB q e.1 e.2) E i hlt (zP, zP))
        obtain ⟨ge1, ge2⟩ := HGe.out _ (getD_mem hlt (zP, zP))
        generalize E.getD i (zP, zP) = e at *
        have hi0 : (0 : Int) ≤ (i : Int) := Int.natCast_nonneg _
        have hi1 : (i : Int) < (E.length : Int) := by omega
        have C := fun wz => ron_any q e.1 e.2 wz gq ge1 ge2
        clear e3 hs
        go_upto_region 5 with fail
        go_cut [7] (fun bv w' => bv = .bool (onB q e.1 e.2) ∧ Blk w' w.heap.size #[.int .i64 q.x, .int .i64 q.y, .int .i64 q.d] ∧ Below w.heap.size w w' ∧ Below w1.heap.size w1 w')
        case first =>
          go_region_with (go_at_call 85; refine (C _).mono ?_; rintro e' w2 ⟨rfl, k2⟩)
          all_goals
            go_wp2_with fail
            go_meet
            case rel => exact ⟨rfl, (Blk.mk cq fq zq).drew.call k2, bvia hbel.drew k2, bvia hb1.drew k2⟩
        case rest =>
          clear cq fq zq hbel hb1 c0 c1 c2 c3 c4 c5 C
          obtain ⟨rfl, L1, L2, L3⟩ := hcut
          cases ho : onB q e.1 e.2
          · have HE : Hid (E.any (fun e => onB q e.1 e.2) = (E.drop (i + 1)).any (fun e => onB q e.1 e.2)) := HB.out.trans (HC.out.trans (by simp [ho]))
            clear HB HC
            go_wp2
            go_roundw
            case rel => exact ⟨i + 1, by go_num, by omega, L1, L2, L3, HE⟩
            case measure => simp [intOf]; omega
          · have HE : Hid (res = 2) := HR.out.trans (if_pos (HB.out.trans (HC.out.trans (by simp [ho]))))
            clear HB HC
            go_wp2
            go_ret
            exact ⟨ret_int HE.out.symm, L2⟩
      · have HE : Hid (E.any (fun e => onB q e.1 e.2) = false) := by rw [HB.out, List.drop_of_length_le (by omega)]; exact hide rfl
        have hi1 : ¬ (i : Int) < (E.length : Int) := by omega
        go_wp2
        go_meet
        case rel => exact ⟨HE.out, Blk.mk cq fq zq, hbel, hb1⟩
  case rest =>
    obtain ⟨hno, Q2, B2, k2⟩ := hcut
    have HE : Hid (res = if nCross (farM q P.flatten q (rightP q)) q E % 2 = 1 then 1 else 0) := HR.out.trans (if_neg (by rw [hno]; decide))
    have hE2 := hE.later k2
    have hP2 := hP.later B2
    clear HR hno Q1 B1 hE k2 hP
    generalize farM q P.flatten q (rightP q) = fm at *
    obtain ⟨cq, fq, zq⟩ := Q2
    go_upto_region 9 with fail
    have SX := Blk.new wc #[.int .i64 q.x, .int .i64 q.y, .int .i64 q.d, .int .i64 (q.x + q.d), .int .i64 q.y, .int .i64 q.d] 73
    have QX := (Blk.mk cq fq zq).alloc (.cells #[.int .i64 q.x, .int .i64 q.y, .int .i64 q.d, .int .i64 (q.x + q.d), .int .i64 q.y, .int .i64 q.d] 73)
    have BX := B2.alloc B2.size (.cells #[.int .i64 q.x, .int .i64 q.y, .int .i64 q.d, .int .i64 (q.x + q.d), .int .i64 q.y, .int .i64 q.d] 73)
    have kX : Below wc.heap.size wc (wc.alloc (.cells #[.int .i64 q.x, .int .i64 q.y, .int .i64 q.d, .int .i64 (q.x + q.d), .int .i64 q.y, .int .i64 q.d] 73)) := (Below.refl _ _).alloc (Nat.le_refl _) _
    have EX := hE2.later kX
    have PX := hP2.later kX
    have hsz := B2.size
    generalize wc.alloc (.cells #[.int .i64 q.x, .int .i64 q.y, .int .i64 q.d, .int .i64 (q.x + q.d), .int .i64 q.y, .int .i64 q.d] 73) = wX at *
    generalize wc.heap.size = sb at *
    clear kX hE2 hP2 cq fq zq B2
    obtain ⟨cs, fs, zs⟩ := SX
    obtain ⟨cq, fq, zq⟩ := QX
    have hqs : w.heap.size < wX.heap.size := zq
    go_cut [9] (fun po w' => ∃ ob, po = .pointer (some ⟨ob, 0, none⟩) ∧ Blk w' ob #[.int .i64 fm.x, .int .i64 fm.y, .int .i64 fm.d] ∧ Blk w' w.heap.size #[.int .i64 q.x, .int .i64 q.y, .int .i64 q.d] ∧ Below w.heap.size w w' ∧ Below wX.heap.size wX w')
    case first =>
      go_region_with (first
        | (go_at_call 44; refine (points_any v P _ (by first | exact PX.later (Below.refl _ _).drew | exact PX.later (((Below.refl _ _).alloc (Nat.le_refl _) _).drew)) hT).mono ?_; rintro e' w3 ⟨pv, rfl, hr3, k3⟩; have BQ : Blk w3 w.heap.size #[.int .i64 q.x, .int .i64 q.y, .int .i64 q.d] := (by first | exact (Blk.mk cq fq zq).drew.call k3 | exact ((Blk.mk cq fq zq).alloc _).drew.call k3); have BS : Blk w3 sb #[.int .i64 q.x, .int .i64 q.y, .int .i64 q.d, .int .i64 (q.x + q.d), .int .i64 q.y, .int .i64 q.d] := (by first | exact (Blk.mk cs fs zs).drew.call k3 | exact ((Blk.mk cs fs zs).alloc _).drew.call k3); have BB : Below w.heap.size w w3 := (by first | exact bvia BX.drew k3 | exact bvia (BX.alloc BX.size _).drew k3); have BK : Below wX.heap.size wX w3 := (by first | exact bvia (Below.refl _ _).drew k3 | exact bvia ((Below.refl _ _).alloc (Nat.le_refl _) _).drew k3); obtain ⟨cq3, fq3, zq3⟩ := id BQ; obtain ⟨cs3, fs3, zs3⟩ := BS; try (have BO : Blk w3 wX.heap.size #[.int .i64 0, .int .i64 0, .int .i64 0] := (by exact (Blk.new wX _ _).drew.call k3); obtain ⟨co3, fo3, zo3⟩ := BO))
        | (go_at_call 86; refine (HFar.out pv _ (by first | exact hr3 | exact hr3.later ((Below.refl _ _).alloc (Nat.le_refl _) _))).mono ?_; rintro e' w4 ⟨rfl, k4⟩; first | (have BO : Blk w4 wX.heap.size #[.int .i64 0, .int .i64 0, .int .i64 0] := (by exact (Blk.mk co3 fo3 zo3).call k4); obtain ⟨co4, fo4, zo4⟩ := BO) | (have BO : Blk w4 w3.heap.size #[.int .i64 0, .int .i64 0, .int .i64 0] := (by exact (Blk.new w3 _ _).call k4); obtain ⟨co4, fo4, zo4⟩ := BO) | skip))
      all_goals
        go_wp2_with fail
        go_meet
        first
          | (have k4' : Below w3.heap.size w3 w4 := k4; exact ⟨w4.heap.size, rfl, Blk.new w4 _ _, (BQ.call k4').alloc _, (bvia BB k4').alloc (bvia BB k4').size _, (bvia BK k4').alloc (bvia BK k4').size _⟩)
          | (have k4' : Below w3.heap.size w3 w4 := k4; exact ⟨wX.heap.size, rfl, (Blk.mk co4 fo4 zo4).put3, (BQ.call k4').off3 (by omega) _ _ _, below_set3 (o := 0) (bvia BB k4') (by omega), below_set3 (o := 0) (bvia BK k4') (by omega)⟩)
          | (have hz3 := BK.size; exact ⟨w3.heap.size, rfl, (Blk.mk co4 fo4 zo4).put3, ((BQ.alloc _).call k4).off3 (by omega) _ _ _, below_set3 (o := 0) (bvia (BB.alloc BB.size _) k4) (by omega), below_set3 (o := 0) (bvia (BK.alloc BK.size _) k4) (by omega)⟩)
    case rest =>
      obtain ⟨ob, rfl, ⟨co, fo, zo⟩, ⟨cq4, fq4, zq4⟩, B4, k4⟩ := hcut
      have hE4 := EX.later k4
      have hnl := nCross_le fm q E
      have hnl2 : (nCross fm q E : Int) ≤ 100000 := by omega
      have hn0 : (0 : Int) ≤ (nCross fm q E : Int) := Int.natCast_nonneg _
      have C := rcrossed_any fm q _ E wc hE4 HX.out
      have hmod : ((nCross fm q E : Int).tmod 2 == 1) = decide (nCross fm q E % 2 = 1) := by
        rw [Int.tmod_eq_emod_of_nonneg hn0, Bool.eq_iff_iff]; simp; omega
      generalize nCross fm q E = nc at *
      go_wp2_with fail
      refine C.mono ?_
      rintro e' w5 ⟨rfl, k5⟩
      have B5 := bvia B4 k5
      clear k5 C co fo zo cq4 fq4 zq4 B4 k4
      by_cases hm : nc % 2 = 1
      · have hmod : ((nc : Int).tmod 2 == 1) = true := hmod.trans (decide_eq_true hm)
        have HF : Hid (res = 1) := HE.out.trans (if_pos hm)
        clear HE
        go_wp2
        go_ret
        exact ⟨ret_int HF.out.symm, B5⟩
      · have hmod : ((nc : Int).tmod 2 == 1) = false := hmod.trans (decide_eq_false hm)
        have HF : Hid (res = 0) := HE.out.trans (if_neg hm)
        clear HE
        go_wp2
        go_ret
        exact ⟨ret_int HF.out.symm, B5⟩
end Go.Proofs.YtnkcbephceollaaGreat
