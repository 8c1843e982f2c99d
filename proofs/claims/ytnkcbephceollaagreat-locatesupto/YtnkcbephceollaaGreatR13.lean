import Derived.Test.YtnkcbephceollaaGreatR12
namespace Go.Proofs.YtnkcbephceollaaGreat
open Go.RowKit
set_option linter.unusedSimpArgs false
set_option linter.unusedVariables false


set_option maxRecDepth 100000 in
set_option maxHeartbeats 4000000 in
theorem rcrossed_any (o q : Pt) (v : Value) (E : List (Pt × Pt)) (w : World) (hE : SegsAt w v E)
    (hD : ∀ e ∈ E, DetOk o q e.1 ∧ DetOk o q e.2 ∧ DetOk e.1 e.2 o ∧ DetOk e.1 e.2 q) :
    Calls Tryz.prog 87 #[o.v, q.v, v] w fun e w' => e = .returned (.int .i64 (nCross o q E)) ∧ Below w.heap.size w w' := by
  obtain ⟨a, cap, rfl, h1, h2, h3⟩ := hE
  unfold maxLen at h2
  have H3 := hide h3
  have HD := hide hD
  clear h3 hD
  go_enter Tryz.func87, Tryz.ntmps87
  go_wp2_with fail
  go_loopw [7, 8, 9, 10, 11, 12, 13, 14, 15] (fun cv iv _ _ _ _ _ _ _ w' => ∃ i : Nat, iv = .int .i64 i ∧ i ≤ E.length ∧ cv = .int .i64 (nCross o q (E.take i)) ∧ Blk w' w.heap.size #[.int .i64 o.x, .int .i64 o.y, .int .i64 o.d] ∧ Blk w' (w.heap.size + 1) #[.int .i64 q.x, .int .i64 q.y, .int .i64 q.d] ∧ Below w.heap.size w w') (fun _ iv _ _ _ _ _ _ _ _ => E.length - (intOf iv).toNat)
  case atStart => exact ⟨0, rfl, Nat.zero_le _, rfl, (Blk.new w _ _).alloc _, Blk.at (w.heap.size + 1) (by simp), below2 _ _ _⟩
  case round =>
    obtain ⟨i, rfl, hi, rfl, ⟨co, fo, zo⟩, ⟨cq, fq, zq⟩, hbel⟩ := hrel
    by_cases hlt : i < E.length
    · obtain ⟨b, off, rfl, hb, hs⟩ := H3.out i hlt
      obtain ⟨c0, c1, c2, c3, c4, c5⟩ := hs.later hbel hb
      have hm : E.getD i (zP, zP) ∈ E := getD_mem hlt _
      obtain ⟨D1, D2, D3, D4⟩ := HD.out _ hm
      have HN := hide (nCross_take o q E i hlt)
      have hle : nCross o q (E.take i) ≤ i := Nat.le_trans (nCross_le ..) (by simp; omega)
      have HX := hide (show crossB o q (E.getD i (zP, zP)).1 (E.getD i (zP, zP)).2 = _ from rfl)
      generalize E.getD i (zP, zP) = e at *
      have hc0 : (0 : Int) ≤ (nCross o q (E.take i) : Int) := Int.natCast_nonneg _
      have hcl : (nCross o q (E.take i) : Int) ≤ 9223372036854775806 := by omega
      generalize nCross o q (E.take i) = nc at *
      have HX : Hid (crossB o q e.1 e.2 = (apartB (detM o q e.1) (detM o q e.2) && apartB (detM e.1 e.2 o) (detM e.1 e.2 q))) := hide rfl
      clear hs hm
      go_wp2_with fail
      refine (D1 _).mono ?_
      rintro e' w1 ⟨rfl, k1⟩
      have B1 := bvia (hbel.alloc hbel.size _) k1
      obtain ⟨co1, fo1, zo1⟩ := ((Blk.mk co fo zo).alloc _).call k1
      obtain ⟨cq1, fq1, zq1⟩ := ((Blk.mk cq fq zq).alloc _).call k1
      obtain ⟨ce1, fe1, ze1⟩ := (Blk.new wr _ _).call k1
      clear k1 c0 c1 c2 c3 c4 c5 co fo zo cq fq zq hbel
      go_wp2_with fail
      refine (D2 _).mono ?_
      rintro e' w2 ⟨rfl, k1⟩
      have B2 := bvia B1 k1
      obtain ⟨co2, fo2, zo2⟩ := (Blk.mk co1 fo1 zo1).call k1
      obtain ⟨cq2, fq2, zq2⟩ := (Blk.mk cq1 fq1 zq1).call k1
      obtain ⟨ce2, fe2, ze2⟩ := (Blk.mk ce1 fe1 ze1).call k1
      clear k1 co1 fo1 zo1 cq1 fq1 zq1 ce1 fe1 ze1 B1
      go_wp2_with fail
      refine (D3 _).mono ?_
      rintro e' w3 ⟨rfl, k1⟩
      have B3 := bvia B2 k1
      obtain ⟨co3, fo3, zo3⟩ := (Blk.mk co2 fo2 zo2).call k1
      obtain ⟨cq3, fq3, zq3⟩ := (Blk.mk cq2 fq2 zq2).call k1
      obtain ⟨ce3, fe3, ze3⟩ := (Blk.mk ce2 fe2 ze2).call k1
      clear k1 co2 fo2 zo2 cq2 fq2 zq2 ce2 fe2 ze2 B2
      go_wp2_with fail
      refine (D4 _).mono ?_
      rintro e' w4 ⟨rfl, k1⟩
      have B4 := bvia B3 k1
      have Lo := (Blk.mk co3 fo3 zo3).call k1
      have Lq := (Blk.mk cq3 fq3 zq3).call k1
      clear k1 co3 fo3 zo3 cq3 fq3 zq3 ce3 fe3 ze3 B3
      clear D1 D2 D3 D4
      generalize detM o q e.1 = m1 at *
      generalize detM o q e.2 = m2 at *
      generalize detM e.1 e.2 o = m3 at *
      generalize detM e.1 e.2 q = m4 at *
      go_wp2_with fail
      refine (rapart_any m1 m2 _).mono ?_
      rintro e' w5 ⟨rfl, hw⟩
      obtain rfl := hw.symm
      go_wp2_with fail
      refine (rapart_any m3 m4 _).mono ?_
      rintro e' w6 ⟨rfl, hw⟩
      obtain rfl := hw.symm
      generalize apartB m1 m2 = x1 at *
      generalize apartB m3 m4 = x2 at *
      cases x1
      · have HE : Hid (nCross o q (E.take (i + 1)) = nc) := HN.out.trans (by rw [HX.out]; rfl)
        go_wp2
        go_roundw
        case rel => exact ⟨i + 1, by go_num, by omega, by rw [HE.out], Lo, Lq, B4⟩
        case measure => simp [intOf]; omega
      · cases x2
        · have HE : Hid (nCross o q (E.take (i + 1)) = nc) := HN.out.trans (by rw [HX.out]; rfl)
          go_wp2
          go_roundw
          case rel => exact ⟨i + 1, by go_num, by omega, by rw [HE.out], Lo, Lq, B4⟩
          case measure => simp [intOf]; omega
        · have HE : Hid (nCross o q (E.take (i + 1)) = nc + 1) := HN.out.trans (by rw [HX.out]; rfl)
          go_wp2
          go_roundw
          case rel => exact ⟨i + 1, by go_num, by omega, by rw [HE.out]; go_num, Lo, Lq, B4⟩
          case measure => simp [intOf]; omega
    · have HE : Hid (E.take i = E) := List.take_of_length_le (by omega)
      go_wp2
      go_ret
      exact ⟨ret_int (by rw [HE.out]), hbel⟩
end Go.Proofs.YtnkcbephceollaaGreat
