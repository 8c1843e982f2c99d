import Derived.Test.YtnkcbephceollabW5
import Derived.Test.YtnkcbephceollabQ8
namespace Go.Proofs.Ytnkcbephceollab
open Go.RowKit
set_option linter.unusedSimpArgs false
set_option linter.unusedVariables false


set_option maxHeartbeats 1000000 in
theorem segMeet_any (a b c d : Pt) (w : World) (ha : Gr a) (hb : Gr b) (hc : Gr c) (hd : Gr d) :
    Calls Try.prog 48 #[sg a b, sg c d] w fun e w' => e = .returned (meetM a b c d).v ∧ Below w.heap.size w w' := by
  by_cases h : crossM (b.x - a.x) (b.y - a.y) (d.x - c.x) (d.y - c.y) = 0
  · have H : Hid (meetM a b c d = parM a b c d) := if_pos h
    have h' : (crossM (b.x - a.x) (b.y - a.y) (d.x - c.x) (d.y - c.y) == 0) = true := by simpa using h
    clear h
    go_enter Try.func48, Try.ntmps48
    go_wp2_with fail
    refine (wayFrom_any a b _ ha.gd hb.gd).mono ?_
    rintro e w1 ⟨rfl, k⟩
    have B1 := bvia (below3 _ _ _ _) k
    obtain ⟨cs1, fs1, zs1⟩ := (((Blk.new w _ _).alloc _).alloc _).call k
    obtain ⟨ct1, ft1, zt1⟩ := ((Blk.at (w.heap.size + 1) (by simp)).alloc _).call k
    obtain ⟨cr1, fr1, zr1⟩ := (Blk.at (w.heap.size + 1 + 1) (by simp)).call k
    clear k
    go_wp2_with fail
    refine (wayFrom_any c d _ hc.gd hd.gd).mono ?_
    rintro e w2 ⟨rfl, k⟩
    have B2 := bvia (B1.alloc B1.size _) k
    obtain ⟨cs2, fs2, zs2⟩ := ((Blk.mk cs1 fs1 zs1).alloc _).call k
    obtain ⟨ct2, ft2, zt2⟩ := ((Blk.mk ct1 ft1 zt1).alloc _).call k
    obtain ⟨cr2, fr2, zr2⟩ := ((Blk.mk cr1 fr1 zr1).alloc _).call k
    obtain ⟨cp2, fp2, zp2⟩ := (Blk.new w1 _ _).call k
    clear k cs1 fs1 ct1 ft1 cr1 fr1 B1
    go_wp2_with fail
    refine (cross_any _ _ _ _ _ (gr_way ha.x hb.x) (gr_way ha.y hb.y) (gr_way hc.x hd.x) (gr_way hc.y hd.y)).mono ?_
    rintro e w3 ⟨rfl, k⟩
    have B3 := bvia (B2.alloc B2.size _) k
    obtain ⟨cs3, fs3, zs3⟩ := ((Blk.mk cs2 fs2 zs2).alloc _).call k
    obtain ⟨ct3, ft3, zt3⟩ := ((Blk.mk ct2 ft2 zt2).alloc _).call k
    obtain ⟨cr3, fr3, zr3⟩ := ((Blk.mk cr2 fr2 zr2).alloc _).call k
    obtain ⟨cp3, fp3, zp3⟩ := ((Blk.mk cp2 fp2 zp2).alloc _).call k
    obtain ⟨cq3, fq3, zq3⟩ := (Blk.new w2 _ _).call k
    clear k cs2 fs2 ct2 ft2 cr2 fr2 cp2 fp2 B2
    go_wp2_with fail
    refine (meetParallel_any a b c d _ ha hb hc hd).mono ?_
    rintro e w4 ⟨rfl, k⟩
    have B4 := bvia B3 k
    obtain ⟨cs4, fs4, zs4⟩ := (Blk.mk cs3 fs3 zs3).call k
    obtain ⟨ct4, ft4, zt4⟩ := (Blk.mk ct3 ft3 zt3).call k
    obtain ⟨cr4, fr4, zr4⟩ := (Blk.mk cr3 fr3 zr3).call k
    obtain ⟨cp4, fp4, zp4⟩ := (Blk.mk cp3 fp3 zp3).call k
    obtain ⟨cq4, fq4, zq4⟩ := (Blk.mk cq3 fq3 zq3).call k
    clear k cs3 fs3 ct3 ft3 cr3 fr3 cp3 fp3 cq3 fq3 B3
    go_wp2
    exact bodyPost_ret (v := (parM a b c d).v) (by simp [results, Try.results48, go_sem, cr4, fr4]) rfl ⟨by rw [H.out], below_set7 B4 (by omega)⟩
  · have H : Hid (meetM a b c d = acrossM a b c d) := if_neg h
    have h' : (crossM (b.x - a.x) (b.y - a.y) (d.x - c.x) (d.y - c.y) == 0) = false := by simpa using h
    clear h
    go_enter Try.func48, Try.ntmps48
    go_wp2_with fail
    refine (wayFrom_any a b _ ha.gd hb.gd).mono ?_
    rintro e w1 ⟨rfl, k⟩
    have B1 := bvia (below3 _ _ _ _) k
    obtain ⟨cs1, fs1, zs1⟩ := (((Blk.new w _ _).alloc _).alloc _).call k
    obtain ⟨ct1, ft1, zt1⟩ := ((Blk.at (w.heap.size + 1) (by simp)).alloc _).call k
    obtain ⟨cr1, fr1, zr1⟩ := (Blk.at (w.heap.size + 1 + 1) (by simp)).call k
    clear k
    go_wp2_with fail
    refine (wayFrom_any c d _ hc.gd hd.gd).mono ?_
    rintro e w2 ⟨rfl, k⟩
    have B2 := bvia (B1.alloc B1.size _) k
    obtain ⟨cs2, fs2, zs2⟩ := ((Blk.mk cs1 fs1 zs1).alloc _).call k
    obtain ⟨ct2, ft2, zt2⟩ := ((Blk.mk ct1 ft1 zt1).alloc _).call k
    obtain ⟨cr2, fr2, zr2⟩ := ((Blk.mk cr1 fr1 zr1).alloc _).call k
    obtain ⟨cp2, fp2, zp2⟩ := (Blk.new w1 _ _).call k
    clear k cs1 fs1 ct1 ft1 cr1 fr1 B1
    go_wp2_with fail
    refine (cross_any _ _ _ _ _ (gr_way ha.x hb.x) (gr_way ha.y hb.y) (gr_way hc.x hd.x) (gr_way hc.y hd.y)).mono ?_
    rintro e w3 ⟨rfl, k⟩
    have B3 := bvia (B2.alloc B2.size _) k
    obtain ⟨cs3, fs3, zs3⟩ := ((Blk.mk cs2 fs2 zs2).alloc _).call k
    obtain ⟨ct3, ft3, zt3⟩ := ((Blk.mk ct2 ft2 zt2).alloc _).call k
    obtain ⟨cr3, fr3, zr3⟩ := ((Blk.mk cr2 fr2 zr2).alloc _).call k
    obtain ⟨cp3, fp3, zp3⟩ := ((Blk.mk cp2 fp2 zp2).alloc _).call k
    obtain ⟨cq3, fq3, zq3⟩ := (Blk.new w2 _ _).call k
    clear k cs2 fs2 ct2 ft2 cr2 fr2 cp2 fp2 B2
    go_wp2_with fail
    refine (meetAcross_any a b c d _ ha hb hc hd).mono ?_
    rintro e w4 ⟨rfl, k⟩
    have B4 := bvia B3 k
    obtain ⟨cs4, fs4, zs4⟩ := (Blk.mk cs3 fs3 zs3).call k
    obtain ⟨ct4, ft4, zt4⟩ := (Blk.mk ct3 ft3 zt3).call k
    obtain ⟨cr4, fr4, zr4⟩ := (Blk.mk cr3 fr3 zr3).call k
    obtain ⟨cp4, fp4, zp4⟩ := (Blk.mk cp3 fp3 zp3).call k
    obtain ⟨cq4, fq4, zq4⟩ := (Blk.mk cq3 fq3 zq3).call k
    clear k cs3 fs3 ct3 ft3 cr3 fr3 cp3 fp3 cq3 fq3 B3
    go_wp2
    exact bodyPost_ret (v := (acrossM a b c d).v) (by simp [results, Try.results48, go_sem, cr4, fr4]) rfl ⟨by rw [H.out], below_set7 B4 (by omega)⟩

theorem grid_iff {p : Pt} (h : Gr p) : gridB p = true := decide_eq_true ⟨h.d, h.x.lo, h.x.hi, h.y.lo, h.y.hi⟩

def mtM (a b c d : Pt) : Mt × Int :=
  if ¬ (gridB a = true ∧ gridB b = true ∧ gridB c = true ∧ gridB d = true) then (zM, 3)
  else if eqP a b = true ∨ eqP c d = true then (zM, 4) else (meetM a b c d, 0)

end Go.Proofs.Ytnkcbephceollab
namespace Go.Proofs.Ytnkcbephceollab
open Go.RowKit
set_option linter.unusedSimpArgs false
set_option linter.unusedVariables false

set_option maxRecDepth 100000 in
set_option maxHeartbeats 1000000 in
theorem badRing_any (v : Value) (P : List (List Pt)) (w : World) (hP : PolyAt w v P) :
    Calls Try.prog 38 #[v] w fun e w' => e = .returned (.int .i64 (badM 12 0 P)) ∧ w' = w := by
  obtain ⟨a, cap, rfl, h1, h2, h3⟩ := hP
  unfold maxLen at h2
  go_enter Try.func38, Try.ntmps38
  go_wp2_with fail
  go_loop [3, 4, 5, 8] (fun room _ _ i => ∃ (k : Nat) (rm : Int), i = .int .i64 k ∧ room = .int .i64 rm ∧ k ≤ P.length ∧ 0 ≤ rm ∧ rm ≤ 12 ∧ Hid (badM 12 0 P = badM rm k (P.drop k))) (fun _ _ _ i => P.length - (intOf i).toNat)
  case atStart => exact ⟨0, 12, rfl, rfl, Nat.zero_le _, by decide, by decide, rfl⟩
  case round =>
    obtain ⟨k, rm, rfl, rfl, hk, hr0, hr1, HB⟩ := hrel
    by_cases hlt : k < P.length
    · obtain ⟨b, off, rv, rfl, hb, hc, ⟨a', cap', rfl, g1, g2, _⟩⟩ := h3 k hlt
      have HC := hide (badM_cons rm k P k hlt)
      generalize P.getD k [] = r at *
      unfold maxLen at g2
      by_cases hbad : (r.length : Int) < 3 ∨ rm < (r.length : Int)
      · have HE : Hid (badM 12 0 P = k) := HB.out.trans (HC.out.trans (if_pos hbad))
        clear h3 HB HC
        by_cases hb3 : (r.length : Int) < 3
        · go_wp2
          go_ret
          exact ⟨ret_if HE.out.symm, rfl⟩
        · go_wp2
          go_ret
          exact ⟨ret_if HE.out.symm, rfl⟩
      · have HE : Hid (badM 12 0 P = badM (rm - r.length) (k + 1) (P.drop (k + 1))) := HB.out.trans (HC.out.trans (if_neg hbad))
        clear h3 HB HC
        have e1 : ¬ (r.length : Int) < 3 := by omega
        have e2 : (r.length : Int) ≤ rm := by omega
        go_wp2
        go_round
        case rel => exact ⟨k + 1, rm - r.length, by go_num, rfl, by omega, by omega, by omega, HE⟩
        case measure => simp [intOf]; omega
    · have HE : Hid (badM 12 0 P = -1) := by rw [HB.out, List.drop_of_length_le (by omega)]; rfl
      clear h3 HB
      go_wp2
      go_ret
      exact ⟨ret_if HE.out.symm, rfl⟩
end Go.Proofs.Ytnkcbephceollab
