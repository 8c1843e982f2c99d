import Derived.Test.YtnkcbephceollaaGreatR3
import Derived.Test.YtnkcbephceollaaGreatQ12
import Derived.Test.YtnkcbephceollaaGreatQ4
namespace Go.Proofs.YtnkcbephceollaaGreat
open Go.RowKit
set_option linter.unusedSimpArgs false
set_option linter.unusedVariables false

theorem rcross_any (a b c d : Pt) (w : World) (ha : Gr a) (hb : Gr b) (hc : Gr c) (hd : Gr d) :
    Calls Tryz.prog 70 #[sg a b, sg c d] w fun e w' => e = .returned (norm (xX a b c d) (xY a b c d) (xD a b c d)).v ∧ Below w.heap.size w w' := by
  unfold norm
  by_cases h : xD a b c d < 0
  · rw [if_pos h]; exact rcross_neg a b c d w ha hb hc hd h
  · rw [if_neg h]; exact rcross_pos a b c d w ha hb hc hd (by omega)
theorem norm_gd {a b c d : Pt} (ha : Gr a) (hb : Gr b) (hc : Gr c) (hd : Gr d) : Gd (norm (xX a b c d) (xY a b c d) (xD a b c d)) := by
  have h1 : In (xX a b c d) 2097152 := (((hb.x.sub ha.x).mul ((hc.x.mul hd.y).sub (hd.x.mul hc.y))).sub (((ha.x.mul hb.y).sub (hb.x.mul ha.y)).mul (hd.x.sub hc.x))).mono (by decide)
  have h2 : In (xY a b c d) 2097152 := ((((ha.x.mul hb.y).sub (hb.x.mul ha.y)).mul (hc.y.sub hd.y)).sub ((ha.y.sub hb.y).mul ((hc.x.mul hd.y).sub (hd.x.mul hc.y)))).mono (by decide)
  have h3 : In (xD a b c d) 32768 := (((ha.y.sub hb.y).mul (hd.x.sub hc.x)).sub ((hb.x.sub ha.x).mul (hc.y.sub hd.y))).mono (by decide)
  unfold norm; split
  · exact ⟨h1.neg, h2.neg, h3.neg⟩
  · exact ⟨h1, h2, h3⟩

set_option maxHeartbeats 2000000 in
theorem rmeet_a0 (a b c d : Pt) (w : World) (ha : Gr a) (hb : Gr b) (hc : Gr c) (hd : Gr d) (hp : 0 < (norm (xX a b c d) (xY a b c d) (xD a b c d)).d) (h1 : withB (norm (xX a b c d) (xY a b c d) (xD a b c d)) a b = true) (h2 : withB (norm (xX a b c d) (xY a b c d) (xD a b c d)) c d = true) :
    Calls Tryz.prog 41 #[sg a b, sg c d] w fun e w' => e = .returned (Mt.mk 1 (leastM (norm (xX a b c d) (xY a b c d) (xD a b c d))) zP).v ∧ Below w.heap.size w w' := by
  generalize hP : norm (xX a b c d) (xY a b c d) (xD a b c d) = P at *
  have HP := hide hP
  have gp : Gd P := by rw [← hP]; exact norm_gd ha hb hc hd
  clear hP
  go_enter Tryz.func41, Tryz.ntmps41
  go_wp2_with fail
  refine (rcross_any a b c d _ ha hb hc hd).mono ?_
  rintro e w1 ⟨rfl, k⟩
  have B1 := bvia (below3 _ _ _ _) k
  obtain ⟨cs1, fs1, zs1⟩ := (((Blk.new w _ _).alloc _).alloc _).call k
  obtain ⟨ct1, ft1, zt1⟩ := ((Blk.at (w.heap.size + 1) (by simp)).alloc _).call k
  obtain ⟨cr1, fr1, zr1⟩ := (Blk.at (w.heap.size + 1 + 1) (by simp)).call k
  clear k
  rw [HP.out]
  go_wp2_with fail
  refine (rwithin_any P a b _ gp ha.gd hb.gd).mono ?_
  rintro e w2 ⟨rfl, k⟩
  have B2 := bvia (B1.alloc B1.size _) k
  obtain ⟨cs2, fs2, zs2⟩ := ((Blk.mk cs1 fs1 zs1).alloc _).call k
  obtain ⟨ct2, ft2, zt2⟩ := ((Blk.mk ct1 ft1 zt1).alloc _).call k
  obtain ⟨cr2, fr2, zr2⟩ := ((Blk.mk cr1 fr1 zr1).alloc _).call k
  obtain ⟨cp2, fp2, zp2⟩ := (Blk.new w1 _ _).call k
  clear k cs1 fs1 ct1 ft1 cr1 fr1 B1
  rw [h1]
  go_wp2_with fail
  refine (rwithin_any P c d _ gp hc.gd hd.gd).mono ?_
  rintro e w3 ⟨rfl, k⟩
  have B3 := bvia B2 k
  obtain ⟨cs3, fs3, zs3⟩ := (Blk.mk cs2 fs2 zs2).call k
  obtain ⟨ct3, ft3, zt3⟩ := (Blk.mk ct2 ft2 zt2).call k
  obtain ⟨cr3, fr3, zr3⟩ := (Blk.mk cr2 fr2 zr2).call k
  obtain ⟨cp3, fp3, zp3⟩ := (Blk.mk cp2 fp2 zp2).call k
  clear k cs2 fs2 ct2 ft2 cr2 fr2 cp2 fp2 B2
  rw [h2]
  go_wp2_with fail
  refine (rleast_any P _ gp hp).mono ?_
  rintro e w4 ⟨rfl, k⟩
  have B4 := bvia B3 k
  obtain ⟨cs4, fs4, zs4⟩ := (Blk.mk cs3 fs3 zs3).call k
  obtain ⟨ct4, ft4, zt4⟩ := (Blk.mk ct3 ft3 zt3).call k
  obtain ⟨cr4, fr4, zr4⟩ := (Blk.mk cr3 fr3 zr3).call k
  obtain ⟨cp4, fp4, zp4⟩ := (Blk.mk cp3 fp3 zp3).call k
  clear k cs3 fs3 ct3 ft3 cr3 fr3 cp3 fp3 B3
  go_wp2
  exact bodyPost_ret (v := Mt.v ⟨1, leastM P, zP⟩) (by simp [results, Tryz.results41, go_sem, cr4, fr4, zP]) rfl ⟨rfl, below_set7 B4 (by omega)⟩

set_option maxHeartbeats 2000000 in
theorem rmeet_a1 (a b c d : Pt) (w : World) (ha : Gr a) (hb : Gr b) (hc : Gr c) (hd : Gr d) (hp : 0 < (norm (xX a b c d) (xY a b c d) (xD a b c d)).d) (h1 : withB (norm (xX a b c d) (xY a b c d) (xD a b c d)) a b = true) (h2 : withB (norm (xX a b c d) (xY a b c d) (xD a b c d)) c d = false) :
    Calls Tryz.prog 41 #[sg a b, sg c d] w fun e w' => e = .returned (zM).v ∧ Below w.heap.size w w' := by
  generalize hP : norm (xX a b c d) (xY a b c d) (xD a b c d) = P at *
  have HP := hide hP
  have gp : Gd P := by rw [← hP]; exact norm_gd ha hb hc hd
  clear hP
  go_enter Tryz.func41, Tryz.ntmps41
  go_wp2_with fail
  refine (rcross_any a b c d _ ha hb hc hd).mono ?_
  rintro e w1 ⟨rfl, k⟩
  have B1 := bvia (below3 _ _ _ _) k
  obtain ⟨cs1, fs1, zs1⟩ := (((Blk.new w _ _).alloc _).alloc _).call k
  obtain ⟨ct1, ft1, zt1⟩ := ((Blk.at (w.heap.size + 1) (by simp)).alloc _).call k
  obtain ⟨cr1, fr1, zr1⟩ := (Blk.at (w.heap.size + 1 + 1) (by simp)).call k
  clear k
  rw [HP.out]
  go_wp2_with fail
  refine (rwithin_any P a b _ gp ha.gd hb.gd).mono ?_
  rintro e w2 ⟨rfl, k⟩
  have B2 := bvia (B1.alloc B1.size _) k
  obtain ⟨cs2, fs2, zs2⟩ := ((Blk.mk cs1 fs1 zs1).alloc _).call k
  obtain ⟨ct2, ft2, zt2⟩ := ((Blk.mk ct1 ft1 zt1).alloc _).call k
  obtain ⟨cr2, fr2, zr2⟩ := ((Blk.mk cr1 fr1 zr1).alloc _).call k
  obtain ⟨cp2, fp2, zp2⟩ := (Blk.new w1 _ _).call k
  clear k cs1 fs1 ct1 ft1 cr1 fr1 B1
  rw [h1]
  go_wp2_with fail
  refine (rwithin_any P c d _ gp hc.gd hd.gd).mono ?_
  rintro e w3 ⟨rfl, k⟩
  have B3 := bvia B2 k
  obtain ⟨cs3, fs3, zs3⟩ := (Blk.mk cs2 fs2 zs2).call k
  obtain ⟨ct3, ft3, zt3⟩ := (Blk.mk ct2 ft2 zt2).call k
  obtain ⟨cr3, fr3, zr3⟩ := (Blk.mk cr2 fr2 zr2).call k
  obtain ⟨cp3, fp3, zp3⟩ := (Blk.mk cp2 fp2 zp2).call k
  clear k cs2 fs2 ct2 ft2 cr2 fr2 cp2 fp2 B2
  rw [h2]
  go_wp2
  exact bodyPost_ret (v := zM.v) (by simp [results, Tryz.results41, go_sem, cr3, fr3, zM, zP]) rfl ⟨rfl, below_set7 B3 (by omega)⟩

set_option maxHeartbeats 2000000 in
theorem rmeet_a2 (a b c d : Pt) (w : World) (ha : Gr a) (hb : Gr b) (hc : Gr c) (hd : Gr d) (hp : 0 < (norm (xX a b c d) (xY a b c d) (xD a b c d)).d) (h1 : withB (norm (xX a b c d) (xY a b c d) (xD a b c d)) a b = false) (h2 : withB (norm (xX a b c d) (xY a b c d) (xD a b c d)) c d = true) :
    Calls Tryz.prog 41 #[sg a b, sg c d] w fun e w' => e = .returned (zM).v ∧ Below w.heap.size w w' := by
  generalize hP : norm (xX a b c d) (xY a b c d) (xD a b c d) = P at *
  have HP := hide hP
  have gp : Gd P := by rw [← hP]; exact norm_gd ha hb hc hd
  clear hP
  go_enter Tryz.func41, Tryz.ntmps41
  go_wp2_with fail
  refine (rcross_any a b c d _ ha hb hc hd).mono ?_
  rintro e w1 ⟨rfl, k⟩
  have B1 := bvia (below3 _ _ _ _) k
  obtain ⟨cs1, fs1, zs1⟩ := (((Blk.new w _ _).alloc _).alloc _).call k
  obtain ⟨ct1, ft1, zt1⟩ := ((Blk.at (w.heap.size + 1) (by simp)).alloc _).call k
  obtain ⟨cr1, fr1, zr1⟩ := (Blk.at (w.heap.size + 1 + 1) (by simp)).call k
  clear k
  rw [HP.out]
  go_wp2_with fail
  refine (rwithin_any P a b _ gp ha.gd hb.gd).mono ?_
  rintro e w2 ⟨rfl, k⟩
  have B2 := bvia (B1.alloc B1.size _) k
  obtain ⟨cs2, fs2, zs2⟩ := ((Blk.mk cs1 fs1 zs1).alloc _).call k
  obtain ⟨ct2, ft2, zt2⟩ := ((Blk.mk ct1 ft1 zt1).alloc _).call k
  obtain ⟨cr2, fr2, zr2⟩ := ((Blk.mk cr1 fr1 zr1).alloc _).call k
  obtain ⟨cp2, fp2, zp2⟩ := (Blk.new w1 _ _).call k
  clear k cs1 fs1 ct1 ft1 cr1 fr1 B1
  rw [h1]
  go_wp2_with fail
  refine (rwithin_any P c d _ gp hc.gd hd.gd).mono ?_
  rintro e w3 ⟨rfl, k⟩
  have B3 := bvia B2 k
  obtain ⟨cs3, fs3, zs3⟩ := (Blk.mk cs2 fs2 zs2).call k
  obtain ⟨ct3, ft3, zt3⟩ := (Blk.mk ct2 ft2 zt2).call k
  obtain ⟨cr3, fr3, zr3⟩ := (Blk.mk cr2 fr2 zr2).call k
  obtain ⟨cp3, fp3, zp3⟩ := (Blk.mk cp2 fp2 zp2).call k
  clear k cs2 fs2 ct2 ft2 cr2 fr2 cp2 fp2 B2
  rw [h2]
  go_wp2
  exact bodyPost_ret (v := zM.v) (by simp [results, Tryz.results41, go_sem, cr3, fr3, zM, zP]) rfl ⟨rfl, below_set7 B3 (by omega)⟩

set_option maxHeartbeats 2000000 in
theorem rmeet_a3 (a b c d : Pt) (w : World) (ha : Gr a) (hb : Gr b) (hc : Gr c) (hd : Gr d) (hp : 0 < (norm (xX a b c d) (xY a b c d) (xD a b c d)).d) (h1 : withB (norm (xX a b c d) (xY a b c d) (xD a b c d)) a b = false) (h2 : withB (norm (xX a b c d) (xY a b c d) (xD a b c d)) c d = false) :
    Calls Tryz.prog 41 #[sg a b, sg c d] w fun e w' => e = .returned (zM).v ∧ Below w.heap.size w w' := by
  generalize hP : norm (xX a b c d) (xY a b c d) (xD a b c d) = P at *
  have HP := hide hP
  have gp : Gd P := by rw [← hP]; exact norm_gd ha hb hc hd
  clear hP
  go_enter Tryz.func41, Tryz.ntmps41
  go_wp2_with fail
  refine (rcross_any a b c d _ ha hb hc hd).mono ?_
  rintro e w1 ⟨rfl, k⟩
  have B1 := bvia (below3 _ _ _ _) k
  obtain ⟨cs1, fs1, zs1⟩ := (((Blk.new w _ _).alloc _).alloc _).call k
  obtain ⟨ct1, ft1, zt1⟩ := ((Blk.at (w.heap.size + 1) (by simp)).alloc _).call k
  obtain ⟨cr1, fr1, zr1⟩ := (Blk.at (w.heap.size + 1 + 1) (by simp)).call k
  clear k
  rw [HP.out]
  go_wp2_with fail
  refine (rwithin_any P a b _ gp ha.gd hb.gd).mono ?_
  rintro e w2 ⟨rfl, k⟩
  have B2 := bvia (B1.alloc B1.size _) k
  obtain ⟨cs2, fs2, zs2⟩ := ((Blk.mk cs1 fs1 zs1).alloc _).call k
  obtain ⟨ct2, ft2, zt2⟩ := ((Blk.mk ct1 ft1 zt1).alloc _).call k
  obtain ⟨cr2, fr2, zr2⟩ := ((Blk.mk cr1 fr1 zr1).alloc _).call k
  obtain ⟨cp2, fp2, zp2⟩ := (Blk.new w1 _ _).call k
  clear k cs1 fs1 ct1 ft1 cr1 fr1 B1
  rw [h1]
  go_wp2_with fail
  refine (rwithin_any P c d _ gp hc.gd hd.gd).mono ?_
  rintro e w3 ⟨rfl, k⟩
  have B3 := bvia B2 k
  obtain ⟨cs3, fs3, zs3⟩ := (Blk.mk cs2 fs2 zs2).call k
  obtain ⟨ct3, ft3, zt3⟩ := (Blk.mk ct2 ft2 zt2).call k
  obtain ⟨cr3, fr3, zr3⟩ := (Blk.mk cr2 fr2 zr2).call k
  obtain ⟨cp3, fp3, zp3⟩ := (Blk.mk cp2 fp2 zp2).call k
  clear k cs2 fs2 ct2 ft2 cr2 fr2 cp2 fp2 B2
  rw [h2]
  go_wp2
  exact bodyPost_ret (v := zM.v) (by simp [results, Tryz.results41, go_sem, cr3, fr3, zM, zP]) rfl ⟨rfl, below_set7 B3 (by omega)⟩

end Go.Proofs.YtnkcbephceollaaGreat
