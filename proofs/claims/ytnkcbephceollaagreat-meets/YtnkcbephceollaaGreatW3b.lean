import Derived.Test.YtnkcbephceollaaGreatQ3
namespace Go.Proofs.YtnkcbephceollaaGreat
open Go.RowKit
set_option linter.unusedSimpArgs false
set_option linter.unusedVariables false

theorem below2 (w : World) (x y : Obj) : Below w.heap.size w ((w.alloc x).alloc y) :=
  ((Below.refl _ _).alloc (Nat.le_refl _) _).alloc (by simp) _
set_option maxHeartbeats 1000000 in
theorem Forward_any (a b : Pt) (w : World) (ha : Gd a) (hb : Gd b) :
    Calls Tryz.prog 127 #[sg a b] w fun e w' => e = .returned (sg (firstM a b) (lastM a b)) ∧ Below w.heap.size w w' := by
  go_enter Tryz.func127, Tryz.ntmps127
  go_wp2_with fail
  refine (First_any a b _ ha hb).mono ?_
  rintro e w1 ⟨rfl, k⟩
  have B1 := bvia (below2 _ _ _) k
  obtain ⟨cs, fs, zs⟩ := ((Blk.new w _ _).alloc _).call k
  obtain ⟨cr, fr, zr⟩ := (Blk.at (w.heap.size + 1) (by simp)).call k
  clear k
  go_wp2_with fail
  refine (Last_any a b _ ha hb).mono ?_
  rintro e w2 ⟨rfl, k⟩
  have B2 := bvia (B1.alloc B1.size _) k
  obtain ⟨cs2, fs2, zs2⟩ := ((Blk.mk cs fs zs).alloc _).call k
  obtain ⟨cr2, fr2, zr2⟩ := ((Blk.mk cr fr zr).alloc _).call k
  obtain ⟨cp2, fp2, zp2⟩ := (Blk.new w1 _ _).call k
  clear k cs fs cr fr B1
  have B3 := below_set6 (b := w.heap.size + 1) (x0 := I (firstM a b).x) (x1 := I (firstM a b).y) (x2 := I (firstM a b).d) (x3 := I (lastM a b).x) (x4 := I (lastM a b).y) (x5 := I (lastM a b).d) B2 (by omega)
  go_wp2
  exact bodyPost_ret (v := sg (firstM a b) (lastM a b)) (by simp [results, Tryz.results127, go_sem, cr2, fr2, zr2]) rfl ⟨rfl, B3.alloc B3.size _⟩

theorem below_set7 {w w1 : World} {b : Nat} {x0 x1 x2 x3 x4 x5 x6 : Value} (h : Below w.heap.size w w1) (hb : w.heap.size ≤ b) :
    Below w.heap.size w (((((((w1.setCell ⟨b, 0, none⟩ x0).setCell ⟨b, 1, none⟩ x1).setCell ⟨b, 2, none⟩ x2).setCell ⟨b, 3, none⟩ x3).setCell ⟨b, 4, none⟩ x4).setCell ⟨b, 5, none⟩ x5).setCell ⟨b, 6, none⟩ x6) :=
  ((((((h.setCell hb _).setCell hb _).setCell hb _).setCell hb _).setCell hb _).setCell hb _).setCell hb _
theorem line_gt {a b c d : Pt} (h : 0 < cmpM (lastM (firstM a b) (firstM c d)) (firstM (lastM a b) (lastM c d))) : lineM a b c d = zM := if_pos h
theorem line_eq {a b c d : Pt} (h : cmpM (lastM (firstM a b) (firstM c d)) (firstM (lastM a b) (lastM c d)) ≤ 0) (h2 : (cmpM (lastM (firstM a b) (firstM c d)) (firstM (lastM a b) (lastM c d)) == 0) = true) : lineM a b c d = ⟨1, lastM (firstM a b) (firstM c d), zP⟩ :=
  (if_neg (by omega)).trans (if_pos (by simpa using h2))
theorem line_lt {a b c d : Pt} (h : cmpM (lastM (firstM a b) (firstM c d)) (firstM (lastM a b) (lastM c d)) ≤ 0) (h2 : (cmpM (lastM (firstM a b) (firstM c d)) (firstM (lastM a b) (lastM c d)) == 0) = false) : lineM a b c d = ⟨2, lastM (firstM a b) (firstM c d), firstM (lastM a b) (lastM c d)⟩ :=
  (if_neg (by omega)).trans (if_neg (by simpa using h2))

set_option maxHeartbeats 1000000 in
theorem meetOnLine_any (a b c d : Pt) (w : World) (ha : Gr a) (hb : Gr b) (hc : Gr c) (hd : Gr d) :
    Calls Tryz.prog 105 #[sg a b, sg c d] w fun e w' => e = .returned (lineM a b c d).v ∧ Below w.heap.size w w' := by
  have g1 := firstM_gr ha hb
  have g2 := firstM_gr hc hd
  have g3 := lastM_gr ha hb
  have g4 := lastM_gr hc hd
  have g5 := lastM_gr g1 g2
  have g6 := firstM_gr g3 g4
  go_enter Tryz.func105, Tryz.ntmps105
  go_wp2_with fail
  refine (Forward_any a b _ ha.gd hb.gd).mono ?_
  rintro e w1 ⟨rfl, k⟩
  have B1 := bvia (below3 _ _ _ _) k
  obtain ⟨cs, fs, zs⟩ := (((Blk.new w _ _).alloc _).alloc _).call k
  obtain ⟨ct, ft, zt⟩ := ((Blk.at (w.heap.size + 1) (by simp)).alloc _).call k
  obtain ⟨cr, fr, zr⟩ := (Blk.at (w.heap.size + 1 + 1) (by simp)).call k
  clear k
  go_wp2_with fail
  refine (Forward_any c d _ hc.gd hd.gd).mono ?_
  rintro e w2 ⟨rfl, k⟩
  have B4 := bvia (B1.alloc B1.size _) k
  obtain ⟨cr4, fr4, zr4⟩ := ((Blk.mk cr fr zr).alloc _).call k
  obtain ⟨cp4, fp4, zp4⟩ := (Blk.new w1 _ _).call k
  clear k cs fs ct ft cr fr B1
  go_wp2_with fail
  refine (Last_any (firstM a b) (firstM c d) _ g1.gd g2.gd).mono ?_
  rintro e w5 ⟨rfl, k⟩
  have B5 := bvia (B4.alloc B4.size _) k
  obtain ⟨cr5, fr5, zr5⟩ := ((Blk.mk cr4 fr4 zr4).alloc _).call k
  obtain ⟨cp5, fp5, zp5⟩ := ((Blk.mk cp4 fp4 zp4).alloc _).call k
  obtain ⟨cu5, fu5, zu5⟩ := (Blk.new w2 _ _).call k
  clear k cr4 fr4 cp4 fp4 B4
  go_wp2_with fail
  refine (First_any (lastM a b) (lastM c d) _ g3.gd g4.gd).mono ?_
  rintro e w6 ⟨rfl, k⟩
  have B6 := bvia (B5.alloc B5.size _) k
  obtain ⟨cr6, fr6, zr6⟩ := ((Blk.mk cr5 fr5 zr5).alloc _).call k
  obtain ⟨cm6, fm6, zm6⟩ := (Blk.new w5 _ _).call k
  clear k cr5 fr5 cp5 fp5 cu5 fu5 B5
  go_wp2_with fail
  refine (Compare_any (lastM (firstM a b) (firstM c d)) (firstM (lastM a b) (lastM c d)) _ g5.gd g6.gd).mono ?_
  rintro e w7 ⟨rfl, k⟩
  have B7 := bvia (B6.alloc B6.size _) k
  obtain ⟨cr7, fr7, zr7⟩ := ((Blk.mk cr6 fr6 zr6).alloc _).call k
  obtain ⟨cm7, fm7, zm7⟩ := ((Blk.mk cm6 fm6 zm6).alloc _).call k
  obtain ⟨cn7, fn7, zn7⟩ := (Blk.new w6 _ _).call k
  clear k cr6 fr6 cm6 fm6 B6
  go_wp2
  · exact bodyPost_ret (v := zM.v) (by simp [results, Tryz.results105, go_sem, cr7, fr7, zM, zP]) rfl ⟨by rw [line_gt (by assumption)], below_set7 B7 (by omega)⟩
  · exact bodyPost_ret (v := Mt.v ⟨1, lastM (firstM a b) (firstM c d), zP⟩) (by simp [results, Tryz.results105, go_sem, cr7, fr7, zP]) rfl ⟨by rw [line_eq (by assumption) (by assumption)], below_set7 B7 (by omega)⟩
  · exact bodyPost_ret (v := Mt.v ⟨2, lastM (firstM a b) (firstM c d), firstM (lastM a b) (lastM c d)⟩) (by simp [results, Tryz.results105, go_sem, cr7, fr7]) rfl ⟨by rw [line_lt (by assumption) (by assumption)], below_set7 B7 (by omega)⟩

end Go.Proofs.YtnkcbephceollaaGreat
