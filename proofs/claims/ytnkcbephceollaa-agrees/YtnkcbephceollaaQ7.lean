import Derived.Test.YtnkcbephceollaaQ5
namespace Go.Proofs.Ytnkcbephceollaa
open Go.RowKit
set_option linter.unusedSimpArgs false
set_option linter.unusedVariables false

theorem below2 (w : World) (x y : Obj) : Below w.heap.size w ((w.alloc x).alloc y) :=
  ((Below.refl _ _).alloc (Nat.le_refl _) _).alloc (by simp) _
set_option maxHeartbeats 1000000 in
theorem Forward_any (a b : Pt) (w : World) (ha : Gd a) (hb : Gd b) :
    Calls Try.prog 86 #[sg a b] w fun e w' => e = .returned (sg (firstM a b) (lastM a b)) ∧ Below w.heap.size w w' := by
  go_enter Try.func86, Try.ntmps86
  go_wp2_with fail
  refine (First_any a b _ ha hb).mono ?_
  rintro e w1 ⟨rfl, k⟩
  have B1 := bvia (below2 _ _ _) k
  obtain ⟨cs, fs, zs⟩ := ((Blk.new w _ _).alloc _).call k
  obtain ⟨cr, fr, zr⟩ := (Blk.at (w.heap.size + 1) (by simp)).call k
  clear k
  go_wp2_with fail
  refine (Last_any a b _ ha hb).mono ?_
  rintro e w2 ⟨rfl, k⟩
  have B2 := bvia (B1.alloc B1.size _) k
  obtain ⟨cs2, fs2, zs2⟩ := ((Blk.mk cs fs zs).alloc _).call k
  obtain ⟨cr2, fr2, zr2⟩ := ((Blk.mk cr fr zr).alloc _).call k
  obtain ⟨cp2, fp2, zp2⟩ := (Blk.new w1 _ _).call k
  clear k cs fs cr fr B1
  have B3 := below_set6 (b := w.heap.size + 1) (x0 := I (firstM a b).x) (x1 := I (firstM a b).y) (x2 := I (firstM a b).d) (x3 := I (lastM a b).x) (x4 := I (lastM a b).y) (x5 := I (lastM a b).d) B2 (by omega)
  go_wp2
  exact bodyPost_ret (v := sg (firstM a b) (lastM a b)) (by simp [results, Try.results86, go_sem, cr2, fr2, zr2]) rfl ⟨rfl, B3.alloc B3.size _⟩

theorem below_set7 {w w1 : World} {b : Nat} {x0 x1 x2 x3 x4 x5 x6 : Value} (h : Below w.heap.size w w1) (hb : w.heap.size ≤ b) :
    Below w.heap.size w (((((((w1.setCell ⟨b, 0, none⟩ x0).setCell ⟨b, 1, none⟩ x1).setCell ⟨b, 2, none⟩ x2).setCell ⟨b, 3, none⟩ x3).setCell ⟨b, 4, none⟩ x4).setCell ⟨b, 5, none⟩ x5).setCell ⟨b, 6, none⟩ x6) :=
  ((((((h.setCell hb _).setCell hb _).setCell hb _).setCell hb _).setCell hb _).setCell hb _).setCell hb _
theorem line_gt {a b c d : Pt} (h : 0 < cmpM (lastM (firstM a b) (firstM c d)) (firstM (lastM a b) (lastM c d))) : lineM a b c d = zM := if_pos h
theorem line_eq {a b c d : Pt} (h : cmpM (lastM (firstM a b) (firstM c d)) (firstM (lastM a b) (lastM c d)) ≤ 0) (h2 : (cmpM (lastM (firstM a b) (firstM c d)) (firstM (lastM a b) (lastM c d)) == 0) = true) : lineM a b c d = ⟨1, lastM (firstM a b) (firstM c d), zP⟩ :=
  (if_neg (by omega)).trans (if_pos (by simpa using h2))
theorem line_lt {a b c d : Pt} (h : cmpM (lastM (firstM a b) (firstM c d)) (firstM (lastM a b) (lastM c d)) ≤ 0) (h2 : (cmpM (lastM (firstM a b) (firstM c d)) (firstM (lastM a b) (lastM c d)) == 0) = false) : lineM a b c d = ⟨2, lastM (firstM a b) (firstM c d), firstM (lastM a b) (lastM c d)⟩ :=
  (if_neg (by omega)).trans (if_neg (by simpa using h2))

set_option maxHeartbeats 1000000 in
theorem meetOnLine_any (a b c d : Pt) (w : World) (ha : Gr a) (hb : Gr b) (hc : Gr c) (hd : Gr d) :
    Calls Try.prog 69 #[sg a b, sg c d] w fun e w' => e = .returned (lineM a b c d).v ∧ Below w.heap.size w w' := by
  have g1 := firstM_gr ha hb
  have g2 := firstM_gr hc hd
  have g3 := lastM_gr ha hb
  have g4 := lastM_gr hc hd
  have g5 := lastM_gr g1 g2
  have g6 := firstM_gr g3 g4
  go_enter Try.func69, Try.ntmps69
  go_wp2_with fail
  refine (Forward_any a b _ ha.gd hb.gd).mono ?_
  rintro e w1 ⟨rfl, k⟩
  have B1 := bvia (below3 _ _ _ _) k
  obtain ⟨cs, fs, zs⟩ := (((Blk.new w _ _).alloc _).alloc _).call k
  obtain ⟨ct, ft, zt⟩ := ((Blk.at (w.heap.size + 1) (by simp)).alloc _).call k
  obtain ⟨cr, fr, zr⟩ := (Blk.at (w.heap.size + 1 + 1) (by simp)).call k
  clear k
  go_wp2_with fail
  refine (Forward_any c d _ hc.gd hd.gd).mono ?_
  rintro e w2 ⟨rfl, k⟩
  have B4 := bvia (B1.alloc B1.size _) k
  obtain ⟨cr4, fr4, zr4⟩ := ((Blk.mk cr fr zr).alloc _).call k
  obtain ⟨cp4, fp4, zp4⟩ := (Blk.new w1 _ _).call k
  clear k cs fs ct ft cr fr B1
  go_wp2_with fail
  refine (Last_any (firstM a b) (firstM c d) _ g1.gd g2.gd).mono ?_
  rintro e w5 ⟨rfl, k⟩
  have B5 := bvia (B4.alloc B4.size _) k
  obtain ⟨cr5, fr5, zr5⟩ := ((Blk.mk cr4 fr4 zr4).alloc _).call k
  obtain ⟨cp5, fp5, zp5⟩ := ((Blk.mk cp4 fp4 zp4).alloc _).call k
  obtain ⟨cu5, fu5, zu5⟩ := (Blk.new w2 _ _).call k
  clear k cr4 fr4 cp4 fp4 B4
  go_wp2_with fail
  refine (First_any (lastM a b) (lastM c d) _ g3.gd g4.gd).mono ?_
  rintro e w6 ⟨rfl, k⟩
  have B6 := bvia (B5.alloc B5.size _) k
  obtain ⟨cr6, fr6, zr6⟩ := ((Blk.mk cr5 fr5 zr5).alloc _).call k
  obtain ⟨cm6, fm6, zm6⟩ := (Blk.new w5 _ _).call k
  clear k cr5 fr5 cp5 fp5 cu5 fu5 B5
  go_wp2_with fail
  refine (Compare_any (lastM (firstM a b) (firstM c d)) (firstM (lastM a b) (lastM c d)) _ g5.gd g6.gd).mono ?_
  rintro e w7 ⟨rfl, k⟩
  have B7 := bvia (B6.alloc B6.size _) k
  obtain ⟨cr7, fr7, zr7⟩ := ((Blk.mk cr6 fr6 zr6).alloc _).call k
  obtain ⟨cm7, fm7, zm7⟩ := ((Blk.mk cm6 fm6 zm6).alloc _).call k
  obtain ⟨cn7, fn7, zn7⟩ := (Blk.new w6 _ _).call k
  clear k cr6 fr6 cm6 fm6 B6
  go_wp2
  · exact bodyPost_ret (v := zM.v) (by simp [results, Try.results69, go_sem, cr7, fr7, zM, zP]) rfl ⟨by rw [line_gt (by assumption)], below_set7 B7 (by omega)⟩
  · exact bodyPost_ret (v := Mt.v ⟨1, lastM (firstM a b) (firstM c d), zP⟩) (by simp [results, Try.results69, go_sem, cr7, fr7, zP]) rfl ⟨by rw [line_eq (by assumption) (by assumption)], below_set7 B7 (by omega)⟩
  · exact bodyPost_ret (v := Mt.v ⟨2, lastM (firstM a b) (firstM c d), firstM (lastM a b) (lastM c d)⟩) (by simp [results, Try.results69, go_sem, cr7, fr7]) rfl ⟨by rw [line_lt (by assumption) (by assumption)], below_set7 B7 (by omega)⟩

end Go.Proofs.Ytnkcbephceollaa
namespace Go.Proofs.Ytnkcbephceollaa
open Go.RowKit
set_option linter.unusedSimpArgs false
set_option linter.unusedVariables false

theorem gr_way {a b : Int} (h : In a 64) (g : In b 64) : In (b - a) 4194304 := (g.sub h).mono (by decide)

set_option maxHeartbeats 1000000 in
theorem meetParallel_any (a b c d : Pt) (w : World) (ha : Gr a) (hb : Gr b) (hc : Gr c) (hd : Gr d) :
    Calls Try.prog 54 #[sg a b, sg c d] w fun e w' => e = .returned (parM a b c d).v ∧ Below w.heap.size w w' := by
  by_cases h : crossM (b.x - a.x) (b.y - a.y) (c.x - a.x) (c.y - a.y) = 0
  · have H : Hid (parM a b c d = lineM a b c d) := if_neg (by simpa using h)
    have h' : (crossM (b.x - a.x) (b.y - a.y) (c.x - a.x) (c.y - a.y) != 0) = false := by simpa using h
    clear h
    go_enter Try.func54, Try.ntmps54
    go_wp2_with fail
    refine (wayFrom_any a b _ ha.gd hb.gd).mono ?_
    rintro e w1 ⟨rfl, k⟩
    have B1 := bvia (below3 _ _ _ _) k
    obtain ⟨cs1, fs1, zs1⟩ := (((Blk.new w _ _).alloc _).alloc _).call k
    obtain ⟨ct1, ft1, zt1⟩ := ((Blk.at (w.heap.size + 1) (by simp)).alloc _).call k
    obtain ⟨cr1, fr1, zr1⟩ := (Blk.at (w.heap.size + 1 + 1) (by simp)).call k
    clear k
    go_wp2_with fail
    refine (wayFrom_any a c _ ha.gd hc.gd).mono ?_
    rintro e w2 ⟨rfl, k⟩
    have B2 := bvia (B1.alloc B1.size _) k
    obtain ⟨cs2, fs2, zs2⟩ := ((Blk.mk cs1 fs1 zs1).alloc _).call k
    obtain ⟨ct2, ft2, zt2⟩ := ((Blk.mk ct1 ft1 zt1).alloc _).call k
    obtain ⟨cr2, fr2, zr2⟩ := ((Blk.mk cr1 fr1 zr1).alloc _).call k
    obtain ⟨cp2, fp2, zp2⟩ := (Blk.new w1 _ _).call k
    clear k cs1 fs1 ct1 ft1 cr1 fr1 B1
    go_wp2_with fail
    refine (cross_any _ _ _ _ _ (gr_way ha.x hb.x) (gr_way ha.y hb.y) (gr_way ha.x hc.x) (gr_way ha.y hc.y)).mono ?_
    rintro e w3 ⟨rfl, k⟩
    have B3 := bvia (B2.alloc B2.size _) k
    obtain ⟨cs3, fs3, zs3⟩ := ((Blk.mk cs2 fs2 zs2).alloc _).call k
    obtain ⟨ct3, ft3, zt3⟩ := ((Blk.mk ct2 ft2 zt2).alloc _).call k
    obtain ⟨cr3, fr3, zr3⟩ := ((Blk.mk cr2 fr2 zr2).alloc _).call k
    obtain ⟨cp3, fp3, zp3⟩ := ((Blk.mk cp2 fp2 zp2).alloc _).call k
    obtain ⟨cq3, fq3, zq3⟩ := (Blk.new w2 _ _).call k
    clear k cs2 fs2 ct2 ft2 cr2 fr2 cp2 fp2 B2
    go_wp2_with fail
    refine (meetOnLine_any a b c d _ ha hb hc hd).mono ?_
    rintro e w4 ⟨rfl, k⟩
    have B4 := bvia B3 k
    obtain ⟨cs4, fs4, zs4⟩ := (Blk.mk cs3 fs3 zs3).call k
    obtain ⟨ct4, ft4, zt4⟩ := (Blk.mk ct3 ft3 zt3).call k
    obtain ⟨cr4, fr4, zr4⟩ := (Blk.mk cr3 fr3 zr3).call k
    obtain ⟨cp4, fp4, zp4⟩ := (Blk.mk cp3 fp3 zp3).call k
    obtain ⟨cq4, fq4, zq4⟩ := (Blk.mk cq3 fq3 zq3).call k
    clear k cs3 fs3 ct3 ft3 cr3 fr3 cp3 fp3 cq3 fq3 B3
    go_wp2
    exact bodyPost_ret (v := (lineM a b c d).v) (by simp [results, Try.results54, go_sem, cr4, fr4]) rfl ⟨by rw [H.out], below_set7 B4 (by omega)⟩
  · have H : Hid (parM a b c d = zM) := if_pos h
    have h' : (crossM (b.x - a.x) (b.y - a.y) (c.x - a.x) (c.y - a.y) != 0) = true := by simpa using h
    clear h
    go_enter Try.func54, Try.ntmps54
    go_wp2_with fail
    refine (wayFrom_any a b _ ha.gd hb.gd).mono ?_
    rintro e w1 ⟨rfl, k⟩
    have B1 := bvia (below3 _ _ _ _) k
    obtain ⟨cs1, fs1, zs1⟩ := (((Blk.new w _ _).alloc _).alloc _).call k
    obtain ⟨ct1, ft1, zt1⟩ := ((Blk.at (w.heap.size + 1) (by simp)).alloc _).call k
    obtain ⟨cr1, fr1, zr1⟩ := (Blk.at (w.heap.size + 1 + 1) (by simp)).call k
    clear k
    go_wp2_with fail
    refine (wayFrom_any a c _ ha.gd hc.gd).mono ?_
    rintro e w2 ⟨rfl, k⟩
    have B2 := bvia (B1.alloc B1.size _) k
    obtain ⟨cs2, fs2, zs2⟩ := ((Blk.mk cs1 fs1 zs1).alloc _).call k
    obtain ⟨ct2, ft2, zt2⟩ := ((Blk.mk ct1 ft1 zt1).alloc _).call k
    obtain ⟨cr2, fr2, zr2⟩ := ((Blk.mk cr1 fr1 zr1).alloc _).call k
    obtain ⟨cp2, fp2, zp2⟩ := (Blk.new w1 _ _).call k
    clear k cs1 fs1 ct1 ft1 cr1 fr1 B1
    go_wp2_with fail
    refine (cross_any _ _ _ _ _ (gr_way ha.x hb.x) (gr_way ha.y hb.y) (gr_way ha.x hc.x) (gr_way ha.y hc.y)).mono ?_
    rintro e w3 ⟨rfl, k⟩
    have B3 := bvia (B2.alloc B2.size _) k
    obtain ⟨cs3, fs3, zs3⟩ := ((Blk.mk cs2 fs2 zs2).alloc _).call k
    obtain ⟨ct3, ft3, zt3⟩ := ((Blk.mk ct2 ft2 zt2).alloc _).call k
    obtain ⟨cr3, fr3, zr3⟩ := ((Blk.mk cr2 fr2 zr2).alloc _).call k
    obtain ⟨cp3, fp3, zp3⟩ := ((Blk.mk cp2 fp2 zp2).alloc _).call k
    obtain ⟨cq3, fq3, zq3⟩ := (Blk.new w2 _ _).call k
    clear k cs2 fs2 ct2 ft2 cr2 fr2 cp2 fp2 B2
    go_wp2
    exact bodyPost_ret (v := zM.v) (by simp [results, Try.results54, go_sem, cr3, fr3, zM, zP]) rfl ⟨by rw [H.out], below_set7 B3 (by omega)⟩

/-- The signs are decided ahead. -/
def wM (a b c d : Pt) : Int := crossM (b.x - a.x) (b.y - a.y) (d.x - c.x) (d.y - c.y)
def sM (a b c d : Pt) : Int := crossM (c.x - a.x) (c.y - a.y) (d.x - c.x) (d.y - c.y)
def tM (a b c d : Pt) : Int := crossM (c.x - a.x) (c.y - a.y) (b.x - a.x) (b.y - a.y)
theorem cross_in {ax ay bx by' : Int} (h1 : In ax 128) (h2 : In ay 128) (h3 : In bx 128) (h4 : In by' 128) : In (crossM ax ay bx by') 32768 :=
  ((h1.mul h4).sub (h2.mul h3)).mono (by decide)
theorem way128 {a b : Int} (h : In a 64) (g : In b 64) : In (b - a) 128 := (g.sub h).mono (by decide)

end Go.Proofs.Ytnkcbephceollaa
