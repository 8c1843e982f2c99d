import Derived.Test.YtnkcbephceollaaQ7
namespace Go.Proofs.Ytnkcbephceollaa
open Go.RowKit
set_option linter.unusedSimpArgs false
set_option linter.unusedVariables false

theorem gr_way {a b : Int} (h : In a 64) (g : In b 64) : In (b - a) 4194304 := (g.sub h).mono (by decide)

set_option maxHeartbeats 1000000 in
theorem meetParallel_any (a b c d : Pt) (w : World) (ha : Gr a) (hb : Gr b) (hc : Gr c) (hd : Gr d) :
    Calls Try.prog 54 #[sg a b, sg c d] w fun e w' => e = .returned (parM a b c d).v ∧ Below w.heap.size w w' := by
  by_cases h : crossM (b.x - a.x) (b.y - a.y) (c.x - a.x) (c.y - a.y) = 0
  · have H : Hid (parM a b c d = lineM a b c d) := if_neg (by simpa using h)
    have h' : (crossM (b.x - a.x) (b.y - a.y) (c.x - a.x) (c.y - a.y) != 0) = false := by simpa using h
    clear h
    go_enter Try.func54, Try.ntmps54
    go_wp2_with fail
    refine (wayFrom_any a b _ ha.gd hb.gd).mono ?_
    rintro e w1 ⟨rfl, k⟩
    have B1 := bvia (below3 _ _ _ _) k
    obtain ⟨cs1, fs1, zs1⟩ := (((Blk.new w _ _).alloc _).alloc _).call k
    obtain ⟨ct1, ft1, zt1⟩ := ((Blk.at (w.heap.size + 1) (by simp)).alloc _).call k
    obtain ⟨cr1, fr1, zr1⟩ := (Blk.at (w.heap.size + 1 + 1) (by simp)).call k
    clear k
    go_wp2_with fail
    refine (wayFrom_any a c _ ha.gd hc.gd).mono ?_
    rintro e w2 ⟨rfl, k⟩
    have B2 := bvia (B1.alloc B1.size _) k
    obtain ⟨cs2, fs2, zs2⟩ := ((Blk.mk cs1 fs1 zs1).alloc _).call k
    obtain ⟨ct2, ft2, zt2⟩ := ((Blk.mk ct1 ft1 zt1).alloc _).call k
    obtain ⟨cr2, fr2, zr2⟩ := ((Blk.mk cr1 fr1 zr1).alloc _).call k
    obtain ⟨cp2, fp2, zp2⟩ := (Blk.new w1 _ _).call k
    clear k cs1 fs1 ct1 ft1 cr1 fr1 B1
    go_wp2_with fail
    refine (cross_any _ _ _ _ _ (gr_way ha.x hb.x) (gr_way ha.y hb.y) (gr_way ha.x hc.x) (gr_way ha.y hc.y)).mono ?_
    rintro e w3 ⟨rfl, k⟩
    have B3 := bvia (B2.alloc B2.size _) k
    obtain ⟨cs3, fs3, zs3⟩ := ((Blk.mk cs2 fs2 zs2).alloc _).call k
    obtain ⟨ct3, ft3, zt3⟩ := ((Blk.mk ct2 ft2 zt2).alloc _).call k
    obtain ⟨cr3, fr3, zr3⟩ := ((Blk.mk cr2 fr2 zr2).alloc _).call k
    obtain ⟨cp3, fp3, zp3⟩ := ((Blk.mk cp2 fp2 zp2).alloc _).call k
    obtain ⟨cq3, fq3, zq3⟩ := (Blk.new w2 _ _).call k
    clear k cs2 fs2 ct2 ft2 cr2 fr2 cp2 fp2 B2
    go_wp2_with fail
    refine (meetOnLine_any a b c d _ ha hb hc hd).mono ?_
    rintro e w4 ⟨rfl, k⟩
    have B4 := bvia B3 k
    obtain ⟨cs4, fs4, zs4⟩ := (Blk.mk cs3 fs3 zs3).call k
    obtain ⟨ct4, ft4, zt4⟩ := (Blk.mk ct3 ft3 zt3).call k
    obtain ⟨cr4, fr4, zr4⟩ := (Blk.mk cr3 fr3 zr3).call k
    obtain ⟨cp4, fp4, zp4⟩ := (Blk.mk cp3 fp3 zp3).call k
    obtain ⟨cq4, fq4, zq4⟩ := (Blk.mk cq3 fq3 zq3).call k
    clear k cs3 fs3 ct3 ft3 cr3 fr3 cp3 fp3 cq3 fq3 B3
    go_wp2
    exact bodyPost_ret (v := (lineM a b c d).v) (by simp [results, Try.results54, go_sem, cr4, fr4]) rfl ⟨by rw [H.out], below_set7 B4 (by omega)⟩
  · have H : Hid (parM a b c d = zM) := if_pos h
    have h' : (crossM (b.x - a.x) (b.y - a.y) (c.x - a.x) (c.y - a.y) != 0) = true := by simpa using h
    clear h
    go_enter Try.func54, Try.ntmps54
    go_wp2_with fail
    refine (wayFrom_any a b _ ha.gd hb.gd).mono ?_
    rintro e w1 ⟨rfl, k⟩
    have B1 := bvia (below3 _ _ _ _) k
    obtain ⟨cs1, fs1, zs1⟩ := (((Blk.new w _ _).alloc _).alloc _).call k
    obtain ⟨ct1, ft1, zt1⟩ := ((Blk.at (w.heap.size + 1) (by simp)).alloc _).call k
    obtain ⟨cr1, fr1, zr1⟩ := (Blk.at (w.heap.size + 1 + 1) (by simp)).call k
    clear k
    go_wp2_with fail
    refine (wayFrom_any a c _ ha.gd hc.gd).mono ?_
    rintro e w2 ⟨rfl, k⟩
    have B2 := bvia (B1.alloc B1.size _) k
    obtain ⟨cs2, fs2, zs2⟩ := ((Blk.mk cs1 fs1 zs1).alloc _).call k
    obtain ⟨ct2, ft2, zt2⟩ := ((Blk.mk ct1 ft1 zt1).alloc _).call k
    obtain ⟨cr2, fr2, zr2⟩ := ((Blk.mk cr1 fr1 zr1).alloc _).call k
    obtain ⟨cp2, fp2, zp2⟩ := (Blk.new w1 _ _).call k
    clear k cs1 fs1 ct1 ft1 cr1 fr1 B1
    go_wp2_with fail
    refine (cross_any _ _ _ _ _ (gr_way ha.x hb.x) (gr_way ha.y hb.y) (gr_way ha.x hc.x) (gr_way ha.y hc.y)).mono ?_
    rintro e w3 ⟨rfl, k⟩
    have B3 := bvia (B2.alloc B2.size _) k
    obtain ⟨cs3, fs3, zs3⟩ := ((Blk.mk cs2 fs2 zs2).alloc _).call k
    obtain ⟨ct3, ft3, zt3⟩ := ((Blk.mk ct2 ft2 zt2).alloc _).call k
    obtain ⟨cr3, fr3, zr3⟩ := ((Blk.mk cr2 fr2 zr2).alloc _).call k
    obtain ⟨cp3, fp3, zp3⟩ := ((Blk.mk cp2 fp2 zp2).alloc _).call k
    obtain ⟨cq3, fq3, zq3⟩ := (Blk.new w2 _ _).call k
    clear k cs2 fs2 ct2 ft2 cr2 fr2 cp2 fp2 B2
    go_wp2
    exact bodyPost_ret (v := zM.v) (by simp [results, Try.results54, go_sem, cr3, fr3, zM, zP]) rfl ⟨by rw [H.out], below_set7 B3 (by omega)⟩

/-- The signs are decided ahead. -/
def wM (a b c d : Pt) : Int := crossM (b.x - a.x) (b.y - a.y) (d.x - c.x) (d.y - c.y)
def sM (a b c d : Pt) : Int := crossM (c.x - a.x) (c.y - a.y) (d.x - c.x) (d.y - c.y)
def tM (a b c d : Pt) : Int := crossM (c.x - a.x) (c.y - a.y) (b.x - a.x) (b.y - a.y)
theorem cross_in {ax ay bx by' : Int} (h1 : In ax 128) (h2 : In ay 128) (h3 : In bx 128) (h4 : In by' 128) : In (crossM ax ay bx by') 32768 :=
  ((h1.mul h4).sub (h2.mul h3)).mono (by decide)
theorem way128 {a b : Int} (h : In a 64) (g : In b 64) : In (b - a) 128 := (g.sub h).mono (by decide)

end Go.Proofs.Ytnkcbephceollaa
