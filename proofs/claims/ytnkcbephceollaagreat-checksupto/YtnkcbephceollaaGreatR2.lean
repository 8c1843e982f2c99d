import Derived.Test.YtnkcbephceollaaGreatR1
import Derived.Test.YtnkcbephceollaaGreatM5
namespace Go.Proofs.YtnkcbephceollaaGreat
open Go.RowKit
set_option linter.unusedSimpArgs false
set_option linter.unusedVariables false

theorem rbelow4 (w : World) (a b c d : Obj) : Below w.heap.size w ((((w.alloc a).alloc b).alloc c).alloc d) :=
  ((((Below.refl _ _).alloc (Nat.le_refl _) _).alloc (by simp) _).alloc (by simp; omega) _).alloc (by simp; omega) _
theorem below_set33 {w w1 : World} {b c : Nat} {x y z x' y' z' : Value} (h : Below w.heap.size w w1) (hb : w.heap.size ≤ b) (hc : w.heap.size ≤ c) :
    Below w.heap.size w ((((((w1.setCell ⟨b, 0, none⟩ x).setCell ⟨b, 1, none⟩ y).setCell ⟨b, 2, none⟩ z).setCell ⟨c, 0, none⟩ x').setCell ⟨c, 1, none⟩ y').setCell ⟨c, 2, none⟩ z') :=
  below_set3 (o := 0) (below_set3 (o := 0) h hb) hc

set_option maxHeartbeats 1000000 in
theorem rends_any (a b : Pt) (w : World) (ha : Gd a) (hb : Gd b) :
    Calls Tryz.prog 74 #[sg a b] w fun e w' => e = .returned (.tuple #[(loM a b).v, (hiM a b).v]) ∧ Below w.heap.size w w' := by
  by_cases h : befB b a = true
  · have H1 : Hid (loM a b = b) := if_pos h
    have H2 : Hid (hiM a b = a) := if_pos h
    go_enter Tryz.func74, Tryz.ntmps74
    go_wp2_with fail
    refine (rbefore_any b a _ hb ha).mono ?_
    rintro e w1 ⟨rfl, k⟩
    have B1 := bvia (below3 _ _ _ _) k
    obtain ⟨ce1, fe1, ze1⟩ := (((Blk.new w _ _).alloc _).alloc _).call k
    obtain ⟨cx1, fx1, zx1⟩ := ((Blk.at (w.heap.size + 1) (by simp)).alloc _).call k
    obtain ⟨cy1, fy1, zy1⟩ := (Blk.at (w.heap.size + 1 + 1) (by simp)).call k
    clear k
    rw [h]
    go_wp2
    go_region
    go_wp2
    exact bodyPost_ret (v := .tuple #[b.v, a.v]) (by simp [results, Tryz.results74, go_sem, cx1, fx1, cy1, fy1]) rfl ⟨by rw [H1.out, H2.out], (below_set33 B1 (by omega) (by omega)).drew⟩
  · have H1 : Hid (loM a b = a) := if_neg h
    have H2 : Hid (hiM a b = b) := if_neg h
    have h : befB b a = false := by simpa using h
    go_enter Tryz.func74, Tryz.ntmps74
    go_wp2_with fail
    refine (rbefore_any b a _ hb ha).mono ?_
    rintro e w1 ⟨rfl, k⟩
    have B1 := bvia (below3 _ _ _ _) k
    obtain ⟨ce1, fe1, ze1⟩ := (((Blk.new w _ _).alloc _).alloc _).call k
    obtain ⟨cx1, fx1, zx1⟩ := ((Blk.at (w.heap.size + 1) (by simp)).alloc _).call k
    obtain ⟨cy1, fy1, zy1⟩ := (Blk.at (w.heap.size + 1 + 1) (by simp)).call k
    clear k
    rw [h]
    go_wp2
    go_region
    go_wp2
    exact bodyPost_ret (v := .tuple #[a.v, b.v]) (by simp [results, Tryz.results74, go_sem, cx1, fx1, cy1, fy1]) rfl ⟨by rw [H1.out, H2.out], (below_set33 B1 (by omega) (by omega)).drew⟩

set_option maxHeartbeats 1000000 in
theorem rwithin_any (p a b : Pt) (w : World) (hp : Gd p) (ha : Gd a) (hb : Gd b) :
    Calls Tryz.prog 71 #[p.v, sg a b] w fun e w' => e = .returned (.bool (withB p a b)) ∧ Below w.heap.size w w' := by
  go_enter Tryz.func71, Tryz.ntmps71
  go_wp2_with fail
  refine (rends_any a b _ ha hb).mono ?_
  rintro e w1 ⟨rfl, k⟩
  have B1 := bvia (((Below.refl _ _).alloc (Nat.le_refl _) _).alloc (by simp) _) k
  obtain ⟨cp1, fp1, zp1⟩ := ((Blk.new w _ _).alloc _).call k
  obtain ⟨ce1, fe1, ze1⟩ := (Blk.at (w.heap.size + 1) (by simp)).call k
  clear k
  go_wp2_with fail
  refine (rbefore_any p (loM a b) _ hp (loM_gd ha hb)).mono ?_
  rintro e w2 ⟨rfl, k⟩
  have B2 := bvia ((B1.alloc B1.size _).alloc (by have := B1.size; simp; omega) _) k
  obtain ⟨cp2, fp2, zp2⟩ := (((Blk.mk cp1 fp1 zp1).alloc _).alloc _).call k
  obtain ⟨cl2, fl2, zl2⟩ := ((Blk.new w1 _ _).alloc _).call k
  obtain ⟨ch2, fh2, zh2⟩ := (Blk.at (w1.heap.size + 1) (by simp)).call k
  clear k cp1 fp1 ce1 fe1 B1
  go_wp2_with fail
  refine (rbefore_any (hiM a b) p _ (hiM_gd ha hb) hp).mono ?_
  rintro e w3 ⟨rfl, k⟩
  have B3 := bvia B2 k
  obtain ⟨cp3, fp3, zp3⟩ := (Blk.mk cp2 fp2 zp2).call k
  obtain ⟨cl3, fl3, zl3⟩ := (Blk.mk cl2 fl2 zl2).call k
  obtain ⟨ch3, fh3, zh3⟩ := (Blk.mk ch2 fh2 zh2).call k
  clear k cp2 fp2 cl2 fl2 ch2 fh2 B2
  cases h1 : befB p (loM a b) <;> cases h2 : befB (hiM a b) p
  all_goals (go_wp2; go_ret; exact ⟨ret_bool (by simp [withB, h1, h2]), B3⟩)

set_option maxHeartbeats 2000000 in
theorem rcross_neg (a b c d : Pt) (w : World) (ha : Gr a) (hb : Gr b) (hc : Gr c) (hd : Gr d) (h : xD a b c d < 0) :
    Calls Tryz.prog 70 #[sg a b, sg c d] w fun e w' => e = .returned (Pt.v ⟨-(xX a b c d), -(xY a b c d), -(xD a b c d)⟩) ∧ Below w.heap.size w w' := by
  obtain ⟨⟨r0, r1⟩, ⟨r2, r3⟩, r4⟩ := And.intro ha.x (And.intro ha.y trivial)
  obtain ⟨⟨r5, r6⟩, ⟨r7, r8⟩, r9⟩ := And.intro hb.x (And.intro hb.y trivial)
  obtain ⟨⟨q0, q1⟩, ⟨q2, q3⟩, q4⟩ := And.intro hc.x (And.intro hc.y trivial)
  obtain ⟨⟨q5, q6⟩, ⟨q7, q8⟩, q9⟩ := And.intro hd.x (And.intro hd.y trivial)
  obtain ⟨l0, u0⟩ := ha.x.mul hb.y
  obtain ⟨l1, u1⟩ := hb.x.mul ha.y
  obtain ⟨l2, u2⟩ := hc.x.mul hd.y
  obtain ⟨l3, u3⟩ := hd.x.mul hc.y
  obtain ⟨m0, n0⟩ := (hb.x.sub ha.x).mul ((hc.x.mul hd.y).sub (hd.x.mul hc.y))
  obtain ⟨m1, n1⟩ := ((ha.x.mul hb.y).sub (hb.x.mul ha.y)).mul (hd.x.sub hc.x)
  obtain ⟨m2, n2⟩ := ((ha.x.mul hb.y).sub (hb.x.mul ha.y)).mul (hc.y.sub hd.y)
  obtain ⟨m3, n3⟩ := (ha.y.sub hb.y).mul ((hc.x.mul hd.y).sub (hd.x.mul hc.y))
  obtain ⟨m4, n4⟩ := (ha.y.sub hb.y).mul (hd.x.sub hc.x)
  obtain ⟨m5, n5⟩ := (hb.x.sub ha.x).mul (hc.y.sub hd.y)
  unfold xD at h
  go_enter Tryz.func70, Tryz.ntmps70
  go_wp2
  exact bodyPost_ret (v := Pt.v ⟨-(xX a b c d), -(xY a b c d), -(xD a b c d)⟩) (by simp [results, Tryz.results70, go_sem, xX, xY, xD]) rfl ⟨rfl, rbelow4 _ _ _ _ _⟩

set_option maxHeartbeats 2000000 in
theorem rcross_pos (a b c d : Pt) (w : World) (ha : Gr a) (hb : Gr b) (hc : Gr c) (hd : Gr d) (h : 0 ≤ xD a b c d) :
    Calls Tryz.prog 70 #[sg a b, sg c d] w fun e w' => e = .returned (Pt.v ⟨xX a b c d, xY a b c d, xD a b c d⟩) ∧ Below w.heap.size w w' := by
  obtain ⟨⟨r0, r1⟩, ⟨r2, r3⟩, r4⟩ := And.intro ha.x (And.intro ha.y trivial)
  obtain ⟨⟨r5, r6⟩, ⟨r7, r8⟩, r9⟩ := And.intro hb.x (And.intro hb.y trivial)
  obtain ⟨⟨q0, q1⟩, ⟨q2, q3⟩, q4⟩ := And.intro hc.x (And.intro hc.y trivial)
  obtain ⟨⟨q5, q6⟩, ⟨q7, q8⟩, q9⟩ := And.intro hd.x (And.intro hd.y trivial)
  obtain ⟨l0, u0⟩ := ha.x.mul hb.y
  obtain ⟨l1, u1⟩ := hb.x.mul ha.y
  obtain ⟨l2, u2⟩ := hc.x.mul hd.y
  obtain ⟨l3, u3⟩ := hd.x.mul hc.y
  obtain ⟨m0, n0⟩ := (hb.x.sub ha.x).mul ((hc.x.mul hd.y).sub (hd.x.mul hc.y))
  obtain ⟨m1, n1⟩ := ((ha.x.mul hb.y).sub (hb.x.mul ha.y)).mul (hd.x.sub hc.x)
  obtain ⟨m2, n2⟩ := ((ha.x.mul hb.y).sub (hb.x.mul ha.y)).mul (hc.y.sub hd.y)
  obtain ⟨m3, n3⟩ := (ha.y.sub hb.y).mul ((hc.x.mul hd.y).sub (hd.x.mul hc.y))
  obtain ⟨m4, n4⟩ := (ha.y.sub hb.y).mul (hd.x.sub hc.x)
  obtain ⟨m5, n5⟩ := (hb.x.sub ha.x).mul (hc.y.sub hd.y)
  unfold xD at h
  go_enter Tryz.func70, Tryz.ntmps70
  go_wp2
  exact bodyPost_ret (v := Pt.v ⟨xX a b c d, xY a b c d, xD a b c d⟩) (by simp [results, Tryz.results70, go_sem, xX, xY, xD]) rfl ⟨rfl, rbelow4 _ _ _ _ _⟩

end Go.Proofs.YtnkcbephceollaaGreat
