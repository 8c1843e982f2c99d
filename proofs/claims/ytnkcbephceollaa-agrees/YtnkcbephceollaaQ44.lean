import Derived.Test.YtnkcbephceollaaQ43
import Derived.OpenShut
import Derived.Deep.Cut
import Derived.Deep.CutBlock
import Derived.Deep.DeepCutAuto
import Derived.Deep.RegionHeld3
namespace Go.Proofs.Ytnkcbephceollaa
open Go.RowKit
set_option linter.unusedSimpArgs false
set_option linter.unusedVariables false

theorem kbelow4 (w : World) (a b c d : Obj) : Below w.heap.size w ((((w.alloc a).alloc b).alloc c).alloc d) :=
  ((((Below.refl _ _).alloc (Nat.le_refl _) _).alloc (by simp) _).alloc (by simp; omega) _).alloc (by simp; omega) _

theorem below_set33k {w w1 : World} {b c : Nat} {x y z x' y' z' : Value} (h : Below w.heap.size w w1) (hb : w.heap.size ≤ b) (hc : w.heap.size ≤ c) :
    Below w.heap.size w ((((((w1.setCell ⟨b, 0, none⟩ x).setCell ⟨b, 1, none⟩ y).setCell ⟨b, 2, none⟩ z).setCell ⟨c, 0, none⟩ x').setCell ⟨c, 1, none⟩ y').setCell ⟨c, 2, none⟩ z') :=
  below_set3 (o := 0) (below_set3 (o := 0) h hb) hc

theorem ov_at {a b c d : Pt} (m0 : detM a b c = 0) (n0 : detM a b d = 0) : ovB (a, b) (c, d) = (befB (if befB b a = true then b else a) (if befB d c = true then c else d) && befB (if befB d c = true then d else c) (if befB b a = true then a else b)) := by
  unfold ovB; simp [m0, n0]
theorem ov_off {a b c d : Pt} (h : detM a b c ≠ 0 ∨ detM a b d ≠ 0) : ovB (a, b) (c, d) = false := by
  unfold ovB; rcases h with h | h <;> simp [h]
theorem pick_lo (a b : Pt) : ∃ lo hi, ((befB b a = true ∧ lo = b ∧ hi = a) ∨ (befB b a = false ∧ lo = a ∧ hi = b)) ∧ lo = (if befB b a = true then b else a) ∧ hi = (if befB b a = true then a else b) := by
  refine ⟨_, _, ?_, rfl, rfl⟩
  cases h : befB b a
  · exact .inr ⟨rfl, rfl, rfl⟩
  · exact .inl ⟨rfl, rfl, rfl⟩
set_option maxRecDepth 100000 in
set_option maxHeartbeats 4000000 in
theorem overlap_any (a b c d : Pt) (w : World) (ha : Gd a) (hb : Gd b) (hc : Gd c) (hd : Gd d) :
    Calls Try.prog 30 #[a.v, b.v, c.v, d.v] w fun e w' => e = .returned (.bool (ovB (a, b) (c, d))) ∧ Below w.heap.size w w' := by
  go_enter Try.func30, Try.ntmps30
  go_wp2_with fail
  refine (det_any a b c _ ha hb hc).mono ?_
  rintro e w1 ⟨rfl, k⟩
  have B1 := bvia (kbelow4 _ _ _ _ _) k
  obtain ⟨ca1, fa1, za1⟩ := ((((Blk.new w _ _).alloc _).alloc _).alloc _).call k
  obtain ⟨cb1, fb1, zb1⟩ := (((Blk.at (w.heap.size + 1) (by simp)).alloc _).alloc _).call k
  obtain ⟨cc1, fc1, zc1⟩ := ((Blk.at (w.heap.size + 1 + 1) (by simp)).alloc _).call k
  obtain ⟨cd1, fd1, zd1⟩ := (Blk.at (w.heap.size + 1 + 1 + 1) (by simp)).call k
  clear k
  go_wp2_with fail
  refine (det_any a b d _ ha hb hd).mono ?_
  rintro e w2 ⟨rfl, k⟩
  have B2 := bvia B1 k
  obtain ⟨ca2, fa2, za2⟩ := (Blk.mk ca1 fa1 za1).call k
  obtain ⟨cb2, fb2, zb2⟩ := (Blk.mk cb1 fb1 zb1).call k
  obtain ⟨cc2, fc2, zc2⟩ := (Blk.mk cc1 fc1 zc1).call k
  obtain ⟨cd2, fd2, zd2⟩ := (Blk.mk cd1 fd1 zd1).call k
  clear k B1 ca1 fa1 za1 cb1 fb1 zb1 cc1 fc1 zc1 cd1 fd1 zd1
  by_cases m0 : detM a b c = 0
  · by_cases n0 : detM a b d = 0
    · obtain ⟨lo, hi, HL, el, eh⟩ := pick_lo a b
      obtain ⟨fr, tq, HF, ef, et⟩ := pick_lo c d
      have glo : Gd lo := by rcases HL with ⟨_, r, _⟩ | ⟨_, r, _⟩ <;> rw [r] <;> assumption
      have ghi : Gd hi := by rcases HL with ⟨_, _, r⟩ | ⟨_, _, r⟩ <;> rw [r] <;> assumption
      have gfr : Gd fr := by rcases HF with ⟨_, r, _⟩ | ⟨_, r, _⟩ <;> rw [r] <;> assumption
      have gto : Gd tq := by rcases HF with ⟨_, _, r⟩ | ⟨_, _, r⟩ <;> rw [r] <;> assumption
      have R := hide (show ovB (a, b) (c, d) = (befB lo tq && befB fr hi) by rw [ov_at m0 n0, el, eh, ef, et])
      have HL := hide HL
      have HF := hide HF
      have m1 : (detM a b c != 0) = false := by simp [m0]
      have n1 : (detM a b d != 0) = false := by simp [n0]
      clear m0 n0 el eh ef et
      go_upto_region 5 with fail
      go_cut [11, 12] (fun lv hv w' => ∃ x y : Nat, lv = .pointer (some ⟨x, 0, none⟩) ∧ hv = .pointer (some ⟨y, 0, none⟩) ∧ x ≠ y ∧ w.heap.size + 3 < x ∧ w.heap.size + 3 < y ∧ Blk w' w.heap.size #[.int .i64 a.x, .int .i64 a.y, .int .i64 a.d] ∧ Blk w' (w.heap.size + 1) #[.int .i64 b.x, .int .i64 b.y, .int .i64 b.d] ∧ Blk w' (w.heap.size + 1 + 1) #[.int .i64 c.x, .int .i64 c.y, .int .i64 c.d] ∧ Blk w' (w.heap.size + 1 + 1 + 1) #[.int .i64 d.x, .int .i64 d.y, .int .i64 d.d] ∧ Blk w' x #[.int .i64 a.x, .int .i64 a.y, .int .i64 a.d] ∧ Blk w' y #[.int .i64 b.x, .int .i64 b.y, .int .i64 b.d] ∧ Below w.heap.size w w')
      case first =>
        have hz4 := B2.size
        clear R HL HF
        go_region
        all_goals
          go_wp2_with fail
          go_meet
          first
            | exact ⟨w2.heap.size, (w2.heap.size + 1), rfl, rfl, by omega, by omega, by omega, (((Blk.mk ca2 fa2 za2).alloc _).alloc _).drew, (((Blk.mk cb2 fb2 zb2).alloc _).alloc _).drew, (((Blk.mk cc2 fc2 zc2).alloc _).alloc _).drew, (((Blk.mk cd2 fd2 zd2).alloc _).alloc _).drew, ((Blk.new w2 _ _).alloc _).drew, (Blk.at (w2.heap.size + 1) (by simp)).drew, ((B2.alloc B2.size _).alloc (by simp; omega) _).drew⟩
            | exact ⟨(w2.heap.size + 1), w2.heap.size, rfl, rfl, by omega, by omega, by omega, (((Blk.mk ca2 fa2 za2).alloc _).alloc _).drew, (((Blk.mk cb2 fb2 zb2).alloc _).alloc _).drew, (((Blk.mk cc2 fc2 zc2).alloc _).alloc _).drew, (((Blk.mk cd2 fd2 zd2).alloc _).alloc _).drew, (Blk.at (w2.heap.size + 1) (by simp)).drew, ((Blk.new w2 _ _).alloc _).drew, ((B2.alloc B2.size _).alloc (by simp; omega) _).drew⟩
      case rest =>
        clear B2 ca2 fa2 za2 cb2 fb2 zb2 cc2 fc2 zc2 cd2 fd2 zd2
        obtain ⟨x, y, rfl, rfl, nxy, gx, gy, ⟨ca2, fa2, za2⟩, ⟨cb2, fb2, zb2⟩, ⟨cc2, fc2, zc2⟩, ⟨cd2, fd2, zd2⟩, ⟨cx2, fx2, zx2⟩, ⟨cy2, fy2, zy2⟩, B2⟩ := hcut
        go_wp2_with fail
        refine (before_any b a _ hb ha).mono ?_
        rintro e w3 ⟨rfl, k⟩
        have B3 := bvia B2 k
        obtain ⟨ca3, fa3, za3⟩ := (Blk.mk ca2 fa2 za2).call k
        obtain ⟨cb3, fb3, zb3⟩ := (Blk.mk cb2 fb2 zb2).call k
        obtain ⟨cc3, fc3, zc3⟩ := (Blk.mk cc2 fc2 zc2).call k
        obtain ⟨cd3, fd3, zd3⟩ := (Blk.mk cd2 fd2 zd2).call k
        obtain ⟨cx3, fx3, zx3⟩ := (Blk.mk cx2 fx2 zx2).call k
        obtain ⟨cy3, fy3, zy3⟩ := (Blk.mk cy2 fy2 zy2).call k
        clear k B2 ca2 fa2 za2 cb2 fb2 zb2 cc2 fc2 zc2 cd2 fd2 zd2 cx2 fx2 zx2 cy2 fy2 zy2
        go_upto_if 38 with fail
        go_cut [13] (fun _ w' => Blk w' x #[.int .i64 lo.x, .int .i64 lo.y, .int .i64 lo.d] ∧ Blk w' y #[.int .i64 hi.x, .int .i64 hi.y, .int .i64 hi.d] ∧ Blk w' (w.heap.size + 1 + 1) #[.int .i64 c.x, .int .i64 c.y, .int .i64 c.d] ∧ Blk w' (w.heap.size + 1 + 1 + 1) #[.int .i64 d.x, .int .i64 d.y, .int .i64 d.d] ∧ Below w.heap.size w w')
        case first =>
          clear R HF
          rcases HL.out with ⟨hsw, rfl, rfl⟩ | ⟨hsw, rfl, rfl⟩
          · rw [hsw]
            clear HL hsw
            go_wp2_with fail
            go_region
            all_goals
              go_wp2_with fail
              go_meet
              first
                | exact ⟨((Blk.mk cx3 fx3 zx3).put3.off3 nxy _ _ _).drew, ((Blk.mk cy3 fy3 zy3).off3 (Ne.symm nxy) _ _ _).put3.drew, (((Blk.mk cc3 fc3 zc3).off3 (by omega) _ _ _).off3 (by omega) _ _ _).drew, (((Blk.mk cd3 fd3 zd3).off3 (by omega) _ _ _).off3 (by omega) _ _ _).drew, (below_set33k B3 (by omega) (by omega)).drew⟩
                | exact ⟨((Blk.mk cx3 fx3 zx3).off3 nxy _ _ _).put3.drew, ((Blk.mk cy3 fy3 zy3).put3.off3 (Ne.symm nxy) _ _ _).drew, (((Blk.mk cc3 fc3 zc3).off3 (by omega) _ _ _).off3 (by omega) _ _ _).drew, (((Blk.mk cd3 fd3 zd3).off3 (by omega) _ _ _).off3 (by omega) _ _ _).drew, (below_set33k B3 (by omega) (by omega)).drew⟩
          · rw [hsw]
            clear HL hsw
            go_wp2_with fail
            go_meet
            exact ⟨Blk.mk cx3 fx3 zx3, Blk.mk cy3 fy3 zy3, Blk.mk cc3 fc3 zc3, Blk.mk cd3 fd3 zd3, B3⟩
        case rest =>
          clear B3 ca3 fa3 za3 cb3 fb3 zb3 cc3 fc3 zc3 cd3 fd3 zd3 cx3 fx3 zx3 cy3 fy3 zy3 HL
          rename World => w4
          obtain ⟨⟨cx4, fx4, zx4⟩, ⟨cy4, fy4, zy4⟩, ⟨cc4, fc4, zc4⟩, ⟨cd4, fd4, zd4⟩, B4⟩ := hcut
          go_upto_region 9 with fail
          go_cut [14, 15] (fun fv tv w' => ∃ z t : Nat, fv = .pointer (some ⟨z, 0, none⟩) ∧ tv = .pointer (some ⟨t, 0, none⟩) ∧ z ≠ t ∧ w.heap.size + 3 < z ∧ w.heap.size + 3 < t ∧ x ≠ z ∧ x ≠ t ∧ y ≠ z ∧ y ≠ t ∧ Blk w' x #[.int .i64 lo.x, .int .i64 lo.y, .int .i64 lo.d] ∧ Blk w' y #[.int .i64 hi.x, .int .i64 hi.y, .int .i64 hi.d] ∧ Blk w' (w.heap.size + 1 + 1) #[.int .i64 c.x, .int .i64 c.y, .int .i64 c.d] ∧ Blk w' (w.heap.size + 1 + 1 + 1) #[.int .i64 d.x, .int .i64 d.y, .int .i64 d.d] ∧ Blk w' z #[.int .i64 c.x, .int .i64 c.y, .int .i64 c.d] ∧ Blk w' t #[.int .i64 d.x, .int .i64 d.y, .int .i64 d.d] ∧ Below w.heap.size w w')
          case first =>
            have hz4 := B4.size
            have y1 : ¬ w.heap.size + 1 = w4.heap.size := by omega
            have y2 : ¬ w.heap.size + 1 + 1 = w4.heap.size := by omega
            have y3 : ¬ w.heap.size + 1 + 1 + 1 = w4.heap.size := by omega
            have y4 : w.heap.size + 1 < w4.heap.size := by omega
            clear R HF
            go_region
            all_goals
              go_wp2_with fail
              go_meet
              first
                | exact ⟨w4.heap.size, (w4.heap.size + 1), rfl, rfl, by omega, by omega, by omega, by omega, by omega, by omega, by omega, (((Blk.mk cx4 fx4 zx4).alloc _).alloc _).drew, (((Blk.mk cy4 fy4 zy4).alloc _).alloc _).drew, (((Blk.mk cc4 fc4 zc4).alloc _).alloc _).drew, (((Blk.mk cd4 fd4 zd4).alloc _).alloc _).drew, ((Blk.new w4 _ _).alloc _).drew, (Blk.at (w4.heap.size + 1) (by simp)).drew, ((B4.alloc B4.size _).alloc (by simp; omega) _).drew⟩
                | exact ⟨(w4.heap.size + 1), w4.heap.size, rfl, rfl, by omega, by omega, by omega, by omega, by omega, by omega, by omega, (((Blk.mk cx4 fx4 zx4).alloc _).alloc _).drew, (((Blk.mk cy4 fy4 zy4).alloc _).alloc _).drew, (((Blk.mk cc4 fc4 zc4).alloc _).alloc _).drew, (((Blk.mk cd4 fd4 zd4).alloc _).alloc _).drew, (Blk.at (w4.heap.size + 1) (by simp)).drew, ((Blk.new w4 _ _).alloc _).drew, ((B4.alloc B4.size _).alloc (by simp; omega) _).drew⟩
          case rest =>
            clear B4 cc4 fc4 zc4 cd4 fd4 zd4 cx4 fx4 zx4 cy4 fy4 zy4
            rename World => w5
            obtain ⟨z, t, rfl, rfl, nzt, gz, gt, nxz, nxt, nyz, nyt, ⟨cx5, fx5, zx5⟩, ⟨cy5, fy5, zy5⟩, ⟨cc5, fc5, zc5⟩, ⟨cd5, fd5, zd5⟩, ⟨cz5, fz5, zz5⟩, ⟨ct5, ft5, zt5⟩, B5⟩ := hcut
            go_wp2_with fail
            refine (before_any d c _ hd hc).mono ?_
            rintro e w6 ⟨rfl, k⟩
            have B6 := bvia B5 k
            obtain ⟨cx6, fx6, zx6⟩ := (Blk.mk cx5 fx5 zx5).call k
            obtain ⟨cy6, fy6, zy6⟩ := (Blk.mk cy5 fy5 zy5).call k
            obtain ⟨cc6, fc6, zc6⟩ := (Blk.mk cc5 fc5 zc5).call k
            obtain ⟨cd6, fd6, zd6⟩ := (Blk.mk cd5 fd5 zd5).call k
            obtain ⟨cz6, fz6, zz6⟩ := (Blk.mk cz5 fz5 zz5).call k
            obtain ⟨ct6, ft6, zt6⟩ := (Blk.mk ct5 ft5 zt5).call k
            clear k B5 cx5 fx5 zx5 cy5 fy5 zy5 cc5 fc5 zc5 cd5 fd5 zd5 cz5 fz5 zz5 ct5 ft5 zt5
            go_upto_if 46 with fail
            go_cut [16] (fun _ w' => Blk w' x #[.int .i64 lo.x, .int .i64 lo.y, .int .i64 lo.d] ∧ Blk w' y #[.int .i64 hi.x, .int .i64 hi.y, .int .i64 hi.d] ∧ Blk w' z #[.int .i64 fr.x, .int .i64 fr.y, .int .i64 fr.d] ∧ Blk w' t #[.int .i64 tq.x, .int .i64 tq.y, .int .i64 tq.d] ∧ Below w.heap.size w w')
            case first =>
              clear R
              rcases HF.out with ⟨hsw, rfl, rfl⟩ | ⟨hsw, rfl, rfl⟩
              · rw [hsw]
                clear HF hsw
                go_wp2_with fail
                go_region
                all_goals
                  go_wp2_with fail
                  go_meet
                  first
                    | exact ⟨(((Blk.mk cx6 fx6 zx6).off3 nxz _ _ _).off3 nxt _ _ _).drew, (((Blk.mk cy6 fy6 zy6).off3 nyz _ _ _).off3 nyt _ _ _).drew, ((Blk.mk cz6 fz6 zz6).put3.off3 nzt _ _ _).drew, ((Blk.mk ct6 ft6 zt6).off3 (Ne.symm nzt) _ _ _).put3.drew, (below_set33k B6 (by omega) (by omega)).drew⟩
                    | exact ⟨(((Blk.mk cx6 fx6 zx6).off3 nxt _ _ _).off3 nxz _ _ _).drew, (((Blk.mk cy6 fy6 zy6).off3 nyt _ _ _).off3 nyz _ _ _).drew, ((Blk.mk cz6 fz6 zz6).off3 nzt _ _ _).put3.drew, ((Blk.mk ct6 ft6 zt6).put3.off3 (Ne.symm nzt) _ _ _).drew, (below_set33k B6 (by omega) (by omega)).drew⟩
              · rw [hsw]
                clear HF hsw
                go_wp2_with fail
                go_meet
                exact ⟨Blk.mk cx6 fx6 zx6, Blk.mk cy6 fy6 zy6, Blk.mk cz6 fz6 zz6, Blk.mk ct6 ft6 zt6, B6⟩
            case rest =>
              clear B6 cx6 fx6 zx6 cy6 fy6 zy6 cc6 fc6 zc6 cd6 fd6 zd6 cz6 fz6 zz6 ct6 ft6 zt6 HF
              rename World => w7
              obtain ⟨⟨cx7, fx7, zx7⟩, ⟨cy7, fy7, zy7⟩, ⟨cz7, fz7, zz7⟩, ⟨ct7, ft7, zt7⟩, B7⟩ := hcut
              go_wp2_with fail
              refine (before_any lo tq _ glo gto).mono ?_
              rintro e w8 ⟨rfl, k⟩
              have B8 := bvia B7 k
              obtain ⟨cx8, fx8, zx8⟩ := (Blk.mk cx7 fx7 zx7).call k
              obtain ⟨cy8, fy8, zy8⟩ := (Blk.mk cy7 fy7 zy7).call k
              obtain ⟨cz8, fz8, zz8⟩ := (Blk.mk cz7 fz7 zz7).call k
              obtain ⟨ct8, ft8, zt8⟩ := (Blk.mk ct7 ft7 zt7).call k
              clear k B7 cx7 fx7 zx7 cy7 fy7 zy7 cz7 fz7 zz7 ct7 ft7 zt7
              go_wp2_with fail
              refine (before_any fr hi _ gfr ghi).mono ?_
              rintro e w9 ⟨rfl, k⟩
              have B9 := bvia B8 k
              clear k B8 cx8 fx8 zx8 cy8 fy8 zy8 cz8 fz8 zz8 ct8 ft8 zt8
              by_cases q : befB lo tq = true
              · rw [q] at R ⊢
                go_wp2
                go_ret
                exact ⟨by rw [R.out]; rfl, B9⟩
              · have q' : befB lo tq = false := by simpa using q
                rw [q'] at R ⊢
                go_wp2
                go_ret
                exact ⟨by rw [R.out]; rfl, B9⟩
    · have R := hide (ov_off (a := a) (b := b) (c := c) (d := d) (.inr n0))
      have m1 : (detM a b c != 0) = false := by simp [m0]
      have n1 : (detM a b d != 0) = true := by simp [n0]
      clear m0 n0
      go_wp2
      go_ret
      exact ⟨ret_bool R.out.symm, B2⟩
  · have R := hide (ov_off (a := a) (b := b) (c := c) (d := d) (.inl m0))
    have m1 : (detM a b c != 0) = true := by simp [m0]
    clear m0
    go_wp2
    go_ret
    exact ⟨ret_bool R.out.symm, B2⟩
end Go.Proofs.Ytnkcbephceollaa
namespace Go.Proofs.Ytnkcbephceollaa
open Go.RowKit
set_option linter.unusedSimpArgs false
set_option linter.unusedVariables false

set_option maxRecDepth 100000 in
set_option maxHeartbeats 4000000 in
theorem ring_yes (v : Value) (r : List Pt) (w : World) (h : RingAt w v r) (hF : Fm r) (hs : r.length ≤ 1000000) :
    Calls Try.prog 28 #[v] w fun e w' => e = .returned (.bool true) ∧ Below w.heap.size w w' := by
  obtain ⟨a, cap, rfl, h1, h2, h3⟩ := h
  unfold maxLen at h2
  have h30 := hF.three
  have h31 : ¬ (r.length : Int) < 3 := by omega
  have H3 := hide h3
  have HF := hide hF
  clear h3 hF
  go_enter Try.func28, Try.ntmps28
  go_wp2_with fail
  go_loopw [4, 5, 6, 7] (fun i _ _ _ w' => ∃ k : Nat, i = .int .i64 k ∧ k ≤ r.length ∧ Below w.heap.size w w') (fun i _ _ _ _ => r.length - (intOf i).toNat)
  case atStart => exact ⟨0, rfl, Nat.zero_le _, Below.refl _ _⟩
  case round =>
    obtain ⟨k, rfl, hk, hbel⟩ := hrel
    by_cases hlt : k < r.length
    · have hml1 : (k + r.length - 1) % r.length < r.length := Nat.mod_lt _ (by omega)
      have hml2 : (k + 1) % r.length < r.length := Nat.mod_lt _ (by omega)
      have htm1 : ((k : Int) + (r.length : Int) - 1).tmod (r.length : Int) = (((k + r.length - 1) % r.length : Nat) : Int) := by
        have := tmod_nat (k + r.length - 1) r.length
        rw [← this]; congr 1; omega
      have htm2 : ((k : Int) + 1).tmod (r.length : Int) = (((k + 1) % r.length : Nat) : Int) := by
        have := tmod_nat (k + 1) r.length
        rw [← this]; congr 1
      have htm3 : ((k : Int) + (r.length : Int) - 1) % (r.length : Int) = (((k + r.length - 1) % r.length : Nat) : Int) := by rw [← htm1, Int.tmod_eq_emod_of_nonneg (by omega)]
      have htm4 : ((k : Int) + 1) % (r.length : Int) = (((k + 1) % r.length : Nat) : Int) := by rw [← htm2, Int.tmod_eq_emod_of_nonneg (by omega)]
      obtain ⟨b, off, rfl, hb, hp⟩ := H3.out k hlt
      obtain ⟨b1, off1, e1, _, hp1⟩ := H3.out _ hml1
      obtain ⟨b2, off2, e2, _, hp2⟩ := H3.out _ hml2
      obtain ⟨b3, off3, e3, _, hp3⟩ := H3.out 0 (by omega)
      simp at e1 e2 e3
      obtain ⟨rfl, rfl⟩ := e1
      obtain ⟨rfl, rfl⟩ := e2
      obtain ⟨rfl, rfl⟩ := e3
      have N0 := HF.out.nice _ (getD_mem hlt zP)
      have G1 := gd_nice (HF.out.nice _ (getD_mem hml1 zP))
      have G2 := gd_nice (HF.out.nice _ (getD_mem hml2 zP))
      have G3 := gd_nice (HF.out.nice _ (getD_mem (show 0 < r.length by omega) zP))
      have hd := HF.out.turn k hlt
      have hl := HF.out.low k hlt
      generalize r.getD k zP = p at *
      generalize r.getD ((k + r.length - 1) % r.length) zP = p1 at *
      generalize r.getD ((k + 1) % r.length) zP = p2 at *
      generalize r.getD 0 zP = p3 at *
      generalize (k + r.length - 1) % r.length = m1 at *
      generalize (k + 1) % r.length = m2 at *
      have LO := fun wz => lowest_any p wz N0
      have DE := fun wz => det_any p1 p p2 wz G1 (gd_nice N0) G2
      have BE := fun wz => before_any p p3 wz (gd_nice N0) G3
      rw [hl] at BE
      have hdv : (detM p1 p p2 == 0) = false := by simpa using hd
      generalize detM p1 p p2 = dv at *
      have hm10 : (0 : Int) ≤ (m1 : Int) := Int.natCast_nonneg _
      have hm11 : (m1 : Int) < (r.length : Int) := by omega
      have hm20 : (0 : Int) ≤ (m2 : Int) := Int.natCast_nonneg _
      have hm21 : (m2 : Int) < (r.length : Int) := by omega
      have hk0 : (0 : Int) ≤ (k : Int) := Int.natCast_nonneg _
      have hk1 : (k : Int) < (r.length : Int) := by omega
      have hr0 : (r.length : Int) ≠ 0 := by omega
      have hrp : (0 : Int) < (r.length : Int) := by omega
      have hrN : 0 < r.length := by omega
      have hrM : ¬ r.length = 0 := by omega
      have hrL : ¬ r = [] := by intro e; rw [e] at hrN; simp at hrN
      have ewr1 : IntKind.i64.wrap ((k : Int) + (r.length : Int)) = (k : Int) + (r.length : Int) := by simp [IntKind.wrap, IntKind.bits, IntKind.signed]; omega
      have ewr2 : IntKind.i64.wrap ((k : Int) + (r.length : Int) - 1) = (k : Int) + (r.length : Int) - 1 := by simp [IntKind.wrap, IntKind.bits, IntKind.signed]; omega
      have ewr3 : IntKind.i64.wrap ((k : Int) + 1) = (k : Int) + 1 := by simp [IntKind.wrap, IntKind.bits, IntKind.signed]; omega
      obtain ⟨px, py, pd⟩ := hp.later hbel hb
      clear N0 G1 G2 G3 hd hl
      go_wp2_with fail
      refine (LO _).mono ?_
      rintro e w1 ⟨rfl, k1⟩
      have B1 := bvia hbel k1
      clear px py pd LO hbel k1
      obtain ⟨px, py, pd⟩ := hp.later B1 hb
      obtain ⟨qx, qy, qd⟩ := hp1.later B1 hb
      obtain ⟨sx, sy, sd⟩ := hp2.later B1 hb
      go_upto_region 8 with fail
      go_cut [6] (fun nv w' => nv = .int .i64 dv ∧ Below w.heap.size w w')
      case first =>
        have hbw : b < w1.heap.size := by have := B1.size; omega
        clear BE HF H3 hp hp1 hp2 hp3
        go_region_held3 (fun w' => w'.cell? ⟨b, off + m1 * 3, none⟩ = some (.int .i64 p1.x) ∧ w'.cell? ⟨b, off + m1 * 3 + 1, none⟩ = some (.int .i64 p1.y) ∧ w'.cell? ⟨b, off + m1 * 3 + 2, none⟩ = some (.int .i64 p1.d) ∧ w'.cell? ⟨b, off + k * 3, none⟩ = some (.int .i64 p.x) ∧ w'.cell? ⟨b, off + k * 3 + 1, none⟩ = some (.int .i64 p.y) ∧ w'.cell? ⟨b, off + k * 3 + 2, none⟩ = some (.int .i64 p.d) ∧ w'.cell? ⟨b, off + m2 * 3, none⟩ = some (.int .i64 p2.x) ∧ w'.cell? ⟨b, off + m2 * 3 + 1, none⟩ = some (.int .i64 p2.y) ∧ w'.cell? ⟨b, off + m2 * 3 + 2, none⟩ = some (.int .i64 p2.d))
              (first
                | go_keep
                | (go_split_ands
                   refine ⟨?_, ?_, ?_, ?_, ?_, ?_, ?_, ?_, ?_⟩
                   · (rw [k2.cell (p := ⟨b, off + m1 * 3, none⟩) (by simp; omega)]; assumption)
                   · (rw [k2.cell (p := ⟨b, off + m1 * 3 + 1, none⟩) (by simp; omega)]; assumption)
                   · (rw [k2.cell (p := ⟨b, off + m1 * 3 + 2, none⟩) (by simp; omega)]; assumption)
                   · (rw [k2.cell (p := ⟨b, off + k * 3, none⟩) (by simp; omega)]; assumption)
                   · (rw [k2.cell (p := ⟨b, off + k * 3 + 1, none⟩) (by simp; omega)]; assumption)
                   · (rw [k2.cell (p := ⟨b, off + k * 3 + 2, none⟩) (by simp; omega)]; assumption)
                   · (rw [k2.cell (p := ⟨b, off + m2 * 3, none⟩) (by simp; omega)]; assumption)
                   · (rw [k2.cell (p := ⟨b, off + m2 * 3 + 1, none⟩) (by simp; omega)]; assumption)
                   · (rw [k2.cell (p := ⟨b, off + m2 * 3 + 2, none⟩) (by simp; omega)]; assumption)))
              ((go_at_call 43; refine (DE _).mono ?_; rintro e' w2 ⟨rfl, k2⟩))
        all_goals
          go_wp2_with fail
          go_meet
          case rel => exact ⟨rfl, bvia B1.drew k2⟩
      case rest =>
        rename World => wX
        obtain ⟨rfl, B2⟩ := hcut
        clear px py pd qx qy qd sx sy sd B1 DE
        obtain ⟨px, py, pd⟩ := hp.later B2 hb
        obtain ⟨qx, qy, qd⟩ := hp3.later B2 hb
        simp only [Nat.zero_mul, Nat.add_zero] at qx qy qd
        go_upto_region 9 with fail
        go_cut [7] (fun nv w' => nv = .bool false ∧ Below w.heap.size w w')
        case first =>
          have hbw : b < wX.heap.size := by have := B2.size; omega
          clear HF H3 hp hp1 hp2 hp3
          go_region_held3 (fun w' => w'.cell? ⟨b, off + k * 3, none⟩ = some (.int .i64 p.x) ∧ w'.cell? ⟨b, off + k * 3 + 1, none⟩ = some (.int .i64 p.y) ∧ w'.cell? ⟨b, off + k * 3 + 2, none⟩ = some (.int .i64 p.d) ∧ w'.cell? ⟨b, off, none⟩ = some (.int .i64 p3.x) ∧ w'.cell? ⟨b, off + 1, none⟩ = some (.int .i64 p3.y) ∧ w'.cell? ⟨b, off + 2, none⟩ = some (.int .i64 p3.d))
              (first
                | go_keep
                | (go_split_ands
                   refine ⟨?_, ?_, ?_, ?_, ?_, ?_⟩
                   · (rw [k3.cell (p := ⟨b, off + k * 3, none⟩) (by simp; omega)]; assumption)
                   · (rw [k3.cell (p := ⟨b, off + k * 3 + 1, none⟩) (by simp; omega)]; assumption)
                   · (rw [k3.cell (p := ⟨b, off + k * 3 + 2, none⟩) (by simp; omega)]; assumption)
                   · (rw [k3.cell (p := ⟨b, off, none⟩) (by simp; omega)]; assumption)
                   · (rw [k3.cell (p := ⟨b, off + 1, none⟩) (by simp; omega)]; assumption)
                   · (rw [k3.cell (p := ⟨b, off + 2, none⟩) (by simp; omega)]; assumption)))
              ((go_at_call 13; refine (BE _).mono ?_; rintro e' w3 ⟨rfl, k3⟩))
          all_goals
            go_wp2_with fail
            go_meet
            case rel => exact ⟨rfl, bvia B2.drew k3⟩
        case rest =>
          obtain ⟨rfl, B3⟩ := hcut
          clear px py pd qx qy qd B2 BE
          go_wp2
          go_roundw
          case rel => exact ⟨k + 1, by go_num, by omega, B3⟩
          case measure => simp [intOf]; omega
    · have hk1 : ¬ (k : Int) < (r.length : Int) := by omega
      go_wp2
      go_ret
      exact ⟨rfl, hbel⟩
end Go.Proofs.Ytnkcbephceollaa
