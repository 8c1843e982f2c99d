import Derived.Test.YtnkcbephceollabGreatQ3
import Derived.Test.YtnkcbephceollabGreatQ2
import Derived.Test.YtnkcbephceollabGreatQ7
import Derived.Deep.RegionWith
import Derived.Deep.Cut
import Derived.Deep.DeepCutAuto
import Derived.Test.YtnkcbephceollabGreatQ4
namespace Go.Proofs.YtnkcbephceollabGreat
open Go.RowKit
set_option linter.unusedSimpArgs false
set_option linter.unusedVariables false

theorem flatten_le (P : List (List Pt)) (i : Nat) : (P.take i).flatten.length ≤ P.flatten.length := by
  conv => rhs; rw [← List.take_append_drop i P, List.flatten_append]
  simp

def ptsTo (P : List (List Pt)) (i : Nat) : List Pt := (P.take i).flatten

set_option maxRecDepth 100000 in
set_option maxHeartbeats 2000000 in
theorem points_own (v : Value) (P : List (List Pt)) (w : World) (hP : PolyAt w v P) (hT : P.flatten.length ≤ 100000) :
    Calls Tryz.prog 41 #[v] w fun e w' => ∃ v', e = .returned v' ∧ w'.ownsRow w.heap.size 31 3 v' P.flatten.length (ptCells P.flatten) ∧ Below w.heap.size w w' := by
  obtain ⟨i0, hi0, hz0, hz1, hz2⟩ := info_parts infoPoint
  obtain ⟨a, cap, rfl, h1, h2, h3⟩ := hP
  unfold maxLen at h2
  go_enter Tryz.func41, Tryz.ntmps41
  go_wp2_with fail
  go_loopw [3, 4] (fun ev c w' => ∃ i : Nat, c = .int .i64 i ∧ i ≤ P.length ∧ w'.ownsRow w.heap.size 31 3 ev (ptsTo P i).length (ptCells (ptsTo P i)) ∧ Below w.heap.size w w') (fun _ c _ => P.length - (intOf c).toNat)
  case atStart => exact ⟨0, rfl, Nat.zero_le _, World.ownsRow_nil _ _ _ _, Below.refl _ _⟩
  case round =>
    obtain ⟨i, rfl, hi, hown, hbel⟩ := hrel
    by_cases hlt : i < P.length
    · obtain ⟨b, off, rv, rfl, hb, hc, hring⟩ := h3 i hlt
      have hc' := (hbel.cell (p := ⟨b, off + i, none⟩) hb).trans hc
      have ES : ptsTo P (i + 1) = ptsTo P i ++ P.getD i [] := by
        unfold ptsTo
        rw [List.take_succ_eq_append_getElem hlt, List.flatten_append, List.getD_eq_getElem?_getD, List.getElem?_eq_getElem hlt]; simp
      have HL : (ptsTo P (i + 1)).length ≤ P.flatten.length := flatten_le P (i + 1)
      rw [ES, List.length_append] at HL
      generalize hr : P.getD i [] = r at *
      obtain ⟨a', cap', rfl, g1, g2, g3⟩ := hring
      unfold maxLen at g2
      have hbs := hbel.size
      by_cases hn0 : 0 < r.length
      · obtain ⟨b', off', rfl, hb', _⟩ := g3 0 hn0
        have hpts : ∀ j, j < r.length → PtAt wr b' (off' + j * 3) (r.getD j zP) := fun j hj => by
          obtain ⟨b2, off2, e2, _, hp⟩ := g3 j hj
          simp at e2
          obtain ⟨rfl, rfl⟩ := e2
          exact hp.later hbel hb'
        have HES := hide ES
        have HN := hide (ring_news hpts)
        have hn1 : (ptsTo P i).length + r.length ≤ maxLen := by unfold maxLen; omega
        have hn2 : ((ptsTo P i).length + r.length) * 24 ≤ 140737488355328 := by omega
        clear h3 hc hr g3 hpts ES
        go_wp2_with (at_builtin; refine wpList_append_lies _ rfl _ _ _ rfl w.heap.size 31 i0 _ 3 24 Tryz.underlying57 hi0 hz0 hz1 hz2 rfl (by omega) u3 (ptsTo P i).length (ptCells (ptsTo P i)) rfl hown ⟨b', off', none⟩ r.length cap' (ptCells r) rfl (ptCells_len r) HN.out (ptCells_one r) hn0 hn1 hn2 hbs wr.heap.size rfl ?_; intro gg cp w1 hown1 hgrow hat hlt1)
        have HO : Hid (w1.ownsRow w.heap.size 31 3 (.slice (some ⟨gg, 0, none⟩) ((ptsTo P i).length + r.length) cp) (ptsTo P (i + 1)).length (ptCells (ptsTo P (i + 1)))) := by
          refine hide ?_
          rw [HES.out, ptCells_append, List.length_append]
          exact hown1
        have B1 : Below w.heap.size w w1 := Below.grown hbel hgrow hbs (fun k hk => (hown.lt k hk).1)
        clear hown hown1 hgrow hat HN HES
        go_wp2
        go_roundw
        case rel => exact ⟨i + 1, by go_num, by omega, HO, B1⟩
        case measure => simp [intOf]; omega
      · have er : r = [] := List.eq_nil_of_length_eq_zero (by omega)
        subst er
        rw [List.append_nil] at ES
        have HO : Hid (wr.ownsRow w.heap.size 31 3 u3 (ptsTo P (i + 1)).length (ptCells (ptsTo P (i + 1)))) := by
          refine hide ?_
          rw [ES]; exact hown
        simp only [List.length_nil] at hc'
        clear h3 hc hr g3 ES
        go_wp2_with (at_builtin; refine wpList_append_zero rfl _ _ _ rfl w.heap.size 31 i0 3 Tryz.underlying57 hi0 u3 (ptsTo P i).length (ptCells (ptsTo P i)) rfl hown a' cap' rfl ?_)
        clear hown
        go_wp2
        go_roundw
        case rel => exact ⟨i + 1, by go_num, by omega, HO, hbel⟩
        case measure => simp [intOf]; omega
    · have e : ptsTo P i = P.flatten := by unfold ptsTo; rw [List.take_of_length_le (by omega)]
      rw [e] at hown
      clear h3
      go_wp2
      go_ret
      exact ⟨_, rfl, hown, hbel⟩
theorem points_any (v : Value) (P : List (List Pt)) (w : World) (hP : PolyAt w v P) (hT : P.flatten.length ≤ 100000) :
    Calls Tryz.prog 41 #[v] w fun e w' => ∃ v', e = .returned v' ∧ RingAt w' v' P.flatten ∧ Below w.heap.size w w' := by
  refine (points_own v P w hP hT).mono ?_
  rintro e w' ⟨v', rfl, hown, hb⟩
  exact ⟨v', rfl, ring_of_own hown (by unfold maxLen; omega), hb⟩
end Go.Proofs.YtnkcbephceollabGreat
namespace Go.Proofs.YtnkcbephceollabGreat
open Go.RowKit
set_option linter.unusedSimpArgs false
set_option linter.unusedVariables false

theorem Blk.put7 {w : World} {p : Nat} {x0 x1 x2 x3 x4 x5 x6 y0 y1 y2 y3 y4 y5 y6 : Value} (h : Blk w p #[x0, x1, x2, x3, x4, x5, x6]) :
    Blk (((((((w.setCell ⟨p, 0, none⟩ y0).setCell ⟨p, 1, none⟩ y1).setCell ⟨p, 2, none⟩ y2).setCell ⟨p, 3, none⟩ y3).setCell ⟨p, 4, none⟩ y4).setCell ⟨p, 5, none⟩ y5).setCell ⟨p, 6, none⟩ y6) p #[y0, y1, y2, y3, y4, y5, y6] := by
  have t0 := h.set 0 (by simp) y0
  simp only [List.setIfInBounds_toArray, List.set_cons_zero, List.set_cons_succ] at t0
  have t1 := t0.set 1 (by simp) y1
  simp only [List.setIfInBounds_toArray, List.set_cons_zero, List.set_cons_succ] at t1
  have t2 := t1.set 2 (by simp) y2
  simp only [List.setIfInBounds_toArray, List.set_cons_zero, List.set_cons_succ] at t2
  have t3 := t2.set 3 (by simp) y3
  simp only [List.setIfInBounds_toArray, List.set_cons_zero, List.set_cons_succ] at t3
  have t4 := t3.set 4 (by simp) y4
  simp only [List.setIfInBounds_toArray, List.set_cons_zero, List.set_cons_succ] at t4
  have t5 := t4.set 5 (by simp) y5
  simp only [List.setIfInBounds_toArray, List.set_cons_zero, List.set_cons_succ] at t5
  have t6 := t5.set 6 (by simp) y6
  simp only [List.setIfInBounds_toArray, List.set_cons_zero, List.set_cons_succ] at t6
  exact t6
theorem Blk.off7 {w : World} {b p : Nat} {vs : Array Value} {y0 y1 y2 y3 y4 y5 y6 : Value} (h : Blk w b vs) (hne : b ≠ p) :
    Blk (((((((w.setCell ⟨p, 0, none⟩ y0).setCell ⟨p, 1, none⟩ y1).setCell ⟨p, 2, none⟩ y2).setCell ⟨p, 3, none⟩ y3).setCell ⟨p, 4, none⟩ y4).setCell ⟨p, 5, none⟩ y5).setCell ⟨p, 6, none⟩ y6) b vs :=
  ((((((h.off hne 0 y0).off hne 1 y1).off hne 2 y2).off hne 3 y3).off hne 4 y4).off hne 5 y5).off hne 6 y6
def NzE (E : List (Pt × Pt)) : Prop := ∀ j, j < E.length → (E.getD j (zP, zP)).1 ≠ (E.getD j (zP, zP)).2
theorem NzE.take {E : List (Pt × Pt)} (h : NzE E) (k : Nat) : NzE (E.take k) := by
  intro j hj
  simp at hj
  have : (E.take k).getD j (zP, zP) = E.getD j (zP, zP) := by
    rw [List.getD_eq_getElem?_getD, List.getD_eq_getElem?_getD, List.getElem?_take_of_lt (by omega)]
  rw [this]; exact h j (by omega)
theorem nzE_of (P : List (List Pt)) (h : findM (fun e : Pt × Pt => eqB e.1 e.2) 0 (edgesM P) = -1) : NzE (edgesM P) := by
  have hall := findM_none _ _ 0 (by decide) h
  intro j hj
  have hm : (edgesM P).getD j (zP, zP) ∈ edgesM P := by
    rw [List.getD_eq_getElem?_getD, List.getElem?_eq_getElem hj]; exact List.getElem_mem hj
  have g := hall _ hm
  exact eqP_false g

set_option maxRecDepth 100000 in
set_option maxHeartbeats 2000000 in
theorem rshares_any (g : Pt × Pt) (v : Value) (E : List (Pt × Pt)) (w : World) (hE : SegsAt w v E) (hg1 : Gr g.1) (hg2 : Gr g.2) (hgn : g.1 ≠ g.2) (hG : GrE E) (hZ : NzE E) :
    Calls Tryz.prog 43 #[sg g.1 g.2, v] w fun e w' => e = .returned (.bool (E.any (alongB g))) ∧ Below w.heap.size w w' := by
  obtain ⟨a, cap, rfl, h1, h2, h3⟩ := hE
  unfold maxLen at h2
  go_enter Tryz.func43, Tryz.ntmps43
  go_wp2_with fail
  go_loopw [5, 6] (fun i _ w' => ∃ k : Nat, i = .int .i64 k ∧ k ≤ E.length ∧ Blk w' w.heap.size #[.int .i64 g.1.x, .int .i64 g.1.y, .int .i64 g.1.d, .int .i64 g.2.x, .int .i64 g.2.y, .int .i64 g.2.d] ∧ Below w.heap.size w w' ∧ Hid (E.any (alongB g) = (E.drop k).any (alongB g))) (fun i _ _ => E.length - (intOf i).toNat)
  case atStart => exact ⟨0, rfl, Nat.zero_le _, Blk.new w _ _, (Below.refl _ _).alloc (Nat.le_refl _) _, rfl⟩
  case round =>
    obtain ⟨k, rfl, hk, ⟨cg, fg, zg⟩, hbel, HB⟩ := hrel
    by_cases hlt : k < E.length
    · obtain ⟨b, off, rfl, hb, hs⟩ := h3 k hlt
      have hs' := hs.later hbel hb
      have HC := hide (any_drop (alongB g) E k hlt (zP, zP))
      have hgr := hG k hlt
      have hnz := hZ k hlt
      generalize E.getD k (zP, zP) = e at *
      obtain ⟨he1, he2⟩ := hgr
      have HR := hide (rmeet_eq hg1.d hg2.d he1.d he2.d hgn hnz)
      obtain ⟨c0, c1, c2, c3, c4, c5⟩ := hs'
      have hbw : b < wr.heap.size := by have := hbel.size; omega
      have hbs := hbel.size
      have cg0 := cg 0
      have cg1 := cg 1
      have cg2 := cg 2
      have cg3 := cg 3
      have cg4 := cg 4
      have cg5 := cg 5
      simp at cg0 cg1 cg2 cg3 cg4 cg5
      have hk0 : (0 : Int) ≤ (k : Int) := Int.natCast_nonneg _
      have hk1 : (k : Int) < (E.length : Int) := by omega
      clear h3 hs hG hZ hnz hgn
      go_upto_region 4 with fail
      go_cut [6] (fun mp w' => ∃ mb : Nat, mp = .pointer (some ⟨mb, 0, none⟩) ∧ w'.cell? ⟨mb, 0, none⟩ = some (.int .i64 (rmeetM g.1 g.2 e.1 e.2).k) ∧ Blk w' w.heap.size #[.int .i64 g.1.x, .int .i64 g.1.y, .int .i64 g.1.d, .int .i64 g.2.x, .int .i64 g.2.y, .int .i64 g.2.d] ∧ Below w.heap.size w w')
      case first =>
        go_region_with (go_at_call 38; refine (rmeet_any g.1 g.2 e.1 e.2 _ hg1 hg2 he1 he2).mono ?_; rintro e' w1 ⟨rfl, k1⟩; have hzr := k1.size; obtain ⟨hc1, hf1⟩ := bcell k1)
        all_goals
          clear c0 c1 c2 c3 c4 c5 cg0 cg1 cg2 cg3 cg4 cg5 hc1 hf1 HB HC HR
          go_wp2_with fail
          go_meet
          first
            | (have kx : Below wr.drew.heap.size wr.drew w1 := k1; exact ⟨w1.heap.size, rfl, (Blk.new w1 _ _).cell 0, ((Blk.mk cg fg zg).drew.call k1).alloc _, (bvia hbel.drew k1).alloc (bvia hbel.drew k1).size _⟩)
            | exact ⟨wr.heap.size, rfl, ((((Blk.new wr _ _).drew).call k1).put7).cell 0, ((((Blk.mk cg fg zg).alloc _).drew).call k1).off7 (by omega), below_set7 (bvia ((hbel.alloc hbel.size _).drew) k1) hbs⟩
      case rest =>
        clear c0 c1 c2 c3 c4 c5 cg0 cg1 cg2 cg3 cg4 cg5 cg fg zg
        obtain ⟨mb, rfl, cm, hgb, B1⟩ := hcut
        rw [HR.out] at cm
        clear HR hbel
        by_cases ht : ((meetM g.1 g.2 e.1 e.2).k == 2) = true
        · have HE : Hid (E.any (alongB g) = true) := HB.out.trans (HC.out.trans (by rw [show alongB g e = true from ht]; rfl))
          clear HB HC
          go_wp2
          go_ret
          exact ⟨ret_bool HE.out.symm, B1⟩
        · have ht' : ((meetM g.1 g.2 e.1 e.2).k == 2) = false := by simpa using ht
          have HE : Hid (E.any (alongB g) = (E.drop (k + 1)).any (alongB g)) := HB.out.trans (HC.out.trans (by rw [show alongB g e = false from ht']; rfl))
          clear HB HC ht
          go_wp2
          go_roundw
          case rel => exact ⟨k + 1, by go_num, by omega, hgb, B1, HE⟩
          case measure => simp [intOf]; omega
    · have HE : Hid (E.any (alongB g) = false) := by rw [HB.out, List.drop_of_length_le (by omega)]; rfl
      clear h3 HB hG hZ
      go_wp2
      go_ret
      exact ⟨ret_bool HE.out.symm, hbel⟩
end Go.Proofs.YtnkcbephceollabGreat
namespace Go.Proofs.YtnkcbephceollabGreat
open Go.RowKit
set_option linter.unusedSimpArgs false
set_option linter.unusedVariables false

theorem below6 (w : World) (a b c d e f : Obj) : Below w.heap.size w ((((((w.alloc a).alloc b).alloc c).alloc d).alloc e).alloc f) :=
  ((((((Below.refl _ _).alloc (Nat.le_refl _) _).alloc (by simp) _).alloc (by simp; omega) _).alloc (by simp; omega) _).alloc (by simp; omega) _).alloc (by simp; omega) _
theorem idx0 (a b c d : Pt) (w : World) : (Instr.index 67 (.agg #[.int .i64 a.x, .int .i64 a.y, .int .i64 a.d, .int .i64 b.x, .int .i64 b.y, .int .i64 b.d, .int .i64 c.x, .int .i64 c.y, .int .i64 c.d, .int .i64 d.x, .int .i64 d.y, .int .i64 d.d]) (.int .i64 0)).run Tryz.prog w = .ok a.v w := by kernel_rfl
theorem idx1 (a b c d : Pt) (w : World) : (Instr.index 67 (.agg #[.int .i64 a.x, .int .i64 a.y, .int .i64 a.d, .int .i64 b.x, .int .i64 b.y, .int .i64 b.d, .int .i64 c.x, .int .i64 c.y, .int .i64 c.d, .int .i64 d.x, .int .i64 d.y, .int .i64 d.d]) (.int .i64 1)).run Tryz.prog w = .ok b.v w := by kernel_rfl
theorem idx2 (a b c d : Pt) (w : World) : (Instr.index 67 (.agg #[.int .i64 a.x, .int .i64 a.y, .int .i64 a.d, .int .i64 b.x, .int .i64 b.y, .int .i64 b.d, .int .i64 c.x, .int .i64 c.y, .int .i64 c.d, .int .i64 d.x, .int .i64 d.y, .int .i64 d.d]) (.int .i64 2)).run Tryz.prog w = .ok c.v w := by kernel_rfl
theorem idx3 (a b c d : Pt) (w : World) : (Instr.index 67 (.agg #[.int .i64 a.x, .int .i64 a.y, .int .i64 a.d, .int .i64 b.x, .int .i64 b.y, .int .i64 b.d, .int .i64 c.x, .int .i64 c.y, .int .i64 c.d, .int .i64 d.x, .int .i64 d.y, .int .i64 d.d]) (.int .i64 3)).run Tryz.prog w = .ok d.v w := by kernel_rfl

set_option maxHeartbeats 1000000 in
theorem Meet_bad0 (a b c d : Pt) (w : World) (ga : gridB a = false) :
    Calls Tryz.prog 15 #[a.v, b.v, c.v, d.v] w fun e w' => e = .returned (.tuple #[(zM).v, .int .i64 3]) ∧ Below w.heap.size w w' := by
  have i0 := idx0 a b c d
  have i1 := idx1 a b c d
  have i2 := idx2 a b c d
  have i3 := idx3 a b c d
  go_enter Tryz.func15, Tryz.ntmps15
  go_wp2_with fail
  refine wp_loop_rounds 5 ?_
  rw [rounds_succ]
  go_wp2_with fail
  refine (IsGrid_any a _).mono ?_
  rintro e w1 ⟨rfl, k⟩
  have B1 := bvia (below6 _ _ _ _ _ _ _) k
  obtain ⟨ca1, fa1, za1⟩ := ((((((Blk.new w _ _).alloc _).alloc _).alloc _).alloc _).alloc _).call k
  obtain ⟨cb1, fb1, zb1⟩ := (((((Blk.at (w.heap.size + 1) (by simp)).alloc _).alloc _).alloc _).alloc _).call k
  obtain ⟨cc1, fc1, zc1⟩ := ((((Blk.at (w.heap.size + 1 + 1) (by simp)).alloc _).alloc _).alloc _).call k
  obtain ⟨cd1, fd1, zd1⟩ := (((Blk.at (w.heap.size + 1 + 1 + 1) (by simp)).alloc _).alloc _).call k
  obtain ⟨cr1, fr1, zr1⟩ := ((Blk.at (w.heap.size + 1 + 1 + 1 + 1) (by simp)).alloc _).call k
  clear k
  go_wp2
  exact bodyPost_ret (v := .tuple #[(zM).v, .int .i64 3]) (by simp [results, Tryz.results15, go_sem, cr1, fr1, zM, zP]) rfl ⟨rfl, below_set7 B1 (by omega)⟩

set_option maxHeartbeats 1000000 in
theorem Meet_bad1 (a b c d : Pt) (w : World) (ga : gridB a = true) (gb : gridB b = false) :
    Calls Tryz.prog 15 #[a.v, b.v, c.v, d.v] w fun e w' => e = .returned (.tuple #[(zM).v, .int .i64 3]) ∧ Below w.heap.size w w' := by
  have i0 := idx0 a b c d
  have i1 := idx1 a b c d
  have i2 := idx2 a b c d
  have i3 := idx3 a b c d
  go_enter Tryz.func15, Tryz.ntmps15
  go_wp2_with fail
  refine wp_loop_rounds 5 ?_
  rw [rounds_succ]
  go_wp2_with fail
  refine (IsGrid_any a _).mono ?_
  rintro e w1 ⟨rfl, k⟩
  have B1 := bvia (below6 _ _ _ _ _ _ _) k
  obtain ⟨ca1, fa1, za1⟩ := ((((((Blk.new w _ _).alloc _).alloc _).alloc _).alloc _).alloc _).call k
  obtain ⟨cb1, fb1, zb1⟩ := (((((Blk.at (w.heap.size + 1) (by simp)).alloc _).alloc _).alloc _).alloc _).call k
  obtain ⟨cc1, fc1, zc1⟩ := ((((Blk.at (w.heap.size + 1 + 1) (by simp)).alloc _).alloc _).alloc _).call k
  obtain ⟨cd1, fd1, zd1⟩ := (((Blk.at (w.heap.size + 1 + 1 + 1) (by simp)).alloc _).alloc _).call k
  obtain ⟨cr1, fr1, zr1⟩ := ((Blk.at (w.heap.size + 1 + 1 + 1 + 1) (by simp)).alloc _).call k
  clear k
  go_wp2_with fail
  rw [rounds_succ]
  go_wp2_with fail
  refine (IsGrid_any b _).mono ?_
  rintro e w2 ⟨rfl, k⟩
  have B2 := bvia (B1.alloc B1.size _) k
  obtain ⟨ca2, fa2, za2⟩ := ((Blk.mk ca1 fa1 za1).alloc _).call k
  obtain ⟨cb2, fb2, zb2⟩ := ((Blk.mk cb1 fb1 zb1).alloc _).call k
  obtain ⟨cc2, fc2, zc2⟩ := ((Blk.mk cc1 fc1 zc1).alloc _).call k
  obtain ⟨cd2, fd2, zd2⟩ := ((Blk.mk cd1 fd1 zd1).alloc _).call k
  obtain ⟨cr2, fr2, zr2⟩ := ((Blk.mk cr1 fr1 zr1).alloc _).call k
  obtain ⟨cxb2, fxb2, zxb2⟩ := (Blk.new w1 _ _).call k
  clear k ca1 fa1 cb1 fb1 cc1 fc1 cd1 fd1 cr1 fr1 B1
  go_wp2
  exact bodyPost_ret (v := .tuple #[(zM).v, .int .i64 3]) (by simp [results, Tryz.results15, go_sem, cr2, fr2, zM, zP]) rfl ⟨rfl, below_set7 B2 (by omega)⟩

set_option maxHeartbeats 1000000 in
theorem Meet_bad2 (a b c d : Pt) (w : World) (ga : gridB a = true) (gb : gridB b = true) (gc : gridB c = false) :
    Calls Tryz.prog 15 #[a.v, b.v, c.v, d.v] w fun e w' => e = .returned (.tuple #[(zM).v, .int .i64 3]) ∧ Below w.heap.size w w' := by
  have i0 := idx0 a b c d
  have i1 := idx1 a b c d
  have i2 := idx2 a b c d
  have i3 := idx3 a b c d
  go_enter Tryz.func15, Tryz.ntmps15
  go_wp2_with fail
  refine wp_loop_rounds 5 ?_
  rw [rounds_succ]
  go_wp2_with fail
  refine (IsGrid_any a _).mono ?_
  rintro e w1 ⟨rfl, k⟩
  have B1 := bvia (below6 _ _ _ _ _ _ _) k
  obtain ⟨ca1, fa1, za1⟩ := ((((((Blk.new w _ _).alloc _).alloc _).alloc _).alloc _).alloc _).call k
  obtain ⟨cb1, fb1, zb1⟩ := (((((Blk.at (w.heap.size + 1) (by simp)).alloc _).alloc _).alloc _).alloc _).call k
  obtain ⟨cc1, fc1, zc1⟩ := ((((Blk.at (w.heap.size + 1 + 1) (by simp)).alloc _).alloc _).alloc _).call k
  obtain ⟨cd1, fd1, zd1⟩ := (((Blk.at (w.heap.size + 1 + 1 + 1) (by simp)).alloc _).alloc _).call k
  obtain ⟨cr1, fr1, zr1⟩ := ((Blk.at (w.heap.size + 1 + 1 + 1 + 1) (by simp)).alloc _).call k
  clear k
  go_wp2_with fail
  rw [rounds_succ]
  go_wp2_with fail
  refine (IsGrid_any b _).mono ?_
  rintro e w2 ⟨rfl, k⟩
  have B2 := bvia (B1.alloc B1.size _) k
  obtain ⟨ca2, fa2, za2⟩ := ((Blk.mk ca1 fa1 za1).alloc _).call k
  obtain ⟨cb2, fb2, zb2⟩ := ((Blk.mk cb1 fb1 zb1).alloc _).call k
  obtain ⟨cc2, fc2, zc2⟩ := ((Blk.mk cc1 fc1 zc1).alloc _).call k
  obtain ⟨cd2, fd2, zd2⟩ := ((Blk.mk cd1 fd1 zd1).alloc _).call k
  obtain ⟨cr2, fr2, zr2⟩ := ((Blk.mk cr1 fr1 zr1).alloc _).call k
  obtain ⟨cxb2, fxb2, zxb2⟩ := (Blk.new w1 _ _).call k
  clear k ca1 fa1 cb1 fb1 cc1 fc1 cd1 fd1 cr1 fr1 B1
  go_wp2_with fail
  rw [rounds_succ]
  go_wp2_with fail
  refine (IsGrid_any c _).mono ?_
  rintro e w3 ⟨rfl, k⟩
  have B3 := bvia (B2.alloc B2.size _) k
  obtain ⟨ca3, fa3, za3⟩ := ((Blk.mk ca2 fa2 za2).alloc _).call k
  obtain ⟨cb3, fb3, zb3⟩ := ((Blk.mk cb2 fb2 zb2).alloc _).call k
  obtain ⟨cc3, fc3, zc3⟩ := ((Blk.mk cc2 fc2 zc2).alloc _).call k
  obtain ⟨cd3, fd3, zd3⟩ := ((Blk.mk cd2 fd2 zd2).alloc _).call k
  obtain ⟨cr3, fr3, zr3⟩ := ((Blk.mk cr2 fr2 zr2).alloc _).call k
  obtain ⟨cxb3, fxb3, zxb3⟩ := ((Blk.mk cxb2 fxb2 zxb2).alloc _).call k
  obtain ⟨cxc3, fxc3, zxc3⟩ := (Blk.new w2 _ _).call k
  clear k ca2 fa2 cb2 fb2 cc2 fc2 cd2 fd2 cr2 fr2 cxb2 fxb2 B2
  go_wp2
  exact bodyPost_ret (v := .tuple #[(zM).v, .int .i64 3]) (by simp [results, Tryz.results15, go_sem, cr3, fr3, zM, zP]) rfl ⟨rfl, below_set7 B3 (by omega)⟩

set_option maxHeartbeats 1000000 in
theorem Meet_bad3 (a b c d : Pt) (w : World) (ga : gridB a = true) (gb : gridB b = true) (gc : gridB c = true) (gd : gridB d = false) :
    Calls Tryz.prog 15 #[a.v, b.v, c.v, d.v] w fun e w' => e = .returned (.tuple #[(zM).v, .int .i64 3]) ∧ Below w.heap.size w w' := by
  have i0 := idx0 a b c d
  have i1 := idx1 a b c d
  have i2 := idx2 a b c d
  have i3 := idx3 a b c d
  go_enter Tryz.func15, Tryz.ntmps15
  go_wp2_with fail
  refine wp_loop_rounds 5 ?_
  rw [rounds_succ]
  go_wp2_with fail
  refine (IsGrid_any a _).mono ?_
  rintro e w1 ⟨rfl, k⟩
  have B1 := bvia (below6 _ _ _ _ _ _ _) k
  obtain ⟨ca1, fa1, za1⟩ := ((((((Blk.new w _ _).alloc _).alloc _).alloc _).alloc _).alloc _).call k
  obtain ⟨cb1, fb1, zb1⟩ := (((((Blk.at (w.heap.size + 1) (by simp)).alloc _).alloc _).alloc _).alloc _).call k
  obtain ⟨cc1, fc1, zc1⟩ := ((((Blk.at (w.heap.size + 1 + 1) (by simp)).alloc _).alloc _).alloc _).call k
  obtain ⟨cd1, fd1, zd1⟩ := (((Blk.at (w.heap.size + 1 + 1 + 1) (by simp)).alloc _).alloc _).call k
  obtain ⟨cr1, fr1, zr1⟩ := ((Blk.at (w.heap.size + 1 + 1 + 1 + 1) (by simp)).alloc _).call k
  clear k
  go_wp2_with fail
  rw [rounds_succ]
  go_wp2_with fail
  refine (IsGrid_any b _).mono ?_
  rintro e w2 ⟨rfl, k⟩
  have B2 := bvia (B1.alloc B1.size _) k
  obtain ⟨ca2, fa2, za2⟩ := ((Blk.mk ca1 fa1 za1).alloc _).call k
  obtain ⟨cb2, fb2, zb2⟩ := ((Blk.mk cb1 fb1 zb1).alloc _).call k
  obtain ⟨cc2, fc2, zc2⟩ := ((Blk.mk cc1 fc1 zc1).alloc _).call k
  obtain ⟨cd2, fd2, zd2⟩ := ((Blk.mk cd1 fd1 zd1).alloc _).call k
  obtain ⟨cr2, fr2, zr2⟩ := ((Blk.mk cr1 fr1 zr1).alloc _).call k
  obtain ⟨cxb2, fxb2, zxb2⟩ := (Blk.new w1 _ _).call k
  clear k ca1 fa1 cb1 fb1 cc1 fc1 cd1 fd1 cr1 fr1 B1
  go_wp2_with fail
  rw [rounds_succ]
  go_wp2_with fail
  refine (IsGrid_any c _).mono ?_
  rintro e w3 ⟨rfl, k⟩
  have B3 := bvia (B2.alloc B2.size _) k
  obtain ⟨ca3, fa3, za3⟩ := ((Blk.mk ca2 fa2 za2).alloc _).call k
  obtain ⟨cb3, fb3, zb3⟩ := ((Blk.mk cb2 fb2 zb2).alloc _).call k
  obtain ⟨cc3, fc3, zc3⟩ := ((Blk.mk cc2 fc2 zc2).alloc _).call k
  obtain ⟨cd3, fd3, zd3⟩ := ((Blk.mk cd2 fd2 zd2).alloc _).call k
  obtain ⟨cr3, fr3, zr3⟩ := ((Blk.mk cr2 fr2 zr2).alloc _).call k
  obtain ⟨cxb3, fxb3, zxb3⟩ := ((Blk.mk cxb2 fxb2 zxb2).alloc _).call k
  obtain ⟨cxc3, fxc3, zxc3⟩ := (Blk.new w2 _ _).call k
  clear k ca2 fa2 cb2 fb2 cc2 fc2 cd2 fd2 cr2 fr2 cxb2 fxb2 B2
  go_wp2_with fail
  rw [rounds_succ]
  go_wp2_with fail
  refine (IsGrid_any d _).mono ?_
  rintro e w4 ⟨rfl, k⟩
  have B4 := bvia (B3.alloc B3.size _) k
  obtain ⟨ca4, fa4, za4⟩ := ((Blk.mk ca3 fa3 za3).alloc _).call k
  obtain ⟨cb4, fb4, zb4⟩ := ((Blk.mk cb3 fb3 zb3).alloc _).call k
  obtain ⟨cc4, fc4, zc4⟩ := ((Blk.mk cc3 fc3 zc3).alloc _).call k
  obtain ⟨cd4, fd4, zd4⟩ := ((Blk.mk cd3 fd3 zd3).alloc _).call k
  obtain ⟨cr4, fr4, zr4⟩ := ((Blk.mk cr3 fr3 zr3).alloc _).call k
  obtain ⟨cxb4, fxb4, zxb4⟩ := ((Blk.mk cxb3 fxb3 zxb3).alloc _).call k
  obtain ⟨cxc4, fxc4, zxc4⟩ := ((Blk.mk cxc3 fxc3 zxc3).alloc _).call k
  obtain ⟨cxd4, fxd4, zxd4⟩ := (Blk.new w3 _ _).call k
  clear k ca3 fa3 cb3 fb3 cc3 fc3 cd3 fd3 cr3 fr3 cxb3 fxb3 cxc3 fxc3 B3
  go_wp2
  exact bodyPost_ret (v := .tuple #[(zM).v, .int .i64 3]) (by simp [results, Tryz.results15, go_sem, cr4, fr4, zM, zP]) rfl ⟨rfl, below_set7 B4 (by omega)⟩

set_option maxHeartbeats 1000000 in
theorem Meet_edge1 (a b c d : Pt) (w : World) (ga : gridB a = true) (gb : gridB b = true) (gc : gridB c = true) (gd : gridB d = true) (h1 : eqP a b = true) :
    Calls Tryz.prog 15 #[a.v, b.v, c.v, d.v] w fun e w' => e = .returned (.tuple #[(zM).v, .int .i64 4]) ∧ Below w.heap.size w w' := by
  have i0 := idx0 a b c d
  have i1 := idx1 a b c d
  have i2 := idx2 a b c d
  have i3 := idx3 a b c d
  go_enter Tryz.func15, Tryz.ntmps15
  go_wp2_with fail
  refine wp_loop_rounds 5 ?_
  rw [rounds_succ]
  go_wp2_with fail
  refine (IsGrid_any a _).mono ?_
  rintro e w1 ⟨rfl, k⟩
  have B1 := bvia (below6 _ _ _ _ _ _ _) k
  obtain ⟨ca1, fa1, za1⟩ := ((((((Blk.new w _ _).alloc _).alloc _).alloc _).alloc _).alloc _).call k
  obtain ⟨cb1, fb1, zb1⟩ := (((((Blk.at (w.heap.size + 1) (by simp)).alloc _).alloc _).alloc _).alloc _).call k
  obtain ⟨cc1, fc1, zc1⟩ := ((((Blk.at (w.heap.size + 1 + 1) (by simp)).alloc _).alloc _).alloc _).call k
  obtain ⟨cd1, fd1, zd1⟩ := (((Blk.at (w.heap.size + 1 + 1 + 1) (by simp)).alloc _).alloc _).call k
  obtain ⟨cr1, fr1, zr1⟩ := ((Blk.at (w.heap.size + 1 + 1 + 1 + 1) (by simp)).alloc _).call k
  clear k
  go_wp2_with fail
  rw [rounds_succ]
  go_wp2_with fail
  refine (IsGrid_any b _).mono ?_
  rintro e w2 ⟨rfl, k⟩
  have B2 := bvia (B1.alloc B1.size _) k
  obtain ⟨ca2, fa2, za2⟩ := ((Blk.mk ca1 fa1 za1).alloc _).call k
  obtain ⟨cb2, fb2, zb2⟩ := ((Blk.mk cb1 fb1 zb1).alloc _).call k
  obtain ⟨cc2, fc2, zc2⟩ := ((Blk.mk cc1 fc1 zc1).alloc _).call k
  obtain ⟨cd2, fd2, zd2⟩ := ((Blk.mk cd1 fd1 zd1).alloc _).call k
  obtain ⟨cr2, fr2, zr2⟩ := ((Blk.mk cr1 fr1 zr1).alloc _).call k
  obtain ⟨cxb2, fxb2, zxb2⟩ := (Blk.new w1 _ _).call k
  clear k ca1 fa1 cb1 fb1 cc1 fc1 cd1 fd1 cr1 fr1 B1
  go_wp2_with fail
  rw [rounds_succ]
  go_wp2_with fail
  refine (IsGrid_any c _).mono ?_
  rintro e w3 ⟨rfl, k⟩
  have B3 := bvia (B2.alloc B2.size _) k
  obtain ⟨ca3, fa3, za3⟩ := ((Blk.mk ca2 fa2 za2).alloc _).call k
  obtain ⟨cb3, fb3, zb3⟩ := ((Blk.mk cb2 fb2 zb2).alloc _).call k
  obtain ⟨cc3, fc3, zc3⟩ := ((Blk.mk cc2 fc2 zc2).alloc _).call k
  obtain ⟨cd3, fd3, zd3⟩ := ((Blk.mk cd2 fd2 zd2).alloc _).call k
  obtain ⟨cr3, fr3, zr3⟩ := ((Blk.mk cr2 fr2 zr2).alloc _).call k
  obtain ⟨cxb3, fxb3, zxb3⟩ := ((Blk.mk cxb2 fxb2 zxb2).alloc _).call k
  obtain ⟨cxc3, fxc3, zxc3⟩ := (Blk.new w2 _ _).call k
  clear k ca2 fa2 cb2 fb2 cc2 fc2 cd2 fd2 cr2 fr2 cxb2 fxb2 B2
  go_wp2_with fail
  rw [rounds_succ]
  go_wp2_with fail
  refine (IsGrid_any d _).mono ?_
  rintro e w4 ⟨rfl, k⟩
  have B4 := bvia (B3.alloc B3.size _) k
  obtain ⟨ca4, fa4, za4⟩ := ((Blk.mk ca3 fa3 za3).alloc _).call k
  obtain ⟨cb4, fb4, zb4⟩ := ((Blk.mk cb3 fb3 zb3).alloc _).call k
  obtain ⟨cc4, fc4, zc4⟩ := ((Blk.mk cc3 fc3 zc3).alloc _).call k
  obtain ⟨cd4, fd4, zd4⟩ := ((Blk.mk cd3 fd3 zd3).alloc _).call k
  obtain ⟨cr4, fr4, zr4⟩ := ((Blk.mk cr3 fr3 zr3).alloc _).call k
  obtain ⟨cxb4, fxb4, zxb4⟩ := ((Blk.mk cxb3 fxb3 zxb3).alloc _).call k
  obtain ⟨cxc4, fxc4, zxc4⟩ := ((Blk.mk cxc3 fxc3 zxc3).alloc _).call k
  obtain ⟨cxd4, fxd4, zxd4⟩ := (Blk.new w3 _ _).call k
  clear k ca3 fa3 cb3 fb3 cc3 fc3 cd3 fd3 cr3 fr3 cxb3 fxb3 cxc3 fxc3 B3
  go_wp2_with fail
  rw [rounds_succ]
  go_wp2_with fail
  refine (IsEmpty_any a b _).mono ?_
  rintro e w5 ⟨rfl, k⟩
  have B5 := bvia (B4.alloc B4.size _) k
  obtain ⟨ca5, fa5, za5⟩ := ((Blk.mk ca4 fa4 za4).alloc _).call k
  obtain ⟨cb5, fb5, zb5⟩ := ((Blk.mk cb4 fb4 zb4).alloc _).call k
  obtain ⟨cc5, fc5, zc5⟩ := ((Blk.mk cc4 fc4 zc4).alloc _).call k
  obtain ⟨cd5, fd5, zd5⟩ := ((Blk.mk cd4 fd4 zd4).alloc _).call k
  obtain ⟨cr5, fr5, zr5⟩ := ((Blk.mk cr4 fr4 zr4).alloc _).call k
  obtain ⟨cxb5, fxb5, zxb5⟩ := ((Blk.mk cxb4 fxb4 zxb4).alloc _).call k
  obtain ⟨cxc5, fxc5, zxc5⟩ := ((Blk.mk cxc4 fxc4 zxc4).alloc _).call k
  obtain ⟨cxd5, fxd5, zxd5⟩ := ((Blk.mk cxd4 fxd4 zxd4).alloc _).call k
  obtain ⟨cs5, fs5, zs5⟩ := (Blk.new w4 _ _).call k
  clear k ca4 fa4 cb4 fb4 cc4 fc4 cd4 fd4 cr4 fr4 cxb4 fxb4 cxc4 fxc4 cxd4 fxd4 B4
  go_wp2
  exact bodyPost_ret (v := .tuple #[(zM).v, .int .i64 4]) (by simp [results, Tryz.results15, go_sem, cr5, fr5, zM, zP]) rfl ⟨rfl, below_set7 B5 (by omega)⟩

set_option maxHeartbeats 1000000 in
theorem Meet_edge2 (a b c d : Pt) (w : World) (ga : gridB a = true) (gb : gridB b = true) (gc : gridB c = true) (gd : gridB d = true) (h1 : eqP a b = false) (h2 : eqP c d = true) :
    Calls Tryz.prog 15 #[a.v, b.v, c.v, d.v] w fun e w' => e = .returned (.tuple #[(zM).v, .int .i64 4]) ∧ Below w.heap.size w w' := by
  have i0 := idx0 a b c d
  have i1 := idx1 a b c d
  have i2 := idx2 a b c d
  have i3 := idx3 a b c d
  go_enter Tryz.func15, Tryz.ntmps15
  go_wp2_with fail
  refine wp_loop_rounds 5 ?_
  rw [rounds_succ]
  go_wp2_with fail
  refine (IsGrid_any a _).mono ?_
  rintro e w1 ⟨rfl, k⟩
  have B1 := bvia (below6 _ _ _ _ _ _ _) k
  obtain ⟨ca1, fa1, za1⟩ := ((((((Blk.new w _ _).alloc _).alloc _).alloc _).alloc _).alloc _).call k
  obtain ⟨cb1, fb1, zb1⟩ := (((((Blk.at (w.heap.size + 1) (by simp)).alloc _).alloc _).alloc _).alloc _).call k
  obtain ⟨cc1, fc1, zc1⟩ := ((((Blk.at (w.heap.size + 1 + 1) (by simp)).alloc _).alloc _).alloc _).call k
  obtain ⟨cd1, fd1, zd1⟩ := (((Blk.at (w.heap.size + 1 + 1 + 1) (by simp)).alloc _).alloc _).call k
  obtain ⟨cr1, fr1, zr1⟩ := ((Blk.at (w.heap.size + 1 + 1 + 1 + 1) (by simp)).alloc _).call k
  clear k
  go_wp2_with fail
  rw [rounds_succ]
  go_wp2_with fail
  refine (IsGrid_any b _).mono ?_
  rintro e w2 ⟨rfl, k⟩
  have B2 := bvia (B1.alloc B1.size _) k
  obtain ⟨ca2, fa2, za2⟩ := ((Blk.mk ca1 fa1 za1).alloc _).call k
  obtain ⟨cb2, fb2, zb2⟩ := ((Blk.mk cb1 fb1 zb1).alloc _).call k
  obtain ⟨cc2, fc2, zc2⟩ := ((Blk.mk cc1 fc1 zc1).alloc _).call k
  obtain ⟨cd2, fd2, zd2⟩ := ((Blk.mk cd1 fd1 zd1).alloc _).call k
  obtain ⟨cr2, fr2, zr2⟩ := ((Blk.mk cr1 fr1 zr1).alloc _).call k
  obtain ⟨cxb2, fxb2, zxb2⟩ := (Blk.new w1 _ _).call k
  clear k ca1 fa1 cb1 fb1 cc1 fc1 cd1 fd1 cr1 fr1 B1
  go_wp2_with fail
  rw [rounds_succ]
  go_wp2_with fail
  refine (IsGrid_any c _).mono ?_
  rintro e w3 ⟨rfl, k⟩
  have B3 := bvia (B2.alloc B2.size _) k
  obtain ⟨ca3, fa3, za3⟩ := ((Blk.mk ca2 fa2 za2).alloc _).call k
  obtain ⟨cb3, fb3, zb3⟩ := ((Blk.mk cb2 fb2 zb2).alloc _).call k
  obtain ⟨cc3, fc3, zc3⟩ := ((Blk.mk cc2 fc2 zc2).alloc _).call k
  obtain ⟨cd3, fd3, zd3⟩ := ((Blk.mk cd2 fd2 zd2).alloc _).call k
  obtain ⟨cr3, fr3, zr3⟩ := ((Blk.mk cr2 fr2 zr2).alloc _).call k
  obtain ⟨cxb3, fxb3, zxb3⟩ := ((Blk.mk cxb2 fxb2 zxb2).alloc _).call k
  obtain ⟨cxc3, fxc3, zxc3⟩ := (Blk.new w2 _ _).call k
  clear k ca2 fa2 cb2 fb2 cc2 fc2 cd2 fd2 cr2 fr2 cxb2 fxb2 B2
  go_wp2_with fail
  rw [rounds_succ]
  go_wp2_with fail
  refine (IsGrid_any d _).mono ?_
  rintro e w4 ⟨rfl, k⟩
  have B4 := bvia (B3.alloc B3.size _) k
  obtain ⟨ca4, fa4, za4⟩ := ((Blk.mk ca3 fa3 za3).alloc _).call k
  obtain ⟨cb4, fb4, zb4⟩ := ((Blk.mk cb3 fb3 zb3).alloc _).call k
  obtain ⟨cc4, fc4, zc4⟩ := ((Blk.mk cc3 fc3 zc3).alloc _).call k
  obtain ⟨cd4, fd4, zd4⟩ := ((Blk.mk cd3 fd3 zd3).alloc _).call k
  obtain ⟨cr4, fr4, zr4⟩ := ((Blk.mk cr3 fr3 zr3).alloc _).call k
  obtain ⟨cxb4, fxb4, zxb4⟩ := ((Blk.mk cxb3 fxb3 zxb3).alloc _).call k
  obtain ⟨cxc4, fxc4, zxc4⟩ := ((Blk.mk cxc3 fxc3 zxc3).alloc _).call k
  obtain ⟨cxd4, fxd4, zxd4⟩ := (Blk.new w3 _ _).call k
  clear k ca3 fa3 cb3 fb3 cc3 fc3 cd3 fd3 cr3 fr3 cxb3 fxb3 cxc3 fxc3 B3
  go_wp2_with fail
  rw [rounds_succ]
  go_wp2_with fail
  refine (IsEmpty_any a b _).mono ?_
  rintro e w5 ⟨rfl, k⟩
  have B5 := bvia (B4.alloc B4.size _) k
  obtain ⟨ca5, fa5, za5⟩ := ((Blk.mk ca4 fa4 za4).alloc _).call k
  obtain ⟨cb5, fb5, zb5⟩ := ((Blk.mk cb4 fb4 zb4).alloc _).call k
  obtain ⟨cc5, fc5, zc5⟩ := ((Blk.mk cc4 fc4 zc4).alloc _).call k
  obtain ⟨cd5, fd5, zd5⟩ := ((Blk.mk cd4 fd4 zd4).alloc _).call k
  obtain ⟨cr5, fr5, zr5⟩ := ((Blk.mk cr4 fr4 zr4).alloc _).call k
  obtain ⟨cxb5, fxb5, zxb5⟩ := ((Blk.mk cxb4 fxb4 zxb4).alloc _).call k
  obtain ⟨cxc5, fxc5, zxc5⟩ := ((Blk.mk cxc4 fxc4 zxc4).alloc _).call k
  obtain ⟨cxd5, fxd5, zxd5⟩ := ((Blk.mk cxd4 fxd4 zxd4).alloc _).call k
  obtain ⟨cs5, fs5, zs5⟩ := (Blk.new w4 _ _).call k
  clear k ca4 fa4 cb4 fb4 cc4 fc4 cd4 fd4 cr4 fr4 cxb4 fxb4 cxc4 fxc4 cxd4 fxd4 B4
  go_wp2_with fail
  refine (IsEmpty_any c d _).mono ?_
  rintro e w6 ⟨rfl, k⟩
  have B6 := bvia (B5.alloc B5.size _) k
  obtain ⟨ca6, fa6, za6⟩ := ((Blk.mk ca5 fa5 za5).alloc _).call k
  obtain ⟨cb6, fb6, zb6⟩ := ((Blk.mk cb5 fb5 zb5).alloc _).call k
  obtain ⟨cc6, fc6, zc6⟩ := ((Blk.mk cc5 fc5 zc5).alloc _).call k
  obtain ⟨cd6, fd6, zd6⟩ := ((Blk.mk cd5 fd5 zd5).alloc _).call k
  obtain ⟨cr6, fr6, zr6⟩ := ((Blk.mk cr5 fr5 zr5).alloc _).call k
  obtain ⟨cxb6, fxb6, zxb6⟩ := ((Blk.mk cxb5 fxb5 zxb5).alloc _).call k
  obtain ⟨cxc6, fxc6, zxc6⟩ := ((Blk.mk cxc5 fxc5 zxc5).alloc _).call k
  obtain ⟨cxd6, fxd6, zxd6⟩ := ((Blk.mk cxd5 fxd5 zxd5).alloc _).call k
  obtain ⟨cs6, fs6, zs6⟩ := ((Blk.mk cs5 fs5 zs5).alloc _).call k
  obtain ⟨ct6, ft6, zt6⟩ := (Blk.new w5 _ _).call k
  clear k ca5 fa5 cb5 fb5 cc5 fc5 cd5 fd5 cr5 fr5 cxb5 fxb5 cxc5 fxc5 cxd5 fxd5 cs5 fs5 B5
  go_wp2
  exact bodyPost_ret (v := .tuple #[(zM).v, .int .i64 4]) (by simp [results, Tryz.results15, go_sem, cr6, fr6, zM, zP]) rfl ⟨rfl, below_set7 B6 (by omega)⟩

set_option maxHeartbeats 1000000 in
theorem Meet_ok (a b c d : Pt) (w : World) (ga : gridB a = true) (gb : gridB b = true) (gc : gridB c = true) (gd : gridB d = true) (h1 : eqP a b = false) (h2 : eqP c d = false) :
    Calls Tryz.prog 15 #[a.v, b.v, c.v, d.v] w fun e w' => e = .returned (.tuple #[(meetM a b c d).v, .int .i64 0]) ∧ Below w.heap.size w w' := by
  have i0 := idx0 a b c d
  have i1 := idx1 a b c d
  have i2 := idx2 a b c d
  have i3 := idx3 a b c d
  go_enter Tryz.func15, Tryz.ntmps15
  go_wp2_with fail
  refine wp_loop_rounds 5 ?_
  rw [rounds_succ]
  go_wp2_with fail
  refine (IsGrid_any a _).mono ?_
  rintro e w1 ⟨rfl, k⟩
  have B1 := bvia (below6 _ _ _ _ _ _ _) k
  obtain ⟨ca1, fa1, za1⟩ := ((((((Blk.new w _ _).alloc _).alloc _).alloc _).alloc _).alloc _).call k
  obtain ⟨cb1, fb1, zb1⟩ := (((((Blk.at (w.heap.size + 1) (by simp)).alloc _).alloc _).alloc _).alloc _).call k
  obtain ⟨cc1, fc1, zc1⟩ := ((((Blk.at (w.heap.size + 1 + 1) (by simp)).alloc _).alloc _).alloc _).call k
  obtain ⟨cd1, fd1, zd1⟩ := (((Blk.at (w.heap.size + 1 + 1 + 1) (by simp)).alloc _).alloc _).call k
  obtain ⟨cr1, fr1, zr1⟩ := ((Blk.at (w.heap.size + 1 + 1 + 1 + 1) (by simp)).alloc _).call k
  clear k
  go_wp2_with fail
  rw [rounds_succ]
  go_wp2_with fail
  refine (IsGrid_any b _).mono ?_
  rintro e w2 ⟨rfl, k⟩
  have B2 := bvia (B1.alloc B1.size _) k
  obtain ⟨ca2, fa2, za2⟩ := ((Blk.mk ca1 fa1 za1).alloc _).call k
  obtain ⟨cb2, fb2, zb2⟩ := ((Blk.mk cb1 fb1 zb1).alloc _).call k
  obtain ⟨cc2, fc2, zc2⟩ := ((Blk.mk cc1 fc1 zc1).alloc _).call k
  obtain ⟨cd2, fd2, zd2⟩ := ((Blk.mk cd1 fd1 zd1).alloc _).call k
  obtain ⟨cr2, fr2, zr2⟩ := ((Blk.mk cr1 fr1 zr1).alloc _).call k
  obtain ⟨cxb2, fxb2, zxb2⟩ := (Blk.new w1 _ _).call k
  clear k ca1 fa1 cb1 fb1 cc1 fc1 cd1 fd1 cr1 fr1 B1
  go_wp2_with fail
  rw [rounds_succ]
  go_wp2_with fail
  refine (IsGrid_any c _).mono ?_
  rintro e w3 ⟨rfl, k⟩
  have B3 := bvia (B2.alloc B2.size _) k
  obtain ⟨ca3, fa3, za3⟩ := ((Blk.mk ca2 fa2 za2).alloc _).call k
  obtain ⟨cb3, fb3, zb3⟩ := ((Blk.mk cb2 fb2 zb2).alloc _).call k
  obtain ⟨cc3, fc3, zc3⟩ := ((Blk.mk cc2 fc2 zc2).alloc _).call k
  obtain ⟨cd3, fd3, zd3⟩ := ((Blk.mk cd2 fd2 zd2).alloc _).call k
  obtain ⟨cr3, fr3, zr3⟩ := ((Blk.mk cr2 fr2 zr2).alloc _).call k
  obtain ⟨cxb3, fxb3, zxb3⟩ := ((Blk.mk cxb2 fxb2 zxb2).alloc _).call k
  obtain ⟨cxc3, fxc3, zxc3⟩ := (Blk.new w2 _ _).call k
  clear k ca2 fa2 cb2 fb2 cc2 fc2 cd2 fd2 cr2 fr2 cxb2 fxb2 B2
  go_wp2_with fail
  rw [rounds_succ]
  go_wp2_with fail
  refine (IsGrid_any d _).mono ?_
  rintro e w4 ⟨rfl, k⟩
  have B4 := bvia (B3.alloc B3.size _) k
  obtain ⟨ca4, fa4, za4⟩ := ((Blk.mk ca3 fa3 za3).alloc _).call k
  obtain ⟨cb4, fb4, zb4⟩ := ((Blk.mk cb3 fb3 zb3).alloc _).call k
  obtain ⟨cc4, fc4, zc4⟩ := ((Blk.mk cc3 fc3 zc3).alloc _).call k
  obtain ⟨cd4, fd4, zd4⟩ := ((Blk.mk cd3 fd3 zd3).alloc _).call k
  obtain ⟨cr4, fr4, zr4⟩ := ((Blk.mk cr3 fr3 zr3).alloc _).call k
  obtain ⟨cxb4, fxb4, zxb4⟩ := ((Blk.mk cxb3 fxb3 zxb3).alloc _).call k
  obtain ⟨cxc4, fxc4, zxc4⟩ := ((Blk.mk cxc3 fxc3 zxc3).alloc _).call k
  obtain ⟨cxd4, fxd4, zxd4⟩ := (Blk.new w3 _ _).call k
  clear k ca3 fa3 cb3 fb3 cc3 fc3 cd3 fd3 cr3 fr3 cxb3 fxb3 cxc3 fxc3 B3
  go_wp2_with fail
  rw [rounds_succ]
  go_wp2_with fail
  refine (IsEmpty_any a b _).mono ?_
  rintro e w5 ⟨rfl, k⟩
  have B5 := bvia (B4.alloc B4.size _) k
  obtain ⟨ca5, fa5, za5⟩ := ((Blk.mk ca4 fa4 za4).alloc _).call k
  obtain ⟨cb5, fb5, zb5⟩ := ((Blk.mk cb4 fb4 zb4).alloc _).call k
  obtain ⟨cc5, fc5, zc5⟩ := ((Blk.mk cc4 fc4 zc4).alloc _).call k
  obtain ⟨cd5, fd5, zd5⟩ := ((Blk.mk cd4 fd4 zd4).alloc _).call k
  obtain ⟨cr5, fr5, zr5⟩ := ((Blk.mk cr4 fr4 zr4).alloc _).call k
  obtain ⟨cxb5, fxb5, zxb5⟩ := ((Blk.mk cxb4 fxb4 zxb4).alloc _).call k
  obtain ⟨cxc5, fxc5, zxc5⟩ := ((Blk.mk cxc4 fxc4 zxc4).alloc _).call k
  obtain ⟨cxd5, fxd5, zxd5⟩ := ((Blk.mk cxd4 fxd4 zxd4).alloc _).call k
  obtain ⟨cs5, fs5, zs5⟩ := (Blk.new w4 _ _).call k
  clear k ca4 fa4 cb4 fb4 cc4 fc4 cd4 fd4 cr4 fr4 cxb4 fxb4 cxc4 fxc4 cxd4 fxd4 B4
  go_wp2_with fail
  refine (IsEmpty_any c d _).mono ?_
  rintro e w6 ⟨rfl, k⟩
  have B6 := bvia (B5.alloc B5.size _) k
  obtain ⟨ca6, fa6, za6⟩ := ((Blk.mk ca5 fa5 za5).alloc _).call k
  obtain ⟨cb6, fb6, zb6⟩ := ((Blk.mk cb5 fb5 zb5).alloc _).call k
  obtain ⟨cc6, fc6, zc6⟩ := ((Blk.mk cc5 fc5 zc5).alloc _).call k
  obtain ⟨cd6, fd6, zd6⟩ := ((Blk.mk cd5 fd5 zd5).alloc _).call k
  obtain ⟨cr6, fr6, zr6⟩ := ((Blk.mk cr5 fr5 zr5).alloc _).call k
  obtain ⟨cxb6, fxb6, zxb6⟩ := ((Blk.mk cxb5 fxb5 zxb5).alloc _).call k
  obtain ⟨cxc6, fxc6, zxc6⟩ := ((Blk.mk cxc5 fxc5 zxc5).alloc _).call k
  obtain ⟨cxd6, fxd6, zxd6⟩ := ((Blk.mk cxd5 fxd5 zxd5).alloc _).call k
  obtain ⟨cs6, fs6, zs6⟩ := ((Blk.mk cs5 fs5 zs5).alloc _).call k
  obtain ⟨ct6, ft6, zt6⟩ := (Blk.new w5 _ _).call k
  clear k ca5 fa5 cb5 fb5 cc5 fc5 cd5 fd5 cr5 fr5 cxb5 fxb5 cxc5 fxc5 cxd5 fxd5 cs5 fs5 B5
  go_wp2_with fail
  refine (segMeet_any a b c d _ (gr_of ga) (gr_of gb) (gr_of gc) (gr_of gd)).mono ?_
  rintro e w7 ⟨rfl, k⟩
  have B7 := bvia B6 k
  obtain ⟨ca7, fa7, za7⟩ := (Blk.mk ca6 fa6 za6).call k
  obtain ⟨cb7, fb7, zb7⟩ := (Blk.mk cb6 fb6 zb6).call k
  obtain ⟨cc7, fc7, zc7⟩ := (Blk.mk cc6 fc6 zc6).call k
  obtain ⟨cd7, fd7, zd7⟩ := (Blk.mk cd6 fd6 zd6).call k
  obtain ⟨cr7, fr7, zr7⟩ := (Blk.mk cr6 fr6 zr6).call k
  obtain ⟨cxb7, fxb7, zxb7⟩ := (Blk.mk cxb6 fxb6 zxb6).call k
  obtain ⟨cxc7, fxc7, zxc7⟩ := (Blk.mk cxc6 fxc6 zxc6).call k
  obtain ⟨cxd7, fxd7, zxd7⟩ := (Blk.mk cxd6 fxd6 zxd6).call k
  obtain ⟨cs7, fs7, zs7⟩ := (Blk.mk cs6 fs6 zs6).call k
  obtain ⟨ct7, ft7, zt7⟩ := (Blk.mk ct6 ft6 zt6).call k
  clear k ca6 fa6 cb6 fb6 cc6 fc6 cd6 fd6 cr6 fr6 cxb6 fxb6 cxc6 fxc6 cxd6 fxd6 cs6 fs6 ct6 ft6 B6
  go_wp2
  exact bodyPost_ret (v := .tuple #[(meetM a b c d).v, .int .i64 0]) (by simp [results, Tryz.results15, go_sem, cr7, fr7]) rfl ⟨rfl, below_set7 B7 (by omega)⟩

theorem Meet_any (a b c d : Pt) (w : World) :
    Calls Tryz.prog 15 #[a.v, b.v, c.v, d.v] w fun e w' => e = .returned (.tuple #[(mtM a b c d).1.v, .int .i64 (mtM a b c d).2]) ∧ Below w.heap.size w w' := by
  by_cases ga : gridB a = true
  · by_cases gb : gridB b = true
    · by_cases gc : gridB c = true
      · by_cases gd : gridB d = true
        · by_cases h1 : eqP a b = true
          · have e : mtM a b c d = (zM, 4) := by unfold mtM; rw [if_neg (by simp [ga, gb, gc, gd]), if_pos (.inl h1)]
            rw [e]; exact Meet_edge1 a b c d w ga gb gc gd h1
          · by_cases h2 : eqP c d = true
            · have e : mtM a b c d = (zM, 4) := by unfold mtM; rw [if_neg (by simp [ga, gb, gc, gd]), if_pos (.inr h2)]
              rw [e]; exact Meet_edge2 a b c d w ga gb gc gd (by simpa using h1) h2
            · have e : mtM a b c d = (meetM a b c d, 0) := by unfold mtM; rw [if_neg (by simp [ga, gb, gc, gd]), if_neg (by simp [h1, h2])]
              rw [e]; exact Meet_ok a b c d w ga gb gc gd (by simpa using h1) (by simpa using h2)
        · have e : mtM a b c d = (zM, 3) := by unfold mtM; rw [if_pos (by simp [gd])]
          rw [e]; exact Meet_bad3 a b c d w ga gb gc (by simpa using gd)
      · have e : mtM a b c d = (zM, 3) := by unfold mtM; rw [if_pos (by simp [gc])]
        rw [e]; exact Meet_bad2 a b c d w ga gb (by simpa using gc)
    · have e : mtM a b c d = (zM, 3) := by unfold mtM; rw [if_pos (by simp [gb])]
      rw [e]; exact Meet_bad1 a b c d w ga (by simpa using gb)
  · have e : mtM a b c d = (zM, 3) := by unfold mtM; rw [if_pos (by simp [ga])]
    rw [e]; exact Meet_bad0 a b c d w (by simpa using ga)

end Go.Proofs.YtnkcbephceollabGreat
