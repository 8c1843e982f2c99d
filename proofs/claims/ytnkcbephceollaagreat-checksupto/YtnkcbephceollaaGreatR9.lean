import Derived.Test.YtnkcbephceollaaGreatR8
import Derived.Deep.RegionWith
import Derived.Deep.Cut
import Derived.Deep.DeepCutAuto
namespace Go.Proofs.YtnkcbephceollaaGreat
open Go.RowKit
set_option linter.unusedSimpArgs false
set_option linter.unusedVariables false

theorem Blk.put7 {w : World} {p : Nat} {x0 x1 x2 x3 x4 x5 x6 y0 y1 y2 y3 y4 y5 y6 : Value} (h : Blk w p #[x0, x1, x2, x3, x4, x5, x6]) :
    Blk (((((((w.setCell ⟨p, 0, none⟩ y0).setCell ⟨p, 1, none⟩ y1).setCell ⟨p, 2, none⟩ y2).setCell ⟨p, 3, none⟩ y3).setCell ⟨p, 4, none⟩ y4).setCell ⟨p, 5, none⟩ y5).setCell ⟨p, 6, none⟩ y6) p #[y0, y1, y2, y3, y4, y5, y6] := by
  have t0 := h.set 0 (by simp) y0
  simp only [List.setIfInBounds_toArray, List.set_cons_zero, List.set_cons_succ] at t0
  have t1 := t0.set 1 (by simp) y1
  simp only [List.setIfInBounds_toArray, List.set_cons_zero, List.set_cons_succ] at t1
  have t2 := t1.set 2 (by simp) y2
  simp only [List.setIfInBounds_toArray, List.set_cons_zero, List.set_cons_succ] at t2
  have t3 := t2.set 3 (by simp) y3
  simp only [List.setIfInBounds_toArray, List.set_cons_zero, List.set_cons_succ] at t3
  have t4 := t3.set 4 (by simp) y4
  simp only [List.setIfInBounds_toArray, List.set_cons_zero, List.set_cons_succ] at t4
  have t5 := t4.set 5 (by simp) y5
  simp only [List.setIfInBounds_toArray, List.set_cons_zero, List.set_cons_succ] at t5
  have t6 := t5.set 6 (by simp) y6
  simp only [List.setIfInBounds_toArray, List.set_cons_zero, List.set_cons_succ] at t6
  exact t6
theorem Blk.off7 {w : World} {b p : Nat} {vs : Array Value} {y0 y1 y2 y3 y4 y5 y6 : Value} (h : Blk w b vs) (hne : b ≠ p) :
    Blk (((((((w.setCell ⟨p, 0, none⟩ y0).setCell ⟨p, 1, none⟩ y1).setCell ⟨p, 2, none⟩ y2).setCell ⟨p, 3, none⟩ y3).setCell ⟨p, 4, none⟩ y4).setCell ⟨p, 5, none⟩ y5).setCell ⟨p, 6, none⟩ y6) b vs :=
  ((((((h.off hne 0 y0).off hne 1 y1).off hne 2 y2).off hne 3 y3).off hne 4 y4).off hne 5 y5).off hne 6 y6
def NzE (E : List (Pt × Pt)) : Prop := ∀ j, j < E.length → (E.getD j (zP, zP)).1 ≠ (E.getD j (zP, zP)).2
theorem NzE.take {E : List (Pt × Pt)} (h : NzE E) (k : Nat) : NzE (E.take k) := by
  intro j hj
  simp at hj
  have : (E.take k).getD j (zP, zP) = E.getD j (zP, zP) := by
    rw [List.getD_eq_getElem?_getD, List.getD_eq_getElem?_getD, List.getElem?_take_of_lt (by omega)]
  rw [this]; exact h j (by omega)
theorem nzE_of (P : List (List Pt)) (h : findM (fun e : Pt × Pt => eqB e.1 e.2) 0 (edgesM P) = -1) : NzE (edgesM P) := by
  have hall := findM_none _ _ 0 (by decide) h
  intro j hj
  have hm : (edgesM P).getD j (zP, zP) ∈ edgesM P := by
    rw [List.getD_eq_getElem?_getD, List.getElem?_eq_getElem hj]; exact List.getElem_mem hj
  have g := hall _ hm
  exact eqP_false g

set_option maxRecDepth 100000 in
set_option maxHeartbeats 2000000 in
theorem rshares_any (g : Pt × Pt) (v : Value) (E : List (Pt × Pt)) (w : World) (hE : SegsAt w v E) (hg1 : Gr g.1) (hg2 : Gr g.2) (hgn : g.1 ≠ g.2) (hG : GrE E) (hZ : NzE E) :
    Calls Tryz.prog 46 #[sg g.1 g.2, v] w fun e w' => e = .returned (.bool (E.any (alongB g))) ∧ Below w.heap.size w w' := by
  obtain ⟨a, cap, rfl, h1, h2, h3⟩ := hE
  unfold maxLen at h2
  go_enter Tryz.func46, Tryz.ntmps46
  go_wp2_with fail
  go_loopw [5, 6] (fun i _ w' => ∃ k : Nat, i = .int .i64 k ∧ k ≤ E.length ∧ Blk w' w.heap.size #[.int .i64 g.1.x, .int .i64 g.1.y, .int .i64 g.1.d, .int .i64 g.2.x, .int .i64 g.2.y, .int .i64 g.2.d] ∧ Below w.heap.size w w' ∧ Hid (E.any (alongB g) = (E.drop k).any (alongB g))) (fun i _ _ => E.length - (intOf i).toNat)
  case atStart => exact ⟨0, rfl, Nat.zero_le _, Blk.new w _ _, (Below.refl _ _).alloc (Nat.le_refl _) _, rfl⟩
  case round =>
    obtain ⟨k, rfl, hk, ⟨cg, fg, zg⟩, hbel, HB⟩ := hrel
    by_cases hlt : k < E.length
    · obtain ⟨b, off, rfl, hb, hs⟩ := h3 k hlt
      have hs' := hs.later hbel hb
      have HC := hide (any_drop (alongB g) E k hlt (zP, zP))
      have hgr := hG k hlt
      have hnz := hZ k hlt
      generalize E.getD k (zP, zP) = e at *
      obtain ⟨he1, he2⟩ := hgr
      have HR := hide (rmeet_eq hg1.d hg2.d he1.d he2.d hgn hnz)
      obtain ⟨c0, c1, c2, c3, c4, c5⟩ := hs'
      have hbw : b < wr.heap.size := by have := hbel.size; omega
      have hbs := hbel.size
      have cg0 := cg 0
      have cg1 := cg 1
      have cg2 := cg 2
      have cg3 := cg 3
      have cg4 := cg 4
      have cg5 := cg 5
      simp at cg0 cg1 cg2 cg3 cg4 cg5
      have hk0 : (0 : Int) ≤ (k : Int) := Int.natCast_nonneg _
      have hk1 : (k : Int) < (E.length : Int) := by omega
      clear h3 hs hG hZ hnz hgn
      go_upto_region 4 with fail
      go_cut [6] (fun mp w' => ∃ mb : Nat, mp = .pointer (some ⟨mb, 0, none⟩) ∧ w'.cell? ⟨mb, 0, none⟩ = some (.int .i64 (rmeetM g.1 g.2 e.1 e.2).k) ∧ Blk w' w.heap.size #[.int .i64 g.1.x, .int .i64 g.1.y, .int .i64 g.1.d, .int .i64 g.2.x, .int .i64 g.2.y, .int .i64 g.2.d] ∧ Below w.heap.size w w')
      case first =>
        go_region_with (go_at_call 41; refine (rmeet_any g.1 g.2 e.1 e.2 _ hg1 hg2 he1 he2).mono ?_; rintro e' w1 ⟨rfl, k1⟩; have hzr := k1.size; obtain ⟨hc1, hf1⟩ := bcell k1)
        all_goals
          clear c0 c1 c2 c3 c4 c5 cg0 cg1 cg2 cg3 cg4 cg5 hc1 hf1 HB HC HR
          go_wp2_with fail
          go_meet
          first
            | (have kx : Below wr.drew.heap.size wr.drew w1 := k1; exact ⟨w1.heap.size, rfl, (Blk.new w1 _ _).cell 0, ((Blk.mk cg fg zg).drew.call k1).alloc _, (bvia hbel.drew k1).alloc (bvia hbel.drew k1).size _⟩)
            | exact ⟨wr.heap.size, rfl, ((((Blk.new wr _ _).drew).call k1).put7).cell 0, ((((Blk.mk cg fg zg).alloc _).drew).call k1).off7 (by omega), below_set7 (bvia ((hbel.alloc hbel.size _).drew) k1) hbs⟩
      case rest =>
        clear c0 c1 c2 c3 c4 c5 cg0 cg1 cg2 cg3 cg4 cg5 cg fg zg
        obtain ⟨mb, rfl, cm, hgb, B1⟩ := hcut
        rw [HR.out] at cm
        clear HR hbel
        by_cases ht : ((meetM g.1 g.2 e.1 e.2).k == 2) = true
        · have HE : Hid (E.any (alongB g) = true) := HB.out.trans (HC.out.trans (by rw [show alongB g e = true from ht]; rfl))
          clear HB HC
          go_wp2
          go_ret
          exact ⟨ret_bool HE.out.symm, B1⟩
        · have ht' : ((meetM g.1 g.2 e.1 e.2).k == 2) = false := by simpa using ht
          have HE : Hid (E.any (alongB g) = (E.drop (k + 1)).any (alongB g)) := HB.out.trans (HC.out.trans (by rw [show alongB g e = false from ht']; rfl))
          clear HB HC ht
          go_wp2
          go_roundw
          case rel => exact ⟨k + 1, by go_num, by omega, hgb, B1, HE⟩
          case measure => simp [intOf]; omega
    · have HE : Hid (E.any (alongB g) = false) := by rw [HB.out, List.drop_of_length_le (by omega)]; rfl
      clear h3 HB hG hZ
      go_wp2
      go_ret
      exact ⟨ret_bool HE.out.symm, hbel⟩
end Go.Proofs.YtnkcbephceollaaGreat
