import Derived.Test.YtnkcbephceollaaGreatG0
import Derived.Test.YtnkcbephceollaaGreatB2
import Derived.Test.YtnkcbephceollaaGreatR7
namespace Go.Proofs.YtnkcbephceollaaGreat
open Go.RowKit
set_option linter.unusedSimpArgs false
set_option linter.unusedVariables false

theorem flatten_le (P : List (List Pt)) (i : Nat) : (P.take i).flatten.length ≤ P.flatten.length := by
  conv => rhs; rw [← List.take_append_drop i P, List.flatten_append]
  simp

def ptsTo (P : List (List Pt)) (i : Nat) : List Pt := (P.take i).flatten

set_option maxRecDepth 100000 in
set_option maxHeartbeats 2000000 in
theorem points_own (v : Value) (P : List (List Pt)) (w : World) (hP : PolyAt w v P) (hT : P.flatten.length ≤ 100000) :
    Calls Tryz.prog 44 #[v] w fun e w' => ∃ v', e = .returned v' ∧ w'.ownsRow w.heap.size 31 3 v' P.flatten.length (ptCells P.flatten) ∧ Below w.heap.size w w' := by
  obtain ⟨i0, hi0, hz0, hz1, hz2⟩ := info_parts infoPoint
  obtain ⟨a, cap, rfl, h1, h2, h3⟩ := hP
  unfold maxLen at h2
  go_enter Tryz.func44, Tryz.ntmps44
  go_wp2_with fail
  go_loopw [3, 4] (fun ev c w' => ∃ i : Nat, c = .int .i64 i ∧ i ≤ P.length ∧ w'.ownsRow w.heap.size 31 3 ev (ptsTo P i).length (ptCells (ptsTo P i)) ∧ Below w.heap.size w w') (fun _ c _ => P.length - (intOf c).toNat)
  case atStart => exact ⟨0, rfl, Nat.zero_le _, World.ownsRow_nil _ _ _ _, Below.refl _ _⟩
  case round =>
    obtain ⟨i, rfl, hi, hown, hbel⟩ := hrel
    by_cases hlt : i < P.length
    · obtain ⟨b, off, rv, rfl, hb, hc, hring⟩ := h3 i hlt
      have hc' := (hbel.cell (p := ⟨b, off + i, none⟩) hb).trans hc
      have ES : ptsTo P (i + 1) = ptsTo P i ++ P.getD i [] := by
        unfold ptsTo
        rw [List.take_succ_eq_append_getElem hlt, List.flatten_append, List.getD_eq_getElem?_getD, List.getElem?_eq_getElem hlt]; simp
      have HL : (ptsTo P (i + 1)).length ≤ P.flatten.length := flatten_le P (i + 1)
      rw [ES, List.length_append] at HL
      generalize hr : P.getD i [] = r at *
      obtain ⟨a', cap', rfl, g1, g2, g3⟩ := hring
      unfold maxLen at g2
      have hbs := hbel.size
      by_cases hn0 : 0 < r.length
      · obtain ⟨b', off', rfl, hb', _⟩ := g3 0 hn0
        have hpts : ∀ j, j < r.length → PtAt wr b' (off' + j * 3) (r.getD j zP) := fun j hj => by
          obtain ⟨b2, off2, e2, _, hp⟩ := g3 j hj
          simp at e2
          obtain ⟨rfl, rfl⟩ := e2
          exact hp.later hbel hb'
        have HES := hide ES
        have HN := hide (ring_news hpts)
        have hn1 : (ptsTo P i).length + r.length ≤ maxLen := by unfold maxLen; omega
        have hn2 : ((ptsTo P i).length + r.length) * 24 ≤ 140737488355328 := by omega
        clear h3 hc hr g3 hpts ES
        go_wp2_with (at_builtin; refine wpList_append_lies _ rfl _ _ _ rfl w.heap.size 31 i0 _ 3 24 Tryz.underlying57 hi0 hz0 hz1 hz2 rfl (by omega) u3 (ptsTo P i).length (ptCells (ptsTo P i)) rfl hown ⟨b', off', none⟩ r.length cap' (ptCells r) rfl (ptCells_len r) HN.out (ptCells_one r) hn0 hn1 hn2 hbs wr.heap.size rfl ?_; intro gg cp w1 hown1 hgrow hat hlt1)
        have HO : Hid (w1.ownsRow w.heap.size 31 3 (.slice (some ⟨gg, 0, none⟩) ((ptsTo P i).length + r.length) cp) (ptsTo P (i + 1)).length (ptCells (ptsTo P (i + 1)))) := by
          refine hide ?_
          rw [HES.out, ptCells_append, List.length_append]
          exact hown1
        have B1 : Below w.heap.size w w1 := Below.grown hbel hgrow hbs (fun k hk => (hown.lt k hk).1)
        clear hown hown1 hgrow hat HN HES
        go_wp2
        go_roundw
        case rel => exact ⟨i + 1, by go_num, by omega, HO, B1⟩
        case measure => simp [intOf]; omega
      · have er : r = [] := List.eq_nil_of_length_eq_zero (by omega)
        subst er
        rw [List.append_nil] at ES
        have HO : Hid (wr.ownsRow w.heap.size 31 3 u3 (ptsTo P (i + 1)).length (ptCells (ptsTo P (i + 1)))) := by
          refine hide ?_
          rw [ES]; exact hown
        simp only [List.length_nil] at hc'
        clear h3 hc hr g3 ES
        go_wp2_with (at_builtin; refine wpList_append_zero rfl _ _ _ rfl w.heap.size 31 i0 3 Tryz.underlying57 hi0 u3 (ptsTo P i).length (ptCells (ptsTo P i)) rfl hown a' cap' rfl ?_)
        clear hown
        go_wp2
        go_roundw
        case rel => exact ⟨i + 1, by go_num, by omega, HO, hbel⟩
        case measure => simp [intOf]; omega
    · have e : ptsTo P i = P.flatten := by unfold ptsTo; rw [List.take_of_length_le (by omega)]
      rw [e] at hown
      clear h3
      go_wp2
      go_ret
      exact ⟨_, rfl, hown, hbel⟩
theorem points_any (v : Value) (P : List (List Pt)) (w : World) (hP : PolyAt w v P) (hT : P.flatten.length ≤ 100000) :
    Calls Tryz.prog 44 #[v] w fun e w' => ∃ v', e = .returned v' ∧ RingAt w' v' P.flatten ∧ Below w.heap.size w w' := by
  refine (points_own v P w hP hT).mono ?_
  rintro e w' ⟨v', rfl, hown, hb⟩
  exact ⟨v', rfl, ring_of_own hown (by unfold maxLen; omega), hb⟩
end Go.Proofs.YtnkcbephceollaaGreat
