import Derived.Test.YtnkcbephceollaaQ6
import Derived.Test.YtnkcbephceollaaQ7
import Derived.Test.YtnkcbephceollaaQ10
namespace Go.Proofs.Ytnkcbephceollaa
open Go.RowKit
set_option linter.unusedSimpArgs false
set_option linter.unusedVariables false

theorem grE_of (P : List (List Pt)) (h : findM (fun e : Pt × Pt => !gridB e.1) 0 (edgesM P) = -1) : GrE (edgesM P) := by
  have hall := findM_none _ _ 0 (by decide) h
  intro j hj
  have hm : (edgesM P).getD j (zP, zP) ∈ edgesM P := by
    rw [List.getD_eq_getElem?_getD, List.getElem?_eq_getElem hj]; exact List.getElem_mem hj
  obtain ⟨e', he', e2⟩ := edge_second P _ hm
  have g1 := hall _ hm
  have g2 := hall _ he'
  simp only [Bool.not_eq_false'] at g1 g2
  rw [e2] at g2
  exact ⟨gr_of g1, gr_of g2⟩

set_option maxHeartbeats 2000000 in
theorem polyCheck_any (v : Value) (P : List (List Pt)) (w : World) (hP : PolyAt w v P) :
    Calls Try.prog 60 #[v] w fun e w' => e = .returned (.tuple #[.int .i64 (checkM P).1, .int .i64 (checkM P).2]) ∧ Below w.heap.size w w' := by
  have hP0 := hP
  obtain ⟨a, cap, rfl, h1, h2, _⟩ := hP
  unfold maxLen at h2
  by_cases c1 : 4 < P.length
  · have e : checkM P = (1, 0) := if_pos c1
    rw [e]
    go_enter Try.func60, Try.ntmps60
    go_wp2
    go_ret2
    exact ⟨rfl, Below.refl _ _⟩
  have e1 : checkM P = _ := if_neg c1
  by_cases c2 : badM 12 0 P = -1
  case neg =>
    have HE : Hid (checkM P = (2, badM 12 0 P)) := e1.trans (if_pos c2)
    have c2' : (badM 12 0 P != -1) = true := by simpa using c2
    clear e1 c2
    go_enter Try.func60, Try.ntmps60
    go_wp2_with fail
    refine (badRing_any _ P _ hP0).mono ?_
    rintro e w1 ⟨rfl, rfl⟩
    go_wp2
    go_ret2
    exact ⟨by rw [HE.out]; rfl, Below.refl _ _⟩
  have e2 := e1.trans (if_neg (fun k => k c2))
  have hT : (edgesM P).length ≤ 12 := by have := badM_none P 12 0 (by decide) c2 (by decide); omega
  have c2' : (badM 12 0 P != -1) = false := by simpa using c2
  clear e1
  by_cases c3 : findM (fun e : Pt × Pt => !gridB e.1) 0 (edgesM P) = -1
  case neg =>
    have HE : Hid (checkM P = (3, findM (fun e : Pt × Pt => !gridB e.1) 0 (edgesM P))) := e2.trans (if_pos c3)
    have c3' : (findM (fun e : Pt × Pt => !gridB e.1) 0 (edgesM P) != -1) = true := by simpa using c3
    clear e2 c2 c3
    go_enter Try.func60, Try.ntmps60
    go_wp2_with fail
    refine (badRing_any _ P _ hP0).mono ?_
    rintro e w1 ⟨rfl, rfl⟩
    go_wp2_with fail
    refine (Edges_any _ P _ hP0 (Nat.le_trans hT (by decide))).mono ?_
    rintro e w1 ⟨ev, rfl, hE1, B1⟩
    go_wp2_with fail
    refine (offGrid_any _ (edgesM P) _ hE1).mono ?_
    rintro e w2 ⟨rfl, k2⟩
    have B2 := bvia B1 k2
    clear k2 hE1 B1
    go_wp2
    go_ret2
    exact ⟨by rw [HE.out]; rfl, B2⟩
  have e3 := e2.trans (if_neg (fun k => k c3))
  have hG := grE_of P c3
  have c3' : (findM (fun e : Pt × Pt => !gridB e.1) 0 (edgesM P) != -1) = false := by simpa using c3
  clear e2
  by_cases c4 : findM (fun e : Pt × Pt => eqB e.1 e.2) 0 (edgesM P) = -1
  case neg =>
    have HE : Hid (checkM P = (4, findM (fun e : Pt × Pt => eqB e.1 e.2) 0 (edgesM P))) := e3.trans (if_pos c4)
    have c4' : (findM (fun e : Pt × Pt => eqB e.1 e.2) 0 (edgesM P) != -1) = true := by simpa using c4
    clear e3 c2 c3 c4 hG
    go_enter Try.func60, Try.ntmps60
    go_wp2_with fail
    refine (badRing_any _ P _ hP0).mono ?_
    rintro e w1 ⟨rfl, rfl⟩
    go_wp2_with fail
    refine (Edges_any _ P _ hP0 (Nat.le_trans hT (by decide))).mono ?_
    rintro e w1 ⟨ev, rfl, hE1, B1⟩
    go_wp2_with fail
    refine (offGrid_any _ (edgesM P) _ hE1).mono ?_
    rintro e w2 ⟨rfl, k2⟩
    have B2 := bvia B1 k2
    have hE2 := hE1.later k2
    clear k2 hE1 B1
    go_wp2_with fail
    refine (emptyEdge_any _ (edgesM P) _ hE2).mono ?_
    rintro e w3 ⟨rfl, k3⟩
    have B3 := bvia B2 k3
    clear k3 hE2 B2
    go_wp2
    go_ret2
    exact ⟨by rw [HE.out]; rfl, B3⟩
  have e4 := e3.trans (if_neg (fun k => k c4))
  have c4' : (findM (fun e : Pt × Pt => eqB e.1 e.2) 0 (edgesM P) != -1) = false := by simpa using c4
  clear e3
  by_cases c5 : findM (sharesM (edgesM P)) 0 (List.range (edgesM P).length) = -1
  case neg =>
    have HE : Hid (checkM P = (5, findM (sharesM (edgesM P)) 0 (List.range (edgesM P).length))) := e4.trans (if_pos c5)
    have c5' : (findM (sharesM (edgesM P)) 0 (List.range (edgesM P).length) != -1) = true := by simpa using c5
    clear e4 c2 c3 c4 c5
    go_enter Try.func60, Try.ntmps60
    go_wp2_with fail
    refine (badRing_any _ P _ hP0).mono ?_
    rintro e w1 ⟨rfl, rfl⟩
    go_wp2_with fail
    refine (Edges_any _ P _ hP0 (Nat.le_trans hT (by decide))).mono ?_
    rintro e w1 ⟨ev, rfl, hE1, B1⟩
    go_wp2_with fail
    refine (offGrid_any _ (edgesM P) _ hE1).mono ?_
    rintro e w2 ⟨rfl, k2⟩
    have B2 := bvia B1 k2
    have hE2 := hE1.later k2
    clear k2 hE1 B1
    go_wp2_with fail
    refine (emptyEdge_any _ (edgesM P) _ hE2).mono ?_
    rintro e w3 ⟨rfl, k3⟩
    have B3 := bvia B2 k3
    have hE3 := hE2.later k3
    clear k3 hE2 B2
    go_wp2_with fail
    refine (sharedEdge_any _ (edgesM P) _ hE3 hG).mono ?_
    rintro e w4 ⟨rfl, k4⟩
    have B4 := bvia B3 k4
    clear k4 hE3 B3
    go_wp2
    go_ret2
    exact ⟨by rw [HE.out]; rfl, B4⟩
  have HE : Hid (checkM P = (0, 0)) := e4.trans (if_neg (fun k => k c5))
  have c5' : (findM (sharesM (edgesM P)) 0 (List.range (edgesM P).length) != -1) = false := by simpa using c5
  clear e4 c2 c3 c4 c5
  go_enter Try.func60, Try.ntmps60
  go_wp2_with fail
  refine (badRing_any _ P _ hP0).mono ?_
  rintro e w1 ⟨rfl, rfl⟩
  go_wp2_with fail
  refine (Edges_any _ P _ hP0 (Nat.le_trans hT (by decide))).mono ?_
  rintro e w1 ⟨ev, rfl, hE1, B1⟩
  go_wp2_with fail
  refine (offGrid_any _ (edgesM P) _ hE1).mono ?_
  rintro e w2 ⟨rfl, k2⟩
  have B2 := bvia B1 k2
  have hE2 := hE1.later k2
  clear k2 hE1 B1
  go_wp2_with fail
  refine (emptyEdge_any _ (edgesM P) _ hE2).mono ?_
  rintro e w3 ⟨rfl, k3⟩
  have B3 := bvia B2 k3
  have hE3 := hE2.later k3
  clear k3 hE2 B2
  go_wp2_with fail
  refine (sharedEdge_any _ (edgesM P) _ hE3 hG).mono ?_
  rintro e w4 ⟨rfl, k4⟩
  have B4 := bvia B3 k4
  clear k4 hE3 B3
  go_wp2
  go_ret2
  exact ⟨by rw [HE.out]; rfl, B4⟩

set_option maxHeartbeats 2000000 in
theorem Check_any (v : Value) (P : List (List Pt)) (w : World) (hP : PolyAt w v P) :
    Calls Try.prog 45 #[v] w fun e w' => e = .returned (.tuple #[.int .i64 (checkM P).1, .int .i64 (checkM P).2]) ∧ Below w.heap.size w w' := by
  go_enter Try.func45, Try.ntmps45
  go_wp2_with fail
  refine (polyCheck_any v P _ hP).mono ?_
  rintro e w1 ⟨rfl, k⟩
  go_wp2
  go_ret2
  exact ⟨rfl, k⟩
end Go.Proofs.Ytnkcbephceollaa
