import Derived.Test.YtnkcbephceollaaD2
namespace Go.Proofs.Ytnkcbephceollaa
open Go.RowKit
set_option linter.unusedSimpArgs false
set_option linter.unusedVariables false

/-- Where a place lies, as the program reckons it; and the error. -/
def locM (P : List (List Pt)) (q : Pt) : Int × Int :=
  if moreM 2000 P = true then (0, 2)
  else if goodB q = false then (0, 3)
  else if (edgesM P).all (fun e => goodB e.1) = false then (0, 3)
  else (whereM q 0 (edgesM P), 0)
theorem gd_good {p : Pt} (h : goodB p = true) : Gd p := by
  have := of_decide_eq_true h
  exact ⟨⟨by omega, by omega⟩, ⟨by omega, by omega⟩, ⟨by omega, by omega⟩⟩
theorem moreM_none : ∀ (P : List (List Pt)) (room : Int), moreM room P = false → 0 ≤ room → ((edgesM P).length : Int) ≤ room
  | [], room, _, hr => by simp [edgesM]; omega
  | r :: P, room, h, hr => by
    simp only [moreM] at h
    split at h
    · cases h
    · rename_i hb
      have ih := moreM_none P (room - r.length) h (by omega)
      have e : (edgesM (r :: P)).length = r.length + (edgesM P).length := by simp [edgesM, ringEdges_len]
      rw [e]; omega
theorem gdE_of (P : List (List Pt)) (h : (edgesM P).all (fun e => goodB e.1) = true) : GdE (edgesM P) := by
  have hall : ∀ e ∈ edgesM P, goodB e.1 = true := fun e he => List.all_eq_true.1 h e he
  have sec : ∀ e ∈ edgesM P, ∃ e' ∈ edgesM P, e'.1 = e.2 := fun e he => by
    unfold edgesM at *
    obtain ⟨r, hr, h⟩ := List.mem_flatMap.1 he
    obtain ⟨j, hj, rfl⟩ := List.mem_map.1 h
    have hj' : j < r.length := by simpa using hj
    exact ⟨edgeAt r (if j + 1 = r.length then 0 else j + 1), List.mem_flatMap.2 ⟨r, hr, List.mem_map.2 ⟨_, by simp; split <;> omega, rfl⟩⟩, rfl⟩
  intro j hj
  have hm : (edgesM P).getD j (zP, zP) ∈ edgesM P := by
    rw [List.getD_eq_getElem?_getD, List.getElem?_eq_getElem hj]; exact List.getElem_mem hj
  obtain ⟨e', he', e2⟩ := sec _ hm
  have g1 := hall _ hm
  have g2 := hall _ he'
  rw [e2] at g2
  exact ⟨gd_good g1, gd_good g2⟩

set_option maxHeartbeats 2000000 in
theorem polyLocate_any (v : Value) (P : List (List Pt)) (q : Pt) (w : World) (hP : PolyAt w v P) :
    Calls Try.prog 44 #[v, q.v] w fun e w' => e = .returned (.tuple #[.int .i64 (locM P q).1, .int .i64 (locM P q).2]) ∧ Below w.heap.size w w' := by
  have hP0 := hP
  obtain ⟨a, cap, rfl, h1, h2, _⟩ := hP
  unfold maxLen at h2
  have hP1 : ∀ o : Obj, PolyAt (w.alloc o) (.slice a P.length cap) P := fun o => hP0.later ((Below.refl _ _).alloc (Nat.le_refl _) _)
  cases c1 : moreM 2000 P
  case true =>
    have HE : Hid (locM P q = (0, 2)) := if_pos c1
    go_enter Try.func44, Try.ntmps44
    go_wp2_with fail
    refine (hasMore_any _ P _ (hP1 _)).mono ?_
    rintro e w1 ⟨rfl, rfl⟩
    rw [c1]
    clear c1
    go_wp2
    go_ret2
    exact ⟨by rw [HE.out]; rfl, (Below.refl _ _).alloc (Nat.le_refl _) _⟩
  have hT : (edgesM P).length ≤ 2000 := by have := moreM_none P 2000 c1 (by decide); omega
  have e1 : locM P q = _ := if_neg (by rw [c1]; decide)
  cases c2 : goodB q
  case false =>
    have HE : Hid (locM P q = (0, 3)) := e1.trans (if_pos c2)
    clear e1
    go_enter Try.func44, Try.ntmps44
    go_wp2_with fail
    refine (hasMore_any _ P _ (hP1 _)).mono ?_
    rintro e w1 ⟨rfl, rfl⟩
    rw [c1]
    go_wp2_with fail
    refine (IsGood_any q _).mono ?_
    rintro e w1 ⟨rfl, k⟩
    have B1 := bvia ((Below.refl _ _).alloc (Nat.le_refl _) _) k
    rw [c2]
    clear k c1 c2
    go_wp2
    go_ret2
    exact ⟨by rw [HE.out]; rfl, B1⟩
  have e2 := e1.trans (if_neg (by rw [c2]; decide))
  have gq := gd_good c2
  clear e1
  cases c3 : (edgesM P).all (fun e => goodB e.1)
  case false =>
    have HE : Hid (locM P q = (0, 3)) := e2.trans (if_pos c3)
    clear e2
    go_enter Try.func44, Try.ntmps44
    go_wp2_with fail
    refine (hasMore_any _ P _ (hP1 _)).mono ?_
    rintro e w1 ⟨rfl, rfl⟩
    rw [c1]
    go_wp2_with fail
    refine (IsGood_any q _).mono ?_
    rintro e w1 ⟨rfl, k⟩
    have B1 := bvia ((Below.refl _ _).alloc (Nat.le_refl _) _) k
    have hP2 := hP0.later B1
    rw [c2]
    clear k c1 c2
    go_wp2_with fail
    refine (Edges_any _ P _ hP2 (Nat.le_trans hT (by decide))).mono ?_
    rintro e w2 ⟨ev, rfl, hE2, k⟩
    have B2 := bvia B1 k
    clear k B1
    go_wp2_with fail
    refine (areGood_any _ (edgesM P) _ hE2).mono ?_
    rintro e w3 ⟨rfl, k⟩
    have B3 := bvia B2 k
    rw [c3]
    clear k B2 hE2 c3
    go_wp2
    go_ret2
    exact ⟨by rw [HE.out]; rfl, B3⟩
  have HE : Hid (locM P q = (whereM q 0 (edgesM P), 0)) := e2.trans (if_neg (by rw [c3]; decide))
  have hG := gdE_of P c3
  clear e2
  go_enter Try.func44, Try.ntmps44
  go_wp2_with fail
  refine (hasMore_any _ P _ (hP1 _)).mono ?_
  rintro e w1 ⟨rfl, rfl⟩
  rw [c1]
  go_wp2_with fail
  refine (IsGood_any q _).mono ?_
  rintro e w1 ⟨rfl, k⟩
  have B1 := bvia ((Below.refl _ _).alloc (Nat.le_refl _) _) k
  have hP2 := hP0.later B1
  obtain ⟨cq1, fq1, zq1⟩ := (Blk.new w _ _).call k
  rw [c2]
  clear k c1 c2
  go_wp2_with fail
  refine (Edges_any _ P _ hP2 (Nat.le_trans hT (by decide))).mono ?_
  rintro e w2 ⟨ev, rfl, hE2, k⟩
  have B2 := bvia B1 k
  obtain ⟨cq2, fq2, zq2⟩ := (Blk.mk cq1 fq1 zq1).call k
  clear k B1 cq1 fq1
  go_wp2_with fail
  refine (areGood_any _ (edgesM P) _ hE2).mono ?_
  rintro e w3 ⟨rfl, k⟩
  have B3 := bvia B2 k
  have hE3 := hE2.later k
  obtain ⟨cq3, fq3, zq3⟩ := (Blk.mk cq2 fq2 zq2).call k
  rw [c3]
  clear k B2 hE2 c3 cq2 fq2
  go_wp2_with fail
  refine (find_any q _ (edgesM P) _ hE3 hG gq).mono ?_
  rintro e w4 ⟨rfl, k⟩
  have B4 := bvia B3 k
  clear k B3 hE3 cq3 fq3
  go_wp2
  go_ret2
  exact ⟨by rw [HE.out]; rfl, B4⟩

set_option maxHeartbeats 2000000 in
theorem Locate_any (v : Value) (P : List (List Pt)) (q : Pt) (w : World) (hP : PolyAt w v P) :
    Calls Try.prog 18 #[v, q.v] w fun e w' => e = .returned (.tuple #[.int .i64 (locM P q).1, .int .i64 (locM P q).2]) ∧ Below w.heap.size w w' := by
  go_enter Try.func18, Try.ntmps18
  go_wp2_with fail
  refine (polyLocate_any v P q _ (hP.later ((Below.refl _ _).alloc (Nat.le_refl _) _))).mono ?_
  rintro e w1 ⟨rfl, k⟩
  have B1 := bvia ((Below.refl _ _).alloc (Nat.le_refl _) _) k
  clear k
  go_wp2
  go_ret2
  exact ⟨rfl, B1⟩
end Go.Proofs.Ytnkcbephceollaa
