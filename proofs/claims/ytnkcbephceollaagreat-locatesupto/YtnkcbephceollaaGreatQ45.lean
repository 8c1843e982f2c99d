import Derived.Test.YtnkcbephceollaaGreatD2
import Derived.Test.YtnkcbephceollaaGreatR14
namespace Go.Proofs.YtnkcbephceollaaGreat
open Go.RowKit
set_option linter.unusedSimpArgs false
set_option linter.unusedVariables false

/-- Where a place lies, as the program reckons it; and the error. -/
def locM (P : List (List Pt)) (q : Pt) : Int × Int :=
  if moreM 2000 P = true then (0, 2)
  else if goodB q = false then (0, 3)
  else if (edgesM P).all (fun e => goodB e.1) = false then (0, 3)
  else (whereM q 0 (edgesM P), 0)
theorem gd_good {p : Pt} (h : goodB p = true) : Gd p := by
  have := of_decide_eq_true h
  exact ⟨⟨by omega, by omega⟩, ⟨by omega, by omega⟩, ⟨by omega, by omega⟩⟩
theorem moreM_none : ∀ (P : List (List Pt)) (room : Int), moreM room P = false → 0 ≤ room → ((edgesM P).length : Int) ≤ room
  | [], room, _, hr => by simp [edgesM]; omega
  | r :: P, room, h, hr => by
    simp only [moreM] at h
    split at h
    · cases h
    · rename_i hb
      have ih := moreM_none P (room - r.length) h (by omega)
      have e : (edgesM (r :: P)).length = r.length + (edgesM P).length := by simp [edgesM, ringEdges_len]
      rw [e]; omega
theorem gdE_of (P : List (List Pt)) (h : (edgesM P).all (fun e => goodB e.1) = true) : GdE (edgesM P) := by
  have hall : ∀ e ∈ edgesM P, goodB e.1 = true := fun e he => List.all_eq_true.1 h e he
  have sec : ∀ e ∈ edgesM P, ∃ e' ∈ edgesM P, e'.1 = e.2 := fun e he => by
    unfold edgesM at *
    obtain ⟨r, hr, h⟩ := List.mem_flatMap.1 he
    obtain ⟨j, hj, rfl⟩ := List.mem_map.1 h
    have hj' : j < r.length := by simpa using hj
    exact ⟨edgeAt r (if j + 1 = r.length then 0 else j + 1), List.mem_flatMap.2 ⟨r, hr, List.mem_map.2 ⟨_, by simp; split <;> omega, rfl⟩⟩, rfl⟩
  intro j hj
  have hm : (edgesM P).getD j (zP, zP) ∈ edgesM P := by
    rw [List.getD_eq_getElem?_getD, List.getElem?_eq_getElem hj]; exact List.getElem_mem hj
  obtain ⟨e', he', e2⟩ := sec _ hm
  have g1 := hall _ hm
  have g2 := hall _ he'
  rw [e2] at g2
  exact ⟨gd_good g1, gd_good g2⟩

set_option maxHeartbeats 2000000 in
theorem polyLocate_any (v : Value) (P : List (List Pt)) (q : Pt) (w : World) (hP : PolyAt w v P) :
    Calls Tryz.prog 48 #[v, q.v] w fun e w' => e = .returned (.tuple #[.int .i64 (locM P q).1, .int .i64 (locM P q).2]) ∧ Below w.heap.size w w' := by
  have hP0 := hP
  obtain ⟨a, cap, rfl, h1, h2, _⟩ := hP
  unfold maxLen at h2
  have hP1 : ∀ o : Obj, PolyAt (w.alloc o) (.slice a P.length cap) P := fun o => hP0.later ((Below.refl _ _).alloc (Nat.le_refl _) _)
  cases c1 : moreM 2000 P
  case true =>
    have HE : Hid (locM P q = (0, 2)) := if_pos c1
    go_enter Tryz.func48, Tryz.ntmps48
    go_wp2_with fail
    refine (hasMore_any _ P _ (hP1 _)).mono ?_
    rintro e w1 ⟨rfl, rfl⟩
    rw [c1]
    clear c1
    go_wp2
    go_ret2
    exact ⟨by rw [HE.out]; rfl, (Below.refl _ _).alloc (Nat.le_refl _) _⟩
  have hT : (edgesM P).length ≤ 2000 := by have := moreM_none P 2000 c1 (by decide); omega
  have e1 : locM P q = _ := if_neg (by rw [c1]; decide)
  cases c2 : goodB q
  case false =>
    have HE : Hid (locM P q = (0, 3)) := e1.trans (if_pos c2)
    clear e1
    go_enter Tryz.func48, Tryz.ntmps48
    go_wp2_with fail
    refine (hasMore_any _ P _ (hP1 _)).mono ?_
    rintro e w1 ⟨rfl, rfl⟩
    rw [c1]
    go_wp2_with fail
    refine (IsGood_any q _).mono ?_
    rintro e w1 ⟨rfl, k⟩
    have B1 := bvia ((Below.refl _ _).alloc (Nat.le_refl _) _) k
    rw [c2]
    clear k c1 c2
    go_wp2
    go_ret2
    exact ⟨by rw [HE.out]; rfl, B1⟩
  have e2 := e1.trans (if_neg (by rw [c2]; decide))
  have gq := gd_good c2
  clear e1
  cases c3 : (edgesM P).all (fun e => goodB e.1)
  case false =>
    have HE : Hid (locM P q = (0, 3)) := e2.trans (if_pos c3)
    clear e2
    go_enter Tryz.func48, Tryz.ntmps48
    go_wp2_with fail
    refine (hasMore_any _ P _ (hP1 _)).mono ?_
    rintro e w1 ⟨rfl, rfl⟩
    rw [c1]
    go_wp2_with fail
    refine (IsGood_any q _).mono ?_
    rintro e w1 ⟨rfl, k⟩
    have B1 := bvia ((Below.refl _ _).alloc (Nat.le_refl _) _) k
    have hP2 := hP0.later B1
    rw [c2]
    clear k c1 c2
    go_wp2_with fail
    refine (Edges_any _ P _ hP2 (Nat.le_trans hT (by decide))).mono ?_
    rintro e w2 ⟨ev, rfl, hE2, k⟩
    have B2 := bvia B1 k
    clear k B1
    go_wp2_with fail
    refine (areGood_any _ (edgesM P) _ hE2).mono ?_
    rintro e w3 ⟨rfl, k⟩
    have B3 := bvia B2 k
    rw [c3]
    clear k B2 hE2 c3
    go_wp2
    go_ret2
    exact ⟨by rw [HE.out]; rfl, B3⟩
  have HE : Hid (locM P q = (whereM q 0 (edgesM P), 0)) := e2.trans (if_neg (by rw [c3]; decide))
  have hG := gdE_of P c3
  clear e2
  go_enter Tryz.func48, Tryz.ntmps48
  go_wp2_with fail
  refine (hasMore_any _ P _ (hP1 _)).mono ?_
  rintro e w1 ⟨rfl, rfl⟩
  rw [c1]
  go_wp2_with fail
  refine (IsGood_any q _).mono ?_
  rintro e w1 ⟨rfl, k⟩
  have B1 := bvia ((Below.refl _ _).alloc (Nat.le_refl _) _) k
  have hP2 := hP0.later B1
  obtain ⟨cq1, fq1, zq1⟩ := (Blk.new w _ _).call k
  rw [c2]
  clear k c1 c2
  go_wp2_with fail
  refine (Edges_any _ P _ hP2 (Nat.le_trans hT (by decide))).mono ?_
  rintro e w2 ⟨ev, rfl, hE2, k⟩
  have B2 := bvia B1 k
  obtain ⟨cq2, fq2, zq2⟩ := (Blk.mk cq1 fq1 zq1).call k
  clear k B1 cq1 fq1
  go_wp2_with fail
  refine (areGood_any _ (edgesM P) _ hE2).mono ?_
  rintro e w3 ⟨rfl, k⟩
  have B3 := bvia B2 k
  have hE3 := hE2.later k
  obtain ⟨cq3, fq3, zq3⟩ := (Blk.mk cq2 fq2 zq2).call k
  rw [c3]
  clear k B2 hE2 c3 cq2 fq2
  go_wp2_with fail
  refine (find_any q _ (edgesM P) _ hE3 hG gq).mono ?_
  rintro e w4 ⟨rfl, k⟩
  have B4 := bvia B3 k
  clear k B3 hE3 cq3 fq3
  go_wp2
  go_ret2
  exact ⟨by rw [HE.out]; rfl, B4⟩

set_option maxHeartbeats 2000000 in
theorem Locate_any (v : Value) (P : List (List Pt)) (q : Pt) (w : World) (hP : PolyAt w v P) :
    Calls Tryz.prog 26 #[v, q.v] w fun e w' => e = .returned (.tuple #[.int .i64 (locM P q).1, .int .i64 (locM P q).2]) ∧ Below w.heap.size w w' := by
  go_enter Tryz.func26, Tryz.ntmps26
  go_wp2_with fail
  refine (polyLocate_any v P q _ (hP.later ((Below.refl _ _).alloc (Nat.le_refl _) _))).mono ?_
  rintro e w1 ⟨rfl, k⟩
  have B1 := bvia ((Below.refl _ _).alloc (Nat.le_refl _) _) k
  clear k
  go_wp2
  go_ret2
  exact ⟨rfl, B1⟩
end Go.Proofs.YtnkcbephceollaaGreat
namespace Go.Proofs.YtnkcbephceollaaGreat
open Go.RowKit
set_option linter.unusedSimpArgs false
set_option linter.unusedVariables false

/-- What the document answers. -/
def rLocM (P : List (List Pt)) (q : Pt) : Int × Int :=
  if moreM 2000 P = true then (0, 2)
  else if (P.flatten ++ [q]).all goodB = false then (0, 3)
  else (rlocM P q, 0)

set_option maxRecDepth 100000 in
set_option maxHeartbeats 4000000 in
theorem rLocate_any (v : Value) (P : List (List Pt)) (q : Pt) (w : World) (hP : PolyAt w v P) (hS : ∀ i, i < P.length → (P.getD i []).length ≤ 1048576) :
    Calls Tryz.prog 27 #[v, q.v] w fun e w' => e = .returned (.tuple #[.int .i64 (rLocM P q).1, .int .i64 (rLocM P q).2]) ∧ Below w.heap.size w w' := by
  obtain ⟨i0, hi0, hz0, hz1, hz2⟩ := info_parts infoPoint
  have hP0 := hP
  obtain ⟨a, cap, rfl, h1, h2, h3⟩ := hP
  unfold maxLen at h2
  have hP1 : PolyAt (w.alloc (.cells #[.int .i64 q.x, .int .i64 q.y, .int .i64 q.d] 31)) (.slice a P.length cap) P := hP0.later ((Below.refl _ _).alloc (Nat.le_refl _) _)
  have HS := hide hS
  have H3 := hide h3
  have HR := hide (show rLocM P q = if moreM 2000 P = true then (0, 2) else if (P.flatten ++ [q]).all goodB = false then (0, 3) else (rlocM P q, 0) from rfl)
  clear hS h3
  generalize rLocM P q = res at *
  have Q0 := Blk.new w #[.int .i64 q.x, .int .i64 q.y, .int .i64 q.d] 31
  have B0 : Below w.heap.size w (w.alloc (.cells #[.int .i64 q.x, .int .i64 q.y, .int .i64 q.d] 31)) := (Below.refl _ _).alloc (Nat.le_refl _) _
  go_enter Tryz.func27, Tryz.ntmps27
  go_wp2_with fail
  generalize w.alloc (.cells #[.int .i64 q.x, .int .i64 q.y, .int .i64 q.d] 31) = W0 at *
  go_loop [6, 7] (fun nv iv => ∃ (i : Nat) (n : Int), iv = .int .i64 i ∧ nv = .int .i64 n ∧ i ≤ P.length ∧ 0 ≤ n ∧ n ≤ 2000 ∧ Hid (moreM 2000 P = moreM (2000 - n) (P.drop i))) (fun _ iv => P.length - (intOf iv).toNat)
  case atStart => exact ⟨0, 0, rfl, rfl, Nat.zero_le _, by decide, by decide, rfl⟩
  case round =>
    obtain ⟨i, n, rfl, rfl, hi, hn0, hn1, HB⟩ := hrel
    by_cases hlt : i < P.length
    · obtain ⟨b, off, rv, rfl, hb, hc, ⟨a', cap', rfl, g1, g2, _⟩⟩ := H3.out i hlt
      have hsz := HS.out i hlt
      have HC := hide (moreM_cons (2000 - n) P i hlt)
      have hc' := (B0.cell (p := ⟨b, off + i, none⟩) hb).trans hc
      generalize P.getD i [] = r at *
      have hi0' : (0 : Int) ≤ (i : Int) := Int.natCast_nonneg _
      have hi1' : (i : Int) < (P.length : Int) := by omega
      unfold maxLen at g2
      by_cases ht : 2000 - n < (r.length : Int)
      · have HE : Hid (res = (0, 2)) := HR.out.trans (if_pos (HB.out.trans (HC.out.trans (if_pos ht))))
        clear HB HC HR
        go_wp2
        go_ret2
        exact ⟨by rw [HE.out]; rfl, B0⟩
      · have HE : Hid (moreM 2000 P = moreM (2000 - (n + r.length)) (P.drop (i + 1))) := HB.out.trans (HC.out.trans ((if_neg ht).trans (by congr 1; omega)))
        clear HB HC
        go_wp2
        go_round
        case rel => exact ⟨i + 1, n + r.length, by go_num, rfl, by omega, by omega, by omega, HE⟩
        case measure => simp [intOf]; omega
    · have hmo : moreM 2000 P = false := by rw [HB.out, List.drop_of_length_le (by omega)]; rfl
      have hT : P.flatten.length ≤ 2000 := by have := moreM_none P 2000 hmo (by decide); rw [edgesM_len] at this; omega
      have HR2 := hide (HR.out.trans (if_neg (by rw [hmo]; decide)))
      have hi1' : ¬ (i : Int) < (P.length : Int) := by omega
      clear HR HB hmo
      have HL := fun wz (hq : goodB q = true) (hG : ∀ p ∈ P.flatten, goodB p = true) (hPz : PolyAt wz (.slice a P.length cap) P) => rlocate_any (.slice a P.length cap) P q wz hPz (by omega) hq hG
      have C1 := points_own _ P _ hP1 (by omega)
      generalize P.flatten = F at *
      go_wp2_with fail
      refine C1.mono ?_
      rintro e w1 ⟨pv, rfl, hown, k1⟩
      have Q1 := Q0.call k1
      obtain ⟨cq, fq, zq⟩ := id Q1
      have hn1 : F.length + 1 ≤ maxLen := by unfold maxLen; omega
      have hn2 : (F.length + 1) * 24 ≤ 140737488355328 := by omega
      have hb1 := k1.size
      have hnews := World.news_of_block (w := w1.alloc (.cells #[.int .i64 q.x, .int .i64 q.y, .int .i64 q.d] 31)) (cs := #[.int .i64 q.x, .int .i64 q.y, .int .i64 q.d]) (t := 31) (fr := (0, 0)) (heap_alloc_new w1 _)
      go_wp2_with (at_builtin; refine wpList_append_lies _ rfl _ _ _ rfl W0.heap.size 31 i0 _ 3 24 Tryz.underlying57 hi0 hz0 hz1 hz2 rfl (by omega) pv F.length (ptCells F) rfl (hown.alloc _) ⟨w1.heap.size, 0, none⟩ 1 1 (ptCell q) rfl rfl hnews (by simp [ptCell, Value.oneCell']) (by omega) hn1 hn2 (by simp; omega) _ rfl ?_; intro gg cp w2 hown2 hgrow hat hlt2)
      have hLR : RingAt w2 (.slice (some ⟨gg, 0, none⟩) (F.length + 1) cp) (F ++ [q]) := by
        have h := ring_of_own (w := w2) (base := W0.heap.size) (v := .slice (some ⟨gg, 0, none⟩) (F.length + 1) cp) (r := F ++ [q]) (by
          rw [ptCells_append]
          have e1 : (F ++ [q]).length = F.length + 1 := by simp
          have e2 : ptCells [q] = ptCell q := by simp [ptCells]
          rw [e1, e2]; exact hown2) (by simp; exact hn1)
        exact h
      have B2 : Below W0.heap.size W0 w2 := Below.grown (k1.alloc k1.size _) hgrow (by simp; omega) (fun k hk => (hown.lt k hk).1)
      have Q2 := Q0.call B2
      have B2' := bvia B0 B2
      have hP2 := hP0.later B2'
      obtain ⟨a2, cap2, e2, r1, r2, r3⟩ := hLR
      have el : (F ++ [q]).length = F.length + 1 := by simp
      rw [el] at e2 r1 r3
      obtain ⟨rfl, rfl⟩ : a2 = some ⟨gg, 0, none⟩ ∧ cap2 = cp := by simp at e2; exact ⟨e2.1.symm, e2.2.symm⟩
      unfold maxLen at r2
      have R3 := hide r3
      have HL := hide HL
      clear hown hown2 hgrow hat hnews C1 cq fq zq Q1 r3 e2 B2 k1 hP1 el hlt2
      generalize hLL : F ++ [q] = L at *
      go_loopw [9, 10] (fun iv _ w' => ∃ j : Nat, iv = .int .i64 j ∧ j ≤ F.length + 1 ∧ Blk w' w.heap.size #[.int .i64 q.x, .int .i64 q.y, .int .i64 q.d] ∧ Below w.heap.size w w' ∧ Below w2.heap.size w2 w' ∧ Hid (L.all goodB = (L.drop j).all goodB)) (fun iv _ _ => F.length + 1 - (intOf iv).toNat)
      case atStart => exact ⟨0, rfl, Nat.zero_le _, Q2, B2', Below.refl _ _, rfl⟩
      case round =>
        obtain ⟨j, rfl, hj, ⟨cq, fq, zq⟩, hbel, hb2, HB⟩ := hrel
        have hLlen : L.length = F.length + 1 := by rw [← hLL]; simp
        by_cases hjt : j < F.length + 1
        · obtain ⟨b, off, e3, hb, hp⟩ := R3.out j hjt
          simp at e3
          obtain ⟨rfl, rfl⟩ := e3
          obtain ⟨px, py, pd⟩ := hp.later hb2 hb
          have HC := hide (all_drop goodB L j (by omega) zP)
          generalize L.getD j zP = p at *
          have hj0 : (0 : Int) ≤ (j : Int) := Int.natCast_nonneg _
          have hj1 : (j : Int) < (F.length : Int) + 1 := by omega
          simp only [Nat.zero_add] at px py pd
          clear hp
          go_wp2_with fail
          refine (rgood_any p _).mono ?_
          rintro e' w3 ⟨rfl, k3⟩
          have Q3 := (Blk.mk cq fq zq).call k3
          have B3 := bvia hbel k3
          have B3' := bvia hb2 k3
          clear k3 cq fq zq hbel hb2 px py pd
          cases hg : goodB p
          · have HE : Hid (res = (0, 3)) := HR2.out.trans (if_pos (HB.out.trans (HC.out.trans (by rw [hg]; rfl))))
            clear HB HC
            go_wp2
            go_ret2
            exact ⟨by rw [HE.out]; rfl, B3⟩
          · have HE : Hid (L.all goodB = (L.drop (j + 1)).all goodB) := HB.out.trans (HC.out.trans (by rw [hg]; rfl))
            clear HB HC
            go_wp2
            go_roundw
            case rel => exact ⟨j + 1, by go_num, by omega, Q3, B3, B3', HE⟩
            case measure => simp [intOf]; omega
        · have hall : L.all goodB = true := by rw [HB.out, List.drop_of_length_le (by omega)]; rfl
          have HE : Hid (res = (rlocM P q, 0)) := HR2.out.trans (if_neg (by rw [hall]; decide))
          have hall2 : ∀ p ∈ F ++ [q], goodB p = true := by rw [hLL]; exact List.all_eq_true.1 hall
          have C := HL.out wr (hall2 q (by simp)) (fun p hp => hall2 p (by simp [hp])) (hP0.later hbel)
          have hj1 : ¬ (j : Int) < (F.length : Int) + 1 := by omega
          clear HB hall hall2 HR2
          go_wp2_with fail
          refine C.mono ?_
          rintro e' w3 ⟨rfl, k3⟩
          have B3 := bvia hbel k3
          clear k3
          go_wp2
          go_ret2
          exact ⟨by rw [HE.out]; rfl, B3⟩
end Go.Proofs.YtnkcbephceollaaGreat
