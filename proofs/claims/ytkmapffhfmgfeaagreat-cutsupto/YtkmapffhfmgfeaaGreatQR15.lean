import Derived.Test.YtkmapffhfmgfeaaGreatR14
import Derived.Test.YtkmapffhfmgfeaaGreatQD
import Derived.Test.YtkmapffhfmgfeaaGreatQG5
import Derived.Test.YtkmapffhfmgfeaaGreatR10
namespace Go.Proofs.YtkmapffhfmgfeaaGreat
open Go.RowKit
set_option linter.unusedSimpArgs false
set_option linter.unusedVariables false

/-- What the document answers. -/
def rLocM (P : List (List Pt)) (q : Pt) : Int × Int :=
  if moreM 2000 P = true then (0, 2)
  else if (P.flatten ++ [q]).all goodB = false then (0, 3)
  else (rlocM P q, 0)

set_option maxRecDepth 100000 in
set_option maxHeartbeats 4000000 in
theorem rLocate_any (v : Value) (P : List (List Pt)) (q : Pt) (w : World) (hP : PolyAt w v P) (hS : ∀ i, i < P.length → (P.getD i []).length ≤ 1048576) :
    Calls Tryz.prog 27 #[v, q.v] w fun e w' => e = .returned (.tuple #[.int .i64 (rLocM P q).1, .int .i64 (rLocM P q).2]) ∧ Below w.heap.size w w' := by
  obtain ⟨i0, hi0, hz0, hz1, hz2⟩ := info_parts infoPoint
  have hP0 := hP
  obtain ⟨a, cap, rfl, h1, h2, h3⟩ := hP
  unfold maxLen at h2
  have hP1 : PolyAt (w.alloc (.cells #[.int .i64 q.x, .int .i64 q.y, .int .i64 q.d] 31)) (.slice a P.length cap) P := hP0.later ((Below.refl _ _).alloc (Nat.le_refl _) _)
  have HS := hide hS
  have H3 := hide h3
  have HR := hide (show rLocM P q = if moreM 2000 P = true then (0, 2) else if (P.flatten ++ [q]).all goodB = false then (0, 3) else (rlocM P q, 0) from rfl)
  clear hS h3
  generalize rLocM P q = res at *
  have Q0 := Blk.new w #[.int .i64 q.x, .int .i64 q.y, .int .i64 q.d] 31
  have B0 : Below w.heap.size w (w.alloc (.cells #[.int .i64 q.x, .int .i64 q.y, .int .i64 q.d] 31)) := (Below.refl _ _).alloc (Nat.le_refl _) _
  go_enter Tryz.func27, Tryz.ntmps27
  go_wp2_with fail
  generalize w.alloc (.cells #[.int .i64 q.x, .int .i64 q.y, .int .i64 q.d] 31) = W0 at *
  go_loop [6, 7] (fun nv iv => ∃ (i : Nat) (n : Int), iv = .int .i64 i ∧ nv = .int .i64 n ∧ i ≤ P.length ∧ 0 ≤ n ∧ n ≤ 2000 ∧ Hid (moreM 2000 P = moreM (2000 - n) (P.drop i))) (fun _ iv => P.length - (intOf iv).toNat)
  case atStart => exact ⟨0, 0, rfl, rfl, Nat.zero_le _, by decide, by decide, rfl⟩
  case round =>
    obtain ⟨i, n, rfl, rfl, hi, hn0, hn1, HB⟩ := hrel
    by_cases hlt : i < P.length
    · obtain ⟨b, off, rv, rfl, hb, hc, ⟨a', cap', rfl, g1, g2, _⟩⟩ := H3.out i hlt
      have hsz := HS.out i hlt
      have HC := hide (moreM_cons (2000 - n) P i hlt)
      have hc' := (B0.cell (p := ⟨b, off + i, none⟩) hb).trans hc
      generalize P.getD i [] = r at *
      have hi0' : (0 : Int) ≤ (i : Int) := Int.natCast_nonneg _
      have hi1' : (i : Int) < (P.length : Int) := by omega
      unfold maxLen at g2
      by_cases ht : 2000 - n < (r.length : Int)
      · have HE : Hid (res = (0, 2)) := HR.out.trans (if_pos (HB.out.trans (HC.out.trans (if_pos ht))))
        clear HB HC HR
        go_wp2
        go_ret2
        exact ⟨by rw [HE.out]; rfl, B0⟩
      · have HE : Hid (moreM 2000 P = moreM (2000 - (n + r.length)) (P.drop (i + 1))) := HB.out.trans (HC.out.trans ((if_neg ht).trans (by congr 1; omega)))
        clear HB HC
        go_wp2
        go_round
        case rel => exact ⟨i + 1, n + r.length, by go_num, rfl, by omega, by omega, by omega, HE⟩
        case measure => simp [intOf]; omega
    · have hmo : moreM 2000 P = false := by rw [HB.out, List.drop_of_length_le (by omega)]; rfl
      have hT : P.flatten.length ≤ 2000 := by have := moreM_none P 2000 hmo (by decide); rw [edgesM_len] at this; omega
      have HR2 := hide (HR.out.trans (if_neg (by rw [hmo]; decide)))
      have hi1' : ¬ (i : Int) < (P.length : Int) := by omega
      clear HR HB hmo
      have HL := fun wz (hq : goodB q = true) (hG : ∀ p ∈ P.flatten, goodB p = true) (hPz : PolyAt wz (.slice a P.length cap) P) => rlocate_any (.slice a P.length cap) P q wz hPz (by omega) hq hG
      have C1 := points_own _ P _ hP1 (by omega)
      generalize P.flatten = F at *
      go_wp2_with fail
      refine C1.mono ?_
      rintro e w1 ⟨pv, rfl, hown, k1⟩
      have Q1 := Q0.call k1
      obtain ⟨cq, fq, zq⟩ := id Q1
      have hn1 : F.length + 1 ≤ maxLen := by unfold maxLen; omega
      have hn2 : (F.length + 1) * 24 ≤ 140737488355328 := by omega
      have hb1 := k1.size
      have hnews := World.news_of_block (w := w1.alloc (.cells #[.int .i64 q.x, .int .i64 q.y, .int .i64 q.d] 31)) (cs := #[.int .i64 q.x, .int .i64 q.y, .int .i64 q.d]) (t := 31) (fr := (0, 0)) (heap_alloc_new w1 _)
      go_wp2_with (at_builtin; refine wpList_append_lies _ rfl _ _ _ rfl W0.heap.size 31 i0 _ 3 24 Tryz.underlying57 hi0 hz0 hz1 hz2 rfl (by omega) pv F.length (ptCells F) rfl (hown.alloc _) ⟨w1.heap.size, 0, none⟩ 1 1 (ptCell q) rfl rfl hnews (by simp [ptCell, Value.oneCell']) (by omega) hn1 hn2 (by simp; omega) _ rfl ?_; intro gg cp w2 hown2 hgrow hat hlt2)
      have hLR : RingAt w2 (.slice (some ⟨gg, 0, none⟩) (F.length + 1) cp) (F ++ [q]) := by
        have h := ring_of_own (w := w2) (base := W0.heap.size) (v := .slice (some ⟨gg, 0, none⟩) (F.length + 1) cp) (r := F ++ [q]) (by
          rw [ptCells_append]
          have e1 : (F ++ [q]).length = F.length + 1 := by simp
          have e2 : ptCells [q] = ptCell q := by simp [ptCells]
          rw [e1, e2]; exact hown2) (by simp; exact hn1)
        exact h
      have B2 : Below W0.heap.size W0 w2 := Below.grown (k1.alloc k1.size _) hgrow (by simp; omega) (fun k hk => (hown.lt k hk).1)
      have Q2 := Q0.call B2
      have B2' := bvia B0 B2
      have hP2 := hP0.later B2'
      obtain ⟨a2, cap2, e2, r1, r2, r3⟩ := hLR
      have el : (F ++ [q]).length = F.length + 1 := by simp
      rw [el] at e2 r1 r3
      obtain ⟨rfl, rfl⟩ : a2 = some ⟨gg, 0, none⟩ ∧ cap2 = cp := by simp at e2; exact ⟨e2.1.symm, e2.2.symm⟩
      unfold maxLen at r2
      have R3 := hide r3
      have HL := hide HL
      clear hown hown2 hgrow hat hnews C1 cq fq zq Q1 r3 e2 B2 k1 hP1 el hlt2
      generalize hLL : F ++ [q] = L at *
      go_loopw [9, 10] (fun iv _ w' => ∃ j : Nat, iv = .int .i64 j ∧ j ≤ F.length + 1 ∧ Blk w' w.heap.size #[.int .i64 q.x, .int .i64 q.y, .int .i64 q.d] ∧ Below w.heap.size w w' ∧ Below w2.heap.size w2 w' ∧ Hid (L.all goodB = (L.drop j).all goodB)) (fun iv _ _ => F.length + 1 - (intOf iv).toNat)
      case atStart => exact ⟨0, rfl, Nat.zero_le _, Q2, B2', Below.refl _ _, rfl⟩
      case round =>
        obtain ⟨j, rfl, hj, ⟨cq, fq, zq⟩, hbel, hb2, HB⟩ := hrel
        have hLlen : L.length = F.length + 1 := by rw [← hLL]; simp
        by_cases hjt : j < F.length + 1
        · obtain ⟨b, off, e3, hb, hp⟩ := R3.out j hjt
          simp at e3
          obtain ⟨rfl, rfl⟩ := e3
          obtain ⟨px, py, pd⟩ := hp.later hb2 hb
          have HC := hide (all_drop goodB L j (by omega) zP)
          generalize L.getD j zP = p at *
          have hj0 : (0 : Int) ≤ (j : Int) := Int.natCast_nonneg _
          have hj1 : (j : Int) < (F.length : Int) + 1 := by omega
          simp only [Nat.zero_add] at px py pd
          clear hp
          go_wp2_with fail
          refine (rgood_any p _).mono ?_
          rintro e' w3 ⟨rfl, k3⟩
          have Q3 := (Blk.mk cq fq zq).call k3
          have B3 := bvia hbel k3
          have B3' := bvia hb2 k3
          clear k3 cq fq zq hbel hb2 px py pd
          cases hg : goodB p
          · have HE : Hid (res = (0, 3)) := HR2.out.trans (if_pos (HB.out.trans (HC.out.trans (by rw [hg]; rfl))))
            clear HB HC
            go_wp2
            go_ret2
            exact ⟨by rw [HE.out]; rfl, B3⟩
          · have HE : Hid (L.all goodB = (L.drop (j + 1)).all goodB) := HB.out.trans (HC.out.trans (by rw [hg]; rfl))
            clear HB HC
            go_wp2
            go_roundw
            case rel => exact ⟨j + 1, by go_num, by omega, Q3, B3, B3', HE⟩
            case measure => simp [intOf]; omega
        · have hall : L.all goodB = true := by rw [HB.out, List.drop_of_length_le (by omega)]; rfl
          have HE : Hid (res = (rlocM P q, 0)) := HR2.out.trans (if_neg (by rw [hall]; decide))
          have hall2 : ∀ p ∈ F ++ [q], goodB p = true := by rw [hLL]; exact List.all_eq_true.1 hall
          have C := HL.out wr (hall2 q (by simp)) (fun p hp => hall2 p (by simp [hp])) (hP0.later hbel)
          have hj1 : ¬ (j : Int) < (F.length : Int) + 1 := by omega
          clear HB hall hall2 HR2
          go_wp2_with fail
          refine C.mono ?_
          rintro e' w3 ⟨rfl, k3⟩
          have B3 := bvia hbel k3
          clear k3
          go_wp2
          go_ret2
          exact ⟨by rw [HE.out]; rfl, B3⟩
end Go.Proofs.YtkmapffhfmgfeaaGreat
namespace Go.Proofs.YtkmapffhfmgfeaaGreat
set_option linter.unusedVariables false
set_option linter.unusedSimpArgs false

theorem all_firsts (P : List (List Pt)) : (edgesM P).all (fun e => goodB e.1) = P.flatten.all goodB := by
  rw [← edges_firsts, List.all_map]; rfl
theorem first_edge {P : List (List Pt)} {v : Pt} (h : v ∈ P.flatten) : ∃ e ∈ edgesM P, e.1 = v := by
  rw [← edges_firsts] at h
  obtain ⟨e, he, rfl⟩ := List.mem_map.1 h
  exact ⟨e, he, rfl⟩
/-- The document's reckoning is the program's. -/
theorem rlocM_eq (P : List (List Pt)) (q : Pt) (hq : goodB q = true) (hG : ∀ p ∈ P.flatten, goodB p = true) : rlocM P q = whereM q 0 (edgesM P) := by
  have hd : ∀ v, goodB v = true → 0 < v.d := fun v h => by have := of_decide_eq_true h; omega
  have eany : (edgesM P).any (fun e => hasM e.1 e.2 q) = (edgesM P).any (fun e => onB q e.1 e.2) := by
    refine Bool.eq_iff_iff.2 ?_
    simp only [List.any_eq_true]
    constructor
    · rintro ⟨e, he, h⟩
      obtain ⟨m1, m2⟩ := edge_ends he
      exact ⟨e, he, by rw [← has_on (hd _ (hG _ m1)) (hd _ (hG _ m2)) (hd _ hq)]; exact h⟩
    · rintro ⟨e, he, h⟩
      obtain ⟨m1, m2⟩ := edge_ends he
      exact ⟨e, he, by rw [has_on (hd _ (hG _ m1)) (hd _ (hG _ m2)) (hd _ hq)]; exact h⟩
  unfold rlocM
  cases h : (edgesM P).any (fun e => onB q e.1 e.2)
  case true => rw [if_pos rfl, whereM_two q _ _ (eany.trans h)]
  case false =>
    rw [if_neg (by decide), whereM_eq q _ 0 (.inl rfl) (eany.trans h)]
    have hon : ∀ e ∈ edgesM P, onB q e.1 e.2 = false := fun e he => by
      cases k : onB q e.1 e.2
      · rfl
      · have : (edgesM P).any (fun e => onB q e.1 e.2) = true := List.any_eq_true.2 ⟨e, he, k⟩
        rw [h] at this; cases this
    have hne : ∀ v ∈ P.flatten, ¬ (xv q v = 0 ∧ yv q v = 0) := fun v hv ⟨h1, h2⟩ => by
      obtain ⟨e, he, rfl⟩ := first_edge hv
      have := on_first (hd _ (hG _ hv)) (hd _ (hG _ (edge_ends he).2)) (hd _ hq) h1 h2 (b := e.2)
      rw [hon e he] at this; cases this
    have hxr : xv q (rightP q) ≠ 0 := by
      have h0 := hd _ hq
      have e : xv q (rightP q) = q.d * q.d := by unfold xv rightP; grind
      rw [e]
      have := mul_pp h0 h0
      omega
    obtain ⟨k, hk, hA, _⟩ := far_free (p := q) (r := rightP q) hq (fun v hv => hd _ (hG v hv)) hne hxr
    rw [hk]
    have par := parity_up (o := outP k) (q := q) (P := P) (by simp [outP]) (hd _ hq) (fun v hv => hd _ (hG v hv)) (fun v hv => (out_xv k (hG v hv)).1) hA hon
    have e2 : parB (fun a b => overM a b q) (edgesM P) = parB (overB q) (edgesM P) := parB_congr fun e he => by
      obtain ⟨m1, m2⟩ := edge_ends he
      exact over_eq (hd _ (hG _ m1)) (hd _ (hG _ m2)) (hd _ hq)
    rw [e2, ← par, parB_count]
    unfold nCross
    by_cases c : (edgesM P).countP (fun e => crossB (outP k) q e.1 e.2) % 2 = 1
    · rw [if_pos c]; simp [c]
    · rw [if_neg c]; simp [c]
theorem locM_eq (P : List (List Pt)) (q : Pt) : rLocM P q = locM P q := by
  unfold rLocM locM
  cases h : moreM 2000 P
  case true => rfl
  case false =>
    rw [if_neg (show ¬ (false = true) by decide), if_neg (show ¬ (false = true) by decide)]
    rw [List.all_append, all_firsts]
    cases hF : P.flatten.all goodB
    · cases hq : goodB q <;> simp [hq]
    · cases hq : goodB q
      · simp [hq]
      · have e := rlocM_eq P q hq (fun p hp => List.all_eq_true.1 hF p hp)
        rw [e]
        simp [hq]
end Go.Proofs.YtkmapffhfmgfeaaGreat
namespace Go.Proofs.YtkmapffhfmgfeaaGreat
set_option linter.unusedVariables false
set_option linter.unusedSimpArgs false
set_option linter.unusedSectionVars false

/-- A piece with its sides. -/
structure Pc where
  p : Pt
  q : Pt
  la : Bool
  ra : Bool
  lb : Bool
  rb : Bool
def pcOf (EA EB : List (Pt × Pt)) (x : Pt × Pt) : Pc := ⟨x.1, x.2, parB (leftE x.1 x.2) EA, parB (rightE x.1 x.2) EA, parB (leftE x.1 x.2) EB, parB (rightE x.1 x.2) EB⟩
def piecesM (A B : List (List Pt)) : List Pc := (pairsL (edgesM A ++ edgesM B) (spotsM (edgesM A ++ edgesM B))).map (pcOf (edgesM A) (edgesM B))
def rpcOf (EA EB : List (Pt × Pt)) (all : List Pt) (x : Pt × Pt) : Pc := ⟨x.1, x.2, (rsidesM x.1 x.2 EA all).1, (rsidesM x.1 x.2 EA all).2, (rsidesM x.1 x.2 EB all).1, (rsidesM x.1 x.2 EB all).2⟩
def rpiecesM (A B : List (List Pt)) : List Pc := (rpairsM (edgesM A ++ edgesM B) (rspotsM (edgesM A ++ edgesM B))).map (rpcOf (edgesM A) (edgesM B) (A.flatten ++ B.flatten))

theorem ne_of_bef {u v : Pt} (h : befB u v = true ∨ befB v u = true) : u ≠ v := fun e => by
  subst e; rw [bef_irr] at h; simp at h
theorem good_both {A B : List (List Pt)} (hA : Sound A) (hB : Sound B) : Good (edgesM A ++ edgesM B) := by
  refine ⟨fun e he => ?_, fun e he => ?_, fun e he => ?_⟩
  · rcases List.mem_append.1 he with he | he
    · exact ⟨hA.gr _ (edge_ends he).1, hA.gr _ (edge_ends he).2⟩
    · exact ⟨hB.gr _ (edge_ends he).1, hB.gr _ (edge_ends he).2⟩
  · rcases List.mem_append.1 he with he | he
    · exact ne_of_bef (hA.ne e he)
    · exact ne_of_bef (hB.ne e he)
  · rcases List.mem_append.1 he with he | he
    · obtain ⟨e', h1, h2⟩ := edge_second A e he
      exact ⟨e', List.mem_append.2 (.inl h1), h2⟩
    · obtain ⟨e', h1, h2⟩ := edge_second B e he
      exact ⟨e', List.mem_append.2 (.inr h1), h2⟩
theorem end_spot {E : List (Pt × Pt)} (h : Good E) {e : Pt × Pt} (he : e ∈ E) : e.1 ∈ spotsM E := by
  obtain ⟨_, m⟩ := spots_spec h
  rw [← spots_eq h]
  obtain ⟨_, m2⟩ := rspots_spec h
  obtain ⟨i, hi, ei⟩ := List.mem_iff_getElem.1 he
  refine (m2 _).2 ⟨i, hi, .inl ?_⟩
  rw [List.getD_eq_getElem?_getD, List.getElem?_eq_getElem hi]
  show e.1 = (E[i]).1
  rw [ei]
theorem bef_or {u v : Pt} (hu : u.d = 1) (hv : v.d = 1) (h : u ≠ v) : befB u v = true ∨ befB v u = true := by
  rcases L_tri hu hv with t | t | t
  · exact .inl ((bef_L hu hv).2 t)
  · exact absurd t h
  · exact .inr ((bef_L hv hu).2 t)
/-- Of a piece no point lies within it and no edge comes across it. -/
theorem piece_clear {E : List (Pt × Pt)} (h : Good E) {x : Pt × Pt} (hx : x ∈ pairsL E (spotsM E)) :
    (Nice x.1 ∧ Nice x.2) ∧ befB x.1 x.2 = true ∧ (∀ e ∈ E, befB x.1 e.1 = true → befB e.1 x.2 = true → detM x.1 x.2 e.1 ≠ 0) ∧ (∀ e ∈ E, crossB x.1 x.2 e.1 e.2 = false) := by
  obtain ⟨s1, s2⟩ := spots_spec h
  obtain ⟨_, p2⟩ := pairs_spec E s1
  obtain ⟨e0, he0, ha⟩ := (p2 x).1 hx
  obtain ⟨m1, m2, f1, f2⟩ := AL_mem ha
  obtain ⟨hpq, hno⟩ := AL_next s1.srt ha
  have n1 := s1.nc _ m1
  have n2 := s1.nc _ m2
  have g0 := h.gr e0 he0
  have da : 0 < e0.1.d := by have := g0.1.d; omega
  have db : 0 < e0.2.d := by have := g0.2.d; omega
  have o1 : onB x.1 e0.1 e0.2 = true := by rw [← has_on da db n1.d]; exact f1
  have o2 : onB x.2 e0.1 e0.2 = true := by rw [← has_on da db n2.d]; exact f2
  have nab := bef_or g0.1.d g0.2.d (h.ne e0 he0)
  -- nothing of the spots lies between on that edge
  have none : ∀ y ∈ spotsM E, befB x.1 y = true → befB y x.2 = true → detM x.1 x.2 y ≠ 0 := fun y hy b1 b2 hl => by
    have ny := s1.nc y hy
    have := hno y hy b1 b2
    rw [has_on da db ny.d, on_between n1.d n2.d da db ny.d nab o1 o2 b1 b2 hl] at this
    cases this
  refine ⟨⟨n1, n2⟩, hpq, fun e he b1 b2 => none _ (end_spot h he) b1 b2, fun e he => ?_⟩
  cases hc : crossB x.1 x.2 e.1 e.2
  · rfl
  · exfalso
    have ge := h.gr e he
    obtain ⟨X, hX, xd, b1, b2, hl⟩ := cross_spot n1.d n2.d g0.1 g0.2 ge.1 ge.2 (h.ne e0 he0) (h.ne e he) hpq o1 o2 hc
    exact none X ((s2 X).2 ⟨e0, he0, e, he, hX⟩) b1 b2 hl
/-- The pieces are the document's. -/
theorem pieces_eq {A B : List (List Pt)} (hA : Sound A) (hB : Sound B) : rpiecesM A B = piecesM A B := by
  have hG := good_both hA hB
  unfold rpiecesM piecesM
  rw [spots_eq hG, pairs_eq (fun e he => hG.gr e he) (spots_spec hG).1]
  refine List.map_congr_left fun x hx => ?_
  obtain ⟨⟨n1, n2⟩, hpq, hpt, hed⟩ := piece_clear hG hx
  have hptA : ∀ v ∈ A.flatten, befB x.1 v = true → befB v x.2 = true → detM x.1 x.2 v ≠ 0 := fun v hv b1 b2 => by
    obtain ⟨e, he, rfl⟩ := first_edge hv
    exact hpt e (List.mem_append.2 (.inl he)) b1 b2
  have hptB : ∀ v ∈ B.flatten, befB x.1 v = true → befB v x.2 = true → detM x.1 x.2 v ≠ 0 := fun v hv b1 b2 => by
    obtain ⟨e, he, rfl⟩ := first_edge hv
    exact hpt e (List.mem_append.2 (.inr he)) b1 b2
  have hall : ∀ v ∈ A.flatten ++ B.flatten, befB x.1 v = true → befB v x.2 = true → detM x.1 x.2 v ≠ 0 := fun v hv => by
    rcases List.mem_append.1 hv with hv | hv
    · exact hptA v hv
    · exact hptB v hv
  have had : ∀ v ∈ A.flatten ++ B.flatten, 0 < v.d := fun v hv => by
    rcases List.mem_append.1 hv with hv | hv
    · have := (hA.gr v hv).d; omega
    · have := (hB.gr v hv).d; omega
  have sA := sides_eq hA n1.1 n2.1 hpq ⟨hptA, fun e he => hed e (List.mem_append.2 (.inl he))⟩ (fun v hv => List.mem_append.2 (.inl hv)) hall had
  have sB := sides_eq hB n1.1 n2.1 hpq ⟨hptB, fun e he => hed e (List.mem_append.2 (.inr he))⟩ (fun v hv => List.mem_append.2 (.inr hv)) hall had
  unfold rpcOf pcOf
  rw [← sA, ← sB]
/-- A polygon that Check has nothing against. -/
theorem sound_of {P : List (List Pt)} (h : (checkM P).1 = 0) : Sound P := by
  have u : checkM P = if 4 < P.length then (1, 0) else if badM 12 0 P ≠ -1 then (2, badM 12 0 P) else if findM (fun e : Pt × Pt => !gridB e.1) 0 (edgesM P) ≠ -1 then (3, findM (fun e : Pt × Pt => !gridB e.1) 0 (edgesM P)) else if findM (fun e : Pt × Pt => eqB e.1 e.2) 0 (edgesM P) ≠ -1 then (4, findM (fun e : Pt × Pt => eqB e.1 e.2) 0 (edgesM P)) else if findM (sharesM (edgesM P)) 0 (List.range (edgesM P).length) ≠ -1 then (5, findM (sharesM (edgesM P)) 0 (List.range (edgesM P).length)) else (0, 0) := rfl
  rw [u] at h
  by_cases c1 : 4 < P.length
  · rw [if_pos c1] at h; simp at h
  rw [if_neg c1] at h
  by_cases c2 : badM 12 0 P ≠ -1
  · rw [if_pos c2] at h; simp at h
  rw [if_neg c2] at h
  by_cases c3 : findM (fun e : Pt × Pt => !gridB e.1) 0 (edgesM P) ≠ -1
  · rw [if_pos c3] at h; simp at h
  rw [if_neg c3] at h
  by_cases c4 : findM (fun e : Pt × Pt => eqB e.1 e.2) 0 (edgesM P) ≠ -1
  · rw [if_pos c4] at h; simp at h
  rw [if_neg c4] at h
  by_cases c5 : findM (sharesM (edgesM P)) 0 (List.range (edgesM P).length) ≠ -1
  · rw [if_pos c5] at h; simp at h
  have d3 := findM_none _ _ 0 (by decide) (by omega : findM (fun e : Pt × Pt => !gridB e.1) 0 (edgesM P) = -1)
  have d4 := findM_none _ _ 0 (by decide) (by omega : findM (fun e : Pt × Pt => eqB e.1 e.2) 0 (edgesM P) = -1)
  have d5 := findM_none _ _ 0 (by decide) (by omega : findM (sharesM (edgesM P)) 0 (List.range (edgesM P).length) = -1)
  have gr : ∀ v ∈ P.flatten, Gr v := fun v hv => by
    obtain ⟨e, he, rfl⟩ := first_edge hv
    have := d3 e he
    exact gr_of (by simpa using this)
  refine ⟨gr, fun e he => ?_, fun i j hij hj => ?_⟩
  · obtain ⟨m1, m2⟩ := edge_ends he
    refine bef_or (gr _ m1).d (gr _ m2).d fun k => ?_
    have := d4 e he
    rw [k] at this
    simp [eqB] at this
  · have := d5 j (by simpa using hj)
    unfold sharesM at this
    rw [← Bool.not_eq_true, List.any_eq_true] at this
    cases k : alongB ((edgesM P).getD j (zP, zP)) ((edgesM P).getD i (zP, zP))
    · rfl
    · refine absurd ⟨(edgesM P).getD i (zP, zP), ?_, k⟩ this
      rw [List.mem_take_iff_getElem]
      refine ⟨i, by omega, ?_⟩
      rw [List.getD_eq_getElem?_getD, List.getElem?_eq_getElem (by omega)]; rfl
end Go.Proofs.YtkmapffhfmgfeaaGreat
