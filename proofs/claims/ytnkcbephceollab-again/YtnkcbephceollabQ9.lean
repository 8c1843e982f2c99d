import Derived.Test.YtnkcbephceollabQ8
namespace Go.Proofs.Ytnkcbephceollab
open Go.RowKit
set_option linter.unusedSimpArgs false
set_option linter.unusedVariables false

/-- Are there more points than so many? -/
def moreM : Int → List (List Pt) → Bool
  | _, [] => false
  | room, r :: rs => if room < (r.length : Int) then true else moreM (room - r.length) rs
theorem moreM_cons (room : Int) (P : List (List Pt)) (k : Nat) (hk : k < P.length) :
    moreM room (P.drop k) = if room < ((P.getD k []).length : Int) then true else moreM (room - (P.getD k []).length) (P.drop (k + 1)) := by
  rw [List.drop_eq_getElem_cons hk]
  simp only [moreM]
  rw [List.getD_eq_getElem?_getD, List.getElem?_eq_getElem hk]; rfl

set_option maxRecDepth 100000 in
set_option maxHeartbeats 1000000 in
theorem hasMore_any (v : Value) (P : List (List Pt)) (w : World) (hP : PolyAt w v P) :
    Calls Try.prog 44 #[v, .int .i64 2000] w fun e w' => e = .returned (.bool (moreM 2000 P)) ∧ w' = w := by
  obtain ⟨a, cap, rfl, h1, h2, h3⟩ := hP
  unfold maxLen at h2
  go_enter Try.func44, Try.ntmps44
  go_wp2_with fail
  go_loop [5, 7, 11] (fun room _ i => ∃ (k : Nat) (rm : Int), i = .int .i64 k ∧ room = .int .i64 rm ∧ k ≤ P.length ∧ 0 ≤ rm ∧ rm ≤ 2000 ∧ Hid (moreM 2000 P = moreM rm (P.drop k))) (fun _ _ i => P.length - (intOf i).toNat)
  case atStart => exact ⟨0, 2000, rfl, rfl, Nat.zero_le _, by decide, by decide, rfl⟩
  case round =>
    obtain ⟨k, rm, rfl, rfl, hk, hr0, hr1, HB⟩ := hrel
    by_cases hlt : k < P.length
    · obtain ⟨b, off, rv, rfl, hb, hc, ⟨a', cap', rfl, g1, g2, _⟩⟩ := h3 k hlt
      have HC := hide (moreM_cons rm P k hlt)
      generalize P.getD k [] = r at *
      clear h3
      unfold maxLen at g2
      by_cases ht : rm < (r.length : Int)
      · have HE : Hid (moreM 2000 P = true) := HB.out.trans (HC.out.trans (if_pos ht))
        clear HB HC
        go_wp2
        go_ret
        exact ⟨ret_bool HE.out.symm, rfl⟩
      · have HE : Hid (moreM 2000 P = moreM (rm - r.length) (P.drop (k + 1))) := HB.out.trans (HC.out.trans (if_neg ht))
        clear HB HC
        go_wp2
        go_round
        case rel => exact ⟨k + 1, rm - r.length, by go_num, rfl, by omega, by omega, by omega, HE⟩
        case measure => simp [intOf]; omega
    · have HE : Hid (moreM 2000 P = false) := by rw [HB.out, List.drop_of_length_le (by omega)]; rfl
      clear h3 HB
      go_wp2
      go_ret
      exact ⟨ret_bool HE.out.symm, rfl⟩

/-- Where a place lies to edges that are looked at in turn. -/
def whereM (q : Pt) : Int → List (Pt × Pt) → Int
  | n, [] => n
  | n, e :: l => if hasM e.1 e.2 q = true then 2 else whereM q (if overM e.1 e.2 q = true then otherM n else n) l
theorem whereM_cons (q : Pt) (n : Int) (l : List (Pt × Pt)) (k : Nat) (hk : k < l.length) :
    whereM q n (l.drop k) = if hasM (l.getD k (zP, zP)).1 (l.getD k (zP, zP)).2 q = true then 2 else whereM q (if overM (l.getD k (zP, zP)).1 (l.getD k (zP, zP)).2 q = true then otherM n else n) (l.drop (k + 1)) := by
  rw [List.drop_eq_getElem_cons hk]
  simp only [whereM]
  rw [List.getD_eq_getElem?_getD, List.getElem?_eq_getElem hk]; rfl
theorem all_drop {α : Type} (f : α → Bool) (l : List α) (k : Nat) (hk : k < l.length) (d : α) : (l.drop k).all f = (f (l.getD k d) && (l.drop (k + 1)).all f) := by
  rw [List.drop_eq_getElem_cons hk, List.all_cons, List.getD_eq_getElem?_getD, List.getElem?_eq_getElem hk]; rfl

set_option maxRecDepth 100000 in
set_option maxHeartbeats 1000000 in
theorem areGood_any (v : Value) (E : List (Pt × Pt)) (w : World) (hE : SegsAt w v E) :
    Calls Try.prog 46 #[v] w fun e w' => e = .returned (.bool (E.all (fun e => goodB e.1))) ∧ Below w.heap.size w w' := by
  obtain ⟨a, cap, rfl, h1, h2, h3⟩ := hE
  unfold maxLen at h2
  go_enter Try.func46, Try.ntmps46
  go_wp2_with fail
  go_loopw [4, 7] (fun _ i w' => ∃ k : Nat, i = .int .i64 k ∧ k ≤ E.length ∧ Below w.heap.size w w' ∧ Hid (E.all (fun e => goodB e.1) = (E.drop k).all (fun e => goodB e.1))) (fun _ i _ => E.length - (intOf i).toNat)
  case atStart => exact ⟨0, rfl, Nat.zero_le _, Below.refl _ _, rfl⟩
  case round =>
    obtain ⟨k, rfl, hk, hbel, HB⟩ := hrel
    by_cases hlt : k < E.length
    · obtain ⟨b, off, rfl, hb, hs⟩ := h3 k hlt
      have hs' := hs.later hbel hb
      have HC := hide (all_drop (fun e : Pt × Pt => goodB e.1) E k hlt (zP, zP))
      generalize E.getD k (zP, zP) = e at *
      obtain ⟨c0, c1, c2, c3, c4, c5⟩ := hs'
      clear h3 hs
      go_wp2_with fail
      refine (IsGood_any e.1 _).mono ?_
      rintro e' w1 ⟨rfl, k1⟩
      have B1 := bvia (hbel.alloc hbel.size _) k1
      clear k1 c0 c1 c2 c3 c4 c5
      cases ht : goodB e.1
      · have HE : Hid (E.all (fun e => goodB e.1) = false) := HB.out.trans (HC.out.trans (by simp [ht]))
        clear HB HC
        go_wp2
        go_ret
        exact ⟨ret_bool HE.out.symm, B1⟩
      · have HE : Hid (E.all (fun e => goodB e.1) = (E.drop (k + 1)).all (fun e => goodB e.1)) := HB.out.trans (HC.out.trans (by simp [ht]))
        clear HB HC
        go_wp2
        go_roundw
        case rel => exact ⟨k + 1, by go_num, by omega, B1, HE⟩
        case measure => simp [intOf]; omega
    · have HE : Hid (E.all (fun e => goodB e.1) = true) := by rw [HB.out, List.drop_of_length_le (by omega)]; rfl
      clear h3 HB
      go_wp2
      go_ret
      exact ⟨ret_bool HE.out.symm, hbel⟩
def GdE (E : List (Pt × Pt)) : Prop := ∀ j, j < E.length → Gd (E.getD j (zP, zP)).1 ∧ Gd (E.getD j (zP, zP)).2
set_option maxRecDepth 100000 in
set_option maxHeartbeats 1000000 in
theorem find_any (q : Pt) (v : Value) (E : List (Pt × Pt)) (w : World) (hE : SegsAt w v E) (hG : GdE E) (hq : Gd q) :
    Calls Try.prog 47 #[v, q.v] w fun e w' => e = .returned (.int .i64 (whereM q 0 E)) ∧ Below w.heap.size w w' := by
  obtain ⟨a, cap, rfl, h1, h2, h3⟩ := hE
  unfold maxLen at h2
  go_enter Try.func47, Try.ntmps47
  go_wp2_with fail
  go_loopw [5, 7, 10] (fun wh _ i w' => ∃ (k : Nat) (n : Int), i = .int .i64 k ∧ wh = .int .i64 n ∧ k ≤ E.length ∧ Blk w' w.heap.size #[.int .i64 q.x, .int .i64 q.y, .int .i64 q.d] ∧ Below w.heap.size w w' ∧ Hid (whereM q 0 E = whereM q n (E.drop k))) (fun _ _ i _ => E.length - (intOf i).toNat)
  case atStart => exact ⟨0, 0, rfl, rfl, Nat.zero_le _, Blk.new w _ _, (Below.refl _ _).alloc (Nat.le_refl _) _, rfl⟩
  case round =>
    obtain ⟨k, n, rfl, rfl, hk, ⟨cq, fq, zq⟩, hbel, HB⟩ := hrel
    by_cases hlt : k < E.length
    · obtain ⟨b, off, rfl, hb, hs⟩ := h3 k hlt
      have hs' := hs.later hbel hb
      have HC := hide (whereM_cons q n E k hlt)
      have hgr := hG k hlt
      generalize E.getD k (zP, zP) = e at *
      obtain ⟨he1, he2⟩ := hgr
      obtain ⟨c0, c1, c2, c3, c4, c5⟩ := hs'
      clear h3 hs hG
      go_wp2_with fail
      refine (Has_any e.1 e.2 q _ he1 he2 hq).mono ?_
      rintro e' w1 ⟨rfl, k1⟩
      have B1 := bvia (hbel.alloc hbel.size _) k1
      obtain ⟨cq1, fq1, zq1⟩ := ((Blk.mk cq fq zq).alloc _).call k1
      obtain ⟨ce1, fe1, ze1⟩ := (Blk.new wr _ _).call k1
      clear k1 c0 c1 c2 c3 c4 c5 cq fq
      cases ht : hasM e.1 e.2 q
      · have HD : Hid (whereM q 0 E = whereM q (if overM e.1 e.2 q = true then otherM n else n) (E.drop (k + 1))) := HB.out.trans (HC.out.trans (by simp [ht]))
        clear HB HC
        go_wp2_with fail
        refine (isOver_any e.1 e.2 q _ he1 he2 hq).mono ?_
        rintro e' w2 ⟨rfl, k2⟩
        have B2 := bvia B1 k2
        have Q2 := (Blk.mk cq1 fq1 zq1).call k2
        clear k2 cq1 fq1 ce1 fe1 B1
        cases ho : overM e.1 e.2 q
        · have HE : Hid (whereM q 0 E = whereM q n (E.drop (k + 1))) := HD.out.trans (by simp [ho])
          clear HD
          go_wp2
          go_roundw
          case rel => exact ⟨k + 1, n, by go_num, rfl, by omega, Q2, B2, HE⟩
          case measure => simp [intOf]; omega
        · have HE : Hid (whereM q 0 E = whereM q (otherM n) (E.drop (k + 1))) := HD.out.trans (by simp [ho])
          clear HD
          go_wp2_with (go_at_call 64; refine (other_any n _).mono ?_; rintro e' w3 ⟨rfl, rfl⟩)
          go_roundw
          case rel => exact ⟨k + 1, otherM n, by go_num, rfl, by omega, Q2, B2, HE⟩
          case measure => simp [intOf]; omega
      · have HE : Hid (whereM q 0 E = 2) := HB.out.trans (HC.out.trans (by simp [ht]))
        clear HB HC
        go_wp2
        go_ret
        exact ⟨ret_int HE.out.symm, B1⟩
    · have HE : Hid (whereM q 0 E = n) := by rw [HB.out, List.drop_of_length_le (by omega)]; rfl
      clear h3 HB hG
      go_wp2
      go_ret
      exact ⟨ret_int HE.out.symm, hbel⟩
/-- Where a place lies, as the program reckons it; and the error. -/
def locM (P : List (List Pt)) (q : Pt) : Int × Int :=
  if moreM 2000 P = true then (0, 2)
  else if goodB q = false then (0, 3)
  else if (edgesM P).all (fun e => goodB e.1) = false then (0, 3)
  else (whereM q 0 (edgesM P), 0)
theorem gd_good {p : Pt} (h : goodB p = true) : Gd p := by
  have := of_decide_eq_true h
  exact ⟨⟨by omega, by omega⟩, ⟨by omega, by omega⟩, ⟨by omega, by omega⟩⟩
theorem moreM_none : ∀ (P : List (List Pt)) (room : Int), moreM room P = false → 0 ≤ room → ((edgesM P).length : Int) ≤ room
  | [], room, _, hr => by simp [edgesM]; omega
  | r :: P, room, h, hr => by
    simp only [moreM] at h
    split at h
    · cases h
    · rename_i hb
      have ih := moreM_none P (room - r.length) h (by omega)
      have e : (edgesM (r :: P)).length = r.length + (edgesM P).length := by simp [edgesM, ringEdges_len]
      rw [e]; omega
theorem gdE_of (P : List (List Pt)) (h : (edgesM P).all (fun e => goodB e.1) = true) : GdE (edgesM P) := by
  have hall : ∀ e ∈ edgesM P, goodB e.1 = true := fun e he => List.all_eq_true.1 h e he
  have sec : ∀ e ∈ edgesM P, ∃ e' ∈ edgesM P, e'.1 = e.2 := fun e he => by
    unfold edgesM at *
    obtain ⟨r, hr, h⟩ := List.mem_flatMap.1 he
    obtain ⟨j, hj, rfl⟩ := List.mem_map.1 h
    have hj' : j < r.length := by simpa using hj
    exact ⟨edgeAt r (if j + 1 = r.length then 0 else j + 1), List.mem_flatMap.2 ⟨r, hr, List.mem_map.2 ⟨_, by simp; split <;> omega, rfl⟩⟩, rfl⟩
  intro j hj
  have hm : (edgesM P).getD j (zP, zP) ∈ edgesM P := by
    rw [List.getD_eq_getElem?_getD, List.getElem?_eq_getElem hj]; exact List.getElem_mem hj
  obtain ⟨e', he', e2⟩ := sec _ hm
  have g1 := hall _ hm
  have g2 := hall _ he'
  rw [e2] at g2
  exact ⟨gd_good g1, gd_good g2⟩

set_option maxHeartbeats 2000000 in
theorem polyLocate_any (v : Value) (P : List (List Pt)) (q : Pt) (w : World) (hP : PolyAt w v P) :
    Calls Try.prog 28 #[v, q.v] w fun e w' => e = .returned (.tuple #[.int .i64 (locM P q).1, .int .i64 (locM P q).2]) ∧ Below w.heap.size w w' := by
  have hP0 := hP
  obtain ⟨a, cap, rfl, h1, h2, _⟩ := hP
  unfold maxLen at h2
  have hP1 : ∀ o : Obj, PolyAt (w.alloc o) (.slice a P.length cap) P := fun o => hP0.later ((Below.refl _ _).alloc (Nat.le_refl _) _)
  cases c1 : moreM 2000 P
  case true =>
    have HE : Hid (locM P q = (0, 2)) := if_pos c1
    go_enter Try.func28, Try.ntmps28
    go_wp2_with fail
    refine (hasMore_any _ P _ (hP1 _)).mono ?_
    rintro e w1 ⟨rfl, rfl⟩
    rw [c1]
    clear c1
    go_wp2
    go_ret2
    exact ⟨by rw [HE.out]; rfl, (Below.refl _ _).alloc (Nat.le_refl _) _⟩
  have hT : (edgesM P).length ≤ 2000 := by have := moreM_none P 2000 c1 (by decide); omega
  have e1 : locM P q = _ := if_neg (by rw [c1]; decide)
  cases c2 : goodB q
  case false =>
    have HE : Hid (locM P q = (0, 3)) := e1.trans (if_pos c2)
    clear e1
    go_enter Try.func28, Try.ntmps28
    go_wp2_with fail
    refine (hasMore_any _ P _ (hP1 _)).mono ?_
    rintro e w1 ⟨rfl, rfl⟩
    rw [c1]
    go_wp2_with fail
    refine (IsGood_any q _).mono ?_
    rintro e w1 ⟨rfl, k⟩
    have B1 := bvia ((Below.refl _ _).alloc (Nat.le_refl _) _) k
    rw [c2]
    clear k c1 c2
    go_wp2
    go_ret2
    exact ⟨by rw [HE.out]; rfl, B1⟩
  have e2 := e1.trans (if_neg (by rw [c2]; decide))
  have gq := gd_good c2
  clear e1
  cases c3 : (edgesM P).all (fun e => goodB e.1)
  case false =>
    have HE : Hid (locM P q = (0, 3)) := e2.trans (if_pos c3)
    clear e2
    go_enter Try.func28, Try.ntmps28
    go_wp2_with fail
    refine (hasMore_any _ P _ (hP1 _)).mono ?_
    rintro e w1 ⟨rfl, rfl⟩
    rw [c1]
    go_wp2_with fail
    refine (IsGood_any q _).mono ?_
    rintro e w1 ⟨rfl, k⟩
    have B1 := bvia ((Below.refl _ _).alloc (Nat.le_refl _) _) k
    have hP2 := hP0.later B1
    rw [c2]
    clear k c1 c2
    go_wp2_with fail
    refine (Edges_any _ P _ hP2 (Nat.le_trans hT (by decide))).mono ?_
    rintro e w2 ⟨ev, rfl, hE2, k⟩
    have B2 := bvia B1 k
    clear k B1
    go_wp2_with fail
    refine (areGood_any _ (edgesM P) _ hE2).mono ?_
    rintro e w3 ⟨rfl, k⟩
    have B3 := bvia B2 k
    rw [c3]
    clear k B2 hE2 c3
    go_wp2
    go_ret2
    exact ⟨by rw [HE.out]; rfl, B3⟩
  have HE : Hid (locM P q = (whereM q 0 (edgesM P), 0)) := e2.trans (if_neg (by rw [c3]; decide))
  have hG := gdE_of P c3
  clear e2
  go_enter Try.func28, Try.ntmps28
  go_wp2_with fail
  refine (hasMore_any _ P _ (hP1 _)).mono ?_
  rintro e w1 ⟨rfl, rfl⟩
  rw [c1]
  go_wp2_with fail
  refine (IsGood_any q _).mono ?_
  rintro e w1 ⟨rfl, k⟩
  have B1 := bvia ((Below.refl _ _).alloc (Nat.le_refl _) _) k
  have hP2 := hP0.later B1
  obtain ⟨cq1, fq1, zq1⟩ := (Blk.new w _ _).call k
  rw [c2]
  clear k c1 c2
  go_wp2_with fail
  refine (Edges_any _ P _ hP2 (Nat.le_trans hT (by decide))).mono ?_
  rintro e w2 ⟨ev, rfl, hE2, k⟩
  have B2 := bvia B1 k
  obtain ⟨cq2, fq2, zq2⟩ := (Blk.mk cq1 fq1 zq1).call k
  clear k B1 cq1 fq1
  go_wp2_with fail
  refine (areGood_any _ (edgesM P) _ hE2).mono ?_
  rintro e w3 ⟨rfl, k⟩
  have B3 := bvia B2 k
  have hE3 := hE2.later k
  obtain ⟨cq3, fq3, zq3⟩ := (Blk.mk cq2 fq2 zq2).call k
  rw [c3]
  clear k B2 hE2 c3 cq2 fq2
  go_wp2_with fail
  refine (find_any q _ (edgesM P) _ hE3 hG gq).mono ?_
  rintro e w4 ⟨rfl, k⟩
  have B4 := bvia B3 k
  clear k B3 hE3 cq3 fq3
  go_wp2
  go_ret2
  exact ⟨by rw [HE.out]; rfl, B4⟩

set_option maxHeartbeats 2000000 in
theorem Locate_any (v : Value) (P : List (List Pt)) (q : Pt) (w : World) (hP : PolyAt w v P) :
    Calls Try.prog 19 #[v, q.v] w fun e w' => e = .returned (.tuple #[.int .i64 (locM P q).1, .int .i64 (locM P q).2]) ∧ Below w.heap.size w w' := by
  go_enter Try.func19, Try.ntmps19
  go_wp2_with fail
  refine (polyLocate_any v P q _ (hP.later ((Below.refl _ _).alloc (Nat.le_refl _) _))).mono ?_
  rintro e w1 ⟨rfl, k⟩
  have B1 := bvia ((Below.refl _ _).alloc (Nat.le_refl _) _) k
  clear k
  go_wp2
  go_ret2
  exact ⟨rfl, B1⟩
end Go.Proofs.Ytnkcbephceollab
namespace Go.Proofs.Ytnkcbephceollab
set_option linter.unusedVariables false
set_option linter.unusedSimpArgs false

/-- Sheared upward: the order of places becomes that of heights, if by enough. -/
def shP (K : Int) (v : Pt) : Pt := ⟨v.x, K * v.x + v.y, v.d⟩
theorem sh_zero (K : Int) : shP K zP = zP := by simp [shP, zP]
theorem sh_det (K : Int) (a b c : Pt) : detM (shP K a) (shP K b) (shP K c) = detM a b c := by unfold detM shP; grind
theorem sh_xv (K : Int) (q v : Pt) : xv (shP K q) (shP K v) = xv q v := rfl
theorem sh_yv (K : Int) (q v : Pt) : yv (shP K q) (shP K v) = K * xv q v + yv q v := by unfold yv xv shP; grind
theorem sh_bef (K : Int) (p q : Pt) : befB (shP K p) (shP K q) = befB p q := by
  unfold befB
  have e1 : (shP K p).x * (shP K q).d = p.x * q.d := rfl
  have e2 : (shP K q).x * (shP K p).d = q.x * p.d := rfl
  have e3 : (shP K p).y * (shP K q).d = K * (p.x * q.d) + p.y * q.d := by unfold shP; grind
  have e4 : (shP K q).y * (shP K p).d = K * (q.x * p.d) + q.y * p.d := by unfold shP; grind
  rw [e1, e2, e3, e4]
  split
  · rfl
  · rename_i h
    have h' : p.x * q.d = q.x * p.d := by simpa using h
    rw [h']
    congr 1
    exact propext (by omega)
theorem sh_on (K : Int) (p a b : Pt) : onB (shP K p) (shP K a) (shP K b) = onB p a b := by
  unfold onB withB loM hiM
  rw [sh_det, sh_bef]
  by_cases h : befB b a = true
  · simp only [h, if_true, sh_bef]
  · simp only [h, if_false, sh_bef, Bool.false_eq_true]
theorem sh_cross (K : Int) (o q a b : Pt) : crossB (shP K o) (shP K q) (shP K a) (shP K b) = crossB o q a b := by
  unfold crossB; simp only [sh_det]
theorem sh_up {K : Int} {q v : Pt} (h1 : -K < yv q v) (h2 : yv q v < K) : upB false (shP K q) (shP K v) = befB q v := by
  have e : upB false (shP K q) (shP K v) = decide (0 < K * xv q v + yv q v) := by unfold upB; rw [sh_yv]; simp
  rw [e]
  have b := bef_iff q v
  have k : befB q v = true ↔ (0 < xv q v ∨ (xv q v = 0 ∧ 0 < yv q v)) := by rw [b]; unfold xv yv; omega
  have hK : 0 < K := by omega
  have f : 0 < K * xv q v + yv q v ↔ (0 < xv q v ∨ (xv q v = 0 ∧ 0 < yv q v)) := by
    rcases Int.lt_trichotomy (xv q v) 0 with h | h | h
    · have : K * (xv q v + 1) ≤ 0 := mul_gl (Int.le_of_lt hK) (by omega)
      have e2 : K * (xv q v + 1) = K * xv q v + K := by grind
      constructor
      · intro x; omega
      · intro x; omega
    · rw [h, Int.mul_zero]; omega
    · have : 0 ≤ K * (xv q v - 1) := mul_gg (Int.le_of_lt hK) (by omega)
      have e2 : K * (xv q v - 1) = K * xv q v - K := by grind
      constructor
      · intro x; exact .inl h
      · intro x; omega
  cases hb : befB q v
  · rw [hb] at k
    simp
    have : ¬ (0 < K * xv q v + yv q v) := fun x => by have := k.2 (f.1 x); cases this
    omega
  · simp; exact f.2 (k.1 hb)

def shL (K : Int) (P : List (List Pt)) : List (List Pt) := P.map (List.map (shP K))
theorem sh_ring (K : Int) (r : List Pt) : ringEdges (r.map (shP K)) = (ringEdges r).map (fun e => (shP K e.1, shP K e.2)) := by
  have g : ∀ j, (r.map (shP K)).getD j zP = shP K (r.getD j zP) := fun j => by
    rw [List.getD_eq_getElem?_getD, List.getD_eq_getElem?_getD, List.getElem?_map]
    cases r[j]? with
    | none => simp [sh_zero]
    | some v => rfl
  unfold ringEdges edgeAt
  rw [List.map_map, List.length_map]
  refine List.map_congr_left fun j _ => ?_
  simp only [g, Function.comp]
theorem sh_edges (K : Int) (P : List (List Pt)) : edgesM (shL K P) = (edgesM P).map (fun e => (shP K e.1, shP K e.2)) := by
  induction P with
  | nil => rfl
  | cons r P ih =>
    have e1 : edgesM (r :: P) = ringEdges r ++ edgesM P := by simp [edgesM]
    have e2 : edgesM (shL K (r :: P)) = ringEdges (r.map (shP K)) ++ edgesM (shL K P) := by simp [edgesM, shL]
    rw [e1, e2, ih, sh_ring, List.map_append]
theorem parB_map (f : Pt → Pt → Bool) (g : Pt → Pt) : ∀ l, parB f (l.map (fun e => (g e.1, g e.2))) = parB (fun a b => f (g a) (g b)) l
  | [] => rfl
  | e :: l => by simp only [List.map_cons, parB, parB_map f g l]

/-- Does the edge cross the way up from q, which leans to the left by less than any number? -/
def overB (q a b : Pt) : Bool := (!befB q a && befB q b && decide (detM a b q < 0)) || (befB q a && !befB q b && decide (0 < detM a b q))
theorem enough (q : Pt) : ∀ l : List Pt, ∃ K : Int, ∀ v ∈ l, -K < yv q v ∧ yv q v < K
  | [] => ⟨0, fun v hv => by cases hv⟩
  | v :: l => by
    obtain ⟨K, h⟩ := enough q l
    refine ⟨(if K < 0 then 0 else K) + (yv q v).natAbs + 1, fun u hu => ?_⟩
    rcases List.mem_cons.1 hu with rfl | hu
    · split <;> omega
    · have := h u hu; split <;> omega
theorem sh_left {K : Int} {q a b : Pt} (ha : -K < yv q a ∧ yv q a < K) (hb : -K < yv q b ∧ yv q b < K) : leftB false (shP K q) (shP K a) (shP K b) = overB q a b := by
  unfold leftB overB
  rw [sh_up ha.1 ha.2, sh_up hb.1 hb.2, sh_det]
theorem mem_sh {K : Int} {P : List (List Pt)} {v : Pt} (h : v ∈ (shL K P).flatten) : ∃ u ∈ P.flatten, v = shP K u := by
  obtain ⟨r, hr, hv⟩ := List.mem_flatten.1 h
  unfold shL at hr
  obtain ⟨r', hr', rfl⟩ := List.mem_map.1 hr
  obtain ⟨u, hu, rfl⟩ := List.mem_map.1 hv
  exact ⟨u, List.mem_flatten.2 ⟨r', hr', hu⟩, rfl⟩
/-- How often the way from far to the left crosses the edges, and how often the one up: odd alike. -/
theorem parity_up {o q : Pt} {P : List (List Pt)} (ho : 0 < o.d) (hq : 0 < q.d) (hd : ∀ v ∈ P.flatten, 0 < v.d) (hl : ∀ v ∈ P.flatten, 0 < xv o v) (hA : ∀ v ∈ P.flatten, detM o q v ≠ 0) (hon : ∀ e ∈ edgesM P, onB q e.1 e.2 = false) :
    parB (crossB o q) (edgesM P) = parB (overB q) (edgesM P) := by
  obtain ⟨K, hK⟩ := enough q P.flatten
  have on' : ∀ e ∈ edgesM (shL K P), onB (shP K q) e.1 e.2 = false := fun e he => by
    rw [sh_edges] at he
    obtain ⟨e', he', rfl⟩ := List.mem_map.1 he
    rw [sh_on]; exact hon e' he'
  have hd' : ∀ v ∈ (shL K P).flatten, 0 < v.d := fun v hv => by
    obtain ⟨u, hu, rfl⟩ := mem_sh hv
    exact hd u hu
  have p := parity false (o := shP K o) (q := shP K q) (P := shL K P) ho hq hd'
    (fun v hv => by obtain ⟨u, hu, rfl⟩ := mem_sh hv; rw [sh_xv]; exact hl u hu)
    (fun v hv => by obtain ⟨u, hu, rfl⟩ := mem_sh hv; rw [sh_det]; exact hA u hu) on'
  have p2 := left_right false (q := shP K q) (P := shL K P) hq hd' on'
  rw [← p2, sh_edges, parB_map, parB_map] at p
  have c1 : parB (fun a b => crossB (shP K o) (shP K q) (shP K a) (shP K b)) (edgesM P) = parB (crossB o q) (edgesM P) := parB_congr fun e _ => sh_cross ..
  have c2 : parB (fun a b => leftB false (shP K q) (shP K a) (shP K b)) (edgesM P) = parB (overB q) (edgesM P) := parB_congr fun e he => by
    obtain ⟨m1, m2⟩ := edge_ends he
    exact sh_left (hK _ m1) (hK _ m2)
  rw [c1, c2] at p
  exact p
end Go.Proofs.Ytnkcbephceollab
