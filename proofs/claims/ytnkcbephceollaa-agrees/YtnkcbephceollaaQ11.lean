import Derived.Test.YtnkcbephceollaaQ7
import Derived.Test.YtnkcbephceollaaQ6
namespace Go.Proofs.Ytnkcbephceollaa
open Go.RowKit
set_option linter.unusedSimpArgs false
set_option linter.unusedVariables false

/-- Neither ahead of the segment nor behind it. -/
def spanM (a b p : Pt) : Bool := !decide (cmpM p (firstM a b) < 0) && decide (cmpM p (lastM a b) < 0)
def sideM (a b p : Pt) : Int := detM (firstM a b) (lastM a b) p
def hasM (a b p : Pt) : Bool := !decide (cmpM p (firstM a b) < 0) && (!decide (0 < cmpM p (lastM a b)) && decide (sideM a b p = 0))
def overM (a b p : Pt) : Bool := spanM a b p && decide (sideM a b p < 0)
theorem span_no {a b p : Pt} (h : cmpM p (firstM a b) < 0) : spanM a b p = false := by unfold spanM; simp [h]
theorem span_of {a b p : Pt} (h : ¬ cmpM p (firstM a b) < 0) : spanM a b p = decide (cmpM p (lastM a b) < 0) := by unfold spanM; simp [h]
theorem has_no {a b p : Pt} (h : cmpM p (firstM a b) < 0) : hasM a b p = false := by unfold hasM; simp [h]
theorem has_no2 {a b p : Pt} (h : 0 < cmpM p (lastM a b)) : hasM a b p = false := by unfold hasM; simp [h]
theorem has_of {a b p : Pt} (h : ¬ cmpM p (firstM a b) < 0) (h2 : ¬ 0 < cmpM p (lastM a b)) : hasM a b p = decide (sideM a b p = 0) := by unfold hasM; simp [h, h2]

set_option maxHeartbeats 1000000 in
theorem Spans_any (a b p : Pt) (w : World) (ha : Gd a) (hb : Gd b) (hp : Gd p) :
    Calls Try.prog 79 #[sg a b, p.v] w fun e w' => e = .returned (.bool (spanM a b p)) ∧ Below w.heap.size w w' := by
  have gf := firstM_gd ha hb
  have gl := lastM_gd ha hb
  by_cases h : cmpM p (firstM a b) < 0
  · have H := hide (span_no h)
    go_enter Try.func79, Try.ntmps79
    go_wp2_with fail
    refine (Forward_any a b _ ha hb).mono ?_
    rintro e w1 ⟨rfl, k⟩
    have B1 := bvia (below2 _ _ _) k
    obtain ⟨cp1, fp1, zp1⟩ := (Blk.at (w.heap.size + 1) (by simp)).call k
    clear k
    go_wp2_with fail
    refine (Compare_any p (firstM a b) _ hp gf).mono ?_
    rintro e w2 ⟨rfl, k⟩
    have B2 := bvia (B1.alloc B1.size _) k
    clear k cp1 fp1 B1
    go_wp2
    go_ret
    exact ⟨ret_bool H.out.symm, B2⟩
  · have H := hide (span_of h)
    go_enter Try.func79, Try.ntmps79
    go_wp2_with fail
    refine (Forward_any a b _ ha hb).mono ?_
    rintro e w1 ⟨rfl, k⟩
    have B1 := bvia (below2 _ _ _) k
    obtain ⟨cp1, fp1, zp1⟩ := (Blk.at (w.heap.size + 1) (by simp)).call k
    clear k
    go_wp2_with fail
    refine (Compare_any p (firstM a b) _ hp gf).mono ?_
    rintro e w2 ⟨rfl, k⟩
    have B2 := bvia (B1.alloc B1.size _) k
    obtain ⟨cp2, fp2, zp2⟩ := ((Blk.mk cp1 fp1 zp1).alloc _).call k
    obtain ⟨cf2, ff2, zf2⟩ := (Blk.new w1 _ _).call k
    clear k cp1 fp1 B1
    go_wp2_with fail
    refine (Compare_any p (lastM a b) _ hp gl).mono ?_
    rintro e w3 ⟨rfl, k⟩
    have B3 := bvia B2 k
    clear k cp2 fp2 cf2 ff2 B2
    go_wp2
    go_ret
    exact ⟨ret_bool H.out.symm, B3⟩

set_option maxHeartbeats 1000000 in
theorem segSide_any (a b p : Pt) (w : World) (ha : Gd a) (hb : Gd b) (hp : Gd p) :
    Calls Try.prog 90 #[sg a b, p.v] w fun e w' => e = .returned (.int .i64 (sideM a b p)) ∧ Below w.heap.size w w' := by
  have gf := firstM_gd ha hb
  have gl := lastM_gd ha hb
  go_enter Try.func90, Try.ntmps90
  go_wp2_with fail
  refine (Forward_any a b _ ha hb).mono ?_
  rintro e w1 ⟨rfl, k⟩
  have B1 := bvia (below2 _ _ _) k
  obtain ⟨cp1, fp1, zp1⟩ := (Blk.at (w.heap.size + 1) (by simp)).call k
  clear k
  go_wp2_with fail
  refine (Side_any (firstM a b) (lastM a b) p _ gf gl hp).mono ?_
  rintro e w2 ⟨rfl, k⟩
  have B2 := bvia (B1.alloc B1.size _) k
  clear k cp1 fp1 B1
  go_wp2
  go_ret
  exact ⟨rfl, B2⟩

set_option maxHeartbeats 1000000 in
theorem Has_any (a b p : Pt) (w : World) (ha : Gd a) (hb : Gd b) (hp : Gd p) :
    Calls Try.prog 71 #[sg a b, p.v] w fun e w' => e = .returned (.bool (hasM a b p)) ∧ Below w.heap.size w w' := by
  have gf := firstM_gd ha hb
  have gl := lastM_gd ha hb
  by_cases h : cmpM p (firstM a b) < 0
  · have H := hide (has_no h)
    go_enter Try.func71, Try.ntmps71
    go_wp2_with fail
    refine (Forward_any a b _ ha hb).mono ?_
    rintro e w1 ⟨rfl, k⟩
    have B1 := bvia (below2 _ _ _) k
    obtain ⟨cp1, fp1, zp1⟩ := (Blk.at (w.heap.size + 1) (by simp)).call k
    clear k
    go_wp2_with fail
    refine (Compare_any p (firstM a b) _ hp gf).mono ?_
    rintro e w2 ⟨rfl, k⟩
    have B2 := bvia (B1.alloc B1.size _) k
    clear k cp1 fp1 B1
    go_wp2
    go_ret
    exact ⟨ret_bool H.out.symm, B2⟩
  by_cases h2 : 0 < cmpM p (lastM a b)
  · have H := hide (has_no2 h2)
    go_enter Try.func71, Try.ntmps71
    go_wp2_with fail
    refine (Forward_any a b _ ha hb).mono ?_
    rintro e w1 ⟨rfl, k⟩
    have B1 := bvia (below2 _ _ _) k
    obtain ⟨cp1, fp1, zp1⟩ := (Blk.at (w.heap.size + 1) (by simp)).call k
    clear k
    go_wp2_with fail
    refine (Compare_any p (firstM a b) _ hp gf).mono ?_
    rintro e w2 ⟨rfl, k⟩
    have B2 := bvia (B1.alloc B1.size _) k
    obtain ⟨cp2, fp2, zp2⟩ := ((Blk.mk cp1 fp1 zp1).alloc _).call k
    obtain ⟨cf2, ff2, zf2⟩ := (Blk.new w1 _ _).call k
    clear k cp1 fp1 B1
    go_wp2_with fail
    refine (Compare_any p (lastM a b) _ hp gl).mono ?_
    rintro e w3 ⟨rfl, k⟩
    have B3 := bvia B2 k
    clear k cp2 fp2 cf2 ff2 B2
    go_wp2
    go_ret
    exact ⟨ret_bool H.out.symm, B3⟩
  have H := hide (has_of h h2)
  have HS := hide (show detM (firstM a b) (lastM a b) p = sideM a b p from rfl)
  go_enter Try.func71, Try.ntmps71
  go_wp2_with fail
  refine (Forward_any a b _ ha hb).mono ?_
  rintro e w1 ⟨rfl, k⟩
  have B1 := bvia (below2 _ _ _) k
  obtain ⟨cp1, fp1, zp1⟩ := (Blk.at (w.heap.size + 1) (by simp)).call k
  clear k
  go_wp2_with fail
  refine (Compare_any p (firstM a b) _ hp gf).mono ?_
  rintro e w2 ⟨rfl, k⟩
  have B2 := bvia (B1.alloc B1.size _) k
  obtain ⟨cp2, fp2, zp2⟩ := ((Blk.mk cp1 fp1 zp1).alloc _).call k
  obtain ⟨cf2, ff2, zf2⟩ := (Blk.new w1 _ _).call k
  clear k cp1 fp1 B1
  go_wp2_with fail
  refine (Compare_any p (lastM a b) _ hp gl).mono ?_
  rintro e w3 ⟨rfl, k⟩
  have B3 := bvia B2 k
  obtain ⟨cp3, fp3, zp3⟩ := (Blk.mk cp2 fp2 zp2).call k
  obtain ⟨cf3, ff3, zf3⟩ := (Blk.mk cf2 ff2 zf2).call k
  clear k cp2 fp2 cf2 ff2 B2
  go_wp2_with fail
  refine (Side_any (firstM a b) (lastM a b) p _ gf gl hp).mono ?_
  rintro e w4 ⟨rfl, k⟩
  have B4 := bvia B3 k
  clear k cp3 fp3 cf3 ff3 B3
  go_wp2
  go_ret
  exact ⟨ret_bool (by rw [H.out]; rfl), B4⟩

set_option maxHeartbeats 1000000 in
theorem isOver_any (a b p : Pt) (w : World) (ha : Gd a) (hb : Gd b) (hp : Gd p) :
    Calls Try.prog 72 #[sg a b, p.v] w fun e w' => e = .returned (.bool (overM a b p)) ∧ Below w.heap.size w w' := by
  cases h : spanM a b p
  · have H : Hid (overM a b p = false) := by unfold overM; rw [h]; exact hide rfl
    go_enter Try.func72, Try.ntmps72
    go_wp2_with fail
    refine (Spans_any a b p _ ha hb hp).mono ?_
    rintro e w1 ⟨rfl, k⟩
    have B1 := bvia (below2 _ _ _) k
    rw [h]
    clear k h
    go_wp2
    go_ret
    exact ⟨ret_bool H.out.symm, B1⟩
  · have H : Hid (overM a b p = decide (sideM a b p < 0)) := by unfold overM; rw [h]; exact hide rfl
    go_enter Try.func72, Try.ntmps72
    go_wp2_with fail
    refine (Spans_any a b p _ ha hb hp).mono ?_
    rintro e w1 ⟨rfl, k⟩
    have B1 := bvia (below2 _ _ _) k
    obtain ⟨cs1, fs1, zs1⟩ := ((Blk.new w _ _).alloc _).call k
    obtain ⟨cp1, fp1, zp1⟩ := (Blk.at (w.heap.size + 1) (by simp)).call k
    rw [h]
    clear k h
    go_wp2_with fail
    refine (segSide_any a b p _ ha hb hp).mono ?_
    rintro e w2 ⟨rfl, k⟩
    have B2 := bvia B1 k
    clear k cs1 fs1 cp1 fp1 B1
    go_wp2
    go_ret
    exact ⟨ret_bool H.out.symm, B2⟩

def otherM (n : Int) : Int := if n = 0 then 1 else 0
set_option maxHeartbeats 400000 in
theorem other_any (n : Int) (w : World) :
    Calls Try.prog 73 #[.int .i64 n] w fun e w' => e = .returned (.int .i64 (otherM n)) ∧ w' = w := by
  by_cases h : n = 0
  · subst h
    go_enter Try.func73, Try.ntmps73
    go_wp2
    go_ret
    exact ⟨rfl, rfl⟩
  · have H : Hid (otherM n = 0) := if_neg h
    have h' : (n == 0) = false := by simpa using h
    go_enter Try.func73, Try.ntmps73
    go_wp2
    go_ret
    exact ⟨ret_int H.out.symm, rfl⟩
end Go.Proofs.Ytnkcbephceollaa
namespace Go.Proofs.Ytnkcbephceollaa
open Go.RowKit
set_option linter.unusedSimpArgs false
set_option linter.unusedVariables false

/-- Are there more points than so many? -/
def moreM : Int → List (List Pt) → Bool
  | _, [] => false
  | room, r :: rs => if room < (r.length : Int) then true else moreM (room - r.length) rs
theorem moreM_cons (room : Int) (P : List (List Pt)) (k : Nat) (hk : k < P.length) :
    moreM room (P.drop k) = if room < ((P.getD k []).length : Int) then true else moreM (room - (P.getD k []).length) (P.drop (k + 1)) := by
  rw [List.drop_eq_getElem_cons hk]
  simp only [moreM]
  rw [List.getD_eq_getElem?_getD, List.getElem?_eq_getElem hk]; rfl

set_option maxRecDepth 100000 in
set_option maxHeartbeats 1000000 in
theorem hasMore_any (v : Value) (P : List (List Pt)) (w : World) (hP : PolyAt w v P) :
    Calls Try.prog 56 #[v, .int .i64 2000] w fun e w' => e = .returned (.bool (moreM 2000 P)) ∧ w' = w := by
  obtain ⟨a, cap, rfl, h1, h2, h3⟩ := hP
  unfold maxLen at h2
  go_enter Try.func56, Try.ntmps56
  go_wp2_with fail
  go_loop [5, 7, 11] (fun room _ i => ∃ (k : Nat) (rm : Int), i = .int .i64 k ∧ room = .int .i64 rm ∧ k ≤ P.length ∧ 0 ≤ rm ∧ rm ≤ 2000 ∧ Hid (moreM 2000 P = moreM rm (P.drop k))) (fun _ _ i => P.length - (intOf i).toNat)
  case atStart => exact ⟨0, 2000, rfl, rfl, Nat.zero_le _, by decide, by decide, rfl⟩
  case round =>
    obtain ⟨k, rm, rfl, rfl, hk, hr0, hr1, HB⟩ := hrel
    by_cases hlt : k < P.length
    · obtain ⟨b, off, rv, rfl, hb, hc, ⟨a', cap', rfl, g1, g2, _⟩⟩ := h3 k hlt
      have HC := hide (moreM_cons rm P k hlt)
      generalize P.getD k [] = r at *
      clear h3
      unfold maxLen at g2
      by_cases ht : rm < (r.length : Int)
      · have HE : Hid (moreM 2000 P = true) := HB.out.trans (HC.out.trans (if_pos ht))
        clear HB HC
        go_wp2
        go_ret
        exact ⟨ret_bool HE.out.symm, rfl⟩
      · have HE : Hid (moreM 2000 P = moreM (rm - r.length) (P.drop (k + 1))) := HB.out.trans (HC.out.trans (if_neg ht))
        clear HB HC
        go_wp2
        go_round
        case rel => exact ⟨k + 1, rm - r.length, by go_num, rfl, by omega, by omega, by omega, HE⟩
        case measure => simp [intOf]; omega
    · have HE : Hid (moreM 2000 P = false) := by rw [HB.out, List.drop_of_length_le (by omega)]; rfl
      clear h3 HB
      go_wp2
      go_ret
      exact ⟨ret_bool HE.out.symm, rfl⟩

/-- Where a place lies to edges that are looked at in turn. -/
def whereM (q : Pt) : Int → List (Pt × Pt) → Int
  | n, [] => n
  | n, e :: l => if hasM e.1 e.2 q = true then 2 else whereM q (if overM e.1 e.2 q = true then otherM n else n) l
theorem whereM_cons (q : Pt) (n : Int) (l : List (Pt × Pt)) (k : Nat) (hk : k < l.length) :
    whereM q n (l.drop k) = if hasM (l.getD k (zP, zP)).1 (l.getD k (zP, zP)).2 q = true then 2 else whereM q (if overM (l.getD k (zP, zP)).1 (l.getD k (zP, zP)).2 q = true then otherM n else n) (l.drop (k + 1)) := by
  rw [List.drop_eq_getElem_cons hk]
  simp only [whereM]
  rw [List.getD_eq_getElem?_getD, List.getElem?_eq_getElem hk]; rfl
theorem all_drop {α : Type} (f : α → Bool) (l : List α) (k : Nat) (hk : k < l.length) (d : α) : (l.drop k).all f = (f (l.getD k d) && (l.drop (k + 1)).all f) := by
  rw [List.drop_eq_getElem_cons hk, List.all_cons, List.getD_eq_getElem?_getD, List.getElem?_eq_getElem hk]; rfl

set_option maxRecDepth 100000 in
set_option maxHeartbeats 1000000 in
theorem areGood_any (v : Value) (E : List (Pt × Pt)) (w : World) (hE : SegsAt w v E) :
    Calls Try.prog 58 #[v] w fun e w' => e = .returned (.bool (E.all (fun e => goodB e.1))) ∧ Below w.heap.size w w' := by
  obtain ⟨a, cap, rfl, h1, h2, h3⟩ := hE
  unfold maxLen at h2
  go_enter Try.func58, Try.ntmps58
  go_wp2_with fail
  go_loopw [4, 7] (fun _ i w' => ∃ k : Nat, i = .int .i64 k ∧ k ≤ E.length ∧ Below w.heap.size w w' ∧ Hid (E.all (fun e => goodB e.1) = (E.drop k).all (fun e => goodB e.1))) (fun _ i _ => E.length - (intOf i).toNat)
  case atStart => exact ⟨0, rfl, Nat.zero_le _, Below.refl _ _, rfl⟩
  case round =>
    obtain ⟨k, rfl, hk, hbel, HB⟩ := hrel
    by_cases hlt : k < E.length
    · obtain ⟨b, off, rfl, hb, hs⟩ := h3 k hlt
      have hs' := hs.later hbel hb
      have HC := hide (all_drop (fun e : Pt × Pt => goodB e.1) E k hlt (zP, zP))
      generalize E.getD k (zP, zP) = e at *
      obtain ⟨c0, c1, c2, c3, c4, c5⟩ := hs'
      clear h3 hs
      go_wp2_with fail
      refine (IsGood_any e.1 _).mono ?_
      rintro e' w1 ⟨rfl, k1⟩
      have B1 := bvia (hbel.alloc hbel.size _) k1
      clear k1 c0 c1 c2 c3 c4 c5
      cases ht : goodB e.1
      · have HE : Hid (E.all (fun e => goodB e.1) = false) := HB.out.trans (HC.out.trans (by simp [ht]))
        clear HB HC
        go_wp2
        go_ret
        exact ⟨ret_bool HE.out.symm, B1⟩
      · have HE : Hid (E.all (fun e => goodB e.1) = (E.drop (k + 1)).all (fun e => goodB e.1)) := HB.out.trans (HC.out.trans (by simp [ht]))
        clear HB HC
        go_wp2
        go_roundw
        case rel => exact ⟨k + 1, by go_num, by omega, B1, HE⟩
        case measure => simp [intOf]; omega
    · have HE : Hid (E.all (fun e => goodB e.1) = true) := by rw [HB.out, List.drop_of_length_le (by omega)]; rfl
      clear h3 HB
      go_wp2
      go_ret
      exact ⟨ret_bool HE.out.symm, hbel⟩
def GdE (E : List (Pt × Pt)) : Prop := ∀ j, j < E.length → Gd (E.getD j (zP, zP)).1 ∧ Gd (E.getD j (zP, zP)).2
set_option maxRecDepth 100000 in
set_option maxHeartbeats 1000000 in
theorem find_any (q : Pt) (v : Value) (E : List (Pt × Pt)) (w : World) (hE : SegsAt w v E) (hG : GdE E) (hq : Gd q) :
    Calls Try.prog 59 #[v, q.v] w fun e w' => e = .returned (.int .i64 (whereM q 0 E)) ∧ Below w.heap.size w w' := by
  obtain ⟨a, cap, rfl, h1, h2, h3⟩ := hE
  unfold maxLen at h2
  go_enter Try.func59, Try.ntmps59
  go_wp2_with fail
  go_loopw [5, 7, 10] (fun wh _ i w' => ∃ (k : Nat) (n : Int), i = .int .i64 k ∧ wh = .int .i64 n ∧ k ≤ E.length ∧ Blk w' w.heap.size #[.int .i64 q.x, .int .i64 q.y, .int .i64 q.d] ∧ Below w.heap.size w w' ∧ Hid (whereM q 0 E = whereM q n (E.drop k))) (fun _ _ i _ => E.length - (intOf i).toNat)
  case atStart => exact ⟨0, 0, rfl, rfl, Nat.zero_le _, Blk.new w _ _, (Below.refl _ _).alloc (Nat.le_refl _) _, rfl⟩
  case round =>
    obtain ⟨k, n, rfl, rfl, hk, ⟨cq, fq, zq⟩, hbel, HB⟩ := hrel
    by_cases hlt : k < E.length
    · obtain ⟨b, off, rfl, hb, hs⟩ := h3 k hlt
      have hs' := hs.later hbel hb
      have HC := hide (whereM_cons q n E k hlt)
      have hgr := hG k hlt
      generalize E.getD k (zP, zP) = e at *
      obtain ⟨he1, he2⟩ := hgr
      obtain ⟨c0, c1, c2, c3, c4, c5⟩ := hs'
      clear h3 hs hG
      go_wp2_with fail
      refine (Has_any e.1 e.2 q _ he1 he2 hq).mono ?_
      rintro e' w1 ⟨rfl, k1⟩
      have B1 := bvia (hbel.alloc hbel.size _) k1
      obtain ⟨cq1, fq1, zq1⟩ := ((Blk.mk cq fq zq).alloc _).call k1
      obtain ⟨ce1, fe1, ze1⟩ := (Blk.new wr _ _).call k1
      clear k1 c0 c1 c2 c3 c4 c5 cq fq
      cases ht : hasM e.1 e.2 q
      · have HD : Hid (whereM q 0 E = whereM q (if overM e.1 e.2 q = true then otherM n else n) (E.drop (k + 1))) := HB.out.trans (HC.out.trans (by simp [ht]))
        clear HB HC
        go_wp2_with fail
        refine (isOver_any e.1 e.2 q _ he1 he2 hq).mono ?_
        rintro e' w2 ⟨rfl, k2⟩
        have B2 := bvia B1 k2
        have Q2 := (Blk.mk cq1 fq1 zq1).call k2
        clear k2 cq1 fq1 ce1 fe1 B1
        cases ho : overM e.1 e.2 q
        · have HE : Hid (whereM q 0 E = whereM q n (E.drop (k + 1))) := HD.out.trans (by simp [ho])
          clear HD
          go_wp2
          go_roundw
          case rel => exact ⟨k + 1, n, by go_num, rfl, by omega, Q2, B2, HE⟩
          case measure => simp [intOf]; omega
        · have HE : Hid (whereM q 0 E = whereM q (otherM n) (E.drop (k + 1))) := HD.out.trans (by simp [ho])
          clear HD
          go_wp2_with (go_at_call 73; refine (other_any n _).mono ?_; rintro e' w3 ⟨rfl, rfl⟩)
          go_roundw
          case rel => exact ⟨k + 1, otherM n, by go_num, rfl, by omega, Q2, B2, HE⟩
          case measure => simp [intOf]; omega
      · have HE : Hid (whereM q 0 E = 2) := HB.out.trans (HC.out.trans (by simp [ht]))
        clear HB HC
        go_wp2
        go_ret
        exact ⟨ret_int HE.out.symm, B1⟩
    · have HE : Hid (whereM q 0 E = n) := by rw [HB.out, List.drop_of_length_le (by omega)]; rfl
      clear h3 HB hG
      go_wp2
      go_ret
      exact ⟨ret_int HE.out.symm, hbel⟩
end Go.Proofs.Ytnkcbephceollaa
namespace Go.Proofs.Ytnkcbephceollaa
open Go.RowKit
set_option linter.unusedSimpArgs false
set_option linter.unusedVariables false

/-- Where a place lies, as the program reckons it; and the error. -/
def locM (P : List (List Pt)) (q : Pt) : Int × Int :=
  if moreM 2000 P = true then (0, 2)
  else if goodB q = false then (0, 3)
  else if (edgesM P).all (fun e => goodB e.1) = false then (0, 3)
  else (whereM q 0 (edgesM P), 0)
theorem gd_good {p : Pt} (h : goodB p = true) : Gd p := by
  have := of_decide_eq_true h
  exact ⟨⟨by omega, by omega⟩, ⟨by omega, by omega⟩, ⟨by omega, by omega⟩⟩
theorem moreM_none : ∀ (P : List (List Pt)) (room : Int), moreM room P = false → 0 ≤ room → ((edgesM P).length : Int) ≤ room
  | [], room, _, hr => by simp [edgesM]; omega
  | r :: P, room, h, hr => by
    simp only [moreM] at h
    split at h
    · cases h
    · rename_i hb
      have ih := moreM_none P (room - r.length) h (by omega)
      have e : (edgesM (r :: P)).length = r.length + (edgesM P).length := by simp [edgesM, ringEdges_len]
      rw [e]; omega
theorem gdE_of (P : List (List Pt)) (h : (edgesM P).all (fun e => goodB e.1) = true) : GdE (edgesM P) := by
  have hall : ∀ e ∈ edgesM P, goodB e.1 = true := fun e he => List.all_eq_true.1 h e he
  have sec : ∀ e ∈ edgesM P, ∃ e' ∈ edgesM P, e'.1 = e.2 := fun e he => by
    unfold edgesM at *
    obtain ⟨r, hr, h⟩ := List.mem_flatMap.1 he
    obtain ⟨j, hj, rfl⟩ := List.mem_map.1 h
    have hj' : j < r.length := by simpa using hj
    exact ⟨edgeAt r (if j + 1 = r.length then 0 else j + 1), List.mem_flatMap.2 ⟨r, hr, List.mem_map.2 ⟨_, by simp; split <;> omega, rfl⟩⟩, rfl⟩
  intro j hj
  have hm : (edgesM P).getD j (zP, zP) ∈ edgesM P := by
    rw [List.getD_eq_getElem?_getD, List.getElem?_eq_getElem hj]; exact List.getElem_mem hj
  obtain ⟨e', he', e2⟩ := sec _ hm
  have g1 := hall _ hm
  have g2 := hall _ he'
  rw [e2] at g2
  exact ⟨gd_good g1, gd_good g2⟩

set_option maxHeartbeats 2000000 in
theorem polyLocate_any (v : Value) (P : List (List Pt)) (q : Pt) (w : World) (hP : PolyAt w v P) :
    Calls Try.prog 44 #[v, q.v] w fun e w' => e = .returned (.tuple #[.int .i64 (locM P q).1, .int .i64 (locM P q).2]) ∧ Below w.heap.size w w' := by
  have hP0 := hP
  obtain ⟨a, cap, rfl, h1, h2, _⟩ := hP
  unfold maxLen at h2
  have hP1 : ∀ o : Obj, PolyAt (w.alloc o) (.slice a P.length cap) P := fun o => hP0.later ((Below.refl _ _).alloc (Nat.le_refl _) _)
  cases c1 : moreM 2000 P
  case true =>
    have HE : Hid (locM P q = (0, 2)) := if_pos c1
    go_enter Try.func44, Try.ntmps44
    go_wp2_with fail
    refine (hasMore_any _ P _ (hP1 _)).mono ?_
    rintro e w1 ⟨rfl, rfl⟩
    rw [c1]
    clear c1
    go_wp2
    go_ret2
    exact ⟨by rw [HE.out]; rfl, (Below.refl _ _).alloc (Nat.le_refl _) _⟩
  have hT : (edgesM P).length ≤ 2000 := by have := moreM_none P 2000 c1 (by decide); omega
  have e1 : locM P q = _ := if_neg (by rw [c1]; decide)
  cases c2 : goodB q
  case false =>
    have HE : Hid (locM P q = (0, 3)) := e1.trans (if_pos c2)
    clear e1
    go_enter Try.func44, Try.ntmps44
    go_wp2_with fail
    refine (hasMore_any _ P _ (hP1 _)).mono ?_
    rintro e w1 ⟨rfl, rfl⟩
    rw [c1]
    go_wp2_with fail
    refine (IsGood_any q _).mono ?_
    rintro e w1 ⟨rfl, k⟩
    have B1 := bvia ((Below.refl _ _).alloc (Nat.le_refl _) _) k
    rw [c2]
    clear k c1 c2
    go_wp2
    go_ret2
    exact ⟨by rw [HE.out]; rfl, B1⟩
  have e2 := e1.trans (if_neg (by rw [c2]; decide))
  have gq := gd_good c2
  clear e1
  cases c3 : (edgesM P).all (fun e => goodB e.1)
  case false =>
    have HE : Hid (locM P q = (0, 3)) := e2.trans (if_pos c3)
    clear e2
    go_enter Try.func44, Try.ntmps44
    go_wp2_with fail
    refine (hasMore_any _ P _ (hP1 _)).mono ?_
    rintro e w1 ⟨rfl, rfl⟩
    rw [c1]
    go_wp2_with fail
    refine (IsGood_any q _).mono ?_
    rintro e w1 ⟨rfl, k⟩
    have B1 := bvia ((Below.refl _ _).alloc (Nat.le_refl _) _) k
    have hP2 := hP0.later B1
    rw [c2]
    clear k c1 c2
    go_wp2_with fail
    refine (Edges_any _ P _ hP2 (Nat.le_trans hT (by decide))).mono ?_
    rintro e w2 ⟨ev, rfl, hE2, k⟩
    have B2 := bvia B1 k
    clear k B1
    go_wp2_with fail
    refine (areGood_any _ (edgesM P) _ hE2).mono ?_
    rintro e w3 ⟨rfl, k⟩
    have B3 := bvia B2 k
    rw [c3]
    clear k B2 hE2 c3
    go_wp2
    go_ret2
    exact ⟨by rw [HE.out]; rfl, B3⟩
  have HE : Hid (locM P q = (whereM q 0 (edgesM P), 0)) := e2.trans (if_neg (by rw [c3]; decide))
  have hG := gdE_of P c3
  clear e2
  go_enter Try.func44, Try.ntmps44
  go_wp2_with fail
  refine (hasMore_any _ P _ (hP1 _)).mono ?_
  rintro e w1 ⟨rfl, rfl⟩
  rw [c1]
  go_wp2_with fail
  refine (IsGood_any q _).mono ?_
  rintro e w1 ⟨rfl, k⟩
  have B1 := bvia ((Below.refl _ _).alloc (Nat.le_refl _) _) k
  have hP2 := hP0.later B1
  obtain ⟨cq1, fq1, zq1⟩ := (Blk.new w _ _).call k
  rw [c2]
  clear k c1 c2
  go_wp2_with fail
  refine (Edges_any _ P _ hP2 (Nat.le_trans hT (by decide))).mono ?_
  rintro e w2 ⟨ev, rfl, hE2, k⟩
  have B2 := bvia B1 k
  obtain ⟨cq2, fq2, zq2⟩ := (Blk.mk cq1 fq1 zq1).call k
  clear k B1 cq1 fq1
  go_wp2_with fail
  refine (areGood_any _ (edgesM P) _ hE2).mono ?_
  rintro e w3 ⟨rfl, k⟩
  have B3 := bvia B2 k
  have hE3 := hE2.later k
  obtain ⟨cq3, fq3, zq3⟩ := (Blk.mk cq2 fq2 zq2).call k
  rw [c3]
  clear k B2 hE2 c3 cq2 fq2
  go_wp2_with fail
  refine (find_any q _ (edgesM P) _ hE3 hG gq).mono ?_
  rintro e w4 ⟨rfl, k⟩
  have B4 := bvia B3 k
  clear k B3 hE3 cq3 fq3
  go_wp2
  go_ret2
  exact ⟨by rw [HE.out]; rfl, B4⟩

set_option maxHeartbeats 2000000 in
theorem Locate_any (v : Value) (P : List (List Pt)) (q : Pt) (w : World) (hP : PolyAt w v P) :
    Calls Try.prog 18 #[v, q.v] w fun e w' => e = .returned (.tuple #[.int .i64 (locM P q).1, .int .i64 (locM P q).2]) ∧ Below w.heap.size w w' := by
  go_enter Try.func18, Try.ntmps18
  go_wp2_with fail
  refine (polyLocate_any v P q _ (hP.later ((Below.refl _ _).alloc (Nat.le_refl _) _))).mono ?_
  rintro e w1 ⟨rfl, k⟩
  have B1 := bvia ((Below.refl _ _).alloc (Nat.le_refl _) _) k
  clear k
  go_wp2
  go_ret2
  exact ⟨rfl, B1⟩
end Go.Proofs.Ytnkcbephceollaa
