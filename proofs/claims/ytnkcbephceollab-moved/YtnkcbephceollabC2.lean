import Derived.Test.YtnkcbephceollabQ12
import Derived.Deep.RegionWith
namespace Go.Proofs.Ytnkcbephceollab
open Go.RowKit
set_option linter.unusedSimpArgs false
set_option linter.unusedVariables false

set_option maxRecDepth 100000 in
set_option maxHeartbeats 1000000 in
theorem offGrid_any (v : Value) (E : List (Pt × Pt)) (w : World) (hE : SegsAt w v E) :
    Calls Try.prog 39 #[v] w fun e w' => e = .returned (.int .i64 (findM (fun e : Pt × Pt => !gridB e.1) 0 E)) ∧ Below w.heap.size w w' := by
  obtain ⟨a, cap, rfl, h1, h2, h3⟩ := hE
  unfold maxLen at h2
  go_enter Try.func39, Try.ntmps39
  go_wp2_with fail
  go_loopw [3, 4, 7] (fun _ _ i w' => ∃ k : Nat, i = .int .i64 k ∧ k ≤ E.length ∧ Below w.heap.size w w' ∧ Hid (findM (fun e : Pt × Pt => !gridB e.1) 0 E = findM (fun e : Pt × Pt => !gridB e.1) k (E.drop k))) (fun _ _ i _ => E.length - (intOf i).toNat)
  case atStart => exact ⟨0, rfl, Nat.zero_le _, Below.refl _ _, rfl⟩
  case round =>
    obtain ⟨k, rfl, hk, hbel, HB⟩ := hrel
    by_cases hlt : k < E.length
    · obtain ⟨b, off, rfl, hb, hs⟩ := h3 k hlt
      have hs' := hs.later hbel hb
      have HC := hide (findM_cons (fun e : Pt × Pt => !gridB e.1) k E k hlt (zP, zP))
      generalize E.getD k (zP, zP) = e at *
      obtain ⟨c0, c1, c2, c3, c4, c5⟩ := hs'
      clear h3 hs
      go_wp2_with fail
      refine (IsGrid_any e.1 _).mono ?_
      rintro e' w1 ⟨rfl, k1⟩
      have B1 := bvia (hbel.alloc hbel.size _) k1
      obtain ⟨cx, fx, zx⟩ := (Blk.new wr _ _).call k1
      clear k1 c0 c1 c2 c3 c4 c5
      by_cases ht : (fun e : Pt × Pt => !gridB e.1) e = true
      · have HE : Hid (findM (fun e : Pt × Pt => !gridB e.1) 0 E = k) := HB.out.trans (HC.out.trans (if_pos ht))
        clear HB HC
        have hg : gridB e.1 = false := by simpa using ht
        clear ht
        go_wp2
        go_ret
        exact ⟨ret_if HE.out.symm, B1⟩
      · have HE : Hid (findM (fun e : Pt × Pt => !gridB e.1) 0 E = findM (fun e : Pt × Pt => !gridB e.1) (k + 1) (E.drop (k + 1))) := HB.out.trans (HC.out.trans (if_neg ht))
        clear HB HC
        have hg : gridB e.1 = true := by simpa using ht
        clear ht
        go_wp2
        go_roundw
        case rel => exact ⟨k + 1, by go_num, by omega, B1, HE⟩
        case measure => simp [intOf]; omega
    · have HE : Hid (findM (fun e : Pt × Pt => !gridB e.1) 0 E = -1) := by rw [HB.out, List.drop_of_length_le (by omega)]; rfl
      clear h3 HB
      go_wp2
      go_ret
      exact ⟨ret_if HE.out.symm, hbel⟩

set_option maxRecDepth 100000 in
set_option maxHeartbeats 1000000 in
theorem emptyEdge_any (v : Value) (E : List (Pt × Pt)) (w : World) (hE : SegsAt w v E) :
    Calls Try.prog 40 #[v] w fun e w' => e = .returned (.int .i64 (findM (fun e : Pt × Pt => eqB e.1 e.2) 0 E)) ∧ Below w.heap.size w w' := by
  obtain ⟨a, cap, rfl, h1, h2, h3⟩ := hE
  unfold maxLen at h2
  go_enter Try.func40, Try.ntmps40
  go_wp2_with fail
  go_loopw [3, 4, 7] (fun _ _ i w' => ∃ k : Nat, i = .int .i64 k ∧ k ≤ E.length ∧ Below w.heap.size w w' ∧ Hid (findM (fun e : Pt × Pt => eqB e.1 e.2) 0 E = findM (fun e : Pt × Pt => eqB e.1 e.2) k (E.drop k))) (fun _ _ i _ => E.length - (intOf i).toNat)
  case atStart => exact ⟨0, rfl, Nat.zero_le _, Below.refl _ _, rfl⟩
  case round =>
    obtain ⟨k, rfl, hk, hbel, HB⟩ := hrel
    by_cases hlt : k < E.length
    · obtain ⟨b, off, rfl, hb, hs⟩ := h3 k hlt
      have hs' := hs.later hbel hb
      have HC := hide (findM_cons (fun e : Pt × Pt => eqB e.1 e.2) k E k hlt (zP, zP))
      generalize E.getD k (zP, zP) = e at *
      obtain ⟨c0, c1, c2, c3, c4, c5⟩ := hs'
      clear h3 hs
      go_wp2_with fail
      refine (IsEmpty_any e.1 e.2 _).mono ?_
      rintro e' w1 ⟨rfl, k1⟩
      have B1 := bvia (hbel.alloc hbel.size _) k1
      obtain ⟨cx, fx, zx⟩ := (Blk.new wr _ _).call k1
      clear k1 c0 c1 c2 c3 c4 c5
      by_cases ht : (fun e : Pt × Pt => eqB e.1 e.2) e = true
      · have HE : Hid (findM (fun e : Pt × Pt => eqB e.1 e.2) 0 E = k) := HB.out.trans (HC.out.trans (if_pos ht))
        clear HB HC
        have hg : eqP e.1 e.2 = true := ht
        clear ht
        go_wp2
        go_ret
        exact ⟨ret_if HE.out.symm, B1⟩
      · have HE : Hid (findM (fun e : Pt × Pt => eqB e.1 e.2) 0 E = findM (fun e : Pt × Pt => eqB e.1 e.2) (k + 1) (E.drop (k + 1))) := HB.out.trans (HC.out.trans (if_neg ht))
        clear HB HC
        have hg : eqP e.1 e.2 = false := by simpa [eqP, eqB] using ht
        clear ht
        go_wp2
        go_roundw
        case rel => exact ⟨k + 1, by go_num, by omega, B1, HE⟩
        case measure => simp [intOf]; omega
    · have HE : Hid (findM (fun e : Pt × Pt => eqB e.1 e.2) 0 E = -1) := by rw [HB.out, List.drop_of_length_le (by omega)]; rfl
      clear h3 HB
      go_wp2
      go_ret
      exact ⟨ret_if HE.out.symm, hbel⟩

def GrE (E : List (Pt × Pt)) : Prop := ∀ j, j < E.length → Gr (E.getD j (zP, zP)).1 ∧ Gr (E.getD j (zP, zP)).2
theorem any_drop {α : Type} (f : α → Bool) (l : List α) (k : Nat) (hk : k < l.length) (d : α) : (l.drop k).any f = (f (l.getD k d) || (l.drop (k + 1)).any f) := by
  rw [List.drop_eq_getElem_cons hk, List.any_cons, List.getD_eq_getElem?_getD, List.getElem?_eq_getElem hk]; rfl

set_option maxRecDepth 100000 in
set_option maxHeartbeats 1000000 in
theorem liesAlong_any (g : Pt × Pt) (v : Value) (E : List (Pt × Pt)) (w : World) (hE : SegsAt w v E) (hg1 : Gr g.1) (hg2 : Gr g.2) (hG : GrE E) :
    Calls Try.prog 60 #[sg g.1 g.2, v] w fun e w' => e = .returned (.bool (E.any (alongB g))) ∧ Below w.heap.size w w' := by
  obtain ⟨a, cap, rfl, h1, h2, h3⟩ := hE
  unfold maxLen at h2
  go_enter Try.func60, Try.ntmps60
  go_wp2_with fail
  go_loopw [6, 7, 10] (fun _ _ i w' => ∃ k : Nat, i = .int .i64 k ∧ k ≤ E.length ∧ Blk w' w.heap.size #[.int .i64 g.1.x, .int .i64 g.1.y, .int .i64 g.1.d, .int .i64 g.2.x, .int .i64 g.2.y, .int .i64 g.2.d] ∧ Below w.heap.size w w' ∧ Hid (E.any (alongB g) = (E.drop k).any (alongB g))) (fun _ _ i _ => E.length - (intOf i).toNat)
  case atStart => exact ⟨0, rfl, Nat.zero_le _, Blk.new w _ _, (Below.refl _ _).alloc (Nat.le_refl _) _, rfl⟩
  case round =>
    obtain ⟨k, rfl, hk, ⟨cg, fg, zg⟩, hbel, HB⟩ := hrel
    by_cases hlt : k < E.length
    · obtain ⟨b, off, rfl, hb, hs⟩ := h3 k hlt
      have hs' := hs.later hbel hb
      have HC := hide (any_drop (alongB g) E k hlt (zP, zP))
      have hgr := hG k hlt
      generalize E.getD k (zP, zP) = e at *
      obtain ⟨he1, he2⟩ := hgr
      obtain ⟨c0, c1, c2, c3, c4, c5⟩ := hs'
      clear h3 hs hG
      go_wp2_with fail
      refine (segMeet_any g.1 g.2 e.1 e.2 _ hg1 hg2 he1 he2).mono ?_
      rintro e' w1 ⟨rfl, k1⟩
      have B1 := bvia (hbel.alloc hbel.size _) k1
      obtain ⟨cg1, fg1, zg1⟩ := ((Blk.mk cg fg zg).alloc _).call k1
      clear k1 c0 c1 c2 c3 c4 c5 cg fg
      by_cases ht : ((meetM g.1 g.2 e.1 e.2).k == 2) = true
      · have HE : Hid (E.any (alongB g) = true) := HB.out.trans (HC.out.trans (by rw [show alongB g e = true from ht]; rfl))
        clear HB HC
        go_wp2
        go_ret
        exact ⟨ret_bool HE.out.symm, B1.alloc B1.size _⟩
      · have ht' : ((meetM g.1 g.2 e.1 e.2).k == 2) = false := by simpa using ht
        have HE : Hid (E.any (alongB g) = (E.drop (k + 1)).any (alongB g)) := HB.out.trans (HC.out.trans (by rw [show alongB g e = false from ht']; rfl))
        clear HB HC ht
        go_wp2
        go_roundw
        case rel => exact ⟨k + 1, by go_num, by omega, (Blk.mk cg1 fg1 zg1).alloc _, B1.alloc B1.size _, HE⟩
        case measure => simp [intOf]; omega
    · have HE : Hid (E.any (alongB g) = false) := by rw [HB.out, List.drop_of_length_le (by omega)]; rfl
      clear h3 HB hG
      go_wp2
      go_ret
      exact ⟨ret_bool HE.out.symm, hbel⟩

theorem SegsAt.take {w : World} {a : Option Addr} {cap : Nat} {E : List (Pt × Pt)} (h : SegsAt w (.slice a E.length cap) E) (k : Nat) (hk : k ≤ E.length) : SegsAt w (.slice a k cap) (E.take k) := by
  obtain ⟨a', cap', e, h1, h2, h3⟩ := h
  simp at e
  obtain ⟨rfl, rfl⟩ := e
  have hl : (E.take k).length = k := by simp; omega
  refine ⟨a, cap, by rw [hl], by omega, h2, fun j hj => ?_⟩
  obtain ⟨b, off, rfl, hb, hs⟩ := h3 j (by omega)
  refine ⟨b, off, rfl, hb, ?_⟩
  have : (E.take k).getD j (zP, zP) = E.getD j (zP, zP) := by
    rw [List.getD_eq_getElem?_getD, List.getD_eq_getElem?_getD, List.getElem?_take_of_lt (by omega)]
  rw [this]; exact hs
theorem GrE.take {E : List (Pt × Pt)} (h : GrE E) (k : Nat) : GrE (E.take k) := by
  intro j hj
  simp at hj
  have : (E.take k).getD j (zP, zP) = E.getD j (zP, zP) := by
    rw [List.getD_eq_getElem?_getD, List.getD_eq_getElem?_getD, List.getElem?_take_of_lt (by omega)]
  rw [this]; exact h j (by omega)

set_option maxRecDepth 100000 in
set_option maxHeartbeats 1000000 in
theorem sharedEdge_any (v : Value) (E : List (Pt × Pt)) (w : World) (hE : SegsAt w v E) (hG : GrE E) :
    Calls Try.prog 41 #[v] w fun e w' => e = .returned (.int .i64 (findM (sharesM E) 0 (List.range E.length))) ∧ Below w.heap.size w w' := by
  have hE0 := hE
  obtain ⟨a, cap, rfl, h1, h2, h3⟩ := hE
  unfold maxLen at h2
  go_enter Try.func41, Try.ntmps41
  go_wp2_with fail
  go_loopw [3, 4, 7] (fun _ _ i w' => ∃ k : Nat, i = .int .i64 k ∧ k ≤ E.length ∧ Below w.heap.size w w' ∧ Hid (findM (sharesM E) 0 (List.range E.length) = findM (sharesM E) k ((List.range E.length).drop k))) (fun _ _ i _ => E.length - (intOf i).toNat)
  case atStart => exact ⟨0, rfl, Nat.zero_le _, Below.refl _ _, rfl⟩
  case round =>
    obtain ⟨k, rfl, hk, hbel, HB⟩ := hrel
    by_cases hlt : k < E.length
    · obtain ⟨b, off, rfl, hb, hs⟩ := h3 k hlt
      have hs' := hs.later hbel hb
      have HC := hide (findM_cons (sharesM E) k (List.range E.length) k (by simpa using hlt) 0)
      have eget : (List.range E.length).getD k 0 = k := by rw [List.getD_eq_getElem?_getD, List.getElem?_range hlt]; rfl
      rw [eget] at HC
      have HS := hide (show sharesM E k = (E.take k).any (alongB (E.getD k (zP, zP))) from rfl)
      have hgr := hG k hlt
      have hT := ((hE0.take k hk).later hbel)
      have hGT := hG.take k
      generalize E.getD k (zP, zP) = e at *
      obtain ⟨he1, he2⟩ := hgr
      obtain ⟨c0, c1, c2, c3, c4, c5⟩ := hs'
      have hkc : (k : Int) ≤ (cap : Int) := by omega
      clear h3 hs hG hE0 eget
      go_wp2_with fail
      go_region_with (go_at_call 60; refine (liesAlong_any e _ (E.take k) _ (by exact hT.later (((Below.refl _ _).alloc (Nat.le_refl _) _).drew)) he1 he2 hGT).mono ?_; rintro e' w1 ⟨rfl, k1⟩)
      have B1 := bvia ((hbel.alloc hbel.size _).drew) k1
      clear k1 c0 c1 c2 c3 c4 c5 hT hGT
      by_cases ht : (E.take k).any (alongB e) = true
      · have HE : Hid (findM (sharesM E) 0 (List.range E.length) = k) := HB.out.trans (HC.out.trans (if_pos (HS.out.trans ht)))
        rw [ht]
        clear HB HC HS ht
        go_wp2
        go_ret
        exact ⟨ret_if HE.out.symm, B1⟩
      · have ht' : (E.take k).any (alongB e) = false := by simpa using ht
        have HE : Hid (findM (sharesM E) 0 (List.range E.length) = findM (sharesM E) (k + 1) ((List.range E.length).drop (k + 1))) := HB.out.trans (HC.out.trans (if_neg (by rw [HS.out, ht']; decide)))
        rw [ht']
        clear HB HC HS ht ht'
        go_wp2
        go_roundw
        case rel => exact ⟨k + 1, by go_num, by omega, B1, HE⟩
        case measure => simp [intOf]; omega
    · have HE : Hid (findM (sharesM E) 0 (List.range E.length) = -1) := by rw [HB.out, List.drop_of_length_le (by simp; omega)]; rfl
      clear h3 HB hG hE0
      go_wp2
      go_ret
      exact ⟨ret_if HE.out.symm, hbel⟩

end Go.Proofs.Ytnkcbephceollab
