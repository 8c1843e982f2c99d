import Derived.Test.YtnkcbephceollabQ16
import Derived.Deep.CutRange
namespace Go.Proofs.Ytnkcbephceollab
open Go.RowKit
set_option linter.unusedSimpArgs false
set_option linter.unusedVariables false

theorem heap_set {w : World} {b o : Nat} {cur : Array Value} {u : Value} {t : TypeId} (h : w.heap[b]? = some (.cells cur t (0, 0))) : (w.setCell ⟨b, o, none⟩ u).heap[b]? = some (.cells (cur.setIfInBounds o u) t (0, 0)) := by
  have hlt := lt_of_block h
  have h' : w.heap[b] = .cells cur t (0, 0) := by simpa [Array.getElem?_eq_getElem hlt] using h
  show (w.heap.modify b _)[b]? = _
  rw [Array.getElem?_eq_getElem (by simpa using hlt), Array.getElem_modify_self, h']
  rfl
theorem own_set {w : World} {base : Nat} {e : TypeId} {s : Nat} {v : Value} {n : Nat} {xs : List Value} (h : w.ownsRow base e s v n xs) (g : Nat) (hg : v.ownBlock = some g) (o : Nat) (u : Value) : (w.setCell ⟨g, o, none⟩ u).ownsRow base e s v n (xs.set o u) := by
  obtain ⟨h1, h2⟩ := h
  refine ⟨by simpa using h1, ?_⟩
  rcases h2 with ⟨rfl, _⟩ | ⟨g', cap, cur, rfl, hb, hh, hn, hc, hs, ht⟩
  · simp [Value.ownBlock] at hg
  · have : g' = g := by simpa [Value.ownBlock] using hg
    subst this
    refine .inr ⟨g', cap, _, rfl, hb, heap_set hh, hn, hc, by simpa using hs, ?_⟩
    rw [Array.toList_setIfInBounds, List.take_set, ht]
theorem own_later {w w' : World} {base : Nat} {e : TypeId} {s : Nat} {v : Value} {n : Nat} {xs : List Value} (h : w.ownsRow base e s v n xs) (k : Below w.heap.size w w') : w'.ownsRow base e s v n xs := by
  have hlt := h.lt
  obtain ⟨h1, h2⟩ := h
  refine ⟨h1, ?_⟩
  rcases h2 with h2 | ⟨g, cap, cur, rfl, hb, hh, r⟩
  · exact .inl h2
  · exact .inr ⟨g, cap, cur, rfl, hb, (k.block g (hlt g rfl).2).trans hh, r⟩
theorem own_free {w : World} {base : Nat} {e : TypeId} {s : Nat} {v : Value} {n : Nat} {xs : List Value} (h : w.ownsRow base e s v n xs) (g : Nat) (hg : v.ownBlock = some g) (o : Nat) : w.frozen? ⟨g, o, none⟩ = false := by
  obtain ⟨h1, h2⟩ := h
  rcases h2 with ⟨rfl, _⟩ | ⟨g', cap, cur, rfl, hb, hh, hn, hc, hs, ht⟩
  · simp [Value.ownBlock] at hg
  · have : g' = g := by simpa [Value.ownBlock] using hg
    subst this
    simp [World.frozen?, hh]
theorem ptCells_set (L : List Pt) (j : Nat) (q : Pt) (hj : j < L.length) : (((ptCells L).set (j * 3) (.int .i64 q.x)).set (j * 3 + 1) (.int .i64 q.y)).set (j * 3 + 2) (.int .i64 q.d) = ptCells (L.set j q) := by
  induction L generalizing j with
  | nil => simp at hj
  | cons x L ih =>
    have e : ptCells (x :: L) = .int .i64 x.x :: .int .i64 x.y :: .int .i64 x.d :: ptCells L := by simp [ptCells, ptCell]
    cases j with
    | zero =>
      rw [e]
      have e2 : ptCells ((x :: L).set 0 q) = .int .i64 q.x :: .int .i64 q.y :: .int .i64 q.d :: ptCells L := by simp [ptCells, ptCell]
      rw [e2]; simp
    | succ j =>
      have e2 : ptCells ((x :: L).set (j + 1) q) = .int .i64 x.x :: .int .i64 x.y :: .int .i64 x.d :: ptCells (L.set j q) := by simp [ptCells, ptCell]
      rw [e, e2, ← ih j (by simpa using hj)]
      have s1 : (j + 1) * 3 = j * 3 + 1 + 1 + 1 := by omega
      rw [s1]
      simp only [List.set_cons_succ]
/-- A row while it is shifted. -/
def shiftM (l : List Pt) (p : Pt) (j : Nat) : List Pt := (l ++ [p]).take (j + 1) ++ l.drop j
theorem shift_len (l : List Pt) (p : Pt) (j : Nat) (hj : j ≤ l.length) : (shiftM l p j).length = l.length + 1 := by
  unfold shiftM; simp; omega
theorem shift_start (l : List Pt) (p : Pt) : shiftM l p l.length = l ++ [p] := by
  unfold shiftM; rw [List.take_of_length_le (by simp), List.drop_length, List.append_nil]
theorem shift_at (l : List Pt) (p : Pt) (j : Nat) (hj : j + 1 ≤ l.length) : (shiftM l p (j + 1)).getD j zP = l.getD j zP := by
  unfold shiftM
  rw [List.getD_eq_getElem?_getD, List.getD_eq_getElem?_getD, List.getElem?_append_left (by simp; omega), List.getElem?_take_of_lt (by omega), List.getElem?_append_left (by omega)]
theorem shift_step (l : List Pt) (p : Pt) (j : Nat) (hj : j + 1 ≤ l.length) : (shiftM l p (j + 1)).set (j + 1) (l.getD j zP) = shiftM l p j := by
  unfold shiftM
  have e1 : (l ++ [p]).take (j + 1 + 1) = (l ++ [p]).take (j + 1) ++ [(l ++ [p]).getD (j + 1) zP] := by
    rw [List.take_succ_eq_append_getElem (by simp; omega), List.getD_eq_getElem?_getD, List.getElem?_eq_getElem (by simp; omega)]; rfl
  have e2 : l.drop j = l.getD j zP :: l.drop (j + 1) := by
    rw [List.drop_eq_getElem_cons (by omega), List.getD_eq_getElem?_getD, List.getElem?_eq_getElem (by omega)]; rfl
  rw [e1, e2, List.append_assoc, List.set_append_right _ _ (by simp; omega)]
  have e3 : j + 1 - ((l ++ [p]).take (j + 1)).length = 0 := by simp; omega
  rw [e3]; rfl
theorem shift_end (l : List Pt) (p : Pt) (i : Nat) (hi : i ≤ l.length) : (shiftM l p i).set i p = l.take i ++ p :: l.drop i := by
  unfold shiftM
  have e1 : (l ++ [p]).take (i + 1) = (l ++ [p]).take i ++ [(l ++ [p]).getD i zP] := by
    rw [List.take_succ_eq_append_getElem (by simp; omega), List.getD_eq_getElem?_getD, List.getElem?_eq_getElem (by simp; omega)]; rfl
  have e2 : (l ++ [p]).take i = l.take i := List.take_append_of_le_length hi
  rw [e1, e2, List.append_assoc, List.set_append_right _ _ (by simp; omega)]
  have e3 : i - (l.take i).length = 0 := by simp; omega
  rw [e3]; rfl

set_option maxRecDepth 100000 in
set_option maxHeartbeats 4000000 in
theorem insert_any (base : Nat) (v : Value) (l : List Pt) (p : Pt) (w : World) (hown : w.ownsRow base 29 3 v l.length (ptCells l)) (hbase : base ≤ w.heap.size) (hn : l.length ≤ 1000000) (hl : ∀ x ∈ l, Gd x) (hp : Gd p) :
    Calls Try.prog 49 #[v, p.v] w fun e w' => ∃ v', e = .returned v' ∧ w'.ownsRow base 29 3 v' (insM l p).length (ptCells (insM l p)) ∧ Kp (fun b => v.ownBlock = some b) w w' ∧ (∀ g, v'.ownBlock = some g → v.ownBlock = some g ∨ w.heap.size ≤ g) := by
  obtain ⟨i0, hi0, hz0, hz1, hz2⟩ := info_parts infoPoint
  have hrow := ring_of_own hown (by unfold maxLen; omega)
  obtain ⟨a, cap, hv, h1, h2, h3⟩ := id hrow
  have hne : v.ownBlock ≠ some w.heap.size := fun e => by have := (hown.lt _ e).2; omega
  have hI : insM l p = if 0 < idxL l p l.length ∧ cmpM p (l.getD (idxL l p l.length - 1) zP) = 0 then l else l.take (idxL l p l.length) ++ p :: l.drop (idxL l p l.length) := rfl
  have HI := hide hI
  have HL := hide hl
  unfold maxLen at h2
  subst hv
  clear hI hl
  obtain ⟨W0, hW0⟩ : ∃ W, W = w.alloc (.cells #[.int .i64 p.x, .int .i64 p.y, .int .i64 p.d] 29) := ⟨_, rfl⟩
  have B0 : Below w.heap.size w W0 := by rw [hW0]; exact (Below.refl _ _).alloc (Nat.le_refl _) _
  have Q0 : Blk W0 w.heap.size #[.int .i64 p.x, .int .i64 p.y, .int .i64 p.d] := by rw [hW0]; exact Blk.new w _ _
  have O0 : W0.ownsRow base 29 3 (.slice a l.length cap) l.length (ptCells l) := by rw [hW0]; exact hown.alloc _
  have z0 : W0.heap.size = w.heap.size + 1 := by rw [hW0]; simp
  go_enter Try.func49, Try.ntmps49
  go_upto_block 0 with fail
  rw [← hW0]
  clear hW0
  go_cut [5] (fun iv w' => iv = .int .i64 (idxL l p l.length : Nat) ∧ Below W0.heap.size W0 w')
  case first =>
    go_wp2_with fail
    go_loopw [5] (fun iv w' => ∃ i : Nat, iv = .int .i64 i ∧ i ≤ l.length ∧ Below W0.heap.size W0 w' ∧ Hid (idxL l p l.length = idxL l p i)) (fun iv _ => (intOf iv).toNat)
    case atStart => exact ⟨l.length, rfl, Nat.le_refl _, Below.refl _ _, rfl⟩
    case round =>
      obtain ⟨i, rfl, hi, hbel, HB⟩ := hrel
      cases i with
      | zero =>
        have e0 : ((0 : Nat) : Int) = 0 := rfl
        rw [e0]
        go_upto_region 2 with fail
        go_cut [20] (fun c w' => c = .bool false ∧ Below W0.heap.size W0 w')
        case first =>
          go_quiet (fail)
          go_wp2
          go_meet
          case rel => exact ⟨rfl, below_drewN hbel _⟩
        case rest =>
          obtain ⟨rfl, hb2⟩ := hcut
          go_wp2
          go_meet
          case rel => exact ⟨by rw [HB.out]; rfl, hb2⟩
      | succ k =>
        obtain ⟨b, off, rfl, hb, hs⟩ := h3 k (by omega)
        obtain ⟨px, py, pd⟩ := (hs.later B0 hb).later hbel (by omega)
        have gx := HL.out _ (getD_mem (show k < l.length by omega) zP)
        have HC := hide (show idxL l p (k + 1) = if cmpM p (l.getD k zP) < 0 then idxL l p k else k + 1 from rfl)
        obtain ⟨cq, fq, zq⟩ := Q0.call hbel
        have C := fun wz => Compare_any p (l.getD k zP) wz hp gx
        generalize l.getD k zP = x at *
        have ec : (((k + 1 : Nat)) : Int) = (k : Int) + 1 := by omega
        have ek : (k : Int) + 1 - 1 = (k : Int) := by omega
        rw [ec]
        have hk0 : (0 : Int) ≤ (k : Int) := Int.natCast_nonneg _
        have hk1 : (k : Int) < (l.length : Int) := by omega
        have hk2 : (0 : Int) < (k : Int) + 1 := by omega
        have ewr : IntKind.i64.wrap ((k : Int) + 1 - 1) = (k : Int) := by rw [ek]; exact IntWalk.i64_in _ (by omega)
        have ewr2 : IntKind.i64.wrap (k : Int) = (k : Int) := IntWalk.i64_in _ (by omega)
        go_upto_region 2 with fail
        go_cut [20] (fun c w' => c = .bool (decide (cmpM p x < 0)) ∧ Below W0.heap.size W0 w')
        case first =>
          go_region_with (go_at_call 54; refine (C _).mono ?_; rintro e' w2 ⟨rfl, k2⟩)
          all_goals
            go_wp2_with fail
            go_meet
            case rel => exact ⟨rfl, bvia hbel.drew k2⟩
        case rest =>
          obtain ⟨rfl, hb2⟩ := hcut
          clear px py pd cq fq zq hbel C
          by_cases hc : cmpM p x < 0
          · have HE : Hid (idxL l p l.length = idxL l p k) := HB.out.trans (HC.out.trans (if_pos hc))
            have hd : decide (cmpM p x < 0) = true := decide_eq_true hc
            rw [hd]
            clear HB HC hd hc
            go_wp2
            go_roundw
            case rel => exact ⟨k, by go_num, by omega, hb2, HE⟩
            case measure => simp [intOf] <;> omega
          · have HE : Hid (idxL l p l.length = k + 1) := HB.out.trans (HC.out.trans (if_neg hc))
            have hd : decide (cmpM p x < 0) = false := decide_eq_false hc
            rw [hd]
            clear HB HC hd hc
            go_wp2
            go_meet
            case rel => exact ⟨by rw [HE.out, ec], hb2⟩
  case rest =>
    obtain ⟨rfl, B1⟩ := hcut
    have hile := idxL_le l p l.length
    generalize idxL l p l.length = i at *
    have B1' := bvia B0 B1
    have Q1 := Q0.call B1
    have O1 : wc.ownsRow base 29 3 (.slice a l.length cap) l.length (ptCells l) := own_later O0 B1
    obtain ⟨cq, fq, zq⟩ := id Q1
    go_upto_region 4 with fail
    go_cut [34] (fun c w' => c = .bool (decide (0 < i) && decide (cmpM p (l.getD (i - 1) zP) = 0)) ∧ Below W0.heap.size W0 w')
    case first =>
      cases i with
      | zero =>
        have e0 : ((0 : Nat) : Int) = 0 := rfl
        rw [e0]
        go_quiet (fail)
        go_wp2
        go_meet
        case rel => exact ⟨rfl, below_drewN B1 _⟩
      | succ k =>
        obtain ⟨b, off, rfl, hb, hs⟩ := h3 k (by omega)
        obtain ⟨px, py, pd⟩ := (hs.later B0 hb).later B1 (by omega)
        have gx := HL.out _ (getD_mem (show k < l.length by omega) zP)
        have C := fun wz => Compare_any p (l.getD k zP) wz hp gx
        generalize hxx : l.getD k zP = x at *
        have HXX : Hid (l.getD (k + 1 - 1) zP = x) := hxx
        clear hxx
        have ec : (((k + 1 : Nat)) : Int) = (k : Int) + 1 := by omega
        have ek : (k : Int) + 1 - 1 = (k : Int) := by omega
        rw [ec]
        have hk0 : (0 : Int) ≤ (k : Int) := Int.natCast_nonneg _
        have hk1 : (k : Int) < (l.length : Int) := by omega
        have hk2 : (0 : Int) < (k : Int) + 1 := by omega
        have ewr : IntKind.i64.wrap ((k : Int) + 1 - 1) = (k : Int) := by rw [ek]; exact IntWalk.i64_in _ (by omega)
        have ewr2 : IntKind.i64.wrap (k : Int) = (k : Int) := IntWalk.i64_in _ (by omega)
        go_region_with (go_at_call 54; refine (C _).mono ?_; rintro e' w2 ⟨rfl, k2⟩)
        all_goals
          go_wp2_with fail
          go_meet
          case rel => exact ⟨by rw [HXX.out]; simp; rfl, bvia B1.drew k2⟩
    case rest =>
      clear B1 O1 Q1 cq fq zq B1'
      obtain ⟨rfl, B2⟩ := hcut
      have B2' := bvia B0 B2
      have O2 := hide (own_later O0 B2)
      by_cases hc : 0 < i ∧ cmpM p (l.getD (i - 1) zP) = 0
      · have HE : Hid (insM l p = l) := HI.out.trans (if_pos hc)
        have hd : (decide (0 < i) && decide (cmpM p (l.getD (i - 1) zP) = 0)) = true := by rw [decide_eq_true hc.1, decide_eq_true hc.2]; rfl
        rw [hd]
        clear hd
        go_wp2
        go_ret
        exact ⟨_, rfl, by rw [HE.out]; exact O2.out, Kp.of B2', fun g hg => .inl hg⟩
      · have HE : Hid (insM l p = l.take i ++ p :: l.drop i) := HI.out.trans (if_neg hc)
        have hd : (decide (0 < i) && decide (cmpM p (l.getD (i - 1) zP) = 0)) = false := by
          rw [← Bool.not_eq_true]; simpa using hc
        rw [hd]
        clear hd hc HI
        have hn1 : l.length + 1 ≤ maxLen := by unfold maxLen; omega
        have hn2 : (l.length + 1) * 24 ≤ 140737488355328 := by omega
        have hb2 := B2.size
        have hnews := World.news_of_block (w := wc.alloc (.cells #[.int .i64 p.x, .int .i64 p.y, .int .i64 p.d] 29)) (cs := #[.int .i64 p.x, .int .i64 p.y, .int .i64 p.d]) (t := 29) (fr := (0, 0)) (heap_alloc_new wc _)
        obtain ⟨cq, fq, zq⟩ := Q0.call B2
        go_wp2_with (at_builtin; refine wpList_append_lies _ rfl _ _ _ rfl base 29 i0 _ 3 24 Try.underlying27 hi0 hz0 hz1 hz2 rfl (by omega) (.slice a l.length cap) l.length (ptCells l) rfl (O2.out.alloc _) ⟨wc.heap.size, 0, none⟩ 1 1 (ptCell p) rfl rfl hnews (by simp [ptCell, Value.oneCell']) (by omega) hn1 hn2 (by simp; omega) _ rfl ?_; intro gg cp w2 hown2 hgrow hat hlt2)
        have hgw : gg ≠ w.heap.size := by
          rcases hat with h | h
          · have := (hown.lt gg h).2; omega
          · simp at h; omega
        have hgx : gg < w.heap.size → (Value.slice a l.length cap).ownBlock = some gg := fun h => by
          rcases hat with k | k
          · exact k
          · simp at k; omega
        have K2 : Kp (fun b => (Value.slice a l.length cap).ownBlock = some b) w w2 := Kp.grown ((Kp.of B2').alloc _) hgrow (fun k hk => hk)
        have Q2 : Blk w2 w.heap.size #[.int .i64 p.x, .int .i64 p.y, .int .i64 p.d] := by
          have q := (Blk.mk cq fq zq).alloc (.cells #[.int .i64 p.x, .int .i64 p.y, .int .i64 p.d] 29)
          have e := hgrow.block w.heap.size q.lt (fun k => by have := (hown.lt _ k.symm).2; omega)
          exact ⟨fun o => (World.cell?_of_block (a := ⟨w.heap.size, o, none⟩) e).trans (q.cell o), fun o => (World.frozen?_of_block (a := ⟨w.heap.size, o, none⟩) e).trans (q.free o), Nat.lt_of_lt_of_le q.lt hgrow.size⟩
        have OS : w2.ownsRow base 29 3 (.slice (some ⟨gg, 0, none⟩) (l.length + 1) cp) (l.length + 1) (ptCells (shiftM l p l.length)) := by
          rw [shift_start, ptCells_append]
          have e2 : ptCells [p] = ptCell p := by simp [ptCells]
          rw [e2]; exact hown2
        have HGX := hide hgx
        have hat' : ∀ g, some gg = some g → (Value.slice a l.length cap).ownBlock = some g ∨ w.heap.size ≤ g := fun g hg => by
          have : gg = g := by simpa using hg
          subst this
          rcases Nat.lt_or_ge gg w.heap.size with k | k
          · exact .inl (hgx k)
          · exact .inr k
        have HAT := hide hat'
        clear hown2 hgrow hat hnews cq fq zq O2 B2' hgx hat'
        go_loopw [6] (fun jv w' => ∃ j : Nat, jv = .int .i64 j ∧ i ≤ j ∧ j ≤ l.length ∧ w'.ownsRow base 29 3 (.slice (some ⟨gg, 0, none⟩) (l.length + 1) cp) (l.length + 1) (ptCells (shiftM l p j)) ∧ Kp (fun b => (Value.slice a l.length cap).ownBlock = some b) w w' ∧ Blk w' w.heap.size #[.int .i64 p.x, .int .i64 p.y, .int .i64 p.d]) (fun jv _ => (intOf jv).toNat)
        case atStart => exact ⟨l.length, rfl, hile, Nat.le_refl _, OS, K2, Q2⟩
        case round =>
          obtain ⟨j, rfl, hij, hjl, hO, hK, hQ⟩ := hrel
          have hcell : ∀ m t, m < l.length + 1 → t < 3 → wr.cell? ⟨gg, m * 3 + t, none⟩ = (ptCell ((shiftM l p j).getD m zP))[t]? := fun m t hm ht => by
            rw [own_cell hO gg rfl (m * 3 + t) (by omega)]
            exact ptCells_at _ m t (by rw [shift_len l p j hjl]; omega) ht
          have hfree := own_free hO gg rfl
          by_cases hlt : i < j
          · obtain ⟨k, rfl⟩ : ∃ k, j = k + 1 := ⟨j - 1, by omega⟩
            have HS := hide (shift_step l p k hjl)
            have sa := shift_at l p k hjl
            have s0 := hcell k 0 (by omega) (by decide)
            have s1 := hcell k 1 (by omega) (by decide)
            have s2 := hcell k 2 (by omega) (by decide)
            rw [sa] at s0 s1 s2
            simp only [ptCell, Nat.add_zero, List.getElem?_cons_zero, List.getElem?_cons_succ] at s0 s1 s2
            have t0 := hcell (k + 1) 0 (by omega) (by decide)
            have t1 := hcell (k + 1) 1 (by omega) (by decide)
            have t2 := hcell (k + 1) 2 (by omega) (by decide)
            simp only [ptCell, Nat.add_zero, List.getElem?_cons_zero, List.getElem?_cons_succ] at t0 t1 t2
            have ec : (((k + 1 : Nat)) : Int) = (k : Int) + 1 := by omega
            rw [ec]
            have hk0 : (0 : Int) ≤ (k : Int) := Int.natCast_nonneg _
            have hk1 : (k : Int) + 1 < (l.length : Int) + 1 := by omega
            have hk2 : (k : Int) < (l.length : Int) + 1 := by omega
            have hki : (i : Int) < (k : Int) + 1 := by omega
            have hO' := hide hO
            generalize l.getD k zP = y at *
            generalize (shiftM l p (k + 1)).getD (k + 1) zP = z at *
            clear hcell hO
            go_wp2
            go_roundw
            case rel =>
              refine ⟨k, by go_num, by omega, by omega, ?_, ?_, ?_⟩
              · have o3 := own_set (own_set (own_set hO'.out gg rfl ((k + 1) * 3) (.int .i64 y.x)) gg rfl ((k + 1) * 3 + 1) (.int .i64 y.y)) gg rfl ((k + 1) * 3 + 2) (.int .i64 y.d)
                rw [ptCells_set _ _ _ (by rw [shift_len l p (k + 1) hjl]; omega), HS.out] at o3
                exact o3
              · exact ((hK.setCell (p := ⟨gg, (k + 1) * 3, none⟩) HGX.out _).setCell (p := ⟨gg, (k + 1) * 3 + 1, none⟩) HGX.out _).setCell (p := ⟨gg, (k + 1) * 3 + 2, none⟩) HGX.out _
              · exact ((hQ.off (Ne.symm hgw) _ _).off (Ne.symm hgw) _ _).off (Ne.symm hgw) _ _
            case measure => simp [intOf] <;> omega
          · have ej : j = i := by omega
            subst ej
            have HS := hide (shift_end l p j hjl)
            have t0 := hcell j 0 (by omega) (by decide)
            have t1 := hcell j 1 (by omega) (by decide)
            have t2 := hcell j 2 (by omega) (by decide)
            simp only [ptCell, Nat.add_zero, List.getElem?_cons_zero, List.getElem?_cons_succ] at t0 t1 t2
            have hk0 : (0 : Int) ≤ (j : Int) := Int.natCast_nonneg _
            have hk1 : (j : Int) < (l.length : Int) + 1 := by omega
            have hO' := hide hO
            obtain ⟨cq, fq, zq⟩ := id hQ
            generalize (shiftM l p j).getD j zP = z at *
            clear hcell hO
            go_wp2
            go_ret
            refine ⟨_, rfl, ?_, ?_, HAT.out⟩
            · have o3 := own_set (own_set (own_set hO'.out gg rfl (j * 3) (.int .i64 p.x)) gg rfl (j * 3 + 1) (.int .i64 p.y)) gg rfl (j * 3 + 2) (.int .i64 p.d)
              rw [ptCells_set _ _ _ (by rw [shift_len l p j hjl]; omega), HS.out, ← HE.out] at o3
              have el : (insM l p).length = l.length + 1 := by rw [HE.out]; simp; omega
              rw [el]; exact o3
            · exact ((hK.setCell (p := ⟨gg, j * 3, none⟩) HGX.out _).setCell (p := ⟨gg, j * 3 + 1, none⟩) HGX.out _).setCell (p := ⟨gg, j * 3 + 2, none⟩) HGX.out _
set_option maxHeartbeats 1000000 in
theorem sideOf_any (p q a b : Pt) (w : World) (hp : Gd p) (hq : Gd q) (ha : Gd a) (hb : Gd b) :
    Calls Try.prog 52 #[p.v, q.v, sg a b] w fun e w' => e = .returned (.int .i64 (sideOfM p q a b)) ∧ Below w.heap.size w w' := by
  by_cases h : sideM a b p = 0
  · have H : Hid (sideOfM p q a b = sideM a b q) := by unfold sideOfM; rw [if_neg (by simpa using h)]; exact hide rfl
    have h' : (sideM a b p != 0) = false := by simpa using h
    go_enter Try.func52, Try.ntmps52
    go_wp2_with fail
    refine (segSide_any a b p _ ha hb hp).mono ?_
    rintro e w1 ⟨rfl, k⟩
    have B1 := bvia (below3 _ _ _ _) k
    obtain ⟨cq, fq, zq⟩ := ((Blk.at (w.heap.size + 1) (by simp)).alloc _).call k
    obtain ⟨ce, fe, ze⟩ := (Blk.at (w.heap.size + 1 + 1) (by simp)).call k
    clear k
    go_wp2_with fail
    refine (segSide_any a b q _ ha hb hq).mono ?_
    rintro e w2 ⟨rfl, k⟩
    have B2 := bvia B1 k
    clear k cq fq ce fe B1
    go_wp2
    go_ret
    exact ⟨ret_int H.out.symm, B2⟩
  · have H : Hid (sideOfM p q a b = sideM a b p) := by unfold sideOfM; rw [if_pos h]; exact hide rfl
    have h' : (sideM a b p != 0) = true := by simpa using h
    go_enter Try.func52, Try.ntmps52
    go_wp2_with fail
    refine (segSide_any a b p _ ha hb hp).mono ?_
    rintro e w1 ⟨rfl, k⟩
    have B1 := bvia (below3 _ _ _ _) k
    clear k
    go_wp2
    go_ret
    exact ⟨ret_int H.out.symm, B1⟩

theorem par_drop (f : Pt → Pt → Bool) (E : List (Pt × Pt)) (k : Nat) (hk : k < E.length) : parB f (E.drop k) = (f (E.getD k (zP, zP)).1 (E.getD k (zP, zP)).2 ^^ parB f (E.drop (k + 1))) := by
  rw [List.drop_eq_getElem_cons hk, List.getD_eq_getElem?_getD, List.getElem?_eq_getElem hk]; rfl

set_option maxRecDepth 100000 in
set_option maxHeartbeats 4000000 in
theorem cutSides_any (p q : Pt) (v : Value) (E : List (Pt × Pt)) (w : World) (hE : SegsAt w v E) (hG : GdE E) (hp : Gd p) (hq : Gd q) :
    Calls Try.prog 32 #[p.v, q.v, v] w fun e w' => e = .returned (.tuple #[.bool (parB (leftE p q) E), .bool (parB (rightE p q) E)]) ∧ Below w.heap.size w w' := by
  obtain ⟨a, cap, rfl, h1, h2, h3⟩ := hE
  unfold maxLen at h2
  have H3 := hide h3
  have HG := hide hG
  clear h3 hG
  go_enter Try.func32, Try.ntmps32
  go_wp2_with fail
  go_loopw [8, 9, 11, 12, 15] (fun lv rv _ _ iv w' => ∃ (k : Nat) (x y : Bool), iv = .int .i64 k ∧ lv = .bool x ∧ rv = .bool y ∧ k ≤ E.length ∧ Blk w' w.heap.size #[.int .i64 p.x, .int .i64 p.y, .int .i64 p.d] ∧ Blk w' (w.heap.size + 1) #[.int .i64 q.x, .int .i64 q.y, .int .i64 q.d] ∧ Below w.heap.size w w' ∧ Hid (parB (leftE p q) E = (x ^^ parB (leftE p q) (E.drop k))) ∧ Hid (parB (rightE p q) E = (y ^^ parB (rightE p q) (E.drop k)))) (fun _ _ _ _ iv _ => E.length - (intOf iv).toNat)
  case atStart => exact ⟨0, false, false, rfl, rfl, rfl, Nat.zero_le _, (Blk.new w _ _).alloc _, Blk.at (w.heap.size + 1) (by simp), below2 _ _ _, by simp [hide], by simp [hide]⟩
  case round =>
    obtain ⟨k, x, y, rfl, rfl, rfl, hk, ⟨cp, fp, zp⟩, ⟨cq, fq, zq⟩, hbel, HL, HR⟩ := hrel
    by_cases hlt : k < E.length
    · obtain ⟨b, off, rfl, hb, hs⟩ := H3.out k hlt
      obtain ⟨c0, c1, c2, c3, c4, c5⟩ := hs.later hbel hb
      obtain ⟨g1, g2⟩ := HG.out k hlt
      have HL1 := hide (par_drop (leftE p q) E k hlt)
      have HR1 := hide (par_drop (rightE p q) E k hlt)
      generalize E.getD k (zP, zP) = e at *
      have HLe := hide (show leftE p q e.1 e.2 = (spanM e.1 e.2 p && decide (sideOfM p q e.1 e.2 < 0)) from rfl)
      have HRe := hide (show rightE p q e.1 e.2 = (spanM e.1 e.2 p && decide (sideOfM p q e.1 e.2 ≤ 0)) from rfl)
      clear hs
      go_wp2_with fail
      refine (Spans_any e.1 e.2 p _ g1 g2 hp).mono ?_
      rintro e' w1 ⟨rfl, k1⟩
      have B1 := bvia (hbel.alloc hbel.size _) k1
      have P1 := ((Blk.mk cp fp zp).alloc _).call k1
      have Q1 := ((Blk.mk cq fq zq).alloc _).call k1
      obtain ⟨ce, fe, ze⟩ := (Blk.new wr _ _).call k1
      obtain ⟨cp1, fp1, zp1⟩ := id P1
      obtain ⟨cq1, fq1, zq1⟩ := id Q1
      clear k1 c0 c1 c2 c3 c4 c5 cp fp zp cq fq zq hbel
      cases hsp : spanM e.1 e.2 p
      · have HE : Hid (parB (leftE p q) E = (x ^^ parB (leftE p q) (E.drop (k + 1)))) := HL.out.trans (by rw [HL1.out, HLe.out, hsp]; simp)
        have HF : Hid (parB (rightE p q) E = (y ^^ parB (rightE p q) (E.drop (k + 1)))) := HR.out.trans (by rw [HR1.out, HRe.out, hsp]; simp)
        clear HL HR HL1 HR1 HLe HRe
        go_wp2
        go_roundw
        case rel => exact ⟨k + 1, x, y, by go_num, rfl, rfl, by omega, P1, Q1, B1, HE, HF⟩
        case measure => simp [intOf]; omega
      · go_wp2_with fail
        refine (sideOf_any p q e.1 e.2 _ hp hq g1 g2).mono ?_
        rintro e' w2 ⟨rfl, k2⟩
        have B2 := bvia B1 k2
        have P2 := P1.call k2
        have Q2 := Q1.call k2
        clear k2 cp1 fp1 zp1 cq1 fq1 zq1 ce fe ze B1 P1 Q1
        generalize sideOfM p q e.1 e.2 = sd at *
        rcases Int.lt_trichotomy sd 0 with c | c | c
        · have HE : Hid (parB (leftE p q) E = ((!x) ^^ parB (leftE p q) (E.drop (k + 1)))) := HL.out.trans (by rw [HL1.out, HLe.out, hsp, decide_eq_true c]; simp)
          have HF : Hid (parB (rightE p q) E = ((!y) ^^ parB (rightE p q) (E.drop (k + 1)))) := HR.out.trans (by rw [HR1.out, HRe.out, hsp, decide_eq_true (by omega : sd ≤ 0)]; simp)
          have c' : sd ≤ 0 := by omega
          clear HL HR HL1 HR1 HLe HRe
          go_wp2
          go_roundw
          case rel => exact ⟨k + 1, !x, !y, by go_num, rfl, rfl, by omega, P2, Q2, B2, HE, HF⟩
          case measure => simp [intOf]; omega
        · subst c
          have HE : Hid (parB (leftE p q) E = (x ^^ parB (leftE p q) (E.drop (k + 1)))) := HL.out.trans (by rw [HL1.out, HLe.out, hsp]; simp)
          have HF : Hid (parB (rightE p q) E = ((!y) ^^ parB (rightE p q) (E.drop (k + 1)))) := HR.out.trans (by rw [HR1.out, HRe.out, hsp]; simp)
          clear HL HR HL1 HR1 HLe HRe
          go_wp2
          go_roundw
          case rel => exact ⟨k + 1, x, !y, by go_num, rfl, rfl, by omega, P2, Q2, B2, HE, HF⟩
          case measure => simp [intOf]; omega
        · have HE : Hid (parB (leftE p q) E = (x ^^ parB (leftE p q) (E.drop (k + 1)))) := HL.out.trans (by rw [HL1.out, HLe.out, hsp, decide_eq_false (by omega : ¬ sd < 0)]; simp)
          have HF : Hid (parB (rightE p q) E = (y ^^ parB (rightE p q) (E.drop (k + 1)))) := HR.out.trans (by rw [HR1.out, HRe.out, hsp, decide_eq_false (by omega : ¬ sd ≤ 0)]; simp)
          have c1 : ¬ sd < 0 := by omega
          have c2 : ¬ sd ≤ 0 := by omega
          clear HL HR HL1 HR1 HLe HRe
          go_wp2
          go_roundw
          case rel => exact ⟨k + 1, x, y, by go_num, rfl, rfl, by omega, P2, Q2, B2, HE, HF⟩
          case measure => simp [intOf]; omega
    · have HE : Hid (parB (leftE p q) E = x) := HL.out.trans (by rw [List.drop_of_length_le (by omega)]; simp [parB])
      have HF : Hid (parB (rightE p q) E = y) := HR.out.trans (by rw [List.drop_of_length_le (by omega)]; simp [parB])
      clear HL HR
      go_wp2
      go_ret2
      exact ⟨by rw [HE.out, HF.out]; rfl, hbel⟩
end Go.Proofs.Ytnkcbephceollab
