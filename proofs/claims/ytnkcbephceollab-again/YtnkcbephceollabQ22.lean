import Derived.Test.YtnkcbephceollabQ21
namespace Go.Proofs.Ytnkcbephceollab
open Go.RowKit
set_option linter.unusedSimpArgs false
set_option linter.unusedVariables false

theorem rot_mem {r : List Pt} {i : Nat} {p : Pt} (h : p ∈ rotL r i) : p ∈ r := by
  unfold rotL at h
  rcases List.mem_append.1 h with h | h
  · exact List.mem_of_mem_drop h
  · exact List.mem_of_mem_take h
theorem rot_len (r : List Pt) (i : Nat) (hi : i ≤ r.length) : (rotL r i).length = r.length := by unfold rotL; simp; omega
theorem least_mem {r : List Pt} {p : Pt} : ∀ i, p ∈ leastL r i → p ∈ r
  | 0, h => by simp [leastL] at h
  | i + 1, h => by
    unfold leastL at h
    split at h
    · exact rot_mem h
    · exact least_mem i h
theorem least_len (r : List Pt) : ∀ i, i ≤ r.length → (leastL r i).length ≤ r.length
  | 0, _ => by simp [leastL]
  | i + 1, h => by
    unfold leastL
    split
    · rw [rot_len r i (by omega)]; exact Nat.le_refl _
    · exact least_len r i (by omega)
/-- A part of a ring, from its i-th point on. -/
theorem tail_both {w : World} {b off n cap i : Nat} {r : List Pt} (hr : ∀ j, j < r.length → PtAt w b (off + j * 3) (r.getD j zP)) (hi : i < r.length) : ∀ j u, (ptCells (r.drop i))[j]? = some u → w.cell? ((⟨b, off + i * 3, none⟩ : Addr).add j) = some u := by
  refine ring_news (fun j hj => ?_)
  rw [List.length_drop] at hj
  have e1 : (r.drop i).getD j zP = r.getD (i + j) zP := by rw [List.getD_eq_getElem?_getD, List.getD_eq_getElem?_getD, List.getElem?_drop]
  have e2 : off + i * 3 + j * 3 = off + (i + j) * 3 := by omega
  rw [e1, e2]; exact hr (i + j) (by omega)
theorem head_both {w : World} {b off i : Nat} {r : List Pt} (hr : ∀ j, j < r.length → PtAt w b (off + j * 3) (r.getD j zP)) (hi : i ≤ r.length) : ∀ j u, (ptCells (r.take i))[j]? = some u → w.cell? ((⟨b, off, none⟩ : Addr).add j) = some u := by
  refine ring_news (fun j hj => ?_)
  rw [List.length_take] at hj
  have e1 : (r.take i).getD j zP = r.getD j zP := by rw [List.getD_eq_getElem?_getD, List.getD_eq_getElem?_getD, List.getElem?_take_of_lt (by omega)]
  rw [e1]; exact hr j (by omega)

set_option maxRecDepth 100000 in
set_option maxHeartbeats 2000000 in
theorem fromLeast_any (v : Value) (r : List Pt) (w : World) (hr : RingAt w v r) (hG : ∀ p ∈ r, Gd p) (hn : r.length ≤ 1000000) :
    Calls Try.prog 36 #[v] w fun e w' => ∃ v', e = .returned v' ∧ w'.ownsRow w.heap.size 29 3 v' (leastL r r.length).length (ptCells (leastL r r.length)) ∧ Below w.heap.size w w' := by
  obtain ⟨a, cap, rfl, a1, a2, a3⟩ := hr
  unfold maxLen at a2
  have HA := hide a3
  obtain ⟨i0, hi0, hz0, hz1, hz2⟩ := info_parts infoPoint
  have HG := hide hG
  clear a3 hG
  go_enter Try.func36, Try.ntmps36
  go_wp2_with fail
  go_loopw [3, 4, 5, 8] (fun lv _ _ iv w' => ∃ i : Nat, iv = .int .i64 i ∧ i ≤ r.length ∧ w'.ownsRow w.heap.size 29 3 lv (leastL r i).length (ptCells (leastL r i)) ∧ Below w.heap.size w w') (fun _ _ _ iv _ => r.length - (intOf iv).toNat)
  case atStart => exact ⟨0, rfl, Nat.zero_le _, World.ownsRow_nil _ _ _ _, Below.refl _ _⟩
  case round =>
    obtain ⟨i, rfl, hi, hO, hbel⟩ := hrel
    by_cases hlt : i < r.length
    · obtain ⟨b, off, rfl, hb, _⟩ := HA.out i hlt
      have hP : ∀ wz, Below w.heap.size w wz → ∀ j, j < r.length → PtAt wz b (off + j * 3) (r.getD j zP) := fun wz kz j hj => by
        obtain ⟨b', off', e', hb', hp⟩ := HA.out j hj
        simp at e'
        obtain ⟨rfl, rfl⟩ := e'
        exact hp.later kz hb'
      have HP := hide hP
      have HT := hide (tail_both (n := 0) (cap := 0) (hP wr hbel) hlt)
      have hll := least_len r i hi
      have HLm := hide (fun p => least_mem (r := r) (p := p) i)
      have HLs := hide (show leastL r (i + 1) = if i = 0 ∨ clM (rotL r i) (leastL r i) < 0 then rotL r i else leastL r i from rfl)
      have hO' := hide hO
      have hB' := hide hbel
      have hsz := hbel.size
      have hi0' : (0 : Int) ≤ (i : Int) := Int.natCast_nonneg _
      have hi1' : (i : Int) ≤ (r.length : Int) := by omega
      have hcap : ¬ cap = i := by omega
      have hcap' : (i : Int) ≤ (cap : Int) := by omega
      generalize leastL r i = M at *
      clear hP hO
      go_upto_region 6 with fail
      go_cut [5] (fun lv w' => w'.ownsRow wr.heap.size 29 3 lv (r.drop i).length (ptCells (r.drop i)) ∧ Below wr.heap.size wr w')
      case first =>
        have hn1 : 0 + (r.length - i) ≤ maxLen := by unfold maxLen; omega
        have hn2 : (0 + (r.length - i)) * 24 ≤ 140737488355328 := by omega
        have hn0 : 0 < r.length - i := by omega
        have hpl : (ptCells (r.drop i)).length = (r.length - i) * 3 := by rw [ptCells_len, List.length_drop]
        clear hO' hB' HLs HLm HP HG
        go_wp2_with (at_builtin; refine wpList_append_lies _ rfl _ _ _ rfl wr.heap.size 29 i0 _ 3 24 Try.underlying27 hi0 hz0 hz1 hz2 rfl (by omega) (.slice none 0 0) 0 [] rfl (World.ownsRow_nil _ _ _ _) ⟨b, off + i * 3, none⟩ (r.length - i) (cap - i) (ptCells (r.drop i)) rfl hpl HT.out (ptCells_one _) hn0 hn1 hn2 (Nat.le_refl _) _ rfl ?_; intro gg cp w3 hown3 hgrow hat hlt3)
        go_meet
        case rel => exact ⟨by rw [List.length_drop]; simpa using hown3, Below.grown (Below.refl _ _) hgrow (Nat.le_refl _) (fun k hk => by simp [Value.ownBlock] at hk)⟩
      case rest =>
        obtain ⟨o1, k1⟩ := hcut
        have O1 := hide o1
        have K1 := hide k1
        have z1 := k1.size
        have HH := hide (head_both (HP.out wc (bvia hB'.out k1)) hi)
        clear o1 k1 HT
        go_upto_region 7 with fail
        go_cut [5] (fun lv w' => w'.ownsRow wr.heap.size 29 3 lv (rotL r i).length (ptCells (rotL r i)) ∧ Below wr.heap.size wr w')
        case first =>
          have hn1 : (r.drop i).length + i ≤ maxLen := by rw [List.length_drop]; unfold maxLen; omega
          have hn2 : ((r.drop i).length + i) * 24 ≤ 140737488355328 := by rw [List.length_drop]; omega
          have hpl : (ptCells (r.take i)).length = i * 3 := by rw [ptCells_len, List.length_take]; omega
          have HN : Hid (0 < i → ∃ A, (some ⟨b, off, none⟩ : Option Addr) = some A ∧ ∀ j u, (ptCells (r.take i))[j]? = some u → wc.cell? (A.add j) = some u) := fun _ => ⟨_, rfl, HH.out⟩
          clear hO' hB' HLs HLm HP HG
          go_wp2_with (at_builtin; refine wpList_append_both rfl _ _ _ rfl wr.heap.size 29 i0 _ 3 24 Try.underlying27 hi0 hz0 hz1 hz2 rfl (by omega) u5 (r.drop i).length (ptCells (r.drop i)) rfl O1.out (some ⟨b, off, none⟩) i cap (ptCells (r.take i)) rfl hpl HN.out (ptCells_one _) hn1 hn2 z1 ?_; intro v4 w4 o4 k4)
          go_meet
          case rel => exact ⟨by unfold rotL; rw [ptCells_append, List.length_append, List.length_take, Nat.min_eq_left hi]; exact o4, below_kp K1.out k4 K1.out.size (fun b h => (O1.out.lt b h).1)⟩
        case rest =>
          clear O1 K1 HH z1
          obtain ⟨o2, k2⟩ := hcut
          have hrl := rot_len r i hi
          have R2 := hide (ring_of_own o2 (by unfold maxLen; omega))
          have o3 := own_later hO'.out k2
          have R3 := hide (ring_of_own o3 (by unfold maxLen; omega))
          have O2 := hide (own_mono o2 hsz)
          have O3 := hide o3
          have B2 := hide (bvia hB'.out k2)
          have CL := hide (CompareLists_any u5 u3 (rotL r i) M wc R2.out R3.out (fun p hp => HG.out p (rot_mem hp)) (fun p hp => HG.out p (HLm.out p hp)))
          clear o2 o3 k2 hO' hB' R2 R3
          by_cases hz : i = 0
          · have HS : Hid (leastL r (i + 1) = rotL r i) := by rw [HLs.out, if_pos (.inl hz)]; exact hide rfl
            have hz' : ((i : Int) == 0) = true := by simp; omega
            clear HLs CL
            go_wp2
            go_roundw
            case rel => exact ⟨i + 1, by go_num, by omega, by rw [HS.out]; exact O2.out, B2.out⟩
            case measure => simp [intOf]; omega
          · have hz' : ¬ ((i : Int) = 0) := by omega
            go_wp2_with fail
            refine CL.out.mono ?_
            rintro e' w4 ⟨rfl, k4⟩
            have O4 := hide (own_later O2.out k4)
            have O5 := hide (own_later O3.out k4)
            have B4 := hide (bvia B2.out k4)
            clear O2 O3 B2 k4 CL
            generalize hcc : clM (rotL r i) M = cc at *
            by_cases hc : cc < 0
            · have HS : Hid (leastL r (i + 1) = rotL r i) := by rw [HLs.out, if_pos (.inr hc)]; exact hide rfl
              clear HLs
              go_wp2
              go_roundw
              case rel => exact ⟨i + 1, by go_num, by omega, by rw [HS.out]; exact O4.out, B4.out⟩
              case measure => simp [intOf]; omega
            · have hcd : decide (cc < 0) = false := by simpa using hc
              have HS : Hid (leastL r (i + 1) = M) := by rw [HLs.out, if_neg (by simp only [hz, hc, or_self, not_false_eq_true])]; exact hide rfl
              clear HLs
              go_wp2
              go_roundw
              case rel => exact ⟨i + 1, by go_num, by omega, by rw [HS.out]; exact O5.out, B4.out⟩
              case measure => simp [intOf]; omega
    · have ei : i = r.length := by omega
      subst ei
      have HO := hide hO
      clear hO HA HG
      go_wp2
      go_ret
      exact ⟨_, rfl, HO.out, hbel⟩
/-- Rings that are the call's own: the list of them, and each of them, in blocks of their own. -/
structure OwnR (w : World) (base : Nat) (v : Value) (R : List (List Pt)) (vs : List Value) : Prop where
  len : vs.length = R.length
  row : w.ownsRow base 27 1 v R.length vs
  each : ∀ j, j < R.length → w.ownsRow base 29 3 (vs.getD j (.slice none 0 0)) (R.getD j []).length (ptCells (R.getD j []))
  apart : ∀ j k g, j < k → k < R.length → (vs.getD j (.slice none 0 0)).ownBlock = some g → (vs.getD k (.slice none 0 0)).ownBlock ≠ some g
  small : ∀ j, j < R.length → (R.getD j []).length ≤ 2000000

/-- A row while it is shifted. -/
def shV {α : Type} (l : List α) (p : α) (j : Nat) : List α := (l ++ [p]).take (j + 1) ++ l.drop j
theorem shv_len {α : Type} (l : List α) (p : α) (j : Nat) (hj : j ≤ l.length) : (shV l p j).length = l.length + 1 := by
  unfold shV; simp; omega
theorem shv_start {α : Type} (l : List α) (p : α) : shV l p l.length = l ++ [p] := by
  unfold shV; rw [List.take_of_length_le (by simp), List.drop_length, List.append_nil]
theorem shv_at {α : Type} (l : List α) (p : α) (j : Nat) (hj : j + 1 ≤ l.length) (d : α) : (shV l p (j + 1)).getD j d = l.getD j d := by
  unfold shV
  rw [List.getD_eq_getElem?_getD, List.getD_eq_getElem?_getD, List.getElem?_append_left (by simp; omega), List.getElem?_take_of_lt (by omega), List.getElem?_append_left (by omega)]
theorem shv_step {α : Type} (l : List α) (p : α) (j : Nat) (hj : j + 1 ≤ l.length) (d : α) : (shV l p (j + 1)).set (j + 1) (l.getD j d) = shV l p j := by
  unfold shV
  have e1 : (l ++ [p]).take (j + 1 + 1) = (l ++ [p]).take (j + 1) ++ [(l ++ [p]).getD (j + 1) p] := by
    rw [List.take_succ_eq_append_getElem (by simp; omega), List.getD_eq_getElem?_getD, List.getElem?_eq_getElem (by simp; omega)]; rfl
  have e2 : l.drop j = l.getD j d :: l.drop (j + 1) := by
    rw [List.drop_eq_getElem_cons (by omega), List.getD_eq_getElem?_getD, List.getElem?_eq_getElem (by omega)]; rfl
  rw [e1, e2, List.append_assoc, List.set_append_right _ _ (by simp; omega)]
  have e3 : j + 1 - ((l ++ [p]).take (j + 1)).length = 0 := by simp; omega
  rw [e3]; rfl
theorem shv_end {α : Type} (l : List α) (p : α) (i : Nat) (hi : i ≤ l.length) : (shV l p i).set i p = l.take i ++ p :: l.drop i := by
  unfold shV
  have e1 : (l ++ [p]).take (i + 1) = (l ++ [p]).take i ++ [(l ++ [p]).getD i p] := by
    rw [List.take_succ_eq_append_getElem (by simp; omega), List.getD_eq_getElem?_getD, List.getElem?_eq_getElem (by simp; omega)]; rfl
  have e2 : (l ++ [p]).take i = l.take i := List.take_append_of_le_length hi
  rw [e1, e2, List.append_assoc, List.set_append_right _ _ (by simp; omega)]
  have e3 : i - (l.take i).length = 0 := by simp; omega
  rw [e3]; rfl

theorem getD_ins {α : Type} (l : List α) (x d : α) (i j : Nat) (hi : i ≤ l.length) : (l.take i ++ x :: l.drop i).getD j d = if j < i then l.getD j d else if j = i then x else l.getD (j - 1) d := by
  have hl : (l.take i).length = i := by simp; omega
  rw [List.getD_eq_getElem?_getD]
  by_cases h : j < i
  · rw [if_pos h, List.getElem?_append_left (by omega), List.getElem?_take_of_lt h, List.getD_eq_getElem?_getD]
  · rw [if_neg h, List.getElem?_append_right (by omega), hl]
    by_cases h2 : j = i
    · rw [if_pos h2, h2, Nat.sub_self]; rfl
    · rw [if_neg h2]
      obtain ⟨k, hk⟩ : ∃ k, j - i = k + 1 := ⟨j - i - 1, by omega⟩
      rw [hk, List.getElem?_cons_succ, List.getElem?_drop, List.getD_eq_getElem?_getD]
      congr 2; omega
theorem place_le (R : List (List Pt)) (r : List Pt) : ∀ i, placeL R r i ≤ i
  | 0 => Nat.le_refl _
  | i + 1 => by
    unfold placeL
    split
    · exact Nat.le_succ_of_le (place_le R r i)
    · exact Nat.le_refl _
abbrev nilV : Value := .slice none 0 0
/-- The rings, with one more laid among them. -/
theorem OwnR.ins {w w' : World} {base : Nat} {v V rv : Value} {R : List (List Pt)} {r : List Pt} {vs : List Value} {i : Nat} (h : OwnR w base v R vs) (hr : w.ownsRow base 29 3 rv r.length (ptCells r)) (hap : ∀ j g, j < R.length → (vs.getD j nilV).ownBlock = some g → rv.ownBlock ≠ some g) (hrl : r.length ≤ 2000000) (hi : i ≤ R.length)
    (k : Kp (fun b => v.ownBlock = some b) w w') (hrow : w'.ownsRow base 27 1 V (R.length + 1) (vs.take i ++ rv :: vs.drop i)) : OwnR w' base V (R.take i ++ r :: R.drop i) (vs.take i ++ rv :: vs.drop i) := by
  have hlR : (R.take i ++ r :: R.drop i).length = R.length + 1 := by simp; omega
  have hiv : i ≤ vs.length := by rw [h.len]; exact hi
  have rows : ∀ j, j < R.length → w'.ownsRow base 29 3 (vs.getD j nilV) (R.getD j []).length (ptCells (R.getD j [])) := fun j hj => Kp.own (h.each j hj) k (own_apart (h.each j hj) h.row (by decide))
  have rowr : w'.ownsRow base 29 3 rv r.length (ptCells r) := Kp.own hr k (own_apart hr h.row (by decide))
  refine ⟨by simp; have := h.len; omega, by rw [hlR]; exact hrow, fun j hj => ?_, fun j q g hjq hq hg => ?_, fun j hj => ?_⟩
  · rw [hlR] at hj
    rw [getD_ins vs rv nilV i j hiv, getD_ins R r [] i j hi]
    by_cases h1 : j < i
    · rw [if_pos h1, if_pos h1]; exact rows j (by omega)
    · rw [if_neg h1, if_neg h1]
      by_cases h2 : j = i
      · rw [if_pos h2, if_pos h2]; exact rowr
      · rw [if_neg h2, if_neg h2]; exact rows (j - 1) (by omega)
  · rw [hlR] at hq
    rw [getD_ins vs rv nilV i j hiv] at hg
    rw [getD_ins vs rv nilV i q hiv]
    by_cases h1 : j < i
    · rw [if_pos h1] at hg
      by_cases h2 : q < i
      · rw [if_pos h2]; exact h.apart j q g hjq (by omega) hg
      · rw [if_neg h2]
        by_cases h3 : q = i
        · rw [if_pos h3]; exact hap j g (by omega) hg
        · rw [if_neg h3]; exact h.apart j (q - 1) g (by omega) (by omega) hg
    · rw [if_neg h1] at hg
      rw [if_neg (by omega), if_neg (by omega)]
      by_cases h2 : j = i
      · rw [if_pos h2] at hg; exact fun e => hap (q - 1) g (by omega) e hg
      · rw [if_neg h2] at hg; exact h.apart (j - 1) (q - 1) g (by omega) (by omega) hg
  · rw [hlR] at hj
    rw [getD_ins R r [] i j hi]
    by_cases h1 : j < i
    · rw [if_pos h1]; exact h.small j (by omega)
    · rw [if_neg h1]
      by_cases h2 : j = i
      · rw [if_pos h2]; exact hrl
      · rw [if_neg h2]; exact h.small (j - 1) (by omega)

set_option maxRecDepth 100000 in
set_option maxHeartbeats 4000000 in
theorem insertR_any (base : Nat) (v rv : Value) (R : List (List Pt)) (r : List Pt) (vs : List Value) (w : World) (hO : OwnR w base v R vs) (hr : w.ownsRow base 29 3 rv r.length (ptCells r)) (hap : ∀ j g, j < R.length → (vs.getD j (.slice none 0 0)).ownBlock = some g → rv.ownBlock ≠ some g) (hn : R.length ≤ 1000000) (hrl : r.length ≤ 2000000)
    (gR : ∀ q ∈ R, ∀ p ∈ q, Gd p) (gr : ∀ p ∈ r, Gd p) (hbase : base ≤ w.heap.size) :
    Calls Try.prog 37 #[v, rv] w fun e w' => ∃ v' vs', e = .returned v' ∧ OwnR w' base v' (insL R r) vs' ∧ Kp (fun b => v.ownBlock = some b) w w' ∧ (∀ g, v'.ownBlock = some g → v.ownBlock = some g ∨ w.heap.size ≤ g) ∧ (∀ u ∈ vs', u = rv ∨ u ∈ vs) := by
  obtain ⟨i0, hi0, hz0, hz1, hz2⟩ := info_parts infoRing
  obtain ⟨a, cap, rfl, hag, hpos, hmx⟩ := own_form hO.row
  obtain ⟨ra, rcap, rfl, _, _, _⟩ := own_form hr
  have HI := hide (show insL R r = R.take (placeL R r R.length) ++ r :: R.drop (placeL R r R.length) from rfl)
  have HO := hide hO
  have HR := hide hr
  have HAP := hide hap
  have GR := hide gR
  have Gr' := hide gr
  have HROW := hide hO.row
  have RR := hide (ring_of_own hr (by unfold maxLen; omega))
  have hvl := hO.len
  unfold maxLen at hmx
  have HAG := hide hag
  clear hO hr hap gR gr hag
  go_enter Try.func37, Try.ntmps37
  go_upto_block 0 with fail
  go_cut [5] (fun iv w' => iv = .int .i64 (placeL R r R.length : Nat) ∧ Below w.heap.size w w')
  case first =>
    go_wp2_with fail
    go_loopw [5] (fun iv w' => ∃ i : Nat, iv = .int .i64 i ∧ i ≤ R.length ∧ Below w.heap.size w w' ∧ Hid (placeL R r R.length = placeL R r i)) (fun iv _ => (intOf iv).toNat)
    case atStart => exact ⟨R.length, rfl, Nat.le_refl _, Below.refl _ _, rfl⟩
    case round =>
      obtain ⟨i, rfl, hi, hbel, HB⟩ := hrel
      cases i with
      | zero =>
        have e0 : ((0 : Nat) : Int) = 0 := rfl
        rw [e0]
        clear HO HR HAP GR Gr' RR HI
        go_wp2
        go_meet
        case rel => exact ⟨by rw [HB.out]; rfl, hbel⟩
      | succ k =>
        obtain ⟨g, hg⟩ := hpos (by omega)
        obtain rfl := HAG.out g hg
        have hc0 : wr.cell? ⟨g, k, none⟩ = some (vs.getD k nilV) := by
          rw [hbel.cell (p := ⟨g, k, none⟩) (HROW.out.lt g rfl).2, own_cell HROW.out g rfl k (by omega), List.getD_eq_getElem?_getD, List.getElem?_eq_getElem (by omega)]; rfl
        have hring : RingAt wr (vs.getD k nilV) (R.getD k []) := (ring_of_own (HO.out.each k (by omega)) (by have := HO.out.small k (by omega); unfold maxLen; omega)).later hbel
        have C := hide (CompareLists_any _ _ r (R.getD k []) wr (RR.out.later hbel) hring Gr'.out (GR.out _ (getD_mem (show k < R.length by omega) [])))
        have HC := hide (show placeL R r (k + 1) = if clM r (R.getD k []) < 0 then placeL R r k else k + 1 from rfl)
        obtain ⟨xa, xl, xc, hx⟩ : ∃ xa xl xc, vs.getD k nilV = .slice xa xl xc := by
          obtain ⟨xa, xc, e, _⟩ := own_form (HO.out.each k (by omega))
          exact ⟨xa, _, xc, e⟩
        rw [hx] at hc0 C
        generalize clM r (R.getD k []) = cc at *
        have ec : (((k + 1 : Nat)) : Int) = (k : Int) + 1 := by omega
        rw [ec]
        have hk0 : (0 : Int) ≤ (k : Int) := Int.natCast_nonneg _
        have hk1 : (k : Int) < (R.length : Int) := by omega
        have hk2 : (0 : Int) < (k : Int) + 1 := by omega
        clear HO HR HAP GR Gr' RR HI hring hx HROW HAG
        go_wp2_with fail
        refine C.out.mono ?_
        rintro e' w2 ⟨rfl, k2⟩
        have B2 := bvia hbel k2
        clear hc0 hbel C k2
        by_cases hc : cc < 0
        · have HE : Hid (placeL R r R.length = placeL R r k) := HB.out.trans (HC.out.trans (if_pos hc))
          clear HB HC
          go_wp2
          go_roundw
          case rel => exact ⟨k, by go_num, by omega, B2, HE⟩
          case measure => simp [intOf] <;> omega
        · have HE : Hid (placeL R r R.length = k + 1) := HB.out.trans (HC.out.trans (if_neg hc))
          have hcd : decide (cc < 0) = false := by simpa using hc
          clear HB HC
          go_wp2
          go_meet
          case rel => exact ⟨by rw [HE.out, ec], B2⟩
  case rest =>
    obtain ⟨rfl, B1⟩ := hcut
    have hile := place_le R r R.length
    generalize placeL R r R.length = i at *
    have O1 := hide (own_later HROW.out B1)
    have hb1 := B1.size
    have hnews := World.news_of_block (w := wc.alloc (.cells #[.slice ra r.length rcap] 27)) (cs := #[.slice ra r.length rcap]) (t := 27) (fr := (0, 0)) (heap_alloc_new wc _)
    have hn1 : R.length + 1 ≤ maxLen := by unfold maxLen; omega
    have hn2 : (R.length + 1) * 24 ≤ 140737488355328 := by omega
    clear RR GR Gr'
    go_wp2_with (at_builtin; refine wpList_append_lies _ rfl _ _ _ rfl base 27 i0 _ 1 24 Try.underlying22 hi0 hz0 hz1 hz2 rfl (by omega) (.slice a R.length cap) R.length vs rfl (O1.out.alloc _) ⟨wc.heap.size, 0, none⟩ 1 1 [.slice ra r.length rcap] rfl rfl hnews (by simp [Value.oneCell']) (by omega) hn1 hn2 (by simp; omega) _ rfl ?_; intro gg cp w2 hown2 hgrow hat hlt2)
    have hgx : gg < w.heap.size → (Value.slice a R.length cap).ownBlock = some gg := fun h => by
      rcases hat with k | k
      · exact k
      · simp at k; omega
    have K2 : Kp (fun b => (Value.slice a R.length cap).ownBlock = some b) w w2 := Kp.grown ((Kp.of B1).alloc _) hgrow (fun k hk => hk)
    have HGX := hide hgx
    have HAT : Hid (∀ g, (Value.slice (some ⟨gg, 0, none⟩) (R.length + 1) cp).ownBlock = some g → (Value.slice a R.length cap).ownBlock = some g ∨ w.heap.size ≤ g) := hide fun g hg => by
      have : gg = g := by simpa [Value.ownBlock] using hg
      subst this
      rcases Nat.lt_or_ge gg w.heap.size with k | k
      · exact .inl (hgx k)
      · exact .inr k
    have OS : Hid (w2.ownsRow base 27 1 (.slice (some ⟨gg, 0, none⟩) (R.length + 1) cp) (R.length + 1) (shV vs (.slice ra r.length rcap) R.length)) := by
      rw [← hvl, shv_start, hvl]; exact hide hown2
    have HK2 := hide K2
    clear hown2 hgrow hat hnews B1 O1 hgx K2
    go_wp2_with fail
    go_loopw [6] (fun jv w' => ∃ j : Nat, jv = .int .i64 j ∧ i ≤ j ∧ j ≤ R.length ∧ w'.ownsRow base 27 1 (.slice (some ⟨gg, 0, none⟩) (R.length + 1) cp) (R.length + 1) (shV vs (.slice ra r.length rcap) j) ∧ Kp (fun b => (Value.slice a R.length cap).ownBlock = some b) w w') (fun jv _ => (intOf jv).toNat)
    case atStart => exact ⟨R.length, rfl, hile, Nat.le_refl _, OS.out, HK2.out⟩
    case round =>
      clear OS HK2
      obtain ⟨j, rfl, hij, hjl, hO, hK⟩ := hrel
      have hjv : j ≤ vs.length := by omega
      have hcell : ∀ m, m < R.length + 1 → wr.cell? ⟨gg, m, none⟩ = some ((shV vs (.slice ra r.length rcap) j).getD m nilV) := fun m hm => by
        rw [own_cell hO gg rfl m (by omega), List.getD_eq_getElem?_getD, List.getElem?_eq_getElem (by rw [shv_len vs _ j hjv]; omega)]; rfl
      have hfree := own_free hO gg rfl
      have hll := (hO.lt gg rfl).2
      by_cases hlt : i < j
      · obtain ⟨k, rfl⟩ : ∃ k, j = k + 1 := ⟨j - 1, by omega⟩
        have HS := hide (shv_step vs (.slice ra r.length rcap) k hjv nilV)
        have s0 := hcell k (by omega)
        rw [shv_at vs (.slice ra r.length rcap) k hjv nilV] at s0
        have t0 := hcell (k + 1) (by omega)
        obtain ⟨xa, xl, xc, hx⟩ : ∃ xa xl xc, vs.getD k nilV = .slice xa xl xc := by
          obtain ⟨xa, xc, e, _⟩ := own_form (HO.out.each k (by omega))
          exact ⟨xa, _, xc, e⟩
        rw [hx] at s0 HS
        have ec : (((k + 1 : Nat)) : Int) = (k : Int) + 1 := by omega
        rw [ec]
        have hk0 : (0 : Int) ≤ (k : Int) := Int.natCast_nonneg _
        have hk1 : (k : Int) + 1 < (R.length : Int) + 1 := by omega
        have hk2 : (k : Int) < (R.length : Int) + 1 := by omega
        have hki : (i : Int) < (k : Int) + 1 := by omega
        have hO' := hide hO
        have hK' := hide hK
        clear hcell hO HO HR HAP HI HAG hK hx HROW
        go_wp2
        go_roundw
        case rel =>
          refine ⟨k, by go_num, by omega, by omega, ?_, hK'.out.setCell (p := ⟨gg, k + 1, none⟩) HGX.out _⟩
          have o3 := own_set hO'.out gg rfl (k + 1) (.slice xa xl xc)
          rw [HS.out] at o3
          exact o3
        case measure => simp [intOf] <;> omega
      · have ej : j = i := by omega
        subst ej
        have HS := hide (shv_end vs (.slice ra r.length rcap) j hjv)
        have t0 := hcell j (by omega)
        have hk0 : (0 : Int) ≤ (j : Int) := Int.natCast_nonneg _
        have hk1 : (j : Int) < (R.length : Int) + 1 := by omega
        have hO' := hide hO
        have hK' := hide hK
        clear hcell hO hK HAG HROW
        go_wp2
        go_ret
        have o3 := own_set hO'.out gg rfl j (.slice ra r.length rcap)
        rw [HS.out] at o3
        have k3 := hK'.out.setCell (p := ⟨gg, j, none⟩) HGX.out (.slice ra r.length rcap)
        refine ⟨_, vs.take j ++ .slice ra r.length rcap :: vs.drop j, rfl, ?_, k3, HAT.out, fun u hu => ?_⟩
        · rw [HI.out]
          exact HO.out.ins HR.out HAP.out hrl hjl k3 o3
        · rcases List.mem_append.1 hu with h | h
          · exact .inr (List.mem_of_mem_take h)
          · rcases List.mem_cons.1 h with h | h
            · exact .inl h
            · exact .inr (List.mem_of_mem_drop h)
end Go.Proofs.Ytnkcbephceollab
