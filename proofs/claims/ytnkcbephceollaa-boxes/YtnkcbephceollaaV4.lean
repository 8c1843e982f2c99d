import Derived.Test.YtnkcbephceollaaQ29
import Derived.Test.YtnkcbephceollaaQ31
namespace Go.Proofs.Ytnkcbephceollaa
open Go.RowKit
set_option linter.unusedSimpArgs false
set_option linter.unusedVariables false

theorem rot_mem {r : List Pt} {i : Nat} {p : Pt} (h : p ∈ rotL r i) : p ∈ r := by
  unfold rotL at h
  rcases List.mem_append.1 h with h | h
  · exact List.mem_of_mem_drop h
  · exact List.mem_of_mem_take h
theorem rot_len (r : List Pt) (i : Nat) (hi : i ≤ r.length) : (rotL r i).length = r.length := by unfold rotL; simp; omega
theorem least_mem {r : List Pt} {p : Pt} : ∀ i, p ∈ leastL r i → p ∈ r
  | 0, h => by simp [leastL] at h
  | i + 1, h => by
    unfold leastL at h
    split at h
    · exact rot_mem h
    · exact least_mem i h
theorem least_len (r : List Pt) : ∀ i, i ≤ r.length → (leastL r i).length ≤ r.length
  | 0, _ => by simp [leastL]
  | i + 1, h => by
    unfold leastL
    split
    · rw [rot_len r i (by omega)]; exact Nat.le_refl _
    · exact least_len r i (by omega)
/-- A part of a ring, from its i-th point on. -/
theorem tail_both {w : World} {b off n cap i : Nat} {r : List Pt} (hr : ∀ j, j < r.length → PtAt w b (off + j * 3) (r.getD j zP)) (hi : i < r.length) : ∀ j u, (ptCells (r.drop i))[j]? = some u → w.cell? ((⟨b, off + i * 3, none⟩ : Addr).add j) = some u := by
  refine ring_news (fun j hj => ?_)
  rw [List.length_drop] at hj
  have e1 : (r.drop i).getD j zP = r.getD (i + j) zP := by rw [List.getD_eq_getElem?_getD, List.getD_eq_getElem?_getD, List.getElem?_drop]
  have e2 : off + i * 3 + j * 3 = off + (i + j) * 3 := by omega
  rw [e1, e2]; exact hr (i + j) (by omega)
theorem head_both {w : World} {b off i : Nat} {r : List Pt} (hr : ∀ j, j < r.length → PtAt w b (off + j * 3) (r.getD j zP)) (hi : i ≤ r.length) : ∀ j u, (ptCells (r.take i))[j]? = some u → w.cell? ((⟨b, off, none⟩ : Addr).add j) = some u := by
  refine ring_news (fun j hj => ?_)
  rw [List.length_take] at hj
  have e1 : (r.take i).getD j zP = r.getD j zP := by rw [List.getD_eq_getElem?_getD, List.getD_eq_getElem?_getD, List.getElem?_take_of_lt (by omega)]
  rw [e1]; exact hr j (by omega)

set_option maxRecDepth 100000 in
set_option maxHeartbeats 2000000 in
theorem fromLeast_any (v : Value) (r : List Pt) (w : World) (hr : RingAt w v r) (hG : ∀ p ∈ r, Gd p) (hn : r.length ≤ 1000000) :
    Calls Try.prog 67 #[v] w fun e w' => ∃ v', e = .returned v' ∧ w'.ownsRow w.heap.size 25 3 v' (leastL r r.length).length (ptCells (leastL r r.length)) ∧ Below w.heap.size w w' := by
  obtain ⟨a, cap, rfl, a1, a2, a3⟩ := hr
  unfold maxLen at a2
  have HA := hide a3
  obtain ⟨i0, hi0, hz0, hz1, hz2⟩ := info_parts infoPoint
  have HG := hide hG
  clear a3 hG
  go_enter Try.func67, Try.ntmps67
  go_wp2_with fail
  go_loopw [3, 4, 5, 8] (fun lv _ _ iv w' => ∃ i : Nat, iv = .int .i64 i ∧ i ≤ r.length ∧ w'.ownsRow w.heap.size 25 3 lv (leastL r i).length (ptCells (leastL r i)) ∧ Below w.heap.size w w') (fun _ _ _ iv _ => r.length - (intOf iv).toNat)
  case atStart => exact ⟨0, rfl, Nat.zero_le _, World.ownsRow_nil _ _ _ _, Below.refl _ _⟩
  case round =>
    obtain ⟨i, rfl, hi, hO, hbel⟩ := hrel
    by_cases hlt : i < r.length
    · obtain ⟨b, off, rfl, hb, _⟩ := HA.out i hlt
      have hP : ∀ wz, Below w.heap.size w wz → ∀ j, j < r.length → PtAt wz b (off + j * 3) (r.getD j zP) := fun wz kz j hj => by
        obtain ⟨b', off', e', hb', hp⟩ := HA.out j hj
        simp at e'
        obtain ⟨rfl, rfl⟩ := e'
        exact hp.later kz hb'
      have HP := hide hP
      have HT := hide (tail_both (n := 0) (cap := 0) (hP wr hbel) hlt)
      have hll := least_len r i hi
      have HLm := hide (fun p => least_mem (r := r) (p := p) i)
      have HLs := hide (show leastL r (i + 1) = if i = 0 ∨ clM (rotL r i) (leastL r i) < 0 then rotL r i else leastL r i from rfl)
      have hO' := hide hO
      have hB' := hide hbel
      have hsz := hbel.size
      have hi0' : (0 : Int) ≤ (i : Int) := Int.natCast_nonneg _
      have hi1' : (i : Int) ≤ (r.length : Int) := by omega
      have hcap : ¬ cap = i := by omega
      have hcap' : (i : Int) ≤ (cap : Int) := by omega
      generalize leastL r i = M at *
      clear hP hO
      go_upto_region 6 with fail
      go_cut [5] (fun lv w' => w'.ownsRow wr.heap.size 25 3 lv (r.drop i).length (ptCells (r.drop i)) ∧ Below wr.heap.size wr w')
      case first =>
        have hn1 : 0 + (r.length - i) ≤ maxLen := by unfold maxLen; omega
        have hn2 : (0 + (r.length - i)) * 24 ≤ 140737488355328 := by omega
        have hn0 : 0 < r.length - i := by omega
        have hpl : (ptCells (r.drop i)).length = (r.length - i) * 3 := by rw [ptCells_len, List.length_drop]
        clear hO' hB' HLs HLm HP HG
        go_wp2_with (at_builtin; refine wpList_append_lies _ rfl _ _ _ rfl wr.heap.size 25 i0 _ 3 24 Try.underlying44 hi0 hz0 hz1 hz2 rfl (by omega) (.slice none 0 0) 0 [] rfl (World.ownsRow_nil _ _ _ _) ⟨b, off + i * 3, none⟩ (r.length - i) (cap - i) (ptCells (r.drop i)) rfl hpl HT.out (ptCells_one _) hn0 hn1 hn2 (Nat.le_refl _) _ rfl ?_; intro gg cp w3 hown3 hgrow hat hlt3)
        go_meet
        case rel => exact ⟨by rw [List.length_drop]; simpa using hown3, Below.grown (Below.refl _ _) hgrow (Nat.le_refl _) (fun k hk => by simp [Value.ownBlock] at hk)⟩
      case rest =>
        obtain ⟨o1, k1⟩ := hcut
        have O1 := hide o1
        have K1 := hide k1
        have z1 := k1.size
        have HH := hide (head_both (HP.out wc (bvia hB'.out k1)) hi)
        clear o1 k1 HT
        go_upto_region 7 with fail
        go_cut [5] (fun lv w' => w'.ownsRow wr.heap.size 25 3 lv (rotL r i).length (ptCells (rotL r i)) ∧ Below wr.heap.size wr w')
        case first =>
          have hn1 : (r.drop i).length + i ≤ maxLen := by rw [List.length_drop]; unfold maxLen; omega
          have hn2 : ((r.drop i).length + i) * 24 ≤ 140737488355328 := by rw [List.length_drop]; omega
          have hpl : (ptCells (r.take i)).length = i * 3 := by rw [ptCells_len, List.length_take]; omega
          have HN : Hid (0 < i → ∃ A, (some ⟨b, off, none⟩ : Option Addr) = some A ∧ ∀ j u, (ptCells (r.take i))[j]? = some u → wc.cell? (A.add j) = some u) := fun _ => ⟨_, rfl, HH.out⟩
          clear hO' hB' HLs HLm HP HG
          go_wp2_with (at_builtin; refine wpList_append_both rfl _ _ _ rfl wr.heap.size 25 i0 _ 3 24 Try.underlying44 hi0 hz0 hz1 hz2 rfl (by omega) u5 (r.drop i).length (ptCells (r.drop i)) rfl O1.out (some ⟨b, off, none⟩) i cap (ptCells (r.take i)) rfl hpl HN.out (ptCells_one _) hn1 hn2 z1 ?_; intro v4 w4 o4 k4)
          go_meet
          case rel => exact ⟨by unfold rotL; rw [ptCells_append, List.length_append, List.length_take, Nat.min_eq_left hi]; exact o4, below_kp K1.out k4 K1.out.size (fun b h => (O1.out.lt b h).1)⟩
        case rest =>
          clear O1 K1 HH z1
          obtain ⟨o2, k2⟩ := hcut
          have hrl := rot_len r i hi
          have R2 := hide (ring_of_own o2 (by unfold maxLen; omega))
          have o3 := own_later hO'.out k2
          have R3 := hide (ring_of_own o3 (by unfold maxLen; omega))
          have O2 := hide (own_mono o2 hsz)
          have O3 := hide o3
          have B2 := hide (bvia hB'.out k2)
          have CL := hide (CompareLists_any u5 u3 (rotL r i) M wc R2.out R3.out (fun p hp => HG.out p (rot_mem hp)) (fun p hp => HG.out p (HLm.out p hp)))
          clear o2 o3 k2 hO' hB' R2 R3
          by_cases hz : i = 0
          · have HS : Hid (leastL r (i + 1) = rotL r i) := by rw [HLs.out, if_pos (.inl hz)]; exact hide rfl
            have hz' : ((i : Int) == 0) = true := by simp; omega
            clear HLs CL
            go_wp2
            go_roundw
            case rel => exact ⟨i + 1, by go_num, by omega, by rw [HS.out]; exact O2.out, B2.out⟩
            case measure => simp [intOf]; omega
          · have hz' : ¬ ((i : Int) = 0) := by omega
            go_wp2_with fail
            refine CL.out.mono ?_
            rintro e' w4 ⟨rfl, k4⟩
            have O4 := hide (own_later O2.out k4)
            have O5 := hide (own_later O3.out k4)
            have B4 := hide (bvia B2.out k4)
            clear O2 O3 B2 k4 CL
            generalize hcc : clM (rotL r i) M = cc at *
            by_cases hc : cc < 0
            · have HS : Hid (leastL r (i + 1) = rotL r i) := by rw [HLs.out, if_pos (.inr hc)]; exact hide rfl
              clear HLs
              go_wp2
              go_roundw
              case rel => exact ⟨i + 1, by go_num, by omega, by rw [HS.out]; exact O4.out, B4.out⟩
              case measure => simp [intOf]; omega
            · have hcd : decide (cc < 0) = false := by simpa using hc
              have HS : Hid (leastL r (i + 1) = M) := by rw [HLs.out, if_neg (by simp only [hz, hc, or_self, not_false_eq_true])]; exact hide rfl
              clear HLs
              go_wp2
              go_roundw
              case rel => exact ⟨i + 1, by go_num, by omega, by rw [HS.out]; exact O5.out, B4.out⟩
              case measure => simp [intOf]; omega
    · have ei : i = r.length := by omega
      subst ei
      have HO := hide hO
      clear hO HA HG
      go_wp2
      go_ret
      exact ⟨_, rfl, HO.out, hbel⟩
end Go.Proofs.Ytnkcbephceollaa
