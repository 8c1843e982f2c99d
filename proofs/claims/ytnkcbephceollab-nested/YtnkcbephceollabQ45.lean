import Derived.Test.YtnkcbephceollabV8
import Derived.Test.YtnkcbephceollabQ40
import Derived.Test.YtnkcbephceollabQ42
import Derived.Test.YtnkcbephceollabQ41
namespace Go.Proofs.Ytnkcbephceollab
open Go.RowKit
set_option linter.unusedSimpArgs false
set_option linter.unusedVariables false

set_option maxRecDepth 100000 in
set_option maxHeartbeats 4000000 in
theorem innermost_any (p : Pt) (v : Value) (R : List (List Pt)) (w : World) (hR : PolyAt w v R) (hF : FewR R) :
    Calls Try.prog 43 #[p.v, v] w fun e w' => e = .returned (.int .i64 (innerM p R R.length)) ∧ Below w.heap.size w w' := by
  obtain ⟨a, cap, rfl, a1, a2, a3⟩ := hR
  unfold maxLen at a2
  have HA := hide a3
  have HF := hide hF
  have hfew := hF.few
  have HI0 := hide (show innerM p R 0 = -1 from rfl)
  have HIS := hide (fun k => show innerM p R (k + 1) = if holeM (R.getD k []) = true ∨ atM (R.getD k []) p ≠ 1 then innerM p R k else if innerM p R k = -1 ∨ withinM (R.getD k []) (R.getD (innerM p R k).toNat []) = true then (k : Int) else innerM p R k from rfl)
  have HIB := hide (inner_bd p R)
  clear a3 hF
  go_enter Try.func43, Try.ntmps43
  go_wp2_with fail
  go_loopw [5, 6, 7, 10] (fun nv _ _ iv w' => ∃ k : Nat, iv = .int .i64 k ∧ k ≤ R.length ∧ nv = .int .i64 (innerM p R k) ∧ Blk w' w.heap.size #[.int .i64 p.x, .int .i64 p.y, .int .i64 p.d] ∧ Below w.heap.size w w') (fun _ _ _ iv _ => R.length - (intOf iv).toNat)
  case atStart => exact ⟨0, rfl, Nat.zero_le _, by rw [HI0.out], Blk.new w _ _, (Below.refl _ _).alloc (Nat.le_refl _) _⟩
  case round =>
    clear HI0
    obtain ⟨k, rfl, hk, rfl, hP, hbel⟩ := hrel
    by_cases hlt : k < R.length
    · obtain ⟨b, off, rv, rfl, hb, hc, hring⟩ := HA.out k hlt
      have hc' := (hbel.cell (p := ⟨b, off + k, none⟩) hb).trans hc
      have HS := hide (HIS.out k)
      obtain ⟨hb1, hb2⟩ := HIB.out k
      have HRG := hide (HF.out.good (R.getD k []) (getD_mem hlt []))
      have hsh := HF.out.short k hlt
      have HRI : Hid (∀ wz, Below w.heap.size w wz → RingAt wz rv (R.getD k [])) := hide fun wz kz => hring.later kz
      have HRM : Hid (innerM p R k ≠ -1 → ∃ rv', (∀ wz, Below w.heap.size w wz → wz.cell? ⟨b, off + (innerM p R k).toNat, none⟩ = some rv') ∧ ∀ wz, Below w.heap.size w wz → RingAt wz rv' (R.getD (innerM p R k).toNat [])) := hide fun hne => by
        obtain ⟨b', off', rv', e', hb', hcc, hr'⟩ := HA.out (innerM p R k).toNat (by omega)
        simp at e'
        obtain ⟨rfl, rfl⟩ := e'
        exact ⟨rv', fun wz kz => (kz.cell (p := ⟨b, off + (innerM p R k).toNat, none⟩) hb').trans hcc, fun wz kz => hr'.later kz⟩
      generalize R.getD k [] = r at *
      generalize innerM p R k = z at *
      generalize R.getD z.toNat [] = o at *
      obtain ⟨ra, rcap, rfl, _, _, _⟩ := hring
      have C1 := hide (isHole_any _ r wr (HRI.out wr hbel) HRG.out hsh)
      have hP' := hide hP
      have hB' := hide hbel
      clear hP hbel HA HF HIS HIB HRG hc
      go_wp2_with fail
      refine C1.out.mono ?_
      rintro e' w1 ⟨rfl, k1⟩
      have P1 := hide (hP'.out.call k1)
      have B1 := hide (bvia hB'.out k1)
      clear hP' hB' k1 C1 hc'
      cases hh : holeM r
      rotate_left
      · have HE : Hid (innerM p R (k + 1) = z) := by rw [HS.out, if_pos (.inl hh)]; exact hide rfl
        clear HS HRM HRI
        go_wp2
        go_roundw
        case rel => exact ⟨k + 1, by go_num, by omega, by rw [HE.out], P1.out, B1.out⟩
        case measure => simp [intOf]; omega
      · obtain ⟨cp, fp, zp⟩ := id P1.out
        have C2 := hide (nlocate_any _ r p w1 (HRI.out w1 B1.out))
        go_wp2_with fail
        refine C2.out.mono ?_
        rintro e' w2 ⟨rfl, k2⟩
        have P2 := hide (P1.out.call k2)
        have B2 := hide (bvia B1.out k2)
        clear P1 B1 k2 C2 cp fp zp
        generalize ha : atM r p = at1 at *
        by_cases h1 : at1 = 1
        · have h1' : (at1 != 1) = false := by simpa using h1
          have HS2 : Hid (innerM p R (k + 1) = if z = -1 ∨ withinM r o = true then (k : Int) else z) := by rw [HS.out, if_neg (by rw [hh]; simp [h1])]; exact hide rfl
          clear HS
          by_cases hz : z = -1
          · have HE : Hid (innerM p R (k + 1) = (k : Int)) := by rw [HS2.out, if_pos (.inl hz)]; exact hide rfl
            have hz' : (z == -1) = true := by simpa using hz
            clear HS2 HRM HRI
            go_wp2
            go_roundw
            case rel => exact ⟨k + 1, by go_num, by omega, by rw [HE.out], P2.out, B2.out⟩
            case measure => simp [intOf]; omega
          · have hz' : (z == -1) = false := by simpa using hz
            obtain ⟨rv', hc2, hr2⟩ := HRM.out hz
            obtain ⟨n, rfl⟩ : ∃ n : Nat, z = (n : Int) := ⟨z.toNat, by omega⟩
            have c2 := hc2 w2 B2.out
            rw [Int.toNat_natCast] at c2
            have hn1 : (n : Int) < (R.length : Int) := by omega
            have hn0 : (0 : Int) ≤ (n : Int) := Int.natCast_nonneg _
            have C3 := hide (isWithin_any _ rv' r o w2 (HRI.out w2 B2.out) (hr2 w2 B2.out))
            obtain ⟨oa, ocap, rfl, _, _, _⟩ := hr2 w2 B2.out
            clear hc2 hr2 HRM HRI
            go_wp2_with fail
            refine C3.out.mono ?_
            rintro e' w3 ⟨rfl, k3⟩
            have P3 := hide (P2.out.call k3)
            have B3 := hide (bvia B2.out k3)
            clear P2 B2 k3 C3 c2
            cases hw : withinM r o
            · have HE : Hid (innerM p R (k + 1) = (n : Int)) := by rw [HS2.out, if_neg (by rw [hw]; simp [hz])]; exact hide rfl
              clear HS2
              go_wp2
              go_roundw
              case rel => exact ⟨k + 1, by go_num, by omega, by rw [HE.out], P3.out, B3.out⟩
              case measure => simp [intOf]; omega
            · have HE : Hid (innerM p R (k + 1) = (k : Int)) := by rw [HS2.out, if_pos (.inr hw)]; exact hide rfl
              clear HS2
              go_wp2
              go_roundw
              case rel => exact ⟨k + 1, by go_num, by omega, by rw [HE.out], P3.out, B3.out⟩
              case measure => simp [intOf]; omega
        · have h1' : (at1 != 1) = true := by simpa using h1
          have HE : Hid (innerM p R (k + 1) = z) := by rw [HS.out, if_pos (.inr h1)]; exact hide rfl
          clear HS HRM HRI
          go_wp2
          go_roundw
          case rel => exact ⟨k + 1, by go_num, by omega, by rw [HE.out], P2.out, B2.out⟩
          case measure => simp [intOf]; omega
    · have ek : k = R.length := by omega
      subst ek
      clear HA HF HIS HIB
      go_wp2
      go_ret
      exact ⟨rfl, hbel⟩

/-- Whole numbers, as cells. -/
def intCells (l : List Int) : List Value := l.map fun k => .int .i64 k
theorem intCells_snoc (l : List Int) (k : Int) : intCells (l ++ [k]) = intCells l ++ [.int .i64 k] := by unfold intCells; simp
theorem intCells_len (l : List Int) : (intCells l).length = l.length := by unfold intCells; simp

set_option maxRecDepth 100000 in
set_option maxHeartbeats 4000000 in
theorem Shells_any (v : Value) (R : List (List Pt)) (w : World) (hR : PolyAt w v R) (hF : FewR R) :
    Calls Try.prog 27 #[v] w fun e w' => ∃ v', e = .returned v' ∧ w'.ownsRow w.heap.size 3 1 v' (nestL R).length (intCells (nestL R)) ∧ Below w.heap.size w w' := by
  obtain ⟨i0, hi0, hz0, hz1, hz2⟩ := info_parts infoInt
  have HPR := hide hR
  obtain ⟨a, cap, rfl, a1, a2, a3⟩ := hR
  unfold maxLen at a2
  have HA := hide a3
  have HF := hide hF
  have hfew := hF.few
  have HT := hide (nestL_take R)
  have HN := hide (show nestL R = R.map (shellM R) from rfl)
  clear a3 hF
  go_enter Try.func27, Try.ntmps27
  go_wp2_with fail
  go_loopw [3, 5, 6, 9] (fun sv _ _ iv w' => ∃ k : Nat, iv = .int .i64 k ∧ k ≤ R.length ∧ w'.ownsRow w.heap.size 3 1 sv k (intCells ((R.take k).map (shellM R))) ∧ Below w.heap.size w w') (fun _ _ _ iv _ => R.length - (intOf iv).toNat)
  case atStart => exact ⟨0, rfl, Nat.zero_le _, World.ownsRow_nil _ _ _ _, Below.refl _ _⟩
  case round =>
    obtain ⟨k, rfl, hk, hO, hbel⟩ := hrel
    by_cases hlt : k < R.length
    · obtain ⟨b, off, rv, rfl, hb, hc, hring⟩ := HA.out k hlt
      have hc' := (hbel.cell (p := ⟨b, off + k, none⟩) hb).trans hc
      have HT1 := hide (HT.out k hlt)
      have HRG := hide (HF.out.good (R.getD k []) (getD_mem hlt []))
      have hsh := HF.out.short k hlt
      have HRI : Hid (∀ wz, Below w.heap.size w wz → RingAt wz rv (R.getD k [])) := hide fun wz kz => hring.later kz
      have HSM := hide (show shellM R (R.getD k []) = if holeM (R.getD k []) = true then innerM ((R.getD k []).getD 0 zP) R R.length else -1 from rfl)
      generalize R.getD k [] = r at *
      obtain ⟨ra, rcap, rfl, r1, r2, r3⟩ := hring
      unfold maxLen at r2
      have HR3 := hide r3
      have C1 := hide (isHole_any _ r wr (HRI.out wr hbel) HRG.out hsh)
      have hO' := hide hO
      have hB' := hide hbel
      generalize (R.take k).map (shellM R) = D at *
      generalize shellM R r = s at *
      clear hO hbel HA HT hc r3
      go_wp2_with fail
      refine C1.out.mono ?_
      rintro e' w1 ⟨rfl, k1⟩
      have B1 := hide (bvia hB'.out k1)
      have O1 := hide (own_later hO'.out k1)
      clear C1 hc' k1 hO' hB'
      go_upto_if 14 with fail
      go_cut [6] (fun sv w' => sv = .int .i64 s ∧ Below w1.heap.size w1 w')
      case first =>
        clear HT1 O1
        cases hh : holeM r
        · have HE : Hid (s = -1) := by rw [HSM.out, hh]; exact hide rfl
          go_wp2
          go_meet
          case rel => exact ⟨by rw [HE.out], Below.refl _ _⟩
        · have HE : Hid (s = innerM (r.getD 0 zP) R R.length) := by rw [HSM.out, hh]; exact hide rfl
          have hr0 : 0 < r.length := by
            apply Classical.byContradiction
            intro x
            unfold holeM at hh
            rw [if_pos (by omega)] at hh; cases hh
          obtain ⟨b2, off2, rfl, hb2, hs2⟩ := HR3.out 0 hr0
          obtain ⟨c0, c1, c2⟩ := hs2.later B1.out hb2
          simp only [Nat.zero_mul, Nat.add_zero] at c0 c1 c2
          have C2 := hide (innermost_any (r.getD 0 zP) _ R w1 (HPR.out.later B1.out) HF.out)
          generalize r.getD 0 zP = q at *
          have hr1 : (0 : Int) < (r.length : Int) := by omega
          clear HR3 hs2 HRI HSM
          go_wp2_with fail
          refine C2.out.mono ?_
          rintro e' w2 ⟨rfl, k2⟩
          have K2 := hide k2
          clear c0 c1 c2 C2 k2
          go_wp2
          go_meet
          case rel => exact ⟨by rw [HE.out], K2.out⟩
      case rest =>
        obtain ⟨rfl, k2⟩ := hcut
        have B2 := hide (bvia B1.out k2)
        have O2 := hide (own_later O1.out k2)
        have z1 := B2.out.size
        clear B1 O1 k2 HR3 HRI HSM HRG
        have hnews := World.news_of_block (w := wc.alloc (.cells #[.int .i64 s] 3)) (cs := #[.int .i64 s]) (t := 3) (fr := (0, 0)) (heap_alloc_new wc _)
        have hn1 : k + 1 ≤ maxLen := by unfold maxLen; omega
        have hn2 : (k + 1) * 8 ≤ 140737488355328 := by omega
        go_wp2_with (at_builtin; refine wpList_append_lies _ rfl _ _ _ rfl w.heap.size 3 i0 _ 1 8 Try.underlying40 hi0 hz0 hz1 hz2 rfl (by omega) u3 k (intCells D) rfl (O2.out.alloc _) ⟨wc.heap.size, 0, none⟩ 1 1 [.int .i64 s] rfl rfl hnews (by simp [Value.oneCell']) (by omega) hn1 hn2 (by simp; omega) _ rfl ?_; intro gg cp w4 ho hgrow hat hlt4)
        have O4 : Hid (w4.ownsRow w.heap.size 3 1 (.slice (some ⟨gg, 0, none⟩) (k + 1) cp) (k + 1) (intCells ((R.take (k + 1)).map (shellM R)))) := by
          refine hide ?_
          rw [HT1.out, intCells_snoc]; exact ho
        have B4 : Hid (Below w.heap.size w w4) := hide (Below.grown (B2.out.alloc B2.out.size _) hgrow (by have := B2.out.size; simp; omega) (fun q hq => (O2.out.lt q hq).1))
        clear ho hgrow hat hnews O2 B2 HT1
        go_wp2
        go_roundw
        case rel => exact ⟨k + 1, by go_num, by omega, O4.out, B4.out⟩
        case measure => simp [intOf]; omega
    · have ek : R.take k = R := List.take_of_length_le (by omega)
      have ek2 : k = R.length := by omega
      rw [ek] at hO
      have HO : Hid (wr.ownsRow w.heap.size 3 1 u3 (nestL R).length (intCells (nestL R))) := by
        rw [HN.out, List.length_map, ← ek2]; exact hide hO
      clear hO HA HT HF
      go_wp2
      go_ret
      exact ⟨_, rfl, HO.out, hbel⟩
end Go.Proofs.Ytnkcbephceollab
namespace Go.Proofs.Ytnkcbephceollab
open Go.RowKit
set_option linter.unusedSimpArgs false
set_option linter.unusedVariables false

set_option maxHeartbeats 1000000 in
theorem Nest_any (op : Int) (va vb : Value) (A B : List (List Pt)) (w : World) (hA : PolyAt w va A) (hB : PolyAt w vb B) :
    Calls Try.prog 15 #[.int .i64 op, va, vb] w fun e w' => ∃ v', e = .returned (.tuple #[v', .int .i64 (nestM op A B).2]) ∧ w'.ownsRow w.heap.size 3 1 v' (nestM op A B).1.length (intCells (nestM op A B).1) ∧ Below w.heap.size w w' := by
  have C := hide (Clip_any op va vb A B w hA hB)
  have HF := hide (clip_few op A B)
  have HN := hide (show nestM op A B = if (clipM op A B).2 ≠ 0 then ([], (clipM op A B).2) else (nestL (clipM op A B).1, 0) from rfl)
  clear hA hB
  generalize nestM op A B = res at *
  generalize clipM op A B = cl at *
  obtain ⟨R, z⟩ := cl
  simp only at C HF HN
  by_cases hz : z = 0
  · subst hz
    have HE : Hid (res = (nestL R, 0)) := by rw [HN.out]; exact hide rfl
    clear HN
    go_enter Try.func15, Try.ntmps15
    go_wp2_with fail
    refine C.out.mono ?_
    rintro e w1 ⟨rv, vs, rfl, o1, k1⟩
    have CS := hide (Shells_any rv R w1 (o1.poly (by have := HF.out.few; unfold maxLen; omega)) HF.out)
    clear C o1
    go_wp2_with fail
    refine CS.out.mono ?_
    rintro e w2 ⟨v', rfl, o2, k2⟩
    have O2 := hide (own_mono o2 k1.size)
    have B2 := hide (bvia k1 k2)
    clear o2 k1 k2 CS
    go_wp2
    go_ret2
    exact ⟨v', by rw [HE.out]; rfl, by rw [HE.out]; exact O2.out, B2.out⟩
  · have HE : Hid (res = ([], z)) := by rw [HN.out, if_pos hz]; exact hide rfl
    have hz' : (z != 0) = true := by simpa using hz
    clear HN
    go_enter Try.func15, Try.ntmps15
    go_wp2_with fail
    refine C.out.mono ?_
    rintro e w1 ⟨rv, vs, rfl, o1, k1⟩
    clear C o1
    go_wp2
    go_ret2
    exact ⟨_, by rw [HE.out]; rfl, by rw [HE.out]; exact World.ownsRow_nil _ _ _ _, k1⟩
end Go.Proofs.Ytnkcbephceollab
namespace Go.Proofs.Ytnkcbephceollab
set_option linter.unusedSimpArgs false
set_option linter.unusedVariables false

/-! Boxes within one another. -/
def nbx (i : Nat) : List Pt := boxM (i : Int) (i : Int) (20 - (i : Int)) (20 - (i : Int))
def nwt (i : Nat) : List Pt := if i % 2 = 0 then nbx i else [(nbx i).getD 0 zP, (nbx i).getD 3 zP, (nbx i).getD 2 zP, (nbx i).getD 1 zP]
def nA : Nat → List (List Pt)
  | 0 => []
  | i + 1 => if i % 2 = 0 then nA i ++ [nbx i] else nA i
def nB : Nat → List (List Pt)
  | 0 => []
  | i + 1 => if i % 2 = 0 then nB i else nB i ++ [nbx i]
def nW : Nat → List (List Pt)
  | 0 => []
  | i + 1 => nW i ++ [nwt i]
def nS : Nat → List Int
  | 0 => []
  | i + 1 => nS i ++ [if i % 2 = 0 then -1 else (i : Int) - 1]
theorem nc1 : clipM 4 (nA 1) (nB 1) = (nW 1, 0) := by kernel_rfl
theorem nc2 : clipM 4 (nA 2) (nB 2) = (nW 2, 0) := by kernel_rfl
theorem nc3 : clipM 4 (nA 3) (nB 3) = (nW 3, 0) := by kernel_rfl
theorem nc4 : clipM 4 (nA 4) (nB 4) = (nW 4, 0) := by kernel_rfl
theorem nc5 : clipM 4 (nA 5) (nB 5) = (nW 5, 0) := by kernel_rfl
theorem nc6 : clipM 4 (nA 6) (nB 6) = (nW 6, 0) := by kernel_rfl
theorem nl1 : nestL (nW 1) = nS 1 := by kernel_rfl
theorem nl2 : nestL (nW 2) = nS 2 := by kernel_rfl
theorem nl3 : nestL (nW 3) = nS 3 := by kernel_rfl
theorem nl4 : nestL (nW 4) = nS 4 := by kernel_rfl
theorem nl5 : nestL (nW 5) = nS 5 := by kernel_rfl
theorem nl6 : nestL (nW 6) = nS 6 := by kernel_rfl
theorem nested_clip (n : Nat) (h1 : 1 ≤ n) (h6 : n ≤ 6) : clipM 4 (nA n) (nB n) = (nW n, 0) := by
  match n, h1, h6 with
  | 1, _, _ => exact nc1
  | 2, _, _ => exact nc2
  | 3, _, _ => exact nc3
  | 4, _, _ => exact nc4
  | 5, _, _ => exact nc5
  | 6, _, _ => exact nc6
theorem nested_list (n : Nat) (h1 : 1 ≤ n) (h6 : n ≤ 6) : nestL (nW n) = nS n := by
  match n, h1, h6 with
  | 1, _, _ => exact nl1
  | 2, _, _ => exact nl2
  | 3, _, _ => exact nl3
  | 4, _, _ => exact nl4
  | 5, _, _ => exact nl5
  | 6, _, _ => exact nl6
theorem nested_nest (n : Nat) (h1 : 1 ≤ n) (h6 : n ≤ 6) : nestM 4 (nA n) (nB n) = (nS n, 0) := by
  unfold nestM
  rw [nested_clip n h1 h6]
  show (if (0 : Int) ≠ 0 then _ else (nestL (nW n), 0)) = _
  rw [if_neg (by decide), nested_list n h1 h6]
theorem nS_len : ∀ n, (nS n).length = n
  | 0 => rfl
  | n + 1 => by rw [nS, List.length_append, nS_len n]; rfl
theorem nS_at : ∀ n i, i < n → (nS n).getD i 0 = if i % 2 = 0 then -1 else (i : Int) - 1
  | 0, i, h => by omega
  | n + 1, i, h => by
    rw [nS, List.getD_eq_getElem?_getD]
    by_cases e : i = n
    · subst e
      rw [List.getElem?_append_right (by rw [nS_len]; exact Nat.le_refl _), nS_len, Nat.sub_self]; rfl
    · rw [List.getElem?_append_left (by rw [nS_len]; omega), ← List.getD_eq_getElem?_getD]
      exact nS_at n i (by omega)
theorem nW_len : ∀ n, (nW n).length = n
  | 0 => rfl
  | n + 1 => by rw [nW, List.length_append, nW_len n]; rfl
end Go.Proofs.Ytnkcbephceollab
