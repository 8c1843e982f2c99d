import Derived.Test.YtnkcbephceollabGreatQ44
import Derived.Test.YtnkcbephceollabGreatQ36
import Derived.Deep.CutRange
namespace Go.Proofs.YtnkcbephceollabGreat
open Go.RowKit
set_option linter.unusedSimpArgs false
set_option linter.unusedVariables false

set_option maxRecDepth 100000 in
set_option maxHeartbeats 4000000 in
theorem innermost_any (p : Pt) (v : Value) (R : List (List Pt)) (w : World) (hR : PolyAt w v R) (hF : FewR R) :
    Calls Tryz.prog 101 #[p.v, v] w fun e w' => e = .returned (.int .i64 (innerM p R R.length)) ∧ Below w.heap.size w w' := by
  obtain ⟨a, cap, rfl, a1, a2, a3⟩ := hR
  unfold maxLen at a2
  have HA := hide a3
  have HF := hide hF
  have hfew := hF.few
  have HI0 := hide (show innerM p R 0 = -1 from rfl)
  have HIS := hide (fun k => show innerM p R (k + 1) = if holeM (R.getD k []) = true ∨ atM (R.getD k []) p ≠ 1 then innerM p R k else if innerM p R k = -1 ∨ withinM (R.getD k []) (R.getD (innerM p R k).toNat []) = true then (k : Int) else innerM p R k from rfl)
  have HIB := hide (inner_bd p R)
  clear a3 hF
  go_enter Tryz.func101, Tryz.ntmps101
  go_wp2_with fail
  go_loopw [5, 6, 7, 10] (fun nv _ _ iv w' => ∃ k : Nat, iv = .int .i64 k ∧ k ≤ R.length ∧ nv = .int .i64 (innerM p R k) ∧ Blk w' w.heap.size #[.int .i64 p.x, .int .i64 p.y, .int .i64 p.d] ∧ Below w.heap.size w w') (fun _ _ _ iv _ => R.length - (intOf iv).toNat)
  case atStart => exact ⟨0, rfl, Nat.zero_le _, by rw [HI0.out], Blk.new w _ _, (Below.refl _ _).alloc (Nat.le_refl _) _⟩
  case round =>
    clear HI0
    obtain ⟨k, rfl, hk, rfl, hP, hbel⟩ := hrel
    by_cases hlt : k < R.length
    · obtain ⟨b, off, rv, rfl, hb, hc, hring⟩ := HA.out k hlt
      have hc' := (hbel.cell (p := ⟨b, off + k, none⟩) hb).trans hc
      have HS := hide (HIS.out k)
      obtain ⟨hb1, hb2⟩ := HIB.out k
      have HRG := hide (HF.out.good (R.getD k []) (getD_mem hlt []))
      have hsh := HF.out.short k hlt
      have HRI : Hid (∀ wz, Below w.heap.size w wz → RingAt wz rv (R.getD k [])) := hide fun wz kz => hring.later kz
      have HRM : Hid (innerM p R k ≠ -1 → ∃ rv', (∀ wz, Below w.heap.size w wz → wz.cell? ⟨b, off + (innerM p R k).toNat, none⟩ = some rv') ∧ ∀ wz, Below w.heap.size w wz → RingAt wz rv' (R.getD (innerM p R k).toNat [])) := hide fun hne => by
        obtain ⟨b', off', rv', e', hb', hcc, hr'⟩ := HA.out (innerM p R k).toNat (by omega)
        simp at e'
        obtain ⟨rfl, rfl⟩ := e'
        exact ⟨rv', fun wz kz => (kz.cell (p := ⟨b, off + (innerM p R k).toNat, none⟩) hb').trans hcc, fun wz kz => hr'.later kz⟩
      generalize R.getD k [] = r at *
      generalize innerM p R k = z at *
      generalize R.getD z.toNat [] = o at *
      obtain ⟨ra, rcap, rfl, _, _, _⟩ := hring
      have C1 := hide (isHole_any _ r wr (HRI.out wr hbel) HRG.out hsh)
      have hP' := hide hP
      have hB' := hide hbel
      clear hP hbel HA HF HIS HIB HRG hc
      go_wp2_with fail
      refine C1.out.mono ?_
      rintro e' w1 ⟨rfl, k1⟩
      have P1 := hide (hP'.out.call k1)
      have B1 := hide (bvia hB'.out k1)
      clear hP' hB' k1 C1 hc'
      cases hh : holeM r
      rotate_left
      · have HE : Hid (innerM p R (k + 1) = z) := by rw [HS.out, if_pos (.inl hh)]; exact hide rfl
        clear HS HRM HRI
        go_wp2
        go_roundw
        case rel => exact ⟨k + 1, by go_num, by omega, by rw [HE.out], P1.out, B1.out⟩
        case measure => simp [intOf]; omega
      · obtain ⟨cp, fp, zp⟩ := id P1.out
        have C2 := hide (nlocate_any _ r p w1 (HRI.out w1 B1.out))
        go_wp2_with fail
        refine C2.out.mono ?_
        rintro e' w2 ⟨rfl, k2⟩
        have P2 := hide (P1.out.call k2)
        have B2 := hide (bvia B1.out k2)
        clear P1 B1 k2 C2 cp fp zp
        generalize ha : atM r p = at1 at *
        by_cases h1 : at1 = 1
        · have h1' : (at1 != 1) = false := by simpa using h1
          have HS2 : Hid (innerM p R (k + 1) = if z = -1 ∨ withinM r o = true then (k : Int) else z) := by rw [HS.out, if_neg (by rw [hh]; simp [h1])]; exact hide rfl
          clear HS
          by_cases hz : z = -1
          · have HE : Hid (innerM p R (k + 1) = (k : Int)) := by rw [HS2.out, if_pos (.inl hz)]; exact hide rfl
            have hz' : (z == -1) = true := by simpa using hz
            clear HS2 HRM HRI
            go_wp2
            go_roundw
            case rel => exact ⟨k + 1, by go_num, by omega, by rw [HE.out], P2.out, B2.out⟩
            case measure => simp [intOf]; omega
          · have hz' : (z == -1) = false := by simpa using hz
            obtain ⟨rv', hc2, hr2⟩ := HRM.out hz
            obtain ⟨n, rfl⟩ : ∃ n : Nat, z = (n : Int) := ⟨z.toNat, by omega⟩
            have c2 := hc2 w2 B2.out
            rw [Int.toNat_natCast] at c2
            have hn1 : (n : Int) < (R.length : Int) := by omega
            have hn0 : (0 : Int) ≤ (n : Int) := Int.natCast_nonneg _
            have C3 := hide (isWithin_any _ rv' r o w2 (HRI.out w2 B2.out) (hr2 w2 B2.out))
            obtain ⟨oa, ocap, rfl, _, _, _⟩ := hr2 w2 B2.out
            clear hc2 hr2 HRM HRI
            go_wp2_with fail
            refine C3.out.mono ?_
            rintro e' w3 ⟨rfl, k3⟩
            have P3 := hide (P2.out.call k3)
            have B3 := hide (bvia B2.out k3)
            clear P2 B2 k3 C3 c2
            cases hw : withinM r o
            · have HE : Hid (innerM p R (k + 1) = (n : Int)) := by rw [HS2.out, if_neg (by rw [hw]; simp [hz])]; exact hide rfl
              clear HS2
              go_wp2
              go_roundw
              case rel => exact ⟨k + 1, by go_num, by omega, by rw [HE.out], P3.out, B3.out⟩
              case measure => simp [intOf]; omega
            · have HE : Hid (innerM p R (k + 1) = (k : Int)) := by rw [HS2.out, if_pos (.inr hw)]; exact hide rfl
              clear HS2
              go_wp2
              go_roundw
              case rel => exact ⟨k + 1, by go_num, by omega, by rw [HE.out], P3.out, B3.out⟩
              case measure => simp [intOf]; omega
        · have h1' : (at1 != 1) = true := by simpa using h1
          have HE : Hid (innerM p R (k + 1) = z) := by rw [HS.out, if_pos (.inr h1)]; exact hide rfl
          clear HS HRM HRI
          go_wp2
          go_roundw
          case rel => exact ⟨k + 1, by go_num, by omega, by rw [HE.out], P2.out, B2.out⟩
          case measure => simp [intOf]; omega
    · have ek : k = R.length := by omega
      subst ek
      clear HA HF HIS HIB
      go_wp2
      go_ret
      exact ⟨rfl, hbel⟩

/-- Whole numbers, as cells. -/
def intCells (l : List Int) : List Value := l.map fun k => .int .i64 k
theorem intCells_snoc (l : List Int) (k : Int) : intCells (l ++ [k]) = intCells l ++ [.int .i64 k] := by unfold intCells; simp
theorem intCells_len (l : List Int) : (intCells l).length = l.length := by unfold intCells; simp

set_option maxRecDepth 100000 in
set_option maxHeartbeats 4000000 in
theorem Shells_any (v : Value) (R : List (List Pt)) (w : World) (hR : PolyAt w v R) (hF : FewR R) :
    Calls Tryz.prog 58 #[v] w fun e w' => ∃ v', e = .returned v' ∧ w'.ownsRow w.heap.size 3 1 v' (nestL R).length (intCells (nestL R)) ∧ Below w.heap.size w w' := by
  obtain ⟨i0, hi0, hz0, hz1, hz2⟩ := info_parts infoInt
  have HPR := hide hR
  obtain ⟨a, cap, rfl, a1, a2, a3⟩ := hR
  unfold maxLen at a2
  have HA := hide a3
  have HF := hide hF
  have hfew := hF.few
  have HT := hide (nestL_take R)
  have HN := hide (show nestL R = R.map (shellM R) from rfl)
  clear a3 hF
  go_enter Tryz.func58, Tryz.ntmps58
  go_wp2_with fail
  go_loopw [3, 5, 6, 9] (fun sv _ _ iv w' => ∃ k : Nat, iv = .int .i64 k ∧ k ≤ R.length ∧ w'.ownsRow w.heap.size 3 1 sv k (intCells ((R.take k).map (shellM R))) ∧ Below w.heap.size w w') (fun _ _ _ iv _ => R.length - (intOf iv).toNat)
  case atStart => exact ⟨0, rfl, Nat.zero_le _, World.ownsRow_nil _ _ _ _, Below.refl _ _⟩
  case round =>
    obtain ⟨k, rfl, hk, hO, hbel⟩ := hrel
    by_cases hlt : k < R.length
    · obtain ⟨b, off, rv, rfl, hb, hc, hring⟩ := HA.out k hlt
      have hc' := (hbel.cell (p := ⟨b, off + k, none⟩) hb).trans hc
      have HT1 := hide (HT.out k hlt)
      have HRG := hide (HF.out.good (R.getD k []) (getD_mem hlt []))
      have hsh := HF.out.short k hlt
      have HRI : Hid (∀ wz, Below w.heap.size w wz → RingAt wz rv (R.getD k [])) := hide fun wz kz => hring.later kz
      have HSM := hide (show shellM R (R.getD k []) = if holeM (R.getD k []) = true then innerM ((R.getD k []).getD 0 zP) R R.length else -1 from rfl)
      generalize R.getD k [] = r at *
      obtain ⟨ra, rcap, rfl, r1, r2, r3⟩ := hring
      unfold maxLen at r2
      have HR3 := hide r3
      have C1 := hide (isHole_any _ r wr (HRI.out wr hbel) HRG.out hsh)
      have hO' := hide hO
      have hB' := hide hbel
      generalize (R.take k).map (shellM R) = D at *
      generalize shellM R r = s at *
      clear hO hbel HA HT hc r3
      go_wp2_with fail
      refine C1.out.mono ?_
      rintro e' w1 ⟨rfl, k1⟩
      have B1 := hide (bvia hB'.out k1)
      have O1 := hide (own_later hO'.out k1)
      clear C1 hc' k1 hO' hB'
      go_upto_if 14 with fail
      go_cut [6] (fun sv w' => sv = .int .i64 s ∧ Below w1.heap.size w1 w')
      case first =>
        clear HT1 O1
        cases hh : holeM r
        · have HE : Hid (s = -1) := by rw [HSM.out, hh]; exact hide rfl
          go_wp2
          go_meet
          case rel => exact ⟨by rw [HE.out], Below.refl _ _⟩
        · have HE : Hid (s = innerM (r.getD 0 zP) R R.length) := by rw [HSM.out, hh]; exact hide rfl
          have hr0 : 0 < r.length := by
            apply Classical.byContradiction
            intro x
            unfold holeM at hh
            rw [if_pos (by omega)] at hh; cases hh
          obtain ⟨b2, off2, rfl, hb2, hs2⟩ := HR3.out 0 hr0
          obtain ⟨c0, c1, c2⟩ := hs2.later B1.out hb2
          simp only [Nat.zero_mul, Nat.add_zero] at c0 c1 c2
          have C2 := hide (innermost_any (r.getD 0 zP) _ R w1 (HPR.out.later B1.out) HF.out)
          generalize r.getD 0 zP = q at *
          have hr1 : (0 : Int) < (r.length : Int) := by omega
          clear HR3 hs2 HRI HSM
          go_wp2_with fail
          refine C2.out.mono ?_
          rintro e' w2 ⟨rfl, k2⟩
          have K2 := hide k2
          clear c0 c1 c2 C2 k2
          go_wp2
          go_meet
          case rel => exact ⟨by rw [HE.out], K2.out⟩
      case rest =>
        obtain ⟨rfl, k2⟩ := hcut
        have B2 := hide (bvia B1.out k2)
        have O2 := hide (own_later O1.out k2)
        have z1 := B2.out.size
        clear B1 O1 k2 HR3 HRI HSM HRG
        have hnews := World.news_of_block (w := wc.alloc (.cells #[.int .i64 s] 3)) (cs := #[.int .i64 s]) (t := 3) (fr := (0, 0)) (heap_alloc_new wc _)
        have hn1 : k + 1 ≤ maxLen := by unfold maxLen; omega
        have hn2 : (k + 1) * 8 ≤ 140737488355328 := by omega
        go_wp2_with (at_builtin; refine wpList_append_lies _ rfl _ _ _ rfl w.heap.size 3 i0 _ 1 8 Tryz.underlying58 hi0 hz0 hz1 hz2 rfl (by omega) u3 k (intCells D) rfl (O2.out.alloc _) ⟨wc.heap.size, 0, none⟩ 1 1 [.int .i64 s] rfl rfl hnews (by simp [Value.oneCell']) (by omega) hn1 hn2 (by simp; omega) _ rfl ?_; intro gg cp w4 ho hgrow hat hlt4)
        have O4 : Hid (w4.ownsRow w.heap.size 3 1 (.slice (some ⟨gg, 0, none⟩) (k + 1) cp) (k + 1) (intCells ((R.take (k + 1)).map (shellM R)))) := by
          refine hide ?_
          rw [HT1.out, intCells_snoc]; exact ho
        have B4 : Hid (Below w.heap.size w w4) := hide (Below.grown (B2.out.alloc B2.out.size _) hgrow (by have := B2.out.size; simp; omega) (fun q hq => (O2.out.lt q hq).1))
        clear ho hgrow hat hnews O2 B2 HT1
        go_wp2
        go_roundw
        case rel => exact ⟨k + 1, by go_num, by omega, O4.out, B4.out⟩
        case measure => simp [intOf]; omega
    · have ek : R.take k = R := List.take_of_length_le (by omega)
      have ek2 : k = R.length := by omega
      rw [ek] at hO
      have HO : Hid (wr.ownsRow w.heap.size 3 1 u3 (nestL R).length (intCells (nestL R))) := by
        rw [HN.out, List.length_map, ← ek2]; exact hide hO
      clear hO HA HT HF
      go_wp2
      go_ret
      exact ⟨_, rfl, HO.out, hbel⟩
end Go.Proofs.YtnkcbephceollabGreat
namespace Go.Proofs.YtnkcbephceollabGreat
open Go.RowKit
set_option linter.unusedSimpArgs false
set_option linter.unusedVariables false

set_option maxHeartbeats 1000000 in
theorem Nest_any (op : Int) (va vb : Value) (A B : List (List Pt)) (w : World) (hA : PolyAt w va A) (hB : PolyAt w vb B) :
    Calls Tryz.prog 32 #[.int .i64 op, va, vb] w fun e w' => ∃ v', e = .returned (.tuple #[v', .int .i64 (nestM op A B).2]) ∧ w'.ownsRow w.heap.size 3 1 v' (nestM op A B).1.length (intCells (nestM op A B).1) ∧ Below w.heap.size w w' := by
  have C := hide (Clip_any op va vb A B w hA hB)
  have HF := hide (clip_few op A B)
  have HN := hide (show nestM op A B = if (clipM op A B).2 ≠ 0 then ([], (clipM op A B).2) else (nestL (clipM op A B).1, 0) from rfl)
  clear hA hB
  generalize nestM op A B = res at *
  generalize clipM op A B = cl at *
  obtain ⟨R, z⟩ := cl
  simp only at C HF HN
  by_cases hz : z = 0
  · subst hz
    have HE : Hid (res = (nestL R, 0)) := by rw [HN.out]; exact hide rfl
    clear HN
    go_enter Tryz.func32, Tryz.ntmps32
    go_wp2_with fail
    refine C.out.mono ?_
    rintro e w1 ⟨rv, vs, rfl, o1, k1⟩
    have CS := hide (Shells_any rv R w1 (o1.poly (by have := HF.out.few; unfold maxLen; omega)) HF.out)
    clear C o1
    go_wp2_with fail
    refine CS.out.mono ?_
    rintro e w2 ⟨v', rfl, o2, k2⟩
    have O2 := hide (own_mono o2 k1.size)
    have B2 := hide (bvia k1 k2)
    clear o2 k1 k2 CS
    go_wp2
    go_ret2
    exact ⟨v', by rw [HE.out]; rfl, by rw [HE.out]; exact O2.out, B2.out⟩
  · have HE : Hid (res = ([], z)) := by rw [HN.out, if_pos hz]; exact hide rfl
    have hz' : (z != 0) = true := by simpa using hz
    clear HN
    go_enter Tryz.func32, Tryz.ntmps32
    go_wp2_with fail
    refine C.out.mono ?_
    rintro e w1 ⟨rv, vs, rfl, o1, k1⟩
    clear C o1
    go_wp2
    go_ret2
    exact ⟨_, by rw [HE.out]; rfl, by rw [HE.out]; exact World.ownsRow_nil _ _ _ _, k1⟩
end Go.Proofs.YtnkcbephceollabGreat
namespace Go.Proofs.YtnkcbephceollabGreat
open Go.RowKit
set_option linter.unusedSimpArgs false
set_option linter.unusedVariables false

abbrev ptA (p : Pt) : Array Value := #[.int .i64 p.x, .int .i64 p.y, .int .i64 p.d]
theorem prev_at {r : List Pt} {i : Nat} (hi : i < r.length) : (0 < i → (i + r.length - 1) % r.length = i - 1) ∧ (i = 0 → (i + r.length - 1) % r.length = r.length - 1) := by
  refine ⟨fun h => ?_, fun h => ?_⟩
  · rw [show i + r.length - 1 = (i - 1) + r.length by omega, Nat.add_mod_right, Nat.mod_eq_of_lt (by omega)]
  · rw [h, Nat.zero_add, Nat.mod_eq_of_lt (by omega)]
theorem next_at {r : List Pt} {i : Nat} (hi : i < r.length) : (i + 1 < r.length → (i + 1) % r.length = i + 1) ∧ (¬ i + 1 < r.length → (i + 1) % r.length = 0) := by
  refine ⟨fun h => Nat.mod_eq_of_lt h, fun h => ?_⟩
  have : i + 1 = r.length := by omega
  rw [this, Nat.mod_self]

set_option maxRecDepth 100000 in
set_option maxHeartbeats 4000000 in
theorem rHole_any (v : Value) (r : List Pt) (w : World) (hr : RingAt w v r) (hG : ∀ p ∈ r, Gd p) (hn : r.length ≤ 100000) :
    Calls Tryz.prog 59 #[v] w fun e w' => e = .returned (.bool (holeM r)) ∧ Below w.heap.size w w' := by
  obtain ⟨a, cap, rfl, a1, a2, a3⟩ := hr
  unfold maxLen at a2
  have HA := hide a3
  have HG := hide hG
  have HT := hide (fun (h : ∃ i, i < r.length ∧ holeAt r i = true) => (hole_iff r).2 h)
  have HN := hide (fun (h : ∀ i, i < r.length → holeAt r i = false) => (show holeM r = false by
    rw [Bool.eq_false_iff]
    intro k
    obtain ⟨i, hi, q⟩ := (hole_iff r).1 k
    rw [h i hi] at q; cases q))
  have HAT := hide (fun i => show holeAt r i = (placeB (r.getD i zP) (r.getD 0 zP) && decide (detM (r.getD ((i + r.length - 1) % r.length) zP) (r.getD i zP) (r.getD ((i + 1) % r.length) zP) < 0)) from rfl)
  clear a3 hG
  generalize holeM r = res at *
  go_enter Tryz.func59, Tryz.ntmps59
  go_wp2_with fail
  go_loopw [6, 7, 8] (fun iv _ _ w' => ∃ (i : Nat) (p1 p2 p3 : Pt), iv = .int .i64 i ∧ i ≤ r.length ∧ Blk w' w.heap.size (ptA p1) ∧ Blk w' (w.heap.size + 1) (ptA p2) ∧ Blk w' (w.heap.size + 1 + 1) (ptA p3) ∧ Below w.heap.size w w' ∧ Hid (∀ j, j < i → holeAt r j = false)) (fun iv _ _ _ => r.length - (intOf iv).toNat)
  case atStart => exact ⟨0, zP, zP, zP, rfl, Nat.zero_le _, (((Blk.new w _ _).alloc _).alloc _), ((Blk.at (w.heap.size + 1) (by simp)).alloc _), Blk.at (w.heap.size + 1 + 1) (by simp), (((Below.refl _ _).alloc (Nat.le_refl _) _).alloc (by simp) _).alloc (by simp; omega) _, hide (fun j hj => absurd hj (by omega))⟩
  case round =>
    obtain ⟨i, p1, p2, p3, rfl, hi, P0, H0, N0, hbel, HJ⟩ := hrel
    by_cases hlt : i < r.length
    · obtain ⟨b, off, rfl, hb, hp⟩ := HA.out i hlt
      obtain ⟨b1, off1, e1, _, hq⟩ := HA.out 0 (by omega)
      obtain ⟨b2, off2, e2, _, hl⟩ := HA.out (r.length - 1) (by omega)
      simp at e1 e2
      obtain ⟨rfl, rfl⟩ := e1
      obtain ⟨rfl, rfl⟩ := e2
      have gp := HG.out _ (getD_mem hlt zP)
      have gq := HG.out _ (getD_mem (show 0 < r.length by omega) zP)
      have gm := HG.out _ (getD_mem (show (i + r.length - 1) % r.length < r.length from Nat.mod_lt _ (by omega)) zP)
      have gn := HG.out _ (getD_mem (show (i + 1) % r.length < r.length from Nat.mod_lt _ (by omega)) zP)
      have HI := hide (HAT.out i)
      have pv := prev_at hlt
      have nx := next_at hlt
      have HPM : Hid ((0 < i ∧ ∃ m, m = i - 1 ∧ ∀ wz, Below w.heap.size w wz → PtAt wz b (off + m * 3) (r.getD ((i + r.length - 1) % r.length) zP)) ∨ (i = 0 ∧ r.getD ((i + r.length - 1) % r.length) zP = r.getD (r.length - 1) zP)) := hide (by
        rcases Nat.eq_zero_or_pos i with k | k
        · right; exact ⟨k, by rw [pv.2 k]⟩
        · left
          refine ⟨k, i - 1, rfl, fun wz kz => ?_⟩
          rw [pv.1 k]
          obtain ⟨b3, off3, e3, hb3, hh⟩ := HA.out (i - 1) (by omega)
          simp at e3
          obtain ⟨rfl, rfl⟩ := e3
          exact hh.later kz hb3)
      have HNX : Hid ((i + 1 < r.length ∧ ∀ wz, Below w.heap.size w wz → PtAt wz b (off + (i + 1) * 3) (r.getD ((i + 1) % r.length) zP)) ∨ (¬ i + 1 < r.length ∧ r.getD ((i + 1) % r.length) zP = r.getD 0 zP)) := hide (by
        by_cases k : i + 1 < r.length
        · left
          refine ⟨k, fun wz kz => ?_⟩
          rw [nx.1 k]
          obtain ⟨b3, off3, e3, hb3, hh⟩ := HA.out (i + 1) k
          simp at e3
          obtain ⟨rfl, rfl⟩ := e3
          exact hh.later kz hb3
        · right; exact ⟨k, by rw [nx.2 k]⟩)
      have HQ := hide (fun wz (kz : Below w.heap.size w wz) => hq.later kz hb)
      have HL := hide (fun wz (kz : Below w.heap.size w wz) => hl.later kz hb)
      obtain ⟨px, py, pd⟩ := hp.later hbel hb
      generalize r.getD ((i + r.length - 1) % r.length) zP = pm at *
      generalize r.getD ((i + 1) % r.length) zP = pn at *
      generalize r.getD i zP = p at *
      generalize r.getD 0 zP = q at *
      generalize r.getD (r.length - 1) zP = l at *
      obtain ⟨n1, hn1⟩ : ∃ n, n = r.length - 1 := ⟨_, rfl⟩
      have en1 : (r.length : Int) - 1 = (n1 : Int) := by omega
      rw [← hn1] at HL
      have hn1a : (0 : Int) ≤ (n1 : Int) := Int.natCast_nonneg _
      have hn1b : (n1 : Int) < (r.length : Int) := by omega
      have hi0 : (0 : Int) ≤ (i : Int) := Int.natCast_nonneg _
      have hi1 : (i : Int) < (r.length : Int) := by omega
      have hr0 : (0 : Int) < (r.length : Int) := by omega
      have hrN : 0 < r.length := by omega
      have hrM : ¬ r.length = 0 := by omega
      have nb0 : b ≠ w.heap.size := by omega
      have nb1 : b ≠ w.heap.size + 1 := by omega
      have nb2 : b ≠ w.heap.size + 1 + 1 := by omega
      have ewn : IntKind.i64.wrap (n1 : Int) = (n1 : Int) := IntWalk.i64_in _ (by omega)
      clear hp hq hl pv nx hn1 HA HG HAT
      obtain ⟨cp, fp, zp⟩ := id P0
      obtain ⟨ch, fh, zh⟩ := id H0
      obtain ⟨cn, fn, zn⟩ := id N0
      obtain ⟨W1, hW1⟩ : ∃ W, W = ((wr.setCell ⟨w.heap.size + 1, 0, none⟩ (.int .i64 p.x)).setCell ⟨w.heap.size + 1, 1, none⟩ (.int .i64 p.y)).setCell ⟨w.heap.size + 1, 2, none⟩ (.int .i64 p.d) := ⟨_, rfl⟩
      have P1 : Blk W1 w.heap.size (ptA p1) := by rw [hW1]; exact P0.off3 (by omega) _ _ _
      have H1 : Blk W1 (w.heap.size + 1) (ptA p) := by rw [hW1]; exact H0.put3
      have N1 : Blk W1 (w.heap.size + 1 + 1) (ptA p3) := by rw [hW1]; exact N0.off3 (by omega) _ _ _
      have B1 : Below w.heap.size w W1 := by rw [hW1]; exact below_set3 (o := 0) hbel (by omega)
      go_upto_region 6 with fail
      rw [← hW1]
      clear hW1 cp fp zp ch fh zh cn fn zn P0 H0 N0 hbel px py pd
      obtain ⟨cp, fp, zp⟩ := id P1
      obtain ⟨lx, ly, ld⟩ := HL.out W1 B1
      obtain ⟨W2, hW2⟩ : ∃ W, W = ((W1.setCell ⟨w.heap.size, 0, none⟩ (.int .i64 l.x)).setCell ⟨w.heap.size, 1, none⟩ (.int .i64 l.y)).setCell ⟨w.heap.size, 2, none⟩ (.int .i64 l.d) := ⟨_, rfl⟩
      have P2 : Blk W2 w.heap.size (ptA l) := by rw [hW2]; exact P1.put3
      have H2 : Blk W2 (w.heap.size + 1) (ptA p) := by rw [hW2]; exact H1.off3 (by omega) _ _ _
      have N2 : Blk W2 (w.heap.size + 1 + 1) (ptA p3) := by rw [hW2]; exact N1.off3 (by omega) _ _ _
      have B2 : Below w.heap.size w W2 := by rw [hW2]; exact below_set3 (o := 0) B1 (Nat.le_refl _)
      go_upto_if 26 with fail
      rw [← hW2]
      clear hW2 cp fp zp P1 H1 N1 B1 lx ly ld HL
      have HP2 := hide (And.intro P2 (And.intro H2 (And.intro N2 B2)))
      clear H2 N2
      go_cut [7] from 9 to 58 (fun _ w' => Blk w' w.heap.size (ptA pm) ∧ Blk w' (w.heap.size + 1) (ptA p) ∧ Blk w' (w.heap.size + 1 + 1) (ptA p3) ∧ Below w.heap.size w w')
      case first =>
        clear HT HN HJ HI HNX HQ
        rcases HPM.out with ⟨hz, m, hm, hpt⟩ | ⟨hz, rfl⟩
        · have em : (i : Int) - 1 = (m : Int) := by omega
          have ek : IntKind.i64.wrap ((i : Int) - 1) = (m : Int) := by rw [em]; exact IntWalk.i64_in _ (by omega)
          have ek2 : IntKind.i64.wrap (m : Int) = (m : Int) := IntWalk.i64_in _ (by omega)
          have hm0 : (0 : Int) ≤ (m : Int) := Int.natCast_nonneg _
          have hm1 : (m : Int) < (r.length : Int) := by omega
          have hyes : (0 : Int) < (i : Int) := by omega
          obtain ⟨mx, my, md⟩ := hpt W2 B2
          obtain ⟨cp, fp, zp⟩ := id P2
          clear hm hz hpt HPM
          go_wp2_with fail
          go_meet
          exact ⟨P2.put3, HP2.out.2.1.off3 (by omega) _ _ _, HP2.out.2.2.1.off3 (by omega) _ _ _, below_set3 (o := 0) B2 (Nat.le_refl _)⟩
        · have hno : ¬ (0 : Int) < (i : Int) := by omega
          clear hz HPM
          go_wp2_with fail
          go_meet
          exact HP2.out
      case rest =>
        clear HP2 P2 B2 HPM
        rename World => W3
        obtain ⟨P3, H3, N3, B3⟩ := hcut
        obtain ⟨cn, fn, zn⟩ := id N3
        obtain ⟨qx, qy, qd⟩ := HQ.out W3 B3
        simp only [Nat.zero_mul, Nat.add_zero] at qx qy qd
        obtain ⟨W4, hW4⟩ : ∃ W, W = ((W3.setCell ⟨w.heap.size + 1 + 1, 0, none⟩ (.int .i64 q.x)).setCell ⟨w.heap.size + 1 + 1, 1, none⟩ (.int .i64 q.y)).setCell ⟨w.heap.size + 1 + 1, 2, none⟩ (.int .i64 q.d) := ⟨_, rfl⟩
        have P4 : Blk W4 w.heap.size (ptA pm) := by rw [hW4]; exact P3.off3 (by omega) _ _ _
        have H4 : Blk W4 (w.heap.size + 1) (ptA p) := by rw [hW4]; exact H3.off3 (by omega) _ _ _
        have N4 : Blk W4 (w.heap.size + 1 + 1) (ptA q) := by rw [hW4]; exact N3.put3
        have B4 : Below w.heap.size w W4 := by rw [hW4]; exact below_set3 (o := 0) B3 (by omega)
        have ewi : IntKind.i64.wrap ((i : Int) + 1) = (i : Int) + 1 := IntWalk.i64_in _ (by omega)
        go_upto_if 39 with fail
        rw [← hW4]
        clear hW4 cn fn zn P3 H3 N3 B3 qx qy qd
        have HP4 := hide (And.intro P4 (And.intro H4 (And.intro N4 B4)))
        clear P4 H4
        go_cut [7] from 9 to 58 (fun _ w' => Blk w' w.heap.size (ptA pm) ∧ Blk w' (w.heap.size + 1) (ptA p) ∧ Blk w' (w.heap.size + 1 + 1) (ptA pn) ∧ Below w.heap.size w w')
        case first =>
          clear HT HN HJ HI HQ
          rcases HNX.out with ⟨hz, hpt⟩ | ⟨hz, rfl⟩
          · have hyes : (i : Int) + 1 < (r.length : Int) := by omega
            have hy0 : (0 : Int) ≤ (i : Int) + 1 := by omega
            obtain ⟨mx, my, md⟩ := hpt W4 B4
            obtain ⟨cn, fn, zn⟩ := id N4
            clear hz hpt HNX
            go_wp2_with fail
            go_meet
            exact ⟨HP4.out.1.off3 (by omega) _ _ _, HP4.out.2.1.off3 (by omega) _ _ _, N4.put3, below_set3 (o := 0) B4 (by omega)⟩
          · have hno : ¬ (i : Int) + 1 < (r.length : Int) := by omega
            clear hz HNX
            go_wp2_with fail
            go_meet
            exact HP4.out
        case rest =>
          clear HP4 N4 B4 HNX
          rename World => W5
          obtain ⟨P5, H5, N5, B5⟩ := hcut
          obtain ⟨ch, fh, zh⟩ := id H5
          obtain ⟨qx, qy, qd⟩ := HQ.out W5 B5
          simp only [Nat.zero_mul, Nat.add_zero] at qx qy qd
          have hbw : b < W5.heap.size := by have := B5.size; omega
          have CP := hide (fun wz => rplace_any p q wz gp gq)
          have CD := hide (fun wz => rdet_any pm p pn wz gm gp gn)
          have HP5 := hide (And.intro P5 (And.intro H5 (And.intro N5 B5)))
          clear P5 H5 N5 B5 HQ
          go_upto_region 12 with fail
          go_cut [7] from 9 to 58 (fun fv w' => fv = .bool (placeB p q) ∧ Below W5.heap.size W5 w')
          case first =>
            clear HT HN HJ HI HP5 CD
            have c0 := ch 0
            have c1 := ch 1
            have c2 := ch 2
            simp at c0 c1 c2
            go_region_held3 (fun w' => w'.cell? ⟨w.heap.size + 1, 0, none⟩ = some (.int .i64 p.x) ∧ w'.cell? ⟨w.heap.size + 1, 1, none⟩ = some (.int .i64 p.y) ∧ w'.cell? ⟨w.heap.size + 1, 2, none⟩ = some (.int .i64 p.d) ∧ w'.cell? ⟨b, off, none⟩ = some (.int .i64 q.x) ∧ w'.cell? ⟨b, off + 1, none⟩ = some (.int .i64 q.y) ∧ w'.cell? ⟨b, off + 2, none⟩ = some (.int .i64 q.d))
              (first
                | go_keep
                | (go_split_ands
                   refine ⟨?_, ?_, ?_, ?_, ?_, ?_⟩
                   · (rw [k6.cell (p := ⟨w.heap.size + 1, 0, none⟩) (by simp; omega)]; assumption)
                   · (rw [k6.cell (p := ⟨w.heap.size + 1, 1, none⟩) (by simp; omega)]; assumption)
                   · (rw [k6.cell (p := ⟨w.heap.size + 1, 2, none⟩) (by simp; omega)]; assumption)
                   · (rw [k6.cell (p := ⟨b, off, none⟩) (by simp; omega)]; assumption)
                   · (rw [k6.cell (p := ⟨b, off + 1, none⟩) (by simp; omega)]; assumption)
                   · (rw [k6.cell (p := ⟨b, off + 2, none⟩) (by simp; omega)]; assumption)))
              ((go_at_call 73; refine (CP.out _).mono ?_; rintro e' w6 ⟨rfl, k6⟩))
            all_goals
              go_wp2_with fail
              go_meet
              case rel => exact ⟨rfl, bvia (Below.refl _ _).drew k6⟩
          case rest =>
            obtain ⟨rfl, k6⟩ := hcut
            rename World => W6
            have P6 := HP5.out.1.call k6
            have H6 := HP5.out.2.1.call k6
            have N6 := HP5.out.2.2.1.call k6
            have B6 := bvia HP5.out.2.2.2 k6
            clear HP5 k6 ch fh zh qx qy qd CP
            obtain ⟨cp, fp, zp⟩ := id P6
            obtain ⟨ch, fh, zh⟩ := id H6
            obtain ⟨cn, fn, zn⟩ := id N6
            go_wp2_with fail
            refine (CD.out _).mono ?_
            rintro e' w7 ⟨rfl, k7⟩
            have P7 := P6.call k7
            have H7 := H6.call k7
            have N7 := N6.call k7
            have B7 := bvia B6 k7
            clear k7 P6 H6 N6 B6 cp fp zp ch fh zh cn fn zn CD
            generalize detM pm p pn = dv at *
            generalize placeB p q = pb at *
            cases pb
            · have HE : Hid (∀ j, j < i + 1 → holeAt r j = false) := hide fun j hj => by
                by_cases e : j = i
                · rw [e, HI.out]; rfl
                · exact HJ.out j (by omega)
              clear HT HN HJ HI
              go_wp2
              go_roundw
              case rel => exact ⟨i + 1, pm, p, pn, by go_num, by omega, P7, H7, N7, B7, HE⟩
              case measure => simp [intOf]; omega
            · by_cases hd : dv < 0
              · have HE : Hid (res = true) := hide (HT.out ⟨i, hlt, by rw [HI.out, decide_eq_true hd]; rfl⟩)
                clear HT HN HJ HI
                go_wp2
                go_ret
                exact ⟨ret_bool HE.out.symm, B7⟩
              · have HE : Hid (∀ j, j < i + 1 → holeAt r j = false) := hide fun j hj => by
                  by_cases e : j = i
                  · rw [e, HI.out, decide_eq_false hd]; rfl
                  · exact HJ.out j (by omega)
                have hd' : decide (dv < 0) = false := decide_eq_false hd
                clear HT HN HJ HI
                go_wp2
                go_roundw
                case rel => exact ⟨i + 1, pm, p, pn, by go_num, by omega, P7, H7, N7, B7, HE⟩
                case measure => simp [intOf]; omega
    · have HE : Hid (res = false) := hide (HN.out fun j hj => HJ.out j (by omega))
      have hno : ¬ (i : Int) < (r.length : Int) := by omega
      clear HT HN HJ HA HG HAT P0 H0 N0
      go_wp2
      go_ret
      exact ⟨ret_bool HE.out.symm, hbel⟩
end Go.Proofs.YtnkcbephceollabGreat
