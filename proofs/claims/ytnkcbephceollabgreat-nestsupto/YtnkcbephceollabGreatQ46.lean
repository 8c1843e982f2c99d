import Derived.Test.YtnkcbephceollabGreatQ45
import Derived.Test.YtnkcbephceollabGreatH7
namespace Go.Proofs.YtnkcbephceollabGreat
open Go.RowKit
set_option linter.unusedSimpArgs false
set_option linter.unusedVariables false

/-- Rings of good points, few and short. -/
structure GoodR (R : List (List Pt)) : Prop where
  few : FewR R
  good : ∀ r ∈ R, ∀ p ∈ r, goodB p = true
theorem rloc_ring {r : List Pt} {q : Pt} (hq : goodB q = true) (hG : ∀ p ∈ r, goodB p = true) : rlocM [r] q = whR r q := rlocM_eq [r] q hq (fun p hp => hG p (by rw [List.flatten_singleton] at hp; exact hp))
theorem rlocate_ring (v : Value) (r : List Pt) (q : Pt) (w : World) (hP : PolyAt w v [r]) (hT : r.length ≤ 100000) (hq : goodB q = true) (hG : ∀ p ∈ r, goodB p = true) :
    Calls Tryz.prog 47 #[v, q.v] w fun e w' => e = .returned (.int .i64 (whR r q)) ∧ Below w.heap.size w w' := by
  rw [← rloc_ring hq hG]
  exact rlocate_any v [r] q w hP (by rw [List.flatten_singleton]; exact hT) hq (fun p hp => hG p (by rw [List.flatten_singleton] at hp; exact hp))
/-- Numbers, as cells. -/
def natCells (l : List Nat) : List Value := l.map fun (k : Nat) => Value.int .i64 (k : Int)
theorem natCells_snoc (l : List Nat) (k : Nat) : natCells (l ++ [k]) = natCells l ++ [.int .i64 (k : Int)] := by unfold natCells; simp
theorem natCells_at (l : List Nat) (j : Nat) (hj : j < l.length) : (natCells l)[j]? = some (.int .i64 ((l.getD j 0 : Nat) : Int)) := by
  unfold natCells
  rw [List.getElem?_map, List.getElem?_eq_getElem hj, List.getD_eq_getElem?_getD, List.getElem?_eq_getElem hj]; rfl
theorem hld_len (R : List (List Pt)) (p : Pt) (n : Nat) : (hldL R p n).length ≤ n := by
  unfold hldL
  have := List.length_filter_le (hldB R p) (List.range n)
  simpa using this

set_option maxRecDepth 100000 in
set_option maxHeartbeats 4000000 in
theorem holders_any (p : Pt) (v : Value) (R : List (List Pt)) (w : World) (hR : PolyAt w v R) (hF : GoodR R) (gp : goodB p = true) :
    Calls Tryz.prog 60 #[v, p.v] w fun e w' => ∃ v', e = .returned v' ∧ w'.ownsRow (w.heap.size + 1) 3 1 v' (hldL R p R.length).length (natCells (hldL R p R.length)) ∧ Below w.heap.size w w' := by
  obtain ⟨i0, hi0, hz0, hz1, hz2⟩ := info_parts infoInt
  obtain ⟨a, cap, rfl, a1, a2, a3⟩ := hR
  unfold maxLen at a2
  have HA := hide a3
  have HF := hide hF
  have hfew := hF.few.few
  have HS := hide (hld_snoc R p)
  have HLE := hide (hld_len R p)
  have HHB := hide (fun k => show hldB R p k = (!holeM (R.getD k []) && decide (whR (R.getD k []) p = 1)) from rfl)
  clear a3 hF
  go_enter Tryz.func60, Tryz.ntmps60
  go_wp2_with fail
  go_loopw [5, 6, 7, 8] (fun ov iv _ _ w' => ∃ k : Nat, iv = .int .i64 k ∧ k ≤ R.length ∧ w'.ownsRow (w.heap.size + 1) 3 1 ov (hldL R p k).length (natCells (hldL R p k)) ∧ Blk w' w.heap.size (ptA p) ∧ Below w.heap.size w w') (fun _ iv _ _ _ => R.length - (intOf iv).toNat)
  case atStart => exact ⟨0, rfl, Nat.zero_le _, World.ownsRow_nil _ _ _ _, Blk.new w _ _, (Below.refl _ _).alloc (Nat.le_refl _) _⟩
  case round =>
    obtain ⟨k, rfl, hk, hO, hP, hbel⟩ := hrel
    by_cases hlt : k < R.length
    · obtain ⟨b, off, rv, rfl, hb, hc, hring⟩ := HA.out k hlt
      have hc' := (hbel.cell (p := ⟨b, off + k, none⟩) hb).trans hc
      have HSk := hide (HS.out k)
      have hle := HLE.out k
      have HB := hide (HHB.out k)
      have HRG := hide (HF.out.few.good (R.getD k []) (getD_mem hlt []))
      have HRB := hide (HF.out.good (R.getD k []) (getD_mem hlt []))
      have hsh := HF.out.few.short k hlt
      have HRI : Hid (∀ wz, Below w.heap.size w wz → RingAt wz rv (R.getD k []) ∧ wz.cell? ⟨b, off + k, none⟩ = some rv) := hide fun wz kz => ⟨hring.later kz, (kz.cell (p := ⟨b, off + k, none⟩) hb).trans hc⟩
      generalize R.getD k [] = r at *
      obtain ⟨ra, rcap, rfl, r1, r2, r3⟩ := hring
      have C1 := hide (rHole_any _ r wr (HRI.out wr hbel).1 HRG.out hsh)
      have HO := hide hO
      have HP := hide hP
      have HBL := hide hbel
      have hk0 : (0 : Int) ≤ (k : Int) := Int.natCast_nonneg _
      have hk1 : (k : Int) < (R.length : Int) := by omega
      clear hO hP hbel HA HF HS HLE HHB hc r3
      go_wp2_with fail
      refine C1.out.mono ?_
      rintro e' w1 ⟨rfl, k1⟩
      have O1 := hide (own_later HO.out k1)
      have P1 := hide (HP.out.call k1)
      have B1 := hide (bvia HBL.out k1)
      clear HO HP HBL k1 C1 hc'
      cases hh : holeM r
      rotate_left
      · have HE : Hid (hldL R p (k + 1) = hldL R p k) := by rw [HSk.out, HB.out, hh]; exact hide (by simp)
        clear HSk HB HRI HRG HRB
        go_wp2
        go_roundw
        case rel => exact ⟨k + 1, by go_num, by omega, by rw [HE.out]; exact O1.out, P1.out, B1.out⟩
        case measure => simp [intOf]; omega
      · obtain ⟨hr1, hcc⟩ := HRI.out w1 B1.out
        obtain ⟨cp, fp, zp⟩ := id P1.out
        have c0 := cp 0
        have c1 := cp 1
        have c2 := cp 2
        simp at c0 c1 c2
        have hbw : b < w1.heap.size := by have := B1.out.size; omega
        have C2 := hide (fun g (hg : g = w1.drew.heap.size) => rlocate_ring (.slice (some ⟨g, 0, none⟩) 1 1) r p (w1.drew.alloc (.cells #[.slice ra r.length rcap] 57)) (poly1 (hr1.later (Below.refl _ _).drew) 57 hg) hsh gp HRB.out)
        generalize whR r p = z at *
        clear hr1 cp fp HRI HRG HRB
        go_upto_region 7 with fail
        go_cut [8] from 9 to 33 (fun zv w' => zv = .int .i64 z ∧ Below w1.heap.size w1 w')
        case first =>
          clear HSk HB O1 P1 B1 hle
          go_region_held3 (fun w' => w'.cell? ⟨w.heap.size, 0, none⟩ = some (.int .i64 p.x) ∧ w'.cell? ⟨w.heap.size, 1, none⟩ = some (.int .i64 p.y) ∧ w'.cell? ⟨w.heap.size, 2, none⟩ = some (.int .i64 p.d) ∧ w'.cell? ⟨b, off + k, none⟩ = some (.slice ra r.length rcap))
            (first
              | go_keep
              | (go_split_ands
                 refine ⟨?_, ?_, ?_, ?_⟩
                 · (rw [k6.cell (p := ⟨w.heap.size, 0, none⟩) (by simp; omega)]; assumption)
                 · (rw [k6.cell (p := ⟨w.heap.size, 1, none⟩) (by simp; omega)]; assumption)
                 · (rw [k6.cell (p := ⟨w.heap.size, 2, none⟩) (by simp; omega)]; assumption)
                 · (rw [k6.cell (p := ⟨b, off + k, none⟩) (by simp; omega)]; assumption)))
            ((go_at_call 47; refine (C2.out _ rfl).mono ?_; rintro e' w6 ⟨rfl, k6⟩))
          all_goals
            go_wp2_with fail
            go_meet
            case rel => exact ⟨rfl, bvia ((Below.refl _ _).drew.alloc (by simp) _) k6⟩
        case rest =>
          obtain ⟨rfl, k6⟩ := hcut
          have O2 := hide (own_later O1.out k6)
          have P2 := hide (P1.out.call k6)
          have B2 := hide (bvia B1.out k6)
          have z1 := B2.out.size
          clear O1 P1 B1 k6 c0 c1 c2 hcc C2
          by_cases hz : z = 1
          · have hz' : (z == 1) = true := by simpa using hz
            have HE : Hid (hldL R p (k + 1) = hldL R p k ++ [k]) := by rw [HSk.out, HB.out, hh, hz]; exact hide (by simp)
            generalize hldL R p k = D at *
            obtain ⟨D', hD'⟩ : ∃ D', D' = hldL R p (k + 1) := ⟨_, rfl⟩
            rw [← hD'] at HE
            have hnews := World.news_of_block (w := wc.alloc (.cells #[.int .i64 (k : Int)] 3)) (cs := #[.int .i64 (k : Int)]) (t := 3) (fr := (0, 0)) (heap_alloc_new wc _)
            have hn1 : D.length + 1 ≤ maxLen := by unfold maxLen; omega
            have hn2 : (D.length + 1) * 8 ≤ 140737488355328 := by omega
            have HD' := hide hD'
            clear HSk HB hz hD'
            go_wp2_with (at_builtin; refine wpList_append_lies _ rfl _ _ _ rfl (w.heap.size + 1) 3 i0 _ 1 8 Tryz.underlying58 hi0 hz0 hz1 hz2 rfl (by omega) u5 D.length (natCells D) rfl (O2.out.alloc _) ⟨wc.heap.size, 0, none⟩ 1 1 [.int .i64 (k : Int)] rfl rfl hnews (by simp [Value.oneCell']) (by omega) hn1 hn2 (by have := P2.out.lt; simp; omega) _ rfl ?_; intro gg cp w4 ho hgrow hat hlt4)
            have O4 : Hid (w4.ownsRow (w.heap.size + 1) 3 1 (.slice (some ⟨gg, 0, none⟩) (D.length + 1) cp) D'.length (natCells D')) := by
              refine hide ?_
              rw [HE.out, natCells_snoc, List.length_append]; exact ho
            have P4 := hide ((P2.out.alloc _).grown hgrow (fun e => by have := (O2.out.lt _ e).1; omega))
            have B4 : Hid (Below w.heap.size w w4) := hide (Below.grown (B2.out.alloc B2.out.size _) hgrow (by have := B2.out.size; simp; omega) (fun q hq => by have := (O2.out.lt q hq).1; omega))
            clear ho hgrow hat hnews O2 P2 B2 HE
            go_wp2
            go_roundw
            case rel => exact ⟨k + 1, by go_num, by omega, by rw [← HD'.out]; exact O4.out, P4.out, B4.out⟩
            case measure => simp [intOf]; omega
          · have hz' : (z == 1) = false := by simpa using hz
            have HE : Hid (hldL R p (k + 1) = hldL R p k) := by rw [HSk.out, HB.out, hh]; exact hide (by simp [hz])
            clear HSk HB
            go_wp2
            go_roundw
            case rel => exact ⟨k + 1, by go_num, by omega, by rw [HE.out]; exact O2.out, P2.out, B2.out⟩
            case measure => simp [intOf]; omega
    · have ek : k = R.length := by omega
      subst ek
      have HO := hide hO
      clear HA HF HS HLE HHB hO hP
      go_wp2
      go_ret
      exact ⟨_, rfl, HO.out, hbel⟩

theorem all_list (R : List (List Pt)) (k : Nat) (l : List Nat) : allIn R k l = true ↔ ∀ j, j < l.length → ∀ i, i < (R.getD k []).length → whR (R.getD (l.getD j 0) []) ((R.getD k []).getD i zP) ≠ 0 := by
  unfold allIn
  rw [List.all_eq_true]
  constructor
  · intro h j hj i hi
    exact of_decide_eq_true (List.all_eq_true.1 (h _ (getD_mem hj 0)) _ (getD_mem hi zP))
  · intro h x hx
    obtain ⟨j, hj, rfl⟩ := List.getElem_of_mem hx
    refine List.all_eq_true.2 fun q hq => decide_eq_true ?_
    obtain ⟨i, hi, rfl⟩ := List.getElem_of_mem hq
    have := h j hj i hi
    rw [List.getD_eq_getElem?_getD (l := l), List.getElem?_eq_getElem hj, List.getD_eq_getElem?_getD (l := R.getD k []), List.getElem?_eq_getElem hi] at this
    exact this

set_option maxRecDepth 100000 in
set_option maxHeartbeats 4000000 in
theorem rinner_any (v lv : Value) (R : List (List Pt)) (k : Nat) (l : List Nat) (base : Nat) (w : World) (hR : PolyAt w v R) (hF : GoodR R) (hk : k < R.length) (hl : w.ownsRow base 3 1 lv l.length (natCells l)) (hm : ∀ j, j < l.length → l.getD j 0 < R.length) (hll : l.length ≤ 100000) :
    Calls Tryz.prog 61 #[v, .int .i64 (k : Int), lv] w fun e w' => e = .returned (.bool (allIn R k l)) ∧ Below w.heap.size w w' := by
  obtain ⟨a, cap, rfl, a1, a2, a3⟩ := hR
  unfold maxLen at a2
  have HA := hide a3
  have HF := hide hF
  have HM := hide hm
  have hT := hide (fun (h : ∀ j, j < l.length → ∀ i, i < (R.getD k []).length → whR (R.getD (l.getD j 0) []) ((R.getD k []).getD i zP) ≠ 0) => (all_list R k l).2 h)
  have hN := hide (fun (h : ∃ j, j < l.length ∧ ∃ i, i < (R.getD k []).length ∧ whR (R.getD (l.getD j 0) []) ((R.getD k []).getD i zP) = 0) => (show allIn R k l = false by
    rw [Bool.eq_false_iff]
    intro q
    obtain ⟨j, hj, i, hi, e⟩ := h
    exact (all_list R k l).1 q j hj i hi e))
  have HO := hide hl
  obtain ⟨la, lcap, rfl, hag, hpos, hmx⟩ := own_form hl
  have HC : Hid (∀ j, j < l.length → ∃ g, la = some ⟨g, 0, none⟩ ∧ g < w.heap.size ∧ w.cell? ⟨g, j, none⟩ = some (.int .i64 ((l.getD j 0 : Nat) : Int))) := hide fun j hj => by
    obtain ⟨g, hg⟩ := hpos (by omega)
    have eg := hag g hg
    refine ⟨g, eg, (HO.out.lt g hg).2, ?_⟩
    rw [own_cell HO.out g hg j (by omega)]
    exact natCells_at l j hj
  generalize allIn R k l = res at *
  -- the ring that is looked at
  obtain ⟨b, off, rv, rfl, hb, hc, hring⟩ := a3 k hk
  have hsk := hF.few.short k hk
  have HGK := hide (hF.good (R.getD k []) (getD_mem hk []))
  have HRK : Hid (∀ wz, Below w.heap.size w wz → wz.cell? ⟨b, off + k, none⟩ = some rv) := hide fun wz kz => (kz.cell (p := ⟨b, off + k, none⟩) hb).trans hc
  obtain ⟨ra, rcap, rfl, r1, r2, r3⟩ := hring
  unfold maxLen at r2
  have HR3 := hide r3
  have hk0 : (0 : Int) ≤ (k : Int) := Int.natCast_nonneg _
  have hk1 : (k : Int) < (R.length : Int) := by omega
  have hRl := hF.few.few
  obtain ⟨rk, hrk⟩ : ∃ r, r = R.getD k [] := ⟨_, rfl⟩
  rw [← hrk] at hsk HGK HRK HR3 hT hN r1
  clear a3 hF hm hl hag hpos r3 hc hrk
  go_enter Tryz.func61, Tryz.ntmps61
  go_wp2_with fail
  go_loopw [7, 8, 9, 10] (fun jv _ _ _ w' => ∃ j : Nat, jv = .int .i64 j ∧ j ≤ l.length ∧ Below w.heap.size w w' ∧ Hid (∀ j', j' < j → ∀ i, i < rk.length → whR (R.getD (l.getD j' 0) []) (rk.getD i zP) ≠ 0)) (fun jv _ _ _ _ => l.length - (intOf jv).toNat)
  case atStart => exact ⟨0, rfl, Nat.zero_le _, Below.refl _ _, hide (fun j hj => absurd hj (by omega))⟩
  case round =>
    obtain ⟨j, rfl, hj, hbel, HJ⟩ := hrel
    by_cases hlt : j < l.length
    · obtain ⟨g, rfl, hg, hcell⟩ := HC.out j hlt
      have hcell' := (hbel.cell (p := ⟨g, j, none⟩) hg).trans hcell
      have hml := HM.out j hlt
      have HJS : Hid ((∀ i, i < rk.length → whR (R.getD (l.getD j 0) []) (rk.getD i zP) ≠ 0) → ∀ j', j' < j + 1 → ∀ i, i < rk.length → whR (R.getD (l.getD j' 0) []) (rk.getD i zP) ≠ 0) := hide fun h j' hj' i hi => by
        by_cases e : j' = j
        · rw [e]; exact h i hi
        · exact HJ.out j' (by omega) i hi
      have HNJ : Hid ((∃ i, i < rk.length ∧ whR (R.getD (l.getD j 0) []) (rk.getD i zP) = 0) → res = false) := hide fun h => hN.out ⟨j, hlt, h⟩
      obtain ⟨b2, off2, rv2, e2, hb2, hc2, hring2⟩ := HA.out (l.getD j 0) hml
      simp at e2
      obtain ⟨rfl, rfl⟩ := e2
      have hc2' := (hbel.cell (p := ⟨b, off + l.getD j 0, none⟩) hb).trans hc2
      have hso := HF.out.few.short _ hml
      have HGO := hide (HF.out.good _ (getD_mem hml []))
      have HRO : Hid (RingAt wr rv2 (R.getD (l.getD j 0) [])) := hide (hring2.later hbel)
      generalize R.getD (l.getD j 0) [] = o at *
      generalize l.getD j 0 = x at *
      obtain ⟨oa, ocap, rfl, _, _, _⟩ := hring2
      have hj0 : (0 : Int) ≤ (j : Int) := Int.natCast_nonneg _
      have hj1 : (j : Int) < (l.length : Int) := by omega
      have hx0 : (0 : Int) ≤ (x : Int) := Int.natCast_nonneg _
      have hx1 : (x : Int) < (R.length : Int) := by omega
      obtain ⟨W1, hW1⟩ : ∃ W, W = wr.alloc (.cells #[.slice oa o.length ocap] 57) := ⟨_, rfl⟩
      obtain ⟨g1, hg1⟩ : ∃ g, g = wr.heap.size := ⟨_, rfl⟩
      have B1 : Below w.heap.size w W1 := by rw [hW1]; exact hbel.alloc hbel.size _
      have PO : Hid (PolyAt W1 (.slice (some ⟨g1, 0, none⟩) 1 1) [o]) := hide (by rw [hW1]; exact poly1 HRO.out _ hg1)
      clear HJ hcell hc2 HC HM HA HF HRO hT hN
      go_upto_region 5 with fail
      rw [← hW1, ← hg1]
      clear hW1 hg1 hcell' hc2' hbel
      go_wp2_with fail
      go_loopw [9, 10] (fun iv _ w' => ∃ i : Nat, iv = .int .i64 i ∧ i ≤ rk.length ∧ Below W1.heap.size W1 w' ∧ Hid (∀ i', i' < i → whR o (rk.getD i' zP) ≠ 0)) (fun iv _ _ => rk.length - (intOf iv).toNat)
      case atStart => exact ⟨0, rfl, Nat.zero_le _, Below.refl _ _, hide (fun i hi => absurd hi (by omega))⟩
      case round =>
        obtain ⟨i, rfl, hi, hbi, HI⟩ := hrel
        have BI := bvia B1 hbi
        have hck := HRK.out wr BI
        by_cases hil : i < rk.length
        · obtain ⟨pb, po, rfl, hpb, hp⟩ := HR3.out i hil
          obtain ⟨px, py, pd⟩ := hp.later BI hpb
          have CL := hide (rlocate_ring _ o (rk.getD i zP) wr (PO.out.later hbi) hso (HGK.out _ (getD_mem hil zP)) HGO.out)
          have HIS : Hid (whR o (rk.getD i zP) ≠ 0 → ∀ i', i' < i + 1 → whR o (rk.getD i' zP) ≠ 0) := hide fun h i' hi' => by
            by_cases e : i' = i
            · rw [e]; exact h
            · exact HI.out i' (by omega)
          have HIN : Hid (whR o (rk.getD i zP) = 0 → res = false) := hide fun h => HNJ.out ⟨i, hil, h⟩
          generalize rk.getD i zP = p at *
          have hi0 : (0 : Int) ≤ (i : Int) := Int.natCast_nonneg _
          have hi1 : (i : Int) < (rk.length : Int) := by omega
          have HBI := hide hbi
          clear hp HI hbi
          go_wp2_with fail
          refine CL.out.mono ?_
          rintro e' w2 ⟨rfl, k2⟩
          have B2 := hide (bvia HBI.out k2)
          clear CL k2 HBI px py pd hck BI
          generalize whR o p = z at *
          by_cases hz : z = 0
          · have hz' : (z == 0) = true := by simpa using hz
            have HE := hide (HIN.out hz)
            have BB := hide (bvia B1 B2.out)
            clear HIS HIN HNJ HJS hz HGK HGO HR3 HRK PO
            go_wp2
            go_ret
            exact ⟨ret_bool HE.out.symm, BB.out⟩
          · have hz' : (z == 0) = false := by simpa using hz
            have HE := hide (HIS.out hz)
            clear HIS HIN hz
            go_wp2
            go_roundw
            case rel => exact ⟨i + 1, by go_num, by omega, B2.out, HE⟩
            case measure => simp [intOf]; omega
        · have hno : ¬ (i : Int) < (rk.length : Int) := by omega
          have HE := hide (HJS.out fun i' hi' => HI.out i' (by omega))
          have HBI := hide BI
          clear HI HJS HNJ BI hbi
          go_wp2
          go_roundw
          case rel => exact ⟨j + 1, by go_num, by omega, HBI.out, HE⟩
          case measure => simp [intOf]; omega
    · have HE : Hid (res = true) := hide (hT.out fun j' hj' i hi => HJ.out j' (by omega) i hi)
      have hno : ¬ (j : Int) < (l.length : Int) := by omega
      clear HA HF HM hT hN HO HC HJ HR3 HGK HRK
      go_wp2
      go_ret
      exact ⟨ret_bool HE.out.symm, hbel⟩
end Go.Proofs.YtnkcbephceollabGreat
namespace Go.Proofs.YtnkcbephceollabGreat
open Go.RowKit
set_option linter.unusedSimpArgs false
set_option linter.unusedVariables false

theorem pick_snoc (R : List (List Pt)) (l : List Nat) (k : Nat) (hk : k < l.length) : pickD R l (l.take (k + 1)) = if allIn R (l.getD k 0) l = true then ((l.getD k 0 : Nat) : Int) else pickD R l (l.take k) := by
  unfold pickD
  rw [List.take_succ_eq_append_getElem hk, List.foldl_append, List.foldl_cons, List.foldl_nil, List.getD_eq_getElem?_getD, List.getElem?_eq_getElem hk]
  rfl
theorem shD_take (R : List (List Pt)) (k : Nat) (hk : k < R.length) : (R.take (k + 1)).map (shellD R) = (R.take k).map (shellD R) ++ [shellD R (R.getD k [])] := by
  rw [List.take_succ_eq_append_getElem hk, List.map_append, List.getD_eq_getElem?_getD, List.getElem?_eq_getElem hk]; rfl
theorem hld_lt {R : List (List Pt)} {p : Pt} {n : Nat} (j : Nat) (hj : j < (hldL R p n).length) : (hldL R p n).getD j 0 < n := by
  have := getD_mem hj 0
  unfold hldL at this
  exact List.mem_range.1 (List.mem_filter.1 this).1
/-- The rings of a result are good. -/
theorem clip_goodR {op : Int} {A B : List (List Pt)} (h : (clipM op A B).2 = 0) : GoodR (clipM op A B).1 ∧ (∀ r ∈ (clipM op A B).1, 3 ≤ r.length) ∧ (clipM op A B).1.map (shellD (clipM op A B).1) = nestL (clipM op A B).1 := by
  have hc : (0 ≤ op ∧ op ≤ 4) ∧ (checkM A).1 = 0 ∧ (checkM B).1 = 0 ∧ (clipM op A B).1 = ringsM (bordM op (piecesM A B)) := by
    unfold clipM at h ⊢
    by_cases c : op < 0 ∨ op > 4
    · rw [if_pos c] at h; exact absurd h (by decide)
    · rw [if_neg c] at h ⊢
      by_cases d : bothM A B ≠ 0
      · rw [if_pos d] at h; exact absurd h d
      · rw [if_neg d]
        obtain ⟨c1, c2⟩ := both_zero (Decidable.byContradiction d)
        exact ⟨⟨by omega, by omega⟩, c1, c2, rfl⟩
  obtain ⟨_, c1, c2, e⟩ := hc
  have fm := (rings_fm (sound_of c1) (sound_of c2) op).1
  have fw := clip_few op A B
  rw [e] at fw ⊢
  exact ⟨⟨fw, fun r hr p hp => ((fm r hr).nice p hp).1⟩, fun r hr => (fm r hr).three, nest_eq c1 c2 op⟩

set_option maxRecDepth 100000 in
set_option maxHeartbeats 8000000 in
theorem rNest_any (op : Int) (va vb : Value) (A B : List (List Pt)) (w : World) (hA : PolyAt w va A) (hB : PolyAt w vb B) (sA : ∀ i, i < A.length → (A.getD i []).length ≤ 1048576) (sB : ∀ i, i < B.length → (B.getD i []).length ≤ 1048576) :
    Calls Tryz.prog 33 #[.int .i64 op, va, vb] w fun e w' => ∃ v', e = .returned (.tuple #[v', .int .i64 (nestM op A B).2]) ∧ w'.ownsRow w.heap.size 3 1 v' (nestM op A B).1.length (intCells (nestM op A B).1) ∧ Below w.heap.size w w' := by
  obtain ⟨i0, hi0, hz0, hz1, hz2⟩ := info_parts infoInt
  have C := hide (rClip_any op va vb A B w hA hB sA sB)
  have HN := hide (show nestM op A B = if (clipM op A B).2 ≠ 0 then ([], (clipM op A B).2) else (nestL (clipM op A B).1, 0) from rfl)
  clear hA hB sA sB
  by_cases hz : (clipM op A B).2 = 0
  · obtain ⟨gR, three, ne⟩ := clip_goodR hz
    have HE : Hid (nestM op A B = ((clipM op A B).1.map (shellD (clipM op A B).1), 0)) := by rw [HN.out, if_neg (by simpa using hz), ne]; exact hide rfl
    generalize nestM op A B = res at *
    generalize clipM op A B = cl at *
    obtain ⟨R, z⟩ := cl
    simp only at C HE hz gR three
    subst hz
    have HG := hide gR
    have H3 := hide three
    have hRl := gR.few.few
    have HST := hide (shD_take R)
    clear HN gR three ne
    go_enter Tryz.func33, Tryz.ntmps33
    go_wp2_with fail
    refine C.out.mono ?_
    rintro e w1 ⟨rv, vs, rfl, o1, k1⟩
    have P1 := hide (o1.poly (by unfold maxLen; omega))
    have B1 := hide k1
    have z1 := k1.size
    clear C o1 k1
    obtain ⟨a, cap, rfl, a1, a2, a3⟩ := P1.out
    unfold maxLen at a2
    have HA := hide a3
    clear a3
    go_wp2_with fail
    go_loopw [10, 11, 12, 13, 14, 15, 16] (fun ov iv _ _ _ _ _ w' => ∃ i : Nat, iv = .int .i64 i ∧ i ≤ R.length ∧ w'.ownsRow w1.heap.size 3 1 ov i (intCells ((R.take i).map (shellD R))) ∧ Below w1.heap.size w1 w') (fun _ iv _ _ _ _ _ _ => R.length - (intOf iv).toNat)
    case atStart => exact ⟨0, rfl, Nat.zero_le _, World.ownsRow_nil _ _ _ _, Below.refl _ _⟩
    case round =>
      obtain ⟨i, rfl, hi, hO, hbel⟩ := hrel
      by_cases hlt : i < R.length
      · obtain ⟨b, off, rv, rfl, hb, hc, hring⟩ := HA.out i hlt
        have hc' := (hbel.cell (p := ⟨b, off + i, none⟩) hb).trans hc
        have HT1 := hide (HST.out i hlt)
        have HRG := hide (HG.out.few.good (R.getD i []) (getD_mem hlt []))
        have HRB := hide (HG.out.good (R.getD i []) (getD_mem hlt []))
        have hsh := HG.out.few.short i hlt
        have hth := H3.out (R.getD i []) (getD_mem hlt [])
        have HRI : Hid (∀ wz, Below w1.heap.size w1 wz → RingAt wz rv (R.getD i []) ∧ wz.cell? ⟨b, off + i, none⟩ = some rv) := hide fun wz kz => ⟨hring.later kz, (kz.cell (p := ⟨b, off + i, none⟩) hb).trans hc⟩
        have HSM := hide (show shellD R (R.getD i []) = if holeM (R.getD i []) = true then pickD R (hldL R ((R.getD i []).getD 0 zP) R.length) (hldL R ((R.getD i []).getD 0 zP) R.length) else -1 from rfl)
        generalize R.getD i [] = r at *
        obtain ⟨ra, rcap, rfl, r1, r2, r3⟩ := hring
        unfold maxLen at r2
        have HR3 := hide r3
        have C1 := hide (rHole_any _ r wr (HRI.out wr hbel).1 HRG.out hsh)
        have hO' := hide hO
        have hB' := hide hbel
        generalize (R.take i).map (shellD R) = D at *
        generalize shellD R r = s at *
        have hi0' : (0 : Int) ≤ (i : Int) := Int.natCast_nonneg _
        have hi1' : (i : Int) < (R.length : Int) := by omega
        clear hO hbel HA hc r3 HST H3
        go_wp2_with fail
        refine C1.out.mono ?_
        rintro e' w2 ⟨rfl, k2⟩
        have B2 := hide (bvia hB'.out k2)
        have O2 := hide (own_later hO'.out k2)
        clear C1 hc' k2 hO' hB'
        go_upto_if 38 with fail
        go_cut [12, 13, 14, 15, 16] from 27 to 68 (fun sv _ _ _ _ w' => sv = .int .i64 s ∧ Below w2.heap.size w2 w')
        case first =>
          clear HT1 O2 HE
          cases hh : holeM r
          · have HE : Hid (s = -1) := by rw [HSM.out, hh]; exact hide rfl
            go_wp2
            go_meet
            case rel => exact ⟨by rw [HE.out], Below.refl _ _⟩
          · have HE : Hid (s = pickD R (hldL R (r.getD 0 zP) R.length) (hldL R (r.getD 0 zP) R.length)) := by rw [HSM.out, hh]; exact hide rfl
            obtain ⟨hr1, hcc⟩ := HRI.out w2 B2.out
            obtain ⟨b2, off2, rfl, hb2, hs2⟩ := HR3.out 0 (by omega)
            obtain ⟨c0, c1, c2⟩ := hs2.later B2.out hb2
            simp only [Nat.zero_mul, Nat.add_zero] at c0 c1 c2
            have C2 := hide (holders_any (r.getD 0 zP) _ R w2 (P1.out.later B2.out) HG.out (HRB.out _ (getD_mem (show 0 < r.length by omega) zP)))
            have HLT := hide (fun j hj => hld_lt (R := R) (p := r.getD 0 zP) (n := R.length) j hj)
            have hll := hld_len R (r.getD 0 zP) R.length
            generalize r.getD 0 zP = q at *
            have hr0 : (0 : Int) < (r.length : Int) := by omega
            have hrN : 0 < r.length := by omega
            have hrZ : ¬ r.length = 0 := by omega
            clear HR3 hs2 HRI HSM HRG HRB hr1
            go_wp2_with fail
            refine C2.out.mono ?_
            rintro e' w3 ⟨lv, rfl, o3, k3⟩
            have B3 := hide (bvia B2.out k3)
            have K3 := hide k3
            have O3 := hide o3
            generalize hldL R q R.length = l at *
            have HPS := hide (pick_snoc R l)
            have HPI := hide (show pickD R l (l.take 0) = -1 from rfl)
            have HPE := hide (show pickD R l (l.take l.length) = pickD R l l by rw [List.take_length])
            obtain ⟨la, lcap, rfl, hag, hpos, hmx⟩ := own_form o3
            have HC : Hid (∀ wz, Below w3.heap.size w3 wz → ∀ j, j < l.length → ∃ g, la = some ⟨g, 0, none⟩ ∧ wz.cell? ⟨g, j, none⟩ = some (.int .i64 ((l.getD j 0 : Nat) : Int))) := hide fun wz kz j hj => by
              obtain ⟨g, hg⟩ := hpos (by omega)
              have eg := hag g hg
              refine ⟨g, eg, ?_⟩
              rw [kz.cell (p := ⟨g, j, none⟩) (O3.out.lt g hg).2, own_cell O3.out g hg j (by omega)]
              exact natCells_at l j hj
            clear C2 k3 o3 hag hpos c0 c1 c2 hcc hh
            go_wp2_with fail
            go_loopw [12, 15, 16] (fun nv kv _ w' => ∃ k : Nat, kv = .int .i64 k ∧ k ≤ l.length ∧ nv = .int .i64 (pickD R l (l.take k)) ∧ Below w3.heap.size w3 w') (fun _ kv _ _ => l.length - (intOf kv).toNat)
            case atStart => exact ⟨0, rfl, Nat.zero_le _, by rw [HPI.out], Below.refl _ _⟩
            case round =>
              obtain ⟨k, rfl, hk, rfl, hbk⟩ := hrel
              by_cases hkl : k < l.length
              · obtain ⟨g, rfl, hcell⟩ := HC.out wr hbk k hkl
                have HS := hide (HPS.out k hkl)
                have hxl := HLT.out k hkl
                have CI := hide (rinner_any _ _ R (l.getD k 0) l (w2.heap.size + 1) wr (P1.out.later (bvia B3.out hbk)) HG.out hxl (own_later O3.out hbk) (fun j hj => HLT.out j hj) (by omega))
                have HCw := hide (fun wz (kz : Below w3.heap.size w3 wz) => HC.out wz kz k hkl)
                generalize l.getD k 0 = x at *
                generalize pickD R l (l.take k) = pv at *
                have hk0 : (0 : Int) ≤ (k : Int) := Int.natCast_nonneg _
                have hk1 : (k : Int) < (l.length : Int) := by omega
                have HBK := hide hbk
                clear hbk HC
                go_wp2_with fail
                refine CI.out.mono ?_
                rintro e' w4 ⟨rfl, k4⟩
                have B4 := hide (bvia HBK.out k4)
                obtain ⟨g', eg', hcell2⟩ := HCw.out w4 B4.out
                simp at eg'
                subst eg'
                clear CI k4 HBK hcell HCw
                cases hal : allIn R x l
                · have HE2 : Hid (pickD R l (l.take (k + 1)) = pv) := by rw [HS.out, hal]; exact hide rfl
                  clear HS
                  go_wp2
                  go_roundw
                  case rel => exact ⟨k + 1, by go_num, by omega, by rw [HE2.out], B4.out⟩
                  case measure => simp [intOf]; omega
                · have HE2 : Hid (pickD R l (l.take (k + 1)) = ((x : Nat) : Int)) := by rw [HS.out, hal]; exact hide rfl
                  clear HS
                  go_wp2
                  go_roundw
                  case rel => exact ⟨k + 1, by go_num, by omega, by rw [HE2.out], B4.out⟩
                  case measure => simp [intOf]; omega
              · have ek : k = l.length := by omega
                subst ek
                have HF : Hid (pickD R l (l.take l.length) = s) := by rw [HPE.out, HE.out]; exact hide rfl
                have HF2 : Hid (pickD R l l = s) := by rw [HE.out]; exact hide rfl
                have BB := hide (bvia K3.out hbk)
                have hno : ¬ ((l.length : Nat) : Int) < (l.length : Int) := by omega
                clear HC hbk HPE HE HPI HPS HLT
                go_wp2_with fail
                go_meet
                case rel => exact ⟨by first | rw [HF.out] | rw [HF2.out], BB.out⟩
        case rest =>
          obtain ⟨rfl, k3⟩ := hcut
          have B3 := hide (bvia B2.out k3)
          have O3 := hide (own_later O2.out k3)
          have z3 := B3.out.size
          clear B2 O2 k3 HR3 HRI HSM HRG HRB
          have hnews := World.news_of_block (w := wc.alloc (.cells #[.int .i64 s] 3)) (cs := #[.int .i64 s]) (t := 3) (fr := (0, 0)) (heap_alloc_new wc _)
          have hn1 : i + 1 ≤ maxLen := by unfold maxLen; omega
          have hn2 : (i + 1) * 8 ≤ 140737488355328 := by omega
          go_wp2_with (at_builtin; refine wpList_append_lies _ rfl _ _ _ rfl w1.heap.size 3 i0 _ 1 8 Tryz.underlying58 hi0 hz0 hz1 hz2 rfl (by omega) u10 i (intCells D) rfl (O3.out.alloc _) ⟨wc.heap.size, 0, none⟩ 1 1 [.int .i64 s] rfl rfl hnews (by simp [Value.oneCell']) (by omega) hn1 hn2 (by simp; omega) _ rfl ?_; intro gg cp w4 ho hgrow hat hlt4)
          have O4 : Hid (w4.ownsRow w1.heap.size 3 1 (.slice (some ⟨gg, 0, none⟩) (i + 1) cp) (i + 1) (intCells ((R.take (i + 1)).map (shellD R)))) := by
            refine hide ?_
            rw [HT1.out, intCells_snoc]; exact ho
          have B4 : Hid (Below w1.heap.size w1 w4) := hide (Below.grown (B3.out.alloc B3.out.size _) hgrow (by have := B3.out.size; simp; omega) (fun q hq => (O3.out.lt q hq).1))
          clear ho hgrow hat hnews O3 B3 HT1
          go_wp2
          go_roundw
          case rel => exact ⟨i + 1, by go_num, by omega, O4.out, B4.out⟩
          case measure => simp [intOf]; omega
      · have ek : R.take i = R := List.take_of_length_le (by omega)
        have ek2 : i = R.length := by omega
        rw [ek] at hO
        have HO : Hid (wr.ownsRow w.heap.size 3 1 u10 (R.map (shellD R)).length (intCells (R.map (shellD R)))) := by
          rw [List.length_map, ← ek2]; exact hide (own_mono hO z1)
        have BB := hide (bvia B1.out hbel)
        have hno : ¬ (i : Int) < (R.length : Int) := by omega
        clear hO HA HST HG H3 hbel
        go_wp2
        go_ret2
        exact ⟨_, by rw [HE.out]; rfl, by rw [HE.out]; exact HO.out, BB.out⟩
  · have HE : Hid (nestM op A B = ([], (clipM op A B).2)) := by rw [HN.out, if_pos hz]; exact hide rfl
    generalize nestM op A B = res at *
    generalize clipM op A B = cl at *
    obtain ⟨R, z⟩ := cl
    simp only at C HE hz
    have hz' : (z != 0) = true := by simpa using hz
    clear HN
    go_enter Tryz.func33, Tryz.ntmps33
    go_wp2_with fail
    refine C.out.mono ?_
    rintro e w1 ⟨rv, vs, rfl, o1, k1⟩
    clear C o1
    go_wp2
    go_ret2
    exact ⟨_, by rw [HE.out]; rfl, by rw [HE.out]; exact World.ownsRow_nil _ _ _ _, k1⟩
end Go.Proofs.YtnkcbephceollabGreat
