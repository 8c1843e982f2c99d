import Derived.Test.YtnkcbephceollaaQ44
import Derived.Test.YtnkcbephceollaaS2
namespace Go.Proofs.Ytnkcbephceollaa
open Go.RowKit
set_option linter.unusedSimpArgs false
set_option linter.unusedVariables false

theorem oM_take (A : List (List Pt)) (n : Int) (i : Nat) (hi : i < A.length) : (oM A n).take (i + 1) = (oM A n).take i ++ [otherR (A.getD ((i + (pickM n A.length).toNat) % A.length) []) (pickM n (A.getD ((i + (pickM n A.length).toNat) % A.length) []).length).toNat] := by
  have hl : (oM A n).length = A.length := by unfold oM othM; simp
  rw [List.take_succ_eq_append_getElem (by omega)]
  congr 2
  unfold oM othM
  simp
theorem othR_take (r : List Pt) (c j : Nat) (hj : j < r.length) : (otherR r c).take (j + 1) = (otherR r c).take j ++ [r.getD ((r.length - 1 - j + c) % r.length) zP] := by
  rw [List.take_succ_eq_append_getElem (by rw [otherR_len]; exact hj)]
  congr 2
  unfold otherR
  simp
theorem OwnR.snoc {w w' : World} {base : Nat} {v V rv : Value} {R : List (List Pt)} {r : List Pt} {vs : List Value} (h : OwnR w base v R vs) (hr : w.ownsRow base 25 3 rv r.length (ptCells r)) (hap : ∀ j g, j < R.length → (vs.getD j nilV).ownBlock = some g → rv.ownBlock ≠ some g) (hrl : r.length ≤ 2000000)
    (k : Kp (fun b => v.ownBlock = some b) w w') (hrow : w'.ownsRow base 44 1 V (R.length + 1) (vs ++ [rv])) : OwnR w' base V (R ++ [r]) (vs ++ [rv]) := by
  have e1 : vs.take R.length ++ rv :: vs.drop R.length = vs ++ [rv] := by rw [← h.len, List.take_length, List.drop_length]
  have e2 : R.take R.length ++ r :: R.drop R.length = R ++ [r] := by rw [List.take_length, List.drop_length]
  have := h.ins (i := R.length) hr hap hrl (Nat.le_refl _) k (by rw [e1]; exact hrow)
  rw [e1, e2] at this; exact this
theorem tmod_nat (a b : Nat) : ((a : Int)).tmod (b : Int) = ((a % b : Nat) : Int) := by
  rw [Int.tmod_eq_emod_of_nonneg (Int.natCast_nonneg _)]; rfl

set_option maxRecDepth 100000 in
set_option maxHeartbeats 4000000 in
theorem otherK_any (v : Value) (A : List (List Pt)) (n : Int) (w : World) (hA : PolyAt w v A) (hn1 : -9223372036854775808 ≤ n) (hn2 : n ≤ 9223372036854775807) (hl : A.length ≤ 1048576) (hS : ∀ i, i < A.length → (A.getD i []).length ≤ 1048576) :
    Calls Try.prog 37 #[v, .int .i64 n] w fun e w' => ∃ v' vs, e = .returned v' ∧ OwnR w' w.heap.size v' (oM A n) vs ∧ Below w.heap.size w w' := by
  obtain ⟨i0, hi0, hz0, hz1, hz2⟩ := info_parts infoPoint
  obtain ⟨i1, hi1, hy0, hy1, hy2⟩ := info_parts infoRing
  obtain ⟨a, cap, rfl, a1, a2, a3⟩ := hA
  unfold maxLen at a2
  have HA := hide a3
  have HS := hide hS
  clear a3 hS
  go_enter Try.func37, Try.ntmps37
  have hol : (oM A n).length = A.length := by unfold oM othM; simp
  go_wp2_with fail
  go_loopw [5, 6, 7, 8, 9] (fun ov iv _ _ _ w' => ∃ (i : Nat) (vs : List Value), iv = .int .i64 i ∧ i ≤ A.length ∧ OwnR w' w.heap.size ov ((oM A n).take i) vs ∧ Below w.heap.size w w') (fun _ iv _ _ _ _ => A.length - (intOf iv).toNat)
  case atStart => exact ⟨0, [], rfl, Nat.zero_le _, OwnR.nil _ _, Below.refl _ _⟩
  case round =>
    obtain ⟨i, vs, rfl, hi, hO, hbel⟩ := hrel
    rename World => wo
    by_cases hlt : i < A.length
    · have HT := hide (oM_take A n i hlt)
      have hRl : ((oM A n).take i).length = i := by rw [List.length_take]; omega
      have hpb := pickM_bd n A.length (by omega)
      have CP := fun wz => pick_any n A.length wz hn1 hn2 (by omega) (by omega)
      obtain ⟨c, hc⟩ : ∃ c : Nat, pickM n A.length = (c : Int) := ⟨(pickM n A.length).toNat, by omega⟩
      rw [hc] at CP hpb HT
      simp only [Int.toNat_natCast] at HT
      have hml : (i + c) % A.length < A.length := Nat.mod_lt _ (by omega)
      have htm : ((i : Int) + (c : Int)).tmod (A.length : Int) = (((i + c) % A.length : Nat) : Int) := by
        have := tmod_nat (i + c) A.length
        rw [← this]; congr 1
      obtain ⟨b, off, rv, rfl, hb, hcell, hring⟩ := HA.out _ hml
      have hrs := HS.out _ hml
      have c0 := (hbel.cell (p := ⟨b, off + (i + c) % A.length, none⟩) hb).trans hcell
      generalize A.getD ((i + c) % A.length) [] = r at *
      generalize (i + c) % A.length = m at *
      have hr1 := hring.later hbel
      obtain ⟨ra, rcap, rfl, r1, r2, r3⟩ := id hr1
      unfold maxLen at r2
      have HR3 := hide r3
      generalize (oM A n).take i = R at *
      have HO := hide hO
      have HB := hide hbel
      have hm0 : (0 : Int) ≤ (m : Int) := Int.natCast_nonneg _
      have hm1 : (m : Int) < (A.length : Int) := by omega
      have hA0 : (A.length : Int) ≠ 0 := by omega
      have hzo := hbel.size
      clear hcell hring hr1 r3 hO hbel HA HS hc
      go_wp2_with fail
      refine (CP _).mono ?_
      rintro e w1 ⟨rfl, hw⟩
      rw [hw]
      clear hw w1
      obtain ⟨c2, hc2⟩ : ∃ c2 : Nat, (pickM n r.length).toNat = c2 := ⟨_, rfl⟩
      rw [hc2] at HT
      go_upto_block 2 with fail
      go_cut [8, 9] (fun sv _ w' => w'.ownsRow wo.heap.size 25 3 sv r.length (ptCells (otherR r c2)) ∧ Below wo.heap.size wo w')
      case first =>
        clear HT HO HB CP
        go_wp2_with fail
        go_loopw [8, 9] (fun sv kv w' => ∃ j : Nat, kv = .int .i64 ((r.length : Int) - 1 - j) ∧ j ≤ r.length ∧ w'.ownsRow wo.heap.size 25 3 sv j (ptCells ((otherR r c2).take j)) ∧ Below wo.heap.size wo w') (fun _ kv _ => (intOf kv + 1).toNat)
        case atStart => exact ⟨0, by simp, Nat.zero_le _, World.ownsRow_nil _ _ _ _, Below.refl _ _⟩
        case round =>
          obtain ⟨j, rfl, hj, hs, hbel⟩ := hrel
          by_cases hjl : j < r.length
          · have HT2 := hide (othR_take r c2 j hjl)
            have hpb2 := pickM_bd n r.length (by omega)
            have CP2 := fun wz => pick_any n r.length wz hn1 hn2 (by omega) (by omega)
            have ec2 : pickM n r.length = (c2 : Int) := by omega
            rw [ec2] at CP2 hpb2
            obtain ⟨kk, hkk⟩ : ∃ kk : Nat, r.length - 1 - j = kk := ⟨_, rfl⟩
            rw [hkk] at HT2
            have ek : (r.length : Int) - 1 - (j : Int) = (kk : Int) := by omega
            rw [ek]
            have hm2 : (kk + c2) % r.length < r.length := Nat.mod_lt _ (by omega)
            have htm2 : ((kk : Int) + (c2 : Int)).tmod (r.length : Int) = (((kk + c2) % r.length : Nat) : Int) := by
              have := tmod_nat (kk + c2) r.length
              rw [← this]; congr 1
            obtain ⟨b2, off2, rfl, hb2, hp2⟩ := HR3.out _ hm2
            obtain ⟨px, py, pd⟩ := hp2.later hbel hb2
            generalize r.getD ((kk + c2) % r.length) zP = p at *
            generalize (kk + c2) % r.length = m2 at *
            generalize (otherR r c2).take j = D at *
            have hs' := hide hs
            have hb' := hide hbel
            have hzr := hbel.size
            have hk0 : (0 : Int) ≤ (kk : Int) := Int.natCast_nonneg _
            have hq0 : (0 : Int) ≤ (m2 : Int) := Int.natCast_nonneg _
            have hq1 : (m2 : Int) < (r.length : Int) := by omega
            have hr0 : (r.length : Int) ≠ 0 := by omega
            have hnews := World.news_of_block (w := wr.alloc (.cells #[.int .i64 p.x, .int .i64 p.y, .int .i64 p.d] 25)) (cs := #[.int .i64 p.x, .int .i64 p.y, .int .i64 p.d]) (t := 25) (fr := (0, 0)) (heap_alloc_new wr _)
            have hn1' : j + 1 ≤ maxLen := by unfold maxLen; omega
            have hn2' : (j + 1) * 24 ≤ 140737488355328 := by omega
            clear hs hbel hp2 HR3 ek hc2 ec2
            go_wp2_with fail
            refine (CP2 _).mono ?_
            rintro e w2 ⟨rfl, hw⟩
            rw [hw]
            clear hw w2
            go_wp2_with (at_builtin; refine wpList_append_lies _ rfl _ _ _ rfl wo.heap.size 25 i0 _ 3 24 Try.underlying44 hi0 hz0 hz1 hz2 rfl (by omega) u8 j (ptCells D) rfl (hs'.out.alloc _) ⟨wr.heap.size, 0, none⟩ 1 1 (ptCell p) rfl rfl hnews (by simp [ptCell, Value.oneCell']) (by omega) hn1' hn2' (by simp; omega) _ rfl ?_; intro gg cp w4 ho hgrow hat hlt4)
            have O4 : Hid (w4.ownsRow wo.heap.size 25 3 (.slice (some ⟨gg, 0, none⟩) (j + 1) cp) (j + 1) (ptCells ((otherR r c2).take (j + 1)))) := by
              refine hide ?_
              rw [HT2.out, ptCells_append]
              have e2 : ptCells [p] = ptCell p := by simp [ptCells]
              rw [e2]; exact ho
            have B4 : Hid (Below wo.heap.size wo w4) := hide (Below.grown (hb'.out.alloc hb'.out.size _) hgrow (by have := hb'.out.size; simp; omega) (fun q hq => (hs'.out.lt q hq).1))
            have ek2 : (kk : Int) - 1 = (r.length : Int) - 1 - ((j + 1 : Nat) : Int) := by omega
            clear ho hgrow hat hnews hs' hb' px py pd CP2
            go_wp2
            go_roundw
            case rel => exact ⟨j + 1, by rw [← ek2], by omega, O4.out, B4.out⟩
            case measure => simp [intOf] <;> omega
          · have ej : j = r.length := by omega
            have HS : Hid (wr.ownsRow wo.heap.size 25 3 u8 r.length (ptCells (otherR r c2))) := by
              rw [ej, List.take_of_length_le (by rw [otherR_len]; exact Nat.le_refl _)] at hs; exact hide hs
            have ek : (r.length : Int) - 1 - (j : Int) = -1 := by omega
            rw [ek]
            clear hs HR3 ek ej
            go_wp2
            go_meet
            case rel => exact ⟨HS.out, hbel⟩
      case rest =>
        obtain ⟨hs, hbel⟩ := hcut
        obtain ⟨sa, scap, rfl, _, _, _⟩ := own_form hs
        have hor := otherR_len r c2
        have O5 := HO.out.kp (Kp.of (X := fun _ => False) hbel) (fun b _ _ e => e)
        have HO5 := hide O5
        have hs5 : wc.ownsRow w.heap.size 25 3 (.slice sa r.length scap) (otherR r c2).length (ptCells (otherR r c2)) := by rw [hor]; exact own_mono hs hzo
        have HS5 := hide hs5
        have HAP : Hid (∀ j g, j < R.length → (vs.getD j nilV).ownBlock = some g → (Value.slice sa r.length scap).ownBlock ≠ some g) := hide fun j g hj e e2 => by
          have h1 := (HO.out.lt j g hj e).2
          have h2 := (hs.lt g e2).1
          omega
        have B5 := hide (bvia HB.out hbel)
        have zc := hbel.size
        have HRow := hide O5.row
        obtain ⟨oa, ocap, rfl, _, _, _⟩ := own_form O5.row
        have hnews := World.news_of_block (w := wc.alloc (.cells #[.slice sa r.length scap] 44)) (cs := #[.slice sa r.length scap]) (t := 44) (fr := (0, 0)) (heap_alloc_new wc _)
        have hn1' : R.length + 1 ≤ maxLen := by unfold maxLen; omega
        have hn2' : (R.length + 1) * 24 ≤ 140737488355328 := by omega
        clear hs hs5 O5 HO hbel HB CP
        go_wp2_with (at_builtin; refine wpList_append_lies _ rfl _ _ _ rfl w.heap.size 44 i1 _ 1 24 Try.underlying42 hi1 hy0 hy1 hy2 rfl (by omega) (.slice oa R.length ocap) R.length vs rfl (HRow.out.alloc _) ⟨wc.heap.size, 0, none⟩ 1 1 [.slice sa r.length scap] rfl rfl hnews (by simp [Value.oneCell']) (by omega) hn1' hn2' (by simp; omega) _ rfl ?_; intro gg cp w6 ho hgrow hat hlt6)
        have K6 : Kp (fun b => (Value.slice oa R.length ocap).ownBlock = some b) wc w6 := Kp.grown ((Kp.refl _ _).alloc _) hgrow (fun k hk => hk)
        have O6 : Hid (OwnR w6 w.heap.size (.slice (some ⟨gg, 0, none⟩) (R.length + 1) cp) ((oM A n).take (i + 1)) (vs ++ [.slice sa r.length scap])) := by
          rw [HT.out]
          exact hide (HO5.out.snoc HS5.out HAP.out (by rw [hor]; omega) K6 ho)
        have B6 : Hid (Below w.heap.size w w6) := hide (below_kp B5.out K6 B5.out.size (fun b h => (HRow.out.lt b h).1))
        clear ho hgrow hat hnews K6 HO5 HS5 HAP HRow B5 HT
        go_wp2
        go_roundw
        case rel => exact ⟨i + 1, vs ++ [.slice sa r.length scap], by go_num, by omega, by have h := O6.out; rw [hRl] at h; exact h, B6.out⟩
        case measure => simp [intOf]; omega
    · have ei : i = A.length := by omega
      have HO : Hid (OwnR wo w.heap.size u5 (oM A n) vs) := by
        rw [List.take_of_length_le (by omega)] at hO; exact hide hO
      clear hO
      go_wp2
      go_ret
      exact ⟨_, vs, rfl, HO.out, hbel⟩
end Go.Proofs.Ytnkcbephceollaa
namespace Go.Proofs.Ytnkcbephceollaa
open Go.RowKit
set_option linter.unusedSimpArgs false
set_option linter.unusedVariables false

theorem OwnR.poly' {w : World} {base : Nat} {v : Value} {R : List (List Pt)} {vs : List Value} (h : OwnR w base v R vs) : PolyAt w v R := h.poly (own_form h.row).choose_spec.choose_spec.2.2.2
theorem neq_pc (x : Pc) (w : World) : (binOp .neq 62 (pcV x.p x.q x.la x.ra x.lb x.rb) (pcV x.p x.q x.la x.ra x.lb x.rb)).run Try.prog w = .ok (.bool false) w := by
  simp [go_sem]

set_option maxRecDepth 100000 in
set_option maxHeartbeats 8000000 in
theorem same_walk (op n : Int) (va vb : Value) (A B : List (List Pt)) (w : World) (hA : PolyAt w va A) (hB : PolyAt w vb B) (hn1 : -9223372036854775808 ≤ n) (hn2 : n ≤ 9223372036854775807) (hl : A.length ≤ 1048576) (hS : ∀ i, i < A.length → (A.getD i []).length ≤ 1048576) :
    Calls Try.prog 9 #[.int .i64 op, va, vb, .int .i64 n] w fun e w' => e = .returned (.bool true) ∧ Below w.heap.size w w' := by
  have HA := hide hA
  have HB := hide hB
  have HS := hide hS
  have E1 := hide (oM_clip op n A B)
  have E2 := hide (oM_pcs n A B)
  have E3 := hide (oM_both n A B)
  clear hA hB hS
  go_enter Try.func9, Try.ntmps9
  go_wp2_with fail
  refine (known_yes _).mono ?_
  rintro e w1 ⟨rfl, k1⟩
  have A1 := hide (HA.out.later k1)
  have B1 := hide (HB.out.later k1)
  clear HA HB
  go_wp2_with fail
  refine (otherK_any va A n w1 A1.out hn1 hn2 hl HS.out).mono ?_
  rintro e w2 ⟨pv, vs, rfl, o2, k2⟩
  have A2 := hide (A1.out.later k2)
  have B2 := hide (B1.out.later k2)
  have P2 := hide o2.poly'
  have K2 := bvia k1 k2
  clear A1 B1 o2 k1 k2
  go_wp2_with fail
  refine (Clip_any op va vb A B w2 A2.out B2.out).mono ?_
  rintro e w3 ⟨cv, vs1, rfl, o3, k3⟩
  have A3 := hide (A2.out.later k3)
  have B3 := hide (B2.out.later k3)
  have P3 := hide (P2.out.later k3)
  have C3 := hide o3.poly'
  have K3 := bvia K2 k3
  clear A2 B2 P2 o3 k3 K2
  go_wp2_with fail
  refine (Clip_any op pv vb (oM A n) B w3 P3.out B3.out).mono ?_
  rintro e w4 ⟨dv, vs2, rfl, o4, k4⟩
  rw [E1.out] at o4 ⊢
  have A4 := hide (A3.out.later k4)
  have B4 := hide (B3.out.later k4)
  have P4 := hide (P3.out.later k4)
  have C4 := hide (C3.out.later k4)
  have D4 := hide o4.poly'
  have K4 := bvia K3 k4
  clear A3 B3 P3 o4 k4 K3 C3
  go_wp2_with fail
  refine (sameRings_yes cv dv _ w4 C4.out D4.out).mono ?_
  rintro e w5 ⟨rfl, m, rfl⟩
  have A5 := hide (A4.out.drewN m)
  have B5 := hide (B4.out.drewN m)
  have P5 := hide (P4.out.drewN m)
  have K5 := below_drewN K4 m
  clear A4 B4 P4 K4 C4 D4
  go_wp2_with fail
  refine (Pieces_any va vb A B _ A5.out B5.out).mono ?_
  rintro e w6 ⟨lv, rfl, o6, k6⟩
  have B6 := hide (B5.out.later k6)
  have P6 := hide (P5.out.later k6)
  have O6 := hide o6
  have K6 := bvia K5 k6
  clear A5 B5 P5 K5 k6 o6
  go_wp2_with fail
  refine (Pieces_any pv vb (oM A n) B _ P6.out B6.out).mono ?_
  rintro e w7 ⟨kv, rfl, o7, k7⟩
  rw [E2.out] at o7
  rw [E3.out]
  have O7 := own_later O6.out k7
  have K7 := bvia K6 k7
  clear B6 P6 O6 K6 k7
  generalize pcsM A B = PS at *
  have hPl : PS.length ≤ maxLen := (own_form O7).choose_spec.choose_spec.2.2.2
  obtain ⟨la, lcap, rfl, l1, l2, l3⟩ := pcs_of_own O7 hPl
  obtain ⟨ka, kcap, rfl, m1, m2, m3⟩ := pcs_of_own o7 hPl
  unfold maxLen at l2 m2
  have HL3 := hide l3
  have HK3 := hide m3
  clear l3 m3 O7 o7
  generalize (clipM op A B).2 = ce at *
  generalize bothM A B = be at *
  have hce : (ce != ce) = false := by simp
  have hbe : (be != be) = false := by simp
  go_upto_block 0 with fail
  go_wp2_with fail
  go_loopw [20] (fun iv w' => ∃ i : Nat, iv = .int .i64 i ∧ i ≤ PS.length ∧ Below w7.heap.size w7 w') (fun iv _ => PS.length - (intOf iv).toNat)
  case atStart => exact ⟨0, rfl, Nat.zero_le _, Below.refl _ _⟩
  case round =>
    obtain ⟨i, rfl, hi, hbel⟩ := hrel
    by_cases hlt : i < PS.length
    · obtain ⟨b, off, rfl, hb, hs⟩ := HL3.out i hlt
      obtain ⟨b', off', rfl, hb', hs'⟩ := HK3.out i hlt
      have ht := hs.later hbel hb
      have ht' := hs'.later hbel hb'
      generalize PS.getD i zPc = x at *
      have c0 := ht 0 (by decide)
      have c1 := ht 1 (by decide)
      have c2 := ht 2 (by decide)
      have c3 := ht 3 (by decide)
      have c4 := ht 4 (by decide)
      have c5 := ht 5 (by decide)
      have c6 := ht 6 (by decide)
      have c7 := ht 7 (by decide)
      have c8 := ht 8 (by decide)
      have c9 := ht 9 (by decide)
      have d0 := ht' 0 (by decide)
      have d1 := ht' 1 (by decide)
      have d2 := ht' 2 (by decide)
      have d3 := ht' 3 (by decide)
      have d4 := ht' 4 (by decide)
      have d5 := ht' 5 (by decide)
      have d6 := ht' 6 (by decide)
      have d7 := ht' 7 (by decide)
      have d8 := ht' 8 (by decide)
      have d9 := ht' 9 (by decide)
      simp only [pcCell, Nat.add_zero, List.getElem?_cons_zero, List.getElem?_cons_succ] at c0 c1 c2 c3 c4 c5 c6 c7 c8 c9 d0 d1 d2 d3 d4 d5 d6 d7 d8 d9
      have hi0' : (0 : Int) ≤ (i : Int) := Int.natCast_nonneg _
      have hi1' : (i : Int) < (PS.length : Int) := by omega
      have hne := neq_pc x
      clear ht ht' hs hs' HL3 HK3
      go_wp2_with fail
      go_quiet (fail)
      go_wp2
      go_roundw
      case rel => exact ⟨i + 1, by go_num, by omega, below_drewN hbel _⟩
      case measure => simp [intOf]; omega
    · have KK := hide (bvia K7 hbel)
      clear HL3 HK3
      go_wp2
      go_ret
      exact ⟨rfl, KK.out⟩
end Go.Proofs.Ytnkcbephceollaa
