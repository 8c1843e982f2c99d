import Derived.Test.YtnkcbephceollaaQ45
namespace Go.Proofs.Ytnkcbephceollaa
open Go.RowKit
set_option linter.unusedSimpArgs false
set_option linter.unusedVariables false

set_option maxRecDepth 100000 in
set_option maxHeartbeats 8000000 in
theorem parts_walk (va vb : Value) (A B : List (List Pt)) (w : World) (hA : PolyAt w va A) (hB : PolyAt w vb B) :
    Calls Try.prog 7 #[va, vb] w fun e w' => e = .returned (.bool true) ∧ Below w.heap.size w w' := by
  have HA := hide hA
  have HB := hide hB
  clear hA hB
  go_enter Try.func7, Try.ntmps7
  go_wp2_with fail
  refine (known_yes _).mono ?_
  rintro e w1 ⟨rfl, k1⟩
  have A1 := hide (HA.out.later k1)
  have B1 := hide (HB.out.later k1)
  clear HA HB
  go_wp2_with fail
  refine (Pieces_any va vb A B w1 A1.out B1.out).mono ?_
  rintro e w2 ⟨lv, rfl, o2, k2⟩
  have A2 := hide (A1.out.later k2)
  have B2 := hide (B1.out.later k2)
  have O2 := hide o2
  have K2 := bvia k1 k2
  clear A1 B1 o2 k1 k2
  go_wp2_with fail
  refine (refusal_any 0 va vb A B w2 (by decide) (by decide) A2.out B2.out).mono ?_
  rintro e w3 ⟨rfl, k3⟩
  have A3 := hide (A2.out.later k3)
  have B3 := hide (B2.out.later k3)
  have O3 := hide (own_later O2.out k3)
  have K3 := bvia K2 k3
  clear A2 B2 O2 k3 K2
  by_cases h : bothM A B = 0
  · have hPS : pcsM A B = piecesM A B := if_neg (by simpa using h)
    obtain ⟨c1, c2⟩ := both_zero h
    have HX := hide (fun x hx => piece_parts (sound_of c1) (sound_of c2) (x := x) hx)
    have HXX := hide (fun x hx => HX.out x hx)
    have HOr := hide (fun i hi => pieces_order (sound_of c1) (sound_of c2) i hi zPc)
    have HLA := hide (fun m hm => loc_mid (A := A) (m := m) c1 hm)
    have HLB := hide (fun m hm => loc_mid (A := B) (m := m) c2 hm)
    have hpf := pieces_few (check_few c1) (check_few c2)
    rw [hPS] at O3
    rw [h]
    clear hPS c1 c2 h
    generalize piecesM A B = PS at *
    obtain ⟨la, lcap, rfl, l1, l2, l3⟩ := pcs_of_own O3.out (by unfold maxLen; omega)
    unfold maxLen at l2
    have HL3 := hide l3
    clear l3 O3
    go_upto_block 0 with fail
    go_wp2_with fail
    go_loopw [9, 10, 11, 12, 13, 14, 15, 16, 17, 18, 19, 20] (fun iv _ _ _ _ _ _ _ _ _ _ _ w' => ∃ i : Nat, iv = .int .i64 i ∧ i ≤ PS.length ∧ Below w3.heap.size w3 w') (fun iv _ _ _ _ _ _ _ _ _ _ _ _ => PS.length - (intOf iv).toNat)
    case atStart => exact ⟨0, rfl, Nat.zero_le _, Below.refl _ _⟩
    case round =>
      obtain ⟨i, rfl, hi, hbel⟩ := hrel
      by_cases hlt : i < PS.length
      · obtain ⟨b, off, rfl, hb, hs⟩ := HL3.out i hlt
        have hs' := hs.later hbel hb
        have hmem := getD_mem hlt zPc
        have hor : ∀ k, i = k + 1 → PR ((PS.getD k zPc).p, (PS.getD k zPc).q) ((PS.getD i zPc).p, (PS.getD i zPc).q) := fun k hk => by
          subst hk; exact HOr.out k hlt
        have HORI := hide hor
        obtain ⟨g1, g2, hup, hne, bA, bB⟩ := HX.out _ hmem
        clear hor hmem
        generalize PS.getD i zPc = x at *
        have d1 := gd_good g1
        have d2 := gd_good g2
        have c0 := hs' 0 (by decide)
        have c1 := hs' 1 (by decide)
        have c2 := hs' 2 (by decide)
        have c3 := hs' 3 (by decide)
        have c4 := hs' 4 (by decide)
        have c5 := hs' 5 (by decide)
        have c6 := hs' 6 (by decide)
        have c7 := hs' 7 (by decide)
        have c8 := hs' 8 (by decide)
        have c9 := hs' 9 (by decide)
        simp only [pcCell, Nat.add_zero, List.getElem?_cons_zero, List.getElem?_cons_succ] at c0 c1 c2 c3 c4 c5 c6 c7 c8 c9
        obtain ⟨W1, hW1⟩ : ∃ W, W = wr.alloc (.cells #[.int .i64 x.p.x, .int .i64 x.p.y, .int .i64 x.p.d, .int .i64 x.q.x, .int .i64 x.q.y, .int .i64 x.q.d, .bool x.la, .bool x.ra, .bool x.lb, .bool x.rb] 62) := ⟨_, rfl⟩
        obtain ⟨xb, hxb⟩ : ∃ b, b = wr.heap.size := ⟨_, rfl⟩
        have BW1 : Below w3.heap.size w3 W1 := by rw [hW1]; exact hbel.alloc hbel.size _
        have X1 : Blk W1 xb #[.int .i64 x.p.x, .int .i64 x.p.y, .int .i64 x.p.d, .int .i64 x.q.x, .int .i64 x.q.y, .int .i64 x.q.d, .bool x.la, .bool x.ra, .bool x.lb, .bool x.rb] := by rw [hW1, hxb]; exact Blk.new wr _ _
        have hxb3 : w3.heap.size ≤ xb := by rw [hxb]; exact hbel.size
        have hi0' : (0 : Int) ≤ (i : Int) := Int.natCast_nonneg _
        have hi1' : (i : Int) < (PS.length : Int) := by omega
        have HBA := hide bA
        have HBB := hide bB
        clear hs hs' hbel bA bB HX HOr
        go_upto_region 12 with fail
        rw [← hW1, ← hxb]
        clear hW1 hxb c0 c1 c2 c3 c4 c5 c6 c7 c8 c9
        obtain ⟨cx, fx, zx⟩ := id X1
        have x0 := cx 0
        have x1 := cx 1
        have x2 := cx 2
        have x3 := cx 3
        have x4 := cx 4
        have x5 := cx 5
        have x6 := cx 6
        have x7 := cx 7
        have x8 := cx 8
        have x9 := cx 9
        simp at x0 x1 x2 x3 x4 x5 x6 x7 x8 x9
        clear cx
        go_wp2_with fail
        refine (before_any x.p x.q _ d1 d2).mono ?_
        rintro e w5 ⟨rfl, k5⟩
        rw [hup]
        have X5 := X1.call k5
        have BW5 := bvia BW1 k5
        clear X1 BW1 k5 x0 x1 x2 x3 x4 x5 x6 x7 x8 x9 fx zx
        obtain ⟨cx, fx, zx⟩ := id X5
        have x0 := cx 0
        have x1 := cx 1
        have x2 := cx 2
        have x3 := cx 3
        have x4 := cx 4
        have x5 := cx 5
        have x6 := cx 6
        have x7 := cx 7
        have x8 := cx 8
        have x9 := cx 9
        simp at x0 x1 x2 x3 x4 x5 x6 x7 x8 x9
        clear cx
        have HX5 := hide X5
        have HB5 := hide BW5
        have hz5 := BW5.size
        clear X5 BW5
        go_upto_region 13 with fail
        go_cut [78] (fun cv w' => cv = .bool false ∧ w' = w5)
        case first =>
          clear HBA HBB HLA HLB HORI HL3 A3 B3 HX5 HB5
          cases hq : (x.la == x.ra)
          · go_wp2
            go_meet
            case rel => exact ⟨by simp, rfl⟩
          · rw [hq] at hne
            have hq2 : (x.lb == x.rb) = false := by simpa using hne
            go_wp2
            go_meet
            case rel => exact ⟨by simp, rfl⟩
        case rest =>
          obtain ⟨rfl, hw⟩ := hcut
          rw [hw]
          clear hw hne
          go_upto_region 15 with fail
          rcases Nat.eq_zero_or_pos i with hz | hz
          case' inl =>
            have hnot : ¬ (0 : Int) < (i : Int) := by omega
            go_upto_region 19 with fail
            obtain ⟨w6, hw6⟩ : ∃ w', w' = w5 := ⟨_, rfl⟩
            rw [← hw6] at HX5 HB5 hz5 ⊢
            clear hw6 hnot x0 x1 x2 x3 x4 x5 x6 x7 x8 x9 fx zx HORI hz
          case' inr =>
            obtain ⟨k, rfl⟩ : ∃ k, i = k + 1 := ⟨i - 1, by omega⟩
            have ec : (((k + 1 : Nat)) : Int) = (k : Int) + 1 := by omega
            rw [ec] at hi0' hi1' ⊢
            have hyes : (0 : Int) < (k : Int) + 1 := by omega
            obtain ⟨b', off', e', hb', hsy⟩ := HL3.out k (by omega)
            simp at e'
            obtain ⟨rfl, rfl⟩ := e'
            have hy := hsy.later HB5.out hb'
            have hah := PR_ahead _ _ (HORI.out k rfl)
            have hym := getD_mem (show k < PS.length by omega) zPc
            obtain ⟨gy1, gy2, _⟩ := HXX.out _ hym
            generalize PS.getD k zPc = y at *
            have C := hide (fun wz => follows_any y x wz (gd_good gy1) (gd_good gy2) d1 d2)
            rw [hah] at C
            have y0 := hy 0 (by decide)
            have y1 := hy 1 (by decide)
            have y2 := hy 2 (by decide)
            have y3 := hy 3 (by decide)
            have y4 := hy 4 (by decide)
            have y5 := hy 5 (by decide)
            have y6 := hy 6 (by decide)
            have y7 := hy 7 (by decide)
            have y8 := hy 8 (by decide)
            have y9 := hy 9 (by decide)
            simp only [pcCell, Nat.add_zero, List.getElem?_cons_zero, List.getElem?_cons_succ] at y0 y1 y2 y3 y4 y5 y6 y7 y8 y9
            have ek' : (k : Int) + 1 - 1 = (k : Int) := by omega
            have ek : IntKind.i64.wrap ((k : Int) + 1 - 1) = (k : Int) := by rw [ek']; exact IntWalk.i64_in _ (by omega)
            have ek2 : IntKind.i64.wrap (k : Int) = (k : Int) := IntWalk.i64_in _ (by omega)
            have hk0 : (0 : Int) ≤ (k : Int) := Int.natCast_nonneg _
            have hk1 : (k : Int) < (PS.length : Int) := by omega
            have hbw : b < w5.heap.size := by omega
            have hxw : xb < w5.heap.size := zx
            clear hsy hy hym hah HORI hz
            go_upto_region 16 with fail
            go_cut [12] (fun cv w' => cv = .bool true ∧ Below w5.heap.size w5 w')
            case first =>
              clear HBA HBB HLA HLB HL3 A3 B3 HX5 HB5 HXX
              go_region_held3 (fun w' => w'.cell? ⟨b, off + k * 10, none⟩ = some (.int .i64 y.p.x) ∧ w'.cell? ⟨b, off + k * 10 + 1, none⟩ = some (.int .i64 y.p.y) ∧ w'.cell? ⟨b, off + k * 10 + 2, none⟩ = some (.int .i64 y.p.d) ∧ w'.cell? ⟨b, off + k * 10 + 3, none⟩ = some (.int .i64 y.q.x) ∧ w'.cell? ⟨b, off + k * 10 + 4, none⟩ = some (.int .i64 y.q.y) ∧ w'.cell? ⟨b, off + k * 10 + 5, none⟩ = some (.int .i64 y.q.d) ∧ w'.cell? ⟨b, off + k * 10 + 6, none⟩ = some (.bool y.la) ∧ w'.cell? ⟨b, off + k * 10 + 7, none⟩ = some (.bool y.ra) ∧ w'.cell? ⟨b, off + k * 10 + 8, none⟩ = some (.bool y.lb) ∧ w'.cell? ⟨b, off + k * 10 + 9, none⟩ = some (.bool y.rb) ∧ w'.cell? ⟨xb, 0, none⟩ = some (.int .i64 x.p.x) ∧ w'.cell? ⟨xb, 1, none⟩ = some (.int .i64 x.p.y) ∧ w'.cell? ⟨xb, 2, none⟩ = some (.int .i64 x.p.d) ∧ w'.cell? ⟨xb, 3, none⟩ = some (.int .i64 x.q.x) ∧ w'.cell? ⟨xb, 4, none⟩ = some (.int .i64 x.q.y) ∧ w'.cell? ⟨xb, 5, none⟩ = some (.int .i64 x.q.d) ∧ w'.cell? ⟨xb, 6, none⟩ = some (.bool x.la) ∧ w'.cell? ⟨xb, 7, none⟩ = some (.bool x.ra) ∧ w'.cell? ⟨xb, 8, none⟩ = some (.bool x.lb) ∧ w'.cell? ⟨xb, 9, none⟩ = some (.bool x.rb))
                (first
                  | go_keep
                  | (go_split_ands
                     refine ⟨?_, ?_, ?_, ?_, ?_, ?_, ?_, ?_, ?_, ?_, ?_, ?_, ?_, ?_, ?_, ?_, ?_, ?_, ?_, ?_⟩
                     · (rw [k6.cell (p := ⟨b, off + k * 10, none⟩) (by simp; omega)]; assumption)
                     · (rw [k6.cell (p := ⟨b, off + k * 10 + 1, none⟩) (by simp; omega)]; assumption)
                     · (rw [k6.cell (p := ⟨b, off + k * 10 + 2, none⟩) (by simp; omega)]; assumption)
                     · (rw [k6.cell (p := ⟨b, off + k * 10 + 3, none⟩) (by simp; omega)]; assumption)
                     · (rw [k6.cell (p := ⟨b, off + k * 10 + 4, none⟩) (by simp; omega)]; assumption)
                     · (rw [k6.cell (p := ⟨b, off + k * 10 + 5, none⟩) (by simp; omega)]; assumption)
                     · (rw [k6.cell (p := ⟨b, off + k * 10 + 6, none⟩) (by simp; omega)]; assumption)
                     · (rw [k6.cell (p := ⟨b, off + k * 10 + 7, none⟩) (by simp; omega)]; assumption)
                     · (rw [k6.cell (p := ⟨b, off + k * 10 + 8, none⟩) (by simp; omega)]; assumption)
                     · (rw [k6.cell (p := ⟨b, off + k * 10 + 9, none⟩) (by simp; omega)]; assumption)
                     · (rw [k6.cell (p := ⟨xb, 0, none⟩) (by simp; omega)]; assumption)
                     · (rw [k6.cell (p := ⟨xb, 1, none⟩) (by simp; omega)]; assumption)
                     · (rw [k6.cell (p := ⟨xb, 2, none⟩) (by simp; omega)]; assumption)
                     · (rw [k6.cell (p := ⟨xb, 3, none⟩) (by simp; omega)]; assumption)
                     · (rw [k6.cell (p := ⟨xb, 4, none⟩) (by simp; omega)]; assumption)
                     · (rw [k6.cell (p := ⟨xb, 5, none⟩) (by simp; omega)]; assumption)
                     · (rw [k6.cell (p := ⟨xb, 6, none⟩) (by simp; omega)]; assumption)
                     · (rw [k6.cell (p := ⟨xb, 7, none⟩) (by simp; omega)]; assumption)
                     · (rw [k6.cell (p := ⟨xb, 8, none⟩) (by simp; omega)]; assumption)
                     · (rw [k6.cell (p := ⟨xb, 9, none⟩) (by simp; omega)]; assumption)))
                ((go_at_call 33; refine (C.out _).mono ?_; rintro e' w6 ⟨rfl, k6⟩))
              all_goals
                go_wp2_with fail
                go_meet
                case rel => exact ⟨rfl, bvia (Below.refl _ _).drew k6⟩
            obtain ⟨rfl, k6⟩ := hcut
            have HX6 := hide (HX5.out.call k6)
            have HB6 := hide (bvia HB5.out k6)
            clear HX5 HB5 x0 x1 x2 x3 x4 x5 x6 x7 x8 x9 fx zx y0 y1 y2 y3 y4 y5 y6 y7 y8 y9 C ek ek' ek2 hbw hxw hyes hk0 hk1
            have HX5 := HX6
            have HB5 := HB6
            have hz5 := HB6.out.size
            go_upto_region 19 with fail
            rw [← ec] at hi0' hi1' ⊢
            obtain ⟨i, hii⟩ : ∃ i, i = k + 1 := ⟨_, rfl⟩
            rw [← hii] at hlt hi hi0' hi1' ⊢
            clear ec
            rename World => w6
          all_goals
            have CM := hide (fun wz => middleK_any x wz d1 d2)
            have HMG := hide (fun h => mid_good g1 g2 h)
            generalize midP x.p x.q = mm at *
            generalize 2 * x.p.d * x.q.d = dd at *
            obtain ⟨cx, fx, zx⟩ := id HX5.out
            have x0 := cx 0
            have x1 := cx 1
            have x2 := cx 2
            have x3 := cx 3
            have x4 := cx 4
            have x5 := cx 5
            have x6 := cx 6
            have x7 := cx 7
            have x8 := cx 8
            have x9 := cx 9
            simp at x0 x1 x2 x3 x4 x5 x6 x7 x8 x9
            clear cx
            go_wp2_with fail
            refine (CM.out _).mono ?_
            rintro e w7 ⟨rfl, k7⟩
            have X7 := HX5.out.call k7
            have B7 := bvia HB5.out k7
            clear x0 x1 x2 x3 x4 x5 x6 x7 x8 x9 fx zx HX5 HB5 k7 CM
            obtain ⟨W8, hW8⟩ : ∃ W, W = w7.alloc (.cells #[.int .i64 mm.x, .int .i64 mm.y, .int .i64 mm.d] 25) := ⟨_, rfl⟩
            obtain ⟨mb, hmb⟩ : ∃ b, b = w7.heap.size := ⟨_, rfl⟩
            have B8 : Below w3.heap.size w3 W8 := by rw [hW8]; exact B7.alloc B7.size _
            have X8 : Hid (Blk W8 xb #[.int .i64 x.p.x, .int .i64 x.p.y, .int .i64 x.p.d, .int .i64 x.q.x, .int .i64 x.q.y, .int .i64 x.q.d, .bool x.la, .bool x.ra, .bool x.lb, .bool x.rb]) := by rw [hW8]; exact hide (X7.alloc _)
            have M8 : Blk W8 mb #[.int .i64 mm.x, .int .i64 mm.y, .int .i64 mm.d] := by rw [hW8, hmb]; exact Blk.new w7 _ _
            go_upto_region 20 with fail
            rw [← hW8, ← hmb]
            clear hW8 hmb X7 B7
            by_cases hgd : dd ≤ 32768
            · have hg := HMG.out hgd
              have LA := hide (HLA.out mm hg)
              have LB := hide (HLB.out mm hg)
              have hgd' : decide (dd ≤ 32768) = true := decide_eq_true hgd
              have A8 := hide (A3.out.later B8)
              obtain ⟨cm, fm, zm⟩ := id M8
              clear HMG HLA HLB
              go_wp2_with fail
              refine (Locate_any va A mm _ A8.out).mono ?_
              rintro e w9 ⟨rfl, k9⟩
              rw [LA.out]
              have B9 := bvia B8 k9
              have B9' := hide (B3.out.later B9)
              have X9 := hide (X8.out.call k9)
              have M9 := M8.call k9
              clear cm fm zm M8 B8 X8 k9 A8 LA
              obtain ⟨cm, fm, zm⟩ := id M9
              go_wp2_with fail
              refine (Locate_any vb B mm _ B9'.out).mono ?_
              rintro e w10 ⟨rfl, k10⟩
              rw [LB.out]
              have B10 := bvia B9 k10
              have X10 := X9.out.call k10
              clear cm fm zm M9 B9 X9 k10 B9' LB
              obtain ⟨cx, fx, zx⟩ := id X10
              have x0 := cx 0
              have x1 := cx 1
              have x2 := cx 2
              have x3 := cx 3
              have x4 := cx 4
              have x5 := cx 5
              have x6 := cx 6
              have x7 := cx 7
              have x8 := cx 8
              have x9 := cx 9
              simp at x0 x1 x2 x3 x4 x5 x6 x7 x8 x9
              clear cx
              generalize whereM mm 0 (edgesM A) = na at *
              generalize whereM mm 0 (edgesM B) = nb at *
              go_wp2_with fail
              refine (beside_any na x.la x.ra _).mono ?_
              rintro e w11 ⟨rfl, hw⟩
              rw [hw, HBA.out]
              clear hw w11
              go_wp2_with fail
              refine (beside_any nb x.lb x.rb _).mono ?_
              rintro e w12 ⟨rfl, hw⟩
              rw [hw, HBB.out]
              clear hw w12
              go_wp2
              go_roundw
              case rel => exact ⟨i + 1, by go_num, by omega, B10⟩
              case measure => simp [intOf]; omega
            · have hgd' : decide (dd ≤ 32768) = false := decide_eq_false hgd
              clear HMG HLA HLB HBA HBB hgd
              go_wp2
              go_roundw
              case rel => exact ⟨i + 1, by go_num, by omega, B8⟩
              case measure => simp [intOf]; omega
      · have KK := hide (bvia K3 hbel)
        clear HL3 HX HOr
        go_wp2
        go_ret
        exact ⟨rfl, KK.out⟩
  · have hPS : pcsM A B = [] := if_pos h
    have h' : (bothM A B != 0) = true := by simpa using h
    have hee : (bothM A B != bothM A B) = false := by simp
    have hee2 : (bothM A B == bothM A B) = true := by simp
    rw [hPS] at O3
    obtain ⟨la, lcap, rfl, _, _, _⟩ := own_form O3.out
    clear O3 hPS A3 B3
    generalize bothM A B = be at *
    go_wp2
    go_ret
    exact ⟨by simp, K3⟩
end Go.Proofs.Ytnkcbephceollaa
