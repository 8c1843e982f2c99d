import Derived.Test.YtnkcbephceollaaQ36
import Derived.Test.YtnkcbephceollaaQ44
import Derived.Test.YtnkcbephceollaaQ45
import Derived.Test.YtnkcbephceollaaQ46
import Derived.Deep.RegionHeld3
import Derived.Deep.CutRange
namespace Go.Proofs.Ytnkcbephceollaa
open Go.RowKit
set_option linter.unusedSimpArgs false
set_option linter.unusedVariables false

/-- What comes out with no error: of two polygons that Check has nothing against. -/
theorem clip_right {op : Int} {A B : List (List Pt)} (h : (clipM op A B).2 = 0) : (0 ≤ op ∧ op ≤ 4) ∧ (checkM A).1 = 0 ∧ (checkM B).1 = 0 ∧ (clipM op A B).1 = ringsM (bordM op (piecesM A B)) := by
  unfold clipM at h ⊢
  by_cases c : op < 0 ∨ op > 4
  · rw [if_pos c] at h; exact absurd h (by decide)
  · rw [if_neg c] at h ⊢
    by_cases d : bothM A B ≠ 0
    · rw [if_pos d] at h; exact absurd h d
    · rw [if_neg d]
      have d' : bothM A B = 0 := Decidable.byContradiction d
      obtain ⟨c1, c2⟩ := both_zero d'
      exact ⟨⟨by omega, by omega⟩, c1, c2, rfl⟩
theorem clip_wrong {op : Int} {A B : List (List Pt)} (h : (clipM op A B).2 ≠ 0) : (clipM op A B).1 = [] := by
  unfold clipM at h ⊢
  by_cases c : op < 0 ∨ op > 4
  · rw [if_pos c]
  · rw [if_neg c] at h ⊢
    by_cases d : bothM A B ≠ 0
    · rw [if_pos d]
    · rw [if_neg d] at h; exact absurd rfl h
theorem twos_nice {E : List (Pt × Pt)} (h : ∀ e ∈ E, Gd e.1 ∧ Gd e.2) (j : Nat) (hj : j < E.length) : Gd (E.getD j (zP, zP)).1 ∧ Gd (E.getD j (zP, zP)).2 := h _ (getD_mem hj (zP, zP))

set_option maxRecDepth 100000 in
set_option maxHeartbeats 8000000 in
theorem formed_walk (op : Int) (va vb : Value) (A B : List (List Pt)) (w : World) (hA : PolyAt w va A) (hB : PolyAt w vb B) :
    Calls Try.prog 6 #[.int .i64 op, va, vb] w fun e w' => e = .returned (.bool true) ∧ Below w.heap.size w w' := by
  have C1 := hide (fun wz (kz : Below w.heap.size w wz) => Clip_any op va vb A B wz (hA.later kz) (hB.later kz))
  by_cases hz : (clipM op A B).2 = 0
  · obtain ⟨ho, c1, c2, eR⟩ := clip_right hz
    have sA := sound_of c1
    have sB := sound_of c2
    have hF : (∀ r ∈ (clipM op A B).1, Fm r) ∧ (clipM op A B).1.Pairwise (fun x y => befB (y.getD 0 zP) (x.getD 0 zP) = false) := by rw [eR]; exact rings_fm sA sB op
    have hD : (edgesM (clipM op A B).1).Pairwise Dj := by rw [eR]; exact rings_dj sA sB op
    have hT : (edgesM (clipM op A B).1).length ≤ 27648 := by
      rw [eR]
      have := rings_total sA sB op
      have := bord_len op (piecesM A B)
      have := pieces_few (check_few c1) (check_few c2)
      omega
    have hFW := clip_few op A B
    clear ho c1 c2 eR sA sB
    generalize clipM op A B = cl at *
    obtain ⟨R, z⟩ := cl
    simp only at hz hF hD hT hFW C1
    subst hz
    have hRl : R.length ≤ 100000 := hFW.few
    have hG : ∀ e ∈ edgesM R, Gd e.1 ∧ Gd e.2 := fun e he => by
      obtain ⟨m1, m2⟩ := edge_ends he
      obtain ⟨r1, hr1, k1⟩ := List.mem_flatten.1 m1
      obtain ⟨r2, hr2, k2⟩ := List.mem_flatten.1 m2
      exact ⟨hFW.good r1 hr1 _ k1, hFW.good r2 hr2 _ k2⟩
    have HFM := hide (fun i (hi : i < R.length) => hF.1 _ (getD_mem hi []))
    have HSH := hide (fun i (hi : i < R.length) => (show (R.getD i []).length ≤ 1000000 by have := hFW.short i hi; omega))
    have HOR := hide (fun i (hi : i + 1 < R.length) => (show befB ((R.getD (i + 1) []).getD 0 zP) ((R.getD i []).getD 0 zP) = false by
      have := List.pairwise_iff_getElem.1 hF.2 i (i + 1) (by omega) hi (by omega)
      have g1 : R.getD (i + 1) [] = R[i + 1] := by rw [List.getD_eq_getElem?_getD, List.getElem?_eq_getElem hi]; rfl
      have g2 : R.getD i [] = R[i]'(by omega) := by rw [List.getD_eq_getElem?_getD, List.getElem?_eq_getElem (show i < R.length by omega)]; rfl
      rw [g1, g2]
      exact this))
    have HOV := hide (fun j k (hj : j < (edgesM R).length) (hk : k < j) => (show ovB ((edgesM R).getD j (zP, zP)) ((edgesM R).getD k (zP, zP)) = false by
      have := List.pairwise_iff_getElem.1 hD k j (by omega) hj hk
      rw [at_getD hj, at_getD (show k < (edgesM R).length by omega)]
      exact this.2))
    have HG := hide (fun j hj => twos_nice hG j hj)
    have HTW := hide (fun j hj => twos_at (edgesM R) j hj)
    have HTL := hide (twos_len (edgesM R))
    clear hF hD hG hFW hA hB
    go_enter Try.func6, Try.ntmps6
    go_wp2_with fail
    refine (known_yes _).mono ?_
    rintro e w1 ⟨rfl, k1⟩
    have C1' := hide (C1.out w1 k1)
    have B1 := hide k1
    clear k1 C1
    go_wp2_with fail
    refine C1'.out.mono ?_
    rintro e w2 ⟨v1, vs1, rfl, o1, k2⟩
    have P2 := hide (o1.poly (by unfold maxLen; omega))
    have B2 := hide (bvia B1.out k2)
    clear C1' o1 k2 B1
    have CE := hide (fun wz (kz : Below w2.heap.size w2 wz) => kedges_any v1 R wz (P2.out.later kz) (by omega))
    obtain ⟨ra, rcap, rfl, q1, q2, q3⟩ := P2.out
    unfold maxLen at q2
    have H3 := hide q3
    clear q3 P2
    go_wp2_with fail
    go_loopw [10, 11, 12] (fun iv _ _ w' => ∃ i : Nat, iv = .int .i64 i ∧ i ≤ R.length ∧ Below w2.heap.size w2 w') (fun iv _ _ _ => R.length - (intOf iv).toNat)
    case atStart => exact ⟨0, rfl, Nat.zero_le _, Below.refl _ _⟩
    case round =>
      obtain ⟨i, rfl, hi, hbel⟩ := hrel
      by_cases hlt : i < R.length
      · obtain ⟨b, off, rv, rfl, hb, hc, hring⟩ := H3.out i hlt
        have hc' := (hbel.cell (p := ⟨b, off + i, none⟩) hb).trans hc
        have CR := hide (ring_yes rv (R.getD i []) wr (hring.later hbel) (HFM.out i hlt) (HSH.out i hlt))
        have hi0' : (0 : Int) ≤ (i : Int) := Int.natCast_nonneg _
        have hi1' : (i : Int) < (R.length : Int) := by omega
        have HB := hide hbel
        have hthree := (HFM.out i hlt).three
        rcases Nat.eq_zero_or_pos i with hz | hz
        · have hnot : ¬ (0 : Int) < (i : Int) := by omega
          clear hbel H3 HOR HFM HSH HOV HG HTW hring hz
          generalize R.getD i [] = r at *
          go_wp2_with fail
          refine CR.out.mono ?_
          rintro e w3 ⟨rfl, k3⟩
          have B3 := bvia HB.out k3
          clear CR HB k3 hc'
          go_wp2
          go_roundw
          case rel => exact ⟨i + 1, by go_num, by omega, B3⟩
          case measure => simp [intOf]; omega
        · obtain ⟨m, hm⟩ : ∃ m, m = i - 1 := ⟨_, rfl⟩
          have em : (i : Int) - 1 = (m : Int) := by omega
          have ek : IntKind.i64.wrap ((i : Int) - 1) = (m : Int) := by rw [em]; exact IntWalk.i64_in _ (by omega)
          have ek2 : IntKind.i64.wrap (m : Int) = (m : Int) := IntWalk.i64_in _ (by omega)
          have hyes : (0 : Int) < (i : Int) := by omega
          obtain ⟨b2, off2, rv2, e2, _, hc2, hring2⟩ := H3.out m (by omega)
          simp at e2
          obtain ⟨rfl, rfl⟩ := e2
          have hthree2 := (HFM.out m (by omega)).three
          have hbk := HOR.out m (by omega)
          rw [show m + 1 = i by omega] at hbk
          have G1 := gd_nice ((HFM.out i hlt).nice _ (getD_mem (show 0 < (R.getD i []).length by omega) zP))
          have G2 := gd_nice ((HFM.out m (by omega)).nice _ (getD_mem (show 0 < (R.getD m []).length by omega) zP))
          obtain ⟨a', cap', rfl, g1, g2, g3⟩ := hring
          obtain ⟨a2, cap2, rfl, j1, j2, j3⟩ := hring2
          unfold maxLen at g2 j2
          obtain ⟨pb, po, rfl, hpb, hp⟩ := g3 0 (by omega)
          obtain ⟨qb, qo, rfl, hqb, hq⟩ := j3 0 (by omega)
          have HH := hide (show (∃ x, x = (R.getD i []).getD 0 zP) from ⟨_, rfl⟩)
          have BE := hide (fun wz => before_any _ _ wz G1 G2)
          rw [hbk] at BE
          have HPQ := hide (fun wz (kz : Below w2.heap.size w2 wz) => And.intro (hp.later kz hpb) (And.intro (hq.later kz hqb) (And.intro ((kz.cell (p := ⟨b, off + i, none⟩) hb).trans hc) ((kz.cell (p := ⟨b, off + m, none⟩) hb).trans hc2))))
          generalize (R.getD i []).getD 0 zP = p at *
          generalize (R.getD m []).getD 0 zP = q at *
          generalize (R.getD i []).length = n1 at *
          generalize (R.getD m []).length = n2 at *
          clear HH hbk hp hq hc hc2 G1 G2 g3 j3 hbel H3 HOR HFM HSH HOV HG HTW
          go_wp2_with fail
          refine CR.out.mono ?_
          rintro e w3 ⟨rfl, k3⟩
          have B3 := bvia HB.out k3
          clear CR HB k3 hc'
          obtain ⟨⟨px, py, pd⟩, ⟨qx, qy, qd⟩, hc1', hc2'⟩ := HPQ.out w3 B3
          simp only [Nat.zero_mul, Nat.add_zero] at px py pd qx qy qd
          have hm0 : (0 : Int) ≤ (m : Int) := Int.natCast_nonneg _
          have hm1 : (m : Int) < (R.length : Int) := by omega
          have hn1 : (0 : Int) < (n1 : Int) := by omega
          have hn2 : (0 : Int) < (n2 : Int) := by omega
          have hn1' : 0 < n1 := by omega
          have hn2' : 0 < n2 := by omega
          have hn1z : ¬ n1 = 0 := by omega
          have hn2z : ¬ n2 = 0 := by omega
          have hbw : b < w3.heap.size := by have := B3.size; omega
          have hpw : pb < w3.heap.size := by have := B3.size; omega
          have hqw : qb < w3.heap.size := by have := B3.size; omega
          clear hm HPQ
          go_upto_region 14 with fail
          go_cut [12] (fun cv w' => cv = .bool false ∧ Below w3.heap.size w3 w')
          case first =>
            clear B3 CE B2 HTL
            go_region_held3 (fun w' => w'.cell? ⟨b, off + i, none⟩ = some (.slice (some ⟨pb, po, none⟩) n1 cap') ∧ w'.cell? ⟨b, off + m, none⟩ = some (.slice (some ⟨qb, qo, none⟩) n2 cap2) ∧ w'.cell? ⟨pb, po, none⟩ = some (.int .i64 p.x) ∧ w'.cell? ⟨pb, po + 1, none⟩ = some (.int .i64 p.y) ∧ w'.cell? ⟨pb, po + 2, none⟩ = some (.int .i64 p.d) ∧ w'.cell? ⟨qb, qo, none⟩ = some (.int .i64 q.x) ∧ w'.cell? ⟨qb, qo + 1, none⟩ = some (.int .i64 q.y) ∧ w'.cell? ⟨qb, qo + 2, none⟩ = some (.int .i64 q.d))
              (first
                | go_keep
                | (go_split_ands
                   refine ⟨?_, ?_, ?_, ?_, ?_, ?_, ?_, ?_⟩
                   · (rw [k6.cell (p := ⟨b, off + i, none⟩) (by simp; omega)]; assumption)
                   · (rw [k6.cell (p := ⟨b, off + m, none⟩) (by simp; omega)]; assumption)
                   · (rw [k6.cell (p := ⟨pb, po, none⟩) (by simp; omega)]; assumption)
                   · (rw [k6.cell (p := ⟨pb, po + 1, none⟩) (by simp; omega)]; assumption)
                   · (rw [k6.cell (p := ⟨pb, po + 2, none⟩) (by simp; omega)]; assumption)
                   · (rw [k6.cell (p := ⟨qb, qo, none⟩) (by simp; omega)]; assumption)
                   · (rw [k6.cell (p := ⟨qb, qo + 1, none⟩) (by simp; omega)]; assumption)
                   · (rw [k6.cell (p := ⟨qb, qo + 2, none⟩) (by simp; omega)]; assumption)))
              ((go_at_call 13; refine (BE.out _).mono ?_; rintro e' w6 ⟨rfl, k6⟩))
            all_goals
              go_wp2_with fail
              go_meet
              case rel => exact ⟨rfl, bvia (Below.refl _ _).drew k6⟩
          case rest =>
            obtain ⟨rfl, k6⟩ := hcut
            have B6 := bvia B3 k6
            clear k6 B3 px py pd qx qy qd hc1' hc2' BE em ek ek2
            go_wp2
            go_roundw
            case rel => exact ⟨i + 1, by go_num, by omega, B6⟩
            case measure => simp [intOf]; omega
      · have hn1 : ¬ (i : Int) < (R.length : Int) := by omega
        have CE' := hide (CE.out wr hbel)
        have B3 := hide (bvia B2.out hbel)
        clear CE hbel H3 HOR HFM HSH B2
        go_wp2_with fail
        refine CE'.out.mono ?_
        rintro e w4 ⟨lv, rfl, hl, k4⟩
        have B4 := hide (bvia B3.out k4)
        obtain ⟨la, lcap, rfl, l1, l2, l3⟩ := hl
        unfold maxLen at l2
        rw [HTL.out] at l1 l3 ⊢
        have H4 := hide l3
        clear CE' B3 k4 l3
        have HE := hide (rfl : (edgesM R).length = (edgesM R).length)
        obtain ⟨n, hn⟩ : ∃ n, n = (edgesM R).length := ⟨_, rfl⟩
        rw [← hn] at HG HTW HOV H4 l1 hT ⊢
        clear hn HE
        obtain ⟨N2, hN2⟩ : ∃ N, N = n * 2 := ⟨_, rfl⟩
        rw [← hN2] at H4 l1 ⊢
        have HN2 := hide hN2
        have hNl : N2 ≤ 100000 := by omega
        clear hN2
        go_wp2_with fail
        go_loopw [14, 15, 16] (fun iv _ _ w' => ∃ j : Nat, iv = .int .i64 ((j * 2 : Nat) : Int) ∧ j ≤ n ∧ Below w4.heap.size w4 w') (fun iv _ _ _ => n * 2 + 2 - (intOf iv).toNat)
        case atStart => exact ⟨0, rfl, Nat.zero_le _, Below.refl _ _⟩
        case round =>
          obtain ⟨j, rfl, hj, hbel⟩ := hrel
          obtain ⟨x, hx⟩ : ∃ x, x = j * 2 := ⟨_, rfl⟩
          rw [← hx]
          have hN2 := HN2.out
          have HX := hide hx
          by_cases hlt : j < n
          · have hx1 : (x : Int) + 1 < (N2 : Int) := by omega
            have hx1' : x + 1 < N2 := by omega
            have HB := hide hbel
            clear hbel hN2 hx
            go_wp2_with fail
            go_loopw [15, 16] (fun kv _ w' => ∃ k : Nat, kv = .int .i64 ((k * 2 : Nat) : Int) ∧ k ≤ j ∧ Below w4.heap.size w4 w') (fun kv _ _ => j * 2 + 2 - (intOf kv).toNat)
            case atStart => exact ⟨0, rfl, Nat.zero_le _, HB.out⟩
            case round =>
              clear HB
              obtain ⟨k, rfl, hk, hbel⟩ := hrel
              obtain ⟨y, hy⟩ : ∃ y, y = k * 2 := ⟨_, rfl⟩
              rw [← hy]
              have HY := hide hy
              have hx := HX.out
              by_cases hkt : k < j
              · have hyx : (y : Int) < (x : Int) := by omega
                obtain ⟨b, off, rfl, hb, hp⟩ := H4.out x (by omega)
                obtain ⟨b1, off1, e1, _, hp1⟩ := H4.out (x + 1) (by omega)
                obtain ⟨b2, off2, e2, _, hp2⟩ := H4.out y (by omega)
                obtain ⟨b3, off3, e3, _, hp3⟩ := H4.out (y + 1) (by omega)
                simp at e1 e2 e3
                obtain ⟨rfl, rfl⟩ := e1
                obtain ⟨rfl, rfl⟩ := e2
                obtain ⟨rfl, rfl⟩ := e3
                obtain ⟨t1, t2⟩ := HTW.out j (by omega)
                obtain ⟨t3, t4⟩ := HTW.out k (by omega)
                rw [show 2 * j = x by omega] at t1 t2
                rw [show 2 * k = y by omega] at t3 t4
                rw [t1] at hp
                rw [t2] at hp1
                rw [t3] at hp2
                rw [t4] at hp3
                obtain ⟨g1, g2⟩ := HG.out j hlt
                obtain ⟨g3, g4⟩ := HG.out k (by omega)
                have ov := HOV.out j k hlt hkt
                generalize (edgesM R).getD j (zP, zP) = E1 at *
                generalize (edgesM R).getD k (zP, zP) = E2 at *
                obtain ⟨p, p'⟩ := E1
                obtain ⟨q, q'⟩ := E2
                simp only at hp hp1 hp2 hp3 g1 g2 g3 g4
                have OV := hide (fun wz => overlap_any p p' q q' wz g1 g2 g3 g4)
                rw [ov] at OV
                obtain ⟨px, py, pd⟩ := hp.later hbel hb
                obtain ⟨rx, ry, rd⟩ := hp1.later hbel hb
                obtain ⟨qx, qy, qd⟩ := hp2.later hbel hb
                obtain ⟨sx, sy, sd⟩ := hp3.later hbel hb
                have ewr1 : IntKind.i64.wrap ((x : Int) + 1) = (x : Int) + 1 := IntWalk.i64_in _ (by omega)
                have ewr2 : IntKind.i64.wrap ((y : Int) + 1) = (y : Int) + 1 := IntWalk.i64_in _ (by omega)
                have hx0 : (0 : Int) ≤ (x : Int) := Int.natCast_nonneg _
                have hy0 : (0 : Int) ≤ (y : Int) := Int.natCast_nonneg _
                have hx2 : (x : Int) < (N2 : Int) := by omega
                have hy2 : (y : Int) < (N2 : Int) := by omega
                have hx3 : (0 : Int) ≤ (x : Int) + 1 := by omega
                have hy3 : (0 : Int) ≤ (y : Int) + 1 := by omega
                have hy4 : (y : Int) + 1 < (N2 : Int) := by omega
                have hbw : b < wr.heap.size := by have := hbel.size; omega
                have HB := hide hbel
                clear hbel hp hp1 hp2 hp3 t1 t2 t3 t4 g1 g2 g3 g4 ov hx hy
                go_upto_region 24 with fail
                go_cut [16] from 71 to 95 (fun cv w' => cv = .bool false ∧ Below wr.heap.size wr w')
                case first =>
                  clear H4 HOV HG HTW HTL HB B4 HN2
                  go_region_held3 (fun w' => w'.cell? ⟨b, off + x * 3, none⟩ = some (.int .i64 p.x) ∧ w'.cell? ⟨b, off + x * 3 + 1, none⟩ = some (.int .i64 p.y) ∧ w'.cell? ⟨b, off + x * 3 + 2, none⟩ = some (.int .i64 p.d) ∧ w'.cell? ⟨b, off + (x + 1) * 3, none⟩ = some (.int .i64 p'.x) ∧ w'.cell? ⟨b, off + (x + 1) * 3 + 1, none⟩ = some (.int .i64 p'.y) ∧ w'.cell? ⟨b, off + (x + 1) * 3 + 2, none⟩ = some (.int .i64 p'.d) ∧ w'.cell? ⟨b, off + y * 3, none⟩ = some (.int .i64 q.x) ∧ w'.cell? ⟨b, off + y * 3 + 1, none⟩ = some (.int .i64 q.y) ∧ w'.cell? ⟨b, off + y * 3 + 2, none⟩ = some (.int .i64 q.d) ∧ w'.cell? ⟨b, off + (y + 1) * 3, none⟩ = some (.int .i64 q'.x) ∧ w'.cell? ⟨b, off + (y + 1) * 3 + 1, none⟩ = some (.int .i64 q'.y) ∧ w'.cell? ⟨b, off + (y + 1) * 3 + 2, none⟩ = some (.int .i64 q'.d))
                    (first
                      | go_keep
                      | (go_split_ands
                         refine ⟨?_, ?_, ?_, ?_, ?_, ?_, ?_, ?_, ?_, ?_, ?_, ?_⟩
                         · (rw [k6.cell (p := ⟨b, off + x * 3, none⟩) (by simp; omega)]; assumption)
                         · (rw [k6.cell (p := ⟨b, off + x * 3 + 1, none⟩) (by simp; omega)]; assumption)
                         · (rw [k6.cell (p := ⟨b, off + x * 3 + 2, none⟩) (by simp; omega)]; assumption)
                         · (rw [k6.cell (p := ⟨b, off + (x + 1) * 3, none⟩) (by simp; omega)]; assumption)
                         · (rw [k6.cell (p := ⟨b, off + (x + 1) * 3 + 1, none⟩) (by simp; omega)]; assumption)
                         · (rw [k6.cell (p := ⟨b, off + (x + 1) * 3 + 2, none⟩) (by simp; omega)]; assumption)
                         · (rw [k6.cell (p := ⟨b, off + y * 3, none⟩) (by simp; omega)]; assumption)
                         · (rw [k6.cell (p := ⟨b, off + y * 3 + 1, none⟩) (by simp; omega)]; assumption)
                         · (rw [k6.cell (p := ⟨b, off + y * 3 + 2, none⟩) (by simp; omega)]; assumption)
                         · (rw [k6.cell (p := ⟨b, off + (y + 1) * 3, none⟩) (by simp; omega)]; assumption)
                         · (rw [k6.cell (p := ⟨b, off + (y + 1) * 3 + 1, none⟩) (by simp; omega)]; assumption)
                         · (rw [k6.cell (p := ⟨b, off + (y + 1) * 3 + 2, none⟩) (by simp; omega)]; assumption)))
                    ((go_at_call 30; refine (OV.out _).mono ?_; rintro e' w6 ⟨rfl, k6⟩))
                  all_goals
                    go_wp2_with fail
                    go_meet
                    case rel => exact ⟨rfl, bvia (Below.refl _ _).drew k6⟩
                case rest =>
                  obtain ⟨rfl, k6⟩ := hcut
                  have B6 := bvia HB.out k6
                  clear k6 HB px py pd qx qy qd rx ry rd sx sy sd OV H4 HOV HG HTW HTL B4
                  go_wp2
                  go_roundw
                  case rel =>
                    have hx := HX.out
                    have hy := HY.out
                    exact ⟨k + 1, by subst hy; go_num, by omega, B6⟩
                  case measure =>
                    have hx := HX.out
                    have hy := HY.out
                    simp [intOf]; omega
              · have hyx : ¬ (y : Int) < (x : Int) := by omega
                clear H4 HOV HG HTW HTL B4 hx hy
                go_wp2
                go_roundw
                case rel =>
                  have hx := HX.out
                  exact ⟨j + 1, by subst hx; go_num, by omega, hbel⟩
                case measure =>
                  have hx := HX.out
                  simp [intOf]; omega
          · have hx1 : ¬ (x : Int) + 1 < (N2 : Int) := by omega
            have hxb : x ≤ 100000 := by omega
            have ewr1 : IntKind.i64.wrap ((x : Int) + 1) = (x : Int) + 1 := IntWalk.i64_in _ (by omega)
            have BB := hide (bvia B4.out hbel)
            clear H4 HOV HG HTW HTL B4 hbel hN2 hx
            go_wp2
            go_ret
            exact ⟨rfl, BB.out⟩
  · have HE := hide (clip_wrong hz)
    generalize clipM op A B = cl at *
    obtain ⟨R, z⟩ := cl
    simp only at hz HE C1
    have eR := HE.out
    subst eR
    have hz' : (z != 0) = true := by simpa using hz
    clear hA hB
    go_enter Try.func6, Try.ntmps6
    go_wp2_with fail
    refine (known_yes _).mono ?_
    rintro e w1 ⟨rfl, k1⟩
    have C1' := hide (C1.out w1 k1)
    have B1 := hide k1
    clear k1 C1
    go_wp2_with fail
    refine C1'.out.mono ?_
    rintro e w2 ⟨v1, vs1, rfl, o1, k2⟩
    have B2 := hide (bvia B1.out k2)
    obtain ⟨oa, ocap, rfl, _, _, _⟩ := own_form o1.row
    clear C1' o1 k2 B1
    go_wp2
    go_ret
    exact ⟨rfl, B2.out⟩
end Go.Proofs.Ytnkcbephceollaa
namespace Go.Proofs.Ytnkcbephceollaa
open Go.RowKit
set_option linter.unusedSimpArgs false
set_option linter.unusedVariables false

set_option maxHeartbeats 1000000 in
/-- The error with which two polygons are refused. -/
theorem refusal_any (op : Int) (va vb : Value) (A B : List (List Pt)) (w : World) (h0 : 0 ≤ op) (h4 : op ≤ 4) (hA : PolyAt w va A) (hB : PolyAt w vb B) :
    Calls Try.prog 32 #[.int .i64 op, va, vb] w fun e w' => e = .returned (.int .i64 (bothM A B)) ∧ Below w.heap.size w w' := by
  have l1 : ¬ op < 0 := by omega
  have l2 : ¬ (4 : Int) < op := by omega
  by_cases h : (checkM A).1 = 0
  · have H : Hid (bothM A B = (checkM B).1) := if_neg (by simpa using h)
    go_enter Try.func32, Try.ntmps32
    go_wp2_with fail
    refine (Check_any va A _ hA).mono ?_
    rintro e w1 ⟨rfl, k⟩
    have B1 := hB.later k
    rw [h]
    go_wp2_with fail
    refine (Check_any vb B _ B1).mono ?_
    rintro e w2 ⟨rfl, k2⟩
    have K := bvia k k2
    clear k k2 B1
    go_wp2
    go_ret
    exact ⟨ret_int H.out.symm, K⟩
  · have H : Hid (bothM A B = (checkM A).1) := if_pos h
    have h' : ((checkM A).1 != 0) = true := by simpa using h
    go_enter Try.func32, Try.ntmps32
    go_wp2_with fail
    refine (Check_any va A _ hA).mono ?_
    rintro e w1 ⟨rfl, k⟩
    go_wp2
    go_ret
    exact ⟨ret_int H.out.symm, k⟩
end Go.Proofs.Ytnkcbephceollaa
