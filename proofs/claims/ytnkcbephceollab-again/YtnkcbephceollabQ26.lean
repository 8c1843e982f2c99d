import Derived.Test.YtnkcbephceollabQ25
namespace Go.Proofs.Ytnkcbephceollab
open Go.RowKit
set_option linter.unusedSimpArgs false
set_option linter.unusedVariables false

theorem kn1 : checkM [boxM 0 0 4 4] = (0, 0) := by kernel_rfl
theorem kn2 : checkM [(boxM 0 0 4 4).take 2] = (2, 0) := by kernel_rfl
theorem kn3 : locM [boxM 0 0 4 4] ⟨1, 1, 1⟩ = (1, 0) := by kernel_rfl
theorem kn4 : locM [boxM 0 0 4 4] ⟨5, 1, 1⟩ = (0, 0) := by kernel_rfl
theorem kn5 : clipM 0 [boxM 0 0 4 4] [boxM 2 2 6 6] = ([boxM 2 2 4 4], 0) := by kernel_rfl
theorem kn6 : clipM 2 [boxM 0 0 4 4] [boxM 2 2 6 6] = ([[⟨0, 0, 1⟩, ⟨4, 0, 1⟩, ⟨4, 2, 1⟩, ⟨2, 2, 1⟩, ⟨2, 4, 1⟩, ⟨0, 4, 1⟩]], 0) := by kernel_rfl
theorem kn7 : (pcsM [boxM 0 0 4 4] [boxM 2 2 6 6]).length = 12 := by kernel_rfl
theorem kn8 : bothM [boxM 0 0 4 4] [boxM 2 2 6 6] = 0 := by kernel_rfl

theorem one_at (v : Value) (r : List Pt) (w : World) (hr : RingAt w v r) :
    Calls Try.prog 18 #[v] w fun e w' => ∃ g, e = .returned (.slice (some ⟨g, 0, none⟩) 1 1) ∧ g < w'.heap.size ∧ w'.cell? ⟨g, 0, none⟩ = some v ∧ PolyAt w' (.slice (some ⟨g, 0, none⟩) 1 1) [r] ∧ Below w.heap.size w w' := by
  have hr0 := hr
  obtain ⟨a, cap, rfl, h1, h2, h3⟩ := hr
  go_enter Try.func18, Try.ntmps18
  go_wp2
  refine bodyPost_ret (v := .slice (some ⟨w.heap.size, 0, none⟩) 1 1) (by simp [results, Try.results18, go_sem]) rfl ⟨w.heap.size, rfl, by simp, (World.cell?_alloc_at _ _ _ _ rfl).trans rfl, ?_, (Below.refl _ _).alloc (Nat.le_refl _) _⟩
  refine ⟨some ⟨w.heap.size, 0, none⟩, 1, rfl, Nat.le_refl _, by decide, fun i hi => ?_⟩
  obtain rfl : i = 0 := by simp at hi; omega
  exact ⟨_, 0, _, rfl, by simp, (World.cell?_alloc_at _ _ _ _ rfl).trans rfl, hr0.later ((Below.refl _ _).alloc (Nat.le_refl _) _)⟩
theorem ring_take {w : World} {g n cap k : Nat} {r : List Pt} (h : RingAt w (.slice (some ⟨g, 0, none⟩) n cap) r) (hk : k ≤ n) : RingAt w (.slice (some ⟨g, 0, none⟩) k cap) (r.take k) := by
  obtain ⟨a, cap', e, h1, h2, h3⟩ := h
  simp at e
  obtain ⟨rfl, rfl, rfl⟩ := e
  have hl : (r.take k).length = k := by simp; omega
  refine ⟨_, cap, by rw [hl], by omega, h2, fun j hj => ?_⟩
  rw [hl] at hj
  obtain ⟨b, off, e, hb, hp⟩ := h3 j (by omega)
  refine ⟨b, off, e, hb, ?_⟩
  have : (r.take k).getD j zP = r.getD j zP := by rw [List.getD_eq_getElem?_getD, List.getD_eq_getElem?_getD, List.getElem?_take_of_lt hj]
  rw [this]; exact hp
theorem ring_six (w : World) (p0 p1 p2 p3 p4 p5 : Pt) (t : TypeId) : RingAt (w.alloc (.cells #[.int .i64 p0.x, .int .i64 p0.y, .int .i64 p0.d, .int .i64 p1.x, .int .i64 p1.y, .int .i64 p1.d, .int .i64 p2.x, .int .i64 p2.y, .int .i64 p2.d, .int .i64 p3.x, .int .i64 p3.y, .int .i64 p3.d, .int .i64 p4.x, .int .i64 p4.y, .int .i64 p4.d, .int .i64 p5.x, .int .i64 p5.y, .int .i64 p5.d] t)) (.slice (some ⟨w.heap.size, 0, none⟩) 6 6) [p0, p1, p2, p3, p4, p5] := by
  refine ⟨_, 6, rfl, Nat.le_refl _, by decide, fun j hj => ⟨_, 0, rfl, by simp, ?_⟩⟩
  have h6 : j < 6 := hj
  have hc := fun o => World.cell?_alloc_at (w := w) #[.int .i64 p0.x, .int .i64 p0.y, .int .i64 p0.d, .int .i64 p1.x, .int .i64 p1.y, .int .i64 p1.d, .int .i64 p2.x, .int .i64 p2.y, .int .i64 p2.d, .int .i64 p3.x, .int .i64 p3.y, .int .i64 p3.d, .int .i64 p4.x, .int .i64 p4.y, .int .i64 p4.d, .int .i64 p5.x, .int .i64 p5.y, .int .i64 p5.d] t _ o rfl
  match j, h6 with
  | 0, _ => exact ⟨hc 0, hc 1, hc 2⟩
  | 1, _ => exact ⟨hc 3, hc 4, hc 5⟩
  | 2, _ => exact ⟨hc 6, hc 7, hc 8⟩
  | 3, _ => exact ⟨hc 9, hc 10, hc 11⟩
  | 4, _ => exact ⟨hc 12, hc 13, hc 14⟩
  | 5, _ => exact ⟨hc 15, hc 16, hc 17⟩

set_option maxRecDepth 100000 in
set_option maxHeartbeats 8000000 in
theorem known_yes (w : World) : Calls Try.prog 7 #[] w fun e w' => e = .returned (.bool true) ∧ Below w.heap.size w w' := by
  have K1 := hide kn1
  have K2 := hide kn2
  have K3 := hide kn3
  have K4 := hide kn4
  have K5 := hide kn5
  have K6 := hide kn6
  have K7 := hide kn7
  have K8 := hide kn8
  go_enter Try.func7, Try.ntmps7
  go_wp2_with fail
  refine (box_any 0 0 4 4 _).mono ?_
  rintro e w1 ⟨g1, rfl, r1, k1⟩
  have R1 := hide r1
  clear r1
  go_wp2_with fail
  refine (one_at _ _ _ R1.out).mono ?_
  rintro e w2 ⟨ga, rfl, ga1, ca, pa, k2⟩
  have PA2 := hide pa
  have R2 := hide (R1.out.later k2)
  have B2 := bvia k1 k2
  clear R1 pa k1 k2
  go_wp2_with fail
  refine (box_any 2 2 6 6 _).mono ?_
  rintro e w3 ⟨g2, rfl, r3, k3⟩
  have R3 := hide r3
  clear r3
  go_wp2_with fail
  refine (one_at _ _ _ R3.out).mono ?_
  rintro e w4 ⟨gb, rfl, gb1, cb, pb, k4⟩
  have k34 := bvia k3 k4
  have PB4 := hide pb
  have PA4 := hide (PA2.out.later k34)
  have R4 := hide (R2.out.later k34)
  have ca4 := (k34.cell (p := ⟨ga, 0, none⟩) ga1).trans ca
  have B4 := bvia B2 k34
  have ga4 : ga < w4.heap.size := by have := k34.size; omega
  clear R3 R2 PA2 pb k3 k4 k34 ca B2 cb ga1
  generalize hbA : boxM 0 0 4 4 = bA at *
  generalize hbB : boxM 2 2 6 6 = bB at *
  go_wp2_with fail
  refine (Check_any _ _ _ PA4.out).mono ?_
  rintro e w5 ⟨rfl, k5⟩
  rw [K1.out]
  have PA5 := hide (PA4.out.later k5)
  have PB5 := hide (PB4.out.later k5)
  have R5 := hide (ring_take (R4.out.later k5) (show 2 ≤ 4 by decide))
  have ca5 := (k5.cell (p := ⟨ga, 0, none⟩) ga4).trans ca4
  have B5 := bvia B4 k5
  clear PA4 PB4 R4 ca4 B4 k5
  go_wp2_with fail
  refine (one_at _ _ _ R5.out).mono ?_
  rintro e w6 ⟨gc, rfl, _, _, pc, k6⟩
  have PC6 := hide pc
  have PA6 := hide (PA5.out.later k6)
  have PB6 := hide (PB5.out.later k6)
  have B6 := bvia B5 k6
  clear PA5 PB5 R5 ca5 B5 k6 pc
  go_wp2_with fail
  refine (Check_any _ _ _ PC6.out).mono ?_
  rintro e w7 ⟨rfl, k7⟩
  rw [K2.out]
  have PA7 := hide (PA6.out.later k7)
  have PB7 := hide (PB6.out.later k7)
  have B7 := bvia B6 k7
  clear PA6 PB6 PC6 B6 k7
  go_wp2_with fail
  refine (at_any 1 1 _).mono ?_
  rintro e w8 ⟨rfl, k8⟩
  have PA8 := hide (PA7.out.later k8)
  have PB8 := hide (PB7.out.later k8)
  have B8 := bvia B7 k8
  clear PA7 PB7 B7 k8
  go_wp2_with fail
  refine (Locate_any _ _ ⟨1, 1, 1⟩ _ PA8.out).mono ?_
  rintro e w9 ⟨rfl, k9⟩
  rw [K3.out]
  have PA9 := hide (PA8.out.later k9)
  have PB9 := hide (PB8.out.later k9)
  have B9 := bvia B8 k9
  clear PA8 PB8 B8 k9
  go_wp2_with fail
  refine (at_any 5 1 _).mono ?_
  rintro e w10 ⟨rfl, k10⟩
  have PA10 := hide (PA9.out.later k10)
  have PB10 := hide (PB9.out.later k10)
  have B10 := bvia B9 k10
  clear PA9 PB9 B9 k10
  go_wp2_with fail
  refine (Locate_any _ _ ⟨5, 1, 1⟩ _ PA10.out).mono ?_
  rintro e w11 ⟨rfl, k11⟩
  rw [K4.out]
  have PA11 := hide (PA10.out.later k11)
  have PB11 := hide (PB10.out.later k11)
  have B11 := bvia B10 k11
  clear PA10 PB10 B10 k11
  go_wp2_with fail
  refine (box_any 2 2 4 4 _).mono ?_
  rintro e w12 ⟨g3, rfl, r12, k12⟩
  have R12 := hide r12
  have PA12 := hide (PA11.out.later k12)
  have PB12 := hide (PB11.out.later k12)
  have B12 := bvia B11 k12
  clear PA11 PB11 B11 k12 r12
  go_wp2_with fail
  refine (one_at _ _ _ R12.out).mono ?_
  rintro e w13 ⟨gd, rfl, _, _, pd, k13⟩
  have PD13 := hide pd
  have PA13 := hide (PA12.out.later k13)
  have PB13 := hide (PB12.out.later k13)
  have B13 := bvia B12 k13
  clear PA12 PB12 B12 k13 pd R12
  go_wp2_with fail
  refine (clips_yes 0 _ _ _ _ _ _ _ PA13.out PB13.out PD13.out K5.out (by decide)).mono ?_
  rintro e w14 ⟨rfl, k14⟩
  have PA14 := hide (PA13.out.later k14)
  have PB14 := hide (PB13.out.later k14)
  have B14 := bvia B13 k14
  clear PA13 PB13 PD13 B13 k14
  go_wp2_with fail
  refine (at_any 0 0 _).mono ?_
  rintro e w15 ⟨rfl, k15⟩
  go_wp2_with fail
  refine (at_any 4 0 _).mono ?_
  rintro e w16 ⟨rfl, k16⟩
  go_wp2_with fail
  refine (at_any 4 2 _).mono ?_
  rintro e w17 ⟨rfl, k17⟩
  go_wp2_with fail
  refine (at_any 2 2 _).mono ?_
  rintro e w18 ⟨rfl, k18⟩
  go_wp2_with fail
  refine (at_any 2 4 _).mono ?_
  rintro e w19 ⟨rfl, k19⟩
  go_wp2_with fail
  refine (at_any 0 4 _).mono ?_
  rintro e w20 ⟨rfl, k20⟩
  have kk := bvia (bvia (bvia (bvia (bvia k15 k16) k17) k18) k19) k20
  have PA20 := hide (PA14.out.later kk)
  have PB20 := hide (PB14.out.later kk)
  have B20 := bvia B14 kk
  clear PA14 PB14 B14 kk k15 k16 k17 k18 k19 k20
  have R20 := hide (ring_six w20 ⟨0, 0, 1⟩ ⟨4, 0, 1⟩ ⟨4, 2, 1⟩ ⟨2, 2, 1⟩ ⟨2, 4, 1⟩ ⟨0, 4, 1⟩ 29)
  have kA : Hid (Below w20.heap.size w20 (w20.alloc (.cells #[.int .i64 0, .int .i64 0, .int .i64 1, .int .i64 4, .int .i64 0, .int .i64 1, .int .i64 4, .int .i64 2, .int .i64 1, .int .i64 2, .int .i64 2, .int .i64 1, .int .i64 2, .int .i64 4, .int .i64 1, .int .i64 0, .int .i64 4, .int .i64 1] 29))) := hide ((Below.refl _ _).alloc (Nat.le_refl _) _)
  go_wp2_with fail
  refine (one_at _ _ _ R20.out).mono ?_
  rintro e w21 ⟨ge, rfl, _, _, pe, k21⟩
  have k22 := bvia kA.out k21
  have PE21 := hide pe
  have PA21 := hide (PA20.out.later k22)
  have PB21 := hide (PB20.out.later k22)
  have B21 := bvia B20 k22
  clear PA20 PB20 B20 k21 k22 pe R20 kA
  go_wp2_with fail
  refine (clips_yes 2 _ _ _ _ _ _ _ PA21.out PB21.out PE21.out K6.out (by decide)).mono ?_
  rintro e w23 ⟨rfl, k23⟩
  have PA23 := hide (PA21.out.later k23)
  have PB23 := hide (PB21.out.later k23)
  have B23 := bvia B21 k23
  clear PA21 PB21 PE21 B21 k23
  go_wp2_with fail
  refine (Pieces_any _ _ _ _ _ PA23.out PB23.out).mono ?_
  rintro e w24 ⟨v', rfl, o24, k24⟩
  rw [K8.out]
  have B24 := bvia B23 k24
  obtain ⟨la, lcap, rfl, _, _, _⟩ := own_form o24
  rw [K7.out]
  clear o24 k24 PA23 PB23 B23
  go_wp2
  go_ret
  exact ⟨rfl, B24⟩
theorem clip_err {op : Int} {A B : List (List Pt)} (h : (clipM op A B).2 ≠ 0) : (clipM op A B).1 = [] := by
  unfold clipM at h ⊢
  by_cases c : op < 0 ∨ op > 4
  · rw [if_pos c]
  · rw [if_neg c] at h ⊢
    by_cases d : bothM A B ≠ 0
    · rw [if_pos d]
    · rw [if_neg d] at h; exact absurd rfl h
def sumL (R : List (List Pt)) (i : Nat) : Nat := ((R.take i).map List.length).sum
theorem sumL_succ {R : List (List Pt)} {i : Nat} (hi : i < R.length) : sumL R (i + 1) = sumL R i + (R.getD i []).length := by
  unfold sumL
  rw [List.take_succ_eq_append_getElem hi, List.map_append, List.sum_append, List.getD_eq_getElem?_getD, List.getElem?_eq_getElem hi]
  simp
theorem sumL_all (R : List (List Pt)) : sumL R R.length = (R.map List.length).sum := by unfold sumL; rw [List.take_length]
theorem poly_none (w : World) : PolyAt w (.slice none 0 0) [] := ⟨none, 0, rfl, Nat.le_refl _, by decide, fun i hi => by simp at hi⟩

set_option maxRecDepth 100000 in
set_option maxHeartbeats 4000000 in
theorem again_walk0 (op : Int) (va vb : Value) (A B : List (List Pt)) (w : World) (hA : PolyAt w va A) (hB : PolyAt w vb B)
    (AG : (clipM op A B).2 = 0 → ∀ C, C = (clipM op A B).1 → C.length ≤ 4 → (C.map List.length).sum ≤ 12 → (∀ r ∈ C, ∀ p ∈ r, p.d = 1) → checkM C = (0, 0) ∧ clipM 1 C [] = (C, 0) ∧ clipM 4 [] C = (C, 0) ∧ clipM 0 C C = (C, 0)) :
    Calls Try.prog 3 #[.int .i64 op, va, vb] w fun e w' => e = .returned (.bool true) ∧ Below w.heap.size w w' := by
  have C1 := hide (fun wz (kz : Below w.heap.size w wz) => Clip_any op va vb A B wz (hA.later kz) (hB.later kz))
  by_cases hz : (clipM op A B).2 = 0
  · have HAG := hide (AG hz)
    have hFW := clip_few op A B
    clear AG hA hB
    generalize clipM op A B = cl at *
    obtain ⟨R, z⟩ := cl
    simp only at hz HAG hFW C1
    subst hz
    have hRl : R.length ≤ 100000 := hFW.few
    have HSH := hide (fun i (hi : i < R.length) => (show (R.getD i []).length ≤ 1000000 by have := hFW.short i hi; omega))
    clear hFW
    go_enter Try.func3, Try.ntmps3
    go_wp2_with fail
    refine (known_yes _).mono ?_
    rintro e w1 ⟨rfl, k1⟩
    have C1' := hide (C1.out w1 k1)
    have B1 := hide k1
    clear k1 C1
    go_wp2_with fail
    refine C1'.out.mono ?_
    rintro e w2 ⟨v1, vs1, rfl, o1, k2⟩
    have P2 := hide (o1.poly (by unfold maxLen; omega))
    have B2 := hide (bvia B1.out k2)
    clear C1' o1 k2 B1
    have CP := hide (fun wz (kz : Below w2.heap.size w2 wz) => P2.out.later kz)
    obtain ⟨ra, rcap, rfl, q1, q2, q3⟩ := P2.out
    unfold maxLen at q2
    have H3 := hide q3
    clear q3 P2
    go_wp2_with fail
    go_loopw [10, 11, 12] (fun nv iv _ w' => ∃ i N : Nat, nv = .int .i64 N ∧ iv = .int .i64 i ∧ i ≤ R.length ∧ N ≤ 1000000 * i ∧ Hid (N = sumL R i) ∧ Hid (∀ j, j < i → ∀ p ∈ R.getD j [], p.d = 1) ∧ Below w2.heap.size w2 w') (fun _ iv _ _ => R.length - (intOf iv).toNat)
    case atStart => exact ⟨0, 0, rfl, rfl, Nat.zero_le _, Nat.le_refl _, rfl, hide (fun j hj => by omega), Below.refl _ _⟩
    case round =>
      obtain ⟨i, N, rfl, rfl, hi, hN, HN, HD, hbel⟩ := hrel
      by_cases hlt : i < R.length
      · obtain ⟨b, off, rv, rfl, hb, hc, hring⟩ := H3.out i hlt
        have hc' := (hbel.cell (p := ⟨b, off + i, none⟩) hb).trans hc
        have hi0' : (0 : Int) ≤ (i : Int) := Int.natCast_nonneg _
        have hi1' : (i : Int) < (R.length : Int) := by omega
        have HS := hide (sumL_succ hlt)
        have hsh := HSH.out i hlt
        obtain ⟨a', cap', rfl, g1, g2, g3⟩ := hring
        unfold maxLen at g2
        have HC := hide (fun wz (kz : Below w2.heap.size w2 wz) => ((kz.cell (p := ⟨b, off + i, none⟩) hb).trans hc))
        have HG := hide g3
        have HB := hide hbel
        have HDr : Hid (∀ j, j < i + 1 → j ≠ i → ∀ p ∈ R.getD j [], p.d = 1) := hide (fun j h1 h2 => HD.out j (by omega))
        have HR : Hid (∀ r, (∀ p ∈ R.getD i [], p.d = 1) → r = R.getD i [] → ∀ j, j < i + 1 → ∀ p ∈ R.getD j [], p.d = 1) := hide (fun r hr _ j hj => by
          by_cases e : j = i
          · subst e; exact hr
          · exact HDr.out j hj e)
        clear hbel H3 HSH HD HDr hc g3
        generalize R.getD i [] = r at *
        have hNs : (N : Int) ≤ 100000000000 := by omega
        have ewr : IntKind.i64.wrap ((N : Int) + (r.length : Int)) = ((N + r.length : Nat) : Int) := by rw [Int.natCast_add]; exact IntWalk.i64_in _ (by omega)
        go_wp2_with fail
        go_loopw [12] (fun kv w' => ∃ k : Nat, kv = .int .i64 k ∧ k ≤ r.length ∧ Hid (∀ j, j < k → (r.getD j zP).d = 1) ∧ Below w2.heap.size w2 w') (fun kv _ => r.length - (intOf kv).toNat)
        case atStart => exact ⟨0, rfl, Nat.zero_le _, hide (fun j hj => by omega), HB.out⟩
        case round =>
          clear HB
          obtain ⟨k, rfl, hk, HK, hbel⟩ := hrel
          have hcell := HC.out _ hbel
          by_cases hkt : k < r.length
          · obtain ⟨pb, po, rfl, hpb, hp⟩ := HG.out k hkt
            obtain ⟨px, py, pd⟩ := hp.later hbel hpb
            have hk0 : (0 : Int) ≤ (k : Int) := Int.natCast_nonneg _
            have hk1 : (k : Int) < (r.length : Int) := by omega
            have HQ : Hid (r.getD k zP = r.getD k zP) := rfl
            by_cases hd : (r.getD k zP).d = 1
            · have HK' : Hid (∀ j, j < k + 1 → (r.getD j zP).d = 1) := hide (fun j hj => by
                by_cases e : j = k
                · subst e; exact hd
                · exact HK.out j (by omega))
              rw [hd] at pd
              clear HG HC hp px py HK HQ hd HAG CP B2 HR HS HN
              go_wp2
              go_roundw
              case rel => exact ⟨k + 1, by go_num, by omega, HK', hbel⟩
              case measure => simp [intOf]; omega
            · have BB := hide (bvia B2.out hbel)
              generalize (r.getD k zP).d = dd at *
              clear HG HC hp px py HK HQ HAG CP B2 HR HS HN
              go_wp2
              go_ret
              exact ⟨rfl, BB.out⟩
          · have hk1 : ¬ (k : Int) < (r.length : Int) := by omega
            have HD' : Hid (∀ j, j < i + 1 → ∀ p ∈ R.getD j [], p.d = 1) := hide (HR.out r (fun p hp => by
              obtain ⟨j, hj, e⟩ := List.getElem_of_mem hp
              have := HK.out j (by omega)
              rw [List.getD_eq_getElem?_getD, List.getElem?_eq_getElem hj] at this
              rw [← e]; exact this) rfl)
            have HN' : Hid (N + r.length = sumL R (i + 1)) := by
              have := HS.out
              rw [← HN.out] at this
              exact hide this.symm
            clear HG HC HK HAG CP B2 HR HS HN
            go_wp2
            go_roundw
            case rel => exact ⟨i + 1, N + r.length, by go_num, by go_num, by omega, by omega, HN', HD', hbel⟩
            case measure => simp [intOf]; omega
      · have hn1 : ¬ (i : Int) < (R.length : Int) := by omega
        have ei : i = R.length := by omega
        subst ei
        have HSum := hide (HN.out.trans (sumL_all R))
        have HDall : Hid (∀ r ∈ R, ∀ p ∈ r, p.d = 1) := hide (fun r hr p hp => by
          obtain ⟨j, hj, e⟩ := List.getElem_of_mem hr
          have g : R.getD j [] = r := by rw [List.getD_eq_getElem?_getD, List.getElem?_eq_getElem hj]; exact e
          exact HD.out j hj p (by rw [g]; exact hp))
        have BB := hide (bvia B2.out hbel)
        have HB := hide hbel
        clear H3 HSH HN HD hbel B2
        by_cases c4 : R.length ≤ 4
        · by_cases c12 : N ≤ 12
          · obtain ⟨a1, a2, a3, a4⟩ := HAG.out R rfl c4 (by rw [← HSum.out]; exact c12) HDall.out
            have K1 := hide (fun wz (kz : Below w2.heap.size w2 wz) => Check_any _ R wz (CP.out wz kz))
            rw [a1] at K1
            have K2 := hide (fun wz (kz : Below w2.heap.size w2 wz) => clips_yes 1 _ (.slice none 0 0) _ R [] R wz (CP.out wz kz) (poly_none wz) (CP.out wz kz) a2 (by omega))
            have K3 := hide (fun wz (kz : Below w2.heap.size w2 wz) => clips_yes 4 (.slice none 0 0) _ _ [] R R wz (poly_none wz) (CP.out wz kz) (CP.out wz kz) a3 (by omega))
            have K4 := hide (fun wz (kz : Below w2.heap.size w2 wz) => clips_yes 0 _ _ _ R R R wz (CP.out wz kz) (CP.out wz kz) (CP.out wz kz) a4 (by omega))
            have h4i : ¬ (4 : Int) < (R.length : Int) := by omega
            have h12i : ¬ (12 : Int) < (N : Int) := by omega
            have K1' := hide (K1.out wr HB.out)
            clear a1 a2 a3 a4 HSum HDall HAG CP K1
            go_wp2_with fail
            refine K1'.out.mono ?_
            rintro e w3 ⟨rfl, k3⟩
            have HB3 := hide (bvia HB.out k3)
            have BB3 := hide (bvia BB.out k3)
            have K2' := hide (K2.out w3 HB3.out)
            clear K1' K2 k3 HB BB
            go_wp2_with fail
            refine K2'.out.mono ?_
            rintro e w4 ⟨rfl, k4⟩
            have HB4 := hide (bvia HB3.out k4)
            have BB4 := hide (bvia BB3.out k4)
            have K3' := hide (K3.out w4 HB4.out)
            clear K2' K3 k4 HB3 BB3
            go_wp2_with fail
            refine K3'.out.mono ?_
            rintro e w5 ⟨rfl, k5⟩
            have HB5 := hide (bvia HB4.out k5)
            have BB5 := hide (bvia BB4.out k5)
            have K4' := hide (K4.out w5 HB5.out)
            clear K3' K4 k5 HB4 BB4
            go_wp2_with fail
            refine K4'.out.mono ?_
            rintro e w6 ⟨rfl, k6⟩
            have BB6 := hide (bvia BB5.out k6)
            clear K4' k6 HB5 BB5
            go_wp2
            go_ret
            exact ⟨rfl, BB6.out⟩
          · have h4i : ¬ (4 : Int) < (R.length : Int) := by omega
            have h12i : (12 : Int) < (N : Int) := by omega
            clear HSum HDall HAG CP HB
            go_wp2
            go_ret
            exact ⟨rfl, BB.out⟩
        · have h4i : (4 : Int) < (R.length : Int) := by omega
          clear HSum HDall HAG CP HB
          go_wp2
          go_ret
          exact ⟨rfl, BB.out⟩
  · have HE := hide (clip_err hz)
    clear AG
    generalize clipM op A B = cl at *
    obtain ⟨R, z⟩ := cl
    simp only at hz HE C1
    have eR := HE.out
    subst eR
    have hz' : (z != 0) = true := by simpa using hz
    clear hA hB
    go_enter Try.func3, Try.ntmps3
    go_wp2_with fail
    refine (known_yes _).mono ?_
    rintro e w1 ⟨rfl, k1⟩
    have C1' := hide (C1.out w1 k1)
    have B1 := hide k1
    clear k1 C1
    go_wp2_with fail
    refine C1'.out.mono ?_
    rintro e w2 ⟨v1, vs1, rfl, o1, k2⟩
    have B2 := hide (bvia B1.out k2)
    obtain ⟨oa, ocap, rfl, _, _, _⟩ := own_form o1.row
    clear C1' o1 k2 B1
    go_wp2
    go_ret
    exact ⟨rfl, B2.out⟩
end Go.Proofs.Ytnkcbephceollab
