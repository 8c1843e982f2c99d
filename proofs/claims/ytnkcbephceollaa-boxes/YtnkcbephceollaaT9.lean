import Derived.Test.YtnkcbephceollaaT8
namespace Go.Proofs.Ytnkcbephceollaa
open Go.RowKit
set_option linter.unusedSimpArgs false
set_option linter.unusedVariables false

theorem poly1b {w : World} {v : Value} {r : List Pt} {g : Nat} (h : RingAt w v r) (t : TypeId) (hg : g = w.heap.size) : PolyAt (w.alloc (.cells #[v] t)) (.slice (some ⟨g, 0, none⟩) 1 1) [r] := by
  subst hg
  refine ⟨some ⟨w.heap.size, 0, none⟩, 1, rfl, Nat.le_refl _, by decide, fun i hi => ?_⟩
  obtain rfl : i = 0 := by simp at hi; omega
  exact ⟨_, 0, _, rfl, by simp, (World.cell?_alloc_at _ _ _ _ rfl).trans rfl, h.later ((Below.refl _ _).alloc (Nat.le_refl _) _)⟩
theorem poly2b {w : World} {v1 v2 : Value} {r1 r2 : List Pt} {g : Nat} (h1 : RingAt w v1 r1) (h2 : RingAt w v2 r2) (t : TypeId) (hg : g = w.heap.size) : PolyAt (w.alloc (.cells #[v1, v2] t)) (.slice (some ⟨g, 0, none⟩) 2 2) [r1, r2] := by
  subst hg; exact poly2 h1 h2 t
theorem poly_nil (w : World) : PolyAt w (.slice none 0 0) [] := ⟨none, 0, rfl, Nat.le_refl _, by decide, fun i hi => by simp at hi⟩
theorem ring_three (w : World) (p0 p1 p2 : Pt) (t : TypeId) : RingAt (w.alloc (.cells #[.int .i64 p0.x, .int .i64 p0.y, .int .i64 p0.d, .int .i64 p1.x, .int .i64 p1.y, .int .i64 p1.d, .int .i64 p2.x, .int .i64 p2.y, .int .i64 p2.d] t)) (.slice (some ⟨w.heap.size, 0, none⟩) 3 3) [p0, p1, p2] := by
  refine ⟨_, 3, rfl, Nat.le_refl _, by decide, fun j hj => ⟨_, 0, rfl, by simp, ?_⟩⟩
  have h3 : j < 3 := hj
  have hc := fun o => World.cell?_alloc_at (w := w) #[.int .i64 p0.x, .int .i64 p0.y, .int .i64 p0.d, .int .i64 p1.x, .int .i64 p1.y, .int .i64 p1.d, .int .i64 p2.x, .int .i64 p2.y, .int .i64 p2.d] t _ o rfl
  match j, h3 with
  | 0, _ => exact ⟨hc 0, hc 1, hc 2⟩
  | 1, _ => exact ⟨hc 3, hc 4, hc 5⟩
  | 2, _ => exact ⟨hc 6, hc 7, hc 8⟩
theorem ring_seven (w : World) (p0 p1 p2 p3 p4 p5 p6 : Pt) (t : TypeId) : RingAt (w.alloc (.cells #[.int .i64 p0.x, .int .i64 p0.y, .int .i64 p0.d, .int .i64 p1.x, .int .i64 p1.y, .int .i64 p1.d, .int .i64 p2.x, .int .i64 p2.y, .int .i64 p2.d, .int .i64 p3.x, .int .i64 p3.y, .int .i64 p3.d, .int .i64 p4.x, .int .i64 p4.y, .int .i64 p4.d, .int .i64 p5.x, .int .i64 p5.y, .int .i64 p5.d, .int .i64 p6.x, .int .i64 p6.y, .int .i64 p6.d] t)) (.slice (some ⟨w.heap.size, 0, none⟩) 7 7) [p0, p1, p2, p3, p4, p5, p6] := by
  refine ⟨_, 7, rfl, Nat.le_refl _, by decide, fun j hj => ⟨_, 0, rfl, by simp, ?_⟩⟩
  have h7 : j < 7 := hj
  have hc := fun o => World.cell?_alloc_at (w := w) #[.int .i64 p0.x, .int .i64 p0.y, .int .i64 p0.d, .int .i64 p1.x, .int .i64 p1.y, .int .i64 p1.d, .int .i64 p2.x, .int .i64 p2.y, .int .i64 p2.d, .int .i64 p3.x, .int .i64 p3.y, .int .i64 p3.d, .int .i64 p4.x, .int .i64 p4.y, .int .i64 p4.d, .int .i64 p5.x, .int .i64 p5.y, .int .i64 p5.d, .int .i64 p6.x, .int .i64 p6.y, .int .i64 p6.d] t _ o rfl
  match j, h7 with
  | 0, _ => exact ⟨hc 0, hc 1, hc 2⟩
  | 1, _ => exact ⟨hc 3, hc 4, hc 5⟩
  | 2, _ => exact ⟨hc 6, hc 7, hc 8⟩
  | 3, _ => exact ⟨hc 9, hc 10, hc 11⟩
  | 4, _ => exact ⟨hc 12, hc 13, hc 14⟩
  | 5, _ => exact ⟨hc 15, hc 16, hc 17⟩
  | 6, _ => exact ⟨hc 18, hc 19, hc 20⟩

set_option maxRecDepth 100000 in
set_option maxHeartbeats 8000000 in
theorem boxes_walk (a0 : Option Addr) (len0 cap0 : Nat) (z0 : List Int) (w : World) (w0 : IsRow .i64 w a0 len0 cap0 z0) :
    Calls Try.prog 5 #[.slice a0 len0 cap0] w fun e w' => e = .returned (.bool true) ∧ Below w.heap.size w w' := by
  have hrow : RowAt w a0 len0 := fun k hk => row_at w0 k hk
  have hlen := row_len w0
  have CR0 := hide (raw_any a0 len0 cap0 0 (by decide) w hrow hlen)
  have CR4 := hide (fun wz (kz : Below w.heap.size w wz) => raw_any a0 len0 cap0 4 (by decide) wz (hrow.later kz) hlen)
  rw [show ((0 : Nat) : Int) = 0 from rfl] at CR0
  rw [show ((4 : Nat) : Int) = 4 from rfl] at CR4
  clear w0 hrow
  go_enter Try.func5, Try.ntmps5
  go_wp2_with fail
  refine CR0.out.mono ?_
  rintro e1 w1 ⟨a, b, c, d, rfl, ⟨ha0, ha1, hac, hc⟩, ⟨hb0, hb1, hbd, hd⟩, k1⟩
  have CR4' := hide (CR4.out w1 k1)
  have B1 := hide k1
  clear CR0 CR4 k1
  go_wp2_with fail
  refine CR4'.out.mono ?_
  rintro e1 w2 ⟨e, f, g, h, rfl, ⟨he0, he1, heg, hg⟩, ⟨hf0, hf1, hfh, hh⟩, k2⟩
  have B2 := hide (bvia B1.out k2)
  clear CR4' k2 B1
  have ga : Gc a := ⟨by omega, by omega⟩
  have gb : Gc b := ⟨by omega, by omega⟩
  have gc : Gc c := ⟨by omega, by omega⟩
  have gd : Gc d := ⟨by omega, by omega⟩
  have ge : Gc e := ⟨by omega, by omega⟩
  have gf : Gc f := ⟨by omega, by omega⟩
  have gg : Gc g := ⟨by omega, by omega⟩
  have gh : Gc h := ⟨by omega, by omega⟩
  have M1 := hide (and_box hac heg hbd hfh ga gb gc gd ge gf gg gh)
  have M2 := hide (box_one hac hbd ga gb gc gd one_ok1)
  have M3 := hide (box_one hac hbd ga gb gc gd one_ok2)
  have M4 := hide (box_one hac hbd ga gb gc gd one_ok3)
  have M5 := hide (box_none hac hbd ga gb gc gd one_ok4)
  have M6 := hide (box_none hac hbd ga gb gc gd one_ok5)
  have M7 := hide (touch_box hac hbd ga gb gc gd ⟨by omega, by omega⟩ ⟨by omega, by omega⟩)
  have M8 := hide (torn_box (a := a) (b := b) (by omega) (by omega))
  rw [box_back] at M2 M3 M5
  have e4 : phR (FF a c (c + 1) (c + 2)) (FF b d (d + 1) (d + 2)) [] = [] := rfl
  rw [e4] at M4 M6
  clear ga gb gc gd ge gf gg gh e4
  -- the boxes
  go_wp2_with fail
  refine (box_any a b c d _).mono ?_
  rintro e1 w3 ⟨q3, rfl, r3, k3⟩
  have B3 := hide (bvia B2.out k3)
  have C3 := hide (one_at _ _ _ r3)
  clear k3 B2 r3
  go_wp2_with fail
  refine C3.out.mono ?_
  rintro e1 w4 ⟨pg, rfl, hpg, hpc, p4, k4⟩
  have P4 := hide p4
  have HPC := hide hpc
  have B4 := hide (bvia B3.out k4)
  clear p4 hpc k4 B3 C3
  go_wp2_with fail
  refine (box_any e f g h _).mono ?_
  rintro e1 w5 ⟨q5, rfl, r5, k5⟩
  have P5 := hide (P4.out.later k5)
  have HPC5 : Hid (w5.cell? ⟨pg, 0, none⟩ = some (.slice (some ⟨q3, 0, none⟩) 4 4)) := hide ((k5.cell (p := ⟨pg, 0, none⟩) hpg).trans HPC.out)
  have hpg5 : pg < w5.heap.size := Nat.lt_of_lt_of_le hpg k5.size
  have B5 := hide (bvia B4.out k5)
  have C5 := hide (one_any _ _ _ r5)
  clear k5 B4 P4 HPC hpg r5
  go_wp2_with fail
  refine C5.out.mono ?_
  rintro e1 w6 ⟨qv, rfl, p6, k6⟩
  have P6 := hide (P5.out.later k6)
  have Q6 := hide p6
  have HPC6 : Hid (w6.cell? ⟨pg, 0, none⟩ = some (.slice (some ⟨q3, 0, none⟩) 4 4)) := hide ((k6.cell (p := ⟨pg, 0, none⟩) hpg5).trans HPC5.out)
  have hpg6 : pg < w6.heap.size := Nat.lt_of_lt_of_le hpg5 k6.size
  have B6 := hide (bvia B5.out k6)
  clear k6 B5 P5 HPC5 hpg5 p6 C5
  go_wp2_with fail
  refine (larger_any a e _).mono ?_
  rintro e1 w' ⟨rfl, hw⟩
  have hw2 := hw.symm
  subst hw2
  go_wp2_with fail
  refine (larger_any b f _).mono ?_
  rintro e1 w' ⟨rfl, hw⟩
  have hw2 := hw.symm
  subst hw2
  go_wp2_with fail
  refine (smaller_any c g _).mono ?_
  rintro e1 w' ⟨rfl, hw⟩
  have hw2 := hw.symm
  subst hw2
  go_wp2_with fail
  refine (smaller_any d h _).mono ?_
  rintro e1 w' ⟨rfl, hw⟩
  have hw2 := hw.symm
  subst hw2
  have HWT := hide (show wantM a b c d e f g h = if mx a e < mn c g ∧ mx b f < mn d h then [boxM (mx a e) (mx b f) (mn c g) (mn d h)] else [] from rfl)
  have hwl : (wantM a b c d e f g h).length ≤ 1 := by unfold wantM; split <;> simp
  generalize wantM a b c d e f g h = want at *
  generalize mx a e = x0 at *
  generalize mx b f = y0 at *
  generalize mn c g = x1 at *
  generalize mn d h = y1 at *
  go_upto_region 10 with fail
  go_cut [74] (fun cv w' => cv = .bool (decide (x0 < x1 ∧ y0 < y1)) ∧ w' = w6)
  case first =>
    clear M1 M2 M3 M4 M5 M6 M7 M8 P6 Q6 HPC6 B6 HWT
    by_cases hx : x0 < x1
    · by_cases hy : y0 < y1
      · go_wp2
        go_meet
        case rel => exact ⟨by rw [decide_eq_true (show x0 < x1 ∧ y0 < y1 from ⟨hx, hy⟩)], rfl⟩
      · have hy' : y1 ≤ y0 := by omega
        go_wp2
        go_meet
        case rel => exact ⟨by rw [decide_eq_false (show ¬ (x0 < x1 ∧ y0 < y1) from by omega)], rfl⟩
    · have hx' : x1 ≤ x0 := by omega
      go_wp2
      go_meet
      case rel => exact ⟨by rw [decide_eq_false (show ¬ (x0 < x1 ∧ y0 < y1) from by omega)], rfl⟩
  case rest =>
  obtain ⟨rfl, hw⟩ := hcut
  have hw2 := hw.symm
  subst hw2
  obtain ⟨bq, hbq⟩ : ∃ q : Bool, decide (x0 < x1 ∧ y0 < y1) = q := ⟨_, rfl⟩
  rw [hbq]
  go_upto_if 74 with fail
  go_cut [17] (fun wv w' => PolyAt w' wv want ∧ Below w6.heap.size w6 w')
  case first =>
    clear M1 M2 M3 M4 M5 M6 M7 M8 P6 Q6 HPC6 B6
    cases bq
    · have HE : Hid (want = []) := by rw [HWT.out, if_neg (of_decide_eq_false hbq)]; exact hide rfl
      clear hbq
      go_wp2
      go_meet
      case rel => exact ⟨by rw [HE.out]; exact poly_nil _, Below.refl _ _⟩
    · have HE : Hid (want = [boxM x0 y0 x1 y1]) := by rw [HWT.out, if_pos (of_decide_eq_true hbq)]; exact hide rfl
      clear hbq
      go_wp2_with fail
      refine (box_any x0 y0 x1 y1 _).mono ?_
      rintro e1 w7 ⟨q7, rfl, r7, k7⟩
      have C7 := hide (one_any _ _ _ r7)
      have B7 := hide k7
      clear r7 k7
      go_wp2_with fail
      refine C7.out.mono ?_
      rintro e1 w8 ⟨v8, rfl, p8, k8⟩
      have P8 := hide p8
      have B8 := hide (bvia B7.out k8)
      clear p8 k8 B7 C7
      go_wp2
      go_meet
      case rel => exact ⟨by rw [HE.out]; exact P8.out, B8.out⟩
  case rest =>
  obtain ⟨pw, k7⟩ := hcut
  have HP : Hid (∀ wz, Below wc.heap.size wc wz → PolyAt wz (.slice (some ⟨pg, 0, none⟩) 1 1) [boxM a b c d]) := hide fun wz kz => (P6.out.later k7).later kz
  have HPC7 : Hid (∀ wz, Below wc.heap.size wc wz → wz.cell? ⟨pg, 0, none⟩ = some (.slice (some ⟨q3, 0, none⟩) 4 4)) := hide fun wz kz => (kz.cell (p := ⟨pg, 0, none⟩) (Nat.lt_of_lt_of_le hpg6 k7.size)).trans ((k7.cell (p := ⟨pg, 0, none⟩) hpg6).trans HPC6.out)
  have B7 := hide (bvia B6.out k7)
  have CA := hide (clips_yes 0 _ _ _ [boxM a b c d] [boxM e f g h] want wc (HP.out wc (Below.refl _ _)) (Q6.out.later k7) pw M1.out (by omega))
  clear P6 Q6 HPC6 B6 k7 pw M1 HWT
  go_wp2_with fail
  refine CA.out.mono ?_
  rintro e1 v1 ⟨rfl, k1⟩
  have K1 := hide k1
  have CB := hide (clips_yes 0 _ _ _ [boxM a b c d] [boxM a b c d] [boxM a b c d] v1 (HP.out v1 k1) (HP.out v1 k1) (HP.out v1 k1) M2.out (by simp))
  clear CA k1 M2
  go_wp2_with fail
  refine CB.out.mono ?_
  rintro e1 v2 ⟨rfl, k2⟩
  have K2 := hide (bvia K1.out k2)
  have CC := hide (clips_yes 1 _ _ _ [boxM a b c d] [boxM a b c d] [boxM a b c d] v2 (HP.out v2 K2.out) (HP.out v2 K2.out) (HP.out v2 K2.out) M3.out (by simp))
  clear CB k2 K1 M3
  go_wp2_with fail
  refine CC.out.mono ?_
  rintro e1 v3 ⟨rfl, k3⟩
  have K3 := hide (bvia K2.out k3)
  have CD := hide (clips_yes 4 _ _ _ [boxM a b c d] [boxM a b c d] [] v3 (HP.out v3 K3.out) (HP.out v3 K3.out) (poly_nil _) M4.out (by decide))
  clear CC k3 K2 M4
  go_wp2_with fail
  refine CD.out.mono ?_
  rintro e1 v4 ⟨rfl, k4⟩
  have K4 := hide (bvia K3.out k4)
  have CE := hide (clips_yes 2 _ _ _ [boxM a b c d] [] [boxM a b c d] v4 (HP.out v4 K4.out) (poly_nil _) (HP.out v4 K4.out) M5.out (by simp))
  clear CD k4 K3 M5
  go_wp2_with fail
  refine CE.out.mono ?_
  rintro e1 v5 ⟨rfl, k5⟩
  have K5 := hide (bvia K4.out k5)
  have CF := hide (clips_yes 3 _ _ _ [boxM a b c d] [] [] v5 (HP.out v5 K5.out) (poly_nil _) (poly_nil _) M6.out (by decide))
  clear CE k5 K4 M6
  go_wp2_with fail
  refine CF.out.mono ?_
  rintro e1 v6 ⟨rfl, k6⟩
  have K6 := hide (bvia K5.out k6)
  have CG := hide (clips_yes 1 _ _ _ [] [] [] v6 (poly_nil _) (poly_nil _) (poly_nil _) none_ok (by decide))
  clear CF k6 K5
  go_wp2_with fail
  refine CG.out.mono ?_
  rintro e1 v7 ⟨rfl, k7⟩
  have K7 := hide (bvia K6.out k7)
  clear CG k7 K6
  go_wp2_with fail
  refine (box_any c d (c + 1) (d + 1) _).mono ?_
  rintro e1 v8 ⟨q8, rfl, r8, k8⟩
  have K8 := hide (bvia K7.out k8)
  have R8 := hide r8
  clear k8 r8 K7
  have HA8 : Hid (∀ wz, Below v8.heap.size v8 wz → PolyAt wz (.slice (some ⟨pg, 0, none⟩) 1 1) [boxM a b c d]) := hide fun wz kz => HP.out wz (bvia K8.out kz)
  have HR8 : Hid (∀ wz, Below v8.heap.size v8 wz → RingAt wz (.slice (some ⟨q3, 0, none⟩) 4 4) (boxM a b c d)) := hide fun wz kz => by
    obtain ⟨pa, pc, ee, _, _, h3⟩ := HP.out wz (bvia K8.out kz)
    obtain ⟨b', off', rv, e2, _, hcc, hrr⟩ := h3 0 (by simp)
    injection ee with e3 _ _
    rw [e2] at e3
    simp at e3
    obtain ⟨rfl, rfl⟩ := e3
    have := HPC7.out wz (bvia K8.out kz)
    rw [hcc] at this
    injection this with this
    rw [← this]; exact hrr
  have HC8 : Hid (∀ wz, Below v8.heap.size v8 wz → RingAt wz (.slice (some ⟨q8, 0, none⟩) 4 4) (boxM c d (c + 1) (d + 1))) := hide fun wz kz => R8.out.later kz
  have c8 := HPC7.out v8 K8.out
  have HPC8 : Hid (∀ wz, Below v8.heap.size v8 wz → wz.cell? ⟨pg, 0, none⟩ = some (.slice (some ⟨q3, 0, none⟩) 4 4)) := hide fun wz kz => HPC7.out wz (bvia K8.out kz)
  go_upto_region 20 with fail
  go_cut [26] (fun cv w' => cv = .bool true ∧ Below v8.heap.size v8 w')
  case first =>
    clear K8 R8 HP HPC7 B7 M8
    go_region_with (first
      | (go_at_call 19
         refine (one_any _ (boxM c d (c + 1) (d + 1)) _ (HC8.out _ (by first | exact (Below.refl _ _).drew | exact ((Below.refl _ _).drew).alloc (by simp) _ | exact bvia (Below.refl _ _).drew k9 | exact (bvia (Below.refl _ _).drew k9).alloc (bvia (Below.refl _ _).drew k9).size _ | exact bvia (((Below.refl _ _).drew).alloc (by simp) _) k9))).mono ?_
         rintro e1 v9 ⟨o9, rfl, p9, k9⟩
         have c9 := HPC8.out v9 (by first | exact bvia (Below.refl _ _).drew k9 | exact bvia (((Below.refl _ _).drew).alloc (by simp) _) k9))
      | (go_at_call 24
         refine (clips_yes 1 _ _ _ [boxM a b c d] [boxM c d (c + 1) (d + 1)] [boxM a b c d, boxM c d (c + 1) (d + 1)] _ (HA8.out _ (by first | exact (Below.refl _ _).drew | exact ((Below.refl _ _).drew).alloc (by simp) _ | exact bvia (Below.refl _ _).drew k9 | exact (bvia (Below.refl _ _).drew k9).alloc (bvia (Below.refl _ _).drew k9).size _ | exact bvia (((Below.refl _ _).drew).alloc (by simp) _) k9)) (by first | exact p9 | exact p9.later ((Below.refl _ _).alloc (Nat.le_refl _) _)) (by first | exact poly2b (HR8.out _ (bvia (Below.refl _ _).drew k9)) (HC8.out _ (bvia (Below.refl _ _).drew k9)) _ (by simp) | exact (poly2b (HR8.out _ (Below.refl _ _).drew) (HC8.out _ (Below.refl _ _).drew) _ (by simp)).later k9) M7.out (by simp)).mono ?_
         rintro e1 v10 ⟨rfl, k10⟩))
    all_goals
      go_wp2_with fail
      go_meet
      case rel => exact ⟨rfl, bvia (by first | exact (Below.refl _ _).drew | exact ((Below.refl _ _).drew).alloc (by simp) _ | exact bvia (Below.refl _ _).drew k9 | exact (bvia (Below.refl _ _).drew k9).alloc (bvia (Below.refl _ _).drew k9).size _ | exact bvia (((Below.refl _ _).drew).alloc (by simp) _) k9) k10⟩
  case rest =>
  obtain ⟨rfl, k9⟩ := hcut
  have B9 := hide (bvia (bvia B7.out K8.out) k9)
  clear k9 K8 R8 HP HPC7 HPC8 B7 M7 HA8 HR8 HC8 c8
  go_wp2_with fail
  refine (at_any a b _).mono ?_
  rintro e1 n1 ⟨rfl, k1⟩
  have N1 := hide k1
  clear k1
  go_wp2_with fail
  refine (at_any (a + 20) (b + 10) _).mono ?_
  rintro e1 n2 ⟨rfl, k2⟩
  have N2 := hide (bvia N1.out k2)
  clear k2 N1
  go_wp2_with fail
  refine (at_any (a + 10) (b + 20) _).mono ?_
  rintro e1 n3 ⟨rfl, k3⟩
  have N3 := hide (bvia N2.out k3)
  clear k3 N2
  have B10 := hide (bvia B9.out N3.out)
  have RN := hide (poly1b (g := n3.heap.size + 1) (ring_three n3 (gp a b) (gp (a + 20) (b + 10)) (gp (a + 10) (b + 20)) 25) 44 (by simp))
  obtain ⟨W1, hW1⟩ : ∃ W, W = (n3.alloc (.cells #[.int .i64 a, .int .i64 b, .int .i64 1, .int .i64 (a + 20), .int .i64 (b + 10), .int .i64 1, .int .i64 (a + 10), .int .i64 (b + 20), .int .i64 1] 25)).alloc (.cells #[.slice (some ⟨n3.heap.size, 0, none⟩) 3 3] 44) := ⟨_, rfl⟩
  have PN : Hid (PolyAt W1 (.slice (some ⟨n3.heap.size + 1, 0, none⟩) 1 1) [[gp a b, gp (a + 20) (b + 10), gp (a + 10) (b + 20)]]) := by rw [hW1]; exact RN
  have B11 : Hid (Below w.heap.size w W1) := by
    rw [hW1]
    have z := B10.out.size
    exact hide ((B10.out.alloc z _).alloc (by simp; omega) _)
  go_upto_region 22 with fail
  rw [← hW1]
  clear hW1 RN N3 B10 B9
  go_wp2_with fail
  refine (box_any a b (a + 22) (b + 22) _).mono ?_
  rintro e1 m1 ⟨q1, rfl, r1, k1⟩
  have C1 := hide (one_any _ _ _ r1)
  have K1 := hide k1
  clear k1 r1
  go_wp2_with fail
  refine C1.out.mono ?_
  rintro e1 m2 ⟨bv, rfl, p2, k2⟩
  have P2 := hide p2
  have K2 := hide (bvia K1.out k2)
  clear C1 p2 k2 K1
  go_wp2_with fail
  refine (at_any (a) (b) _).mono ?_
  rintro e1 m3 ⟨rfl, k3⟩
  have P3 := hide (P2.out.later k3)
  have K3 := hide (bvia K2.out k3)
  clear k3 P2 K2
  go_wp2_with fail
  refine (at_any (a + 10) (b + 20) _).mono ?_
  rintro e1 m4 ⟨rfl, k4⟩
  have P4 := hide (P3.out.later k4)
  have K4 := hide (bvia K3.out k4)
  clear k4 P3 K3
  go_wp2_with fail
  refine (at_any (a + 20) (b + 10) _).mono ?_
  rintro e1 m5 ⟨rfl, k5⟩
  have P5 := hide (P4.out.later k5)
  have K5 := hide (bvia K4.out k5)
  clear k5 P4 K4
  go_wp2_with fail
  refine (at_any (a) (b) _).mono ?_
  rintro e1 m6 ⟨rfl, k6⟩
  have P6 := hide (P5.out.later k6)
  have K6 := hide (bvia K5.out k6)
  clear k6 P5 K5
  go_wp2_with fail
  refine (at_any (a + 22) (b) _).mono ?_
  rintro e1 m7 ⟨rfl, k7⟩
  have P7 := hide (P6.out.later k7)
  have K7 := hide (bvia K6.out k7)
  clear k7 P6 K6
  go_wp2_with fail
  refine (at_any (a + 22) (b + 22) _).mono ?_
  rintro e1 m8 ⟨rfl, k8⟩
  have P8 := hide (P7.out.later k8)
  have K8 := hide (bvia K7.out k8)
  clear k8 P7 K7
  go_wp2_with fail
  refine (at_any (a) (b + 22) _).mono ?_
  rintro e1 m9 ⟨rfl, k9⟩
  have P9 := hide (P8.out.later k9)
  have K9 := hide (bvia K8.out k9)
  clear k9 P8 K8
  have RW := hide (poly1b (g := m9.heap.size + 1) (ring_seven m9 (gp a b) (gp (a + 10) (b + 20)) (gp (a + 20) (b + 10)) (gp a b) (gp (a + 22) b) (gp (a + 22) (b + 22)) (gp a (b + 22)) 25) 44 (by simp))
  have BA : Below m9.heap.size m9 (m9.alloc (.cells #[.int .i64 a, .int .i64 b, .int .i64 1, .int .i64 (a + 10), .int .i64 (b + 20), .int .i64 1, .int .i64 (a + 20), .int .i64 (b + 10), .int .i64 1, .int .i64 a, .int .i64 b, .int .i64 1, .int .i64 (a + 22), .int .i64 b, .int .i64 1, .int .i64 (a + 22), .int .i64 (b + 22), .int .i64 1, .int .i64 a, .int .i64 (b + 22), .int .i64 1] 25)) := (Below.refl _ _).alloc (Nat.le_refl _) _
  have BB := BA.alloc (by simp) (.cells #[.slice (some ⟨m9.heap.size, 0, none⟩) 7 7] 44)
  have BN := bvia K9.out BB
  have CL := hide (clips_yes 2 _ _ _ [boxM a b (a + 22) (b + 22)] [[gp a b, gp (a + 20) (b + 10), gp (a + 10) (b + 20)]] _ _ (P9.out.later BB) (PN.out.later BN) RW.out M8.out (by simp))
  have B12 := hide (bvia B11.out BN)
  clear RW BA BB BN P9 K9 PN B11 M8
  go_wp2_with fail
  refine CL.out.mono ?_
  rintro e1 m10 ⟨rfl, k10⟩
  have B13 := hide (bvia B12.out k10)
  clear CL B12 k10
  go_wp2
  go_ret
  exact ⟨rfl, B13.out⟩
end Go.Proofs.Ytnkcbephceollaa
