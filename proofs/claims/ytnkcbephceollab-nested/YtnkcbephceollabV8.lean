import Derived.Test.YtnkcbephceollabQ40
import Derived.Test.YtnkcbephceollabQ42
import Derived.Test.YtnkcbephceollabC3b
namespace Go.Proofs.Ytnkcbephceollab
open Go.RowKit
set_option linter.unusedSimpArgs false
set_option linter.unusedVariables false

theorem poly1 {w : World} {v : Value} {r : List Pt} {g : Nat} (h : RingAt w v r) (t : TypeId) (hg : g = w.heap.size) : PolyAt (w.alloc (.cells #[v] t)) (.slice (some ⟨g, 0, none⟩) 1 1) [r] := by
  subst hg
  refine ⟨some ⟨w.heap.size, 0, none⟩, 1, rfl, Nat.le_refl _, by decide, fun i hi => ?_⟩
  obtain rfl : i = 0 := by simp at hi; omega
  exact ⟨_, 0, _, rfl, by simp, (World.cell?_alloc_at _ _ _ _ rfl).trans rfl, h.later ((Below.refl _ _).alloc (Nat.le_refl _) _)⟩

set_option maxHeartbeats 1000000 in
theorem nlocate_any (v : Value) (r : List Pt) (p : Pt) (w : World) (hr : RingAt w v r) :
    Calls Try.prog 61 #[v, p.v] w fun e w' => e = .returned (.int .i64 (atM r p)) ∧ Below w.heap.size w w' := by
  have B0 : Below w.heap.size w (w.alloc (.cells #[.int .i64 p.x, .int .i64 p.y, .int .i64 p.d] 29)) := (Below.refl _ _).alloc (Nat.le_refl _) _
  have hr1 := hr.later B0
  have B1 := B0.alloc (by simp) (.cells #[v] 27)
  have C := hide (polyLocate_any (.slice (some ⟨w.heap.size + 1, 0, none⟩) 1 1) [r] p _ (poly1 hr1 27 (by simp)))
  have HA := hide (show atM r p = (locM [r] p).1 from rfl)
  generalize atM r p = z at *
  obtain ⟨a, cap, rfl, _, _, _⟩ := id hr
  clear hr1
  go_enter Try.func61, Try.ntmps61
  go_wp2_with fail
  refine C.out.mono ?_
  rintro e w1 ⟨rfl, k⟩
  have B2 := bvia B1 k
  clear k C
  go_wp2
  go_ret
  exact ⟨ret_int HA.out.symm, B2⟩

set_option maxRecDepth 100000 in
set_option maxHeartbeats 2000000 in
theorem isWithin_any (v v' : Value) (r o : List Pt) (w : World) (hr : RingAt w v r) (ho : RingAt w v' o) :
    Calls Try.prog 62 #[v, v'] w fun e w' => e = .returned (.bool (withinM r o)) ∧ Below w.heap.size w w' := by
  obtain ⟨a, cap, rfl, a1, a2, a3⟩ := hr
  have HO := hide ho
  obtain ⟨a', cap', rfl, _, _, _⟩ := ho
  unfold maxLen at a2
  have HA := hide a3
  have HI : Hid (withinM r o = withinM (r.drop 0) o) := rfl
  clear a3
  generalize withinM r o = res at *
  go_enter Try.func62, Try.ntmps62
  go_wp2_with fail
  go_loopw [6, 9] (fun _ iv w' => ∃ k : Nat, iv = .int .i64 k ∧ k ≤ r.length ∧ Below w.heap.size w w' ∧ Hid (res = withinM (r.drop k) o)) (fun _ iv _ => r.length - (intOf iv).toNat)
  case atStart => exact ⟨0, rfl, Nat.zero_le _, Below.refl _ _, HI⟩
  case round =>
    clear HI
    obtain ⟨k, rfl, hk, hbel, HR⟩ := hrel
    by_cases hlt : k < r.length
    · obtain ⟨b, off, rfl, hb, hs⟩ := HA.out k hlt
      obtain ⟨c0, c1, c2⟩ := hs.later hbel hb
      have HD := hide (within_drop o r k hlt)
      generalize r.getD k zP = p at *
      obtain ⟨W1, hW1⟩ : ∃ W, W = wr.alloc (.cells #[.int .i64 p.x, .int .i64 p.y, .int .i64 p.d] 29) := ⟨_, rfl⟩
      have B1 : Below w.heap.size w W1 := by rw [hW1]; exact hbel.alloc hbel.size _
      obtain ⟨cp, fp, zp⟩ : Blk W1 wr.heap.size #[.int .i64 p.x, .int .i64 p.y, .int .i64 p.d] := by rw [hW1]; exact Blk.new wr _ _
      have C := hide (nlocate_any _ o p W1 (HO.out.later B1))
      clear hs HA
      go_upto_region 4 with fail
      rw [← hW1]
      clear hW1 c0 c1 c2 hbel
      go_wp2_with fail
      refine C.out.mono ?_
      rintro e' w2 ⟨rfl, k2⟩
      have B2 := bvia B1 k2
      clear cp fp zp B1 k2 C
      generalize atM o p = z at *
      by_cases hz : z = 0
      · have HE : Hid (res = false) := by rw [HR.out, HD.out, hz]; exact hide rfl
        have hz' : (z == 0) = true := by simpa using hz
        clear HR HD
        go_wp2
        go_ret
        exact ⟨ret_bool HE.out.symm, B2⟩
      · have HE : Hid (res = withinM (r.drop (k + 1)) o) := by rw [HR.out, HD.out]; exact hide (by simp [hz])
        have hz' : (z == 0) = false := by simpa using hz
        clear HR HD
        go_wp2
        go_roundw
        case rel => exact ⟨k + 1, by go_num, by omega, B2, HE⟩
        case measure => simp [intOf]; omega
    · have HE : Hid (res = true) := by rw [HR.out, List.drop_of_length_le (by omega)]; exact hide rfl
      clear HA HR
      go_wp2
      go_ret
      exact ⟨ret_bool HE.out.symm, hbel⟩
theorem gdE_ring {r : List Pt} (h : ∀ p ∈ r, Gd p) : GdE (ringEdges r) := fun j hj => by
  have hj' : j < r.length := by rw [ringEdges_len] at hj; exact hj
  have e : (ringEdges r).getD j (zP, zP) = edgeAt r j := by
    unfold ringEdges
    rw [List.getD_eq_getElem?_getD, List.getElem?_map, List.getElem?_range hj']; rfl
  rw [e]
  unfold edgeAt
  refine ⟨h _ (getD_mem hj' zP), h _ (getD_mem (i := if j + 1 = r.length then 0 else j + 1) ?_ zP)⟩
  split <;> omega

set_option maxRecDepth 100000 in
set_option maxHeartbeats 4000000 in
theorem isHole_any (v : Value) (r : List Pt) (w : World) (hr : RingAt w v r) (hG : ∀ p ∈ r, Gd p) (hn : r.length ≤ 100000) :
    Calls Try.prog 42 #[v] w fun e w' => e = .returned (.bool (holeM r)) ∧ Below w.heap.size w w' := by
  have HR := hide hr
  obtain ⟨a, cap, rfl, a1, a2, a3⟩ := hr
  unfold maxLen at a2
  by_cases h0 : r.length = 0
  · have HE : Hid (holeM r = false) := if_pos h0
    have h0' : ((r.length : Int) == 0) = true := by rw [h0]; rfl
    clear a3
    go_enter Try.func42, Try.ntmps42
    go_wp2
    go_ret
    exact ⟨ret_bool HE.out.symm, Below.refl _ _⟩
  obtain ⟨n, hn1⟩ : ∃ n, r.length = n + 1 := ⟨r.length - 1, by omega⟩
  have HE : Hid (holeM r = holeG (r.getD 0 zP) (ringEdges r) (r.getD n zP)) := by
    unfold holeM; rw [if_neg h0, hn1]; exact hide rfl
  have HGE := hide (gdE_ring hG)
  have gF : Gd (r.getD 0 zP) := hG _ (getD_mem (by omega) zP)
  have gL : Gd (r.getD n zP) := hG _ (getD_mem (by omega) zP)
  obtain ⟨b, off, rfl, hb, hs0⟩ := a3 0 (by omega)
  obtain ⟨b', off', e', _, hsn⟩ := a3 n (by omega)
  simp at e'
  obtain ⟨rfl, rfl⟩ := e'
  have hel := ringEdges_len r
  generalize holeM r = res at *
  generalize r.getD 0 zP = f at *
  generalize r.getD n zP = q at *
  obtain ⟨d0, d1, d2⟩ := hsn
  have HF := hide hs0
  have h0' : ((r.length : Int) == 0) = false := by rw [beq_eq_false_iff_ne]; omega
  have hb' := hb
  obtain ⟨W2, hW2⟩ : ∃ W, W = (w.alloc (.cells #[.int .i64 q.x, .int .i64 q.y, .int .i64 q.d] 29)).alloc (.cells #[.slice (some ⟨b, off, none⟩) r.length cap] 27) := ⟨_, rfl⟩
  have z2 : W2.heap.size = w.heap.size + 2 := by rw [hW2]; simp
  have B2 : Below w.heap.size w W2 := by rw [hW2]; exact ((Below.refl _ _).alloc (Nat.le_refl _) _).alloc (by simp) _
  have Q2 : Blk W2 w.heap.size #[.int .i64 q.x, .int .i64 q.y, .int .i64 q.d] := by rw [hW2]; exact (Blk.new w _ _).alloc _
  have C := hide (show Calls Try.prog 29 #[.slice (some ⟨w.heap.size + 1, 0, none⟩) 1 1] W2 _ from by
    have := Edges_own (.slice (some ⟨w.heap.size + 1, 0, none⟩) 1 1) [r] W2 (by rw [hW2]; exact poly1 (HR.out.later ((Below.refl _ _).alloc (Nat.le_refl _) _)) _ (by simp)) (by rw [edges_one, hel]; exact hn)
    exact this)
  rw [edges_one] at C
  generalize ringEdges r = E at *
  clear a3 hG HR hs0
  have hnl : (r.length : Int) - 1 = (n : Int) := by omega
  have hn0 : (0 : Int) ≤ (n : Int) := Int.natCast_nonneg _
  have hn2 : (n : Int) < (r.length : Int) := by omega
  clear hn1
  have hpb : b ≠ w.heap.size := by omega
  have HFz : Hid (∀ wz, Below w.heap.size w wz → PtAt wz b off f) := hide fun wz kz => by
    have := HF.out.later kz hb
    simpa using this
  go_enter Try.func42, Try.ntmps42
  go_wp2_with fail
  rw [← hW2]
  clear hW2 d0 d1 d2 HF
  refine C.out.mono ?_
  rintro e w3 ⟨ev, rfl, o3, k3⟩
  have S3 := segs_of_own o3 (by unfold maxLen; omega)
  have hlo := fun g hg => (o3.lt g hg).1
  have z3 := k3.size
  obtain ⟨ea, ecap, rfl, hag, hpos, hmx⟩ := own_form o3
  obtain ⟨ea', ecap', ee, e1, e2, e3⟩ := id S3
  injection ee with ee1 ee2 ee3
  subst ee1
  have HSeg : Hid (∀ wz, Kp (fun x => x = w.heap.size) w3 wz → ∀ j, j < E.length → ∃ g, ea = some ⟨g, 0, none⟩ ∧ g < w3.heap.size ∧ SegAt wz g (0 + j * 6) (edg E j)) := hide fun wz kz j hj => by
    obtain ⟨g, hg⟩ := hpos (by omega)
    have eg := hag g hg
    obtain ⟨b', off', eb, hb', hs⟩ := e3 j hj
    rw [eg] at eb
    simp at eb
    obtain ⟨rfl, rfl⟩ := eb
    refine ⟨g, eg, hb', hs.kp kz ?_⟩
    have := hlo g (by rw [eg]; rfl)
    omega
  have B3 := hide (bvia B2 k3)
  have Q3 := hide (Q2.call k3)
  clear o3 k3 S3 hlo hag hpos e3 B2 Q2 C
  go_wp2_with fail
  go_loopw [5, 6, 20] (fun _ _ iv w' => ∃ (k : Nat) (q : Pt), iv = .int .i64 k ∧ k ≤ E.length ∧ Gd q ∧ Blk w' w.heap.size #[.int .i64 q.x, .int .i64 q.y, .int .i64 q.d] ∧ Kp (fun x => x = w.heap.size) w3 w' ∧ Hid (res = holeG f (E.drop k) q)) (fun _ _ iv _ => E.length - (intOf iv).toNat)
  case atStart => exact ⟨0, q, rfl, Nat.zero_le _, gL, Q3.out, Kp.refl _ _, HE⟩
  case round =>
    clear HE Q3
    obtain ⟨k, q, rfl, hk, gq, hQ, hK, HR⟩ := hrel
    by_cases hlt : k < E.length
    · obtain ⟨g, rfl, hg3, hs⟩ := HSeg.out wr hK k hlt
      have HD := hide (holeG_drop f E k hlt q)
      obtain ⟨g1, g2⟩ := edg_good HGE.out k
      generalize edg E k = e at *
      obtain ⟨c0, c1, c2, c3, c4, c5⟩ := hs
      rw [Nat.zero_add] at c0 c1 c2 c3 c4 c5
      have BW : Below w.heap.size w wr := below_kp B3.out hK B3.out.size (fun b h => by omega)
      have zz := BW.size
      obtain ⟨W1, hW1⟩ : ∃ W, W = wr.alloc (.cells #[.int .i64 e.1.x, .int .i64 e.1.y, .int .i64 e.1.d, .int .i64 e.2.x, .int .i64 e.2.y, .int .i64 e.2.d] 71) := ⟨_, rfl⟩
      obtain ⟨eb, heb⟩ : ∃ b, b = wr.heap.size := ⟨_, rfl⟩
      have B1 : Hid (Below w.heap.size w W1) := by rw [hW1]; exact hide (BW.alloc zz _)
      have E1 : Hid (Blk W1 eb #[.int .i64 e.1.x, .int .i64 e.1.y, .int .i64 e.1.d, .int .i64 e.2.x, .int .i64 e.2.y, .int .i64 e.2.d]) := by rw [hW1, heb]; exact hide (Blk.new wr _ _)
      have Q1 : Hid (Blk W1 w.heap.size #[.int .i64 q.x, .int .i64 q.y, .int .i64 q.d]) := by rw [hW1]; exact hide (hQ.alloc _)
      have K1 : Hid (Kp (fun x => x = w.heap.size) w3 W1) := by rw [hW1]; exact hide (hK.alloc _)
      have hebl : w.heap.size < eb := by have := hQ.lt; omega
      have CC := hide (fun wz => Compare_any e.1 f wz g1 gF)
      have CS := hide (fun wz => Side_any q e.1 e.2 wz gq g1 g2)
      clear hQ hK BW HSeg
      go_upto_region 7 with fail
      rw [← hW1, ← heb]
      clear hW1 heb c0 c1 c2 c3 c4 c5
      obtain ⟨ce, fe, ze⟩ := id E1.out
      obtain ⟨f0, f1, f2⟩ := HFz.out W1 B1.out
      have hr0 : (0 : Int) < (r.length : Int) := by omega
      go_cut [6] (fun fv w' => fv = .bool (cmpM e.1 f == 0) ∧ Below W1.heap.size W1 w')
      case first =>
        clear HR HD B1 E1 Q1 K1 CS HFz
        go_region_with (go_at_call 54; refine (CC.out _).mono ?_; rintro e' w4 ⟨rfl, k4⟩)
        all_goals
          go_wp2_with fail
          go_meet
          case rel => exact ⟨rfl, bvia (Below.refl _ _).drew k4⟩
      case rest =>
        obtain ⟨rfl, k4⟩ := hcut
        have B4 := hide (bvia B1.out k4)
        have E4 := hide (E1.out.call k4)
        have Q4 := hide (Q1.out.call k4)
        have K4 := hide (K1.out.trans (Kp.of k4))
        clear ce fe ze f0 f1 f2 B1 E1 Q1 K1 k4 CC
        obtain ⟨ce, fe, ze⟩ := id E4.out
        obtain ⟨cq, fq, zq⟩ := id Q4.out
        generalize cmpM e.1 f = cm at *
        by_cases hz : cm = 0
        · have hz' : (cm == 0) = true := by simpa using hz
          go_wp2_with fail
          refine (CS.out _).mono ?_
          rintro e' w5 ⟨rfl, k5⟩
          have B5 := hide (bvia B4.out k5)
          have E5 := hide (E4.out.call k5)
          have Q5 := hide (Q4.out.call k5)
          have K5 := hide (K4.out.trans (Kp.of k5))
          clear ce fe ze cq fq zq B4 E4 Q4 K4 k5 CS
          obtain ⟨ce, fe, ze⟩ := id E5.out
          obtain ⟨cq, fq, zq⟩ := id Q5.out
          generalize detM q e.1 e.2 = dd at *
          by_cases hd : dd < 0
          · have HE : Hid (res = true) := by rw [HR.out, HD.out, if_pos ⟨hz, hd⟩]; exact hide rfl
            clear HR HD
            go_wp2
            go_ret
            exact ⟨ret_bool HE.out.symm, B5.out⟩
          · have HE : Hid (res = holeG f (E.drop (k + 1)) e.1) := by rw [HR.out, HD.out, if_neg (fun x => hd x.2)]; exact hide rfl
            have hd' : decide (dd < 0) = false := by simpa using hd
            clear HR HD
            go_wp2
            go_roundw
            case rel => exact ⟨k + 1, e.1, by go_num, by omega, g1, Q5.out.put3, ((K5.out.setCell (p := ⟨w.heap.size, 0, none⟩) (fun _ => rfl) _).setCell (p := ⟨w.heap.size, 1, none⟩) (fun _ => rfl) _).setCell (p := ⟨w.heap.size, 2, none⟩) (fun _ => rfl) _, HE⟩
            case measure => simp [intOf]; omega
        · have hz' : (cm == 0) = false := by simpa using hz
          have HE : Hid (res = holeG f (E.drop (k + 1)) e.1) := by rw [HR.out, HD.out, if_neg (fun x => hz x.1)]; exact hide rfl
          clear HR HD CS
          go_wp2
          go_roundw
          case rel => exact ⟨k + 1, e.1, by go_num, by omega, g1, Q4.out.put3, ((K4.out.setCell (p := ⟨w.heap.size, 0, none⟩) (fun _ => rfl) _).setCell (p := ⟨w.heap.size, 1, none⟩) (fun _ => rfl) _).setCell (p := ⟨w.heap.size, 2, none⟩) (fun _ => rfl) _, HE⟩
          case measure => simp [intOf]; omega
    · have HE : Hid (res = false) := by rw [HR.out, List.drop_of_length_le (by omega)]; exact hide rfl
      have BW : Below w.heap.size w wr := below_kp B3.out hK B3.out.size (fun b h => by omega)
      clear HR HSeg hQ hK
      go_wp2
      go_ret
      exact ⟨ret_bool HE.out.symm, BW⟩
end Go.Proofs.Ytnkcbephceollab
