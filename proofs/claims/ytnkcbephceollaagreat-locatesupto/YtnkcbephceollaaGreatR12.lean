import Derived.Test.YtnkcbephceollaaGreatQ39
import Derived.OpenShut
import Derived.Deep.Cut
import Derived.Deep.CutBlock
import Derived.Deep.DeepCutAuto
import Derived.Deep.RegionWith
namespace Go.Proofs.YtnkcbephceollaaGreat
open Go.RowKit
set_option linter.unusedSimpArgs false
set_option linter.unusedVariables false

/-- Of these three points the determinant is reckoned without overflow. -/
def DetOk (a b c : Pt) : Prop := ∀ w, Calls Tryz.prog 73 #[a.v, b.v, c.v] w fun e w' => e = .returned (.int .i64 (detM a b c)) ∧ Below w.heap.size w w'

set_option maxRecDepth 100000 in
set_option maxHeartbeats 4000000 in
theorem rfar_any (q : Pt) (v : Value) (l : List Pt) (ea eb : Pt) (w : World) (hl : RingAt w v l) (hn : l.length ≤ 2000000)
    (h4 : ∀ k, k ≤ l.length + 1 → ∀ p ∈ l, DetOk (outP k) q p) (h5 : ∀ k, k ≤ l.length + 1 → DetOk ea eb (outP k)) :
    Calls Tryz.prog 86 #[q.v, v, sg ea eb] w fun e w' => e = .returned (farM q l ea eb).v ∧ Below w.heap.size w w' := by
  obtain ⟨a, cap, rfl, h1, h2, h3⟩ := hl
  unfold maxLen at h2
  have hln : (l.length : Int) ≤ 2000000 := by omega
  have H3 := hide h3
  have H4 := hide h4
  have H5 := hide h5
  have HF := hide (show farM q l ea eb = farL (freeB q l ea eb) (l.length + 2 - 0) 0 from rfl)
  have HFr := hide (show ∀ k, freeB q l ea eb k = (l.all (fun v => decide (detM (outP k) q v ≠ 0)) && decide (detM ea eb (outP k) ≠ 0)) from fun k => rfl)
  clear h3 h4 h5
  generalize farM q l ea eb = fm at *
  generalize freeB q l ea eb = fr at *
  go_enter Tryz.func86, Tryz.ntmps86
  go_wp2_with fail
  go_loopw [7, 8, 9, 10, 11, 12] (fun kv _ _ _ _ _ w' => ∃ k : Nat, kv = .int .i64 k ∧ k ≤ l.length + 2 ∧ Blk w' w.heap.size #[.int .i64 q.x, .int .i64 q.y, .int .i64 q.d] ∧ Blk w' (w.heap.size + 1) #[.int .i64 ea.x, .int .i64 ea.y, .int .i64 ea.d, .int .i64 eb.x, .int .i64 eb.y, .int .i64 eb.d] ∧ Blk w' (w.heap.size + 1 + 1) #[.int .i64 0, .int .i64 0, .int .i64 0] ∧ Below w.heap.size w w' ∧ Hid (fm = farL fr (l.length + 2 - k) k)) (fun kv _ _ _ _ _ _ => l.length + 2 - (intOf kv).toNat)
  case atStart => exact ⟨0, rfl, Nat.zero_le _, ((Blk.new w _ _).alloc _).alloc _, (Blk.at (w.heap.size + 1) (by simp)).alloc _, Blk.at (w.heap.size + 1 + 1) (by simp), below3 _ _ _ _, HF⟩
  case round =>
    obtain ⟨k, rfl, hk, ⟨cq, fq, zq⟩, ⟨ce, fe, ze⟩, ⟨cr, frz, zr⟩, hbel, HB⟩ := hrel
    by_cases hlt : k < l.length + 2
    · have HC := hide (farL_step fr (l.length + 2) k hlt)
      have hki : (k : Int) ≤ (l.length : Int) + 1 := by omega
      have hkb : (k : Int) ≤ 2000001 := by omega
      have hk0 : (0 : Int) ≤ (k : Int) := Int.natCast_nonneg _
      have D5 := H5.out k (by omega)
      have H4k := hide (H4.out k (by omega))
      have HFk := hide (HFr.out k)
      clear HF H4 H5 HFr
      go_upto_block 2 with fail
      have hwo : wr.heap.size < (wr.alloc (.cells #[.int .i64 (-65), .int .i64 k, .int .i64 1] 31)).heap.size := by simp
      have hwo1 := hbel.size
      have P0 : ∃ wo, wo = wr.heap.size := ⟨_, rfl⟩
      obtain ⟨wo, hwoe⟩ := P0
      have K1 := ((Blk.mk cq fq zq).alloc (.cells #[.int .i64 (-65), .int .i64 k, .int .i64 1] 31))
      have K2 := ((Blk.mk ce fe ze).alloc (.cells #[.int .i64 (-65), .int .i64 k, .int .i64 1] 31))
      have K3 := ((Blk.mk cr frz zr).alloc (.cells #[.int .i64 (-65), .int .i64 k, .int .i64 1] 31))
      have K4 := Blk.new wr #[.int .i64 (-65), .int .i64 k, .int .i64 1] 31
      have K5 := hbel.alloc hbel.size (.cells #[.int .i64 (-65), .int .i64 k, .int .i64 1] 31)
      rw [← hwoe] at K4 hwo hwo1 ⊢
      clear cq fq zq ce fe ze cr frz zr hbel hwoe
      go_cut [8, 9, 10, 11] (fun po fv _ _ w' => po = .pointer (some ⟨wo, 0, none⟩) ∧ fv = .bool (l.all (fun v => decide (detM (outP k) q v ≠ 0))) ∧ Blk w' w.heap.size #[.int .i64 q.x, .int .i64 q.y, .int .i64 q.d] ∧ Blk w' (w.heap.size + 1) #[.int .i64 ea.x, .int .i64 ea.y, .int .i64 ea.d, .int .i64 eb.x, .int .i64 eb.y, .int .i64 eb.d] ∧ Blk w' (w.heap.size + 1 + 1) #[.int .i64 0, .int .i64 0, .int .i64 0] ∧ Blk w' wo #[.int .i64 (-65), .int .i64 k, .int .i64 1] ∧ Below w.heap.size w w')
      case first =>
        clear D5 HB HC HFk
        go_wp2_with fail
        go_loopw [9, 10, 11] (fun fv iv _ w' => ∃ i : Nat, iv = .int .i64 i ∧ i ≤ l.length ∧ fv = .bool ((l.take i).all (fun v => decide (detM (outP k) q v ≠ 0))) ∧ Blk w' w.heap.size #[.int .i64 q.x, .int .i64 q.y, .int .i64 q.d] ∧ Blk w' (w.heap.size + 1) #[.int .i64 ea.x, .int .i64 ea.y, .int .i64 ea.d, .int .i64 eb.x, .int .i64 eb.y, .int .i64 eb.d] ∧ Blk w' (w.heap.size + 1 + 1) #[.int .i64 0, .int .i64 0, .int .i64 0] ∧ Blk w' wo #[.int .i64 (-65), .int .i64 k, .int .i64 1] ∧ Below w.heap.size w w') (fun _ iv _ _ => l.length - (intOf iv).toNat)
        case atStart => exact ⟨0, rfl, Nat.zero_le _, rfl, K1, K2, K3, K4, K5⟩
        case round =>
          obtain ⟨i, rfl, hi, rfl, ⟨cq, fq, zq⟩, K2', K3', ⟨co, fo, zo⟩, hbel⟩ := hrel
          by_cases hit : i < l.length
          · obtain ⟨b, off, rfl, hb, hp⟩ := H3.out i hit
            obtain ⟨px, py, pd⟩ := hp.later hbel hb
            have HA := hide (all_take (fun v => decide (detM (outP k) q v ≠ 0)) l i hit zP)
            have D4 := H4k.out _ (getD_mem hit zP)
            generalize l.getD i zP = p at *
            obtain ⟨dv, hdv⟩ : ∃ dv, detM (outP k) q p = dv := ⟨_, rfl⟩
            have D6 : ∀ wz, Calls Tryz.prog 73 #[(outP k).v, q.v, p.v] wz fun e w' => e = .returned (.int .i64 (detM (outP k) q p)) ∧ Below wz.heap.size wz w' := D4
            rw [hdv] at D6
            have HD : Hid ((l.take (i + 1)).all (fun v => decide (detM (outP k) q v ≠ 0)) = ((l.take i).all (fun v => decide (detM (outP k) q v ≠ 0)) && decide (dv ≠ 0))) := by rw [← hdv]; exact HA
            clear hdv D4 HA hp
            generalize (l.take i).all (fun v => decide (detM (outP k) q v ≠ 0)) = al at *
            have hi0 : (0 : Int) ≤ (i : Int) := Int.natCast_nonneg _
            have hi1 : (i : Int) < (l.length : Int) := by omega
            go_upto_region 9 with fail
            go_cut [11] (fun nv w' => nv = .int .i64 dv ∧ Blk w' w.heap.size #[.int .i64 q.x, .int .i64 q.y, .int .i64 q.d] ∧ Blk w' (w.heap.size + 1) #[.int .i64 ea.x, .int .i64 ea.y, .int .i64 ea.d, .int .i64 eb.x, .int .i64 eb.y, .int .i64 eb.d] ∧ Blk w' (w.heap.size + 1 + 1) #[.int .i64 0, .int .i64 0, .int .i64 0] ∧ Blk w' wo #[.int .i64 (-65), .int .i64 k, .int .i64 1] ∧ Below w.heap.size w w')
            case first =>
              go_region_with (go_at_call 73; refine (D6 _).mono ?_; rintro e' w1 ⟨rfl, k1⟩)
              all_goals
                go_wp2_with fail
                go_meet
                case rel => exact ⟨rfl, (Blk.mk cq fq zq).drew.call k1, K2'.drew.call k1, K3'.drew.call k1, (Blk.mk co fo zo).drew.call k1, bvia hbel.drew k1⟩
            case rest =>
              clear cq fq zq co fo zo hbel px py pd K2' K3' D6
              obtain ⟨rfl, L1, L2, L3, L4, B1⟩ := hcut
              cases al
              · have HE : Hid ((l.take (i + 1)).all (fun v => decide (detM (outP k) q v ≠ 0)) = false) := HD.out.trans rfl
                clear HD
                go_wp2
                go_roundw
                case rel => exact ⟨i + 1, by go_num, by omega, by rw [HE.out], L1, L2, L3, L4, B1⟩
                case measure => simp [intOf]; omega
              · have HE : Hid ((l.take (i + 1)).all (fun v => decide (detM (outP k) q v ≠ 0)) = (dv != 0)) := HD.out.trans (by rw [Bool.true_and]; by_cases h : dv = 0 <;> simp [h])
                clear HD
                go_wp2
                go_roundw
                case rel => exact ⟨i + 1, by go_num, by omega, by rw [HE.out], L1, L2, L3, L4, B1⟩
                case measure => simp [intOf]; omega
          · have HE : Hid (l.take i = l) := List.take_of_length_le (by omega)
            have hi1 : ¬ (i : Int) < (l.length : Int) := by omega
            go_wp2
            go_meet
            case rel => exact ⟨rfl, by rw [HE.out]; simp, Blk.mk cq fq zq, K2', K3', Blk.mk co fo zo, hbel⟩
      case rest =>
        obtain ⟨rfl, rfl, ⟨cq, fq, zq⟩, ⟨ce, fe, ze⟩, ⟨cr, frz, zr⟩, ⟨co, fo, zo⟩, hbel⟩ := hcut
        generalize l.all (fun v => decide (detM (outP k) q v ≠ 0)) = al at *
        obtain ⟨dv, hdv⟩ : ∃ dv, detM ea eb (outP k) = dv := ⟨_, rfl⟩
        have D6 : Calls Tryz.prog 73 #[ea.v, eb.v, (outP k).v] wc fun e w' => e = .returned (.int .i64 (detM ea eb (outP k))) ∧ Below wc.heap.size wc w' := D5 wc
        rw [hdv] at D6 HFk
        clear hdv D5
        go_wp2_with fail
        refine D6.mono ?_
        rintro e w1 ⟨rfl, k1⟩
        have B1 := bvia hbel k1
        have L1 := (Blk.mk cq fq zq).call k1
        have L2 := (Blk.mk ce fe ze).call k1
        have L3 := (Blk.mk cr frz zr).call k1
        obtain ⟨co1, fo1, zo1⟩ := (Blk.mk co fo zo).call k1
        obtain ⟨cr1, fr1, zr1⟩ := L3
        clear k1 cq fq zq ce fe ze cr frz zr co fo hbel
        cases al
        · have HE : Hid (fm = farL fr (l.length + 2 - (k + 1)) (k + 1)) := HB.out.trans (HC.out.trans (if_neg (by rw [HFk.out]; simp)))
          clear HB HC HFk
          go_wp2
          go_roundw
          case rel => exact ⟨k + 1, by go_num, by omega, L1, L2, Blk.mk cr1 fr1 zr1, B1, HE⟩
          case measure => simp [intOf]; omega
        · by_cases hd : dv = 0
          · have HE : Hid (fm = farL fr (l.length + 2 - (k + 1)) (k + 1)) := HB.out.trans (HC.out.trans (if_neg (by rw [HFk.out]; simp [hd])))
            have hb : (dv != 0) = false := by simpa using hd
            clear HB HC HFk
            go_wp2
            go_roundw
            case rel => exact ⟨k + 1, by go_num, by omega, L1, L2, Blk.mk cr1 fr1 zr1, B1, HE⟩
            case measure => simp [intOf]; omega
          · have HE : Hid (fm = outP k) := HB.out.trans (HC.out.trans (if_pos (by rw [HFk.out]; simp [hd])))
            have hb : (dv != 0) = true := by simpa using hd
            clear HB HC HFk
            go_wp2
            exact bodyPost_ret (v := Pt.v ⟨-65, k, 1⟩) (by simp [results, Tryz.results86, go_sem, cr1, fr1]) rfl ⟨by rw [HE.out]; rfl, below_set3 (o := 0) B1 (by omega)⟩
    · have HE : Hid (fm = outP 0) := by rw [HB.out, show l.length + 2 - k = 0 by omega]; exact hide rfl
      have hki : ¬ (k : Int) ≤ (l.length : Int) + 1 := by omega
      go_wp2
      exact bodyPost_ret (v := Pt.v ⟨-65, 0, 1⟩) (by simp [results, Tryz.results86, go_sem, cr, frz]) rfl ⟨by rw [HE.out]; rfl, below_set3 (o := 0) hbel (by omega)⟩
end Go.Proofs.YtnkcbephceollaaGreat
