import Derived.Test.YtnkcbephceollabF1
namespace Go.Proofs.Ytnkcbephceollab
open Go.RowKit
set_option linter.unusedSimpArgs false
set_option linter.unusedVariables false

set_option maxHeartbeats 1000000 in
theorem sideOf_any (p q a b : Pt) (w : World) (hp : Gd p) (hq : Gd q) (ha : Gd a) (hb : Gd b) :
    Calls Try.prog 52 #[p.v, q.v, sg a b] w fun e w' => e = .returned (.int .i64 (sideOfM p q a b)) ∧ Below w.heap.size w w' := by
  by_cases h : sideM a b p = 0
  · have H : Hid (sideOfM p q a b = sideM a b q) := by unfold sideOfM; rw [if_neg (by simpa using h)]; exact hide rfl
    have h' : (sideM a b p != 0) = false := by simpa using h
    go_enter Try.func52, Try.ntmps52
    go_wp2_with fail
    refine (segSide_any a b p _ ha hb hp).mono ?_
    rintro e w1 ⟨rfl, k⟩
    have B1 := bvia (below3 _ _ _ _) k
    obtain ⟨cq, fq, zq⟩ := ((Blk.at (w.heap.size + 1) (by simp)).alloc _).call k
    obtain ⟨ce, fe, ze⟩ := (Blk.at (w.heap.size + 1 + 1) (by simp)).call k
    clear k
    go_wp2_with fail
    refine (segSide_any a b q _ ha hb hq).mono ?_
    rintro e w2 ⟨rfl, k⟩
    have B2 := bvia B1 k
    clear k cq fq ce fe B1
    go_wp2
    go_ret
    exact ⟨ret_int H.out.symm, B2⟩
  · have H : Hid (sideOfM p q a b = sideM a b p) := by unfold sideOfM; rw [if_pos h]; exact hide rfl
    have h' : (sideM a b p != 0) = true := by simpa using h
    go_enter Try.func52, Try.ntmps52
    go_wp2_with fail
    refine (segSide_any a b p _ ha hb hp).mono ?_
    rintro e w1 ⟨rfl, k⟩
    have B1 := bvia (below3 _ _ _ _) k
    clear k
    go_wp2
    go_ret
    exact ⟨ret_int H.out.symm, B1⟩

theorem par_drop (f : Pt → Pt → Bool) (E : List (Pt × Pt)) (k : Nat) (hk : k < E.length) : parB f (E.drop k) = (f (E.getD k (zP, zP)).1 (E.getD k (zP, zP)).2 ^^ parB f (E.drop (k + 1))) := by
  rw [List.drop_eq_getElem_cons hk, List.getD_eq_getElem?_getD, List.getElem?_eq_getElem hk]; rfl

set_option maxRecDepth 100000 in
set_option maxHeartbeats 4000000 in
theorem cutSides_any (p q : Pt) (v : Value) (E : List (Pt × Pt)) (w : World) (hE : SegsAt w v E) (hG : GdE E) (hp : Gd p) (hq : Gd q) :
    Calls Try.prog 32 #[p.v, q.v, v] w fun e w' => e = .returned (.tuple #[.bool (parB (leftE p q) E), .bool (parB (rightE p q) E)]) ∧ Below w.heap.size w w' := by
  obtain ⟨a, cap, rfl, h1, h2, h3⟩ := hE
  unfold maxLen at h2
  have H3 := hide h3
  have HG := hide hG
  clear h3 hG
  go_enter Try.func32, Try.ntmps32
  go_wp2_with fail
  go_loopw [8, 9, 11, 12, 15] (fun lv rv _ _ iv w' => ∃ (k : Nat) (x y : Bool), iv = .int .i64 k ∧ lv = .bool x ∧ rv = .bool y ∧ k ≤ E.length ∧ Blk w' w.heap.size #[.int .i64 p.x, .int .i64 p.y, .int .i64 p.d] ∧ Blk w' (w.heap.size + 1) #[.int .i64 q.x, .int .i64 q.y, .int .i64 q.d] ∧ Below w.heap.size w w' ∧ Hid (parB (leftE p q) E = (x ^^ parB (leftE p q) (E.drop k))) ∧ Hid (parB (rightE p q) E = (y ^^ parB (rightE p q) (E.drop k)))) (fun _ _ _ _ iv _ => E.length - (intOf iv).toNat)
  case atStart => exact ⟨0, false, false, rfl, rfl, rfl, Nat.zero_le _, (Blk.new w _ _).alloc _, Blk.at (w.heap.size + 1) (by simp), below2 _ _ _, by simp [hide], by simp [hide]⟩
  case round =>
    obtain ⟨k, x, y, rfl, rfl, rfl, hk, ⟨cp, fp, zp⟩, ⟨cq, fq, zq⟩, hbel, HL, HR⟩ := hrel
    by_cases hlt : k < E.length
    · obtain ⟨b, off, rfl, hb, hs⟩ := H3.out k hlt
      obtain ⟨c0, c1, c2, c3, c4, c5⟩ := hs.later hbel hb
      obtain ⟨g1, g2⟩ := HG.out k hlt
      have HL1 := hide (par_drop (leftE p q) E k hlt)
      have HR1 := hide (par_drop (rightE p q) E k hlt)
      generalize E.getD k (zP, zP) = e at *
      have HLe := hide (show leftE p q e.1 e.2 = (spanM e.1 e.2 p && decide (sideOfM p q e.1 e.2 < 0)) from rfl)
      have HRe := hide (show rightE p q e.1 e.2 = (spanM e.1 e.2 p && decide (sideOfM p q e.1 e.2 ≤ 0)) from rfl)
      clear hs
      go_wp2_with fail
      refine (Spans_any e.1 e.2 p _ g1 g2 hp).mono ?_
      rintro e' w1 ⟨rfl, k1⟩
      have B1 := bvia (hbel.alloc hbel.size _) k1
      have P1 := ((Blk.mk cp fp zp).alloc _).call k1
      have Q1 := ((Blk.mk cq fq zq).alloc _).call k1
      obtain ⟨ce, fe, ze⟩ := (Blk.new wr _ _).call k1
      obtain ⟨cp1, fp1, zp1⟩ := id P1
      obtain ⟨cq1, fq1, zq1⟩ := id Q1
      clear k1 c0 c1 c2 c3 c4 c5 cp fp zp cq fq zq hbel
      cases hsp : spanM e.1 e.2 p
      · have HE : Hid (parB (leftE p q) E = (x ^^ parB (leftE p q) (E.drop (k + 1)))) := HL.out.trans (by rw [HL1.out, HLe.out, hsp]; simp)
        have HF : Hid (parB (rightE p q) E = (y ^^ parB (rightE p q) (E.drop (k + 1)))) := HR.out.trans (by rw [HR1.out, HRe.out, hsp]; simp)
        clear HL HR HL1 HR1 HLe HRe
        go_wp2
        go_roundw
        case rel => exact ⟨k + 1, x, y, by go_num, rfl, rfl, by omega, P1, Q1, B1, HE, HF⟩
        case measure => simp [intOf]; omega
      · go_wp2_with fail
        refine (sideOf_any p q e.1 e.2 _ hp hq g1 g2).mono ?_
        rintro e' w2 ⟨rfl, k2⟩
        have B2 := bvia B1 k2
        have P2 := P1.call k2
        have Q2 := Q1.call k2
        clear k2 cp1 fp1 zp1 cq1 fq1 zq1 ce fe ze B1 P1 Q1
        generalize sideOfM p q e.1 e.2 = sd at *
        rcases Int.lt_trichotomy sd 0 with c | c | c
        · have HE : Hid (parB (leftE p q) E = ((!x) ^^ parB (leftE p q) (E.drop (k + 1)))) := HL.out.trans (by rw [HL1.out, HLe.out, hsp, decide_eq_true c]; simp)
          have HF : Hid (parB (rightE p q) E = ((!y) ^^ parB (rightE p q) (E.drop (k + 1)))) := HR.out.trans (by rw [HR1.out, HRe.out, hsp, decide_eq_true (by omega : sd ≤ 0)]; simp)
          have c' : sd ≤ 0 := by omega
          clear HL HR HL1 HR1 HLe HRe
          go_wp2
          go_roundw
          case rel => exact ⟨k + 1, !x, !y, by go_num, rfl, rfl, by omega, P2, Q2, B2, HE, HF⟩
          case measure => simp [intOf]; omega
        · subst c
          have HE : Hid (parB (leftE p q) E = (x ^^ parB (leftE p q) (E.drop (k + 1)))) := HL.out.trans (by rw [HL1.out, HLe.out, hsp]; simp)
          have HF : Hid (parB (rightE p q) E = ((!y) ^^ parB (rightE p q) (E.drop (k + 1)))) := HR.out.trans (by rw [HR1.out, HRe.out, hsp]; simp)
          clear HL HR HL1 HR1 HLe HRe
          go_wp2
          go_roundw
          case rel => exact ⟨k + 1, x, !y, by go_num, rfl, rfl, by omega, P2, Q2, B2, HE, HF⟩
          case measure => simp [intOf]; omega
        · have HE : Hid (parB (leftE p q) E = (x ^^ parB (leftE p q) (E.drop (k + 1)))) := HL.out.trans (by rw [HL1.out, HLe.out, hsp, decide_eq_false (by omega : ¬ sd < 0)]; simp)
          have HF : Hid (parB (rightE p q) E = (y ^^ parB (rightE p q) (E.drop (k + 1)))) := HR.out.trans (by rw [HR1.out, HRe.out, hsp, decide_eq_false (by omega : ¬ sd ≤ 0)]; simp)
          have c1 : ¬ sd < 0 := by omega
          have c2 : ¬ sd ≤ 0 := by omega
          clear HL HR HL1 HR1 HLe HRe
          go_wp2
          go_roundw
          case rel => exact ⟨k + 1, x, y, by go_num, rfl, rfl, by omega, P2, Q2, B2, HE, HF⟩
          case measure => simp [intOf]; omega
    · have HE : Hid (parB (leftE p q) E = x) := HL.out.trans (by rw [List.drop_of_length_le (by omega)]; simp [parB])
      have HF : Hid (parB (rightE p q) E = y) := HR.out.trans (by rw [List.drop_of_length_le (by omega)]; simp [parB])
      clear HL HR
      go_wp2
      go_ret2
      exact ⟨by rw [HE.out, HF.out]; rfl, hbel⟩
end Go.Proofs.Ytnkcbephceollab
