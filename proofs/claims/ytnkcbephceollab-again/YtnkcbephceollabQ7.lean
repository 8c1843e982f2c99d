import Derived.Test.YtnkcbephceollabQ6
namespace Go.Proofs.Ytnkcbephceollab
open Go.RowKit
set_option linter.unusedSimpArgs false
set_option linter.unusedVariables false


set_option maxHeartbeats 1000000 in
theorem segMeet_any (a b c d : Pt) (w : World) (ha : Gr a) (hb : Gr b) (hc : Gr c) (hd : Gr d) :
    Calls Try.prog 48 #[sg a b, sg c d] w fun e w' => e = .returned (meetM a b c d).v ∧ Below w.heap.size w w' := by
  by_cases h : crossM (b.x - a.x) (b.y - a.y) (d.x - c.x) (d.y - c.y) = 0
  · have H : Hid (meetM a b c d = parM a b c d) := if_pos h
    have h' : (crossM (b.x - a.x) (b.y - a.y) (d.x - c.x) (d.y - c.y) == 0) = true := by simpa using h
    clear h
    go_enter Try.func48, Try.ntmps48
    go_wp2_with fail
    refine (wayFrom_any a b _ ha.gd hb.gd).mono ?_
    rintro e w1 ⟨rfl, k⟩
    have B1 := bvia (below3 _ _ _ _) k
    obtain ⟨cs1, fs1, zs1⟩ := (((Blk.new w _ _).alloc _).alloc _).call k
    obtain ⟨ct1, ft1, zt1⟩ := ((Blk.at (w.heap.size + 1) (by simp)).alloc _).call k
    obtain ⟨cr1, fr1, zr1⟩ := (Blk.at (w.heap.size + 1 + 1) (by simp)).call k
    clear k
    go_wp2_with fail
    refine (wayFrom_any c d _ hc.gd hd.gd).mono ?_
    rintro e w2 ⟨rfl, k⟩
    have B2 := bvia (B1.alloc B1.size _) k
    obtain ⟨cs2, fs2, zs2⟩ := ((Blk.mk cs1 fs1 zs1).alloc _).call k
    obtain ⟨ct2, ft2, zt2⟩ := ((Blk.mk ct1 ft1 zt1).alloc _).call k
    obtain ⟨cr2, fr2, zr2⟩ := ((Blk.mk cr1 fr1 zr1).alloc _).call k
    obtain ⟨cp2, fp2, zp2⟩ := (Blk.new w1 _ _).call k
    clear k cs1 fs1 ct1 ft1 cr1 fr1 B1
    go_wp2_with fail
    refine (cross_any _ _ _ _ _ (gr_way ha.x hb.x) (gr_way ha.y hb.y) (gr_way hc.x hd.x) (gr_way hc.y hd.y)).mono ?_
    rintro e w3 ⟨rfl, k⟩
    have B3 := bvia (B2.alloc B2.size _) k
    obtain ⟨cs3, fs3, zs3⟩ := ((Blk.mk cs2 fs2 zs2).alloc _).call k
    obtain ⟨ct3, ft3, zt3⟩ := ((Blk.mk ct2 ft2 zt2).alloc _).call k
    obtain ⟨cr3, fr3, zr3⟩ := ((Blk.mk cr2 fr2 zr2).alloc _).call k
    obtain ⟨cp3, fp3, zp3⟩ := ((Blk.mk cp2 fp2 zp2).alloc _).call k
    obtain ⟨cq3, fq3, zq3⟩ := (Blk.new w2 _ _).call k
    clear k cs2 fs2 ct2 ft2 cr2 fr2 cp2 fp2 B2
    go_wp2_with fail
    refine (meetParallel_any a b c d _ ha hb hc hd).mono ?_
    rintro e w4 ⟨rfl, k⟩
    have B4 := bvia B3 k
    obtain ⟨cs4, fs4, zs4⟩ := (Blk.mk cs3 fs3 zs3).call k
    obtain ⟨ct4, ft4, zt4⟩ := (Blk.mk ct3 ft3 zt3).call k
    obtain ⟨cr4, fr4, zr4⟩ := (Blk.mk cr3 fr3 zr3).call k
    obtain ⟨cp4, fp4, zp4⟩ := (Blk.mk cp3 fp3 zp3).call k
    obtain ⟨cq4, fq4, zq4⟩ := (Blk.mk cq3 fq3 zq3).call k
    clear k cs3 fs3 ct3 ft3 cr3 fr3 cp3 fp3 cq3 fq3 B3
    go_wp2
    exact bodyPost_ret (v := (parM a b c d).v) (by simp [results, Try.results48, go_sem, cr4, fr4]) rfl ⟨by rw [H.out], below_set7 B4 (by omega)⟩
  · have H : Hid (meetM a b c d = acrossM a b c d) := if_neg h
    have h' : (crossM (b.x - a.x) (b.y - a.y) (d.x - c.x) (d.y - c.y) == 0) = false := by simpa using h
    clear h
    go_enter Try.func48, Try.ntmps48
    go_wp2_with fail
    refine (wayFrom_any a b _ ha.gd hb.gd).mono ?_
    rintro e w1 ⟨rfl, k⟩
    have B1 := bvia (below3 _ _ _ _) k
    obtain ⟨cs1, fs1, zs1⟩ := (((Blk.new w _ _).alloc _).alloc _).call k
    obtain ⟨ct1, ft1, zt1⟩ := ((Blk.at (w.heap.size + 1) (by simp)).alloc _).call k
    obtain ⟨cr1, fr1, zr1⟩ := (Blk.at (w.heap.size + 1 + 1) (by simp)).call k
    clear k
    go_wp2_with fail
    refine (wayFrom_any c d _ hc.gd hd.gd).mono ?_
    rintro e w2 ⟨rfl, k⟩
    have B2 := bvia (B1.alloc B1.size _) k
    obtain ⟨cs2, fs2, zs2⟩ := ((Blk.mk cs1 fs1 zs1).alloc _).call k
    obtain ⟨ct2, ft2, zt2⟩ := ((Blk.mk ct1 ft1 zt1).alloc _).call k
    obtain ⟨cr2, fr2, zr2⟩ := ((Blk.mk cr1 fr1 zr1).alloc _).call k
    obtain ⟨cp2, fp2, zp2⟩ := (Blk.new w1 _ _).call k
    clear k cs1 fs1 ct1 ft1 cr1 fr1 B1
    go_wp2_with fail
    refine (cross_any _ _ _ _ _ (gr_way ha.x hb.x) (gr_way ha.y hb.y) (gr_way hc.x hd.x) (gr_way hc.y hd.y)).mono ?_
    rintro e w3 ⟨rfl, k⟩
    have B3 := bvia (B2.alloc B2.size _) k
    obtain ⟨cs3, fs3, zs3⟩ := ((Blk.mk cs2 fs2 zs2).alloc _).call k
    obtain ⟨ct3, ft3, zt3⟩ := ((Blk.mk ct2 ft2 zt2).alloc _).call k
    obtain ⟨cr3, fr3, zr3⟩ := ((Blk.mk cr2 fr2 zr2).alloc _).call k
    obtain ⟨cp3, fp3, zp3⟩ := ((Blk.mk cp2 fp2 zp2).alloc _).call k
    obtain ⟨cq3, fq3, zq3⟩ := (Blk.new w2 _ _).call k
    clear k cs2 fs2 ct2 ft2 cr2 fr2 cp2 fp2 B2
    go_wp2_with fail
    refine (meetAcross_any a b c d _ ha hb hc hd).mono ?_
    rintro e w4 ⟨rfl, k⟩
    have B4 := bvia B3 k
    obtain ⟨cs4, fs4, zs4⟩ := (Blk.mk cs3 fs3 zs3).call k
    obtain ⟨ct4, ft4, zt4⟩ := (Blk.mk ct3 ft3 zt3).call k
    obtain ⟨cr4, fr4, zr4⟩ := (Blk.mk cr3 fr3 zr3).call k
    obtain ⟨cp4, fp4, zp4⟩ := (Blk.mk cp3 fp3 zp3).call k
    obtain ⟨cq4, fq4, zq4⟩ := (Blk.mk cq3 fq3 zq3).call k
    clear k cs3 fs3 ct3 ft3 cr3 fr3 cp3 fp3 cq3 fq3 B3
    go_wp2
    exact bodyPost_ret (v := (acrossM a b c d).v) (by simp [results, Try.results48, go_sem, cr4, fr4]) rfl ⟨by rw [H.out], below_set7 B4 (by omega)⟩

theorem grid_iff {p : Pt} (h : Gr p) : gridB p = true := decide_eq_true ⟨h.d, h.x.lo, h.x.hi, h.y.lo, h.y.hi⟩

def mtM (a b c d : Pt) : Mt × Int :=
  if ¬ (gridB a = true ∧ gridB b = true ∧ gridB c = true ∧ gridB d = true) then (zM, 3)
  else if eqP a b = true ∨ eqP c d = true then (zM, 4) else (meetM a b c d, 0)

set_option maxRecDepth 100000 in
set_option maxHeartbeats 1000000 in
theorem badRing_any (v : Value) (P : List (List Pt)) (w : World) (hP : PolyAt w v P) :
    Calls Try.prog 38 #[v] w fun e w' => e = .returned (.int .i64 (badM 12 0 P)) ∧ w' = w := by
  obtain ⟨a, cap, rfl, h1, h2, h3⟩ := hP
  unfold maxLen at h2
  go_enter Try.func38, Try.ntmps38
  go_wp2_with fail
  go_loop [3, 4, 5, 8] (fun room _ _ i => ∃ (k : Nat) (rm : Int), i = .int .i64 k ∧ room = .int .i64 rm ∧ k ≤ P.length ∧ 0 ≤ rm ∧ rm ≤ 12 ∧ Hid (badM 12 0 P = badM rm k (P.drop k))) (fun _ _ _ i => P.length - (intOf i).toNat)
  case atStart => exact ⟨0, 12, rfl, rfl, Nat.zero_le _, by decide, by decide, rfl⟩
  case round =>
    obtain ⟨k, rm, rfl, rfl, hk, hr0, hr1, HB⟩ := hrel
    by_cases hlt : k < P.length
    · obtain ⟨b, off, rv, rfl, hb, hc, ⟨a', cap', rfl, g1, g2, _⟩⟩ := h3 k hlt
      have HC := hide (badM_cons rm k P k hlt)
      generalize P.getD k [] = r at *
      unfold maxLen at g2
      by_cases hbad : (r.length : Int) < 3 ∨ rm < (r.length : Int)
      · have HE : Hid (badM 12 0 P = k) := HB.out.trans (HC.out.trans (if_pos hbad))
        clear h3 HB HC
        by_cases hb3 : (r.length : Int) < 3
        · go_wp2
          go_ret
          exact ⟨ret_if HE.out.symm, rfl⟩
        · go_wp2
          go_ret
          exact ⟨ret_if HE.out.symm, rfl⟩
      · have HE : Hid (badM 12 0 P = badM (rm - r.length) (k + 1) (P.drop (k + 1))) := HB.out.trans (HC.out.trans (if_neg hbad))
        clear h3 HB HC
        have e1 : ¬ (r.length : Int) < 3 := by omega
        have e2 : (r.length : Int) ≤ rm := by omega
        go_wp2
        go_round
        case rel => exact ⟨k + 1, rm - r.length, by go_num, rfl, by omega, by omega, by omega, HE⟩
        case measure => simp [intOf]; omega
    · have HE : Hid (badM 12 0 P = -1) := by rw [HB.out, List.drop_of_length_le (by omega)]; rfl
      clear h3 HB
      go_wp2
      go_ret
      exact ⟨ret_if HE.out.symm, rfl⟩
set_option maxRecDepth 100000 in
set_option maxHeartbeats 1000000 in
theorem offGrid_any (v : Value) (E : List (Pt × Pt)) (w : World) (hE : SegsAt w v E) :
    Calls Try.prog 39 #[v] w fun e w' => e = .returned (.int .i64 (findM (fun e : Pt × Pt => !gridB e.1) 0 E)) ∧ Below w.heap.size w w' := by
  obtain ⟨a, cap, rfl, h1, h2, h3⟩ := hE
  unfold maxLen at h2
  go_enter Try.func39, Try.ntmps39
  go_wp2_with fail
  go_loopw [3, 4, 7] (fun _ _ i w' => ∃ k : Nat, i = .int .i64 k ∧ k ≤ E.length ∧ Below w.heap.size w w' ∧ Hid (findM (fun e : Pt × Pt => !gridB e.1) 0 E = findM (fun e : Pt × Pt => !gridB e.1) k (E.drop k))) (fun _ _ i _ => E.length - (intOf i).toNat)
  case atStart => exact ⟨0, rfl, Nat.zero_le _, Below.refl _ _, rfl⟩
  case round =>
    obtain ⟨k, rfl, hk, hbel, HB⟩ := hrel
    by_cases hlt : k < E.length
    · obtain ⟨b, off, rfl, hb, hs⟩ := h3 k hlt
      have hs' := hs.later hbel hb
      have HC := hide (findM_cons (fun e : Pt × Pt => !gridB e.1) k E k hlt (zP, zP))
      generalize E.getD k (zP, zP) = e at *
      obtain ⟨c0, c1, c2, c3, c4, c5⟩ := hs'
      clear h3 hs
      go_wp2_with fail
      refine (IsGrid_any e.1 _).mono ?_
      rintro e' w1 ⟨rfl, k1⟩
      have B1 := bvia (hbel.alloc hbel.size _) k1
      obtain ⟨cx, fx, zx⟩ := (Blk.new wr _ _).call k1
      clear k1 c0 c1 c2 c3 c4 c5
      by_cases ht : (fun e : Pt × Pt => !gridB e.1) e = true
      · have HE : Hid (findM (fun e : Pt × Pt => !gridB e.1) 0 E = k) := HB.out.trans (HC.out.trans (if_pos ht))
        clear HB HC
        have hg : gridB e.1 = false := by simpa using ht
        clear ht
        go_wp2
        go_ret
        exact ⟨ret_if HE.out.symm, B1⟩
      · have HE : Hid (findM (fun e : Pt × Pt => !gridB e.1) 0 E = findM (fun e : Pt × Pt => !gridB e.1) (k + 1) (E.drop (k + 1))) := HB.out.trans (HC.out.trans (if_neg ht))
        clear HB HC
        have hg : gridB e.1 = true := by simpa using ht
        clear ht
        go_wp2
        go_roundw
        case rel => exact ⟨k + 1, by go_num, by omega, B1, HE⟩
        case measure => simp [intOf]; omega
    · have HE : Hid (findM (fun e : Pt × Pt => !gridB e.1) 0 E = -1) := by rw [HB.out, List.drop_of_length_le (by omega)]; rfl
      clear h3 HB
      go_wp2
      go_ret
      exact ⟨ret_if HE.out.symm, hbel⟩

set_option maxRecDepth 100000 in
set_option maxHeartbeats 1000000 in
theorem emptyEdge_any (v : Value) (E : List (Pt × Pt)) (w : World) (hE : SegsAt w v E) :
    Calls Try.prog 40 #[v] w fun e w' => e = .returned (.int .i64 (findM (fun e : Pt × Pt => eqB e.1 e.2) 0 E)) ∧ Below w.heap.size w w' := by
  obtain ⟨a, cap, rfl, h1, h2, h3⟩ := hE
  unfold maxLen at h2
  go_enter Try.func40, Try.ntmps40
  go_wp2_with fail
  go_loopw [3, 4, 7] (fun _ _ i w' => ∃ k : Nat, i = .int .i64 k ∧ k ≤ E.length ∧ Below w.heap.size w w' ∧ Hid (findM (fun e : Pt × Pt => eqB e.1 e.2) 0 E = findM (fun e : Pt × Pt => eqB e.1 e.2) k (E.drop k))) (fun _ _ i _ => E.length - (intOf i).toNat)
  case atStart => exact ⟨0, rfl, Nat.zero_le _, Below.refl _ _, rfl⟩
  case round =>
    obtain ⟨k, rfl, hk, hbel, HB⟩ := hrel
    by_cases hlt : k < E.length
    · obtain ⟨b, off, rfl, hb, hs⟩ := h3 k hlt
      have hs' := hs.later hbel hb
      have HC := hide (findM_cons (fun e : Pt × Pt => eqB e.1 e.2) k E k hlt (zP, zP))
      generalize E.getD k (zP, zP) = e at *
      obtain ⟨c0, c1, c2, c3, c4, c5⟩ := hs'
      clear h3 hs
      go_wp2_with fail
      refine (IsEmpty_any e.1 e.2 _).mono ?_
      rintro e' w1 ⟨rfl, k1⟩
      have B1 := bvia (hbel.alloc hbel.size _) k1
      obtain ⟨cx, fx, zx⟩ := (Blk.new wr _ _).call k1
      clear k1 c0 c1 c2 c3 c4 c5
      by_cases ht : (fun e : Pt × Pt => eqB e.1 e.2) e = true
      · have HE : Hid (findM (fun e : Pt × Pt => eqB e.1 e.2) 0 E = k) := HB.out.trans (HC.out.trans (if_pos ht))
        clear HB HC
        have hg : eqP e.1 e.2 = true := ht
        clear ht
        go_wp2
        go_ret
        exact ⟨ret_if HE.out.symm, B1⟩
      · have HE : Hid (findM (fun e : Pt × Pt => eqB e.1 e.2) 0 E = findM (fun e : Pt × Pt => eqB e.1 e.2) (k + 1) (E.drop (k + 1))) := HB.out.trans (HC.out.trans (if_neg ht))
        clear HB HC
        have hg : eqP e.1 e.2 = false := by simpa [eqP, eqB] using ht
        clear ht
        go_wp2
        go_roundw
        case rel => exact ⟨k + 1, by go_num, by omega, B1, HE⟩
        case measure => simp [intOf]; omega
    · have HE : Hid (findM (fun e : Pt × Pt => eqB e.1 e.2) 0 E = -1) := by rw [HB.out, List.drop_of_length_le (by omega)]; rfl
      clear h3 HB
      go_wp2
      go_ret
      exact ⟨ret_if HE.out.symm, hbel⟩

def GrE (E : List (Pt × Pt)) : Prop := ∀ j, j < E.length → Gr (E.getD j (zP, zP)).1 ∧ Gr (E.getD j (zP, zP)).2
theorem any_drop {α : Type} (f : α → Bool) (l : List α) (k : Nat) (hk : k < l.length) (d : α) : (l.drop k).any f = (f (l.getD k d) || (l.drop (k + 1)).any f) := by
  rw [List.drop_eq_getElem_cons hk, List.any_cons, List.getD_eq_getElem?_getD, List.getElem?_eq_getElem hk]; rfl

set_option maxRecDepth 100000 in
set_option maxHeartbeats 1000000 in
theorem liesAlong_any (g : Pt × Pt) (v : Value) (E : List (Pt × Pt)) (w : World) (hE : SegsAt w v E) (hg1 : Gr g.1) (hg2 : Gr g.2) (hG : GrE E) :
    Calls Try.prog 60 #[sg g.1 g.2, v] w fun e w' => e = .returned (.bool (E.any (alongB g))) ∧ Below w.heap.size w w' := by
  obtain ⟨a, cap, rfl, h1, h2, h3⟩ := hE
  unfold maxLen at h2
  go_enter Try.func60, Try.ntmps60
  go_wp2_with fail
  go_loopw [6, 7, 10] (fun _ _ i w' => ∃ k : Nat, i = .int .i64 k ∧ k ≤ E.length ∧ Blk w' w.heap.size #[.int .i64 g.1.x, .int .i64 g.1.y, .int .i64 g.1.d, .int .i64 g.2.x, .int .i64 g.2.y, .int .i64 g.2.d] ∧ Below w.heap.size w w' ∧ Hid (E.any (alongB g) = (E.drop k).any (alongB g))) (fun _ _ i _ => E.length - (intOf i).toNat)
  case atStart => exact ⟨0, rfl, Nat.zero_le _, Blk.new w _ _, (Below.refl _ _).alloc (Nat.le_refl _) _, rfl⟩
  case round =>
    obtain ⟨k, rfl, hk, ⟨cg, fg, zg⟩, hbel, HB⟩ := hrel
    by_cases hlt : k < E.length
    · obtain ⟨b, off, rfl, hb, hs⟩ := h3 k hlt
      have hs' := hs.later hbel hb
      have HC := hide (any_drop (alongB g) E k hlt (zP, zP))
      have hgr := hG k hlt
      generalize E.getD k (zP, zP) = e at *
      obtain ⟨he1, he2⟩ := hgr
      obtain ⟨c0, c1, c2, c3, c4, c5⟩ := hs'
      clear h3 hs hG
      go_wp2_with fail
      refine (segMeet_any g.1 g.2 e.1 e.2 _ hg1 hg2 he1 he2).mono ?_
      rintro e' w1 ⟨rfl, k1⟩
      have B1 := bvia (hbel.alloc hbel.size _) k1
      obtain ⟨cg1, fg1, zg1⟩ := ((Blk.mk cg fg zg).alloc _).call k1
      clear k1 c0 c1 c2 c3 c4 c5 cg fg
      by_cases ht : ((meetM g.1 g.2 e.1 e.2).k == 2) = true
      · have HE : Hid (E.any (alongB g) = true) := HB.out.trans (HC.out.trans (by rw [show alongB g e = true from ht]; rfl))
        clear HB HC
        go_wp2
        go_ret
        exact ⟨ret_bool HE.out.symm, B1.alloc B1.size _⟩
      · have ht' : ((meetM g.1 g.2 e.1 e.2).k == 2) = false := by simpa using ht
        have HE : Hid (E.any (alongB g) = (E.drop (k + 1)).any (alongB g)) := HB.out.trans (HC.out.trans (by rw [show alongB g e = false from ht']; rfl))
        clear HB HC ht
        go_wp2
        go_roundw
        case rel => exact ⟨k + 1, by go_num, by omega, (Blk.mk cg1 fg1 zg1).alloc _, B1.alloc B1.size _, HE⟩
        case measure => simp [intOf]; omega
    · have HE : Hid (E.any (alongB g) = false) := by rw [HB.out, List.drop_of_length_le (by omega)]; rfl
      clear h3 HB hG
      go_wp2
      go_ret
      exact ⟨ret_bool HE.out.symm, hbel⟩

theorem SegsAt.take {w : World} {a : Option Addr} {cap : Nat} {E : List (Pt × Pt)} (h : SegsAt w (.slice a E.length cap) E) (k : Nat) (hk : k ≤ E.length) : SegsAt w (.slice a k cap) (E.take k) := by
  obtain ⟨a', cap', e, h1, h2, h3⟩ := h
  simp at e
  obtain ⟨rfl, rfl⟩ := e
  have hl : (E.take k).length = k := by simp; omega
  refine ⟨a, cap, by rw [hl], by omega, h2, fun j hj => ?_⟩
  obtain ⟨b, off, rfl, hb, hs⟩ := h3 j (by omega)
  refine ⟨b, off, rfl, hb, ?_⟩
  have : (E.take k).getD j (zP, zP) = E.getD j (zP, zP) := by
    rw [List.getD_eq_getElem?_getD, List.getD_eq_getElem?_getD, List.getElem?_take_of_lt (by omega)]
  rw [this]; exact hs
theorem GrE.take {E : List (Pt × Pt)} (h : GrE E) (k : Nat) : GrE (E.take k) := by
  intro j hj
  simp at hj
  have : (E.take k).getD j (zP, zP) = E.getD j (zP, zP) := by
    rw [List.getD_eq_getElem?_getD, List.getD_eq_getElem?_getD, List.getElem?_take_of_lt (by omega)]
  rw [this]; exact h j (by omega)

set_option maxRecDepth 100000 in
set_option maxHeartbeats 1000000 in
theorem sharedEdge_any (v : Value) (E : List (Pt × Pt)) (w : World) (hE : SegsAt w v E) (hG : GrE E) :
    Calls Try.prog 41 #[v] w fun e w' => e = .returned (.int .i64 (findM (sharesM E) 0 (List.range E.length))) ∧ Below w.heap.size w w' := by
  have hE0 := hE
  obtain ⟨a, cap, rfl, h1, h2, h3⟩ := hE
  unfold maxLen at h2
  go_enter Try.func41, Try.ntmps41
  go_wp2_with fail
  go_loopw [3, 4, 7] (fun _ _ i w' => ∃ k : Nat, i = .int .i64 k ∧ k ≤ E.length ∧ Below w.heap.size w w' ∧ Hid (findM (sharesM E) 0 (List.range E.length) = findM (sharesM E) k ((List.range E.length).drop k))) (fun _ _ i _ => E.length - (intOf i).toNat)
  case atStart => exact ⟨0, rfl, Nat.zero_le _, Below.refl _ _, rfl⟩
  case round =>
    obtain ⟨k, rfl, hk, hbel, HB⟩ := hrel
    by_cases hlt : k < E.length
    · obtain ⟨b, off, rfl, hb, hs⟩ := h3 k hlt
      have hs' := hs.later hbel hb
      have HC := hide (findM_cons (sharesM E) k (List.range E.length) k (by simpa using hlt) 0)
      have eget : (List.range E.length).getD k 0 = k := by rw [List.getD_eq_getElem?_getD, List.getElem?_range hlt]; rfl
      rw [eget] at HC
      have HS := hide (show sharesM E k = (E.take k).any (alongB (E.getD k (zP, zP))) from rfl)
      have hgr := hG k hlt
      have hT := ((hE0.take k hk).later hbel)
      have hGT := hG.take k
      generalize E.getD k (zP, zP) = e at *
      obtain ⟨he1, he2⟩ := hgr
      obtain ⟨c0, c1, c2, c3, c4, c5⟩ := hs'
      have hkc : (k : Int) ≤ (cap : Int) := by omega
      clear h3 hs hG hE0 eget
      go_wp2_with fail
      go_region_with (go_at_call 60; refine (liesAlong_any e _ (E.take k) _ (by exact hT.later (((Below.refl _ _).alloc (Nat.le_refl _) _).drew)) he1 he2 hGT).mono ?_; rintro e' w1 ⟨rfl, k1⟩)
      have B1 := bvia ((hbel.alloc hbel.size _).drew) k1
      clear k1 c0 c1 c2 c3 c4 c5 hT hGT
      by_cases ht : (E.take k).any (alongB e) = true
      · have HE : Hid (findM (sharesM E) 0 (List.range E.length) = k) := HB.out.trans (HC.out.trans (if_pos (HS.out.trans ht)))
        rw [ht]
        clear HB HC HS ht
        go_wp2
        go_ret
        exact ⟨ret_if HE.out.symm, B1⟩
      · have ht' : (E.take k).any (alongB e) = false := by simpa using ht
        have HE : Hid (findM (sharesM E) 0 (List.range E.length) = findM (sharesM E) (k + 1) ((List.range E.length).drop (k + 1))) := HB.out.trans (HC.out.trans (if_neg (by rw [HS.out, ht']; decide)))
        rw [ht']
        clear HB HC HS ht ht'
        go_wp2
        go_roundw
        case rel => exact ⟨k + 1, by go_num, by omega, B1, HE⟩
        case measure => simp [intOf]; omega
    · have HE : Hid (findM (sharesM E) 0 (List.range E.length) = -1) := by rw [HB.out, List.drop_of_length_le (by simp; omega)]; rfl
      clear h3 HB hG hE0
      go_wp2
      go_ret
      exact ⟨ret_if HE.out.symm, hbel⟩

theorem grE_of (P : List (List Pt)) (h : findM (fun e : Pt × Pt => !gridB e.1) 0 (edgesM P) = -1) : GrE (edgesM P) := by
  have hall := findM_none _ _ 0 (by decide) h
  intro j hj
  have hm : (edgesM P).getD j (zP, zP) ∈ edgesM P := by
    rw [List.getD_eq_getElem?_getD, List.getElem?_eq_getElem hj]; exact List.getElem_mem hj
  obtain ⟨e', he', e2⟩ := edge_second P _ hm
  have g1 := hall _ hm
  have g2 := hall _ he'
  simp only [Bool.not_eq_false'] at g1 g2
  rw [e2] at g2
  exact ⟨gr_of g1, gr_of g2⟩

set_option maxHeartbeats 2000000 in
theorem polyCheck_any (v : Value) (P : List (List Pt)) (w : World) (hP : PolyAt w v P) :
    Calls Try.prog 25 #[v] w fun e w' => e = .returned (.tuple #[.int .i64 (checkM P).1, .int .i64 (checkM P).2]) ∧ Below w.heap.size w w' := by
  have hP0 := hP
  obtain ⟨a, cap, rfl, h1, h2, _⟩ := hP
  unfold maxLen at h2
  by_cases c1 : 4 < P.length
  · have e : checkM P = (1, 0) := if_pos c1
    rw [e]
    go_enter Try.func25, Try.ntmps25
    go_wp2
    go_ret2
    exact ⟨rfl, Below.refl _ _⟩
  have e1 : checkM P = _ := if_neg c1
  by_cases c2 : badM 12 0 P = -1
  case neg =>
    have HE : Hid (checkM P = (2, badM 12 0 P)) := e1.trans (if_pos c2)
    have c2' : (badM 12 0 P != -1) = true := by simpa using c2
    clear e1 c2
    go_enter Try.func25, Try.ntmps25
    go_wp2_with fail
    refine (badRing_any _ P _ hP0).mono ?_
    rintro e w1 ⟨rfl, rfl⟩
    go_wp2
    go_ret2
    exact ⟨by rw [HE.out]; rfl, Below.refl _ _⟩
  have e2 := e1.trans (if_neg (fun k => k c2))
  have hT : (edgesM P).length ≤ 12 := by have := badM_none P 12 0 (by decide) c2 (by decide); omega
  have c2' : (badM 12 0 P != -1) = false := by simpa using c2
  clear e1
  by_cases c3 : findM (fun e : Pt × Pt => !gridB e.1) 0 (edgesM P) = -1
  case neg =>
    have HE : Hid (checkM P = (3, findM (fun e : Pt × Pt => !gridB e.1) 0 (edgesM P))) := e2.trans (if_pos c3)
    have c3' : (findM (fun e : Pt × Pt => !gridB e.1) 0 (edgesM P) != -1) = true := by simpa using c3
    clear e2 c2 c3
    go_enter Try.func25, Try.ntmps25
    go_wp2_with fail
    refine (badRing_any _ P _ hP0).mono ?_
    rintro e w1 ⟨rfl, rfl⟩
    go_wp2_with fail
    refine (Edges_any _ P _ hP0 (Nat.le_trans hT (by decide))).mono ?_
    rintro e w1 ⟨ev, rfl, hE1, B1⟩
    go_wp2_with fail
    refine (offGrid_any _ (edgesM P) _ hE1).mono ?_
    rintro e w2 ⟨rfl, k2⟩
    have B2 := bvia B1 k2
    clear k2 hE1 B1
    go_wp2
    go_ret2
    exact ⟨by rw [HE.out]; rfl, B2⟩
  have e3 := e2.trans (if_neg (fun k => k c3))
  have hG := grE_of P c3
  have c3' : (findM (fun e : Pt × Pt => !gridB e.1) 0 (edgesM P) != -1) = false := by simpa using c3
  clear e2
  by_cases c4 : findM (fun e : Pt × Pt => eqB e.1 e.2) 0 (edgesM P) = -1
  case neg =>
    have HE : Hid (checkM P = (4, findM (fun e : Pt × Pt => eqB e.1 e.2) 0 (edgesM P))) := e3.trans (if_pos c4)
    have c4' : (findM (fun e : Pt × Pt => eqB e.1 e.2) 0 (edgesM P) != -1) = true := by simpa using c4
    clear e3 c2 c3 c4 hG
    go_enter Try.func25, Try.ntmps25
    go_wp2_with fail
    refine (badRing_any _ P _ hP0).mono ?_
    rintro e w1 ⟨rfl, rfl⟩
    go_wp2_with fail
    refine (Edges_any _ P _ hP0 (Nat.le_trans hT (by decide))).mono ?_
    rintro e w1 ⟨ev, rfl, hE1, B1⟩
    go_wp2_with fail
    refine (offGrid_any _ (edgesM P) _ hE1).mono ?_
    rintro e w2 ⟨rfl, k2⟩
    have B2 := bvia B1 k2
    have hE2 := hE1.later k2
    clear k2 hE1 B1
    go_wp2_with fail
    refine (emptyEdge_any _ (edgesM P) _ hE2).mono ?_
    rintro e w3 ⟨rfl, k3⟩
    have B3 := bvia B2 k3
    clear k3 hE2 B2
    go_wp2
    go_ret2
    exact ⟨by rw [HE.out]; rfl, B3⟩
  have e4 := e3.trans (if_neg (fun k => k c4))
  have c4' : (findM (fun e : Pt × Pt => eqB e.1 e.2) 0 (edgesM P) != -1) = false := by simpa using c4
  clear e3
  by_cases c5 : findM (sharesM (edgesM P)) 0 (List.range (edgesM P).length) = -1
  case neg =>
    have HE : Hid (checkM P = (5, findM (sharesM (edgesM P)) 0 (List.range (edgesM P).length))) := e4.trans (if_pos c5)
    have c5' : (findM (sharesM (edgesM P)) 0 (List.range (edgesM P).length) != -1) = true := by simpa using c5
    clear e4 c2 c3 c4 c5
    go_enter Try.func25, Try.ntmps25
    go_wp2_with fail
    refine (badRing_any _ P _ hP0).mono ?_
    rintro e w1 ⟨rfl, rfl⟩
    go_wp2_with fail
    refine (Edges_any _ P _ hP0 (Nat.le_trans hT (by decide))).mono ?_
    rintro e w1 ⟨ev, rfl, hE1, B1⟩
    go_wp2_with fail
    refine (offGrid_any _ (edgesM P) _ hE1).mono ?_
    rintro e w2 ⟨rfl, k2⟩
    have B2 := bvia B1 k2
    have hE2 := hE1.later k2
    clear k2 hE1 B1
    go_wp2_with fail
    refine (emptyEdge_any _ (edgesM P) _ hE2).mono ?_
    rintro e w3 ⟨rfl, k3⟩
    have B3 := bvia B2 k3
    have hE3 := hE2.later k3
    clear k3 hE2 B2
    go_wp2_with fail
    refine (sharedEdge_any _ (edgesM P) _ hE3 hG).mono ?_
    rintro e w4 ⟨rfl, k4⟩
    have B4 := bvia B3 k4
    clear k4 hE3 B3
    go_wp2
    go_ret2
    exact ⟨by rw [HE.out]; rfl, B4⟩
  have HE : Hid (checkM P = (0, 0)) := e4.trans (if_neg (fun k => k c5))
  have c5' : (findM (sharesM (edgesM P)) 0 (List.range (edgesM P).length) != -1) = false := by simpa using c5
  clear e4 c2 c3 c4 c5
  go_enter Try.func25, Try.ntmps25
  go_wp2_with fail
  refine (badRing_any _ P _ hP0).mono ?_
  rintro e w1 ⟨rfl, rfl⟩
  go_wp2_with fail
  refine (Edges_any _ P _ hP0 (Nat.le_trans hT (by decide))).mono ?_
  rintro e w1 ⟨ev, rfl, hE1, B1⟩
  go_wp2_with fail
  refine (offGrid_any _ (edgesM P) _ hE1).mono ?_
  rintro e w2 ⟨rfl, k2⟩
  have B2 := bvia B1 k2
  have hE2 := hE1.later k2
  clear k2 hE1 B1
  go_wp2_with fail
  refine (emptyEdge_any _ (edgesM P) _ hE2).mono ?_
  rintro e w3 ⟨rfl, k3⟩
  have B3 := bvia B2 k3
  have hE3 := hE2.later k3
  clear k3 hE2 B2
  go_wp2_with fail
  refine (sharedEdge_any _ (edgesM P) _ hE3 hG).mono ?_
  rintro e w4 ⟨rfl, k4⟩
  have B4 := bvia B3 k4
  clear k4 hE3 B3
  go_wp2
  go_ret2
  exact ⟨by rw [HE.out]; rfl, B4⟩

set_option maxHeartbeats 2000000 in
theorem Check_any (v : Value) (P : List (List Pt)) (w : World) (hP : PolyAt w v P) :
    Calls Try.prog 9 #[v] w fun e w' => e = .returned (.tuple #[.int .i64 (checkM P).1, .int .i64 (checkM P).2]) ∧ Below w.heap.size w w' := by
  go_enter Try.func9, Try.ntmps9
  go_wp2_with fail
  refine (polyCheck_any v P _ hP).mono ?_
  rintro e w1 ⟨rfl, k⟩
  go_wp2
  go_ret2
  exact ⟨rfl, k⟩
end Go.Proofs.Ytnkcbephceollab
