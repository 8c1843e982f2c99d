import Derived.Test.YtnkcbephceollabGreatQ24
import Derived.Test.YtnkcbephceollabGreatQ21
namespace Go.Proofs.YtnkcbephceollabGreat
open Go.RowKit
set_option linter.unusedSimpArgs false
set_option linter.unusedVariables false

theorem rins_drop (p : Pt) (l : List Pt) (i : Nat) (d : Bool) (hi : i < l.length) : rinsGo p (l.drop i) d = (if (!d && (placeB (l.getD i zP) p || befB p (l.getD i zP))) = true then [p] else []) ++ ((if placeB (l.getD i zP) p = true then [] else [l.getD i zP]) ++ rinsGo p (l.drop (i + 1)) (d || (placeB (l.getD i zP) p || befB p (l.getD i zP)))) := by
  rw [List.drop_eq_getElem_cons hi, List.getD_eq_getElem?_getD, List.getElem?_eq_getElem hi]; rfl

set_option maxRecDepth 100000 in
set_option maxHeartbeats 8000000 in
theorem rinsert_any (v : Value) (l : List Pt) (p : Pt) (w : World) (hl : RingAt w v l) (gl : ∀ x ∈ l, Gd x) (hp : Gd p) (hn : l.length ≤ 100000) :
    Calls Tryz.prog 112 #[v, p.v] w fun e w' => ∃ v', e = .returned v' ∧ w'.ownsRow (w.heap.size + 1) 31 3 v' (rinsM l p).length (ptCells (rinsM l p)) ∧ Below w.heap.size w w' := by
  obtain ⟨i0, hi0, hz0, hz1, hz2⟩ := info_parts infoPoint
  obtain ⟨a, cap, rfl, h1, h2, h3⟩ := hl
  unfold maxLen at h2
  have H3 := hide h3
  have GL := hide gl
  clear h3 gl
  go_enter Tryz.func112, Tryz.ntmps112
  go_wp2_with fail
  go_loopw [5, 6, 7, 8, 9] (fun ov dv iv _ _ w' => ∃ (i : Nat) (D : List Pt) (d : Bool), iv = .int .i64 i ∧ dv = .bool d ∧ i ≤ l.length ∧ w'.ownsRow (w.heap.size + 1) 31 3 ov D.length (ptCells D) ∧ D.length ≤ 2 * i ∧ Hid (rinsM l p = D ++ rinsGo p (l.drop i) d) ∧ Blk w' w.heap.size #[.int .i64 p.x, .int .i64 p.y, .int .i64 p.d] ∧ Below w.heap.size w w') (fun _ _ iv _ _ _ => l.length - (intOf iv).toNat)
  case atStart => exact ⟨0, [], false, rfl, rfl, Nat.zero_le _, World.ownsRow_nil _ _ _ _, Nat.le_refl _, rfl, Blk.new w _ _, (Below.refl _ _).alloc (Nat.le_refl _) _⟩
  case round =>
    obtain ⟨i, D, d, rfl, rfl, hi, hO, hDl, HD, hQ, hbel⟩ := hrel
    by_cases hlt : i < l.length
    · obtain ⟨b, off, rfl, hb, hs⟩ := H3.out i hlt
      have HC := hide (rins_drop p l i d hlt)
      have gx := GL.out _ (getD_mem hlt zP)
      generalize l.getD i zP = x at *
      have hi0' : (0 : Int) ≤ (i : Int) := Int.natCast_nonneg _
      have hi1' : (i : Int) < (l.length : Int) := by omega
      have C1 := fun wz => rplace_any x p wz gx hp
      have C2 := fun wz => rbefore_any p x wz hp gx
      obtain ⟨px, py, pd⟩ := hs.later hbel hb
      obtain ⟨cq, fq, zq⟩ := id hQ
      have hO' := hide hO
      have hHQ := hide hQ
      have hHB := hide hbel
      have HPT : Hid (∀ wz, Below w.heap.size w wz → PtAt wz b (off + i * 3) x) := fun wz kz => hs.later kz hb
      clear hs hO hQ
      go_upto_region 6 with fail
      go_cut [8] (fun sv w' => sv = .bool (placeB x p) ∧ Below wr.heap.size wr w')
      case first =>
        clear C2 HPT HC HD hO' hHQ
        go_region_with (go_at_call 73; refine (C1 _).mono ?_; rintro e' w2 ⟨rfl, k2⟩)
        all_goals
          go_wp2_with fail
          go_meet
          case rel => exact ⟨rfl, bvia (Below.refl _ _).drew k2⟩
      case rest =>
        obtain ⟨rfl, k2⟩ := hcut
        have Q2 := hHQ.out.call k2
        have B2 := bvia hHB.out k2
        have O2 := hide (own_later hO'.out k2)
        obtain ⟨px2, py2, pd2⟩ := HPT.out _ B2
        obtain ⟨cq2, fq2, zq2⟩ := id Q2
        have hQ2 := hide Q2
        have hB2 := hide B2
        clear px py pd cq fq zq hbel k2 C1 hO' hHQ hHB Q2 B2
        go_upto_region 7 with fail
        go_cut [9] (fun av w' => av = .bool (befB p x) ∧ Below wc.heap.size wc w')
        case first =>
          clear HPT HC HD O2 hQ2 hB2
          go_region_with (go_at_call 72; refine (C2 _).mono ?_; rintro e' w3 ⟨rfl, k3⟩)
          all_goals
            go_wp2_with fail
            go_meet
            case rel => exact ⟨rfl, bvia (Below.refl _ _).drew k3⟩
        case rest =>
          obtain ⟨rfl, k3⟩ := hcut
          have Q3 := hQ2.out.call k3
          have B3 := bvia hB2.out k3
          have O3 := hide (own_later O2.out k3)
          obtain ⟨px, py, pd⟩ := HPT.out _ B3
          obtain ⟨cq, fq, zq⟩ := id Q3
          have zb := B3.size
          clear px2 py2 pd2 cq2 fq2 zq2 k3 C2 O2 hQ2 hB2
          generalize placeB x p = sm at *
          generalize befB p x = ah at *
          cases d <;> cases sm <;> cases ah
          · have hnews := World.news_of_block (w := wc.alloc (.cells #[.int .i64 x.x, .int .i64 x.y, .int .i64 x.d] 31)) (cs := #[.int .i64 x.x, .int .i64 x.y, .int .i64 x.d]) (t := 31) (fr := (0, 0)) (heap_alloc_new wc _)
            go_wp2_with (at_builtin; refine wpList_append_lies _ rfl _ _ _ rfl (w.heap.size + 1) 31 i0 _ 3 24 Tryz.underlying57 hi0 hz0 hz1 hz2 rfl (by omega) u5 (D).length (ptCells (D)) rfl (O3.out.alloc _) ⟨wc.heap.size, 0, none⟩ 1 1 (ptCell x) rfl rfl hnews (by simp [ptCell, Value.oneCell']) (by omega) (by unfold maxLen; omega) (by omega) (by simp; omega) _ rfl ?_; intro gg_w5 cp_w5 w5 ho_w5 hgrow_w5 hat_w5 hlt_w5)
            have O_w5 : Hid (w5.ownsRow (w.heap.size + 1) 31 3 (.slice (some ⟨gg_w5, 0, none⟩) ((D).length + 1) cp_w5) ((D) ++ [x]).length (ptCells ((D) ++ [x]))) := by
              refine hide ?_
              rw [ptCells_append, List.length_append]
              have e2 : ptCells [x] = ptCell x := by simp [ptCells]
              rw [e2]; exact ho_w5
            have hown_w5 := O3.out.lt
            have L_w5 : Blk w5 w.heap.size #[.int .i64 p.x, .int .i64 p.y, .int .i64 p.d] := by
              have q := Q3.alloc (.cells #[.int .i64 x.x, .int .i64 x.y, .int .i64 x.d] 31)
              have e := hgrow_w5.block w.heap.size q.lt (fun k => by have := (hown_w5 _ k.symm).1; omega)
              exact ⟨fun o => (World.cell?_of_block (a := ⟨w.heap.size, o, none⟩) e).trans (q.cell o), fun o => (World.frozen?_of_block (a := ⟨w.heap.size, o, none⟩) e).trans (q.free o), Nat.lt_of_lt_of_le q.lt hgrow_w5.size⟩
            have B_w5 : Below w.heap.size w w5 := Below.grown (B3.alloc B3.size _) hgrow_w5 (by have := B3.size; simp; omega) (fun k hk => by have := (hown_w5 k hk).1; omega)
            clear hnews ho_w5 hgrow_w5 hat_w5 hlt_w5 hown_w5
            have HE : Hid (rinsM l p = (D ++ [x]) ++ rinsGo p (l.drop (i + 1)) false) := HD.out.trans (by rw [HC.out]; first | rfl | simp)
            clear HD HC HPT
            go_wp2
            go_roundw
            case rel => exact ⟨i + 1, D ++ [x], false, by go_num, rfl, by omega, O_w5.out, by first | omega | (simp; omega), HE, L_w5, B_w5⟩
            case measure => simp [intOf]; omega
          · have hnews := World.news_of_block (w := wc.alloc (.cells #[.int .i64 p.x, .int .i64 p.y, .int .i64 p.d] 31)) (cs := #[.int .i64 p.x, .int .i64 p.y, .int .i64 p.d]) (t := 31) (fr := (0, 0)) (heap_alloc_new wc _)
            go_upto_region 10 with (at_builtin; refine wpList_append_lies _ rfl _ _ _ rfl (w.heap.size + 1) 31 i0 _ 3 24 Tryz.underlying57 hi0 hz0 hz1 hz2 rfl (by omega) u5 (D).length (ptCells (D)) rfl (O3.out.alloc _) ⟨wc.heap.size, 0, none⟩ 1 1 (ptCell p) rfl rfl hnews (by simp [ptCell, Value.oneCell']) (by omega) (by unfold maxLen; omega) (by omega) (by simp; omega) _ rfl ?_; intro gg_w4 cp_w4 w4 ho_w4 hgrow_w4 hat_w4 hlt_w4)
            have O_w4 : Hid (w4.ownsRow (w.heap.size + 1) 31 3 (.slice (some ⟨gg_w4, 0, none⟩) ((D).length + 1) cp_w4) ((D) ++ [p]).length (ptCells ((D) ++ [p]))) := by
              refine hide ?_
              rw [ptCells_append, List.length_append]
              have e2 : ptCells [p] = ptCell p := by simp [ptCells]
              rw [e2]; exact ho_w4
            have hown_w4 := O3.out.lt
            have L_w4 : Blk w4 w.heap.size #[.int .i64 p.x, .int .i64 p.y, .int .i64 p.d] := by
              have q := Q3.alloc (.cells #[.int .i64 p.x, .int .i64 p.y, .int .i64 p.d] 31)
              have e := hgrow_w4.block w.heap.size q.lt (fun k => by have := (hown_w4 _ k.symm).1; omega)
              exact ⟨fun o => (World.cell?_of_block (a := ⟨w.heap.size, o, none⟩) e).trans (q.cell o), fun o => (World.frozen?_of_block (a := ⟨w.heap.size, o, none⟩) e).trans (q.free o), Nat.lt_of_lt_of_le q.lt hgrow_w4.size⟩
            have B_w4 : Below w.heap.size w w4 := Below.grown (B3.alloc B3.size _) hgrow_w4 (by have := B3.size; simp; omega) (fun k hk => by have := (hown_w4 k hk).1; omega)
            clear hnews ho_w4 hgrow_w4 hat_w4 hlt_w4 hown_w4
            obtain ⟨qx, qy, qd⟩ := HPT.out _ B_w4
            have zb4 := B_w4.size
            have hlD : (D ++ [p]).length = D.length + 1 := by simp
            clear px py pd
            have hnews := World.news_of_block (w := w4.alloc (.cells #[.int .i64 x.x, .int .i64 x.y, .int .i64 x.d] 31)) (cs := #[.int .i64 x.x, .int .i64 x.y, .int .i64 x.d]) (t := 31) (fr := (0, 0)) (heap_alloc_new w4 _)
            have O4' : Hid (w4.ownsRow (w.heap.size + 1) 31 3 (.slice (some ⟨gg_w4, 0, none⟩) (D.length + 1) cp_w4) (D.length + 1) (ptCells (D ++ [p]))) := by rw [hlD] at O_w4; exact O_w4
            go_wp2_with (at_builtin; refine wpList_append_lies _ rfl _ _ _ rfl (w.heap.size + 1) 31 i0 _ 3 24 Tryz.underlying57 hi0 hz0 hz1 hz2 rfl (by omega) (.slice (some ⟨gg_w4, 0, none⟩) (D.length + 1) cp_w4) (D.length + 1) (ptCells (D ++ [p])) rfl (O4'.out.alloc _) ⟨w4.heap.size, 0, none⟩ 1 1 (ptCell x) rfl rfl hnews (by simp [ptCell, Value.oneCell']) (by omega) (by unfold maxLen; omega) (by omega) (by simp; omega) _ rfl ?_; intro gg_w5 cp_w5 w5 ho_w5 hgrow_w5 hat_w5 hlt_w5)
            have O_w5 : Hid (w5.ownsRow (w.heap.size + 1) 31 3 (.slice (some ⟨gg_w5, 0, none⟩) (D.length + 1 + 1) cp_w5) (D ++ [p] ++ [x]).length (ptCells (D ++ [p] ++ [x]))) := by
              refine hide ?_
              rw [ptCells_append (D ++ [p]) [x], List.length_append, hlD]
              have e2 : ptCells [x] = ptCell x := by simp [ptCells]
              rw [e2]; exact ho_w5
            have hown_w5 := O4'.out.lt
            have L_w5 : Blk w5 w.heap.size #[.int .i64 p.x, .int .i64 p.y, .int .i64 p.d] := by
              have q := L_w4.alloc (.cells #[.int .i64 x.x, .int .i64 x.y, .int .i64 x.d] 31)
              have e := hgrow_w5.block w.heap.size q.lt (fun k => by have := (hown_w5 _ k.symm).1; omega)
              exact ⟨fun o => (World.cell?_of_block (a := ⟨w.heap.size, o, none⟩) e).trans (q.cell o), fun o => (World.frozen?_of_block (a := ⟨w.heap.size, o, none⟩) e).trans (q.free o), Nat.lt_of_lt_of_le q.lt hgrow_w5.size⟩
            have B_w5 : Below w.heap.size w w5 := Below.grown (B_w4.alloc B_w4.size _) hgrow_w5 (by have := B_w4.size; simp; omega) (fun k hk => by have := (hown_w5 k hk).1; omega)
            clear hnews ho_w5 hgrow_w5 hat_w5 hlt_w5 hown_w5 qx qy qd O4' O_w4 L_w4 B_w4
            have HE : Hid (rinsM l p = (D ++ [p] ++ [x]) ++ rinsGo p (l.drop (i + 1)) true) := HD.out.trans (by rw [HC.out]; first | rfl | simp)
            clear HD HC HPT
            go_wp2
            go_roundw
            case rel => exact ⟨i + 1, D ++ [p] ++ [x], true, by go_num, rfl, by omega, O_w5.out, by first | omega | (simp; omega), HE, L_w5, B_w5⟩
            case measure => simp [intOf]; omega
          · have hnews := World.news_of_block (w := wc.alloc (.cells #[.int .i64 p.x, .int .i64 p.y, .int .i64 p.d] 31)) (cs := #[.int .i64 p.x, .int .i64 p.y, .int .i64 p.d]) (t := 31) (fr := (0, 0)) (heap_alloc_new wc _)
            go_upto_region 10 with (at_builtin; refine wpList_append_lies _ rfl _ _ _ rfl (w.heap.size + 1) 31 i0 _ 3 24 Tryz.underlying57 hi0 hz0 hz1 hz2 rfl (by omega) u5 (D).length (ptCells (D)) rfl (O3.out.alloc _) ⟨wc.heap.size, 0, none⟩ 1 1 (ptCell p) rfl rfl hnews (by simp [ptCell, Value.oneCell']) (by omega) (by unfold maxLen; omega) (by omega) (by simp; omega) _ rfl ?_; intro gg_w4 cp_w4 w4 ho_w4 hgrow_w4 hat_w4 hlt_w4)
            have O_w4 : Hid (w4.ownsRow (w.heap.size + 1) 31 3 (.slice (some ⟨gg_w4, 0, none⟩) ((D).length + 1) cp_w4) ((D) ++ [p]).length (ptCells ((D) ++ [p]))) := by
              refine hide ?_
              rw [ptCells_append, List.length_append]
              have e2 : ptCells [p] = ptCell p := by simp [ptCells]
              rw [e2]; exact ho_w4
            have hown_w4 := O3.out.lt
            have L_w4 : Blk w4 w.heap.size #[.int .i64 p.x, .int .i64 p.y, .int .i64 p.d] := by
              have q := Q3.alloc (.cells #[.int .i64 p.x, .int .i64 p.y, .int .i64 p.d] 31)
              have e := hgrow_w4.block w.heap.size q.lt (fun k => by have := (hown_w4 _ k.symm).1; omega)
              exact ⟨fun o => (World.cell?_of_block (a := ⟨w.heap.size, o, none⟩) e).trans (q.cell o), fun o => (World.frozen?_of_block (a := ⟨w.heap.size, o, none⟩) e).trans (q.free o), Nat.lt_of_lt_of_le q.lt hgrow_w4.size⟩
            have B_w4 : Below w.heap.size w w4 := Below.grown (B3.alloc B3.size _) hgrow_w4 (by have := B3.size; simp; omega) (fun k hk => by have := (hown_w4 k hk).1; omega)
            clear hnews ho_w4 hgrow_w4 hat_w4 hlt_w4 hown_w4
            have HE : Hid (rinsM l p = (D ++ [p]) ++ rinsGo p (l.drop (i + 1)) true) := HD.out.trans (by rw [HC.out]; first | rfl | simp)
            clear HD HC HPT
            go_wp2
            go_roundw
            case rel => exact ⟨i + 1, D ++ [p], true, by go_num, rfl, by omega, O_w4.out, by first | omega | (simp; omega), HE, L_w4, B_w4⟩
            case measure => simp [intOf]; omega
          · have hnews := World.news_of_block (w := wc.alloc (.cells #[.int .i64 p.x, .int .i64 p.y, .int .i64 p.d] 31)) (cs := #[.int .i64 p.x, .int .i64 p.y, .int .i64 p.d]) (t := 31) (fr := (0, 0)) (heap_alloc_new wc _)
            go_upto_region 10 with (at_builtin; refine wpList_append_lies _ rfl _ _ _ rfl (w.heap.size + 1) 31 i0 _ 3 24 Tryz.underlying57 hi0 hz0 hz1 hz2 rfl (by omega) u5 (D).length (ptCells (D)) rfl (O3.out.alloc _) ⟨wc.heap.size, 0, none⟩ 1 1 (ptCell p) rfl rfl hnews (by simp [ptCell, Value.oneCell']) (by omega) (by unfold maxLen; omega) (by omega) (by simp; omega) _ rfl ?_; intro gg_w4 cp_w4 w4 ho_w4 hgrow_w4 hat_w4 hlt_w4)
            have O_w4 : Hid (w4.ownsRow (w.heap.size + 1) 31 3 (.slice (some ⟨gg_w4, 0, none⟩) ((D).length + 1) cp_w4) ((D) ++ [p]).length (ptCells ((D) ++ [p]))) := by
              refine hide ?_
              rw [ptCells_append, List.length_append]
              have e2 : ptCells [p] = ptCell p := by simp [ptCells]
              rw [e2]; exact ho_w4
            have hown_w4 := O3.out.lt
            have L_w4 : Blk w4 w.heap.size #[.int .i64 p.x, .int .i64 p.y, .int .i64 p.d] := by
              have q := Q3.alloc (.cells #[.int .i64 p.x, .int .i64 p.y, .int .i64 p.d] 31)
              have e := hgrow_w4.block w.heap.size q.lt (fun k => by have := (hown_w4 _ k.symm).1; omega)
              exact ⟨fun o => (World.cell?_of_block (a := ⟨w.heap.size, o, none⟩) e).trans (q.cell o), fun o => (World.frozen?_of_block (a := ⟨w.heap.size, o, none⟩) e).trans (q.free o), Nat.lt_of_lt_of_le q.lt hgrow_w4.size⟩
            have B_w4 : Below w.heap.size w w4 := Below.grown (B3.alloc B3.size _) hgrow_w4 (by have := B3.size; simp; omega) (fun k hk => by have := (hown_w4 k hk).1; omega)
            clear hnews ho_w4 hgrow_w4 hat_w4 hlt_w4 hown_w4
            have HE : Hid (rinsM l p = (D ++ [p]) ++ rinsGo p (l.drop (i + 1)) true) := HD.out.trans (by rw [HC.out]; first | rfl | simp)
            clear HD HC HPT
            go_wp2
            go_roundw
            case rel => exact ⟨i + 1, D ++ [p], true, by go_num, rfl, by omega, O_w4.out, by first | omega | (simp; omega), HE, L_w4, B_w4⟩
            case measure => simp [intOf]; omega
          · have hnews := World.news_of_block (w := wc.alloc (.cells #[.int .i64 x.x, .int .i64 x.y, .int .i64 x.d] 31)) (cs := #[.int .i64 x.x, .int .i64 x.y, .int .i64 x.d]) (t := 31) (fr := (0, 0)) (heap_alloc_new wc _)
            go_wp2_with (at_builtin; refine wpList_append_lies _ rfl _ _ _ rfl (w.heap.size + 1) 31 i0 _ 3 24 Tryz.underlying57 hi0 hz0 hz1 hz2 rfl (by omega) u5 (D).length (ptCells (D)) rfl (O3.out.alloc _) ⟨wc.heap.size, 0, none⟩ 1 1 (ptCell x) rfl rfl hnews (by simp [ptCell, Value.oneCell']) (by omega) (by unfold maxLen; omega) (by omega) (by simp; omega) _ rfl ?_; intro gg_w5 cp_w5 w5 ho_w5 hgrow_w5 hat_w5 hlt_w5)
            have O_w5 : Hid (w5.ownsRow (w.heap.size + 1) 31 3 (.slice (some ⟨gg_w5, 0, none⟩) ((D).length + 1) cp_w5) ((D) ++ [x]).length (ptCells ((D) ++ [x]))) := by
              refine hide ?_
              rw [ptCells_append, List.length_append]
              have e2 : ptCells [x] = ptCell x := by simp [ptCells]
              rw [e2]; exact ho_w5
            have hown_w5 := O3.out.lt
            have L_w5 : Blk w5 w.heap.size #[.int .i64 p.x, .int .i64 p.y, .int .i64 p.d] := by
              have q := Q3.alloc (.cells #[.int .i64 x.x, .int .i64 x.y, .int .i64 x.d] 31)
              have e := hgrow_w5.block w.heap.size q.lt (fun k => by have := (hown_w5 _ k.symm).1; omega)
              exact ⟨fun o => (World.cell?_of_block (a := ⟨w.heap.size, o, none⟩) e).trans (q.cell o), fun o => (World.frozen?_of_block (a := ⟨w.heap.size, o, none⟩) e).trans (q.free o), Nat.lt_of_lt_of_le q.lt hgrow_w5.size⟩
            have B_w5 : Below w.heap.size w w5 := Below.grown (B3.alloc B3.size _) hgrow_w5 (by have := B3.size; simp; omega) (fun k hk => by have := (hown_w5 k hk).1; omega)
            clear hnews ho_w5 hgrow_w5 hat_w5 hlt_w5 hown_w5
            have HE : Hid (rinsM l p = (D ++ [x]) ++ rinsGo p (l.drop (i + 1)) true) := HD.out.trans (by rw [HC.out]; first | rfl | simp)
            clear HD HC HPT
            go_wp2
            go_roundw
            case rel => exact ⟨i + 1, D ++ [x], true, by go_num, rfl, by omega, O_w5.out, by first | omega | (simp; omega), HE, L_w5, B_w5⟩
            case measure => simp [intOf]; omega
          · have hnews := World.news_of_block (w := wc.alloc (.cells #[.int .i64 x.x, .int .i64 x.y, .int .i64 x.d] 31)) (cs := #[.int .i64 x.x, .int .i64 x.y, .int .i64 x.d]) (t := 31) (fr := (0, 0)) (heap_alloc_new wc _)
            go_wp2_with (at_builtin; refine wpList_append_lies _ rfl _ _ _ rfl (w.heap.size + 1) 31 i0 _ 3 24 Tryz.underlying57 hi0 hz0 hz1 hz2 rfl (by omega) u5 (D).length (ptCells (D)) rfl (O3.out.alloc _) ⟨wc.heap.size, 0, none⟩ 1 1 (ptCell x) rfl rfl hnews (by simp [ptCell, Value.oneCell']) (by omega) (by unfold maxLen; omega) (by omega) (by simp; omega) _ rfl ?_; intro gg_w5 cp_w5 w5 ho_w5 hgrow_w5 hat_w5 hlt_w5)
            have O_w5 : Hid (w5.ownsRow (w.heap.size + 1) 31 3 (.slice (some ⟨gg_w5, 0, none⟩) ((D).length + 1) cp_w5) ((D) ++ [x]).length (ptCells ((D) ++ [x]))) := by
              refine hide ?_
              rw [ptCells_append, List.length_append]
              have e2 : ptCells [x] = ptCell x := by simp [ptCells]
              rw [e2]; exact ho_w5
            have hown_w5 := O3.out.lt
            have L_w5 : Blk w5 w.heap.size #[.int .i64 p.x, .int .i64 p.y, .int .i64 p.d] := by
              have q := Q3.alloc (.cells #[.int .i64 x.x, .int .i64 x.y, .int .i64 x.d] 31)
              have e := hgrow_w5.block w.heap.size q.lt (fun k => by have := (hown_w5 _ k.symm).1; omega)
              exact ⟨fun o => (World.cell?_of_block (a := ⟨w.heap.size, o, none⟩) e).trans (q.cell o), fun o => (World.frozen?_of_block (a := ⟨w.heap.size, o, none⟩) e).trans (q.free o), Nat.lt_of_lt_of_le q.lt hgrow_w5.size⟩
            have B_w5 : Below w.heap.size w w5 := Below.grown (B3.alloc B3.size _) hgrow_w5 (by have := B3.size; simp; omega) (fun k hk => by have := (hown_w5 k hk).1; omega)
            clear hnews ho_w5 hgrow_w5 hat_w5 hlt_w5 hown_w5
            have HE : Hid (rinsM l p = (D ++ [x]) ++ rinsGo p (l.drop (i + 1)) true) := HD.out.trans (by rw [HC.out]; first | rfl | simp)
            clear HD HC HPT
            go_wp2
            go_roundw
            case rel => exact ⟨i + 1, D ++ [x], true, by go_num, rfl, by omega, O_w5.out, by first | omega | (simp; omega), HE, L_w5, B_w5⟩
            case measure => simp [intOf]; omega
          · have HE : Hid (rinsM l p = (D) ++ rinsGo p (l.drop (i + 1)) true) := HD.out.trans (by rw [HC.out]; first | rfl | simp)
            clear HD HC HPT
            go_wp2
            go_roundw
            case rel => exact ⟨i + 1, D, true, by go_num, rfl, by omega, O3.out, by first | omega | (simp; omega), HE, Q3, B3⟩
            case measure => simp [intOf]; omega
          · have HE : Hid (rinsM l p = (D) ++ rinsGo p (l.drop (i + 1)) true) := HD.out.trans (by rw [HC.out]; first | rfl | simp)
            clear HD HC HPT
            go_wp2
            go_roundw
            case rel => exact ⟨i + 1, D, true, by go_num, rfl, by omega, O3.out, by first | omega | (simp; omega), HE, Q3, B3⟩
            case measure => simp [intOf]; omega
    · have hi1' : ¬ (i : Int) < (l.length : Int) := by omega
      have hO' := hide hO
      obtain ⟨cq, fq, zq⟩ := id hQ
      have zb := hbel.size
      cases d
      · have HE : Hid (rinsM l p = D ++ [p]) := HD.out.trans (by rw [List.drop_of_length_le (by omega)]; rfl)
        clear HD hO
        have hnews := World.news_of_block (w := wr.alloc (.cells #[.int .i64 p.x, .int .i64 p.y, .int .i64 p.d] 31)) (cs := #[.int .i64 p.x, .int .i64 p.y, .int .i64 p.d]) (t := 31) (fr := (0, 0)) (heap_alloc_new wr _)
        go_wp2_with (at_builtin; refine wpList_append_lies _ rfl _ _ _ rfl (w.heap.size + 1) 31 i0 _ 3 24 Tryz.underlying57 hi0 hz0 hz1 hz2 rfl (by omega) u5 (D).length (ptCells (D)) rfl (hO'.out.alloc _) ⟨wr.heap.size, 0, none⟩ 1 1 (ptCell p) rfl rfl hnews (by simp [ptCell, Value.oneCell']) (by omega) (by unfold maxLen; omega) (by omega) (by simp; omega) _ rfl ?_; intro gg_w4 cp_w4 w4 ho_w4 hgrow_w4 hat_w4 hlt_w4)
        have O_w4 : Hid (w4.ownsRow (w.heap.size + 1) 31 3 (.slice (some ⟨gg_w4, 0, none⟩) ((D).length + 1) cp_w4) ((D) ++ [p]).length (ptCells ((D) ++ [p]))) := by
          refine hide ?_
          rw [ptCells_append, List.length_append]
          have e2 : ptCells [p] = ptCell p := by simp [ptCells]
          rw [e2]; exact ho_w4
        have hown_w4 := hO'.out.lt
        have L_w4 : Blk w4 w.heap.size #[.int .i64 p.x, .int .i64 p.y, .int .i64 p.d] := by
          have q := hQ.alloc (.cells #[.int .i64 p.x, .int .i64 p.y, .int .i64 p.d] 31)
          have e := hgrow_w4.block w.heap.size q.lt (fun k => by have := (hown_w4 _ k.symm).1; omega)
          exact ⟨fun o => (World.cell?_of_block (a := ⟨w.heap.size, o, none⟩) e).trans (q.cell o), fun o => (World.frozen?_of_block (a := ⟨w.heap.size, o, none⟩) e).trans (q.free o), Nat.lt_of_lt_of_le q.lt hgrow_w4.size⟩
        have B_w4 : Below w.heap.size w w4 := Below.grown (hbel.alloc hbel.size _) hgrow_w4 (by have := hbel.size; simp; omega) (fun k hk => by have := (hown_w4 k hk).1; omega)
        clear hnews ho_w4 hgrow_w4 hat_w4 hlt_w4 hown_w4
        go_wp2
        go_ret
        exact ⟨_, rfl, by rw [HE.out]; exact O_w4.out, B_w4⟩
      · have HE : Hid (rinsM l p = D) := HD.out.trans (by rw [List.drop_of_length_le (by omega)]; simp [rinsGo])
        clear HD hO
        go_wp2
        go_ret
        exact ⟨_, rfl, by rw [HE.out]; exact hO'.out, hbel⟩
end Go.Proofs.YtnkcbephceollabGreat
namespace Go.Proofs.YtnkcbephceollabGreat
open Go.RowKit
set_option linter.unusedSimpArgs false
set_option linter.unusedVariables false

theorem rinsGo_len (p : Pt) : ∀ (l : List Pt) (d : Bool), (rinsGo p l d).length ≤ l.length + (if d = true then 0 else 1)
  | [], d => by unfold rinsGo; cases d <;> simp
  | x :: l, d => by
    unfold rinsGo
    have h1 := rinsGo_len p l true
    have h2 := rinsGo_len p l false
    cases d <;> cases placeB x p <;> cases befB p x <;> simp at h1 h2 ⊢ <;> omega
theorem rins_len (l : List Pt) (p : Pt) : (rinsM l p).length ≤ l.length + 1 := by have := rinsGo_len p l false; simpa [rinsM] using this
theorem rinsGo_mem {p x : Pt} : ∀ {l : List Pt} {d : Bool}, x ∈ rinsGo p l d → x = p ∨ x ∈ l
  | [], d, h => by unfold rinsGo at h; cases d <;> simp at h; exact .inl h
  | y :: l, d, h => by
    unfold rinsGo at h
    rcases List.mem_append.1 h with h | h
    · split at h
      · exact .inl (by simpa using h)
      · cases h
    · rcases List.mem_append.1 h with h | h
      · split at h
        · cases h
        · exact .inr (by rw [List.mem_singleton.1 h]; exact List.mem_cons_self ..)
      · rcases rinsGo_mem h with h | h
        · exact .inl h
        · exact .inr (List.mem_cons_of_mem _ h)
theorem rins_gd {l : List Pt} {p : Pt} (hl : ∀ x ∈ l, Gd x) (hp : Gd p) : ∀ x ∈ rinsM l p, Gd x := fun x hx => by
  rcases rinsGo_mem hx with rfl | h
  · exact hp
  · exact hl x h
def ri (E : List (Pt × Pt)) (e : Pt × Pt) (s : List Pt) (k : Nat) : List Pt := (E.take k).foldl (fun s f => rstepM s (meetM e.1 e.2 f.1 f.2)) s
def rspO (E : List (Pt × Pt)) (i : Nat) : List Pt := (List.range i).foldl (fun s i => (E.take i).foldl (fun s f => rstepM s (meetM (E.getD i (zP, zP)).1 (E.getD i (zP, zP)).2 f.1 f.2)) (rinsM s (E.getD i (zP, zP)).1)) []
theorem ri_succ (E : List (Pt × Pt)) (e : Pt × Pt) (s : List Pt) (k : Nat) (hk : k < E.length) : ri E e s (k + 1) = rstepM (ri E e s k) (meetM e.1 e.2 (E.getD k (zP, zP)).1 (E.getD k (zP, zP)).2) := by
  unfold ri
  rw [List.take_succ_eq_append_getElem hk, List.foldl_append, List.getD_eq_getElem?_getD, List.getElem?_eq_getElem hk]; rfl
theorem rspO_succ (E : List (Pt × Pt)) (i : Nat) : rspO E (i + 1) = ri E (E.getD i (zP, zP)) (rinsM (rspO E i) (E.getD i (zP, zP)).1) i := by
  unfold rspO ri
  rw [List.range_succ, List.foldl_append]; rfl
theorem RingAt.form {w : World} {v : Value} {r : List Pt} (h : RingAt w v r) : ∃ a cap, v = .slice a r.length cap := by
  obtain ⟨a, cap, e, _⟩ := h
  exact ⟨a, cap, e⟩
theorem rinsert_r (v : Value) (l : List Pt) (p : Pt) (w : World) (hl : RingAt w v l) (gl : ∀ x ∈ l, Gd x) (hp : Gd p) (hn : l.length ≤ 99999) :
    Calls Tryz.prog 112 #[v, p.v] w fun e w' => ∃ v', e = .returned v' ∧ RingAt w' v' (rinsM l p) ∧ Below w.heap.size w w' := by
  refine (rinsert_any v l p w hl gl hp (by omega)).mono ?_
  rintro e w' ⟨v', rfl, o, k⟩
  have := rins_len l p
  exact ⟨v', rfl, ring_of_own o (by unfold maxLen; omega), k⟩

set_option maxRecDepth 100000 in
set_option maxHeartbeats 8000000 in
theorem rspots_any (ev : Value) (E : List (Pt × Pt)) (w : World) (hE : SegsAt w ev E) (gE : ∀ e ∈ E, (Gr e.1 ∧ Gr e.2) ∧ e.1 ≠ e.2) (hn : E.length ≤ 100) :
    Calls Tryz.prog 88 #[ev] w fun e w' => ∃ v', e = .returned v' ∧ RingAt w' v' (rspotsM E) ∧ Below w.heap.size w w' := by
  obtain ⟨ea, ecap, rfl, e1, e2, e3⟩ := hE
  unfold maxLen at e2
  have EE := hide e3
  have GE := hide gE
  clear e3 gE
  go_enter Tryz.func88, Tryz.ntmps88
  go_wp2_with fail
  go_loopw [3, 4, 5, 6] (fun lv iv _ _ w' => ∃ i : Nat, iv = .int .i64 i ∧ i ≤ E.length ∧ RingAt w' lv (rspO E i) ∧ (rspO E i).length ≤ 300 * i ∧ Hid (∀ x ∈ rspO E i, Gd x) ∧ Below w.heap.size w w') (fun _ iv _ _ _ => E.length - (intOf iv).toNat)
  case atStart => exact ⟨0, rfl, Nat.zero_le _, ⟨none, 0, rfl, Nat.le_refl _, by decide, fun j hj => by simp [rspO] at hj⟩, Nat.zero_le _, fun x hx => (by cases hx), Below.refl _ _⟩
  case round =>
    obtain ⟨i, rfl, hi, hR, hlen, HGd, hbel⟩ := hrel
    by_cases hlt : i < E.length
    · obtain ⟨b, off, rfl, hb, hs⟩ := EE.out i hlt
      obtain ⟨c0, c1, c2, c3, c4, c5⟩ := hs.later hbel hb
      obtain ⟨⟨g1, g2⟩, g0⟩ := GE.out _ (getD_mem hlt (zP, zP))
      have HN := hide (rspO_succ E i)
      have HSi : Hid (∀ wz, Below w.heap.size w wz → SegAt wz b (off + i * 6) (E.getD i (zP, zP))) := fun wz kz => hs.later kz hb
      generalize E.getD i (zP, zP) = e at *
      generalize rspO E i = l at *
      have hi0 : (0 : Int) ≤ (i : Int) := Int.natCast_nonneg _
      have hi1 : (i : Int) < (E.length : Int) := by omega
      have hil := rins_len l e.1
      have HGi := hide (rins_gd HGd.out g1.gd)
      have hR' := hide hR
      have hHB := hide hbel
      clear hs hR hbel
      go_wp2_with fail
      refine (rinsert_r u3 l e.1 _ hR'.out HGd.out g1.gd (by omega)).mono ?_
      rintro e' w1 ⟨v1, rfl, hR1, k1⟩
      have B1 := bvia hHB.out k1
      obtain ⟨va, vcap, rfl⟩ := hR1.form
      have hR1' := hide hR1
      have hB1' := hide B1
      clear c0 c1 c2 c3 c4 c5 k1 hR' hHB hR1 B1
      go_wp2_with fail
      go_loopw [3, 5, 6] (fun lv kv _ w' => ∃ k : Nat, kv = .int .i64 k ∧ k ≤ i ∧ RingAt w' lv (ri E e (rinsM l e.1) k) ∧ (ri E e (rinsM l e.1) k).length ≤ 300 * i + 1 + 2 * k ∧ Hid (∀ x ∈ ri E e (rinsM l e.1) k, Gd x) ∧ Below w.heap.size w w') (fun _ kv _ _ => i - (intOf kv).toNat)
      case atStart => exact ⟨0, rfl, Nat.zero_le _, hR1'.out, by show (rinsM l e.1).length ≤ _; omega, HGi, hB1'.out⟩
      case round =>
        clear hR1' hB1'
        obtain ⟨k, rfl, hk, hR, hlk, HGk, hbel⟩ := hrel
        by_cases hkt : k < i
        · obtain ⟨b', off', e0, hb', hs'⟩ := EE.out k (by omega)
          simp at e0
          obtain ⟨rfl, rfl⟩ := e0
          obtain ⟨c0, c1, c2, c3, c4, c5⟩ := hs'.later hbel hb'
          obtain ⟨d0, d1, d2, d3, d4, d5⟩ := HSi.out _ hbel
          obtain ⟨⟨g3, g4⟩, g5⟩ := GE.out _ (getD_mem (show k < E.length by omega) (zP, zP))
          have HM := hide (ri_succ E e (rinsM l e.1) k (by omega))
          generalize E.getD k (zP, zP) = f at *
          have HRm := hide (rmeet_eq g1.d g2.d g3.d g4.d g0 g5)
          have hnm := meet_nice g1 g2 g3 g4
          have C := fun wz => rmeet_any e.1 e.2 f.1 f.2 wz g1 g2 g3 g4
          have hk0 : (0 : Int) ≤ (k : Int) := Int.natCast_nonneg _
          have hk1 : (k : Int) < (E.length : Int) := by omega
          have hR' := hide hR
          have hHB := hide hbel
          have hzr := hbel.size
          have hbw : b < wr.heap.size := by omega
          clear hs' hR
          go_upto_region 9 with fail
          go_cut [6] (fun mp w' => ∃ mb : Nat, mp = .pointer (some ⟨mb, 0, none⟩) ∧ Blk w' mb #[.int .i64 (rmeetM e.1 e.2 f.1 f.2).k, .int .i64 (rmeetM e.1 e.2 f.1 f.2).p.x, .int .i64 (rmeetM e.1 e.2 f.1 f.2).p.y, .int .i64 (rmeetM e.1 e.2 f.1 f.2).p.d, .int .i64 (rmeetM e.1 e.2 f.1 f.2).q.x, .int .i64 (rmeetM e.1 e.2 f.1 f.2).q.y, .int .i64 (rmeetM e.1 e.2 f.1 f.2).q.d] ∧ Below wr.heap.size wr w')
          case first =>
            clear HM HRm hnm HSi EE GE HGk HN HGd HGi
            go_region_with (go_at_call 38; refine (C _).mono ?_; rintro e' w2 ⟨rfl, k2⟩; have hzr2 := k2.size; obtain ⟨hc1, hf1⟩ := bcell k2)
            all_goals
              clear c0 c1 c2 c3 c4 c5 d0 d1 d2 d3 d4 d5 hc1 hf1
              go_wp2_with fail
              go_meet
              first
                | (have kx : Below wr.drew.heap.size wr.drew w2 := k2; exact ⟨w2.heap.size, rfl, Blk.new w2 _ _, (bvia (Below.refl _ _).drew k2).alloc (bvia (Below.refl _ _).drew k2).size _⟩)
                | exact ⟨wr.heap.size, rfl, (((Blk.new wr _ _).drew).call k2).put7, below_set7 (bvia (((Below.refl _ _).alloc (Nat.le_refl _) _).drew) k2) (Nat.le_refl _)⟩
          case rest =>
            obtain ⟨mb, rfl, hM, k2⟩ := hcut
            rw [HRm.out] at hM
            have R2 := hide (hR'.out.later k2)
            have B2 := bvia hHB.out k2
            have HST := hide (show rstepM (ri E e (rinsM l e.1) k) (meetM e.1 e.2 f.1 f.2) = if (meetM e.1 e.2 f.1 f.2).k = 2 then rinsM (if (meetM e.1 e.2 f.1 f.2).k ≠ 0 then rinsM (ri E e (rinsM l e.1) k) (meetM e.1 e.2 f.1 f.2).p else ri E e (rinsM l e.1) k) (meetM e.1 e.2 f.1 f.2).q else (if (meetM e.1 e.2 f.1 f.2).k ≠ 0 then rinsM (ri E e (rinsM l e.1) k) (meetM e.1 e.2 f.1 f.2).p else ri E e (rinsM l e.1) k) from rfl)
            clear c0 c1 c2 c3 c4 c5 d0 d1 d2 d3 d4 d5 hbel hHB hR' k2 HRm C
            generalize meetM e.1 e.2 f.1 f.2 = m at *
            generalize hs0 : ri E e (rinsM l e.1) k = s at *
            have hil2 := rins_len s m.p
            have hil3 := rins_len (rinsM s m.p) m.q
            clear hs0
            rcases hnm with hm | ⟨hm, hmp⟩ | ⟨hm, hmp, hmq⟩
            · have HE : Hid (ri E e (rinsM l e.1) (k + 1) = s) := HM.out.trans (HST.out.trans (by rw [if_neg (by omega), if_neg (by omega)]))
              rw [hm] at hM
              obtain ⟨cm, fm, zm⟩ := hM
              clear HM HST
              go_wp2
              go_roundw
              case rel => exact ⟨k + 1, by go_num, by omega, by rw [HE.out]; exact R2.out, by rw [HE.out]; omega, by rw [HE.out]; exact HGk, B2⟩
              case measure => simp [intOf]; omega
            · have HE : Hid (ri E e (rinsM l e.1) (k + 1) = rinsM s m.p) := HM.out.trans (HST.out.trans (by rw [if_neg (by omega), if_pos (by omega)]))
              have HG2 := hide (rins_gd HGk.out (gd_nice hmp))
              rw [hm] at hM
              obtain ⟨cm, fm, zm⟩ := id hM
              clear HM HST
              go_wp2_with fail
              refine (rinsert_r u3 s m.p _ R2.out HGk.out (gd_nice hmp) (by omega)).mono ?_
              rintro e' w3 ⟨v3, rfl, hR3, k3⟩
              have M3 := hM.call k3
              have B3 := bvia B2 k3
              have R3 := hide hR3
              obtain ⟨cm3, fm3, zm3⟩ := M3
              clear cm fm zm k3 hM B2 R2 hR3
              go_wp2
              go_roundw
              case rel => exact ⟨k + 1, by go_num, by omega, by rw [HE.out]; exact R3.out, by rw [HE.out]; omega, by rw [HE.out]; exact HG2, B3⟩
              case measure => simp [intOf]; omega
            · have HE : Hid (ri E e (rinsM l e.1) (k + 1) = rinsM (rinsM s m.p) m.q) := HM.out.trans (HST.out.trans (by rw [if_pos hm, if_pos (by omega)]))
              have HG2 := hide (rins_gd HGk.out (gd_nice hmp))
              have HG3 := hide (rins_gd HG2.out (gd_nice hmq))
              rw [hm] at hM
              obtain ⟨cm, fm, zm⟩ := id hM
              clear HM HST
              go_wp2_with fail
              refine (rinsert_r u3 s m.p _ R2.out HGk.out (gd_nice hmp) (by omega)).mono ?_
              rintro e' w3 ⟨v3, rfl, hR3, k3⟩
              have M3 := hM.call k3
              have B3 := bvia B2 k3
              have R3 := hide hR3
              obtain ⟨cm3, fm3, zm3⟩ := id M3
              clear cm fm zm k3 hM B2 R2 hR3
              go_wp2_with fail
              refine (rinsert_r v3 (rinsM s m.p) m.q _ R3.out HG2.out (gd_nice hmq) (by omega)).mono ?_
              rintro e' w4 ⟨v4, rfl, hR4, k4⟩
              have B4 := bvia B3 k4
              have R4 := hide hR4
              clear cm3 fm3 zm3 k4 M3 B3 R3 hR4
              go_wp2
              go_roundw
              case rel => exact ⟨k + 1, by go_num, by omega, by rw [HE.out]; exact R4.out, by rw [HE.out]; omega, by rw [HE.out]; exact HG3, B4⟩
              case measure => simp [intOf]; omega
        · have ek : k = i := by omega
          subst ek
          have hki : ¬ (k : Int) < (k : Int) := by omega
          go_wp2
          go_roundw
          case rel => exact ⟨k + 1, by go_num, by omega, by rw [HN.out]; exact hR, by rw [HN.out]; omega, by rw [HN.out]; exact HGk, hbel⟩
          case measure => simp [intOf]; omega
    · have ei : i = E.length := by omega
      subst ei
      go_wp2
      go_ret
      exact ⟨_, rfl, hR, hbel⟩
end Go.Proofs.YtnkcbephceollabGreat
