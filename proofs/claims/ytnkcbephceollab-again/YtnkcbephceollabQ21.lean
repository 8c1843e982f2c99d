import Derived.Test.YtnkcbephceollabQ20
namespace Go.Proofs.Ytnkcbephceollab
open Go.RowKit
set_option linter.unusedSimpArgs false
set_option linter.unusedVariables false

set_option maxRecDepth 100000 in
set_option maxHeartbeats 2000000 in
theorem bordersOf_any (op : Int) (v : Value) (l : List Pc) (w : World) (hl : PcsAt w v l) (hn : l.length ≤ 1000000) :
    Calls Try.prog 33 #[.int .i64 op, v] w fun e w' => ∃ v', e = .returned v' ∧ w'.ownsRow w.heap.size 71 6 v' (bordM op l).length (segCells (bordM op l)) ∧ Below w.heap.size w w' := by
  obtain ⟨i0, hi0, hz0, hz1, hz2⟩ := info_parts infoSeg
  obtain ⟨a, cap, rfl, a1, a2, a3⟩ := hl
  unfold maxLen at a2
  have HA := hide a3
  clear a3
  go_enter Try.func33, Try.ntmps33
  go_wp2_with fail
  go_loopw [5, 7, 8, 9, 12] (fun bv _ _ _ iv w' => ∃ k : Nat, iv = .int .i64 k ∧ k ≤ l.length ∧ w'.ownsRow w.heap.size 71 6 bv (bordM op (l.take k)).length (segCells (bordM op (l.take k))) ∧ Below w.heap.size w w') (fun _ _ _ _ iv _ => l.length - (intOf iv).toNat)
  case atStart => exact ⟨0, rfl, Nat.zero_le _, World.ownsRow_nil _ _ _ _, Below.refl _ _⟩
  case round =>
    obtain ⟨k, rfl, hk, hO, hbel⟩ := hrel
    by_cases hlt : k < l.length
    · obtain ⟨b, off, rfl, hb, hs⟩ := HA.out k hlt
      have hs' := hs.later hbel hb
      have HB := hide (bord_take op l k hlt zPc)
      have hDl : (bordM op (l.take k)).length ≤ k := Nat.le_trans (bord_len op _) (by simp; omega)
      generalize l.getD k zPc = x at *
      have c0 := hs' 0 (by decide)
      have c1 := hs' 1 (by decide)
      have c2 := hs' 2 (by decide)
      have c3 := hs' 3 (by decide)
      have c4 := hs' 4 (by decide)
      have c5 := hs' 5 (by decide)
      have c6 := hs' 6 (by decide)
      have c7 := hs' 7 (by decide)
      have c8 := hs' 8 (by decide)
      have c9 := hs' 9 (by decide)
      simp only [pcCell, Nat.add_zero, List.getElem?_cons_zero, List.getElem?_cons_succ] at c0 c1 c2 c3 c4 c5 c6 c7 c8 c9
      obtain ⟨W1, hW1⟩ : ∃ W, W = wr.alloc (.cells #[.int .i64 x.p.x, .int .i64 x.p.y, .int .i64 x.p.d, .int .i64 x.q.x, .int .i64 x.q.y, .int .i64 x.q.d, .bool x.la, .bool x.ra, .bool x.lb, .bool x.rb] 65) := ⟨_, rfl⟩
      obtain ⟨pb, hpb⟩ : ∃ b, b = wr.heap.size := ⟨_, rfl⟩
      have B1 : Below w.heap.size w W1 := by rw [hW1]; exact hbel.alloc hbel.size _
      have O1 : Hid (W1.ownsRow w.heap.size 71 6 u5 (bordM op (l.take k)).length (segCells (bordM op (l.take k)))) := by rw [hW1]; exact hO.alloc _
      obtain ⟨cx, fx, zx⟩ : Blk W1 pb #[.int .i64 x.p.x, .int .i64 x.p.y, .int .i64 x.p.d, .int .i64 x.q.x, .int .i64 x.q.y, .int .i64 x.q.d, .bool x.la, .bool x.ra, .bool x.lb, .bool x.rb] := by rw [hW1, hpb]; exact Blk.new wr _ _
      have x0 := cx 0
      have x1 := cx 1
      have x2 := cx 2
      have x3 := cx 3
      have x4 := cx 4
      have x5 := cx 5
      have x6 := cx 6
      have x7 := cx 7
      have x8 := cx 8
      have x9 := cx 9
      simp at x0 x1 x2 x3 x4 x5 x6 x7 x8 x9
      have hzz := B1.size
      clear hs hs' hO hbel HA cx
      go_upto_region 5 with fail
      rw [← hW1, ← hpb]
      clear hW1 hpb c0 c1 c2 c3 c4 c5 c6 c7 c8 c9
      go_wp2_with fail
      refine (isIn_any op x.la x.lb _).mono ?_
      rintro e' w2 ⟨rfl, hw2⟩
      rw [hw2]
      clear hw2 w2
      go_wp2_with fail
      refine (isIn_any op x.ra x.rb _).mono ?_
      rintro e' w2 ⟨rfl, hw2⟩
      rw [hw2]
      clear hw2 w2
      cases eL : inM op x.la x.lb
      · cases eR : inM op x.ra x.rb
        · skip
          have HN : Hid (bordM op (l.take (k + 1)) = bordM op (l.take k)) := by rw [HB.out]; unfold bordOf; rw [eL, eR]; exact hide (List.append_nil _)
          clear HB
          have O4 : Hid (W1.ownsRow w.heap.size 71 6 u5 (bordM op (l.take (k + 1))).length (segCells (bordM op (l.take (k + 1))))) := by rw [HN.out]; exact O1
          clear x0 x1 x2 x3 x4 x5 x6 x7 x8 x9 fx
          go_wp2
          go_roundw
          case rel => exact ⟨k + 1, by go_num, by omega, O4.out, B1⟩
          case measure => simp [intOf]; omega
        · skip
          have HN : Hid (bordM op (l.take (k + 1)) = bordM op (l.take k) ++ [(x.q, x.p)]) := by rw [HB.out]; unfold bordOf; rw [eL, eR]; exact hide rfl
          clear HB
          generalize bordM op (l.take k) = D at *
          have hnews := World.news_of_block (w := W1.alloc (.cells #[.int .i64 x.q.x, .int .i64 x.q.y, .int .i64 x.q.d, .int .i64 x.p.x, .int .i64 x.p.y, .int .i64 x.p.d] 71)) (cs := #[.int .i64 x.q.x, .int .i64 x.q.y, .int .i64 x.q.d, .int .i64 x.p.x, .int .i64 x.p.y, .int .i64 x.p.d]) (t := 71) (fr := (0, 0)) (heap_alloc_new W1 _)
          have hn1 : D.length + 1 ≤ maxLen := by unfold maxLen; omega
          have hn2 : (D.length + 1) * 48 ≤ 140737488355328 := by omega
          go_wp2_with (at_builtin; refine wpList_append_lies _ rfl _ _ _ rfl w.heap.size 71 i0 _ 6 48 Try.underlying58 hi0 hz0 hz1 hz2 rfl (by omega) u5 D.length (segCells D) rfl (O1.out.alloc _) ⟨W1.heap.size, 0, none⟩ 1 1 (segCell (x.q, x.p)) rfl rfl hnews (by simp [segCell, Value.oneCell']) (by omega) hn1 hn2 (by simp; omega) _ rfl ?_; intro gg cp w4 ho hgrow hat hlt4)
          have O4 : Hid (w4.ownsRow w.heap.size 71 6 (.slice (some ⟨gg, 0, none⟩) (D.length + 1) cp) (bordM op (l.take (k + 1))).length (segCells (bordM op (l.take (k + 1))))) := by
            refine hide ?_
            rw [HN.out, segCells_snoc, List.length_append]; exact ho
          have B4 : Hid (Below w.heap.size w w4) := hide (Below.grown (B1.alloc B1.size _) hgrow (by have := B1.size; simp; omega) (fun q hq => (O1.out.lt q hq).1))
          clear ho hgrow hat hnews O1 B1 x0 x1 x2 x3 x4 x5 x6 x7 x8 x9 fx
          go_wp2
          go_roundw
          case rel => exact ⟨k + 1, by go_num, by omega, O4.out, B4.out⟩
          case measure => simp [intOf]; omega
      · cases eR : inM op x.ra x.rb
        · skip
          have HN : Hid (bordM op (l.take (k + 1)) = bordM op (l.take k) ++ [(x.p, x.q)]) := by rw [HB.out]; unfold bordOf; rw [eL, eR]; exact hide rfl
          clear HB
          generalize bordM op (l.take k) = D at *
          have hnews := World.news_of_block (w := W1.alloc (.cells #[.int .i64 x.p.x, .int .i64 x.p.y, .int .i64 x.p.d, .int .i64 x.q.x, .int .i64 x.q.y, .int .i64 x.q.d] 71)) (cs := #[.int .i64 x.p.x, .int .i64 x.p.y, .int .i64 x.p.d, .int .i64 x.q.x, .int .i64 x.q.y, .int .i64 x.q.d]) (t := 71) (fr := (0, 0)) (heap_alloc_new W1 _)
          have hn1 : D.length + 1 ≤ maxLen := by unfold maxLen; omega
          have hn2 : (D.length + 1) * 48 ≤ 140737488355328 := by omega
          go_wp2_with (at_builtin; refine wpList_append_lies _ rfl _ _ _ rfl w.heap.size 71 i0 _ 6 48 Try.underlying58 hi0 hz0 hz1 hz2 rfl (by omega) u5 D.length (segCells D) rfl (O1.out.alloc _) ⟨W1.heap.size, 0, none⟩ 1 1 (segCell (x.p, x.q)) rfl rfl hnews (by simp [segCell, Value.oneCell']) (by omega) hn1 hn2 (by simp; omega) _ rfl ?_; intro gg cp w4 ho hgrow hat hlt4)
          have O4 : Hid (w4.ownsRow w.heap.size 71 6 (.slice (some ⟨gg, 0, none⟩) (D.length + 1) cp) (bordM op (l.take (k + 1))).length (segCells (bordM op (l.take (k + 1))))) := by
            refine hide ?_
            rw [HN.out, segCells_snoc, List.length_append]; exact ho
          have B4 : Hid (Below w.heap.size w w4) := hide (Below.grown (B1.alloc B1.size _) hgrow (by have := B1.size; simp; omega) (fun q hq => (O1.out.lt q hq).1))
          clear ho hgrow hat hnews O1 B1 x0 x1 x2 x3 x4 x5 x6 x7 x8 x9 fx
          go_wp2
          go_roundw
          case rel => exact ⟨k + 1, by go_num, by omega, O4.out, B4.out⟩
          case measure => simp [intOf]; omega
        · skip
          have HN : Hid (bordM op (l.take (k + 1)) = bordM op (l.take k)) := by rw [HB.out]; unfold bordOf; rw [eL, eR]; exact hide (List.append_nil _)
          clear HB
          have O4 : Hid (W1.ownsRow w.heap.size 71 6 u5 (bordM op (l.take (k + 1))).length (segCells (bordM op (l.take (k + 1))))) := by rw [HN.out]; exact O1
          clear x0 x1 x2 x3 x4 x5 x6 x7 x8 x9 fx
          go_wp2
          go_roundw
          case rel => exact ⟨k + 1, by go_num, by omega, O4.out, B1⟩
          case measure => simp [intOf]; omega
    · have ek : l.take k = l := List.take_of_length_le (by omega)
      rw [ek] at hO
      have HO := hide hO
      clear HA hO
      go_wp2
      go_ret
      exact ⟨_, rfl, HO.out, hbel⟩
theorem infoInt : (Try.prog.info? 3).map (fun i => (i.zero, i.size, i.bytes)) = some (some (.int .i64 0), 1, 8) := by kernel_rfl
/-- Numbers, as cells. -/
def numCells (l : List Nat) : List Value := l.map fun (k : Nat) => .int .i64 (k : Int)
def folL (L : List (Pt × Pt)) (i : Nat) : List Nat := (List.range i).map (fun j => folM L j L.length)
theorem folL_succ (L : List (Pt × Pt)) (i : Nat) : folL L (i + 1) = folL L i ++ [folM L i L.length] := by
  unfold folL; rw [List.range_succ, List.map_append]; rfl
theorem folL_len (L : List (Pt × Pt)) (i : Nat) : (folL L i).length = i := by unfold folL; simp

set_option maxRecDepth 100000 in
set_option maxHeartbeats 20000000 in
theorem followers_any (v : Value) (L : List (Pt × Pt)) (w : World) (hL : SegsAt w v L) (hG : GdE L) (hn : L.length ≤ 1000000) :
    Calls Try.prog 34 #[v] w fun e w' => ∃ v', e = .returned v' ∧ w'.ownsRow w.heap.size 3 1 v' (nextsM L).length (numCells (nextsM L)) ∧ Below w.heap.size w w' := by
  obtain ⟨a, cap, rfl, a1, a2, a3⟩ := hL
  unfold maxLen at a2
  have HA := hide a3
  obtain ⟨i0, hi0, hz0, hz1, hz2⟩ := info_parts infoInt
  have HG := hide hG
  clear a3 hG
  go_enter Try.func34, Try.ntmps34
  go_wp2_with fail
  go_loopw [3, 4, 5, 6, 7, 8, 11] (fun lv _ _ _ _ _ iv w' => ∃ i : Nat, iv = .int .i64 i ∧ i ≤ L.length ∧ w'.ownsRow w.heap.size 3 1 lv i (numCells (folL L i)) ∧ Below w.heap.size w w') (fun _ _ _ _ _ _ iv _ => L.length - (intOf iv).toNat)
  case atStart => exact ⟨0, rfl, Nat.zero_le _, World.ownsRow_nil _ _ _ _, Below.refl _ _⟩
  case round =>
    obtain ⟨i, rfl, hi, hO, hbel⟩ := hrel
    by_cases hlt : i < L.length
    · obtain ⟨b, off, rfl, hb, hs⟩ := HA.out i hlt
      obtain ⟨c0, c1, c2, c3, c4, c5⟩ := hs.later hbel hb
      obtain ⟨g1, g2⟩ := HG.out i hlt
      have HFL := hide (folL_succ L i)
      have HF0 := hide (show folM L i 0 = i from rfl)
      have HFS := hide (fun k => show folM L i (k + 1) = if cmpM (edg L k).1 (edg L i).2 ≠ 0 then folM L i k else if folM L i k = i ∨ aheadM (edg L k).2 (edg L (folM L i k)).2 (edg L i) = true then k else folM L i k from rfl)
      have HLT := hide (fun k h => fol_lt (L := L) hlt k h)
      have hFl := folL_len L i
      unfold edg at HFS
      generalize L.getD i (zP, zP) = e at *
      obtain ⟨W1, hW1⟩ : ∃ W, W = wr.alloc (.cells #[.int .i64 e.1.x, .int .i64 e.1.y, .int .i64 e.1.d, .int .i64 e.2.x, .int .i64 e.2.y, .int .i64 e.2.d] 71) := ⟨_, rfl⟩
      obtain ⟨eb, heb⟩ : ∃ b, b = wr.heap.size := ⟨_, rfl⟩
      have B1 : Below w.heap.size w W1 := by rw [hW1]; exact hbel.alloc hbel.size _
      have O1 : Hid (W1.ownsRow w.heap.size 3 1 u3 i (numCells (folL L i))) := by rw [hW1]; exact hO.alloc _
      have E1 : Blk W1 eb #[.int .i64 e.1.x, .int .i64 e.1.y, .int .i64 e.1.d, .int .i64 e.2.x, .int .i64 e.2.y, .int .i64 e.2.d] := by rw [hW1, heb]; exact Blk.new wr _ _
      clear hs hO
      go_upto_region 5 with fail
      rw [← hW1, ← heb]
      clear hW1 heb c0 c1 c2 c3 c4 c5 hbel
      go_wp2_with fail
      go_loopw [6, 7, 8, 19] (fun fv _ _ kv w' => ∃ k : Nat, kv = .int .i64 k ∧ k ≤ L.length ∧ fv = .int .i64 (folM L i k : Nat) ∧ Blk w' eb #[.int .i64 e.1.x, .int .i64 e.1.y, .int .i64 e.1.d, .int .i64 e.2.x, .int .i64 e.2.y, .int .i64 e.2.d] ∧ Hid (w'.ownsRow w.heap.size 3 1 u3 i (numCells (folL L i))) ∧ Below w.heap.size w w') (fun _ _ _ kv _ => L.length - (intOf kv).toNat)
      case atStart => exact ⟨0, rfl, Nat.zero_le _, by rw [HF0.out], E1, O1, B1⟩
      case round =>
        clear E1 O1 B1
        obtain ⟨k, rfl, hk, rfl, hE, HO, hbel⟩ := hrel
        by_cases hkt : k < L.length
        · obtain ⟨b', off', e', hb', hs⟩ := HA.out k hkt
          simp at e'
          obtain ⟨rfl, rfl⟩ := e'
          obtain ⟨d0, d1, d2, d3, d4, d5⟩ := hs.later hbel hb'
          obtain ⟨g3, g4⟩ := HG.out k hkt
          have hcl := HLT.out k hk
          obtain ⟨b2, off2, e2, hb2, hs2⟩ := HA.out _ hcl
          simp at e2
          obtain ⟨rfl, rfl⟩ := e2
          obtain ⟨g5, g6⟩ := HG.out _ hcl
          have HS1 := hide (HFS.out k)
          generalize L.getD k (zP, zP) = f at *
          generalize hg : L.getD (folM L i k) (zP, zP) = g at *
          clear hg
          generalize hc : folM L i k = c at *
          clear hc
          obtain ⟨W2, hW2⟩ : ∃ W, W = wr.alloc (.cells #[.int .i64 f.1.x, .int .i64 f.1.y, .int .i64 f.1.d, .int .i64 f.2.x, .int .i64 f.2.y, .int .i64 f.2.d] 71) := ⟨_, rfl⟩
          obtain ⟨fb, hfb⟩ : ∃ b, b = wr.heap.size := ⟨_, rfl⟩
          have B2 : Below w.heap.size w W2 := by rw [hW2]; exact hbel.alloc hbel.size _
          have HO2 : Hid (W2.ownsRow w.heap.size 3 1 u3 i (numCells (folL L i))) := by rw [hW2]; exact HO.out.alloc _
          have E2 : Blk W2 eb #[.int .i64 e.1.x, .int .i64 e.1.y, .int .i64 e.1.d, .int .i64 e.2.x, .int .i64 e.2.y, .int .i64 e.2.d] := by rw [hW2]; exact hE.alloc _
          have F2 : Blk W2 fb #[.int .i64 f.1.x, .int .i64 f.1.y, .int .i64 f.1.d, .int .i64 f.2.x, .int .i64 f.2.y, .int .i64 f.2.d] := by rw [hW2, hfb]; exact Blk.new wr _ _
          have hsz := hbel.size
          clear hs
          go_upto_region 9 with fail
          rw [← hW2, ← hfb]
          clear hW2 hfb d0 d1 d2 d3 d4 d5 hbel HO hE
          obtain ⟨ce, fe, ze⟩ := id E2
          obtain ⟨cf, ff, zf⟩ := id F2
          have CC := fun wz => Compare_any f.1 e.2 wz g3 g2
          have CA := hide (fun wz => isMetAhead_any f.2 g.2 e wz g4 g6 g1 g2)
          go_wp2_with fail
          refine (CC _).mono ?_
          rintro e' w3 ⟨rfl, k3⟩
          have B3 := bvia B2 k3
          have HO3 := hide (own_later HO2.out k3)
          have E3 := E2.call k3
          have F3 := F2.call k3
          have G3 := hs2.later B3 hb2
          clear ce fe ze cf ff zf CC B2 HO2 E2 F2 k3
          generalize hcm : cmpM f.1 e.2 = cm at *
          by_cases hz : cm = 0
          · have hz' : (cm != 0) = false := by simpa using hz
            have HS2 : Hid (folM L i (k + 1) = if c = i ∨ aheadM f.2 g.2 e = true then k else c) := by rw [HS1.out, if_neg (by simpa using hz)]; exact hide rfl
            clear HS1 HFS
            obtain ⟨ce, fe, ze⟩ := id E3
            obtain ⟨cf, ff, zf⟩ := id F3
            obtain ⟨q0, q1, q2, q3, q4, q5⟩ := G3
            have B4 := hide B3
            have E4 := hide E3
            have hzb := B3.size
            clear E3 F3 B3
            go_upto_region 10 with fail
            go_cut [43] (fun cv w' => cv = .bool (decide (c = i) || aheadM f.2 g.2 e) ∧ Below w3.heap.size w3 w')
            case first =>
              clear HS2 HA HG HLT HFL HF0 HO3 B4 E4
              by_cases hci : c = i
              · subst hci
                clear CA
                go_quiet (fail)
                go_wp2
                go_meet
                case rel => exact ⟨by simp, below_drewN (Below.refl _ _) _⟩
              · have hci' : ¬ ((c : Int) = (i : Int)) := by omega
                have hc0 : (0 : Int) ≤ (c : Int) := Int.natCast_nonneg _
                have hc1 : (c : Int) < (L.length : Int) := by omega
                have y0 := cf 3
                have y1 := cf 4
                have y2 := cf 5
                have y3 := ce 0
                have y4 := ce 1
                have y5 := ce 2
                have y6 := ce 3
                have y7 := ce 4
                have y8 := ce 5
                simp at y0 y1 y2 y3 y4 y5 y6 y7 y8
                have hb3 : b < w3.heap.size := by omega
                clear ce cf q0 q1 q2
                have hci1 : ((c : Int) == (i : Int)) = false := by simp; omega
                go_region_held3 (fun w' => w'.cell? ⟨fb, 3, none⟩ = some (.int .i64 f.2.x) ∧ w'.cell? ⟨fb, 4, none⟩ = some (.int .i64 f.2.y) ∧ w'.cell? ⟨fb, 5, none⟩ = some (.int .i64 f.2.d) ∧ w'.cell? ⟨b, off + c * 6 + 3, none⟩ = some (.int .i64 g.2.x) ∧ w'.cell? ⟨b, off + c * 6 + 4, none⟩ = some (.int .i64 g.2.y) ∧ w'.cell? ⟨b, off + c * 6 + 5, none⟩ = some (.int .i64 g.2.d) ∧ w'.cell? ⟨eb, 0, none⟩ = some (.int .i64 e.1.x) ∧ w'.cell? ⟨eb, 1, none⟩ = some (.int .i64 e.1.y) ∧ w'.cell? ⟨eb, 2, none⟩ = some (.int .i64 e.1.d) ∧ w'.cell? ⟨eb, 3, none⟩ = some (.int .i64 e.2.x) ∧ w'.cell? ⟨eb, 4, none⟩ = some (.int .i64 e.2.y) ∧ w'.cell? ⟨eb, 5, none⟩ = some (.int .i64 e.2.d))
                  (first
                    | go_keep
                    | (go_split_ands
                       refine ⟨?_, ?_, ?_, ?_, ?_, ?_, ?_, ?_, ?_, ?_, ?_, ?_⟩
                       · (rw [k4.cell (p := ⟨fb, 3, none⟩) (by simp; omega)]; assumption)
                       · (rw [k4.cell (p := ⟨fb, 4, none⟩) (by simp; omega)]; assumption)
                       · (rw [k4.cell (p := ⟨fb, 5, none⟩) (by simp; omega)]; assumption)
                       · (rw [k4.cell (p := ⟨b, off + c * 6 + 3, none⟩) (by simp; omega)]; assumption)
                       · (rw [k4.cell (p := ⟨b, off + c * 6 + 4, none⟩) (by simp; omega)]; assumption)
                       · (rw [k4.cell (p := ⟨b, off + c * 6 + 5, none⟩) (by simp; omega)]; assumption)
                       · (rw [k4.cell (p := ⟨eb, 0, none⟩) (by simp; omega)]; assumption)
                       · (rw [k4.cell (p := ⟨eb, 1, none⟩) (by simp; omega)]; assumption)
                       · (rw [k4.cell (p := ⟨eb, 2, none⟩) (by simp; omega)]; assumption)
                       · (rw [k4.cell (p := ⟨eb, 3, none⟩) (by simp; omega)]; assumption)
                       · (rw [k4.cell (p := ⟨eb, 4, none⟩) (by simp; omega)]; assumption)
                       · (rw [k4.cell (p := ⟨eb, 5, none⟩) (by simp; omega)]; assumption)))
                  ((go_at_call 55; refine (CA.out _).mono ?_; rintro e' w4 ⟨rfl, k4⟩))
                all_goals
                  go_wp2_with fail
                  go_meet
                  case rel => exact ⟨by simp [hci], bvia (Below.refl _ _).drew k4⟩
            case rest =>
              obtain ⟨rfl, k4⟩ := hcut
              have B5 := bvia B4.out k4
              have E5 := E4.out.call k4
              have HO5 := hide (own_later HO3.out k4)
              clear B4 E4 HO3 CA k4 ce fe ze cf ff zf q0 q1 q2 q3 q4 q5
              cases hor : (decide (c = i) || aheadM f.2 g.2 e)
              · have HS3 : Hid (folM L i (k + 1) = c) := by rw [HS2.out, if_neg (by simpa using hor)]; exact hide rfl
                clear HS2 hor
                go_wp2
                go_roundw
                case rel => exact ⟨k + 1, by go_num, by omega, by rw [HS3.out], E5, HO5, B5⟩
                case measure => simp [intOf]; omega
              · have HS3 : Hid (folM L i (k + 1) = k) := by rw [HS2.out, if_pos (by simpa using hor)]; exact hide rfl
                clear HS2 hor
                go_wp2
                go_roundw
                case rel => exact ⟨k + 1, by go_num, by omega, by rw [HS3.out], E5, HO5, B5⟩
                case measure => simp [intOf]; omega
          · have hz' : (cm != 0) = true := by simpa using hz
            have HS2 : Hid (folM L i (k + 1) = c) := by rw [HS1.out, if_pos hz]; exact hide rfl
            clear HS1 HFS G3
            go_wp2
            go_roundw
            case rel => exact ⟨k + 1, by go_num, by omega, by rw [HS2.out], E3, HO3, B3⟩
            case measure => simp [intOf]; omega
        · have ek : k = L.length := by omega
          subst ek
          clear HFS HF0
          generalize folM L i L.length = c at *
          have hl1 := (HO.out.lt)
          have hnews := World.news_of_block (w := wr.alloc (.cells #[.int .i64 (c : Nat)] 3)) (cs := #[.int .i64 (c : Nat)]) (t := 3) (fr := (0, 0)) (heap_alloc_new wr _)
          have hsz := hbel.size
          go_wp2_with (at_builtin; refine wpList_append_lies _ rfl _ _ _ rfl w.heap.size 3 i0 _ 1 8 Try.underlying40 hi0 hz0 hz1 hz2 rfl (by omega) u3 i (numCells (folL L i)) rfl (HO.out.alloc _) ⟨wr.heap.size, 0, none⟩ 1 1 [.int .i64 (c : Nat)] rfl rfl hnews (by simp [Value.oneCell']) (by omega) (by unfold maxLen; omega) (by omega) (by simp; omega) _ rfl ?_; intro gg cp w4 ho hgrow hat hlt4)
          have O4 : Hid (w4.ownsRow w.heap.size 3 1 (.slice (some ⟨gg, 0, none⟩) (i + 1) cp) (i + 1) (numCells (folL L (i + 1)))) := by
            refine hide ?_
            rw [HFL.out]; unfold numCells; rw [List.map_append]; exact ho
          have B4 : Hid (Below w.heap.size w w4) := hide (Below.grown (hbel.alloc hbel.size _) hgrow (by have := hbel.size; simp; omega) (fun q hq => (HO.out.lt q hq).1))
          clear ho hgrow hat hnews HO hE hbel hl1
          go_wp2
          go_roundw
          case rel => exact ⟨i + 1, by go_num, by omega, O4.out, B4.out⟩
          case measure => simp [intOf]; omega
    · have ei : i = L.length := by omega
      subst ei
      have HO := hide hO
      clear hO HA HG
      go_wp2
      go_ret
      exact ⟨_, rfl, by rw [nexts_len]; exact HO.out, hbel⟩
/-- An append of a row that may be empty. -/
theorem wpList_append_both {P : Program} {w : World} {ops : Array Oper} {rest : List Oper} {o : Oper} {a : Act} {Q : Exit → Act → World → Prop} (hgd : o.guard = none) (s x : Operand) (t : TypeId)
    (ho : o.op = .call { callee := .builtin .append, args := #[s, x], argTypes := #[t, t] })
    (base : Nat) (e : TypeId) (i : TypeInfo) (z : Value) (size bytes : Nat) (ht : P.underlying t = some (.slice e)) (hi : P.info? e = some i) (hz : i.zero = some z)
    (hsize : i.size = size) (hby : i.bytes = bytes) (hzs : z.cells.size = size) (hsz : 0 < size)
    (v : Value) (n : Nat) (xs : List Value) (hs : a.eval s = v) (hown : w.ownsRow base e size v n xs)
    (ad : Option Addr) (m c : Nat) (news : List Value) (hx : a.eval x = .slice ad m c) (hl : news.length = m * size)
    (hnews : 0 < m → ∃ A, ad = some A ∧ ∀ j u, news[j]? = some u → w.cell? (A.add j) = some u) (h1 : ∀ u ∈ news, u.oneCell' = true)
    (h63 : n + m ≤ maxLen) (hbytes : (n + m) * bytes ≤ 140737488355328) (hbase : base ≤ w.heap.size)
    (h : ∀ v' w', w'.ownsRow base e size v' (n + m) (xs ++ news) → Kp (fun b => v.ownBlock = some b) w w' → wpList P ops Q rest (a.put o.dst v') w') : wpList P ops Q (o :: rest) a w := by
  by_cases hm : 0 < m
  · obtain ⟨A, rfl, hA⟩ := hnews hm
    refine wpList_append_lies w hgd s x t ho base e i z size bytes ht hi hz hsize hby hzs hsz v n xs hs hown A m c news hx hl hA h1 hm h63 hbytes hbase _ rfl ?_
    intro g cap w' h2 h3 _ _
    exact h _ _ h2 (Kp.grown (Kp.refl _ _) h3 (fun k hk => hk))
  · have hm0 : m = 0 := by omega
    subst hm0
    have hn : news = [] := List.eq_nil_of_length_eq_zero (by omega)
    subst hn
    refine wpList_append_zero hgd s x t ho base e i size ht hi v n xs hs hown ad c hx ?_
    exact h v w (by simpa using hown) (Kp.refl _ _)
theorem segs_both {w : World} {a : Option Addr} {cap : Nat} {E : List (Pt × Pt)} (h : SegsAt w (.slice a E.length cap) E) : 0 < E.length → ∃ A, a = some A ∧ ∀ j u, (segCells E)[j]? = some u → w.cell? (A.add j) = some u := by
  intro h0
  obtain ⟨a', cap', e, h1, h2, h3⟩ := h
  injection e with e1 e2 e3
  subst e1
  obtain ⟨b, off, rfl, hb, _⟩ := h3 0 h0
  refine ⟨⟨b, off, none⟩, rfl, segs_news fun j hj => ?_⟩
  obtain ⟨b', off', e', _, hp⟩ := h3 j hj
  simp at e'
  obtain ⟨rfl, rfl⟩ := e'
  exact hp
theorem ring_both {w : World} {a : Option Addr} {cap : Nat} {r : List Pt} (h : RingAt w (.slice a r.length cap) r) : 0 < r.length → ∃ A, a = some A ∧ ∀ j u, (ptCells r)[j]? = some u → w.cell? (A.add j) = some u := by
  intro h0
  obtain ⟨a', cap', e, h1, h2, h3⟩ := h
  injection e with e1 e2 e3
  subst e1
  obtain ⟨b, off, rfl, hb, _⟩ := h3 0 h0
  refine ⟨⟨b, off, none⟩, rfl, ring_news fun j hj => ?_⟩
  obtain ⟨b', off', e', _, hp⟩ := h3 j hj
  simp at e'
  obtain ⟨rfl, rfl⟩ := e'
  exact hp
end Go.Proofs.Ytnkcbephceollab
