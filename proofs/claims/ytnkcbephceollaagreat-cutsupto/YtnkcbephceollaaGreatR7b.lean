import Derived.Test.YtnkcbephceollaaGreatQ42
namespace Go.Proofs.YtnkcbephceollaaGreat
open Go.RowKit
set_option linter.unusedSimpArgs false
set_option linter.unusedVariables false

set_option maxRecDepth 100000 in
set_option maxHeartbeats 4000000 in
theorem rEdges_own (v : Value) (P : List (List Pt)) (w : World) (hP : PolyAt w v P) (hT : (edgesM P).length ≤ 100000) :
    Calls Tryz.prog 45 #[v] w fun e w' => ∃ v', e = .returned v' ∧ w'.ownsRow w.heap.size 73 6 v' (edgesM P).length (segCells (edgesM P)) ∧ Below w.heap.size w w' := by
  obtain ⟨i0, hi0, hz0, hz1, hz2⟩ := info_parts infoEdge
  obtain ⟨a, cap, rfl, h1, h2, h3⟩ := hP
  unfold maxLen at h2
  go_enter Tryz.func45, Tryz.ntmps45
  go_wp2_with fail
  go_loopw [3, 4, 5, 6] (fun ev c _ _ w' => ∃ i : Nat, c = .int .i64 i ∧ i ≤ P.length ∧ w'.ownsRow w.heap.size 73 6 ev (edgesM (P.take i)).length (segCells (edgesM (P.take i))) ∧ Below w.heap.size w w') (fun _ c _ _ _ => P.length - (intOf c).toNat)
  case atStart => exact ⟨0, rfl, Nat.zero_le _, World.ownsRow_nil _ _ _ _, Below.refl _ _⟩
  case round =>
    obtain ⟨i, rfl, hi, hown, hbel⟩ := hrel
    by_cases hlt : i < P.length
    · obtain ⟨b, off, rv, rfl, hb, hc, hring⟩ := h3 i hlt
      have hc' := (hbel.cell (p := ⟨b, off + i, none⟩) hb).trans hc
      have u0 := upToM_zero P i
      have us := fun j => upToM_succ P i j
      have ue := upToM_end P i hlt
      have ul := fun j => upToM_le P i j hlt
      generalize hr : P.getD i [] = r at *
      obtain ⟨a', cap', rfl, g1, g2, g3⟩ := hring
      unfold maxLen at g2
      rw [← u0] at hown
      have U0 := hide u0
      have US := hide us
      have UE := hide ue
      have UL := hide ul
      have HT := hide hT
      clear h3 hr u0 us ue ul hT
      go_wp2_with fail
      go_loopw [3, 6] (fun ev c w' => ∃ j : Nat, c = .int .i64 j ∧ j ≤ r.length ∧ w'.ownsRow w.heap.size 73 6 ev (upToM P i j).length (segCells (upToM P i j)) ∧ Below w.heap.size w w') (fun _ c _ => r.length - (intOf c).toNat)
      case atStart => exact ⟨0, rfl, Nat.zero_le _, hown, hbel⟩
      case round =>
        clear hown hbel hc'
        obtain ⟨j, rfl, hj, hown, hbel⟩ := hrel
        have hc' := (hbel.cell (p := ⟨b, off + i, none⟩) hb).trans hc
        by_cases hjt : j < r.length
        · obtain ⟨b', off', rfl, hb', hp'⟩ := g3 j hjt
          obtain ⟨px, py, pd⟩ := hp'.later hbel hb'
          obtain ⟨b2, off2, e2, _, hq0⟩ := g3 (if j + 1 = r.length then 0 else j + 1) (by split <;> omega)
          simp at e2
          obtain ⟨rfl, rfl⟩ := e2
          have hq := hq0.later hbel hb'
          have EA := hide (show edgeAt r j = (r.getD j zP, r.getD (if j + 1 = r.length then 0 else j + 1) zP) from rfl)
          generalize r.getD j zP = p at *
          by_cases hlast : j + 1 = r.length
          · rw [if_pos hlast] at hq EA
            generalize r.getD 0 zP = q at *
            obtain ⟨qx, qy, qd⟩ := hq
            clear g3 hp' hq0
            simp only [Nat.zero_mul, Nat.add_zero] at qx qy qd
            have e1 : ((j : Int) + 1) % (r.length : Int) = 0 := by rw [show (j : Int) + 1 = (r.length : Int) by omega]; exact Int.emod_self
            have e1t : ((j : Int) + 1).tmod (r.length : Int) = 0 := by rw [Int.tmod_eq_emod_of_nonneg (by omega)]; exact e1
            clear hlast
            have hbw : b' < wr.heap.size := by have := hbel.size; omega
            have hbw2 : b < wr.heap.size := by have := hbel.size; omega
            have hne2 : u3.ownBlock ≠ some b' := fun e => by have := (hown.lt _ e).1; omega
            have hne3 : u3.ownBlock ≠ some b := fun e => by have := (hown.lt _ e).1; omega
            have hlen := UL.out j hj
            have hT12 := HT.out
            have hn1 : (upToM P i j).length + 1 ≤ maxLen := by unfold maxLen; omega
            have hn2 : ((upToM P i j).length + 1) * 48 ≤ 140737488355328 := by omega
            have hpos : (0 : Int) < (r.length : Int) := by omega
            have hposN : 0 < r.length := by omega
            have hposM : ¬ r.length = 0 := by omega
            have hposL : ¬ r = [] := by intro e; rw [e] at hposN; simp at hposN
            have hj0 : (0 : Int) ≤ (j : Int) := Int.natCast_nonneg _
            have hj1 : (j : Int) < (r.length : Int) := by omega
            have ewr : IntKind.i64.wrap ((j : Int) + 1) = (j : Int) + 1 := by simp [IntKind.wrap, IntKind.bits, IntKind.signed]; omega
            have hii0 : (0 : Int) ≤ (i : Int) := Int.natCast_nonneg _
            have hii1 : (i : Int) < (P.length : Int) := by omega
            go_wp2_with fail
            go_region_held3 (fun w' => w'.cell? ⟨b, off + i, none⟩ = some (.slice (some ⟨b', off', none⟩) r.length cap') ∧ w'.cell? ⟨b', off' + j * 3, none⟩ = some (.int .i64 p.x) ∧ w'.cell? ⟨b', off' + j * 3 + 1, none⟩ = some (.int .i64 p.y) ∧ w'.cell? ⟨b', off' + j * 3 + 2, none⟩ = some (.int .i64 p.d) ∧
                w'.cell? ⟨b', off', none⟩ = some (.int .i64 q.x) ∧ w'.cell? ⟨b', off' + 1, none⟩ = some (.int .i64 q.y) ∧ w'.cell? ⟨b', off' + 2, none⟩ = some (.int .i64 q.d))
              (first
                | go_keep
                | (go_split_ands
                   refine ⟨?_, ?_, ?_, ?_, ?_, ?_, ?_⟩
                   · (rw [hgrow.cell_far _ (by simp; omega) (Ne.symm hne3)]; assumption)
                   · (rw [hgrow.cell_far _ (by simp; omega) (Ne.symm hne2)]; assumption)
                   · (rw [hgrow.cell_far _ (by simp; omega) (Ne.symm hne2)]; assumption)
                   · (rw [hgrow.cell_far _ (by simp; omega) (Ne.symm hne2)]; assumption)
                   · (rw [hgrow.cell_far _ (by simp; omega) (Ne.symm hne2)]; assumption)
                   · (rw [hgrow.cell_far _ (by simp; omega) (Ne.symm hne2)]; assumption)
                   · (rw [hgrow.cell_far _ (by simp; omega) (Ne.symm hne2)]; assumption)))
              ((refine step_append_lies _ (by rfl) _ _ _ (by rfl) w.heap.size 73 i0 _ 6 48 Tryz.underlying78 hi0 hz0 hz1 hz2 rfl (by omega) u3 (upToM P i j).length (segCells (upToM P i j)) (by rfl) ((hown.alloc _).drew) ⟨wr.heap.size, 0, none⟩ 1 1 (segCell (p, q)) (by rfl) (by rfl) (World.news_of_block (cs := #[.int .i64 p.x, .int .i64 p.y, .int .i64 p.d, .int .i64 q.x, .int .i64 q.y, .int .i64 q.d]) (t := 73) (fr := (0, 0)) (heap_alloc_new wr _)) (by simp [segCell, Value.oneCell']) (by omega) hn1 hn2 (by have := hbel.size; simp; omega) (wr.heap.size + 1) (by simp) ?_; intro gg cp w1 hown1 hgrow hat hlt1))
            have HO : Hid (w1.ownsRow w.heap.size 73 6 (.slice (some ⟨gg, 0, none⟩) ((upToM P i j).length + 1) cp) (upToM P i (j + 1)).length (segCells (upToM P i (j + 1)))) := by
              refine hide ?_
              have e := US.out j hjt
              rw [EA.out] at e
              rw [e, segCells_snoc]
              simpa using hown1
            have B1 : Below w.heap.size w w1 := by
              refine Below.grown ((hbel.alloc hbel.size _).drew) hgrow (by have := hbel.size; simp; omega) (fun k hk => (hown.lt k hk).1)
            clear hown hown1 hgrow px py pd qx qy qd hat
            go_wp2
            go_roundw
            case rel => exact ⟨j + 1, by go_num, by omega, HO, B1⟩
            case measure => simp [intOf]; omega
          · rw [if_neg hlast] at hq EA
            generalize r.getD (j + 1) zP = q at *
            obtain ⟨qx, qy, qd⟩ := hq
            clear g3 hp' hq0
            have e1 : ((j : Int) + 1) % (r.length : Int) = (j : Int) + 1 := Int.emod_eq_of_lt (by omega) (by omega)
            have e1t : ((j : Int) + 1).tmod (r.length : Int) = (j : Int) + 1 := by rw [Int.tmod_eq_emod_of_nonneg (by omega)]; exact e1
            have e2 : (j : Int) + 1 < (r.length : Int) := by omega
            have e3 : (0 : Int) ≤ (j : Int) + 1 := by omega
            have hbw : b' < wr.heap.size := by have := hbel.size; omega
            have hbw2 : b < wr.heap.size := by have := hbel.size; omega
            have hne2 : u3.ownBlock ≠ some b' := fun e => by have := (hown.lt _ e).1; omega
            have hne3 : u3.ownBlock ≠ some b := fun e => by have := (hown.lt _ e).1; omega
            have hlen := UL.out j hj
            have hT12 := HT.out
            have hn1 : (upToM P i j).length + 1 ≤ maxLen := by unfold maxLen; omega
            have hn2 : ((upToM P i j).length + 1) * 48 ≤ 140737488355328 := by omega
            have hpos : (0 : Int) < (r.length : Int) := by omega
            have hposN : 0 < r.length := by omega
            have hposM : ¬ r.length = 0 := by omega
            have hposL : ¬ r = [] := by intro e; rw [e] at hposN; simp at hposN
            have hj0 : (0 : Int) ≤ (j : Int) := Int.natCast_nonneg _
            have hj1 : (j : Int) < (r.length : Int) := by omega
            have ewr : IntKind.i64.wrap ((j : Int) + 1) = (j : Int) + 1 := by simp [IntKind.wrap, IntKind.bits, IntKind.signed]; omega
            have hii0 : (0 : Int) ≤ (i : Int) := Int.natCast_nonneg _
            have hii1 : (i : Int) < (P.length : Int) := by omega
            go_wp2_with fail
            go_region_held3 (fun w' => w'.cell? ⟨b, off + i, none⟩ = some (.slice (some ⟨b', off', none⟩) r.length cap') ∧ w'.cell? ⟨b', off' + j * 3, none⟩ = some (.int .i64 p.x) ∧ w'.cell? ⟨b', off' + j * 3 + 1, none⟩ = some (.int .i64 p.y) ∧ w'.cell? ⟨b', off' + j * 3 + 2, none⟩ = some (.int .i64 p.d) ∧
                w'.cell? ⟨b', off' + (j + 1) * 3, none⟩ = some (.int .i64 q.x) ∧ w'.cell? ⟨b', off' + (j + 1) * 3 + 1, none⟩ = some (.int .i64 q.y) ∧ w'.cell? ⟨b', off' + (j + 1) * 3 + 2, none⟩ = some (.int .i64 q.d))
              (first
                | go_keep
                | (go_split_ands
                   refine ⟨?_, ?_, ?_, ?_, ?_, ?_, ?_⟩
                   · (rw [hgrow.cell_far _ (by simp; omega) (Ne.symm hne3)]; assumption)
                   · (rw [hgrow.cell_far _ (by simp; omega) (Ne.symm hne2)]; assumption)
                   · (rw [hgrow.cell_far _ (by simp; omega) (Ne.symm hne2)]; assumption)
                   · (rw [hgrow.cell_far _ (by simp; omega) (Ne.symm hne2)]; assumption)
                   · (rw [hgrow.cell_far _ (by simp; omega) (Ne.symm hne2)]; assumption)
                   · (rw [hgrow.cell_far _ (by simp; omega) (Ne.symm hne2)]; assumption)
                   · (rw [hgrow.cell_far _ (by simp; omega) (Ne.symm hne2)]; assumption)))
              ((refine step_append_lies _ (by rfl) _ _ _ (by rfl) w.heap.size 73 i0 _ 6 48 Tryz.underlying78 hi0 hz0 hz1 hz2 rfl (by omega) u3 (upToM P i j).length (segCells (upToM P i j)) (by rfl) ((hown.alloc _).drew) ⟨wr.heap.size, 0, none⟩ 1 1 (segCell (p, q)) (by rfl) (by rfl) (World.news_of_block (cs := #[.int .i64 p.x, .int .i64 p.y, .int .i64 p.d, .int .i64 q.x, .int .i64 q.y, .int .i64 q.d]) (t := 73) (fr := (0, 0)) (heap_alloc_new wr _)) (by simp [segCell, Value.oneCell']) (by omega) hn1 hn2 (by have := hbel.size; simp; omega) (wr.heap.size + 1) (by simp) ?_; intro gg cp w1 hown1 hgrow hat hlt1))
            have HO : Hid (w1.ownsRow w.heap.size 73 6 (.slice (some ⟨gg, 0, none⟩) ((upToM P i j).length + 1) cp) (upToM P i (j + 1)).length (segCells (upToM P i (j + 1)))) := by
              refine hide ?_
              have e := US.out j hjt
              rw [EA.out] at e
              rw [e, segCells_snoc]
              simpa using hown1
            have B1 : Below w.heap.size w w1 := by
              refine Below.grown ((hbel.alloc hbel.size _).drew) hgrow (by have := hbel.size; simp; omega) (fun k hk => (hown.lt k hk).1)
            clear hown hown1 hgrow px py pd qx qy qd hat
            go_wp2
            go_roundw
            case rel => exact ⟨j + 1, by go_num, by omega, HO, B1⟩
            case measure => simp [intOf]; omega
        · have ej : j = r.length := by omega
          subst ej
          have HO : Hid (wr.ownsRow w.heap.size 73 6 u3 (edgesM (P.take (i + 1))).length (segCells (edgesM (P.take (i + 1))))) := by
            rw [UE.out] at hown; exact hown
          clear hown g3
          go_wp2
          go_roundw
          case rel => exact ⟨i + 1, by go_num, by omega, HO, hbel⟩
          case measure => simp [intOf]; omega
    · have e : P.take i = P := List.take_of_length_le (by omega)
      rw [e] at hown
      clear h3
      go_wp2
      go_ret
      exact ⟨_, rfl, hown, hbel⟩
end Go.Proofs.YtnkcbephceollaaGreat
