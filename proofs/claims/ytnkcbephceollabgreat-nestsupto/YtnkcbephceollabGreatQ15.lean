import Derived.Test.YtnkcbephceollabGreatQ14
import Derived.Test.YtnkcbephceollabGreatRows
import Derived.Test.YtnkcbephceollabGreatQ4
import Derived.Test.YtnkcbephceollabGreatQ1
import Derived.Test.YtnkcbephceollabGreatQ3
namespace Go.Proofs.YtnkcbephceollabGreat
open Go.RowKit Go.ChangeShapes Go.WideShapes
set_option linter.unusedSimpArgs false
set_option linter.unusedVariables false


/-- How many lists a script hands in, up to step k. -/
def sumTo (N : Nat → List (List Pt)) : Nat → Nat
  | 0 => 0
  | k + 1 => sumTo N k + (1 + (N k).length)
theorem sumTo_mono (N : Nat → List (List Pt)) {j k : Nat} (h : j ≤ k) : sumTo N j ≤ sumTo N k := by
  induction k with
  | zero => have : j = 0 := by omega
            subst this; exact Nat.le_refl _
  | succ k ih =>
    by_cases e : j = k + 1
    · subst e; exact Nat.le_refl _
    · have := ih (by omega)
      simp only [sumTo]; omega

section
variable {H : Type} {enc : TypeId × Value → H} {w : World} {base : Nat} {spare : Nat → Bool} {held : Bool}



/-- A script with its polygons: the first polygon of step k reads as N k, the second as M k. -/
def PolysAt (w : World) (a : Option Addr) (len : Nat) (N M : Nat → List (List Pt)) : Prop :=
  ∀ k, k < len → ∃ (b off : Nat) (kd n : Int) (A B : Value) (p q r s : Pt), a = some ⟨b, off, none⟩ ∧ b < w.heap.size ∧ OpAt w b (off + k * 16) kd n A B p q r s ∧ PolyAt w A (N k) ∧ PolyAt w B (M k)
/-- No ring of it is longer than this. -/
def Short (N : List (List Pt)) : Prop := ∀ i, i < N.length → (N.getD i []).length ≤ 1048576

set_option maxRecDepth 100000 in
theorem polys_of {fuel : Nat} {a0 : Option Addr} {len0 cap0 : Nat} {x : DataW H × List MemPlace} (h : DataW.trod enc Tryz.prog w base spare held fuel 22 [.slice a0 len0 cap0] = some x) (hs : Rows.uptoBulk x.1 ≤ 1048576) :
    len0 ≤ 9223372036854775807 ∧ ∃ N M, PolysAt w a0 len0 N M ∧ sumTo N len0 ≤ 1048576 ∧ sumTo M len0 ≤ 1048576 ∧ ∀ k, k < len0 → Short (N k) ∧ Short (M k) := by
  rcases Deep.open_slice Tryz.underlying22 h with ⟨hcs, _⟩ | ⟨a, len, cap, m, n, D, Pl, hcs, hb, hl, hm, hmm, hx, hel⟩
  · simp at hcs
    obtain ⟨_, rfl, _⟩ := hcs
    exact ⟨by omega, fun _ => [], fun _ => [], fun k hk => absurd hk (Nat.not_lt_zero _), by simp [sumTo], by simp [sumTo], fun k hk => absurd hk (Nat.not_lt_zero _)⟩
  · simp at hcs
    obtain ⟨rfl, rfl, rfl⟩ := hcs
    have hml : len0 ≤ m := by rw [hmm]; split <;> omega
    have hbulk : Rows.uptoBulk x.1 = Rows.uptoBulkAll ((List.range len0).map D) + Rows.uptoBulkAll ((List.range (m - len0)).map fun j => D (len0 + j)) + 1 := by
      rw [hx]; simp only [Rows.uptoBulk]
    have hone : ∀ k, k < len0 → Rows.uptoBulk (D k) ≤ 1048576 := fun k hk => by
      have h2 := bulk_mem (d := D k) (l := (List.range len0).map D) (List.mem_map.2 ⟨k, List.mem_range.2 hk, rfl⟩)
      omega
    have hspot : 0 < len0 → ∃ b off, a = ⟨b, off, none⟩ := fun h0 => by
      obtain ⟨cs', h1, h2⟩ := hel 0 (by omega)
      obtain ⟨_, _, h4⟩ := World.cells?_some h1
      rw [cellsOp] at h4
      obtain ⟨_, _, _, _, _, _, _, _, rfl, _⟩ := op_of h2
      have h5 := h4 0 (by decide)
      rw [Nat.zero_mul, add_zero, add_zero] at h5
      exact spot_of h5
    have hp : ∀ k, ∃ NM : List (List Pt) × List (List Pt), k < len0 → (∃ (b off : Nat) (kd n : Int) (A B : Value) (p q r s : Pt), some a = some ⟨b, off, none⟩ ∧ b < w.heap.size ∧ OpAt w b (off + k * 16) kd n A B p q r s ∧ PolyAt w A NM.1 ∧ PolyAt w B NM.2) ∧
        1 + NM.1.length ≤ Rows.uptoBulk (D k) ∧ 1 + NM.2.length ≤ Rows.uptoBulk (D k) ∧ (∀ i, i < NM.1.length → (NM.1.getD i []).length ≤ Rows.uptoBulk (D k)) ∧ (∀ i, i < NM.2.length → (NM.2.getD i []).length ≤ Rows.uptoBulk (D k)) := by
      intro k
      by_cases hk : k < len0
      · obtain ⟨cs', h1, h2⟩ := hel k (by omega)
        obtain ⟨_, _, h4⟩ := World.cells?_some h1
        rw [cellsOp] at h4
        obtain ⟨kd, n', A, B, p, q, r, s, rfl, parts, hparts, ⟨fA, yA, tA, mA⟩, ⟨fB, yB, tB, mB⟩⟩ := op_of h2
        have hparts' : D k = .agg parts := hparts
        obtain ⟨b, off, rfl⟩ := hspot (by omega)
        have hc := fun j hj => (congrArg w.cell? (cell_off (a := ⟨b, off, none⟩) rfl (k * 16) j)).symm.trans (h4 j hj)
        obtain ⟨PA, pA, lA, rA⟩ := poly_of tA
        obtain ⟨PB, pB, lB, rB⟩ := poly_of tB
        have bA := bulk_mem mA
        have bB := bulk_mem mB
        have hD : Rows.uptoBulk (D k) = Rows.uptoBulkAll parts + 1 := by rw [hparts']; simp only [Rows.uptoBulk]
        refine ⟨(PA, PB), fun _ => ⟨⟨b, off, kd, n', A, B, p, q, r, s, rfl, World.block_lt_of_cell? w ⟨b, off + k * 16, none⟩ (hc 0 (by decide)), ?_, pA, pB⟩, by simp only; omega, by simp only; omega, fun i hi => by have := rA i hi; simp only; omega, fun i hi => by have := rB i hi; simp only; omega⟩⟩
        exact ⟨hc 0 (by decide), hc 1 (by decide), hc 2 (by decide), hc 3 (by decide), hc 4 (by decide), hc 5 (by decide), hc 6 (by decide), hc 7 (by decide), hc 8 (by decide), hc 9 (by decide), hc 10 (by decide), hc 11 (by decide), hc 12 (by decide), hc 13 (by decide), hc 14 (by decide), hc 15 (by decide)⟩
      · exact ⟨([], []), fun h => absurd h hk⟩
    obtain ⟨f, hf⟩ := Classical.axiomOfChoice hp
    have sumN : ∀ k, k ≤ len0 → sumTo (fun j => (f j).1) k ≤ Rows.uptoBulkAll ((List.range k).map D) := by
      intro k
      induction k with
      | zero => intro _; simp [sumTo]
      | succ k ih =>
        intro hk
        have h1 := ih (by omega)
        have h2 := (hf k (by omega)).2.1
        rw [List.range_succ, List.map_append, bulk_app]
        simp only [sumTo, List.map_cons, List.map_nil, Rows.uptoBulkAll]
        omega
    have sumM : ∀ k, k ≤ len0 → sumTo (fun j => (f j).2) k ≤ Rows.uptoBulkAll ((List.range k).map D) := by
      intro k
      induction k with
      | zero => intro _; simp [sumTo]
      | succ k ih =>
        intro hk
        have h1 := ih (by omega)
        have h2 := (hf k (by omega)).2.2.1
        rw [List.range_succ, List.map_append, bulk_app]
        simp only [sumTo, List.map_cons, List.map_nil, Rows.uptoBulkAll]
        omega
    refine ⟨by unfold maxLen at hm; omega, fun j => (f j).1, fun j => (f j).2, fun k hk => (hf k hk).1, by have := sumN len0 (Nat.le_refl _); omega, by have := sumM len0 (Nat.le_refl _); omega, fun k hk => ⟨fun i hi => ?_, fun i hi => ?_⟩⟩
    · exact Nat.le_trans ((hf k hk).2.2.2.1 i hi) (hone k hk)
    · exact Nat.le_trans ((hf k hk).2.2.2.2 i hi) (hone k hk)
end
end Go.Proofs.YtnkcbephceollabGreat
namespace Go.Proofs.YtnkcbephceollabGreat
open Go.RowKit
set_option linter.unusedSimpArgs false
set_option linter.unusedVariables false

theorem Wld.holds {w : World} {base wb : Nat} {hv : Value} {L : List Nat} {F : Nat → Nat → Prop} (h : Wld w base wb hv L F) : HoldsAt w hv L ∧ AllMk w L := by
  refine ⟨?_, fun j hj => ?_⟩
  · obtain ⟨a, cap, e1, e2, e3, e4⟩ := own_form h.own
    refine ⟨a, cap, e1, by unfold maxLen at e4; omega, fun j hj => ?_⟩
    obtain ⟨b, hb⟩ := e3 (by omega)
    have hc := own_cell h.own b hb j (by omega)
    rw [List.getElem?_map, List.getElem?_eq_getElem hj] at hc
    refine ⟨b, 0, e2 b hb, ?_⟩
    rw [Nat.zero_add, List.getD_eq_getElem?_getD, List.getElem?_eq_getElem hj]
    exact hc
  · have hm : L.getD j 0 ∈ L := by rw [List.getD_eq_getElem?_getD, List.getElem?_eq_getElem hj]; exact List.getElem_mem hj
    obtain ⟨m, rv, pv, cv, nv, k⟩ := h.all _ hm
    exact ⟨F, m, rv, pv, cv, nv, k⟩
theorem Wld.drewN {w : World} {base wb : Nat} {hv : Value} {L : List Nat} {F : Nat → Nat → Prop} (h : Wld w base wb hv L F) (n : Nat) : Wld (w.drewN n) base wb hv L F :=
  h.kp (X := fun _ => False) ((Kp.refl _ _).drewN n) (fun e => e) (fun _ _ e => e) (fun b o u f c => ⟨c, f⟩)
/-- No hold yet. -/
theorem wld_new (w : World) (t : TypeId) : Wld (w.alloc (.cells #[.slice none 0 0] t)) (w.heap.size + 1) w.heap.size (.slice none 0 0) [] (FX (fun _ _ => True) w.heap.size (.slice none 0 0)) :=
  ⟨Blk.new w _ _, World.ownsRow_nil _ _ _ _, Nat.lt_succ_self _, fun h hh => by cases hh⟩
theorem below_of_kp {w wr w1 : World} {hv : Value} {L : List Nat} {F : Nat → Nat → Prop} (h : Below w.heap.size w wr) (W : Wld wr (w.heap.size + 1) w.heap.size hv L F) (k : Kp (fun b => b = w.heap.size ∨ hv.ownBlock = some b) wr w1) : Below w.heap.size w w1 :=
  ⟨k.os.trans h.os, k.tape.trans h.tape, k.output.trans h.output, Nat.le_trans h.size k.size, fun b hb => (k.block b (Nat.lt_of_lt_of_le hb h.size) (fun e => by
    rcases e with e | e
    · omega
    · have := (W.own.lt b e).1; omega)).trans (h.block b hb)⟩

set_option maxRecDepth 100000 in
set_option maxHeartbeats 4000000 in
theorem upto_checks (a0 : Option Addr) (len0 cap0 : Nat) (N M : Nat → List (List Pt)) (w : World) (hlen : len0 ≤ 9223372036854775807) (hops : PolysAt w a0 len0 N M) (hsum : sumTo N len0 ≤ 1048576) (hsh : ∀ k, k < len0 → Short (N k)) :
    Calls Tryz.prog 5 #[.slice a0 len0 cap0, .int .i64 2, .int .i64 2] w fun e w' => e = .returned (.int .i64 (-1)) ∧ Below w.heap.size w w' := by
  go_enter Tryz.func5, Tryz.ntmps5
  go_wp2_with fail
  go_loopw [8, 9, 10] (fun i _ _ w' => ∃ (k : Nat) (hv : Value) (L : List Nat), i = .int .i64 k ∧ k ≤ len0 ∧ L.length ≤ 4 * sumTo N k ∧ Wld w' (w.heap.size + 1) w.heap.size hv L (FX (fun _ _ => True) w.heap.size hv) ∧ Below w.heap.size w w') (fun i _ _ _ => (len0 - (intOf i).toNat))
  case atStart => exact ⟨0, _, [], rfl, Nat.zero_le _, by simp, wld_new w _, (Below.refl _ _).alloc (Nat.le_refl _) _⟩
  case round =>
    obtain ⟨k, hv, L, rfl, hk, hL, hW, hbel⟩ := hrel
    have HW := hide hW
    have wlt := hW.blk.lt
    have fw := hW.blk.free
    have cw := hW.blk.cell 0
    simp at cw
    by_cases hlt : k < len0
    · obtain ⟨b, off, kd, n, A, B, p, q, r, s, rfl, hb, hop, hPA, _⟩ := hops k hlt
      obtain ⟨c0, c1, c2, c3, c4, c5, c6, c7, c8, c9, c10, c11, c12, c13, c14, c15⟩ := hop.later hbel hb
      have hs1 := sumTo_mono N (show k + 1 ≤ len0 by omega)
      have hs2 : sumTo N (k + 1) = sumTo N k + (1 + (N k).length) := rfl
      have HB := hide hbel
      have HS := hide (hsh k hlt)
      have HP := hide (hPA.later hbel)
      have hs3 : L.length ≤ 4 * sumTo N (k + 1) := by omega
      clear hops hop hsh hPA hW hbel
      rcases Int.lt_trichotomy kd 2 with h | rfl | h
      · go_wp2
        exact ⟨⟨k + 1, hv, L, by go_num, by omega, hs3, HW.out, HB.out⟩, by simp [intOf]; omega⟩
      · have hpl := hide (plays_check (w.heap.size + 1) w.heap.size hv L n A B p q r s (N k) wr (by omega) HS.out (by omega) (by omega) HP.out HW.out)
        go_wp2_with fail
        refine hpl.out.mono ?_
        rintro e w1 ⟨rfl, hv1, L1, hl1, hW1, hk1⟩
        have B1 := hide (below_of_kp HB.out HW.out hk1)
        have HW1 := hide hW1
        have HO := hide hW1.holds
        have cw1 := hW1.blk.cell 0
        simp at cw1
        clear hpl hk1 hW1 c0 c1 c2 c3 c4 c5 c6 c7 c8 c9 c10 c11 c12 c13 c14 c15 cw fw
        go_wp2_with fail
        refine (looks_yes w.heap.size hv1 L1 _ cw1 HO.out.1 HO.out.2).mono ?_
        rintro e w2 ⟨rfl, m, rfl⟩
        have B2 : Hid (Below w.heap.size w (w1.drewN m)) := below_drewN B1.out m
        have HW2 := hide (HW1.out.drewN m)
        clear B1 HW1 HO cw1
        go_wp2
        exact ⟨⟨k + 1, hv1, L1, by go_num, by omega, by omega, HW2.out, B2.out⟩, by simp [intOf]; omega⟩
      · go_wp2
        exact ⟨⟨k + 1, hv, L, by go_num, by omega, hs3, HW.out, HB.out⟩, by simp [intOf]; omega⟩
    · clear hops hsh hW
      go_wp2
      go_ret
      exact ⟨rfl, hbel⟩
end Go.Proofs.YtnkcbephceollabGreat
namespace Go.Proofs.YtnkcbephceollabGreat
open Go.RowKit
set_option linter.unusedSimpArgs false
set_option linter.unusedVariables false

/-- Neither ahead of the segment nor behind it. -/
def spanM (a b p : Pt) : Bool := !decide (cmpM p (firstM a b) < 0) && decide (cmpM p (lastM a b) < 0)
def sideM (a b p : Pt) : Int := detM (firstM a b) (lastM a b) p
def hasM (a b p : Pt) : Bool := !decide (cmpM p (firstM a b) < 0) && (!decide (0 < cmpM p (lastM a b)) && decide (sideM a b p = 0))
def overM (a b p : Pt) : Bool := spanM a b p && decide (sideM a b p < 0)
theorem span_no {a b p : Pt} (h : cmpM p (firstM a b) < 0) : spanM a b p = false := by unfold spanM; simp [h]
theorem span_of {a b p : Pt} (h : ¬ cmpM p (firstM a b) < 0) : spanM a b p = decide (cmpM p (lastM a b) < 0) := by unfold spanM; simp [h]
theorem has_no {a b p : Pt} (h : cmpM p (firstM a b) < 0) : hasM a b p = false := by unfold hasM; simp [h]
theorem has_no2 {a b p : Pt} (h : 0 < cmpM p (lastM a b)) : hasM a b p = false := by unfold hasM; simp [h]
theorem has_of {a b p : Pt} (h : ¬ cmpM p (firstM a b) < 0) (h2 : ¬ 0 < cmpM p (lastM a b)) : hasM a b p = decide (sideM a b p = 0) := by unfold hasM; simp [h, h2]

set_option maxHeartbeats 1000000 in
theorem Spans_any (a b p : Pt) (w : World) (ha : Gd a) (hb : Gd b) (hp : Gd p) :
    Calls Tryz.prog 110 #[sg a b, p.v] w fun e w' => e = .returned (.bool (spanM a b p)) ∧ Below w.heap.size w w' := by
  have gf := firstM_gd ha hb
  have gl := lastM_gd ha hb
  by_cases h : cmpM p (firstM a b) < 0
  · have H := hide (span_no h)
    go_enter Tryz.func110, Tryz.ntmps110
    go_wp2_with fail
    refine (Forward_any a b _ ha hb).mono ?_
    rintro e w1 ⟨rfl, k⟩
    have B1 := bvia (below2 _ _ _) k
    obtain ⟨cp1, fp1, zp1⟩ := (Blk.at (w.heap.size + 1) (by simp)).call k
    clear k
    go_wp2_with fail
    refine (Compare_any p (firstM a b) _ hp gf).mono ?_
    rintro e w2 ⟨rfl, k⟩
    have B2 := bvia (B1.alloc B1.size _) k
    clear k cp1 fp1 B1
    go_wp2
    go_ret
    exact ⟨ret_bool H.out.symm, B2⟩
  · have H := hide (span_of h)
    go_enter Tryz.func110, Tryz.ntmps110
    go_wp2_with fail
    refine (Forward_any a b _ ha hb).mono ?_
    rintro e w1 ⟨rfl, k⟩
    have B1 := bvia (below2 _ _ _) k
    obtain ⟨cp1, fp1, zp1⟩ := (Blk.at (w.heap.size + 1) (by simp)).call k
    clear k
    go_wp2_with fail
    refine (Compare_any p (firstM a b) _ hp gf).mono ?_
    rintro e w2 ⟨rfl, k⟩
    have B2 := bvia (B1.alloc B1.size _) k
    obtain ⟨cp2, fp2, zp2⟩ := ((Blk.mk cp1 fp1 zp1).alloc _).call k
    obtain ⟨cf2, ff2, zf2⟩ := (Blk.new w1 _ _).call k
    clear k cp1 fp1 B1
    go_wp2_with fail
    refine (Compare_any p (lastM a b) _ hp gl).mono ?_
    rintro e w3 ⟨rfl, k⟩
    have B3 := bvia B2 k
    clear k cp2 fp2 cf2 ff2 B2
    go_wp2
    go_ret
    exact ⟨ret_bool H.out.symm, B3⟩

set_option maxHeartbeats 1000000 in
theorem segSide_any (a b p : Pt) (w : World) (ha : Gd a) (hb : Gd b) (hp : Gd p) :
    Calls Tryz.prog 128 #[sg a b, p.v] w fun e w' => e = .returned (.int .i64 (sideM a b p)) ∧ Below w.heap.size w w' := by
  have gf := firstM_gd ha hb
  have gl := lastM_gd ha hb
  go_enter Tryz.func128, Tryz.ntmps128
  go_wp2_with fail
  refine (Forward_any a b _ ha hb).mono ?_
  rintro e w1 ⟨rfl, k⟩
  have B1 := bvia (below2 _ _ _) k
  obtain ⟨cp1, fp1, zp1⟩ := (Blk.at (w.heap.size + 1) (by simp)).call k
  clear k
  go_wp2_with fail
  refine (Side_any (firstM a b) (lastM a b) p _ gf gl hp).mono ?_
  rintro e w2 ⟨rfl, k⟩
  have B2 := bvia (B1.alloc B1.size _) k
  clear k cp1 fp1 B1
  go_wp2
  go_ret
  exact ⟨rfl, B2⟩

set_option maxHeartbeats 1000000 in
theorem Has_any (a b p : Pt) (w : World) (ha : Gd a) (hb : Gd b) (hp : Gd p) :
    Calls Tryz.prog 105 #[sg a b, p.v] w fun e w' => e = .returned (.bool (hasM a b p)) ∧ Below w.heap.size w w' := by
  have gf := firstM_gd ha hb
  have gl := lastM_gd ha hb
  by_cases h : cmpM p (firstM a b) < 0
  · have H := hide (has_no h)
    go_enter Tryz.func105, Tryz.ntmps105
    go_wp2_with fail
    refine (Forward_any a b _ ha hb).mono ?_
    rintro e w1 ⟨rfl, k⟩
    have B1 := bvia (below2 _ _ _) k
    obtain ⟨cp1, fp1, zp1⟩ := (Blk.at (w.heap.size + 1) (by simp)).call k
    clear k
    go_wp2_with fail
    refine (Compare_any p (firstM a b) _ hp gf).mono ?_
    rintro e w2 ⟨rfl, k⟩
    have B2 := bvia (B1.alloc B1.size _) k
    clear k cp1 fp1 B1
    go_wp2
    go_ret
    exact ⟨ret_bool H.out.symm, B2⟩
  by_cases h2 : 0 < cmpM p (lastM a b)
  · have H := hide (has_no2 h2)
    go_enter Tryz.func105, Tryz.ntmps105
    go_wp2_with fail
    refine (Forward_any a b _ ha hb).mono ?_
    rintro e w1 ⟨rfl, k⟩
    have B1 := bvia (below2 _ _ _) k
    obtain ⟨cp1, fp1, zp1⟩ := (Blk.at (w.heap.size + 1) (by simp)).call k
    clear k
    go_wp2_with fail
    refine (Compare_any p (firstM a b) _ hp gf).mono ?_
    rintro e w2 ⟨rfl, k⟩
    have B2 := bvia (B1.alloc B1.size _) k
    obtain ⟨cp2, fp2, zp2⟩ := ((Blk.mk cp1 fp1 zp1).alloc _).call k
    obtain ⟨cf2, ff2, zf2⟩ := (Blk.new w1 _ _).call k
    clear k cp1 fp1 B1
    go_wp2_with fail
    refine (Compare_any p (lastM a b) _ hp gl).mono ?_
    rintro e w3 ⟨rfl, k⟩
    have B3 := bvia B2 k
    clear k cp2 fp2 cf2 ff2 B2
    go_wp2
    go_ret
    exact ⟨ret_bool H.out.symm, B3⟩
  have H := hide (has_of h h2)
  have HS := hide (show detM (firstM a b) (lastM a b) p = sideM a b p from rfl)
  go_enter Tryz.func105, Tryz.ntmps105
  go_wp2_with fail
  refine (Forward_any a b _ ha hb).mono ?_
  rintro e w1 ⟨rfl, k⟩
  have B1 := bvia (below2 _ _ _) k
  obtain ⟨cp1, fp1, zp1⟩ := (Blk.at (w.heap.size + 1) (by simp)).call k
  clear k
  go_wp2_with fail
  refine (Compare_any p (firstM a b) _ hp gf).mono ?_
  rintro e w2 ⟨rfl, k⟩
  have B2 := bvia (B1.alloc B1.size _) k
  obtain ⟨cp2, fp2, zp2⟩ := ((Blk.mk cp1 fp1 zp1).alloc _).call k
  obtain ⟨cf2, ff2, zf2⟩ := (Blk.new w1 _ _).call k
  clear k cp1 fp1 B1
  go_wp2_with fail
  refine (Compare_any p (lastM a b) _ hp gl).mono ?_
  rintro e w3 ⟨rfl, k⟩
  have B3 := bvia B2 k
  obtain ⟨cp3, fp3, zp3⟩ := (Blk.mk cp2 fp2 zp2).call k
  obtain ⟨cf3, ff3, zf3⟩ := (Blk.mk cf2 ff2 zf2).call k
  clear k cp2 fp2 cf2 ff2 B2
  go_wp2_with fail
  refine (Side_any (firstM a b) (lastM a b) p _ gf gl hp).mono ?_
  rintro e w4 ⟨rfl, k⟩
  have B4 := bvia B3 k
  clear k cp3 fp3 cf3 ff3 B3
  go_wp2
  go_ret
  exact ⟨ret_bool (by rw [H.out]; rfl), B4⟩

set_option maxHeartbeats 1000000 in
theorem isOver_any (a b p : Pt) (w : World) (ha : Gd a) (hb : Gd b) (hp : Gd p) :
    Calls Tryz.prog 106 #[sg a b, p.v] w fun e w' => e = .returned (.bool (overM a b p)) ∧ Below w.heap.size w w' := by
  cases h : spanM a b p
  · have H : Hid (overM a b p = false) := by unfold overM; rw [h]; exact hide rfl
    go_enter Tryz.func106, Tryz.ntmps106
    go_wp2_with fail
    refine (Spans_any a b p _ ha hb hp).mono ?_
    rintro e w1 ⟨rfl, k⟩
    have B1 := bvia (below2 _ _ _) k
    rw [h]
    clear k h
    go_wp2
    go_ret
    exact ⟨ret_bool H.out.symm, B1⟩
  · have H : Hid (overM a b p = decide (sideM a b p < 0)) := by unfold overM; rw [h]; exact hide rfl
    go_enter Tryz.func106, Tryz.ntmps106
    go_wp2_with fail
    refine (Spans_any a b p _ ha hb hp).mono ?_
    rintro e w1 ⟨rfl, k⟩
    have B1 := bvia (below2 _ _ _) k
    obtain ⟨cs1, fs1, zs1⟩ := ((Blk.new w _ _).alloc _).call k
    obtain ⟨cp1, fp1, zp1⟩ := (Blk.at (w.heap.size + 1) (by simp)).call k
    rw [h]
    clear k h
    go_wp2_with fail
    refine (segSide_any a b p _ ha hb hp).mono ?_
    rintro e w2 ⟨rfl, k⟩
    have B2 := bvia B1 k
    clear k cs1 fs1 cp1 fp1 B1
    go_wp2
    go_ret
    exact ⟨ret_bool H.out.symm, B2⟩

def otherM (n : Int) : Int := if n = 0 then 1 else 0
set_option maxHeartbeats 400000 in
theorem other_any (n : Int) (w : World) :
    Calls Tryz.prog 107 #[.int .i64 n] w fun e w' => e = .returned (.int .i64 (otherM n)) ∧ w' = w := by
  by_cases h : n = 0
  · subst h
    go_enter Tryz.func107, Tryz.ntmps107
    go_wp2
    go_ret
    exact ⟨rfl, rfl⟩
  · have H : Hid (otherM n = 0) := if_neg h
    have h' : (n == 0) = false := by simpa using h
    go_enter Tryz.func107, Tryz.ntmps107
    go_wp2
    go_ret
    exact ⟨ret_int H.out.symm, rfl⟩
end Go.Proofs.YtnkcbephceollabGreat
namespace Go.Proofs.YtnkcbephceollabGreat
open Go.RowKit
set_option linter.unusedSimpArgs false
set_option linter.unusedVariables false

/-- Are there more points than so many? -/
def moreM : Int → List (List Pt) → Bool
  | _, [] => false
  | room, r :: rs => if room < (r.length : Int) then true else moreM (room - r.length) rs
theorem moreM_cons (room : Int) (P : List (List Pt)) (k : Nat) (hk : k < P.length) :
    moreM room (P.drop k) = if room < ((P.getD k []).length : Int) then true else moreM (room - (P.getD k []).length) (P.drop (k + 1)) := by
  rw [List.drop_eq_getElem_cons hk]
  simp only [moreM]
  rw [List.getD_eq_getElem?_getD, List.getElem?_eq_getElem hk]; rfl

set_option maxRecDepth 100000 in
set_option maxHeartbeats 1000000 in
theorem hasMore_any (v : Value) (P : List (List Pt)) (w : World) (hP : PolyAt w v P) :
    Calls Tryz.prog 79 #[v, .int .i64 2000] w fun e w' => e = .returned (.bool (moreM 2000 P)) ∧ w' = w := by
  obtain ⟨a, cap, rfl, h1, h2, h3⟩ := hP
  unfold maxLen at h2
  go_enter Tryz.func79, Tryz.ntmps79
  go_wp2_with fail
  go_loop [5, 7, 11] (fun room _ i => ∃ (k : Nat) (rm : Int), i = .int .i64 k ∧ room = .int .i64 rm ∧ k ≤ P.length ∧ 0 ≤ rm ∧ rm ≤ 2000 ∧ Hid (moreM 2000 P = moreM rm (P.drop k))) (fun _ _ i => P.length - (intOf i).toNat)
  case atStart => exact ⟨0, 2000, rfl, rfl, Nat.zero_le _, by decide, by decide, rfl⟩
  case round =>
    obtain ⟨k, rm, rfl, rfl, hk, hr0, hr1, HB⟩ := hrel
    by_cases hlt : k < P.length
    · obtain ⟨b, off, rv, rfl, hb, hc, ⟨a', cap', rfl, g1, g2, _⟩⟩ := h3 k hlt
      have HC := hide (moreM_cons rm P k hlt)
      generalize P.getD k [] = r at *
      clear h3
      unfold maxLen at g2
      by_cases ht : rm < (r.length : Int)
      · have HE : Hid (moreM 2000 P = true) := HB.out.trans (HC.out.trans (if_pos ht))
        clear HB HC
        go_wp2
        go_ret
        exact ⟨ret_bool HE.out.symm, rfl⟩
      · have HE : Hid (moreM 2000 P = moreM (rm - r.length) (P.drop (k + 1))) := HB.out.trans (HC.out.trans (if_neg ht))
        clear HB HC
        go_wp2
        go_round
        case rel => exact ⟨k + 1, rm - r.length, by go_num, rfl, by omega, by omega, by omega, HE⟩
        case measure => simp [intOf]; omega
    · have HE : Hid (moreM 2000 P = false) := by rw [HB.out, List.drop_of_length_le (by omega)]; rfl
      clear h3 HB
      go_wp2
      go_ret
      exact ⟨ret_bool HE.out.symm, rfl⟩

/-- Where a place lies to edges that are looked at in turn. -/
def whereM (q : Pt) : Int → List (Pt × Pt) → Int
  | n, [] => n
  | n, e :: l => if hasM e.1 e.2 q = true then 2 else whereM q (if overM e.1 e.2 q = true then otherM n else n) l
theorem whereM_cons (q : Pt) (n : Int) (l : List (Pt × Pt)) (k : Nat) (hk : k < l.length) :
    whereM q n (l.drop k) = if hasM (l.getD k (zP, zP)).1 (l.getD k (zP, zP)).2 q = true then 2 else whereM q (if overM (l.getD k (zP, zP)).1 (l.getD k (zP, zP)).2 q = true then otherM n else n) (l.drop (k + 1)) := by
  rw [List.drop_eq_getElem_cons hk]
  simp only [whereM]
  rw [List.getD_eq_getElem?_getD, List.getElem?_eq_getElem hk]; rfl
theorem all_drop {α : Type} (f : α → Bool) (l : List α) (k : Nat) (hk : k < l.length) (d : α) : (l.drop k).all f = (f (l.getD k d) && (l.drop (k + 1)).all f) := by
  rw [List.drop_eq_getElem_cons hk, List.all_cons, List.getD_eq_getElem?_getD, List.getElem?_eq_getElem hk]; rfl

set_option maxRecDepth 100000 in
set_option maxHeartbeats 1000000 in
theorem areGood_any (v : Value) (E : List (Pt × Pt)) (w : World) (hE : SegsAt w v E) :
    Calls Tryz.prog 80 #[v] w fun e w' => e = .returned (.bool (E.all (fun e => goodB e.1))) ∧ Below w.heap.size w w' := by
  obtain ⟨a, cap, rfl, h1, h2, h3⟩ := hE
  unfold maxLen at h2
  go_enter Tryz.func80, Tryz.ntmps80
  go_wp2_with fail
  go_loopw [4, 7] (fun _ i w' => ∃ k : Nat, i = .int .i64 k ∧ k ≤ E.length ∧ Below w.heap.size w w' ∧ Hid (E.all (fun e => goodB e.1) = (E.drop k).all (fun e => goodB e.1))) (fun _ i _ => E.length - (intOf i).toNat)
  case atStart => exact ⟨0, rfl, Nat.zero_le _, Below.refl _ _, rfl⟩
  case round =>
    obtain ⟨k, rfl, hk, hbel, HB⟩ := hrel
    by_cases hlt : k < E.length
    · obtain ⟨b, off, rfl, hb, hs⟩ := h3 k hlt
      have hs' := hs.later hbel hb
      have HC := hide (all_drop (fun e : Pt × Pt => goodB e.1) E k hlt (zP, zP))
      generalize E.getD k (zP, zP) = e at *
      obtain ⟨c0, c1, c2, c3, c4, c5⟩ := hs'
      clear h3 hs
      go_wp2_with fail
      refine (IsGood_any e.1 _).mono ?_
      rintro e' w1 ⟨rfl, k1⟩
      have B1 := bvia (hbel.alloc hbel.size _) k1
      clear k1 c0 c1 c2 c3 c4 c5
      cases ht : goodB e.1
      · have HE : Hid (E.all (fun e => goodB e.1) = false) := HB.out.trans (HC.out.trans (by simp [ht]))
        clear HB HC
        go_wp2
        go_ret
        exact ⟨ret_bool HE.out.symm, B1⟩
      · have HE : Hid (E.all (fun e => goodB e.1) = (E.drop (k + 1)).all (fun e => goodB e.1)) := HB.out.trans (HC.out.trans (by simp [ht]))
        clear HB HC
        go_wp2
        go_roundw
        case rel => exact ⟨k + 1, by go_num, by omega, B1, HE⟩
        case measure => simp [intOf]; omega
    · have HE : Hid (E.all (fun e => goodB e.1) = true) := by rw [HB.out, List.drop_of_length_le (by omega)]; rfl
      clear h3 HB
      go_wp2
      go_ret
      exact ⟨ret_bool HE.out.symm, hbel⟩
def GdE (E : List (Pt × Pt)) : Prop := ∀ j, j < E.length → Gd (E.getD j (zP, zP)).1 ∧ Gd (E.getD j (zP, zP)).2
set_option maxRecDepth 100000 in
set_option maxHeartbeats 1000000 in
theorem find_any (q : Pt) (v : Value) (E : List (Pt × Pt)) (w : World) (hE : SegsAt w v E) (hG : GdE E) (hq : Gd q) :
    Calls Tryz.prog 81 #[v, q.v] w fun e w' => e = .returned (.int .i64 (whereM q 0 E)) ∧ Below w.heap.size w w' := by
  obtain ⟨a, cap, rfl, h1, h2, h3⟩ := hE
  unfold maxLen at h2
  go_enter Tryz.func81, Tryz.ntmps81
  go_wp2_with fail
  go_loopw [5, 7, 10] (fun wh _ i w' => ∃ (k : Nat) (n : Int), i = .int .i64 k ∧ wh = .int .i64 n ∧ k ≤ E.length ∧ Blk w' w.heap.size #[.int .i64 q.x, .int .i64 q.y, .int .i64 q.d] ∧ Below w.heap.size w w' ∧ Hid (whereM q 0 E = whereM q n (E.drop k))) (fun _ _ i _ => E.length - (intOf i).toNat)
  case atStart => exact ⟨0, 0, rfl, rfl, Nat.zero_le _, Blk.new w _ _, (Below.refl _ _).alloc (Nat.le_refl _) _, rfl⟩
  case round =>
    obtain ⟨k, n, rfl, rfl, hk, ⟨cq, fq, zq⟩, hbel, HB⟩ := hrel
    by_cases hlt : k < E.length
    · obtain ⟨b, off, rfl, hb, hs⟩ := h3 k hlt
      have hs' := hs.later hbel hb
      have HC := hide (whereM_cons q n E k hlt)
      have hgr := hG k hlt
      generalize E.getD k (zP, zP) = e at *
      obtain ⟨he1, he2⟩ := hgr
      obtain ⟨c0, c1, c2, c3, c4, c5⟩ := hs'
      clear h3 hs hG
      go_wp2_with fail
      refine (Has_any e.1 e.2 q _ he1 he2 hq).mono ?_
      rintro e' w1 ⟨rfl, k1⟩
      have B1 := bvia (hbel.alloc hbel.size _) k1
      obtain ⟨cq1, fq1, zq1⟩ := ((Blk.mk cq fq zq).alloc _).call k1
      obtain ⟨ce1, fe1, ze1⟩ := (Blk.new wr _ _).call k1
      clear k1 c0 c1 c2 c3 c4 c5 cq fq
      cases ht : hasM e.1 e.2 q
      · have HD : Hid (whereM q 0 E = whereM q (if overM e.1 e.2 q = true then otherM n else n) (E.drop (k + 1))) := HB.out.trans (HC.out.trans (by simp [ht]))
        clear HB HC
        go_wp2_with fail
        refine (isOver_any e.1 e.2 q _ he1 he2 hq).mono ?_
        rintro e' w2 ⟨rfl, k2⟩
        have B2 := bvia B1 k2
        have Q2 := (Blk.mk cq1 fq1 zq1).call k2
        clear k2 cq1 fq1 ce1 fe1 B1
        cases ho : overM e.1 e.2 q
        · have HE : Hid (whereM q 0 E = whereM q n (E.drop (k + 1))) := HD.out.trans (by simp [ho])
          clear HD
          go_wp2
          go_roundw
          case rel => exact ⟨k + 1, n, by go_num, rfl, by omega, Q2, B2, HE⟩
          case measure => simp [intOf]; omega
        · have HE : Hid (whereM q 0 E = whereM q (otherM n) (E.drop (k + 1))) := HD.out.trans (by simp [ho])
          clear HD
          go_wp2_with (go_at_call 107; refine (other_any n _).mono ?_; rintro e' w3 ⟨rfl, rfl⟩)
          go_roundw
          case rel => exact ⟨k + 1, otherM n, by go_num, rfl, by omega, Q2, B2, HE⟩
          case measure => simp [intOf]; omega
      · have HE : Hid (whereM q 0 E = 2) := HB.out.trans (HC.out.trans (by simp [ht]))
        clear HB HC
        go_wp2
        go_ret
        exact ⟨ret_int HE.out.symm, B1⟩
    · have HE : Hid (whereM q 0 E = n) := by rw [HB.out, List.drop_of_length_le (by omega)]; rfl
      clear h3 HB hG
      go_wp2
      go_ret
      exact ⟨ret_int HE.out.symm, hbel⟩
end Go.Proofs.YtnkcbephceollabGreat
namespace Go.Proofs.YtnkcbephceollabGreat
open Go.RowKit
set_option linter.unusedSimpArgs false
set_option linter.unusedVariables false

/-- Where a place lies, as the program reckons it; and the error. -/
def locM (P : List (List Pt)) (q : Pt) : Int × Int :=
  if moreM 2000 P = true then (0, 2)
  else if goodB q = false then (0, 3)
  else if (edgesM P).all (fun e => goodB e.1) = false then (0, 3)
  else (whereM q 0 (edgesM P), 0)
theorem gd_good {p : Pt} (h : goodB p = true) : Gd p := by
  have := of_decide_eq_true h
  exact ⟨⟨by omega, by omega⟩, ⟨by omega, by omega⟩, ⟨by omega, by omega⟩⟩
theorem moreM_none : ∀ (P : List (List Pt)) (room : Int), moreM room P = false → 0 ≤ room → ((edgesM P).length : Int) ≤ room
  | [], room, _, hr => by simp [edgesM]; omega
  | r :: P, room, h, hr => by
    simp only [moreM] at h
    split at h
    · cases h
    · rename_i hb
      have ih := moreM_none P (room - r.length) h (by omega)
      have e : (edgesM (r :: P)).length = r.length + (edgesM P).length := by simp [edgesM, ringEdges_len]
      rw [e]; omega
theorem gdE_of (P : List (List Pt)) (h : (edgesM P).all (fun e => goodB e.1) = true) : GdE (edgesM P) := by
  have hall : ∀ e ∈ edgesM P, goodB e.1 = true := fun e he => List.all_eq_true.1 h e he
  have sec : ∀ e ∈ edgesM P, ∃ e' ∈ edgesM P, e'.1 = e.2 := fun e he => by
    unfold edgesM at *
    obtain ⟨r, hr, h⟩ := List.mem_flatMap.1 he
    obtain ⟨j, hj, rfl⟩ := List.mem_map.1 h
    have hj' : j < r.length := by simpa using hj
    exact ⟨edgeAt r (if j + 1 = r.length then 0 else j + 1), List.mem_flatMap.2 ⟨r, hr, List.mem_map.2 ⟨_, by simp; split <;> omega, rfl⟩⟩, rfl⟩
  intro j hj
  have hm : (edgesM P).getD j (zP, zP) ∈ edgesM P := by
    rw [List.getD_eq_getElem?_getD, List.getElem?_eq_getElem hj]; exact List.getElem_mem hj
  obtain ⟨e', he', e2⟩ := sec _ hm
  have g1 := hall _ hm
  have g2 := hall _ he'
  rw [e2] at g2
  exact ⟨gd_good g1, gd_good g2⟩

set_option maxHeartbeats 2000000 in
theorem polyLocate_any (v : Value) (P : List (List Pt)) (q : Pt) (w : World) (hP : PolyAt w v P) :
    Calls Tryz.prog 45 #[v, q.v] w fun e w' => e = .returned (.tuple #[.int .i64 (locM P q).1, .int .i64 (locM P q).2]) ∧ Below w.heap.size w w' := by
  have hP0 := hP
  obtain ⟨a, cap, rfl, h1, h2, _⟩ := hP
  unfold maxLen at h2
  have hP1 : ∀ o : Obj, PolyAt (w.alloc o) (.slice a P.length cap) P := fun o => hP0.later ((Below.refl _ _).alloc (Nat.le_refl _) _)
  cases c1 : moreM 2000 P
  case true =>
    have HE : Hid (locM P q = (0, 2)) := if_pos c1
    go_enter Tryz.func45, Tryz.ntmps45
    go_wp2_with fail
    refine (hasMore_any _ P _ (hP1 _)).mono ?_
    rintro e w1 ⟨rfl, rfl⟩
    rw [c1]
    clear c1
    go_wp2
    go_ret2
    exact ⟨by rw [HE.out]; rfl, (Below.refl _ _).alloc (Nat.le_refl _) _⟩
  have hT : (edgesM P).length ≤ 2000 := by have := moreM_none P 2000 c1 (by decide); omega
  have e1 : locM P q = _ := if_neg (by rw [c1]; decide)
  cases c2 : goodB q
  case false =>
    have HE : Hid (locM P q = (0, 3)) := e1.trans (if_pos c2)
    clear e1
    go_enter Tryz.func45, Tryz.ntmps45
    go_wp2_with fail
    refine (hasMore_any _ P _ (hP1 _)).mono ?_
    rintro e w1 ⟨rfl, rfl⟩
    rw [c1]
    go_wp2_with fail
    refine (IsGood_any q _).mono ?_
    rintro e w1 ⟨rfl, k⟩
    have B1 := bvia ((Below.refl _ _).alloc (Nat.le_refl _) _) k
    rw [c2]
    clear k c1 c2
    go_wp2
    go_ret2
    exact ⟨by rw [HE.out]; rfl, B1⟩
  have e2 := e1.trans (if_neg (by rw [c2]; decide))
  have gq := gd_good c2
  clear e1
  cases c3 : (edgesM P).all (fun e => goodB e.1)
  case false =>
    have HE : Hid (locM P q = (0, 3)) := e2.trans (if_pos c3)
    clear e2
    go_enter Tryz.func45, Tryz.ntmps45
    go_wp2_with fail
    refine (hasMore_any _ P _ (hP1 _)).mono ?_
    rintro e w1 ⟨rfl, rfl⟩
    rw [c1]
    go_wp2_with fail
    refine (IsGood_any q _).mono ?_
    rintro e w1 ⟨rfl, k⟩
    have B1 := bvia ((Below.refl _ _).alloc (Nat.le_refl _) _) k
    have hP2 := hP0.later B1
    rw [c2]
    clear k c1 c2
    go_wp2_with fail
    refine (Edges_any _ P _ hP2 (Nat.le_trans hT (by decide))).mono ?_
    rintro e w2 ⟨ev, rfl, hE2, k⟩
    have B2 := bvia B1 k
    clear k B1
    go_wp2_with fail
    refine (areGood_any _ (edgesM P) _ hE2).mono ?_
    rintro e w3 ⟨rfl, k⟩
    have B3 := bvia B2 k
    rw [c3]
    clear k B2 hE2 c3
    go_wp2
    go_ret2
    exact ⟨by rw [HE.out]; rfl, B3⟩
  have HE : Hid (locM P q = (whereM q 0 (edgesM P), 0)) := e2.trans (if_neg (by rw [c3]; decide))
  have hG := gdE_of P c3
  clear e2
  go_enter Tryz.func45, Tryz.ntmps45
  go_wp2_with fail
  refine (hasMore_any _ P _ (hP1 _)).mono ?_
  rintro e w1 ⟨rfl, rfl⟩
  rw [c1]
  go_wp2_with fail
  refine (IsGood_any q _).mono ?_
  rintro e w1 ⟨rfl, k⟩
  have B1 := bvia ((Below.refl _ _).alloc (Nat.le_refl _) _) k
  have hP2 := hP0.later B1
  obtain ⟨cq1, fq1, zq1⟩ := (Blk.new w _ _).call k
  rw [c2]
  clear k c1 c2
  go_wp2_with fail
  refine (Edges_any _ P _ hP2 (Nat.le_trans hT (by decide))).mono ?_
  rintro e w2 ⟨ev, rfl, hE2, k⟩
  have B2 := bvia B1 k
  obtain ⟨cq2, fq2, zq2⟩ := (Blk.mk cq1 fq1 zq1).call k
  clear k B1 cq1 fq1
  go_wp2_with fail
  refine (areGood_any _ (edgesM P) _ hE2).mono ?_
  rintro e w3 ⟨rfl, k⟩
  have B3 := bvia B2 k
  have hE3 := hE2.later k
  obtain ⟨cq3, fq3, zq3⟩ := (Blk.mk cq2 fq2 zq2).call k
  rw [c3]
  clear k B2 hE2 c3 cq2 fq2
  go_wp2_with fail
  refine (find_any q _ (edgesM P) _ hE3 hG gq).mono ?_
  rintro e w4 ⟨rfl, k⟩
  have B4 := bvia B3 k
  clear k B3 hE3 cq3 fq3
  go_wp2
  go_ret2
  exact ⟨by rw [HE.out]; rfl, B4⟩

set_option maxHeartbeats 2000000 in
theorem Locate_any (v : Value) (P : List (List Pt)) (q : Pt) (w : World) (hP : PolyAt w v P) :
    Calls Tryz.prog 23 #[v, q.v] w fun e w' => e = .returned (.tuple #[.int .i64 (locM P q).1, .int .i64 (locM P q).2]) ∧ Below w.heap.size w w' := by
  go_enter Tryz.func23, Tryz.ntmps23
  go_wp2_with fail
  refine (polyLocate_any v P q _ (hP.later ((Below.refl _ _).alloc (Nat.le_refl _) _))).mono ?_
  rintro e w1 ⟨rfl, k⟩
  have B1 := bvia ((Below.refl _ _).alloc (Nat.le_refl _) _) k
  clear k
  go_wp2
  go_ret2
  exact ⟨rfl, B1⟩
end Go.Proofs.YtnkcbephceollabGreat
namespace Go.Proofs.YtnkcbephceollabGreat
set_option linter.unusedVariables false
set_option linter.unusedSimpArgs false

/-- Sheared upward: the order of places becomes that of heights, if by enough. -/
def shP (K : Int) (v : Pt) : Pt := ⟨v.x, K * v.x + v.y, v.d⟩
theorem sh_zero (K : Int) : shP K zP = zP := by simp [shP, zP]
theorem sh_det (K : Int) (a b c : Pt) : detM (shP K a) (shP K b) (shP K c) = detM a b c := by unfold detM shP; grind
theorem sh_xv (K : Int) (q v : Pt) : xv (shP K q) (shP K v) = xv q v := rfl
theorem sh_yv (K : Int) (q v : Pt) : yv (shP K q) (shP K v) = K * xv q v + yv q v := by unfold yv xv shP; grind
theorem sh_bef (K : Int) (p q : Pt) : befB (shP K p) (shP K q) = befB p q := by
  unfold befB
  have e1 : (shP K p).x * (shP K q).d = p.x * q.d := rfl
  have e2 : (shP K q).x * (shP K p).d = q.x * p.d := rfl
  have e3 : (shP K p).y * (shP K q).d = K * (p.x * q.d) + p.y * q.d := by unfold shP; grind
  have e4 : (shP K q).y * (shP K p).d = K * (q.x * p.d) + q.y * p.d := by unfold shP; grind
  rw [e1, e2, e3, e4]
  split
  · rfl
  · rename_i h
    have h' : p.x * q.d = q.x * p.d := by simpa using h
    rw [h']
    congr 1
    exact propext (by omega)
theorem sh_on (K : Int) (p a b : Pt) : onB (shP K p) (shP K a) (shP K b) = onB p a b := by
  unfold onB withB loM hiM
  rw [sh_det, sh_bef]
  by_cases h : befB b a = true
  · simp only [h, if_true, sh_bef]
  · simp only [h, if_false, sh_bef, Bool.false_eq_true]
theorem sh_cross (K : Int) (o q a b : Pt) : crossB (shP K o) (shP K q) (shP K a) (shP K b) = crossB o q a b := by
  unfold crossB; simp only [sh_det]
theorem sh_up {K : Int} {q v : Pt} (h1 : -K < yv q v) (h2 : yv q v < K) : upB false (shP K q) (shP K v) = befB q v := by
  have e : upB false (shP K q) (shP K v) = decide (0 < K * xv q v + yv q v) := by unfold upB; rw [sh_yv]; simp
  rw [e]
  have b := bef_iff q v
  have k : befB q v = true ↔ (0 < xv q v ∨ (xv q v = 0 ∧ 0 < yv q v)) := by rw [b]; unfold xv yv; omega
  have hK : 0 < K := by omega
  have f : 0 < K * xv q v + yv q v ↔ (0 < xv q v ∨ (xv q v = 0 ∧ 0 < yv q v)) := by
    rcases Int.lt_trichotomy (xv q v) 0 with h | h | h
    · have : K * (xv q v + 1) ≤ 0 := mul_gl (Int.le_of_lt hK) (by omega)
      have e2 : K * (xv q v + 1) = K * xv q v + K := by grind
      constructor
      · intro x; omega
      · intro x; omega
    · rw [h, Int.mul_zero]; omega
    · have : 0 ≤ K * (xv q v - 1) := mul_gg (Int.le_of_lt hK) (by omega)
      have e2 : K * (xv q v - 1) = K * xv q v - K := by grind
      constructor
      · intro x; exact .inl h
      · intro x; omega
  cases hb : befB q v
  · rw [hb] at k
    simp
    have : ¬ (0 < K * xv q v + yv q v) := fun x => by have := k.2 (f.1 x); cases this
    omega
  · simp; exact f.2 (k.1 hb)

def shL (K : Int) (P : List (List Pt)) : List (List Pt) := P.map (List.map (shP K))
theorem sh_ring (K : Int) (r : List Pt) : ringEdges (r.map (shP K)) = (ringEdges r).map (fun e => (shP K e.1, shP K e.2)) := by
  have g : ∀ j, (r.map (shP K)).getD j zP = shP K (r.getD j zP) := fun j => by
    rw [List.getD_eq_getElem?_getD, List.getD_eq_getElem?_getD, List.getElem?_map]
    cases r[j]? with
    | none => simp [sh_zero]
    | some v => rfl
  unfold ringEdges edgeAt
  rw [List.map_map, List.length_map]
  refine List.map_congr_left fun j _ => ?_
  simp only [g, Function.comp]
theorem sh_edges (K : Int) (P : List (List Pt)) : edgesM (shL K P) = (edgesM P).map (fun e => (shP K e.1, shP K e.2)) := by
  induction P with
  | nil => rfl
  | cons r P ih =>
    have e1 : edgesM (r :: P) = ringEdges r ++ edgesM P := by simp [edgesM]
    have e2 : edgesM (shL K (r :: P)) = ringEdges (r.map (shP K)) ++ edgesM (shL K P) := by simp [edgesM, shL]
    rw [e1, e2, ih, sh_ring, List.map_append]
theorem parB_map (f : Pt → Pt → Bool) (g : Pt → Pt) : ∀ l, parB f (l.map (fun e => (g e.1, g e.2))) = parB (fun a b => f (g a) (g b)) l
  | [] => rfl
  | e :: l => by simp only [List.map_cons, parB, parB_map f g l]

/-- Does the edge cross the way up from q, which leans to the left by less than any number? -/
def overB (q a b : Pt) : Bool := (!befB q a && befB q b && decide (detM a b q < 0)) || (befB q a && !befB q b && decide (0 < detM a b q))
theorem enough (q : Pt) : ∀ l : List Pt, ∃ K : Int, ∀ v ∈ l, -K < yv q v ∧ yv q v < K
  | [] => ⟨0, fun v hv => by cases hv⟩
  | v :: l => by
    obtain ⟨K, h⟩ := enough q l
    refine ⟨(if K < 0 then 0 else K) + (yv q v).natAbs + 1, fun u hu => ?_⟩
    rcases List.mem_cons.1 hu with rfl | hu
    · split <;> omega
    · have := h u hu; split <;> omega
theorem sh_left {K : Int} {q a b : Pt} (ha : -K < yv q a ∧ yv q a < K) (hb : -K < yv q b ∧ yv q b < K) : leftB false (shP K q) (shP K a) (shP K b) = overB q a b := by
  unfold leftB overB
  rw [sh_up ha.1 ha.2, sh_up hb.1 hb.2, sh_det]
theorem mem_sh {K : Int} {P : List (List Pt)} {v : Pt} (h : v ∈ (shL K P).flatten) : ∃ u ∈ P.flatten, v = shP K u := by
  obtain ⟨r, hr, hv⟩ := List.mem_flatten.1 h
  unfold shL at hr
  obtain ⟨r', hr', rfl⟩ := List.mem_map.1 hr
  obtain ⟨u, hu, rfl⟩ := List.mem_map.1 hv
  exact ⟨u, List.mem_flatten.2 ⟨r', hr', hu⟩, rfl⟩
/-- How often the way from far to the left crosses the edges, and how often the one up: odd alike. -/
theorem parity_up {o q : Pt} {P : List (List Pt)} (ho : 0 < o.d) (hq : 0 < q.d) (hd : ∀ v ∈ P.flatten, 0 < v.d) (hl : ∀ v ∈ P.flatten, 0 < xv o v) (hA : ∀ v ∈ P.flatten, detM o q v ≠ 0) (hon : ∀ e ∈ edgesM P, onB q e.1 e.2 = false) :
    parB (crossB o q) (edgesM P) = parB (overB q) (edgesM P) := by
  obtain ⟨K, hK⟩ := enough q P.flatten
  have on' : ∀ e ∈ edgesM (shL K P), onB (shP K q) e.1 e.2 = false := fun e he => by
    rw [sh_edges] at he
    obtain ⟨e', he', rfl⟩ := List.mem_map.1 he
    rw [sh_on]; exact hon e' he'
  have hd' : ∀ v ∈ (shL K P).flatten, 0 < v.d := fun v hv => by
    obtain ⟨u, hu, rfl⟩ := mem_sh hv
    exact hd u hu
  have p := parity false (o := shP K o) (q := shP K q) (P := shL K P) ho hq hd'
    (fun v hv => by obtain ⟨u, hu, rfl⟩ := mem_sh hv; rw [sh_xv]; exact hl u hu)
    (fun v hv => by obtain ⟨u, hu, rfl⟩ := mem_sh hv; rw [sh_det]; exact hA u hu) on'
  have p2 := left_right false (q := shP K q) (P := shL K P) hq hd' on'
  rw [← p2, sh_edges, parB_map, parB_map] at p
  have c1 : parB (fun a b => crossB (shP K o) (shP K q) (shP K a) (shP K b)) (edgesM P) = parB (crossB o q) (edgesM P) := parB_congr fun e _ => sh_cross ..
  have c2 : parB (fun a b => leftB false (shP K q) (shP K a) (shP K b)) (edgesM P) = parB (overB q) (edgesM P) := parB_congr fun e he => by
    obtain ⟨m1, m2⟩ := edge_ends he
    exact sh_left (hK _ m1) (hK _ m2)
  rw [c1, c2] at p
  exact p
end Go.Proofs.YtnkcbephceollabGreat
