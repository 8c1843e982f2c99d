import Derived.Test.YtnkcbephceollabQ46
import Derived.Test.YtnkcbephceollabQ26
import Derived.Test.YtnkcbephceollabRows
import Derived.Deep.Slices
import Derived.ChangeArms
import Derived.ProofKit
import Derived.ShutString
import Derived.ChangeOld
namespace Go.Proofs.Ytnkcbephceollab
set_option linter.unusedSimpArgs false
set_option linter.unusedVariables false
set_option linter.unusedSectionVars false

/-! Check has nothing against the rings, if they are few and of grid points. -/
theorem last_geB (p q : Pt) : befB (lastM p q) p = false ∧ befB (lastM p q) q = false := by
  rw [last_eq]
  cases h : befB p q
  · simp only [Bool.false_eq_true, if_false]
    exact ⟨bef_irr p, h⟩
  · simp only [if_true]
    exact ⟨bef_asym h, bef_irr q⟩
theorem first_leB (p q : Pt) : befB p (firstM p q) = false ∧ befB q (firstM p q) = false := by
  rw [first_eq]
  cases h : befB q p
  · simp only [Bool.false_eq_true, if_false]
    exact ⟨bef_irr p, h⟩
  · simp only [if_true]
    exact ⟨bef_asym h, bef_irr q⟩
theorem along_ov {e f : Pt × Pt} (g1 : Gr e.1) (g2 : Gr e.2) (g3 : Gr f.1) (g4 : Gr f.2) (ne : befB e.1 e.2 = true ∨ befB e.2 e.1 = true) (nf : befB f.1 f.2 = true ∨ befB f.2 f.1 = true) (h : alongB e f = true) : ovB e f = true := by
  unfold alongB at h
  rw [meet_eq g1.d g2.d g3.d g4.d] at h
  have d1 := g1.d; have d2 := g2.d; have d3 := g3.d; have d4 := g4.d
  by_cases hw : detM e.1 e.2 f.2 - detM e.1 e.2 f.1 = 0
  · rw [if_pos hw] at h
    by_cases m : detM e.1 e.2 f.1 = 0
    · rw [if_neg (show ¬ (detM e.1 e.2 f.1 ≠ 0) by omega)] at h
      unfold lineM at h
      simp only at h
      by_cases c1 : cmpM (lastM (firstM e.1 e.2) (firstM f.1 f.2)) (firstM (lastM e.1 e.2) (lastM f.1 f.2)) > 0
      · rw [if_pos c1] at h; simp [zM] at h
      · rw [if_neg c1] at h
        by_cases c2 : cmpM (lastM (firstM e.1 e.2) (firstM f.1 f.2)) (firstM (lastM e.1 e.2) (lastM f.1 f.2)) = 0
        · rw [if_pos c2] at h; simp at h
        · have b : befB (lastM (firstM e.1 e.2) (firstM f.1 f.2)) (firstM (lastM e.1 e.2) (lastM f.1 f.2)) = true := by rw [← cmp_lt]; omega
          have gF1 := (firstM_gr g1 g2).d
          have gF2 := (firstM_gr g3 g4).d
          have gT1 := (lastM_gr g1 g2).d
          have gT2 := (lastM_gr g3 g4).d
          have gf := (lastM_gr (firstM_gr g1 g2) (firstM_gr g3 g4)).d
          have gt := (firstM_gr (lastM_gr g1 g2) (lastM_gr g3 g4)).d
          obtain ⟨x1, x2⟩ := last_geB (firstM e.1 e.2) (firstM f.1 f.2)
          obtain ⟨y1, y2⟩ := first_leB (lastM e.1 e.2) (lastM f.1 f.2)
          have ends : ∀ {p q : Pt}, (befB p q = true ∨ befB q p = true) → firstM p q = (if befB q p = true then q else p) ∧ lastM p q = (if befB q p = true then p else q) := fun {p q} n => by
            refine ⟨first_eq p q, ?_⟩
            rw [last_eq]
            rcases n with n | n
            · rw [n, bef_asym n]; rfl
            · rw [n, bef_asym n]; rfl
          unfold ovB
          rw [← (ends ne).1, ← (ends ne).2, ← (ends nf).1, ← (ends nf).2, decide_eq_true m, decide_eq_true (show detM e.1 e.2 f.2 = 0 by omega), Bool.true_and, Bool.true_and, Bool.and_eq_true]
          constructor
          · exact bef_le (by omega) (by omega) (by omega) (le_bef (by omega) (by omega) (by omega) x1 b) y2
          · exact bef_le (by omega) (by omega) (by omega) (le_bef (by omega) (by omega) (by omega) x2 b) y1
    · rw [if_pos m] at h; simp [zM] at h
  · rw [if_neg hw] at h
    exfalso
    have key : ∀ (c : Prop) [Decidable c] (x : Mt), x.k ≠ 2 → (if c then zM else x).k ≠ 2 := fun c _ x hx => by
      by_cases k : c
      · rw [if_pos k]; decide
      · rw [if_neg k]; exact hx
    have h : (acrossM e.1 e.2 f.1 f.2).k = 2 := by simpa using h
    exact key _ _ (by decide : (1 : Int) ≠ 2) h
theorem check_again {A B : List (List Pt)} (sA : Sound A) (sB : Sound B) (op : Int) {C : List (List Pt)} (hC : C = ringsM (bordM op (piecesM A B))) (h4 : C.length ≤ 4) (h12 : (C.map List.length).sum ≤ 12) (hd : ∀ r ∈ C, ∀ p ∈ r, p.d = 1) : checkM C = (0, 0) := by
  have fm := (rings_fm sA sB op).1
  have dj := rings_dj sA sB op
  have sd := ring_sd sA sB op
  rw [← hC] at fm dj sd
  have gg : ∀ v ∈ C.flatten, gridB v = true := fun v hv => by
    obtain ⟨r, hr, hv⟩ := List.mem_flatten.1 hv
    rw [← grid_of v (hd r hr v hv)]
    exact ((fm r hr).nice v hv).1
  have gr : ∀ v ∈ C.flatten, Gr v := fun v hv => gr_of (gg v hv)
  unfold checkM
  rw [if_neg (by omega), if_neg, if_neg, if_neg, if_neg]
  · simp only [ne_eq, Decidable.not_not]
    rw [shares_iff]
    refine dj.imp_of_mem fun {e f} he hf k => ?_
    cases a : alongB f e
    · rfl
    · obtain ⟨m1, m2⟩ := edge_ends he
      obtain ⟨m3, m4⟩ := edge_ends hf
      have k2 := k.2
      rw [along_ov (gr _ m3) (gr _ m4) (gr _ m1) (gr _ m2) (sd.ne f hf) (sd.ne e he) a] at k2
      cases k2
  · simp only [ne_eq, Decidable.not_not]
    rw [findM_iff _ _ _ (by decide)]
    intro e he
    cases k : eqB e.1 e.2
    · rfl
    · exfalso
      unfold eqB at k
      have k := of_decide_eq_true k
      have ee : e.1 = e.2 := Pt.ext' k.1 k.2.1 k.2.2
      rcases sd.ne e he with b | b
      · rw [ee, bef_irr] at b; cases b
      · rw [ee, bef_irr] at b; cases b
  · simp only [ne_eq, Decidable.not_not]
    rw [findM_iff _ _ _ (by decide)]
    intro e he
    rw [gg _ (edge_ends he).1]; rfl
  · simp only [ne_eq, Decidable.not_not]
    rw [badM_iff _ _ _ (by decide) (by decide)]
    refine ⟨fun n hn => ?_, by omega⟩
    obtain ⟨r, hr, rfl⟩ := List.mem_map.1 hn
    exact (fm r hr).three
/-- What Again asks, as Clip and Check tell it. -/
theorem again_clip {A B : List (List Pt)} {op : Int} (h : (clipM op A B).2 = 0) {C : List (List Pt)} (hC : C = (clipM op A B).1) (h4 : C.length ≤ 4) (h12 : (C.map List.length).sum ≤ 12) (hd : ∀ r ∈ C, ∀ p ∈ r, p.d = 1) :
    checkM C = (0, 0) ∧ clipM 1 C [] = (C, 0) ∧ clipM 4 [] C = (C, 0) ∧ clipM 0 C C = (C, 0) := by
  unfold clipM at h hC
  by_cases c1 : op < 0 ∨ op > 4
  · rw [if_pos c1] at h; simp at h
  · rw [if_neg c1] at h hC
    by_cases c2 : bothM A B ≠ 0
    · rw [if_pos c2] at h; exact absurd h c2
    · rw [if_neg c2] at h hC
      have hb : bothM A B = 0 := by omega
      have ch : (checkM A).1 = 0 ∧ (checkM B).1 = 0 := by
        unfold bothM at hb
        by_cases k : (checkM A).1 = 0
        · refine ⟨k, ?_⟩
          simpa [k] using hb
        · simp [k] at hb
      have sA := sound_of ch.1
      have sB := sound_of ch.2
      have hC' : C = ringsM (bordM op (piecesM A B)) := hC
      have ck := check_again sA sB op hC' h4 h12 hd
      have sC := sound_of (P := C) (by rw [ck])
      obtain ⟨t1, t2, t3⟩ := again_three sA sB op hC' sC
      have c0 : checkM ([] : List (List Pt)) = (0, 0) := by kernel_rfl
      have b1 : bothM C [] = 0 := by unfold bothM; rw [ck, c0]; rfl
      have b2 : bothM [] C = 0 := by unfold bothM; rw [ck, c0]; rfl
      have b3 : bothM C C = 0 := by unfold bothM; rw [ck]; rfl
      refine ⟨ck, ?_, ?_, ?_⟩
      · unfold clipM
        rw [if_neg (by decide), b1, if_neg (by decide), t1]
      · unfold clipM
        rw [if_neg (by decide), b2, if_neg (by decide), t2]
      · unfold clipM
        rw [if_neg (by decide), b3, if_neg (by decide), t3]
end Go.Proofs.Ytnkcbephceollab
namespace Go.Proofs.Ytnkcbephceollab
open Go.RowKit
set_option linter.unusedSimpArgs false
set_option linter.unusedVariables false

theorem again_walk (op : Int) (va vb : Value) (A B : List (List Pt)) (w : World) (hA : PolyAt w va A) (hB : PolyAt w vb B) :
    Calls Try.prog 3 #[.int .i64 op, va, vb] w fun e w' => e = .returned (.bool true) ∧ Below w.heap.size w w' :=
  again_walk0 op va vb A B w hA hB (fun hz C hC h4 h12 hd => again_clip hz hC h4 h12 hd)
end Go.Proofs.Ytnkcbephceollab
namespace Go.Proofs.Ytnkcbephceollab
open Go.RowKit Go.ChangeShapes Go.WideShapes
set_option linter.unusedSimpArgs false
set_option linter.unusedVariables false

theorem cellsInt : Try.prog.cellsOf 3 = 1 := by kernel_rfl
theorem cellsPoint : Try.prog.cellsOf 29 = 3 := by kernel_rfl
theorem cellsRings : Try.prog.cellsOf 22 = 1 := by kernel_rfl
theorem list3 {α : Type} {l : List α} (h : l.length = 3) : ∃ a b c, l = [a, b, c] := by
  match l, h with
  | [a, b, c], _ => exact ⟨a, b, c, rfl⟩
theorem some_at {α : Type} {xs : List α} {n i : Nat} (h : xs.length = n) (hi : i < n) : ∃ x, xs[i]? = some x := ⟨_, List.getElem?_eq_getElem (by omega)⟩
theorem bulk_pos {H : Type} (d : DataW H) : 1 ≤ Rows.uptoBulk d := by
  cases d with
  | lit l => cases l <;> simp only [Rows.uptoBulk] <;> omega
  | nil => simp only [Rows.uptoBulk]; omega
  | ptr d => simp only [Rows.uptoBulk]; omega
  | slice a b => simp only [Rows.uptoBulk]; omega
  | agg a => simp only [Rows.uptoBulk]; omega
  | iface t d => simp only [Rows.uptoBulk]; omega
  | map a => simp only [Rows.uptoBulk]; omega
  | held a => simp only [Rows.uptoBulk]; omega
theorem bulk_mem {H : Type} {d : DataW H} : ∀ {l : List (DataW H)}, d ∈ l → Rows.uptoBulk d ≤ Rows.uptoBulkAll l
  | x :: r, h => by
    simp only [Rows.uptoBulkAll]
    rcases List.mem_cons.1 h with e | e
    · subst e; omega
    · have := bulk_mem e; omega
theorem bulk_app {H : Type} : ∀ (l r : List (DataW H)), Rows.uptoBulkAll (l ++ r) = Rows.uptoBulkAll l + Rows.uptoBulkAll r
  | [], r => by simp only [List.nil_append, Rows.uptoBulkAll]; omega
  | x :: l, r => by simp only [List.cons_append, Rows.uptoBulkAll, bulk_app l r]; omega
theorem bulk_len {H : Type} : ∀ (l : List (DataW H)), l.length ≤ Rows.uptoBulkAll l
  | [] => by simp
  | x :: r => by have := bulk_pos x; have := bulk_len r; simp only [Rows.uptoBulkAll, List.length_cons]; omega
section
variable {H : Type} {enc : TypeId × Value → H} {w : World} {base : Nat} {spare : Nat → Bool} {held : Bool}
set_option maxRecDepth 100000 in
/-- A point is three integers. -/
theorem point_of {fuel : Nat} {cs : List Value} {x : DataW H × List MemPlace} (h : DataW.trod enc Try.prog w base spare held fuel 29 cs = some x) :
    ∃ p : Pt, cs = [.int .i64 p.x, .int .i64 p.y, .int .i64 p.d] ∧ ((Lit.int .i64 p.x).wf = true ∧ (Lit.int .i64 p.y).wf = true ∧ (Lit.int .i64 p.d).wf = true) := by
  obtain ⟨xs, n, _, _, hl, hxs, hf⟩ := DataW.trod_struct Try.underlying29 h
  rw [cellsPoint] at hl
  obtain ⟨v0, v1, v2, rfl⟩ := list3 hl
  · skip
    obtain ⟨x0, e0⟩ := some_at (i := 0) hxs (by decide)
    obtain ⟨x1, e1⟩ := some_at (i := 1) hxs (by decide)
    obtain ⟨x2, e2⟩ := some_at (i := 2) hxs (by decide)
    have f0 : DataW.trod enc Try.prog w base spare held n 3 [v0] = some x0 := by
      have e : List.take (Try.prog.cellsOf 3) (List.drop 0 [v0, v1, v2]) = [v0] := by rw [cellsInt]; rfl
      exact (congrArg (DataW.trod enc Try.prog w base spare held n 3) e).symm.trans ((hf 0 _ rfl).trans e0)
    have f1 : DataW.trod enc Try.prog w base spare held n 3 [v1] = some x1 := by
      have e : List.take (Try.prog.cellsOf 3) (List.drop 1 [v0, v1, v2]) = [v1] := by rw [cellsInt]; rfl
      exact (congrArg (DataW.trod enc Try.prog w base spare held n 3) e).symm.trans ((hf 1 _ rfl).trans e1)
    have f2 : DataW.trod enc Try.prog w base spare held n 3 [v2] = some x2 := by
      have e : List.take (Try.prog.cellsOf 3) (List.drop 2 [v0, v1, v2]) = [v2] := by rw [cellsInt]; rfl
      exact (congrArg (DataW.trod enc Try.prog w base spare held n 3) e).symm.trans ((hf 2 _ rfl).trans e2)
    obtain ⟨a, ha, _, wa⟩ := DataW.trod_int Try.underlying3 f0
    obtain ⟨b, hb, _, wb⟩ := DataW.trod_int Try.underlying3 f1
    obtain ⟨c, hc, _, wc⟩ := DataW.trod_int Try.underlying3 f2
    simp at ha hb hc
    subst ha hb hc
    exact ⟨⟨a, b, c⟩, rfl, wa, wb, wc⟩
theorem cell_off {a : Addr} {b off : Nat} (ha : a = ⟨b, off, none⟩) (i j : Nat) : (a.add i).add j = ⟨b, off + i + j, none⟩ := by
  subst ha
  unfold Addr.add
  by_cases h1 : i = 0
  · by_cases h2 : j = 0 <;> simp [h1, h2]
  · by_cases h2 : j = 0 <;> simp [h1, h2]
theorem cellsSlice : Try.prog.cellsOf 27 = 1 := by kernel_rfl
theorem getD_range {α : Type} (f : Nat → α) (d : α) (n j : Nat) (hj : j < n) : ((List.range n).map f).getD j d = f j := by
  simp [List.getD_eq_getElem?_getD, hj]
theorem spot_of {a : Addr} {v : Value} (h : w.cell? a = some v) : ∃ b off, a = ⟨b, off, none⟩ := by
  have h6 := World.cell?_spot h
  obtain ⟨b, off, sp⟩ := a
  simp at h6
  subst h6
  exact ⟨b, off, rfl⟩
theorem add_spot (b off i : Nat) : (⟨b, off, none⟩ : Addr).add i = ⟨b, off + i, none⟩ := by
  unfold Addr.add
  by_cases h : i = 0 <;> simp [h]
theorem add_zero (a : Addr) : a.add 0 = a := by simp [Addr.add]
set_option maxRecDepth 100000 in
theorem ring_of {fuel : Nat} {v : Value} {x : DataW H × List MemPlace} (h : DataW.trod enc Try.prog w base spare held fuel 27 [v] = some x) :
    ∃ r : List Pt, RingAt w v r ∧ r.length + 1 ≤ Rows.uptoBulk x.1 := by
  rcases Deep.open_slice Try.underlying27 h with ⟨hcs, hx⟩ | ⟨a, len, cap, m, n, D, Pl, hcs, hb, hl, hm, hmm, hx, hel⟩
  · simp at hcs
    subst hcs
    exact ⟨[], ⟨none, 0, rfl, Nat.le_refl _, Nat.zero_le _, fun j hj => absurd hj (Nat.not_lt_zero _)⟩, by rw [hx]; exact bulk_pos _⟩
  · simp at hcs
    subst hcs
    have hml : len ≤ m := by rw [hmm]; split <;> omega
    have hspot : 0 < len → ∃ b off, a = ⟨b, off, none⟩ := fun h0 => by
      obtain ⟨cs', h1, h2⟩ := hel 0 (by omega)
      obtain ⟨_, _, h4⟩ := World.cells?_some h1
      rw [cellsPoint] at h4
      obtain ⟨p, rfl, _⟩ := point_of h2
      have h5 := h4 0 (by decide)
      rw [Nat.zero_mul, add_zero, add_zero] at h5
      exact spot_of h5
    have hp : ∀ i, ∃ p : Pt, i < len → ∃ b off, a = ⟨b, off, none⟩ ∧ b < w.heap.size ∧ PtAt w b (off + i * 3) p := by
      intro i
      by_cases hi : i < len
      · obtain ⟨cs', h1, h2⟩ := hel i (by omega)
        obtain ⟨_, _, h4⟩ := World.cells?_some h1
        rw [cellsPoint] at h4
        obtain ⟨p, rfl, _⟩ := point_of h2
        obtain ⟨b, off, rfl⟩ := hspot (by omega)
        have hc := fun j hj => (congrArg w.cell? (cell_off (a := ⟨b, off, none⟩) rfl (i * 3) j)).symm.trans (h4 j hj)
        refine ⟨p, fun _ => ⟨b, off, rfl, World.block_lt_of_cell? w ⟨b, off + i * 3, none⟩ (hc 0 (by decide)), hc 0 (by decide), hc 1 (by decide), hc 2 (by decide)⟩⟩
      · exact ⟨zP, fun h => absurd h hi⟩
    obtain ⟨f, hf⟩ := Classical.axiomOfChoice hp
    refine ⟨(List.range len).map f, ⟨some a, cap, by simp, by simpa using hl, hm, fun j hj => ?_⟩, ?_⟩
    · have hj' : j < len := by simpa using hj
      obtain ⟨b, off, rfl, h1, h2⟩ := hf j hj'
      rw [getD_range _ _ _ _ hj']
      exact ⟨b, off, rfl, h1, h2⟩
    · rw [hx]
      simp only [Rows.uptoBulk, List.length_map, List.length_range]
      have := bulk_len ((List.range len).map D)
      simp at this
      omega
set_option maxRecDepth 100000 in
theorem poly_of {fuel : Nat} {v : Value} {x : DataW H × List MemPlace} (h : DataW.trod enc Try.prog w base spare held fuel 22 [v] = some x) :
    ∃ P : List (List Pt), PolyAt w v P ∧ P.length + 1 ≤ Rows.uptoBulk x.1 ∧ ∀ i, i < P.length → (P.getD i []).length + 1 ≤ Rows.uptoBulk x.1 := by
  rcases Deep.open_slice1 Try.underlying22 cellsSlice h with ⟨hcs, hx⟩ | ⟨a, len, cap, m, n, V, D, Pl, hcs, hb, hl, hm, hmm, hx, hel⟩
  · simp at hcs
    subst hcs
    exact ⟨[], ⟨none, 0, rfl, Nat.le_refl _, Nat.zero_le _, fun j hj => absurd hj (Nat.not_lt_zero _)⟩, by rw [hx]; exact bulk_pos _, fun i hi => absurd hi (Nat.not_lt_zero _)⟩
  · simp at hcs
    subst hcs
    have hml : len ≤ m := by rw [hmm]; split <;> omega
    have hp : ∀ i, ∃ r : List Pt, i < len → RingAt w (V i) r ∧ r.length + 1 ≤ Rows.uptoBulk (D i) := by
      intro i
      by_cases hi : i < len
      · obtain ⟨r, h1, h2⟩ := ring_of (hel i (by omega)).2
        exact ⟨r, fun _ => ⟨h1, h2⟩⟩
      · exact ⟨[], fun h => absurd h hi⟩
    obtain ⟨f, hf⟩ := Classical.axiomOfChoice hp
    have hbulk : Rows.uptoBulk x.1 = Rows.uptoBulkAll ((List.range len).map D) + Rows.uptoBulkAll ((List.range (m - len)).map fun j => D (len + j)) + 1 := by
      rw [hx]; simp only [Rows.uptoBulk]
    refine ⟨(List.range len).map f, ⟨some a, cap, by simp, by simpa using hl, hm, fun j hj => ?_⟩, ?_, fun i hi => ?_⟩
    · have hj' : j < len := by simpa using hj
      obtain ⟨hc, _⟩ := hel j (by omega)
      obtain ⟨h0, _⟩ := hel 0 (by omega)
      rw [add_zero] at h0
      obtain ⟨b, off, rfl⟩ := spot_of h0
      rw [add_spot] at hc
      rw [getD_range _ _ _ _ hj']
      exact ⟨b, off, V j, rfl, World.block_lt_of_cell? w ⟨b, off + j, none⟩ hc, hc, (hf j hj').1⟩
    · rw [hbulk]
      have := bulk_len ((List.range len).map D)
      simp at this
      simp; omega
    · have hi' : i < len := by simpa using hi
      rw [getD_range _ _ _ _ hi', hbulk]
      have h1 := (hf i hi').2
      have h2 := bulk_mem (d := D i) (l := (List.range len).map D) (List.mem_map.2 ⟨i, List.mem_range.2 hi', rfl⟩)
      omega
end
end Go.Proofs.Ytnkcbephceollab
namespace Go.Proofs.Ytnkcbephceollab
open Go.ChangeShapes Go.WideShapes Go.ChangeAt Go.RowKit
set_option linter.unusedVariables false

theorem again_own : ownKnob Try.prog.godebug = none := by kernel_rfl
theorem again_laidOut : laidOutB Try.prog = true := by kernel_rfl

set_option maxRecDepth 100000 in
theorem again_lifted (os : Os) (started : os.Started) (H : Type) (enc : TypeId × Value → H) :
    ReturnsInHanded {} Try.checked os 3 .any (Rows.againSpec.pre6 enc Try.prog Try.f3 Rows.againRow.domain false) (Rows.againSpec.post enc Try.prog Try.f3 false true false false) := by
  refine returnsInHanded_of_change (C := Try.checked) again_own started (by kernel_rfl) Try.func3
    (ChangeSpec.witness6 (enc := enc) (C := Try.checked) false ⟨#[], #[.int .i64 0, .slice none 0 0, .slice none 0 0], []⟩ 8 (by kernel_rfl) (by kernel_rfl) (by kernel_rfl) (by kernel_rfl)) ?_
  intro W base args ds gs before hval0 hW hcnd _
  have hval : ∀ (j : Nat) t v, Try.f3.params[j]? = some t → args[j]? = some v → Value.okWide Try.prog W .any base t v := hval0
  have hW' := hW
  obtain ⟨p, q, hA0, hV, rfl, hfz, hnd⟩ := hW
  have hA : DataW.TrodAll enc Try.prog W 0 (fun _ => true) true Try.f3.params.toList args.toList ds p := hA0
  rw [Try.params3] at hA hval
  obtain ⟨v0, vs0, d0, ds0, p0, q0, e0, rfl, rfl, h0, r0⟩ := trodAll_cons hA
  obtain ⟨v1, vs1, d1, ds1, p1, q1, e1, rfl, rfl, h1, r1⟩ := trodAll_cons r0
  obtain ⟨v2, vs2, d2, ds2, p2, q2, e2, rfl, rfl, h2, r2⟩ := trodAll_cons r1
  obtain ⟨rfl, rfl, rfl⟩ := trodAll_nil r2
  obtain rfl : args = #[v0, v1, v2] := by cases args; simp_all
  obtain ⟨rfl, rfl⟩ := trodVars_none hV
  obtain ⟨n0, rfl, rfl, rfl, f0⟩ := open_int Try.underlying3 (hval 0 3 v0 rfl rfl) h0
  obtain ⟨a1, len1, cap1, rfl⟩ := okWide_slice Try.underlying22 (hval 1 22 v1 rfl rfl)
  obtain ⟨a2, len2, cap2, rfl⟩ := okWide_slice Try.underlying22 (hval 2 22 v2 rfl rfl)
  have k1 := h1
  have k2 := h2
  have lt1 : ∀ x ∈ p1, x.block < W.heap.size := by obtain ⟨m, hm⟩ := k1; exact DataW.trod_lt m _ _ _ hm
  have lt2 : ∀ x ∈ p2, x.block < W.heap.size := by obtain ⟨m, hm⟩ := k2; exact DataW.trod_lt m _ _ _ hm
  obtain ⟨A, hPA, _, _⟩ : ∃ A, PolyAt W (.slice a1 len1 cap1) A ∧ A.length + 1 ≤ Rows.uptoBulk d1 ∧ ∀ i, i < A.length → (A.getD i []).length + 1 ≤ Rows.uptoBulk d1 := by
    obtain ⟨fuel, hf⟩ := h1
    exact poly_of (by simpa [Value.cells] using hf)
  obtain ⟨B, hPB, _, _⟩ : ∃ B, PolyAt W (.slice a2 len2 cap2) B ∧ B.length + 1 ≤ Rows.uptoBulk d2 ∧ ∀ i, i < B.length → (B.getD i []).length + 1 ≤ Rows.uptoBulk d2 := by
    obtain ⟨fuel, hf⟩ := h2
    exact poly_of (by simpa [Value.cells] using hf)
  clear hA0 hval0
  refine (again_walk n0 _ _ A B W hPA hPB).mono fun e W' ⟨he, bel⟩ => ?_
  subst he
  exact ⟨_, rfl, _, _, _, [], _, [], hW', trodAll_mk1 (shut_bool Try.underlying4 _), (trodAll_cons_mk (shut_int Try.underlying3 f0) (trodAll_cons_mk (Below.trod again_laidOut (by kernel_rfl) (of_decide_eq_true (by kernel_rfl)) k1 bel lt1) (trodAll_cons_mk (Below.trod again_laidOut (by kernel_rfl) (of_decide_eq_true (by kernel_rfl)) k2 bel lt2) trodAll_mk0))), rfl, bel.frame _, fun h => by cases h⟩

theorem again_over : Rows.againRow.holds Try.pinned (OpenSpec.ofChange Rows.againSpec) :=
  OpenClaim.holds_of_wide 3 Try.f3 rfl rfl rfl rfl rfl rfl rfl ⟨rfl, rfl, rfl, rfl, rfl⟩ rfl rfl rfl rfl rfl (by kernel_rfl) Try.func3 (by kernel_rfl)
    (of_decide_eq_true (by kernel_rfl)) (by unfold Func.isWrapper; first | (rw [if_pos (by decide +kernel)]; kernel_rfl) | (rw [if_neg (by decide +kernel)]; exact ⟨rfl, rfl⟩))
    (fun os started H enc _ => again_lifted os started H enc)

/-- The statement. -/
theorem again_holds : Rows.AgainSaid := again_over
#print axioms again_holds
end Go.Proofs.Ytnkcbephceollab
