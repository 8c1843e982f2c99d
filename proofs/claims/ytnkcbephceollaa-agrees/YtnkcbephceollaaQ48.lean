import Derived.Test.YtnkcbephceollaaQ38
import Derived.Test.YtnkcbephceollaaQ47
import Derived.Test.YtnkcbephceollaaRows
import Derived.Test.YtnkcbephceollaaQ6
import Derived.Deep.Slices
import Derived.ChangeArms
import Derived.WalkKit
import Derived.ProofKit
import Derived.OpenShut
import Derived.ShutString
import Derived.ChangeOld
import Derived.Below
import Derived.Lib.SmallJoins
namespace Go.Proofs.Ytnkcbephceollaa
open Go.RowKit
set_option linter.unusedSimpArgs false
set_option linter.unusedVariables false

set_option maxHeartbeats 1000000 in
theorem wanted_any (op : Int) (a b : Bool) (w : World) :
    Calls Try.prog 36 #[.int .i64 op, .bool a, .bool b] w fun e w' => e = .returned (.bool (inM op a b)) ∧ w' = w := by
  by_cases h0 : op = 0
  · subst h0
    cases a <;> cases b <;>
      (go_enter Try.func36, Try.ntmps36
       go_wp2
       go_ret
       exact ⟨rfl, rfl⟩)
  by_cases h1 : op = 1
  · subst h1
    cases a <;> cases b <;>
      (go_enter Try.func36, Try.ntmps36
       go_wp2
       go_ret
       exact ⟨rfl, rfl⟩)
  by_cases h2 : op = 2
  · subst h2
    cases a <;> cases b <;>
      (go_enter Try.func36, Try.ntmps36
       go_wp2
       go_ret
       exact ⟨rfl, rfl⟩)
  by_cases h3 : op = 3
  · subst h3
    cases a <;> cases b <;>
      (go_enter Try.func36, Try.ntmps36
       go_wp2
       go_ret
       exact ⟨rfl, rfl⟩)
  · have H : Hid (inM op a b = (a != b)) := by unfold inM; rw [if_neg h0, if_neg h1, if_neg h2, if_neg h3]; exact hide rfl
    go_enter Try.func36, Try.ntmps36
    go_wp2
    go_ret
    exact ⟨ret_bool H.out.symm, rfl⟩


set_option maxHeartbeats 1000000 in
theorem refusal_clip (op : Int) (va vb : Value) (A B : List (List Pt)) (w : World) (hA : PolyAt w va A) (hB : PolyAt w vb B) :
    Calls Try.prog 32 #[.int .i64 op, va, vb] w fun e w' => e = .returned (.int .i64 (clipM op A B).2) ∧ Below w.heap.size w w' := by
  by_cases h : op < 0 ∨ op > 4
  · have H : Hid ((clipM op A B).2 = 6) := by unfold clipM; rw [if_pos h]; exact hide rfl
    rw [H.out]
    clear hA hB H
    by_cases h1 : op < 0
    · go_enter Try.func32, Try.ntmps32
      go_wp2
      go_ret
      exact ⟨rfl, Below.refl _ _⟩
    · have h2 : (4 : Int) < op := by omega
      clear h
      go_enter Try.func32, Try.ntmps32
      go_wp2
      go_ret
      exact ⟨rfl, Below.refl _ _⟩
  · have e : (clipM op A B).2 = bothM A B := by
      unfold clipM
      rw [if_neg h]
      by_cases k : bothM A B ≠ 0
      · rw [if_pos k]
      · rw [if_neg k]; exact (Decidable.byContradiction k).symm
    rw [e]
    exact refusal_any op va vb A B w (by omega) (by omega) hA hB

set_option maxRecDepth 100000 in
set_option maxHeartbeats 4000000 in
theorem agrees_walk (op : Int) (va vb : Value) (A B : List (List Pt)) (q : Pt) (w : World) (hA : PolyAt w va A) (hB : PolyAt w vb B) :
    Calls Try.prog 8 #[.int .i64 op, va, vb, q.v] w fun e w' => e = .returned (.bool true) ∧ Below w.heap.size w w' := by
  have C1 := hide (fun wz (kz : Below w.heap.size w wz) => Clip_any op va vb A B wz (hA.later kz) (hB.later kz))
  have C2 := hide (fun wz (kz : Below w.heap.size w wz) => refusal_clip op va vb A B wz (hA.later kz) (hB.later kz))
  have LA := hide (fun wz (kz : Below w.heap.size w wz) => Locate_any va A q wz (hA.later kz))
  have LB := hide (fun wz (kz : Below w.heap.size w wz) => Locate_any vb B q wz (hB.later kz))
  clear hA hB
  by_cases hz : (clipM op A B).2 = 0
  · obtain ⟨ho, c1, c2, eR⟩ := clip_right hz
    have AG := hide (agree_loc c1 c2 op q)
    have hFW := clip_few op A B
    rw [← eR] at AG
    clear c1 c2 eR
    generalize clipM op A B = cl at *
    obtain ⟨R, z⟩ := cl
    simp only at hz AG hFW C1 C2
    subst hz
    have hRl : R.length ≤ 100000 := hFW.few
    clear hFW
    go_enter Try.func8, Try.ntmps8
    go_wp2_with fail
    refine (known_yes _).mono ?_
    rintro e w1 ⟨rfl, k1⟩
    have Q1 := hide ((Blk.new w _ _).call k1)
    have B1 := hide (bvia ((Below.refl _ _).alloc (Nat.le_refl _) _) k1)
    have C1' := hide (C1.out w1 B1.out)
    clear k1 C1
    go_wp2_with fail
    refine C1'.out.mono ?_
    rintro e w2 ⟨v1, vs1, rfl, o1, k2⟩
    have P2 := hide (o1.poly (by unfold maxLen; omega))
    have Q2 := hide (Q1.out.call k2)
    have B2 := hide (bvia B1.out k2)
    have C2' := hide (C2.out w2 B2.out)
    clear C1' C2 o1 k2 B1 Q1
    go_wp2_with fail
    refine C2'.out.mono ?_
    rintro e w3 ⟨rfl, k3⟩
    have P3 := hide (P2.out.later k3)
    have Q3 := Q2.out.call k3
    have B3 := hide (bvia B2.out k3)
    have LA' := hide (LA.out w3 B3.out)
    clear C2' k3 B2 Q2 P2 LA
    obtain ⟨cq, fq, zq⟩ := id Q3
    go_wp2_with fail
    refine LA'.out.mono ?_
    rintro e w4 ⟨rfl, k4⟩
    have P4 := hide (P3.out.later k4)
    have Q4 := Q3.call k4
    have B4 := hide (bvia B3.out k4)
    have LB' := hide (LB.out w4 B4.out)
    clear LA' k4 B3 Q3 P3 LB cq fq zq
    obtain ⟨cq, fq, zq⟩ := id Q4
    go_wp2_with fail
    refine LB'.out.mono ?_
    rintro e w5 ⟨rfl, k5⟩
    have LC := hide (Locate_any v1 R q w5 (P4.out.later k5))
    have Q5 := Q4.call k5
    have B5 := hide (bvia B4.out k5)
    clear LB' k5 B4 Q4 P4 cq fq zq
    obtain ⟨cq, fq, zq⟩ := id Q5
    go_wp2_with fail
    refine LC.out.mono ?_
    rintro e w6 ⟨rfl, k6⟩
    have B6 := hide (bvia B5.out k6)
    clear LC k6 B5 Q5 cq fq zq
    rcases AG.out with ⟨_, e1, e2, e3⟩ | ⟨e1, e2, e3, ag⟩
    · rw [e1, e2, e3]
      clear AG
      go_wp2
      go_ret
      exact ⟨rfl, B6.out⟩
    · rw [e1, e2, e3]
      have HAG := hide ag
      clear AG e1 e2 e3 ag
      generalize whereM q 0 (edgesM A) = x at *
      generalize whereM q 0 (edgesM B) = y at *
      generalize whereM q 0 (edgesM R) = t at *
      by_cases hx : x = 2
      · subst hx
        clear HAG
        go_wp2
        go_ret
        exact ⟨rfl, B6.out⟩
      · have hx' : (x == 2) = false := by simpa using hx
        by_cases hy : y = 2
        · subst hy
          clear HAG hx
          go_wp2
          go_ret
          exact ⟨rfl, B6.out⟩
        · have hy' : (y == 2) = false := by simpa using hy
          have ht := hide (HAG.out hx hy)
          have ex : decide (x = 1) = (x == 1) := by rw [Bool.eq_iff_iff]; simp
          have ey : decide (y = 1) = (y == 1) := by rw [Bool.eq_iff_iff]; simp
          rw [ex, ey] at ht
          have CW := hide (fun wz => wanted_any op (x == 1) (y == 1) wz)
          clear HAG hx hy ex ey
          generalize inM op (x == 1) (y == 1) = res at *
          cases res
          · have e0 : t = 0 := ht.out
            subst e0
            go_wp2_with fail
            refine (CW.out _).mono ?_
            rintro e w7 ⟨rfl, hw⟩
            have hw2 := hw.symm
            subst hw2
            go_wp2
            go_ret
            exact ⟨rfl, B6.out⟩
          · have e0 : t = 1 := ht.out
            subst e0
            go_wp2_with fail
            refine (CW.out _).mono ?_
            rintro e w7 ⟨rfl, hw⟩
            have hw2 := hw.symm
            subst hw2
            go_wp2
            go_ret
            exact ⟨rfl, B6.out⟩
  · have HE := hide (clip_wrong hz)
    generalize clipM op A B = cl at *
    obtain ⟨R, z⟩ := cl
    simp only at hz HE C1 C2
    have eR := HE.out
    subst eR
    have hz' : (z != 0) = true := by simpa using hz
    have hzz : (z != z) = false := by simp
    clear LA LB
    go_enter Try.func8, Try.ntmps8
    go_wp2_with fail
    refine (known_yes _).mono ?_
    rintro e w1 ⟨rfl, k1⟩
    have B1 := hide (bvia ((Below.refl _ _).alloc (Nat.le_refl _) _) k1)
    have C1' := hide (C1.out w1 B1.out)
    clear k1 C1
    go_wp2_with fail
    refine C1'.out.mono ?_
    rintro e w2 ⟨v1, vs1, rfl, o1, k2⟩
    have B2 := hide (bvia B1.out k2)
    have C2' := hide (C2.out w2 B2.out)
    obtain ⟨oa, ocap, rfl, _, _, _⟩ := own_form o1.row
    clear C1' C2 o1 k2 B1
    go_wp2_with fail
    refine C2'.out.mono ?_
    rintro e w3 ⟨rfl, k3⟩
    have B3 := hide (bvia B2.out k3)
    clear C2' k3 B2
    go_wp2
    go_ret
    exact ⟨rfl, B3.out⟩
end Go.Proofs.Ytnkcbephceollaa
namespace Go.Proofs.Ytnkcbephceollaa
open Go.RowKit Go.ChangeShapes Go.WideShapes
set_option linter.unusedSimpArgs false
set_option linter.unusedVariables false

theorem cellsInt : Try.prog.cellsOf 3 = 1 := by kernel_rfl
theorem cellsPoint : Try.prog.cellsOf 25 = 3 := by kernel_rfl
theorem cellsRings : Try.prog.cellsOf 42 = 1 := by kernel_rfl
theorem list3 {α : Type} {l : List α} (h : l.length = 3) : ∃ a b c, l = [a, b, c] := by
  match l, h with
  | [a, b, c], _ => exact ⟨a, b, c, rfl⟩
theorem some_at {α : Type} {xs : List α} {n i : Nat} (h : xs.length = n) (hi : i < n) : ∃ x, xs[i]? = some x := ⟨_, List.getElem?_eq_getElem (by omega)⟩
theorem bulk_pos {H : Type} (d : DataW H) : 1 ≤ Rows.uptoBulk d := by
  cases d with
  | lit l => cases l <;> simp only [Rows.uptoBulk] <;> omega
  | nil => simp only [Rows.uptoBulk]; omega
  | ptr d => simp only [Rows.uptoBulk]; omega
  | slice a b => simp only [Rows.uptoBulk]; omega
  | agg a => simp only [Rows.uptoBulk]; omega
  | iface t d => simp only [Rows.uptoBulk]; omega
  | map a => simp only [Rows.uptoBulk]; omega
  | held a => simp only [Rows.uptoBulk]; omega
theorem bulk_mem {H : Type} {d : DataW H} : ∀ {l : List (DataW H)}, d ∈ l → Rows.uptoBulk d ≤ Rows.uptoBulkAll l
  | x :: r, h => by
    simp only [Rows.uptoBulkAll]
    rcases List.mem_cons.1 h with e | e
    · subst e; omega
    · have := bulk_mem e; omega
theorem bulk_app {H : Type} : ∀ (l r : List (DataW H)), Rows.uptoBulkAll (l ++ r) = Rows.uptoBulkAll l + Rows.uptoBulkAll r
  | [], r => by simp only [List.nil_append, Rows.uptoBulkAll]; omega
  | x :: l, r => by simp only [List.cons_append, Rows.uptoBulkAll, bulk_app l r]; omega
theorem bulk_len {H : Type} : ∀ (l : List (DataW H)), l.length ≤ Rows.uptoBulkAll l
  | [] => by simp
  | x :: r => by have := bulk_pos x; have := bulk_len r; simp only [Rows.uptoBulkAll, List.length_cons]; omega
section
variable {H : Type} {enc : TypeId × Value → H} {w : World} {base : Nat} {spare : Nat → Bool} {held : Bool}
set_option maxRecDepth 100000 in
/-- A point is three integers. -/
theorem point_of {fuel : Nat} {cs : List Value} {x : DataW H × List MemPlace} (h : DataW.trod enc Try.prog w base spare held fuel 25 cs = some x) :
    ∃ p : Pt, cs = [.int .i64 p.x, .int .i64 p.y, .int .i64 p.d] ∧ ((Lit.int .i64 p.x).wf = true ∧ (Lit.int .i64 p.y).wf = true ∧ (Lit.int .i64 p.d).wf = true) := by
  obtain ⟨xs, n, _, _, hl, hxs, hf⟩ := DataW.trod_struct Try.underlying25 h
  rw [cellsPoint] at hl
  obtain ⟨v0, v1, v2, rfl⟩ := list3 hl
  · skip
    obtain ⟨x0, e0⟩ := some_at (i := 0) hxs (by decide)
    obtain ⟨x1, e1⟩ := some_at (i := 1) hxs (by decide)
    obtain ⟨x2, e2⟩ := some_at (i := 2) hxs (by decide)
    have f0 : DataW.trod enc Try.prog w base spare held n 3 [v0] = some x0 := by
      have e : List.take (Try.prog.cellsOf 3) (List.drop 0 [v0, v1, v2]) = [v0] := by rw [cellsInt]; rfl
      exact (congrArg (DataW.trod enc Try.prog w base spare held n 3) e).symm.trans ((hf 0 _ rfl).trans e0)
    have f1 : DataW.trod enc Try.prog w base spare held n 3 [v1] = some x1 := by
      have e : List.take (Try.prog.cellsOf 3) (List.drop 1 [v0, v1, v2]) = [v1] := by rw [cellsInt]; rfl
      exact (congrArg (DataW.trod enc Try.prog w base spare held n 3) e).symm.trans ((hf 1 _ rfl).trans e1)
    have f2 : DataW.trod enc Try.prog w base spare held n 3 [v2] = some x2 := by
      have e : List.take (Try.prog.cellsOf 3) (List.drop 2 [v0, v1, v2]) = [v2] := by rw [cellsInt]; rfl
      exact (congrArg (DataW.trod enc Try.prog w base spare held n 3) e).symm.trans ((hf 2 _ rfl).trans e2)
    obtain ⟨a, ha, _, wa⟩ := DataW.trod_int Try.underlying3 f0
    obtain ⟨b, hb, _, wb⟩ := DataW.trod_int Try.underlying3 f1
    obtain ⟨c, hc, _, wc⟩ := DataW.trod_int Try.underlying3 f2
    simp at ha hb hc
    subst ha hb hc
    exact ⟨⟨a, b, c⟩, rfl, wa, wb, wc⟩
theorem cell_off {a : Addr} {b off : Nat} (ha : a = ⟨b, off, none⟩) (i j : Nat) : (a.add i).add j = ⟨b, off + i + j, none⟩ := by
  subst ha
  unfold Addr.add
  by_cases h1 : i = 0
  · by_cases h2 : j = 0 <;> simp [h1, h2]
  · by_cases h2 : j = 0 <;> simp [h1, h2]
theorem cellsSlice : Try.prog.cellsOf 44 = 1 := by kernel_rfl
theorem getD_range {α : Type} (f : Nat → α) (d : α) (n j : Nat) (hj : j < n) : ((List.range n).map f).getD j d = f j := by
  simp [List.getD_eq_getElem?_getD, hj]
theorem spot_of {a : Addr} {v : Value} (h : w.cell? a = some v) : ∃ b off, a = ⟨b, off, none⟩ := by
  have h6 := World.cell?_spot h
  obtain ⟨b, off, sp⟩ := a
  simp at h6
  subst h6
  exact ⟨b, off, rfl⟩
theorem add_spot (b off i : Nat) : (⟨b, off, none⟩ : Addr).add i = ⟨b, off + i, none⟩ := by
  unfold Addr.add
  by_cases h : i = 0 <;> simp [h]
theorem add_zero (a : Addr) : a.add 0 = a := by simp [Addr.add]
set_option maxRecDepth 100000 in
theorem ring_of {fuel : Nat} {v : Value} {x : DataW H × List MemPlace} (h : DataW.trod enc Try.prog w base spare held fuel 44 [v] = some x) :
    ∃ r : List Pt, RingAt w v r ∧ r.length + 1 ≤ Rows.uptoBulk x.1 := by
  rcases Deep.open_slice Try.underlying44 h with ⟨hcs, hx⟩ | ⟨a, len, cap, m, n, D, Pl, hcs, hb, hl, hm, hmm, hx, hel⟩
  · simp at hcs
    subst hcs
    exact ⟨[], ⟨none, 0, rfl, Nat.le_refl _, Nat.zero_le _, fun j hj => absurd hj (Nat.not_lt_zero _)⟩, by rw [hx]; exact bulk_pos _⟩
  · simp at hcs
    subst hcs
    have hml : len ≤ m := by rw [hmm]; split <;> omega
    have hspot : 0 < len → ∃ b off, a = ⟨b, off, none⟩ := fun h0 => by
      obtain ⟨cs', h1, h2⟩ := hel 0 (by omega)
      obtain ⟨_, _, h4⟩ := World.cells?_some h1
      rw [cellsPoint] at h4
      obtain ⟨p, rfl, _⟩ := point_of h2
      have h5 := h4 0 (by decide)
      rw [Nat.zero_mul, add_zero, add_zero] at h5
      exact spot_of h5
    have hp : ∀ i, ∃ p : Pt, i < len → ∃ b off, a = ⟨b, off, none⟩ ∧ b < w.heap.size ∧ PtAt w b (off + i * 3) p := by
      intro i
      by_cases hi : i < len
      · obtain ⟨cs', h1, h2⟩ := hel i (by omega)
        obtain ⟨_, _, h4⟩ := World.cells?_some h1
        rw [cellsPoint] at h4
        obtain ⟨p, rfl, _⟩ := point_of h2
        obtain ⟨b, off, rfl⟩ := hspot (by omega)
        have hc := fun j hj => (congrArg w.cell? (cell_off (a := ⟨b, off, none⟩) rfl (i * 3) j)).symm.trans (h4 j hj)
        refine ⟨p, fun _ => ⟨b, off, rfl, World.block_lt_of_cell? w ⟨b, off + i * 3, none⟩ (hc 0 (by decide)), hc 0 (by decide), hc 1 (by decide), hc 2 (by decide)⟩⟩
      · exact ⟨zP, fun h => absurd h hi⟩
    obtain ⟨f, hf⟩ := Classical.axiomOfChoice hp
    refine ⟨(List.range len).map f, ⟨some a, cap, by simp, by simpa using hl, hm, fun j hj => ?_⟩, ?_⟩
    · have hj' : j < len := by simpa using hj
      obtain ⟨b, off, rfl, h1, h2⟩ := hf j hj'
      rw [getD_range _ _ _ _ hj']
      exact ⟨b, off, rfl, h1, h2⟩
    · rw [hx]
      simp only [Rows.uptoBulk, List.length_map, List.length_range]
      have := bulk_len ((List.range len).map D)
      simp at this
      omega
set_option maxRecDepth 100000 in
theorem poly_of {fuel : Nat} {v : Value} {x : DataW H × List MemPlace} (h : DataW.trod enc Try.prog w base spare held fuel 42 [v] = some x) :
    ∃ P : List (List Pt), PolyAt w v P ∧ P.length + 1 ≤ Rows.uptoBulk x.1 ∧ ∀ i, i < P.length → (P.getD i []).length + 1 ≤ Rows.uptoBulk x.1 := by
  rcases Deep.open_slice1 Try.underlying42 cellsSlice h with ⟨hcs, hx⟩ | ⟨a, len, cap, m, n, V, D, Pl, hcs, hb, hl, hm, hmm, hx, hel⟩
  · simp at hcs
    subst hcs
    exact ⟨[], ⟨none, 0, rfl, Nat.le_refl _, Nat.zero_le _, fun j hj => absurd hj (Nat.not_lt_zero _)⟩, by rw [hx]; exact bulk_pos _, fun i hi => absurd hi (Nat.not_lt_zero _)⟩
  · simp at hcs
    subst hcs
    have hml : len ≤ m := by rw [hmm]; split <;> omega
    have hp : ∀ i, ∃ r : List Pt, i < len → RingAt w (V i) r ∧ r.length + 1 ≤ Rows.uptoBulk (D i) := by
      intro i
      by_cases hi : i < len
      · obtain ⟨r, h1, h2⟩ := ring_of (hel i (by omega)).2
        exact ⟨r, fun _ => ⟨h1, h2⟩⟩
      · exact ⟨[], fun h => absurd h hi⟩
    obtain ⟨f, hf⟩ := Classical.axiomOfChoice hp
    have hbulk : Rows.uptoBulk x.1 = Rows.uptoBulkAll ((List.range len).map D) + Rows.uptoBulkAll ((List.range (m - len)).map fun j => D (len + j)) + 1 := by
      rw [hx]; simp only [Rows.uptoBulk]
    refine ⟨(List.range len).map f, ⟨some a, cap, by simp, by simpa using hl, hm, fun j hj => ?_⟩, ?_, fun i hi => ?_⟩
    · have hj' : j < len := by simpa using hj
      obtain ⟨hc, _⟩ := hel j (by omega)
      obtain ⟨h0, _⟩ := hel 0 (by omega)
      rw [add_zero] at h0
      obtain ⟨b, off, rfl⟩ := spot_of h0
      rw [add_spot] at hc
      rw [getD_range _ _ _ _ hj']
      exact ⟨b, off, V j, rfl, World.block_lt_of_cell? w ⟨b, off + j, none⟩ hc, hc, (hf j hj').1⟩
    · rw [hbulk]
      have := bulk_len ((List.range len).map D)
      simp at this
      simp; omega
    · have hi' : i < len := by simpa using hi
      rw [getD_range _ _ _ _ hi', hbulk]
      have h1 := (hf i hi').2
      have h2 := bulk_mem (d := D i) (l := (List.range len).map D) (List.mem_map.2 ⟨i, List.mem_range.2 hi', rfl⟩)
      omega
end
end Go.Proofs.Ytnkcbephceollaa
namespace Go.Proofs.Ytnkcbephceollaa
open Go.ChangeShapes Go.WideShapes Go.ChangeAt Go.RowKit Go.Joins
set_option linter.unusedVariables false

theorem agrees_own : ownKnob Try.prog.godebug = none := by kernel_rfl
theorem agrees_laidOut : laidOutB Try.prog = true := by kernel_rfl

set_option maxRecDepth 100000 in
theorem agrees_lifted (os : Os) (started : os.Started) (H : Type) (enc : TypeId × Value → H) :
    ReturnsInHanded {} Try.checked os 8 .any (Rows.agreesSpec.pre6 enc Try.prog Try.f8 Rows.agreesRow.domain false) (Rows.agreesSpec.post enc Try.prog Try.f8 false true false false) := by
  refine returnsInHanded_of_change (C := Try.checked) agrees_own started (by kernel_rfl) Try.func8
    (ChangeSpec.witness6 (enc := enc) (C := Try.checked) false ⟨#[], #[.int .i64 0, .slice none 0 0, .slice none 0 0, .agg #[.int .i64 0, .int .i64 0, .int .i64 0]], []⟩ 8 (by kernel_rfl) (by kernel_rfl) (by kernel_rfl) (by kernel_rfl)) ?_
  intro W base args ds gs before hval0 hW hcnd _
  have hval : ∀ (j : Nat) t v, Try.f8.params[j]? = some t → args[j]? = some v → Value.okWide Try.prog W .any base t v := hval0
  have hW' := hW
  obtain ⟨p, q, hA0, hV, rfl, hfz, hnd⟩ := hW
  have hA : DataW.TrodAll enc Try.prog W 0 (fun _ => true) true Try.f8.params.toList args.toList ds p := hA0
  rw [Try.params8] at hA hval
  obtain ⟨v0, vs0, d0, ds0, p0, q0, e0, rfl, rfl, h0, r0⟩ := trodAll_cons hA
  obtain ⟨v1, vs1, d1, ds1, p1, q1, e1, rfl, rfl, h1, r1⟩ := trodAll_cons r0
  obtain ⟨v2, vs2, d2, ds2, p2, q2, e2, rfl, rfl, h2, r2⟩ := trodAll_cons r1
  obtain ⟨v3, vs3, d3, ds3, p3, q3, e3, rfl, rfl, h3, r3⟩ := trodAll_cons r2
  obtain ⟨rfl, rfl, rfl⟩ := trodAll_nil r3
  obtain rfl : args = #[v0, v1, v2, v3] := by cases args; simp_all
  obtain ⟨rfl, rfl⟩ := trodVars_none hV
  obtain ⟨n0, rfl, rfl, rfl, f0⟩ := open_int Try.underlying3 (hval 0 3 v0 rfl rfl) h0
  obtain ⟨a1, len1, cap1, rfl⟩ := okWide_slice Try.underlying42 (hval 1 42 v1 rfl rfl)
  obtain ⟨a2, len2, cap2, rfl⟩ := okWide_slice Try.underlying42 (hval 2 42 v2 rfl rfl)
  obtain ⟨u0, u1, u2, y0, y1, y2, m, rfl, rfl, rfl, g0, g1, g2⟩ := open_agg3 Try.underlying25 (by kernel_rfl) cellsPoint (hval 3 25 v3 rfl rfl) h3
  obtain ⟨x0, i0, rfl, w0⟩ := DataW.trod_int Try.underlying3 g0
  obtain ⟨x1, i1, rfl, w1⟩ := DataW.trod_int Try.underlying3 g1
  obtain ⟨x2, i2, rfl, w2⟩ := DataW.trod_int Try.underlying3 g2
  simp at i0 i1 i2
  subst i0 i1 i2
  have k1 := h1
  have k2 := h2
  have lt1 : ∀ x ∈ p1, x.block < W.heap.size := by obtain ⟨m, hm⟩ := k1; exact DataW.trod_lt m _ _ _ hm
  have lt2 : ∀ x ∈ p2, x.block < W.heap.size := by obtain ⟨m, hm⟩ := k2; exact DataW.trod_lt m _ _ _ hm
  obtain ⟨A, hPA, _, _⟩ : ∃ A, PolyAt W (.slice a1 len1 cap1) A ∧ A.length + 1 ≤ Rows.uptoBulk d1 ∧ ∀ i, i < A.length → (A.getD i []).length + 1 ≤ Rows.uptoBulk d1 := by
    obtain ⟨fuel, hf⟩ := h1
    exact poly_of (by simpa [Value.cells] using hf)
  obtain ⟨B, hPB, _, _⟩ : ∃ B, PolyAt W (.slice a2 len2 cap2) B ∧ B.length + 1 ≤ Rows.uptoBulk d2 ∧ ∀ i, i < B.length → (B.getD i []).length + 1 ≤ Rows.uptoBulk d2 := by
    obtain ⟨fuel, hf⟩ := h2
    exact poly_of (by simpa [Value.cells] using hf)
  clear hA0 hval0
  refine (agrees_walk n0 _ _ A B ⟨x0, x1, x2⟩ W hPA hPB).mono fun e W' ⟨he, bel⟩ => ?_
  subst he
  exact ⟨_, rfl, _, _, _, [], _, [], hW', trodAll_mk1 (shut_bool Try.underlying4 _), (trodAll_cons_mk (shut_int Try.underlying3 f0) (trodAll_cons_mk (Below.trod agrees_laidOut (by kernel_rfl) (of_decide_eq_true (by kernel_rfl)) k1 bel lt1) (trodAll_cons_mk (Below.trod agrees_laidOut (by kernel_rfl) (of_decide_eq_true (by kernel_rfl)) k2 bel lt2) (trodAll_cons_mk (shut_agg3 (y0 := (.lit (.int .i64 x0), [])) (y1 := (.lit (.int .i64 x1), [])) (y2 := (.lit (.int .i64 x2), [])) Try.underlying25 (by kernel_rfl) cellsPoint (field_of_Trod (shut_int Try.underlying3 w0) rfl) (field_of_Trod (shut_int Try.underlying3 w1) rfl) (field_of_Trod (shut_int Try.underlying3 w2) rfl)) trodAll_mk0)))), rfl, bel.frame _, fun h => by cases h⟩

theorem agrees_over : Rows.agreesRow.holds Try.pinned (OpenSpec.ofChange Rows.agreesSpec) :=
  OpenClaim.holds_of_wide 8 Try.f8 rfl rfl rfl rfl rfl rfl rfl ⟨rfl, rfl, rfl, rfl, rfl⟩ rfl rfl rfl rfl rfl (by kernel_rfl) Try.func8 (by kernel_rfl)
    (of_decide_eq_true (by kernel_rfl)) (by unfold Func.isWrapper; first | (rw [if_pos (by decide +kernel)]; kernel_rfl) | (rw [if_neg (by decide +kernel)]; exact ⟨rfl, rfl⟩))
    (fun os started H enc _ => agrees_lifted os started H enc)

/-- The statement. -/
theorem agrees_holds : Rows.AgreesSaid := agrees_over
#print axioms agrees_holds
end Go.Proofs.Ytnkcbephceollaa
