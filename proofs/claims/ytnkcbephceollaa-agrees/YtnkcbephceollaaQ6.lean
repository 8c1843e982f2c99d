import Derived.Test.YtnkcbephceollaaQ5
import Derived.Test.YtnkcbephceollaaQ3
import Derived.Deep.RegionWith
import Derived.Deep.RegionHeld3
import Derived.Deep.AppendLies
import Derived.OwnWalk
import Derived.KernelRfl
import Derived.Laws.OwnMore
namespace Go.Proofs.Ytnkcbephceollaa
open Go.RowKit
set_option linter.unusedSimpArgs false
set_option linter.unusedVariables false

theorem Blk.set {w : World} {b : Nat} {vs : Array Value} (h : Blk w b vs) (i : Nat) (hi : i < vs.size) (x : Value) : Blk (w.setCell ⟨b, i, none⟩ x) b (vs.setIfInBounds i x) := by
  refine ⟨fun o => ?_, fun o => ?_, ?_⟩
  · rw [Array.getElem?_setIfInBounds]
    by_cases e : i = o
    · subst e
      rw [if_pos rfl, if_pos hi]
      have hc := h.cell i
      rw [Array.getElem?_eq_getElem hi] at hc
      simp [go_sem, hc]
    · rw [if_neg e, ← h.cell o]
      have : ((⟨b, i, none⟩ : Addr) = ⟨b, o, none⟩) = False := by simp [e]
      simp [go_sem, this, e, Ne.symm e]
  · simp [go_sem, h.free o]
  · simpa using h.lt

theorem Blk.drew {w : World} {b : Nat} {vs : Array Value} (h : Blk w b vs) : Blk w.drew b vs := ⟨h.cell, h.free, h.lt⟩
theorem Blk.off {w : World} {b : Nat} {vs : Array Value} (h : Blk w b vs) {p : Nat} (hne : b ≠ p) (i : Nat) (x : Value) : Blk (w.setCell ⟨p, i, none⟩ x) b vs :=
  ⟨fun o => (World.cell?_of_block (w := w) (Below.heap_setCell w ⟨p, i, none⟩ x b hne)).trans (h.cell o), fun o => by simpa using h.free o, by simpa using h.lt⟩
theorem Blk.off3 {w : World} {b : Nat} {vs : Array Value} (h : Blk w b vs) {p : Nat} (hne : b ≠ p) (x y z : Value) : Blk (((w.setCell ⟨p, 0, none⟩ x).setCell ⟨p, 1, none⟩ y).setCell ⟨p, 2, none⟩ z) b vs :=
  ((h.off hne 0 x).off hne 1 y).off hne 2 z
theorem Blk.put3 {w : World} {p : Nat} {x y z x' y' z' : Value} (h : Blk w p #[x, y, z]) : Blk (((w.setCell ⟨p, 0, none⟩ x').setCell ⟨p, 1, none⟩ y').setCell ⟨p, 2, none⟩ z') p #[x', y', z'] :=
  ((h.set 0 (by simp) x').set 1 (by simp) y').set 2 (by simp) z'
theorem hide {p : Prop} (h : p) : Hid p := h

end Go.Proofs.Ytnkcbephceollaa
namespace Go.Proofs.Ytnkcbephceollaa
open Go.RowKit
set_option linter.unusedSimpArgs false
set_option linter.unusedVariables false

/-- A point's three cells. -/
structure PtAt (w : World) (b o : Nat) (p : Pt) : Prop where
  x : w.cell? ⟨b, o, none⟩ = some (.int .i64 p.x)
  y : w.cell? ⟨b, o + 1, none⟩ = some (.int .i64 p.y)
  d : w.cell? ⟨b, o + 2, none⟩ = some (.int .i64 p.d)
theorem PtAt.later {w w' : World} {b o : Nat} {p : Pt} {m : Nat} (h : PtAt w b o p) (hb : Below m w w') (hl : b < m) : PtAt w' b o p :=
  ⟨(hb.cell (p := ⟨b, o, none⟩) hl).trans h.x, (hb.cell (p := ⟨b, o + 1, none⟩) hl).trans h.y, (hb.cell (p := ⟨b, o + 2, none⟩) hl).trans h.d⟩
/-- A slice of points. -/
def RingAt (w : World) (v : Value) (r : List Pt) : Prop :=
  ∃ (a : Option Addr) (cap : Nat), v = .slice a r.length cap ∧ r.length ≤ cap ∧ cap ≤ maxLen ∧ ∀ j, j < r.length → ∃ b off, a = some ⟨b, off, none⟩ ∧ b < w.heap.size ∧ PtAt w b (off + j * 3) (r.getD j zP)
theorem RingAt.later {w w' : World} {v : Value} {r : List Pt} (h : RingAt w v r) (hb : Below w.heap.size w w') : RingAt w' v r := by
  obtain ⟨a, cap, rfl, h1, h2, h3⟩ := h
  refine ⟨a, cap, rfl, h1, h2, fun j hj => ?_⟩
  obtain ⟨b, off, rfl, hl, hp⟩ := h3 j hj
  exact ⟨b, off, rfl, Nat.lt_of_lt_of_le hl hb.size, hp.later hb hl⟩
/-- A slice of slices of points. -/
def PolyAt (w : World) (v : Value) (P : List (List Pt)) : Prop :=
  ∃ (a : Option Addr) (cap : Nat), v = .slice a P.length cap ∧ P.length ≤ cap ∧ cap ≤ maxLen ∧ ∀ i, i < P.length → ∃ b off rv, a = some ⟨b, off, none⟩ ∧ b < w.heap.size ∧ w.cell? ⟨b, off + i, none⟩ = some rv ∧ RingAt w rv (P.getD i [])
theorem PolyAt.later {w w' : World} {v : Value} {P : List (List Pt)} (h : PolyAt w v P) (hb : Below w.heap.size w w') : PolyAt w' v P := by
  obtain ⟨a, cap, rfl, h1, h2, h3⟩ := h
  refine ⟨a, cap, rfl, h1, h2, fun i hi => ?_⟩
  obtain ⟨b, off, rv, rfl, hl, hc, hr⟩ := h3 i hi
  exact ⟨b, off, rv, rfl, Nat.lt_of_lt_of_le hl hb.size, (hb.cell (p := ⟨b, off + i, none⟩) hl).trans hc, hr.later hb⟩

theorem ret_if {a b : Int} (h : a = b) : Ending.returned (.int .i64 a) = .returned (.int .i64 b) := by rw [h]

/-- A segment's six cells. -/
structure SegAt (w : World) (b o : Nat) (e : Pt × Pt) : Prop where
  c0 : w.cell? ⟨b, o, none⟩ = some (.int .i64 e.1.x)
  c1 : w.cell? ⟨b, o + 1, none⟩ = some (.int .i64 e.1.y)
  c2 : w.cell? ⟨b, o + 2, none⟩ = some (.int .i64 e.1.d)
  c3 : w.cell? ⟨b, o + 3, none⟩ = some (.int .i64 e.2.x)
  c4 : w.cell? ⟨b, o + 4, none⟩ = some (.int .i64 e.2.y)
  c5 : w.cell? ⟨b, o + 5, none⟩ = some (.int .i64 e.2.d)
theorem SegAt.later {w w' : World} {b o : Nat} {e : Pt × Pt} {m : Nat} (h : SegAt w b o e) (hb : Below m w w') (hl : b < m) : SegAt w' b o e :=
  ⟨(hb.cell (p := ⟨b, o, none⟩) hl).trans h.c0, (hb.cell (p := ⟨b, o + 1, none⟩) hl).trans h.c1, (hb.cell (p := ⟨b, o + 2, none⟩) hl).trans h.c2, (hb.cell (p := ⟨b, o + 3, none⟩) hl).trans h.c3, (hb.cell (p := ⟨b, o + 4, none⟩) hl).trans h.c4, (hb.cell (p := ⟨b, o + 5, none⟩) hl).trans h.c5⟩
/-- A slice of segments. -/
def SegsAt (w : World) (v : Value) (E : List (Pt × Pt)) : Prop :=
  ∃ (a : Option Addr) (cap : Nat), v = .slice a E.length cap ∧ E.length ≤ cap ∧ cap ≤ maxLen ∧ ∀ j, j < E.length → ∃ b off, a = some ⟨b, off, none⟩ ∧ b < w.heap.size ∧ SegAt w b (off + j * 6) (E.getD j (zP, zP))
theorem SegsAt.later {w w' : World} {v : Value} {E : List (Pt × Pt)} (h : SegsAt w v E) (hb : Below w.heap.size w w') : SegsAt w' v E := by
  obtain ⟨a, cap, rfl, h1, h2, h3⟩ := h
  refine ⟨a, cap, rfl, h1, h2, fun j hj => ?_⟩
  obtain ⟨b, off, rfl, hl, hp⟩ := h3 j hj
  exact ⟨b, off, rfl, Nat.lt_of_lt_of_le hl hb.size, hp.later hb hl⟩

end Go.Proofs.Ytnkcbephceollaa
namespace Go.Proofs.Ytnkcbephceollaa
open Go.RowKit
set_option linter.unusedSimpArgs false
set_option linter.unusedVariables false

theorem infoSeg : (Try.prog.info? 75).map (fun i => (i.zero, i.size, i.bytes)) = some (some (.agg #[.int .i64 0, .int .i64 0, .int .i64 0, .int .i64 0, .int .i64 0, .int .i64 0]), 6, 48) := by kernel_rfl
def segCell (e : Pt × Pt) : List Value := [.int .i64 e.1.x, .int .i64 e.1.y, .int .i64 e.1.d, .int .i64 e.2.x, .int .i64 e.2.y, .int .i64 e.2.d]
def segCells (E : List (Pt × Pt)) : List Value := E.flatMap segCell
theorem segCells_len (E : List (Pt × Pt)) : (segCells E).length = E.length * 6 := by
  unfold segCells
  induction E with
  | nil => rfl
  | cons e E ih => simp [segCell, ih]; omega
theorem segCells_snoc (E : List (Pt × Pt)) (e : Pt × Pt) : segCells (E ++ [e]) = segCells E ++ segCell e := by simp [segCells]
theorem segCells_at (E : List (Pt × Pt)) (j t : Nat) (hj : j < E.length) (ht : t < 6) : (segCells E)[j * 6 + t]? = (segCell (E.getD j (zP, zP)))[t]? := by
  induction E generalizing j with
  | nil => simp at hj
  | cons e E ih =>
    have hc : segCells (e :: E) = segCell e ++ segCells E := by simp [segCells]
    rw [hc]
    cases j with
    | zero => rw [List.getElem?_append_left (by simp [segCell]; omega)]; simp
    | succ j =>
      rw [List.getElem?_append_right (by simp [segCell]; omega)]
      have : (j + 1) * 6 + t - (segCell e).length = j * 6 + t := by simp [segCell]; omega
      rw [this, ih j (by simpa using hj)]
      simp
theorem segs_of_own {w : World} {base : Nat} {v : Value} {E : List (Pt × Pt)} (h : w.ownsRow base 75 6 v E.length (segCells E)) (hl : E.length ≤ maxLen) : SegsAt w v E := by
  have h0 := h
  obtain ⟨_, h1⟩ := h
  rcases h1 with ⟨rfl, hn⟩ | ⟨g, cap, cur, rfl, hb, hh, hnc, hcap, _, _⟩
  · exact ⟨none, 0, by rw [hn], by omega, by unfold maxLen; omega, fun j hj => by omega⟩
  · refine ⟨some ⟨g, 0, none⟩, cap, rfl, hnc, hcap, fun j hj => ⟨g, 0, rfl, ?_, ?_⟩⟩
    · exact (h0.lt g rfl).2
    · have hc := fun t (ht : t < 6) => (h0.cellAt (j * 6 + t) (by omega)).trans (segCells_at E j t hj ht)
      simp only [Nat.zero_add]
      exact ⟨hc 0 (by decide), hc 1 (by decide), hc 2 (by decide), hc 3 (by decide), hc 4 (by decide), hc 5 (by decide)⟩

/-- The edges up to ring i, and of ring i up to point j. -/
def upToM (P : List (List Pt)) (i j : Nat) : List (Pt × Pt) := edgesM (P.take i) ++ (ringEdges (P.getD i [])).take j
theorem heap_new2 (w : World) (o1 o2 : Obj) : ((w.alloc o1).alloc o2).heap[w.heap.size + 1]? = some o2 := by
  have := heap_alloc_new (w.alloc o1) o2
  simpa using this
theorem upToM_zero (P : List (List Pt)) (i : Nat) : upToM P i 0 = edgesM (P.take i) := by simp [upToM]
theorem upToM_succ (P : List (List Pt)) (i j : Nat) (hj : j < (P.getD i []).length) : upToM P i (j + 1) = upToM P i j ++ [edgeAt (P.getD i []) j] := by
  unfold upToM
  rw [List.append_assoc, List.take_succ_eq_append_getElem (by simpa [ringEdges] using hj)]
  simp [ringEdges]
theorem upToM_end (P : List (List Pt)) (i : Nat) (hi : i < P.length) : upToM P i (P.getD i []).length = edgesM (P.take (i + 1)) := by
  unfold upToM edgesM
  have e : (ringEdges (P.getD i [])).take (P.getD i []).length = ringEdges (P.getD i []) := List.take_of_length_le (by rw [ringEdges_len]; exact Nat.le_refl _)
  rw [e, List.take_succ_eq_append_getElem hi, List.flatMap_append]
  simp [List.getD_eq_getElem?_getD, List.getElem?_eq_getElem hi]
theorem upToM_le (P : List (List Pt)) (i j : Nat) (hi : i < P.length) (hj : j ≤ (P.getD i []).length) : (upToM P i j).length ≤ (edgesM P).length := by
  have h1 : (upToM P i j).length ≤ (upToM P i (P.getD i []).length).length := by
    unfold upToM; rw [List.length_append, List.length_append, List.length_take, List.length_take, ringEdges_len]; omega
  rw [upToM_end P i hi] at h1
  refine Nat.le_trans h1 ?_
  unfold edgesM
  conv => rhs; rw [← List.take_append_drop (i + 1) P, List.flatMap_append]
  simp

set_option maxRecDepth 100000 in
set_option maxHeartbeats 4000000 in
theorem Edges_any (v : Value) (P : List (List Pt)) (w : World) (hP : PolyAt w v P) (hT : (edgesM P).length ≤ 100000) :
    Calls Try.prog 57 #[v] w fun e w' => ∃ v', e = .returned v' ∧ SegsAt w' v' (edgesM P) ∧ Below w.heap.size w w' := by
  obtain ⟨i0, hi0, hz0, hz1, hz2⟩ := info_parts infoSeg
  obtain ⟨a, cap, rfl, h1, h2, h3⟩ := hP
  unfold maxLen at h2
  go_enter Try.func57, Try.ntmps57
  go_wp2_with fail
  go_loopw [3, 5, 6, 7, 8, 11] (fun ev _ _ _ _ c w' => ∃ i : Nat, c = .int .i64 i ∧ i ≤ P.length ∧ w'.ownsRow w.heap.size 75 6 ev (edgesM (P.take i)).length (segCells (edgesM (P.take i))) ∧ Below w.heap.size w w') (fun _ _ _ _ _ c _ => P.length - (intOf c).toNat)
  case atStart => exact ⟨0, rfl, Nat.zero_le _, World.ownsRow_nil _ _ _ _, Below.refl _ _⟩
  case round =>
    obtain ⟨i, rfl, hi, hown, hbel⟩ := hrel
    by_cases hlt : i < P.length
    · obtain ⟨b, off, rv, rfl, hb, hc, hring⟩ := h3 i hlt
      have hc' := (hbel.cell (p := ⟨b, off + i, none⟩) hb).trans hc
      have u0 := upToM_zero P i
      have us := fun j => upToM_succ P i j
      have ue := upToM_end P i hlt
      have ul := fun j => upToM_le P i j hlt
      generalize hr : P.getD i [] = r at *
      obtain ⟨a', cap', rfl, g1, g2, g3⟩ := hring
      unfold maxLen at g2
      rw [← u0] at hown
      have U0 := hide u0
      have US := hide us
      have UE := hide ue
      have UL := hide ul
      have HT := hide hT
      clear h3 hc hr u0 us ue ul hT
      go_wp2_with fail
      go_loopw [3, 6, 7, 8, 17] (fun ev _ _ _ c w' => ∃ j : Nat, c = .int .i64 j ∧ j ≤ r.length ∧ w'.ownsRow w.heap.size 75 6 ev (upToM P i j).length (segCells (upToM P i j)) ∧ Below w.heap.size w w') (fun _ _ _ _ c _ => r.length - (intOf c).toNat)
      case atStart => exact ⟨0, rfl, Nat.zero_le _, hown, hbel⟩
      case round =>
        clear hown hbel hc'
        obtain ⟨j, rfl, hj, hown, hbel⟩ := hrel
        by_cases hjt : j < r.length
        · obtain ⟨b', off', rfl, hb', hp'⟩ := g3 j hjt
          obtain ⟨px, py, pd⟩ := hp'.later hbel hb'
          obtain ⟨b2, off2, e2, _, hq0⟩ := g3 (if j + 1 = r.length then 0 else j + 1) (by split <;> omega)
          simp at e2
          obtain ⟨rfl, rfl⟩ := e2
          have hq := hq0.later hbel hb'
          have EA := hide (show edgeAt r j = (r.getD j zP, r.getD (if j + 1 = r.length then 0 else j + 1) zP) from rfl)
          generalize r.getD j zP = p at *
          by_cases hlast : j + 1 = r.length
          · rw [if_pos hlast] at hq EA
            generalize r.getD 0 zP = q at *
            obtain ⟨qx, qy, qd⟩ := hq
            clear g3 hp' hq0
            have e1 : ((j : Int) + 1 == (r.length : Int)) = true := by simp; omega
            simp only [Nat.zero_mul, Nat.add_zero] at qx qy qd
            have hne1 : u3.ownBlock ≠ some wr.heap.size := fun e => by have := (hown.lt _ e).2; omega
            have hne2 : u3.ownBlock ≠ some b' := fun e => by have := (hown.lt _ e).1; omega
            have hbw : b' < wr.heap.size := by have := hbel.size; omega
            have hlen := UL.out j hj
            have hT12 := HT.out
            have hn1 : (upToM P i j).length + 1 ≤ maxLen := by unfold maxLen; omega
            have hn2 : ((upToM P i j).length + 1) * 48 ≤ 140737488355328 := by omega
            have hpos : (0 : Int) < (r.length : Int) := by omega
            have hposN : 0 < r.length := by omega
            have hposM : ¬ r.length = 0 := by omega
            have hposL : ¬ r = [] := by intro e; rw [e] at hposN; simp at hposN
            go_wp2_with fail
            go_region_held3 (fun w' => w'.cell? ⟨wr.heap.size, 0, none⟩ = some (.int .i64 p.x) ∧ w'.cell? ⟨wr.heap.size, 1, none⟩ = some (.int .i64 p.y) ∧ w'.cell? ⟨wr.heap.size, 2, none⟩ = some (.int .i64 p.d) ∧
                w'.cell? ⟨b', off', none⟩ = some (.int .i64 q.x) ∧ w'.cell? ⟨b', off' + 1, none⟩ = some (.int .i64 q.y) ∧ w'.cell? ⟨b', off' + 2, none⟩ = some (.int .i64 q.d))
              (first
                | go_keep
                | (go_split_ands
                   refine ⟨?_, ?_, ?_, ?_, ?_, ?_⟩
                   · (rw [hgrow.cell_far _ (by simp; omega) (Ne.symm hne1)]; assumption)
                   · (rw [hgrow.cell_far _ (by simp; omega) (Ne.symm hne1)]; assumption)
                   · (rw [hgrow.cell_far _ (by simp; omega) (Ne.symm hne1)]; assumption)
                   · (rw [hgrow.cell_far _ (by simp; omega) (Ne.symm hne2)]; assumption)
                   · (rw [hgrow.cell_far _ (by simp; omega) (Ne.symm hne2)]; assumption)
                   · (rw [hgrow.cell_far _ (by simp; omega) (Ne.symm hne2)]; assumption)))
              ((refine step_append_lies _ (by rfl) _ _ _ (by rfl) w.heap.size 75 i0 _ 6 48 Try.underlying90 hi0 hz0 hz1 hz2 rfl (by omega) u3 (upToM P i j).length (segCells (upToM P i j)) (by rfl) (((hown.alloc _).alloc _).drew) ⟨wr.heap.size + 1, 0, none⟩ 1 1 (segCell (p, q)) (by rfl) (by rfl) (World.news_of_block (cs := #[.int .i64 p.x, .int .i64 p.y, .int .i64 p.d, .int .i64 q.x, .int .i64 q.y, .int .i64 q.d]) (t := 75) (fr := (0, 0)) (heap_new2 wr _ _)) (by simp [segCell, Value.oneCell']) (by omega) hn1 hn2 (by have := hbel.size; simp; omega) (wr.heap.size + 1 + 1) (by simp) ?_; intro gg cp w1 hown1 hgrow hat hlt1))
            have HO : Hid (w1.ownsRow w.heap.size 75 6 (.slice (some ⟨gg, 0, none⟩) ((upToM P i j).length + 1) cp) (upToM P i (j + 1)).length (segCells (upToM P i (j + 1)))) := by
              refine hide ?_
              have e := US.out j hjt
              rw [EA.out] at e
              rw [e, segCells_snoc]
              simpa using hown1
            have B1 : Below w.heap.size w w1 := by
              refine Below.grown (((hbel.alloc hbel.size _).alloc (by have := hbel.size; simp; omega) _).drew) hgrow (by have := hbel.size; simp; omega) (fun k hk => (hown.lt k hk).1)
            clear hown hown1 hgrow px py pd qx qy qd hat
            go_wp2
            go_roundw
            case rel => exact ⟨j + 1, by go_num, by omega, HO, B1⟩
            case measure => simp [intOf]; omega
          · rw [if_neg hlast] at hq EA
            generalize r.getD (j + 1) zP = q at *
            obtain ⟨qx, qy, qd⟩ := hq
            clear g3 hp' hq0
            have e1 : ((j : Int) + 1 == (r.length : Int)) = false := by simp; omega
            have e2 : (j : Int) + 1 < (r.length : Int) := by omega
            have e3 : (0 : Int) ≤ (j : Int) + 1 := by omega
            have hne1 : u3.ownBlock ≠ some wr.heap.size := fun e => by have := (hown.lt _ e).2; omega
            have hne2 : u3.ownBlock ≠ some b' := fun e => by have := (hown.lt _ e).1; omega
            have hbw : b' < wr.heap.size := by have := hbel.size; omega
            have hlen := UL.out j hj
            have hT12 := HT.out
            have hn1 : (upToM P i j).length + 1 ≤ maxLen := by unfold maxLen; omega
            have hn2 : ((upToM P i j).length + 1) * 48 ≤ 140737488355328 := by omega
            have hpos : (0 : Int) < (r.length : Int) := by omega
            have hposN : 0 < r.length := by omega
            have hposM : ¬ r.length = 0 := by omega
            have hposL : ¬ r = [] := by intro e; rw [e] at hposN; simp at hposN
            go_wp2_with fail
            go_region_held3 (fun w' => w'.cell? ⟨wr.heap.size, 0, none⟩ = some (.int .i64 p.x) ∧ w'.cell? ⟨wr.heap.size, 1, none⟩ = some (.int .i64 p.y) ∧ w'.cell? ⟨wr.heap.size, 2, none⟩ = some (.int .i64 p.d) ∧
                w'.cell? ⟨b', off' + (j + 1) * 3, none⟩ = some (.int .i64 q.x) ∧ w'.cell? ⟨b', off' + (j + 1) * 3 + 1, none⟩ = some (.int .i64 q.y) ∧ w'.cell? ⟨b', off' + (j + 1) * 3 + 2, none⟩ = some (.int .i64 q.d))
              (first
                | go_keep
                | (go_split_ands
                   refine ⟨?_, ?_, ?_, ?_, ?_, ?_⟩
                   · (rw [hgrow.cell_far _ (by simp; omega) (Ne.symm hne1)]; assumption)
                   · (rw [hgrow.cell_far _ (by simp; omega) (Ne.symm hne1)]; assumption)
                   · (rw [hgrow.cell_far _ (by simp; omega) (Ne.symm hne1)]; assumption)
                   · (rw [hgrow.cell_far _ (by simp; omega) (Ne.symm hne2)]; assumption)
                   · (rw [hgrow.cell_far _ (by simp; omega) (Ne.symm hne2)]; assumption)
                   · (rw [hgrow.cell_far _ (by simp; omega) (Ne.symm hne2)]; assumption)))
              ((refine step_append_lies _ (by rfl) _ _ _ (by rfl) w.heap.size 75 i0 _ 6 48 Try.underlying90 hi0 hz0 hz1 hz2 rfl (by omega) u3 (upToM P i j).length (segCells (upToM P i j)) (by rfl) (((hown.alloc _).alloc _).drew) ⟨wr.heap.size + 1, 0, none⟩ 1 1 (segCell (p, q)) (by rfl) (by rfl) (World.news_of_block (cs := #[.int .i64 p.x, .int .i64 p.y, .int .i64 p.d, .int .i64 q.x, .int .i64 q.y, .int .i64 q.d]) (t := 75) (fr := (0, 0)) (heap_new2 wr _ _)) (by simp [segCell, Value.oneCell']) (by omega) hn1 hn2 (by have := hbel.size; simp; omega) (wr.heap.size + 1 + 1) (by simp) ?_; intro gg cp w1 hown1 hgrow hat hlt1))
            have HO : Hid (w1.ownsRow w.heap.size 75 6 (.slice (some ⟨gg, 0, none⟩) ((upToM P i j).length + 1) cp) (upToM P i (j + 1)).length (segCells (upToM P i (j + 1)))) := by
              refine hide ?_
              have e := US.out j hjt
              rw [EA.out] at e
              rw [e, segCells_snoc]
              simpa using hown1
            have B1 : Below w.heap.size w w1 := by
              refine Below.grown (((hbel.alloc hbel.size _).alloc (by have := hbel.size; simp; omega) _).drew) hgrow (by have := hbel.size; simp; omega) (fun k hk => (hown.lt k hk).1)
            clear hown hown1 hgrow px py pd qx qy qd hat
            go_wp2
            go_roundw
            case rel => exact ⟨j + 1, by go_num, by omega, HO, B1⟩
            case measure => simp [intOf]; omega
        · have ej : j = r.length := by omega
          subst ej
          have HO : Hid (wr.ownsRow w.heap.size 75 6 u3 (edgesM (P.take (i + 1))).length (segCells (edgesM (P.take (i + 1))))) := by
            rw [UE.out] at hown; exact hown
          clear hown g3
          go_wp2
          go_roundw
          case rel => exact ⟨i + 1, by go_num, by omega, HO, hbel⟩
          case measure => simp [intOf]; omega
    · have e : P.take i = P := List.take_of_length_le (by omega)
      rw [e] at hown
      clear h3
      go_wp2
      go_ret
      exact ⟨_, rfl, segs_of_own hown (by unfold maxLen; omega), hbel⟩
end Go.Proofs.Ytnkcbephceollaa
