import Derived.Test.YtkhejfnhpdbhjaaGreatR7
namespace Go.Proofs.YtkhejfnhpdbhjaaGreat
open Go.RowKit
set_option linter.unusedSimpArgs false
set_option linter.unusedVariables false

theorem infoPoint : (Tryz.prog.info? 31).map (fun i => (i.zero, i.size, i.bytes)) = some (some (.agg #[.int .i64 0, .int .i64 0, .int .i64 0]), 3, 24) := by kernel_rfl
def ptCell (p : Pt) : List Value := [.int .i64 p.x, .int .i64 p.y, .int .i64 p.d]
def ptCells (r : List Pt) : List Value := r.flatMap ptCell
theorem ptCells_len (r : List Pt) : (ptCells r).length = r.length * 3 := by
  unfold ptCells
  induction r with
  | nil => rfl
  | cons e E ih => simp [ptCell, ih]; omega
theorem ptCells_append (r s : List Pt) : ptCells (r ++ s) = ptCells r ++ ptCells s := by simp [ptCells]
theorem ptCells_at (r : List Pt) (j t : Nat) (hj : j < r.length) (ht : t < 3) : (ptCells r)[j * 3 + t]? = (ptCell (r.getD j zP))[t]? := by
  induction r generalizing j with
  | nil => simp at hj
  | cons e E ih =>
    have hc : ptCells (e :: E) = ptCell e ++ ptCells E := by simp [ptCells]
    rw [hc]
    cases j with
    | zero => rw [List.getElem?_append_left (by simp [ptCell]; omega)]; simp
    | succ j =>
      rw [List.getElem?_append_right (by simp [ptCell]; omega)]
      have : (j + 1) * 3 + t - (ptCell e).length = j * 3 + t := by simp [ptCell]; omega
      rw [this, ih j (by simpa using hj)]
      simp
theorem PtAt.at {w : World} {b o : Nat} {p : Pt} (h : PtAt w b o p) (t : Nat) (ht : t < 3) : w.cell? ⟨b, o + t, none⟩ = (ptCell p)[t]? := by
  match t, ht with
  | 0, _ => exact h.x
  | 1, _ => exact h.y
  | 2, _ => exact h.d
theorem cell_off2 (b off t : Nat) : (⟨b, off, none⟩ : Addr).add t = ⟨b, off + t, none⟩ := by
  unfold Addr.add
  by_cases h : t = 0 <;> simp [h]
theorem ring_news {w : World} {b off : Nat} {r : List Pt} (h : ∀ j, j < r.length → PtAt w b (off + j * 3) (r.getD j zP)) :
    ∀ t u, (ptCells r)[t]? = some u → w.cell? ((⟨b, off, none⟩ : Addr).add t) = some u := by
  intro t u hu
  have hl : t < r.length * 3 := by
    have := (List.getElem?_eq_some_iff.1 hu).1; rwa [ptCells_len] at this
  have hd : t = t / 3 * 3 + t % 3 := by omega
  have h1 := (h (t / 3) (by omega)).at (t % 3) (by omega)
  rw [hd, ptCells_at r (t / 3) (t % 3) (by omega) (by omega)] at hu
  have e : (⟨b, off, none⟩ : Addr).add t = ⟨b, off + t / 3 * 3 + t % 3, none⟩ := by
    have := cell_off2 b off t
    rw [this]; congr 1; omega
  rw [e, h1, hu]
theorem ring_of_own {w : World} {base : Nat} {v : Value} {r : List Pt} (h : w.ownsRow base 31 3 v r.length (ptCells r)) (hl : r.length ≤ maxLen) : RingAt w v r := by
  have h0 := h
  obtain ⟨_, h1⟩ := h
  rcases h1 with ⟨rfl, hn⟩ | ⟨g, cap, cur, rfl, hb, hh, hnc, hcap, _, _⟩
  · exact ⟨none, 0, by rw [hn], by omega, by unfold maxLen; omega, fun j hj => by omega⟩
  · refine ⟨some ⟨g, 0, none⟩, cap, rfl, hnc, hcap, fun j hj => ⟨g, 0, rfl, ?_, ?_⟩⟩
    · exact (h0.lt g rfl).2
    · have hc := fun t (ht : t < 3) => (h0.cellAt (j * 3 + t) (by omega)).trans (ptCells_at r j t hj ht)
      simp only [Nat.zero_add]
      exact ⟨hc 0 (by decide), hc 1 (by decide), hc 2 (by decide)⟩
theorem ptCells_one (r : List Pt) : ∀ u ∈ ptCells r, u.oneCell' = true := by
  intro u hu
  obtain ⟨p, _, h⟩ := List.mem_flatMap.1 hu
  simp [ptCell] at h
  rcases h with rfl | rfl | rfl <;> rfl
theorem flatten_le (P : List (List Pt)) (i : Nat) : (P.take i).flatten.length ≤ P.flatten.length := by
  conv => rhs; rw [← List.take_append_drop i P, List.flatten_append]
  simp
theorem edgesM_len (P : List (List Pt)) : (edgesM P).length = P.flatten.length := by
  unfold edgesM
  induction P with
  | nil => rfl
  | cons r P ih => simp [ringEdges_len, ih]

def ptsTo (P : List (List Pt)) (i : Nat) : List Pt := (P.take i).flatten
/-- 'append' of nothing. -/
theorem run_append_zero {P : Program} (w : World) (base : Nat) (t ty e : TypeId) (i : TypeInfo) (size : Nat) (ht : P.underlying t = some (.slice e)) (hi : P.info? e = some i)
    (v : Value) (n : Nat) (xs : List Value) (hown : w.ownsRow base e size v n xs) (a : Option Addr) (c : Nat) :
    (Builtin.append_ #[t, t] ty #[v, .slice a 0 c]).run P w = .ok v w := by
  have l := fun x : Addr => run_loadCells_list (P := P) w x [] (by intro j v h; simp at h)
  rcases hown.2 with ⟨rfl, rfl⟩ | ⟨g, cap, cur, rfl, _, _, hnc, _⟩
  · cases a with
    | none => simp [Builtin.append_, run_underlying ht, sizeOf, typeInfo, hi, Builtin.lenOf, Builtin.firstCells]
    | some x => have := l x; simp at this; simp [Builtin.append_, run_underlying ht, sizeOf, typeInfo, hi, Builtin.lenOf, Builtin.firstCells, this]
  · cases a with
    | none => simp [Builtin.append_, run_underlying ht, sizeOf, typeInfo, hi, Builtin.lenOf, Builtin.firstCells, hnc, storeCells]
    | some x => have := l x; simp at this; simp [Builtin.append_, run_underlying ht, sizeOf, typeInfo, hi, Builtin.lenOf, Builtin.firstCells, hnc, storeCells, this]
theorem wpList_append_zero {P : Program} {w : World} {ops : Array Oper} {rest : List Oper} {o : Oper} {a : Act} {Q : Exit → Act → World → Prop} (hgd : o.guard = none) (s x : Operand) (t : TypeId)
    (ho : o.op = .call { callee := .builtin .append, args := #[s, x], argTypes := #[t, t] })
    (base : Nat) (e : TypeId) (i : TypeInfo) (size : Nat) (ht : P.underlying t = some (.slice e)) (hi : P.info? e = some i)
    (v : Value) (n : Nat) (xs : List Value) (hs : a.eval s = v) (hown : w.ownsRow base e size v n xs) (ad : Option Addr) (c : Nat) (hx : a.eval x = .slice ad 0 c)
    (h : wpList P ops Q rest (a.put o.dst v) w) : wpList P ops Q (o :: rest) a w := by
  refine wpList_plain hgd fun K hK => ?_
  have hrun := run_append_zero (P := P) w base t o.type e i size ht hi v n xs hown ad c
  unfold Oper.wp
  simp [execOp, ho, resolve, invoke, builtin, hs, hx, hrun, Result.andThen]
  exact hK _ _ h

set_option maxRecDepth 100000 in
set_option maxHeartbeats 2000000 in
theorem points_own (v : Value) (P : List (List Pt)) (w : World) (hP : PolyAt w v P) (hT : P.flatten.length ≤ 100000) :
    Calls Tryz.prog 43 #[v] w fun e w' => ∃ v', e = .returned v' ∧ w'.ownsRow w.heap.size 31 3 v' P.flatten.length (ptCells P.flatten) ∧ Below w.heap.size w w' := by
  obtain ⟨i0, hi0, hz0, hz1, hz2⟩ := info_parts infoPoint
  obtain ⟨a, cap, rfl, h1, h2, h3⟩ := hP
  unfold maxLen at h2
  go_enter Tryz.func43, Tryz.ntmps43
  go_wp2_with fail
  go_loopw [3, 4] (fun ev c w' => ∃ i : Nat, c = .int .i64 i ∧ i ≤ P.length ∧ w'.ownsRow w.heap.size 31 3 ev (ptsTo P i).length (ptCells (ptsTo P i)) ∧ Below w.heap.size w w') (fun _ c _ => P.length - (intOf c).toNat)
  case atStart => exact ⟨0, rfl, Nat.zero_le _, World.ownsRow_nil _ _ _ _, Below.refl _ _⟩
  case round =>
    obtain ⟨i, rfl, hi, hown, hbel⟩ := hrel
    by_cases hlt : i < P.length
    · obtain ⟨b, off, rv, rfl, hb, hc, hring⟩ := h3 i hlt
      have hc' := (hbel.cell (p := ⟨b, off + i, none⟩) hb).trans hc
      have ES : ptsTo P (i + 1) = ptsTo P i ++ P.getD i [] := by
        unfold ptsTo
        rw [List.take_succ_eq_append_getElem hlt, List.flatten_append, List.getD_eq_getElem?_getD, List.getElem?_eq_getElem hlt]; simp
      have HL : (ptsTo P (i + 1)).length ≤ P.flatten.length := flatten_le P (i + 1)
      rw [ES, List.length_append] at HL
      generalize hr : P.getD i [] = r at *
      obtain ⟨a', cap', rfl, g1, g2, g3⟩ := hring
      unfold maxLen at g2
      have hbs := hbel.size
      by_cases hn0 : 0 < r.length
      · obtain ⟨b', off', rfl, hb', _⟩ := g3 0 hn0
        have hpts : ∀ j, j < r.length → PtAt wr b' (off' + j * 3) (r.getD j zP) := fun j hj => by
          obtain ⟨b2, off2, e2, _, hp⟩ := g3 j hj
          simp at e2
          obtain ⟨rfl, rfl⟩ := e2
          exact hp.later hbel hb'
        have HES := hide ES
        have HN := hide (ring_news hpts)
        have hn1 : (ptsTo P i).length + r.length ≤ maxLen := by unfold maxLen; omega
        have hn2 : ((ptsTo P i).length + r.length) * 24 ≤ 140737488355328 := by omega
        clear h3 hc hr g3 hpts ES
        go_wp2_with (at_builtin; refine wpList_append_lies _ rfl _ _ _ rfl w.heap.size 31 i0 _ 3 24 Tryz.underlying57 hi0 hz0 hz1 hz2 rfl (by omega) u3 (ptsTo P i).length (ptCells (ptsTo P i)) rfl hown ⟨b', off', none⟩ r.length cap' (ptCells r) rfl (ptCells_len r) HN.out (ptCells_one r) hn0 hn1 hn2 hbs wr.heap.size rfl ?_; intro gg cp w1 hown1 hgrow hat hlt1)
        have HO : Hid (w1.ownsRow w.heap.size 31 3 (.slice (some ⟨gg, 0, none⟩) ((ptsTo P i).length + r.length) cp) (ptsTo P (i + 1)).length (ptCells (ptsTo P (i + 1)))) := by
          refine hide ?_
          rw [HES.out, ptCells_append, List.length_append]
          exact hown1
        have B1 : Below w.heap.size w w1 := Below.grown hbel hgrow hbs (fun k hk => (hown.lt k hk).1)
        clear hown hown1 hgrow hat HN HES
        go_wp2
        go_roundw
        case rel => exact ⟨i + 1, by go_num, by omega, HO, B1⟩
        case measure => simp [intOf]; omega
      · have er : r = [] := List.eq_nil_of_length_eq_zero (by omega)
        subst er
        rw [List.append_nil] at ES
        have HO : Hid (wr.ownsRow w.heap.size 31 3 u3 (ptsTo P (i + 1)).length (ptCells (ptsTo P (i + 1)))) := by
          refine hide ?_
          rw [ES]; exact hown
        simp only [List.length_nil] at hc'
        clear h3 hc hr g3 ES
        go_wp2_with (at_builtin; refine wpList_append_zero rfl _ _ _ rfl w.heap.size 31 i0 3 Tryz.underlying57 hi0 u3 (ptsTo P i).length (ptCells (ptsTo P i)) rfl hown a' cap' rfl ?_)
        clear hown
        go_wp2
        go_roundw
        case rel => exact ⟨i + 1, by go_num, by omega, HO, hbel⟩
        case measure => simp [intOf]; omega
    · have e : ptsTo P i = P.flatten := by unfold ptsTo; rw [List.take_of_length_le (by omega)]
      rw [e] at hown
      clear h3
      go_wp2
      go_ret
      exact ⟨_, rfl, hown, hbel⟩
theorem points_any (v : Value) (P : List (List Pt)) (w : World) (hP : PolyAt w v P) (hT : P.flatten.length ≤ 100000) :
    Calls Tryz.prog 43 #[v] w fun e w' => ∃ v', e = .returned v' ∧ RingAt w' v' P.flatten ∧ Below w.heap.size w w' := by
  refine (points_own v P w hP hT).mono ?_
  rintro e w' ⟨v', rfl, hown, hb⟩
  exact ⟨v', rfl, ring_of_own hown (by unfold maxLen; omega), hb⟩
end Go.Proofs.YtkhejfnhpdbhjaaGreat
