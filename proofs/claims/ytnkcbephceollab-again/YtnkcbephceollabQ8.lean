import Derived.OpenShut
import Derived.Deep.Cut
import Derived.Deep.CutBlock
import Derived.Deep.DeepCutAuto
import Derived.Test.YtnkcbephceollabQ5
namespace Go.Proofs.Ytnkcbephceollab
open Go.RowKit
set_option linter.unusedSimpArgs false
set_option linter.unusedVariables false

/-- Old blocks are as they were, but for those of X; new ones may have come. -/
structure Kp (X : Nat → Prop) (w w' : World) : Prop where
  os : w'.os = w.os
  tape : w'.tape = w.tape
  output : w'.output = w.output
  size : w.heap.size ≤ w'.heap.size
  block : ∀ b, b < w.heap.size → ¬ X b → w'.heap[b]? = w.heap[b]?
theorem Kp.refl (X : Nat → Prop) (w : World) : Kp X w w := ⟨rfl, rfl, rfl, Nat.le_refl _, fun _ _ _ => rfl⟩
theorem Kp.trans {X : Nat → Prop} {a b c : World} (h : Kp X a b) (k : Kp X b c) : Kp X a c :=
  ⟨k.os.trans h.os, k.tape.trans h.tape, k.output.trans h.output, Nat.le_trans h.size k.size, fun x hx hn => (k.block x (Nat.lt_of_lt_of_le hx h.size) hn).trans (h.block x hx hn)⟩
theorem Kp.weaken {X Y : Nat → Prop} {a b : World} (h : Kp X a b) (hxy : ∀ x, x < a.heap.size → X x → Y x) : Kp Y a b :=
  ⟨h.os, h.tape, h.output, h.size, fun x hx hn => h.block x hx (fun e => hn (hxy x hx e))⟩
theorem Kp.drewN {X : Nat → Prop} {a b : World} (h : Kp X a b) (n : Nat) : Kp X a (b.drewN n) := ⟨h.os, h.tape, h.output, h.size, h.block⟩
theorem Kp.drew {X : Nat → Prop} {a b : World} (h : Kp X a b) : Kp X a b.drew := ⟨h.os, h.tape, h.output, h.size, h.block⟩
theorem Kp.alloc {X : Nat → Prop} {a b : World} (h : Kp X a b) (o : Obj) : Kp X a (b.alloc o) :=
  ⟨h.os, h.tape, h.output, by have := h.size; simp; omega, fun x hx hn => (Below.heap_alloc b o x (Nat.lt_of_lt_of_le hx h.size)).trans (h.block x hx hn)⟩
theorem Kp.setCell {X : Nat → Prop} {a b : World} (h : Kp X a b) {p : Addr} (hp : p.block < a.heap.size → X p.block) (u : Value) : Kp X a (b.setCell p u) :=
  ⟨h.os, h.tape, h.output, by have := h.size; simpa using this, fun x hx hn => by
    rw [Below.heap_setCell b p u x (fun e => hn (e ▸ hp (e ▸ hx)))]; exact h.block x hx hn⟩
theorem Kp.of {X : Nat → Prop} {a b : World} (h : Below a.heap.size a b) : Kp X a b := ⟨h.os, h.tape, h.output, h.size, fun x hx _ => h.block x hx⟩
theorem Kp.grown {X : Nat → Prop} {a b c : World} {row : Option Nat} (h : Kp X a b) (hg : b.grownBy c row) (hr : ∀ k, row = some k → X k) : Kp X a c :=
  h.trans ⟨hg.os, hg.tape, hg.output, hg.size, fun x hx hn => hg.block x hx (fun e => hn (hr x e.symm))⟩
section
variable {P : Program} (w : World)
/-- 'append' onto a row of one's own: what lay in the row stays, and a new row leaves the old one alone. -/
theorem run_append_stay (t ty : TypeId) (base : Nat) (e : TypeId) (i : TypeInfo) (z : Value) (size bytes : Nat) (ht : P.underlying t = some (.slice e)) (hi : P.info? e = some i) (hz : i.zero = some z)
    (hsize : i.size = size) (hby : i.bytes = bytes) (hzs : z.cells.size = size) (hsz : 0 < size)
    (v : Value) (n : Nat) (xs : List Value) (hown : w.ownsRow base e size v n xs)
    (ad : Addr) (m c : Nat) (news : List Value) (hl : news.length = m * size) (hnews : ∀ j u, news[j]? = some u → w.cell? (ad.add j) = some u) (h1 : ∀ u ∈ news, u.oneCell' = true)
    (hm : 0 < m) (h63 : n + m ≤ maxLen) (hbytes : (n + m) * bytes ≤ 140737488355328) (hbase : base ≤ w.heap.size) (H : Nat) (hH : w.heap.size = H) :
    ∃ g cap w', (Builtin.append_ #[t, t] ty #[v, .slice (some ad) m c]).run P w = .ok (.slice (some ⟨g, 0, none⟩) (n + m) cap) w' ∧
      w'.ownsRow base e size (.slice (some ⟨g, 0, none⟩) (n + m) cap) (n + m) (xs ++ news) ∧ w.grownBy w' v.ownBlock ∧ (v.ownBlock = some g ∨ (g = H ∧ w.grownBy w' none)) ∧ g < w'.heap.size := by
  obtain ⟨g, cap, w', hr, h2, h3, h4, h5⟩ := run_append_lies (P := P) w t ty base e i z size bytes ht hi hz hsize hby hzs hsz v n xs hown ad m c news hl hnews h1 hm h63 hbytes hbase H hH
  refine ⟨g, cap, w', hr, h2, h3, ?_, h5⟩
  subst hsize
  subst hby
  rcases hown.2 with ⟨rfl, rfl⟩ | ⟨k, cp, cur, rfl, hbg, hg, hnc, hcm, hcs, htake⟩
  · right
    rcases h4 with h4 | h4
    · simp [Value.ownBlock] at h4
    · exact ⟨h4, h3⟩
  · by_cases hroom : n + m ≤ cp
    · have hfit : n * i.size + news.length ≤ cur.size := by rw [hl, hcs, ← Nat.add_mul]; exact Nat.mul_le_mul_right _ hroom
      have hr2 := run_append_room (P := P) w t ty e i ht hi k n cp cur hg ad m c news hl hnews h1 hroom hfit
      rw [hr2] at hr
      simp only [Result.ok.injEq, Value.slice.injEq, Option.some.injEq, Addr.mk.injEq] at hr
      left
      simp only [Value.ownBlock]
      rw [hr.1.1.1]
    · have holds : ∀ j u, xs[j]? = some u → w.cell? ((⟨k, 0, none⟩ : Addr).add j) = some u := hown.cells (g := k) rfl
      have hr2 := run_append_grow (P := P) w t ty e i z ht hi hz ⟨k, 0, none⟩ n cp xs hown.1 holds ad m c news hl hnews (by omega) (by simp only [maxLen] at h63; omega) (growslice_fits (by omega) hbytes)
      rw [hr2] at hr
      simp only [Result.ok.injEq, Value.slice.injEq, Option.some.injEq, Addr.mk.injEq] at hr
      right
      refine ⟨?_, ?_⟩
      · rw [← hr.1.1.1]; exact hH
      · rw [← hr.2]
        exact ⟨rfl, rfl, rfl, by simp, fun q hq _ => Below.heap_alloc w.drew _ q hq⟩

theorem wp_append_stay {o : Oper} {a : Act} {K : Act → World → Prop} {Q : Exit → Act → World → Prop} (s x : Operand) (t : TypeId)
    (ho : o.op = .call { callee := .builtin .append, args := #[s, x], argTypes := #[t, t] })
    (base : Nat) (e : TypeId) (i : TypeInfo) (z : Value) (size bytes : Nat) (ht : P.underlying t = some (.slice e)) (hi : P.info? e = some i) (hz : i.zero = some z)
    (hsize : i.size = size) (hby : i.bytes = bytes) (hzs : z.cells.size = size) (hsz : 0 < size)
    (v : Value) (n : Nat) (xs : List Value) (hs : a.eval s = v) (hown : w.ownsRow base e size v n xs)
    (ad : Addr) (m c : Nat) (news : List Value) (hx : a.eval x = .slice (some ad) m c) (hl : news.length = m * size) (hnews : ∀ j u, news[j]? = some u → w.cell? (ad.add j) = some u) (h1 : ∀ u ∈ news, u.oneCell' = true)
    (hm : 0 < m) (h63 : n + m ≤ maxLen) (hbytes : (n + m) * bytes ≤ 140737488355328) (hbase : base ≤ w.heap.size) (H : Nat) (hH : w.heap.size = H)
    (h : ∀ g cap w', w'.ownsRow base e size (.slice (some ⟨g, 0, none⟩) (n + m) cap) (n + m) (xs ++ news) → w.grownBy w' v.ownBlock → (v.ownBlock = some g ∨ (g = H ∧ w.grownBy w' none)) → g < w'.heap.size → K (a.put o.dst (.slice (some ⟨g, 0, none⟩) (n + m) cap)) w') : o.wp P a w K Q := by
  obtain ⟨g, cap, w', hr, h2, h3, h4, h5⟩ := run_append_stay (P := P) w t o.type base e i z size bytes ht hi hz hsize hby hzs hsz v n xs hown ad m c news hl hnews h1 hm h63 hbytes hbase H hH
  unfold Oper.wp execOp
  simp only [ho, resolve, invoke, builtin, Sem.run_bind, Sem.run_pure, Result.andThen_ok, List.map_toArray, List.map_cons, List.map_nil, hs, hx, hr]
  exact h g cap w' h2 h3 h4 h5
theorem step_append_stay {ops : Array Oper} {o : Oper} {a : Act} {K : Act → World → Prop} {Q : Exit → Act → World → Prop} {E : Prop} (hgd : o.guard = none) (s x : Operand) (t : TypeId)
    (ho : o.op = .call { callee := .builtin .append, args := #[s, x], argTypes := #[t, t] })
    (base : Nat) (e : TypeId) (i : TypeInfo) (z : Value) (size bytes : Nat) (ht : P.underlying t = some (.slice e)) (hi : P.info? e = some i) (hz : i.zero = some z)
    (hsize : i.size = size) (hby : i.bytes = bytes) (hzs : z.cells.size = size) (hsz : 0 < size)
    (v : Value) (n : Nat) (xs : List Value) (hs : a.eval s = v) (hown : w.ownsRow base e size v n xs)
    (ad : Addr) (m c : Nat) (news : List Value) (hx : a.eval x = .slice (some ad) m c) (hl : news.length = m * size) (hnews : ∀ j u, news[j]? = some u → w.cell? (ad.add j) = some u) (h1 : ∀ u ∈ news, u.oneCell' = true)
    (hm : 0 < m) (h63 : n + m ≤ maxLen) (hbytes : (n + m) * bytes ≤ 140737488355328) (hbase : base ≤ w.heap.size) (H : Nat) (hH : w.heap.size = H)
    (h : ∀ g cap w', w'.ownsRow base e size (.slice (some ⟨g, 0, none⟩) (n + m) cap) (n + m) (xs ++ news) → w.grownBy w' v.ownBlock → (v.ownBlock = some g ∨ (g = H ∧ w.grownBy w' none)) → g < w'.heap.size → K (a.put o.dst (.slice (some ⟨g, 0, none⟩) (n + m) cap)) w') :
    if Region.wanted o (yielded ops a.tmps) = true then Oper.wp P o a w K Q else E := by
  have hw : Region.wanted o (yielded ops a.tmps) = true := by simp [Region.wanted, hgd]
  rw [if_pos hw]
  exact wp_append_stay w s x t ho base e i z size bytes ht hi hz hsize hby hzs hsz v n xs hs hown ad m c news hx hl hnews h1 hm h63 hbytes hbase H hH h
end


/-- Rows of different types lie in different blocks. -/
theorem own_apart {w : World} {base base' : Nat} {e e' : TypeId} {s s' : Nat} {v v' : Value} {n n' : Nat} {xs xs' : List Value} (h : w.ownsRow base e s v n xs) (h' : w.ownsRow base' e' s' v' n' xs') (he : e ≠ e') (b : Nat) (hb : v.ownBlock = some b) : v'.ownBlock ≠ some b := by
  intro hb'
  rcases h.2 with ⟨rfl, _⟩ | ⟨g, cap, cur, rfl, _, hg, _⟩
  · simp [Value.ownBlock] at hb
  · rcases h'.2 with ⟨rfl, _⟩ | ⟨g', cap', cur', rfl, _, hg', _⟩
    · simp [Value.ownBlock] at hb'
    · simp [Value.ownBlock] at hb hb'
      subst hb hb'
      rw [hg] at hg'
      simp at hg'
      exact he hg'.2
theorem own_form {w : World} {base : Nat} {e : TypeId} {s : Nat} {v : Value} {n : Nat} {xs : List Value} (h : w.ownsRow base e s v n xs) : ∃ a cap, v = .slice a n cap ∧ (∀ b, v.ownBlock = some b → a = some ⟨b, 0, none⟩) ∧ (0 < n → ∃ b, v.ownBlock = some b) ∧ n ≤ maxLen := by
  rcases h.2 with ⟨rfl, rfl⟩ | ⟨g, cap, cur, rfl, _, hg, h1, h2, _⟩
  · exact ⟨none, 0, rfl, fun b hb => by simp [Value.ownBlock] at hb, fun h => absurd h (Nat.lt_irrefl _), Nat.zero_le _⟩
  · exact ⟨_, cap, rfl, fun b hb => by simp [Value.ownBlock] at hb; rw [hb], fun _ => ⟨g, rfl⟩, by omega⟩
theorem own_cell {w : World} {base : Nat} {e : TypeId} {s : Nat} {v : Value} {n : Nat} {xs : List Value} (h : w.ownsRow base e s v n xs) (b : Nat) (hb : v.ownBlock = some b) (o : Nat) (ho : o < n * s) : w.cell? ⟨b, o, none⟩ = xs[o]? := by
  rcases h.2 with ⟨rfl, _⟩ | ⟨g, cap, cur, rfl, _, hg, _⟩
  · simp [Value.ownBlock] at hb
  · simp [Value.ownBlock] at hb
    subst hb
    exact h.cellAt o ho
theorem Kp.blk {X : Nat → Prop} {w w' : World} {b : Nat} {vs : Array Value} (h : Blk w b vs) (k : Kp X w w') (hx : ¬ X b) : Blk w' b vs :=
  have e := k.block b h.lt hx
  ⟨fun o => (World.cell?_of_block (w := w) (a := ⟨b, o, none⟩) e).trans (h.cell o), fun o => (World.frozen?_of_block (w := w) (a := ⟨b, o, none⟩) e).trans (h.free o), Nat.lt_of_lt_of_le h.lt k.size⟩
theorem Kp.own {X : Nat → Prop} {w w' : World} {base : Nat} {e : TypeId} {s n : Nat} {v : Value} {xs : List Value} (h : w.ownsRow base e s v n xs) (k : Kp X w w') (hx : ∀ b, v.ownBlock = some b → ¬ X b) : w'.ownsRow base e s v n xs := by
  refine ⟨h.1, ?_⟩
  rcases h.2 with hn | ⟨g, cap, cur, rfl, hb, hgg, rest⟩
  · exact .inl hn
  · refine .inr ⟨g, cap, cur, rfl, hb, ?_, rest⟩
    rw [k.block g (Array.getElem?_eq_some_iff.1 hgg).1 (hx g rfl)]
    exact hgg
theorem Kp.cellOf {X : Nat → Prop} {w w' : World} {b o : Nat} {u : Value} (k : Kp X w w') (hc : w.cell? ⟨b, o, none⟩ = some u) (hx : ¬ X b) : w'.cell? ⟨b, o, none⟩ = some u :=
  (World.cell?_of_block (w := w) (a := ⟨b, o, none⟩) (k.block b (World.block_lt_of_cell? w ⟨b, o, none⟩ hc) hx)).trans hc
theorem infoPoint : (Try.prog.info? 29).map (fun i => (i.zero, i.size, i.bytes)) = some (some (.agg #[.int .i64 0, .int .i64 0, .int .i64 0]), 3, 24) := by kernel_rfl
theorem infoPcs : (Try.prog.info? 65).map (fun i => (i.zero, i.size, i.bytes)) = some (some (.agg #[.int .i64 0, .int .i64 0, .int .i64 0, .int .i64 0, .int .i64 0, .int .i64 0, .bool false, .bool false, .bool false, .bool false]), 10, 56) := by kernel_rfl
theorem infoRing : (Try.prog.info? 27).map (fun i => (i.zero, i.size, i.bytes)) = some (some (.slice none 0 0), 1, 24) := by kernel_rfl
def ptCell (p : Pt) : List Value := [.int .i64 p.x, .int .i64 p.y, .int .i64 p.d]
def ptCells (r : List Pt) : List Value := r.flatMap ptCell
theorem ptCells_len (r : List Pt) : (ptCells r).length = r.length * 3 := by
  unfold ptCells
  induction r with
  | nil => rfl
  | cons e E ih => simp [ptCell, ih]; omega
theorem ptCells_append (r s : List Pt) : ptCells (r ++ s) = ptCells r ++ ptCells s := by simp [ptCells]
theorem ptCells_at (r : List Pt) (j t : Nat) (hj : j < r.length) (ht : t < 3) : (ptCells r)[j * 3 + t]? = (ptCell (r.getD j zP))[t]? := by
  induction r generalizing j with
  | nil => simp at hj
  | cons e E ih =>
    have hc : ptCells (e :: E) = ptCell e ++ ptCells E := by simp [ptCells]
    rw [hc]
    cases j with
    | zero => rw [List.getElem?_append_left (by simp [ptCell]; omega)]; simp
    | succ j =>
      rw [List.getElem?_append_right (by simp [ptCell]; omega)]
      have : (j + 1) * 3 + t - (ptCell e).length = j * 3 + t := by simp [ptCell]; omega
      rw [this, ih j (by simpa using hj)]
      simp
theorem ring_of_own {w : World} {base : Nat} {v : Value} {r : List Pt} (h : w.ownsRow base 29 3 v r.length (ptCells r)) (hl : r.length ≤ maxLen) : RingAt w v r := by
  have h0 := h
  obtain ⟨_, h1⟩ := h
  rcases h1 with ⟨rfl, hn⟩ | ⟨g, cap, cur, rfl, hb, hh, hnc, hcap, _, _⟩
  · exact ⟨none, 0, by rw [hn], by omega, by unfold maxLen; omega, fun j hj => by omega⟩
  · refine ⟨some ⟨g, 0, none⟩, cap, rfl, hnc, hcap, fun j hj => ⟨g, 0, rfl, ?_, ?_⟩⟩
    · exact (h0.lt g rfl).2
    · have hc := fun t (ht : t < 3) => (h0.cellAt (j * 3 + t) (by omega)).trans (ptCells_at r j t hj ht)
      simp only [Nat.zero_add]
      exact ⟨hc 0 (by decide), hc 1 (by decide), hc 2 (by decide)⟩
theorem ptCells_one (r : List Pt) : ∀ u ∈ ptCells r, u.oneCell' = true := by
  intro u hu
  obtain ⟨p, _, h⟩ := List.mem_flatMap.1 hu
  simp [ptCell] at h
  rcases h with rfl | rfl | rfl <;> rfl
theorem PtAt.at {w : World} {b o : Nat} {p : Pt} (h : PtAt w b o p) (t : Nat) (ht : t < 3) : w.cell? ⟨b, o + t, none⟩ = (ptCell p)[t]? := by
  match t, ht with
  | 0, _ => exact h.x
  | 1, _ => exact h.y
  | 2, _ => exact h.d
theorem cell_off2 (b off t : Nat) : (⟨b, off, none⟩ : Addr).add t = ⟨b, off + t, none⟩ := by
  unfold Addr.add
  by_cases h : t = 0 <;> simp [h]
theorem ring_news {w : World} {b off : Nat} {r : List Pt} (h : ∀ j, j < r.length → PtAt w b (off + j * 3) (r.getD j zP)) :
    ∀ t u, (ptCells r)[t]? = some u → w.cell? ((⟨b, off, none⟩ : Addr).add t) = some u := by
  intro t u hu
  have hl : t < r.length * 3 := by
    have := (List.getElem?_eq_some_iff.1 hu).1; rwa [ptCells_len] at this
  have hd : t = t / 3 * 3 + t % 3 := by omega
  have h1 := (h (t / 3) (by omega)).at (t % 3) (by omega)
  rw [hd, ptCells_at r (t / 3) (t % 3) (by omega) (by omega)] at hu
  have e : (⟨b, off, none⟩ : Addr).add t = ⟨b, off + t / 3 * 3 + t % 3, none⟩ := by
    have := cell_off2 b off t
    rw [this]; congr 1; omega
  rw [e, h1, hu]
/-- 'append' of nothing. -/
theorem run_append_zero {P : Program} (w : World) (base : Nat) (t ty e : TypeId) (i : TypeInfo) (size : Nat) (ht : P.underlying t = some (.slice e)) (hi : P.info? e = some i)
    (v : Value) (n : Nat) (xs : List Value) (hown : w.ownsRow base e size v n xs) (a : Option Addr) (c : Nat) :
    (Builtin.append_ #[t, t] ty #[v, .slice a 0 c]).run P w = .ok v w := by
  have l := fun x : Addr => run_loadCells_list (P := P) w x [] (by intro j v h; simp at h)
  rcases hown.2 with ⟨rfl, rfl⟩ | ⟨g, cap, cur, rfl, _, _, hnc, _⟩
  · cases a with
    | none => simp [Builtin.append_, run_underlying ht, sizeOf, typeInfo, hi, Builtin.lenOf, Builtin.firstCells]
    | some x => have := l x; simp at this; simp [Builtin.append_, run_underlying ht, sizeOf, typeInfo, hi, Builtin.lenOf, Builtin.firstCells, this]
  · cases a with
    | none => simp [Builtin.append_, run_underlying ht, sizeOf, typeInfo, hi, Builtin.lenOf, Builtin.firstCells, hnc, storeCells]
    | some x => have := l x; simp at this; simp [Builtin.append_, run_underlying ht, sizeOf, typeInfo, hi, Builtin.lenOf, Builtin.firstCells, hnc, storeCells, this]
theorem wpList_append_zero {P : Program} {w : World} {ops : Array Oper} {rest : List Oper} {o : Oper} {a : Act} {Q : Exit → Act → World → Prop} (hgd : o.guard = none) (s x : Operand) (t : TypeId)
    (ho : o.op = .call { callee := .builtin .append, args := #[s, x], argTypes := #[t, t] })
    (base : Nat) (e : TypeId) (i : TypeInfo) (size : Nat) (ht : P.underlying t = some (.slice e)) (hi : P.info? e = some i)
    (v : Value) (n : Nat) (xs : List Value) (hs : a.eval s = v) (hown : w.ownsRow base e size v n xs) (ad : Option Addr) (c : Nat) (hx : a.eval x = .slice ad 0 c)
    (h : wpList P ops Q rest (a.put o.dst v) w) : wpList P ops Q (o :: rest) a w := by
  refine wpList_plain hgd fun K hK => ?_
  have hrun := run_append_zero (P := P) w base t o.type e i size ht hi v n xs hown ad c
  unfold Oper.wp
  simp [execOp, ho, resolve, invoke, builtin, hs, hx, hrun, Result.andThen]
  exact hK _ _ h
/-- Neither ahead of the segment nor behind it. -/
def spanM (a b p : Pt) : Bool := !decide (cmpM p (firstM a b) < 0) && decide (cmpM p (lastM a b) < 0)
def sideM (a b p : Pt) : Int := detM (firstM a b) (lastM a b) p
def hasM (a b p : Pt) : Bool := !decide (cmpM p (firstM a b) < 0) && (!decide (0 < cmpM p (lastM a b)) && decide (sideM a b p = 0))
def overM (a b p : Pt) : Bool := spanM a b p && decide (sideM a b p < 0)
theorem span_no {a b p : Pt} (h : cmpM p (firstM a b) < 0) : spanM a b p = false := by unfold spanM; simp [h]
theorem span_of {a b p : Pt} (h : ¬ cmpM p (firstM a b) < 0) : spanM a b p = decide (cmpM p (lastM a b) < 0) := by unfold spanM; simp [h]
theorem has_no {a b p : Pt} (h : cmpM p (firstM a b) < 0) : hasM a b p = false := by unfold hasM; simp [h]
theorem has_no2 {a b p : Pt} (h : 0 < cmpM p (lastM a b)) : hasM a b p = false := by unfold hasM; simp [h]
theorem has_of {a b p : Pt} (h : ¬ cmpM p (firstM a b) < 0) (h2 : ¬ 0 < cmpM p (lastM a b)) : hasM a b p = decide (sideM a b p = 0) := by unfold hasM; simp [h, h2]

set_option maxHeartbeats 1000000 in
theorem Spans_any (a b p : Pt) (w : World) (ha : Gd a) (hb : Gd b) (hp : Gd p) :
    Calls Try.prog 51 #[sg a b, p.v] w fun e w' => e = .returned (.bool (spanM a b p)) ∧ Below w.heap.size w w' := by
  have gf := firstM_gd ha hb
  have gl := lastM_gd ha hb
  by_cases h : cmpM p (firstM a b) < 0
  · have H := hide (span_no h)
    go_enter Try.func51, Try.ntmps51
    go_wp2_with fail
    refine (Forward_any a b _ ha hb).mono ?_
    rintro e w1 ⟨rfl, k⟩
    have B1 := bvia (below2 _ _ _) k
    obtain ⟨cp1, fp1, zp1⟩ := (Blk.at (w.heap.size + 1) (by simp)).call k
    clear k
    go_wp2_with fail
    refine (Compare_any p (firstM a b) _ hp gf).mono ?_
    rintro e w2 ⟨rfl, k⟩
    have B2 := bvia (B1.alloc B1.size _) k
    clear k cp1 fp1 B1
    go_wp2
    go_ret
    exact ⟨ret_bool H.out.symm, B2⟩
  · have H := hide (span_of h)
    go_enter Try.func51, Try.ntmps51
    go_wp2_with fail
    refine (Forward_any a b _ ha hb).mono ?_
    rintro e w1 ⟨rfl, k⟩
    have B1 := bvia (below2 _ _ _) k
    obtain ⟨cp1, fp1, zp1⟩ := (Blk.at (w.heap.size + 1) (by simp)).call k
    clear k
    go_wp2_with fail
    refine (Compare_any p (firstM a b) _ hp gf).mono ?_
    rintro e w2 ⟨rfl, k⟩
    have B2 := bvia (B1.alloc B1.size _) k
    obtain ⟨cp2, fp2, zp2⟩ := ((Blk.mk cp1 fp1 zp1).alloc _).call k
    obtain ⟨cf2, ff2, zf2⟩ := (Blk.new w1 _ _).call k
    clear k cp1 fp1 B1
    go_wp2_with fail
    refine (Compare_any p (lastM a b) _ hp gl).mono ?_
    rintro e w3 ⟨rfl, k⟩
    have B3 := bvia B2 k
    clear k cp2 fp2 cf2 ff2 B2
    go_wp2
    go_ret
    exact ⟨ret_bool H.out.symm, B3⟩

set_option maxHeartbeats 1000000 in
theorem segSide_any (a b p : Pt) (w : World) (ha : Gd a) (hb : Gd b) (hp : Gd p) :
    Calls Try.prog 70 #[sg a b, p.v] w fun e w' => e = .returned (.int .i64 (sideM a b p)) ∧ Below w.heap.size w w' := by
  have gf := firstM_gd ha hb
  have gl := lastM_gd ha hb
  go_enter Try.func70, Try.ntmps70
  go_wp2_with fail
  refine (Forward_any a b _ ha hb).mono ?_
  rintro e w1 ⟨rfl, k⟩
  have B1 := bvia (below2 _ _ _) k
  obtain ⟨cp1, fp1, zp1⟩ := (Blk.at (w.heap.size + 1) (by simp)).call k
  clear k
  go_wp2_with fail
  refine (Side_any (firstM a b) (lastM a b) p _ gf gl hp).mono ?_
  rintro e w2 ⟨rfl, k⟩
  have B2 := bvia (B1.alloc B1.size _) k
  clear k cp1 fp1 B1
  go_wp2
  go_ret
  exact ⟨rfl, B2⟩

set_option maxHeartbeats 1000000 in
theorem Has_any (a b p : Pt) (w : World) (ha : Gd a) (hb : Gd b) (hp : Gd p) :
    Calls Try.prog 50 #[sg a b, p.v] w fun e w' => e = .returned (.bool (hasM a b p)) ∧ Below w.heap.size w w' := by
  have gf := firstM_gd ha hb
  have gl := lastM_gd ha hb
  by_cases h : cmpM p (firstM a b) < 0
  · have H := hide (has_no h)
    go_enter Try.func50, Try.ntmps50
    go_wp2_with fail
    refine (Forward_any a b _ ha hb).mono ?_
    rintro e w1 ⟨rfl, k⟩
    have B1 := bvia (below2 _ _ _) k
    obtain ⟨cp1, fp1, zp1⟩ := (Blk.at (w.heap.size + 1) (by simp)).call k
    clear k
    go_wp2_with fail
    refine (Compare_any p (firstM a b) _ hp gf).mono ?_
    rintro e w2 ⟨rfl, k⟩
    have B2 := bvia (B1.alloc B1.size _) k
    clear k cp1 fp1 B1
    go_wp2
    go_ret
    exact ⟨ret_bool H.out.symm, B2⟩
  by_cases h2 : 0 < cmpM p (lastM a b)
  · have H := hide (has_no2 h2)
    go_enter Try.func50, Try.ntmps50
    go_wp2_with fail
    refine (Forward_any a b _ ha hb).mono ?_
    rintro e w1 ⟨rfl, k⟩
    have B1 := bvia (below2 _ _ _) k
    obtain ⟨cp1, fp1, zp1⟩ := (Blk.at (w.heap.size + 1) (by simp)).call k
    clear k
    go_wp2_with fail
    refine (Compare_any p (firstM a b) _ hp gf).mono ?_
    rintro e w2 ⟨rfl, k⟩
    have B2 := bvia (B1.alloc B1.size _) k
    obtain ⟨cp2, fp2, zp2⟩ := ((Blk.mk cp1 fp1 zp1).alloc _).call k
    obtain ⟨cf2, ff2, zf2⟩ := (Blk.new w1 _ _).call k
    clear k cp1 fp1 B1
    go_wp2_with fail
    refine (Compare_any p (lastM a b) _ hp gl).mono ?_
    rintro e w3 ⟨rfl, k⟩
    have B3 := bvia B2 k
    clear k cp2 fp2 cf2 ff2 B2
    go_wp2
    go_ret
    exact ⟨ret_bool H.out.symm, B3⟩
  have H := hide (has_of h h2)
  have HS := hide (show detM (firstM a b) (lastM a b) p = sideM a b p from rfl)
  go_enter Try.func50, Try.ntmps50
  go_wp2_with fail
  refine (Forward_any a b _ ha hb).mono ?_
  rintro e w1 ⟨rfl, k⟩
  have B1 := bvia (below2 _ _ _) k
  obtain ⟨cp1, fp1, zp1⟩ := (Blk.at (w.heap.size + 1) (by simp)).call k
  clear k
  go_wp2_with fail
  refine (Compare_any p (firstM a b) _ hp gf).mono ?_
  rintro e w2 ⟨rfl, k⟩
  have B2 := bvia (B1.alloc B1.size _) k
  obtain ⟨cp2, fp2, zp2⟩ := ((Blk.mk cp1 fp1 zp1).alloc _).call k
  obtain ⟨cf2, ff2, zf2⟩ := (Blk.new w1 _ _).call k
  clear k cp1 fp1 B1
  go_wp2_with fail
  refine (Compare_any p (lastM a b) _ hp gl).mono ?_
  rintro e w3 ⟨rfl, k⟩
  have B3 := bvia B2 k
  obtain ⟨cp3, fp3, zp3⟩ := (Blk.mk cp2 fp2 zp2).call k
  obtain ⟨cf3, ff3, zf3⟩ := (Blk.mk cf2 ff2 zf2).call k
  clear k cp2 fp2 cf2 ff2 B2
  go_wp2_with fail
  refine (Side_any (firstM a b) (lastM a b) p _ gf gl hp).mono ?_
  rintro e w4 ⟨rfl, k⟩
  have B4 := bvia B3 k
  clear k cp3 fp3 cf3 ff3 B3
  go_wp2
  go_ret
  exact ⟨ret_bool (by rw [H.out]; rfl), B4⟩

set_option maxHeartbeats 1000000 in
theorem isOver_any (a b p : Pt) (w : World) (ha : Gd a) (hb : Gd b) (hp : Gd p) :
    Calls Try.prog 63 #[sg a b, p.v] w fun e w' => e = .returned (.bool (overM a b p)) ∧ Below w.heap.size w w' := by
  cases h : spanM a b p
  · have H : Hid (overM a b p = false) := by unfold overM; rw [h]; exact hide rfl
    go_enter Try.func63, Try.ntmps63
    go_wp2_with fail
    refine (Spans_any a b p _ ha hb hp).mono ?_
    rintro e w1 ⟨rfl, k⟩
    have B1 := bvia (below2 _ _ _) k
    rw [h]
    clear k h
    go_wp2
    go_ret
    exact ⟨ret_bool H.out.symm, B1⟩
  · have H : Hid (overM a b p = decide (sideM a b p < 0)) := by unfold overM; rw [h]; exact hide rfl
    go_enter Try.func63, Try.ntmps63
    go_wp2_with fail
    refine (Spans_any a b p _ ha hb hp).mono ?_
    rintro e w1 ⟨rfl, k⟩
    have B1 := bvia (below2 _ _ _) k
    obtain ⟨cs1, fs1, zs1⟩ := ((Blk.new w _ _).alloc _).call k
    obtain ⟨cp1, fp1, zp1⟩ := (Blk.at (w.heap.size + 1) (by simp)).call k
    rw [h]
    clear k h
    go_wp2_with fail
    refine (segSide_any a b p _ ha hb hp).mono ?_
    rintro e w2 ⟨rfl, k⟩
    have B2 := bvia B1 k
    clear k cs1 fs1 cp1 fp1 B1
    go_wp2
    go_ret
    exact ⟨ret_bool H.out.symm, B2⟩

def otherM (n : Int) : Int := if n = 0 then 1 else 0
set_option maxHeartbeats 400000 in
theorem other_any (n : Int) (w : World) :
    Calls Try.prog 64 #[.int .i64 n] w fun e w' => e = .returned (.int .i64 (otherM n)) ∧ w' = w := by
  by_cases h : n = 0
  · subst h
    go_enter Try.func64, Try.ntmps64
    go_wp2
    go_ret
    exact ⟨rfl, rfl⟩
  · have H : Hid (otherM n = 0) := if_neg h
    have h' : (n == 0) = false := by simpa using h
    go_enter Try.func64, Try.ntmps64
    go_wp2
    go_ret
    exact ⟨ret_int H.out.symm, rfl⟩
end Go.Proofs.Ytnkcbephceollab
