import Derived.Test.YtkhejfnhpdbhjaaGreatH5
import Derived.Deep.AppendLies
import Derived.Deep.RegionHeld3
import Derived.OwnWalk
import Derived.Laws.OwnMore
namespace Go.Proofs.YtkhejfnhpdbhjaaGreat
open Go.RowKit
set_option linter.unusedSimpArgs false
set_option linter.unusedVariables false

section
variable {P : Program} (w : World)
/-- 'append' onto a row of one's own: what lay in the row stays, and a new row leaves the old one alone. -/
theorem run_append_stay (t ty : TypeId) (base : Nat) (e : TypeId) (i : TypeInfo) (z : Value) (size bytes : Nat) (ht : P.underlying t = some (.slice e)) (hi : P.info? e = some i) (hz : i.zero = some z)
    (hsize : i.size = size) (hby : i.bytes = bytes) (hzs : z.cells.size = size) (hsz : 0 < size)
    (v : Value) (n : Nat) (xs : List Value) (hown : w.ownsRow base e size v n xs)
    (ad : Addr) (m c : Nat) (news : List Value) (hl : news.length = m * size) (hnews : ∀ j u, news[j]? = some u → w.cell? (ad.add j) = some u) (h1 : ∀ u ∈ news, u.oneCell' = true)
    (hm : 0 < m) (h63 : n + m ≤ maxLen) (hbytes : (n + m) * bytes ≤ 140737488355328) (hbase : base ≤ w.heap.size) (H : Nat) (hH : w.heap.size = H) :
    ∃ g cap w', (Builtin.append_ #[t, t] ty #[v, .slice (some ad) m c]).run P w = .ok (.slice (some ⟨g, 0, none⟩) (n + m) cap) w' ∧
      w'.ownsRow base e size (.slice (some ⟨g, 0, none⟩) (n + m) cap) (n + m) (xs ++ news) ∧ w.grownBy w' v.ownBlock ∧ (v.ownBlock = some g ∨ (g = H ∧ w.grownBy w' none)) ∧ g < w'.heap.size := by
  obtain ⟨g, cap, w', hr, h2, h3, h4, h5⟩ := run_append_lies (P := P) w t ty base e i z size bytes ht hi hz hsize hby hzs hsz v n xs hown ad m c news hl hnews h1 hm h63 hbytes hbase H hH
  refine ⟨g, cap, w', hr, h2, h3, ?_, h5⟩
  subst hsize
  subst hby
  rcases hown.2 with ⟨rfl, rfl⟩ | ⟨k, cp, cur, rfl, hbg, hg, hnc, hcm, hcs, htake⟩
  · right
    rcases h4 with h4 | h4
    · simp [Value.ownBlock] at h4
    · exact ⟨h4, h3⟩
  · by_cases hroom : n + m ≤ cp
    · have hfit : n * i.size + news.length ≤ cur.size := by rw [hl, hcs, ← Nat.add_mul]; exact Nat.mul_le_mul_right _ hroom
      have hr2 := run_append_room (P := P) w t ty e i ht hi k n cp cur hg ad m c news hl hnews h1 hroom hfit
      rw [hr2] at hr
      simp only [Result.ok.injEq, Value.slice.injEq, Option.some.injEq, Addr.mk.injEq] at hr
      left
      simp only [Value.ownBlock]
      rw [hr.1.1.1]
    · have holds : ∀ j u, xs[j]? = some u → w.cell? ((⟨k, 0, none⟩ : Addr).add j) = some u := hown.cells (g := k) rfl
      have hr2 := run_append_grow (P := P) w t ty e i z ht hi hz ⟨k, 0, none⟩ n cp xs hown.1 holds ad m c news hl hnews (by omega) (by simp only [maxLen] at h63; omega) (growslice_fits (by omega) hbytes)
      rw [hr2] at hr
      simp only [Result.ok.injEq, Value.slice.injEq, Option.some.injEq, Addr.mk.injEq] at hr
      right
      refine ⟨?_, ?_⟩
      · rw [← hr.1.1.1]; exact hH
      · rw [← hr.2]
        exact ⟨rfl, rfl, rfl, by simp, fun q hq _ => Below.heap_alloc w.drew _ q hq⟩

theorem wp_append_stay {o : Oper} {a : Act} {K : Act → World → Prop} {Q : Exit → Act → World → Prop} (s x : Operand) (t : TypeId)
    (ho : o.op = .call { callee := .builtin .append, args := #[s, x], argTypes := #[t, t] })
    (base : Nat) (e : TypeId) (i : TypeInfo) (z : Value) (size bytes : Nat) (ht : P.underlying t = some (.slice e)) (hi : P.info? e = some i) (hz : i.zero = some z)
    (hsize : i.size = size) (hby : i.bytes = bytes) (hzs : z.cells.size = size) (hsz : 0 < size)
    (v : Value) (n : Nat) (xs : List Value) (hs : a.eval s = v) (hown : w.ownsRow base e size v n xs)
    (ad : Addr) (m c : Nat) (news : List Value) (hx : a.eval x = .slice (some ad) m c) (hl : news.length = m * size) (hnews : ∀ j u, news[j]? = some u → w.cell? (ad.add j) = some u) (h1 : ∀ u ∈ news, u.oneCell' = true)
    (hm : 0 < m) (h63 : n + m ≤ maxLen) (hbytes : (n + m) * bytes ≤ 140737488355328) (hbase : base ≤ w.heap.size) (H : Nat) (hH : w.heap.size = H)
    (h : ∀ g cap w', w'.ownsRow base e size (.slice (some ⟨g, 0, none⟩) (n + m) cap) (n + m) (xs ++ news) → w.grownBy w' v.ownBlock → (v.ownBlock = some g ∨ (g = H ∧ w.grownBy w' none)) → g < w'.heap.size → K (a.put o.dst (.slice (some ⟨g, 0, none⟩) (n + m) cap)) w') : o.wp P a w K Q := by
  obtain ⟨g, cap, w', hr, h2, h3, h4, h5⟩ := run_append_stay (P := P) w t o.type base e i z size bytes ht hi hz hsize hby hzs hsz v n xs hown ad m c news hl hnews h1 hm h63 hbytes hbase H hH
  unfold Oper.wp execOp
  simp only [ho, resolve, invoke, builtin, Sem.run_bind, Sem.run_pure, Result.andThen_ok, List.map_toArray, List.map_cons, List.map_nil, hs, hx, hr]
  exact h g cap w' h2 h3 h4 h5
theorem step_append_stay {ops : Array Oper} {o : Oper} {a : Act} {K : Act → World → Prop} {Q : Exit → Act → World → Prop} {E : Prop} (hgd : o.guard = none) (s x : Operand) (t : TypeId)
    (ho : o.op = .call { callee := .builtin .append, args := #[s, x], argTypes := #[t, t] })
    (base : Nat) (e : TypeId) (i : TypeInfo) (z : Value) (size bytes : Nat) (ht : P.underlying t = some (.slice e)) (hi : P.info? e = some i) (hz : i.zero = some z)
    (hsize : i.size = size) (hby : i.bytes = bytes) (hzs : z.cells.size = size) (hsz : 0 < size)
    (v : Value) (n : Nat) (xs : List Value) (hs : a.eval s = v) (hown : w.ownsRow base e size v n xs)
    (ad : Addr) (m c : Nat) (news : List Value) (hx : a.eval x = .slice (some ad) m c) (hl : news.length = m * size) (hnews : ∀ j u, news[j]? = some u → w.cell? (ad.add j) = some u) (h1 : ∀ u ∈ news, u.oneCell' = true)
    (hm : 0 < m) (h63 : n + m ≤ maxLen) (hbytes : (n + m) * bytes ≤ 140737488355328) (hbase : base ≤ w.heap.size) (H : Nat) (hH : w.heap.size = H)
    (h : ∀ g cap w', w'.ownsRow base e size (.slice (some ⟨g, 0, none⟩) (n + m) cap) (n + m) (xs ++ news) → w.grownBy w' v.ownBlock → (v.ownBlock = some g ∨ (g = H ∧ w.grownBy w' none)) → g < w'.heap.size → K (a.put o.dst (.slice (some ⟨g, 0, none⟩) (n + m) cap)) w') :
    if Region.wanted o (yielded ops a.tmps) = true then Oper.wp P o a w K Q else E := by
  have hw : Region.wanted o (yielded ops a.tmps) = true := by simp [Region.wanted, hgd]
  rw [if_pos hw]
  exact wp_append_stay w s x t ho base e i z size bytes ht hi hz hsize hby hzs hsz v n xs hs hown ad m c news hx hl hnews h1 hm h63 hbytes hbase H hH h
end

/-- n times the same cells. -/
def rep (n : Nat) (l : List Value) : List Value := (List.replicate n l).flatten
theorem rep_succ (n : Nat) (l : List Value) : rep (n + 1) l = rep n l ++ l := by
  unfold rep
  rw [List.replicate_succ']
  simp
theorem rep_len (n : Nat) (l : List Value) : (rep n l).length = n * l.length := by
  unfold rep
  simp
theorem rep_at (n j t : Nat) (l : List Value) (hj : j < n) (ht : t < l.length) : (rep n l)[j * l.length + t]? = l[t]? := by
  induction n with
  | zero => omega
  | succ n ih =>
    rw [rep_succ]
    by_cases h : j < n
    · rw [List.getElem?_append_left, ih h]
      rw [rep_len]
      have := Nat.mul_le_mul_right l.length (show j + 1 ≤ n by omega)
      rw [Nat.add_mul] at this
      omega
    · have e : j = n := by omega
      subst e
      rw [List.getElem?_append_right (by rw [rep_len]; omega), rep_len]
      congr 1
      omega
abbrev ptMk (m : Int) : List Value := [.int .i64 0, .int .i64 m, .int .i64 0]
abbrev pcMk (m : Int) : List Value := [.int .i64 0, .int .i64 0, .int .i64 m, .int .i64 0, .int .i64 0, .int .i64 0, .bool false, .bool false, .bool false, .bool false]

/-- The four rows of a hold: each is owned, each place is marked; rs: the blocks of the marks of the rings. -/
structure Fam (w : World) (base : Nat) (m : Int) (rv pv cv nv : Value) (nr np nc nn : Nat) (rs : List Nat) : Prop where
  rl : rs.length = nr
  ro : w.ownsRow base 57 1 rv nr (rs.map fun g => .slice (some ⟨g, 0, none⟩) 1 1)
  rp : ∀ g ∈ rs, PtAt w g 0 ⟨m, 0, 0⟩
  po : w.ownsRow base 31 3 pv np (rep np (ptMk m))
  co : w.ownsRow base 55 10 cv nc (rep nc (pcMk m))
  no : w.ownsRow base 3 1 nv nn (rep nn [.int .i64 m])
  rn : ∀ g ∈ rs, rv.ownBlock ≠ some g ∧ pv.ownBlock ≠ some g ∧ cv.ownBlock ≠ some g ∧ nv.ownBlock ≠ some g

/-- Rows of different types lie in different blocks. -/
theorem own_apart {w : World} {base base' : Nat} {e e' : TypeId} {s s' : Nat} {v v' : Value} {n n' : Nat} {xs xs' : List Value} (h : w.ownsRow base e s v n xs) (h' : w.ownsRow base' e' s' v' n' xs') (he : e ≠ e') (b : Nat) (hb : v.ownBlock = some b) : v'.ownBlock ≠ some b := by
  intro hb'
  rcases h.2 with ⟨rfl, _⟩ | ⟨g, cap, cur, rfl, _, hg, _⟩
  · simp [Value.ownBlock] at hb
  · rcases h'.2 with ⟨rfl, _⟩ | ⟨g', cap', cur', rfl, _, hg', _⟩
    · simp [Value.ownBlock] at hb'
    · simp [Value.ownBlock] at hb hb'
      subst hb hb'
      rw [hg] at hg'
      simp at hg'
      exact he hg'.2
theorem own_form {w : World} {base : Nat} {e : TypeId} {s : Nat} {v : Value} {n : Nat} {xs : List Value} (h : w.ownsRow base e s v n xs) : ∃ a cap, v = .slice a n cap ∧ (∀ b, v.ownBlock = some b → a = some ⟨b, 0, none⟩) ∧ (0 < n → ∃ b, v.ownBlock = some b) ∧ n ≤ maxLen := by
  rcases h.2 with ⟨rfl, rfl⟩ | ⟨g, cap, cur, rfl, _, hg, h1, h2, _⟩
  · exact ⟨none, 0, rfl, fun b hb => by simp [Value.ownBlock] at hb, fun h => absurd h (Nat.lt_irrefl _), Nat.zero_le _⟩
  · exact ⟨_, cap, rfl, fun b hb => by simp [Value.ownBlock] at hb; rw [hb], fun _ => ⟨g, rfl⟩, by omega⟩
theorem own_cell {w : World} {base : Nat} {e : TypeId} {s : Nat} {v : Value} {n : Nat} {xs : List Value} (h : w.ownsRow base e s v n xs) (b : Nat) (hb : v.ownBlock = some b) (o : Nat) (ho : o < n * s) : w.cell? ⟨b, o, none⟩ = xs[o]? := by
  rcases h.2 with ⟨rfl, _⟩ | ⟨g, cap, cur, rfl, _, hg, _⟩
  · simp [Value.ownBlock] at hb
  · simp [Value.ownBlock] at hb
    subst hb
    exact h.cellAt o ho

/-- What a hold of such rows reads as. -/
theorem Fam.mk' {w : World} {base : Nat} {m : Int} {rv pv cv nv : Value} {nr np nc nn : Nat} {rs : List Nat} (f : Fam w base m rv pv cv nv nr np nc nn rs) {F : Nat → Nat → Prop} {h : Nat}
    (c0 : w.cell? ⟨h, 0, none⟩ = some rv) (c1 : w.cell? ⟨h, 1, none⟩ = some pv) (c2 : w.cell? ⟨h, 2, none⟩ = some cv) (c3 : w.cell? ⟨h, 3, none⟩ = some nv) (c4 : w.cell? ⟨h, 4, none⟩ = some (.int .i64 m))
    (fh : ∀ o, o < 5 → F h o) (fr : ∀ b o, rv.ownBlock = some b → o < nr → F b o) (fg : ∀ g ∈ rs, ∀ o, F g o) (fp : ∀ b o, pv.ownBlock = some b → o < np * 3 → F b o) (fc : ∀ b o, cv.ownBlock = some b → o < nc * 10 → F b o) (fn : ∀ b o, nv.ownBlock = some b → o < nn → F b o) :
    HoldMk w F h m rv pv cv nv := by
  refine ⟨fh, c0, c1, c2, c3, c4, ?_, ?_, ?_, ?_⟩
  · obtain ⟨a, cap, e1, e2, e3, e4⟩ := own_form f.ro
    refine ⟨a, nr, cap, e1, by unfold maxLen at e4; omega, fun j hj => ?_⟩
    obtain ⟨b, hb⟩ := e3 (by omega)
    have hj' : j < rs.length := by rw [f.rl]; exact hj
    have hc := own_cell f.ro b hb j (by omega)
    rw [List.getElem?_map, List.getElem?_eq_getElem hj'] at hc
    have hm : rs[j] ∈ rs := List.getElem_mem hj'
    refine ⟨b, 0, rs[j], 1, e2 b hb, by rw [Nat.zero_add]; exact fr b j hb hj, ⟨fg _ hm 0, fg _ hm 1, fg _ hm 2⟩, by rw [Nat.zero_add]; exact hc, f.rp _ hm⟩
  · obtain ⟨a, cap, e1, e2, e3, e4⟩ := own_form f.po
    refine ⟨a, np, cap, e1, by unfold maxLen at e4; omega, fun j hj => ?_⟩
    obtain ⟨b, hb⟩ := e3 (by omega)
    have hc := fun t (ht : t < 3) => (own_cell f.po b hb (j * 3 + t) (by omega)).trans (rep_at np j t (ptMk m) hj ht)
    refine ⟨b, 0, e2 b hb, ?_, ?_⟩
    · rw [Nat.zero_add]
      exact ⟨fp b _ hb (by omega), fp b _ hb (by omega), fp b _ hb (by omega)⟩
    · rw [Nat.zero_add]
      exact ⟨hc 0 (by decide), hc 1 (by decide), hc 2 (by decide)⟩
  · obtain ⟨a, cap, e1, e2, e3, e4⟩ := own_form f.co
    refine ⟨a, nc, cap, e1, by unfold maxLen at e4; omega, fun j hj => ?_⟩
    obtain ⟨b, hb⟩ := e3 (by omega)
    have hc := fun t (ht : t < 10) => (own_cell f.co b hb (j * 10 + t) (by omega)).trans (rep_at nc j t (pcMk m) hj ht)
    refine ⟨b, 0, e2 b hb, ?_, ?_⟩
    · rw [Nat.zero_add]
      exact fun t ht => fc b _ hb (by omega)
    · rw [Nat.zero_add]
      exact ⟨hc 0 (by decide), hc 1 (by decide), hc 2 (by decide), hc 3 (by decide), hc 4 (by decide), hc 5 (by decide), hc 6 (by decide), hc 7 (by decide), hc 8 (by decide), hc 9 (by decide)⟩
  · obtain ⟨a, cap, e1, e2, e3, e4⟩ := own_form f.no
    refine ⟨a, nn, cap, e1, by unfold maxLen at e4; omega, fun j hj => ?_⟩
    obtain ⟨b, hb⟩ := e3 (by omega)
    have hc := (own_cell f.no b hb j (by omega)).trans (by simpa using rep_at nn j 0 [.int .i64 m] hj (by simp))
    refine ⟨b, 0, e2 b hb, ?_, ?_⟩
    · rw [Nat.zero_add]
      exact fn b _ hb hj
    · rw [Nat.zero_add]
      exact hc
end Go.Proofs.YtkhejfnhpdbhjaaGreat
