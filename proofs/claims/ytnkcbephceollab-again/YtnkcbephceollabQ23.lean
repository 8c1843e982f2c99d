import Derived.Test.YtnkcbephceollabQ22
namespace Go.Proofs.Ytnkcbephceollab
open Go.RowKit
set_option linter.unusedSimpArgs false
set_option linter.unusedVariables false

theorem infoBool : (Try.prog.info? 4).map (fun i => (i.zero, i.size, i.bytes)) = some (some (.bool false), 1, 1) := by kernel_rfl
theorem mk_bools (n : Nat) (hn : n ≤ 1048576) (W : World) : (Instr.makeSlice 68 (.int .i64 (n : Int)) (.int .i64 (n : Int))).run Try.prog W = .ok (.slice (some ⟨W.heap.size, 0, none⟩) n n) (W.alloc (.cells (madeCells #[.bool false] n) 4)) := by
  obtain ⟨i0, hi0, hz0, hz1, hz2⟩ := info_parts infoBool
  have h := run_make (P := Try.prog) W 68 4 i0 _ Try.underlying68 hi0 hz0 .i64 .i64 (n : Int) (n : Int) (by omega) (by omega) (by rw [hz2]; omega) (by omega)
  rw [h, hz1, Int.toNat_natCast, Nat.mul_one]
  rfl
/-- Truth values as cells. -/
def boolCells (t : List Bool) : Array Value := (t.map fun b => Value.bool b).toArray
theorem bools_at (t : List Bool) (j : Nat) (hj : j < t.length) : (boolCells t)[j]? = some (.bool (t.getD j false)) := by
  unfold boolCells
  rw [List.getElem?_toArray, List.getElem?_map, List.getElem?_eq_getElem hj, List.getD_eq_getElem?_getD, List.getElem?_eq_getElem hj]; rfl
theorem bools_size (t : List Bool) : (boolCells t).size = t.length := by unfold boolCells; simp
theorem bools_made (n : Nat) : madeCells #[.bool false] n = boolCells (List.replicate n false) := by
  apply Array.ext_getElem?
  intro i
  unfold boolCells
  by_cases h : i < n
  · simp [madeCells, h, Nat.mod_one]
  · rw [Array.getElem?_eq_none (by rw [size_madeCells]; omega), Array.getElem?_eq_none (by simp; omega)]
theorem bools_set (t : List Bool) (k : Nat) (b : Bool) : (boolCells t).setIfInBounds k (.bool b) = boolCells (t.set k b) := by
  unfold boolCells
  apply Array.ext_getElem?
  intro i
  rw [Array.getElem?_setIfInBounds, List.getElem?_toArray, List.getElem?_toArray, List.getElem?_map, List.getElem?_map, List.getElem?_set]
  by_cases h : k = i
  · subst h
    by_cases h2 : k < t.length
    · simp [h2]
    · simp [h2]
  · simp [h]
/-- How many are free yet, as the memory shows them. -/
def cntF (w : World) (tb n : Nat) : Nat := (List.range n).countP (fun j => match w.cell? ⟨tb, j, none⟩ with | some (.bool false) => true | _ => false)
def freeN (t : List Bool) : Nat := t.countP (fun b => !b)
theorem range_count (t : List Bool) : freeN t = (List.range t.length).countP (fun j => !t.getD j false) := by
  unfold freeN
  have e : t = (List.range t.length).map (fun j => t.getD j false) := by
    apply List.ext_getElem
    · simp
    · intro j h1 h2
      simp [List.getD_eq_getElem?_getD, List.getElem?_eq_getElem h1]
  conv => lhs; rw [e]
  rw [List.countP_map]; rfl
theorem cnt_eq {w : World} {tb : Nat} {t : List Bool} (h : Blk w tb (boolCells t)) : cntF w tb t.length = freeN t := by
  rw [range_count]
  unfold cntF
  refine List.countP_congr (fun j hj => ?_)
  have hj' : j < t.length := List.mem_range.1 hj
  rw [h.cell j, bools_at t j hj']
  cases t.getD j false <;> simp
theorem free_set : ∀ (t : List Bool) (k : Nat), k < t.length → t.getD k false = false → freeN (t.set k true) + 1 = freeN t
  | [], k, h, _ => by simp at h
  | b :: t, 0, _, h => by
    have : b = false := h
    subst this
    simp [freeN]
  | b :: t, k + 1, h, e => by
    have ih := free_set t k (by simpa using h) (by simpa using e)
    unfold freeN at *
    rw [List.set_cons_succ, List.countP_cons, List.countP_cons]
    omega
theorem free_le (t : List Bool) : freeN t ≤ t.length := List.countP_le_length
theorem walk_end {L : List (Pt × Pt)} {N : List Nat} {f k : Nat} {t : List Bool} (hf : 0 < f) (h : t.getD k false = true) : walkM L N f t k = ([], t) := by
  cases f with
  | zero => omega
  | succ f => unfold walkM; rw [if_pos h]
theorem walk_step {L : List (Pt × Pt)} {N : List Nat} {f k : Nat} {t : List Bool} (h : t.getD k false = false) : walkM L N (f + 1) t k = ((if turnB (edg L k) (edg L (N.getD k 0)) = true then [(edg L k).2] else []) ++ (walkM L N f (t.set k true) (N.getD k 0)).1, (walkM L N f (t.set k true) (N.getD k 0)).2) := by
  conv => lhs; unfold walkM
  rw [if_neg (by rw [h]; decide)]
theorem walk_tlen (L : List (Pt × Pt)) (N : List Nat) : ∀ (f : Nat) (t : List Bool) (k : Nat), (walkM L N f t k).2.length = t.length
  | 0, _, _ => rfl
  | f + 1, t, k => by
    unfold walkM
    split
    · rfl
    · dsimp only; rw [walk_tlen L N f]; simp
theorem walk_len (L : List (Pt × Pt)) (N : List Nat) : ∀ (f : Nat) (t : List Bool) (k : Nat), (walkM L N f t k).1.length ≤ f
  | 0, _, _ => by simp [walkM]
  | f + 1, t, k => by
    unfold walkM
    split
    · simp
    · have ih := walk_len L N f (t.set k true) (N.getD k 0)
      dsimp only
      rw [List.length_append]
      split
      · rw [List.length_singleton]; omega
      · rw [List.length_nil]; omega
theorem edg_good {L : List (Pt × Pt)} (h : GdE L) (j : Nat) : Gd (edg L j).1 ∧ Gd (edg L j).2 := by
  by_cases hj : j < L.length
  · exact h j hj
  · have e : edg L j = (zP, zP) := by unfold edg; rw [List.getD_eq_getElem?_getD, List.getElem?_eq_none (by omega)]; rfl
    have z : Gd zP := ⟨⟨by decide, by decide⟩, ⟨by decide, by decide⟩, ⟨by decide, by decide⟩⟩
    rw [e]; exact ⟨z, z⟩
theorem walk_good {L : List (Pt × Pt)} (h : GdE L) (N : List Nat) : ∀ (f : Nat) (t : List Bool) (k : Nat), ∀ p ∈ (walkM L N f t k).1, Gd p
  | 0, _, _, p, hp => by simp [walkM] at hp
  | f + 1, t, k, p, hp => by
    unfold walkM at hp
    split at hp
    · simp at hp
    · rcases List.mem_append.1 hp with hp | hp
      · split at hp
        · rw [List.mem_singleton.1 hp]; exact (edg_good h k).2
        · simp at hp
      · exact walk_good h N f _ _ p hp
theorem insL_mem {R : List (List Pt)} {r q : List Pt} (h : q ∈ insL R r) : q = r ∨ q ∈ R := by
  unfold insL at h
  rcases List.mem_append.1 h with h | h
  · exact .inr (List.mem_of_mem_take h)
  · rcases List.mem_cons.1 h with h | h
    · exact .inl h
    · exact .inr (List.mem_of_mem_drop h)
theorem insL_len (R : List (List Pt)) (r : List Pt) : (insL R r).length = R.length + 1 := by
  have := place_le R r R.length
  unfold insL; simp; omega
theorem rings_good {L : List (Pt × Pt)} (h : GdE L) : ∀ i, ∀ q ∈ (ringsN L i).1, ∀ p ∈ q, Gd p
  | 0, q, hq, _, _ => by simp [ringsN] at hq
  | i + 1, q, hq, p, hp => by
    have e : (ringsN L (i + 1)).1 = if (walkM L (nextsM L) (L.length + 1) (ringsN L i).2 i).1.length > 0 then insL (ringsN L i).1 (leastL (walkM L (nextsM L) (L.length + 1) (ringsN L i).2 i).1 (walkM L (nextsM L) (L.length + 1) (ringsN L i).2 i).1.length) else (ringsN L i).1 := rfl
    rw [e] at hq
    split at hq
    · rcases insL_mem hq with hq | hq
      · rw [hq] at hp
        exact walk_good h _ _ _ _ p (least_mem _ hp)
      · exact rings_good h i q hq p hp
    · exact rings_good h i q hq p hp
theorem rings_len (L : List (Pt × Pt)) : ∀ i, (ringsN L i).1.length ≤ i
  | 0 => by simp [ringsN]
  | i + 1 => by
    have ih := rings_len L i
    have e : (ringsN L (i + 1)).1 = if (walkM L (nextsM L) (L.length + 1) (ringsN L i).2 i).1.length > 0 then insL (ringsN L i).1 (leastL (walkM L (nextsM L) (L.length + 1) (ringsN L i).2 i).1 (walkM L (nextsM L) (L.length + 1) (ringsN L i).2 i).1.length) else (ringsN L i).1 := rfl
    rw [e]
    split
    · rw [insL_len]; omega
    · omega
theorem rings_tlen (L : List (Pt × Pt)) : ∀ i, (ringsN L i).2.length = L.length
  | 0 => by simp [ringsN]
  | i + 1 => by
    have e : (ringsN L (i + 1)).2 = (walkM L (nextsM L) (L.length + 1) (ringsN L i).2 i).2 := rfl
    rw [e, walk_tlen]; exact rings_tlen L i
theorem Kp.then {X Y : Nat → Prop} {a b c : World} (h : Kp X a b) (k : Kp Y b c) (hy : ∀ x, x < a.heap.size → Y x → X x) : Kp X a c :=
  ⟨k.os.trans h.os, k.tape.trans h.tape, k.output.trans h.output, Nat.le_trans h.size k.size, fun x hx hn => (k.block x (Nat.lt_of_lt_of_le hx h.size) (fun e => hn (hy x hx e))).trans (h.block x hx hn)⟩
theorem OwnR.kp {w w' : World} {base : Nat} {v : Value} {R : List (List Pt)} {vs : List Value} {X : Nat → Prop} (h : OwnR w base v R vs) (k : Kp X w w') (hx : ∀ b, base ≤ b → b < w.heap.size → ¬ X b) : OwnR w' base v R vs :=
  ⟨h.len, Kp.own h.row k (fun b e => hx b (h.row.lt b e).1 (h.row.lt b e).2), fun j hj => Kp.own (h.each j hj) k (fun b e => hx b ((h.each j hj).lt b e).1 ((h.each j hj).lt b e).2), h.apart, h.small⟩
theorem OwnR.mono {w : World} {base base' : Nat} {v : Value} {R : List (List Pt)} {vs : List Value} (h : OwnR w base v R vs) (hb : base' ≤ base) : OwnR w base' v R vs :=
  ⟨h.len, own_mono h.row hb, fun j hj => own_mono (h.each j hj) hb, h.apart, h.small⟩
theorem OwnR.nil (w : World) (base : Nat) : OwnR w base (.slice none 0 0) [] [] :=
  ⟨rfl, World.ownsRow_nil _ _ _ _, fun j hj => by simp at hj, fun j k g _ hk => by simp at hk, fun j hj => by simp at hj⟩
theorem OwnR.lt {w : World} {base : Nat} {v : Value} {R : List (List Pt)} {vs : List Value} (h : OwnR w base v R vs) (j g : Nat) (hj : j < R.length) (e : (vs.getD j nilV).ownBlock = some g) : base ≤ g ∧ g < w.heap.size := (h.each j hj).lt g e
theorem SegAt.kp {w w' : World} {X : Nat → Prop} {b o : Nat} {e : Pt × Pt} (h : SegAt w b o e) (k : Kp X w w') (hx : ¬ X b) : SegAt w' b o e :=
  ⟨k.cellOf h.c0 hx, k.cellOf h.c1 hx, k.cellOf h.c2 hx, k.cellOf h.c3 hx, k.cellOf h.c4 hx, k.cellOf h.c5 hx⟩
end Go.Proofs.Ytnkcbephceollab
