import Derived.Test.YtkmapffhfmgfeaaGreatQH4
import Derived.Deep.DrawnRows
namespace Go.Proofs.YtkmapffhfmgfeaaGreat
open Go.RowKit
attribute [local go_sem ↓] Go.wp_at_zero Go.wp_at_succ
set_option linter.unusedSimpArgs false
set_option linter.unusedVariables false

theorem infoRings : (Tryz.prog.info? 57).map (fun i => (i.zero, i.size, i.bytes)) = some (some (.slice none 0 0), 1, 24) := by kernel_rfl
theorem infoPts : (Tryz.prog.info? 31).map (fun i => (i.zero, i.size, i.bytes)) = some (some (.agg #[.int .i64 0, .int .i64 0, .int .i64 0]), 3, 24) := by kernel_rfl
theorem infoPcs : (Tryz.prog.info? 55).map (fun i => (i.zero, i.size, i.bytes)) = some (some (.agg #[.int .i64 0, .int .i64 0, .int .i64 0, .int .i64 0, .int .i64 0, .int .i64 0, .bool false, .bool false, .bool false, .bool false]), 10, 56) := by kernel_rfl
theorem infoNums : (Tryz.prog.info? 3).map (fun i => (i.zero, i.size, i.bytes)) = some (some (.int .i64 0), 1, 8) := by kernel_rfl

/-- The new row lies where the old one lay, or in a new block. -/
def Near (w : World) (v v' : Value) : Prop := v'.ownBlock = v.ownBlock ∨ ∃ k, v'.ownBlock = some k ∧ w.heap.size + 2 ≤ k

/-- Rows may grow behind their ends; all else stays. -/
structure Lg (w w' : World) (rv pv cv nv : Value) (nr np nc nn : Nat) : Prop where
  kp : Kp (fun b => rv.ownBlock = some b ∨ pv.ownBlock = some b ∨ cv.ownBlock = some b ∨ nv.ownBlock = some b) w w'
  cell : ∀ b o u, w.cell? ⟨b, o, none⟩ = some u → (rv.ownBlock = some b → o < nr) → (pv.ownBlock = some b → o < np * 3) → (cv.ownBlock = some b → o < nc * 10) → (nv.ownBlock = some b → o < nn) → w'.cell? ⟨b, o, none⟩ = some u

/-- One append, then its store: W1 is W with new blocks, w1 is behind the append. -/
structure Stp (W w1 : World) (v v' : Value) (n s : Nat) : Prop where
  kp : Kp (fun b => v.ownBlock = some b) W w1
  cell : ∀ b o u, W.cell? ⟨b, o, none⟩ = some u → (v.ownBlock = some b → o < n * s) → w1.cell? ⟨b, o, none⟩ = some u
theorem stp_of {W W1 w1 : World} {base : Nat} {e : TypeId} {s n H gg cp : Nat} {v : Value} {xs news : List Value} (k : Below W.heap.size W W1) (hown : W.ownsRow base e s v n xs)
    (h1 : w1.ownsRow base e s (.slice (some ⟨gg, 0, none⟩) (n + 1) cp) (n + 1) (xs ++ news)) (hg : W1.grownBy w1 v.ownBlock) (hat : v.ownBlock = some gg ∨ (gg = H ∧ W1.grownBy w1 none)) : Stp W w1 v (.slice (some ⟨gg, 0, none⟩) (n + 1) cp) n s := by
  refine ⟨(Kp.of k).grown hg (fun q hq => hq), fun b o u hc hf => ?_⟩
  have hlt := World.block_lt_of_cell? W ⟨b, o, none⟩ hc
  have hc1 : W1.cell? ⟨b, o, none⟩ = some u := (k.cell (p := ⟨b, o, none⟩) hlt).trans hc
  by_cases hb : v.ownBlock = some b
  · rcases hat with hat | ⟨_, hat⟩
    · have e1 : gg = b := by rw [hat] at hb; exact Option.some.inj hb
      subst e1
      have ho := hf hb
      have hc2 := own_cell hown gg hb o ho
      rw [hc] at hc2
      rw [own_cell h1 gg rfl o (by rw [Nat.add_mul]; omega), List.getElem?_append_left (by rw [hown.1]; exact ho), ← hc2]
    · exact hat.cell hc1 (by simp)
  · exact hg.cell hc1 (fun e => hb e.symm)

theorem far_set (W : World) (p o b i : Nat) (u : Value) (h : b ≠ p) : (W.setCell ⟨p, o, none⟩ u).cell? ⟨b, i, none⟩ = W.cell? ⟨b, i, none⟩ := World.cell?_of_block (Below.heap_setCell W ⟨p, o, none⟩ u b h)
theorem far1 (W : World) (b o : Nat) (o1 : Obj) (hb : b < W.heap.size) : (W.alloc o1).drew.cell? ⟨b, o, none⟩ = W.cell? ⟨b, o, none⟩ := World.cell?_alloc_past (w := W) o1 b o hb
theorem far1' (W : World) (b o : Nat) (o1 : Obj) (hb : b < W.heap.size) : (W.alloc o1).cell? ⟨b, o, none⟩ = W.cell? ⟨b, o, none⟩ := World.cell?_alloc_past (w := W) o1 b o hb
theorem far2 (W : World) (b o : Nat) (o1 o2 : Obj) (hb : b < W.heap.size) : ((W.alloc o1).alloc o2).drew.cell? ⟨b, o, none⟩ = W.cell? ⟨b, o, none⟩ := (World.cell?_alloc_past (w := W.alloc o1) o2 b o (by simp; omega)).trans (World.cell?_alloc_past (w := W) o1 b o hb)
theorem heap_new3 (w : World) (o1 o2 o3 : Obj) : (((w.alloc o1).alloc o2).alloc o3).drew.heap[w.heap.size + 1 + 1]? = some o3 := by
  have := heap_alloc_new ((w.alloc o1).alloc o2) o3
  have e : ((w.alloc o1).alloc o2).heap.size = w.heap.size + 1 + 1 := by simp
  rw [e] at this
  exact this
/-- Another block behind an append. -/
theorem Blk.grown {W w1 : World} {b : Nat} {vs : Array Value} {row : Option Nat} (h : Blk W b vs) (hg : W.grownBy w1 row) (hne : row ≠ some b) : Blk w1 b vs :=
  ⟨fun o => (hg.cell_far ⟨b, o, none⟩ h.lt (Ne.symm hne)).trans (h.cell o), fun o => (hg.frozen_far ⟨b, o, none⟩ h.lt (Ne.symm hne)).trans (h.free o), Nat.lt_of_lt_of_le h.lt hg.size⟩

/-- In the midst of 'longer': w at its head, W now; g: the new hold. -/
structure Mid (w W : World) (vs : Array Value) (rv pv cv nv : Value) (nr np nc nn : Nat) : Prop where
  lg : Lg w W rv pv cv nv nr np nc nn
  gb : Blk W w.heap.size vs
  sz : w.heap.size + 1 ≤ W.heap.size
theorem Mid.step {w W W1 w1 : World} {base : Nat} {e : TypeId} {s n H gg cp : Nat} {v : Value} {xs news : List Value} {vs : Array Value} {rv pv cv nv : Value} {nr np nc nn : Nat} (M : Mid w W vs rv pv cv nv nr np nc nn) (k : Below W.heap.size W W1) (hown : W.ownsRow base e s v n xs)
    (h1 : w1.ownsRow base e s (.slice (some ⟨gg, 0, none⟩) (n + 1) cp) (n + 1) (xs ++ news)) (hg : W1.grownBy w1 v.ownBlock) (hat : v.ownBlock = some gg ∨ (gg = H ∧ W1.grownBy w1 none))
    (hv : (v = rv ∧ n * s = nr) ∨ (v = pv ∧ n * s = np * 3) ∨ (v = cv ∧ n * s = nc * 10) ∨ (v = nv ∧ n * s = nn)) (hne : v.ownBlock ≠ some w.heap.size) (i : Nat) (hi : i < vs.size) (x : Value) :
    Mid w (w1.setCell ⟨w.heap.size, i, none⟩ x) (vs.setIfInBounds i x) rv pv cv nv nr np nc nn := by
  have S := stp_of k hown h1 hg hat
  refine ⟨⟨?_, ?_⟩, ?_, ?_⟩
  · refine Kp.setCell (M.lg.kp.trans (S.kp.weaken fun b hb e => ?_)) (fun e => absurd e (Nat.lt_irrefl _)) x
    rcases hv with ⟨rfl, _⟩ | ⟨rfl, _⟩ | ⟨rfl, _⟩ | ⟨rfl, _⟩
    · exact .inl e
    · exact .inr (.inl e)
    · exact .inr (.inr (.inl e))
    · exact .inr (.inr (.inr e))
  · intro b o u hc f0 f1 f2 f3
    have hlt : b < w.heap.size := World.block_lt_of_cell? w ⟨b, o, none⟩ hc
    rw [far_set _ _ _ _ _ _ (by omega)]
    refine S.cell b o u (M.lg.cell b o u hc f0 f1 f2 f3) (fun e => ?_)
    rcases hv with ⟨rfl, q⟩ | ⟨rfl, q⟩ | ⟨rfl, q⟩ | ⟨rfl, q⟩
    · rw [q]; exact f0 e
    · rw [q]; exact f1 e
    · rw [q]; exact f2 e
    · rw [q]; exact f3 e
  · exact (((M.gb.call k).grown hg hne)).set i hi x
  · have := S.kp.size
    have := M.sz
    simp; omega
theorem own_step {W W1 w1 : World} {base base' : Nat} {e e' : TypeId} {s n s' n' g i : Nat} {v v' x : Value} {xs xs' : List Value} (h : W.ownsRow base' e' s' v' n' xs') (k : Below W.heap.size W W1) (hown : W.ownsRow base e s v n xs) (he : e' ≠ e) (hg : W1.grownBy w1 v.ownBlock) (hne : v'.ownBlock ≠ some g) :
    (w1.setCell ⟨g, i, none⟩ x).ownsRow base' e' s' v' n' xs' := by
  refine ownsRow_setCell_other ?_ hne x
  have h1 : W1.ownsRow base' e' s' v' n' xs' := h.kept (row := none) ⟨k.os, k.tape, k.output, k.size, fun b hb _ => k.block b hb⟩ (by cases v'.ownBlock <;> simp)
  refine h1.kept hg ?_
  cases hb : v'.ownBlock with
  | none => exact .inl rfl
  | some b => exact .inr (fun e => own_apart h hown he b hb e.symm)
theorem pt_step {W W1 w1 : World} {g i b o : Nat} {row : Option Nat} {x : Value} {p : Pt} (h : PtAt W b o p) (k : Below W.heap.size W W1) (hg : W1.grownBy w1 row) (h1 : row ≠ some b) (h2 : b ≠ g) : PtAt (w1.setCell ⟨g, i, none⟩ x) b o p := by
  have hlt : b < W.heap.size := World.block_lt_of_cell? W ⟨b, o, none⟩ h.x
  have e : ∀ q u, W.cell? ⟨b, q, none⟩ = some u → (w1.setCell ⟨g, i, none⟩ x).cell? ⟨b, q, none⟩ = some u := fun q u hc => by
    rw [far_set _ _ _ _ _ _ h2]
    exact hg.cell ((k.cell (p := ⟨b, q, none⟩) hlt).trans hc) (Ne.symm h1)
  exact ⟨e _ _ h.x, e _ _ h.y, e _ _ h.d⟩
theorem near_of {w : World} {v : Value} {gg H n cp : Nat} {q : Prop} (hat : v.ownBlock = some gg ∨ (gg = H ∧ q)) (hH : w.heap.size + 2 ≤ H) : Near w v (.slice (some ⟨gg, 0, none⟩) n cp) := by
  rcases hat with h | ⟨rfl, _⟩
  · exact .inl h.symm
  · exact .inr ⟨gg, rfl, hH⟩
theorem near_ne {w : World} {v v' : Value} {g : Nat} (h : Near w v v') (hg : g ≤ w.heap.size + 1) (hv : v.ownBlock ≠ some g) : v'.ownBlock ≠ some g := by
  rcases h with h | ⟨k, h, hk⟩
  · rw [h]; exact hv
  · rw [h]; intro e; have := Option.some.inj e; omega

/-- The four rows in the midst of 'longer'. -/
structure St4 (w W : World) (base : Nat) (m : Int) (vs : Array Value) (rv pv cv nv : Value) (nr np nc nn : Nat) (x0 x1 x2 x3 : Value) (n0 n1 n2 n3 : Nat) (rs : List Nat) : Prop where
  mid : Mid w W vs rv pv cv nv nr np nc nn
  rl : rs.length = n0
  ro : W.ownsRow base 57 1 x0 n0 (rs.map fun g => .slice (some ⟨g, 0, none⟩) 1 1)
  rp : ∀ g ∈ rs, PtAt W g 0 ⟨m, 0, 0⟩
  po : W.ownsRow base 31 3 x1 n1 (rep n1 (ptMk m))
  co : W.ownsRow base 55 10 x2 n2 (rep n2 (pcMk m))
  no : W.ownsRow base 3 1 x3 n3 (rep n3 [.int .i64 m])
  a0 : Near w rv x0
  a1 : Near w pv x1
  a2 : Near w cv x2
  a3 : Near w nv x3
  rn : ∀ g ∈ rs, g ≤ w.heap.size + 1 ∧ g ≠ w.heap.size ∧ rv.ownBlock ≠ some g ∧ pv.ownBlock ≠ some g ∧ cv.ownBlock ≠ some g ∧ nv.ownBlock ≠ some g
  h0 : rv.ownBlock ≠ some w.heap.size
  h1 : pv.ownBlock ≠ some w.heap.size
  h2 : cv.ownBlock ≠ some w.heap.size
  h3 : nv.ownBlock ≠ some w.heap.size
theorem St4.fam {w W : World} {base : Nat} {m : Int} {vs : Array Value} {rv pv cv nv : Value} {nr np nc nn : Nat} {x0 x1 x2 x3 : Value} {n0 n1 n2 n3 : Nat} {rs : List Nat} (h : St4 w W base m vs rv pv cv nv nr np nc nn x0 x1 x2 x3 n0 n1 n2 n3 rs) : Fam W base m x0 x1 x2 x3 n0 n1 n2 n3 rs :=
  ⟨h.rl, h.ro, h.rp, h.po, h.co, h.no, fun g hg => by
    obtain ⟨e, _, f0, f1, f2, f3⟩ := h.rn g hg
    exact ⟨near_ne h.a0 e f0, near_ne h.a1 e f1, near_ne h.a2 e f2, near_ne h.a3 e f3⟩⟩
theorem st4_start {w : World} {base : Nat} {m : Int} {rv pv cv nv : Value} {nr np nc nn : Nat} {rs : List Nat} (f : Fam w base m rv pv cv nv nr np nc nn rs) (vs : Array Value) (t : TypeId) :
    St4 w (w.alloc (.cells vs t)) base m vs rv pv cv nv nr np nc nn rv pv cv nv nr np nc nn rs := by
  have hb := (Below.refl w.heap.size w).alloc (Nat.le_refl _) (.cells vs t)
  have hlt : ∀ g ∈ rs, g < w.heap.size := fun g hg => World.block_lt_of_cell? w ⟨g, 0, none⟩ (f.rp g hg).x
  refine ⟨⟨⟨Kp.of hb, fun b o u hc _ _ _ _ => (hb.cell (p := ⟨b, o, none⟩) (World.block_lt_of_cell? w ⟨b, o, none⟩ hc)).trans hc⟩, Blk.new w vs t, by simp⟩, f.rl, f.ro.alloc _, fun g hg => (f.rp g hg).later hb (hlt g hg), f.po.alloc _, f.co.alloc _, f.no.alloc _, .inl rfl, .inl rfl, .inl rfl, .inl rfl, fun g hg => ?_, ?_, ?_, ?_, ?_⟩
  · have := hlt g hg
    exact ⟨by omega, by omega, f.rn g hg⟩
  · intro e; have := (f.ro.lt _ e).2; omega
  · intro e; have := (f.po.lt _ e).2; omega
  · intro e; have := (f.co.lt _ e).2; omega
  · intro e; have := (f.no.lt _ e).2; omega
section
variable {w W w1 : World} {base : Nat} {m : Int} {vs : Array Value} {rv pv cv nv : Value} {nr np nc nn : Nat} {x0 x1 x2 x3 : Value} {n0 n1 n2 n3 : Nat} {rs : List Nat} {gg cp : Nat}
theorem St4.ring (h : St4 w W base m vs rv pv cv nv nr np nc nn rv x1 x2 x3 nr n1 n2 n3 rs) (hs : 0 < vs.size) (eW : W.heap.size = w.heap.size + 1) (hq : rv.ownBlock ≠ some (w.heap.size + 1) ∧ pv.ownBlock ≠ some (w.heap.size + 1) ∧ cv.ownBlock ≠ some (w.heap.size + 1) ∧ nv.ownBlock ≠ some (w.heap.size + 1))
    (o1 : w1.ownsRow base 57 1 (.slice (some ⟨gg, 0, none⟩) (nr + 1) cp) (nr + 1) ((rs.map fun g => .slice (some ⟨g, 0, none⟩) 1 1) ++ [.slice (some ⟨w.heap.size + 1, 0, none⟩) 1 1]))
    (hg : ((W.alloc (.cells #[.int .i64 m, .int .i64 0, .int .i64 0] 31)).alloc (.cells #[.slice (some ⟨w.heap.size + 1, 0, none⟩) 1 1] 57)).drew.grownBy w1 rv.ownBlock)
    (hat : rv.ownBlock = some gg ∨ (gg = w.heap.size + 1 + 1 + 1 ∧ ((W.alloc (.cells #[.int .i64 m, .int .i64 0, .int .i64 0] 31)).alloc (.cells #[.slice (some ⟨w.heap.size + 1, 0, none⟩) 1 1] 57)).drew.grownBy w1 none)) :
    St4 w (w1.setCell ⟨w.heap.size, 0, none⟩ (.slice (some ⟨gg, 0, none⟩) (nr + 1) cp)) base m (vs.setIfInBounds 0 (.slice (some ⟨gg, 0, none⟩) (nr + 1) cp)) rv pv cv nv nr np nc nn (.slice (some ⟨gg, 0, none⟩) (nr + 1) cp) x1 x2 x3 (nr + 1) n1 n2 n3 (rs ++ [w.heap.size + 1]) := by
  have k : Below W.heap.size W ((W.alloc (.cells #[.int .i64 m, .int .i64 0, .int .i64 0] 31)).alloc (.cells #[.slice (some ⟨w.heap.size + 1, 0, none⟩) 1 1] 57)).drew := (((Below.refl _ _).alloc (Nat.le_refl _) _).alloc (by simp) _).drew
  have nr0 : Near w rv (.slice (some ⟨gg, 0, none⟩) (nr + 1) cp) := near_of hat (by omega)
  have ng : (Value.slice (some ⟨gg, 0, none⟩) (nr + 1) cp).ownBlock ≠ some w.heap.size := near_ne nr0 (by omega) h.h0
  refine ⟨h.mid.step k h.ro o1 hg hat (.inl ⟨rfl, by omega⟩) h.h0 0 hs _, by simp [h.rl], by rw [List.map_append]; exact ownsRow_setCell_other o1 ng _, fun g hgm => ?_, own_step h.po k h.ro (by decide) hg (near_ne h.a1 (by omega) h.h1), own_step h.co k h.ro (by decide) hg (near_ne h.a2 (by omega) h.h2), own_step h.no k h.ro (by decide) hg (near_ne h.a3 (by omega) h.h3), nr0, h.a1, h.a2, h.a3, fun g hgm => ?_, h.h0, h.h1, h.h2, h.h3⟩
  · rcases List.mem_append.1 hgm with hgm | hgm
    · obtain ⟨_, e1, e2, _⟩ := h.rn g hgm
      exact pt_step (h.rp g hgm) k hg e2 e1
    · have e := List.mem_singleton.1 hgm
      subst e
      have b0 : Blk ((W.alloc (.cells #[.int .i64 m, .int .i64 0, .int .i64 0] 31)).alloc (.cells #[.slice (some ⟨w.heap.size + 1, 0, none⟩) 1 1] 57)).drew (w.heap.size + 1) #[.int .i64 m, .int .i64 0, .int .i64 0] := ((Blk.at (w.heap.size + 1) eW.symm).alloc _).drew
      have b1 := (b0.grown hg hq.1).off (p := w.heap.size) (by omega) 0 (.slice (some ⟨gg, 0, none⟩) (nr + 1) cp)
      exact ⟨b1.cell 0, b1.cell 1, b1.cell 2⟩
  · rcases List.mem_append.1 hgm with hgm | hgm
    · exact h.rn g hgm
    · have e := List.mem_singleton.1 hgm
      subst e
      exact ⟨by omega, by omega, hq⟩
theorem St4.pts {o : Obj} (h : St4 w W base m vs rv pv cv nv nr np nc nn x0 pv x2 x3 n0 np n2 n3 rs) (hs : 1 < vs.size)
    (o1 : w1.ownsRow base 31 3 (.slice (some ⟨gg, 0, none⟩) (np + 1) cp) (np + 1) (rep np (ptMk m) ++ ptMk m)) (hg : (W.alloc o).drew.grownBy w1 pv.ownBlock)
    (hat : pv.ownBlock = some gg ∨ (gg = W.heap.size + 1 ∧ (W.alloc o).drew.grownBy w1 none)) :
    St4 w (w1.setCell ⟨w.heap.size, 1, none⟩ (.slice (some ⟨gg, 0, none⟩) (np + 1) cp)) base m (vs.setIfInBounds 1 (.slice (some ⟨gg, 0, none⟩) (np + 1) cp)) rv pv cv nv nr np nc nn x0 (.slice (some ⟨gg, 0, none⟩) (np + 1) cp) x2 x3 n0 (np + 1) n2 n3 rs := by
  have k : Below W.heap.size W (W.alloc o).drew := ((Below.refl _ _).alloc (Nat.le_refl _) _).drew
  have sz := h.mid.sz
  have nr0 : Near w pv (.slice (some ⟨gg, 0, none⟩) (np + 1) cp) := near_of hat (by omega)
  have ng : (Value.slice (some ⟨gg, 0, none⟩) (np + 1) cp).ownBlock ≠ some w.heap.size := near_ne nr0 (by omega) h.h1
  exact ⟨h.mid.step k h.po o1 hg hat (.inr (.inl ⟨rfl, rfl⟩)) h.h1 1 hs _, h.rl, own_step h.ro k h.po (by decide) hg (near_ne h.a0 (by omega) h.h0), fun g hgm => by
    obtain ⟨_, e1, _, e2, _⟩ := h.rn g hgm
    exact pt_step (h.rp g hgm) k hg e2 e1, by rw [rep_succ]; exact ownsRow_setCell_other o1 ng _, own_step h.co k h.po (by decide) hg (near_ne h.a2 (by omega) h.h2), own_step h.no k h.po (by decide) hg (near_ne h.a3 (by omega) h.h3), h.a0, nr0, h.a2, h.a3, h.rn, h.h0, h.h1, h.h2, h.h3⟩
theorem St4.pcs {o : Obj} (h : St4 w W base m vs rv pv cv nv nr np nc nn x0 x1 cv x3 n0 n1 nc n3 rs) (hs : 2 < vs.size)
    (o1 : w1.ownsRow base 55 10 (.slice (some ⟨gg, 0, none⟩) (nc + 1) cp) (nc + 1) (rep nc (pcMk m) ++ pcMk m)) (hg : (W.alloc o).drew.grownBy w1 cv.ownBlock)
    (hat : cv.ownBlock = some gg ∨ (gg = W.heap.size + 1 ∧ (W.alloc o).drew.grownBy w1 none)) :
    St4 w (w1.setCell ⟨w.heap.size, 2, none⟩ (.slice (some ⟨gg, 0, none⟩) (nc + 1) cp)) base m (vs.setIfInBounds 2 (.slice (some ⟨gg, 0, none⟩) (nc + 1) cp)) rv pv cv nv nr np nc nn x0 x1 (.slice (some ⟨gg, 0, none⟩) (nc + 1) cp) x3 n0 n1 (nc + 1) n3 rs := by
  have k : Below W.heap.size W (W.alloc o).drew := ((Below.refl _ _).alloc (Nat.le_refl _) _).drew
  have sz := h.mid.sz
  have nr0 : Near w cv (.slice (some ⟨gg, 0, none⟩) (nc + 1) cp) := near_of hat (by omega)
  have ng : (Value.slice (some ⟨gg, 0, none⟩) (nc + 1) cp).ownBlock ≠ some w.heap.size := near_ne nr0 (by omega) h.h2
  exact ⟨h.mid.step k h.co o1 hg hat (.inr (.inr (.inl ⟨rfl, rfl⟩))) h.h2 2 hs _, h.rl, own_step h.ro k h.co (by decide) hg (near_ne h.a0 (by omega) h.h0), fun g hgm => by
    obtain ⟨_, e1, _, _, e2, _⟩ := h.rn g hgm
    exact pt_step (h.rp g hgm) k hg e2 e1, own_step h.po k h.co (by decide) hg (near_ne h.a1 (by omega) h.h1), by rw [rep_succ]; exact ownsRow_setCell_other o1 ng _, own_step h.no k h.co (by decide) hg (near_ne h.a3 (by omega) h.h3), h.a0, h.a1, nr0, h.a3, h.rn, h.h0, h.h1, h.h2, h.h3⟩
theorem St4.nums {o : Obj} (h : St4 w W base m vs rv pv cv nv nr np nc nn x0 x1 x2 nv n0 n1 n2 nn rs) (hs : 3 < vs.size)
    (o1 : w1.ownsRow base 3 1 (.slice (some ⟨gg, 0, none⟩) (nn + 1) cp) (nn + 1) (rep nn [.int .i64 m] ++ [.int .i64 m])) (hg : (W.alloc o).drew.grownBy w1 nv.ownBlock)
    (hat : nv.ownBlock = some gg ∨ (gg = W.heap.size + 1 ∧ (W.alloc o).drew.grownBy w1 none)) :
    St4 w (w1.setCell ⟨w.heap.size, 3, none⟩ (.slice (some ⟨gg, 0, none⟩) (nn + 1) cp)) base m (vs.setIfInBounds 3 (.slice (some ⟨gg, 0, none⟩) (nn + 1) cp)) rv pv cv nv nr np nc nn x0 x1 x2 (.slice (some ⟨gg, 0, none⟩) (nn + 1) cp) n0 n1 n2 (nn + 1) rs := by
  have k : Below W.heap.size W (W.alloc o).drew := ((Below.refl _ _).alloc (Nat.le_refl _) _).drew
  have sz := h.mid.sz
  have nr0 : Near w nv (.slice (some ⟨gg, 0, none⟩) (nn + 1) cp) := near_of hat (by omega)
  have ng : (Value.slice (some ⟨gg, 0, none⟩) (nn + 1) cp).ownBlock ≠ some w.heap.size := near_ne nr0 (by omega) h.h3
  exact ⟨h.mid.step k h.no o1 hg hat (.inr (.inr (.inr ⟨rfl, by omega⟩))) h.h3 3 hs _, h.rl, own_step h.ro k h.no (by decide) hg (near_ne h.a0 (by omega) h.h0), fun g hgm => by
    obtain ⟨_, e1, _, _, _, e2⟩ := h.rn g hgm
    exact pt_step (h.rp g hgm) k hg e2 e1, own_step h.po k h.no (by decide) hg (near_ne h.a1 (by omega) h.h1), own_step h.co k h.no (by decide) hg (near_ne h.a2 (by omega) h.h2), by rw [rep_succ]; exact ownsRow_setCell_other o1 ng _, h.a0, h.a1, h.a2, nr0, h.rn, h.h0, h.h1, h.h2, h.h3⟩
end

set_option maxRecDepth 100000 in
set_option maxHeartbeats 4000000 in
theorem longer_any (base h : Nat) (m : Int) (rv pv cv nv : Value) (nr np nc nn : Nat) (rs : List Nat) (w : World) (hbase : base ≤ w.heap.size)
    (c0 : w.cell? ⟨h, 0, none⟩ = some rv) (c1 : w.cell? ⟨h, 1, none⟩ = some pv) (c2 : w.cell? ⟨h, 2, none⟩ = some cv) (c3 : w.cell? ⟨h, 3, none⟩ = some nv) (c4 : w.cell? ⟨h, 4, none⟩ = some (.int .i64 m))
    (hr : rv.ownBlock ≠ some h) (hp : pv.ownBlock ≠ some h) (hc : cv.ownBlock ≠ some h) (hn : nv.ownBlock ≠ some h)
    (br : nr ≤ 2000000) (bp : np ≤ 2000000) (bc : nc ≤ 2000000) (bn : nn ≤ 2000000)
    (f : Fam w base m rv pv cv nv nr np nc nn rs) :
    Calls Tryz.prog 55 #[.pointer (some ⟨h, 0, none⟩)] w fun e w' => ∃ rv' pv' cv' nv', e = .returned (.pointer (some ⟨w.heap.size, 0, none⟩)) ∧ Blk w' w.heap.size #[rv', pv', cv', nv', .int .i64 m] ∧
      Fam w' base m rv' pv' cv' nv' (nr + 1) (np + 1) (nc + 1) (nn + 1) (rs ++ [w.heap.size + 1]) ∧ Near w rv rv' ∧ Near w pv pv' ∧ Near w cv cv' ∧ Near w nv nv' ∧ Lg w w' rv pv cv nv nr np nc nn := by
  obtain ⟨i0, hi0, hz0, hz1, hz2⟩ := info_parts infoRings
  obtain ⟨i1, hi1, hy0, hy1, hy2⟩ := info_parts infoPts
  obtain ⟨i2, hi2, hx0, hx1, hx2⟩ := info_parts infoPcs
  obtain ⟨i3, hi3, hw0, hw1, hw2⟩ := info_parts infoNums
  have hlt := World.block_lt_of_cell? w ⟨h, 0, none⟩ c0
  have hlt' : h < w.heap.size := hlt
  have hlt1 : h < w.heap.size + 1 := by omega
  have hlt2 : h < w.heap.size + 1 + 1 := by omega
  have hlg2 : w.heap.size < w.heap.size + 1 + 1 := by omega
  have mx1 : nr + 1 ≤ maxLen := by unfold maxLen; omega
  have mx2 : np + 1 ≤ maxLen := by unfold maxLen; omega
  have mx3 : nc + 1 ≤ maxLen := by unfold maxLen; omega
  have mx4 : nn + 1 ≤ maxLen := by unfold maxLen; omega
  have by1 : (nr + 1) * 24 ≤ 140737488355328 := by omega
  have by2 : (np + 1) * 24 ≤ 140737488355328 := by omega
  have by3 : (nc + 1) * 56 ≤ 140737488355328 := by omega
  have by4 : (nn + 1) * 8 ≤ 140737488355328 := by omega
  have hrl : ∀ k, rv.ownBlock = some k → k < w.heap.size := fun k e => (f.ro.lt k e).2
  have FF := hide f
  have hro := f.ro
  clear f
  go_enter Tryz.func55, Tryz.ntmps55
  go_wp2_with fail
  have hne1 : rv.ownBlock ≠ some w.heap.size := fun e => by have := hrl _ e; omega
  have hneh : h ≠ w.heap.size := by omega
  have hblk := Blk.new w #[.slice none 0 0, .slice none 0 0, .slice none 0 0, .slice none 0 0, .int .i64 m] 60
  go_region_held3 (fun w' => w'.cell? ⟨h, 0, none⟩ = some rv ∧ w'.cell? ⟨h, 4, none⟩ = some (.int .i64 m))
    (first
      | exact ⟨(far2 _ h 0 _ _ (by simp; omega)).trans ((far1' w h 0 _ hlt').trans c0), (far2 _ h 4 _ _ (by simp; omega)).trans ((far1' w h 4 _ hlt').trans c4)⟩
      | (go_split_ands
         refine ⟨?_, ?_⟩
         · (rw [hgrow.cell_far _ (by simp; omega) (Ne.symm hr)]; assumption)
         · (rw [hgrow.cell_far _ (by simp; omega) (Ne.symm hr)]; assumption))
      | (go_split_ands
         refine ⟨(far_set _ _ _ _ _ _ hneh).trans ?_, (far_set _ _ _ _ _ _ hneh).trans ?_⟩ <;> assumption)
      | go_keep)
    ((refine step_append_stay _ (by rfl) _ _ _ (by rfl) base 57 i0 _ 1 24 Tryz.underlying29 hi0 hz0 hz1 hz2 rfl (by omega) rv nr _ (by rfl) ((((hro.alloc _).alloc _).alloc _).drew) ⟨w.heap.size + 1 + 1, 0, none⟩ 1 1 [.slice (some ⟨w.heap.size + 1, 0, none⟩) 1 1] (by rfl) (by rfl) (World.news_of_block (cs := #[.slice (some ⟨w.heap.size + 1, 0, none⟩) 1 1]) (t := 57) (fr := (0, 0)) (heap_new3 w _ _ _)) (by simp [Value.oneCell']) (by omega) mx1 by1 (by simp; omega) (w.heap.size + 1 + 1 + 1) (by simp) ?_; intro gg cp w1 hown1 hgrow hat hlt1
      have hgb := (((hblk.alloc _).alloc _).drew).grown hgrow hne1
      have hg0 := hgb.cell 0
      simp at hg0
      have hf0 := hgb.free 0))
  obtain ⟨W2, hW2⟩ : ∃ W, W = w1.setCell ⟨w.heap.size, 0, none⟩ (.slice (some ⟨gg, 0, none⟩) (nr + 1) cp) := ⟨_, rfl⟩
  rw [← hW2]
  have hqs : rv.ownBlock ≠ some (w.heap.size + 1) ∧ pv.ownBlock ≠ some (w.heap.size + 1) ∧ cv.ownBlock ≠ some (w.heap.size + 1) ∧ nv.ownBlock ≠ some (w.heap.size + 1) :=
    ⟨fun e => by have := (FF.out.ro.lt _ e).2; omega, fun e => by have := (FF.out.po.lt _ e).2; omega, fun e => by have := (FF.out.co.lt _ e).2; omega, fun e => by have := (FF.out.no.lt _ e).2; omega⟩
  have S1 := (st4_start FF.out #[.slice none 0 0, .slice none 0 0, .slice none 0 0, .slice none 0 0, .int .i64 m] 60).ring (by simp) (by simp) hqs hown1 hgrow hat
  rw [← hW2] at S1
  clear hW2
  clear hblk hgb hg0 hf0 hown1 hgrow hat hlt1 hro hrl
  generalize (Value.slice (some ⟨gg, 0, none⟩) (nr + 1) cp) = y0 at *
  have hsz1 := S1.mid.sz
  have d1 := S1.mid.lg.cell
  have e1a := d1 h 1 _ c1 (fun e => absurd e hr) (fun e => absurd e hp) (fun e => absurd e hc) (fun e => absurd e hn)
  have e1b := d1 h 4 _ c4 (fun e => absurd e hr) (fun e => absurd e hp) (fun e => absurd e hc) (fun e => absurd e hn)
  have hl1 : h < W2.heap.size := by omega
  have own1 := S1.po
  have hne1 : pv.ownBlock ≠ some w.heap.size := S1.h1
  have blk1 := S1.mid.gb
  have SS1 := hide S1
  clear S1 d1
  go_wp2_with fail
  go_region_held3 (fun w' => w'.cell? ⟨h, 1, none⟩ = some pv ∧ w'.cell? ⟨h, 4, none⟩ = some (.int .i64 m))
    (first
      | exact ⟨(far1 _ h 1 _ hl1).trans e1a, (far1 _ h 4 _ hl1).trans e1b⟩
      | exact ⟨(far1' _ h 1 _ hl1).trans e1a, (far1' _ h 4 _ hl1).trans e1b⟩
      | exact ⟨e1a, e1b⟩
      | (go_split_ands
         refine ⟨?_, ?_⟩
         · (rw [hgrow.cell_far _ (by simp; omega) (Ne.symm hp)]; assumption)
         · (rw [hgrow.cell_far _ (by simp; omega) (Ne.symm hp)]; assumption))
      | (go_split_ands
         refine ⟨(far_set _ _ _ _ _ _ hneh).trans ?_, (far_set _ _ _ _ _ _ hneh).trans ?_⟩ <;> assumption)
      | go_keep)
    ((refine step_append_stay _ (by rfl) _ _ _ (by rfl) base 31 i1 _ 3 24 Tryz.underlying57 hi1 hy0 hy1 hy2 rfl (by omega) pv np _ (by rfl) ((own1.alloc _).drew) ⟨W2.heap.size, 0, none⟩ 1 1 (ptMk m) (by rfl) (by rfl) (World.news_of_block (cs := (ptMk m).toArray) (t := 31) (fr := (0, 0)) (heap_alloc_new W2 _)) (by simp [Value.oneCell']) (by omega) mx2 by2 (by simp; omega) (W2.heap.size + 1) (by simp) ?_; intro gg cp w1 hown1 hgrow hat hlt1
      have hgb := ((blk1.alloc _).drew).grown hgrow hne1
      have hg0 := hgb.cell 1
      simp at hg0
      have hf0 := hgb.free 1))
  obtain ⟨W3, hW3⟩ : ∃ W, W = w1.setCell ⟨w.heap.size, 1, none⟩ (.slice (some ⟨gg, 0, none⟩) (np + 1) cp) := ⟨_, rfl⟩
  rw [← hW3]
  have S2 := SS1.out.pts (by simp) hown1 hgrow hat
  rw [← hW3] at S2
  clear hW3
  clear blk1 own1 e1a e1b hgb hg0 hf0 hown1 hgrow hat hlt1
  generalize (Value.slice (some ⟨gg, 0, none⟩) (np + 1) cp) = y1 at *
  have hsz2 := S2.mid.sz
  have d2 := S2.mid.lg.cell
  have e2a := d2 h 2 _ c2 (fun e => absurd e hr) (fun e => absurd e hp) (fun e => absurd e hc) (fun e => absurd e hn)
  have e2b := d2 h 4 _ c4 (fun e => absurd e hr) (fun e => absurd e hp) (fun e => absurd e hc) (fun e => absurd e hn)
  have hl2 : h < W3.heap.size := by omega
  have own2 := S2.co
  have hne2 : cv.ownBlock ≠ some w.heap.size := S2.h2
  have blk2 := S2.mid.gb
  have SS2 := hide S2
  clear S2 d2
  go_wp2_with fail
  go_region_held3 (fun w' => w'.cell? ⟨h, 2, none⟩ = some cv ∧ w'.cell? ⟨h, 4, none⟩ = some (.int .i64 m))
    (first
      | exact ⟨(far1 _ h 2 _ hl2).trans e2a, (far1 _ h 4 _ hl2).trans e2b⟩
      | exact ⟨(far1' _ h 2 _ hl2).trans e2a, (far1' _ h 4 _ hl2).trans e2b⟩
      | exact ⟨e2a, e2b⟩
      | (go_split_ands
         refine ⟨?_, ?_⟩
         · (rw [hgrow.cell_far _ (by simp; omega) (Ne.symm hc)]; assumption)
         · (rw [hgrow.cell_far _ (by simp; omega) (Ne.symm hc)]; assumption))
      | (go_split_ands
         refine ⟨(far_set _ _ _ _ _ _ hneh).trans ?_, (far_set _ _ _ _ _ _ hneh).trans ?_⟩ <;> assumption)
      | go_keep)
    ((refine step_append_stay _ (by rfl) _ _ _ (by rfl) base 55 i2 _ 10 56 Tryz.underlying51 hi2 hx0 hx1 hx2 rfl (by omega) cv nc _ (by rfl) ((own2.alloc _).drew) ⟨W3.heap.size, 0, none⟩ 1 1 (pcMk m) (by rfl) (by rfl) (World.news_of_block (cs := (pcMk m).toArray) (t := 55) (fr := (0, 0)) (heap_alloc_new W3 _)) (by simp [Value.oneCell']) (by omega) mx3 by3 (by simp; omega) (W3.heap.size + 1) (by simp) ?_; intro gg cp w1 hown1 hgrow hat hlt1
      have hgb := ((blk2.alloc _).drew).grown hgrow hne2
      have hg0 := hgb.cell 2
      simp at hg0
      have hf0 := hgb.free 2))
  obtain ⟨W4, hW4⟩ : ∃ W, W = w1.setCell ⟨w.heap.size, 2, none⟩ (.slice (some ⟨gg, 0, none⟩) (nc + 1) cp) := ⟨_, rfl⟩
  rw [← hW4]
  have S3 := SS2.out.pcs (by simp) hown1 hgrow hat
  rw [← hW4] at S3
  clear hW4
  clear blk2 own2 e2a e2b hgb hg0 hf0 hown1 hgrow hat hlt1
  generalize (Value.slice (some ⟨gg, 0, none⟩) (nc + 1) cp) = y2 at *
  have hsz3 := S3.mid.sz
  have d3 := S3.mid.lg.cell
  have e3a := d3 h 3 _ c3 (fun e => absurd e hr) (fun e => absurd e hp) (fun e => absurd e hc) (fun e => absurd e hn)
  have e3b := d3 h 4 _ c4 (fun e => absurd e hr) (fun e => absurd e hp) (fun e => absurd e hc) (fun e => absurd e hn)
  have hl3 : h < W4.heap.size := by omega
  have own3 := S3.no
  have hne3 : nv.ownBlock ≠ some w.heap.size := S3.h3
  have blk3 := S3.mid.gb
  have SS3 := hide S3
  clear S3 d3
  go_wp2_with fail
  go_region_held3 (fun w' => w'.cell? ⟨h, 3, none⟩ = some nv ∧ w'.cell? ⟨h, 4, none⟩ = some (.int .i64 m))
    (first
      | exact ⟨(far1 _ h 3 _ hl3).trans e3a, (far1 _ h 4 _ hl3).trans e3b⟩
      | exact ⟨(far1' _ h 3 _ hl3).trans e3a, (far1' _ h 4 _ hl3).trans e3b⟩
      | exact ⟨e3a, e3b⟩
      | (go_split_ands
         refine ⟨?_, ?_⟩
         · (rw [hgrow.cell_far _ (by simp; omega) (Ne.symm hn)]; assumption)
         · (rw [hgrow.cell_far _ (by simp; omega) (Ne.symm hn)]; assumption))
      | (go_split_ands
         refine ⟨(far_set _ _ _ _ _ _ hneh).trans ?_, (far_set _ _ _ _ _ _ hneh).trans ?_⟩ <;> assumption)
      | go_keep)
    ((refine step_append_stay _ (by rfl) _ _ _ (by rfl) base 3 i3 _ 1 8 Tryz.underlying58 hi3 hw0 hw1 hw2 rfl (by omega) nv nn _ (by rfl) ((own3.alloc _).drew) ⟨W4.heap.size, 0, none⟩ 1 1 ([Value.int .i64 m]) (by rfl) (by rfl) (World.news_of_block (cs := ([Value.int .i64 m]).toArray) (t := 3) (fr := (0, 0)) (heap_alloc_new W4 _)) (by simp [Value.oneCell']) (by omega) mx4 by4 (by simp; omega) (W4.heap.size + 1) (by simp) ?_; intro gg cp w1 hown1 hgrow hat hlt1
      have hgb := ((blk3.alloc _).drew).grown hgrow hne3
      have hg0 := hgb.cell 3
      simp at hg0
      have hf0 := hgb.free 3))
  obtain ⟨W5, hW5⟩ : ∃ W, W = w1.setCell ⟨w.heap.size, 3, none⟩ (.slice (some ⟨gg, 0, none⟩) (nn + 1) cp) := ⟨_, rfl⟩
  rw [← hW5]
  have S4 := SS3.out.nums (by simp) hown1 hgrow hat
  rw [← hW5] at S4
  clear hW5
  clear blk3 own3 e3a e3b hgb hg0 hf0 hown1 hgrow hat hlt1
  generalize (Value.slice (some ⟨gg, 0, none⟩) (nn + 1) cp) = y3 at *
  go_wp2
  go_ret
  refine ⟨y0, y1, y2, y3, rfl, ?_, S4.fam, S4.a0, S4.a1, S4.a2, S4.a3, S4.mid.lg⟩
  simpa using S4.mid.gb
end Go.Proofs.YtkmapffhfmgfeaaGreat
namespace Go.Proofs.YtkmapffhfmgfeaaGreat
open Go.RowKit
set_option linter.unusedSimpArgs false
set_option linter.unusedVariables false

/-- Cells that neither the world's own block nor its row of holds bear. -/
def FX (G : Nat → Nat → Prop) (wb : Nat) (hv : Value) (b o : Nat) : Prop := G b o ∧ b ≠ wb ∧ hv.ownBlock ≠ some b
/-- Cells outside of X, and outside of the room behind four rows. -/
def GX (X : Nat → Prop) (rv pv cv nv : Value) (nr np nc nn : Nat) (b o : Nat) : Prop :=
  ¬ X b ∧ (rv.ownBlock = some b → o < nr) ∧ (pv.ownBlock = some b → o < np * 3) ∧ (cv.ownBlock = some b → o < nc * 10) ∧ (nv.ownBlock = some b → o < nn)

/-- The world of holds: its one cell, the row of the holds, and that each hold reads as it was marked. -/
structure Wld (w : World) (base wb : Nat) (hv : Value) (L : List Nat) (F : Nat → Nat → Prop) : Prop where
  blk : Blk w wb #[hv]
  own : w.ownsRow base 36 1 hv L.length (L.map fun h => .pointer (some ⟨h, 0, none⟩))
  lt : wb < base
  all : ∀ h ∈ L, ∃ m rv pv cv nv, HoldMk w F h m rv pv cv nv

theorem Wld.weaken {w : World} {base wb : Nat} {hv : Value} {L : List Nat} {F F' : Nat → Nat → Prop} (h : Wld w base wb hv L F) (e : ∀ b o u, F b o → w.cell? ⟨b, o, none⟩ = some u → F' b o) : Wld w base wb hv L F' :=
  ⟨h.blk, h.own, h.lt, fun g hg => by
    obtain ⟨m, rv, pv, cv, nv, k⟩ := h.all g hg
    exact ⟨m, rv, pv, cv, nv, k.later fun b o u f c => ⟨c, e b o u f c⟩⟩⟩
theorem Wld.wbrow {w : World} {base wb : Nat} {hv : Value} {L : List Nat} {F : Nat → Nat → Prop} (h : Wld w base wb hv L F) : hv.ownBlock ≠ some wb := fun e => by
  have := (h.own.lt _ e).1
  have := h.lt
  omega
theorem Kp.blk {X : Nat → Prop} {w w' : World} {b : Nat} {vs : Array Value} (h : Blk w b vs) (k : Kp X w w') (hx : ¬ X b) : Blk w' b vs :=
  have e := k.block b h.lt hx
  ⟨fun o => (World.cell?_of_block (w := w) (a := ⟨b, o, none⟩) e).trans (h.cell o), fun o => (World.frozen?_of_block (w := w) (a := ⟨b, o, none⟩) e).trans (h.free o), Nat.lt_of_lt_of_le h.lt k.size⟩
theorem Kp.own {X : Nat → Prop} {w w' : World} {base : Nat} {e : TypeId} {s n : Nat} {v : Value} {xs : List Value} (h : w.ownsRow base e s v n xs) (k : Kp X w w') (hx : ∀ b, v.ownBlock = some b → ¬ X b) : w'.ownsRow base e s v n xs := by
  refine ⟨h.1, ?_⟩
  rcases h.2 with hn | ⟨g, cap, cur, rfl, hb, hgg, rest⟩
  · exact .inl hn
  · refine .inr ⟨g, cap, cur, rfl, hb, ?_, rest⟩
    rw [k.block g (Array.getElem?_eq_some_iff.1 hgg).1 (hx g rfl)]
    exact hgg
/-- Nothing of the world's is touched. -/
theorem Wld.kp {w w' : World} {base wb : Nat} {hv : Value} {L : List Nat} {F F' : Nat → Nat → Prop} {X : Nat → Prop} (h : Wld w base wb hv L F) (k : Kp X w w') (h1 : ¬ X wb) (h2 : ∀ b, hv.ownBlock = some b → ¬ X b) (e : ∀ b o u, F b o → w.cell? ⟨b, o, none⟩ = some u → w'.cell? ⟨b, o, none⟩ = some u ∧ F' b o) : Wld w' base wb hv L F' :=
  ⟨Kp.blk h.blk k h1, Kp.own h.own k h2, h.lt, fun g hg => by
    obtain ⟨m, rv, pv, cv, nv, q⟩ := h.all g hg
    exact ⟨m, rv, pv, cv, nv, q.later e⟩⟩
theorem Kp.cellOf {X : Nat → Prop} {w w' : World} {b o : Nat} {u : Value} (k : Kp X w w') (hc : w.cell? ⟨b, o, none⟩ = some u) (hx : ¬ X b) : w'.cell? ⟨b, o, none⟩ = some u :=
  (World.cell?_of_block (w := w) (a := ⟨b, o, none⟩) (k.block b (World.block_lt_of_cell? w ⟨b, o, none⟩ hc) hx)).trans hc

/-- A row that is the old one, or of a new block. -/
def Fresh (w : World) (v0 v : Value) : Prop := v.ownBlock = v0.ownBlock ∨ ∃ k, v.ownBlock = some k ∧ w.heap.size ≤ k
theorem Fresh.refl (w : World) (v : Value) : Fresh w v v := .inl rfl
theorem Fresh.old {w : World} {v0 v : Value} {b : Nat} (h : Fresh w v0 v) (hb : b < w.heap.size) (e : v.ownBlock = some b) : v0.ownBlock = some b := by
  rcases h with h | ⟨k, h, hk⟩
  · rw [← h]; exact e
  · rw [h] at e; have := Option.some.inj e; omega
theorem Fresh.trans {w w' : World} {v0 v v' : Value} (h : Fresh w v0 v) (k : Fresh w' v v') (hs : w.heap.size ≤ w'.heap.size) : Fresh w v0 v' := by
  rcases k with k | ⟨q, k, hq⟩
  · rcases h with h | ⟨p, h, hp⟩
    · exact .inl (k.trans h)
    · exact .inr ⟨p, k.trans h, hp⟩
  · exact .inr ⟨q, k, by omega⟩
theorem Near.fresh {w : World} {v v' : Value} (h : Near w v v') : Fresh w v v' := by
  rcases h with h | ⟨k, h, hk⟩
  · exact .inl h
  · exact .inr ⟨k, h, by omega⟩

/-- In the midst of 'keep': the newest hold g, its rows. -/
structure KeepSt (w : World) (base wb : Nat) (hv : Value) (L : List Nat) (X : Nat → Prop) (g : Nat) (m : Int) (rv pv cv nv : Value) (nr np nc nn : Nat) (rs : List Nat) : Prop where
  wld : Wld w base wb hv L (FX (GX X rv pv cv nv nr np nc nn) wb hv)
  fam : Fam w base m rv pv cv nv nr np nc nn rs
  gb : Blk w g #[rv, pv, cv, nv, .int .i64 m]
  hold : HoldMk w (FX (GX X rv pv cv nv nr np nc nn) wb hv) g m rv pv cv nv
  g0 : rv.ownBlock ≠ some g
  g1 : pv.ownBlock ≠ some g
  g2 : cv.ownBlock ≠ some g
  g3 : nv.ownBlock ≠ some g
  gh : hv.ownBlock ≠ some g
  gw : g ≠ wb
  xr : ∀ b, (rv.ownBlock = some b ∨ pv.ownBlock = some b ∨ cv.ownBlock = some b ∨ nv.ownBlock = some b) → ¬ X b
  ok : ∀ q ∈ rs, ¬ X q ∧ q ≠ wb ∧ hv.ownBlock ≠ some q
  sz : base ≤ w.heap.size

theorem row_apart {w : World} {base wb : Nat} {hv : Value} {L : List Nat} {F : Nat → Nat → Prop} {m : Int} {rv pv cv nv : Value} {nr np nc nn : Nat} {rs : List Nat} (W : Wld w base wb hv L F) (f : Fam w base m rv pv cv nv nr np nc nn rs) (b : Nat)
    (hb : rv.ownBlock = some b ∨ pv.ownBlock = some b ∨ cv.ownBlock = some b ∨ nv.ownBlock = some b) : hv.ownBlock ≠ some b ∧ b ≠ wb ∧ b < w.heap.size := by
  have hl := W.lt
  rcases hb with h | h | h | h
  · exact ⟨own_apart f.ro W.own (by decide) b h, by have := (f.ro.lt b h).1; omega, (f.ro.lt b h).2⟩
  · exact ⟨own_apart f.po W.own (by decide) b h, by have := (f.po.lt b h).1; omega, (f.po.lt b h).2⟩
  · exact ⟨own_apart f.co W.own (by decide) b h, by have := (f.co.lt b h).1; omega, (f.co.lt b h).2⟩
  · exact ⟨own_apart f.no W.own (by decide) b h, by have := (f.no.lt b h).1; omega, (f.no.lt b h).2⟩

/-- A hold out of its rows, in the world of holds. -/
theorem hold_of {w : World} {base wb : Nat} {hv : Value} {L : List Nat} {F : Nat → Nat → Prop} {X : Nat → Prop} {g : Nat} {m : Int} {rv pv cv nv : Value} {nr np nc nn : Nat} {rs : List Nat} (W : Wld w base wb hv L F) (f : Fam w base m rv pv cv nv nr np nc nn rs) (gb : Blk w g #[rv, pv, cv, nv, .int .i64 m])
    (g0 : rv.ownBlock ≠ some g) (g1 : pv.ownBlock ≠ some g) (g2 : cv.ownBlock ≠ some g) (g3 : nv.ownBlock ≠ some g) (gh : hv.ownBlock ≠ some g) (gw : g ≠ wb) (gx : ¬ X g)
    (xr : ∀ b, (rv.ownBlock = some b ∨ pv.ownBlock = some b ∨ cv.ownBlock = some b ∨ nv.ownBlock = some b) → ¬ X b) (ok : ∀ q ∈ rs, ¬ X q ∧ q ≠ wb ∧ hv.ownBlock ≠ some q) :
    HoldMk w (FX (GX X rv pv cv nv nr np nc nn) wb hv) g m rv pv cv nv := by
  refine f.mk' (gb.cell 0) (gb.cell 1) (gb.cell 2) (gb.cell 3) (gb.cell 4) ?_ ?_ ?_ ?_ ?_ ?_
  · exact fun o _ => ⟨⟨gx, fun e => absurd e g0, fun e => absurd e g1, fun e => absurd e g2, fun e => absurd e g3⟩, gw, gh⟩
  · intro b o hb ho
    obtain ⟨a1, a2, _⟩ := row_apart W f b (.inl hb)
    exact ⟨⟨xr b (.inl hb), fun _ => ho, fun e => absurd e (own_apart f.ro f.po (by decide) b hb), fun e => absurd e (own_apart f.ro f.co (by decide) b hb), fun e => absurd e (own_apart f.ro f.no (by decide) b hb)⟩, a2, a1⟩
  · intro q hq o
    obtain ⟨o1, o2, o3⟩ := ok q hq
    obtain ⟨e0, e1, e2, e3⟩ := f.rn q hq
    exact ⟨⟨o1, fun e => absurd e e0, fun e => absurd e e1, fun e => absurd e e2, fun e => absurd e e3⟩, o2, o3⟩
  · intro b o hb ho
    obtain ⟨a1, a2, _⟩ := row_apart W f b (.inr (.inl hb))
    exact ⟨⟨xr b (.inr (.inl hb)), fun e => absurd e (own_apart f.po f.ro (by decide) b hb), fun _ => ho, fun e => absurd e (own_apart f.po f.co (by decide) b hb), fun e => absurd e (own_apart f.po f.no (by decide) b hb)⟩, a2, a1⟩
  · intro b o hb ho
    obtain ⟨a1, a2, _⟩ := row_apart W f b (.inr (.inr (.inl hb)))
    exact ⟨⟨xr b (.inr (.inr (.inl hb))), fun e => absurd e (own_apart f.co f.ro (by decide) b hb), fun e => absurd e (own_apart f.co f.po (by decide) b hb), fun _ => ho, fun e => absurd e (own_apart f.co f.no (by decide) b hb)⟩, a2, a1⟩
  · intro b o hb ho
    obtain ⟨a1, a2, _⟩ := row_apart W f b (.inr (.inr (.inr hb)))
    exact ⟨⟨xr b (.inr (.inr (.inr hb))), fun e => absurd e (own_apart f.no f.ro (by decide) b hb), fun e => absurd e (own_apart f.no f.po (by decide) b hb), fun e => absurd e (own_apart f.no f.co (by decide) b hb), fun _ => ho⟩, a2, a1⟩

section
variable {w w' w1 : World} {base wb : Nat} {hv : Value} {L : List Nat} {X : Nat → Prop} {g : Nat} {m : Int} {rv pv cv nv : Value} {nr np nc nn : Nat} {rs : List Nat}
/-- Behind 'longer'. -/
theorem KeepSt.long {rv' pv' cv' nv' : Value} (h : KeepSt w base wb hv L X g m rv pv cv nv nr np nc nn rs) (hX : ∀ b, X b → b < w.heap.size)
    (gb : Blk w' w.heap.size #[rv', pv', cv', nv', .int .i64 m]) (f : Fam w' base m rv' pv' cv' nv' (nr + 1) (np + 1) (nc + 1) (nn + 1) (rs ++ [w.heap.size + 1]))
    (a0 : Near w rv rv') (a1 : Near w pv pv') (a2 : Near w cv cv') (a3 : Near w nv nv') (lg : Lg w w' rv pv cv nv nr np nc nn) :
    KeepSt w' base wb hv L X w.heap.size m rv' pv' cv' nv' (nr + 1) (np + 1) (nc + 1) (nn + 1) (rs ++ [w.heap.size + 1]) := by
  have sz := lg.kp.size
  have ra := row_apart h.wld h.fam
  have wl : wb < w.heap.size := h.wld.blk.lt
  have W' : Wld w' base wb hv L (FX (GX X rv' pv' cv' nv' (nr + 1) (np + 1) (nc + 1) (nn + 1)) wb hv) := by
    refine h.wld.kp lg.kp (fun e => (ra wb e).2.1 rfl) (fun b hb e => (ra b e).1 hb) (fun b o u ⟨⟨x, f0, f1, f2, f3⟩, k1, k2⟩ hc => ⟨lg.cell b o u hc f0 f1 f2 f3, ⟨x, fun e => ?_, fun e => ?_, fun e => ?_, fun e => ?_⟩, k1, k2⟩)
    · have := f0 (a0.fresh.old (World.block_lt_of_cell? w ⟨b, o, none⟩ hc) e); omega
    · have := f1 (a1.fresh.old (World.block_lt_of_cell? w ⟨b, o, none⟩ hc) e); omega
    · have := f2 (a2.fresh.old (World.block_lt_of_cell? w ⟨b, o, none⟩ hc) e); omega
    · have := f3 (a3.fresh.old (World.block_lt_of_cell? w ⟨b, o, none⟩ hc) e); omega
  have e0 : rv'.ownBlock ≠ some w.heap.size := near_ne a0 (by omega) (fun e => by have := (ra _ (.inl e)).2.2; omega)
  have e1 : pv'.ownBlock ≠ some w.heap.size := near_ne a1 (by omega) (fun e => by have := (ra _ (.inr (.inl e))).2.2; omega)
  have e2 : cv'.ownBlock ≠ some w.heap.size := near_ne a2 (by omega) (fun e => by have := (ra _ (.inr (.inr (.inl e)))).2.2; omega)
  have e3 : nv'.ownBlock ≠ some w.heap.size := near_ne a3 (by omega) (fun e => by have := (ra _ (.inr (.inr (.inr e)))).2.2; omega)
  have eh : hv.ownBlock ≠ some w.heap.size := fun e => by have := (h.wld.own.lt _ e).2; omega
  have xr' : ∀ b, (rv'.ownBlock = some b ∨ pv'.ownBlock = some b ∨ cv'.ownBlock = some b ∨ nv'.ownBlock = some b) → ¬ X b := by
    intro b hb hx
    have hl := hX b hx
    refine h.xr b ?_ hx
    rcases hb with e | e | e | e
    · exact .inl (a0.fresh.old hl e)
    · exact .inr (.inl (a1.fresh.old hl e))
    · exact .inr (.inr (.inl (a2.fresh.old hl e)))
    · exact .inr (.inr (.inr (a3.fresh.old hl e)))
  have ok' : ∀ q ∈ rs ++ [w.heap.size + 1], ¬ X q ∧ q ≠ wb ∧ hv.ownBlock ≠ some q := by
    intro q hq
    rcases List.mem_append.1 hq with hq | hq
    · exact h.ok q hq
    · have e := List.mem_singleton.1 hq
      subst e
      exact ⟨fun hx => by have := hX _ hx; omega, by omega, fun e => by have := (h.wld.own.lt _ e).2; omega⟩
  exact ⟨W', f, gb, hold_of W' f gb e0 e1 e2 e3 eh (by omega) (fun hx => by have := hX _ hx; omega) xr' ok', e0, e1, e2, e3, eh, by omega, xr', ok', by have := h.sz; omega⟩

/-- Behind the append of the newest hold. -/
theorem KeepSt.push {W1 : World} {gg cp H : Nat} (h : KeepSt w base wb hv L X g m rv pv cv nv nr np nc nn rs) (k : Below w.heap.size w W1)
    (o1 : w1.ownsRow base 36 1 (.slice (some ⟨gg, 0, none⟩) (L.length + 1) cp) (L.length + 1) ((L.map fun h => .pointer (some ⟨h, 0, none⟩)) ++ [.pointer (some ⟨g, 0, none⟩)]))
    (hg : W1.grownBy w1 hv.ownBlock) (hat : hv.ownBlock = some gg ∨ gg = H) (hH : w.heap.size ≤ H) :
    KeepSt (w1.setCell ⟨wb, 0, none⟩ (.slice (some ⟨gg, 0, none⟩) (L.length + 1) cp)) base wb (.slice (some ⟨gg, 0, none⟩) (L.length + 1) cp) (L ++ [g]) X g m rv pv cv nv nr np nc nn rs ∧
      Kp (fun b => b = wb ∨ hv.ownBlock = some b) w (w1.setCell ⟨wb, 0, none⟩ (.slice (some ⟨gg, 0, none⟩) (L.length + 1) cp)) ∧ Fresh w hv (.slice (some ⟨gg, 0, none⟩) (L.length + 1) cp) := by
  have fr : Fresh w hv (.slice (some ⟨gg, 0, none⟩) (L.length + 1) cp) := by
    rcases hat with e | e
    · exact .inl e.symm
    · exact .inr ⟨gg, rfl, by omega⟩
  have wr := h.wld.wbrow
  have wl : wb < w.heap.size := h.wld.blk.lt
  have kp : Kp (fun b => b = wb ∨ hv.ownBlock = some b) w (w1.setCell ⟨wb, 0, none⟩ (.slice (some ⟨gg, 0, none⟩) (L.length + 1) cp)) :=
    ((Kp.of k).grown hg (fun q hq => .inr hq)).setCell (fun _ => .inl rfl) _
  have ra := row_apart h.wld h.fam
  have ne : ∀ b, (rv.ownBlock = some b ∨ pv.ownBlock = some b ∨ cv.ownBlock = some b ∨ nv.ownBlock = some b) → ¬ (b = wb ∨ hv.ownBlock = some b) := fun b hb e => by
    rcases e with e | e
    · exact (ra b hb).2.1 e
    · exact (ra b hb).1 e
  have st : ∀ b o u, FX (GX X rv pv cv nv nr np nc nn) wb hv b o → w.cell? ⟨b, o, none⟩ = some u → (w1.setCell ⟨wb, 0, none⟩ (.slice (some ⟨gg, 0, none⟩) (L.length + 1) cp)).cell? ⟨b, o, none⟩ = some u ∧ FX (GX X rv pv cv nv nr np nc nn) wb (.slice (some ⟨gg, 0, none⟩) (L.length + 1) cp) b o := fun b o u ⟨f, k1, k2⟩ hc =>
    ⟨kp.cellOf hc (fun e => by rcases e with e | e; exact k1 e; exact k2 e), f, k1, fun e => k2 (fr.old (World.block_lt_of_cell? w ⟨b, o, none⟩ hc) e)⟩
  have ggw : gg ≠ wb := by
    rcases hat with e | e
    · intro x; subst x; exact wr e
    · omega
  have hold' := h.hold.later st
  have fm : Fam (w1.setCell ⟨wb, 0, none⟩ (.slice (some ⟨gg, 0, none⟩) (L.length + 1) cp)) base m rv pv cv nv nr np nc nn rs :=
    ⟨h.fam.rl, Kp.own h.fam.ro kp (fun b e => ne b (.inl e)), fun q hq => by
      obtain ⟨o1, o2, o3⟩ := h.ok q hq
      have e : ¬ (q = wb ∨ hv.ownBlock = some q) := fun e => by rcases e with e | e; exact o2 e; exact o3 e
      have p := h.fam.rp q hq
      exact ⟨kp.cellOf p.x e, kp.cellOf p.y e, kp.cellOf p.d e⟩, Kp.own h.fam.po kp (fun b e => ne b (.inr (.inl e))), Kp.own h.fam.co kp (fun b e => ne b (.inr (.inr (.inl e)))), Kp.own h.fam.no kp (fun b e => ne b (.inr (.inr (.inr e)))), h.fam.rn⟩
  refine ⟨⟨⟨?_, ?_, h.wld.lt, ?_⟩, fm, Kp.blk h.gb kp (fun e => by rcases e with e | e; exact h.gw e; exact h.gh e), hold', h.g0, h.g1, h.g2, h.g3, fun e => h.gh (fr.old h.gb.lt e), h.gw, h.xr, fun q hq => ?_, ?_⟩, kp, fr⟩
  · exact (((h.wld.blk.call k).grown hg wr)).set 0 (by simp) _
  · rw [List.length_append, List.map_append]
    exact ownsRow_setCell_other (a := ⟨wb, 0, none⟩) o1 (fun e => ggw (Option.some.inj e)) _
  · intro q hq
    rcases List.mem_append.1 hq with hq | hq
    · obtain ⟨m', r', p', c', n', hk⟩ := h.wld.all q hq
      exact ⟨m', r', p', c', n', hk.later st⟩
    · have e := List.mem_singleton.1 hq
      subst e
      exact ⟨m, rv, pv, cv, nv, hold'⟩
  · obtain ⟨o1, o2, o3⟩ := h.ok q hq
    exact ⟨o1, o2, fun e => o3 (fr.old (World.block_lt_of_cell? w ⟨q, 0, none⟩ (h.fam.rp q hq).x) e)⟩
  · have := h.sz
    have := kp.size
    omega
end
end Go.Proofs.YtkmapffhfmgfeaaGreat
namespace Go.Proofs.YtkmapffhfmgfeaaGreat
open Go.RowKit
set_option linter.unusedSimpArgs false
set_option linter.unusedVariables false

theorem infoHoldp : (Tryz.prog.info? 36).map (fun i => (i.zero, i.size, i.bytes)) = some (some (.pointer none), 1, 8) := by kernel_rfl

/-- What 'keep' may write to. -/
def KX (wb h : Nat) (hv rv pv cv nv : Value) (b : Nat) : Prop := b = wb ∨ hv.ownBlock = some b ∨ b = h ∨ rv.ownBlock = some b ∨ pv.ownBlock = some b ∨ cv.ownBlock = some b ∨ nv.ownBlock = some b
/-- The rows now, and at the head of 'keep'. -/
structure Frs (w : World) (hv rv pv cv nv hv' rv' pv' cv' nv' : Value) : Prop where
  h : Fresh w hv hv'
  r : Fresh w rv rv'
  p : Fresh w pv pv'
  c : Fresh w cv cv'
  n : Fresh w nv nv'
theorem kx_push {w W W' : World} {wb h : Nat} {hv rv pv cv nv hv' rv' pv' cv' nv' : Value} (k : Kp (KX wb h hv rv pv cv nv) w W) (f : Frs w hv rv pv cv nv hv' rv' pv' cv' nv') (q : Kp (fun b => b = wb ∨ hv'.ownBlock = some b) W W') : Kp (KX wb h hv rv pv cv nv) w W' :=
  ⟨q.os.trans k.os, q.tape.trans k.tape, q.output.trans k.output, Nat.le_trans k.size q.size, fun x hx hn => (q.block x (Nat.lt_of_lt_of_le hx k.size) (fun e => hn (by
    rcases e with e | e
    · exact .inl e
    · exact .inr (.inl (f.h.old hx e))))).trans (k.block x hx hn)⟩
theorem kx_long {w W W' : World} {wb h : Nat} {hv rv pv cv nv hv' rv' pv' cv' nv' : Value} (k : Kp (KX wb h hv rv pv cv nv) w W) (f : Frs w hv rv pv cv nv hv' rv' pv' cv' nv') (q : Kp (fun b => rv'.ownBlock = some b ∨ pv'.ownBlock = some b ∨ cv'.ownBlock = some b ∨ nv'.ownBlock = some b) W W') : Kp (KX wb h hv rv pv cv nv) w W' :=
  ⟨q.os.trans k.os, q.tape.trans k.tape, q.output.trans k.output, Nat.le_trans k.size q.size, fun x hx hn => (q.block x (Nat.lt_of_lt_of_le hx k.size) (fun e => hn (by
    rcases e with e | e | e | e
    · exact .inr (.inr (.inr (.inl (f.r.old hx e))))
    · exact .inr (.inr (.inr (.inr (.inl (f.p.old hx e)))))
    · exact .inr (.inr (.inr (.inr (.inr (.inl (f.c.old hx e))))))
    · exact .inr (.inr (.inr (.inr (.inr (.inr (f.n.old hx e)))))) ))).trans (k.block x hx hn)⟩

theorem keep_start {w w2 : World} {base wb h : Nat} {hv : Value} {L : List Nat} {X : Nat → Prop} {rv pv cv nv : Value} {nr np nc nn : Nat} {m0 m : Int} {rs : List Nat} (hX : ∀ b, X b → b < w.heap.size)
    (hW : Wld w base wb hv L (FX (fun b _ => ¬ X b ∧ b ≠ h ∧ rv.ownBlock ≠ some b ∧ pv.ownBlock ≠ some b ∧ cv.ownBlock ≠ some b ∧ nv.ownBlock ≠ some b) wb hv))
    (hb : Blk w h #[rv, pv, cv, nv, .int .i64 m0]) (hh : h ≠ wb) (hhv : hv.ownBlock ≠ some h) (hhx : ¬ X h) (h0 : rv.ownBlock ≠ some h) (h1 : pv.ownBlock ≠ some h) (h2 : cv.ownBlock ≠ some h) (h3 : nv.ownBlock ≠ some h)
    (xr : ∀ b, (rv.ownBlock = some b ∨ pv.ownBlock = some b ∨ cv.ownBlock = some b ∨ nv.ownBlock = some b) → ¬ X b ∧ hv.ownBlock ≠ some b ∧ b ≠ wb) (hbase : base ≤ w.heap.size)
    (f : Fam w2 base m rv pv cv nv nr np nc nn rs) (hrs : ∀ q ∈ rs, w.heap.size ≤ q) (k : Kp (fun b => rv.ownBlock = some b ∨ pv.ownBlock = some b ∨ cv.ownBlock = some b ∨ nv.ownBlock = some b) (w.setCell ⟨h, 4, none⟩ (.int .i64 m)) w2) :
    KeepSt w2 base wb hv L X h m rv pv cv nv nr np nc nn rs ∧ Kp (KX wb h hv rv pv cv nv) w w2 := by
  have k1 : Kp (fun b => b = h ∨ rv.ownBlock = some b ∨ pv.ownBlock = some b ∨ cv.ownBlock = some b ∨ nv.ownBlock = some b) w w2 :=
    ((Kp.refl _ _).setCell (p := ⟨h, 4, none⟩) (fun _ => .inl rfl) (.int .i64 m)).trans (k.weaken fun b _ e => .inr e)
  have sz := k1.size
  have gb : Blk w2 h #[rv, pv, cv, nv, .int .i64 m] := Kp.blk (hb.set 4 (by simp) (.int .i64 m)) k (fun e => by
    rcases e with e | e | e | e
    · exact h0 e
    · exact h1 e
    · exact h2 e
    · exact h3 e)
  have W2 : Wld w2 base wb hv L (FX (GX X rv pv cv nv nr np nc nn) wb hv) := by
    refine hW.kp k1 ?_ ?_ ?_
    · intro e
      rcases e with e | e
      · exact hh e.symm
      · exact (xr wb e).2.2 rfl
    · intro b hvb e
      rcases e with e | e
      · subst e; exact hhv hvb
      · exact (xr b e).2.1 hvb
    · intro b o u ⟨⟨x, e1, f0, f1, f2, f3⟩, x2, x3⟩ hc
      refine ⟨k1.cellOf hc (fun e => ?_), ⟨x, fun e => absurd e f0, fun e => absurd e f1, fun e => absurd e f2, fun e => absurd e f3⟩, x2, x3⟩
      rcases e with e | e | e | e | e
      · exact e1 e
      · exact f0 e
      · exact f1 e
      · exact f2 e
      · exact f3 e
  have ok : ∀ q ∈ rs, ¬ X q ∧ q ≠ wb ∧ hv.ownBlock ≠ some q := fun q hq => by
    have a := hrs q hq
    have b := hW.blk.lt
    exact ⟨fun e => by have := hX q e; omega, by omega, fun e => by have := (hW.own.lt q e).2; omega⟩
  have xr' := fun b e => (xr b e).1
  exact ⟨⟨W2, f, gb, hold_of W2 f gb h0 h1 h2 h3 hhv hh hhx xr' ok, h0, h1, h2, h3, hhv, hh, xr', ok, by omega⟩, k1.weaken fun b _ e => .inr (.inr e)⟩

set_option maxRecDepth 100000 in
set_option maxHeartbeats 4000000 in
theorem keep_any (base wb h : Nat) (hv : Value) (L : List Nat) (X : Nat → Prop) (rv pv cv nv : Value) (nr np nc nn : Nat) (m0 : Int) (w : World)
    (hL : L.length ≤ 100000000) (br : nr ≤ 1100000) (bp : np ≤ 1100000) (bc : nc ≤ 1100000) (bn : nn ≤ 1100000) (hX : ∀ b, X b → b < w.heap.size)
    (hW : Wld w base wb hv L (FX (fun b _ => ¬ X b ∧ b ≠ h ∧ rv.ownBlock ≠ some b ∧ pv.ownBlock ≠ some b ∧ cv.ownBlock ≠ some b ∧ nv.ownBlock ≠ some b) wb hv))
    (hb : Blk w h #[rv, pv, cv, nv, .int .i64 m0]) (hh : h ≠ wb) (hhv : hv.ownBlock ≠ some h) (hhx : ¬ X h) (h0 : rv.ownBlock ≠ some h) (h1 : pv.ownBlock ≠ some h) (h2 : cv.ownBlock ≠ some h) (h3 : nv.ownBlock ≠ some h)
    (xr : ∀ b, (rv.ownBlock = some b ∨ pv.ownBlock = some b ∨ cv.ownBlock = some b ∨ nv.ownBlock = some b) → ¬ X b ∧ hv.ownBlock ≠ some b ∧ b ≠ wb) (hbase : base ≤ w.heap.size)
    (hM : Calls Tryz.prog 54 #[.pointer (some ⟨h, 0, none⟩)] (w.setCell ⟨h, 4, none⟩ (.int .i64 (1099511627776 + L.length))) fun e w' => e = .returned (.tuple #[]) ∧ ∃ rs, Fam w' base (1099511627776 + L.length) rv pv cv nv nr np nc nn rs ∧ (∀ q ∈ rs, w.heap.size ≤ q) ∧ Kp (fun b => rv.ownBlock = some b ∨ pv.ownBlock = some b ∨ cv.ownBlock = some b ∨ nv.ownBlock = some b) (w.setCell ⟨h, 4, none⟩ (.int .i64 (1099511627776 + L.length))) w') :
    Calls Tryz.prog 30 #[.pointer (some ⟨wb, 0, none⟩), .pointer (some ⟨h, 0, none⟩)] w fun e w' => e = .returned (.tuple #[]) ∧ ∃ hv' L', L'.length = L.length + 4 ∧ Wld w' base wb hv' L' (FX (fun b _ => ¬ X b) wb hv') ∧ Kp (KX wb h hv rv pv cv nv) w w' ∧ Fresh w hv hv' := by
  obtain ⟨i0, hi0, hz0, hz1, hz2⟩ := info_parts infoHoldp
  obtain ⟨a, cap, ehv, _, _, _⟩ := own_form hW.own
  have cw := hW.blk.cell 0
  simp at cw
  have c4 := hb.cell 4
  simp at c4
  have f4 := hb.free 4
  have hLi : (L.length : Int) ≤ 100000000 := by omega
  have HW := hide hW
  have HM := hide hM
  have hwl := hW.blk.lt
  have hhl := hb.lt
  clear hM hW
  rw [ehv] at cw
  go_enter Tryz.func30, Tryz.ntmps30
  go_wp2_with fail
  refine HM.out.mono ?_
  rintro e w2 ⟨rfl, rs, hF, hrs, hK⟩
  obtain ⟨K2, P2⟩ := keep_start hX HW.out hb hh hhv hhx h0 h1 h2 h3 xr hbase hF hrs hK
  have own2 := K2.wld.own
  have blk2 := K2.wld.blk
  have cw2 := blk2.cell 0
  simp at cw2
  have wr2 := K2.wld.wbrow
  have hwl2 := blk2.lt
  have hsz2 := K2.sz
  have hn1 : L.length + 1 ≤ maxLen := by unfold maxLen; omega
  have hn2 : (L.length + 1) * 8 ≤ 140737488355328 := by omega
  have hbs : base ≤ (w2.alloc (.cells #[.pointer (some ⟨h, 0, none⟩)] 36)).heap.size := by simp; omega
  have HK := hide K2
  have HP := hide P2
  clear K2 P2 hF hrs hK cw c4 f4 hb xr
  clear ehv
  go_wp2_with (at_builtin; refine wpList_append_lies _ rfl _ _ _ rfl base 36 i0 _ 1 8 Tryz.underlying26 hi0 hz0 hz1 hz2 rfl (by omega) hv L.length _ rfl (own2.alloc _) ⟨w2.heap.size, 0, none⟩ 1 1 [.pointer (some ⟨h, 0, none⟩)] rfl rfl (World.news_of_block (cs := #[.pointer (some ⟨h, 0, none⟩)]) (t := 36) (fr := (0, 0)) (heap_alloc_new w2 _)) (by simp [Value.oneCell']) (by omega) hn1 hn2 hbs (w2.heap.size + 1) (by simp) ?_; intro gg cp w3 hown3 hgrow hat hlt3
               have hwb3 := (blk2.alloc (.cells #[.pointer (some ⟨h, 0, none⟩)] 36)).grown hgrow wr2
               have hc3 := hwb3.cell 0
               simp at hc3
               have hf3 := hwb3.free 0)
  obtain ⟨K3, P3, F3⟩ := HK.out.push (((Below.refl _ _).alloc (Nat.le_refl _) _)) hown3 hgrow hat (by omega)
  have P3' := kx_push HP.out ⟨Fresh.refl _ _, Fresh.refl _ _, Fresh.refl _ _, Fresh.refl _ _, Fresh.refl _ _⟩ P3
  have F3' : Fresh w hv (.slice (some ⟨gg, 0, none⟩) (L.length + 1) cp) := (Fresh.refl w hv).trans F3 HP.out.size
  have HK3 := hide K3
  have HP3 := hide P3'
  have HF3 := hide F3'
  have hX2 : Hid (∀ b, X b → b < w.heap.size) := hX
  clear K3 P3 P3' F3 F3' own2 blk2 cw2 hwb3 hc3 hf3 hown3 hgrow hat hlt3 hX
  go_loopw [4, 5] (fun gv c w' => ∃ (n g : Nat) (hv' : Value) (L' : List Nat) (m : Int) (rv' pv' cv' nv' : Value) (rs' : List Nat), gv = .pointer (some ⟨g, 0, none⟩) ∧ c = .int .i64 n ∧ n ≤ 3 ∧ L'.length = L.length + 1 + n ∧ KeepSt w' base wb hv' L' X g m rv' pv' cv' nv' (nr + n) (np + n) (nc + n) (nn + n) rs' ∧ Frs w hv rv pv cv nv hv' rv' pv' cv' nv' ∧ Kp (KX wb h hv rv pv cv nv) w w') (fun _ c _ => 3 - (intOf c).toNat)
  case atStart => exact ⟨0, h, _, L ++ [h], _, rv, pv, cv, nv, rs, rfl, rfl, by omega, by simp, HK3.out, ⟨HF3.out, Fresh.refl _ _, Fresh.refl _ _, Fresh.refl _ _, Fresh.refl _ _⟩, HP3.out⟩
  case round =>
    clear HK3 HP3 HF3 HK HP
    obtain ⟨n, g, hv', L', m, rv', pv', cv', nv', rs', rfl, rfl, hn3, hL', hK, hFr, hKp⟩ := hrel
    by_cases hlt : n < 3
    · have l0 := hK.gb.cell 0
      have l1 := hK.gb.cell 1
      have l2 := hK.gb.cell 2
      have l3 := hK.gb.cell 3
      have l4 := hK.gb.cell 4
      simp at l0 l1 l2 l3 l4
      have hlong := longer_any base g m rv' pv' cv' nv' (nr + n) (np + n) (nc + n) (nn + n) rs' wr hK.sz l0 l1 l2 l3 l4 hK.g0 hK.g1 hK.g2 hK.g3 (by omega) (by omega) (by omega) (by omega) hK.fam
      have HKK := hide hK
      have HFR := hide hFr
      have HKP := hide hKp
      have HLG := hide hlong
      clear hlong hK hFr hKp l0 l1 l2 l3 l4
      go_wp2_with fail
      refine HLG.out.mono ?_
      rintro e w4 ⟨rv2, pv2, cv2, nv2, rfl, gb4, f4, a0, a1, a2, a3, lg⟩
      have K4 := HKK.out.long (fun b hb => Nat.lt_of_lt_of_le (hX2.out b hb) HKP.out.size) gb4 f4 a0 a1 a2 a3 lg
      have P4 := kx_long HKP.out HFR.out lg.kp
      have sz4 := HKP.out.size
      have R4 : Hid (Frs w hv rv pv cv nv hv' rv2 pv2 cv2 nv2) := ⟨HFR.out.h, HFR.out.r.trans a0.fresh sz4, HFR.out.p.trans a1.fresh sz4, HFR.out.c.trans a2.fresh sz4, HFR.out.n.trans a3.fresh sz4⟩
      have own4 := K4.wld.own
      have blk4 := K4.wld.blk
      have cw4 := blk4.cell 0
      simp at cw4
      have wr4 := K4.wld.wbrow
      have hwl4 := blk4.lt
      have hsz4 := K4.sz
      have hn1 : L'.length + 1 ≤ maxLen := by unfold maxLen; omega
      have hn2 : (L'.length + 1) * 8 ≤ 140737488355328 := by omega
      have hbs : base ≤ (w4.alloc (.cells #[.pointer (some ⟨wr.heap.size, 0, none⟩)] 36)).heap.size := by simp; omega
      have HK4 := hide K4
      have HP4 := hide P4
      clear K4 P4 gb4 f4 a0 a1 a2 a3 lg HKK HFR HKP HLG
      go_wp2_with (at_builtin; refine wpList_append_lies _ rfl _ _ _ rfl base 36 i0 _ 1 8 Tryz.underlying26 hi0 hz0 hz1 hz2 rfl (by omega) hv' L'.length _ rfl (own4.alloc _) ⟨w4.heap.size, 0, none⟩ 1 1 [.pointer (some ⟨wr.heap.size, 0, none⟩)] rfl rfl (World.news_of_block (cs := #[.pointer (some ⟨wr.heap.size, 0, none⟩)]) (t := 36) (fr := (0, 0)) (heap_alloc_new w4 _)) (by simp [Value.oneCell']) (by omega) hn1 hn2 hbs (w4.heap.size + 1) (by simp) ?_; intro gg cp w5 hown5 hgrow hat hlt5
                   have hwb5 := (blk4.alloc (.cells #[.pointer (some ⟨wr.heap.size, 0, none⟩)] 36)).grown hgrow wr4
                   have hc5 := hwb5.cell 0
                   simp at hc5
                   have hf5 := hwb5.free 0)
      obtain ⟨K5, P5, F5⟩ := HK4.out.push (((Below.refl _ _).alloc (Nat.le_refl _) _)) hown5 hgrow hat (by omega)
      have P5' := kx_push HP4.out R4.out P5
      have R5 : Frs w hv rv pv cv nv (.slice (some ⟨gg, 0, none⟩) (L'.length + 1) cp) rv2 pv2 cv2 nv2 := ⟨R4.out.h.trans F5 HP4.out.size, R4.out.r, R4.out.p, R4.out.c, R4.out.n⟩
      rw [hL'] at K5 P5' R5
      exact ⟨⟨n + 1, wr.heap.size, _, L' ++ [wr.heap.size], m, rv2, pv2, cv2, nv2, _, rfl, by go_num, by omega, by simp; omega, K5, R5, P5'⟩, by simp [intOf]; omega⟩
    · have en : n = 3 := by omega
      subst en
      have HKK := hide hK
      have HFR := hide hFr
      have HKP := hide hKp
      clear hK hFr hKp
      go_wp2
      go_end0
      exact ⟨rfl, hv', L', by omega, HKK.out.wld.weaken (fun b o u ⟨⟨x, _⟩, k1, k2⟩ _ => ⟨x, k1, k2⟩), HKP.out, HFR.out.h⟩
end Go.Proofs.YtkmapffhfmgfeaaGreat
