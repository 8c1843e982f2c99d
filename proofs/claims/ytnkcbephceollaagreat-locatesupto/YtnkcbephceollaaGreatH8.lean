import Derived.Test.YtnkcbephceollaaGreatH7
namespace Go.Proofs.YtnkcbephceollaaGreat
open Go.RowKit
set_option linter.unusedSimpArgs false
set_option linter.unusedVariables false

/-- Cells that neither the world's own block nor its row of holds bear. -/
def FX (G : Nat → Nat → Prop) (wb : Nat) (hv : Value) (b o : Nat) : Prop := G b o ∧ b ≠ wb ∧ hv.ownBlock ≠ some b
/-- Cells outside of X, and outside of the room behind four rows. -/
def GX (X : Nat → Prop) (rv pv cv nv : Value) (nr np nc nn : Nat) (b o : Nat) : Prop :=
  ¬ X b ∧ (rv.ownBlock = some b → o < nr) ∧ (pv.ownBlock = some b → o < np * 3) ∧ (cv.ownBlock = some b → o < nc * 10) ∧ (nv.ownBlock = some b → o < nn)

/-- The world of holds: its one cell, the row of the holds, and that each hold reads as it was marked. -/
structure Wld (w : World) (base wb : Nat) (hv : Value) (L : List Nat) (F : Nat → Nat → Prop) : Prop where
  blk : Blk w wb #[hv]
  own : w.ownsRow base 36 1 hv L.length (L.map fun h => .pointer (some ⟨h, 0, none⟩))
  lt : wb < base
  all : ∀ h ∈ L, ∃ m rv pv cv nv, HoldMk w F h m rv pv cv nv

theorem Wld.weaken {w : World} {base wb : Nat} {hv : Value} {L : List Nat} {F F' : Nat → Nat → Prop} (h : Wld w base wb hv L F) (e : ∀ b o u, F b o → w.cell? ⟨b, o, none⟩ = some u → F' b o) : Wld w base wb hv L F' :=
  ⟨h.blk, h.own, h.lt, fun g hg => by
    obtain ⟨m, rv, pv, cv, nv, k⟩ := h.all g hg
    exact ⟨m, rv, pv, cv, nv, k.later fun b o u f c => ⟨c, e b o u f c⟩⟩⟩
theorem Wld.wbrow {w : World} {base wb : Nat} {hv : Value} {L : List Nat} {F : Nat → Nat → Prop} (h : Wld w base wb hv L F) : hv.ownBlock ≠ some wb := fun e => by
  have := (h.own.lt _ e).1
  have := h.lt
  omega
/-- Nothing of the world's is touched. -/
theorem Wld.kp {w w' : World} {base wb : Nat} {hv : Value} {L : List Nat} {F F' : Nat → Nat → Prop} {X : Nat → Prop} (h : Wld w base wb hv L F) (k : Kp X w w') (h1 : ¬ X wb) (h2 : ∀ b, hv.ownBlock = some b → ¬ X b) (e : ∀ b o u, F b o → w.cell? ⟨b, o, none⟩ = some u → w'.cell? ⟨b, o, none⟩ = some u ∧ F' b o) : Wld w' base wb hv L F' :=
  ⟨Kp.blk h.blk k h1, Kp.own h.own k h2, h.lt, fun g hg => by
    obtain ⟨m, rv, pv, cv, nv, q⟩ := h.all g hg
    exact ⟨m, rv, pv, cv, nv, q.later e⟩⟩

/-- A row that is the old one, or of a new block. -/
def Fresh (w : World) (v0 v : Value) : Prop := v.ownBlock = v0.ownBlock ∨ ∃ k, v.ownBlock = some k ∧ w.heap.size ≤ k
theorem Fresh.refl (w : World) (v : Value) : Fresh w v v := .inl rfl
theorem Fresh.old {w : World} {v0 v : Value} {b : Nat} (h : Fresh w v0 v) (hb : b < w.heap.size) (e : v.ownBlock = some b) : v0.ownBlock = some b := by
  rcases h with h | ⟨k, h, hk⟩
  · rw [← h]; exact e
  · rw [h] at e; have := Option.some.inj e; omega
theorem Fresh.trans {w w' : World} {v0 v v' : Value} (h : Fresh w v0 v) (k : Fresh w' v v') (hs : w.heap.size ≤ w'.heap.size) : Fresh w v0 v' := by
  rcases k with k | ⟨q, k, hq⟩
  · rcases h with h | ⟨p, h, hp⟩
    · exact .inl (k.trans h)
    · exact .inr ⟨p, k.trans h, hp⟩
  · exact .inr ⟨q, k, by omega⟩
theorem Near.fresh {w : World} {v v' : Value} (h : Near w v v') : Fresh w v v' := by
  rcases h with h | ⟨k, h, hk⟩
  · exact .inl h
  · exact .inr ⟨k, h, by omega⟩

/-- In the midst of 'keep': the newest hold g, its rows. -/
structure KeepSt (w : World) (base wb : Nat) (hv : Value) (L : List Nat) (X : Nat → Prop) (g : Nat) (m : Int) (rv pv cv nv : Value) (nr np nc nn : Nat) (rs : List Nat) : Prop where
  wld : Wld w base wb hv L (FX (GX X rv pv cv nv nr np nc nn) wb hv)
  fam : Fam w base m rv pv cv nv nr np nc nn rs
  gb : Blk w g #[rv, pv, cv, nv, .int .i64 m]
  hold : HoldMk w (FX (GX X rv pv cv nv nr np nc nn) wb hv) g m rv pv cv nv
  g0 : rv.ownBlock ≠ some g
  g1 : pv.ownBlock ≠ some g
  g2 : cv.ownBlock ≠ some g
  g3 : nv.ownBlock ≠ some g
  gh : hv.ownBlock ≠ some g
  gw : g ≠ wb
  xr : ∀ b, (rv.ownBlock = some b ∨ pv.ownBlock = some b ∨ cv.ownBlock = some b ∨ nv.ownBlock = some b) → ¬ X b
  ok : ∀ q ∈ rs, ¬ X q ∧ q ≠ wb ∧ hv.ownBlock ≠ some q
  sz : base ≤ w.heap.size

theorem row_apart {w : World} {base wb : Nat} {hv : Value} {L : List Nat} {F : Nat → Nat → Prop} {m : Int} {rv pv cv nv : Value} {nr np nc nn : Nat} {rs : List Nat} (W : Wld w base wb hv L F) (f : Fam w base m rv pv cv nv nr np nc nn rs) (b : Nat)
    (hb : rv.ownBlock = some b ∨ pv.ownBlock = some b ∨ cv.ownBlock = some b ∨ nv.ownBlock = some b) : hv.ownBlock ≠ some b ∧ b ≠ wb ∧ b < w.heap.size := by
  have hl := W.lt
  rcases hb with h | h | h | h
  · exact ⟨own_apart f.ro W.own (by decide) b h, by have := (f.ro.lt b h).1; omega, (f.ro.lt b h).2⟩
  · exact ⟨own_apart f.po W.own (by decide) b h, by have := (f.po.lt b h).1; omega, (f.po.lt b h).2⟩
  · exact ⟨own_apart f.co W.own (by decide) b h, by have := (f.co.lt b h).1; omega, (f.co.lt b h).2⟩
  · exact ⟨own_apart f.no W.own (by decide) b h, by have := (f.no.lt b h).1; omega, (f.no.lt b h).2⟩

/-- A hold out of its rows, in the world of holds. -/
theorem hold_of {w : World} {base wb : Nat} {hv : Value} {L : List Nat} {F : Nat → Nat → Prop} {X : Nat → Prop} {g : Nat} {m : Int} {rv pv cv nv : Value} {nr np nc nn : Nat} {rs : List Nat} (W : Wld w base wb hv L F) (f : Fam w base m rv pv cv nv nr np nc nn rs) (gb : Blk w g #[rv, pv, cv, nv, .int .i64 m])
    (g0 : rv.ownBlock ≠ some g) (g1 : pv.ownBlock ≠ some g) (g2 : cv.ownBlock ≠ some g) (g3 : nv.ownBlock ≠ some g) (gh : hv.ownBlock ≠ some g) (gw : g ≠ wb) (gx : ¬ X g)
    (xr : ∀ b, (rv.ownBlock = some b ∨ pv.ownBlock = some b ∨ cv.ownBlock = some b ∨ nv.ownBlock = some b) → ¬ X b) (ok : ∀ q ∈ rs, ¬ X q ∧ q ≠ wb ∧ hv.ownBlock ≠ some q) :
    HoldMk w (FX (GX X rv pv cv nv nr np nc nn) wb hv) g m rv pv cv nv := by
  refine f.mk' (gb.cell 0) (gb.cell 1) (gb.cell 2) (gb.cell 3) (gb.cell 4) ?_ ?_ ?_ ?_ ?_ ?_
  · exact fun o _ => ⟨⟨gx, fun e => absurd e g0, fun e => absurd e g1, fun e => absurd e g2, fun e => absurd e g3⟩, gw, gh⟩
  · intro b o hb ho
    obtain ⟨a1, a2, _⟩ := row_apart W f b (.inl hb)
    exact ⟨⟨xr b (.inl hb), fun _ => ho, fun e => absurd e (own_apart f.ro f.po (by decide) b hb), fun e => absurd e (own_apart f.ro f.co (by decide) b hb), fun e => absurd e (own_apart f.ro f.no (by decide) b hb)⟩, a2, a1⟩
  · intro q hq o
    obtain ⟨o1, o2, o3⟩ := ok q hq
    obtain ⟨e0, e1, e2, e3⟩ := f.rn q hq
    exact ⟨⟨o1, fun e => absurd e e0, fun e => absurd e e1, fun e => absurd e e2, fun e => absurd e e3⟩, o2, o3⟩
  · intro b o hb ho
    obtain ⟨a1, a2, _⟩ := row_apart W f b (.inr (.inl hb))
    exact ⟨⟨xr b (.inr (.inl hb)), fun e => absurd e (own_apart f.po f.ro (by decide) b hb), fun _ => ho, fun e => absurd e (own_apart f.po f.co (by decide) b hb), fun e => absurd e (own_apart f.po f.no (by decide) b hb)⟩, a2, a1⟩
  · intro b o hb ho
    obtain ⟨a1, a2, _⟩ := row_apart W f b (.inr (.inr (.inl hb)))
    exact ⟨⟨xr b (.inr (.inr (.inl hb))), fun e => absurd e (own_apart f.co f.ro (by decide) b hb), fun e => absurd e (own_apart f.co f.po (by decide) b hb), fun _ => ho, fun e => absurd e (own_apart f.co f.no (by decide) b hb)⟩, a2, a1⟩
  · intro b o hb ho
    obtain ⟨a1, a2, _⟩ := row_apart W f b (.inr (.inr (.inr hb)))
    exact ⟨⟨xr b (.inr (.inr (.inr hb))), fun e => absurd e (own_apart f.no f.ro (by decide) b hb), fun e => absurd e (own_apart f.no f.po (by decide) b hb), fun e => absurd e (own_apart f.no f.co (by decide) b hb), fun _ => ho⟩, a2, a1⟩

section
variable {w w' w1 : World} {base wb : Nat} {hv : Value} {L : List Nat} {X : Nat → Prop} {g : Nat} {m : Int} {rv pv cv nv : Value} {nr np nc nn : Nat} {rs : List Nat}
/-- Behind 'longer'. -/
theorem KeepSt.long {rv' pv' cv' nv' : Value} (h : KeepSt w base wb hv L X g m rv pv cv nv nr np nc nn rs) (hX : ∀ b, X b → b < w.heap.size)
    (gb : Blk w' w.heap.size #[rv', pv', cv', nv', .int .i64 m]) (f : Fam w' base m rv' pv' cv' nv' (nr + 1) (np + 1) (nc + 1) (nn + 1) (rs ++ [w.heap.size + 1]))
    (a0 : Near w rv rv') (a1 : Near w pv pv') (a2 : Near w cv cv') (a3 : Near w nv nv') (lg : Lg w w' rv pv cv nv nr np nc nn) :
    KeepSt w' base wb hv L X w.heap.size m rv' pv' cv' nv' (nr + 1) (np + 1) (nc + 1) (nn + 1) (rs ++ [w.heap.size + 1]) := by
  have sz := lg.kp.size
  have ra := row_apart h.wld h.fam
  have wl : wb < w.heap.size := h.wld.blk.lt
  have W' : Wld w' base wb hv L (FX (GX X rv' pv' cv' nv' (nr + 1) (np + 1) (nc + 1) (nn + 1)) wb hv) := by
    refine h.wld.kp lg.kp (fun e => (ra wb e).2.1 rfl) (fun b hb e => (ra b e).1 hb) (fun b o u ⟨⟨x, f0, f1, f2, f3⟩, k1, k2⟩ hc => ⟨lg.cell b o u hc f0 f1 f2 f3, ⟨x, fun e => ?_, fun e => ?_, fun e => ?_, fun e => ?_⟩, k1, k2⟩)
    · have := f0 (a0.fresh.old (World.block_lt_of_cell? w ⟨b, o, none⟩ hc) e); omega
    · have := f1 (a1.fresh.old (World.block_lt_of_cell? w ⟨b, o, none⟩ hc) e); omega
    · have := f2 (a2.fresh.old (World.block_lt_of_cell? w ⟨b, o, none⟩ hc) e); omega
    · have := f3 (a3.fresh.old (World.block_lt_of_cell? w ⟨b, o, none⟩ hc) e); omega
  have e0 : rv'.ownBlock ≠ some w.heap.size := near_ne a0 (by omega) (fun e => by have := (ra _ (.inl e)).2.2; omega)
  have e1 : pv'.ownBlock ≠ some w.heap.size := near_ne a1 (by omega) (fun e => by have := (ra _ (.inr (.inl e))).2.2; omega)
  have e2 : cv'.ownBlock ≠ some w.heap.size := near_ne a2 (by omega) (fun e => by have := (ra _ (.inr (.inr (.inl e)))).2.2; omega)
  have e3 : nv'.ownBlock ≠ some w.heap.size := near_ne a3 (by omega) (fun e => by have := (ra _ (.inr (.inr (.inr e)))).2.2; omega)
  have eh : hv.ownBlock ≠ some w.heap.size := fun e => by have := (h.wld.own.lt _ e).2; omega
  have xr' : ∀ b, (rv'.ownBlock = some b ∨ pv'.ownBlock = some b ∨ cv'.ownBlock = some b ∨ nv'.ownBlock = some b) → ¬ X b := by
    intro b hb hx
    have hl := hX b hx
    refine h.xr b ?_ hx
    rcases hb with e | e | e | e
    · exact .inl (a0.fresh.old hl e)
    · exact .inr (.inl (a1.fresh.old hl e))
    · exact .inr (.inr (.inl (a2.fresh.old hl e)))
    · exact .inr (.inr (.inr (a3.fresh.old hl e)))
  have ok' : ∀ q ∈ rs ++ [w.heap.size + 1], ¬ X q ∧ q ≠ wb ∧ hv.ownBlock ≠ some q := by
    intro q hq
    rcases List.mem_append.1 hq with hq | hq
    · exact h.ok q hq
    · have e := List.mem_singleton.1 hq
      subst e
      exact ⟨fun hx => by have := hX _ hx; omega, by omega, fun e => by have := (h.wld.own.lt _ e).2; omega⟩
  exact ⟨W', f, gb, hold_of W' f gb e0 e1 e2 e3 eh (by omega) (fun hx => by have := hX _ hx; omega) xr' ok', e0, e1, e2, e3, eh, by omega, xr', ok', by have := h.sz; omega⟩

/-- Behind the append of the newest hold. -/
theorem KeepSt.push {W1 : World} {gg cp H : Nat} (h : KeepSt w base wb hv L X g m rv pv cv nv nr np nc nn rs) (k : Below w.heap.size w W1)
    (o1 : w1.ownsRow base 36 1 (.slice (some ⟨gg, 0, none⟩) (L.length + 1) cp) (L.length + 1) ((L.map fun h => .pointer (some ⟨h, 0, none⟩)) ++ [.pointer (some ⟨g, 0, none⟩)]))
    (hg : W1.grownBy w1 hv.ownBlock) (hat : hv.ownBlock = some gg ∨ gg = H) (hH : w.heap.size ≤ H) :
    KeepSt (w1.setCell ⟨wb, 0, none⟩ (.slice (some ⟨gg, 0, none⟩) (L.length + 1) cp)) base wb (.slice (some ⟨gg, 0, none⟩) (L.length + 1) cp) (L ++ [g]) X g m rv pv cv nv nr np nc nn rs ∧
      Kp (fun b => b = wb ∨ hv.ownBlock = some b) w (w1.setCell ⟨wb, 0, none⟩ (.slice (some ⟨gg, 0, none⟩) (L.length + 1) cp)) ∧ Fresh w hv (.slice (some ⟨gg, 0, none⟩) (L.length + 1) cp) := by
  have fr : Fresh w hv (.slice (some ⟨gg, 0, none⟩) (L.length + 1) cp) := by
    rcases hat with e | e
    · exact .inl e.symm
    · exact .inr ⟨gg, rfl, by omega⟩
  have wr := h.wld.wbrow
  have wl : wb < w.heap.size := h.wld.blk.lt
  have kp : Kp (fun b => b = wb ∨ hv.ownBlock = some b) w (w1.setCell ⟨wb, 0, none⟩ (.slice (some ⟨gg, 0, none⟩) (L.length + 1) cp)) :=
    ((Kp.of k).grown hg (fun q hq => .inr hq)).setCell (fun _ => .inl rfl) _
  have ra := row_apart h.wld h.fam
  have ne : ∀ b, (rv.ownBlock = some b ∨ pv.ownBlock = some b ∨ cv.ownBlock = some b ∨ nv.ownBlock = some b) → ¬ (b = wb ∨ hv.ownBlock = some b) := fun b hb e => by
    rcases e with e | e
    · exact (ra b hb).2.1 e
    · exact (ra b hb).1 e
  have st : ∀ b o u, FX (GX X rv pv cv nv nr np nc nn) wb hv b o → w.cell? ⟨b, o, none⟩ = some u → (w1.setCell ⟨wb, 0, none⟩ (.slice (some ⟨gg, 0, none⟩) (L.length + 1) cp)).cell? ⟨b, o, none⟩ = some u ∧ FX (GX X rv pv cv nv nr np nc nn) wb (.slice (some ⟨gg, 0, none⟩) (L.length + 1) cp) b o := fun b o u ⟨f, k1, k2⟩ hc =>
    ⟨kp.cellOf hc (fun e => by rcases e with e | e; exact k1 e; exact k2 e), f, k1, fun e => k2 (fr.old (World.block_lt_of_cell? w ⟨b, o, none⟩ hc) e)⟩
  have ggw : gg ≠ wb := by
    rcases hat with e | e
    · intro x; subst x; exact wr e
    · omega
  have hold' := h.hold.later st
  have fm : Fam (w1.setCell ⟨wb, 0, none⟩ (.slice (some ⟨gg, 0, none⟩) (L.length + 1) cp)) base m rv pv cv nv nr np nc nn rs :=
    ⟨h.fam.rl, Kp.own h.fam.ro kp (fun b e => ne b (.inl e)), fun q hq => by
      obtain ⟨o1, o2, o3⟩ := h.ok q hq
      have e : ¬ (q = wb ∨ hv.ownBlock = some q) := fun e => by rcases e with e | e; exact o2 e; exact o3 e
      have p := h.fam.rp q hq
      exact ⟨kp.cellOf p.x e, kp.cellOf p.y e, kp.cellOf p.d e⟩, Kp.own h.fam.po kp (fun b e => ne b (.inr (.inl e))), Kp.own h.fam.co kp (fun b e => ne b (.inr (.inr (.inl e)))), Kp.own h.fam.no kp (fun b e => ne b (.inr (.inr (.inr e)))), h.fam.rn⟩
  refine ⟨⟨⟨?_, ?_, h.wld.lt, ?_⟩, fm, Kp.blk h.gb kp (fun e => by rcases e with e | e; exact h.gw e; exact h.gh e), hold', h.g0, h.g1, h.g2, h.g3, fun e => h.gh (fr.old h.gb.lt e), h.gw, h.xr, fun q hq => ?_, ?_⟩, kp, fr⟩
  · exact (((h.wld.blk.call k).grown hg wr)).set 0 (by simp) _
  · rw [List.length_append, List.map_append]
    exact ownsRow_setCell_other (a := ⟨wb, 0, none⟩) o1 (fun e => ggw (Option.some.inj e)) _
  · intro q hq
    rcases List.mem_append.1 hq with hq | hq
    · obtain ⟨m', r', p', c', n', hk⟩ := h.wld.all q hq
      exact ⟨m', r', p', c', n', hk.later st⟩
    · have e := List.mem_singleton.1 hq
      subst e
      exact ⟨m, rv, pv, cv, nv, hold'⟩
  · obtain ⟨o1, o2, o3⟩ := h.ok q hq
    exact ⟨o1, o2, fun e => o3 (fr.old (World.block_lt_of_cell? w ⟨q, 0, none⟩ (h.fam.rp q hq).x) e)⟩
  · have := h.sz
    have := kp.size
    omega
end
end Go.Proofs.YtnkcbephceollaaGreat
