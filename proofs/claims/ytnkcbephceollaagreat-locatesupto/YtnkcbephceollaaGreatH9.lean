import Derived.Test.YtnkcbephceollaaGreatH8
namespace Go.Proofs.YtnkcbephceollaaGreat
open Go.RowKit
set_option linter.unusedSimpArgs false
set_option linter.unusedVariables false

theorem infoHoldp : (Tryz.prog.info? 36).map (fun i => (i.zero, i.size, i.bytes)) = some (some (.pointer none), 1, 8) := by kernel_rfl

/-- What 'keep' may write to. -/
def KX (wb h : Nat) (hv rv pv cv nv : Value) (b : Nat) : Prop := b = wb ∨ hv.ownBlock = some b ∨ b = h ∨ rv.ownBlock = some b ∨ pv.ownBlock = some b ∨ cv.ownBlock = some b ∨ nv.ownBlock = some b
/-- The rows now, and at the head of 'keep'. -/
structure Frs (w : World) (hv rv pv cv nv hv' rv' pv' cv' nv' : Value) : Prop where
  h : Fresh w hv hv'
  r : Fresh w rv rv'
  p : Fresh w pv pv'
  c : Fresh w cv cv'
  n : Fresh w nv nv'
theorem kx_push {w W W' : World} {wb h : Nat} {hv rv pv cv nv hv' rv' pv' cv' nv' : Value} (k : Kp (KX wb h hv rv pv cv nv) w W) (f : Frs w hv rv pv cv nv hv' rv' pv' cv' nv') (q : Kp (fun b => b = wb ∨ hv'.ownBlock = some b) W W') : Kp (KX wb h hv rv pv cv nv) w W' :=
  ⟨q.os.trans k.os, q.tape.trans k.tape, q.output.trans k.output, Nat.le_trans k.size q.size, fun x hx hn => (q.block x (Nat.lt_of_lt_of_le hx k.size) (fun e => hn (by
    rcases e with e | e
    · exact .inl e
    · exact .inr (.inl (f.h.old hx e))))).trans (k.block x hx hn)⟩
theorem kx_long {w W W' : World} {wb h : Nat} {hv rv pv cv nv hv' rv' pv' cv' nv' : Value} (k : Kp (KX wb h hv rv pv cv nv) w W) (f : Frs w hv rv pv cv nv hv' rv' pv' cv' nv') (q : Kp (fun b => rv'.ownBlock = some b ∨ pv'.ownBlock = some b ∨ cv'.ownBlock = some b ∨ nv'.ownBlock = some b) W W') : Kp (KX wb h hv rv pv cv nv) w W' :=
  ⟨q.os.trans k.os, q.tape.trans k.tape, q.output.trans k.output, Nat.le_trans k.size q.size, fun x hx hn => (q.block x (Nat.lt_of_lt_of_le hx k.size) (fun e => hn (by
    rcases e with e | e | e | e
    · exact .inr (.inr (.inr (.inl (f.r.old hx e))))
    · exact .inr (.inr (.inr (.inr (.inl (f.p.old hx e)))))
    · exact .inr (.inr (.inr (.inr (.inr (.inl (f.c.old hx e))))))
    · exact .inr (.inr (.inr (.inr (.inr (.inr (f.n.old hx e)))))) ))).trans (k.block x hx hn)⟩

theorem keep_start {w w2 : World} {base wb h : Nat} {hv : Value} {L : List Nat} {X : Nat → Prop} {rv pv cv nv : Value} {nr np nc nn : Nat} {m0 m : Int} {rs : List Nat} (hX : ∀ b, X b → b < w.heap.size)
    (hW : Wld w base wb hv L (FX (fun b _ => ¬ X b ∧ b ≠ h ∧ rv.ownBlock ≠ some b ∧ pv.ownBlock ≠ some b ∧ cv.ownBlock ≠ some b ∧ nv.ownBlock ≠ some b) wb hv))
    (hb : Blk w h #[rv, pv, cv, nv, .int .i64 m0]) (hh : h ≠ wb) (hhv : hv.ownBlock ≠ some h) (hhx : ¬ X h) (h0 : rv.ownBlock ≠ some h) (h1 : pv.ownBlock ≠ some h) (h2 : cv.ownBlock ≠ some h) (h3 : nv.ownBlock ≠ some h)
    (xr : ∀ b, (rv.ownBlock = some b ∨ pv.ownBlock = some b ∨ cv.ownBlock = some b ∨ nv.ownBlock = some b) → ¬ X b ∧ hv.ownBlock ≠ some b ∧ b ≠ wb) (hbase : base ≤ w.heap.size)
    (f : Fam w2 base m rv pv cv nv nr np nc nn rs) (hrs : ∀ q ∈ rs, w.heap.size ≤ q) (k : Kp (fun b => rv.ownBlock = some b ∨ pv.ownBlock = some b ∨ cv.ownBlock = some b ∨ nv.ownBlock = some b) (w.setCell ⟨h, 4, none⟩ (.int .i64 m)) w2) :
    KeepSt w2 base wb hv L X h m rv pv cv nv nr np nc nn rs ∧ Kp (KX wb h hv rv pv cv nv) w w2 := by
  have k1 : Kp (fun b => b = h ∨ rv.ownBlock = some b ∨ pv.ownBlock = some b ∨ cv.ownBlock = some b ∨ nv.ownBlock = some b) w w2 :=
    ((Kp.refl _ _).setCell (p := ⟨h, 4, none⟩) (fun _ => .inl rfl) (.int .i64 m)).trans (k.weaken fun b _ e => .inr e)
  have sz := k1.size
  have gb : Blk w2 h #[rv, pv, cv, nv, .int .i64 m] := Kp.blk (hb.set 4 (by simp) (.int .i64 m)) k (fun e => by
    rcases e with e | e | e | e
    · exact h0 e
    · exact h1 e
    · exact h2 e
    · exact h3 e)
  have W2 : Wld w2 base wb hv L (FX (GX X rv pv cv nv nr np nc nn) wb hv) := by
    refine hW.kp k1 ?_ ?_ ?_
    · intro e
      rcases e with e | e
      · exact hh e.symm
      · exact (xr wb e).2.2 rfl
    · intro b hvb e
      rcases e with e | e
      · subst e; exact hhv hvb
      · exact (xr b e).2.1 hvb
    · intro b o u ⟨⟨x, e1, f0, f1, f2, f3⟩, x2, x3⟩ hc
      refine ⟨k1.cellOf hc (fun e => ?_), ⟨x, fun e => absurd e f0, fun e => absurd e f1, fun e => absurd e f2, fun e => absurd e f3⟩, x2, x3⟩
      rcases e with e | e | e | e | e
      · exact e1 e
      · exact f0 e
      · exact f1 e
      · exact f2 e
      · exact f3 e
  have ok : ∀ q ∈ rs, ¬ X q ∧ q ≠ wb ∧ hv.ownBlock ≠ some q := fun q hq => by
    have a := hrs q hq
    have b := hW.blk.lt
    exact ⟨fun e => by have := hX q e; omega, by omega, fun e => by have := (hW.own.lt q e).2; omega⟩
  have xr' := fun b e => (xr b e).1
  exact ⟨⟨W2, f, gb, hold_of W2 f gb h0 h1 h2 h3 hhv hh hhx xr' ok, h0, h1, h2, h3, hhv, hh, xr', ok, by omega⟩, k1.weaken fun b _ e => .inr (.inr e)⟩

set_option maxRecDepth 100000 in
set_option maxHeartbeats 4000000 in
theorem keep_any (base wb h : Nat) (hv : Value) (L : List Nat) (X : Nat → Prop) (rv pv cv nv : Value) (nr np nc nn : Nat) (m0 : Int) (w : World)
    (hL : L.length ≤ 1000000000000) (br : nr ≤ 1100000) (bp : np ≤ 1100000) (bc : nc ≤ 1100000) (bn : nn ≤ 1100000) (hX : ∀ b, X b → b < w.heap.size)
    (hW : Wld w base wb hv L (FX (fun b _ => ¬ X b ∧ b ≠ h ∧ rv.ownBlock ≠ some b ∧ pv.ownBlock ≠ some b ∧ cv.ownBlock ≠ some b ∧ nv.ownBlock ≠ some b) wb hv))
    (hb : Blk w h #[rv, pv, cv, nv, .int .i64 m0]) (hh : h ≠ wb) (hhv : hv.ownBlock ≠ some h) (hhx : ¬ X h) (h0 : rv.ownBlock ≠ some h) (h1 : pv.ownBlock ≠ some h) (h2 : cv.ownBlock ≠ some h) (h3 : nv.ownBlock ≠ some h)
    (xr : ∀ b, (rv.ownBlock = some b ∨ pv.ownBlock = some b ∨ cv.ownBlock = some b ∨ nv.ownBlock = some b) → ¬ X b ∧ hv.ownBlock ≠ some b ∧ b ≠ wb) (hbase : base ≤ w.heap.size)
    (hM : Calls Tryz.prog 54 #[.pointer (some ⟨h, 0, none⟩)] (w.setCell ⟨h, 4, none⟩ (.int .i64 (1099511627776 + L.length))) fun e w' => e = .returned (.tuple #[]) ∧ ∃ rs, Fam w' base (1099511627776 + L.length) rv pv cv nv nr np nc nn rs ∧ (∀ q ∈ rs, w.heap.size ≤ q) ∧ Kp (fun b => rv.ownBlock = some b ∨ pv.ownBlock = some b ∨ cv.ownBlock = some b ∨ nv.ownBlock = some b) (w.setCell ⟨h, 4, none⟩ (.int .i64 (1099511627776 + L.length))) w') :
    Calls Tryz.prog 30 #[.pointer (some ⟨wb, 0, none⟩), .pointer (some ⟨h, 0, none⟩)] w fun e w' => e = .returned (.tuple #[]) ∧ ∃ hv' L', L'.length = L.length + 4 ∧ Wld w' base wb hv' L' (FX (fun b _ => ¬ X b) wb hv') ∧ Kp (KX wb h hv rv pv cv nv) w w' ∧ Fresh w hv hv' := by
  obtain ⟨i0, hi0, hz0, hz1, hz2⟩ := info_parts infoHoldp
  obtain ⟨a, cap, ehv, _, _, _⟩ := own_form hW.own
  have cw := hW.blk.cell 0
  simp at cw
  have c4 := hb.cell 4
  simp at c4
  have f4 := hb.free 4
  have hLi : (L.length : Int) ≤ 1000000000000 := by omega
  have HW := hide hW
  have HM := hide hM
  have hwl := hW.blk.lt
  have hhl := hb.lt
  clear hM hW
  rw [ehv] at cw
  go_enter Tryz.func30, Tryz.ntmps30
  go_wp2_with fail
  refine HM.out.mono ?_
  rintro e w2 ⟨rfl, rs, hF, hrs, hK⟩
  obtain ⟨K2, P2⟩ := keep_start hX HW.out hb hh hhv hhx h0 h1 h2 h3 xr hbase hF hrs hK
  have own2 := K2.wld.own
  have blk2 := K2.wld.blk
  have cw2 := blk2.cell 0
  simp at cw2
  have wr2 := K2.wld.wbrow
  have hwl2 := blk2.lt
  have hsz2 := K2.sz
  have hn1 : L.length + 1 ≤ maxLen := by unfold maxLen; omega
  have hn2 : (L.length + 1) * 8 ≤ 140737488355328 := by omega
  have hbs : base ≤ (w2.alloc (.cells #[.pointer (some ⟨h, 0, none⟩)] 36)).heap.size := by simp; omega
  have HK := hide K2
  have HP := hide P2
  clear K2 P2 hF hrs hK cw c4 f4 hb xr
  clear ehv
  go_wp2_with (at_builtin; refine wpList_append_lies _ rfl _ _ _ rfl base 36 i0 _ 1 8 Tryz.underlying26 hi0 hz0 hz1 hz2 rfl (by omega) hv L.length _ rfl (own2.alloc _) ⟨w2.heap.size, 0, none⟩ 1 1 [.pointer (some ⟨h, 0, none⟩)] rfl rfl (World.news_of_block (cs := #[.pointer (some ⟨h, 0, none⟩)]) (t := 36) (fr := (0, 0)) (heap_alloc_new w2 _)) (by simp [Value.oneCell']) (by omega) hn1 hn2 hbs (w2.heap.size + 1) (by simp) ?_; intro gg cp w3 hown3 hgrow hat hlt3
               have hwb3 := (blk2.alloc (.cells #[.pointer (some ⟨h, 0, none⟩)] 36)).grown hgrow wr2
               have hc3 := hwb3.cell 0
               simp at hc3
               have hf3 := hwb3.free 0)
  obtain ⟨K3, P3, F3⟩ := HK.out.push (((Below.refl _ _).alloc (Nat.le_refl _) _)) hown3 hgrow hat (by omega)
  have P3' := kx_push HP.out ⟨Fresh.refl _ _, Fresh.refl _ _, Fresh.refl _ _, Fresh.refl _ _, Fresh.refl _ _⟩ P3
  have F3' : Fresh w hv (.slice (some ⟨gg, 0, none⟩) (L.length + 1) cp) := (Fresh.refl w hv).trans F3 HP.out.size
  have HK3 := hide K3
  have HP3 := hide P3'
  have HF3 := hide F3'
  have hX2 : Hid (∀ b, X b → b < w.heap.size) := hX
  clear K3 P3 P3' F3 F3' own2 blk2 cw2 hwb3 hc3 hf3 hown3 hgrow hat hlt3 hX
  go_loopw [4, 5] (fun gv c w' => ∃ (n g : Nat) (hv' : Value) (L' : List Nat) (m : Int) (rv' pv' cv' nv' : Value) (rs' : List Nat), gv = .pointer (some ⟨g, 0, none⟩) ∧ c = .int .i64 n ∧ n ≤ 3 ∧ L'.length = L.length + 1 + n ∧ KeepSt w' base wb hv' L' X g m rv' pv' cv' nv' (nr + n) (np + n) (nc + n) (nn + n) rs' ∧ Frs w hv rv pv cv nv hv' rv' pv' cv' nv' ∧ Kp (KX wb h hv rv pv cv nv) w w') (fun _ c _ => 3 - (intOf c).toNat)
  case atStart => exact ⟨0, h, _, L ++ [h], _, rv, pv, cv, nv, rs, rfl, rfl, by omega, by simp, HK3.out, ⟨HF3.out, Fresh.refl _ _, Fresh.refl _ _, Fresh.refl _ _, Fresh.refl _ _⟩, HP3.out⟩
  case round =>
    clear HK3 HP3 HF3 HK HP
    obtain ⟨n, g, hv', L', m, rv', pv', cv', nv', rs', rfl, rfl, hn3, hL', hK, hFr, hKp⟩ := hrel
    by_cases hlt : n < 3
    · have l0 := hK.gb.cell 0
      have l1 := hK.gb.cell 1
      have l2 := hK.gb.cell 2
      have l3 := hK.gb.cell 3
      have l4 := hK.gb.cell 4
      simp at l0 l1 l2 l3 l4
      have hlong := longer_any base g m rv' pv' cv' nv' (nr + n) (np + n) (nc + n) (nn + n) rs' wr hK.sz l0 l1 l2 l3 l4 hK.g0 hK.g1 hK.g2 hK.g3 (by omega) (by omega) (by omega) (by omega) hK.fam
      have HKK := hide hK
      have HFR := hide hFr
      have HKP := hide hKp
      have HLG := hide hlong
      clear hlong hK hFr hKp l0 l1 l2 l3 l4
      go_wp2_with fail
      refine HLG.out.mono ?_
      rintro e w4 ⟨rv2, pv2, cv2, nv2, rfl, gb4, f4, a0, a1, a2, a3, lg⟩
      have K4 := HKK.out.long (fun b hb => Nat.lt_of_lt_of_le (hX2.out b hb) HKP.out.size) gb4 f4 a0 a1 a2 a3 lg
      have P4 := kx_long HKP.out HFR.out lg.kp
      have sz4 := HKP.out.size
      have R4 : Hid (Frs w hv rv pv cv nv hv' rv2 pv2 cv2 nv2) := ⟨HFR.out.h, HFR.out.r.trans a0.fresh sz4, HFR.out.p.trans a1.fresh sz4, HFR.out.c.trans a2.fresh sz4, HFR.out.n.trans a3.fresh sz4⟩
      have own4 := K4.wld.own
      have blk4 := K4.wld.blk
      have cw4 := blk4.cell 0
      simp at cw4
      have wr4 := K4.wld.wbrow
      have hwl4 := blk4.lt
      have hsz4 := K4.sz
      have hn1 : L'.length + 1 ≤ maxLen := by unfold maxLen; omega
      have hn2 : (L'.length + 1) * 8 ≤ 140737488355328 := by omega
      have hbs : base ≤ (w4.alloc (.cells #[.pointer (some ⟨wr.heap.size, 0, none⟩)] 36)).heap.size := by simp; omega
      have HK4 := hide K4
      have HP4 := hide P4
      clear K4 P4 gb4 f4 a0 a1 a2 a3 lg HKK HFR HKP HLG
      go_wp2_with (at_builtin; refine wpList_append_lies _ rfl _ _ _ rfl base 36 i0 _ 1 8 Tryz.underlying26 hi0 hz0 hz1 hz2 rfl (by omega) hv' L'.length _ rfl (own4.alloc _) ⟨w4.heap.size, 0, none⟩ 1 1 [.pointer (some ⟨wr.heap.size, 0, none⟩)] rfl rfl (World.news_of_block (cs := #[.pointer (some ⟨wr.heap.size, 0, none⟩)]) (t := 36) (fr := (0, 0)) (heap_alloc_new w4 _)) (by simp [Value.oneCell']) (by omega) hn1 hn2 hbs (w4.heap.size + 1) (by simp) ?_; intro gg cp w5 hown5 hgrow hat hlt5
                   have hwb5 := (blk4.alloc (.cells #[.pointer (some ⟨wr.heap.size, 0, none⟩)] 36)).grown hgrow wr4
                   have hc5 := hwb5.cell 0
                   simp at hc5
                   have hf5 := hwb5.free 0)
      obtain ⟨K5, P5, F5⟩ := HK4.out.push (((Below.refl _ _).alloc (Nat.le_refl _) _)) hown5 hgrow hat (by omega)
      have P5' := kx_push HP4.out R4.out P5
      have R5 : Frs w hv rv pv cv nv (.slice (some ⟨gg, 0, none⟩) (L'.length + 1) cp) rv2 pv2 cv2 nv2 := ⟨R4.out.h.trans F5 HP4.out.size, R4.out.r, R4.out.p, R4.out.c, R4.out.n⟩
      rw [hL'] at K5 P5' R5
      exact ⟨⟨n + 1, wr.heap.size, _, L' ++ [wr.heap.size], m, rv2, pv2, cv2, nv2, _, rfl, by go_num, by omega, by simp; omega, K5, R5, P5'⟩, by simp [intOf]; omega⟩
    · have en : n = 3 := by omega
      subst en
      have HKK := hide hK
      have HFR := hide hFr
      have HKP := hide hKp
      clear hK hFr hKp
      go_wp2
      go_end0
      exact ⟨rfl, hv', L', by omega, HKK.out.wld.weaken (fun b o u ⟨⟨x, _⟩, k1, k2⟩ _ => ⟨x, k1, k2⟩), HKP.out, HFR.out.h⟩
end Go.Proofs.YtnkcbephceollaaGreat
