import Derived.Test.YtnkcbephceollaaGreatH9
namespace Go.Proofs.YtnkcbephceollaaGreat
open Go.RowKit
set_option linter.unusedSimpArgs false
set_option linter.unusedVariables false

theorem list_rep3 {us : Array Value} {n : Nat} {m : Int} (hs : us.size = n * 3) (h : ∀ t, t < n → us[t * 3]? = some (.int .i64 0) ∧ us[t * 3 + 1]? = some (.int .i64 m) ∧ us[t * 3 + 2]? = some (.int .i64 0)) : us.toList = rep n (ptMk m) := by
  apply List.ext_getElem?
  intro i
  by_cases hi : i < n * 3
  · have e : i = i / 3 * 3 + i % 3 := by omega
    have ht : i / 3 < n := by omega
    have hm : i % 3 < 3 := Nat.mod_lt _ (by decide)
    have hr := rep_at n (i / 3) (i % 3) (ptMk m) ht hm
    obtain ⟨a0, a1, a2⟩ := h (i / 3) ht
    rw [Array.getElem?_toList]
    rw [e]
    generalize i / 3 = t at *
    generalize i % 3 = r at *
    rw [show (ptMk m).length = 3 from rfl] at hr
    rw [hr]
    match r, hm with
    | 0, _ => exact a0
    | 1, _ => exact a1
    | 2, _ => exact a2
  · rw [List.getElem?_eq_none (by simp; omega), List.getElem?_eq_none (by rw [rep_len]; simp; omega)]
theorem list_rings {us : Array Value} {n : Nat} {rg : Nat → Nat} (hs : us.size = n) (h : ∀ t, t < n → us[t]? = some (.slice (some ⟨rg t, 0, none⟩) 1 1)) : us.toList = (((List.range n).map rg).map fun g => .slice (some ⟨g, 0, none⟩) 1 1) := by
  apply List.ext_getElem?
  intro i
  by_cases hi : i < n
  · rw [Array.getElem?_toList, h i hi]
    simp [hi]
  · rw [List.getElem?_eq_none (by simp; omega), List.getElem?_eq_none (by simp; omega)]
theorem own_whole {w : World} {base b n s : Nat} {e : TypeId} {us : Array Value} {xs : List Value} (h : Blk w b us) (t : TyAt w b e) (hb : base ≤ b) (hn : n ≤ maxLen) (hs : us.size = n * s) (hx : us.toList = xs) : w.ownsRow base e s (.slice (some ⟨b, 0, none⟩) n n) n xs := by
  refine ⟨by rw [← hx, Array.length_toList]; exact hs, .inr ⟨b, n, us, rfl, hb, h.whole t, Nat.le_refl _, hn, hs, ?_⟩⟩
  rw [← hx]
  exact List.take_of_length_le (by rw [Array.length_toList, hs]; exact Nat.le_refl _)
theorem own_nil (w : World) (base : Nat) (e : TypeId) (s : Nat) : w.ownsRow base e s (.slice none 0 0) 0 [] := World.ownsRow_nil _ _ _ _
theorem nil_own (b : Nat) : (Value.slice none 0 0).ownBlock ≠ some b := by simp [Value.ownBlock]

/-- What 'marks' makes of a hold of rings. -/
theorem fam_rings (w : World) (base h rb n : Nat) (m m0 : Int) (vs : Array Value) (hne : rb ≠ h) (hn : n ≤ 1100000) (hb : base ≤ rb) (hsz : vs.size = n) (hh : Blk w h #[.slice (some ⟨rb, 0, none⟩) n n, .slice none 0 0, .slice none 0 0, .slice none 0 0, .int .i64 m0]) (hr : Blk w rb vs) (ht : TyAt w rb 57) :
    Calls Tryz.prog 54 #[.pointer (some ⟨h, 0, none⟩)] (w.setCell ⟨h, 4, none⟩ (.int .i64 m)) fun e w' => e = .returned (.tuple #[]) ∧ ∃ rs, Fam w' base m (.slice (some ⟨rb, 0, none⟩) n n) (.slice none 0 0) (.slice none 0 0) (.slice none 0 0) n 0 0 0 rs ∧ (∀ q ∈ rs, w.heap.size ≤ q) ∧ Kp (fun b => (Value.slice (some ⟨rb, 0, none⟩) n n).ownBlock = some b ∨ (Value.slice none 0 0).ownBlock = some b ∨ (Value.slice none 0 0).ownBlock = some b ∨ (Value.slice none 0 0).ownBlock = some b) (w.setCell ⟨h, 4, none⟩ (.int .i64 m)) w' := by
  have hh1 := hh.set 4 (by simp) (.int .i64 m)
  refine (marks_rings h rb n n 57 m vs (w.setCell ⟨h, 4, none⟩ (.int .i64 m)) hne (by omega) hsz (by simpa using hh1) (hr.off hne _ _) (ht.setCell _ _ _)).mono ?_
  rintro e w' ⟨rfl, us, rg, hus, hru, hmk, hty, hkp⟩
  have hrg : ∀ q ∈ (List.range n).map rg, ∃ t, t < n ∧ q = rg t := fun q hq => by
    obtain ⟨t, ht, rfl⟩ := List.mem_map.1 hq
    exact ⟨t, List.mem_range.1 ht, rfl⟩
  have hrl := hr.lt
  refine ⟨rfl, (List.range n).map rg, ⟨by simp, own_whole hru hty hb (by unfold maxLen; omega) (by omega) (list_rings hus (fun t ht => (hmk t ht).1)), fun q hq => ?_, own_nil _ _ _ _, own_nil _ _ _ _, own_nil _ _ _ _, fun q hq => ?_⟩, fun q hq => ?_, hkp.weaken fun b _ e => .inl (by simp [Value.ownBlock, e])⟩
  · obtain ⟨t, ht, rfl⟩ := hrg q hq
    have b := (hmk t ht).2.2
    exact ⟨b.cell 0, b.cell 1, b.cell 2⟩
  · obtain ⟨t, ht, rfl⟩ := hrg q hq
    have l := (hmk t ht).2.1
    simp at l
    exact ⟨fun e => by have : rb = rg t := Option.some.inj e; omega, nil_own _, nil_own _, nil_own _⟩
  · obtain ⟨t, ht, rfl⟩ := hrg q hq
    have l := (hmk t ht).2.1
    simpa using l
/-- What 'marks' makes of a hold of points. -/
theorem fam_points (w : World) (base h rb n : Nat) (m m0 : Int) (vs : Array Value) (hne : rb ≠ h) (hn : n ≤ 1100000) (hb : base ≤ rb) (hsz : vs.size = n * 3) (hh : Blk w h #[.slice none 0 0, .slice (some ⟨rb, 0, none⟩) n n, .slice none 0 0, .slice none 0 0, .int .i64 m0]) (hr : Blk w rb vs) (ht : TyAt w rb 31) :
    Calls Tryz.prog 54 #[.pointer (some ⟨h, 0, none⟩)] (w.setCell ⟨h, 4, none⟩ (.int .i64 m)) fun e w' => e = .returned (.tuple #[]) ∧ ∃ rs, Fam w' base m (.slice none 0 0) (.slice (some ⟨rb, 0, none⟩) n n) (.slice none 0 0) (.slice none 0 0) 0 n 0 0 rs ∧ (∀ q ∈ rs, w.heap.size ≤ q) ∧ Kp (fun b => (Value.slice none 0 0).ownBlock = some b ∨ (Value.slice (some ⟨rb, 0, none⟩) n n).ownBlock = some b ∨ (Value.slice none 0 0).ownBlock = some b ∨ (Value.slice none 0 0).ownBlock = some b) (w.setCell ⟨h, 4, none⟩ (.int .i64 m)) w' := by
  have hh1 := hh.set 4 (by simp) (.int .i64 m)
  refine (marks_points h rb n n 31 m vs (w.setCell ⟨h, 4, none⟩ (.int .i64 m)) hne (by omega) hsz (by simpa using hh1) (hr.off hne _ _) (ht.setCell _ _ _)).mono ?_
  rintro e w' ⟨rfl, us, hus, hru, hmk, hty, hkp⟩
  exact ⟨rfl, [], ⟨rfl, own_nil _ _ _ _, fun q hq => (by cases hq), own_whole hru hty hb (by unfold maxLen; omega) hus (list_rep3 hus hmk), own_nil _ _ _ _, own_nil _ _ _ _, fun q hq => (by cases hq)⟩, (fun q hq => by cases hq), hkp.weaken fun b _ e => .inr (.inl (by simp [Value.ownBlock, e]))⟩

/-- 'keep' of a list of rings that is the caller's. -/
theorem keep_rings (base wb rb n : Nat) (hv : Value) (L : List Nat) (X : Nat → Prop) (vs : Array Value) (w : World) (hL : L.length ≤ 1000000000000) (hn : n ≤ 1100000) (hX : ∀ b, X b → b < w.heap.size) (hbase : base ≤ w.heap.size)
    (hW : Wld w base wb hv L (FX (fun b _ => ¬ X b ∧ b ≠ rb) wb hv)) (hb : base ≤ rb) (hsz : vs.size = n) (hr : Blk w rb vs) (ht : TyAt w rb 57) (hx : ¬ X rb) (hvr : hv.ownBlock ≠ some rb) :
    Calls Tryz.prog 30 #[.pointer (some ⟨wb, 0, none⟩), .pointer (some ⟨w.heap.size, 0, none⟩)] (w.alloc (.cells #[.slice (some ⟨rb, 0, none⟩) n n, .slice none 0 0, .slice none 0 0, .slice none 0 0, .int .i64 0] 60)) fun e w' => e = .returned (.tuple #[]) ∧ ∃ hv' L', L'.length = L.length + 4 ∧ Wld w' base wb hv' L' (FX (fun b _ => ¬ X b) wb hv') ∧ Kp (fun b => b = wb ∨ hv.ownBlock = some b ∨ b = rb) w w' ∧ Fresh w hv hv' := by
  have hh := Blk.new w #[.slice (some ⟨rb, 0, none⟩) n n, .slice none 0 0, .slice none 0 0, .slice none 0 0, .int .i64 0] 60
  have hbl := (Below.refl w.heap.size w).alloc (Nat.le_refl _) (.cells #[.slice (some ⟨rb, 0, none⟩) n n, .slice none 0 0, .slice none 0 0, .slice none 0 0, .int .i64 0] 60)
  have hwl := hW.blk.lt
  have hrl := hr.lt
  have hrb : ∀ b, (Value.slice (some ⟨rb, 0, none⟩) n n).ownBlock = some b → b = rb := fun b e => (Option.some.inj e).symm
  have hW1 : Wld (w.alloc (.cells #[.slice (some ⟨rb, 0, none⟩) n n, .slice none 0 0, .slice none 0 0, .slice none 0 0, .int .i64 0] 60)) base wb hv L (FX (fun b _ => ¬ X b ∧ b ≠ w.heap.size ∧ (Value.slice (some ⟨rb, 0, none⟩) n n).ownBlock ≠ some b ∧ (Value.slice none 0 0).ownBlock ≠ some b ∧ (Value.slice none 0 0).ownBlock ≠ some b ∧ (Value.slice none 0 0).ownBlock ≠ some b) wb hv) := by
    refine hW.kp (X := fun _ => False) (Kp.of hbl) (fun e => e) (fun _ _ e => e) (fun b o u ⟨⟨x1, x2⟩, x3, x4⟩ hc => ?_)
    have hlt : b < w.heap.size := World.block_lt_of_cell? w ⟨b, o, none⟩ hc
    exact ⟨(hbl.cell (p := ⟨b, o, none⟩) hlt).trans hc, ⟨x1, by omega, fun e => x2 (hrb b e), nil_own _, nil_own _, nil_own _⟩, x3, x4⟩
  refine (keep_any base wb w.heap.size hv L X _ _ _ _ n 0 0 0 0 _ hL hn (by omega) (by omega) (by omega) (fun b e => by have := hX b e; simp; omega) hW1 hh (by omega) (fun e => by have := (hW.own.lt _ e).2; omega) (fun e => by have := hX _ e; omega) (fun e => by have := hrb _ e; omega) (nil_own _) (nil_own _) (nil_own _) ?_ (by simp; omega) ?_).mono ?_
  · intro b e
    rcases e with e | e | e | e
    · have := hrb b e; subst this; exact ⟨hx, hvr, by have := hW.lt; omega⟩
    · exact absurd e (nil_own _)
    · exact absurd e (nil_own _)
    · exact absurd e (nil_own _)
  · exact (fam_rings _ base w.heap.size rb n _ 0 vs (by omega) hn hb hsz hh (hr.alloc _) (ht.alloc _))
  · rintro e w' ⟨rfl, hv', L', hl, hW', hk, hf⟩
    refine ⟨rfl, hv', L', hl, hW', ⟨hk.os, hk.tape, hk.output, by have := hk.size; simp at this; omega, fun b hb hnx => ?_⟩, ?_⟩
    · refine (hk.block b (by simp; omega) (fun e => hnx ?_)).trans (hbl.block b hb)
      rcases e with e | e | e | e | e | e | e
      · exact .inl e
      · exact .inr (.inl e)
      · omega
      · exact .inr (.inr (hrb b e))
      · exact absurd e (nil_own _)
      · exact absurd e (nil_own _)
      · exact absurd e (nil_own _)
    · rcases hf with hf | ⟨k, hf, hk⟩
      · exact .inl hf
      · exact .inr ⟨k, hf, by simp at hk; omega⟩
/-- 'keep' of a list of points that is the caller's. -/
theorem keep_points (base wb rb n : Nat) (hv : Value) (L : List Nat) (X : Nat → Prop) (vs : Array Value) (w : World) (hL : L.length ≤ 1000000000000) (hn : n ≤ 1100000) (hX : ∀ b, X b → b < w.heap.size) (hbase : base ≤ w.heap.size)
    (hW : Wld w base wb hv L (FX (fun b _ => ¬ X b ∧ b ≠ rb) wb hv)) (hb : base ≤ rb) (hsz : vs.size = n * 3) (hr : Blk w rb vs) (ht : TyAt w rb 31) (hx : ¬ X rb) (hvr : hv.ownBlock ≠ some rb) :
    Calls Tryz.prog 30 #[.pointer (some ⟨wb, 0, none⟩), .pointer (some ⟨w.heap.size, 0, none⟩)] (w.alloc (.cells #[.slice none 0 0, .slice (some ⟨rb, 0, none⟩) n n, .slice none 0 0, .slice none 0 0, .int .i64 0] 60)) fun e w' => e = .returned (.tuple #[]) ∧ ∃ hv' L', L'.length = L.length + 4 ∧ Wld w' base wb hv' L' (FX (fun b _ => ¬ X b) wb hv') ∧ Kp (fun b => b = wb ∨ hv.ownBlock = some b ∨ b = rb) w w' ∧ Fresh w hv hv' := by
  have hh := Blk.new w #[.slice none 0 0, .slice (some ⟨rb, 0, none⟩) n n, .slice none 0 0, .slice none 0 0, .int .i64 0] 60
  have hbl := (Below.refl w.heap.size w).alloc (Nat.le_refl _) (.cells #[.slice none 0 0, .slice (some ⟨rb, 0, none⟩) n n, .slice none 0 0, .slice none 0 0, .int .i64 0] 60)
  have hwl := hW.blk.lt
  have hrl := hr.lt
  have hrb : ∀ b, (Value.slice (some ⟨rb, 0, none⟩) n n).ownBlock = some b → b = rb := fun b e => (Option.some.inj e).symm
  have hW1 : Wld (w.alloc (.cells #[.slice none 0 0, .slice (some ⟨rb, 0, none⟩) n n, .slice none 0 0, .slice none 0 0, .int .i64 0] 60)) base wb hv L (FX (fun b _ => ¬ X b ∧ b ≠ w.heap.size ∧ (Value.slice none 0 0).ownBlock ≠ some b ∧ (Value.slice (some ⟨rb, 0, none⟩) n n).ownBlock ≠ some b ∧ (Value.slice none 0 0).ownBlock ≠ some b ∧ (Value.slice none 0 0).ownBlock ≠ some b) wb hv) := by
    refine hW.kp (X := fun _ => False) (Kp.of hbl) (fun e => e) (fun _ _ e => e) (fun b o u ⟨⟨x1, x2⟩, x3, x4⟩ hc => ?_)
    have hlt : b < w.heap.size := World.block_lt_of_cell? w ⟨b, o, none⟩ hc
    exact ⟨(hbl.cell (p := ⟨b, o, none⟩) hlt).trans hc, ⟨x1, by omega, nil_own _, fun e => x2 (hrb b e), nil_own _, nil_own _⟩, x3, x4⟩
  refine (keep_any base wb w.heap.size hv L X _ _ _ _ 0 n 0 0 0 _ hL (by omega) hn (by omega) (by omega) (fun b e => by have := hX b e; simp; omega) hW1 hh (by omega) (fun e => by have := (hW.own.lt _ e).2; omega) (fun e => by have := hX _ e; omega) (nil_own _) (fun e => by have := hrb _ e; omega) (nil_own _) (nil_own _) ?_ (by simp; omega) ?_).mono ?_
  · intro b e
    rcases e with e | e | e | e
    · exact absurd e (nil_own _)
    · have := hrb b e; subst this; exact ⟨hx, hvr, by have := hW.lt; omega⟩
    · exact absurd e (nil_own _)
    · exact absurd e (nil_own _)
  · exact (fam_points _ base w.heap.size rb n _ 0 vs (by omega) hn hb hsz hh (hr.alloc _) (ht.alloc _))
  · rintro e w' ⟨rfl, hv', L', hl, hW', hk, hf⟩
    refine ⟨rfl, hv', L', hl, hW', ⟨hk.os, hk.tape, hk.output, by have := hk.size; simp at this; omega, fun b hb hnx => ?_⟩, ?_⟩
    · refine (hk.block b (by simp; omega) (fun e => hnx ?_)).trans (hbl.block b hb)
      rcases e with e | e | e | e | e | e | e
      · exact .inl e
      · exact .inr (.inl e)
      · omega
      · exact absurd e (nil_own _)
      · exact .inr (.inr (hrb b e))
      · exact absurd e (nil_own _)
      · exact absurd e (nil_own _)
    · rcases hf with hf | ⟨k, hf, hk⟩
      · exact .inl hf
      · exact .inr ⟨k, hf, by simp at hk; omega⟩
end Go.Proofs.YtnkcbephceollaaGreat
