import Derived.Test.YtnkcbephceollaaGreatQ24
import Derived.Test.YtnkcbephceollaaGreatF1
import Derived.Test.YtnkcbephceollaaGreatQ25
namespace Go.Proofs.YtnkcbephceollaaGreat
open Go.RowKit
set_option linter.unusedSimpArgs false
set_option linter.unusedVariables false

theorem set10 (u0 u1 u2 u3 u4 u5 u6 u7 u8 u9 : Value) : ∀ (o : Nat) (l : List Value), o + 10 ≤ l.length →
    ((((((((((l.set o u0).set (o + 1) u1).set (o + 2) u2).set (o + 3) u3).set (o + 4) u4).set (o + 5) u5).set (o + 6) u6).set (o + 7) u7).set (o + 8) u8).set (o + 9) u9) = l.take o ++ ([u0, u1, u2, u3, u4, u5, u6, u7, u8, u9] ++ l.drop (o + 10))
  | 0, l, h => by
    match l, h with
    | a0 :: a1 :: a2 :: a3 :: a4 :: a5 :: a6 :: a7 :: a8 :: a9 :: l', _ => simp
  | o + 1, l, h => by
    match l, h with
    | x :: l', h =>
      have ih := set10 u0 u1 u2 u3 u4 u5 u6 u7 u8 u9 o l' (by simp at h; omega)
      have e : ∀ j, o + 1 + j = o + j + 1 := fun j => by omega
      simp only [e, List.set_cons_succ, List.take_succ_cons, List.drop_succ_cons, List.cons_append]
      rw [ih]; rfl

abbrev set10W (w : World) (g o : Nat) (m : Int) : World := (((((((((w.setCell ⟨g, o, none⟩ (.int .i64 0)).setCell ⟨g, o + 1, none⟩ (.int .i64 0)).setCell ⟨g, o + 2, none⟩ (.int .i64 m)).setCell ⟨g, o + 3, none⟩ (.int .i64 0)).setCell ⟨g, o + 4, none⟩ (.int .i64 0)).setCell ⟨g, o + 5, none⟩ (.int .i64 0)).setCell ⟨g, o + 6, none⟩ (.bool false)).setCell ⟨g, o + 7, none⟩ (.bool false)).setCell ⟨g, o + 8, none⟩ (.bool false)).setCell ⟨g, o + 9, none⟩ (.bool false)
theorem own_set10 {w : World} {base g n cap k : Nat} {m : Int} {e : TypeId} {xs : List Value} (h : w.ownsRow base e 10 (.slice (some ⟨g, 0, none⟩) n cap) n (rep k (pcMk m) ++ xs.drop (k * 10))) (hxl : xs.length = n * 10) (hlt : k < n) :
    (set10W w g (k * 10) m).drew.ownsRow base e 10 (.slice (some ⟨g, 0, none⟩) n cap) n (rep (k + 1) (pcMk m) ++ xs.drop ((k + 1) * 10)) := by
  have hrl : (rep k (pcMk m)).length = k * 10 := by rw [rep_len]; rfl
  have e10 := set10 (.int .i64 0) (.int .i64 0) (.int .i64 m) (.int .i64 0) (.int .i64 0) (.int .i64 0) (.bool false) (.bool false) (.bool false) (.bool false) (k * 10) (rep k (pcMk m) ++ xs.drop (k * 10)) (by rw [List.length_append, hrl, List.length_drop]; omega)
  have t1 : (rep k (pcMk m) ++ xs.drop (k * 10)).take (k * 10) = rep k (pcMk m) := List.take_left' hrl
  have t2 : (rep k (pcMk m) ++ xs.drop (k * 10)).drop (k * 10 + 10) = xs.drop ((k + 1) * 10) := by
    rw [List.drop_append, hrl, List.drop_of_length_le (by omega), List.nil_append, List.drop_drop]
    congr 1; omega
  rw [t1, t2, ← List.append_assoc, ← rep_succ] at e10
  have o1 := own_set h g rfl (k * 10) (.int .i64 0)
  have o2 := own_set o1 g rfl (k * 10 + 1) (.int .i64 0)
  have o3 := own_set o2 g rfl (k * 10 + 2) (.int .i64 m)
  have o4 := own_set o3 g rfl (k * 10 + 3) (.int .i64 0)
  have o5 := own_set o4 g rfl (k * 10 + 4) (.int .i64 0)
  have o6 := own_set o5 g rfl (k * 10 + 5) (.int .i64 0)
  have o7 := own_set o6 g rfl (k * 10 + 6) (.bool false)
  have o8 := own_set o7 g rfl (k * 10 + 7) (.bool false)
  have o9 := own_set o8 g rfl (k * 10 + 8) (.bool false)
  have o10 := own_set o9 g rfl (k * 10 + 9) (.bool false)
  rw [e10] at o10
  generalize hW : set10W w g (k * 10) m = W
  have o11 : W.ownsRow base e 10 (.slice (some ⟨g, 0, none⟩) n cap) n (rep (k + 1) (pcMk m) ++ xs.drop ((k + 1) * 10)) := by rw [← hW]; exact o10
  exact o11
theorem kp_set10 {X : Nat → Prop} {w w' : World} {g o : Nat} {m : Int} (h : Kp X w w') (hg : X g) : Kp X w (set10W w' g o m).drew :=
  (((((((((((h.setCell (fun _ => hg) _).setCell (fun _ => hg) _).setCell (fun _ => hg) _).setCell (fun _ => hg) _).setCell (fun _ => hg) _).setCell (fun _ => hg) _).setCell (fun _ => hg) _).setCell (fun _ => hg) _).setCell (fun _ => hg) _).setCell (fun _ => hg) _)).drew

set_option maxRecDepth 100000 in
set_option maxHeartbeats 4000000 in
/-- The pieces of a hold are marked. -/
theorem marks_pieces (base h n : Nat) (m : Int) (cv : Value) (xs : List Value) (w : World) (hne : cv.ownBlock ≠ some h) (hn : n ≤ 1100000) (hh : Blk w h #[.slice none 0 0, .slice none 0 0, cv, .slice none 0 0, .int .i64 m]) (hc : w.ownsRow base 55 10 cv n xs) :
    Calls Tryz.prog 54 #[.pointer (some ⟨h, 0, none⟩)] w fun e w' => e = .returned (.tuple #[]) ∧ w'.ownsRow base 55 10 cv n (rep n (pcMk m)) ∧ Kp (fun b => cv.ownBlock = some b) w w' := by
  obtain ⟨a, cap, hcv, hag⟩ : ∃ a cap, cv = .slice a n cap ∧ (0 < n → ∃ g, a = some ⟨g, 0, none⟩) := by
    rcases hc.2 with ⟨rfl, hn⟩ | ⟨g, cap, cur, rfl, _⟩
    · exact ⟨none, 0, by rw [hn], fun h => by omega⟩
    · exact ⟨some ⟨g, 0, none⟩, cap, rfl, fun _ => ⟨g, rfl⟩⟩
  subst hcv
  have hxl : xs.length = n * 10 := hc.1
  obtain ⟨d0, d1, d2, d3, d4⟩ := And.intro (hh.cell 0) (And.intro (hh.cell 1) (And.intro (hh.cell 2) (And.intro (hh.cell 3) (hh.cell 4))))
  simp at d0 d1 d2 d3 d4
  go_enter Tryz.func54, Tryz.ntmps54
  go_wp2_with fail
  refine wp_loop_rounds 1 ?_
  rw [rounds_succ]
  go_wp2_with fail
  refine wp_loop_rounds 1 ?_
  rw [rounds_succ]
  go_wp2_with fail
  go_loopw [4] (fun i w' => ∃ k : Nat, i = .int .i64 k ∧ k ≤ n ∧ w'.ownsRow base 55 10 (.slice a n cap) n (rep k (pcMk m) ++ xs.drop (k * 10)) ∧ Kp (fun b => (Value.slice a n cap).ownBlock = some b) w w') (fun i _ => n - (intOf i).toNat)
  case atStart => exact ⟨0, rfl, Nat.zero_le _, by simpa [rep] using hc, Kp.refl _ _⟩
  case round =>
    obtain ⟨k, rfl, hk, hO, hkp⟩ := hrel
    have hcell : ∀ o, wr.cell? ⟨h, o, none⟩ = w.cell? ⟨h, o, none⟩ := fun o => World.cell?_of_block (w := w) (hkp.block h hh.lt hne)
    have c0 := (hcell 0).trans d0
    have c1 := (hcell 1).trans d1
    have c2 := (hcell 2).trans d2
    have c3 := (hcell 3).trans d3
    have c4 := (hcell 4).trans d4
    clear hcell d0 d1 d2 d3 d4
    by_cases hlt : k < n
    · obtain ⟨g, rfl⟩ := hag (by omega)
      have hl := (hO.lt g rfl).2
      have hf : ∀ o, wr.frozen? ⟨g, o, none⟩ = false := fun o => own_free hO g rfl o
      have hx : ∀ t, t < 10 → ∃ u, wr.cell? ⟨g, k * 10 + t, none⟩ = some u := fun t ht => by
        have := hO.cellAt (k * 10 + t) (by omega)
        rw [List.getElem?_eq_getElem (by rw [List.length_append, rep_len, List.length_drop]; simp [pcMk]; omega)] at this
        exact ⟨_, this⟩
      obtain ⟨x0, hx0⟩ := hx 0 (by decide)
      obtain ⟨x1, hx1⟩ := hx 1 (by decide)
      obtain ⟨x2, hx2⟩ := hx 2 (by decide)
      obtain ⟨x3, hx3⟩ := hx 3 (by decide)
      obtain ⟨x4, hx4⟩ := hx 4 (by decide)
      obtain ⟨x5, hx5⟩ := hx 5 (by decide)
      obtain ⟨x6, hx6⟩ := hx 6 (by decide)
      obtain ⟨x7, hx7⟩ := hx 7 (by decide)
      obtain ⟨x8, hx8⟩ := hx 8 (by decide)
      obtain ⟨x9, hx9⟩ := hx 9 (by decide)
      simp only [Nat.add_zero] at hx0
      have hhl : h < wr.heap.size := Nat.lt_of_lt_of_le hh.lt hkp.size
      have hgh : g ≠ h := fun e => hne (by rw [e]; rfl)
      have hk0 : (0 : Int) ≤ (k : Int) := Int.natCast_nonneg _
      have hk1 : (k : Int) < (n : Int) := by omega
      have hk2 : k + 1 ≤ n := hlt
      have HO := hide (own_set10 hO hxl hlt)
      have HKP := hide (kp_set10 (g := g) (o := k * 10) (m := m) hkp rfl)
      clear hO hkp hx hag
      go_wp2_with fail
      go_region
      go_wp2
      exact ⟨⟨k + 1, by go_num, hk2, HO.out, HKP.out⟩, by simp [intOf]; omega⟩
    · have ek : k = n := by omega
      subst ek
      have HO : Hid (wr.ownsRow base 55 10 (.slice a k cap) k (rep k (pcMk m))) := by
        have : rep k (pcMk m) ++ xs.drop (k * 10) = rep k (pcMk m) := by rw [List.drop_of_length_le (by omega), List.append_nil]
        rw [this] at hO
        exact hO
      have HKP := hide hkp
      clear hO hkp hag
      go_wp2_with fail
      refine wp_loop_rounds 1 ?_
      rw [rounds_succ]
      go_wp2
      go_end0
      exact ⟨rfl, HO.out, HKP.out⟩
end Go.Proofs.YtnkcbephceollaaGreat
namespace Go.Proofs.YtnkcbephceollaaGreat
open Go.RowKit
set_option linter.unusedSimpArgs false
set_option linter.unusedVariables false

theorem own_off {w : World} {base : Nat} {e : TypeId} {s n : Nat} {v : Value} {xs : List Value} (h : w.ownsRow base e s v n xs) {b : Nat} (hb : v.ownBlock ≠ some b) (o : Nat) (u : Value) : (w.setCell ⟨b, o, none⟩ u).ownsRow base e s v n xs :=
  ownsRow_setCell_other (a := ⟨b, o, none⟩) h hb u
/-- What 'marks' makes of a hold of pieces. -/
theorem fam_pieces (w : World) (base h n : Nat) (m m0 : Int) (cv : Value) (xs : List Value) (hne : cv.ownBlock ≠ some h) (hn : n ≤ 1100000) (hh : Blk w h #[.slice none 0 0, .slice none 0 0, cv, .slice none 0 0, .int .i64 m0]) (hc : w.ownsRow base 55 10 cv n xs) :
    Calls Tryz.prog 54 #[.pointer (some ⟨h, 0, none⟩)] (w.setCell ⟨h, 4, none⟩ (.int .i64 m)) fun e w' => e = .returned (.tuple #[]) ∧ ∃ rs, Fam w' base m (.slice none 0 0) (.slice none 0 0) cv (.slice none 0 0) 0 0 n 0 rs ∧ (∀ q ∈ rs, w.heap.size ≤ q) ∧ Kp (fun b => (Value.slice none 0 0).ownBlock = some b ∨ (Value.slice none 0 0).ownBlock = some b ∨ cv.ownBlock = some b ∨ (Value.slice none 0 0).ownBlock = some b) (w.setCell ⟨h, 4, none⟩ (.int .i64 m)) w' := by
  have hh1 := hh.set 4 (by simp) (.int .i64 m)
  refine (marks_pieces base h n m cv xs (w.setCell ⟨h, 4, none⟩ (.int .i64 m)) hne hn (by simpa using hh1) (own_off hc hne _ _)).mono ?_
  rintro e w' ⟨rfl, ho, hkp⟩
  exact ⟨rfl, [], ⟨rfl, own_nil _ _ _ _, fun q hq => (by cases hq), own_nil _ _ _ _, ho, own_nil _ _ _ _, fun q hq => (by cases hq)⟩, (fun q hq => by cases hq), hkp.weaken fun b _ e => .inr (.inr (.inl e))⟩
/-- 'keep' of a list of pieces that came out. -/
theorem keep_pieces (base wb n : Nat) (hv cv : Value) (L : List Nat) (X : Nat → Prop) (xs : List Value) (w : World) (hL : L.length ≤ 1000000000000) (hn : n ≤ 1100000) (hX : ∀ b, X b → b < w.heap.size) (hbase : base ≤ w.heap.size)
    (hW : Wld w base wb hv L (FX (fun b _ => ¬ X b ∧ cv.ownBlock ≠ some b) wb hv)) (hc : w.ownsRow base 55 10 cv n xs) (hx : ∀ b, cv.ownBlock = some b → ¬ X b ∧ hv.ownBlock ≠ some b) :
    Calls Tryz.prog 30 #[.pointer (some ⟨wb, 0, none⟩), .pointer (some ⟨w.heap.size, 0, none⟩)] (w.alloc (.cells #[.slice none 0 0, .slice none 0 0, cv, .slice none 0 0, .int .i64 0] 60)) fun e w' => e = .returned (.tuple #[]) ∧ ∃ hv' L', L'.length = L.length + 4 ∧ Wld w' base wb hv' L' (FX (fun b _ => ¬ X b) wb hv') ∧ Kp (fun b => b = wb ∨ hv.ownBlock = some b ∨ cv.ownBlock = some b) w w' ∧ Fresh w hv hv' := by
  have hh := Blk.new w #[.slice none 0 0, .slice none 0 0, cv, .slice none 0 0, .int .i64 0] 60
  have hbl := (Below.refl w.heap.size w).alloc (Nat.le_refl _) (.cells #[.slice none 0 0, .slice none 0 0, cv, .slice none 0 0, .int .i64 0] 60)
  have hwl := hW.blk.lt
  have hcl : ∀ b, cv.ownBlock = some b → base ≤ b ∧ b < w.heap.size := fun b e => hc.lt b e
  have hW1 : Wld (w.alloc (.cells #[.slice none 0 0, .slice none 0 0, cv, .slice none 0 0, .int .i64 0] 60)) base wb hv L (FX (fun b _ => ¬ X b ∧ b ≠ w.heap.size ∧ (Value.slice none 0 0).ownBlock ≠ some b ∧ (Value.slice none 0 0).ownBlock ≠ some b ∧ cv.ownBlock ≠ some b ∧ (Value.slice none 0 0).ownBlock ≠ some b) wb hv) := by
    refine hW.kp (X := fun _ => False) (Kp.of hbl) (fun e => e) (fun _ _ e => e) (fun b o u ⟨⟨x1, x2⟩, x3, x4⟩ hc => ?_)
    have hlt : b < w.heap.size := World.block_lt_of_cell? w ⟨b, o, none⟩ hc
    exact ⟨(hbl.cell (p := ⟨b, o, none⟩) hlt).trans hc, ⟨x1, by omega, nil_own _, nil_own _, x2, nil_own _⟩, x3, x4⟩
  refine (keep_any base wb w.heap.size hv L X _ _ _ _ 0 0 n 0 0 _ hL (by omega) (by omega) hn (by omega) (fun b e => by have := hX b e; simp; omega) hW1 hh (by omega) (fun e => by have := (hW.own.lt _ e).2; omega) (fun e => by have := hX _ e; omega) (nil_own _) (nil_own _) (fun e => by have := hcl _ e; omega) (nil_own _) ?_ (by simp; omega) ?_).mono ?_
  · intro b e
    rcases e with e | e | e | e
    · exact absurd e (nil_own _)
    · exact absurd e (nil_own _)
    · exact ⟨(hx b e).1, (hx b e).2, by have := hW.lt; have := hcl b e; omega⟩
    · exact absurd e (nil_own _)
  · exact (fam_pieces _ base w.heap.size n _ 0 cv xs (fun e => by have := hcl _ e; omega) hn hh (hc.alloc _))
  · rintro e w' ⟨rfl, hv', L', hl, hW', hk, hf⟩
    refine ⟨rfl, hv', L', hl, hW', ⟨hk.os, hk.tape, hk.output, by have := hk.size; simp at this; omega, fun b hb hnx => ?_⟩, ?_⟩
    · refine (hk.block b (by simp; omega) (fun e => hnx ?_)).trans (hbl.block b hb)
      rcases e with e | e | e | e | e | e | e
      · exact .inl e
      · exact .inr (.inl e)
      · omega
      · exact absurd e (nil_own _)
      · exact absurd e (nil_own _)
      · exact .inr (.inr e)
      · exact absurd e (nil_own _)
    · rcases hf with hf | ⟨k, hf, hk⟩
      · exact .inl hf
      · exact .inr ⟨k, hf, by simp at hk; omega⟩
end Go.Proofs.YtnkcbephceollaaGreat
namespace Go.Proofs.YtnkcbephceollaaGreat
open Go.RowKit
set_option linter.unusedSimpArgs false
set_option linter.unusedVariables false

/-- What is handed in lies as it lay, where none of its blocks is touched. -/
theorem ArgAt.kp {w1 w w' : World} {s0 pb rb wl xb : Nat} {rg : Nat → Nat} {P : List (List Pt)} {vs us : Array Value} {X : Nat → Prop} (h1 : ArgAt w1 s0 pb rb wl xb rg P vs us) (h : ArgAt w s0 pb rb wl xb rg P vs us) (k : Kp X w w') (hx : ∀ b, s0 ≤ b → b < w1.heap.size → ¬ X b) : ArgAt w' s0 pb rb wl xb rg P vs us := by
  have a1 := h1.rbase
  have a2 := h1.wbase
  have a3 := h1.rp
  have a4 := h1.wp
  have a5 := h1.pbx
  have hp : ∀ t, t < P.length → s0 ≤ rg t ∧ rg t < w1.heap.size := fun t ht => ⟨by have := (h1.hand.ord t ht).1; omega, (h1.hand.pts t ht).lt⟩
  refine ⟨⟨Kp.blk h.hand.pbk k (hx _ (by omega) h1.hand.pbk.lt), Kp.blk h.hand.rbk k (hx _ a1 h1.hand.rbk.lt), Kp.blk h.hand.wbk k (hx _ a2 h1.hand.wbk.lt), h.hand.vsz, h.hand.usz, h.hand.vat, h.hand.uat, fun t ht => Kp.blk (h.hand.pts t ht) k (hx _ (hp t ht).1 (hp t ht).2), h.hand.ord, h.hand.rty.same (k.block rb h.hand.rbk.lt (hx _ a1 h1.hand.rbk.lt)), fun t ht => (h.hand.pty t ht).same (k.block (rg t) (h.hand.pts t ht).lt (hx _ (hp t ht).1 (hp t ht).2))⟩, h.last, Kp.blk h.xbk k (hx _ (by omega) h1.xbk.lt), h.xord, h.pbx, h.rbase, h.wbase, h.rp, h.wp, h.rw'⟩
end Go.Proofs.YtnkcbephceollaaGreat
namespace Go.Proofs.YtnkcbephceollaaGreat
open Go.RowKit
set_option linter.unusedSimpArgs false
set_option linter.unusedVariables false

set_option maxHeartbeats 1000000 in
theorem sideOf_any (p q a b : Pt) (w : World) (hp : Gd p) (hq : Gd q) (ha : Gd a) (hb : Gd b) :
    Calls Tryz.prog 114 #[p.v, q.v, sg a b] w fun e w' => e = .returned (.int .i64 (sideOfM p q a b)) ∧ Below w.heap.size w w' := by
  by_cases h : sideM a b p = 0
  · have H : Hid (sideOfM p q a b = sideM a b q) := by unfold sideOfM; rw [if_neg (by simpa using h)]; exact hide rfl
    have h' : (sideM a b p != 0) = false := by simpa using h
    go_enter Tryz.func114, Tryz.ntmps114
    go_wp2_with fail
    refine (segSide_any a b p _ ha hb hp).mono ?_
    rintro e w1 ⟨rfl, k⟩
    have B1 := bvia (below3 _ _ _ _) k
    obtain ⟨cq, fq, zq⟩ := ((Blk.at (w.heap.size + 1) (by simp)).alloc _).call k
    obtain ⟨ce, fe, ze⟩ := (Blk.at (w.heap.size + 1 + 1) (by simp)).call k
    clear k
    go_wp2_with fail
    refine (segSide_any a b q _ ha hb hq).mono ?_
    rintro e w2 ⟨rfl, k⟩
    have B2 := bvia B1 k
    clear k cq fq ce fe B1
    go_wp2
    go_ret
    exact ⟨ret_int H.out.symm, B2⟩
  · have H : Hid (sideOfM p q a b = sideM a b p) := by unfold sideOfM; rw [if_pos h]; exact hide rfl
    have h' : (sideM a b p != 0) = true := by simpa using h
    go_enter Tryz.func114, Tryz.ntmps114
    go_wp2_with fail
    refine (segSide_any a b p _ ha hb hp).mono ?_
    rintro e w1 ⟨rfl, k⟩
    have B1 := bvia (below3 _ _ _ _) k
    clear k
    go_wp2
    go_ret
    exact ⟨ret_int H.out.symm, B1⟩

theorem par_drop (f : Pt → Pt → Bool) (E : List (Pt × Pt)) (k : Nat) (hk : k < E.length) : parB f (E.drop k) = (f (E.getD k (zP, zP)).1 (E.getD k (zP, zP)).2 ^^ parB f (E.drop (k + 1))) := by
  rw [List.drop_eq_getElem_cons hk, List.getD_eq_getElem?_getD, List.getElem?_eq_getElem hk]; rfl

set_option maxRecDepth 100000 in
set_option maxHeartbeats 4000000 in
theorem cutSides_any (p q : Pt) (v : Value) (E : List (Pt × Pt)) (w : World) (hE : SegsAt w v E) (hG : GdE E) (hp : Gd p) (hq : Gd q) :
    Calls Tryz.prog 90 #[p.v, q.v, v] w fun e w' => e = .returned (.tuple #[.bool (parB (leftE p q) E), .bool (parB (rightE p q) E)]) ∧ Below w.heap.size w w' := by
  obtain ⟨a, cap, rfl, h1, h2, h3⟩ := hE
  unfold maxLen at h2
  have H3 := hide h3
  have HG := hide hG
  clear h3 hG
  go_enter Tryz.func90, Tryz.ntmps90
  go_wp2_with fail
  go_loopw [8, 9, 11, 12, 15] (fun lv rv _ _ iv w' => ∃ (k : Nat) (x y : Bool), iv = .int .i64 k ∧ lv = .bool x ∧ rv = .bool y ∧ k ≤ E.length ∧ Blk w' w.heap.size #[.int .i64 p.x, .int .i64 p.y, .int .i64 p.d] ∧ Blk w' (w.heap.size + 1) #[.int .i64 q.x, .int .i64 q.y, .int .i64 q.d] ∧ Below w.heap.size w w' ∧ Hid (parB (leftE p q) E = (x ^^ parB (leftE p q) (E.drop k))) ∧ Hid (parB (rightE p q) E = (y ^^ parB (rightE p q) (E.drop k)))) (fun _ _ _ _ iv _ => E.length - (intOf iv).toNat)
  case atStart => exact ⟨0, false, false, rfl, rfl, rfl, Nat.zero_le _, (Blk.new w _ _).alloc _, Blk.at (w.heap.size + 1) (by simp), below2 _ _ _, by simp [hide], by simp [hide]⟩
  case round =>
    obtain ⟨k, x, y, rfl, rfl, rfl, hk, ⟨cp, fp, zp⟩, ⟨cq, fq, zq⟩, hbel, HL, HR⟩ := hrel
    by_cases hlt : k < E.length
    · obtain ⟨b, off, rfl, hb, hs⟩ := H3.out k hlt
      obtain ⟨c0, c1, c2, c3, c4, c5⟩ := hs.later hbel hb
      obtain ⟨g1, g2⟩ := HG.out k hlt
      have HL1 := hide (par_drop (leftE p q) E k hlt)
      have HR1 := hide (par_drop (rightE p q) E k hlt)
      generalize E.getD k (zP, zP) = e at *
      have HLe := hide (show leftE p q e.1 e.2 = (spanM e.1 e.2 p && decide (sideOfM p q e.1 e.2 < 0)) from rfl)
      have HRe := hide (show rightE p q e.1 e.2 = (spanM e.1 e.2 p && decide (sideOfM p q e.1 e.2 ≤ 0)) from rfl)
      clear hs
      go_wp2_with fail
      refine (Spans_any e.1 e.2 p _ g1 g2 hp).mono ?_
      rintro e' w1 ⟨rfl, k1⟩
      have B1 := bvia (hbel.alloc hbel.size _) k1
      have P1 := ((Blk.mk cp fp zp).alloc _).call k1
      have Q1 := ((Blk.mk cq fq zq).alloc _).call k1
      obtain ⟨ce, fe, ze⟩ := (Blk.new wr _ _).call k1
      obtain ⟨cp1, fp1, zp1⟩ := id P1
      obtain ⟨cq1, fq1, zq1⟩ := id Q1
      clear k1 c0 c1 c2 c3 c4 c5 cp fp zp cq fq zq hbel
      cases hsp : spanM e.1 e.2 p
      · have HE : Hid (parB (leftE p q) E = (x ^^ parB (leftE p q) (E.drop (k + 1)))) := HL.out.trans (by rw [HL1.out, HLe.out, hsp]; simp)
        have HF : Hid (parB (rightE p q) E = (y ^^ parB (rightE p q) (E.drop (k + 1)))) := HR.out.trans (by rw [HR1.out, HRe.out, hsp]; simp)
        clear HL HR HL1 HR1 HLe HRe
        go_wp2
        go_roundw
        case rel => exact ⟨k + 1, x, y, by go_num, rfl, rfl, by omega, P1, Q1, B1, HE, HF⟩
        case measure => simp [intOf]; omega
      · go_wp2_with fail
        refine (sideOf_any p q e.1 e.2 _ hp hq g1 g2).mono ?_
        rintro e' w2 ⟨rfl, k2⟩
        have B2 := bvia B1 k2
        have P2 := P1.call k2
        have Q2 := Q1.call k2
        clear k2 cp1 fp1 zp1 cq1 fq1 zq1 ce fe ze B1 P1 Q1
        generalize sideOfM p q e.1 e.2 = sd at *
        rcases Int.lt_trichotomy sd 0 with c | c | c
        · have HE : Hid (parB (leftE p q) E = ((!x) ^^ parB (leftE p q) (E.drop (k + 1)))) := HL.out.trans (by rw [HL1.out, HLe.out, hsp, decide_eq_true c]; simp)
          have HF : Hid (parB (rightE p q) E = ((!y) ^^ parB (rightE p q) (E.drop (k + 1)))) := HR.out.trans (by rw [HR1.out, HRe.out, hsp, decide_eq_true (by omega : sd ≤ 0)]; simp)
          have c' : sd ≤ 0 := by omega
          clear HL HR HL1 HR1 HLe HRe
          go_wp2
          go_roundw
          case rel => exact ⟨k + 1, !x, !y, by go_num, rfl, rfl, by omega, P2, Q2, B2, HE, HF⟩
          case measure => simp [intOf]; omega
        · subst c
          have HE : Hid (parB (leftE p q) E = (x ^^ parB (leftE p q) (E.drop (k + 1)))) := HL.out.trans (by rw [HL1.out, HLe.out, hsp]; simp)
          have HF : Hid (parB (rightE p q) E = ((!y) ^^ parB (rightE p q) (E.drop (k + 1)))) := HR.out.trans (by rw [HR1.out, HRe.out, hsp]; simp)
          clear HL HR HL1 HR1 HLe HRe
          go_wp2
          go_roundw
          case rel => exact ⟨k + 1, x, !y, by go_num, rfl, rfl, by omega, P2, Q2, B2, HE, HF⟩
          case measure => simp [intOf]; omega
        · have HE : Hid (parB (leftE p q) E = (x ^^ parB (leftE p q) (E.drop (k + 1)))) := HL.out.trans (by rw [HL1.out, HLe.out, hsp, decide_eq_false (by omega : ¬ sd < 0)]; simp)
          have HF : Hid (parB (rightE p q) E = (y ^^ parB (rightE p q) (E.drop (k + 1)))) := HR.out.trans (by rw [HR1.out, HRe.out, hsp, decide_eq_false (by omega : ¬ sd ≤ 0)]; simp)
          have c1 : ¬ sd < 0 := by omega
          have c2 : ¬ sd ≤ 0 := by omega
          clear HL HR HL1 HR1 HLe HRe
          go_wp2
          go_roundw
          case rel => exact ⟨k + 1, x, y, by go_num, rfl, rfl, by omega, P2, Q2, B2, HE, HF⟩
          case measure => simp [intOf]; omega
    · have HE : Hid (parB (leftE p q) E = x) := HL.out.trans (by rw [List.drop_of_length_le (by omega)]; simp [parB])
      have HF : Hid (parB (rightE p q) E = y) := HR.out.trans (by rw [List.drop_of_length_le (by omega)]; simp [parB])
      clear HL HR
      go_wp2
      go_ret2
      exact ⟨by rw [HE.out, HF.out]; rfl, hbel⟩
end Go.Proofs.YtnkcbephceollaaGreat
