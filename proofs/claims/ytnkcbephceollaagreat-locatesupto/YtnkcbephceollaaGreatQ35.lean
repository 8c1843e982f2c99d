import Derived.Test.YtnkcbephceollaaGreatK1
import Derived.Test.YtnkcbephceollaaGreatR6
namespace Go.Proofs.YtnkcbephceollaaGreat
open Go.RowKit
set_option linter.unusedSimpArgs false
set_option linter.unusedVariables false

theorem ptCells_size (r : List Pt) (p : Pt) : (ptCells (r ++ [p])).toArray.size = (r.length + 1) * 3 := by
  rw [List.size_toArray, ptCells_len]
  simp

set_option maxRecDepth 100000 in
set_option maxHeartbeats 4000000 in
theorem keepArg_gen (base wb s0 s1 pb rb wl xb : Nat) (X : Nat → Prop) (rg : Nat → Nat) (hv : Value) (L : List Nat) (P : List (List Pt)) (vs us : Array Value) (w : World)
    (hn : P.length ≤ 1048576) (hS : ∀ i, i < P.length → (P.getD i []).length ≤ 1048576) (hL : L.length + 4 * P.length + 4 ≤ 1000000000000) (hs0 : base ≤ s0) (hbase : base ≤ w.heap.size) (hlo : ∀ b, hv.ownBlock = some b → b < s0 ∨ s1 ≤ b) (hs1 : s1 ≤ w.heap.size) (hpb : pb < s1) (hrg : ∀ t, t < P.length → rg t < s1) (hX : ∀ b, X b → (b < s0 ∨ s1 ≤ b) ∧ b < w.heap.size)
    (hW : Wld w base wb hv L (FX (fun b _ => (b < s0 ∨ s1 ≤ b) ∧ ¬ X b) wb hv)) (hA : ArgAt w s0 pb rb wl xb rg P vs us) :
    Calls Tryz.prog 25 #[.pointer (some ⟨wb, 0, none⟩), .pointer (some ⟨pb, 0, none⟩)] w fun e w' => e = .returned (.tuple #[]) ∧ ∃ hv' L', L'.length = L.length + 4 + 4 * P.length ∧ Wld w' base wb hv' L' (FX (fun b _ => ¬ X b) wb hv') ∧ Kp (fun b => b = wb ∨ hv.ownBlock = some b ∨ (s0 ≤ b ∧ b < s1)) w w' ∧ Fresh w hv hv' := by
  have hrb := hA.rbase
  have hwb := hA.wbase
  have hrp := hA.rp
  have hwp := hA.wp
  have hrw := hA.rw'
  have ho := hA.hand.ord
  have hvs := hA.hand.vsz
  have hpk := hA.hand.pbk
  have hrk := hA.hand.rbk
  have hwk := hA.hand.wbk
  have huat := hA.hand.uat
  have hpts := hA.hand.pts
  have hrty := hA.hand.rty
  have hpty := hA.hand.pty
  have hwlt := hW.lt
  have p0 := hpk.cell 0
  simp at p0
  have hpl := hpk.lt
  have hwbl := hW.blk.lt
  have hK0 := keep_rings base wb rb (P.length + 1) hv L (fun b => X b ∨ ∃ t, t < P.length ∧ b = rg t) vs w (by omega) (by omega) (fun b e => by
      rcases e with e | ⟨t, ht, e⟩
      · exact (hX b e).2
      · subst e; exact (hpts t ht).lt) hbase
    (hW.weaken (fun b o u ⟨⟨x, z⟩, y⟩ hc => ⟨⟨fun e => by
      rcases e with e | ⟨t, ht, e⟩
      · exact z e
      · have := (ho t ht).1; have := hrg t ht; omega, by omega⟩, y⟩)) (by omega) hvs hrk hrty (fun e => by
      rcases e with e | ⟨t, ht, e⟩
      · have := (hX _ e).1; omega
      · have := (ho t ht).1; omega) (fun e => by have := hlo _ e; omega)
  have HK0 := hide hK0
  have HA := hide hA
  have HO := hide ho
  have HP := hide hpts
  have HT := hide hpty
  have HU := hide huat
  have HLO := hide hlo
  have HRG := hide hrg
  have HX := hide hX
  clear hK0 hA ho hvs hrk huat hpts hpty hlo hrty hW hrg hX
  go_enter Tryz.func25, Tryz.ntmps25
  go_wp2_with fail
  refine HK0.out.mono ?_
  rintro e w1 ⟨rfl, hv1, L1, hl1, hW1, hk1, hf1⟩
  have hsz1 := hk1.size
  have k1 : Kp (fun b => b = wb ∨ hv.ownBlock = some b ∨ (s0 ≤ b ∧ b < s1) ∨ w.heap.size ≤ b) w w1 := hk1.weaken fun b _ e => by
    rcases e with e | e | e
    · exact .inl e
    · exact .inr (.inl e)
    · exact .inr (.inr (.inl (by omega)))
  have far : ∀ b, s0 ≤ b → b < s1 → b ≠ rb → ¬ (b = wb ∨ hv.ownBlock = some b ∨ b = rb) := fun b hb hb1 hne e => by
    rcases e with e | e | e
    · omega
    · have := HLO.out b e; omega
    · exact hne e
  have q0 : Hid (Blk w1 pb #[.slice (some ⟨rb, 0, none⟩) (P.length + 1) (P.length + 1), .slice (some ⟨wl, 0, none⟩) P.length P.length]) := Kp.blk hpk hk1 (far pb (by omega) (by omega) (by omega))
  have q1 : Hid (Blk w1 wl us) := Kp.blk hwk hk1 (far wl (by omega) (by omega) (by omega))
  have q2 : Hid (∀ t, 0 ≤ t → t < P.length → Blk w1 (rg t) (ptCells (P.getD t [] ++ [bynd])).toArray ∧ TyAt w1 (rg t) 31) := fun t _ ht => by
    have o := (HO.out t ht).1
    have f := far (rg t) (by omega) (HRG.out t ht) (by omega)
    exact ⟨Kp.blk (HP.out t ht) hk1 f, (HT.out t ht).same (hk1.block (rg t) (HP.out t ht).lt f)⟩
  have HW1 := hide (hW1.weaken (F' := FX (fun b _ => ¬ X b ∧ ∀ t, 0 ≤ t → t < P.length → b ≠ rg t) wb hv1) (fun b o u ⟨x, y⟩ hc => ⟨⟨fun e => x (.inl e), fun t _ ht e => x (.inr ⟨t, ht, e⟩)⟩, y⟩))
  have HF1 := hide hf1
  have HKP := hide k1
  clear hW1 hf1 k1 hk1 far hpk hwk p0 HK0
  go_wp2_with fail
  go_loopw [4] (fun c w' => ∃ (i : Nat) (hv' : Value) (L' : List Nat), c = .int .i64 i ∧ i ≤ P.length ∧ L'.length = L.length + 4 + 4 * i ∧ Wld w' base wb hv' L' (FX (fun b _ => ¬ X b ∧ ∀ t, i ≤ t → t < P.length → b ≠ rg t) wb hv') ∧ Fresh w hv hv' ∧ Kp (fun b => b = wb ∨ hv.ownBlock = some b ∨ (s0 ≤ b ∧ b < s1) ∨ w.heap.size ≤ b) w w' ∧
      Blk w' pb #[.slice (some ⟨rb, 0, none⟩) (P.length + 1) (P.length + 1), .slice (some ⟨wl, 0, none⟩) P.length P.length] ∧ Blk w' wl us ∧ (∀ t, i ≤ t → t < P.length → Blk w' (rg t) (ptCells (P.getD t [] ++ [bynd])).toArray ∧ TyAt w' (rg t) 31)) (fun c _ => P.length - (intOf c).toNat)
  case atStart => exact ⟨0, hv1, L1, rfl, Nat.zero_le _, by omega, HW1.out, HF1.out, HKP.out, q0.out, q1.out, q2.out⟩
  case round =>
    clear HW1 HF1 HKP q0 q1 q2
    obtain ⟨i, hv2, L2, rfl, hi, hl2, hW2, hf2, hk2, hpk, hwk, hpt⟩ := hrel
    have p1 := hpk.cell 1
    simp at p1
    by_cases hlt : i < P.length
    · have hu := (hwk.cell i).trans (HU.out i hlt)
      have hsm := hS i hlt
      have hri := HO.out i hlt
      have hpi := hpt i (Nat.le_refl _) hlt
      have hsz2 := hk2.size
      have hrl : ∀ t, t < P.length → rg t < w.heap.size := fun t ht => (HP.out t ht).lt
      have hvn : ∀ b, s0 ≤ b → b < s1 → hv2.ownBlock ≠ some b := fun b hb hw e => by
        have := HLO.out b (hf2.old (by omega) e); omega
      have hK := keep_points base wb (rg i) ((P.getD i []).length + 1) hv2 L2 (fun b => X b ∨ ∃ t, i + 1 ≤ t ∧ t < P.length ∧ b = rg t) _ wr (by omega) (by omega) (fun b e => by
          rcases e with e | ⟨t, _, ht, e⟩
          · have := (HX.out b e).2; omega
          · subst e; have := hrl t ht; omega) (by omega)
        (hW2.weaken (fun b o u ⟨⟨z, x⟩, y⟩ hc => ⟨⟨fun e => by
          rcases e with e | ⟨t, h1, ht, e⟩
          · exact z e
          · exact x t (by omega) ht e, x i (Nat.le_refl _) hlt⟩, y⟩)) (by omega) (ptCells_size _ _) hpi.1 hpi.2 (fun e => by
          rcases e with e | ⟨t, h1, ht, e⟩
          · have := (HX.out _ e).1; have := HRG.out i hlt; omega
          · have := (HO.out t ht).2 i (by omega); omega) (hvn _ (by omega) (HRG.out i hlt))
      have HK := hide hK
      have HW2 := hide hW2
      have HF2 := hide hf2
      have HK2 := hide hk2
      have HPK := hide hpk
      have HWK := hide hwk
      have HPT := hide hpt
      have HRL := hide hrl
      have HVN := hide hvn
      have hi0 : (0 : Int) ≤ (i : Int) := Int.natCast_nonneg _
      have hi1 : (i : Int) < (P.length : Int) := by omega
      generalize hrr : P.getD i [] = r at *
      clear hK hW2 hf2 hk2 hpk hwk hpt hpi hrl hvn hS
      go_wp2_with fail
      refine HK.out.mono ?_
      rintro e w3 ⟨rfl, hv3, L3, hl3, hW3, hk3, hf3⟩
      have hsz3 := hk3.size
      have far : ∀ b, s0 ≤ b → b < s1 → b ≠ rg i → ¬ (b = wb ∨ hv2.ownBlock = some b ∨ b = rg i) := fun b hb hw hne e => by
        rcases e with e | e | e
        · omega
        · exact HVN.out b hb hw e
        · exact hne e
      have HW3 := hide (hW3.weaken (F' := FX (fun b _ => ¬ X b ∧ ∀ t, i + 1 ≤ t → t < P.length → b ≠ rg t) wb hv3) (fun b o u ⟨x, y⟩ hc => ⟨⟨fun e => x (.inl e), fun t h1 ht e => x (.inr ⟨t, h1, ht, e⟩)⟩, y⟩))
      have HF3 : Hid (Fresh w hv hv3) := HF2.out.trans hf3 hsz2
      have HK3 : Hid (Kp (fun b => b = wb ∨ hv.ownBlock = some b ∨ (s0 ≤ b ∧ b < s1) ∨ w.heap.size ≤ b) w w3) := HK2.out.trans ⟨hk3.os, hk3.tape, hk3.output, hk3.size, fun b hb hnx => hk3.block b hb (fun e => hnx (by
        rcases e with e | e | e
        · exact .inl e
        · by_cases hw : b < w.heap.size
          · exact .inr (.inl (HF2.out.old hw e))
          · exact .inr (.inr (.inr (by omega)))
        · have := HRG.out i hlt; exact .inr (.inr (.inl (by omega)))))⟩
      have HP3 : Hid (Blk w3 pb #[.slice (some ⟨rb, 0, none⟩) (P.length + 1) (P.length + 1), .slice (some ⟨wl, 0, none⟩) P.length P.length]) := Kp.blk HPK.out hk3 (far pb (by omega) (by omega) (by omega))
      have HW4 : Hid (Blk w3 wl us) := Kp.blk HWK.out hk3 (far wl (by omega) (by omega) (by omega))
      have HT3 : Hid (∀ t, i + 1 ≤ t → t < P.length → Blk w3 (rg t) (ptCells (P.getD t [] ++ [bynd])).toArray ∧ TyAt w3 (rg t) 31) := fun t h1 ht => by
        have o := HO.out t ht
        have o2 := o.2 i (by omega)
        have f := far (rg t) (by omega) (HRG.out t ht) (by omega)
        obtain ⟨a, b⟩ := HPT.out t (by omega) ht
        exact ⟨Kp.blk a hk3 f, b.same (hk3.block (rg t) a.lt f)⟩
      clear hW3 hf3 hk3 far
      go_wp2
      go_roundw
      case rel => exact ⟨i + 1, hv3, L3, by go_num, by omega, by omega, HW3.out, HF3.out, HK3.out, HP3.out, HW4.out, HT3.out⟩
      case measure => simp [intOf]; omega
    · have ei : i = P.length := by omega
      subst ei
      have HW2 := hide hW2
      have HF2 := hide hf2
      have HK2 := hide hk2
      clear hW2 hf2 hk2 hpt hwk hpk
      go_wp2
      go_end0
      exact ⟨rfl, hv2, L2, hl2, HW2.out.weaken (fun b o u ⟨x, y⟩ _ => ⟨x.1, y⟩), HK2.out.weaken (fun b hb e => by
        rcases e with e | e | e | e
        · exact .inl e
        · exact .inr (.inl e)
        · exact .inr (.inr e)
        · omega), HF2.out⟩
/-- The same, where all that is held lies below. -/
theorem keepArg_any (base wb s0 pb rb wl xb : Nat) (rg : Nat → Nat) (hv : Value) (L : List Nat) (P : List (List Pt)) (vs us : Array Value) (w : World)
    (hn : P.length ≤ 1048576) (hS : ∀ i, i < P.length → (P.getD i []).length ≤ 1048576) (hL : L.length + 4 * P.length + 4 ≤ 1000000000000) (hs0 : base ≤ s0) (hbase : base ≤ w.heap.size) (hlo : ∀ b, hv.ownBlock = some b → b < s0)
    (hW : Wld w base wb hv L (FX (fun b _ => b < s0) wb hv)) (hA : ArgAt w s0 pb rb wl xb rg P vs us) :
    Calls Tryz.prog 25 #[.pointer (some ⟨wb, 0, none⟩), .pointer (some ⟨pb, 0, none⟩)] w fun e w' => e = .returned (.tuple #[]) ∧ ∃ hv' L', L'.length = L.length + 4 + 4 * P.length ∧ Wld w' base wb hv' L' (FX (fun _ _ => True) wb hv') ∧ Kp (fun b => b = wb ∨ hv.ownBlock = some b ∨ s0 ≤ b) w w' ∧ Fresh w hv hv' := by
  refine (keepArg_gen base wb s0 w.heap.size pb rb wl xb (fun _ => False) rg hv L P vs us w hn hS hL hs0 hbase (fun b e => .inl (hlo b e)) (Nat.le_refl _) hA.hand.pbk.lt (fun t ht => (hA.hand.pts t ht).lt) (fun b e => e.elim) (hW.weaken (fun b o u ⟨x, y⟩ _ => ⟨⟨.inl x, fun e => e⟩, y⟩)) hA).mono ?_
  rintro e w' ⟨rfl, hv', L', hl, hW', hk, hf⟩
  exact ⟨rfl, hv', L', hl, hW'.weaken (fun b o u ⟨_, y⟩ _ => ⟨trivial, y⟩), hk.weaken (fun b hb e => by
    rcases e with e | e | e
    · exact .inl e
    · exact .inr (.inl e)
    · exact .inr (.inr e.1)), hf⟩
end Go.Proofs.YtnkcbephceollaaGreat
namespace Go.Proofs.YtnkcbephceollaaGreat
open Go.RowKit
set_option linter.unusedSimpArgs false
set_option linter.unusedVariables false

abbrev opV (kd n : Int) (A B : Value) (p q r s : Pt) : Value := .agg #[.int .i64 kd, .int .i64 n, A, B, .int .i64 p.x, .int .i64 p.y, .int .i64 p.d, .int .i64 q.x, .int .i64 q.y, .int .i64 q.d, .int .i64 r.x, .int .i64 r.y, .int .i64 r.d, .int .i64 s.x, .int .i64 s.y, .int .i64 s.d]

set_option maxHeartbeats 2000000 in
theorem met_any (kd n : Int) (A B : Value) (p q r s : Pt) (w : World) :
    Calls Tryz.prog 11 #[opV kd n A B p q r s] w fun e w' => e = .returned (.bool true) ∧ Below w.heap.size w w' := by
  go_enter Tryz.func11, Tryz.ntmps11
  go_wp2_with fail
  refine (Meet_any p q r s _).mono ?_
  rintro e w1 ⟨rfl, k⟩
  have B1 := bvia ((Below.refl _ _).alloc (Nat.le_refl _) _) k
  obtain ⟨co1, fo1, zo1⟩ := (Blk.new w _ _).call k
  clear k
  go_wp2_with fail
  refine (rMeet_any p q r s _).mono ?_
  rintro e w2 ⟨rfl, k⟩
  have B2 := bvia (B1.alloc B1.size _) k
  obtain ⟨co2, fo2, zo2⟩ := ((Blk.mk co1 fo1 zo1).alloc _).call k
  obtain ⟨cm2, fm2, zm2⟩ := (Blk.new w1 _ _).call k
  clear k co1 fo1 B1
  go_wp2
  all_goals (go_ret; exact ⟨rfl, B2.alloc B2.size _⟩)

set_option maxHeartbeats 1000000 in
/-- No list is held yet. -/
theorem looks_none (b : Nat) (w : World) (hb : Blk w b #[.slice none 0 0]) :
    Calls Tryz.prog 10 #[.pointer (some ⟨b, 0, none⟩)] w fun e w' => e = .returned (.bool true) ∧ w' = w := by
  obtain ⟨c, f, z⟩ := hb
  go_enter Tryz.func10, Tryz.ntmps10
  go_wp2_with fail
  refine wp_loop_rounds 1 ?_
  rw [rounds_succ]
  go_wp2
  go_ret
  exact ⟨rfl, rfl⟩

set_option maxHeartbeats 1000000 in
theorem plays_meet (b : Nat) (n : Int) (A B : Value) (p q r s : Pt) (w : World) :
    Calls Tryz.prog 9 #[.pointer (some ⟨b, 0, none⟩), opV 1 n A B p q r s] w fun e w' => e = .returned (.bool true) ∧ Below w.heap.size w w' := by
  go_enter Tryz.func9, Tryz.ntmps9
  go_wp2_with fail
  refine (met_any 1 n A B p q r s _).mono ?_
  rintro e w1 ⟨rfl, k⟩
  have B1 := bvia ((Below.refl _ _).alloc (Nat.le_refl _) _) k
  obtain ⟨co1, fo1, zo1⟩ := (Blk.new w _ _).call k
  clear k
  go_wp2
  go_ret
  exact ⟨rfl, B1⟩

end Go.Proofs.YtnkcbephceollaaGreat
