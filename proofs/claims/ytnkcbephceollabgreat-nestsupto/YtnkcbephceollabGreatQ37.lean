import Derived.Test.YtnkcbephceollabGreatQ14
import Derived.Test.YtnkcbephceollabGreatQ20
import Derived.Test.YtnkcbephceollabGreatQ28
import Derived.Test.YtnkcbephceollabGreatQ36
import Derived.Test.YtnkcbephceollabGreatQ32
namespace Go.Proofs.YtnkcbephceollabGreat
open Go.RowKit
set_option linter.unusedSimpArgs false
set_option linter.unusedVariables false

/-- What is handed in lies as it lay, where none of its blocks is touched. -/
theorem ArgAt.kp {w1 w w' : World} {s0 pb rb wl xb : Nat} {rg : Nat → Nat} {P : List (List Pt)} {vs us : Array Value} {X : Nat → Prop} (h1 : ArgAt w1 s0 pb rb wl xb rg P vs us) (h : ArgAt w s0 pb rb wl xb rg P vs us) (k : Kp X w w') (hx : ∀ b, s0 ≤ b → b < w1.heap.size → ¬ X b) : ArgAt w' s0 pb rb wl xb rg P vs us := by
  have a1 := h1.rbase
  have a2 := h1.wbase
  have a3 := h1.rp
  have a4 := h1.wp
  have a5 := h1.pbx
  have hp : ∀ t, t < P.length → s0 ≤ rg t ∧ rg t < w1.heap.size := fun t ht => ⟨by have := (h1.hand.ord t ht).1; omega, (h1.hand.pts t ht).lt⟩
  refine ⟨⟨Kp.blk h.hand.pbk k (hx _ (by omega) h1.hand.pbk.lt), Kp.blk h.hand.rbk k (hx _ a1 h1.hand.rbk.lt), Kp.blk h.hand.wbk k (hx _ a2 h1.hand.wbk.lt), h.hand.vsz, h.hand.usz, h.hand.vat, h.hand.uat, fun t ht => Kp.blk (h.hand.pts t ht) k (hx _ (hp t ht).1 (hp t ht).2), h.hand.ord, h.hand.rty.same (k.block rb h.hand.rbk.lt (hx _ a1 h1.hand.rbk.lt)), fun t ht => (h.hand.pty t ht).same (k.block (rg t) (h.hand.pts t ht).lt (hx _ (hp t ht).1 (hp t ht).2))⟩, h.last, Kp.blk h.xbk k (hx _ (by omega) h1.xbk.lt), h.xord, h.pbx, h.rbase, h.wbase, h.rp, h.wp, h.rw'⟩
end Go.Proofs.YtnkcbephceollabGreat
namespace Go.Proofs.YtnkcbephceollabGreat
open Go.RowKit
set_option linter.unusedSimpArgs false
set_option linter.unusedVariables false

theorem pcs_len (A B : List (List Pt)) : (pcsM A B).length ≤ 28224 := by
  unfold pcsM
  split
  · simp
  · rename_i h
    have h0 : bothM A B = 0 := Decidable.byContradiction h
    obtain ⟨h1, h2⟩ := both_zero h0
    have l1 := check_few h1
    have l2 := check_few h2
    rw [← pieces_eq (sound_of h1) (sound_of h2)]
    unfold rpiecesM
    have hE : (edgesM A ++ edgesM B).length ≤ 24 := by rw [List.length_append]; omega
    generalize edgesM A ++ edgesM B = E at *
    have h3 := wo_len E (rspotsM E) E.length (Nat.le_refl _)
    have h4 : E.length * (rspotsM E).length ≤ 24 * 1176 := Nat.mul_le_mul hE (rspots_len hE)
    rw [wo_end] at h3
    rw [List.length_map]; omega

theorem eql_pc (x : Pc) (w : World) : (binOp .eql 55 (pcV x.p x.q x.la x.ra x.lb x.rb) (pcV x.p x.q x.la x.ra x.lb x.rb)).run Tryz.prog w = .ok (.bool true) w := by
  simp [go_sem]

set_option maxRecDepth 100000 in
set_option maxHeartbeats 8000000 in
theorem cut_any (base wb : Nat) (hv : Value) (L : List Nat) (kd n : Int) (A B : Value) (p q r s : Pt) (PA PB : List (List Pt)) (w : World)
    (hn : PA.length ≤ 1048576) (hS : ∀ i, i < PA.length → (PA.getD i []).length ≤ 1048576) (hn2 : PB.length ≤ 1048576) (hS2 : ∀ i, i < PB.length → (PB.getD i []).length ≤ 1048576) (hL : L.length + 4 * PA.length + 4 * PB.length + 12 ≤ 1000000000000) (hbase : base ≤ w.heap.size)
    (hPA : PolyAt w A PA) (hPB : PolyAt w B PB) (hW : Wld w base wb hv L (FX (fun _ _ => True) wb hv)) :
    Calls Tryz.prog 11 #[.pointer (some ⟨wb, 0, none⟩), opV kd n A B p q r s] w fun e w' => e = .returned (.bool true) ∧ ∃ hv' L', L'.length = L.length + 12 + 4 * PA.length + 4 * PB.length ∧ Wld w' base wb hv' L' (FX (fun _ _ => True) wb hv') ∧ Kp (fun b => b = wb ∨ hv.ownBlock = some b) w w' := by
  have HPA0 := hide hPA
  have HPB0 := hide hPB
  have HW := hide hW
  have hlo : ∀ b, hv.ownBlock = some b → b < w.heap.size := fun b e => (hW.own.lt b e).2
  have HLO := hide hlo
  have HS := hide hS
  have HS2 := hide hS2
  have hwb0 := hW.lt
  clear hPA hPB hW hlo hS hS2
  obtain ⟨W0, hW0⟩ : ∃ W, W = w.alloc (.cells #[.int .i64 kd, .int .i64 n, A, B, .int .i64 p.x, .int .i64 p.y, .int .i64 p.d, .int .i64 q.x, .int .i64 q.y, .int .i64 q.d, .int .i64 r.x, .int .i64 r.y, .int .i64 r.d, .int .i64 s.x, .int .i64 s.y, .int .i64 s.d] 33) := ⟨_, rfl⟩
  have B0 : Hid (Below w.heap.size w W0) := by rw [hW0]; exact (Below.refl _ _).alloc (Nat.le_refl _) _
  have O2 : W0.cell? ⟨w.heap.size, 2, none⟩ = some A := by rw [hW0]; exact (Blk.new w _ _).cell 2
  have O3 : W0.cell? ⟨w.heap.size, 3, none⟩ = some B := by rw [hW0]; exact (Blk.new w _ _).cell 3
  have z0 : W0.heap.size = w.heap.size + 1 := by rw [hW0]; simp
  have PA0 : Hid (PolyAt W0 A PA) := HPA0.out.later B0.out
  have PB0 : Hid (PolyAt W0 B PB) := HPB0.out.later B0.out
  go_enter Tryz.func11, Tryz.ntmps11
  go_wp2_with fail
  rw [← hW0]
  clear hW0
  refine (handed_any A PA W0 PA0.out hn HS.out).mono ?_
  rintro e w1 ⟨pa, ra, wa, xa, rga, vsa, usa, rfl, hA, k1⟩
  have a1 := (k1.cell (p := ⟨w.heap.size, 3, none⟩) (by simp; omega)).trans O3
  have HA := hide hA
  have K1 := hide k1
  have z1 := k1.size
  have O2' := O2
  have O3' := O3
  clear hA k1 O2 O3
  go_wp2_with fail
  refine (handed_any B PB w1 (PB0.out.later K1.out) hn2 HS2.out).mono ?_
  rintro e w2 ⟨pb, rb, wl, xb, rg, vs, us, rfl, hB, k2⟩
  have z2 := k2.size
  have HA2 := hide (HA.out.later k2)
  have HB2 := hide hB
  have HA1 := hide HA.out
  have HB1 := hide hB
  have K2 : Hid (Below W0.heap.size W0 w2) := bvia K1.out k2
  have bpa := HA.out.hand.pbk.lt
  have bpb := hB.hand.pbk.lt
  have HRA : Hid (∀ t, t < PA.length → rga t < w1.heap.size) := fun t ht => (HA.out.hand.pts t ht).lt
  have HRB : Hid (∀ t, t < PB.length → rg t < w2.heap.size) := fun t ht => (HB2.out.hand.pts t ht).lt
  have p0 := HA2.out.hand.pbk.cell 0
  have p1 := HA2.out.hand.pbk.cell 1
  have q0 := hB.hand.pbk.cell 0
  have q1 := hB.hand.pbk.cell 1
  simp at p0 p1 q0 q1
  clear hB k2 HA K1 a1
  have bpa2 : pa < w2.heap.size := by omega
  have CIA := hide (fun wz (kz : Below w2.heap.size w2 wz) => it_any pa ra wa PA.length wz ((kz.cell (p := ⟨pa, 0, none⟩) bpa2).trans p0) ((kz.cell (p := ⟨pa, 1, none⟩) bpa2).trans p1))
  have CIB := hide (fun wz (kz : Below w2.heap.size w2 wz) => it_any pb rb wl PB.length wz ((kz.cell (p := ⟨pb, 0, none⟩) bpb).trans q0) ((kz.cell (p := ⟨pb, 1, none⟩) bpb).trans q1))
  have CP := hide (fun wz (kz : Below w2.heap.size w2 wz) => Pieces_any _ _ PA PB wz ((HA2.out.later kz).poly hn HS.out) ((HB2.out.later kz).poly hn2 HS2.out))
  clear p0 p1 q0 q1
  go_upto_region 3 with fail
  go_cut [7, 8] (fun lv ev w' => ev = .int .i64 (bothM PA PB) ∧ Hid (w'.ownsRow w2.heap.size 55 10 lv (pcsM PA PB).length (pcCells (pcsM PA PB))) ∧ Hid (Below w2.heap.size w2 w'))
  case first =>
    clear HA2 HB2
    go_wp2_with fail
    refine (CIA.out _ (Below.refl _ _)).mono ?_
    rintro e w3 ⟨rfl, m3, rfl⟩
    go_wp2_with fail
    refine (CIB.out _ (below_drewN (Below.refl _ _) _)).mono ?_
    rintro e w3 ⟨rfl, m4, rfl⟩
    go_wp2_with fail
    refine (CP.out _ (below_drewN (Below.refl _ _) _)).mono ?_
    rintro e w3 ⟨v', rfl, o3, k3⟩
    go_wp2_with fail
    go_meet
    case rel => exact ⟨rfl, o3, bvia (below_drewN (Below.refl _ _) _) k3⟩
  case rest =>
  obtain ⟨rfl, O4, K4⟩ := hcut
  have z4 := K4.out.size
  have KW4 : Hid (Below W0.heap.size W0 wc) := bvia K2.out K4.out
  have HA4 := hide (HA2.out.later K4.out)
  have HB4 := hide (HB2.out.later K4.out)
  have PA4 : Hid (PolyAt wc A PA) := PA0.out.later KW4.out
  have PB4 : Hid (PolyAt wc B PB) := PB0.out.later KW4.out
  have c2 : wc.cell? ⟨w.heap.size, 2, none⟩ = some A := (KW4.out.cell (p := ⟨w.heap.size, 2, none⟩) (by simp; omega)).trans O2'
  have c3 : wc.cell? ⟨w.heap.size, 3, none⟩ = some B := (KW4.out.cell (p := ⟨w.heap.size, 3, none⟩) (by simp; omega)).trans O3'
  clear CIA CIB CP K4 HA2 HB2
  go_wp2_with fail
  refine (rPieces_any A B PA PB _ PA4.out PB4.out HS.out HS2.out).mono ?_
  rintro e w5 ⟨kv, rfl, o5, k5⟩
  have z5 := k5.size
  have KW5 : Hid (Below W0.heap.size W0 w5) := bvia KW4.out k5
  have HA5 := hide (HA4.out.later k5)
  have HB5 := hide (HB4.out.later k5)
  have PA5 : Hid (PolyAt w5 A PA) := PA4.out.later k5
  have PB5 : Hid (PolyAt w5 B PB) := PB4.out.later k5
  have O5 := hide (own_later O4.out k5)
  have R5 := hide o5
  have d2 : w5.cell? ⟨w.heap.size, 2, none⟩ = some A := (k5.cell (p := ⟨w.heap.size, 2, none⟩) (by simp; omega)).trans c2
  have d3 : w5.cell? ⟨w.heap.size, 3, none⟩ = some B := (k5.cell (p := ⟨w.heap.size, 3, none⟩) (by simp; omega)).trans c3
  clear c2 c3 k5 o5 O4 KW4 HA4 HB4 PA4 PB4
  go_wp2_with fail
  refine (still_any A PA _ PA5.out HA5.out hn HS.out).mono ?_
  rintro e w6 ⟨rfl, k6⟩
  have z6 := k6.size
  have KW6 : Hid (Below W0.heap.size W0 w6) := bvia KW5.out k6
  have HA6 := hide (HA5.out.later k6)
  have HB6 := hide (HB5.out.later k6)
  have PB6 : Hid (PolyAt w6 B PB) := PB5.out.later k6
  have O6 := hide (own_later O5.out k6)
  have R6 := hide (own_later R5.out k6)
  have e3 : w6.cell? ⟨w.heap.size, 3, none⟩ = some B := (k6.cell (p := ⟨w.heap.size, 3, none⟩) (by simp; omega)).trans d3
  clear d2 d3 k6 O5 R5 KW5 HA5 HB5 PA5 PB5
  go_wp2_with fail
  refine (still_any B PB _ PB6.out HB6.out hn2 HS2.out).mono ?_
  rintro e w7 ⟨rfl, k7⟩
  have z7 := k7.size
  have KW7 : Hid (Below W0.heap.size W0 w7) := bvia KW6.out k7
  have HA7 := hide (HA6.out.later k7)
  have HB7 := hide (HB6.out.later k7)
  have o7 := own_later O6.out k7
  have r7 := own_later R6.out k7
  clear e3 k7 O6 R6 KW6 HA6 HB6 PB6
  have hPl := pcs_len PA PB
  generalize pcsM PA PB = PS at *
  have hL7 := hide (pcs_of_own o7 (by unfold maxLen; omega))
  have hK7 := hide (pcs_of_own r7 (by unfold maxLen; omega))
  have O7 := hide o7
  clear r7 o7
  obtain ⟨la, lcap, rfl, l1, l2, l3⟩ := id hL7.out
  obtain ⟨ka, kcap, rfl, k1, k2, k3⟩ := id hK7.out
  unfold maxLen at l2 k2
  have HL3 := hide l3
  have HK3 := hide k3
  clear l3 k3 hL7 hK7
  go_upto_block 0 with fail
  go_cut [13, 14] (fun sv _ w' => sv = .bool true ∧ Hid (Below w7.heap.size w7 w'))
  case first =>
    clear O7 HA7 HB7 KW7
    go_wp2_with fail
    go_loopw [13, 14] (fun sv iv w' => ∃ i : Nat, sv = .bool true ∧ iv = .int .i64 i ∧ i ≤ PS.length ∧ Below w7.heap.size w7 w') (fun _ iv _ => PS.length - (intOf iv).toNat)
    case atStart => exact ⟨0, rfl, rfl, Nat.zero_le _, Below.refl _ _⟩
    case round =>
      obtain ⟨i, rfl, rfl, hi, hbel⟩ := hrel
      by_cases hlt : i < PS.length
      · obtain ⟨b, off, rfl, hb, hs⟩ := HL3.out i hlt
        obtain ⟨b', off', rfl, hb', hs'⟩ := HK3.out i hlt
        have ht := hs.later hbel hb
        have ht' := hs'.later hbel hb'
        generalize PS.getD i zPc = x at *
        have c0 := ht 0 (by decide)
        have c1 := ht 1 (by decide)
        have c2 := ht 2 (by decide)
        have c3 := ht 3 (by decide)
        have c4 := ht 4 (by decide)
        have c5 := ht 5 (by decide)
        have c6 := ht 6 (by decide)
        have c7 := ht 7 (by decide)
        have c8 := ht 8 (by decide)
        have c9 := ht 9 (by decide)
        have d0 := ht' 0 (by decide)
        have d1 := ht' 1 (by decide)
        have d2 := ht' 2 (by decide)
        have d3 := ht' 3 (by decide)
        have d4 := ht' 4 (by decide)
        have d5 := ht' 5 (by decide)
        have d6 := ht' 6 (by decide)
        have d7 := ht' 7 (by decide)
        have d8 := ht' 8 (by decide)
        have d9 := ht' 9 (by decide)
        simp only [pcCell, Nat.add_zero, List.getElem?_cons_zero, List.getElem?_cons_succ] at c0 c1 c2 c3 c4 c5 c6 c7 c8 c9 d0 d1 d2 d3 d4 d5 d6 d7 d8 d9
        have hi0' : (0 : Int) ≤ (i : Int) := Int.natCast_nonneg _
        have hi1' : (i : Int) < (PS.length : Int) := by omega
        clear ht ht' hs hs' HL3 HK3
        have heq := eql_pc x
        go_wp2_with fail
        go_quiet (fail)
        go_wp2
        go_roundw
        case rel => exact ⟨i + 1, rfl, by go_num, by omega, below_drewN hbel _⟩
        case measure => simp [intOf]; omega
      · have ei : i = PS.length := by omega
        subst ei
        clear HL3 HK3
        go_wp2
        go_meet
        case rel => exact ⟨rfl, hbel⟩
  case rest =>
  obtain ⟨rfl, K8⟩ := hcut
  have z8 := K8.out.size
  have KW8 : Hid (Below W0.heap.size W0 wc) := bvia KW7.out K8.out
  have HA8 := hide (HA7.out.later K8.out)
  have HB8 := hide (HB7.out.later K8.out)
  have O8 := hide (own_later O7.out K8.out)
  have B8 : Hid (Below w.heap.size w wc) := bvia B0.out KW8.out
  clear K8 KW7 HA7 HB7 O7 HL3 HK3
  have hlo8 : ∀ b, (Value.slice la PS.length lcap).ownBlock = some b → w2.heap.size ≤ b := fun b e => (O8.out.lt b e).1
  have V8 : Hid (Wld wc base wb hv L (FX (fun b _ => ¬ (W0.heap.size ≤ b ∧ b < w2.heap.size) ∧ (Value.slice la PS.length lcap).ownBlock ≠ some b) wb hv)) := (HW.out.call B8.out).weaken (fun b o u ⟨x, y⟩ _ => ⟨⟨by omega, fun e => by have := hlo8 b e; omega⟩, y⟩)
  have CK := hide (keep_pieces base wb PS.length hv (.slice la PS.length lcap) L (fun b => W0.heap.size ≤ b ∧ b < w2.heap.size) _ wc (by omega) (by omega) (fun b e => by omega) (by omega) V8.out (own_mono O8.out (by omega)) (fun b e => ⟨by have := hlo8 b e; omega, fun e2 => by have := hlo8 b e; have := HLO.out b e2; omega⟩))
  clear V8 O8
  go_wp2_with fail
  refine CK.out.mono ?_
  rintro e w9 ⟨rfl, hv1, L1, hl1, hW1, hk1, hf1⟩
  have z9 := hk1.size
  have HA9 := hide (HA1.out.kp HA8.out hk1 (fun b h1 h2 e => by
    rcases e with e | e | e
    · omega
    · have := HLO.out b e; omega
    · have := hlo8 b e; omega))
  have HB9 := hide (HB1.out.kp HB8.out hk1 (fun b h1 h2 e => by
    rcases e with e | e | e
    · omega
    · have := HLO.out b e; omega
    · have := hlo8 b e; omega))
  have hlo1 : ∀ b, hv1.ownBlock = some b → b < w.heap.size ∨ w2.heap.size ≤ b := fun b e => by
    rcases hf1 with f | ⟨q, f, hq⟩
    · rw [f] at e; exact .inl (HLO.out b e)
    · rw [f] at e; have := Option.some.inj e; omega
  have HLO1 := hide hlo1
  have HF1 := hide hf1
  have KP9 : Hid (Kp (fun b => b = wb ∨ hv.ownBlock = some b) w w9) := ⟨hk1.os.trans B8.out.os, hk1.tape.trans B8.out.tape, hk1.output.trans B8.out.output, by have := B8.out.size; omega, fun b hb hnx => (hk1.block b (by have := B8.out.size; omega) (fun e => by
    rcases e with e | e | e
    · exact hnx (.inl e)
    · exact hnx (.inr e)
    · have := hlo8 b e; omega)).trans (B8.out.block b hb)⟩
  have CA := hide (keepArg_gen base wb W0.heap.size w1.heap.size pa ra wa xa (fun b => w1.heap.size ≤ b ∧ b < w2.heap.size) rga hv1 L1 PA vsa usa w9 hn HS.out (by omega) (by omega) (by omega) (fun b e => by have := hlo1 b e; omega) (by omega) bpa HRA.out (fun b e => by omega) (hW1.weaken (fun b o u ⟨x, y⟩ _ => ⟨⟨by omega, by omega⟩, y⟩)) HA9.out)
  clear hW1 hk1 hlo1 hlo8 CK HA8 HB8 KW8 HA9
  go_wp2_with fail
  refine CA.out.mono ?_
  rintro e w10 ⟨rfl, hv2, L2, hl2, hW2, hk2, hf2⟩
  have z10 := hk2.size
  have HB10 := hide (HB1.out.kp HB9.out hk2 (fun b h1 h2 e => by
    rcases e with e | e | e
    · omega
    · have := HLO1.out b e; omega
    · omega))
  have hlo2 : ∀ b, hv2.ownBlock = some b → b < w.heap.size ∨ w2.heap.size ≤ b := fun b e => by
    rcases hf2 with f | ⟨q, f, hq⟩
    · rw [f] at e; exact HLO1.out b e
    · rw [f] at e; have := Option.some.inj e; omega
  have HLO2 := hide hlo2
  have HF2 := hide hf2
  have KP10 : Hid (Kp (fun b => b = wb ∨ hv.ownBlock = some b) w w10) := ⟨hk2.os.trans KP9.out.os, hk2.tape.trans KP9.out.tape, hk2.output.trans KP9.out.output, by have := KP9.out.size; omega, fun b hb hnx => (hk2.block b (by have := KP9.out.size; omega) (fun e => by
    rcases e with e | e | e
    · exact hnx (.inl e)
    · exact hnx (.inr (HF1.out.old (by have := B8.out.size; omega) e))
    · omega)).trans (KP9.out.block b hb hnx)⟩
  have CB := hide (keepArg_gen base wb w1.heap.size w2.heap.size pb rb wl xb (fun _ => False) rg hv2 L2 PB vs us w10 hn2 HS2.out (by omega) (by omega) (by omega) (fun b e => by have := hlo2 b e; omega) (by omega) bpb HRB.out (fun b e => e.elim) (hW2.weaken (fun b o u ⟨x, y⟩ _ => ⟨⟨by omega, fun e => e⟩, y⟩)) HB10.out)
  clear hW2 hk2 hlo2 CA HB9 KP9 HB10
  go_wp2_with fail
  refine CB.out.mono ?_
  rintro e w11 ⟨rfl, hv3, L3, hl3, hW3, hk3, _⟩
  have HW' := hide hW3
  have HK' : Hid (Kp (fun b => b = wb ∨ hv.ownBlock = some b) w w11) := ⟨hk3.os.trans KP10.out.os, hk3.tape.trans KP10.out.tape, hk3.output.trans KP10.out.output, by have := KP10.out.size; have := hk3.size; omega, fun b hb hnx => (hk3.block b (by have := KP10.out.size; omega) (fun e => by
    rcases e with e | e | e
    · exact hnx (.inl e)
    · exact hnx (.inr (HF1.out.old (by have := B8.out.size; omega) (HF2.out.old (by have := KP10.out.size; omega) e)))
    · omega)).trans (KP10.out.block b hb hnx)⟩
  clear hW3 hk3 CB
  go_wp2
  go_ret
  exact ⟨rfl, hv3, L3, by omega, HW'.out.weaken (fun b o u ⟨_, y⟩ _ => ⟨trivial, y⟩), HK'.out⟩
end Go.Proofs.YtnkcbephceollabGreat
namespace Go.Proofs.YtnkcbephceollabGreat
open Go.RowKit
set_option linter.unusedSimpArgs false
set_option linter.unusedVariables false

theorem own_clip {w : World} {base base' : Nat} {v : Value} {R : List (List Pt)} {vs : List Value} (h : OwnR w base v R vs) (hb : base' ≤ base) : OwnR w base' v R vs := h.mono hb
theorem clip_count (op : Int) (A B : List (List Pt)) : (clipM op A B).1.length ≤ 27648 := by
  unfold clipM
  split
  · simp
  split
  · simp
  rename_i h
  have h0 : bothM A B = 0 := Decidable.byContradiction h
  obtain ⟨c1, c2⟩ := both_zero h0
  have hpf := pieces_few (check_few c1) (check_few c2)
  have hl := bord_len op (piecesM A B)
  show (ringsM _).length ≤ 27648
  unfold ringsM
  have := rings_len (bordM op (piecesM A B)) (bordM op (piecesM A B)).length
  omega

set_option maxRecDepth 100000 in
set_option maxHeartbeats 8000000 in
theorem clipped_any (base wb : Nat) (hv : Value) (L : List Nat) (kd n : Int) (A B : Value) (p q r s : Pt) (PA PB : List (List Pt)) (w : World)
    (hn : PA.length ≤ 1048576) (hS : ∀ i, i < PA.length → (PA.getD i []).length ≤ 1048576) (hn2 : PB.length ≤ 1048576) (hS2 : ∀ i, i < PB.length → (PB.getD i []).length ≤ 1048576) (hL : L.length + 4 * PA.length + 4 * PB.length + 110604 ≤ 1000000000000) (hbase : base ≤ w.heap.size)
    (hPA : PolyAt w A PA) (hPB : PolyAt w B PB) (hW : Wld w base wb hv L (FX (fun _ _ => True) wb hv)) :
    Calls Tryz.prog 12 #[.pointer (some ⟨wb, 0, none⟩), opV kd n A B p q r s] w fun e w' => e = .returned (.bool true) ∧ ∃ hv' L', L'.length ≤ L.length + 110604 + 4 * PA.length + 4 * PB.length ∧ Wld w' base wb hv' L' (FX (fun _ _ => True) wb hv') ∧ Kp (fun b => b = wb ∨ hv.ownBlock = some b) w w' := by
  have HPA0 := hide hPA
  have HPB0 := hide hPB
  have HW := hide hW
  have hlo : ∀ b, hv.ownBlock = some b → b < w.heap.size := fun b e => (hW.own.lt b e).2
  have HLO := hide hlo
  have HS := hide hS
  have HS2 := hide hS2
  have hwb0 := hW.lt
  clear hPA hPB hW hlo hS hS2
  obtain ⟨W0, hW0⟩ : ∃ W, W = w.alloc (.cells #[.int .i64 kd, .int .i64 n, A, B, .int .i64 p.x, .int .i64 p.y, .int .i64 p.d, .int .i64 q.x, .int .i64 q.y, .int .i64 q.d, .int .i64 r.x, .int .i64 r.y, .int .i64 r.d, .int .i64 s.x, .int .i64 s.y, .int .i64 s.d] 33) := ⟨_, rfl⟩
  have B0 : Hid (Below w.heap.size w W0) := by rw [hW0]; exact (Below.refl _ _).alloc (Nat.le_refl _) _
  have O1 : W0.cell? ⟨w.heap.size, 1, none⟩ = some (.int .i64 n) := by rw [hW0]; exact (Blk.new w _ _).cell 1
  have O2 : W0.cell? ⟨w.heap.size, 2, none⟩ = some A := by rw [hW0]; exact (Blk.new w _ _).cell 2
  have O3 : W0.cell? ⟨w.heap.size, 3, none⟩ = some B := by rw [hW0]; exact (Blk.new w _ _).cell 3
  have z0 : W0.heap.size = w.heap.size + 1 := by rw [hW0]; simp
  have PA0 : Hid (PolyAt W0 A PA) := HPA0.out.later B0.out
  have PB0 : Hid (PolyAt W0 B PB) := HPB0.out.later B0.out
  go_enter Tryz.func12, Tryz.ntmps12
  go_wp2_with fail
  rw [← hW0]
  clear hW0
  refine (handed_any A PA W0 PA0.out hn HS.out).mono ?_
  rintro e w1 ⟨pa, ra, wa, xa, rga, vsa, usa, rfl, hA, k1⟩
  have a1 := (k1.cell (p := ⟨w.heap.size, 3, none⟩) (by simp; omega)).trans O3
  have HA := hide hA
  have K1 := hide k1
  have z1 := k1.size
  have O1' := O1
  have O2' := O2
  have O3' := O3
  clear hA k1 O1 O2 O3
  go_wp2_with fail
  refine (handed_any B PB w1 (PB0.out.later K1.out) hn2 HS2.out).mono ?_
  rintro e w2 ⟨pb, rb, wl, xb, rg, vs, us, rfl, hB, k2⟩
  have z2 := k2.size
  have HA2 := hide (HA.out.later k2)
  have HB2 := hide hB
  have HA1 := hide HA.out
  have HB1 := hide hB
  have K2 : Hid (Below W0.heap.size W0 w2) := bvia K1.out k2
  have bpa := HA.out.hand.pbk.lt
  have bpb := hB.hand.pbk.lt
  have HRA : Hid (∀ t, t < PA.length → rga t < w1.heap.size) := fun t ht => (HA.out.hand.pts t ht).lt
  have HRB : Hid (∀ t, t < PB.length → rg t < w2.heap.size) := fun t ht => (HB2.out.hand.pts t ht).lt
  have p0 := HA2.out.hand.pbk.cell 0
  have p1 := HA2.out.hand.pbk.cell 1
  have q0 := hB.hand.pbk.cell 0
  have q1 := hB.hand.pbk.cell 1
  simp at p0 p1 q0 q1
  clear hB k2 HA K1 a1
  have bpa2 : pa < w2.heap.size := by omega
  have CP := hide (fun wz (kz : Below w2.heap.size w2 wz) => Clip_any n _ _ PA PB wz ((HA2.out.later kz).poly hn HS.out) ((HB2.out.later kz).poly hn2 HS2.out))
  have n2 : w2.cell? ⟨w.heap.size, 1, none⟩ = some (.int .i64 n) := (K2.out.cell (p := ⟨w.heap.size, 1, none⟩) (by simp; omega)).trans O1'
  have hz20 : W0.heap.size ≤ w2.heap.size := K2.out.size
  have HFW := hide (clip_few n PA PB)
  go_upto_region 3 with fail
  go_cut [7, 8] (fun lv ev w' => ev = .int .i64 (clipM n PA PB).2 ∧ (∃ vsr, OwnR w' w2.heap.size lv (clipM n PA PB).1 vsr) ∧ Hid (Below w2.heap.size w2 w'))
  case first =>
    clear HA2 HB2
    have hw2 : w.heap.size < w2.heap.size := by omega
    go_region_held3 (fun w' => w'.cell? ⟨w.heap.size, 1, none⟩ = some (.int .i64 n) ∧ Below w2.heap.size w2 w')
      (first
        | exact ⟨n2, (Below.refl _ _).drew⟩
        | exact ⟨n2, Below.refl _ _⟩
        | exact ⟨n2, below_drewN (Below.refl _ _) _⟩
        | exact below_drewN (Below.refl _ _) _
        | (go_split_ands
           refine ⟨by assumption, below_drewN (by assumption) _⟩)
        | (go_split_ands
           have hq := Below.size (show Below w2.heap.size w2 _ by assumption)
           refine ⟨(k3.cell (p := ⟨w.heap.size, 1, none⟩) (by simp; omega)).trans (by assumption), bvia (by assumption) k3⟩)
        | go_keep)
      (first
        | (go_at_call 19
           refine (it_any _ _ _ _ _ (by first | exact p0 | exact q0) (by first | exact p1 | exact q1)).mono ?_
           rintro e' w3 ⟨rfl, m3, rfl⟩)
        | (go_at_call 28; refine (CP.out _ (by first | exact below_drewN (Below.refl _ _) _ | exact (Below.refl _ _).drew | assumption | (go_split_ands; assumption))).mono ?_; rintro e' w4 ⟨v', vs', rfl, o3, k3⟩))
    all_goals
      go_wp2_with fail
      go_meet
      case rel => exact ⟨rfl, ⟨_, own_clip o3 (below_drewN (Below.refl w2.heap.size w2) _).size⟩, bvia (below_drewN (Below.refl _ _) _) k3⟩
  case rest =>
  obtain ⟨rfl, ⟨vsr, O4'⟩, K4⟩ := hcut
  have O4 := hide O4'
  have z4 := K4.out.size
  have KW4 : Hid (Below W0.heap.size W0 wc) := bvia K2.out K4.out
  have HA4 := hide (HA2.out.later K4.out)
  have HB4 := hide (HB2.out.later K4.out)
  have PA4 : Hid (PolyAt wc A PA) := PA0.out.later KW4.out
  have PB4 : Hid (PolyAt wc B PB) := PB0.out.later KW4.out
  have c1 : wc.cell? ⟨w.heap.size, 1, none⟩ = some (.int .i64 n) := (KW4.out.cell (p := ⟨w.heap.size, 1, none⟩) (by simp; omega)).trans O1'
  have c2 : wc.cell? ⟨w.heap.size, 2, none⟩ = some A := (KW4.out.cell (p := ⟨w.heap.size, 2, none⟩) (by simp; omega)).trans O2'
  have c3 : wc.cell? ⟨w.heap.size, 3, none⟩ = some B := (KW4.out.cell (p := ⟨w.heap.size, 3, none⟩) (by simp; omega)).trans O3'
  have HRW : Hid (∀ b, u7.ownBlock = some b → b < wc.heap.size) := hide fun b e => (O4'.row.lt b e).2
  have HRG : Hid (∀ j b, j < (clipM n PA PB).1.length → (vsr.getD j nilV).ownBlock = some b → b < wc.heap.size) := hide fun j b hj e => (O4'.lt j b hj e).2
  obtain ⟨s1, hs1⟩ : ∃ s, s = wc.heap.size := ⟨_, rfl⟩
  rw [← hs1] at HRW HRG
  clear CP K4 HA2 HB2 O4' n2 p0 p1 q0 q1
  go_wp2_with fail
  refine (rClip_any n A B PA PB _ PA4.out PB4.out HS.out HS2.out).mono ?_
  rintro e w5 ⟨kv, vsk, rfl, o5, k5⟩
  have z5 := k5.size
  have KW5 : Hid (Below W0.heap.size W0 w5) := bvia KW4.out k5
  have HA5 := hide (HA4.out.later k5)
  have HB5 := hide (HB4.out.later k5)
  have PA5 : Hid (PolyAt w5 A PA) := PA4.out.later k5
  have PB5 : Hid (PolyAt w5 B PB) := PB4.out.later k5
  have O5 := hide (O4.out.kp (Kp.of (X := fun _ => False) k5) (fun b _ _ e => e))
  have hRl : (clipM n PA PB).1.length ≤ maxLen := by have := HFW.out.few; unfold maxLen; omega
  have R5 := hide (o5.poly hRl)
  have d2 : w5.cell? ⟨w.heap.size, 2, none⟩ = some A := (k5.cell (p := ⟨w.heap.size, 2, none⟩) (by simp; omega)).trans c2
  have d3 : w5.cell? ⟨w.heap.size, 3, none⟩ = some B := (k5.cell (p := ⟨w.heap.size, 3, none⟩) (by simp; omega)).trans c3
  clear c1 c2 c3 k5 o5 O4 KW4 HA4 HB4 PA4 PB4
  go_wp2_with fail
  refine (still_any A PA _ PA5.out HA5.out hn HS.out).mono ?_
  rintro e w6 ⟨rfl, k6⟩
  have z6 := k6.size
  have KW6 : Hid (Below W0.heap.size W0 w6) := bvia KW5.out k6
  have HA6 := hide (HA5.out.later k6)
  have HB6 := hide (HB5.out.later k6)
  have PB6 : Hid (PolyAt w6 B PB) := PB5.out.later k6
  have O6 := hide (O5.out.kp (Kp.of (X := fun _ => False) k6) (fun b _ _ e => e))
  have R6 := hide (R5.out.later k6)
  have e3 : w6.cell? ⟨w.heap.size, 3, none⟩ = some B := (k6.cell (p := ⟨w.heap.size, 3, none⟩) (by simp; omega)).trans d3
  clear d2 d3 k6 O5 R5 KW5 HA5 HB5 PA5 PB5
  go_wp2_with fail
  refine (still_any B PB _ PB6.out HB6.out hn2 HS2.out).mono ?_
  rintro e w7 ⟨rfl, k7⟩
  have z7 := k7.size
  have KW7 : Hid (Below W0.heap.size W0 w7) := bvia KW6.out k7
  have HA7 := hide (HA6.out.later k7)
  have HB7 := hide (HB6.out.later k7)
  have O7 := hide (O6.out.kp (Kp.of (X := fun _ => False) k7) (fun b _ _ e => e))
  have R7 := hide (R6.out.later k7)
  clear e3 k7 O6 R6 KW6 HA6 HB6 PB6
  have hfew := HFW.out.few
  have hfew2 := clip_count n PA PB
  have CSR := hide (sameRings_yes u7 kv (clipM n PA PB).1 w7 (O7.out.poly hRl) R7.out)
  generalize clipM n PA PB = CL at *
  obtain ⟨RR, zz⟩ := CL
  simp only at HRW HRG O7 R7 CSR hfew hfew2 HFW hRl
  obtain ⟨la, lcap, rfl, _, _, _⟩ := own_form O7.out.row
  obtain ⟨ka, kcap, rfl, _, _, _⟩ := R7.out
  go_wp2_with fail
  refine CSR.out.mono ?_
  rintro e w8 ⟨rfl, m8, rfl⟩
  have K8 : Hid (Below w7.heap.size w7 (w7.drewN m8)) := below_drewN (Below.refl _ _) m8
  obtain ⟨W8, hW8⟩ : ∃ W, W = w7.drewN m8 := ⟨_, rfl⟩
  rw [← hW8] at K8 ⊢
  clear hW8
  have z8 := K8.out.size
  have KW8 : Hid (Below W0.heap.size W0 W8) := bvia KW7.out K8.out
  have HA8 := hide (HA7.out.later K8.out)
  have HB8 := hide (HB7.out.later K8.out)
  have O8 := hide (O7.out.kp (Kp.of (X := fun _ => False) K8.out) (fun b _ _ e => e))
  have B8 : Hid (Below w.heap.size w W8) := bvia B0.out KW8.out
  clear K8 KW7 HA7 HB7 O7 R7 CSR
  have V8 : Hid (Wld W8 base wb hv L (FX (fun b _ => (b < w2.heap.size ∨ s1 ≤ b) ∧ ¬ (W0.heap.size ≤ b ∧ b < w2.heap.size)) wb hv)) := (HW.out.call B8.out).weaken (fun b o u ⟨x, y⟩ _ => ⟨⟨by omega, by omega⟩, y⟩)
  have CK := hide (keepRings_any base wb w2.heap.size s1 (fun b => W0.heap.size ≤ b ∧ b < w2.heap.size) hv (.slice la RR.length lcap) L RR vsr W8 HFW.out (by omega) (by omega) (by omega) (by omega) (fun b e => by have := HLO.out b e; omega) (fun b e => by omega) V8.out O8.out HRW.out HRG.out)
  clear V8 O8
  go_wp2_with fail
  refine CK.out.mono ?_
  rintro e w9 ⟨rfl, hv1, L1, hl1, hW1, hk1, hf1⟩
  have z9 := hk1.size
  have HA9 := hide (HA1.out.kp HA8.out hk1 (fun b h1 h2 e => by
    rcases e with e | e | e
    · omega
    · have := HLO.out b e; omega
    · omega))
  have HB9 := hide (HB1.out.kp HB8.out hk1 (fun b h1 h2 e => by
    rcases e with e | e | e
    · omega
    · have := HLO.out b e; omega
    · omega))
  have hlo1 : ∀ b, hv1.ownBlock = some b → b < w.heap.size ∨ w2.heap.size ≤ b := fun b e => by
    rcases hf1 with f | ⟨q, f, hq⟩
    · rw [f] at e; exact .inl (HLO.out b e)
    · rw [f] at e; have := Option.some.inj e; omega
  have HLO1 := hide hlo1
  have HF1 := hide hf1
  have KP9 : Hid (Kp (fun b => b = wb ∨ hv.ownBlock = some b) w w9) := ⟨hk1.os.trans B8.out.os, hk1.tape.trans B8.out.tape, hk1.output.trans B8.out.output, by have := B8.out.size; omega, fun b hb hnx => (hk1.block b (by have := B8.out.size; omega) (fun e => by
    rcases e with e | e | e
    · exact hnx (.inl e)
    · exact hnx (.inr e)
    · omega)).trans (B8.out.block b hb)⟩
  have CA := hide (keepArg_gen base wb W0.heap.size w1.heap.size pa ra wa xa (fun b => w1.heap.size ≤ b ∧ b < w2.heap.size) rga hv1 L1 PA vsa usa w9 hn HS.out (by omega) (by omega) (by omega) (fun b e => by have := hlo1 b e; omega) (by omega) bpa HRA.out (fun b e => by omega) (hW1.weaken (fun b o u ⟨x, y⟩ _ => ⟨⟨by omega, by omega⟩, y⟩)) HA9.out)
  clear hW1 hk1 hlo1 CK HA8 HB8 KW8 HA9
  go_wp2_with fail
  refine CA.out.mono ?_
  rintro e w10 ⟨rfl, hv2, L2, hl2, hW2, hk2, hf2⟩
  have z10 := hk2.size
  have HB10 := hide (HB1.out.kp HB9.out hk2 (fun b h1 h2 e => by
    rcases e with e | e | e
    · omega
    · have := HLO1.out b e; omega
    · omega))
  have hlo2 : ∀ b, hv2.ownBlock = some b → b < w.heap.size ∨ w2.heap.size ≤ b := fun b e => by
    rcases hf2 with f | ⟨q, f, hq⟩
    · rw [f] at e; exact HLO1.out b e
    · rw [f] at e; have := Option.some.inj e; omega
  have HLO2 := hide hlo2
  have HF2 := hide hf2
  have KP10 : Hid (Kp (fun b => b = wb ∨ hv.ownBlock = some b) w w10) := ⟨hk2.os.trans KP9.out.os, hk2.tape.trans KP9.out.tape, hk2.output.trans KP9.out.output, by have := KP9.out.size; omega, fun b hb hnx => (hk2.block b (by have := KP9.out.size; omega) (fun e => by
    rcases e with e | e | e
    · exact hnx (.inl e)
    · exact hnx (.inr (HF1.out.old (by have := B8.out.size; omega) e))
    · omega)).trans (KP9.out.block b hb hnx)⟩
  have CB := hide (keepArg_gen base wb w1.heap.size w2.heap.size pb rb wl xb (fun _ => False) rg hv2 L2 PB vs us w10 hn2 HS2.out (by omega) (by omega) (by omega) (fun b e => by have := hlo2 b e; omega) (by omega) bpb HRB.out (fun b e => e.elim) (hW2.weaken (fun b o u ⟨x, y⟩ _ => ⟨⟨by omega, fun e => e⟩, y⟩)) HB10.out)
  clear hW2 hk2 hlo2 CA HB9 KP9 HB10
  go_wp2_with fail
  refine CB.out.mono ?_
  rintro e w11 ⟨rfl, hv3, L3, hl3, hW3, hk3, _⟩
  have HW' := hide hW3
  have HK' : Hid (Kp (fun b => b = wb ∨ hv.ownBlock = some b) w w11) := ⟨hk3.os.trans KP10.out.os, hk3.tape.trans KP10.out.tape, hk3.output.trans KP10.out.output, by have := KP10.out.size; have := hk3.size; omega, fun b hb hnx => (hk3.block b (by have := KP10.out.size; omega) (fun e => by
    rcases e with e | e | e
    · exact hnx (.inl e)
    · exact hnx (.inr (HF1.out.old (by have := B8.out.size; omega) (HF2.out.old (by have := KP10.out.size; omega) e)))
    · omega)).trans (KP10.out.block b hb hnx)⟩
  clear hW3 hk3 CB
  go_wp2
  go_ret
  exact ⟨rfl, hv3, L3, by omega, HW'.out.weaken (fun b o u ⟨_, y⟩ _ => ⟨trivial, y⟩), HK'.out⟩
end Go.Proofs.YtnkcbephceollabGreat
namespace Go.Proofs.YtnkcbephceollabGreat
set_option linter.unusedSimpArgs false
set_option linter.unusedVariables false

/-! A way from point to point, its straight runs and its turns. -/
theorem det_cyc (a b c : Pt) : detM b c a = detM a b c := by unfold detM; grind
structure Way (s : Nat → Pt) : Prop where
  d : ∀ b, 0 < (s b).d
  two : ∀ b, befB (s b) (s (b + 1)) = true ∨ befB (s (b + 1)) (s b) = true
  opp : ∀ b, detM (s b) (s (b + 1)) (s (b + 2)) = 0 → Opp (s (b + 1)) (s b) (s (b + 2))
def Run (s : Nat → Pt) (a b : Nat) : Prop := ∀ c, a ≤ c → c < b → detM (s c) (s (c + 1)) (s (c + 2)) = 0
theorem Run.tl {s : Nat → Pt} {a b : Nat} (h : Run s a (b + 1)) : Run s a b := fun c h1 h2 => h c h1 (by omega)
section
variable {s : Nat → Pt} (w : Way s)
include w
theorem run_fwd {a : Nat} (f : befB (s a) (s (a + 1)) = true) : ∀ k, Run s a (a + k) → befB (s (a + k)) (s (a + k + 1)) = true ∧ befB (s a) (s (a + k + 1)) = true ∧ detM (s a) (s (a + 1)) (s (a + k)) = 0 ∧ detM (s a) (s (a + 1)) (s (a + k + 1)) = 0
  | 0, _ => ⟨f, f, det_first _ _, det_last _ _⟩
  | k + 1, h => by
    obtain ⟨i1, i2, i3, i4⟩ := run_fwd f k h.tl
    have st := h (a + k) (by omega) (by omega)
    have j : befB (s (a + k + 1)) (s (a + k + 2)) = true := by
      rcases w.opp (a + k) st with ⟨x, y⟩ | ⟨x, y⟩
      · rw [bef_asym i1] at x; cases x
      · exact y
    have ls := (line_sign (x := s (a + k + 2)) (w.d a) (w.d (a + k)) i3 i4 f i1).2.2 st
    exact ⟨j, bef_lt (w.d (a + k + 1)) (w.d (a + k + 2)) (w.d a) j i2, i4, ls⟩
theorem run_bwd {a : Nat} (f : befB (s (a + 1)) (s a) = true) : ∀ k, Run s a (a + k) → befB (s (a + k + 1)) (s (a + k)) = true ∧ befB (s (a + k + 1)) (s a) = true ∧ detM (s (a + 1)) (s a) (s (a + k)) = 0 ∧ detM (s (a + 1)) (s a) (s (a + k + 1)) = 0
  | 0, _ => ⟨f, f, det_last _ _, det_first _ _⟩
  | k + 1, h => by
    obtain ⟨i1, i2, i3, i4⟩ := run_bwd f k h.tl
    have st := h (a + k) (by omega) (by omega)
    have j : befB (s (a + k + 2)) (s (a + k + 1)) = true := by
      rcases w.opp (a + k) st with ⟨x, y⟩ | ⟨x, y⟩
      · exact y
      · rw [bef_asym i1] at x; cases x
    have st2 : detM (s (a + k + 1)) (s (a + k)) (s (a + k + 2)) = 0 := by rw [det_back, st]; rfl
    have ls := (line_sign (x := s (a + k + 2)) (w.d (a + 1)) (w.d (a + k + 1)) i4 i3 f i1).2.2 st2
    exact ⟨j, bef_lt (w.d (a + k + 1)) (w.d a) (w.d (a + k + 2)) i2 j, i4, ls⟩
/-- A run goes along one line. -/
theorem run_line {a b : Nat} (ab : a ≤ b) (h : Run s a b) : (∀ x, detM (s a) (s (b + 1)) x = 0 ↔ detM (s a) (s (a + 1)) x = 0) ∧ (∀ x, detM (s a) (s (b + 1)) x = 0 ↔ detM (s b) (s (b + 1)) x = 0) ∧ (befB (s a) (s (b + 1)) = true ∨ befB (s (b + 1)) (s a) = true) := by
  obtain ⟨k, rfl⟩ : ∃ k, b = a + k := ⟨b - a, by omega⟩
  rcases w.two a with f | f
  · obtain ⟨i1, i2, i3, i4⟩ := run_fwd w f k h
    have l1 := fun x => (line_sign (x := x) (w.d a) (w.d a) (det_first _ _) i4 f i2).2
    have l2 := fun x => (line_sign (x := x) (w.d a) (w.d (a + k)) i3 i4 f i1).2
    exact ⟨fun x => (l1 x).symm, fun x => (l1 x).symm.trans (l2 x), .inl i2⟩
  · obtain ⟨i1, i2, i3, i4⟩ := run_bwd w f k h
    have l1 := fun x => (line_sign (x := x) (w.d (a + 1)) (w.d (a + k + 1)) i4 (det_last _ _) f i2).2
    have l2 := fun x => (line_sign (x := x) (w.d (a + 1)) (w.d (a + k + 1)) i4 i3 f i1).2
    have fl : ∀ p q x : Pt, detM p q x = 0 ↔ detM q p x = 0 := fun p q x => by rw [det_back q p x]; omega
    refine ⟨fun x => ?_, fun x => ?_, .inr i2⟩
    · rw [fl (s a) (s (a + k + 1)), fl (s a) (s (a + 1))]; exact (l1 x).symm
    · rw [fl (s a) (s (a + k + 1)), fl (s (a + k)) (s (a + k + 1))]; exact (l1 x).symm.trans (l2 x)
/-- Where two runs meet in a turn, their ends turn too. -/
theorem turn_ends {a b a2 b2 : Nat} (ab : a ≤ b) (h : Run s a b) (ab2 : a2 ≤ b2) (h2 : Run s a2 b2) (e : s a2 = s (b + 1)) (ht : detM (s b) (s (b + 1)) (s (a2 + 1)) ≠ 0) : detM (s a) (s (b + 1)) (s (b2 + 1)) ≠ 0 := by
  intro k
  obtain ⟨_, r1, _⟩ := run_line w ab h
  obtain ⟨r2, _, _⟩ := run_line w ab2 h2
  have k1 := (r1 _).1 k
  rw [← det_cyc, ← e] at k1
  have k2 := (r2 _).1 k1
  rw [e, det_cyc] at k2
  exact ht k2
end
end Go.Proofs.YtnkcbephceollabGreat
namespace Go.Proofs.YtnkcbephceollabGreat
set_option linter.unusedSimpArgs false
set_option linter.unusedVariables false

/-! The turns of a round, one behind the other. -/
def tn (s : Nat → Pt) (b : Nat) : Bool := decide (detM (s b) (s (b + 1)) (s (b + 2)) ≠ 0)
def posN (s : Nat → Pt) (m : Nat) : List Nat := (List.range' 0 m).filter (tn s)
def turnP (s : Nat → Pt) (m : Nat) : List Pt := (posN s m).map (fun b => s (b + 1))
theorem tn_false {s : Nat → Pt} {b : Nat} (h : tn s b = false) : detM (s b) (s (b + 1)) (s (b + 2)) = 0 := by
  unfold tn at h; simpa using h
theorem tn_true {s : Nat → Pt} {b : Nat} (h : tn s b = true) : detM (s b) (s (b + 1)) (s (b + 2)) ≠ 0 := by
  unfold tn at h; simpa using h
theorem pos_mem {s : Nat → Pt} {m b : Nat} : b ∈ posN s m ↔ b < m ∧ tn s b = true := by
  unfold posN
  rw [List.mem_filter, List.mem_range']
  constructor
  · rintro ⟨⟨i, hi, e⟩, h⟩; exact ⟨by omega, h⟩
  · rintro ⟨h1, h2⟩; exact ⟨⟨b, h1, by omega⟩, h2⟩
theorem pos_sorted (s : Nat → Pt) (m : Nat) : (posN s m).Pairwise (· < ·) := by
  unfold posN
  exact (List.pairwise_lt_range' (s := 0) (n := m)).filter _
theorem sorted_at {l : List Nat} (h : l.Pairwise (· < ·)) {i j : Nat} (hj : j < l.length) (ij : i < j) : l.getD i 0 < l.getD j 0 := by
  rw [List.pairwise_iff_getElem] at h
  have := h i j (by omega) hj ij
  rw [List.getD_eq_getElem?_getD, List.getElem?_eq_getElem (by omega), List.getD_eq_getElem?_getD, List.getElem?_eq_getElem hj]
  exact this
theorem mem_at {l : List Nat} {x : Nat} (h : x ∈ l) : ∃ i, i < l.length ∧ l.getD i 0 = x := by
  obtain ⟨i, hi, e⟩ := List.getElem_of_mem h
  exact ⟨i, hi, by rw [List.getD_eq_getElem?_getD, List.getElem?_eq_getElem hi]; exact e⟩
theorem at_mem {l : List Nat} {i : Nat} (h : i < l.length) : l.getD i 0 ∈ l := by
  rw [List.getD_eq_getElem?_getD, List.getElem?_eq_getElem h]; exact List.getElem_mem h
section
variable {s : Nat → Pt} {m : Nat} (per : ∀ b, s (b + m) = s b)
theorem turn_len : (turnP s m).length = (posN s m).length := by unfold turnP; simp
theorem turn_at {j : Nat} (h : j < (posN s m).length) : (turnP s m).getD j zP = s ((posN s m).getD j 0 + 1) := by
  unfold turnP
  rw [List.getD_eq_getElem?_getD, List.getElem?_map, List.getElem?_eq_getElem h, List.getD_eq_getElem?_getD, List.getElem?_eq_getElem h]; rfl
include per
/-- From each turn to the next one the way is straight. -/
theorem edge_run {j : Nat} (h : j < (posN s m).length) : ∃ b, (posN s m).getD j 0 + 1 ≤ b ∧ Run s ((posN s m).getD j 0 + 1) b ∧ (b = (posN s m).getD ((j + 1) % (posN s m).length) 0 ∨ b = (posN s m).getD ((j + 1) % (posN s m).length) 0 + m) ∧ b ≤ (posN s m).getD j 0 + m := by
  have so := pos_sorted s m
  have mem : ∀ c, c < m → tn s c = true → c ∈ posN s m := fun c h1 h2 => pos_mem.2 ⟨h1, h2⟩
  generalize hQ : posN s m = Q at *
  have lt : ∀ i, i < Q.length → Q.getD i 0 < m := fun i hi => by
    have := at_mem hi
    rw [← hQ] at this
    rw [← hQ]
    exact (pos_mem.1 this).1
  have gap : ∀ c i, c < m → i < Q.length → Q.getD i 0 < c → (i + 1 < Q.length → c < Q.getD (i + 1) 0) → tn s c = false := fun c i hc hi h1 h2 => by
    cases t : tn s c
    · rfl
    · exfalso
      obtain ⟨l, hl, e⟩ := mem_at (mem c hc t)
      rcases Nat.lt_trichotomy l i with x | x | x
      · have := sorted_at so hi x; omega
      · subst x; omega
      · rcases Nat.lt_or_ge (i + 1) l with y | y
        · have := sorted_at so hl y
          have := h2 (by omega)
          omega
        · have : l = i + 1 := by omega
          subst this
          have := h2 hl
          omega
  by_cases last : j + 1 < Q.length
  · rw [Nat.mod_eq_of_lt last]
    have l1 := sorted_at so last (show j < j + 1 by omega)
    have l2 := lt (j + 1) last
    refine ⟨Q.getD (j + 1) 0, l1, fun c h1 h2 => ?_, .inl rfl, by have := lt j h; omega⟩
    exact tn_false (gap c j (by omega) h (by omega) (fun _ => h2))
  · have ej : j + 1 = Q.length := by omega
    rw [ej, Nat.mod_self]
    have l0 := lt 0 (by omega)
    have lj := lt j h
    have q0 : Q.getD 0 0 ≤ Q.getD j 0 := by
      rcases Nat.eq_zero_or_pos j with z | z
      · rw [z]; exact Nat.le_refl _
      · exact Nat.le_of_lt (sorted_at so h z)
    refine ⟨Q.getD 0 0 + m, by omega, fun c h1 h2 => ?_, .inr rfl, by omega⟩
    by_cases cm : c < m
    · exact tn_false (gap c j cm h (by omega) (fun x => absurd x last))
    · have e : c = (c - m) + m := by omega
      have f : tn s (c - m) = false := by
        cases t : tn s (c - m)
        · rfl
        · exfalso
          obtain ⟨l, hl, e2⟩ := mem_at (mem (c - m) (by omega) t)
          rcases Nat.eq_zero_or_pos l with z | z
          · subst z; omega
          · have := sorted_at so hl z; omega
      have := tn_false f
      rw [e, per, show c - m + m + 1 = (c - m + 1) + m by omega, per, show c - m + m + 2 = (c - m + 2) + m by omega, per]
      exact this
/-- At each of its points the round turns, as they stand in the list. -/
theorem cyc_turn (w : Way s) {j : Nat} (h : j < (turnP s m).length) : detM ((turnP s m).getD ((j + (turnP s m).length - 1) % (turnP s m).length) zP) ((turnP s m).getD j zP) ((turnP s m).getD ((j + 1) % (turnP s m).length) zP) ≠ 0 := by
  rw [turn_len] at *
  have kp : 0 < (posN s m).length := by omega
  have hp : (j + (posN s m).length - 1) % (posN s m).length < (posN s m).length := Nat.mod_lt _ kp
  have hn : (j + 1) % (posN s m).length < (posN s m).length := Nat.mod_lt _ kp
  have pn : ((j + (posN s m).length - 1) % (posN s m).length + 1) % (posN s m).length = j := by
    rcases Nat.eq_zero_or_pos j with z | z
    · subst z
      rw [Nat.zero_add, Nat.mod_eq_of_lt (show (posN s m).length - 1 < (posN s m).length by omega), show (posN s m).length - 1 + 1 = (posN s m).length by omega, Nat.mod_self]
    · rw [show j + (posN s m).length - 1 = (j - 1) + (posN s m).length by omega, Nat.add_mod_right, Nat.mod_eq_of_lt (show j - 1 < (posN s m).length by omega), show j - 1 + 1 = j by omega, Nat.mod_eq_of_lt h]
  obtain ⟨b, ab, r1, eb, _⟩ := edge_run per hp
  obtain ⟨b2, ab2, r2, eb2, _⟩ := edge_run per h
  rw [pn] at eb
  rw [turn_at hp, turn_at h, turn_at hn]
  have tj := tn_true (pos_mem.1 (at_mem h)).2
  generalize (posN s m).getD j 0 = q at *
  generalize (posN s m).getD ((j + 1) % (posN s m).length) 0 = q2 at *
  generalize (posN s m).getD ((j + (posN s m).length - 1) % (posN s m).length) 0 = q0 at *
  have e1 : s b = s q ∧ s (b + 1) = s (q + 1) := by
    rcases eb with x | x
    · rw [x]; exact ⟨rfl, rfl⟩
    · rw [x]; exact ⟨per q, by rw [show q + m + 1 = (q + 1) + m by omega, per]⟩
  have e2 : s (b2 + 1) = s (q2 + 1) := by
    rcases eb2 with x | x
    · rw [x]
    · rw [x, show q2 + m + 1 = (q2 + 1) + m by omega, per]
  have := turn_ends w ab r1 ab2 r2 e1.2.symm (by rw [e1.1, e1.2]; exact tj)
  rw [e1.2, e2] at this
  exact this
theorem turn_three (w : Way s) (h : turnP s m ≠ []) : 3 ≤ (turnP s m).length := by
  have kp : 0 < (turnP s m).length := List.length_pos_iff.2 h
  apply Classical.byContradiction
  intro x
  have c := cyc_turn per w kp
  have hk : (turnP s m).length = 1 ∨ (turnP s m).length = 2 := by omega
  rcases hk with k | k <;> rw [k] at c
  · exact c (det_first _ _)
  · exact c (det_first _ _)
end
end Go.Proofs.YtnkcbephceollabGreat
