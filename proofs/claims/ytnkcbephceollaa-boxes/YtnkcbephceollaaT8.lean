import Derived.Test.YtnkcbephceollaaQ1
import Derived.Test.YtnkcbephceollaaQ37
import Derived.Test.YtnkcbephceollaaS11
namespace Go.Proofs.Ytnkcbephceollaa
open Go.RowKit
set_option linter.unusedSimpArgs false
set_option linter.unusedVariables false

set_option maxHeartbeats 1000000 in
theorem larger_any (a b : Int) (w : World) : Calls Try.prog 22 #[.int .i64 a, .int .i64 b] w fun e w' => e = .returned (.int .i64 (mx a b)) ∧ w' = w := by
  by_cases h : a > b
  · have H : Hid (mx a b = a) := if_pos h
    have h' : b < a := h
    go_enter Try.func22, Try.ntmps22
    go_wp2
    go_ret
    exact ⟨ret_int H.out.symm, rfl⟩
  · have H : Hid (mx a b = b) := if_neg h
    have h' : ¬ b < a := h
    go_enter Try.func22, Try.ntmps22
    go_wp2
    go_ret
    exact ⟨ret_int H.out.symm, rfl⟩
set_option maxHeartbeats 1000000 in
theorem smaller_any (a b : Int) (w : World) : Calls Try.prog 23 #[.int .i64 a, .int .i64 b] w fun e w' => e = .returned (.int .i64 (mn a b)) ∧ w' = w := by
  by_cases h : a < b
  · have H : Hid (mn a b = a) := if_pos h
    go_enter Try.func23, Try.ntmps23
    go_wp2
    go_ret
    exact ⟨ret_int H.out.symm, rfl⟩
  · have H : Hid (mn a b = b) := if_neg h
    go_enter Try.func23, Try.ntmps23
    go_wp2
    go_ret
    exact ⟨ret_int H.out.symm, rfl⟩

/-- The row, as it can be read. -/
def RowAt (w : World) (a0 : Option Addr) (len0 : Nat) : Prop := ∀ k, k < len0 → ∃ b off n, a0 = some ⟨b, off, none⟩ ∧ b < w.heap.size ∧ w.cell? ⟨b, off + k, none⟩ = some (.int .i64 n) ∧ I64 n
theorem RowAt.later {w w' : World} {a0 : Option Addr} {len0 : Nat} (h : RowAt w a0 len0) (k : Below w.heap.size w w') : RowAt w' a0 len0 := fun j hj => by
  obtain ⟨b, off, n, e, hb, hc, hn⟩ := h j hj
  exact ⟨b, off, n, e, Nat.lt_of_lt_of_le hb k.size, (k.cell (p := ⟨b, off + j, none⟩) hb).trans hc, hn⟩

set_option maxRecDepth 100000 in
set_option maxHeartbeats 4000000 in
theorem raw_any (a0 : Option Addr) (len0 cap0 i : Nat) (hi : i ≤ 4) (w : World) (hrow : RowAt w a0 len0) (hlen : len0 ≤ 9223372036854775807) :
    Calls Try.prog 21 #[.slice a0 len0 cap0, .int .i64 (i : Nat)] w fun e w' => ∃ a b c d : Int, e = .returned (.tuple #[.int .i64 a, .int .i64 b, .int .i64 c, .int .i64 d]) ∧ (0 ≤ a ∧ a ≤ 19 ∧ a < c ∧ c ≤ 40) ∧ (0 ≤ b ∧ b ≤ 19 ∧ b < d ∧ d ≤ 40) ∧ Below w.heap.size w w' := by
  have HR := hide hrow
  clear hrow
  go_enter Try.func21, Try.ntmps21
  go_upto_block 0 with fail
  go_cut [9] (fun _ w' => ∃ n0 n1 n2 n3 : Int, Blk w' w.heap.size #[.int .i64 n0, .int .i64 n1, .int .i64 n2, .int .i64 n3] ∧ Below w.heap.size w w' ∧ I64 n0 ∧ I64 n1 ∧ I64 n2 ∧ I64 n3)
  case first =>
    go_wp2_with fail
    go_loopw [9] (fun kv w' => ∃ (k : Nat) (vs : Array Value), kv = .int .i64 k ∧ k ≤ 4 ∧ vs.size = 4 ∧ Ints vs ∧ Blk w' w.heap.size vs ∧ Below w.heap.size w w') (fun kv _ => (4 - intOf kv).toNat)
    case atStart => exact ⟨0, _, rfl, by decide, rfl, ints_zero 4, Blk.new w _ _, (Below.refl _ _).alloc (Nat.le_refl _) _⟩
    case round =>
      obtain ⟨k, vs, rfl, hk, hsz, hvs, hblk, hbel⟩ := hrel
      by_cases hlt : k < 4 ∧ i + k < len0
      · obtain ⟨h8, hl⟩ := hlt
        obtain ⟨b, off, n, rfl, hb, hc, hn⟩ := HR.out (i + k) hl
        obtain ⟨v', hv'⟩ : ∃ v, vs[k]? = some v := ⟨_, Array.getElem?_eq_getElem (by omega)⟩
        obtain ⟨n', rfl, _⟩ := hvs k v' hv'
        have hc' : wr.cell? ⟨b, off + (i + k), none⟩ = some (.int .i64 n) := (hbel.cell (p := ⟨b, off + (i + k), none⟩) hb).trans hc
        have hd' : wr.cell? ⟨w.heap.size, k, none⟩ = some (.int .i64 n') := (hblk.cell k).trans hv'
        have hf' := hblk.free k
        have hbl := hblk.lt
        obtain ⟨j, hj⟩ : ∃ j, j = i + k := ⟨_, rfl⟩
        have ej : (i : Int) + (k : Int) = (j : Int) := by omega
        rw [← hj] at hc' hl
        have e1 : (k : Int) < 4 := by omega
        have e2 : (j : Int) < (len0 : Int) := by omega
        have e3 : (0 : Int) ≤ (j : Int) := Int.natCast_nonneg _
        have e4 : (0 : Int) ≤ (k : Int) := Int.natCast_nonneg _
        have HV := hide hvs
        have HB := hide hblk
        have HL := hide hbel
        clear hv' hc HR hj hvs hblk hbel
        go_wp2
        exact ⟨⟨k + 1, vs.setIfInBounds k (.int .i64 n), by go_num, by omega, by simpa using hsz, ints_set HV.out k hn, HB.out.set k (by omega) _, HL.out.setCell (Nat.le_refl _) _⟩, by simp [intOf]; omega⟩
      · obtain ⟨n0, n1, n2, n3, rfl, h0, h1, h2, h3⟩ := ints_4 hvs hsz
        clear hvs HR
        by_cases h8 : k < 4
        · have e1 : (k : Int) < 4 := by omega
          have e3 : ¬ (i : Int) + (k : Int) < (len0 : Int) := by omega
          clear hlt
          go_wp2
          go_meet
          case rel => exact ⟨n0, n1, n2, n3, hblk, hbel, h0, h1, h2, h3⟩
        · have e1 : ¬ (k : Int) < 4 := by omega
          clear hlt
          go_wp2
          go_meet
          case rel => exact ⟨n0, n1, n2, n3, hblk, hbel, h0, h1, h2, h3⟩
  case rest =>
    clear HR
    obtain ⟨n0, n1, n2, n3, hblk, B0, ⟨i0, i0'⟩, ⟨i1, i1'⟩, ⟨i2, i2'⟩, i3, i3'⟩ := hcut
    obtain ⟨cv, fv, zv⟩ := id hblk
    have p0 := pickM_bd n0 20 (by decide)
    have p1 := pickM_bd n1 20 (by decide)
    have p2 := pickM_bd n2 20 (by decide)
    have p3 := pickM_bd n3 20 (by decide)
    have C0 := hide (fun wz => pick_any n0 20 wz i0 i0' (by decide) (by decide))
    have C1 := hide (fun wz => pick_any n1 20 wz i1 i1' (by decide) (by decide))
    have C2 := hide (fun wz => pick_any n2 20 wz i2 i2' (by decide) (by decide))
    have C3 := hide (fun wz => pick_any n3 20 wz i3 i3' (by decide) (by decide))
    generalize pickM n0 20 = a at *
    generalize pickM n1 20 = b at *
    generalize pickM n2 20 = ww at *
    generalize pickM n3 20 = hh at *
    go_wp2_with fail
    refine (C0.out _).mono ?_
    rintro e w' ⟨rfl, hw⟩
    have hw2 := hw.symm
    subst hw2
    go_wp2_with fail
    refine (C1.out _).mono ?_
    rintro e w' ⟨rfl, hw⟩
    have hw2 := hw.symm
    subst hw2
    go_wp2_with fail
    refine (C2.out _).mono ?_
    rintro e w' ⟨rfl, hw⟩
    have hw2 := hw.symm
    subst hw2
    go_wp2_with fail
    refine (C3.out _).mono ?_
    rintro e w' ⟨rfl, hw⟩
    have hw2 := hw.symm
    subst hw2
    clear C0 C1 C2 C3 cv fv zv hblk
    go_wp2
    exact bodyPost_ret (v := .tuple #[.int .i64 a, .int .i64 b, .int .i64 (a + 1 + ww), .int .i64 (b + 1 + hh)]) (by simp [results, Try.results21, go_sem]) rfl ⟨a, b, a + 1 + ww, b + 1 + hh, rfl, by omega, by omega, B0⟩
end Go.Proofs.Ytnkcbephceollaa
