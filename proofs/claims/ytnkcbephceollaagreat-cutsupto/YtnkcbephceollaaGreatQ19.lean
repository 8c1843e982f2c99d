import Derived.Test.YtnkcbephceollaaGreatH2
namespace Go.Proofs.YtnkcbephceollaaGreat
open Go.RowKit
set_option linter.unusedSimpArgs false
set_option linter.unusedVariables false

theorem ptAt_of_blk {w : World} {g : Nat} {l : List Pt} (h : Blk w g (ptCells l).toArray) (j : Nat) (hj : j < l.length) : PtAt w g (0 + j * 3) (l.getD j zP) := by
  have hc := fun t (ht : t < 3) => (h.cell (j * 3 + t)).trans ((List.getElem?_toArray ..).trans (ptCells_at l j t hj ht))
  simp only [Nat.zero_add]
  exact ⟨hc 0 (by decide), hc 1 (by decide), hc 2 (by decide)⟩
theorem getD_snoc {r : List Pt} {p : Pt} {j : Nat} (hj : j < r.length) : (r ++ [p]).getD j zP = r.getD j zP := by
  rw [List.getD_eq_getElem?_getD, List.getD_eq_getElem?_getD, List.getElem?_append_left hj]
theorem getD_last {r : List Pt} {p : Pt} : (r ++ [p]).getD r.length zP = p := by
  rw [List.getD_eq_getElem?_getD, List.getElem?_append_right (Nat.le_refl _)]; simp
theorem ring_of_blk {w : World} {g : Nat} {r : List Pt} {p : Pt} (h : Blk w g (ptCells (r ++ [p])).toArray) (hl : r.length ≤ 1048576) : RingAt w (.slice (some ⟨g, 0, none⟩) r.length (r.length + 1)) r := by
  refine ⟨some ⟨g, 0, none⟩, r.length + 1, rfl, by omega, by unfold maxLen; omega, fun j hj => ⟨g, 0, rfl, h.lt, ?_⟩⟩
  rw [← getD_snoc (p := p) hj]
  exact ptAt_of_blk h j (by simp; omega)
theorem ArgAt.poly {w : World} {base pb rb wb xb : Nat} {rg : Nat → Nat} {P : List (List Pt)} {vs us : Array Value} (h : ArgAt w base pb rb wb xb rg P vs us) (hn : P.length ≤ 1048576) (hS : ∀ i, i < P.length → (P.getD i []).length ≤ 1048576) :
    PolyAt w (.slice (some ⟨rb, 0, none⟩) P.length (P.length + 1)) P := by
  refine ⟨_, _, rfl, by omega, by unfold maxLen; omega, fun i hi => ⟨rb, 0, _, rfl, h.hand.rbk.lt, ?_, ring_of_blk (h.hand.pts i hi) (hS i hi)⟩⟩
  rw [Nat.zero_add]
  exact (h.hand.rbk.cell i).trans (h.hand.vat i hi)
theorem HandAt.later {w w' : World} {pb rb wb : Nat} {rg : Nat → Nat} {P : List (List Pt)} {i : Nat} {vs us : Array Value} (h : HandAt w pb rb wb rg P i vs us) (hb : Below w.heap.size w w') : HandAt w' pb rb wb rg P i vs us :=
  ⟨h.pbk.call hb, h.rbk.call hb, h.wbk.call hb, h.vsz, h.usz, h.vat, h.uat, fun t ht => (h.pts t ht).call hb, h.ord, h.rty.call hb, fun t ht => (h.pty t ht).call hb⟩
theorem ArgAt.later {w w' : World} {base pb rb wb xb : Nat} {rg : Nat → Nat} {P : List (List Pt)} {vs us : Array Value} (h : ArgAt w base pb rb wb xb rg P vs us) (hb : Below w.heap.size w w') : ArgAt w' base pb rb wb xb rg P vs us :=
  ⟨h.hand.later hb, h.last, h.xbk.call hb, h.xord, h.pbx, h.rbase, h.wbase, h.rp, h.wp, h.rw'⟩

set_option maxRecDepth 100000 in
set_option maxHeartbeats 4000000 in
theorem still_any (v : Value) (P : List (List Pt)) (w : World) {base pb rb wb xb : Nat} {rg : Nat → Nat} {vs us : Array Value} (hP : PolyAt w v P) (hA : ArgAt w base pb rb wb xb rg P vs us) (hn : P.length ≤ 1048576) (hS : ∀ i, i < P.length → (P.getD i []).length ≤ 1048576) :
    Calls Tryz.prog 24 #[.pointer (some ⟨pb, 0, none⟩), v] w fun e w' => e = .returned (.bool true) ∧ Below w.heap.size w w' := by
  have hp := hA.poly hn hS
  have hP0 := hP
  have hneq := neq_pt
  have heq := eql_pt
  have heqb : eqP ⟨1, 2, 3⟩ ⟨1, 2, 3⟩ = true := rfl
  obtain ⟨a, cap, rfl, h1, h2, h3⟩ := hP
  obtain ⟨hp0, hp1⟩ := And.intro (hA.hand.pbk.cell 0) (hA.hand.pbk.cell 1)
  have hlast := (hA.hand.rbk.cell P.length).trans hA.last
  simp at hp0 hp1
  go_enter Tryz.func24, Tryz.ntmps24
  go_wp2_with fail
  refine (it_any pb rb wb P.length _ hp0 hp1).mono ?_
  rintro e w1 ⟨rfl, m1, rfl⟩
  go_wp2_with fail
  refine (sameRings_yes _ _ P _ (hp.drewN _) (hP0.drewN _)).mono ?_
  rintro e w2 ⟨rfl, m2, rfl⟩
  have hkk : (P.length : Int) < (P.length : Int) + 1 := by omega
  clear hP0 hp
  go_wp2_with fail
  refine (beyond_any _).mono ?_
  rintro e w3 ⟨rfl, hw3⟩
  have B3 : Below w.heap.size w w3 := by rw [hw3]; exact (below_drewN (Below.refl _ _) _).alloc (Nat.le_refl _) _
  clear hw3 hp0 hp1 hlast
  go_wp2_with fail
  go_loopw [8, 9, 10] (fun c _ _ w' => ∃ i : Nat, c = .int .i64 i ∧ i ≤ P.length ∧ Below w.heap.size w w' ∧ Blk w' w3.heap.size #[.int .i64 bynd.x, .int .i64 bynd.y, .int .i64 bynd.d]) (fun c _ _ _ => P.length - (intOf c).toNat)
  case atStart => exact ⟨0, rfl, Nat.zero_le _, B3.alloc B3.size _, Blk.new w3 _ _⟩
  case round =>
    obtain ⟨i, rfl, hi, hbel, ⟨cb, fb, zb⟩⟩ := hrel
    have hAr := hA.later hbel
    obtain ⟨hp0, hp1⟩ := And.intro (hAr.hand.pbk.cell 0) (hAr.hand.pbk.cell 1)
    simp at hp0 hp1
    have cb0 := cb 0
    have cb1 := cb 1
    have cb2 := cb 2
    simp [bynd] at cb0 cb1 cb2
    by_cases hlt : i < P.length
    · obtain ⟨b, off, rv, rfl, hb, hc0, hr0⟩ := h3 i hlt
      have hc := (hbel.cell (p := ⟨b, off + i, none⟩) hb).trans hc0
      have hr := hr0.later hbel
      have hsm := hS i hlt
      have hwc := (hAr.hand.wbk.cell i).trans (hAr.hand.uat i hlt)
      have hring := ring_of_blk (hAr.hand.pts i hlt) hsm
      have hlast := ptAt_of_blk (hAr.hand.pts i hlt) (P.getD i []).length (by simp)
      rw [getD_last] at hlast
      generalize P.getD i [] = r at *
      obtain ⟨l0, l1, l2⟩ := hlast
      simp only [Nat.zero_add, bynd] at l0 l1 l2
      obtain ⟨a', cap', rfl, g1, g2, g3⟩ := hr0
      have hi0 : (0 : Int) ≤ (i : Int) := Int.natCast_nonneg _
      have hi1 : (i : Int) < (P.length : Int) := by omega
      have hr1 : (r.length : Int) < (r.length : Int) + 1 := by omega
      have hr2 : (r.length : Int) ≤ (r.length : Int) + 1 := by omega
      have hr3 : r.length ≤ r.length + 1 := by omega
      have hr4 : r.length < r.length + 1 := by omega
      clear h3 hc0 g3 hA hAr hS
      go_wp2_with fail
      go_quiet ((go_at_call 47; exact Calls.quiet_of (samePoints_yes _ _ r _ (hring.drewN _) (hr.drewN _))))
      go_wp2_with fail
      go_quiet (fail)
      go_wp2
      go_roundw
      case rel => exact ⟨i + 1, by go_num, by omega, below_drewN hbel _, ⟨cb, fb, zb⟩⟩
      case measure => simp [intOf]; omega
    · have ei : i = P.length := by omega
      subst ei
      have hlast := (hAr.hand.rbk.cell P.length).trans hAr.last
      have x0 := hAr.xbk.cell 0
      have x1 := hAr.xbk.cell 1
      have x2 := hAr.xbk.cell 2
      simp at x0 x1 x2
      have hi0 : (0 : Int) ≤ (P.length : Int) := Int.natCast_nonneg _
      have hi1 : (P.length : Int) < (P.length : Int) + 1 := by omega
      have hi2 : P.length < P.length + 1 := by omega
      clear h3 hA hAr hS
      go_wp2_with fail
      go_quiet (fail)
      go_wp2
      go_ret
      exact ⟨rfl, below_drewN hbel _⟩
end Go.Proofs.YtnkcbephceollaaGreat
namespace Go.Proofs.YtnkcbephceollaaGreat
open Go.RowKit
set_option linter.unusedSimpArgs false
set_option linter.unusedVariables false

/-- A list that reads as its owner marked it: rings, points, pieces, numbers. -/
def RingsMk (w : World) (F : Nat → Nat → Prop) (v : Value) (m : Int) : Prop :=
  ∃ (a : Option Addr) (n cap : Nat), v = .slice a n cap ∧ n ≤ 9223372036854775807 ∧ ∀ j, j < n → ∃ b off g c, a = some ⟨b, off, none⟩ ∧ F b (off + j) ∧ (F g 0 ∧ F g 1 ∧ F g 2) ∧ w.cell? ⟨b, off + j, none⟩ = some (.slice (some ⟨g, 0, none⟩) 1 c) ∧ PtAt w g 0 ⟨m, 0, 0⟩
def PtsMk (w : World) (F : Nat → Nat → Prop) (v : Value) (m : Int) : Prop :=
  ∃ (a : Option Addr) (n cap : Nat), v = .slice a n cap ∧ n ≤ 9223372036854775807 ∧ ∀ j, j < n → ∃ b off, a = some ⟨b, off, none⟩ ∧ (F b (off + j * 3) ∧ F b (off + j * 3 + 1) ∧ F b (off + j * 3 + 2)) ∧ PtAt w b (off + j * 3) ⟨0, m, 0⟩
structure PcAt (w : World) (b o : Nat) (m : Int) : Prop where
  c0 : w.cell? ⟨b, o, none⟩ = some (.int .i64 0)
  c1 : w.cell? ⟨b, o + 1, none⟩ = some (.int .i64 0)
  c2 : w.cell? ⟨b, o + 2, none⟩ = some (.int .i64 m)
  c3 : w.cell? ⟨b, o + 3, none⟩ = some (.int .i64 0)
  c4 : w.cell? ⟨b, o + 4, none⟩ = some (.int .i64 0)
  c5 : w.cell? ⟨b, o + 5, none⟩ = some (.int .i64 0)
  c6 : w.cell? ⟨b, o + 6, none⟩ = some (.bool false)
  c7 : w.cell? ⟨b, o + 7, none⟩ = some (.bool false)
  c8 : w.cell? ⟨b, o + 8, none⟩ = some (.bool false)
  c9 : w.cell? ⟨b, o + 9, none⟩ = some (.bool false)
def PcsMk (w : World) (F : Nat → Nat → Prop) (v : Value) (m : Int) : Prop :=
  ∃ (a : Option Addr) (n cap : Nat), v = .slice a n cap ∧ n ≤ 9223372036854775807 ∧ ∀ j, j < n → ∃ b off, a = some ⟨b, off, none⟩ ∧ (∀ t, t < 10 → F b (off + j * 10 + t)) ∧ PcAt w b (off + j * 10) m
def NumsMk (w : World) (F : Nat → Nat → Prop) (v : Value) (m : Int) : Prop :=
  ∃ (a : Option Addr) (n cap : Nat), v = .slice a n cap ∧ n ≤ 9223372036854775807 ∧ ∀ j, j < n → ∃ b off, a = some ⟨b, off, none⟩ ∧ F b (off + j) ∧ w.cell? ⟨b, off + j, none⟩ = some (.int .i64 m)
/-- A hold: its five cells, its four lists. -/
structure HoldMk (w : World) (F : Nat → Nat → Prop) (h : Nat) (m : Int) (rv pv cv nv : Value) : Prop where
  own : ∀ o, o < 5 → F h o
  c0 : w.cell? ⟨h, 0, none⟩ = some rv
  c1 : w.cell? ⟨h, 1, none⟩ = some pv
  c2 : w.cell? ⟨h, 2, none⟩ = some cv
  c3 : w.cell? ⟨h, 3, none⟩ = some nv
  c4 : w.cell? ⟨h, 4, none⟩ = some (.int .i64 m)
  rings : RingsMk w F rv m
  points : PtsMk w F pv m
  pieces : PcsMk w F cv m
  nums : NumsMk w F nv m

set_option maxRecDepth 100000 in
set_option maxHeartbeats 4000000 in
theorem marked_yes (F : Nat → Nat → Prop) (h : Nat) (m : Int) (rv pv cv nv : Value) (w : World) (hm : HoldMk w F h m rv pv cv nv) :
    Calls Tryz.prog 17 #[.pointer (some ⟨h, 0, none⟩)] w fun e w' => e = .returned (.bool true) ∧ ∃ n, w' = w.drewN n := by
  obtain ⟨_, h0, h1, h2, h3, h4, ⟨ra, rn, rc, rfl, rl, hr⟩, ⟨pa, pn, pc, rfl, pl, hp⟩, ⟨ca, cn, cc, rfl, cl, hc⟩, ⟨na, nn, nc, rfl, nl, hn⟩⟩ := hm
  have hneq := neq_pt
  have e1 : eqP ⟨m, 0, 0⟩ ⟨m, 0, 0⟩ = true := eqP_self _
  have e2 : eqP ⟨0, m, 0⟩ ⟨0, m, 0⟩ = true := eqP_self _
  go_enter Tryz.func17, Tryz.ntmps17
  go_wp2_with fail
  go_loopw [3] (fun i w' => ∃ (k n : Nat), i = .int .i64 k ∧ k ≤ rn ∧ w' = w.drewN n) (fun i _ => rn - (intOf i).toNat)
  case atStart => exact ⟨0, 0, rfl, Nat.zero_le _, rfl⟩
  case round =>
    obtain ⟨k, n, rfl, hk, rfl⟩ := hrel
    by_cases hlt : k < rn
    · obtain ⟨b, off, g, c, rfl, _, _, c0, p0, p1, p2⟩ := hr k hlt
      simp only [Nat.zero_add] at p1 p2
      have hk0 : (0 : Int) ≤ (k : Int) := Int.natCast_nonneg _
      have hk1 : (k : Int) < (rn : Int) := by omega
      clear hr hp hc hn
      go_wp2_with fail
      go_quiet (fail)
      go_wp2
      go_roundw
      case rel => exact ⟨k + 1, _, by go_num, by omega, rfl⟩
      case measure => simp [intOf]; omega
    clear hr
    go_wp2_with fail
    go_loopw [4] (fun i w' => ∃ (k n : Nat), i = .int .i64 k ∧ k ≤ pn ∧ w' = w.drewN n) (fun i _ => pn - (intOf i).toNat)
    case atStart => exact ⟨0, n, rfl, Nat.zero_le _, rfl⟩
    case round =>
      obtain ⟨k2, n2, rfl, hk2, rfl⟩ := hrel
      by_cases hlt2 : k2 < pn
      · obtain ⟨b, off, rfl, _, p0, p1, p2⟩ := hp k2 hlt2
        have hk0 : (0 : Int) ≤ (k2 : Int) := Int.natCast_nonneg _
        have hk1 : (k2 : Int) < (pn : Int) := by omega
        clear hp hc hn
        go_wp2_with fail
        go_quiet (fail)
        go_wp2
        go_roundw
        case rel => exact ⟨k2 + 1, _, by go_num, by omega, rfl⟩
        case measure => simp [intOf]; omega
      clear hp
      go_wp2_with fail
      go_loopw [5] (fun i w' => ∃ (k n : Nat), i = .int .i64 k ∧ k ≤ cn ∧ w' = w.drewN n) (fun i _ => cn - (intOf i).toNat)
      case atStart => exact ⟨0, n2, rfl, Nat.zero_le _, rfl⟩
      case round =>
        obtain ⟨k3, n3, rfl, hk3, rfl⟩ := hrel
        by_cases hlt3 : k3 < cn
        · obtain ⟨b, off, rfl, _, ⟨q0, q1, q2, q3, q4, q5, q6, q7, q8, q9⟩⟩ := hc k3 hlt3
          have hk0 : (0 : Int) ≤ (k3 : Int) := Int.natCast_nonneg _
          have hk1 : (k3 : Int) < (cn : Int) := by omega
          clear hc hn
          go_wp2_with fail
          go_quiet (fail)
          go_wp2
          go_roundw
          case rel => exact ⟨k3 + 1, _, by go_num, by omega, rfl⟩
          case measure => simp [intOf]; omega
        clear hc
        go_wp2_with fail
        go_loopw [6] (fun i w' => ∃ (k n : Nat), i = .int .i64 k ∧ k ≤ nn ∧ w' = w.drewN n) (fun i _ => nn - (intOf i).toNat)
        case atStart => exact ⟨0, n3, rfl, Nat.zero_le _, rfl⟩
        case round =>
          obtain ⟨k4, n4, rfl, hk4, rfl⟩ := hrel
          by_cases hlt4 : k4 < nn
          · obtain ⟨b, off, rfl, _, q0⟩ := hn k4 hlt4
            have hk0 : (0 : Int) ≤ (k4 : Int) := Int.natCast_nonneg _
            have hk1 : (k4 : Int) < (nn : Int) := by omega
            clear hn
            go_wp2_with fail
            go_quiet (fail)
            go_wp2
            go_roundw
            case rel => exact ⟨k4 + 1, _, by go_num, by omega, rfl⟩
            case measure => simp [intOf]; omega
          clear hn
          go_wp2
          go_ret
          exact ⟨rfl, n4, rfl⟩
end Go.Proofs.YtnkcbephceollaaGreat
