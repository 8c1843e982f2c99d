import Derived.Test.YtkmapffhfmgfeaaGreatQH1
import Derived.Deep.AppendLies
import Derived.Deep.RegionHeld3
import Derived.OwnWalk
import Derived.Laws.OwnMore
namespace Go.Proofs.YtkmapffhfmgfeaaGreat
open Go.RowKit
set_option linter.unusedSimpArgs false
set_option linter.unusedVariables false

/-- A list that reads as its owner marked it: rings, points, pieces, numbers. -/
def RingsMk (w : World) (F : Nat → Nat → Prop) (v : Value) (m : Int) : Prop :=
  ∃ (a : Option Addr) (n cap : Nat), v = .slice a n cap ∧ n ≤ 9223372036854775807 ∧ ∀ j, j < n → ∃ b off g c, a = some ⟨b, off, none⟩ ∧ F b (off + j) ∧ (F g 0 ∧ F g 1 ∧ F g 2) ∧ w.cell? ⟨b, off + j, none⟩ = some (.slice (some ⟨g, 0, none⟩) 1 c) ∧ PtAt w g 0 ⟨m, 0, 0⟩
def PtsMk (w : World) (F : Nat → Nat → Prop) (v : Value) (m : Int) : Prop :=
  ∃ (a : Option Addr) (n cap : Nat), v = .slice a n cap ∧ n ≤ 9223372036854775807 ∧ ∀ j, j < n → ∃ b off, a = some ⟨b, off, none⟩ ∧ (F b (off + j * 3) ∧ F b (off + j * 3 + 1) ∧ F b (off + j * 3 + 2)) ∧ PtAt w b (off + j * 3) ⟨0, m, 0⟩
structure PcAt (w : World) (b o : Nat) (m : Int) : Prop where
  c0 : w.cell? ⟨b, o, none⟩ = some (.int .i64 0)
  c1 : w.cell? ⟨b, o + 1, none⟩ = some (.int .i64 0)
  c2 : w.cell? ⟨b, o + 2, none⟩ = some (.int .i64 m)
  c3 : w.cell? ⟨b, o + 3, none⟩ = some (.int .i64 0)
  c4 : w.cell? ⟨b, o + 4, none⟩ = some (.int .i64 0)
  c5 : w.cell? ⟨b, o + 5, none⟩ = some (.int .i64 0)
  c6 : w.cell? ⟨b, o + 6, none⟩ = some (.bool false)
  c7 : w.cell? ⟨b, o + 7, none⟩ = some (.bool false)
  c8 : w.cell? ⟨b, o + 8, none⟩ = some (.bool false)
  c9 : w.cell? ⟨b, o + 9, none⟩ = some (.bool false)
def PcsMk (w : World) (F : Nat → Nat → Prop) (v : Value) (m : Int) : Prop :=
  ∃ (a : Option Addr) (n cap : Nat), v = .slice a n cap ∧ n ≤ 9223372036854775807 ∧ ∀ j, j < n → ∃ b off, a = some ⟨b, off, none⟩ ∧ (∀ t, t < 10 → F b (off + j * 10 + t)) ∧ PcAt w b (off + j * 10) m
def NumsMk (w : World) (F : Nat → Nat → Prop) (v : Value) (m : Int) : Prop :=
  ∃ (a : Option Addr) (n cap : Nat), v = .slice a n cap ∧ n ≤ 9223372036854775807 ∧ ∀ j, j < n → ∃ b off, a = some ⟨b, off, none⟩ ∧ F b (off + j) ∧ w.cell? ⟨b, off + j, none⟩ = some (.int .i64 m)
/-- A hold: its five cells, its four lists. -/
structure HoldMk (w : World) (F : Nat → Nat → Prop) (h : Nat) (m : Int) (rv pv cv nv : Value) : Prop where
  own : ∀ o, o < 5 → F h o
  c0 : w.cell? ⟨h, 0, none⟩ = some rv
  c1 : w.cell? ⟨h, 1, none⟩ = some pv
  c2 : w.cell? ⟨h, 2, none⟩ = some cv
  c3 : w.cell? ⟨h, 3, none⟩ = some nv
  c4 : w.cell? ⟨h, 4, none⟩ = some (.int .i64 m)
  rings : RingsMk w F rv m
  points : PtsMk w F pv m
  pieces : PcsMk w F cv m
  nums : NumsMk w F nv m

set_option maxRecDepth 100000 in
set_option maxHeartbeats 4000000 in
theorem marked_yes (F : Nat → Nat → Prop) (h : Nat) (m : Int) (rv pv cv nv : Value) (w : World) (hm : HoldMk w F h m rv pv cv nv) :
    Calls Tryz.prog 17 #[.pointer (some ⟨h, 0, none⟩)] w fun e w' => e = .returned (.bool true) ∧ ∃ n, w' = w.drewN n := by
  obtain ⟨_, h0, h1, h2, h3, h4, ⟨ra, rn, rc, rfl, rl, hr⟩, ⟨pa, pn, pc, rfl, pl, hp⟩, ⟨ca, cn, cc, rfl, cl, hc⟩, ⟨na, nn, nc, rfl, nl, hn⟩⟩ := hm
  have hneq := neq_pt
  have e1 : eqP ⟨m, 0, 0⟩ ⟨m, 0, 0⟩ = true := eqP_self _
  have e2 : eqP ⟨0, m, 0⟩ ⟨0, m, 0⟩ = true := eqP_self _
  go_enter Tryz.func17, Tryz.ntmps17
  go_wp2_with fail
  go_loopw [3] (fun i w' => ∃ (k n : Nat), i = .int .i64 k ∧ k ≤ rn ∧ w' = w.drewN n) (fun i _ => rn - (intOf i).toNat)
  case atStart => exact ⟨0, 0, rfl, Nat.zero_le _, rfl⟩
  case round =>
    obtain ⟨k, n, rfl, hk, rfl⟩ := hrel
    by_cases hlt : k < rn
    · obtain ⟨b, off, g, c, rfl, _, _, c0, p0, p1, p2⟩ := hr k hlt
      simp only [Nat.zero_add] at p1 p2
      have hk0 : (0 : Int) ≤ (k : Int) := Int.natCast_nonneg _
      have hk1 : (k : Int) < (rn : Int) := by omega
      clear hr hp hc hn
      go_wp2_with fail
      go_quiet (fail)
      go_wp2
      go_roundw
      case rel => exact ⟨k + 1, _, by go_num, by omega, rfl⟩
      case measure => simp [intOf]; omega
    clear hr
    go_wp2_with fail
    go_loopw [4] (fun i w' => ∃ (k n : Nat), i = .int .i64 k ∧ k ≤ pn ∧ w' = w.drewN n) (fun i _ => pn - (intOf i).toNat)
    case atStart => exact ⟨0, n, rfl, Nat.zero_le _, rfl⟩
    case round =>
      obtain ⟨k2, n2, rfl, hk2, rfl⟩ := hrel
      by_cases hlt2 : k2 < pn
      · obtain ⟨b, off, rfl, _, p0, p1, p2⟩ := hp k2 hlt2
        have hk0 : (0 : Int) ≤ (k2 : Int) := Int.natCast_nonneg _
        have hk1 : (k2 : Int) < (pn : Int) := by omega
        clear hp hc hn
        go_wp2_with fail
        go_quiet (fail)
        go_wp2
        go_roundw
        case rel => exact ⟨k2 + 1, _, by go_num, by omega, rfl⟩
        case measure => simp [intOf]; omega
      clear hp
      go_wp2_with fail
      go_loopw [5] (fun i w' => ∃ (k n : Nat), i = .int .i64 k ∧ k ≤ cn ∧ w' = w.drewN n) (fun i _ => cn - (intOf i).toNat)
      case atStart => exact ⟨0, n2, rfl, Nat.zero_le _, rfl⟩
      case round =>
        obtain ⟨k3, n3, rfl, hk3, rfl⟩ := hrel
        by_cases hlt3 : k3 < cn
        · obtain ⟨b, off, rfl, _, ⟨q0, q1, q2, q3, q4, q5, q6, q7, q8, q9⟩⟩ := hc k3 hlt3
          have hk0 : (0 : Int) ≤ (k3 : Int) := Int.natCast_nonneg _
          have hk1 : (k3 : Int) < (cn : Int) := by omega
          clear hc hn
          go_wp2_with fail
          go_quiet (fail)
          go_wp2
          go_roundw
          case rel => exact ⟨k3 + 1, _, by go_num, by omega, rfl⟩
          case measure => simp [intOf]; omega
        clear hc
        go_wp2_with fail
        go_loopw [6] (fun i w' => ∃ (k n : Nat), i = .int .i64 k ∧ k ≤ nn ∧ w' = w.drewN n) (fun i _ => nn - (intOf i).toNat)
        case atStart => exact ⟨0, n3, rfl, Nat.zero_le _, rfl⟩
        case round =>
          obtain ⟨k4, n4, rfl, hk4, rfl⟩ := hrel
          by_cases hlt4 : k4 < nn
          · obtain ⟨b, off, rfl, _, q0⟩ := hn k4 hlt4
            have hk0 : (0 : Int) ≤ (k4 : Int) := Int.natCast_nonneg _
            have hk1 : (k4 : Int) < (nn : Int) := by omega
            clear hn
            go_wp2_with fail
            go_quiet (fail)
            go_wp2
            go_roundw
            case rel => exact ⟨k4 + 1, _, by go_num, by omega, rfl⟩
            case measure => simp [intOf]; omega
          clear hn
          go_wp2
          go_ret
          exact ⟨rfl, n4, rfl⟩
end Go.Proofs.YtkmapffhfmgfeaaGreat
namespace Go.Proofs.YtkmapffhfmgfeaaGreat
open Go.RowKit
set_option linter.unusedSimpArgs false
set_option linter.unusedVariables false

/-- Old blocks are as they were, but for those of X; new ones may have come. -/
structure Kp (X : Nat → Prop) (w w' : World) : Prop where
  os : w'.os = w.os
  tape : w'.tape = w.tape
  output : w'.output = w.output
  size : w.heap.size ≤ w'.heap.size
  block : ∀ b, b < w.heap.size → ¬ X b → w'.heap[b]? = w.heap[b]?
theorem Kp.refl (X : Nat → Prop) (w : World) : Kp X w w := ⟨rfl, rfl, rfl, Nat.le_refl _, fun _ _ _ => rfl⟩
theorem Kp.trans {X : Nat → Prop} {a b c : World} (h : Kp X a b) (k : Kp X b c) : Kp X a c :=
  ⟨k.os.trans h.os, k.tape.trans h.tape, k.output.trans h.output, Nat.le_trans h.size k.size, fun x hx hn => (k.block x (Nat.lt_of_lt_of_le hx h.size) hn).trans (h.block x hx hn)⟩
theorem Kp.weaken {X Y : Nat → Prop} {a b : World} (h : Kp X a b) (hxy : ∀ x, x < a.heap.size → X x → Y x) : Kp Y a b :=
  ⟨h.os, h.tape, h.output, h.size, fun x hx hn => h.block x hx (fun e => hn (hxy x hx e))⟩
theorem Kp.drewN {X : Nat → Prop} {a b : World} (h : Kp X a b) (n : Nat) : Kp X a (b.drewN n) := ⟨h.os, h.tape, h.output, h.size, h.block⟩
theorem Kp.drew {X : Nat → Prop} {a b : World} (h : Kp X a b) : Kp X a b.drew := ⟨h.os, h.tape, h.output, h.size, h.block⟩
theorem Kp.alloc {X : Nat → Prop} {a b : World} (h : Kp X a b) (o : Obj) : Kp X a (b.alloc o) :=
  ⟨h.os, h.tape, h.output, by have := h.size; simp; omega, fun x hx hn => (Below.heap_alloc b o x (Nat.lt_of_lt_of_le hx h.size)).trans (h.block x hx hn)⟩
theorem Kp.setCell {X : Nat → Prop} {a b : World} (h : Kp X a b) {p : Addr} (hp : p.block < a.heap.size → X p.block) (u : Value) : Kp X a (b.setCell p u) :=
  ⟨h.os, h.tape, h.output, by have := h.size; simpa using this, fun x hx hn => by
    rw [Below.heap_setCell b p u x (fun e => hn (e ▸ hp (e ▸ hx)))]; exact h.block x hx hn⟩
theorem Kp.of {X : Nat → Prop} {a b : World} (h : Below a.heap.size a b) : Kp X a b := ⟨h.os, h.tape, h.output, h.size, fun x hx _ => h.block x hx⟩
theorem Kp.grown {X : Nat → Prop} {a b c : World} {row : Option Nat} (h : Kp X a b) (hg : b.grownBy c row) (hr : ∀ k, row = some k → X k) : Kp X a c :=
  h.trans ⟨hg.os, hg.tape, hg.output, hg.size, fun x hx hn => hg.block x hx (fun e => hn (hr x e.symm))⟩

/-- The holds of a world. -/
def HoldsAt (w : World) (hv : Value) (L : List Nat) : Prop :=
  ∃ (a : Option Addr) (cap : Nat), hv = .slice a L.length cap ∧ L.length ≤ 9223372036854775807 ∧ ∀ j, j < L.length → ∃ b off, a = some ⟨b, off, none⟩ ∧ w.cell? ⟨b, off + j, none⟩ = some (.pointer (some ⟨L.getD j 0, 0, none⟩))
def AllMk (w : World) (L : List Nat) : Prop := ∀ j, j < L.length → ∃ F m rv pv cv nv, HoldMk w F (L.getD j 0) m rv pv cv nv
theorem HoldMk.later {w w' : World} {F F' : Nat → Nat → Prop} {h : Nat} {m : Int} {rv pv cv nv : Value} (k : HoldMk w F h m rv pv cv nv) (e : ∀ b o u, F b o → w.cell? ⟨b, o, none⟩ = some u → w'.cell? ⟨b, o, none⟩ = some u ∧ F' b o) : HoldMk w' F' h m rv pv cv nv := by
  refine ⟨fun o ho => ?_, (e _ _ _ (k.own 0 (by decide)) k.c0).1, (e _ _ _ (k.own 1 (by decide)) k.c1).1, (e _ _ _ (k.own 2 (by decide)) k.c2).1, (e _ _ _ (k.own 3 (by decide)) k.c3).1, (e _ _ _ (k.own 4 (by decide)) k.c4).1, ?_, ?_, ?_, ?_⟩
  · match o, ho with
    | 0, _ => exact (e _ _ _ (k.own 0 (by decide)) k.c0).2
    | 1, _ => exact (e _ _ _ (k.own 1 (by decide)) k.c1).2
    | 2, _ => exact (e _ _ _ (k.own 2 (by decide)) k.c2).2
    | 3, _ => exact (e _ _ _ (k.own 3 (by decide)) k.c3).2
    | 4, _ => exact (e _ _ _ (k.own 4 (by decide)) k.c4).2
  · obtain ⟨a, n, cap, e1, e2, f⟩ := k.rings
    refine ⟨a, n, cap, e1, e2, fun j hj => ?_⟩
    obtain ⟨b, off, g, cc, e3, fb, ⟨g0, g1, g2⟩, h1, ⟨h2, h3, h4⟩⟩ := f j hj
    exact ⟨b, off, g, cc, e3, (e _ _ _ fb h1).2, ⟨(e _ _ _ g0 h2).2, (e _ _ _ g1 h3).2, (e _ _ _ g2 h4).2⟩, (e _ _ _ fb h1).1, ⟨(e _ _ _ g0 h2).1, (e _ _ _ g1 h3).1, (e _ _ _ g2 h4).1⟩⟩
  · obtain ⟨a, n, cap, e1, e2, f⟩ := k.points
    refine ⟨a, n, cap, e1, e2, fun j hj => ?_⟩
    obtain ⟨b, off, e3, ⟨g0, g1, g2⟩, ⟨h2, h3, h4⟩⟩ := f j hj
    exact ⟨b, off, e3, ⟨(e _ _ _ g0 h2).2, (e _ _ _ g1 h3).2, (e _ _ _ g2 h4).2⟩, ⟨(e _ _ _ g0 h2).1, (e _ _ _ g1 h3).1, (e _ _ _ g2 h4).1⟩⟩
  · obtain ⟨a, n, cap, e1, e2, f⟩ := k.pieces
    refine ⟨a, n, cap, e1, e2, fun j hj => ?_⟩
    obtain ⟨b, off, e3, g, ⟨q0, q1, q2, q3, q4, q5, q6, q7, q8, q9⟩⟩ := f j hj
    refine ⟨b, off, e3, fun t ht => ?_, ⟨(e _ _ _ (g 0 (by decide)) q0).1, (e _ _ _ (g 1 (by decide)) q1).1, (e _ _ _ (g 2 (by decide)) q2).1, (e _ _ _ (g 3 (by decide)) q3).1, (e _ _ _ (g 4 (by decide)) q4).1, (e _ _ _ (g 5 (by decide)) q5).1, (e _ _ _ (g 6 (by decide)) q6).1, (e _ _ _ (g 7 (by decide)) q7).1, (e _ _ _ (g 8 (by decide)) q8).1, (e _ _ _ (g 9 (by decide)) q9).1⟩⟩
    match t, ht with
    | 0, _ => exact (e _ _ _ (g 0 (by decide)) q0).2
    | 1, _ => exact (e _ _ _ (g 1 (by decide)) q1).2
    | 2, _ => exact (e _ _ _ (g 2 (by decide)) q2).2
    | 3, _ => exact (e _ _ _ (g 3 (by decide)) q3).2
    | 4, _ => exact (e _ _ _ (g 4 (by decide)) q4).2
    | 5, _ => exact (e _ _ _ (g 5 (by decide)) q5).2
    | 6, _ => exact (e _ _ _ (g 6 (by decide)) q6).2
    | 7, _ => exact (e _ _ _ (g 7 (by decide)) q7).2
    | 8, _ => exact (e _ _ _ (g 8 (by decide)) q8).2
    | 9, _ => exact (e _ _ _ (g 9 (by decide)) q9).2
  · obtain ⟨a, n, cap, e1, e2, f⟩ := k.nums
    refine ⟨a, n, cap, e1, e2, fun j hj => ?_⟩
    obtain ⟨b, off, e3, fb, h2⟩ := f j hj
    exact ⟨b, off, e3, (e _ _ _ fb h2).2, (e _ _ _ fb h2).1⟩
theorem HoldMk.drewN {w : World} {F : Nat → Nat → Prop} {h : Nat} {m : Int} {rv pv cv nv : Value} (k : HoldMk w F h m rv pv cv nv) (n : Nat) : HoldMk (w.drewN n) F h m rv pv cv nv :=
  k.later (fun b o u f c => ⟨c, f⟩)

set_option maxRecDepth 100000 in
set_option maxHeartbeats 1000000 in
theorem looks_yes (b : Nat) (hv : Value) (L : List Nat) (w : World) (hw : w.cell? ⟨b, 0, none⟩ = some hv) (hL : HoldsAt w hv L) (hA : AllMk w L) :
    Calls Tryz.prog 10 #[.pointer (some ⟨b, 0, none⟩)] w fun e w' => e = .returned (.bool true) ∧ ∃ n, w' = w.drewN n := by
  obtain ⟨a, cap, rfl, hl, h3⟩ := hL
  go_enter Tryz.func10, Tryz.ntmps10
  go_wp2_with fail
  go_loopw [3, 4] (fun i _ w' => ∃ (k n : Nat), i = .int .i64 k ∧ k ≤ L.length ∧ w' = w.drewN n) (fun i _ _ => L.length - (intOf i).toNat)
  case atStart => exact ⟨0, 0, rfl, Nat.zero_le _, rfl⟩
  case round =>
    obtain ⟨k, n, rfl, hk, rfl⟩ := hrel
    by_cases hlt : k < L.length
    · obtain ⟨b', off, rfl, c0⟩ := h3 k hlt
      obtain ⟨F, m, rv, pv, cv, nv, hm⟩ := hA k hlt
      generalize L.getD k 0 = h at *
      have HM := hide hm
      clear h3 hA hm
      go_wp2_with fail
      refine (marked_yes F h m rv pv cv nv _ (HM.out.drewN _)).mono ?_
      rintro e w1 ⟨rfl, n1, rfl⟩
      go_wp2
      go_roundw
      case rel => exact ⟨k + 1, _, by go_num, by omega, rfl⟩
      case measure => simp [intOf]; omega
    · clear h3 hA
      go_wp2
      go_ret
      exact ⟨rfl, n, rfl⟩

set_option maxRecDepth 100000 in
set_option maxHeartbeats 2000000 in
/-- The rings of a hold are marked: each place is a new list of one point. -/
theorem marks_rings (h rb n cap ty : Nat) (m : Int) (vs : Array Value) (w : World) (hne : rb ≠ h) (hn : n ≤ 9223372036854775807) (hsz : vs.size = n) (hh : Blk w h #[.slice (some ⟨rb, 0, none⟩) n cap, .slice none 0 0, .slice none 0 0, .slice none 0 0, .int .i64 m]) (hr : Blk w rb vs) (ht : TyAt w rb ty) :
    Calls Tryz.prog 54 #[.pointer (some ⟨h, 0, none⟩)] w fun e w' => e = .returned (.tuple #[]) ∧ ∃ (us : Array Value) (rg : Nat → Nat), us.size = n ∧ Blk w' rb us ∧ (∀ t, t < n → us[t]? = some (.slice (some ⟨rg t, 0, none⟩) 1 1) ∧ w.heap.size ≤ rg t ∧ Blk w' (rg t) #[.int .i64 m, .int .i64 0, .int .i64 0]) ∧ TyAt w' rb ty ∧ Kp (fun b => b = rb) w w' := by
  go_enter Tryz.func54, Tryz.ntmps54
  go_wp2_with fail
  go_loopw [2] (fun i w' => ∃ (k : Nat) (us : Array Value) (rg : Nat → Nat), i = .int .i64 k ∧ k ≤ n ∧ us.size = n ∧ Blk w' rb us ∧ (∀ t, t < k → us[t]? = some (.slice (some ⟨rg t, 0, none⟩) 1 1) ∧ w.heap.size ≤ rg t ∧ Blk w' (rg t) #[.int .i64 m, .int .i64 0, .int .i64 0]) ∧ TyAt w' rb ty ∧ Kp (fun b => b = rb) w w') (fun i _ => n - (intOf i).toNat)
  case atStart => exact ⟨0, vs, fun _ => 0, rfl, Nat.zero_le _, hsz, hr, fun t ht => absurd ht (Nat.not_lt_zero _), ht, Kp.refl _ _⟩
  case round =>
    obtain ⟨k, us, rg, rfl, hk, hus, hrk, hmk, hty, hkp⟩ := hrel
    have hcell : ∀ o, wr.cell? ⟨h, o, none⟩ = w.cell? ⟨h, o, none⟩ := fun o => World.cell?_of_block (w := w) (hkp.block h hh.lt (fun e => hne e.symm))
    have c0 := (hcell 0).trans (hh.cell 0)
    have c1 := (hcell 1).trans (hh.cell 1)
    have c2 := (hcell 2).trans (hh.cell 2)
    have c3 := (hcell 3).trans (hh.cell 3)
    have c4 := (hcell 4).trans (hh.cell 4)
    simp at c0 c1 c2 c3 c4
    clear hcell
    by_cases hlt : k < n
    · obtain ⟨u0, hu0⟩ : ∃ u, us[k]? = some u := ⟨_, Array.getElem?_eq_getElem (by omega)⟩
      have hu := (hrk.cell k).trans hu0
      have hf := hrk.free
      have hl := hrk.lt
      have hhl : h < wr.heap.size := Nat.lt_of_lt_of_le hh.lt hkp.size
      have hk0 : (0 : Int) ≤ (k : Int) := Int.natCast_nonneg _
      have hk1 : (k : Int) < (n : Int) := by omega
      have HM := hide hmk
      have HU := hide hu0
      clear hmk hu0
      go_wp2_with fail
      go_region
      go_wp2
      refine ⟨⟨k + 1, us.setIfInBounds k (.slice (some ⟨wr.heap.size, 0, none⟩) 1 1), fun t => if t = k then wr.heap.size else rg t, by go_num, by omega, by simpa using hus, ((hrk.set k (by omega) _).alloc _).drew, ?_, ((hty.setCell _ _ _).alloc _).drew, ((hkp.setCell (fun _ => rfl) _).alloc _).drew⟩, by simp [intOf]; omega⟩
      intro t ht
      dsimp only
      rw [Array.getElem?_setIfInBounds]
      by_cases e : k = t
      · subst e
        rw [if_pos rfl, if_pos (by omega), if_pos rfl]
        exact ⟨rfl, hkp.size, (Blk.at _ (by simp)).drew⟩
      · rw [if_neg e, if_neg (show ¬ t = k from fun x => e x.symm)]
        obtain ⟨m1, m2, m3⟩ := HM.out t (by omega)
        have := hr.lt
        exact ⟨m1, m2, ((m3.off (by omega) _ _).alloc _).drew⟩
    · have ek : k = n := by omega
      subst ek
      have HM := hide hmk
      clear hmk
      go_wp2_with fail
      refine wp_loop_rounds 1 ?_
      rw [rounds_succ]
      go_wp2_with fail
      refine wp_loop_rounds 1 ?_
      rw [rounds_succ]
      go_wp2_with fail
      refine wp_loop_rounds 1 ?_
      rw [rounds_succ]
      go_wp2
      go_end0
      exact ⟨rfl, us, rg, hus, hrk, HM.out, hty, hkp⟩

set_option maxRecDepth 100000 in
set_option maxHeartbeats 2000000 in
/-- The points of a hold are marked. -/
theorem marks_points (h rb n cap ty : Nat) (m : Int) (vs : Array Value) (w : World) (hne : rb ≠ h) (hn : n ≤ 9223372036854775807) (hsz : vs.size = n * 3) (hh : Blk w h #[.slice none 0 0, .slice (some ⟨rb, 0, none⟩) n cap, .slice none 0 0, .slice none 0 0, .int .i64 m]) (hr : Blk w rb vs) (ht : TyAt w rb ty) :
    Calls Tryz.prog 54 #[.pointer (some ⟨h, 0, none⟩)] w fun e w' => e = .returned (.tuple #[]) ∧ ∃ us : Array Value, us.size = n * 3 ∧ Blk w' rb us ∧ (∀ t, t < n → us[t * 3]? = some (.int .i64 0) ∧ us[t * 3 + 1]? = some (.int .i64 m) ∧ us[t * 3 + 2]? = some (.int .i64 0)) ∧ TyAt w' rb ty ∧ Kp (fun b => b = rb) w w' := by
  obtain ⟨d0, d1, d2, d3, d4⟩ := And.intro (hh.cell 0) (And.intro (hh.cell 1) (And.intro (hh.cell 2) (And.intro (hh.cell 3) (hh.cell 4))))
  simp at d0 d1 d2 d3 d4
  go_enter Tryz.func54, Tryz.ntmps54
  go_wp2_with fail
  refine wp_loop_rounds 1 ?_
  rw [rounds_succ]
  go_wp2_with fail
  go_loopw [3] (fun i w' => ∃ (k : Nat) (us : Array Value), i = .int .i64 k ∧ k ≤ n ∧ us.size = n * 3 ∧ Blk w' rb us ∧ (∀ t, t < k → us[t * 3]? = some (.int .i64 0) ∧ us[t * 3 + 1]? = some (.int .i64 m) ∧ us[t * 3 + 2]? = some (.int .i64 0)) ∧ TyAt w' rb ty ∧ Kp (fun b => b = rb) w w') (fun i _ => n - (intOf i).toNat)
  case atStart => exact ⟨0, vs, rfl, Nat.zero_le _, hsz, hr, fun t ht => absurd ht (Nat.not_lt_zero _), ht, Kp.refl _ _⟩
  case round =>
    obtain ⟨k, us, rfl, hk, hus, hrk, hmk, hty, hkp⟩ := hrel
    have hcell : ∀ o, wr.cell? ⟨h, o, none⟩ = w.cell? ⟨h, o, none⟩ := fun o => World.cell?_of_block (w := w) (hkp.block h hh.lt (fun e => hne e.symm))
    have c0 := (hcell 0).trans d0
    have c1 := (hcell 1).trans d1
    have c2 := (hcell 2).trans d2
    have c3 := (hcell 3).trans d3
    have c4 := (hcell 4).trans d4
    clear hcell d0 d1 d2 d3 d4
    by_cases hlt : k < n
    · obtain ⟨u0, hu0⟩ : ∃ u, us[k * 3]? = some u := ⟨_, Array.getElem?_eq_getElem (by omega)⟩
      obtain ⟨u1, hu1⟩ : ∃ u, us[k * 3 + 1]? = some u := ⟨_, Array.getElem?_eq_getElem (by omega)⟩
      obtain ⟨u2, hu2⟩ : ∃ u, us[k * 3 + 2]? = some u := ⟨_, Array.getElem?_eq_getElem (by omega)⟩
      have x0 := (hrk.cell (k * 3)).trans hu0
      have x1 := (hrk.cell (k * 3 + 1)).trans hu1
      have x2 := (hrk.cell (k * 3 + 2)).trans hu2
      have hf := hrk.free
      have hl := hrk.lt
      have hhl : h < wr.heap.size := Nat.lt_of_lt_of_le hh.lt hkp.size
      have hk0 : (0 : Int) ≤ (k : Int) := Int.natCast_nonneg _
      have hk1 : (k : Int) < (n : Int) := by omega
      have HM := hide hmk
      clear hmk hu0 hu1 hu2
      go_wp2_with fail
      go_region
      go_wp2
      refine ⟨⟨k + 1, ((us.setIfInBounds (k * 3) (.int .i64 0)).setIfInBounds (k * 3 + 1) (.int .i64 m)).setIfInBounds (k * 3 + 2) (.int .i64 0), by go_num, by omega, by simpa using hus, (((hrk.set (k * 3) (by omega) _).set (k * 3 + 1) (by simp; omega) _).set (k * 3 + 2) (by simp; omega) _).drew, ?_, (((hty.setCell _ _ _).setCell _ _ _).setCell _ _ _).drew, (((hkp.setCell (fun _ => rfl) _).setCell (fun _ => rfl) _).setCell (fun _ => rfl) _).drew⟩, by simp [intOf]; omega⟩
      intro t ht
      have g : ∀ o, (((us.setIfInBounds (k * 3) (.int .i64 0)).setIfInBounds (k * 3 + 1) (.int .i64 m)).setIfInBounds (k * 3 + 2) (.int .i64 0))[o]? = if k * 3 + 2 = o then some (.int .i64 0) else if k * 3 + 1 = o then some (.int .i64 m) else if k * 3 = o then some (.int .i64 0) else us[o]? := fun o => by
        simp only [Array.getElem?_setIfInBounds, Array.size_setIfInBounds]
        split
        · rw [if_pos (by omega)]
        · split
          · rw [if_pos (by omega)]
          · split
            · rw [if_pos (by omega)]
            · rfl
      rw [g, g, g]
      by_cases e : k = t
      · subst e
        refine ⟨?_, ?_, ?_⟩
        · rw [if_neg (by omega), if_neg (by omega), if_pos rfl]
        · rw [if_neg (by omega), if_pos rfl]
        · rw [if_pos rfl]
      · obtain ⟨m1, m2, m3⟩ := HM.out t (by omega)
        refine ⟨?_, ?_, ?_⟩
        · rw [if_neg (by omega), if_neg (by omega), if_neg (by omega)]; exact m1
        · rw [if_neg (by omega), if_neg (by omega), if_neg (by omega)]; exact m2
        · rw [if_neg (by omega), if_neg (by omega), if_neg (by omega)]; exact m3
    · have ek : k = n := by omega
      subst ek
      have HM := hide hmk
      clear hmk
      go_wp2_with fail
      refine wp_loop_rounds 1 ?_
      rw [rounds_succ]
      go_wp2_with fail
      refine wp_loop_rounds 1 ?_
      rw [rounds_succ]
      go_wp2
      go_end0
      exact ⟨rfl, us, hus, hrk, HM.out, hty, hkp⟩
end Go.Proofs.YtkmapffhfmgfeaaGreat
namespace Go.Proofs.YtkmapffhfmgfeaaGreat
open Go.RowKit
set_option linter.unusedSimpArgs false
set_option linter.unusedVariables false

section
variable {P : Program} (w : World)
/-- 'append' onto a row of one's own: what lay in the row stays, and a new row leaves the old one alone. -/
theorem run_append_stay (t ty : TypeId) (base : Nat) (e : TypeId) (i : TypeInfo) (z : Value) (size bytes : Nat) (ht : P.underlying t = some (.slice e)) (hi : P.info? e = some i) (hz : i.zero = some z)
    (hsize : i.size = size) (hby : i.bytes = bytes) (hzs : z.cells.size = size) (hsz : 0 < size)
    (v : Value) (n : Nat) (xs : List Value) (hown : w.ownsRow base e size v n xs)
    (ad : Addr) (m c : Nat) (news : List Value) (hl : news.length = m * size) (hnews : ∀ j u, news[j]? = some u → w.cell? (ad.add j) = some u) (h1 : ∀ u ∈ news, u.oneCell' = true)
    (hm : 0 < m) (h63 : n + m ≤ maxLen) (hbytes : (n + m) * bytes ≤ 140737488355328) (hbase : base ≤ w.heap.size) (H : Nat) (hH : w.heap.size = H) :
    ∃ g cap w', (Builtin.append_ #[t, t] ty #[v, .slice (some ad) m c]).run P w = .ok (.slice (some ⟨g, 0, none⟩) (n + m) cap) w' ∧
      w'.ownsRow base e size (.slice (some ⟨g, 0, none⟩) (n + m) cap) (n + m) (xs ++ news) ∧ w.grownBy w' v.ownBlock ∧ (v.ownBlock = some g ∨ (g = H ∧ w.grownBy w' none)) ∧ g < w'.heap.size := by
  obtain ⟨g, cap, w', hr, h2, h3, h4, h5⟩ := run_append_lies (P := P) w t ty base e i z size bytes ht hi hz hsize hby hzs hsz v n xs hown ad m c news hl hnews h1 hm h63 hbytes hbase H hH
  refine ⟨g, cap, w', hr, h2, h3, ?_, h5⟩
  subst hsize
  subst hby
  rcases hown.2 with ⟨rfl, rfl⟩ | ⟨k, cp, cur, rfl, hbg, hg, hnc, hcm, hcs, htake⟩
  · right
    rcases h4 with h4 | h4
    · simp [Value.ownBlock] at h4
    · exact ⟨h4, h3⟩
  · by_cases hroom : n + m ≤ cp
    · have hfit : n * i.size + news.length ≤ cur.size := by rw [hl, hcs, ← Nat.add_mul]; exact Nat.mul_le_mul_right _ hroom
      have hr2 := run_append_room (P := P) w t ty e i ht hi k n cp cur hg ad m c news hl hnews h1 hroom hfit
      rw [hr2] at hr
      simp only [Result.ok.injEq, Value.slice.injEq, Option.some.injEq, Addr.mk.injEq] at hr
      left
      simp only [Value.ownBlock]
      rw [hr.1.1.1]
    · have holds : ∀ j u, xs[j]? = some u → w.cell? ((⟨k, 0, none⟩ : Addr).add j) = some u := hown.cells (g := k) rfl
      have hr2 := run_append_grow (P := P) w t ty e i z ht hi hz ⟨k, 0, none⟩ n cp xs hown.1 holds ad m c news hl hnews (by omega) (by simp only [maxLen] at h63; omega) (growslice_fits (by omega) hbytes)
      rw [hr2] at hr
      simp only [Result.ok.injEq, Value.slice.injEq, Option.some.injEq, Addr.mk.injEq] at hr
      right
      refine ⟨?_, ?_⟩
      · rw [← hr.1.1.1]; exact hH
      · rw [← hr.2]
        exact ⟨rfl, rfl, rfl, by simp, fun q hq _ => Below.heap_alloc w.drew _ q hq⟩

theorem wp_append_stay {o : Oper} {a : Act} {K : Act → World → Prop} {Q : Exit → Act → World → Prop} (s x : Operand) (t : TypeId)
    (ho : o.op = .call { callee := .builtin .append, args := #[s, x], argTypes := #[t, t] })
    (base : Nat) (e : TypeId) (i : TypeInfo) (z : Value) (size bytes : Nat) (ht : P.underlying t = some (.slice e)) (hi : P.info? e = some i) (hz : i.zero = some z)
    (hsize : i.size = size) (hby : i.bytes = bytes) (hzs : z.cells.size = size) (hsz : 0 < size)
    (v : Value) (n : Nat) (xs : List Value) (hs : a.eval s = v) (hown : w.ownsRow base e size v n xs)
    (ad : Addr) (m c : Nat) (news : List Value) (hx : a.eval x = .slice (some ad) m c) (hl : news.length = m * size) (hnews : ∀ j u, news[j]? = some u → w.cell? (ad.add j) = some u) (h1 : ∀ u ∈ news, u.oneCell' = true)
    (hm : 0 < m) (h63 : n + m ≤ maxLen) (hbytes : (n + m) * bytes ≤ 140737488355328) (hbase : base ≤ w.heap.size) (H : Nat) (hH : w.heap.size = H)
    (h : ∀ g cap w', w'.ownsRow base e size (.slice (some ⟨g, 0, none⟩) (n + m) cap) (n + m) (xs ++ news) → w.grownBy w' v.ownBlock → (v.ownBlock = some g ∨ (g = H ∧ w.grownBy w' none)) → g < w'.heap.size → K (a.put o.dst (.slice (some ⟨g, 0, none⟩) (n + m) cap)) w') : o.wp P a w K Q := by
  obtain ⟨g, cap, w', hr, h2, h3, h4, h5⟩ := run_append_stay (P := P) w t o.type base e i z size bytes ht hi hz hsize hby hzs hsz v n xs hown ad m c news hl hnews h1 hm h63 hbytes hbase H hH
  unfold Oper.wp execOp
  simp only [ho, resolve, invoke, builtin, Sem.run_bind, Sem.run_pure, Result.andThen_ok, List.map_toArray, List.map_cons, List.map_nil, hs, hx, hr]
  exact h g cap w' h2 h3 h4 h5
theorem step_append_stay {ops : Array Oper} {o : Oper} {a : Act} {K : Act → World → Prop} {Q : Exit → Act → World → Prop} {E : Prop} (hgd : o.guard = none) (s x : Operand) (t : TypeId)
    (ho : o.op = .call { callee := .builtin .append, args := #[s, x], argTypes := #[t, t] })
    (base : Nat) (e : TypeId) (i : TypeInfo) (z : Value) (size bytes : Nat) (ht : P.underlying t = some (.slice e)) (hi : P.info? e = some i) (hz : i.zero = some z)
    (hsize : i.size = size) (hby : i.bytes = bytes) (hzs : z.cells.size = size) (hsz : 0 < size)
    (v : Value) (n : Nat) (xs : List Value) (hs : a.eval s = v) (hown : w.ownsRow base e size v n xs)
    (ad : Addr) (m c : Nat) (news : List Value) (hx : a.eval x = .slice (some ad) m c) (hl : news.length = m * size) (hnews : ∀ j u, news[j]? = some u → w.cell? (ad.add j) = some u) (h1 : ∀ u ∈ news, u.oneCell' = true)
    (hm : 0 < m) (h63 : n + m ≤ maxLen) (hbytes : (n + m) * bytes ≤ 140737488355328) (hbase : base ≤ w.heap.size) (H : Nat) (hH : w.heap.size = H)
    (h : ∀ g cap w', w'.ownsRow base e size (.slice (some ⟨g, 0, none⟩) (n + m) cap) (n + m) (xs ++ news) → w.grownBy w' v.ownBlock → (v.ownBlock = some g ∨ (g = H ∧ w.grownBy w' none)) → g < w'.heap.size → K (a.put o.dst (.slice (some ⟨g, 0, none⟩) (n + m) cap)) w') :
    if Region.wanted o (yielded ops a.tmps) = true then Oper.wp P o a w K Q else E := by
  have hw : Region.wanted o (yielded ops a.tmps) = true := by simp [Region.wanted, hgd]
  rw [if_pos hw]
  exact wp_append_stay w s x t ho base e i z size bytes ht hi hz hsize hby hzs hsz v n xs hs hown ad m c news hx hl hnews h1 hm h63 hbytes hbase H hH h
end

/-- n times the same cells. -/
def rep (n : Nat) (l : List Value) : List Value := (List.replicate n l).flatten
theorem rep_succ (n : Nat) (l : List Value) : rep (n + 1) l = rep n l ++ l := by
  unfold rep
  rw [List.replicate_succ']
  simp
theorem rep_len (n : Nat) (l : List Value) : (rep n l).length = n * l.length := by
  unfold rep
  simp
theorem rep_at (n j t : Nat) (l : List Value) (hj : j < n) (ht : t < l.length) : (rep n l)[j * l.length + t]? = l[t]? := by
  induction n with
  | zero => omega
  | succ n ih =>
    rw [rep_succ]
    by_cases h : j < n
    · rw [List.getElem?_append_left, ih h]
      rw [rep_len]
      have := Nat.mul_le_mul_right l.length (show j + 1 ≤ n by omega)
      rw [Nat.add_mul] at this
      omega
    · have e : j = n := by omega
      subst e
      rw [List.getElem?_append_right (by rw [rep_len]; omega), rep_len]
      congr 1
      omega
abbrev ptMk (m : Int) : List Value := [.int .i64 0, .int .i64 m, .int .i64 0]
abbrev pcMk (m : Int) : List Value := [.int .i64 0, .int .i64 0, .int .i64 m, .int .i64 0, .int .i64 0, .int .i64 0, .bool false, .bool false, .bool false, .bool false]

/-- The four rows of a hold: each is owned, each place is marked; rs: the blocks of the marks of the rings. -/
structure Fam (w : World) (base : Nat) (m : Int) (rv pv cv nv : Value) (nr np nc nn : Nat) (rs : List Nat) : Prop where
  rl : rs.length = nr
  ro : w.ownsRow base 57 1 rv nr (rs.map fun g => .slice (some ⟨g, 0, none⟩) 1 1)
  rp : ∀ g ∈ rs, PtAt w g 0 ⟨m, 0, 0⟩
  po : w.ownsRow base 31 3 pv np (rep np (ptMk m))
  co : w.ownsRow base 55 10 cv nc (rep nc (pcMk m))
  no : w.ownsRow base 3 1 nv nn (rep nn [.int .i64 m])
  rn : ∀ g ∈ rs, rv.ownBlock ≠ some g ∧ pv.ownBlock ≠ some g ∧ cv.ownBlock ≠ some g ∧ nv.ownBlock ≠ some g

/-- Rows of different types lie in different blocks. -/
theorem own_apart {w : World} {base base' : Nat} {e e' : TypeId} {s s' : Nat} {v v' : Value} {n n' : Nat} {xs xs' : List Value} (h : w.ownsRow base e s v n xs) (h' : w.ownsRow base' e' s' v' n' xs') (he : e ≠ e') (b : Nat) (hb : v.ownBlock = some b) : v'.ownBlock ≠ some b := by
  intro hb'
  rcases h.2 with ⟨rfl, _⟩ | ⟨g, cap, cur, rfl, _, hg, _⟩
  · simp [Value.ownBlock] at hb
  · rcases h'.2 with ⟨rfl, _⟩ | ⟨g', cap', cur', rfl, _, hg', _⟩
    · simp [Value.ownBlock] at hb'
    · simp [Value.ownBlock] at hb hb'
      subst hb hb'
      rw [hg] at hg'
      simp at hg'
      exact he hg'.2
theorem own_form {w : World} {base : Nat} {e : TypeId} {s : Nat} {v : Value} {n : Nat} {xs : List Value} (h : w.ownsRow base e s v n xs) : ∃ a cap, v = .slice a n cap ∧ (∀ b, v.ownBlock = some b → a = some ⟨b, 0, none⟩) ∧ (0 < n → ∃ b, v.ownBlock = some b) ∧ n ≤ maxLen := by
  rcases h.2 with ⟨rfl, rfl⟩ | ⟨g, cap, cur, rfl, _, hg, h1, h2, _⟩
  · exact ⟨none, 0, rfl, fun b hb => by simp [Value.ownBlock] at hb, fun h => absurd h (Nat.lt_irrefl _), Nat.zero_le _⟩
  · exact ⟨_, cap, rfl, fun b hb => by simp [Value.ownBlock] at hb; rw [hb], fun _ => ⟨g, rfl⟩, by omega⟩
theorem own_cell {w : World} {base : Nat} {e : TypeId} {s : Nat} {v : Value} {n : Nat} {xs : List Value} (h : w.ownsRow base e s v n xs) (b : Nat) (hb : v.ownBlock = some b) (o : Nat) (ho : o < n * s) : w.cell? ⟨b, o, none⟩ = xs[o]? := by
  rcases h.2 with ⟨rfl, _⟩ | ⟨g, cap, cur, rfl, _, hg, _⟩
  · simp [Value.ownBlock] at hb
  · simp [Value.ownBlock] at hb
    subst hb
    exact h.cellAt o ho

/-- What a hold of such rows reads as. -/
theorem Fam.mk' {w : World} {base : Nat} {m : Int} {rv pv cv nv : Value} {nr np nc nn : Nat} {rs : List Nat} (f : Fam w base m rv pv cv nv nr np nc nn rs) {F : Nat → Nat → Prop} {h : Nat}
    (c0 : w.cell? ⟨h, 0, none⟩ = some rv) (c1 : w.cell? ⟨h, 1, none⟩ = some pv) (c2 : w.cell? ⟨h, 2, none⟩ = some cv) (c3 : w.cell? ⟨h, 3, none⟩ = some nv) (c4 : w.cell? ⟨h, 4, none⟩ = some (.int .i64 m))
    (fh : ∀ o, o < 5 → F h o) (fr : ∀ b o, rv.ownBlock = some b → o < nr → F b o) (fg : ∀ g ∈ rs, ∀ o, F g o) (fp : ∀ b o, pv.ownBlock = some b → o < np * 3 → F b o) (fc : ∀ b o, cv.ownBlock = some b → o < nc * 10 → F b o) (fn : ∀ b o, nv.ownBlock = some b → o < nn → F b o) :
    HoldMk w F h m rv pv cv nv := by
  refine ⟨fh, c0, c1, c2, c3, c4, ?_, ?_, ?_, ?_⟩
  · obtain ⟨a, cap, e1, e2, e3, e4⟩ := own_form f.ro
    refine ⟨a, nr, cap, e1, by unfold maxLen at e4; omega, fun j hj => ?_⟩
    obtain ⟨b, hb⟩ := e3 (by omega)
    have hj' : j < rs.length := by rw [f.rl]; exact hj
    have hc := own_cell f.ro b hb j (by omega)
    rw [List.getElem?_map, List.getElem?_eq_getElem hj'] at hc
    have hm : rs[j] ∈ rs := List.getElem_mem hj'
    refine ⟨b, 0, rs[j], 1, e2 b hb, by rw [Nat.zero_add]; exact fr b j hb hj, ⟨fg _ hm 0, fg _ hm 1, fg _ hm 2⟩, by rw [Nat.zero_add]; exact hc, f.rp _ hm⟩
  · obtain ⟨a, cap, e1, e2, e3, e4⟩ := own_form f.po
    refine ⟨a, np, cap, e1, by unfold maxLen at e4; omega, fun j hj => ?_⟩
    obtain ⟨b, hb⟩ := e3 (by omega)
    have hc := fun t (ht : t < 3) => (own_cell f.po b hb (j * 3 + t) (by omega)).trans (rep_at np j t (ptMk m) hj ht)
    refine ⟨b, 0, e2 b hb, ?_, ?_⟩
    · rw [Nat.zero_add]
      exact ⟨fp b _ hb (by omega), fp b _ hb (by omega), fp b _ hb (by omega)⟩
    · rw [Nat.zero_add]
      exact ⟨hc 0 (by decide), hc 1 (by decide), hc 2 (by decide)⟩
  · obtain ⟨a, cap, e1, e2, e3, e4⟩ := own_form f.co
    refine ⟨a, nc, cap, e1, by unfold maxLen at e4; omega, fun j hj => ?_⟩
    obtain ⟨b, hb⟩ := e3 (by omega)
    have hc := fun t (ht : t < 10) => (own_cell f.co b hb (j * 10 + t) (by omega)).trans (rep_at nc j t (pcMk m) hj ht)
    refine ⟨b, 0, e2 b hb, ?_, ?_⟩
    · rw [Nat.zero_add]
      exact fun t ht => fc b _ hb (by omega)
    · rw [Nat.zero_add]
      exact ⟨hc 0 (by decide), hc 1 (by decide), hc 2 (by decide), hc 3 (by decide), hc 4 (by decide), hc 5 (by decide), hc 6 (by decide), hc 7 (by decide), hc 8 (by decide), hc 9 (by decide)⟩
  · obtain ⟨a, cap, e1, e2, e3, e4⟩ := own_form f.no
    refine ⟨a, nn, cap, e1, by unfold maxLen at e4; omega, fun j hj => ?_⟩
    obtain ⟨b, hb⟩ := e3 (by omega)
    have hc := (own_cell f.no b hb j (by omega)).trans (by simpa using rep_at nn j 0 [.int .i64 m] hj (by simp))
    refine ⟨b, 0, e2 b hb, ?_, ?_⟩
    · rw [Nat.zero_add]
      exact fn b _ hb hj
    · rw [Nat.zero_add]
      exact hc
end Go.Proofs.YtkmapffhfmgfeaaGreat
