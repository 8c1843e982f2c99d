import Derived.Test.YtnkcbephceollaaW8
import Derived.Test.YtnkcbephceollaaB1
import Derived.Test.YtnkcbephceollaaM4
import Derived.OpenShut
import Derived.Deep.Cut
import Derived.Deep.CutBlock
import Derived.Deep.DeepCutAuto
namespace Go.Proofs.Ytnkcbephceollaa
open Go.RowKit
set_option linter.unusedSimpArgs false
set_option linter.unusedVariables false

/-- A slice of integers that came in: nil, or a row of cells. -/
def IsRow (k : IntKind) (w : World) (a : Option Addr) (len cap : Nat) (zs : List Int) : Prop :=
  (a = none ∧ len = 0 ∧ cap = 0 ∧ zs = []) ∨
  ∃ x, a = some x ∧ len ≤ cap ∧ cap ≤ maxLen ∧ zs.length = cap ∧ (∀ i, i < zs.length → w.cell? (x.add i) = some (.int k (zs.getD i 0))) ∧ ∀ n ∈ zs, (Lit.int k n).wf = true

/-- An int's numbers. -/
structure I64 (n : Int) : Prop where
  lo : -9223372036854775808 ≤ n
  hi : n ≤ 9223372036854775807

theorem row_at {w : World} {a0 : Option Addr} {len0 cap0 : Nat} {z0 : List Int} (w0 : IsRow .i64 w a0 len0 cap0 z0) (k : Nat) (hk : k < len0) :
    ∃ b off n, a0 = some ⟨b, off, none⟩ ∧ b < w.heap.size ∧ w.cell? ⟨b, off + k, none⟩ = some (.int .i64 n) ∧ I64 n := by
  rcases w0 with ⟨_, rfl, _, _⟩ | ⟨x, rfl, hl, hm, hz, hcell, hwz⟩
  · omega
  · obtain ⟨b, off, rfl, hc⟩ := ints_at hcell (by omega)
    have hc0 := hc k (by omega)
    have hr := range_i64 hwz k
    refine ⟨b, off, z0.getD k 0, rfl, World.block_lt_of_cell? _ _ hc0, hc0, ?_⟩
    rw [List.getD_eq_getElem?_getD]
    exact ⟨hr.1, hr.2⟩
theorem row_len {w : World} {a0 : Option Addr} {len0 cap0 : Nat} {z0 : List Int} (w0 : IsRow .i64 w a0 len0 cap0 z0) : len0 ≤ 9223372036854775807 := by
  rcases w0 with ⟨_, rfl, _, _⟩ | ⟨x, _, h1, h2, _⟩
  · omega
  · unfold maxLen at h2; omega

def Ints (vs : Array Value) : Prop := ∀ (j : Nat) (v : Value), vs[j]? = some v → ∃ n, v = .int .i64 n ∧ I64 n
theorem ints_zero (k : Nat) : Ints (Array.replicate k (.int .i64 0)) := by
  intro j v h
  rw [Array.getElem?_replicate] at h
  split at h
  · cases h; exact ⟨0, rfl, by omega, by omega⟩
  · cases h
theorem ints_set {vs : Array Value} (h : Ints vs) (i : Nat) {n : Int} (hn : I64 n) : Ints (vs.setIfInBounds i (.int .i64 n)) := by
  intro j v g
  rw [Array.getElem?_setIfInBounds] at g
  split at g
  · split at g
    · cases g; exact ⟨n, rfl, hn⟩
    · cases g
  · exact h j v g
theorem ints_8 {vs : Array Value} (h : Ints vs) (hs : vs.size = 8) : ∃ n0 n1 n2 n3 n4 n5 n6 n7 : Int, vs = #[.int .i64 n0, .int .i64 n1, .int .i64 n2, .int .i64 n3, .int .i64 n4, .int .i64 n5, .int .i64 n6, .int .i64 n7] ∧ (I64 n0 ∧ I64 n1) ∧ (I64 n2 ∧ I64 n3) ∧ (I64 n4 ∧ I64 n5) ∧ I64 n6 ∧ I64 n7 := by
  obtain ⟨l⟩ := vs
  match l, hs with
  | [a, b, c, d, e, f, g, k], _ =>
    obtain ⟨n0, rfl, h0⟩ := h 0 a rfl
    obtain ⟨n1, rfl, h1⟩ := h 1 b rfl
    obtain ⟨n2, rfl, h2⟩ := h 2 c rfl
    obtain ⟨n3, rfl, h3⟩ := h 3 d rfl
    obtain ⟨n4, rfl, h4⟩ := h 4 e rfl
    obtain ⟨n5, rfl, h5⟩ := h 5 f rfl
    obtain ⟨n6, rfl, h6⟩ := h 6 g rfl
    obtain ⟨n7, rfl, h7⟩ := h 7 k rfl
    exact ⟨n0, n1, n2, n3, n4, n5, n6, n7, rfl, ⟨h0, h1⟩, ⟨h2, h3⟩, ⟨h4, h5⟩, h6, h7⟩

theorem meeting_as (a b c d : Pt) (M : Mt) (w : World) (ga : Gr a) (gb : Gr b) (gc : Gr c) (gd : Gr d) (h1 : eqP a b = false) (h2 : eqP c d = false) (hM : meetM a b c d = M) :
    Calls Try.prog 12 #[a.v, b.v, c.v, d.v] w fun e w' => e = .returned (.tuple #[M.v, .bool true]) ∧ Below w.heap.size w w' := by
  subst hM; exact meeting_ok a b c d w ga gb gc gd h1 h2
theorem Meet_as (a b c d : Pt) (M : Mt) (x : Int) (w : World) (hM : mtM a b c d = (M, x)) :
    Calls Try.prog 11 #[a.v, b.v, c.v, d.v] w fun e w' => e = .returned (.tuple #[M.v, .int .i64 x]) ∧ Below w.heap.size w w' := by
  have h := Meet_any a b c d w; rw [hM] at h; exact h
theorem self_as {a b : Pt} (ga : Gr a) (gb : Gr b) (hab : a ≠ b) : ∃ lo hi, meetM a b b a = ⟨2, lo, hi⟩ ∧ ((befB b a = true ∧ lo = b ∧ hi = a) ∨ (befB b a = false ∧ lo = a ∧ hi = b)) := by
  refine ⟨_, _, meet_self ga.d gb.d hab, ?_⟩
  by_cases h : befB b a = true
  · exact .inl ⟨h, first_of_bef ga.d gb.d h⟩
  · have h : befB b a = false := by simpa using h
    exact .inr ⟨h, first_of_nbef ga.d gb.d hab h⟩
theorem eqP_comm (a b : Pt) : eqP a b = eqP b a := by
  by_cases h : a = b
  · rw [h]
  · have h1 : eqP a b = false := by cases e : eqP a b; rfl; exact absurd (eqP_true e) h
    have h2 : eqP b a = false := by cases e : eqP b a; rfl; exact absurd (eqP_true e).symm h
    rw [h1, h2]
theorem mtM_edge {a b c d : Pt} (ga : Gr a) (gb : Gr b) (gc : Gr c) (gd : Gr d) (h : eqP a b = true ∨ eqP c d = true) : mtM a b c d = (⟨0, ⟨0, 0, 0⟩, ⟨0, 0, 0⟩⟩, 4) := by
  unfold mtM; rw [if_neg (by simp [grid_iff ga, grid_iff gb, grid_iff gc, grid_iff gd]), if_pos h]; rfl

set_option maxRecDepth 100000 in
set_option maxHeartbeats 4000000 in
theorem swung_walk (a0 : Option Addr) (len0 cap0 : Nat) (z0 : List Int) (w : World) (w0 : IsRow .i64 w a0 len0 cap0 z0) :
    Calls Try.prog 3 #[.slice a0 len0 cap0] w fun e w' => e = .returned (.bool true) ∧ Below w.heap.size w w' := by
  have hrow := fun k hk => row_at w0 k hk
  have hlen := row_len w0
  clear w0
  go_enter Try.func3, Try.ntmps3
  go_upto_block 0 with fail
  go_cut [4] (fun i w' => ∃ n0 n1 n2 n3 n4 n5 n6 n7 : Int, Blk w' w.heap.size #[.int .i64 n0, .int .i64 n1, .int .i64 n2, .int .i64 n3, .int .i64 n4, .int .i64 n5, .int .i64 n6, .int .i64 n7] ∧ Below w.heap.size w w' ∧ (I64 n0 ∧ I64 n1) ∧ (I64 n2 ∧ I64 n3) ∧ (I64 n4 ∧ I64 n5) ∧ I64 n6 ∧ I64 n7)
  case first =>
    go_wp2_with fail
    go_loopw [4] (fun i w' => ∃ (k : Nat) (vs : Array Value), i = .int .i64 k ∧ k ≤ 8 ∧ vs.size = 8 ∧ Ints vs ∧ Blk w' w.heap.size vs ∧ Below w.heap.size w w') (fun i _ => (8 - intOf i).toNat)
    case atStart => exact ⟨0, _, rfl, by decide, rfl, ints_zero 8, Blk.new w _ _, (Below.refl _ _).alloc (Nat.le_refl _) _⟩
    case round =>
      obtain ⟨k, vs, rfl, hk, hsz, hvs, hblk, hbel⟩ := hrel
      by_cases hlt : k < 8 ∧ k < len0
      · obtain ⟨h8, hl⟩ := hlt
        obtain ⟨b, off, n, rfl, hb, hc, hn⟩ := hrow k hl
        have hv0 : ∃ v, vs[k]? = some v := ⟨_, Array.getElem?_eq_getElem (by omega)⟩
        obtain ⟨v', hv'⟩ := hv0
        obtain ⟨n', rfl, _⟩ := hvs k v' hv'
        have hc' : wr.cell? ⟨b, off + k, none⟩ = some (.int .i64 n) := (hbel.cell (p := ⟨b, off + k, none⟩) hb).trans hc
        have hd' : wr.cell? ⟨w.heap.size, k, none⟩ = some (.int .i64 n') := (hblk.cell k).trans hv'
        have hf' := hblk.free k
        have e1 : decide ((k : Int) < 8) = true := by simp; omega
        have e2 : decide ((k : Int) < (len0 : Int)) = true := by simp; omega
        clear hv' hc hrow
        go_wp2
        exact ⟨⟨k + 1, vs.setIfInBounds k (.int .i64 n), by go_num, by omega, by simpa using hsz, ints_set hvs k hn, hblk.set k (by omega) _, hbel.setCell (Nat.le_refl _) _⟩, by simp [intOf]; omega⟩
      · obtain ⟨n0, n1, n2, n3, n4, n5, n6, n7, rfl, h01, h23, h45, h67⟩ := ints_8 hvs hsz
        clear hvs hrow
        by_cases h8 : k < 8
        · have e1 : decide ((k : Int) < 8) = true := by simp; omega
          have e2 : decide (k < len0) = false := by simp; omega
          have e3 : len0 ≤ k := by omega
          clear hlt
          go_wp2
          go_meet
          case rel => exact ⟨n0, n1, n2, n3, n4, n5, n6, n7, hblk, hbel, h01, h23, h45, h67⟩
        · have e1 : decide ((k : Int) < 8) = false := by simp; omega
          clear hlt
          go_wp2
          go_meet
          case rel => exact ⟨n0, n1, n2, n3, n4, n5, n6, n7, hblk, hbel, h01, h23, h45, h67⟩
  case rest =>
    clear hrow
    obtain ⟨n0, n1, n2, n3, n4, n5, n6, n7, ⟨cv, fv, zv⟩, B0, ⟨i0, i1⟩, ⟨i2, i3⟩, ⟨i4, i5⟩, i6, i7⟩ := hcut
    go_wp2_with fail
    refine (spot_any n0 n1 _ i0.lo i0.hi i1.lo i1.hi).mono ?_
    rintro e w1 ⟨rfl, k⟩
    have B1 := bvia B0 k
    obtain ⟨cv1, fv1, zv1⟩ := (Blk.mk cv fv zv).call k
    clear k cv fv B0
    go_wp2_with fail
    refine (spot_any n2 n3 _ i2.lo i2.hi i3.lo i3.hi).mono ?_
    rintro e w2 ⟨rfl, k⟩
    have B2 := bvia (B1.alloc B1.size _) k
    obtain ⟨cv2, fv2, zv2⟩ := ((Blk.mk cv1 fv1 zv1).alloc _).call k
    obtain ⟨ca2, fa2, za2⟩ := (Blk.new w1 _ _).call k
    clear k cv1 fv1 B1
    go_wp2_with fail
    refine (spot_any n4 n5 _ i4.lo i4.hi i5.lo i5.hi).mono ?_
    rintro e w3 ⟨rfl, k⟩
    have B3 := bvia (B2.alloc B2.size _) k
    obtain ⟨cv3, fv3, zv3⟩ := ((Blk.mk cv2 fv2 zv2).alloc _).call k
    obtain ⟨ca3, fa3, za3⟩ := ((Blk.mk ca2 fa2 za2).alloc _).call k
    obtain ⟨cb3, fb3, zb3⟩ := (Blk.new w2 _ _).call k
    clear k cv2 fv2 ca2 fa2 B2
    go_wp2_with fail
    refine (spot_any n6 n7 _ i6.lo i6.hi i7.lo i7.hi).mono ?_
    rintro e w4 ⟨rfl, k⟩
    have B4 := bvia (B3.alloc B3.size _) k
    obtain ⟨cv4, fv4, zv4⟩ := ((Blk.mk cv3 fv3 zv3).alloc _).call k
    obtain ⟨ca4, fa4, za4⟩ := ((Blk.mk ca3 fa3 za3).alloc _).call k
    obtain ⟨cb4, fb4, zb4⟩ := ((Blk.mk cb3 fb3 zb3).alloc _).call k
    obtain ⟨cc4, fc4, zc4⟩ := (Blk.new w3 _ _).call k
    clear k cv3 fv3 ca3 fa3 cb3 fb3 B3
    have ga := spotM_gr n0 n1
    have gb := spotM_gr n2 n3
    have gc := spotM_gr n4 n5
    have gd := spotM_gr n6 n7
    clear cv4 fv4 i0 i1 i2 i3 i4 i5 i6 i7
    generalize spotM n0 n1 = a at *
    generalize spotM n2 n3 = b at *
    generalize spotM n4 n5 = c at *
    generalize spotM n6 n7 = d at *
    have heq := eql_pt
    by_cases h1 : eqP a b = true
    · skip
      go_wp2_with fail
      refine (Meet_as a b c d _ 4 _ (mtM_edge ga gb gc gd (.inl h1))).mono ?_
      rintro e w5 ⟨rfl, k⟩
      have B5 := bvia (B4.alloc B4.size _) k
      obtain ⟨ca5, fa5, za5⟩ := ((Blk.mk ca4 fa4 za4).alloc _).call k
      obtain ⟨cb5, fb5, zb5⟩ := ((Blk.mk cb4 fb4 zb4).alloc _).call k
      obtain ⟨cc5, fc5, zc5⟩ := ((Blk.mk cc4 fc4 zc4).alloc _).call k
      obtain ⟨cd5, fd5, zd5⟩ := (Blk.new w4 _ _).call k
      clear k ca4 fa4 cb4 fb4 cc4 fc4 B4
      go_wp2
      all_goals (go_ret; exact ⟨rfl, B5.alloc B5.size _⟩)
    have h1' : eqP a b = false := by simpa using h1
    clear h1
    by_cases h2 : eqP c d = true
    · skip
      go_wp2_with fail
      refine (Meet_as a b c d _ 4 _ (mtM_edge ga gb gc gd (.inr h2))).mono ?_
      rintro e w5 ⟨rfl, k⟩
      have B5 := bvia (B4.alloc B4.size _) k
      obtain ⟨ca5, fa5, za5⟩ := ((Blk.mk ca4 fa4 za4).alloc _).call k
      obtain ⟨cb5, fb5, zb5⟩ := ((Blk.mk cb4 fb4 zb4).alloc _).call k
      obtain ⟨cc5, fc5, zc5⟩ := ((Blk.mk cc4 fc4 zc4).alloc _).call k
      obtain ⟨cd5, fd5, zd5⟩ := (Blk.new w4 _ _).call k
      clear k ca4 fa4 cb4 fb4 cc4 fc4 B4
      go_wp2
      all_goals (go_ret; exact ⟨rfl, B5.alloc B5.size _⟩)
    have h2' : eqP c d = false := by simpa using h2
    clear h2
    have hab := eqP_false h1'
    have hcd := eqP_false h2'
    have hba : eqP b a = false := by rw [eqP_comm]; exact h1'
    have hdc : eqP d c = false := by rw [eqP_comm]; exact h2'
    obtain ⟨M, hM⟩ : ∃ M, meetM a b c d = M := ⟨_, rfl⟩
    have mc := meet_cases ga gb gc gd hab hcd
    rw [hM] at mc
    have HM : Hid (meetM a b c d = M) := hM
    have H2 : Hid (meetM d c a b = M) := (meet_sym1 ga.d gb.d gc.d gd.d hab hcd).trans hM
    have H3 : Hid (meetM b a c d = M) := (meet_sym2 ga.d gb.d gc.d gd.d).trans hM
    obtain ⟨lo, hi, hS, hlo⟩ := self_as ga gb hab
    have H4 : Hid (meetM a b b a = ⟨2, lo, hi⟩) := hS
    have MC := hide mc
    have HLO := hide hlo
    clear hM hS mc hlo hab hcd
    go_wp2_with fail
    refine (meeting_as a b c d M _ ga gb gc gd h1' h2' HM.out).mono ?_
    rintro e w5 ⟨rfl, k⟩
    have B5 := bvia (B4.alloc B4.size _) k
    obtain ⟨ca5, fa5, za5⟩ := ((Blk.mk ca4 fa4 za4).alloc _).call k
    obtain ⟨cb5, fb5, zb5⟩ := ((Blk.mk cb4 fb4 zb4).alloc _).call k
    obtain ⟨cc5, fc5, zc5⟩ := ((Blk.mk cc4 fc4 zc4).alloc _).call k
    obtain ⟨cd5, fd5, zd5⟩ := (Blk.new w4 _ _).call k
    clear k ca4 fa4 cb4 fb4 cc4 fc4 B4
    go_wp2_with fail
    refine (meeting_as d c a b M _ gd gc ga gb hdc h1' H2.out).mono ?_
    rintro e w6 ⟨rfl, k⟩
    have B6 := bvia (B5.alloc B5.size _) k
    obtain ⟨ca6, fa6, za6⟩ := ((Blk.mk ca5 fa5 za5).alloc _).call k
    obtain ⟨cb6, fb6, zb6⟩ := ((Blk.mk cb5 fb5 zb5).alloc _).call k
    obtain ⟨cc6, fc6, zc6⟩ := ((Blk.mk cc5 fc5 zc5).alloc _).call k
    obtain ⟨cd6, fd6, zd6⟩ := ((Blk.mk cd5 fd5 zd5).alloc _).call k
    obtain ⟨cm6, fm6, zm6⟩ := (Blk.new w5 _ _).call k
    clear k ca5 fa5 cb5 fb5 cc5 fc5 cd5 fd5 B5
    go_wp2_with fail
    refine (meeting_as b a c d M _ gb ga gc gd hba h2' H3.out).mono ?_
    rintro e w7 ⟨rfl, k⟩
    have B7 := bvia (B6.alloc B6.size _) k
    obtain ⟨ca7, fa7, za7⟩ := ((Blk.mk ca6 fa6 za6).alloc _).call k
    obtain ⟨cb7, fb7, zb7⟩ := ((Blk.mk cb6 fb6 zb6).alloc _).call k
    obtain ⟨cc7, fc7, zc7⟩ := ((Blk.mk cc6 fc6 zc6).alloc _).call k
    obtain ⟨cd7, fd7, zd7⟩ := ((Blk.mk cd6 fd6 zd6).alloc _).call k
    obtain ⟨cm7, fm7, zm7⟩ := ((Blk.mk cm6 fm6 zm6).alloc _).call k
    obtain ⟨cn7, fn7, zn7⟩ := (Blk.new w6 _ _).call k
    clear k ca6 fa6 cb6 fb6 cc6 fc6 cd6 fd6 cm6 fm6 B6
    go_wp2_with fail
    refine (meeting_as a b b a ⟨2, lo, hi⟩ _ ga gb gb ga h1' hba H4.out).mono ?_
    rintro e w8 ⟨rfl, k⟩
    have B8 := bvia (B7.alloc B7.size _) k
    obtain ⟨ca8, fa8, za8⟩ := ((Blk.mk ca7 fa7 za7).alloc _).call k
    obtain ⟨cb8, fb8, zb8⟩ := ((Blk.mk cb7 fb7 zb7).alloc _).call k
    obtain ⟨cc8, fc8, zc8⟩ := ((Blk.mk cc7 fc7 zc7).alloc _).call k
    obtain ⟨cd8, fd8, zd8⟩ := ((Blk.mk cd7 fd7 zd7).alloc _).call k
    obtain ⟨cm8, fm8, zm8⟩ := ((Blk.mk cm7 fm7 zm7).alloc _).call k
    obtain ⟨cn8, fn8, zn8⟩ := ((Blk.mk cn7 fn7 zn7).alloc _).call k
    obtain ⟨ck8, fk8, zk8⟩ := (Blk.new w7 _ _).call k
    clear k ca7 fa7 cb7 fb7 cc7 fc7 cd7 fd7 cm7 fm7 cn7 fn7 B7
    have y1 : w1.heap.size < w8.heap.size + 1 := by omega
    have y2 : w1.heap.size < w8.heap.size + 1 + 1 := by omega
    have y3 : w2.heap.size < w8.heap.size + 1 := by omega
    have y4 : w2.heap.size < w8.heap.size + 1 + 1 := by omega
    go_upto_region 17 with fail
    go_cut [19, 20] (fun x y wx => ∃ p q : Nat, x = .pointer (some ⟨p, 0, none⟩) ∧ y = .pointer (some ⟨q, 0, none⟩) ∧ p ≠ q ∧ w8.heap.size < p ∧ w8.heap.size < q ∧ Blk wx p #[.int .i64 a.x, .int .i64 a.y, .int .i64 a.d] ∧ Blk wx q #[.int .i64 b.x, .int .i64 b.y, .int .i64 b.d] ∧ Below (w8.alloc (.cells #[.int .i64 2, .int .i64 lo.x, .int .i64 lo.y, .int .i64 lo.d, .int .i64 hi.x, .int .i64 hi.y, .int .i64 hi.d] 28)).heap.size (w8.alloc (.cells #[.int .i64 2, .int .i64 lo.x, .int .i64 lo.y, .int .i64 lo.d, .int .i64 hi.x, .int .i64 hi.y, .int .i64 hi.d] 28)) wx)
    case first =>
      go_region
      · go_wp2_with fail
        go_meet
        case rel => exact ⟨w8.heap.size + 1, w8.heap.size + 1 + 1, rfl, rfl, by omega, by omega, by omega, ((Blk.at _ (by simp)).alloc _).drew, (Blk.at _ (by simp)).drew, (((Below.refl _ _).alloc (Nat.le_refl _) _).alloc (by simp) _).drew⟩
      · go_wp2_with fail
        go_meet
        case rel => exact ⟨w8.heap.size + 1 + 1, w8.heap.size + 1, rfl, rfl, by omega, by omega, by omega, (Blk.at _ (by simp)).drew, ((Blk.at _ (by simp)).alloc _).drew, (((Below.refl _ _).alloc (Nat.le_refl _) _).alloc (by simp) _).drew⟩
    case rest =>
      obtain ⟨p, q, rfl, rfl, hpq, hp8, hq8, ⟨cp8, fp8, zp8⟩, ⟨cq8, fq8, zq8⟩, k⟩ := hcut
      clear y1 y2 y3 y4
      have B9 := bvia (B8.alloc B8.size _) k
      obtain ⟨ca9, fa9, za9⟩ := ((Blk.mk ca8 fa8 za8).alloc _).call k
      obtain ⟨cb9, fb9, zb9⟩ := ((Blk.mk cb8 fb8 zb8).alloc _).call k
      obtain ⟨cc9, fc9, zc9⟩ := ((Blk.mk cc8 fc8 zc8).alloc _).call k
      obtain ⟨cd9, fd9, zd9⟩ := ((Blk.mk cd8 fd8 zd8).alloc _).call k
      obtain ⟨cm9, fm9, zm9⟩ := ((Blk.mk cm8 fm8 zm8).alloc _).call k
      obtain ⟨cn9, fn9, zn9⟩ := ((Blk.mk cn8 fn8 zn8).alloc _).call k
      obtain ⟨ck9, fk9, zk9⟩ := ((Blk.mk ck8 fk8 zk8).alloc _).call k
      obtain ⟨cs9, fs9, zs9⟩ := (Blk.new w8 _ _).call k
      clear k ca8 fa8 cb8 fb8 cc8 fc8 cd8 fd8 cm8 fm8 cn8 fn8 ck8 fk8 B8
      obtain ⟨cp9, fp9, zp9⟩ := Blk.mk cp8 fp8 zp8
      obtain ⟨cq9, fq9, zq9⟩ := Blk.mk cq8 fq8 zq8
      clear cp8 fp8 cq8 fq8
      go_wp2_with fail
      refine (before_any b a _ gb.gd ga.gd).mono ?_
      rintro e w10 ⟨rfl, k⟩
      have B10 := bvia B9 k
      obtain ⟨ca10, fa10, za10⟩ := (Blk.mk ca9 fa9 za9).call k
      obtain ⟨cb10, fb10, zb10⟩ := (Blk.mk cb9 fb9 zb9).call k
      obtain ⟨cc10, fc10, zc10⟩ := (Blk.mk cc9 fc9 zc9).call k
      obtain ⟨cd10, fd10, zd10⟩ := (Blk.mk cd9 fd9 zd9).call k
      obtain ⟨cm10, fm10, zm10⟩ := (Blk.mk cm9 fm9 zm9).call k
      obtain ⟨cn10, fn10, zn10⟩ := (Blk.mk cn9 fn9 zn9).call k
      obtain ⟨ck10, fk10, zk10⟩ := (Blk.mk ck9 fk9 zk9).call k
      obtain ⟨cs10, fs10, zs10⟩ := (Blk.mk cs9 fs9 zs9).call k
      obtain ⟨cp10, fp10, zp10⟩ := (Blk.mk cp9 fp9 zp9).call k
      obtain ⟨cq10, fq10, zq10⟩ := (Blk.mk cq9 fq9 zq9).call k
      clear k ca9 fa9 cb9 fb9 cc9 fc9 cd9 fd9 cm9 fm9 cn9 fn9 ck9 fk9 cs9 fs9 cp9 fp9 cq9 fq9 B9
      go_upto_if 127 with fail
      have fx := hide (show Blk w10 w1.heap.size #[.int .i64 a.x, .int .i64 a.y, .int .i64 a.d] ∧ Blk w10 w2.heap.size #[.int .i64 b.x, .int .i64 b.y, .int .i64 b.d] ∧ Blk w10 w3.heap.size #[.int .i64 c.x, .int .i64 c.y, .int .i64 c.d] ∧ Blk w10 w4.heap.size #[.int .i64 d.x, .int .i64 d.y, .int .i64 d.d] ∧ Blk w10 w5.heap.size #[.int .i64 M.k, .int .i64 M.p.x, .int .i64 M.p.y, .int .i64 M.p.d, .int .i64 M.q.x, .int .i64 M.q.y, .int .i64 M.q.d] ∧ Blk w10 w6.heap.size #[.int .i64 M.k, .int .i64 M.p.x, .int .i64 M.p.y, .int .i64 M.p.d, .int .i64 M.q.x, .int .i64 M.q.y, .int .i64 M.q.d] ∧ Blk w10 w7.heap.size #[.int .i64 M.k, .int .i64 M.p.x, .int .i64 M.p.y, .int .i64 M.p.d, .int .i64 M.q.x, .int .i64 M.q.y, .int .i64 M.q.d] ∧ Blk w10 w8.heap.size #[.int .i64 2, .int .i64 lo.x, .int .i64 lo.y, .int .i64 lo.d, .int .i64 hi.x, .int .i64 hi.y, .int .i64 hi.d] from ⟨⟨ca10, fa10, za10⟩, ⟨cb10, fb10, zb10⟩, ⟨cc10, fc10, zc10⟩, ⟨cd10, fd10, zd10⟩, ⟨cm10, fm10, zm10⟩, ⟨cn10, fn10, zn10⟩, ⟨ck10, fk10, zk10⟩, ⟨cs10, fs10, zs10⟩⟩)
      go_cut [21] (fun sw wx => Blk wx p #[.int .i64 lo.x, .int .i64 lo.y, .int .i64 lo.d] ∧ Blk wx q #[.int .i64 hi.x, .int .i64 hi.y, .int .i64 hi.d] ∧ Blk wx w1.heap.size #[.int .i64 a.x, .int .i64 a.y, .int .i64 a.d] ∧ Blk wx w2.heap.size #[.int .i64 b.x, .int .i64 b.y, .int .i64 b.d] ∧ Blk wx w3.heap.size #[.int .i64 c.x, .int .i64 c.y, .int .i64 c.d] ∧ Blk wx w4.heap.size #[.int .i64 d.x, .int .i64 d.y, .int .i64 d.d] ∧ Blk wx w5.heap.size #[.int .i64 M.k, .int .i64 M.p.x, .int .i64 M.p.y, .int .i64 M.p.d, .int .i64 M.q.x, .int .i64 M.q.y, .int .i64 M.q.d] ∧ Blk wx w6.heap.size #[.int .i64 M.k, .int .i64 M.p.x, .int .i64 M.p.y, .int .i64 M.p.d, .int .i64 M.q.x, .int .i64 M.q.y, .int .i64 M.q.d] ∧ Blk wx w7.heap.size #[.int .i64 M.k, .int .i64 M.p.x, .int .i64 M.p.y, .int .i64 M.p.d, .int .i64 M.q.x, .int .i64 M.q.y, .int .i64 M.q.d] ∧ Blk wx w8.heap.size #[.int .i64 2, .int .i64 lo.x, .int .i64 lo.y, .int .i64 lo.d, .int .i64 hi.x, .int .i64 hi.y, .int .i64 hi.d] ∧ Below w.heap.size w wx)
      case first =>
        clear heq MC HM H2 H3 H4 cc10 fc10 cd10 fd10 cm10 fm10 cn10 fn10 ck10 fk10 cs10 fs10
        rcases HLO.out with ⟨hsw, rfl, rfl⟩ | ⟨hsw, rfl, rfl⟩
        · rw [hsw]
          go_wp2_with fail
          go_region
          all_goals
            go_wp2_with fail
            go_meet
            obtain ⟨xa, xb, xc, xd, xm, xn, xk, xs⟩ := fx.out
            exact ⟨((Blk.mk cp10 fp10 zp10).put3.off3 hpq _ _ _).drew, (((Blk.mk cq10 fq10 zq10).off3 (Ne.symm hpq) _ _ _).put3).drew, ((xa.off3 (by omega) _ _ _).off3 (by omega) _ _ _).drew, ((xb.off3 (by omega) _ _ _).off3 (by omega) _ _ _).drew, ((xc.off3 (by omega) _ _ _).off3 (by omega) _ _ _).drew, ((xd.off3 (by omega) _ _ _).off3 (by omega) _ _ _).drew, ((xm.off3 (by omega) _ _ _).off3 (by omega) _ _ _).drew, ((xn.off3 (by omega) _ _ _).off3 (by omega) _ _ _).drew, ((xk.off3 (by omega) _ _ _).off3 (by omega) _ _ _).drew, ((xs.off3 (by omega) _ _ _).off3 (by omega) _ _ _).drew, (below_set3 (o := 0) (below_set3 (o := 0) B10 (by omega)) (by omega)).drew⟩
        · rw [hsw]
          go_wp2_with fail
          go_meet
          obtain ⟨xa, xb, xc, xd, xm, xn, xk, xs⟩ := fx.out
          exact ⟨Blk.mk cp10 fp10 zp10, Blk.mk cq10 fq10 zq10, xa, xb, xc, xd, xm, xn, xk, xs, B10⟩
      case rest =>
        obtain ⟨⟨cp11, fp11, zp11⟩, ⟨cq11, fq11, zq11⟩, ⟨ca11, fa11, za11⟩, ⟨cb11, fb11, zb11⟩, ⟨cc11, fc11, zc11⟩, ⟨cd11, fd11, zd11⟩, ⟨cm11, fm11, zm11⟩, ⟨cn11, fn11, zn11⟩, ⟨ck11, fk11, zk11⟩, ⟨cs11, fs11, zs11⟩, B11⟩ := hcut
        clear fx B10 cp10 fp10 cq10 fq10 ca10 fa10 cb10 fb10 cc10 fc10 cd10 fd10 cm10 fm10 cn10 fn10 ck10 fk10 cs10 fs10
        go_wp2_with fail
        refine (sides_any a b c d _ ga.gd gb.gd gc.gd gd.gd).mono ?_
        rintro e w12 ⟨rfl, k⟩
        have B12 := bvia B11 k
        obtain ⟨ca12, fa12, za12⟩ := (Blk.mk ca11 fa11 za11).call k
        obtain ⟨cb12, fb12, zb12⟩ := (Blk.mk cb11 fb11 zb11).call k
        obtain ⟨cc12, fc12, zc12⟩ := (Blk.mk cc11 fc11 zc11).call k
        obtain ⟨cd12, fd12, zd12⟩ := (Blk.mk cd11 fd11 zd11).call k
        obtain ⟨cm12, fm12, zm12⟩ := (Blk.mk cm11 fm11 zm11).call k
        obtain ⟨cn12, fn12, zn12⟩ := (Blk.mk cn11 fn11 zn11).call k
        obtain ⟨ck12, fk12, zk12⟩ := (Blk.mk ck11 fk11 zk11).call k
        obtain ⟨cs12, fs12, zs12⟩ := (Blk.mk cs11 fs11 zs11).call k
        obtain ⟨cp12, fp12, zp12⟩ := (Blk.mk cp11 fp11 zp11).call k
        obtain ⟨cq12, fq12, zq12⟩ := (Blk.mk cq11 fq11 zq11).call k
        clear k ca11 fa11 cb11 fb11 cc11 fc11 cd11 fd11 cm11 fm11 cn11 fn11 ck11 fk11 cs11 fs11 cp11 fp11 cq11 fq11 B11
        clear cn12 fn12
        clear ck12 fk12
        clear cs12 fs12
        clear cp12 fp12
        clear cq12 fq12
        go_wp2_with fail
        refine (sides_any c d a b _ gc.gd gd.gd ga.gd gb.gd).mono ?_
        rintro e w13 ⟨rfl, k⟩
        have B13 := bvia B12 k
        obtain ⟨ca13, fa13, za13⟩ := (Blk.mk ca12 fa12 za12).call k
        obtain ⟨cb13, fb13, zb13⟩ := (Blk.mk cb12 fb12 zb12).call k
        obtain ⟨cc13, fc13, zc13⟩ := (Blk.mk cc12 fc12 zc12).call k
        obtain ⟨cd13, fd13, zd13⟩ := (Blk.mk cd12 fd12 zd12).call k
        obtain ⟨cm13, fm13, zm13⟩ := (Blk.mk cm12 fm12 zm12).call k
        clear k ca12 fa12 cb12 fb12 cc12 fc12 cd12 fd12 cm12 fm12 B12
        have eqz : eqP ⟨0, 0, 0⟩ ⟨0, 0, 0⟩ = true := rfl
        have MC' := MC.out
        clear MC HM H2 H3 H4 HLO
        generalize sidesM (detM a b c) (detM a b d) = S at *
        generalize sidesM (detM c d a) (detM c d b) = T at *
        rcases MC' with ⟨rfl, hs⟩ | ⟨P, rfl, gP, dP, hP1, hP2, s1, t1⟩ | ⟨P, Q, rfl, gP, gQ, hP1, hP2, hQ1, hQ2, hPQ, s1, t1⟩
        · dsimp only [zM, zP] at cm13
          clear ca13 fa13 cb13 fb13 cc13 fc13 cd13 fd13
          by_cases b1 : (S == 1) = true
          · clear hs
            go_wp2
            all_goals (go_ret; exact ⟨rfl, B13⟩)
          have b1' : (S == 1) = false := by simpa using b1
          clear b1
          by_cases b2 : (T == 1) = true
          · clear hs
            go_wp2
            all_goals (go_ret; exact ⟨rfl, B13⟩)
          have b2' : (T == 1) = false := by simpa using b2
          clear b2
          have b3 : S = 0 ∧ T = 0 := by simp at b1' b2'; omega
          obtain ⟨rfl, rfl⟩ := b3
          clear hs b1' b2'
          go_wp2
          all_goals (go_ret; exact ⟨rfl, B13⟩)
        · dsimp only [zM, zP] at cm13
          have b1' : (S == 1) = false := by simpa using s1
          have b2' : (T == 1) = false := by simpa using t1
          clear s1 t1
          go_wp2_with fail
          refine (holds_any a b P _ ga.gd gb.gd gP hP1).mono ?_
          rintro e w14 ⟨rfl, k⟩
          have B14 := bvia B13 k
          obtain ⟨ca14, fa14, za14⟩ := (Blk.mk ca13 fa13 za13).call k
          obtain ⟨cb14, fb14, zb14⟩ := (Blk.mk cb13 fb13 zb13).call k
          obtain ⟨cc14, fc14, zc14⟩ := (Blk.mk cc13 fc13 zc13).call k
          obtain ⟨cd14, fd14, zd14⟩ := (Blk.mk cd13 fd13 zd13).call k
          obtain ⟨cm14, fm14, zm14⟩ := (Blk.mk cm13 fm13 zm13).call k
          clear k ca13 fa13 cb13 fb13 cc13 fc13 cd13 fd13 cm13 fm13 B13
          go_wp2_with fail
          refine (holds_any c d P _ gc.gd gd.gd gP hP2).mono ?_
          rintro e w15 ⟨rfl, k⟩
          have B15 := bvia B14 k
          obtain ⟨ca15, fa15, za15⟩ := (Blk.mk ca14 fa14 za14).call k
          obtain ⟨cb15, fb15, zb15⟩ := (Blk.mk cb14 fb14 zb14).call k
          obtain ⟨cc15, fc15, zc15⟩ := (Blk.mk cc14 fc14 zc14).call k
          obtain ⟨cd15, fd15, zd15⟩ := (Blk.mk cd14 fd14 zd14).call k
          obtain ⟨cm15, fm15, zm15⟩ := (Blk.mk cm14 fm14 zm14).call k
          clear k ca14 fa14 cb14 fb14 cc14 fc14 cd14 fd14 cm14 fm14 B14
          go_wp2
          all_goals (go_ret; exact ⟨rfl, B15⟩)
        · dsimp only [zM, zP] at cm13
          have b1' : (S == 1) = false := by simpa using s1
          have b2' : (T == 1) = false := by simpa using t1
          clear s1 t1
          go_wp2_with fail
          refine (holds_any a b P _ ga.gd gb.gd gP hP1).mono ?_
          rintro e w14 ⟨rfl, k⟩
          have B14 := bvia B13 k
          obtain ⟨ca14, fa14, za14⟩ := (Blk.mk ca13 fa13 za13).call k
          obtain ⟨cb14, fb14, zb14⟩ := (Blk.mk cb13 fb13 zb13).call k
          obtain ⟨cc14, fc14, zc14⟩ := (Blk.mk cc13 fc13 zc13).call k
          obtain ⟨cd14, fd14, zd14⟩ := (Blk.mk cd13 fd13 zd13).call k
          obtain ⟨cm14, fm14, zm14⟩ := (Blk.mk cm13 fm13 zm13).call k
          clear k ca13 fa13 cb13 fb13 cc13 fc13 cd13 fd13 cm13 fm13 B13
          go_wp2_with fail
          refine (holds_any c d P _ gc.gd gd.gd gP hP2).mono ?_
          rintro e w15 ⟨rfl, k⟩
          have B15 := bvia B14 k
          obtain ⟨ca15, fa15, za15⟩ := (Blk.mk ca14 fa14 za14).call k
          obtain ⟨cb15, fb15, zb15⟩ := (Blk.mk cb14 fb14 zb14).call k
          obtain ⟨cc15, fc15, zc15⟩ := (Blk.mk cc14 fc14 zc14).call k
          obtain ⟨cd15, fd15, zd15⟩ := (Blk.mk cd14 fd14 zd14).call k
          obtain ⟨cm15, fm15, zm15⟩ := (Blk.mk cm14 fm14 zm14).call k
          clear k ca14 fa14 cb14 fb14 cc14 fc14 cd14 fd14 cm14 fm14 B14
          go_wp2_with fail
          refine (holds_any a b Q _ ga.gd gb.gd gQ hQ1).mono ?_
          rintro e w16 ⟨rfl, k⟩
          have B16 := bvia B15 k
          obtain ⟨ca16, fa16, za16⟩ := (Blk.mk ca15 fa15 za15).call k
          obtain ⟨cb16, fb16, zb16⟩ := (Blk.mk cb15 fb15 zb15).call k
          obtain ⟨cc16, fc16, zc16⟩ := (Blk.mk cc15 fc15 zc15).call k
          obtain ⟨cd16, fd16, zd16⟩ := (Blk.mk cd15 fd15 zd15).call k
          obtain ⟨cm16, fm16, zm16⟩ := (Blk.mk cm15 fm15 zm15).call k
          clear k ca15 fa15 cb15 fb15 cc15 fc15 cd15 fd15 cm15 fm15 B15
          go_wp2_with fail
          refine (holds_any c d Q _ gc.gd gd.gd gQ hQ2).mono ?_
          rintro e w17 ⟨rfl, k⟩
          have B17 := bvia B16 k
          obtain ⟨ca17, fa17, za17⟩ := (Blk.mk ca16 fa16 za16).call k
          obtain ⟨cb17, fb17, zb17⟩ := (Blk.mk cb16 fb16 zb16).call k
          obtain ⟨cc17, fc17, zc17⟩ := (Blk.mk cc16 fc16 zc16).call k
          obtain ⟨cd17, fd17, zd17⟩ := (Blk.mk cd16 fd16 zd16).call k
          obtain ⟨cm17, fm17, zm17⟩ := (Blk.mk cm16 fm16 zm16).call k
          clear k ca16 fa16 cb16 fb16 cc16 fc16 cd16 fd16 cm16 fm16 B16
          go_wp2_with fail
          refine (before_any P Q _ gP gQ).mono ?_
          rintro e w18 ⟨rfl, k⟩
          have B18 := bvia B17 k
          obtain ⟨ca18, fa18, za18⟩ := (Blk.mk ca17 fa17 za17).call k
          obtain ⟨cb18, fb18, zb18⟩ := (Blk.mk cb17 fb17 zb17).call k
          obtain ⟨cc18, fc18, zc18⟩ := (Blk.mk cc17 fc17 zc17).call k
          obtain ⟨cd18, fd18, zd18⟩ := (Blk.mk cd17 fd17 zd17).call k
          obtain ⟨cm18, fm18, zm18⟩ := (Blk.mk cm17 fm17 zm17).call k
          clear k ca17 fa17 cb17 fb17 cc17 fc17 cd17 fd17 cm17 fm17 B17
          go_wp2
          all_goals (go_ret; exact ⟨rfl, B18⟩)

end Go.Proofs.Ytnkcbephceollaa
