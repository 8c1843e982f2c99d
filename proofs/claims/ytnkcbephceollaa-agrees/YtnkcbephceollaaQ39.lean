import Derived.Test.YtnkcbephceollaaQ23
namespace Go.Proofs.Ytnkcbephceollaa
open Go.RowKit
set_option linter.unusedSimpArgs false
set_option linter.unusedVariables false

set_option maxHeartbeats 1000000 in
theorem isIn_any (op : Int) (a b : Bool) (w : World) :
    Calls Try.prog 81 #[.int .i64 op, .bool a, .bool b] w fun e w' => e = .returned (.bool (inM op a b)) ∧ w' = w := by
  by_cases h0 : op = 0
  · subst h0
    cases a <;> cases b <;>
      (go_enter Try.func81, Try.ntmps81
       go_wp2
       go_ret
       exact ⟨rfl, rfl⟩)
  by_cases h1 : op = 1
  · subst h1
    cases a <;> cases b <;>
      (go_enter Try.func81, Try.ntmps81
       go_wp2
       go_ret
       exact ⟨rfl, rfl⟩)
  by_cases h2 : op = 2
  · subst h2
    cases a <;> cases b <;>
      (go_enter Try.func81, Try.ntmps81
       go_wp2
       go_ret
       exact ⟨rfl, rfl⟩)
  by_cases h3 : op = 3
  · subst h3
    cases a <;> cases b <;>
      (go_enter Try.func81, Try.ntmps81
       go_wp2
       go_ret
       exact ⟨rfl, rfl⟩)
  · have H : Hid (inM op a b = (a != b)) := by unfold inM; rw [if_neg h0, if_neg h1, if_neg h2, if_neg h3]; exact hide rfl
    go_enter Try.func81, Try.ntmps81
    go_wp2
    go_ret
    exact ⟨ret_bool H.out.symm, rfl⟩

set_option maxHeartbeats 1000000 in
theorem isMetAhead_any (p q : Pt) (e : Pt × Pt) (w : World) (hp : Gd p) (hq : Gd q) (h1 : Gd e.1) (h2 : Gd e.2) :
    Calls Try.prog 83 #[p.v, q.v, sg e.1 e.2] w fun r w' => r = .returned (.bool (aheadM p q e)) ∧ Below w.heap.size w w' := by
  have HA := hide (show aheadM p q e = if decide (detM e.2 e.1 p < 0) != decide (detM e.2 e.1 q < 0) then decide (detM e.2 e.1 p < 0) else decide (detM e.2 p q < 0) from rfl)
  generalize aheadM p q e = res at *
  have C1 := fun wz => Side_any e.2 e.1 p wz h2 h1 hp
  have C2 := fun wz => Side_any e.2 e.1 q wz h2 h1 hq
  have C3 := fun wz => Side_any e.2 p q wz h2 hp hq
  generalize detM e.2 e.1 p = sp at *
  generalize detM e.2 e.1 q = sq at *
  generalize detM e.2 p q = s3 at *
  go_enter Try.func83, Try.ntmps83
  go_wp2_with fail
  refine (C1 _).mono ?_
  rintro e' w1 ⟨rfl, k⟩
  have B1 := bvia (below3 _ _ _ _) k
  have P1 := (((Blk.new w _ _).alloc _).alloc _).call k
  have Q1 := ((Blk.at (w.heap.size + 1) (by simp)).alloc _).call k
  have E1 := (Blk.at (w.heap.size + 1 + 1) (by simp)).call k
  obtain ⟨cp, fp, zp⟩ := id P1
  obtain ⟨cq, fq, zq⟩ := id Q1
  obtain ⟨ce, fe, ze⟩ := id E1
  clear k
  go_wp2_with fail
  refine (C2 _).mono ?_
  rintro e' w2 ⟨rfl, k⟩
  have B2 := bvia B1 k
  have P2 := P1.call k
  have Q2 := Q1.call k
  have E2 := E1.call k
  clear k cp fp zp cq fq zq ce fe ze P1 Q1 E1 B1
  obtain ⟨cp, fp, zp⟩ := id P2
  obtain ⟨cq, fq, zq⟩ := id Q2
  obtain ⟨ce, fe, ze⟩ := id E2
  obtain ⟨bp, hbp⟩ : ∃ x, x = decide (sp < 0) := ⟨_, rfl⟩
  obtain ⟨bq, hbq⟩ : ∃ x, x = decide (sq < 0) := ⟨_, rfl⟩
  rw [← hbp, ← hbq] at HA
  cases bp <;> cases bq
  case' false.false => have hs : ¬ sp < 0 := by simpa using hbp.symm
  case' true.true => have hs : sp < 0 := by simpa using hbp.symm
  case' false.true => have hs : ¬ sp < 0 := by simpa using hbp.symm
  case' true.false => have hs : sp < 0 := by simpa using hbp.symm
  case' false.false => have hq' : ¬ sq < 0 := by simpa using hbq.symm
  case' true.true => have hq' : sq < 0 := by simpa using hbq.symm
  case' false.true => have hq' : sq < 0 := by simpa using hbq.symm
  case' true.false => have hq' : ¬ sq < 0 := by simpa using hbq.symm
  all_goals
    have d1 := hbp.symm
    have d2 := hbq.symm
    clear hbp hbq
  case false.false =>
    have HR : Hid (res = decide (s3 < 0)) := by rw [HA.out]; simp [hide]
    go_wp2_with fail
    refine (C3 _).mono ?_
    rintro e' w3 ⟨rfl, k⟩
    have B3 := bvia B2 k
    clear k cp fp zp cq fq zq ce fe ze P2 Q2 E2 B2
    go_wp2
    go_ret
    exact ⟨ret_bool HR.out.symm, B3⟩
  case true.true =>
    have HR : Hid (res = decide (s3 < 0)) := by rw [HA.out]; simp [hide]
    go_wp2_with fail
    refine (C3 _).mono ?_
    rintro e' w3 ⟨rfl, k⟩
    have B3 := bvia B2 k
    clear k cp fp zp cq fq zq ce fe ze P2 Q2 E2 B2
    go_wp2
    go_ret
    exact ⟨ret_bool HR.out.symm, B3⟩
  case false.true =>
    have HR : Hid (res = false) := by rw [HA.out]; simp [hide]
    go_wp2
    go_ret
    exact ⟨ret_bool (by rw [HR.out]), B2⟩
  case true.false =>
    have HR : Hid (res = true) := by rw [HA.out]; simp [hide]
    go_wp2
    go_ret
    exact ⟨ret_bool (by rw [HR.out]), B2⟩

set_option maxHeartbeats 1000000 in
theorem isTurn_any (e f : Pt × Pt) (w : World) (h1 : Gd e.1) (h2 : Gd e.2) (h3 : Gd f.2) :
    Calls Try.prog 66 #[sg e.1 e.2, sg f.1 f.2] w fun r w' => r = .returned (.bool (turnB e f)) ∧ Below w.heap.size w w' := by
  have H := hide (show turnB e f = (detM e.1 e.2 f.2 != 0) by unfold turnB; cases h : detM e.1 e.2 f.2 != 0 <;> simp_all)
  generalize turnB e f = res at *
  go_enter Try.func66, Try.ntmps66
  go_wp2_with fail
  refine (Side_any e.1 e.2 f.2 _ h1 h2 h3).mono ?_
  rintro e' w1 ⟨rfl, k⟩
  have B1 := bvia (below2 _ _ _) k
  clear k
  go_wp2
  go_ret
  exact ⟨ret_bool H.out.symm, B1⟩

theorem cl_drop (l m : List Pt) (k : Nat) (hl : k < l.length) (hm : k < m.length) : clM (l.drop k) (m.drop k) = if cmpM (l.getD k zP) (m.getD k zP) ≠ 0 then cmpM (l.getD k zP) (m.getD k zP) else clM (l.drop (k + 1)) (m.drop (k + 1)) := by
  rw [List.drop_eq_getElem_cons hl, List.drop_eq_getElem_cons hm, List.getD_eq_getElem?_getD, List.getElem?_eq_getElem hl, List.getD_eq_getElem?_getD, List.getElem?_eq_getElem hm]; rfl
theorem cl_end (l m : List Pt) (k : Nat) (hl : k ≤ l.length) (hm : k ≤ m.length) (h : k = l.length ∨ k = m.length) : clM (l.drop k) (m.drop k) = (l.length : Int) - m.length := by
  rcases h with h | h
  · have e : l.drop k = [] := List.drop_of_length_le (by omega)
    rw [e]; unfold clM
    rw [List.length_drop]; omega
  · have e : m.drop k = [] := List.drop_of_length_le (by omega)
    rw [e]
    have hd := List.length_drop (i := k) (l := l)
    cases c : l.drop k with
    | nil => rw [c] at hd; simp at hd; unfold clM; simp; omega
    | cons p t => rw [c] at hd; simp at hd; unfold clM; omega

set_option maxRecDepth 100000 in
set_option maxHeartbeats 2000000 in
theorem CompareLists_any (v v' : Value) (l m : List Pt) (w : World) (hl : RingAt w v l) (hm : RingAt w v' m) (gl : ∀ p ∈ l, Gd p) (gm : ∀ p ∈ m, Gd p) :
    Calls Try.prog 85 #[v, v'] w fun e w' => e = .returned (.int .i64 (clM l m)) ∧ Below w.heap.size w w' := by
  obtain ⟨a, cap, rfl, a1, a2, a3⟩ := hl
  obtain ⟨b, bcap, rfl, b1, b2, b3⟩ := hm
  unfold maxLen at a2 b2
  have HA := hide a3
  have HB := hide b3
  have GL := hide gl
  have GM := hide gm
  clear a3 b3 gl gm
  have hl0 : (l.length : Int) ≤ 9223372036854775807 := by omega
  have hm0 : (m.length : Int) ≤ 9223372036854775807 := by omega
  have HI : Hid (clM l m = clM (l.drop 0) (m.drop 0)) := rfl
  generalize clM l m = res at *
  go_enter Try.func85, Try.ntmps85
  go_wp2_with fail
  go_loopw [5, 6, 7, 10] (fun _ _ _ iv w' => ∃ k : Nat, iv = .int .i64 k ∧ k ≤ l.length ∧ k ≤ m.length ∧ Below w.heap.size w w' ∧ Hid (res = clM (l.drop k) (m.drop k))) (fun _ _ _ iv _ => l.length - (intOf iv).toNat)
  case atStart => exact ⟨0, rfl, Nat.zero_le _, Nat.zero_le _, Below.refl _ _, HI⟩
  case round =>
    clear HI
    obtain ⟨k, rfl, hk, hk2, hbel, HR⟩ := hrel
    by_cases hlt : k < l.length
    · obtain ⟨b1', off1, rfl, hb1, hs1⟩ := HA.out k hlt
      obtain ⟨px, py, pd⟩ := hs1.later hbel hb1
      by_cases hlt2 : k < m.length
      · obtain ⟨b2', off2, rfl, hb2, hs2⟩ := HB.out k hlt2
        obtain ⟨qx, qy, qd⟩ := hs2.later (hbel.alloc hbel.size (.cells #[.int .i64 (l.getD k zP).x, .int .i64 (l.getD k zP).y, .int .i64 (l.getD k zP).d] 25)) hb2
        have C := fun wz => Compare_any (l.getD k zP) (m.getD k zP) wz (GL.out _ (getD_mem hlt zP)) (GM.out _ (getD_mem hlt2 zP))
        have HC := hide (cl_drop l m k hlt hlt2)
        generalize l.getD k zP = p at *
        generalize m.getD k zP = q at *
        have hk0 : (0 : Int) ≤ (k : Int) := Int.natCast_nonneg _
        have hk1 : (k : Int) < (m.length : Int) := by omega
        have hsz := hbel.size
        obtain ⟨W1, hW1⟩ : ∃ W, W = wr.alloc (.cells #[.int .i64 p.x, .int .i64 p.y, .int .i64 p.d] 25) := ⟨_, rfl⟩
        obtain ⟨pb, hpb⟩ : ∃ b, b = wr.heap.size := ⟨_, rfl⟩
        have B1 : Below w.heap.size w W1 := by rw [hW1]; exact hbel.alloc hbel.size _
        obtain ⟨cp, fp, zp⟩ : Blk W1 pb #[.int .i64 p.x, .int .i64 p.y, .int .i64 p.d] := by rw [hW1, hpb]; exact Blk.new wr _ _
        rw [← hW1] at qx qy qd
        clear hs1 hs2 HA HB GL GM
        go_upto_region 5 with fail
        rw [← hW1, ← hpb]
        clear hW1 hpb px py pd
        go_cut [7] (fun ov w' => ov = .int .i64 (cmpM p q) ∧ Below W1.heap.size W1 w')
        case first =>
          clear HR HC
          go_region_with (go_at_call 82; refine (C _).mono ?_; rintro e' w2 ⟨rfl, k2⟩)
          all_goals
            go_wp2_with fail
            go_meet
            case rel => exact ⟨rfl, bvia (Below.refl _ _).drew k2⟩
        case rest =>
          obtain ⟨rfl, k2⟩ := hcut
          have B2 := bvia B1 k2
          clear cp fp zp qx qy qd B1 k2 C
          generalize cmpM p q = o at *
          by_cases ho : o = 0
          · have HE : Hid (res = clM (l.drop (k + 1)) (m.drop (k + 1))) := by rw [HR.out, HC.out, if_neg (by simpa using ho)]; exact hide rfl
            clear HR HC
            go_wp2
            go_roundw
            case rel => exact ⟨k + 1, by go_num, by omega, by omega, B2, HE⟩
            case measure => simp [intOf]; omega
          · have HE : Hid (res = o) := by rw [HR.out, HC.out, if_pos ho]; exact hide rfl
            have ho' : (o != 0) = true := by simpa using ho
            clear HR HC
            go_wp2
            go_ret
            exact ⟨ret_int HE.out.symm, B2⟩
      · have ek : k = m.length := by omega
        have HE : Hid (res = (l.length : Int) - m.length) := by rw [HR.out]; exact hide (cl_end l m k hk hk2 (.inr ek))
        clear hs1 HA HB GL GM HR
        have hge : (m.length : Int) ≤ (k : Int) := by omega
        clear ek
        go_wp2
        go_ret
        exact ⟨ret_int HE.out.symm, by first | exact hbel | exact hbel.alloc hbel.size _⟩
    · have HE : Hid (res = (l.length : Int) - m.length) := by rw [HR.out]; exact hide (cl_end l m k hk hk2 (.inl (by omega)))
      clear HA HB GL GM HR
      go_wp2
      go_ret
      exact ⟨ret_int HE.out.symm, hbel⟩
end Go.Proofs.Ytnkcbephceollaa
namespace Go.Proofs.Ytnkcbephceollaa
open Go.RowKit
set_option linter.unusedSimpArgs false
set_option linter.unusedVariables false

abbrev pcV (p q : Pt) (a b c d : Bool) : Value := .agg #[.int .i64 p.x, .int .i64 p.y, .int .i64 p.d, .int .i64 q.x, .int .i64 q.y, .int .i64 q.d, .bool a, .bool b, .bool c, .bool d]
/-- A piece's ten cells. -/
def PceAt (w : World) (b o : Nat) (x : Pc) : Prop := ∀ t, t < 10 → w.cell? ⟨b, o + t, none⟩ = (pcCell x)[t]?
theorem PceAt.later {w w' : World} {b o : Nat} {x : Pc} {m : Nat} (h : PceAt w b o x) (hb : Below m w w') (hl : b < m) : PceAt w' b o x :=
  fun t ht => (hb.cell (p := ⟨b, o + t, none⟩) hl).trans (h t ht)
def zPc : Pc := ⟨zP, zP, false, false, false, false⟩
def PcsAt (w : World) (v : Value) (l : List Pc) : Prop :=
  ∃ (a : Option Addr) (cap : Nat), v = .slice a l.length cap ∧ l.length ≤ cap ∧ cap ≤ maxLen ∧ ∀ j, j < l.length → ∃ b off, a = some ⟨b, off, none⟩ ∧ b < w.heap.size ∧ PceAt w b (off + j * 10) (l.getD j zPc)
theorem PcsAt.later {w w' : World} {v : Value} {l : List Pc} (h : PcsAt w v l) (hb : Below w.heap.size w w') : PcsAt w' v l := by
  obtain ⟨a, cap, rfl, h1, h2, h3⟩ := h
  refine ⟨a, cap, rfl, h1, h2, fun j hj => ?_⟩
  obtain ⟨b, off, rfl, hl, hp⟩ := h3 j hj
  exact ⟨b, off, rfl, Nat.lt_of_lt_of_le hl hb.size, hp.later hb hl⟩
theorem pcCells_at (l : List Pc) (j t : Nat) (hj : j < l.length) (ht : t < 10) : (pcCells l)[j * 10 + t]? = (pcCell (l.getD j zPc))[t]? := by
  induction l generalizing j with
  | nil => simp at hj
  | cons e l ih =>
    have hc : pcCells (e :: l) = pcCell e ++ pcCells l := by simp [pcCells]
    rw [hc]
    cases j with
    | zero => rw [List.getElem?_append_left (by simp [pcCell]; omega)]; simp
    | succ j =>
      rw [List.getElem?_append_right (by simp [pcCell]; omega)]
      have : (j + 1) * 10 + t - (pcCell e).length = j * 10 + t := by simp [pcCell]; omega
      rw [this, ih j (by simpa using hj)]
      simp
theorem pcs_of_own {w : World} {base : Nat} {v : Value} {l : List Pc} (h : w.ownsRow base 62 10 v l.length (pcCells l)) (hl : l.length ≤ maxLen) : PcsAt w v l := by
  have h0 := h
  obtain ⟨_, h1⟩ := h
  rcases h1 with ⟨rfl, hn⟩ | ⟨g, cap, cur, rfl, hb, hh, hnc, hcap, _, _⟩
  · exact ⟨none, 0, by rw [hn], by omega, by unfold maxLen; omega, fun j hj => by omega⟩
  · refine ⟨some ⟨g, 0, none⟩, cap, rfl, hnc, hcap, fun j hj => ⟨g, 0, rfl, (h0.lt g rfl).2, fun t ht => ?_⟩⟩
    rw [Nat.zero_add]
    exact (h0.cellAt (j * 10 + t) (by omega)).trans (pcCells_at l j t hj ht)
abbrev Pc.v (x : Pc) : Value := pcV x.p x.q x.la x.ra x.lb x.rb
abbrev Pc.cs (x : Pc) : Array Value := #[.int .i64 x.p.x, .int .i64 x.p.y, .int .i64 x.p.d, .int .i64 x.q.x, .int .i64 x.q.y, .int .i64 x.q.d, .bool x.la, .bool x.ra, .bool x.lb, .bool x.rb]
end Go.Proofs.Ytnkcbephceollaa
namespace Go.Proofs.Ytnkcbephceollaa
open Go.RowKit
set_option linter.unusedSimpArgs false
set_option linter.unusedVariables false

set_option maxRecDepth 100000 in
set_option maxHeartbeats 2000000 in
theorem bordersOf_any (op : Int) (v : Value) (l : List Pc) (w : World) (hl : PcsAt w v l) (hn : l.length ≤ 1000000) :
    Calls Try.prog 64 #[.int .i64 op, v] w fun e w' => ∃ v', e = .returned v' ∧ w'.ownsRow w.heap.size 75 6 v' (bordM op l).length (segCells (bordM op l)) ∧ Below w.heap.size w w' := by
  obtain ⟨i0, hi0, hz0, hz1, hz2⟩ := info_parts infoSeg
  obtain ⟨a, cap, rfl, a1, a2, a3⟩ := hl
  unfold maxLen at a2
  have HA := hide a3
  clear a3
  go_enter Try.func64, Try.ntmps64
  go_wp2_with fail
  go_loopw [5, 7, 8, 9, 12] (fun bv _ _ _ iv w' => ∃ k : Nat, iv = .int .i64 k ∧ k ≤ l.length ∧ w'.ownsRow w.heap.size 75 6 bv (bordM op (l.take k)).length (segCells (bordM op (l.take k))) ∧ Below w.heap.size w w') (fun _ _ _ _ iv _ => l.length - (intOf iv).toNat)
  case atStart => exact ⟨0, rfl, Nat.zero_le _, World.ownsRow_nil _ _ _ _, Below.refl _ _⟩
  case round =>
    obtain ⟨k, rfl, hk, hO, hbel⟩ := hrel
    by_cases hlt : k < l.length
    · obtain ⟨b, off, rfl, hb, hs⟩ := HA.out k hlt
      have hs' := hs.later hbel hb
      have HB := hide (bord_take op l k hlt zPc)
      have hDl : (bordM op (l.take k)).length ≤ k := Nat.le_trans (bord_len op _) (by simp; omega)
      generalize l.getD k zPc = x at *
      have c0 := hs' 0 (by decide)
      have c1 := hs' 1 (by decide)
      have c2 := hs' 2 (by decide)
      have c3 := hs' 3 (by decide)
      have c4 := hs' 4 (by decide)
      have c5 := hs' 5 (by decide)
      have c6 := hs' 6 (by decide)
      have c7 := hs' 7 (by decide)
      have c8 := hs' 8 (by decide)
      have c9 := hs' 9 (by decide)
      simp only [pcCell, Nat.add_zero, List.getElem?_cons_zero, List.getElem?_cons_succ] at c0 c1 c2 c3 c4 c5 c6 c7 c8 c9
      obtain ⟨W1, hW1⟩ : ∃ W, W = wr.alloc (.cells #[.int .i64 x.p.x, .int .i64 x.p.y, .int .i64 x.p.d, .int .i64 x.q.x, .int .i64 x.q.y, .int .i64 x.q.d, .bool x.la, .bool x.ra, .bool x.lb, .bool x.rb] 62) := ⟨_, rfl⟩
      obtain ⟨pb, hpb⟩ : ∃ b, b = wr.heap.size := ⟨_, rfl⟩
      have B1 : Below w.heap.size w W1 := by rw [hW1]; exact hbel.alloc hbel.size _
      have O1 : Hid (W1.ownsRow w.heap.size 75 6 u5 (bordM op (l.take k)).length (segCells (bordM op (l.take k)))) := by rw [hW1]; exact hO.alloc _
      obtain ⟨cx, fx, zx⟩ : Blk W1 pb #[.int .i64 x.p.x, .int .i64 x.p.y, .int .i64 x.p.d, .int .i64 x.q.x, .int .i64 x.q.y, .int .i64 x.q.d, .bool x.la, .bool x.ra, .bool x.lb, .bool x.rb] := by rw [hW1, hpb]; exact Blk.new wr _ _
      have x0 := cx 0
      have x1 := cx 1
      have x2 := cx 2
      have x3 := cx 3
      have x4 := cx 4
      have x5 := cx 5
      have x6 := cx 6
      have x7 := cx 7
      have x8 := cx 8
      have x9 := cx 9
      simp at x0 x1 x2 x3 x4 x5 x6 x7 x8 x9
      have hzz := B1.size
      clear hs hs' hO hbel HA cx
      go_upto_region 5 with fail
      rw [← hW1, ← hpb]
      clear hW1 hpb c0 c1 c2 c3 c4 c5 c6 c7 c8 c9
      go_wp2_with fail
      refine (isIn_any op x.la x.lb _).mono ?_
      rintro e' w2 ⟨rfl, hw2⟩
      rw [hw2]
      clear hw2 w2
      go_wp2_with fail
      refine (isIn_any op x.ra x.rb _).mono ?_
      rintro e' w2 ⟨rfl, hw2⟩
      rw [hw2]
      clear hw2 w2
      cases eL : inM op x.la x.lb
      · cases eR : inM op x.ra x.rb
        · skip
          have HN : Hid (bordM op (l.take (k + 1)) = bordM op (l.take k)) := by rw [HB.out]; unfold bordOf; rw [eL, eR]; exact hide (List.append_nil _)
          clear HB
          have O4 : Hid (W1.ownsRow w.heap.size 75 6 u5 (bordM op (l.take (k + 1))).length (segCells (bordM op (l.take (k + 1))))) := by rw [HN.out]; exact O1
          clear x0 x1 x2 x3 x4 x5 x6 x7 x8 x9 fx
          go_wp2
          go_roundw
          case rel => exact ⟨k + 1, by go_num, by omega, O4.out, B1⟩
          case measure => simp [intOf]; omega
        · skip
          have HN : Hid (bordM op (l.take (k + 1)) = bordM op (l.take k) ++ [(x.q, x.p)]) := by rw [HB.out]; unfold bordOf; rw [eL, eR]; exact hide rfl
          clear HB
          generalize bordM op (l.take k) = D at *
          have hnews := World.news_of_block (w := W1.alloc (.cells #[.int .i64 x.q.x, .int .i64 x.q.y, .int .i64 x.q.d, .int .i64 x.p.x, .int .i64 x.p.y, .int .i64 x.p.d] 75)) (cs := #[.int .i64 x.q.x, .int .i64 x.q.y, .int .i64 x.q.d, .int .i64 x.p.x, .int .i64 x.p.y, .int .i64 x.p.d]) (t := 75) (fr := (0, 0)) (heap_alloc_new W1 _)
          have hn1 : D.length + 1 ≤ maxLen := by unfold maxLen; omega
          have hn2 : (D.length + 1) * 48 ≤ 140737488355328 := by omega
          go_wp2_with (at_builtin; refine wpList_append_lies _ rfl _ _ _ rfl w.heap.size 75 i0 _ 6 48 Try.underlying90 hi0 hz0 hz1 hz2 rfl (by omega) u5 D.length (segCells D) rfl (O1.out.alloc _) ⟨W1.heap.size, 0, none⟩ 1 1 (segCell (x.q, x.p)) rfl rfl hnews (by simp [segCell, Value.oneCell']) (by omega) hn1 hn2 (by simp; omega) _ rfl ?_; intro gg cp w4 ho hgrow hat hlt4)
          have O4 : Hid (w4.ownsRow w.heap.size 75 6 (.slice (some ⟨gg, 0, none⟩) (D.length + 1) cp) (bordM op (l.take (k + 1))).length (segCells (bordM op (l.take (k + 1))))) := by
            refine hide ?_
            rw [HN.out, segCells_snoc, List.length_append]; exact ho
          have B4 : Hid (Below w.heap.size w w4) := hide (Below.grown (B1.alloc B1.size _) hgrow (by have := B1.size; simp; omega) (fun q hq => (O1.out.lt q hq).1))
          clear ho hgrow hat hnews O1 B1 x0 x1 x2 x3 x4 x5 x6 x7 x8 x9 fx
          go_wp2
          go_roundw
          case rel => exact ⟨k + 1, by go_num, by omega, O4.out, B4.out⟩
          case measure => simp [intOf]; omega
      · cases eR : inM op x.ra x.rb
        · skip
          have HN : Hid (bordM op (l.take (k + 1)) = bordM op (l.take k) ++ [(x.p, x.q)]) := by rw [HB.out]; unfold bordOf; rw [eL, eR]; exact hide rfl
          clear HB
          generalize bordM op (l.take k) = D at *
          have hnews := World.news_of_block (w := W1.alloc (.cells #[.int .i64 x.p.x, .int .i64 x.p.y, .int .i64 x.p.d, .int .i64 x.q.x, .int .i64 x.q.y, .int .i64 x.q.d] 75)) (cs := #[.int .i64 x.p.x, .int .i64 x.p.y, .int .i64 x.p.d, .int .i64 x.q.x, .int .i64 x.q.y, .int .i64 x.q.d]) (t := 75) (fr := (0, 0)) (heap_alloc_new W1 _)
          have hn1 : D.length + 1 ≤ maxLen := by unfold maxLen; omega
          have hn2 : (D.length + 1) * 48 ≤ 140737488355328 := by omega
          go_wp2_with (at_builtin; refine wpList_append_lies _ rfl _ _ _ rfl w.heap.size 75 i0 _ 6 48 Try.underlying90 hi0 hz0 hz1 hz2 rfl (by omega) u5 D.length (segCells D) rfl (O1.out.alloc _) ⟨W1.heap.size, 0, none⟩ 1 1 (segCell (x.p, x.q)) rfl rfl hnews (by simp [segCell, Value.oneCell']) (by omega) hn1 hn2 (by simp; omega) _ rfl ?_; intro gg cp w4 ho hgrow hat hlt4)
          have O4 : Hid (w4.ownsRow w.heap.size 75 6 (.slice (some ⟨gg, 0, none⟩) (D.length + 1) cp) (bordM op (l.take (k + 1))).length (segCells (bordM op (l.take (k + 1))))) := by
            refine hide ?_
            rw [HN.out, segCells_snoc, List.length_append]; exact ho
          have B4 : Hid (Below w.heap.size w w4) := hide (Below.grown (B1.alloc B1.size _) hgrow (by have := B1.size; simp; omega) (fun q hq => (O1.out.lt q hq).1))
          clear ho hgrow hat hnews O1 B1 x0 x1 x2 x3 x4 x5 x6 x7 x8 x9 fx
          go_wp2
          go_roundw
          case rel => exact ⟨k + 1, by go_num, by omega, O4.out, B4.out⟩
          case measure => simp [intOf]; omega
        · skip
          have HN : Hid (bordM op (l.take (k + 1)) = bordM op (l.take k)) := by rw [HB.out]; unfold bordOf; rw [eL, eR]; exact hide (List.append_nil _)
          clear HB
          have O4 : Hid (W1.ownsRow w.heap.size 75 6 u5 (bordM op (l.take (k + 1))).length (segCells (bordM op (l.take (k + 1))))) := by rw [HN.out]; exact O1
          clear x0 x1 x2 x3 x4 x5 x6 x7 x8 x9 fx
          go_wp2
          go_roundw
          case rel => exact ⟨k + 1, by go_num, by omega, O4.out, B1⟩
          case measure => simp [intOf]; omega
    · have ek : l.take k = l := List.take_of_length_le (by omega)
      rw [ek] at hO
      have HO := hide hO
      clear HA hO
      go_wp2
      go_ret
      exact ⟨_, rfl, HO.out, hbel⟩
end Go.Proofs.Ytnkcbephceollaa
