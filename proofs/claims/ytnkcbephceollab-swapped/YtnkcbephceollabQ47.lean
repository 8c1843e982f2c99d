import Derived.Test.YtnkcbephceollabQ46
import Derived.Test.YtnkcbephceollabQ45
namespace Go.Proofs.Ytnkcbephceollab
set_option linter.unusedSimpArgs false
set_option linter.unusedVariables false

/-! Which polygon is named first. -/
def swP (x : Pc) : Pc := ⟨x.p, x.q, x.lb, x.rb, x.la, x.ra⟩
def sop (op : Int) : Int := if op = 2 then 3 else if op = 3 then 2 else op
theorem in_swp (op : Int) (a b : Bool) : inM (sop op) b a = inM op a b := by
  unfold inM sop
  by_cases h2 : op = 2
  · subst h2; rfl
  by_cases h3 : op = 3
  · subst h3; rfl
  rw [if_neg h2, if_neg h3]
  by_cases h0 : op = 0
  · subst h0; cases a <;> cases b <;> rfl
  by_cases h1 : op = 1
  · subst h1; cases a <;> cases b <;> rfl
  rw [if_neg h0, if_neg h1, if_neg h2, if_neg h3, if_neg h0, if_neg h1, if_neg h2, if_neg h3]
  cases a <;> cases b <;> rfl
theorem pieces_swp {A B : List (List Pt)} (sA : Sound A) (sB : Sound B) : piecesM B A = (piecesM A B).map swP := by
  have g := good_both sA sB
  have g' := good_both sB sA
  have c1 : Cov (edgesM A ++ edgesM B) (edgesM B ++ edgesM A) := fun e he => .inl (List.mem_append.2 (List.mem_append.1 he).symm)
  have c2 : Cov (edgesM B ++ edgesM A) (edgesM A ++ edgesM B) := fun e he => .inl (List.mem_append.2 (List.mem_append.1 he).symm)
  have s := spots_same g' g c2 c1
  unfold piecesM
  rw [s, pairs_same g' g (spots_spec g).1 c2 c1, List.map_map]
  rfl
theorem bord_swp (op : Int) (l : List Pc) : bordM (sop op) (l.map swP) = bordM op l := by
  unfold bordM
  rw [List.flatMap_map]
  congr 1
  funext x
  unfold bordOf swP
  simp only [in_swp]
theorem both_swp {A B : List (List Pt)} (h : bothM A B = 0) : bothM B A = 0 := by
  obtain ⟨h1, h2⟩ := both_zero h
  unfold bothM
  rw [if_neg (by simpa using h2)]; exact h1
theorem clip_swp {A B : List (List Pt)} (op : Int) (h0 : 0 ≤ op) (h4 : op ≤ 4) (h : bothM A B = 0) : clipM (sop op) B A = clipM op A B := by
  have hs : ¬ (sop op < 0 ∨ sop op > 4) := by
    unfold sop
    split
    · omega
    · split <;> omega
  obtain ⟨c1, c2⟩ := both_zero h
  have hb := both_swp h
  have e1 : clipM (sop op) B A = (ringsM (bordM (sop op) (piecesM B A)), 0) := by
    unfold clipM; rw [if_neg hs, if_neg (by simpa using hb)]
  have e2 : clipM op A B = (ringsM (bordM op (piecesM A B)), 0) := by
    unfold clipM; rw [if_neg (by omega), if_neg (by simpa using h)]
  rw [e1, e2, pieces_swp (sound_of c1) (sound_of c2), bord_swp]
end Go.Proofs.Ytnkcbephceollab
namespace Go.Proofs.Ytnkcbephceollab
open Go.RowKit
set_option linter.unusedSimpArgs false
set_option linter.unusedVariables false

theorem clip_ok {A B : List (List Pt)} {k : Int} (h0 : 0 ≤ k) (h4 : k ≤ 4) (h : bothM A B = 0) : (clipM k A B).2 = 0 := by
  unfold clipM
  rw [if_neg (by omega), if_neg (by simpa using h)]
theorem nest_ok {A B : List (List Pt)} {k : Int} (h0 : 0 ≤ k) (h4 : k ≤ 4) (h : bothM A B = 0) : nestM k A B = (nestL (clipM k A B).1, 0) := by
  unfold nestM
  rw [if_neg (by simpa using clip_ok h0 h4 h)]
theorem nest_swp {A B : List (List Pt)} {k : Int} (h0 : 0 ≤ k) (h4 : k ≤ 4) (h : bothM A B = 0) : nestM (sop k) B A = nestM k A B := by
  unfold nestM
  rw [clip_swp k h0 h4 h]
theorem nestL_len (R : List (List Pt)) : (nestL R).length = R.length := by unfold nestL; simp
theorem ints_at {w : World} {base g n cap : Nat} {l : List Int} (h : w.ownsRow base 3 1 (.slice (some ⟨g, 0, none⟩) n cap) n (intCells l)) (j : Nat) (hj : j < n) (hl : l.length = n) : w.cell? ⟨g, j, none⟩ = some (.int .i64 (l.getD j 0)) := by
  rw [own_cell h g rfl j (by omega)]
  unfold intCells
  rw [List.getElem?_map, List.getElem?_eq_getElem (by omega), List.getD_eq_getElem?_getD, List.getElem?_eq_getElem (by omega)]; rfl
abbrev opsA : Array Value := #[.int .i64 0, .int .i64 1, .int .i64 3, .int .i64 2, .int .i64 4]
theorem ops_at (k : Nat) (hk : k < 5) : opsA[k]? = some (.int .i64 (sop (k : Int))) := by
  match k, hk with
  | 0, _ => rfl
  | 1, _ => rfl
  | 2, _ => rfl
  | 3, _ => rfl
  | 4, _ => rfl

set_option maxRecDepth 100000 in
set_option maxHeartbeats 8000000 in
theorem swapped_walk (va vb : Value) (A B : List (List Pt)) (w : World) (hA : PolyAt w va A) (hB : PolyAt w vb B) :
    Calls Try.prog 5 #[va, vb] w fun e w' => e = .returned (.bool true) ∧ Below w.heap.size w w' := by
  have HA := hide hA
  have HB := hide hB
  clear hA hB
  go_enter Try.func5, Try.ntmps5
  go_wp2_with fail
  refine (known_yes _).mono ?_
  rintro e w1 ⟨rfl, k1⟩
  go_wp2_with fail
  refine (refusal_any 0 va vb A B _ (by decide) (by decide) (HA.out.later k1) (HB.out.later k1)).mono ?_
  rintro e w2 ⟨rfl, k2⟩
  have B2 := hide (bvia k1 k2)
  clear k1 k2
  by_cases hz : bothM A B = 0
  · rw [hz]
    obtain ⟨W3, hW3⟩ : ∃ W, W = w2.alloc (.cells opsA 39) := ⟨_, rfl⟩
    obtain ⟨ob, hob⟩ : ∃ b, b = w2.heap.size := ⟨_, rfl⟩
    have B3 : Hid (Below w.heap.size w W3) := by rw [hW3]; exact hide (B2.out.alloc B2.out.size _)
    have O3 : Hid (Blk W3 ob opsA) := by rw [hW3, hob]; exact hide (Blk.new w2 _ _)
    go_upto_block 0 with fail
    rw [← hW3, ← hob]
    clear hW3 hob B2
    go_wp2_with fail
    go_loopw [8, 9, 10, 11, 12, 13, 14, 15, 16] (fun ov _ _ _ _ _ _ _ _ w' => ∃ k : Nat, ov = .int .i64 k ∧ k ≤ 5 ∧ Blk w' ob opsA ∧ Below w.heap.size w w') (fun ov _ _ _ _ _ _ _ _ _ => 5 - (intOf ov).toNat)
    case atStart => exact ⟨0, rfl, by omega, O3.out, B3.out⟩
    case round =>
      clear B3 O3
      obtain ⟨k, rfl, hk, hO, hbel⟩ := hrel
      by_cases hlt : k < 5
      · have hk5 : (k : Int) < 5 := by omega
        have hk0 : (0 : Int) ≤ (k : Int) := Int.natCast_nonneg _
        have HC := hide (clip_swp (k : Int) hk0 (by omega) hz)
        have HN := hide (nest_swp hk0 (show (k : Int) ≤ 4 by omega) hz)
        have HNO := hide (nest_ok hk0 (show (k : Int) ≤ 4 by omega) hz)
        have HC0 := hide (clip_ok hk0 (show (k : Int) ≤ 4 by omega) hz)
        have HFW := hide (clip_few (k : Int) A B)
        have C1 := hide (Clip_any (k : Int) va vb A B wr (HA.out.later hbel) (HB.out.later hbel))
        have C2 := hide (fun wz (kz : Below w.heap.size w wz) => Clip_any (sop (k : Int)) vb va B A wz (HB.out.later kz) (HA.out.later kz))
        have C3 := hide (fun wz (kz : Below w.heap.size w wz) => Nest_any (k : Int) va vb A B wz (HA.out.later kz) (HB.out.later kz))
        have C4 := hide (fun wz (kz : Below w.heap.size w wz) => Nest_any (sop (k : Int)) vb va B A wz (HB.out.later kz) (HA.out.later kz))
        rw [HC.out] at C2
        rw [HN.out] at C4
        rw [HNO.out] at C3 C4
        generalize clipM (k : Int) A B = cl at *
        obtain ⟨R, z⟩ := cl
        have hz0 : z = 0 := HC0.out
        subst hz0
        simp only at C1 C2 C3 C4
        have hRl : R.length ≤ 100000 := HFW.out.few
        have hnl := nestL_len R
        have oc := fun wz (h : Blk wz ob opsA) => (h.cell k).trans (ops_at k hlt)
        have HOC := hide oc
        have HB0 := hide hbel
        have HO := hide hO
        clear hbel hO HC HN HNO HC0 HFW oc hz
        go_wp2_with fail
        refine C1.out.mono ?_
        rintro e w4 ⟨v1, vs1, rfl, o1, k4⟩
        have P4 := hide (o1.poly (by unfold maxLen; omega))
        have B4 := hide (bvia HB0.out k4)
        have O4 := hide (HO.out.call k4)
        have c4 := HOC.out w4 O4.out
        have hob4 := O4.out.lt
        have C2' := hide (C2.out w4 B4.out)
        clear C1 C2 o1 k4 HB0 HO
        go_wp2_with fail
        refine C2'.out.mono ?_
        rintro e w5 ⟨v2, vs2, rfl, o2, k5⟩
        have P5 := hide (P4.out.later k5)
        have P5' := hide (o2.poly (by unfold maxLen; omega))
        have B5 := hide (bvia B4.out k5)
        have O5 := hide (O4.out.call k5)
        clear P4 B4 O4 o2 k5 c4 hob4 C2'
        have CS := hide (sameRings_yes v1 v2 R w5 P5.out P5'.out)
        obtain ⟨ra, rcap, rfl, _, _, _⟩ := P5.out
        obtain ⟨sa, scap, rfl, _, _, _⟩ := P5'.out
        clear P5 P5'
        go_wp2_with fail
        refine CS.out.mono ?_
        rintro e w6 ⟨rfl, n6, rfl⟩
        have B6 := hide (below_drewN B5.out n6)
        have O6 := hide (O5.out.call (below_drewN (Below.refl _ _) n6))
        have C3' := hide (C3.out _ B6.out)
        clear CS B5 O5 C3
        go_wp2_with fail
        refine C3'.out.mono ?_
        rintro e w7 ⟨v3, rfl, o3, k7⟩
        have B7 := hide (bvia B6.out k7)
        have O7 := hide (O6.out.call k7)
        have L7 := hide o3
        have c7 := HOC.out w7 O7.out
        have hob7 := O7.out.lt
        have C4' := hide (C4.out w7 B7.out)
        clear C3' C4 o3 k7 B6 O6
        go_wp2_with fail
        refine C4'.out.mono ?_
        rintro e w8 ⟨v4, rfl, o4, k8⟩
        have B8 := hide (bvia B7.out k8)
        have O8 := hide (O7.out.call k8)
        have L8 := hide (own_later L7.out k8)
        have M8 := hide o4
        clear C4' o4 k8 B7 O7 L7 c7 hob7
        generalize nestL R = D at *
        obtain ⟨la, lcap, rfl, lag, lpos, lmx⟩ := own_form L8.out
        obtain ⟨ma, mcap, rfl, mag, mpos, mmx⟩ := own_form M8.out
        have HLC : Hid (∀ wz, Below w8.heap.size w8 wz → ∀ j, j < D.length → ∃ g g', la = some ⟨g, 0, none⟩ ∧ ma = some ⟨g', 0, none⟩ ∧ wz.cell? ⟨g, j, none⟩ = some (.int .i64 (D.getD j 0)) ∧ wz.cell? ⟨g', j, none⟩ = some (.int .i64 (D.getD j 0))) := hide fun wz kz j hj => by
          obtain ⟨g, hg⟩ := lpos (by omega)
          obtain ⟨g', hg'⟩ := mpos (by omega)
          have e1 := lag g hg
          have e2 := mag g' hg'
          subst e1 e2
          refine ⟨g, g', rfl, rfl, ?_, ?_⟩
          · exact (kz.cell (p := ⟨g, j, none⟩) (L8.out.lt g rfl).2).trans (ints_at L8.out j hj rfl)
          · exact (kz.cell (p := ⟨g', j, none⟩) (M8.out.lt g' rfl).2).trans (ints_at M8.out j hj rfl)
        rw [← hnl]
        clear lag lpos mag mpos L8 M8 HOC
        go_wp2_with fail
        go_loopw [16] (fun iv w' => ∃ i : Nat, iv = .int .i64 i ∧ i ≤ D.length ∧ Below w8.heap.size w8 w') (fun iv _ => D.length - (intOf iv).toNat)
        case atStart => exact ⟨0, rfl, Nat.zero_le _, Below.refl _ _⟩
        case round =>
          obtain ⟨i, rfl, hi, hb⟩ := hrel
          by_cases hil : i < D.length
          · obtain ⟨g, g', rfl, rfl, x1, x2⟩ := HLC.out wr hb i hil
            generalize D.getD i 0 = y at *
            have hi0 : (0 : Int) ≤ (i : Int) := Int.natCast_nonneg _
            have hi1 : (i : Int) < (D.length : Int) := by omega
            clear HLC
            go_wp2_with fail
            go_quiet (fail)
            go_wp2
            go_roundw
            case rel => exact ⟨i + 1, by go_num, by omega, below_drewN hb _⟩
            case measure => simp [intOf]; omega
          · have B9 := hide (bvia B8.out hb)
            have O9 := hide (O8.out.call hb)
            clear HLC B8 O8 hb
            go_wp2
            go_roundw
            case rel => exact ⟨k + 1, by go_num, by omega, O9.out, B9.out⟩
            case measure => simp [intOf]; omega
      · clear hO
        go_wp2
        go_ret
        exact ⟨rfl, hbel⟩
  · have hz' : (bothM A B != 0) = true := by simpa using hz
    go_wp2
    go_ret
    exact ⟨rfl, B2.out⟩
end Go.Proofs.Ytnkcbephceollab
