import Derived.Test.YtnkcbephceollaaGreatQ10
import Derived.Test.YtnkcbephceollaaGreatF5
import Derived.Test.YtnkcbephceollaaGreatQ6
import Derived.Test.YtnkcbephceollaaGreatQ14
import Derived.Deep.QuietTactic
import Derived.BigQuiet
import Derived.OpenShut
import Derived.Deep.Cut
import Derived.Deep.CutBlock
import Derived.Deep.DeepCutAuto
import Derived.Deep.RegionWith
namespace Go.Proofs.YtnkcbephceollaaGreat
open Go.RowKit
set_option linter.unusedSimpArgs false
set_option linter.unusedVariables false

/-- The error of the first, else that of the second. -/
def bothM (A B : List (List Pt)) : Int := if (checkM A).1 ≠ 0 then (checkM A).1 else (checkM B).1
set_option maxHeartbeats 1000000 in
theorem checkBoth_any (va vb : Value) (A B : List (List Pt)) (w : World) (hA : PolyAt w va A) (hB : PolyAt w vb B) :
    Calls Tryz.prog 51 #[va, vb] w fun e w' => e = .returned (.int .i64 (bothM A B)) ∧ Below w.heap.size w w' := by
  by_cases h : (checkM A).1 = 0
  · have H : Hid (bothM A B = (checkM B).1) := if_neg (by simpa using h)
    have h' : ((checkM A).1 != 0) = false := by simpa using h
    go_enter Tryz.func51, Tryz.ntmps51
    go_wp2_with fail
    refine (polyCheck_any va A _ hA).mono ?_
    rintro e w1 ⟨rfl, k⟩
    have B1 := hB.later k
    go_wp2_with fail
    refine (polyCheck_any vb B _ B1).mono ?_
    rintro e w2 ⟨rfl, k2⟩
    go_wp2
    go_ret
    exact ⟨ret_int H.out.symm, bvia k k2⟩
  · have H : Hid (bothM A B = (checkM A).1) := if_pos h
    have h' : ((checkM A).1 != 0) = true := by simpa using h
    go_enter Tryz.func51, Tryz.ntmps51
    go_wp2_with fail
    refine (polyCheck_any va A _ hA).mono ?_
    rintro e w1 ⟨rfl, k⟩
    go_wp2
    go_ret
    exact ⟨ret_int H.out.symm, k⟩
theorem check_few {P : List (List Pt)} (h : (checkM P).1 = 0) : (edgesM P).length ≤ 12 := by
  have u : checkM P = if 4 < P.length then (1, 0) else if badM 12 0 P ≠ -1 then (2, badM 12 0 P) else if findM (fun e : Pt × Pt => !gridB e.1) 0 (edgesM P) ≠ -1 then (3, findM (fun e : Pt × Pt => !gridB e.1) 0 (edgesM P)) else if findM (fun e : Pt × Pt => eqB e.1 e.2) 0 (edgesM P) ≠ -1 then (4, findM (fun e : Pt × Pt => eqB e.1 e.2) 0 (edgesM P)) else if findM (sharesM (edgesM P)) 0 (List.range (edgesM P).length) ≠ -1 then (5, findM (sharesM (edgesM P)) 0 (List.range (edgesM P).length)) else (0, 0) := rfl
  rw [u] at h
  by_cases c1 : 4 < P.length
  · rw [if_pos c1] at h; simp at h
  rw [if_neg c1] at h
  by_cases c2 : badM 12 0 P ≠ -1
  · rw [if_pos c2] at h; simp at h
  have := badM_none P 12 0 (by decide) (by omega) (by decide)
  omega
/-- What the program answers: the pieces, none with an error. -/
def pcsM (A B : List (List Pt)) : List Pc := if bothM A B ≠ 0 then [] else piecesM A B
theorem both_zero {A B : List (List Pt)} (h : bothM A B = 0) : (checkM A).1 = 0 ∧ (checkM B).1 = 0 := by
  unfold bothM at h
  split at h
  · rename_i k; exact absurd h k
  · rename_i k; exact ⟨by simpa using k, h⟩
set_option maxHeartbeats 1000000 in
theorem Pieces_any (va vb : Value) (A B : List (List Pt)) (w : World) (hA : PolyAt w va A) (hB : PolyAt w vb B) :
    Calls Tryz.prog 28 #[va, vb] w fun e w' => ∃ v', e = .returned (.tuple #[v', .int .i64 (bothM A B)]) ∧ w'.ownsRow w.heap.size 55 10 v' (pcsM A B).length (pcCells (pcsM A B)) ∧ Below w.heap.size w w' := by
  by_cases h : bothM A B = 0
  · have H : Hid (pcsM A B = piecesM A B) := if_neg (by simpa using h)
    obtain ⟨c1, c2⟩ := both_zero h
    have C := hide (fun wz (k1 : PolyAt wz va A) (k2 : PolyAt wz vb B) => cutPieces_any va vb A B wz k1 k2 (sound_of c1) (sound_of c2) (check_few c1) (check_few c2))
    clear c1 c2
    go_enter Tryz.func28, Tryz.ntmps28
    go_wp2_with fail
    refine (checkBoth_any va vb A B _ hA hB).mono ?_
    rintro e w1 ⟨rfl, k⟩
    rw [h]
    go_wp2_with fail
    refine (C.out _ (hA.later k) (hB.later k)).mono ?_
    rintro e w2 ⟨v', rfl, o, k2⟩
    go_wp2
    go_ret2
    exact ⟨v', by rw [h]; rfl, by rw [H.out]; exact own_mono o k.size, bvia k k2⟩
  · have H : Hid (pcsM A B = []) := if_pos h
    have h' : (bothM A B != 0) = true := by simpa using h
    go_enter Tryz.func28, Tryz.ntmps28
    go_wp2_with fail
    refine (checkBoth_any va vb A B _ hA hB).mono ?_
    rintro e w1 ⟨rfl, k⟩
    go_wp2
    go_ret2
    exact ⟨_, rfl, by rw [H.out]; exact World.ownsRow_nil _ _ _ _, k⟩
end Go.Proofs.YtnkcbephceollaaGreat
namespace Go.Proofs.YtnkcbephceollaaGreat
open Go.RowKit
set_option linter.unusedSimpArgs false
set_option linter.unusedVariables false

abbrev pcV (p q : Pt) (a b c d : Bool) : Value := .agg #[.int .i64 p.x, .int .i64 p.y, .int .i64 p.d, .int .i64 q.x, .int .i64 q.y, .int .i64 q.d, .bool a, .bool b, .bool c, .bool d]
/-- A piece's ten cells. -/
def PceAt (w : World) (b o : Nat) (x : Pc) : Prop := ∀ t, t < 10 → w.cell? ⟨b, o + t, none⟩ = (pcCell x)[t]?
theorem PceAt.later {w w' : World} {b o : Nat} {x : Pc} {m : Nat} (h : PceAt w b o x) (hb : Below m w w') (hl : b < m) : PceAt w' b o x :=
  fun t ht => (hb.cell (p := ⟨b, o + t, none⟩) hl).trans (h t ht)
def zPc : Pc := ⟨zP, zP, false, false, false, false⟩
def PcsAt (w : World) (v : Value) (l : List Pc) : Prop :=
  ∃ (a : Option Addr) (cap : Nat), v = .slice a l.length cap ∧ l.length ≤ cap ∧ cap ≤ maxLen ∧ ∀ j, j < l.length → ∃ b off, a = some ⟨b, off, none⟩ ∧ b < w.heap.size ∧ PceAt w b (off + j * 10) (l.getD j zPc)
theorem PcsAt.later {w w' : World} {v : Value} {l : List Pc} (h : PcsAt w v l) (hb : Below w.heap.size w w') : PcsAt w' v l := by
  obtain ⟨a, cap, rfl, h1, h2, h3⟩ := h
  refine ⟨a, cap, rfl, h1, h2, fun j hj => ?_⟩
  obtain ⟨b, off, rfl, hl, hp⟩ := h3 j hj
  exact ⟨b, off, rfl, Nat.lt_of_lt_of_le hl hb.size, hp.later hb hl⟩
theorem pcCells_at (l : List Pc) (j t : Nat) (hj : j < l.length) (ht : t < 10) : (pcCells l)[j * 10 + t]? = (pcCell (l.getD j zPc))[t]? := by
  induction l generalizing j with
  | nil => simp at hj
  | cons e l ih =>
    have hc : pcCells (e :: l) = pcCell e ++ pcCells l := by simp [pcCells]
    rw [hc]
    cases j with
    | zero => rw [List.getElem?_append_left (by simp [pcCell]; omega)]; simp
    | succ j =>
      rw [List.getElem?_append_right (by simp [pcCell]; omega)]
      have : (j + 1) * 10 + t - (pcCell e).length = j * 10 + t := by simp [pcCell]; omega
      rw [this, ih j (by simpa using hj)]
      simp
theorem pcs_of_own {w : World} {base : Nat} {v : Value} {l : List Pc} (h : w.ownsRow base 55 10 v l.length (pcCells l)) (hl : l.length ≤ maxLen) : PcsAt w v l := by
  have h0 := h
  obtain ⟨_, h1⟩ := h
  rcases h1 with ⟨rfl, hn⟩ | ⟨g, cap, cur, rfl, hb, hh, hnc, hcap, _, _⟩
  · exact ⟨none, 0, by rw [hn], by omega, by unfold maxLen; omega, fun j hj => by omega⟩
  · refine ⟨some ⟨g, 0, none⟩, cap, rfl, hnc, hcap, fun j hj => ⟨g, 0, rfl, (h0.lt g rfl).2, fun t ht => ?_⟩⟩
    rw [Nat.zero_add]
    exact (h0.cellAt (j * 10 + t) (by omega)).trans (pcCells_at l j t hj ht)
abbrev Pc.v (x : Pc) : Value := pcV x.p x.q x.la x.ra x.lb x.rb
abbrev Pc.cs (x : Pc) : Array Value := #[.int .i64 x.p.x, .int .i64 x.p.y, .int .i64 x.p.d, .int .i64 x.q.x, .int .i64 x.q.y, .int .i64 x.q.d, .bool x.la, .bool x.ra, .bool x.lb, .bool x.rb]
end Go.Proofs.YtnkcbephceollaaGreat
namespace Go.Proofs.YtnkcbephceollaaGreat
open Go.RowKit
set_option linter.unusedSimpArgs false
set_option linter.unusedVariables false


set_option maxHeartbeats 400000 in
theorem rdet_of (a b c : Pt) (w : World) (H : Hid (wrap64 (wrap64 (wrap64 (a.x * wrap64 (wrap64 (b.y * c.d) - wrap64 (c.y * b.d))) - wrap64 (a.y * wrap64 (wrap64 (b.x * c.d) - wrap64 (c.x * b.d)))) + wrap64 (a.d * wrap64 (wrap64 (b.x * c.y) - wrap64 (c.x * b.y)))) = detM a b c)) :
    Calls Tryz.prog 73 #[a.v, b.v, c.v] w fun e w' => e = .returned (.int .i64 (detM a b c)) ∧ Below w.heap.size w w' := by
  go_enter Tryz.func73, Tryz.ntmps73
  go_wp2
  go_ret
  exact ⟨ret_int H.out, (((Below.refl _ _).alloc (Nat.le_refl _) _).alloc (by simp) _).alloc (by simp; omega) _⟩
theorem rdet_w (a b c : Pt) (w : World) (ha : Gw a) (hb : Gw b) (hc : Gw c) :
    Calls Tryz.prog 73 #[a.v, b.v, c.v] w fun e w' => e = .returned (.int .i64 (detM a b c)) ∧ Below w.heap.size w w' := by
  refine rdet_of a b c w ?_
  refine hide ?_
  unfold detM
  rw [wrap_in (hb.y.mul hc.d) (by decide), wrap_in (hc.y.mul hb.d) (by decide), wrap_in (hb.x.mul hc.d) (by decide), wrap_in (hc.x.mul hb.d) (by decide), wrap_in (hb.x.mul hc.y) (by decide), wrap_in (hc.x.mul hb.y) (by decide),
    wrap_in ((hb.y.mul hc.d).sub (hc.y.mul hb.d)) (by decide), wrap_in ((hb.x.mul hc.d).sub (hc.x.mul hb.d)) (by decide), wrap_in ((hb.x.mul hc.y).sub (hc.x.mul hb.y)) (by decide),
    wrap_in (ha.x.mul ((hb.y.mul hc.d).sub (hc.y.mul hb.d))) (by decide), wrap_in (ha.y.mul ((hb.x.mul hc.d).sub (hc.x.mul hb.d))) (by decide), wrap_in (ha.d.mul ((hb.x.mul hc.y).sub (hc.x.mul hb.y))) (by decide),
    wrap_in ((ha.x.mul ((hb.y.mul hc.d).sub (hc.y.mul hb.d))).sub (ha.y.mul ((hb.x.mul hc.d).sub (hc.x.mul hb.d)))) (by decide),
    wrap_in (((ha.x.mul ((hb.y.mul hc.d).sub (hc.y.mul hb.d))).sub (ha.y.mul ((hb.x.mul hc.d).sub (hc.x.mul hb.d)))).add (ha.d.mul ((hb.x.mul hc.y).sub (hc.x.mul hb.y)))) (by decide)]

set_option maxHeartbeats 400000 in
theorem rapart_any (m n : Int) (w : World) :
    Calls Tryz.prog 111 #[.int .i64 m, .int .i64 n] w fun e w' => e = .returned (.bool (apartB m n)) ∧ w' = w := by
  unfold apartB
  rcases Int.lt_trichotomy m 0 with h | h | h
  all_goals rcases Int.lt_trichotomy n 0 with k | k | k
  all_goals
    go_enter Tryz.func111, Tryz.ntmps111
    go_wp2
    go_ret
    exact ⟨ret_bool (by simp <;> omega), rfl⟩

set_option maxHeartbeats 1000000 in
theorem ron_any (p a b : Pt) (w : World) (hp : Gd p) (ha : Gd a) (hb : Gd b) :
    Calls Tryz.prog 85 #[p.v, sg a b] w fun e w' => e = .returned (.bool (onB p a b)) ∧ Below w.heap.size w w' := by
  go_enter Tryz.func85, Tryz.ntmps85
  go_wp2_with fail
  refine (rdet_any a b p _ ha hb hp).mono ?_
  rintro e w1 ⟨rfl, k⟩
  have B1 := bvia (((Below.refl _ _).alloc (Nat.le_refl _) _).alloc (by simp) _) k
  obtain ⟨cp1, fp1, zp1⟩ := ((Blk.new w _ _).alloc _).call k
  obtain ⟨ce1, fe1, ze1⟩ := (Blk.at (w.heap.size + 1) (by simp)).call k
  clear k
  go_wp2_with fail
  refine (rwithin_any p a b _ hp ha hb).mono ?_
  rintro e w2 ⟨rfl, k⟩
  have B2 := bvia B1 k
  clear k cp1 fp1 ce1 fe1 B1
  have hd : onB p a b = (decide (detM a b p = 0) && withB p a b) := rfl
  have HD := hide hd
  clear hd
  generalize withB p a b = wi at *
  by_cases h : detM a b p = 0
  · go_wp2
    all_goals
      go_ret
      exact ⟨ret_bool (by rw [HD.out]; simp [h]), B2⟩
  · go_wp2
    all_goals
      go_ret
      exact ⟨ret_bool (by rw [HD.out]; simp [h]), B2⟩
end Go.Proofs.YtnkcbephceollaaGreat
namespace Go.Proofs.YtnkcbephceollaaGreat
open Go.RowKit
set_option linter.unusedSimpArgs false
set_option linter.unusedVariables false

/-- Of these three points the determinant is reckoned without overflow. -/
def DetOk (a b c : Pt) : Prop := ∀ w, Calls Tryz.prog 73 #[a.v, b.v, c.v] w fun e w' => e = .returned (.int .i64 (detM a b c)) ∧ Below w.heap.size w w'

set_option maxRecDepth 100000 in
set_option maxHeartbeats 4000000 in
theorem rfar_any (q : Pt) (v : Value) (l : List Pt) (ea eb : Pt) (w : World) (hl : RingAt w v l) (hn : l.length ≤ 2000000)
    (h4 : ∀ k, k ≤ l.length + 1 → ∀ p ∈ l, DetOk (outP k) q p) (h5 : ∀ k, k ≤ l.length + 1 → DetOk ea eb (outP k)) :
    Calls Tryz.prog 86 #[q.v, v, sg ea eb] w fun e w' => e = .returned (farM q l ea eb).v ∧ Below w.heap.size w w' := by
  obtain ⟨a, cap, rfl, h1, h2, h3⟩ := hl
  unfold maxLen at h2
  have hln : (l.length : Int) ≤ 2000000 := by omega
  have H3 := hide h3
  have H4 := hide h4
  have H5 := hide h5
  have HF := hide (show farM q l ea eb = farL (freeB q l ea eb) (l.length + 2 - 0) 0 from rfl)
  have HFr := hide (show ∀ k, freeB q l ea eb k = (l.all (fun v => decide (detM (outP k) q v ≠ 0)) && decide (detM ea eb (outP k) ≠ 0)) from fun k => rfl)
  clear h3 h4 h5
  generalize farM q l ea eb = fm at *
  generalize freeB q l ea eb = fr at *
  go_enter Tryz.func86, Tryz.ntmps86
  go_wp2_with fail
  go_loopw [7, 8, 9, 10, 11, 12] (fun kv _ _ _ _ _ w' => ∃ k : Nat, kv = .int .i64 k ∧ k ≤ l.length + 2 ∧ Blk w' w.heap.size #[.int .i64 q.x, .int .i64 q.y, .int .i64 q.d] ∧ Blk w' (w.heap.size + 1) #[.int .i64 ea.x, .int .i64 ea.y, .int .i64 ea.d, .int .i64 eb.x, .int .i64 eb.y, .int .i64 eb.d] ∧ Blk w' (w.heap.size + 1 + 1) #[.int .i64 0, .int .i64 0, .int .i64 0] ∧ Below w.heap.size w w' ∧ Hid (fm = farL fr (l.length + 2 - k) k)) (fun kv _ _ _ _ _ _ => l.length + 2 - (intOf kv).toNat)
  case atStart => exact ⟨0, rfl, Nat.zero_le _, ((Blk.new w _ _).alloc _).alloc _, (Blk.at (w.heap.size + 1) (by simp)).alloc _, Blk.at (w.heap.size + 1 + 1) (by simp), below3 _ _ _ _, HF⟩
  case round =>
    obtain ⟨k, rfl, hk, ⟨cq, fq, zq⟩, ⟨ce, fe, ze⟩, ⟨cr, frz, zr⟩, hbel, HB⟩ := hrel
    by_cases hlt : k < l.length + 2
    · have HC := hide (farL_step fr (l.length + 2) k hlt)
      have hki : (k : Int) ≤ (l.length : Int) + 1 := by omega
      have hkb : (k : Int) ≤ 2000001 := by omega
      have hk0 : (0 : Int) ≤ (k : Int) := Int.natCast_nonneg _
      have D5 := H5.out k (by omega)
      have H4k := hide (H4.out k (by omega))
      have HFk := hide (HFr.out k)
      clear HF H4 H5 HFr
      go_upto_block 2 with fail
      have hwo : wr.heap.size < (wr.alloc (.cells #[.int .i64 (-65), .int .i64 k, .int .i64 1] 31)).heap.size := by simp
      have hwo1 := hbel.size
      have P0 : ∃ wo, wo = wr.heap.size := ⟨_, rfl⟩
      obtain ⟨wo, hwoe⟩ := P0
      have K1 := ((Blk.mk cq fq zq).alloc (.cells #[.int .i64 (-65), .int .i64 k, .int .i64 1] 31))
      have K2 := ((Blk.mk ce fe ze).alloc (.cells #[.int .i64 (-65), .int .i64 k, .int .i64 1] 31))
      have K3 := ((Blk.mk cr frz zr).alloc (.cells #[.int .i64 (-65), .int .i64 k, .int .i64 1] 31))
      have K4 := Blk.new wr #[.int .i64 (-65), .int .i64 k, .int .i64 1] 31
      have K5 := hbel.alloc hbel.size (.cells #[.int .i64 (-65), .int .i64 k, .int .i64 1] 31)
      rw [← hwoe] at K4 hwo hwo1 ⊢
      clear cq fq zq ce fe ze cr frz zr hbel hwoe
      go_cut [8, 9, 10, 11] (fun po fv _ _ w' => po = .pointer (some ⟨wo, 0, none⟩) ∧ fv = .bool (l.all (fun v => decide (detM (outP k) q v ≠ 0))) ∧ Blk w' w.heap.size #[.int .i64 q.x, .int .i64 q.y, .int .i64 q.d] ∧ Blk w' (w.heap.size + 1) #[.int .i64 ea.x, .int .i64 ea.y, .int .i64 ea.d, .int .i64 eb.x, .int .i64 eb.y, .int .i64 eb.d] ∧ Blk w' (w.heap.size + 1 + 1) #[.int .i64 0, .int .i64 0, .int .i64 0] ∧ Blk w' wo #[.int .i64 (-65), .int .i64 k, .int .i64 1] ∧ Below w.heap.size w w')
      case first =>
        clear D5 HB HC HFk
        go_wp2_with fail
        go_loopw [9, 10, 11] (fun fv iv _ w' => ∃ i : Nat, iv = .int .i64 i ∧ i ≤ l.length ∧ fv = .bool ((l.take i).all (fun v => decide (detM (outP k) q v ≠ 0))) ∧ Blk w' w.heap.size #[.int .i64 q.x, .int .i64 q.y, .int .i64 q.d] ∧ Blk w' (w.heap.size + 1) #[.int .i64 ea.x, .int .i64 ea.y, .int .i64 ea.d, .int .i64 eb.x, .int .i64 eb.y, .int .i64 eb.d] ∧ Blk w' (w.heap.size + 1 + 1) #[.int .i64 0, .int .i64 0, .int .i64 0] ∧ Blk w' wo #[.int .i64 (-65), .int .i64 k, .int .i64 1] ∧ Below w.heap.size w w') (fun _ iv _ _ => l.length - (intOf iv).toNat)
        case atStart => exact ⟨0, rfl, Nat.zero_le _, rfl, K1, K2, K3, K4, K5⟩
        case round =>
          obtain ⟨i, rfl, hi, rfl, ⟨cq, fq, zq⟩, K2', K3', ⟨co, fo, zo⟩, hbel⟩ := hrel
          by_cases hit : i < l.length
          · obtain ⟨b, off, rfl, hb, hp⟩ := H3.out i hit
            obtain ⟨px, py, pd⟩ := hp.later hbel hb
            have HA := hide (all_take (fun v => decide (detM (outP k) q v ≠ 0)) l i hit zP)
            have D4 := H4k.out _ (getD_mem hit zP)
            generalize l.getD i zP = p at *
            obtain ⟨dv, hdv⟩ : ∃ dv, detM (outP k) q p = dv := ⟨_, rfl⟩
            have D6 : ∀ wz, Calls Tryz.prog 73 #[(outP k).v, q.v, p.v] wz fun e w' => e = .returned (.int .i64 (detM (outP k) q p)) ∧ Below wz.heap.size wz w' := D4
            rw [hdv] at D6
            have HD : Hid ((l.take (i + 1)).all (fun v => decide (detM (outP k) q v ≠ 0)) = ((l.take i).all (fun v => decide (detM (outP k) q v ≠ 0)) && decide (dv ≠ 0))) := by rw [← hdv]; exact HA
            clear hdv D4 HA hp
            generalize (l.take i).all (fun v => decide (detM (outP k) q v ≠ 0)) = al at *
            have hi0 : (0 : Int) ≤ (i : Int) := Int.natCast_nonneg _
            have hi1 : (i : Int) < (l.length : Int) := by omega
            go_upto_region 9 with fail
            go_cut [11] (fun nv w' => nv = .int .i64 dv ∧ Blk w' w.heap.size #[.int .i64 q.x, .int .i64 q.y, .int .i64 q.d] ∧ Blk w' (w.heap.size + 1) #[.int .i64 ea.x, .int .i64 ea.y, .int .i64 ea.d, .int .i64 eb.x, .int .i64 eb.y, .int .i64 eb.d] ∧ Blk w' (w.heap.size + 1 + 1) #[.int .i64 0, .int .i64 0, .int .i64 0] ∧ Blk w' wo #[.int .i64 (-65), .int .i64 k, .int .i64 1] ∧ Below w.heap.size w w')
            case first =>
              go_region_with (go_at_call 73; refine (D6 _).mono ?_; rintro e' w1 ⟨rfl, k1⟩)
              all_goals
                go_wp2_with fail
                go_meet
                case rel => exact ⟨rfl, (Blk.mk cq fq zq).drew.call k1, K2'.drew.call k1, K3'.drew.call k1, (Blk.mk co fo zo).drew.call k1, bvia hbel.drew k1⟩
            case rest =>
              clear cq fq zq co fo zo hbel px py pd K2' K3' D6
              obtain ⟨rfl, L1, L2, L3, L4, B1⟩ := hcut
              cases al
              · have HE : Hid ((l.take (i + 1)).all (fun v => decide (detM (outP k) q v ≠ 0)) = false) := HD.out.trans rfl
                clear HD
                go_wp2
                go_roundw
                case rel => exact ⟨i + 1, by go_num, by omega, by rw [HE.out], L1, L2, L3, L4, B1⟩
                case measure => simp [intOf]; omega
              · have HE : Hid ((l.take (i + 1)).all (fun v => decide (detM (outP k) q v ≠ 0)) = (dv != 0)) := HD.out.trans (by rw [Bool.true_and]; by_cases h : dv = 0 <;> simp [h])
                clear HD
                go_wp2
                go_roundw
                case rel => exact ⟨i + 1, by go_num, by omega, by rw [HE.out], L1, L2, L3, L4, B1⟩
                case measure => simp [intOf]; omega
          · have HE : Hid (l.take i = l) := List.take_of_length_le (by omega)
            have hi1 : ¬ (i : Int) < (l.length : Int) := by omega
            go_wp2
            go_meet
            case rel => exact ⟨rfl, by rw [HE.out]; simp, Blk.mk cq fq zq, K2', K3', Blk.mk co fo zo, hbel⟩
      case rest =>
        obtain ⟨rfl, rfl, ⟨cq, fq, zq⟩, ⟨ce, fe, ze⟩, ⟨cr, frz, zr⟩, ⟨co, fo, zo⟩, hbel⟩ := hcut
        generalize l.all (fun v => decide (detM (outP k) q v ≠ 0)) = al at *
        obtain ⟨dv, hdv⟩ : ∃ dv, detM ea eb (outP k) = dv := ⟨_, rfl⟩
        have D6 : Calls Tryz.prog 73 #[ea.v, eb.v, (outP k).v] wc fun e w' => e = .returned (.int .i64 (detM ea eb (outP k))) ∧ Below wc.heap.size wc w' := D5 wc
        rw [hdv] at D6 HFk
        clear hdv D5
        go_wp2_with fail
        refine D6.mono ?_
        rintro e w1 ⟨rfl, k1⟩
        have B1 := bvia hbel k1
        have L1 := (Blk.mk cq fq zq).call k1
        have L2 := (Blk.mk ce fe ze).call k1
        have L3 := (Blk.mk cr frz zr).call k1
        obtain ⟨co1, fo1, zo1⟩ := (Blk.mk co fo zo).call k1
        obtain ⟨cr1, fr1, zr1⟩ := L3
        clear k1 cq fq zq ce fe ze cr frz zr co fo hbel
        cases al
        · have HE : Hid (fm = farL fr (l.length + 2 - (k + 1)) (k + 1)) := HB.out.trans (HC.out.trans (if_neg (by rw [HFk.out]; simp)))
          clear HB HC HFk
          go_wp2
          go_roundw
          case rel => exact ⟨k + 1, by go_num, by omega, L1, L2, Blk.mk cr1 fr1 zr1, B1, HE⟩
          case measure => simp [intOf]; omega
        · by_cases hd : dv = 0
          · have HE : Hid (fm = farL fr (l.length + 2 - (k + 1)) (k + 1)) := HB.out.trans (HC.out.trans (if_neg (by rw [HFk.out]; simp [hd])))
            have hb : (dv != 0) = false := by simpa using hd
            clear HB HC HFk
            go_wp2
            go_roundw
            case rel => exact ⟨k + 1, by go_num, by omega, L1, L2, Blk.mk cr1 fr1 zr1, B1, HE⟩
            case measure => simp [intOf]; omega
          · have HE : Hid (fm = outP k) := HB.out.trans (HC.out.trans (if_pos (by rw [HFk.out]; simp [hd])))
            have hb : (dv != 0) = true := by simpa using hd
            clear HB HC HFk
            go_wp2
            exact bodyPost_ret (v := Pt.v ⟨-65, k, 1⟩) (by simp [results, Tryz.results86, go_sem, cr1, fr1]) rfl ⟨by rw [HE.out]; rfl, below_set3 (o := 0) B1 (by omega)⟩
    · have HE : Hid (fm = outP 0) := by rw [HB.out, show l.length + 2 - k = 0 by omega]; exact hide rfl
      have hki : ¬ (k : Int) ≤ (l.length : Int) + 1 := by omega
      go_wp2
      exact bodyPost_ret (v := Pt.v ⟨-65, 0, 1⟩) (by simp [results, Tryz.results86, go_sem, cr, frz]) rfl ⟨by rw [HE.out]; rfl, below_set3 (o := 0) hbel (by omega)⟩
end Go.Proofs.YtnkcbephceollaaGreat
