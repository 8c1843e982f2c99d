import Derived.Test.YtnkcbephceollaaV6
import Derived.Test.YtnkcbephceollaaQ31
import Derived.Test.YtnkcbephceollaaQ38
import Derived.Test.YtnkcbephceollaaF4
import Derived.Deep.QuietTactic
import Derived.BigQuiet
namespace Go.Proofs.Ytnkcbephceollaa
open Go.RowKit
set_option linter.unusedSimpArgs false
set_option linter.unusedVariables false

theorem sfold_len' (e : Pt × Pt) : ∀ (F : List (Pt × Pt)) (s : List Pt), (F.foldl (fun s f => stepM s (meetM e.1 e.2 f.1 f.2)) s).length ≤ s.length + 2 * F.length
  | [], s => by simp
  | f :: F, s => by
    have h1 := sfold_len' e F (stepM s (meetM e.1 e.2 f.1 f.2))
    have h2 := step_len s (meetM e.1 e.2 f.1 f.2)
    rw [List.foldl_cons, List.length_cons]; omega
theorem ofold_len' (E : List (Pt × Pt)) : ∀ (F : List (Pt × Pt)) (s : List Pt), (F.foldl (fun s e => E.foldl (fun s f => stepM s (meetM e.1 e.2 f.1 f.2)) s) s).length ≤ s.length + F.length * (2 * E.length)
  | [], s => by simp
  | e :: F, s => by
    have h1 := ofold_len' E F (E.foldl (fun s f => stepM s (meetM e.1 e.2 f.1 f.2)) s)
    have h2 := sfold_len' e E s
    rw [List.foldl_cons, List.length_cons, Nat.succ_mul]; omega
theorem spots_few {E : List (Pt × Pt)} (h : E.length ≤ 24) : (spotsM E).length ≤ 1152 := by
  have h1 := ofold_len' E E []
  have h2 : E.length * (2 * E.length) ≤ 24 * 48 := Nat.mul_le_mul h (by omega)
  have e : spotsM E = E.foldl (fun s e => E.foldl (fun s f => stepM s (meetM e.1 e.2 f.1 f.2)) s) [] := rfl
  rw [e]
  rw [List.length_nil] at h1; omega
theorem pairs_few (E : List (Pt × Pt)) : ∀ S : List Pt, (pairsL E S).length ≤ E.length * S.length
  | [] => by simp [pairsL]
  | p :: S => by
    have h1 := pairs_few E S
    have h2 := neigh_len' p S E
    have e : pairsL E (p :: S) = (neighM p S E).map (fun q => (p, q)) ++ pairsL E S := rfl
    rw [e, List.length_append, List.length_map, List.length_cons, Nat.mul_succ]; omega
theorem pairs_gd {E : List (Pt × Pt)} : ∀ {S : List Pt}, (∀ s ∈ S, Gd s) → ∀ x ∈ pairsL E S, Gd x.1 ∧ Gd x.2
  | [], _, x, hx => by simp [pairsL] at hx
  | p :: S, h, x, hx => by
    have e : pairsL E (p :: S) = (neighM p S E).map (fun q => (p, q)) ++ pairsL E S := rfl
    rw [e] at hx
    rcases List.mem_append.1 hx with hx | hx
    · obtain ⟨q, hq, rfl⟩ := List.mem_map.1 hx
      exact ⟨h p List.mem_cons_self, neigh_gd (p := p) (fun s hs => h s (List.mem_cons_of_mem _ hs)) E [] (fun x hx => by cases hx) q hq⟩
    · exact pairs_gd (fun s hs => h s (List.mem_cons_of_mem _ hs)) x hx
theorem pieces_few {A B : List (List Pt)} (nA : (edgesM A).length ≤ 12) (nB : (edgesM B).length ≤ 12) : (piecesM A B).length ≤ 27648 := by
  unfold piecesM
  have hE : (edgesM A ++ edgesM B).length ≤ 24 := by rw [List.length_append]; omega
  generalize edgesM A ++ edgesM B = E at *
  have h1 := pairs_few E (spotsM E)
  have h2 : E.length * (spotsM E).length ≤ 24 * 1152 := Nat.mul_le_mul hE (spots_few hE)
  rw [List.length_map]; omega
theorem pieces_gd {A B : List (List Pt)} (sA : Sound A) (sB : Sound B) : ∀ x ∈ piecesM A B, Gd x.p ∧ Gd x.q := fun x hx => by
  unfold piecesM at hx
  obtain ⟨y, hy, rfl⟩ := List.mem_map.1 hx
  exact pairs_gd (fun s hs => gd_nice ((spots_spec (good_both sA sB)).1.nc s hs)) y hy

set_option maxHeartbeats 1000000 in
theorem Clip_any (op : Int) (va vb : Value) (A B : List (List Pt)) (w : World) (hA : PolyAt w va A) (hB : PolyAt w vb B) :
    Calls Try.prog 27 #[.int .i64 op, va, vb] w fun e w' => ∃ v' vs, e = .returned (.tuple #[v', .int .i64 (clipM op A B).2]) ∧ OwnR w' w.heap.size v' (clipM op A B).1 vs ∧ Below w.heap.size w w' := by
  by_cases h0 : op < 0 ∨ op > 4
  · have H : Hid (clipM op A B = ([], 6)) := if_pos h0
    by_cases h1 : op < 0
    · go_enter Try.func27, Try.ntmps27
      go_wp2
      go_ret2
      exact ⟨_, [], by rw [H.out]; rfl, by rw [H.out]; exact OwnR.nil _ _, Below.refl _ _⟩
    · have h2 : op > 4 := by omega
      have h1' : ¬ op < 0 := h1
      have h2' : (4 : Int) < op := h2
      clear h0
      have HF : Hid (∃ v' vs, Ending.returned (.tuple #[.slice none 0 0, .int .i64 6]) = Ending.returned (.tuple #[v', .int .i64 (clipM op A B).2]) ∧ OwnR w w.heap.size v' (clipM op A B).1 vs ∧ Below w.heap.size w w) := hide ⟨_, [], by rw [H.out], by rw [H.out]; exact OwnR.nil _ _, Below.refl _ _⟩
      go_enter Try.func27, Try.ntmps27
      go_wp2
      go_ret2
      first
        | exact HF.out
        | exact ⟨_, by rw [H.out]; rfl, ⟨[], by rw [H.out]; exact OwnR.nil _ _⟩, Below.refl _ _⟩
  · have H1 : Hid (clipM op A B = if bothM A B ≠ 0 then ([], bothM A B) else (ringsM (bordM op (piecesM A B)), 0)) := if_neg h0
    have l1 : ¬ op < 0 := fun h => h0 (.inl h)
    have l2 : ¬ (4 : Int) < op := fun h => h0 (.inr h)
    clear h0
    by_cases h : bothM A B = 0
    · have H : Hid (clipM op A B = (ringsM (bordM op (piecesM A B)), 0)) := by rw [H1.out, if_neg (by simpa using h)]; exact hide rfl
      obtain ⟨c1, c2⟩ := both_zero h
      have hpf := pieces_few (check_few c1) (check_few c2)
      have HPG := hide (pieces_gd (sound_of c1) (sound_of c2))
      have C := hide (fun wz (k1 : PolyAt wz va A) (k2 : PolyAt wz vb B) => cutPieces_any va vb A B wz k1 k2 (sound_of c1) (sound_of c2) (check_few c1) (check_few c2))
      generalize clipM op A B = res at *
      clear c1 c2 H1
      go_enter Try.func27, Try.ntmps27
      go_wp2_with fail
      refine (checkBoth_any va vb A B _ hA hB).mono ?_
      rintro e w1 ⟨rfl, k⟩
      rw [h]
      go_wp2_with fail
      refine (C.out _ (hA.later k) (hB.later k)).mono ?_
      rintro e w2 ⟨v', rfl, o, k2⟩
      generalize piecesM A B = P at *
      have CR := hide (Rings_any op v' P w2 (pcs_of_own o (by unfold maxLen; omega)) (by omega) HPG.out)
      have k12 := bvia k k2
      clear o C
      go_wp2_with fail
      refine CR.out.mono ?_
      rintro e w3 ⟨rv, vs, rfl, o3, k3⟩
      have O3 := hide (o3.mono (by have := k12.size; omega))
      have K3 := hide (bvia k12 k3)
      clear o3 k3 CR k12 k k2
      go_wp2
      go_ret2
      exact ⟨rv, vs, by rw [H.out]; rfl, by rw [H.out]; exact O3.out, K3.out⟩
    · have H : Hid (clipM op A B = ([], bothM A B)) := by rw [H1.out, if_pos h]; exact hide rfl
      have h' : (bothM A B != 0) = true := by simpa using h
      clear H1
      generalize clipM op A B = res at *
      go_enter Try.func27, Try.ntmps27
      go_wp2_with fail
      refine (checkBoth_any va vb A B _ hA hB).mono ?_
      rintro e w1 ⟨rfl, k⟩
      go_wp2
      go_ret2
      exact ⟨_, [], by rw [H.out]; rfl, by rw [H.out]; exact OwnR.nil _ _, k⟩
end Go.Proofs.Ytnkcbephceollaa
namespace Go.Proofs.Ytnkcbephceollaa
open Go.RowKit
set_option linter.unusedSimpArgs false
set_option linter.unusedVariables false

/-- Rings that are few and short enough, of good points. -/
structure FewR (R : List (List Pt)) : Prop where
  few : R.length ≤ 100000
  short : ∀ k, k < R.length → (R.getD k []).length ≤ 100000
  good : ∀ q ∈ R, ∀ p ∈ q, Gd p

theorem rings_short {L : List (Pt × Pt)} : ∀ i, ∀ q ∈ (ringsN L i).1, q.length ≤ L.length + 1
  | 0, q, hq => by simp [ringsN] at hq
  | i + 1, q, hq => by
    have e : (ringsN L (i + 1)).1 = if (walkM L (nextsM L) (L.length + 1) (ringsN L i).2 i).1.length > 0 then insL (ringsN L i).1 (leastL (walkM L (nextsM L) (L.length + 1) (ringsN L i).2 i).1 (walkM L (nextsM L) (L.length + 1) (ringsN L i).2 i).1.length) else (ringsN L i).1 := rfl
    rw [e] at hq
    split at hq
    · rcases insL_mem hq with hq | hq
      · rw [hq]
        exact Nat.le_trans (least_len _ _ (Nat.le_refl _)) (walk_len L (nextsM L) (L.length + 1) (ringsN L i).2 i)
      · exact rings_short i q hq
    · exact rings_short i q hq
/-- What comes out of Clip is few and short, of good points. -/
theorem clip_few (op : Int) (A B : List (List Pt)) : FewR (clipM op A B).1 := by
  unfold clipM
  split
  · exact ⟨by simp, fun k hk => by simp at hk, fun q hq => by simp at hq⟩
  split
  · exact ⟨by simp, fun k hk => by simp at hk, fun q hq => by simp at hq⟩
  rename_i h
  have h0 : bothM A B = 0 := Decidable.byContradiction h
  obtain ⟨c1, c2⟩ := both_zero h0
  have hpf := pieces_few (check_few c1) (check_few c2)
  have hl := bord_len op (piecesM A B)
  have hG : GdE (bordM op (piecesM A B)) := fun j hj => by
    obtain ⟨x, hx, h⟩ := bord_mem (getD_mem hj (zP, zP))
    have hg := pieces_gd (sound_of c1) (sound_of c2) x hx
    rcases h with h | h
    · rw [h]; exact hg
    · rw [h]; exact hg.symm
  generalize bordM op (piecesM A B) = L at *
  show FewR (ringsM L)
  unfold ringsM
  exact ⟨by have := rings_len L L.length; omega, fun k hk => by have := rings_short (L := L) L.length _ (getD_mem hk []); omega, rings_good hG L.length⟩
/-- Rings of one's own, as a polygon. -/
theorem OwnR.poly {w : World} {base : Nat} {v : Value} {R : List (List Pt)} {vs : List Value} (h : OwnR w base v R vs) (hn : R.length ≤ maxLen) : PolyAt w v R := by
  obtain ⟨a, cap, rfl, hag, hpos, hm⟩ := own_form h.row
  rcases h.row.2 with ⟨e, h0⟩ | ⟨g, cp, cur, e, hb, hh, h1, h2, _⟩
  · refine ⟨a, cap, rfl, ?_, ?_, fun i hi => by omega⟩
    · simp at e; omega
    · simp at e; unfold maxLen; omega
  · simp at e
    obtain ⟨rfl, rfl⟩ := e
    refine ⟨_, cap, rfl, h1, h2, fun i hi => ⟨g, 0, vs.getD i nilV, rfl, (h.row.lt g rfl).2, ?_, ring_of_own (h.each i hi) (by have := h.small i hi; unfold maxLen; omega)⟩⟩
    rw [Nat.zero_add, own_cell h.row g rfl i (by omega), List.getD_eq_getElem?_getD, List.getElem?_eq_getElem (by rw [h.len]; exact hi)]; rfl
end Go.Proofs.Ytnkcbephceollaa
namespace Go.Proofs.Ytnkcbephceollaa
open Go.RowKit
set_option linter.unusedSimpArgs false
set_option linter.unusedVariables false

theorem OwnR.snoc {w w' : World} {base : Nat} {v V rv : Value} {R : List (List Pt)} {r : List Pt} {vs : List Value} (h : OwnR w base v R vs) (hr : w.ownsRow base 25 3 rv r.length (ptCells r)) (hap : ∀ j g, j < R.length → (vs.getD j nilV).ownBlock = some g → rv.ownBlock ≠ some g) (hrl : r.length ≤ 2000000)
    (k : Kp (fun b => v.ownBlock = some b) w w') (hrow : w'.ownsRow base 44 1 V (R.length + 1) (vs ++ [rv])) : OwnR w' base V (R ++ [r]) (vs ++ [rv]) := by
  have e1 : vs.take R.length ++ rv :: vs.drop R.length = vs ++ [rv] := by rw [← h.len, List.take_length, List.drop_length]
  have e2 : R.take R.length ++ r :: R.drop R.length = R ++ [r] := by rw [List.take_length, List.drop_length]
  have := h.ins (i := R.length) hr hap hrl (Nat.le_refl _) k (by rw [e1]; exact hrow)
  rw [e1, e2] at this; exact this
theorem tmod_nat (a b : Nat) : ((a : Int)).tmod (b : Int) = ((a % b : Nat) : Int) := by
  rw [Int.tmod_eq_emod_of_nonneg (Int.natCast_nonneg _)]; rfl
/-- Rings beside a list of rings that grows. -/
theorem OwnR.aside {w w1 : World} {base base' n2 : Nat} {v v2 : Value} {R : List (List Pt)} {vs xs2 : List Value} (h : OwnR w base v R vs) (h2 : w.ownsRow base' 44 1 v2 n2 xs2) (hne : ∀ g, v.ownBlock = some g → v2.ownBlock ≠ some g) (k : Kp (fun b => v2.ownBlock = some b) w w1) : OwnR w1 base v R vs :=
  ⟨h.len, Kp.own h.row k hne, fun j hj => Kp.own (h.each j hj) k (own_apart (h.each j hj) h2 (by decide)), h.apart, h.small⟩
theorem own_four (w : World) (base : Nat) (hb : base ≤ w.heap.size) (p q r s : Pt) : (w.alloc (.cells #[.int .i64 p.x, .int .i64 p.y, .int .i64 p.d, .int .i64 q.x, .int .i64 q.y, .int .i64 q.d, .int .i64 r.x, .int .i64 r.y, .int .i64 r.d, .int .i64 s.x, .int .i64 s.y, .int .i64 s.d] 25)).ownsRow base 25 3 (.slice (some ⟨w.heap.size, 0, none⟩) 4 4) 4 (ptCells [p, q, r, s]) :=
  ⟨rfl, .inr ⟨w.heap.size, 4, _, rfl, hb, heap_alloc_new w _, Nat.le_refl _, by decide, rfl, rfl⟩⟩
end Go.Proofs.Ytnkcbephceollaa
namespace Go.Proofs.Ytnkcbephceollaa
open Go.RowKit
set_option linter.unusedSimpArgs false
set_option linter.unusedVariables false

theorem tmod_dvd {a n : Int} (h : a.tmod n = 0) : n ∣ a := Int.dvd_of_tmod_eq_zero h
/-- No number from 2 on divides all three. -/
theorem nice_low {p : Pt} (h : Nice p) {k : Int} (hk : 2 ≤ k) : (p.d.tmod k == 0 && (p.x.tmod k == 0 && p.y.tmod k == 0)) = false := by
  by_cases c : p.d.tmod k = 0 ∧ p.x.tmod k = 0 ∧ p.y.tmod k = 0
  · have g := gcd_dv (tmod_dvd c.2.1) (tmod_dvd c.2.2) (tmod_dvd c.1)
    rw [h.2.2] at g
    have := Int.le_of_dvd (by decide) g
    omega
  · rw [Bool.eq_false_iff]
    intro e
    simp at e
    exact c ⟨e.1, e.2.1, e.2.2⟩

set_option maxRecDepth 100000 in
set_option maxHeartbeats 1000000 in
theorem lowest_any (p : Pt) (w : World) (hp : Nice p) :
    Calls Try.prog 49 #[p.v] w fun e w' => e = .returned (.bool true) ∧ Below w.heap.size w w' := by
  have hN := hide (fun (k : Int) (hk : 2 ≤ k) => nice_low hp hk)
  have hg := hp.1
  unfold goodB at hg
  have hg' := of_decide_eq_true hg
  obtain ⟨g1, g2, g3, g4, g5, g6⟩ := hg'
  have q1 : ¬ p.d < 1 := by omega
  have q2 : ¬ 32768 < p.d := by omega
  have q3 : ¬ p.x < -64 * p.d := by omega
  have q4 : ¬ 64 * p.d < p.x := by omega
  have q5 : ¬ p.y < -64 * p.d := by omega
  have q6 : ¬ 64 * p.d < p.y := by omega
  clear hp hg
  go_enter Try.func49, Try.ntmps49
  go_wp2_with fail
  go_loopw [3] (fun i w' => ∃ (k : Nat), i = .int .i64 k ∧ 2 ≤ k ∧ (k : Int) ≤ 2 + p.d ∧ Blk w' w.heap.size #[.int .i64 p.x, .int .i64 p.y, .int .i64 p.d] ∧ Below w.heap.size w w') (fun i _ => (p.d + 3 - intOf i).toNat)
  case atStart => exact ⟨2, rfl, by omega, by omega, Blk.new w _ _, (Below.refl _ _).alloc (Nat.le_refl _) _⟩
  case round =>
    obtain ⟨k, rfl, h2, hk, hblk, hbel⟩ := hrel
    obtain ⟨c1, f1, z1⟩ := hblk
    by_cases hlt : (k : Int) ≤ p.d
    · have hn := hN.out k (by omega)
      have hk0 : (k : Int) ≠ 0 := by omega
      have hk1 : (k : Int) ≠ -1 := by omega
      have ed : p.d.tmod k = p.d % k := Int.tmod_eq_emod_of_nonneg (by omega)
      rw [ed] at hn
      clear ed
      by_cases d1 : (p.d % k == 0) = true
      · by_cases d2 : (p.x.tmod k == 0) = true
        · have d3 : (p.y.tmod k == 0) = false := by rw [d1, d2] at hn; simpa using hn
          go_wp2
          go_roundw
          case rel => exact ⟨k + 1, by go_num, by omega, by omega, ⟨c1, f1, z1⟩, hbel⟩
          case measure => simp [intOf]; omega
        · have d2' : (p.x.tmod k == 0) = false := by simpa using d2
          clear d2
          go_wp2
          go_roundw
          case rel => exact ⟨k + 1, by go_num, by omega, by omega, ⟨c1, f1, z1⟩, hbel⟩
          case measure => simp [intOf]; omega
      · have d1' : (p.d % k == 0) = false := by simpa using d1
        clear d1
        go_wp2
        go_roundw
        case rel => exact ⟨k + 1, by go_num, by omega, by omega, ⟨c1, f1, z1⟩, hbel⟩
        case measure => simp [intOf]; omega
    · go_wp2
      go_ret
      exact ⟨rfl, hbel⟩
end Go.Proofs.Ytnkcbephceollaa
