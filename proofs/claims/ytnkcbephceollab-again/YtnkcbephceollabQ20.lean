import Derived.Test.YtnkcbephceollabQ19
namespace Go.Proofs.Ytnkcbephceollab
open Go.RowKit
set_option linter.unusedSimpArgs false
set_option linter.unusedVariables false

/-- The error of the first, else that of the second. -/
def bothM (A B : List (List Pt)) : Int := if (checkM A).1 ≠ 0 then (checkM A).1 else (checkM B).1
set_option maxHeartbeats 1000000 in
theorem checkBoth_any (va vb : Value) (A B : List (List Pt)) (w : World) (hA : PolyAt w va A) (hB : PolyAt w vb B) :
    Calls Try.prog 22 #[va, vb] w fun e w' => e = .returned (.int .i64 (bothM A B)) ∧ Below w.heap.size w w' := by
  by_cases h : (checkM A).1 = 0
  · have H : Hid (bothM A B = (checkM B).1) := if_neg (by simpa using h)
    have h' : ((checkM A).1 != 0) = false := by simpa using h
    go_enter Try.func22, Try.ntmps22
    go_wp2_with fail
    refine (polyCheck_any va A _ hA).mono ?_
    rintro e w1 ⟨rfl, k⟩
    have B1 := hB.later k
    go_wp2_with fail
    refine (polyCheck_any vb B _ B1).mono ?_
    rintro e w2 ⟨rfl, k2⟩
    go_wp2
    go_ret
    exact ⟨ret_int H.out.symm, bvia k k2⟩
  · have H : Hid (bothM A B = (checkM A).1) := if_pos h
    have h' : ((checkM A).1 != 0) = true := by simpa using h
    go_enter Try.func22, Try.ntmps22
    go_wp2_with fail
    refine (polyCheck_any va A _ hA).mono ?_
    rintro e w1 ⟨rfl, k⟩
    go_wp2
    go_ret
    exact ⟨ret_int H.out.symm, k⟩
theorem check_few {P : List (List Pt)} (h : (checkM P).1 = 0) : (edgesM P).length ≤ 12 := by
  have u : checkM P = if 4 < P.length then (1, 0) else if badM 12 0 P ≠ -1 then (2, badM 12 0 P) else if findM (fun e : Pt × Pt => !gridB e.1) 0 (edgesM P) ≠ -1 then (3, findM (fun e : Pt × Pt => !gridB e.1) 0 (edgesM P)) else if findM (fun e : Pt × Pt => eqB e.1 e.2) 0 (edgesM P) ≠ -1 then (4, findM (fun e : Pt × Pt => eqB e.1 e.2) 0 (edgesM P)) else if findM (sharesM (edgesM P)) 0 (List.range (edgesM P).length) ≠ -1 then (5, findM (sharesM (edgesM P)) 0 (List.range (edgesM P).length)) else (0, 0) := rfl
  rw [u] at h
  by_cases c1 : 4 < P.length
  · rw [if_pos c1] at h; simp at h
  rw [if_neg c1] at h
  by_cases c2 : badM 12 0 P ≠ -1
  · rw [if_pos c2] at h; simp at h
  have := badM_none P 12 0 (by decide) (by omega) (by decide)
  omega
/-- What the program answers: the pieces, none with an error. -/
def pcsM (A B : List (List Pt)) : List Pc := if bothM A B ≠ 0 then [] else piecesM A B
theorem both_zero {A B : List (List Pt)} (h : bothM A B = 0) : (checkM A).1 = 0 ∧ (checkM B).1 = 0 := by
  unfold bothM at h
  split at h
  · rename_i k; exact absurd h k
  · rename_i k; exact ⟨by simpa using k, h⟩
set_option maxHeartbeats 1000000 in
theorem Pieces_any (va vb : Value) (A B : List (List Pt)) (w : World) (hA : PolyAt w va A) (hB : PolyAt w vb B) :
    Calls Try.prog 21 #[va, vb] w fun e w' => ∃ v', e = .returned (.tuple #[v', .int .i64 (bothM A B)]) ∧ w'.ownsRow w.heap.size 65 10 v' (pcsM A B).length (pcCells (pcsM A B)) ∧ Below w.heap.size w w' := by
  by_cases h : bothM A B = 0
  · have H : Hid (pcsM A B = piecesM A B) := if_neg (by simpa using h)
    obtain ⟨c1, c2⟩ := both_zero h
    have C := hide (fun wz (k1 : PolyAt wz va A) (k2 : PolyAt wz vb B) => cutPieces_any va vb A B wz k1 k2 (sound_of c1) (sound_of c2) (check_few c1) (check_few c2))
    clear c1 c2
    go_enter Try.func21, Try.ntmps21
    go_wp2_with fail
    refine (checkBoth_any va vb A B _ hA hB).mono ?_
    rintro e w1 ⟨rfl, k⟩
    rw [h]
    go_wp2_with fail
    refine (C.out _ (hA.later k) (hB.later k)).mono ?_
    rintro e w2 ⟨v', rfl, o, k2⟩
    go_wp2
    go_ret2
    exact ⟨v', by rw [h]; rfl, by rw [H.out]; exact own_mono o k.size, bvia k k2⟩
  · have H : Hid (pcsM A B = []) := if_pos h
    have h' : (bothM A B != 0) = true := by simpa using h
    go_enter Try.func21, Try.ntmps21
    go_wp2_with fail
    refine (checkBoth_any va vb A B _ hA hB).mono ?_
    rintro e w1 ⟨rfl, k⟩
    go_wp2
    go_ret2
    exact ⟨_, rfl, by rw [H.out]; exact World.ownsRow_nil _ _ _ _, k⟩
end Go.Proofs.Ytnkcbephceollab
namespace Go.Proofs.Ytnkcbephceollab
set_option linter.unusedSimpArgs false
set_option linter.unusedVariables false

/-! The model of Clip, as the program goes about it. -/
def inM (op : Int) (a b : Bool) : Bool :=
  if op = 0 then a && b else if op = 1 then a || b else if op = 2 then a && !b else if op = 3 then b && !a else a != b
def bordOf (op : Int) (x : Pc) : List (Pt × Pt) :=
  (if (inM op x.la x.lb && !inM op x.ra x.rb) = true then [(x.p, x.q)] else []) ++ (if (inM op x.ra x.rb && !inM op x.la x.lb) = true then [(x.q, x.p)] else [])
def bordM (op : Int) (l : List Pc) : List (Pt × Pt) := l.flatMap (bordOf op)
theorem bord_take (op : Int) (l : List Pc) (i : Nat) (hi : i < l.length) (d : Pc) : bordM op (l.take (i + 1)) = bordM op (l.take i) ++ bordOf op (l.getD i d) := by
  unfold bordM
  rw [List.take_succ_eq_append_getElem hi, List.flatMap_append, List.getD_eq_getElem?_getD, List.getElem?_eq_getElem hi]
  simp
theorem bordOf_len (op : Int) (x : Pc) : (bordOf op x).length ≤ 1 := by
  unfold bordOf
  cases inM op x.la x.lb <;> cases inM op x.ra x.rb <;> simp
theorem bord_len (op : Int) : ∀ l : List Pc, (bordM op l).length ≤ l.length
  | [] => by simp [bordM]
  | x :: l => by
    have := bordOf_len op x
    have := bord_len op l
    have e : bordM op (x :: l) = bordOf op x ++ bordM op l := by simp [bordM]
    rw [e, List.length_append, List.length_cons]; omega
theorem bord_mem {op : Int} {l : List Pc} {e : Pt × Pt} (h : e ∈ bordM op l) : ∃ x ∈ l, e = (x.p, x.q) ∨ e = (x.q, x.p) := by
  unfold bordM at h
  obtain ⟨x, hx, h⟩ := List.mem_flatMap.1 h
  refine ⟨x, hx, ?_⟩
  unfold bordOf at h
  rcases List.mem_append.1 h with h | h
  · split at h
    · exact .inl (List.mem_singleton.1 h)
    · simp at h
  · split at h
    · exact .inr (List.mem_singleton.1 h)
    · simp at h
/-- Who turns clockwise about the end of e, from the direction in which e lies, looks to p before he looks to q. -/
def aheadM (p q : Pt) (e : Pt × Pt) : Bool :=
  if decide (detM e.2 e.1 p < 0) != decide (detM e.2 e.1 q < 0) then decide (detM e.2 e.1 p < 0) else decide (detM e.2 p q < 0)
abbrev edg (L : List (Pt × Pt)) (k : Nat) : Pt × Pt := L.getD k (zP, zP)
/-- The border behind border i, among the first k. -/
def folM (L : List (Pt × Pt)) (i : Nat) : Nat → Nat
  | 0 => i
  | k + 1 => if cmpM (edg L k).1 (edg L i).2 ≠ 0 then folM L i k else if folM L i k = i ∨ aheadM (edg L k).2 (edg L (folM L i k)).2 (edg L i) = true then k else folM L i k
theorem fol_lt {L : List (Pt × Pt)} {i : Nat} (hi : i < L.length) : ∀ k, k ≤ L.length → folM L i k < L.length
  | 0, _ => hi
  | k + 1, h => by
    have ih := fol_lt hi k (by omega)
    unfold folM
    split
    · exact ih
    · split
      · omega
      · exact ih
def nextsM (L : List (Pt × Pt)) : List Nat := (List.range L.length).map (fun i => folM L i L.length)
theorem nexts_len (L : List (Pt × Pt)) : (nextsM L).length = L.length := by simp [nextsM]
theorem nexts_at (L : List (Pt × Pt)) (i : Nat) (hi : i < L.length) : (nextsM L).getD i 0 = folM L i L.length := by
  unfold nextsM
  rw [List.getD_eq_getElem?_getD, List.getElem?_map, List.getElem?_range hi]; rfl
theorem nexts_lt (L : List (Pt × Pt)) (i : Nat) (hi : i < L.length) : (nextsM L).getD i 0 < L.length := by
  rw [nexts_at L i hi]; exact fol_lt hi _ (Nat.le_refl _)
def turnB (e f : Pt × Pt) : Bool := decide (detM e.1 e.2 f.2 ≠ 0)
/-- One ring: its points from border k on, and which borders are taken then. -/
def walkM (L : List (Pt × Pt)) (N : List Nat) : Nat → List Bool → Nat → List Pt × List Bool
  | 0, t, _ => ([], t)
  | f + 1, t, k => if t.getD k false = true then ([], t) else ((if turnB (edg L k) (edg L (N.getD k 0)) = true then [(edg L k).2] else []) ++ (walkM L N f (t.set k true) (N.getD k 0)).1, (walkM L N f (t.set k true) (N.getD k 0)).2)
/-- How two lists stand in the order of lists: as CompareLists tells it. -/
def clM : List Pt → List Pt → Int
  | [], m => -(m.length : Int)
  | _ :: l, [] => (l.length : Int) + 1
  | p :: l, q :: m => if cmpM p q ≠ 0 then cmpM p q else clM l m
def rotL (r : List Pt) (i : Nat) : List Pt := r.drop i ++ r.take i
/-- The least way to write the ring, among the first i. -/
def leastL (r : List Pt) : Nat → List Pt
  | 0 => []
  | i + 1 => if i = 0 ∨ clM (rotL r i) (leastL r i) < 0 then rotL r i else leastL r i
def placeL (R : List (List Pt)) (r : List Pt) : Nat → Nat
  | 0 => 0
  | i + 1 => if clM r (R.getD i []) < 0 then placeL R r i else i + 1
def insL (R : List (List Pt)) (r : List Pt) : List (List Pt) := R.take (placeL R r R.length) ++ r :: R.drop (placeL R r R.length)
/-- One step of Rings. -/
def stepR (L : List (Pt × Pt)) (N : List Nat) (st : List (List Pt) × List Bool) (i : Nat) : List (List Pt) × List Bool :=
  let w := walkM L N (L.length + 1) st.2 i
  (if w.1.length > 0 then insL st.1 (leastL w.1 w.1.length) else st.1, w.2)
def ringsN (L : List (Pt × Pt)) : Nat → List (List Pt) × List Bool
  | 0 => ([], List.replicate L.length false)
  | i + 1 => stepR L (nextsM L) (ringsN L i) i
def ringsM (L : List (Pt × Pt)) : List (List Pt) := (ringsN L L.length).1
/-- What Clip answers. -/
def clipM (op : Int) (A B : List (List Pt)) : List (List Pt) × Int :=
  if op < 0 ∨ op > 4 then ([], 6) else if bothM A B ≠ 0 then ([], bothM A B) else (ringsM (bordM op (piecesM A B)), 0)
end Go.Proofs.Ytnkcbephceollab
namespace Go.Proofs.Ytnkcbephceollab
open Go.RowKit
set_option linter.unusedSimpArgs false
set_option linter.unusedVariables false

set_option maxHeartbeats 1000000 in
theorem isIn_any (op : Int) (a b : Bool) (w : World) :
    Calls Try.prog 53 #[.int .i64 op, .bool a, .bool b] w fun e w' => e = .returned (.bool (inM op a b)) ∧ w' = w := by
  by_cases h0 : op = 0
  · subst h0
    cases a <;> cases b <;>
      (go_enter Try.func53, Try.ntmps53
       go_wp2
       go_ret
       exact ⟨rfl, rfl⟩)
  by_cases h1 : op = 1
  · subst h1
    cases a <;> cases b <;>
      (go_enter Try.func53, Try.ntmps53
       go_wp2
       go_ret
       exact ⟨rfl, rfl⟩)
  by_cases h2 : op = 2
  · subst h2
    cases a <;> cases b <;>
      (go_enter Try.func53, Try.ntmps53
       go_wp2
       go_ret
       exact ⟨rfl, rfl⟩)
  by_cases h3 : op = 3
  · subst h3
    cases a <;> cases b <;>
      (go_enter Try.func53, Try.ntmps53
       go_wp2
       go_ret
       exact ⟨rfl, rfl⟩)
  · have H : Hid (inM op a b = (a != b)) := by unfold inM; rw [if_neg h0, if_neg h1, if_neg h2, if_neg h3]; exact hide rfl
    go_enter Try.func53, Try.ntmps53
    go_wp2
    go_ret
    exact ⟨ret_bool H.out.symm, rfl⟩

set_option maxHeartbeats 1000000 in
theorem isMetAhead_any (p q : Pt) (e : Pt × Pt) (w : World) (hp : Gd p) (hq : Gd q) (h1 : Gd e.1) (h2 : Gd e.2) :
    Calls Try.prog 55 #[p.v, q.v, sg e.1 e.2] w fun r w' => r = .returned (.bool (aheadM p q e)) ∧ Below w.heap.size w w' := by
  have HA := hide (show aheadM p q e = if decide (detM e.2 e.1 p < 0) != decide (detM e.2 e.1 q < 0) then decide (detM e.2 e.1 p < 0) else decide (detM e.2 p q < 0) from rfl)
  generalize aheadM p q e = res at *
  have C1 := fun wz => Side_any e.2 e.1 p wz h2 h1 hp
  have C2 := fun wz => Side_any e.2 e.1 q wz h2 h1 hq
  have C3 := fun wz => Side_any e.2 p q wz h2 hp hq
  generalize detM e.2 e.1 p = sp at *
  generalize detM e.2 e.1 q = sq at *
  generalize detM e.2 p q = s3 at *
  go_enter Try.func55, Try.ntmps55
  go_wp2_with fail
  refine (C1 _).mono ?_
  rintro e' w1 ⟨rfl, k⟩
  have B1 := bvia (below3 _ _ _ _) k
  have P1 := (((Blk.new w _ _).alloc _).alloc _).call k
  have Q1 := ((Blk.at (w.heap.size + 1) (by simp)).alloc _).call k
  have E1 := (Blk.at (w.heap.size + 1 + 1) (by simp)).call k
  obtain ⟨cp, fp, zp⟩ := id P1
  obtain ⟨cq, fq, zq⟩ := id Q1
  obtain ⟨ce, fe, ze⟩ := id E1
  clear k
  go_wp2_with fail
  refine (C2 _).mono ?_
  rintro e' w2 ⟨rfl, k⟩
  have B2 := bvia B1 k
  have P2 := P1.call k
  have Q2 := Q1.call k
  have E2 := E1.call k
  clear k cp fp zp cq fq zq ce fe ze P1 Q1 E1 B1
  obtain ⟨cp, fp, zp⟩ := id P2
  obtain ⟨cq, fq, zq⟩ := id Q2
  obtain ⟨ce, fe, ze⟩ := id E2
  obtain ⟨bp, hbp⟩ : ∃ x, x = decide (sp < 0) := ⟨_, rfl⟩
  obtain ⟨bq, hbq⟩ : ∃ x, x = decide (sq < 0) := ⟨_, rfl⟩
  rw [← hbp, ← hbq] at HA
  cases bp <;> cases bq
  case' false.false => have hs : ¬ sp < 0 := by simpa using hbp.symm
  case' true.true => have hs : sp < 0 := by simpa using hbp.symm
  case' false.true => have hs : ¬ sp < 0 := by simpa using hbp.symm
  case' true.false => have hs : sp < 0 := by simpa using hbp.symm
  case' false.false => have hq' : ¬ sq < 0 := by simpa using hbq.symm
  case' true.true => have hq' : sq < 0 := by simpa using hbq.symm
  case' false.true => have hq' : sq < 0 := by simpa using hbq.symm
  case' true.false => have hq' : ¬ sq < 0 := by simpa using hbq.symm
  all_goals
    have d1 := hbp.symm
    have d2 := hbq.symm
    clear hbp hbq
  case false.false =>
    have HR : Hid (res = decide (s3 < 0)) := by rw [HA.out]; simp [hide]
    go_wp2_with fail
    refine (C3 _).mono ?_
    rintro e' w3 ⟨rfl, k⟩
    have B3 := bvia B2 k
    clear k cp fp zp cq fq zq ce fe ze P2 Q2 E2 B2
    go_wp2
    go_ret
    exact ⟨ret_bool HR.out.symm, B3⟩
  case true.true =>
    have HR : Hid (res = decide (s3 < 0)) := by rw [HA.out]; simp [hide]
    go_wp2_with fail
    refine (C3 _).mono ?_
    rintro e' w3 ⟨rfl, k⟩
    have B3 := bvia B2 k
    clear k cp fp zp cq fq zq ce fe ze P2 Q2 E2 B2
    go_wp2
    go_ret
    exact ⟨ret_bool HR.out.symm, B3⟩
  case false.true =>
    have HR : Hid (res = false) := by rw [HA.out]; simp [hide]
    go_wp2
    go_ret
    exact ⟨ret_bool (by rw [HR.out]), B2⟩
  case true.false =>
    have HR : Hid (res = true) := by rw [HA.out]; simp [hide]
    go_wp2
    go_ret
    exact ⟨ret_bool (by rw [HR.out]), B2⟩

set_option maxHeartbeats 1000000 in
theorem isTurn_any (e f : Pt × Pt) (w : World) (h1 : Gd e.1) (h2 : Gd e.2) (h3 : Gd f.2) :
    Calls Try.prog 35 #[sg e.1 e.2, sg f.1 f.2] w fun r w' => r = .returned (.bool (turnB e f)) ∧ Below w.heap.size w w' := by
  have H := hide (show turnB e f = (detM e.1 e.2 f.2 != 0) by unfold turnB; cases h : detM e.1 e.2 f.2 != 0 <;> simp_all)
  generalize turnB e f = res at *
  go_enter Try.func35, Try.ntmps35
  go_wp2_with fail
  refine (Side_any e.1 e.2 f.2 _ h1 h2 h3).mono ?_
  rintro e' w1 ⟨rfl, k⟩
  have B1 := bvia (below2 _ _ _) k
  clear k
  go_wp2
  go_ret
  exact ⟨ret_bool H.out.symm, B1⟩

theorem cl_drop (l m : List Pt) (k : Nat) (hl : k < l.length) (hm : k < m.length) : clM (l.drop k) (m.drop k) = if cmpM (l.getD k zP) (m.getD k zP) ≠ 0 then cmpM (l.getD k zP) (m.getD k zP) else clM (l.drop (k + 1)) (m.drop (k + 1)) := by
  rw [List.drop_eq_getElem_cons hl, List.drop_eq_getElem_cons hm, List.getD_eq_getElem?_getD, List.getElem?_eq_getElem hl, List.getD_eq_getElem?_getD, List.getElem?_eq_getElem hm]; rfl
theorem cl_end (l m : List Pt) (k : Nat) (hl : k ≤ l.length) (hm : k ≤ m.length) (h : k = l.length ∨ k = m.length) : clM (l.drop k) (m.drop k) = (l.length : Int) - m.length := by
  rcases h with h | h
  · have e : l.drop k = [] := List.drop_of_length_le (by omega)
    rw [e]; unfold clM
    rw [List.length_drop]; omega
  · have e : m.drop k = [] := List.drop_of_length_le (by omega)
    rw [e]
    have hd := List.length_drop (i := k) (l := l)
    cases c : l.drop k with
    | nil => rw [c] at hd; simp at hd; unfold clM; simp; omega
    | cons p t => rw [c] at hd; simp at hd; unfold clM; omega

set_option maxRecDepth 100000 in
set_option maxHeartbeats 2000000 in
theorem CompareLists_any (v v' : Value) (l m : List Pt) (w : World) (hl : RingAt w v l) (hm : RingAt w v' m) (gl : ∀ p ∈ l, Gd p) (gm : ∀ p ∈ m, Gd p) :
    Calls Try.prog 57 #[v, v'] w fun e w' => e = .returned (.int .i64 (clM l m)) ∧ Below w.heap.size w w' := by
  obtain ⟨a, cap, rfl, a1, a2, a3⟩ := hl
  obtain ⟨b, bcap, rfl, b1, b2, b3⟩ := hm
  unfold maxLen at a2 b2
  have HA := hide a3
  have HB := hide b3
  have GL := hide gl
  have GM := hide gm
  clear a3 b3 gl gm
  have hl0 : (l.length : Int) ≤ 9223372036854775807 := by omega
  have hm0 : (m.length : Int) ≤ 9223372036854775807 := by omega
  have HI : Hid (clM l m = clM (l.drop 0) (m.drop 0)) := rfl
  generalize clM l m = res at *
  go_enter Try.func57, Try.ntmps57
  go_wp2_with fail
  go_loopw [5, 6, 7, 10] (fun _ _ _ iv w' => ∃ k : Nat, iv = .int .i64 k ∧ k ≤ l.length ∧ k ≤ m.length ∧ Below w.heap.size w w' ∧ Hid (res = clM (l.drop k) (m.drop k))) (fun _ _ _ iv _ => l.length - (intOf iv).toNat)
  case atStart => exact ⟨0, rfl, Nat.zero_le _, Nat.zero_le _, Below.refl _ _, HI⟩
  case round =>
    clear HI
    obtain ⟨k, rfl, hk, hk2, hbel, HR⟩ := hrel
    by_cases hlt : k < l.length
    · obtain ⟨b1', off1, rfl, hb1, hs1⟩ := HA.out k hlt
      obtain ⟨px, py, pd⟩ := hs1.later hbel hb1
      by_cases hlt2 : k < m.length
      · obtain ⟨b2', off2, rfl, hb2, hs2⟩ := HB.out k hlt2
        obtain ⟨qx, qy, qd⟩ := hs2.later (hbel.alloc hbel.size (.cells #[.int .i64 (l.getD k zP).x, .int .i64 (l.getD k zP).y, .int .i64 (l.getD k zP).d] 29)) hb2
        have C := fun wz => Compare_any (l.getD k zP) (m.getD k zP) wz (GL.out _ (getD_mem hlt zP)) (GM.out _ (getD_mem hlt2 zP))
        have HC := hide (cl_drop l m k hlt hlt2)
        generalize l.getD k zP = p at *
        generalize m.getD k zP = q at *
        have hk0 : (0 : Int) ≤ (k : Int) := Int.natCast_nonneg _
        have hk1 : (k : Int) < (m.length : Int) := by omega
        have hsz := hbel.size
        obtain ⟨W1, hW1⟩ : ∃ W, W = wr.alloc (.cells #[.int .i64 p.x, .int .i64 p.y, .int .i64 p.d] 29) := ⟨_, rfl⟩
        obtain ⟨pb, hpb⟩ : ∃ b, b = wr.heap.size := ⟨_, rfl⟩
        have B1 : Below w.heap.size w W1 := by rw [hW1]; exact hbel.alloc hbel.size _
        obtain ⟨cp, fp, zp⟩ : Blk W1 pb #[.int .i64 p.x, .int .i64 p.y, .int .i64 p.d] := by rw [hW1, hpb]; exact Blk.new wr _ _
        rw [← hW1] at qx qy qd
        clear hs1 hs2 HA HB GL GM
        go_upto_region 5 with fail
        rw [← hW1, ← hpb]
        clear hW1 hpb px py pd
        go_cut [7] (fun ov w' => ov = .int .i64 (cmpM p q) ∧ Below W1.heap.size W1 w')
        case first =>
          clear HR HC
          go_region_with (go_at_call 54; refine (C _).mono ?_; rintro e' w2 ⟨rfl, k2⟩)
          all_goals
            go_wp2_with fail
            go_meet
            case rel => exact ⟨rfl, bvia (Below.refl _ _).drew k2⟩
        case rest =>
          obtain ⟨rfl, k2⟩ := hcut
          have B2 := bvia B1 k2
          clear cp fp zp qx qy qd B1 k2 C
          generalize cmpM p q = o at *
          by_cases ho : o = 0
          · have HE : Hid (res = clM (l.drop (k + 1)) (m.drop (k + 1))) := by rw [HR.out, HC.out, if_neg (by simpa using ho)]; exact hide rfl
            clear HR HC
            go_wp2
            go_roundw
            case rel => exact ⟨k + 1, by go_num, by omega, by omega, B2, HE⟩
            case measure => simp [intOf]; omega
          · have HE : Hid (res = o) := by rw [HR.out, HC.out, if_pos ho]; exact hide rfl
            have ho' : (o != 0) = true := by simpa using ho
            clear HR HC
            go_wp2
            go_ret
            exact ⟨ret_int HE.out.symm, B2⟩
      · have ek : k = m.length := by omega
        have HE : Hid (res = (l.length : Int) - m.length) := by rw [HR.out]; exact hide (cl_end l m k hk hk2 (.inr ek))
        clear hs1 HA HB GL GM HR
        have hge : (m.length : Int) ≤ (k : Int) := by omega
        clear ek
        go_wp2
        go_ret
        exact ⟨ret_int HE.out.symm, by first | exact hbel | exact hbel.alloc hbel.size _⟩
    · have HE : Hid (res = (l.length : Int) - m.length) := by rw [HR.out]; exact hide (cl_end l m k hk hk2 (.inl (by omega)))
      clear HA HB GL GM HR
      go_wp2
      go_ret
      exact ⟨ret_int HE.out.symm, hbel⟩
abbrev pcV (p q : Pt) (a b c d : Bool) : Value := .agg #[.int .i64 p.x, .int .i64 p.y, .int .i64 p.d, .int .i64 q.x, .int .i64 q.y, .int .i64 q.d, .bool a, .bool b, .bool c, .bool d]
/-- A piece's ten cells. -/
def PceAt (w : World) (b o : Nat) (x : Pc) : Prop := ∀ t, t < 10 → w.cell? ⟨b, o + t, none⟩ = (pcCell x)[t]?
theorem PceAt.later {w w' : World} {b o : Nat} {x : Pc} {m : Nat} (h : PceAt w b o x) (hb : Below m w w') (hl : b < m) : PceAt w' b o x :=
  fun t ht => (hb.cell (p := ⟨b, o + t, none⟩) hl).trans (h t ht)
def zPc : Pc := ⟨zP, zP, false, false, false, false⟩
def PcsAt (w : World) (v : Value) (l : List Pc) : Prop :=
  ∃ (a : Option Addr) (cap : Nat), v = .slice a l.length cap ∧ l.length ≤ cap ∧ cap ≤ maxLen ∧ ∀ j, j < l.length → ∃ b off, a = some ⟨b, off, none⟩ ∧ b < w.heap.size ∧ PceAt w b (off + j * 10) (l.getD j zPc)
theorem PcsAt.later {w w' : World} {v : Value} {l : List Pc} (h : PcsAt w v l) (hb : Below w.heap.size w w') : PcsAt w' v l := by
  obtain ⟨a, cap, rfl, h1, h2, h3⟩ := h
  refine ⟨a, cap, rfl, h1, h2, fun j hj => ?_⟩
  obtain ⟨b, off, rfl, hl, hp⟩ := h3 j hj
  exact ⟨b, off, rfl, Nat.lt_of_lt_of_le hl hb.size, hp.later hb hl⟩
theorem pcCells_at (l : List Pc) (j t : Nat) (hj : j < l.length) (ht : t < 10) : (pcCells l)[j * 10 + t]? = (pcCell (l.getD j zPc))[t]? := by
  induction l generalizing j with
  | nil => simp at hj
  | cons e l ih =>
    have hc : pcCells (e :: l) = pcCell e ++ pcCells l := by simp [pcCells]
    rw [hc]
    cases j with
    | zero => rw [List.getElem?_append_left (by simp [pcCell]; omega)]; simp
    | succ j =>
      rw [List.getElem?_append_right (by simp [pcCell]; omega)]
      have : (j + 1) * 10 + t - (pcCell e).length = j * 10 + t := by simp [pcCell]; omega
      rw [this, ih j (by simpa using hj)]
      simp
theorem pcs_of_own {w : World} {base : Nat} {v : Value} {l : List Pc} (h : w.ownsRow base 65 10 v l.length (pcCells l)) (hl : l.length ≤ maxLen) : PcsAt w v l := by
  have h0 := h
  obtain ⟨_, h1⟩ := h
  rcases h1 with ⟨rfl, hn⟩ | ⟨g, cap, cur, rfl, hb, hh, hnc, hcap, _, _⟩
  · exact ⟨none, 0, by rw [hn], by omega, by unfold maxLen; omega, fun j hj => by omega⟩
  · refine ⟨some ⟨g, 0, none⟩, cap, rfl, hnc, hcap, fun j hj => ⟨g, 0, rfl, (h0.lt g rfl).2, fun t ht => ?_⟩⟩
    rw [Nat.zero_add]
    exact (h0.cellAt (j * 10 + t) (by omega)).trans (pcCells_at l j t hj ht)
abbrev Pc.v (x : Pc) : Value := pcV x.p x.q x.la x.ra x.lb x.rb
abbrev Pc.cs (x : Pc) : Array Value := #[.int .i64 x.p.x, .int .i64 x.p.y, .int .i64 x.p.d, .int .i64 x.q.x, .int .i64 x.q.y, .int .i64 x.q.d, .bool x.la, .bool x.ra, .bool x.lb, .bool x.rb]
end Go.Proofs.Ytnkcbephceollab
