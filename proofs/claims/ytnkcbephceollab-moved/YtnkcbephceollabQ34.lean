import Derived.Test.YtnkcbephceollabC4
import Derived.Test.YtnkcbephceollabF5
namespace Go.Proofs.Ytnkcbephceollab
open Go.RowKit
set_option linter.unusedSimpArgs false
set_option linter.unusedVariables false

/-- The error of the first, else that of the second. -/
def bothM (A B : List (List Pt)) : Int := if (checkM A).1 ≠ 0 then (checkM A).1 else (checkM B).1
set_option maxHeartbeats 1000000 in
theorem checkBoth_any (va vb : Value) (A B : List (List Pt)) (w : World) (hA : PolyAt w va A) (hB : PolyAt w vb B) :
    Calls Try.prog 22 #[va, vb] w fun e w' => e = .returned (.int .i64 (bothM A B)) ∧ Below w.heap.size w w' := by
  by_cases h : (checkM A).1 = 0
  · have H : Hid (bothM A B = (checkM B).1) := if_neg (by simpa using h)
    have h' : ((checkM A).1 != 0) = false := by simpa using h
    go_enter Try.func22, Try.ntmps22
    go_wp2_with fail
    refine (polyCheck_any va A _ hA).mono ?_
    rintro e w1 ⟨rfl, k⟩
    have B1 := hB.later k
    go_wp2_with fail
    refine (polyCheck_any vb B _ B1).mono ?_
    rintro e w2 ⟨rfl, k2⟩
    go_wp2
    go_ret
    exact ⟨ret_int H.out.symm, bvia k k2⟩
  · have H : Hid (bothM A B = (checkM A).1) := if_pos h
    have h' : ((checkM A).1 != 0) = true := by simpa using h
    go_enter Try.func22, Try.ntmps22
    go_wp2_with fail
    refine (polyCheck_any va A _ hA).mono ?_
    rintro e w1 ⟨rfl, k⟩
    go_wp2
    go_ret
    exact ⟨ret_int H.out.symm, k⟩
theorem check_few {P : List (List Pt)} (h : (checkM P).1 = 0) : (edgesM P).length ≤ 12 := by
  have u : checkM P = if 4 < P.length then (1, 0) else if badM 12 0 P ≠ -1 then (2, badM 12 0 P) else if findM (fun e : Pt × Pt => !gridB e.1) 0 (edgesM P) ≠ -1 then (3, findM (fun e : Pt × Pt => !gridB e.1) 0 (edgesM P)) else if findM (fun e : Pt × Pt => eqB e.1 e.2) 0 (edgesM P) ≠ -1 then (4, findM (fun e : Pt × Pt => eqB e.1 e.2) 0 (edgesM P)) else if findM (sharesM (edgesM P)) 0 (List.range (edgesM P).length) ≠ -1 then (5, findM (sharesM (edgesM P)) 0 (List.range (edgesM P).length)) else (0, 0) := rfl
  rw [u] at h
  by_cases c1 : 4 < P.length
  · rw [if_pos c1] at h; simp at h
  rw [if_neg c1] at h
  by_cases c2 : badM 12 0 P ≠ -1
  · rw [if_pos c2] at h; simp at h
  have := badM_none P 12 0 (by decide) (by omega) (by decide)
  omega
/-- What the program answers: the pieces, none with an error. -/
def pcsM (A B : List (List Pt)) : List Pc := if bothM A B ≠ 0 then [] else piecesM A B
theorem both_zero {A B : List (List Pt)} (h : bothM A B = 0) : (checkM A).1 = 0 ∧ (checkM B).1 = 0 := by
  unfold bothM at h
  split at h
  · rename_i k; exact absurd h k
  · rename_i k; exact ⟨by simpa using k, h⟩
set_option maxHeartbeats 1000000 in
theorem Pieces_any (va vb : Value) (A B : List (List Pt)) (w : World) (hA : PolyAt w va A) (hB : PolyAt w vb B) :
    Calls Try.prog 21 #[va, vb] w fun e w' => ∃ v', e = .returned (.tuple #[v', .int .i64 (bothM A B)]) ∧ w'.ownsRow w.heap.size 65 10 v' (pcsM A B).length (pcCells (pcsM A B)) ∧ Below w.heap.size w w' := by
  by_cases h : bothM A B = 0
  · have H : Hid (pcsM A B = piecesM A B) := if_neg (by simpa using h)
    obtain ⟨c1, c2⟩ := both_zero h
    have C := hide (fun wz (k1 : PolyAt wz va A) (k2 : PolyAt wz vb B) => cutPieces_any va vb A B wz k1 k2 (sound_of c1) (sound_of c2) (check_few c1) (check_few c2))
    clear c1 c2
    go_enter Try.func21, Try.ntmps21
    go_wp2_with fail
    refine (checkBoth_any va vb A B _ hA hB).mono ?_
    rintro e w1 ⟨rfl, k⟩
    rw [h]
    go_wp2_with fail
    refine (C.out _ (hA.later k) (hB.later k)).mono ?_
    rintro e w2 ⟨v', rfl, o, k2⟩
    go_wp2
    go_ret2
    exact ⟨v', by rw [h]; rfl, by rw [H.out]; exact own_mono o k.size, bvia k k2⟩
  · have H : Hid (pcsM A B = []) := if_pos h
    have h' : (bothM A B != 0) = true := by simpa using h
    go_enter Try.func21, Try.ntmps21
    go_wp2_with fail
    refine (checkBoth_any va vb A B _ hA hB).mono ?_
    rintro e w1 ⟨rfl, k⟩
    go_wp2
    go_ret2
    exact ⟨_, rfl, by rw [H.out]; exact World.ownsRow_nil _ _ _ _, k⟩
end Go.Proofs.Ytnkcbephceollab
namespace Go.Proofs.Ytnkcbephceollab
set_option linter.unusedSimpArgs false
set_option linter.unusedVariables false

/-! The model of Clip, as the program goes about it. -/
def inM (op : Int) (a b : Bool) : Bool :=
  if op = 0 then a && b else if op = 1 then a || b else if op = 2 then a && !b else if op = 3 then b && !a else a != b
def bordOf (op : Int) (x : Pc) : List (Pt × Pt) :=
  (if (inM op x.la x.lb && !inM op x.ra x.rb) = true then [(x.p, x.q)] else []) ++ (if (inM op x.ra x.rb && !inM op x.la x.lb) = true then [(x.q, x.p)] else [])
def bordM (op : Int) (l : List Pc) : List (Pt × Pt) := l.flatMap (bordOf op)
theorem bord_take (op : Int) (l : List Pc) (i : Nat) (hi : i < l.length) (d : Pc) : bordM op (l.take (i + 1)) = bordM op (l.take i) ++ bordOf op (l.getD i d) := by
  unfold bordM
  rw [List.take_succ_eq_append_getElem hi, List.flatMap_append, List.getD_eq_getElem?_getD, List.getElem?_eq_getElem hi]
  simp
theorem bordOf_len (op : Int) (x : Pc) : (bordOf op x).length ≤ 1 := by
  unfold bordOf
  cases inM op x.la x.lb <;> cases inM op x.ra x.rb <;> simp
theorem bord_len (op : Int) : ∀ l : List Pc, (bordM op l).length ≤ l.length
  | [] => by simp [bordM]
  | x :: l => by
    have := bordOf_len op x
    have := bord_len op l
    have e : bordM op (x :: l) = bordOf op x ++ bordM op l := by simp [bordM]
    rw [e, List.length_append, List.length_cons]; omega
theorem bord_mem {op : Int} {l : List Pc} {e : Pt × Pt} (h : e ∈ bordM op l) : ∃ x ∈ l, e = (x.p, x.q) ∨ e = (x.q, x.p) := by
  unfold bordM at h
  obtain ⟨x, hx, h⟩ := List.mem_flatMap.1 h
  refine ⟨x, hx, ?_⟩
  unfold bordOf at h
  rcases List.mem_append.1 h with h | h
  · split at h
    · exact .inl (List.mem_singleton.1 h)
    · simp at h
  · split at h
    · exact .inr (List.mem_singleton.1 h)
    · simp at h
/-- Who turns clockwise about the end of e, from the direction in which e lies, looks to p before he looks to q. -/
def aheadM (p q : Pt) (e : Pt × Pt) : Bool :=
  if decide (detM e.2 e.1 p < 0) != decide (detM e.2 e.1 q < 0) then decide (detM e.2 e.1 p < 0) else decide (detM e.2 p q < 0)
abbrev edg (L : List (Pt × Pt)) (k : Nat) : Pt × Pt := L.getD k (zP, zP)
/-- The border behind border i, among the first k. -/
def folM (L : List (Pt × Pt)) (i : Nat) : Nat → Nat
  | 0 => i
  | k + 1 => if cmpM (edg L k).1 (edg L i).2 ≠ 0 then folM L i k else if folM L i k = i ∨ aheadM (edg L k).2 (edg L (folM L i k)).2 (edg L i) = true then k else folM L i k
theorem fol_lt {L : List (Pt × Pt)} {i : Nat} (hi : i < L.length) : ∀ k, k ≤ L.length → folM L i k < L.length
  | 0, _ => hi
  | k + 1, h => by
    have ih := fol_lt hi k (by omega)
    unfold folM
    split
    · exact ih
    · split
      · omega
      · exact ih
def nextsM (L : List (Pt × Pt)) : List Nat := (List.range L.length).map (fun i => folM L i L.length)
theorem nexts_len (L : List (Pt × Pt)) : (nextsM L).length = L.length := by simp [nextsM]
theorem nexts_at (L : List (Pt × Pt)) (i : Nat) (hi : i < L.length) : (nextsM L).getD i 0 = folM L i L.length := by
  unfold nextsM
  rw [List.getD_eq_getElem?_getD, List.getElem?_map, List.getElem?_range hi]; rfl
theorem nexts_lt (L : List (Pt × Pt)) (i : Nat) (hi : i < L.length) : (nextsM L).getD i 0 < L.length := by
  rw [nexts_at L i hi]; exact fol_lt hi _ (Nat.le_refl _)
def turnB (e f : Pt × Pt) : Bool := decide (detM e.1 e.2 f.2 ≠ 0)
/-- One ring: its points from border k on, and which borders are taken then. -/
def walkM (L : List (Pt × Pt)) (N : List Nat) : Nat → List Bool → Nat → List Pt × List Bool
  | 0, t, _ => ([], t)
  | f + 1, t, k => if t.getD k false = true then ([], t) else ((if turnB (edg L k) (edg L (N.getD k 0)) = true then [(edg L k).2] else []) ++ (walkM L N f (t.set k true) (N.getD k 0)).1, (walkM L N f (t.set k true) (N.getD k 0)).2)
/-- How two lists stand in the order of lists: as CompareLists tells it. -/
def clM : List Pt → List Pt → Int
  | [], m => -(m.length : Int)
  | _ :: l, [] => (l.length : Int) + 1
  | p :: l, q :: m => if cmpM p q ≠ 0 then cmpM p q else clM l m
def rotL (r : List Pt) (i : Nat) : List Pt := r.drop i ++ r.take i
/-- The least way to write the ring, among the first i. -/
def leastL (r : List Pt) : Nat → List Pt
  | 0 => []
  | i + 1 => if i = 0 ∨ clM (rotL r i) (leastL r i) < 0 then rotL r i else leastL r i
def placeL (R : List (List Pt)) (r : List Pt) : Nat → Nat
  | 0 => 0
  | i + 1 => if clM r (R.getD i []) < 0 then placeL R r i else i + 1
def insL (R : List (List Pt)) (r : List Pt) : List (List Pt) := R.take (placeL R r R.length) ++ r :: R.drop (placeL R r R.length)
/-- One step of Rings. -/
def stepR (L : List (Pt × Pt)) (N : List Nat) (st : List (List Pt) × List Bool) (i : Nat) : List (List Pt) × List Bool :=
  let w := walkM L N (L.length + 1) st.2 i
  (if w.1.length > 0 then insL st.1 (leastL w.1 w.1.length) else st.1, w.2)
def ringsN (L : List (Pt × Pt)) : Nat → List (List Pt) × List Bool
  | 0 => ([], List.replicate L.length false)
  | i + 1 => stepR L (nextsM L) (ringsN L i) i
def ringsM (L : List (Pt × Pt)) : List (List Pt) := (ringsN L L.length).1
/-- What Clip answers. -/
def clipM (op : Int) (A B : List (List Pt)) : List (List Pt) × Int :=
  if op < 0 ∨ op > 4 then ([], 6) else if bothM A B ≠ 0 then ([], bothM A B) else (ringsM (bordM op (piecesM A B)), 0)
end Go.Proofs.Ytnkcbephceollab
