import Derived.Test.YtnkcbephceollaaQ10
import Derived.Test.YtnkcbephceollaaF5
namespace Go.Proofs.Ytnkcbephceollaa
open Go.RowKit
set_option linter.unusedSimpArgs false
set_option linter.unusedVariables false

/-- The error of the first, else that of the second. -/
def bothM (A B : List (List Pt)) : Int := if (checkM A).1 ≠ 0 then (checkM A).1 else (checkM B).1
set_option maxHeartbeats 1000000 in
theorem checkBoth_any (va vb : Value) (A B : List (List Pt)) (w : World) (hA : PolyAt w va A) (hB : PolyAt w vb B) :
    Calls Try.prog 46 #[va, vb] w fun e w' => e = .returned (.int .i64 (bothM A B)) ∧ Below w.heap.size w w' := by
  by_cases h : (checkM A).1 = 0
  · have H : Hid (bothM A B = (checkM B).1) := if_neg (by simpa using h)
    have h' : ((checkM A).1 != 0) = false := by simpa using h
    go_enter Try.func46, Try.ntmps46
    go_wp2_with fail
    refine (polyCheck_any va A _ hA).mono ?_
    rintro e w1 ⟨rfl, k⟩
    have B1 := hB.later k
    go_wp2_with fail
    refine (polyCheck_any vb B _ B1).mono ?_
    rintro e w2 ⟨rfl, k2⟩
    go_wp2
    go_ret
    exact ⟨ret_int H.out.symm, bvia k k2⟩
  · have H : Hid (bothM A B = (checkM A).1) := if_pos h
    have h' : ((checkM A).1 != 0) = true := by simpa using h
    go_enter Try.func46, Try.ntmps46
    go_wp2_with fail
    refine (polyCheck_any va A _ hA).mono ?_
    rintro e w1 ⟨rfl, k⟩
    go_wp2
    go_ret
    exact ⟨ret_int H.out.symm, k⟩
theorem check_few {P : List (List Pt)} (h : (checkM P).1 = 0) : (edgesM P).length ≤ 12 := by
  have u : checkM P = if 4 < P.length then (1, 0) else if badM 12 0 P ≠ -1 then (2, badM 12 0 P) else if findM (fun e : Pt × Pt => !gridB e.1) 0 (edgesM P) ≠ -1 then (3, findM (fun e : Pt × Pt => !gridB e.1) 0 (edgesM P)) else if findM (fun e : Pt × Pt => eqB e.1 e.2) 0 (edgesM P) ≠ -1 then (4, findM (fun e : Pt × Pt => eqB e.1 e.2) 0 (edgesM P)) else if findM (sharesM (edgesM P)) 0 (List.range (edgesM P).length) ≠ -1 then (5, findM (sharesM (edgesM P)) 0 (List.range (edgesM P).length)) else (0, 0) := rfl
  rw [u] at h
  by_cases c1 : 4 < P.length
  · rw [if_pos c1] at h; simp at h
  rw [if_neg c1] at h
  by_cases c2 : badM 12 0 P ≠ -1
  · rw [if_pos c2] at h; simp at h
  have := badM_none P 12 0 (by decide) (by omega) (by decide)
  omega
/-- What the program answers: the pieces, none with an error. -/
def pcsM (A B : List (List Pt)) : List Pc := if bothM A B ≠ 0 then [] else piecesM A B
theorem both_zero {A B : List (List Pt)} (h : bothM A B = 0) : (checkM A).1 = 0 ∧ (checkM B).1 = 0 := by
  unfold bothM at h
  split at h
  · rename_i k; exact absurd h k
  · rename_i k; exact ⟨by simpa using k, h⟩
set_option maxHeartbeats 1000000 in
theorem Pieces_any (va vb : Value) (A B : List (List Pt)) (w : World) (hA : PolyAt w va A) (hB : PolyAt w vb B) :
    Calls Try.prog 31 #[va, vb] w fun e w' => ∃ v', e = .returned (.tuple #[v', .int .i64 (bothM A B)]) ∧ w'.ownsRow w.heap.size 62 10 v' (pcsM A B).length (pcCells (pcsM A B)) ∧ Below w.heap.size w w' := by
  by_cases h : bothM A B = 0
  · have H : Hid (pcsM A B = piecesM A B) := if_neg (by simpa using h)
    obtain ⟨c1, c2⟩ := both_zero h
    have C := hide (fun wz (k1 : PolyAt wz va A) (k2 : PolyAt wz vb B) => cutPieces_any va vb A B wz k1 k2 (sound_of c1) (sound_of c2) (check_few c1) (check_few c2))
    clear c1 c2
    go_enter Try.func31, Try.ntmps31
    go_wp2_with fail
    refine (checkBoth_any va vb A B _ hA hB).mono ?_
    rintro e w1 ⟨rfl, k⟩
    rw [h]
    go_wp2_with fail
    refine (C.out _ (hA.later k) (hB.later k)).mono ?_
    rintro e w2 ⟨v', rfl, o, k2⟩
    go_wp2
    go_ret2
    exact ⟨v', by rw [h]; rfl, by rw [H.out]; exact own_mono o k.size, bvia k k2⟩
  · have H : Hid (pcsM A B = []) := if_pos h
    have h' : (bothM A B != 0) = true := by simpa using h
    go_enter Try.func31, Try.ntmps31
    go_wp2_with fail
    refine (checkBoth_any va vb A B _ hA hB).mono ?_
    rintro e w1 ⟨rfl, k⟩
    go_wp2
    go_ret2
    exact ⟨_, rfl, by rw [H.out]; exact World.ownsRow_nil _ _ _ _, k⟩
end Go.Proofs.Ytnkcbephceollaa
namespace Go.Proofs.Ytnkcbephceollaa
set_option linter.unusedSimpArgs false
set_option linter.unusedVariables false

/-! The model of Clip, as the program goes about it. -/
def inM (op : Int) (a b : Bool) : Bool :=
  if op = 0 then a && b else if op = 1 then a || b else if op = 2 then a && !b else if op = 3 then b && !a else a != b
def bordOf (op : Int) (x : Pc) : List (Pt × Pt) :=
  (if (inM op x.la x.lb && !inM op x.ra x.rb) = true then [(x.p, x.q)] else []) ++ (if (inM op x.ra x.rb && !inM op x.la x.lb) = true then [(x.q, x.p)] else [])
def bordM (op : Int) (l : List Pc) : List (Pt × Pt) := l.flatMap (bordOf op)
theorem bord_take (op : Int) (l : List Pc) (i : Nat) (hi : i < l.length) (d : Pc) : bordM op (l.take (i + 1)) = bordM op (l.take i) ++ bordOf op (l.getD i d) := by
  unfold bordM
  rw [List.take_succ_eq_append_getElem hi, List.flatMap_append, List.getD_eq_getElem?_getD, List.getElem?_eq_getElem hi]
  simp
theorem bordOf_len (op : Int) (x : Pc) : (bordOf op x).length ≤ 1 := by
  unfold bordOf
  cases inM op x.la x.lb <;> cases inM op x.ra x.rb <;> simp
theorem bord_len (op : Int) : ∀ l : List Pc, (bordM op l).length ≤ l.length
  | [] => by simp [bordM]
  | x :: l => by
    have := bordOf_len op x
    have := bord_len op l
    have e : bordM op (x :: l) = bordOf op x ++ bordM op l := by simp [bordM]
    rw [e, List.length_append, List.length_cons]; omega
theorem bord_mem {op : Int} {l : List Pc} {e : Pt × Pt} (h : e ∈ bordM op l) : ∃ x ∈ l, e = (x.p, x.q) ∨ e = (x.q, x.p) := by
  unfold bordM at h
  obtain ⟨x, hx, h⟩ := List.mem_flatMap.1 h
  refine ⟨x, hx, ?_⟩
  unfold bordOf at h
  rcases List.mem_append.1 h with h | h
  · split at h
    · exact .inl (List.mem_singleton.1 h)
    · simp at h
  · split at h
    · exact .inr (List.mem_singleton.1 h)
    · simp at h
/-- Who turns clockwise about the end of e, from the direction in which e lies, looks to p before he looks to q. -/
def aheadM (p q : Pt) (e : Pt × Pt) : Bool :=
  if decide (detM e.2 e.1 p < 0) != decide (detM e.2 e.1 q < 0) then decide (detM e.2 e.1 p < 0) else decide (detM e.2 p q < 0)
abbrev edg (L : List (Pt × Pt)) (k : Nat) : Pt × Pt := L.getD k (zP, zP)
/-- The border behind border i, among the first k. -/
def folM (L : List (Pt × Pt)) (i : Nat) : Nat → Nat
  | 0 => i
  | k + 1 => if cmpM (edg L k).1 (edg L i).2 ≠ 0 then folM L i k else if folM L i k = i ∨ aheadM (edg L k).2 (edg L (folM L i k)).2 (edg L i) = true then k else folM L i k
theorem fol_lt {L : List (Pt × Pt)} {i : Nat} (hi : i < L.length) : ∀ k, k ≤ L.length → folM L i k < L.length
  | 0, _ => hi
  | k + 1, h => by
    have ih := fol_lt hi k (by omega)
    unfold folM
    split
    · exact ih
    · split
      · omega
      · exact ih
def nextsM (L : List (Pt × Pt)) : List Nat := (List.range L.length).map (fun i => folM L i L.length)
theorem nexts_len (L : List (Pt × Pt)) : (nextsM L).length = L.length := by simp [nextsM]
theorem nexts_at (L : List (Pt × Pt)) (i : Nat) (hi : i < L.length) : (nextsM L).getD i 0 = folM L i L.length := by
  unfold nextsM
  rw [List.getD_eq_getElem?_getD, List.getElem?_map, List.getElem?_range hi]; rfl
theorem nexts_lt (L : List (Pt × Pt)) (i : Nat) (hi : i < L.length) : (nextsM L).getD i 0 < L.length := by
  rw [nexts_at L i hi]; exact fol_lt hi _ (Nat.le_refl _)
def turnB (e f : Pt × Pt) : Bool := decide (detM e.1 e.2 f.2 ≠ 0)
/-- One ring: its points from border k on, and which borders are taken then. -/
def walkM (L : List (Pt × Pt)) (N : List Nat) : Nat → List Bool → Nat → List Pt × List Bool
  | 0, t, _ => ([], t)
  | f + 1, t, k => if t.getD k false = true then ([], t) else ((if turnB (edg L k) (edg L (N.getD k 0)) = true then [(edg L k).2] else []) ++ (walkM L N f (t.set k true) (N.getD k 0)).1, (walkM L N f (t.set k true) (N.getD k 0)).2)
/-- How two lists stand in the order of lists: as CompareLists tells it. -/
def clM : List Pt → List Pt → Int
  | [], m => -(m.length : Int)
  | _ :: l, [] => (l.length : Int) + 1
  | p :: l, q :: m => if cmpM p q ≠ 0 then cmpM p q else clM l m
def rotL (r : List Pt) (i : Nat) : List Pt := r.drop i ++ r.take i
/-- The least way to write the ring, among the first i. -/
def leastL (r : List Pt) : Nat → List Pt
  | 0 => []
  | i + 1 => if i = 0 ∨ clM (rotL r i) (leastL r i) < 0 then rotL r i else leastL r i
def placeL (R : List (List Pt)) (r : List Pt) : Nat → Nat
  | 0 => 0
  | i + 1 => if clM r (R.getD i []) < 0 then placeL R r i else i + 1
def insL (R : List (List Pt)) (r : List Pt) : List (List Pt) := R.take (placeL R r R.length) ++ r :: R.drop (placeL R r R.length)
/-- One step of Rings. -/
def stepR (L : List (Pt × Pt)) (N : List Nat) (st : List (List Pt) × List Bool) (i : Nat) : List (List Pt) × List Bool :=
  let w := walkM L N (L.length + 1) st.2 i
  (if w.1.length > 0 then insL st.1 (leastL w.1 w.1.length) else st.1, w.2)
def ringsN (L : List (Pt × Pt)) : Nat → List (List Pt) × List Bool
  | 0 => ([], List.replicate L.length false)
  | i + 1 => stepR L (nextsM L) (ringsN L i) i
def ringsM (L : List (Pt × Pt)) : List (List Pt) := (ringsN L L.length).1
/-- What Clip answers. -/
def clipM (op : Int) (A B : List (List Pt)) : List (List Pt) × Int :=
  if op < 0 ∨ op > 4 then ([], 6) else if bothM A B ≠ 0 then ([], bothM A B) else (ringsM (bordM op (piecesM A B)), 0)
end Go.Proofs.Ytnkcbephceollaa
namespace Go.Proofs.Ytnkcbephceollaa
set_option linter.unusedSimpArgs false
set_option linter.unusedVariables false

/-! Half way along a piece. -/
/-- No edge of no length. -/
structure Sd (P : List (List Pt)) : Prop where
  pd : ∀ v ∈ P.flatten, 0 < v.d
  ne : ∀ e ∈ edgesM P, befB e.1 e.2 = true ∨ befB e.2 e.1 = true
theorem Sound.sd {P : List (List Pt)} (h : Sound P) : Sd P := ⟨fun v hv => by have := (h.gr v hv).d; omega, h.ne⟩
theorem side_l {P : List (List Pt)} {p q : Pt} (hS : Sd P) (pd : 0 < p.d) (qd : 0 < q.d) (hpq : befB p q = true) (hc : Clear P p q) :
    parB (leftE p q) (edgesM P) = parB (overB (midP p q)) (edgesM P) := by
  rw [← along pd qd hpq hS.pd hc]
  exact parB_congr fun e he => by
    obtain ⟨m1, m2⟩ := edge_ends he
    exact leftE_eq (hS.pd _ m1) (hS.pd _ m2) pd
theorem side_mid {P : List (List Pt)} {p q : Pt} (hS : Sound P) (pd : 0 < p.d) (qd : 0 < q.d) (hpq : befB p q = true) (hc : Clear P p q) :
    parB (leftE p q) (edgesM P) = parB (overB (midP p q)) (edgesM P) ∧ parB (rightE p q) (edgesM P) = (parB (leftE p q) (edgesM P) ^^ (edgesM P).any (fun e => onB (midP p q) e.1 e.2)) := by
  have hd : ∀ v ∈ P.flatten, 0 < v.d := fun v hv => by have := (hS.gr v hv).d; omega
  have el : parB (leftE p q) (edgesM P) = parB (overB (midP p q)) (edgesM P) := by
    rw [← along pd qd hpq hd hc]
    exact parB_congr fun e he => by
      obtain ⟨m1, m2⟩ := edge_ends he
      exact leftE_eq (hd _ m1) (hd _ m2) pd
  have er : parB (rightE p q) (edgesM P) = (parB (leftE p q) (edgesM P) ^^ parB (fun a b => onB (midP p q) a b) (edgesM P)) := by
    rw [← parB_xor]
    exact parB_congr fun e he => by
      obtain ⟨m1, m2⟩ := edge_ends he
      rw [rightE_eq (hd _ m1) (hd _ m2) pd (hS.ne e he), along_mid pd qd (hd _ m1) (hd _ m2) hpq (hS.ne e he) (hc.pt _ m1) (hc.pt _ m2) (hc.ed e he)]
  have eany : parB (fun a b => onB (midP p q) a b) (edgesM P) = (edgesM P).any (fun e => onB (midP p q) e.1 e.2) := par_any fun i j hij hj ⟨h1, h2⟩ => by
    have cov : ∀ n, n < (edgesM P).length → onB (midP p q) ((edgesM P).getD n (zP, zP)).1 ((edgesM P).getD n (zP, zP)).2 = true → Covers p q ((edgesM P).getD n (zP, zP)).1 ((edgesM P).getD n (zP, zP)).2 ∧ ((edgesM P).getD n (zP, zP)).1.d = 1 ∧ ((edgesM P).getD n (zP, zP)).2.d = 1 := fun n hn ho => by
      have he := getD_mem hn (zP, zP)
      obtain ⟨m1, m2⟩ := edge_ends he
      obtain ⟨c1, _, c3⟩ := mid_along pd qd (hd _ m1) (hd _ m2) hpq (hS.ne _ he) (hc.pt _ m1) (hc.pt _ m2) (hc.ed _ he) ho
      exact ⟨⟨c1, c3⟩, (hS.gr _ m1).d, (hS.gr _ m2).d⟩
    obtain ⟨c1, d1, d2⟩ := cov i (by omega) h1
    obtain ⟨c2, d3, d4⟩ := cov j hj h2
    have k2 := two_along pd qd d3 d4 d1 d2 hpq c2 c1
    have := hS.no i j hij hj
    unfold alongB at this
    rw [k2] at this
    exact absurd this (by decide)
  exact ⟨el, by rw [er, eany]⟩
/-- Where half way along a piece lies, by the sides that it has. -/
def besideB (n : Int) (l r : Bool) : Bool := if n = 2 then l != r else if n = 1 then l && r else decide (n = 0) && !l && !r
theorem where_mid {P : List (List Pt)} {p q : Pt} (hS : Sound P) (pd : 0 < p.d) (qd : 0 < q.d) (hpq : befB p q = true) (hc : Clear P p q) :
    besideB (whereM (midP p q) 0 (edgesM P)) (parB (leftE p q) (edgesM P)) (parB (rightE p q) (edgesM P)) = true := by
  have hd : ∀ v ∈ P.flatten, 0 < v.d := fun v hv => by have := (hS.gr v hv).d; omega
  have hm := mid_pos pd qd
  obtain ⟨el, er⟩ := side_mid hS pd qd hpq hc
  have eany : (edgesM P).any (fun e => hasM e.1 e.2 (midP p q)) = (edgesM P).any (fun e => onB (midP p q) e.1 e.2) := by
    refine Bool.eq_iff_iff.2 ?_
    simp only [List.any_eq_true]
    constructor
    · rintro ⟨e, he, h⟩
      obtain ⟨m1, m2⟩ := edge_ends he
      exact ⟨e, he, by rw [← has_on (hd _ m1) (hd _ m2) hm]; exact h⟩
    · rintro ⟨e, he, h⟩
      obtain ⟨m1, m2⟩ := edge_ends he
      exact ⟨e, he, by rw [has_on (hd _ m1) (hd _ m2) hm]; exact h⟩
  have e2 : parB (fun a b => overM a b (midP p q)) (edgesM P) = parB (overB (midP p q)) (edgesM P) := parB_congr fun e he => by
    obtain ⟨m1, m2⟩ := edge_ends he
    exact over_eq (hd _ m1) (hd _ m2) hm
  cases h : (edgesM P).any (fun e => onB (midP p q) e.1 e.2)
  · rw [h] at er
    rw [whereM_eq _ _ 0 (.inl rfl) (eany.trans h), e2, ← el, er]
    cases parB (leftE p q) (edgesM P) <;> rfl
  · rw [h] at er
    rw [whereM_two _ _ _ (eany.trans h), er]
    cases parB (leftE p q) (edgesM P) <;> rfl
/-- An edge that has both ends of a piece has what lies half way. -/
theorem mid_on {E : List (Pt × Pt)} {x e : Pt × Pt} (hx1 : 0 < x.1.d) (hx2 : 0 < x.2.d) (ge : Gr e.1 ∧ Gr e.2) (ne : befB e.1 e.2 = true ∨ befB e.2 e.1 = true) (hpq : befB x.1 x.2 = true) (h1 : hasM e.1 e.2 x.1 = true) (h2 : hasM e.1 e.2 x.2 = true) : alongE x.1 x.2 e.1 e.2 = true := by
  have d1 : 0 < e.1.d := by have := ge.1.d; omega
  have d2 : 0 < e.2.d := by have := ge.2.d; omega
  have dl : 0 < (lastM e.1 e.2).d := by unfold lastM; split <;> assumption
  unfold hasM at h1 h2
  simp only [Bool.and_eq_true, Bool.not_eq_true', decide_eq_false_iff_not, decide_eq_true_eq] at h1 h2
  obtain ⟨a1, a2, a3⟩ := h1
  obtain ⟨b1, b2, b3⟩ := h2
  have z1 := (side_zero d1 d2 hx1 x.1 ne).1 a3
  have z2 := (side_zero d1 d2 hx1 x.2 ne).1 b3
  have c1 : befB (lastM e.1 e.2) x.2 = false := by rw [← cmpB']; exact decide_eq_false b2
  have c2 := bef_le hx1 hx2 dl hpq c1
  have c3 : cmpM x.1 (lastM e.1 e.2) < 0 := by
    have := cmpB x.1 (lastM e.1 e.2)
    rw [c2] at this; exact of_decide_eq_true this
  unfold alongE spanM
  simp only [Bool.and_eq_true, Bool.not_eq_true', decide_eq_false_iff_not, decide_eq_true_eq]
  exact ⟨⟨a1, c3⟩, z1, z2⟩
/-- All that Parts asks of a piece. -/
theorem piece_parts {A B : List (List Pt)} (sA : Sound A) (sB : Sound B) {x : Pc} (hx : x ∈ piecesM A B) :
    goodB x.p = true ∧ goodB x.q = true ∧ befB x.p x.q = true ∧ ((x.la == x.ra) && (x.lb == x.rb)) = false ∧ besideB (whereM (midP x.p x.q) 0 (edgesM A)) x.la x.ra = true ∧ besideB (whereM (midP x.p x.q) 0 (edgesM B)) x.lb x.rb = true := by
  have hG := good_both sA sB
  unfold piecesM at hx
  obtain ⟨y, hy, rfl⟩ := List.mem_map.1 hx
  obtain ⟨⟨n1, n2⟩, hpq, hpt, hed⟩ := piece_clear hG hy
  have pd := n1.d
  have qd := n2.d
  have hcA : Clear A y.1 y.2 := ⟨fun v hv b1 b2 => by
    obtain ⟨e, he, rfl⟩ := first_edge hv
    exact hpt e (List.mem_append.2 (.inl he)) b1 b2, fun e he => hed e (List.mem_append.2 (.inl he))⟩
  have hcB : Clear B y.1 y.2 := ⟨fun v hv b1 b2 => by
    obtain ⟨e, he, rfl⟩ := first_edge hv
    exact hpt e (List.mem_append.2 (.inr he)) b1 b2, fun e he => hed e (List.mem_append.2 (.inr he))⟩
  refine ⟨n1.1, n2.1, hpq, ?_, where_mid sA pd qd hpq hcA, where_mid sB pd qd hpq hcB⟩
  have hs := (spots_spec hG).1
  obtain ⟨e, he, ha⟩ := ((pairs_spec _ hs).2 y).1 hy
  obtain ⟨_, _, f1, f2⟩ := AL_mem ha
  have rA := (side_mid sA pd qd hpq hcA).2
  have rB := (side_mid sB pd qd hpq hcB).2
  have key : ∀ {P : List (List Pt)}, Sound P → Clear P y.1 y.2 → e ∈ edgesM P → parB (rightE y.1 y.2) (edgesM P) = !parB (leftE y.1 y.2) (edgesM P) := fun {P} sP hcP hP => by
    have hd : ∀ v ∈ P.flatten, 0 < v.d := fun v hv => by have := (sP.gr v hv).d; omega
    obtain ⟨m1, m2⟩ := edge_ends hP
    have al := mid_on (E := []) pd qd ⟨sP.gr _ m1, sP.gr _ m2⟩ (sP.ne e hP) hpq f1 f2
    rw [along_mid pd qd (hd _ m1) (hd _ m2) hpq (sP.ne e hP) (hcP.pt _ m1) (hcP.pt _ m2) (hcP.ed e hP)] at al
    have : (edgesM P).any (fun e => onB (midP y.1 y.2) e.1 e.2) = true := List.any_eq_true.2 ⟨e, hP, al⟩
    rw [(side_mid sP pd qd hpq hcP).2, this, Bool.xor_true]
  show ((parB (leftE y.1 y.2) (edgesM A) == parB (rightE y.1 y.2) (edgesM A)) && (parB (leftE y.1 y.2) (edgesM B) == parB (rightE y.1 y.2) (edgesM B))) = false
  rcases List.mem_append.1 he with h | h
  · rw [key sA hcA h]
    cases parB (leftE y.1 y.2) (edgesM A) <;> rfl
  · rw [key sB hcB h]
    cases parB (leftE y.1 y.2) (edgesM B) <;> simp
/-- And of two that follow one another. -/
theorem pieces_order {A B : List (List Pt)} (sA : Sound A) (sB : Sound B) (i : Nat) (hi : i + 1 < (piecesM A B).length) (d : Pc) : PR (((piecesM A B).getD i d).p, ((piecesM A B).getD i d).q) (((piecesM A B).getD (i + 1) d).p, ((piecesM A B).getD (i + 1) d).q) := by
  have hG := good_both sA sB
  have hP := (pairs_spec (edgesM A ++ edgesM B) (spots_spec hG).1).1
  unfold piecesM at *
  rw [List.length_map] at hi
  rw [List.getD_eq_getElem?_getD, List.getD_eq_getElem?_getD, List.getElem?_map, List.getElem?_map, List.getElem?_eq_getElem (by omega), List.getElem?_eq_getElem hi]
  exact List.pairwise_iff_getElem.1 hP i (i + 1) (by omega) hi (by omega)
end Go.Proofs.Ytnkcbephceollaa
