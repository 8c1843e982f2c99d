import Derived.Test.YtnkcbephceollaaS1
import Derived.Test.YtnkcbephceollaaQ43
namespace Go.Proofs.Ytnkcbephceollaa
set_option linter.unusedSimpArgs false
set_option linter.unusedVariables false

/-! A polygon with its rings in another order, each begun at another point and the other way round. -/
def rotN (n c : Nat) : List Nat := (List.range n).map (fun i => (i + c) % n)
theorem rotN_eq {n c : Nat} (h : c < n) : rotN n c = (List.range (n - c)).map (fun i => i + c) ++ List.range c := by
  have e : List.range n = List.range (n - c) ++ (List.range c).map (fun j => (n - c) + j) := by
    have := List.range_add (n := n - c) (m := c)
    rw [show n - c + c = n by omega] at this
    exact this
  unfold rotN
  rw [e, List.map_append, List.map_map]
  congr 1
  · refine List.map_congr_left fun i hi => ?_
    have : i < n - c := by simpa using hi
    exact Nat.mod_eq_of_lt (by omega)
  · have : (List.range c).map ((fun i => (i + c) % n) ∘ fun j => (n - c) + j) = (List.range c).map id := by
      refine List.map_congr_left fun j hj => ?_
      have hj' : j < c := by simpa using hj
      show ((n - c) + j + c) % n = j
      rw [show (n - c) + j + c = j + n by omega, Nat.add_mod_right]
      exact Nat.mod_eq_of_lt (by omega)
    rw [this, List.map_id]
theorem rotN_perm {n c : Nat} (h : c < n) : (rotN n c).Perm (List.range n) := by
  rw [rotN_eq h]
  have e : List.range n = List.range c ++ (List.range (n - c)).map (fun i => c + i) := by
    have := List.range_add (n := c) (m := n - c)
    rw [show c + (n - c) = n by omega] at this
    exact this
  rw [e]
  have e2 : (List.range (n - c)).map (fun i => i + c) = (List.range (n - c)).map (fun i => c + i) := List.map_congr_left fun i _ => Nat.add_comm _ _
  rw [e2]
  exact List.perm_append_comm
def otherR (r : List Pt) (c : Nat) : List Pt := (List.range r.length).map (fun j => r.getD ((r.length - 1 - j + c) % r.length) zP)
theorem otherR_len (r : List Pt) (c : Nat) : (otherR r c).length = r.length := by simp [otherR]
theorem otherR_at (r : List Pt) (c j : Nat) (hj : j < r.length) : (otherR r c).getD j zP = r.getD ((r.length - 1 - j + c) % r.length) zP := by
  unfold otherR
  rw [List.getD_eq_getElem?_getD, List.getElem?_map, List.getElem?_range hj]; rfl
theorem edge_other (r : List Pt) (c j : Nat) (hj : j < r.length) : edgeAt (otherR r c) j = sw (edgeAt r (((if j + 1 = r.length then r.length - 1 else r.length - 2 - j) + c) % r.length)) := by
  unfold edgeAt sw
  rw [otherR_len, otherR_at r c j hj]
  by_cases h : j + 1 = r.length
  · rw [if_pos h, if_pos h, otherR_at r c 0 (by omega)]
    have e1 : r.length - 1 - j + c = c := by omega
    have e2 : r.length - 1 - 0 + c = r.length - 1 + c := by omega
    rw [e1, e2]
    generalize hm : (r.length - 1 + c) % r.length = m
    have k : (if m + 1 = r.length then 0 else m + 1) = c % r.length := by
      have hc : (r.length - 1 + c + 1) % r.length = c % r.length := by rw [show r.length - 1 + c + 1 = c + r.length by omega, Nat.add_mod_right]
      have h2 := Nat.add_mod (r.length - 1 + c) 1 r.length
      have hl : m < r.length := by rw [← hm]; exact Nat.mod_lt _ (by omega)
      rw [← hc, h2, hm]
      by_cases h1 : r.length = 1
      · have : m = 0 := by omega
        rw [this, h1]; simp
      · rw [Nat.mod_eq_of_lt (show 1 < r.length by omega)]
        split
        · rename_i q; rw [q, Nat.mod_self]
        · exact (Nat.mod_eq_of_lt (by omega)).symm
    rw [k]
  · rw [if_neg h, if_neg h, otherR_at r c (j + 1) (by omega)]
    have e1 : r.length - 1 - (j + 1) + c = r.length - 2 - j + c := by omega
    rw [e1]
    generalize hm : (r.length - 2 - j + c) % r.length = m
    have k : (if m + 1 = r.length then 0 else m + 1) = (r.length - 1 - j + c) % r.length := by
      have h2 := Nat.add_mod (r.length - 2 - j + c) 1 r.length
      have hl : m < r.length := by rw [← hm]; exact Nat.mod_lt _ (by omega)
      rw [show r.length - 1 - j + c = r.length - 2 - j + c + 1 by omega, h2, hm, Nat.mod_eq_of_lt (show 1 < r.length by omega)]
      split
      · rename_i q; rw [q, Nat.mod_self]
      · exact (Nat.mod_eq_of_lt (by omega)).symm
    rw [k]
theorem back_perm (n : Nat) : ((List.range n).map (fun j => if j + 1 = n then n - 1 else n - 2 - j)).Perm (List.range n) := by
  cases n with
  | zero => exact List.Perm.refl _
  | succ m =>
    have e : (List.range (m + 1)).map (fun j => if j + 1 = m + 1 then m + 1 - 1 else m + 1 - 2 - j) = (List.range m).reverse ++ [m] := by
      rw [List.range_succ, List.map_append]
      congr 1
      · apply List.ext_getElem
        · simp
        · intro j h1 h2
          have hj : j < m := by simpa using h1
          simp only [List.getElem_map, List.getElem_range, List.getElem_reverse, List.length_range]
          rw [if_neg (by omega)]; omega
      · simp
    rw [e, List.range_succ]
    exact (List.reverse_perm _).append_right _
theorem ring_other (r : List Pt) (c : Nat) (hc : r.length = 0 ∨ c < r.length) : (ringEdges (otherR r c)).Perm ((ringEdges r).map sw) := by
  rcases hc with h | h
  · have e : r = [] := List.eq_nil_of_length_eq_zero h
    subst e; exact List.Perm.refl _
  have e : ringEdges (otherR r c) = ((((List.range r.length).map (fun j => if j + 1 = r.length then r.length - 1 else r.length - 2 - j)).map (fun i => (i + c) % r.length)).map (edgeAt r)).map sw := by
    unfold ringEdges
    rw [otherR_len, List.map_map, List.map_map, List.map_map]
    refine List.map_congr_left fun j hj => ?_
    exact edge_other r c j (by simpa using hj)
  rw [e]
  unfold ringEdges
  refine List.Perm.map _ (List.Perm.map _ ?_)
  exact ((back_perm r.length).map _).trans (rotN_perm h)
/-- All rings: rung round by c, each ring as g says. -/
def othM (A : List (List Pt)) (c : Nat) (g : Nat → Nat) : List (List Pt) := (List.range A.length).map (fun i => otherR (A.getD ((i + c) % A.length) []) (g (A.getD ((i + c) % A.length) []).length))
theorem othM_eq (A : List (List Pt)) (c : Nat) (g : Nat → Nat) : othM A c g = ((rotN A.length c).map (fun i => A.getD i [])).map (fun r => otherR r (g r.length)) := by
  unfold othM rotN
  rw [List.map_map, List.map_map]; rfl
theorem rot_rings (A : List (List Pt)) (c : Nat) (hc : A.length = 0 ∨ c < A.length) : ((rotN A.length c).map (fun i => A.getD i [])).Perm A := by
  have e : (List.range A.length).map (fun i => A.getD i []) = A := by
    apply List.ext_getElem
    · simp
    · intro j h1 h2
      simp [List.getD_eq_getElem?_getD, List.getElem?_eq_getElem h2]
  rcases hc with h | h
  · have e : A = [] := List.eq_nil_of_length_eq_zero h
    subst e; exact List.Perm.refl _
  · have := (rotN_perm h).map (fun i => A.getD i [])
    rw [e] at this; exact this
theorem flat_perm {α β : Type} {f g : α → List β} : ∀ l : List α, (∀ x ∈ l, (f x).Perm (g x)) → (l.flatMap f).Perm (l.flatMap g)
  | [], _ => List.Perm.refl _
  | x :: l, h => by
    rw [List.flatMap_cons, List.flatMap_cons]
    exact (h x List.mem_cons_self).append (flat_perm l fun y hy => h y (List.mem_cons_of_mem _ hy))
theorem other_edges (A : List (List Pt)) (c : Nat) (g : Nat → Nat) (hc : A.length = 0 ∨ c < A.length) (hg : ∀ n, 0 < n → g n < n) : (edgesM (othM A c g)).Perm ((edgesM A).map sw) := by
  have hp := rot_rings A c hc
  rw [othM_eq]
  unfold edgesM
  rw [List.flatMap_map, List.map_flatMap]
  refine (hp.flatMap_right _).trans (flat_perm A fun r _ => ring_other r _ ?_)
  rcases Nat.eq_zero_or_pos r.length with h | h
  · exact .inl h
  · exact .inr (hg _ h)
theorem other_lens (A : List (List Pt)) (c : Nat) (g : Nat → Nat) (hc : A.length = 0 ∨ c < A.length) : ((othM A c g).map List.length).Perm (A.map List.length) := by
  rw [othM_eq, List.map_map]
  have e : (List.length ∘ fun r => otherR r (g r.length)) = List.length := by funext r; exact otherR_len r _
  rw [e]
  exact (rot_rings A c hc).map _
/-- As the statement has it. -/
def oM (A : List (List Pt)) (n : Int) : List (List Pt) := othM A (pickM n A.length).toNat (fun k => (pickM n k).toNat)
theorem oM_c (A : List (List Pt)) (n : Int) : A.length = 0 ∨ (pickM n A.length).toNat < A.length := by
  rcases Nat.eq_zero_or_pos A.length with h | h
  · exact .inl h
  · have := pickM_bd n A.length (by omega); exact .inr (by omega)
theorem oM_g (n : Int) (k : Nat) (h : 0 < k) : (pickM n k).toNat < k := by have := pickM_bd n k (by omega); omega
theorem oM_clip (op n : Int) (A B : List (List Pt)) : clipM op (oM A n) B = clipM op A B := clip_tw op (other_lens A _ _ (oM_c A n)) (other_edges A _ _ (oM_c A n) (oM_g n))
theorem oM_pcs (n : Int) (A B : List (List Pt)) : pcsM (oM A n) B = pcsM A B := pcs_tw (other_lens A _ _ (oM_c A n)) (other_edges A _ _ (oM_c A n) (oM_g n))
theorem oM_both (n : Int) (A B : List (List Pt)) : bothM (oM A n) B = bothM A B := both_tw (other_lens A _ _ (oM_c A n)) (other_edges A _ _ (oM_c A n) (oM_g n))
end Go.Proofs.Ytnkcbephceollaa
