import Derived.Test.YtkmapffhfmgfeaaGreatQR25
import Derived.Test.YtkmapffhfmgfeaaGreatR10
import Derived.Test.YtkmapffhfmgfeaaGreatQF5
namespace Go.Proofs.YtkmapffhfmgfeaaGreat
open Go.RowKit
set_option linter.unusedSimpArgs false
set_option linter.unusedVariables false

theorem flat_few : ∀ {P : List (List Pt)}, P.flatten.length ≤ (edgesM P).length
  | [] => by simp
  | r :: P => by
    have ih := flat_few (P := P)
    have e : edgesM (r :: P) = ringEdges r ++ edgesM P := rfl
    have l : (ringEdges r).length = r.length := by unfold ringEdges; simp
    rw [e, List.length_append, List.flatten_cons, List.length_append, l]
    omega

set_option maxHeartbeats 1000000 in
theorem rPieces_any (va vb : Value) (A B : List (List Pt)) (w : World) (hA : PolyAt w va A) (hB : PolyAt w vb B) (sA : ∀ i, i < A.length → (A.getD i []).length ≤ 1048576) (sB : ∀ i, i < B.length → (B.getD i []).length ≤ 1048576) :
    Calls Tryz.prog 29 #[va, vb] w fun e w' => ∃ v', e = .returned (.tuple #[v', .int .i64 (bothM A B)]) ∧ w'.ownsRow w.heap.size 55 10 v' (pcsM A B).length (pcCells (pcsM A B)) ∧ Below w.heap.size w w' := by
  have CA := hide (fun wz h => rCheck_any va A wz h sA)
  have CB := hide (fun wz h => rCheck_any vb B wz h sB)
  clear sA sB
  by_cases h1 : (checkM A).1 = 0
  · have eb : bothM A B = (checkM B).1 := if_neg (by simpa using h1)
    by_cases h2 : (checkM B).1 = 0
    · have H : Hid (pcsM A B = rpiecesM A B) := by
        rw [pieces_eq (sound_of h1) (sound_of h2)]
        exact if_neg (by rw [eb, h2]; simp)
      have C := hide (fun wz (k1 : PolyAt wz va A) (k2 : PolyAt wz vb B) => rpieces_any va vb A B wz k1 k2 (sound_of h1) (sound_of h2) (check_few h1) (check_few h2) (Nat.le_trans flat_few (check_few h1)) (Nat.le_trans flat_few (check_few h2)))
      rw [eb, h2]
      clear eb
      go_enter Tryz.func29, Tryz.ntmps29
      go_wp2_with fail
      refine (CA.out _ hA).mono ?_
      rintro e w1 ⟨rfl, k1⟩
      rw [h1]
      go_wp2_with fail
      refine (CB.out _ (hB.later k1)).mono ?_
      rintro e w2 ⟨rfl, k2⟩
      rw [h2]
      have k12 := bvia k1 k2
      go_wp2_with fail
      refine (C.out _ (hA.later k12) (hB.later k12)).mono ?_
      rintro e w3 ⟨v', rfl, o, k3⟩
      go_wp2
      go_ret2
      exact ⟨v', rfl, by rw [H.out]; exact own_mono o k12.size, bvia k12 k3⟩
    · have H : Hid (pcsM A B = []) := if_pos (by rw [eb]; exact h2)
      have h' : ((checkM B).1 != 0) = true := by simpa using h2
      rw [eb]
      clear eb
      go_enter Tryz.func29, Tryz.ntmps29
      go_wp2_with fail
      refine (CA.out _ hA).mono ?_
      rintro e w1 ⟨rfl, k1⟩
      rw [h1]
      go_wp2_with fail
      refine (CB.out _ (hB.later k1)).mono ?_
      rintro e w2 ⟨rfl, k2⟩
      go_wp2
      go_ret2
      exact ⟨_, rfl, by rw [H.out]; exact World.ownsRow_nil _ _ _ _, bvia k1 k2⟩
  · have eb : bothM A B = (checkM A).1 := if_pos h1
    have H : Hid (pcsM A B = []) := if_pos (by rw [eb]; exact h1)
    have h' : ((checkM A).1 != 0) = true := by simpa using h1
    rw [eb]
    clear eb
    go_enter Tryz.func29, Tryz.ntmps29
    go_wp2_with fail
    refine (CA.out _ hA).mono ?_
    rintro e w1 ⟨rfl, k1⟩
    go_wp2
    go_ret2
    exact ⟨_, rfl, by rw [H.out]; exact World.ownsRow_nil _ _ _ _, k1⟩
end Go.Proofs.YtkmapffhfmgfeaaGreat
