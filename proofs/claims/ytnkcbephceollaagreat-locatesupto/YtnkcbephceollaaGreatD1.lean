import Derived.Test.YtnkcbephceollaaGreatQ12
import Derived.Test.YtnkcbephceollaaGreatQ4
namespace Go.Proofs.YtnkcbephceollaaGreat
open Go.RowKit
set_option linter.unusedSimpArgs false
set_option linter.unusedVariables false

/-- Neither ahead of the segment nor behind it. -/
def spanM (a b p : Pt) : Bool := !decide (cmpM p (firstM a b) < 0) && decide (cmpM p (lastM a b) < 0)
def sideM (a b p : Pt) : Int := detM (firstM a b) (lastM a b) p
def hasM (a b p : Pt) : Bool := !decide (cmpM p (firstM a b) < 0) && (!decide (0 < cmpM p (lastM a b)) && decide (sideM a b p = 0))
def overM (a b p : Pt) : Bool := spanM a b p && decide (sideM a b p < 0)
theorem span_no {a b p : Pt} (h : cmpM p (firstM a b) < 0) : spanM a b p = false := by unfold spanM; simp [h]
theorem span_of {a b p : Pt} (h : ¬ cmpM p (firstM a b) < 0) : spanM a b p = decide (cmpM p (lastM a b) < 0) := by unfold spanM; simp [h]
theorem has_no {a b p : Pt} (h : cmpM p (firstM a b) < 0) : hasM a b p = false := by unfold hasM; simp [h]
theorem has_no2 {a b p : Pt} (h : 0 < cmpM p (lastM a b)) : hasM a b p = false := by unfold hasM; simp [h]
theorem has_of {a b p : Pt} (h : ¬ cmpM p (firstM a b) < 0) (h2 : ¬ 0 < cmpM p (lastM a b)) : hasM a b p = decide (sideM a b p = 0) := by unfold hasM; simp [h, h2]

set_option maxHeartbeats 1000000 in
theorem Spans_any (a b p : Pt) (w : World) (ha : Gd a) (hb : Gd b) (hp : Gd p) :
    Calls Tryz.prog 113 #[sg a b, p.v] w fun e w' => e = .returned (.bool (spanM a b p)) ∧ Below w.heap.size w w' := by
  have gf := firstM_gd ha hb
  have gl := lastM_gd ha hb
  by_cases h : cmpM p (firstM a b) < 0
  · have H := hide (span_no h)
    go_enter Tryz.func113, Tryz.ntmps113
    go_wp2_with fail
    refine (Forward_any a b _ ha hb).mono ?_
    rintro e w1 ⟨rfl, k⟩
    have B1 := bvia (below2 _ _ _) k
    obtain ⟨cp1, fp1, zp1⟩ := (Blk.at (w.heap.size + 1) (by simp)).call k
    clear k
    go_wp2_with fail
    refine (Compare_any p (firstM a b) _ hp gf).mono ?_
    rintro e w2 ⟨rfl, k⟩
    have B2 := bvia (B1.alloc B1.size _) k
    clear k cp1 fp1 B1
    go_wp2
    go_ret
    exact ⟨ret_bool H.out.symm, B2⟩
  · have H := hide (span_of h)
    go_enter Tryz.func113, Tryz.ntmps113
    go_wp2_with fail
    refine (Forward_any a b _ ha hb).mono ?_
    rintro e w1 ⟨rfl, k⟩
    have B1 := bvia (below2 _ _ _) k
    obtain ⟨cp1, fp1, zp1⟩ := (Blk.at (w.heap.size + 1) (by simp)).call k
    clear k
    go_wp2_with fail
    refine (Compare_any p (firstM a b) _ hp gf).mono ?_
    rintro e w2 ⟨rfl, k⟩
    have B2 := bvia (B1.alloc B1.size _) k
    obtain ⟨cp2, fp2, zp2⟩ := ((Blk.mk cp1 fp1 zp1).alloc _).call k
    obtain ⟨cf2, ff2, zf2⟩ := (Blk.new w1 _ _).call k
    clear k cp1 fp1 B1
    go_wp2_with fail
    refine (Compare_any p (lastM a b) _ hp gl).mono ?_
    rintro e w3 ⟨rfl, k⟩
    have B3 := bvia B2 k
    clear k cp2 fp2 cf2 ff2 B2
    go_wp2
    go_ret
    exact ⟨ret_bool H.out.symm, B3⟩

set_option maxHeartbeats 1000000 in
theorem segSide_any (a b p : Pt) (w : World) (ha : Gd a) (hb : Gd b) (hp : Gd p) :
    Calls Tryz.prog 131 #[sg a b, p.v] w fun e w' => e = .returned (.int .i64 (sideM a b p)) ∧ Below w.heap.size w w' := by
  have gf := firstM_gd ha hb
  have gl := lastM_gd ha hb
  go_enter Tryz.func131, Tryz.ntmps131
  go_wp2_with fail
  refine (Forward_any a b _ ha hb).mono ?_
  rintro e w1 ⟨rfl, k⟩
  have B1 := bvia (below2 _ _ _) k
  obtain ⟨cp1, fp1, zp1⟩ := (Blk.at (w.heap.size + 1) (by simp)).call k
  clear k
  go_wp2_with fail
  refine (Side_any (firstM a b) (lastM a b) p _ gf gl hp).mono ?_
  rintro e w2 ⟨rfl, k⟩
  have B2 := bvia (B1.alloc B1.size _) k
  clear k cp1 fp1 B1
  go_wp2
  go_ret
  exact ⟨rfl, B2⟩

set_option maxHeartbeats 1000000 in
theorem Has_any (a b p : Pt) (w : World) (ha : Gd a) (hb : Gd b) (hp : Gd p) :
    Calls Tryz.prog 108 #[sg a b, p.v] w fun e w' => e = .returned (.bool (hasM a b p)) ∧ Below w.heap.size w w' := by
  have gf := firstM_gd ha hb
  have gl := lastM_gd ha hb
  by_cases h : cmpM p (firstM a b) < 0
  · have H := hide (has_no h)
    go_enter Tryz.func108, Tryz.ntmps108
    go_wp2_with fail
    refine (Forward_any a b _ ha hb).mono ?_
    rintro e w1 ⟨rfl, k⟩
    have B1 := bvia (below2 _ _ _) k
    obtain ⟨cp1, fp1, zp1⟩ := (Blk.at (w.heap.size + 1) (by simp)).call k
    clear k
    go_wp2_with fail
    refine (Compare_any p (firstM a b) _ hp gf).mono ?_
    rintro e w2 ⟨rfl, k⟩
    have B2 := bvia (B1.alloc B1.size _) k
    clear k cp1 fp1 B1
    go_wp2
    go_ret
    exact ⟨ret_bool H.out.symm, B2⟩
  by_cases h2 : 0 < cmpM p (lastM a b)
  · have H := hide (has_no2 h2)
    go_enter Tryz.func108, Tryz.ntmps108
    go_wp2_with fail
    refine (Forward_any a b _ ha hb).mono ?_
    rintro e w1 ⟨rfl, k⟩
    have B1 := bvia (below2 _ _ _) k
    obtain ⟨cp1, fp1, zp1⟩ := (Blk.at (w.heap.size + 1) (by simp)).call k
    clear k
    go_wp2_with fail
    refine (Compare_any p (firstM a b) _ hp gf).mono ?_
    rintro e w2 ⟨rfl, k⟩
    have B2 := bvia (B1.alloc B1.size _) k
    obtain ⟨cp2, fp2, zp2⟩ := ((Blk.mk cp1 fp1 zp1).alloc _).call k
    obtain ⟨cf2, ff2, zf2⟩ := (Blk.new w1 _ _).call k
    clear k cp1 fp1 B1
    go_wp2_with fail
    refine (Compare_any p (lastM a b) _ hp gl).mono ?_
    rintro e w3 ⟨rfl, k⟩
    have B3 := bvia B2 k
    clear k cp2 fp2 cf2 ff2 B2
    go_wp2
    go_ret
    exact ⟨ret_bool H.out.symm, B3⟩
  have H := hide (has_of h h2)
  have HS := hide (show detM (firstM a b) (lastM a b) p = sideM a b p from rfl)
  go_enter Tryz.func108, Tryz.ntmps108
  go_wp2_with fail
  refine (Forward_any a b _ ha hb).mono ?_
  rintro e w1 ⟨rfl, k⟩
  have B1 := bvia (below2 _ _ _) k
  obtain ⟨cp1, fp1, zp1⟩ := (Blk.at (w.heap.size + 1) (by simp)).call k
  clear k
  go_wp2_with fail
  refine (Compare_any p (firstM a b) _ hp gf).mono ?_
  rintro e w2 ⟨rfl, k⟩
  have B2 := bvia (B1.alloc B1.size _) k
  obtain ⟨cp2, fp2, zp2⟩ := ((Blk.mk cp1 fp1 zp1).alloc _).call k
  obtain ⟨cf2, ff2, zf2⟩ := (Blk.new w1 _ _).call k
  clear k cp1 fp1 B1
  go_wp2_with fail
  refine (Compare_any p (lastM a b) _ hp gl).mono ?_
  rintro e w3 ⟨rfl, k⟩
  have B3 := bvia B2 k
  obtain ⟨cp3, fp3, zp3⟩ := (Blk.mk cp2 fp2 zp2).call k
  obtain ⟨cf3, ff3, zf3⟩ := (Blk.mk cf2 ff2 zf2).call k
  clear k cp2 fp2 cf2 ff2 B2
  go_wp2_with fail
  refine (Side_any (firstM a b) (lastM a b) p _ gf gl hp).mono ?_
  rintro e w4 ⟨rfl, k⟩
  have B4 := bvia B3 k
  clear k cp3 fp3 cf3 ff3 B3
  go_wp2
  go_ret
  exact ⟨ret_bool (by rw [H.out]; rfl), B4⟩

set_option maxHeartbeats 1000000 in
theorem isOver_any (a b p : Pt) (w : World) (ha : Gd a) (hb : Gd b) (hp : Gd p) :
    Calls Tryz.prog 109 #[sg a b, p.v] w fun e w' => e = .returned (.bool (overM a b p)) ∧ Below w.heap.size w w' := by
  cases h : spanM a b p
  · have H : Hid (overM a b p = false) := by unfold overM; rw [h]; exact hide rfl
    go_enter Tryz.func109, Tryz.ntmps109
    go_wp2_with fail
    refine (Spans_any a b p _ ha hb hp).mono ?_
    rintro e w1 ⟨rfl, k⟩
    have B1 := bvia (below2 _ _ _) k
    rw [h]
    clear k h
    go_wp2
    go_ret
    exact ⟨ret_bool H.out.symm, B1⟩
  · have H : Hid (overM a b p = decide (sideM a b p < 0)) := by unfold overM; rw [h]; exact hide rfl
    go_enter Tryz.func109, Tryz.ntmps109
    go_wp2_with fail
    refine (Spans_any a b p _ ha hb hp).mono ?_
    rintro e w1 ⟨rfl, k⟩
    have B1 := bvia (below2 _ _ _) k
    obtain ⟨cs1, fs1, zs1⟩ := ((Blk.new w _ _).alloc _).call k
    obtain ⟨cp1, fp1, zp1⟩ := (Blk.at (w.heap.size + 1) (by simp)).call k
    rw [h]
    clear k h
    go_wp2_with fail
    refine (segSide_any a b p _ ha hb hp).mono ?_
    rintro e w2 ⟨rfl, k⟩
    have B2 := bvia B1 k
    clear k cs1 fs1 cp1 fp1 B1
    go_wp2
    go_ret
    exact ⟨ret_bool H.out.symm, B2⟩

def otherM (n : Int) : Int := if n = 0 then 1 else 0
set_option maxHeartbeats 400000 in
theorem other_any (n : Int) (w : World) :
    Calls Tryz.prog 110 #[.int .i64 n] w fun e w' => e = .returned (.int .i64 (otherM n)) ∧ w' = w := by
  by_cases h : n = 0
  · subst h
    go_enter Tryz.func110, Tryz.ntmps110
    go_wp2
    go_ret
    exact ⟨rfl, rfl⟩
  · have H : Hid (otherM n = 0) := if_neg h
    have h' : (n == 0) = false := by simpa using h
    go_enter Tryz.func110, Tryz.ntmps110
    go_wp2
    go_ret
    exact ⟨ret_int H.out.symm, rfl⟩
end Go.Proofs.YtnkcbephceollaaGreat
