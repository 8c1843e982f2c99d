import Derived.Test.YtnkcbephceollaaQ39
import Derived.Test.YtnkcbephceollaaQ10
import Derived.Test.YtnkcbephceollaaF5
namespace Go.Proofs.Ytnkcbephceollaa
open Go.RowKit
set_option linter.unusedSimpArgs false
set_option linter.unusedVariables false

theorem infoInt : (Try.prog.info? 3).map (fun i => (i.zero, i.size, i.bytes)) = some (some (.int .i64 0), 1, 8) := by kernel_rfl
/-- Numbers, as cells. -/
def numCells (l : List Nat) : List Value := l.map fun (k : Nat) => .int .i64 (k : Int)
def folL (L : List (Pt × Pt)) (i : Nat) : List Nat := (List.range i).map (fun j => folM L j L.length)
theorem folL_succ (L : List (Pt × Pt)) (i : Nat) : folL L (i + 1) = folL L i ++ [folM L i L.length] := by
  unfold folL; rw [List.range_succ, List.map_append]; rfl
theorem folL_len (L : List (Pt × Pt)) (i : Nat) : (folL L i).length = i := by unfold folL; simp

set_option maxRecDepth 100000 in
set_option maxHeartbeats 20000000 in
theorem followers_any (v : Value) (L : List (Pt × Pt)) (w : World) (hL : SegsAt w v L) (hG : GdE L) (hn : L.length ≤ 1000000) :
    Calls Try.prog 65 #[v] w fun e w' => ∃ v', e = .returned v' ∧ w'.ownsRow w.heap.size 3 1 v' (nextsM L).length (numCells (nextsM L)) ∧ Below w.heap.size w w' := by
  obtain ⟨a, cap, rfl, a1, a2, a3⟩ := hL
  unfold maxLen at a2
  have HA := hide a3
  obtain ⟨i0, hi0, hz0, hz1, hz2⟩ := info_parts infoInt
  have HG := hide hG
  clear a3 hG
  go_enter Try.func65, Try.ntmps65
  go_wp2_with fail
  go_loopw [3, 4, 5, 6, 7, 8, 11] (fun lv _ _ _ _ _ iv w' => ∃ i : Nat, iv = .int .i64 i ∧ i ≤ L.length ∧ w'.ownsRow w.heap.size 3 1 lv i (numCells (folL L i)) ∧ Below w.heap.size w w') (fun _ _ _ _ _ _ iv _ => L.length - (intOf iv).toNat)
  case atStart => exact ⟨0, rfl, Nat.zero_le _, World.ownsRow_nil _ _ _ _, Below.refl _ _⟩
  case round =>
    obtain ⟨i, rfl, hi, hO, hbel⟩ := hrel
    by_cases hlt : i < L.length
    · obtain ⟨b, off, rfl, hb, hs⟩ := HA.out i hlt
      obtain ⟨c0, c1, c2, c3, c4, c5⟩ := hs.later hbel hb
      obtain ⟨g1, g2⟩ := HG.out i hlt
      have HFL := hide (folL_succ L i)
      have HF0 := hide (show folM L i 0 = i from rfl)
      have HFS := hide (fun k => show folM L i (k + 1) = if cmpM (edg L k).1 (edg L i).2 ≠ 0 then folM L i k else if folM L i k = i ∨ aheadM (edg L k).2 (edg L (folM L i k)).2 (edg L i) = true then k else folM L i k from rfl)
      have HLT := hide (fun k h => fol_lt (L := L) hlt k h)
      have hFl := folL_len L i
      unfold edg at HFS
      generalize L.getD i (zP, zP) = e at *
      obtain ⟨W1, hW1⟩ : ∃ W, W = wr.alloc (.cells #[.int .i64 e.1.x, .int .i64 e.1.y, .int .i64 e.1.d, .int .i64 e.2.x, .int .i64 e.2.y, .int .i64 e.2.d] 75) := ⟨_, rfl⟩
      obtain ⟨eb, heb⟩ : ∃ b, b = wr.heap.size := ⟨_, rfl⟩
      have B1 : Below w.heap.size w W1 := by rw [hW1]; exact hbel.alloc hbel.size _
      have O1 : Hid (W1.ownsRow w.heap.size 3 1 u3 i (numCells (folL L i))) := by rw [hW1]; exact hO.alloc _
      have E1 : Blk W1 eb #[.int .i64 e.1.x, .int .i64 e.1.y, .int .i64 e.1.d, .int .i64 e.2.x, .int .i64 e.2.y, .int .i64 e.2.d] := by rw [hW1, heb]; exact Blk.new wr _ _
      clear hs hO
      go_upto_region 5 with fail
      rw [← hW1, ← heb]
      clear hW1 heb c0 c1 c2 c3 c4 c5 hbel
      go_wp2_with fail
      go_loopw [6, 7, 8, 19] (fun fv _ _ kv w' => ∃ k : Nat, kv = .int .i64 k ∧ k ≤ L.length ∧ fv = .int .i64 (folM L i k : Nat) ∧ Blk w' eb #[.int .i64 e.1.x, .int .i64 e.1.y, .int .i64 e.1.d, .int .i64 e.2.x, .int .i64 e.2.y, .int .i64 e.2.d] ∧ Hid (w'.ownsRow w.heap.size 3 1 u3 i (numCells (folL L i))) ∧ Below w.heap.size w w') (fun _ _ _ kv _ => L.length - (intOf kv).toNat)
      case atStart => exact ⟨0, rfl, Nat.zero_le _, by rw [HF0.out], E1, O1, B1⟩
      case round =>
        clear E1 O1 B1
        obtain ⟨k, rfl, hk, rfl, hE, HO, hbel⟩ := hrel
        by_cases hkt : k < L.length
        · obtain ⟨b', off', e', hb', hs⟩ := HA.out k hkt
          simp at e'
          obtain ⟨rfl, rfl⟩ := e'
          obtain ⟨d0, d1, d2, d3, d4, d5⟩ := hs.later hbel hb'
          obtain ⟨g3, g4⟩ := HG.out k hkt
          have hcl := HLT.out k hk
          obtain ⟨b2, off2, e2, hb2, hs2⟩ := HA.out _ hcl
          simp at e2
          obtain ⟨rfl, rfl⟩ := e2
          obtain ⟨g5, g6⟩ := HG.out _ hcl
          have HS1 := hide (HFS.out k)
          generalize L.getD k (zP, zP) = f at *
          generalize hg : L.getD (folM L i k) (zP, zP) = g at *
          clear hg
          generalize hc : folM L i k = c at *
          clear hc
          obtain ⟨W2, hW2⟩ : ∃ W, W = wr.alloc (.cells #[.int .i64 f.1.x, .int .i64 f.1.y, .int .i64 f.1.d, .int .i64 f.2.x, .int .i64 f.2.y, .int .i64 f.2.d] 75) := ⟨_, rfl⟩
          obtain ⟨fb, hfb⟩ : ∃ b, b = wr.heap.size := ⟨_, rfl⟩
          have B2 : Below w.heap.size w W2 := by rw [hW2]; exact hbel.alloc hbel.size _
          have HO2 : Hid (W2.ownsRow w.heap.size 3 1 u3 i (numCells (folL L i))) := by rw [hW2]; exact HO.out.alloc _
          have E2 : Blk W2 eb #[.int .i64 e.1.x, .int .i64 e.1.y, .int .i64 e.1.d, .int .i64 e.2.x, .int .i64 e.2.y, .int .i64 e.2.d] := by rw [hW2]; exact hE.alloc _
          have F2 : Blk W2 fb #[.int .i64 f.1.x, .int .i64 f.1.y, .int .i64 f.1.d, .int .i64 f.2.x, .int .i64 f.2.y, .int .i64 f.2.d] := by rw [hW2, hfb]; exact Blk.new wr _ _
          have hsz := hbel.size
          clear hs
          go_upto_region 9 with fail
          rw [← hW2, ← hfb]
          clear hW2 hfb d0 d1 d2 d3 d4 d5 hbel HO hE
          obtain ⟨ce, fe, ze⟩ := id E2
          obtain ⟨cf, ff, zf⟩ := id F2
          have CC := fun wz => Compare_any f.1 e.2 wz g3 g2
          have CA := hide (fun wz => isMetAhead_any f.2 g.2 e wz g4 g6 g1 g2)
          go_wp2_with fail
          refine (CC _).mono ?_
          rintro e' w3 ⟨rfl, k3⟩
          have B3 := bvia B2 k3
          have HO3 := hide (own_later HO2.out k3)
          have E3 := E2.call k3
          have F3 := F2.call k3
          have G3 := hs2.later B3 hb2
          clear ce fe ze cf ff zf CC B2 HO2 E2 F2 k3
          generalize hcm : cmpM f.1 e.2 = cm at *
          by_cases hz : cm = 0
          · have hz' : (cm != 0) = false := by simpa using hz
            have HS2 : Hid (folM L i (k + 1) = if c = i ∨ aheadM f.2 g.2 e = true then k else c) := by rw [HS1.out, if_neg (by simpa using hz)]; exact hide rfl
            clear HS1 HFS
            obtain ⟨ce, fe, ze⟩ := id E3
            obtain ⟨cf, ff, zf⟩ := id F3
            obtain ⟨q0, q1, q2, q3, q4, q5⟩ := G3
            have B4 := hide B3
            have E4 := hide E3
            have hzb := B3.size
            clear E3 F3 B3
            go_upto_region 10 with fail
            go_cut [43] (fun cv w' => cv = .bool (decide (c = i) || aheadM f.2 g.2 e) ∧ Below w3.heap.size w3 w')
            case first =>
              clear HS2 HA HG HLT HFL HF0 HO3 B4 E4
              by_cases hci : c = i
              · subst hci
                clear CA
                go_quiet (fail)
                go_wp2
                go_meet
                case rel => exact ⟨by simp, below_drewN (Below.refl _ _) _⟩
              · have hci' : ¬ ((c : Int) = (i : Int)) := by omega
                have hc0 : (0 : Int) ≤ (c : Int) := Int.natCast_nonneg _
                have hc1 : (c : Int) < (L.length : Int) := by omega
                have y0 := cf 3
                have y1 := cf 4
                have y2 := cf 5
                have y3 := ce 0
                have y4 := ce 1
                have y5 := ce 2
                have y6 := ce 3
                have y7 := ce 4
                have y8 := ce 5
                simp at y0 y1 y2 y3 y4 y5 y6 y7 y8
                have hb3 : b < w3.heap.size := by omega
                clear ce cf q0 q1 q2
                have hci1 : ((c : Int) == (i : Int)) = false := by simp; omega
                go_region_held3 (fun w' => w'.cell? ⟨fb, 3, none⟩ = some (.int .i64 f.2.x) ∧ w'.cell? ⟨fb, 4, none⟩ = some (.int .i64 f.2.y) ∧ w'.cell? ⟨fb, 5, none⟩ = some (.int .i64 f.2.d) ∧ w'.cell? ⟨b, off + c * 6 + 3, none⟩ = some (.int .i64 g.2.x) ∧ w'.cell? ⟨b, off + c * 6 + 4, none⟩ = some (.int .i64 g.2.y) ∧ w'.cell? ⟨b, off + c * 6 + 5, none⟩ = some (.int .i64 g.2.d) ∧ w'.cell? ⟨eb, 0, none⟩ = some (.int .i64 e.1.x) ∧ w'.cell? ⟨eb, 1, none⟩ = some (.int .i64 e.1.y) ∧ w'.cell? ⟨eb, 2, none⟩ = some (.int .i64 e.1.d) ∧ w'.cell? ⟨eb, 3, none⟩ = some (.int .i64 e.2.x) ∧ w'.cell? ⟨eb, 4, none⟩ = some (.int .i64 e.2.y) ∧ w'.cell? ⟨eb, 5, none⟩ = some (.int .i64 e.2.d))
                  (first
                    | go_keep
                    | (go_split_ands
                       refine ⟨?_, ?_, ?_, ?_, ?_, ?_, ?_, ?_, ?_, ?_, ?_, ?_⟩
                       · (rw [k4.cell (p := ⟨fb, 3, none⟩) (by simp; omega)]; assumption)
                       · (rw [k4.cell (p := ⟨fb, 4, none⟩) (by simp; omega)]; assumption)
                       · (rw [k4.cell (p := ⟨fb, 5, none⟩) (by simp; omega)]; assumption)
                       · (rw [k4.cell (p := ⟨b, off + c * 6 + 3, none⟩) (by simp; omega)]; assumption)
                       · (rw [k4.cell (p := ⟨b, off + c * 6 + 4, none⟩) (by simp; omega)]; assumption)
                       · (rw [k4.cell (p := ⟨b, off + c * 6 + 5, none⟩) (by simp; omega)]; assumption)
                       · (rw [k4.cell (p := ⟨eb, 0, none⟩) (by simp; omega)]; assumption)
                       · (rw [k4.cell (p := ⟨eb, 1, none⟩) (by simp; omega)]; assumption)
                       · (rw [k4.cell (p := ⟨eb, 2, none⟩) (by simp; omega)]; assumption)
                       · (rw [k4.cell (p := ⟨eb, 3, none⟩) (by simp; omega)]; assumption)
                       · (rw [k4.cell (p := ⟨eb, 4, none⟩) (by simp; omega)]; assumption)
                       · (rw [k4.cell (p := ⟨eb, 5, none⟩) (by simp; omega)]; assumption)))
                  ((go_at_call 83; refine (CA.out _).mono ?_; rintro e' w4 ⟨rfl, k4⟩))
                all_goals
                  go_wp2_with fail
                  go_meet
                  case rel => exact ⟨by simp [hci], bvia (Below.refl _ _).drew k4⟩
            case rest =>
              obtain ⟨rfl, k4⟩ := hcut
              have B5 := bvia B4.out k4
              have E5 := E4.out.call k4
              have HO5 := hide (own_later HO3.out k4)
              clear B4 E4 HO3 CA k4 ce fe ze cf ff zf q0 q1 q2 q3 q4 q5
              cases hor : (decide (c = i) || aheadM f.2 g.2 e)
              · have HS3 : Hid (folM L i (k + 1) = c) := by rw [HS2.out, if_neg (by simpa using hor)]; exact hide rfl
                clear HS2 hor
                go_wp2
                go_roundw
                case rel => exact ⟨k + 1, by go_num, by omega, by rw [HS3.out], E5, HO5, B5⟩
                case measure => simp [intOf]; omega
              · have HS3 : Hid (folM L i (k + 1) = k) := by rw [HS2.out, if_pos (by simpa using hor)]; exact hide rfl
                clear HS2 hor
                go_wp2
                go_roundw
                case rel => exact ⟨k + 1, by go_num, by omega, by rw [HS3.out], E5, HO5, B5⟩
                case measure => simp [intOf]; omega
          · have hz' : (cm != 0) = true := by simpa using hz
            have HS2 : Hid (folM L i (k + 1) = c) := by rw [HS1.out, if_pos hz]; exact hide rfl
            clear HS1 HFS G3
            go_wp2
            go_roundw
            case rel => exact ⟨k + 1, by go_num, by omega, by rw [HS2.out], E3, HO3, B3⟩
            case measure => simp [intOf]; omega
        · have ek : k = L.length := by omega
          subst ek
          clear HFS HF0
          generalize folM L i L.length = c at *
          have hl1 := (HO.out.lt)
          have hnews := World.news_of_block (w := wr.alloc (.cells #[.int .i64 (c : Nat)] 3)) (cs := #[.int .i64 (c : Nat)]) (t := 3) (fr := (0, 0)) (heap_alloc_new wr _)
          have hsz := hbel.size
          go_wp2_with (at_builtin; refine wpList_append_lies _ rfl _ _ _ rfl w.heap.size 3 i0 _ 1 8 Try.underlying22 hi0 hz0 hz1 hz2 rfl (by omega) u3 i (numCells (folL L i)) rfl (HO.out.alloc _) ⟨wr.heap.size, 0, none⟩ 1 1 [.int .i64 (c : Nat)] rfl rfl hnews (by simp [Value.oneCell']) (by omega) (by unfold maxLen; omega) (by omega) (by simp; omega) _ rfl ?_; intro gg cp w4 ho hgrow hat hlt4)
          have O4 : Hid (w4.ownsRow w.heap.size 3 1 (.slice (some ⟨gg, 0, none⟩) (i + 1) cp) (i + 1) (numCells (folL L (i + 1)))) := by
            refine hide ?_
            rw [HFL.out]; unfold numCells; rw [List.map_append]; exact ho
          have B4 : Hid (Below w.heap.size w w4) := hide (Below.grown (hbel.alloc hbel.size _) hgrow (by have := hbel.size; simp; omega) (fun q hq => (HO.out.lt q hq).1))
          clear ho hgrow hat hnews HO hE hbel hl1
          go_wp2
          go_roundw
          case rel => exact ⟨i + 1, by go_num, by omega, O4.out, B4.out⟩
          case measure => simp [intOf]; omega
    · have ei : i = L.length := by omega
      subst ei
      have HO := hide hO
      clear hO HA HG
      go_wp2
      go_ret
      exact ⟨_, rfl, by rw [nexts_len]; exact HO.out, hbel⟩
end Go.Proofs.Ytnkcbephceollaa
namespace Go.Proofs.Ytnkcbephceollaa
open Go.RowKit
set_option linter.unusedSimpArgs false
set_option linter.unusedVariables false

/-- An append of a row that may be empty. -/
theorem wpList_append_both {P : Program} {w : World} {ops : Array Oper} {rest : List Oper} {o : Oper} {a : Act} {Q : Exit → Act → World → Prop} (hgd : o.guard = none) (s x : Operand) (t : TypeId)
    (ho : o.op = .call { callee := .builtin .append, args := #[s, x], argTypes := #[t, t] })
    (base : Nat) (e : TypeId) (i : TypeInfo) (z : Value) (size bytes : Nat) (ht : P.underlying t = some (.slice e)) (hi : P.info? e = some i) (hz : i.zero = some z)
    (hsize : i.size = size) (hby : i.bytes = bytes) (hzs : z.cells.size = size) (hsz : 0 < size)
    (v : Value) (n : Nat) (xs : List Value) (hs : a.eval s = v) (hown : w.ownsRow base e size v n xs)
    (ad : Option Addr) (m c : Nat) (news : List Value) (hx : a.eval x = .slice ad m c) (hl : news.length = m * size)
    (hnews : 0 < m → ∃ A, ad = some A ∧ ∀ j u, news[j]? = some u → w.cell? (A.add j) = some u) (h1 : ∀ u ∈ news, u.oneCell' = true)
    (h63 : n + m ≤ maxLen) (hbytes : (n + m) * bytes ≤ 140737488355328) (hbase : base ≤ w.heap.size)
    (h : ∀ v' w', w'.ownsRow base e size v' (n + m) (xs ++ news) → Kp (fun b => v.ownBlock = some b) w w' → wpList P ops Q rest (a.put o.dst v') w') : wpList P ops Q (o :: rest) a w := by
  by_cases hm : 0 < m
  · obtain ⟨A, rfl, hA⟩ := hnews hm
    refine wpList_append_lies w hgd s x t ho base e i z size bytes ht hi hz hsize hby hzs hsz v n xs hs hown A m c news hx hl hA h1 hm h63 hbytes hbase _ rfl ?_
    intro g cap w' h2 h3 _ _
    exact h _ _ h2 (Kp.grown (Kp.refl _ _) h3 (fun k hk => hk))
  · have hm0 : m = 0 := by omega
    subst hm0
    have hn : news = [] := List.eq_nil_of_length_eq_zero (by omega)
    subst hn
    refine wpList_append_zero hgd s x t ho base e i size ht hi v n xs hs hown ad c hx ?_
    exact h v w (by simpa using hown) (Kp.refl _ _)
theorem segs_both {w : World} {a : Option Addr} {cap : Nat} {E : List (Pt × Pt)} (h : SegsAt w (.slice a E.length cap) E) : 0 < E.length → ∃ A, a = some A ∧ ∀ j u, (segCells E)[j]? = some u → w.cell? (A.add j) = some u := by
  intro h0
  obtain ⟨a', cap', e, h1, h2, h3⟩ := h
  injection e with e1 e2 e3
  subst e1
  obtain ⟨b, off, rfl, hb, _⟩ := h3 0 h0
  refine ⟨⟨b, off, none⟩, rfl, segs_news fun j hj => ?_⟩
  obtain ⟨b', off', e', _, hp⟩ := h3 j hj
  simp at e'
  obtain ⟨rfl, rfl⟩ := e'
  exact hp
theorem ring_both {w : World} {a : Option Addr} {cap : Nat} {r : List Pt} (h : RingAt w (.slice a r.length cap) r) : 0 < r.length → ∃ A, a = some A ∧ ∀ j u, (ptCells r)[j]? = some u → w.cell? (A.add j) = some u := by
  intro h0
  obtain ⟨a', cap', e, h1, h2, h3⟩ := h
  injection e with e1 e2 e3
  subst e1
  obtain ⟨b, off, rfl, hb, _⟩ := h3 0 h0
  refine ⟨⟨b, off, none⟩, rfl, ring_news fun j hj => ?_⟩
  obtain ⟨b', off', e', _, hp⟩ := h3 j hj
  simp at e'
  obtain ⟨rfl, rfl⟩ := e'
  exact hp
end Go.Proofs.Ytnkcbephceollaa
namespace Go.Proofs.Ytnkcbephceollaa
open Go.RowKit
set_option linter.unusedSimpArgs false
set_option linter.unusedVariables false

theorem rot_mem {r : List Pt} {i : Nat} {p : Pt} (h : p ∈ rotL r i) : p ∈ r := by
  unfold rotL at h
  rcases List.mem_append.1 h with h | h
  · exact List.mem_of_mem_drop h
  · exact List.mem_of_mem_take h
theorem rot_len (r : List Pt) (i : Nat) (hi : i ≤ r.length) : (rotL r i).length = r.length := by unfold rotL; simp; omega
theorem least_mem {r : List Pt} {p : Pt} : ∀ i, p ∈ leastL r i → p ∈ r
  | 0, h => by simp [leastL] at h
  | i + 1, h => by
    unfold leastL at h
    split at h
    · exact rot_mem h
    · exact least_mem i h
theorem least_len (r : List Pt) : ∀ i, i ≤ r.length → (leastL r i).length ≤ r.length
  | 0, _ => by simp [leastL]
  | i + 1, h => by
    unfold leastL
    split
    · rw [rot_len r i (by omega)]; exact Nat.le_refl _
    · exact least_len r i (by omega)
/-- A part of a ring, from its i-th point on. -/
theorem tail_both {w : World} {b off n cap i : Nat} {r : List Pt} (hr : ∀ j, j < r.length → PtAt w b (off + j * 3) (r.getD j zP)) (hi : i < r.length) : ∀ j u, (ptCells (r.drop i))[j]? = some u → w.cell? ((⟨b, off + i * 3, none⟩ : Addr).add j) = some u := by
  refine ring_news (fun j hj => ?_)
  rw [List.length_drop] at hj
  have e1 : (r.drop i).getD j zP = r.getD (i + j) zP := by rw [List.getD_eq_getElem?_getD, List.getD_eq_getElem?_getD, List.getElem?_drop]
  have e2 : off + i * 3 + j * 3 = off + (i + j) * 3 := by omega
  rw [e1, e2]; exact hr (i + j) (by omega)
theorem head_both {w : World} {b off i : Nat} {r : List Pt} (hr : ∀ j, j < r.length → PtAt w b (off + j * 3) (r.getD j zP)) (hi : i ≤ r.length) : ∀ j u, (ptCells (r.take i))[j]? = some u → w.cell? ((⟨b, off, none⟩ : Addr).add j) = some u := by
  refine ring_news (fun j hj => ?_)
  rw [List.length_take] at hj
  have e1 : (r.take i).getD j zP = r.getD j zP := by rw [List.getD_eq_getElem?_getD, List.getD_eq_getElem?_getD, List.getElem?_take_of_lt (by omega)]
  rw [e1]; exact hr j (by omega)

set_option maxRecDepth 100000 in
set_option maxHeartbeats 2000000 in
theorem fromLeast_any (v : Value) (r : List Pt) (w : World) (hr : RingAt w v r) (hG : ∀ p ∈ r, Gd p) (hn : r.length ≤ 1000000) :
    Calls Try.prog 67 #[v] w fun e w' => ∃ v', e = .returned v' ∧ w'.ownsRow w.heap.size 25 3 v' (leastL r r.length).length (ptCells (leastL r r.length)) ∧ Below w.heap.size w w' := by
  obtain ⟨a, cap, rfl, a1, a2, a3⟩ := hr
  unfold maxLen at a2
  have HA := hide a3
  obtain ⟨i0, hi0, hz0, hz1, hz2⟩ := info_parts infoPoint
  have HG := hide hG
  clear a3 hG
  go_enter Try.func67, Try.ntmps67
  go_wp2_with fail
  go_loopw [3, 4, 5, 8] (fun lv _ _ iv w' => ∃ i : Nat, iv = .int .i64 i ∧ i ≤ r.length ∧ w'.ownsRow w.heap.size 25 3 lv (leastL r i).length (ptCells (leastL r i)) ∧ Below w.heap.size w w') (fun _ _ _ iv _ => r.length - (intOf iv).toNat)
  case atStart => exact ⟨0, rfl, Nat.zero_le _, World.ownsRow_nil _ _ _ _, Below.refl _ _⟩
  case round =>
    obtain ⟨i, rfl, hi, hO, hbel⟩ := hrel
    by_cases hlt : i < r.length
    · obtain ⟨b, off, rfl, hb, _⟩ := HA.out i hlt
      have hP : ∀ wz, Below w.heap.size w wz → ∀ j, j < r.length → PtAt wz b (off + j * 3) (r.getD j zP) := fun wz kz j hj => by
        obtain ⟨b', off', e', hb', hp⟩ := HA.out j hj
        simp at e'
        obtain ⟨rfl, rfl⟩ := e'
        exact hp.later kz hb'
      have HP := hide hP
      have HT := hide (tail_both (n := 0) (cap := 0) (hP wr hbel) hlt)
      have hll := least_len r i hi
      have HLm := hide (fun p => least_mem (r := r) (p := p) i)
      have HLs := hide (show leastL r (i + 1) = if i = 0 ∨ clM (rotL r i) (leastL r i) < 0 then rotL r i else leastL r i from rfl)
      have hO' := hide hO
      have hB' := hide hbel
      have hsz := hbel.size
      have hi0' : (0 : Int) ≤ (i : Int) := Int.natCast_nonneg _
      have hi1' : (i : Int) ≤ (r.length : Int) := by omega
      have hcap : ¬ cap = i := by omega
      have hcap' : (i : Int) ≤ (cap : Int) := by omega
      generalize leastL r i = M at *
      clear hP hO
      go_upto_region 6 with fail
      go_cut [5] (fun lv w' => w'.ownsRow wr.heap.size 25 3 lv (r.drop i).length (ptCells (r.drop i)) ∧ Below wr.heap.size wr w')
      case first =>
        have hn1 : 0 + (r.length - i) ≤ maxLen := by unfold maxLen; omega
        have hn2 : (0 + (r.length - i)) * 24 ≤ 140737488355328 := by omega
        have hn0 : 0 < r.length - i := by omega
        have hpl : (ptCells (r.drop i)).length = (r.length - i) * 3 := by rw [ptCells_len, List.length_drop]
        clear hO' hB' HLs HLm HP HG
        go_wp2_with (at_builtin; refine wpList_append_lies _ rfl _ _ _ rfl wr.heap.size 25 i0 _ 3 24 Try.underlying44 hi0 hz0 hz1 hz2 rfl (by omega) (.slice none 0 0) 0 [] rfl (World.ownsRow_nil _ _ _ _) ⟨b, off + i * 3, none⟩ (r.length - i) (cap - i) (ptCells (r.drop i)) rfl hpl HT.out (ptCells_one _) hn0 hn1 hn2 (Nat.le_refl _) _ rfl ?_; intro gg cp w3 hown3 hgrow hat hlt3)
        go_meet
        case rel => exact ⟨by rw [List.length_drop]; simpa using hown3, Below.grown (Below.refl _ _) hgrow (Nat.le_refl _) (fun k hk => by simp [Value.ownBlock] at hk)⟩
      case rest =>
        obtain ⟨o1, k1⟩ := hcut
        have O1 := hide o1
        have K1 := hide k1
        have z1 := k1.size
        have HH := hide (head_both (HP.out wc (bvia hB'.out k1)) hi)
        clear o1 k1 HT
        go_upto_region 7 with fail
        go_cut [5] (fun lv w' => w'.ownsRow wr.heap.size 25 3 lv (rotL r i).length (ptCells (rotL r i)) ∧ Below wr.heap.size wr w')
        case first =>
          have hn1 : (r.drop i).length + i ≤ maxLen := by rw [List.length_drop]; unfold maxLen; omega
          have hn2 : ((r.drop i).length + i) * 24 ≤ 140737488355328 := by rw [List.length_drop]; omega
          have hpl : (ptCells (r.take i)).length = i * 3 := by rw [ptCells_len, List.length_take]; omega
          have HN : Hid (0 < i → ∃ A, (some ⟨b, off, none⟩ : Option Addr) = some A ∧ ∀ j u, (ptCells (r.take i))[j]? = some u → wc.cell? (A.add j) = some u) := fun _ => ⟨_, rfl, HH.out⟩
          clear hO' hB' HLs HLm HP HG
          go_wp2_with (at_builtin; refine wpList_append_both rfl _ _ _ rfl wr.heap.size 25 i0 _ 3 24 Try.underlying44 hi0 hz0 hz1 hz2 rfl (by omega) u5 (r.drop i).length (ptCells (r.drop i)) rfl O1.out (some ⟨b, off, none⟩) i cap (ptCells (r.take i)) rfl hpl HN.out (ptCells_one _) hn1 hn2 z1 ?_; intro v4 w4 o4 k4)
          go_meet
          case rel => exact ⟨by unfold rotL; rw [ptCells_append, List.length_append, List.length_take, Nat.min_eq_left hi]; exact o4, below_kp K1.out k4 K1.out.size (fun b h => (O1.out.lt b h).1)⟩
        case rest =>
          clear O1 K1 HH z1
          obtain ⟨o2, k2⟩ := hcut
          have hrl := rot_len r i hi
          have R2 := hide (ring_of_own o2 (by unfold maxLen; omega))
          have o3 := own_later hO'.out k2
          have R3 := hide (ring_of_own o3 (by unfold maxLen; omega))
          have O2 := hide (own_mono o2 hsz)
          have O3 := hide o3
          have B2 := hide (bvia hB'.out k2)
          have CL := hide (CompareLists_any u5 u3 (rotL r i) M wc R2.out R3.out (fun p hp => HG.out p (rot_mem hp)) (fun p hp => HG.out p (HLm.out p hp)))
          clear o2 o3 k2 hO' hB' R2 R3
          by_cases hz : i = 0
          · have HS : Hid (leastL r (i + 1) = rotL r i) := by rw [HLs.out, if_pos (.inl hz)]; exact hide rfl
            have hz' : ((i : Int) == 0) = true := by simp; omega
            clear HLs CL
            go_wp2
            go_roundw
            case rel => exact ⟨i + 1, by go_num, by omega, by rw [HS.out]; exact O2.out, B2.out⟩
            case measure => simp [intOf]; omega
          · have hz' : ¬ ((i : Int) = 0) := by omega
            go_wp2_with fail
            refine CL.out.mono ?_
            rintro e' w4 ⟨rfl, k4⟩
            have O4 := hide (own_later O2.out k4)
            have O5 := hide (own_later O3.out k4)
            have B4 := hide (bvia B2.out k4)
            clear O2 O3 B2 k4 CL
            generalize hcc : clM (rotL r i) M = cc at *
            by_cases hc : cc < 0
            · have HS : Hid (leastL r (i + 1) = rotL r i) := by rw [HLs.out, if_pos (.inr hc)]; exact hide rfl
              clear HLs
              go_wp2
              go_roundw
              case rel => exact ⟨i + 1, by go_num, by omega, by rw [HS.out]; exact O4.out, B4.out⟩
              case measure => simp [intOf]; omega
            · have hcd : decide (cc < 0) = false := by simpa using hc
              have HS : Hid (leastL r (i + 1) = M) := by rw [HLs.out, if_neg (by simp only [hz, hc, or_self, not_false_eq_true])]; exact hide rfl
              clear HLs
              go_wp2
              go_roundw
              case rel => exact ⟨i + 1, by go_num, by omega, by rw [HS.out]; exact O5.out, B4.out⟩
              case measure => simp [intOf]; omega
    · have ei : i = r.length := by omega
      subst ei
      have HO := hide hO
      clear hO HA HG
      go_wp2
      go_ret
      exact ⟨_, rfl, HO.out, hbel⟩
end Go.Proofs.Ytnkcbephceollaa
