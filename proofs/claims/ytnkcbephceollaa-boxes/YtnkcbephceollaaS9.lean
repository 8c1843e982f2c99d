import Derived.Test.YtnkcbephceollaaS8
namespace Go.Proofs.Ytnkcbephceollaa
set_option linter.unusedSimpArgs false
set_option linter.unusedVariables false

def A1 (l : List Pt) : Prop := ∀ p ∈ l, p.d = 1
theorem A1.nil : A1 [] := fun p hp => by cases hp
theorem A1.getD {l : List Pt} (h : A1 l) (i : Nat) : O1 (l.getD i zP) := by
  by_cases c : i < l.length
  · exact .inl (h _ (getD_mem c zP))
  · right
    rw [List.getD_eq_getElem?_getD, List.getElem?_eq_none (by omega)]; rfl
theorem A1.ins {l : List Pt} {p : Pt} (h : A1 l) (hp : p.d = 1) : A1 (insM l p) := by
  unfold insM
  split
  · exact h
  · intro q hq
    rcases List.mem_append.1 hq with k | k
    · exact h q (List.mem_of_mem_take k)
    · rcases List.mem_cons.1 k with k | k
      · rw [k]; exact hp
      · exact h q (List.mem_of_mem_drop k)
theorem A1.rot {l : List Pt} (h : A1 l) (i : Nat) : A1 (rotL l i) := by
  intro q hq
  unfold rotL at hq
  rcases List.mem_append.1 hq with k | k
  · exact h q (List.mem_of_mem_drop k)
  · exact h q (List.mem_of_mem_take k)
theorem A1.least {l : List Pt} (h : A1 l) : ∀ i, A1 (leastL l i)
  | 0 => by rw [leastL]; exact A1.nil
  | i + 1 => by
    rw [leastL]
    split
    · exact h.rot i
    · exact A1.least h i
def okM (m : Mt) : Prop := (m.k ≠ 0 → m.p.d = 1) ∧ (m.k = 2 → m.q.d = 1)
theorem okM_z : okM zM := ⟨fun h => absurd rfl h, fun h => by cases h⟩
theorem line_ok {a b c d : Pt} (ha : a.d = 1) (hb : b.d = 1) (hc : c.d = 1) (hd : d.d = 1) : okM (lineM a b c d) := by
  have f1 : ∀ {p q : Pt}, p.d = 1 → q.d = 1 → (firstM p q).d = 1 := fun {p q} h1 h2 => by rcases first_is p q with e | e <;> rw [e] <;> assumption
  have f2 : ∀ {p q : Pt}, p.d = 1 → q.d = 1 → (lastM p q).d = 1 := fun {p q} h1 h2 => by rcases last_is p q with e | e <;> rw [e] <;> assumption
  unfold lineM
  dsimp only
  split
  · exact okM_z
  · split
    · exact ⟨fun _ => f2 (f1 ha hb) (f1 hc hd), fun h => by cases h⟩
    · exact ⟨fun _ => f2 (f1 ha hb) (f1 hc hd), fun _ => f1 (f2 ha hb) (f2 hc hd)⟩
theorem meet_ok {a b c d : Pt} (h1 : HV a b) (h2 : HV c d) (n1 : a ≠ b) (n2 : c ≠ d) : okM (meetM a b c d) := by
  obtain ⟨ha, hb, e1⟩ := h1
  obtain ⟨hc, hd, e2⟩ := h2
  have m1 := pt_ne ha hb n1
  have m2 := pt_ne hc hd n2
  rcases e1 with e1 | e1 <;> rcases e2 with e2 | e2
  · rw [meet_vv e1 e2 (m1.resolve_left (fun k => k e1))]
    split
    · exact line_ok ha hb hc hd
    · exact okM_z
  · rw [← meet_swp1 ha hb hc hd n1 n2, across_hv hc hd ha hb e2 e1 (m2.resolve_right (fun k => k e2)) (m1.resolve_left (fun k => k e1))]
    split
    · exact ⟨fun _ => rfl, fun h => by cases h⟩
    · exact okM_z
  · rw [across_hv ha hb hc hd e1 e2 (m1.resolve_right (fun k => k e1)) (m2.resolve_left (fun k => k e2))]
    split
    · exact ⟨fun _ => rfl, fun h => by cases h⟩
    · exact okM_z
  · rw [meet_hh e1 e2 (m1.resolve_right (fun k => k e1))]
    split
    · exact line_ok ha hb hc hd
    · exact okM_z
/-- Edges that go straight up or straight across. -/
def EHV (E : List (Pt × Pt)) : Prop := ∀ e ∈ E, HV e.1 e.2 ∧ e.1 ≠ e.2
theorem EHV.tl {e : Pt × Pt} {E : List (Pt × Pt)} (h : EHV (e :: E)) : EHV E := fun f hf => h f (List.mem_cons_of_mem _ hf)
theorem EHV.hd {e : Pt × Pt} {E : List (Pt × Pt)} (h : EHV (e :: E)) : HV e.1 e.2 ∧ e.1 ≠ e.2 := h e List.mem_cons_self
theorem neigh_in (p : Pt) (S : List Pt) : ∀ (E : List (Pt × Pt)) (l : List Pt) (q : Pt), q ∈ E.foldl (fun l e => if hasM e.1 e.2 p = true then (match S.find? (fun q => hasM e.1 e.2 q) with | some q => insM l q | none => l) else l) l → q ∈ l ∨ q ∈ S
  | [], l, q, h => .inl h
  | e :: E, l, q, h => by
    rw [List.foldl_cons] at h
    rcases neigh_in p S E _ q h with k | k
    · split at k
      · cases f : S.find? (fun q => hasM e.1 e.2 q) with
        | none => rw [f] at k; exact .inl k
        | some z =>
          rw [f] at k
          dsimp only at k
          have hz := List.mem_of_find?_eq_some f
          unfold insM at k
          split at k
          · exact .inl k
          · rcases List.mem_append.1 k with k | k
            · exact .inl (List.mem_of_mem_take k)
            · rcases List.mem_cons.1 k with k | k
              · rw [k]; exact .inr hz
              · exact .inl (List.mem_of_mem_drop k)
      · exact .inl k
    · exact .inr k
theorem pairs_in {E : List (Pt × Pt)} : ∀ {S : List Pt} {z : Pt × Pt}, z ∈ pairsL E S → z.1 ∈ S ∧ z.2 ∈ S
  | [], z, h => by simp [pairsL] at h
  | p :: S, z, h => by
    rw [pairsL] at h
    rcases List.mem_append.1 h with h | h
    · obtain ⟨q, hq, rfl⟩ := List.mem_map.1 h
      refine ⟨List.mem_cons_self, List.mem_cons_of_mem _ ?_⟩
      rcases neigh_in p S E [] q hq with k | k
      · cases k
      · exact k
    · have := pairs_in h
      exact ⟨List.mem_cons_of_mem _ this.1, List.mem_cons_of_mem _ this.2⟩
section
variable {φ ψ : Int → Int} (hφ : ∀ a b, a < b → φ a < φ b) (hψ : ∀ a b, a < b → ψ a < ψ b)
variable (φ ψ) in
def phE (e : Pt × Pt) : Pt × Pt := (ph φ ψ e.1, ph φ ψ e.2)
variable (φ ψ) in
def phR (P : List (List Pt)) : List (List Pt) := P.map (fun r => r.map (ph φ ψ))
variable (φ ψ) in
def phP (z : Pc) : Pc := ⟨ph φ ψ z.p, ph φ ψ z.q, z.la, z.ra, z.lb, z.rb⟩
theorem getD_ph (l : List Pt) (i : Nat) : (l.map (ph φ ψ)).getD i zP = ph φ ψ (l.getD i zP) := by
  rw [List.getD_eq_getElem?_getD, List.getD_eq_getElem?_getD, List.getElem?_map]
  cases l[i]? with
  | none => rfl
  | some p => rfl
theorem edg_ph (L : List (Pt × Pt)) (i : Nat) : edg (L.map (phE φ ψ)) i = phE φ ψ (edg L i) := by
  unfold edg
  rw [List.getD_eq_getElem?_getD, List.getD_eq_getElem?_getD, List.getElem?_map]
  cases L[i]? with
  | none => rfl
  | some p => rfl
theorem edgeAt_ph (r : List Pt) (j : Nat) : edgeAt (r.map (ph φ ψ)) j = phE φ ψ (edgeAt r j) := by
  unfold edgeAt phE
  rw [List.length_map, getD_ph, getD_ph]
theorem ringEdges_ph (r : List Pt) : ringEdges (r.map (ph φ ψ)) = (ringEdges r).map (phE φ ψ) := by
  unfold ringEdges
  rw [List.length_map, List.map_map]
  exact List.map_congr_left fun j _ => edgeAt_ph r j
theorem edges_ph (P : List (List Pt)) : edgesM (phR φ ψ P) = (edgesM P).map (phE φ ψ) := by
  unfold edgesM phR
  rw [List.flatMap_map, List.map_flatMap]
  congr 1
  funext r
  exact ringEdges_ph r
include hφ hψ
theorem idx_ph {l : List Pt} {p : Pt} (h : A1 l) (hp : p.d = 1) : ∀ i, idxL (l.map (ph φ ψ)) (ph φ ψ p) i = idxL l p i
  | 0 => rfl
  | i + 1 => by
    have k := sg_lt (cmp_ph hφ hψ (.inl hp) (h.getD i))
    unfold idxL
    rw [getD_ph, idx_ph h hp i]
    by_cases c : cmpM p (l.getD i zP) < 0
    · rw [if_pos (k.2 c), if_pos c]
    · rw [if_neg (fun x => c (k.1 x)), if_neg c]
theorem ins_ph {l : List Pt} {p : Pt} (h : A1 l) (hp : p.d = 1) : insM (l.map (ph φ ψ)) (ph φ ψ p) = (insM l p).map (ph φ ψ) := by
  unfold insM
  rw [List.length_map, idx_ph hφ hψ h hp, getD_ph]
  have k := sg_eq (cmp_ph hφ hψ (.inl hp) (h.getD (idxL l p l.length - 1)))
  by_cases c : 0 < idxL l p l.length ∧ cmpM p (l.getD (idxL l p l.length - 1) zP) = 0
  · rw [if_pos ⟨c.1, k.2 c.2⟩, if_pos c]
  · rw [if_neg (fun x => c ⟨x.1, k.1 x.2⟩), if_neg c, List.map_append, List.map_take, List.map_cons, List.map_drop]
theorem step_ph {s : List Pt} {m : Mt} (h : A1 s) (hm : okM m) : stepM (s.map (ph φ ψ)) (phM φ ψ m) = (stepM s m).map (ph φ ψ) ∧ A1 (stepM s m) := by
  unfold stepM
  show (if m.k = 2 then insM (if m.k ≠ 0 then insM (s.map (ph φ ψ)) (ph φ ψ m.p) else s.map (ph φ ψ)) (ph φ ψ m.q) else (if m.k ≠ 0 then insM (s.map (ph φ ψ)) (ph φ ψ m.p) else s.map (ph φ ψ))) = _ ∧ _
  by_cases h0 : m.k = 0
  · rw [if_neg (by omega), if_neg (by simpa using h0), if_neg (by omega), if_neg (by simpa using h0)]
    exact ⟨rfl, h⟩
  · have hp := hm.1 h0
    rw [if_pos h0, if_pos h0]
    by_cases h2 : m.k = 2
    · have hq := hm.2 h2
      rw [if_pos h2, if_pos h2, ins_ph hφ hψ h hp, ins_ph hφ hψ (h.ins hp) hq]
      exact ⟨rfl, (h.ins hp).ins hq⟩
    · rw [if_neg h2, if_neg h2, ins_ph hφ hψ h hp]
      exact ⟨rfl, h.ins hp⟩
theorem sfold_ph {e : Pt × Pt} (he : HV e.1 e.2 ∧ e.1 ≠ e.2) : ∀ (F : List (Pt × Pt)), EHV F → ∀ s : List Pt, A1 s → (F.map (phE φ ψ)).foldl (fun s f => stepM s (meetM (phE φ ψ e).1 (phE φ ψ e).2 f.1 f.2)) (s.map (ph φ ψ)) = (F.foldl (fun s f => stepM s (meetM e.1 e.2 f.1 f.2)) s).map (ph φ ψ) ∧ A1 (F.foldl (fun s f => stepM s (meetM e.1 e.2 f.1 f.2)) s)
  | [], _, s, hs => ⟨rfl, hs⟩
  | f :: F, h, s, hs => by
    rw [List.map_cons, List.foldl_cons, List.foldl_cons]
    have e1 : meetM (phE φ ψ e).1 (phE φ ψ e).2 (phE φ ψ f).1 (phE φ ψ f).2 = phM φ ψ (meetM e.1 e.2 f.1 f.2) := meet_ph hφ hψ he.1 h.hd.1 he.2 h.hd.2
    have st := step_ph hφ hψ hs (meet_ok he.1 h.hd.1 he.2 h.hd.2)
    rw [e1, st.1]
    exact sfold_ph he F h.tl _ st.2
theorem ofold_ph {E : List (Pt × Pt)} (hE : EHV E) : ∀ (F : List (Pt × Pt)), EHV F → ∀ s : List Pt, A1 s → (F.map (phE φ ψ)).foldl (fun s e => (E.map (phE φ ψ)).foldl (fun s f => stepM s (meetM e.1 e.2 f.1 f.2)) s) (s.map (ph φ ψ)) = (F.foldl (fun s e => E.foldl (fun s f => stepM s (meetM e.1 e.2 f.1 f.2)) s) s).map (ph φ ψ) ∧ A1 (F.foldl (fun s e => E.foldl (fun s f => stepM s (meetM e.1 e.2 f.1 f.2)) s) s)
  | [], _, s, hs => ⟨rfl, hs⟩
  | f :: F, h, s, hs => by
    have st := sfold_ph hφ hψ h.hd E hE s hs
    rw [List.map_cons, List.foldl_cons, List.foldl_cons, st.1]
    exact ofold_ph hE F h.tl _ st.2
theorem spots_ph {E : List (Pt × Pt)} (hE : EHV E) : spotsM (E.map (phE φ ψ)) = (spotsM E).map (ph φ ψ) ∧ A1 (spotsM E) := ofold_ph hφ hψ hE E hE [] A1.nil
theorem find_ph {e : Pt × Pt} (he : HV e.1 e.2) : ∀ {S : List Pt}, A1 S → (S.map (ph φ ψ)).find? (fun q => hasM (phE φ ψ e).1 (phE φ ψ e).2 q) = (S.find? (fun q => hasM e.1 e.2 q)).map (ph φ ψ)
  | [], _ => rfl
  | q :: S, h => by
    rw [List.map_cons, List.find?_cons, List.find?_cons]
    have e1 : hasM (phE φ ψ e).1 (phE φ ψ e).2 (ph φ ψ q) = hasM e.1 e.2 q := has_ph hφ hψ he (h q List.mem_cons_self)
    rw [e1]
    cases hasM e.1 e.2 q
    · exact find_ph he (fun p hp => h p (List.mem_cons_of_mem _ hp))
    · rfl
theorem neigh_ph {p : Pt} {S : List Pt} (hp : p.d = 1) (hS : A1 S) : ∀ (E : List (Pt × Pt)), EHV E → ∀ l : List Pt, A1 l →
    (E.map (phE φ ψ)).foldl (fun l e => if hasM e.1 e.2 (ph φ ψ p) = true then (match (S.map (ph φ ψ)).find? (fun q => hasM e.1 e.2 q) with | some q => insM l q | none => l) else l) (l.map (ph φ ψ)) = (E.foldl (fun l e => if hasM e.1 e.2 p = true then (match S.find? (fun q => hasM e.1 e.2 q) with | some q => insM l q | none => l) else l) l).map (ph φ ψ)
  | [], _, l, _ => rfl
  | e :: E, h, l, hl => by
    rw [List.map_cons, List.foldl_cons, List.foldl_cons]
    have e1 : hasM (phE φ ψ e).1 (phE φ ψ e).2 (ph φ ψ p) = hasM e.1 e.2 p := has_ph hφ hψ h.hd.1 hp
    rw [e1, find_ph hφ hψ h.hd.1 hS]
    cases hasM e.1 e.2 p
    · exact neigh_ph hp hS E h.tl l hl
    · rw [if_pos rfl, if_pos rfl]
      cases f : S.find? (fun q => hasM e.1 e.2 q) with
      | none => exact neigh_ph hp hS E h.tl l hl
      | some q =>
        have hq := hS q (List.mem_of_find?_eq_some f)
        show List.foldl _ (insM (l.map (ph φ ψ)) (ph φ ψ q)) _ = _
        rw [ins_ph hφ hψ hl hq]
        exact neigh_ph hp hS E h.tl _ (hl.ins hq)
theorem pairs_ph {E : List (Pt × Pt)} (hE : EHV E) : ∀ {S : List Pt}, A1 S → pairsL (E.map (phE φ ψ)) (S.map (ph φ ψ)) = (pairsL E S).map (phE φ ψ)
  | [], _ => rfl
  | p :: S, h => by
    have hS : A1 S := fun q hq => h q (List.mem_cons_of_mem _ hq)
    rw [List.map_cons, pairsL, pairsL, pairs_ph hE hS, List.map_append]
    congr 1
    have e1 : neighM (ph φ ψ p) (S.map (ph φ ψ)) (E.map (phE φ ψ)) = (neighM p S E).map (ph φ ψ) := neigh_ph hφ hψ (h p List.mem_cons_self) hS E hE [] A1.nil
    rw [e1, List.map_map, List.map_map]; rfl
omit hφ hψ in
theorem par_ph {f g : Pt → Pt → Bool} : ∀ {E : List (Pt × Pt)}, EHV E → (∀ a b, HV a b → f (ph φ ψ a) (ph φ ψ b) = g a b) → parB f (E.map (phE φ ψ)) = parB g E
  | [], _, _ => rfl
  | e :: E, h, k => by
    rw [List.map_cons, parB, parB, par_ph h.tl k]
    have : f (phE φ ψ e).1 (phE φ ψ e).2 = g e.1 e.2 := k _ _ h.hd.1
    rw [this]
theorem pieces_ph {A B : List (List Pt)} (hE : EHV (edgesM A ++ edgesM B)) : piecesM (phR φ ψ A) (phR φ ψ B) = (piecesM A B).map (phP φ ψ) := by
  have hA : EHV (edgesM A) := fun e he => hE e (List.mem_append.2 (.inl he))
  have hB : EHV (edgesM B) := fun e he => hE e (List.mem_append.2 (.inr he))
  have sp := spots_ph hφ hψ hE
  unfold piecesM
  rw [edges_ph, edges_ph, ← List.map_append, sp.1, pairs_ph hφ hψ hE sp.2, List.map_map, List.map_map]
  refine List.map_congr_left fun z hz => ?_
  obtain ⟨z1, z2⟩ := pairs_in hz
  have d1 := sp.2 _ z1
  have d2 := sp.2 _ z2
  show pcOf ((edgesM A).map (phE φ ψ)) ((edgesM B).map (phE φ ψ)) (phE φ ψ z) = phP φ ψ (pcOf (edgesM A) (edgesM B) z)
  unfold pcOf phP
  have l := fun {E} (h : EHV E) => par_ph (f := leftE (phE φ ψ z).1 (phE φ ψ z).2) (g := leftE z.1 z.2) h (fun a b k => leftE_ph hφ hψ k d1 d2)
  have r := fun {E} (h : EHV E) => par_ph (f := rightE (phE φ ψ z).1 (phE φ ψ z).2) (g := rightE z.1 z.2) h (fun a b k => rightE_ph hφ hψ k d1 d2)
  rw [l hA, l hB, r hA, r hB]; rfl
omit hφ hψ in
theorem bord_ph (op : Int) (l : List Pc) : bordM op (l.map (phP φ ψ)) = (bordM op l).map (phE φ ψ) := by
  unfold bordM
  rw [List.flatMap_map, List.map_flatMap]
  congr 1
  funext z
  unfold bordOf phP
  dsimp only
  rw [List.map_append]
  congr 1
  · split <;> rfl
  · split <;> rfl
end
end Go.Proofs.Ytnkcbephceollaa
