import Derived.Test.YtnkcbephceollabGreatU37
namespace Go.Proofs.YtnkcbephceollabGreat
open Go.RowKit
set_option linter.unusedSimpArgs false
set_option linter.unusedVariables false
structure OwnR (w:World)(base:Nat)(v:Value)(R:List (List Pt))(vs:List Value):Prop where
 len:vs.length=R.length
 row:w.ownsRow base 57 1 v R.length vs
 each:∀ j,j<R.length->w.ownsRow base 31 3 (vs.getD j (.slice none 0 0)) (R.getD j []).length (ptCells (R.getD j []))
 apart:∀ j k g,j<k->k<R.length->(vs.getD j (.slice none 0 0)).ownBlock=some g->(vs.getD k (.slice none 0 0)).ownBlock≠some g
 small:∀ j,j<R.length->(R.getD j []).length<=2000000
def shV {α:Type}(l:List α)(p:α)(j:Nat):List α:=(l ++ [p]).take (j+1) ++ l.drop j
theorem shv_len {α:Type}(l:List α)(p:α)(j:Nat)(hj:j<=l.length):(shV l p j).length=l.length+1:=by
 unfold shV;simp;omega
theorem shv_start {α:Type}(l:List α)(p:α):shV l p l.length=l ++ [p]:=by
 unfold shV;rw [List.take_of_length_le (by simp),List.drop_length,List.append_nil]
theorem shv_at {α:Type}(l:List α)(p:α)(j:Nat)(hj:j+1<=l.length)(d:α):(shV l p (j+1)).getD j d=l.getD j d:=by
 unfold shV
 rw [List.getD_eq_getElem?_getD,List.getD_eq_getElem?_getD,List.getElem?_append_left (by simp;omega),List.getElem?_take_of_lt (by omega),List.getElem?_append_left (by omega)]
theorem shv_step {α:Type}(l:List α)(p:α)(j:Nat)(hj:j+1<=l.length)(d:α):(shV l p (j+1)).set (j+1) (l.getD j d)=shV l p j:=by
 unfold shV
 have e1:(l ++ [p]).take (j+1+1)=(l ++ [p]).take (j+1) ++ [(l ++ [p]).getD (j+1) p]:=by
  rw [List.take_succ_eq_append_getElem (by simp;omega),List.getD_eq_getElem?_getD,List.getElem?_eq_getElem (by simp;omega)];rfl
 have e2:l.drop j=l.getD j d::l.drop (j+1):=by
  rw [List.drop_eq_getElem_cons (by omega),List.getD_eq_getElem?_getD,List.getElem?_eq_getElem (by omega)];rfl
 rw [e1,e2,List.append_assoc,List.set_append_right _ _ (by simp;omega)]
 have e3:j+1-((l ++ [p]).take (j+1)).length=0:=by simp;omega
 rw [e3];rfl
theorem shv_end {α:Type}(l:List α)(p:α)(i:Nat)(hi:i<=l.length):(shV l p i).set i p=l.take i ++ p::l.drop i:=by
 unfold shV
 have e1:(l ++ [p]).take (i+1)=(l ++ [p]).take i ++ [(l ++ [p]).getD i p]:=by
  rw [List.take_succ_eq_append_getElem (by simp;omega),List.getD_eq_getElem?_getD,List.getElem?_eq_getElem (by simp;omega)];rfl
 have e2:(l ++ [p]).take i=l.take i:=List.take_append_of_le_length hi
 rw [e1,e2,List.append_assoc,List.set_append_right _ _ (by simp;omega)]
 have e3:i-(l.take i).length=0:=by simp;omega
 rw [e3];rfl
theorem getD_ins {α:Type}(l:List α)(x d:α)(i j:Nat)(hi:i<=l.length):(l.take i ++ x::l.drop i).getD j d=if j<i then l.getD j d else if j=i then x else l.getD (j-1) d:=by
 have hl:(l.take i).length=i:=by simp;omega
 rw [List.getD_eq_getElem?_getD]
 by_cases h:j<i
 ·rw [if_pos h,List.getElem?_append_left (by omega),List.getElem?_take_of_lt h,List.getD_eq_getElem?_getD]
 ·rw [if_neg h,List.getElem?_append_right (by omega),hl]
  by_cases h2:j=i
  ·rw [if_pos h2,h2,Nat.sub_self];rfl
  ·rw [if_neg h2]
   obtain ⟨k,hk⟩:∃ k,j-i=k+1:=⟨j-i-1,by omega⟩
   rw [hk,List.getElem?_cons_succ,List.getElem?_drop,List.getD_eq_getElem?_getD]
   congr 2;omega
theorem place_le (R:List (List Pt))(r:List Pt):∀ i,placeL R r i<=i
 | 0=>Nat.le_refl _
 | i+1=>by
  unfold placeL
  split
  ·exact Nat.le_succ_of_le (place_le R r i)
  ·exact Nat.le_refl _
abbrev nilV:Value:=.slice none 0 0
theorem OwnR.ins {w w':World}{base:Nat}{v V rv:Value}{R:List (List Pt)}{r:List Pt}{vs:List Value}{i:Nat}(h:OwnR w base v R vs)(hr:w.ownsRow base 31 3 rv r.length (ptCells r))(hap:∀ j g,j<R.length->(vs.getD j nilV).ownBlock=some g->rv.ownBlock≠some g)(hrl:r.length<=2000000)(hi:i<=R.length)
  (k:Kp (fun b=>v.ownBlock=some b) w w') (hrow:w'.ownsRow base 57 1 V (R.length+1) (vs.take i ++ rv::vs.drop i)):OwnR w' base V (R.take i ++ r::R.drop i) (vs.take i ++ rv::vs.drop i):=by
 have hlR:(R.take i ++ r::R.drop i).length=R.length+1:=by simp;omega
 have hiv:i<=vs.length:=by rw [h.len];exact hi
 have rows:∀ j,j<R.length->w'.ownsRow base 31 3 (vs.getD j nilV) (R.getD j []).length (ptCells (R.getD j [])):=fun j hj=>Kp.own (h.each j hj) k (own_apart (h.each j hj) h.row (by decide))
 have rowr:w'.ownsRow base 31 3 rv r.length (ptCells r):=Kp.own hr k (own_apart hr h.row (by decide))
 refine ⟨by simp;have:=h.len;omega,by rw [hlR];exact hrow,fun j hj=>?_,fun j q g hjq hq hg=>?_,fun j hj=>?_⟩
 ·rw [hlR] at hj
  rw [getD_ins vs rv nilV i j hiv,getD_ins R r [] i j hi]
  by_cases h1:j<i
  ·rw [if_pos h1,if_pos h1];exact rows j (by omega)
  ·rw [if_neg h1,if_neg h1]
   by_cases h2:j=i
   ·rw [if_pos h2,if_pos h2];exact rowr
   ·rw [if_neg h2,if_neg h2];exact rows (j-1) (by omega)
 ·rw [hlR] at hq
  rw [getD_ins vs rv nilV i j hiv] at hg
  rw [getD_ins vs rv nilV i q hiv]
  by_cases h1:j<i
  ·rw [if_pos h1] at hg
   by_cases h2:q<i
   ·rw [if_pos h2];exact h.apart j q g hjq (by omega) hg
   ·rw [if_neg h2]
    by_cases h3:q=i
    ·rw [if_pos h3];exact hap j g (by omega) hg
    ·rw [if_neg h3];exact h.apart j (q-1) g (by omega) (by omega) hg
  ·rw [if_neg h1] at hg
   rw [if_neg (by omega),if_neg (by omega)]
   by_cases h2:j=i
   ·rw [if_pos h2] at hg;exact fun e=>hap (q-1) g (by omega) e hg
   ·rw [if_neg h2] at hg;exact h.apart (j-1) (q-1) g (by omega) (by omega) hg
 ·rw [hlR] at hj
  rw [getD_ins R r [] i j hi]
  by_cases h1:j<i
  ·rw [if_pos h1];exact h.small j (by omega)
  ·rw [if_neg h1]
   by_cases h2:j=i
   ·rw [if_pos h2];exact hrl
   ·rw [if_neg h2];exact h.small (j-1) (by omega)
set_option maxRecDepth 100000 in
set_option maxHeartbeats 4000000 in
theorem insertR_any (base:Nat)(v rv:Value)(R:List (List Pt))(r:List Pt)(vs:List Value)(w:World)(hO:OwnR w base v R vs)(hr:w.ownsRow base 31 3 rv r.length (ptCells r))(hap:∀ j g,j<R.length->(vs.getD j (.slice none 0 0)).ownBlock=some g->rv.ownBlock≠some g)(hn:R.length<=1000000)(hrl:r.length<=2000000)
  (gR:∀ q∈R,∀ p∈q,Gd p) (gr:∀ p∈r,Gd p) (hbase:base<=w.heap.size) :
  Calls Tryz.prog 96 #[v,rv] w fun e w'=>∃ v' vs',e = .returned v'/\OwnR w' base v' (insL R r) vs'/\Kp (fun b=>v.ownBlock=some b) w w'/\(∀ g,v'.ownBlock=some g->v.ownBlock=some g\/w.heap.size<=g)/\(∀ u∈vs',u=rv\/u∈vs):=by
 obtain ⟨i0,hi0,hz0,hz1,hz2⟩:=info_parts infoRing
 obtain ⟨a,cap,rfl,hag,hpos,hmx⟩:=own_form hO.row
 obtain ⟨ra,rcap,rfl,_,_,_⟩:=own_form hr
 have HI:=hide (show insL R r=R.take (placeL R r R.length) ++ r::R.drop (placeL R r R.length) from rfl)
 have HO:=hide hO
 have HR:=hide hr
 have HAP:=hide hap
 have GR:=hide gR
 have Gr':=hide gr
 have HROW:=hide hO.row
 have RR:=hide (ring_of_own hr (by unfold maxLen;omega))
 have hvl:=hO.len
 unfold maxLen at hmx
 have HAG:=hide hag
 clear hO hr hap gR gr hag
 go_enter Tryz.func96,Tryz.ntmps96
 go_upto_block 0 with fail
 go_cut [5] (fun iv w'=>iv = .int .i64 (placeL R r R.length:Nat)/\Below w.heap.size w w')
 case first=>
  go_wp2_with fail
  go_loopw [5] (fun iv w'=>∃ i:Nat,iv = .int .i64 i/\i<=R.length/\Below w.heap.size w w'/\Hid (placeL R r R.length=placeL R r i)) (fun iv _=>(intOf iv).toNat)
  case atStart=>exact ⟨R.length,rfl,Nat.le_refl _,Below.refl _ _,rfl⟩
  case round=>
   obtain ⟨i,rfl,hi,hbel,HB⟩:=hrel
   cases i with
   | zero=>
    have e0:((0:Nat):Int)=0:=rfl
    rw [e0]
    clear HO HR HAP GR Gr' RR HI
    go_wp2
    go_meet
    case rel=>exact ⟨by rw [HB.out];rfl,hbel⟩
   | succ k=>
    obtain ⟨g,hg⟩:=hpos (by omega)
    obtain rfl:=HAG.out g hg
    have hc0:wr.cell? ⟨g,k,none⟩=some (vs.getD k nilV):=by
     rw [hbel.cell (p:=⟨g,k,none⟩) (HROW.out.lt g rfl).2,own_cell HROW.out g rfl k (by omega),List.getD_eq_getElem?_getD,List.getElem?_eq_getElem (by omega)];rfl
    have hring:RingAt wr (vs.getD k nilV) (R.getD k []):=(ring_of_own (HO.out.each k (by omega)) (by have:=HO.out.small k (by omega);unfold maxLen;omega)).later hbel
    have C:=hide (CompareLists_any _ _ r (R.getD k []) wr (RR.out.later hbel) hring Gr'.out (GR.out _ (getD_mem (show k<R.length by omega) [])))
    have HC:=hide (show placeL R r (k+1)=if clM r (R.getD k [])<0 then placeL R r k else k+1 from rfl)
    obtain ⟨xa,xl,xc,hx⟩:∃ xa xl xc,vs.getD k nilV = .slice xa xl xc:=by
     obtain ⟨xa,xc,e,_⟩:=own_form (HO.out.each k (by omega))
     exact ⟨xa,_,xc,e⟩
    rw [hx] at hc0 C
    generalize clM r (R.getD k [])=cc at *
    have ec:(((k+1:Nat)):Int)=(k:Int)+1:=by omega
    rw [ec]
    have hk0:(0:Int)<=(k:Int):=Int.natCast_nonneg _
    have hk1:(k:Int)<(R.length:Int):=by omega
    have hk2:(0:Int)<(k:Int)+1:=by omega
    clear HO HR HAP GR Gr' RR HI hring hx HROW HAG
    go_wp2_with fail
    refine C.out.mono ?_
    rintro e' w2 ⟨rfl,k2⟩
    have B2:=bvia hbel k2
    clear hc0 hbel C k2
    by_cases hc:cc<0
    ·have HE:Hid (placeL R r R.length=placeL R r k):=HB.out.trans (HC.out.trans (if_pos hc))
     clear HB HC
     go_wp2
     go_roundw
     case rel=>exact ⟨k,by go_num,by omega,B2,HE⟩
     case measure=>simp [intOf] <;> omega
    ·have HE:Hid (placeL R r R.length=k+1):=HB.out.trans (HC.out.trans (if_neg hc))
     have hcd:decide (cc<0)=false:=by simpa using hc
     clear HB HC
     go_wp2
     go_meet
     case rel=>exact ⟨by rw [HE.out,ec],B2⟩
 case rest=>
  obtain ⟨rfl,B1⟩:=hcut
  have hile:=place_le R r R.length
  generalize placeL R r R.length=i at *
  have O1:=hide (own_later HROW.out B1)
  have hb1:=B1.size
  have hnews:=World.news_of_block (w:=wc.alloc (.cells #[.slice ra r.length rcap] 57)) (cs:=#[.slice ra r.length rcap]) (t:=57) (fr:=(0,0)) (heap_alloc_new wc _)
  have hn1:R.length+1<=maxLen:=by unfold maxLen;omega
  have hn2:(R.length+1)*24<=140737488355328:=by omega
  clear RR GR Gr'
  go_wp2_with (at_builtin;refine wpList_append_lies _ rfl _ _ _ rfl base 57 i0 _ 1 24 Tryz.underlying29 hi0 hz0 hz1 hz2 rfl (by omega) (.slice a R.length cap) R.length vs rfl (O1.out.alloc _) ⟨wc.heap.size,0,none⟩ 1 1 [.slice ra r.length rcap] rfl rfl hnews (by simp [Value.oneCell']) (by omega) hn1 hn2 (by simp;omega) _ rfl ?_;intro gg cp w2 hown2 hgrow hat hlt2)
  have hgx:gg<w.heap.size->(Value.slice a R.length cap).ownBlock=some gg:=fun h=>by
   rcases hat with k | k
   ·exact k
   ·simp at k;omega
  have K2:Kp (fun b=>(Value.slice a R.length cap).ownBlock=some b) w w2:=Kp.grown ((Kp.of B1).alloc _) hgrow (fun k hk=>hk)
  have HGX:=hide hgx
  have HAT:Hid (∀ g,(Value.slice (some ⟨gg,0,none⟩) (R.length+1) cp).ownBlock=some g->(Value.slice a R.length cap).ownBlock=some g\/w.heap.size<=g):=hide fun g hg=>by
   have:gg=g:=by simpa [Value.ownBlock] using hg
   subst this
   rcases Nat.lt_or_ge gg w.heap.size with k | k
   ·exact .inl (hgx k)
   ·exact .inr k
  have OS:Hid (w2.ownsRow base 57 1 (.slice (some ⟨gg,0,none⟩) (R.length+1) cp) (R.length+1) (shV vs (.slice ra r.length rcap) R.length)):=by
   rw [<-hvl,shv_start,hvl];exact hide hown2
  have HK2:=hide K2
  clear hown2 hgrow hat hnews B1 O1 hgx K2
  go_wp2_with fail
  go_loopw [6] (fun jv w'=>∃ j:Nat,jv = .int .i64 j/\i<=j/\j<=R.length/\w'.ownsRow base 57 1 (.slice (some ⟨gg,0,none⟩) (R.length+1) cp) (R.length+1) (shV vs (.slice ra r.length rcap) j)/\Kp (fun b=>(Value.slice a R.length cap).ownBlock=some b) w w') (fun jv _=>(intOf jv).toNat)
  case atStart=>exact ⟨R.length,rfl,hile,Nat.le_refl _,OS.out,HK2.out⟩
  case round=>
   clear OS HK2
   obtain ⟨j,rfl,hij,hjl,hO,hK⟩:=hrel
   have hjv:j<=vs.length:=by omega
   have hcell:∀ m,m<R.length+1->wr.cell? ⟨gg,m,none⟩=some ((shV vs (.slice ra r.length rcap) j).getD m nilV):=fun m hm=>by
    rw [own_cell hO gg rfl m (by omega),List.getD_eq_getElem?_getD,List.getElem?_eq_getElem (by rw [shv_len vs _ j hjv];omega)];rfl
   have hfree:=own_free hO gg rfl
   have hll:=(hO.lt gg rfl).2
   by_cases hlt:i<j
   ·obtain ⟨k,rfl⟩:∃ k,j=k+1:=⟨j-1,by omega⟩
    have HS:=hide (shv_step vs (.slice ra r.length rcap) k hjv nilV)
    have s0:=hcell k (by omega)
    rw [shv_at vs (.slice ra r.length rcap) k hjv nilV] at s0
    have t0:=hcell (k+1) (by omega)
    obtain ⟨xa,xl,xc,hx⟩:∃ xa xl xc,vs.getD k nilV = .slice xa xl xc:=by
     obtain ⟨xa,xc,e,_⟩:=own_form (HO.out.each k (by omega))
     exact ⟨xa,_,xc,e⟩
    rw [hx] at s0 HS
    have ec:(((k+1:Nat)):Int)=(k:Int)+1:=by omega
    rw [ec]
    have hk0:(0:Int)<=(k:Int):=Int.natCast_nonneg _
    have hk1:(k:Int)+1<(R.length:Int)+1:=by omega
    have hk2:(k:Int)<(R.length:Int)+1:=by omega
    have hki:(i:Int)<(k:Int)+1:=by omega
    have hO':=hide hO
    have hK':=hide hK
    clear hcell hO HO HR HAP HI HAG hK hx HROW
    go_wp2
    go_roundw
    case rel=>
     refine ⟨k,by go_num,by omega,by omega,?_,hK'.out.setCell (p:=⟨gg,k+1,none⟩) HGX.out _⟩
     have o3:=own_set hO'.out gg rfl (k+1) (.slice xa xl xc)
     rw [HS.out] at o3
     exact o3
    case measure=>simp [intOf] <;> omega
   ·have ej:j=i:=by omega
    subst ej
    have HS:=hide (shv_end vs (.slice ra r.length rcap) j hjv)
    have t0:=hcell j (by omega)
    have hk0:(0:Int)<=(j:Int):=Int.natCast_nonneg _
    have hk1:(j:Int)<(R.length:Int)+1:=by omega
    have hO':=hide hO
    have hK':=hide hK
    clear hcell hO hK HAG HROW
    go_wp2
    go_ret
    have o3:=own_set hO'.out gg rfl j (.slice ra r.length rcap)
    rw [HS.out] at o3
    have k3:=hK'.out.setCell (p:=⟨gg,j,none⟩) HGX.out (.slice ra r.length rcap)
    refine ⟨_,vs.take j ++ .slice ra r.length rcap::vs.drop j,rfl,?_,k3,HAT.out,fun u hu=>?_⟩
    ·rw [HI.out]
     exact HO.out.ins HR.out HAP.out hrl hjl k3 o3
    ·rcases List.mem_append.1 hu with h | h
     ·exact .inr (List.mem_of_mem_take h)
     ·rcases List.mem_cons.1 h with h | h
      ·exact .inl h
      ·exact .inr (List.mem_of_mem_drop h)
theorem infoBool:(Tryz.prog.info? 4).map (fun i=>(i.zero,i.size,i.bytes))=some (some (.bool false),1,1):=by kernel_rfl
theorem mk_bools (n:Nat)(hn:n<=1048576)(W:World):(Instr.makeSlice 88 (.int .i64 (n:Int)) (.int .i64 (n:Int))).run Tryz.prog W = .ok (.slice (some ⟨W.heap.size,0,none⟩) n n) (W.alloc (.cells (madeCells #[.bool false] n) 4)):=by
 obtain ⟨i0,hi0,hz0,hz1,hz2⟩:=info_parts infoBool
 have h:=run_make (P:=Tryz.prog) W 88 4 i0 _ Tryz.underlying88 hi0 hz0 .i64 .i64 (n:Int) (n:Int) (by omega) (by omega) (by rw [hz2];omega) (by omega)
 rw [h,hz1,Int.toNat_natCast,Nat.mul_one]
 rfl
def boolCells (t:List Bool):Array Value:=(t.map fun b=>Value.bool b).toArray
theorem bools_at (t:List Bool)(j:Nat)(hj:j<t.length):(boolCells t)[j]?=some (.bool (t.getD j false)):=by
 unfold boolCells
 rw [List.getElem?_toArray,List.getElem?_map,List.getElem?_eq_getElem hj,List.getD_eq_getElem?_getD,List.getElem?_eq_getElem hj];rfl
theorem bools_size (t:List Bool):(boolCells t).size=t.length:=by unfold boolCells;simp
theorem bools_made (n:Nat):madeCells #[.bool false] n=boolCells (List.replicate n false):=by
 apply Array.ext_getElem?
 intro i
 unfold boolCells
 by_cases h:i<n
 ·simp [madeCells,h,Nat.mod_one]
 ·rw [Array.getElem?_eq_none (by rw [size_madeCells];omega),Array.getElem?_eq_none (by simp;omega)]
theorem bools_set (t:List Bool)(k:Nat)(b:Bool):(boolCells t).setIfInBounds k (.bool b)=boolCells (t.set k b):=by
 unfold boolCells
 apply Array.ext_getElem?
 intro i
 rw [Array.getElem?_setIfInBounds,List.getElem?_toArray,List.getElem?_toArray,List.getElem?_map,List.getElem?_map,List.getElem?_set]
 by_cases h:k=i
 ·subst h
  by_cases h2:k<t.length
  ·simp [h2]
  ·simp [h2]
 ·simp [h]
def cntF (w:World)(tb n:Nat):Nat:=(List.range n).countP (fun j=>match w.cell? ⟨tb,j,none⟩ with | some (.bool false)=>true | _=>false)
def freeN (t:List Bool):Nat:=t.countP (fun b=>!b)
theorem range_count (t:List Bool):freeN t=(List.range t.length).countP (fun j=>!t.getD j false):=by
 unfold freeN
 have e:t=(List.range t.length).map (fun j=>t.getD j false):=by
  apply List.ext_getElem
  ·simp
  ·intro j h1 h2
   simp [List.getD_eq_getElem?_getD,List.getElem?_eq_getElem h1]
 conv=>lhs;rw [e]
 rw [List.countP_map];rfl
theorem cnt_eq {w:World}{tb:Nat}{t:List Bool}(h:Blk w tb (boolCells t)):cntF w tb t.length=freeN t:=by
 rw [range_count]
 unfold cntF
 refine List.countP_congr (fun j hj=>?_)
 have hj':j<t.length:=List.mem_range.1 hj
 rw [h.cell j,bools_at t j hj']
 cases t.getD j false <;> simp
theorem free_set:∀ (t:List Bool) (k:Nat),k<t.length->t.getD k false=false->freeN (t.set k true)+1=freeN t
 | [],k,h,_=>by simp at h
 | b::t,0,_,h=>by
  have:b=false:=h
  subst this
  simp [freeN]
 | b::t,k+1,h,e=>by
  have ih:=free_set t k (by simpa using h) (by simpa using e)
  unfold freeN at *
  rw [List.set_cons_succ,List.countP_cons,List.countP_cons]
  omega
theorem free_le (t:List Bool):freeN t<=t.length:=List.countP_le_length
theorem walk_end {L:List (Pt×Pt)}{N:List Nat}{f k:Nat}{t:List Bool}(hf:0<f)(h:t.getD k false=true):walkM L N f t k=([],t):=by
 cases f with
 | zero=>omega
 | succ f=>unfold walkM;rw [if_pos h]
theorem walk_step {L:List (Pt×Pt)}{N:List Nat}{f k:Nat}{t:List Bool}(h:t.getD k false=false):walkM L N (f+1) t k=((if turnB (edg L k) (edg L (N.getD k 0))=true then [(edg L k).2] else []) ++ (walkM L N f (t.set k true) (N.getD k 0)).1,(walkM L N f (t.set k true) (N.getD k 0)).2):=by
 conv=>lhs;unfold walkM
 rw [if_neg (by rw [h];decide)]
theorem walk_tlen (L:List (Pt×Pt))(N:List Nat):∀ (f:Nat) (t:List Bool) (k:Nat),(walkM L N f t k).2.length=t.length
 | 0,_,_=>rfl
 | f+1,t,k=>by
  unfold walkM
  split
  ·rfl
  ·dsimp only;rw [walk_tlen L N f];simp
theorem walk_len (L:List (Pt×Pt))(N:List Nat):∀ (f:Nat) (t:List Bool) (k:Nat),(walkM L N f t k).1.length<=f
 | 0,_,_=>by simp [walkM]
 | f+1,t,k=>by
  unfold walkM
  split
  ·simp
  ·have ih:=walk_len L N f (t.set k true) (N.getD k 0)
   dsimp only
   rw [List.length_append]
   split
   ·rw [List.length_singleton];omega
   ·rw [List.length_nil];omega
theorem edg_good {L:List (Pt×Pt)}(h:GdE L)(j:Nat):Gd (edg L j).1/\Gd (edg L j).2:=by
 by_cases hj:j<L.length
 ·exact h j hj
 ·have e:edg L j=(zP,zP):=by unfold edg;rw [List.getD_eq_getElem?_getD,List.getElem?_eq_none (by omega)];rfl
  have z:Gd zP:=⟨⟨by decide,by decide⟩,⟨by decide,by decide⟩,⟨by decide,by decide⟩⟩
  rw [e];exact ⟨z,z⟩
theorem walk_good {L:List (Pt×Pt)}(h:GdE L)(N:List Nat):∀ (f:Nat) (t:List Bool) (k:Nat),∀ p∈(walkM L N f t k).1,Gd p
 | 0,_,_,p,hp=>by simp [walkM] at hp
 | f+1,t,k,p,hp=>by
  unfold walkM at hp
  split at hp
  ·simp at hp
  ·rcases List.mem_append.1 hp with hp | hp
   ·split at hp
    ·rw [List.mem_singleton.1 hp];exact (edg_good h k).2
    ·simp at hp
   ·exact walk_good h N f _ _ p hp
theorem insL_mem {R:List (List Pt)}{r q:List Pt}(h:q∈insL R r):q=r\/q∈R:=by
 unfold insL at h
 rcases List.mem_append.1 h with h | h
 ·exact .inr (List.mem_of_mem_take h)
 ·rcases List.mem_cons.1 h with h | h
  ·exact .inl h
  ·exact .inr (List.mem_of_mem_drop h)
theorem insL_len (R:List (List Pt))(r:List Pt):(insL R r).length=R.length+1:=by
 have:=place_le R r R.length
 unfold insL;simp;omega
theorem rings_good {L:List (Pt×Pt)}(h:GdE L):∀ i,∀ q∈(ringsN L i).1,∀ p∈q,Gd p
 | 0,q,hq,_,_=>by simp [ringsN] at hq
 | i+1,q,hq,p,hp=>by
  have e:(ringsN L (i+1)).1=if (walkM L (nextsM L) (L.length+1) (ringsN L i).2 i).1.length > 0 then insL (ringsN L i).1 (leastL (walkM L (nextsM L) (L.length+1) (ringsN L i).2 i).1 (walkM L (nextsM L) (L.length+1) (ringsN L i).2 i).1.length) else (ringsN L i).1:=rfl
  rw [e] at hq
  split at hq
  ·rcases insL_mem hq with hq | hq
   ·rw [hq] at hp
    exact walk_good h _ _ _ _ p (least_mem _ hp)
   ·exact rings_good h i q hq p hp
  ·exact rings_good h i q hq p hp
theorem rings_len (L:List (Pt×Pt)):∀ i,(ringsN L i).1.length<=i
 | 0=>by simp [ringsN]
 | i+1=>by
  have ih:=rings_len L i
  have e:(ringsN L (i+1)).1=if (walkM L (nextsM L) (L.length+1) (ringsN L i).2 i).1.length > 0 then insL (ringsN L i).1 (leastL (walkM L (nextsM L) (L.length+1) (ringsN L i).2 i).1 (walkM L (nextsM L) (L.length+1) (ringsN L i).2 i).1.length) else (ringsN L i).1:=rfl
  rw [e]
  split
  ·rw [insL_len];omega
  ·omega
theorem rings_tlen (L:List (Pt×Pt)):∀ i,(ringsN L i).2.length=L.length
 | 0=>by simp [ringsN]
 | i+1=>by
  have e:(ringsN L (i+1)).2=(walkM L (nextsM L) (L.length+1) (ringsN L i).2 i).2:=rfl
  rw [e,walk_tlen];exact rings_tlen L i
theorem Kp.then {X Y:Nat->Prop}{a b c:World}(h:Kp X a b)(k:Kp Y b c)(hy:∀ x,x<a.heap.size->Y x->X x):Kp X a c:=
 ⟨k.os.trans h.os,k.tape.trans h.tape,k.output.trans h.output,Nat.le_trans h.size k.size,fun x hx hn=>(k.block x (Nat.lt_of_lt_of_le hx h.size) (fun e=>hn (hy x hx e))).trans (h.block x hx hn)⟩
theorem OwnR.kp {w w':World}{base:Nat}{v:Value}{R:List (List Pt)}{vs:List Value}{X:Nat->Prop}(h:OwnR w base v R vs)(k:Kp X w w')(hx:∀ b,base<=b->b<w.heap.size->¬ X b):OwnR w' base v R vs:=
 ⟨h.len,Kp.own h.row k (fun b e=>hx b (h.row.lt b e).1 (h.row.lt b e).2),fun j hj=>Kp.own (h.each j hj) k (fun b e=>hx b ((h.each j hj).lt b e).1 ((h.each j hj).lt b e).2),h.apart,h.small⟩
theorem OwnR.mono {w:World}{base base':Nat}{v:Value}{R:List (List Pt)}{vs:List Value}(h:OwnR w base v R vs)(hb:base'<=base):OwnR w base' v R vs:=
 ⟨h.len,own_mono h.row hb,fun j hj=>own_mono (h.each j hj) hb,h.apart,h.small⟩
theorem OwnR.nil (w:World)(base:Nat):OwnR w base (.slice none 0 0) [] []:=
 ⟨rfl,World.ownsRow_nil _ _ _ _,fun j hj=>by simp at hj,fun j k g _ hk=>by simp at hk,fun j hj=>by simp at hj⟩
theorem OwnR.lt {w:World}{base:Nat}{v:Value}{R:List (List Pt)}{vs:List Value}(h:OwnR w base v R vs)(j g:Nat)(hj:j<R.length)(e:(vs.getD j nilV).ownBlock=some g):base<=g/\g<w.heap.size:=(h.each j hj).lt g e
theorem SegAt.kp {w w':World}{X:Nat->Prop}{b o:Nat}{e:Pt×Pt}(h:SegAt w b o e)(k:Kp X w w')(hx : ¬ X b):SegAt w' b o e:=
 ⟨k.cellOf h.c0 hx,k.cellOf h.c1 hx,k.cellOf h.c2 hx,k.cellOf h.c3 hx,k.cellOf h.c4 hx,k.cellOf h.c5 hx⟩
theorem segs_at {w:World}{b off n cap:Nat}{L:List (Pt×Pt)}(h:SegsAt w (.slice (some ⟨b,off,none⟩) n cap) L)(j:Nat)(hj:j<L.length):SegAt w b (off+j*6) (edg L j)/\b<w.heap.size:=by
 obtain ⟨a,cap',e,h1,h2,h3⟩:=h
 obtain ⟨b',off',e',hb,hs⟩:=h3 j hj
 simp at e
 obtain ⟨rfl,-,-⟩:=e
 simp at e'
 obtain ⟨rfl,rfl⟩:=e'
 exact ⟨hs,hb⟩
def NxOk (L:List (Pt×Pt))(N:List Nat):Prop:=∀ k,k<L.length->N.getD k 0<L.length/\∀ j,j<L.length->(((edg L j).1=(edg L k).2/\frM L k j L.length=true)↔j=N.getD k 0)
theorem pts_zero (L:List (Pt×Pt))(N:List Nat)(i:Nat):ptsN L N i 0 0=[]:=by rw [ptsN]
theorem pts_len (L:List (Pt×Pt))(N:List Nat)(i:Nat):∀ c,(ptsN L N i 0 c).length<=c
 | 0=>by rw [pts_zero];simp
 | c+1=>by
  have ih:=pts_len L N i c
  rw [pts_snoc,List.length_append]
  split
  ·rw [List.length_singleton];omega
  ·rw [List.length_nil];omega
set_option maxRecDepth 100000 in
set_option maxHeartbeats 8000000 in
theorem rring_any (v:Value)(L:List (Pt×Pt))(N:List Nat)(i m tb:Nat)(t:List Bool)(w:World)(hS:∀ wz,Kp (fun b=>b=tb) w wz->SegsAt wz v L)(hG:GdE L)(hN:NxOk L N)(hn:L.length<=100000)(hi:i<L.length)
  (hm1:1<=m) (hmL:m<=L.length) (hmi:itN N i m=i) (hml:∀ a,1<=a->a<m->itN N i a≠i) (htl:t.length=L.length) (hT:Blk w tb (boolCells t)) :
  Calls Tryz.prog 55 #[v,.int .i64 (i:Nat),.slice (some ⟨tb,0,none⟩) L.length L.length] w fun e w'=>∃ v',e = .returned v'/\w'.ownsRow w.heap.size 31 3 v' (ptsN L N i 0 m).length (ptCells (ptsN L N i 0 m))/\Blk w' tb (boolCells (setN t N i m))/\Kp (fun b=>b=tb) w w':=by
 obtain ⟨i0,hi0,hz0,hz1,hz2⟩:=info_parts infoPoint
 obtain ⟨a,cap,rfl,a1,a2,a3⟩:=hS w (Kp.refl _ _)
 unfold maxLen at a2
 obtain ⟨b,off,rfl,hb,_⟩:=a3 i hi
 have HS:=hide hS
 have HG:=hide hG
 have HN:=hide hN
 have HML:=hide hml
 have hit:∀ a,itN N i a<L.length:=fun a=>by
  induction a with
  | zero=>exact hi
  | succ a ih=>exact (hN _ ih).1
 have HIT:=hide hit
 have HT:=hide hT
 have htb:tb<w.heap.size:=hT.lt
 clear a3 hS hG hN hml hit hT
 have HP0:=hide (pts_zero L N i)
 have HPS:=hide (fun c=>pts_snoc L N i c 0)
 have HPL:=hide (pts_len L N i)
 have HS0:=hide (show setN t N i 0=t from rfl)
 have HSS:=hide (fun a=>show setN t N i (a+1)=(setN t N i a).set (itN N i a) true from rfl)
 have HSL:=hide (setN_len t N i)
 have HI0:=hide (show itN N i 0=i from rfl)
 have HIS:=hide (fun a=>show itN N i (a+1)=N.getD (itN N i a) 0 from rfl)
 go_enter Tryz.func55,Tryz.ntmps55
 go_wp2_with fail
 go_loopw [7,8,9,10,11] (fun ov av nv _ _ w'=>∃ a:Nat,nv = .int .i64 a/\a<m/\av = .int .i64 (itN N i a:Nat)/\w'.ownsRow w.heap.size 31 3 ov (ptsN L N i 0 a).length (ptCells (ptsN L N i 0 a))/\Blk w' tb (boolCells (setN t N i a))/\Kp (fun b=>b=tb) w w') (fun _ _ nv _ _ _=>L.length+1-(intOf nv).toNat)
 case atStart=>exact ⟨0,rfl,by omega,by rw [HI0.out],by rw [HP0.out];exact World.ownsRow_nil _ _ _ _,by rw [HS0.out];exact HT.out,Kp.refl _ _⟩
 case round=>
  clear HT HP0 HS0 HI0
  obtain ⟨c,rfl,hc,rfl,hO,hT,hK⟩:=hrel
  have hk:=HIT.out c
  have hf:=HIT.out (c+1)
  have HP1:=hide (HPS.out c)
  have hpl:=HPL.out c
  have HE:Hid (c+1<m->itN N i (c+1)≠i):=hide fun h=>HML.out (c+1) (by omega) h
  have HF:Hid (c+1=m->itN N i (c+1)=i):=hide fun h=>by rw [h];exact hmi
  have hstl:=HSL.out c
  have HT1:=hide (HSS.out c)
  have HX:Hid (∀ j,j<L.length->(((edg L j).1=(edg L (itN N i c)).2/\frM L (itN N i c) j L.length=true)↔j=itN N i (c+1))):=by
   rw [HIS.out];exact hide (HN.out _ hk).2
  rw [Nat.zero_add] at HP1
  generalize ptsN L N i 0 c=acc at *
  generalize setN t N i c=tc at *
  generalize hkk:itN N i c=k at *
  generalize hjj:itN N i (c+1)=f at *
  have hlt':=hT.lt
  have hft:=hT.free
  have ct:=(hT.cell k).trans (bools_at tc k (by omega))
  have hk0:(0:Int)<=(k:Int):=Int.natCast_nonneg _
  have hk1:(k:Int)<(L.length:Int):=by omega
  have hcl:(c:Int)<=(L.length:Int):=by omega
  obtain ⟨W4,hW4⟩:∃ W,W=wr.setCell ⟨tb,k,none⟩ (.bool true):=⟨_,rfl⟩
  have T4:Hid (Blk W4 tb (boolCells (tc.set k true))):=by
   rw [hW4,<-bools_set];exact hide (hT.set k (by rw [bools_size];omega) _)
  have K4:Kp (fun b=>b=tb) wr W4:=by rw [hW4];exact Kp.setCell (X:=fun b=>b=tb) (p:=⟨tb,k,none⟩) (Kp.refl _ _) (fun _=>rfl) _
  have A4:=hide (Kp.own hO K4 (fun b' hb' e=>by have:=(hO.lt b' hb').1;omega))
  have KR:Hid (Kp (fun b=>b=tb) w W4):=hide (hK.trans K4)
  have C1:=hide (rnext_any _ L k f W4 (HS.out W4 KR.out) HG.out hk hf HX.out)
  clear hO hT hK K4 HX
  go_upto_region 7 with fail
  rw [<-hW4]
  clear hW4 ct hft
  go_wp2_with fail
  refine C1.out.mono ?_
  rintro e' w5 ⟨rfl,k5⟩
  have A5:=hide (own_later A4.out k5)
  have T5:=hide (T4.out.call k5)
  have K5:=hide (KR.out.trans (Kp.of k5))
  have hf0:(0:Int)<=(f:Int):=Int.natCast_nonneg _
  have hf1:(f:Int)<(L.length:Int):=by omega
  have hfn : ¬ (f:Int)<0:=by omega
  clear A4 T4 KR C1 k5
  have g1:=edg_good HG.out k
  have g2:=edg_good HG.out f
  have CD:=hide (fun wz=>rdet_any (edg L k).1 (edg L k).2 (edg L f).2 wz g1.1 g1.2 g2.2)
  have HTB:=hide (show turnB (edg L k) (edg L f)=decide (detM (edg L k).1 (edg L k).2 (edg L f).2≠0) from rfl)
  have HSG:Hid (∀ wz,Kp (fun b=>b=tb) w wz->SegAt wz b (off+k*6) (edg L k)/\SegAt wz b (off+f*6) (edg L f)):=hide fun wz kz=>⟨(segs_at (HS.out wz kz) k hk).1,(segs_at (HS.out wz kz) f hf).1⟩
  have hz5:=K5.out.size
  have hb5:b<w5.heap.size:=by omega
  generalize edg L k=e at *
  generalize edg L f=g at *
  obtain ⟨⟨c0,c1,c2,c3,c4,c5⟩,d0,d1,d2,d3,d4,d5⟩:=HSG.out w5 K5.out
  clear d0 d1 d2 HG HS HN
  go_upto_region 10 with fail
  go_cut [11] (fun tv w'=>tv = .int .i64 (detM e.1 e.2 g.2)/\Below w5.heap.size w5 w')
  case first=>
   clear HP1 HE HF HT1 A5 T5 K5 HTB HSG HIT HPS HPL HSL HSS HIS HML
   go_region_held3 (fun w'=>w'.cell? ⟨b,off+k*6,none⟩=some (.int .i64 e.1.x)/\w'.cell? ⟨b,off+k*6+1,none⟩=some (.int .i64 e.1.y)/\w'.cell? ⟨b,off+k*6+2,none⟩=some (.int .i64 e.1.d)/\w'.cell? ⟨b,off+k*6+3,none⟩=some (.int .i64 e.2.x)/\w'.cell? ⟨b,off+k*6+4,none⟩=some (.int .i64 e.2.y)/\w'.cell? ⟨b,off+k*6+5,none⟩=some (.int .i64 e.2.d)/\w'.cell? ⟨b,off+f*6+3,none⟩=some (.int .i64 g.2.x)/\w'.cell? ⟨b,off+f*6+4,none⟩=some (.int .i64 g.2.y)/\w'.cell? ⟨b,off+f*6+5,none⟩=some (.int .i64 g.2.d))
    (first
     | go_keep
     |(go_split_ands
       refine ⟨?_,?_,?_,?_,?_,?_,?_,?_,?_⟩
       ·(
        rw [k6.cell (p:=⟨b,off+k*6,none⟩) (by simp;omega)];assumption)
       ·(
        rw [k6.cell (p:=⟨b,off+k*6+1,none⟩) (by simp;omega)];assumption)
       ·(
        rw [k6.cell (p:=⟨b,off+k*6+2,none⟩) (by simp;omega)];assumption)
       ·(
        rw [k6.cell (p:=⟨b,off+k*6+3,none⟩) (by simp;omega)];assumption)
       ·(
        rw [k6.cell (p:=⟨b,off+k*6+4,none⟩) (by simp;omega)];assumption)
       ·(
        rw [k6.cell (p:=⟨b,off+k*6+5,none⟩) (by simp;omega)];assumption)
       ·(
        rw [k6.cell (p:=⟨b,off+f*6+3,none⟩) (by simp;omega)];assumption)
       ·(
        rw [k6.cell (p:=⟨b,off+f*6+4,none⟩) (by simp;omega)];assumption)
       ·(
        rw [k6.cell (p:=⟨b,off+f*6+5,none⟩) (by simp;omega)];assumption)))
    ((
     go_at_call 70;refine (CD.out _).mono ?_;rintro e' w6 ⟨rfl,k6⟩))
   all_goals
    go_wp2_with fail
    go_meet
    case rel=>exact ⟨rfl,bvia (Below.refl _ _).drew k6⟩
  case rest=>
   obtain ⟨rfl,k6⟩:=hcut
   have A6:=hide (own_later A5.out k6)
   have T6:=hide (T5.out.call k6)
   have K6:=hide (K5.out.trans (Kp.of k6))
   have hz6:=K6.out.size
   clear A5 T5 K5 k6 CD c0 c1 c2 c3 c4 c5 d3 d4 d5
   generalize hdd:detM e.1 e.2 g.2=dd at *
   by_cases hd:dd=0
   ·have hd':(dd != 0)=false:=by simpa using hd
    have HN1:Hid (ptsN L N i 0 (c+1)=acc):=by rw [HP1.out,HTB.out,hd];exact hide (by simp)
    have A7:Hid (wc.ownsRow w.heap.size 31 3 u7 (ptsN L N i 0 (c+1)).length (ptCells (ptsN L N i 0 (c+1)))):=by rw [HN1.out];exact A6
    have T7:Hid (Blk wc tb (boolCells (setN t N i (c+1)))):=by rw [HT1.out];exact T6
    clear HP1 HTB HT1 A6 T6 HN1 HIT HPS HPL HSL HSS HIS HML HSG hdd
    by_cases hcm:c+1=m
    ·have hfi:=HF.out hcm
     have hfi':((f:Int) == (i:Int))=true:=by simp;omega
     clear HF HE
     go_wp2
     go_ret
     exact ⟨_,rfl,by rw [<-hcm];exact A7.out,by rw [<-hcm];exact T7.out,K6.out⟩
    ·have hfi:=HE.out (by omega)
     have hfi':((f:Int) == (i:Int))=false:=by simp;omega
     clear HF HE
     go_wp2
     go_roundw
     case rel=>exact ⟨c+1,by go_num,by omega,by rw [hjj],A7.out,T7.out,K6.out⟩
     case measure=>simp [intOf];omega
   ·have hd':(dd != 0)=true:=by simpa using hd
    have HN1:Hid (ptsN L N i 0 (c+1)=acc ++ [e.2]):=by rw [HP1.out,HTB.out];exact hide (by simp [hd])
    obtain ⟨⟨c0,c1,c2,c3,c4,c5⟩,_⟩:=HSG.out wc K6.out
    have T7:Hid (Blk wc tb (boolCells (setN t N i (c+1)))):=by rw [HT1.out];exact T6
    have hnews:=World.news_of_block (w:=wc.alloc (.cells #[.int .i64 e.2.x,.int .i64 e.2.y,.int .i64 e.2.d] 31)) (cs:=#[.int .i64 e.2.x,.int .i64 e.2.y,.int .i64 e.2.d]) (t:=31) (fr:=(0,0)) (heap_alloc_new wc _)
    have hn1:acc.length+1<=maxLen:=by unfold maxLen;omega
    have hn2:(acc.length+1)*24<=140737488355328:=by omega
    clear HP1 HTB HT1 T6 HIT HPS HPL HSL HSS HIS HML HSG hdd
    go_upto_region 13 with (at_builtin;refine wpList_append_lies _ rfl _ _ _ rfl w.heap.size 31 i0 _ 3 24 Tryz.underlying57 hi0 hz0 hz1 hz2 rfl (by omega) u7 acc.length (ptCells acc) rfl (A6.out.alloc _) ⟨wc.heap.size,0,none⟩ 1 1 (ptCell e.2) rfl rfl hnews (by simp [ptCell,Value.oneCell']) (by omega) hn1 hn2 (by simp;omega) _ rfl ?_;intro gg cp w7 ho hgrow hat hlt7)
    have KG:Kp (fun b=>u7.ownBlock=some b) wc w7:=Kp.grown ((Kp.refl _ _).alloc _) hgrow (fun k hk=>hk)
    have O7:Hid (w7.ownsRow w.heap.size 31 3 (.slice (some ⟨gg,0,none⟩) (acc.length+1) cp) (ptsN L N i 0 (c+1)).length (ptCells (ptsN L N i 0 (c+1)))):=by
     refine hide ?_
     rw [HN1.out,ptCells_append,List.length_append]
     have e2:ptCells [e.2]=ptCell e.2:=by simp [ptCells]
     rw [e2];exact ho
    have T8:=hide (Kp.blk T7.out KG (fun e=>by have:=(A6.out.lt tb e).1;omega))
    have K7:Hid (Kp (fun b=>b=tb) w w7):=hide (K6.out.then KG (fun x hx e=>by have:=(A6.out.lt x e).1;omega))
    clear ho hgrow hat hnews A6 T7 K6 KG c0 c1 c2 c3 c4 c5 HN1
    by_cases hcm:c+1=m
    ·have hfi:=HF.out hcm
     have hfi':((f:Int) == (i:Int))=true:=by simp;omega
     clear HF HE
     go_wp2
     go_ret
     exact ⟨_,rfl,by rw [<-hcm];exact O7.out,by rw [<-hcm];exact T8.out,K7.out⟩
    ·have hfi:=HE.out (by omega)
     have hfi':((f:Int) == (i:Int))=false:=by simp;omega
     clear HF HE
     go_wp2
     go_roundw
     case rel=>exact ⟨c+1,by go_num,by omega,by rw [hjj],O7.out,T8.out,K7.out⟩
     case measure=>simp [intOf];omega
end Go.Proofs.YtnkcbephceollabGreat
