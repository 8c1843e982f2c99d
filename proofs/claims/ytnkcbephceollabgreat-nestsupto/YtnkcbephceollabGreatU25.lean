import Derived.Test.YtnkcbephceollabGreatU24
namespace Go.Proofs.YtnkcbephceollabGreat
open Go.RowKit
set_option linter.unusedSimpArgs false
set_option linter.unusedVariables false
theorem own_off {w:World}{base:Nat}{e:TypeId}{s n:Nat}{v:Value}{xs:List Value}(h:w.ownsRow base e s v n xs){b:Nat}(hb:v.ownBlock≠some b)(o:Nat)(u:Value):(w.setCell ⟨b,o,none⟩ u).ownsRow base e s v n xs:=
 ownsRow_setCell_other (a:=⟨b,o,none⟩) h hb u
theorem fam_pieces (w:World)(base h n:Nat)(m m0:Int)(cv:Value)(xs:List Value)(hne:cv.ownBlock≠some h)(hn:n<=1100000)(hh:Blk w h #[.slice none 0 0,.slice none 0 0,cv,.slice none 0 0,.int .i64 m0])(hc:w.ownsRow base 55 10 cv n xs) :
  Calls Tryz.prog 51 #[.pointer (some ⟨h,0,none⟩)] (w.setCell ⟨h,4,none⟩ (.int .i64 m)) fun e w'=>e = .returned (.tuple #[])/\∃ rs,Fam w' base m (.slice none 0 0) (.slice none 0 0) cv (.slice none 0 0) 0 0 n 0 rs/\(∀ q∈rs,w.heap.size<=q)/\Kp (fun b=>(Value.slice none 0 0).ownBlock=some b\/(Value.slice none 0 0).ownBlock=some b\/cv.ownBlock=some b\/(Value.slice none 0 0).ownBlock=some b) (w.setCell ⟨h,4,none⟩ (.int .i64 m)) w':=by
 have hh1:=hh.set 4 (by simp) (.int .i64 m)
 refine (marks_pieces base h n m cv xs (w.setCell ⟨h,4,none⟩ (.int .i64 m)) hne hn (by simpa using hh1) (own_off hc hne _ _)).mono ?_
 rintro e w' ⟨rfl,ho,hkp⟩
 exact ⟨rfl,[],⟨rfl,own_nil _ _ _ _,fun q hq=>(by cases hq),own_nil _ _ _ _,ho,own_nil _ _ _ _,fun q hq=>(by cases hq)⟩,(fun q hq=>by cases hq),hkp.weaken fun b _ e=>.inr (.inr (.inl e))⟩
theorem keep_pieces (base wb n:Nat)(hv cv:Value)(L:List Nat)(X:Nat->Prop)(xs:List Value)(w:World)(hL:L.length<=1000000000000)(hn:n<=1100000)(hX:∀ b,X b->b<w.heap.size)(hbase:base<=w.heap.size)
  (hW:Wld w base wb hv L (FX (fun b _=>¬ X b/\cv.ownBlock≠some b) wb hv)) (hc:w.ownsRow base 55 10 cv n xs) (hx:∀ b,cv.ownBlock=some b->¬ X b/\hv.ownBlock≠some b) :
  Calls Tryz.prog 27 #[.pointer (some ⟨wb,0,none⟩),.pointer (some ⟨w.heap.size,0,none⟩)] (w.alloc (.cells #[.slice none 0 0,.slice none 0 0,cv,.slice none 0 0,.int .i64 0] 60)) fun e w'=>e = .returned (.tuple #[])/\∃ hv' L',L'.length=L.length+4/\Wld w' base wb hv' L' (FX (fun b _=>¬ X b) wb hv')/\Kp (fun b=>b=wb\/hv.ownBlock=some b\/cv.ownBlock=some b) w w'/\Fresh w hv hv':=by
 have hh:=Blk.new w #[.slice none 0 0,.slice none 0 0,cv,.slice none 0 0,.int .i64 0] 60
 have hbl:=(Below.refl w.heap.size w).alloc (Nat.le_refl _) (.cells #[.slice none 0 0,.slice none 0 0,cv,.slice none 0 0,.int .i64 0] 60)
 have hwl:=hW.blk.lt
 have hcl:∀ b,cv.ownBlock=some b->base<=b/\b<w.heap.size:=fun b e=>hc.lt b e
 have hW1:Wld (w.alloc (.cells #[.slice none 0 0,.slice none 0 0,cv,.slice none 0 0,.int .i64 0] 60)) base wb hv L (FX (fun b _=>¬ X b/\b≠w.heap.size/\(Value.slice none 0 0).ownBlock≠some b/\(Value.slice none 0 0).ownBlock≠some b/\cv.ownBlock≠some b/\(Value.slice none 0 0).ownBlock≠some b) wb hv):=by
  refine hW.kp (X:=fun _=>False) (Kp.of hbl) (fun e=>e) (fun _ _ e=>e) (fun b o u ⟨⟨x1,x2⟩,x3,x4⟩ hc=>?_)
  have hlt:b<w.heap.size:=World.block_lt_of_cell? w ⟨b,o,none⟩ hc
  exact ⟨(hbl.cell (p:=⟨b,o,none⟩) hlt).trans hc,⟨x1,by omega,nil_own _,nil_own _,x2,nil_own _⟩,x3,x4⟩
 refine (keep_any base wb w.heap.size hv L X _ _ _ _ 0 0 n 0 0 _ hL (by omega) (by omega) hn (by omega) (fun b e=>by have:=hX b e;simp;omega) hW1 hh (by omega) (fun e=>by have:=(hW.own.lt _ e).2;omega) (fun e=>by have:=hX _ e;omega) (nil_own _) (nil_own _) (fun e=>by have:=hcl _ e;omega) (nil_own _) ?_ (by simp;omega) ?_).mono ?_
 ·intro b e
  rcases e with e | e | e | e
  ·exact absurd e (nil_own _)
  ·exact absurd e (nil_own _)
  ·exact ⟨(hx b e).1,(hx b e).2,by have:=hW.lt;have:=hcl b e;omega⟩
  ·exact absurd e (nil_own _)
 ·exact (fam_pieces _ base w.heap.size n _ 0 cv xs (fun e=>by have:=hcl _ e;omega) hn hh (hc.alloc _))
 ·rintro e w' ⟨rfl,hv',L',hl,hW',hk,hf⟩
  refine ⟨rfl,hv',L',hl,hW',⟨hk.os,hk.tape,hk.output,by have:=hk.size;simp at this;omega,fun b hb hnx=>?_⟩,?_⟩
  ·refine (hk.block b (by simp;omega) (fun e=>hnx ?_)).trans (hbl.block b hb)
   rcases e with e | e | e | e | e | e | e
   ·exact .inl e
   ·exact .inr (.inl e)
   ·omega
   ·exact absurd e (nil_own _)
   ·exact absurd e (nil_own _)
   ·exact .inr (.inr e)
   ·exact absurd e (nil_own _)
  ·rcases hf with hf | ⟨k,hf,hk⟩
   ·exact .inl hf
   ·exact .inr ⟨k,hf,by simp at hk;omega⟩
theorem ArgAt.kp {w1 w w':World}{s0 pb rb wl xb:Nat}{rg:Nat->Nat}{P:List (List Pt)}{vs us:Array Value}{X:Nat->Prop}(h1:ArgAt w1 s0 pb rb wl xb rg P vs us)(h:ArgAt w s0 pb rb wl xb rg P vs us)(k:Kp X w w')(hx:∀ b,s0<=b->b<w1.heap.size->¬ X b):ArgAt w' s0 pb rb wl xb rg P vs us:=by
 have a1:=h1.rbase
 have a2:=h1.wbase
 have a3:=h1.rp
 have a4:=h1.wp
 have a5:=h1.pbx
 have hp:∀ t,t<P.length->s0<=rg t/\rg t<w1.heap.size:=fun t ht=>⟨by have:=(h1.hand.ord t ht).1;omega,(h1.hand.pts t ht).lt⟩
 refine ⟨⟨Kp.blk h.hand.pbk k (hx _ (by omega) h1.hand.pbk.lt),Kp.blk h.hand.rbk k (hx _ a1 h1.hand.rbk.lt),Kp.blk h.hand.wbk k (hx _ a2 h1.hand.wbk.lt),h.hand.vsz,h.hand.usz,h.hand.vat,h.hand.uat,fun t ht=>Kp.blk (h.hand.pts t ht) k (hx _ (hp t ht).1 (hp t ht).2),h.hand.ord,h.hand.rty.same (k.block rb h.hand.rbk.lt (hx _ a1 h1.hand.rbk.lt)),fun t ht=>(h.hand.pty t ht).same (k.block (rg t) (h.hand.pts t ht).lt (hx _ (hp t ht).1 (hp t ht).2))⟩,h.last,Kp.blk h.xbk k (hx _ (by omega) h1.xbk.lt),h.xord,h.pbx,h.rbase,h.wbase,h.rp,h.wp,h.rw'⟩
set_option maxHeartbeats 1000000 in
theorem sideOf_any (p q a b:Pt)(w:World)(hp:Gd p)(hq:Gd q)(ha:Gd a)(hb:Gd b) :
  Calls Tryz.prog 111 #[p.v,q.v,sg a b] w fun e w'=>e = .returned (.int .i64 (sideOfM p q a b))/\Below w.heap.size w w':=by
 by_cases h:sideM a b p=0
 ·have H:Hid (sideOfM p q a b=sideM a b q):=by unfold sideOfM;rw [if_neg (by simpa using h)];exact hide rfl
  have h':(sideM a b p != 0)=false:=by simpa using h
  go_enter Tryz.func111,Tryz.ntmps111
  go_wp2_with fail
  refine (segSide_any a b p _ ha hb hp).mono ?_
  rintro e w1 ⟨rfl,k⟩
  have B1:=bvia (below3 _ _ _ _) k
  obtain ⟨cq,fq,zq⟩:=((Blk.at (w.heap.size+1) (by simp)).alloc _).call k
  obtain ⟨ce,fe,ze⟩:=(Blk.at (w.heap.size+1+1) (by simp)).call k
  clear k
  go_wp2_with fail
  refine (segSide_any a b q _ ha hb hq).mono ?_
  rintro e w2 ⟨rfl,k⟩
  have B2:=bvia B1 k
  clear k cq fq ce fe B1
  go_wp2
  go_ret
  exact ⟨ret_int H.out.symm,B2⟩
 ·have H:Hid (sideOfM p q a b=sideM a b p):=by unfold sideOfM;rw [if_pos h];exact hide rfl
  have h':(sideM a b p != 0)=true:=by simpa using h
  go_enter Tryz.func111,Tryz.ntmps111
  go_wp2_with fail
  refine (segSide_any a b p _ ha hb hp).mono ?_
  rintro e w1 ⟨rfl,k⟩
  have B1:=bvia (below3 _ _ _ _) k
  clear k
  go_wp2
  go_ret
  exact ⟨ret_int H.out.symm,B1⟩
theorem par_drop (f:Pt->Pt->Bool)(E:List (Pt×Pt))(k:Nat)(hk:k<E.length):parB f (E.drop k)=(f (E.getD k (zP,zP)).1 (E.getD k (zP,zP)).2 ^^ parB f (E.drop (k+1))):=by
 rw [List.drop_eq_getElem_cons hk,List.getD_eq_getElem?_getD,List.getElem?_eq_getElem hk];rfl
set_option maxRecDepth 100000 in
set_option maxHeartbeats 4000000 in
theorem cutSides_any (p q:Pt)(v:Value)(E:List (Pt×Pt))(w:World)(hE:SegsAt w v E)(hG:GdE E)(hp:Gd p)(hq:Gd q) :
  Calls Tryz.prog 87 #[p.v,q.v,v] w fun e w'=>e = .returned (.tuple #[.bool (parB (leftE p q) E),.bool (parB (rightE p q) E)])/\Below w.heap.size w w':=by
 obtain ⟨a,cap,rfl,h1,h2,h3⟩:=hE
 unfold maxLen at h2
 have H3:=hide h3
 have HG:=hide hG
 clear h3 hG
 go_enter Tryz.func87,Tryz.ntmps87
 go_wp2_with fail
 go_loopw [8,9,11,12,15] (fun lv rv _ _ iv w'=>∃ (k:Nat) (x y:Bool),iv = .int .i64 k/\lv = .bool x/\rv = .bool y/\k<=E.length/\Blk w' w.heap.size #[.int .i64 p.x,.int .i64 p.y,.int .i64 p.d]/\Blk w' (w.heap.size+1) #[.int .i64 q.x,.int .i64 q.y,.int .i64 q.d]/\Below w.heap.size w w'/\Hid (parB (leftE p q) E=(x ^^ parB (leftE p q) (E.drop k)))/\Hid (parB (rightE p q) E=(y ^^ parB (rightE p q) (E.drop k)))) (fun _ _ _ _ iv _=>E.length-(intOf iv).toNat)
 case atStart=>exact ⟨0,false,false,rfl,rfl,rfl,Nat.zero_le _,(Blk.new w _ _).alloc _,Blk.at (w.heap.size+1) (by simp),below2 _ _ _,by simp [hide],by simp [hide]⟩
 case round=>
  obtain ⟨k,x,y,rfl,rfl,rfl,hk,⟨cp,fp,zp⟩,⟨cq,fq,zq⟩,hbel,HL,HR⟩:=hrel
  by_cases hlt:k<E.length
  ·obtain ⟨b,off,rfl,hb,hs⟩:=H3.out k hlt
   obtain ⟨c0,c1,c2,c3,c4,c5⟩:=hs.later hbel hb
   obtain ⟨g1,g2⟩:=HG.out k hlt
   have HL1:=hide (par_drop (leftE p q) E k hlt)
   have HR1:=hide (par_drop (rightE p q) E k hlt)
   generalize E.getD k (zP,zP)=e at *
   have HLe:=hide (show leftE p q e.1 e.2=(spanM e.1 e.2 p && decide (sideOfM p q e.1 e.2<0)) from rfl)
   have HRe:=hide (show rightE p q e.1 e.2=(spanM e.1 e.2 p && decide (sideOfM p q e.1 e.2<=0)) from rfl)
   clear hs
   go_wp2_with fail
   refine (Spans_any e.1 e.2 p _ g1 g2 hp).mono ?_
   rintro e' w1 ⟨rfl,k1⟩
   have B1:=bvia (hbel.alloc hbel.size _) k1
   have P1:=((Blk.mk cp fp zp).alloc _).call k1
   have Q1:=((Blk.mk cq fq zq).alloc _).call k1
   obtain ⟨ce,fe,ze⟩:=(Blk.new wr _ _).call k1
   obtain ⟨cp1,fp1,zp1⟩:=id P1
   obtain ⟨cq1,fq1,zq1⟩:=id Q1
   clear k1 c0 c1 c2 c3 c4 c5 cp fp zp cq fq zq hbel
   cases hsp:spanM e.1 e.2 p
   ·have HE:Hid (parB (leftE p q) E=(x ^^ parB (leftE p q) (E.drop (k+1)))):=HL.out.trans (by rw [HL1.out,HLe.out,hsp];simp)
    have HF:Hid (parB (rightE p q) E=(y ^^ parB (rightE p q) (E.drop (k+1)))):=HR.out.trans (by rw [HR1.out,HRe.out,hsp];simp)
    clear HL HR HL1 HR1 HLe HRe
    go_wp2
    go_roundw
    case rel=>exact ⟨k+1,x,y,by go_num,rfl,rfl,by omega,P1,Q1,B1,HE,HF⟩
    case measure=>simp [intOf];omega
   ·go_wp2_with fail
    refine (sideOf_any p q e.1 e.2 _ hp hq g1 g2).mono ?_
    rintro e' w2 ⟨rfl,k2⟩
    have B2:=bvia B1 k2
    have P2:=P1.call k2
    have Q2:=Q1.call k2
    clear k2 cp1 fp1 zp1 cq1 fq1 zq1 ce fe ze B1 P1 Q1
    generalize sideOfM p q e.1 e.2=sd at *
    rcases Int.lt_trichotomy sd 0 with c | c | c
    ·have HE:Hid (parB (leftE p q) E=((!x) ^^ parB (leftE p q) (E.drop (k+1)))):=HL.out.trans (by rw [HL1.out,HLe.out,hsp,decide_eq_true c];simp)
     have HF:Hid (parB (rightE p q) E=((!y) ^^ parB (rightE p q) (E.drop (k+1)))):=HR.out.trans (by rw [HR1.out,HRe.out,hsp,decide_eq_true (by omega:sd<=0)];simp)
     have c':sd<=0:=by omega
     clear HL HR HL1 HR1 HLe HRe
     go_wp2
     go_roundw
     case rel=>exact ⟨k+1,!x,!y,by go_num,rfl,rfl,by omega,P2,Q2,B2,HE,HF⟩
     case measure=>simp [intOf];omega
    ·subst c
     have HE:Hid (parB (leftE p q) E=(x ^^ parB (leftE p q) (E.drop (k+1)))):=HL.out.trans (by rw [HL1.out,HLe.out,hsp];simp)
     have HF:Hid (parB (rightE p q) E=((!y) ^^ parB (rightE p q) (E.drop (k+1)))):=HR.out.trans (by rw [HR1.out,HRe.out,hsp];simp)
     clear HL HR HL1 HR1 HLe HRe
     go_wp2
     go_roundw
     case rel=>exact ⟨k+1,x,!y,by go_num,rfl,rfl,by omega,P2,Q2,B2,HE,HF⟩
     case measure=>simp [intOf];omega
    ·have HE:Hid (parB (leftE p q) E=(x ^^ parB (leftE p q) (E.drop (k+1)))):=HL.out.trans (by rw [HL1.out,HLe.out,hsp,decide_eq_false (by omega : ¬ sd<0)];simp)
     have HF:Hid (parB (rightE p q) E=(y ^^ parB (rightE p q) (E.drop (k+1)))):=HR.out.trans (by rw [HR1.out,HRe.out,hsp,decide_eq_false (by omega : ¬ sd<=0)];simp)
     have c1 : ¬ sd<0:=by omega
     have c2 : ¬ sd<=0:=by omega
     clear HL HR HL1 HR1 HLe HRe
     go_wp2
     go_roundw
     case rel=>exact ⟨k+1,x,y,by go_num,rfl,rfl,by omega,P2,Q2,B2,HE,HF⟩
     case measure=>simp [intOf];omega
  ·have HE:Hid (parB (leftE p q) E=x):=HL.out.trans (by rw [List.drop_of_length_le (by omega)];simp [parB])
   have HF:Hid (parB (rightE p q) E=y):=HR.out.trans (by rw [List.drop_of_length_le (by omega)];simp [parB])
   clear HL HR
   go_wp2
   go_ret2
   exact ⟨by rw [HE.out,HF.out];rfl,hbel⟩
theorem Blk.kp {w w':World}{b:Nat}{vs:Array Value}{X:Nat->Prop}(h:Blk w b vs)(k:Kp X w w')(hx : ¬ X b):Blk w' b vs:=by
 have e:=k.block b h.lt hx
 exact ⟨fun o=>(World.cell?_of_block (a:=⟨b,o,none⟩) e).trans (h.cell o),fun o=>(World.frozen?_of_block (a:=⟨b,o,none⟩) e).trans (h.free o),Nat.lt_of_lt_of_le h.lt k.size⟩
theorem below_kp {m:Nat}{w wr w2:World}{X:Nat->Prop}(h:Below m w wr)(k:Kp X wr w2)(hm:m<=wr.heap.size)(hx:∀ b,X b->m<=b):Below m w w2:=
 ⟨k.os.trans h.os,k.tape.trans h.tape,k.output.trans h.output,Nat.le_trans h.size k.size,fun b hb=>(k.block b (Nat.lt_of_lt_of_le hb hm) (fun e=>by have:=hx b e;omega)).trans (h.block b hb)⟩
theorem ins_mem {l:List Pt}{q x:Pt}(h:x∈insM l q):x=q\/x∈l:=by
 unfold insM at h
 split at h
 ·exact .inr h
 ·rcases List.mem_append.1 h with h | h
  ·exact .inr (List.mem_of_mem_take h)
  ·rcases List.mem_cons.1 h with h | h
   ·exact .inl h
   ·exact .inr (List.mem_of_mem_drop h)
theorem ins_len (l:List Pt)(q:Pt):(insM l q).length<=l.length+1:=by
 unfold insM
 split
 ·omega
 ·simp;omega
def nstep (p:Pt)(B:List Pt)(l:List Pt)(e:Pt×Pt):List Pt:=
 if hasM e.1 e.2 p=true then (match B.find? (fun q=>hasM e.1 e.2 q) with | some q=>insM l q | none=>l) else l
theorem neigh_fold (p:Pt)(B:List Pt)(E:List (Pt×Pt)):neighM p B E=E.foldl (nstep p B) []:=rfl
def nfold (p:Pt)(B:List Pt)(E:List (Pt×Pt))(k:Nat):List Pt:=(E.take k).foldl (nstep p B) []
theorem nfold_succ (p:Pt)(B:List Pt)(E:List (Pt×Pt))(k:Nat)(hk:k<E.length):nfold p B E (k+1)=nstep p B (nfold p B E k) (E.getD k (zP,zP)):=by
 unfold nfold
 rw [List.take_succ_eq_append_getElem hk,List.foldl_append,List.getD_eq_getElem?_getD,List.getElem?_eq_getElem hk];rfl
theorem nfold_end (p:Pt)(B:List Pt)(E:List (Pt×Pt))(k:Nat)(hk:E.length<=k):nfold p B E k=neighM p B E:=by
 unfold nfold;rw [List.take_of_length_le hk];rfl
theorem nstep_mem {p:Pt}{B l:List Pt}{e:Pt×Pt}{x:Pt}(h:x∈nstep p B l e):x∈B\/x∈l:=by
 unfold nstep at h
 split at h
 ·split at h
  ·rename_i hf
   rcases ins_mem h with rfl | h
   ·exact .inl (List.mem_of_find?_eq_some hf)
   ·exact .inr h
  ·exact .inr h
 ·exact .inr h
theorem nstep_len (p:Pt)(B l:List Pt)(e:Pt×Pt):(nstep p B l e).length<=l.length+1:=by
 unfold nstep
 split
 ·split
  ·exact ins_len _ _
  ·omega
 ·omega
theorem find_drop (f:Pt->Bool)(B:List Pt)(j:Nat)(hj:j<B.length):(B.drop j).find? f=if f (B.getD j zP)=true then some (B.getD j zP) else (B.drop (j+1)).find? f:=by
 rw [List.drop_eq_getElem_cons hj,List.find?_cons,List.getD_eq_getElem?_getD,List.getElem?_eq_getElem hj]
 simp only [Option.getD_some]
 cases f B[j] <;> rfl
set_option maxRecDepth 100000 in
set_option maxHeartbeats 4000000 in
theorem neighbours_any (p:Pt)(bv:Value)(B:List Pt)(ev:Value)(E:List (Pt×Pt))(w:World)(hB:RingAt w bv B)(hE:SegsAt w ev E)(hp:Gd p)(gB:∀ x∈B,Gd x)(gE:GdE E)(hn:E.length<=1000) :
  Calls Tryz.prog 86 #[p.v,bv,ev] w fun e w'=>∃ v',e = .returned v'/\w'.ownsRow (w.heap.size+1) 31 3 v' (neighM p B E).length (ptCells (neighM p B E))/\Below w.heap.size w w':=by
 obtain ⟨ba,bcap,rfl,b1,b2,b3⟩:=hB
 obtain ⟨ea,ecap,rfl,e1,e2,e3⟩:=hE
 unfold maxLen at b2 e2
 have BB:=hide b3
 have EE:=hide e3
 have GB:=hide gB
 have GE:=hide gE
 clear b3 e3 gB gE
 go_enter Tryz.func86,Tryz.ntmps86
 go_wp2_with fail
 go_loopw [7,9,11,14] (fun lv _ _ iv w'=>∃ k:Nat,iv = .int .i64 k/\k<=E.length/\w'.ownsRow (w.heap.size+1) 31 3 lv (nfold p B E k).length (ptCells (nfold p B E k))/\(nfold p B E k).length<=k/\Hid (∀ x∈nfold p B E k,Gd x)/\Blk w' w.heap.size #[.int .i64 p.x,.int .i64 p.y,.int .i64 p.d]/\Below w.heap.size w w') (fun _ _ _ iv _=>E.length-(intOf iv).toNat)
 case atStart=>exact ⟨0,rfl,Nat.zero_le _,World.ownsRow_nil _ _ _ _,Nat.le_refl _,fun x hx=>(by cases hx),Blk.new w _ _,(Below.refl _ _).alloc (Nat.le_refl _) _⟩
 case round=>
  obtain ⟨k,rfl,hk,hO,hlen,HGd,hP,hbel⟩:=hrel
  by_cases hlt:k<E.length
  ·obtain ⟨b,off,rfl,hb,hs⟩:=EE.out k hlt
   obtain ⟨c0,c1,c2,c3,c4,c5⟩:=hs.later hbel hb
   obtain ⟨g1,g2⟩:=GE.out k hlt
   have HN:=hide (nfold_succ p B E k hlt)
   generalize E.getD k (zP,zP)=e at *
   generalize hl:nfold p B E k=l at *
   have HNs:=hide (show nstep p B l e=if hasM e.1 e.2 p=true then (match B.find? (fun q=>hasM e.1 e.2 q) with | some q=>insM l q | none=>l) else l from rfl)
   have hp0:=hP.lt
   obtain ⟨cp,fp,zp⟩:=id hP
   clear hs hl
   go_wp2_with fail
   refine (Has_any e.1 e.2 p _ g1 g2 hp).mono ?_
   rintro e' w1 ⟨rfl,k1⟩
   have B1:=bvia (hbel.alloc hbel.size _) k1
   have P1:=(hP.alloc _).call k1
   have E1:=(Blk.new wr #[.int .i64 e.1.x,.int .i64 e.1.y,.int .i64 e.1.d,.int .i64 e.2.x,.int .i64 e.2.y,.int .i64 e.2.d] 70).call k1
   have O1:=hide (own_later (hO.alloc (.cells #[.int .i64 e.1.x,.int .i64 e.1.y,.int .i64 e.1.d,.int .i64 e.2.x,.int .i64 e.2.y,.int .i64 e.2.d] 70)) k1)
   have hbl:∀ g,u7.ownBlock=some g->g<wr.heap.size:=fun g hg=>(hO.lt g hg).2
   have hbg:∀ g,u7.ownBlock=some g->w.heap.size+1<=g:=fun g hg=>(hO.lt g hg).1
   have HBL:=hide hbl
   have HBG:=hide hbg
   have hsz:=hbel.size
   have hsz1:wr.heap.size<w1.heap.size:=E1.lt
   clear k1 c0 c1 c2 c3 c4 c5 cp fp zp hO hP hbel hbl hbg
   obtain ⟨eb,heb⟩:∃ eb,eb=wr.heap.size:=⟨_,rfl⟩
   rw [<-heb] at E1 HBL hsz hsz1 ⊢
   clear heb
   cases hh:hasM e.1 e.2 p
   ·have HE:Hid (nfold p B E (k+1)=l):=HN.out.trans (HNs.out.trans (by rw [hh];rfl))
    clear HN HNs
    go_wp2
    go_roundw
    case rel=>exact ⟨k+1,by go_num,by omega,by rw [HE.out];exact O1.out,by rw [HE.out];omega,by rw [HE.out];exact HGd,P1,B1⟩
    case measure=>simp [intOf];omega
   ·have HNt:Hid (nfold p B E (k+1)=(match B.find? (fun q=>hasM e.1 e.2 q) with | some q=>insM l q | none=>l)):=HN.out.trans (HNs.out.trans (by rw [hh];rfl))
    clear HN HNs
    go_wp2_with fail
    go_loopw [7,11,24] (fun lv _ jv w'=>lv=u7/\∃ j:Nat,jv = .int .i64 j/\j<=B.length/\Hid (w'.ownsRow (w.heap.size+1) 31 3 u7 l.length (ptCells l))/\Blk w' w.heap.size #[.int .i64 p.x,.int .i64 p.y,.int .i64 p.d]/\Blk w' eb #[.int .i64 e.1.x,.int .i64 e.1.y,.int .i64 e.1.d,.int .i64 e.2.x,.int .i64 e.2.y,.int .i64 e.2.d]/\Below w.heap.size w w'/\Hid (B.find? (fun q=>hasM e.1 e.2 q)=(B.drop j).find? (fun q=>hasM e.1 e.2 q))) (fun _ _ jv _=>B.length-(intOf jv).toNat)
    case atStart=>exact ⟨rfl,0,rfl,Nat.zero_le _,O1,P1,E1,B1,rfl⟩
    case round=>
     clear P1 E1 B1 O1
     obtain ⟨rfl,j,rfl,hj,O2,hP,hEb,hbel,HB⟩:=hrel
     by_cases hjt:j<B.length
     ·obtain ⟨b',off',rfl,hb',hs'⟩:=BB.out j hjt
      obtain ⟨x0,x1,x2⟩:=hs'.later hbel hb'
      have HC:=hide (find_drop (fun q=>hasM e.1 e.2 q) B j hjt)
      have gx:=GB.out _ (getD_mem hjt zP)
      generalize B.getD j zP=q at *
      obtain ⟨ce,fe,ze⟩:=id hEb
      clear hs'
      go_wp2_with fail
      refine (Has_any e.1 e.2 q _ g1 g2 gx).mono ?_
      rintro e' w2 ⟨rfl,k2⟩
      have P2:=(hP.alloc _).call k2
      have Q2:=(Blk.new wr #[.int .i64 q.x,.int .i64 q.y,.int .i64 q.d] 31).call k2
      have E2:=(hEb.alloc _).call k2
      have B2:=bvia (hbel.alloc hbel.size _) k2
      have O3:=hide (own_later (O2.out.alloc (.cells #[.int .i64 q.x,.int .i64 q.y,.int .i64 q.d] 31)) k2)
      have hs2:=B2.size
      clear k2 x0 x1 x2 ce fe ze hP hEb hbel O2
      cases hh2:hasM e.1 e.2 q
      ·have HE:Hid (B.find? (fun q=>hasM e.1 e.2 q)=(B.drop (j+1)).find? (fun q=>hasM e.1 e.2 q)):=HB.out.trans (HC.out.trans (by rw [if_neg];simp [hh2]))
       clear HB HC
       go_wp2
       go_roundw
       case rel=>exact ⟨rfl,j+1,by go_num,by omega,O3,P2,E2,B2,HE⟩
       case measure=>simp [intOf];omega
      ·have HE:Hid (nfold p B E (k+1)=insM l q):=HNt.out.trans (by rw [HB.out,HC.out,if_pos hh2])
       clear HB HC
       obtain ⟨cq,fq,zq⟩:=Q2
       go_wp2_with fail
       refine (insert_any (w.heap.size+1) u7 l q _ O3.out (by have:=P2.lt;omega) (by omega) HGd.out gx).mono ?_
       rintro e' w3 ⟨v',rfl,O4,k3,_⟩
       have P3:=P2.kp k3 (fun h=>by have:=HBG.out _ h;omega)
       have B3:=below_kp B2 k3 B2.size (fun b h=>by have:=HBG.out b h;omega)
       have HO4:=hide O4
       have hle:=ins_len l q
       have HGd2:Hid (∀ x∈insM l q,Gd x):=fun x hx=>by
        rcases ins_mem hx with rfl | hx
        ·exact gx
        ·exact HGd.out x hx
       clear cq fq zq P2 E2 B2 O3 k3 O4
       go_wp2
       go_roundw
       case rel=>exact ⟨k+1,by go_num,by omega,by rw [HE.out];exact HO4.out,by rw [HE.out];omega,by rw [HE.out];exact HGd2,P3,B3⟩
       case measure=>simp [intOf];omega
     ·have HE:Hid (nfold p B E (k+1)=l):=HNt.out.trans (by rw [HB.out,List.drop_of_length_le (by omega)];rfl)
      go_wp2
      go_roundw
      case rel=>exact ⟨k+1,by go_num,by omega,by rw [HE.out];exact O2.out,by rw [HE.out];omega,by rw [HE.out];exact HGd,hP,hbel⟩
      case measure=>simp [intOf];omega
  ·have HE:Hid (nfold p B E k=neighM p B E):=nfold_end p B E k (by omega)
   go_wp2
   go_ret
   exact ⟨_,rfl,by rw [<-HE.out];exact hO,hbel⟩
theorem gd_nice {p:Pt}(h:Nice p):Gd p:=gd_good h.1
def sstep (e:Pt×Pt)(s:List Pt)(f:Pt×Pt):List Pt:=stepM s (meetM e.1 e.2 f.1 f.2)
def sfold (e:Pt×Pt)(E:List (Pt×Pt))(s:List Pt)(j:Nat):List Pt:=(E.take j).foldl (sstep e) s
def ofold (E:List (Pt×Pt))(k:Nat):List Pt:=(E.take k).foldl (fun s e=>E.foldl (sstep e) s) []
theorem sfold_succ (e:Pt×Pt)(E:List (Pt×Pt))(s:List Pt)(j:Nat)(hj:j<E.length):sfold e E s (j+1)=stepM (sfold e E s j) (meetM e.1 e.2 (E.getD j (zP,zP)).1 (E.getD j (zP,zP)).2):=by
 unfold sfold
 rw [List.take_succ_eq_append_getElem hj,List.foldl_append,List.getD_eq_getElem?_getD,List.getElem?_eq_getElem hj];rfl
theorem ofold_succ (E:List (Pt×Pt))(k:Nat)(hk:k<E.length):ofold E (k+1)=sfold (E.getD k (zP,zP)) E (ofold E k) E.length:=by
 unfold ofold sfold
 rw [List.take_succ_eq_append_getElem hk,List.foldl_append,List.take_of_length_le (Nat.le_refl E.length),List.getD_eq_getElem?_getD,List.getElem?_eq_getElem hk];rfl
theorem ofold_end (E:List (Pt×Pt))(k:Nat)(hk:E.length<=k):ofold E k=spotsM E:=by
 unfold ofold;rw [List.take_of_length_le hk];rfl
theorem step_len (s:List Pt)(m:Mt):(stepM s m).length<=s.length+2:=by
 unfold stepM
 split
 ·split
  ·have:=ins_len (insM s m.p) m.q;have:=ins_len s m.p;omega
  ·have:=ins_len s m.q;omega
 ·split
  ·have:=ins_len s m.p;omega
  ·omega
theorem step_gd {s:List Pt}{m:Mt}(hs:∀ x∈s,Gd x)(hm:NiceM m):∀ x∈stepM s m,Gd x:=by
 intro x hx
 unfold stepM at hx
 rcases hm with k | ⟨k,hp⟩ | ⟨k,hp,hq⟩
 ·rw [if_neg (by omega),if_neg (by omega)] at hx;exact hs x hx
 ·rw [if_neg (by omega),if_pos (by omega)] at hx
  rcases ins_mem hx with rfl | hx
  ·exact gd_nice hp
  ·exact hs x hx
 ·rw [if_pos k,if_pos (by omega)] at hx
  rcases ins_mem hx with rfl | hx
  ·exact gd_nice hq
  ·rcases ins_mem hx with rfl | hx
   ·exact gd_nice hp
   ·exact hs x hx
set_option maxRecDepth 100000 in
set_option maxHeartbeats 4000000 in
theorem spotsOf_any (ev:Value)(E:List (Pt×Pt))(w:World)(hE:SegsAt w ev E)(gE:∀ e∈E,Gr e.1/\Gr e.2)(hn:E.length<=100) :
  Calls Tryz.prog 85 #[ev] w fun e w'=>∃ v',e = .returned v'/\w'.ownsRow w.heap.size 31 3 v' (spotsM E).length (ptCells (spotsM E))/\Below w.heap.size w w'/\(spotsM E).length<=2*E.length*E.length:=by
 obtain ⟨ea,ecap,rfl,e1,e2,e3⟩:=hE
 unfold maxLen at e2
 have EE:=hide e3
 have GE:=hide gE
 clear e3 gE
 go_enter Tryz.func85,Tryz.ntmps85
 go_wp2_with fail
 go_loopw [3,5,7,8,11] (fun lv _ _ _ iv w'=>∃ k:Nat,iv = .int .i64 k/\k<=E.length/\w'.ownsRow w.heap.size 31 3 lv (ofold E k).length (ptCells (ofold E k))/\(ofold E k).length<=2*E.length*k/\Hid (∀ x∈ofold E k,Gd x)/\Below w.heap.size w w') (fun _ _ _ _ iv _=>E.length-(intOf iv).toNat)
 case atStart=>exact ⟨0,rfl,Nat.zero_le _,World.ownsRow_nil _ _ _ _,Nat.zero_le _,fun x hx=>(by cases hx),Below.refl _ _⟩
 case round=>
  obtain ⟨k,rfl,hk,hO,hlen,HGd,hbel⟩:=hrel
  by_cases hlt:k<E.length
  ·obtain ⟨b,off,rfl,hb,hs⟩:=EE.out k hlt
   obtain ⟨c0,c1,c2,c3,c4,c5⟩:=hs.later hbel hb
   obtain ⟨g1,g2⟩:=GE.out _ (getD_mem hlt (zP,zP))
   have HN:=hide (ofold_succ E k hlt)
   generalize E.getD k (zP,zP)=e at *
   generalize hl:ofold E k=l at *
   have hmul:2*E.length*(k+1)=2*E.length*k+2*E.length:=by rw [Nat.mul_succ]
   have hbd:2*E.length*k<=20000:=by
    have:E.length*k<=100*100:=Nat.mul_le_mul hn (by omega)
    rw [Nat.mul_assoc];omega
   have HO:=hide hO
   have HB:=hide hbel
   have hsz:=hbel.size
   obtain ⟨eb,heb⟩:∃ eb,eb=wr.heap.size:=⟨_,rfl⟩
   have EB0:=Blk.new wr #[.int .i64 e.1.x,.int .i64 e.1.y,.int .i64 e.1.d,.int .i64 e.2.x,.int .i64 e.2.y,.int .i64 e.2.d] 70
   have NE0:∀ g,u3.ownBlock=some g->g≠wr.heap.size:=fun g hg=>by have:=(HO.out.lt g hg).2;omega
   have HEB0:=hide EB0
   clear hs hl hO hbel EB0
   go_wp2_with fail
   rw [<-heb] at HEB0 NE0 hsz ⊢
   clear heb
   go_loopw [3,7,8,17] (fun lv _ _ jv w'=>∃ j:Nat,jv = .int .i64 j/\j<=E.length/\w'.ownsRow w.heap.size 31 3 lv (sfold e E l j).length (ptCells (sfold e E l j))/\(sfold e E l j).length<=2*E.length*k+2*j/\Hid (∀ x∈sfold e E l j,Gd x)/\(∀ g,lv.ownBlock=some g->g≠eb)/\Blk w' eb #[.int .i64 e.1.x,.int .i64 e.1.y,.int .i64 e.1.d,.int .i64 e.2.x,.int .i64 e.2.y,.int .i64 e.2.d]/\Below w.heap.size w w') (fun _ _ _ jv _=>E.length-(intOf jv).toNat)
   case atStart=>exact ⟨0,rfl,Nat.zero_le _,HO.out.alloc _,by simpa [sfold] using hlen,HGd,NE0,HEB0.out,HB.out.alloc HB.out.size _⟩
   case round=>
    clear HO HB c0 c1 c2 c3 c4 c5 HGd HEB0 NE0
    obtain ⟨j,rfl,hj,hO,hlj,HGd,hne,hEb,hbel⟩:=hrel
    by_cases hjt:j<E.length
    ·obtain ⟨b',off',e0,hb',hs'⟩:=EE.out j hjt
     simp at e0
     obtain ⟨rfl,rfl⟩:=e0
     obtain ⟨c0,c1,c2,c3,c4,c5⟩:=hs'.later hbel hb'
     obtain ⟨g3,g4⟩:=GE.out _ (getD_mem hjt (zP,zP))
     have HM:=hide (sfold_succ e E l j hjt)
     generalize E.getD j (zP,zP)=f at *
     have hnm:=meet_nice g1 g2 g3 g4
     have HGs:=hide (step_gd HGd.out hnm)
     have hsl:=step_len (sfold e E l j) (meetM e.1 e.2 f.1 f.2)
     have HST:=hide (show stepM (sfold e E l j) (meetM e.1 e.2 f.1 f.2)=if (meetM e.1 e.2 f.1 f.2).k=2 then insM (if (meetM e.1 e.2 f.1 f.2).k≠0 then insM (sfold e E l j) (meetM e.1 e.2 f.1 f.2).p else sfold e E l j) (meetM e.1 e.2 f.1 f.2).q else (if (meetM e.1 e.2 f.1 f.2).k≠0 then insM (sfold e E l j) (meetM e.1 e.2 f.1 f.2).p else sfold e E l j) from rfl)
     have C:=fun wz=>segMeet_any e.1 e.2 f.1 f.2 wz g1 g2 g3 g4
     generalize meetM e.1 e.2 f.1 f.2=m at *
     generalize sfold e E l j=s at *
     obtain ⟨ce,fe,ze⟩:=id hEb
     have HNE:=hide hne
     have hlo:∀ g,u3.ownBlock=some g->w.heap.size<=g/\g<wr.heap.size:=fun g hg=>hO.lt g hg
     have HLO:=hide hlo
     have hO':=hide hO
     have hEb':=hide hEb
     clear hs' hne hlo hO hEb
     go_wp2_with fail
     refine (C _).mono ?_
     rintro e' w1 ⟨rfl,k1⟩
     have B1:=bvia (hbel.alloc hbel.size _) k1
     have E1:=hide ((hEb'.out.alloc (.cells #[.int .i64 f.1.x,.int .i64 f.1.y,.int .i64 f.1.d,.int .i64 f.2.x,.int .i64 f.2.y,.int .i64 f.2.d] 70)).call k1)
     have O1:=hide (own_later (hO'.out.alloc (.cells #[.int .i64 f.1.x,.int .i64 f.1.y,.int .i64 f.1.d,.int .i64 f.2.x,.int .i64 f.2.y,.int .i64 f.2.d] 70)) k1)
     have hz1:wr.heap.size<w1.heap.size:=by have:=k1.size;simp at this;omega
     have hz0:=hbel.size
     have heb1:=E1.out.lt
     clear k1 c0 c1 c2 c3 c4 c5 ce fe ze hbel hO' hEb' C
     obtain ⟨W2,hW2⟩:∃ W,W=w1.alloc (.cells #[.int .i64 m.k,.int .i64 m.p.x,.int .i64 m.p.y,.int .i64 m.p.d,.int .i64 m.q.x,.int .i64 m.q.y,.int .i64 m.q.d] 38):=⟨_,rfl⟩
     have B2:=B1.alloc B1.size (.cells #[.int .i64 m.k,.int .i64 m.p.x,.int .i64 m.p.y,.int .i64 m.p.d,.int .i64 m.q.x,.int .i64 m.q.y,.int .i64 m.q.d] 38)
     have E2:=E1.out.alloc (.cells #[.int .i64 m.k,.int .i64 m.p.x,.int .i64 m.p.y,.int .i64 m.p.d,.int .i64 m.q.x,.int .i64 m.q.y,.int .i64 m.q.d] 38)
     have O2:=O1.out.alloc (.cells #[.int .i64 m.k,.int .i64 m.p.x,.int .i64 m.p.y,.int .i64 m.p.d,.int .i64 m.q.x,.int .i64 m.q.y,.int .i64 m.q.d] 38)
     have M2:=Blk.new w1 #[.int .i64 m.k,.int .i64 m.p.x,.int .i64 m.p.y,.int .i64 m.p.d,.int .i64 m.q.x,.int .i64 m.q.y,.int .i64 m.q.d] 38
     rw [<-hW2] at B2 E2 O2 M2
     have hO2:=hide O2
     clear B1 E1 O1 O2
     rcases hnm with hm | ⟨hm,hmp⟩ | ⟨hm,hmp,hmq⟩
     ·have HE:Hid (sfold e E l (j+1)=s):=HM.out.trans (HST.out.trans (by rw [if_neg (by omega),if_neg (by omega)]))
      rw [hm] at hW2 M2
      obtain ⟨cm,fm,zm⟩:=M2
      clear HM HST
      go_wp2_with fail
      rw [<-hW2]
      go_roundw
      case rel=>exact ⟨j+1,by go_num,by omega,by rw [HE.out];exact hO2.out,by rw [HE.out];omega,by rw [HE.out];exact HGd,HNE.out,E2,B2⟩
      case measure=>simp [intOf];omega
     ·have HE:Hid (sfold e E l (j+1)=insM s m.p):=HM.out.trans (HST.out.trans (by rw [if_neg (by omega),if_pos (by omega)]))
      have hil:=ins_len s m.p
      have HG1:Hid (∀ x∈insM s m.p,Gd x):=fun x hx=>by
       rcases ins_mem hx with rfl | hx
       ·exact gd_nice hmp
       ·exact HGd.out x hx
      rw [hm] at hW2 M2
      have hm0:=M2.lt
      obtain ⟨cm,fm,zm⟩:=M2
      clear HM HST
      go_wp2_with fail
      rw [<-hW2]
      refine (insert_any w.heap.size u3 s m.p _ hO2.out B2.size (by omega) HGd.out (gd_nice hmp)).mono ?_
      rintro e' w3 ⟨v',rfl,O4,k3,hv'⟩
      have E3:=E2.kp k3 (fun h=>HNE.out _ h rfl)
      have M3:=(Blk.mk cm fm zm).kp k3 (fun h=>by have:=(HLO.out _ h).2;omega)
      have B3:=below_kp B2 k3 B2.size (fun b h=>(HLO.out b h).1)
      have hNE3:∀ g,v'.ownBlock=some g->g≠eb:=fun g hg=>by
       rcases hv' g hg with h | h
       ·exact HNE.out g h
       ·have:=E2.lt;omega
      have HNE3:=hide hNE3
      have HO4:=hide O4
      obtain ⟨cm3,fm3,zm3⟩:=M3
      clear cm fm zm E2 B2 hO2 k3 O4 hv' hNE3
      go_wp2
      go_roundw
      case rel=>exact ⟨j+1,by go_num,by omega,by rw [HE.out];exact HO4.out,by rw [HE.out];omega,by rw [HE.out];exact HG1,HNE3.out,E3,B3⟩
      case measure=>simp [intOf];omega
     ·have HE:Hid (sfold e E l (j+1)=insM (insM s m.p) m.q):=HM.out.trans (HST.out.trans (by rw [if_pos hm,if_pos (by omega)]))
      have hil:=ins_len s m.p
      have hil2:=ins_len (insM s m.p) m.q
      have HG1:Hid (∀ x∈insM s m.p,Gd x):=fun x hx=>by
       rcases ins_mem hx with rfl | hx
       ·exact gd_nice hmp
       ·exact HGd.out x hx
      have HG2:Hid (∀ x∈insM (insM s m.p) m.q,Gd x):=fun x hx=>by
       rcases ins_mem hx with rfl | hx
       ·exact gd_nice hmq
       ·exact HG1.out x hx
      rw [hm] at hW2 M2
      have hm0:=M2.lt
      obtain ⟨cm,fm,zm⟩:=M2
      clear HM HST
      go_wp2_with fail
      rw [<-hW2]
      refine (insert_any w.heap.size u3 s m.p _ hO2.out B2.size (by omega) HGd.out (gd_nice hmp)).mono ?_
      rintro e' w3 ⟨v',rfl,O4,k3,hv'⟩
      have E3:=E2.kp k3 (fun h=>HNE.out _ h rfl)
      have M3:=(Blk.mk cm fm zm).kp k3 (fun h=>by have:=(HLO.out _ h).2;omega)
      have B3:=below_kp B2 k3 B2.size (fun b h=>(HLO.out b h).1)
      have hNE3:∀ g,v'.ownBlock=some g->g≠eb:=fun g hg=>by
       rcases hv' g hg with h | h
       ·exact HNE.out g h
       ·have:=E2.lt;omega
      have HNE3:=hide hNE3
      have hlo3:∀ g,v'.ownBlock=some g->w.heap.size<=g:=fun g hg=>(O4.lt g hg).1
      have HLO3:=hide hlo3
      have HO4:=hide O4
      obtain ⟨cm3,fm3,zm3⟩:=M3
      clear cm fm zm E2 B2 hO2 k3 O4 hv' hNE3 hlo3
      go_wp2_with fail
      refine (insert_any w.heap.size v' (insM s m.p) m.q _ HO4.out B3.size (by omega) HG1.out (gd_nice hmq)).mono ?_
      rintro e' w4 ⟨v2,rfl,O5,k4,hv2⟩
      have E4:=E3.kp k4 (fun h=>HNE3.out _ h rfl)
      have B4:=below_kp B3 k4 B3.size (fun b h=>HLO3.out b h)
      have hNE4:∀ g,v2.ownBlock=some g->g≠eb:=fun g hg=>by
       rcases hv2 g hg with h | h
       ·exact HNE3.out g h
       ·have:=E3.lt;omega
      have HNE4:=hide hNE4
      have HO5:=hide O5
      clear cm3 fm3 zm3 E3 B3 HO4 k4 O5 hv2 hNE4
      go_wp2
      go_roundw
      case rel=>exact ⟨j+1,by go_num,by omega,by rw [HE.out];exact HO5.out,by rw [HE.out];omega,by rw [HE.out];exact HG2,HNE4.out,E4,B4⟩
      case measure=>simp [intOf];omega
    ·have ej:j=E.length:=by omega
     subst ej
     have HE:Hid (ofold E (k+1)=sfold e E l E.length):=HN.out
     go_wp2
     go_roundw
     case rel=>exact ⟨k+1,by go_num,by omega,by rw [HE.out];exact hO,by rw [HE.out,hmul];omega,by rw [HE.out];exact HGd,hbel⟩
     case measure=>simp [intOf];omega
  ·have HE:Hid (ofold E k=spotsM E):=ofold_end E k (by omega)
   have ek:k=E.length:=by omega
   rw [HE.out] at hlen
   go_wp2
   go_ret
   exact ⟨_,rfl,by rw [<-HE.out];exact hO,hbel,by rw [ek] at hlen;exact hlen⟩
end Go.Proofs.YtnkcbephceollabGreat
