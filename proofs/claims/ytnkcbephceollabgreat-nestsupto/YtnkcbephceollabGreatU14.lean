import Derived.Test.YtnkcbephceollabGreatU13
import Derived.Deep.DrawnRows
namespace Go.Proofs.YtnkcbephceollabGreat
open Go.RowKit
attribute [local go_sem ↓] Go.wp_at_zero Go.wp_at_succ
set_option linter.unusedSimpArgs false
set_option linter.unusedVariables false
theorem infoRings:(Tryz.prog.info? 57).map (fun i=>(i.zero,i.size,i.bytes))=some (some (.slice none 0 0),1,24):=by kernel_rfl
theorem infoPts:(Tryz.prog.info? 31).map (fun i=>(i.zero,i.size,i.bytes))=some (some (.agg #[.int .i64 0,.int .i64 0,.int .i64 0]),3,24):=by kernel_rfl
theorem infoNums:(Tryz.prog.info? 3).map (fun i=>(i.zero,i.size,i.bytes))=some (some (.int .i64 0),1,8):=by kernel_rfl
def Near (w:World)(v v':Value):Prop:=v'.ownBlock=v.ownBlock\/∃ k,v'.ownBlock=some k/\w.heap.size+2<=k
structure Lg (w w':World)(rv pv cv nv:Value)(nr np nc nn:Nat):Prop where
 kp:Kp (fun b=>rv.ownBlock=some b\/pv.ownBlock=some b\/cv.ownBlock=some b\/nv.ownBlock=some b) w w'
 cell:∀ b o u,w.cell? ⟨b,o,none⟩=some u->(rv.ownBlock=some b->o<nr)->(pv.ownBlock=some b->o<np*3)->(cv.ownBlock=some b->o<nc*10)->(nv.ownBlock=some b->o<nn)->w'.cell? ⟨b,o,none⟩=some u
structure Stp (W w1:World)(v v':Value)(n s:Nat):Prop where
 kp:Kp (fun b=>v.ownBlock=some b) W w1
 cell:∀ b o u,W.cell? ⟨b,o,none⟩=some u->(v.ownBlock=some b->o<n*s)->w1.cell? ⟨b,o,none⟩=some u
theorem stp_of {W W1 w1:World}{base:Nat}{e:TypeId}{s n H gg cp:Nat}{v:Value}{xs news:List Value}(k:Below W.heap.size W W1)(hown:W.ownsRow base e s v n xs)
  (h1:w1.ownsRow base e s (.slice (some ⟨gg,0,none⟩) (n+1) cp) (n+1) (xs ++ news)) (hg:W1.grownBy w1 v.ownBlock) (hat:v.ownBlock=some gg\/(gg=H/\W1.grownBy w1 none)):Stp W w1 v (.slice (some ⟨gg,0,none⟩) (n+1) cp) n s:=by
 refine ⟨(Kp.of k).grown hg (fun q hq=>hq),fun b o u hc hf=>?_⟩
 have hlt:=World.block_lt_of_cell? W ⟨b,o,none⟩ hc
 have hc1:W1.cell? ⟨b,o,none⟩=some u:=(k.cell (p:=⟨b,o,none⟩) hlt).trans hc
 by_cases hb:v.ownBlock=some b
 ·rcases hat with hat | ⟨_,hat⟩
  ·have e1:gg=b:=by rw [hat] at hb;exact Option.some.inj hb
   subst e1
   have ho:=hf hb
   have hc2:=own_cell hown gg hb o ho
   rw [hc] at hc2
   rw [own_cell h1 gg rfl o (by rw [Nat.add_mul];omega),List.getElem?_append_left (by rw [hown.1];exact ho),<-hc2]
  ·exact hat.cell hc1 (by simp)
 ·exact hg.cell hc1 (fun e=>hb e.symm)
theorem far_set (W:World)(p o b i:Nat)(u:Value)(h:b≠p):(W.setCell ⟨p,o,none⟩ u).cell? ⟨b,i,none⟩=W.cell? ⟨b,i,none⟩:=World.cell?_of_block (Below.heap_setCell W ⟨p,o,none⟩ u b h)
theorem far1 (W:World)(b o:Nat)(o1:Obj)(hb:b<W.heap.size):(W.alloc o1).drew.cell? ⟨b,o,none⟩=W.cell? ⟨b,o,none⟩:=World.cell?_alloc_past (w:=W) o1 b o hb
theorem far1' (W:World)(b o:Nat)(o1:Obj)(hb:b<W.heap.size):(W.alloc o1).cell? ⟨b,o,none⟩=W.cell? ⟨b,o,none⟩:=World.cell?_alloc_past (w:=W) o1 b o hb
theorem far2 (W:World)(b o:Nat)(o1 o2:Obj)(hb:b<W.heap.size):((W.alloc o1).alloc o2).drew.cell? ⟨b,o,none⟩=W.cell? ⟨b,o,none⟩:=(World.cell?_alloc_past (w:=W.alloc o1) o2 b o (by simp;omega)).trans (World.cell?_alloc_past (w:=W) o1 b o hb)
theorem heap_new3 (w:World)(o1 o2 o3:Obj):(((w.alloc o1).alloc o2).alloc o3).drew.heap[w.heap.size+1+1]?=some o3:=by
 have:=heap_alloc_new ((w.alloc o1).alloc o2) o3
 have e:((w.alloc o1).alloc o2).heap.size=w.heap.size+1+1:=by simp
 rw [e] at this
 exact this
theorem Blk.grown {W w1:World}{b:Nat}{vs:Array Value}{row:Option Nat}(h:Blk W b vs)(hg:W.grownBy w1 row)(hne:row≠some b):Blk w1 b vs:=
 ⟨fun o=>(hg.cell_far ⟨b,o,none⟩ h.lt (Ne.symm hne)).trans (h.cell o),fun o=>(hg.frozen_far ⟨b,o,none⟩ h.lt (Ne.symm hne)).trans (h.free o),Nat.lt_of_lt_of_le h.lt hg.size⟩
structure Mid (w W:World)(vs:Array Value)(rv pv cv nv:Value)(nr np nc nn:Nat):Prop where
 lg:Lg w W rv pv cv nv nr np nc nn
 gb:Blk W w.heap.size vs
 sz:w.heap.size+1<=W.heap.size
theorem Mid.step {w W W1 w1:World}{base:Nat}{e:TypeId}{s n H gg cp:Nat}{v:Value}{xs news:List Value}{vs:Array Value}{rv pv cv nv:Value}{nr np nc nn:Nat}(M:Mid w W vs rv pv cv nv nr np nc nn)(k:Below W.heap.size W W1)(hown:W.ownsRow base e s v n xs)
  (h1:w1.ownsRow base e s (.slice (some ⟨gg,0,none⟩) (n+1) cp) (n+1) (xs ++ news)) (hg:W1.grownBy w1 v.ownBlock) (hat:v.ownBlock=some gg\/(gg=H/\W1.grownBy w1 none))
  (hv:(v=rv/\n*s=nr)\/(v=pv/\n*s=np*3)\/(v=cv/\n*s=nc*10)\/(v=nv/\n*s=nn)) (hne:v.ownBlock≠some w.heap.size) (i:Nat) (hi:i<vs.size) (x:Value) :
  Mid w (w1.setCell ⟨w.heap.size,i,none⟩ x) (vs.setIfInBounds i x) rv pv cv nv nr np nc nn:=by
 have S:=stp_of k hown h1 hg hat
 refine ⟨⟨?_,?_⟩,?_,?_⟩
 ·refine Kp.setCell (M.lg.kp.trans (S.kp.weaken fun b hb e=>?_)) (fun e=>absurd e (Nat.lt_irrefl _)) x
  rcases hv with ⟨rfl,_⟩ | ⟨rfl,_⟩ | ⟨rfl,_⟩ | ⟨rfl,_⟩
  ·exact .inl e
  ·exact .inr (.inl e)
  ·exact .inr (.inr (.inl e))
  ·exact .inr (.inr (.inr e))
 ·intro b o u hc f0 f1 f2 f3
  have hlt:b<w.heap.size:=World.block_lt_of_cell? w ⟨b,o,none⟩ hc
  rw [far_set _ _ _ _ _ _ (by omega)]
  refine S.cell b o u (M.lg.cell b o u hc f0 f1 f2 f3) (fun e=>?_)
  rcases hv with ⟨rfl,q⟩ | ⟨rfl,q⟩ | ⟨rfl,q⟩ | ⟨rfl,q⟩
  ·rw [q];exact f0 e
  ·rw [q];exact f1 e
  ·rw [q];exact f2 e
  ·rw [q];exact f3 e
 ·exact (((M.gb.call k).grown hg hne)).set i hi x
 ·have:=S.kp.size
  have:=M.sz
  simp;omega
theorem own_step {W W1 w1:World}{base base':Nat}{e e':TypeId}{s n s' n' g i:Nat}{v v' x:Value}{xs xs':List Value}(h:W.ownsRow base' e' s' v' n' xs')(k:Below W.heap.size W W1)(hown:W.ownsRow base e s v n xs)(he:e'≠e)(hg:W1.grownBy w1 v.ownBlock)(hne:v'.ownBlock≠some g) :
  (w1.setCell ⟨g,i,none⟩ x).ownsRow base' e' s' v' n' xs':=by
 refine ownsRow_setCell_other ?_ hne x
 have h1:W1.ownsRow base' e' s' v' n' xs':=h.kept (row:=none) ⟨k.os,k.tape,k.output,k.size,fun b hb _=>k.block b hb⟩ (by cases v'.ownBlock <;> simp)
 refine h1.kept hg ?_
 cases hb:v'.ownBlock with
 | none=>exact .inl rfl
 | some b=>exact .inr (fun e=>own_apart h hown he b hb e.symm)
theorem pt_step {W W1 w1:World}{g i b o:Nat}{row:Option Nat}{x:Value}{p:Pt}(h:PtAt W b o p)(k:Below W.heap.size W W1)(hg:W1.grownBy w1 row)(h1:row≠some b)(h2:b≠g):PtAt (w1.setCell ⟨g,i,none⟩ x) b o p:=by
 have hlt:b<W.heap.size:=World.block_lt_of_cell? W ⟨b,o,none⟩ h.x
 have e:∀ q u,W.cell? ⟨b,q,none⟩=some u->(w1.setCell ⟨g,i,none⟩ x).cell? ⟨b,q,none⟩=some u:=fun q u hc=>by
  rw [far_set _ _ _ _ _ _ h2]
  exact hg.cell ((k.cell (p:=⟨b,q,none⟩) hlt).trans hc) (Ne.symm h1)
 exact ⟨e _ _ h.x,e _ _ h.y,e _ _ h.d⟩
theorem near_of {w:World}{v:Value}{gg H n cp:Nat}{q:Prop}(hat:v.ownBlock=some gg\/(gg=H/\q))(hH:w.heap.size+2<=H):Near w v (.slice (some ⟨gg,0,none⟩) n cp):=by
 rcases hat with h | ⟨rfl,_⟩
 ·exact .inl h.symm
 ·exact .inr ⟨gg,rfl,hH⟩
theorem near_ne {w:World}{v v':Value}{g:Nat}(h:Near w v v')(hg:g<=w.heap.size+1)(hv:v.ownBlock≠some g):v'.ownBlock≠some g:=by
 rcases h with h | ⟨k,h,hk⟩
 ·rw [h];exact hv
 ·rw [h];intro e;have:=Option.some.inj e;omega
structure St4 (w W:World)(base:Nat)(m:Int)(vs:Array Value)(rv pv cv nv:Value)(nr np nc nn:Nat)(x0 x1 x2 x3:Value)(n0 n1 n2 n3:Nat)(rs:List Nat):Prop where
 mid:Mid w W vs rv pv cv nv nr np nc nn
 rl:rs.length=n0
 ro:W.ownsRow base 57 1 x0 n0 (rs.map fun g=>.slice (some ⟨g,0,none⟩) 1 1)
 rp:∀ g∈rs,PtAt W g 0 ⟨m,0,0⟩
 po:W.ownsRow base 31 3 x1 n1 (rep n1 (ptMk m))
 co:W.ownsRow base 55 10 x2 n2 (rep n2 (pcMk m))
 no:W.ownsRow base 3 1 x3 n3 (rep n3 [.int .i64 m])
 a0:Near w rv x0
 a1:Near w pv x1
 a2:Near w cv x2
 a3:Near w nv x3
 rn:∀ g∈rs,g<=w.heap.size+1/\g≠w.heap.size/\rv.ownBlock≠some g/\pv.ownBlock≠some g/\cv.ownBlock≠some g/\nv.ownBlock≠some g
 h0:rv.ownBlock≠some w.heap.size
 h1:pv.ownBlock≠some w.heap.size
 h2:cv.ownBlock≠some w.heap.size
 h3:nv.ownBlock≠some w.heap.size
theorem St4.fam {w W:World}{base:Nat}{m:Int}{vs:Array Value}{rv pv cv nv:Value}{nr np nc nn:Nat}{x0 x1 x2 x3:Value}{n0 n1 n2 n3:Nat}{rs:List Nat}(h:St4 w W base m vs rv pv cv nv nr np nc nn x0 x1 x2 x3 n0 n1 n2 n3 rs):Fam W base m x0 x1 x2 x3 n0 n1 n2 n3 rs:=
 ⟨h.rl,h.ro,h.rp,h.po,h.co,h.no,fun g hg=>by
  obtain ⟨e,_,f0,f1,f2,f3⟩:=h.rn g hg
  exact ⟨near_ne h.a0 e f0,near_ne h.a1 e f1,near_ne h.a2 e f2,near_ne h.a3 e f3⟩⟩
theorem st4_start {w:World}{base:Nat}{m:Int}{rv pv cv nv:Value}{nr np nc nn:Nat}{rs:List Nat}(f:Fam w base m rv pv cv nv nr np nc nn rs)(vs:Array Value)(t:TypeId) :
  St4 w (w.alloc (.cells vs t)) base m vs rv pv cv nv nr np nc nn rv pv cv nv nr np nc nn rs:=by
 have hb:=(Below.refl w.heap.size w).alloc (Nat.le_refl _) (.cells vs t)
 have hlt:∀ g∈rs,g<w.heap.size:=fun g hg=>World.block_lt_of_cell? w ⟨g,0,none⟩ (f.rp g hg).x
 refine ⟨⟨⟨Kp.of hb,fun b o u hc _ _ _ _=>(hb.cell (p:=⟨b,o,none⟩) (World.block_lt_of_cell? w ⟨b,o,none⟩ hc)).trans hc⟩,Blk.new w vs t,by simp⟩,f.rl,f.ro.alloc _,fun g hg=>(f.rp g hg).later hb (hlt g hg),f.po.alloc _,f.co.alloc _,f.no.alloc _,.inl rfl,.inl rfl,.inl rfl,.inl rfl,fun g hg=>?_,?_,?_,?_,?_⟩
 ·have:=hlt g hg
  exact ⟨by omega,by omega,f.rn g hg⟩
 ·intro e;have:=(f.ro.lt _ e).2;omega
 ·intro e;have:=(f.po.lt _ e).2;omega
 ·intro e;have:=(f.co.lt _ e).2;omega
 ·intro e;have:=(f.no.lt _ e).2;omega
section
variable {w W w1:World}{base:Nat}{m:Int}{vs:Array Value}{rv pv cv nv:Value}{nr np nc nn:Nat}{x0 x1 x2 x3:Value}{n0 n1 n2 n3:Nat}{rs:List Nat}{gg cp:Nat}
theorem St4.ring (h:St4 w W base m vs rv pv cv nv nr np nc nn rv x1 x2 x3 nr n1 n2 n3 rs)(hs:0<vs.size)(eW:W.heap.size=w.heap.size+1)(hq:rv.ownBlock≠some (w.heap.size+1)/\pv.ownBlock≠some (w.heap.size+1)/\cv.ownBlock≠some (w.heap.size+1)/\nv.ownBlock≠some (w.heap.size+1))
  (o1:w1.ownsRow base 57 1 (.slice (some ⟨gg,0,none⟩) (nr+1) cp) (nr+1) ((rs.map fun g=>.slice (some ⟨g,0,none⟩) 1 1) ++ [.slice (some ⟨w.heap.size+1,0,none⟩) 1 1]))
  (hg:((W.alloc (.cells #[.int .i64 m,.int .i64 0,.int .i64 0] 31)).alloc (.cells #[.slice (some ⟨w.heap.size+1,0,none⟩) 1 1] 57)).drew.grownBy w1 rv.ownBlock)
  (hat:rv.ownBlock=some gg\/(gg=w.heap.size+1+1+1/\((W.alloc (.cells #[.int .i64 m,.int .i64 0,.int .i64 0] 31)).alloc (.cells #[.slice (some ⟨w.heap.size+1,0,none⟩) 1 1] 57)).drew.grownBy w1 none)) :
  St4 w (w1.setCell ⟨w.heap.size,0,none⟩ (.slice (some ⟨gg,0,none⟩) (nr+1) cp)) base m (vs.setIfInBounds 0 (.slice (some ⟨gg,0,none⟩) (nr+1) cp)) rv pv cv nv nr np nc nn (.slice (some ⟨gg,0,none⟩) (nr+1) cp) x1 x2 x3 (nr+1) n1 n2 n3 (rs ++ [w.heap.size+1]):=by
 have k:Below W.heap.size W ((W.alloc (.cells #[.int .i64 m,.int .i64 0,.int .i64 0] 31)).alloc (.cells #[.slice (some ⟨w.heap.size+1,0,none⟩) 1 1] 57)).drew:=(((Below.refl _ _).alloc (Nat.le_refl _) _).alloc (by simp) _).drew
 have nr0:Near w rv (.slice (some ⟨gg,0,none⟩) (nr+1) cp):=near_of hat (by omega)
 have ng:(Value.slice (some ⟨gg,0,none⟩) (nr+1) cp).ownBlock≠some w.heap.size:=near_ne nr0 (by omega) h.h0
 refine ⟨h.mid.step k h.ro o1 hg hat (.inl ⟨rfl,by omega⟩) h.h0 0 hs _,by simp [h.rl],by rw [List.map_append];exact ownsRow_setCell_other o1 ng _,fun g hgm=>?_,own_step h.po k h.ro (by decide) hg (near_ne h.a1 (by omega) h.h1),own_step h.co k h.ro (by decide) hg (near_ne h.a2 (by omega) h.h2),own_step h.no k h.ro (by decide) hg (near_ne h.a3 (by omega) h.h3),nr0,h.a1,h.a2,h.a3,fun g hgm=>?_,h.h0,h.h1,h.h2,h.h3⟩
 ·rcases List.mem_append.1 hgm with hgm | hgm
  ·obtain ⟨_,e1,e2,_⟩:=h.rn g hgm
   exact pt_step (h.rp g hgm) k hg e2 e1
  ·have e:=List.mem_singleton.1 hgm
   subst e
   have b0:Blk ((W.alloc (.cells #[.int .i64 m,.int .i64 0,.int .i64 0] 31)).alloc (.cells #[.slice (some ⟨w.heap.size+1,0,none⟩) 1 1] 57)).drew (w.heap.size+1) #[.int .i64 m,.int .i64 0,.int .i64 0]:=((Blk.at (w.heap.size+1) eW.symm).alloc _).drew
   have b1:=(b0.grown hg hq.1).off (p:=w.heap.size) (by omega) 0 (.slice (some ⟨gg,0,none⟩) (nr+1) cp)
   exact ⟨b1.cell 0,b1.cell 1,b1.cell 2⟩
 ·rcases List.mem_append.1 hgm with hgm | hgm
  ·exact h.rn g hgm
  ·have e:=List.mem_singleton.1 hgm
   subst e
   exact ⟨by omega,by omega,hq⟩
theorem St4.pts {o:Obj}(h:St4 w W base m vs rv pv cv nv nr np nc nn x0 pv x2 x3 n0 np n2 n3 rs)(hs:1<vs.size)
  (o1:w1.ownsRow base 31 3 (.slice (some ⟨gg,0,none⟩) (np+1) cp) (np+1) (rep np (ptMk m) ++ ptMk m)) (hg:(W.alloc o).drew.grownBy w1 pv.ownBlock)
  (hat:pv.ownBlock=some gg\/(gg=W.heap.size+1/\(W.alloc o).drew.grownBy w1 none)) :
  St4 w (w1.setCell ⟨w.heap.size,1,none⟩ (.slice (some ⟨gg,0,none⟩) (np+1) cp)) base m (vs.setIfInBounds 1 (.slice (some ⟨gg,0,none⟩) (np+1) cp)) rv pv cv nv nr np nc nn x0 (.slice (some ⟨gg,0,none⟩) (np+1) cp) x2 x3 n0 (np+1) n2 n3 rs:=by
 have k:Below W.heap.size W (W.alloc o).drew:=((Below.refl _ _).alloc (Nat.le_refl _) _).drew
 have sz:=h.mid.sz
 have nr0:Near w pv (.slice (some ⟨gg,0,none⟩) (np+1) cp):=near_of hat (by omega)
 have ng:(Value.slice (some ⟨gg,0,none⟩) (np+1) cp).ownBlock≠some w.heap.size:=near_ne nr0 (by omega) h.h1
 exact ⟨h.mid.step k h.po o1 hg hat (.inr (.inl ⟨rfl,rfl⟩)) h.h1 1 hs _,h.rl,own_step h.ro k h.po (by decide) hg (near_ne h.a0 (by omega) h.h0),fun g hgm=>by
  obtain ⟨_,e1,_,e2,_⟩:=h.rn g hgm
  exact pt_step (h.rp g hgm) k hg e2 e1,by rw [rep_succ];exact ownsRow_setCell_other o1 ng _,own_step h.co k h.po (by decide) hg (near_ne h.a2 (by omega) h.h2),own_step h.no k h.po (by decide) hg (near_ne h.a3 (by omega) h.h3),h.a0,nr0,h.a2,h.a3,h.rn,h.h0,h.h1,h.h2,h.h3⟩
theorem St4.pcs {o:Obj}(h:St4 w W base m vs rv pv cv nv nr np nc nn x0 x1 cv x3 n0 n1 nc n3 rs)(hs:2<vs.size)
  (o1:w1.ownsRow base 55 10 (.slice (some ⟨gg,0,none⟩) (nc+1) cp) (nc+1) (rep nc (pcMk m) ++ pcMk m)) (hg:(W.alloc o).drew.grownBy w1 cv.ownBlock)
  (hat:cv.ownBlock=some gg\/(gg=W.heap.size+1/\(W.alloc o).drew.grownBy w1 none)) :
  St4 w (w1.setCell ⟨w.heap.size,2,none⟩ (.slice (some ⟨gg,0,none⟩) (nc+1) cp)) base m (vs.setIfInBounds 2 (.slice (some ⟨gg,0,none⟩) (nc+1) cp)) rv pv cv nv nr np nc nn x0 x1 (.slice (some ⟨gg,0,none⟩) (nc+1) cp) x3 n0 n1 (nc+1) n3 rs:=by
 have k:Below W.heap.size W (W.alloc o).drew:=((Below.refl _ _).alloc (Nat.le_refl _) _).drew
 have sz:=h.mid.sz
 have nr0:Near w cv (.slice (some ⟨gg,0,none⟩) (nc+1) cp):=near_of hat (by omega)
 have ng:(Value.slice (some ⟨gg,0,none⟩) (nc+1) cp).ownBlock≠some w.heap.size:=near_ne nr0 (by omega) h.h2
 exact ⟨h.mid.step k h.co o1 hg hat (.inr (.inr (.inl ⟨rfl,rfl⟩))) h.h2 2 hs _,h.rl,own_step h.ro k h.co (by decide) hg (near_ne h.a0 (by omega) h.h0),fun g hgm=>by
  obtain ⟨_,e1,_,_,e2,_⟩:=h.rn g hgm
  exact pt_step (h.rp g hgm) k hg e2 e1,own_step h.po k h.co (by decide) hg (near_ne h.a1 (by omega) h.h1),by rw [rep_succ];exact ownsRow_setCell_other o1 ng _,own_step h.no k h.co (by decide) hg (near_ne h.a3 (by omega) h.h3),h.a0,h.a1,nr0,h.a3,h.rn,h.h0,h.h1,h.h2,h.h3⟩
theorem St4.nums {o:Obj}(h:St4 w W base m vs rv pv cv nv nr np nc nn x0 x1 x2 nv n0 n1 n2 nn rs)(hs:3<vs.size)
  (o1:w1.ownsRow base 3 1 (.slice (some ⟨gg,0,none⟩) (nn+1) cp) (nn+1) (rep nn [.int .i64 m] ++ [.int .i64 m])) (hg:(W.alloc o).drew.grownBy w1 nv.ownBlock)
  (hat:nv.ownBlock=some gg\/(gg=W.heap.size+1/\(W.alloc o).drew.grownBy w1 none)) :
  St4 w (w1.setCell ⟨w.heap.size,3,none⟩ (.slice (some ⟨gg,0,none⟩) (nn+1) cp)) base m (vs.setIfInBounds 3 (.slice (some ⟨gg,0,none⟩) (nn+1) cp)) rv pv cv nv nr np nc nn x0 x1 x2 (.slice (some ⟨gg,0,none⟩) (nn+1) cp) n0 n1 n2 (nn+1) rs:=by
 have k:Below W.heap.size W (W.alloc o).drew:=((Below.refl _ _).alloc (Nat.le_refl _) _).drew
 have sz:=h.mid.sz
 have nr0:Near w nv (.slice (some ⟨gg,0,none⟩) (nn+1) cp):=near_of hat (by omega)
 have ng:(Value.slice (some ⟨gg,0,none⟩) (nn+1) cp).ownBlock≠some w.heap.size:=near_ne nr0 (by omega) h.h3
 exact ⟨h.mid.step k h.no o1 hg hat (.inr (.inr (.inr ⟨rfl,by omega⟩))) h.h3 3 hs _,h.rl,own_step h.ro k h.no (by decide) hg (near_ne h.a0 (by omega) h.h0),fun g hgm=>by
  obtain ⟨_,e1,_,_,_,e2⟩:=h.rn g hgm
  exact pt_step (h.rp g hgm) k hg e2 e1,own_step h.po k h.no (by decide) hg (near_ne h.a1 (by omega) h.h1),own_step h.co k h.no (by decide) hg (near_ne h.a2 (by omega) h.h2),by rw [rep_succ];exact ownsRow_setCell_other o1 ng _,h.a0,h.a1,h.a2,nr0,h.rn,h.h0,h.h1,h.h2,h.h3⟩
end
set_option maxRecDepth 100000 in
set_option maxHeartbeats 4000000 in
theorem longer_any (base h:Nat)(m:Int)(rv pv cv nv:Value)(nr np nc nn:Nat)(rs:List Nat)(w:World)(hbase:base<=w.heap.size)
  (c0:w.cell? ⟨h,0,none⟩=some rv) (c1:w.cell? ⟨h,1,none⟩=some pv) (c2:w.cell? ⟨h,2,none⟩=some cv) (c3:w.cell? ⟨h,3,none⟩=some nv) (c4:w.cell? ⟨h,4,none⟩=some (.int .i64 m))
  (hr:rv.ownBlock≠some h) (hp:pv.ownBlock≠some h) (hc:cv.ownBlock≠some h) (hn:nv.ownBlock≠some h)
  (br:nr<=2000000) (bp:np<=2000000) (bc:nc<=2000000) (bn:nn<=2000000)
  (f:Fam w base m rv pv cv nv nr np nc nn rs) :
  Calls Tryz.prog 52 #[.pointer (some ⟨h,0,none⟩)] w fun e w'=>∃ rv' pv' cv' nv',e = .returned (.pointer (some ⟨w.heap.size,0,none⟩))/\Blk w' w.heap.size #[rv',pv',cv',nv',.int .i64 m]/\
   Fam w' base m rv' pv' cv' nv' (nr+1) (np+1) (nc+1) (nn+1) (rs ++ [w.heap.size+1])/\Near w rv rv'/\Near w pv pv'/\Near w cv cv'/\Near w nv nv'/\Lg w w' rv pv cv nv nr np nc nn:=by
 obtain ⟨i0,hi0,hz0,hz1,hz2⟩:=info_parts infoRings
 obtain ⟨i1,hi1,hy0,hy1,hy2⟩:=info_parts infoPts
 obtain ⟨i2,hi2,hx0,hx1,hx2⟩:=info_parts infoPcs
 obtain ⟨i3,hi3,hw0,hw1,hw2⟩:=info_parts infoNums
 have hlt:=World.block_lt_of_cell? w ⟨h,0,none⟩ c0
 have hlt':h<w.heap.size:=hlt
 have hlt1:h<w.heap.size+1:=by omega
 have hlt2:h<w.heap.size+1+1:=by omega
 have hlg2:w.heap.size<w.heap.size+1+1:=by omega
 have mx1:nr+1<=maxLen:=by unfold maxLen;omega
 have mx2:np+1<=maxLen:=by unfold maxLen;omega
 have mx3:nc+1<=maxLen:=by unfold maxLen;omega
 have mx4:nn+1<=maxLen:=by unfold maxLen;omega
 have by1:(nr+1)*24<=140737488355328:=by omega
 have by2:(np+1)*24<=140737488355328:=by omega
 have by3:(nc+1)*56<=140737488355328:=by omega
 have by4:(nn+1)*8<=140737488355328:=by omega
 have hrl:∀ k,rv.ownBlock=some k->k<w.heap.size:=fun k e=>(f.ro.lt k e).2
 have FF:=hide f
 have hro:=f.ro
 clear f
 go_enter Tryz.func52,Tryz.ntmps52
 go_wp2_with fail
 have hne1:rv.ownBlock≠some w.heap.size:=fun e=>by have:=hrl _ e;omega
 have hneh:h≠w.heap.size:=by omega
 have hblk:=Blk.new w #[.slice none 0 0,.slice none 0 0,.slice none 0 0,.slice none 0 0,.int .i64 m] 60
 go_region_held3 (fun w'=>w'.cell? ⟨h,0,none⟩=some rv/\w'.cell? ⟨h,4,none⟩=some (.int .i64 m))
  (first
   | exact ⟨(far2 _ h 0 _ _ (by simp;omega)).trans ((far1' w h 0 _ hlt').trans c0),(far2 _ h 4 _ _ (by simp;omega)).trans ((far1' w h 4 _ hlt').trans c4)⟩
   |(go_split_ands
     refine ⟨?_,?_⟩
     ·(
      rw [hgrow.cell_far _ (by simp;omega) (Ne.symm hr)];assumption)
     ·(
      rw [hgrow.cell_far _ (by simp;omega) (Ne.symm hr)];assumption))
   |(go_split_ands
     refine ⟨(far_set _ _ _ _ _ _ hneh).trans ?_,(far_set _ _ _ _ _ _ hneh).trans ?_⟩ <;> assumption)
   | go_keep)
  ((
   refine step_append_stay _ (by rfl) _ _ _ (by rfl) base 57 i0 _ 1 24 Tryz.underlying29 hi0 hz0 hz1 hz2 rfl (by omega) rv nr _ (by rfl) ((((hro.alloc _).alloc _).alloc _).drew) ⟨w.heap.size+1+1,0,none⟩ 1 1 [.slice (some ⟨w.heap.size+1,0,none⟩) 1 1] (by rfl) (by rfl) (World.news_of_block (cs:=#[.slice (some ⟨w.heap.size+1,0,none⟩) 1 1]) (t:=57) (fr:=(0,0)) (heap_new3 w _ _ _)) (by simp [Value.oneCell']) (by omega) mx1 by1 (by simp;omega) (w.heap.size+1+1+1) (by simp) ?_;intro gg cp w1 hown1 hgrow hat hlt1
   have hgb:=(((hblk.alloc _).alloc _).drew).grown hgrow hne1
   have hg0:=hgb.cell 0
   simp at hg0
   have hf0:=hgb.free 0))
 obtain ⟨W2,hW2⟩:∃ W,W=w1.setCell ⟨w.heap.size,0,none⟩ (.slice (some ⟨gg,0,none⟩) (nr+1) cp):=⟨_,rfl⟩
 rw [<-hW2]
 have hqs:rv.ownBlock≠some (w.heap.size+1)/\pv.ownBlock≠some (w.heap.size+1)/\cv.ownBlock≠some (w.heap.size+1)/\nv.ownBlock≠some (w.heap.size+1):=
  ⟨fun e=>by have:=(FF.out.ro.lt _ e).2;omega,fun e=>by have:=(FF.out.po.lt _ e).2;omega,fun e=>by have:=(FF.out.co.lt _ e).2;omega,fun e=>by have:=(FF.out.no.lt _ e).2;omega⟩
 have S1:=(st4_start FF.out #[.slice none 0 0,.slice none 0 0,.slice none 0 0,.slice none 0 0,.int .i64 m] 60).ring (by simp) (by simp) hqs hown1 hgrow hat
 rw [<-hW2] at S1
 clear hW2
 clear hblk hgb hg0 hf0 hown1 hgrow hat hlt1 hro hrl
 generalize (Value.slice (some ⟨gg,0,none⟩) (nr+1) cp)=y0 at *
 have hsz1:=S1.mid.sz
 have d1:=S1.mid.lg.cell
 have e1a:=d1 h 1 _ c1 (fun e=>absurd e hr) (fun e=>absurd e hp) (fun e=>absurd e hc) (fun e=>absurd e hn)
 have e1b:=d1 h 4 _ c4 (fun e=>absurd e hr) (fun e=>absurd e hp) (fun e=>absurd e hc) (fun e=>absurd e hn)
 have hl1:h<W2.heap.size:=by omega
 have own1:=S1.po
 have hne1:pv.ownBlock≠some w.heap.size:=S1.h1
 have blk1:=S1.mid.gb
 have SS1:=hide S1
 clear S1 d1
 go_wp2_with fail
 go_region_held3 (fun w'=>w'.cell? ⟨h,1,none⟩=some pv/\w'.cell? ⟨h,4,none⟩=some (.int .i64 m))
  (first
   | exact ⟨(far1 _ h 1 _ hl1).trans e1a,(far1 _ h 4 _ hl1).trans e1b⟩
   | exact ⟨(far1' _ h 1 _ hl1).trans e1a,(far1' _ h 4 _ hl1).trans e1b⟩
   | exact ⟨e1a,e1b⟩
   |(go_split_ands
     refine ⟨?_,?_⟩
     ·(
      rw [hgrow.cell_far _ (by simp;omega) (Ne.symm hp)];assumption)
     ·(
      rw [hgrow.cell_far _ (by simp;omega) (Ne.symm hp)];assumption))
   |(go_split_ands
     refine ⟨(far_set _ _ _ _ _ _ hneh).trans ?_,(far_set _ _ _ _ _ _ hneh).trans ?_⟩ <;> assumption)
   | go_keep)
  ((
   refine step_append_stay _ (by rfl) _ _ _ (by rfl) base 31 i1 _ 3 24 Tryz.underlying57 hi1 hy0 hy1 hy2 rfl (by omega) pv np _ (by rfl) ((own1.alloc _).drew) ⟨W2.heap.size,0,none⟩ 1 1 (ptMk m) (by rfl) (by rfl) (World.news_of_block (cs:=(ptMk m).toArray) (t:=31) (fr:=(0,0)) (heap_alloc_new W2 _)) (by simp [Value.oneCell']) (by omega) mx2 by2 (by simp;omega) (W2.heap.size+1) (by simp) ?_;intro gg cp w1 hown1 hgrow hat hlt1
   have hgb:=((blk1.alloc _).drew).grown hgrow hne1
   have hg0:=hgb.cell 1
   simp at hg0
   have hf0:=hgb.free 1))
 obtain ⟨W3,hW3⟩:∃ W,W=w1.setCell ⟨w.heap.size,1,none⟩ (.slice (some ⟨gg,0,none⟩) (np+1) cp):=⟨_,rfl⟩
 rw [<-hW3]
 have S2:=SS1.out.pts (by simp) hown1 hgrow hat
 rw [<-hW3] at S2
 clear hW3
 clear blk1 own1 e1a e1b hgb hg0 hf0 hown1 hgrow hat hlt1
 generalize (Value.slice (some ⟨gg,0,none⟩) (np+1) cp)=y1 at *
 have hsz2:=S2.mid.sz
 have d2:=S2.mid.lg.cell
 have e2a:=d2 h 2 _ c2 (fun e=>absurd e hr) (fun e=>absurd e hp) (fun e=>absurd e hc) (fun e=>absurd e hn)
 have e2b:=d2 h 4 _ c4 (fun e=>absurd e hr) (fun e=>absurd e hp) (fun e=>absurd e hc) (fun e=>absurd e hn)
 have hl2:h<W3.heap.size:=by omega
 have own2:=S2.co
 have hne2:cv.ownBlock≠some w.heap.size:=S2.h2
 have blk2:=S2.mid.gb
 have SS2:=hide S2
 clear S2 d2
 go_wp2_with fail
 go_region_held3 (fun w'=>w'.cell? ⟨h,2,none⟩=some cv/\w'.cell? ⟨h,4,none⟩=some (.int .i64 m))
  (first
   | exact ⟨(far1 _ h 2 _ hl2).trans e2a,(far1 _ h 4 _ hl2).trans e2b⟩
   | exact ⟨(far1' _ h 2 _ hl2).trans e2a,(far1' _ h 4 _ hl2).trans e2b⟩
   | exact ⟨e2a,e2b⟩
   |(go_split_ands
     refine ⟨?_,?_⟩
     ·(
      rw [hgrow.cell_far _ (by simp;omega) (Ne.symm hc)];assumption)
     ·(
      rw [hgrow.cell_far _ (by simp;omega) (Ne.symm hc)];assumption))
   |(go_split_ands
     refine ⟨(far_set _ _ _ _ _ _ hneh).trans ?_,(far_set _ _ _ _ _ _ hneh).trans ?_⟩ <;> assumption)
   | go_keep)
  ((
   refine step_append_stay _ (by rfl) _ _ _ (by rfl) base 55 i2 _ 10 56 Tryz.underlying51 hi2 hx0 hx1 hx2 rfl (by omega) cv nc _ (by rfl) ((own2.alloc _).drew) ⟨W3.heap.size,0,none⟩ 1 1 (pcMk m) (by rfl) (by rfl) (World.news_of_block (cs:=(pcMk m).toArray) (t:=55) (fr:=(0,0)) (heap_alloc_new W3 _)) (by simp [Value.oneCell']) (by omega) mx3 by3 (by simp;omega) (W3.heap.size+1) (by simp) ?_;intro gg cp w1 hown1 hgrow hat hlt1
   have hgb:=((blk2.alloc _).drew).grown hgrow hne2
   have hg0:=hgb.cell 2
   simp at hg0
   have hf0:=hgb.free 2))
 obtain ⟨W4,hW4⟩:∃ W,W=w1.setCell ⟨w.heap.size,2,none⟩ (.slice (some ⟨gg,0,none⟩) (nc+1) cp):=⟨_,rfl⟩
 rw [<-hW4]
 have S3:=SS2.out.pcs (by simp) hown1 hgrow hat
 rw [<-hW4] at S3
 clear hW4
 clear blk2 own2 e2a e2b hgb hg0 hf0 hown1 hgrow hat hlt1
 generalize (Value.slice (some ⟨gg,0,none⟩) (nc+1) cp)=y2 at *
 have hsz3:=S3.mid.sz
 have d3:=S3.mid.lg.cell
 have e3a:=d3 h 3 _ c3 (fun e=>absurd e hr) (fun e=>absurd e hp) (fun e=>absurd e hc) (fun e=>absurd e hn)
 have e3b:=d3 h 4 _ c4 (fun e=>absurd e hr) (fun e=>absurd e hp) (fun e=>absurd e hc) (fun e=>absurd e hn)
 have hl3:h<W4.heap.size:=by omega
 have own3:=S3.no
 have hne3:nv.ownBlock≠some w.heap.size:=S3.h3
 have blk3:=S3.mid.gb
 have SS3:=hide S3
 clear S3 d3
 go_wp2_with fail
 go_region_held3 (fun w'=>w'.cell? ⟨h,3,none⟩=some nv/\w'.cell? ⟨h,4,none⟩=some (.int .i64 m))
  (first
   | exact ⟨(far1 _ h 3 _ hl3).trans e3a,(far1 _ h 4 _ hl3).trans e3b⟩
   | exact ⟨(far1' _ h 3 _ hl3).trans e3a,(far1' _ h 4 _ hl3).trans e3b⟩
   | exact ⟨e3a,e3b⟩
   |(go_split_ands
     refine ⟨?_,?_⟩
     ·(
      rw [hgrow.cell_far _ (by simp;omega) (Ne.symm hn)];assumption)
     ·(
      rw [hgrow.cell_far _ (by simp;omega) (Ne.symm hn)];assumption))
   |(go_split_ands
     refine ⟨(far_set _ _ _ _ _ _ hneh).trans ?_,(far_set _ _ _ _ _ _ hneh).trans ?_⟩ <;> assumption)
   | go_keep)
  ((
   refine step_append_stay _ (by rfl) _ _ _ (by rfl) base 3 i3 _ 1 8 Tryz.underlying58 hi3 hw0 hw1 hw2 rfl (by omega) nv nn _ (by rfl) ((own3.alloc _).drew) ⟨W4.heap.size,0,none⟩ 1 1 ([Value.int .i64 m]) (by rfl) (by rfl) (World.news_of_block (cs:=([Value.int .i64 m]).toArray) (t:=3) (fr:=(0,0)) (heap_alloc_new W4 _)) (by simp [Value.oneCell']) (by omega) mx4 by4 (by simp;omega) (W4.heap.size+1) (by simp) ?_;intro gg cp w1 hown1 hgrow hat hlt1
   have hgb:=((blk3.alloc _).drew).grown hgrow hne3
   have hg0:=hgb.cell 3
   simp at hg0
   have hf0:=hgb.free 3))
 obtain ⟨W5,hW5⟩:∃ W,W=w1.setCell ⟨w.heap.size,3,none⟩ (.slice (some ⟨gg,0,none⟩) (nn+1) cp):=⟨_,rfl⟩
 rw [<-hW5]
 have S4:=SS3.out.nums (by simp) hown1 hgrow hat
 rw [<-hW5] at S4
 clear hW5
 clear blk3 own3 e3a e3b hgb hg0 hf0 hown1 hgrow hat hlt1
 generalize (Value.slice (some ⟨gg,0,none⟩) (nn+1) cp)=y3 at *
 go_wp2
 go_ret
 refine ⟨y0,y1,y2,y3,rfl,?_,S4.fam,S4.a0,S4.a1,S4.a2,S4.a3,S4.mid.lg⟩
 simpa using S4.mid.gb
end Go.Proofs.YtnkcbephceollabGreat
