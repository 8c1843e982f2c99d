import Derived.Test.YtnkcbephceollabGreatU14
namespace Go.Proofs.YtnkcbephceollabGreat
open Go.RowKit
set_option linter.unusedSimpArgs false
set_option linter.unusedVariables false
def FX (G:Nat->Nat->Prop)(wb:Nat)(hv:Value)(b o:Nat):Prop:=G b o/\b≠wb/\hv.ownBlock≠some b
def GX (X:Nat->Prop)(rv pv cv nv:Value)(nr np nc nn:Nat)(b o:Nat):Prop:=
 ¬ X b/\(rv.ownBlock=some b->o<nr)/\(pv.ownBlock=some b->o<np*3)/\(cv.ownBlock=some b->o<nc*10)/\(nv.ownBlock=some b->o<nn)
structure Wld (w:World)(base wb:Nat)(hv:Value)(L:List Nat)(F:Nat->Nat->Prop):Prop where
 blk:Blk w wb #[hv]
 own:w.ownsRow base 36 1 hv L.length (L.map fun h=>.pointer (some ⟨h,0,none⟩))
 lt:wb<base
 all:∀ h∈L,∃ m rv pv cv nv,HoldMk w F h m rv pv cv nv
theorem Wld.weaken {w:World}{base wb:Nat}{hv:Value}{L:List Nat}{F F':Nat->Nat->Prop}(h:Wld w base wb hv L F)(e:∀ b o u,F b o->w.cell? ⟨b,o,none⟩=some u->F' b o):Wld w base wb hv L F':=
 ⟨h.blk,h.own,h.lt,fun g hg=>by
  obtain ⟨m,rv,pv,cv,nv,k⟩:=h.all g hg
  exact ⟨m,rv,pv,cv,nv,k.later fun b o u f c=>⟨c,e b o u f c⟩⟩⟩
theorem Wld.wbrow {w:World}{base wb:Nat}{hv:Value}{L:List Nat}{F:Nat->Nat->Prop}(h:Wld w base wb hv L F):hv.ownBlock≠some wb:=fun e=>by
 have:=(h.own.lt _ e).1
 have:=h.lt
 omega
theorem Wld.kp {w w':World}{base wb:Nat}{hv:Value}{L:List Nat}{F F':Nat->Nat->Prop}{X:Nat->Prop}(h:Wld w base wb hv L F)(k:Kp X w w')(h1 : ¬ X wb)(h2:∀ b,hv.ownBlock=some b->¬ X b)(e:∀ b o u,F b o->w.cell? ⟨b,o,none⟩=some u->w'.cell? ⟨b,o,none⟩=some u/\F' b o):Wld w' base wb hv L F':=
 ⟨Kp.blk h.blk k h1,Kp.own h.own k h2,h.lt,fun g hg=>by
  obtain ⟨m,rv,pv,cv,nv,q⟩:=h.all g hg
  exact ⟨m,rv,pv,cv,nv,q.later e⟩⟩
def Fresh (w:World)(v0 v:Value):Prop:=v.ownBlock=v0.ownBlock\/∃ k,v.ownBlock=some k/\w.heap.size<=k
theorem Fresh.refl (w:World)(v:Value):Fresh w v v:=.inl rfl
theorem Fresh.old {w:World}{v0 v:Value}{b:Nat}(h:Fresh w v0 v)(hb:b<w.heap.size)(e:v.ownBlock=some b):v0.ownBlock=some b:=by
 rcases h with h | ⟨k,h,hk⟩
 ·rw [<-h];exact e
 ·rw [h] at e;have:=Option.some.inj e;omega
theorem Fresh.trans {w w':World}{v0 v v':Value}(h:Fresh w v0 v)(k:Fresh w' v v')(hs:w.heap.size<=w'.heap.size):Fresh w v0 v':=by
 rcases k with k | ⟨q,k,hq⟩
 ·rcases h with h | ⟨p,h,hp⟩
  ·exact .inl (k.trans h)
  ·exact .inr ⟨p,k.trans h,hp⟩
 ·exact .inr ⟨q,k,by omega⟩
theorem Near.fresh {w:World}{v v':Value}(h:Near w v v'):Fresh w v v':=by
 rcases h with h | ⟨k,h,hk⟩
 ·exact .inl h
 ·exact .inr ⟨k,h,by omega⟩
structure KeepSt (w:World)(base wb:Nat)(hv:Value)(L:List Nat)(X:Nat->Prop)(g:Nat)(m:Int)(rv pv cv nv:Value)(nr np nc nn:Nat)(rs:List Nat):Prop where
 wld:Wld w base wb hv L (FX (GX X rv pv cv nv nr np nc nn) wb hv)
 fam:Fam w base m rv pv cv nv nr np nc nn rs
 gb:Blk w g #[rv,pv,cv,nv,.int .i64 m]
 hold:HoldMk w (FX (GX X rv pv cv nv nr np nc nn) wb hv) g m rv pv cv nv
 g0:rv.ownBlock≠some g
 g1:pv.ownBlock≠some g
 g2:cv.ownBlock≠some g
 g3:nv.ownBlock≠some g
 gh:hv.ownBlock≠some g
 gw:g≠wb
 xr:∀ b,(rv.ownBlock=some b\/pv.ownBlock=some b\/cv.ownBlock=some b\/nv.ownBlock=some b)->¬ X b
 ok:∀ q∈rs,¬ X q/\q≠wb/\hv.ownBlock≠some q
 sz:base<=w.heap.size
theorem row_apart {w:World}{base wb:Nat}{hv:Value}{L:List Nat}{F:Nat->Nat->Prop}{m:Int}{rv pv cv nv:Value}{nr np nc nn:Nat}{rs:List Nat}(W:Wld w base wb hv L F)(f:Fam w base m rv pv cv nv nr np nc nn rs)(b:Nat)
  (hb:rv.ownBlock=some b\/pv.ownBlock=some b\/cv.ownBlock=some b\/nv.ownBlock=some b):hv.ownBlock≠some b/\b≠wb/\b<w.heap.size:=by
 have hl:=W.lt
 rcases hb with h | h | h | h
 ·exact ⟨own_apart f.ro W.own (by decide) b h,by have:=(f.ro.lt b h).1;omega,(f.ro.lt b h).2⟩
 ·exact ⟨own_apart f.po W.own (by decide) b h,by have:=(f.po.lt b h).1;omega,(f.po.lt b h).2⟩
 ·exact ⟨own_apart f.co W.own (by decide) b h,by have:=(f.co.lt b h).1;omega,(f.co.lt b h).2⟩
 ·exact ⟨own_apart f.no W.own (by decide) b h,by have:=(f.no.lt b h).1;omega,(f.no.lt b h).2⟩
theorem hold_of {w:World}{base wb:Nat}{hv:Value}{L:List Nat}{F:Nat->Nat->Prop}{X:Nat->Prop}{g:Nat}{m:Int}{rv pv cv nv:Value}{nr np nc nn:Nat}{rs:List Nat}(W:Wld w base wb hv L F)(f:Fam w base m rv pv cv nv nr np nc nn rs)(gb:Blk w g #[rv,pv,cv,nv,.int .i64 m])
  (g0:rv.ownBlock≠some g) (g1:pv.ownBlock≠some g) (g2:cv.ownBlock≠some g) (g3:nv.ownBlock≠some g) (gh:hv.ownBlock≠some g) (gw:g≠wb) (gx : ¬ X g)
  (xr:∀ b,(rv.ownBlock=some b\/pv.ownBlock=some b\/cv.ownBlock=some b\/nv.ownBlock=some b)->¬ X b) (ok:∀ q∈rs,¬ X q/\q≠wb/\hv.ownBlock≠some q) :
  HoldMk w (FX (GX X rv pv cv nv nr np nc nn) wb hv) g m rv pv cv nv:=by
 refine f.mk' (gb.cell 0) (gb.cell 1) (gb.cell 2) (gb.cell 3) (gb.cell 4) ?_ ?_ ?_ ?_ ?_ ?_
 ·exact fun o _=>⟨⟨gx,fun e=>absurd e g0,fun e=>absurd e g1,fun e=>absurd e g2,fun e=>absurd e g3⟩,gw,gh⟩
 ·intro b o hb ho
  obtain ⟨a1,a2,_⟩:=row_apart W f b (.inl hb)
  exact ⟨⟨xr b (.inl hb),fun _=>ho,fun e=>absurd e (own_apart f.ro f.po (by decide) b hb),fun e=>absurd e (own_apart f.ro f.co (by decide) b hb),fun e=>absurd e (own_apart f.ro f.no (by decide) b hb)⟩,a2,a1⟩
 ·intro q hq o
  obtain ⟨o1,o2,o3⟩:=ok q hq
  obtain ⟨e0,e1,e2,e3⟩:=f.rn q hq
  exact ⟨⟨o1,fun e=>absurd e e0,fun e=>absurd e e1,fun e=>absurd e e2,fun e=>absurd e e3⟩,o2,o3⟩
 ·intro b o hb ho
  obtain ⟨a1,a2,_⟩:=row_apart W f b (.inr (.inl hb))
  exact ⟨⟨xr b (.inr (.inl hb)),fun e=>absurd e (own_apart f.po f.ro (by decide) b hb),fun _=>ho,fun e=>absurd e (own_apart f.po f.co (by decide) b hb),fun e=>absurd e (own_apart f.po f.no (by decide) b hb)⟩,a2,a1⟩
 ·intro b o hb ho
  obtain ⟨a1,a2,_⟩:=row_apart W f b (.inr (.inr (.inl hb)))
  exact ⟨⟨xr b (.inr (.inr (.inl hb))),fun e=>absurd e (own_apart f.co f.ro (by decide) b hb),fun e=>absurd e (own_apart f.co f.po (by decide) b hb),fun _=>ho,fun e=>absurd e (own_apart f.co f.no (by decide) b hb)⟩,a2,a1⟩
 ·intro b o hb ho
  obtain ⟨a1,a2,_⟩:=row_apart W f b (.inr (.inr (.inr hb)))
  exact ⟨⟨xr b (.inr (.inr (.inr hb))),fun e=>absurd e (own_apart f.no f.ro (by decide) b hb),fun e=>absurd e (own_apart f.no f.po (by decide) b hb),fun e=>absurd e (own_apart f.no f.co (by decide) b hb),fun _=>ho⟩,a2,a1⟩
section
variable {w w' w1:World}{base wb:Nat}{hv:Value}{L:List Nat}{X:Nat->Prop}{g:Nat}{m:Int}{rv pv cv nv:Value}{nr np nc nn:Nat}{rs:List Nat}
theorem KeepSt.long {rv' pv' cv' nv':Value}(h:KeepSt w base wb hv L X g m rv pv cv nv nr np nc nn rs)(hX:∀ b,X b->b<w.heap.size)
  (gb:Blk w' w.heap.size #[rv',pv',cv',nv',.int .i64 m]) (f:Fam w' base m rv' pv' cv' nv' (nr+1) (np+1) (nc+1) (nn+1) (rs ++ [w.heap.size+1]))
  (a0:Near w rv rv') (a1:Near w pv pv') (a2:Near w cv cv') (a3:Near w nv nv') (lg:Lg w w' rv pv cv nv nr np nc nn) :
  KeepSt w' base wb hv L X w.heap.size m rv' pv' cv' nv' (nr+1) (np+1) (nc+1) (nn+1) (rs ++ [w.heap.size+1]):=by
 have sz:=lg.kp.size
 have ra:=row_apart h.wld h.fam
 have wl:wb<w.heap.size:=h.wld.blk.lt
 have W':Wld w' base wb hv L (FX (GX X rv' pv' cv' nv' (nr+1) (np+1) (nc+1) (nn+1)) wb hv):=by
  refine h.wld.kp lg.kp (fun e=>(ra wb e).2.1 rfl) (fun b hb e=>(ra b e).1 hb) (fun b o u ⟨⟨x,f0,f1,f2,f3⟩,k1,k2⟩ hc=>⟨lg.cell b o u hc f0 f1 f2 f3,⟨x,fun e=>?_,fun e=>?_,fun e=>?_,fun e=>?_⟩,k1,k2⟩)
  ·have:=f0 (a0.fresh.old (World.block_lt_of_cell? w ⟨b,o,none⟩ hc) e);omega
  ·have:=f1 (a1.fresh.old (World.block_lt_of_cell? w ⟨b,o,none⟩ hc) e);omega
  ·have:=f2 (a2.fresh.old (World.block_lt_of_cell? w ⟨b,o,none⟩ hc) e);omega
  ·have:=f3 (a3.fresh.old (World.block_lt_of_cell? w ⟨b,o,none⟩ hc) e);omega
 have e0:rv'.ownBlock≠some w.heap.size:=near_ne a0 (by omega) (fun e=>by have:=(ra _ (.inl e)).2.2;omega)
 have e1:pv'.ownBlock≠some w.heap.size:=near_ne a1 (by omega) (fun e=>by have:=(ra _ (.inr (.inl e))).2.2;omega)
 have e2:cv'.ownBlock≠some w.heap.size:=near_ne a2 (by omega) (fun e=>by have:=(ra _ (.inr (.inr (.inl e)))).2.2;omega)
 have e3:nv'.ownBlock≠some w.heap.size:=near_ne a3 (by omega) (fun e=>by have:=(ra _ (.inr (.inr (.inr e)))).2.2;omega)
 have eh:hv.ownBlock≠some w.heap.size:=fun e=>by have:=(h.wld.own.lt _ e).2;omega
 have xr':∀ b,(rv'.ownBlock=some b\/pv'.ownBlock=some b\/cv'.ownBlock=some b\/nv'.ownBlock=some b)->¬ X b:=by
  intro b hb hx
  have hl:=hX b hx
  refine h.xr b ?_ hx
  rcases hb with e | e | e | e
  ·exact .inl (a0.fresh.old hl e)
  ·exact .inr (.inl (a1.fresh.old hl e))
  ·exact .inr (.inr (.inl (a2.fresh.old hl e)))
  ·exact .inr (.inr (.inr (a3.fresh.old hl e)))
 have ok':∀ q∈rs ++ [w.heap.size+1],¬ X q/\q≠wb/\hv.ownBlock≠some q:=by
  intro q hq
  rcases List.mem_append.1 hq with hq | hq
  ·exact h.ok q hq
  ·have e:=List.mem_singleton.1 hq
   subst e
   exact ⟨fun hx=>by have:=hX _ hx;omega,by omega,fun e=>by have:=(h.wld.own.lt _ e).2;omega⟩
 exact ⟨W',f,gb,hold_of W' f gb e0 e1 e2 e3 eh (by omega) (fun hx=>by have:=hX _ hx;omega) xr' ok',e0,e1,e2,e3,eh,by omega,xr',ok',by have:=h.sz;omega⟩
theorem KeepSt.push {W1:World}{gg cp H:Nat}(h:KeepSt w base wb hv L X g m rv pv cv nv nr np nc nn rs)(k:Below w.heap.size w W1)
  (o1:w1.ownsRow base 36 1 (.slice (some ⟨gg,0,none⟩) (L.length+1) cp) (L.length+1) ((L.map fun h=>.pointer (some ⟨h,0,none⟩)) ++ [.pointer (some ⟨g,0,none⟩)]))
  (hg:W1.grownBy w1 hv.ownBlock) (hat:hv.ownBlock=some gg\/gg=H) (hH:w.heap.size<=H) :
  KeepSt (w1.setCell ⟨wb,0,none⟩ (.slice (some ⟨gg,0,none⟩) (L.length+1) cp)) base wb (.slice (some ⟨gg,0,none⟩) (L.length+1) cp) (L ++ [g]) X g m rv pv cv nv nr np nc nn rs/\
   Kp (fun b=>b=wb\/hv.ownBlock=some b) w (w1.setCell ⟨wb,0,none⟩ (.slice (some ⟨gg,0,none⟩) (L.length+1) cp))/\Fresh w hv (.slice (some ⟨gg,0,none⟩) (L.length+1) cp):=by
 have fr:Fresh w hv (.slice (some ⟨gg,0,none⟩) (L.length+1) cp):=by
  rcases hat with e | e
  ·exact .inl e.symm
  ·exact .inr ⟨gg,rfl,by omega⟩
 have wr:=h.wld.wbrow
 have wl:wb<w.heap.size:=h.wld.blk.lt
 have kp:Kp (fun b=>b=wb\/hv.ownBlock=some b) w (w1.setCell ⟨wb,0,none⟩ (.slice (some ⟨gg,0,none⟩) (L.length+1) cp)):=
  ((
   Kp.of k).grown hg (fun q hq=>.inr hq)).setCell (fun _=>.inl rfl) _
 have ra:=row_apart h.wld h.fam
 have ne:∀ b,(rv.ownBlock=some b\/pv.ownBlock=some b\/cv.ownBlock=some b\/nv.ownBlock=some b)->¬ (b=wb\/hv.ownBlock=some b):=fun b hb e=>by
  rcases e with e | e
  ·exact (ra b hb).2.1 e
  ·exact (ra b hb).1 e
 have st:∀ b o u,FX (GX X rv pv cv nv nr np nc nn) wb hv b o->w.cell? ⟨b,o,none⟩=some u->(w1.setCell ⟨wb,0,none⟩ (.slice (some ⟨gg,0,none⟩) (L.length+1) cp)).cell? ⟨b,o,none⟩=some u/\FX (GX X rv pv cv nv nr np nc nn) wb (.slice (some ⟨gg,0,none⟩) (L.length+1) cp) b o:=fun b o u ⟨f,k1,k2⟩ hc=>
  ⟨kp.cellOf hc (fun e=>by rcases e with e | e;exact k1 e;exact k2 e),f,k1,fun e=>k2 (fr.old (World.block_lt_of_cell? w ⟨b,o,none⟩ hc) e)⟩
 have ggw:gg≠wb:=by
  rcases hat with e | e
  ·intro x;subst x;exact wr e
  ·omega
 have hold':=h.hold.later st
 have fm:Fam (w1.setCell ⟨wb,0,none⟩ (.slice (some ⟨gg,0,none⟩) (L.length+1) cp)) base m rv pv cv nv nr np nc nn rs:=
  ⟨h.fam.rl,Kp.own h.fam.ro kp (fun b e=>ne b (.inl e)),fun q hq=>by
   obtain ⟨o1,o2,o3⟩:=h.ok q hq
   have e : ¬ (q=wb\/hv.ownBlock=some q):=fun e=>by rcases e with e | e;exact o2 e;exact o3 e
   have p:=h.fam.rp q hq
   exact ⟨kp.cellOf p.x e,kp.cellOf p.y e,kp.cellOf p.d e⟩,Kp.own h.fam.po kp (fun b e=>ne b (.inr (.inl e))),Kp.own h.fam.co kp (fun b e=>ne b (.inr (.inr (.inl e)))),Kp.own h.fam.no kp (fun b e=>ne b (.inr (.inr (.inr e)))),h.fam.rn⟩
 refine ⟨⟨⟨?_,?_,h.wld.lt,?_⟩,fm,Kp.blk h.gb kp (fun e=>by rcases e with e | e;exact h.gw e;exact h.gh e),hold',h.g0,h.g1,h.g2,h.g3,fun e=>h.gh (fr.old h.gb.lt e),h.gw,h.xr,fun q hq=>?_,?_⟩,kp,fr⟩
 ·exact (((h.wld.blk.call k).grown hg wr)).set 0 (by simp) _
 ·rw [List.length_append,List.map_append]
  exact ownsRow_setCell_other (a:=⟨wb,0,none⟩) o1 (fun e=>ggw (Option.some.inj e)) _
 ·intro q hq
  rcases List.mem_append.1 hq with hq | hq
  ·obtain ⟨m',r',p',c',n',hk⟩:=h.wld.all q hq
   exact ⟨m',r',p',c',n',hk.later st⟩
  ·have e:=List.mem_singleton.1 hq
   subst e
   exact ⟨m,rv,pv,cv,nv,hold'⟩
 ·obtain ⟨o1,o2,o3⟩:=h.ok q hq
  exact ⟨o1,o2,fun e=>o3 (fr.old (World.block_lt_of_cell? w ⟨q,0,none⟩ (h.fam.rp q hq).x) e)⟩
 ·have:=h.sz
  have:=kp.size
  omega
end
theorem infoHoldp:(Tryz.prog.info? 36).map (fun i=>(i.zero,i.size,i.bytes))=some (some (.pointer none),1,8):=by kernel_rfl
def KX (wb h:Nat)(hv rv pv cv nv:Value)(b:Nat):Prop:=b=wb\/hv.ownBlock=some b\/b=h\/rv.ownBlock=some b\/pv.ownBlock=some b\/cv.ownBlock=some b\/nv.ownBlock=some b
structure Frs (w:World)(hv rv pv cv nv hv' rv' pv' cv' nv':Value):Prop where
 h:Fresh w hv hv'
 r:Fresh w rv rv'
 p:Fresh w pv pv'
 c:Fresh w cv cv'
 n:Fresh w nv nv'
theorem kx_push {w W W':World}{wb h:Nat}{hv rv pv cv nv hv' rv' pv' cv' nv':Value}(k:Kp (KX wb h hv rv pv cv nv) w W)(f:Frs w hv rv pv cv nv hv' rv' pv' cv' nv')(q:Kp (fun b=>b=wb\/hv'.ownBlock=some b) W W'):Kp (KX wb h hv rv pv cv nv) w W':=
 ⟨q.os.trans k.os,q.tape.trans k.tape,q.output.trans k.output,Nat.le_trans k.size q.size,fun x hx hn=>(q.block x (Nat.lt_of_lt_of_le hx k.size) (fun e=>hn (by
  rcases e with e | e
  ·exact .inl e
  ·exact .inr (.inl (f.h.old hx e))))).trans (k.block x hx hn)⟩
theorem kx_long {w W W':World}{wb h:Nat}{hv rv pv cv nv hv' rv' pv' cv' nv':Value}(k:Kp (KX wb h hv rv pv cv nv) w W)(f:Frs w hv rv pv cv nv hv' rv' pv' cv' nv')(q:Kp (fun b=>rv'.ownBlock=some b\/pv'.ownBlock=some b\/cv'.ownBlock=some b\/nv'.ownBlock=some b) W W'):Kp (KX wb h hv rv pv cv nv) w W':=
 ⟨q.os.trans k.os,q.tape.trans k.tape,q.output.trans k.output,Nat.le_trans k.size q.size,fun x hx hn=>(q.block x (Nat.lt_of_lt_of_le hx k.size) (fun e=>hn (by
  rcases e with e | e | e | e
  ·exact .inr (.inr (.inr (.inl (f.r.old hx e))))
  ·exact .inr (.inr (.inr (.inr (.inl (f.p.old hx e)))))
  ·exact .inr (.inr (.inr (.inr (.inr (.inl (f.c.old hx e))))))
  ·exact .inr (.inr (.inr (.inr (.inr (.inr (f.n.old hx e)))))) ))).trans (k.block x hx hn)⟩
theorem keep_start {w w2:World}{base wb h:Nat}{hv:Value}{L:List Nat}{X:Nat->Prop}{rv pv cv nv:Value}{nr np nc nn:Nat}{m0 m:Int}{rs:List Nat}(hX:∀ b,X b->b<w.heap.size)
  (hW:Wld w base wb hv L (FX (fun b _=>¬ X b/\b≠h/\rv.ownBlock≠some b/\pv.ownBlock≠some b/\cv.ownBlock≠some b/\nv.ownBlock≠some b) wb hv))
  (hb:Blk w h #[rv,pv,cv,nv,.int .i64 m0]) (hh:h≠wb) (hhv:hv.ownBlock≠some h) (hhx : ¬ X h) (h0:rv.ownBlock≠some h) (h1:pv.ownBlock≠some h) (h2:cv.ownBlock≠some h) (h3:nv.ownBlock≠some h)
  (xr:∀ b,(rv.ownBlock=some b\/pv.ownBlock=some b\/cv.ownBlock=some b\/nv.ownBlock=some b)->¬ X b/\hv.ownBlock≠some b/\b≠wb) (hbase:base<=w.heap.size)
  (f:Fam w2 base m rv pv cv nv nr np nc nn rs) (hrs:∀ q∈rs,w.heap.size<=q) (k:Kp (fun b=>rv.ownBlock=some b\/pv.ownBlock=some b\/cv.ownBlock=some b\/nv.ownBlock=some b) (w.setCell ⟨h,4,none⟩ (.int .i64 m)) w2) :
  KeepSt w2 base wb hv L X h m rv pv cv nv nr np nc nn rs/\Kp (KX wb h hv rv pv cv nv) w w2:=by
 have k1:Kp (fun b=>b=h\/rv.ownBlock=some b\/pv.ownBlock=some b\/cv.ownBlock=some b\/nv.ownBlock=some b) w w2:=
  ((
   Kp.refl _ _).setCell (p:=⟨h,4,none⟩) (fun _=>.inl rfl) (.int .i64 m)).trans (k.weaken fun b _ e=>.inr e)
 have sz:=k1.size
 have gb:Blk w2 h #[rv,pv,cv,nv,.int .i64 m]:=Kp.blk (hb.set 4 (by simp) (.int .i64 m)) k (fun e=>by
  rcases e with e | e | e | e
  ·exact h0 e
  ·exact h1 e
  ·exact h2 e
  ·exact h3 e)
 have W2:Wld w2 base wb hv L (FX (GX X rv pv cv nv nr np nc nn) wb hv):=by
  refine hW.kp k1 ?_ ?_ ?_
  ·intro e
   rcases e with e | e
   ·exact hh e.symm
   ·exact (xr wb e).2.2 rfl
  ·intro b hvb e
   rcases e with e | e
   ·subst e;exact hhv hvb
   ·exact (xr b e).2.1 hvb
  ·intro b o u ⟨⟨x,e1,f0,f1,f2,f3⟩,x2,x3⟩ hc
   refine ⟨k1.cellOf hc (fun e=>?_),⟨x,fun e=>absurd e f0,fun e=>absurd e f1,fun e=>absurd e f2,fun e=>absurd e f3⟩,x2,x3⟩
   rcases e with e | e | e | e | e
   ·exact e1 e
   ·exact f0 e
   ·exact f1 e
   ·exact f2 e
   ·exact f3 e
 have ok:∀ q∈rs,¬ X q/\q≠wb/\hv.ownBlock≠some q:=fun q hq=>by
  have a:=hrs q hq
  have b:=hW.blk.lt
  exact ⟨fun e=>by have:=hX q e;omega,by omega,fun e=>by have:=(hW.own.lt q e).2;omega⟩
 have xr':=fun b e=>(xr b e).1
 exact ⟨⟨W2,f,gb,hold_of W2 f gb h0 h1 h2 h3 hhv hh hhx xr' ok,h0,h1,h2,h3,hhv,hh,xr',ok,by omega⟩,k1.weaken fun b _ e=>.inr (.inr e)⟩
set_option maxRecDepth 100000 in
set_option maxHeartbeats 4000000 in
theorem keep_any (base wb h:Nat)(hv:Value)(L:List Nat)(X:Nat->Prop)(rv pv cv nv:Value)(nr np nc nn:Nat)(m0:Int)(w:World)
  (hL:L.length<=1000000000000) (br:nr<=1100000) (bp:np<=1100000) (bc:nc<=1100000) (bn:nn<=1100000) (hX:∀ b,X b->b<w.heap.size)
  (hW:Wld w base wb hv L (FX (fun b _=>¬ X b/\b≠h/\rv.ownBlock≠some b/\pv.ownBlock≠some b/\cv.ownBlock≠some b/\nv.ownBlock≠some b) wb hv))
  (hb:Blk w h #[rv,pv,cv,nv,.int .i64 m0]) (hh:h≠wb) (hhv:hv.ownBlock≠some h) (hhx : ¬ X h) (h0:rv.ownBlock≠some h) (h1:pv.ownBlock≠some h) (h2:cv.ownBlock≠some h) (h3:nv.ownBlock≠some h)
  (xr:∀ b,(rv.ownBlock=some b\/pv.ownBlock=some b\/cv.ownBlock=some b\/nv.ownBlock=some b)->¬ X b/\hv.ownBlock≠some b/\b≠wb) (hbase:base<=w.heap.size)
  (hM:Calls Tryz.prog 51 #[.pointer (some ⟨h,0,none⟩)] (w.setCell ⟨h,4,none⟩ (.int .i64 (1099511627776+L.length))) fun e w'=>e = .returned (.tuple #[])/\∃ rs,Fam w' base (1099511627776+L.length) rv pv cv nv nr np nc nn rs/\(∀ q∈rs,w.heap.size<=q)/\Kp (fun b=>rv.ownBlock=some b\/pv.ownBlock=some b\/cv.ownBlock=some b\/nv.ownBlock=some b) (w.setCell ⟨h,4,none⟩ (.int .i64 (1099511627776+L.length))) w') :
  Calls Tryz.prog 27 #[.pointer (some ⟨wb,0,none⟩),.pointer (some ⟨h,0,none⟩)] w fun e w'=>e = .returned (.tuple #[])/\∃ hv' L',L'.length=L.length+4/\Wld w' base wb hv' L' (FX (fun b _=>¬ X b) wb hv')/\Kp (KX wb h hv rv pv cv nv) w w'/\Fresh w hv hv':=by
 obtain ⟨i0,hi0,hz0,hz1,hz2⟩:=info_parts infoHoldp
 obtain ⟨a,cap,ehv,_,_,_⟩:=own_form hW.own
 have cw:=hW.blk.cell 0
 simp at cw
 have c4:=hb.cell 4
 simp at c4
 have f4:=hb.free 4
 have hLi:(L.length:Int)<=1000000000000:=by omega
 have HW:=hide hW
 have HM:=hide hM
 have hwl:=hW.blk.lt
 have hhl:=hb.lt
 clear hM hW
 rw [ehv] at cw
 go_enter Tryz.func27,Tryz.ntmps27
 go_wp2_with fail
 refine HM.out.mono ?_
 rintro e w2 ⟨rfl,rs,hF,hrs,hK⟩
 obtain ⟨K2,P2⟩:=keep_start hX HW.out hb hh hhv hhx h0 h1 h2 h3 xr hbase hF hrs hK
 have own2:=K2.wld.own
 have blk2:=K2.wld.blk
 have cw2:=blk2.cell 0
 simp at cw2
 have wr2:=K2.wld.wbrow
 have hwl2:=blk2.lt
 have hsz2:=K2.sz
 have hn1:L.length+1<=maxLen:=by unfold maxLen;omega
 have hn2:(L.length+1)*8<=140737488355328:=by omega
 have hbs:base<=(w2.alloc (.cells #[.pointer (some ⟨h,0,none⟩)] 36)).heap.size:=by simp;omega
 have HK:=hide K2
 have HP:=hide P2
 clear K2 P2 hF hrs hK cw c4 f4 hb xr
 clear ehv
 go_wp2_with (
        at_builtin;refine wpList_append_lies _ rfl _ _ _ rfl base 36 i0 _ 1 8 Tryz.underlying26 hi0 hz0 hz1 hz2 rfl (by omega) hv L.length _ rfl (own2.alloc _) ⟨w2.heap.size,0,none⟩ 1 1 [.pointer (some ⟨h,0,none⟩)] rfl rfl (World.news_of_block (cs:=#[.pointer (some ⟨h,0,none⟩)]) (t:=36) (fr:=(0,0)) (heap_alloc_new w2 _)) (by simp [Value.oneCell']) (by omega) hn1 hn2 hbs (w2.heap.size+1) (by simp) ?_;intro gg cp w3 hown3 hgrow hat hlt3
        have hwb3:=(blk2.alloc (.cells #[.pointer (some ⟨h,0,none⟩)] 36)).grown hgrow wr2
        have hc3:=hwb3.cell 0
        simp at hc3
        have hf3:=hwb3.free 0)
 obtain ⟨K3,P3,F3⟩:=HK.out.push (((Below.refl _ _).alloc (Nat.le_refl _) _)) hown3 hgrow hat (by omega)
 have P3':=kx_push HP.out ⟨Fresh.refl _ _,Fresh.refl _ _,Fresh.refl _ _,Fresh.refl _ _,Fresh.refl _ _⟩ P3
 have F3':Fresh w hv (.slice (some ⟨gg,0,none⟩) (L.length+1) cp):=(Fresh.refl w hv).trans F3 HP.out.size
 have HK3:=hide K3
 have HP3:=hide P3'
 have HF3:=hide F3'
 have hX2:Hid (∀ b,X b->b<w.heap.size):=hX
 clear K3 P3 P3' F3 F3' own2 blk2 cw2 hwb3 hc3 hf3 hown3 hgrow hat hlt3 hX
 go_loopw [4,5] (fun gv c w'=>∃ (n g:Nat) (hv':Value) (L':List Nat) (m:Int) (rv' pv' cv' nv':Value) (rs':List Nat),gv = .pointer (some ⟨g,0,none⟩)/\c = .int .i64 n/\n<=3/\L'.length=L.length+1+n/\KeepSt w' base wb hv' L' X g m rv' pv' cv' nv' (nr+n) (np+n) (nc+n) (nn+n) rs'/\Frs w hv rv pv cv nv hv' rv' pv' cv' nv'/\Kp (KX wb h hv rv pv cv nv) w w') (fun _ c _=>3-(intOf c).toNat)
 case atStart=>exact ⟨0,h,_,L ++ [h],_,rv,pv,cv,nv,rs,rfl,rfl,by omega,by simp,HK3.out,⟨HF3.out,Fresh.refl _ _,Fresh.refl _ _,Fresh.refl _ _,Fresh.refl _ _⟩,HP3.out⟩
 case round=>
  clear HK3 HP3 HF3 HK HP
  obtain ⟨n,g,hv',L',m,rv',pv',cv',nv',rs',rfl,rfl,hn3,hL',hK,hFr,hKp⟩:=hrel
  by_cases hlt:n<3
  ·have l0:=hK.gb.cell 0
   have l1:=hK.gb.cell 1
   have l2:=hK.gb.cell 2
   have l3:=hK.gb.cell 3
   have l4:=hK.gb.cell 4
   simp at l0 l1 l2 l3 l4
   have hlong:=longer_any base g m rv' pv' cv' nv' (nr+n) (np+n) (nc+n) (nn+n) rs' wr hK.sz l0 l1 l2 l3 l4 hK.g0 hK.g1 hK.g2 hK.g3 (by omega) (by omega) (by omega) (by omega) hK.fam
   have HKK:=hide hK
   have HFR:=hide hFr
   have HKP:=hide hKp
   have HLG:=hide hlong
   clear hlong hK hFr hKp l0 l1 l2 l3 l4
   go_wp2_with fail
   refine HLG.out.mono ?_
   rintro e w4 ⟨rv2,pv2,cv2,nv2,rfl,gb4,f4,a0,a1,a2,a3,lg⟩
   have K4:=HKK.out.long (fun b hb=>Nat.lt_of_lt_of_le (hX2.out b hb) HKP.out.size) gb4 f4 a0 a1 a2 a3 lg
   have P4:=kx_long HKP.out HFR.out lg.kp
   have sz4:=HKP.out.size
   have R4:Hid (Frs w hv rv pv cv nv hv' rv2 pv2 cv2 nv2):=⟨HFR.out.h,HFR.out.r.trans a0.fresh sz4,HFR.out.p.trans a1.fresh sz4,HFR.out.c.trans a2.fresh sz4,HFR.out.n.trans a3.fresh sz4⟩
   have own4:=K4.wld.own
   have blk4:=K4.wld.blk
   have cw4:=blk4.cell 0
   simp at cw4
   have wr4:=K4.wld.wbrow
   have hwl4:=blk4.lt
   have hsz4:=K4.sz
   have hn1:L'.length+1<=maxLen:=by unfold maxLen;omega
   have hn2:(L'.length+1)*8<=140737488355328:=by omega
   have hbs:base<=(w4.alloc (.cells #[.pointer (some ⟨wr.heap.size,0,none⟩)] 36)).heap.size:=by simp;omega
   have HK4:=hide K4
   have HP4:=hide P4
   clear K4 P4 gb4 f4 a0 a1 a2 a3 lg HKK HFR HKP HLG
   go_wp2_with (
          at_builtin;refine wpList_append_lies _ rfl _ _ _ rfl base 36 i0 _ 1 8 Tryz.underlying26 hi0 hz0 hz1 hz2 rfl (by omega) hv' L'.length _ rfl (own4.alloc _) ⟨w4.heap.size,0,none⟩ 1 1 [.pointer (some ⟨wr.heap.size,0,none⟩)] rfl rfl (World.news_of_block (cs:=#[.pointer (some ⟨wr.heap.size,0,none⟩)]) (t:=36) (fr:=(0,0)) (heap_alloc_new w4 _)) (by simp [Value.oneCell']) (by omega) hn1 hn2 hbs (w4.heap.size+1) (by simp) ?_;intro gg cp w5 hown5 hgrow hat hlt5
          have hwb5:=(blk4.alloc (.cells #[.pointer (some ⟨wr.heap.size,0,none⟩)] 36)).grown hgrow wr4
          have hc5:=hwb5.cell 0
          simp at hc5
          have hf5:=hwb5.free 0)
   obtain ⟨K5,P5,F5⟩:=HK4.out.push (((Below.refl _ _).alloc (Nat.le_refl _) _)) hown5 hgrow hat (by omega)
   have P5':=kx_push HP4.out R4.out P5
   have R5:Frs w hv rv pv cv nv (.slice (some ⟨gg,0,none⟩) (L'.length+1) cp) rv2 pv2 cv2 nv2:=⟨R4.out.h.trans F5 HP4.out.size,R4.out.r,R4.out.p,R4.out.c,R4.out.n⟩
   rw [hL'] at K5 P5' R5
   exact ⟨⟨n+1,wr.heap.size,_,L' ++ [wr.heap.size],m,rv2,pv2,cv2,nv2,_,rfl,by go_num,by omega,by simp;omega,K5,R5,P5'⟩,by simp [intOf];omega⟩
  ·have en:n=3:=by omega
   subst en
   have HKK:=hide hK
   have HFR:=hide hFr
   have HKP:=hide hKp
   clear hK hFr hKp
   go_wp2
   go_end0
   exact ⟨rfl,hv',L',by omega,HKK.out.wld.weaken (fun b o u ⟨⟨x,_⟩,k1,k2⟩ _=>⟨x,k1,k2⟩),HKP.out,HFR.out.h⟩
end Go.Proofs.YtnkcbephceollabGreat
