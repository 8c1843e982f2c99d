import Derived.Test.YtnkcbephceollabGreatProg
import Derived.WalkKit
import Derived.Below
import Derived.WalkSpells
import Derived.WalkLawsBesides
import Derived.RegionTactic
import Derived.BigRegion
import Derived.Deep.QuietTactic
import Derived.BigQuiet
namespace Go.Proofs.YtnkcbephceollabGreat
structure Pt where
 x:Int
 y:Int
 d:Int
structure Mt where
 k:Int
 p:Pt
 q:Pt
theorem Pt.ext' {p q:Pt}(h1:p.x=q.x)(h2:p.y=q.y)(h3:p.d=q.d):p=q:=by
 cases p;cases q;simp_all
theorem Mt.ext' {p q:Mt}(h1:p.k=q.k)(h2:p.p=q.p)(h3:p.q=q.q):p=q:=by
 cases p;cases q;simp_all
def In (a A:Int):Prop:=-A<=a/\a<=A
theorem In.mk {a A:Int}(h1 : -A<=a)(h2:a<=A):In a A:=⟨h1,h2⟩
theorem In.lo {a A:Int}(h:In a A) : -A<=a:=h.1
theorem In.hi {a A:Int}(h:In a A):a<=A:=h.2
theorem In.nonneg {a A:Int}(h:In a A):0<=A:=by have:=h.1;have:=h.2;omega
theorem In.add {a b A B:Int}(h:In a A)(g:In b B):In (a+b) (A+B):=by unfold In at *;omega
theorem In.sub {a b A B:Int}(h:In a A)(g:In b B):In (a-b) (A+B):=by unfold In at *;omega
theorem In.neg {a A:Int}(h:In a A):In (-a) A:=by unfold In at *;omega
theorem In.mono {a A B:Int}(h:In a A)(g:A<=B):In a B:=by unfold In at *;omega
theorem In.mul {a b A B:Int}(h:In a A)(g:In b B):In (a*b) (A*B):=by
 have hA:=h.nonneg
 have hB:=g.nonneg
 have h1:a.natAbs<=A.natAbs:=by unfold In at h;omega
 have h2:b.natAbs<=B.natAbs:=by unfold In at g;omega
 have h3:(a*b).natAbs<=(A*B).natAbs:=by rw [Int.natAbs_mul,Int.natAbs_mul];exact Nat.mul_le_mul h1 h2
 have h4:0<=A*B:=Int.mul_nonneg hA hB
 unfold In;omega
structure Gd (p:Pt):Prop where
 x:In p.x 2097152
 y:In p.y 2097152
 d:In p.d 32768
structure Gr (p:Pt):Prop where
 x:In p.x 64
 y:In p.y 64
 d:p.d=1
theorem Gr.gd {p:Pt}(h:Gr p):Gd p:=⟨h.x.mono (by decide),h.y.mono (by decide),by rw [h.d];exact ⟨by decide,by decide⟩⟩
def detM (a b c:Pt):Int:=a.x*(b.y*c.d-c.y*b.d)-a.y*(b.x*c.d-c.x*b.d)+a.d*(b.x*c.y-c.x*b.y)
def befB (p q:Pt):Bool:=if p.x*q.d≠q.x*p.d then decide (p.x*q.d<q.x*p.d) else decide (p.y*q.d<q.y*p.d)
def cmpM (p q:Pt):Int:=if p.x*q.d-q.x*p.d≠0 then p.x*q.d-q.x*p.d else p.y*q.d-q.y*p.d
def firstM (p q:Pt):Pt:=if cmpM q p<0 then q else p
def lastM (p q:Pt):Pt:=if cmpM q p > 0 then q else p
def gridB (p:Pt):Bool:=decide (p.d=1/\-64<=p.x/\p.x<=64/\-64<=p.y/\p.y<=64)
def goodB (p:Pt):Bool:=decide (1<=p.d/\p.d<=32768/\-(64*p.d)<=p.x/\p.x<=64*p.d/\-(64*p.d)<=p.y/\p.y<=64*p.d)
theorem grid_of (p:Pt)(h:p.d=1):goodB p=gridB p:=by unfold goodB gridB;simp [h]
theorem grid_no (p:Pt)(h:p.d≠1):gridB p=false:=by unfold gridB;simp [h]
def gcdM (a b:Int):Int:=(Int.gcd a b:Int)
def leastM (p:Pt):Pt:=if gcdM (gcdM p.x p.y) p.d=0 then p else ⟨p.x.tdiv (gcdM (gcdM p.x p.y) p.d),p.y.tdiv (gcdM (gcdM p.x p.y) p.d),p.d.tdiv (gcdM (gcdM p.x p.y) p.d)⟩
def crossM (ax ay bx by':Int):Int:=ax*by'-ay*bx
def zP:Pt:=⟨0,0,0⟩
def zM:Mt:=⟨0,zP,zP⟩
def acrossM (a b c d:Pt):Mt:=
 let w:=crossM (b.x-a.x) (b.y-a.y) (d.x-c.x) (d.y-c.y)
 let s:=crossM (c.x-a.x) (c.y-a.y) (d.x-c.x) (d.y-c.y)
 let t:=crossM (c.x-a.x) (c.y-a.y) (b.x-a.x) (b.y-a.y)
 let w':=if w<0 then -w else w
 let s':=if w<0 then -s else s
 let t':=if w<0 then -t else t
 if s'<0\/s' > w'\/t'<0\/t' > w' then zM
 else ⟨1,leastM ⟨a.x*w'+(b.x-a.x)*s',a.y*w'+(b.y-a.y)*s',w'⟩,zP⟩
def lineM (a b c d:Pt):Mt:=
 let f:=lastM (firstM a b) (firstM c d)
 let t:=firstM (lastM a b) (lastM c d)
 if cmpM f t > 0 then zM else if cmpM f t=0 then ⟨1,f,zP⟩ else ⟨2,f,t⟩
def parM (a b c d:Pt):Mt:=if crossM (b.x-a.x) (b.y-a.y) (c.x-a.x) (c.y-a.y)≠0 then zM else lineM a b c d
def meetM (a b c d:Pt):Mt:=if crossM (b.x-a.x) (b.y-a.y) (d.x-c.x) (d.y-c.y)=0 then parM a b c d else acrossM a b c d
theorem firstM_gd {p q:Pt}(hp:Gd p)(hq:Gd q):Gd (firstM p q):=by unfold firstM;split <;> assumption
theorem lastM_gd {p q:Pt}(hp:Gd p)(hq:Gd q):Gd (lastM p q):=by unfold lastM;split <;> assumption
theorem firstM_gr {p q:Pt}(hp:Gr p)(hq:Gr q):Gr (firstM p q):=by unfold firstM;split <;> assumption
theorem lastM_gr {p q:Pt}(hp:Gr p)(hq:Gr q):Gr (lastM p q):=by unfold lastM;split <;> assumption
end Go.Proofs.YtnkcbephceollabGreat
namespace Go.Proofs.YtnkcbephceollabGreat
open Go.RowKit
set_option linter.unusedSimpArgs false
set_option linter.unusedVariables false
theorem bcell {W w1:World}(hb:Below W.heap.size W w1):(∀ b o,b<W.heap.size->w1.cell? ⟨b,o,none⟩=W.cell? ⟨b,o,none⟩)/\(∀ b o,b<W.heap.size->w1.frozen? ⟨b,o,none⟩=W.frozen? ⟨b,o,none⟩):=
 ⟨fun b o h=>hb.cell (p:=⟨b,o,none⟩) h,fun b o h=>hb.frozen (p:=⟨b,o,none⟩) h⟩
theorem bvia {w W w1:World}(h:Below w.heap.size w W)(hb:Below W.heap.size W w1):Below w.heap.size w w1:=h.trans (hb.mono h.size)
theorem ret_int {k:IntKind}{a b:Int}(h:a=b):Ending.returned (.int k a) = .returned (.int k b):=by rw [h]
theorem ret_bool {a b:Bool}(h:a=b):Ending.returned (.bool a) = .returned (.bool b):=by rw [h]
theorem wrap_in {a A:Int}(h:In a A)(g:A<=9223372036854775807):wrap64 a=a:=IntWalk.wrap64_in a (by unfold In at h;omega)
abbrev I (n:Int):Value:=.int .i64 n
abbrev Pt.v (p:Pt):Value:=.agg #[.int .i64 p.x,.int .i64 p.y,.int .i64 p.d]
abbrev sg (a b:Pt):Value:=.agg #[.int .i64 a.x,.int .i64 a.y,.int .i64 a.d,.int .i64 b.x,.int .i64 b.y,.int .i64 b.d]
abbrev Mt.v (m:Mt):Value:=.agg #[.int .i64 m.k,.int .i64 m.p.x,.int .i64 m.p.y,.int .i64 m.p.d,.int .i64 m.q.x,.int .i64 m.q.y,.int .i64 m.q.d]
set_option maxHeartbeats 1000000 in
theorem IsGood_any (p:Pt)(w:World) :
  Calls Tryz.prog 62 #[p.v] w fun e w'=>e = .returned (.bool (goodB p))/\Below w.heap.size w w':=by
 by_cases h1:p.d<1
 ·go_enter Tryz.func62,Tryz.ntmps62
  go_wp2
  all_goals
   go_ret
   refine ⟨ret_bool ?_,(Below.refl _ _).alloc (Nat.le_refl _) _⟩
   simp_all [goodB]
   try omega
 by_cases h2:32768<p.d
 ·go_enter Tryz.func62,Tryz.ntmps62
  go_wp2
  all_goals
   go_ret
   refine ⟨ret_bool ?_,(Below.refl _ _).alloc (Nat.le_refl _) _⟩
   simp_all [goodB]
   try omega
 go_enter Tryz.func62,Tryz.ntmps62
 go_wp2
 all_goals
  go_ret
  refine ⟨ret_bool ?_,(Below.refl _ _).alloc (Nat.le_refl _) _⟩
  first | (simp_all [goodB];done) | (simp_all [goodB];omega)
set_option maxHeartbeats 400000 in
theorem IsGrid_any (p:Pt)(w:World) :
  Calls Tryz.prog 34 #[p.v] w fun e w'=>e = .returned (.bool (gridB p))/\Below w.heap.size w w':=by
 by_cases h:p.d=1
 ·have H:Hid (goodB p=gridB p):=grid_of p h
  have h':(p.d != 1)=false:=by simpa using h
  clear h
  go_enter Tryz.func34,Tryz.ntmps34
  go_wp2_with fail
  refine (IsGood_any p _).mono ?_
  rintro e w1 ⟨rfl,k⟩
  have B1:=bvia ((Below.refl _ _).alloc (Nat.le_refl _) _) k
  clear k
  go_wp2
  go_ret
  exact ⟨ret_bool H.out,B1⟩
 ·have H:Hid (gridB p=false):=grid_no p h
  have h':(p.d != 1)=true:=by simpa using h
  clear h
  go_enter Tryz.func34,Tryz.ntmps34
  go_wp2
  go_ret
  exact ⟨ret_bool H.out.symm,(Below.refl _ _).alloc (Nat.le_refl _) _⟩
theorem side_eq (a b c:Pt):(a.y*b.d-b.y*a.d)*c.x+(b.x*a.d-a.x*b.d)*c.y+(a.x*b.y-b.x*a.y)*c.d=detM a b c:=by unfold detM;grind
set_option maxHeartbeats 400000 in
theorem Side_any (a b c:Pt)(w:World)(ha:Gd a)(hb:Gd b)(hc:Gd c) :
  Calls Tryz.prog 119 #[a.v,b.v,c.v] w fun e w'=>e = .returned (.int .i64 (detM a b c))/\Below w.heap.size w w':=by
 have e:wrap64 (wrap64 (wrap64 (wrap64 (wrap64 (a.y*b.d)-wrap64 (b.y*a.d))*c.x)+wrap64 (wrap64 (wrap64 (b.x*a.d)-wrap64 (a.x*b.d))*c.y))+wrap64 (wrap64 (wrap64 (a.x*b.y)-wrap64 (b.x*a.y))*c.d))=detM a b c:=by
  rw [<-side_eq]
  have i1:=(ha.y.mul hb.d).sub (hb.y.mul ha.d)
  have i2:=(hb.x.mul ha.d).sub (ha.x.mul hb.d)
  have i3:=(ha.x.mul hb.y).sub (hb.x.mul ha.y)
  rw [wrap_in (ha.y.mul hb.d) (by decide),wrap_in (hb.y.mul ha.d) (by decide),wrap_in (hb.x.mul ha.d) (by decide),wrap_in (ha.x.mul hb.d) (by decide),wrap_in (ha.x.mul hb.y) (by decide),wrap_in (hb.x.mul ha.y) (by decide),
   wrap_in i1 (by decide),wrap_in i2 (by decide),wrap_in i3 (by decide),wrap_in (i1.mul hc.x) (by decide),wrap_in (i2.mul hc.y) (by decide),wrap_in (i3.mul hc.d) (by decide),
   wrap_in ((i1.mul hc.x).add (i2.mul hc.y)) (by decide),wrap_in (((i1.mul hc.x).add (i2.mul hc.y)).add (i3.mul hc.d)) (by decide)]
 have E:=e
 clear e ha hb hc
 have H:Hid (wrap64 (wrap64 (wrap64 (wrap64 (wrap64 (a.y*b.d)-wrap64 (b.y*a.d))*c.x)+wrap64 (wrap64 (wrap64 (b.x*a.d)-wrap64 (a.x*b.d))*c.y))+wrap64 (wrap64 (wrap64 (a.x*b.y)-wrap64 (b.x*a.y))*c.d))=detM a b c):=E
 clear E
 go_enter Tryz.func119,Tryz.ntmps119
 go_wp2
 go_ret
 exact ⟨ret_int H.out,(((Below.refl _ _).alloc (Nat.le_refl _) _).alloc (by simp) _).alloc (by simp;omega) _⟩
def eqP (p q:Pt):Bool:=decide (p.x=q.x/\p.y=q.y/\p.d=q.d)
theorem eqP_true {p q:Pt}(h:eqP p q=true):p=q:=by have:=of_decide_eq_true h;exact Pt.ext' this.1 this.2.1 this.2.2
theorem eqP_false {p q:Pt}(h:eqP p q=false):p≠q:=by intro e;subst e;simp [eqP] at h
theorem eql_pt (x y d x' y' d':Int)(w:World):(binOp .eql 31 (.agg #[.int .i64 x,.int .i64 y,.int .i64 d]) (.agg #[.int .i64 x',.int .i64 y',.int .i64 d'])).run Tryz.prog w = .ok (.bool (eqP ⟨x,y,d⟩ ⟨x',y',d'⟩)) w:=by
 by_cases h1:x=x'
 ·by_cases h2:y=y'
  ·by_cases h3:d=d' <;> simp [go_sem,eqP,h1,h2,h3]
  ·simp [go_sem,eqP,h1,h2]
 ·simp [go_sem,eqP,h1]
set_option maxHeartbeats 400000 in
theorem IsEmpty_any (a b:Pt)(w:World) :
  Calls Tryz.prog 35 #[sg a b] w fun e w'=>e = .returned (.bool (eqP a b))/\Below w.heap.size w w':=by
 have heq:=eql_pt
 go_enter Tryz.func35,Tryz.ntmps35
 go_wp2
 go_ret
 exact ⟨rfl,(Below.refl _ _).alloc (Nat.le_refl _) _⟩
set_option maxHeartbeats 400000 in
theorem Compare_any (p q:Pt)(w:World)(hp:Gd p)(hq:Gd q) :
  Calls Tryz.prog 117 #[p.v,q.v] w fun e w'=>e = .returned (.int .i64 (cmpM p q))/\Below w.heap.size w w':=by
 obtain ⟨l1,u1⟩:=hp.x.mul hq.d
 obtain ⟨l2,u2⟩:=hq.x.mul hp.d
 obtain ⟨l3,u3⟩:=hp.y.mul hq.d
 obtain ⟨l4,u4⟩:=hq.y.mul hp.d
 clear hp hq
 by_cases h:(p.x*q.d-q.x*p.d != 0)=true
 ·go_enter Tryz.func117,Tryz.ntmps117
  go_wp2
  go_ret
  exact ⟨ret_int (by unfold cmpM;rw [if_pos (by simpa using h)]),((Below.refl _ _).alloc (Nat.le_refl _) _).alloc (by simp) _⟩
 ·have h':(p.x*q.d-q.x*p.d != 0)=false:=by simpa using h
  clear h
  go_enter Tryz.func117,Tryz.ntmps117
  go_wp2
  go_ret
  exact ⟨ret_int (by unfold cmpM;rw [if_neg (by simpa using h')]),((Below.refl _ _).alloc (Nat.le_refl _) _).alloc (by simp) _⟩
set_option maxHeartbeats 400000 in
theorem wayFrom_any (p q:Pt)(w:World)(hp:Gd p)(hq:Gd q) :
  Calls Tryz.prog 63 #[p.v,q.v] w fun e w'=>e = .returned (.agg #[.int .i64 (q.x-p.x),.int .i64 (q.y-p.y)])/\Below w.heap.size w w':=by
 obtain ⟨l1,u1⟩:=hp.x
 obtain ⟨l2,u2⟩:=hq.x
 obtain ⟨l3,u3⟩:=hp.y
 obtain ⟨l4,u4⟩:=hq.y
 clear hp hq
 go_enter Tryz.func63,Tryz.ntmps63
 go_wp2
 exact bodyPost_ret (v:=.agg #[.int .i64 (q.x-p.x),.int .i64 (q.y-p.y)]) (by simp [results,Tryz.results63,go_sem]) rfl ⟨rfl,(((Below.refl _ _).alloc (Nat.le_refl _) _).alloc (by simp) _).alloc (by simp;omega) _⟩
set_option maxHeartbeats 400000 in
theorem cross_any (ax ay bx by':Int)(w:World)(h1:In ax 4194304)(h2:In ay 4194304)(h3:In bx 4194304)(h4:In by' 4194304) :
  Calls Tryz.prog 64 #[.agg #[.int .i64 ax,.int .i64 ay],.agg #[.int .i64 bx,.int .i64 by']] w fun e w'=>e = .returned (.int .i64 (crossM ax ay bx by'))/\Below w.heap.size w w':=by
 obtain ⟨l1,u1⟩:=h1.mul h4
 obtain ⟨l2,u2⟩:=h2.mul h3
 clear h1 h2 h3 h4
 go_enter Tryz.func64,Tryz.ntmps64
 go_wp2
 go_ret
 exact ⟨rfl,((Below.refl _ _).alloc (Nat.le_refl _) _).alloc (by simp) _⟩
theorem below_set3 {w w1:World}{b o:Nat}{x y z:Value}(h:Below w.heap.size w w1)(hb:w.heap.size<=b) :
  Below w.heap.size w (((w1.setCell ⟨b,o,none⟩ x).setCell ⟨b,o+1,none⟩ y).setCell ⟨b,o+2,none⟩ z):=
 ((
  h.setCell hb _).setCell hb _).setCell hb _
theorem below3 (w:World)(x y z:Obj):Below w.heap.size w (((w.alloc x).alloc y).alloc z):=
 (((
   Below.refl _ _).alloc (Nat.le_refl _) _).alloc (by simp) _).alloc (by simp;omega) _
set_option maxHeartbeats 400000 in
theorem First_any (p q:Pt)(w:World)(hp:Gd p)(hq:Gd q) :
  Calls Tryz.prog 126 #[p.v,q.v] w fun e w'=>e = .returned (firstM p q).v/\Below w.heap.size w w':=by
 by_cases h:cmpM q p<0
 ·have H:Hid (firstM p q=q):=if_pos h
  go_enter Tryz.func126,Tryz.ntmps126
  go_wp2_with fail
  refine (Compare_any q p _ hq hp).mono ?_
  rintro e w1 ⟨rfl,hb⟩
  have hz:w.heap.size+2<w1.heap.size:=by have:=hb.size;simp at this;omega
  obtain ⟨hc,hf⟩:=bcell hb
  go_wp2
  exact bodyPost_ret (v:=q.v) (by simp [results,Tryz.results126,go_sem,hc,hz]) rfl ⟨by rw [H.out],below_set3 (o:=0) (bvia (below3 _ _ _ _) hb) (by omega)⟩
 ·have H:Hid (firstM p q=p):=if_neg h
  go_enter Tryz.func126,Tryz.ntmps126
  go_wp2_with fail
  refine (Compare_any q p _ hq hp).mono ?_
  rintro e w1 ⟨rfl,hb⟩
  have hz:w.heap.size+2<w1.heap.size:=by have:=hb.size;simp at this;omega
  obtain ⟨hc,hf⟩:=bcell hb
  go_wp2
  exact bodyPost_ret (v:=p.v) (by simp [results,Tryz.results126,go_sem,hc,hz]) rfl ⟨by rw [H.out],below_set3 (o:=0) (bvia (below3 _ _ _ _) hb) (by omega)⟩
set_option maxHeartbeats 400000 in
theorem Last_any (p q:Pt)(w:World)(hp:Gd p)(hq:Gd q) :
  Calls Tryz.prog 125 #[p.v,q.v] w fun e w'=>e = .returned (lastM p q).v/\Below w.heap.size w w':=by
 by_cases h:0<cmpM q p
 ·have H:Hid (lastM p q=q):=if_pos h
  go_enter Tryz.func125,Tryz.ntmps125
  go_wp2_with fail
  refine (Compare_any q p _ hq hp).mono ?_
  rintro e w1 ⟨rfl,hb⟩
  have hz:w.heap.size+2<w1.heap.size:=by have:=hb.size;simp at this;omega
  obtain ⟨hc,hf⟩:=bcell hb
  go_wp2
  exact bodyPost_ret (v:=q.v) (by simp [results,Tryz.results125,go_sem,hc,hz]) rfl ⟨by rw [H.out],below_set3 (o:=0) (bvia (below3 _ _ _ _) hb) (by omega)⟩
 ·have H:Hid (lastM p q=p):=if_neg h
  go_enter Tryz.func125,Tryz.ntmps125
  go_wp2_with fail
  refine (Compare_any q p _ hq hp).mono ?_
  rintro e w1 ⟨rfl,hb⟩
  have hz:w.heap.size+2<w1.heap.size:=by have:=hb.size;simp at this;omega
  obtain ⟨hc,hf⟩:=bcell hb
  go_wp2
  exact bodyPost_ret (v:=p.v) (by simp [results,Tryz.results125,go_sem,hc,hz]) rfl ⟨by rw [H.out],below_set3 (o:=0) (bvia (below3 _ _ _ _) hb) (by omega)⟩
theorem tmod_lt_abs (a b:Int)(h:b≠0):(a.tmod b).natAbs<b.natAbs:=by
 rw [Int.natAbs_tmod];exact Nat.mod_lt _ (by omega)
theorem gcd_step (a b:Int):Int.gcd b (a.tmod b)=Int.gcd a b:=by
 unfold Int.gcd;rw [Int.natAbs_tmod,Nat.gcd_comm a.natAbs,Nat.gcd_rec b.natAbs a.natAbs,Nat.gcd_comm]
theorem gcd_end_pos {s g:Int}(h:gcdM s 0=g)(h0:0<=s):s=g:=by rw [<-h];unfold gcdM;simp;omega
theorem gcd_end_neg {s g:Int}(h:gcdM s 0=g)(h0:s<0) : -s=g:=by rw [<-h];unfold gcdM;simp;omega
theorem tmod_in {s t A:Int}(h:In t A)(h0:t≠0):In (s.tmod t) A:=by have:=tmod_lt_abs s t h0;unfold In at *;omega
set_option maxHeartbeats 400000 in
theorem divisor_any (a b:Int)(w:World)(ha:In a 9223372036854775807)(hb:In b 9223372036854775807) :
  Calls Tryz.prog 127 #[.int .i64 a,.int .i64 b] w fun e w'=>e = .returned (.int .i64 (gcdM a b))/\Below w.heap.size w w':=by
 obtain ⟨la,ua⟩:=ha
 obtain ⟨lb,ub⟩:=hb
 go_enter Tryz.func127,Tryz.ntmps127
 go_wp2
 go_loopw [0,1] (fun x y w'=>∃ s t:Int,x = .int .i64 s/\y = .int .i64 t/\Hid (gcdM s t=gcdM a b)/\-9223372036854775807<=s/\s<=9223372036854775807/\-9223372036854775807<=t/\t<=9223372036854775807/\Below w.heap.size w w') (fun _ y _=>(intOf y).natAbs)
 case atStart=>exact ⟨a,b,rfl,rfl,rfl,la,ua,lb,ub,Below.refl _ _⟩
 case round=>
  obtain ⟨s,t,rfl,rfl,H,ls,us,lt,ut,hbel⟩:=hrel
  by_cases h:t=0
  ·subst h
   go_wp2
   ·go_ret
    exact ⟨ret_int (gcd_end_neg H.out (by assumption)),hbel⟩
   ·go_ret
    exact ⟨ret_int (gcd_end_pos H.out (by assumption)),hbel⟩
  ·have h':(t != 0)=true:=by simpa using h
   have H2:Hid (gcdM t (s.tmod t)=gcdM a b):=by
    have e:gcdM t (s.tmod t)=gcdM s t:=by unfold gcdM;rw [gcd_step]
    exact e.trans H.out
   have hlt:=tmod_lt_abs s t h
   obtain ⟨l2,u2⟩:=tmod_in (s:=s) (In.mk lt ut) h
   clear H
   go_wp2
   go_quiet (fail)
   go_wp2
   go_roundw
   case rel=>exact ⟨t,s.tmod t,rfl,rfl,H2,lt,ut,l2,u2,below_drewN hbel _⟩
   case measure=>exact hlt
theorem tdiv_in {a g A:Int}(h:In a A):In (a.tdiv g) A:=by
 have h1:(a.tdiv g).natAbs<=a.natAbs:=by rw [Int.natAbs_tdiv];exact Nat.div_le_self _ _
 unfold In at *;omega
theorem gcdM_nonneg (a b:Int):0<=gcdM a b:=by unfold gcdM;omega
theorem gcdM_in {a b A:Int}(h:In a A)(g:In b A):In (gcdM a b) A:=by
 have h0:=gcdM_nonneg a b
 have hA:=h.nonneg
 refine ⟨by omega,?_⟩
 unfold gcdM at *
 by_cases ha:a=0
 ·subst ha;simp;unfold In at *;omega
 ·have:=Int.gcd_le_natAbs_left (a:=a) (b:=b) ha;unfold In at *;omega
set_option maxHeartbeats 400000 in
theorem Least_any (p:Pt)(w:World)(hp:Gd p) :
  Calls Tryz.prog 103 #[p.v] w fun e w'=>e = .returned (leastM p).v/\Below w.heap.size w w':=by
 have h0:=gcdM_nonneg (gcdM p.x p.y) p.d
 by_cases h:gcdM (gcdM p.x p.y) p.d=0
 ·have H:Hid (leastM p=p):=if_pos h
  have h':(gcdM (gcdM p.x p.y) p.d == 0)=true:=by simpa using h
  clear h
  go_enter Tryz.func103,Tryz.ntmps103
  go_wp2_with fail
  refine (divisor_any _ _ _ (hp.x.mono (by decide)) (hp.y.mono (by decide))).mono ?_
  rintro e w1 ⟨rfl,hb1⟩
  have hz1:w.heap.size+1<w1.heap.size:=by have:=hb1.size;simp at this;omega
  have hy1:w.heap.size<w1.heap.size:=by omega
  obtain ⟨hc1,hf1⟩:=bcell hb1
  go_wp2_with fail
  refine (divisor_any _ _ _ ((gcdM_in (hp.x.mono (by decide)) (hp.y.mono (by decide)))) (hp.d.mono (by decide))).mono ?_
  rintro e w2 ⟨rfl,hb2⟩
  have hz2:w.heap.size+1<w2.heap.size:=Nat.lt_of_lt_of_le hz1 hb2.size
  obtain ⟨hc2,hf2⟩:=bcell hb2
  go_wp2
  exact bodyPost_ret (v:=p.v) (by simp [results,Tryz.results103,go_sem,hc1,hz1,hc2,hz2,hy1]) rfl ⟨by rw [H.out],below_set3 (o:=0) (bvia (bvia (((Below.refl _ _).alloc (Nat.le_refl _) _).alloc (by simp) _) hb1) hb2) (by omega)⟩
 ·have H:Hid (leastM p=⟨p.x.tdiv (gcdM (gcdM p.x p.y) p.d),p.y.tdiv (gcdM (gcdM p.x p.y) p.d),p.d.tdiv (gcdM (gcdM p.x p.y) p.d)⟩):=if_neg h
  have h':(gcdM (gcdM p.x p.y) p.d == 0)=false:=by simpa using h
  have hpos:0<gcdM (gcdM p.x p.y) p.d:=by omega
  obtain ⟨lx,ux⟩:=tdiv_in (g:=gcdM (gcdM p.x p.y) p.d) hp.x
  obtain ⟨ly,uy⟩:=tdiv_in (g:=gcdM (gcdM p.x p.y) p.d) hp.y
  obtain ⟨ld,ud⟩:=tdiv_in (g:=gcdM (gcdM p.x p.y) p.d) hp.d
  clear h
  go_enter Tryz.func103,Tryz.ntmps103
  go_wp2_with fail
  refine (divisor_any _ _ _ (hp.x.mono (by decide)) (hp.y.mono (by decide))).mono ?_
  rintro e w1 ⟨rfl,hb1⟩
  have hz1:w.heap.size+1<w1.heap.size:=by have:=hb1.size;simp at this;omega
  have hy1:w.heap.size<w1.heap.size:=by omega
  obtain ⟨hc1,hf1⟩:=bcell hb1
  go_wp2_with fail
  refine (divisor_any _ _ _ ((gcdM_in (hp.x.mono (by decide)) (hp.y.mono (by decide)))) (hp.d.mono (by decide))).mono ?_
  rintro e w2 ⟨rfl,hb2⟩
  have hz2:w.heap.size+1<w2.heap.size:=Nat.lt_of_lt_of_le hz1 hb2.size
  obtain ⟨hc2,hf2⟩:=bcell hb2
  go_wp2
  go_region
  go_wp2
  exact bodyPost_ret (v:=Pt.v ⟨p.x.tdiv (gcdM (gcdM p.x p.y) p.d),p.y.tdiv (gcdM (gcdM p.x p.y) p.d),p.d.tdiv (gcdM (gcdM p.x p.y) p.d)⟩) (by simp [results,Tryz.results103,go_sem,hc1,hz1,hc2,hz2,hy1]) rfl ⟨by rw [H.out],(below_set3 (o:=0) (bvia (bvia (((Below.refl _ _).alloc (Nat.le_refl _) _).alloc (by simp) _) hb1) hb2) (by omega)).drew⟩
theorem below_set6 {w w1:World}{b:Nat}{x0 x1 x2 x3 x4 x5:Value}(h:Below w.heap.size w w1)(hb:w.heap.size<=b) :
  Below w.heap.size w ((((((w1.setCell ⟨b,0,none⟩ x0).setCell ⟨b,1,none⟩ x1).setCell ⟨b,2,none⟩ x2).setCell ⟨b,3,none⟩ x3).setCell ⟨b,4,none⟩ x4).setCell ⟨b,5,none⟩ x5):=
 (((((
    h.setCell hb _).setCell hb _).setCell hb _).setCell hb _).setCell hb _).setCell hb _
structure Blk (w:World)(b:Nat)(vs:Array Value):Prop where
 cell:∀ o,w.cell? ⟨b,o,none⟩=vs[o]?
 free:∀ o,w.frozen? ⟨b,o,none⟩=false
 lt:b<w.heap.size
theorem Blk.new (w:World)(vs:Array Value)(t:TypeId):Blk (w.alloc (.cells vs t)) w.heap.size vs:=
 ⟨fun o=>World.cell?_alloc_at vs t _ o rfl,fun o=>World.frozen?_alloc_at vs t _ o rfl,by simp⟩
theorem Blk.at (b:Nat){w:World}{vs:Array Value}{t:TypeId}(h:b=w.heap.size):Blk (w.alloc (.cells vs t)) b vs:=h ▸ Blk.new w vs t
theorem Blk.alloc {w:World}{b:Nat}{vs:Array Value}(h:Blk w b vs)(o:Obj):Blk (w.alloc o) b vs:=
 ⟨fun i=>(World.cell?_alloc_past o b i h.lt).trans (h.cell i),fun i=>(World.frozen?_alloc_past o b i h.lt).trans (h.free i),by have:=h.lt;simp;omega⟩
theorem Blk.call {w w':World}{b:Nat}{vs:Array Value}(h:Blk w b vs)(hb:Below w.heap.size w w'):Blk w' b vs:=
 ⟨fun i=>(hb.cell (p:=⟨b,i,none⟩) h.lt).trans (h.cell i),fun i=>(hb.frozen (p:=⟨b,i,none⟩) h.lt).trans (h.free i),Nat.lt_of_lt_of_le h.lt hb.size⟩
end Go.Proofs.YtnkcbephceollabGreat
namespace Go.Proofs.YtnkcbephceollabGreat
set_option linter.unusedSimpArgs false
set_option linter.unusedVariables false
def sidesM (m n:Int):Int:=if m=0\/n=0 then 0 else if (decide (m<0) == decide (n<0))=true then 1 else -1
theorem sides_0 {m n:Int}(h:m=0\/n=0):sidesM m n=0:=if_pos h
def holdsB (a b p:Pt):Bool:=detM a b p == 0 && !(befB p a && befB p b) && !(befB a p && befB b p)
theorem sides_one (m n:Int):sidesM m n=1↔(m<0/\n<0\/0<m/\0<n):=by
 unfold sidesM
 split
 ·omega
 ·split
  ·rename_i h1 h2
   simp at h2
   omega
  ·rename_i h1 h2
   simp at h2
   omega
theorem bef_iff (p q:Pt):befB p q=true↔(p.x*q.d<q.x*p.d\/(p.x*q.d=q.x*p.d/\p.y*q.d<q.y*p.d)):=by
 unfold befB
 split
 ·simp;omega
 ·simp;omega
theorem holds_iff (a b p:Pt):holdsB a b p=true↔detM a b p=0/\¬ (befB p a=true/\befB p b=true)/\¬ (befB a p=true/\befB b p=true):=by
 unfold holdsB
 simp only [Bool.and_eq_true,beq_iff_eq,Bool.not_eq_true',Bool.and_eq_false_iff]
 cases befB p a <;> cases befB p b <;> cases befB a p <;> cases befB b p <;> simp
theorem w_mn {a b c d:Pt}(ha:a.d=1)(hb:b.d=1)(hc:c.d=1)(hd:d.d=1):crossM (b.x-a.x) (b.y-a.y) (d.x-c.x) (d.y-c.y)=detM a b d-detM a b c:=by
 unfold crossM detM;rw [ha,hb,hc,hd];grind
theorem w_pq {a b c d:Pt}(ha:a.d=1)(hb:b.d=1)(hc:c.d=1)(hd:d.d=1):crossM (b.x-a.x) (b.y-a.y) (d.x-c.x) (d.y-c.y)=detM c d a-detM c d b:=by
 unfold crossM detM;rw [ha,hb,hc,hd];grind
theorem s_p {a c d:Pt}(ha:a.d=1)(hc:c.d=1)(hd:d.d=1):crossM (c.x-a.x) (c.y-a.y) (d.x-c.x) (d.y-c.y)=detM c d a:=by
 unfold crossM detM;rw [ha,hc,hd];grind
theorem t_m {a b c:Pt}(ha:a.d=1)(hb:b.d=1)(hc:c.d=1):crossM (c.x-a.x) (c.y-a.y) (b.x-a.x) (b.y-a.y) = - detM a b c:=by
 unfold crossM detM;rw [ha,hb,hc];grind
theorem par_m {a b c:Pt}(ha:a.d=1)(hb:b.d=1)(hc:c.d=1):crossM (b.x-a.x) (b.y-a.y) (c.x-a.x) (c.y-a.y)=detM a b c:=by
 unfold crossM detM;rw [ha,hb,hc];grind
def norm (x y w:Int):Pt:=if w<0 then ⟨-x,-y,-w⟩ else ⟨x,y,w⟩
theorem norm_neg {x y w:Int}(h:w≠0):norm (-x) (-y) (-w)=norm x y w:=by
 unfold norm
 by_cases g:w<0
 ·rw [if_neg (by omega),if_pos g]
 ·rw [if_pos (by omega),if_neg g];simp
def goodM (w m n p q:Int):Prop:=w<0/\p<=0/\0<=q/\0<=m/\n<=0\/0<w/\0<=p/\q<=0/\m<=0/\0<=n
theorem across_good {a b c d:Pt}(ha:a.d=1)(hb:b.d=1)(hc:c.d=1)(hd:d.d=1)(hw:detM a b d-detM a b c≠0)
  (g:goodM (detM a b d-detM a b c) (detM a b c) (detM a b d) (detM c d a) (detM c d b)) :
  acrossM a b c d=⟨1,leastM (norm (a.x*(detM a b d-detM a b c)+(b.x-a.x)*detM c d a) (a.y*(detM a b d-detM a b c)+(b.y-a.y)*detM c d a) (detM a b d-detM a b c)),zP⟩:=by
 have e1:=w_mn ha hb hc hd
 have e2:=w_pq ha hb hc hd
 have e3:=s_p ha hc hd
 have e4:=t_m ha hb hc
 unfold acrossM
 simp only [e3,e4]
 rw [e1] at e2 ⊢
 generalize detM a b c=m at *
 generalize detM a b d=n at *
 generalize detM c d a=p at *
 generalize detM c d b=q at *
 unfold norm goodM at *
 by_cases h:n-m<0
 ·simp only [if_pos h]
  rw [if_neg (by omega)]
  simp [Int.mul_neg,Int.neg_add]
 ·simp only [if_neg h]
  rw [if_neg (by omega)]
theorem across_bad {a b c d:Pt}(ha:a.d=1)(hb:b.d=1)(hc:c.d=1)(hd:d.d=1)(hw:detM a b d-detM a b c≠0)
  (g : ¬ goodM (detM a b d-detM a b c) (detM a b c) (detM a b d) (detM c d a) (detM c d b)):acrossM a b c d=zM:=by
 have e1:=w_mn ha hb hc hd
 have e2:=w_pq ha hb hc hd
 have e3:=s_p ha hc hd
 have e4:=t_m ha hb hc
 unfold acrossM
 simp only [e3,e4]
 rw [e1] at e2 ⊢
 generalize detM a b c=m at *
 generalize detM a b d=n at *
 generalize detM c d a=p at *
 generalize detM c d b=q at *
 unfold goodM at *
 by_cases h:n-m<0
 ·simp only [if_pos h]
  rw [if_pos (by omega)]
 ·simp only [if_neg h]
  rw [if_pos (by omega)]
end Go.Proofs.YtnkcbephceollabGreat
