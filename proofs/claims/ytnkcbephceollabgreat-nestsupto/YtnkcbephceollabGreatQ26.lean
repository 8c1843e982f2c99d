import Derived.Test.YtnkcbephceollabGreatQ25
namespace Go.Proofs.YtnkcbephceollabGreat
open Go.RowKit
set_option linter.unusedSimpArgs false
set_option linter.unusedVariables false
set_option maxHeartbeats 1000000 in
theorem isIn_any (op:Int)(a b:Bool)(w:World) :
  Calls Tryz.prog 116 #[.int .i64 op,.bool a,.bool b] w fun e w'=>e = .returned (.bool (inM op a b))/\w'=w:=by
 by_cases h0:op=0
 ·subst h0
  cases a <;> cases b <;>
   (go_enter Tryz.func116,Tryz.ntmps116
    go_wp2
    go_ret
    exact ⟨rfl,rfl⟩)
 by_cases h1:op=1
 ·subst h1
  cases a <;> cases b <;>
   (go_enter Tryz.func116,Tryz.ntmps116
    go_wp2
    go_ret
    exact ⟨rfl,rfl⟩)
 by_cases h2:op=2
 ·subst h2
  cases a <;> cases b <;>
   (go_enter Tryz.func116,Tryz.ntmps116
    go_wp2
    go_ret
    exact ⟨rfl,rfl⟩)
 by_cases h3:op=3
 ·subst h3
  cases a <;> cases b <;>
   (go_enter Tryz.func116,Tryz.ntmps116
    go_wp2
    go_ret
    exact ⟨rfl,rfl⟩)
 ·have H:Hid (inM op a b=(a != b)):=by unfold inM;rw [if_neg h0,if_neg h1,if_neg h2,if_neg h3];exact hide rfl
  go_enter Tryz.func116,Tryz.ntmps116
  go_wp2
  go_ret
  exact ⟨ret_bool H.out.symm,rfl⟩
set_option maxHeartbeats 1000000 in
theorem isMetAhead_any (p q:Pt)(e:Pt×Pt)(w:World)(hp:Gd p)(hq:Gd q)(h1:Gd e.1)(h2:Gd e.2) :
  Calls Tryz.prog 118 #[p.v,q.v,sg e.1 e.2] w fun r w'=>r = .returned (.bool (aheadM p q e))/\Below w.heap.size w w':=by
 have HA:=hide (show aheadM p q e=if decide (detM e.2 e.1 p<0) != decide (detM e.2 e.1 q<0) then decide (detM e.2 e.1 p<0) else decide (detM e.2 p q<0) from rfl)
 generalize aheadM p q e=res at *
 have C1:=fun wz=>Side_any e.2 e.1 p wz h2 h1 hp
 have C2:=fun wz=>Side_any e.2 e.1 q wz h2 h1 hq
 have C3:=fun wz=>Side_any e.2 p q wz h2 hp hq
 generalize detM e.2 e.1 p=sp at *
 generalize detM e.2 e.1 q=sq at *
 generalize detM e.2 p q=s3 at *
 go_enter Tryz.func118,Tryz.ntmps118
 go_wp2_with fail
 refine (C1 _).mono ?_
 rintro e' w1 ⟨rfl,k⟩
 have B1:=bvia (below3 _ _ _ _) k
 have P1:=(((Blk.new w _ _).alloc _).alloc _).call k
 have Q1:=((Blk.at (w.heap.size+1) (by simp)).alloc _).call k
 have E1:=(Blk.at (w.heap.size+1+1) (by simp)).call k
 obtain ⟨cp,fp,zp⟩:=id P1
 obtain ⟨cq,fq,zq⟩:=id Q1
 obtain ⟨ce,fe,ze⟩:=id E1
 clear k
 go_wp2_with fail
 refine (C2 _).mono ?_
 rintro e' w2 ⟨rfl,k⟩
 have B2:=bvia B1 k
 have P2:=P1.call k
 have Q2:=Q1.call k
 have E2:=E1.call k
 clear k cp fp zp cq fq zq ce fe ze P1 Q1 E1 B1
 obtain ⟨cp,fp,zp⟩:=id P2
 obtain ⟨cq,fq,zq⟩:=id Q2
 obtain ⟨ce,fe,ze⟩:=id E2
 obtain ⟨bp,hbp⟩:∃ x,x=decide (sp<0):=⟨_,rfl⟩
 obtain ⟨bq,hbq⟩:∃ x,x=decide (sq<0):=⟨_,rfl⟩
 rw [<-hbp,<-hbq] at HA
 cases bp <;> cases bq
 case' false.false=>have hs : ¬ sp<0:=by simpa using hbp.symm
 case' true.true=>have hs:sp<0:=by simpa using hbp.symm
 case' false.true=>have hs : ¬ sp<0:=by simpa using hbp.symm
 case' true.false=>have hs:sp<0:=by simpa using hbp.symm
 case' false.false=>have hq' : ¬ sq<0:=by simpa using hbq.symm
 case' true.true=>have hq':sq<0:=by simpa using hbq.symm
 case' false.true=>have hq':sq<0:=by simpa using hbq.symm
 case' true.false=>have hq' : ¬ sq<0:=by simpa using hbq.symm
 all_goals
  have d1:=hbp.symm
  have d2:=hbq.symm
  clear hbp hbq
 case false.false=>
  have HR:Hid (res=decide (s3<0)):=by rw [HA.out];simp [hide]
  go_wp2_with fail
  refine (C3 _).mono ?_
  rintro e' w3 ⟨rfl,k⟩
  have B3:=bvia B2 k
  clear k cp fp zp cq fq zq ce fe ze P2 Q2 E2 B2
  go_wp2
  go_ret
  exact ⟨ret_bool HR.out.symm,B3⟩
 case true.true=>
  have HR:Hid (res=decide (s3<0)):=by rw [HA.out];simp [hide]
  go_wp2_with fail
  refine (C3 _).mono ?_
  rintro e' w3 ⟨rfl,k⟩
  have B3:=bvia B2 k
  clear k cp fp zp cq fq zq ce fe ze P2 Q2 E2 B2
  go_wp2
  go_ret
  exact ⟨ret_bool HR.out.symm,B3⟩
 case false.true=>
  have HR:Hid (res=false):=by rw [HA.out];simp [hide]
  go_wp2
  go_ret
  exact ⟨ret_bool (by rw [HR.out]),B2⟩
 case true.false=>
  have HR:Hid (res=true):=by rw [HA.out];simp [hide]
  go_wp2
  go_ret
  exact ⟨ret_bool (by rw [HR.out]),B2⟩
set_option maxHeartbeats 1000000 in
theorem isTurn_any (e f:Pt×Pt)(w:World)(h1:Gd e.1)(h2:Gd e.2)(h3:Gd f.2) :
  Calls Tryz.prog 94 #[sg e.1 e.2,sg f.1 f.2] w fun r w'=>r = .returned (.bool (turnB e f))/\Below w.heap.size w w':=by
 have H:=hide (show turnB e f=(detM e.1 e.2 f.2 != 0) by unfold turnB;cases h:detM e.1 e.2 f.2 != 0 <;> simp_all)
 generalize turnB e f=res at *
 go_enter Tryz.func94,Tryz.ntmps94
 go_wp2_with fail
 refine (Side_any e.1 e.2 f.2 _ h1 h2 h3).mono ?_
 rintro e' w1 ⟨rfl,k⟩
 have B1:=bvia (below2 _ _ _) k
 clear k
 go_wp2
 go_ret
 exact ⟨ret_bool H.out.symm,B1⟩
theorem cl_drop (l m:List Pt)(k:Nat)(hl:k<l.length)(hm:k<m.length):clM (l.drop k) (m.drop k)=if cmpM (l.getD k zP) (m.getD k zP)≠0 then cmpM (l.getD k zP) (m.getD k zP) else clM (l.drop (k+1)) (m.drop (k+1)):=by
 rw [List.drop_eq_getElem_cons hl,List.drop_eq_getElem_cons hm,List.getD_eq_getElem?_getD,List.getElem?_eq_getElem hl,List.getD_eq_getElem?_getD,List.getElem?_eq_getElem hm];rfl
theorem cl_end (l m:List Pt)(k:Nat)(hl:k<=l.length)(hm:k<=m.length)(h:k=l.length\/k=m.length):clM (l.drop k) (m.drop k)=(l.length:Int)-m.length:=by
 rcases h with h | h
 ·have e:l.drop k=[]:=List.drop_of_length_le (by omega)
  rw [e];unfold clM
  rw [List.length_drop];omega
 ·have e:m.drop k=[]:=List.drop_of_length_le (by omega)
  rw [e]
  have hd:=List.length_drop (i:=k) (l:=l)
  cases c:l.drop k with
  | nil=>rw [c] at hd;simp at hd;unfold clM;simp;omega
  | cons p t=>rw [c] at hd;simp at hd;unfold clM;omega
set_option maxRecDepth 100000 in
set_option maxHeartbeats 2000000 in
theorem CompareLists_any (v v':Value)(l m:List Pt)(w:World)(hl:RingAt w v l)(hm:RingAt w v' m)(gl:∀ p∈l,Gd p)(gm:∀ p∈m,Gd p) :
  Calls Tryz.prog 120 #[v,v'] w fun e w'=>e = .returned (.int .i64 (clM l m))/\Below w.heap.size w w':=by
 obtain ⟨a,cap,rfl,a1,a2,a3⟩:=hl
 obtain ⟨b,bcap,rfl,b1,b2,b3⟩:=hm
 unfold maxLen at a2 b2
 have HA:=hide a3
 have HB:=hide b3
 have GL:=hide gl
 have GM:=hide gm
 clear a3 b3 gl gm
 have hl0:(l.length:Int)<=9223372036854775807:=by omega
 have hm0:(m.length:Int)<=9223372036854775807:=by omega
 have HI:Hid (clM l m=clM (l.drop 0) (m.drop 0)):=rfl
 generalize clM l m=res at *
 go_enter Tryz.func120,Tryz.ntmps120
 go_wp2_with fail
 go_loopw [5,6,7,10] (fun _ _ _ iv w'=>∃ k:Nat,iv = .int .i64 k/\k<=l.length/\k<=m.length/\Below w.heap.size w w'/\Hid (res=clM (l.drop k) (m.drop k))) (fun _ _ _ iv _=>l.length-(intOf iv).toNat)
 case atStart=>exact ⟨0,rfl,Nat.zero_le _,Nat.zero_le _,Below.refl _ _,HI⟩
 case round=>
  clear HI
  obtain ⟨k,rfl,hk,hk2,hbel,HR⟩:=hrel
  by_cases hlt:k<l.length
  ·obtain ⟨b1',off1,rfl,hb1,hs1⟩:=HA.out k hlt
   obtain ⟨px,py,pd⟩:=hs1.later hbel hb1
   by_cases hlt2:k<m.length
   ·obtain ⟨b2',off2,rfl,hb2,hs2⟩:=HB.out k hlt2
    obtain ⟨qx,qy,qd⟩:=hs2.later (hbel.alloc hbel.size (.cells #[.int .i64 (l.getD k zP).x,.int .i64 (l.getD k zP).y,.int .i64 (l.getD k zP).d] 31)) hb2
    have C:=fun wz=>Compare_any (l.getD k zP) (m.getD k zP) wz (GL.out _ (getD_mem hlt zP)) (GM.out _ (getD_mem hlt2 zP))
    have HC:=hide (cl_drop l m k hlt hlt2)
    generalize l.getD k zP=p at *
    generalize m.getD k zP=q at *
    have hk0:(0:Int)<=(k:Int):=Int.natCast_nonneg _
    have hk1:(k:Int)<(m.length:Int):=by omega
    have hsz:=hbel.size
    obtain ⟨W1,hW1⟩:∃ W,W=wr.alloc (.cells #[.int .i64 p.x,.int .i64 p.y,.int .i64 p.d] 31):=⟨_,rfl⟩
    obtain ⟨pb,hpb⟩:∃ b,b=wr.heap.size:=⟨_,rfl⟩
    have B1:Below w.heap.size w W1:=by rw [hW1];exact hbel.alloc hbel.size _
    obtain ⟨cp,fp,zp⟩:Blk W1 pb #[.int .i64 p.x,.int .i64 p.y,.int .i64 p.d]:=by rw [hW1,hpb];exact Blk.new wr _ _
    rw [<-hW1] at qx qy qd
    clear hs1 hs2 HA HB GL GM
    go_upto_region 5 with fail
    rw [<-hW1,<-hpb]
    clear hW1 hpb px py pd
    go_cut [7] (fun ov w'=>ov = .int .i64 (cmpM p q)/\Below W1.heap.size W1 w')
    case first=>
     clear HR HC
     go_region_with (go_at_call 117;refine (C _).mono ?_;rintro e' w2 ⟨rfl,k2⟩)
     all_goals
      go_wp2_with fail
      go_meet
      case rel=>exact ⟨rfl,bvia (Below.refl _ _).drew k2⟩
    case rest=>
     obtain ⟨rfl,k2⟩:=hcut
     have B2:=bvia B1 k2
     clear cp fp zp qx qy qd B1 k2 C
     generalize cmpM p q=o at *
     by_cases ho:o=0
     ·have HE:Hid (res=clM (l.drop (k+1)) (m.drop (k+1))):=by rw [HR.out,HC.out,if_neg (by simpa using ho)];exact hide rfl
      clear HR HC
      go_wp2
      go_roundw
      case rel=>exact ⟨k+1,by go_num,by omega,by omega,B2,HE⟩
      case measure=>simp [intOf];omega
     ·have HE:Hid (res=o):=by rw [HR.out,HC.out,if_pos ho];exact hide rfl
      have ho':(o != 0)=true:=by simpa using ho
      clear HR HC
      go_wp2
      go_ret
      exact ⟨ret_int HE.out.symm,B2⟩
   ·have ek:k=m.length:=by omega
    have HE:Hid (res=(l.length:Int)-m.length):=by rw [HR.out];exact hide (cl_end l m k hk hk2 (.inr ek))
    clear hs1 HA HB GL GM HR
    have hge:(m.length:Int)<=(k:Int):=by omega
    clear ek
    go_wp2
    go_ret
    exact ⟨ret_int HE.out.symm,by first | exact hbel | exact hbel.alloc hbel.size _⟩
  ·have HE:Hid (res=(l.length:Int)-m.length):=by rw [HR.out];exact hide (cl_end l m k hk hk2 (.inl (by omega)))
   clear HA HB GL GM HR
   go_wp2
   go_ret
   exact ⟨ret_int HE.out.symm,hbel⟩
abbrev pcV (p q:Pt)(a b c d:Bool):Value:=.agg #[.int .i64 p.x,.int .i64 p.y,.int .i64 p.d,.int .i64 q.x,.int .i64 q.y,.int .i64 q.d,.bool a,.bool b,.bool c,.bool d]
def PceAt (w:World)(b o:Nat)(x:Pc):Prop:=∀ t,t<10->w.cell? ⟨b,o+t,none⟩=(pcCell x)[t]?
theorem PceAt.later {w w':World}{b o:Nat}{x:Pc}{m:Nat}(h:PceAt w b o x)(hb:Below m w w')(hl:b<m):PceAt w' b o x:=
 fun t ht=>(hb.cell (p:=⟨b,o+t,none⟩) hl).trans (h t ht)
def zPc:Pc:=⟨zP,zP,false,false,false,false⟩
def PcsAt (w:World)(v:Value)(l:List Pc):Prop:=
 ∃ (a:Option Addr) (cap:Nat),v = .slice a l.length cap/\l.length<=cap/\cap<=maxLen/\∀ j,j<l.length->∃ b off,a=some ⟨b,off,none⟩/\b<w.heap.size/\PceAt w b (off+j*10) (l.getD j zPc)
theorem PcsAt.later {w w':World}{v:Value}{l:List Pc}(h:PcsAt w v l)(hb:Below w.heap.size w w'):PcsAt w' v l:=by
 obtain ⟨a,cap,rfl,h1,h2,h3⟩:=h
 refine ⟨a,cap,rfl,h1,h2,fun j hj=>?_⟩
 obtain ⟨b,off,rfl,hl,hp⟩:=h3 j hj
 exact ⟨b,off,rfl,Nat.lt_of_lt_of_le hl hb.size,hp.later hb hl⟩
theorem pcCells_at (l:List Pc)(j t:Nat)(hj:j<l.length)(ht:t<10):(pcCells l)[j*10+t]?=(pcCell (l.getD j zPc))[t]?:=by
 induction l generalizing j with
 | nil=>simp at hj
 | cons e l ih=>
  have hc:pcCells (e::l)=pcCell e ++ pcCells l:=by simp [pcCells]
  rw [hc]
  cases j with
  | zero=>rw [List.getElem?_append_left (by simp [pcCell];omega)];simp
  | succ j=>
   rw [List.getElem?_append_right (by simp [pcCell];omega)]
   have:(j+1)*10+t-(pcCell e).length=j*10+t:=by simp [pcCell];omega
   rw [this,ih j (by simpa using hj)]
   simp
theorem pcs_of_own {w:World}{base:Nat}{v:Value}{l:List Pc}(h:w.ownsRow base 55 10 v l.length (pcCells l))(hl:l.length<=maxLen):PcsAt w v l:=by
 have h0:=h
 obtain ⟨_,h1⟩:=h
 rcases h1 with ⟨rfl,hn⟩ | ⟨g,cap,cur,rfl,hb,hh,hnc,hcap,_,_⟩
 ·exact ⟨none,0,by rw [hn],by omega,by unfold maxLen;omega,fun j hj=>by omega⟩
 ·refine ⟨some ⟨g,0,none⟩,cap,rfl,hnc,hcap,fun j hj=>⟨g,0,rfl,(h0.lt g rfl).2,fun t ht=>?_⟩⟩
  rw [Nat.zero_add]
  exact (h0.cellAt (j*10+t) (by omega)).trans (pcCells_at l j t hj ht)
abbrev Pc.v (x:Pc):Value:=pcV x.p x.q x.la x.ra x.lb x.rb
abbrev Pc.cs (x:Pc):Array Value:=#[.int .i64 x.p.x,.int .i64 x.p.y,.int .i64 x.p.d,.int .i64 x.q.x,.int .i64 x.q.y,.int .i64 x.q.d,.bool x.la,.bool x.ra,.bool x.lb,.bool x.rb]
set_option maxHeartbeats 400000 in
theorem rdet_of (a b c:Pt)(w:World)(H:Hid (wrap64 (wrap64 (wrap64 (a.x*wrap64 (wrap64 (b.y*c.d)-wrap64 (c.y*b.d)))-wrap64 (a.y*wrap64 (wrap64 (b.x*c.d)-wrap64 (c.x*b.d))))+wrap64 (a.d*wrap64 (wrap64 (b.x*c.y)-wrap64 (c.x*b.y))))=detM a b c)) :
  Calls Tryz.prog 70 #[a.v,b.v,c.v] w fun e w'=>e = .returned (.int .i64 (detM a b c))/\Below w.heap.size w w':=by
 go_enter Tryz.func70,Tryz.ntmps70
 go_wp2
 go_ret
 exact ⟨ret_int H.out,(((Below.refl _ _).alloc (Nat.le_refl _) _).alloc (by simp) _).alloc (by simp;omega) _⟩
theorem rdet_w (a b c:Pt)(w:World)(ha:Gw a)(hb:Gw b)(hc:Gw c) :
  Calls Tryz.prog 70 #[a.v,b.v,c.v] w fun e w'=>e = .returned (.int .i64 (detM a b c))/\Below w.heap.size w w':=by
 refine rdet_of a b c w ?_
 refine hide ?_
 unfold detM
 rw [wrap_in (hb.y.mul hc.d) (by decide),wrap_in (hc.y.mul hb.d) (by decide),wrap_in (hb.x.mul hc.d) (by decide),wrap_in (hc.x.mul hb.d) (by decide),wrap_in (hb.x.mul hc.y) (by decide),wrap_in (hc.x.mul hb.y) (by decide),
  wrap_in ((hb.y.mul hc.d).sub (hc.y.mul hb.d)) (by decide),wrap_in ((hb.x.mul hc.d).sub (hc.x.mul hb.d)) (by decide),wrap_in ((hb.x.mul hc.y).sub (hc.x.mul hb.y)) (by decide),
  wrap_in (ha.x.mul ((hb.y.mul hc.d).sub (hc.y.mul hb.d))) (by decide),wrap_in (ha.y.mul ((hb.x.mul hc.d).sub (hc.x.mul hb.d))) (by decide),wrap_in (ha.d.mul ((hb.x.mul hc.y).sub (hc.x.mul hb.y))) (by decide),
  wrap_in ((ha.x.mul ((hb.y.mul hc.d).sub (hc.y.mul hb.d))).sub (ha.y.mul ((hb.x.mul hc.d).sub (hc.x.mul hb.d)))) (by decide),
  wrap_in (((ha.x.mul ((hb.y.mul hc.d).sub (hc.y.mul hb.d))).sub (ha.y.mul ((hb.x.mul hc.d).sub (hc.x.mul hb.d)))).add (ha.d.mul ((hb.x.mul hc.y).sub (hc.x.mul hb.y)))) (by decide)]
set_option maxHeartbeats 400000 in
theorem rapart_any (m n:Int)(w:World) :
  Calls Tryz.prog 108 #[.int .i64 m,.int .i64 n] w fun e w'=>e = .returned (.bool (apartB m n))/\w'=w:=by
 unfold apartB
 rcases Int.lt_trichotomy m 0 with h | h | h
 all_goals rcases Int.lt_trichotomy n 0 with k | k | k
 all_goals
  go_enter Tryz.func108,Tryz.ntmps108
  go_wp2
  go_ret
  exact ⟨ret_bool (by simp <;> omega),rfl⟩
set_option maxHeartbeats 1000000 in
theorem ron_any (p a b:Pt)(w:World)(hp:Gd p)(ha:Gd a)(hb:Gd b) :
  Calls Tryz.prog 82 #[p.v,sg a b] w fun e w'=>e = .returned (.bool (onB p a b))/\Below w.heap.size w w':=by
 go_enter Tryz.func82,Tryz.ntmps82
 go_wp2_with fail
 refine (rdet_any a b p _ ha hb hp).mono ?_
 rintro e w1 ⟨rfl,k⟩
 have B1:=bvia (((Below.refl _ _).alloc (Nat.le_refl _) _).alloc (by simp) _) k
 obtain ⟨cp1,fp1,zp1⟩:=((Blk.new w _ _).alloc _).call k
 obtain ⟨ce1,fe1,ze1⟩:=(Blk.at (w.heap.size+1) (by simp)).call k
 clear k
 go_wp2_with fail
 refine (rwithin_any p a b _ hp ha hb).mono ?_
 rintro e w2 ⟨rfl,k⟩
 have B2:=bvia B1 k
 clear k cp1 fp1 ce1 fe1 B1
 have hd:onB p a b=(decide (detM a b p=0) && withB p a b):=rfl
 have HD:=hide hd
 clear hd
 generalize withB p a b=wi at *
 by_cases h:detM a b p=0
 ·go_wp2
  all_goals
   go_ret
   exact ⟨ret_bool (by rw [HD.out];simp [h]),B2⟩
 ·go_wp2
  all_goals
   go_ret
   exact ⟨ret_bool (by rw [HD.out];simp [h]),B2⟩
def DetOk (a b c:Pt):Prop:=∀ w,Calls Tryz.prog 70 #[a.v,b.v,c.v] w fun e w'=>e = .returned (.int .i64 (detM a b c))/\Below w.heap.size w w'
set_option maxRecDepth 100000 in
set_option maxHeartbeats 4000000 in
theorem rfar_any (q:Pt)(v:Value)(l:List Pt)(ea eb:Pt)(w:World)(hl:RingAt w v l)(hn:l.length<=2000000)
  (h4:∀ k,k<=l.length+1->∀ p∈l,DetOk (outP k) q p) (h5:∀ k,k<=l.length+1->DetOk ea eb (outP k)) :
  Calls Tryz.prog 83 #[q.v,v,sg ea eb] w fun e w'=>e = .returned (farM q l ea eb).v/\Below w.heap.size w w':=by
 obtain ⟨a,cap,rfl,h1,h2,h3⟩:=hl
 unfold maxLen at h2
 have hln:(l.length:Int)<=2000000:=by omega
 have H3:=hide h3
 have H4:=hide h4
 have H5:=hide h5
 have HF:=hide (show farM q l ea eb=farL (freeB q l ea eb) (l.length+2-0) 0 from rfl)
 have HFr:=hide (show ∀ k,freeB q l ea eb k=(l.all (fun v=>decide (detM (outP k) q v≠0)) && decide (detM ea eb (outP k)≠0)) from fun k=>rfl)
 clear h3 h4 h5
 generalize farM q l ea eb=fm at *
 generalize freeB q l ea eb=fr at *
 go_enter Tryz.func83,Tryz.ntmps83
 go_wp2_with fail
 go_loopw [7,8,9,10,11,12] (fun kv _ _ _ _ _ w'=>∃ k:Nat,kv = .int .i64 k/\k<=l.length+2/\Blk w' w.heap.size #[.int .i64 q.x,.int .i64 q.y,.int .i64 q.d]/\Blk w' (w.heap.size+1) #[.int .i64 ea.x,.int .i64 ea.y,.int .i64 ea.d,.int .i64 eb.x,.int .i64 eb.y,.int .i64 eb.d]/\Blk w' (w.heap.size+1+1) #[.int .i64 0,.int .i64 0,.int .i64 0]/\Below w.heap.size w w'/\Hid (fm=farL fr (l.length+2-k) k)) (fun kv _ _ _ _ _ _=>l.length+2-(intOf kv).toNat)
 case atStart=>exact ⟨0,rfl,Nat.zero_le _,((Blk.new w _ _).alloc _).alloc _,(Blk.at (w.heap.size+1) (by simp)).alloc _,Blk.at (w.heap.size+1+1) (by simp),below3 _ _ _ _,HF⟩
 case round=>
  obtain ⟨k,rfl,hk,⟨cq,fq,zq⟩,⟨ce,fe,ze⟩,⟨cr,frz,zr⟩,hbel,HB⟩:=hrel
  by_cases hlt:k<l.length+2
  ·have HC:=hide (farL_step fr (l.length+2) k hlt)
   have hki:(k:Int)<=(l.length:Int)+1:=by omega
   have hkb:(k:Int)<=2000001:=by omega
   have hk0:(0:Int)<=(k:Int):=Int.natCast_nonneg _
   have D5:=H5.out k (by omega)
   have H4k:=hide (H4.out k (by omega))
   have HFk:=hide (HFr.out k)
   clear HF H4 H5 HFr
   go_upto_block 2 with fail
   have hwo:wr.heap.size<(wr.alloc (.cells #[.int .i64 (-65),.int .i64 k,.int .i64 1] 31)).heap.size:=by simp
   have hwo1:=hbel.size
   have P0:∃ wo,wo=wr.heap.size:=⟨_,rfl⟩
   obtain ⟨wo,hwoe⟩:=P0
   have K1:=((Blk.mk cq fq zq).alloc (.cells #[.int .i64 (-65),.int .i64 k,.int .i64 1] 31))
   have K2:=((Blk.mk ce fe ze).alloc (.cells #[.int .i64 (-65),.int .i64 k,.int .i64 1] 31))
   have K3:=((Blk.mk cr frz zr).alloc (.cells #[.int .i64 (-65),.int .i64 k,.int .i64 1] 31))
   have K4:=Blk.new wr #[.int .i64 (-65),.int .i64 k,.int .i64 1] 31
   have K5:=hbel.alloc hbel.size (.cells #[.int .i64 (-65),.int .i64 k,.int .i64 1] 31)
   rw [<-hwoe] at K4 hwo hwo1 ⊢
   clear cq fq zq ce fe ze cr frz zr hbel hwoe
   go_cut [8,9,10,11] (fun po fv _ _ w'=>po = .pointer (some ⟨wo,0,none⟩)/\fv = .bool (l.all (fun v=>decide (detM (outP k) q v≠0)))/\Blk w' w.heap.size #[.int .i64 q.x,.int .i64 q.y,.int .i64 q.d]/\Blk w' (w.heap.size+1) #[.int .i64 ea.x,.int .i64 ea.y,.int .i64 ea.d,.int .i64 eb.x,.int .i64 eb.y,.int .i64 eb.d]/\Blk w' (w.heap.size+1+1) #[.int .i64 0,.int .i64 0,.int .i64 0]/\Blk w' wo #[.int .i64 (-65),.int .i64 k,.int .i64 1]/\Below w.heap.size w w')
   case first=>
    clear D5 HB HC HFk
    go_wp2_with fail
    go_loopw [9,10,11] (fun fv iv _ w'=>∃ i:Nat,iv = .int .i64 i/\i<=l.length/\fv = .bool ((l.take i).all (fun v=>decide (detM (outP k) q v≠0)))/\Blk w' w.heap.size #[.int .i64 q.x,.int .i64 q.y,.int .i64 q.d]/\Blk w' (w.heap.size+1) #[.int .i64 ea.x,.int .i64 ea.y,.int .i64 ea.d,.int .i64 eb.x,.int .i64 eb.y,.int .i64 eb.d]/\Blk w' (w.heap.size+1+1) #[.int .i64 0,.int .i64 0,.int .i64 0]/\Blk w' wo #[.int .i64 (-65),.int .i64 k,.int .i64 1]/\Below w.heap.size w w') (fun _ iv _ _=>l.length-(intOf iv).toNat)
    case atStart=>exact ⟨0,rfl,Nat.zero_le _,rfl,K1,K2,K3,K4,K5⟩
    case round=>
     obtain ⟨i,rfl,hi,rfl,⟨cq,fq,zq⟩,K2',K3',⟨co,fo,zo⟩,hbel⟩:=hrel
     by_cases hit:i<l.length
     ·obtain ⟨b,off,rfl,hb,hp⟩:=H3.out i hit
      obtain ⟨px,py,pd⟩:=hp.later hbel hb
      have HA:=hide (all_take (fun v=>decide (detM (outP k) q v≠0)) l i hit zP)
      have D4:=H4k.out _ (getD_mem hit zP)
      generalize l.getD i zP=p at *
      obtain ⟨dv,hdv⟩:∃ dv,detM (outP k) q p=dv:=⟨_,rfl⟩
      have D6:∀ wz,Calls Tryz.prog 70 #[(outP k).v,q.v,p.v] wz fun e w'=>e = .returned (.int .i64 (detM (outP k) q p))/\Below wz.heap.size wz w':=D4
      rw [hdv] at D6
      have HD:Hid ((l.take (i+1)).all (fun v=>decide (detM (outP k) q v≠0))=((l.take i).all (fun v=>decide (detM (outP k) q v≠0)) && decide (dv≠0))):=by rw [<-hdv];exact HA
      clear hdv D4 HA hp
      generalize (l.take i).all (fun v=>decide (detM (outP k) q v≠0))=al at *
      have hi0:(0:Int)<=(i:Int):=Int.natCast_nonneg _
      have hi1:(i:Int)<(l.length:Int):=by omega
      go_upto_region 9 with fail
      go_cut [11] (fun nv w'=>nv = .int .i64 dv/\Blk w' w.heap.size #[.int .i64 q.x,.int .i64 q.y,.int .i64 q.d]/\Blk w' (w.heap.size+1) #[.int .i64 ea.x,.int .i64 ea.y,.int .i64 ea.d,.int .i64 eb.x,.int .i64 eb.y,.int .i64 eb.d]/\Blk w' (w.heap.size+1+1) #[.int .i64 0,.int .i64 0,.int .i64 0]/\Blk w' wo #[.int .i64 (-65),.int .i64 k,.int .i64 1]/\Below w.heap.size w w')
      case first=>
       go_region_with (go_at_call 70;refine (D6 _).mono ?_;rintro e' w1 ⟨rfl,k1⟩)
       all_goals
        go_wp2_with fail
        go_meet
        case rel=>exact ⟨rfl,(Blk.mk cq fq zq).drew.call k1,K2'.drew.call k1,K3'.drew.call k1,(Blk.mk co fo zo).drew.call k1,bvia hbel.drew k1⟩
      case rest=>
       clear cq fq zq co fo zo hbel px py pd K2' K3' D6
       obtain ⟨rfl,L1,L2,L3,L4,B1⟩:=hcut
       cases al
       ·have HE:Hid ((l.take (i+1)).all (fun v=>decide (detM (outP k) q v≠0))=false):=HD.out.trans rfl
        clear HD
        go_wp2
        go_roundw
        case rel=>exact ⟨i+1,by go_num,by omega,by rw [HE.out],L1,L2,L3,L4,B1⟩
        case measure=>simp [intOf];omega
       ·have HE:Hid ((l.take (i+1)).all (fun v=>decide (detM (outP k) q v≠0))=(dv != 0)):=HD.out.trans (by rw [Bool.true_and];by_cases h:dv=0 <;> simp [h])
        clear HD
        go_wp2
        go_roundw
        case rel=>exact ⟨i+1,by go_num,by omega,by rw [HE.out],L1,L2,L3,L4,B1⟩
        case measure=>simp [intOf];omega
     ·have HE:Hid (l.take i=l):=List.take_of_length_le (by omega)
      have hi1 : ¬ (i:Int)<(l.length:Int):=by omega
      go_wp2
      go_meet
      case rel=>exact ⟨rfl,by rw [HE.out];simp,Blk.mk cq fq zq,K2',K3',Blk.mk co fo zo,hbel⟩
   case rest=>
    obtain ⟨rfl,rfl,⟨cq,fq,zq⟩,⟨ce,fe,ze⟩,⟨cr,frz,zr⟩,⟨co,fo,zo⟩,hbel⟩:=hcut
    generalize l.all (fun v=>decide (detM (outP k) q v≠0))=al at *
    obtain ⟨dv,hdv⟩:∃ dv,detM ea eb (outP k)=dv:=⟨_,rfl⟩
    have D6:Calls Tryz.prog 70 #[ea.v,eb.v,(outP k).v] wc fun e w'=>e = .returned (.int .i64 (detM ea eb (outP k)))/\Below wc.heap.size wc w':=D5 wc
    rw [hdv] at D6 HFk
    clear hdv D5
    go_wp2_with fail
    refine D6.mono ?_
    rintro e w1 ⟨rfl,k1⟩
    have B1:=bvia hbel k1
    have L1:=(Blk.mk cq fq zq).call k1
    have L2:=(Blk.mk ce fe ze).call k1
    have L3:=(Blk.mk cr frz zr).call k1
    obtain ⟨co1,fo1,zo1⟩:=(Blk.mk co fo zo).call k1
    obtain ⟨cr1,fr1,zr1⟩:=L3
    clear k1 cq fq zq ce fe ze cr frz zr co fo hbel
    cases al
    ·have HE:Hid (fm=farL fr (l.length+2-(k+1)) (k+1)):=HB.out.trans (HC.out.trans (if_neg (by rw [HFk.out];simp)))
     clear HB HC HFk
     go_wp2
     go_roundw
     case rel=>exact ⟨k+1,by go_num,by omega,L1,L2,Blk.mk cr1 fr1 zr1,B1,HE⟩
     case measure=>simp [intOf];omega
    ·by_cases hd:dv=0
     ·have HE:Hid (fm=farL fr (l.length+2-(k+1)) (k+1)):=HB.out.trans (HC.out.trans (if_neg (by rw [HFk.out];simp [hd])))
      have hb:(dv != 0)=false:=by simpa using hd
      clear HB HC HFk
      go_wp2
      go_roundw
      case rel=>exact ⟨k+1,by go_num,by omega,L1,L2,Blk.mk cr1 fr1 zr1,B1,HE⟩
      case measure=>simp [intOf];omega
     ·have HE:Hid (fm=outP k):=HB.out.trans (HC.out.trans (if_pos (by rw [HFk.out];simp [hd])))
      have hb:(dv != 0)=true:=by simpa using hd
      clear HB HC HFk
      go_wp2
      exact bodyPost_ret (v:=Pt.v ⟨-65,k,1⟩) (by simp [results,Tryz.results83,go_sem,cr1,fr1]) rfl ⟨by rw [HE.out];rfl,below_set3 (o:=0) B1 (by omega)⟩
  ·have HE:Hid (fm=outP 0):=by rw [HB.out,show l.length+2-k=0 by omega];exact hide rfl
   have hki : ¬ (k:Int)<=(l.length:Int)+1:=by omega
   go_wp2
   exact bodyPost_ret (v:=Pt.v ⟨-65,0,1⟩) (by simp [results,Tryz.results83,go_sem,cr,frz]) rfl ⟨by rw [HE.out];rfl,below_set3 (o:=0) hbel (by omega)⟩
set_option maxRecDepth 100000 in
set_option maxHeartbeats 4000000 in
theorem rcrossed_any (o q:Pt)(v:Value)(E:List (Pt×Pt))(w:World)(hE:SegsAt w v E)
  (hD:∀ e∈E,DetOk o q e.1/\DetOk o q e.2/\DetOk e.1 e.2 o/\DetOk e.1 e.2 q) :
  Calls Tryz.prog 84 #[o.v,q.v,v] w fun e w'=>e = .returned (.int .i64 (nCross o q E))/\Below w.heap.size w w':=by
 obtain ⟨a,cap,rfl,h1,h2,h3⟩:=hE
 unfold maxLen at h2
 have H3:=hide h3
 have HD:=hide hD
 clear h3 hD
 go_enter Tryz.func84,Tryz.ntmps84
 go_wp2_with fail
 go_loopw [7,8,9,10,11,12,13,14,15] (fun cv iv _ _ _ _ _ _ _ w'=>∃ i:Nat,iv = .int .i64 i/\i<=E.length/\cv = .int .i64 (nCross o q (E.take i))/\Blk w' w.heap.size #[.int .i64 o.x,.int .i64 o.y,.int .i64 o.d]/\Blk w' (w.heap.size+1) #[.int .i64 q.x,.int .i64 q.y,.int .i64 q.d]/\Below w.heap.size w w') (fun _ iv _ _ _ _ _ _ _ _=>E.length-(intOf iv).toNat)
 case atStart=>exact ⟨0,rfl,Nat.zero_le _,rfl,(Blk.new w _ _).alloc _,Blk.at (w.heap.size+1) (by simp),below2 _ _ _⟩
 case round=>
  obtain ⟨i,rfl,hi,rfl,⟨co,fo,zo⟩,⟨cq,fq,zq⟩,hbel⟩:=hrel
  by_cases hlt:i<E.length
  ·obtain ⟨b,off,rfl,hb,hs⟩:=H3.out i hlt
   obtain ⟨c0,c1,c2,c3,c4,c5⟩:=hs.later hbel hb
   have hm:E.getD i (zP,zP)∈E:=getD_mem hlt _
   obtain ⟨D1,D2,D3,D4⟩:=HD.out _ hm
   have HN:=hide (nCross_take o q E i hlt)
   have hle:nCross o q (E.take i)<=i:=Nat.le_trans (nCross_le ..) (by simp;omega)
   have HX:=hide (show crossB o q (E.getD i (zP,zP)).1 (E.getD i (zP,zP)).2=_ from rfl)
   generalize E.getD i (zP,zP)=e at *
   have hc0:(0:Int)<=(nCross o q (E.take i):Int):=Int.natCast_nonneg _
   have hcl:(nCross o q (E.take i):Int)<=9223372036854775806:=by omega
   generalize nCross o q (E.take i)=nc at *
   have HX:Hid (crossB o q e.1 e.2=(apartB (detM o q e.1) (detM o q e.2) && apartB (detM e.1 e.2 o) (detM e.1 e.2 q))):=hide rfl
   clear hs hm
   go_wp2_with fail
   refine (D1 _).mono ?_
   rintro e' w1 ⟨rfl,k1⟩
   have B1:=bvia (hbel.alloc hbel.size _) k1
   obtain ⟨co1,fo1,zo1⟩:=((Blk.mk co fo zo).alloc _).call k1
   obtain ⟨cq1,fq1,zq1⟩:=((Blk.mk cq fq zq).alloc _).call k1
   obtain ⟨ce1,fe1,ze1⟩:=(Blk.new wr _ _).call k1
   clear k1 c0 c1 c2 c3 c4 c5 co fo zo cq fq zq hbel
   go_wp2_with fail
   refine (D2 _).mono ?_
   rintro e' w2 ⟨rfl,k1⟩
   have B2:=bvia B1 k1
   obtain ⟨co2,fo2,zo2⟩:=(Blk.mk co1 fo1 zo1).call k1
   obtain ⟨cq2,fq2,zq2⟩:=(Blk.mk cq1 fq1 zq1).call k1
   obtain ⟨ce2,fe2,ze2⟩:=(Blk.mk ce1 fe1 ze1).call k1
   clear k1 co1 fo1 zo1 cq1 fq1 zq1 ce1 fe1 ze1 B1
   go_wp2_with fail
   refine (D3 _).mono ?_
   rintro e' w3 ⟨rfl,k1⟩
   have B3:=bvia B2 k1
   obtain ⟨co3,fo3,zo3⟩:=(Blk.mk co2 fo2 zo2).call k1
   obtain ⟨cq3,fq3,zq3⟩:=(Blk.mk cq2 fq2 zq2).call k1
   obtain ⟨ce3,fe3,ze3⟩:=(Blk.mk ce2 fe2 ze2).call k1
   clear k1 co2 fo2 zo2 cq2 fq2 zq2 ce2 fe2 ze2 B2
   go_wp2_with fail
   refine (D4 _).mono ?_
   rintro e' w4 ⟨rfl,k1⟩
   have B4:=bvia B3 k1
   have Lo:=(Blk.mk co3 fo3 zo3).call k1
   have Lq:=(Blk.mk cq3 fq3 zq3).call k1
   clear k1 co3 fo3 zo3 cq3 fq3 zq3 ce3 fe3 ze3 B3
   clear D1 D2 D3 D4
   generalize detM o q e.1=m1 at *
   generalize detM o q e.2=m2 at *
   generalize detM e.1 e.2 o=m3 at *
   generalize detM e.1 e.2 q=m4 at *
   go_wp2_with fail
   refine (rapart_any m1 m2 _).mono ?_
   rintro e' w5 ⟨rfl,hw⟩
   obtain rfl:=hw.symm
   go_wp2_with fail
   refine (rapart_any m3 m4 _).mono ?_
   rintro e' w6 ⟨rfl,hw⟩
   obtain rfl:=hw.symm
   generalize apartB m1 m2=x1 at *
   generalize apartB m3 m4=x2 at *
   cases x1
   ·have HE:Hid (nCross o q (E.take (i+1))=nc):=HN.out.trans (by rw [HX.out];rfl)
    go_wp2
    go_roundw
    case rel=>exact ⟨i+1,by go_num,by omega,by rw [HE.out],Lo,Lq,B4⟩
    case measure=>simp [intOf];omega
   ·cases x2
    ·have HE:Hid (nCross o q (E.take (i+1))=nc):=HN.out.trans (by rw [HX.out];rfl)
     go_wp2
     go_roundw
     case rel=>exact ⟨i+1,by go_num,by omega,by rw [HE.out],Lo,Lq,B4⟩
     case measure=>simp [intOf];omega
    ·have HE:Hid (nCross o q (E.take (i+1))=nc+1):=HN.out.trans (by rw [HX.out];rfl)
     go_wp2
     go_roundw
     case rel=>exact ⟨i+1,by go_num,by omega,by rw [HE.out];go_num,Lo,Lq,B4⟩
     case measure=>simp [intOf];omega
  ·have HE:Hid (E.take i=E):=List.take_of_length_le (by omega)
   go_wp2
   go_ret
   exact ⟨ret_int (by rw [HE.out]),hbel⟩
end Go.Proofs.YtnkcbephceollabGreat
