import Derived.Test.YtnkcbephceollabGreatU4
namespace Go.Proofs.YtnkcbephceollabGreat
open Go.RowKit
set_option linter.unusedSimpArgs false
set_option linter.unusedVariables false
theorem mix_eq (a b W S:Int):a*W+(b-a)*S=a*(W-S)+b*S:=by grind
theorem mix_in {a b W S:Int}(ha:In a 64)(hb:In b 64)(h0:0<=S)(h1:S<=W)(h2:W<=32768):In (a*W+(b-a)*S) 2097152:=by
 rw [mix_eq]
 have i1:=Int.mul_le_mul_of_nonneg_right ha.hi (show 0<=W-S by omega)
 have i2:=Int.mul_le_mul_of_nonneg_right ha.lo (show 0<=W-S by omega)
 have i3:=Int.mul_le_mul_of_nonneg_right hb.hi h0
 have i4:=Int.mul_le_mul_of_nonneg_right hb.lo h0
 unfold In;omega
theorem across_neg_bad {a b c d:Pt}{W S T:Int}(hW:crossM (b.x-a.x) (b.y-a.y) (d.x-c.x) (d.y-c.y)=W)(hS:crossM (c.x-a.x) (c.y-a.y) (d.x-c.x) (d.y-c.y)=S)(hT:crossM (c.x-a.x) (c.y-a.y) (b.x-a.x) (b.y-a.y)=T)
  (h:W<0) (g:0<S\/S<W\/0<T\/T<W):acrossM a b c d=zM:=by
 unfold acrossM;simp only [hW,hS,hT,if_pos h];rw [if_pos (by omega)]
theorem across_neg {a b c d:Pt}{W S T:Int}(hW:crossM (b.x-a.x) (b.y-a.y) (d.x-c.x) (d.y-c.y)=W)(hS:crossM (c.x-a.x) (c.y-a.y) (d.x-c.x) (d.y-c.y)=S)(hT:crossM (c.x-a.x) (c.y-a.y) (b.x-a.x) (b.y-a.y)=T)
  (h:W<0) (g : ¬ (0<S\/S<W\/0<T\/T<W)):acrossM a b c d=⟨1,leastM ⟨a.x * -W+(b.x-a.x) * -S,a.y * -W+(b.y-a.y) * -S,-W⟩,zP⟩:=by
 unfold acrossM;simp only [hW,hS,hT,if_pos h];rw [if_neg (by omega)]
theorem across_pos_bad {a b c d:Pt}{W S T:Int}(hW:crossM (b.x-a.x) (b.y-a.y) (d.x-c.x) (d.y-c.y)=W)(hS:crossM (c.x-a.x) (c.y-a.y) (d.x-c.x) (d.y-c.y)=S)(hT:crossM (c.x-a.x) (c.y-a.y) (b.x-a.x) (b.y-a.y)=T)
  (h : ¬ W<0) (g:S<0\/W<S\/T<0\/W<T):acrossM a b c d=zM:=by
 unfold acrossM;simp only [hW,hS,hT,if_neg h];rw [if_pos (by omega)]
theorem across_pos {a b c d:Pt}{W S T:Int}(hW:crossM (b.x-a.x) (b.y-a.y) (d.x-c.x) (d.y-c.y)=W)(hS:crossM (c.x-a.x) (c.y-a.y) (d.x-c.x) (d.y-c.y)=S)(hT:crossM (c.x-a.x) (c.y-a.y) (b.x-a.x) (b.y-a.y)=T)
  (h : ¬ W<0) (g : ¬ (S<0\/W<S\/T<0\/W<T)):acrossM a b c d=⟨1,leastM ⟨a.x*W+(b.x-a.x)*S,a.y*W+(b.y-a.y)*S,W⟩,zP⟩:=by
 unfold acrossM;simp only [hW,hS,hT,if_neg h];rw [if_neg (by omega)]
set_option maxHeartbeats 1000000 in
theorem meetAcross_neg_bad (a b c d:Pt)(w:World)(ha:Gr a)(hb:Gr b)(hc:Gr c)(hd:Gr d){W S T:Int}(hW:crossM (b.x-a.x) (b.y-a.y) (d.x-c.x) (d.y-c.y)=W)(hS:crossM (c.x-a.x) (c.y-a.y) (d.x-c.x) (d.y-c.y)=S)(hT:crossM (c.x-a.x) (c.y-a.y) (b.x-a.x) (b.y-a.y)=T)
  (h:W<0) (g:0<S\/S<W\/0<T\/T<W) :
  Calls Tryz.prog 66 #[sg a b,sg c d] w fun e w'=>e = .returned (acrossM a b c d).v/\Below w.heap.size w w':=by
 obtain ⟨l1,u1⟩:=cross_in (way128 ha.x hb.x) (way128 ha.y hb.y) (way128 hc.x hd.x) (way128 hc.y hd.y)
 obtain ⟨l2,u2⟩:=cross_in (way128 ha.x hc.x) (way128 ha.y hc.y) (way128 hc.x hd.x) (way128 hc.y hd.y)
 obtain ⟨l3,u3⟩:=cross_in (way128 ha.x hc.x) (way128 ha.y hc.y) (way128 ha.x hb.x) (way128 ha.y hb.y)
 have H:Hid (acrossM a b c d=zM):=across_neg_bad hW hS hT h g
 rw [hW] at l1 u1;rw [hS] at l2 u2;rw [hT] at l3 u3
 have HW:Hid (crossM (b.x-a.x) (b.y-a.y) (d.x-c.x) (d.y-c.y)=W):=hW
 have HS:Hid (crossM (c.x-a.x) (c.y-a.y) (d.x-c.x) (d.y-c.y)=S):=hS
 have HT:Hid (crossM (c.x-a.x) (c.y-a.y) (b.x-a.x) (b.y-a.y)=T):=hT
 clear hW hS hT
 go_enter Tryz.func66,Tryz.ntmps66
 go_wp2_with fail
 refine (wayFrom_any a b _ ha.gd hb.gd).mono ?_
 rintro e w1 ⟨rfl,k⟩
 have B1:=bvia (below3 _ _ _ _) k
 obtain ⟨cs1,fs1,zs1⟩:=(((Blk.new w _ _).alloc _).alloc _).call k
 obtain ⟨ct1,ft1,zt1⟩:=((Blk.at (w.heap.size+1) (by simp)).alloc _).call k
 obtain ⟨cr1,fr1,zr1⟩:=(Blk.at (w.heap.size+1+1) (by simp)).call k
 clear k
 go_wp2_with fail
 refine (wayFrom_any c d _ hc.gd hd.gd).mono ?_
 rintro e w2 ⟨rfl,k⟩
 have B2:=bvia (B1.alloc B1.size _) k
 obtain ⟨cs2,fs2,zs2⟩:=((Blk.mk cs1 fs1 zs1).alloc _).call k
 obtain ⟨ct2,ft2,zt2⟩:=((Blk.mk ct1 ft1 zt1).alloc _).call k
 obtain ⟨cr2,fr2,zr2⟩:=((Blk.mk cr1 fr1 zr1).alloc _).call k
 obtain ⟨cp2,fp2,zp2⟩:=(Blk.new w1 _ _).call k
 clear k cs1 fs1 ct1 ft1 cr1 fr1 B1
 go_wp2_with fail
 refine (wayFrom_any a c _ ha.gd hc.gd).mono ?_
 rintro e w3 ⟨rfl,k⟩
 have B3:=bvia (B2.alloc B2.size _) k
 obtain ⟨cs3,fs3,zs3⟩:=((Blk.mk cs2 fs2 zs2).alloc _).call k
 obtain ⟨ct3,ft3,zt3⟩:=((Blk.mk ct2 ft2 zt2).alloc _).call k
 obtain ⟨cr3,fr3,zr3⟩:=((Blk.mk cr2 fr2 zr2).alloc _).call k
 obtain ⟨cp3,fp3,zp3⟩:=((Blk.mk cp2 fp2 zp2).alloc _).call k
 obtain ⟨cq3,fq3,zq3⟩:=(Blk.new w2 _ _).call k
 clear k cs2 fs2 ct2 ft2 cr2 fr2 cp2 fp2 B2
 go_wp2_with fail
 refine (cross_any _ _ _ _ _ (gr_way ha.x hb.x) (gr_way ha.y hb.y) (gr_way hc.x hd.x) (gr_way hc.y hd.y)).mono ?_
 rintro e w4 ⟨rfl,k⟩
 have B4:=bvia (B3.alloc B3.size _) k
 obtain ⟨cs4,fs4,zs4⟩:=((Blk.mk cs3 fs3 zs3).alloc _).call k
 obtain ⟨ct4,ft4,zt4⟩:=((Blk.mk ct3 ft3 zt3).alloc _).call k
 obtain ⟨cr4,fr4,zr4⟩:=((Blk.mk cr3 fr3 zr3).alloc _).call k
 obtain ⟨cp4,fp4,zp4⟩:=((Blk.mk cp3 fp3 zp3).alloc _).call k
 obtain ⟨cq4,fq4,zq4⟩:=((Blk.mk cq3 fq3 zq3).alloc _).call k
 obtain ⟨cu4,fu4,zu4⟩:=(Blk.new w3 _ _).call k
 clear k cs3 fs3 ct3 ft3 cr3 fr3 cp3 fp3 cq3 fq3 B3
 rw [HW.out]
 go_wp2_with fail
 refine (cross_any _ _ _ _ _ (gr_way ha.x hc.x) (gr_way ha.y hc.y) (gr_way hc.x hd.x) (gr_way hc.y hd.y)).mono ?_
 rintro e w5 ⟨rfl,k⟩
 have B5:=bvia B4 k
 obtain ⟨cs5,fs5,zs5⟩:=(Blk.mk cs4 fs4 zs4).call k
 obtain ⟨ct5,ft5,zt5⟩:=(Blk.mk ct4 ft4 zt4).call k
 obtain ⟨cr5,fr5,zr5⟩:=(Blk.mk cr4 fr4 zr4).call k
 obtain ⟨cp5,fp5,zp5⟩:=(Blk.mk cp4 fp4 zp4).call k
 obtain ⟨cq5,fq5,zq5⟩:=(Blk.mk cq4 fq4 zq4).call k
 obtain ⟨cu5,fu5,zu5⟩:=(Blk.mk cu4 fu4 zu4).call k
 clear k cs4 fs4 ct4 ft4 cr4 fr4 cp4 fp4 cq4 fq4 cu4 fu4 B4
 rw [HS.out]
 go_wp2_with fail
 refine (cross_any _ _ _ _ _ (gr_way ha.x hc.x) (gr_way ha.y hc.y) (gr_way ha.x hb.x) (gr_way ha.y hb.y)).mono ?_
 rintro e w6 ⟨rfl,k⟩
 have B6:=bvia B5 k
 obtain ⟨cs6,fs6,zs6⟩:=(Blk.mk cs5 fs5 zs5).call k
 obtain ⟨ct6,ft6,zt6⟩:=(Blk.mk ct5 ft5 zt5).call k
 obtain ⟨cr6,fr6,zr6⟩:=(Blk.mk cr5 fr5 zr5).call k
 obtain ⟨cp6,fp6,zp6⟩:=(Blk.mk cp5 fp5 zp5).call k
 obtain ⟨cq6,fq6,zq6⟩:=(Blk.mk cq5 fq5 zq5).call k
 obtain ⟨cu6,fu6,zu6⟩:=(Blk.mk cu5 fu5 zu5).call k
 clear k cs5 fs5 ct5 ft5 cr5 fr5 cp5 fp5 cq5 fq5 cu5 fu5 B5
 rw [HT.out]
 go_wp2
 all_goals exact bodyPost_ret (v:=zM.v) (by simp [results,Tryz.results66,go_sem,cr6,fr6,zM,zP]) rfl ⟨by rw [H.out],below_set7 B6 (by omega)⟩
set_option maxHeartbeats 1000000 in
theorem meetAcross_neg (a b c d:Pt)(w:World)(ha:Gr a)(hb:Gr b)(hc:Gr c)(hd:Gr d){W S T:Int}(hW:crossM (b.x-a.x) (b.y-a.y) (d.x-c.x) (d.y-c.y)=W)(hS:crossM (c.x-a.x) (c.y-a.y) (d.x-c.x) (d.y-c.y)=S)(hT:crossM (c.x-a.x) (c.y-a.y) (b.x-a.x) (b.y-a.y)=T)
  (h:W<0) (g : ¬ (0<S\/S<W\/0<T\/T<W)) :
  Calls Tryz.prog 66 #[sg a b,sg c d] w fun e w'=>e = .returned (acrossM a b c d).v/\Below w.heap.size w w':=by
 obtain ⟨l1,u1⟩:=cross_in (way128 ha.x hb.x) (way128 ha.y hb.y) (way128 hc.x hd.x) (way128 hc.y hd.y)
 obtain ⟨l2,u2⟩:=cross_in (way128 ha.x hc.x) (way128 ha.y hc.y) (way128 hc.x hd.x) (way128 hc.y hd.y)
 obtain ⟨l3,u3⟩:=cross_in (way128 ha.x hc.x) (way128 ha.y hc.y) (way128 ha.x hb.x) (way128 ha.y hb.y)
 have H:Hid (acrossM a b c d=⟨1,leastM ⟨a.x * -W+(b.x-a.x) * -S,a.y * -W+(b.y-a.y) * -S,-W⟩,zP⟩):=across_neg hW hS hT h g
 rw [hW] at l1 u1;rw [hS] at l2 u2;rw [hT] at l3 u3
 have HW:Hid (crossM (b.x-a.x) (b.y-a.y) (d.x-c.x) (d.y-c.y)=W):=hW
 have HS:Hid (crossM (c.x-a.x) (c.y-a.y) (d.x-c.x) (d.y-c.y)=S):=hS
 have HT:Hid (crossM (c.x-a.x) (c.y-a.y) (b.x-a.x) (b.y-a.y)=T):=hT
 clear hW hS hT
 obtain ⟨m0,n0⟩:=(ha.x).mul ((In.mk l1 u1).neg)
 obtain ⟨m1,n1⟩:=((way128 ha.x hb.x)).mul ((In.mk l2 u2).neg)
 obtain ⟨m2,n2⟩:=(ha.y).mul ((In.mk l1 u1).neg)
 obtain ⟨m3,n3⟩:=((way128 ha.y hb.y)).mul ((In.mk l2 u2).neg)
 have gd:Gd ⟨a.x * -W+(b.x-a.x) * -S,a.y * -W+(b.y-a.y) * -S,-W⟩:=⟨mix_in ha.x hb.x (by omega) (by omega) (by omega),mix_in ha.y hb.y (by omega) (by omega) (by omega),In.mk (by show -32768<=-W;omega) (by show -W<=32768;omega)⟩
 obtain ⟨⟨q0,q1⟩,⟨q2,q3⟩,⟨q4,q5⟩⟩:=gd
 dsimp only at q0 q1 q2 q3 q4 q5
 go_enter Tryz.func66,Tryz.ntmps66
 go_wp2_with fail
 refine (wayFrom_any a b _ ha.gd hb.gd).mono ?_
 rintro e w1 ⟨rfl,k⟩
 have B1:=bvia (below3 _ _ _ _) k
 obtain ⟨cs1,fs1,zs1⟩:=(((Blk.new w _ _).alloc _).alloc _).call k
 obtain ⟨ct1,ft1,zt1⟩:=((Blk.at (w.heap.size+1) (by simp)).alloc _).call k
 obtain ⟨cr1,fr1,zr1⟩:=(Blk.at (w.heap.size+1+1) (by simp)).call k
 clear k
 go_wp2_with fail
 refine (wayFrom_any c d _ hc.gd hd.gd).mono ?_
 rintro e w2 ⟨rfl,k⟩
 have B2:=bvia (B1.alloc B1.size _) k
 obtain ⟨cs2,fs2,zs2⟩:=((Blk.mk cs1 fs1 zs1).alloc _).call k
 obtain ⟨ct2,ft2,zt2⟩:=((Blk.mk ct1 ft1 zt1).alloc _).call k
 obtain ⟨cr2,fr2,zr2⟩:=((Blk.mk cr1 fr1 zr1).alloc _).call k
 obtain ⟨cp2,fp2,zp2⟩:=(Blk.new w1 _ _).call k
 clear k cs1 fs1 ct1 ft1 cr1 fr1 B1
 go_wp2_with fail
 refine (wayFrom_any a c _ ha.gd hc.gd).mono ?_
 rintro e w3 ⟨rfl,k⟩
 have B3:=bvia (B2.alloc B2.size _) k
 obtain ⟨cs3,fs3,zs3⟩:=((Blk.mk cs2 fs2 zs2).alloc _).call k
 obtain ⟨ct3,ft3,zt3⟩:=((Blk.mk ct2 ft2 zt2).alloc _).call k
 obtain ⟨cr3,fr3,zr3⟩:=((Blk.mk cr2 fr2 zr2).alloc _).call k
 obtain ⟨cp3,fp3,zp3⟩:=((Blk.mk cp2 fp2 zp2).alloc _).call k
 obtain ⟨cq3,fq3,zq3⟩:=(Blk.new w2 _ _).call k
 clear k cs2 fs2 ct2 ft2 cr2 fr2 cp2 fp2 B2
 go_wp2_with fail
 refine (cross_any _ _ _ _ _ (gr_way ha.x hb.x) (gr_way ha.y hb.y) (gr_way hc.x hd.x) (gr_way hc.y hd.y)).mono ?_
 rintro e w4 ⟨rfl,k⟩
 have B4:=bvia (B3.alloc B3.size _) k
 obtain ⟨cs4,fs4,zs4⟩:=((Blk.mk cs3 fs3 zs3).alloc _).call k
 obtain ⟨ct4,ft4,zt4⟩:=((Blk.mk ct3 ft3 zt3).alloc _).call k
 obtain ⟨cr4,fr4,zr4⟩:=((Blk.mk cr3 fr3 zr3).alloc _).call k
 obtain ⟨cp4,fp4,zp4⟩:=((Blk.mk cp3 fp3 zp3).alloc _).call k
 obtain ⟨cq4,fq4,zq4⟩:=((Blk.mk cq3 fq3 zq3).alloc _).call k
 obtain ⟨cu4,fu4,zu4⟩:=(Blk.new w3 _ _).call k
 clear k cs3 fs3 ct3 ft3 cr3 fr3 cp3 fp3 cq3 fq3 B3
 rw [HW.out]
 go_wp2_with fail
 refine (cross_any _ _ _ _ _ (gr_way ha.x hc.x) (gr_way ha.y hc.y) (gr_way hc.x hd.x) (gr_way hc.y hd.y)).mono ?_
 rintro e w5 ⟨rfl,k⟩
 have B5:=bvia B4 k
 obtain ⟨cs5,fs5,zs5⟩:=(Blk.mk cs4 fs4 zs4).call k
 obtain ⟨ct5,ft5,zt5⟩:=(Blk.mk ct4 ft4 zt4).call k
 obtain ⟨cr5,fr5,zr5⟩:=(Blk.mk cr4 fr4 zr4).call k
 obtain ⟨cp5,fp5,zp5⟩:=(Blk.mk cp4 fp4 zp4).call k
 obtain ⟨cq5,fq5,zq5⟩:=(Blk.mk cq4 fq4 zq4).call k
 obtain ⟨cu5,fu5,zu5⟩:=(Blk.mk cu4 fu4 zu4).call k
 clear k cs4 fs4 ct4 ft4 cr4 fr4 cp4 fp4 cq4 fq4 cu4 fu4 B4
 rw [HS.out]
 go_wp2_with fail
 refine (cross_any _ _ _ _ _ (gr_way ha.x hc.x) (gr_way ha.y hc.y) (gr_way ha.x hb.x) (gr_way ha.y hb.y)).mono ?_
 rintro e w6 ⟨rfl,k⟩
 have B6:=bvia B5 k
 obtain ⟨cs6,fs6,zs6⟩:=(Blk.mk cs5 fs5 zs5).call k
 obtain ⟨ct6,ft6,zt6⟩:=(Blk.mk ct5 ft5 zt5).call k
 obtain ⟨cr6,fr6,zr6⟩:=(Blk.mk cr5 fr5 zr5).call k
 obtain ⟨cp6,fp6,zp6⟩:=(Blk.mk cp5 fp5 zp5).call k
 obtain ⟨cq6,fq6,zq6⟩:=(Blk.mk cq5 fq5 zq5).call k
 obtain ⟨cu6,fu6,zu6⟩:=(Blk.mk cu5 fu5 zu5).call k
 clear k cs5 fs5 ct5 ft5 cr5 fr5 cp5 fp5 cq5 fq5 cu5 fu5 B5
 rw [HT.out]
 go_wp2_with fail
 refine (Least_any ⟨a.x * -W+(b.x-a.x) * -S,a.y * -W+(b.y-a.y) * -S,-W⟩ _ ⟨In.mk q0 q1,In.mk q2 q3,In.mk q4 q5⟩).mono ?_
 rintro e w7 ⟨rfl,k⟩
 have B7:=bvia (B6.alloc B6.size _) k
 obtain ⟨cr7,fr7,zr7⟩:=((Blk.mk cr6 fr6 zr6).alloc _).call k
 clear k cr6 fr6 B6
 go_wp2
 exact bodyPost_ret (v:=Mt.v ⟨1,leastM ⟨a.x * -W+(b.x-a.x) * -S,a.y * -W+(b.y-a.y) * -S,-W⟩,zP⟩) (by simp [results,Tryz.results66,go_sem,cr7,fr7,zP]) rfl ⟨by rw [H.out],below_set7 B7 (by omega)⟩
set_option maxHeartbeats 1000000 in
theorem meetAcross_pos_bad (a b c d:Pt)(w:World)(ha:Gr a)(hb:Gr b)(hc:Gr c)(hd:Gr d){W S T:Int}(hW:crossM (b.x-a.x) (b.y-a.y) (d.x-c.x) (d.y-c.y)=W)(hS:crossM (c.x-a.x) (c.y-a.y) (d.x-c.x) (d.y-c.y)=S)(hT:crossM (c.x-a.x) (c.y-a.y) (b.x-a.x) (b.y-a.y)=T)
  (h:0<=W) (g:S<0\/W<S\/T<0\/W<T) :
  Calls Tryz.prog 66 #[sg a b,sg c d] w fun e w'=>e = .returned (acrossM a b c d).v/\Below w.heap.size w w':=by
 obtain ⟨l1,u1⟩:=cross_in (way128 ha.x hb.x) (way128 ha.y hb.y) (way128 hc.x hd.x) (way128 hc.y hd.y)
 obtain ⟨l2,u2⟩:=cross_in (way128 ha.x hc.x) (way128 ha.y hc.y) (way128 hc.x hd.x) (way128 hc.y hd.y)
 obtain ⟨l3,u3⟩:=cross_in (way128 ha.x hc.x) (way128 ha.y hc.y) (way128 ha.x hb.x) (way128 ha.y hb.y)
 have H:Hid (acrossM a b c d=zM):=across_pos_bad hW hS hT (by omega) g
 rw [hW] at l1 u1;rw [hS] at l2 u2;rw [hT] at l3 u3
 have HW:Hid (crossM (b.x-a.x) (b.y-a.y) (d.x-c.x) (d.y-c.y)=W):=hW
 have HS:Hid (crossM (c.x-a.x) (c.y-a.y) (d.x-c.x) (d.y-c.y)=S):=hS
 have HT:Hid (crossM (c.x-a.x) (c.y-a.y) (b.x-a.x) (b.y-a.y)=T):=hT
 clear hW hS hT
 go_enter Tryz.func66,Tryz.ntmps66
 go_wp2_with fail
 refine (wayFrom_any a b _ ha.gd hb.gd).mono ?_
 rintro e w1 ⟨rfl,k⟩
 have B1:=bvia (below3 _ _ _ _) k
 obtain ⟨cs1,fs1,zs1⟩:=(((Blk.new w _ _).alloc _).alloc _).call k
 obtain ⟨ct1,ft1,zt1⟩:=((Blk.at (w.heap.size+1) (by simp)).alloc _).call k
 obtain ⟨cr1,fr1,zr1⟩:=(Blk.at (w.heap.size+1+1) (by simp)).call k
 clear k
 go_wp2_with fail
 refine (wayFrom_any c d _ hc.gd hd.gd).mono ?_
 rintro e w2 ⟨rfl,k⟩
 have B2:=bvia (B1.alloc B1.size _) k
 obtain ⟨cs2,fs2,zs2⟩:=((Blk.mk cs1 fs1 zs1).alloc _).call k
 obtain ⟨ct2,ft2,zt2⟩:=((Blk.mk ct1 ft1 zt1).alloc _).call k
 obtain ⟨cr2,fr2,zr2⟩:=((Blk.mk cr1 fr1 zr1).alloc _).call k
 obtain ⟨cp2,fp2,zp2⟩:=(Blk.new w1 _ _).call k
 clear k cs1 fs1 ct1 ft1 cr1 fr1 B1
 go_wp2_with fail
 refine (wayFrom_any a c _ ha.gd hc.gd).mono ?_
 rintro e w3 ⟨rfl,k⟩
 have B3:=bvia (B2.alloc B2.size _) k
 obtain ⟨cs3,fs3,zs3⟩:=((Blk.mk cs2 fs2 zs2).alloc _).call k
 obtain ⟨ct3,ft3,zt3⟩:=((Blk.mk ct2 ft2 zt2).alloc _).call k
 obtain ⟨cr3,fr3,zr3⟩:=((Blk.mk cr2 fr2 zr2).alloc _).call k
 obtain ⟨cp3,fp3,zp3⟩:=((Blk.mk cp2 fp2 zp2).alloc _).call k
 obtain ⟨cq3,fq3,zq3⟩:=(Blk.new w2 _ _).call k
 clear k cs2 fs2 ct2 ft2 cr2 fr2 cp2 fp2 B2
 go_wp2_with fail
 refine (cross_any _ _ _ _ _ (gr_way ha.x hb.x) (gr_way ha.y hb.y) (gr_way hc.x hd.x) (gr_way hc.y hd.y)).mono ?_
 rintro e w4 ⟨rfl,k⟩
 have B4:=bvia (B3.alloc B3.size _) k
 obtain ⟨cs4,fs4,zs4⟩:=((Blk.mk cs3 fs3 zs3).alloc _).call k
 obtain ⟨ct4,ft4,zt4⟩:=((Blk.mk ct3 ft3 zt3).alloc _).call k
 obtain ⟨cr4,fr4,zr4⟩:=((Blk.mk cr3 fr3 zr3).alloc _).call k
 obtain ⟨cp4,fp4,zp4⟩:=((Blk.mk cp3 fp3 zp3).alloc _).call k
 obtain ⟨cq4,fq4,zq4⟩:=((Blk.mk cq3 fq3 zq3).alloc _).call k
 obtain ⟨cu4,fu4,zu4⟩:=(Blk.new w3 _ _).call k
 clear k cs3 fs3 ct3 ft3 cr3 fr3 cp3 fp3 cq3 fq3 B3
 rw [HW.out]
 go_wp2_with fail
 refine (cross_any _ _ _ _ _ (gr_way ha.x hc.x) (gr_way ha.y hc.y) (gr_way hc.x hd.x) (gr_way hc.y hd.y)).mono ?_
 rintro e w5 ⟨rfl,k⟩
 have B5:=bvia B4 k
 obtain ⟨cs5,fs5,zs5⟩:=(Blk.mk cs4 fs4 zs4).call k
 obtain ⟨ct5,ft5,zt5⟩:=(Blk.mk ct4 ft4 zt4).call k
 obtain ⟨cr5,fr5,zr5⟩:=(Blk.mk cr4 fr4 zr4).call k
 obtain ⟨cp5,fp5,zp5⟩:=(Blk.mk cp4 fp4 zp4).call k
 obtain ⟨cq5,fq5,zq5⟩:=(Blk.mk cq4 fq4 zq4).call k
 obtain ⟨cu5,fu5,zu5⟩:=(Blk.mk cu4 fu4 zu4).call k
 clear k cs4 fs4 ct4 ft4 cr4 fr4 cp4 fp4 cq4 fq4 cu4 fu4 B4
 rw [HS.out]
 go_wp2_with fail
 refine (cross_any _ _ _ _ _ (gr_way ha.x hc.x) (gr_way ha.y hc.y) (gr_way ha.x hb.x) (gr_way ha.y hb.y)).mono ?_
 rintro e w6 ⟨rfl,k⟩
 have B6:=bvia B5 k
 obtain ⟨cs6,fs6,zs6⟩:=(Blk.mk cs5 fs5 zs5).call k
 obtain ⟨ct6,ft6,zt6⟩:=(Blk.mk ct5 ft5 zt5).call k
 obtain ⟨cr6,fr6,zr6⟩:=(Blk.mk cr5 fr5 zr5).call k
 obtain ⟨cp6,fp6,zp6⟩:=(Blk.mk cp5 fp5 zp5).call k
 obtain ⟨cq6,fq6,zq6⟩:=(Blk.mk cq5 fq5 zq5).call k
 obtain ⟨cu6,fu6,zu6⟩:=(Blk.mk cu5 fu5 zu5).call k
 clear k cs5 fs5 ct5 ft5 cr5 fr5 cp5 fp5 cq5 fq5 cu5 fu5 B5
 rw [HT.out]
 go_wp2
 all_goals exact bodyPost_ret (v:=zM.v) (by simp [results,Tryz.results66,go_sem,cr6,fr6,zM,zP]) rfl ⟨by rw [H.out],below_set7 B6 (by omega)⟩
set_option maxHeartbeats 1000000 in
theorem meetAcross_pos (a b c d:Pt)(w:World)(ha:Gr a)(hb:Gr b)(hc:Gr c)(hd:Gr d){W S T:Int}(hW:crossM (b.x-a.x) (b.y-a.y) (d.x-c.x) (d.y-c.y)=W)(hS:crossM (c.x-a.x) (c.y-a.y) (d.x-c.x) (d.y-c.y)=S)(hT:crossM (c.x-a.x) (c.y-a.y) (b.x-a.x) (b.y-a.y)=T)
  (h:0<=W) (g : ¬ (S<0\/W<S\/T<0\/W<T)) :
  Calls Tryz.prog 66 #[sg a b,sg c d] w fun e w'=>e = .returned (acrossM a b c d).v/\Below w.heap.size w w':=by
 obtain ⟨l1,u1⟩:=cross_in (way128 ha.x hb.x) (way128 ha.y hb.y) (way128 hc.x hd.x) (way128 hc.y hd.y)
 obtain ⟨l2,u2⟩:=cross_in (way128 ha.x hc.x) (way128 ha.y hc.y) (way128 hc.x hd.x) (way128 hc.y hd.y)
 obtain ⟨l3,u3⟩:=cross_in (way128 ha.x hc.x) (way128 ha.y hc.y) (way128 ha.x hb.x) (way128 ha.y hb.y)
 have H:Hid (acrossM a b c d=⟨1,leastM ⟨a.x*W+(b.x-a.x)*S,a.y*W+(b.y-a.y)*S,W⟩,zP⟩):=across_pos hW hS hT (by omega) g
 rw [hW] at l1 u1;rw [hS] at l2 u2;rw [hT] at l3 u3
 have HW:Hid (crossM (b.x-a.x) (b.y-a.y) (d.x-c.x) (d.y-c.y)=W):=hW
 have HS:Hid (crossM (c.x-a.x) (c.y-a.y) (d.x-c.x) (d.y-c.y)=S):=hS
 have HT:Hid (crossM (c.x-a.x) (c.y-a.y) (b.x-a.x) (b.y-a.y)=T):=hT
 clear hW hS hT
 obtain ⟨m0,n0⟩:=(ha.x).mul ((In.mk l1 u1))
 obtain ⟨m1,n1⟩:=((way128 ha.x hb.x)).mul ((In.mk l2 u2))
 obtain ⟨m2,n2⟩:=(ha.y).mul ((In.mk l1 u1))
 obtain ⟨m3,n3⟩:=((way128 ha.y hb.y)).mul ((In.mk l2 u2))
 have gd:Gd ⟨a.x*W+(b.x-a.x)*S,a.y*W+(b.y-a.y)*S,W⟩:=⟨mix_in ha.x hb.x (by omega) (by omega) (by omega),mix_in ha.y hb.y (by omega) (by omega) (by omega),In.mk (by show -32768<=W;omega) (by show W<=32768;omega)⟩
 obtain ⟨⟨q0,q1⟩,⟨q2,q3⟩,⟨q4,q5⟩⟩:=gd
 dsimp only at q0 q1 q2 q3 q4 q5
 go_enter Tryz.func66,Tryz.ntmps66
 go_wp2_with fail
 refine (wayFrom_any a b _ ha.gd hb.gd).mono ?_
 rintro e w1 ⟨rfl,k⟩
 have B1:=bvia (below3 _ _ _ _) k
 obtain ⟨cs1,fs1,zs1⟩:=(((Blk.new w _ _).alloc _).alloc _).call k
 obtain ⟨ct1,ft1,zt1⟩:=((Blk.at (w.heap.size+1) (by simp)).alloc _).call k
 obtain ⟨cr1,fr1,zr1⟩:=(Blk.at (w.heap.size+1+1) (by simp)).call k
 clear k
 go_wp2_with fail
 refine (wayFrom_any c d _ hc.gd hd.gd).mono ?_
 rintro e w2 ⟨rfl,k⟩
 have B2:=bvia (B1.alloc B1.size _) k
 obtain ⟨cs2,fs2,zs2⟩:=((Blk.mk cs1 fs1 zs1).alloc _).call k
 obtain ⟨ct2,ft2,zt2⟩:=((Blk.mk ct1 ft1 zt1).alloc _).call k
 obtain ⟨cr2,fr2,zr2⟩:=((Blk.mk cr1 fr1 zr1).alloc _).call k
 obtain ⟨cp2,fp2,zp2⟩:=(Blk.new w1 _ _).call k
 clear k cs1 fs1 ct1 ft1 cr1 fr1 B1
 go_wp2_with fail
 refine (wayFrom_any a c _ ha.gd hc.gd).mono ?_
 rintro e w3 ⟨rfl,k⟩
 have B3:=bvia (B2.alloc B2.size _) k
 obtain ⟨cs3,fs3,zs3⟩:=((Blk.mk cs2 fs2 zs2).alloc _).call k
 obtain ⟨ct3,ft3,zt3⟩:=((Blk.mk ct2 ft2 zt2).alloc _).call k
 obtain ⟨cr3,fr3,zr3⟩:=((Blk.mk cr2 fr2 zr2).alloc _).call k
 obtain ⟨cp3,fp3,zp3⟩:=((Blk.mk cp2 fp2 zp2).alloc _).call k
 obtain ⟨cq3,fq3,zq3⟩:=(Blk.new w2 _ _).call k
 clear k cs2 fs2 ct2 ft2 cr2 fr2 cp2 fp2 B2
 go_wp2_with fail
 refine (cross_any _ _ _ _ _ (gr_way ha.x hb.x) (gr_way ha.y hb.y) (gr_way hc.x hd.x) (gr_way hc.y hd.y)).mono ?_
 rintro e w4 ⟨rfl,k⟩
 have B4:=bvia (B3.alloc B3.size _) k
 obtain ⟨cs4,fs4,zs4⟩:=((Blk.mk cs3 fs3 zs3).alloc _).call k
 obtain ⟨ct4,ft4,zt4⟩:=((Blk.mk ct3 ft3 zt3).alloc _).call k
 obtain ⟨cr4,fr4,zr4⟩:=((Blk.mk cr3 fr3 zr3).alloc _).call k
 obtain ⟨cp4,fp4,zp4⟩:=((Blk.mk cp3 fp3 zp3).alloc _).call k
 obtain ⟨cq4,fq4,zq4⟩:=((Blk.mk cq3 fq3 zq3).alloc _).call k
 obtain ⟨cu4,fu4,zu4⟩:=(Blk.new w3 _ _).call k
 clear k cs3 fs3 ct3 ft3 cr3 fr3 cp3 fp3 cq3 fq3 B3
 rw [HW.out]
 go_wp2_with fail
 refine (cross_any _ _ _ _ _ (gr_way ha.x hc.x) (gr_way ha.y hc.y) (gr_way hc.x hd.x) (gr_way hc.y hd.y)).mono ?_
 rintro e w5 ⟨rfl,k⟩
 have B5:=bvia B4 k
 obtain ⟨cs5,fs5,zs5⟩:=(Blk.mk cs4 fs4 zs4).call k
 obtain ⟨ct5,ft5,zt5⟩:=(Blk.mk ct4 ft4 zt4).call k
 obtain ⟨cr5,fr5,zr5⟩:=(Blk.mk cr4 fr4 zr4).call k
 obtain ⟨cp5,fp5,zp5⟩:=(Blk.mk cp4 fp4 zp4).call k
 obtain ⟨cq5,fq5,zq5⟩:=(Blk.mk cq4 fq4 zq4).call k
 obtain ⟨cu5,fu5,zu5⟩:=(Blk.mk cu4 fu4 zu4).call k
 clear k cs4 fs4 ct4 ft4 cr4 fr4 cp4 fp4 cq4 fq4 cu4 fu4 B4
 rw [HS.out]
 go_wp2_with fail
 refine (cross_any _ _ _ _ _ (gr_way ha.x hc.x) (gr_way ha.y hc.y) (gr_way ha.x hb.x) (gr_way ha.y hb.y)).mono ?_
 rintro e w6 ⟨rfl,k⟩
 have B6:=bvia B5 k
 obtain ⟨cs6,fs6,zs6⟩:=(Blk.mk cs5 fs5 zs5).call k
 obtain ⟨ct6,ft6,zt6⟩:=(Blk.mk ct5 ft5 zt5).call k
 obtain ⟨cr6,fr6,zr6⟩:=(Blk.mk cr5 fr5 zr5).call k
 obtain ⟨cp6,fp6,zp6⟩:=(Blk.mk cp5 fp5 zp5).call k
 obtain ⟨cq6,fq6,zq6⟩:=(Blk.mk cq5 fq5 zq5).call k
 obtain ⟨cu6,fu6,zu6⟩:=(Blk.mk cu5 fu5 zu5).call k
 clear k cs5 fs5 ct5 ft5 cr5 fr5 cp5 fp5 cq5 fq5 cu5 fu5 B5
 rw [HT.out]
 go_wp2_with fail
 refine (Least_any ⟨a.x*W+(b.x-a.x)*S,a.y*W+(b.y-a.y)*S,W⟩ _ ⟨In.mk q0 q1,In.mk q2 q3,In.mk q4 q5⟩).mono ?_
 rintro e w7 ⟨rfl,k⟩
 have B7:=bvia (B6.alloc B6.size _) k
 obtain ⟨cr7,fr7,zr7⟩:=((Blk.mk cr6 fr6 zr6).alloc _).call k
 clear k cr6 fr6 B6
 go_wp2
 exact bodyPost_ret (v:=Mt.v ⟨1,leastM ⟨a.x*W+(b.x-a.x)*S,a.y*W+(b.y-a.y)*S,W⟩,zP⟩) (by simp [results,Tryz.results66,go_sem,cr7,fr7,zP]) rfl ⟨by rw [H.out],below_set7 B7 (by omega)⟩
theorem meetAcross_any (a b c d:Pt)(w:World)(ha:Gr a)(hb:Gr b)(hc:Gr c)(hd:Gr d) :
  Calls Tryz.prog 66 #[sg a b,sg c d] w fun e w'=>e = .returned (acrossM a b c d).v/\Below w.heap.size w w':=by
 generalize hW:crossM (b.x-a.x) (b.y-a.y) (d.x-c.x) (d.y-c.y)=W
 generalize hS:crossM (c.x-a.x) (c.y-a.y) (d.x-c.x) (d.y-c.y)=S
 generalize hT:crossM (c.x-a.x) (c.y-a.y) (b.x-a.x) (b.y-a.y)=T
 by_cases h:W<0
 ·by_cases g:0<S\/S<W\/0<T\/T<W
  ·exact meetAcross_neg_bad a b c d w ha hb hc hd hW hS hT h g
  ·exact meetAcross_neg a b c d w ha hb hc hd hW hS hT h g
 ·by_cases g:S<0\/W<S\/T<0\/W<T
  ·exact meetAcross_pos_bad a b c d w ha hb hc hd hW hS hT (by omega) g
  ·exact meetAcross_pos a b c d w ha hb hc hd hW hS hT (by omega) g
set_option maxHeartbeats 1000000 in
theorem segMeet_any (a b c d:Pt)(w:World)(ha:Gr a)(hb:Gr b)(hc:Gr c)(hd:Gr d) :
  Calls Tryz.prog 36 #[sg a b,sg c d] w fun e w'=>e = .returned (meetM a b c d).v/\Below w.heap.size w w':=by
 by_cases h:crossM (b.x-a.x) (b.y-a.y) (d.x-c.x) (d.y-c.y)=0
 ·have H:Hid (meetM a b c d=parM a b c d):=if_pos h
  have h':(crossM (b.x-a.x) (b.y-a.y) (d.x-c.x) (d.y-c.y) == 0)=true:=by simpa using h
  clear h
  go_enter Tryz.func36,Tryz.ntmps36
  go_wp2_with fail
  refine (wayFrom_any a b _ ha.gd hb.gd).mono ?_
  rintro e w1 ⟨rfl,k⟩
  have B1:=bvia (below3 _ _ _ _) k
  obtain ⟨cs1,fs1,zs1⟩:=(((Blk.new w _ _).alloc _).alloc _).call k
  obtain ⟨ct1,ft1,zt1⟩:=((Blk.at (w.heap.size+1) (by simp)).alloc _).call k
  obtain ⟨cr1,fr1,zr1⟩:=(Blk.at (w.heap.size+1+1) (by simp)).call k
  clear k
  go_wp2_with fail
  refine (wayFrom_any c d _ hc.gd hd.gd).mono ?_
  rintro e w2 ⟨rfl,k⟩
  have B2:=bvia (B1.alloc B1.size _) k
  obtain ⟨cs2,fs2,zs2⟩:=((Blk.mk cs1 fs1 zs1).alloc _).call k
  obtain ⟨ct2,ft2,zt2⟩:=((Blk.mk ct1 ft1 zt1).alloc _).call k
  obtain ⟨cr2,fr2,zr2⟩:=((Blk.mk cr1 fr1 zr1).alloc _).call k
  obtain ⟨cp2,fp2,zp2⟩:=(Blk.new w1 _ _).call k
  clear k cs1 fs1 ct1 ft1 cr1 fr1 B1
  go_wp2_with fail
  refine (cross_any _ _ _ _ _ (gr_way ha.x hb.x) (gr_way ha.y hb.y) (gr_way hc.x hd.x) (gr_way hc.y hd.y)).mono ?_
  rintro e w3 ⟨rfl,k⟩
  have B3:=bvia (B2.alloc B2.size _) k
  obtain ⟨cs3,fs3,zs3⟩:=((Blk.mk cs2 fs2 zs2).alloc _).call k
  obtain ⟨ct3,ft3,zt3⟩:=((Blk.mk ct2 ft2 zt2).alloc _).call k
  obtain ⟨cr3,fr3,zr3⟩:=((Blk.mk cr2 fr2 zr2).alloc _).call k
  obtain ⟨cp3,fp3,zp3⟩:=((Blk.mk cp2 fp2 zp2).alloc _).call k
  obtain ⟨cq3,fq3,zq3⟩:=(Blk.new w2 _ _).call k
  clear k cs2 fs2 ct2 ft2 cr2 fr2 cp2 fp2 B2
  go_wp2_with fail
  refine (meetParallel_any a b c d _ ha hb hc hd).mono ?_
  rintro e w4 ⟨rfl,k⟩
  have B4:=bvia B3 k
  obtain ⟨cs4,fs4,zs4⟩:=(Blk.mk cs3 fs3 zs3).call k
  obtain ⟨ct4,ft4,zt4⟩:=(Blk.mk ct3 ft3 zt3).call k
  obtain ⟨cr4,fr4,zr4⟩:=(Blk.mk cr3 fr3 zr3).call k
  obtain ⟨cp4,fp4,zp4⟩:=(Blk.mk cp3 fp3 zp3).call k
  obtain ⟨cq4,fq4,zq4⟩:=(Blk.mk cq3 fq3 zq3).call k
  clear k cs3 fs3 ct3 ft3 cr3 fr3 cp3 fp3 cq3 fq3 B3
  go_wp2
  exact bodyPost_ret (v:=(parM a b c d).v) (by simp [results,Tryz.results36,go_sem,cr4,fr4]) rfl ⟨by rw [H.out],below_set7 B4 (by omega)⟩
 ·have H:Hid (meetM a b c d=acrossM a b c d):=if_neg h
  have h':(crossM (b.x-a.x) (b.y-a.y) (d.x-c.x) (d.y-c.y) == 0)=false:=by simpa using h
  clear h
  go_enter Tryz.func36,Tryz.ntmps36
  go_wp2_with fail
  refine (wayFrom_any a b _ ha.gd hb.gd).mono ?_
  rintro e w1 ⟨rfl,k⟩
  have B1:=bvia (below3 _ _ _ _) k
  obtain ⟨cs1,fs1,zs1⟩:=(((Blk.new w _ _).alloc _).alloc _).call k
  obtain ⟨ct1,ft1,zt1⟩:=((Blk.at (w.heap.size+1) (by simp)).alloc _).call k
  obtain ⟨cr1,fr1,zr1⟩:=(Blk.at (w.heap.size+1+1) (by simp)).call k
  clear k
  go_wp2_with fail
  refine (wayFrom_any c d _ hc.gd hd.gd).mono ?_
  rintro e w2 ⟨rfl,k⟩
  have B2:=bvia (B1.alloc B1.size _) k
  obtain ⟨cs2,fs2,zs2⟩:=((Blk.mk cs1 fs1 zs1).alloc _).call k
  obtain ⟨ct2,ft2,zt2⟩:=((Blk.mk ct1 ft1 zt1).alloc _).call k
  obtain ⟨cr2,fr2,zr2⟩:=((Blk.mk cr1 fr1 zr1).alloc _).call k
  obtain ⟨cp2,fp2,zp2⟩:=(Blk.new w1 _ _).call k
  clear k cs1 fs1 ct1 ft1 cr1 fr1 B1
  go_wp2_with fail
  refine (cross_any _ _ _ _ _ (gr_way ha.x hb.x) (gr_way ha.y hb.y) (gr_way hc.x hd.x) (gr_way hc.y hd.y)).mono ?_
  rintro e w3 ⟨rfl,k⟩
  have B3:=bvia (B2.alloc B2.size _) k
  obtain ⟨cs3,fs3,zs3⟩:=((Blk.mk cs2 fs2 zs2).alloc _).call k
  obtain ⟨ct3,ft3,zt3⟩:=((Blk.mk ct2 ft2 zt2).alloc _).call k
  obtain ⟨cr3,fr3,zr3⟩:=((Blk.mk cr2 fr2 zr2).alloc _).call k
  obtain ⟨cp3,fp3,zp3⟩:=((Blk.mk cp2 fp2 zp2).alloc _).call k
  obtain ⟨cq3,fq3,zq3⟩:=(Blk.new w2 _ _).call k
  clear k cs2 fs2 ct2 ft2 cr2 fr2 cp2 fp2 B2
  go_wp2_with fail
  refine (meetAcross_any a b c d _ ha hb hc hd).mono ?_
  rintro e w4 ⟨rfl,k⟩
  have B4:=bvia B3 k
  obtain ⟨cs4,fs4,zs4⟩:=(Blk.mk cs3 fs3 zs3).call k
  obtain ⟨ct4,ft4,zt4⟩:=(Blk.mk ct3 ft3 zt3).call k
  obtain ⟨cr4,fr4,zr4⟩:=(Blk.mk cr3 fr3 zr3).call k
  obtain ⟨cp4,fp4,zp4⟩:=(Blk.mk cp3 fp3 zp3).call k
  obtain ⟨cq4,fq4,zq4⟩:=(Blk.mk cq3 fq3 zq3).call k
  clear k cs3 fs3 ct3 ft3 cr3 fr3 cp3 fp3 cq3 fq3 B3
  go_wp2
  exact bodyPost_ret (v:=(acrossM a b c d).v) (by simp [results,Tryz.results36,go_sem,cr4,fr4]) rfl ⟨by rw [H.out],below_set7 B4 (by omega)⟩
def mtM (a b c d:Pt):Mt×Int:=
 if ¬ (gridB a=true/\gridB b=true/\gridB c=true/\gridB d=true) then (zM,3)
 else if eqP a b=true\/eqP c d=true then (zM,4) else (meetM a b c d,0)
set_option maxRecDepth 100000 in
set_option maxHeartbeats 1000000 in
theorem badRing_any (v:Value)(P:List (List Pt))(w:World)(hP:PolyAt w v P) :
  Calls Tryz.prog 74 #[v] w fun e w'=>e = .returned (.int .i64 (badM 12 0 P))/\w'=w:=by
 obtain ⟨a,cap,rfl,h1,h2,h3⟩:=hP
 unfold maxLen at h2
 go_enter Tryz.func74,Tryz.ntmps74
 go_wp2_with fail
 go_loop [3,4,5,8] (fun room _ _ i=>∃ (k:Nat) (rm:Int),i = .int .i64 k/\room = .int .i64 rm/\k<=P.length/\0<=rm/\rm<=12/\Hid (badM 12 0 P=badM rm k (P.drop k))) (fun _ _ _ i=>P.length-(intOf i).toNat)
 case atStart=>exact ⟨0,12,rfl,rfl,Nat.zero_le _,by decide,by decide,rfl⟩
 case round=>
  obtain ⟨k,rm,rfl,rfl,hk,hr0,hr1,HB⟩:=hrel
  by_cases hlt:k<P.length
  ·obtain ⟨b,off,rv,rfl,hb,hc,⟨a',cap',rfl,g1,g2,_⟩⟩:=h3 k hlt
   have HC:=hide (badM_cons rm k P k hlt)
   generalize P.getD k []=r at *
   unfold maxLen at g2
   by_cases hbad:(r.length:Int)<3\/rm<(r.length:Int)
   ·have HE:Hid (badM 12 0 P=k):=HB.out.trans (HC.out.trans (if_pos hbad))
    clear h3 HB HC
    by_cases hb3:(r.length:Int)<3
    ·go_wp2
     go_ret
     exact ⟨ret_if HE.out.symm,rfl⟩
    ·go_wp2
     go_ret
     exact ⟨ret_if HE.out.symm,rfl⟩
   ·have HE:Hid (badM 12 0 P=badM (rm-r.length) (k+1) (P.drop (k+1))):=HB.out.trans (HC.out.trans (if_neg hbad))
    clear h3 HB HC
    have e1 : ¬ (r.length:Int)<3:=by omega
    have e2:(r.length:Int)<=rm:=by omega
    go_wp2
    go_round
    case rel=>exact ⟨k+1,rm-r.length,by go_num,rfl,by omega,by omega,by omega,HE⟩
    case measure=>simp [intOf];omega
  ·have HE:Hid (badM 12 0 P = -1):=by rw [HB.out,List.drop_of_length_le (by omega)];rfl
   clear h3 HB
   go_wp2
   go_ret
   exact ⟨ret_if HE.out.symm,rfl⟩
end Go.Proofs.YtnkcbephceollabGreat
