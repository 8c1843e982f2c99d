import Derived.Test.YtnkcbephceollabGreatU7
namespace Go.Proofs.YtnkcbephceollabGreat
open Go.RowKit
set_option linter.unusedSimpArgs false
set_option linter.unusedVariables false
set_option maxHeartbeats 2000000 in
theorem rmeet_p0 (a b c d:Pt)(w:World)(ha:Gr a)(hb:Gr b)(hc:Gr c)(hd:Gr d)(hp : ¬ 0<(norm (xX a b c d) (xY a b c d) (xD a b c d)).d)(h1:(detM a b c != 0)=true) :
  Calls Tryz.prog 38 #[sg a b,sg c d] w fun e w'=>e = .returned (zM).v/\Below w.heap.size w w':=by
 generalize hP:norm (xX a b c d) (xY a b c d) (xD a b c d)=P at *
 have HP:=hide hP
 clear hP
 go_enter Tryz.func38,Tryz.ntmps38
 go_wp2_with fail
 refine (rcross_any a b c d _ ha hb hc hd).mono ?_
 rintro e w1 ⟨rfl,k⟩
 have B1:=bvia (below3 _ _ _ _) k
 obtain ⟨cs1,fs1,zs1⟩:=(((Blk.new w _ _).alloc _).alloc _).call k
 obtain ⟨ct1,ft1,zt1⟩:=((Blk.at (w.heap.size+1) (by simp)).alloc _).call k
 obtain ⟨cr1,fr1,zr1⟩:=(Blk.at (w.heap.size+1+1) (by simp)).call k
 clear k
 rw [HP.out]
 go_wp2_with fail
 refine (rdet_any a b c _ ha.gd hb.gd hc.gd).mono ?_
 rintro e w2 ⟨rfl,k⟩
 have B2:=bvia (B1.alloc B1.size _) k
 obtain ⟨cs2,fs2,zs2⟩:=((Blk.mk cs1 fs1 zs1).alloc _).call k
 obtain ⟨ct2,ft2,zt2⟩:=((Blk.mk ct1 ft1 zt1).alloc _).call k
 obtain ⟨cr2,fr2,zr2⟩:=((Blk.mk cr1 fr1 zr1).alloc _).call k
 obtain ⟨cp2,fp2,zp2⟩:=(Blk.new w1 _ _).call k
 clear k cs1 fs1 ct1 ft1 cr1 fr1 B1
 clear cp2 fp2
 go_wp2
 exact bodyPost_ret (v:=zM.v) (by simp [results,Tryz.results38,go_sem,cr2,fr2,zM,zP]) rfl ⟨rfl,below_set7 B2 (by omega)⟩
set_option maxHeartbeats 4000000 in
theorem rmeet_l0 (a b c d:Pt)(w:World)(ha:Gr a)(hb:Gr b)(hc:Gr c)(hd:Gr d)(hp : ¬ 0<(norm (xX a b c d) (xY a b c d) (xD a b c d)).d)(h1:(detM a b c != 0)=false)(h2:befB (loM a b) (loM c d)=true)(h3:befB (hiM c d) (hiM a b)=true) :
  Calls Tryz.prog 38 #[sg a b,sg c d] w fun e w'=>e = .returned (if befB (hiM c d) (loM c d)=true then zM else if placeB (loM c d) (hiM c d)=true then ⟨1,loM c d,zP⟩ else ⟨2,loM c d,hiM c d⟩:Mt).v/\Below w.heap.size w w':=by
 have ga:=loM_gd ha.gd hb.gd
 have gb:=hiM_gd ha.gd hb.gd
 have gc:=loM_gd hc.gd hd.gd
 have gd:=hiM_gd hc.gd hd.gd
 generalize hP:norm (xX a b c d) (xY a b c d) (xD a b c d)=P at *
 have HP:=hide hP
 clear hP
 go_enter Tryz.func38,Tryz.ntmps38
 go_wp2_with fail
 refine (rcross_any a b c d _ ha hb hc hd).mono ?_
 rintro e w1 ⟨rfl,k⟩
 have B1:=bvia (below3 _ _ _ _) k
 obtain ⟨cs1,fs1,zs1⟩:=(((Blk.new w _ _).alloc _).alloc _).call k
 obtain ⟨ct1,ft1,zt1⟩:=((Blk.at (w.heap.size+1) (by simp)).alloc _).call k
 obtain ⟨cr1,fr1,zr1⟩:=(Blk.at (w.heap.size+1+1) (by simp)).call k
 clear k
 rw [HP.out]
 go_wp2_with fail
 refine (rdet_any a b c _ ha.gd hb.gd hc.gd).mono ?_
 rintro e w2 ⟨rfl,k⟩
 have B2:=bvia (B1.alloc B1.size _) k
 obtain ⟨cs2,fs2,zs2⟩:=((Blk.mk cs1 fs1 zs1).alloc _).call k
 obtain ⟨ct2,ft2,zt2⟩:=((Blk.mk ct1 ft1 zt1).alloc _).call k
 obtain ⟨cr2,fr2,zr2⟩:=((Blk.mk cr1 fr1 zr1).alloc _).call k
 obtain ⟨cp2,fp2,zp2⟩:=(Blk.new w1 _ _).call k
 clear k cs1 fs1 ct1 ft1 cr1 fr1 B1
 clear cp2 fp2
 go_wp2_with fail
 refine (rends_any a b _ ha.gd hb.gd).mono ?_
 rintro e w3 ⟨rfl,k⟩
 have B3:=bvia B2 k
 obtain ⟨cs3,fs3,zs3⟩:=(Blk.mk cs2 fs2 zs2).call k
 obtain ⟨ct3,ft3,zt3⟩:=(Blk.mk ct2 ft2 zt2).call k
 obtain ⟨cr3,fr3,zr3⟩:=(Blk.mk cr2 fr2 zr2).call k
 clear k cs2 fs2 ct2 ft2 cr2 fr2 B2
 go_wp2_with fail
 refine (rends_any c d _ hc.gd hd.gd).mono ?_
 rintro e w4 ⟨rfl,k⟩
 have B4:=bvia ((B3.alloc B3.size _).alloc (by have:=B3.size;simp;omega) _) k
 obtain ⟨cs4,fs4,zs4⟩:=(((Blk.mk cs3 fs3 zs3).alloc _).alloc _).call k
 obtain ⟨ct4,ft4,zt4⟩:=(((Blk.mk ct3 ft3 zt3).alloc _).alloc _).call k
 obtain ⟨cr4,fr4,zr4⟩:=(((Blk.mk cr3 fr3 zr3).alloc _).alloc _).call k
 obtain ⟨cl4,fl4,zl4⟩:=((Blk.new w3 _ _).alloc _).call k
 obtain ⟨ch4,fh4,zh4⟩:=(Blk.at (w3.heap.size+1) (by simp)).call k
 clear k cs3 fs3 ct3 ft3 cr3 fr3 B3 cs4 fs4 ct4 ft4
 go_wp2_with fail
 refine (rbefore_any (loM a b) (loM c d) _ ga gc).mono ?_
 rintro e w5 ⟨rfl,k⟩
 have B5:=bvia ((B4.alloc B4.size _).alloc (by have:=B4.size;simp;omega) _) k
 obtain ⟨cr5,fr5,zr5⟩:=(((Blk.mk cr4 fr4 zr4).alloc _).alloc _).call k
 obtain ⟨cl5,fl5,zl5⟩:=(((Blk.mk cl4 fl4 zl4).alloc _).alloc _).call k
 obtain ⟨ch5,fh5,zh5⟩:=(((Blk.mk ch4 fh4 zh4).alloc _).alloc _).call k
 obtain ⟨cf5,ff5,zf5⟩:=((Blk.new w4 _ _).alloc _).call k
 obtain ⟨cg5,fg5,zg5⟩:=(Blk.at (w4.heap.size+1) (by simp)).call k
 clear k cr4 fr4 cl4 fl4 ch4 fh4 B4
 rw [h2]
 go_wp2_with fail
 refine (rbefore_any (hiM c d) (hiM a b) _ gd gb).mono ?_
 rintro e w6 ⟨rfl,k⟩
 have B6:=bvia (below_set3 (o:=0) B5 (b:=w3.heap.size) (by omega)) k
 obtain ⟨cr6,fr6,zr6⟩:=((Blk.mk cr5 fr5 zr5).off3 (p:=w3.heap.size) (by omega) _ _ _).call k
 obtain ⟨ch6,fh6,zh6⟩:=((Blk.mk ch5 fh5 zh5).off3 (p:=w3.heap.size) (by omega) _ _ _).call k
 obtain ⟨cg6,fg6,zg6⟩:=((Blk.mk cg5 fg5 zg5).off3 (p:=w3.heap.size) (by omega) _ _ _).call k
 obtain ⟨cl6,fl6,zl6⟩:=((Blk.mk cl5 fl5 zl5).put3).call k
 clear k cr5 fr5 cl5 fl5 ch5 fh5 cf5 ff5 cg5 fg5 B5
 rw [h3]
 go_wp2_with fail
 refine (rbefore_any (hiM c d) (loM c d) _ gd gc).mono ?_
 rintro e w7 ⟨rfl,k⟩
 have B7:=bvia (below_set3 (o:=0) B6 (b:=w3.heap.size+1) (by omega)) k
 obtain ⟨cr7,fr7,zr7⟩:=((Blk.mk cr6 fr6 zr6).off3 (p:=w3.heap.size+1) (by omega) _ _ _).call k
 obtain ⟨cl7,fl7,zl7⟩:=((Blk.mk cl6 fl6 zl6).off3 (p:=w3.heap.size+1) (by omega) _ _ _).call k
 obtain ⟨ch7,fh7,zh7⟩:=((Blk.mk ch6 fh6 zh6).put3).call k
 clear k cr6 fr6 cl6 fl6 ch6 fh6 cg6 fg6 B6
 by_cases h4:befB (hiM c d) (loM c d)=true
 ·rw [h4]
  have H:Hid (∀ x y:Mt,(if (true:Bool)=true then x else y)=x):=fun x y=>if_pos rfl
  go_wp2
  exact bodyPost_ret (v:=zM.v) (by simp [results,Tryz.results38,go_sem,cr7,fr7,zM,zP]) rfl ⟨by first | rfl | rw [if_pos h4],below_set7 B7 (by omega)⟩
 have h4':befB (hiM c d) (loM c d)=false:=by simpa using h4
 rw [h4']
 go_wp2_with fail
 refine (rplace_any (loM c d) (hiM c d) _ gc gd).mono ?_
 rintro e w8 ⟨rfl,k⟩
 have B8:=bvia B7 k
 obtain ⟨cr8,fr8,zr8⟩:=(Blk.mk cr7 fr7 zr7).call k
 obtain ⟨cl8,fl8,zl8⟩:=(Blk.mk cl7 fl7 zl7).call k
 obtain ⟨ch8,fh8,zh8⟩:=(Blk.mk ch7 fh7 zh7).call k
 clear k cr7 fr7 cl7 fl7 ch7 fh7 B7
 by_cases h5:placeB (loM c d) (hiM c d)=true
 ·rw [h5]
  go_wp2
  exact bodyPost_ret (v:=Mt.v ⟨1,loM c d,zP⟩) (by simp [results,Tryz.results38,go_sem,cr8,fr8,zP]) rfl ⟨by first | rfl | rw [if_neg h4,if_pos h5] | rw [if_pos h5],below_set7 B8 (by omega)⟩
 ·have h5':placeB (loM c d) (hiM c d)=false:=by simpa using h5
  rw [h5']
  go_wp2
  exact bodyPost_ret (v:=Mt.v ⟨2,loM c d,hiM c d⟩) (by simp [results,Tryz.results38,go_sem,cr8,fr8]) rfl ⟨by first | rfl | rw [if_neg h4,if_neg h5] | rw [if_neg h5],below_set7 B8 (by omega)⟩
set_option maxHeartbeats 4000000 in
theorem rmeet_l1 (a b c d:Pt)(w:World)(ha:Gr a)(hb:Gr b)(hc:Gr c)(hd:Gr d)(hp : ¬ 0<(norm (xX a b c d) (xY a b c d) (xD a b c d)).d)(h1:(detM a b c != 0)=false)(h2:befB (loM a b) (loM c d)=true)(h3:befB (hiM c d) (hiM a b)=false) :
  Calls Tryz.prog 38 #[sg a b,sg c d] w fun e w'=>e = .returned (if befB (hiM a b) (loM c d)=true then zM else if placeB (loM c d) (hiM a b)=true then ⟨1,loM c d,zP⟩ else ⟨2,loM c d,hiM a b⟩:Mt).v/\Below w.heap.size w w':=by
 have ga:=loM_gd ha.gd hb.gd
 have gb:=hiM_gd ha.gd hb.gd
 have gc:=loM_gd hc.gd hd.gd
 have gd:=hiM_gd hc.gd hd.gd
 generalize hP:norm (xX a b c d) (xY a b c d) (xD a b c d)=P at *
 have HP:=hide hP
 clear hP
 go_enter Tryz.func38,Tryz.ntmps38
 go_wp2_with fail
 refine (rcross_any a b c d _ ha hb hc hd).mono ?_
 rintro e w1 ⟨rfl,k⟩
 have B1:=bvia (below3 _ _ _ _) k
 obtain ⟨cs1,fs1,zs1⟩:=(((Blk.new w _ _).alloc _).alloc _).call k
 obtain ⟨ct1,ft1,zt1⟩:=((Blk.at (w.heap.size+1) (by simp)).alloc _).call k
 obtain ⟨cr1,fr1,zr1⟩:=(Blk.at (w.heap.size+1+1) (by simp)).call k
 clear k
 rw [HP.out]
 go_wp2_with fail
 refine (rdet_any a b c _ ha.gd hb.gd hc.gd).mono ?_
 rintro e w2 ⟨rfl,k⟩
 have B2:=bvia (B1.alloc B1.size _) k
 obtain ⟨cs2,fs2,zs2⟩:=((Blk.mk cs1 fs1 zs1).alloc _).call k
 obtain ⟨ct2,ft2,zt2⟩:=((Blk.mk ct1 ft1 zt1).alloc _).call k
 obtain ⟨cr2,fr2,zr2⟩:=((Blk.mk cr1 fr1 zr1).alloc _).call k
 obtain ⟨cp2,fp2,zp2⟩:=(Blk.new w1 _ _).call k
 clear k cs1 fs1 ct1 ft1 cr1 fr1 B1
 clear cp2 fp2
 go_wp2_with fail
 refine (rends_any a b _ ha.gd hb.gd).mono ?_
 rintro e w3 ⟨rfl,k⟩
 have B3:=bvia B2 k
 obtain ⟨cs3,fs3,zs3⟩:=(Blk.mk cs2 fs2 zs2).call k
 obtain ⟨ct3,ft3,zt3⟩:=(Blk.mk ct2 ft2 zt2).call k
 obtain ⟨cr3,fr3,zr3⟩:=(Blk.mk cr2 fr2 zr2).call k
 clear k cs2 fs2 ct2 ft2 cr2 fr2 B2
 go_wp2_with fail
 refine (rends_any c d _ hc.gd hd.gd).mono ?_
 rintro e w4 ⟨rfl,k⟩
 have B4:=bvia ((B3.alloc B3.size _).alloc (by have:=B3.size;simp;omega) _) k
 obtain ⟨cs4,fs4,zs4⟩:=(((Blk.mk cs3 fs3 zs3).alloc _).alloc _).call k
 obtain ⟨ct4,ft4,zt4⟩:=(((Blk.mk ct3 ft3 zt3).alloc _).alloc _).call k
 obtain ⟨cr4,fr4,zr4⟩:=(((Blk.mk cr3 fr3 zr3).alloc _).alloc _).call k
 obtain ⟨cl4,fl4,zl4⟩:=((Blk.new w3 _ _).alloc _).call k
 obtain ⟨ch4,fh4,zh4⟩:=(Blk.at (w3.heap.size+1) (by simp)).call k
 clear k cs3 fs3 ct3 ft3 cr3 fr3 B3 cs4 fs4 ct4 ft4
 go_wp2_with fail
 refine (rbefore_any (loM a b) (loM c d) _ ga gc).mono ?_
 rintro e w5 ⟨rfl,k⟩
 have B5:=bvia ((B4.alloc B4.size _).alloc (by have:=B4.size;simp;omega) _) k
 obtain ⟨cr5,fr5,zr5⟩:=(((Blk.mk cr4 fr4 zr4).alloc _).alloc _).call k
 obtain ⟨cl5,fl5,zl5⟩:=(((Blk.mk cl4 fl4 zl4).alloc _).alloc _).call k
 obtain ⟨ch5,fh5,zh5⟩:=(((Blk.mk ch4 fh4 zh4).alloc _).alloc _).call k
 obtain ⟨cf5,ff5,zf5⟩:=((Blk.new w4 _ _).alloc _).call k
 obtain ⟨cg5,fg5,zg5⟩:=(Blk.at (w4.heap.size+1) (by simp)).call k
 clear k cr4 fr4 cl4 fl4 ch4 fh4 B4
 rw [h2]
 go_wp2_with fail
 refine (rbefore_any (hiM c d) (hiM a b) _ gd gb).mono ?_
 rintro e w6 ⟨rfl,k⟩
 have B6:=bvia (below_set3 (o:=0) B5 (b:=w3.heap.size) (by omega)) k
 obtain ⟨cr6,fr6,zr6⟩:=((Blk.mk cr5 fr5 zr5).off3 (p:=w3.heap.size) (by omega) _ _ _).call k
 obtain ⟨ch6,fh6,zh6⟩:=((Blk.mk ch5 fh5 zh5).off3 (p:=w3.heap.size) (by omega) _ _ _).call k
 obtain ⟨cg6,fg6,zg6⟩:=((Blk.mk cg5 fg5 zg5).off3 (p:=w3.heap.size) (by omega) _ _ _).call k
 obtain ⟨cl6,fl6,zl6⟩:=((Blk.mk cl5 fl5 zl5).put3).call k
 clear k cr5 fr5 cl5 fl5 ch5 fh5 cf5 ff5 cg5 fg5 B5
 rw [h3]
 go_wp2_with fail
 refine (rbefore_any (hiM a b) (loM c d) _ gb gc).mono ?_
 rintro e w7 ⟨rfl,k⟩
 have B7:=bvia B6 k
 obtain ⟨cr7,fr7,zr7⟩:=(Blk.mk cr6 fr6 zr6).call k
 obtain ⟨cl7,fl7,zl7⟩:=(Blk.mk cl6 fl6 zl6).call k
 obtain ⟨ch7,fh7,zh7⟩:=(Blk.mk ch6 fh6 zh6).call k
 clear k cr6 fr6 cl6 fl6 ch6 fh6 cg6 fg6 B6
 by_cases h4:befB (hiM a b) (loM c d)=true
 ·rw [h4]
  have H:Hid (∀ x y:Mt,(if (true:Bool)=true then x else y)=x):=fun x y=>if_pos rfl
  go_wp2
  exact bodyPost_ret (v:=zM.v) (by simp [results,Tryz.results38,go_sem,cr7,fr7,zM,zP]) rfl ⟨by first | rfl | rw [if_pos h4],below_set7 B7 (by omega)⟩
 have h4':befB (hiM a b) (loM c d)=false:=by simpa using h4
 rw [h4']
 go_wp2_with fail
 refine (rplace_any (loM c d) (hiM a b) _ gc gb).mono ?_
 rintro e w8 ⟨rfl,k⟩
 have B8:=bvia B7 k
 obtain ⟨cr8,fr8,zr8⟩:=(Blk.mk cr7 fr7 zr7).call k
 obtain ⟨cl8,fl8,zl8⟩:=(Blk.mk cl7 fl7 zl7).call k
 obtain ⟨ch8,fh8,zh8⟩:=(Blk.mk ch7 fh7 zh7).call k
 clear k cr7 fr7 cl7 fl7 ch7 fh7 B7
 by_cases h5:placeB (loM c d) (hiM a b)=true
 ·rw [h5]
  go_wp2
  exact bodyPost_ret (v:=Mt.v ⟨1,loM c d,zP⟩) (by simp [results,Tryz.results38,go_sem,cr8,fr8,zP]) rfl ⟨by first | rfl | rw [if_neg h4,if_pos h5] | rw [if_pos h5],below_set7 B8 (by omega)⟩
 ·have h5':placeB (loM c d) (hiM a b)=false:=by simpa using h5
  rw [h5']
  go_wp2
  exact bodyPost_ret (v:=Mt.v ⟨2,loM c d,hiM a b⟩) (by simp [results,Tryz.results38,go_sem,cr8,fr8]) rfl ⟨by first | rfl | rw [if_neg h4,if_neg h5] | rw [if_neg h5],below_set7 B8 (by omega)⟩
set_option maxHeartbeats 4000000 in
theorem rmeet_l2 (a b c d:Pt)(w:World)(ha:Gr a)(hb:Gr b)(hc:Gr c)(hd:Gr d)(hp : ¬ 0<(norm (xX a b c d) (xY a b c d) (xD a b c d)).d)(h1:(detM a b c != 0)=false)(h2:befB (loM a b) (loM c d)=false)(h3:befB (hiM c d) (hiM a b)=true) :
  Calls Tryz.prog 38 #[sg a b,sg c d] w fun e w'=>e = .returned (if befB (hiM c d) (loM a b)=true then zM else if placeB (loM a b) (hiM c d)=true then ⟨1,loM a b,zP⟩ else ⟨2,loM a b,hiM c d⟩:Mt).v/\Below w.heap.size w w':=by
 have ga:=loM_gd ha.gd hb.gd
 have gb:=hiM_gd ha.gd hb.gd
 have gc:=loM_gd hc.gd hd.gd
 have gd:=hiM_gd hc.gd hd.gd
 generalize hP:norm (xX a b c d) (xY a b c d) (xD a b c d)=P at *
 have HP:=hide hP
 clear hP
 go_enter Tryz.func38,Tryz.ntmps38
 go_wp2_with fail
 refine (rcross_any a b c d _ ha hb hc hd).mono ?_
 rintro e w1 ⟨rfl,k⟩
 have B1:=bvia (below3 _ _ _ _) k
 obtain ⟨cs1,fs1,zs1⟩:=(((Blk.new w _ _).alloc _).alloc _).call k
 obtain ⟨ct1,ft1,zt1⟩:=((Blk.at (w.heap.size+1) (by simp)).alloc _).call k
 obtain ⟨cr1,fr1,zr1⟩:=(Blk.at (w.heap.size+1+1) (by simp)).call k
 clear k
 rw [HP.out]
 go_wp2_with fail
 refine (rdet_any a b c _ ha.gd hb.gd hc.gd).mono ?_
 rintro e w2 ⟨rfl,k⟩
 have B2:=bvia (B1.alloc B1.size _) k
 obtain ⟨cs2,fs2,zs2⟩:=((Blk.mk cs1 fs1 zs1).alloc _).call k
 obtain ⟨ct2,ft2,zt2⟩:=((Blk.mk ct1 ft1 zt1).alloc _).call k
 obtain ⟨cr2,fr2,zr2⟩:=((Blk.mk cr1 fr1 zr1).alloc _).call k
 obtain ⟨cp2,fp2,zp2⟩:=(Blk.new w1 _ _).call k
 clear k cs1 fs1 ct1 ft1 cr1 fr1 B1
 clear cp2 fp2
 go_wp2_with fail
 refine (rends_any a b _ ha.gd hb.gd).mono ?_
 rintro e w3 ⟨rfl,k⟩
 have B3:=bvia B2 k
 obtain ⟨cs3,fs3,zs3⟩:=(Blk.mk cs2 fs2 zs2).call k
 obtain ⟨ct3,ft3,zt3⟩:=(Blk.mk ct2 ft2 zt2).call k
 obtain ⟨cr3,fr3,zr3⟩:=(Blk.mk cr2 fr2 zr2).call k
 clear k cs2 fs2 ct2 ft2 cr2 fr2 B2
 go_wp2_with fail
 refine (rends_any c d _ hc.gd hd.gd).mono ?_
 rintro e w4 ⟨rfl,k⟩
 have B4:=bvia ((B3.alloc B3.size _).alloc (by have:=B3.size;simp;omega) _) k
 obtain ⟨cs4,fs4,zs4⟩:=(((Blk.mk cs3 fs3 zs3).alloc _).alloc _).call k
 obtain ⟨ct4,ft4,zt4⟩:=(((Blk.mk ct3 ft3 zt3).alloc _).alloc _).call k
 obtain ⟨cr4,fr4,zr4⟩:=(((Blk.mk cr3 fr3 zr3).alloc _).alloc _).call k
 obtain ⟨cl4,fl4,zl4⟩:=((Blk.new w3 _ _).alloc _).call k
 obtain ⟨ch4,fh4,zh4⟩:=(Blk.at (w3.heap.size+1) (by simp)).call k
 clear k cs3 fs3 ct3 ft3 cr3 fr3 B3 cs4 fs4 ct4 ft4
 go_wp2_with fail
 refine (rbefore_any (loM a b) (loM c d) _ ga gc).mono ?_
 rintro e w5 ⟨rfl,k⟩
 have B5:=bvia ((B4.alloc B4.size _).alloc (by have:=B4.size;simp;omega) _) k
 obtain ⟨cr5,fr5,zr5⟩:=(((Blk.mk cr4 fr4 zr4).alloc _).alloc _).call k
 obtain ⟨cl5,fl5,zl5⟩:=(((Blk.mk cl4 fl4 zl4).alloc _).alloc _).call k
 obtain ⟨ch5,fh5,zh5⟩:=(((Blk.mk ch4 fh4 zh4).alloc _).alloc _).call k
 obtain ⟨cf5,ff5,zf5⟩:=((Blk.new w4 _ _).alloc _).call k
 obtain ⟨cg5,fg5,zg5⟩:=(Blk.at (w4.heap.size+1) (by simp)).call k
 clear k cr4 fr4 cl4 fl4 ch4 fh4 B4
 rw [h2]
 go_wp2_with fail
 refine (rbefore_any (hiM c d) (hiM a b) _ gd gb).mono ?_
 rintro e w6 ⟨rfl,k⟩
 have B6:=bvia B5 k
 obtain ⟨cr6,fr6,zr6⟩:=(Blk.mk cr5 fr5 zr5).call k
 obtain ⟨cl6,fl6,zl6⟩:=(Blk.mk cl5 fl5 zl5).call k
 obtain ⟨ch6,fh6,zh6⟩:=(Blk.mk ch5 fh5 zh5).call k
 obtain ⟨cg6,fg6,zg6⟩:=(Blk.mk cg5 fg5 zg5).call k
 clear k cr5 fr5 cl5 fl5 ch5 fh5 cf5 ff5 cg5 fg5 B5
 rw [h3]
 go_wp2_with fail
 refine (rbefore_any (hiM c d) (loM a b) _ gd ga).mono ?_
 rintro e w7 ⟨rfl,k⟩
 have B7:=bvia (below_set3 (o:=0) B6 (b:=w3.heap.size+1) (by omega)) k
 obtain ⟨cr7,fr7,zr7⟩:=((Blk.mk cr6 fr6 zr6).off3 (p:=w3.heap.size+1) (by omega) _ _ _).call k
 obtain ⟨cl7,fl7,zl7⟩:=((Blk.mk cl6 fl6 zl6).off3 (p:=w3.heap.size+1) (by omega) _ _ _).call k
 obtain ⟨ch7,fh7,zh7⟩:=((Blk.mk ch6 fh6 zh6).put3).call k
 clear k cr6 fr6 cl6 fl6 ch6 fh6 cg6 fg6 B6
 by_cases h4:befB (hiM c d) (loM a b)=true
 ·rw [h4]
  have H:Hid (∀ x y:Mt,(if (true:Bool)=true then x else y)=x):=fun x y=>if_pos rfl
  go_wp2
  exact bodyPost_ret (v:=zM.v) (by simp [results,Tryz.results38,go_sem,cr7,fr7,zM,zP]) rfl ⟨by first | rfl | rw [if_pos h4],below_set7 B7 (by omega)⟩
 have h4':befB (hiM c d) (loM a b)=false:=by simpa using h4
 rw [h4']
 go_wp2_with fail
 refine (rplace_any (loM a b) (hiM c d) _ ga gd).mono ?_
 rintro e w8 ⟨rfl,k⟩
 have B8:=bvia B7 k
 obtain ⟨cr8,fr8,zr8⟩:=(Blk.mk cr7 fr7 zr7).call k
 obtain ⟨cl8,fl8,zl8⟩:=(Blk.mk cl7 fl7 zl7).call k
 obtain ⟨ch8,fh8,zh8⟩:=(Blk.mk ch7 fh7 zh7).call k
 clear k cr7 fr7 cl7 fl7 ch7 fh7 B7
 by_cases h5:placeB (loM a b) (hiM c d)=true
 ·rw [h5]
  go_wp2
  exact bodyPost_ret (v:=Mt.v ⟨1,loM a b,zP⟩) (by simp [results,Tryz.results38,go_sem,cr8,fr8,zP]) rfl ⟨by first | rfl | rw [if_neg h4,if_pos h5] | rw [if_pos h5],below_set7 B8 (by omega)⟩
 ·have h5':placeB (loM a b) (hiM c d)=false:=by simpa using h5
  rw [h5']
  go_wp2
  exact bodyPost_ret (v:=Mt.v ⟨2,loM a b,hiM c d⟩) (by simp [results,Tryz.results38,go_sem,cr8,fr8]) rfl ⟨by first | rfl | rw [if_neg h4,if_neg h5] | rw [if_neg h5],below_set7 B8 (by omega)⟩
set_option maxHeartbeats 4000000 in
theorem rmeet_l3 (a b c d:Pt)(w:World)(ha:Gr a)(hb:Gr b)(hc:Gr c)(hd:Gr d)(hp : ¬ 0<(norm (xX a b c d) (xY a b c d) (xD a b c d)).d)(h1:(detM a b c != 0)=false)(h2:befB (loM a b) (loM c d)=false)(h3:befB (hiM c d) (hiM a b)=false) :
  Calls Tryz.prog 38 #[sg a b,sg c d] w fun e w'=>e = .returned (if befB (hiM a b) (loM a b)=true then zM else if placeB (loM a b) (hiM a b)=true then ⟨1,loM a b,zP⟩ else ⟨2,loM a b,hiM a b⟩:Mt).v/\Below w.heap.size w w':=by
 have ga:=loM_gd ha.gd hb.gd
 have gb:=hiM_gd ha.gd hb.gd
 have gc:=loM_gd hc.gd hd.gd
 have gd:=hiM_gd hc.gd hd.gd
 generalize hP:norm (xX a b c d) (xY a b c d) (xD a b c d)=P at *
 have HP:=hide hP
 clear hP
 go_enter Tryz.func38,Tryz.ntmps38
 go_wp2_with fail
 refine (rcross_any a b c d _ ha hb hc hd).mono ?_
 rintro e w1 ⟨rfl,k⟩
 have B1:=bvia (below3 _ _ _ _) k
 obtain ⟨cs1,fs1,zs1⟩:=(((Blk.new w _ _).alloc _).alloc _).call k
 obtain ⟨ct1,ft1,zt1⟩:=((Blk.at (w.heap.size+1) (by simp)).alloc _).call k
 obtain ⟨cr1,fr1,zr1⟩:=(Blk.at (w.heap.size+1+1) (by simp)).call k
 clear k
 rw [HP.out]
 go_wp2_with fail
 refine (rdet_any a b c _ ha.gd hb.gd hc.gd).mono ?_
 rintro e w2 ⟨rfl,k⟩
 have B2:=bvia (B1.alloc B1.size _) k
 obtain ⟨cs2,fs2,zs2⟩:=((Blk.mk cs1 fs1 zs1).alloc _).call k
 obtain ⟨ct2,ft2,zt2⟩:=((Blk.mk ct1 ft1 zt1).alloc _).call k
 obtain ⟨cr2,fr2,zr2⟩:=((Blk.mk cr1 fr1 zr1).alloc _).call k
 obtain ⟨cp2,fp2,zp2⟩:=(Blk.new w1 _ _).call k
 clear k cs1 fs1 ct1 ft1 cr1 fr1 B1
 clear cp2 fp2
 go_wp2_with fail
 refine (rends_any a b _ ha.gd hb.gd).mono ?_
 rintro e w3 ⟨rfl,k⟩
 have B3:=bvia B2 k
 obtain ⟨cs3,fs3,zs3⟩:=(Blk.mk cs2 fs2 zs2).call k
 obtain ⟨ct3,ft3,zt3⟩:=(Blk.mk ct2 ft2 zt2).call k
 obtain ⟨cr3,fr3,zr3⟩:=(Blk.mk cr2 fr2 zr2).call k
 clear k cs2 fs2 ct2 ft2 cr2 fr2 B2
 go_wp2_with fail
 refine (rends_any c d _ hc.gd hd.gd).mono ?_
 rintro e w4 ⟨rfl,k⟩
 have B4:=bvia ((B3.alloc B3.size _).alloc (by have:=B3.size;simp;omega) _) k
 obtain ⟨cs4,fs4,zs4⟩:=(((Blk.mk cs3 fs3 zs3).alloc _).alloc _).call k
 obtain ⟨ct4,ft4,zt4⟩:=(((Blk.mk ct3 ft3 zt3).alloc _).alloc _).call k
 obtain ⟨cr4,fr4,zr4⟩:=(((Blk.mk cr3 fr3 zr3).alloc _).alloc _).call k
 obtain ⟨cl4,fl4,zl4⟩:=((Blk.new w3 _ _).alloc _).call k
 obtain ⟨ch4,fh4,zh4⟩:=(Blk.at (w3.heap.size+1) (by simp)).call k
 clear k cs3 fs3 ct3 ft3 cr3 fr3 B3 cs4 fs4 ct4 ft4
 go_wp2_with fail
 refine (rbefore_any (loM a b) (loM c d) _ ga gc).mono ?_
 rintro e w5 ⟨rfl,k⟩
 have B5:=bvia ((B4.alloc B4.size _).alloc (by have:=B4.size;simp;omega) _) k
 obtain ⟨cr5,fr5,zr5⟩:=(((Blk.mk cr4 fr4 zr4).alloc _).alloc _).call k
 obtain ⟨cl5,fl5,zl5⟩:=(((Blk.mk cl4 fl4 zl4).alloc _).alloc _).call k
 obtain ⟨ch5,fh5,zh5⟩:=(((Blk.mk ch4 fh4 zh4).alloc _).alloc _).call k
 obtain ⟨cf5,ff5,zf5⟩:=((Blk.new w4 _ _).alloc _).call k
 obtain ⟨cg5,fg5,zg5⟩:=(Blk.at (w4.heap.size+1) (by simp)).call k
 clear k cr4 fr4 cl4 fl4 ch4 fh4 B4
 rw [h2]
 go_wp2_with fail
 refine (rbefore_any (hiM c d) (hiM a b) _ gd gb).mono ?_
 rintro e w6 ⟨rfl,k⟩
 have B6:=bvia B5 k
 obtain ⟨cr6,fr6,zr6⟩:=(Blk.mk cr5 fr5 zr5).call k
 obtain ⟨cl6,fl6,zl6⟩:=(Blk.mk cl5 fl5 zl5).call k
 obtain ⟨ch6,fh6,zh6⟩:=(Blk.mk ch5 fh5 zh5).call k
 obtain ⟨cg6,fg6,zg6⟩:=(Blk.mk cg5 fg5 zg5).call k
 clear k cr5 fr5 cl5 fl5 ch5 fh5 cf5 ff5 cg5 fg5 B5
 rw [h3]
 go_wp2_with fail
 refine (rbefore_any (hiM a b) (loM a b) _ gb ga).mono ?_
 rintro e w7 ⟨rfl,k⟩
 have B7:=bvia B6 k
 obtain ⟨cr7,fr7,zr7⟩:=(Blk.mk cr6 fr6 zr6).call k
 obtain ⟨cl7,fl7,zl7⟩:=(Blk.mk cl6 fl6 zl6).call k
 obtain ⟨ch7,fh7,zh7⟩:=(Blk.mk ch6 fh6 zh6).call k
 clear k cr6 fr6 cl6 fl6 ch6 fh6 cg6 fg6 B6
 by_cases h4:befB (hiM a b) (loM a b)=true
 ·rw [h4]
  have H:Hid (∀ x y:Mt,(if (true:Bool)=true then x else y)=x):=fun x y=>if_pos rfl
  go_wp2
  exact bodyPost_ret (v:=zM.v) (by simp [results,Tryz.results38,go_sem,cr7,fr7,zM,zP]) rfl ⟨by first | rfl | rw [if_pos h4],below_set7 B7 (by omega)⟩
 have h4':befB (hiM a b) (loM a b)=false:=by simpa using h4
 rw [h4']
 go_wp2_with fail
 refine (rplace_any (loM a b) (hiM a b) _ ga gb).mono ?_
 rintro e w8 ⟨rfl,k⟩
 have B8:=bvia B7 k
 obtain ⟨cr8,fr8,zr8⟩:=(Blk.mk cr7 fr7 zr7).call k
 obtain ⟨cl8,fl8,zl8⟩:=(Blk.mk cl7 fl7 zl7).call k
 obtain ⟨ch8,fh8,zh8⟩:=(Blk.mk ch7 fh7 zh7).call k
 clear k cr7 fr7 cl7 fl7 ch7 fh7 B7
 by_cases h5:placeB (loM a b) (hiM a b)=true
 ·rw [h5]
  go_wp2
  exact bodyPost_ret (v:=Mt.v ⟨1,loM a b,zP⟩) (by simp [results,Tryz.results38,go_sem,cr8,fr8,zP]) rfl ⟨by first | rfl | rw [if_neg h4,if_pos h5] | rw [if_pos h5],below_set7 B8 (by omega)⟩
 ·have h5':placeB (loM a b) (hiM a b)=false:=by simpa using h5
  rw [h5']
  go_wp2
  exact bodyPost_ret (v:=Mt.v ⟨2,loM a b,hiM a b⟩) (by simp [results,Tryz.results38,go_sem,cr8,fr8]) rfl ⟨by first | rfl | rw [if_neg h4,if_neg h5] | rw [if_neg h5],below_set7 B8 (by omega)⟩
theorem rmeet_any (a b c d:Pt)(w:World)(ha:Gr a)(hb:Gr b)(hc:Gr c)(hd:Gr d) :
  Calls Tryz.prog 38 #[sg a b,sg c d] w fun e w'=>e = .returned (rmeetM a b c d).v/\Below w.heap.size w w':=by
 unfold rmeetM
 dsimp only
 by_cases hp:0<(norm (xX a b c d) (xY a b c d) (xD a b c d)).d
 ·rw [if_pos hp]
  by_cases h1:withB (norm (xX a b c d) (xY a b c d) (xD a b c d)) a b=true
  ·by_cases h2:withB (norm (xX a b c d) (xY a b c d) (xD a b c d)) c d=true
   ·rw [if_pos ⟨h1,h2⟩];exact rmeet_a0 a b c d w ha hb hc hd hp h1 h2
   ·rw [if_neg (fun e=>h2 e.2)];exact rmeet_a1 a b c d w ha hb hc hd hp h1 (by simpa using h2)
  ·by_cases h2:withB (norm (xX a b c d) (xY a b c d) (xD a b c d)) c d=true
   ·rw [if_neg (fun e=>h1 e.1)];exact rmeet_a2 a b c d w ha hb hc hd hp (by simpa using h1) h2
   ·rw [if_neg (fun e=>h1 e.1)];exact rmeet_a3 a b c d w ha hb hc hd hp (by simpa using h1) (by simpa using h2)
 ·rw [if_neg hp]
  by_cases h1:detM a b c=0
  ·rw [if_neg (fun e=>e h1)]
   have h1':(detM a b c != 0)=false:=by simpa using h1
   unfold rlineM
   dsimp only
   by_cases h2:befB (loM a b) (loM c d)=true
   ·by_cases h3:befB (hiM c d) (hiM a b)=true
    ·rw [if_pos h2,if_pos h3];exact rmeet_l0 a b c d w ha hb hc hd hp h1' h2 h3
    ·rw [if_pos h2,if_neg h3];exact rmeet_l1 a b c d w ha hb hc hd hp h1' h2 (by simpa using h3)
   ·by_cases h3:befB (hiM c d) (hiM a b)=true
    ·rw [if_neg h2,if_pos h3];exact rmeet_l2 a b c d w ha hb hc hd hp h1' (by simpa using h2) h3
    ·rw [if_neg h2,if_neg h3];exact rmeet_l3 a b c d w ha hb hc hd hp h1' (by simpa using h2) (by simpa using h3)
  ·rw [if_pos h1]
   exact rmeet_p0 a b c d w ha hb hc hd hp (by simpa using h1)
end Go.Proofs.YtnkcbephceollabGreat
