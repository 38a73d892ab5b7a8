/- A part. -/
import Derived.Test.YteefjeddboefcaaGreatDoorPart04
import Derived.Deep.MidRow
namespace Go.Proofs.YteefjeddboefcaaGreatDoor
open Go Go.RowKit
set_option maxRecDepth 100000
set_option maxHeartbeats 6400000
theorem row_of (w:World) (ss:List ByteArray):(w.alloc (.cells (ss.map Value.string).toArray 9)).rowIs w.heap.size 9 ss.length (fun i=>.string (ss.getD i ByteArray.empty)):=by
 have h:=World.rowIs_alloc w (ss.map Value.string).toArray 9 (fun i=>.string (ss.getD i ByteArray.empty)) (fun i hi=>by
  have hi':i < ss.length:=by simpa using hi
  simp [hi'])
 simpa using h
theorem half_even (m X:Nat) (h:m % 2=0):m / 2 * (X+X)=m * X:=by
 obtain ⟨q,rfl⟩:∃ q,m=2 * q:=⟨m / 2,by omega⟩
 rw [show 2 * q / 2=q from by omega,Nat.mul_add,Nat.mul_assoc];omega
theorem half_odd (m X:Nat) (h:m % 2=1):m / 2 * (X+X)+X=m * X:=by
 obtain ⟨q,rfl⟩:∃ q,m=2 * q+1:=⟨m / 2,by omega⟩
 rw [show (2 * q+1) / 2=q from by omega,Nat.mul_add,Nat.add_mul,Nat.mul_assoc,Nat.one_mul];omega
theorem l6Many_any (w:World) (s:ByteArray) (n:Nat) (hs:s.size≤2) (hn:n≤1000) :
 Calls Tryz.prog 42 #[.string s,.int .i64 (n:Int)] w fun e w'=>∃ out:ByteArray,e=.returned (.string out)∧out.size≤2000∧w'=w:=by
 have h0:n * s.size≤2000:=Nat.le_trans (Nat.mul_le_mul hn hs) (by decide)
 go_enter Tryz.func42,Tryz.ntmps42
 go_wp2_with fail
 go_loopw [0,1,5] (fun s0 nn oo wr=>∃ (m:Nat) (x out:ByteArray),s0=.string x∧nn=.int .i64 (m:Int)∧oo=.string out∧m≤1000∧out.size+m * x.size≤2000∧x.size≤4000∧Hid (wr=w)) (fun _ nn _ _=>(intOf nn).toNat)
 case atStart=>exact ⟨n,s,⟨#[]⟩,rfl,rfl,rfl,hn,by show 0+_≤_;omega,by omega,rfl⟩
 case round =>
  obtain ⟨m,x,out,rfl,rfl,rfl,hm,hmx,hx,HW⟩:=hrel
  by_cases hm0:m=0
  · have hq:decide ((0:Int) < (m:Int))=false:=by simp;omega
    have hqn:decide (0 < m)=false:=by simp;omega
    clear hm0
    go_wp2_with fail
    go_ret
    exact ⟨out,rfl,by omega,HW.out⟩
  · have hq:decide ((0:Int) < (m:Int))=true:=by simp;omega
    have hqn:decide (0 < m)=true:=by simp;omega
    have hxm:x.size≤m * x.size:=Nat.le_mul_of_pos_left _ (by omega)
    have hl1:¬ (9223372036854775807 < x.size+x.size):=by omega
    have hl2:¬ (9223372036854775807 < out.size+x.size):=by omega
    have hsx:(x++x).size=x.size+x.size:=ByteArray.size_append
    have hso:(out++x).size=out.size+x.size:=ByteArray.size_append
    rcases (show (m:Int) % 2=0∨(m:Int) % 2=1 by omega) with he | he
    · have hh:=half_even m x.size (by omega)
      go_wp2_with fail
      go_roundw
      case rel=>exact ⟨m / 2,x++x,out,rfl,by go_num,rfl,by omega,by rw [hsx];omega,by rw [hsx];omega,HW⟩
      case measure=>simp [intOf];omega
    · have hh:=half_odd m x.size (by omega)
      go_wp2_with fail
      go_roundw
      case rel=>exact ⟨m / 2,x++x,out++x,rfl,by go_num,rfl,by omega,by rw [hsx,hso];omega,by rw [hsx];omega,HW⟩
      case measure=>simp [intOf];omega
theorem of_row (R:Nat) (w:World) (v:Value) (b:List UInt8) (p:Nat) (h:DR R w v b p) (hp:p≤10000000) (ss:List ByteArray) (h1:1≤ss.length) (h2:ss.length≤100) (hs:∀ i,i < ss.length→(ss.getD i ByteArray.empty).size≤2000) :
 Calls Tryz.prog 41 #[.pointer (some ⟨R,0,none⟩),.slice (some ⟨w.heap.size,0,none⟩) ss.length ss.length] (w.alloc (.cells (ss.map Value.string).toArray 9)) fun e w'=>∃ x:ByteArray,e=.returned (.string x)∧x.size≤2000∧Hid (DR R w' v b (p+1))∧Hid (But R w w'):=by
 refine (of_any R _ v b p (h.on ((Below.refl _ _).alloc (Nat.le_refl _) _)) (by omega) w.heap.size ss.length (fun i=>ss.getD i ByteArray.empty) (by omega) (row_of w ss) h.cells.lt).mono ?_
 rintro e w' ⟨r,rfl,hr,hd,hb⟩
 exact ⟨_,rfl,hs r hr,hd,(But.alloc R w _).trans hb.out⟩

def PrEnd (R:Nat) (w w':World) (v:Value) (b:List UInt8) (p:Nat) (e:Ending):Prop :=
 ∃ (k m:Kd) (c d:C3) (p':Nat),e=.returned (.tuple #[.agg #[c.c0,c.c1,c.c2],.agg #[d.c0,d.c1,d.c2]])∧KRep (fun x=>w.heap.size≤x∧x < w'.heap.size) w' k c∧KRep (fun x=>w.heap.size≤x∧x < w'.heap.size) w' m d∧DR R w' v b p'∧p'≤p+270000∧0 < qT k 1∧0 < qT m 1∧wKd k≤4680∧wKd m≤80000∧But R w w'
theorem PrEnd.drew {R:Nat} {w X:World} {v:Value} {b:List UInt8} {p:Nat} {e:Ending} (h:PrEnd R w X v b p e):PrEnd R w X.drew v b p e:=by
 obtain ⟨k,m,c,d,p',h1,h2,h3,h4,h5,h6,h7,h8,h9,h10⟩:=h
 exact ⟨k,m,c,d,p',h1,KRep.carry (w:=X) (w':=X.drew) (P:=fun x=>w.heap.size≤x∧x < X.heap.size) (fun _ _=>rfl) (fun _ h=>h) _ _ h2,KRep.carry (w:=X) (w':=X.drew) (P:=fun x=>w.heap.size≤x∧x < X.heap.size) (fun _ _=>rfl) (fun _ h=>h) _ _ h3,h4.on (Below.refl _ X).drew,h5,h6,h7,h8,h9,h10.trans (But.of_below (Below.refl _ X).drew)⟩
structure P7 (R:Nat) (w W:World) (v:Value) (b:List UInt8) (q:Nat) (k:Kd) (c:C3) (A:Nat):Prop where
 dr:DR R W v b q
 but:But R w W
 hR:R < w.heap.size
 bX:W.rowIs w.heap.size 26 3 (row3 (.int .i64 0) (.slice none 0 0) (.slice none 0 0))
 bY:W.rowIs (w.heap.size+1) 26 3 (row3 (.int .i64 0) (.slice none 0 0) (.slice none 0 0))
 bA:W.rowIs A 26 3 (row3 c.c0 c.c1 c.c2)
 kr:KRep (fun x=>w.heap.size+1 < x∧x < A) W k c
 hA:w.heap.size+1 < A
theorem P7.next {R:Nat} {w W W':World} {v:Value} {b:List UInt8} {q q':Nat} {k:Kd} {c:C3} {A:Nat} (h:P7 R w W v b q k c A) (hd:DR R W' v b q') (hb:But R W W'):P7 R w W' v b q' k c A:=by
 have h1:=h.hR;have h2:=h.hA;have h3:=h.bA.lt
 exact ⟨hd,h.but.trans hb,h1,h.bX.of_block (hb.at h.bX.lt (by omega)),h.bY.of_block (hb.at h.bY.lt (by omega)),h.bA.of_block (hb.at h3 (by omega)),KRep.carry (fun x hx=>hb.at (by omega) (by omega)) (fun _ h=>h) _ _ h.kr,h2⟩
theorem P7.on {R:Nat} {w W W':World} {v:Value} {b:List UInt8} {q:Nat} {k:Kd} {c:C3} {A:Nat} (h:P7 R w W v b q k c A) (hb:Below W.heap.size W W'):P7 R w W' v b q k c A:=h.next (h.dr.on hb) (But.of_below hb)
theorem num_pr {p p2 p4 i:Nat} (h1:p2≤p+1+18724) (h2:p4≤p2+80000 * (i+1)) (h3:i < 3):p4≤p+270000:=by
 have h4:80000 * (i+1)≤80000 * 3:=Nat.mul_le_mul_left _ h3
 have h5:p4≤p+1+18724+80000 * 3:=Nat.le_trans h2 (Nat.add_le_add h1 h4)
 exact Nat.le_trans h5 (by rw [Nat.add_assoc,Nat.add_assoc];exact Nat.add_le_add_left (by decide) _)
theorem pr_put {R:Nat} {w W:World} {v:Value} {b:List UInt8} {p q:Nat} {k m:Kd} {c d:C3} (hd:DR R W v b q) (hb:But R w W) (hR:R < w.heap.size) (hq:q≤p+270000) (hk:KRep (fun x=>w.heap.size+1 < x∧x < W.heap.size) W k c) (hm:KRep (fun x=>w.heap.size+1 < x∧x < W.heap.size) W m d) (h1:0 < qT k 1) (h2:0 < qT m 1) (h3:wKd k≤4680) (h4:wKd m≤80000) (va vb vc vd ve vf:Value) :
 PrEnd R w ((((((W.setCell ⟨w.heap.size,0,none⟩ va).setCell ⟨w.heap.size,1,none⟩ vb).setCell ⟨w.heap.size,2,none⟩ vc).setCell ⟨w.heap.size+1,0,none⟩ vd).setCell ⟨w.heap.size+1,1,none⟩ ve).setCell ⟨w.heap.size+1,2,none⟩ vf) v b p (.returned (.tuple #[.agg #[c.c0,c.c1,c.c2],.agg #[d.c0,d.c1,d.c2]])):=by
 refine ⟨k,m,c,d,q,rfl,KRep.carry (fun x hx=>by repeat rw [Below.heap_setCell _ _ _ _ (by simp;omega)]) (fun x hx=>⟨by omega,by simp only [size_setCell];exact hx.2⟩) _ _ hk,KRep.carry (fun x hx=>by repeat rw [Below.heap_setCell _ _ _ _ (by simp;omega)]) (fun x hx=>⟨by omega,by simp only [size_setCell];exact hx.2⟩) _ _ hm,?_,hq,h1,h2,h3,h4,?_⟩
 · repeat refine DR.set ?_ (by omega) _ _
   exact hd
 · repeat refine but_setx ?_ (by omega) _ _
   exact hb
theorem l5Pair_any (R:Nat) (w:World) (v:Value) (b:List UInt8) (p:Nat) (h:DR R w v b p) (hp:p≤100000) :
 Calls Tryz.prog 17 #[.pointer (some ⟨R,0,none⟩)] w fun e w'=>PrEnd R w w' v b p e:=by
 have hR:R < w.heap.size:=h.cells.lt
 have hb0:Below w.heap.size w ((w.alloc (.cells #[.int .i64 0,.slice none 0 0,.slice none 0 0] 26)).alloc (.cells #[.int .i64 0,.slice none 0 0,.slice none 0 0] 26)):=((Below.refl _ _).alloc (Nat.le_refl _) _).alloc (by simp) _
 have hX:=(row3_alloc w (.int .i64 0) (.slice none 0 0) (.slice none 0 0) 26).alloc (.cells #[.int .i64 0,.slice none 0 0,.slice none 0 0] 26)
 have hY:=row3_alloc (w.alloc (.cells #[.int .i64 0,.slice none 0 0,.slice none 0 0] 26)) (.int .i64 0) (.slice none 0 0) (.slice none 0 0) 26
 rw [World.size_alloc] at hY
 have HD:=xH (h.on hb0);have HB:=xH hb0;have HX:=xH hX;have HY:=xH hY;have HR:=xH hR;have HP:=xH hp
 clear h hb0 hX hY hR hp
 go_enter Tryz.func17,Tryz.ntmps17
 go_wp2_with fail
 generalize ((w.alloc (.cells #[.int .i64 0,.slice none 0 0,.slice none 0 0] 26)).alloc (.cells #[.int .i64 0,.slice none 0 0,.slice none 0 0] 26))=W0 at HD HB HX HY ⊢
 refine (pick_any R W0 v b p 3 (xU HD) (by omega) (by have:=xU HP;omega)).mono ?_
 rintro e w1 ⟨r,rfl,hr,HD1,HB1⟩
 have HC:=xH (fun top=>l5Some_ok R w1 v b (p+1) top (xU HD1) (by have:=xU HP;omega))
 have HB1b:=xH ((But.of_below (B:=R) (xU HB)).trans (xU HB1))
 have HX1:=xH ((xU HX).of_block ((xU HB1).at (xU HX).lt (by have:=xU HR;omega)))
 have HY1:=xH ((xU HY).of_block ((xU HB1).at (xU HY).lt (by have:=xU HR;omega)))
 clear HD HB HX HY HD1 HB1
 go_wp2_with fail
 refine (xU HC _).mono ?_
 rintro e w3 ⟨k,⟨k0,k1,k2⟩,p2,rfl,hk,hd2,hp2,hwk,hb3,hq⟩
 obtain ⟨g0,-,⟨a1,cap1,g1,-⟩,a2,cap2,g2,-⟩:=hk.open
 simp only at g0 g1 g2
 subst g0 g1 g2
 have hY1:=(xU HY1).lt
 have hb13:=hb3.size
 have hst:P7 R w (w3.alloc (.cells #[.int .i64 k.sort,.slice a1 k.names.length cap1,.slice a2 k.kids.length cap2] 26)) v b p2 k ⟨.int .i64 k.sort,.slice a1 k.names.length cap1,.slice a2 k.kids.length cap2⟩ w3.heap.size:=by
  have hbA:Below w3.heap.size w3 (w3.alloc (.cells #[.int .i64 k.sort,.slice a1 k.names.length cap1,.slice a2 k.kids.length cap2] 26)):=(Below.refl _ _).alloc (Nat.le_refl _) _
  have hRR:=xU HR
  exact ⟨hd2.on hbA,((xU HB1b).trans hb3).trans (But.of_below hbA),hRR,((xU HX1).of_block (hb3.at (xU HX1).lt (by omega))).alloc _,((xU HY1).of_block (hb3.at hY1 (by omega))).alloc _,row3_alloc w3 _ _ _ _,KRep.carry (fun x hx=>hbA.block x hx.2) (fun x hx=>⟨by omega,hx.2⟩) _ _ hk,by omega⟩
 have HST:=xH hst;have HQ:=xH hq;have HWK:=xH hwk;have HP2:=xH hp2
 clear hk hd2 hb3 hst hq hwk hp2 HC HB1b HX1 HY1 hY1 hb13
 go_wp2_with fail
 generalize w3.alloc (.cells #[.int .i64 k.sort,.slice a1 k.names.length cap1,.slice a2 k.kids.length cap2] 26)=W3 at HST ⊢
 go_loopw [5] (fun vi wr=>∃ (i q:Nat),i≤3∧vi=.int .i64 i∧q≤p2+80000 * i∧Hid (P7 R w wr v b q k ⟨.int .i64 k.sort,.slice a1 k.names.length cap1,.slice a2 k.kids.length cap2⟩ w3.heap.size)) (fun vi _=>3 - (intOf vi).toNat)
 case atStart=>exact ⟨0,p2,by omega,rfl,by omega,xU HST⟩
 case round =>
  obtain ⟨i,q,hi,rfl,hq,HS⟩:=hrel
  obtain ⟨k0,k1,k2⟩:=cs3 HS.out.bA (by omega)
  simp only [row3] at k0 k1 k2
  by_cases hlt:i < 3
  · have hok:=ok_of_qT (xU HQ)
    have hcall:=wd_all (ksz k+1) k (by omega) _ R wr v b q ⟨.int .i64 k.sort,.slice a1 k.names.length cap1,.slice a2 k.kids.length cap2⟩ HS.out.dr (fun x hx=>by have:=HS.out.hR;have:=HS.out.bA.lt;omega) HS.out.kr hok.1 (by have:=xU HP2;have:=xU HP;omega)
    have HCALL:=xH hcall;have HOK:=xH hok.2
    clear hcall hok
    have hd3:decide ((i:Int) < 3)=true:=by simp;omega
    go_wp2_with fail
    refine (xU HCALL).mono ?_
    rintro e w4 ⟨m,⟨m0,m1,m2⟩,p4,rfl,hm,hd4,hp4,hw4,hb4⟩
    obtain ⟨g0,-,⟨a3,cap3,g1,-⟩,a4,cap4,g2,-⟩:=hm.open
    simp only at g0 g1 g2
    subst g0 g1 g2
    have hs4:=HS.out.next hd4 hb4
    have hbA:Below w4.heap.size w4 (w4.alloc (.cells #[.int .i64 m.sort,.slice a3 m.names.length cap3,.slice a4 m.kids.length cap4] 26)):=(Below.refl _ _).alloc (Nat.le_refl _) _
    have hs5:=hs4.on hbA
    have hm5:KRep (fun x=>wr.heap.size≤x∧x < w4.heap.size) (w4.alloc (.cells #[.int .i64 m.sort,.slice a3 m.names.length cap3,.slice a4 m.kids.length cap4] 26)) m ⟨.int .i64 m.sort,.slice a3 m.names.length cap3,.slice a4 m.kids.length cap4⟩:=KRep.carry (fun x hx=>hbA.block x hx.2) (fun _ h=>h) _ _ hm
    have hr5:=row3_alloc w4 (.int .i64 m.sort) (.slice a3 m.names.length cap3) (.slice a4 m.kids.length cap4) 26
    have hkok:=specKindOk_any m _ ⟨.int .i64 m.sort,.slice a3 m.names.length cap3,.slice a4 m.kids.length cap4⟩ (w4.alloc (.cells #[.int .i64 m.sort,.slice a3 m.names.length cap3,.slice a4 m.kids.length cap4] 26)) (fun x hx=>by rw [World.size_alloc];omega) hm5
    have hwm:wKd m≤80000:=by have:=xU HOK;omega
    have hpp:p4≤p2+80000 * (i+1):=by have:=xU HOK;omega
    have hs45:wr.heap.size≤w4.heap.size:=hb4.size
    have hls:w.heap.size+1 < wr.heap.size:=Nat.lt_trans HS.out.hA HS.out.bA.lt
    have HS5:=xH hs5;have HM5:=xH hm5;have HR5:=xH hr5;have HKOK:=xH hkok;have HWM:=xH hwm;have HPP:=xH hpp
    clear hm hd4 hp4 hw4 hb4 hs4 hbA hs5 hm5 hr5 hkok hwm hpp k0 k1 k2 HS HCALL
    go_wp2_with fail
    generalize w4.alloc (.cells #[.int .i64 m.sort,.slice a3 m.names.length cap3,.slice a4 m.kids.length cap4] 26)=W4 at HS5 HM5 HR5 HKOK ⊢
    refine (xU HKOK).mono ?_
    rintro e w6 ⟨rfl,hb6⟩
    have hs6:=(xU HS5).on hb6
    have hm6:=KRep.carry (w':=w6) (fun x (hx:wr.heap.size≤x∧x < w4.heap.size)=>hb6.block x (by have:=(xU HR5).lt;omega)) (fun _ h=>h) _ _ (xU HM5)
    have hr6:=(xU HR5).of_block (hb6.block _ (xU HR5).lt)
    by_cases hqm:0 < qT m 1
    · rw [decide_eq_true hqm]
      obtain ⟨k0,k1,k2⟩:=cs3 hs6.bA (by omega)
      have j0:=hr6.cell (i:=0) (by omega);have j1:=hr6.cell (i:=1) (by omega);have j2:=hr6.cell (i:=2) (by omega)
      have x0:=hs6.bX.cell (i:=0) (by omega);have x1:=hs6.bX.cell (i:=1) (by omega);have x2:=hs6.bX.cell (i:=2) (by omega);have xf:=hs6.bX.frozen
      obtain ⟨y0,y1,y2⟩:=cs3 hs6.bY (by omega);have yf:=hs6.bY.frozen
      simp only [row3] at k0 k1 k2 j0 j1 j2 x0 x1 x2 y0 y1 y2
      have hAl:=hs6.hA
      have hwl:=hr6.lt
      have hal:=hs6.bA.lt
      have hkr:KRep (fun x=>w.heap.size+1 < x∧x < w6.heap.size) w6 k ⟨.int .i64 k.sort,.slice a1 k.names.length cap1,.slice a2 k.kids.length cap2⟩:=KRep.carry (fun _ _=>rfl) (fun x hx=>⟨hx.1,by have:=hx.2;omega⟩) _ _ hs6.kr
      have hmr:KRep (fun x=>w.heap.size+1 < x∧x < w6.heap.size) w6 m ⟨.int .i64 m.sort,.slice a3 m.names.length cap3,.slice a4 m.kids.length cap4⟩:=KRep.carry (fun _ _=>rfl) (fun x hx=>⟨by have:=hx.1;omega,by have:=hx.2;omega⟩) _ _ hm6
      have hqq:p4≤p+270000:=num_pr (xU HP2) (xU HPP) hlt
      have HFIN:=xH (pr_put hs6.dr hs6.but hs6.hR hqq hkr hmr (xU HQ) hqm (xU HWK) (xU HWM) (.int .i64 k.sort) (.slice a1 k.names.length cap1) (.slice a2 k.kids.length cap2) (.int .i64 m.sort) (.slice a3 m.names.length cap3) (.slice a4 m.kids.length cap4))
      have hbl:w.heap.size+1 < w4.heap.size:=by omega
      have hne1:w4.heap.size≠w.heap.size:=by omega
      have hne2:w4.heap.size≠w.heap.size+1:=by omega
      have hne3:w3.heap.size≠w.heap.size:=by omega
      have hne4:w3.heap.size≠w.heap.size+1:=by omega
      clear hkr hmr hqq
      clear hs6 hm6 hr6 hb6 hqm HS5 HM5 HR5 HKOK HPP HWM
      go_wp2_with fail
      go_region
      all_goals
       go_wp2_with fail
       refine bodyPost_ret (v:=.tuple #[.agg #[.int .i64 k.sort,.slice a1 k.names.length cap1,.slice a2 k.kids.length cap2],.agg #[.int .i64 m.sort,.slice a3 m.names.length cap3,.slice a4 m.kids.length cap4]]) (by simp [results,Tryz.results17,go_sem,x0,x1,x2,y0,y1,y2]) rfl ?_
       have hfin:=(xU HFIN).drew
       try simp only at hfin
       with_reducible exact hfin
    · rw [decide_eq_false hqm]
      have HS6:=xH hs6
      have hp6:=xU HPP
      clear hs6 hm6 hr6 hb6 hqm HS5 HM5 HR5 HKOK
      go_wp2_with fail
      go_roundw
      case rel=>exact ⟨i+1,p4,hlt,by go_num,hp6,xU HS6⟩
      case measure=>simp [intOf];omega
  · obtain rfl:i=3:=by omega
    obtain ⟨x0,x1,x2⟩:=cs3 HS.out.bX (by omega);have xf:=HS.out.bX.frozen
    obtain ⟨y0,y1,y2⟩:=cs3 HS.out.bY (by omega);have yf:=HS.out.bY.frozen
    simp only [row3] at x0 x1 x2 y0 y1 y2
    have hkr:KRep (fun x=>w.heap.size+1 < x∧x < wr.heap.size) wr k ⟨.int .i64 k.sort,.slice a1 k.names.length cap1,.slice a2 k.kids.length cap2⟩:=KRep.carry (fun _ _=>rfl) (fun x hx=>⟨hx.1,Nat.lt_trans hx.2 HS.out.bA.lt⟩) _ _ HS.out.kr
    have HFIN:=xH (pr_put (p:=p) HS.out.dr HS.out.but HS.out.hR (by have:=xU HP2;omega) hkr hkr (xU HQ) (xU HQ) (xU HWK) (by have:=xU HWK;omega) (.int .i64 k.sort) (.slice a1 k.names.length cap1) (.slice a2 k.kids.length cap2) (.int .i64 k.sort) (.slice a1 k.names.length cap1) (.slice a2 k.kids.length cap2))
    have hAl:=HS.out.hA
    have hne3:w3.heap.size≠w.heap.size:=by omega
    have hne4:w3.heap.size≠w.heap.size+1:=by omega
    clear hkr HS
    go_wp2_with fail
    go_region
    all_goals
     go_wp2_with fail
     refine bodyPost_ret (v:=.tuple #[.agg #[.int .i64 k.sort,.slice a1 k.names.length cap1,.slice a2 k.kids.length cap2],.agg #[.int .i64 k.sort,.slice a1 k.names.length cap1,.slice a2 k.kids.length cap2]]) (by simp [results,Tryz.results17,go_sem,x0,x1,x2,y0,y1,y2]) rfl ?_
     have hfin:=(xU HFIN).drew
     try simp only at hfin
     with_reducible exact hfin

def rops (k:Nat):Code→Option (Array Oper)
 | .region i ops _=>if i==k then some ops else none
 | .seq a b=>match rops k a with | some o=>some o | none=>rops k b
 | .cond _ a b=>match rops k a with | some o=>some o | none=>rops k b
 | .block _ b=>rops k b
 | .loop b=>rops k b
 | .scope b=>rops k b
 | .rangeFunc _ _ a b=>match rops k a with | some o=>some o | none=>rops k b
 | _=>none
def fops (f:Func) (k:Nat):Array Oper:=match f.body with | some c=>(rops k c).getD #[] | none=>#[]
theorem wp_swap {P:Program} {c c':Code} {Q:Exit→Act→World→Prop} {a:Act} {w:World} (h:c=c') (hw:c'.wp P Q a w):c.wp P Q a w:=h ▸ hw
section
variable {P:Program} {ops:Array Oper} {Q:Exit→Act→World→Prop} {S:World→Prop}
def opI (ops:Array Oper) (i:Nat):Oper:=(ops[i]?).getD default
theorem opI_get {i:Nat} (h:i < ops.size):ops[i]? = some (opI ops i):=by
 unfold opI
 rw [Array.getElem?_eq_getElem h]
 rfl
def neat (ops:Array Oper):Bool :=
 (ops.toList.all fun o=>(o.looksAt ops).all fun d=>((ops.toList.map (·.dst)).zipIdx).all fun p=>p.1 != some d || o.after.any fun e=>Region.binds .any e && e.on==p.2) &&
 (((ops.toList.map (·.dst)).zipIdx).all fun p=>p.1.isNone || ((ops.toList.map (·.dst)).zipIdx).all fun q=>p.2==q.2 || p.1 != q.1)
theorem mem_zip {i:Nat} {o:Oper} (h:ops[i]? = some o):(o.dst,i)∈(ops.toList.map (·.dst)).zipIdx:=by
 rw [List.mem_zipIdx_iff_getElem?]
 simp [h]
theorem neat_looks (hn:neat ops=true) {i j:Nat} {oi oj:Oper} (hi:ops[i]? = some oi) (hj:ops[j]? = some oj) {d:Tmp} (hd:oi.dst=some d) (hl:d∈oj.looksAt ops):∃ e∈oj.after,Region.binds .any e=true∧e.on=i:=by
 unfold neat at hn
 simp only [Bool.and_eq_true,List.all_eq_true] at hn
 have h1:=hn.1 oj (by simpa using Array.mem_of_getElem? hj) d hl _ (mem_zip hi)
 simp only [hd,bne_self_eq_false,Bool.false_or,Array.any_eq_true',Bool.and_eq_true,beq_iff_eq] at h1
 obtain ⟨e,he,h2,h3⟩:=h1
 exact ⟨e,he,h2,h3⟩
theorem neat_dst (hn:neat ops=true) {i j:Nat} {oi oj:Oper} (hi:ops[i]? = some oi) (hj:ops[j]? = some oj) (hne:j≠i) {d:Tmp} (hd:oi.dst=some d):oj.dst≠some d:=by
 unfold neat at hn
 simp only [Bool.and_eq_true,List.all_eq_true] at hn
 have h1:=hn.2 _ (mem_zip hi)
 simp only [hd,Option.isNone_some,Bool.false_or,List.all_eq_true] at h1
 have h2:=h1 _ (mem_zip hj)
 intro e
 simp [e] at h2
 exact hne h2.symm
theorem neat_apart (hn:neat ops=true) {listed:Array Bool} {i:Nat} {oi:Oper} (hi:ops[i]? = some oi) (hr:∀ e∈oi.after,Region.binds .any e=true→listed.getD e.on false=true) (j:Nat) (oj:Oper) (hj:ops[j]? = some oj) (hne:j≠i) (hun:listed.getD j true=false) (hno:∀ e∈oj.after,Region.binds .any e=true→e.on≠i):oi.apart ops oj=true:=by
 unfold Oper.apart
 rw [Bool.and_eq_true]
 constructor
 · cases hd:oi.dst with
   | none=>rfl
   | some d =>
     have h1:d∉oj.looksAt ops:=fun hl=>by
      obtain ⟨e,he,hb,ho⟩:=neat_looks hn hi hj hd hl
      exact hno e he hb ho
     have h2:=neat_dst hn hi hj hne hd
     simp [h1,h2]
 · cases hd:oj.dst with
   | none=>rfl
   | some d =>
     have h1:d∉oi.looksAt ops:=fun hl=>by
      obtain ⟨e,he,hb,ho⟩:=neat_looks hn hj hi hd hl
      have h2:=hr e he hb
      rw [ho] at h2
      rw [Array.getD_eq_getD_getElem?] at hun h2
      cases hx:listed[j]? with
      | none=>rw [hx] at h2;simp at h2
      | some b=>rw [hx] at h2 hun;simp at h2 hun;rw [h2] at hun;cases hun
     simp [h1]
def tkB (ops:Array Oper) (listed:Array Bool) (i:Nat) (d:Option Tmp):Bool :=
 match ops[i]? with
 | none=>false
 | some o=>decide (o.dst=d) && o.guard.isNone && !listed.getD i true && o.after.all (fun e=>!Region.binds .any e || listed.getD e.on false)
theorem wanted_none {o:Oper} (f:Nat→Option Bool) (h:o.guard.isNone=true):Region.wanted o f=true:=by
 have:o.guard=none:=by simpa using h
 simp [Region.wanted,this]
theorem take_any {fuel:Nat} {listed:Array Bool} {a:Act} {w:World} (i:Nat) (d:Option Tmp) (v:Value) (hs:Region.noSelect ops=true∧neat ops=true) (hQ:∀ c a d v w,Q (.panic c) (Act.put a d v) w→Q (.panic c) a w) (hb:tkB ops listed i d=true)
 (hy:∀ w,S w→(execOp a.eval (opI ops i)).run P w=.ok (.value v) w) (hS:S w) (h:wpAnyH P .any ops Q S fuel (listed.setIfInBounds i true) (a.put d v) w):wpAnyH P .any ops Q S (fuel+1) listed a w:=by
 unfold tkB at hb
 cases hi:ops[i]? with
 | none=>rw [hi] at hb;cases hb
 | some o =>
   rw [hi] at hb
   simp only [Bool.and_eq_true,decide_eq_true_eq] at hb
   obtain ⟨⟨⟨h2,h3⟩,h4⟩,h5⟩:=hb
   subst h2
   have ho:opI ops i=o:=by unfold opI;rw [hi];rfl
   rw [ho] at hy
   have h6:∀ e∈o.after,Region.binds .any e=true→listed.getD e.on false=true:=fun e he hb=>by
    have:=Array.all_eq_true_iff_forall_mem.1 h5 e he
    simpa [hb] using this
   have hlt:i < ops.size:=(Array.getElem?_eq_some_iff.1 hi).1
   refine wpAnyH_first hi (Region.noSelect_spec hs.1) (fun c a w=>hQ c a _ _ w) fuel listed a w (fun j oj hj hne hun hno=>neat_apart hs.2 hi h6 j oj hj hne hun hno) ?_ (Or.inl ⟨wanted_none _ h3,hy⟩) hS h
   unfold Region.ready
   rw [List.mem_filter]
   refine ⟨List.mem_range.2 hlt,?_⟩
   rw [hi,h4]
   simpa using h5
def tkG (ops:Array Oper) (listed:Array Bool) (i:Nat) (d:Option Tmp):Bool :=
 match ops[i]? with
 | none=>false
 | some o=>decide (o.dst=d) && !listed.getD i true && o.after.all (fun e=>!Region.binds .any e || listed.getD e.on false)
theorem take_yld {fuel:Nat} {listed:Array Bool} {a:Act} {w:World} (i:Nat) (d:Option Tmp) (v:Value) (hs:Region.noSelect ops=true∧neat ops=true) (hQ:∀ c a d v w,Q (.panic c) (Act.put a d v) w→Q (.panic c) a w) (hb:tkG ops listed i d=true)
 (hy:YieldsIf P ops S (opI ops i) v a) (hS:S w) (h:wpAnyH P .any ops Q S fuel (listed.setIfInBounds i true) (a.put d v) w):wpAnyH P .any ops Q S (fuel+1) listed a w:=by
 unfold tkG at hb
 cases hi:ops[i]? with
 | none=>rw [hi] at hb;cases hb
 | some o =>
   rw [hi] at hb
   simp only [Bool.and_eq_true,decide_eq_true_eq] at hb
   obtain ⟨⟨h2,h4⟩,h5⟩:=hb
   subst h2
   have ho:opI ops i=o:=by unfold opI;rw [hi];rfl
   rw [ho] at hy
   have h6:∀ e∈o.after,Region.binds .any e=true→listed.getD e.on false=true:=fun e he hb=>by
    have:=Array.all_eq_true_iff_forall_mem.1 h5 e he
    simpa [hb] using this
   have hlt:i < ops.size:=(Array.getElem?_eq_some_iff.1 hi).1
   refine wpAnyH_first hi (Region.noSelect_spec hs.1) (fun c a w=>hQ c a _ _ w) fuel listed a w (fun j oj hj hne hun hno=>neat_apart hs.2 hi h6 j oj hj hne hun hno) ?_ hy hS h
   unfold Region.ready
   rw [List.mem_filter]
   refine ⟨List.mem_range.2 hlt,?_⟩
   rw [hi,h4]
   simpa using h5
theorem take_skip {fuel:Nat} {listed:Array Bool} {a:Act} {w:World} (i:Nat) (d:Option Tmp) (hs:Region.noSelect ops=true∧neat ops=true) (hQ:∀ c a d v w,Q (.panic c) (Act.put a d v) w→Q (.panic c) a w) (hb:tkG ops listed i d=true)
 (hw:Region.wanted (opI ops i) (yielded ops a.tmps)=false) (hS:S w) (h:wpAnyH P .any ops Q S fuel (listed.setIfInBounds i true) (a.put d undef) w):wpAnyH P .any ops Q S (fuel+1) listed a w :=
 take_yld i d undef hs hQ hb (Or.inr ⟨hw,rfl⟩) hS h
theorem take_anyG {fuel:Nat} {listed:Array Bool} {a:Act} {w:World} (i:Nat) (d:Option Tmp) (v:Value) (hs:Region.noSelect ops=true∧neat ops=true) (hQ:∀ c a d v w,Q (.panic c) (Act.put a d v) w→Q (.panic c) a w) (hb:tkG ops listed i d=true)
 (hw:Region.wanted (opI ops i) (yielded ops a.tmps)=true) (hy:∀ w,S w→(execOp a.eval (opI ops i)).run P w=.ok (.value v) w) (hS:S w) (h:wpAnyH P .any ops Q S fuel (listed.setIfInBounds i true) (a.put d v) w):wpAnyH P .any ops Q S (fuel+1) listed a w :=
 take_yld i d v hs hQ hb (Or.inl ⟨hw,hy⟩) hS h
theorem take_loadG {fuel:Nat} {listed:Array Bool} {a:Act} {w:World} (i:Nat) (d:Option Tmp) (T:TypeId) (x:Operand) (ad:Addr) (v:Value) (hs:Region.noSelect ops=true∧neat ops=true) (hQ:∀ c a d v w,Q (.panic c) (Act.put a d v) w→Q (.panic c) a w) (hb:tkG ops listed i d=true)
 (hw:Region.wanted (opI ops i) (yielded ops a.tmps)=true) (ho:(opI ops i).op=.load T x) (hx:a.eval x=.pointer (some ad)) (hl:∀ w,S w→(Instr.loadAt T (.pointer (some ad))).run P w=.ok v w) (hS:S w) (h:wpAnyH P .any ops Q S fuel (listed.setIfInBounds i true) (a.put d v) w):wpAnyH P .any ops Q S (fuel+1) listed a w:=by
 refine take_anyG i d v hs hQ hb hw (fun w hw=>?_) hS h
 unfold execOp
 simp only [ho,hx,Sem.run_bind,Sem.run_pure,Result.andThen_ok,hl w hw]
theorem take_load {fuel:Nat} {listed:Array Bool} {a:Act} {w:World} (i:Nat) (d:Option Tmp) (T:TypeId) (x:Operand) (ad:Addr) (v:Value) (hs:Region.noSelect ops=true∧neat ops=true) (hQ:∀ c a d v w,Q (.panic c) (Act.put a d v) w→Q (.panic c) a w) (hb:tkB ops listed i d=true)
 (ho:(opI ops i).op=.load T x) (hx:a.eval x=.pointer (some ad)) (hl:∀ w,S w→(Instr.loadAt T (.pointer (some ad))).run P w=.ok v w) (hS:S w) (h:wpAnyH P .any ops Q S fuel (listed.setIfInBounds i true) (a.put d v) w):wpAnyH P .any ops Q S (fuel+1) listed a w:=by
 refine take_any i d v hs hQ hb (fun w hw=>?_) hS h
 unfold execOp
 simp only [ho,hx,Sem.run_bind,Sem.run_pure,Result.andThen_ok,hl w hw]
theorem any_eq {fuel:Nat} {l l':Array Bool} {a a':Act} {w:World} (hl:l=l') (ha:a=a') (h:wpAnyH P .any ops Q S fuel l' a' w):wpAnyH P .any ops Q S fuel l a w:=by rw [hl,ha];exact h
theorem ready_one {fuel:Nat} {listed:Array Bool} {a:Act} {w:World} (i:Nat) (hr:Region.ready .any ops listed=[i]) (h:wpOp P ops Q i (fun a' w'=>S w'∧wpAnyH P .any ops Q S fuel (listed.setIfInBounds i true) a' w') a w):wpAnyH P .any ops Q S (fuel+1) listed a w :=
 wpAnyH_all hr (by simp) (fun j hj=>by simp only [List.mem_singleton] at hj;subst hj;exact h)
theorem ready_two {fuel:Nat} {listed:Array Bool} {a:Act} {w:World} (i k:Nat) (hr:Region.ready .any ops listed=[i,k]) (h:wpOp P ops Q i (fun a' w'=>S w'∧wpAnyH P .any ops Q S fuel (listed.setIfInBounds i true) a' w') a w)
 (h2:wpOp P ops Q k (fun a' w'=>S w'∧wpAnyH P .any ops Q S fuel (listed.setIfInBounds k true) a' w') a w):wpAnyH P .any ops Q S (fuel+1) listed a w :=
 wpAnyH_all hr (by simp) (fun j hj=>by
  simp only [List.mem_cons,List.not_mem_nil,or_false] at hj
  rcases hj with rfl | rfl
  · exact h
  · exact h2)
def opB (ops:Array Oper) (i:Nat) (d:Option Tmp):Bool:=decide (i < ops.size) && decide ((opI ops i).dst=d) && (opI ops i).guard.isNone
theorem op_val {i:Nat} {K:Act→World→Prop} {a:Act} {w w':World} (d:Option Tmp) (v:Value) (hb:opB ops i d=true) (hr:(execOp a.eval (opI ops i)).run P w=.ok (.value v) w') (h:K (a.put d v) w'):wpOp P ops Q i K a w:=by
 unfold opB at hb
 simp only [Bool.and_eq_true,decide_eq_true_eq] at hb
 obtain ⟨⟨h1,h2⟩,h3⟩:=hb
 subst h2
 unfold wpOp
 rw [opI_get h1]
 simp only [wanted_none _ h3,if_true]
 exact Or.inl (by unfold Oper.wp;rw [hr];exact h)
theorem op_skip {i:Nat} {K:Act→World→Prop} {a:Act} {w w':World} (d:Option Tmp) (hb:opB ops i d=true) (hr:(execOp a.eval (opI ops i)).run P w=.ok .skip w') (h:K (a.put d undef) w'):wpOp P ops Q i K a w:=by
 unfold opB at hb
 simp only [Bool.and_eq_true,decide_eq_true_eq] at hb
 obtain ⟨⟨h1,h2⟩,h3⟩:=hb
 subst h2
 unfold wpOp
 rw [opI_get h1]
 simp only [wanted_none _ h3,if_true]
 exact Or.inl (by unfold Oper.wp;rw [hr];exact h)
theorem op_enter {i:Nat} {K:Act→World→Prop} {a:Act} {w:World} (d:Option Tmp) (f:FuncId) (args:Array Value) {R:Ending→World→Prop} (hb:opB ops i d=true) (hr:(execOp a.eval (opI ops i)).run P w=.ok (.enter f args) w) (hc:Calls P f args w R) (h:∀ e w',R e w'→∃ u,e=.returned u∧K (a.put d u) w'):wpOp P ops Q i K a w:=by
 unfold opB at hb
 simp only [Bool.and_eq_true,decide_eq_true_eq] at hb
 obtain ⟨⟨h1,h2⟩,h3⟩:=hb
 subst h2
 unfold wpOp
 rw [opI_get h1]
 simp only [wanted_none _ h3,if_true]
 refine Or.inl ?_
 unfold Oper.wp
 rw [hr]
 refine Calls.mono hc fun e w' he=>?_
 obtain ⟨u,rfl,hK⟩:=h e w' he
 exact hK
def opG (ops:Array Oper) (i:Nat) (d:Option Tmp):Bool:=decide (i < ops.size) && decide ((opI ops i).dst=d)
theorem op_enterG {i:Nat} {K:Act→World→Prop} {a:Act} {w:World} (d:Option Tmp) (f:FuncId) (args:Array Value) {R:Ending→World→Prop} (hb:opG ops i d=true) (hw:Region.wanted (opI ops i) (yielded ops a.tmps)=true) (hr:(execOp a.eval (opI ops i)).run P w=.ok (.enter f args) w) (hc:Calls P f args w R) (h:∀ e w',R e w'→∃ u,e=.returned u∧K (a.put d u) w'):wpOp P ops Q i K a w:=by
 unfold opG at hb
 simp only [Bool.and_eq_true,decide_eq_true_eq] at hb
 obtain ⟨h1,h2⟩:=hb
 subst h2
 unfold wpOp
 rw [opI_get h1]
 simp only [hw,if_true]
 refine Or.inl ?_
 unfold Oper.wp
 rw [hr]
 refine Calls.mono hc fun e w' he=>?_
 obtain ⟨u,rfl,hK⟩:=h e w' he
 exact hK
theorem op_store_mid {i:Nat} {K:Act→World→Prop} {a:Act} {w:World} (d:Option Tmp) (ty:TypeId) (x y:Operand) (b o:Nat) (cells:Array Value) (hb:opB ops i d=true) (ho:(opI ops i).op=.store ty x y) (hx:a.eval x=.pointer (some ⟨b,o,none⟩)) (hy:a.eval y=.agg cells)
 (ht:w.there b o cells.size) (hi:(P.info? ty).map (·.size)=some cells.size) (h1:cells.all (·.oneCell')=true) (h:K (a.put d undef) (w.setCells b o cells.toList)):wpOp P ops Q i K a w:=by
 refine op_skip d hb ?_ h
 unfold execOp
 simp only [ho,hx,hy,Instr.storeAt,Instr.sureAddr,Sem.run_bind,Sem.run_pure,Result.andThen_ok,run_storeVar_mid w b o ty cells ht hi h1]
theorem op_store {i:Nat} {K:Act→World→Prop} {a:Act} {w:World} (d:Option Tmp) (ty:TypeId) (x y:Operand) (ad:Addr) (v:Value) (w':World) (hb:opB ops i d=true) (ho:(opI ops i).op=.store ty x y) (hx:a.eval x=.pointer (some ad)) (hy:a.eval y=v)
 (hr:(Instr.storeAt ty (.pointer (some ad)) v).run P w=.ok () w') (h:K (a.put d undef) w'):wpOp P ops Q i K a w:=by
 refine op_skip d hb ?_ h
 unfold execOp
 simp only [ho,hx,hy,Sem.run_bind,Sem.run_pure,Result.andThen_ok,hr]
end

section
variable {P:Program} {ops:Array Oper} {Q:Exit→Act→World→Prop}
def Nrm (K:Act→World→Prop) (Q:Exit→Act→World→Prop):Exit→Act→World→Prop
 | .normal,a,w=>K a w
 | e,a,w=>Q e a w
theorem wp_nrm {o:Oper} {a:Act} {w:World} {K:Act→World→Prop} (h:o.wp P a w K (Nrm K Q)):o.wp P a w K Q:=by
 unfold Oper.wp at *
 generalize (execOp a.eval o).run P w=r at *
 cases r with
 | ok n w' =>
   cases n with
   | enter f args =>
     refine Calls.mono h fun e w'' he=>?_
     cases e <;> exact he
   | _=>exact h
 | halt x w'=>cases x <;> exact h
theorem op_list {i:Nat} {K:Act→World→Prop} {a:Act} {w:World} (d:Option Tmp) (hb:opB ops i d=true) (h:wpList P ops (Nrm K Q) [opI ops i] a w):wpOp P ops Q i K a w:=by
 unfold opB at hb
 simp only [Bool.and_eq_true,decide_eq_true_eq] at hb
 obtain ⟨⟨h1,h2⟩,h3⟩:=hb
 unfold wpOp
 rw [opI_get h1]
 unfold wpList at h
 simp only [wanted_none _ h3,if_true] at h ⊢
 rcases h with h | h
 · exact Or.inl (wp_nrm h)
 · exact Or.inr ⟨h.1,h.2⟩
end

section
variable {P:Program} {ops:Array Oper} {Q:Exit→Act→World→Prop}
structure wpFrom (P:Program) (ops:Array Oper) (Q:Exit→Act→World→Prop) (k:Nat) (a:Act) (w:World):Prop where
 out:wpList P ops Q (ops.toList.drop k) a w
theorem wp_region_from {id:Nat} {a:Act} {w:World} (h:wpFrom P ops Q 0 a w):(Code.region id ops false).wp P Q a w:=wp_region_list (by simpa using h.out)
theorem from_eq {k:Nat} {a a':Act} {w:World} (ha:a=a') (h:wpFrom P ops Q k a' w):wpFrom P ops Q k a w:=by rw [ha];exact h
theorem from_end {k:Nat} {a:Act} {w:World} (hk:decide (ops.size≤k)=true) (h:Q .normal a w):wpFrom P ops Q k a w:=by
 refine ⟨?_⟩
 rw [List.drop_eq_nil_of_le (by simpa using hk)]
 exact h
theorem from_step {k:Nat} {a:Act} {w:World} {d:Option Tmp} (hb:opG ops k d=true)
 (h:if Region.wanted (opI ops k) (yielded ops a.tmps) then (opI ops k).wp P a w (wpFrom P ops Q (k+1)) Q else wpFrom P ops Q (k+1) (a.put d undef) w):wpFrom P ops Q k a w:=by
 unfold opG at hb
 simp only [Bool.and_eq_true,decide_eq_true_eq] at hb
 obtain ⟨h1,h2⟩:=hb
 have hl:ops.toList.drop k=opI ops k::ops.toList.drop (k+1):=by
  rw [List.drop_eq_getElem_cons (by simpa using h1)]
  congr 1
  unfold opI
  rw [Array.getElem?_eq_getElem h1]
  rfl
 refine ⟨?_⟩
 rw [hl]
 unfold wpList
 subst h2
 by_cases hw:Region.wanted (opI ops k) (yielded ops a.tmps)=true
 · rw [if_pos hw] at h ⊢;exact Or.inl (Oper.wp_mono (fun a w h=>h.out) h)
 · rw [if_neg hw] at h ⊢;exact h.out
theorem from_skip {k:Nat} {a:Act} {w:World} (d:Option Tmp) (hb:opG ops k d=true) (hw:Region.wanted (opI ops k) (yielded ops a.tmps)=false) (h:wpFrom P ops Q (k+1) (a.put d undef) w):wpFrom P ops Q k a w :=
 from_step hb (by rw [if_neg (by rw [hw];simp)];exact h)
theorem from_val {k:Nat} {a:Act} {w:World} (d:Option Tmp) (v v':Value) (hv:v=v') (hb:opG ops k d=true) (hw:Region.wanted (opI ops k) (yielded ops a.tmps)=true) (hr:(execOp a.eval (opI ops k)).run P w=.ok (.value v) w) (h:wpFrom P ops Q (k+1) (a.put d v') w):wpFrom P ops Q k a w:=by
 have hd:(opI ops k).dst=d:=by unfold opG at hb;simp only [Bool.and_eq_true,decide_eq_true_eq] at hb;exact hb.2
 refine from_step hb ?_
 rw [if_pos hw]
 unfold Oper.wp
 rw [hr,Oper.upon_value,hd,hv]
 exact h
theorem from_load {k:Nat} {a:Act} {w:World} (d:Option Tmp) (T:TypeId) (x:Operand) (ad:Addr) (v:Value) (hb:opG ops k d=true) (hw:Region.wanted (opI ops k) (yielded ops a.tmps)=true) (ho:(opI ops k).op=.load T x) (hx:a.eval x=.pointer (some ad)) (hl:(Instr.loadAt T (.pointer (some ad))).run P w=.ok v w) (h:wpFrom P ops Q (k+1) (a.put d v) w):wpFrom P ops Q k a w:=by
 refine from_val d v v rfl hb hw ?_ h
 unfold execOp
 simp only [ho,hx,Sem.run_bind,Sem.run_pure,Result.andThen_ok,hl]
theorem from_enter {k:Nat} {a:Act} {w:World} (d:Option Tmp) (f:FuncId) (args:Array Value) {R:Ending→World→Prop} (hb:opG ops k d=true) (hw:Region.wanted (opI ops k) (yielded ops a.tmps)=true) (hr:(execOp a.eval (opI ops k)).run P w=.ok (.enter f args) w) (hc:Calls P f args w R) (h:∀ e w',R e w'→∃ u,e=.returned u∧wpFrom P ops Q (k+1) (a.put d u) w'):wpFrom P ops Q k a w:=by
 have hd:(opI ops k).dst=d:=by unfold opG at hb;simp only [Bool.and_eq_true,decide_eq_true_eq] at hb;exact hb.2
 refine from_step hb ?_
 rw [if_pos hw]
 unfold Oper.wp
 rw [hr]
 refine Calls.mono hc fun e w' he=>?_
 obtain ⟨u,rfl,hK⟩:=h e w' he
 rw [hd]
 exact hK
end

section
variable {P:Program} {ops:Array Oper} {Q:Exit→Act→World→Prop} {S:World→Prop}
def quiet {α:Type} (P:Program):Sem α→Option α
 | .pure a=>some a
 | .program k=>quiet P (k P)
 | .mark _ k=>quiet P k
 | _=>none
theorem quiet_run {α:Type} {x:α} {s:Sem α}:quiet P s=some x→∀ w,s.run P w=.ok x w:=by
 induction s with
 | pure a=>intro h w;simp only [quiet,Option.some.injEq] at h;rw [h];rfl
 | program k ih=>intro h w;exact ih P h w
 | mark m k ih=>intro h w;exact ih h w
 | _=>intro h;simp [quiet] at h
abbrev Told:=TypeId × Addr × Value
def tp (t:Told):TypeId × Value:=(t.1,.pointer (some t.2.1))
def Lds (P:Program) (w:World) (hs:List Told):Prop:=∀ t∈hs,(Instr.loadAt t.1 (.pointer (some t.2.1))).run P w=.ok t.2.2 w
theorem Lds.nil {w:World}:Lds P w []:=fun _ h=>nomatch h
theorem Lds.cons {w:World} {T:TypeId} {ad:Addr} {v:Value} {hs:List Told} (h:(Instr.loadAt T (.pointer (some ad))).run P w=.ok v w) (h2:Lds P w hs):Lds P w ((T,ad,v)::hs):=fun t ht=>by
 rcases List.mem_cons.1 ht with rfl | ht
 · exact h
 · exact h2 t ht
theorem Lds.append {w:World} {h1 h2:List Told} (a:Lds P w h1) (b:Lds P w h2):Lds P w (h1++h2):=fun t ht=>(List.mem_append.1 ht).elim (a t) (b t)
theorem Lds.sub {w:World} {h1 h2:List Told} (a:Lds P w h2) (b:∀ t∈h1,t∈h2):Lds P w h1:=fun t ht=>a t (b t ht)
def openL {β:Type}:List Value→(List Value→β)→β
 | [],k=>k []
 | x::xs,k=>openL xs fun ys=>k (x::ys)
theorem openL_eq {β:Type} (l:List Value):∀ k:List Value→β,openL l k=k l:=by
 induction l with
 | nil=>intro k;rfl
 | cons x l ih=>intro k;exact ih _
def putL (l:List Value) (d:Option Tmp) (v:Value):List Value:=match d with | some d=>l.set d v | none=>l
theorem put_putL (l:List Value) (ds:List Deferred) (d:Option Tmp) (v:Value):(⟨l.toArray,ds⟩:Act).put d v=⟨(putL l d v).toArray,ds⟩:=by
 cases d with
 | none=>rfl
 | some d=>simp [Act.put,putL]
def fromL (P:Program) (ops:Array Oper) (ds:List Deferred):Nat→List Oper→List Value→List Told→Option (List Value × List (TypeId × Value))
 | 0,_,l,_=>some (l,[])
 | _+1,[],_,_=>none
 | n+1,o::os,l,hs =>
   if Region.wanted o (yielded ops l.toArray) then
    match o.op with
    | .load T x=>match hs with
      | t::hs=>(openL (putL l o.dst t.2.2) fun l'=>fromL P ops ds n os l' hs).map fun r=>(r.1,(T,(⟨l.toArray,ds⟩:Act).eval x)::r.2)
      | []=>none
    | _=>match quiet P (execOp (⟨l.toArray,ds⟩:Act).eval o) with
      | some (.value v)=>openL (putL l o.dst v) fun l'=>fromL P ops ds n os l' hs
      | _=>none
   else openL (putL l o.dst undef) fun l'=>fromL P ops ds n os l' hs
theorem drop_step {k:Nat} {o:Oper} {os:List Oper} (h:ops.toList.drop k=o::os):opG ops k o.dst=true∧opI ops k=o∧ops.toList.drop (k+1)=os:=by
 have hlt:k < ops.size:=by
  rcases Nat.lt_or_ge k ops.size with h1 | h1
  · exact h1
  · rw [List.drop_eq_nil_of_le (by simpa using h1)] at h;cases h
 rw [List.drop_eq_getElem_cons (by simpa using hlt)] at h
 obtain ⟨h1,h2⟩:=List.cons.inj h
 have h3:opI ops k=o:=by unfold opI;rw [Array.getElem?_eq_getElem hlt];exact h1
 exact ⟨by unfold opG;rw [h3];simp [hlt],h3,h2⟩
theorem fromL_sound {ds:List Deferred} {w:World}:∀ (n k:Nat) (os:List Oper) (l l':List Value) (hs:List Told),ops.toList.drop k=os→fromL P ops ds n os l hs=some (l',hs.map tp)→Lds P w hs→wpFrom P ops Q (k+n) ⟨l'.toArray,ds⟩ w→wpFrom P ops Q k ⟨l.toArray,ds⟩ w
 | 0,k,os,l,l',hs,_,h,_,H=>by
   simp only [fromL,Option.some.injEq,Prod.mk.injEq] at h
   rw [h.1];exact H
 | _+1,_,[],_,_,_,_,h,_,_=>by simp [fromL] at h
 | n+1,k,o::os,l,l',hs,hd,h,hl,H=>by
   obtain ⟨g1,g2,g3⟩:=drop_step hd
   have hk:k+(n+1)=k+1+n:=by omega
   rw [hk] at H
   unfold fromL at h
   split at h
   · rename_i hw
     split at h
     · rename_i T x ho
       cases hs with
       | nil=>cases h
       | cons t hs =>
         obtain ⟨T',ad,v⟩:=t
         simp only [openL_eq,Option.map_eq_some_iff] at h
         obtain ⟨⟨r1,r2⟩,h1,h2⟩:=h
         simp only [List.map_cons,Prod.mk.injEq,List.cons.injEq,tp] at h2
         obtain ⟨rfl,⟨rfl,e2⟩,rfl⟩:=h2
         refine from_load o.dst T x ad v g1 (by rw [g2];exact hw) (by rw [g2];exact ho) e2 (hl _ (List.mem_cons_self ..)) ?_
         rw [put_putL]
         exact fromL_sound n (k+1) os _ _ hs g3 h1 (fun s hs=>hl s (List.mem_cons_of_mem _ hs)) H
     · split at h
       · rename_i v hq
         rw [openL_eq] at h
         refine from_val o.dst v v rfl g1 (by rw [g2];exact hw) (by rw [g2];exact quiet_run hq w) ?_
         rw [put_putL]
         exact fromL_sound n (k+1) os _ _ hs g3 h hl H
       · cases h
   · rename_i hw
     rw [openL_eq] at h
     refine from_skip o.dst g1 (by rw [g2];simpa using hw) ?_
     rw [put_putL]
     exact fromL_sound n (k+1) os _ _ hs g3 h hl H
def frL (v:Nat→Value) (n:Nat) (s:List (Nat × Value)):List Value:=(List.range n).map fun i=>(s.lookup i).getD (v i)
def frG (v:Nat→Value) (s:List (Nat × Value)):Nat→Nat→List Value
 | _,0=>[]
 | i,n+1=>(s.lookup i).getD (v i)::frG v s (i+1) n
theorem frL_eq (v:Nat→Value) (n:Nat) (s:List (Nat × Value)):frL v n s=frG v s 0 n:=by
 have h:∀ n i,(List.range' i n).map (fun j=>(s.lookup j).getD (v j))=frG v s i n:=by
  intro n
  induction n with
  | zero=>intro i;rfl
  | succ n ih=>intro i;rw [List.range'_succ,List.map_cons,ih];rfl
 unfold frL
 rw [List.range_eq_range',h]
theorem lookup_mem {s:List (Nat × Value)} {i:Nat} {x:Value} (h:s.lookup i=some x):(i,x)∈s:=by
 induction s with
 | nil=>cases h
 | cons p s ih =>
   obtain ⟨j,y⟩:=p
   rw [List.lookup_cons] at h
   by_cases e:i=j
   · subst e;simp at h;subst h;exact List.mem_cons_self ..
   · have:(i==j)=false:=by simpa using e
     rw [this] at h
     exact List.mem_cons_of_mem _ (ih h)
theorem frL_of {l:List Value} {s:List (Nat × Value)} (h:s.map (fun p=>l.getD p.1 undef)=s.map (·.2)):l=frL (fun i=>l.getD i undef) l.length s:=by
 unfold frL
 refine List.ext_getElem (by simp) fun i h1 h2=>?_
 simp only [List.getElem_map,List.getElem_range]
 cases hx:s.lookup i with
 | none=>simp [List.getD_eq_getElem?_getD,h1]
 | some x =>
   have:=List.map_inj_left.1 h _ (lookup_mem hx)
   simp only at this
   simp [← this,List.getD_eq_getElem?_getD,h1]
def lookL (s:List (Nat × Value)) (l:List Value):Nat × List Value:=(l.length,s.map fun p=>l.getD p.1 undef)
theorem look_fr {l:List Value} {s:List (Nat × Value)} {n:Nat} (h:lookL s l=(n,s.map (·.2))):∃ v,l=frL v n s:=by
 simp only [lookL,Prod.mk.injEq] at h
 exact ⟨_,h.1 ▸ frL_of h.2⟩
theorem from_q {k:Nat} {l:List Value} {ds:List Deferred} {w:World} (n N:Nat) (s:List (Nat × Value)) (hs:List Told) (h:(fromL P ops ds n (ops.toList.drop k) l hs).map (fun r=>(lookL s r.1,r.2))=some ((N,s.map (·.2)),hs.map tp)) (hl:Lds P w hs) (H:∀ v,wpFrom P ops Q (k+n) ⟨(frL v N s).toArray,ds⟩ w):wpFrom P ops Q k ⟨l.toArray,ds⟩ w:=by
 rw [Option.map_eq_some_iff] at h
 obtain ⟨⟨l',m⟩,h1,h2⟩:=h
 have h3:=congrArg Prod.fst h2
 have h4:=congrArg Prod.snd h2
 simp only at h3 h4
 subst h4
 obtain ⟨v,rfl⟩:=look_fr h3
 exact fromL_sound n k _ l _ hs rfl h1 hl (H v)
theorem from_fr {k:Nat} {l:List Value} {ds:List Deferred} {w:World} (N:Nat) (s:List (Nat × Value)) (h:lookL s l=(N,s.map (·.2))) (H:∀ v,wpFrom P ops Q k ⟨(frL v N s).toArray,ds⟩ w):wpFrom P ops Q k ⟨l.toArray,ds⟩ w:=by
 obtain ⟨v,rfl⟩:=look_fr h
 exact H v
end
end Go.Proofs.YteefjeddboefcaaGreatDoor
