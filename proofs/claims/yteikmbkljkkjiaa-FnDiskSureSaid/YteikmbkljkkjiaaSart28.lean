/- A part. -/
import Derived.Test.YteikmbkljkkjiaaSart27
namespace Go.Proofs.Yteikmbkljkkjiaa
open Go Go.RowKit
set_option maxRecDepth 100000
set_option maxHeartbeats 12800000
structure DsS (R:Nat) (w W:World) (B:Nat) (v:Value) (b:List UInt8) (q:Nat) (d:Dk) (c:C3):Prop where
 hR:R < w.heap.size
 hB:w.heap.size < B
 b2:W.rowIs w.heap.size 27 3 (row3 (.slice none 0 0) (.slice none 0 0) (.slice none 0 0))
 row:W.rowIs B 27 3 (row3 c.c0 c.c1 c.c2)
 dk:DkAt (fun g=>w.heap.size≤g∧g < W.heap.size∧g≠w.heap.size∧g≠B) W d c
 good:GoodD d
 dr:DR R W v b q
 but:But R w W
theorem DsS.on {{R:Nat}} {{w W:World}} {{B:Nat}} {{v:Value}} {{b:List UInt8}} {{q:Nat}} {{d:Dk}} {{c:C3}} {W':World} (h:DsS R w W B v b q d c) (hb:Below W.heap.size W W'):DsS R w W' B v b q d c :=
 ⟨h.hR,h.hB,h.b2.of_block (hb.block _ h.b2.lt),h.row.of_block (hb.block _ h.row.lt),h.dk.carry (fun g hg=>hb.block g hg.2.1) (fun _ hg=>⟨hg.1,Nat.lt_of_lt_of_le hg.2.1 hb.size,hg.2.2⟩),h.good,h.dr.on hb,h.but.trans (But.of_below hb)⟩
theorem DsS.draw {{R:Nat}} {{w W:World}} {{B:Nat}} {{v:Value}} {{b:List UInt8}} {{q:Nat}} {{d:Dk}} {{c:C3}} {W':World} {q':Nat} (h:DsS R w W B v b q d c) (hb:But R W W') (hd:DR R W' v b q'):DsS R w W' B v b q' d c :=
 ⟨h.hR,h.hB,h.b2.of_block (hb.at h.b2.lt (by have:=h.hR;omega)),h.row.of_block (hb.at h.row.lt (by have:=h.hR;have:=h.hB;omega)),h.dk.carry (fun g hg=>hb.at hg.2.1 (by have:=h.hR;have:=hg.1;omega)) (fun _ hg=>⟨hg.1,Nat.lt_of_lt_of_le hg.2.1 hb.size,hg.2.2⟩),h.good,hd,h.but.trans hb⟩
theorem DsS.put {{R:Nat}} {{w W:World}} {{B:Nat}} {{v:Value}} {{b:List UInt8}} {{q:Nat}} {{d:Dk}} {{c:C3}} {V:World} {d':Dk} {c':C3} (h:DsS R w V B v b q d c) (hV:Below V.heap.size V W) (hd:DkAt (fun g=>V.heap.size≤g∧g < W.heap.size) W d' c') (hg:GoodD d'):DsS R w (((W.setCell ⟨B,0,none⟩ c'.c0).setCell ⟨B,1,none⟩ c'.c1).setCell ⟨B,2,none⟩ c'.c2) B v b q d' c':=by
 obtain ⟨s1,s2,s3,s4⟩:=set3 W B c'.c0 c'.c1 c'.c2
 have hs:∀ a,a≠B→(((W.setCell ⟨B,0,none⟩ c'.c0).setCell ⟨B,1,none⟩ c'.c1).setCell ⟨B,2,none⟩ c'.c2).heap[a]? = W.heap[a]? := s1
 have hz:(((W.setCell ⟨B,0,none⟩ c'.c0).setCell ⟨B,1,none⟩ c'.c1).setCell ⟨B,2,none⟩ c'.c2).heap.size=W.heap.size:=s2
 have h1:=h.on hV
 have hw:=h.hB;have hR:=h.hR;have hlt:=h.row.lt
 exact ⟨hR,hw,h1.b2.of_block (hs _ (by omega)),s3 _ _ h1.row,hd.carry (fun g hg=>hs g (by omega)) (fun g hg=>⟨by omega,by rw [hz];exact hg.2,by omega,by omega⟩),hg,((h1.dr.set (by omega) _ _).set (by omega) _ _).set (by omega) _ _,But.setNew8 (But.setNew8 (But.setNew8 h1.but (by omega) _) (by omega) _) (by omega) _⟩
def DdEnd (R:Nat) (w w':World) (v:Value) (b:List UInt8) (p most:Nat) (e:Ending):Prop :=
 ∃ (d:Dk) (c:C3) (p':Nat),e=.returned (.agg #[c.c0,c.c1,c.c2])∧DkAt (New w w') w' d c∧GoodD d∧p'≤p+most∧Hid (DR R w' v b p')∧Hid (But R w w')
theorem DsS.done {{R:Nat}} {{w W:World}} {{B:Nat}} {{v:Value}} {{b:List UInt8}} {{q:Nat}} {{d:Dk}} {{c:C3}} (h:DsS R w W B v b q d c) {p most:Nat} (hq:q≤p+most):DdEnd R w (((W.setCell ⟨w.heap.size,0,none⟩ c.c0).setCell ⟨w.heap.size,1,none⟩ c.c1).setCell ⟨w.heap.size,2,none⟩ c.c2) v b p most (.returned (.agg #[c.c0,c.c1,c.c2])):=by
 obtain ⟨s1,s2,-,-⟩:=set3 W w.heap.size c.c0 c.c1 c.c2
 have hs:∀ a,a≠w.heap.size→(((W.setCell ⟨w.heap.size,0,none⟩ c.c0).setCell ⟨w.heap.size,1,none⟩ c.c1).setCell ⟨w.heap.size,2,none⟩ c.c2).heap[a]? = W.heap[a]? := s1
 have hz:(((W.setCell ⟨w.heap.size,0,none⟩ c.c0).setCell ⟨w.heap.size,1,none⟩ c.c1).setCell ⟨w.heap.size,2,none⟩ c.c2).heap.size=W.heap.size:=s2
 have hR:=h.hR
 exact ⟨d,c,q,rfl,h.dk.carry (fun g hg=>hs g hg.2.2.1) (fun g hg=>⟨hg.1,by rw [hz];exact hg.2.1⟩),h.good,hq,xH (((h.dr.set hR _ _).set hR _ _).set hR _ _),xH (But.setNew8 (But.setNew8 (But.setNew8 h.but (Nat.le_refl _) _) (Nat.le_refl _) _) (Nat.le_refl _) _)⟩
noncomputable def ld14Ops:Array Oper:=fops Try.f49 14
theorem ld14_neat:Region.noSelect ld14Ops=true∧neat ld14Ops=true:=⟨by kernel_rfl,by kernel_rfl⟩
def kp_ld14 (z:Nat→Value):List (Nat × Value):=[(0,z 0),(1,z 1),(2,z 2),(4,z 4),(5,z 5),(6,z 6),(8,z 8),(9,z 9),(11,z 11),(12,z 12),(13,z 13),(14,z 14),(15,z 15),(16,z 16),(17,z 17),(18,z 18),(19,z 19),(20,z 20),(21,z 21),(22,z 22),(23,z 23),(24,z 24),(25,z 25),(26,z 26),(27,z 27),(28,z 28),(29,z 29),(30,z 30),(31,z 31),(32,z 32),(33,z 33),(34,z 34),(35,z 35),(36,z 36),(37,z 37),(38,z 38),(39,z 39),(40,z 40),(41,z 41),(42,z 42),(43,z 43),(44,z 44),(45,z 45),(46,z 46),(47,z 47),(48,z 48),(49,z 49),(50,z 50),(51,z 51),(52,z 52),(53,z 53),(54,z 54),(55,z 55),(56,z 56),(57,z 57),(58,z 58),(59,z 59),(60,z 60),(70,z 70)]
theorem ld14z (z:Nat→Value) (LL:(Nat→Value)→C3→List Value) (R B wg p n cap i q:Nat) (w:World) (v:Value) (b:List UInt8) (d:Dk) (c:C3) (x:Wr) (W0:World) {l:List Value} (Q:Exit→Act→World→Prop) (hQ:∀ c a d v w,Q (.panic c) (Act.put a d v) w→Q (.panic c) a w) (hS:DsS R w W0.drew B v b q d c) (hq3:C3.at W0.drew wg (p+i * 3) ⟨.int .i64 x.k,.string x.x,.string x.y⟩) (hi:i < n) (HK:∀ W,DkAt (fun g=>g < W.heap.size) W d c→Calls Try.prog 7 #[.agg #[c.c0,c.c1,c.c2],.agg #[.int .i64 x.k,.string x.x,.string x.y]] W fun e w'=>DoEnd W w' e (doD d x.k x.x x.y).1 (doD d x.k x.x x.y).2)
 (hl:lookL (kp_ld14 z++[(3,.pointer (some ⟨B,0,none⟩)),(7,.slice (some ⟨wg,p,none⟩) n cap),(10,.int .i64 (i:Nat))]) l=(71,((kp_ld14 z++[(3,.pointer (some ⟨B,0,none⟩)),(7,.slice (some ⟨wg,p,none⟩) n cap),(10,.int .i64 (i:Nat))]):List (Nat × Value)).map (·.2)))
 (hfr:∀ (u:Nat→Value) (c':C3),frL u 71 (kp_ld14 z++[(3,.pointer (some ⟨B,0,none⟩)),(7,.slice (some ⟨wg,p,none⟩) n cap),(10,.int .i64 (i:Nat))])=LL u c')
 (hend:∀ (u:Nat→Value) (c':C3) (W:World),DsS R w W B v b q (doD d x.k x.x x.y).1 c'→(W0.drew.heap.size≤W.heap.size∧∀ g,g < W0.drew.heap.size→g≠B→W.heap[g]? = W0.drew.heap[g]?)→Q .normal ⟨(LL u c').toArray,[]⟩ W):(Code.region 14 ld14Ops true).wp Try.prog Q ⟨l.toArray,[]⟩ W0:=by
 obtain ⟨v0,rfl⟩:=look_fr hl
 have hq:NtQ ld14Ops Q:=⟨ld14_neat,hQ⟩
 refine T_start (S:=fun _=>True) (by kernel_rfl) trivial ?_
 clear hl hQ
 generalize W0.drew=V at hS hq3 hend ⊢
 have M5:∀ (u:Nat→Value),wpS Try.prog ld14Ops Q (fun _=>True) (unl 10 [5,6,7,8,9],frL u 71 (kp_ld14 z++[(3,.pointer (some ⟨B,0,none⟩)),(7,.slice (some ⟨wg,p,none⟩) n cap),(10,.int .i64 (i:Nat)),(62,.agg #[c.c0,c.c1,c.c2]),(66,.agg #[.int .i64 x.k,.string x.x,.string x.y])])) [] V:=by
  intro u
  refine T_one 5 (by kernel_rfl) fun _=>O_go (HK V (hS.dk.carry (fun _ _=>rfl) (fun _ hg=>hg.2.1))) (by kernel_rfl) ?_
  rintro e w1 ⟨c',rfl,hd,hb1⟩
  refine ⟨_,rfl,trivial,?_⟩
  refine T_z hq [6,7,8] (by kernel_rfl) ?_
  refine T_fr 10 71 [9] (kp_ld14 z++[(3,.pointer (some ⟨B,0,none⟩)),(7,.slice (some ⟨wg,p,none⟩) n cap),(10,.int .i64 (i:Nat)),(68,.agg #[c'.c0,c'.c1,c'.c2])]) (by kernel_rfl) fun u=>?_
  have h6:=(hS.on hb1).row
  obtain ⟨s1,s2,s3,s4⟩:=set3 w1 B c'.c0 c'.c1 c'.c2
  refine T_one 9 (by kernel_rfl) fun _=>O_store_mid none 27 (.tmp 3) (.tmp 68) B 0 #[c'.c0,c'.c1,c'.c2] (by kernel_rfl) (by kernel_rfl) (by kernel_rfl) (there3 h6) info3D (dk_one8 hd) trivial ?_
  exact T_end 71 (kp_ld14 z++[(3,.pointer (some ⟨B,0,none⟩)),(7,.slice (some ⟨wg,p,none⟩) n cap),(10,.int .i64 (i:Nat))]) (by kernel_rfl) (by kernel_rfl) fun _ u=>by rw [hfr];exact hend u c' _ (hS.put hb1 hd (good_do hS.good)) ⟨by rw [show _=w1.heap.size from s2];exact hb1.size,fun g2 hg2 hn2=>(s1 g2 hn2).trans (hb1.block g2 hg2)⟩
 have M0:∀ (u:Nat→Value),wpS Try.prog ld14Ops Q (fun _=>True) (unl 10 [0,5,6,7,8,9],frL u 71 (kp_ld14 z++[(3,.pointer (some ⟨B,0,none⟩)),(7,.slice (some ⟨wg,p,none⟩) n cap),(10,.int .i64 (i:Nat)),(66,.agg #[.int .i64 x.k,.string x.x,.string x.y])])) [] V:=by
  intro u
  refine T_one 0 (by kernel_rfl) fun _=>?_
  exact O_val (w':=V) (some 62) (.agg #[c.c0,c.c1,c.c2]) (by kernel_rfl) (ldOpR (X:=.tmp 3) (T:=27) (ad:=⟨B,0,none⟩) (by kernel_rfl) (by kernel_rfl) (ldDk hS.row)) trivial (T_fr 10 71 [5,6,7,8,9] (kp_ld14 z++[(3,.pointer (some ⟨B,0,none⟩)),(7,.slice (some ⟨wg,p,none⟩) n cap),(10,.int .i64 (i:Nat)),(62,.agg #[c.c0,c.c1,c.c2]),(66,.agg #[.int .i64 x.k,.string x.x,.string x.y])]) (by kernel_rfl) fun u=>M5 u)
 have M4:∀ (u:Nat→Value),wpS Try.prog ld14Ops Q (fun _=>True) (unl 10 [4,5,6,7,8,9],frL u 71 (kp_ld14 z++[(3,.pointer (some ⟨B,0,none⟩)),(7,.slice (some ⟨wg,p,none⟩) n cap),(10,.int .i64 (i:Nat)),(62,.agg #[c.c0,c.c1,c.c2]),(65,.pointer (some ⟨wg,p+i * 3,none⟩))])) [] V:=by
  intro u
  refine T_one 4 (by kernel_rfl) fun _=>?_
  exact O_val (w':=V) (some 66) (.agg #[.int .i64 x.k,.string x.x,.string x.y]) (by kernel_rfl) (ldOpR (X:=.tmp 65) (T:=29) (ad:=⟨wg,p+i * 3,none⟩) (by kernel_rfl) (by kernel_rfl) (ldWr8 hq3)) trivial (T_fr 10 71 [5,6,7,8,9] (kp_ld14 z++[(3,.pointer (some ⟨B,0,none⟩)),(7,.slice (some ⟨wg,p,none⟩) n cap),(10,.int .i64 (i:Nat)),(62,.agg #[c.c0,c.c1,c.c2]),(66,.agg #[.int .i64 x.k,.string x.x,.string x.y])]) (by kernel_rfl) fun u=>M5 u)
 have MM:∀ (u:Nat→Value),wpS Try.prog ld14Ops Q (fun _=>True) (unl 10 [0,4,5,6,7,8,9],frL u 71 (kp_ld14 z++[(3,.pointer (some ⟨B,0,none⟩)),(7,.slice (some ⟨wg,p,none⟩) n cap),(10,.int .i64 (i:Nat)),(65,.pointer (some ⟨wg,p+i * 3,none⟩))])) [] V:=by
  intro u
  refine T_two 0 4 (by kernel_rfl) (fun _=>?_) fun _=>?_
  · exact O_val (w':=V) (some 62) (.agg #[c.c0,c.c1,c.c2]) (by kernel_rfl) (ldOpR (X:=.tmp 3) (T:=27) (ad:=⟨B,0,none⟩) (by kernel_rfl) (by kernel_rfl) (ldDk hS.row)) trivial (T_fr 10 71 [4,5,6,7,8,9] (kp_ld14 z++[(3,.pointer (some ⟨B,0,none⟩)),(7,.slice (some ⟨wg,p,none⟩) n cap),(10,.int .i64 (i:Nat)),(62,.agg #[c.c0,c.c1,c.c2]),(65,.pointer (some ⟨wg,p+i * 3,none⟩))]) (by kernel_rfl) fun u=>M4 u)
  · exact O_val (w':=V) (some 66) (.agg #[.int .i64 x.k,.string x.x,.string x.y]) (by kernel_rfl) (ldOpR (X:=.tmp 65) (T:=29) (ad:=⟨wg,p+i * 3,none⟩) (by kernel_rfl) (by kernel_rfl) (ldWr8 hq3)) trivial (T_fr 10 71 [0,5,6,7,8,9] (kp_ld14 z++[(3,.pointer (some ⟨B,0,none⟩)),(7,.slice (some ⟨wg,p,none⟩) n cap),(10,.int .i64 (i:Nat)),(66,.agg #[.int .i64 x.k,.string x.x,.string x.y])]) (by kernel_rfl) fun u=>M0 u)
 refine T_z hq [1,2] (by kernel_rfl) ?_
 refine T_yld hq 3 (some 65) (.pointer (some ⟨wg,p+i * 3,none⟩)) (by kernel_rfl) (by kernel_rfl) (fun w h=>ixRunW8 (X:=.tmp 63) (I:=.tmp 64) (n:=n) (cap:=cap) (i:=i) (by kernel_rfl) (by kernel_rfl) (by kernel_rfl) hi w) ?_
 exact T_fr 10 71 [0,4,5,6,7,8,9] (kp_ld14 z++[(3,.pointer (some ⟨B,0,none⟩)),(7,.slice (some ⟨wg,p,none⟩) n cap),(10,.int .i64 (i:Nat)),(65,.pointer (some ⟨wg,p+i * 3,none⟩))]) (by kernel_rfl) fun u=>MM u
theorem ld14 (R B wg p n cap i q:Nat) (w:World) (v:Value) (b:List UInt8) (d:Dk) (c:C3) (x:Wr) (W0:World) {l:List Value} (Q:Exit→Act→World→Prop) (hQ:∀ c a d v w,Q (.panic c) (Act.put a d v) w→Q (.panic c) a w) (hS:DsS R w W0.drew B v b q d c) (hq3:C3.at W0.drew wg (p+i * 3) ⟨.int .i64 x.k,.string x.x,.string x.y⟩) (hi:i < n) (HK:∀ W,DkAt (fun g=>g < W.heap.size) W d c→Calls Try.prog 7 #[.agg #[c.c0,c.c1,c.c2],.agg #[.int .i64 x.k,.string x.x,.string x.y]] W fun e w'=>DoEnd W w' e (doD d x.k x.x x.y).1 (doD d x.k x.x x.y).2)
 (hl:lookL (kp_ld14 (fun i=>l.getD i undef)++[(3,.pointer (some ⟨B,0,none⟩)),(7,.slice (some ⟨wg,p,none⟩) n cap),(10,.int .i64 (i:Nat))]) l=(71,((kp_ld14 (fun i=>l.getD i undef)++[(3,.pointer (some ⟨B,0,none⟩)),(7,.slice (some ⟨wg,p,none⟩) n cap),(10,.int .i64 (i:Nat))]):List (Nat × Value)).map (·.2)))
 (hfr:∀ (u:Nat→Value) (_c':C3),frL u 71 (kp_ld14 (fun i=>l.getD i undef)++[(3,.pointer (some ⟨B,0,none⟩)),(7,.slice (some ⟨wg,p,none⟩) n cap),(10,.int .i64 (i:Nat))])=(l.take 61++(u 61::(u 62::(u 63::(u 64::(u 65::(u 66::(u 67::(u 68::(u 69::l.drop 70)))))))))))
 (hend:∀ (u:Nat→Value) (c':C3) (W:World),DsS R w W B v b q (doD d x.k x.x x.y).1 c'→(W0.drew.heap.size≤W.heap.size∧∀ g,g < W0.drew.heap.size→g≠B→W.heap[g]? = W0.drew.heap[g]?)→Q .normal ⟨((l.take 61++(u 61::(u 62::(u 63::(u 64::(u 65::(u 66::(u 67::(u 68::(u 69::l.drop 70))))))))))).toArray,[]⟩ W):(Code.region 14 ld14Ops true).wp Try.prog Q ⟨l.toArray,[]⟩ W0 :=
 ld14z (fun i=>l.getD i undef) (fun u _c'=>(l.take 61++(u 61::(u 62::(u 63::(u 64::(u 65::(u 66::(u 67::(u 68::(u 69::l.drop 70))))))))))) R B wg p n cap i q w v b d c x W0 Q hQ hS hq3 hi HK hl hfr hend
noncomputable def ld8Ops:Array Oper:=fops Try.f49 8
theorem ld8_neat:Region.noSelect ld8Ops=true∧neat ld8Ops=true:=⟨by kernel_rfl,by kernel_rfl⟩
def kp_ld8 (z:Nat→Value):List (Nat × Value):=[(1,z 1),(2,z 2),(4,z 4),(6,z 6),(7,z 7),(8,z 8),(9,z 9),(10,z 10),(11,z 11),(12,z 12),(13,z 13),(14,z 14),(15,z 15),(16,z 16),(17,z 17),(18,z 18),(19,z 19),(20,z 20),(21,z 21),(22,z 22),(23,z 23),(24,z 24),(25,z 25),(26,z 26),(27,z 27),(28,z 28),(29,z 29),(30,z 30),(40,z 40),(41,z 41),(42,z 42),(43,z 43),(44,z 44),(45,z 45),(46,z 46),(47,z 47),(48,z 48),(49,z 49),(50,z 50),(51,z 51),(52,z 52),(53,z 53),(54,z 54),(55,z 55),(56,z 56),(57,z 57),(58,z 58),(59,z 59),(60,z 60),(61,z 61),(62,z 62),(63,z 63),(64,z 64),(65,z 65),(66,z 66),(67,z 67),(68,z 68),(69,z 69),(70,z 70)]
theorem ld8z (z:Nat→Value) (LL:(Nat→Value)→Dk→C3→List Value) (R B q:Nat) (w:World) (v:Value) (b:List UInt8) (d:Dk) (c:C3) (more:ByteArray) (W0:World) {l:List Value} (Q:Exit→Act→World→Prop) (hQ:∀ c a d v w,Q (.panic c) (Act.put a d v) w→Q (.panic c) a w) (hS:DsS R w W0.drew B v b q d c) (HW:∀ W,DR R W v b q→DkAt (fun g=>g < W.heap.size) W d c→Calls Try.prog 22 #[.pointer (some ⟨R,0,none⟩),.agg #[c.c0,c.c1,c.c2],.string more] W fun e w'=>WdEnd R W w' v b q e) (HK:∀ W (x:Wr),x.x.size≤1000→DkAt (fun g=>g < W.heap.size) W d c→Calls Try.prog 7 #[.agg #[c.c0,c.c1,c.c2],.agg #[.int .i64 x.k,.string x.x,.string x.y]] W fun e w'=>DoEnd W w' e (doD d x.k x.x x.y).1 (doD d x.k x.x x.y).2)
 (hl:lookL (kp_ld8 z++[(0,.pointer (some ⟨R,0,none⟩)),(3,.pointer (some ⟨B,0,none⟩)),(5,.string more)]) l=(71,((kp_ld8 z++[(0,.pointer (some ⟨R,0,none⟩)),(3,.pointer (some ⟨B,0,none⟩)),(5,.string more)]):List (Nat × Value)).map (·.2)))
 (hfr:∀ (u:Nat→Value) (dd:Dk) (c':C3),frL u 71 (kp_ld8 z++[(0,.pointer (some ⟨R,0,none⟩)),(3,.pointer (some ⟨B,0,none⟩)),(5,.string more)])=LL u dd c')
 (hend:∀ (u:Nat→Value) (dd:Dk) (c':C3) (W:World),DsS R w W B v b (q+1+1+1) dd c'→Q .normal ⟨(LL u dd c').toArray,[]⟩ W):(Code.region 8 ld8Ops true).wp Try.prog Q ⟨l.toArray,[]⟩ W0:=by
 obtain ⟨v0,rfl⟩:=look_fr hl
 have hq:NtQ ld8Ops Q:=⟨ld8_neat,hQ⟩
 refine T_start (S:=fun _=>True) (by kernel_rfl) trivial ?_
 clear hl hQ
 generalize W0.drew=V at hS hend ⊢
 have M5:∀ (u:Nat→Value) (W:World) (x:Wr) (hx:x.x.size≤1000) (hS4:DsS R w W B v b (q+1+1+1) d c),wpS Try.prog ld8Ops Q (fun _=>True) (unl 10 [5,6,7,8,9],frL u 71 (kp_ld8 z++[(0,.pointer (some ⟨R,0,none⟩)),(3,.pointer (some ⟨B,0,none⟩)),(5,.string more),(32,.agg #[c.c0,c.c1,c.c2]),(36,.agg #[.int .i64 x.k,.string x.x,.string x.y])])) [] W:=by
  intro u W x hx hS4
  refine T_one 5 (by kernel_rfl) fun _=>O_go (HK W x hx (hS4.dk.carry (fun _ _=>rfl) (fun _ hg=>hg.2.1))) (by kernel_rfl) ?_
  rintro e w1 ⟨c',rfl,hd,hb1⟩
  refine ⟨_,rfl,trivial,?_⟩
  refine T_z hq [6,7,8] (by kernel_rfl) ?_
  refine T_fr 10 71 [9] (kp_ld8 z++[(0,.pointer (some ⟨R,0,none⟩)),(3,.pointer (some ⟨B,0,none⟩)),(5,.string more),(38,.agg #[c'.c0,c'.c1,c'.c2])]) (by kernel_rfl) fun u=>?_
  have h6:=(hS4.on hb1).row
  refine T_one 9 (by kernel_rfl) fun _=>O_store_mid none 27 (.tmp 3) (.tmp 38) B 0 #[c'.c0,c'.c1,c'.c2] (by kernel_rfl) (by kernel_rfl) (by kernel_rfl) (there3 h6) info3D (dk_one8 hd) trivial ?_
  exact T_end 71 (kp_ld8 z++[(0,.pointer (some ⟨R,0,none⟩)),(3,.pointer (some ⟨B,0,none⟩)),(5,.string more)]) (by kernel_rfl) (by kernel_rfl) fun _ u=>by rw [hfr];exact hend u _ c' _ (hS4.put hb1 hd (good_do hS4.good))
 have M24:∀ (u:Nat→Value) (W:World) (x:Wr) (hx:x.x.size≤1000) (hS4:DsS R w W B v b (q+1+1+1) d c),wpS Try.prog ld8Ops Q (fun _=>True) (unl 10 [0,5,6,7,8,9],frL u 71 (kp_ld8 z++[(0,.pointer (some ⟨R,0,none⟩)),(3,.pointer (some ⟨B,0,none⟩)),(5,.string more),(36,.agg #[.int .i64 x.k,.string x.x,.string x.y])])) [] W:=by
  intro u W x hx hS4
  refine T_one 0 (by kernel_rfl) fun _=>?_
  exact O_val (w':=W) (some 32) (.agg #[c.c0,c.c1,c.c2]) (by kernel_rfl) (ldOpR (X:=.tmp 3) (T:=27) (ad:=⟨B,0,none⟩) (by kernel_rfl) (by kernel_rfl) (ldDk hS4.row)) trivial (T_fr 10 71 [5,6,7,8,9] (kp_ld8 z++[(0,.pointer (some ⟨R,0,none⟩)),(3,.pointer (some ⟨B,0,none⟩)),(5,.string more),(32,.agg #[c.c0,c.c1,c.c2]),(36,.agg #[.int .i64 x.k,.string x.x,.string x.y])]) (by kernel_rfl) fun u=>M5 u W x hx hS4)
 have M02:∀ (u:Nat→Value),wpS Try.prog ld8Ops Q (fun _=>True) (unl 10 [4,5,6,7,8,9],frL u 71 (kp_ld8 z++[(0,.pointer (some ⟨R,0,none⟩)),(3,.pointer (some ⟨B,0,none⟩)),(5,.string more),(32,.agg #[c.c0,c.c1,c.c2]),(33,.pointer (some ⟨R,0,none⟩)),(34,.agg #[c.c0,c.c1,c.c2]),(35,.string more)])) [] V:=by
  intro u
  refine T_one 4 (by kernel_rfl) fun _=>?_
  refine O_go (HW V hS.dr (hS.dk.carry (fun _ _=>rfl) (fun _ hg=>hg.2.1))) (by kernel_rfl) ?_
  rintro e w1 ⟨x,rfl,hx,hy,HD,HB⟩
  exact ⟨_,rfl,trivial,T_fr 10 71 [5,6,7,8,9] (kp_ld8 z++[(0,.pointer (some ⟨R,0,none⟩)),(3,.pointer (some ⟨B,0,none⟩)),(5,.string more),(32,.agg #[c.c0,c.c1,c.c2]),(36,.agg #[.int .i64 x.k,.string x.x,.string x.y])]) (by kernel_rfl) fun u=>M5 u w1 x hx (hS.draw HB.out HD.out)⟩
 have M0:∀ (u:Nat→Value),wpS Try.prog ld8Ops Q (fun _=>True) (unl 10 [2,4,5,6,7,8,9],frL u 71 (kp_ld8 z++[(0,.pointer (some ⟨R,0,none⟩)),(3,.pointer (some ⟨B,0,none⟩)),(5,.string more),(32,.agg #[c.c0,c.c1,c.c2]),(33,.pointer (some ⟨R,0,none⟩)),(35,.string more)])) [] V:=by
  intro u
  refine T_one 2 (by kernel_rfl) fun _=>?_
  exact O_val (w':=V) (some 34) (.agg #[c.c0,c.c1,c.c2]) (by kernel_rfl) (ldOpR (X:=.tmp 3) (T:=27) (ad:=⟨B,0,none⟩) (by kernel_rfl) (by kernel_rfl) (ldDk hS.row)) trivial (T_fr 10 71 [4,5,6,7,8,9] (kp_ld8 z++[(0,.pointer (some ⟨R,0,none⟩)),(3,.pointer (some ⟨B,0,none⟩)),(5,.string more),(32,.agg #[c.c0,c.c1,c.c2]),(33,.pointer (some ⟨R,0,none⟩)),(34,.agg #[c.c0,c.c1,c.c2]),(35,.string more)]) (by kernel_rfl) fun u=>M02 u)
 have M2:∀ (u:Nat→Value),wpS Try.prog ld8Ops Q (fun _=>True) (unl 10 [0,4,5,6,7,8,9],frL u 71 (kp_ld8 z++[(0,.pointer (some ⟨R,0,none⟩)),(3,.pointer (some ⟨B,0,none⟩)),(5,.string more),(33,.pointer (some ⟨R,0,none⟩)),(34,.agg #[c.c0,c.c1,c.c2]),(35,.string more)])) [] V:=by
  intro u
  refine T_two 0 4 (by kernel_rfl) (fun _=>?_) fun _=>?_
  · exact O_val (w':=V) (some 32) (.agg #[c.c0,c.c1,c.c2]) (by kernel_rfl) (ldOpR (X:=.tmp 3) (T:=27) (ad:=⟨B,0,none⟩) (by kernel_rfl) (by kernel_rfl) (ldDk hS.row)) trivial (T_fr 10 71 [4,5,6,7,8,9] (kp_ld8 z++[(0,.pointer (some ⟨R,0,none⟩)),(3,.pointer (some ⟨B,0,none⟩)),(5,.string more),(32,.agg #[c.c0,c.c1,c.c2]),(33,.pointer (some ⟨R,0,none⟩)),(34,.agg #[c.c0,c.c1,c.c2]),(35,.string more)]) (by kernel_rfl) fun u=>M02 u)
  · refine O_go (HW V hS.dr (hS.dk.carry (fun _ _=>rfl) (fun _ hg=>hg.2.1))) (by kernel_rfl) ?_
    rintro e w1 ⟨x,rfl,hx,hy,HD,HB⟩
    exact ⟨_,rfl,trivial,T_fr 10 71 [0,5,6,7,8,9] (kp_ld8 z++[(0,.pointer (some ⟨R,0,none⟩)),(3,.pointer (some ⟨B,0,none⟩)),(5,.string more),(36,.agg #[.int .i64 x.k,.string x.x,.string x.y])]) (by kernel_rfl) fun u=>M24 u w1 x hx (hS.draw HB.out HD.out)⟩
 have MM:∀ (u:Nat→Value),wpS Try.prog ld8Ops Q (fun _=>True) (unl 10 [0,2,4,5,6,7,8,9],frL u 71 (kp_ld8 z++[(0,.pointer (some ⟨R,0,none⟩)),(3,.pointer (some ⟨B,0,none⟩)),(5,.string more),(33,.pointer (some ⟨R,0,none⟩)),(35,.string more)])) [] V:=by
  intro u
  refine T_two 0 2 (by kernel_rfl) (fun _=>?_) fun _=>?_
  · exact O_val (w':=V) (some 32) (.agg #[c.c0,c.c1,c.c2]) (by kernel_rfl) (ldOpR (X:=.tmp 3) (T:=27) (ad:=⟨B,0,none⟩) (by kernel_rfl) (by kernel_rfl) (ldDk hS.row)) trivial (T_fr 10 71 [2,4,5,6,7,8,9] (kp_ld8 z++[(0,.pointer (some ⟨R,0,none⟩)),(3,.pointer (some ⟨B,0,none⟩)),(5,.string more),(32,.agg #[c.c0,c.c1,c.c2]),(33,.pointer (some ⟨R,0,none⟩)),(35,.string more)]) (by kernel_rfl) fun u=>M0 u)
  · exact O_val (w':=V) (some 34) (.agg #[c.c0,c.c1,c.c2]) (by kernel_rfl) (ldOpR (X:=.tmp 3) (T:=27) (ad:=⟨B,0,none⟩) (by kernel_rfl) (by kernel_rfl) (ldDk hS.row)) trivial (T_fr 10 71 [0,4,5,6,7,8,9] (kp_ld8 z++[(0,.pointer (some ⟨R,0,none⟩)),(3,.pointer (some ⟨B,0,none⟩)),(5,.string more),(33,.pointer (some ⟨R,0,none⟩)),(34,.agg #[c.c0,c.c1,c.c2]),(35,.string more)]) (by kernel_rfl) fun u=>M2 u)
 refine T_z hq [1,3] (by kernel_rfl) ?_
 exact T_fr 10 71 [0,2,4,5,6,7,8,9] (kp_ld8 z++[(0,.pointer (some ⟨R,0,none⟩)),(3,.pointer (some ⟨B,0,none⟩)),(5,.string more),(33,.pointer (some ⟨R,0,none⟩)),(35,.string more)]) (by kernel_rfl) fun u=>MM u
theorem ld8 (R B q:Nat) (w:World) (v:Value) (b:List UInt8) (d:Dk) (c:C3) (more:ByteArray) (W0:World) {l:List Value} (Q:Exit→Act→World→Prop) (hQ:∀ c a d v w,Q (.panic c) (Act.put a d v) w→Q (.panic c) a w) (hS:DsS R w W0.drew B v b q d c) (HW:∀ W,DR R W v b q→DkAt (fun g=>g < W.heap.size) W d c→Calls Try.prog 22 #[.pointer (some ⟨R,0,none⟩),.agg #[c.c0,c.c1,c.c2],.string more] W fun e w'=>WdEnd R W w' v b q e) (HK:∀ W (x:Wr),x.x.size≤1000→DkAt (fun g=>g < W.heap.size) W d c→Calls Try.prog 7 #[.agg #[c.c0,c.c1,c.c2],.agg #[.int .i64 x.k,.string x.x,.string x.y]] W fun e w'=>DoEnd W w' e (doD d x.k x.x x.y).1 (doD d x.k x.x x.y).2)
 (hl:lookL (kp_ld8 (fun i=>l.getD i undef)++[(0,.pointer (some ⟨R,0,none⟩)),(3,.pointer (some ⟨B,0,none⟩)),(5,.string more)]) l=(71,((kp_ld8 (fun i=>l.getD i undef)++[(0,.pointer (some ⟨R,0,none⟩)),(3,.pointer (some ⟨B,0,none⟩)),(5,.string more)]):List (Nat × Value)).map (·.2)))
 (hfr:∀ (u:Nat→Value) (_dd:Dk) (_c':C3),frL u 71 (kp_ld8 (fun i=>l.getD i undef)++[(0,.pointer (some ⟨R,0,none⟩)),(3,.pointer (some ⟨B,0,none⟩)),(5,.string more)])=(l.take 31++(u 31::(u 32::(u 33::(u 34::(u 35::(u 36::(u 37::(u 38::(u 39::l.drop 40)))))))))))
 (hend:∀ (u:Nat→Value) (dd:Dk) (c':C3) (W:World),DsS R w W B v b (q+1+1+1) dd c'→Q .normal ⟨((l.take 31++(u 31::(u 32::(u 33::(u 34::(u 35::(u 36::(u 37::(u 38::(u 39::l.drop 40))))))))))).toArray,[]⟩ W):(Code.region 8 ld8Ops true).wp Try.prog Q ⟨l.toArray,[]⟩ W0 :=
 ld8z (fun i=>l.getD i undef) (fun u _dd _c'=>(l.take 31++(u 31::(u 32::(u 33::(u 34::(u 35::(u 36::(u 37::(u 38::(u 39::l.drop 40))))))))))) R B q w v b d c more W0 Q hQ hS HW HK hl hfr hend

theorem fld_plan (w:World) (s0 s1 s2 s3 s4 s5 s6 s7 s8:Value):(Instr.field 118 (.agg #[s0,s1,s2,s3,s4,s5,s6,s7,s8]) 2).run Try.prog w=.ok (.agg #[s2,s3,s4]) w:=by kernel_rfl
theorem l45Disk_any (R:Nat) (w:World) (v:Value) (b:List UInt8) (p:Nat) (h:DR R w v b p) (hp:p≤10000) :
 Calls Try.prog 49 #[.pointer (some ⟨R,0,none⟩)] w fun e w'=>DdEnd R w w' v b p 800 e:=by
 have HPK:=xH (fun (W:World) (q n:Nat) (hD:DR R W v b q) (hn:1≤n∧n≤1000000) (hq:q≤100000000)=>pick_any R W v b q n hD hn (by omega))
 have hR:=h.cells.lt
 have HAC:=xH (l45Acts_any R (w.alloc (.cells #[.slice none 0 0,.slice none 0 0,.slice none 0 0] 27)) v b p 14 2 (h.on ((Below.refl _ _).alloc (Nat.le_refl _) _)) (by omega) (by omega))
 have HB0:=xH (But.alloc R w (.cells #[.slice none 0 0,.slice none 0 0,.slice none 0 0] 27))
 have HR0:=xH (row3_alloc w (.slice none 0 0) (.slice none 0 0) (.slice none 0 0) 27)
 clear h
 go_enter Try.func49,Try.ntmps49
 go_wp2_with fail
 refine HAC.out.mono ?_
 rintro e w1 ⟨xs,ov,p1,rfl,hac,hp1,HD1,HB1⟩
 have HLP:=xH (specLogPlay_any xs ov (fun g=>g < w1.heap.size) w1 (fun _ hg=>hg) (hac.carry (fun _ _=>rfl) (fun _ hg=>hg.2)))
 clear hac HAC
 go_wp2_with fail
 refine HLP.out.mono ?_
 rintro e w2 ⟨d,⟨u0,u1,u2⟩,cv,rfl,hdk,hg,hb2⟩
 obtain ⟨a0,r0,e0,-,-⟩:=hdk.fs.open
 obtain ⟨a1,r1,e1,-,-⟩:=id hdk.ns
 obtain ⟨a2,r2,e2,-,-⟩:=hdk.ms.open
 simp only at e0 e1 e2
 subst e0 e1 e2
 have hs0:=HB0.out.size
 have hs1:=HB1.out.size
 rw [World.size_alloc] at hs1
 have hs2:=hb2.size
 have hbt:But R w w2:=(HB0.out.trans HB1.out).trans (But.of_below hb2)
 have HS:=xH (show DsS R w (w2.alloc (.cells #[.slice a0 d.files.length r0,.slice a1 d.names.length r1,.slice a2 d.moves.length r2] 27)) w2.heap.size v b p1 d ⟨.slice a0 d.files.length r0,.slice a1 d.names.length r1,.slice a2 d.moves.length r2⟩ from ⟨hR,by omega,((HR0.out.of_block (HB1.out.at (by simp) (by omega))).of_block (hb2.block _ (by omega))).alloc _,row3_alloc w2 _ _ _ 27,hdk.carry (fun g hg'=>((Below.refl _ _).alloc (Nat.le_refl _) _:Below w2.heap.size w2 (w2.alloc (.cells #[.slice a0 d.files.length r0,.slice a1 d.names.length r1,.slice a2 d.moves.length r2] 27))).block g hg'.2) (fun g hg'=>⟨by have:w1.heap.size≤g:=hg'.1;omega,by have:=hg'.2;simp;omega,by have:w1.heap.size≤g:=hg'.1;omega,by have:=hg'.2;omega⟩),hg,(HD1.out.on hb2).on ((Below.refl _ _).alloc (Nat.le_refl _) _),hbt.trans (But.alloc R w2 _)⟩)
 clear HLP hdk hg hb2 hbt HB0 HB1 HR0 HD1 hs0 hs1 hs2
 go_upto_region 2 with fail
 generalize w2.alloc (.cells #[.slice a0 d.files.length r0,.slice a1 d.names.length r1,.slice a2 d.moves.length r2] 27)=W3 at HS ⊢
 generalize w2.heap.size=B at HS ⊢
 have HP1:=xH (HPK.out W3 p1 6 HS.out.dr (by omega) (by omega))
 go_wp2_with fail
 refine HP1.out.mono ?_
 rintro e w4 ⟨r,rfl,hr,HDx,HBx⟩
 have HS4:=xH (HS.out.draw HBx.out HDx.out)
 clear HS HP1 HDx HBx
 by_cases hr0:(r:Int)=0
 · have f0:((r:Int)==0)=true:=beq_iff_eq.2 hr0
   have HLO:=xH (specLogOpen_any d (fun g=>g < w4.heap.size) ⟨.slice a0 d.files.length r0,.slice a1 d.names.length r1,.slice a2 d.moves.length r2⟩ w4 (fun _ hg=>hg) (HS4.out.dk.carry (fun _ _=>rfl) (fun _ hg=>hg.2.1)))
   obtain ⟨l0,l1,l2⟩:=cs3 HS4.out.row (by omega)
   have y0:=HS4.out.b2.cell (i:=0) (by omega);have y1:=HS4.out.b2.cell (i:=1) (by omega);have y2:=HS4.out.b2.cell (i:=2) (by omega)
   have z:=HS4.out.b2.frozen
   simp only [row3] at l0 l1 l2 y0 y1 y2
   go_wp2_with fail
   refine HLO.out.mono ?_
   rintro e w5 ⟨code,num,size,next,torn,l,vP,a8,n8,p8,rfl,hpt,-,-,-,-,-,hb5⟩
   obtain ⟨va,vc,rfl,-,-⟩:=hpt.open
   have HPW:=xH (specLogPlanWrite_any l (fun g=>g < w5.heap.size) (.slice va l.parts.length vc) w5 (fun _ hg=>hg) (hpt.carry (fun _ _=>rfl) (fun _ hg=>hg.2)))
   have HS5:=xH (HS4.out.on hb5)
   have hpl:=plW_size8 l
   have hfl:=fld_plan w5 (.int .i64 code) (.int .i64 num) (.slice va l.parts.length vc) (.int .i64 l.op) (.int .i64 l.fi) (.int .i64 size) (.bool torn) (.int .i64 next) (.slice a8 n8 p8)
   clear HLO HS4 hpt hb5 l0 l1 l2 y0 y1 y2 z
   go_wp2_with fail
   refine HPW.out.mono ?_
   rintro e w6 ⟨rfl,hb6⟩
   have HS6:=xH (HS5.out.on hb6)
   generalize plW l=more at hpl ⊢
   clear HPW HS5 hb6
   have HP2:=xH (HPK.out w6 (p1+1) 4 HS6.out.dr (by omega) (by omega))
   go_wp2_with fail
   refine HP2.out.mono ?_
   rintro e w7 ⟨m0,rfl,hm0,HDx,HBx⟩
   have HS7:=xH (HS6.out.draw HBx.out HDx.out)
   clear HS6 HP2 HDx HBx
   go_wp2_with fail
   go_loopw [6] (fun mm wr=>∃ (m q:Nat) (d:Dk) (c:C3),m≤4∧mm=.int .i64 m∧q+3 * m≤p1+20∧Hid (DsS R w wr B v b q d c)) (fun mm _=>(intOf mm).toNat)
   case atStart=>exact ⟨m0,_,_,_,by omega,rfl,by omega,HS7⟩
   case round =>
    clear HS7
    obtain ⟨m,q,d,⟨u0,u1,u2⟩,hm4,rfl,hq,HS⟩:=hrel
    obtain ⟨a0,r0,e0,-,-⟩:=HS.out.dk.fs.open
    obtain ⟨a1,r1,e1,-,-⟩:=id HS.out.dk.ns
    obtain ⟨a2,r2,e2,-,-⟩:=HS.out.dk.ms.open
    simp only at e0 e1 e2
    subst e0 e1 e2
    by_cases hmz:m=0
    · subst hmz
      go_upto_region 15 with fail
      obtain ⟨l0,l1,l2⟩:=cs3 HS.out.row (by omega)
      have y0:=HS.out.b2.cell (i:=0) (by omega);have y1:=HS.out.b2.cell (i:=1) (by omega);have y2:=HS.out.b2.cell (i:=2) (by omega)
      have z:=HS.out.b2.frozen
      simp only [row3] at l0 l1 l2 y0 y1 y2
      have HF:=xH (HS.out.done (p:=p) (most:=800) (by omega))
      clear HS
      generalize d.files.length=M0 at *
      generalize d.names.length=M1 at *
      generalize d.moves.length=M2 at *
      go_wp2_with fail
      try simp only [Exit.inBlock,Exit.then]
      refine bodyPost_ret (v:=.agg #[.slice a0 M0 r0,.slice a1 M1 r1,.slice a2 M2 r2]) (by simp [results,Try.results49,go_sem,y0,y1,y2]) rfl ?_
      exact xU HF
    · have hdm:decide ((0:Int) < (m:Int))=true:=decide_eq_true (by omega)
      go_upto_region 8 with fail
      refine wp_swap (c':=Code.region 8 ld8Ops true) (by kernel_rfl) ?_
      refine wp_region_noPanic ?_
      refine ld8 R B q w v b d ⟨.slice a0 d.files.length r0,.slice a1 d.names.length r1,.slice a2 d.moves.length r2⟩ more wr _ (fun _ _ _ _ _ h=>h) (HS.out.on (Below.refl _ _).drew) (fun W hD hdk=>l45Write_any R W v b q d ⟨.slice a0 d.files.length r0,.slice a1 d.names.length r1,.slice a2 d.moves.length r2⟩ more (fun g=>g < W.heap.size) hD (by omega) (fun _ h=>h) hdk (by omega)) (fun W x hx hdk=>specDiskDo_any d x.k x.x x.y (fun g=>g < W.heap.size) ⟨.slice a0 d.files.length r0,.slice a1 d.names.length r1,.slice a2 d.moves.length r2⟩ W (fun _ h=>h) hdk (Nat.le_trans hx (by decide))) (by kernel_rfl) (fun u _ _=>by kernel_rfl) ?_
      intro u dd c' W hnx
      refine NoPanic.normal ?_
      simp only [List.take_succ_cons,List.take_zero,List.drop_succ_cons,List.drop_zero,List.cons_append,List.nil_append]
      have HNX:=xH hnx
      clear hnx HS
      go_wp2_with fail
      go_roundw
      case rel=>exact ⟨m - 1,q+1+1+1,dd,c',by omega,by go_num,by omega,HNX⟩
      case measure=>simp [intOf];omega
 by_cases hr1:(r:Int)=1
 · have f0:((r:Int)==0)=false:=beq_eq_false_iff_ne.2 hr0
   have f1:((r:Int)==1)=true:=beq_iff_eq.2 hr1
   have HLW:=xH (specLogWrites_any d ⟨.slice a0 d.files.length r0,.slice a1 d.names.length r1,.slice a2 d.moves.length r2⟩ 3 0 0 ⟨#[]⟩ false (.slice none 0 0) rfl (fun g=>g < w4.heap.size) w4 (fun _ hg=>hg) (HS4.out.dk.carry (fun _ _=>rfl) (fun _ hg=>hg.2.1)) (by show 0≤9223372036854775000;omega))
   obtain ⟨l0,l1,l2⟩:=cs3 HS4.out.row (by omega)
   have y0:=HS4.out.b2.cell (i:=0) (by omega);have y1:=HS4.out.b2.cell (i:=1) (by omega);have y2:=HS4.out.b2.cell (i:=2) (by omega)
   have z:=HS4.out.b2.frozen
   simp only [row3] at l0 l1 l2 y0 y1 y2
   go_wp2_with fail
   refine HLW.out.mono ?_
   rintro e w5 ⟨ws,vw,pos,code,rfl,hws,hwn,hwx,hb5⟩
   obtain ⟨va,vc,rfl,-,-⟩:=hws.open
   have HS5:=xH (HS4.out.on hb5)
   have HWS:=xH (hws.carry (Q:=fun g=>w4.heap.size≤g∧g < w5.heap.size) (fun _ _=>rfl) (fun _ hg=>hg))
   have HWX:=xH hwx
   have hs4:=HS4.out.row.lt
   have hs4':=HS4.out.but.size
   have hs5:=hb5.size
   clear HLW HS4 hws hwx hb5 l0 l1 l2 y0 y1 y2 z
   go_wp2_with fail
   go_loopw [10] (fun ii wr=>∃ (k q:Nat) (d:Dk) (c:C3),k≤ws.length∧k≤9∧ii=.int .i64 k∧q≤p1+1+k∧w5.heap.size≤wr.heap.size∧Hid (DsS R w wr B v b q d c)∧Hid (∀ g,w4.heap.size≤g→g < w5.heap.size→wr.heap[g]? = w5.heap[g]?)) (fun ii _=>ws.length - (intOf ii).toNat)
   case atStart=>exact ⟨0,_,_,_,Nat.zero_le _,by omega,rfl,by omega,Nat.le_refl _,HS5,fun _ _ _=>rfl⟩
   case round =>
    clear HS5
    obtain ⟨k,q,d,⟨u0,u1,u2⟩,hk,hk9,rfl,hq,HSZ,HS,HKP⟩:=hrel
    obtain ⟨a0,r0,e0,-,-⟩:=HS.out.dk.fs.open
    obtain ⟨a1,r1,e1,-,-⟩:=id HS.out.dk.ns
    obtain ⟨a2,r2,e2,-,-⟩:=HS.out.dk.ms.open
    simp only at e0 e1 e2
    subst e0 e1 e2
    have hB:=HS.out.hB
    by_cases hlt:k < ws.length
    rotate_left
    · have hdl:decide ((k:Int) < (ws.length:Int))=false:=decide_eq_false (by omega)
      go_upto_region 15 with fail
      obtain ⟨l0,l1,l2⟩:=cs3 HS.out.row (by omega)
      have y0:=HS.out.b2.cell (i:=0) (by omega);have y1:=HS.out.b2.cell (i:=1) (by omega);have y2:=HS.out.b2.cell (i:=2) (by omega)
      have z:=HS.out.b2.frozen
      simp only [row3] at l0 l1 l2 y0 y1 y2
      have HF:=xH (HS.out.done (p:=p) (most:=800) (by omega))
      clear HS
      generalize d.files.length=M0 at *
      generalize d.names.length=M1 at *
      generalize d.moves.length=M2 at *
      go_wp2_with fail
      try simp only [Exit.inBlock,Exit.then]
      refine bodyPost_ret (v:=.agg #[.slice a0 M0 r0,.slice a1 M1 r1,.slice a2 M2 r2]) (by simp [results,Try.results49,go_sem,y0,y1,y2]) rfl ?_
      exact xU HF
    · have hdl:decide ((k:Int) < (ws.length:Int))=true:=decide_eq_true (by omega)
      have HP2:=xH (HPK.out wr q 9 HS.out.dr (by omega) (by omega))
      go_wp2_with fail
      refine HP2.out.mono ?_
      rintro e w7 ⟨j,rfl,hj,HDx,HBx⟩
      have HS7:=xH (HS.out.draw HBx.out HDx.out)
      have hRl:=HS.out.hR
      have HBS:=HBx.out.size
      have HKP7:Hid (∀ g,w4.heap.size≤g→g < w5.heap.size→w7.heap[g]? = w5.heap[g]?):=fun g h1 h2=>(HBx.out.at (Nat.lt_of_lt_of_le h2 HSZ) (by omega)).trans (HKP.out g h1 h2)
      clear HS HP2 HDx HBx HKP
      by_cases hkj:(k:Int) < (j:Int)
      rotate_left
      · have hdj:decide ((k:Int) < (j:Int))=false:=decide_eq_false hkj
        go_upto_region 15 with fail
        obtain ⟨l0,l1,l2⟩:=cs3 HS7.out.row (by omega)
        have y0:=HS7.out.b2.cell (i:=0) (by omega);have y1:=HS7.out.b2.cell (i:=1) (by omega);have y2:=HS7.out.b2.cell (i:=2) (by omega)
        have z:=HS7.out.b2.frozen
        simp only [row3] at l0 l1 l2 y0 y1 y2
        have HF:=xH (HS7.out.done (p:=p) (most:=800) (by omega))
        clear HS7
        generalize d.files.length=M0 at *
        generalize d.names.length=M1 at *
        generalize d.moves.length=M2 at *
        go_wp2_with fail
        try simp only [Exit.inBlock,Exit.then]
        refine bodyPost_ret (v:=.agg #[.slice a0 M0 r0,.slice a1 M1 r1,.slice a2 M2 r2]) (by simp [results,Try.results49,go_sem,y0,y1,y2]) rfl ?_
        exact xU HF
      · have hdj:decide ((k:Int) < (j:Int))=true:=decide_eq_true hkj
        obtain ⟨_,_,ev,-,hwc⟩:=HWS.out.open
        cases ev
        obtain ⟨wg,wp0,rfl,hpb,hcell,-⟩:=hwc k hlt
        have hcw:=hcell.carry (w':=w7) (HKP7.out wg hpb.1 hpb.2)
        have hsx:=(HWX.out ws[k] (List.getElem_mem hlt)).1
        have HCW:=xH hcw
        have HSZ7:w5.heap.size≤w7.heap.size:=Nat.le_trans HSZ HBS
        clear hwc hcell hcw
        generalize ws[k]=x at HCW hsx
        go_upto_region 14 with fail
        refine wp_swap (c':=Code.region 14 ld14Ops true) (by kernel_rfl) ?_
        refine wp_region_noPanic ?_
        refine ld14 R B wg wp0 ws.length vc k (q+1) w v b d ⟨.slice a0 d.files.length r0,.slice a1 d.names.length r1,.slice a2 d.moves.length r2⟩ x w7 _ (fun _ _ _ _ _ h=>h) (HS7.out.on (Below.refl _ _).drew) (HCW.out.carry rfl) hlt (fun W hdk=>specDiskDo_any d x.k x.x x.y (fun g=>g < W.heap.size) ⟨.slice a0 d.files.length r0,.slice a1 d.names.length r1,.slice a2 d.moves.length r2⟩ W (fun _ h=>h) hdk (Nat.le_trans hsx (by decide))) (by kernel_rfl) (fun u _=>by kernel_rfl) ?_
        intro u c' W hnx hkp
        refine NoPanic.normal ?_
        simp only [List.take_succ_cons,List.take_zero,List.drop_succ_cons,List.drop_zero,List.cons_append,List.nil_append]
        have HNX:=xH hnx
        have HKW:Hid (∀ g,w4.heap.size≤g→g < w5.heap.size→W.heap[g]? = w5.heap[g]?):=fun g h1 h2=>(hkp.2 g (Nat.lt_of_lt_of_le h2 HSZ7) (by omega)).trans (HKP7.out g h1 h2)
        have HSW:w5.heap.size≤W.heap.size:=Nat.le_trans HSZ7 hkp.1
        clear hnx hkp HS7 HKP7
        go_wp2_with fail
        go_roundw
        case rel=>exact ⟨k+1,q+1,_,c',by omega,by omega,by go_num,by omega,HSW,HNX,HKW⟩
        case measure=>simp [intOf];omega
 have f0:((r:Int)==0)=false:=beq_eq_false_iff_ne.2 hr0
 have f1:((r:Int)==1)=false:=beq_eq_false_iff_ne.2 hr1
 obtain ⟨l0,l1,l2⟩:=cs3 HS4.out.row (by omega)
 have y0:=HS4.out.b2.cell (i:=0) (by omega);have y1:=HS4.out.b2.cell (i:=1) (by omega);have y2:=HS4.out.b2.cell (i:=2) (by omega)
 have z:=HS4.out.b2.frozen
 simp only [row3] at l0 l1 l2 y0 y1 y2
 have HF:=xH (HS4.out.done (p:=p) (most:=800) (by omega))
 clear HS4
 generalize d.files.length=M0 at *
 generalize d.names.length=M1 at *
 generalize d.moves.length=M2 at *
 go_wp2_with fail
 try simp only [Exit.inBlock,Exit.then]
 refine bodyPost_ret (v:=.agg #[.slice a0 M0 r0,.slice a1 M1 r1,.slice a2 M2 r2]) (by simp [results,Try.results49,go_sem,y0,y1,y2]) rfl ?_
 exact xU HF
end Go.Proofs.Yteikmbkljkkjiaa
