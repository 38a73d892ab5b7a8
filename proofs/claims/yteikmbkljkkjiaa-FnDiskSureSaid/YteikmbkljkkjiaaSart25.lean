/- A part. -/
import Derived.Test.YteikmbkljkkjiaaSart24
namespace Go.Proofs.Yteikmbkljkkjiaa
open Go Go.RowKit
set_option maxRecDepth 100000
set_option maxHeartbeats 1600000
def pq (b o:Nat):Value:=.pointer (some ⟨b,o,none⟩)
theorem look_end {N:Nat} {s:List (Nat × Value)} {l:List Value} {W:World} {Q:Exit→Act→World→Prop} (h:lookL s l=(N,s.map (·.2))) (H:∀ u,Q .normal ⟨(frL u N s).toArray,[]⟩ W):Q .normal ⟨l.toArray,[]⟩ W:=by
 obtain ⟨u,rfl⟩:=look_fr h
 exact H u
theorem ofL8 (R:Nat) (w:World) (v:Value) (b:List UInt8) (p:Nat) (h:DR R w v b p) (hp:p≤10000000) (g n:Nat) (ss:Nat→ByteArray) (hn:1≤n∧n≤1000) (hrow:w.rowIs g 9 n (fun i=>.string (ss i))) (hg:R < g) (M:Nat) (hs:∀ i,i < n→(ss i).size≤M) :
 Calls Try.prog 51 #[.pointer (some ⟨R,0,none⟩),.slice (some ⟨g,0,none⟩) n n] w fun e w'=>∃ y,e=.returned (.string y)∧y.size≤M∧Hid (DR R w' v b (p+1))∧Hid (But R w w'):=by
 refine (of_any R w v b p h (by omega) g n ss hn hrow hg).mono ?_
 rintro e w' ⟨r,rfl,hr,HD,HB⟩
 exact ⟨_,rfl,hs r hr,HD,HB⟩
theorem row16 (W:World):(W.alloc (.cells #[.string ⟨#[115,49]⟩,.string ⟨#[]⟩,.string ⟨#[65]⟩,.string ⟨#[109,49]⟩] 9)).rowIs W.heap.size 9 4 (fun jj=>.string (([⟨#[115,49]⟩,⟨#[]⟩,⟨#[65]⟩,⟨#[109,49]⟩]:List ByteArray).getD jj ByteArray.empty)) :=
 World.rowIs_alloc W #[.string ⟨#[115,49]⟩,.string ⟨#[]⟩,.string ⟨#[65]⟩,.string ⟨#[109,49]⟩] 9 _ (fun i hi=>by
  have hi':i < 4:=by simpa using hi
  rcases (show i=0∨i=1∨i=2∨i=3 by omega) with rfl | rfl | rfl | rfl <;> rfl)
theorem row18 (W:World):(W.alloc (.cells #[.string ⟨#[115,49]⟩,.string ⟨#[122,122]⟩] 9)).rowIs W.heap.size 9 2 (fun jj=>.string (([⟨#[115,49]⟩,⟨#[122,122]⟩]:List ByteArray).getD jj ByteArray.empty)) :=
 World.rowIs_alloc W #[.string ⟨#[115,49]⟩,.string ⟨#[122,122]⟩] 9 _ (fun i hi=>by
  have hi':i < 2:=by simpa using hi
  rcases (show i=0∨i=1 by omega) with rfl | rfl <;> rfl)
theorem row20 (W:World) (x:ByteArray):(W.alloc (.cells #[.string ⟨#[122,122]⟩,.string ⟨#[115,49]⟩,.string x] 9)).rowIs W.heap.size 9 3 (fun jj=>.string (([⟨#[122,122]⟩,⟨#[115,49]⟩,x]:List ByteArray).getD jj ByteArray.empty)) :=
 World.rowIs_alloc W #[.string ⟨#[122,122]⟩,.string ⟨#[115,49]⟩,.string x] 9 _ (fun i hi=>by
  have hi':i < 3:=by simpa using hi
  rcases (show i=0∨i=1∨i=2 by omega) with rfl | rfl | rfl <;> rfl)
theorem row26 (W:World):(W.alloc (.cells #[.string ⟨#[120]⟩,.string ⟨#[0,1,0,0,9,97]⟩,.string ⟨#[111,112,101,110,32,49,32,49,10,101,110,100,10]⟩] 9)).rowIs W.heap.size 9 3 (fun jj=>.string (([⟨#[120]⟩,⟨#[0,1,0,0,9,97]⟩,⟨#[111,112,101,110,32,49,32,49,10,101,110,100,10]⟩]:List ByteArray).getD jj ByteArray.empty)) :=
 World.rowIs_alloc W #[.string ⟨#[120]⟩,.string ⟨#[0,1,0,0,9,97]⟩,.string ⟨#[111,112,101,110,32,49,32,49,10,101,110,100,10]⟩] 9 _ (fun i hi=>by
  have hi':i < 3:=by simpa using hi
  rcases (show i=0∨i=1∨i=2 by omega) with rfl | rfl | rfl <;> rfl)
theorem row35 (W:World):(W.alloc (.cells #[.string ⟨#[0]⟩,.string ⟨#[49]⟩,.string ⟨#[57]⟩,.string ⟨#[32]⟩] 9)).rowIs W.heap.size 9 4 (fun jj=>.string (([⟨#[0]⟩,⟨#[49]⟩,⟨#[57]⟩,⟨#[32]⟩]:List ByteArray).getD jj ByteArray.empty)) :=
 World.rowIs_alloc W #[.string ⟨#[0]⟩,.string ⟨#[49]⟩,.string ⟨#[57]⟩,.string ⟨#[32]⟩] 9 _ (fun i hi=>by
  have hi':i < 4:=by simpa using hi
  rcases (show i=0∨i=1∨i=2∨i=3 by omega) with rfl | rfl | rfl | rfl <;> rfl)
noncomputable def sx16Ops:Array Oper:=fops Try.f50 16
theorem sx16_neat:Region.noSelect sx16Ops.pop=true∧neat sx16Ops.pop=true:=⟨by kernel_rfl,by kernel_rfl⟩
theorem sx16_last:lastB sx16Ops=true:=by kernel_rfl
theorem sx16 (R gF cF i q:Nat) (w:World) (v:Value) (b:List UInt8) (x1 x2:Value) (fs:List Df) (ns:List ByteArray) (ms:List Dm) (W0:World) {l:List Value} (Q:Exit→Act→World→Prop) (hQ:∀ c a d v w,Q (.panic c) (Act.put a d v) w→Q (.panic c) a w) (hS:SpS R w W0.drew w.heap.size (w.heap.size+2) v b q (.slice (some ⟨gF,0,none⟩) fs.length cF) x1 x2 fs ns ms) (hi:i < fs.length) (hsm:∀ f,f∈fs→f.name.size≤1000∧f.data.size≤100000∧I64 f.kept) (hp:q≤100000)
 (hl:lookL [(0,.pointer (some ⟨R,0,none⟩)),(3,.pointer (some ⟨w.heap.size,0,none⟩)),(4,.pointer (some ⟨w.heap.size+1,0,none⟩)),(5,.int .i64 (i:Nat))] l=(244,([(0,.pointer (some ⟨R,0,none⟩)),(3,.pointer (some ⟨w.heap.size,0,none⟩)),(4,.pointer (some ⟨w.heap.size+1,0,none⟩)),(5,.int .i64 (i:Nat))]:List (Nat × Value)).map (·.2)))
 (hend:∀ (u:Nat→Value) (W:World) (f:Df) (q':Nat),SpS R w W w.heap.size (w.heap.size+2) v b q' (.slice (some ⟨gF,0,none⟩) fs.length cF) x1 x2 (fs.set i f) ns ms→q'≤q+3→Q .normal ⟨(frL u 244 [(0,.pointer (some ⟨R,0,none⟩)),(3,.pointer (some ⟨w.heap.size,0,none⟩)),(4,.pointer (some ⟨w.heap.size+1,0,none⟩))]).toArray,[]⟩ W):(Code.region 16 sx16Ops true).wp Try.prog Q ⟨l.toArray,[]⟩ W0:=by
 obtain ⟨v0,rfl⟩:=look_fr hl
 have hq:NtQ sx16Ops.pop (QL Try.prog sx16Ops Q):=nq_last sx16_neat hQ
 refine T_start_last (S:=fun W=>But R W0.drew W) (by kernel_rfl) sx16_last (But.refl _ _) ?_
 clear hl hQ
 generalize W0.drew=V at hS hend ⊢
 have hR:=hS.hR
 have hgF:w.heap.size+2≤gF∧gF < V.heap.size:=own_ge hS.mx.o0 rfl
 have hlt:=hS.mx.row.lt
 have hrow:=hS.mx.row
 obtain ⟨e0,e1,e2⟩:=cs3 hrow (by omega)
 simp only [row3] at e0 e1 e2
 obtain ⟨f1,f2,f3⟩:=ownFile hS.mx.o0 i hi
 have hfi:=hsm fs[i] (List.getElem_mem hi)
 have c0:∀ W,But R V W→W.cell? ⟨w.heap.size,0,none⟩=some (.slice (some ⟨gF,0,none⟩) fs.length cF):=fun W h=>(butcell h hlt (by omega)).trans e0
 have cN:∀ W,But R V W→W.cell? ⟨gF,i * 3,none⟩=some (.string fs[i].name):=fun W h=>(butcell h hgF.2 (by omega)).trans f1
 have cD:∀ W,But R V W→W.cell? ⟨gF,i * 3+1,none⟩=some (.string fs[i].data):=fun W h=>(butcell h hgF.2 (by omega)).trans f2
 refine T_a hq [0,1,2,3] (fun w h=>.cons (ldFs _ _ _ (c0 w h)) (Lds.nil)) (by kernel_rfl) ?_
 refine T_fr 8 244 [4,5,6,7] [(0,pq R 0),(3,pq w.heap.size 0),(4,pq (w.heap.size+1) 0),(5,.int .i64 (i:Nat)),(81,pq w.heap.size 0),(82,.slice (some ⟨gF,0,none⟩) fs.length cF),(83,.int .i64 (i:Nat)),(84,pq R 0)] (by kernel_rfl) fun u=>?_
 refine T_one 4 (by kernel_rfl) fun _=>O_val (w':=(V.alloc (.cells #[.string ⟨#[115,49]⟩,.string ⟨#[]⟩,.string ⟨#[65]⟩,.string ⟨#[109,49]⟩] 9))) (some 85) (.slice (some ⟨V.heap.size,0,none⟩) 4 4) (by kernel_rfl) (by kernel_rfl) (But.alloc R V _) ?_
 refine T_fr 8 244 [5,6,7] [(0,pq R 0),(3,pq w.heap.size 0),(4,pq (w.heap.size+1) 0),(5,.int .i64 (i:Nat)),(81,pq w.heap.size 0),(82,.slice (some ⟨gF,0,none⟩) fs.length cF),(83,.int .i64 (i:Nat)),(84,pq R 0),(85,.slice (some ⟨V.heap.size,0,none⟩) 4 4)] (by kernel_rfl) fun u=>?_
 have hVs:=hS.but.size
 refine T_one 5 (by kernel_rfl) fun _=>O_go (ofL8 R (V.alloc (.cells #[.string ⟨#[115,49]⟩,.string ⟨#[]⟩,.string ⟨#[65]⟩,.string ⟨#[109,49]⟩] 9)) v b _ (hS.dr.on ((Below.refl _ _).alloc (Nat.le_refl _) _)) (by omega) _ 4 (fun jj=>([⟨#[115,49]⟩,⟨#[]⟩,⟨#[65]⟩,⟨#[109,49]⟩]:List ByteArray).getD jj ByteArray.empty) (by omega) (row16 V) (by omega) 1000 (fun jj hi2=>by
  rcases (show jj=0∨jj=1∨jj=2∨jj=3 by omega) with rfl | rfl | rfl | rfl
  · show 2≤1000;omega
  · show 0≤1000;omega
  · show 1≤1000;omega
  · show 2≤1000;omega)) (by kernel_rfl) ?_
 rintro e w1 ⟨y,rfl,hy,HD,HB⟩
 refine ⟨_,rfl,(But.alloc R V _).trans HB.out,?_⟩
 refine T_yld hq 6 (some 87) (pq gF (i * 3)) (by kernel_rfl) (by kernel_rfl) (fun w h=>ixRun0 (cap:=cF) (X:=.tmp 82) (I:=.tmp 83) (by kernel_rfl) (by kernel_rfl) (by kernel_rfl) hi w) ?_
 refine T_z hq [7] (by kernel_rfl) ?_
 obtain ⟨⟨u9,hu9⟩,hz9⟩:=(hS.draw ((But.alloc R V _).trans HB.out) HD.out).cellF rfl i 0 hi (by omega)
 have hfin:=(hS.draw ((But.alloc R V _).trans HB.out) HD.out).setF rfl i 0 (.string y) ⟨y,fs[i].data,fs[i].kept⟩ hi (by omega) rfl ⟨by show y.size≤_;omega,by show fs[i].data.size≤_;omega,hfi.2.2⟩
 rw [Nat.add_zero] at hu9 hz9 hfin
 exact T_end 244 [(0,pq R 0),(3,pq w.heap.size 0),(4,pq (w.heap.size+1) 0),(86,.string y),(88,pq gF (i * 3))] (by kernel_rfl) (by kernel_rfl) fun _ u=>last_store 9 (.tmp 88) (.tmp 86) ⟨gF,i * 3,none⟩ (.string y) _ (by kernel_rfl) (by kernel_rfl) (by kernel_rfl) (stStr w1 _ _ u9 hu9 hz9) (look_end (N:=244) (s:=[(0,pq R 0),(3,pq w.heap.size 0),(4,pq (w.heap.size+1) 0)]) (by kernel_rfl) fun u=>hend u _ _ _ hfin (by omega))
def KO (R:Nat) (row:Option Nat) (V W:World):Prop:=V.heap.size≤W.heap.size∧∀ g,g < V.heap.size→g≠R→some g≠row→W.heap[g]? = V.heap[g]?
theorem KO.of_but {R:Nat} {row:Option Nat} {V W:World} (h:But R V W):KO R row V W:=⟨h.size,fun _ hg hne _=>h.at hg hne⟩
theorem KO.cell {R:Nat} {row:Option Nat} {V W:World} (h:KO R row V W) {g o:Nat} (hg:g < V.heap.size) (h1:g≠R) (h2:some g≠row):W.cell? ⟨g,o,none⟩=V.cell? ⟨g,o,none⟩:=World.cell?_of_block (h.2 g hg h1 h2)
theorem KO.grown {R:Nat} {row:Option Nat} {V W W':World} (h:KO R row V W) (hg:W.grownBy W' row):KO R row V W':=⟨Nat.le_trans h.1 hg.size,fun g h1 h2 h3=>(hg.block g (Nat.lt_of_lt_of_le h1 h.1) h3).trans (h.2 g h1 h2 h3)⟩
theorem SpS.box {R L base:Nat} {w W W':World} {v:Value} {b:List UInt8} {q:Nat} {x0 x1 x2:Value} {fs:List Df} {ns:List ByteArray} {ms:List Dm} (h:SpS R w W L base v b q x0 x1 x2 fs ns ms) {row:Option Nat} (hg:W.grownBy W' row) (hr:∀ g,row=some g→base≤g):W'.rowIs L 27 3 (row3 x0 x1 x2):=h.mx.row.of_block (hg.block _ h.mx.row.lt (fun e=>by have:=hr _ e.symm;have:=h.hL;omega))
noncomputable def sx18Ops:Array Oper:=fops Try.f50 18
theorem sx18_neat:Region.noSelect sx18Ops.pop=true∧neat sx18Ops.pop=true:=⟨by kernel_rfl,by kernel_rfl⟩
theorem sx18_last:lastB sx18Ops=true:=by kernel_rfl
theorem sx18 (R gF cF i q:Nat) (w:World) (v:Value) (b:List UInt8) (a1:Option Addr) (c1:Nat) (x2:Value) (fs:List Df) (ns:List ByteArray) (ms:List Dm) (W0:World) {l:List Value} (Q:Exit→Act→World→Prop) (hQ:∀ c a d v w,Q (.panic c) (Act.put a d v) w→Q (.panic c) a w) (hS:SpS R w W0.drew w.heap.size (w.heap.size+2) v b q (.slice (some ⟨gF,0,none⟩) fs.length cF) (.slice a1 ns.length c1) x2 fs ns ms) (hi:i < fs.length) (hsm:∀ f,f∈fs→f.name.size≤1000∧f.data.size≤100000∧I64 f.kept) (hp:q≤100000) (hnl:ns.length≤100000)
 (hl:lookL [(0,.pointer (some ⟨R,0,none⟩)),(3,.pointer (some ⟨w.heap.size,0,none⟩)),(4,.pointer (some ⟨w.heap.size+1,0,none⟩)),(5,.int .i64 (i:Nat))] l=(244,([(0,.pointer (some ⟨R,0,none⟩)),(3,.pointer (some ⟨w.heap.size,0,none⟩)),(4,.pointer (some ⟨w.heap.size+1,0,none⟩)),(5,.int .i64 (i:Nat))]:List (Nat × Value)).map (·.2)))
 (hend:∀ (u:Nat→Value) (W:World) (y1:Value) (ns':List ByteArray) (q':Nat),SpS R w W w.heap.size (w.heap.size+2) v b q' (.slice (some ⟨gF,0,none⟩) fs.length cF) y1 x2 fs ns' ms→q'≤q+3→Q .normal ⟨(frL u 244 [(0,.pointer (some ⟨R,0,none⟩)),(3,.pointer (some ⟨w.heap.size,0,none⟩)),(4,.pointer (some ⟨w.heap.size+1,0,none⟩))]).toArray,[]⟩ W):(Code.region 18 sx18Ops true).wp Try.prog Q ⟨l.toArray,[]⟩ W0:=by
 obtain ⟨v0,rfl⟩:=look_fr hl
 have hq:NtQ sx18Ops.pop (QL Try.prog sx18Ops Q):=nq_last sx18_neat hQ
 refine T_start_last (S:=fun W=>KO R ((.slice a1 ns.length c1):Value).ownBlock W0.drew W) (by kernel_rfl) sx18_last (KO.of_but (But.refl _ _)) ?_
 clear hl hQ
 generalize W0.drew=V at hS hend ⊢
 have hR:=hS.hR
 have hgF:w.heap.size+2≤gF∧gF < V.heap.size:=own_ge hS.mx.o0 rfl
 have hlt:=hS.mx.row.lt
 have hrow:=hS.mx.row
 obtain ⟨e0,e1,e2⟩:=cs3 hrow (by omega)
 simp only [row3] at e0 e1 e2
 obtain ⟨f1,f2,f3⟩:=ownFile hS.mx.o0 i hi
 have hfi:=hsm fs[i] (List.getElem_mem hi)
 have hL0:∀ W,KO R ((.slice a1 ns.length c1):Value).ownBlock V W→W.heap[w.heap.size]? = V.heap[w.heap.size]? := fun W h=>h.2 _ hlt (by omega) (fun e=>own_apart hS.mx.o1 hrow (by decide) e.symm)
 have c0:∀ W,KO R ((.slice a1 ns.length c1):Value).ownBlock V W→W.cell? ⟨w.heap.size,0,none⟩=some (.slice (some ⟨gF,0,none⟩) fs.length cF):=fun W h=>(World.cell?_of_block (hL0 W h)).trans e0
 have c1w:∀ W,KO R ((.slice a1 ns.length c1):Value).ownBlock V W→W.cell? ⟨w.heap.size,1,none⟩=some (.slice a1 ns.length c1):=fun W h=>(World.cell?_of_block (hL0 W h)).trans e1
 refine T_a hq [0,1,2] (fun w h=>.cons (ldSs _ _ _ (c1w w h)) (Lds.nil)) (by kernel_rfl) ?_
 refine T_fr 8 244 [3,4,5,6,7] [(0,pq R 0),(3,pq w.heap.size 0),(4,pq (w.heap.size+1) 0),(5,.int .i64 (i:Nat)),(91,pq w.heap.size 1),(92,.slice a1 ns.length c1),(93,pq R 0)] (by kernel_rfl) fun u=>?_
 refine T_one 3 (by kernel_rfl) fun _=>O_val (w':=(V.alloc (.cells #[.string ⟨#[115,49]⟩,.string ⟨#[122,122]⟩] 9))) (some 94) (.slice (some ⟨V.heap.size,0,none⟩) 2 2) (by kernel_rfl) (by kernel_rfl) (KO.of_but (But.alloc R V _)) ?_
 refine T_fr 8 244 [4,5,6,7] [(0,pq R 0),(3,pq w.heap.size 0),(4,pq (w.heap.size+1) 0),(5,.int .i64 (i:Nat)),(91,pq w.heap.size 1),(92,.slice a1 ns.length c1),(93,pq R 0),(94,.slice (some ⟨V.heap.size,0,none⟩) 2 2)] (by kernel_rfl) fun u=>?_
 have hVs:=hS.but.size
 refine T_one 4 (by kernel_rfl) fun _=>O_go (ofL8 R (V.alloc (.cells #[.string ⟨#[115,49]⟩,.string ⟨#[122,122]⟩] 9)) v b _ (hS.dr.on ((Below.refl _ _).alloc (Nat.le_refl _) _)) (by omega) _ 2 (fun jj=>([⟨#[115,49]⟩,⟨#[122,122]⟩]:List ByteArray).getD jj ByteArray.empty) (by omega) (row18 V) (by omega) 1000 (fun jj hi2=>by
  rcases (show jj=0∨jj=1 by omega) with rfl | rfl
  · show 2≤1000;omega
  · show 2≤1000;omega)) (by kernel_rfl) ?_
 rintro e w1 ⟨y,rfl,hy,HD,HB⟩
 refine ⟨_,rfl,KO.of_but ((But.alloc R V _).trans HB.out),?_⟩
 refine T_fr 8 244 [5,6,7] [(0,pq R 0),(3,pq w.heap.size 0),(4,pq (w.heap.size+1) 0),(5,.int .i64 (i:Nat)),(91,pq w.heap.size 1),(92,.slice a1 ns.length c1),(93,pq R 0),(94,.slice (some ⟨V.heap.size,0,none⟩) 2 2),(95,.string y)] (by kernel_rfl) fun u=>?_
 have HB2:=(But.alloc R V _).trans HB.out
 refine T_one 5 (by kernel_rfl) fun _=>O_val (w':=(w1.alloc (.cells #[.string y] 9))) (some 96) (.slice (some ⟨w1.heap.size,0,none⟩) 1 1) (by kernel_rfl) (by kernel_rfl) (KO.of_but (HB2.trans (But.alloc R w1 _))) ?_
 refine T_fr 8 244 [6,7] [(0,pq R 0),(3,pq w.heap.size 0),(4,pq (w.heap.size+1) 0),(5,.int .i64 (i:Nat)),(91,pq w.heap.size 1),(92,.slice a1 ns.length c1),(93,pq R 0),(94,.slice (some ⟨V.heap.size,0,none⟩) 2 2),(95,.string y),(96,.slice (some ⟨w1.heap.size,0,none⟩) 1 1)] (by kernel_rfl) fun u=>?_
 have hS3:=(hS.draw HB2 HD.out).on ((Below.refl w1.heap.size w1).alloc (Nat.le_refl _) (.cells #[.string y] 9))
 have hb3:=hS3.hL;have hs3:=hS3.mx.row.lt;have hs4:=hS3.b4.lt
 obtain ⟨ii,j2,j3,j4,j5⟩:=infoStrD
 refine T_one 6 (by kernel_rfl) fun _=>O_list (some 97) (by kernel_rfl) ?_
 refine append_list9 (w1.alloc (.cells #[.string y] 9)) (by kernel_rfl) (.tmp 92) (.tmp 96) 24 (by kernel_rfl) (w.heap.size+2) 9 ii (.string ByteArray.empty) 1 16 Try.underlying24 j2 j3 j4 j5 rfl (by decide) a1 ns.length c1 (ns.map Value.string) (by kernel_rfl) (xH hS3.mx.o1) (some ⟨w1.heap.size,0,none⟩) 1 1 [.string y] (by kernel_rfl) rfl (fun _=>⟨_,rfl,cell_one w1 _ _⟩) (fun u hu=>by rw [List.mem_singleton.1 hu];rfl) (by unfold maxLen;omega) (by omega) (by omega) (ns.length+1) rfl ?_
 intro ga gc W7 ho7 hg7 _
 refine ⟨(KO.of_but (HB2.trans (But.alloc R w1 _))).grown hg7.out,_,put_putL ..,?_⟩
 refine T_z hq [7] (by kernel_rfl) ?_
 have hL7:=hS3.box hg7.out (fun g e=>(own_ge hS3.mx.o1 e).1)
 have hfin:=hS3.newN (.slice ga (ns.length+1) gc) (ns++[y]) (by rw [List.length_append,List.map_append];exact ho7.out) hg7.out (fun x hx=>by
  rcases List.mem_append.1 hx with h' | h'
  · exact hS.no x h'
  · rw [List.mem_singleton.1 h'];omega)
 exact T_end 244 [(0,pq R 0),(3,pq w.heap.size 0),(4,pq (w.heap.size+1) 0),(97,.slice ga (ns.length+1) gc),(98,pq w.heap.size 1)] (by kernel_rfl) (by kernel_rfl) fun _ u=>last_store 24 (.tmp 98) (.tmp 97) ⟨w.heap.size,1,none⟩ (.slice ga (ns.length+1) gc) _ (by kernel_rfl) (by kernel_rfl) (by kernel_rfl) (stSs W7 _ _ _ _ _ (hL7.cell (i:=1) (by omega)) (hL7.frozen 1)) (look_end (N:=244) (s:=[(0,pq R 0),(3,pq w.heap.size 0),(4,pq (w.heap.size+1) 0)]) (by kernel_rfl) fun u=>hend u _ _ _ _ hfin (by omega))
noncomputable def sx20Ops:Array Oper:=fops Try.f50 20
theorem sx20_neat:Region.noSelect sx20Ops.pop=true∧neat sx20Ops.pop=true:=⟨by kernel_rfl,by kernel_rfl⟩
theorem sx20_last:lastB sx20Ops=true:=by kernel_rfl
theorem sx20 (R gF cF i q:Nat) (w:World) (v:Value) (b:List UInt8) (a2:Option Addr) (c2:Nat) (x1:Value) (fs:List Df) (ns:List ByteArray) (ms:List Dm) (W0:World) {l:List Value} (Q:Exit→Act→World→Prop) (hQ:∀ c a d v w,Q (.panic c) (Act.put a d v) w→Q (.panic c) a w) (hS:SpS R w W0.drew w.heap.size (w.heap.size+2) v b q (.slice (some ⟨gF,0,none⟩) fs.length cF) x1 (.slice a2 ms.length c2) fs ns ms) (hi:i < fs.length) (hsm:∀ f,f∈fs→f.name.size≤1000∧f.data.size≤100000∧I64 f.kept) (hp:q≤100000) (hml:ms.length≤100000) (HPK:∀ (W:World) (q' n':Nat),DR R W v b q'→1≤n'∧n'≤1000000→q'≤100000000→Calls Try.prog 24 #[.pointer (some ⟨R,0,none⟩),.int .i64 (n':Int)] W fun e w'=>PickEnd R W w' v b q' n' e)
 (hl:lookL [(0,.pointer (some ⟨R,0,none⟩)),(3,.pointer (some ⟨w.heap.size,0,none⟩)),(4,.pointer (some ⟨w.heap.size+1,0,none⟩)),(5,.int .i64 (i:Nat))] l=(244,([(0,.pointer (some ⟨R,0,none⟩)),(3,.pointer (some ⟨w.heap.size,0,none⟩)),(4,.pointer (some ⟨w.heap.size+1,0,none⟩)),(5,.int .i64 (i:Nat))]:List (Nat × Value)).map (·.2)))
 (hend:∀ (u:Nat→Value) (W:World) (y2:Value) (ms':List Dm) (q':Nat),SpS R w W w.heap.size (w.heap.size+2) v b q' (.slice (some ⟨gF,0,none⟩) fs.length cF) x1 y2 fs ns ms'→q'≤q+3→Q .normal ⟨(frL u 244 [(0,.pointer (some ⟨R,0,none⟩)),(3,.pointer (some ⟨w.heap.size,0,none⟩)),(4,.pointer (some ⟨w.heap.size+1,0,none⟩))]).toArray,[]⟩ W):(Code.region 20 sx20Ops true).wp Try.prog Q ⟨l.toArray,[]⟩ W0:=by
 obtain ⟨v0,rfl⟩:=look_fr hl
 have hq:NtQ sx20Ops.pop (QL Try.prog sx20Ops Q):=nq_last sx20_neat hQ
 refine T_start_last (S:=fun W=>KO R ((.slice a2 ms.length c2):Value).ownBlock W0.drew W) (by kernel_rfl) sx20_last (KO.of_but (But.refl _ _)) ?_
 clear hl hQ
 generalize W0.drew=V at hS hend ⊢
 have hR:=hS.hR
 have hgF:w.heap.size+2≤gF∧gF < V.heap.size:=own_ge hS.mx.o0 rfl
 have hlt:=hS.mx.row.lt
 have hrow:=hS.mx.row
 obtain ⟨e0,e1,e2⟩:=cs3 hrow (by omega)
 simp only [row3] at e0 e1 e2
 obtain ⟨f1,f2,f3⟩:=ownFile hS.mx.o0 i hi
 have hfi:=hsm fs[i] (List.getElem_mem hi)
 have hL0:∀ W,KO R ((.slice a2 ms.length c2):Value).ownBlock V W→W.heap[w.heap.size]? = V.heap[w.heap.size]? := fun W h=>h.2 _ hlt (by omega) (fun e=>own_apart hS.mx.o2 hrow (by decide) e.symm)
 have c0:∀ W,KO R ((.slice a2 ms.length c2):Value).ownBlock V W→W.cell? ⟨w.heap.size,0,none⟩=some (.slice (some ⟨gF,0,none⟩) fs.length cF):=fun W h=>(World.cell?_of_block (hL0 W h)).trans e0
 have c2w:∀ W,KO R ((.slice a2 ms.length c2):Value).ownBlock V W→W.cell? ⟨w.heap.size,2,none⟩=some (.slice a2 ms.length c2):=fun W h=>(World.cell?_of_block (hL0 W h)).trans e2
 have cN:∀ W,KO R ((.slice a2 ms.length c2):Value).ownBlock V W→W.cell? ⟨gF,i * 3,none⟩=some (.string fs[i].name):=fun W h=>(h.cell hgF.2 (by omega) (fun e=>own_ne hS.mx.o2 hS.mx.o0 (by decide) gF e.symm rfl)).trans f1
 have R20:=fun (W:World)=>row20 W fs[i].name
 refine T_a hq [0,1,2,5,6,7,8] (fun w h=>.cons (ldMs _ _ _ (c2w w h)) (.cons (ldFs _ _ _ (c0 w h)) (Lds.nil))) (by kernel_rfl) ?_
 refine T_yld hq 9 (some 110) (pq gF (i * 3)) (by kernel_rfl) (by kernel_rfl) (fun w h=>ixRun0 (cap:=cF) (X:=.tmp 108) (I:=.tmp 109) (by kernel_rfl) (by kernel_rfl) (by kernel_rfl) hi w) ?_
 refine T_a hq [10,11] (fun w h=>.cons (ldStr _ _ _ (cN w h)) (Lds.nil)) (by kernel_rfl) ?_
 refine T_fr 18 244 [3,4,12,13,14,15,16,17] [(0,pq R 0),(3,pq w.heap.size 0),(4,pq (w.heap.size+1) 0),(5,.int .i64 (i:Nat)),(101,pq w.heap.size 2),(102,.slice a2 ms.length c2),(103,pq R 0),(106,pq R 0),(107,pq w.heap.size 0),(108,.slice (some ⟨gF,0,none⟩) fs.length cF),(109,.int .i64 (i:Nat)),(110,pq gF (i * 3)),(111,pq gF (i * 3)),(112,.string fs[i].name)] (by kernel_rfl) fun u=>?_
 have NF:∀ (u:Nat→Value) (W:World) (kk:Nat) (hkk:kk < 2) (g:Nat) (hg:W.rowIs g 9 3 (fun jj=>.string (([⟨#[122,122]⟩,⟨#[115,49]⟩,fs[i].name]:List ByteArray).getD jj ByteArray.empty))) (hgR:R < g) (hD:DR R W v b (q+1)) (hB:But R V W),wpS Try.prog sx20Ops.pop (QL Try.prog sx20Ops Q) (fun W=>KO R ((.slice a2 ms.length c2):Value).ownBlock V W) (unl 18 [13,14,15,16,17],frL u 244 [(0,pq R 0),(3,pq w.heap.size 0),(4,pq (w.heap.size+1) 0),(5,.int .i64 (i:Nat)),(101,pq w.heap.size 2),(102,.slice a2 ms.length c2),(103,pq R 0),(104,.int .i64 (kk:Nat)),(105,.bool ((kk:Int)==0)),(106,pq R 0),(107,pq w.heap.size 0),(108,.slice (some ⟨gF,0,none⟩) fs.length cF),(109,.int .i64 (i:Nat)),(110,pq gF (i * 3)),(111,pq gF (i * 3)),(112,.string fs[i].name),(113,.slice (some ⟨g,0,none⟩) 3 3)]) [] W:=by
  intro u W kk hkk g hg hgR hD hB
  have hBs:=hB.size
  have hVs:=hS.but.size
  refine T_one 13 (by kernel_rfl) fun _=>O_go (ofL8 R W v b _ hD (by omega) g 3 (fun jj=>([⟨#[122,122]⟩,⟨#[115,49]⟩,fs[i].name]:List ByteArray).getD jj ByteArray.empty) (by omega) hg hgR 1000 (fun jj hi2=>by
  rcases (show jj=0∨jj=1∨jj=2 by omega) with rfl | rfl | rfl
  · show 2≤1000;omega
  · show 2≤1000;omega
  · exact hfi.1)) (by kernel_rfl) ?_
  rintro e w1 ⟨y,rfl,hy,HD,HB⟩
  have HB2:=hB.trans HB.out
  refine ⟨_,rfl,KO.of_but HB2,?_⟩
  refine T_z hq [14] (by kernel_rfl) ?_
  refine T_fr 18 244 [15,16,17] [(0,pq R 0),(3,pq w.heap.size 0),(4,pq (w.heap.size+1) 0),(5,.int .i64 (i:Nat)),(101,pq w.heap.size 2),(102,.slice a2 ms.length c2),(103,pq R 0),(104,.int .i64 (kk:Nat)),(105,.bool ((kk:Int)==0)),(106,pq R 0),(107,pq w.heap.size 0),(108,.slice (some ⟨gF,0,none⟩) fs.length cF),(109,.int .i64 (i:Nat)),(110,pq gF (i * 3)),(111,pq gF (i * 3)),(112,.string fs[i].name),(113,.slice (some ⟨g,0,none⟩) 3 3),(114,.string y),(115,.agg #[.bool ((kk:Int)==0),.string y])] (by kernel_rfl) fun u=>?_
  refine T_one 15 (by kernel_rfl) fun _=>O_val (w':=(w1.alloc (.cells #[.bool ((kk:Int)==0),.string y] 60))) (some 116) (.slice (some ⟨w1.heap.size,0,none⟩) 1 1) (by kernel_rfl) (by kernel_rfl) (KO.of_but (HB2.trans (But.alloc R w1 _))) ?_
  refine T_fr 18 244 [16,17] [(0,pq R 0),(3,pq w.heap.size 0),(4,pq (w.heap.size+1) 0),(5,.int .i64 (i:Nat)),(101,pq w.heap.size 2),(102,.slice a2 ms.length c2),(103,pq R 0),(104,.int .i64 (kk:Nat)),(105,.bool ((kk:Int)==0)),(106,pq R 0),(107,pq w.heap.size 0),(108,.slice (some ⟨gF,0,none⟩) fs.length cF),(109,.int .i64 (i:Nat)),(110,pq gF (i * 3)),(111,pq gF (i * 3)),(112,.string fs[i].name),(113,.slice (some ⟨g,0,none⟩) 3 3),(114,.string y),(115,.agg #[.bool ((kk:Int)==0),.string y]),(116,.slice (some ⟨w1.heap.size,0,none⟩) 1 1)] (by kernel_rfl) fun u=>?_
  have hS3:=(hS.draw HB2 HD.out).on ((Below.refl w1.heap.size w1).alloc (Nat.le_refl _) (.cells #[.bool ((kk:Int)==0),.string y] 60))
  have hb3:=hS3.hL;have hs3:=hS3.mx.row.lt;have hs4:=hS3.b4.lt
  obtain ⟨ii,j2,j3,j4,j5⟩:=infoMoveD
  refine T_one 16 (by kernel_rfl) fun _=>O_list (some 117) (by kernel_rfl) ?_
  refine append_list9 (w1.alloc (.cells #[.bool ((kk:Int)==0),.string y] 60)) (by kernel_rfl) (.tmp 102) (.tmp 116) 25 (by kernel_rfl) (w.heap.size+2) 60 ii (.agg #[.bool false,.string ByteArray.empty]) 2 24 Try.underlying25 j2 j3 j4 j5 rfl (by decide) a2 ms.length c2 (ms.map Dm.cs).flatten (by kernel_rfl) (xH hS3.mx.o2) (some ⟨w1.heap.size,0,none⟩) 1 1 [.bool ((kk:Int)==0),.string y] (by kernel_rfl) rfl (fun _=>⟨_,rfl,cell_2 w1 _ _ _⟩) (fun u hu=>by
   simp only [List.mem_cons,List.not_mem_nil,or_false] at hu
   rcases hu with rfl | rfl <;> rfl) (by unfold maxLen;omega) (by omega) (by omega) (ms.length+1) rfl ?_
  intro ga gc W7 ho7 hg7 _
  refine ⟨(KO.of_but (HB2.trans (But.alloc R w1 _))).grown hg7.out,_,put_putL ..,?_⟩
  refine T_z hq [17] (by kernel_rfl) ?_
  have hL7:=hS3.box hg7.out (fun g e=>(own_ge hS3.mx.o2 e).1)
  have hfin:=hS3.newM (.slice ga (ms.length+1) gc) (ms++[⟨(kk:Int)==0,y⟩]) (by rw [List.length_append,List.map_append,List.flatten_append];exact ho7.out) hg7.out (fun x hx=>by
   rcases List.mem_append.1 hx with h' | h'
   · exact hS.mo x h'
   · rw [List.mem_singleton.1 h'];show y.size≤_;omega)
  exact T_end 244 [(0,pq R 0),(3,pq w.heap.size 0),(4,pq (w.heap.size+1) 0),(117,.slice ga (ms.length+1) gc),(118,pq w.heap.size 2)] (by kernel_rfl) (by kernel_rfl) fun _ u=>last_store 25 (.tmp 118) (.tmp 117) ⟨w.heap.size,2,none⟩ (.slice ga (ms.length+1) gc) _ (by kernel_rfl) (by kernel_rfl) (by kernel_rfl) (stMs W7 _ _ _ _ _ (hL7.cell (i:=2) (by omega)) (hL7.frozen 2)) (look_end (N:=244) (s:=[(0,pq R 0),(3,pq w.heap.size 0),(4,pq (w.heap.size+1) 0)]) (by kernel_rfl) fun u=>hend u _ _ _ _ hfin (by omega))
 have NP:∀ (u:Nat→Value) (W:World) (kk:Nat) (hkk:kk < 2) (hD:DR R W v b (q+1)) (hB:But R V W),wpS Try.prog sx20Ops.pop (QL Try.prog sx20Ops Q) (fun W=>KO R ((.slice a2 ms.length c2):Value).ownBlock V W) (unl 18 [12,13,14,15,16,17],frL u 244 [(0,pq R 0),(3,pq w.heap.size 0),(4,pq (w.heap.size+1) 0),(5,.int .i64 (i:Nat)),(101,pq w.heap.size 2),(102,.slice a2 ms.length c2),(103,pq R 0),(104,.int .i64 (kk:Nat)),(105,.bool ((kk:Int)==0)),(106,pq R 0),(107,pq w.heap.size 0),(108,.slice (some ⟨gF,0,none⟩) fs.length cF),(109,.int .i64 (i:Nat)),(110,pq gF (i * 3)),(111,pq gF (i * 3)),(112,.string fs[i].name)]) [] W:=by
  intro u W kk hkk hD hB
  have hBs:=hB.size
  refine T_one 12 (by kernel_rfl) fun _=>O_val (w':=W.alloc (.cells #[.string ⟨#[122,122]⟩,.string ⟨#[115,49]⟩,.string fs[i].name] 9)) (some 113) (.slice (some ⟨W.heap.size,0,none⟩) 3 3) (by kernel_rfl) (by kernel_rfl) ((KO.of_but (hB.trans (But.alloc R W _)))) ?_
  exact T_fr 18 244 [13,14,15,16,17] [(0,pq R 0),(3,pq w.heap.size 0),(4,pq (w.heap.size+1) 0),(5,.int .i64 (i:Nat)),(101,pq w.heap.size 2),(102,.slice a2 ms.length c2),(103,pq R 0),(104,.int .i64 (kk:Nat)),(105,.bool ((kk:Int)==0)),(106,pq R 0),(107,pq w.heap.size 0),(108,.slice (some ⟨gF,0,none⟩) fs.length cF),(109,.int .i64 (i:Nat)),(110,pq gF (i * 3)),(111,pq gF (i * 3)),(112,.string fs[i].name),(113,.slice (some ⟨W.heap.size,0,none⟩) 3 3)] (by kernel_rfl) fun u=>NF u _ kk hkk _ (R20 W) (by omega) (hD.on ((Below.refl _ _).alloc (Nat.le_refl _) _)) (hB.trans (But.alloc R W _))
 have NA:∀ (u:Nat→Value) (W:World) (g:Nat) (hg:W.rowIs g 9 3 (fun jj=>.string (([⟨#[122,122]⟩,⟨#[115,49]⟩,fs[i].name]:List ByteArray).getD jj ByteArray.empty))) (hgR:R < g) (hD:DR R W v b q) (hB:But R V W),wpS Try.prog sx20Ops.pop (QL Try.prog sx20Ops Q) (fun W=>KO R ((.slice a2 ms.length c2):Value).ownBlock V W) (unl 18 [3,4,13,14,15,16,17],frL u 244 [(0,pq R 0),(3,pq w.heap.size 0),(4,pq (w.heap.size+1) 0),(5,.int .i64 (i:Nat)),(101,pq w.heap.size 2),(102,.slice a2 ms.length c2),(103,pq R 0),(106,pq R 0),(107,pq w.heap.size 0),(108,.slice (some ⟨gF,0,none⟩) fs.length cF),(109,.int .i64 (i:Nat)),(110,pq gF (i * 3)),(111,pq gF (i * 3)),(112,.string fs[i].name),(113,.slice (some ⟨g,0,none⟩) 3 3)]) [] W:=by
  intro u W g hg hgR hD hB
  refine T_one 3 (by kernel_rfl) fun _=>O_go (HPK W _ 2 hD (by omega) (by omega)) (by kernel_rfl) ?_
  rintro e w1 ⟨kk,rfl,hkk,HD,HB⟩
  refine ⟨_,rfl,(KO.of_but (hB.trans HB.out)),?_⟩
  refine T_val (i:=4) hq (some 105) (.bool ((kk:Int)==0)) (.bool ((kk:Int)==0)) (rfl) (by kernel_rfl) (by kernel_rfl) ?_
  exact T_fr 18 244 [13,14,15,16,17] [(0,pq R 0),(3,pq w.heap.size 0),(4,pq (w.heap.size+1) 0),(5,.int .i64 (i:Nat)),(101,pq w.heap.size 2),(102,.slice a2 ms.length c2),(103,pq R 0),(104,.int .i64 (kk:Nat)),(105,.bool ((kk:Int)==0)),(106,pq R 0),(107,pq w.heap.size 0),(108,.slice (some ⟨gF,0,none⟩) fs.length cF),(109,.int .i64 (i:Nat)),(110,pq gF (i * 3)),(111,pq gF (i * 3)),(112,.string fs[i].name),(113,.slice (some ⟨g,0,none⟩) 3 3)] (by kernel_rfl) fun u=>NF u w1 kk hkk g (hg.of_block (HB.out.at hg.lt (by omega))) hgR HD.out (hB.trans HB.out)
 have hVs:=hS.but.size
 refine T_two 3 12 (by kernel_rfl) (fun _=>?_) fun _=>?_
 · refine O_go (HPK V _ 2 hS.dr (by omega) (by omega)) (by kernel_rfl) ?_
   rintro e w1 ⟨kk,rfl,hkk,HD,HB⟩
   refine ⟨_,rfl,(KO.of_but HB.out),?_⟩
   refine T_val (i:=4) hq (some 105) (.bool ((kk:Int)==0)) (.bool ((kk:Int)==0)) (rfl) (by kernel_rfl) (by kernel_rfl) ?_
   exact T_fr 18 244 [12,13,14,15,16,17] [(0,pq R 0),(3,pq w.heap.size 0),(4,pq (w.heap.size+1) 0),(5,.int .i64 (i:Nat)),(101,pq w.heap.size 2),(102,.slice a2 ms.length c2),(103,pq R 0),(104,.int .i64 (kk:Nat)),(105,.bool ((kk:Int)==0)),(106,pq R 0),(107,pq w.heap.size 0),(108,.slice (some ⟨gF,0,none⟩) fs.length cF),(109,.int .i64 (i:Nat)),(110,pq gF (i * 3)),(111,pq gF (i * 3)),(112,.string fs[i].name)] (by kernel_rfl) fun u=>NP u w1 kk hkk HD.out HB.out
 · exact O_val (w':=V.alloc (.cells #[.string ⟨#[122,122]⟩,.string ⟨#[115,49]⟩,.string fs[i].name] 9)) (some 113) (.slice (some ⟨V.heap.size,0,none⟩) 3 3) (by kernel_rfl) (by kernel_rfl) ((KO.of_but (But.alloc R V _))) (T_fr 18 244 [3,4,13,14,15,16,17] [(0,pq R 0),(3,pq w.heap.size 0),(4,pq (w.heap.size+1) 0),(5,.int .i64 (i:Nat)),(101,pq w.heap.size 2),(102,.slice a2 ms.length c2),(103,pq R 0),(106,pq R 0),(107,pq w.heap.size 0),(108,.slice (some ⟨gF,0,none⟩) fs.length cF),(109,.int .i64 (i:Nat)),(110,pq gF (i * 3)),(111,pq gF (i * 3)),(112,.string fs[i].name),(113,.slice (some ⟨V.heap.size,0,none⟩) 3 3)] (by kernel_rfl) fun u=>NA u _ _ (R20 V) (by omega) (hS.dr.on ((Below.refl _ _).alloc (Nat.le_refl _) _)) (But.alloc R V _))
theorem own_cap7 {w:World} {base:Nat} {e:TypeId} {size g n c:Nat} {xs:List Value} (h:w.ownsRow base e size (.slice (some ⟨g,0,none⟩) n c) n xs):n≤c:=by
 rcases h.2 with ⟨hv,_⟩ | ⟨g',c',cur,hv,hb,hh,hnc,_⟩
 · cases hv
 · simp only [Value.slice.injEq,Option.some.injEq,Addr.mk.injEq,and_true,true_and] at hv
   omega
theorem flat_len8 (fs:List Df):((fs.map Df.cs).flatten).length=fs.length * 3:=by
 induction fs with
 | nil=>rfl
 | cons f fs ih=>simp only [List.map_cons,List.flatten_cons,List.length_append,ih,List.length_cons,Df.cs,List.length_nil];omega
theorem len_fs8 (fs:List Df) (m:Nat) (h:fs.length=m):((fs.map Df.cs).flatten).length=m * 3:=by rw [flat_len8,h]
theorem one_fs8 {fs:List Df} {u:Value} (h:u∈(fs.map Df.cs).flatten):u.oneCell'=true:=by
 obtain ⟨l,hl,hu⟩:=List.mem_flatten.1 h
 obtain ⟨f,-,rfl⟩:=List.mem_map.1 hl
 simp only [Df.cs,List.mem_cons,List.not_mem_nil,or_false] at hu
 rcases hu with rfl | rfl | rfl <;> rfl
theorem flat_cut8 (fs:List Df) (i:Nat):(fs.map Df.cs).flatten=((fs.take i).map Df.cs).flatten++((fs.drop i).map Df.cs).flatten:=by
 rw [← List.flatten_append,← List.map_append,List.take_append_drop]
theorem own_take8 {w:World} {base g c:Nat} {fs:List Df} (h:w.ownsRow base 44 3 (.slice (some ⟨g,0,none⟩) fs.length c) fs.length (fs.map Df.cs).flatten) (i:Nat) (hi:i < fs.length):w.ownsRow base 44 3 (.slice (some ⟨g,0,none⟩) i c) i ((fs.take i).map Df.cs).flatten:=by
 rcases h.2 with ⟨hv,_⟩ | ⟨g',c',cur,hv,hb,hh,hnc,hm,hsz,ht⟩
 · cases hv
 · simp only [Value.slice.injEq,Option.some.injEq,Addr.mk.injEq,and_true,true_and] at hv
   obtain ⟨rfl,rfl⟩:=hv
   refine ⟨len_fs8 _ _ (by rw [List.length_take];omega),Or.inr ⟨g,c,cur,rfl,hb,hh,by omega,hm,hsz,?_⟩⟩
   have h1:(cur.toList.take (fs.length * 3)).take (i * 3)=cur.toList.take (i * 3):=by rw [List.take_take];congr 1;omega
   rw [← h1,ht,flat_cut8 fs i,List.take_append_of_le_length (by rw [flat_len8,List.length_take];omega),List.take_of_length_le (by rw [flat_len8,List.length_take];omega)]
theorem own_drop8 {w:World} {base g c:Nat} {fs:List Df} (h:w.ownsRow base 44 3 (.slice (some ⟨g,0,none⟩) fs.length c) fs.length (fs.map Df.cs).flatten) (i j:Nat) (u:Value) (hj:((fs.drop (i+1)).map Df.cs).flatten[j]? = some u):w.cell? ⟨g,(i+1) * 3+j,none⟩=some u:=by
 have hlt:j < (((fs.drop (i+1)).map Df.cs).flatten).length:=(List.getElem?_eq_some_iff.1 hj).1
 rw [flat_len8,List.length_drop] at hlt
 rw [h.cellAt ((i+1) * 3+j) (by omega)]
 have hl:(((fs.take (i+1)).map Df.cs).flatten).length=(i+1) * 3:=by rw [flat_len8,List.length_take];omega
 have h2:((fs.map Df.cs).flatten)[(i+1) * 3+j]? = some u:=by
  rw [flat_cut8 fs (i+1),List.getElem?_append_right (by omega),hl,Nat.add_sub_cancel_left]
  exact hj
 exact h2
noncomputable def sx22Ops:Array Oper:=fops Try.f50 22
theorem sx22_neat:Region.noSelect sx22Ops.pop=true∧neat sx22Ops.pop=true:=⟨by kernel_rfl,by kernel_rfl⟩
theorem sx22_last:lastB sx22Ops=true:=by kernel_rfl
theorem sx22 (R gF cF i q:Nat) (w:World) (v:Value) (b:List UInt8) (x1 x2:Value) (fs:List Df) (ns:List ByteArray) (ms:List Dm) (W0:World) {l:List Value} (Q:Exit→Act→World→Prop) (hQ:∀ c a d v w,Q (.panic c) (Act.put a d v) w→Q (.panic c) a w) (hS:SpS R w W0.drew w.heap.size (w.heap.size+2) v b q (.slice (some ⟨gF,0,none⟩) fs.length cF) x1 x2 fs ns ms) (hi:i < fs.length) (hsm:∀ f,f∈fs→f.name.size≤1000∧f.data.size≤100000∧I64 f.kept) (hfl:fs.length≤100000)
 (hl:lookL [(0,.pointer (some ⟨R,0,none⟩)),(3,.pointer (some ⟨w.heap.size,0,none⟩)),(4,.pointer (some ⟨w.heap.size+1,0,none⟩)),(5,.int .i64 (i:Nat))] l=(244,([(0,.pointer (some ⟨R,0,none⟩)),(3,.pointer (some ⟨w.heap.size,0,none⟩)),(4,.pointer (some ⟨w.heap.size+1,0,none⟩)),(5,.int .i64 (i:Nat))]:List (Nat × Value)).map (·.2)))
 (hend:∀ (u:Nat→Value) (W:World) (y0:Value) (fs':List Df) (q':Nat),SpS R w W w.heap.size (w.heap.size+2) v b q' y0 x1 x2 fs' ns ms→q'≤q+3→Q .normal ⟨(frL u 244 [(0,.pointer (some ⟨R,0,none⟩)),(3,.pointer (some ⟨w.heap.size,0,none⟩)),(4,.pointer (some ⟨w.heap.size+1,0,none⟩))]).toArray,[]⟩ W):(Code.region 22 sx22Ops true).wp Try.prog Q ⟨l.toArray,[]⟩ W0:=by
 obtain ⟨v0,rfl⟩:=look_fr hl
 have hq:NtQ sx22Ops.pop (QL Try.prog sx22Ops Q):=nq_last sx22_neat hQ
 refine T_start_last (S:=fun W=>KO R ((.slice (some ⟨gF,0,none⟩) fs.length cF):Value).ownBlock W0.drew W) (by kernel_rfl) sx22_last (KO.of_but (But.refl _ _)) ?_
 clear hl hQ
 generalize W0.drew=V at hS hend ⊢
 have hR:=hS.hR
 have hgF:w.heap.size+2≤gF∧gF < V.heap.size:=own_ge hS.mx.o0 rfl
 have hlt:=hS.mx.row.lt
 have hrow:=hS.mx.row
 obtain ⟨e0,e1,e2⟩:=cs3 hrow (by omega)
 simp only [row3] at e0 e1 e2
 obtain ⟨f1,f2,f3⟩:=ownFile hS.mx.o0 i hi
 have hfi:=hsm fs[i] (List.getElem_mem hi)
 have hL0:∀ W,KO R ((.slice (some ⟨gF,0,none⟩) fs.length cF):Value).ownBlock V W→W.heap[w.heap.size]? = V.heap[w.heap.size]? := fun W h=>h.2 _ hlt (by omega) (fun e=>own_apart hS.mx.o0 hrow (by decide) e.symm)
 have c0:∀ W,KO R ((.slice (some ⟨gF,0,none⟩) fs.length cF):Value).ownBlock V W→W.cell? ⟨w.heap.size,0,none⟩=some (.slice (some ⟨gF,0,none⟩) fs.length cF):=fun W h=>(World.cell?_of_block (hL0 W h)).trans e0
 refine T_a hq [0,1,2,4,5,6] (fun w h=>.cons (ldFs _ _ _ (c0 w h)) (.cons (ldFs _ _ _ (c0 w h)) (Lds.nil))) (by kernel_rfl) ?_
 refine T_fr 11 244 [3,7,8,9,10] [(0,pq R 0),(3,pq w.heap.size 0),(4,pq (w.heap.size+1) 0),(5,.int .i64 (i:Nat)),(121,pq w.heap.size 0),(122,.slice (some ⟨gF,0,none⟩) fs.length cF),(123,.int .i64 (i:Nat)),(125,pq w.heap.size 0),(126,.slice (some ⟨gF,0,none⟩) fs.length cF),(127,.int .i64 (i:Nat))] (by kernel_rfl) fun u=>?_
 have hVs:=hS.but.size
 have hb3:=hS.hL;have hs3:=hS.mx.row.lt;have hs4:=hS.b4.lt
 have hcap:fs.length≤cF:=own_cap7 hS.mx.o0
 refine T_yld hq 3 (some 124) (.slice (some ⟨gF,0,none⟩) i cF) (by kernel_rfl) (by kernel_rfl) (fun w h=>sliceFs0 (n:=fs.length) (X:=.tmp 122) (Y:=.tmp 123) (by kernel_rfl) (by kernel_rfl) (by kernel_rfl) (by omega) w) ?_
 refine T_val (i:=7) hq (some 128) (.int .i64 (IntKind.i64.wrap ((i:Int)+((1:Nat):Int)))) (.int .i64 ((i+1:Nat):Int)) (addNat8 (by omega)) (by kernel_rfl) (by kernel_rfl) ?_
 refine T_yld hq 8 (some 129) (.slice (some (if cF=i+1 then ⟨gF,0,none⟩ else ⟨gF,(i+1) * 3,none⟩)) (fs.length - (i+1)) (cF - (i+1))) (by kernel_rfl) (by kernel_rfl) (fun w h=>sliceFs1 (X:=.tmp 126) (Y:=.tmp 128) (by kernel_rfl) (by kernel_rfl) (by kernel_rfl) (by omega) w) ?_
 refine T_fr 11 244 [9,10] [(0,pq R 0),(3,pq w.heap.size 0),(4,pq (w.heap.size+1) 0),(5,.int .i64 (i:Nat)),(121,pq w.heap.size 0),(122,.slice (some ⟨gF,0,none⟩) fs.length cF),(123,.int .i64 (i:Nat)),(124,.slice (some ⟨gF,0,none⟩) i cF),(125,pq w.heap.size 0),(126,.slice (some ⟨gF,0,none⟩) fs.length cF),(127,.int .i64 (i:Nat)),(128,.int .i64 ((i+1:Nat):Int)),(129,.slice (some (if cF=i+1 then ⟨gF,0,none⟩ else ⟨gF,(i+1) * 3,none⟩)) (fs.length - (i+1)) (cF - (i+1)))] (by kernel_rfl) fun u=>?_
 obtain ⟨ii,j2,j3,j4,j5⟩:=infoFileD
 refine T_one 9 (by kernel_rfl) fun _=>O_list (some 130) (by kernel_rfl) ?_
 refine append_list9 V (by kernel_rfl) (.tmp 124) (.tmp 129) 23 (by kernel_rfl) (w.heap.size+2) 44 ii (.agg #[.string ByteArray.empty,.string ByteArray.empty,.int .i64 0]) 3 40 Try.underlying23 j2 j3 j4 j5 rfl (by decide) (some ⟨gF,0,none⟩) i cF (((fs.take i).map Df.cs).flatten) (by kernel_rfl) (xH (own_take8 hS.mx.o0 i hi)) (some (if cF=i+1 then ⟨gF,0,none⟩ else ⟨gF,(i+1) * 3,none⟩)) (fs.length - (i+1)) (cF - (i+1)) (((fs.drop (i+1)).map Df.cs).flatten) (by kernel_rfl) (len_fs8 _ _ (by rw [List.length_drop])) (fun hm=>⟨_,rfl,fun j u hj=>by rw [if_neg (by omega),addr_add];exact own_drop8 hS.mx.o0 i j u hj⟩) (fun u hu=>one_fs8 hu) (by unfold maxLen;omega) (by omega) (by omega) (fs.length - 1) (by omega) ?_
 intro ga gc W7 ho7 hg7 _
 refine ⟨(KO.of_but (But.refl R V)).grown hg7.out,_,put_putL ..,?_⟩
 refine T_z hq [10] (by kernel_rfl) ?_
 have hL7:=hS.box hg7.out (fun g e=>(own_ge hS.mx.o0 e).1)
 have hlen:(fs.take i++fs.drop (i+1)).length=fs.length - 1:=by rw [List.length_append,List.length_take,List.length_drop];omega
 have hfin:=hS.newF (.slice ga (fs.length - 1) gc) (fs.take i++fs.drop (i+1)) (by rw [hlen,List.map_append,List.flatten_append];exact ho7.out) hg7.out (fun x hx=>by
  rcases List.mem_append.1 hx with h' | h'
  · exact hS.fo x (List.mem_of_mem_take h')
  · exact hS.fo x (List.mem_of_mem_drop h'))
 exact T_end 244 [(0,pq R 0),(3,pq w.heap.size 0),(4,pq (w.heap.size+1) 0),(130,.slice ga (fs.length - 1) gc),(131,pq w.heap.size 0)] (by kernel_rfl) (by kernel_rfl) fun _ u=>last_store 23 (.tmp 131) (.tmp 130) ⟨w.heap.size,0,none⟩ (.slice ga (fs.length - 1) gc) _ (by kernel_rfl) (by kernel_rfl) (by kernel_rfl) (stFs W7 _ _ _ _ _ (hL7.cell (i:=0) (by omega)) (hL7.frozen 0)) (look_end (N:=244) (s:=[(0,pq R 0),(3,pq w.heap.size 0),(4,pq (w.heap.size+1) 0)]) (by kernel_rfl) fun u=>hend u _ _ _ _ hfin (by omega))
noncomputable def sx24Ops:Array Oper:=fops Try.f50 24
theorem sx24_neat:Region.noSelect sx24Ops.pop=true∧neat sx24Ops.pop=true:=⟨by kernel_rfl,by kernel_rfl⟩
theorem sx24_last:lastB sx24Ops=true:=by kernel_rfl
theorem sx24 (R gF cF i q:Nat) (w:World) (v:Value) (b:List UInt8) (x1 x2:Value) (fs:List Df) (ns:List ByteArray) (ms:List Dm) (W0:World) {l:List Value} (Q:Exit→Act→World→Prop) (hQ:∀ c a d v w,Q (.panic c) (Act.put a d v) w→Q (.panic c) a w) (hS:SpS R w W0.drew w.heap.size (w.heap.size+2) v b q (.slice (some ⟨gF,0,none⟩) fs.length cF) x1 x2 fs ns ms) (hi:i < fs.length) (hsm:∀ f,f∈fs→f.name.size≤1000∧f.data.size≤100000∧I64 f.kept) (hp:q≤100000) (HPK:∀ (W:World) (q' n':Nat),DR R W v b q'→1≤n'∧n'≤1000000→q'≤100000000→Calls Try.prog 24 #[.pointer (some ⟨R,0,none⟩),.int .i64 (n':Int)] W fun e w'=>PickEnd R W w' v b q' n' e)
 (hl:lookL [(0,.pointer (some ⟨R,0,none⟩)),(3,.pointer (some ⟨w.heap.size,0,none⟩)),(4,.pointer (some ⟨w.heap.size+1,0,none⟩)),(5,.int .i64 (i:Nat))] l=(244,([(0,.pointer (some ⟨R,0,none⟩)),(3,.pointer (some ⟨w.heap.size,0,none⟩)),(4,.pointer (some ⟨w.heap.size+1,0,none⟩)),(5,.int .i64 (i:Nat))]:List (Nat × Value)).map (·.2)))
 (hend:∀ (u:Nat→Value) (W:World) (f:Df) (q':Nat),SpS R w W w.heap.size (w.heap.size+2) v b q' (.slice (some ⟨gF,0,none⟩) fs.length cF) x1 x2 (fs.set i f) ns ms→q'≤q+3→Q .normal ⟨(frL u 244 [(0,.pointer (some ⟨R,0,none⟩)),(3,.pointer (some ⟨w.heap.size,0,none⟩)),(4,.pointer (some ⟨w.heap.size+1,0,none⟩))]).toArray,[]⟩ W):(Code.region 24 sx24Ops true).wp Try.prog Q ⟨l.toArray,[]⟩ W0:=by
 obtain ⟨v0,rfl⟩:=look_fr hl
 have hq:NtQ sx24Ops.pop (QL Try.prog sx24Ops Q):=nq_last sx24_neat hQ
 refine T_start_last (S:=fun W=>But R W0.drew W) (by kernel_rfl) sx24_last (But.refl _ _) ?_
 clear hl hQ
 generalize W0.drew=V at hS hend ⊢
 have hR:=hS.hR
 have hgF:w.heap.size+2≤gF∧gF < V.heap.size:=own_ge hS.mx.o0 rfl
 have hlt:=hS.mx.row.lt
 have hrow:=hS.mx.row
 obtain ⟨e0,e1,e2⟩:=cs3 hrow (by omega)
 simp only [row3] at e0 e1 e2
 obtain ⟨f1,f2,f3⟩:=ownFile hS.mx.o0 i hi
 have hfi:=hsm fs[i] (List.getElem_mem hi)
 have c0:∀ W,But R V W→W.cell? ⟨w.heap.size,0,none⟩=some (.slice (some ⟨gF,0,none⟩) fs.length cF):=fun W h=>(butcell h hlt (by omega)).trans e0
 have cN:∀ W,But R V W→W.cell? ⟨gF,i * 3,none⟩=some (.string fs[i].name):=fun W h=>(butcell h hgF.2 (by omega)).trans f1
 have cD:∀ W,But R V W→W.cell? ⟨gF,i * 3+1,none⟩=some (.string fs[i].data):=fun W h=>(butcell h hgF.2 (by omega)).trans f2
 refine T_a hq [0,1,2,3] (fun w h=>.cons (ldFs _ _ _ (c0 w h)) (Lds.nil)) (by kernel_rfl) ?_
 refine T_fr 9 244 [4,5,6,7,8] [(0,pq R 0),(3,pq w.heap.size 0),(4,pq (w.heap.size+1) 0),(5,.int .i64 (i:Nat)),(134,pq w.heap.size 0),(135,.slice (some ⟨gF,0,none⟩) fs.length cF),(136,.int .i64 (i:Nat)),(137,pq R 0)] (by kernel_rfl) fun u=>?_
 have hVs:=hS.but.size
 refine T_one 4 (by kernel_rfl) fun _=>O_go (HPK V _ 2 hS.dr (by omega) (by omega)) (by kernel_rfl) ?_
 rintro e w1 ⟨kk,rfl,hkk,HD,HB⟩
 refine ⟨_,rfl,HB.out,?_⟩
 refine T_val (i:=5) hq (some 139) (.int .i64 (IntKind.i64.wrap (((20000:Nat):Int)+(kk:Int)))) (.int .i64 ((20000+kk:Nat):Int)) (addNat8 (by omega)) (by kernel_rfl) (by kernel_rfl) ?_
 refine T_fr 9 244 [6,7,8] [(0,pq R 0),(3,pq w.heap.size 0),(4,pq (w.heap.size+1) 0),(5,.int .i64 (i:Nat)),(134,pq w.heap.size 0),(135,.slice (some ⟨gF,0,none⟩) fs.length cF),(136,.int .i64 (i:Nat)),(137,pq R 0),(138,.int .i64 (kk:Nat)),(139,.int .i64 ((20000+kk:Nat):Int))] (by kernel_rfl) fun u=>?_
 refine T_one 6 (by kernel_rfl) fun _=>O_go (l6Many_huge w1 ⟨#[120]⟩ (20000+kk) (by decide) (by omega)) (by kernel_rfl) ?_
 rintro e w2 ⟨y,rfl,hy,rfl⟩
 refine ⟨_,rfl,HB.out,?_⟩
 refine T_yld hq 7 (some 141) (pq gF (i * 3)) (by kernel_rfl) (by kernel_rfl) (fun w h=>ixRun0 (cap:=cF) (X:=.tmp 135) (I:=.tmp 136) (by kernel_rfl) (by kernel_rfl) (by kernel_rfl) hi w) ?_
 refine T_z hq [8] (by kernel_rfl) ?_
 obtain ⟨⟨u9,hu9⟩,hz9⟩:=(hS.draw HB.out HD.out).cellF rfl i 1 hi (by omega)
 have hfin:=(hS.draw HB.out HD.out).setF rfl i 1 (.string y) ⟨fs[i].name,y,fs[i].kept⟩ hi (by omega) rfl ⟨by show fs[i].name.size≤_;omega,by show y.size≤_;omega,hfi.2.2⟩
 exact T_end 244 [(0,pq R 0),(3,pq w.heap.size 0),(4,pq (w.heap.size+1) 0),(140,.string y),(142,pq gF (i * 3+1))] (by kernel_rfl) (by kernel_rfl) fun _ u=>last_store 9 (.tmp 142) (.tmp 140) ⟨gF,i * 3+1,none⟩ (.string y) _ (by kernel_rfl) (by kernel_rfl) (by kernel_rfl) (stStr w2 _ _ u9 hu9 hz9) (look_end (N:=244) (s:=[(0,pq R 0),(3,pq w.heap.size 0),(4,pq (w.heap.size+1) 0)]) (by kernel_rfl) fun u=>hend u _ _ _ hfin (by omega))
noncomputable def sx26Ops:Array Oper:=fops Try.f50 26
theorem sx26_neat:Region.noSelect sx26Ops.pop=true∧neat sx26Ops.pop=true:=⟨by kernel_rfl,by kernel_rfl⟩
theorem sx26_last:lastB sx26Ops=true:=by kernel_rfl
theorem sx26 (R gF cF i q:Nat) (w:World) (v:Value) (b:List UInt8) (x1 x2:Value) (fs:List Df) (ns:List ByteArray) (ms:List Dm) (W0:World) {l:List Value} (Q:Exit→Act→World→Prop) (hQ:∀ c a d v w,Q (.panic c) (Act.put a d v) w→Q (.panic c) a w) (hS:SpS R w W0.drew w.heap.size (w.heap.size+2) v b q (.slice (some ⟨gF,0,none⟩) fs.length cF) x1 x2 fs ns ms) (hi:i < fs.length) (hsm:∀ f,f∈fs→f.name.size≤1000∧f.data.size≤100000∧I64 f.kept) (hp:q≤100000)
 (hl:lookL [(0,.pointer (some ⟨R,0,none⟩)),(3,.pointer (some ⟨w.heap.size,0,none⟩)),(4,.pointer (some ⟨w.heap.size+1,0,none⟩)),(5,.int .i64 (i:Nat))] l=(244,([(0,.pointer (some ⟨R,0,none⟩)),(3,.pointer (some ⟨w.heap.size,0,none⟩)),(4,.pointer (some ⟨w.heap.size+1,0,none⟩)),(5,.int .i64 (i:Nat))]:List (Nat × Value)).map (·.2)))
 (hend:∀ (u:Nat→Value) (W:World) (f:Df) (q':Nat),SpS R w W w.heap.size (w.heap.size+2) v b q' (.slice (some ⟨gF,0,none⟩) fs.length cF) x1 x2 (fs.set i f) ns ms→q'≤q+3→Q .normal ⟨(frL u 244 [(0,.pointer (some ⟨R,0,none⟩)),(3,.pointer (some ⟨w.heap.size,0,none⟩)),(4,.pointer (some ⟨w.heap.size+1,0,none⟩))]).toArray,[]⟩ W):(Code.region 26 sx26Ops true).wp Try.prog Q ⟨l.toArray,[]⟩ W0:=by
 obtain ⟨v0,rfl⟩:=look_fr hl
 have hq:NtQ sx26Ops.pop (QL Try.prog sx26Ops Q):=nq_last sx26_neat hQ
 refine T_start_last (S:=fun W=>But R W0.drew W) (by kernel_rfl) sx26_last (But.refl _ _) ?_
 clear hl hQ
 generalize W0.drew=V at hS hend ⊢
 have hR:=hS.hR
 have hgF:w.heap.size+2≤gF∧gF < V.heap.size:=own_ge hS.mx.o0 rfl
 have hlt:=hS.mx.row.lt
 have hrow:=hS.mx.row
 obtain ⟨e0,e1,e2⟩:=cs3 hrow (by omega)
 simp only [row3] at e0 e1 e2
 obtain ⟨f1,f2,f3⟩:=ownFile hS.mx.o0 i hi
 have hfi:=hsm fs[i] (List.getElem_mem hi)
 have c0:∀ W,But R V W→W.cell? ⟨w.heap.size,0,none⟩=some (.slice (some ⟨gF,0,none⟩) fs.length cF):=fun W h=>(butcell h hlt (by omega)).trans e0
 have cN:∀ W,But R V W→W.cell? ⟨gF,i * 3,none⟩=some (.string fs[i].name):=fun W h=>(butcell h hgF.2 (by omega)).trans f1
 have cD:∀ W,But R V W→W.cell? ⟨gF,i * 3+1,none⟩=some (.string fs[i].data):=fun W h=>(butcell h hgF.2 (by omega)).trans f2
 refine T_a hq [0,1,2,3,4,5,9] (fun w h=>.cons (ldFs _ _ _ (c0 w h)) (.cons (ldFs _ _ _ (c0 w h)) (Lds.nil))) (by kernel_rfl) ?_
 refine T_yld hq 6 (some 151) (pq gF (i * 3)) (by kernel_rfl) (by kernel_rfl) (fun w h=>ixRun0 (cap:=cF) (X:=.tmp 149) (I:=.tmp 150) (by kernel_rfl) (by kernel_rfl) (by kernel_rfl) hi w) ?_
 refine T_a hq [7,8] (fun w h=>.cons (ldStr _ _ _ (cD w h)) (Lds.nil)) (by kernel_rfl) ?_
 refine T_fr 15 244 [10,11,12,13,14] [(0,pq R 0),(3,pq w.heap.size 0),(4,pq (w.heap.size+1) 0),(5,.int .i64 (i:Nat)),(145,pq w.heap.size 0),(146,.slice (some ⟨gF,0,none⟩) fs.length cF),(147,.int .i64 (i:Nat)),(148,pq w.heap.size 0),(149,.slice (some ⟨gF,0,none⟩) fs.length cF),(150,.int .i64 (i:Nat)),(151,pq gF (i * 3)),(152,pq gF (i * 3+1)),(153,.string fs[i].data),(154,pq R 0)] (by kernel_rfl) fun u=>?_
 have hVs:=hS.but.size
 refine T_one 10 (by kernel_rfl) fun _=>O_val (w':=(V.alloc (.cells #[.string ⟨#[120]⟩,.string ⟨#[0,1,0,0,9,97]⟩,.string ⟨#[111,112,101,110,32,49,32,49,10,101,110,100,10]⟩] 9))) (some 155) (.slice (some ⟨V.heap.size,0,none⟩) 3 3) (by kernel_rfl) (by kernel_rfl) (But.alloc R V _) ?_
 refine T_fr 15 244 [11,12,13,14] [(0,pq R 0),(3,pq w.heap.size 0),(4,pq (w.heap.size+1) 0),(5,.int .i64 (i:Nat)),(145,pq w.heap.size 0),(146,.slice (some ⟨gF,0,none⟩) fs.length cF),(147,.int .i64 (i:Nat)),(148,pq w.heap.size 0),(149,.slice (some ⟨gF,0,none⟩) fs.length cF),(150,.int .i64 (i:Nat)),(151,pq gF (i * 3)),(152,pq gF (i * 3+1)),(153,.string fs[i].data),(154,pq R 0),(155,.slice (some ⟨V.heap.size,0,none⟩) 3 3)] (by kernel_rfl) fun u=>?_
 refine T_one 11 (by kernel_rfl) fun _=>O_go (ofL8 R (V.alloc (.cells #[.string ⟨#[120]⟩,.string ⟨#[0,1,0,0,9,97]⟩,.string ⟨#[111,112,101,110,32,49,32,49,10,101,110,100,10]⟩] 9)) v b _ (hS.dr.on ((Below.refl _ _).alloc (Nat.le_refl _) _)) (by omega) _ 3 (fun jj=>([⟨#[120]⟩,⟨#[0,1,0,0,9,97]⟩,⟨#[111,112,101,110,32,49,32,49,10,101,110,100,10]⟩]:List ByteArray).getD jj ByteArray.empty) (by omega) (row26 V) (by omega) 1000 (fun jj hi2=>by
  rcases (show jj=0∨jj=1∨jj=2 by omega) with rfl | rfl | rfl
  · show 1≤1000;omega
  · show 6≤1000;omega
  · show 13≤1000;omega)) (by kernel_rfl) ?_
 rintro e w1 ⟨y,rfl,hy,HD,HB⟩
 refine ⟨_,rfl,(But.alloc R V _).trans HB.out,?_⟩
 refine T_yld hq 12 (some 157) (.string (fs[i].data++y)) (by kernel_rfl) (by kernel_rfl) (fun w h=>addRun (T:=9) (X:=.tmp 153) (Y:=.tmp 156) (by kernel_rfl) (by kernel_rfl) (by kernel_rfl) (by omega) w) ?_
 refine T_yld hq 13 (some 158) (pq gF (i * 3)) (by kernel_rfl) (by kernel_rfl) (fun w h=>ixRun0 (cap:=cF) (X:=.tmp 146) (I:=.tmp 147) (by kernel_rfl) (by kernel_rfl) (by kernel_rfl) hi w) ?_
 refine T_z hq [14] (by kernel_rfl) ?_
 have hdy:(fs[i].data++y).size=fs[i].data.size+y.size:=ByteArray.size_append
 obtain ⟨⟨u9,hu9⟩,hz9⟩:=(hS.draw ((But.alloc R V _).trans HB.out) HD.out).cellF rfl i 1 hi (by omega)
 have hfin:=(hS.draw ((But.alloc R V _).trans HB.out) HD.out).setF rfl i 1 (.string (fs[i].data++y)) ⟨fs[i].name,fs[i].data++y,fs[i].kept⟩ hi (by omega) rfl ⟨by show fs[i].name.size≤_;omega,by show (fs[i].data++y).size≤_;omega,hfi.2.2⟩
 exact T_end 244 [(0,pq R 0),(3,pq w.heap.size 0),(4,pq (w.heap.size+1) 0),(157,.string (fs[i].data++y)),(159,pq gF (i * 3+1))] (by kernel_rfl) (by kernel_rfl) fun _ u=>last_store 9 (.tmp 159) (.tmp 157) ⟨gF,i * 3+1,none⟩ (.string (fs[i].data++y)) _ (by kernel_rfl) (by kernel_rfl) (by kernel_rfl) (stStr w1 _ _ u9 hu9 hz9) (look_end (N:=244) (s:=[(0,pq R 0),(3,pq w.heap.size 0),(4,pq (w.heap.size+1) 0)]) (by kernel_rfl) fun u=>hend u _ _ _ hfin (by omega))
noncomputable def sx30Ops:Array Oper:=fops Try.f50 30
theorem sx30_neat:Region.noSelect sx30Ops.pop=true∧neat sx30Ops.pop=true:=⟨by kernel_rfl,by kernel_rfl⟩
theorem sx30_last:lastB sx30Ops=true:=by kernel_rfl
theorem sx30 (R gF cF i q k:Nat) (w:World) (v:Value) (b:List UInt8) (x1 x2:Value) (fs:List Df) (ns:List ByteArray) (ms:List Dm) (W0:World) {l:List Value} (Q:Exit→Act→World→Prop) (hQ:∀ c a d v w,Q (.panic c) (Act.put a d v) w→Q (.panic c) a w) (hS:SpS R w W0.drew w.heap.size (w.heap.size+2) v b q (.slice (some ⟨gF,0,none⟩) fs.length cF) x1 x2 fs ns ms) (hi:i < fs.length) (hsm:∀ f,f∈fs→f.name.size≤1000∧f.data.size≤100000∧I64 f.kept) (hk:k≤fs[i].data.size)
 (hl:lookL [(0,.pointer (some ⟨R,0,none⟩)),(3,.pointer (some ⟨w.heap.size,0,none⟩)),(4,.pointer (some ⟨w.heap.size+1,0,none⟩)),(5,.int .i64 (i:Nat)),(6,.int .i64 (k:Nat))] l=(244,([(0,.pointer (some ⟨R,0,none⟩)),(3,.pointer (some ⟨w.heap.size,0,none⟩)),(4,.pointer (some ⟨w.heap.size+1,0,none⟩)),(5,.int .i64 (i:Nat)),(6,.int .i64 (k:Nat))]:List (Nat × Value)).map (·.2)))
 (hend:∀ (u:Nat→Value) (W:World) (f:Df) (q':Nat),SpS R w W w.heap.size (w.heap.size+2) v b q' (.slice (some ⟨gF,0,none⟩) fs.length cF) x1 x2 (fs.set i f) ns ms→q'≤q+3→Q .normal ⟨(frL u 244 [(0,.pointer (some ⟨R,0,none⟩)),(3,.pointer (some ⟨w.heap.size,0,none⟩)),(4,.pointer (some ⟨w.heap.size+1,0,none⟩)),(5,.int .i64 (i:Nat))]).toArray,[]⟩ W):(Code.region 30 sx30Ops true).wp Try.prog Q ⟨l.toArray,[]⟩ W0:=by
 obtain ⟨v0,rfl⟩:=look_fr hl
 have hq:NtQ sx30Ops.pop (QL Try.prog sx30Ops Q):=nq_last sx30_neat hQ
 refine T_start_last (S:=fun W=>But R W0.drew W) (by kernel_rfl) sx30_last (But.refl _ _) ?_
 clear hl hQ
 generalize W0.drew=V at hS hend ⊢
 have hR:=hS.hR
 have hgF:w.heap.size+2≤gF∧gF < V.heap.size:=own_ge hS.mx.o0 rfl
 have hlt:=hS.mx.row.lt
 have hrow:=hS.mx.row
 obtain ⟨e0,e1,e2⟩:=cs3 hrow (by omega)
 simp only [row3] at e0 e1 e2
 obtain ⟨f1,f2,f3⟩:=ownFile hS.mx.o0 i hi
 have hfi:=hsm fs[i] (List.getElem_mem hi)
 have c0:∀ W,But R V W→W.cell? ⟨w.heap.size,0,none⟩=some (.slice (some ⟨gF,0,none⟩) fs.length cF):=fun W h=>(butcell h hlt (by omega)).trans e0
 have cN:∀ W,But R V W→W.cell? ⟨gF,i * 3,none⟩=some (.string fs[i].name):=fun W h=>(butcell h hgF.2 (by omega)).trans f1
 have cD:∀ W,But R V W→W.cell? ⟨gF,i * 3+1,none⟩=some (.string fs[i].data):=fun W h=>(butcell h hgF.2 (by omega)).trans f2
 refine T_a hq [0,1,2,3,4,5,9] (fun w h=>.cons (ldFs _ _ _ (c0 w h)) (.cons (ldFs _ _ _ (c0 w h)) (Lds.nil))) (by kernel_rfl) ?_
 refine T_yld hq 6 (some 185) (pq gF (i * 3)) (by kernel_rfl) (by kernel_rfl) (fun w h=>ixRun0 (cap:=cF) (X:=.tmp 183) (I:=.tmp 184) (by kernel_rfl) (by kernel_rfl) (by kernel_rfl) hi w) ?_
 refine T_a hq [7,8] (fun w h=>.cons (ldStr _ _ _ (cD w h)) (Lds.nil)) (by kernel_rfl) ?_
 refine T_yld hq 10 (some 189) (.string (fs[i].data.extract 0 k)) (by kernel_rfl) (by kernel_rfl) (fun w h=>sliceToRun8 (X:=.tmp 187) (Y:=.tmp 188) (by kernel_rfl) (by kernel_rfl) (by kernel_rfl) Try.underlying9 (by omega) w) ?_
 refine T_yld hq 11 (some 190) (pq gF (i * 3)) (by kernel_rfl) (by kernel_rfl) (fun w h=>ixRun0 (cap:=cF) (X:=.tmp 180) (I:=.tmp 181) (by kernel_rfl) (by kernel_rfl) (by kernel_rfl) hi w) ?_
 refine T_z hq [12] (by kernel_rfl) ?_
 have hdy:(fs[i].data.extract 0 k).size≤100000:=by rw [ByteArray.size_extract];omega
 obtain ⟨⟨u9,hu9⟩,hz9⟩:=(hS).cellF rfl i 1 hi (by omega)
 have hfin:=(hS).setF rfl i 1 (.string (fs[i].data.extract 0 k)) ⟨fs[i].name,fs[i].data.extract 0 k,fs[i].kept⟩ hi (by omega) rfl ⟨by show fs[i].name.size≤_;omega,by show (fs[i].data.extract 0 k).size≤_;omega,hfi.2.2⟩
 exact T_end 244 [(0,pq R 0),(3,pq w.heap.size 0),(4,pq (w.heap.size+1) 0),(5,.int .i64 (i:Nat)),(189,.string (fs[i].data.extract 0 k)),(191,pq gF (i * 3+1))] (by kernel_rfl) (by kernel_rfl) fun _ u=>last_store 9 (.tmp 191) (.tmp 189) ⟨gF,i * 3+1,none⟩ (.string (fs[i].data.extract 0 k)) _ (by kernel_rfl) (by kernel_rfl) (by kernel_rfl) (stStr V _ _ u9 hu9 hz9) (look_end (N:=244) (s:=[(0,pq R 0),(3,pq w.heap.size 0),(4,pq (w.heap.size+1) 0),(5,.int .i64 (i:Nat))]) (by kernel_rfl) fun u=>hend u _ _ _ hfin (by omega))
noncomputable def sx35Ops:Array Oper:=fops Try.f50 35
theorem sx35_neat:Region.noSelect sx35Ops.pop=true∧neat sx35Ops.pop=true:=⟨by kernel_rfl,by kernel_rfl⟩
theorem sx35_last:lastB sx35Ops=true:=by kernel_rfl
theorem sx35 (R gF cF i q k:Nat) (w:World) (v:Value) (b:List UInt8) (x1 x2:Value) (fs:List Df) (ns:List ByteArray) (ms:List Dm) (W0:World) {l:List Value} (Q:Exit→Act→World→Prop) (hQ:∀ c a d v w,Q (.panic c) (Act.put a d v) w→Q (.panic c) a w) (hS:SpS R w W0.drew w.heap.size (w.heap.size+2) v b q (.slice (some ⟨gF,0,none⟩) fs.length cF) x1 x2 fs ns ms) (hi:i < fs.length) (hsm:∀ f,f∈fs→f.name.size≤1000∧f.data.size≤100000∧I64 f.kept) (hp:q≤100000) (hk:k < fs[i].data.size)
 (hl:lookL [(0,.pointer (some ⟨R,0,none⟩)),(3,.pointer (some ⟨w.heap.size,0,none⟩)),(4,.pointer (some ⟨w.heap.size+1,0,none⟩)),(5,.int .i64 (i:Nat)),(7,.int .i64 (k:Nat))] l=(244,([(0,.pointer (some ⟨R,0,none⟩)),(3,.pointer (some ⟨w.heap.size,0,none⟩)),(4,.pointer (some ⟨w.heap.size+1,0,none⟩)),(5,.int .i64 (i:Nat)),(7,.int .i64 (k:Nat))]:List (Nat × Value)).map (·.2)))
 (hend:∀ (u:Nat→Value) (W:World) (f:Df) (q':Nat),SpS R w W w.heap.size (w.heap.size+2) v b q' (.slice (some ⟨gF,0,none⟩) fs.length cF) x1 x2 (fs.set i f) ns ms→q'≤q+3→Q .normal ⟨(frL u 244 [(0,.pointer (some ⟨R,0,none⟩)),(3,.pointer (some ⟨w.heap.size,0,none⟩)),(4,.pointer (some ⟨w.heap.size+1,0,none⟩))]).toArray,[]⟩ W):(Code.region 35 sx35Ops true).wp Try.prog Q ⟨l.toArray,[]⟩ W0:=by
 obtain ⟨v0,rfl⟩:=look_fr hl
 have hq:NtQ sx35Ops.pop (QL Try.prog sx35Ops Q):=nq_last sx35_neat hQ
 refine T_start_last (S:=fun W=>But R W0.drew W) (by kernel_rfl) sx35_last (But.refl _ _) ?_
 clear hl hQ
 generalize W0.drew=V at hS hend ⊢
 have hR:=hS.hR
 have hgF:w.heap.size+2≤gF∧gF < V.heap.size:=own_ge hS.mx.o0 rfl
 have hlt:=hS.mx.row.lt
 have hrow:=hS.mx.row
 obtain ⟨e0,e1,e2⟩:=cs3 hrow (by omega)
 simp only [row3] at e0 e1 e2
 obtain ⟨f1,f2,f3⟩:=ownFile hS.mx.o0 i hi
 have hfi:=hsm fs[i] (List.getElem_mem hi)
 have c0:∀ W,But R V W→W.cell? ⟨w.heap.size,0,none⟩=some (.slice (some ⟨gF,0,none⟩) fs.length cF):=fun W h=>(butcell h hlt (by omega)).trans e0
 have cN:∀ W,But R V W→W.cell? ⟨gF,i * 3,none⟩=some (.string fs[i].name):=fun W h=>(butcell h hgF.2 (by omega)).trans f1
 have cD:∀ W,But R V W→W.cell? ⟨gF,i * 3+1,none⟩=some (.string fs[i].data):=fun W h=>(butcell h hgF.2 (by omega)).trans f2
 refine T_a hq [0,1,2,3,4,5,9,11,15,16,17,21] (fun w h=>.cons (ldFs _ _ _ (c0 w h)) (.cons (ldFs _ _ _ (c0 w h)) (.cons (ldFs _ _ _ (c0 w h)) (Lds.nil)))) (by kernel_rfl) ?_
 refine T_yld hq 6 (some 222) (pq gF (i * 3)) (by kernel_rfl) (by kernel_rfl) (fun w h=>ixRun0 (cap:=cF) (X:=.tmp 220) (I:=.tmp 221) (by kernel_rfl) (by kernel_rfl) (by kernel_rfl) hi w) ?_
 refine T_a hq [7,8] (fun w h=>.cons (ldStr _ _ _ (cD w h)) (Lds.nil)) (by kernel_rfl) ?_
 refine T_yld hq 10 (some 226) (.string (fs[i].data.extract 0 k)) (by kernel_rfl) (by kernel_rfl) (fun w h=>sliceToRun8 (X:=.tmp 224) (Y:=.tmp 225) (by kernel_rfl) (by kernel_rfl) (by kernel_rfl) Try.underlying9 (by omega) w) ?_
 refine T_val (i:=22) hq (some 238) (.int .i64 (IntKind.i64.wrap ((k:Int)+((1:Nat):Int)))) (.int .i64 ((k+1:Nat):Int)) (addNat8 (by omega)) (by kernel_rfl) (by kernel_rfl) ?_
 refine T_yld hq 18 (some 234) (pq gF (i * 3)) (by kernel_rfl) (by kernel_rfl) (fun w h=>ixRun0 (cap:=cF) (X:=.tmp 232) (I:=.tmp 233) (by kernel_rfl) (by kernel_rfl) (by kernel_rfl) hi w) ?_
 refine T_a hq [19,20] (fun w h=>.cons (ldStr _ _ _ (cD w h)) (Lds.nil)) (by kernel_rfl) ?_
 refine T_yld hq 23 (some 239) (.string (fs[i].data.extract (k+1) fs[i].data.size)) (by kernel_rfl) (by kernel_rfl) (fun w h=>sliceFromRun (X:=.tmp 236) (Y:=.tmp 238) (by kernel_rfl) (by kernel_rfl) (by kernel_rfl) Try.underlying9 (by omega) w) ?_
 refine T_fr 27 244 [12,13,14,24,25,26] [(0,pq R 0),(3,pq w.heap.size 0),(4,pq (w.heap.size+1) 0),(5,.int .i64 (i:Nat)),(7,.int .i64 (k:Nat)),(216,pq w.heap.size 0),(217,.slice (some ⟨gF,0,none⟩) fs.length cF),(218,.int .i64 (i:Nat)),(219,pq w.heap.size 0),(220,.slice (some ⟨gF,0,none⟩) fs.length cF),(221,.int .i64 (i:Nat)),(222,pq gF (i * 3)),(223,pq gF (i * 3+1)),(224,.string fs[i].data),(225,.int .i64 (k:Nat)),(226,.string (fs[i].data.extract 0 k)),(227,pq R 0),(231,pq w.heap.size 0),(232,.slice (some ⟨gF,0,none⟩) fs.length cF),(233,.int .i64 (i:Nat)),(234,pq gF (i * 3)),(235,pq gF (i * 3+1)),(236,.string fs[i].data),(237,.int .i64 (k:Nat)),(238,.int .i64 ((k+1:Nat):Int)),(239,.string (fs[i].data.extract (k+1) fs[i].data.size))] (by kernel_rfl) fun u=>?_
 have hVs:=hS.but.size
 refine T_one 12 (by kernel_rfl) fun _=>O_val (w':=(V.alloc (.cells #[.string ⟨#[0]⟩,.string ⟨#[49]⟩,.string ⟨#[57]⟩,.string ⟨#[32]⟩] 9))) (some 228) (.slice (some ⟨V.heap.size,0,none⟩) 4 4) (by kernel_rfl) (by kernel_rfl) (But.alloc R V _) ?_
 refine T_fr 27 244 [13,14,24,25,26] [(0,pq R 0),(3,pq w.heap.size 0),(4,pq (w.heap.size+1) 0),(5,.int .i64 (i:Nat)),(7,.int .i64 (k:Nat)),(216,pq w.heap.size 0),(217,.slice (some ⟨gF,0,none⟩) fs.length cF),(218,.int .i64 (i:Nat)),(219,pq w.heap.size 0),(220,.slice (some ⟨gF,0,none⟩) fs.length cF),(221,.int .i64 (i:Nat)),(222,pq gF (i * 3)),(223,pq gF (i * 3+1)),(224,.string fs[i].data),(225,.int .i64 (k:Nat)),(226,.string (fs[i].data.extract 0 k)),(227,pq R 0),(228,.slice (some ⟨V.heap.size,0,none⟩) 4 4),(231,pq w.heap.size 0),(232,.slice (some ⟨gF,0,none⟩) fs.length cF),(233,.int .i64 (i:Nat)),(234,pq gF (i * 3)),(235,pq gF (i * 3+1)),(236,.string fs[i].data),(237,.int .i64 (k:Nat)),(238,.int .i64 ((k+1:Nat):Int)),(239,.string (fs[i].data.extract (k+1) fs[i].data.size))] (by kernel_rfl) fun u=>?_
 refine T_one 13 (by kernel_rfl) fun _=>O_go (ofL8 R (V.alloc (.cells #[.string ⟨#[0]⟩,.string ⟨#[49]⟩,.string ⟨#[57]⟩,.string ⟨#[32]⟩] 9)) v b _ (hS.dr.on ((Below.refl _ _).alloc (Nat.le_refl _) _)) (by omega) _ 4 (fun jj=>([⟨#[0]⟩,⟨#[49]⟩,⟨#[57]⟩,⟨#[32]⟩]:List ByteArray).getD jj ByteArray.empty) (by omega) (row35 V) (by omega) 1000 (fun jj hi2=>by
  rcases (show jj=0∨jj=1∨jj=2∨jj=3 by omega) with rfl | rfl | rfl | rfl
  · show 1≤1000;omega
  · show 1≤1000;omega
  · show 1≤1000;omega
  · show 1≤1000;omega)) (by kernel_rfl) ?_
 rintro e w1 ⟨y,rfl,hy,HD,HB⟩
 refine ⟨_,rfl,(But.alloc R V _).trans HB.out,?_⟩
 have hx1:(fs[i].data.extract 0 k).size≤100000:=by rw [ByteArray.size_extract];omega
 have hx2:(fs[i].data.extract (k+1) fs[i].data.size).size≤100000:=by rw [ByteArray.size_extract];omega
 have hx3:(fs[i].data.extract 0 k++y).size=(fs[i].data.extract 0 k).size+y.size:=ByteArray.size_append
 have hx4:(fs[i].data.extract 0 k++y++fs[i].data.extract (k+1) fs[i].data.size).size=(fs[i].data.extract 0 k++y).size+(fs[i].data.extract (k+1) fs[i].data.size).size:=ByteArray.size_append
 refine T_yld hq 14 (some 230) (.string (fs[i].data.extract 0 k++y)) (by kernel_rfl) (by kernel_rfl) (fun w h=>addRun (T:=9) (X:=.tmp 226) (Y:=.tmp 229) (by kernel_rfl) (by kernel_rfl) (by kernel_rfl) (by omega) w) ?_
 refine T_yld hq 24 (some 240) (.string (fs[i].data.extract 0 k++y++fs[i].data.extract (k+1) fs[i].data.size)) (by kernel_rfl) (by kernel_rfl) (fun w h=>addRun (T:=9) (X:=.tmp 230) (Y:=.tmp 239) (by kernel_rfl) (by kernel_rfl) (by kernel_rfl) (by omega) w) ?_
 refine T_yld hq 25 (some 241) (pq gF (i * 3)) (by kernel_rfl) (by kernel_rfl) (fun w h=>ixRun0 (cap:=cF) (X:=.tmp 217) (I:=.tmp 218) (by kernel_rfl) (by kernel_rfl) (by kernel_rfl) hi w) ?_
 refine T_z hq [26] (by kernel_rfl) ?_
 obtain ⟨⟨u9,hu9⟩,hz9⟩:=(hS.draw ((But.alloc R V _).trans HB.out) HD.out).cellF rfl i 1 hi (by omega)
 have hfin:=(hS.draw ((But.alloc R V _).trans HB.out) HD.out).setF rfl i 1 (.string (fs[i].data.extract 0 k++y++fs[i].data.extract (k+1) fs[i].data.size)) ⟨fs[i].name,fs[i].data.extract 0 k++y++fs[i].data.extract (k+1) fs[i].data.size,fs[i].kept⟩ hi (by omega) rfl ⟨by show fs[i].name.size≤_;omega,by show (fs[i].data.extract 0 k++y++fs[i].data.extract (k+1) fs[i].data.size).size≤_;omega,hfi.2.2⟩
 exact T_end 244 [(0,pq R 0),(3,pq w.heap.size 0),(4,pq (w.heap.size+1) 0),(240,.string (fs[i].data.extract 0 k++y++fs[i].data.extract (k+1) fs[i].data.size)),(242,pq gF (i * 3+1))] (by kernel_rfl) (by kernel_rfl) fun _ u=>last_store 9 (.tmp 242) (.tmp 240) ⟨gF,i * 3+1,none⟩ (.string (fs[i].data.extract 0 k++y++fs[i].data.extract (k+1) fs[i].data.size)) _ (by kernel_rfl) (by kernel_rfl) (by kernel_rfl) (stStr w1 _ _ u9 hu9 hz9) (look_end (N:=244) (s:=[(0,pq R 0),(3,pq w.heap.size 0),(4,pq (w.heap.size+1) 0)]) (by kernel_rfl) fun u=>hend u _ _ _ hfin (by omega))
noncomputable def sx14Ops:Array Oper:=fops Try.f50 14
theorem sx14_neat:Region.noSelect sx14Ops.pop=true∧neat sx14Ops.pop=true:=⟨by kernel_rfl,by kernel_rfl⟩
theorem sx14_last:lastB sx14Ops=true:=by kernel_rfl
theorem sx14 (R gF cF i q:Nat) (w:World) (v:Value) (b:List UInt8) (x1 x2:Value) (fs:List Df) (ns:List ByteArray) (ms:List Dm) (W0:World) {l:List Value} (Q:Exit→Act→World→Prop) (hQ:∀ c a d v w,Q (.panic c) (Act.put a d v) w→Q (.panic c) a w) (hS:SpS R w W0.drew w.heap.size (w.heap.size+2) v b q (.slice (some ⟨gF,0,none⟩) fs.length cF) x1 x2 fs ns ms) (hi:i < fs.length) (hsm:∀ f,f∈fs→f.name.size≤1000∧f.data.size≤100000∧I64 f.kept) (hp:q≤100000) (HPK:∀ (W:World) (q' n':Nat),DR R W v b q'→1≤n'∧n'≤1000000→q'≤100000000→Calls Try.prog 24 #[.pointer (some ⟨R,0,none⟩),.int .i64 (n':Int)] W fun e w'=>PickEnd R W w' v b q' n' e)
 (hl:lookL [(0,.pointer (some ⟨R,0,none⟩)),(3,.pointer (some ⟨w.heap.size,0,none⟩)),(4,.pointer (some ⟨w.heap.size+1,0,none⟩)),(5,.int .i64 (i:Nat))] l=(244,([(0,.pointer (some ⟨R,0,none⟩)),(3,.pointer (some ⟨w.heap.size,0,none⟩)),(4,.pointer (some ⟨w.heap.size+1,0,none⟩)),(5,.int .i64 (i:Nat))]:List (Nat × Value)).map (·.2)))
 (hend:∀ (u:Nat→Value) (W:World) (f:Df) (q':Nat),SpS R w W w.heap.size (w.heap.size+2) v b q' (.slice (some ⟨gF,0,none⟩) fs.length cF) x1 x2 (fs.set i f) ns ms→q'≤q+3→Q .normal ⟨(frL u 244 [(0,.pointer (some ⟨R,0,none⟩)),(3,.pointer (some ⟨w.heap.size,0,none⟩)),(4,.pointer (some ⟨w.heap.size+1,0,none⟩))]).toArray,[]⟩ W):(Code.region 14 sx14Ops true).wp Try.prog Q ⟨l.toArray,[]⟩ W0:=by
 obtain ⟨v0,rfl⟩:=look_fr hl
 have hq:NtQ sx14Ops.pop (QL Try.prog sx14Ops Q):=nq_last sx14_neat hQ
 refine T_start_last (S:=fun W=>But R W0.drew W) (by kernel_rfl) sx14_last (But.refl _ _) ?_
 clear hl hQ
 generalize W0.drew=V at hS hend ⊢
 have hR:=hS.hR
 have hgF:w.heap.size+2≤gF∧gF < V.heap.size:=own_ge hS.mx.o0 rfl
 have hlt:=hS.mx.row.lt
 have hrow:=hS.mx.row
 obtain ⟨e0,e1,e2⟩:=cs3 hrow (by omega)
 simp only [row3] at e0 e1 e2
 obtain ⟨f1,f2,f3⟩:=ownFile hS.mx.o0 i hi
 have hfi:=hsm fs[i] (List.getElem_mem hi)
 have c0:∀ W,But R V W→W.cell? ⟨w.heap.size,0,none⟩=some (.slice (some ⟨gF,0,none⟩) fs.length cF):=fun W h=>(butcell h hlt (by omega)).trans e0
 have cN:∀ W,But R V W→W.cell? ⟨gF,i * 3,none⟩=some (.string fs[i].name):=fun W h=>(butcell h hgF.2 (by omega)).trans f1
 have cD:∀ W,But R V W→W.cell? ⟨gF,i * 3+1,none⟩=some (.string fs[i].data):=fun W h=>(butcell h hgF.2 (by omega)).trans f2
 have R14:∀ W:World,(W.alloc (.cells #[.int .i64 (-1),.int .i64 ((fs[i].data.size+1:Nat):Int),.int .i64 (fs[i].data.size:Nat)] 3)).rowIs W.heap.size 3 3 (fun jj=>.int .i64 (([-1,((fs[i].data.size+1:Nat):Int),((fs[i].data.size:Nat):Int)]:List Int).getD jj 0)):=fun W=>World.rowIs_alloc W #[.int .i64 (-1),.int .i64 ((fs[i].data.size+1:Nat):Int),.int .i64 (fs[i].data.size:Nat)] 3 _ (fun j hj=>by
  have hj':j < 3:=by simpa using hj
  rcases (show j=0∨j=1∨j=2 by omega) with rfl | rfl | rfl <;> rfl)
 refine T_a hq [0,1,2,3,4,5,11,12,13,19] (fun w h=>.cons (ldFs _ _ _ (c0 w h)) (.cons (ldFs _ _ _ (c0 w h)) (.cons (ldFs _ _ _ (c0 w h)) (Lds.nil)))) (by kernel_rfl) ?_
 refine T_yld hq 6 (some 60) (pq gF (i * 3)) (by kernel_rfl) (by kernel_rfl) (fun w h=>ixRun0 (cap:=cF) (X:=.tmp 58) (I:=.tmp 59) (by kernel_rfl) (by kernel_rfl) (by kernel_rfl) hi w) ?_
 refine T_a hq [7,8,9] (fun w h=>.cons (ldStr _ _ _ (cD w h)) (Lds.nil)) (by kernel_rfl) ?_
 refine T_val (i:=10) hq (some 64) (.int .i64 (IntKind.i64.wrap ((fs[i].data.size:Int)+((1:Nat):Int)))) (.int .i64 ((fs[i].data.size+1:Nat):Int)) (addNat8 (by omega)) (by kernel_rfl) (by kernel_rfl) ?_
 refine T_yld hq 14 (some 68) (pq gF (i * 3)) (by kernel_rfl) (by kernel_rfl) (fun w h=>ixRun0 (cap:=cF) (X:=.tmp 66) (I:=.tmp 67) (by kernel_rfl) (by kernel_rfl) (by kernel_rfl) hi w) ?_
 refine T_a hq [15,16,17] (fun w h=>.cons (ldStr _ _ _ (cD w h)) (Lds.nil)) (by kernel_rfl) ?_
 refine T_fr 25 244 [18,20,21,22,23,24] [(0,pq R 0),(3,pq w.heap.size 0),(4,pq (w.heap.size+1) 0),(5,.int .i64 (i:Nat)),(54,pq w.heap.size 0),(55,.slice (some ⟨gF,0,none⟩) fs.length cF),(56,.int .i64 (i:Nat)),(57,pq w.heap.size 0),(58,.slice (some ⟨gF,0,none⟩) fs.length cF),(59,.int .i64 (i:Nat)),(60,pq gF (i * 3)),(61,pq gF (i * 3+1)),(62,.string fs[i].data),(63,.int .i64 (fs[i].data.size:Nat)),(64,.int .i64 ((fs[i].data.size+1:Nat):Int)),(65,pq w.heap.size 0),(66,.slice (some ⟨gF,0,none⟩) fs.length cF),(67,.int .i64 (i:Nat)),(68,pq gF (i * 3)),(69,pq gF (i * 3+1)),(70,.string fs[i].data),(71,.int .i64 (fs[i].data.size:Nat)),(73,pq R 0)] (by kernel_rfl) fun u=>?_
 have NF:∀ (u:Nat→Value) (W:World) (kk:Nat) (hkk:kk < 3) (g:Nat) (hg:W.rowIs g 3 3 (fun jj=>.int .i64 (([-1,((fs[i].data.size+1:Nat):Int),((fs[i].data.size:Nat):Int)]:List Int).getD jj 0))) (hgR:R < g) (hD:DR R W v b (q+1)) (hB:But R V W),wpS Try.prog sx14Ops.pop (QL Try.prog sx14Ops Q) (fun W=>But R V W) (unl 25 [21,22,23,24],frL u 244 [(0,pq R 0),(3,pq w.heap.size 0),(4,pq (w.heap.size+1) 0),(5,.int .i64 (i:Nat)),(54,pq w.heap.size 0),(55,.slice (some ⟨gF,0,none⟩) fs.length cF),(56,.int .i64 (i:Nat)),(57,pq w.heap.size 0),(58,.slice (some ⟨gF,0,none⟩) fs.length cF),(59,.int .i64 (i:Nat)),(60,pq gF (i * 3)),(61,pq gF (i * 3+1)),(62,.string fs[i].data),(63,.int .i64 (fs[i].data.size:Nat)),(64,.int .i64 ((fs[i].data.size+1:Nat):Int)),(65,pq w.heap.size 0),(66,.slice (some ⟨gF,0,none⟩) fs.length cF),(67,.int .i64 (i:Nat)),(68,pq gF (i * 3)),(69,pq gF (i * 3+1)),(70,.string fs[i].data),(71,.int .i64 (fs[i].data.size:Nat)),(72,.slice (some ⟨g,0,none⟩) 3 3),(73,pq R 0),(74,.int .i64 (kk:Nat))]) [] W:=by
  intro u W kk hkk g hg hgR hD hB
  have hBs:=hB.size
  have hVs:=hS.but.size
  have hz:=hg.cell (i:=kk) hkk
  have hzi:I64 (([-1,((fs[i].data.size+1:Nat):Int),((fs[i].data.size:Nat):Int)]:List Int).getD kk 0):=by
   rcases (show kk=0∨kk=1∨kk=2 by omega) with rfl | rfl | rfl
   · show I64 (-1);simp only [I64];omega
   · show I64 ((fs[i].data.size+1:Nat):Int);simp only [I64];omega
   · show I64 ((fs[i].data.size:Nat):Int);simp only [I64];omega
  generalize ([-1,((fs[i].data.size+1:Nat):Int),((fs[i].data.size:Nat):Int)]:List Int).getD kk 0=z at hz hzi
  refine T_yld hq 21 (some 75) (pq g kk) (by kernel_rfl) (by kernel_rfl) (fun w h=>ixRunZ (X:=.tmp 72) (I:=.tmp 74) (n:=3) (cap:=3) (i:=kk) (by kernel_rfl) (by kernel_rfl) (by kernel_rfl) hkk w) ?_
  refine T_fr 25 244 [22,23,24] [(0,pq R 0),(3,pq w.heap.size 0),(4,pq (w.heap.size+1) 0),(5,.int .i64 (i:Nat)),(54,pq w.heap.size 0),(55,.slice (some ⟨gF,0,none⟩) fs.length cF),(56,.int .i64 (i:Nat)),(57,pq w.heap.size 0),(58,.slice (some ⟨gF,0,none⟩) fs.length cF),(59,.int .i64 (i:Nat)),(60,pq gF (i * 3)),(61,pq gF (i * 3+1)),(62,.string fs[i].data),(63,.int .i64 (fs[i].data.size:Nat)),(64,.int .i64 ((fs[i].data.size+1:Nat):Int)),(65,pq w.heap.size 0),(66,.slice (some ⟨gF,0,none⟩) fs.length cF),(67,.int .i64 (i:Nat)),(68,pq gF (i * 3)),(69,pq gF (i * 3+1)),(70,.string fs[i].data),(71,.int .i64 (fs[i].data.size:Nat)),(72,.slice (some ⟨g,0,none⟩) 3 3),(73,pq R 0),(74,.int .i64 (kk:Nat)),(75,pq g kk)] (by kernel_rfl) fun u=>?_
  refine T_one 22 (by kernel_rfl) fun _=>O_val (w':=W) (some 76) (.int .i64 z) (by kernel_rfl) (ldOpR (X:=.tmp 75) (T:=3) (ad:=⟨g,kk,none⟩) (by kernel_rfl) (by kernel_rfl) (ldIntR _ _ _ hz)) hB ?_
  refine T_yld hq 23 (some 77) (pq gF (i * 3)) (by kernel_rfl) (by kernel_rfl) (fun w h=>ixRun0 (cap:=cF) (X:=.tmp 55) (I:=.tmp 56) (by kernel_rfl) (by kernel_rfl) (by kernel_rfl) hi w) ?_
  refine T_z hq [24] (by kernel_rfl) ?_
  obtain ⟨⟨u9,hu9⟩,hz9⟩:=(hS.draw hB hD).cellF rfl i 2 hi (by omega)
  have hfin:=(hS.draw hB hD).setF rfl i 2 (.int .i64 z) ⟨fs[i].name,fs[i].data,z⟩ hi (by omega) rfl ⟨by show fs[i].name.size≤_;omega,by show fs[i].data.size≤_;omega,hzi⟩
  exact T_end 244 [(0,pq R 0),(3,pq w.heap.size 0),(4,pq (w.heap.size+1) 0),(76,.int .i64 z),(78,pq gF (i * 3+2))] (by kernel_rfl) (by kernel_rfl) fun _ u=>last_store 3 (.tmp 78) (.tmp 76) ⟨gF,i * 3+2,none⟩ (.int .i64 z) _ (by kernel_rfl) (by kernel_rfl) (by kernel_rfl) (stInt W _ _ u9 hu9 hz9) (look_end (N:=244) (s:=[(0,pq R 0),(3,pq w.heap.size 0),(4,pq (w.heap.size+1) 0)]) (by kernel_rfl) fun u=>hend u _ _ _ hfin (by omega))
 have NP:∀ (u:Nat→Value) (W:World) (kk:Nat) (hkk:kk < 3) (hD:DR R W v b (q+1)) (hB:But R V W),wpS Try.prog sx14Ops.pop (QL Try.prog sx14Ops Q) (fun W=>But R V W) (unl 25 [18,21,22,23,24],frL u 244 [(0,pq R 0),(3,pq w.heap.size 0),(4,pq (w.heap.size+1) 0),(5,.int .i64 (i:Nat)),(54,pq w.heap.size 0),(55,.slice (some ⟨gF,0,none⟩) fs.length cF),(56,.int .i64 (i:Nat)),(57,pq w.heap.size 0),(58,.slice (some ⟨gF,0,none⟩) fs.length cF),(59,.int .i64 (i:Nat)),(60,pq gF (i * 3)),(61,pq gF (i * 3+1)),(62,.string fs[i].data),(63,.int .i64 (fs[i].data.size:Nat)),(64,.int .i64 ((fs[i].data.size+1:Nat):Int)),(65,pq w.heap.size 0),(66,.slice (some ⟨gF,0,none⟩) fs.length cF),(67,.int .i64 (i:Nat)),(68,pq gF (i * 3)),(69,pq gF (i * 3+1)),(70,.string fs[i].data),(71,.int .i64 (fs[i].data.size:Nat)),(73,pq R 0),(74,.int .i64 (kk:Nat))]) [] W:=by
  intro u W kk hkk hD hB
  have hBs:=hB.size
  refine T_one 18 (by kernel_rfl) fun _=>O_val (w':=W.alloc (.cells #[.int .i64 (-1),.int .i64 ((fs[i].data.size+1:Nat):Int),.int .i64 (fs[i].data.size:Nat)] 3)) (some 72) (.slice (some ⟨W.heap.size,0,none⟩) 3 3) (by kernel_rfl) (by kernel_rfl) ((hB.trans (But.alloc R W _))) ?_
  exact T_fr 25 244 [21,22,23,24] [(0,pq R 0),(3,pq w.heap.size 0),(4,pq (w.heap.size+1) 0),(5,.int .i64 (i:Nat)),(54,pq w.heap.size 0),(55,.slice (some ⟨gF,0,none⟩) fs.length cF),(56,.int .i64 (i:Nat)),(57,pq w.heap.size 0),(58,.slice (some ⟨gF,0,none⟩) fs.length cF),(59,.int .i64 (i:Nat)),(60,pq gF (i * 3)),(61,pq gF (i * 3+1)),(62,.string fs[i].data),(63,.int .i64 (fs[i].data.size:Nat)),(64,.int .i64 ((fs[i].data.size+1:Nat):Int)),(65,pq w.heap.size 0),(66,.slice (some ⟨gF,0,none⟩) fs.length cF),(67,.int .i64 (i:Nat)),(68,pq gF (i * 3)),(69,pq gF (i * 3+1)),(70,.string fs[i].data),(71,.int .i64 (fs[i].data.size:Nat)),(72,.slice (some ⟨W.heap.size,0,none⟩) 3 3),(73,pq R 0),(74,.int .i64 (kk:Nat))] (by kernel_rfl) fun u=>NF u _ kk hkk _ (R14 W) (by omega) (hD.on ((Below.refl _ _).alloc (Nat.le_refl _) _)) (hB.trans (But.alloc R W _))
 have NA:∀ (u:Nat→Value) (W:World) (g:Nat) (hg:W.rowIs g 3 3 (fun jj=>.int .i64 (([-1,((fs[i].data.size+1:Nat):Int),((fs[i].data.size:Nat):Int)]:List Int).getD jj 0))) (hgR:R < g) (hD:DR R W v b q) (hB:But R V W),wpS Try.prog sx14Ops.pop (QL Try.prog sx14Ops Q) (fun W=>But R V W) (unl 25 [20,21,22,23,24],frL u 244 [(0,pq R 0),(3,pq w.heap.size 0),(4,pq (w.heap.size+1) 0),(5,.int .i64 (i:Nat)),(54,pq w.heap.size 0),(55,.slice (some ⟨gF,0,none⟩) fs.length cF),(56,.int .i64 (i:Nat)),(57,pq w.heap.size 0),(58,.slice (some ⟨gF,0,none⟩) fs.length cF),(59,.int .i64 (i:Nat)),(60,pq gF (i * 3)),(61,pq gF (i * 3+1)),(62,.string fs[i].data),(63,.int .i64 (fs[i].data.size:Nat)),(64,.int .i64 ((fs[i].data.size+1:Nat):Int)),(65,pq w.heap.size 0),(66,.slice (some ⟨gF,0,none⟩) fs.length cF),(67,.int .i64 (i:Nat)),(68,pq gF (i * 3)),(69,pq gF (i * 3+1)),(70,.string fs[i].data),(71,.int .i64 (fs[i].data.size:Nat)),(72,.slice (some ⟨g,0,none⟩) 3 3),(73,pq R 0)]) [] W:=by
  intro u W g hg hgR hD hB
  refine T_one 20 (by kernel_rfl) fun _=>O_go (HPK W _ 3 hD (by omega) (by omega)) (by kernel_rfl) ?_
  rintro e w1 ⟨kk,rfl,hkk,HD,HB⟩
  refine ⟨_,rfl,(hB.trans HB.out),?_⟩
  exact T_fr 25 244 [21,22,23,24] [(0,pq R 0),(3,pq w.heap.size 0),(4,pq (w.heap.size+1) 0),(5,.int .i64 (i:Nat)),(54,pq w.heap.size 0),(55,.slice (some ⟨gF,0,none⟩) fs.length cF),(56,.int .i64 (i:Nat)),(57,pq w.heap.size 0),(58,.slice (some ⟨gF,0,none⟩) fs.length cF),(59,.int .i64 (i:Nat)),(60,pq gF (i * 3)),(61,pq gF (i * 3+1)),(62,.string fs[i].data),(63,.int .i64 (fs[i].data.size:Nat)),(64,.int .i64 ((fs[i].data.size+1:Nat):Int)),(65,pq w.heap.size 0),(66,.slice (some ⟨gF,0,none⟩) fs.length cF),(67,.int .i64 (i:Nat)),(68,pq gF (i * 3)),(69,pq gF (i * 3+1)),(70,.string fs[i].data),(71,.int .i64 (fs[i].data.size:Nat)),(72,.slice (some ⟨g,0,none⟩) 3 3),(73,pq R 0),(74,.int .i64 (kk:Nat))] (by kernel_rfl) fun u=>NF u w1 kk hkk g (hg.of_block (HB.out.at hg.lt (by omega))) hgR HD.out (hB.trans HB.out)
 have hVs:=hS.but.size
 refine T_two 18 20 (by kernel_rfl) (fun _=>?_) fun _=>?_
 · exact O_val (w':=V.alloc (.cells #[.int .i64 (-1),.int .i64 ((fs[i].data.size+1:Nat):Int),.int .i64 (fs[i].data.size:Nat)] 3)) (some 72) (.slice (some ⟨V.heap.size,0,none⟩) 3 3) (by kernel_rfl) (by kernel_rfl) ((But.alloc R V _)) (T_fr 25 244 [20,21,22,23,24] [(0,pq R 0),(3,pq w.heap.size 0),(4,pq (w.heap.size+1) 0),(5,.int .i64 (i:Nat)),(54,pq w.heap.size 0),(55,.slice (some ⟨gF,0,none⟩) fs.length cF),(56,.int .i64 (i:Nat)),(57,pq w.heap.size 0),(58,.slice (some ⟨gF,0,none⟩) fs.length cF),(59,.int .i64 (i:Nat)),(60,pq gF (i * 3)),(61,pq gF (i * 3+1)),(62,.string fs[i].data),(63,.int .i64 (fs[i].data.size:Nat)),(64,.int .i64 ((fs[i].data.size+1:Nat):Int)),(65,pq w.heap.size 0),(66,.slice (some ⟨gF,0,none⟩) fs.length cF),(67,.int .i64 (i:Nat)),(68,pq gF (i * 3)),(69,pq gF (i * 3+1)),(70,.string fs[i].data),(71,.int .i64 (fs[i].data.size:Nat)),(72,.slice (some ⟨V.heap.size,0,none⟩) 3 3),(73,pq R 0)] (by kernel_rfl) fun u=>NA u _ _ (R14 V) (by omega) (hS.dr.on ((Below.refl _ _).alloc (Nat.le_refl _) _)) (But.alloc R V _))
 · refine O_go (HPK V _ 3 hS.dr (by omega) (by omega)) (by kernel_rfl) ?_
   rintro e w1 ⟨kk,rfl,hkk,HD,HB⟩
   refine ⟨_,rfl,HB.out,?_⟩
   exact T_fr 25 244 [18,21,22,23,24] [(0,pq R 0),(3,pq w.heap.size 0),(4,pq (w.heap.size+1) 0),(5,.int .i64 (i:Nat)),(54,pq w.heap.size 0),(55,.slice (some ⟨gF,0,none⟩) fs.length cF),(56,.int .i64 (i:Nat)),(57,pq w.heap.size 0),(58,.slice (some ⟨gF,0,none⟩) fs.length cF),(59,.int .i64 (i:Nat)),(60,pq gF (i * 3)),(61,pq gF (i * 3+1)),(62,.string fs[i].data),(63,.int .i64 (fs[i].data.size:Nat)),(64,.int .i64 ((fs[i].data.size+1:Nat):Int)),(65,pq w.heap.size 0),(66,.slice (some ⟨gF,0,none⟩) fs.length cF),(67,.int .i64 (i:Nat)),(68,pq gF (i * 3)),(69,pq gF (i * 3+1)),(70,.string fs[i].data),(71,.int .i64 (fs[i].data.size:Nat)),(73,pq R 0),(74,.int .i64 (kk:Nat))] (by kernel_rfl) fun u=>NP u w1 kk hkk HD.out HB.out
theorem cell_3x (w:World) (x y z:Value) (t:TypeId):∀ j u,[x,y,z][j]? = some u→(w.alloc (.cells #[x,y,z] t)).cell? ((⟨w.heap.size,0,none⟩:Addr).add j)=some u:=by
 intro j u hj
 match j with
 | 0=>simp only [List.getElem?_cons_zero,Option.some.injEq] at hj;subst hj;rw [Addr.add_lit];simp [go_sem]
 | 1=>simp only [List.getElem?_cons_succ,List.getElem?_cons_zero,Option.some.injEq] at hj;subst hj;rw [Addr.add_lit];simp [go_sem]
 | 2=>simp only [List.getElem?_cons_succ,List.getElem?_cons_zero,Option.some.injEq] at hj;subst hj;rw [Addr.add_lit];simp [go_sem]
 | j+3=>simp at hj
noncomputable def sx10Ops:Array Oper:=fops Try.f50 10
theorem sx10_last:lastB sx10Ops=true:=by kernel_rfl
theorem sx10_neat:Region.noSelect sx10Ops.pop=true∧neat sx10Ops.pop=true:=⟨by kernel_rfl,by kernel_rfl⟩
def kp_sx10 (z:Nat→Value):List (Nat × Value):=[(0,z 0),(1,z 1),(2,z 2),(3,z 3),(4,z 4),(5,z 5),(6,z 6),(7,z 7),(10,z 10),(11,z 11),(12,z 12),(13,z 13),(14,z 14),(15,z 15),(16,z 16),(17,z 17),(18,z 18),(19,z 19),(20,z 20),(21,z 21),(22,z 22),(23,z 23),(24,z 24),(25,z 25),(26,z 26),(27,z 27),(28,z 28),(29,z 29),(30,z 30),(31,z 31),(32,z 32),(33,z 33),(43,z 43),(44,z 44),(45,z 45),(46,z 46),(47,z 47),(48,z 48),(49,z 49),(50,z 50),(51,z 51),(52,z 52),(53,z 53),(54,z 54),(55,z 55),(56,z 56),(57,z 57),(58,z 58),(59,z 59),(60,z 60),(61,z 61),(62,z 62),(63,z 63),(64,z 64),(65,z 65),(66,z 66),(67,z 67),(68,z 68),(69,z 69),(70,z 70),(71,z 71),(72,z 72),(73,z 73),(74,z 74),(75,z 75),(76,z 76),(77,z 77),(78,z 78),(79,z 79),(80,z 80),(81,z 81),(82,z 82),(83,z 83),(84,z 84),(85,z 85),(86,z 86),(87,z 87),(88,z 88),(89,z 89),(90,z 90),(91,z 91),(92,z 92),(93,z 93),(94,z 94),(95,z 95),(96,z 96),(97,z 97),(98,z 98),(99,z 99),(100,z 100),(101,z 101),(102,z 102),(103,z 103),(104,z 104),(105,z 105),(106,z 106),(107,z 107),(108,z 108),(109,z 109),(110,z 110),(111,z 111),(112,z 112),(113,z 113),(114,z 114),(115,z 115),(116,z 116),(117,z 117),(118,z 118),(119,z 119),(120,z 120),(121,z 121),(122,z 122),(123,z 123),(124,z 124),(125,z 125),(126,z 126),(127,z 127),(128,z 128),(129,z 129),(130,z 130),(131,z 131),(132,z 132),(133,z 133),(134,z 134),(135,z 135),(136,z 136),(137,z 137),(138,z 138),(139,z 139),(140,z 140),(141,z 141),(142,z 142),(143,z 143),(144,z 144),(145,z 145),(146,z 146),(147,z 147),(148,z 148),(149,z 149),(150,z 150),(151,z 151),(152,z 152),(153,z 153),(154,z 154),(155,z 155),(156,z 156),(157,z 157),(158,z 158),(159,z 159),(160,z 160),(161,z 161),(162,z 162),(163,z 163),(164,z 164),(165,z 165),(166,z 166),(167,z 167),(168,z 168),(169,z 169),(170,z 170),(171,z 171),(172,z 172),(173,z 173),(174,z 174),(175,z 175),(176,z 176),(177,z 177),(178,z 178),(179,z 179),(180,z 180),(181,z 181),(182,z 182),(183,z 183),(184,z 184),(185,z 185),(186,z 186),(187,z 187),(188,z 188),(189,z 189),(190,z 190),(191,z 191),(192,z 192),(193,z 193),(194,z 194),(195,z 195),(196,z 196),(197,z 197),(198,z 198),(199,z 199),(200,z 200),(201,z 201),(202,z 202),(203,z 203),(204,z 204),(205,z 205),(206,z 206),(207,z 207),(208,z 208),(209,z 209),(210,z 210),(211,z 211),(212,z 212),(213,z 213),(214,z 214),(215,z 215),(216,z 216),(217,z 217),(218,z 218),(219,z 219),(220,z 220),(221,z 221),(222,z 222),(223,z 223),(224,z 224),(225,z 225),(226,z 226),(227,z 227),(228,z 228),(229,z 229),(230,z 230),(231,z 231),(232,z 232),(233,z 233),(234,z 234),(235,z 235),(236,z 236),(237,z 237),(238,z 238),(239,z 239),(240,z 240),(241,z 241),(242,z 242),(243,z 243)]
theorem sx10z (z:Nat→Value) (LL:(Nat→Value)→List Value) (R B k q:Nat) (w:World) (v:Value) (b:List UInt8) (a0 a1:Option Addr) (c0 c1:Nat) (fs:List Df) (ns:List ByteArray) (d:ByteArray) (W0:World) {l:List Value} (Q:Exit→Act→World→Prop) (hQ:∀ c a d v w,Q (.panic c) (Act.put a d v) w→Q (.panic c) a w) (hS:SpS R w W0.drew B (B+1) v b q (.slice a0 fs.length c0) (.slice a1 ns.length c1) (.slice none 0 0) fs ns []) (hll:fs.length≤1000∧ns.length≤1000) (hd:d.size≤1000) (HD:∀ W,Calls Try.prog 71 #[.int .i64 (k:Nat)] W fun e w'=>e=.returned (.string d)∧Below W.heap.size W w')
 (hl:lookL (kp_sx10 z++[(8,.pointer (some ⟨B,0,none⟩)),(9,.int .i64 (k:Nat))]) l=(244,((kp_sx10 z++[(8,.pointer (some ⟨B,0,none⟩)),(9,.int .i64 (k:Nat))]):List (Nat × Value)).map (·.2)))
 (hfr:∀ (u:Nat→Value) ,frL u 244 (kp_sx10 z++[(8,.pointer (some ⟨B,0,none⟩)),(9,.int .i64 (k:Nat))])=LL u )
 (hend:∀ (u:Nat→Value)  (W:World),(∃ a0' c0',SpS R w W B (B+1) v b q (.slice a0' (fs.length+1) c0') (.slice a1 ns.length c1) (.slice none 0 0) (fs++[⟨⟨#[102]⟩++d,⟨#[]⟩,0⟩]) ns [])→Q .normal ⟨(LL u ).toArray,[]⟩ W):(Code.region 10 sx10Ops true).wp Try.prog Q ⟨l.toArray,[]⟩ W0:=by
 obtain ⟨v0,rfl⟩:=look_fr hl
 have hq:NtQ sx10Ops.pop (QL Try.prog sx10Ops Q):=nq_last sx10_neat hQ
 refine T_start_last (S:=fun W=>KO R ((.slice a0 fs.length c0):Value).ownBlock W0.drew W) (by kernel_rfl) sx10_last (KO.of_but (But.refl _ _)) ?_
 clear hl hQ
 generalize W0.drew=V at hS hend ⊢
 have hR:=hS.hR;have hb3:=hS.hL;have hlt:=hS.mx.row.lt;have hrow:=hS.mx.row;have hVs:=hS.but.size;have hs4:=hS.b4.lt
 have e0:=hrow.cell (i:=0) (by omega)
 simp only [row3] at e0
 have c0w:∀ W,KO R ((.slice a0 fs.length c0):Value).ownBlock V W→W.cell? ⟨B,0,none⟩=some (.slice a0 fs.length c0):=fun W h=>(h.cell hlt (by omega) (fun e=>own_apart hS.mx.o0 hrow (by decide) e.symm)).trans e0
 refine T_a hq [0,1,2] (fun w h=>.cons (ldFs _ _ _ (c0w w h)) (Lds.nil)) (by kernel_rfl) ?_
 refine T_fr 9 244 [3,4,5,6,7,8] (kp_sx10 z++[(8,.pointer (some ⟨B,0,none⟩)),(9,.int .i64 (k:Nat)),(34,.pointer (some ⟨B,0,none⟩)),(35,.slice a0 fs.length c0),(36,.int .i64 (k:Nat))]) (by kernel_rfl) fun u=>?_
 refine T_one 3 (by kernel_rfl) fun _=>O_go (HD V) (by kernel_rfl) ?_
 rintro e w1 ⟨rfl,hb1⟩
 have hS1:=hS.on hb1
 have HB1:=But.of_below (B:=R) hb1
 refine ⟨_,rfl,KO.of_but HB1,?_⟩
 have hdd:(⟨#[102]⟩++d).size=1+d.size:=ByteArray.size_append
 refine T_yld hq 4 (some 38) (.string (⟨#[102]⟩++d)) (by kernel_rfl) (by kernel_rfl) (fun w h=>addRun (T:=9) (X:=.const (.string ⟨#[102]⟩)) (Y:=.tmp 37) (p:=⟨#[102]⟩) (q:=d) (by kernel_rfl) (by kernel_rfl) (by kernel_rfl) (by show ¬ (9223372036854775807 < 1+d.size);omega) w) ?_
 refine T_z hq [5] (by kernel_rfl) ?_
 refine T_fr 9 244 [6,7,8] (kp_sx10 z++[(8,.pointer (some ⟨B,0,none⟩)),(9,.int .i64 (k:Nat)),(34,.pointer (some ⟨B,0,none⟩)),(35,.slice a0 fs.length c0),(36,.int .i64 (k:Nat)),(37,.string d),(38,.string (⟨#[102]⟩++d)),(39,.agg #[.string (⟨#[102]⟩++d),.string ⟨#[]⟩,.int .i64 0])]) (by kernel_rfl) fun u=>?_
 refine T_one 6 (by kernel_rfl) fun _=>O_val (w':=(w1.alloc (.cells #[.string (⟨#[102]⟩++d),.string ⟨#[]⟩,.int .i64 0] 44))) (some 40) (.slice (some ⟨w1.heap.size,0,none⟩) 1 1) (by kernel_rfl) (by kernel_rfl) (KO.of_but (HB1.trans (But.alloc R w1 _))) ?_
 refine T_fr 9 244 [7,8] (kp_sx10 z++[(8,.pointer (some ⟨B,0,none⟩)),(9,.int .i64 (k:Nat)),(34,.pointer (some ⟨B,0,none⟩)),(35,.slice a0 fs.length c0),(36,.int .i64 (k:Nat)),(37,.string d),(38,.string (⟨#[102]⟩++d)),(39,.agg #[.string (⟨#[102]⟩++d),.string ⟨#[]⟩,.int .i64 0]),(40,.slice (some ⟨w1.heap.size,0,none⟩) 1 1)]) (by kernel_rfl) fun u=>?_
 have hS3:=hS1.on ((Below.refl w1.heap.size w1).alloc (Nat.le_refl _) (.cells #[.string (⟨#[102]⟩++d),.string ⟨#[]⟩,.int .i64 0] 44))
 have hs5:=hS3.mx.row.lt
 obtain ⟨ii,j2,j3,j4,j5⟩:=infoFileD
 refine T_one 7 (by kernel_rfl) fun _=>O_list (some 41) (by kernel_rfl) ?_
 refine append_list9 (w1.alloc (.cells #[.string (⟨#[102]⟩++d),.string ⟨#[]⟩,.int .i64 0] 44)) (by kernel_rfl) (.tmp 35) (.tmp 40) 23 (by kernel_rfl) (B+1) 44 ii (.agg #[.string ByteArray.empty,.string ByteArray.empty,.int .i64 0]) 3 40 Try.underlying23 j2 j3 j4 j5 rfl (by decide) a0 fs.length c0 (fs.map Df.cs).flatten (by kernel_rfl) (xH hS3.mx.o0) (some ⟨w1.heap.size,0,none⟩) 1 1 [.string (⟨#[102]⟩++d),.string ⟨#[]⟩,.int .i64 0] (by kernel_rfl) rfl (fun _=>⟨_,rfl,cell_3x w1 _ _ _ _⟩) (fun u hu=>by
  simp only [List.mem_cons,List.not_mem_nil,or_false] at hu
  rcases hu with rfl | rfl | rfl <;> rfl) (by unfold maxLen;omega) (by omega) (by omega) (fs.length+1) rfl ?_
 intro ga gc W7 ho7 hg7 _
 refine ⟨(KO.of_but (HB1.trans (But.alloc R w1 _))).grown hg7.out,_,put_putL ..,?_⟩
 refine T_z hq [8] (by kernel_rfl) ?_
 have hL7:=hS3.box hg7.out (fun g e=>(own_ge hS3.mx.o0 e).1)
 have hfin:=hS3.newF (.slice ga (fs.length+1) gc) (fs++[⟨(⟨#[102]⟩++d),⟨#[]⟩,0⟩]) (by rw [List.length_append,List.map_append,List.flatten_append];exact ho7.out) hg7.out (fun x hx=>by
  rcases List.mem_append.1 hx with h' | h'
  · exact hS.fo x h'
  · rw [List.mem_singleton.1 h'];exact ⟨by show (⟨#[102]⟩++d).size≤_;omega,by show 0≤9223372036854775807;omega,by simp only [I64];omega⟩)
 exact T_end 244 (kp_sx10 z++[(8,.pointer (some ⟨B,0,none⟩)),(9,.int .i64 (k:Nat)),(41,.slice ga (fs.length+1) gc),(42,.pointer (some ⟨B,0,none⟩))]) (by kernel_rfl) (by kernel_rfl) fun _ u=>last_store 23 (.tmp 42) (.tmp 41) ⟨B,0,none⟩ (.slice ga (fs.length+1) gc) _ (by kernel_rfl) (by kernel_rfl) (by kernel_rfl) (stFs W7 _ _ _ _ _ (hL7.cell (i:=0) (by omega)) (hL7.frozen 0)) (look_end (N:=244) (s:=(kp_sx10 z++[(8,.pointer (some ⟨B,0,none⟩)),(9,.int .i64 (k:Nat))])) (by kernel_rfl) fun u=>by rw [hfr];exact hend u _ ⟨_,_,hfin⟩)
theorem sx10 (R B k q:Nat) (w:World) (v:Value) (b:List UInt8) (a0 a1:Option Addr) (c0 c1:Nat) (fs:List Df) (ns:List ByteArray) (d:ByteArray) (W0:World) {l:List Value} (Q:Exit→Act→World→Prop) (hQ:∀ c a d v w,Q (.panic c) (Act.put a d v) w→Q (.panic c) a w) (hS:SpS R w W0.drew B (B+1) v b q (.slice a0 fs.length c0) (.slice a1 ns.length c1) (.slice none 0 0) fs ns []) (hll:fs.length≤1000∧ns.length≤1000) (hd:d.size≤1000) (HD:∀ W,Calls Try.prog 71 #[.int .i64 (k:Nat)] W fun e w'=>e=.returned (.string d)∧Below W.heap.size W w')
 (hl:lookL (kp_sx10 (fun i=>l.getD i undef)++[(8,.pointer (some ⟨B,0,none⟩)),(9,.int .i64 (k:Nat))]) l=(244,((kp_sx10 (fun i=>l.getD i undef)++[(8,.pointer (some ⟨B,0,none⟩)),(9,.int .i64 (k:Nat))]):List (Nat × Value)).map (·.2)))
 (hfr:∀ (u:Nat→Value) ,frL u 244 (kp_sx10 (fun i=>l.getD i undef)++[(8,.pointer (some ⟨B,0,none⟩)),(9,.int .i64 (k:Nat))])=(l.take 34++(u 34::(u 35::(u 36::(u 37::(u 38::(u 39::(u 40::(u 41::(u 42::l.drop 43)))))))))))
 (hend:∀ (u:Nat→Value)  (W:World),(∃ a0' c0',SpS R w W B (B+1) v b q (.slice a0' (fs.length+1) c0') (.slice a1 ns.length c1) (.slice none 0 0) (fs++[⟨⟨#[102]⟩++d,⟨#[]⟩,0⟩]) ns [])→Q .normal ⟨((l.take 34++(u 34::(u 35::(u 36::(u 37::(u 38::(u 39::(u 40::(u 41::(u 42::l.drop 43))))))))))).toArray,[]⟩ W):(Code.region 10 sx10Ops true).wp Try.prog Q ⟨l.toArray,[]⟩ W0 :=
 sx10z (fun i=>l.getD i undef) (fun u =>(l.take 34++(u 34::(u 35::(u 36::(u 37::(u 38::(u 39::(u 40::(u 41::(u 42::l.drop 43))))))))))) R B k q w v b a0 a1 c0 c1 fs ns d W0 Q hQ hS hll hd HD hl hfr hend
noncomputable def sx11Ops:Array Oper:=fops Try.f50 11
theorem sx11_last:lastB sx11Ops=true:=by kernel_rfl
theorem sx11_neat:Region.noSelect sx11Ops.pop=true∧neat sx11Ops.pop=true:=⟨by kernel_rfl,by kernel_rfl⟩
def kp_sx11 (z:Nat→Value):List (Nat × Value):=[(0,z 0),(1,z 1),(2,z 2),(3,z 3),(4,z 4),(5,z 5),(6,z 6),(7,z 7),(10,z 10),(11,z 11),(12,z 12),(13,z 13),(14,z 14),(15,z 15),(16,z 16),(17,z 17),(18,z 18),(19,z 19),(20,z 20),(21,z 21),(22,z 22),(23,z 23),(24,z 24),(25,z 25),(26,z 26),(27,z 27),(28,z 28),(29,z 29),(30,z 30),(31,z 31),(32,z 32),(33,z 33),(34,z 34),(35,z 35),(36,z 36),(37,z 37),(38,z 38),(39,z 39),(40,z 40),(41,z 41),(42,z 42),(51,z 51),(52,z 52),(53,z 53),(54,z 54),(55,z 55),(56,z 56),(57,z 57),(58,z 58),(59,z 59),(60,z 60),(61,z 61),(62,z 62),(63,z 63),(64,z 64),(65,z 65),(66,z 66),(67,z 67),(68,z 68),(69,z 69),(70,z 70),(71,z 71),(72,z 72),(73,z 73),(74,z 74),(75,z 75),(76,z 76),(77,z 77),(78,z 78),(79,z 79),(80,z 80),(81,z 81),(82,z 82),(83,z 83),(84,z 84),(85,z 85),(86,z 86),(87,z 87),(88,z 88),(89,z 89),(90,z 90),(91,z 91),(92,z 92),(93,z 93),(94,z 94),(95,z 95),(96,z 96),(97,z 97),(98,z 98),(99,z 99),(100,z 100),(101,z 101),(102,z 102),(103,z 103),(104,z 104),(105,z 105),(106,z 106),(107,z 107),(108,z 108),(109,z 109),(110,z 110),(111,z 111),(112,z 112),(113,z 113),(114,z 114),(115,z 115),(116,z 116),(117,z 117),(118,z 118),(119,z 119),(120,z 120),(121,z 121),(122,z 122),(123,z 123),(124,z 124),(125,z 125),(126,z 126),(127,z 127),(128,z 128),(129,z 129),(130,z 130),(131,z 131),(132,z 132),(133,z 133),(134,z 134),(135,z 135),(136,z 136),(137,z 137),(138,z 138),(139,z 139),(140,z 140),(141,z 141),(142,z 142),(143,z 143),(144,z 144),(145,z 145),(146,z 146),(147,z 147),(148,z 148),(149,z 149),(150,z 150),(151,z 151),(152,z 152),(153,z 153),(154,z 154),(155,z 155),(156,z 156),(157,z 157),(158,z 158),(159,z 159),(160,z 160),(161,z 161),(162,z 162),(163,z 163),(164,z 164),(165,z 165),(166,z 166),(167,z 167),(168,z 168),(169,z 169),(170,z 170),(171,z 171),(172,z 172),(173,z 173),(174,z 174),(175,z 175),(176,z 176),(177,z 177),(178,z 178),(179,z 179),(180,z 180),(181,z 181),(182,z 182),(183,z 183),(184,z 184),(185,z 185),(186,z 186),(187,z 187),(188,z 188),(189,z 189),(190,z 190),(191,z 191),(192,z 192),(193,z 193),(194,z 194),(195,z 195),(196,z 196),(197,z 197),(198,z 198),(199,z 199),(200,z 200),(201,z 201),(202,z 202),(203,z 203),(204,z 204),(205,z 205),(206,z 206),(207,z 207),(208,z 208),(209,z 209),(210,z 210),(211,z 211),(212,z 212),(213,z 213),(214,z 214),(215,z 215),(216,z 216),(217,z 217),(218,z 218),(219,z 219),(220,z 220),(221,z 221),(222,z 222),(223,z 223),(224,z 224),(225,z 225),(226,z 226),(227,z 227),(228,z 228),(229,z 229),(230,z 230),(231,z 231),(232,z 232),(233,z 233),(234,z 234),(235,z 235),(236,z 236),(237,z 237),(238,z 238),(239,z 239),(240,z 240),(241,z 241),(242,z 242),(243,z 243)]
theorem sx11z (z:Nat→Value) (LL:(Nat→Value)→List Value) (R B k q:Nat) (w:World) (v:Value) (b:List UInt8) (a0 a1:Option Addr) (c0 c1:Nat) (fs:List Df) (ns:List ByteArray) (d:ByteArray) (W0:World) {l:List Value} (Q:Exit→Act→World→Prop) (hQ:∀ c a d v w,Q (.panic c) (Act.put a d v) w→Q (.panic c) a w) (hS:SpS R w W0.drew B (B+1) v b q (.slice a0 fs.length c0) (.slice a1 ns.length c1) (.slice none 0 0) fs ns []) (hll:fs.length≤1000∧ns.length≤1000) (hd:d.size≤1000) (HD:∀ W,Calls Try.prog 71 #[.int .i64 (k:Nat)] W fun e w'=>e=.returned (.string d)∧Below W.heap.size W w')
 (hl:lookL (kp_sx11 z++[(8,.pointer (some ⟨B,0,none⟩)),(9,.int .i64 (k:Nat))]) l=(244,((kp_sx11 z++[(8,.pointer (some ⟨B,0,none⟩)),(9,.int .i64 (k:Nat))]):List (Nat × Value)).map (·.2)))
 (hfr:∀ (u:Nat→Value) ,frL u 244 (kp_sx11 z++[(8,.pointer (some ⟨B,0,none⟩)),(9,.int .i64 (k:Nat))])=LL u )
 (hend:∀ (u:Nat→Value)  (W:World),(∃ a1' c1',SpS R w W B (B+1) v b q (.slice a0 fs.length c0) (.slice a1' (ns.length+1) c1') (.slice none 0 0) fs (ns++[⟨#[102]⟩++d]) [])→Q .normal ⟨(LL u ).toArray,[]⟩ W):(Code.region 11 sx11Ops true).wp Try.prog Q ⟨l.toArray,[]⟩ W0:=by
 obtain ⟨v0,rfl⟩:=look_fr hl
 have hq:NtQ sx11Ops.pop (QL Try.prog sx11Ops Q):=nq_last sx11_neat hQ
 refine T_start_last (S:=fun W=>KO R ((.slice a1 ns.length c1):Value).ownBlock W0.drew W) (by kernel_rfl) sx11_last (KO.of_but (But.refl _ _)) ?_
 clear hl hQ
 generalize W0.drew=V at hS hend ⊢
 have hR:=hS.hR;have hb3:=hS.hL;have hlt:=hS.mx.row.lt;have hrow:=hS.mx.row;have hVs:=hS.but.size;have hs4:=hS.b4.lt
 have e0:=hrow.cell (i:=1) (by omega)
 simp only [row3] at e0
 have c0w:∀ W,KO R ((.slice a1 ns.length c1):Value).ownBlock V W→W.cell? ⟨B,1,none⟩=some (.slice a1 ns.length c1):=fun W h=>(h.cell hlt (by omega) (fun e=>own_apart hS.mx.o1 hrow (by decide) e.symm)).trans e0
 refine T_a hq [0,1,2] (fun w h=>.cons (ldSs _ _ _ (c0w w h)) (Lds.nil)) (by kernel_rfl) ?_
 refine T_fr 8 244 [3,4,5,6,7] (kp_sx11 z++[(8,.pointer (some ⟨B,0,none⟩)),(9,.int .i64 (k:Nat)),(43,.pointer (some ⟨B,1,none⟩)),(44,.slice a1 ns.length c1),(45,.int .i64 (k:Nat))]) (by kernel_rfl) fun u=>?_
 refine T_one 3 (by kernel_rfl) fun _=>O_go (HD V) (by kernel_rfl) ?_
 rintro e w1 ⟨rfl,hb1⟩
 have hS1:=hS.on hb1
 have HB1:=But.of_below (B:=R) hb1
 refine ⟨_,rfl,KO.of_but HB1,?_⟩
 have hdd:(⟨#[102]⟩++d).size=1+d.size:=ByteArray.size_append
 refine T_yld hq 4 (some 47) (.string (⟨#[102]⟩++d)) (by kernel_rfl) (by kernel_rfl) (fun w h=>addRun (T:=9) (X:=.const (.string ⟨#[102]⟩)) (Y:=.tmp 46) (p:=⟨#[102]⟩) (q:=d) (by kernel_rfl) (by kernel_rfl) (by kernel_rfl) (by show ¬ (9223372036854775807 < 1+d.size);omega) w) ?_
 refine T_fr 8 244 [5,6,7] (kp_sx11 z++[(8,.pointer (some ⟨B,0,none⟩)),(9,.int .i64 (k:Nat)),(43,.pointer (some ⟨B,1,none⟩)),(44,.slice a1 ns.length c1),(45,.int .i64 (k:Nat)),(46,.string d),(47,.string (⟨#[102]⟩++d))]) (by kernel_rfl) fun u=>?_
 refine T_one 5 (by kernel_rfl) fun _=>O_val (w':=(w1.alloc (.cells #[.string (⟨#[102]⟩++d)] 9))) (some 48) (.slice (some ⟨w1.heap.size,0,none⟩) 1 1) (by kernel_rfl) (by kernel_rfl) (KO.of_but (HB1.trans (But.alloc R w1 _))) ?_
 refine T_fr 8 244 [6,7] (kp_sx11 z++[(8,.pointer (some ⟨B,0,none⟩)),(9,.int .i64 (k:Nat)),(43,.pointer (some ⟨B,1,none⟩)),(44,.slice a1 ns.length c1),(45,.int .i64 (k:Nat)),(46,.string d),(47,.string (⟨#[102]⟩++d)),(48,.slice (some ⟨w1.heap.size,0,none⟩) 1 1)]) (by kernel_rfl) fun u=>?_
 have hS3:=hS1.on ((Below.refl w1.heap.size w1).alloc (Nat.le_refl _) (.cells #[.string (⟨#[102]⟩++d)] 9))
 have hs5:=hS3.mx.row.lt
 obtain ⟨ii,j2,j3,j4,j5⟩:=infoStrD
 refine T_one 6 (by kernel_rfl) fun _=>O_list (some 49) (by kernel_rfl) ?_
 refine append_list9 (w1.alloc (.cells #[.string (⟨#[102]⟩++d)] 9)) (by kernel_rfl) (.tmp 44) (.tmp 48) 24 (by kernel_rfl) (B+1) 9 ii (.string ByteArray.empty) 1 16 Try.underlying24 j2 j3 j4 j5 rfl (by decide) a1 ns.length c1 (ns.map Value.string) (by kernel_rfl) (xH hS3.mx.o1) (some ⟨w1.heap.size,0,none⟩) 1 1 [.string (⟨#[102]⟩++d)] (by kernel_rfl) rfl (fun _=>⟨_,rfl,cell_one w1 _ _⟩) (fun u hu=>by rw [List.mem_singleton.1 hu];rfl) (by unfold maxLen;omega) (by omega) (by omega) (ns.length+1) rfl ?_
 intro ga gc W7 ho7 hg7 _
 refine ⟨(KO.of_but (HB1.trans (But.alloc R w1 _))).grown hg7.out,_,put_putL ..,?_⟩
 refine T_z hq [7] (by kernel_rfl) ?_
 have hL7:=hS3.box hg7.out (fun g e=>(own_ge hS3.mx.o1 e).1)
 have hfin:=hS3.newN (.slice ga (ns.length+1) gc) (ns++[(⟨#[102]⟩++d)]) (by rw [List.length_append,List.map_append];exact ho7.out) hg7.out (fun x hx=>by
  rcases List.mem_append.1 hx with h' | h'
  · exact hS.no x h'
  · rw [List.mem_singleton.1 h'];omega)
 exact T_end 244 (kp_sx11 z++[(8,.pointer (some ⟨B,0,none⟩)),(9,.int .i64 (k:Nat)),(49,.slice ga (ns.length+1) gc),(50,.pointer (some ⟨B,1,none⟩))]) (by kernel_rfl) (by kernel_rfl) fun _ u=>last_store 24 (.tmp 50) (.tmp 49) ⟨B,1,none⟩ (.slice ga (ns.length+1) gc) _ (by kernel_rfl) (by kernel_rfl) (by kernel_rfl) (stSs W7 _ _ _ _ _ (hL7.cell (i:=1) (by omega)) (hL7.frozen 1)) (look_end (N:=244) (s:=(kp_sx11 z++[(8,.pointer (some ⟨B,0,none⟩)),(9,.int .i64 (k:Nat))])) (by kernel_rfl) fun u=>by rw [hfr];exact hend u _ ⟨_,_,hfin⟩)
theorem sx11 (R B k q:Nat) (w:World) (v:Value) (b:List UInt8) (a0 a1:Option Addr) (c0 c1:Nat) (fs:List Df) (ns:List ByteArray) (d:ByteArray) (W0:World) {l:List Value} (Q:Exit→Act→World→Prop) (hQ:∀ c a d v w,Q (.panic c) (Act.put a d v) w→Q (.panic c) a w) (hS:SpS R w W0.drew B (B+1) v b q (.slice a0 fs.length c0) (.slice a1 ns.length c1) (.slice none 0 0) fs ns []) (hll:fs.length≤1000∧ns.length≤1000) (hd:d.size≤1000) (HD:∀ W,Calls Try.prog 71 #[.int .i64 (k:Nat)] W fun e w'=>e=.returned (.string d)∧Below W.heap.size W w')
 (hl:lookL (kp_sx11 (fun i=>l.getD i undef)++[(8,.pointer (some ⟨B,0,none⟩)),(9,.int .i64 (k:Nat))]) l=(244,((kp_sx11 (fun i=>l.getD i undef)++[(8,.pointer (some ⟨B,0,none⟩)),(9,.int .i64 (k:Nat))]):List (Nat × Value)).map (·.2)))
 (hfr:∀ (u:Nat→Value) ,frL u 244 (kp_sx11 (fun i=>l.getD i undef)++[(8,.pointer (some ⟨B,0,none⟩)),(9,.int .i64 (k:Nat))])=(l.take 43++(u 43::(u 44::(u 45::(u 46::(u 47::(u 48::(u 49::(u 50::l.drop 51))))))))))
 (hend:∀ (u:Nat→Value)  (W:World),(∃ a1' c1',SpS R w W B (B+1) v b q (.slice a0 fs.length c0) (.slice a1' (ns.length+1) c1') (.slice none 0 0) fs (ns++[⟨#[102]⟩++d]) [])→Q .normal ⟨((l.take 43++(u 43::(u 44::(u 45::(u 46::(u 47::(u 48::(u 49::(u 50::l.drop 51)))))))))).toArray,[]⟩ W):(Code.region 11 sx11Ops true).wp Try.prog Q ⟨l.toArray,[]⟩ W0 :=
 sx11z (fun i=>l.getD i undef) (fun u =>(l.take 43++(u 43::(u 44::(u 45::(u 46::(u 47::(u 48::(u 49::(u 50::l.drop 51)))))))))) R B k q w v b a0 a1 c0 c1 fs ns d W0 Q hQ hS hll hd HD hl hfr hend
end Go.Proofs.Yteikmbkljkkjiaa
