/- A part. -/
import Derived.Test.YteefjeddboefcaaGreatDoorPart06
namespace Go.Proofs.YteefjeddboefcaaGreatDoor
open Go Go.RowKit
set_option maxRecDepth 100000
set_option maxHeartbeats 3200000
theorem sizeTrv:(Tryz.prog.info? 29).map (·.size)=some 5:=by kernel_rfl
theorem there5v {w:World} {b:Nat} {T:TypeId} {n:Nat} {f:Nat→Value} (h:w.rowIs b T n f):w.there b 0 n:=fun j hj=>by
 rw [Nat.zero_add]
 exact ⟨by rw [h.cell hj];rfl,h.frozen j⟩
theorem ldTr5 (w:World) (b:Nat) (x:C5) (h:w.rowIs b 29 5 (row5 x.c0 x.c1 x.c2 x.c3 x.c4)):(Instr.loadAt 29 (.pointer (some ⟨b,0,none⟩))).run Tryz.prog w=.ok (.agg #[x.c0,x.c1,x.c2,x.c3,x.c4]) w:=by
 have hr:w.rangeAt b 0 [x.c0,x.c1,x.c2,x.c3,x.c4]:=fun j v hv=>by
  have hj:j < 5:=by
   rcases Nat.lt_or_ge j 5 with h1 | h1
   · exact h1
   · rw [List.getElem?_eq_none (by simpa using h1)] at hv;cases hv
  have hc:=h.cell (i:=j) hj
  rw [show (⟨b,0+j,none⟩:Addr)=⟨b,j,none⟩ by rw [Nat.zero_add],hc]
  rcases (show j=0∨j=1∨j=2∨j=3∨j=4 by omega) with rfl | rfl | rfl | rfl | rfl <;> simpa [row5] using hv
 unfold Instr.loadAt
 simp only [Instr.sureAddr,Sem.run_bind,Sem.run_pure,Result.andThen_ok,run_loadVar_mid w b 0 29 [x.c0,x.c1,x.c2,x.c3,x.c4] _ hr Tryz.underlying29 rfl sizeTrv]
theorem set5v {W:World} {b:Nat} {T:TypeId} {f:Nat→Value} (h:W.rowIs b T 5 f) (v0 v1 v2 v3 v4:Value):But b W (W.setCells b 0 [v0,v1,v2,v3,v4])∧(W.setCells b 0 [v0,v1,v2,v3,v4]).rowIs b T 5 (row5 v0 v1 v2 v3 v4):=by
 show But b W (((((W.setCell ⟨b,0,none⟩ v0).setCell ⟨b,1,none⟩ v1).setCell ⟨b,2,none⟩ v2).setCell ⟨b,3,none⟩ v3).setCell ⟨b,4,none⟩ v4)∧(((((W.setCell ⟨b,0,none⟩ v0).setCell ⟨b,1,none⟩ v1).setCell ⟨b,2,none⟩ v2).setCell ⟨b,3,none⟩ v3).setCell ⟨b,4,none⟩ v4).rowIs b T 5 (row5 v0 v1 v2 v3 v4)
 exact ⟨((((But.set W 0 v0).trans (But.set _ 1 v1)).trans (But.set _ 2 v2)).trans (But.set _ 3 v3)).trans (But.set _ 4 v4),(((((h.set 0 v0).set 1 v1).set 2 v2).set 3 v3).set 4 v4).congr (fun i hi=>by rcases (show i=0∨i=1∨i=2∨i=3∨i=4 by omega) with rfl | rfl | rfl | rfl | rfl <;> rfl)⟩

def pt3 (W:World) (X Y Z:Nat) (a0 a1 a2 b0 b1 b2 c0 c1 c2 c3 c4:Value):World:=((W.setCells X 0 [a0,a1,a2]).setCells Y 0 [b0,b1,b2]).setCells Z 0 [c0,c1,c2,c3,c4]
theorem pt3_facts {W:World} {X Y Z:Nat} {f g h:Nat→Value} (hX:W.rowIs X 26 3 f) (hY:W.rowIs Y 26 3 g) (hZ:W.rowIs Z 29 5 h) (n1:X≠Y) (n2:X≠Z) (n3:Y≠Z) (a0 a1 a2 b0 b1 b2 c0 c1 c2 c3 c4:Value) :
 (pt3 W X Y Z a0 a1 a2 b0 b1 b2 c0 c1 c2 c3 c4).rowIs X 26 3 (row3 a0 a1 a2)∧(pt3 W X Y Z a0 a1 a2 b0 b1 b2 c0 c1 c2 c3 c4).rowIs Y 26 3 (row3 b0 b1 b2)∧(pt3 W X Y Z a0 a1 a2 b0 b1 b2 c0 c1 c2 c3 c4).rowIs Z 29 5 (row5 c0 c1 c2 c3 c4) ∧
 (∀ i,i < W.heap.size→i≠X→i≠Y→i≠Z→(pt3 W X Y Z a0 a1 a2 b0 b1 b2 c0 c1 c2 c3 c4).heap[i]? = W.heap[i]?)∧W.heap.size≤(pt3 W X Y Z a0 a1 a2 b0 b1 b2 c0 c1 c2 c3 c4).heap.size∧(pt3 W X Y Z a0 a1 a2 b0 b1 b2 c0 c1 c2 c3 c4).os=W.os∧(pt3 W X Y Z a0 a1 a2 b0 b1 b2 c0 c1 c2 c3 c4).tape=W.tape∧(pt3 W X Y Z a0 a1 a2 b0 b1 b2 c0 c1 c2 c3 c4).output=W.output:=by
 obtain ⟨k1,k2⟩:=set3f W X a0 a1 a2
 obtain ⟨k3,k4⟩:=set3f (W.setCells X 0 [a0,a1,a2]) Y b0 b1 b2
 have hZ2:=(hZ.of_block (k1.at hZ.lt (Ne.symm n2))).of_block (k3.at (Nat.lt_of_lt_of_le hZ.lt k1.size) (Ne.symm n3))
 obtain ⟨k5,k6⟩:=set5v hZ2 c0 c1 c2 c3 c4
 have s1:=k1.size;have s3:=k3.size;have s5:=k5.size
 unfold pt3
 refine ⟨((k2 _ _ hX).of_block (k3.at (Nat.lt_of_lt_of_le hX.lt s1) n1)).of_block (k5.at (Nat.lt_of_lt_of_le hX.lt (Nat.le_trans s1 s3)) n2),(k4 _ _ (hY.of_block (k1.at hY.lt (Ne.symm n1)))).of_block (k5.at (Nat.lt_of_lt_of_le hY.lt (Nat.le_trans s1 s3)) n3),k6,fun i hi h1 h2 h3=>?_,Nat.le_trans s1 (Nat.le_trans s3 s5),k5.os.trans (k3.os.trans k1.os),k5.tape.trans (k3.tape.trans k1.tape),k5.output.trans (k3.output.trans k1.output)⟩
 exact (k5.at (Nat.lt_of_lt_of_le hi (Nat.le_trans s1 s3)) h3).trans ((k3.at (Nat.lt_of_lt_of_le hi s1) h2).trans (k1.at hi h1))
theorem ldKd3 (w:World) (b:Nat) (c:C3) (h:w.rowIs b 26 3 (row3 c.c0 c.c1 c.c2)):(Instr.loadAt 26 (.pointer (some ⟨b,0,none⟩))).run Tryz.prog w=.ok (.agg #[c.c0,c.c1,c.c2]) w:=ldKd w b _ _ _ h
theorem lt_of_blk {W V:World} {A:Nat} {T:TypeId} {n:Nat} {f:Nat→Value} (h:W.heap[A]? = V.heap[A]?) (hA:V.rowIs A T n f):A < W.heap.size:=by
 have h1:=hA.lt
 rw [Array.getElem?_eq_getElem h1] at h
 exact (Array.getElem?_eq_some_iff.1 h).1
noncomputable def dw6Ops:Array Oper:=fops Tryz.f5 6
theorem dw6_neat:Region.noSelect dw6Ops=true∧neat dw6Ops=true:=⟨by kernel_rfl,by kernel_rfl⟩
theorem dw6 (X Y Z R A B C:Nat) (c d:C3) (x:C5) (W0:World) {l:List Value} (Q:Exit→Act→World→Prop) (hQ:∀ c a d v w,Q (.panic c) (Act.put a d v) w→Q (.panic c) a w) (hA:W0.drew.rowIs A 26 3 (row3 c.c0 c.c1 c.c2)) (hB:W0.drew.rowIs B 26 3 (row3 d.c0 d.c1 d.c2)) (hC:W0.drew.rowIs C 29 5 (row5 x.c0 x.c1 x.c2 x.c3 x.c4)) (o1:(#[c.c0,c.c1,c.c2]:Array Value).all (·.oneCell')=true) (o2:(#[d.c0,d.c1,d.c2]:Array Value).all (·.oneCell')=true) (n1:X≠Y) (n2:X≠Z) (n3:Y≠Z) (m1:X≠A∧X≠B∧X≠C) (m2:Y≠A∧Y≠B∧Y≠C) (m3:Z≠A∧Z≠B∧Z≠C) (G:Value→Value→Value→Value→Value→World→Prop) (HG:∀ y0 y1 y2 y3 y4 WW,G y0 y1 y2 y3 y4 WW→(WW.rowIs X 26 3 (row3 (.int .i64 0) (.slice none 0 0) (.slice none 0 0))∧WW.rowIs Y 26 3 (row3 (.int .i64 0) (.slice none 0 0) (.slice none 0 0))∧WW.rowIs Z 29 5 (row5 (.int .i64 0) (.int .i64 0) (.string ⟨#[]⟩) (.slice none 0 0) (.slice none 0 0)))∧(#[y0,y1,y2,y3,y4]:Array Value).all (·.oneCell')=true∧WW.heap[A]? = W0.drew.heap[A]? ∧ WW.heap[B]? = W0.drew.heap[B]? ∧ WW.heap[C]? = W0.drew.heap[C]?) (HK:Calls Tryz.prog 20 #[.pointer (some ⟨R,0,none⟩),.agg #[x.c0,x.c1,x.c2,x.c3,x.c4]] W0.drew fun e w'=>∃ y0 y1 y2 y3 y4,e=.returned (.agg #[y0,y1,y2,y3,y4])∧G y0 y1 y2 y3 y4 w') (hl:lookL [(2,.pointer (some ⟨X,0,none⟩)),(3,.pointer (some ⟨Y,0,none⟩)),(4,.pointer (some ⟨Z,0,none⟩)),(5,.pointer (some ⟨R,0,none⟩)),(6,.pointer (some ⟨A,0,none⟩)),(7,.pointer (some ⟨B,0,none⟩)),(8,.pointer (some ⟨C,0,none⟩))] l=(67,([(2,.pointer (some ⟨X,0,none⟩)),(3,.pointer (some ⟨Y,0,none⟩)),(4,.pointer (some ⟨Z,0,none⟩)),(5,.pointer (some ⟨R,0,none⟩)),(6,.pointer (some ⟨A,0,none⟩)),(7,.pointer (some ⟨B,0,none⟩)),(8,.pointer (some ⟨C,0,none⟩))]:List (Nat × Value)).map (·.2)))
 (hend:∀ (u:Nat→Value) (y0 y1 y2 y3 y4:Value) (w':World),G y0 y1 y2 y3 y4 w'→Q .normal ⟨(frL u 67 [(2,.pointer (some ⟨X,0,none⟩)),(3,.pointer (some ⟨Y,0,none⟩)),(4,.pointer (some ⟨Z,0,none⟩)),(5,.pointer (some ⟨R,0,none⟩)),(6,.pointer (some ⟨A,0,none⟩)),(7,.pointer (some ⟨B,0,none⟩)),(8,.pointer (some ⟨C,0,none⟩))]).toArray,[]⟩ (pt3 w' X Y Z c.c0 c.c1 c.c2 d.c0 d.c1 d.c2 y0 y1 y2 y3 y4)):(Code.region 6 dw6Ops true).wp Tryz.prog Q ⟨l.toArray,[]⟩ W0:=by
 obtain ⟨v0,rfl⟩:=look_fr hl
 have hq:NtQ dw6Ops Q:=⟨dw6_neat,hQ⟩
 refine T_start (S:=fun W=>W.heap[A]? = W0.drew.heap[A]? ∧ W.heap[B]? = W0.drew.heap[B]? ∧ W.heap[C]? = W0.drew.heap[C]?) (by kernel_rfl) ⟨rfl,rfl,rfl⟩ ?_
 clear hl hQ
 generalize W0.drew=V at hA hB hC HG HK hend ⊢
 have E:∀ (u:Nat→Value) (y0 y1 y2 y3 y4:Value) (W:World) (hS:(fun W=>W.heap[A]? = V.heap[A]? ∧ W.heap[B]? = V.heap[B]? ∧ W.heap[C]? = V.heap[C]?) W) (hZR:W.rowIs X 26 3 (row3 (.int .i64 0) (.slice none 0 0) (.slice none 0 0))∧W.rowIs Y 26 3 (row3 (.int .i64 0) (.slice none 0 0) (.slice none 0 0))∧W.rowIs Z 29 5 (row5 (.int .i64 0) (.int .i64 0) (.string ⟨#[]⟩) (.slice none 0 0) (.slice none 0 0))) (oy:(#[y0,y1,y2,y3,y4]:Array Value).all (·.oneCell')=true) (hf:∀ u,Q .normal ⟨(frL u 67 [(2,.pointer (some ⟨X,0,none⟩)),(3,.pointer (some ⟨Y,0,none⟩)),(4,.pointer (some ⟨Z,0,none⟩)),(5,.pointer (some ⟨R,0,none⟩)),(6,.pointer (some ⟨A,0,none⟩)),(7,.pointer (some ⟨B,0,none⟩)),(8,.pointer (some ⟨C,0,none⟩))]).toArray,[]⟩ (pt3 W X Y Z c.c0 c.c1 c.c2 d.c0 d.c1 d.c2 y0 y1 y2 y3 y4)),wpS Tryz.prog dw6Ops Q (fun W=>W.heap[A]? = V.heap[A]? ∧ W.heap[B]? = V.heap[B]? ∧ W.heap[C]? = V.heap[C]?) (unl 8 [5,6,7],frL u 67 [(2,.pointer (some ⟨X,0,none⟩)),(3,.pointer (some ⟨Y,0,none⟩)),(4,.pointer (some ⟨Z,0,none⟩)),(5,.pointer (some ⟨R,0,none⟩)),(6,.pointer (some ⟨A,0,none⟩)),(7,.pointer (some ⟨B,0,none⟩)),(8,.pointer (some ⟨C,0,none⟩)),(26,.agg #[c.c0,c.c1,c.c2]),(27,.agg #[d.c0,d.c1,d.c2]),(29,.agg #[x.c0,x.c1,x.c2,x.c3,x.c4]),(30,.agg #[y0,y1,y2,y3,y4])]) [] W:=by
  intro u y0 y1 y2 y3 y4 W hS hZR oy hf
  obtain ⟨hX',hY',hZ'⟩:=hZR
  have kk0:=(set3f W X c.c0 c.c1 c.c2).1
  have hS0:(fun W=>W.heap[A]? = V.heap[A]? ∧ W.heap[B]? = V.heap[B]? ∧ W.heap[C]? = V.heap[C]?) (W.setCells X 0 [c.c0,c.c1,c.c2]):=⟨(kk0.at (lt_of_blk hS.1 hA) m1.1.symm).trans hS.1,(kk0.at (lt_of_blk hS.2.1 hB) m1.2.1.symm).trans hS.2.1,(kk0.at (lt_of_blk hS.2.2 hC) m1.2.2.symm).trans hS.2.2⟩
  refine T_one 5 (by kernel_rfl) fun _=>O_store_mid none 26 (.tmp 2) (.tmp 26) X 0 #[c.c0,c.c1,c.c2] (by kernel_rfl) (by kernel_rfl) (by kernel_rfl) (there3f hX') sizeKd o1 hS0 ?_
  replace hY':=hY'.of_block (kk0.at hY'.lt n1.symm)
  replace hZ':=hZ'.of_block (kk0.at hZ'.lt n2.symm)
  have kk1:=(set3f (W.setCells X 0 [c.c0,c.c1,c.c2]) Y d.c0 d.c1 d.c2).1
  have hS1:(fun W=>W.heap[A]? = V.heap[A]? ∧ W.heap[B]? = V.heap[B]? ∧ W.heap[C]? = V.heap[C]?) ((W.setCells X 0 [c.c0,c.c1,c.c2]).setCells Y 0 [d.c0,d.c1,d.c2]):=⟨(kk1.at (lt_of_blk hS0.1 hA) m2.1.symm).trans hS0.1,(kk1.at (lt_of_blk hS0.2.1 hB) m2.2.1.symm).trans hS0.2.1,(kk1.at (lt_of_blk hS0.2.2 hC) m2.2.2.symm).trans hS0.2.2⟩
  refine T_one 6 (by kernel_rfl) fun _=>O_store_mid none 26 (.tmp 3) (.tmp 27) Y 0 #[d.c0,d.c1,d.c2] (by kernel_rfl) (by kernel_rfl) (by kernel_rfl) (there3f hY') sizeKd o2 hS1 ?_
  replace hZ':=hZ'.of_block (kk1.at hZ'.lt n3.symm)
  have kk2:=(set5v hZ' y0 y1 y2 y3 y4).1
  have hS2:(fun W=>W.heap[A]? = V.heap[A]? ∧ W.heap[B]? = V.heap[B]? ∧ W.heap[C]? = V.heap[C]?) (((W.setCells X 0 [c.c0,c.c1,c.c2]).setCells Y 0 [d.c0,d.c1,d.c2]).setCells Z 0 [y0,y1,y2,y3,y4]):=⟨(kk2.at (lt_of_blk hS1.1 hA) m3.1.symm).trans hS1.1,(kk2.at (lt_of_blk hS1.2.1 hB) m3.2.1.symm).trans hS1.2.1,(kk2.at (lt_of_blk hS1.2.2 hC) m3.2.2.symm).trans hS1.2.2⟩
  refine T_one 7 (by kernel_rfl) fun _=>O_store_mid none 29 (.tmp 4) (.tmp 30) Z 0 #[y0,y1,y2,y3,y4] (by kernel_rfl) (by kernel_rfl) (by kernel_rfl) (there5v hZ') sizeTrv oy hS2 ?_
  exact T_end 67 [(2,.pointer (some ⟨X,0,none⟩)),(3,.pointer (some ⟨Y,0,none⟩)),(4,.pointer (some ⟨Z,0,none⟩)),(5,.pointer (some ⟨R,0,none⟩)),(6,.pointer (some ⟨A,0,none⟩)),(7,.pointer (some ⟨B,0,none⟩)),(8,.pointer (some ⟨C,0,none⟩))] (by kernel_rfl) (by kernel_rfl) fun _ u=>hf u
 refine T_z hq [2] (by kernel_rfl) ?_
 refine T_a hq [0,1,3] (fun w' h=>.cons (ldKd3 _ _ c (hA.of_block h.1)) (.cons (ldKd3 _ _ d (hB.of_block h.2.1)) (.cons (ldTr5 _ _ x (hC.of_block h.2.2)) (Lds.nil)))) (by kernel_rfl) ?_
 refine T_fr 8 67 [4,5,6,7] [(2,.pointer (some ⟨X,0,none⟩)),(3,.pointer (some ⟨Y,0,none⟩)),(4,.pointer (some ⟨Z,0,none⟩)),(5,.pointer (some ⟨R,0,none⟩)),(6,.pointer (some ⟨A,0,none⟩)),(7,.pointer (some ⟨B,0,none⟩)),(8,.pointer (some ⟨C,0,none⟩)),(26,.agg #[c.c0,c.c1,c.c2]),(27,.agg #[d.c0,d.c1,d.c2]),(28,.pointer (some ⟨R,0,none⟩)),(29,.agg #[x.c0,x.c1,x.c2,x.c3,x.c4])] (by kernel_rfl) fun u=>T_one 4 (by kernel_rfl) fun _=>?_
 refine O_go HK (by kernel_rfl) ?_
 rintro e w1 ⟨y0,y1,y2,y3,y4,rfl,hG⟩
 obtain ⟨hz,oy,hs1,hs2,hs3⟩:=HG _ _ _ _ _ _ hG
 exact ⟨_,rfl,⟨hs1,hs2,hs3⟩,T_fr 8 67 [5,6,7] [(2,.pointer (some ⟨X,0,none⟩)),(3,.pointer (some ⟨Y,0,none⟩)),(4,.pointer (some ⟨Z,0,none⟩)),(5,.pointer (some ⟨R,0,none⟩)),(6,.pointer (some ⟨A,0,none⟩)),(7,.pointer (some ⟨B,0,none⟩)),(8,.pointer (some ⟨C,0,none⟩)),(26,.agg #[c.c0,c.c1,c.c2]),(27,.agg #[d.c0,d.c1,d.c2]),(29,.agg #[x.c0,x.c1,x.c2,x.c3,x.c4]),(30,.agg #[y0,y1,y2,y3,y4])] (by kernel_rfl) fun u=>E u y0 y1 y2 y3 y4 w1 ⟨hs1,hs2,hs3⟩ hz oy (fun u=>hend u y0 y1 y2 y3 y4 w1 hG)⟩
noncomputable def dw8Ops:Array Oper:=fops Tryz.f5 8
theorem dw8_neat:Region.noSelect dw8Ops=true∧neat dw8Ops=true:=⟨by kernel_rfl,by kernel_rfl⟩
theorem dw8 (X Y Z R A B C:Nat) (c d:C3) (x:C5) (W0:World) {l:List Value} (Q:Exit→Act→World→Prop) (hQ:∀ c a d v w,Q (.panic c) (Act.put a d v) w→Q (.panic c) a w) (hA:W0.drew.rowIs A 26 3 (row3 c.c0 c.c1 c.c2)) (hB:W0.drew.rowIs B 26 3 (row3 d.c0 d.c1 d.c2)) (hC:W0.drew.rowIs C 29 5 (row5 x.c0 x.c1 x.c2 x.c3 x.c4)) (o1:(#[c.c0,c.c1,c.c2]:Array Value).all (·.oneCell')=true) (o2:(#[d.c0,d.c1,d.c2]:Array Value).all (·.oneCell')=true) (o3:(#[x.c0,x.c1,x.c2,x.c3,x.c4]:Array Value).all (·.oneCell')=true) (n1:X≠Y) (n2:X≠Z) (n3:Y≠Z) (m1:X≠A∧X≠B∧X≠C) (m2:Y≠A∧Y≠B∧Y≠C) (m3:Z≠A∧Z≠B∧Z≠C) (hX:W0.drew.rowIs X 26 3 (row3 (.int .i64 0) (.slice none 0 0) (.slice none 0 0))) (hY:W0.drew.rowIs Y 26 3 (row3 (.int .i64 0) (.slice none 0 0) (.slice none 0 0))) (hZ:W0.drew.rowIs Z 29 5 (row5 (.int .i64 0) (.int .i64 0) (.string ⟨#[]⟩) (.slice none 0 0) (.slice none 0 0))) (hl:lookL [(2,.pointer (some ⟨X,0,none⟩)),(3,.pointer (some ⟨Y,0,none⟩)),(4,.pointer (some ⟨Z,0,none⟩)),(5,.pointer (some ⟨R,0,none⟩)),(6,.pointer (some ⟨A,0,none⟩)),(7,.pointer (some ⟨B,0,none⟩)),(8,.pointer (some ⟨C,0,none⟩))] l=(67,([(2,.pointer (some ⟨X,0,none⟩)),(3,.pointer (some ⟨Y,0,none⟩)),(4,.pointer (some ⟨Z,0,none⟩)),(5,.pointer (some ⟨R,0,none⟩)),(6,.pointer (some ⟨A,0,none⟩)),(7,.pointer (some ⟨B,0,none⟩)),(8,.pointer (some ⟨C,0,none⟩))]:List (Nat × Value)).map (·.2)))
 (hend:∀ (u:Nat→Value),Q .normal ⟨(frL u 67 [(2,.pointer (some ⟨X,0,none⟩)),(3,.pointer (some ⟨Y,0,none⟩)),(4,.pointer (some ⟨Z,0,none⟩)),(5,.pointer (some ⟨R,0,none⟩)),(6,.pointer (some ⟨A,0,none⟩)),(7,.pointer (some ⟨B,0,none⟩)),(8,.pointer (some ⟨C,0,none⟩))]).toArray,[]⟩ (pt3 W0.drew X Y Z d.c0 d.c1 d.c2 c.c0 c.c1 c.c2 x.c0 x.c1 x.c2 x.c3 x.c4)):(Code.region 8 dw8Ops true).wp Tryz.prog Q ⟨l.toArray,[]⟩ W0:=by
 obtain ⟨v0,rfl⟩:=look_fr hl
 have hq:NtQ dw8Ops Q:=⟨dw8_neat,hQ⟩
 refine T_start (S:=fun W=>W.heap[A]? = W0.drew.heap[A]? ∧ W.heap[B]? = W0.drew.heap[B]? ∧ W.heap[C]? = W0.drew.heap[C]?) (by kernel_rfl) ⟨rfl,rfl,rfl⟩ ?_
 clear hl hQ
 generalize W0.drew=V at hA hB hC hX hY hZ hend ⊢
 have E:∀ (u:Nat→Value) (W:World) (hS:(fun W=>W.heap[A]? = V.heap[A]? ∧ W.heap[B]? = V.heap[B]? ∧ W.heap[C]? = V.heap[C]?) W) (hZR:W.rowIs X 26 3 (row3 (.int .i64 0) (.slice none 0 0) (.slice none 0 0))∧W.rowIs Y 26 3 (row3 (.int .i64 0) (.slice none 0 0) (.slice none 0 0))∧W.rowIs Z 29 5 (row5 (.int .i64 0) (.int .i64 0) (.string ⟨#[]⟩) (.slice none 0 0) (.slice none 0 0))) (hf:∀ u,Q .normal ⟨(frL u 67 [(2,.pointer (some ⟨X,0,none⟩)),(3,.pointer (some ⟨Y,0,none⟩)),(4,.pointer (some ⟨Z,0,none⟩)),(5,.pointer (some ⟨R,0,none⟩)),(6,.pointer (some ⟨A,0,none⟩)),(7,.pointer (some ⟨B,0,none⟩)),(8,.pointer (some ⟨C,0,none⟩))]).toArray,[]⟩ (pt3 W X Y Z d.c0 d.c1 d.c2 c.c0 c.c1 c.c2 x.c0 x.c1 x.c2 x.c3 x.c4)),wpS Tryz.prog dw8Ops Q (fun W=>W.heap[A]? = V.heap[A]? ∧ W.heap[B]? = V.heap[B]? ∧ W.heap[C]? = V.heap[C]?) (unl 6 [3,4,5],frL u 67 [(2,.pointer (some ⟨X,0,none⟩)),(3,.pointer (some ⟨Y,0,none⟩)),(4,.pointer (some ⟨Z,0,none⟩)),(5,.pointer (some ⟨R,0,none⟩)),(6,.pointer (some ⟨A,0,none⟩)),(7,.pointer (some ⟨B,0,none⟩)),(8,.pointer (some ⟨C,0,none⟩)),(33,.agg #[d.c0,d.c1,d.c2]),(34,.agg #[c.c0,c.c1,c.c2]),(35,.agg #[x.c0,x.c1,x.c2,x.c3,x.c4])]) [] W:=by
  intro u  W hS hZR hf
  obtain ⟨hX',hY',hZ'⟩:=hZR
  have kk0:=(set3f W X d.c0 d.c1 d.c2).1
  have hS0:(fun W=>W.heap[A]? = V.heap[A]? ∧ W.heap[B]? = V.heap[B]? ∧ W.heap[C]? = V.heap[C]?) (W.setCells X 0 [d.c0,d.c1,d.c2]):=⟨(kk0.at (lt_of_blk hS.1 hA) m1.1.symm).trans hS.1,(kk0.at (lt_of_blk hS.2.1 hB) m1.2.1.symm).trans hS.2.1,(kk0.at (lt_of_blk hS.2.2 hC) m1.2.2.symm).trans hS.2.2⟩
  refine T_one 3 (by kernel_rfl) fun _=>O_store_mid none 26 (.tmp 2) (.tmp 33) X 0 #[d.c0,d.c1,d.c2] (by kernel_rfl) (by kernel_rfl) (by kernel_rfl) (there3f hX') sizeKd o2 hS0 ?_
  replace hY':=hY'.of_block (kk0.at hY'.lt n1.symm)
  replace hZ':=hZ'.of_block (kk0.at hZ'.lt n2.symm)
  have kk1:=(set3f (W.setCells X 0 [d.c0,d.c1,d.c2]) Y c.c0 c.c1 c.c2).1
  have hS1:(fun W=>W.heap[A]? = V.heap[A]? ∧ W.heap[B]? = V.heap[B]? ∧ W.heap[C]? = V.heap[C]?) ((W.setCells X 0 [d.c0,d.c1,d.c2]).setCells Y 0 [c.c0,c.c1,c.c2]):=⟨(kk1.at (lt_of_blk hS0.1 hA) m2.1.symm).trans hS0.1,(kk1.at (lt_of_blk hS0.2.1 hB) m2.2.1.symm).trans hS0.2.1,(kk1.at (lt_of_blk hS0.2.2 hC) m2.2.2.symm).trans hS0.2.2⟩
  refine T_one 4 (by kernel_rfl) fun _=>O_store_mid none 26 (.tmp 3) (.tmp 34) Y 0 #[c.c0,c.c1,c.c2] (by kernel_rfl) (by kernel_rfl) (by kernel_rfl) (there3f hY') sizeKd o1 hS1 ?_
  replace hZ':=hZ'.of_block (kk1.at hZ'.lt n3.symm)
  have kk2:=(set5v hZ' x.c0 x.c1 x.c2 x.c3 x.c4).1
  have hS2:(fun W=>W.heap[A]? = V.heap[A]? ∧ W.heap[B]? = V.heap[B]? ∧ W.heap[C]? = V.heap[C]?) (((W.setCells X 0 [d.c0,d.c1,d.c2]).setCells Y 0 [c.c0,c.c1,c.c2]).setCells Z 0 [x.c0,x.c1,x.c2,x.c3,x.c4]):=⟨(kk2.at (lt_of_blk hS1.1 hA) m3.1.symm).trans hS1.1,(kk2.at (lt_of_blk hS1.2.1 hB) m3.2.1.symm).trans hS1.2.1,(kk2.at (lt_of_blk hS1.2.2 hC) m3.2.2.symm).trans hS1.2.2⟩
  refine T_one 5 (by kernel_rfl) fun _=>O_store_mid none 29 (.tmp 4) (.tmp 35) Z 0 #[x.c0,x.c1,x.c2,x.c3,x.c4] (by kernel_rfl) (by kernel_rfl) (by kernel_rfl) (there5v hZ') sizeTrv o3 hS2 ?_
  exact T_end 67 [(2,.pointer (some ⟨X,0,none⟩)),(3,.pointer (some ⟨Y,0,none⟩)),(4,.pointer (some ⟨Z,0,none⟩)),(5,.pointer (some ⟨R,0,none⟩)),(6,.pointer (some ⟨A,0,none⟩)),(7,.pointer (some ⟨B,0,none⟩)),(8,.pointer (some ⟨C,0,none⟩))] (by kernel_rfl) (by kernel_rfl) fun _ u=>hf u
 refine T_a hq [0,1,2] (fun w' h=>.cons (ldKd3 _ _ d (hB.of_block h.2.1)) (.cons (ldKd3 _ _ c (hA.of_block h.1)) (.cons (ldTr5 _ _ x (hC.of_block h.2.2)) (Lds.nil)))) (by kernel_rfl) ?_
 exact T_fr 6 67 [3,4,5] [(2,.pointer (some ⟨X,0,none⟩)),(3,.pointer (some ⟨Y,0,none⟩)),(4,.pointer (some ⟨Z,0,none⟩)),(5,.pointer (some ⟨R,0,none⟩)),(6,.pointer (some ⟨A,0,none⟩)),(7,.pointer (some ⟨B,0,none⟩)),(8,.pointer (some ⟨C,0,none⟩)),(33,.agg #[d.c0,d.c1,d.c2]),(34,.agg #[c.c0,c.c1,c.c2]),(35,.agg #[x.c0,x.c1,x.c2,x.c3,x.c4])] (by kernel_rfl) fun u=>E u _ ⟨rfl,rfl,rfl⟩ ⟨hX,hY,hZ⟩ hend
noncomputable def dw10Ops:Array Oper:=fops Tryz.f5 10
theorem dw10_neat:Region.noSelect dw10Ops=true∧neat dw10Ops=true:=⟨by kernel_rfl,by kernel_rfl⟩
theorem dw10 (X Y Z R A B C:Nat) (c d:C3) (x:C5) (W0:World) {l:List Value} (Q:Exit→Act→World→Prop) (hQ:∀ c a d v w,Q (.panic c) (Act.put a d v) w→Q (.panic c) a w) (hA:W0.drew.rowIs A 26 3 (row3 c.c0 c.c1 c.c2)) (hB:W0.drew.rowIs B 26 3 (row3 d.c0 d.c1 d.c2)) (hC:W0.drew.rowIs C 29 5 (row5 x.c0 x.c1 x.c2 x.c3 x.c4)) (o1:(#[c.c0,c.c1,c.c2]:Array Value).all (·.oneCell')=true) (o3:(#[x.c0,x.c1,x.c2,x.c3,x.c4]:Array Value).all (·.oneCell')=true) (n1:X≠Y) (n2:X≠Z) (n3:Y≠Z) (m1:X≠A∧X≠B∧X≠C) (m2:Y≠A∧Y≠B∧Y≠C) (m3:Z≠A∧Z≠B∧Z≠C) (G:Value→Value→Value→World→Prop) (HG:∀ y0 y1 y2 WW,G y0 y1 y2 WW→(WW.rowIs X 26 3 (row3 (.int .i64 0) (.slice none 0 0) (.slice none 0 0))∧WW.rowIs Y 26 3 (row3 (.int .i64 0) (.slice none 0 0) (.slice none 0 0))∧WW.rowIs Z 29 5 (row5 (.int .i64 0) (.int .i64 0) (.string ⟨#[]⟩) (.slice none 0 0) (.slice none 0 0)))∧(#[y0,y1,y2]:Array Value).all (·.oneCell')=true∧WW.heap[A]? = W0.drew.heap[A]? ∧ WW.heap[B]? = W0.drew.heap[B]? ∧ WW.heap[C]? = W0.drew.heap[C]?) (HK:Calls Tryz.prog 21 #[.pointer (some ⟨R,0,none⟩),.agg #[d.c0,d.c1,d.c2]] W0.drew fun e w'=>∃ y0 y1 y2,e=.returned (.agg #[y0,y1,y2])∧G y0 y1 y2 w') (hl:lookL [(2,.pointer (some ⟨X,0,none⟩)),(3,.pointer (some ⟨Y,0,none⟩)),(4,.pointer (some ⟨Z,0,none⟩)),(5,.pointer (some ⟨R,0,none⟩)),(6,.pointer (some ⟨A,0,none⟩)),(7,.pointer (some ⟨B,0,none⟩)),(8,.pointer (some ⟨C,0,none⟩))] l=(67,([(2,.pointer (some ⟨X,0,none⟩)),(3,.pointer (some ⟨Y,0,none⟩)),(4,.pointer (some ⟨Z,0,none⟩)),(5,.pointer (some ⟨R,0,none⟩)),(6,.pointer (some ⟨A,0,none⟩)),(7,.pointer (some ⟨B,0,none⟩)),(8,.pointer (some ⟨C,0,none⟩))]:List (Nat × Value)).map (·.2)))
 (hend:∀ (u:Nat→Value) (y0 y1 y2:Value) (w':World),G y0 y1 y2 w'→Q .normal ⟨(frL u 67 [(2,.pointer (some ⟨X,0,none⟩)),(3,.pointer (some ⟨Y,0,none⟩)),(4,.pointer (some ⟨Z,0,none⟩)),(5,.pointer (some ⟨R,0,none⟩)),(6,.pointer (some ⟨A,0,none⟩)),(7,.pointer (some ⟨B,0,none⟩)),(8,.pointer (some ⟨C,0,none⟩))]).toArray,[]⟩ (pt3 w' X Y Z c.c0 c.c1 c.c2 y0 y1 y2 x.c0 x.c1 x.c2 x.c3 x.c4)):(Code.region 10 dw10Ops true).wp Tryz.prog Q ⟨l.toArray,[]⟩ W0:=by
 obtain ⟨v0,rfl⟩:=look_fr hl
 have hq:NtQ dw10Ops Q:=⟨dw10_neat,hQ⟩
 refine T_start (S:=fun W=>W.heap[A]? = W0.drew.heap[A]? ∧ W.heap[B]? = W0.drew.heap[B]? ∧ W.heap[C]? = W0.drew.heap[C]?) (by kernel_rfl) ⟨rfl,rfl,rfl⟩ ?_
 clear hl hQ
 generalize W0.drew=V at hA hB hC HG HK hend ⊢
 have E:∀ (u:Nat→Value) (y0 y1 y2:Value) (W:World) (hS:(fun W=>W.heap[A]? = V.heap[A]? ∧ W.heap[B]? = V.heap[B]? ∧ W.heap[C]? = V.heap[C]?) W) (hZR:W.rowIs X 26 3 (row3 (.int .i64 0) (.slice none 0 0) (.slice none 0 0))∧W.rowIs Y 26 3 (row3 (.int .i64 0) (.slice none 0 0) (.slice none 0 0))∧W.rowIs Z 29 5 (row5 (.int .i64 0) (.int .i64 0) (.string ⟨#[]⟩) (.slice none 0 0) (.slice none 0 0))) (oy:(#[y0,y1,y2]:Array Value).all (·.oneCell')=true) (hf:∀ u,Q .normal ⟨(frL u 67 [(2,.pointer (some ⟨X,0,none⟩)),(3,.pointer (some ⟨Y,0,none⟩)),(4,.pointer (some ⟨Z,0,none⟩)),(5,.pointer (some ⟨R,0,none⟩)),(6,.pointer (some ⟨A,0,none⟩)),(7,.pointer (some ⟨B,0,none⟩)),(8,.pointer (some ⟨C,0,none⟩))]).toArray,[]⟩ (pt3 W X Y Z c.c0 c.c1 c.c2 y0 y1 y2 x.c0 x.c1 x.c2 x.c3 x.c4)),wpS Tryz.prog dw10Ops Q (fun W=>W.heap[A]? = V.heap[A]? ∧ W.heap[B]? = V.heap[B]? ∧ W.heap[C]? = V.heap[C]?) (unl 8 [5,6,7],frL u 67 [(2,.pointer (some ⟨X,0,none⟩)),(3,.pointer (some ⟨Y,0,none⟩)),(4,.pointer (some ⟨Z,0,none⟩)),(5,.pointer (some ⟨R,0,none⟩)),(6,.pointer (some ⟨A,0,none⟩)),(7,.pointer (some ⟨B,0,none⟩)),(8,.pointer (some ⟨C,0,none⟩)),(38,.agg #[c.c0,c.c1,c.c2]),(40,.agg #[d.c0,d.c1,d.c2]),(41,.agg #[y0,y1,y2]),(42,.agg #[x.c0,x.c1,x.c2,x.c3,x.c4])]) [] W:=by
  intro u y0 y1 y2 W hS hZR oy hf
  obtain ⟨hX',hY',hZ'⟩:=hZR
  have kk0:=(set3f W X c.c0 c.c1 c.c2).1
  have hS0:(fun W=>W.heap[A]? = V.heap[A]? ∧ W.heap[B]? = V.heap[B]? ∧ W.heap[C]? = V.heap[C]?) (W.setCells X 0 [c.c0,c.c1,c.c2]):=⟨(kk0.at (lt_of_blk hS.1 hA) m1.1.symm).trans hS.1,(kk0.at (lt_of_blk hS.2.1 hB) m1.2.1.symm).trans hS.2.1,(kk0.at (lt_of_blk hS.2.2 hC) m1.2.2.symm).trans hS.2.2⟩
  refine T_one 5 (by kernel_rfl) fun _=>O_store_mid none 26 (.tmp 2) (.tmp 38) X 0 #[c.c0,c.c1,c.c2] (by kernel_rfl) (by kernel_rfl) (by kernel_rfl) (there3f hX') sizeKd o1 hS0 ?_
  replace hY':=hY'.of_block (kk0.at hY'.lt n1.symm)
  replace hZ':=hZ'.of_block (kk0.at hZ'.lt n2.symm)
  have kk1:=(set3f (W.setCells X 0 [c.c0,c.c1,c.c2]) Y y0 y1 y2).1
  have hS1:(fun W=>W.heap[A]? = V.heap[A]? ∧ W.heap[B]? = V.heap[B]? ∧ W.heap[C]? = V.heap[C]?) ((W.setCells X 0 [c.c0,c.c1,c.c2]).setCells Y 0 [y0,y1,y2]):=⟨(kk1.at (lt_of_blk hS0.1 hA) m2.1.symm).trans hS0.1,(kk1.at (lt_of_blk hS0.2.1 hB) m2.2.1.symm).trans hS0.2.1,(kk1.at (lt_of_blk hS0.2.2 hC) m2.2.2.symm).trans hS0.2.2⟩
  refine T_one 6 (by kernel_rfl) fun _=>O_store_mid none 26 (.tmp 3) (.tmp 41) Y 0 #[y0,y1,y2] (by kernel_rfl) (by kernel_rfl) (by kernel_rfl) (there3f hY') sizeKd oy hS1 ?_
  replace hZ':=hZ'.of_block (kk1.at hZ'.lt n3.symm)
  have kk2:=(set5v hZ' x.c0 x.c1 x.c2 x.c3 x.c4).1
  have hS2:(fun W=>W.heap[A]? = V.heap[A]? ∧ W.heap[B]? = V.heap[B]? ∧ W.heap[C]? = V.heap[C]?) (((W.setCells X 0 [c.c0,c.c1,c.c2]).setCells Y 0 [y0,y1,y2]).setCells Z 0 [x.c0,x.c1,x.c2,x.c3,x.c4]):=⟨(kk2.at (lt_of_blk hS1.1 hA) m3.1.symm).trans hS1.1,(kk2.at (lt_of_blk hS1.2.1 hB) m3.2.1.symm).trans hS1.2.1,(kk2.at (lt_of_blk hS1.2.2 hC) m3.2.2.symm).trans hS1.2.2⟩
  refine T_one 7 (by kernel_rfl) fun _=>O_store_mid none 29 (.tmp 4) (.tmp 42) Z 0 #[x.c0,x.c1,x.c2,x.c3,x.c4] (by kernel_rfl) (by kernel_rfl) (by kernel_rfl) (there5v hZ') sizeTrv o3 hS2 ?_
  exact T_end 67 [(2,.pointer (some ⟨X,0,none⟩)),(3,.pointer (some ⟨Y,0,none⟩)),(4,.pointer (some ⟨Z,0,none⟩)),(5,.pointer (some ⟨R,0,none⟩)),(6,.pointer (some ⟨A,0,none⟩)),(7,.pointer (some ⟨B,0,none⟩)),(8,.pointer (some ⟨C,0,none⟩))] (by kernel_rfl) (by kernel_rfl) fun _ u=>hf u
 refine T_z hq [1] (by kernel_rfl) ?_
 refine T_a hq [0,2,4] (fun w' h=>.cons (ldKd3 _ _ c (hA.of_block h.1)) (.cons (ldKd3 _ _ d (hB.of_block h.2.1)) (.cons (ldTr5 _ _ x (hC.of_block h.2.2)) (Lds.nil)))) (by kernel_rfl) ?_
 refine T_fr 8 67 [3,5,6,7] [(2,.pointer (some ⟨X,0,none⟩)),(3,.pointer (some ⟨Y,0,none⟩)),(4,.pointer (some ⟨Z,0,none⟩)),(5,.pointer (some ⟨R,0,none⟩)),(6,.pointer (some ⟨A,0,none⟩)),(7,.pointer (some ⟨B,0,none⟩)),(8,.pointer (some ⟨C,0,none⟩)),(38,.agg #[c.c0,c.c1,c.c2]),(39,.pointer (some ⟨R,0,none⟩)),(40,.agg #[d.c0,d.c1,d.c2]),(42,.agg #[x.c0,x.c1,x.c2,x.c3,x.c4])] (by kernel_rfl) fun u=>T_one 3 (by kernel_rfl) fun _=>?_
 refine O_go HK (by kernel_rfl) ?_
 rintro e w1 ⟨y0,y1,y2,rfl,hG⟩
 obtain ⟨hz,oy,hs1,hs2,hs3⟩:=HG _ _ _ _ hG
 exact ⟨_,rfl,⟨hs1,hs2,hs3⟩,T_fr 8 67 [5,6,7] [(2,.pointer (some ⟨X,0,none⟩)),(3,.pointer (some ⟨Y,0,none⟩)),(4,.pointer (some ⟨Z,0,none⟩)),(5,.pointer (some ⟨R,0,none⟩)),(6,.pointer (some ⟨A,0,none⟩)),(7,.pointer (some ⟨B,0,none⟩)),(8,.pointer (some ⟨C,0,none⟩)),(38,.agg #[c.c0,c.c1,c.c2]),(40,.agg #[d.c0,d.c1,d.c2]),(41,.agg #[y0,y1,y2]),(42,.agg #[x.c0,x.c1,x.c2,x.c3,x.c4])] (by kernel_rfl) fun u=>E u y0 y1 y2 w1 ⟨hs1,hs2,hs3⟩ hz oy (fun u=>hend u y0 y1 y2 w1 hG)⟩
noncomputable def dw16Ops:Array Oper:=fops Tryz.f5 16
theorem dw16_neat:Region.noSelect dw16Ops=true∧neat dw16Ops=true:=⟨by kernel_rfl,by kernel_rfl⟩
theorem dw16 (X Y Z R A B C:Nat) (c d:C3) (x:C5) (W0:World) {l:List Value} (Q:Exit→Act→World→Prop) (hQ:∀ c a d v w,Q (.panic c) (Act.put a d v) w→Q (.panic c) a w) (hA:W0.drew.rowIs A 26 3 (row3 c.c0 c.c1 c.c2)) (hB:W0.drew.rowIs B 26 3 (row3 d.c0 d.c1 d.c2)) (hC:W0.drew.rowIs C 29 5 (row5 x.c0 x.c1 x.c2 x.c3 x.c4)) (o1:(#[c.c0,c.c1,c.c2]:Array Value).all (·.oneCell')=true) (o2:(#[d.c0,d.c1,d.c2]:Array Value).all (·.oneCell')=true) (o3:(#[x.c0,x.c1,x.c2,x.c3,x.c4]:Array Value).all (·.oneCell')=true) (n1:X≠Y) (n2:X≠Z) (n3:Y≠Z) (m1:X≠A∧X≠B∧X≠C) (m2:Y≠A∧Y≠B∧Y≠C) (m3:Z≠A∧Z≠B∧Z≠C) (hX:W0.drew.rowIs X 26 3 (row3 (.int .i64 0) (.slice none 0 0) (.slice none 0 0))) (hY:W0.drew.rowIs Y 26 3 (row3 (.int .i64 0) (.slice none 0 0) (.slice none 0 0))) (hZ:W0.drew.rowIs Z 29 5 (row5 (.int .i64 0) (.int .i64 0) (.string ⟨#[]⟩) (.slice none 0 0) (.slice none 0 0))) (hl:lookL [(2,.pointer (some ⟨X,0,none⟩)),(3,.pointer (some ⟨Y,0,none⟩)),(4,.pointer (some ⟨Z,0,none⟩)),(5,.pointer (some ⟨R,0,none⟩)),(6,.pointer (some ⟨A,0,none⟩)),(7,.pointer (some ⟨B,0,none⟩)),(8,.pointer (some ⟨C,0,none⟩))] l=(67,([(2,.pointer (some ⟨X,0,none⟩)),(3,.pointer (some ⟨Y,0,none⟩)),(4,.pointer (some ⟨Z,0,none⟩)),(5,.pointer (some ⟨R,0,none⟩)),(6,.pointer (some ⟨A,0,none⟩)),(7,.pointer (some ⟨B,0,none⟩)),(8,.pointer (some ⟨C,0,none⟩))]:List (Nat × Value)).map (·.2)))
 (hend:∀ (u:Nat→Value),Q .normal ⟨(frL u 67 [(2,.pointer (some ⟨X,0,none⟩)),(3,.pointer (some ⟨Y,0,none⟩)),(4,.pointer (some ⟨Z,0,none⟩)),(5,.pointer (some ⟨R,0,none⟩)),(6,.pointer (some ⟨A,0,none⟩)),(7,.pointer (some ⟨B,0,none⟩)),(8,.pointer (some ⟨C,0,none⟩))]).toArray,[]⟩ (pt3 W0.drew X Y Z c.c0 c.c1 c.c2 d.c0 d.c1 d.c2 x.c0 x.c1 x.c2 x.c3 x.c4)):(Code.region 16 dw16Ops true).wp Tryz.prog Q ⟨l.toArray,[]⟩ W0:=by
 obtain ⟨v0,rfl⟩:=look_fr hl
 have hq:NtQ dw16Ops Q:=⟨dw16_neat,hQ⟩
 refine T_start (S:=fun W=>W.heap[A]? = W0.drew.heap[A]? ∧ W.heap[B]? = W0.drew.heap[B]? ∧ W.heap[C]? = W0.drew.heap[C]?) (by kernel_rfl) ⟨rfl,rfl,rfl⟩ ?_
 clear hl hQ
 generalize W0.drew=V at hA hB hC hX hY hZ hend ⊢
 have E:∀ (u:Nat→Value) (W:World) (hS:(fun W=>W.heap[A]? = V.heap[A]? ∧ W.heap[B]? = V.heap[B]? ∧ W.heap[C]? = V.heap[C]?) W) (hZR:W.rowIs X 26 3 (row3 (.int .i64 0) (.slice none 0 0) (.slice none 0 0))∧W.rowIs Y 26 3 (row3 (.int .i64 0) (.slice none 0 0) (.slice none 0 0))∧W.rowIs Z 29 5 (row5 (.int .i64 0) (.int .i64 0) (.string ⟨#[]⟩) (.slice none 0 0) (.slice none 0 0))) (hf:∀ u,Q .normal ⟨(frL u 67 [(2,.pointer (some ⟨X,0,none⟩)),(3,.pointer (some ⟨Y,0,none⟩)),(4,.pointer (some ⟨Z,0,none⟩)),(5,.pointer (some ⟨R,0,none⟩)),(6,.pointer (some ⟨A,0,none⟩)),(7,.pointer (some ⟨B,0,none⟩)),(8,.pointer (some ⟨C,0,none⟩))]).toArray,[]⟩ (pt3 W X Y Z c.c0 c.c1 c.c2 d.c0 d.c1 d.c2 x.c0 x.c1 x.c2 x.c3 x.c4)),wpS Tryz.prog dw16Ops Q (fun W=>W.heap[A]? = V.heap[A]? ∧ W.heap[B]? = V.heap[B]? ∧ W.heap[C]? = V.heap[C]?) (unl 6 [3,4,5],frL u 67 [(2,.pointer (some ⟨X,0,none⟩)),(3,.pointer (some ⟨Y,0,none⟩)),(4,.pointer (some ⟨Z,0,none⟩)),(5,.pointer (some ⟨R,0,none⟩)),(6,.pointer (some ⟨A,0,none⟩)),(7,.pointer (some ⟨B,0,none⟩)),(8,.pointer (some ⟨C,0,none⟩)),(64,.agg #[c.c0,c.c1,c.c2]),(65,.agg #[d.c0,d.c1,d.c2]),(66,.agg #[x.c0,x.c1,x.c2,x.c3,x.c4])]) [] W:=by
  intro u  W hS hZR hf
  obtain ⟨hX',hY',hZ'⟩:=hZR
  have kk0:=(set3f W X c.c0 c.c1 c.c2).1
  have hS0:(fun W=>W.heap[A]? = V.heap[A]? ∧ W.heap[B]? = V.heap[B]? ∧ W.heap[C]? = V.heap[C]?) (W.setCells X 0 [c.c0,c.c1,c.c2]):=⟨(kk0.at (lt_of_blk hS.1 hA) m1.1.symm).trans hS.1,(kk0.at (lt_of_blk hS.2.1 hB) m1.2.1.symm).trans hS.2.1,(kk0.at (lt_of_blk hS.2.2 hC) m1.2.2.symm).trans hS.2.2⟩
  refine T_one 3 (by kernel_rfl) fun _=>O_store_mid none 26 (.tmp 2) (.tmp 64) X 0 #[c.c0,c.c1,c.c2] (by kernel_rfl) (by kernel_rfl) (by kernel_rfl) (there3f hX') sizeKd o1 hS0 ?_
  replace hY':=hY'.of_block (kk0.at hY'.lt n1.symm)
  replace hZ':=hZ'.of_block (kk0.at hZ'.lt n2.symm)
  have kk1:=(set3f (W.setCells X 0 [c.c0,c.c1,c.c2]) Y d.c0 d.c1 d.c2).1
  have hS1:(fun W=>W.heap[A]? = V.heap[A]? ∧ W.heap[B]? = V.heap[B]? ∧ W.heap[C]? = V.heap[C]?) ((W.setCells X 0 [c.c0,c.c1,c.c2]).setCells Y 0 [d.c0,d.c1,d.c2]):=⟨(kk1.at (lt_of_blk hS0.1 hA) m2.1.symm).trans hS0.1,(kk1.at (lt_of_blk hS0.2.1 hB) m2.2.1.symm).trans hS0.2.1,(kk1.at (lt_of_blk hS0.2.2 hC) m2.2.2.symm).trans hS0.2.2⟩
  refine T_one 4 (by kernel_rfl) fun _=>O_store_mid none 26 (.tmp 3) (.tmp 65) Y 0 #[d.c0,d.c1,d.c2] (by kernel_rfl) (by kernel_rfl) (by kernel_rfl) (there3f hY') sizeKd o2 hS1 ?_
  replace hZ':=hZ'.of_block (kk1.at hZ'.lt n3.symm)
  have kk2:=(set5v hZ' x.c0 x.c1 x.c2 x.c3 x.c4).1
  have hS2:(fun W=>W.heap[A]? = V.heap[A]? ∧ W.heap[B]? = V.heap[B]? ∧ W.heap[C]? = V.heap[C]?) (((W.setCells X 0 [c.c0,c.c1,c.c2]).setCells Y 0 [d.c0,d.c1,d.c2]).setCells Z 0 [x.c0,x.c1,x.c2,x.c3,x.c4]):=⟨(kk2.at (lt_of_blk hS1.1 hA) m3.1.symm).trans hS1.1,(kk2.at (lt_of_blk hS1.2.1 hB) m3.2.1.symm).trans hS1.2.1,(kk2.at (lt_of_blk hS1.2.2 hC) m3.2.2.symm).trans hS1.2.2⟩
  refine T_one 5 (by kernel_rfl) fun _=>O_store_mid none 29 (.tmp 4) (.tmp 66) Z 0 #[x.c0,x.c1,x.c2,x.c3,x.c4] (by kernel_rfl) (by kernel_rfl) (by kernel_rfl) (there5v hZ') sizeTrv o3 hS2 ?_
  exact T_end 67 [(2,.pointer (some ⟨X,0,none⟩)),(3,.pointer (some ⟨Y,0,none⟩)),(4,.pointer (some ⟨Z,0,none⟩)),(5,.pointer (some ⟨R,0,none⟩)),(6,.pointer (some ⟨A,0,none⟩)),(7,.pointer (some ⟨B,0,none⟩)),(8,.pointer (some ⟨C,0,none⟩))] (by kernel_rfl) (by kernel_rfl) fun _ u=>hf u
 refine T_a hq [0,1,2] (fun w' h=>.cons (ldKd3 _ _ c (hA.of_block h.1)) (.cons (ldKd3 _ _ d (hB.of_block h.2.1)) (.cons (ldTr5 _ _ x (hC.of_block h.2.2)) (Lds.nil)))) (by kernel_rfl) ?_
 exact T_fr 6 67 [3,4,5] [(2,.pointer (some ⟨X,0,none⟩)),(3,.pointer (some ⟨Y,0,none⟩)),(4,.pointer (some ⟨Z,0,none⟩)),(5,.pointer (some ⟨R,0,none⟩)),(6,.pointer (some ⟨A,0,none⟩)),(7,.pointer (some ⟨B,0,none⟩)),(8,.pointer (some ⟨C,0,none⟩)),(64,.agg #[c.c0,c.c1,c.c2]),(65,.agg #[d.c0,d.c1,d.c2]),(66,.agg #[x.c0,x.c1,x.c2,x.c3,x.c4])] (by kernel_rfl) fun u=>E u _ ⟨rfl,rfl,rfl⟩ ⟨hX,hY,hZ⟩ hend
structure B4 (X Y Z R:Nat) (V W:World):Prop where
 os:W.os=V.os
 tape:W.tape=V.tape
 output:W.output=V.output
 size:V.heap.size≤W.heap.size
 block:∀ i,i < V.heap.size→i≠X→i≠Y→i≠Z→i≠R→W.heap[i]? = V.heap[i]?
theorem B4.refl (X Y Z R:Nat) (V:World):B4 X Y Z R V V:=⟨rfl,rfl,rfl,Nat.le_refl _,fun _ _ _ _ _ _=>rfl⟩
theorem B4.below {X Y Z R:Nat} {V W W':World} (h:B4 X Y Z R V W) (hb:Below W.heap.size W W'):B4 X Y Z R V W':=⟨hb.os.trans h.os,hb.tape.trans h.tape,hb.output.trans h.output,Nat.le_trans h.size hb.size,fun i hi h1 h2 h3 h4=>(hb.block i (Nat.lt_of_lt_of_le hi h.size)).trans (h.block i hi h1 h2 h3 h4)⟩
theorem B4.alloc {X Y Z R:Nat} {V W:World} (h:B4 X Y Z R V W) (o:Obj):B4 X Y Z R V (W.alloc o):=h.below ((Below.refl _ _).alloc (Nat.le_refl _) o)
theorem B4.but {X Y Z R:Nat} {V W W':World} (h:B4 X Y Z R V W) {D:Nat} (hb:But D W W') (hD:D=X∨D=Y∨D=Z∨D=R):B4 X Y Z R V W':=⟨hb.os.trans h.os,hb.tape.trans h.tape,hb.output.trans h.output,Nat.le_trans h.size hb.size,fun i hi h1 h2 h3 h4=>(hb.at (Nat.lt_of_lt_of_le hi h.size) (by rcases hD with rfl | rfl | rfl | rfl <;> assumption)).trans (h.block i hi h1 h2 h3 h4)⟩
def Zr (X Y Z:Nat) (W:World):Prop:=(∃ f,W.rowIs X 26 3 f)∧(∃ f,W.rowIs Y 26 3 f)∧∃ f,W.rowIs Z 29 5 f
theorem Zr.below {X Y Z:Nat} {W W':World} (h:Zr X Y Z W) (hb:Below W.heap.size W W'):Zr X Y Z W':=by
 obtain ⟨⟨f,h1⟩,⟨g,h2⟩,k,h3⟩:=h
 exact ⟨⟨f,h1.of_block (hb.block _ h1.lt)⟩,⟨g,h2.of_block (hb.block _ h2.lt)⟩,k,h3.of_block (hb.block _ h3.lt)⟩
theorem Zr.alloc {X Y Z:Nat} {W:World} (h:Zr X Y Z W) (o:Obj):Zr X Y Z (W.alloc o):=h.below ((Below.refl _ _).alloc (Nat.le_refl _) o)
theorem Zr.but {X Y Z R:Nat} {W W':World} (h:Zr X Y Z W) (hb:But R W W') (n1:R≠X) (n2:R≠Y) (n3:R≠Z):Zr X Y Z W':=by
 obtain ⟨⟨f,h1⟩,⟨g,h2⟩,k,h3⟩:=h
 exact ⟨⟨f,h1.of_block (hb.at h1.lt n1.symm)⟩,⟨g,h2.of_block (hb.at h2.lt n2.symm)⟩,k,h3.of_block (hb.at h3.lt n3.symm)⟩
theorem sub120 {r:Nat} (h:r < 2):Value.int .i64 (IntKind.i64.wrap (120 - (r:Int)))=.int .i64 (((120 - r:Nat)):Int):=by
 rcases (show r=0∨r=1 by omega) with rfl | rfl <;> rfl
theorem rep_form5 {P:Nat→Prop} {w:World} {t:Tr} {c:C5} (h:Rep P w t c):∃ (a3:Option Addr) (p3:Nat) (a4:Option Addr) (p4:Nat),c=⟨.int .i64 t.sort,.int .i64 t.num,.string t.text,.slice a3 t.names.length p3,.slice a4 t.kids.length p4⟩:=by
 obtain ⟨c0,c1,c2,c3,c4⟩:=c
 obtain ⟨g0,g1,g2,-,-,-,⟨a5,cap5,g3,-,-⟩,a6,cap6,g4,-,-⟩:=h.open
 simp only at g0 g1 g2 g3 g4
 exact ⟨a5,cap5,a6,cap6,by rw [g0,g1,g2,g3,g4]⟩
noncomputable def dw15Ops:Array Oper:=fops Tryz.f5 15
theorem dw15_neat:Region.noSelect dw15Ops=true∧neat dw15Ops=true:=⟨by kernel_rfl,by kernel_rfl⟩
theorem dw15 (X Y Z R A:Nat) (c:C3) (W0:World) {l:List Value} (Q:Exit→Act→World→Prop) (hQ:∀ c a d v w,Q (.panic c) (Act.put a d v) w→Q (.panic c) a w) (hA:W0.drew.rowIs A 26 3 (row3 c.c0 c.c1 c.c2)) (o1:(#[c.c0,c.c1,c.c2]:Array Value).all (·.oneCell')=true) (n1:X≠Y) (n2:X≠Z) (n3:Y≠Z) (hR:R≠X∧R≠Y∧R≠Z∧R≠A) (hAn:A≠X∧A≠Y∧A≠Z) (hlt:X < W0.drew.heap.size∧Y < W0.drew.heap.size∧Z < W0.drew.heap.size∧R < W0.drew.heap.size)
 (J0:World→Prop) (hJ0:J0 W0.drew) (hJ0a:∀ W o,J0 W→J0 (W.alloc o)) (hZ0:Zr X Y Z W0.drew)
 (HP:∀ W,J0 W→Calls Tryz.prog 19 #[.pointer (some ⟨R,0,none⟩),.int .i64 2] W fun e w'=>∃ r:Nat,e=.returned (.int .i64 (r:Int))∧r < 2∧But R W w')
 (HF:∀ W (n:Nat),n≤1000→Calls Tryz.prog 22 #[.int .i64 (n:Int)] W fun e w'=>∃ (t:Tr) (y:C5),e=.returned (.agg #[y.c0,y.c1,y.c2,y.c3,y.c4])∧Rep (fun x=>W.heap.size≤x∧x < w'.heap.size) w' t y∧Below W.heap.size W w')
 (hl:lookL [(2,.pointer (some ⟨X,0,none⟩)),(3,.pointer (some ⟨Y,0,none⟩)),(4,.pointer (some ⟨Z,0,none⟩)),(5,.pointer (some ⟨R,0,none⟩)),(11,.pointer (some ⟨A,0,none⟩))] l=(67,([(2,.pointer (some ⟨X,0,none⟩)),(3,.pointer (some ⟨Y,0,none⟩)),(4,.pointer (some ⟨Z,0,none⟩)),(5,.pointer (some ⟨R,0,none⟩)),(11,.pointer (some ⟨A,0,none⟩))]:List (Nat × Value)).map (·.2)))
 (hend:∀ (u:Nat→Value) (t:Tr) (y:C5) (g:Nat) (w':World),B4 X Y Z R W0.drew w'→Rep (fun x=>W0.drew.heap.size≤x∧x < w'.heap.size) w' t y→w'.rowIs g 26 3 (row3 c.c0 c.c1 c.c2)→W0.drew.heap.size≤g→w'.rowIs X 26 3 (row3 c.c0 c.c1 c.c2)→w'.rowIs Y 26 3 (row3 (.int .i64 6) (.slice none 0 0) (.slice (some ⟨g,0,none⟩) 1 1))→w'.rowIs Z 29 5 (row5 y.c0 y.c1 y.c2 y.c3 y.c4)→Q .normal ⟨(frL u 67 [(2,.pointer (some ⟨X,0,none⟩)),(3,.pointer (some ⟨Y,0,none⟩)),(4,.pointer (some ⟨Z,0,none⟩)),(5,.pointer (some ⟨R,0,none⟩)),(11,.pointer (some ⟨A,0,none⟩))]).toArray,[]⟩ w'):(Code.region 15 dw15Ops true).wp Tryz.prog Q ⟨l.toArray,[]⟩ W0:=by
 obtain ⟨v0,rfl⟩:=look_fr hl
 have hq:NtQ dw15Ops Q:=⟨dw15_neat,hQ⟩
 refine T_start (S:=fun W=>B4 X Y Z R W0.drew W) (by kernel_rfl) (B4.refl _ _ _ _ _) ?_
 clear hl hQ
 generalize W0.drew=V at hA hJ0 hZ0 hlt hend ⊢
 have Q3:∀ (u:Nat→Value) (t:Tr) (y:C5) (g:Nat) (W:World) (hS:B4 X Y Z R V W) (hX':W.rowIs X 26 3 (row3 c.c0 c.c1 c.c2)) (hY':∃ f,W.rowIs Y 26 3 f) (hZ':∃ f,W.rowIs Z 29 5 f) (hr:Rep (fun x=>V.heap.size≤x∧x < W.heap.size) W t y) (hg:W.rowIs g 26 3 (row3 c.c0 c.c1 c.c2)) (hgb:V.heap.size≤g),wpS Tryz.prog dw15Ops Q (fun W=>B4 X Y Z R V W) (unl 11 [9,10],frL u 67 [(2,.pointer (some ⟨X,0,none⟩)),(3,.pointer (some ⟨Y,0,none⟩)),(4,.pointer (some ⟨Z,0,none⟩)),(5,.pointer (some ⟨R,0,none⟩)),(11,.pointer (some ⟨A,0,none⟩)),(59,.agg #[.int .i64 6,.slice none 0 0,.slice (some ⟨g,0,none⟩) 1 1]),(63,.agg #[y.c0,y.c1,y.c2,y.c3,y.c4])]) [] W:=by
  intro u t y g W hS hX' hY' hZ' hr hg hgb
  obtain ⟨fY,hY'⟩:=hY'
  obtain ⟨fZ,hZ'⟩:=hZ'
  have oy:(#[y.c0,y.c1,y.c2,y.c3,y.c4]:Array Value).all (·.oneCell')=true:=by
   obtain ⟨a5,p5,a6,p6,rfl⟩:=rep_form5 hr
   rw [← Array.all_toList];rfl
  have k1:=(set3f W Y (.int .i64 6) (.slice none 0 0) (.slice (some ⟨g,0,none⟩) 1 1)).1
  have r1:=(set3f W Y (.int .i64 6) (.slice none 0 0) (.slice (some ⟨g,0,none⟩) 1 1)).2 _ _ hY'
  have hS1:=hS.but k1 (Or.inr (Or.inl rfl))
  refine T_one 9 (by kernel_rfl) fun _=>O_store_mid none 26 (.tmp 3) (.tmp 59) Y 0 #[.int .i64 6,.slice none 0 0,.slice (some ⟨g,0,none⟩) 1 1] (by kernel_rfl) (by kernel_rfl) (by kernel_rfl) (there3f hY') sizeKd (by rw [← Array.all_toList];rfl) hS1 ?_
  replace hZ':=hZ'.of_block (k1.at hZ'.lt n3.symm)
  replace hX':=hX'.of_block (k1.at hX'.lt n1)
  replace hg:=hg.of_block (k1.at hg.lt (by omega))
  replace hr:Rep (fun x=>V.heap.size≤x∧x < (W.setCells Y 0 [.int .i64 6,.slice none 0 0,.slice (some ⟨g,0,none⟩) 1 1]).heap.size) _ t y:=Rep.carry (fun x hx=>k1.at hx.2 (by omega)) (fun x hx=>⟨hx.1,Nat.lt_of_lt_of_le hx.2 k1.size⟩) _ _ hr
  generalize W.setCells Y 0 [.int .i64 6,.slice none 0 0,.slice (some ⟨g,0,none⟩) 1 1]=W1 at hS1 r1 hZ' hX' hg hr ⊢
  obtain ⟨k2,r2⟩:=set5v hZ' y.c0 y.c1 y.c2 y.c3 y.c4
  have hS2:=hS1.but k2 (Or.inr (Or.inr (Or.inl rfl)))
  refine T_one 10 (by kernel_rfl) fun _=>O_store_mid none 29 (.tmp 4) (.tmp 63) Z 0 #[y.c0,y.c1,y.c2,y.c3,y.c4] (by kernel_rfl) (by kernel_rfl) (by kernel_rfl) (there5v hZ') sizeTrv oy hS2 ?_
  exact T_end 67 [(2,.pointer (some ⟨X,0,none⟩)),(3,.pointer (some ⟨Y,0,none⟩)),(4,.pointer (some ⟨Z,0,none⟩)),(5,.pointer (some ⟨R,0,none⟩)),(11,.pointer (some ⟨A,0,none⟩))] (by kernel_rfl) (by kernel_rfl) fun _ u=>hend u t y g _ hS2 (Rep.carry (fun x hx=>k2.at hx.2 (by omega)) (fun x hx=>⟨hx.1,Nat.lt_of_lt_of_le hx.2 k2.size⟩) _ _ hr) (hg.of_block (k2.at hg.lt (by omega))) hgb (hX'.of_block (k2.at hX'.lt n2)) (r1.of_block (k2.at r1.lt n3)) r2
 have Q2:∀ (u:Nat→Value) (t:Tr) (y:C5) (g:Nat) (W:World) (hS:B4 X Y Z R V W) (hz:Zr X Y Z W) (hr:Rep (fun x=>V.heap.size≤x∧x < W.heap.size) W t y) (hg:W.rowIs g 26 3 (row3 c.c0 c.c1 c.c2)) (hgb:V.heap.size≤g),wpS Tryz.prog dw15Ops Q (fun W=>B4 X Y Z R V W) (unl 11 [8,9,10],frL u 67 [(2,.pointer (some ⟨X,0,none⟩)),(3,.pointer (some ⟨Y,0,none⟩)),(4,.pointer (some ⟨Z,0,none⟩)),(5,.pointer (some ⟨R,0,none⟩)),(11,.pointer (some ⟨A,0,none⟩)),(56,.agg #[c.c0,c.c1,c.c2]),(59,.agg #[.int .i64 6,.slice none 0 0,.slice (some ⟨g,0,none⟩) 1 1]),(63,.agg #[y.c0,y.c1,y.c2,y.c3,y.c4])]) [] W:=by
  intro u t y g W hS hz hr hg hgb
  refine T_one 8 (by kernel_rfl) fun _=>?_
  · obtain ⟨⟨fX,hX'⟩,⟨fY,hY'⟩,fZ,hZ'⟩:=hz
    obtain ⟨k0,r0⟩:=set3f W X c.c0 c.c1 c.c2
    refine O_store_mid none 26 (.tmp 2) (.tmp 56) X 0 #[c.c0,c.c1,c.c2] (by kernel_rfl) (by kernel_rfl) (by kernel_rfl) (there3f hX') sizeKd o1 (hS.but k0 (Or.inl rfl)) ?_
    exact T_fr 11 67 [9,10] [(2,.pointer (some ⟨X,0,none⟩)),(3,.pointer (some ⟨Y,0,none⟩)),(4,.pointer (some ⟨Z,0,none⟩)),(5,.pointer (some ⟨R,0,none⟩)),(11,.pointer (some ⟨A,0,none⟩)),(59,.agg #[.int .i64 6,.slice none 0 0,.slice (some ⟨g,0,none⟩) 1 1]),(63,.agg #[y.c0,y.c1,y.c2,y.c3,y.c4])] (by kernel_rfl) fun u=>Q3 u t y g _ (hS.but k0 (Or.inl rfl)) (r0 _ _ hX') ⟨_,hY'.of_block (k0.at hY'.lt n1.symm)⟩ ⟨_,hZ'.of_block (k0.at hZ'.lt n2.symm)⟩ (Rep.carry (fun x hx=>k0.at hx.2 (by omega)) (fun x hx=>⟨hx.1,Nat.lt_of_lt_of_le hx.2 k0.size⟩) _ _ hr) (hg.of_block (k0.at hg.lt (by omega))) hgb
 have P3:∀ (u:Nat→Value) (t:Tr) (y:C5) (W:World) (hS:B4 X Y Z R V W) (hX':W.rowIs X 26 3 (row3 c.c0 c.c1 c.c2)) (hY':∃ f,W.rowIs Y 26 3 f) (hZ':∃ f,W.rowIs Z 29 5 f) (hr:Rep (fun x=>V.heap.size≤x∧x < W.heap.size) W t y),wpS Tryz.prog dw15Ops Q (fun W=>B4 X Y Z R V W) (unl 11 [2,3,9,10],frL u 67 [(2,.pointer (some ⟨X,0,none⟩)),(3,.pointer (some ⟨Y,0,none⟩)),(4,.pointer (some ⟨Z,0,none⟩)),(5,.pointer (some ⟨R,0,none⟩)),(11,.pointer (some ⟨A,0,none⟩)),(57,.agg #[c.c0,c.c1,c.c2]),(63,.agg #[y.c0,y.c1,y.c2,y.c3,y.c4])]) [] W:=by
  intro u t y W hS hX' hY' hZ' hr
  obtain ⟨fY,hY'⟩:=hY'
  obtain ⟨fZ,hZ'⟩:=hZ'
  refine T_one 2 (by kernel_rfl) fun _=>?_
  exact O_val (w':=W.alloc (.cells #[c.c0,c.c1,c.c2] 26)) (some 58) (.slice (some ⟨W.heap.size,0,none⟩) 1 1) (by kernel_rfl) (by kernel_rfl) (hS.alloc _) (T_z hq [3] (by kernel_rfl) (T_fr 11 67 [9,10] [(2,.pointer (some ⟨X,0,none⟩)),(3,.pointer (some ⟨Y,0,none⟩)),(4,.pointer (some ⟨Z,0,none⟩)),(5,.pointer (some ⟨R,0,none⟩)),(11,.pointer (some ⟨A,0,none⟩)),(59,.agg #[.int .i64 6,.slice none 0 0,.slice (some ⟨W.heap.size,0,none⟩) 1 1]),(63,.agg #[y.c0,y.c1,y.c2,y.c3,y.c4])] (by kernel_rfl) fun u=>Q3 u t y _ _ (hS.alloc _) (hX'.alloc _) ⟨_,hY'.alloc _⟩ ⟨_,hZ'.alloc _⟩ (Rep.carry (fun x hx=>Below.heap_alloc _ _ _ hx.2) (fun x hx=>⟨hx.1,by rw [World.size_alloc];have:=hx.2;omega⟩) _ _ hr) (row3_alloc W _ _ _ _) hS.size))
 have P2:∀ (u:Nat→Value) (t:Tr) (y:C5) (W:World) (hS:B4 X Y Z R V W) (hz:Zr X Y Z W) (hr:Rep (fun x=>V.heap.size≤x∧x < W.heap.size) W t y),wpS Tryz.prog dw15Ops Q (fun W=>B4 X Y Z R V W) (unl 11 [2,3,8,9,10],frL u 67 [(2,.pointer (some ⟨X,0,none⟩)),(3,.pointer (some ⟨Y,0,none⟩)),(4,.pointer (some ⟨Z,0,none⟩)),(5,.pointer (some ⟨R,0,none⟩)),(11,.pointer (some ⟨A,0,none⟩)),(56,.agg #[c.c0,c.c1,c.c2]),(57,.agg #[c.c0,c.c1,c.c2]),(63,.agg #[y.c0,y.c1,y.c2,y.c3,y.c4])]) [] W:=by
  intro u t y W hS hz hr
  refine T_two 2 8 (by kernel_rfl) (fun _=>?_) fun _=>?_
  · exact O_val (w':=W.alloc (.cells #[c.c0,c.c1,c.c2] 26)) (some 58) (.slice (some ⟨W.heap.size,0,none⟩) 1 1) (by kernel_rfl) (by kernel_rfl) (hS.alloc _) (T_z hq [3] (by kernel_rfl) (T_fr 11 67 [8,9,10] [(2,.pointer (some ⟨X,0,none⟩)),(3,.pointer (some ⟨Y,0,none⟩)),(4,.pointer (some ⟨Z,0,none⟩)),(5,.pointer (some ⟨R,0,none⟩)),(11,.pointer (some ⟨A,0,none⟩)),(56,.agg #[c.c0,c.c1,c.c2]),(59,.agg #[.int .i64 6,.slice none 0 0,.slice (some ⟨W.heap.size,0,none⟩) 1 1]),(63,.agg #[y.c0,y.c1,y.c2,y.c3,y.c4])] (by kernel_rfl) fun u=>Q2 u t y _ _ (hS.alloc _) (hz.alloc _) (Rep.carry (fun x hx=>Below.heap_alloc _ _ _ hx.2) (fun x hx=>⟨hx.1,by rw [World.size_alloc];have:=hx.2;omega⟩) _ _ hr) (row3_alloc W _ _ _ _) hS.size))
  · obtain ⟨⟨fX,hX'⟩,⟨fY,hY'⟩,fZ,hZ'⟩:=hz
    obtain ⟨k0,r0⟩:=set3f W X c.c0 c.c1 c.c2
    refine O_store_mid none 26 (.tmp 2) (.tmp 56) X 0 #[c.c0,c.c1,c.c2] (by kernel_rfl) (by kernel_rfl) (by kernel_rfl) (there3f hX') sizeKd o1 (hS.but k0 (Or.inl rfl)) ?_
    exact T_fr 11 67 [2,3,9,10] [(2,.pointer (some ⟨X,0,none⟩)),(3,.pointer (some ⟨Y,0,none⟩)),(4,.pointer (some ⟨Z,0,none⟩)),(5,.pointer (some ⟨R,0,none⟩)),(11,.pointer (some ⟨A,0,none⟩)),(57,.agg #[c.c0,c.c1,c.c2]),(63,.agg #[y.c0,y.c1,y.c2,y.c3,y.c4])] (by kernel_rfl) fun u=>P3 u t y _ (hS.but k0 (Or.inl rfl)) (r0 _ _ hX') ⟨_,hY'.of_block (k0.at hY'.lt n1.symm)⟩ ⟨_,hZ'.of_block (k0.at hZ'.lt n2.symm)⟩ (Rep.carry (fun x hx=>k0.at hx.2 (by omega)) (fun x hx=>⟨hx.1,Nat.lt_of_lt_of_le hx.2 k0.size⟩) _ _ hr)
 have Q1:∀ (u:Nat→Value) (r:Nat) (hr2:r < 2) (g:Nat) (W:World) (hS:B4 X Y Z R V W) (hz:Zr X Y Z W) (hg:W.rowIs g 26 3 (row3 c.c0 c.c1 c.c2)) (hgb:V.heap.size≤g),wpS Tryz.prog dw15Ops Q (fun W=>B4 X Y Z R V W) (unl 11 [7,8,9,10],frL u 67 [(2,.pointer (some ⟨X,0,none⟩)),(3,.pointer (some ⟨Y,0,none⟩)),(4,.pointer (some ⟨Z,0,none⟩)),(5,.pointer (some ⟨R,0,none⟩)),(11,.pointer (some ⟨A,0,none⟩)),(56,.agg #[c.c0,c.c1,c.c2]),(59,.agg #[.int .i64 6,.slice none 0 0,.slice (some ⟨g,0,none⟩) 1 1]),(62,.int .i64 (((120 - r:Nat)):Int))]) [] W:=by
  intro u r hr2 g W hS hz hg hgb
  refine T_one 7 (by kernel_rfl) fun _=>?_
  · refine O_go (HF W (120 - r) (by omega)) (by kernel_rfl) ?_
    rintro e W1 ⟨t,y,rfl,hr,hb⟩
    exact ⟨_,rfl,hS.below hb,T_fr 11 67 [8,9,10] [(2,.pointer (some ⟨X,0,none⟩)),(3,.pointer (some ⟨Y,0,none⟩)),(4,.pointer (some ⟨Z,0,none⟩)),(5,.pointer (some ⟨R,0,none⟩)),(11,.pointer (some ⟨A,0,none⟩)),(56,.agg #[c.c0,c.c1,c.c2]),(59,.agg #[.int .i64 6,.slice none 0 0,.slice (some ⟨g,0,none⟩) 1 1]),(63,.agg #[y.c0,y.c1,y.c2,y.c3,y.c4])] (by kernel_rfl) fun u=>Q2 u t y g W1 (hS.below hb) (hz.below hb) (Rep.carry (fun _ _=>rfl) (fun x hx=>⟨Nat.le_trans hS.size hx.1,hx.2⟩) _ _ hr) (hg.of_block (hb.block _ hg.lt)) hgb⟩
 have P1:∀ (u:Nat→Value) (r:Nat) (hr2:r < 2) (W:World) (hS:B4 X Y Z R V W) (hz:Zr X Y Z W),wpS Tryz.prog dw15Ops Q (fun W=>B4 X Y Z R V W) (unl 11 [2,3,7,8,9,10],frL u 67 [(2,.pointer (some ⟨X,0,none⟩)),(3,.pointer (some ⟨Y,0,none⟩)),(4,.pointer (some ⟨Z,0,none⟩)),(5,.pointer (some ⟨R,0,none⟩)),(11,.pointer (some ⟨A,0,none⟩)),(56,.agg #[c.c0,c.c1,c.c2]),(57,.agg #[c.c0,c.c1,c.c2]),(62,.int .i64 (((120 - r:Nat)):Int))]) [] W:=by
  intro u r hr2 W hS hz
  refine T_two 2 7 (by kernel_rfl) (fun _=>?_) fun _=>?_
  · exact O_val (w':=W.alloc (.cells #[c.c0,c.c1,c.c2] 26)) (some 58) (.slice (some ⟨W.heap.size,0,none⟩) 1 1) (by kernel_rfl) (by kernel_rfl) (hS.alloc _) (T_z hq [3] (by kernel_rfl) (T_fr 11 67 [7,8,9,10] [(2,.pointer (some ⟨X,0,none⟩)),(3,.pointer (some ⟨Y,0,none⟩)),(4,.pointer (some ⟨Z,0,none⟩)),(5,.pointer (some ⟨R,0,none⟩)),(11,.pointer (some ⟨A,0,none⟩)),(56,.agg #[c.c0,c.c1,c.c2]),(59,.agg #[.int .i64 6,.slice none 0 0,.slice (some ⟨W.heap.size,0,none⟩) 1 1]),(62,.int .i64 (((120 - r:Nat)):Int))] (by kernel_rfl) fun u=>Q1 u r hr2 _ _ (hS.alloc _) (hz.alloc _) (row3_alloc W _ _ _ _) hS.size))
  · refine O_go (HF W (120 - r) (by omega)) (by kernel_rfl) ?_
    rintro e W1 ⟨t,y,rfl,hr,hb⟩
    exact ⟨_,rfl,hS.below hb,T_fr 11 67 [2,3,8,9,10] [(2,.pointer (some ⟨X,0,none⟩)),(3,.pointer (some ⟨Y,0,none⟩)),(4,.pointer (some ⟨Z,0,none⟩)),(5,.pointer (some ⟨R,0,none⟩)),(11,.pointer (some ⟨A,0,none⟩)),(56,.agg #[c.c0,c.c1,c.c2]),(57,.agg #[c.c0,c.c1,c.c2]),(63,.agg #[y.c0,y.c1,y.c2,y.c3,y.c4])] (by kernel_rfl) fun u=>P2 u t y W1 (hS.below hb) (hz.below hb) (Rep.carry (fun _ _=>rfl) (fun x hx=>⟨Nat.le_trans hS.size hx.1,hx.2⟩) _ _ hr)⟩
 have Q0:∀ (u:Nat→Value) (g:Nat) (W:World) (hS:B4 X Y Z R V W) (hz:Zr X Y Z W) (hj:J0 W) (hg:W.rowIs g 26 3 (row3 c.c0 c.c1 c.c2)) (hgb:V.heap.size≤g),wpS Tryz.prog dw15Ops Q (fun W=>B4 X Y Z R V W) (unl 11 [5,6,7,8,9,10],frL u 67 [(2,.pointer (some ⟨X,0,none⟩)),(3,.pointer (some ⟨Y,0,none⟩)),(4,.pointer (some ⟨Z,0,none⟩)),(5,.pointer (some ⟨R,0,none⟩)),(11,.pointer (some ⟨A,0,none⟩)),(56,.agg #[c.c0,c.c1,c.c2]),(59,.agg #[.int .i64 6,.slice none 0 0,.slice (some ⟨g,0,none⟩) 1 1]),(60,.pointer (some ⟨R,0,none⟩))]) [] W:=by
  intro u g W hS hz hj hg hgb
  refine T_one 5 (by kernel_rfl) fun _=>?_
  · refine O_go (HP W hj) (by kernel_rfl) ?_
    rintro e W1 ⟨r,rfl,hr2,hb⟩
    refine ⟨_,rfl,hS.but hb (Or.inr (Or.inr (Or.inr rfl))),T_val (i:=6) hq (some 62) (.int .i64 (IntKind.i64.wrap (120 - (r:Int)))) (.int .i64 (((120 - r:Nat)):Int)) (sub120 hr2) (by kernel_rfl) (by kernel_rfl) ?_⟩
    exact T_fr 11 67 [7,8,9,10] [(2,.pointer (some ⟨X,0,none⟩)),(3,.pointer (some ⟨Y,0,none⟩)),(4,.pointer (some ⟨Z,0,none⟩)),(5,.pointer (some ⟨R,0,none⟩)),(11,.pointer (some ⟨A,0,none⟩)),(56,.agg #[c.c0,c.c1,c.c2]),(59,.agg #[.int .i64 6,.slice none 0 0,.slice (some ⟨g,0,none⟩) 1 1]),(62,.int .i64 (((120 - r:Nat)):Int))] (by kernel_rfl) fun u=>Q1 u r hr2 g W1 (hS.but hb (Or.inr (Or.inr (Or.inr rfl)))) (hz.but hb hR.1 hR.2.1 hR.2.2.1) (hg.of_block (hb.at hg.lt (by omega))) hgb
 have P0:∀ (u:Nat→Value) (W:World) (hS:B4 X Y Z R V W) (hz:Zr X Y Z W) (hj:J0 W),wpS Tryz.prog dw15Ops Q (fun W=>B4 X Y Z R V W) (unl 11 [2,3,5,6,7,8,9,10],frL u 67 [(2,.pointer (some ⟨X,0,none⟩)),(3,.pointer (some ⟨Y,0,none⟩)),(4,.pointer (some ⟨Z,0,none⟩)),(5,.pointer (some ⟨R,0,none⟩)),(11,.pointer (some ⟨A,0,none⟩)),(56,.agg #[c.c0,c.c1,c.c2]),(57,.agg #[c.c0,c.c1,c.c2]),(60,.pointer (some ⟨R,0,none⟩))]) [] W:=by
  intro u W hS hz hj
  refine T_two 2 5 (by kernel_rfl) (fun _=>?_) fun _=>?_
  · exact O_val (w':=W.alloc (.cells #[c.c0,c.c1,c.c2] 26)) (some 58) (.slice (some ⟨W.heap.size,0,none⟩) 1 1) (by kernel_rfl) (by kernel_rfl) (hS.alloc _) (T_z hq [3] (by kernel_rfl) (T_fr 11 67 [5,6,7,8,9,10] [(2,.pointer (some ⟨X,0,none⟩)),(3,.pointer (some ⟨Y,0,none⟩)),(4,.pointer (some ⟨Z,0,none⟩)),(5,.pointer (some ⟨R,0,none⟩)),(11,.pointer (some ⟨A,0,none⟩)),(56,.agg #[c.c0,c.c1,c.c2]),(59,.agg #[.int .i64 6,.slice none 0 0,.slice (some ⟨W.heap.size,0,none⟩) 1 1]),(60,.pointer (some ⟨R,0,none⟩))] (by kernel_rfl) fun u=>Q0 u _ _ (hS.alloc _) (hz.alloc _) (hJ0a _ _ hj) (row3_alloc W _ _ _ _) hS.size))
  · refine O_go (HP W hj) (by kernel_rfl) ?_
    rintro e W1 ⟨r,rfl,hr2,hb⟩
    refine ⟨_,rfl,hS.but hb (Or.inr (Or.inr (Or.inr rfl))),T_val (i:=6) hq (some 62) (.int .i64 (IntKind.i64.wrap (120 - (r:Int)))) (.int .i64 (((120 - r:Nat)):Int)) (sub120 hr2) (by kernel_rfl) (by kernel_rfl) ?_⟩
    exact T_fr 11 67 [2,3,7,8,9,10] [(2,.pointer (some ⟨X,0,none⟩)),(3,.pointer (some ⟨Y,0,none⟩)),(4,.pointer (some ⟨Z,0,none⟩)),(5,.pointer (some ⟨R,0,none⟩)),(11,.pointer (some ⟨A,0,none⟩)),(56,.agg #[c.c0,c.c1,c.c2]),(57,.agg #[c.c0,c.c1,c.c2]),(62,.int .i64 (((120 - r:Nat)):Int))] (by kernel_rfl) fun u=>P1 u r hr2 W1 (hS.but hb (Or.inr (Or.inr (Or.inr rfl)))) (hz.but hb hR.1 hR.2.1 hR.2.2.1)
 refine T_z hq [4] (by kernel_rfl) ?_
 refine T_a hq [0,1] (fun w' h=>.cons (ldKd3 _ _ c (hA.of_block (h.block _ hA.lt hAn.1 hAn.2.1 hAn.2.2 hR.2.2.2.symm))) (.cons (ldKd3 _ _ c (hA.of_block (h.block _ hA.lt hAn.1 hAn.2.1 hAn.2.2 hR.2.2.2.symm))) Lds.nil)) (by kernel_rfl) ?_
 exact T_fr 11 67 [2,3,5,6,7,8,9,10] [(2,.pointer (some ⟨X,0,none⟩)),(3,.pointer (some ⟨Y,0,none⟩)),(4,.pointer (some ⟨Z,0,none⟩)),(5,.pointer (some ⟨R,0,none⟩)),(11,.pointer (some ⟨A,0,none⟩)),(56,.agg #[c.c0,c.c1,c.c2]),(57,.agg #[c.c0,c.c1,c.c2]),(60,.pointer (some ⟨R,0,none⟩))] (by kernel_rfl) fun u=>P0 u _ (B4.refl _ _ _ _ _) hZ0 hJ0
end Go.Proofs.YteefjeddboefcaaGreatDoor
