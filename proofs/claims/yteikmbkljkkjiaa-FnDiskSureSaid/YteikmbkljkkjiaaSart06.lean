/- A part. -/
import Derived.Test.YteikmbkljkkjiaaSart05
set_option maxRecDepth 100000
set_option maxHeartbeats 3200000
namespace Go.Proofs.Yteikmbkljkkjiaa
open Go Go.RowKit Go.WideMaps Go.Maps
structure DkOkP (d:Dk):Prop where
 l1:d.files.length≤64
 l3:d.moves.length≤128
 made:FMade d
 file:∀ i (h:i < d.files.length),d.files[i].name∉(d.files.map Df.name).take i∧fOkB d.files[i]=true
 move:(mfold d.names d.moves).isSome=true
structure VwAt (w W:World) (d:Dk) (c:C3) (V:Value) (T B:Nat) (vm:Value):Prop where
 val:V=.agg #[.pointer (some ⟨T,0,none⟩),.pointer (some ⟨T,0,none⟩),c.c1,.pointer (some ⟨T,0,none⟩),vm]
 tb:New w W T
 bb:New w W B
 row:W.rowIs T 84 2 (rowO c.c0 (.map (some B)))
 map:NMap W B (d.files.map Df.name)
 fns:FnAt (New w W) W vm d.moves
def VwEnd (w W:World) (e:Ending) (d:Dk) (c:C3):Prop :=
 ∃ r q0 q1 x2 n2 m2 q3 x4 n4 m4,e=.returned (.tuple #[.agg #[.pointer q0,.pointer q1,.slice x2 n2 m2,.pointer q3,.slice x4 n4 m4],.bool r])∧(r=true↔DkOkP d)∧Below w.heap.size w W∧(r=true→∃ T B vm,VwAt w W d c (.agg #[.pointer q0,.pointer q1,.slice x2 n2 m2,.pointer q3,.slice x4 n4 m4]) T B vm)
theorem VwEnd.no {w W:World} {q0 q1 x2 q3 x4:Option Addr} {n2 m2 n4 m4:Nat} {d:Dk} {c:C3} (h:¬ DkOkP d) (hb:Below w.heap.size w W):VwEnd w W (.returned (.tuple #[.agg #[.pointer q0,.pointer q1,.slice x2 n2 m2,.pointer q3,.slice x4 n4 m4],.bool false])) d c :=
 ⟨false,q0,q1,x2,n2,m2,q3,x4,n4,m4,rfl,by simp [h],hb,by simp⟩
theorem infoFnM:(Try.prog.info? 98).map (fun i=>(i.zero,i.size,i.bytes))=some (some .nilFunc,1,8):=by kernel_rfl
theorem infoFnD:∃ i,Try.prog.info? 98=some i∧i.zero=some .nilFunc∧i.size=1∧i.bytes=8:=by
 have:=infoFnM
 cases h:Try.prog.info? 98 with
 | none=>rw [h] at this;simp at this
 | some i=>rw [h] at this;exact ⟨i,rfl,by simpa using this⟩
theorem set5_other (w:World) (B:Nat) (v0 v1 v2 v3 v4:Value) (b:Nat) (h:b≠B):(((((w.setCell ⟨B,0,none⟩ v0).setCell ⟨B,1,none⟩ v1).setCell ⟨B,2,none⟩ v2).setCell ⟨B,3,none⟩ v3).setCell ⟨B,4,none⟩ v4).heap[b]? = w.heap[b]? := by
 rw [Below.heap_setCell _ _ _ _ h,Below.heap_setCell _ _ _ _ h,Below.heap_setCell _ _ _ _ h,Below.heap_setCell _ _ _ _ h,Below.heap_setCell _ _ _ _ h]
theorem set5_size (w:World) (B:Nat) (v0 v1 v2 v3 v4:Value):(((((w.setCell ⟨B,0,none⟩ v0).setCell ⟨B,1,none⟩ v1).setCell ⟨B,2,none⟩ v2).setCell ⟨B,3,none⟩ v3).setCell ⟨B,4,none⟩ v4).heap.size=w.heap.size:=by
 simp [World.setCell]
theorem fiveV_set4 {w:World} {B:Nat} {T:TypeId} {x0 x1 x2 x3 x4:Value} (h:w.rowIs B T 5 (fiveV x0 x1 x2 x3 x4)) (v:Value):(w.setCell ⟨B,4,none⟩ v).rowIs B T 5 (fiveV x0 x1 x2 x3 v) :=
 (h.set 4 v).congr (fun i hi=>by
   match i,hi with
   | 0,_=>rfl
   | 1,_=>rfl
   | 2,_=>rfl
   | 3,_=>rfl
   | 4,_=>rfl)
def zeroVw:Value:=.agg #[.pointer none,.pointer none,.slice none 0 0,.pointer none,.slice none 0 0]
theorem viewsOf_any (d:Dk) (P:Nat→Prop) (c:C3) (w:World) (hP:∀ b,P b→b < w.heap.size) (hd:DkAt P w d c) :
 Calls Try.prog 34 #[.agg #[c.c0,c.c1,c.c2]] w fun e w'=>VwEnd w w' e d c:=by
 obtain ⟨c0,c1,c2⟩:=c
 have HD:=xH hd
 obtain ⟨a0,p0,g0,hl0,hfc⟩:=hd.fs.open
 obtain ⟨a1,p1,g1,hl1,-⟩:=hd.ns
 obtain ⟨a2,p2,g2,hl2,hmc⟩:=hd.ms.open
 simp only at g0 g1 g2
 subst g0 g1 g2
 have hbx:∀ o o',Below w.heap.size w ((w.alloc o).alloc o'):=fun o o'=>((Below.refl _ _).alloc (Nat.le_refl _) o).alloc (by simp) o'
 have HBX:=xH hbx
 by_cases h1:64 < d.files.length
 · have HNO:=xH (show ¬ DkOkP d from fun h=>by have:=h.l1;omega)
   clear hd hfc hmc hbx hP
   go_enter Try.func34,Try.ntmps34
   go_wp2_with fail
   try simp only [Exit.inBlock,Exit.then]
   refine bodyPost_ret (v:=.tuple #[zeroVw,.bool false]) (by unfold zeroVw;simp [results,Try.results34,go_sem]) rfl ?_
   exact VwEnd.no (xU HNO) (xU HBX _ _)
 replace h1:d.files.length≤64:=by omega
 have h1':decide ((64:Int) < (d.files.length:Int))=false:=by simp;omega
 by_cases h3:128 < d.moves.length
 · have HNO:=xH (show ¬ DkOkP d from fun h=>by have:=h.l3;omega)
   clear hd hfc hmc hbx hP
   go_enter Try.func34,Try.ntmps34
   go_wp2_with fail
   try simp only [Exit.inBlock,Exit.then]
   refine bodyPost_ret (v:=.tuple #[zeroVw,.bool false]) (by unfold zeroVw;simp [results,Try.results34,go_sem]) rfl ?_
   exact VwEnd.no (xU HNO) (xU HBX _ _)
 replace h3:d.moves.length≤128:=by omega
 have h3':decide ((128:Int) < (d.moves.length:Int))=false:=by simp;omega
 have HFN:=xH (fun o o'=>filesNamed_any d P ⟨.slice a0 d.files.length p0,.slice a1 d.names.length p1,.slice a2 d.moves.length p2⟩ ((w.alloc o).alloc o') (fun b hb=>Nat.lt_of_lt_of_le (hP b hb) (hbx o o').size) (hd.carry (fun b hb=>(hbx o o').block b (hP b hb)) (fun _ h=>h)) (by omega) (by omega))
 have HFC:=xH hfc;have HMC:=xH hmc;have HP:=xH hP
 have hr1:∀ o',((w.alloc (.cells #[.slice a0 d.files.length p0,.slice a1 d.names.length p1,.slice a2 d.moves.length p2] 27)).alloc o').rowIs w.heap.size 27 3 (row3 (.slice a0 d.files.length p0) (.slice a1 d.names.length p1) (.slice a2 d.moves.length p2)):=fun o'=>(row3_alloc w _ _ _ _).alloc o'
 have hr2:∀ o,((w.alloc o).alloc (.cells #[.pointer none,.pointer none,.slice none 0 0,.pointer none,.slice none 0 0] 71)).rowIs (w.heap.size+1) 71 5 (fiveV (.pointer none) (.pointer none) (.slice none 0 0) (.pointer none) (.slice none 0 0)):=fun o=>by
  have:=fiveV_alloc (w.alloc o) (.pointer none) (.pointer none) (.slice none 0 0) (.pointer none) (.slice none 0 0) 71
  rw [World.size_alloc] at this
  exact this
 have HR1:=xH hr1;have HR2:=xH hr2
 clear hd hfc hmc hP hbx hr1 hr2
 go_enter Try.func34,Try.ntmps34
 go_wp2_with fail
 refine (xU HFN _ _).mono ?_
 rintro e w1 ⟨⟨r,rfl,hr⟩,hb1⟩
 have hb01:Below w.heap.size w w1:=(xU HBX _ _).trans (hb1.mono (xU HBX _ _).size)
 have hs1:w.heap.size+2≤w1.heap.size:=by have:=hb1.size;simpa using this
 have q1:=(xU HR1 _).of_block (hb1.block w.heap.size (by simp;omega))
 have q2:=(xU HR2 _).of_block (hb1.block (w.heap.size+1) (by simp))
 have HB01:=xH hb01;have Q1:=xH q1;have Q2:=xH q2
 cases r with
 | false =>
   have HNO:=xH (show ¬ DkOkP d from fun h=>by have:=hr.2 h.made;cases this)
   obtain ⟨y0,y1,y2,y3,y4⟩:=cs5 q2 (by omega)
   have z:=q2.frozen
   simp only [fiveV] at y0 y1 y2 y3 y4
   clear hb1 hb01 q1 q2 hr HFN
   go_wp2_with fail
   try simp only [Exit.inBlock,Exit.then]
   refine bodyPost_ret (v:=.tuple #[zeroVw,.bool false]) (by unfold zeroVw;simp [results,Try.results34,go_sem,y0,y1,y2,y3,y4]) rfl ?_
   exact VwEnd.no (xU HNO) (((((xU HB01).setCell (by simp) _).setCell (by simp) _).setCell (by simp) _).setCell (by simp) _ |>.setCell (by simp) _)
 | true =>
   have HMADE:=xH (hr.1 rfl)
   have k0:=q1.cell (i:=0) (by omega)
   simp only [row3] at k0
   have k02:∀ o',(w1.alloc o').cell? ⟨w.heap.size,0,none⟩=some (.slice a0 d.files.length p0):=fun o'=>by rw [World.cell?_of_block (w:=w1) (Below.heap_alloc _ _ _ (World.block_lt_of_cell? w1 _ k0))];exact k0
   have hmm:=runMake
   clear hb1 hb01 q1 q2 hr HFN
   go_wp2_with fail
   go_region
   have hW2s:((w1.alloc (.map #[] 0)).alloc (.cells #[.slice a0 d.files.length p0,.map (some w1.heap.size)] 84)).drew.heap.size=w1.heap.size+2:=by simp
   have hb2:Below w1.heap.size w1 ((w1.alloc (.map #[] 0)).alloc (.cells #[.slice a0 d.files.length p0,.map (some w1.heap.size)] 84)).drew:=(((Below.refl _ _).alloc (Nat.le_refl _) _).alloc (by simp) _).drew
   have hown0:((w1.alloc (.map #[] 0)).alloc (.cells #[.slice a0 d.files.length p0,.map (some w1.heap.size)] 84)).drew.ownsMap Try.prog 9 (plainElem (H:=Unit) Try.prog 3) w1.heap.size 0 (.map []):=((World.ownsMap_made w1 _ _ _).alloc _).drew
   have q4:((w1.alloc (.map #[] 0)).alloc (.cells #[.slice a0 d.files.length p0,.map (some w1.heap.size)] 84)).drew.rowIs (w1.heap.size+1) 84 2 (rowO (.slice a0 d.files.length p0) (.map (some w1.heap.size))):=by
    have:=rowO_alloc (w1.alloc (.map #[] 0)) (.slice a0 d.files.length p0) (.map (some w1.heap.size)) 84
    rw [World.size_alloc] at this
    exact this
   generalize ((w1.alloc (.map #[] 0)).alloc (.cells #[.slice a0 d.files.length p0,.map (some w1.heap.size)] 84)).drew=W2 at *
   have k03:W2.cell? ⟨w.heap.size,0,none⟩=some (.slice a0 d.files.length p0):=by rw [hb2.cell (p:=⟨w.heap.size,0,none⟩) (by show w.heap.size < w1.heap.size;omega)];exact k0
   have HB2:=xH hb2;have HO0:=xH hown0;have Q4:=xH q4
   have HST:=xH (fun k (hk:k < d.files.length)=>show nmap (d.files.map Df.name) (k+1)=(nmap (d.files.map Df.name) k).put (nkey d.files[k].name) (.lit (.int .i64 k)) by
    rw [nmap];congr 2;simp [List.getD,hk])
   have HHAS:=xH (fun k (hk:k < d.files.length) x=>has_nmap (d.files.map Df.name) x k (by rw [List.length_map];omega))
   clear hb2 hown0 q4 k0 k02 hmm
   go_wp2_with fail
   clear k03
   go_loopw [41] (fun i wr=>∃ (k:Nat),k≤d.files.length∧i=.int .i64 k∧Hid (wr.ownsMap Try.prog 9 (plainElem (H:=Unit) Try.prog 3) w1.heap.size k (nmap (d.files.map Df.name) k))∧Hid (wr.rowIs (w1.heap.size+1) 84 2 (rowO (.slice a0 d.files.length p0) (.map (some w1.heap.size))))∧Hid (∀ j (h:j < d.files.length),j < k→d.files[j].name∉(d.files.map Df.name).take j∧fOkB d.files[j]=true)∧Hid (Below w1.heap.size w1 wr)) (fun i _=>d.files.length - (intOf i).toNat)
   case atStart=>exact ⟨0,Nat.zero_le _,rfl,xU HO0,xU Q4,fun j _ hj=>by omega,xU HB2⟩
   case round =>
    obtain ⟨k,hk,rfl,HO,HT,HF,HB⟩:=hrel
    have hws:w1.heap.size+2≤wr.heap.size:=by have:=HT.out.lt;omega
    have HBW:=xH ((xU HB01).trans (HB.out.mono (by omega)))
    by_cases hlt:k < d.files.length
    rotate_left
    · obtain rfl:k=d.files.length:=by omega
      obtain ⟨wa,hwa⟩:∃ wa,wa=wr:=⟨_,rfl⟩
      subst hwa
      have HFALL:=xH (fun j h=>HF.out j h h)
      have q1:=(xU Q1).of_block (HB.out.block w.heap.size (by omega))
      have k1:=q1.cell (i:=1) (by omega);have k2:=q1.cell (i:=2) (by omega)
      simp only [row3] at k1 k2
      have k2a:∀ o',(wa.alloc o').cell? ⟨w.heap.size,2,none⟩=some (.slice a2 d.moves.length p2):=fun o'=>by rw [World.cell?_of_block (w:=wa) (Below.heap_alloc _ _ _ (World.block_lt_of_cell? wa _ k2))];exact k2
      clear HF hlt hk q1
      go_wp2_with fail
      have q5:=fiveV_alloc wa (.pointer (some ⟨w1.heap.size+1,0,none⟩)) (.pointer (some ⟨w1.heap.size+1,0,none⟩)) (.slice a1 d.names.length p1) (.pointer (some ⟨w1.heap.size+1,0,none⟩)) (.slice none 0 0) 71
      have hb5:Below wa.heap.size wa (wa.alloc (.cells #[.pointer (some ⟨w1.heap.size+1,0,none⟩),.pointer (some ⟨w1.heap.size+1,0,none⟩),.slice a1 d.names.length p1,.pointer (some ⟨w1.heap.size+1,0,none⟩),.slice none 0 0] 71)):=(Below.refl _ _).alloc (Nat.le_refl _) _
      generalize wa.alloc (.cells #[.pointer (some ⟨w1.heap.size+1,0,none⟩),.pointer (some ⟨w1.heap.size+1,0,none⟩),.slice a1 d.names.length p1,.pointer (some ⟨w1.heap.size+1,0,none⟩),.slice none 0 0] 71)=W5 at *
      have Q5:=xH q5;have HB5:=xH hb5
      obtain ⟨j0,hj,hy0,hy1,hy2⟩:=infoFnD
      have HJJ:=xH hj;have HY0:=xH hy0;have HY1:=xH hy1;have HY2:=xH hy2
      clear k1 k2 k2a q5 hb5 hj hy0 hy1 hy2
      go_loopw [82] (fun i wr=>∃ (k:Nat) (am:Option Addr) (cm:Nat) (Bs:List Nat),k≤d.moves.length∧i=.int .i64 k∧Hid (wr.rowIs wa.heap.size 71 5 (fiveV (.pointer (some ⟨w1.heap.size+1,0,none⟩)) (.pointer (some ⟨w1.heap.size+1,0,none⟩)) (.slice a1 d.names.length p1) (.pointer (some ⟨w1.heap.size+1,0,none⟩)) (.slice am k cm)))∧Hid (Mvs wa.heap.size wr (.slice am k cm) (d.moves.take k) Bs)∧Hid (Below wa.heap.size wa wr)) (fun i _=>d.moves.length - (intOf i).toNat)
      case atStart=>exact ⟨0,none,0,[],Nat.zero_le _,rfl,xU Q5,Mvs.start _ _,xU HB5⟩
      case round =>
       clear Q5 HB5
       obtain ⟨k,am,cm,Bs,hk,rfl,HR,HM,HBV⟩:=hrel
       have hvs:wa.heap.size < wr.heap.size:=HR.out.lt
       have HBWV:=xH ((xU HBW).trans (HBV.out.mono (by omega)))
       by_cases hlt:k < d.moves.length
       rotate_left
       · obtain rfl:k=d.moves.length:=by omega
         have hm:=HM.out
         rw [List.take_of_length_le (Nat.le_refl _)] at hm
         have hokm:∀ m,m∈d.moves→m.okM:=fun m hm'=>by
          obtain ⟨i,hi,rfl⟩:=List.getElem_of_mem hm'
          obtain ⟨_,_,_,_,_,_,h⟩:=xU HMC i hi
          exact h
         have hfn:FnAt (New wa wr) wr (.slice am d.moves.length cm) d.moves:=hm.fns (Nat.le_refl _) hokm
         have hmov:=moved_any d.names d.moves (.pointer (some ⟨w1.heap.size+1,0,none⟩)) (.pointer (some ⟨w1.heap.size+1,0,none⟩)) (.slice a1 d.names.length p1) (.pointer (some ⟨w1.heap.size+1,0,none⟩)) (.slice am d.moves.length cm) (fun b=>b < wr.heap.size) wr (fun _ h=>h) ((xU HD).ns.carry (fun b hb=>(xU HBWV).block b (xU HP b hb)) (fun b hb=>Nat.lt_of_lt_of_le (xU HP b hb) (xU HBWV).size)) (hfn.carry (fun _ _=>rfl) (fun b hb=>hb.2)) d.moves.length (Nat.le_refl _) (by have:=(xU HMADE).le;omega) (by omega)
         rw [List.take_of_length_le (Nat.le_refl _)] at hmov
         have HMOV:=xH hmov;have HFN:=xH hfn
         obtain ⟨r0,r1,r2,r3,r4⟩:=cs5 HR.out (by omega)
         simp only [fiveV] at r0 r1 r2 r3 r4
         have q1:=(xU Q1).of_block ((HBV.out.block w.heap.size (by omega)).trans (HB.out.block w.heap.size (by omega)))
         have k2:=q1.cell (i:=2) (by omega)
         simp only [row3] at k2
         have hbv:=HBV.out.size
         clear hm hokm hfn hmov q1 hlt hk
         go_wp2_with fail
         refine (xU HMOV).mono ?_
         intro e w7 hend
         have hb7:Below wr.heap.size wr w7:=by
          unfold MvEnd at hend
          split at hend
          · exact hend.2
          · exact hend.choose_spec.2.below
         have hs7:=hb7.size
         have hr7:=HR.out.of_block (hb7.block wa.heap.size hvs)
         obtain ⟨s0,s1,s2,s3,s4⟩:=cs5 hr7 (by omega)
         simp only [fiveV] at s0 s1 s2 s3 s4
         have q2:=(xU Q2).of_block ((hb7.block (w.heap.size+1) (by omega)).trans ((HBV.out.block (w.heap.size+1) (by omega)).trans (HB.out.block (w.heap.size+1) (by omega))))
         obtain ⟨y0,y1,y2,y3,y4⟩:=cs5 q2 (by omega)
         have z:=q2.frozen
         simp only [fiveV] at y0 y1 y2 y3 y4
         have HB7:=xH hb7
         have HBW7:=xH ((xU HBWV).trans (hb7.mono (xU HBWV).size))
         clear r0 r1 r2 r3 r4 k2 HMOV hb7 q2 hr7
         cases hf:mfold d.names d.moves with
         | none =>
           rw [hf] at hend
           obtain ⟨rfl,-⟩:=hend
           have HNO:=xH (show ¬ DkOkP d from fun h=>by have:=h.move;rw [hf] at this;cases this)
           clear hf
           go_wp2_with fail
           try simp only [Exit.inBlock,Exit.then]
           refine bodyPost_ret (v:=.tuple #[.agg #[.pointer (some ⟨w1.heap.size+1,0,none⟩),.pointer (some ⟨w1.heap.size+1,0,none⟩),.slice a1 d.names.length p1,.pointer (some ⟨w1.heap.size+1,0,none⟩),.slice am d.moves.length cm],.bool false]) (by simp [results,Try.results34,go_sem,y0,y1,y2,y3,y4]) rfl ?_
           exact VwEnd.no (xU HNO) ((((((xU HBW7).setCell (by simp) _).setCell (by simp) _).setCell (by simp) _).setCell (by simp) _).setCell (by simp) _)
         | some l =>
           rw [hf] at hend
           obtain ⟨v7,rfl,-⟩:=hend
           have HYES:=xH (show DkOkP d from ⟨by omega,by omega,xU HMADE,xU HFALL,by rw [hf];rfl⟩)
           clear hf
           go_wp2_with fail
           try simp only [Exit.inBlock,Exit.then]
           refine bodyPost_ret (v:=.tuple #[.agg #[.pointer (some ⟨w1.heap.size+1,0,none⟩),.pointer (some ⟨w1.heap.size+1,0,none⟩),.slice a1 d.names.length p1,.pointer (some ⟨w1.heap.size+1,0,none⟩),.slice am d.moves.length cm],.bool true]) (by simp [results,Try.results34,go_sem,y0,y1,y2,y3,y4]) rfl ?_
           have hoth:=set5_other w7 (w.heap.size+1) (.pointer (some ⟨w1.heap.size+1,0,none⟩)) (.pointer (some ⟨w1.heap.size+1,0,none⟩)) (.slice a1 d.names.length p1) (.pointer (some ⟨w1.heap.size+1,0,none⟩)) (.slice am d.moves.length cm)
           have hsz9:=set5_size w7 (w.heap.size+1) (.pointer (some ⟨w1.heap.size+1,0,none⟩)) (.pointer (some ⟨w1.heap.size+1,0,none⟩)) (.slice a1 d.names.length p1) (.pointer (some ⟨w1.heap.size+1,0,none⟩)) (.slice am d.moves.length cm)
           have hB1:∀ b,w1.heap.size≤b→b < wa.heap.size→w7.heap[b]? = wa.heap[b]? := fun b _ h2=>((xU HB7).block b (by omega)).trans (HBV.out.block b h2)
           refine ⟨true,_,_,_,_,_,_,_,_,_,rfl,by simp [xU HYES],((((((xU HBW7).setCell (by simp) _).setCell (by simp) _).setCell (by simp) _).setCell (by simp) _).setCell (by simp) _),fun _=>⟨w1.heap.size+1,w1.heap.size,_,rfl,⟨by omega,by rw [hsz9];omega⟩,⟨by omega,by rw [hsz9];omega⟩,?_,?_,?_⟩⟩
           · exact HT.out.of_block ((hoth _ (by omega)).trans (hB1 _ (by omega) (by omega)))
           · unfold NMap
             rw [List.length_map]
             exact ownsMap_block HO.out ((hoth _ (by omega)).trans (hB1 _ (by omega) (by omega)))
           · exact (xU HFN).carry (fun b hb=>(hoth b (by have:=hb.1;omega)).trans ((xU HB7).block b hb.2)) (fun b hb=>⟨by have:=hb.1;omega,by rw [hsz9];have:=hb.2;omega⟩)
       · obtain ⟨b,o,rfl,hpb,hc0,hc1,hok⟩:=xU HMC k hlt
         have e0:wr.cell? ⟨b,o+k * 2,none⟩=some (.bool d.moves[k].gone):=by rw [(xU HBWV).cell (p:=⟨b,o+k * 2,none⟩) (xU HP b hpb)];exact hc0
         have e1:wr.cell? ⟨b,o+k * 2+1,none⟩=some (.string d.moves[k].name):=by rw [(xU HBWV).cell (p:=⟨b,o+k * 2+1,none⟩) (xU HP b hpb)];exact hc1
         have r4:=HR.out.cell (i:=4) (by omega)
         simp only [fiveV] at r4
         have r4a:∀ o',(wr.alloc o').cell? ⟨wa.heap.size,4,none⟩=some (.slice am k cm):=fun o'=>by rw [World.cell?_of_block (w:=wr) (Below.heap_alloc _ _ _ hvs)];exact r4
         have htk:(d.moves.take k).length=k:=by rw [List.length_take];omega
         have HTK:=xH htk
         have HTS:=xH (List.take_succ_eq_append_getElem hlt)
         have hcall:∀ o',Calls Try.prog 55 #[.agg #[.bool d.moves[k].gone,.string d.moves[k].name]] (wr.alloc o').drew fun e w6=>∃ B6,e=.returned (mvF d.moves[k].gone B6)∧Hid (Mvs wa.heap.size w6 (.slice am k cm) (d.moves.take k) Bs)∧Hid (wa.heap.size+1≤B6∧w6.heap[B6]? = some (.cells #[.bool d.moves[k].gone,.string d.moves[k].name] 60))∧Hid (w6.rowIs wa.heap.size 71 5 (fiveV (.pointer (some ⟨w1.heap.size+1,0,none⟩)) (.pointer (some ⟨w1.heap.size+1,0,none⟩)) (.slice a1 d.names.length p1) (.pointer (some ⟨w1.heap.size+1,0,none⟩)) (.slice am k cm)))∧Hid (Below wa.heap.size wa w6)∧wa.heap.size < w6.heap.size∧w6.cell? ⟨wa.heap.size,4,none⟩=some (.slice am k cm)∧∀ ob,(w6.alloc ob).cell? ⟨wa.heap.size,4,none⟩=some (.slice am k cm):=fun o'=>by
          refine (movingOf_any d.moves[k] _).mono ?_
          rintro e w6 ⟨rfl,rfl⟩
          have hr6:((wr.alloc o').drew.alloc (.cells #[.bool d.moves[k].gone,.string d.moves[k].name] 60)).rowIs wa.heap.size 71 5 (fiveV (.pointer (some ⟨w1.heap.size+1,0,none⟩)) (.pointer (some ⟨w1.heap.size+1,0,none⟩)) (.slice a1 d.names.length p1) (.pointer (some ⟨w1.heap.size+1,0,none⟩)) (.slice am k cm)):=HR.out.of_block ((Below.heap_alloc _ _ _ (by show wa.heap.size < (wr.alloc o').heap.size;simp;omega)).trans (Below.heap_alloc wr o' _ hvs))
          have c6:=hr6.cell (i:=4) (by omega)
          simp only [fiveV] at c6
          refine ⟨_,rfl,(HM.out.alloc o').drew.alloc _,⟨by show wa.heap.size+1≤(wr.alloc o').heap.size;simp;omega,heap_alloc_new _ _⟩,hr6,((HBV.out.alloc HBV.out.size o').drew).alloc (by show wa.heap.size≤(wr.alloc o').heap.size;simp;omega) _,hr6.lt,c6,fun ob=>?_⟩
          rw [World.cell?_of_block (Below.heap_alloc _ _ _ hr6.lt)];exact c6
         have HCALL:=xH hcall
         have hmv:∀ B,mvF d.moves[k].gone B=.func (.func (if d.moves[k].gone then 77 else 76)) #[] #[.pointer (some ⟨B,0,none⟩)]:=fun _=>rfl
         clear hcall hc0 hc1 hpb hok htk
         generalize d.moves[k]=m at *
         generalize (if m.gone then 77 else 76)=fnum at *
         obtain ⟨g,nm⟩:=m
         simp only at *
         simp only [hmv] at HCALL
         have HMV:=xH hmv
         clear hmv
         go_wp2_with fail
         go_region_law (first
          | ((refine step_append_lies _ (by rfl) _ _ _ (by rfl) (wa.heap.size+1) 98 j0 .nilFunc 1 8 Try.underlying67 (xU HJJ) (xU HY0) (xU HY1) (xU HY2) rfl (by decide) (.slice am k cm) k (fcells (d.moves.take k) Bs) (by rfl) (by have:=HM6.out.own;rw [xU HTK] at this;exact this.alloc _) ⟨w6.heap.size,0,none⟩ 1 1 [.func (.func fnum) #[] #[.pointer (some ⟨B6,0,none⟩)]] (by rfl) (by rfl) (cell_one w6 _ _) (fun u hu=>by simp at hu;subst hu;rfl) (by decide) (by unfold maxLen;omega) (by omega) (by simp;omega) (w6.heap.size+1) (by simp) ?_;intro g2 cap2 w8 hown8 hgrow8 hat8 hlt8;have hr8:=HR6.out.of_block ((hgrow8.block wa.heap.size (by simp;omega) (fun e=>by have:=(HM6.out.own.lt wa.heap.size e.symm).1;omega)).trans (Below.heap_alloc w6 _ _ hs6));have u4:=hr8.cell (i:=4) (by omega);have uz4:=hr8.frozen 4;simp only [fiveV] at u4))
          | (rw [if_pos (by first | rfl | simp [Region.wanted])];go_simp;refine (xU HCALL _).mono ?_;rintro e w6 ⟨B6,rfl,HM6,HB6,HR6,HBL6,hs6,t4,t4a⟩))
         all_goals
          have hM8:Mvs wa.heap.size w8 (.slice (some ⟨g2,0,none⟩) (k+1) cap2) (d.moves.take (k+1)) (Bs++[B6]):=by
           rw [xU HTS]
           refine (HM6.out.alloc _).snoc ⟨g,nm⟩ B6 HB6.out.1 ((Below.heap_alloc w6 _ _ (Array.getElem?_eq_some_iff.1 HB6.out.2).1).trans HB6.out.2) ?_ hgrow8
           rw [xU HTK,xU HMV]
           exact hown8
          have HM9:=xH (hM8.set 4 (.slice (some ⟨g2,0,none⟩) (k+1) cap2))
          have HR9:=xH (fiveV_set4 hr8 (.slice (some ⟨g2,0,none⟩) (k+1) cap2))
          have HBL9:=xH ((((HBL6.out.alloc HBL6.out.size _).grown hgrow8 (by simp;omega) (fun j e=>by have:=(HM6.out.own.lt j e).1;omega)).setCell (p:=⟨wa.heap.size,4,none⟩) (Nat.le_refl _) (.slice (some ⟨g2,0,none⟩) (k+1) cap2)))
          clear hM8 hr8 u4 uz4 hown8 hgrow8 hat8 hlt8 HM6 HB6 HR6 HBL6 t4 t4a hs6
          go_wp2_with fail
          go_roundw
          case rel=>exact ⟨k+1,some ⟨g2,0,none⟩,cap2,Bs++[B6],by omega,by go_num,xU HR9,xU HM9,xU HBL9⟩
          case measure=>simp [intOf];omega
    · obtain ⟨b,o,rfl,hpb,hcell,hok⟩:=xU HFC k hlt
      obtain ⟨e0,e1,e2⟩:=hcell.carry ((xU HBW).block b (xU HP b hpb))
      simp only at e0 e1 e2
      have t1:=HT.out.cell (i:=1) (by omega)
      simp only [rowO] at t1
      have t1a:∀ o',(wr.alloc o').cell? ⟨w1.heap.size+1,1,none⟩=some (.map (some w1.heap.size)):=fun o'=>by rw [World.cell?_of_block (w:=wr) (Below.heap_alloc _ _ _ (World.block_lt_of_cell? wr _ t1))];exact t1
      have q2:=fun o'=>(xU Q2).of_block ((Below.heap_alloc wr o' (w.heap.size+1) (by omega)).trans (HB.out.block (w.heap.size+1) (by omega)))
      have y0:=fun o'=>(q2 o').cell (i:=0) (by omega);have y1:=fun o'=>(q2 o').cell (i:=1) (by omega);have y2:=fun o'=>(q2 o').cell (i:=2) (by omega);have y3:=fun o'=>(q2 o').cell (i:=3) (by omega);have y4:=fun o'=>(q2 o').cell (i:=4) (by omega)
      have z:=fun o'=>(q2 o').frozen
      simp only [fiveV] at y0 y1 y2 y3 y4
      have hlook:=fun o'=>look_all (HO.out.alloc o') d.files[k].name hok.1
      have HFOK:=xH (fun W=>fileOk_any d.files[k] hok W)
      have HSTK:=xH (xU HST k hlt)
      have HHK:=xH (xU HHAS k hlt d.files[k].name)
      have HBA:=xH (fun o'=>(xU HBW).alloc (xU HBW).size o')
      have HNOF:=xH (show ¬ (d.files[k].name∉(d.files.map Df.name).take k∧fOkB d.files[k]=true)→¬ DkOkP d from fun hn h=>hn (h.file k hlt))
      have HYESF:=xH (show (d.files[k].name∉(d.files.map Df.name).take k∧fOkB d.files[k]=true)→∀ j (h:j < d.files.length),j=k→d.files[j].name∉(d.files.map Df.name).take j∧fOkB d.files[j]=true from fun hh j h e=>by subst e;exact hh)
      have hkey:keyOf Try.prog 9 (.string d.files[k].name)=some (nkey d.files[k].name):=keyOf_string_mk Try.underlying9 (by unfold maxLen;have:=hok.1;omega)
      have HKEY:=xH hkey
      clear hcell hpb hok hkey q2
      generalize d.files[k]=f at *
      obtain ⟨fn,fd,fk⟩:=f
      simp only at *
      obtain ⟨cc,hlk,-,-⟩:=hlook (.cells #[.string fn,.string fd,.int .i64 fk] 44)
      clear hlook
      cases ch:Maps.has (nmap (d.files.map Df.name) k) (nkey fn) with
      | true =>
        rw [ch] at hlk
        have HNO:=xH (xU HNOF (fun h=>h.1 ((xU HHK).1 ch)))
        clear ch
        go_wp2_with fail
        go_quiet (fail)
        go_wp2_with fail
        try simp only [Exit.inBlock,Exit.then]
        refine bodyPost_ret (v:=.tuple #[zeroVw,.bool false]) (by unfold zeroVw;simp [results,Try.results34,go_sem,y0,y1,y2,y3,y4]) rfl ?_
        exact VwEnd.no (xU HNO) (((((bdrewN (xU HBA _) _).setCell (by simp) _).setCell (by simp) _).setCell (by simp) _).setCell (by simp) _ |>.setCell (by simp) _)
      | false =>
        rw [ch] at hlk
        have HNI:=xH (show fn∉(d.files.map Df.name).take k from fun h=>by have:=(xU HHK).2 h;rw [ch] at this;cases this)
        clear ch
        cases cf:fOkB ⟨fn,fd,fk⟩ with
        | false =>
          rw [cf] at HFOK
          have HNO:=xH (xU HNOF (fun h=>by have:=h.2;rw [cf] at this;cases this))
          clear cf
          go_wp2_with fail
          go_quiet (fail)
          go_wp2_with fail
          refine (xU HFOK _).mono ?_
          rintro e w5 ⟨rfl,hb5⟩
          have HB5:=xH ((bdrewN (xU HBA (.cells #[.string fn,.string fd,.int .i64 fk] 44)) nq).trans (hb5.mono (xU HBA _).size))
          have q5:=(xU Q2).of_block ((hb5.block (w.heap.size+1) (by simp;omega)).trans ((Below.heap_alloc wr _ (w.heap.size+1) (by omega)).trans (HB.out.block (w.heap.size+1) (by omega))))
          obtain ⟨x0,x1,x2,x3,x4⟩:=cs5 q5 (by omega)
          have zz:=q5.frozen
          simp only [fiveV] at x0 x1 x2 x3 x4
          clear hb5 q5
          go_wp2_with fail
          try simp only [Exit.inBlock,Exit.then]
          refine bodyPost_ret (v:=.tuple #[zeroVw,.bool false]) (by unfold zeroVw;simp [results,Try.results34,go_sem,x0,x1,x2,x3,x4]) rfl ?_
          exact VwEnd.no (xU HNO) ((((((xU HB5).setCell (by simp) _).setCell (by simp) _).setCell (by simp) _).setCell (by simp) _).setCell (by simp) _)
        | true =>
          rw [cf] at HFOK
          have HYE:=xH (xU HYESF ⟨xU HNI,cf⟩)
          clear cf
          go_wp2_with fail
          go_quiet (fail)
          go_wp2_with fail
          refine (xU HFOK _).mono ?_
          rintro e w5 ⟨rfl,hb5⟩
          have hs5:wr.heap.size+1≤w5.heap.size:=by have:=hb5.size;simpa using this
          have r5:w5.heap[w1.heap.size]? = wr.heap[w1.heap.size]? := (hb5.block w1.heap.size (by simp;omega)).trans (Below.heap_alloc wr _ w1.heap.size (by omega))
          have r6:w5.heap[w1.heap.size+1]? = wr.heap[w1.heap.size+1]? := (hb5.block (w1.heap.size+1) (by simp;omega)).trans (Below.heap_alloc wr _ (w1.heap.size+1) (by omega))
          have hT5:=HT.out.of_block r6
          have s1:=hT5.cell (i:=1) (by omega)
          simp only [rowO] at s1
          have s2:w5.cell? ⟨wr.heap.size,0,none⟩=some (.string fn):=by
           rw [hb5.cell (p:=⟨wr.heap.size,0,none⟩) (by simp)];simp [go_sem]
          obtain ⟨w6,hrun,hown6,hg6⟩:=(ownsMap_block (w':=w5.drew) HO.out r5).update keyLaw Try.underlying82 (by unfold maxLen;omega) (xU HKEY) (plainElem_int Try.underlying3 (a:=(k:Int)) (WalkArith.wf_i64 (by omega)))
          have hbw5:Below w1.heap.size w1 w5:=HB.out.trans (((Below.refl _ _).alloc (by omega) _).trans ((bdrewN (Below.refl _ _) nq).trans (hb5.mono (by simp;omega))))
          have HB6:=xH (hbw5.drew.grown hg6 (by show w1.heap.size≤w5.heap.size;omega) (fun j hj=>by cases hj;exact Nat.le_refl _))
          have HT6:=xH (hT5.of_block (hg6.block (w1.heap.size+1) (by show w1.heap.size+1 < w5.heap.size;omega) (by simp)))
          rw [← xU HSTK] at hown6
          have HO6:=xH hown6
          clear hb5 hT5 hown6 hg6 hbw5 r5 r6
          go_wp2_with fail
          go_region
          go_wp2_with fail
          go_roundw
          case rel=>exact ⟨k+1,by omega,by go_num,xU HO6,xU HT6,fun j h hj=>by
           by_cases e:j=k
           · exact xU HYE j h e
           · exact HF.out j h (by omega),xU HB6⟩
          case measure=>simp [intOf];omega
end Go.Proofs.Yteikmbkljkkjiaa

namespace Go.Proofs.Yteikmbkljkkjiaa
open Go Go.RowKit
end Go.Proofs.Yteikmbkljkkjiaa

namespace Go.Proofs.Yteikmbkljkkjiaa
open Go Go.RowKit
theorem name_size {s:ByteArray} (h:nameOkB s=true):s.size≤8:=by
 unfold nameOkB at h
 simp only [Bool.and_eq_true,decide_eq_true_eq] at h
 omega
end Go.Proofs.Yteikmbkljkkjiaa

namespace Go.Proofs.Yteikmbkljkkjiaa
open Go Go.RowKit
def kidOf (k:Kd) (i:Nat):Kd:=if k.sort=5 then k.kids.getD i (.mk 0 [] []) else k.kids.getD 0 (.mk 0 [] [])
mutual
def hT:Tr→Kd→Bool
 | .mk s _ _ ns ks,k=>decide (k.sort=s) && decide (k.names=ns) && hK ks k 0
def hK:List Tr→Kd→Nat→Bool
 | [],_,_=>true
 | t::r,k,i=>hT t (kidOf k i) && hK r k (i+1)
end
theorem lst_loop (s:ByteArray) (n:Nat):∀ (i:Nat) (r:List UInt8),s.size - i=n→ByteArray.toList.loop s i r=r.reverse++s.data.toList.drop i:=by
 induction n with
 | zero =>
   intro i r h
   unfold ByteArray.toList.loop
   rw [if_neg (by omega),List.drop_eq_nil_of_le (by simp only [Array.length_toList];show s.size≤i;omega),List.append_nil]
 | succ n ih =>
   intro i r h
   unfold ByteArray.toList.loop
   have hi:i < s.size:=by omega
   have e:s.get! i=s.data.toList[i]'(by simpa using hi):=by
    obtain ⟨d⟩:=s
    exact getElem!_pos d i hi
   have hdrop:s.data.toList.drop i=s.data.toList[i]'(by simpa using hi)::s.data.toList.drop (i+1):=List.drop_eq_getElem_cons (by simpa using hi)
   rw [if_pos hi,ih (i+1) _ (by omega),hdrop,e,List.reverse_cons,List.append_assoc]
   rfl
theorem lst_data (s:ByteArray):s.toList=s.data.toList:=by
 have:=lst_loop s s.size 0 [] (by omega)
 rw [List.drop_zero] at this
 exact this
theorem lst_beq (a b:ByteArray):(a.toList==b.toList)=decide (a=b):=by
 rw [lst_data,lst_data,Bool.eq_iff_iff]
 simp only [beq_iff_eq,decide_eq_true_eq]
 constructor
 · intro h;exact ByteArray.ext (Array.toList_inj.1 h)
 · intro h;rw [h]
end Go.Proofs.Yteikmbkljkkjiaa

namespace Go.Proofs.Yteikmbkljkkjiaa
open Go Go.RowKit
theorem sameB_dec (y x:ByteArray):sameB y x=decide (y=x):=lst_beq y x
theorem hasB_iff {ns:List ByteArray} {x:ByteArray}:hasB ns x=true↔x∈ns:=by
 unfold hasB
 rw [List.any_eq_true]
 constructor
 · rintro ⟨y,hy,h⟩
   rw [sameB_dec,decide_eq_true_eq] at h
   rw [← h];exact hy
 · intro h
   exact ⟨x,h,by rw [sameB_dec];simp⟩
theorem without_filter (ns:List ByteArray) (x:ByteArray):withoutB ns x=ns.filter fun y=>!decide (y=x):=by
 unfold withoutB
 congr 1
 funext y
 rw [sameB_dec]
theorem findIdx_some {ns:List ByteArray} {x:ByteArray} (h:x∈ns):∃ i,ns.findIdx? (fun y=>sameB y x)=some i:=by
 cases e:ns.findIdx? (fun y=>sameB y x) with
 | some i=>exact ⟨i,rfl⟩
 | none =>
   rw [List.findIdx?_eq_none_iff] at e
   have:=e x h
   rw [sameB_dec] at this
   simp at this
theorem findIdx_none {ns:List ByteArray} {x:ByteArray} (h:x∉ns):ns.findIdx? (fun y=>sameB y x)=none:=by
 rw [List.findIdx?_eq_none_iff]
 intro y hy
 rw [sameB_dec]
 simp only [decide_eq_false_iff_not]
 rintro rfl
 exact h hy
theorem without_idx {ns:List ByteArray} {x:ByteArray} {i:Nat} (hnd:ns.Nodup) (h:ns.findIdx? (fun y=>sameB y x)=some i):ns.take i++ns.drop (i+1)=withoutB ns x:=by
 obtain ⟨hi,hx,-⟩:=List.findIdx?_eq_some_iff_getElem.1 h
 rw [sameB_dec,decide_eq_true_eq] at hx
 have hns:ns=ns.take i++x::ns.drop (i+1):=by
  rw [← hx,← List.drop_eq_getElem_cons hi,List.take_append_drop]
 rw [without_filter]
 have hnd2:=hnd
 rw [hns] at hnd2
 obtain ⟨-,h2,h3⟩:=List.nodup_append.1 hnd2
 have h4:x∉ns.drop (i+1):=(List.nodup_cons.1 h2).1
 have h5:x∉ns.take i:=fun hm=>h3 x hm x List.mem_cons_self rfl
 conv=>rhs;rw [hns]
 rw [List.filter_append,List.filter_cons]
 simp only [decide_true,Bool.not_true,Bool.false_eq_true,if_false]
 rw [List.filter_eq_self.2 (fun y hy=>by simp;rintro rfl;exact h5 hy),List.filter_eq_self.2 (fun y hy=>by simp;rintro rfl;exact h4 hy)]
theorem mstep_mem {l:List ByteArray} {m:Dm} (hnd:l.Nodup) (h:m.gone=true→m.name∈l):mstep l m=some (stepD l m):=by
 unfold mstep stepD
 cases e:m.gone with
 | false=>simp
 | true =>
   obtain ⟨i,hi⟩:=findIdx_some (h e)
   simp only [if_true,hi,without_idx hnd hi]
theorem mstep_not {l:List ByteArray} {m:Dm} (hg:m.gone=true) (h:m.name∉l):mstep l m=none:=by
 unfold mstep
 simp only [hg,if_true,findIdx_none h]
theorem made_sub (ns:List ByteArray) (ms:List Dm) (k:Nat):(madeD ns (ms.take k)).Sublist (madeD ns ms):=by
 unfold madeD
 exact List.Sublist.append (List.Sublist.refl _) (((List.take_sublist k ms).filter _).map _)
theorem after_nodup {ns:List ByteArray} {ms:List Dm} (hnd:(madeD ns ms).Nodup):∀ k,k≤ms.length→(afterD ns (ms.take k)).Nodup∧∀ x,x∈afterD ns (ms.take k)→x∈madeD ns (ms.take k)
 | 0,_=>by
   have h0:madeD ns (ms.take 0)=ns:=by simp [madeD]
   have:=hnd.sublist (made_sub ns ms 0)
   rw [h0] at this ⊢
   exact ⟨this,fun x hx=>hx⟩
 | k+1,hk=>by
   obtain ⟨h1,h2⟩:=after_nodup hnd k (by omega)
   have hm:=made_take (ns:=ns) (ms:=ms) (k:=k) (by omega)
   have hn:=hnd.sublist (made_sub ns ms (k+1))
   rw [after_take (by omega)]
   unfold stepD
   cases e:ms[k].gone with
   | true =>
     rw [e] at hm
     simp only [if_true] at hm ⊢
     rw [hm]
     unfold withoutB
     exact ⟨h1.sublist List.filter_sublist,fun x hx=>h2 x (List.mem_filter.1 hx).1⟩
   | false =>
     rw [e] at hm
     simp only [Bool.false_eq_true,if_false] at hm ⊢
     rw [hm] at hn ⊢
     obtain ⟨-,-,h5⟩:=List.nodup_append.1 hn
     refine ⟨List.nodup_append.2 ⟨h1,by simp,fun a ha b hb=>?_⟩,fun x hx=>?_⟩
     · exact h5 a (h2 a ha) b hb
     · rcases List.mem_append.1 hx with h | h
       · exact List.mem_append.2 (Or.inl (h2 x h))
       · exact List.mem_append.2 (Or.inr h)
theorem mfold_after {ns:List ByteArray} {ms:List Dm} (hnd:(madeD ns ms).Nodup) (hmv:∀ i (h:i < ms.length),ms[i].gone=true→ms[i].name∈afterD ns (ms.take i)):∀ k,k≤ms.length→mfold ns (ms.take k)=some (afterD ns (ms.take k))
 | 0,_=>rfl
 | k+1,hk=>by
   rw [mfold_take (by omega),mfold_after hnd hmv k (by omega),after_take (by omega)]
   exact mstep_mem (after_nodup hnd k (by omega)).1 (hmv k (by omega))
theorem mfold_conv {ns:List ByteArray} {ms:List Dm} (hnd:(madeD ns ms).Nodup):∀ k,k≤ms.length→(mfold ns (ms.take k)).isSome=true→∀ i (h:i < ms.length),i < k→ms[i].gone=true→ms[i].name∈afterD ns (ms.take i)
 | 0,_,_=>fun i _ hi=>by omega
 | k+1,hk,hs=>by
   have hsk:(mfold ns (ms.take k)).isSome=true:=by
    rw [mfold_take (by omega)] at hs
    cases e:mfold ns (ms.take k) with
    | none=>rw [e] at hs;cases hs
    | some l=>rfl
   have ih:=mfold_conv hnd k (by omega) hsk
   have hex:mfold ns (ms.take k)=some (afterD ns (ms.take k)):=by
    have:=mfold_after (ns:=ns) (ms:=ms.take k) (hnd.sublist (made_sub ns ms k)) (fun i h hg=>by
     have hi:i < k:=by rw [List.length_take] at h;omega
     rw [List.getElem_take] at hg ⊢
     rw [List.take_take,Nat.min_eq_left (by omega)]
     exact ih i (by omega) hi hg) k (by rw [List.length_take];omega)
    rwa [List.take_take,Nat.min_self] at this
   intro i h hi hg
   by_cases e:i=k
   · subst e
     refine Classical.byContradiction fun hno=>?_
     rw [mfold_take (by omega),hex] at hs
     simp only [Option.bind_some,mstep_not hg hno] at hs
     cases hs
   · exact ih i h (by omega) hg
theorem nodup_take {l:List ByteArray} (h:∀ i (hi:i < l.length),l[i]∉l.take i):l.Nodup:=by
 unfold List.Nodup
 rw [List.pairwise_iff_getElem]
 intro i j hi hj hij e
 refine h j hj ?_
 rw [← e]
 exact List.mem_take_iff_getElem.2 ⟨i,by omega,rfl⟩
theorem named_eq {fs:List Df} {ns:List ByteArray} (h:FNamed fs ns):fs.map Df.name=ns:=by
 apply List.ext_getElem
 · rw [List.length_map];exact h.len
 · intro i h1 h2
   rw [List.length_map] at h1
   have:=h.same i h1 h2
   rw [sameB_dec,decide_eq_true_eq] at this
   rw [List.getElem_map];exact this
theorem dkOk_iff (d:Dk):DkOkS d↔DkOkP d:=by
 constructor
 · intro h
   have hnamed:FNamed d.files (madeD d.names d.moves):=⟨h.len.symm,fun i h1 h2=>(h.file i h1 h2).same⟩
   have heq:=named_eq hnamed
   have hno:∀ i (hi:i < d.files.length),d.files[i].name∉(d.files.map Df.name).take i:=fun i hi hm=>by
    have hf:=(h.file i hi (by rw [h.len];exact hi)).find
    obtain ⟨j,hj,e⟩:=List.mem_take_iff_getElem.1 hm
    rw [List.length_map] at hj
    rw [List.getElem_map] at e
    unfold findF at hf
    cases e2:d.files.findIdx? (fun f=>sameB f.name d.files[i].name) with
    | none=>rw [e2] at hf;simp only at hf;omega
    | some q =>
      rw [e2] at hf
      simp only at hf
      obtain ⟨hq,-,hlt⟩:=List.findIdx?_eq_some_iff_getElem.1 e2
      have:=hlt j (by omega)
      rw [sameB_dec,e] at this
      simp at this
   have hnd:(madeD d.names d.moves).Nodup:=by
    rw [← heq]
    refine nodup_take fun i hi=>?_
    rw [List.length_map] at hi
    rw [List.getElem_map]
    exact hno i hi
   refine ⟨h.l1,h.l3,⟨?_,hnamed⟩,fun i hi=>⟨hno i hi,?_⟩,?_⟩
   · rw [← h.len];unfold madeD;rw [List.length_append];omega
   · have hf:=h.file i hi (by rw [h.len];exact hi)
     unfold fOkB
     rw [hf.name,decide_eq_true hf.data,decide_eq_true hf.kept];rfl
   · have:=mfold_after hnd (fun i hi hg=>hasB_iff.1 (h.move i hi hg)) d.moves.length (Nat.le_refl _)
     rw [List.take_of_length_le (Nat.le_refl _)] at this
     rw [this];rfl
 · intro h
   have heq:=named_eq h.made.named
   have hnd:(madeD d.names d.moves).Nodup:=by
    rw [← heq]
    refine nodup_take fun i hi=>?_
    rw [List.length_map] at hi
    rw [List.getElem_map]
    exact (h.file i hi).1
   refine ⟨h.l1,by have:=h.made.le;have:=h.l1;omega,h.l3,h.made.named.len.symm,fun i hi h2=>?_,fun i hi hg=>hasB_iff.2 ?_⟩
   · have hf:=(h.file i hi).2
     unfold fOkB at hf
     simp only [Bool.and_eq_true,decide_eq_true_eq] at hf
     refine ⟨hf.1.1,h.made.named.same i hi h2,hf.1.2,hf.2,?_⟩
     refine findF_yes i hi (by rw [sameB_dec];simp) (fun j hj hjl=>?_)
     rw [sameB_dec,decide_eq_false_iff_not]
     intro e
     refine (h.file i hi).1 (List.mem_take_iff_getElem.2 ⟨j,by rw [List.length_map];omega,?_⟩)
     rw [List.getElem_map];exact e
   · exact mfold_conv hnd d.moves.length (Nat.le_refl _) (by rw [List.take_of_length_le (Nat.le_refl _)];exact h.move) i hi hi hg
end Go.Proofs.Yteikmbkljkkjiaa

namespace Go.Proofs.Yteikmbkljkkjiaa
open Go Go.RowKit Go.WideMaps Go.Maps
theorem idxB_has (ss:List ByteArray) (x:ByteArray):decide ((0:Int)≤idxB ss x)=hasB ss x:=by
 rw [Bool.eq_iff_iff,decide_eq_true_eq,hasB_iff]
 unfold idxB
 constructor
 · intro h
   cases e:ss.findIdx? (fun y=>sameB y x) with
   | none=>rw [e] at h;simp at h
   | some i =>
     obtain ⟨hi,hx,-⟩:=List.findIdx?_eq_some_iff_getElem.1 e
     rw [sameB_dec,decide_eq_true_eq] at hx
     rw [← hx];exact List.getElem_mem hi
 · intro h
   obtain ⟨i,hi⟩:=findIdx_some h
   rw [hi];simp
theorem contains_any (v:Value) (ss:List ByteArray) (x:ByteArray) (w:World) {P:Nat→Prop} (hv:StrsAt P w v ss) :
 Calls Try.prog 64 #[v,.string x] w fun e w'=>e=.returned (.bool (hasB ss x))∧w'=w:=by
 have HI:=xH (index_any v ss x w hv)
 have HH:=xH (idxB_has ss x)
 generalize idxB ss x=n at *
 clear hv
 go_enter Try.func64,Try.ntmps64
 go_wp2_with (go_at_call 78;refine (xU HI).mono ?_;rintro e w' ⟨rfl,rfl⟩)
 go_ret
 exact ⟨by rw [← xU HH];rfl,rfl⟩
def clampQ (q:Int) (n:Nat):Nat:=(max 0 (min q (n:Int))).toNat
theorem clampQ_le (q:Int) (n:Nat):clampQ q n≤n:=by unfold clampQ;omega
theorem clampQ_int (q:Int) (n:Nat):((clampQ q n:Nat):Int)=max 0 (min q (n:Int)):=by unfold clampQ;omega
theorem behind_any (ns:List ByteArray) (ms:List Dm) (q0 q1:Option Addr) (x2:Option Addr) (n2 m2:Nat) (q3:Option Addr) (x4:Option Addr) (n4 m4:Nat) (P:Nat→Prop) (w:World) (hP:∀ b,P b→b < w.heap.size) (hn:StrsAt P w (.slice x2 n2 m2) ns) (hf:FnAt P w (.slice x4 n4 m4) ms) (q:Int) (hl1:ns.length≤1000) (hl2:ms.length≤1000) (l:List ByteArray) (hl:mfold ns (ms.take (clampQ q ms.length))=some l) :
 Calls Try.prog 43 #[.agg #[.pointer q0,.pointer q1,.slice x2 n2 m2,.pointer q3,.slice x4 n4 m4],.int .i64 q] w fun e w'=>∃ v',e=.returned v'∧NmOwn w w' v' l.length l:=by
 have hbx:∀ o,Below w.heap.size w (w.alloc o):=fun o=>(Below.refl _ _).alloc (Nat.le_refl _) o
 have HMV:=xH (fun o=>moved_any ns ms (.pointer q0) (.pointer q1) (.slice x2 n2 m2) (.pointer q3) (.slice x4 n4 m4) P (w.alloc o) (fun b hb=>Nat.lt_of_lt_of_le (hP b hb) (hbx o).size) (hn.carry (fun b hb=>(hbx o).block b (hP b hb)) (fun _ h=>h)) (hf.carry (fun b hb=>(hbx o).block b (hP b hb)) (fun _ h=>h)) (clampQ q ms.length) (clampQ_le _ _) hl1 hl2)
 obtain ⟨am,cm,e4,-,-,-⟩:=hf
 simp only [Value.slice.injEq] at e4
 obtain ⟨rfl,rfl,rfl⟩:=e4
 rw [hl,clampQ_int] at HMV
 have HBX:=xH hbx
 clear hn hl hbx hP
 go_enter Try.func43,Try.ntmps43
 go_wp2_with fail
 refine (xU HMV _).mono ?_
 rintro e w1 ⟨v1,rfl,hn1⟩
 have HN1:=xH hn1
 clear hn1
 go_wp2_with fail
 go_ret
 exact ⟨v1,rfl,ownsRow_base (xU HN1).own (xU HBX _).size,(xU HN1).len,(xU HN1).sz,(xU HBX _).trans ((xU HN1).below.mono (xU HBX _).size)⟩
theorem VwAt.carry {w W W':World} {d:Dk} {c:C3} {V:Value} {T B:Nat} {vm:Value} (h:VwAt w W d c V T B vm) (hb:Below W.heap.size W W'):VwAt w W' d c V T B vm :=
 ⟨h.val,⟨h.tb.1,Nat.lt_of_lt_of_le h.tb.2 hb.size⟩,⟨h.bb.1,Nat.lt_of_lt_of_le h.bb.2 hb.size⟩,h.row.of_block (hb.block T h.tb.2),ownsMap_block h.map (hb.block B h.bb.2),h.fns.carry (fun b hx=>hb.block b hx.2) (fun _ hx=>⟨hx.1,Nat.lt_of_lt_of_le hx.2 hb.size⟩)⟩
theorem clampQ_all (n:Nat):clampQ (n:Int) n=n:=by unfold clampQ;omega
theorem there_any (ns:List ByteArray) (ms:List Dm) (q0 q1:Option Addr) (x2:Option Addr) (n2 m2:Nat) (q3:Option Addr) (x4:Option Addr) (n4 m4:Nat) (P:Nat→Prop) (w:World) (hP:∀ b,P b→b < w.heap.size) (hn:StrsAt P w (.slice x2 n2 m2) ns) (hf:FnAt P w (.slice x4 n4 m4) ms) (hl1:ns.length≤1000) (hl2:ms.length≤1000) (l:List ByteArray) (hl:mfold ns ms=some l) :
 Calls Try.prog 48 #[.agg #[.pointer q0,.pointer q1,.slice x2 n2 m2,.pointer q3,.slice x4 n4 m4]] w fun e w'=>∃ v',e=.returned v'∧NmOwn w w' v' l.length l:=by
 have hbx:∀ o,Below w.heap.size w (w.alloc o):=fun o=>(Below.refl _ _).alloc (Nat.le_refl _) o
 have HMV:=xH (fun o=>behind_any ns ms q0 q1 x2 n2 m2 q3 x4 n4 m4 P (w.alloc o) (fun b hb=>Nat.lt_of_lt_of_le (hP b hb) (hbx o).size) (hn.carry (fun b hb=>(hbx o).block b (hP b hb)) (fun _ h=>h)) (hf.carry (fun b hb=>(hbx o).block b (hP b hb)) (fun _ h=>h)) (ms.length:Int) hl1 hl2 l (by rw [clampQ_all,List.take_of_length_le (Nat.le_refl _)];exact hl))
 obtain ⟨am,cm,e4,-,-,-⟩:=hf
 simp only [Value.slice.injEq] at e4
 obtain ⟨rfl,rfl,rfl⟩:=e4
 have HBX:=xH hbx
 clear hn hl hbx hP
 go_enter Try.func48,Try.ntmps48
 go_wp2_with fail
 refine (xU HMV _).mono ?_
 rintro e w1 ⟨v1,rfl,hn1⟩
 have HN1:=xH hn1
 clear hn1
 go_wp2_with fail
 go_ret
 exact ⟨v1,rfl,ownsRow_base (xU HN1).own (xU HBX _).size,(xU HN1).len,(xU HN1).sz,(xU HBX _).trans ((xU HN1).below.mono (xU HBX _).size)⟩
theorem isThere_any (ns:List ByteArray) (ms:List Dm) (q0 q1:Option Addr) (x2:Option Addr) (n2 m2:Nat) (q3:Option Addr) (x4:Option Addr) (n4 m4:Nat) (P:Nat→Prop) (w:World) (hP:∀ b,P b→b < w.heap.size) (hn:StrsAt P w (.slice x2 n2 m2) ns) (hf:FnAt P w (.slice x4 n4 m4) ms) (hl1:ns.length≤1000) (hl2:ms.length≤1000) (l:List ByteArray) (hl:mfold ns ms=some l) (x:ByteArray) :
 Calls Try.prog 39 #[.agg #[.pointer q0,.pointer q1,.slice x2 n2 m2,.pointer q3,.slice x4 n4 m4],.string x] w fun e w'=>e=.returned (.bool (hasB l x))∧Below w.heap.size w w':=by
 have hbx:∀ o,Below w.heap.size w (w.alloc o):=fun o=>(Below.refl _ _).alloc (Nat.le_refl _) o
 have HMV:=xH (fun o=>there_any ns ms q0 q1 x2 n2 m2 q3 x4 n4 m4 P (w.alloc o) (fun b hb=>Nat.lt_of_lt_of_le (hP b hb) (hbx o).size) (hn.carry (fun b hb=>(hbx o).block b (hP b hb)) (fun _ h=>h)) (hf.carry (fun b hb=>(hbx o).block b (hP b hb)) (fun _ h=>h)) hl1 hl2 l hl)
 have HBX:=xH hbx
 clear hn hl hbx hP hf
 go_enter Try.func39,Try.ntmps39
 go_wp2_with fail
 refine (xU HMV _).mono ?_
 rintro e w1 ⟨v1,rfl,hn1⟩
 have HC:=xH (contains_any v1 l x w1 hn1.strs)
 have HB1:=xH ((xU HBX _).trans (hn1.below.mono (xU HBX _).size))
 clear hn1
 go_wp2_with fail
 refine (xU HC).mono ?_
 rintro e w2 ⟨rfl,rfl⟩
 go_wp2_with fail
 go_ret
 exact ⟨rfl,xU HB1⟩
theorem fileOf_any (fs:List Df) (a0:Option Addr) (n0 p0:Nat) (T B:Nat) (P:Nat→Prop) (w:World) (hP:∀ b,P b→b < w.heap.size) (hv:FsAt P w (.slice a0 n0 p0) fs) (hrow:w.rowIs T 84 2 (rowO (.slice a0 n0 p0) (.map (some B)))) (hmap:NMap w B (fs.map Df.name)) (hnd:(fs.map Df.name).Nodup) (i:Nat) (hi:i < fs.length) :
 Calls Try.prog 41 #[.pointer (some ⟨T,0,none⟩),.string fs[i].name] w fun e w'=>e=.returned (.agg #[.string fs[i].name,.string fs[i].data,.int .i64 fs[i].kept])∧Below w.heap.size w w':=by
 obtain ⟨a,cap,e0,hlen,hc⟩:=hv.open
 simp only [Value.slice.injEq] at e0
 obtain ⟨rfl,rfl,rfl⟩:=e0
 obtain ⟨b,o,rfl,hpb,⟨c0,c1,c2⟩,hok⟩:=hc i hi
 simp only at c0 c1 c2
 have hbx:∀ o,Below w.heap.size w (w.alloc o):=fun o=>(Below.refl _ _).alloc (Nat.le_refl _) o
 have hbb:=hP b hpb
 obtain ⟨t0,t1⟩:=cs2 hrow (by omega)
 simp only [rowO] at t0 t1
 have hTl:=hrow.lt
 have hkey:keyOf Try.prog 9 (.string fs[i].name)=some (nkey fs[i].name):=keyOf_string_mk Try.underlying9 (by unfold maxLen;have:=hok.1;omega)
 have hmap2:=fun o=>(World.ownsMap.alloc hmap o).drew
 have hat:=at_nmap (fs.map Df.name) hnd i (by rw [List.length_map];exact hi) (fs.map Df.name).length (Nat.le_refl _) (by rw [List.length_map];exact hi)
 rw [List.getElem_map] at hat
 have hrun:∀ o,(Instr.lookup 82 (.map (some B)) (.string fs[i].name) false).run Try.prog (w.alloc o).drew=.ok (.int .i64 i) (w.alloc o).drew:=fun o=>by
  obtain ⟨c,hr,hc,-⟩:=(hmap2 o).lookup_int keyLaw Try.underlying82 Try.underlying3 (zeroInt _) hkey
  rw [hat] at hc
  have:c=(i:Int):=by simpa using hc.symm
  rw [this] at hr;exact hr
 have T0:∀ o',(w.alloc o').cell? ⟨T,0,none⟩=some (.slice (some ⟨b,o,none⟩) fs.length p0):=fun o'=>by rw [World.cell?_of_block (w:=w) (Below.heap_alloc _ _ _ hTl)];exact t0
 have T1:∀ o',(w.alloc o').cell? ⟨T,1,none⟩=some (.map (some B)):=fun o'=>by rw [World.cell?_of_block (w:=w) (Below.heap_alloc _ _ _ hTl)];exact t1
 have C0:∀ o',(w.alloc o').cell? ⟨b,o+i * 3,none⟩=some (.string fs[i].name):=fun o'=>by rw [World.cell?_of_block (w:=w) (Below.heap_alloc _ _ _ hbb)];exact c0
 have C1:∀ o',(w.alloc o').cell? ⟨b,o+i * 3+1,none⟩=some (.string fs[i].data):=fun o'=>by rw [World.cell?_of_block (w:=w) (Below.heap_alloc _ _ _ hbb)];exact c1
 have C2:∀ o',(w.alloc o').cell? ⟨b,o+i * 3+2,none⟩=some (.int .i64 fs[i].kept):=fun o'=>by rw [World.cell?_of_block (w:=w) (Below.heap_alloc _ _ _ hbb)];exact c2
 have hii:(i:Int) < (fs.length:Int):=by omega
 have HBX:=xH hbx
 clear hv hc hpb c0 c1 c2 t0 t1 hrow hmap hmap2 hnd hat hbx hP hok
 generalize fs[i]=f at *
 obtain ⟨fn,fd,fk⟩:=f
 simp only at *
 go_enter Try.func41,Try.ntmps41
 go_wp2_with fail
 go_region
 go_wp2_with fail
 try simp only [Exit.inBlock,Exit.then]
 refine bodyPost_ret (v:=.agg #[.string fn,.string fd,.int .i64 fk]) (by simp [results,Try.results41,go_sem]) rfl ?_
 exact ⟨rfl,(xU HBX _).drew⟩
end Go.Proofs.Yteikmbkljkkjiaa
