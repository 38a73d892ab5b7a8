/- A part. -/
import Derived.Test.YteefjeddboefcaaGreatDoorPart07
namespace Go.Proofs.YteefjeddboefcaaGreatDoor
open Go Go.RowKit
set_option maxRecDepth 100000
set_option maxHeartbeats 3200000
theorem krep_leaf (P:Nat→Prop) (w:World) {s:Int} (hs:I64 s):KRep P w (.mk s [] []) ⟨.int .i64 s,.slice none 0 0,.slice none 0 0⟩:=by
 rw [KRep]
 exact ⟨rfl,hs,⟨none,0,rfl,by simp,fun i hi=>by simp at hi⟩,none,0,rfl,by simp,fun h=>absurd rfl h⟩
theorem krep_one {P:Nat→Prop} {w:World} {s:Int} (hs:I64 s) {k:Kd} {c:C3} {g:Nat} (hg:P g) (hr:w.rowIs g 26 3 (row3 c.c0 c.c1 c.c2)) (hk:KRep P w k c):KRep P w (.mk s [] [k]) ⟨.int .i64 s,.slice none 0 0,.slice (some ⟨g,0,none⟩) 1 1⟩:=by
 obtain ⟨y0,y1,y2⟩:=cs3 hr (by omega)
 simp only [row3] at y0 y1 y2
 rw [KRep]
 refine ⟨rfl,hs,⟨none,0,rfl,by simp,fun i hi=>by simp at hi⟩,some ⟨g,0,none⟩,1,rfl,by simp,fun _=>⟨g,0,rfl,hg,?_⟩⟩
 rw [KRepK,KRepK]
 exact ⟨⟨c,⟨y0,y1,y2⟩,hk⟩,trivial⟩
def row6 (a b c d e f:Value):Nat→Value
 | 0=>a
 | 1=>b
 | 2=>c
 | 3=>d
 | 4=>e
 | _=>f
theorem row6_alloc (w:World) (a b c d e f:Value) (t:TypeId):(w.alloc (.cells #[a,b,c,d,e,f] t)).rowIs w.heap.size t 6 (row6 a b c d e f) :=
 World.rowIs_alloc w #[a,b,c,d,e,f] t _ (fun i hi=>by
  have hi':i < 6:=hi
  match i,hi' with
  | 0,_=>rfl
  | 1,_=>rfl
  | 2,_=>rfl
  | 3,_=>rfl
  | 4,_=>rfl
  | 5,_=>rfl)
theorem row2_alloc (w:World) (a b:Value) (t:TypeId):(w.alloc (.cells #[a,b] t)).rowIs w.heap.size t 2 (rowD a b) :=
 World.rowIs_alloc w #[a,b] t _ (fun i hi=>by
  have hi':i < 2:=hi
  match i,hi' with
  | 0,_=>rfl
  | 1,_=>rfl)
def num15:Kd:=.mk 1 [] []
def list15:Kd:=.mk 4 [] [num15]
def k15:Kd:=.mk 5 [⟨#[97]⟩,⟨#[98]⟩] [.mk 4 [] [list15],list15]
def w15 (w:World):World :=
 ((((((w.alloc (.cells #[.int .i64 1,.slice none 0 0,.slice none 0 0] 26)).alloc
   (.cells #[.int .i64 1,.slice none 0 0,.slice none 0 0] 26)).alloc
   (.cells #[.int .i64 4,.slice none 0 0,.slice (some ⟨w.heap.size+1,0,none⟩) 1 1] 26)).alloc
   (.cells #[.string ⟨#[97]⟩,.string ⟨#[98]⟩] 9)).alloc
   (.cells #[.int .i64 4,.slice none 0 0,.slice (some ⟨w.heap.size+1,0,none⟩) 1 1] 26)).alloc
   (.cells #[.int .i64 4,.slice none 0 0,.slice (some ⟨w.heap.size+1+1+1+1,0,none⟩) 1 1,.int .i64 4,.slice none 0 0,.slice (some ⟨w.heap.size+1,0,none⟩) 1 1] 26)).alloc
   (.cells #[.int .i64 5,.slice (some ⟨w.heap.size+1+1+1,0,none⟩) 2 2,.slice (some ⟨w.heap.size+1+1+1+1+1,0,none⟩) 2 2] 26)
def c15 (n:Nat):C3:=⟨.int .i64 5,.slice (some ⟨n+1+1+1,0,none⟩) 2 2,.slice (some ⟨n+1+1+1+1+1,0,none⟩) 2 2⟩
theorem lit15 (w:World):KRep (fun y=>w.heap.size≤y∧y < w.heap.size+7) (w15 w) k15 (c15 w.heap.size)∧(w15 w).rowIs (w.heap.size+1+1+1+1+1+1) 26 3 (row3 (c15 w.heap.size).c0 (c15 w.heap.size).c1 (c15 w.heap.size).c2)∧Below w.heap.size w (w15 w)∧(w15 w).heap.size=w.heap.size+7:=by
 have hz:∀ (W:World) (o:Obj),(W.alloc o).heap.size=W.heap.size+1:=fun W o=>by simp
 have s7:(w15 w).heap.size=w.heap.size+7:=by unfold w15;simp only [hz]
 have hb:Below w.heap.size w (w15 w):=((((((((Below.refl _ _).alloc (Nat.le_refl _) _).alloc (by simp only [hz];omega) _).alloc (by simp only [hz];omega) _).alloc (by simp only [hz];omega) _).alloc (by simp only [hz];omega) _).alloc (by simp only [hz];omega) _).alloc (by simp only [hz];omega) _)
 have r1:(w15 w).rowIs (w.heap.size+1) 26 3 (row3 (.int .i64 1) (.slice none 0 0) (.slice none 0 0)):=by
  have h:=row3_alloc (w.alloc (.cells #[.int .i64 1,.slice none 0 0,.slice none 0 0] 26)) (.int .i64 1) (.slice none 0 0) (.slice none 0 0) 26
  rw [hz] at h
  exact ((((h.alloc _).alloc _).alloc _).alloc _).alloc _
 have r3:(w15 w).rowIs (w.heap.size+1+1+1) 9 2 (rowD (.string ⟨#[97]⟩) (.string ⟨#[98]⟩)):=by
  have h:=row2_alloc (((w.alloc (.cells #[.int .i64 1,.slice none 0 0,.slice none 0 0] 26)).alloc (.cells #[.int .i64 1,.slice none 0 0,.slice none 0 0] 26)).alloc (.cells #[.int .i64 4,.slice none 0 0,.slice (some ⟨w.heap.size+1,0,none⟩) 1 1] 26)) (.string ⟨#[97]⟩) (.string ⟨#[98]⟩) 9
  rw [hz,hz,hz] at h
  exact ((h.alloc _).alloc _).alloc _
 have r4:(w15 w).rowIs (w.heap.size+1+1+1+1) 26 3 (row3 (.int .i64 4) (.slice none 0 0) (.slice (some ⟨w.heap.size+1,0,none⟩) 1 1)):=by
  have h:=row3_alloc ((((w.alloc (.cells #[.int .i64 1,.slice none 0 0,.slice none 0 0] 26)).alloc (.cells #[.int .i64 1,.slice none 0 0,.slice none 0 0] 26)).alloc (.cells #[.int .i64 4,.slice none 0 0,.slice (some ⟨w.heap.size+1,0,none⟩) 1 1] 26)).alloc (.cells #[.string ⟨#[97]⟩,.string ⟨#[98]⟩] 9)) (.int .i64 4) (.slice none 0 0) (.slice (some ⟨w.heap.size+1,0,none⟩) 1 1) 26
  rw [hz,hz,hz,hz] at h
  exact (h.alloc _).alloc _
 have r5:(w15 w).rowIs (w.heap.size+1+1+1+1+1) 26 6 (row6 (.int .i64 4) (.slice none 0 0) (.slice (some ⟨w.heap.size+1+1+1+1,0,none⟩) 1 1) (.int .i64 4) (.slice none 0 0) (.slice (some ⟨w.heap.size+1,0,none⟩) 1 1)):=by
  have h:=row6_alloc (((((w.alloc (.cells #[.int .i64 1,.slice none 0 0,.slice none 0 0] 26)).alloc (.cells #[.int .i64 1,.slice none 0 0,.slice none 0 0] 26)).alloc (.cells #[.int .i64 4,.slice none 0 0,.slice (some ⟨w.heap.size+1,0,none⟩) 1 1] 26)).alloc (.cells #[.string ⟨#[97]⟩,.string ⟨#[98]⟩] 9)).alloc (.cells #[.int .i64 4,.slice none 0 0,.slice (some ⟨w.heap.size+1,0,none⟩) 1 1] 26)) (.int .i64 4) (.slice none 0 0) (.slice (some ⟨w.heap.size+1+1+1+1,0,none⟩) 1 1) (.int .i64 4) (.slice none 0 0) (.slice (some ⟨w.heap.size+1,0,none⟩) 1 1) 26
  rw [hz,hz,hz,hz,hz] at h
  exact h.alloc _
 have r6:(w15 w).rowIs (w.heap.size+1+1+1+1+1+1) 26 3 (row3 (c15 w.heap.size).c0 (c15 w.heap.size).c1 (c15 w.heap.size).c2):=by
  have h:=row3_alloc ((((((w.alloc (.cells #[.int .i64 1,.slice none 0 0,.slice none 0 0] 26)).alloc (.cells #[.int .i64 1,.slice none 0 0,.slice none 0 0] 26)).alloc (.cells #[.int .i64 4,.slice none 0 0,.slice (some ⟨w.heap.size+1,0,none⟩) 1 1] 26)).alloc (.cells #[.string ⟨#[97]⟩,.string ⟨#[98]⟩] 9)).alloc (.cells #[.int .i64 4,.slice none 0 0,.slice (some ⟨w.heap.size+1,0,none⟩) 1 1] 26)).alloc (.cells #[.int .i64 4,.slice none 0 0,.slice (some ⟨w.heap.size+1+1+1+1,0,none⟩) 1 1,.int .i64 4,.slice none 0 0,.slice (some ⟨w.heap.size+1,0,none⟩) 1 1] 26)) (c15 w.heap.size).c0 (c15 w.heap.size).c1 (c15 w.heap.size).c2 26
  rw [hz,hz,hz,hz,hz,hz] at h
  exact h
 refine ⟨?_,r6,hb,s7⟩
 have i4:I64 4:=⟨by decide,by decide⟩
 have hnum:=krep_leaf (fun y=>w.heap.size≤y∧y < w.heap.size+7) (w15 w) (s:=1) ⟨by decide,by decide⟩
 have hlist:=krep_one (P:=fun y=>w.heap.size≤y∧y < w.heap.size+7) (c:=⟨.int .i64 1,.slice none 0 0,.slice none 0 0⟩) i4 ⟨by omega,by omega⟩ r1 hnum
 have hll:=krep_one (P:=fun y=>w.heap.size≤y∧y < w.heap.size+7) (c:=⟨.int .i64 4,.slice none 0 0,.slice (some ⟨w.heap.size+1,0,none⟩) 1 1⟩) i4 ⟨by omega,by omega⟩ r4 hlist
 obtain ⟨a0,a1⟩:=cs2 r3 (by omega)
 have b0:=r5.cell (i:=0) (by omega);have b1:=r5.cell (i:=1) (by omega);have b2:=r5.cell (i:=2) (by omega);have b3:=r5.cell (i:=3) (by omega);have b4:=r5.cell (i:=4) (by omega);have b5:=r5.cell (i:=5) (by omega)
 simp only [rowD] at a0 a1
 simp only [row6] at b0 b1 b2 b3 b4 b5
 unfold k15 c15
 rw [KRep]
 refine ⟨rfl,⟨by decide,by decide⟩,⟨_,_,rfl,by simp,fun i hi=>⟨_,_,rfl,⟨by omega,by omega⟩,?_⟩⟩,_,_,rfl,by simp,fun _=>⟨_,_,rfl,⟨by omega,by omega⟩,?_⟩⟩
 · have hi':i < 2:=hi
   match i,hi' with
   | 0,_=>exact ⟨a0,by simp [ByteArray.size]⟩
   | 1,_=>exact ⟨a1,by simp [ByteArray.size]⟩
 · rw [KRepK,KRepK,KRepK]
   exact ⟨⟨_,⟨b0,b1,b2⟩,hll⟩,⟨_,⟨b3,b4,b5⟩,hlist⟩,trivial⟩
theorem k15_small:wKd k15≤200000∧wKd (.mk 6 [] [k15])≤200000:=by
 simp only [k15,list15,num15,wKd,wKs,wS]
 decide

theorem GotO.other {base:Nat} {w w':World} {v:Value} {ks:List Tr} {xs:List Value} {G:List Nat} {row:Option Nat} (h:GotO base w v ks xs G) (hg:w.grownBy w' row) (hr:∀ b,row=some b→v.ownBlock≠some b∧b∉G):GotO base w' v ks xs G :=
 ⟨h.row.kept hg (by
  rcases e:v.ownBlock with _ | g
  · exact Or.inl rfl
  · exact Or.inr (fun e2=>(hr g e2.symm).1 e)),h.own.carry (fun b hb=>hg.block b (h.lt b hb).2.1 (fun e=>(hr b e.symm).2 hb)),h.nodup,fun b hb=>⟨(h.lt b hb).1,Nat.lt_of_lt_of_le (h.lt b hb).2.1 hg.size,(h.lt b hb).2.2⟩⟩
structure SInv (base B:Nat) (wr:World) (s:Int) (vN vK:Value) (ns:List ByteArray) (ks:List Tr) (xs:List Value) (G:List Nat):Prop where
 hB:B < base
 cells:wr.rowIs B 29 5 (row5 (.int .i64 s) (.int .i64 0) (.string ⟨#[]⟩) vN vK)
 names:wr.ownsRow base 9 1 vN ns.length (ns.map Value.string)
 got:GotO base wr vK ks xs G
 apart:∀ b,vN.ownBlock=some b→vK.ownBlock≠some b∧b∉G
 size:base≤wr.heap.size
theorem row5_set3 {w:World} {B:Nat} {t:TypeId} {c0 c1 c2 c3 c4:Value} (h:w.rowIs B t 5 (row5 c0 c1 c2 c3 c4)) (v:Value):(w.setCell ⟨B,3,none⟩ v).rowIs B t 5 (row5 c0 c1 c2 v c4) :=
 (h.set 3 v).congr (fun i hi=>by
   match i,hi with
   | 0,_=>rfl
   | 1,_=>rfl
   | 2,_=>rfl
   | 3,_=>rfl
   | 4,_=>rfl)
theorem row5_set4 {w:World} {B:Nat} {t:TypeId} {c0 c1 c2 c3 c4:Value} (h:w.rowIs B t 5 (row5 c0 c1 c2 c3 c4)) (v:Value):(w.setCell ⟨B,4,none⟩ v).rowIs B t 5 (row5 c0 c1 c2 c3 v) :=
 (h.set 4 v).congr (fun i hi=>by
   match i,hi with
   | 0,_=>rfl
   | 1,_=>rfl
   | 2,_=>rfl
   | 3,_=>rfl
   | 4,_=>rfl)
theorem SInv.kept {base B:Nat} {w w':World} {s:Int} {vN vK:Value} {ns:List ByteArray} {ks:List Tr} {xs:List Value} {G:List Nat} (h:SInv base B w s vN vK ns ks xs G) (hg:w.grownBy w' none):SInv base B w' s vN vK ns ks xs G :=
 ⟨h.hB,h.cells.of_block (hg.block B h.cells.lt (by simp)),h.names.kept hg (by
  rcases e:vN.ownBlock with _ | g
  · exact Or.inl rfl
  · exact Or.inr (by simp)),h.got.kept hg,h.apart,Nat.le_trans h.size hg.size⟩
theorem SInv.name {base B:Nat} {w w':World} {s:Int} {vN vK v':Value} {ns:List ByteArray} {ks:List Tr} {xs:List Value} {G:List Nat} {nm:ByteArray} (h:SInv base B w s vN vK ns ks xs G)
 (hown:w'.ownsRow base 9 1 v' (ns.length+1) (ns.map Value.string++[.string nm])) (hg:w.grownBy w' vN.ownBlock) (hv:v'.ownBlock=vN.ownBlock∨∃ g,v'.ownBlock=some g∧w.heap.size≤g) :
 SInv base B (w'.setCell ⟨B,3,none⟩ v') s v' vK (ns++[nm]) ks xs G:=by
 have hBn:vN.ownBlock≠some B:=fun e=>by have:=(h.names.lt B e).1;have:=h.hB;omega
 have hBk:vK.ownBlock≠some B:=fun e=>by have:=(h.got.row.lt B e).1;have:=h.hB;omega
 have hset:w'.grownBy (w'.setCell ⟨B,3,none⟩ v') (some B):=⟨rfl,rfl,rfl,by simp [World.setCell],fun k _ hk=>Below.heap_setCell _ _ _ _ (fun e=>hk (by rw [e]))⟩
 have hBv:v'.ownBlock≠some B:=fun e=>by have:=(hown.lt B e).1;have:=h.hB;omega
 have hgot1:=h.got.other hg (fun b e=>h.apart b e)
 refine ⟨h.hB,row5_set3 (h.cells.of_block (hg.block B h.cells.lt (fun e=>hBn e.symm))) v',?_,hgot1.other hset (fun b e=>by cases e;exact ⟨hBk,fun hm=>by have:=(h.got.lt _ hm).1;have:=h.hB;omega⟩),fun b hb=>?_,by have:=hg.size;have:=h.size;simp [World.setCell];omega⟩
 · have:=hown.kept hset (Or.inr (fun e=>hBv e))
   simpa using this
 · rcases hv with e | ⟨g,e,hge⟩
   · exact h.apart b (by rw [← e];exact hb)
   · rw [e] at hb
     simp only [Option.some.injEq] at hb
     subst hb
     exact ⟨fun e2=>by have:=(h.got.row.lt g e2).2;omega,fun hm=>by have:=(h.got.lt g hm).2.1;omega⟩
theorem SInv.kid {base B m:Nat} {w w':World} {s:Int} {vN vK v':Value} {ns:List ByteArray} {ks:List Tr} {xs:List Value} {G F:List Nat} {t:Tr} {c:C5} (h:SInv base B w s vN vK ns ks xs G)
 (ht:Own w t c F) (hnd:F.Nodup) (hF:∀ b,b∈F→m≤b∧b < w.heap.size) (hGm:∀ b,b∈G→b < m) (hvm:∀ b,vK.ownBlock=some b→b < m) (hnm:∀ b,vN.ownBlock=some b→b < m) (hbm:base≤m)
 (hown:w'.ownsRow base 29 5 v' (ks.length+1) (xs++c5l c)) (hg:w.grownBy w' vK.ownBlock) (hv:v'.ownBlock=vK.ownBlock∨∃ g,v'.ownBlock=some g∧w.heap.size≤g) :
 SInv base B (w'.setCell ⟨B,4,none⟩ v') s vN v' ns (ks++[t]) (xs++c5l c) (G++F):=by
 have hBn:vN.ownBlock≠some B:=fun e=>by have:=(h.names.lt B e).1;have:=h.hB;omega
 have hBk:vK.ownBlock≠some B:=fun e=>by have:=(h.got.row.lt B e).1;have:=h.hB;omega
 have hset:w'.grownBy (w'.setCell ⟨B,4,none⟩ v') (some B):=⟨rfl,rfl,rfl,by simp [World.setCell],fun k _ hk=>Below.heap_setCell _ _ _ _ (fun e=>hk (by rw [e]))⟩
 have hBv:v'.ownBlock≠some B:=fun e=>by have:=(hown.lt B e).1;have:=h.hB;omega
 have hpush:=GotO.push h.got ht hnd hF hGm hvm hbm hown hg hv
 refine ⟨h.hB,row5_set4 (h.cells.of_block (hg.block B h.cells.lt (fun e=>hBk e.symm))) v',?_,hpush.other hset (fun b e=>by cases e;exact ⟨hBv,fun hm=>by have:=(hpush.lt _ hm).1;have:=h.hB;omega⟩),fun b hb=>?_,by have:=hg.size;have:=h.size;simp [World.setCell];omega⟩
 · refine (h.names.kept hg ?_).kept hset (Or.inr (fun e=>hBn e))
   rcases e:vN.ownBlock with _ | g
   · exact Or.inl rfl
   · exact Or.inr (fun e2=>(h.apart g e).1 e2.symm)
 · have ha:=h.apart b hb
   have hbw:=(h.names.lt b hb).2
   refine ⟨?_,fun hm=>?_⟩
   · rcases hv with e | ⟨g,e,hge⟩
     · rw [e];exact ha.1
     · rw [e];intro e2;simp only [Option.some.injEq] at e2;omega
   · rcases List.mem_append.1 hm with hm | hm
     · exact ha.2 hm
     · have:=(hF b hm).1;have:=hnm b hb;omega
theorem SInv.atN {base B:Nat} {w w':World} {s:Int} {vN vK:Value} {ns:List ByteArray} {ks:List Tr} {xs:List Value} {G:List Nat} (h:SInv base B w s vN vK ns ks xs G) {o:Obj} (hg:(w.alloc o).grownBy w' vN.ownBlock):w'.rowIs B 29 5 (row5 (.int .i64 s) (.int .i64 0) (.string ⟨#[]⟩) vN vK) :=
 (h.cells.alloc o).of_block (hg.block B (h.cells.alloc o).lt (fun e=>by have:=(h.names.lt B e.symm).1;have:=h.hB;omega))
theorem SInv.atK {base B:Nat} {w w':World} {s:Int} {vN vK:Value} {ns:List ByteArray} {ks:List Tr} {xs:List Value} {G:List Nat} (h:SInv base B w s vN vK ns ks xs G) {o:Obj} (hg:(w.alloc o).grownBy w' vK.ownBlock):w'.rowIs B 29 5 (row5 (.int .i64 s) (.int .i64 0) (.string ⟨#[]⟩) vN vK) :=
 (h.cells.alloc o).of_block (hg.block B (h.cells.alloc o).lt (fun e=>by have:=(h.got.row.lt B e.symm).1;have:=h.hB;omega))
theorem SInv.done {base B:Nat} {w:World} {s:Int} {vN vK:Value} {ns:List ByteArray} {ks:List Tr} {xs:List Value} {G:List Nat} (h:SInv base B w s vN vK ns ks xs G) (hs:I64 s) (hns:∀ x,x∈ns→x.size≤9223372036854775807) :
 ∃ F,Own w (.mk s 0 ByteArray.empty ns ks) ⟨.int .i64 s,.int .i64 0,.string ByteArray.empty,vN,vK⟩ F∧F.Nodup∧∀ b,b∈F→base≤b∧b < w.heap.size:=by
 obtain ⟨F2,h2,n2,l2,m2⟩:=h.got.done
 obtain ⟨F1,h1,n1,l1,m1⟩:=strsOwn_of_row h.names hns
 refine ⟨F1++F2,Own.make (t:=.mk s 0 ByteArray.empty ns ks) rfl rfl rfl hs (show I64 0 from ⟨by decide,by decide⟩) (by simp [Tr.text]) h1 h2,List.nodup_append.2 ⟨n1,n2,fun a ha b hb e=>?_⟩,fun b hb=>?_⟩
 · subst e
   have hap:=h.apart a (m1 a ha)
   rcases m2 a hb with h3 | h3
   · exact hap.1 h3
   · exact hap.2 h3
 · rcases List.mem_append.1 hb with hb | hb
   · exact l1 b hb
   · exact l2 b hb

structure BB (R B:Nat) (w w':World):Prop where
 os:w'.os=w.os
 tape:w'.tape=w.tape
 output:w'.output=w.output
 size:w.heap.size≤w'.heap.size
 block:∀ i,i < B→i≠R→w'.heap[i]? = w.heap[i]?
theorem BB.refl (R B:Nat) (w:World):BB R B w w:=⟨rfl,rfl,rfl,Nat.le_refl _,fun _ _ _=>rfl⟩
theorem BB.trans {R B:Nat} {a b c:World} (h:BB R B a b) (k:BB R B b c):BB R B a c :=
 ⟨k.os.trans h.os,k.tape.trans h.tape,k.output.trans h.output,Nat.le_trans h.size k.size,fun i hi hn=>(k.block i hi hn).trans (h.block i hi hn)⟩
theorem But.bb {R B:Nat} {w w':World} (h:But R w w') (hB:B≤w.heap.size):BB R B w w':=⟨h.os,h.tape,h.output,h.size,fun _ hi hn=>h.at (Nat.lt_of_lt_of_le hi hB) hn⟩
theorem BB.set {R B:Nat} {a w:World} (h:BB R B a w) {X o:Nat} (hX:B≤X) (u:Value):BB R B a (w.setCell ⟨X,o,none⟩ u) :=
 ⟨h.os,h.tape,h.output,by simp only [size_setCell];exact h.size,fun i hi hn=>(Below.heap_setCell _ _ _ _ (by simp;omega)).trans (h.block i hi hn)⟩
theorem BB.grown {R B:Nat} {a w w':World} {row:Option Nat} (h:BB R B a w) (hg:w.grownBy w' row) (hB:B≤w.heap.size) (hr:∀ x,row=some x→B≤x):BB R B a w' :=
 ⟨hg.os.trans h.os,hg.tape.trans h.tape,hg.output.trans h.output,Nat.le_trans h.size hg.size,fun i hi hn=>(hg.block i (Nat.lt_of_lt_of_le hi hB) (fun e=>by have:=hr i e.symm;omega)).trans (h.block i hi hn)⟩
theorem BB.drew {R B:Nat} {a w:World} (h:BB R B a w):BB R B a w.drew:=⟨h.os,h.tape,h.output,h.size,h.block⟩
theorem But.gb {R:Nat} {w w':World} (h:But R w w'):w.grownBy w' (some R):=h
theorem SInv.butD {R base B:Nat} {w w':World} {s:Int} {vN vK:Value} {ns:List ByteArray} {ks:List Tr} {xs:List Value} {G:List Nat} (h:SInv base B w s vN vK ns ks xs G) (hb:But R w w') (hR:R < B):SInv base B w' s vN vK ns ks xs G:=by
 have hB:=h.hB
 refine ⟨h.hB,h.cells.of_block (hb.at h.cells.lt (by omega)),h.names.kept hb.gb ?_,h.got.other hb.gb (fun b e=>?_),h.apart,Nat.le_trans h.size hb.size⟩
 · rcases e:vN.ownBlock with _ | g
   · exact Or.inl rfl
   · exact Or.inr (fun e2=>by have:=(h.names.lt g e).1;simp only [Option.some.injEq] at e2;omega)
 · simp only [Option.some.injEq] at e
   subst e
   exact ⟨fun e2=>by have:=(h.got.row.lt R e2).1;omega,fun hm=>by have:=(h.got.lt R hm).1;omega⟩
mutual
def ndr:Kd→Nat
 | .mk _ _ ks=>3+3 * nds ks
def nds:List Kd→Nat
 | []=>0
 | k::r=>ndr k+nds r
end
theorem nd_eq (k:Kd):ndr k=3+3 * nds k.kids:=by obtain ⟨s,ns,ks⟩:=k;rw [ndr];rfl
theorem nds_take:∀ (ks:List Kd) (i:Nat),(hi:i < ks.length)→nds (ks.take (i+1))=nds (ks.take i)+ndr ks[i]
 | [],i,hi=>by simp at hi
 | k::r,0,_=>by simp [nds]
 | k::r,i+1,hi=>by
   have:=nds_take r i (by simpa using hi)
   simp only [List.take_succ_cons,nds,List.getElem_cons_succ]
   rw [this];omega
theorem nds_le:∀ (ks:List Kd) (i:Nat),nds (ks.take i)≤nds ks
 | [],i=>by simp
 | k::r,0=>by simp [nds]
 | k::r,i+1=>by
   have:=nds_le r i
   simp only [List.take_succ_cons,nds];omega
mutual
theorem nd_bd:∀ (k:Kd) (d:Nat),d≤6→qT k (7 - (d:Int))≠-1→ndr k≤3 ^ (d+1) * ksz k
 | .mk s ns ks,d,hd,hq=>by
   rw [qT] at hq
   by_cases h:6 < 7 - (d:Int)∨shB (.mk s ns ks)=false
   · rw [if_pos h] at hq;exact absurd rfl hq
   · rw [if_neg h] at hq
     obtain ⟨d,rfl⟩:∃ e,d=e+1:=⟨d - 1,by omega⟩
     have:=nds_bd ks d (by omega) 1 (by omega) (by rw [show (6 - (d:Int))=7 - ((d+1:Nat):Int) from by omega];exact hq)
     rw [ndr,ksz]
     have e:3 ^ (d+1+1)=3 * 3 ^ (d+1):=by rw [Nat.pow_succ,Nat.mul_comm]
     have h1:1≤3 ^ (d+1):=Nat.one_le_pow _ _ (by decide)
     have e2:3 * 3 ^ (d+1) * (1+klsz ks)=3 * 3 ^ (d+1)+3 * (3 ^ (d+1) * klsz ks):=by rw [Nat.mul_add,Nat.mul_one,Nat.mul_assoc]
     rw [e,e2]
     omega
theorem nds_bd:∀ (ks:List Kd) (d:Nat),d≤6→∀ n:Int,1≤n→qK ks (6 - (d:Int)) n≠-1→nds ks≤3 ^ (d+1) * klsz ks
 | [],d,hd,n,hn,hq=>by simp [nds]
 | k::r,d,hd,n,hn,hq=>by
   rw [qK] at hq
   split at hq
   · exact absurd rfl hq
   · rename_i h
     have hb:=qT_bd k (6 - (d:Int)+1)
     have h1:=nd_bd k d hd (by rw [show (7 - (d:Int))=6 - (d:Int)+1 from by omega];omega)
     have h2:=nds_bd r d hd _ (by omega) hq
     rw [nds,klsz,Nat.mul_add]
     omega
end
theorem nd_ok {k:Kd} (h:0 < qT k 1):ndr k≤100000:=by
 have h1:=nd_bd k 6 (by omega) (by rw [show (7 - ((6:Nat):Int))=1 from by omega];omega)
 have h2:=(ok_of_qT h).2
 have:3 ^ (6+1) * ksz k≤3 ^ (6+1) * 40:=Nat.mul_le_mul_left _ h2
 have:3 ^ (6+1) * 40=87480:=by decide
 omega
mutual
def nmT:Tr→Prop
 | .mk _ _ _ ns ks=>ns.length≤1000000∧nmK ks
def nmK:List Tr→Prop
 | []=>True
 | t::r=>nmT t∧nmK r
end
theorem nmT_eq (t:Tr):nmT t=(t.names.length≤1000000∧nmK t.kids):=by obtain ⟨s,n,x,ns,ks⟩:=t;rw [nmT];rfl
theorem nmK_snoc {ts:List Tr} {t:Tr} (h:nmK ts) (ht:nmT t):nmK (ts++[t]):=by
 induction ts with
 | nil=>rw [List.nil_append,nmK];exact ⟨ht,by rw [nmK];trivial⟩
 | cons a r ih=>rw [nmK] at h;rw [List.cons_append,nmK];exact ⟨h.1,ih h.2⟩
theorem nmK_get:∀ {ts:List Tr},nmK ts→∀ (i:Nat) (hi:i < ts.length),nmT ts[i]
 | [],_,i,hi=>by simp at hi
 | t::r,h,0,_=>by rw [nmK] at h;exact h.1
 | t::r,h,i+1,hi=>by rw [nmK] at h;exact nmK_get h.2 i (by simpa using hi)
theorem lsz_snoc (ts:List Tr) (t:Tr):lsz (ts++[t])=lsz ts+tsz t:=by
 induction ts with
 | nil=>simp [lsz]
 | cons a r ih=>rw [List.cons_append,lsz,lsz,ih];omega
def NmEnd (R:Nat) (w w':World) (v:Value) (b:List UInt8) (p:Nat) (e:Ending):Prop :=
 ∃ (z:Int) (p':Nat),e=.returned (.int .i64 z)∧I64 z∧p'≤p+3∧Hid (DR R w' v b p')∧Hid (But R w w')
theorem l5Num_any (R:Nat) (w:World) (v:Value) (b:List UInt8) (p:Nat) (h:DR R w v b p) (hp:p≤100000000) :
 Calls Tryz.prog 39 #[.pointer (some ⟨R,0,none⟩)] w fun e w'=>NmEnd R w w' v b p e:=by
 have HPK:=xH (pick_any R w v b p 9 h (by omega) (by omega))
 clear h
 go_enter Tryz.func39,Tryz.ntmps39
 go_wp2_with fail
 refine (xU HPK).mono ?_
 rintro e w1 ⟨r,rfl,hr,HD1,HB1⟩
 have HPN:=xH (fun n (hn:1≤n∧n≤1000000)=>pick_any R w1 v b (p+1) n HD1.out hn (by omega))
 clear HPK
 rcases (show r=0∨r=1∨r=2∨r=3∨4≤r by omega) with rfl | rfl | rfl | rfl | hr4
 · go_wp2_with fail
   go_ret
   exact ⟨_,p+1,rfl,⟨by decide,by decide⟩,by omega,HD1,HB1⟩
 · go_wp2_with fail
   go_ret
   exact ⟨_,p+1,rfl,⟨by decide,by decide⟩,by omega,HD1,HB1⟩
 · go_wp2_with fail
   refine (xU HPN 250 (by omega)).mono ?_
   rintro e w2 ⟨r2,rfl,hr2,HD2,HB2⟩
   have HP2:=xH (pick_any R w2 v b (p+1+1) 200 HD2.out (by omega) (by omega))
   have hw1:IntKind.i64.wrap ((r2:Int) * 4000000)=(r2:Int) * 4000000:=by rw [IntKind.wrap_i64];omega
   go_wp2_with fail
   refine (xU HP2).mono ?_
   rintro e w3 ⟨r3,rfl,hr3,HD3,HB3⟩
   have hw2:IntKind.i64.wrap ((r2:Int) * 4000000+(r3:Int))=(r2:Int) * 4000000+(r3:Int):=by rw [IntKind.wrap_i64];omega
   go_wp2_with fail
   go_ret
   exact ⟨_,p+1+1+1,rfl,⟨by omega,by omega⟩,by omega,HD3,HB1.out.trans (HB2.out.trans HB3.out)⟩
 · go_wp2_with fail
   refine (xU HPN 2 (by omega)).mono ?_
   rintro e w2 ⟨r2,rfl,hr2,HD2,HB2⟩
   have hw1:IntKind.i64.wrap (127+(r2:Int))=127+(r2:Int):=by rw [IntKind.wrap_i64];omega
   go_wp2_with fail
   go_ret
   exact ⟨_,p+1+1,rfl,⟨by omega,by omega⟩,by omega,HD2,HB1.out.trans HB2.out⟩
 · have z0:((r:Int)==0)=false:=beq_eq_false_iff_ne.2 (by omega)
   have z1:((r:Int)==1)=false:=beq_eq_false_iff_ne.2 (by omega)
   have z2:((r:Int)==2)=false:=beq_eq_false_iff_ne.2 (by omega)
   have z3:((r:Int)==3)=false:=beq_eq_false_iff_ne.2 (by omega)
   go_wp2_with fail
   refine (xU HPN 12 (by omega)).mono ?_
   rintro e w2 ⟨r2,rfl,hr2,HD2,HB2⟩
   have hw1:IntKind.i64.wrap ((r2:Int) - 3)=(r2:Int) - 3:=by rw [IntKind.wrap_i64];omega
   go_wp2_with fail
   go_ret
   exact ⟨_,p+1+1,rfl,⟨by omega,by omega⟩,by omega,HD2,HB1.out.trans HB2.out⟩
def TxEnd (R:Nat) (w w':World) (v:Value) (b:List UInt8) (p:Nat) (e:Ending):Prop :=
 ∃ (x:ByteArray) (p':Nat),e=.returned (.string x)∧x.size≤2000∧p'≤p+2∧Hid (DR R w' v b p')∧Hid (But R w w')
def tx13:List ByteArray:=[⟨#[]⟩,⟨#[97]⟩,⟨#[97,98]⟩,⟨#[120,32,121]⟩,⟨#[121,101,115]⟩,⟨#[110,111]⟩,⟨#[126]⟩,⟨#[49,50]⟩,⟨#[45,51]⟩,⟨#[97,44,98,58,99]⟩,⟨#[91,49,93]⟩,⟨#[108,101,102,116]⟩,⟨#[114,105,103,104,116]⟩]
theorem l5Text_any (R:Nat) (w:World) (v:Value) (b:List UInt8) (p:Nat) (h:DR R w v b p) (hp:p≤1000000) :
 Calls Tryz.prog 40 #[.pointer (some ⟨R,0,none⟩)] w fun e w'=>TxEnd R w w' v b p e:=by
 have HPK:=xH (pick_any R w v b p 30 h (by omega) (by omega))
 clear h
 go_enter Tryz.func40,Tryz.ntmps40
 go_wp2_with fail
 refine (xU HPK).mono ?_
 rintro e w1 ⟨r,rfl,hr,HD1,HB1⟩
 clear HPK
 by_cases h0:r=0
 · subst h0
   have HM:=xH (l6Many_any w1 ⟨#[120]⟩ 60 (by decide) (by omega))
   go_wp2_with fail
   refine (xU HM).mono ?_
   rintro e w2 ⟨out,rfl,ho,rfl⟩
   go_wp2_with fail
   go_ret
   exact ⟨out,p+1,rfl,ho,by omega,HD1,HB1⟩
 · have z0:((r:Int)==0)=false:=beq_eq_false_iff_ne.2 (by omega)
   have HOF:=xH (of_row R w1 v b (p+1) HD1.out (by omega) tx13 (by decide) (by decide) (fun i hi=>by
    have hi':i < 13:=hi
    rcases (show i=0∨i=1∨i=2∨i=3∨i=4∨i=5∨i=6∨i=7∨i=8∨i=9∨i=10∨i=11∨i=12 by omega) with rfl | rfl | rfl | rfl | rfl | rfl | rfl | rfl | rfl | rfl | rfl | rfl | rfl <;> decide))
   go_wp2_with fail
   refine (xU HOF).mono ?_
   rintro e w2 ⟨x,rfl,hx,HD2,HB2⟩
   go_wp2_with fail
   go_ret
   exact ⟨x,p+1+1,rfl,hx,by omega,HD2,HB1.out.trans HB2.out⟩

theorem infoTreeD:(Tryz.prog.info? 29).map (fun i=>(i.zero,i.size,i.bytes))=some (some (.agg #[.int .i64 0,.int .i64 0,.string ByteArray.empty,.slice none 0 0,.slice none 0 0]),5,80):=by kernel_rfl
theorem Own.leafD (w:World) (s n:Int) (tx:ByteArray) (hs:I64 s) (hn:I64 n) (ht:tx.size≤9223372036854775807):Own w (.mk s n tx [] []) ⟨.int .i64 s,.int .i64 n,.string tx,.slice none 0 0,.slice none 0 0⟩ [] :=
 Own.make (t:=.mk s n tx [] []) (F1:=[]) (F2:=[]) rfl rfl rfl hs hn ht ⟨none,0,rfl,by simp [Tr.names],Or.inl ⟨rfl,rfl⟩⟩ ⟨none,0,rfl,by simp [Tr.kids],Or.inl ⟨rfl,rfl⟩⟩
def TsEnd (N R:Nat) (w w':World) (v:Value) (b:List UInt8) (p:Nat) (e:Ending):Prop :=
 ∃ (t:Tr) (c:C5) (F:List Nat) (p':Nat),e=.returned (.agg #[c.c0,c.c1,c.c2,c.c3,c.c4])∧Own w' t c F∧F.Nodup∧(∀ x,x∈F→w.heap.size≤x∧x < w'.heap.size)∧DR R w' v b p'∧p'≤p+N∧But R w w'∧tsz t≤N∧nmT t
def LtSaid (n:Nat):Prop:=∀ (k:Kd),ksz k < n→∀ (P:Nat→Prop) (c:C3) (w:World) (R:Nat) (v:Value) (b:List UInt8) (p:Nat),(∀ x,P x→x < w.heap.size∧x≠R)→KRep P w k c→okD k=true→DR R w v b p→p+ndr k≤1000000 →
 Calls Tryz.prog 18 #[.pointer (some ⟨R,0,none⟩),.agg #[c.c0,c.c1,c.c2]] w fun e w'=>TsEnd (ndr k) R w w' v b p e
theorem ts_end {N R:Nat} {w W:World} {v:Value} {b:List UInt8} {p p':Nat} {t:Tr} {c:C5} {F:List Nat} (hR:R < w.heap.size) (ho:Own W t c F) (hnd:F.Nodup) (hF:∀ x,x∈F→w.heap.size+2 < x∧x < W.heap.size) (hd:DR R W v b p') (h1:p'≤p+N) (hb:But R w W) (hsz:tsz t≤N∧nmT t) (c0 c1 c2 c3 c4:Value) :
 TsEnd N R w (((((W.setCell ⟨w.heap.size+1,0,none⟩ c0).setCell ⟨w.heap.size+1,1,none⟩ c1).setCell ⟨w.heap.size+1,2,none⟩ c2).setCell ⟨w.heap.size+1,3,none⟩ c3).setCell ⟨w.heap.size+1,4,none⟩ c4) v b p (.returned (.agg #[c.c0,c.c1,c.c2,c.c3,c.c4])):=by
 refine ⟨t,c,F,p',rfl,Own.carry _ _ F (fun y hy=>by have:=(hF y hy).1;repeat rw [Below.heap_setCell _ _ _ _ (by simp;omega)]) ho,hnd,fun x hx=>⟨by have:=(hF x hx).1;omega,by simp only [size_setCell];exact (hF x hx).2⟩,?_,h1,?_,hsz⟩
 · repeat refine DR.set ?_ (by omega) _ _
   exact hd
 · repeat refine but_setx ?_ (by omega) _ _
   exact hb
structure LS (w W0:World) (s:Int) (vN vK:Value):Prop where
 size:W0.heap.size=w.heap.size+3
 bl:Below w.heap.size w W0
 r0:W0.rowIs w.heap.size 26 3 (row3 (.int .i64 s) vN vK)
 r1:W0.rowIs (w.heap.size+1) 29 5 (row5 (.int .i64 0) (.int .i64 0) (.string ⟨#[]⟩) (.slice none 0 0) (.slice none 0 0))
 r2:W0.rowIs (w.heap.size+2) 29 5 (row5 (.int .i64 s) (.int .i64 0) (.string ⟨#[]⟩) (.slice none 0 0) (.slice none 0 0))
theorem LS.start (w:World) (s:Int) (vN vK:Value):LS w (((w.alloc (.cells #[.int .i64 s,vN,vK] 26)).alloc (.cells #[.int .i64 0,.int .i64 0,.string ⟨#[]⟩,.slice none 0 0,.slice none 0 0] 29)).alloc (.cells #[.int .i64 s,.int .i64 0,.string ⟨#[]⟩,.slice none 0 0,.slice none 0 0] 29)) s vN vK:=by
 refine ⟨by simp,(((Below.refl _ _).alloc (Nat.le_refl _) _).alloc (by simp) _).alloc (by simp;omega) _,((row3_alloc w _ _ _ _).alloc _).alloc _,?_,?_⟩
 · have q:=row5_alloc (w.alloc (.cells #[.int .i64 s,vN,vK] 26)) (.int .i64 0) (.int .i64 0) (.string ⟨#[]⟩) (.slice none 0 0) (.slice none 0 0) 29
   rw [World.size_alloc] at q
   exact q.alloc _
 · have q:=row5_alloc ((w.alloc (.cells #[.int .i64 s,vN,vK] 26)).alloc (.cells #[.int .i64 0,.int .i64 0,.string ⟨#[]⟩,.slice none 0 0,.slice none 0 0] 29)) (.int .i64 s) (.int .i64 0) (.string ⟨#[]⟩) (.slice none 0 0) (.slice none 0 0) 29
   rw [World.size_alloc,World.size_alloc] at q
   exact q
theorem lt_leaf {N R:Nat} {w W0 W:World} {v:Value} {b:List UInt8} {p p':Nat} {s z:Int} {tx:ByteArray} {vN vK:Value} (hs:I64 s) (hz:I64 z) (ht:tx.size≤9223372036854775807) (hR:R < w.heap.size) (hL:LS w W0 s vN vK) (hd:DR R W v b p') (h1:p'≤p+N) (hN:1≤N) (hb:But R W0 W) (o:Nat) (u:Value) (c0 c1 c2 c3 c4:Value) :
 TsEnd N R w ((((((W.setCell ⟨w.heap.size+2,o,none⟩ u).setCell ⟨w.heap.size+1,0,none⟩ c0).setCell ⟨w.heap.size+1,1,none⟩ c1).setCell ⟨w.heap.size+1,2,none⟩ c2).setCell ⟨w.heap.size+1,3,none⟩ c3).setCell ⟨w.heap.size+1,4,none⟩ c4) v b p (.returned (.agg #[.int .i64 s,.int .i64 z,.string tx,.slice none 0 0,.slice none 0 0])) :=
 ts_end (t:=.mk s z tx [] []) (c:=⟨_,_,_,_,_⟩) (F:=[]) hR (Own.leafD _ s z tx hs hz ht) List.nodup_nil (fun x hx=>by cases hx) (hd.set (by omega) _ _) h1 (but_setx ((But.of_below hL.bl).trans hb) (by omega) _ _) ⟨by simp [tsz,lsz];omega,by simp [nmT,nmK]⟩ c0 c1 c2 c3 c4
theorem lt_123 (k:Kd) (hk:k.sort=1∨k.sort=2∨k.sort=3) (P:Nat→Prop) (c:C3) (w:World) (R:Nat) (v:Value) (b:List UInt8) (p:Nat) (hrep:KRep P w k c) (hd:DR R w v b p) (hp:p+ndr k≤1000000) :
 Calls Tryz.prog 18 #[.pointer (some ⟨R,0,none⟩),.agg #[c.c0,c.c1,c.c2]] w fun e w'=>TsEnd (ndr k) R w w' v b p e:=by
 have hnd:3≤ndr k:=by rw [nd_eq];omega
 have hR:=hd.cells.lt
 obtain ⟨c0,c1,c2⟩:=c
 obtain ⟨e0,hi0,hns,a,cap,e2,-,hks⟩:=hrep.open
 simp only at e0 e2 hns
 obtain ⟨a3,cap3,e1,-,hnc⟩:=hns
 subst e0 e1 e2
 have hstart:=fun s=>LS.start w s (.slice a3 k.names.length cap3) (.slice a k.kids.length cap)
 have HST:=xH hstart;have HD:=xH hd
 clear hks hnc hrep hd hstart hi0
 generalize k.names.length=nN at *
 generalize k.kids.length=nK at *
 generalize ndr k=N at *
 rcases hk with hk | hk | hk
 all_goals
  rw [hk]
  clear hk
  go_enter Tryz.func18,Tryz.ntmps18
  go_wp2_with fail
 · have hL:=xU HST 1
   generalize hW0:(((w.alloc (.cells #[.int .i64 1,.slice a3 nN cap3,.slice a nK cap] 26)).alloc (.cells #[.int .i64 0,.int .i64 0,.string ⟨#[]⟩,.slice none 0 0,.slice none 0 0] 29)).alloc (.cells #[.int .i64 1,.int .i64 0,.string ⟨#[]⟩,.slice none 0 0,.slice none 0 0] 29))=W0 at *
   clear hW0
   refine (l5Num_any R W0 v b p ((xU HD).on hL.bl) (by omega)).mono ?_
   rintro e w1 ⟨z,p',rfl,hz,hp',HD1,HB1⟩
   have r1:=hL.r1.of_block (HB1.out.at hL.r1.lt (by omega));have r2:=hL.r2.of_block (HB1.out.at hL.r2.lt (by omega))
   obtain ⟨y0,y1,y2,y3,y4⟩:=cs5 r1 (by omega);have yf:=r1.frozen
   obtain ⟨t0,t1,t2,t3,t4⟩:=cs5 r2 (by omega);have tf:=r2.frozen
   simp only [row5] at y0 y1 y2 y3 y4 t0 t1 t2 t3 t4
   have HEND:=xH (fun c0 c1 c2 c3 c4=>lt_leaf (N:=N) (p:=p) (s:=1) (tx:=⟨#[]⟩) ⟨by decide,by decide⟩ hz (by decide) hR hL HD1.out (by omega) (by omega) HB1.out 1 (.int .i64 z) c0 c1 c2 c3 c4)
   clear r1 r2 HD1 HB1 hL HST HD
   go_wp2_with fail
   refine bodyPost_ret (v:=.agg #[.int .i64 1,.int .i64 z,.string ⟨#[]⟩,.slice none 0 0,.slice none 0 0]) (by simp [results,Tryz.results18,go_sem,y0,y1,y2,y3,y4]) rfl ?_
   exact xU HEND _ _ _ _ _
 · have hL:=xU HST 2
   generalize hW0:(((w.alloc (.cells #[.int .i64 2,.slice a3 nN cap3,.slice a nK cap] 26)).alloc (.cells #[.int .i64 0,.int .i64 0,.string ⟨#[]⟩,.slice none 0 0,.slice none 0 0] 29)).alloc (.cells #[.int .i64 2,.int .i64 0,.string ⟨#[]⟩,.slice none 0 0,.slice none 0 0] 29))=W0 at *
   clear hW0
   refine (l5Text_any R W0 v b p ((xU HD).on hL.bl) (by omega)).mono ?_
   rintro e w1 ⟨z,p',rfl,hz,hp',HD1,HB1⟩
   have r1:=hL.r1.of_block (HB1.out.at hL.r1.lt (by omega));have r2:=hL.r2.of_block (HB1.out.at hL.r2.lt (by omega))
   obtain ⟨y0,y1,y2,y3,y4⟩:=cs5 r1 (by omega);have yf:=r1.frozen
   obtain ⟨t0,t1,t2,t3,t4⟩:=cs5 r2 (by omega);have tf:=r2.frozen
   simp only [row5] at y0 y1 y2 y3 y4 t0 t1 t2 t3 t4
   have HEND:=xH (fun c0 c1 c2 c3 c4=>lt_leaf (N:=N) (p:=p) (s:=2) (z:=0) (tx:=z) ⟨by decide,by decide⟩ ⟨by decide,by decide⟩ (by omega) hR hL HD1.out (by omega) (by omega) HB1.out 2 (.string z) c0 c1 c2 c3 c4)
   clear r1 r2 HD1 HB1 hL HST HD
   go_wp2_with fail
   refine bodyPost_ret (v:=.agg #[.int .i64 2,.int .i64 0,.string z,.slice none 0 0,.slice none 0 0]) (by simp [results,Tryz.results18,go_sem,y0,y1,y2,y3,y4]) rfl ?_
   exact xU HEND _ _ _ _ _
 · have hL:=xU HST 3
   generalize hW0:(((w.alloc (.cells #[.int .i64 3,.slice a3 nN cap3,.slice a nK cap] 26)).alloc (.cells #[.int .i64 0,.int .i64 0,.string ⟨#[]⟩,.slice none 0 0,.slice none 0 0] 29)).alloc (.cells #[.int .i64 3,.int .i64 0,.string ⟨#[]⟩,.slice none 0 0,.slice none 0 0] 29))=W0 at *
   clear hW0
   refine (pick_any R W0 v b p 2 ((xU HD).on hL.bl) (by omega) (by omega)).mono ?_
   rintro e w1 ⟨z,rfl,hz,HD1,HB1⟩
   have r1:=hL.r1.of_block (HB1.out.at hL.r1.lt (by omega));have r2:=hL.r2.of_block (HB1.out.at hL.r2.lt (by omega))
   obtain ⟨y0,y1,y2,y3,y4⟩:=cs5 r1 (by omega);have yf:=r1.frozen
   obtain ⟨t0,t1,t2,t3,t4⟩:=cs5 r2 (by omega);have tf:=r2.frozen
   simp only [row5] at y0 y1 y2 y3 y4 t0 t1 t2 t3 t4
   have HEND:=xH (fun c0 c1 c2 c3 c4=>lt_leaf (N:=N) (p:=p) (s:=3) (z:=(z:Int)) (tx:=⟨#[]⟩) ⟨by decide,by decide⟩ ⟨by omega,by omega⟩ (by decide) hR hL HD1.out (by omega) (by omega) HB1.out 1 (.int .i64 (z:Int)) c0 c1 c2 c3 c4)
   clear r1 r2 HD1 HB1 hL HST HD
   go_wp2_with fail
   refine bodyPost_ret (v:=.agg #[.int .i64 3,.int .i64 (z:Int),.string ⟨#[]⟩,.slice none 0 0,.slice none 0 0]) (by simp [results,Tryz.results18,go_sem,y0,y1,y2,y3,y4]) rfl ?_
   exact xU HEND _ _ _ _ _

theorem nds_one:∀ (ks:List Kd) (h:ks.length=1),nds ks=ndr (ks[0]'(by omega))
 | [],h=>by simp at h
 | [k],_=>by simp [nds]
 | _::_::_,h=>by simp at h
theorem Own.single {w':World} {g:Nat} {s:Int} {tk:Tr} {c:C5} {F:List Nat} (hs:I64 s) (hrow:w'.rowIs g 29 5 (row5 c.c0 c.c1 c.c2 c.c3 c.c4)) (ho:Own w' tk c F) :
 Own w' (.mk s 0 ByteArray.empty [] [tk]) ⟨.int .i64 s,.int .i64 0,.string ByteArray.empty,.slice none 0 0,.slice (some ⟨g,0,none⟩) 1 1⟩ (g::F) :=
 Own.make (t:=.mk s 0 ByteArray.empty [] [tk]) (F1:=[]) (F2:=g::F) rfl rfl rfl hs (show I64 0 from ⟨by decide,by decide⟩) (by simp [Tr.text]) ⟨none,0,rfl,by simp [Tr.names],Or.inl ⟨rfl,rfl⟩⟩
  ⟨some ⟨g,0,none⟩,1,rfl,by simp [Tr.kids],Or.inr ⟨g,F,rfl,rfl,fun o=>hrow.frozen o,by
   show OwnK w' g 0 [tk] F
   rw [OwnK]
   exact ⟨F,[],c,by simp,⟨hrow.cell (i:=0) (by omega),hrow.cell (i:=1) (by omega),hrow.cell (i:=2) (by omega),hrow.cell (i:=3) (by omega),hrow.cell (i:=4) (by omega)⟩,ho,by rw [OwnK]⟩⟩⟩
theorem kid_push {R j q' g2 capK cap2:Nat} {w W0 wc w6 w8:World} {s:Int} {vN:Value} {aK:Option Addr} {ns:List ByteArray} {ts:List Tr} {xs:List Value} {G F:List Nat} {tk:Tr} {d:C5} {v:Value} {b:List UInt8} (hR:R < w.heap.size)
 (hS5:SInv (w.heap.size+3) (w.heap.size+2) wc s vN (.slice aK j capK) ns ts xs G) (hS6:SInv (w.heap.size+3) (w.heap.size+2) w6 s vN (.slice aK j capK) ns ts xs G) (hO:Own w6 tk d F) (hnd:F.Nodup) (hF:∀ x,x∈F→wc.heap.size≤x∧x < w6.heap.size) (hD:DR R w6 v b q') (hB:BB R (w.heap.size+2) W0 w6) (hl:ts.length=j)
 (hown:w8.ownsRow (w.heap.size+3) 29 5 (.slice (some ⟨g2,0,none⟩) (j+1) cap2) (j+1) (xs++c5l d)) (hg:(w6.alloc (.cells #[d.c0,d.c1,d.c2,d.c3,d.c4] 29)).grownBy w8 (Value.slice aK j capK).ownBlock) (hat:(Value.slice aK j capK).ownBlock=some g2∨g2=w6.heap.size+1) :
 SInv (w.heap.size+3) (w.heap.size+2) (w8.setCell ⟨w.heap.size+2,4,none⟩ (.slice (some ⟨g2,0,none⟩) (j+1) cap2)) s vN (.slice (some ⟨g2,0,none⟩) (j+1) cap2) ns (ts++[tk]) (xs++c5l d) (G++F)∧DR R (w8.setCell ⟨w.heap.size+2,4,none⟩ (.slice (some ⟨g2,0,none⟩) (j+1) cap2)) v b q'∧BB R (w.heap.size+2) W0 (w8.setCell ⟨w.heap.size+2,4,none⟩ (.slice (some ⟨g2,0,none⟩) (j+1) cap2)):=by
 have hz6:∀ o,(w6.alloc o).heap.size=w6.heap.size+1:=fun o=>World.size_alloc _ _
 have hal:=World.grownBy_alloc w6 (.cells #[d.c0,d.c1,d.c2,d.c3,d.c4] 29) none
 have hsz:=hS6.size
 have hrow:∀ x,(Value.slice aK j capK).ownBlock=some x→w.heap.size+3≤x:=fun x e=>(hS6.got.row.lt x e).1
 refine ⟨SInv.kid (m:=wc.heap.size) (hS6.kept hal) (Own.carry tk _ F (fun b hb=>Below.heap_alloc _ _ _ (hF b hb).2) hO) hnd (fun b hb=>⟨(hF b hb).1,by rw [hz6];have:=(hF b hb).2;omega⟩) (fun b hb=>(hS5.got.lt b hb).2.1) (fun b hb=>(hS5.got.row.lt b hb).2) (fun b hb=>(hS5.names.lt b hb).2) hS5.size (by rw [hl];exact hown) hg (hat.elim (fun e=>Or.inl (by rw [e];rfl)) (fun e=>Or.inr ⟨g2,rfl,by rw [hz6,e];exact Nat.le_refl _⟩)),?_,?_⟩
 · exact ((hD.on ((Below.refl _ w6).alloc (Nat.le_refl _) _)).grown hg (fun x e=>by have:=hrow x e;omega)).set (by omega) _ _
 · exact ((hB.grown hal (by omega) (fun x e=>by cases e)).grown hg (by rw [hz6];omega) (fun x e=>by have:=hrow x e;omega)).set (by omega) _
theorem gathered_end {N R q p:Nat} {w W0 wr:World} {s:Int} {vN vK:Value} {ns:List ByteArray} {ts:List Tr} {xs:List Value} {G:List Nat} {v:Value} {b:List UInt8} (hs:I64 s) (hR:R < w.heap.size) (hbl:Below w.heap.size w W0) (hS:SInv (w.heap.size+3) (w.heap.size+2) wr s vN vK ns ts xs G) (hns:∀ x,x∈ns→x.size≤9223372036854775807) (hD:DR R wr v b q) (hB:BB R (w.heap.size+2) W0 wr) (h1:q≤p+N) (hz1:1+lsz ts≤N) (hz2:ns.length≤1000000) (hz3:nmK ts) (c0 c1 c2 c3 c4:Value) :
 TsEnd N R w (((((wr.setCell ⟨w.heap.size+1,0,none⟩ c0).setCell ⟨w.heap.size+1,1,none⟩ c1).setCell ⟨w.heap.size+1,2,none⟩ c2).setCell ⟨w.heap.size+1,3,none⟩ c3).setCell ⟨w.heap.size+1,4,none⟩ c4) v b p (.returned (.agg #[.int .i64 s,.int .i64 0,.string ByteArray.empty,vN,vK])):=by
 obtain ⟨F,ho,hnd,hF⟩:=hS.done hs hns
 have hbb:But R w wr:=⟨hB.os.trans hbl.os,hB.tape.trans hbl.tape,hB.output.trans hbl.output,Nat.le_trans hbl.size hB.size,fun i hi hne=>(hB.block i (by omega) (fun e=>hne (by rw [e]))).trans (hbl.block i hi)⟩
 exact ts_end (c:=⟨_,_,_,_,_⟩) hR ho hnd (fun x hx=>by have:=hF x hx;omega) hD h1 hbb ⟨by rw [tsz];exact hz1,by rw [nmT];exact ⟨hz2,hz3⟩⟩ c0 c1 c2 c3 c4
theorem lt_4 (n:Nat) (IH:LtSaid n) (k:Kd) (hn:ksz k≤n) (hs4:k.sort=4) (hkl:k.kids.length=1) (P:Nat→Prop) (c:C3) (w:World) (R:Nat) (v:Value) (b:List UInt8) (p:Nat) (hP:∀ x,P x→x < w.heap.size∧x≠R) (hrep:KRep P w k c) (hok:okDs k.kids=true) (hd:DR R w v b p) (hp:p+ndr k≤1000000) :
 Calls Tryz.prog 18 #[.pointer (some ⟨R,0,none⟩),.agg #[c.c0,c.c1,c.c2]] w fun e w'=>TsEnd (ndr k) R w w' v b p e:=by
 have hR:=hd.cells.lt
 obtain ⟨c0,c1,c2⟩:=c
 obtain ⟨e0,hi0,hns,a,cap,e2,-,hks⟩:=hrep.open
 simp only at e0 e2 hns
 obtain ⟨a3,cap3,e1,-,hnc⟩:=hns
 subst e0 e1 e2
 have h0:0 < k.kids.length:=by omega
 obtain ⟨kb,ko,⟨y0,y1,y2⟩,rfl,hpb,hcell,hrp⟩:=hks 0 h0
 rw [Nat.zero_mul,Nat.add_zero] at hcell
 have hndk:ndr k=3+3 * ndr k.kids[0]:=by
  rw [nd_eq,nds_one k.kids hkl]
 have hsm:ksz k.kids[0] < n:=by have:=ksz_kid (List.getElem_mem h0);omega
 have hcall0:=fun (W:World) (q:Nat) (hW:∀ x,P x→W.heap[x]? = w.heap[x]?) (hsz:w.heap.size≤W.heap.size) (hD:DR R W v b q) (hq:q+ndr k.kids[0]≤1000000)=>IH k.kids[0] hsm P ⟨y0,y1,y2⟩ W R v b q (fun x hx=>⟨Nat.lt_of_lt_of_le (hP x hx).1 hsz,(hP x hx).2⟩) (KRep.carry hW (fun _ h=>h) _ _ hrp) (okDs_get hok 0 h0) hD hq
 obtain ⟨p0,-,⟨a5,cap5,p1,-⟩,a6,cap6,p2,-⟩:=hrp.open
 simp only at p0 p1 p2
 subst p0 p1 p2
 obtain ⟨i0,hi,hz0,hz1,hz2⟩:=info_parts infoTreeD
 have HII:=xH hi;have HZ0:=xH hz0;have HZ1:=xH hz1;have HZ2:=xH hz2
 have HST:=xH (LS.start w 4 (.slice a3 k.names.length cap3) (.slice (some ⟨kb,ko,none⟩) k.kids.length cap));have HD:=xH hd;have HC0:=xH hcall0;have HP:=xH hP;have HCE:=xH hcell
 rw [hs4,hndk]
 rw [hndk] at hp
 rw [hkl] at HST ⊢
 generalize k.kids[0]=kk at *
 generalize ndr kk=N at *
 clear hi hz0 hz1 hz2 hks hnc hrep hd hi0 hcall0 hP hcell hrp hsm hndk hok IH hn hs4 hkl h0
 go_enter Tryz.func18,Tryz.ntmps18
 go_wp2_with fail
 generalize hW0:(((w.alloc (.cells #[.int .i64 4,.slice a3 k.names.length cap3,.slice (some ⟨kb,ko,none⟩) 1 cap] 26)).alloc (.cells #[.int .i64 0,.int .i64 0,.string ⟨#[]⟩,.slice none 0 0,.slice none 0 0] 29)).alloc (.cells #[.int .i64 4,.int .i64 0,.string ⟨#[]⟩,.slice none 0 0,.slice none 0 0] 29))=W0 at *
 clear hW0
 refine (pick_any R W0 v b p 4 ((xU HD).on (xU HST).bl) (by omega) (by omega)).mono ?_
 rintro e w1 ⟨r,rfl,hr,HD1,HB1⟩
 have hL:=xU HST
 have hsz0:=hL.size
 have HB0:=xH (HB1.out.bb (B:=w.heap.size+2) (by omega))
 have HS0:Hid (SInv (w.heap.size+3) (w.heap.size+2) w1 4 (.slice none 0 0) (.slice none 0 0) [] [] [] []):=SInv.butD (R:=R) (w:=W0) ⟨by omega,hL.r2,World.ownsRow_nil _ _ _ _,GotO.start _ _,fun b hb=>by simp [Value.ownBlock] at hb,by omega⟩ HB1.out (by omega)
 clear HD HB1 hL
 go_wp2_with fail
 go_loopw [6] (fun nn wr=>∃ (m j q:Nat) (aK:Option Addr) (capK:Nat) (ts:List Tr) (xs:List Value) (G:List Nat),m+j≤3∧nn=.int .i64 m∧ts.length=j∧q≤p+1+j * N∧Hid (lsz ts≤j * N∧nmK ts)∧Hid (SInv (w.heap.size+3) (w.heap.size+2) wr 4 (.slice none 0 0) (.slice aK j capK) [] ts xs G)∧Hid (DR R wr v b q)∧Hid (BB R (w.heap.size+2) W0 wr)) (fun nn _=>(intOf nn).toNat)
 case atStart=>exact ⟨r,0,p+1,none,0,[],[],[],by omega,rfl,rfl,by omega,xH ⟨by simp [lsz],by rw [nmK];trivial⟩,HS0,HD1,HB0⟩
 case round =>
  clear HS0 HD1 HB0
  obtain ⟨m,j,q,aK,capK,ts,xs,G,hmj,rfl,hlen,hq,HZ,HS,HD,HB⟩:=hrel
  have hsz:=HS.out.size
  have hL:=xU HST
  have q0:=hL.r0.of_block (HB.out.block w.heap.size (by omega) (by omega))
  have q1:=hL.r1.of_block (HB.out.block (w.heap.size+1) (by omega) (by omega))
  have k2:=q0.cell (i:=2) (by omega)
  have t4:=HS.out.cells.cell (i:=4) (by omega)
  simp only [row3,row5] at k2 t4
  have hjN:j * N≤3 * N:=Nat.mul_le_mul_right _ (by omega)
  by_cases hm0:m=0
  · have hqm:decide ((0:Int) < (m:Int))=false:=by simp;omega
    have hqn:decide (0 < m)=false:=by simp;omega
    obtain ⟨y0,y1,y2,y3,y4⟩:=cs5 q1 (by omega);have yf:=q1.frozen
    obtain ⟨t0,t1,t2,t3⟩:=cs4 HS.out.cells (by omega)
    simp only [row5] at y0 y1 y2 y3 y4 t0 t1 t2 t3
    have HEND:=xH (fun c0 c1 c2 c3 c4=>gathered_end (N:=3+3 * N) (p:=p) ⟨by decide,by decide⟩ hR hL.bl HS.out (fun x hx=>by cases hx) HD.out HB.out (by omega) (by have:=HZ.out.1;omega) (by simp) HZ.out.2 c0 c1 c2 c3 c4)
    clear HS HD HB q0 q1 hL HST hm0
    go_wp2_with fail
    refine bodyPost_ret (v:=.agg #[.int .i64 4,.int .i64 0,.string ByteArray.empty,.slice none 0 0,.slice aK j capK]) (by simp [results,Tryz.results18,go_sem,y0,y1,y2,y3,y4];rfl) rfl ?_
    exact xU HEND _ _ _ _ _
  · have hqm:decide ((0:Int) < (m:Int))=true:=by simp;omega
    have hqn:decide (0 < m)=true:=by simp;omega
    have hj2:j * N≤2 * N:=Nat.mul_le_mul_right _ (by omega)
    have hold:∀ x,P x→wr.heap[x]? = w.heap[x]? := fun x hx=>by
     have h:=xU HP x hx
     exact (HB.out.block x (by omega) h.2).trans (hL.bl.block x h.1)
    obtain ⟨f0,f1,f2⟩:=(xU HCE).carry (hold kb hpb)
    simp only at f0 f1 f2
    have hcall:Calls Tryz.prog 18 #[.pointer (some ⟨R,0,none⟩),.agg #[.int .i64 kk.sort,.slice a5 kk.names.length cap5,.slice a6 kk.kids.length cap6]] wr.drew fun e w6=>∃ e0 e1 e2 a7 n7 cap7 a8 n8 cap8 tk F q',e=.returned (.agg #[.int .i64 e0,.int .i64 e1,.string e2,.slice a7 n7 cap7,.slice a8 n8 cap8])∧Hid (Own w6 tk ⟨.int .i64 e0,.int .i64 e1,.string e2,.slice a7 n7 cap7,.slice a8 n8 cap8⟩ F)∧F.Nodup∧Hid (∀ x,x∈F→wr.heap.size≤x∧x < w6.heap.size)∧Hid (BB R (w.heap.size+2) W0 w6)∧wr.heap.size≤w6.heap.size∧Hid (SInv (w.heap.size+3) (w.heap.size+2) w6 4 (.slice none 0 0) (.slice aK j capK) [] ts xs G)∧Hid (DR R w6 v b q')∧Hid (tsz tk≤N∧nmT tk)∧q'≤q+N∧w6.cell? ⟨w.heap.size+2,4,none⟩=some (.slice aK j capK)∧∀ ob,(w6.alloc ob).cell? ⟨w.heap.size+2,4,none⟩=some (.slice aK j capK):=by
     refine (xU HC0 wr.drew q hold (by show w.heap.size≤wr.heap.size;omega) (HD.out.on (Below.refl _ wr).drew) (by omega)).mono ?_
     rintro e w6 ⟨tk,⟨y0,y1,y2,y3,y4⟩,F,q',rfl,ho,hn1,hl1,hd6,hq6,hb6,hz6⟩
     obtain ⟨z0,z1,z2,-,-,-,-,-,-,⟨a7,cap7,z3,-⟩,a8,cap8,z4,-⟩:=ho.open
     simp only at z0 z1 z2 z3 z4
     subst z0 z1 z2 z3 z4
     have hbw:But R wr w6:=(But.of_below (Below.refl _ wr).drew).trans hb6
     have hs6:=HS.out.butD hbw (by omega)
     exact ⟨_,_,_,_,_,_,_,_,_,tk,F,q',rfl,ho,hn1,hl1,HB.out.trans (hbw.bb (by omega)),hbw.size,hs6,hd6,hz6,hq6,hs6.cells.cell (i:=4) (by omega),fun ob=>(hs6.cells.alloc ob).cell (i:=4) (by omega)⟩
    have HCALL:=xH hcall
    have hwm:IntKind.i64.wrap ((m:Int) - 1)=(m:Int) - 1:=by rw [IntKind.wrap_i64];omega
    clear hcall hold q0 q1 hL
    go_wp2_with fail
    go_region_law (first
     | ((refine step_append_lies _ (by rfl) _ _ _ (by rfl) (w.heap.size+3) 29 i0 _ 5 80 Tryz.underlying27 (xU HII) (xU HZ0) (xU HZ1) (xU HZ2) rfl (by decide) (.slice aK j capK) j xs (by rfl) (by have:=(xU HS6).got.row;rw [hlen] at this;exact this.alloc _) ⟨w6.heap.size,0,none⟩ 1 1 (c5l ⟨.int .i64 e0,.int .i64 e1,.string e2,.slice a7 n7 cap7,.slice a8 n8 cap8⟩) (by rfl) (by rfl) (cell_five w6 _ _) (xU HOW).one (by decide) (by unfold maxLen;omega) (by omega) (by simp;omega) (w6.heap.size+1) (by simp) ?_;intro g2 cap2 w8 hown8 hgrow8 hat8 hlt8;have u4:=(SInv.atK (xU HS6) hgrow8).cell (i:=4) (by omega);have uz4:=(SInv.atK (xU HS6) hgrow8).frozen 4;simp only [row5] at u4))
     | (rw [if_pos (by first | rfl | simp [Region.wanted])];go_simp;refine (xU HCALL).mono ?_;rintro e w6 ⟨e0,e1,e2,a7,n7,cap7,a8,n8,cap8,tk,F,q',rfl,HOW,hFn,HFL,HB6,hs6,HS6,HD6,HZ6,hq6,t4c,t4d⟩))
    all_goals
     obtain ⟨hinv8,hd8,hb8⟩:=kid_push hR HS.out (xU HS6) (xU HOW) hFn (xU HFL) (xU HD6) (xU HB6) hlen hown8 hgrow8 hat8
     have HI8:=xH hinv8;have HD8:=xH hd8;have HB8:=xH hb8
     clear hinv8 hd8 hb8 hown8 hgrow8 hat8 hlt8 u4 uz4 HS6 HOW HFL HB6 HD6 HS HB HD t4c t4d
     go_wp2_with fail
     go_roundw
     case rel=>exact ⟨m - 1,j+1,q',some ⟨g2,0,none⟩,cap2,ts++[tk],_,_,by omega,by go_num,by simp [hlen],by rw [Nat.add_mul,Nat.one_mul];omega,xH ⟨by rw [lsz_snoc,Nat.add_mul,Nat.one_mul];have:=HZ.out.1;have:=HZ6.out.1;omega,nmK_snoc HZ.out.2 HZ6.out.2⟩,HI8,HD8,HB8⟩
     case measure=>simp [intOf];omega

theorem lt_single {N R:Nat} {w W0 W:World} {v:Value} {b:List UInt8} {p p':Nat} {s:Int} {tk:Tr} {c:C5} {F:List Nat} (hs:I64 s) (hR:R < w.heap.size) (hbl:Below w.heap.size w W0) (ho:Own W tk c F) (hnd:F.Nodup) (hF:∀ x,x∈F→w.heap.size+2 < x∧x < W.heap.size) (hz:w.heap.size+2 < W.heap.size) (hd:DR R W v b p') (h1:p'≤p+N) (hb:But R W0 W) (hsz9:1+tsz tk≤N∧nmT tk) (u c0 c1 c2 c3 c4:Value) :
 TsEnd N R w (((((((W.setCell ⟨w.heap.size+2,4,none⟩ u).setCell ⟨w.heap.size+1,0,none⟩ c0).setCell ⟨w.heap.size+1,1,none⟩ c1).setCell ⟨w.heap.size+1,2,none⟩ c2).setCell ⟨w.heap.size+1,3,none⟩ c3).setCell ⟨w.heap.size+1,4,none⟩ c4).alloc (.cells #[c.c0,c.c1,c.c2,c.c3,c.c4] 29)) v b p (.returned (.agg #[.int .i64 s,.int .i64 0,.string ByteArray.empty,.slice none 0 0,.slice (some ⟨W.heap.size,0,none⟩) 1 1])):=by
 generalize hV:((((((W.setCell ⟨w.heap.size+2,4,none⟩ u).setCell ⟨w.heap.size+1,0,none⟩ c0).setCell ⟨w.heap.size+1,1,none⟩ c1).setCell ⟨w.heap.size+1,2,none⟩ c2).setCell ⟨w.heap.size+1,3,none⟩ c3).setCell ⟨w.heap.size+1,4,none⟩ c4)=V
 have hsz:V.heap.size=W.heap.size:=by rw [← hV];simp only [size_setCell]
 have hoth:∀ x,x≠w.heap.size+1→x≠w.heap.size+2→V.heap[x]? = W.heap[x]? := fun x h1 h2=>by
  rw [← hV]
  repeat rw [Below.heap_setCell _ _ _ _ (by simp;omega)]
 have hdV:DR R V v b p':=by
  rw [← hV]
  repeat refine DR.set ?_ (by omega) _ _
  exact hd
 have hbV:But R w V:=by
  rw [← hV]
  repeat refine but_setx ?_ (by omega) _ _
  exact (But.of_below hbl).trans hb
 have hoV:Own (V.alloc (.cells #[c.c0,c.c1,c.c2,c.c3,c.c4] 29)) tk c F:=Own.carry _ _ F (fun x hx=>by
  have:=hF x hx
  rw [Below.heap_alloc _ _ _ (by rw [hsz];omega)];exact hoth x (by omega) (by omega)) ho
 have hrow:=row5_alloc V c.c0 c.c1 c.c2 c.c3 c.c4 29
 rw [hsz] at hrow
 refine ⟨.mk s 0 ByteArray.empty [] [tk],⟨_,_,_,_,_⟩,W.heap.size::F,p',rfl,Own.single hs hrow hoV,List.nodup_cons.2 ⟨fun hm=>by have:=(hF _ hm).2;omega,hnd⟩,fun x hx=>?_,hdV.on ((Below.refl _ _).alloc (Nat.le_refl _) _),h1,hbV.trans (But.alloc R _ _),by simp only [tsz,lsz];have:=hsz9.1;omega,by simp only [nmT,nmK];exact ⟨by simp,hsz9.2,trivial⟩⟩
 rw [World.size_alloc,hsz]
 rcases List.mem_cons.1 hx with rfl | hx
 · omega
 · have:=hF x hx;omega
theorem lt_6 (n:Nat) (IH:LtSaid n) (k:Kd) (hn:ksz k≤n) (hs4:k.sort=6) (hkl:k.kids.length=1) (P:Nat→Prop) (c:C3) (w:World) (R:Nat) (v:Value) (b:List UInt8) (p:Nat) (hP:∀ x,P x→x < w.heap.size∧x≠R) (hrep:KRep P w k c) (hok:okDs k.kids=true) (hd:DR R w v b p) (hp:p+ndr k≤1000000) :
 Calls Tryz.prog 18 #[.pointer (some ⟨R,0,none⟩),.agg #[c.c0,c.c1,c.c2]] w fun e w'=>TsEnd (ndr k) R w w' v b p e:=by
 have hR:=hd.cells.lt
 obtain ⟨c0,c1,c2⟩:=c
 obtain ⟨e0,hi0,hns,a,cap,e2,-,hks⟩:=hrep.open
 simp only at e0 e2 hns
 obtain ⟨a3,cap3,e1,-,hnc⟩:=hns
 subst e0 e1 e2
 have h0:0 < k.kids.length:=by omega
 obtain ⟨kb,ko,⟨y0,y1,y2⟩,rfl,hpb,hcell,hrp⟩:=hks 0 h0
 rw [Nat.zero_mul,Nat.add_zero] at hcell
 have hndk:ndr k=3+3 * ndr k.kids[0]:=by rw [nd_eq,nds_one k.kids hkl]
 have hsm:ksz k.kids[0] < n:=by have:=ksz_kid (List.getElem_mem h0);omega
 have hcall0:=fun (W:World) (q:Nat) (hW:∀ x,P x→W.heap[x]? = w.heap[x]?) (hsz:w.heap.size≤W.heap.size) (hD:DR R W v b q) (hq:q+ndr k.kids[0]≤1000000)=>IH k.kids[0] hsm P ⟨y0,y1,y2⟩ W R v b q (fun x hx=>⟨Nat.lt_of_lt_of_le (hP x hx).1 hsz,(hP x hx).2⟩) (KRep.carry hW (fun _ h=>h) _ _ hrp) (okDs_get hok 0 h0) hD hq
 obtain ⟨p0,-,⟨a5,cap5,p1,-⟩,a6,cap6,p2,-⟩:=hrp.open
 simp only at p0 p1 p2
 subst p0 p1 p2
 have HST:=xH (LS.start w 6 (.slice a3 k.names.length cap3) (.slice (some ⟨kb,ko,none⟩) k.kids.length cap));have HD:=xH hd;have HC0:=xH hcall0;have HP:=xH hP;have HCE:=xH hcell
 rw [hs4,hndk]
 rw [hndk] at hp
 rw [hkl] at HST ⊢
 generalize k.kids[0]=kk at *
 generalize ndr kk=N at *
 clear hks hnc hrep hd hi0 hcall0 hP hcell hrp hsm hndk hok IH hn hs4 hkl h0
 go_enter Tryz.func18,Tryz.ntmps18
 go_wp2_with fail
 generalize hW0:(((w.alloc (.cells #[.int .i64 6,.slice a3 k.names.length cap3,.slice (some ⟨kb,ko,none⟩) 1 cap] 26)).alloc (.cells #[.int .i64 0,.int .i64 0,.string ⟨#[]⟩,.slice none 0 0,.slice none 0 0] 29)).alloc (.cells #[.int .i64 6,.int .i64 0,.string ⟨#[]⟩,.slice none 0 0,.slice none 0 0] 29))=W0 at *
 clear hW0
 refine (pick_any R W0 v b p 3 ((xU HD).on (xU HST).bl) (by omega) (by omega)).mono ?_
 rintro e w1 ⟨r,rfl,hr,HD1,HB1⟩
 have hL:=xU HST
 have hsz0:=hL.size
 have hsz1:=HB1.out.size
 by_cases hr0:r=0
 · subst hr0
   have r1:=hL.r1.of_block (HB1.out.at hL.r1.lt (by omega));have r2:=hL.r2.of_block (HB1.out.at hL.r2.lt (by omega))
   obtain ⟨y0,y1,y2,y3,y4⟩:=cs5 r1 (by omega);have yf:=r1.frozen
   obtain ⟨t0,t1,t2,t3,t4⟩:=cs5 r2 (by omega);have tf:=r2.frozen
   simp only [row5] at y0 y1 y2 y3 y4 t0 t1 t2 t3 t4
   have HEND:=xH (fun c0 c1 c2 c3 c4=>ts_end (N:=3+3 * N) (p:=p) (t:=.mk 6 0 ByteArray.empty [] []) (c:=⟨_,_,_,_,_⟩) (F:=[]) hR (Own.leafD w1 6 0 ByteArray.empty ⟨by decide,by decide⟩ ⟨by decide,by decide⟩ (by decide)) List.nodup_nil (fun x hx=>by cases hx) HD1.out (by omega) ((But.of_below hL.bl).trans HB1.out) ⟨by simp only [tsz,lsz];omega,by simp [nmT,nmK]⟩ c0 c1 c2 c3 c4)
   clear r1 r2 HD1 HB1 hL HST HD
   go_wp2_with fail
   refine bodyPost_ret (v:=.agg #[.int .i64 6,.int .i64 0,.string ByteArray.empty,.slice none 0 0,.slice none 0 0]) (by simp [results,Tryz.results18,go_sem,y0,y1,y2,y3,y4];rfl) rfl ?_
   exact xU HEND _ _ _ _ _
 · have hq0:decide ((0:Int) < (r:Int))=true:=by simp;omega
   have hqn:decide (0 < r)=true:=by simp;omega
   have r0:=hL.r0.of_block (HB1.out.at hL.r0.lt (by omega))
   have k2:=r0.cell (i:=2) (by omega)
   simp only [row3] at k2
   have hold:∀ x,P x→w1.heap[x]? = w.heap[x]? := fun x hx=>by
    have h:=xU HP x hx
    exact (HB1.out.at (by omega) h.2).trans (hL.bl.block x h.1)
   obtain ⟨f0,f1,f2⟩:=(xU HCE).carry (hold kb hpb)
   simp only at f0 f1 f2
   have HC1:=xH (xU HC0 w1 (p+1) hold (by omega) HD1.out (by omega))
   clear hold r0 HC0 HCE
   go_wp2_with fail
   refine (xU HC1).mono ?_
   rintro e w2 ⟨tk,⟨x0,x1,x2,x3,x4⟩,F,q',rfl,ho,hn1,hl1,hd6,hq6,hb6,hz6⟩
   obtain ⟨z0,z1,z2,-,-,-,-,-,-,⟨a7,cap7,z3,-⟩,a8,cap8,z4,-⟩:=ho.open
   simp only at z0 z1 z2 z3 z4
   subst z0 z1 z2 z3 z4
   have hb2:But R W0 w2:=HB1.out.trans hb6
   have hsz2:=hb6.size
   have r1:=hL.r1.of_block (hb2.at hL.r1.lt (by omega));have r2:=hL.r2.of_block (hb2.at hL.r2.lt (by omega))
   obtain ⟨y0,y1,y2,y3,y4⟩:=cs5 r1 (by omega);have yf:=r1.frozen
   obtain ⟨t0,t1,t2,t3,t4⟩:=cs5 r2 (by omega);have tf:=r2.frozen
   simp only [row5] at y0 y1 y2 y3 y4 t0 t1 t2 t3 t4
   have HEND:=xH (fun u c0 c1 c2 c3 c4=>lt_single (N:=3+3 * N) (p:=p) (s:=6) ⟨by decide,by decide⟩ hR hL.bl ho hn1 (fun x hx=>by have:=hl1 x hx;omega) (by omega) hd6 (by omega) hb2 ⟨by have:=hz6.1;omega,hz6.2⟩ u c0 c1 c2 c3 c4)
   have hlt1:w.heap.size+1 < w2.heap.size:=by omega
   have hlt2:w.heap.size+2 < w2.heap.size:=by omega
   clear r1 r2 HD1 HB1 hL HST HD ho hl1 hd6 hb6 hb2 HC1 f0 f1 f2 k2
   go_wp2_with fail
   refine bodyPost_ret (v:=.agg #[.int .i64 6,.int .i64 0,.string ByteArray.empty,.slice none 0 0,.slice (some ⟨w2.heap.size,0,none⟩) 1 1]) (by simp [results,Tryz.results18,go_sem,y0,y1,y2,y3,y4,hlt1];rfl) rfl ?_
   exact xU HEND _ _ _ _ _ _
end Go.Proofs.YteefjeddboefcaaGreatDoor
