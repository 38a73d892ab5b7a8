/- A part. -/
import Derived.Test.YteefjeddboefcaaGreatDoorPart03
namespace Go.Proofs.YteefjeddboefcaaGreatDoor
open Go Go.RowKit
set_option maxRecDepth 100000
set_option maxHeartbeats 12800000
structure WI (R:Nat) (w:World) (c:C3) (v:Value) (b:List UInt8) (q:Nat) (W:World) (lo:Nat) (s:Int) (vN vK:Value) (ns:List ByteArray) (ks:List Kd) (xs:List Value):Prop where
 sp:SP R w c v b q W
 out:W.rowIs (w.heap.size+2) 26 3 (row3 (.int .i64 s) vN vK)
 nrow:W.ownsRow lo 9 1 vN ns.length (ns.map Value.string)
 krow:W.ownsRow lo 26 3 vK ks.length xs
 kl:KL3 (fun x=>w.heap.size+3≤x∧x < W.heap.size∧vN.ownBlock≠some x∧vK.ownBlock≠some x) W ks xs
 apart:∀ x,vN.ownBlock=some x→vK.ownBlock≠some x
 hlo:w.heap.size+3≤lo
 size:lo≤W.heap.size
section
variable {R:Nat} {w:World} {c:C3} {v:Value} {b:List UInt8} {q:Nat} {W W':World} {lo:Nat} {s:Int} {vN vK v':Value} {ns:List ByteArray} {ks:List Kd} {xs:List Value}
theorem WI.next {q':Nat} (h:WI R w c v b q W lo s vN vK ns ks xs) (hd:DR R W' v b q') (hb:But R W W'):WI R w c v b q' W' lo s vN vK ns ks xs:=by
 have hR:=h.sp.hR
 have hlo:=h.hlo
 refine ⟨h.sp.next hd hb,h.out.of_block (hb.at h.out.lt (by omega)),h.nrow.kept hb ?_,h.krow.kept hb ?_,h.kl.carry (fun x hx=>hb.at hx.2.1 (by omega)) (fun x hx=>⟨hx.1,Nat.lt_of_lt_of_le hx.2.1 hb.size,hx.2.2⟩),h.apart,hlo,Nat.le_trans h.size hb.size⟩
 · rcases e:vN.ownBlock with _ | g
   · exact Or.inl rfl
   · exact Or.inr (fun e2=>by have h1:=(h.nrow.lt g e).1;simp only [Option.some.injEq] at e2;omega)
 · rcases e:vK.ownBlock with _ | g
   · exact Or.inl rfl
   · exact Or.inr (fun e2=>by have h1:=(h.krow.lt g e).1;simp only [Option.some.injEq] at e2;omega)
theorem WI.on (h:WI R w c v b q W lo s vN vK ns ks xs) (hb:Below W.heap.size W W'):WI R w c v b q W' lo s vN vK ns ks xs:=h.next (h.sp.dr.on hb) (But.of_below hb)
theorem WI.alloc (h:WI R w c v b q W lo s vN vK ns ks xs) (o:Obj):WI R w c v b q (W.alloc o) lo s vN vK ns ks xs:=h.on ((Below.refl _ _).alloc (Nat.le_refl _) o)
theorem WI.drew (h:WI R w c v b q W lo s vN vK ns ks xs):WI R w c v b q W.drew lo s vN vK ns ks xs:=h.on (Below.refl _ W).drew
theorem WI.atN (h:WI R w c v b q W lo s vN vK ns ks xs) (hg:W.grownBy W' vN.ownBlock):W'.rowIs (w.heap.size+2) 26 3 (row3 (.int .i64 s) vN vK) :=
 h.out.of_block (hg.block _ h.out.lt (fun e=>by have:=(h.nrow.lt _ e.symm).1;have:=h.hlo;omega))
theorem WI.atK (h:WI R w c v b q W lo s vN vK ns ks xs) (hg:W.grownBy W' vK.ownBlock):W'.rowIs (w.heap.size+2) 26 3 (row3 (.int .i64 s) vN vK) :=
 h.out.of_block (hg.block _ h.out.lt (fun e=>by have:=(h.krow.lt _ e.symm).1;have:=h.hlo;omega))
theorem setGrown (W:World) (B i:Nat) (u:Value):W.grownBy (W.setCell ⟨B,i,none⟩ u) (some B):=⟨rfl,rfl,rfl,by simp [World.setCell],fun k _ hk=>Below.heap_setCell _ _ _ _ (fun e=>hk (by rw [e]))⟩
theorem WI.name {nm:ByteArray} (h:WI R w c v b q W lo s vN vK ns ks xs) (hown:W'.ownsRow lo 9 1 v' (ns.length+1) (ns.map Value.string++[.string nm])) (hg:W.grownBy W' vN.ownBlock) (hv:v'.ownBlock=vN.ownBlock∨∃ g,v'.ownBlock=some g∧W.heap.size≤g) :
 WI R w c v b q (W'.setCell ⟨w.heap.size+2,1,none⟩ v') lo s v' vK (ns++[nm]) ks xs:=by
 have hlo:=h.hlo
 have hset:=setGrown W' (w.heap.size+2) 1 v'
 have hBn:vN.ownBlock≠some (w.heap.size+2):=fun e=>by have:=(h.nrow.lt _ e).1;omega
 have hBk:vK.ownBlock≠some (w.heap.size+2):=fun e=>by have:=(h.krow.lt _ e).1;omega
 have hBv:v'.ownBlock≠some (w.heap.size+2):=fun e=>by have:=(hown.lt _ e).1;omega
 have hfar:∀ x,x < W.heap.size→vN.ownBlock≠some x→v'.ownBlock≠some x:=fun x hx hn=>by
  rcases hv with e | ⟨g,e,hge⟩
  · rw [e];exact hn
  · rw [e];intro e2;simp only [Option.some.injEq] at e2;omega
 refine ⟨(h.sp.touch hg (fun x e=>by have:=(h.nrow.lt x e).1;omega)).touch hset (fun x e=>by cases e;exact Nat.le_refl _),row3_set1 (h.atN hg) v',?_,?_,?_,?_,hlo,by have:=hg.size;have:=h.size;simp [World.setCell];omega⟩
 · have:=hown.kept hset (Or.inr (fun e=>hBv e))
   simpa using this
 · refine (h.krow.kept hg ?_).kept hset (Or.inr (fun e=>hBk e))
   rcases e:vK.ownBlock with _ | g
   · exact Or.inl rfl
   · exact Or.inr (fun e2=>h.apart g e2.symm e)
 · refine h.kl.carry (fun x hx=>?_) (fun x hx=>⟨hx.1,by have:=hg.size;simp [World.setCell];omega,hfar x hx.2.1 hx.2.2.1,hx.2.2.2⟩)
   rw [Below.heap_setCell _ _ _ _ (by simp;omega)]
   exact hg.block x hx.2.1 (fun e=>hx.2.2.1 e.symm)
 · intro x hx e
   rcases hv with e1 | ⟨g,e1,hge⟩
   · exact h.apart x (by rw [← e1];exact hx) e
   · rw [e1] at hx
     simp only [Option.some.injEq] at hx
     have:=(h.krow.lt x e).2
     omega
theorem WI.kid {kk:Kd} {d:C3} (h:WI R w c v b q W lo s vN vK ns ks xs) (hk:KRep (fun x=>w.heap.size+3≤x∧x < W.heap.size∧vN.ownBlock≠some x∧vK.ownBlock≠some x) W kk d) (hown:W'.ownsRow lo 26 3 v' (ks.length+1) (xs++c3l d)) (hg:W.grownBy W' vK.ownBlock) (hv:v'.ownBlock=vK.ownBlock∨∃ g,v'.ownBlock=some g∧W.heap.size≤g) :
 WI R w c v b q (W'.setCell ⟨w.heap.size+2,2,none⟩ v') lo s vN v' ns (ks++[kk]) (xs++c3l d):=by
 have hlo:=h.hlo
 have hset:=setGrown W' (w.heap.size+2) 2 v'
 have hBn:vN.ownBlock≠some (w.heap.size+2):=fun e=>by have:=(h.nrow.lt _ e).1;omega
 have hBv:v'.ownBlock≠some (w.heap.size+2):=fun e=>by have:=(hown.lt _ e).1;omega
 have hfar:∀ x,x < W.heap.size→vK.ownBlock≠some x→v'.ownBlock≠some x:=fun x hx hn=>by
  rcases hv with e | ⟨g,e,hge⟩
  · rw [e];exact hn
  · rw [e];intro e2;simp only [Option.some.injEq] at e2;omega
 refine ⟨(h.sp.touch hg (fun x e=>by have:=(h.krow.lt x e).1;omega)).touch hset (fun x e=>by cases e;exact Nat.le_refl _),row3_set2 (h.atK hg) v',?_,?_,?_,?_,hlo,by have:=hg.size;have:=h.size;simp [World.setCell];omega⟩
 · refine (h.nrow.kept hg ?_).kept hset (Or.inr (fun e=>hBn e))
   rcases e:vN.ownBlock with _ | g
   · exact Or.inl rfl
   · exact Or.inr (fun e2=>h.apart g e e2.symm)
 · have:=hown.kept hset (Or.inr (fun e=>hBv e))
   simpa using this
 · refine (h.kl.snoc hk).carry (fun x hx=>?_) (fun x hx=>⟨hx.1,by have:=hg.size;simp [World.setCell];omega,hx.2.2.1,hfar x hx.2.1 hx.2.2.2⟩)
   rw [Below.heap_setCell _ _ _ _ (by simp;omega)]
   exact hg.block x hx.2.1 (fun e=>hx.2.2.2 e.symm)
 · intro x hx e
   rcases hv with e1 | ⟨g,e1,hge⟩
   · exact h.apart x hx (by rw [← e1];exact e)
   · rw [e1] at e
     simp only [Option.some.injEq] at e
     have:=(h.nrow.lt x hx).2
     omega
theorem WI.done (h:WI R w c v b q W lo s vN vK ns ks xs) (hs:I64 s) (hns:∀ x,x∈ns→x.size≤9223372036854775807) (hk:ks.length≤1000000):KRep (fun x=>w.heap.size+3≤x∧x < W.heap.size) W (.mk s ns ks) ⟨.int .i64 s,vN,vK⟩:=by
 have hlo:=h.hlo
 obtain ⟨F,hst,-,hF,-⟩:=strsOwn_of_row h.nrow hns
 rw [KRep]
 refine ⟨rfl,hs,hst.at.carry (fun x hx=>rfl) (fun x hx=>⟨by have:=(hF x hx).1;omega,(hF x hx).2⟩),?_⟩
 by_cases h0:0 < ks.length
 · obtain ⟨g,cap,e,hg1,hg2⟩:=h.krow.form h0
   subst e
   refine ⟨some ⟨g,0,none⟩,cap,rfl,by omega,fun _=>⟨g,0,rfl,⟨by omega,(h.krow.lt g rfl).2⟩,KL3.back (h.kl.carry (fun _ _=>rfl) (fun x hx=>⟨hx.1,hx.2.1⟩)) (fun j u hj=>?_)⟩⟩
   have hc:=h.krow.cells (g:=g) rfl j u hj
   rw [Addr.add_lit,Nat.zero_add] at hc
   exact hc
 · have h00:ks=[]:=List.eq_nil_of_length_eq_zero (by omega)
   subst h00
   obtain ⟨a,cap,e⟩:∃ a cap,vK=.slice a 0 cap:=by
    rcases h.krow.2 with ⟨e,-⟩ | ⟨g,cap,cur,e,-⟩
    · exact ⟨_,_,e⟩
    · exact ⟨_,_,e⟩
   exact ⟨a,cap,e,by simp,fun hh=>absurd rfl hh⟩
end
structure WJ (R:Nat) (w:World) (c:C3) (v:Value) (b:List UInt8) (q:Nat) (W:World) (B:Nat) (W0:World) (s:Int) (vN vK:Value) (ns:List ByteArray) (ks:List Kd) (xs:List Value):Prop where
 wi:WI R w c v b q W (B+1) s vN vK ns ks xs
 kp:∀ x,x < B→x≠R→x≠w.heap.size+2→W.heap[x]? = W0.heap[x]?
 nms:W.rowIs B 9 8 (fun i=>.string (nm8.getD i ByteArray.empty))
 hB:w.heap.size+3≤B
section
variable {R:Nat} {w:World} {c:C3} {v:Value} {b:List UInt8} {q:Nat} {W W' W0:World} {B:Nat} {s:Int} {vN vK v':Value} {ns:List ByteArray} {ks:List Kd} {xs:List Value}
theorem WJ.next {q':Nat} (h:WJ R w c v b q W B W0 s vN vK ns ks xs) (hd:DR R W' v b q') (hb:But R W W'):WJ R w c v b q' W' B W0 s vN vK ns ks xs:=by
 have hR:=h.wi.sp.hR
 have hB:=h.hB
 have hs:=h.wi.size
 exact ⟨h.wi.next hd hb,fun x h1 h2 h3=>(hb.at (by omega) h2).trans (h.kp x h1 h2 h3),h.nms.of_block (hb.at h.nms.lt (by omega)),hB⟩
theorem WJ.on (h:WJ R w c v b q W B W0 s vN vK ns ks xs) (hb:Below W.heap.size W W'):WJ R w c v b q W' B W0 s vN vK ns ks xs:=h.next (h.wi.sp.dr.on hb) (But.of_below hb)
theorem WJ.alloc (h:WJ R w c v b q W B W0 s vN vK ns ks xs) (o:Obj):WJ R w c v b q (W.alloc o) B W0 s vN vK ns ks xs:=h.on ((Below.refl _ _).alloc (Nat.le_refl _) o)
theorem WJ.drew (h:WJ R w c v b q W B W0 s vN vK ns ks xs):WJ R w c v b q W.drew B W0 s vN vK ns ks xs:=h.on (Below.refl _ W).drew
theorem WJ.name {nm:ByteArray} (h:WJ R w c v b q W B W0 s vN vK ns ks xs) (hown:W'.ownsRow (B+1) 9 1 v' (ns.length+1) (ns.map Value.string++[.string nm])) (hg:W.grownBy W' vN.ownBlock) (hv:v'.ownBlock=vN.ownBlock∨∃ g,v'.ownBlock=some g∧W.heap.size≤g) :
 WJ R w c v b q (W'.setCell ⟨w.heap.size+2,1,none⟩ v') B W0 s v' vK (ns++[nm]) ks xs:=by
 have hB:=h.hB
 have hs:=h.wi.size
 have hfar:∀ x,x≤B→x≠w.heap.size+2→(W'.setCell ⟨w.heap.size+2,1,none⟩ v').heap[x]? = W.heap[x]? := fun x h1 h2=>by
  rw [Below.heap_setCell _ _ _ _ (by simpa using h2)]
  exact hg.block x (by omega) (fun e=>by have:=(h.wi.nrow.lt x e.symm).1;omega)
 exact ⟨h.wi.name hown hg hv,fun x h1 h2 h3=>(hfar x (by omega) h3).trans (h.kp x h1 h2 h3),h.nms.of_block (hfar B (Nat.le_refl _) (by omega)),hB⟩
theorem WJ.kid {kk:Kd} {d:C3} (h:WJ R w c v b q W B W0 s vN vK ns ks xs) (hk:KRep (fun x=>w.heap.size+3≤x∧x < W.heap.size∧vN.ownBlock≠some x∧vK.ownBlock≠some x) W kk d) (hown:W'.ownsRow (B+1) 26 3 v' (ks.length+1) (xs++c3l d)) (hg:W.grownBy W' vK.ownBlock) (hv:v'.ownBlock=vK.ownBlock∨∃ g,v'.ownBlock=some g∧W.heap.size≤g) :
 WJ R w c v b q (W'.setCell ⟨w.heap.size+2,2,none⟩ v') B W0 s vN v' ns (ks++[kk]) (xs++c3l d):=by
 have hB:=h.hB
 have hs:=h.wi.size
 have hfar:∀ x,x≤B→x≠w.heap.size+2→(W'.setCell ⟨w.heap.size+2,2,none⟩ v').heap[x]? = W.heap[x]? := fun x h1 h2=>by
  rw [Below.heap_setCell _ _ _ _ (by simpa using h2)]
  exact hg.block x (by omega) (fun e=>by have:=(h.wi.krow.lt x e.symm).1;omega)
 exact ⟨h.wi.kid hk hown hg hv,fun x h1 h2 h3=>(hfar x (by omega) h3).trans (h.kp x h1 h2 h3),h.nms.of_block (hfar B (Nat.le_refl _) (by omega)),hB⟩
theorem WJ.oldkid {kk:Kd} {d:C3} (h:WJ R w c v b q W B W0 s vN vK ns ks xs) (hk:KRep (fun x=>w.heap.size+3≤x∧x < B) W0 kk d):KRep (fun x=>w.heap.size+3≤x∧x < W.heap.size∧vN.ownBlock≠some x∧vK.ownBlock≠some x) W kk d:=by
 have hR:=h.wi.sp.hR
 have hs:=h.wi.size
 exact KRep.carry (fun x hx=>h.kp x hx.2 (by omega) (by omega)) (fun x hx=>⟨hx.1,by omega,fun e=>by have:=(h.wi.nrow.lt x e).1;omega,fun e=>by have:=(h.wi.krow.lt x e).1;omega⟩) _ _ hk
theorem WJ.start {lo:Nat} (h:WI R w c v b q W lo s (.slice none 0 0) vK [] ks xs):WJ R w c v b q (((W.setCell ⟨w.heap.size+1+1,2,none⟩ (.slice (some ⟨W.heap.size+1,0,none⟩) 0 0)).alloc (.cells (nm8.map Value.string).toArray 9)).alloc (.cells #[] 26)) W.heap.size W s (.slice none 0 0) (.slice (some ⟨W.heap.size+1,0,none⟩) 0 0) [] [] []:=by
 have hlo:=h.hlo
 have hsz:=h.size
 rw [show w.heap.size+1+1=w.heap.size+2 from rfl]
 have hset:=setGrown W (w.heap.size+2) 2 (.slice (some ⟨W.heap.size+1,0,none⟩) 0 0)
 have hsp:=h.sp.touch hset (fun x e=>by cases e;exact Nat.le_refl _)
 have hout:=row3_set2 h.out (.slice (some ⟨W.heap.size+1,0,none⟩) 0 0)
 have hoth:∀ x,x≠w.heap.size+2→(W.setCell ⟨w.heap.size+2,2,none⟩ (.slice (some ⟨W.heap.size+1,0,none⟩) 0 0)).heap[x]? = W.heap[x]? := fun x hx=>Below.heap_setCell _ _ _ _ (by simpa using hx)
 have hz:(W.setCell ⟨w.heap.size+2,2,none⟩ (.slice (some ⟨W.heap.size+1,0,none⟩) 0 0)).heap.size=W.heap.size:=by simp only [size_setCell]
 generalize W.setCell ⟨w.heap.size+2,2,none⟩ (.slice (some ⟨W.heap.size+1,0,none⟩) 0 0)=V at *
 have hb:Below V.heap.size V ((V.alloc (.cells (nm8.map Value.string).toArray 9)).alloc (.cells #[] 26)):=((Below.refl _ _).alloc (Nat.le_refl _) _).alloc (by simp) _
 have hrow:((V.alloc (.cells (nm8.map Value.string).toArray 9)).alloc (.cells #[] 26)).rowIs W.heap.size 9 8 (fun i=>.string (nm8.getD i ByteArray.empty)):=by
  have:=(World.rowIs_alloc V (nm8.map Value.string).toArray 9 (fun i=>.string (nm8.getD i ByteArray.empty)) (fun i hi=>by
   have hi':i < 8:=by simpa [nm8] using hi
   rcases (show i=0∨i=1∨i=2∨i=3∨i=4∨i=5∨i=6∨i=7 by omega) with rfl | rfl | rfl | rfl | rfl | rfl | rfl | rfl <;> rfl)).alloc (.cells #[] 26)
  rw [hz] at this
  exact this
 have hemp:=empty_row (base:=W.heap.size+1) (size:=3) (World.rowIs_alloc (V.alloc (.cells (nm8.map Value.string).toArray 9)) #[] 26 (fun _=>.bool false) (fun i hi=>by simp at hi)) (by rw [World.size_alloc,hz];exact Nat.le_refl _)
 rw [World.size_alloc,hz] at hemp
 refine ⟨⟨hsp.on hb,hout.of_block (hb.block _ hout.lt),World.ownsRow_nil _ _ _ _,hemp,⟨rfl,fun i hi=>by simp at hi⟩,fun x e=>by simp [Value.ownBlock] at e,by omega,by simp [hz]⟩,fun x h1 h2 h3=>?_,hrow,by omega⟩
 rw [hb.block x (by rw [hz];exact h1)]
 exact hoth x h3
end

def kAhead (ns:List ByteArray) (i:Nat):List UInt8:=(if 0 < i then [44] else [])++((ns.getD i ByteArray.empty).data.toList++[58])
mutual
def kxT:Kd→List UInt8
 | .mk s ns ks =>
   if s=1 then [110,117,109]
   else if s=2 then [116,101,120,116]
   else if s=3 then [102,108,97,103]
   else if s=4 then [91]++kxM ks++[93]
   else if s=6 then [63]++kxM ks
   else [123]++kxK ns 0 ks++[125]
def kxM:List Kd→List UInt8
 | []=>[]
 | t::_=>kxT t
def kxK (ns:List ByteArray) (i:Nat):List Kd→List UInt8
 | []=>[]
 | t::r=>kAhead ns i++kxT t++kxK ns (i+1) r
end
mutual
def okD:Kd→Bool
 | .mk s ns ks=>shB (.mk s ns ks) && okDs ks
def okDs:List Kd→Bool
 | []=>true
 | t::r=>okD t && okDs r
end
theorem okD_eq (t:Kd):okD t=(shB t && okDs t.kids):=by
 obtain ⟨s,ns,ks⟩:=t;rw [okD];rfl
theorem okDs_get {ks:List Kd} (h:okDs ks=true) (i:Nat) (hi:i < ks.length):okD ks[i]=true:=by
 induction ks generalizing i with
 | nil=>simp at hi
 | cons t r ih =>
   rw [okDs,Bool.and_eq_true] at h
   cases i with
   | zero=>exact h.1
   | succ i=>exact ih h.2 i (by simpa using hi)
theorem shB_cases {t:Kd} (h:shB t=true):((t.sort=1∨t.sort=2∨t.sort=3)∧t.kids.length=0∧t.names.length=0)∨((t.sort=4∨t.sort=6)∧t.kids.length=1∧t.names.length=0)∨(t.sort=5∧t.kids.length=t.names.length∧riseB t.names=true):=by
 unfold shB at h
 by_cases h1:t.sort=1∨t.sort=2∨t.sort=3
 · rw [if_pos h1] at h;exact Or.inl ⟨h1,of_decide_eq_true h⟩
 · rw [if_neg h1] at h
   by_cases h2:t.sort=4∨t.sort=6
   · rw [if_pos h2] at h;exact Or.inr (Or.inl ⟨h2,of_decide_eq_true h⟩)
   · rw [if_neg h2] at h
     by_cases h3:t.sort=5
     · rw [if_pos h3,Bool.and_eq_true] at h;exact Or.inr (Or.inr ⟨h3,of_decide_eq_true h.1,h.2⟩)
     · rw [if_neg h3] at h;cases h
mutual
theorem pord_len:∀ (t:Kd) (l:Int),(pord t l).length=ksz t
 | .mk s ns ks,l=>by rw [pord,ksz,List.length_cons,pordK_len ks (l+1)];omega
theorem pordK_len:∀ (ks:List Kd) (l:Int),(pordK ks l).length=klsz ks
 | [],l=>by rw [pordK,klsz];rfl
 | t::r,l=>by rw [pordK,klsz,List.length_append,pord_len t l,pordK_len r l]
end
mutual
theorem okD_pord:∀ (t:Kd) (l:Int),(pord t l).all gdB=true→okD t=true
 | .mk s ns ks,l=>by
   intro h
   rw [pord,List.all_cons,Bool.and_eq_true] at h
   rw [okD,Bool.and_eq_true]
   refine ⟨?_,okDs_pord ks (l+1) h.2⟩
   have:=h.1
   simp only [gdB,Bool.and_eq_true] at this
   exact this.2
theorem okDs_pord:∀ (ks:List Kd) (l:Int),(pordK ks l).all gdB=true→okDs ks=true
 | [],l=>by intro _;rw [okDs]
 | t::r,l=>by
   intro h
   rw [pordK,List.all_append,Bool.and_eq_true] at h
   rw [okDs,Bool.and_eq_true]
   exact ⟨okD_pord t l h.1,okDs_pord r l h.2⟩
end
theorem ok_of_qT {t:Kd} (h:0 < qT t 1):okD t=true∧ksz t≤40:=by
 have h':decide (0 < qT t 1)=true:=decide_eq_true h
 rw [qT_start,Bool.and_eq_true] at h'
 refine ⟨okD_pord t 1 h'.1,?_⟩
 rw [← pord_len t 1];exact of_decide_eq_true h'.2
theorem name_size {s:ByteArray} (h:nameOkB s=true):s.size≤8:=by
 unfold nameOkB at h
 simp only [Bool.and_eq_true,decide_eq_true_eq] at h
 omega
theorem rise_size {ss:List ByteArray} (h:riseB ss=true) (i:Nat) (hi:i < ss.length):ss[i].size≤8:=by
 have hg:good ss i=true:=by
  cases hh:good ss i
  · exact absurd (rise_no hi hh) (by rw [h];simp)
  · rfl
 apply name_size
 cases hn:nameOkB ss[i]
 · rw [good_name hi hn] at hg;cases hg
 · rfl

mutual
def okH:Tr→Bool
 | .mk s n tx ns ks=>aloneB (.mk s n tx ns ks) && okHs ks
def okHs:List Tr→Bool
 | []=>true
 | t::r=>okH t && okHs r
end
theorem okH_eq (t:Tr):okH t=(aloneB t && okHs t.kids):=by obtain ⟨s,n,tx,ns,ks⟩:=t;rw [okH];rfl
theorem okHs_get {ks:List Tr} (h:okHs ks=true) (i:Nat) (hi:i < ks.length):okH ks[i]=true:=by
 induction ks generalizing i with
 | nil=>simp at hi
 | cons a r ih =>
   rw [okHs,Bool.and_eq_true] at h
   match i with
   | 0=>exact h.1
   | i+1=>exact ih h.2 i (by simp at hi;omega)
mutual
theorem okH_of_pT:∀ (t:Tr) (d:Int),0≤pT t d→okH t=true
 | .mk s n tx ns ks,d=>by
   intro h
   rw [pT] at h
   rw [okH]
   split at h
   · omega
   · rename_i hn
     have ha:aloneB (.mk s n tx ns ks)=true:=by
      cases e:aloneB (.mk s n tx ns ks)
      · exact absurd (Or.inr e) hn
      · rfl
     rw [ha,okHs_of_pK ks d 1 h];rfl
theorem okHs_of_pK:∀ (ks:List Tr) (d n:Int),0≤pK ks d n→okHs ks=true
 | [],d,n=>by intro _;rw [okHs]
 | t::r,d,n=>by
   intro h
   rw [pK] at h
   rw [okHs]
   split at h
   · omega
   · rename_i hn
     rw [okH_of_pT t (d+1) (by omega),okHs_of_pK r d _ h];rfl
end
def kidOf (k:Kd) (i:Nat):Kd:=if k.sort=5 then k.kids.getD i (.mk 0 [] []) else k.kids.getD 0 (.mk 0 [] [])
mutual
def hT:Tr→Kd→Bool
 | .mk s _ _ ns ks,k=>decide (k.sort=s) && decide (k.names=ns) && hK ks k 0
def hK:List Tr→Kd→Nat→Bool
 | [],_,_=>true
 | t::r,k,i=>hT t (kidOf k i) && hK r k (i+1)
end
theorem hT_eq (t:Tr) (k:Kd):hT t k=(decide (k.sort=t.sort) && decide (k.names=t.names) && hK t.kids k 0):=by obtain ⟨s,n,tx,ns,ks⟩:=t;rw [hT];rfl
theorem kid_at {k:Kd} {t:Tr} (hk:shB k=true) (ht:aloneB t=true) (hs:k.sort=t.sort) (hn:k.names=t.names) {i:Nat} (hi:i < t.kids.length) :
 0 < k.kids.length∧(k.sort=5→i < k.kids.length):=by
 unfold shB at hk
 unfold aloneB at ht
 rw [← hs] at ht
 rw [← hn] at ht
 by_cases h5:k.sort=5
 · simp [h5] at hk ht
   have:=hk.1;have:=ht.1
   exact ⟨by omega,fun _=>by omega⟩
 · refine ⟨?_,fun h=>absurd h h5⟩
   by_cases h46:k.sort=4∨k.sort=6
   · have hn123:¬ (k.sort=1∨k.sort=2∨k.sort=3):=by omega
     rw [if_neg hn123,if_pos h46] at hk
     have:=of_decide_eq_true hk
     omega
   · exfalso
     have ht':t.kids.length=0:=by
      by_cases h1:k.sort=1
      · simp [h1] at ht;simp [ht]
      by_cases h2:k.sort=2
      · simp [h2] at ht;simp [ht]
      by_cases h3:k.sort=3
      · simp [h3] at ht;simp [ht]
      · rw [if_neg h1,if_neg h2,if_neg h3,if_neg (by omega),if_neg h5,if_neg (by omega)] at ht
        cases ht
     omega
theorem kidOf_form {k:Kd} (h:k.sort=5) {i:Nat} (hi:i < k.kids.length):kidOf k i=k.kids[i]:=by
 rw [kidOf,if_pos h];simp [List.getD,hi]
theorem kidOf_else {k:Kd} (h:k.sort≠5) (i:Nat) (hi:0 < k.kids.length):kidOf k i=k.kids[0]:=by
 rw [kidOf,if_neg h];simp [List.getD,hi]
theorem lst_loop (s:ByteArray) (n:Nat):∀ (i:Nat) (r:List UInt8),s.size - i=n→ByteArray.toList.loop s i r=r.reverse++s.data.toList.drop i:=by
 induction n with
 | zero =>
   intro i r h
   unfold ByteArray.toList.loop
   rw [if_neg (by omega),List.drop_eq_nil_of_le (by simp only [Array.length_toList];show s.size≤i;omega),List.append_nil]
 | succ n ih =>
   intro i r h
   unfold ByteArray.toList.loop
   have hi:i < s.size:=by omega
   have e:s.get! i=s.data.toList[i]'(by simpa using hi):=by
    obtain ⟨d⟩:=s
    exact getElem!_pos d i hi
   have hdrop:s.data.toList.drop i=s.data.toList[i]'(by simpa using hi)::s.data.toList.drop (i+1):=List.drop_eq_getElem_cons (by simpa using hi)
   rw [if_pos hi,ih (i+1) _ (by omega),hdrop,e,List.reverse_cons,List.append_assoc]
   rfl
theorem lst_data (s:ByteArray):s.toList=s.data.toList:=by
 have:=lst_loop s s.size 0 [] (by omega)
 rw [List.drop_zero] at this
 exact this
theorem lst_beq (a b:ByteArray):(a.toList==b.toList)=decide (a=b):=by
 rw [lst_data,lst_data,Bool.eq_iff_iff]
 simp only [beq_iff_eq,decide_eq_true_eq]
 constructor
 · intro h;exact ByteArray.ext (Array.toList_inj.1 h)
 · intro h;rw [h]
def hasA (k:Kd) (t:Tr):Bool:=decide (0 < qT k 1) && decide (0 < pT t 1) && hT t k

theorem klsz_take:∀ (ks:List Kd) (i:Nat),(hi:i < ks.length)→klsz (ks.take (i+1))=klsz (ks.take i)+ksz ks[i]
 | [],i,hi=>by simp at hi
 | k::r,0,_=>by simp [klsz]
 | k::r,i+1,hi=>by
   simp only [List.take_succ_cons,klsz,List.getElem_cons_succ]
   rw [klsz_take r i (by simpa using hi)];omega
theorem klsz_le:∀ (ks:List Kd) (i:Nat),klsz (ks.take i)≤klsz ks
 | [],i=>by simp
 | k::r,0=>by simp [klsz]
 | k::r,i+1=>by
   simp only [List.take_succ_cons,klsz]
   have:=klsz_le r i;omega
theorem klsz_lenW:∀ (ks:List Kd),ks.length≤klsz ks
 | []=>by simp
 | k::r=>by have:=klsz_lenW r;have:=ksz_posW k;simp only [klsz,List.length_cons];omega
def WkEnd (N R:Nat) (w w':World) (v:Value) (b:List UInt8) (p:Nat) (e:Ending):Prop :=
 ∃ (k:Kd) (c:C3) (p':Nat),e=.returned (.agg #[c.c0,c.c1,c.c2])∧KRep (fun x=>w.heap.size≤x∧x < w'.heap.size) w' k c∧DR R w' v b p'∧p'≤p+N∧wKd k+1≤N∧But R w w'
def WdSaid (n:Nat):Prop:=∀ (k:Kd),ksz k < n→∀ (P:Nat→Prop) (R:Nat) (w:World) (v:Value) (b:List UInt8) (p:Nat) (c:C3),DR R w v b p→(∀ x,P x→x≠R∧x < w.heap.size)→KRep P w k c→okD k=true→p+2000 * ksz k≤40000000 →
 Calls Tryz.prog 36 #[.pointer (some ⟨R,0,none⟩),.agg #[c.c0,c.c1,c.c2]] w fun e w'=>WkEnd (2000 * ksz k) R w w' v b p e
theorem wk_end {N R:Nat} {w W:World} {v:Value} {b:List UInt8} {p p':Nat} {k:Kd} {c:C3} (hR:R < w.heap.size) (ho:KRep (fun x=>w.heap.size+3≤x∧x < W.heap.size) W k c) (hd:DR R W v b p') (h1:p'≤p+N) (h2:wKd k+1≤N) (hb:But R w W) (c0 c1 c2:Value) :
 WkEnd N R w (((W.setCell ⟨w.heap.size+1,0,none⟩ c0).setCell ⟨w.heap.size+1,1,none⟩ c1).setCell ⟨w.heap.size+1,2,none⟩ c2) v b p (.returned (.agg #[c.c0,c.c1,c.c2])):=by
 refine ⟨k,c,p',rfl,KRep.carry (fun x hx=>by repeat rw [Below.heap_setCell _ _ _ _ (by simp;omega)]) (fun x hx=>⟨by omega,by simp only [size_setCell];exact hx.2⟩) _ _ ho,?_,h1,h2,?_⟩
 · repeat refine DR.set ?_ (by omega) _ _
   exact hd
 · repeat refine but_setx ?_ (by omega) _ _
   exact hb
theorem wk_single {N R:Nat} {w W:World} {v:Value} {b:List UInt8} {p p':Nat} {k:Kd} {c:C3} {s:Int} (hs:I64 s) (hR:R < w.heap.size) (hW:w.heap.size≤W.heap.size) (ho:KRep (fun x=>w.heap.size+3≤x∧x < W.heap.size) W k c) (hd:DR R W v b p') (h1:p'≤p+N) (h2:wKd k+2≤N) (hb:But R w W) (c0 c1 c2:Value) :
 WkEnd N R w ((((W.setCell ⟨w.heap.size+1,0,none⟩ c0).setCell ⟨w.heap.size+1,1,none⟩ c1).setCell ⟨w.heap.size+1,2,none⟩ c2).alloc (.cells #[c.c0,c.c1,c.c2] 26)) v b p (.returned (.agg #[.int .i64 s,.slice none 0 0,.slice (some ⟨W.heap.size,0,none⟩) 1 1])):=by
 generalize hV:((W.setCell ⟨w.heap.size+1,0,none⟩ c0).setCell ⟨w.heap.size+1,1,none⟩ c1).setCell ⟨w.heap.size+1,2,none⟩ c2=V
 have hz:V.heap.size=W.heap.size:=by rw [← hV];simp only [size_setCell]
 have hoV:KRep (fun x=>w.heap.size≤x∧x < V.heap.size) V k c:=by
  rw [← hV]
  exact KRep.carry (fun x hx=>by repeat rw [Below.heap_setCell _ _ _ _ (by simp;omega)]) (fun x hx=>⟨by omega,by simp only [size_setCell];exact hx.2⟩) _ _ ho
 have hdV:DR R V v b p':=by
  rw [← hV]
  repeat refine DR.set ?_ (by omega) _ _
  exact hd
 have hbV:But R w V:=by
  rw [← hV]
  repeat refine but_setx ?_ (by omega) _ _
  exact hb
 have hbl:Below V.heap.size V (V.alloc (.cells #[c.c0,c.c1,c.c2] 26)):=(Below.refl _ _).alloc (Nat.le_refl _) _
 have hrow:=row3_alloc V c.c0 c.c1 c.c2 26
 rw [hz] at hrow
 exact ⟨.mk s [] [k],⟨_,_,_⟩,p',rfl,krep_single hs hbl hrow hW hoV,hdV.on hbl,h1,by simp only [wKd,wS,wKs];omega,hbV.trans (But.alloc R _ _)⟩
theorem WI.newkid {R:Nat} {w W W':World} {c:C3} {v:Value} {b:List UInt8} {q lo:Nat} {s:Int} {vN vK:Value} {ns:List ByteArray} {ks:List Kd} {xs:List Value} {kk:Kd} {d:C3} (h:WI R w c v b q W lo s vN vK ns ks xs) (hk:KRep (fun x=>W.heap.size≤x∧x < W'.heap.size) W' kk d):KRep (fun x=>w.heap.size+3≤x∧x < W'.heap.size∧vN.ownBlock≠some x∧vK.ownBlock≠some x) W' kk d :=
 KRep.carry (fun _ _=>rfl) (fun x hx=>⟨by have:=h.hlo;have:=h.size;omega,hx.2,fun e=>by have:=(h.nrow.lt x e).2;omega,fun e=>by have:=(h.krow.lt x e).2;omega⟩) _ _ hk
theorem WI.start {R:Nat} {w:World} {c0 c1 c2:Value} {v:Value} {b:List UInt8} {p:Nat} (s:Int) (h:DR R w v b p):WI R w ⟨c0,c1,c2⟩ v b p (((w.alloc (.cells #[c0,c1,c2] 26)).alloc (.cells #[.int .i64 0,.slice none 0 0,.slice none 0 0] 26)).alloc (.cells #[.int .i64 s,.slice none 0 0,.slice none 0 0] 26)) (w.heap.size+3) s (.slice none 0 0) (.slice none 0 0) [] [] []:=by
 have hsp:=(SP.start (c0:=c0) (c1:=c1) (c2:=c2) h).on ((Below.refl _ _).alloc (Nat.le_refl _) (.cells #[.int .i64 s,.slice none 0 0,.slice none 0 0] 26))
 have hx:=row3_alloc ((w.alloc (.cells #[c0,c1,c2] 26)).alloc (.cells #[.int .i64 0,.slice none 0 0,.slice none 0 0] 26)) (.int .i64 s) (.slice none 0 0) (.slice none 0 0) 26
 rw [World.size_alloc,World.size_alloc] at hx
 exact ⟨hsp,hx,World.ownsRow_nil _ _ _ _,World.ownsRow_nil _ _ _ _,⟨rfl,fun i hi=>by simp at hi⟩,fun x e=>by simp [Value.ownBlock] at e,Nat.le_refl _,by simp⟩
theorem wKs_takeW:∀ (ks:List Kd) (j:Nat),wKs (ks.take j)≤wKs ks
 | [],j=>by simp
 | k::r,0=>by simp [wKs]
 | k::r,j+1=>by
   simp only [List.take_succ_cons,wKs]
   have:=wKs_takeW r j;omega
theorem maybe_kid {R:Nat} {w W W0:World} {c:C3} {v:Value} {b:List UInt8} {q B:Nat} {s:Int} {vN vK:Value} {ns:List ByteArray} {ks:List Kd} {xs:List Value} {kk:Kd} {x0 x1 x2:Value} (h:WJ R w c v b q W B W0 s vN vK ns ks xs) (hk:KRep (fun x=>w.heap.size+3≤x∧x < W.heap.size∧vN.ownBlock≠some x∧vK.ownBlock≠some x) W kk ⟨x0,x1,x2⟩) (o:Obj) :
 KRep (fun x=>w.heap.size+3≤x∧x < ((W.alloc (.cells #[x0,x1,x2] 26)).alloc o).heap.size∧vN.ownBlock≠some x∧vK.ownBlock≠some x) ((W.alloc (.cells #[x0,x1,x2] 26)).alloc o) (.mk 6 [] [kk]) ⟨.int .i64 6,.slice none 0 0,.slice (some ⟨W.heap.size,0,none⟩) 1 1⟩:=by
 have hs:=h.wi.size
 have hB:=h.hB
 have hb:Below W.heap.size W ((W.alloc (.cells #[x0,x1,x2] 26)).alloc o):=((Below.refl _ _).alloc (Nat.le_refl _) _).alloc (by simp) _
 have hrow:=(row3_alloc W x0 x1 x2 26).alloc o
 rw [KRep]
 refine ⟨rfl,⟨by decide,by decide⟩,⟨none,0,rfl,by simp,fun i hi=>by simp at hi⟩,_,_,rfl,by simp,fun _=>⟨W.heap.size,0,rfl,⟨by omega,hrow.lt,fun e=>by have:=(h.wi.nrow.lt _ e).2;omega,fun e=>by have:=(h.wi.krow.lt _ e).2;omega⟩,?_⟩⟩
 rw [KRepK]
 exact ⟨⟨⟨x0,x1,x2⟩,⟨hrow.cell (i:=0) (by omega),hrow.cell (i:=1) (by omega),hrow.cell (i:=2) (by omega)⟩,KRep.carry (fun x hx=>hb.block x hx.2.1) (fun x hx=>⟨hx.1,Nat.lt_of_lt_of_le hx.2.1 hb.size,hx.2.2⟩) _ _ hk⟩,by rw [KRepK];trivial⟩
theorem l5Wider_step (n:Nat) (IH:WdSaid n):WdSaid (n+1):=by
 intro k hk P R w v b p c h hP hrep hok hp
 obtain ⟨c0,c1,c2⟩:=c
 obtain ⟨e0,hi0,hns,aK,capK,e2,hkl,hks⟩:=hrep.open
 simp only at e0 e2 hns
 obtain ⟨aN,capN,e1,hnl,hnc⟩:=hns
 subst e0 e1 e2
 have hke:ksz k=1+klsz k.kids:=by obtain ⟨s,ns,ks⟩:=k;rw [ksz];rfl
 have hkn:=klsz_lenW k.kids
 have hokd:=hok
 rw [okD_eq] at hokd
 simp only [Bool.and_eq_true] at hokd
 have hwi:=WI.start (c0:=.int .i64 k.sort) (c1:=.slice aN k.names.length capN) (c2:=.slice aK k.kids.length capK) k.sort h
 have hR:=h.cells.lt
 obtain ⟨nK,hnK⟩:∃ nK,nK=k.kids.length:=⟨_,rfl⟩
 obtain ⟨nN,hnN⟩:∃ nN,nN=k.names.length:=⟨_,rfl⟩
 rw [← hnK] at hkn hkl hwi ⊢
 rw [← hnN] at hnl hwi ⊢
 have hnk:nK≤20000:=by omega
 obtain ⟨i0,hi,hz0,hz1,hz2⟩:=info_parts infoKind3
 have HII:=xH hi;have HZ0:=xH hz0;have HZ1:=xH hz1;have HZ2:=xH hz2
 have HWI0:=xH hwi;have HNK:=xH hnK;have HNN:=xH hnN;have HP:=xH hP;have HI:=xH IH;have HKS:=xH hks;have HNC:=xH hnc;have HOKS:=xH hokd.2;have HSH:=xH hokd.1;have HKE:=xH hke;have HPP:=xH hp;have HKK:=xH hk;have HI0:=xH hi0
 have HNM:=xH l5Names_any
 clear hi hz0 hz1 hz2 hwi h hrep hok hokd hnK hnN hP IH hks hnc hke hkn hkl hnl hk hp hi0
 go_enter Tryz.func36,Tryz.ntmps36
 go_wp2_with fail
 generalize hW0:(((w.alloc (.cells #[.int .i64 k.sort,.slice aN nN capN,.slice aK nK capK] 26)).alloc (.cells #[.int .i64 0,.slice none 0 0,.slice none 0 0] 26)).alloc (.cells #[.int .i64 k.sort,.slice none 0 0,.slice none 0 0] 26))=W0 at *
 clear hW0
 go_loopw [6] (fun i wr=>∃ (m q:Nat) (aG:Option Addr) (capG:Nat) (ks:List Kd) (xs:List Value),m≤nK∧i=.int .i64 m∧ks.length=m∧Hid (q≤p+2000 * klsz (k.kids.take m)∧wKs ks≤2000 * klsz (k.kids.take m))∧Hid (WI R w ⟨.int .i64 k.sort,.slice aN nN capN,.slice aK nK capK⟩ v b q wr (w.heap.size+3) k.sort (.slice none 0 0) (.slice aG m capG) [] ks xs)) (fun i _=>nK - (intOf i).toNat)
 case atStart=>exact ⟨0,p,none,0,[],[],Nat.zero_le _,rfl,rfl,xH ⟨by omega,by simp [wKs]⟩,HWI0⟩
 case round =>
  clear HWI0
  obtain ⟨m,q,aG,capG,ks,xs,hm,rfl,hlen,HQ,HW⟩:=hrel
  have hsz:=HW.out.size
  have k2:=HW.out.sp.bK.cell (i:=2) (by omega)
  have t2:=HW.out.out.cell (i:=2) (by omega)
  simp only [row3] at k2 t2
  by_cases hlt:m < nK
  · have hlk:m < k.kids.length:=by rw [← xU HNK];exact hlt
    obtain ⟨kb,ko,⟨d0,d1,d2⟩,rfl,hpb,hcell,hrp⟩:=xU HKS m hlk
    have hold:∀ x,P x→wr.heap[x]? = w.heap[x]? := fun x hx=>HW.out.sp.but.at (xU HP x hx).2 (by have:=(xU HP x hx).1;omega)
    have hcell':=hcell.carry (hold kb hpb)
    have hrw:KRep P wr.drew k.kids[m] ⟨d0,d1,d2⟩:=KRep.carry (w':=wr.drew) hold (fun _ h=>h) _ _ hrp
    obtain ⟨p0,-,⟨a5,cap5,p1,-⟩,a6,cap6,p2,-⟩:=hrp.open
    simp only at p0 p1 p2
    subst p0 p1 p2
    obtain ⟨f0,f1,f2⟩:=hcell'
    simp only at f0 f1 f2
    have hsm:ksz k.kids[m] < n:=by have:=ksz_kid (List.getElem_mem hlk);have:=xU HKK;omega
    have hnt:=klsz_take k.kids m hlk
    have hnl:=klsz_le k.kids (m+1)
    have hqb:q+2000 * ksz k.kids[m]≤40000000:=by have:=HQ.out.1;have:=xU HKE;have:=xU HPP;omega
    have hix:(m:Int) < (nK:Int):=by omega
    have hcall:Calls Tryz.prog 36 #[.pointer (some ⟨R,0,none⟩),.agg #[.int .i64 k.kids[m].sort,.slice a5 k.kids[m].names.length cap5,.slice a6 k.kids[m].kids.length cap6]] wr.drew fun e w6=>∃ (kk:Kd) (x0:Int) (ap:Option Addr) (np cp:Nat) (aq:Option Addr) (nq cq:Nat) (q':Nat),e=.returned (.agg #[.int .i64 x0,.slice ap np cp,.slice aq nq cq])∧Hid (KRep (fun x=>w.heap.size+3≤x∧x < w6.heap.size∧(Value.slice none 0 0).ownBlock≠some x∧(Value.slice aG m capG).ownBlock≠some x) w6 kk ⟨.int .i64 x0,.slice ap np cp,.slice aq nq cq⟩)∧Hid (WI R w ⟨.int .i64 k.sort,.slice aN nN capN,.slice (some ⟨kb,ko,none⟩) nK capK⟩ v b q' w6 (w.heap.size+3) k.sort (.slice none 0 0) (.slice aG m capG) [] ks xs)∧Hid (q'≤q+2000 * ksz k.kids[m]∧wKd kk+1≤2000 * ksz k.kids[m])∧wr.heap.size≤w6.heap.size∧w6.cell? ⟨w.heap.size+2,2,none⟩=some (.slice aG m capG)∧∀ ob,(w6.alloc ob).cell? ⟨w.heap.size+2,2,none⟩=some (.slice aG m capG):=by
     refine (xU HI k.kids[m] hsm P R wr.drew v b q ⟨_,_,_⟩ HW.out.drew.sp.dr (fun x hx=>⟨(xU HP x hx).1,by have:=(xU HP x hx).2;show x < wr.heap.size;have:=HW.out.hlo;omega⟩) hrw (okDs_get (xU HOKS) m hlk) hqb).mono ?_
     rintro e w6 ⟨kk,⟨y0,y1,y2⟩,q',rfl,hkr,hd6,hq6,hw6,hb6⟩
     have hw:=HW.out.drew.next hd6 hb6
     have hkr2:=HW.out.drew.newkid hkr
     obtain ⟨z0,-,⟨a7,cap7,z1,-⟩,a8,cap8,z2,-⟩:=hkr.open
     simp only at z0 z1 z2
     subst z0 z1 z2
     exact ⟨kk,_,_,_,_,_,_,_,q',rfl,hkr2,hw,⟨hq6,hw6⟩,hb6.size,hw.out.cell (i:=2) (by omega),fun ob=>(hw.out.alloc ob).cell (i:=2) (by omega)⟩
    have HNT:=xH hnt
    generalize k.kids[m]=k1 at *
    have HCALL:=xH hcall
    clear hcall hcell hrp hrw hsm hpb hold hnt hnl hqb
    go_wp2_with fail
    go_region_law (first
     | ((refine step_append_lies _ (by rfl) _ _ _ (by rfl) (w.heap.size+3) 26 i0 _ 3 56 Tryz.underlying24 (xU HII) (xU HZ0) (xU HZ1) (xU HZ2) rfl (by decide) (.slice aG m capG) m xs (by rfl) (by have:=(xU HW6).krow;rw [hlen] at this;exact this.alloc _) ⟨w6.heap.size,0,none⟩ 1 1 (c3l ⟨.int .i64 x0,.slice ap np cp,.slice aq nq cq⟩) (by rfl) (by rfl) (cell_three w6 _ _) (fun u hu=>by simp [c3l] at hu;rcases hu with rfl | rfl | rfl <;> rfl) (by decide) (by unfold maxLen;omega) (by omega) (by simp;omega) (w6.heap.size+1) (by simp) ?_;intro g2 cap2 w8 hown8 hgrow8 hat8 hlt8;have u2:=(WI.atK ((xU HW6).alloc _) hgrow8).cell (i:=2) (by omega);have uz2:=(WI.atK ((xU HW6).alloc _) hgrow8).frozen 2;simp only [row3] at u2))
     | (rw [if_pos (by first | rfl | simp [Region.wanted])];go_simp;refine (xU HCALL).mono ?_;rintro e w6 ⟨kk,x0,ap,np,cp,aq,nq,cq,q',rfl,HKR,HW6,HQ6,hs6,t2c,t2d⟩))
    all_goals
     have hz6:∀ o,(w6.alloc o).heap.size=w6.heap.size+1:=fun o=>World.size_alloc _ _
     have hwi8:=WI.kid ((xU HW6).alloc (.cells #[.int .i64 x0,.slice ap np cp,.slice aq nq cq] 26)) (KRep.carry (fun x hx=>Below.heap_alloc _ _ _ hx.2.1) (fun x hx=>⟨hx.1,by rw [hz6];have:=hx.2.1;omega,hx.2.2⟩) _ _ (xU HKR)) (by rw [hlen];exact hown8) hgrow8 (hat8.elim (fun e=>Or.inl (by rw [e];rfl)) (fun e=>Or.inr ⟨g2,rfl,by rw [hz6,e];exact Nat.le_refl _⟩))
     have HW8:=xH hwi8
     clear hwi8 hown8 hgrow8 hat8 hlt8 u2 uz2 HKR HW6 HW t2c t2d
     go_wp2_with fail
     go_roundw
     case rel=>exact ⟨m+1,q',some ⟨g2,0,none⟩,cap2,ks++[kk],_,by omega,by go_num,by simp [hlen],xH ⟨by rw [xU HNT];have:=HQ.out.1;have:=HQ6.out.1;omega,by rw [wKs_snoc1,xU HNT];have:=HQ.out.2;have:=HQ6.out.2;omega⟩,HW8⟩
     case measure=>simp [intOf];omega
  · obtain rfl:m=nK:=by omega
    have HWn:=xH (HW.out.alloc (.cells (nm8.map Value.string).toArray 9))
    have hfull:k.kids.take m=k.kids:=List.take_of_length_le (by rw [← xU HNK];exact Nat.le_refl _)
    rw [hfull] at HQ
    have k0:=HWn.out.sp.bK.cell (i:=0) (by omega)
    simp only [row3] at k0
    clear hfull t2
    go_wp2_with fail
    refine (xU HNM _).mono ?_
    rintro e w2 ⟨rfl,rfl⟩
    go_upto_if 36 with fail
    go_cut [] from 7 (fun wx=>∃ (q2 lo2:Nat) (aN2:Option Addr) (n2 capN2:Nat) (aK2:Option Addr) (m2 capK2:Nat) (ns2:List ByteArray) (ks2:List Kd) (xs2:List Value),Hid (q2≤p+2000 * klsz k.kids+1500∧wS ns2+wKs ks2≤2000 * klsz k.kids+1600∧(∀ x,x∈ns2→x.size≤4)∧ks2.length≤1000000)∧Hid (WI R w ⟨.int .i64 k.sort,.slice aN nN capN,.slice aK m capK⟩ v b q2 wx lo2 k.sort (.slice aN2 n2 capN2) (.slice aK2 m2 capK2) ns2 ks2 xs2))
    case first =>
     by_cases h5:k.sort=5
     · have hq5:(k.sort==5)=true:=beq_iff_eq.2 h5
       have hq6:decide (k.sort=5)=true:=by simpa using h5
       have hnm:nN=m:=by
        rcases shB_cases (xU HSH) with h | h | h
        · omega
        · omega
        · have:=xU HNK;have:=xU HNN;omega
       clear h5
       have t2:=HW.out.out.cell (i:=2) (by omega)
       have tf:=HW.out.out.frozen
       simp only [row3] at t2
       have hl2:=HW.out.out.lt
       have hl3:w.heap.size+2 < wr.heap.size+1:=by omega
       have hl4:w.heap.size+2≠wr.heap.size:=by omega
       have hl5:w.heap.size+2≠wr.heap.size+1:=by omega
       have HJ0:=xH (WJ.start HW.out)
       obtain ⟨j0,hj,hy0,hy1,hy2⟩:=info_parts infoStr1
       have HJJ:=xH hj;have HY0:=xH hy0;have HY1:=xH hy1;have HY2:=xH hy2
       have hkd:∀ (W:World) (q9:Nat),DR R W v b q9→q9+cd 1≤100000000→Calls Tryz.prog 65 #[.pointer (some ⟨R,0,none⟩),.int .i64 2,.bool false] W fun e w'=>LkEnd 1 R W w' v b q9 e:=fun W q9 h1 h2=>lk_all 1 (by omega) R W v b q9 false h1 h2
       have HKD:=xH hkd
       have HNMM:=xH hnm
       clear hj hy0 hy1 hy2 hkd
       go_wp2_with fail
       generalize hW3:(((wr.setCell ⟨w.heap.size+1+1,2,none⟩ (.slice (some ⟨wr.heap.size+1,0,none⟩) 0 0)).alloc (.cells (nm8.map Value.string).toArray 9)).alloc (.cells #[] 26))=W3 at *
       simp only [hq5]
       clear hW3 hnm hq5 hq6 t2 tf hl3 hl4 hl5 HWn k0 k2
       obtain ⟨WA,hWA⟩:∃ WA,WA=wr:=⟨_,rfl⟩
       subst hWA
       go_loopw [9,10] (fun jj ii wv=>∃ (i j q2 nn:Nat) (aN2:Option Addr) (capN2:Nat) (aK2:Option Addr) (capK2:Nat) (ns2:List ByteArray) (ks2:List Kd) (xs2:List Value),i≤8∧j≤m∧nn≤i∧jj=.int .i64 j∧ii=.int .i64 i∧ns2.length=nn∧ks2.length=nn∧Hid (q2≤q+181 * i∧wS ns2≤5 * i∧wKs ks2≤wKs (ks.take j)+183 * i∧∀ x,x∈ns2→x.size≤4)∧Hid (WJ R w ⟨.int .i64 k.sort,.slice aN nN capN,.slice aK m capK⟩ v b q2 wv WA.heap.size WA k.sort (.slice aN2 nn capN2) (.slice aK2 nn capK2) ns2 ks2 xs2)) (fun _ ii _=>8 - (intOf ii).toNat)
       case atStart=>exact ⟨0,0,q,0,none,0,_,0,[],[],[],by omega,by omega,by omega,rfl,rfl,rfl,rfl,xH ⟨by omega,by simp [wS],by simp [wKs],(fun x hx=>by cases hx)⟩,HJ0⟩
       case round =>
        clear HJ0
        obtain ⟨i,j,q2,nn,aN2,capN2,aK2,capK2,ns2,ks2,xs2,hi8,hjm,hnn,rfl,rfl,hln,hlk2,HBD,HJ⟩:=hrel
        by_cases hi:i < 8
        · have hqi:decide ((i:Int) < 8)=true:=by simp;omega
          have hix:(i:Int) < 8:=by omega
          have k1:=HJ.out.wi.sp.bK.cell (i:=1) (by omega)
          simp only [row3] at k1
          have en:=HJ.out.nms.cell (i:=i) hi
          have hnsz:=nm8_size i
          obtain ⟨nm,hnmi⟩:∃ nm,nm8.getD i ByteArray.empty=nm:=⟨_,rfl⟩
          have HNMI:Hid (Value.string (nm8.getD i ByteArray.empty)=Value.string nm):=by show _=_;rw [hnmi]
          rw [hnmi] at en hnsz
          clear hnmi
          go_upto_region 14 with fail
          go_cut [63] from 41 to 104 (fun s wx=>∃ bv:Bool,s=.bool bv∧(bv=true→j < m)∧Hid (WJ R w ⟨.int .i64 k.sort,.slice aN nN capN,.slice aK m capK⟩ v b q2 wx WA.heap.size WA k.sort (.slice aN2 nn capN2) (.slice aK2 nn capK2) ns2 ks2 xs2))
          case first =>
           have HJD:=xH HJ.out.drew
           by_cases hj:j < nN
           · obtain ⟨nb,no,rfl,hpn,hcn,-⟩:=xU HNC j (by rw [← xU HNN];exact hj)
             have en2:wr.cell? ⟨nb,no+j,none⟩=some (.string (k.names[j]'(by rw [← xU HNN];exact hj))):=by
              rw [World.cell?_of_block (w:=w) (a:=⟨nb,no+j,none⟩) (HJ.out.wi.sp.but.at (xU HP nb hpn).2 (show nb≠R by have:=(xU HP nb hpn).1;omega))];exact hcn
             have hqj:decide ((j:Int) < (nN:Int))=true:=by simp;omega
             have hjx:(j:Int) < (nN:Int):=by omega
             generalize k.names[j]'(by rw [← xU HNN];exact hj)=kn at *
             clear hcn
             by_cases heq:kn=nm
             · have hb1:(kn.toList==nm.toList)=true:=by rw [lst_beq];exact decide_eq_true heq
               clear heq
               go_region
               go_wp2_with fail
               go_meet
               case rel=>exact ⟨true,rfl,fun _=>by have:=xU HNMM;omega,HJD⟩
             · have hb1:(kn.toList==nm.toList)=false:=by rw [lst_beq];exact decide_eq_false heq
               clear heq
               go_region
               go_wp2_with fail
               go_meet
               case rel=>exact ⟨false,rfl,(fun h=>by cases h),HJD⟩
           · have hqj:decide ((j:Int) < (nN:Int))=false:=by simp;omega
             go_region
             go_wp2_with fail
             go_meet
             case rel=>exact ⟨false,rfl,(fun h=>by cases h),HJD⟩
          case rest =>
           obtain ⟨bv,rfl,hbv,HJ4⟩:=hcut
           clear HJ k1 en
           cases bv with
           | true =>
             have hjm2:=hbv rfl
             clear hbv
             have e1:=HJ4.out.wi.out.cell (i:=1) (by omega)
             simp only [row3] at e1
             have e1a:∀ ob,(wc.alloc ob).cell? ⟨w.heap.size+2,1,none⟩=some (.slice aN2 nn capN2):=fun ob=>(HJ4.out.wi.out.alloc ob).cell (i:=1) (by omega)
             have en:=HJ4.out.nms.cell (i:=i) hi
             rw [xU HNMI] at en
             have HJD:=xH HJ4.out.drew
             have hsz4:=HJ4.out.wi.size
             go_wp2_with fail
             go_cut [] from 41 to 104 (fun wx=>∃ g1 cap1,Hid (WJ R w ⟨.int .i64 k.sort,.slice aN nN capN,.slice aK m capK⟩ v b q2 wx WA.heap.size WA k.sort (.slice (some ⟨g1,0,none⟩) (nn+1) cap1) (.slice aK2 nn capK2) (ns2++[nm]) ks2 xs2))
             case first =>
              go_region_law ((refine step_append_lies _ (by rfl) _ _ _ (by rfl) (WA.heap.size+1) 9 j0 (.string ByteArray.empty) 1 16 Tryz.underlying23 (xU HJJ) (xU HY0) (xU HY1) (xU HY2) rfl (by decide) (.slice aN2 nn capN2) nn (ns2.map Value.string) (by rfl) (by have:=(xU HJD).wi.nrow;rw [hln] at this;exact this.alloc _) ⟨wc.heap.size,0,none⟩ 1 1 [.string nm] (by rfl) (by rfl) (cell_one wc.drew _ _) (fun u hu=>by simp at hu;subst hu;rfl) (by decide) (by unfold maxLen;omega) (by omega) (by simp;omega) (wc.heap.size+1) (by simp) ?_;intro g1 cap1 w4 hown4 hgrow4 hat4 hlt4;have u1:=(WI.atN ((xU HJD).wi.alloc _) hgrow4).cell (i:=1) (by omega);have uz:=(WI.atN ((xU HJD).wi.alloc _) hgrow4).frozen 1;simp only [row3] at u1))
              all_goals
               have hz4:∀ o,(wc.drew.alloc o).heap.size=wc.heap.size+1:=fun o=>by rw [World.size_alloc];rfl
               have hj5:=WJ.name ((xU HJD).alloc (.cells #[.string nm] 9)) (by rw [hln];exact hown4) hgrow4 (hat4.elim (fun e=>Or.inl (by rw [e];rfl)) (fun e=>Or.inr ⟨g1,rfl,by rw [hz4,e];exact Nat.le_refl _⟩))
               have HJ5:=xH hj5
               clear hj5 hown4 hgrow4 hat4 hlt4 uz u1
               go_wp2_with fail
               go_meet
               exact ⟨g1,cap1,HJ5⟩
             case rest =>
              obtain ⟨g1,cap1,HJ5⟩:=hcut
              clear HJD HJ4 e1 e1a en hsz4
              obtain ⟨g0,cap0,eG,hg1,hg2⟩:=HW.out.krow.form (by omega)
              simp only [Value.slice.injEq] at eG
              obtain ⟨rfl,-,rfl⟩:=eG
              have hjl:j < ks.length:=by omega
              obtain ⟨⟨y0,y1,y2⟩,x0,x1,x2,hkr⟩:=HW.out.kl.2 j hjl
              have hg3:=(HW.out.krow.lt g0 rfl)
              have hgb:wc.heap[g0]? = WA.heap[g0]? := HJ5.out.kp g0 hg3.2 (by omega) (by omega)
              have f0:=HW.out.krow.cells (g:=g0) rfl _ _ x0
              have f1:=HW.out.krow.cells (g:=g0) rfl _ _ x1
              have f2:=HW.out.krow.cells (g:=g0) rfl _ _ x2
              simp only [Addr.add_lit,Nat.zero_add] at f0 f1 f2
              rw [← World.cell?_of_block (w:=WA) (a:=⟨g0,_,none⟩) hgb] at f0 f1 f2
              obtain ⟨z0,-,⟨a7,cap7,z1,-⟩,a8,cap8,z2,-⟩:=hkr.open
              simp only at z0 z1 z2
              subst z0 z1 z2
              have hko:=HJ5.out.drew.oldkid (KRep.carry (fun _ _=>rfl) (fun x hx=>⟨hx.1,hx.2.1⟩) _ _ hkr)
              have htk:ks.take (j+1)=ks.take j++[ks[j]]:=List.take_succ_eq_append_getElem hjl
              have HTK:=xH htk
              have HKO:=xH hko
              have e2:=HJ5.out.wi.out.cell (i:=2) (by omega)
              simp only [row3] at e2
              have e2a:∀ ob,(wc.alloc ob).cell? ⟨w.heap.size+2,2,none⟩=some (.slice aK2 nn capK2):=fun ob=>(HJ5.out.wi.out.alloc ob).cell (i:=2) (by omega)
              have HJD:=xH HJ5.out.drew
              have hsz5:=HJ5.out.wi.size
              have hjx:(j:Int) < (m:Int):=by omega
              generalize ks[j]=k1 at *
              clear hkr hko htk x0 x1 x2 hgb hg3
              go_wp2_with fail
              go_cut [] from 41 to 104 (fun wx=>∃ g2 cap2,Hid (WJ R w ⟨.int .i64 k.sort,.slice aN nN capN,.slice aK m capK⟩ v b q2 wx WA.heap.size WA k.sort (.slice (some ⟨g1,0,none⟩) (nn+1) cap1) (.slice (some ⟨g2,0,none⟩) (nn+1) cap2) (ns2++[nm]) (ks2++[k1]) (xs2++c3l ⟨.int .i64 k1.sort,.slice a7 k1.names.length cap7,.slice a8 k1.kids.length cap8⟩)))
              case first =>
               go_region_law ((refine step_append_lies _ (by rfl) _ _ _ (by rfl) (WA.heap.size+1) 26 i0 _ 3 56 Tryz.underlying24 (xU HII) (xU HZ0) (xU HZ1) (xU HZ2) rfl (by decide) (.slice aK2 nn capK2) nn xs2 (by rfl) (by have:=(xU HJD).wi.krow;rw [hlk2] at this;exact this.alloc _) ⟨wc.heap.size,0,none⟩ 1 1 (c3l ⟨.int .i64 k1.sort,.slice a7 k1.names.length cap7,.slice a8 k1.kids.length cap8⟩) (by rfl) (by rfl) (cell_three wc.drew _ _) (fun u hu=>by simp [c3l] at hu;rcases hu with rfl | rfl | rfl <;> rfl) (by decide) (by unfold maxLen;omega) (by omega) (by simp;omega) (wc.heap.size+1) (by simp) ?_;intro g2 cap2 w8 hown8 hgrow8 hat8 hlt8;have u2:=(WI.atK ((xU HJD).wi.alloc _) hgrow8).cell (i:=2) (by omega);have uz2:=(WI.atK ((xU HJD).wi.alloc _) hgrow8).frozen 2;simp only [row3] at u2))
               all_goals
                have hz4:∀ o,(wc.drew.alloc o).heap.size=wc.heap.size+1:=fun o=>by rw [World.size_alloc];rfl
                have hj8:=WJ.kid ((xU HJD).alloc (.cells #[.int .i64 k1.sort,.slice a7 k1.names.length cap7,.slice a8 k1.kids.length cap8] 26)) (KRep.carry (fun x hx=>Below.heap_alloc _ _ _ hx.2.1) (fun x hx=>⟨hx.1,by rw [World.size_alloc];have:=hx.2.1;omega,hx.2.2⟩) _ _ (xU HKO)) (by rw [hlk2];exact hown8) hgrow8 (hat8.elim (fun e=>Or.inl (by rw [e];rfl)) (fun e=>Or.inr ⟨g2,rfl,by rw [hz4,e];exact Nat.le_refl _⟩))
                have HJ8:=xH hj8
                clear hj8 hown8 hgrow8 hat8 hlt8 uz2 u2
                go_wp2_with fail
                go_meet
                exact ⟨g2,cap2,HJ8⟩
              case rest =>
               obtain ⟨g2,cap2,HJ8⟩:=hcut
               clear HJD HJ5 e2 e2a f0 f1 f2 HKO hsz5
               go_wp2_with fail
               go_roundw
               case rel=>exact ⟨i+1,j+1,q2,nn+1,some ⟨g1,0,none⟩,cap1,some ⟨g2,0,none⟩,cap2,ns2++[nm],ks2++[k1],_,by omega,by omega,by omega,by go_num,by go_num,by simp [hln],by simp [hlk2],xH ⟨by have:=HBD.out.1;omega,by rw [wS_snoc1];have:=HBD.out.2.1;omega,by rw [wKs_snoc1,xU HTK,wKs_snoc1];have:=HBD.out.2.2.1;omega,fun x hx=>by
                rcases List.mem_append.1 hx with hx | hx
                · exact HBD.out.2.2.2 x hx
                · simp at hx;rw [hx];exact hnsz⟩,HJ8⟩
               case measure=>simp [intOf];omega
           | false =>
             clear hbv
             have hqq:q2≤100000000 - 1000:=by have:=HBD.out.1;have:=HQ.out.1;have:=xU HPP;have:=xU HKE;omega
             have HPK:=xH (pick_any R wc v b q2 9 HJ4.out.wi.sp.dr (by omega) (by omega))
             go_wp2_with fail
             refine (xU HPK).mono ?_
             rintro e w5 ⟨r5,rfl,hr5,HD5,HB5⟩
             have HJ6:=xH (HJ4.out.next HD5.out HB5.out)
             clear HD5 HB5 HPK HJ4
             by_cases h0:r5=0
             · subst h0
               obtain ⟨wc,hwc⟩:∃ wc,wc=w5:=⟨_,rfl⟩
               rw [← hwc] at HJ6 ⊢
               clear hwc
               have HJ4:=HJ6
               clear HJ6
               have e1:=HJ4.out.wi.out.cell (i:=1) (by omega)
               simp only [row3] at e1
               have e1a:∀ ob,(wc.alloc ob).cell? ⟨w.heap.size+2,1,none⟩=some (.slice aN2 nn capN2):=fun ob=>(HJ4.out.wi.out.alloc ob).cell (i:=1) (by omega)
               have en:=HJ4.out.nms.cell (i:=i) hi
               rw [xU HNMI] at en
               have HJD:=xH HJ4.out.drew
               have hsz4:=HJ4.out.wi.size
               go_wp2_with fail
               go_cut [] from 41 to 104 (fun wx=>∃ g1 cap1,Hid (WJ R w ⟨.int .i64 k.sort,.slice aN nN capN,.slice aK m capK⟩ v b (q2+1) wx WA.heap.size WA k.sort (.slice (some ⟨g1,0,none⟩) (nn+1) cap1) (.slice aK2 nn capK2) (ns2++[nm]) ks2 xs2))
               case first =>
                go_region_law ((refine step_append_lies _ (by rfl) _ _ _ (by rfl) (WA.heap.size+1) 9 j0 (.string ByteArray.empty) 1 16 Tryz.underlying23 (xU HJJ) (xU HY0) (xU HY1) (xU HY2) rfl (by decide) (.slice aN2 nn capN2) nn (ns2.map Value.string) (by rfl) (by have:=(xU HJD).wi.nrow;rw [hln] at this;exact this.alloc _) ⟨wc.heap.size,0,none⟩ 1 1 [.string nm] (by rfl) (by rfl) (cell_one wc.drew _ _) (fun u hu=>by simp at hu;subst hu;rfl) (by decide) (by unfold maxLen;omega) (by omega) (by simp;omega) (wc.heap.size+1) (by simp) ?_;intro g1 cap1 w4 hown4 hgrow4 hat4 hlt4;have u1:=(WI.atN ((xU HJD).wi.alloc _) hgrow4).cell (i:=1) (by omega);have uz:=(WI.atN ((xU HJD).wi.alloc _) hgrow4).frozen 1;simp only [row3] at u1))
                all_goals
                 have hz4:∀ o,(wc.drew.alloc o).heap.size=wc.heap.size+1:=fun o=>by rw [World.size_alloc];rfl
                 have hj5:=WJ.name ((xU HJD).alloc (.cells #[.string nm] 9)) (by rw [hln];exact hown4) hgrow4 (hat4.elim (fun e=>Or.inl (by rw [e];rfl)) (fun e=>Or.inr ⟨g1,rfl,by rw [hz4,e];exact Nat.le_refl _⟩))
                 have HJ5:=xH hj5
                 clear hj5 hown4 hgrow4 hat4 hlt4 uz u1
                 go_wp2_with fail
                 go_meet
                 exact ⟨g1,cap1,HJ5⟩
               case rest =>
                obtain ⟨g1,cap1,HJ5⟩:=hcut
                clear HJD HJ4 e1 e1a en hsz4
                have hcall:Calls Tryz.prog 65 #[.pointer (some ⟨R,0,none⟩),.int .i64 2,.bool false] wc.drew fun e w6=>∃ (kk:Kd) (x0:Int) (ap:Option Addr) (np cp:Nat) (aq:Option Addr) (nq cq:Nat) (q':Nat),e=.returned (.agg #[.int .i64 x0,.slice ap np cp,.slice aq nq cq])∧Hid (KRep (fun x=>w.heap.size+3≤x∧x < w6.heap.size∧(Value.slice (some ⟨g1,0,none⟩) (nn+1) cap1).ownBlock≠some x∧(Value.slice aK2 nn capK2).ownBlock≠some x) w6 kk ⟨.int .i64 x0,.slice ap np cp,.slice aq nq cq⟩)∧Hid (WJ R w ⟨.int .i64 k.sort,.slice aN nN capN,.slice aK m capK⟩ v b q' w6 WA.heap.size WA k.sort (.slice (some ⟨g1,0,none⟩) (nn+1) cap1) (.slice aK2 nn capK2) (ns2++[nm]) ks2 xs2)∧Hid (q'≤q2+1+180∧wKd kk≤180)∧wc.heap.size≤w6.heap.size∧w6.cell? ⟨w.heap.size+2,2,none⟩=some (.slice aK2 nn capK2)∧(∀ ob,(w6.alloc ob).cell? ⟨w.heap.size+2,2,none⟩=some (.slice aK2 nn capK2))∧∀ ob ob2,((w6.alloc ob).alloc ob2).cell? ⟨w.heap.size+2,2,none⟩=some (.slice aK2 nn capK2):=by
                 have hcd:cd 1=180:=rfl
                 refine (xU HKD wc.drew (q2+1) HJ5.out.drew.wi.sp.dr (by rw [hcd];omega)).mono ?_
                 rintro e w6 ⟨kk,⟨y0,y1,y2⟩,F,q',rfl,ho,-,hF,hd6,hq6,hw6,hb6⟩
                 rw [hcd] at hq6 hw6
                 have hw:=HJ5.out.drew.next hd6 hb6
                 have hkr:=HJ5.out.drew.wi.newkid (OwnD.rep _ _ F hF ho)
                 obtain ⟨z0,-,⟨a7,cap7,z1,-⟩,a8,cap8,z2,-⟩:=hkr.open
                 simp only at z0 z1 z2
                 subst z0 z1 z2
                 exact ⟨kk,_,_,_,_,_,_,_,q',rfl,hkr,hw,⟨hq6,hw6⟩,hb6.size,hw.wi.out.cell (i:=2) (by omega),fun ob=>(hw.wi.out.alloc ob).cell (i:=2) (by omega),fun ob ob2=>((hw.wi.out.alloc ob).alloc ob2).cell (i:=2) (by omega)⟩
                have HCALL:=xH hcall
                have e2:=HJ5.out.wi.out.cell (i:=2) (by omega)
                simp only [row3] at e2
                have hsz5:=HJ5.out.wi.size
                clear hcall HKD
                go_wp2_with fail
                go_region_law (first
                 | ((refine step_append_lies _ (by rfl) _ _ _ (by rfl) (WA.heap.size+1) 26 i0 _ 3 56 Tryz.underlying24 (xU HII) (xU HZ0) (xU HZ1) (xU HZ2) rfl (by decide) (.slice aK2 nn capK2) nn xs2 (by rfl) (by have:=(xU HJ7).wi.krow;rw [hlk2] at this;exact (this.alloc _).alloc _) ⟨w6.heap.size+1,0,none⟩ 1 1 (c3l ⟨.int .i64 6,.slice none 0 0,.slice (some ⟨w6.heap.size,0,none⟩) 1 1⟩) (by rfl) (by rfl) (by have:=cell_three (w6.alloc (.cells #[.int .i64 x0,.slice ap np cp,.slice aq nq cq] 26)) ⟨.int .i64 6,.slice none 0 0,.slice (some ⟨w6.heap.size,0,none⟩) 1 1⟩ 26;rw [World.size_alloc] at this;exact this) (fun u hu=>by simp [c3l] at hu;rcases hu with rfl | rfl | rfl <;> rfl) (by decide) (by unfold maxLen;omega) (by omega) (by simp;omega) (w6.heap.size+2) (by simp) ?_;intro g2 cap2 w8 hown8 hgrow8 hat8 hlt8;have u2:=(WI.atK (((xU HJ7).wi.alloc _).alloc _) hgrow8).cell (i:=2) (by omega);have uz2:=(WI.atK (((xU HJ7).wi.alloc _).alloc _) hgrow8).frozen 2;simp only [row3] at u2))
                 | (rw [if_pos (by first | rfl | simp [Region.wanted])];go_simp;refine (xU HCALL).mono ?_;rintro e w6 ⟨kk,x0,ap,np,cp,aq,nq,cq,q',rfl,HKR,HJ7,HQ7,hs7,t2c,t2d,t2e⟩))
                all_goals
                 have hj8:=WJ.kid (kk:=.mk 6 [] [kk]) (((xU HJ7).alloc (.cells #[.int .i64 x0,.slice ap np cp,.slice aq nq cq] 26)).alloc (.cells #[.int .i64 6,.slice none 0 0,.slice (some ⟨w6.heap.size,0,none⟩) 1 1] 26)) (maybe_kid (xU HJ7) (xU HKR) _) (by rw [hlk2];exact hown8) hgrow8 (hat8.elim (fun e=>Or.inl (by rw [e];rfl)) (fun e=>Or.inr ⟨g2,rfl,by simp [e]⟩))
                 have HJ8:=xH hj8
                 have HQ8:Hid (q'≤q2+1+180∧wKd (.mk 6 [] [kk])≤181):=⟨HQ7.out.1,by have:=HQ7.out.2;simp only [wKd,wS,wKs];omega⟩
                 clear hj8 hown8 hgrow8 hat8 hlt8 uz2 u2 HJ5 e2 HCALL hsz5 HJ7 HKR t2c t2d t2e
                 go_wp2_with fail
                 go_roundw
                 case rel=>exact ⟨i+1,j,q',nn+1,some ⟨g1,0,none⟩,cap1,some ⟨g2,0,none⟩,cap2,ns2++[nm],ks2++[.mk 6 [] [kk]],_,by omega,by omega,by omega,by go_num,by go_num,by simp [hln],by simp [hlk2],xH ⟨by have:=HBD.out.1;have:=HQ8.out.1;omega,by rw [wS_snoc1];have:=HBD.out.2.1;omega,by rw [wKs_snoc1];have:=HBD.out.2.2.1;have:=HQ8.out.2;omega,fun x hx=>by
                  rcases List.mem_append.1 hx with hx | hx
                  · exact HBD.out.2.2.2 x hx
                  · simp at hx;rw [hx];exact hnsz⟩,HJ8⟩
                 case measure=>simp [intOf];omega
             · have hz:((r5:Int)==0)=false:=beq_eq_false_iff_ne.2 (by omega)
               go_wp2_with fail
               go_roundw
               case rel=>exact ⟨i+1,j,q2+1,nn,aN2,capN2,aK2,capK2,ns2,ks2,xs2,by omega,by omega,by omega,by go_num,by go_num,hln,hlk2,xH ⟨by have:=HBD.out.1;omega,by have:=HBD.out.2.1;omega,by have:=HBD.out.2.2.1;omega,HBD.out.2.2.2⟩,HJ6⟩
               case measure=>simp [intOf];omega
        · obtain rfl:i=8:=by omega
          have hwk:=wKs_takeW ks j
          go_wp2_with fail
          go_meet
          exact ⟨q2,_,aN2,nn,capN2,aK2,nn,capK2,ns2,ks2,xs2,xH ⟨by have:=HBD.out.1;have:=HQ.out.1;omega,by have:=HBD.out.2.1;have:=HBD.out.2.2.1;have:=HQ.out.2;omega,HBD.out.2.2.2,by omega⟩,xH HJ.out.wi⟩
     · have hq5:(k.sort==5)=false:=beq_eq_false_iff_ne.2 h5
       have hq6:decide (k.sort=5)=false:=by simpa using h5
       clear h5
       go_wp2_with fail
       go_meet
       exact ⟨q,_,none,0,0,aG,m,capG,[],ks,xs,xH ⟨by have:=HQ.out.1;omega,by have:=HQ.out.2;simp only [wS];omega,(fun x hx=>by cases hx),by omega⟩,HWn⟩
    case rest =>
     obtain ⟨q2,lo2,aN2,n2,capN2,aK2,m2,capK2,ns2,ks2,xs2,HB2,HW2⟩:=hcut
     clear HW HWn HQ k0 k2 HKS HNC HOKS HSH HI HP HNM
     have hqb:q2≤1000000000:=by have:=HB2.out.1;have:=xU HPP;have:=xU HKE;omega
     have HPK:=xH (pick_any R wc v b q2 6 HW2.out.sp.dr (by omega) hqb)
     go_wp2_with fail
     refine (xU HPK).mono ?_
     rintro e w3 ⟨r,rfl,hr,HD3,HB3⟩
     have hw3:=HW2.out.next HD3.out HB3.out
     have hkr:=hw3.done (xU HI0) (fun x hx=>by have:=HB2.out.2.2.1 x hx;omega) HB2.out.2.2.2
     obtain ⟨o0,o1,o2⟩:=cs3 hw3.out (by omega)
     have y0:=hw3.sp.bX.cell (i:=0) (by omega);have y1:=hw3.sp.bX.cell (i:=1) (by omega);have y2:=hw3.sp.bX.cell (i:=2) (by omega);have yf:=hw3.sp.bX.frozen
     simp only [row3] at o0 o1 o2 y0 y1 y2
     have hs3:w.heap.size+3≤w3.heap.size:=by have:=hw3.hlo;have:=hw3.size;omega
     have hlt1:w.heap.size+1 < w3.heap.size:=by omega
     have hne1:w.heap.size+1≠w3.heap.size:=by omega
     have HE1:=xH (fun c0 c1 c2=>wk_end (N:=2000 * ksz k) (p:=p) (p':=q2+1) hR hkr hw3.sp.dr (by have:=HB2.out.1;have:=xU HKE;omega) (by have:=HB2.out.2.1;have:=xU HKE;rw [wKd];omega) hw3.sp.but c0 c1 c2)
     have HE2:=xH (fun c0 c1 c2=>wk_single (N:=2000 * ksz k) (p:=p) (p':=q2+1) (s:=6) ⟨by decide,by decide⟩ hR (by omega) hkr hw3.sp.dr (by have:=HB2.out.1;have:=xU HKE;omega) (by have:=HB2.out.2.1;have:=xU HKE;rw [wKd];omega) hw3.sp.but c0 c1 c2)
     clear hw3 hkr HD3 HB3 HW2 HPK
     by_cases h0:r=0
     · subst h0
       go_wp2_with fail
       refine bodyPost_ret (v:=.agg #[.int .i64 6,.slice none 0 0,.slice (some ⟨w3.heap.size,0,none⟩) 1 1]) (by simp [results,Tryz.results36,go_sem,y0,y1,y2,hlt1]) rfl ?_
       exact xU HE2 _ _ _
     · have hz:((r:Int)==0)=false:=beq_eq_false_iff_ne.2 (by omega)
       go_wp2_with fail
       refine bodyPost_ret (v:=.agg #[.int .i64 k.sort,.slice aN2 n2 capN2,.slice aK2 m2 capK2]) (by simp [results,Tryz.results36,go_sem,y0,y1,y2]) rfl ?_
       exact xU HE1 _ _ _
theorem wd_all:∀ n,WdSaid n
 | 0=>fun _ h=>absurd h (Nat.not_lt_zero _)
 | n+1=>l5Wider_step n (wd_all n)
end Go.Proofs.YteefjeddboefcaaGreatDoor
