/- A part. -/
import Derived.Deep.OwnRows
import Derived.Lib.ItoaLen
import Derived.Test.YteikmbkljkkjiaaRows
import Derived.Deep.RegionWith
import Derived.WalkSmall
import Derived.Handy
set_option maxRecDepth 100000
set_option maxHeartbeats 6400000
namespace Go.Proofs.Yteikmbkljkkjiaa
open Go Go.RowKit
theorem xH {p:Prop} (h:p):Hid p:=h
theorem xU {p:Prop} (h:Hid p):p:=h
theorem hide {p : Prop} (h : p) : Hid p := h
theorem unhide {p : Prop} (h : Hid p) : p := h
theorem cs2 {w : World} {B : Nat} {T : TypeId} {n : Nat} {f : Nat → Value} (h : w.rowIs B T n f) (hn : 2 ≤ n) : w.cell? ⟨B, 0, none⟩ = some (f 0) ∧ w.cell? ⟨B, 1, none⟩ = some (f 1) := ⟨h.cell (i := 0) (by omega), h.cell (i := 1) (by omega)⟩
theorem cs3 {w : World} {B : Nat} {T : TypeId} {n : Nat} {f : Nat → Value} (h : w.rowIs B T n f) (hn : 3 ≤ n) : w.cell? ⟨B, 0, none⟩ = some (f 0) ∧ w.cell? ⟨B, 1, none⟩ = some (f 1) ∧ w.cell? ⟨B, 2, none⟩ = some (f 2) := ⟨h.cell (i := 0) (by omega), h.cell (i := 1) (by omega), h.cell (i := 2) (by omega)⟩
theorem cs4 {w : World} {B : Nat} {T : TypeId} {n : Nat} {f : Nat → Value} (h : w.rowIs B T n f) (hn : 4 ≤ n) : w.cell? ⟨B, 0, none⟩ = some (f 0) ∧ w.cell? ⟨B, 1, none⟩ = some (f 1) ∧ w.cell? ⟨B, 2, none⟩ = some (f 2) ∧ w.cell? ⟨B, 3, none⟩ = some (f 3) := ⟨h.cell (i := 0) (by omega), h.cell (i := 1) (by omega), h.cell (i := 2) (by omega), h.cell (i := 3) (by omega)⟩
theorem cs5 {w : World} {B : Nat} {T : TypeId} {n : Nat} {f : Nat → Value} (h : w.rowIs B T n f) (hn : 5 ≤ n) : w.cell? ⟨B, 0, none⟩ = some (f 0) ∧ w.cell? ⟨B, 1, none⟩ = some (f 1) ∧ w.cell? ⟨B, 2, none⟩ = some (f 2) ∧ w.cell? ⟨B, 3, none⟩ = some (f 3) ∧ w.cell? ⟨B, 4, none⟩ = some (f 4) := ⟨h.cell (i := 0) (by omega), h.cell (i := 1) (by omega), h.cell (i := 2) (by omega), h.cell (i := 3) (by omega), h.cell (i := 4) (by omega)⟩
theorem cs7 {w : World} {B : Nat} {T : TypeId} {n : Nat} {f : Nat → Value} (h : w.rowIs B T n f) (hn : 7 ≤ n) : w.cell? ⟨B, 0, none⟩ = some (f 0) ∧ w.cell? ⟨B, 1, none⟩ = some (f 1) ∧ w.cell? ⟨B, 2, none⟩ = some (f 2) ∧ w.cell? ⟨B, 3, none⟩ = some (f 3) ∧ w.cell? ⟨B, 4, none⟩ = some (f 4) ∧ w.cell? ⟨B, 5, none⟩ = some (f 5) ∧ w.cell? ⟨B, 6, none⟩ = some (f 6) := ⟨h.cell (i := 0) (by omega), h.cell (i := 1) (by omega), h.cell (i := 2) (by omega), h.cell (i := 3) (by omega), h.cell (i := 4) (by omega), h.cell (i := 5) (by omega), h.cell (i := 6) (by omega)⟩
inductive Tr where
 | mk (sort num:Int) (text:ByteArray) (names:List ByteArray) (kids:List Tr)
namespace Tr
end Tr
def StrsAt (P:Nat→Prop) (w:World) (v:Value) (ss:List ByteArray):Prop :=
 ∃ a cap,v=.slice a ss.length cap∧ss.length≤9223372036854775807 ∧
   ∀ i,(h:i < ss.length)→∃ b o,a=some ⟨b,o,none⟩∧P b∧w.cell? ⟨b,o+i,none⟩=some (.string ss[i])∧ss[i].size≤9223372036854775807
def I64 (n:Int):Prop:=-9223372036854775808≤n∧n≤9223372036854775807
theorem StrsAt.carry {P Q:Nat→Prop} {w w':World} {v:Value} {ss:List ByteArray} (h:StrsAt P w v ss) (hP:∀ b,P b→w'.heap[b]? = w.heap[b]?) (hQ:∀ b,P b→Q b):StrsAt Q w' v ss:=by
 obtain ⟨a,cap,h1,h2,h3⟩:=h
 refine ⟨a,cap,h1,h2,fun i hi=>?_⟩
 obtain ⟨b,o,e,p,hc,hs⟩:=h3 i hi
 exact ⟨b,o,e,hQ b p,by rw [World.cell?_of_block (w:=w) (hP b p)];exact hc,hs⟩
def New (w w':World):Nat→Prop:=fun b=>w.heap.size≤b∧b < w'.heap.size
def row5 (c0 c1 c2 c3 c4:Value):Nat→Value
 | 0=>c0
 | 1=>c1
 | 2=>c2
 | 3=>c3
 | _=>c4
end Go.Proofs.Yteikmbkljkkjiaa

namespace Go.Proofs.Yteikmbkljkkjiaa
open Go Go.RowKit
inductive Kd where
 | mk (sort:Int) (names:List ByteArray) (kids:List Kd)
namespace Kd
def sort:Kd→Int | mk s _ _=>s
def names:Kd→List ByteArray | mk _ n _=>n
def kids:Kd→List Kd | mk _ _ k=>k
end Kd
structure C3 where
 (c0 c1 c2:Value)
def C3.at (w:World) (b o:Nat) (c:C3):Prop :=
 w.cell? ⟨b,o,none⟩=some c.c0∧w.cell? ⟨b,o+1,none⟩=some c.c1∧w.cell? ⟨b,o+2,none⟩=some c.c2
theorem C3.at.carry {w w':World} {b o:Nat} {c:C3} (h:C3.at w b o c) (hb:w'.heap[b]? = w.heap[b]?):C3.at w' b o c:=by
 have e:∀ o',w'.cell? ⟨b,o',none⟩=w.cell? ⟨b,o',none⟩:=fun o'=>World.cell?_of_block (w:=w) hb
 obtain ⟨h0,h1,h2⟩:=h
 exact ⟨by rw [e];exact h0,by rw [e];exact h1,by rw [e];exact h2⟩
def row3 (c0 c1 c2:Value):Nat→Value
 | 0=>c0
 | 1=>c1
 | _=>c2
theorem row3_alloc (w:World) (c0 c1 c2:Value) (t:TypeId):(w.alloc (.cells #[c0,c1,c2] t)).rowIs w.heap.size t 3 (row3 c0 c1 c2) :=
 World.rowIs_alloc w #[c0,c1,c2] t _ (fun i hi=>by
  have hi':i < 3:=hi
  match i,hi' with
  | 0,_=>rfl
  | 1,_=>rfl
  | 2,_=>rfl)
end Go.Proofs.Yteikmbkljkkjiaa

namespace Go.Proofs.Yteikmbkljkkjiaa
open Go Go.RowKit
def FlatAt (P:Nat→Prop) (w:World) (v:Value) (n:Nat) (rs:List (List Value)):Prop :=
 ∃ a cap,v=.slice a rs.length cap∧rs.length≤9223372036854775807 ∧
   ∀ i,(h:i < rs.length)→∃ b o,a=some ⟨b,o,none⟩∧P b∧∀ j,j < n→w.cell? ⟨b,o+i * n+j,none⟩=some (rs[i].getD j undef)
theorem FlatAt.carry {P Q:Nat→Prop} {w w':World} {v:Value} {n:Nat} {rs:List (List Value)} (h:FlatAt P w v n rs) (hP:∀ b,P b→w'.heap[b]? = w.heap[b]?) (hQ:∀ b,P b→Q b):FlatAt Q w' v n rs:=by
 obtain ⟨a,cap,h1,h2,h3⟩:=h
 refine ⟨a,cap,h1,h2,fun i hi=>?_⟩
 obtain ⟨b,o,e,hb,hc⟩:=h3 i hi
 exact ⟨b,o,e,hQ b hb,fun j hj=>by rw [World.cell?_of_block (w:=w) (hP b hb)];exact hc j hj⟩
structure Df where
 (name data:ByteArray) (kept:Int)
structure Dm where
 (gone:Bool) (name:ByteArray)
structure Dk where
 (files:List Df) (names:List ByteArray) (moves:List Dm)
def Df.cs (f:Df):List Value:=[.string f.name,.string f.data,.int .i64 f.kept]
def Dm.cs (m:Dm):List Value:=[.bool m.gone,.string m.name]
def Df.okM (f:Df):Prop:=f.name.size≤9223372036854775807∧f.data.size≤9223372036854775807∧I64 f.kept
def Dm.okM (m:Dm):Prop:=m.name.size≤9223372036854775807
def FsAt (P:Nat→Prop) (w:World) (v:Value) (fs:List Df):Prop:=FlatAt P w v 3 (fs.map Df.cs)∧∀ f,f∈fs→f.okM
def MsAt (P:Nat→Prop) (w:World) (v:Value) (ms:List Dm):Prop:=FlatAt P w v 2 (ms.map Dm.cs)∧∀ m,m∈ms→m.okM
theorem FsAt.carry {P Q:Nat→Prop} {w w':World} {v:Value} {fs:List Df} (h:FsAt P w v fs) (hP:∀ b,P b→w'.heap[b]? = w.heap[b]?) (hQ:∀ b,P b→Q b):FsAt Q w' v fs:=⟨h.1.carry hP hQ,h.2⟩
theorem MsAt.carry {P Q:Nat→Prop} {w w':World} {v:Value} {ms:List Dm} (h:MsAt P w v ms) (hP:∀ b,P b→w'.heap[b]? = w.heap[b]?) (hQ:∀ b,P b→Q b):MsAt Q w' v ms:=⟨h.1.carry hP hQ,h.2⟩
theorem FsAt.open {P:Nat→Prop} {w:World} {v:Value} {fs:List Df} (h:FsAt P w v fs):∃ a cap,v=.slice a fs.length cap∧fs.length≤9223372036854775807 ∧
 ∀ i,(hi:i < fs.length)→∃ b o,a=some ⟨b,o,none⟩∧P b∧C3.at w b (o+i * 3) ⟨.string fs[i].name,.string fs[i].data,.int .i64 fs[i].kept⟩∧fs[i].okM:=by
 obtain ⟨⟨a,cap,h1,h2,h3⟩,h4⟩:=h
 rw [List.length_map] at h1 h2
 refine ⟨a,cap,h1,h2,fun i hi=>?_⟩
 obtain ⟨b,o,e,hb,hc⟩:=h3 i (by rw [List.length_map];exact hi)
 have c0:=hc 0 (by omega);have c1:=hc 1 (by omega);have c2:=hc 2 (by omega)
 simp only [List.getElem_map,Df.cs,Nat.add_zero,List.getD_cons_zero,List.getD_cons_succ] at c0 c1 c2
 exact ⟨b,o,e,hb,⟨c0,c1,c2⟩,h4 _ (List.getElem_mem hi)⟩
theorem MsAt.open {P:Nat→Prop} {w:World} {v:Value} {ms:List Dm} (h:MsAt P w v ms):∃ a cap,v=.slice a ms.length cap∧ms.length≤9223372036854775807 ∧
 ∀ i,(hi:i < ms.length)→∃ b o,a=some ⟨b,o,none⟩∧P b∧w.cell? ⟨b,o+i * 2,none⟩=some (.bool ms[i].gone)∧w.cell? ⟨b,o+i * 2+1,none⟩=some (.string ms[i].name)∧ms[i].okM:=by
 obtain ⟨⟨a,cap,h1,h2,h3⟩,h4⟩:=h
 rw [List.length_map] at h1 h2
 refine ⟨a,cap,h1,h2,fun i hi=>?_⟩
 obtain ⟨b,o,e,hb,hc⟩:=h3 i (by rw [List.length_map];exact hi)
 have c0:=hc 0 (by omega);have c1:=hc 1 (by omega)
 simp only [List.getElem_map,Dm.cs,Nat.add_zero,List.getD_cons_zero,List.getD_cons_succ] at c0 c1
 exact ⟨b,o,e,hb,c0,c1,h4 _ (List.getElem_mem hi)⟩
structure DkAt (P:Nat→Prop) (w:World) (d:Dk) (c:C3):Prop where
 fs:FsAt P w c.c0 d.files
 ns:StrsAt P w c.c1 d.names
 ms:MsAt P w c.c2 d.moves
theorem DkAt.carry {P Q:Nat→Prop} {w w':World} {d:Dk} {c:C3} (h:DkAt P w d c) (hP:∀ b,P b→w'.heap[b]? = w.heap[b]?) (hQ:∀ b,P b→Q b):DkAt Q w' d c:=⟨h.fs.carry hP hQ,h.ns.carry hP hQ,h.ms.carry hP hQ⟩
end Go.Proofs.Yteikmbkljkkjiaa

namespace Go.Proofs.Yteikmbkljkkjiaa
open Go Go.RowKit
structure Pt where
 (num first next size:Int)
structure Pl where
 (parts:List Pt) (op fi:Int)
instance:Inhabited Pt:=⟨⟨0,0,0,0⟩⟩
def Pt.cs (p:Pt):List Value:=[.int .i64 p.num,.int .i64 p.first,.int .i64 p.next,.int .i64 p.size]
def PtsAt (P:Nat→Prop) (w:World) (v:Value) (ps:List Pt):Prop:=FlatAt P w v 4 (ps.map Pt.cs)
theorem PtsAt.carry {P Q:Nat→Prop} {w w':World} {v:Value} {ps:List Pt} (h:PtsAt P w v ps) (hP:∀ b,P b→w'.heap[b]? = w.heap[b]?) (hQ:∀ b,P b→Q b):PtsAt Q w' v ps:=FlatAt.carry h hP hQ
structure P4At (w:World) (b o:Nat) (p:Pt):Prop where
 e0:w.cell? ⟨b,o,none⟩=some (.int .i64 p.num)
 e1:w.cell? ⟨b,o+1,none⟩=some (.int .i64 p.first)
 e2:w.cell? ⟨b,o+2,none⟩=some (.int .i64 p.next)
 e3:w.cell? ⟨b,o+3,none⟩=some (.int .i64 p.size)
theorem P4At.carry {w w':World} {b o:Nat} {p:Pt} (h:P4At w b o p) (hb:w'.heap[b]? = w.heap[b]?):P4At w' b o p :=
 ⟨(World.cell?_of_block (w:=w) (a:=⟨b,o,none⟩) hb).trans h.e0,(World.cell?_of_block (w:=w) (a:=⟨b,o+1,none⟩) hb).trans h.e1,(World.cell?_of_block (w:=w) (a:=⟨b,o+2,none⟩) hb).trans h.e2,(World.cell?_of_block (w:=w) (a:=⟨b,o+3,none⟩) hb).trans h.e3⟩
theorem PtsAt.open {P:Nat→Prop} {w:World} {v:Value} {ps:List Pt} (h:PtsAt P w v ps):∃ a cap,v=.slice a ps.length cap∧ps.length≤9223372036854775807 ∧
 ∀ i,(hi:i < ps.length)→∃ b o,a=some ⟨b,o,none⟩∧P b∧P4At w b (o+i * 4) ps[i]:=by
 obtain ⟨a,cap,h1,h2,h3⟩:=h
 rw [List.length_map] at h1 h2
 refine ⟨a,cap,h1,h2,fun i hi=>?_⟩
 obtain ⟨b,o,e,hb,hc⟩:=h3 i (by rw [List.length_map];exact hi)
 have c0:=hc 0 (by omega);have c1:=hc 1 (by omega);have c2:=hc 2 (by omega);have c3:=hc 3 (by omega)
 simp only [List.getElem_map,Pt.cs,Nat.add_zero,List.getD_cons_zero,List.getD_cons_succ] at c0 c1 c2 c3
 exact ⟨b,o,e,hb,⟨c0,c1,c2,c3⟩⟩
def nx (ps:List Pt):Nat→Int
 | 0=>1
 | i+1=>(ps.getD i default).next
theorem nx_succ {ps:List Pt} {i:Nat} (h:i < ps.length):nx ps (i+1)=ps[i].next:=by
 show (ps.getD i default).next=_
 rw [List.getD_eq_getElem?_getD,List.getElem?_eq_getElem h];rfl
def ptOk (p:Pt) (n:Int):Prop:=p.first=n∧p.first≤p.next∧p.next≤1000000∧0≤p.size∧p.size≤20000
def numsOk (zs:List Int):Prop:=(∀ x,x∈zs→1≤x∧x≤999999)∧zs.Nodup
def plOk (l:Pl):Prop:=l.parts.length≤40∧numsOk (l.op::l.parts.map Pt.num)∧(∀ i,(h:i < l.parts.length)→ptOk l.parts[i] (nx l.parts i))∧l.fi=nx l.parts l.parts.length
def sPt (l:Pl) (i:Nat) (h:i < l.parts.length):Prop:=(1≤l.parts[i].num∧l.parts[i].num≤999999)∧l.parts[i].num≠l.op∧ptOk l.parts[i] (nx l.parts i)∧∀ j,(hj:j < i)→(l.parts[j]'(by omega)).num≠l.parts[i].num
theorem plOk_iff (l:Pl):plOk l↔l.parts.length≤40∧(1≤l.op∧l.op≤999999)∧(∀ i,(h:i < l.parts.length)→sPt l i h)∧l.fi=nx l.parts l.parts.length:=by
 constructor
 · rintro ⟨h1,⟨h2,h3⟩,h4,h5⟩
   rw [List.nodup_cons] at h3
   refine ⟨h1,h2 _ (by simp),fun i h=>⟨h2 _ (by simp only [List.mem_cons,List.mem_map];exact Or.inr ⟨_,List.getElem_mem h,rfl⟩),fun e=>h3.1 (by rw [← e];exact List.mem_map.2 ⟨_,List.getElem_mem h,rfl⟩),h4 i h,fun j hj=>?_⟩,h5⟩
   have:=(List.pairwise_iff_getElem.1 h3.2) j i (by rw [List.length_map];omega) (by rw [List.length_map];omega) hj
   simpa using this
 · rintro ⟨h1,h2,h3,h4⟩
   refine ⟨h1,⟨fun x hx=>?_,List.nodup_cons.2 ⟨fun hm=>?_,?_⟩⟩,fun i h=>(h3 i h).2.2.1,h4⟩
   · rcases List.mem_cons.1 hx with rfl | hx
     · exact h2
     · obtain ⟨p,hp,rfl⟩:=List.mem_map.1 hx
       obtain ⟨i,hi,rfl⟩:=List.getElem_of_mem hp
       exact (h3 i hi).1
   · obtain ⟨p,hp,he⟩:=List.mem_map.1 hm
     obtain ⟨i,hi,rfl⟩:=List.getElem_of_mem hp
     exact (h3 i hi).2.1 he
   · refine List.pairwise_iff_getElem.2 fun i j hi hj hij=>?_
     rw [List.length_map] at hj
     have:=(h3 j hj).2.2.2 i hij
     simpa using this
end Go.Proofs.Yteikmbkljkkjiaa

namespace Go.Proofs.Yteikmbkljkkjiaa
open Go Go.RowKit
def decB (n:Int):ByteArray:=⟨(Lib.itoa n).toArray⟩
def Sm (n:Int):Prop:=-999999999≤n∧n≤999999999
theorem Sm.len {n:Int} (h:Sm n):(Lib.itoa n).length≤21:=Lib.itoa_length_le n (by have:=h.1;omega) (by have:=h.2;omega)
theorem decB_size {n:Int} (h:Sm n):(decB n).size≤21:=by
 have:=h.len
 simpa [decB,ByteArray.size] using this
def sealL (p:Pt):List UInt8:=[115,101,97,108,32]++Lib.itoa p.num++[32]++Lib.itoa p.first++[32]++Lib.itoa p.next++[32]++Lib.itoa p.size++[10]
def opnL (l:Pl):List UInt8:=[111,112,101,110,32]++Lib.itoa l.op++[32]++Lib.itoa l.fi++[10]
def endL:List UInt8:=[101,110,100,10]
def plX (l:Pl) (k:Nat):List UInt8:=((l.parts.take k).map sealL).flatten
def plT (l:Pl):List UInt8:=plX l l.parts.length++(opnL l++endL)
theorem plX_succ {l:Pl} {k:Nat} (h:k < l.parts.length):plX l (k+1)=plX l k++sealL l.parts[k]:=by
 unfold plX
 rw [List.take_succ_eq_append_getElem h,List.map_append,List.flatten_append]
 simp
open Classical in
noncomputable def plW (l:Pl):ByteArray:=if plOk l then ⟨(plT l).toArray⟩ else ⟨#[]⟩
theorem plW_yes {l:Pl} (h:plOk l):plW l=⟨(plT l).toArray⟩:=if_pos h
theorem plW_no {l:Pl} (h:¬ plOk l):plW l=⟨#[]⟩:=if_neg h
theorem nx_bd {l:Pl} (h:plOk l):∀ i,i≤l.parts.length→1≤nx l.parts i∧nx l.parts i≤1000000
 | 0,_=>⟨by show (1:Int)≤1;omega,by show (1:Int)≤1000000;omega⟩
 | i+1,hi=>by
   have ih:=nx_bd h i (by omega)
   obtain ⟨h1,h2,h3,-,-⟩:=h.2.2.1 i (by omega)
   rw [nx_succ (by omega)]
   omega
theorem pt_sm {l:Pl} (h:plOk l) {i:Nat} (hi:i < l.parts.length):Sm l.parts[i].num∧Sm l.parts[i].first∧Sm l.parts[i].next∧Sm l.parts[i].size:=by
 have h0:=nx_bd h i (by omega)
 obtain ⟨h1,h2,h3,h4,h5⟩:=h.2.2.1 i hi
 have h6:=h.2.1.1 l.parts[i].num (by simp only [List.mem_cons,List.mem_map];exact Or.inr ⟨_,List.getElem_mem hi,rfl⟩)
 unfold Sm
 omega
theorem op_sm {l:Pl} (h:plOk l):Sm l.op∧Sm l.fi:=by
 have h0:=nx_bd h l.parts.length (Nat.le_refl _)
 have h1:=h.2.2.2
 have h6:=h.2.1.1 l.op (by simp)
 unfold Sm
 omega
theorem sealL_len {p:Pt} (h:Sm p.num∧Sm p.first∧Sm p.next∧Sm p.size):(sealL p).length≤100:=by
 have a:=h.1.len;have b:=h.2.1.len;have c:=h.2.2.1.len;have d:=h.2.2.2.len
 unfold sealL
 simp only [List.length_append,List.length_cons,List.length_nil]
 omega
theorem opnL_len {l:Pl} (h:Sm l.op∧Sm l.fi):(opnL l).length≤100:=by
 have a:=h.1.len;have b:=h.2.len
 unfold opnL
 simp only [List.length_append,List.length_cons,List.length_nil]
 omega
theorem plX_len {l:Pl} (h:plOk l):∀ k,k≤l.parts.length→(plX l k).length≤100 * k
 | 0,_=>by unfold plX;simp
 | k+1,hk=>by
   have ih:=plX_len h k (by omega)
   have h1:=sealL_len (pt_sm h (i:=k) (by omega))
   rw [plX_succ (by omega),List.length_append]
   omega
theorem seal_bytes (s:List UInt8) (p:Pt):((((((((((⟨s.toArray⟩:ByteArray)++⟨#[115,101,97,108,32]⟩)++decB p.num)++⟨#[32]⟩)++decB p.first)++⟨#[32]⟩)++decB p.next)++⟨#[32]⟩)++decB p.size)++⟨#[10]⟩:ByteArray)=⟨(s++sealL p).toArray⟩:=by
 apply ByteArray.ext
 unfold sealL decB
 simp
theorem open_bytes (s:List UInt8) (l:Pl):((((((⟨s.toArray⟩:ByteArray)++⟨#[111,112,101,110,32]⟩)++decB l.op)++⟨#[32]⟩)++decB l.fi)++⟨#[10,101,110,100,10]⟩:ByteArray)=⟨(s++(opnL l++endL)).toArray⟩:=by
 apply ByteArray.ext
 unfold opnL endL decB
 simp
end Go.Proofs.Yteikmbkljkkjiaa

namespace Go.Proofs.Yteikmbkljkkjiaa
open Go Go.RowKit
def numS (X:List UInt8):Nat→Int→Nat→Int × Nat
 | 0,n,i=>(n,i)
 | f+1,n,i=>match X[i]? with
   | some b=>if 48≤b.toNat∧b.toNat≤57 then numS X f (n * 10+((b.toNat:Int) - 48)) (i+1) else (n,i)
   | none=>(n,i)
theorem numS_yes {X:List UInt8} {f:Nat} {n:Int} {i:Nat} (hi:i < X.length) (h:48≤X[i].toNat∧X[i].toNat≤57):numS X (f+1) n i=numS X f (n * 10+((X[i].toNat:Int) - 48)) (i+1):=by
 simp only [numS,List.getElem?_eq_getElem hi,if_pos h]
theorem numS_no {X:List UInt8} {f:Nat} {n:Int} {i:Nat} (hi:i < X.length) (h:¬ (48≤X[i].toNat∧X[i].toNat≤57)):numS X f n i=(n,i):=by
 cases f with
 | zero=>rfl
 | succ f=>simp only [numS,List.getElem?_eq_getElem hi,if_neg h]
theorem numS_end {X:List UInt8} {f:Nat} {n:Int} {i:Nat} (hi:X.length≤i):numS X f n i=(n,i):=by
 cases f with
 | zero=>rfl
 | succ f=>simp only [numS,List.getElem?_eq_none hi]
theorem numS_bd (X:List UInt8):∀ (f:Nat) (n:Int) (i:Nat) (B:Int),0≤n→n≤B→1≤B→0≤(numS X f n i).1∧(numS X f n i).1+1≤(B+1) * 10 ^ f∧i≤(numS X f n i).2∧(numS X f n i).2≤i+f
 | 0,n,i,B,h0,h1,h2=>by simp only [numS];omega
 | f+1,n,i,B,h0,h1,h2=>by
   have hp:(1:Int)≤10 ^ f:=by
    have:(0:Int) < 10 ^ f:=Int.pow_pos (by decide)
    omega
   have hs:(n,i).1+1≤(B+1) * 10 ^ (f+1):=by
    have h3:(B+1) * 1≤(B+1) * 10 ^ (f+1):=Int.mul_le_mul_of_nonneg_left (by have:(0:Int) < 10 ^ (f+1):=Int.pow_pos (by decide);omega) (by omega)
    simp only;omega
   by_cases hi:i < X.length
   · by_cases hd:48≤X[i].toNat∧X[i].toNat≤57
     · rw [numS_yes hi hd]
       have ih:=numS_bd X f (n * 10+((X[i].toNat:Int) - 48)) (i+1) (B * 10+9) (by omega) (by omega) (by omega)
       refine ⟨ih.1,?_,by omega,by omega⟩
       have:(B * 10+9+1) * 10 ^ f=(B+1) * 10 ^ (f+1):=by
        rw [Int.pow_succ,show B * 10+9+1=(B+1) * 10 by omega,Int.mul_assoc,Int.mul_comm 10]
       rw [← this];exact ih.2.1
     · rw [numS_no hi hd];exact ⟨h0,hs,by simp only;omega,by simp only;omega⟩
   · rw [numS_end (by omega)];exact ⟨h0,hs,by simp only;omega,by simp only;omega⟩
def valD (n:Int) (ds:List UInt8):Int:=ds.foldl (fun n b=>n * 10+((b.toNat:Int) - 48)) n
theorem numS_ds:∀ (ds A Y:List UInt8) (f:Nat) (n:Int),(∀ b,b∈ds→48≤b.toNat∧b.toNat≤57)→ds.length≤f→(∀ b,Y.head? = some b→¬ (48≤b.toNat∧b.toNat≤57))→numS (A++ds++Y) f n A.length=(valD n ds,A.length+ds.length)
 | [],A,Y,f,n,_,_,hY=>by
   simp only [List.append_nil,valD,List.foldl_nil,List.length_nil,Nat.add_zero]
   cases Y with
   | nil=>exact numS_end (by simp)
   | cons y Y =>
     refine numS_no (by simp) ?_
     have:=hY y rfl
     simpa using this
 | b::ds,A,Y,f,n,hd,hl,hY=>by
   cases f with
   | zero=>simp at hl
   | succ f =>
     have hi:A.length < (A++(b::ds)++Y).length:=by simp
     have hb:(A++(b::ds)++Y)[A.length]=b:=by simp
     rw [numS_yes hi (by rw [hb];exact hd b (by simp)),hb]
     have e:A++(b::ds)++Y=(A++[b])++ds++Y:=by simp
     have ih:=numS_ds ds (A++[b]) Y f (n * 10+((b.toNat:Int) - 48)) (fun c hc=>hd c (by simp [hc])) (by simpa using hl) hY
     rw [List.length_append,List.length_singleton] at ih
     rw [e,ih]
     simp only [valD,List.foldl_cons,List.length_cons,Prod.mk.injEq,true_and]
     omega
theorem dec_digits (u:Nat):∀ b,b∈Lib.decDigits u→48≤b.toNat∧b.toNat≤57:=by
 induction u using Nat.strongRecOn with
 | ind u ih =>
   intro b hb
   rw [Lib.decDigits] at hb
   split at hb
   · next h =>
     simp only [List.mem_singleton] at hb
     subst hb
     simp only [UInt8.toNat_ofNat']
     omega
   · next h =>
     rcases List.mem_append.1 hb with hb | hb
     · exact ih (u / 10) (by omega) b hb
     · simp only [List.mem_singleton] at hb
       subst hb
       simp only [UInt8.toNat_ofNat']
       omega
theorem dec_val (u:Nat):valD 0 (Lib.decDigits u)=u:=by
 induction u using Nat.strongRecOn with
 | ind u ih =>
   rw [Lib.decDigits]
   split
   · next h =>
     simp only [valD,List.foldl_cons,List.foldl_nil,UInt8.toNat_ofNat']
     omega
   · next h =>
     have:=ih (u / 10) (by omega)
     unfold valD at this ⊢
     rw [List.foldl_append,this]
     simp only [List.foldl_cons,List.foldl_nil,UInt8.toNat_ofNat']
     omega
theorem dec_len:∀ (k u:Nat),u < 10 ^ (k+1)→(Lib.decDigits u).length≤k+1
 | 0,u,h=>by rw [Lib.decDigits,dif_pos (by simpa using h)];simp
 | k+1,u,h=>by
   rw [Lib.decDigits]
   split
   · simp
   · rw [List.length_append,List.length_singleton]
     have:=dec_len k (u / 10) (by rw [Nat.pow_succ] at h;omega)
     omega
theorem itoa_dec {n:Int} (h0:0≤n):Lib.itoa n=Lib.decDigits n.toNat:=by unfold Lib.itoa;rw [if_neg (by omega)]
theorem numS_itoa {A Y:List UInt8} {n:Int} (h0:0≤n) (h1:n≤9999999) (hY:∀ b,Y.head? = some b→¬ (48≤b.toNat∧b.toNat≤57)):numS (A++Lib.itoa n++Y) 7 0 A.length=(n,A.length+(Lib.itoa n).length):=by
 rw [itoa_dec h0,numS_ds _ A Y 7 0 (dec_digits _) (dec_len 6 _ (by omega)) hY,dec_val]
 simp only [Prod.mk.injEq,and_true]
 omega
def numsI (X:List UInt8) (i:Nat):Nat→List Int × Nat
 | 0=>([],i)
 | j+1=>((numsI X i j).1++[(numS X 7 0 (numsI X i j).2).1],(numS X 7 0 (numsI X i j).2).2+1)
theorem numsI_len (X:List UInt8) (i:Nat):∀ j,(numsI X i j).1.length=j
 | 0=>rfl
 | j+1=>by simp [numsI,numsI_len X i j]
theorem numsI_bd (X:List UInt8) (i:Nat):∀ j,i≤(numsI X i j).2∧(numsI X i j).2≤i+8 * j∧∀ z,z∈(numsI X i j).1→0≤z∧z≤99999999
 | 0=>⟨Nat.le_refl _,Nat.le_refl _,fun z hz=>(by cases hz)⟩
 | j+1=>by
   obtain ⟨h1,h2,h3⟩:=numsI_bd X i j
   have h4:=numS_bd X 7 0 (numsI X i j).2 1 (by omega) (by omega) (by omega)
   have h5:((1:Int)+1) * 10 ^ 7=20000000:=by decide
   rw [h5] at h4
   simp only [numsI]
   refine ⟨by omega,by omega,fun z hz=>?_⟩
   rcases List.mem_append.1 hz with hz | hz
   · exact h3 z hz
   · simp only [List.mem_singleton] at hz;subst hz;omega
def sealI (X:List UInt8):Nat→List Pt × Nat
 | 0=>([],0)
 | j+1=>((sealI X j).1++[⟨(numsI X ((sealI X j).2+5) 4).1.getD 0 0,(numsI X ((sealI X j).2+5) 4).1.getD 1 0,(numsI X ((sealI X j).2+5) 4).1.getD 2 0,(numsI X ((sealI X j).2+5) 4).1.getD 3 0⟩],(numsI X ((sealI X j).2+5) 4).2)
theorem sealI_len (X:List UInt8):∀ j,(sealI X j).1.length=j
 | 0=>rfl
 | j+1=>by simp [sealI,sealI_len X j]
theorem sealI_bd (X:List UInt8):∀ j,(sealI X j).2≤100 * j
 | 0=>Nat.le_refl _
 | j+1=>by
   have:=sealI_bd X j
   have h:=(numsI_bd X ((sealI X j).2+5) 4).2.1
   simp only [sealI];omega
def sealC (X:List UInt8) (j:Nat):Prop:=(sealI X j).2+5≤X.length∧(X.drop (sealI X j).2).take 5=[115,101,97,108,32]∧j≤40
def readP (X:List UInt8) (j:Nat):Pl:=⟨(sealI X j).1,(numsI X ((sealI X j).2+5) 2).1.getD 0 0,(numsI X ((sealI X j).2+5) 2).1.getD 1 0⟩
theorem nums4 {A Y:List UInt8} {a b c d:Int} (ha:0≤a∧a≤9999999) (hb:0≤b∧b≤9999999) (hc:0≤c∧c≤9999999) (hd:0≤d∧d≤9999999):numsI (A++(Lib.itoa a++[32]++Lib.itoa b++[32]++Lib.itoa c++[32]++Lib.itoa d++[10])++Y) A.length 4=([a,b,c,d],(A++(Lib.itoa a++[32]++Lib.itoa b++[32]++Lib.itoa c++[32]++Lib.itoa d++[10])).length):=by
 have hsp:∀ (Z:List UInt8) (x:UInt8),([32]++Z).head? = some x→¬ (48≤x.toNat∧x.toNat≤57):=fun Z x h=>by simp at h;subst h;decide
 have hnl:∀ (Z:List UInt8) (x:UInt8),([10]++Z).head? = some x→¬ (48≤x.toNat∧x.toNat≤57):=fun Z x h=>by simp at h;subst h;decide
 have e1:A++(Lib.itoa a++[32]++Lib.itoa b++[32]++Lib.itoa c++[32]++Lib.itoa d++[10])++Y=A++Lib.itoa a++([32]++(Lib.itoa b++[32]++Lib.itoa c++[32]++Lib.itoa d++[10]++Y)):=by simp
 have e2:A++(Lib.itoa a++[32]++Lib.itoa b++[32]++Lib.itoa c++[32]++Lib.itoa d++[10])++Y=(A++Lib.itoa a++[32])++Lib.itoa b++([32]++(Lib.itoa c++[32]++Lib.itoa d++[10]++Y)):=by simp
 have e3:A++(Lib.itoa a++[32]++Lib.itoa b++[32]++Lib.itoa c++[32]++Lib.itoa d++[10])++Y=(A++Lib.itoa a++[32]++Lib.itoa b++[32])++Lib.itoa c++([32]++(Lib.itoa d++[10]++Y)):=by simp
 have e4:A++(Lib.itoa a++[32]++Lib.itoa b++[32]++Lib.itoa c++[32]++Lib.itoa d++[10])++Y=(A++Lib.itoa a++[32]++Lib.itoa b++[32]++Lib.itoa c++[32])++Lib.itoa d++([10]++Y):=by simp
 have n1:=numS_itoa (A:=A) ha.1 ha.2 (hsp (Lib.itoa b++[32]++Lib.itoa c++[32]++Lib.itoa d++[10]++Y))
 have n2:=numS_itoa (A:=A++Lib.itoa a++[32]) hb.1 hb.2 (hsp (Lib.itoa c++[32]++Lib.itoa d++[10]++Y))
 have n3:=numS_itoa (A:=A++Lib.itoa a++[32]++Lib.itoa b++[32]) hc.1 hc.2 (hsp (Lib.itoa d++[10]++Y))
 have n4:=numS_itoa (A:=A++Lib.itoa a++[32]++Lib.itoa b++[32]++Lib.itoa c++[32]) hd.1 hd.2 (hnl Y)
 rw [← e1] at n1;rw [← e2] at n2;rw [← e3] at n3;rw [← e4] at n4
 generalize A++(Lib.itoa a++[32]++Lib.itoa b++[32]++Lib.itoa c++[32]++Lib.itoa d++[10])++Y=X at *
 simp only [List.length_append,List.length_singleton] at n1 n2 n3 n4
 simp only [numsI,n1]
 simp only [n2,n3,n4,List.nil_append,List.cons_append,List.length_append,List.length_singleton,Prod.mk.injEq,true_and]
 omega
theorem nums2 {A Y:List UInt8} {a b:Int} (ha:0≤a∧a≤9999999) (hb:0≤b∧b≤9999999):(numsI (A++(Lib.itoa a++[32]++Lib.itoa b++[10])++Y) A.length 2).1=[a,b]:=by
 have hsp:∀ (Z:List UInt8) (x:UInt8),([32]++Z).head? = some x→¬ (48≤x.toNat∧x.toNat≤57):=fun Z x h=>by simp at h;subst h;decide
 have hnl:∀ (Z:List UInt8) (x:UInt8),([10]++Z).head? = some x→¬ (48≤x.toNat∧x.toNat≤57):=fun Z x h=>by simp at h;subst h;decide
 have e1:A++(Lib.itoa a++[32]++Lib.itoa b++[10])++Y=A++Lib.itoa a++([32]++(Lib.itoa b++[10]++Y)):=by simp
 have e2:A++(Lib.itoa a++[32]++Lib.itoa b++[10])++Y=(A++Lib.itoa a++[32])++Lib.itoa b++([10]++Y):=by simp
 have n1:=numS_itoa (A:=A) ha.1 ha.2 (hsp (Lib.itoa b++[10]++Y))
 have n2:=numS_itoa (A:=A++Lib.itoa a++[32]) hb.1 hb.2 (hnl Y)
 rw [← e1] at n1;rw [← e2] at n2
 generalize A++(Lib.itoa a++[32]++Lib.itoa b++[10])++Y=X at *
 simp only [List.length_append,List.length_singleton] at n1 n2
 simp only [numsI,n1]
 simp only [n2,List.nil_append,List.cons_append]
theorem pt_nn {l:Pl} (h:plOk l) {i:Nat} (hi:i < l.parts.length):(0≤l.parts[i].num∧l.parts[i].num≤9999999)∧(0≤l.parts[i].first∧l.parts[i].first≤9999999)∧(0≤l.parts[i].next∧l.parts[i].next≤9999999)∧(0≤l.parts[i].size∧l.parts[i].size≤9999999):=by
 have h0:=nx_bd h i (by omega)
 obtain ⟨h1,h2,h3,h4,h5⟩:=h.2.2.1 i hi
 have h6:=h.2.1.1 l.parts[i].num (by simp only [List.mem_cons,List.mem_map];exact Or.inr ⟨_,List.getElem_mem hi,rfl⟩)
 omega
theorem op_nn {l:Pl} (h:plOk l):(0≤l.op∧l.op≤9999999)∧(0≤l.fi∧l.fi≤9999999):=by
 have h0:=nx_bd h l.parts.length (Nat.le_refl _)
 have h1:=h.2.2.2
 have h6:=h.2.1.1 l.op (by simp)
 omega
theorem plT_cut {l:Pl} {j:Nat} (hj:j < l.parts.length):∃ Y,plT l=plX l j++sealL l.parts[j]++Y:=by
 have h:∀ k,j < k→k≤l.parts.length→∃ Y,plX l k=plX l j++sealL l.parts[j]++Y:=by
  intro k hk hkl
  induction k with
  | zero=>omega
  | succ k ih =>
    rw [plX_succ (by omega)]
    by_cases e:j=k
    · subst e;exact ⟨[],by simp⟩
    · obtain ⟨Y,hY⟩:=ih (by omega) (by omega)
      exact ⟨Y++sealL l.parts[k],by rw [hY];simp⟩
 obtain ⟨Y,hY⟩:=h l.parts.length hj (Nat.le_refl _)
 exact ⟨Y++(opnL l++endL),by unfold plT;rw [hY];simp⟩
theorem sealI_plT {l:Pl} (h:plOk l):∀ j,j≤l.parts.length→sealI (plT l) j=(l.parts.take j,(plX l j).length)
 | 0,_=>by simp [sealI,plX]
 | j+1,hj=>by
   have ih:=sealI_plT h j (by omega)
   obtain ⟨Y,hY⟩:=plT_cut (l:=l) (j:=j) (by omega)
   obtain ⟨p1,p2,p3,p4⟩:=pt_nn h (i:=j) (by omega)
   have e:plT l=(plX l j++[115,101,97,108,32])++(Lib.itoa l.parts[j].num++[32]++Lib.itoa l.parts[j].first++[32]++Lib.itoa l.parts[j].next++[32]++Lib.itoa l.parts[j].size++[10])++Y:=by rw [hY];unfold sealL;simp
   have hn:=nums4 (A:=plX l j++[115,101,97,108,32]) (Y:=Y) p1 p2 p3 p4
   rw [← e] at hn
   have hl5:(plX l j++[115,101,97,108,32]).length=(plX l j).length+5:=by simp
   rw [hl5] at hn
   simp only [sealI,ih,hn]
   rw [List.take_succ_eq_append_getElem (by omega),plX_succ (by omega)]
   simp only [List.getD_cons_zero,List.getD_cons_succ,Prod.mk.injEq,true_and]
   unfold sealL
   simp only [List.length_append,List.length_cons,List.length_nil]
   omega
theorem sealC_plT {l:Pl} (h:plOk l) {j:Nat} (hj:j < l.parts.length):sealC (plT l) j:=by
 obtain ⟨Y,hY⟩:=plT_cut hj
 have e:plT l=plX l j++([115,101,97,108,32]++((Lib.itoa l.parts[j].num++[32]++Lib.itoa l.parts[j].first++[32]++Lib.itoa l.parts[j].next++[32]++Lib.itoa l.parts[j].size++[10])++Y)):=by rw [hY];unfold sealL;simp
 unfold sealC
 rw [sealI_plT h j (by omega)]
 refine ⟨?_,?_,by have:=h.1;omega⟩
 · rw [e];simp
 · rw [e,List.drop_left];rfl
theorem not_sealC_plT {l:Pl} (h:plOk l):¬ sealC (plT l) l.parts.length∧(sealI (plT l) l.parts.length).2+5≤(plT l).length∧readP (plT l) l.parts.length=l:=by
 have hs:=sealI_plT h l.parts.length (Nat.le_refl _)
 have e:plT l=plX l l.parts.length++([111,112,101,110,32]++(Lib.itoa l.op++[32]++Lib.itoa l.fi++[10]++endL)):=by unfold plT opnL;simp
 have e2:plT l=(plX l l.parts.length++[111,112,101,110,32])++(Lib.itoa l.op++[32]++Lib.itoa l.fi++[10])++endL:=by rw [e];simp
 obtain ⟨o1,o2⟩:=op_nn h
 have hn:=nums2 (A:=plX l l.parts.length++[111,112,101,110,32]) (Y:=endL) o1 o2
 rw [← e2] at hn
 have hl5:(plX l l.parts.length++[111,112,101,110,32]).length=(plX l l.parts.length).length+5:=by simp
 rw [hl5] at hn
 refine ⟨fun hc=>?_,?_,?_⟩
 · have h2:=hc.2.1
   rw [hs] at h2
   simp only at h2
   rw [e,List.drop_left] at h2
   simp at h2
 · rw [hs,e];simp
 · unfold readP
   rw [hs]
   simp only [hn,List.take_length]
   rfl
theorem read_plT {l:Pl} (h:plOk l) {j:Nat} (h1:∀ i,i < j→sealC (plT l) i) (h2:¬ sealC (plT l) j):(sealI (plT l) j).2+5≤(plT l).length∧readP (plT l) j=l:=by
 obtain ⟨n1,n2,n3⟩:=not_sealC_plT h
 have hj:j=l.parts.length:=by
  rcases Nat.lt_trichotomy j l.parts.length with hlt | rfl | hgt
  · exact absurd (sealC_plT h hlt) h2
  · rfl
  · exact absurd (h1 _ hgt) n1
 subst hj
 exact ⟨n2,n3⟩
end Go.Proofs.Yteikmbkljkkjiaa

namespace Go.Proofs.Yteikmbkljkkjiaa
open Go Go.RowKit
def dg (m:Int):UInt8:=UInt8.ofNat (48+m.toNat)
theorem dg_nat {m:Int} (h0:0≤m) (h1:m < 10):((dg m).toNat:Int)=48+m:=by unfold dg;rw [UInt8.toNat_ofNat'];omega
theorem dec_small {n:Int} (h:n < 10):Lib.decDigits n.toNat=[dg n]:=by rw [Lib.decDigits,dif_pos (by omega)];rfl
theorem dec_big {n:Int} (h:¬ n < 10):Lib.decDigits n.toNat=Lib.decDigits (n / 10).toNat++[dg (n % 10)]:=by
 rw [Lib.decDigits,dif_neg (by omega),show (n / 10).toNat=n.toNat / 10 from by omega,show dg (n % 10)=UInt8.ofNat (48+n.toNat % 10) from by unfold dg;rw [show (n % 10).toNat=n.toNat % 10 from by omega]]
theorem conv_one (W:World) (b cap:Nat) (m:Int) (h0:0≤m) (h1:m < 10) (hc:W.cell? ⟨b,0,none⟩=some (.int .u8 (48+m))) :
 Sem.run Try.prog (convert 22 9 (.slice (some ⟨b,0,none⟩) 1 cap)) W=.ok (.string ⟨#[dg m]⟩) W:=by
 have:=run_convert_bytes_back (P:=Try.prog) W 22 9 5 ⟨b,0,none⟩ cap [dg m] Try.underlying22 Try.underlying5 Try.underlying9 (fun j hj=>by
  have hj0:j=0:=by simpa using hj
  subst hj0
  rw [Addr.add_lit,hc]
  simp only [List.getElem_cons_zero]
  rw [dg_nat h0 h1])
 simpa using this
theorem quo10 {n:Int} (h0:0≤n) (h1:n≤999999999):IntKind.i64.wrap (n.tdiv 10)=n / 10:=by
 rw [IntKind.wrap_i64,Int.tdiv_eq_ediv_of_nonneg h0];omega
theorem rem10 {n:Int} (h0:0≤n):IntKind.i64.wrap (48+n.tmod 10)=48+n % 10:=by
 rw [IntKind.wrap_i64,Int.tmod_eq_emod_of_nonneg h0];omega
theorem rem10b (n:Int):IntKind.u8.wrap (48+n % 10)=48+n % 10:=by
 rw [IntKind.wrap_u8];omega
theorem ba_append (a b:List UInt8):((⟨a.toArray⟩:ByteArray)++(⟨b.toArray⟩:ByteArray))=⟨(a++b).toArray⟩:=by
 apply ByteArray.ext
 simp
theorem ret_str {a b:ByteArray} (h:a=b):Ending.returned (.string a)=.returned (.string b):=by rw [h]
theorem bc1 {w w1:World} {o:Obj} (h:Below w.drew.heap.size w.drew w1):Below w.heap.size w (w1.alloc o) :=
 (((Below.refl _ w).drew).trans h).alloc h.size o
theorem bc2 {w w1:World} {o:Obj} (h:Below (w.alloc o).drew.heap.size (w.alloc o).drew w1):Below w.heap.size w w1 :=
 (((Below.refl _ w).alloc (Nat.le_refl _) o).drew).trans (h.mono (by simp))
end Go.Proofs.Yteikmbkljkkjiaa

namespace Go.Proofs.Yteikmbkljkkjiaa
open Go Go.RowKit
abbrev But (B:Nat) (w w':World):Prop:=w.grownBy w' (some B)
theorem But.refl (B:Nat) (w:World):But B w w:=World.grownBy.refl w _
theorem But.trans {B:Nat} {a b c:World} (h:But B a b) (k:But B b c):But B a c :=
 ⟨k.os.trans h.os,k.tape.trans h.tape,k.output.trans h.output,Nat.le_trans h.size k.size,fun i hi hne=>(k.block i (Nat.lt_of_lt_of_le hi h.size) hne).trans (h.block i hi hne)⟩
theorem But.of_below {B:Nat} {w w':World} (h:Below w.heap.size w w'):But B w w' :=
 ⟨h.os,h.tape,h.output,h.size,fun i hi _=>h.block i hi⟩
theorem But.alloc (B:Nat) (w:World) (o:Obj):But B w (w.alloc o):=But.of_below ((Below.refl _ _).alloc (Nat.le_refl _) o)
theorem But.set {B:Nat} (w:World) (o:Nat) (v:Value):But B w (w.setCell ⟨B,o,none⟩ v) :=
 ⟨rfl,rfl,rfl,by simp [World.setCell],fun i _ hne=>Below.heap_setCell _ _ _ _ (fun e=>hne (by rw [e]))⟩
theorem But.at {B:Nat} {w w':World} (h:But B w w') {b:Nat} (hb:b < w.heap.size) (hne:b≠B):w'.heap[b]? = w.heap[b]? :=
 h.block b hb (fun e=>hne (by simpa using e))
theorem ownsRow_base {w:World} {base base':Nat} {e:TypeId} {size:Nat} {v:Value} {n:Nat} {xs:List Value} (h:w.ownsRow base e size v n xs) (hb:base'≤base):w.ownsRow base' e size v n xs:=by
 refine ⟨h.1,?_⟩
 rcases h.2 with h | ⟨g,cap,cur,h1,h2,h3⟩
 · exact Or.inl h
 · exact Or.inr ⟨g,cap,cur,h1,Nat.le_trans hb h2,h3⟩
theorem append_row {P:Program} (w:World) {ops:Array Oper} {rest:List Oper} {o:Oper} {a:Act} {Q:Exit→Act→World→Prop}
 (hg:o.guard=none) (s x:Operand) (t:TypeId) (hop:o.op=Op.call { callee:=Callee.builtin Builtin.append,args:=#[s,x],argTypes:=#[t,t] })
 (base:Nat) (e:TypeId) (i:TypeInfo) (z:Value) (size bytes:Nat) (h1:P.underlying t=some (.slice e)) (h2:P.info? e=some i) (h3:i.zero=some z) (h4:i.size=size) (h5:i.bytes=bytes) (h6:z.cells.size=size) (h7:0 < size)
 (v:Value) (n:Nat) (xs:List Value) (hs:a.eval s=v) (hown:w.ownsRow base e size v n xs)
 (ad:Addr) (m c:Nat) (news:List Value) (hx:a.eval x=.slice (some ad) m c) (hn:news.length=m * size) (hc:∀ j u,news[j]? = some u→w.cell? (ad.add j)=some u) (h1c:∀ u∈news,u.oneCell'=true)
 (hm:0 < m) (b1:n+m≤maxLen) (b2:(n+m) * bytes≤140737488355328) (hbase:base≤w.heap.size)
 (hK:∀ v' w',w'.ownsRow base e size v' (n+m) (xs++news)→w.grownBy w' v.ownBlock→(v'.ownBlock=v.ownBlock∨∃ g,v'.ownBlock=some g∧w.heap.size≤g)→wpList P ops Q rest (a.put o.dst v') w') :
 wpList P ops Q (o::rest) a w:=by
 have hgrow:∀ v' w',w'.ownsRow w.heap.size e size v' (n+m) (xs++news)→w.grownBy w' none→wpList P ops Q rest (a.put o.dst v') w':=fun v' w' r1 r2=>by
  refine hK v' w' (ownsRow_base r1 hbase) ⟨r2.os,r2.tape,r2.output,r2.size,fun k hk _=>r2.block k hk (by simp)⟩ (Or.inr ?_)
  rcases r1.2 with ⟨_,h⟩ | ⟨g,cap,cur,hv,hgg,_⟩
  · omega
  · exact ⟨g,by rw [hv];rfl,hgg⟩
 rcases hown.2 with ⟨hv,hn0⟩ | ⟨g,cap,cur,hv,hgb,hh,hle,hm2,hsz,htk⟩
 · subst hv;subst hn0
   have hxs:xs=[]:=List.eq_nil_of_length_eq_zero (by have:=hown.1;simpa using this)
   subst hxs
   exact wpList_append_grows w hg s x t hop e i z size bytes h1 h2 h3 h4 h5 h6 h7 none 0 0 [] hs (fun _=>⟨rfl,rfl⟩) (by simp) (fun b hb=>by cases hb) ad m c news hx hn hc h1c (by omega) b1 b2 hgrow
 · by_cases hr:n+m≤cap
   · subst hv
     exact wpList_append_fits w hg s x t hop base e i size h1 h2 h4 g n cap xs hs hown ad m c news hx hn hc h1c hr fun w' r1 r2=>hK _ w' r1 r2 (Or.inl rfl)
   · refine wpList_append_grows w hg s x t hop e i z size bytes h1 h2 h3 h4 h5 h6 h7 (some ⟨g,0,none⟩) n cap xs (by rw [hs,hv]) (fun hb=>by cases hb) hown.1 (fun b hb j u hj=>?_) ad m c news hx hn hc h1c (by omega) b1 b2 hgrow
     simp only [Option.some.injEq] at hb
     subst hb
     have hj':cur.toList[j]? = some u:=by
      rw [← htk] at hj
      rw [List.getElem?_take] at hj
      split at hj
      · exact hj
      · cases hj
     rw [Addr.add_lit]
     simp only [Nat.zero_add,World.cell?, hh]
     simpa using hj'
theorem cell_one (w:World) (x:Value) (t:TypeId):∀ j u,[x][j]? = some u→(w.alloc (.cells #[x] t)).cell? ((⟨w.heap.size,0,none⟩:Addr).add j)=some u:=by
 intro j u hj
 match j with
 | 0=>simp only [List.getElem?_cons_zero,Option.some.injEq] at hj;subst hj;rw [Addr.add_lit];simp [go_sem]
 | j+1=>simp at hj
end Go.Proofs.Yteikmbkljkkjiaa

namespace Go.Proofs.Yteikmbkljkkjiaa
open Go Go.RowKit
def hb (x:Int):UInt8:=UInt8.ofNat x.toNat
theorem hb_nat {x:Int} (h0:0≤x) (h1:x < 256):((hb x).toNat:Int)=x:=by unfold hb;rw [UInt8.toNat_ofNat'];omega
def frOk (p:Int) (n:Nat):Bool:=decide (1≤p∧p≤999999∧n≤2000)
def frB (p:Int) (x:ByteArray):ByteArray:=if frOk p x.size=true then (⟨#[hb (x.size / 256),hb (x.size % 256)]⟩++⟨#[hb (p / 65536),hb (p / 256 % 256),hb (p % 256)]⟩)++x else ByteArray.empty
theorem frInS (a b c:Int) (w:World):Calls Try.prog 30 #[.int .i64 a,.int .i64 b,.int .i64 c] w fun e w'=>e=.returned (.bool (decide (b≤a∧a≤c)))∧Below w.heap.size w w':=by
 go_enter Try.func30,Try.ntmps30
 by_cases h1:b≤a
 · by_cases h2:a≤c
   · go_wp2_with fail
     go_ret
     exact ⟨by simp [h2];omega,Below.refl _ _⟩
   · go_wp2_with fail
     go_ret
     exact ⟨by simp;omega,Below.refl _ _⟩
 · go_wp2_with fail
   go_ret
   exact ⟨by simp;omega,Below.refl _ _⟩
theorem l42RecordOk_any (p:Int) (x:ByteArray) (hx:x.size≤9223372036854775807) (w:World):Calls Try.prog 97 #[.agg #[.int .i64 p,.string x]] w fun e w'=>e=.returned (.bool (frOk p x.size))∧Below w.heap.size w w':=by
 have HI:=xH (fun o=>frInS p 1 999999 (w.alloc o))
 go_enter Try.func97,Try.ntmps97
 go_wp2_with fail
 refine (xU HI _).mono ?_
 rintro e w1 ⟨rfl,hb1⟩
 have hb01:=((Below.refl _ w).alloc (Nat.le_refl _) _).trans (hb1.mono (by simp))
 have k1:w1.cell? ⟨w.heap.size,1,none⟩=some (.string x):=by rw [hb1.cell (by simp)];go_simp
 have HB:=xH hb01
 clear hb1 hb01 HI
 by_cases h1:1≤p∧p≤999999
 · rw [decide_eq_true h1]
   by_cases h2:x.size≤2000
   · go_wp2_with fail
     go_ret
     exact ⟨by simp [frOk,h1] <;> omega,xU HB⟩
   · go_wp2_with fail
     go_ret
     exact ⟨by simp [frOk,h1] <;> omega,xU HB⟩
 · rw [decide_eq_false h1]
   have HF:=xH (show frOk p x.size=false by unfold frOk;exact decide_eq_false (fun h=>h1 ⟨h.1,h.2.1⟩))
   clear h1
   go_wp2_with fail
   go_ret
   exact ⟨by rw [xU HF];rfl,xU HB⟩
end Go.Proofs.Yteikmbkljkkjiaa

namespace Go.Proofs.Yteikmbkljkkjiaa
open Go Go.RowKit
def RetOk (e:Ending) (p:Prop):Prop:=∃ r:Bool,e=.returned (.bool r)∧(r=true↔p)
theorem RetOk.no {p:Prop} (h:¬ p):RetOk (.returned (.bool false)) p:=⟨false,rfl,by simp [h]⟩
theorem RetOk.of {p q:Prop} [Decidable q] (h:p↔q):RetOk (.returned (.bool (decide q))) p:=⟨_,rfl,by rw [h];simp⟩
theorem p4_alloc (w:World) (p:Pt) (t:TypeId):P4At (w.alloc (.cells #[.int .i64 p.num,.int .i64 p.first,.int .i64 p.next,.int .i64 p.size] t)) w.heap.size 0 p :=
 ⟨by go_simp,by go_simp,by go_simp,by go_simp⟩
theorem specLogPlanOk_any (l:Pl) (P:Nat→Prop) (v:Value) (w:World) (hP:∀ b,P b→b < w.heap.size) (hv:PtsAt P w v l.parts) :
 Calls Try.prog 84 #[.agg #[v,.int .i64 l.op,.int .i64 l.fi]] w fun e w'=>RetOk e (plOk l)∧Below w.heap.size w w':=by
 obtain ⟨a,cap,rfl,hlen,hc⟩:=hv.open
 have HC:=xH hc;have HP:=xH hP
 have HIN:=xH (fun z lo hi W=>frInS z lo hi W)
 have hrow:=row3_alloc w (.slice a l.parts.length cap) (.int .i64 l.op) (.int .i64 l.fi) 115
 have HOK:=xH (plOk_iff l)
 clear hv hc hP
 have hbx:∀ o,Below w.heap.size w (w.alloc o):=fun o=>(Below.refl _ _).alloc (Nat.le_refl _) o
 have HROW:=xH hrow;have HBX:=xH hbx
 clear hrow hbx
 go_enter Try.func84,Try.ntmps84
 by_cases h40:l.parts.length≤40
 case neg =>
  have HF:=xH (show ¬ plOk l from fun h=>h40 h.1)
  go_wp2_with fail
  go_ret
  exact ⟨RetOk.no (xU HF),xU HBX _⟩
 go_wp2_with fail
 refine (xU HIN _ _ _ _).mono ?_
 rintro e w1 ⟨rfl,hb1⟩
 have q1:=(xU HROW).of_block (hb1.block w.heap.size (by simp))
 have HB1:=xH ((xU HBX _).trans (hb1.mono (xU HBX _).size));have Q1:=xH q1
 clear hb1 q1
 by_cases hop:1≤l.op∧l.op≤999999
 case neg =>
  have HF:=xH (show ¬ plOk l from fun h=>hop ((xU HOK).1 h).2.1)
  rw [decide_eq_false hop]
  clear hop
  go_wp2_with fail
  go_ret
  exact ⟨RetOk.no (xU HF),xU HB1⟩
 rw [decide_eq_true hop]
 have HOP:=xH hop
 clear hop
 go_wp2_with fail
 go_loopw [3,4] (fun nn i wr=>∃ (k:Nat) (N:Int),k≤l.parts.length∧i=.int .i64 k∧nn=.int .i64 N∧Hid (N=nx l.parts k)∧Hid (∀ i,(h:i < l.parts.length)→i < k→sPt l i h)∧Hid (wr.rowIs w.heap.size 115 3 (row3 (.slice a l.parts.length cap) (.int .i64 l.op) (.int .i64 l.fi)))∧Hid (Below w.heap.size w wr)) (fun _ i _=>l.parts.length - (intOf i).toNat)
 case atStart=>exact ⟨0,1,Nat.zero_le _,rfl,rfl,rfl,fun i _ h=>by omega,Q1,HB1⟩
 case round =>
  clear Q1 HB1
  obtain ⟨k,N,hk,rfl,rfl,HNX,HS,HR,HB⟩:=hrel
  have q:=HR.out
  obtain ⟨k0,k1,k2⟩:=cs3 q (by omega)
  simp only [row3] at k0 k1 k2
  by_cases hlt:k < l.parts.length
  · obtain ⟨b,o,rfl,hpb,hcell⟩:=xU HC k hlt
    obtain ⟨e0,e1,e2,e3⟩:=hcell.carry (HB.out.block b (xU HP b hpb))
    have HX:=xH (show sPt l k hlt↔((1≤l.parts[k].num∧l.parts[k].num≤999999)∧l.parts[k].num≠l.op∧ptOk l.parts[k] N∧∀ j,(hj:j < k)→(l.parts[j]'(by omega)).num≠l.parts[k].num) by unfold sPt;rw [HNX.out])
    have HNS:=xH (show l.parts[k].next=nx l.parts (k+1) from (nx_succ hlt).symm)
    have HF:=xH (show ¬ sPt l k hlt→¬ plOk l from fun h hp=>h (((xU HOK).1 hp).2.2.1 k hlt))
    clear hcell
    generalize l.parts[k]=x at *
    have HBR:=xH (fun o=>(show Below wr.heap.size wr (wr.alloc o) from (Below.refl _ _).alloc (Nat.le_refl _) o))
    have HP4:=xH (p4_alloc wr x 138)
    go_wp2_with fail
    refine (xU HIN _ _ _ _).mono ?_
    rintro e w2 ⟨rfl,hb2⟩
    have hb02:=HB.out.trans (((xU HBR _).trans (hb2.mono (xU HBR _).size)).mono HB.out.size)
    have q2:=((HR.out).alloc _).of_block (hb2.block w.heap.size (by rw [World.size_alloc];have:=HR.out.lt;omega))
    obtain ⟨f0,f1,f2,f3⟩:=(xU HP4).carry (hb2.block wr.heap.size (by simp))
    simp only [Nat.zero_add] at f0 f1 f2 f3
    obtain ⟨k0,k1,k2⟩:=cs3 q2 (by omega)
    simp only [row3] at k0 k1 k2
    have hlt2:w.heap.size < w2.heap.size:=q2.lt
    have HB2:=xH hb02;have Q2:=xH q2
    clear hb2 hb02 q2 e0 e1 e2 e3
    by_cases h1:1≤x.num∧x.num≤999999
    case neg =>
     have HF2:=xH (xU HF (fun h=>h1 ((xU HX).1 h).1))
     rw [decide_eq_false h1]
     clear h1
     go_wp2_with fail
     go_ret
     exact ⟨RetOk.no (xU HF2),xU HB2⟩
    rw [decide_eq_true h1]
    have H1:=xH h1
    clear h1
    by_cases h2:x.num=l.op
    · have HF2:=xH (xU HF (fun h=>((xU HX).1 h).2.1 h2))
      go_wp2_with fail
      go_ret
      exact ⟨RetOk.no (xU HF2),xU HB2⟩
    by_cases h3:x.first=N
    case neg =>
     have HF2:=xH (xU HF (fun h=>h3 ((xU HX).1 h).2.2.1.1))
     go_wp2_with fail
     go_ret
     exact ⟨RetOk.no (xU HF2),xU HB2⟩
    by_cases h4:x.next < x.first
    · have HF2:=xH (xU HF (fun h=>by have:=((xU HX).1 h).2.2.1.2.1;omega))
      go_wp2_with fail
      go_ret
      exact ⟨RetOk.no (xU HF2),xU HB2⟩
    by_cases h5:1000000 < x.next
    · have HF2:=xH (xU HF (fun h=>by have:=((xU HX).1 h).2.2.1.2.2.1;omega))
      go_wp2_with fail
      go_ret
      exact ⟨RetOk.no (xU HF2),xU HB2⟩
    have hb2:(x.num==l.op)=false:=by simp [h2]
    have hb4:decide (x.next < x.first)=false:=decide_eq_false h4
    have hb5:decide (1000000 < x.next)=false:=decide_eq_false h5
    go_wp2_with fail
    refine (xU HIN _ _ _ _).mono ?_
    rintro e w3 ⟨rfl,hb3⟩
    have hb03:=(xU HB2).trans (hb3.mono (xU HB2).size)
    have q3:=(xU Q2).of_block (hb3.block w.heap.size hlt2)
    have hltb:wr.heap.size < w2.heap.size:=World.block_lt_of_cell? w2 _ f0
    have g0:=(hb3.cell (p:=⟨wr.heap.size,0,none⟩) hltb).trans f0
    have g2:=(hb3.cell (p:=⟨wr.heap.size,2,none⟩) hltb).trans f2
    have hltc:wr.heap.size < w3.heap.size:=by have:=hb3.size;omega
    have HB3:=xH hb03;have Q3:=xH q3
    clear hb3 hb03 q3 HB2 Q2 f0 f1 f2 f3 k0 k1 k2 hltb hlt2
    by_cases h6:0≤x.size∧x.size≤20000
    case neg =>
     have HF2:=xH (xU HF (fun h=>h6 ⟨((xU HX).1 h).2.2.1.2.2.2.1,((xU HX).1 h).2.2.1.2.2.2.2⟩))
     rw [decide_eq_false h6]
     clear h6
     go_wp2_with fail
     go_ret
     exact ⟨RetOk.no (xU HF2),xU HB3⟩
    rw [decide_eq_true h6]
    have H6:=xH h6
    have HPT:=xH (show ptOk x N from ⟨h3,by omega,by omega,h6.1,h6.2⟩)
    have H2:=xH h2
    clear h6
    go_wp2_with fail
    clear h2 h3 h4 h5 hb2 hb4 hb5 HBR HP4 HR HB
    generalize wr.heap.size=B5 at *
    go_loopw [6] (fun i ws=>∃ (j:Nat),j≤k∧i=.int .i64 j∧Hid (∀ q,(hq:q < j)→(hk:q < k)→(l.parts[q]'(by omega)).num≠x.num)∧Hid (Below w3.heap.size w3 ws)) (fun i _=>k - (intOf i).toNat)
    case atStart=>exact ⟨0,Nat.zero_le _,rfl,fun q hq _=>by omega,Below.refl _ _⟩
    case round =>
     obtain ⟨j,hj,rfl,HJ,HBJ⟩:=hrel
     by_cases hjk:j < k
     · obtain ⟨b',o',eb,hpb',hcell'⟩:=xU HC j (by omega)
       simp only [Option.some.injEq,Addr.mk.injEq,and_true] at eb
       obtain ⟨rfl,rfl⟩:=eb
       have d0:=(hcell'.carry (((HBJ.out).block b (by have:=(xU HB3).size;have:=xU HP b hpb;omega)).trans ((xU HB3).block b (xU HP b hpb)))).e0
       have g0':=(HBJ.out.cell (p:=⟨B5,0,none⟩) hltc).trans g0
       have q':=(xU Q3).of_block (HBJ.out.block w.heap.size (xU Q3).lt)
       have kk:=q'.cell (i:=0) (by omega)
       simp only [row3] at kk
       have HJ1:=xH (fun (hne:(l.parts[j]'(by omega)).num≠x.num)=>(show ∀ q,(hq:q < j+1)→(hk:q < k)→(l.parts[q]'(by omega)).num≠x.num from fun q hq hk=>by
        by_cases e:q=j
        · subst e;exact hne
        · exact HJ.out q (by omega) hk))
       have HF2:=xH (fun (he:(l.parts[j]'(by omega)).num=x.num)=>xU HF (fun h=>((xU HX).1 h).2.2.2 j hjk he))
       clear hcell' hpb' q'
       have hjn:j < l.parts.length:=by omega
       generalize (l.parts[j]'hjn).num=z at *
       by_cases hz:z=x.num
       · go_wp2_with fail
         go_region
         go_wp2_with fail
         go_ret
         exact ⟨RetOk.no (xU HF2 hz),((xU HB3).trans (HBJ.out.mono (xU HB3).size)).drew⟩
       · go_wp2_with fail
         go_region
         go_wp2_with fail
         go_roundw
         case rel=>exact ⟨j+1,by omega,by go_num,xU HJ1 hz,HBJ.out.drew⟩
         case measure=>simp [intOf];omega
     · have g2':=(HBJ.out.cell (p:=⟨B5,2,none⟩) hltc).trans g2
       have q':=(xU Q3).of_block (HBJ.out.block w.heap.size (xU Q3).lt)
       have HQ:=xH q'
       have HSK:=xH (show ∀ i,(h:i < l.parts.length)→i < k+1→sPt l i h from fun i h hi=>by
        by_cases e:i=k
        · subst e
          exact (xU HX).2 ⟨xU H1,xU H2,xU HPT,fun q hq=>HJ.out q (by omega) hq⟩
        · exact HS.out i h (by omega))
       clear q'
       go_wp2_with fail
       go_roundw
       case rel=>exact ⟨k+1,x.next,by omega,by go_num,rfl,xU HNS,xU HSK,HQ,(xU HB3).trans (HBJ.out.mono (xU HB3).size)⟩
       case measure=>simp [intOf];omega
  · have HFI:=xH (show plOk l↔l.fi=N from by
     rw [xU HOK]
     have hkk:k=l.parts.length:=by omega
     subst hkk
     rw [HNX.out]
     exact ⟨fun h=>h.2.2.2,fun h=>⟨h40,xU HOP,fun i hi=>HS.out i hi hi,h⟩⟩)
    go_wp2_with fail
    go_ret
    exact ⟨RetOk.of (xU HFI),HB.out⟩
end Go.Proofs.Yteikmbkljkkjiaa

namespace Go.Proofs.Yteikmbkljkkjiaa
open Go Go.RowKit
theorem l6Dec_nat:∀ (k:Nat) (n:Int) (w:World),0≤n→n < k→n≤999999999 →
 Calls Try.prog 71 #[.int .i64 n] w fun e w'=>e=.returned (.string ⟨(Lib.decDigits n.toNat).toArray⟩)∧Below w.heap.size w w':=by
 intro k
 induction k with
 | zero=>intro n w h0 h;omega
 | succ k ih =>
   intro n w hn0 hk hu
   by_cases h10:n < 10
   · have HD:=xH (dec_small h10)
     have hconv:=fun W b cap=>conv_one W b cap n hn0 h10
     clear ih
     go_enter Try.func71,Try.ntmps71
     go_wp2_with fail
     go_ret
     exact ⟨by rw [xU HD];rfl,(Below.refl _ _).alloc (Nat.le_refl _) _⟩
   · have HD:=xH (dec_big h10)
     have hconv:=fun W b cap=>conv_one W b cap (n % 10) (by omega) (by omega)
     have hl:=Lib.itoa_length_le (n / 10) (by omega) (by omega)
     have HIH:=xH (fun W=>(ih (n / 10) W (by omega) (by omega) (by omega)).mono (fun e w' (h:e=.returned (.string ⟨(Lib.decDigits (n / 10).toNat).toArray⟩)∧Below W.heap.size W w')=>(⟨h.1,h.2,fun b o hb=>h.2.cell (p:=⟨b,o,none⟩) hb⟩:e=.returned (.string ⟨(Lib.decDigits (n / 10).toNat).toArray⟩)∧Below W.heap.size W w'∧∀ b o,b < W.heap.size→w'.cell? ⟨b,o,none⟩=W.cell? ⟨b,o,none⟩)))
     have hq1:=quo10 hn0 hu
     have hq2:=rem10 hn0
     have hq3:=rem10b n
     have hb0:0≤n / 10:=by omega
     have hb1:0≤n % 10:=by omega
     have hb2:n % 10 < 10:=by omega
     have hl2:(Lib.decDigits (n / 10).toNat).length≤21:=by
      have:Lib.itoa (n / 10)=Lib.decDigits (n / 10).toNat:=by unfold Lib.itoa;rw [if_neg (by omega)]
      rw [← this];exact hl
     generalize Lib.decDigits (n / 10).toNat=ds at *
     clear ih hl
     go_enter Try.func71,Try.ntmps71
     go_wp2_with fail
     go_region_with (go_at_call 71;refine (xU HIH _).mono ?_;rintro e w1 ⟨rfl,hb,hcell⟩;have HB:=xH hb;clear hb)
     all_goals
      go_wp2_with fail
      go_ret
      refine ⟨ret_str ?_,?_⟩
      · rw [xU HD];exact ba_append _ _
      · first | exact bc1 (xU HB) | exact bc2 (xU HB)
theorem itoa_lt {n:Int} (h:n < 0):Lib.itoa n=45::Lib.decDigits (-n).toNat:=by
 unfold Lib.itoa;rw [if_pos h,show n.natAbs=(-n).toNat from by omega]
theorem itoa_ge {n:Int} (h:¬ n < 0):Lib.itoa n=Lib.decDigits n.toNat:=by
 unfold Lib.itoa;rw [if_neg h]
theorem l6Dec_any (n:Int) (w:World) (h0:-999999999≤n) (h1:n≤999999999) :
 Calls Try.prog 71 #[.int .i64 n] w fun e w'=>e=.returned (.string ⟨(Lib.itoa n).toArray⟩)∧Below w.heap.size w w':=by
 by_cases hn:n < 0
 · rw [itoa_lt hn]
   have hl:=Lib.itoa_length_le (-n) (by omega) (by omega)
   rw [itoa_ge (by omega)] at hl
   have HIH:=xH (fun W=>l6Dec_nat ((-n).toNat+1) (-n) W (by omega) (by omega) (by omega))
   generalize Lib.decDigits (-n).toNat=ds at *
   go_enter Try.func71,Try.ntmps71
   go_wp2_with (go_at_call 71;refine (xU HIH _).mono ?_;rintro e w1 ⟨rfl,hb⟩)
   go_ret
   exact ⟨ret_str (ba_append [45] ds),hb⟩
 · rw [itoa_ge hn]
   exact l6Dec_nat (n.toNat+1) n w (by omega) (by omega) h1
end Go.Proofs.Yteikmbkljkkjiaa
