/- A part. -/
import Derived.WalkKit
import Derived.Deep.OwnRows
import Derived.Test.YteefjeddboefcaaGreatDoorRows
import Derived.Deep.RegionWith
import Derived.BigQuiet
namespace Go.Proofs.YteefjeddboefcaaGreatDoor
open Go Go.RowKit
set_option maxRecDepth 100000
set_option maxHeartbeats 3200000
theorem xH {p:Prop} (h:p):Hid p:=h
theorem xU {p:Prop} (h:Hid p):p:=h
theorem hide {p : Prop} (h : p) : Hid p := h
theorem unhide {p : Prop} (h : Hid p) : p := h
theorem cs2 {w : World} {B : Nat} {T : TypeId} {n : Nat} {f : Nat → Value} (h : w.rowIs B T n f) (hn : 2 ≤ n) : w.cell? ⟨B, 0, none⟩ = some (f 0) ∧ w.cell? ⟨B, 1, none⟩ = some (f 1) := ⟨h.cell (i := 0) (by omega), h.cell (i := 1) (by omega)⟩
theorem cs3 {w : World} {B : Nat} {T : TypeId} {n : Nat} {f : Nat → Value} (h : w.rowIs B T n f) (hn : 3 ≤ n) : w.cell? ⟨B, 0, none⟩ = some (f 0) ∧ w.cell? ⟨B, 1, none⟩ = some (f 1) ∧ w.cell? ⟨B, 2, none⟩ = some (f 2) := ⟨h.cell (i := 0) (by omega), h.cell (i := 1) (by omega), h.cell (i := 2) (by omega)⟩
theorem cs4 {w : World} {B : Nat} {T : TypeId} {n : Nat} {f : Nat → Value} (h : w.rowIs B T n f) (hn : 4 ≤ n) : w.cell? ⟨B, 0, none⟩ = some (f 0) ∧ w.cell? ⟨B, 1, none⟩ = some (f 1) ∧ w.cell? ⟨B, 2, none⟩ = some (f 2) ∧ w.cell? ⟨B, 3, none⟩ = some (f 3) := ⟨h.cell (i := 0) (by omega), h.cell (i := 1) (by omega), h.cell (i := 2) (by omega), h.cell (i := 3) (by omega)⟩
theorem cs5 {w : World} {B : Nat} {T : TypeId} {n : Nat} {f : Nat → Value} (h : w.rowIs B T n f) (hn : 5 ≤ n) : w.cell? ⟨B, 0, none⟩ = some (f 0) ∧ w.cell? ⟨B, 1, none⟩ = some (f 1) ∧ w.cell? ⟨B, 2, none⟩ = some (f 2) ∧ w.cell? ⟨B, 3, none⟩ = some (f 3) ∧ w.cell? ⟨B, 4, none⟩ = some (f 4) := ⟨h.cell (i := 0) (by omega), h.cell (i := 1) (by omega), h.cell (i := 2) (by omega), h.cell (i := 3) (by omega), h.cell (i := 4) (by omega)⟩
theorem cs7 {w : World} {B : Nat} {T : TypeId} {n : Nat} {f : Nat → Value} (h : w.rowIs B T n f) (hn : 7 ≤ n) : w.cell? ⟨B, 0, none⟩ = some (f 0) ∧ w.cell? ⟨B, 1, none⟩ = some (f 1) ∧ w.cell? ⟨B, 2, none⟩ = some (f 2) ∧ w.cell? ⟨B, 3, none⟩ = some (f 3) ∧ w.cell? ⟨B, 4, none⟩ = some (f 4) ∧ w.cell? ⟨B, 5, none⟩ = some (f 5) ∧ w.cell? ⟨B, 6, none⟩ = some (f 6) := ⟨h.cell (i := 0) (by omega), h.cell (i := 1) (by omega), h.cell (i := 2) (by omega), h.cell (i := 3) (by omega), h.cell (i := 4) (by omega), h.cell (i := 5) (by omega), h.cell (i := 6) (by omega)⟩
inductive Tr where
 | mk (sort num:Int) (text:ByteArray) (names:List ByteArray) (kids:List Tr)
namespace Tr
def sort:Tr→Int | mk s _ _ _ _=>s
def num:Tr→Int | mk _ n _ _ _=>n
def text:Tr→ByteArray | mk _ _ t _ _=>t
def names:Tr→List ByteArray | mk _ _ _ n _=>n
def kids:Tr→List Tr | mk _ _ _ _ k=>k
end Tr
def wS:List ByteArray→Nat
 | []=>0
 | s::r=>s.size+1+wS r
mutual
def wT:Tr→Nat
 | .mk _ _ t n k=>t.size+wS n+wK k
def wK:List Tr→Nat
 | []=>0
 | t::r=>1+wT t+wK r
end
theorem wS_len (l:List ByteArray):l.length≤wS l:=by
 induction l with
 | nil=>simp [wS]
 | cons a r ih=>rw [wS];simp;omega
def StrsAt (P:Nat→Prop) (w:World) (v:Value) (ss:List ByteArray):Prop :=
 ∃ a cap,v=.slice a ss.length cap∧ss.length≤9223372036854775807 ∧
   ∀ i,(h:i < ss.length)→∃ b o,a=some ⟨b,o,none⟩∧P b∧w.cell? ⟨b,o+i,none⟩=some (.string ss[i])∧ss[i].size≤9223372036854775807
structure C5 where
 (c0 c1 c2 c3 c4:Value)
def C5.at (w:World) (b o:Nat) (c:C5):Prop :=
 w.cell? ⟨b,o,none⟩=some c.c0∧w.cell? ⟨b,o+1,none⟩=some c.c1∧w.cell? ⟨b,o+2,none⟩=some c.c2∧w.cell? ⟨b,o+3,none⟩=some c.c3∧w.cell? ⟨b,o+4,none⟩=some c.c4
def I64 (n:Int):Prop:=-9223372036854775808≤n∧n≤9223372036854775807
mutual
def Rep (P:Nat→Prop) (w:World):Tr→C5→Prop
 | .mk s n t ns ks,c=>c.c0=.int .i64 s∧c.c1=.int .i64 n∧c.c2=.string t∧I64 s∧I64 n∧t.size≤9223372036854775807∧StrsAt P w c.c3 ns ∧
   ∃ a cap,c.c4=.slice a ks.length cap∧ks.length≤9223372036854775807∧(ks≠[]→∃ b o,a=some ⟨b,o,none⟩∧P b∧RepK P w b o ks)
def RepK (P:Nat→Prop) (w:World) (b:Nat) (o:Nat):List Tr→Prop
 | []=>True
 | t::r=>(∃ c,C5.at w b o c∧Rep P w t c)∧RepK P w b (o+5) r
end
theorem RepK.get {P:Nat→Prop} {w:World} {b o:Nat} {ks:List Tr} (h:RepK P w b o ks) (i:Nat) (hi:i < ks.length) :
 ∃ c,C5.at w b (o+i * 5) c∧Rep P w ks[i] c:=by
 induction ks generalizing o i with
 | nil=>simp at hi
 | cons t r ih =>
   rw [RepK] at h
   cases i with
   | zero=>exact h.1
   | succ i =>
     obtain ⟨c,h1,h2⟩:=ih h.2 i (by simpa using hi)
     exact ⟨c,by rw [show o+(i+1) * 5=o+5+i * 5 from by omega];exact h1,h2⟩
theorem RepK.mk {P:Nat→Prop} {w:World} {b o:Nat} {ks:List Tr} (h:∀ i,(hi:i < ks.length)→∃ c,C5.at w b (o+i * 5) c∧Rep P w ks[i] c):RepK P w b o ks:=by
 induction ks generalizing o with
 | nil=>rw [RepK];trivial
 | cons t r ih =>
   rw [RepK]
   refine ⟨h 0 (by simp),ih fun i hi=>?_⟩
   obtain ⟨c,h1,h2⟩:=h (i+1) (by simpa using hi)
   exact ⟨c,by rw [show o+5+i * 5=o+(i+1) * 5 from by omega];exact h1,h2⟩
theorem C5.at.carry {w w':World} {b o:Nat} {c:C5} (h:C5.at w b o c) (hb:w'.heap[b]? = w.heap[b]?):C5.at w' b o c:=by
 have e:∀ o',w'.cell? ⟨b,o',none⟩=w.cell? ⟨b,o',none⟩:=fun o'=>World.cell?_of_block (w:=w) hb
 obtain ⟨h0,h1,h2,h3,h4⟩:=h
 exact ⟨by rw [e];exact h0,by rw [e];exact h1,by rw [e];exact h2,by rw [e];exact h3,by rw [e];exact h4⟩
theorem StrsAt.carry {P Q:Nat→Prop} {w w':World} {v:Value} {ss:List ByteArray} (h:StrsAt P w v ss) (hP:∀ b,P b→w'.heap[b]? = w.heap[b]?) (hQ:∀ b,P b→Q b):StrsAt Q w' v ss:=by
 obtain ⟨a,cap,h1,h2,h3⟩:=h
 refine ⟨a,cap,h1,h2,fun i hi=>?_⟩
 obtain ⟨b,o,e,p,hc,hs⟩:=h3 i hi
 exact ⟨b,o,e,hQ b p,by rw [World.cell?_of_block (w:=w) (hP b p)];exact hc,hs⟩
mutual
theorem Rep.carry {P Q:Nat→Prop} {w w':World} (hP:∀ b,P b→w'.heap[b]? = w.heap[b]?) (hQ:∀ b,P b→Q b):∀ (t:Tr) (c:C5),Rep P w t c→Rep Q w' t c
 | .mk s n t ns ks,c=>by
   intro h
   rw [Rep] at h ⊢
   obtain ⟨h0,h1,h2,h3,h4,h5,h6,a,cap,h7,h8,h9⟩:=h
   refine ⟨h0,h1,h2,h3,h4,h5,h6.carry hP hQ,a,cap,h7,h8,fun hk=>?_⟩
   obtain ⟨b,o,e,p,hr⟩:=h9 hk
   exact ⟨b,o,e,hQ b p,RepK.carry hP hQ b o (hP b p) ks hr⟩
theorem RepK.carry {P Q:Nat→Prop} {w w':World} (hP:∀ b,P b→w'.heap[b]? = w.heap[b]?) (hQ:∀ b,P b→Q b) (b:Nat) (o:Nat) (hb:w'.heap[b]? = w.heap[b]?):∀ (ks:List Tr),RepK P w b o ks→RepK Q w' b o ks
 | []=>by intro _;rw [RepK];trivial
 | t::r=>by
   intro h
   rw [RepK] at h ⊢
   obtain ⟨⟨c,h1,h2⟩,h3⟩:=h
   exact ⟨⟨c,h1.carry hb,Rep.carry hP hQ t c h2⟩,RepK.carry hP hQ b (o+5) hb r h3⟩
end
theorem Rep.open {P:Nat→Prop} {w:World} {t:Tr} {c:C5} (h:Rep P w t c) :
 c.c0=.int .i64 t.sort∧c.c1=.int .i64 t.num∧c.c2=.string t.text∧I64 t.sort∧I64 t.num∧t.text.size≤9223372036854775807∧StrsAt P w c.c3 t.names ∧
 ∃ a cap,c.c4=.slice a t.kids.length cap∧t.kids.length≤9223372036854775807 ∧
   ∀ i,(hi:i < t.kids.length)→∃ b o c,a=some ⟨b,o,none⟩∧P b∧C5.at w b (o+i * 5) c∧Rep P w t.kids[i] c:=by
 obtain ⟨s,n,tx,ns,ks⟩:=t
 rw [Rep] at h
 obtain ⟨h0,h1,h2,h3,h4,h5,h6,a,cap,h7,h8,h9⟩:=h
 refine ⟨h0,h1,h2,h3,h4,h5,h6,a,cap,h7,h8,fun i hi=>?_⟩
 obtain ⟨b,o,e,p,hr⟩:=h9 (fun hh=>by subst hh;simp [Tr.kids] at hi)
 obtain ⟨c',h1',h2'⟩:=hr.get i hi
 exact ⟨b,o,c',e,p,h1',h2'⟩
mutual
def tsz:Tr→Nat
 | .mk _ _ _ _ k=>1+lsz k
def lsz:List Tr→Nat
 | []=>0
 | t::r=>tsz t+lsz r
end
theorem tsz_kid {t k:Tr} (h:k∈t.kids):tsz k < tsz t:=by
 obtain ⟨s,n,tx,ns,ks⟩:=t
 have:∀ l:List Tr,k∈l→tsz k≤lsz l:=by
  intro l
  induction l with
  | nil=>intro h;cases h
  | cons a r ih =>
    intro h
    rw [lsz]
    rcases List.mem_cons.1 h with rfl | h
    · omega
    · have:=ih h;omega
 have:=this ks h
 rw [tsz];omega
def New (w w':World):Nat→Prop:=fun b=>w.heap.size≤b∧b < w'.heap.size
def row5 (c0 c1 c2 c3 c4:Value):Nat→Value
 | 0=>c0
 | 1=>c1
 | 2=>c2
 | 3=>c3
 | _=>c4
theorem row5_alloc (w:World) (c0 c1 c2 c3 c4:Value) (t:TypeId):(w.alloc (.cells #[c0,c1,c2,c3,c4] t)).rowIs w.heap.size t 5 (row5 c0 c1 c2 c3 c4) :=
 World.rowIs_alloc w #[c0,c1,c2,c3,c4] t _ (fun i hi=>by
  have hi':i < 5:=hi
  match i,hi' with
  | 0,_=>rfl
  | 1,_=>rfl
  | 2,_=>rfl
  | 3,_=>rfl
  | 4,_=>rfl)

abbrev But (B:Nat) (w w':World):Prop:=w.grownBy w' (some B)
theorem But.refl (B:Nat) (w:World):But B w w:=World.grownBy.refl w _
theorem But.trans {B:Nat} {a b c:World} (h:But B a b) (k:But B b c):But B a c :=
 ⟨k.os.trans h.os,k.tape.trans h.tape,k.output.trans h.output,Nat.le_trans h.size k.size,fun i hi hne=>(k.block i (Nat.lt_of_lt_of_le hi h.size) hne).trans (h.block i hi hne)⟩
theorem But.of_below {B:Nat} {w w':World} (h:Below w.heap.size w w'):But B w w' :=
 ⟨h.os,h.tape,h.output,h.size,fun i hi _=>h.block i hi⟩
theorem But.alloc (B:Nat) (w:World) (o:Obj):But B w (w.alloc o):=But.of_below ((Below.refl _ _).alloc (Nat.le_refl _) o)
theorem But.set {B:Nat} (w:World) (o:Nat) (v:Value):But B w (w.setCell ⟨B,o,none⟩ v) :=
 ⟨rfl,rfl,rfl,by simp [World.setCell],fun i _ hne=>Below.heap_setCell _ _ _ _ (fun e=>hne (by rw [e]))⟩
theorem But.at {B:Nat} {w w':World} (h:But B w w') {b:Nat} (hb:b < w.heap.size) (hne:b≠B):w'.heap[b]? = w.heap[b]? :=
 h.block b hb (fun e=>hne (by simpa using e))
theorem ownsRow_base {w:World} {base base':Nat} {e:TypeId} {size:Nat} {v:Value} {n:Nat} {xs:List Value} (h:w.ownsRow base e size v n xs) (hb:base'≤base):w.ownsRow base' e size v n xs:=by
 refine ⟨h.1,?_⟩
 rcases h.2 with h | ⟨g,cap,cur,h1,h2,h3⟩
 · exact Or.inl h
 · exact Or.inr ⟨g,cap,cur,h1,Nat.le_trans hb h2,h3⟩
theorem append_row {P:Program} (w:World) {ops:Array Oper} {rest:List Oper} {o:Oper} {a:Act} {Q:Exit→Act→World→Prop}
 (hg:o.guard=none) (s x:Operand) (t:TypeId) (hop:o.op=Op.call { callee:=Callee.builtin Builtin.append,args:=#[s,x],argTypes:=#[t,t] })
 (base:Nat) (e:TypeId) (i:TypeInfo) (z:Value) (size bytes:Nat) (h1:P.underlying t=some (.slice e)) (h2:P.info? e=some i) (h3:i.zero=some z) (h4:i.size=size) (h5:i.bytes=bytes) (h6:z.cells.size=size) (h7:0 < size)
 (v:Value) (n:Nat) (xs:List Value) (hs:a.eval s=v) (hown:w.ownsRow base e size v n xs)
 (ad:Addr) (m c:Nat) (news:List Value) (hx:a.eval x=.slice (some ad) m c) (hn:news.length=m * size) (hc:∀ j u,news[j]? = some u→w.cell? (ad.add j)=some u) (h1c:∀ u∈news,u.oneCell'=true)
 (hm:0 < m) (b1:n+m≤maxLen) (b2:(n+m) * bytes≤140737488355328) (hbase:base≤w.heap.size)
 (hK:∀ v' w',w'.ownsRow base e size v' (n+m) (xs++news)→w.grownBy w' v.ownBlock→(v'.ownBlock=v.ownBlock∨∃ g,v'.ownBlock=some g∧w.heap.size≤g)→wpList P ops Q rest (a.put o.dst v') w') :
 wpList P ops Q (o::rest) a w:=by
 have hgrow:∀ v' w',w'.ownsRow w.heap.size e size v' (n+m) (xs++news)→w.grownBy w' none→wpList P ops Q rest (a.put o.dst v') w':=fun v' w' r1 r2=>by
  refine hK v' w' (ownsRow_base r1 hbase) ⟨r2.os,r2.tape,r2.output,r2.size,fun k hk _=>r2.block k hk (by simp)⟩ (Or.inr ?_)
  rcases r1.2 with ⟨_,h⟩ | ⟨g,cap,cur,hv,hgg,_⟩
  · omega
  · exact ⟨g,by rw [hv];rfl,hgg⟩
 rcases hown.2 with ⟨hv,hn0⟩ | ⟨g,cap,cur,hv,hgb,hh,hle,hm2,hsz,htk⟩
 · subst hv;subst hn0
   have hxs:xs=[]:=List.eq_nil_of_length_eq_zero (by have:=hown.1;simpa using this)
   subst hxs
   exact wpList_append_grows w hg s x t hop e i z size bytes h1 h2 h3 h4 h5 h6 h7 none 0 0 [] hs (fun _=>⟨rfl,rfl⟩) (by simp) (fun b hb=>by cases hb) ad m c news hx hn hc h1c (by omega) b1 b2 hgrow
 · by_cases hr:n+m≤cap
   · subst hv
     exact wpList_append_fits w hg s x t hop base e i size h1 h2 h4 g n cap xs hs hown ad m c news hx hn hc h1c hr fun w' r1 r2=>hK _ w' r1 r2 (Or.inl rfl)
   · refine wpList_append_grows w hg s x t hop e i z size bytes h1 h2 h3 h4 h5 h6 h7 (some ⟨g,0,none⟩) n cap xs (by rw [hs,hv]) (fun hb=>by cases hb) hown.1 (fun b hb j u hj=>?_) ad m c news hx hn hc h1c (by omega) b1 b2 hgrow
     simp only [Option.some.injEq] at hb
     subst hb
     have hj':cur.toList[j]? = some u:=by
      rw [← htk] at hj
      rw [List.getElem?_take] at hj
      split at hj
      · exact hj
      · cases hj
     rw [Addr.add_lit]
     simp only [Nat.zero_add,World.cell?, hh]
     simpa using hj'
theorem cell_one (w:World) (x:Value) (t:TypeId):∀ j u,[x][j]? = some u→(w.alloc (.cells #[x] t)).cell? ((⟨w.heap.size,0,none⟩:Addr).add j)=some u:=by
 intro j u hj
 match j with
 | 0=>simp only [List.getElem?_cons_zero,Option.some.injEq] at hj;subst hj;rw [Addr.add_lit];simp [go_sem]
 | j+1=>simp at hj

def rowD (c0 c1:Value):Nat→Value
 | 0=>c0
 | _=>c1
structure DR (R:Nat) (w:World) (v:Value) (b:List UInt8) (p:Nat):Prop where
 cells:w.rowIs R 86 2 (rowD v (.int .i64 p))
 bytes:∃ a cap,v=.slice a b.length cap∧∀ i,(h:i < b.length)→∃ g o,a=some ⟨g,o,none⟩∧g < R∧w.cell? ⟨g,o+i,none⟩=some (.int .u8 b[i].toNat)
 small:b.length≤2000
theorem DR.block {R:Nat} {w w':World} {v:Value} {b:List UInt8} {p p':Nat} (h:DR R w v b p) (hb:∀ g,g < R→w'.heap[g]? = w.heap[g]?) (hc:w'.rowIs R 86 2 (rowD v (.int .i64 p'))):DR R w' v b p':=by
 obtain ⟨a,cap,h1,h2⟩:=h.bytes
 refine ⟨hc,⟨a,cap,h1,fun i hi=>?_⟩,h.small⟩
 obtain ⟨g,o,e,hlt,hcell⟩:=h2 i hi
 exact ⟨g,o,e,hlt,by rw [World.cell?_of_block (w:=w) (hb g hlt)];exact hcell⟩
theorem DR.on {R:Nat} {w w':World} {v:Value} {b:List UInt8} {p:Nat} (h:DR R w v b p) (hb:Below w.heap.size w w'):DR R w' v b p :=
 h.block (fun g hg=>hb.block g (by have:=h.cells.lt;omega)) (h.cells.of_block (hb.block _ h.cells.lt))
theorem DR.but {R:Nat} {w w':World} {v:Value} {b:List UInt8} {p p':Nat} (h:DR R w v b p) (hb:But R w w') (hc:w'.rowIs R 86 2 (rowD v (.int .i64 p'))):DR R w' v b p' :=
 h.block (fun g hg=>hb.at (by have:=h.cells.lt;omega) (by omega)) hc
theorem rowD_set1 {w:World} {B:Nat} {T:TypeId} {x y:Value} (h:w.rowIs B T 2 (rowD x y)) (v:Value):(w.setCell ⟨B,1,none⟩ v).rowIs B T 2 (rowD x v) :=
 (h.set 1 v).congr fun i hi=>by
   rcases (show i=0∨i=1 by omega) with rfl | rfl <;> rfl
theorem i64_xor_nat (a b:Nat) (ha:a < 4611686018427387904) (hb:b < 4611686018427387904):bits .xor .i64 (a:Int) (b:Int)=((a ^^^ b:Nat):Int):=by
 have hx:a ^^^ b < 2 ^ 62:=Nat.xor_lt_two_pow (by omega) (by omega)
 have h1:(BitVec.ofInt 64 (a:Int)).toNat=a:=by
  rw [BitVec.ofInt_natCast,BitVec.toNat_ofNat];exact Nat.mod_eq_of_lt (by omega)
 have h2:(BitVec.ofInt 64 (b:Int)).toNat=b:=by
  rw [BitVec.ofInt_natCast,BitVec.toNat_ofNat];exact Nat.mod_eq_of_lt (by omega)
 show IntKind.i64.wrap ((BitVec.ofInt 64 (a:Int) ^^^ BitVec.ofInt 64 (b:Int)).toNat:Int)=_
 rw [BitVec.toNat_xor,h1,h2,IntKind.wrap_i64]
 omega
def PickEnd (R:Nat) (w w':World) (v:Value) (b:List UInt8) (p n:Nat) (e:Ending):Prop :=
 ∃ r:Nat,e=.returned (.int .i64 (r:Int))∧r < n∧Hid (DR R w' v b (p+1))∧Hid (But R w w')
theorem pick_any (R:Nat) (w:World) (v:Value) (b:List UInt8) (p n:Nat) (h:DR R w v b p) (hn:1≤n∧n≤1000000) (hp:p≤1000000000) :
 Calls Tryz.prog 19 #[.pointer (some ⟨R,0,none⟩),.int .i64 (n:Int)] w fun e w'=>PickEnd R w w' v b p n e:=by
 obtain ⟨hn1,hn2⟩:=hn
 obtain ⟨a,cap,hv,hby⟩:=h.bytes
 subst hv
 obtain ⟨k0,k1⟩:=cs2 h.cells (by omega);have f1:=h.cells.frozen 1
 simp only [rowD] at k0 k1
 have hsm:=h.small
 have hq1:decide ((n:Int) < 1)=false:=by simp;omega
 have hend:∀ m,DR R ((w.setCell ⟨R,1,none⟩ (.int .i64 ((p:Int)+1))).drewN m) (.slice a b.length cap) b (p+1)∧But R w ((w.setCell ⟨R,1,none⟩ (.int .i64 ((p:Int)+1))).drewN m):=fun m=>by
  have hb:But R w ((w.setCell ⟨R,1,none⟩ (.int .i64 ((p:Int)+1))).drewN m):=(But.set w 1 _).trans ⟨rfl,rfl,rfl,Nat.le_refl _,fun _ _ _=>rfl⟩
  exact ⟨h.but hb (by have:=rowD_set1 h.cells (.int .i64 ((p:Int)+1));exact this.of_block rfl),hb⟩
 have HEND:=xH hend
 clear hend
 by_cases h0:b.length=0
 · have hz:((b.length:Int)==0)=true:=by simp [h0]
   clear hby h h0
   go_enter Tryz.func19,Tryz.ntmps19
   go_wp2_with fail
   go_ret
   exact ⟨0,rfl,by omega,(xU HEND 0).1,(xU HEND 0).2⟩
 · have hz:((b.length:Int)==0)=false:=beq_eq_false_iff_ne.2 (by omega)
   by_cases hlt:p < b.length
   · have hq2:decide ((p:Int) < (b.length:Int))=true:=by simp;omega
     obtain ⟨g,o,rfl,hg,hc⟩:=hby p hlt
     have hx8:=b[p].toNat_lt
     generalize b[p].toNat=x at *
     have hi1:(p:Int) < (b.length:Int):=by omega
     have hne:g≠R:=by omega
     have hne2:R≠g:=by omega
     clear hby h
     go_enter Tryz.func19,Tryz.ntmps19
     go_wp2_with fail
     go_ret
     refine ⟨x % n,by simp,Nat.mod_lt _ (by omega),(xU HEND 0).1,(xU HEND 0).2⟩
   · have hq2:decide ((p:Int) < (b.length:Int))=false:=by simp;omega
     have hb1:0 < b.length:=by omega
     obtain ⟨g,o,rfl,hg,-⟩:=hby 0 hb1
     have hm1:p % b.length < b.length:=Nat.mod_lt _ hb1
     have hm2:(p * 7+3) % b.length < b.length:=Nat.mod_lt _ hb1
     obtain ⟨g1,o1,e1,-,c1⟩:=hby (p % b.length) hm1
     obtain ⟨g2,o2,e2,-,c2⟩:=hby ((p * 7+3) % b.length) hm2
     simp only [Option.some.injEq,Addr.mk.injEq,and_true] at e1 e2
     obtain ⟨rfl,rfl⟩:=e1
     obtain ⟨rfl,rfl⟩:=e2
     have hx8:=(b[p % b.length]'hm1).toNat_lt
     have hy8:=(b[(p * 7+3) % b.length]'hm2).toNat_lt
     generalize (b[p % b.length]'hm1).toNat=x at *
     generalize (b[(p * 7+3) % b.length]'hm2).toNat=y at *
     have hi1:(p:Int) % (b.length:Int) < (b.length:Int):=by omega
     have hi2:((p:Int) * 7+3) % (b.length:Int) < (b.length:Int):=Int.emod_lt_of_pos _ (by omega)
     have hj1:0≤(p:Int) % (b.length:Int):=Int.emod_nonneg _ (by omega)
     have hj2:0≤((p:Int) * 7+3) % (b.length:Int):=Int.emod_nonneg _ (by omega)
     have ht1:((p:Int) % (b.length:Int)).toNat=p % b.length:=by rw [← Int.natCast_emod];rfl
     have ht2:(((p:Int) * 7+3) % (b.length:Int)).toNat=(p * 7+3) % b.length:=by
      rw [show (p:Int) * 7+3=((p * 7+3:Nat):Int) from by omega,← Int.natCast_emod];rfl
     have hne:g≠R:=by omega
     have hne2:R≠g:=by omega
     clear hby h
     go_enter Tryz.func19,Tryz.ntmps19
     go_wp2_with fail
     go_quiet (fail)
     obtain ⟨z,hz,hzb⟩:∃ z:Nat,wrap64 ((x:Int) * 131+(y:Int) * 1117+(p:Int) * 29+wrap64 (wrap64 ((p:Int) / (b.length:Int)) * 53))=(z:Int)∧z≤1000000000000:=by
      have q0:0≤(p:Int) / (b.length:Int):=Int.ediv_nonneg (by omega) (by omega)
      have q1:(p:Int) / (b.length:Int)≤p:=Int.ediv_le_self _ (by omega)
      generalize (p:Int) / (b.length:Int)=q at *
      refine ⟨(x * 131+y * 1117+p * 29+q.toNat * 53),?_,?_⟩
      · unfold wrap64;omega
      · omega
     rw [hz]
     clear hz
     go_wp2_with fail
     go_ret
     refine ⟨(z ^^^ z / 64) % n,?_,Nat.mod_lt _ (by omega),(xU HEND nq).1,(xU HEND nq).2⟩
     have hx:bits BinOp.xor IntKind.i64 (z:Int) ((z:Int) / 64)=((z ^^^ z / 64:Nat):Int):=i64_xor_nat z (z / 64) (by omega) (by omega)
     rw [hx,Int.tmod_eq_emod_of_nonneg (by omega)]
     simp

inductive Kd where
 | mk (sort:Int) (names:List ByteArray) (kids:List Kd)
namespace Kd
def sort:Kd→Int | mk s _ _=>s
def names:Kd→List ByteArray | mk _ n _=>n
def kids:Kd→List Kd | mk _ _ k=>k
end Kd
mutual
def wKd:Kd→Nat
 | .mk _ n k=>wS n+wKs k
def wKs:List Kd→Nat
 | []=>0
 | t::r=>1+wKd t+wKs r
end
theorem wKs_mem {t:Kd} {l:List Kd} (h:t∈l):wKd t+1≤wKs l:=by
 induction l with
 | nil=>cases h
 | cons a r ih =>
   rw [wKs]
   rcases List.mem_cons.1 h with rfl | h
   · omega
   · have:=ih h;omega
theorem wKs_len (l:List Kd):l.length≤wKs l:=by
 induction l with
 | nil=>simp [wKs]
 | cons a r ih=>rw [wKs];simp;omega
structure C3 where
 (c0 c1 c2:Value)
def C3.at (w:World) (b o:Nat) (c:C3):Prop :=
 w.cell? ⟨b,o,none⟩=some c.c0∧w.cell? ⟨b,o+1,none⟩=some c.c1∧w.cell? ⟨b,o+2,none⟩=some c.c2
mutual
def KRep (P:Nat→Prop) (w:World):Kd→C3→Prop
 | .mk s ns ks,c=>c.c0=.int .i64 s∧I64 s∧StrsAt P w c.c1 ns ∧
   ∃ a cap,c.c2=.slice a ks.length cap∧ks.length≤9223372036854775807∧(ks≠[]→∃ b o,a=some ⟨b,o,none⟩∧P b∧KRepK P w b o ks)
def KRepK (P:Nat→Prop) (w:World) (b:Nat) (o:Nat):List Kd→Prop
 | []=>True
 | t::r=>(∃ c,C3.at w b o c∧KRep P w t c)∧KRepK P w b (o+3) r
end
theorem KRepK.get {P:Nat→Prop} {w:World} {b o:Nat} {ks:List Kd} (h:KRepK P w b o ks) (i:Nat) (hi:i < ks.length) :
 ∃ c,C3.at w b (o+i * 3) c∧KRep P w ks[i] c:=by
 induction ks generalizing o i with
 | nil=>simp at hi
 | cons t r ih =>
   rw [KRepK] at h
   cases i with
   | zero=>exact h.1
   | succ i =>
     obtain ⟨c,h1,h2⟩:=ih h.2 i (by simpa using hi)
     exact ⟨c,by rw [show o+(i+1) * 3=o+3+i * 3 from by omega];exact h1,h2⟩
theorem KRepK.mk {P:Nat→Prop} {w:World} {b o:Nat} {ks:List Kd} (h:∀ i,(hi:i < ks.length)→∃ c,C3.at w b (o+i * 3) c∧KRep P w ks[i] c):KRepK P w b o ks:=by
 induction ks generalizing o with
 | nil=>rw [KRepK];trivial
 | cons t r ih =>
   rw [KRepK]
   refine ⟨h 0 (by simp),ih fun i hi=>?_⟩
   obtain ⟨c,h1,h2⟩:=h (i+1) (by simpa using hi)
   exact ⟨c,by rw [show o+3+i * 3=o+(i+1) * 3 from by omega];exact h1,h2⟩
theorem C3.at.carry {w w':World} {b o:Nat} {c:C3} (h:C3.at w b o c) (hb:w'.heap[b]? = w.heap[b]?):C3.at w' b o c:=by
 have e:∀ o',w'.cell? ⟨b,o',none⟩=w.cell? ⟨b,o',none⟩:=fun o'=>World.cell?_of_block (w:=w) hb
 obtain ⟨h0,h1,h2⟩:=h
 exact ⟨by rw [e];exact h0,by rw [e];exact h1,by rw [e];exact h2⟩
mutual
theorem KRep.carry {P Q:Nat→Prop} {w w':World} (hP:∀ b,P b→w'.heap[b]? = w.heap[b]?) (hQ:∀ b,P b→Q b):∀ (t:Kd) (c:C3),KRep P w t c→KRep Q w' t c
 | .mk s ns ks,c=>by
   intro h
   rw [KRep] at h ⊢
   obtain ⟨h0,h3,h6,a,cap,h7,h8,h9⟩:=h
   refine ⟨h0,h3,h6.carry hP hQ,a,cap,h7,h8,fun hk=>?_⟩
   obtain ⟨b,o,e,p,hr⟩:=h9 hk
   exact ⟨b,o,e,hQ b p,KRepK.carry hP hQ b o (hP b p) ks hr⟩
theorem KRepK.carry {P Q:Nat→Prop} {w w':World} (hP:∀ b,P b→w'.heap[b]? = w.heap[b]?) (hQ:∀ b,P b→Q b) (b:Nat) (o:Nat) (hb:w'.heap[b]? = w.heap[b]?):∀ (ks:List Kd),KRepK P w b o ks→KRepK Q w' b o ks
 | []=>by intro _;rw [KRepK];trivial
 | t::r=>by
   intro h
   rw [KRepK] at h ⊢
   obtain ⟨⟨c,h1,h2⟩,h3⟩:=h
   exact ⟨⟨c,h1.carry hb,KRep.carry hP hQ t c h2⟩,KRepK.carry hP hQ b (o+3) hb r h3⟩
end
theorem KRep.open {P:Nat→Prop} {w:World} {t:Kd} {c:C3} (h:KRep P w t c) :
 c.c0=.int .i64 t.sort∧I64 t.sort∧StrsAt P w c.c1 t.names ∧
 ∃ a cap,c.c2=.slice a t.kids.length cap∧t.kids.length≤9223372036854775807 ∧
   ∀ i,(hi:i < t.kids.length)→∃ b o c,a=some ⟨b,o,none⟩∧P b∧C3.at w b (o+i * 3) c∧KRep P w t.kids[i] c:=by
 obtain ⟨s,ns,ks⟩:=t
 rw [KRep] at h
 obtain ⟨h0,h3,h6,a,cap,h7,h8,h9⟩:=h
 refine ⟨h0,h3,h6,a,cap,h7,h8,fun i hi=>?_⟩
 obtain ⟨b,o,e,p,hr⟩:=h9 (fun hh=>by subst hh;simp [Kd.kids] at hi)
 obtain ⟨c',h1',h2'⟩:=hr.get i hi
 exact ⟨b,o,c',e,p,h1',h2'⟩
mutual
def ksz:Kd→Nat
 | .mk _ _ k=>1+klsz k
def klsz:List Kd→Nat
 | []=>0
 | t::r=>ksz t+klsz r
end
theorem ksz_kid {t k:Kd} (h:k∈t.kids):ksz k < ksz t:=by
 obtain ⟨s,ns,ks⟩:=t
 have:∀ l:List Kd,k∈l→ksz k≤klsz l:=by
  intro l
  induction l with
  | nil=>intro h;cases h
  | cons a r ih =>
    intro h
    rw [klsz]
    rcases List.mem_cons.1 h with rfl | h
    · omega
    · have:=ih h;omega
 have:=this ks h
 rw [ksz];omega
def row3 (c0 c1 c2:Value):Nat→Value
 | 0=>c0
 | 1=>c1
 | _=>c2
theorem row3_alloc (w:World) (c0 c1 c2:Value) (t:TypeId):(w.alloc (.cells #[c0,c1,c2] t)).rowIs w.heap.size t 3 (row3 c0 c1 c2) :=
 World.rowIs_alloc w #[c0,c1,c2] t _ (fun i hi=>by
  have hi':i < 3:=hi
  match i,hi' with
  | 0,_=>rfl
  | 1,_=>rfl
  | 2,_=>rfl)
theorem kbox1 {w w1:World} {x0 x1 x2:Value} {tx:TypeId}
 (hb:Below (w.alloc (.cells #[x0,x1,x2] tx)).heap.size (w.alloc (.cells #[x0,x1,x2] tx)) w1) :
 w1.rowIs w.heap.size tx 3 (row3 x0 x1 x2)∧w.heap.size+1≤w1.heap.size∧Below w.heap.size w w1:=by
 have r0:=row3_alloc w x0 x1 x2 tx
 have hs:=hb.size
 refine ⟨r0.of_block (hb.block _ r0.lt),by simpa using hs,?_⟩
 exact ((Below.refl _ _).alloc (Nat.le_refl _) _).trans (hb.mono (by simp))

def FreeB (w:World) (b:Nat):Prop:=∀ o,w.frozen? ⟨b,o,none⟩=false
theorem FreeB.of_block {w w':World} {b:Nat} (h:FreeB w b) (e:w'.heap[b]? = w.heap[b]?):FreeB w' b:=fun o=>by
 rw [World.frozen?_of_block (w:=w) (a:=⟨b,o,none⟩) e];exact h o
def StrsOwn (w:World) (v:Value) (ss:List ByteArray) (F:List Nat):Prop :=
 ∃ a cap,v=.slice a ss.length cap∧ss.length≤9223372036854775807∧((ss=[]∧F=[])∨∃ b,a=some ⟨b,0,none⟩∧F=[b]∧FreeB w b∧∀ i,(h:i < ss.length)→w.cell? ⟨b,i,none⟩=some (.string ss[i])∧ss[i].size≤9223372036854775807)
mutual
def Own (w:World):Tr→C5→List Nat→Prop
 | .mk s n t ns ks,c,F=>c.c0=.int .i64 s∧c.c1=.int .i64 n∧c.c2=.string t∧I64 s∧I64 n∧t.size≤9223372036854775807 ∧
   ∃ F1 F2,F=F1++F2∧StrsOwn w c.c3 ns F1∧∃ a cap,c.c4=.slice a ks.length cap∧ks.length≤9223372036854775807 ∧
     ((ks=[]∧F2=[])∨∃ b G,a=some ⟨b,0,none⟩∧F2=b::G∧FreeB w b∧OwnK w b 0 ks G)
def OwnK (w:World) (b:Nat) (o:Nat):List Tr→List Nat→Prop
 | [],F=>F=[]
 | t::r,F=>∃ F1 F2 c,F=F1++F2∧C5.at w b o c∧Own w t c F1∧OwnK w b (o+5) r F2
end
def KidsOwn (w:World) (v:Value) (ks:List Tr) (F:List Nat):Prop :=
 ∃ a cap,v=.slice a ks.length cap∧ks.length≤9223372036854775807 ∧
     ((ks=[]∧F=[])∨∃ b G,a=some ⟨b,0,none⟩∧F=b::G∧FreeB w b∧OwnK w b 0 ks G)
theorem Own.open {w:World} {t:Tr} {c:C5} {F:List Nat} (h:Own w t c F) :
 c.c0=.int .i64 t.sort∧c.c1=.int .i64 t.num∧c.c2=.string t.text∧I64 t.sort∧I64 t.num∧t.text.size≤9223372036854775807 ∧
 ∃ F1 F2,F=F1++F2∧StrsOwn w c.c3 t.names F1∧KidsOwn w c.c4 t.kids F2:=by
 obtain ⟨s,n,tx,ns,ks⟩:=t
 rw [Own] at h
 exact h
theorem Own.make {w:World} {t:Tr} {c:C5} {F1 F2:List Nat} (h0:c.c0=.int .i64 t.sort) (h1:c.c1=.int .i64 t.num) (h2:c.c2=.string t.text) (h3:I64 t.sort) (h4:I64 t.num) (h5:t.text.size≤9223372036854775807)
 (h6:StrsOwn w c.c3 t.names F1) (h7:KidsOwn w c.c4 t.kids F2):Own w t c (F1++F2):=by
 obtain ⟨s,n,tx,ns,ks⟩:=t
 rw [Own]
 exact ⟨h0,h1,h2,h3,h4,h5,F1,F2,rfl,h6,h7⟩
theorem StrsOwn.carry {w w':World} {v:Value} {ss:List ByteArray} {F:List Nat} (h:StrsOwn w v ss F) (hF:∀ b,b∈F→w'.heap[b]? = w.heap[b]?):StrsOwn w' v ss F:=by
 obtain ⟨a,cap,h1,h2,h3⟩:=h
 refine ⟨a,cap,h1,h2,?_⟩
 rcases h3 with h | ⟨b,e,hf,hfr,hc⟩
 · exact Or.inl h
 · have hb:=hF b (by rw [hf];simp)
   exact Or.inr ⟨b,e,hf,hfr.of_block hb,fun i hi=>⟨by rw [World.cell?_of_block (w:=w) hb];exact (hc i hi).1,(hc i hi).2⟩⟩
mutual
theorem Own.carry {w w':World}:∀ (t:Tr) (c:C5) (F:List Nat),(∀ b,b∈F→w'.heap[b]? = w.heap[b]?)→Own w t c F→Own w' t c F
 | .mk s n t ns ks,c,F=>by
   intro hF h
   rw [Own] at h ⊢
   obtain ⟨h0,h1,h2,h3,h4,h5,F1,F2,rfl,h6,a,cap,h7,h8,h9⟩:=h
   refine ⟨h0,h1,h2,h3,h4,h5,F1,F2,rfl,h6.carry (fun b hb=>hF b (by simp [hb])),a,cap,h7,h8,?_⟩
   rcases h9 with h | ⟨b,G,e,rfl,hfr,hk⟩
   · exact Or.inl h
   · have hb:=hF b (by simp)
     exact Or.inr ⟨b,G,e,rfl,hfr.of_block hb,OwnK.carry b 0 ks G (fun b' hb'=>hF b' (by simp [hb'])) (fun j _ _=>World.cell?_of_block (w:=w) hb) hk⟩
theorem OwnK.carry {w w':World} (b:Nat) (o:Nat):∀ (ks:List Tr) (F:List Nat),(∀ b,b∈F→w'.heap[b]? = w.heap[b]?)→(∀ j,o≤j→j < o+5 * ks.length→w'.cell? ⟨b,j,none⟩=w.cell? ⟨b,j,none⟩)→OwnK w b o ks F→OwnK w' b o ks F
 | [],F=>by intro _ _ h;rw [OwnK] at h ⊢;exact h
 | t::r,F=>by
   intro hF hc h
   rw [OwnK] at h ⊢
   obtain ⟨F1,F2,c,rfl,h1,h2,h3⟩:=h
   have hl:o+5≤o+5 * (t::r).length:=by simp [List.length_cons];omega
   refine ⟨F1,F2,c,rfl,?_,Own.carry t c F1 (fun b hb=>hF b (by simp [hb])) h2,OwnK.carry b (o+5) r F2 (fun b hb=>hF b (by simp [hb])) (fun j h1 h2=>hc j (by omega) (by simp only [List.length_cons];omega)) h3⟩
   obtain ⟨g0,g1,g2,g3,g4⟩:=h1
   exact ⟨by rw [hc _ (by omega) (by omega)];exact g0,by rw [hc _ (by omega) (by omega)];exact g1,by rw [hc _ (by omega) (by omega)];exact g2,by rw [hc _ (by omega) (by omega)];exact g3,by rw [hc _ (by omega) (by omega)];exact g4⟩
end
theorem KidsOwn.carry {w w':World} {v:Value} {ks:List Tr} {F:List Nat} (h:KidsOwn w v ks F) (hF:∀ b,b∈F→w'.heap[b]? = w.heap[b]?):KidsOwn w' v ks F:=by
 obtain ⟨a,cap,h1,h2,h3⟩:=h
 refine ⟨a,cap,h1,h2,?_⟩
 rcases h3 with h | ⟨b,G,e,rfl,hfr,hk⟩
 · exact Or.inl h
 · have hb:=hF b (by simp)
   exact Or.inr ⟨b,G,e,rfl,hfr.of_block hb,OwnK.carry b 0 ks G (fun b' hb'=>hF b' (by simp [hb'])) (fun j _ _=>World.cell?_of_block (w:=w) hb) hk⟩
theorem StrsOwn.at {w:World} {v:Value} {ss:List ByteArray} {F:List Nat} (h:StrsOwn w v ss F):StrsAt (·∈F) w v ss:=by
 obtain ⟨a,cap,h1,h2,h3⟩:=h
 refine ⟨a,cap,h1,h2,fun i hi=>?_⟩
 rcases h3 with ⟨rfl,_⟩ | ⟨b,e,hf,hfr,hc⟩
 · simp at hi
 · exact ⟨b,0,e,by rw [hf];simp,by rw [Nat.zero_add];exact (hc i hi).1,(hc i hi).2⟩
mutual
theorem Own.rep {w:World} {P:Nat→Prop}:∀ (t:Tr) (c:C5) (F:List Nat),(∀ b,b∈F→P b)→Own w t c F→Rep P w t c
 | .mk s n t ns ks,c,F=>by
   intro hF h
   rw [Own] at h
   obtain ⟨h0,h1,h2,h3,h4,h5,F1,F2,rfl,h6,a,cap,h7,h8,h9⟩:=h
   rw [Rep]
   refine ⟨h0,h1,h2,h3,h4,h5,h6.at.carry (fun _ _=>rfl) (fun b hb=>hF b (by simp [hb])),a,cap,h7,h8,fun hk=>?_⟩
   rcases h9 with h | ⟨b,G,e,rfl,hfr,hk2⟩
   · exact absurd h.1 hk
   · exact ⟨b,0,e,hF b (by simp),OwnK.rep b 0 ks G (fun b' hb'=>hF b' (by simp [hb'])) hk2⟩
theorem OwnK.rep {w:World} {P:Nat→Prop} (b:Nat) (o:Nat):∀ (ks:List Tr) (F:List Nat),(∀ b,b∈F→P b)→OwnK w b o ks F→RepK P w b o ks
 | [],F=>by intro _ _;rw [RepK];trivial
 | t::r,F=>by
   intro hF h
   rw [OwnK] at h
   obtain ⟨F1,F2,c,rfl,h1,h2,h3⟩:=h
   rw [RepK]
   exact ⟨⟨c,h1,Own.rep t c F1 (fun b hb=>hF b (by simp [hb])) h2⟩,OwnK.rep b (o+5) r F2 (fun b hb=>hF b (by simp [hb])) h3⟩
end

def c5l (c:C5):List Value:=[c.c0,c.c1,c.c2,c.c3,c.c4]
def OwnL (w:World):List Tr→List Value→List Nat→Prop
 | [],xs,G=>xs=[]∧G=[]
 | t::r,xs,G=>∃ c F G' xs',xs=c5l c++xs'∧G=F++G'∧Own w t c F∧OwnL w r xs' G'
theorem OwnL.snoc {w:World} {ks:List Tr} {xs:List Value} {G F:List Nat} {t:Tr} {c:C5} (h:OwnL w ks xs G) (ht:Own w t c F):OwnL w (ks++[t]) (xs++c5l c) (G++F):=by
 induction ks generalizing xs G with
 | nil =>
   obtain ⟨rfl,rfl⟩:=h
   exact ⟨c,F,[],[],by simp,by simp,ht,rfl,rfl⟩
 | cons a r ih =>
   obtain ⟨d,F1,G',xs',rfl,rfl,h1,h2⟩:=h
   exact ⟨d,F1,G'++F,xs'++c5l c,by simp,by simp,h1,ih h2⟩
theorem OwnL.carry {w w':World} {ks:List Tr} {xs:List Value} {G:List Nat} (h:OwnL w ks xs G) (hb:∀ b,b∈G→w'.heap[b]? = w.heap[b]?):OwnL w' ks xs G:=by
 induction ks generalizing xs G with
 | nil=>exact h
 | cons a r ih =>
   obtain ⟨d,F1,G',xs',rfl,rfl,h1,h2⟩:=h
   exact ⟨d,F1,G',xs',rfl,rfl,Own.carry a d F1 (fun b hb'=>hb b (by simp [hb'])) h1,ih h2 (fun b hb'=>hb b (by simp [hb']))⟩
theorem OwnL.ownK {w:World} {g:Nat} {ks:List Tr} {xs:List Value} {G:List Nat} {o:Nat} (h:OwnL w ks xs G) (hc:∀ j u,xs[j]? = some u→w.cell? ⟨g,o+j,none⟩=some u):OwnK w g o ks G:=by
 induction ks generalizing xs G o with
 | nil=>rw [OwnK];exact h.2
 | cons a r ih =>
   obtain ⟨d,F1,G',xs',rfl,rfl,h1,h2⟩:=h
   rw [OwnK]
   refine ⟨F1,G',d,rfl,⟨hc 0 _ rfl,hc 1 _ rfl,hc 2 _ rfl,hc 3 _ rfl,hc 4 _ rfl⟩,h1,ih h2 (fun j u hj=>?_)⟩
   have:=hc (5+j) u (by
    rw [List.getElem?_append_right (by simp [c5l]),show 5+j - (c5l d).length=j from by simp [c5l]];exact hj)
   rw [show o+5+j=o+(5+j) from by omega];exact this
structure GotO (base:Nat) (w:World) (v:Value) (ks:List Tr) (xs:List Value) (G:List Nat):Prop where
 row:w.ownsRow base 29 5 v ks.length xs
 own:OwnL w ks xs G
 nodup:G.Nodup
 lt:∀ b,b∈G→base≤b∧b < w.heap.size∧v.ownBlock≠some b
theorem GotO.start (base:Nat) (w:World):GotO base w (.slice none 0 0) [] [] [] :=
 ⟨World.ownsRow_nil _ _ _ _,⟨rfl,rfl⟩,List.nodup_nil,fun b hb=>by simp at hb⟩
theorem GotO.kept {base:Nat} {w w':World} {v:Value} {ks:List Tr} {xs:List Value} {G:List Nat} (h:GotO base w v ks xs G) (hg:w.grownBy w' none):GotO base w' v ks xs G :=
 ⟨h.row.kept hg (by
  rcases e:v.ownBlock with _ | g
  · exact Or.inl rfl
  · exact Or.inr (by simp)),h.own.carry (fun b hb=>hg.block b (h.lt b hb).2.1 (by simp)),h.nodup,fun b hb=>⟨(h.lt b hb).1,Nat.lt_of_lt_of_le (h.lt b hb).2.1 hg.size,(h.lt b hb).2.2⟩⟩
theorem GotO.push {base m:Nat} {w w':World} {v v':Value} {ks:List Tr} {xs:List Value} {G F:List Nat} {t:Tr} {c:C5} (h:GotO base w v ks xs G) (ht:Own w t c F) (hnd:F.Nodup) (hF:∀ b,b∈F→m≤b∧b < w.heap.size)
 (hGm:∀ b,b∈G→b < m) (hvm:∀ b,v.ownBlock=some b→b < m) (hbm:base≤m)
 (hown:w'.ownsRow base 29 5 v' (ks.length+1) (xs++c5l c)) (hg:w.grownBy w' v.ownBlock) (hv:v'.ownBlock=v.ownBlock∨∃ g,v'.ownBlock=some g∧w.heap.size≤g) :
 GotO base w' v' (ks++[t]) (xs++c5l c) (G++F):=by
 have hkG:∀ b,b∈G→w'.heap[b]? = w.heap[b]? := fun b hb=>hg.block b (h.lt b hb).2.1 (fun e=>(h.lt b hb).2.2 e.symm)
 have hkF:∀ b,b∈F→w'.heap[b]? = w.heap[b]? := fun b hb=>hg.block b (hF b hb).2 (fun e=>by have:=hvm b e.symm;have:=(hF b hb).1;omega)
 refine ⟨by simpa using hown,(h.own.carry hkG).snoc (Own.carry t c F hkF ht),List.nodup_append.2 ⟨h.nodup,hnd,fun a ha b hb e=>by have:=hGm a ha;have:=(hF b hb).1;omega⟩,fun b hb=>?_⟩
 rcases List.mem_append.1 hb with hb | hb
 · refine ⟨(h.lt b hb).1,Nat.lt_of_lt_of_le (h.lt b hb).2.1 hg.size,?_⟩
   rcases hv with e | ⟨g,e,hge⟩
   · rw [e];exact (h.lt b hb).2.2
   · rw [e];intro e2;simp only [Option.some.injEq] at e2;have:=(h.lt b hb).2.1;omega
 · refine ⟨by have:=(hF b hb).1;omega,Nat.lt_of_lt_of_le (hF b hb).2 hg.size,?_⟩
   rcases hv with e | ⟨g,e,hge⟩
   · rw [e];intro e2;have:=hvm b e2;have:=(hF b hb).1;omega
   · rw [e];intro e2;simp only [Option.some.injEq] at e2;have:=(hF b hb).2;omega
theorem freeOfHeap {w:World} {g:Nat} {cur:Array Value} {e:TypeId} (h:w.heap[g]? = some (.cells cur e (0,0))):FreeB w g:=fun o=>by simp [World.frozen?, h]
theorem strsOwn_of_row {base:Nat} {w:World} {v:Value} {ss:List ByteArray} (h:w.ownsRow base 9 1 v ss.length (ss.map Value.string)) (hs:∀ x,x∈ss→x.size≤9223372036854775807) :
 ∃ F,StrsOwn w v ss F∧F.Nodup∧(∀ b,b∈F→base≤b∧b < w.heap.size)∧∀ b,b∈F→v.ownBlock=some b:=by
 rcases h.2 with ⟨hv,hn0⟩ | ⟨g,cap,cur,hv,hgb,hh,hle,hm2,hsz,htk⟩
 · have hss:ss=[]:=List.eq_nil_of_length_eq_zero hn0
   subst hss
   exact ⟨[],⟨none,0,hv,by simp,Or.inl ⟨rfl,rfl⟩⟩,List.nodup_nil,fun b hb=>by simp at hb,fun b hb=>by simp at hb⟩
 · refine ⟨[g],⟨some ⟨g,0,none⟩,cap,hv,by unfold maxLen at hm2;omega,Or.inr ⟨g,rfl,rfl,freeOfHeap hh,fun i hi=>⟨?_,hs _ (List.getElem_mem hi)⟩⟩⟩,by simp,fun b hb=>?_,fun b hb=>by simp at hb;subst hb;rw [hv];rfl⟩
   · have h1:(ss.map Value.string)[i]? = some (.string ss[i]):=by simp [hi]
     rw [← htk,List.getElem?_take_of_lt (by omega)] at h1
     simp only [World.cell?, hh]
     simpa using h1
   · simp at hb;subst hb
     exact ⟨hgb,(Array.getElem?_eq_some_iff.1 hh).1⟩
theorem GotO.done {base:Nat} {w:World} {v:Value} {ks:List Tr} {xs:List Value} {G:List Nat} (h:GotO base w v ks xs G) :
 ∃ F,KidsOwn w v ks F∧F.Nodup∧(∀ b,b∈F→base≤b∧b < w.heap.size)∧∀ b,b∈F→v.ownBlock=some b∨b∈G:=by
 rcases h.row.2 with ⟨hv,hn0⟩ | ⟨g,cap,cur,hv,hgb,hh,hle,hm2,hsz,htk⟩
 · have hks:ks=[]:=List.eq_nil_of_length_eq_zero hn0
   subst hks
   exact ⟨[],⟨none,0,hv,by simp,Or.inl ⟨rfl,rfl⟩⟩,List.nodup_nil,fun b hb=>by simp at hb,fun b hb=>by simp at hb⟩
 · have hob:v.ownBlock=some g:=by rw [hv];rfl
   refine ⟨g::G,⟨some ⟨g,0,none⟩,cap,hv,by unfold maxLen at hm2;omega,Or.inr ⟨g,G,rfl,rfl,freeOfHeap hh,h.own.ownK (fun j u hj=>?_)⟩⟩,List.nodup_cons.2 ⟨fun hm=>(h.lt g hm).2.2 hob,h.nodup⟩,fun b hb=>?_,fun b hb=>by
    rcases List.mem_cons.1 hb with rfl | hb
    · exact Or.inl hob
    · exact Or.inr hb⟩
   · have hj':cur.toList[j]? = some u:=by
      rw [← htk] at hj
      rw [List.getElem?_take] at hj
      split at hj
      · exact hj
      · cases hj
     simp only [Nat.zero_add,World.cell?, hh]
     simpa using hj'
   · rcases List.mem_cons.1 hb with rfl | hb
     · exact ⟨hgb,(Array.getElem?_eq_some_iff.1 hh).1⟩
     · exact ⟨(h.lt b hb).1,(h.lt b hb).2.1⟩
theorem cell_five (w:World) (c:C5) (t:TypeId):∀ j u,(c5l c)[j]? = some u→(w.alloc (.cells #[c.c0,c.c1,c.c2,c.c3,c.c4] t)).cell? ((⟨w.heap.size,0,none⟩:Addr).add j)=some u:=by
 intro j u hj
 have hrow:=row5_alloc w c.c0 c.c1 c.c2 c.c3 c.c4 t
 rw [Addr.add_lit,Nat.zero_add]
 match j with
 | 0=>rw [hrow.cell (by omega)];exact hj
 | 1=>rw [hrow.cell (by omega)];exact hj
 | 2=>rw [hrow.cell (by omega)];exact hj
 | 3=>rw [hrow.cell (by omega)];exact hj
 | 4=>rw [hrow.cell (by omega)];exact hj
 | j+5=>simp [c5l] at hj
theorem Own.one {w:World} {t:Tr} {c:C5} {F:List Nat} (h:Own w t c F):∀ u∈c5l c,u.oneCell'=true:=by
 obtain ⟨h0,h1,h2,-,-,-,F1,F2,-,⟨a,cap,h3,-⟩,a2,cap2,h4,-⟩:=h.open
 intro u hu
 simp only [c5l,h0,h1,h2,h3,h4,List.mem_cons,List.not_mem_nil,or_false] at hu
 rcases hu with rfl | rfl | rfl | rfl | rfl <;> rfl

mutual
def OwnD (w:World):Kd→C3→List Nat→Prop
 | .mk s ns ks,c,F=>c.c0=.int .i64 s∧I64 s ∧
   ∃ F1 F2,F=F1++F2∧StrsOwn w c.c1 ns F1∧∃ a cap,c.c2=.slice a ks.length cap∧ks.length≤9223372036854775807 ∧
     ((ks=[]∧F2=[])∨∃ b G,a=some ⟨b,0,none⟩∧F2=b::G∧FreeB w b∧OwnDK w b 0 ks G)
def OwnDK (w:World) (b:Nat) (o:Nat):List Kd→List Nat→Prop
 | [],F=>F=[]
 | t::r,F=>∃ F1 F2 c,F=F1++F2∧C3.at w b o c∧OwnD w t c F1∧OwnDK w b (o+3) r F2
end
def KidsD (w:World) (v:Value) (ks:List Kd) (F:List Nat):Prop :=
 ∃ a cap,v=.slice a ks.length cap∧ks.length≤9223372036854775807 ∧
     ((ks=[]∧F=[])∨∃ b G,a=some ⟨b,0,none⟩∧F=b::G∧FreeB w b∧OwnDK w b 0 ks G)
theorem OwnD.open {w:World} {t:Kd} {c:C3} {F:List Nat} (h:OwnD w t c F) :
 c.c0=.int .i64 t.sort∧I64 t.sort∧∃ F1 F2,F=F1++F2∧StrsOwn w c.c1 t.names F1∧KidsD w c.c2 t.kids F2:=by
 obtain ⟨s,ns,ks⟩:=t
 rw [OwnD] at h
 exact h
theorem OwnD.make {w:World} {t:Kd} {c:C3} {F1 F2:List Nat} (h0:c.c0=.int .i64 t.sort) (h3:I64 t.sort) (h6:StrsOwn w c.c1 t.names F1) (h7:KidsD w c.c2 t.kids F2):OwnD w t c (F1++F2):=by
 obtain ⟨s,ns,ks⟩:=t
 rw [OwnD]
 exact ⟨h0,h3,F1,F2,rfl,h6,h7⟩
mutual
theorem OwnD.carry {w w':World}:∀ (t:Kd) (c:C3) (F:List Nat),(∀ b,b∈F→w'.heap[b]? = w.heap[b]?)→OwnD w t c F→OwnD w' t c F
 | .mk s ns ks,c,F=>by
   intro hF h
   rw [OwnD] at h ⊢
   obtain ⟨h0,h3,F1,F2,rfl,h6,a,cap,h7,h8,h9⟩:=h
   refine ⟨h0,h3,F1,F2,rfl,h6.carry (fun b hb=>hF b (by simp [hb])),a,cap,h7,h8,?_⟩
   rcases h9 with h | ⟨b,G,e,rfl,hfr,hk⟩
   · exact Or.inl h
   · have hb:=hF b (by simp)
     exact Or.inr ⟨b,G,e,rfl,hfr.of_block hb,OwnDK.carry b 0 ks G (fun b' hb'=>hF b' (by simp [hb'])) (fun j _ _=>World.cell?_of_block (w:=w) hb) hk⟩
theorem OwnDK.carry {w w':World} (b:Nat) (o:Nat):∀ (ks:List Kd) (F:List Nat),(∀ b,b∈F→w'.heap[b]? = w.heap[b]?)→(∀ j,o≤j→j < o+3 * ks.length→w'.cell? ⟨b,j,none⟩=w.cell? ⟨b,j,none⟩)→OwnDK w b o ks F→OwnDK w' b o ks F
 | [],F=>by intro _ _ h;rw [OwnDK] at h ⊢;exact h
 | t::r,F=>by
   intro hF hc h
   rw [OwnDK] at h ⊢
   obtain ⟨F1,F2,c,rfl,h1,h2,h3⟩:=h
   have hl:o+3≤o+3 * (t::r).length:=by simp [List.length_cons];omega
   refine ⟨F1,F2,c,rfl,?_,OwnD.carry t c F1 (fun b hb=>hF b (by simp [hb])) h2,OwnDK.carry b (o+3) r F2 (fun b hb=>hF b (by simp [hb])) (fun j h1 h2=>hc j (by omega) (by simp only [List.length_cons];omega)) h3⟩
   obtain ⟨g0,g1,g2⟩:=h1
   exact ⟨by rw [hc _ (by omega) (by omega)];exact g0,by rw [hc _ (by omega) (by omega)];exact g1,by rw [hc _ (by omega) (by omega)];exact g2⟩
end
mutual
theorem OwnD.rep {w:World} {P:Nat→Prop}:∀ (t:Kd) (c:C3) (F:List Nat),(∀ b,b∈F→P b)→OwnD w t c F→KRep P w t c
 | .mk s ns ks,c,F=>by
   intro hF h
   rw [OwnD] at h
   obtain ⟨h0,h3,F1,F2,rfl,h6,a,cap,h7,h8,h9⟩:=h
   rw [KRep]
   refine ⟨h0,h3,h6.at.carry (fun _ _=>rfl) (fun b hb=>hF b (by simp [hb])),a,cap,h7,h8,fun hk=>?_⟩
   rcases h9 with h | ⟨b,G,e,rfl,hfr,hk2⟩
   · exact absurd h.1 hk
   · exact ⟨b,0,e,hF b (by simp),OwnDK.rep b 0 ks G (fun b' hb'=>hF b' (by simp [hb'])) hk2⟩
theorem OwnDK.rep {w:World} {P:Nat→Prop} (b:Nat) (o:Nat):∀ (ks:List Kd) (F:List Nat),(∀ b,b∈F→P b)→OwnDK w b o ks F→KRepK P w b o ks
 | [],F=>by intro _ _;rw [KRepK];trivial
 | t::r,F=>by
   intro hF h
   rw [OwnDK] at h
   obtain ⟨F1,F2,c,rfl,h1,h2,h3⟩:=h
   rw [KRepK]
   exact ⟨⟨c,h1,OwnD.rep t c F1 (fun b hb=>hF b (by simp [hb])) h2⟩,OwnDK.rep b (o+3) r F2 (fun b hb=>hF b (by simp [hb])) h3⟩
end
def c3l (c:C3):List Value:=[c.c0,c.c1,c.c2]
def OwnLD (w:World):List Kd→List Value→List Nat→Prop
 | [],xs,G=>xs=[]∧G=[]
 | t::r,xs,G=>∃ c F G' xs',xs=c3l c++xs'∧G=F++G'∧OwnD w t c F∧OwnLD w r xs' G'
theorem OwnLD.snoc {w:World} {ks:List Kd} {xs:List Value} {G F:List Nat} {t:Kd} {c:C3} (h:OwnLD w ks xs G) (ht:OwnD w t c F):OwnLD w (ks++[t]) (xs++c3l c) (G++F):=by
 induction ks generalizing xs G with
 | nil =>
   obtain ⟨rfl,rfl⟩:=h
   exact ⟨c,F,[],[],by simp,by simp,ht,rfl,rfl⟩
 | cons a r ih =>
   obtain ⟨d,F1,G',xs',rfl,rfl,h1,h2⟩:=h
   exact ⟨d,F1,G'++F,xs'++c3l c,by simp,by simp,h1,ih h2⟩
theorem OwnLD.carry {w w':World} {ks:List Kd} {xs:List Value} {G:List Nat} (h:OwnLD w ks xs G) (hb:∀ b,b∈G→w'.heap[b]? = w.heap[b]?):OwnLD w' ks xs G:=by
 induction ks generalizing xs G with
 | nil=>exact h
 | cons a r ih =>
   obtain ⟨d,F1,G',xs',rfl,rfl,h1,h2⟩:=h
   exact ⟨d,F1,G',xs',rfl,rfl,OwnD.carry a d F1 (fun b hb'=>hb b (by simp [hb'])) h1,ih h2 (fun b hb'=>hb b (by simp [hb']))⟩
theorem OwnLD.ownK {w:World} {g:Nat} {ks:List Kd} {xs:List Value} {G:List Nat} {o:Nat} (h:OwnLD w ks xs G) (hc:∀ j u,xs[j]? = some u→w.cell? ⟨g,o+j,none⟩=some u):OwnDK w g o ks G:=by
 induction ks generalizing xs G o with
 | nil=>rw [OwnDK];exact h.2
 | cons a r ih =>
   obtain ⟨d,F1,G',xs',rfl,rfl,h1,h2⟩:=h
   rw [OwnDK]
   refine ⟨F1,G',d,rfl,⟨hc 0 _ rfl,hc 1 _ rfl,hc 2 _ rfl⟩,h1,ih h2 (fun j u hj=>?_)⟩
   have:=hc (3+j) u (by
    rw [List.getElem?_append_right (by simp [c3l]),show 3+j - (c3l d).length=j from by simp [c3l]];exact hj)
   rw [show o+3+j=o+(3+j) from by omega];exact this
structure GotD (base:Nat) (w:World) (v:Value) (ks:List Kd) (xs:List Value) (G:List Nat):Prop where
 row:w.ownsRow base 26 3 v ks.length xs
 own:OwnLD w ks xs G
 nodup:G.Nodup
 lt:∀ b,b∈G→base≤b∧b < w.heap.size∧v.ownBlock≠some b
theorem GotD.start (base:Nat) (w:World):GotD base w (.slice none 0 0) [] [] [] :=
 ⟨World.ownsRow_nil _ _ _ _,⟨rfl,rfl⟩,List.nodup_nil,fun b hb=>by simp at hb⟩
theorem GotD.other {base:Nat} {w w':World} {v:Value} {ks:List Kd} {xs:List Value} {G:List Nat} {row:Option Nat} (h:GotD base w v ks xs G) (hg:w.grownBy w' row) (hr:∀ b,row=some b→v.ownBlock≠some b∧b∉G):GotD base w' v ks xs G :=
 ⟨h.row.kept hg (by
  rcases e:v.ownBlock with _ | g
  · exact Or.inl rfl
  · exact Or.inr (fun e2=>(hr g e2.symm).1 e)),h.own.carry (fun b hb=>hg.block b (h.lt b hb).2.1 (fun e=>(hr b e.symm).2 hb)),h.nodup,fun b hb=>⟨(h.lt b hb).1,Nat.lt_of_lt_of_le (h.lt b hb).2.1 hg.size,(h.lt b hb).2.2⟩⟩
theorem GotD.push {base m:Nat} {w w':World} {v v':Value} {ks:List Kd} {xs:List Value} {G F:List Nat} {t:Kd} {c:C3} (h:GotD base w v ks xs G) (ht:OwnD w t c F) (hnd:F.Nodup) (hF:∀ b,b∈F→m≤b∧b < w.heap.size)
 (hGm:∀ b,b∈G→b < m) (hvm:∀ b,v.ownBlock=some b→b < m) (hbm:base≤m)
 (hown:w'.ownsRow base 26 3 v' (ks.length+1) (xs++c3l c)) (hg:w.grownBy w' v.ownBlock) (hv:v'.ownBlock=v.ownBlock∨∃ g,v'.ownBlock=some g∧w.heap.size≤g) :
 GotD base w' v' (ks++[t]) (xs++c3l c) (G++F):=by
 have hkG:∀ b,b∈G→w'.heap[b]? = w.heap[b]? := fun b hb=>hg.block b (h.lt b hb).2.1 (fun e=>(h.lt b hb).2.2 e.symm)
 have hkF:∀ b,b∈F→w'.heap[b]? = w.heap[b]? := fun b hb=>hg.block b (hF b hb).2 (fun e=>by have:=hvm b e.symm;have:=(hF b hb).1;omega)
 refine ⟨by simpa using hown,(h.own.carry hkG).snoc (OwnD.carry t c F hkF ht),List.nodup_append.2 ⟨h.nodup,hnd,fun a ha b hb e=>by have:=hGm a ha;have:=(hF b hb).1;omega⟩,fun b hb=>?_⟩
 rcases List.mem_append.1 hb with hb | hb
 · refine ⟨(h.lt b hb).1,Nat.lt_of_lt_of_le (h.lt b hb).2.1 hg.size,?_⟩
   rcases hv with e | ⟨g,e,hge⟩
   · rw [e];exact (h.lt b hb).2.2
   · rw [e];intro e2;simp only [Option.some.injEq] at e2;have:=(h.lt b hb).2.1;omega
 · refine ⟨by have:=(hF b hb).1;omega,Nat.lt_of_lt_of_le (hF b hb).2 hg.size,?_⟩
   rcases hv with e | ⟨g,e,hge⟩
   · rw [e];intro e2;have:=hvm b e2;have:=(hF b hb).1;omega
   · rw [e];intro e2;simp only [Option.some.injEq] at e2;have:=(hF b hb).2;omega
theorem GotD.done {base:Nat} {w:World} {v:Value} {ks:List Kd} {xs:List Value} {G:List Nat} (h:GotD base w v ks xs G) :
 ∃ F,KidsD w v ks F∧F.Nodup∧(∀ b,b∈F→base≤b∧b < w.heap.size)∧∀ b,b∈F→v.ownBlock=some b∨b∈G:=by
 rcases h.row.2 with ⟨hv,hn0⟩ | ⟨g,cap,cur,hv,hgb,hh,hle,hm2,hsz,htk⟩
 · have hks:ks=[]:=List.eq_nil_of_length_eq_zero hn0
   subst hks
   exact ⟨[],⟨none,0,hv,by simp,Or.inl ⟨rfl,rfl⟩⟩,List.nodup_nil,fun b hb=>by simp at hb,fun b hb=>by simp at hb⟩
 · have hob:v.ownBlock=some g:=by rw [hv];rfl
   refine ⟨g::G,⟨some ⟨g,0,none⟩,cap,hv,by unfold maxLen at hm2;omega,Or.inr ⟨g,G,rfl,rfl,freeOfHeap hh,h.own.ownK (fun j u hj=>?_)⟩⟩,List.nodup_cons.2 ⟨fun hm=>(h.lt g hm).2.2 hob,h.nodup⟩,fun b hb=>?_,fun b hb=>by
    rcases List.mem_cons.1 hb with rfl | hb
    · exact Or.inl hob
    · exact Or.inr hb⟩
   · have hj':cur.toList[j]? = some u:=by
      rw [← htk] at hj
      rw [List.getElem?_take] at hj
      split at hj
      · exact hj
      · cases hj
     simp only [Nat.zero_add,World.cell?, hh]
     simpa using hj'
   · rcases List.mem_cons.1 hb with rfl | hb
     · exact ⟨hgb,(Array.getElem?_eq_some_iff.1 hh).1⟩
     · exact ⟨(h.lt b hb).1,(h.lt b hb).2.1⟩
theorem cell_three (w:World) (c:C3) (t:TypeId):∀ j u,(c3l c)[j]? = some u→(w.alloc (.cells #[c.c0,c.c1,c.c2] t)).cell? ((⟨w.heap.size,0,none⟩:Addr).add j)=some u:=by
 intro j u hj
 have hrow:=row3_alloc w c.c0 c.c1 c.c2 t
 rw [Addr.add_lit,Nat.zero_add]
 match j with
 | 0=>rw [hrow.cell (by omega)];exact hj
 | 1=>rw [hrow.cell (by omega)];exact hj
 | 2=>rw [hrow.cell (by omega)];exact hj
 | j+3=>simp [c3l] at hj
theorem OwnD.one {w:World} {t:Kd} {c:C3} {F:List Nat} (h:OwnD w t c F):∀ u∈c3l c,u.oneCell'=true:=by
 obtain ⟨h0,-,F1,F2,-,⟨a,cap,h3,-⟩,a2,cap2,h4,-⟩:=h.open
 intro u hu
 simp only [c3l,h0,h3,h4,List.mem_cons,List.not_mem_nil,or_false] at hu
 rcases hu with rfl | rfl | rfl <;> rfl
theorem OwnD.leaf (w:World) (s:Int) (hs:I64 s):OwnD w (.mk s [] []) ⟨.int .i64 s,.slice none 0 0,.slice none 0 0⟩ []:=by
 rw [OwnD]
 exact ⟨rfl,hs,[],[],rfl,⟨none,0,rfl,by simp,Or.inl ⟨rfl,rfl⟩⟩,none,0,rfl,by simp,Or.inl ⟨rfl,rfl⟩⟩
theorem OwnD.single {w:World} {s:Int} {k:Kd} {c:C3} {F:List Nat} {t:TypeId} (hs:I64 s) (h:OwnD w k c F) (hF:∀ b,b∈F→b < w.heap.size):OwnD (w.alloc (.cells #[c.c0,c.c1,c.c2] t)) (.mk s [] [k]) ⟨.int .i64 s,.slice none 0 0,.slice (some ⟨w.heap.size,0,none⟩) 1 1⟩ (w.heap.size::F):=by
 rw [OwnD]
 have q:=row3_alloc w c.c0 c.c1 c.c2 t
 refine ⟨rfl,hs,[],w.heap.size::F,rfl,⟨none,0,rfl,by simp,Or.inl ⟨rfl,rfl⟩⟩,some ⟨w.heap.size,0,none⟩,1,rfl,by simp,Or.inr ⟨w.heap.size,F,rfl,rfl,fun o=>q.frozen o,?_⟩⟩
 rw [OwnDK]
 exact ⟨F,[],c,by simp,⟨q.cell (i:=0) (by omega),q.cell (i:=1) (by omega),q.cell (i:=2) (by omega)⟩,OwnD.carry k c F (fun b hb=>Below.heap_alloc _ _ _ (hF b hb)) h,by rw [OwnDK]⟩
theorem row3_set1 {w:World} {B:Nat} {t:TypeId} {c0 c1 c2:Value} (h:w.rowIs B t 3 (row3 c0 c1 c2)) (v:Value):(w.setCell ⟨B,1,none⟩ v).rowIs B t 3 (row3 c0 v c2) :=
 (h.set 1 v).congr (fun i hi=>by
   match i,hi with
   | 0,_=>rfl
   | 1,_=>rfl
   | 2,_=>rfl)
theorem row3_set2 {w:World} {B:Nat} {t:TypeId} {c0 c1 c2:Value} (h:w.rowIs B t 3 (row3 c0 c1 c2)) (v:Value):(w.setCell ⟨B,2,none⟩ v).rowIs B t 3 (row3 c0 c1 v) :=
 (h.set 2 v).congr (fun i hi=>by
   match i,hi with
   | 0,_=>rfl
   | 1,_=>rfl
   | 2,_=>rfl)
structure DInv (base B:Nat) (wr:World) (s:Int) (vN vK:Value) (ns:List ByteArray) (ks:List Kd) (xs:List Value) (G:List Nat):Prop where
 hB:B < base
 cells:wr.rowIs B 26 3 (row3 (.int .i64 s) vN vK)
 names:wr.ownsRow base 9 1 vN ns.length (ns.map Value.string)
 got:GotD base wr vK ks xs G
 apart:∀ b,vN.ownBlock=some b→vK.ownBlock≠some b∧b∉G
 size:base≤wr.heap.size
theorem DInv.kept {base B:Nat} {w w':World} {s:Int} {vN vK:Value} {ns:List ByteArray} {ks:List Kd} {xs:List Value} {G:List Nat} {row:Option Nat} (h:DInv base B w s vN vK ns ks xs G) (hg:w.grownBy w' row) (hr:∀ b,row=some b→b < base∧b≠B):DInv base B w' s vN vK ns ks xs G :=
 ⟨h.hB,h.cells.of_block (hg.block B h.cells.lt (fun e=>(hr B e.symm).2 rfl)),h.names.kept hg (by
  rcases e:vN.ownBlock with _ | g
  · exact Or.inl rfl
  · exact Or.inr (fun e2=>by have h1:=(h.names.lt g e).1;have:=(hr g e2.symm).1;omega)),
  h.got.other hg (fun b e=>⟨fun e2=>by have h1:=(h.got.row.lt b e2).1;have:=(hr b e).1;omega,fun hm=>by have h1:=(h.got.lt b hm).1;have:=(hr b e).1;omega⟩),h.apart,Nat.le_trans h.size hg.size⟩
theorem DInv.name {base B:Nat} {w w':World} {s:Int} {vN vK v':Value} {ns:List ByteArray} {ks:List Kd} {xs:List Value} {G:List Nat} {nm:ByteArray} (h:DInv base B w s vN vK ns ks xs G)
 (hown:w'.ownsRow base 9 1 v' (ns.length+1) (ns.map Value.string++[.string nm])) (hg:w.grownBy w' vN.ownBlock) (hv:v'.ownBlock=vN.ownBlock∨∃ g,v'.ownBlock=some g∧w.heap.size≤g) :
 DInv base B (w'.setCell ⟨B,1,none⟩ v') s v' vK (ns++[nm]) ks xs G:=by
 have hBn:vN.ownBlock≠some B:=fun e=>by have:=(h.names.lt B e).1;have:=h.hB;omega
 have hBk:vK.ownBlock≠some B:=fun e=>by have:=(h.got.row.lt B e).1;have:=h.hB;omega
 have hset:w'.grownBy (w'.setCell ⟨B,1,none⟩ v') (some B):=⟨rfl,rfl,rfl,by simp [World.setCell],fun k _ hk=>Below.heap_setCell _ _ _ _ (fun e=>hk (by rw [e]))⟩
 have hBv:v'.ownBlock≠some B:=fun e=>by have:=(hown.lt B e).1;have:=h.hB;omega
 have hgot1:=h.got.other hg (fun b e=>h.apart b e)
 refine ⟨h.hB,row3_set1 (h.cells.of_block (hg.block B h.cells.lt (fun e=>hBn e.symm))) v',?_,hgot1.other hset (fun b e=>by cases e;exact ⟨hBk,fun hm=>by have:=(h.got.lt _ hm).1;have:=h.hB;omega⟩),fun b hb=>?_,by have:=hg.size;have:=h.size;simp [World.setCell];omega⟩
 · have:=hown.kept hset (Or.inr (fun e=>hBv e))
   simpa using this
 · rcases hv with e | ⟨g,e,hge⟩
   · exact h.apart b (by rw [← e];exact hb)
   · rw [e] at hb
     simp only [Option.some.injEq] at hb
     subst hb
     exact ⟨fun e2=>by have:=(h.got.row.lt g e2).2;omega,fun hm=>by have:=(h.got.lt g hm).2.1;omega⟩
theorem DInv.kid {base B m:Nat} {w w':World} {s:Int} {vN vK v':Value} {ns:List ByteArray} {ks:List Kd} {xs:List Value} {G F:List Nat} {t:Kd} {c:C3} (h:DInv base B w s vN vK ns ks xs G)
 (ht:OwnD w t c F) (hnd:F.Nodup) (hF:∀ b,b∈F→m≤b∧b < w.heap.size) (hGm:∀ b,b∈G→b < m) (hvm:∀ b,vK.ownBlock=some b→b < m) (hnm:∀ b,vN.ownBlock=some b→b < m) (hbm:base≤m)
 (hown:w'.ownsRow base 26 3 v' (ks.length+1) (xs++c3l c)) (hg:w.grownBy w' vK.ownBlock) (hv:v'.ownBlock=vK.ownBlock∨∃ g,v'.ownBlock=some g∧w.heap.size≤g) :
 DInv base B (w'.setCell ⟨B,2,none⟩ v') s vN v' ns (ks++[t]) (xs++c3l c) (G++F):=by
 have hBn:vN.ownBlock≠some B:=fun e=>by have:=(h.names.lt B e).1;have:=h.hB;omega
 have hBk:vK.ownBlock≠some B:=fun e=>by have:=(h.got.row.lt B e).1;have:=h.hB;omega
 have hset:w'.grownBy (w'.setCell ⟨B,2,none⟩ v') (some B):=⟨rfl,rfl,rfl,by simp [World.setCell],fun k _ hk=>Below.heap_setCell _ _ _ _ (fun e=>hk (by rw [e]))⟩
 have hBv:v'.ownBlock≠some B:=fun e=>by have:=(hown.lt B e).1;have:=h.hB;omega
 have hpush:=GotD.push h.got ht hnd hF hGm hvm hbm hown hg hv
 refine ⟨h.hB,row3_set2 (h.cells.of_block (hg.block B h.cells.lt (fun e=>hBk e.symm))) v',?_,hpush.other hset (fun b e=>by cases e;exact ⟨hBv,fun hm=>by have:=(hpush.lt _ hm).1;have:=h.hB;omega⟩),fun b hb=>?_,by have:=hg.size;have:=h.size;simp [World.setCell];omega⟩
 · refine (h.names.kept hg ?_).kept hset (Or.inr (fun e=>hBn e))
   rcases e:vN.ownBlock with _ | g
   · exact Or.inl rfl
   · exact Or.inr (fun e2=>(h.apart g e).1 e2.symm)
 · have ha:=h.apart b hb
   have hbw:=(h.names.lt b hb).2
   refine ⟨?_,fun hm=>?_⟩
   · rcases hv with e | ⟨g,e,hge⟩
     · rw [e];exact ha.1
     · rw [e];intro e2;simp only [Option.some.injEq] at e2;omega
   · rcases List.mem_append.1 hm with hm | hm
     · exact ha.2 hm
     · have:=(hF b hm).1;have:=hnm b hb;omega
theorem DInv.atN {base B:Nat} {w w':World} {s:Int} {vN vK:Value} {ns:List ByteArray} {ks:List Kd} {xs:List Value} {G:List Nat} (h:DInv base B w s vN vK ns ks xs G) {o:Obj} (hg:(w.alloc o).grownBy w' vN.ownBlock):w'.rowIs B 26 3 (row3 (.int .i64 s) vN vK) :=
 (h.cells.alloc o).of_block (hg.block B (h.cells.alloc o).lt (fun e=>by have:=(h.names.lt B e.symm).1;have:=h.hB;omega))
theorem DInv.atK {base B:Nat} {w w':World} {s:Int} {vN vK:Value} {ns:List ByteArray} {ks:List Kd} {xs:List Value} {G:List Nat} (h:DInv base B w s vN vK ns ks xs G) {o:Obj} (hg:(w.alloc o).grownBy w' vK.ownBlock):w'.rowIs B 26 3 (row3 (.int .i64 s) vN vK) :=
 (h.cells.alloc o).of_block (hg.block B (h.cells.alloc o).lt (fun e=>by have:=(h.got.row.lt B e.symm).1;have:=h.hB;omega))
theorem DInv.done {base B:Nat} {w:World} {s:Int} {vN vK:Value} {ns:List ByteArray} {ks:List Kd} {xs:List Value} {G:List Nat} (h:DInv base B w s vN vK ns ks xs G) (hs:I64 s) (hns:∀ x,x∈ns→x.size≤9223372036854775807) :
 ∃ F,OwnD w (.mk s ns ks) ⟨.int .i64 s,vN,vK⟩ F∧F.Nodup∧∀ b,b∈F→base≤b∧b < w.heap.size:=by
 obtain ⟨F2,h2,n2,l2,m2⟩:=h.got.done
 obtain ⟨F1,h1,n1,l1,m1⟩:=strsOwn_of_row h.names hns
 refine ⟨F1++F2,OwnD.make (t:=.mk s ns ks) rfl hs h1 h2,List.nodup_append.2 ⟨n1,n2,fun a ha b hb e=>?_⟩,fun b hb=>?_⟩
 · subst e
   have hap:=h.apart a (m1 a ha)
   rcases m2 a hb with h3 | h3
   · exact hap.1 h3
   · exact hap.2 h3
 · rcases List.mem_append.1 hb with hb | hb
   · exact l1 b hb
   · exact l2 b hb

theorem size_setCell (w:World) (a:Addr) (v:Value):(w.setCell a v).heap.size=w.heap.size:=by simp [World.setCell]
end Go.Proofs.YteefjeddboefcaaGreatDoor
