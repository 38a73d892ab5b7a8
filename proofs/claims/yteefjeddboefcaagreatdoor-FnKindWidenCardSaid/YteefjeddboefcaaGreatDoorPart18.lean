/- A part. -/
import Derived.Test.YteefjeddboefcaaGreatDoorPart17
import Derived.Stop.Asserts
set_option maxRecDepth 100000
set_option maxHeartbeats 4000000
namespace Go.Proofs.YteefjeddboefcaaGreatDoor
open Go Go.RowKit
def FmG (U:List ByteArray) (G:ByteArray→(Nat→Prop)→World→Value→Prop) (P:Nat→Prop) (W:World) (g1 g2:Nat):Prop :=
 ∃ (na:Option Addr) (nc:Nat) (fa:Option Addr) (fc:Nat) (fvs:List Value),P g1∧P g2∧W.cell? ⟨g1,0,none⟩=some (.slice na U.length nc)∧W.cell? ⟨g2,0,none⟩=some (.slice fa U.length fc)∧StrsAt P W (.slice na U.length nc) U∧fvs.length=U.length ∧
   ∀ i,(hi:i < U.length)→(hf:i < fvs.length)→∃ fb,fa=some ⟨fb,0,none⟩∧P fb∧W.cell? ⟨fb,i,none⟩=some fvs[i]∧G U[i] P W fvs[i]∧∃ f b c,fvs[i]=.func f b c
def FmE (U:List ByteArray) (g:ByteArray→Bool) (G:ByteArray→(Nat→Prop)→World→Value→Prop) (w w':World) (e:Ending):Prop :=
 ∃ g1 g2 er,e=.returned (.tuple #[.func (.func 75) #[] #[.pointer (some ⟨g1,0,none⟩),.pointer (some ⟨g2,0,none⟩)],er]) ∧
   ((U.all g=true∧er=.nilIface∧FmG U G (New w w') w' g1 g2)∨(U.all g=false∧∃ (x y:Int) (p:ByteArray),er=.iface 103 (.agg #[.int .i64 x,.int .i64 y,.string p])))
def FoE (c d:C3) (U:List ByteArray) (g:ByteArray→Bool) (G:ByteArray→(Nat→Prop)→World→Value→Prop) (V0 V1:World) (na:Option Addr) (nl nc:Nat) (fa:Option Addr) (fl fc:Nat) (er:Value):Prop :=
 (U.all g=true∧nl=U.length∧fl=U.length∧er=.nilIface∧∃ N fvs,FlS c d U N na nc G V0 V1 fa U.length fc fvs)∨(U.all g=false∧∃ (x y:Int) (p:ByteArray),er=.iface 103 (.agg #[.int .i64 x,.int .i64 y,.string p]))
theorem FdE.fo {c d:C3} {U:List ByteArray} {g:ByteArray→Bool} {G:ByteArray→(Nat→Prop)→World→Value→Prop} {w w':World} {e:Ending} (h:FdE c d U g G w w' e):∃ na nl nc fa fl fc er,e=.returned (.tuple #[.slice na nl nc,.slice fa fl fc,er])∧FoE c d U g G w w' na nl nc fa fl fc er:=by
 rcases h with ⟨h1,na,nc,fa,fc,fvs,N,rfl,h2⟩ | ⟨h1,x,y,p,rfl⟩
 · exact ⟨na,_,nc,fa,_,fc,_,rfl,Or.inl ⟨h1,rfl,rfl,rfl,N,fvs,h2⟩⟩
 · exact ⟨none,0,0,none,0,0,_,rfl,Or.inr ⟨h1,x,y,p,rfl⟩⟩
theorem FlS.fm {c d:C3} {U:List ByteArray} {N:Nat} {na:Option Addr} {nc:Nat} {G:ByteArray→(Nat→Prop)→World→Value→Prop} {V0 V1:World} {fa:Option Addr} {fc:Nat} {fvs:List Value} (hG:∀ nm P Q W W' fv,G nm P W fv→(∀ b,P b→Q b)→(∀ b,P b→W'.heap[b]? = W.heap[b]?)→G nm Q W' fv) (h:FlS c d U N na nc G V0 V1 fa U.length fc fvs)
 {w W:World} {g1 g2:Nat} (hV:w.heap.size≤V0.heap.size) (hck:CK V0 V1 W) (h1:W.cell? ⟨g1,0,none⟩=some (.slice na U.length nc)) (h2:W.cell? ⟨g2,0,none⟩=some (.slice fa U.length fc)) (hg1:w.heap.size≤g1) (hg2:w.heap.size≤g2):FmG U G (New w W) W g1 g2:=by
 have hn0:=h.n0
 have hn1:=h.n1
 have hsz:=hck.size
 refine ⟨na,nc,fa,fc,fvs,⟨hg1,World.block_lt_of_cell? W _ h1⟩,⟨hg2,World.block_lt_of_cell? W _ h2⟩,h1,h2,h.st.carry (fun b hb=>hck.block b (by have:=hb.1;omega) (by have:=hb.2;omega)) (fun b hb=>⟨by have:=hb.1;omega,by have:=hb.2;omega⟩),h.len,fun i hi hf=>?_⟩
 obtain ⟨fb,rfl⟩:∃ fb,fa=some ⟨fb,0,none⟩:=by
  rcases h.own.2 with ⟨-,h0⟩ | ⟨fb,_,_,hv,_⟩
  · omega
  · simp only [Value.slice.injEq] at hv
    exact ⟨fb,hv.1⟩
 have hfb:=h.own.lt fb rfl
 have hcl:=h.own.cells (g:=fb) rfl i fvs[i] (by simp [hf])
 rw [Addr.add_lit,Nat.zero_add] at hcl
 obtain ⟨hg,hfn⟩:=h.gs i hf hi
 refine ⟨fb,rfl,⟨by omega,by omega⟩,?_,hG _ _ _ _ _ _ hg (fun b hb=>⟨by have:=hb.1;omega,by have:=hb.2.1;omega⟩) (fun b hb=>hck.block b (by have:=hb.1;omega) hb.2.1),hfn⟩
 rw [World.cell?_of_block (w:=V1) (hck.block fb (by omega) hfb.2)]
 exact hcl
theorem ofForm_walk (A B:Kd) (T:Nat) (a1 a2 b1 b2:Option Addr) (p1 p2 q1 q2:Nat) (path:ByteArray) (w:World) (g:ByteArray→Bool) (G:ByteArray→(Nat→Prop)→World→Value→Prop)
 (hG:∀ nm P Q W W' fv,G nm P W fv→(∀ b,P b→Q b)→(∀ b,P b→W'.heap[b]? = W.heap[b]?)→G nm Q W' fv)
 (hA:KW w A ⟨.int .i64 A.sort,.slice a1 A.names.length p1,.slice a2 A.kids.length p2⟩) (hB:KW w B ⟨.int .i64 B.sort,.slice b1 B.names.length q1,.slice b2 B.kids.length q2⟩) (hsA:A.sort=5) (hsB:B.sort=5) (hlA:A.names.length≤1000) (hlB:B.names.length≤1000) (hps:path.size≤1000000) (hnz:∀ nm,nm∈uniN A.names B.names→nm.size≤1000)
 (hcall:∀ nm,nm∈uniN A.names B.names→∀ W (x y:C3),Below w.heap.size w W→KZ W (kidZ A nm) x→KZ W (kidZ B nm) y→Calls Tryz.prog 53 #[.pointer (some ⟨T,0,none⟩),.agg #[x.c0,x.c1,x.c2],.agg #[y.c0,y.c1,y.c2],.string (path++⟨#[123]⟩++nm++⟨#[58]⟩)] W fun e w'=>Below W.heap.size W w'∧∃ fv er,e=.returned (.tuple #[fv,er])∧PR (g nm) (G nm) (New W w') w' fv er) :
 Calls Tryz.prog 51 #[.pointer (some ⟨T,0,none⟩),.agg #[.int .i64 A.sort,.slice a1 A.names.length p1,.slice a2 A.kids.length p2],.agg #[.int .i64 B.sort,.slice b1 B.names.length q1,.slice b2 B.kids.length q2],.string path] w fun e w'=>Below w.heap.size w w'∧FmE (uniN A.names B.names) g G w w' e:=by
 obtain ⟨hrx,hry,hbw⟩:=pr_boxes w A.sort B.sort a1 a2 b1 b2 A.names.length A.kids.length p1 p2 B.names.length B.kids.length q1 q2
 have hK:∀ W,Below w.heap.size w W→Calls Tryz.prog 74 #[.pointer (some ⟨T,0,none⟩),.agg #[.int .i64 A.sort,.slice a1 A.names.length p1,.slice a2 A.kids.length p2],.agg #[.int .i64 B.sort,.slice b1 B.names.length q1,.slice b2 B.kids.length q2],.string path] W fun e w'=>Below W.heap.size W w'∧∃ na nl nc fa fl fc er,e=.returned (.tuple #[.slice na nl nc,.slice fa fl fc,er])∧FoE ⟨.int .i64 A.sort,.slice a1 A.names.length p1,.slice a2 A.kids.length p2⟩ ⟨.int .i64 B.sort,.slice b1 B.names.length q1,.slice b2 B.kids.length q2⟩ (uniN A.names B.names) g G W w' na nl nc fa fl fc er:=fun W hW =>
  (ofFields_walk A B T a1 a2 b1 b2 p1 p2 q1 q2 path W g G hG (hA.on hW) (hB.on hW) hsA hsB hlA hlB hps hnz (fun nm hm V x y hV hx hy=>hcall nm hm V x y (hW.trans (hV.mono hW.size)) hx hy)).mono fun e w' ⟨h1,h2⟩=>⟨h1,h2.fo⟩
 generalize uniN A.names B.names=U at *
 have HK:=xH hK;have HRX:=xH hrx;have HRY:=xH hry;have HBW:=xH hbw;have HG:=xH hG
 clear hK hrx hry hbw hcall hnz hA hB hsA hsB hlA hlB hps hG
 go_enter Tryz.func51,Tryz.ntmps51
 go_upto_region 1 with fail
 generalize ((w.alloc (.cells #[.int .i64 A.sort,.slice a1 A.names.length p1,.slice a2 A.kids.length p2] 26)).alloc (.cells #[.int .i64 B.sort,.slice b1 B.names.length q1,.slice b2 B.kids.length q2] 26))=W0 at HRX HRY HBW ⊢
 refine wp_swap (c':=Code.region 1 fmOps true) (by kernel_rfl) ?_
 refine wp_region_noPanic ?_
 refine fm1 w.heap.size (w.heap.size+1) T _ _ _ _ _ _ path _ W0 _ (fun c a d v w h=>h) ((xU HRX).drew) ((xU HRY).drew) (fun W hW=>xU HK W ((xU HBW).drew.trans (hW.mono (xU HBW).size))) (by kernel_rfl) ?_
 intro u V0 V1 W na fa nl nc fl fc er g1 g2 hV hE hW hck h1 h2 hg1 hg2 hne
 refine NoPanic.normal ?_
 have hsz:=(xU HBW).size
 have HE:Hid (Below w.heap.size w W∧((U.all g=true∧er=.nilIface∧FmG U G (New w W) W g1 g2)∨(U.all g=false∧∃ (x y:Int) (p:ByteArray),er=.iface 103 (.agg #[.int .i64 x,.int .i64 y,.string p])))):=by
  refine ⟨(xU HBW).drew.trans (hW.mono hsz),?_⟩
  rcases hE with ⟨e1,rfl,rfl,e2,N,fvs,hf⟩ | hE
  · exact Or.inl ⟨e1,e2,hf.fm (xU HG) (Nat.le_trans hsz hV.size) hck (h1.cell (i:=0) (by omega)) (h2.cell (i:=0) (by omega)) (Nat.le_trans hsz hg1) (Nat.le_trans hsz hg2)⟩
  · exact Or.inr hE
 clear hV hE hW hck h1 h2 hg1 hg2 hne hsz HK HRX HRY HBW HG
 have hfr:frL u 26 [(10,.pointer (some ⟨g1,0,none⟩)),(11,.pointer (some ⟨g2,0,none⟩)),(12,er)]=(List.range 10).map (fun i=>u i)++(.pointer (some ⟨g1,0,none⟩)::.pointer (some ⟨g2,0,none⟩)::er::(List.range 13).map (fun i=>u (i+13))):=by kernel_rfl
 rw [hfr]
 simp only [List.range,List.range.loop,List.map_cons,List.map_nil,List.cons_append,List.nil_append]
 go_wp2_with fail
 go_ret2
 exact ⟨(xU HE).1,g1,g2,er,rfl,(xU HE).2⟩
end Go.Proofs.YteefjeddboefcaaGreatDoor

namespace Go.Proofs.YteefjeddboefcaaGreatDoor
open Go Go.RowKit
structure GLaws (GW:Kd→Kd→(Nat→Prop)→World→Value→Prop):Prop where
 on:∀ a b P Q W W' fv,GW a b P W fv→(∀ x,P x→Q x)→(∀ x,P x→W'.heap[x]? = W.heap[x]?)→GW a b Q W' fv
 zero:∀ a b P W,a.sort=0→b.sort=6→GW a b P W (.func (.func 69) #[] #[])
 leaf:∀ a b P W,a.sort=b.sort→(a.sort=1∨a.sort=2∨a.sort=3)→GW a b P W (.func (.func 70) #[] #[])
 each:∀ a b P W B fv,((a.sort=4∧b.sort=4)∨(a.sort=6∧b.sort=6))→(ha:0 < a.kids.length)→(hb:0 < b.kids.length)→okD a=true→okD b=true→P B→W.cell? ⟨B,0,none⟩=some fv→(∃ f b c,fv=.func f b c)→GW a.kids[0] b.kids[0] P W fv→GW a b P W (.func (.func 93) #[] #[.pointer (some ⟨B,0,none⟩)])
 into:∀ a b P W B fv,b.sort=6→a.sort≠6→a.sort≠0→(hb:0 < b.kids.length)→okD a=true→okD b=true→P B→W.cell? ⟨B,0,none⟩=some fv→(∃ f b c,fv=.func f b c)→GW a b.kids[0] P W fv→GW a b P W (.func (.func 72) #[] #[.pointer (some ⟨B,0,none⟩)])
 form:∀ a b P W g1 g2,a.sort=5→b.sort=5→a.names.length≤1000→b.names.length≤1000→okD a=true→okD b=true→FmG (uniN a.names b.names) (fun nm=>GW (kidZ a nm) (kidZ b nm)) P W g1 g2→GW a b P W (.func (.func 75) #[] #[.pointer (some ⟨g1,0,none⟩),.pointer (some ⟨g2,0,none⟩)])
def PFR (GW:Kd→Kd→(Nat→Prop)→World→Value→Prop) (n:Nat) (a b:Kd) (T:Nat) (P:Nat→Prop) (W:World) (fv er:Value):Prop :=
 PR (pF n a b) (GW a b) P W fv er∧(ent T a.sort.toNat b.sort.toNat=.nilFunc→fv=.nilFunc)∧(ent T a.sort.toNat b.sort.toNat≠.nilFunc→∃ f b c,fv=.func f b c)
theorem PFR.on {GW:Kd→Kd→(Nat→Prop)→World→Value→Prop} (HG:GLaws GW) {n:Nat} {a b:Kd} {T:Nat} (P Q:Nat→Prop) (W W':World) (fv er:Value) (h:PFR GW n a b T P W fv er) (h1:∀ x,P x→Q x) (h2:∀ x,P x→W'.heap[x]? = W.heap[x]?):PFR GW n a b T Q W' fv er :=
 ⟨PR.on (HG.on a b) P Q W W' fv er h.1 h1 h2,h.2⟩
def PairSaid (GW:Kd→Kd→(Nat→Prop)→World→Value→Prop) (n:Nat):Prop:=∀ (a b:Kd),(b.sort≠0→ksz b≤n)→ksz a≤40→ksz b≤40→∀ (c d:C3) (w:World) (T:Nat) (path:ByteArray),WT w T→KZ w a c→KZ w b d→path.size+n * 100≤900000 →
    Calls Tryz.prog 53 #[.pointer (some ⟨T,0,none⟩),.agg #[c.c0,c.c1,c.c2],.agg #[d.c0,d.c1,d.c2],.string path] w fun e w'=>Below w.heap.size w w'∧∃ fv er,e=.returned (.tuple #[fv,er])∧PFR GW n a b T (New w w') w' fv er
theorem KZ.sort {w:World} {k:Kd} {c:C3} (h:KZ w k c):∃ s:Nat,k.sort=(s:Int)∧s≤6∧(s=0↔k=kd0)∧(s≠0→KW w k c):=by
 rcases h with h | ⟨rfl,rfl⟩
 · refine ⟨k.sort.toNat,?_,?_,⟨fun h0=>?_,fun h0=>?_⟩,fun _=>h⟩
   · rcases h.sh with h | h | h <;> omega
   · rcases h.sh with h | h | h <;> omega
   · rcases h.sh with h | h | h <;> omega
   · have hs:k.sort=0:=by rw [h0];rfl
     rcases h.sh with h | h | h <;> omega
 · exact ⟨0,rfl,by omega,⟨fun _=>rfl,fun _=>rfl⟩,fun h=>absurd rfl h⟩
theorem ent_nil (T sa sb:Nat) (ha:sa≤6) (hb:sb≤6) (h:¬ (sb=6∨(sa=sb∧sa≠0))):ent T sa sb=.nilFunc:=by
 rcases (show sa=0∨sa=1∨sa=2∨sa=3∨sa=4∨sa=5∨sa=6 by omega) with rfl | rfl | rfl | rfl | rfl | rfl | rfl <;>
  rcases (show sb=0∨sb=1∨sb=2∨sb=3∨sb=4∨sb=5 by omega) with rfl | rfl | rfl | rfl | rfl | rfl <;> first | rfl | omega
theorem ent_some (T sa sb f:Nat) (h:ent T sa sb=wv T f):ent T sa sb≠.nilFunc:=by rw [h];intro e;cases e
theorem enNone (args:Array Value) (w:World):(callFunc 47 args).run Tryz.prog w=.ok (.enter 47 args) w:=enters_of Tryz.func47 (by kernel_rfl) rfl args w
theorem enLeaf (args:Array Value) (w:World):(callFunc 48 args).run Tryz.prog w=.ok (.enter 48 args) w:=enters_of Tryz.func48 (by kernel_rfl) rfl args w
theorem enList (args:Array Value) (w:World):(callFunc 50 args).run Tryz.prog w=.ok (.enter 50 args) w:=enters_of Tryz.func50 (by kernel_rfl) rfl args w
theorem enMaybe (args:Array Value) (w:World):(callFunc 52 args).run Tryz.prog w=.ok (.enter 52 args) w:=enters_of Tryz.func52 (by kernel_rfl) rfl args w
theorem enInto (args:Array Value) (w:World):(callFunc 49 args).run Tryz.prog w=.ok (.enter 49 args) w:=enters_of Tryz.func49 (by kernel_rfl) rfl args w
theorem enForm (args:Array Value) (w:World):(callFunc 51 args).run Tryz.prog w=.ok (.enter 51 args) w:=enters_of Tryz.func51 (by kernel_rfl) rfl args w
theorem rise_szU {ns:List ByteArray} (h:riseB ns=true) {nm:ByteArray} (hm:nm∈ns):nm.size≤8:=by
 obtain ⟨i,hi,rfl⟩:=List.mem_iff_getElem.1 hm
 unfold riseB at h
 rw [List.all_eq_true] at h
 have hg:=h i (List.mem_range.2 hi)
 unfold good at hg
 rw [Bool.and_eq_true,getD_lt _ _ hi] at hg
 have:=hg.1
 unfold nameOkB at this
 simp only [Bool.and_eq_true,decide_eq_true_eq] at this
 exact this.1.1.2
theorem InBox.pfr {GW:Kd→Kd→(Nat→Prop)→World→Value→Prop} {n m:Nat} {a b ka kb:Kd} {T f:Nat} {w w':World} {e:Ending} (hp:pF m a b=pF n ka kb) (hent:ent T a.sort.toNat b.sort.toNat≠.nilFunc)
 (hG:∀ B fv,New w w' B→w'.cell? ⟨B,0,none⟩=some fv→(∃ f b c,fv=.func f b c)→GW ka kb (New w w') w' fv→GW a b (New w w') w' (.func (.func f) #[] #[.pointer (some ⟨B,0,none⟩)]))
 (h:InBox f (PFR GW n ka kb T) w w' e):∃ fv er,e=.returned (.tuple #[fv,er])∧PFR GW m a b T (New w w') w' fv er:=by
 obtain ⟨fv,er,B,rfl,⟨hpr,-⟩,hc,h1,h2⟩:=h
 refine ⟨_,_,rfl,?_,fun h=>absurd h hent,fun _=>⟨_,_,_,rfl⟩⟩
 rcases hpr with ⟨hg,he,hf,hgw⟩ | ⟨hg,-,he⟩
 · exact Or.inl ⟨hp.trans hg,he,⟨_,_,_,rfl⟩,hG B fv ⟨h1,h2⟩ hc hf hgw⟩
 · exact Or.inr ⟨hp.trans hg,Or.inr ⟨_,_,_,rfl⟩,he⟩
theorem pF_fit {n:Nat} {a b:Kd} (ha:a.sort≠0) (hb:b.sort≠0):pF n a b=fitF n a b:=by unfold pF;rw [if_neg ha,if_neg hb]
theorem pair_no {GW:Kd→Kd→(Nat→Prop)→World→Value→Prop} (n:Nat) (a b:Kd) (sa sb:Nat) (hsa:a.sort=(sa:Int)) (hsb:b.sort=(sb:Int)) (ha6:sa≤6) (hb6:sb≤6) (hno:¬ (sb=6∨(sa=sb∧sa≠0))) (hp:pF n a b=false) (a1 a2 b1 b2:Option Addr) (p1 p2 q1 q2:Nat) (w:World) (T:Nat) (path:ByteArray) (hT:WT w T) :
 Calls Tryz.prog 53 #[.pointer (some ⟨T,0,none⟩),.agg #[.int .i64 a.sort,.slice a1 a.names.length p1,.slice a2 a.kids.length p2],.agg #[.int .i64 b.sort,.slice b1 b.names.length q1,.slice b2 b.kids.length q2],.string path] w fun e w'=>Below w.heap.size w w'∧∃ fv er,e=.returned (.tuple #[fv,er])∧PFR GW n a b T (New w w') w' fv er:=by
 rw [hsa,hsb]
 refine (ofPair_no T sa sb ha6 hb6 (ent_nil T sa sb ha6 hb6 hno) a1 a2 b1 b2 _ _ p1 p2 _ _ q1 q2 path w hT).mono fun e w' ⟨h1,h2⟩=>⟨h1,_,_,h2,Or.inr ⟨hp,Or.inl rfl,_,_,_,rfl⟩,fun _=>rfl,fun h=>absurd ?_ h⟩
 rw [hsa,hsb]
 exact ent_nil T sa sb ha6 hb6 hno
theorem pair_do {GW:Kd→Kd→(Nat→Prop)→World→Value→Prop} (HG:GLaws GW) (n:Nat) (a b:Kd) (sa sb f:Nat) (hsa:a.sort=(sa:Int)) (hsb:b.sort=(sb:Int)) (ha6:sa≤6) (hb6:sb≤6) (T:Nat) (hent:ent T sa sb=wv T f) (hcall:∀ args w,(callFunc f args).run Tryz.prog w=.ok (.enter f args) w) (a1 a2 b1 b2:Option Addr) (p1 p2 q1 q2:Nat) (w:World) (path:ByteArray) (hT:WT w T)
 (hf:∀ W,Below w.heap.size w W→Calls Tryz.prog f #[.pointer (some ⟨T,0,none⟩),.agg #[.int .i64 a.sort,.slice a1 a.names.length p1,.slice a2 a.kids.length p2],.agg #[.int .i64 b.sort,.slice b1 b.names.length q1,.slice b2 b.kids.length q2],.string path] W fun e w'=>Below W.heap.size W w'∧∃ fv er,e=.returned (.tuple #[fv,er])∧PFR GW n a b T (New W w') w' fv er) :
 Calls Tryz.prog 53 #[.pointer (some ⟨T,0,none⟩),.agg #[.int .i64 a.sort,.slice a1 a.names.length p1,.slice a2 a.kids.length p2],.agg #[.int .i64 b.sort,.slice b1 b.names.length q1,.slice b2 b.kids.length q2],.string path] w fun e w'=>Below w.heap.size w w'∧∃ fv er,e=.returned (.tuple #[fv,er])∧PFR GW n a b T (New w w') w' fv er:=by
 rw [hsa,hsb] at hf ⊢
 exact ofPair_do T sa sb f ha6 hb6 hent hcall a1 a2 b1 b2 _ _ p1 p2 _ _ q1 q2 path w hT (PFR GW n a b T) (PFR.on HG) hf
theorem ent_ne {a b:Kd} {sa sb T f:Nat} (hsa:a.sort=(sa:Int)) (hsb:b.sort=(sb:Int)) (h:ent T sa sb=wv T f):ent T a.sort.toNat b.sort.toNat≠.nilFunc:=by
 rw [hsa,hsb]
 exact ent_some T sa sb f h
theorem szP1 {p:ByteArray} {k m:Nat} (c:UInt8) (h:p.size+(m+1) * 100≤k):(p++(⟨#[c]⟩:ByteArray)).size+m * 100≤k:=by
 have z1:(⟨#[c]⟩:ByteArray).size=1:=rfl
 rw [ByteArray.size_append];omega
theorem szP3 {p nm:ByteArray} {k m:Nat} (h:p.size+(m+1) * 100≤k) (h2:nm.size≤8):(p++(⟨#[123]⟩:ByteArray)++nm++(⟨#[58]⟩:ByteArray)).size+m * 100≤k:=by
 have z1:(⟨#[123]⟩:ByteArray).size=1:=rfl
 have z2:(⟨#[58]⟩:ByteArray).size=1:=rfl
 rw [ByteArray.size_append,ByteArray.size_append,ByteArray.size_append];omega
theorem kidZ_sz {k:Kd} (hk:ksz k≤40) (nm:ByteArray):ksz (kidZ k nm)≤40:=by
 unfold kidZ kidN
 split
 · rw [Option.getD_some,List.getD_eq_getElem?_getD]
   cases h:k.kids[plN k.names nm]? with
   | none=>rw [Option.getD_none];decide
   | some x =>
     rw [Option.getD_some]
     have:=ksz_kid (List.mem_of_getElem? h)
     omega
 · decide
theorem kidZ_lt {k:Kd} {n:Nat} (hk:ksz k≤n+1) (nm:ByteArray) (h0:(kidZ k nm).sort≠0):ksz (kidZ k nm)≤n:=by
 unfold kidZ kidN at h0 ⊢
 split at h0
 · next hp =>
   rw [if_pos hp]
   rw [Option.getD_some,List.getD_eq_getElem?_getD] at h0 ⊢
   cases h:k.kids[plN k.names nm]? with
   | none=>rw [h,Option.getD_none] at h0;exact absurd rfl h0
   | some x =>
     rw [Option.getD_some]
     have:=ksz_kid (List.mem_of_getElem? h)
     omega
 · exact absurd rfl h0
section
variable {GW:Kd→Kd→(Nat→Prop)→World→Value→Prop} (HG:GLaws GW) (n:Nat) (IH:PairSaid GW n) (a b:Kd) (hna:ksz a≤40) (hnb:ksz b≤40) (hn:ksz b≤n+1) (a1 a2 b1 b2:Option Addr) (p1 p2 q1 q2:Nat) (w:World) (T:Nat) (path:ByteArray) (hT:WT w T) (hps:path.size+(n+1) * 100≤900000)
 (ha:KW w a ⟨.int .i64 a.sort,.slice a1 a.names.length p1,.slice a2 a.kids.length p2⟩) (hb:KW w b ⟨.int .i64 b.sort,.slice b1 b.names.length q1,.slice b2 b.kids.length q2⟩)
include HG IH hna hnb hn hT hps ha hb
theorem pair_each (sf:Nat) (h:(sf=50∧a.sort=4∧b.sort=4)∨(sf=52∧a.sort=6∧b.sort=6)) :
 Calls Tryz.prog 53 #[.pointer (some ⟨T,0,none⟩),.agg #[.int .i64 a.sort,.slice a1 a.names.length p1,.slice a2 a.kids.length p2],.agg #[.int .i64 b.sort,.slice b1 b.names.length q1,.slice b2 b.kids.length q2],.string path] w fun e w'=>Below w.heap.size w w'∧∃ fv er,e=.returned (.tuple #[fv,er])∧PFR GW (n+1) a b T (New w w') w' fv er:=by
 have hka:a.kids.length=1:=by rcases ha.sh with h' | h' | h' <;> omega
 have hkb:b.kids.length=1:=by rcases hb.sh with h' | h' | h' <;> omega
 obtain ⟨xb,xo,xc,x1,x2,r1,r2,ex,hxl,x0,x3,x4,hx⟩:=ha.kid (i:=0) (by omega)
 obtain ⟨yb,yo,yc,y1,y2,s1,s2,ey,hyl,y0,y3,y4,hy⟩:=hb.kid (i:=0) (by omega)
 simp only [Value.slice.injEq,true_and] at ex ey
 obtain ⟨rfl,rfl⟩:=ex
 obtain ⟨rfl,rfl⟩:=ey
 have hma:a.kids[0]'(by omega)∈a.kids:=List.getElem_mem _
 have hmb:b.kids[0]'(by omega)∈b.kids:=List.getElem_mem _
 have hza:=ksz_kid hma
 have hzb:=ksz_kid hmb
 have hsx:(a.kids[0]'(by omega)).sort≠0:=by rcases hx.sh with h' | h' | h' <;> omega
 have hsy:(b.kids[0]'(by omega)).sort≠0:=by rcases hy.sh with h' | h' | h' <;> omega
 have hp:pF (n+1) a b=pF n (a.kids[0]'(by omega)) (b.kids[0]'(by omega)):=by
  rw [pF_fit hsx hsy,pF_fit (by omega) (by omega)]
  rcases h with h | h
  · exact fit_ll h.2.2 h.2.1 _ _
  · exact fit_mm h.2.2 h.2.1 _ _
 have hps2:path.size≤1000000:=by omega
 have hoka:=ha.ok
 have hokb:=hb.ok
 rcases h with ⟨rfl,h4,h5⟩ | ⟨rfl,h4,h5⟩
 · have hent:ent T 4 4=wv T 50:=rfl
   refine pair_do HG (n+1) a b 4 4 50 h4 h5 (by omega) (by omega) T hent enList _ _ _ _ _ _ _ _ w path hT fun W hW=>?_
   rw [hka,hkb]
   refine (ofList_walk T a.sort b.sort a1 b1 a.names.length p1 p2 b.names.length q1 q2 xb xo yb yo _ _ x1 x2 y1 y2 _ _ r1 r2 _ _ s1 s2 path W (PFR GW n (a.kids[0]'(by omega)) (b.kids[0]'(by omega)) T) (by rw [hW.cell hxl];exact x0) (by rw [hW.cell hxl];exact x3) (by rw [hW.cell hxl];exact x4) (Nat.lt_of_lt_of_le hxl hW.size) (by rw [hW.cell hyl];exact y0) (by rw [hW.cell hyl];exact y3) (by rw [hW.cell hyl];exact y4) (Nat.lt_of_lt_of_le hyl hW.size) hps2 (fun V hV=>?_) (fun P W fv er h=>h.1.fn) (PFR.on HG)).mono fun e w' ⟨h6,h7⟩=>⟨h6,?_⟩
   · have hwV:Below w.heap.size w V:=hW.trans (hV.mono hW.size)
     exact IH _ _ (fun _=>by omega) (by omega) (by omega) ⟨_,_,_⟩ ⟨_,_,_⟩ V T _ (hT.on hwV) (Or.inl (hx.on hwV)) (Or.inl (hy.on hwV)) (szP1 _ hps)
   · exact h7.pfr hp (ent_ne h4 h5 hent) (fun B fv h8 h9 h10 h11=>HG.each a b _ _ B fv (Or.inl ⟨h4,h5⟩) (by omega) (by omega) hoka hokb h8 h9 h10 h11)
 · have hent:ent T 6 6=wv T 52:=rfl
   refine pair_do HG (n+1) a b 6 6 52 h4 h5 (by omega) (by omega) T hent enMaybe _ _ _ _ _ _ _ _ w path hT fun W hW=>?_
   rw [hka,hkb]
   refine (ofMaybe_walk T a.sort b.sort a1 b1 a.names.length p1 p2 b.names.length q1 q2 xb xo yb yo _ _ x1 x2 y1 y2 _ _ r1 r2 _ _ s1 s2 path W (PFR GW n (a.kids[0]'(by omega)) (b.kids[0]'(by omega)) T) (by rw [hW.cell hxl];exact x0) (by rw [hW.cell hxl];exact x3) (by rw [hW.cell hxl];exact x4) (Nat.lt_of_lt_of_le hxl hW.size) (by rw [hW.cell hyl];exact y0) (by rw [hW.cell hyl];exact y3) (by rw [hW.cell hyl];exact y4) (Nat.lt_of_lt_of_le hyl hW.size) hps2 (fun V hV=>?_) (fun P W fv er h=>h.1.fn) (PFR.on HG)).mono fun e w' ⟨h6,h7⟩=>⟨h6,?_⟩
   · have hwV:Below w.heap.size w V:=hW.trans (hV.mono hW.size)
     exact IH _ _ (fun _=>by omega) (by omega) (by omega) ⟨_,_,_⟩ ⟨_,_,_⟩ V T _ (hT.on hwV) (Or.inl (hx.on hwV)) (Or.inl (hy.on hwV)) (szP1 _ hps)
   · exact h7.pfr hp (ent_ne h4 h5 hent) (fun B fv h8 h9 h10 h11=>HG.each a b _ _ B fv (Or.inr ⟨h4,h5⟩) (by omega) (by omega) hoka hokb h8 h9 h10 h11)
end
end Go.Proofs.YteefjeddboefcaaGreatDoor

namespace Go.Proofs.YteefjeddboefcaaGreatDoor
open Go Go.RowKit Go.Extern.Stop Go.Stop Go.Extern
theorem as_nil (t:Value) (w:World) :
 Calls Tryz.prog 54 #[.nilIface,t] w fun e w'=>e=.returned (.bool false)∧w'=w:=by
 go_enter Tryz.func54,Tryz.ntmps54
 go_wp2
 go_ret
 exact ⟨rfl,rfl⟩
theorem mf_valueOfP (t:Addr) (w:World):(ReflectliteValue.unpack (.iface 105 (.pointer (some t)))).run Tryz.prog w
 = .ok (.agg #[.pointer (some ⟨2,105,none⟩),.pointer (some ⟨w.heap.size,0,none⟩),.int .u64 150]) (w.alloc (.cells #[.pointer (some t)] 105)):=by kernel_rfl
theorem mf_typeP (a:Addr) (w:World):(ReflectliteValue.methodAny (ReflectliteValue.valueError "reflectlite.Value.Type" 0) (fun t _ _ _=>ReflectliteType.toType t) #[.agg #[.pointer (some ⟨2,105,none⟩),.pointer (some a),.int .u64 150]]).run Tryz.prog w
 = .ok (.iface 154 (.agg #[.pointer (some ⟨2,105,none⟩)])) w:=by kernel_rfl
theorem mf_methodKind (h:Value) (w:World):(Go.method 349 154 (.agg #[h]) "Kind").run Tryz.prog w=.ok (149,h) w:=by kernel_rfl
theorem mf_kindP (w:World):((ReflectliteType.abiMethod fun t=>(fun a:Nat=>Value.int IntKind.u8 (a:Int)) <$> Rtype.kind t) #[.pointer (some ⟨2,105,none⟩)]).run Tryz.prog w=.ok (.int .u8 22) w:=by kernel_rfl
theorem mf_kindS (w:World):((ReflectliteType.abiMethod fun t=>(fun a:Nat=>Value.int IntKind.u8 (a:Int)) <$> Rtype.kind t) #[.pointer (some ⟨2,103,none⟩)]).run Tryz.prog w=.ok (.int .u8 25) w:=by kernel_rfl
theorem mf_rlm (z:Sem Value) (f:TypeId→Addr→Nat→Nat→Sem Value) (v:Value) :
 ReflectliteValue.method z f #[v]=(do match ← ReflectliteValue.parts v with | none=>z | some (t,a,fl)=>f t a fl (fl % 32)):=rfl
theorem mf_partsP (a:Addr) (w:World):(ReflectliteValue.parts (.agg #[.pointer (some ⟨2,105,none⟩),.pointer (some a),.int .u64 150])).run Tryz.prog w=.ok (some (105,a,150)) w:=by kernel_rfl
theorem mf_isNilP (a p:Addr) (W:World) (ha:W.cell? a=some (.pointer (some p))) :
 (ReflectliteValue.method (ReflectliteValue.valueError "reflectlite.Value.IsNil" 0) ReflectliteValue.isNil #[.agg #[.pointer (some ⟨2,105,none⟩),.pointer (some a),.int .u64 150]]).run Tryz.prog W=.ok (.bool false) W:=by
 rw [mf_rlm]
 simp only [Sem.run_bind,mf_partsP,Result.andThen]
 simp [ReflectliteValue.isNil,loadVar,isAgg,underlying,Tryz.underlying105,ha,Result.andThen]
theorem mf_methodElem (h:Value) (w:World):(Go.method 349 154 (.agg #[h]) "Elem").run Tryz.prog w=.ok (165,.agg #[h]) w:=by kernel_rfl
theorem mf_methodImplements (h:Value) (w:World):(Go.method 349 154 (.agg #[h]) "Implements").run Tryz.prog w=.ok (166,.agg #[h]) w:=by kernel_rfl
theorem mf_methodAssignableTo (h:Value) (w:World):(Go.method 349 154 (.agg #[h]) "AssignableTo").run Tryz.prog w=.ok (163,.agg #[h]) w:=by kernel_rfl
theorem mf_elemP (w:World):(ReflectliteType.method ReflectliteType.elem #[.agg #[.pointer (some ⟨2,105,none⟩)]]).run Tryz.prog w=.ok (.iface 154 (.agg #[.pointer (some ⟨2,103,none⟩)])) w:=by kernel_rfl
theorem mf_implementsS (w:World):(ReflectliteType.relation "Implements" ReflectliteType.implements_ #[.agg #[.pointer (some ⟨2,103,none⟩)],.iface 154 (.agg #[.pointer (some ⟨2,99,none⟩)])]).run Tryz.prog w=.ok (.bool true) w:=by kernel_rfl
theorem mf_typeOfS (v:Value) (w:World):(ReflectliteType.typeOf #[.iface 103 v]).run Tryz.prog w=.ok (.iface 154 (.agg #[.pointer (some ⟨2,103,none⟩)])) w:=by kernel_rfl
theorem mf_assignableS (w:World):(ReflectliteType.relation "AssignableTo" ReflectliteType.assignableTo #[.agg #[.pointer (some ⟨2,103,none⟩)],.iface 154 (.agg #[.pointer (some ⟨2,103,none⟩)])]).run Tryz.prog w=.ok (.bool true) w:=by kernel_rfl
theorem mf_valueOfS (x y:Int) (p:ByteArray) (w:World):(ReflectliteValue.unpack (.iface 103 (.agg #[.int .i64 x,.int .i64 y,.string p]))).run Tryz.prog w
 = .ok (.agg #[.pointer (some ⟨2,103,none⟩),.pointer (some ⟨w.heap.size,0,none⟩),.int .u64 153]) (w.alloc (.cells #[.int .i64 x,.int .i64 y,.string p] 103)):=by kernel_rfl
theorem mf_elemOfP (w:World):(Rtype.elem? 105).run Tryz.prog w=.ok (some 103) w:=by kernel_rfl
theorem mf_mkS (p:Addr) (w:World):(ReflectliteValue.mk 103 p ReflectliteValue.flagAddr).run Tryz.prog w=.ok (.agg #[.pointer (some ⟨2,103,none⟩),.pointer (some p),.int .u64 409]) w:=by kernel_rfl
theorem mf_elemV (a p:Addr) (W:World) (ha:W.cell? a=some (.pointer (some p))) :
 (ReflectliteValue.method (ReflectliteValue.valueError "reflectlite.Value.Elem" 0) ReflectliteValue.elem #[.agg #[.pointer (some ⟨2,105,none⟩),.pointer (some a),.int .u64 150]]).run Tryz.prog W
   = .ok (.agg #[.pointer (some ⟨2,103,none⟩),.pointer (some p),.int .u64 409]) W:=by
 rw [mf_rlm]
 simp only [Sem.run_bind,mf_partsP,Result.andThen]
 simp [ReflectliteValue.elem,loadVar,isAgg,underlying,Tryz.underlying105,ha,Result.andThen,mf_elemOfP,mf_mkS]
theorem mf_partsV (a:Addr) (w:World):(ReflectliteValue.parts (.agg #[.pointer (some ⟨2,103,none⟩),.pointer (some a),.int .u64 409])).run Tryz.prog w=.ok (some (103,a,409)) w:=by kernel_rfl
theorem mf_partsS (a:Addr) (w:World):(ReflectliteValue.parts (.agg #[.pointer (some ⟨2,103,none⟩),.pointer (some a),.int .u64 153])).run Tryz.prog w=.ok (some (103,a,153)) w:=by kernel_rfl
theorem mf_direct (w:World):(Rtype.directlyAssignable 103 103).run Tryz.prog w=.ok true w:=by kernel_rfl
theorem mf_size:(Tryz.prog.info? 103).map (·.size)=some 3:=by kernel_rfl
theorem mf_set (t b:Nat) (x y:Int) (p:ByteArray) (W:World) (hb:W.rangeAt b 0 [.int .i64 x,.int .i64 y,.string p]) (ht:W.there t 0 3) :
 (ReflectliteValue.set #[.agg #[.pointer (some ⟨2,103,none⟩),.pointer (some ⟨t,0,none⟩),.int .u64 409],.agg #[.pointer (some ⟨2,103,none⟩),.pointer (some ⟨b,0,none⟩),.int .u64 153]]).run Tryz.prog W
   = .ok (.tuple #[]) (W.setCells t 0 [.int .i64 x,.int .i64 y,.string p]):=by
 have h1:=run_loadVar_mid (P:=Tryz.prog) W b 0 103 [.int .i64 x,.int .i64 y,.string p] _ hb Tryz.underlying103 rfl mf_size
 have h2:=run_storeVar_mid (P:=Tryz.prog) W t 0 103 #[.int .i64 x,.int .i64 y,.string p] ht mf_size (by rw [← Array.all_toList];rfl)
 delta ReflectliteValue.set
 conv in (ReflectliteValue.set.match_3 _ _ _ _)=>whnf
 change ((ReflectliteValue.parts (.agg #[.pointer (some ⟨2,103,none⟩),.pointer (some ⟨t,0,none⟩),.int .u64 409])) >>= _).run Tryz.prog W=_
 simp only [Sem.run_bind,mf_partsV,Result.andThen,Array.getLit]
 simp only [ReflectliteValue.flagAddr]
 simp [Sem.run_bind,Result.andThen,h1,mf_direct,h2,mf_partsS]
theorem thr_alloc {w:World} {b o n:Nat} (h:w.there b o n) (ob:Obj):(w.alloc ob).there b o n:=World.there_alloc h ob
theorem as_hit (x y:Int) (p:ByteArray) (t:Nat) (w:World) (hg:w.cell? ⟨0,0,none⟩=some (.iface 154 (.agg #[.pointer (some ⟨2,99,none⟩)]))) (ht:w.there t 0 3) :
 Calls Tryz.prog 54 #[.iface 103 (.agg #[.int .i64 x,.int .i64 y,.string p]),.iface 105 (.pointer (some ⟨t,0,none⟩))] w fun e w'=>e=.returned (.bool true)∧But t w w':=by
 have h1:=@run_callFunc_extern Tryz.prog 78 _ (fun args=>ReflectliteValue.unpack (args.getD 0 (.tuple #[]))) Tryz.func78 (by kernel_rfl) (by kernel_rfl) (by kernel_rfl) (by kernel_rfl)
 have h2:=@run_callFunc_extern Tryz.prog 79 _ (ReflectliteValue.methodAny (ReflectliteValue.valueError "reflectlite.Value.Type" 0) (fun t _ _ _=>ReflectliteType.toType t)) Tryz.func79 (by kernel_rfl) (by kernel_rfl) (by kernel_rfl) (by kernel_rfl)
 have h3:=@run_callFunc_extern Tryz.prog 80 _ (ReflectliteValue.method (ReflectliteValue.valueError "reflectlite.Value.IsNil" 0) ReflectliteValue.isNil) Tryz.func80 (by kernel_rfl) (by kernel_rfl) (by kernel_rfl) (by kernel_rfl)
 have h4:=@run_callFunc_extern Tryz.prog 149 _ (ReflectliteType.abiMethod fun t=>do pure (.int .u8 (← Rtype.kind t))) Tryz.func149 (by kernel_rfl) (by kernel_rfl) (by kernel_rfl) (by kernel_rfl)
 have h5:=@run_callFunc_extern Tryz.prog 165 _ (ReflectliteType.method ReflectliteType.elem) Tryz.func165 (by kernel_rfl) (by kernel_rfl) (by kernel_rfl) (by kernel_rfl)
 have h6:=@run_callFunc_extern Tryz.prog 166 _ (ReflectliteType.relation "Implements" ReflectliteType.implements_) Tryz.func166 (by kernel_rfl) (by kernel_rfl) (by kernel_rfl) (by kernel_rfl)
 have h7:=@run_callFunc_extern Tryz.prog 97 _ ReflectliteType.typeOf Tryz.func97 (by kernel_rfl) (by kernel_rfl) (by kernel_rfl) (by kernel_rfl)
 have h8:=@run_callFunc_extern Tryz.prog 163 _ (ReflectliteType.relation "AssignableTo" ReflectliteType.assignableTo) Tryz.func163 (by kernel_rfl) (by kernel_rfl) (by kernel_rfl) (by kernel_rfl)
 have h9:=@run_callFunc_extern Tryz.prog 98 _ (ReflectliteValue.method (ReflectliteValue.valueError "reflectlite.Value.Elem" 0) ReflectliteValue.elem) Tryz.func98 (by kernel_rfl) (by kernel_rfl) (by kernel_rfl) (by kernel_rfl)
 have h10:=@run_callFunc_extern Tryz.prog 99 _ ReflectliteValue.set Tryz.func99 (by kernel_rfl) (by kernel_rfl) (by kernel_rfl) (by kernel_rfl)
 have f1:=mf_valueOfP;have f2:=mf_typeP;have f3:=mf_methodKind;have f4:=mf_kindP;have f5:=mf_kindS;have f6:=mf_methodElem;have f7:=mf_methodImplements;have f8:=mf_methodAssignableTo
 have f9:=mf_elemP;have f10:=mf_implementsS;have f11:=mf_typeOfS;have f12:=mf_assignableS;have f13:=mf_valueOfS
 have hlt:0 < w.heap.size:=by
  rcases Nat.lt_or_ge 0 w.heap.size with h | h
  · exact h
  · simp [World.cell?, Array.getElem?_eq_none h] at hg
 have htl:t < w.heap.size:=by
  rcases Nat.lt_or_ge t w.heap.size with h | h
  · exact h
  · have:=(ht 0 (by omega)).1;simp [World.cell?, Array.getElem?_eq_none h] at this
 have n8:=mf_isNilP ⟨w.heap.size,0,none⟩ ⟨t,0,none⟩ ((w.alloc (.cells #[.pointer (some ⟨t,0,none⟩)] 105)).alloc (.cells #[.pointer (some ⟨2,105,none⟩),.pointer (some ⟨w.heap.size,0,none⟩),.int .u64 150] 134)) (by simp)
 have hg2:((w.alloc (.cells #[.pointer (some ⟨t,0,none⟩)] 105)).alloc (.cells #[.pointer (some ⟨2,105,none⟩),.pointer (some ⟨w.heap.size,0,none⟩),.int .u64 150] 134)).cell? ⟨0,0,none⟩=some (.iface 154 (.agg #[.pointer (some ⟨2,99,none⟩)])):=by
  rw [World.cell?_alloc_lt _ _ ⟨0,0,none⟩ (by simp <;> omega),World.cell?_alloc_lt _ _ ⟨0,0,none⟩ hlt];exact hg
 have el:=mf_elemV ⟨w.heap.size,0,none⟩ ⟨t,0,none⟩ (((w.alloc (.cells #[.pointer (some ⟨t,0,none⟩)] 105)).alloc (.cells #[.pointer (some ⟨2,105,none⟩),.pointer (some ⟨w.heap.size,0,none⟩),.int .u64 150] 134)).alloc (.cells #[.pointer (some ⟨2,105,none⟩),.pointer (some ⟨w.heap.size,0,none⟩),.int .u64 150] 134)) (by rw [World.cell?_alloc_lt _ _ ⟨w.heap.size,0,none⟩ (by simp;omega)];simp)
 have st:=mf_set t (w.heap.size+1+1+1) x y p ((((w.alloc (.cells #[.pointer (some ⟨t,0,none⟩)] 105)).alloc (.cells #[.pointer (some ⟨2,105,none⟩),.pointer (some ⟨w.heap.size,0,none⟩),.int .u64 150] 134)).alloc (.cells #[.pointer (some ⟨2,105,none⟩),.pointer (some ⟨w.heap.size,0,none⟩),.int .u64 150] 134)).alloc (.cells #[.int .i64 x,.int .i64 y,.string p] 103))
  (fun j v hv=>by
    match j,hv with
    | 0,hv=>rw [World.cell?_alloc_at _ _ _ _ (by simp)];exact hv
    | 1,hv=>rw [World.cell?_alloc_at _ _ _ _ (by simp)];exact hv
    | 2,hv=>rw [World.cell?_alloc_at _ _ _ _ (by simp)];exact hv)
  (thr_alloc (thr_alloc (thr_alloc (thr_alloc ht _) _) _) _)
 clear ht hlt hg
 have HTL:=xH htl
 clear htl
 go_enter Tryz.func54,Tryz.ntmps54
 go_wp2
 refine wp_loop_rounds 1 ?_
 rw [rounds_succ]
 go_wp2
 go_ret
 refine ⟨rfl,?_⟩
 refine But.trans (b:=(((w.alloc (.cells #[.pointer (some ⟨t,0,none⟩)] 105)).alloc (.cells #[.pointer (some ⟨2,105,none⟩),.pointer (some ⟨w.heap.size,0,none⟩),.int .u64 150] 134)).alloc (.cells #[.pointer (some ⟨2,105,none⟩),.pointer (some ⟨w.heap.size,0,none⟩),.int .u64 150] 134)).alloc (.cells #[.int .i64 x,.int .i64 y,.string p] 103)) ?_ ?_
 · exact (((But.alloc _ _ _).trans (But.alloc _ _ _)).trans (But.alloc _ _ _)).trans (But.alloc _ _ _)
 · exact ((But.set _ _ _).trans (But.set _ _ _)).trans (But.set _ _ _)
end Go.Proofs.YteefjeddboefcaaGreatDoor

namespace Go.Proofs.YteefjeddboefcaaGreatDoor
open Go Go.RowKit
theorem ksz_lenU (k:Kd):k.kids.length < ksz k:=by
 have:∀ l:List Kd,l.length≤klsz l:=fun l=>by
  induction l with
  | nil=>simp
  | cons a r ih =>
    obtain ⟨s,ns,ks⟩:=a
    rw [klsz,ksz,List.length_cons]
    omega
 obtain ⟨s,ns,ks⟩:=k
 have:=this ks
 rw [ksz]
 show ks.length < _
 omega
theorem fit_leaf {n:Nat} {a b:Kd} (hb:b.sort≠6) (h:a.sort=b.sort) (h4:a.sort≠4) (hna:a.names.length=0) (hnb:b.names.length=0):fitF (n+1) a b=true:=by
 rw [fit_eq hb h h4,hna,hnb]
 rfl
section
variable {GW:Kd→Kd→(Nat→Prop)→World→Value→Prop} (HG:GLaws GW) (n:Nat) (IH:PairSaid GW n) (a b:Kd) (hna:ksz a≤40) (hnb:ksz b≤40) (hn:ksz b≤n+1) (a1 a2 b1 b2:Option Addr) (p1 p2 q1 q2:Nat) (w:World) (T:Nat) (path:ByteArray) (hT:WT w T) (hps:path.size+(n+1) * 100≤900000)
 (ha:KW w a ⟨.int .i64 a.sort,.slice a1 a.names.length p1,.slice a2 a.kids.length p2⟩) (hb:KW w b ⟨.int .i64 b.sort,.slice b1 b.names.length q1,.slice b2 b.kids.length q2⟩)
include HG IH hna hnb hn hT hps ha hb
theorem pair_into (sa:Nat) (hsa:a.sort=(sa:Int)) (h0:sa≠0) (h6:sa≤5) (h5:b.sort=6) :
 Calls Tryz.prog 53 #[.pointer (some ⟨T,0,none⟩),.agg #[.int .i64 a.sort,.slice a1 a.names.length p1,.slice a2 a.kids.length p2],.agg #[.int .i64 b.sort,.slice b1 b.names.length q1,.slice b2 b.kids.length q2],.string path] w fun e w'=>Below w.heap.size w w'∧∃ fv er,e=.returned (.tuple #[fv,er])∧PFR GW (n+1) a b T (New w w') w' fv er:=by
 have hkb:b.kids.length=1:=by rcases hb.sh with h' | h' | h' <;> omega
 obtain ⟨yb,yo,yc,y1,y2,s1,s2,ey,hyl,y0,y3,y4,hy⟩:=hb.kid (i:=0) (by omega)
 simp only [Value.slice.injEq,true_and] at ey
 obtain ⟨rfl,rfl⟩:=ey
 have hmb:b.kids[0]'(by omega)∈b.kids:=List.getElem_mem _
 have hzb:=ksz_kid hmb
 have hsy:(b.kids[0]'(by omega)).sort≠0:=by rcases hy.sh with h' | h' | h' <;> omega
 have hp:pF (n+1) a b=pF n a (b.kids[0]'(by omega)):=by
  rw [pF_fit (by omega) hsy,pF_fit (by omega) (by omega)]
  exact fit_xm h5 (by omega) _
 have hps2:path.size≤1000000:=by omega
 have hoka:=ha.ok
 have hokb:=hb.ok
 have hent:ent T sa 6=wv T 49:=by
  rcases (show sa=1∨sa=2∨sa=3∨sa=4∨sa=5 by omega) with rfl | rfl | rfl | rfl | rfl <;> rfl
 refine pair_do HG (n+1) a b sa 6 49 hsa h5 (by omega) (by omega) T hent enInto _ _ _ _ _ _ _ _ w path hT fun W hW=>?_
 rw [hkb]
 have hIH:∀ V,Below W.heap.size W V→Calls Tryz.prog 53 #[.pointer (some ⟨T,0,none⟩),.agg #[.int .i64 a.sort,.slice a1 a.names.length p1,.slice a2 a.kids.length p2],.agg #[.int .i64 (b.kids[0]'(by omega)).sort,.slice y1 (b.kids[0]'(by omega)).names.length s1,.slice y2 (b.kids[0]'(by omega)).kids.length s2],.string (path++⟨#[63]⟩)] V fun e w'=>Below V.heap.size V w'∧∃ fv er,e=.returned (.tuple #[fv,er])∧PFR GW n a (b.kids[0]'(by omega)) T (New V w') w' fv er:=fun V hV=>by
  have hwV:Below w.heap.size w V:=hW.trans (hV.mono hW.size)
  exact IH _ _ (fun _=>by omega) (by omega) (by omega) ⟨_,_,_⟩ ⟨_,_,_⟩ V T _ (hT.on hwV) (Or.inl (ha.on hwV)) (Or.inl (hy.on hwV)) (szP1 _ hps)
 have hbox:∀ e w',InBox 72 (PFR GW n a (b.kids[0]'(by omega)) T) W w' e→∃ fv er,e=.returned (.tuple #[fv,er])∧PFR GW (n+1) a b T (New W w') w' fv er:=fun e w' h7 =>
  h7.pfr hp (ent_ne hsa h5 hent) (fun B fv h8 h9 h10 h11=>HG.into a b _ _ B fv h5 (by omega) (by omega) (by omega) hoka hokb h8 h9 h10 h11)
 by_cases hne:ent T a.sort.toNat (b.kids[0]'(by omega)).sort.toNat=.nilFunc
 · refine (intoMaybe_walkN T a.sort b.sort a1 a2 b1 a.names.length a.kids.length p1 p2 b.names.length q1 q2 yb yo _ y1 y2 _ _ s1 s2 path W (PFR GW n a (b.kids[0]'(by omega)) T) (by rw [hW.cell hyl];exact y0) (by rw [hW.cell hyl];exact y3) (by rw [hW.cell hyl];exact y4) (Nat.lt_of_lt_of_le hyl hW.size) hps2 (fun V hV=>?_) (PFR.on HG)).mono fun e w' ⟨h8,h7⟩=>⟨h8,hbox e w' h7⟩
   refine (hIH V hV).mono fun e w' ⟨k1,fv,er,k2,k3⟩=>?_
   have k4:=k3.2.1 hne
   subst k4
   exact ⟨k1,er,k2,k3⟩
 · refine (intoMaybe_walkF T a.sort b.sort a1 a2 b1 a.names.length a.kids.length p1 p2 b.names.length q1 q2 yb yo _ y1 y2 _ _ s1 s2 path W (PFR GW n a (b.kids[0]'(by omega)) T) (by rw [hW.cell hyl];exact y0) (by rw [hW.cell hyl];exact y3) (by rw [hW.cell hyl];exact y4) (Nat.lt_of_lt_of_le hyl hW.size) hps2 (fun V hV=>?_) (PFR.on HG)).mono fun e w' ⟨h8,h7⟩=>⟨h8,hbox e w' h7⟩
   refine (hIH V hV).mono fun e w' ⟨k1,fv,er,k2,k3⟩=>?_
   obtain ⟨f,bs,cs,k4⟩:=k3.2.2 hne
   subst k4
   exact ⟨k1,f,bs,cs,er,k2,k3⟩
theorem pair_form (h4:a.sort=5) (h5:b.sort=5) :
 Calls Tryz.prog 53 #[.pointer (some ⟨T,0,none⟩),.agg #[.int .i64 a.sort,.slice a1 a.names.length p1,.slice a2 a.kids.length p2],.agg #[.int .i64 b.sort,.slice b1 b.names.length q1,.slice b2 b.kids.length q2],.string path] w fun e w'=>Below w.heap.size w w'∧∃ fv er,e=.returned (.tuple #[fv,er])∧PFR GW (n+1) a b T (New w w') w' fv er:=by
 obtain ⟨hla,hra⟩:a.kids.length=a.names.length∧riseB a.names=true:=by
  rcases ha.sh with h' | h' | h'
  · omega
  · omega
  · exact h'.2
 obtain ⟨hlb,hrb⟩:b.kids.length=b.names.length∧riseB b.names=true:=by
  rcases hb.sh with h' | h' | h'
  · omega
  · omega
  · exact h'.2
 have hza:∀ k,k∈a.kids→k.sort≠0:=fun k hk=>by
  obtain ⟨i,hi,rfl⟩:=List.mem_iff_getElem.1 hk
  obtain ⟨_,_,_,_,_,_,_,_,_,_,_,_,hx⟩:=ha.kid hi
  rcases hx.sh with h' | h' | h' <;> omega
 have hzb:∀ k,k∈b.kids→k.sort≠0:=fun k hk=>by
  obtain ⟨i,hi,rfl⟩:=List.mem_iff_getElem.1 hk
  obtain ⟨_,_,_,_,_,_,_,_,_,_,_,_,hx⟩:=hb.kid hi
  rcases hx.sh with h' | h' | h' <;> omega
 have hp:pF (n+1) a b=(uniN a.names b.names).all fun nm=>pF n (kidZ a nm) (kidZ b nm):=by
  rw [pF_fit (by omega) (by omega)]
  exact fit_union h4 h5 hla hlb (rise_nodup hra) (rise_nodup hrb) hza hzb _ (fun nm=>uniN_mem nm)
 have hnm:∀ nm,nm∈uniN a.names b.names→nm.size≤8:=fun nm hm=>by
  rcases (uniN_mem nm).1 hm with h | h
  · exact rise_szU hra h
  · exact rise_szU hrb h
 have hlA:a.names.length≤1000:=by have:=ksz_lenU a;omega
 have hlB:b.names.length≤1000:=by have:=ksz_lenU b;omega
 have hent:ent T 5 5=wv T 51:=rfl
 have hoka:=ha.ok
 have hokb:=hb.ok
 refine pair_do HG (n+1) a b 5 5 51 h4 h5 (by omega) (by omega) T hent enForm _ _ _ _ _ _ _ _ w path hT fun W hW=>?_
 refine (ofForm_walk a b T a1 a2 b1 b2 p1 p2 q1 q2 path W (fun nm=>pF n (kidZ a nm) (kidZ b nm)) (fun nm=>GW (kidZ a nm) (kidZ b nm)) (fun nm=>HG.on (kidZ a nm) (kidZ b nm)) (ha.on hW) (hb.on hW) h4 h5 hlA hlB (by omega) (fun nm hm=>by have:=hnm nm hm;omega) (fun nm hm V x y hV hx hy=>?_)).mono fun e w' ⟨h6,h7⟩=>⟨h6,?_⟩
 · have hwV:Below w.heap.size w V:=hW.trans (hV.mono hW.size)
   exact (IH _ _ (kidZ_lt hn nm) (kidZ_sz hna nm) (kidZ_sz hnb nm) x y V T _ (hT.on hwV) hx hy (szP3 hps (hnm nm hm))).mono fun e w' ⟨k1,fv,er,k2,k3⟩=>⟨k1,fv,er,k2,k3.1⟩
 · obtain ⟨g1,g2,er,rfl,h8⟩:=h7
   refine ⟨_,_,rfl,?_,fun h=>absurd h (ent_ne h4 h5 hent),fun _=>⟨_,_,_,rfl⟩⟩
   rcases h8 with ⟨e1,e2,e3⟩ | ⟨e1,e2⟩
   · exact Or.inl ⟨hp.trans e1,e2,⟨_,_,_,rfl⟩,HG.form a b _ _ g1 g2 h4 h5 hlA hlB hoka hokb e3⟩
   · exact Or.inr ⟨hp.trans e1,Or.inr ⟨_,_,_,rfl⟩,e2⟩
end
theorem pair_leaf {GW:Kd→Kd→(Nat→Prop)→World→Value→Prop} (HG:GLaws GW) (n:Nat) (a b:Kd) (s:Nat) (hsa:a.sort=(s:Int)) (hsb:b.sort=(s:Int)) (h1:1≤s) (h3:s≤3) (hp:pF n a b=true) (a1 a2 b1 b2:Option Addr) (p1 p2 q1 q2:Nat) (w:World) (T:Nat) (path:ByteArray) (hT:WT w T) :
 Calls Tryz.prog 53 #[.pointer (some ⟨T,0,none⟩),.agg #[.int .i64 a.sort,.slice a1 a.names.length p1,.slice a2 a.kids.length p2],.agg #[.int .i64 b.sort,.slice b1 b.names.length q1,.slice b2 b.kids.length q2],.string path] w fun e w'=>Below w.heap.size w w'∧∃ fv er,e=.returned (.tuple #[fv,er])∧PFR GW n a b T (New w w') w' fv er:=by
 have hent:ent T s s=wv T 48:=by
  rcases (show s=1∨s=2∨s=3 by omega) with rfl | rfl | rfl <;> rfl
 refine pair_do HG n a b s s 48 hsa hsb (by omega) (by omega) T hent enLeaf _ _ _ _ _ _ _ _ w path hT fun W hW=>?_
 exact (ofLeaf_walk T _ _ _ _ _ _ _ _ _ _ _ _ _ _ path W).mono fun e w' ⟨k1,k2⟩=>⟨k1,_,_,k2,Or.inl ⟨hp,rfl,⟨_,_,_,rfl⟩,HG.leaf a b _ _ (by omega) (by omega)⟩,fun h=>absurd h (ent_ne hsa hsb hent),fun _=>⟨_,_,_,rfl⟩⟩
theorem pair_none {GW:Kd→Kd→(Nat→Prop)→World→Value→Prop} (HG:GLaws GW) (n:Nat) (a b:Kd) (hsa:a.sort=0) (hsb:b.sort=6) (a1 a2 b1 b2:Option Addr) (p1 p2 q1 q2:Nat) (w:World) (T:Nat) (path:ByteArray) (hT:WT w T) :
 Calls Tryz.prog 53 #[.pointer (some ⟨T,0,none⟩),.agg #[.int .i64 a.sort,.slice a1 a.names.length p1,.slice a2 a.kids.length p2],.agg #[.int .i64 b.sort,.slice b1 b.names.length q1,.slice b2 b.kids.length q2],.string path] w fun e w'=>Below w.heap.size w w'∧∃ fv er,e=.returned (.tuple #[fv,er])∧PFR GW n a b T (New w w') w' fv er:=by
 have hent:ent T 0 6=wv T 47:=rfl
 have hp:pF n a b=true:=by unfold pF;rw [if_pos hsa];exact decide_eq_true hsb
 refine pair_do HG n a b 0 6 47 hsa hsb (by omega) (by omega) T hent enNone _ _ _ _ _ _ _ _ w path hT fun W hW=>?_
 exact (ofNone_walk T _ _ _ _ _ _ _ _ _ _ _ _ _ _ path W).mono fun e w' ⟨k1,k2⟩=>⟨k1,_,_,k2,Or.inl ⟨hp,rfl,⟨_,_,_,rfl⟩,HG.zero a b _ _ hsa hsb⟩,fun h=>absurd h (ent_ne (sa:=0) (sb:=6) hsa hsb hent),fun _=>⟨_,_,_,rfl⟩⟩
theorem pair_step {GW:Kd→Kd→(Nat→Prop)→World→Value→Prop} (HG:GLaws GW) (n:Nat) (IH:∀ m,n=m+1→PairSaid GW m):PairSaid GW n:=by
 intro a b hbn hna hnb c d w T path hT hc hd hps
 obtain ⟨sa,hsa,ha6,ha0,haw⟩:=hc.sort
 obtain ⟨sb,hsb,hb6,hb0,hbw⟩:=hd.sort
 obtain ⟨a1,a2,p1,p2,rfl⟩:=hc.form
 obtain ⟨b1,b2,q1,q2,rfl⟩:=hd.form
 by_cases h0b:sb=0
 · refine pair_no n a b sa sb hsa hsb ha6 hb6 (by omega) ?_ a1 a2 b1 b2 p1 p2 q1 q2 w T path hT
   unfold pF
   split
   · exact decide_eq_false (by omega)
   · rw [if_pos (by omega)]
 by_cases h0a:sa=0
 · by_cases h6:sb=6
   · exact pair_none HG n a b (by omega) (by omega) a1 a2 b1 b2 p1 p2 q1 q2 w T path hT
   · refine pair_no n a b sa sb hsa hsb ha6 hb6 (by omega) ?_ a1 a2 b1 b2 p1 p2 q1 q2 w T path hT
     unfold pF
     rw [if_pos (by omega)]
     exact decide_eq_false (by omega)
 have ha:=haw h0a
 have hb:=hbw h0b
 have hkn:=hbn (by omega)
 have hpos:=ksz_lenU b
 obtain ⟨m,rfl⟩:∃ m,n=m+1:=⟨n - 1,by omega⟩
 have IHm:=IH m rfl
 by_cases h6:sb=6
 · by_cases h6a:sa=6
   · exact pair_each HG m IHm a b hna hnb hkn a1 a2 b1 b2 p1 p2 q1 q2 w T path hT hps ha hb _ (Or.inr ⟨rfl,by omega,by omega⟩)
   · exact pair_into HG m IHm a b hna hnb hkn a1 a2 b1 b2 p1 p2 q1 q2 w T path hT hps ha hb sa hsa h0a (by omega) (by omega)
 by_cases hab:sa=sb
 · subst hab
   by_cases h4:sa=4
   · exact pair_each HG m IHm a b hna hnb hkn a1 a2 b1 b2 p1 p2 q1 q2 w T path hT hps ha hb _ (Or.inl ⟨rfl,by omega,by omega⟩)
   by_cases h5:sa=5
   · exact pair_form HG m IHm a b hna hnb hkn a1 a2 b1 b2 p1 p2 q1 q2 w T path hT hps ha hb (by omega) (by omega)
   · refine pair_leaf HG (m+1) a b sa hsa hsb (by omega) (by omega) ?_ a1 a2 b1 b2 p1 p2 q1 q2 w T path hT
     rw [pF_fit (by omega) (by omega)]
     refine fit_leaf (by omega) (by omega) (by omega) ?_ ?_
     · rcases ha.sh with h' | h' | h' <;> omega
     · rcases hb.sh with h' | h' | h' <;> omega
 · refine pair_no (m+1) a b sa sb hsa hsb ha6 hb6 (by omega) ?_ a1 a2 b1 b2 p1 p2 q1 q2 w T path hT
   rw [pF_fit (by omega) (by omega)]
   exact fit_ne (by omega) (by omega)
theorem pair_all {GW:Kd→Kd→(Nat→Prop)→World→Value→Prop} (HG:GLaws GW) (n:Nat):PairSaid GW n:=by
 induction n with
 | zero=>exact pair_step HG 0 (fun m h=>by omega)
 | succ n IH =>
   refine pair_step HG (n+1) (fun m h=>?_)
   obtain rfl:n=m:=by omega
   exact IH
end Go.Proofs.YteefjeddboefcaaGreatDoor

namespace Go.Proofs.YteefjeddboefcaaGreatDoor
open Go Go.RowKit
def ErrT (w:World):Prop:=w.cell? ⟨0,0,none⟩=some (.iface 154 (.agg #[.pointer (some ⟨2,99,none⟩)]))
theorem ErrT.on {w W:World} (h:ErrT w) (hb:Below w.heap.size w W):ErrT W:=by
 unfold ErrT
 rw [World.cell?_of_block (w:=w) (hb.block _ (World.block_lt_of_cell? w _ h))]
 exact h
def WhE (GW:Kd→Kd→(Nat→Prop)→World→Value→Prop) (a b:Kd) (w w':World) (e:Ending):Prop :=
 ∃ fv,e=.returned (.tuple #[fv,.bool (fitsD a b)])∧(fitsD a b=true→(∃ f b c,fv=.func f b c)∧GW a b (New w w') w' fv)
theorem ofWhole_any {GW:Kd→Kd→(Nat→Prop)→World→Value→Prop} (HG:GLaws GW) (a b:Kd) (P Q:Nat→Prop) (c d:C3) (w:World) (T:Nat) (hT:WT w T) (hE:ErrT w) (hP:∀ x,P x→x < w.heap.size) (hQ:∀ x,Q x→x < w.heap.size) (ha:KRep P w a c) (hb:KRep Q w b d) (hwa:wKd a≤1048576) (hwb:wKd b≤1048576) :
 Calls Tryz.prog 28 #[.pointer (some ⟨T,0,none⟩),.agg #[c.c0,c.c1,c.c2],.agg #[d.c0,d.c1,d.c2]] w fun e w'=>Below w.heap.size w w'∧WhE GW a b w w' e:=by
 have ha':KRep (fun x=>x < w.heap.size) w a c:=KRep.carry (fun _ _=>rfl) hP _ _ ha
 have hb':KRep (fun x=>x < w.heap.size) w b d:=KRep.carry (fun _ _=>rfl) hQ _ _ hb
 have hca:∀ W,Below w.heap.size w W→KRep (fun x=>x < W.heap.size) W a c:=fun W hW=>KRep.carry (fun x hx=>hW.block x hx) (fun _ hx=>Nat.lt_of_lt_of_le hx hW.size) _ _ ha'
 have hcb:∀ W,Below w.heap.size w W→KRep (fun x=>x < W.heap.size) W b d:=fun W hW=>KRep.carry (fun x hx=>hW.block x hx) (fun _ hx=>Nat.lt_of_lt_of_le hx hW.size) _ _ hb'
 have HOA:Hid (∀ W,Below w.heap.size w W→Calls Tryz.prog 30 #[.agg #[c.c0,c.c1,c.c2]] W fun e w'=>e=.returned (.bool (decide (0 < qT a 1)))∧Below W.heap.size W w'):=fun W hW=>implKindOk_any a _ c W (fun _ h=>h) (hca W hW) hwa
 have HOB:Hid (∀ W,Below w.heap.size w W→Calls Tryz.prog 30 #[.agg #[d.c0,d.c1,d.c2]] W fun e w'=>e=.returned (.bool (decide (0 < qT b 1)))∧Below W.heap.size W w'):=fun W hW=>implKindOk_any b _ d W (fun _ h=>h) (hcb W hW) hwb
 have HF:Hid (∀ W,0 < qT a 1→0 < qT b 1→Below w.heap.size w W→Calls Tryz.prog 53 #[.pointer (some ⟨T,0,none⟩),.agg #[c.c0,c.c1,c.c2],.agg #[d.c0,d.c1,d.c2],.string ⟨#[]⟩] W fun e w'=>Below W.heap.size W w'∧∃ fv er,e=.returned (.tuple #[fv,er])∧PR (fitF 40 a b) (GW a b) (New W w') w' fv er):=fun W h1 h2 hW=>by
  have hKa:KW W a c:=⟨hca W hW,(ok_of_qT h1).1⟩
  have hKb:KW W b d:=⟨hcb W hW,(ok_of_qT h2).1⟩
  refine (pair_all HG 40 a b (fun _=>(ok_of_qT h2).2) (ok_of_qT h1).2 (ok_of_qT h2).2 c d W T ⟨#[]⟩ (hT.on hW) (Or.inl hKa) (Or.inl hKb) (by decide)).mono fun e w' ⟨k1,fv,er,k2,k3⟩=>⟨k1,fv,er,k2,?_⟩
  have:=k3.1
  rwa [pF_fit (by rcases hKa.sh with h' | h' | h' <;> omega) (by rcases hKb.sh with h' | h' | h' <;> omega)] at this
 have HET:Hid (∀ W,Below w.heap.size w W→ErrT W):=fun W hW=>hE.on hW
 obtain ⟨c0,c1,c2⟩:=c
 obtain ⟨d0,d1,d2⟩:=d
 obtain ⟨e0,-,⟨a3,cap3,e1,-⟩,a4,cap4,e2,-⟩:=ha.open
 obtain ⟨g0,-,⟨b3,bap3,g1,-⟩,b4,bap4,g2,-⟩:=hb.open
 simp only at e0 e1 e2 g0 g1 g2
 subst e0 e1 e2 g0 g1 g2
 obtain ⟨hra,hrb,hbw⟩:=pr_boxes w a.sort b.sort a3 a4 b3 b4 a.names.length a.kids.length cap3 cap4 b.names.length b.kids.length bap3 bap4
 obtain ⟨x0,x1,x2⟩:=cs3 hra (by omega)
 simp only [row3] at x0 x1 x2
 have HRA:=xH hra;have HRB:=xH hrb;have HBW:=xH hbw
 clear hra hrb hbw ha hb ha' hb' hca hcb hP hQ hT hE hwa hwb
 go_enter Tryz.func28,Tryz.ntmps28
 go_wp2_with fail
 generalize ((w.alloc (.cells #[.int .i64 a.sort,.slice a3 a.names.length cap3,.slice a4 a.kids.length cap4] 26)).alloc (.cells #[.int .i64 b.sort,.slice b3 b.names.length bap3,.slice b4 b.kids.length bap4] 26))=W0 at x0 x1 x2 HRA HRB HBW ⊢
 refine (xU HOA _ (xU HBW)).mono ?_
 rintro e W1 ⟨rfl,hb1⟩
 have hbw1:=(xU HBW).trans (hb1.mono (xU HBW).size)
 have HRA1:=xH ((xU HRA).of_block (hb1.block _ (xU HRA).lt))
 have HRB1:=xH ((xU HRB).of_block (hb1.block _ (xU HRB).lt))
 have HB1:=xH hbw1
 clear hb1 hbw1 HRA HRB HBW x0 x1 x2
 by_cases hqa:0 < qT a 1
 · rw [decide_eq_true hqa]
   obtain ⟨y0,y1,y2⟩:=cs3 ((xU HRB1)) (by omega)
   simp only [row3] at y0 y1 y2
   go_wp2_with fail
   refine (xU HOB _ (xU HB1)).mono ?_
   rintro e W2 ⟨rfl,hb2⟩
   have hbw2:=(xU HB1).trans (hb2.mono (xU HB1).size)
   have HRA2:=xH ((xU HRA1).of_block (hb2.block _ (xU HRA1).lt))
   have HRB2:=xH ((xU HRB1).of_block (hb2.block _ (xU HRB1).lt))
   have HB2:=xH hbw2
   clear hb2 hbw2 HRA1 HRB1 HB1 y0 y1 y2
   by_cases hqb:0 < qT b 1
   · rw [decide_eq_true hqb]
     have HFT:=xH (show fitsD a b=fitF 40 a b by unfold fitsD;rw [decide_eq_true hqa,decide_eq_true hqb];rfl)
     obtain ⟨x0,x1,x2⟩:=cs3 ((xU HRA2)) (by omega)
     have y0:=(xU HRB2).cell (i:=0) (by omega);have y1:=(xU HRB2).cell (i:=1) (by omega);have y2:=(xU HRB2).cell (i:=2) (by omega)
     simp only [row3] at x0 x1 x2 y0 y1 y2
     have HQA:=xH hqa;have HQB:=xH hqb
     clear hqa hqb
     go_wp2_with fail
     refine (xU HF _ (xU HQA) (xU HQB) (xU HB2)).mono ?_
     rintro e W3 ⟨hb3,fv,er,rfl,hpr⟩
     have hbw3:=(xU HB2).trans (hb3.mono (xU HB2).size)
     have HB3:=xH hbw3
     have HSZ:=xH (xU HB2).size
     clear HRA2 HRB2 HB2 x0 x1 x2 y0 y1 y2 hb3 hbw3
     have HBA:=xH ((xU HB3).alloc (xU HB3).size (.cells #[.int .i64 0,.int .i64 0,.string ByteArray.empty] 103))
     rcases hpr with ⟨hfy,rfl,⟨fn,bs,cs,rfl⟩,hgw⟩ | ⟨hfn,-,x,y,p,rfl⟩
     · have HE2:Hid (fitsD a b=true∧GW a b (New w (W3.alloc (.cells #[.int .i64 0,.int .i64 0,.string ByteArray.empty] 103))) (W3.alloc (.cells #[.int .i64 0,.int .i64 0,.string ByteArray.empty] 103)) (.func fn bs cs)) :=
        ⟨(xU HFT).trans hfy,HG.on a b _ _ _ _ _ hgw (fun z hz=>⟨Nat.le_trans (xU HSZ) hz.1,by have:=hz.2;rw [World.size_alloc];omega⟩) (fun z hz=>Below.heap_alloc _ _ _ hz.2)⟩
       clear hgw hfy HFT HF HOA HOB HB3 HSZ
       go_wp2_with (go_at_call 54;refine (as_nil _ _).mono ?_;rintro e W4 ⟨rfl,hw4⟩;have hw5:=hw4.symm;subst hw5)
       go_ret2
       exact ⟨xU HBA,.func fn bs cs,(by rw [(xU HE2).1];rfl),fun _=>⟨⟨_,_,_,rfl⟩,(xU HE2).2⟩⟩
     · have HE2:=xH ((xU HFT).trans hfn)
       have HTH:Hid ((W3.alloc (.cells #[.int .i64 0,.int .i64 0,.string ByteArray.empty] 103)).there W3.heap.size 0 3):=there3f (row3_alloc W3 _ _ _ _)
       have HEW:=xH (xU HET _ (xU HBA))
       have HSZ3:=xH (xU HB3).size
       clear hfn HFT HF HOA HOB HB3 HSZ
       go_wp2_with (go_at_call 54;refine (as_hit x y p W3.heap.size (W3.alloc (.cells #[.int .i64 0,.int .i64 0,.string ByteArray.empty] 103)) (xU HEW) (xU HTH)).mono ?_;rintro e W4 ⟨rfl,hw4⟩;have HB4:Hid (Below w.heap.size w W4):=(xU HBA).trans ⟨hw4.os,hw4.tape,hw4.output,hw4.size,fun i hi=>hw4.at (Nat.lt_of_lt_of_le hi (xU HBA).size) (Nat.ne_of_lt (Nat.lt_of_lt_of_le hi (xU HSZ3)))⟩;clear hw4)
       go_ret2
       exact ⟨xU HB4,.nilFunc,(by rw [xU HE2];rfl),fun h=>by rw [xU HE2] at h;cases h⟩
   · rw [decide_eq_false hqb]
     have HFT:=xH (show fitsD a b=false by unfold fitsD;rw [decide_eq_false hqb];simp)
     clear hqa hqb
     go_wp2_with fail
     go_ret2
     exact ⟨xU HB2,.nilFunc,(by rw [xU HFT];rfl),fun h=>by rw [xU HFT] at h;cases h⟩
 · rw [decide_eq_false hqa]
   have HFT:=xH (show fitsD a b=false by unfold fitsD;rw [decide_eq_false hqa];rfl)
   clear hqa
   go_wp2_with fail
   go_ret2
   exact ⟨xU HB1,.nilFunc,(by rw [xU HFT];rfl),fun h=>by rw [xU HFT] at h;cases h⟩
theorem cell_onQ {w w':World} (hb:Below w.heap.size w w') {a:Addr} {v:Value} (h:w.cell? a=some v):w'.cell? a=some v:=by
 rw [World.cell?_of_block (w:=w) (hb.block a.block (World.block_lt_of_cell? w _ h))]
 exact h
theorem gTrue:GLaws (fun _ _ _ _ _=>True):=⟨fun _ _ _ _ _ _ _ _ _ _=>trivial,fun _ _ _ _ _ _=>trivial,fun _ _ _ _ _ _=>trivial,fun _ _ _ _ _ _ _ _ _ _ _ _ _ _ _=>trivial,fun _ _ _ _ _ _ _ _ _ _ _ _ _ _ _ _=>trivial,fun _ _ _ _ _ _ _ _ _ _ _ _ _=>trivial⟩
theorem implKindFits_any (a b:Kd) (P Q:Nat→Prop) (c d:C3) (w:World) (hE:ErrT w) (hP:∀ x,P x→x < w.heap.size) (hQ:∀ x,Q x→x < w.heap.size) (ha:KRep P w a c) (hb:KRep Q w b d) (hwa:wKd a≤1048576) (hwb:wKd b≤1048576) :
 Calls Tryz.prog 10 #[.agg #[c.c0,c.c1,c.c2],.agg #[d.c0,d.c1,d.c2]] w fun e w'=>e=.returned (.bool (fitsD a b))∧Below w.heap.size w w':=by
 have ha':KRep (fun x=>x < w.heap.size) w a c:=KRep.carry (fun _ _=>rfl) hP _ _ ha
 have hb':KRep (fun x=>x < w.heap.size) w b d:=KRep.carry (fun _ _=>rfl) hQ _ _ hb
 have HW:Hid (∀ W T,Below w.heap.size w W→WT W T→Calls Tryz.prog 28 #[.pointer (some ⟨T,0,none⟩),.agg #[c.c0,c.c1,c.c2],.agg #[d.c0,d.c1,d.c2]] W fun e w'=>Below W.heap.size W w'∧∃ fv,e=.returned (.tuple #[fv,.bool (fitsD a b)])):=fun W T hW hT =>
  (ofWhole_any gTrue a b (fun x=>x < w.heap.size) (fun x=>x < w.heap.size) c d W T hT (hE.on hW) (fun x hx=>Nat.lt_of_lt_of_le hx hW.size) (fun x hx=>Nat.lt_of_lt_of_le hx hW.size) (KRep.carry (fun x hx=>hW.block x hx) (fun _ h=>h) _ _ ha') (KRep.carry (fun x hx=>hW.block x hx) (fun _ h=>h) _ _ hb') hwa hwb).mono fun e w' ⟨h1,fv,h2,_⟩=>⟨h1,fv,h2⟩
 obtain ⟨c0,c1,c2⟩:=c
 obtain ⟨d0,d1,d2⟩:=d
 obtain ⟨e0,-,⟨a3,cap3,e1,-⟩,a4,cap4,e2,-⟩:=ha.open
 obtain ⟨g0,-,⟨b3,bap3,g1,-⟩,b4,bap4,g2,-⟩:=hb.open
 simp only at e0 e1 e2 g0 g1 g2
 subst e0 e1 e2 g0 g1 g2
 obtain ⟨hra,hrb,hbw⟩:=pr_boxes w a.sort b.sort a3 a4 b3 b4 a.names.length a.kids.length cap3 cap4 b.names.length b.kids.length bap3 bap4
 have HRA:=xH hra;have HRB:=xH hrb;have HBW:=xH hbw
 clear hra hrb hbw ha hb ha' hb' hP hQ hE hwa hwb
 go_enter Tryz.func10,Tryz.ntmps10
 go_upto_region 1 with fail
 generalize ((w.alloc (.cells #[.int .i64 a.sort,.slice a3 a.names.length cap3,.slice a4 a.kids.length cap4] 26)).alloc (.cells #[.int .i64 b.sort,.slice b3 b.names.length bap3,.slice b4 b.kids.length bap4] 26))=W0 at HRA HRB HBW ⊢
 obtain ⟨x0,x1,x2⟩:=cs3 ((xU HRA)) (by omega)
 have y0:=(xU HRB).cell (i:=0) (by omega);have y1:=(xU HRB).cell (i:=1) (by omega);have y2:=(xU HRB).cell (i:=2) (by omega)
 simp only [row3] at x0 x1 x2 y0 y1 y2
 clear HRA HRB
 go_region_held3 (fun W=>W.cell? ⟨w.heap.size,0,none⟩=some (.int .i64 a.sort)∧W.cell? ⟨w.heap.size,1,none⟩=some (.slice a3 a.names.length cap3)∧W.cell? ⟨w.heap.size,2,none⟩=some (.slice a4 a.kids.length cap4)∧W.cell? ⟨w.heap.size+1,0,none⟩=some (.int .i64 b.sort)∧W.cell? ⟨w.heap.size+1,1,none⟩=some (.slice b3 b.names.length bap3)∧W.cell? ⟨w.heap.size+1,2,none⟩=some (.slice b4 b.kids.length bap4)) (first | exact ⟨x0,x1,x2,y0,y1,y2⟩ | exact HS2 | exact HS1 | go_keep)
  (first
    | (go_at_call 27
       refine (newWidenings_any W0.drew).mono ?_
       rintro e W1 ⟨rfl,hb1,ht1⟩
       have HS1:W1.cell? ⟨w.heap.size,0,none⟩=some (.int .i64 a.sort)∧W1.cell? ⟨w.heap.size,1,none⟩=some (.slice a3 a.names.length cap3)∧W1.cell? ⟨w.heap.size,2,none⟩=some (.slice a4 a.kids.length cap4)∧W1.cell? ⟨w.heap.size+1,0,none⟩=some (.int .i64 b.sort)∧W1.cell? ⟨w.heap.size+1,1,none⟩=some (.slice b3 b.names.length bap3)∧W1.cell? ⟨w.heap.size+1,2,none⟩=some (.slice b4 b.kids.length bap4):=⟨cell_onP hb1 x0,cell_onP hb1 x1,cell_onP hb1 x2,cell_onP hb1 y0,cell_onP hb1 y1,cell_onP hb1 y2⟩
       have HB1:=xH ((xU HBW).drew.trans (hb1.mono (xU HBW).size))
       have HT1:=xH ht1
       clear hb1 ht1)
    | (go_at_call 28
       refine (xU HW W1 _ (xU HB1) (xU HT1)).mono ?_
       rintro e W2 ⟨hb2,fv,rfl⟩
       have HS2:W2.cell? ⟨w.heap.size,0,none⟩=some (.int .i64 a.sort)∧W2.cell? ⟨w.heap.size,1,none⟩=some (.slice a3 a.names.length cap3)∧W2.cell? ⟨w.heap.size,2,none⟩=some (.slice a4 a.kids.length cap4)∧W2.cell? ⟨w.heap.size+1,0,none⟩=some (.int .i64 b.sort)∧W2.cell? ⟨w.heap.size+1,1,none⟩=some (.slice b3 b.names.length bap3)∧W2.cell? ⟨w.heap.size+1,2,none⟩=some (.slice b4 b.kids.length bap4):=⟨cell_onQ hb2 HS1.1,cell_onQ hb2 HS1.2.1,cell_onQ hb2 HS1.2.2.1,cell_onQ hb2 HS1.2.2.2.1,cell_onQ hb2 HS1.2.2.2.2.1,cell_onQ hb2 HS1.2.2.2.2.2⟩
       have HB2:=xH ((xU HB1).trans (hb2.mono (xU HB1).size))
       clear hb2))
 all_goals
  clear HS1 HS2 x0 x1 x2 y0 y1 y2 HW HB1 HT1 HBW
  go_wp2_with fail
  go_ret
  exact ⟨rfl,xU HB2⟩
end Go.Proofs.YteefjeddboefcaaGreatDoor
