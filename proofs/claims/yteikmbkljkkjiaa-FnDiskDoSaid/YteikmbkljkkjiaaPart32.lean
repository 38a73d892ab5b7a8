/- A part. -/
import Derived.Test.YteikmbkljkkjiaaPart31
import Derived.Laws.CopyOwn
set_option maxRecDepth 100000
set_option maxHeartbeats 6400000
namespace Go.Proofs.Yteikmbkljkkjiaa
open Go Go.RowKit Go.WideMaps Go.Maps
def WrEnd (w w':World) (e:Ending) (b0 base L:Nat) (d2:Dk):Prop:=e=.returned (.tuple #[])∧(∃ o':C3,MxSt base L w' o'.c0 o'.c1 o'.c2 d2.files d2.names d2.moves)∧Below b0 w w'∧TyK w w'
theorem Wb.start {w:World} {d:Dk} {T:Nat} {x2:Option Addr} {n2 m2:Nat} {x4:Option Addr} {n4 m4:Nat} {k:Int} {x y:ByteArray} {b0 base L:Nat} {o:C3} (hm:MxSt base L w o.c0 o.c1 o.c2 d.files d.names d.moves) (hbb:b0≤base) (hbL:base≤L):Wb w k x y b0 base L o d ((w.alloc (.cells #[.pointer (some ⟨T,0,none⟩),.pointer (some ⟨T,0,none⟩),.slice x2 n2 m2,.pointer (some ⟨T,0,none⟩),.slice x4 n4 m4] 71)).alloc (.cells #[.int .i64 k,.string x,.string y] 29)):=by
 have hb:Below w.heap.size w ((w.alloc (.cells #[.pointer (some ⟨T,0,none⟩),.pointer (some ⟨T,0,none⟩),.slice x2 n2 m2,.pointer (some ⟨T,0,none⟩),.slice x4 n4 m4] 71)).alloc (.cells #[.int .i64 k,.string x,.string y] 29)):=((Below.refl _ _).alloc (Nat.le_refl _) _).alloc (by simp) _
 have hl:=hm.row.lt
 refine ⟨?_,hm.keep hb,hb.mono (by omega),hbb,by omega,TyK.below hb⟩
 have:=row3_alloc (w.alloc (.cells #[.pointer (some ⟨T,0,none⟩),.pointer (some ⟨T,0,none⟩),.slice x2 n2 m2,.pointer (some ⟨T,0,none⟩),.slice x4 n4 m4] 71)) (.int .i64 k) (.string x) (.string y) 29
 rw [World.size_alloc] at this;exact this
theorem Rg.vs {P:Nat→Prop} {w:World} {d:Dk} {a0:Option Addr} {p0 T B:Nat} {x2:Option Addr} {n2 m2:Nat} {x4:Option Addr} {n4 m4:Nat} {k:Int} {x y:ByteArray} {W:World} (h:Rg P w d a0 p0 T B x2 n2 m2 x4 n4 m4 k x y W):Vs P d a0 p0 T B x2 n2 m2 x4 n4 m4 W:=⟨h.row,h.map,h.ns,h.fn,h.fs,h.pl⟩
theorem write_make (P:Nat→Prop) (w:World) (d:Dk) (a0:Option Addr) (p0 T B:Nat) (x2:Option Addr) (n2 m2:Nat) (x4:Option Addr) (n4 m4:Nat) (x y:ByteArray) (h:Vs P d a0 p0 T B x2 n2 m2 x4 n4 m4 w) (b0 base L:Nat) (o:C3) (hm:MxSt base L w o.c0 o.c1 o.c2 d.files d.names d.moves) (hx:x.size≤1048576) (hbb:b0≤base) (hbL:base≤L) (hf:d.files.length≤999) (hmv:d.moves.length≤999):Calls Try.prog 37 #[.agg #[.pointer (some ⟨T,0,none⟩),.pointer (some ⟨T,0,none⟩),.slice x2 n2 m2,.pointer (some ⟨T,0,none⟩),.slice x4 n4 m4],.pointer (some ⟨L,0,none⟩),.agg #[.int .i64 1,.string x,.string y]] w fun e w'=>WrEnd w w' e b0 base L ⟨d.files++[⟨x,ByteArray.empty,0⟩],d.names,d.moves++[⟨false,x⟩]⟩:=by
 obtain ⟨c,-,hc,-⟩:=look_all h.map x (by omega)
 have HC:=xH hc
 clear hc
 have HG:=xH (Rg.start (k:=1) (x:=x) (y:=y) h)
 have HW:=xH (Wb.start (k:=1) (x:=x) (y:=y) (T:=T) (x2:=x2) (n2:=n2) (m2:=m2) (x4:=x4) (n4:=n4) (m4:=m4) (b0:=b0) hm hbb hbL)
 clear h hm
 go_enter Try.func37,Try.ntmps37
 go_upto_region 1 with fail
 generalize (w.alloc _).alloc _=W0 at HG HW ⊢
 refine wp_swap (c':=Code.region 1 wr1Ops true) (by kernel_rfl) ?_
 refine wp_region_noPanic ?_
 refine wr1 w L T B x (d.files.map Df.name) c (by omega) (xU HC) W0 _ (fun _ _ _ _ _ h=>h) (xU HG).v0 (xU HG).t1 (xU HG).m1 (xU HG).map (by kernel_rfl) ?_
 intro v
 refine NoPanic.normal ?_
 simp only [frL_eq,frG,List.lookup,Nat.reduceBEq,Nat.reduceAdd,Option.getD_some,Option.getD_none]
 have HG1:=xH ((xU HG).on (drewB _));have HW1:=xH ((xU HW).on (drewB _) (xU HW).sz)
 clear HG HW
 generalize W0.drew=W1 at HG1 HW1 ⊢
 have m0:=(xU HG1).b1.cell (i:=0) (by omega)
 simp only [row3] at m0
 go_upto_region 4 with fail
 refine wp_swap (c':=Code.region 4 wr4Ops true) (by kernel_rfl) ?_
 refine wp_region_noPanic ?_
 refine wr4 w 1 x y b0 base L o d hx (by omega) (fun W hW=>Nat.le_trans hbL (Nat.le_of_lt hW.mx.row.lt)) _ _ (fun _ _ _ _ _ h=>h) ((xU HW1).on (drewB _) (xU HW1).sz) (by kernel_rfl) ?_
 intro v2 o2 W2 h2
 refine NoPanic.normal ?_
 simp only [frL_eq,frG,List.lookup,Nat.reduceBEq,Nat.reduceAdd,Option.getD_some,Option.getD_none]
 have HW2:=xH h2
 clear h2 HW1 HG1 m0
 go_upto_region 5 with fail
 refine wp_swap (c':=Code.region 5 wr5Ops true) (by kernel_rfl) ?_
 refine wp_region_noPanic ?_
 refine wr5 w 1 x y b0 base L o2 ⟨d.files++[⟨x,ByteArray.empty,0⟩],d.names,d.moves⟩ hx (by simp only;omega) (fun W hW=>Nat.le_trans hbL (Nat.le_of_lt hW.mx.row.lt)) _ _ (fun _ _ _ _ _ h=>h) ((xU HW2).on (drewB _) (xU HW2).sz) (by kernel_rfl) ?_
 intro v3 o3 W3 h3
 refine NoPanic.normal ?_
 simp only [frL_eq,frG,List.lookup,Nat.reduceBEq,Nat.reduceAdd,Option.getD_some,Option.getD_none]
 have HW3:=xH h3
 clear h3 HW2
 go_wp2_with fail
 go_end0
 exact ⟨rfl,⟨o3,(xU HW3).mx⟩,(xU HW3).bel,(xU HW3).ty⟩
theorem write_gone (P:Nat→Prop) (w:World) (d:Dk) (a0:Option Addr) (p0 T B:Nat) (x2:Option Addr) (n2 m2:Nat) (x4:Option Addr) (n4 m4:Nat) (x y:ByteArray) (h:Vs P d a0 p0 T B x2 n2 m2 x4 n4 m4 w) (b0 base L:Nat) (o:C3) (hm:MxSt base L w o.c0 o.c1 o.c2 d.files d.names d.moves) (hx:x.size≤1048576) (hbb:b0≤base) (hbL:base≤L) (hmv:d.moves.length≤999):Calls Try.prog 37 #[.agg #[.pointer (some ⟨T,0,none⟩),.pointer (some ⟨T,0,none⟩),.slice x2 n2 m2,.pointer (some ⟨T,0,none⟩),.slice x4 n4 m4],.pointer (some ⟨L,0,none⟩),.agg #[.int .i64 4,.string x,.string y]] w fun e w'=>WrEnd w w' e b0 base L ⟨d.files,d.names,d.moves++[⟨true,x⟩]⟩:=by
 obtain ⟨c,-,hc,-⟩:=look_all h.map x (by omega)
 have HC:=xH hc
 clear hc
 have HG:=xH (Rg.start (k:=4) (x:=x) (y:=y) h)
 have HW:=xH (Wb.start (k:=4) (x:=x) (y:=y) (T:=T) (x2:=x2) (n2:=n2) (m2:=m2) (x4:=x4) (n4:=n4) (m4:=m4) (b0:=b0) hm hbb hbL)
 clear h hm
 go_enter Try.func37,Try.ntmps37
 go_upto_region 1 with fail
 generalize (w.alloc _).alloc _=W0 at HG HW ⊢
 refine wp_swap (c':=Code.region 1 wr1Ops true) (by kernel_rfl) ?_
 refine wp_region_noPanic ?_
 refine wr1 w L T B x (d.files.map Df.name) c (by omega) (xU HC) W0 _ (fun _ _ _ _ _ h=>h) (xU HG).v0 (xU HG).t1 (xU HG).m1 (xU HG).map (by kernel_rfl) ?_
 intro v
 refine NoPanic.normal ?_
 simp only [frL_eq,frG,List.lookup,Nat.reduceBEq,Nat.reduceAdd,Option.getD_some,Option.getD_none]
 have HG1:=xH ((xU HG).on (drewB _));have HW1:=xH ((xU HW).on (drewB _) (xU HW).sz)
 clear HG HW
 generalize W0.drew=W1 at HG1 HW1 ⊢
 have m0:=(xU HG1).b1.cell (i:=0) (by omega)
 simp only [row3] at m0
 go_upto_region 11 with fail
 refine wp_swap (c':=Code.region 11 wr11Ops true) (by kernel_rfl) ?_
 refine wp_region_noPanic ?_
 refine wr11 w 4 x y b0 base L o d hx (by omega) (fun W hW=>Nat.le_trans hbL (Nat.le_of_lt hW.mx.row.lt)) _ _ (fun _ _ _ _ _ h=>h) ((xU HW1).on (drewB _) (xU HW1).sz) (by kernel_rfl) ?_
 intro v2 o2 W2 h2
 refine NoPanic.normal ?_
 simp only [frL_eq,frG,List.lookup,Nat.reduceBEq,Nat.reduceAdd,Option.getD_some,Option.getD_none]
 have HW2:=xH h2
 clear h2 HW1 HG1 m0
 go_wp2_with fail
 go_end0
 exact ⟨rfl,⟨o2,(xU HW2).mx⟩,(xU HW2).bel,(xU HW2).ty⟩
theorem write_add (P:Nat→Prop) (w:World) (d:Dk) (a0:Option Addr) (p0 T B:Nat) (x2:Option Addr) (n2 m2:Nat) (x4:Option Addr) (n4 m4:Nat) (x y:ByteArray) (h:Vs P d a0 p0 T B x2 n2 m2 x4 n4 m4 w) (b0 base L:Nat) (o:C3) (hm:MxSt base L w o.c0 o.c1 o.c2 d.files d.names d.moves) (hx:x.size≤1048576) (hbb:b0≤base) (hbL:base≤L) (hy:y.size≤1048576) (hnd:(d.files.map Df.name).Nodup) (i:Nat) (hi:i < d.files.length) (hxi:d.files[i].name=x) (hs:¬ (9223372036854775807 < d.files[i].data.size+y.size)):Calls Try.prog 37 #[.agg #[.pointer (some ⟨T,0,none⟩),.pointer (some ⟨T,0,none⟩),.slice x2 n2 m2,.pointer (some ⟨T,0,none⟩),.slice x4 n4 m4],.pointer (some ⟨L,0,none⟩),.agg #[.int .i64 2,.string x,.string y]] w fun e w'=>WrEnd w w' e b0 base L ⟨d.files.set i ⟨d.files[i].name,d.files[i].data++y,d.files[i].kept⟩,d.names,d.moves⟩:=by
 have hat:=at_nmap (d.files.map Df.name) hnd i (by rw [List.length_map];exact hi) (d.files.map Df.name).length (Nat.le_refl _) (by rw [List.length_map];exact hi)
 rw [List.getElem_map,hxi] at hat
 have HC:=xH hat
 obtain ⟨g,s0,hO,-,-⟩:=hm.o0.form (by omega)
 clear hat
 have HG:=xH (Rg.start (k:=2) (x:=x) (y:=y) h)
 have HW:=xH (Wb.start (k:=2) (x:=x) (y:=y) (T:=T) (x2:=x2) (n2:=n2) (m2:=m2) (x4:=x4) (n4:=n4) (m4:=m4) (b0:=b0) hm hbb hbL)
 clear h hm
 go_enter Try.func37,Try.ntmps37
 go_upto_region 1 with fail
 generalize (w.alloc _).alloc _=W0 at HG HW ⊢
 refine wp_swap (c':=Code.region 1 wr1Ops true) (by kernel_rfl) ?_
 refine wp_region_noPanic ?_
 refine wr1 w L T B x (d.files.map Df.name) (i:Nat) (by omega) (xU HC) W0 _ (fun _ _ _ _ _ h=>h) (xU HG).v0 (xU HG).t1 (xU HG).m1 (xU HG).map (by kernel_rfl) ?_
 intro v
 refine NoPanic.normal ?_
 simp only [frL_eq,frG,List.lookup,Nat.reduceBEq,Nat.reduceAdd,Option.getD_some,Option.getD_none]
 have HG1:=xH ((xU HG).on (drewB _));have HW1:=xH ((xU HW).on (drewB _) (xU HW).sz)
 clear HG HW
 generalize W0.drew=W1 at HG1 HW1 ⊢
 have m0:=(xU HG1).b1.cell (i:=0) (by omega)
 simp only [row3] at m0
 have HO:=xH hO
 clear hO
 go_upto_region 7 with fail
 refine wp_swap (c':=Code.region 7 wr7Ops true) (by kernel_rfl) ?_
 refine wp_region_noPanic ?_
 refine wr7 w 2 x y b0 base L o d hy i hi g s0 (xU HO) hs _ _ (fun _ _ _ _ _ h=>h) ((xU HW1).on (drewB _) (xU HW1).sz) (by kernel_rfl) ?_
 intro v2 W2 h2
 refine NoPanic.normal ?_
 simp only [frL_eq,frG,List.lookup,Nat.reduceBEq,Nat.reduceAdd,Option.getD_some,Option.getD_none]
 have HW2:=xH h2
 clear h2 HW1 HG1 m0
 go_wp2_with fail
 go_end0
 exact ⟨rfl,⟨o,(xU HW2).mx⟩,(xU HW2).bel,(xU HW2).ty⟩
theorem write_sync (P:Nat→Prop) (w:World) (d:Dk) (a0:Option Addr) (p0 T B:Nat) (x2:Option Addr) (n2 m2:Nat) (x4:Option Addr) (n4 m4:Nat) (x y:ByteArray) (h:Vs P d a0 p0 T B x2 n2 m2 x4 n4 m4 w) (b0 base L:Nat) (o:C3) (hm:MxSt base L w o.c0 o.c1 o.c2 d.files d.names d.moves) (hx:x.size≤1048576) (hbb:b0≤base) (hbL:base≤L) (hnd:(d.files.map Df.name).Nodup) (i:Nat) (hi:i < d.files.length) (hxi:d.files[i].name=x):Calls Try.prog 37 #[.agg #[.pointer (some ⟨T,0,none⟩),.pointer (some ⟨T,0,none⟩),.slice x2 n2 m2,.pointer (some ⟨T,0,none⟩),.slice x4 n4 m4],.pointer (some ⟨L,0,none⟩),.agg #[.int .i64 3,.string x,.string y]] w fun e w'=>WrEnd w w' e b0 base L ⟨d.files.set i ⟨d.files[i].name,d.files[i].data,d.files[i].data.size⟩,d.names,d.moves⟩:=by
 have hat:=at_nmap (d.files.map Df.name) hnd i (by rw [List.length_map];exact hi) (d.files.map Df.name).length (Nat.le_refl _) (by rw [List.length_map];exact hi)
 rw [List.getElem_map,hxi] at hat
 have HC:=xH hat
 obtain ⟨g,s0,hO,-,-⟩:=hm.o0.form (by omega)
 clear hat
 have HG:=xH (Rg.start (k:=3) (x:=x) (y:=y) h)
 have HW:=xH (Wb.start (k:=3) (x:=x) (y:=y) (T:=T) (x2:=x2) (n2:=n2) (m2:=m2) (x4:=x4) (n4:=n4) (m4:=m4) (b0:=b0) hm hbb hbL)
 clear h hm
 go_enter Try.func37,Try.ntmps37
 go_upto_region 1 with fail
 generalize (w.alloc _).alloc _=W0 at HG HW ⊢
 refine wp_swap (c':=Code.region 1 wr1Ops true) (by kernel_rfl) ?_
 refine wp_region_noPanic ?_
 refine wr1 w L T B x (d.files.map Df.name) (i:Nat) (by omega) (xU HC) W0 _ (fun _ _ _ _ _ h=>h) (xU HG).v0 (xU HG).t1 (xU HG).m1 (xU HG).map (by kernel_rfl) ?_
 intro v
 refine NoPanic.normal ?_
 simp only [frL_eq,frG,List.lookup,Nat.reduceBEq,Nat.reduceAdd,Option.getD_some,Option.getD_none]
 have HG1:=xH ((xU HG).on (drewB _));have HW1:=xH ((xU HW).on (drewB _) (xU HW).sz)
 clear HG HW
 generalize W0.drew=W1 at HG1 HW1 ⊢
 have m0:=(xU HG1).b1.cell (i:=0) (by omega)
 simp only [row3] at m0
 have HO:=xH hO
 clear hO
 go_upto_region 9 with fail
 refine wp_swap (c':=Code.region 9 wr9Ops true) (by kernel_rfl) ?_
 refine wp_region_noPanic ?_
 refine wr9 w 3 x y b0 base L o d i hi g s0 (xU HO) _ _ (fun _ _ _ _ _ h=>h) ((xU HW1).on (drewB _) (xU HW1).sz) (by kernel_rfl) ?_
 intro v2 W2 h2
 refine NoPanic.normal ?_
 simp only [frL_eq,frG,List.lookup,Nat.reduceBEq,Nat.reduceAdd,Option.getD_some,Option.getD_none]
 have HW2:=xH h2
 clear h2 HW1 HG1 m0
 go_wp2_with fail
 go_end0
 exact ⟨rfl,⟨o,(xU HW2).mx⟩,(xU HW2).bel,(xU HW2).ty⟩
theorem write_dirs (P:Nat→Prop) (w:World) (d:Dk) (a0:Option Addr) (p0 T B:Nat) (x2:Option Addr) (n2 m2:Nat) (x4:Option Addr) (n4 m4:Nat) (x y:ByteArray) (h:Vs P d a0 p0 T B x2 n2 m2 x4 n4 m4 w) (b0 base L:Nat) (o:C3) (hm:MxSt base L w o.c0 o.c1 o.c2 d.files d.names d.moves) (hx:x.size≤1048576) (hbb:b0≤base) (hbL:base≤L) (hok:DkOkS d) (hP:∀ b,P b→b≠L) (hT:T≠L) (hB:B≠L∧B < w.heap.size):Calls Try.prog 37 #[.agg #[.pointer (some ⟨T,0,none⟩),.pointer (some ⟨T,0,none⟩),.slice x2 n2 m2,.pointer (some ⟨T,0,none⟩),.slice x4 n4 m4],.pointer (some ⟨L,0,none⟩),.agg #[.int .i64 5,.string x,.string y]] w fun e w'=>WrEnd w w' e b0 base L (keepD d (namesD d)):=by
 obtain ⟨c,-,hc,-⟩:=look_all h.map x (by omega)
 have HC:=xH hc
 clear hc
 have HG:=xH (Rg.start (k:=5) (x:=x) (y:=y) h)
 have HW:=xH (Wb.start (k:=5) (x:=x) (y:=y) (T:=T) (x2:=x2) (n2:=n2) (m2:=m2) (x4:=x4) (n4:=n4) (m4:=m4) (b0:=b0) hm hbb hbL)
 clear h hm
 go_enter Try.func37,Try.ntmps37
 go_upto_region 1 with fail
 generalize (w.alloc _).alloc _=W0 at HG HW ⊢
 refine wp_swap (c':=Code.region 1 wr1Ops true) (by kernel_rfl) ?_
 refine wp_region_noPanic ?_
 refine wr1 w L T B x (d.files.map Df.name) c (by omega) (xU HC) W0 _ (fun _ _ _ _ _ h=>h) (xU HG).v0 (xU HG).t1 (xU HG).m1 (xU HG).map (by kernel_rfl) ?_
 intro v
 refine NoPanic.normal ?_
 simp only [frL_eq,frG,List.lookup,Nat.reduceBEq,Nat.reduceAdd,Option.getD_some,Option.getD_none]
 have HG1:=xH ((xU HG).on (drewB _));have HW1:=xH ((xU HW).on (drewB _) (xU HW).sz)
 clear HG HW
 generalize W0.drew=W1 at HG1 HW1 ⊢
 have m0:=(xU HG1).b1.cell (i:=0) (by omega)
 simp only [row3] at m0
 have HSE:=xH (settle_any P W1 d a0 p0 T B x2 n2 m2 x4 n4 m4 (xU HG1).vs b0 base L o (xU HW1).mx hok hbb hbL hP hT ⟨hB.1,Nat.lt_of_lt_of_le hB.2 (xU HW1).bel.size⟩)
 obtain ⟨r0,r1,r2,r3,r4⟩:=cs5 ((xU HG1).b0) (by omega)
 simp only [row5] at r0 r1 r2 r3 r4
 have HBL:=xH (xU HW1).bel;have HTY:=xH (xU HW1).ty
 clear HG1 HW1 HC hok hP
 go_wp2_with fail
 refine (xU HSE).mono ?_
 rintro e w5 ⟨rfl,⟨o5,hm5⟩,hb5,ht5⟩
 have HM5:=xH hm5;have HB5:=xH ((xU HBL).trans hb5);have HT5:=xH ((xU HTY).trans ht5)
 clear hm5 hb5 ht5 HSE
 go_wp2_with fail
 go_end0
 exact ⟨rfl,⟨o5,xU HM5⟩,xU HB5,xU HT5⟩
end Go.Proofs.Yteikmbkljkkjiaa

namespace Go.Proofs.Yteikmbkljkkjiaa
open Go Go.RowKit Go.WideMaps Go.Maps
theorem find_has {d:Dk} (h:DkOkS d) (x:ByteArray):0≤findF d.files x↔hasB (d.files.map Df.name) x=true:=by
 rw [hasB_iff]
 constructor
 · intro h0
   refine Classical.byContradiction fun hno=>?_
   rw [findF_no (fun j hj=>?_)] at h0
   · omega
   · refine Bool.eq_false_iff.2 fun hs=>hno ?_
     rw [List.mem_map]
     exact ⟨d.files[j],List.getElem_mem hj,by rw [sameB_dec] at hs;exact of_decide_eq_true hs⟩
 · intro hm
   obtain ⟨f,hf,rfl⟩:=List.mem_map.1 hm
   obtain ⟨i,hi,rfl⟩:=List.getElem_of_mem hf
   rw [(h.file i hi (by rw [h.len];exact hi)).find]
   omega
theorem fr2_no (c:Int) (h:c≠0) (e:Int):fr2 c e=c:=by unfold fr2;rw [if_neg h]
theorem fr2_yes (e:Int):fr2 0 e=e:=by unfold fr2;rw [if_pos rfl]
theorem refusal_any (P:Nat→Prop) (w:World) (d:Dk) (a0:Option Addr) (p0 T B:Nat) (x2:Option Addr) (n2 m2:Nat) (x4:Option Addr) (n4 m4:Nat) (k:Int) (x y:ByteArray) (h:Vs P d a0 p0 T B x2 n2 m2 x4 n4 m4 w) (hx:x.size≤1048576) (hok:DkOkS d) :
 Calls Try.prog 36 #[.agg #[.pointer (some ⟨T,0,none⟩),.pointer (some ⟨T,0,none⟩),.slice x2 n2 m2,.pointer (some ⟨T,0,none⟩),.slice x4 n4 m4],.agg #[.int .i64 k,.string x,.string y]] w fun e w'=>e=.returned (.int .i64 (doD d k x y).2)∧Below w.heap.size w w':=by
 have hn1:d.names.length≤1000:=by have:=hok.l2;omega
 have hn2:d.moves.length≤1000:=by have:=hok.l3;omega
 obtain ⟨hnd,heq,hmf⟩:=dk_nodup hok
 rw [← namesD_ok hok] at hmf
 rw [← heq] at hnd
 have h4:n4=d.moves.length:=by
  obtain ⟨am,cm,e4,-,-,-⟩:=h.fn
  simp only [Value.slice.injEq] at e4
  exact e4.2.1
 have key:∀ c,c=(doD d k x y).2→∀ {e:Ending} {w':World},e=.returned (.int .i64 c)∧Below w.heap.size w w'→e=.returned (.int .i64 (doD d k x y).2)∧Below w.heap.size w w':=fun c hc e w' he=>by rw [← hc];exact he
 by_cases k1:k=1
 · subst k1
   refine (refusal_make P w d a0 p0 T B x2 n2 m2 x4 n4 m4 x y h hx).mono fun e w'=>key _ ?_
   rw [h4]
   by_cases ht:nameOkB x=false∨0≤findF d.files x
   · rw [doD_taken hok ht]
     rw [if_pos,fr2_no 3 (by decide)]
     rcases ht with ht | ht
     · rw [ht];simp
     · rw [(find_has hok x).1 ht];simp
   · have hb:(hasB (d.files.map Df.name) x || !nameOkB x)=false:=by
      have e1:hasB (d.files.map Df.name) x=false:=Bool.eq_false_iff.2 fun e=>ht (Or.inr ((find_has hok x).2 e))
      have e2:nameOkB x=true:=by
       cases e:nameOkB x with
       | true=>rfl
       | false=>exact absurd (Or.inl e) ht
      rw [e1,e2];rfl
     rw [hb,if_neg (by decide),fr2_yes]
     by_cases hf:64≤d.files.length∨128≤d.moves.length
     · rw [doD_full hok ht hf,if_pos]
       simpa using hf
     · rw [doD_make hok ht hf,if_neg]
       simpa using hf
 by_cases k2:k=2
 · subst k2
   by_cases hin:x∈namesD d
   · obtain ⟨i,hi,-,hxi,hfi⟩:=names_file hin
     refine (refusal_addY P w d a0 p0 T B x2 n2 m2 x4 n4 m4 x y h hx (namesD d) hmf hn1 hn2 hnd i hi hxi).mono fun e w'=>key _ ?_
     rw [hasB_iff.2 hin,if_neg (by decide),fr2_yes]
     have hds:=(hok.file i hi (by rw [hok.len];exact hi)).data
     have hw:IntKind.i64.wrap (20000 - (d.files[i].data.size:Int))=20000 - (d.files[i].data.size:Int):=by rw [IntKind.wrap_i64];omega
     rw [hw]
     have hfd:=fileD_at hi hfi
     by_cases hz:20000 - (d.files[i].data.size:Int) < (y.size:Int)
     · rw [doD_addfull hok hin (by rw [hfd];exact hz),if_pos (by simpa using hz)]
     · rw [doD_add hok hin (by rw [hfd];exact hz),if_neg (by simpa using hz)]
   · have hno:hasB (namesD d) x=false:=Bool.eq_false_iff.2 fun e=>hin (hasB_iff.1 e)
     have hd2:=doD_nofile (y:=y) hok (by decide:(2:Int)≤2∧(2:Int)≤4) hin
     cases hb:hasB (d.files.map Df.name) x with
     | false =>
       refine (refusal_addN P w d a0 p0 T B x2 n2 m2 x4 n4 m4 x y h hx (namesD d) hmf hn1 hn2 hb).mono fun e w'=>key _ ?_
       rw [hno,hd2,if_pos (by rfl),fr2_no 2 (by decide)]
     | true =>
       obtain ⟨f,hf,hfx⟩:=List.mem_map.1 (hasB_iff.1 hb)
       obtain ⟨i,hi,rfl⟩:=List.getElem_of_mem hf
       refine (refusal_addY P w d a0 p0 T B x2 n2 m2 x4 n4 m4 x y h hx (namesD d) hmf hn1 hn2 hnd i hi hfx).mono fun e w'=>key _ ?_
       rw [hno,hd2,if_pos (by rfl),fr2_no 2 (by decide)]
 by_cases k4:k=4
 · subst k4
   refine (refusal_gone P w d a0 p0 T B x2 n2 m2 x4 n4 m4 x y h hx (namesD d) hmf hn1 hn2).mono fun e w'=>key _ ?_
   rw [h4]
   by_cases hin:x∈namesD d
   · rw [hasB_iff.2 hin,if_neg (by decide),fr2_yes]
     by_cases hf:128≤d.moves.length
     · rw [doD_gonefull hok hin hf,if_pos (by simpa using hf)]
     · rw [doD_gone hok hin hf,if_neg (by simpa using hf)]
   · rw [doD_nofile (y:=y) hok (by decide) hin,Bool.eq_false_iff.2 fun e=>hin (hasB_iff.1 e),if_pos (by rfl),fr2_no 2 (by decide)]
 · refine (refusal_easy d.names d.moves T B _ (d.files.map Df.name) x2 n2 m2 x4 n4 m4 P w h.lt h.ns h.fn hn1 hn2 (namesD d) hmf h.row h.map k x y (by omega) k1 k2 k4).mono fun e w'=>key _ ?_
   unfold refE
   by_cases k3:k=3
   · subst k3
     rw [if_pos rfl]
     by_cases hin:x∈namesD d
     · rw [hasB_iff.2 hin,doD_sync hok hin];rfl
     · rw [doD_nofile (y:=y) hok (by decide) hin,Bool.eq_false_iff.2 fun e=>hin (hasB_iff.1 e)];rfl
   · rw [if_neg k3]
     by_cases k5:k=5
     · subst k5
       rw [if_pos rfl,doD_dirs hok]
     · rw [if_neg k5,doD_kind hok (by omega)]
theorem write_any (P:Nat→Prop) (w:World) (d:Dk) (a0:Option Addr) (p0 T B:Nat) (x2:Option Addr) (n2 m2:Nat) (x4:Option Addr) (n4 m4:Nat) (k:Int) (x y:ByteArray) (h:Vs P d a0 p0 T B x2 n2 m2 x4 n4 m4 w) (b0 base L:Nat) (o:C3) (hm:MxSt base L w o.c0 o.c1 o.c2 d.files d.names d.moves) (hx:x.size≤1048576) (hbb:b0≤base) (hbL:base≤L) (hok:DkOkS d) (hP:∀ b,P b→b≠L) (hT:T≠L) (hB:B≠L∧B < w.heap.size) (h0:(doD d k x y).2=0) :
 Calls Try.prog 37 #[.agg #[.pointer (some ⟨T,0,none⟩),.pointer (some ⟨T,0,none⟩),.slice x2 n2 m2,.pointer (some ⟨T,0,none⟩),.slice x4 n4 m4],.pointer (some ⟨L,0,none⟩),.agg #[.int .i64 k,.string x,.string y]] w fun e w'=>WrEnd w w' e b0 base L (doD d k x y).1:=by
 obtain ⟨hnd,heq,-⟩:=dk_nodup hok
 rw [← heq] at hnd
 have hn2:=hok.l3
 by_cases k1:k=1
 · subst k1
   by_cases ht:nameOkB x=false∨0≤findF d.files x
   · rw [doD_taken hok ht] at h0;cases h0
   by_cases hf:64≤d.files.length∨128≤d.moves.length
   · rw [doD_full hok ht hf] at h0;cases h0
   rw [doD_make hok ht hf]
   exact write_make P w d a0 p0 T B x2 n2 m2 x4 n4 m4 x y h b0 base L o hm hx hbb hbL (by omega) (by omega)
 by_cases k5:k=5
 · subst k5
   rw [doD_dirs hok]
   exact write_dirs P w d a0 p0 T B x2 n2 m2 x4 n4 m4 x y h b0 base L o hm hx hbb hbL hok hP hT hB
 by_cases hk:2≤k∧k≤4
 case neg=>rw [doD_kind hok (by omega)] at h0;cases h0
 by_cases hin:x∈namesD d
 case neg=>rw [doD_nofile hok hk hin] at h0;cases h0
 obtain ⟨i,hi,-,hxi,hfi⟩:=names_file hin
 have hfd:=fileD_at hi hfi
 have hds:=(hok.file i hi (by rw [hok.len];exact hi)).data
 by_cases k2:k=2
 · subst k2
   by_cases hz:20000 - ((fileD d x).data.size:Int) < (y.size:Int)
   · rw [doD_addfull hok hin hz] at h0;cases h0
   rw [doD_add hok hin hz,putD_at hfi,hfd]
   rw [hfd] at hz
   exact write_add P w d a0 p0 T B x2 n2 m2 x4 n4 m4 x y h b0 base L o hm hx hbb hbL (by omega) hnd i hi hxi (by omega)
 by_cases k3:k=3
 · subst k3
   rw [doD_sync hok hin,putD_at hfi,hfd]
   exact write_sync P w d a0 p0 T B x2 n2 m2 x4 n4 m4 x y h b0 base L o hm hx hbb hbL hnd i hi hxi
 obtain rfl:k=4:=by omega
 by_cases hf:128≤d.moves.length
 · rw [doD_gonefull hok hin hf] at h0;cases h0
 rw [doD_gone hok hin hf]
 exact write_gone P w d a0 p0 T B x2 n2 m2 x4 n4 m4 x y h b0 base L o hm hx hbb hbL (by omega)
end Go.Proofs.Yteikmbkljkkjiaa

namespace Go.Proofs.Yteikmbkljkkjiaa
open Go Go.RowKit
structure CfSt (w:World) (x y z:Value) (W:World):Prop where
 below:Below w.heap.size w W
 box:W.rowIs w.heap.size 44 3 (row3 x y z)
 out:W.rowIs (w.heap.size+1) 44 3 (row3 (.string ByteArray.empty) (.string ByteArray.empty) (.int .i64 0))
theorem CfSt.on {w W W':World} {x y z:Value} (h:CfSt w x y z W) (hb:Below W.heap.size W W'):CfSt w x y z W' :=
 ⟨h.below.trans (hb.mono h.below.size),h.box.of_block (hb.block _ h.box.lt),h.out.of_block (hb.block _ h.out.lt)⟩
theorem CfSt.drew {w W:World} {x y z:Value} (h:CfSt w x y z W):CfSt w x y z W.drew:=h.on (Below.refl _ _).drew
theorem CfSt.c {w W:World} {x y:ByteArray} {z:Int} (h:CfSt w (.string x) (.string y) (.int .i64 z) W):W.cell? ⟨w.heap.size,0,none⟩=some (.string x)∧W.cell? ⟨w.heap.size,1,none⟩=some (.string y)∧W.cell? ⟨w.heap.size,2,none⟩=some (.int .i64 z)∧W.cell? ⟨w.heap.size+1,0,none⟩=some (.string ByteArray.empty)∧W.cell? ⟨w.heap.size+1,1,none⟩=some (.string ByteArray.empty)∧W.cell? ⟨w.heap.size+1,2,none⟩=some (.int .i64 0)∧W.frozen? ⟨w.heap.size+1,0,none⟩=false∧W.frozen? ⟨w.heap.size+1,1,none⟩=false∧W.frozen? ⟨w.heap.size+1,2,none⟩=false :=
 ⟨h.box.cell (i:=0) (by omega),h.box.cell (i:=1) (by omega),h.box.cell (i:=2) (by omega),h.out.cell (i:=0) (by omega),h.out.cell (i:=1) (by omega),h.out.cell (i:=2) (by omega),h.out.frozen 0,h.out.frozen 1,h.out.frozen 2⟩
theorem fileCopy_any (x y:ByteArray) (z:Int) (w:World) (hx:x.size≤1099511627776) (hy:y.size≤1099511627776) :
 Calls Try.prog 115 #[.agg #[.string x,.string y,.int .i64 z]] w fun e w'=>e=.returned (.agg #[.string x,.string y,.int .i64 z])∧Below w.heap.size w w':=by
 obtain ⟨W0,hW0⟩:∃ W0,(w.alloc (.cells #[.string x,.string y,.int .i64 z] 44)).alloc (.cells #[.string ByteArray.empty,.string ByteArray.empty,.int .i64 0] 44)=W0:=⟨_,rfl⟩
 have hst:CfSt w (.string x) (.string y) (.int .i64 z) W0:=by
  rw [← hW0]
  have q:=row3_alloc (w.alloc (.cells #[.string x,.string y,.int .i64 z] 44)) (.string ByteArray.empty) (.string ByteArray.empty) (.int .i64 0) 44
  rw [World.size_alloc] at q
  exact ⟨((Below.refl _ w).alloc (Nat.le_refl _) _).alloc (by simp) _,(row3_alloc w _ _ _ _).alloc _,q⟩
 have HCL:Hid (∀ (s:ByteArray) (W:World),s.size≤1099511627776→CfSt w (.string x) (.string y) (.int .i64 z) W→Calls Try.prog 40 #[.string s] W fun e w'=>e=.returned (.string s)∧Hid (CfSt w (.string x) (.string y) (.int .i64 z) w')∧w'.cell? ⟨w.heap.size,0,none⟩=some (.string x)∧w'.cell? ⟨w.heap.size,1,none⟩=some (.string y)∧w'.cell? ⟨w.heap.size,2,none⟩=some (.int .i64 z)∧w'.cell? ⟨w.heap.size+1,0,none⟩=some (.string ByteArray.empty)∧w'.cell? ⟨w.heap.size+1,1,none⟩=some (.string ByteArray.empty)∧w'.cell? ⟨w.heap.size+1,2,none⟩=some (.int .i64 0)∧w'.frozen? ⟨w.heap.size+1,0,none⟩=false∧w'.frozen? ⟨w.heap.size+1,1,none⟩=false∧w'.frozen? ⟨w.heap.size+1,2,none⟩=false):=fun s W hs hW =>
  (clone_any s W (by omega)).mono fun e w' ⟨h1,h2⟩=>⟨h1,xH (hW.on h2),(hW.on h2).c⟩
 obtain ⟨f0,f1,f2,f3,f4,f5,f6,f7,f8⟩:=hst.c
 have HST:=xH hst;have HSTD:=xH hst.drew
 clear hst
 subst hW0
 go_enter Try.func115,Try.ntmps115
 go_wp2_with fail
 go_region_held3 (fun W=>W.cell? ⟨w.heap.size,0,none⟩=some (.string x)∧W.cell? ⟨w.heap.size,1,none⟩=some (.string y)∧W.cell? ⟨w.heap.size,2,none⟩=some (.int .i64 z)) (first | exact ⟨z0,z1,z2⟩ | exact ⟨f0,f1,f2⟩ | go_keep)
  (first | (go_at_call 40;refine (xU HCL _ _ (by assumption) (by first | exact xU HSA | exact (xU HSA).drew | exact xU HSTD | exact xU HST)).mono ?_;rintro e w2 ⟨rfl,HSA,z0,z1,z2,z3,z4,z5,z6,z7,z8⟩))
 all_goals
  go_wp2_with fail
  refine bodyPost_ret (v:=.agg #[.string x,.string y,.int .i64 z]) (by simp [results,Try.results115,go_sem,z3,z4,z5]) rfl ⟨rfl,?_⟩
  exact (((xU HSA).below.setCell (by simp) _).setCell (by simp) _).setCell (by simp) _
structure CmSt (w:World) (x y:Value) (W:World):Prop where
 below:Below w.heap.size w W
 box:W.rowIs w.heap.size 60 2 (fun i=>if i=0 then x else y)
 out:W.rowIs (w.heap.size+1) 60 2 (fun i=>if i=0 then .bool false else .string ByteArray.empty)
theorem CmSt.on {w W W':World} {x y:Value} (h:CmSt w x y W) (hb:Below W.heap.size W W'):CmSt w x y W' :=
 ⟨h.below.trans (hb.mono h.below.size),h.box.of_block (hb.block _ h.box.lt),h.out.of_block (hb.block _ h.out.lt)⟩
theorem CmSt.drew {w W:World} {x y:Value} (h:CmSt w x y W):CmSt w x y W.drew:=h.on (Below.refl _ _).drew
theorem CmSt.c {w W:World} {x y:Value} (h:CmSt w x y W):W.cell? ⟨w.heap.size,0,none⟩=some x∧W.cell? ⟨w.heap.size,1,none⟩=some y∧W.cell? ⟨w.heap.size+1,0,none⟩=some (.bool false)∧W.cell? ⟨w.heap.size+1,1,none⟩=some (.string ByteArray.empty)∧W.frozen? ⟨w.heap.size+1,0,none⟩=false∧W.frozen? ⟨w.heap.size+1,1,none⟩=false :=
 ⟨h.box.cell (i:=0) (by omega),h.box.cell (i:=1) (by omega),h.out.cell (i:=0) (by omega),h.out.cell (i:=1) (by omega),h.out.frozen 0,h.out.frozen 1⟩
theorem row2_new (w:World) (x y:Value) (t:TypeId):(w.alloc (.cells #[x,y] t)).rowIs w.heap.size t 2 (fun i=>if i=0 then x else y):=by
 refine ⟨#[x,y],heap_alloc_new w _,rfl,fun i hi=>?_⟩
 match i,hi with
 | 0,_=>rfl
 | 1,_=>rfl
theorem moveCopy_any (g:Bool) (y:ByteArray) (w:World) (hy:y.size≤1099511627776) :
 Calls Try.prog 116 #[.agg #[.bool g,.string y]] w fun e w'=>e=.returned (.agg #[.bool g,.string y])∧Below w.heap.size w w':=by
 obtain ⟨W0,hW0⟩:∃ W0,(w.alloc (.cells #[.bool g,.string y] 60)).alloc (.cells #[.bool false,.string ByteArray.empty] 60)=W0:=⟨_,rfl⟩
 have hst:CmSt w (.bool g) (.string y) W0:=by
  rw [← hW0]
  have q:=row2_new (w.alloc (.cells #[.bool g,.string y] 60)) (.bool false) (.string ByteArray.empty) 60
  rw [World.size_alloc] at q
  exact ⟨((Below.refl _ w).alloc (Nat.le_refl _) _).alloc (by simp) _,(row2_new w _ _ _).alloc _,q⟩
 have HCL:Hid (∀ (s:ByteArray) (W:World),s.size≤1099511627776→CmSt w (.bool g) (.string y) W→Calls Try.prog 40 #[.string s] W fun e w'=>e=.returned (.string s)∧Hid (CmSt w (.bool g) (.string y) w')∧w'.cell? ⟨w.heap.size,0,none⟩=some (.bool g)∧w'.cell? ⟨w.heap.size,1,none⟩=some (.string y)∧w'.cell? ⟨w.heap.size+1,0,none⟩=some (.bool false)∧w'.cell? ⟨w.heap.size+1,1,none⟩=some (.string ByteArray.empty)∧w'.frozen? ⟨w.heap.size+1,0,none⟩=false∧w'.frozen? ⟨w.heap.size+1,1,none⟩=false):=fun s W hs hW =>
  (clone_any s W (by omega)).mono fun e w' ⟨h1,h2⟩=>⟨h1,xH (hW.on h2),(hW.on h2).c⟩
 obtain ⟨f0,f1,f3,f4,f6,f7⟩:=hst.c
 have HST:=xH hst;have HSTD:=xH hst.drew
 clear hst
 subst hW0
 go_enter Try.func116,Try.ntmps116
 go_wp2_with fail
 go_region_held3 (fun W=>W.cell? ⟨w.heap.size,0,none⟩=some (.bool g)∧W.cell? ⟨w.heap.size,1,none⟩=some (.string y)) (first | exact ⟨z0,z1⟩ | exact ⟨f0,f1⟩ | go_keep)
  (first | (go_at_call 40;refine (xU HCL _ _ (by assumption) (by first | exact xU HSA | exact (xU HSA).drew | exact xU HSTD | exact xU HST)).mono ?_;rintro e w2 ⟨rfl,HSA,z0,z1,z3,z4,z6,z7⟩))
 all_goals
  go_wp2_with fail
  refine bodyPost_ret (v:=.agg #[.bool g,.string y]) (by simp [results,Try.results116,go_sem,z3,z4]) rfl ⟨rfl,?_⟩
  exact ((xU HSA).below.setCell (by simp) _).setCell (by simp) _
end Go.Proofs.Yteikmbkljkkjiaa

namespace Go.Proofs.Yteikmbkljkkjiaa
open Go Go.RowKit
theorem run_copy_whole {P:Program} (w:World) (T ty elem:TypeId) (i:TypeInfo) (g m cap:Nat) (a:Addr) (sCap:Nat) (cur:Array Value) (t:TypeId) (cs:List Value)
 (hu:P.underlying T=some (.slice elem)) (hi:P.info? elem=some i) (hg:w.heap[g]? = some (.cells cur t (0,0))) (hn:cs.length=m * i.size) (hc:cur.size=m * i.size)
 (hsrc:∀ j v,cs[j]? = some v→w.cell? (a.add j)=some v) (h1:∀ v∈cs,v.oneCell'=true) :
 (Builtin.copy_ #[T,T] ty #[.slice (some ⟨g,0,none⟩) m cap,.slice (some a) m sCap]).run P w=.ok (goInt m) (w.setRow g cs.toArray):=by
 have hl:=run_loadCells_list (P:=P) w a cs hsrc
 have hst:=run_storeCells_at P g 0 t cs 0 cur w hg (by omega) h1
 have he:(cur.toList.take (0+0)++cs++cur.toList.drop (0+0+cs.length))=cs:=by
  rw [List.drop_eq_nil_of_le (by simp;omega)];simp
 rw [he] at hst
 rw [hn] at hl
 simp [Builtin.copy_,run_underlying hu,Builtin.lenOf,Builtin.firstCells,sizeOf,typeInfo,hi,hl,hst]
theorem setCell_idem {w:World} {g i:Nat} {cur:Array Value} {t:TypeId} {fr:Nat × Nat} {v:Value} (hg:w.heap[g]? = some (.cells cur t fr)) (h:cur[i]? = some v):w.setCell ⟨g,i,none⟩ v=w:=by
 rw [setCell_eq_setRow w g i cur t fr v hg]
 have hc:cur.setIfInBounds i v=cur:=by
  obtain ⟨hlt,hv⟩:=Array.getElem?_eq_some_iff.1 h
  subst hv
  simp [Array.setIfInBounds,hlt]
 rw [hc]
 exact setRow_self w g cur t fr hg
end Go.Proofs.Yteikmbkljkkjiaa

namespace Go.Proofs.Yteikmbkljkkjiaa
open Go Go.RowKit
theorem own_of_block {w:World} {base g n size:Nat} {t:TypeId} {xs:List Value} (hg:w.heap[g]? = some (.cells xs.toArray t (0,0))) (hb:base≤g) (hl:xs.length=n * size) (hm:n≤maxLen):w.ownsRow base t size (.slice (some ⟨g,0,none⟩) n n) n xs :=
 ⟨hl,Or.inr ⟨g,n,xs.toArray,rfl,hb,hg,Nat.le_refl _,hm,by simpa using hl,by rw [← hl];simp⟩⟩
theorem copiesF_any (fs:List Df) (P:Nat→Prop) (a:Option Addr) (cap:Nat) (w:World) (hv:FsAt P w (.slice a fs.length cap) fs) (hl:fs.length≤1000) (hs:∀ f,f∈fs→f.name.size≤1099511627776∧f.data.size≤1099511627776) :
 Calls Try.prog 57 #[.slice a fs.length cap] w fun e w'=>∃ a' cap',e=.returned (.slice a' fs.length cap')∧w'.ownsRow w.heap.size 44 3 (.slice a' fs.length cap') fs.length (fs.map Df.cs).flatten∧Below w.heap.size w w':=by
 by_cases h0:fs.length=0
 · have hnil:fs=[]:=List.eq_nil_of_length_eq_zero h0
   subst hnil
   clear hv hs
   go_enter Try.func57,Try.ntmps57
   go_wp2_with fail
   go_ret
   exact ⟨none,0,rfl,World.ownsRow_nil _ _ _ _,Below.refl _ _⟩
 have hcs:∀ r,r∈fs.map Df.cs→r.length=3:=fun r hr=>by obtain ⟨f,-,rfl⟩:=List.mem_map.1 hr;rfl
 obtain ⟨ad,rfl,hsrc⟩:=flat_src hv.1 hcs (by omega)
 have hfl:=flat_len (fs.map Df.cs) hcs
 rw [List.length_map] at hfl
 have h1c:∀ u∈(fs.map Df.cs).flatten,u.oneCell'=true:=fun u hu=>by
  obtain ⟨r,hr,hu⟩:=List.mem_flatten.1 hu
  obtain ⟨f,-,rfl⟩:=List.mem_map.1 hr
  simp only [Df.cs,List.mem_cons,List.not_mem_nil,or_false] at hu
  rcases hu with rfl | rfl | rfl <;> rfl
 obtain ⟨i0,hi,hz0,hz1,hz2⟩:=infoFileD
 have hmk:=run_make_file fs.length (by omega)
 have HSRC:=xH (fun o=>show ∀ j u,(fs.map Df.cs).flatten[j]? = some u→(w.alloc o).cell? (ad.add j)=some u from fun j u hj=>by
  have hc:=hsrc j u hj
  rw [World.cell?_of_block (w:=w) (heap_alloc_old w o (World.block_lt_of_cell? w _ hc))];exact hc)
 have HOK:=xH hv.2;have HSZ:=xH hs;have HCS:=xH hcs
 have hcp:=run_copy_whole (P:=Try.prog) (w.alloc (.cells (madeCells zF (fs.length * 3)) 44)) 23 3 44 i0 w.heap.size fs.length fs.length ad cap (madeCells zF (fs.length * 3)) 44 (fs.map Df.cs).flatten Try.underlying23 hi (heap_alloc_new w _) (by rw [hz1];exact hfl) (by rw [size_madeCells,hz1]) (xU HSRC _) h1c
 obtain ⟨W2,hW2⟩:∃ W2,(w.alloc (.cells (madeCells zF (fs.length * 3)) 44)).setRow w.heap.size (fs.map Df.cs).flatten.toArray=W2:=⟨_,rfl⟩
 have hg2:W2.heap[w.heap.size]? = some (.cells (fs.map Df.cs).flatten.toArray 44 (0,0)):=by rw [← hW2];exact setRow_heap _ w.heap.size (madeCells zF (fs.length * 3)) _ _ _ (heap_alloc_new w _)
 have hb2:Below w.heap.size w W2:=by rw [← hW2];exact below_setRow ((Below.refl _ w).alloc (Nat.le_refl _) _) (Nat.le_refl _) _
 rw [hW2] at hcp
 have HG2:=xH hg2
 have hq:(((fs.length:Nat):Int)==0)=false:=by
  rw [beq_eq_false_iff_ne];omega
 have hs2:w.heap.size < W2.heap.size:=(Array.getElem?_eq_some_iff.1 hg2).1
 have HB2:=xH hb2
 clear hv hsrc hs hcs h1c hi hz0 hz2 hfl hz1 hb2 hg2 hW2 HSRC
 go_enter Try.func57,Try.ntmps57
 go_wp2_with fail
 clear hcp hmk
 go_loopw [16] (fun i wr=>∃ (k:Nat),k≤fs.length∧i=.int .i64 k∧Hid (wr.heap[w.heap.size]? = some (.cells (fs.map Df.cs).flatten.toArray 44 (0,0)))∧Hid (Below w.heap.size w wr)) (fun i _=>fs.length - (intOf i).toNat)
 case atStart=>exact ⟨0,Nat.zero_le _,rfl,HG2,HB2⟩
 case round =>
  clear HG2 HB2
  obtain ⟨k,hk,rfl,HG,HB⟩:=hrel
  by_cases hlt:k < fs.length
  · have hc:∀ j,j < 3→(fs.map Df.cs).flatten[k * 3+j]? = some (fs[k].cs.getD j undef):=fun j hj=>by
     have:=flat_get (fs.map Df.cs) (xU HCS) k (by rw [List.length_map];exact hlt) j hj
     rw [List.getElem_map] at this
     exact this
    have hcw:∀ (V:World),V.heap[w.heap.size]? = some (.cells (fs.map Df.cs).flatten.toArray 44 (0,0))→∀ j,j < 3→V.cell? ⟨w.heap.size,k * 3+j,none⟩=some (fs[k].cs.getD j undef)∧V.frozen? ⟨w.heap.size,k * 3+j,none⟩=false∧V.setCell ⟨w.heap.size,k * 3+j,none⟩ (fs[k].cs.getD j undef)=V:=fun V hV j hj=>by
     have h1:=hc j hj
     refine ⟨by simp only [World.cell?, hV];simpa using h1,by simp [World.frozen?, hV],setCell_idem hV (by simpa using h1)⟩
    have hz:=xU HSZ fs[k] (List.getElem_mem hlt)
    have e0:=(hcw wr HG.out 0 (by omega)).1;have e1:=(hcw wr HG.out 1 (by omega)).1;have e2:=(hcw wr HG.out 2 (by omega)).1
    have HCW:=xH hcw
    clear hc hcw
    simp only [Df.cs,List.getD_cons_zero,List.getD_cons_succ,Nat.add_zero] at e0 e1 e2
    generalize hfk:fs[k]=x at *
    have HFC:=xH (fileCopy_any x.name x.data x.kept wr hz.1 hz.2)
    clear hz
    go_wp2_with (first
     | (refine (xU HFC).mono ?_;rintro e w3 ⟨rfl,hb3⟩
        have hg3:=(hb3.block w.heap.size (Array.getElem?_eq_some_iff.1 HG.out).1).trans HG.out
        have c0:=xU HCW w3 hg3 0 (by omega);have c1:=xU HCW w3 hg3 1 (by omega);have c2:=xU HCW w3 hg3 2 (by omega)
        simp only [Df.cs,List.getD_cons_zero,List.getD_cons_succ,Nat.add_zero] at c0 c1 c2
        obtain ⟨c0a,c0b,c0c⟩:=c0;obtain ⟨c1a,c1b,c1c⟩:=c1;obtain ⟨c2a,c2b,c2c⟩:=c2
        have HG3:=xH hg3;have HB3:=xH (HB.out.trans (hb3.mono HB.out.size));clear hg3 hb3))
    go_roundw
    case rel=>exact ⟨k+1,by omega,by go_num,HG3,HB3⟩
    case measure=>simp [intOf];omega
  · go_wp2_with fail
    go_ret
    exact ⟨_,_,rfl,own_of_block HG.out (Nat.le_refl _) (by rw [flat_len _ (xU HCS),List.length_map]) (by unfold maxLen;omega),HB.out⟩
theorem copiesM_any (fs:List Dm) (P:Nat→Prop) (a:Option Addr) (cap:Nat) (w:World) (hv:MsAt P w (.slice a fs.length cap) fs) (hl:fs.length≤1000) (hs:∀ f,f∈fs→f.name.size≤1099511627776) :
 Calls Try.prog 58 #[.slice a fs.length cap] w fun e w'=>∃ a' cap',e=.returned (.slice a' fs.length cap')∧w'.ownsRow w.heap.size 60 2 (.slice a' fs.length cap') fs.length (fs.map Dm.cs).flatten∧Below w.heap.size w w':=by
 by_cases h0:fs.length=0
 · have hnil:fs=[]:=List.eq_nil_of_length_eq_zero h0
   subst hnil
   clear hv hs
   go_enter Try.func58,Try.ntmps58
   go_wp2_with fail
   go_ret
   exact ⟨none,0,rfl,World.ownsRow_nil _ _ _ _,Below.refl _ _⟩
 have hcs:∀ r,r∈fs.map Dm.cs→r.length=2:=fun r hr=>by obtain ⟨f,-,rfl⟩:=List.mem_map.1 hr;rfl
 obtain ⟨ad,rfl,hsrc⟩:=flat_src hv.1 hcs (by omega)
 have hfl:=flat_len (fs.map Dm.cs) hcs
 rw [List.length_map] at hfl
 have h1c:∀ u∈(fs.map Dm.cs).flatten,u.oneCell'=true:=fun u hu=>by
  obtain ⟨r,hr,hu⟩:=List.mem_flatten.1 hu
  obtain ⟨f,-,rfl⟩:=List.mem_map.1 hr
  simp only [Dm.cs,List.mem_cons,List.not_mem_nil,or_false] at hu
  rcases hu with rfl | rfl <;> rfl
 obtain ⟨i0,hi,hz0,hz1,hz2⟩:=infoMoveD
 have hmk:=run_make_move fs.length (by omega)
 have HSRC:=xH (fun o=>show ∀ j u,(fs.map Dm.cs).flatten[j]? = some u→(w.alloc o).cell? (ad.add j)=some u from fun j u hj=>by
  have hc:=hsrc j u hj
  rw [World.cell?_of_block (w:=w) (heap_alloc_old w o (World.block_lt_of_cell? w _ hc))];exact hc)
 have HOK:=xH hv.2;have HSZ:=xH hs;have HCS:=xH hcs
 have hcp:=run_copy_whole (P:=Try.prog) (w.alloc (.cells (madeCells zM (fs.length * 2)) 60)) 25 3 60 i0 w.heap.size fs.length fs.length ad cap (madeCells zM (fs.length * 2)) 60 (fs.map Dm.cs).flatten Try.underlying25 hi (heap_alloc_new w _) (by rw [hz1];exact hfl) (by rw [size_madeCells,hz1]) (xU HSRC _) h1c
 obtain ⟨W2,hW2⟩:∃ W2,(w.alloc (.cells (madeCells zM (fs.length * 2)) 60)).setRow w.heap.size (fs.map Dm.cs).flatten.toArray=W2:=⟨_,rfl⟩
 have hg2:W2.heap[w.heap.size]? = some (.cells (fs.map Dm.cs).flatten.toArray 60 (0,0)):=by rw [← hW2];exact setRow_heap _ w.heap.size (madeCells zM (fs.length * 2)) _ _ _ (heap_alloc_new w _)
 have hb2:Below w.heap.size w W2:=by rw [← hW2];exact below_setRow ((Below.refl _ w).alloc (Nat.le_refl _) _) (Nat.le_refl _) _
 rw [hW2] at hcp
 have HG2:=xH hg2
 have hq:(((fs.length:Nat):Int)==0)=false:=by
  rw [beq_eq_false_iff_ne];omega
 have hs2:w.heap.size < W2.heap.size:=(Array.getElem?_eq_some_iff.1 hg2).1
 have HB2:=xH hb2
 clear hv hsrc hs hcs h1c hi hz0 hz2 hfl hz1 hb2 hg2 hW2 HSRC
 go_enter Try.func58,Try.ntmps58
 go_wp2_with fail
 clear hcp hmk
 go_loopw [16] (fun i wr=>∃ (k:Nat),k≤fs.length∧i=.int .i64 k∧Hid (wr.heap[w.heap.size]? = some (.cells (fs.map Dm.cs).flatten.toArray 60 (0,0)))∧Hid (Below w.heap.size w wr)) (fun i _=>fs.length - (intOf i).toNat)
 case atStart=>exact ⟨0,Nat.zero_le _,rfl,HG2,HB2⟩
 case round =>
  clear HG2 HB2
  obtain ⟨k,hk,rfl,HG,HB⟩:=hrel
  by_cases hlt:k < fs.length
  · have hc:∀ j,j < 2→(fs.map Dm.cs).flatten[k * 2+j]? = some (fs[k].cs.getD j undef):=fun j hj=>by
     have:=flat_get (fs.map Dm.cs) (xU HCS) k (by rw [List.length_map];exact hlt) j hj
     rw [List.getElem_map] at this
     exact this
    have hcw:∀ (V:World),V.heap[w.heap.size]? = some (.cells (fs.map Dm.cs).flatten.toArray 60 (0,0))→∀ j,j < 2→V.cell? ⟨w.heap.size,k * 2+j,none⟩=some (fs[k].cs.getD j undef)∧V.frozen? ⟨w.heap.size,k * 2+j,none⟩=false∧V.setCell ⟨w.heap.size,k * 2+j,none⟩ (fs[k].cs.getD j undef)=V:=fun V hV j hj=>by
     have h1:=hc j hj
     refine ⟨by simp only [World.cell?, hV];simpa using h1,by simp [World.frozen?, hV],setCell_idem hV (by simpa using h1)⟩
    have hz:=xU HSZ fs[k] (List.getElem_mem hlt)
    have e0:=(hcw wr HG.out 0 (by omega)).1;have e1:=(hcw wr HG.out 1 (by omega)).1
    have HCW:=xH hcw
    clear hc hcw
    simp only [Dm.cs,List.getD_cons_zero,List.getD_cons_succ,Nat.add_zero] at e0 e1
    generalize hfk:fs[k]=x at *
    have HFC:=xH (moveCopy_any x.gone x.name wr hz)
    clear hz
    go_wp2_with (first
     | (refine (xU HFC).mono ?_;rintro e w3 ⟨rfl,hb3⟩
        have hg3:=(hb3.block w.heap.size (Array.getElem?_eq_some_iff.1 HG.out).1).trans HG.out
        have c0:=xU HCW w3 hg3 0 (by omega);have c1:=xU HCW w3 hg3 1 (by omega)
        simp only [Dm.cs,List.getD_cons_zero,List.getD_cons_succ,Nat.add_zero] at c0 c1
        obtain ⟨c0a,c0b,c0c⟩:=c0;obtain ⟨c1a,c1b,c1c⟩:=c1
        have HG3:=xH hg3;have HB3:=xH (HB.out.trans (hb3.mono HB.out.size));clear hg3 hb3))
    go_roundw
    case rel=>exact ⟨k+1,by omega,by go_num,HG3,HB3⟩
    case measure=>simp [intOf];omega
  · go_wp2_with fail
    go_ret
    exact ⟨_,_,rfl,own_of_block HG.out (Nat.le_refl _) (by rw [flat_len _ (xU HCS),List.length_map]) (by unfold maxLen;omega),HB.out⟩
end Go.Proofs.Yteikmbkljkkjiaa

namespace Go.Proofs.Yteikmbkljkkjiaa
open Go Go.RowKit Go.WideMaps Go.Maps
end Go.Proofs.Yteikmbkljkkjiaa

namespace Go.Proofs.Yteikmbkljkkjiaa
open Go Go.RowKit
structure CdSt (w:World) (d:Dk) (c:C3) (W:World):Prop where
 below:Below w.heap.size w W
 box:W.rowIs w.heap.size 27 3 (row3 c.c0 c.c1 c.c2)
 out:W.rowIs (w.heap.size+1) 27 3 (row3 (.slice none 0 0) (.slice none 0 0) (.slice none 0 0))
 dk:DkAt (fun b=>b < w.heap.size) W d c
theorem CdSt.on {w W W':World} {d:Dk} {c:C3} (h:CdSt w d c W) (hb:Below W.heap.size W W'):CdSt w d c W' :=
 ⟨h.below.trans (hb.mono h.below.size),h.box.of_block (hb.block _ h.box.lt),h.out.of_block (hb.block _ h.out.lt),h.dk.carry (fun b hb'=>hb.block b (Nat.lt_of_lt_of_le hb' h.below.size)) (fun _ h=>h)⟩
theorem CdSt.drew {w W:World} {d:Dk} {c:C3} (h:CdSt w d c W):CdSt w d c W.drew:=h.on (Below.refl _ _).drew
def CdC (w:World) (c0 c1 c2:Value) (W:World):Prop:=W.cell? ⟨w.heap.size,0,none⟩=some c0∧W.cell? ⟨w.heap.size,1,none⟩=some c1∧W.cell? ⟨w.heap.size,2,none⟩=some c2∧W.cell? ⟨w.heap.size+1,0,none⟩=some (.slice none 0 0)∧W.cell? ⟨w.heap.size+1,1,none⟩=some (.slice none 0 0)∧W.cell? ⟨w.heap.size+1,2,none⟩=some (.slice none 0 0)∧W.frozen? ⟨w.heap.size+1,0,none⟩=false∧W.frozen? ⟨w.heap.size+1,1,none⟩=false∧W.frozen? ⟨w.heap.size+1,2,none⟩=false
theorem CdSt.c {w W:World} {d:Dk} {c:C3} (h:CdSt w d c W):CdC w c.c0 c.c1 c.c2 W :=
 ⟨h.box.cell (i:=0) (by omega),h.box.cell (i:=1) (by omega),h.box.cell (i:=2) (by omega),h.out.cell (i:=0) (by omega),h.out.cell (i:=1) (by omega),h.out.cell (i:=2) (by omega),h.out.frozen 0,h.out.frozen 1,h.out.frozen 2⟩
theorem own_slice0 {w:World} {base:Nat} {e:TypeId} {size:Nat} {v:Value} {n:Nat} {xs:List Value} (h:w.ownsRow base e size v n xs):∃ a cap,v=.slice a n cap:=by
 rcases h.2 with ⟨hv,h0⟩ | ⟨g,c,u,hv,_⟩
 · exact ⟨none,0,by rw [hv,h0]⟩
 · exact ⟨_,_,hv⟩
theorem own_low {w:World} {base b:Nat} {e:TypeId} {size:Nat} {v:Value} {n:Nat} {xs:List Value} (h:w.ownsRow base e size v n xs) (hb:b≤base):w.ownsRow b e size v n xs :=
 ⟨h.1,h.2.imp id fun ⟨g,c,u,h1,h2,h3⟩=>⟨g,c,u,h1,Nat.le_trans hb h2,h3⟩⟩
theorem copyDisk_any (d:Dk) (P:Nat→Prop) (c:C3) (w:World) (hP:∀ b,P b→b < w.heap.size) (hv:DkAt P w d c) (hl:d.files.length≤1000∧d.names.length≤1000∧d.moves.length≤1000)
 (hs:(∀ f,f∈d.files→f.name.size≤1099511627776∧f.data.size≤1099511627776)∧(∀ x,x∈d.names→x.size≤1099511627776)∧(∀ f,f∈d.moves→f.name.size≤1099511627776)) :
 Calls Try.prog 35 #[.agg #[c.c0,c.c1,c.c2]] w fun e w'=>∃ c':C3,e=.returned (.agg #[c'.c0,c'.c1,c'.c2])∧w'.ownsRow w.heap.size 44 3 c'.c0 d.files.length (d.files.map Df.cs).flatten∧w'.ownsRow w.heap.size 9 1 c'.c1 d.names.length (d.names.map Value.string)∧w'.ownsRow w.heap.size 60 2 c'.c2 d.moves.length (d.moves.map Dm.cs).flatten∧Below w.heap.size w w':=by
 obtain ⟨c0,c1,c2⟩:=c
 obtain ⟨a0,cap0,e0,-⟩:=hv.fs.open
 obtain ⟨a1,cap1,e1,-⟩:=id hv.ns
 obtain ⟨a2,cap2,e2,-⟩:=hv.ms.open
 simp only at e0 e1 e2
 subst e0 e1 e2
 obtain ⟨W0,hW0⟩:∃ W0,(w.alloc (.cells #[.slice a0 d.files.length cap0,.slice a1 d.names.length cap1,.slice a2 d.moves.length cap2] 27)).alloc (.cells #[.slice none 0 0,.slice none 0 0,.slice none 0 0] 27)=W0:=⟨_,rfl⟩
 have hbw:Below w.heap.size w W0:=by rw [← hW0];exact ((Below.refl _ w).alloc (Nat.le_refl _) _).alloc (by simp) _
 have hst:CdSt w d ⟨.slice a0 d.files.length cap0,.slice a1 d.names.length cap1,.slice a2 d.moves.length cap2⟩ W0:=by
  refine ⟨hbw,?_,?_,hv.carry (fun b hb=>hbw.block b (hP b hb)) hP⟩
  · rw [← hW0];exact (row3_alloc w _ _ _ _).alloc _
  · rw [← hW0]
    have q:=row3_alloc (w.alloc (.cells #[.slice a0 d.files.length cap0,.slice a1 d.names.length cap1,.slice a2 d.moves.length cap2] 27)) (.slice none 0 0) (.slice none 0 0) (.slice none 0 0) 27
    rw [World.size_alloc] at q;exact q
 have HF:Hid (∀ W,CdSt w d ⟨.slice a0 d.files.length cap0,.slice a1 d.names.length cap1,.slice a2 d.moves.length cap2⟩ W→Calls Try.prog 57 #[.slice a0 d.files.length cap0] W fun e w'=>∃ a' cap',e=.returned (.slice a' d.files.length cap')∧Hid (w'.ownsRow W.heap.size 44 3 (.slice a' d.files.length cap') d.files.length (d.files.map Df.cs).flatten)∧Hid (Below W.heap.size W w')):=fun W hW =>
  copiesF_any d.files _ a0 cap0 W hW.dk.fs hl.1 hs.1
 have HN:Hid (∀ W,CdSt w d ⟨.slice a0 d.files.length cap0,.slice a1 d.names.length cap1,.slice a2 d.moves.length cap2⟩ W→Calls Try.prog 47 #[.slice a1 d.names.length cap1] W fun e w'=>∃ a' cap',e=.returned (.slice a' d.names.length cap')∧Hid (w'.ownsRow W.heap.size 9 1 (.slice a' d.names.length cap') d.names.length (d.names.map Value.string))∧Hid (Below W.heap.size W w')):=fun W hW =>
  (copyNames_row _ d.names W (fun b hb=>Nat.lt_of_lt_of_le hb hW.below.size) hW.dk.ns (by omega) hs.2.1).mono fun e w' ⟨v',h1,h2,h3⟩=>by
    obtain ⟨a',cap',e'⟩:=own_slice0 h2
    subst e'
    exact ⟨a',cap',h1,h2,h3⟩
 have HM:Hid (∀ W,CdSt w d ⟨.slice a0 d.files.length cap0,.slice a1 d.names.length cap1,.slice a2 d.moves.length cap2⟩ W→Calls Try.prog 58 #[.slice a2 d.moves.length cap2] W fun e w'=>∃ a' cap',e=.returned (.slice a' d.moves.length cap')∧Hid (w'.ownsRow W.heap.size 60 2 (.slice a' d.moves.length cap') d.moves.length (d.moves.map Dm.cs).flatten)∧Hid (Below W.heap.size W w')):=fun W hW =>
  copiesM_any d.moves _ a2 cap2 W hW.dk.ms hl.2.2 hs.2.2
 obtain ⟨f0,f1,f2,f3,f4,f5,f6,f7,f8⟩:=hst.drew.c
 have HST:=xH hst.drew
 clear hst hv hl hs hP hbw
 subst hW0
 go_enter Try.func35,Try.ntmps35
 go_wp2_with fail
 go_region_held3 (fun W=>W.cell? ⟨w.heap.size,0,none⟩=some (.slice a0 d.files.length cap0)∧W.cell? ⟨w.heap.size,1,none⟩=some (.slice a1 d.names.length cap1)∧W.cell? ⟨w.heap.size,2,none⟩=some (.slice a2 d.moves.length cap2)) (first | exact ⟨z0,z1,z2⟩ | exact ⟨f0,f1,f2⟩ | go_keep)
  (first
    | (go_at_call 57;refine (xU HF _ (xU HST)).mono ?_;rintro e w1 ⟨b0,k0,rfl,HF0,HB0⟩;have HS1:=xH ((xU HST).on HB0.out);obtain ⟨z0,z1,z2,z3,z4,z5,z6,z7,z8⟩:=(xU HS1).c)
    | (go_at_call 47;refine (xU HN _ (xU HS1)).mono ?_;rintro e w2 ⟨b1,k1,rfl,HF1,HB1⟩;have HS2:=xH ((xU HS1).on HB1.out);obtain ⟨z0,z1,z2,z3,z4,z5,z6,z7,z8⟩:=(xU HS2).c)
    | (go_at_call 58;refine (xU HM _ (xU HS2)).mono ?_;rintro e w3 ⟨b2,k2,rfl,HF2,HB2⟩;have HS3:=xH ((xU HS2).on HB2.out);obtain ⟨z0,z1,z2,z3,z4,z5,z6,z7,z8⟩:=(xU HS3).c))
 all_goals
  go_wp2_with fail
  refine bodyPost_ret (v:=.agg #[.slice b0 d.files.length k0,.slice b1 d.names.length k1,.slice b2 d.moves.length k2]) (by simp [results,Try.results35,go_sem,z3,z4,z5]) rfl ?_
  have hb:=(((xU HS3).below.setCell (p:=⟨w.heap.size+1,0,none⟩) (by simp) (.slice b0 d.files.length k0)).setCell (p:=⟨w.heap.size+1,1,none⟩) (by simp) (.slice b1 d.names.length k1)).setCell (p:=⟨w.heap.size+1,2,none⟩) (by simp) (.slice b2 d.moves.length k2)
  have hlow:w.heap.size+2≤((w.alloc (.cells #[.slice a0 d.files.length cap0,.slice a1 d.names.length cap1,.slice a2 d.moves.length cap2] 27)).alloc (.cells #[.slice none 0 0,.slice none 0 0,.slice none 0 0] 27)).drew.heap.size:=by
   show _≤((w.alloc _).alloc _).heap.size
   simp
  have s1:=HB1.out.size;have s2:=HB2.out.size;have s0:=HB0.out.size
  have hkeep:∀ b,w.heap.size+2≤b→(((w3.setCell ⟨w.heap.size+1,0,none⟩ (.slice b0 d.files.length k0)).setCell ⟨w.heap.size+1,1,none⟩ (.slice b1 d.names.length k1)).setCell ⟨w.heap.size+1,2,none⟩ (.slice b2 d.moves.length k2)).heap[b]? = w3.heap[b]? := fun b hb'=>by
   rw [Below.heap_setCell _ _ _ _ (by simp;omega),Below.heap_setCell _ _ _ _ (by simp;omega),Below.heap_setCell _ _ _ _ (by simp;omega)]
  have g0:=HF0.out;have g1:=HF1.out;have g2:=HF2.out
  refine ⟨⟨_,_,_⟩,rfl,own_low (ownsRow_keep g0 (fun g e=>?_)) (by omega),own_low (ownsRow_keep g1 (fun g e=>?_)) (by omega),own_low (ownsRow_keep g2 (fun g e=>?_)) (by omega),hb⟩
  · have:=g0.lt g e;rw [hkeep g (by omega),HB2.out.block g (by omega),HB1.out.block g (by omega)]
  · have:=g1.lt g e;rw [hkeep g (by omega),HB2.out.block g (by omega)]
  · have:=g2.lt g e;rw [hkeep g (by omega)]
end Go.Proofs.Yteikmbkljkkjiaa
