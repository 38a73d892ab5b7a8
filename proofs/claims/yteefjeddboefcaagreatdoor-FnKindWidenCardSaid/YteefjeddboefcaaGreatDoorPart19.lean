/- A part. -/
import Derived.Test.YteefjeddboefcaaGreatDoorPart18
namespace Go.Proofs.YteefjeddboefcaaGreatDoor
open Go Go.RowKit
set_option maxRecDepth 100000
set_option maxHeartbeats 6400000
def TE (t:Tr) (w:World) (e:Ending) (w':World):Prop:=∃ (d:C5) (F:List Nat),e=.returned (.agg #[d.c0,d.c1,d.c2,d.c3,d.c4])∧Own w' t d F∧F.Nodup∧(∀ b,b∈F→w.heap.size≤b∧b < w'.heap.size)∧Below w.heap.size w w'
def WidC (n:Nat) (a b:Kd) (P:Nat→Prop) (W:World) (fv:Value):Prop :=
 wOk n a b∧∃ (f:Nat) (caps:Array Value),fv=.func (.func f) #[] caps∧(∀ args w,(callFunc f args).run Tryz.prog w=.ok (.enter f args) w) ∧
  ∀ W',(∀ x,P x→x < W.heap.size→W'.heap[x]? = W.heap[x]?)→∀ (t:Tr) (c:C5),Rep (fun x=>x < W'.heap.size) W' t c→(a.sort=0∨(hT t a=true∧okH t=true)) →
    Calls Tryz.prog f (#[.agg #[c.c0,c.c1,c.c2,c.c3,c.c4]]++caps) W' (TE (widF n a b t) W')
def GWd (a b:Kd) (P:Nat→Prop) (W:World) (fv:Value):Prop:=∃ n,WidC n a b P W fv
theorem WidC.le {n m:Nat} {a b:Kd} {P:Nat→Prop} {W:World} {fv:Value} (h:WidC n a b P W fv) (hm:n≤m):WidC m a b P W fv:=by
 obtain ⟨h1,f,caps,h2,h3,h4⟩:=h
 have h5:=wOk_le h1 hm
 refine ⟨h5,f,caps,h2,h3,fun W' hW t c hr ht=>?_⟩
 rw [← wid_fuel n m a b t h1 h5]
 exact h4 W' hW t c hr ht
theorem lt_same {W W':World} {x:Nat} (h:W'.heap[x]? = W.heap[x]?) (hx:x < W.heap.size):x < W'.heap.size:=by
 rw [Array.getElem?_eq_getElem hx] at h
 exact (Array.getElem?_eq_some_iff.1 h).1
theorem WidC.on {n:Nat} {a b:Kd} {P Q:Nat→Prop} {W W':World} {fv:Value} (h:WidC n a b P W fv) (h1:∀ x,P x→Q x) (h2:∀ x,P x→W'.heap[x]? = W.heap[x]?):WidC n a b Q W' fv:=by
 obtain ⟨k1,f,caps,k2,k3,k4⟩:=h
 exact ⟨k1,f,caps,k2,k3,fun W'' hW t c hr ht=>k4 W'' (fun x hx hl=>(hW x (h1 x hx) (lt_same (h2 x hx) hl)).trans (h2 x hx)) t c hr ht⟩
theorem own_leaf {w:World} {s n:Int} {tx:ByteArray} (hs:I64 s) (hn:I64 n) (ht:tx.size≤9223372036854775807):Own w (.mk s n tx [] []) ⟨.int .i64 s,.int .i64 n,.string tx,.slice none 0 0,.slice none 0 0⟩ []:=by
 rw [Own]
 exact ⟨rfl,rfl,rfl,hs,hn,ht,[],[],rfl,⟨none,0,rfl,by simp,Or.inl ⟨rfl,rfl⟩⟩,none,0,rfl,by simp,Or.inl ⟨rfl,rfl⟩⟩
theorem enW (f:Nat) {fn:Func} (h:Tryz.prog.funcs[f]? = some fn) (h2:(fn.name == "runtime.NumGoroutine")=false) {c:Code} (h3:fn.body=some c):∀ args w,(callFunc f args).run Tryz.prog w=.ok (.enter f args) w:=enters_of h h2 h3
theorem none1_any (t:Tr) (c:C5) (n:Nat) (a b:Kd) (ha:a.sort=0) (w:World) (hr:Rep (fun x=>x < w.heap.size) w t c):Calls Tryz.prog 69 #[.agg #[c.c0,c.c1,c.c2,c.c3,c.c4]] w (TE (widF (n+1) a b t) w):=by
 rw [widF_zero ha]
 obtain ⟨c0,c1,c2,c3,c4⟩:=c
 obtain ⟨g0,g1,g2,-,-,-,⟨a5,cap5,g3,-,-⟩,a6,cap6,g4,-,-⟩:=hr.open
 simp only at g0 g1 g2 g3 g4
 subst g0 g1 g2 g3 g4
 clear hr
 have HB:Hid (Below w.heap.size w ((w.alloc (.cells #[.int .i64 t.sort,.int .i64 t.num,.string t.text,.slice a5 t.names.length cap5,.slice a6 t.kids.length cap6] 29)).alloc (.cells #[.int .i64 6,.int .i64 0,.string ByteArray.empty,.slice none 0 0,.slice none 0 0] 29))):=((Below.refl _ _).alloc (Nat.le_refl _) _).alloc (by simp) _
 go_enter Tryz.func69,Tryz.ntmps69
 go_wp2_with fail
 refine bodyPost_ret (v:=.agg #[.int .i64 6,.int .i64 0,.string ⟨#[]⟩,.slice none 0 0,.slice none 0 0]) (by simp [results,Tryz.results69,go_sem]) rfl ?_
 exact ⟨⟨_,_,_,_,_⟩,[],rfl,own_leaf (s:=6) (n:=0) (tx:=ByteArray.empty) ⟨by decide,by decide⟩ ⟨by decide,by decide⟩ (by decide),List.nodup_nil,fun b hb=>by simp at hb,xU HB⟩
theorem wd_boxes (w:World) (s n:Int) (tx:ByteArray) (a5 a6:Option Addr) (n5 cap5 n6 cap6:Nat):((w.alloc (.cells #[.int .i64 s,.int .i64 n,.string tx,.slice a5 n5 cap5,.slice a6 n6 cap6] 29)).alloc (.cells #[.int .i64 0,.int .i64 0,.string ⟨#[]⟩,.slice none 0 0,.slice none 0 0] 29)).rowIs w.heap.size 29 5 (row5 (.int .i64 s) (.int .i64 n) (.string tx) (.slice a5 n5 cap5) (.slice a6 n6 cap6))∧((w.alloc (.cells #[.int .i64 s,.int .i64 n,.string tx,.slice a5 n5 cap5,.slice a6 n6 cap6] 29)).alloc (.cells #[.int .i64 0,.int .i64 0,.string ⟨#[]⟩,.slice none 0 0,.slice none 0 0] 29)).rowIs (w.heap.size+1) 29 5 (row5 (.int .i64 0) (.int .i64 0) (.string ⟨#[]⟩) (.slice none 0 0) (.slice none 0 0))∧Below w.heap.size w ((w.alloc (.cells #[.int .i64 s,.int .i64 n,.string tx,.slice a5 n5 cap5,.slice a6 n6 cap6] 29)).alloc (.cells #[.int .i64 0,.int .i64 0,.string ⟨#[]⟩,.slice none 0 0,.slice none 0 0] 29))∧((w.alloc (.cells #[.int .i64 s,.int .i64 n,.string tx,.slice a5 n5 cap5,.slice a6 n6 cap6] 29)).alloc (.cells #[.int .i64 0,.int .i64 0,.string ⟨#[]⟩,.slice none 0 0,.slice none 0 0] 29)).heap.size=w.heap.size+2:=by
 have h2:=row5_alloc (w.alloc (.cells #[.int .i64 s,.int .i64 n,.string tx,.slice a5 n5 cap5,.slice a6 n6 cap6] 29)) (.int .i64 0) (.int .i64 0) (.string ⟨#[]⟩) (.slice none 0 0) (.slice none 0 0) 29
 rw [World.size_alloc] at h2
 exact ⟨(row5_alloc w _ _ _ _ _ _).alloc _,h2,((Below.refl _ _).alloc (Nat.le_refl _) _).alloc (by simp) _,by simp⟩
theorem ldIntW (w:World) (ad:Addr) (v:Value) (h:w.cell? ad=some v):(Instr.loadAt 3 (.pointer (some ad))).run Tryz.prog w=.ok v w:=by
 simp [Instr.loadAt,Instr.sureAddr,loadVar,Tryz.isAgg3,h,go_sem]
theorem sizeTr:(Tryz.prog.info? 29).map (·.size)=some 5:=by kernel_rfl
theorem there5w {w:World} {b:Nat} {T:TypeId} {n:Nat} {f:Nat→Value} (h:w.rowIs b T n f):w.there b 0 n:=there49 h
structure BelowBut (C:Nat) (w w':World):Prop where
 os:w'.os=w.os
 tape:w'.tape=w.tape
 output:w'.output=w.output
 size:w.heap.size≤w'.heap.size
 block:∀ b,b < w.heap.size→b≠C→w'.heap[b]? = w.heap[b]?
theorem below_but {C n:Nat} {w w':World} (h:BelowBut C w w') (hn:n≤C∧n≤w.heap.size):Below n w w':=⟨h.os,h.tape,h.output,h.size,fun b hb=>h.block b (by omega) (by omega)⟩
noncomputable def lfOps:Array Oper:=fops Tryz.f70 1
theorem lf_neat:Region.noSelect lfOps=true∧neat lfOps=true:=⟨by kernel_rfl,by kernel_rfl⟩
theorem set5_row {W:World} {C:Nat} {T:TypeId} {f:Nat→Value} (h:W.rowIs C T 5 f) (v0 v1 v2 v3 v4:Value):BelowBut C W (W.setCells C 0 [v0,v1,v2,v3,v4])∧(W.setCells C 0 [v0,v1,v2,v3,v4]).rowIs C T 5 (row5 v0 v1 v2 v3 v4):=by
 obtain ⟨h1,h2⟩:=set_row C [v0,v1,v2,v3,v4] 0 W T 5 f h (by simp)
 exact ⟨⟨h1.os,h1.tape,h1.output,h1.size,fun b hb hne=>h1.at hb hne⟩,h2.congr (fun i hi=>by
  match i,hi with
  | 0,_=>rfl
  | 1,_=>rfl
  | 2,_=>rfl
  | 3,_=>rfl
  | 4,_=>rfl)⟩
theorem BelowBut.of_below {C:Nat} {w w':World} (h:Below w.heap.size w w'):BelowBut C w w':=⟨h.os,h.tape,h.output,h.size,fun b hb _=>h.block b hb⟩
theorem BelowBut.trans {C:Nat} {a b c:World} (h:BelowBut C a b) (k:BelowBut C b c):BelowBut C a c:=⟨k.os.trans h.os,k.tape.trans h.tape,k.output.trans h.output,Nat.le_trans h.size k.size,fun x hx hne=>(k.block x (Nat.lt_of_lt_of_le hx h.size) hne).trans (h.block x hx hne)⟩
theorem lf1 (A C:Nat) (s n:Int) (tx:ByteArray) (c3 c4:Value) (f2:Nat→Value) (W0:World) {l:List Value} (Q:Exit→Act→World→Prop) (hQ:∀ c a d v w,Q (.panic c) (Act.put a d v) w→Q (.panic c) a w) (htx:tx.size≤1000) (hne:A≠C) (hA:W0.drew.rowIs A 29 5 (row5 (.int .i64 s) (.int .i64 n) (.string tx) c3 c4)) (hC:W0.drew.rowIs C 29 5 f2)
 (hl:lookL [(1,.pointer (some ⟨A,0,none⟩)),(2,.pointer (some ⟨C,0,none⟩))] l=(11,([(1,.pointer (some ⟨A,0,none⟩)),(2,.pointer (some ⟨C,0,none⟩))]:List (Nat × Value)).map (·.2)))
 (hend:∀ (u:Nat→Value) (W:World),BelowBut C W0.drew W→W.rowIs C 29 5 (row5 (.int .i64 s) (.int .i64 n) (.string tx) (.slice none 0 0) (.slice none 0 0))→Q .normal ⟨(frL u 11 [(2,.pointer (some ⟨C,0,none⟩))]).toArray,[]⟩ W):(Code.region 1 lfOps true).wp Tryz.prog Q ⟨l.toArray,[]⟩ W0:=by
 obtain ⟨v0,rfl⟩:=look_fr hl
 have hq:NtQ lfOps Q:=⟨lf_neat,hQ⟩
 refine T_start (S:=fun W=>BelowBut C W0.drew W) (by kernel_rfl) (BelowBut.of_below (Below.refl _ _)) ?_
 clear hl hQ
 generalize W0.drew=B at hA hC hend ⊢
 refine T_z hq [0,2,4] (by kernel_rfl) ?_
 refine T_a hq [1,3,5] (fun w' h=>.cons (ldIntW _ ⟨A,0,none⟩ (.int .i64 s) ((hA.of_block (h.block _ hA.lt hne)).cell (i:=0) (by omega))) (.cons (ldIntW _ ⟨A,1,none⟩ (.int .i64 n) ((hA.of_block (h.block _ hA.lt hne)).cell (i:=1) (by omega))) (.cons (ldStrF _ ⟨A,2,none⟩ (.string tx) ((hA.of_block (h.block _ hA.lt hne)).cell (i:=2) (by omega))) Lds.nil))) (by kernel_rfl) ?_
 refine T_fr 9 11 [6,7,8] [(2,.pointer (some ⟨C,0,none⟩)),(4,.int .i64 s),(6,.int .i64 n),(8,.string tx)] (by kernel_rfl) fun u=>?_
 refine T_one 6 (by kernel_rfl) fun hB=>?_
 refine O_go (clone_any tx B (by omega)) (by kernel_rfl) ?_
 rintro e W1 ⟨rfl,hb1⟩
 refine ⟨_,rfl,BelowBut.of_below hb1,?_⟩
 refine T_z hq [7] (by kernel_rfl) ?_
 refine T_fr 9 11 [8] [(2,.pointer (some ⟨C,0,none⟩)),(10,.agg #[.int .i64 s,.int .i64 n,.string tx,.slice none 0 0,.slice none 0 0])] (by kernel_rfl) fun u=>?_
 refine T_one 8 (by kernel_rfl) fun _=>?_
 obtain ⟨k1,k2⟩:=set5_row (hC.of_block (hb1.block _ hC.lt)) (.int .i64 s) (.int .i64 n) (.string tx) (.slice none 0 0) (.slice none 0 0)
 have k3:=(BelowBut.of_below (C:=C) hb1).trans k1
 refine O_store_mid none 29 (.tmp 2) (.tmp 10) C 0 #[.int .i64 s,.int .i64 n,.string tx,.slice none 0 0,.slice none 0 0] (by kernel_rfl) (by kernel_rfl) (by kernel_rfl) (there5w (hC.of_block (hb1.block _ hC.lt))) sizeTr (by rw [← Array.all_toList];rfl) k3 ?_
 exact T_end 11 [(2,.pointer (some ⟨C,0,none⟩))] (by kernel_rfl) (by kernel_rfl) fun _ u=>hend u _ k3 k2
theorem leaf1_any (t:Tr) (c:C5) (n:Nat) (a b:Kd) (h:a.sort=b.sort) (h1:a.sort=1∨a.sort=2∨a.sort=3) (w:World) (hr:Rep (fun x=>x < w.heap.size) w t c) (htx:t.text.size≤1000):Calls Tryz.prog 70 #[.agg #[c.c0,c.c1,c.c2,c.c3,c.c4]] w (TE (widF (n+1) a b t) w):=by
 rw [widF_leaf h h1]
 obtain ⟨c0,c1,c2,c3,c4⟩:=c
 obtain ⟨g0,g1,g2,i0,i1,i2,⟨a5,cap5,g3,-,-⟩,a6,cap6,g4,-,-⟩:=hr.open
 simp only at g0 g1 g2 g3 g4
 subst g0 g1 g2 g3 g4
 clear hr
 obtain ⟨hr1,hr2,hbw,hsz⟩:=wd_boxes w t.sort t.num t.text a5 a6 t.names.length cap5 t.kids.length cap6
 have HO:=xH (fun w'=>own_leaf (w:=w') i0 i1 i2)
 have HR1:=xH hr1;have HR2:=xH hr2;have HBW:=xH hbw;have HSZ:=xH hsz;have HTX:=xH htx
 clear hr1 hr2 hbw hsz htx i0 i1 i2 h h1
 go_enter Tryz.func70,Tryz.ntmps70
 go_upto_region 1 with fail
 generalize ((w.alloc (.cells #[.int .i64 t.sort,.int .i64 t.num,.string t.text,.slice a5 t.names.length cap5,.slice a6 t.kids.length cap6] 29)).alloc (.cells #[.int .i64 0,.int .i64 0,.string ⟨#[]⟩,.slice none 0 0,.slice none 0 0] 29))=W0 at HR1 HR2 HBW HSZ ⊢
 refine wp_swap (c':=Code.region 1 lfOps true) (by kernel_rfl) ?_
 refine wp_region_noPanic ?_
 refine lf1 w.heap.size (w.heap.size+1) t.sort t.num t.text (.slice a5 t.names.length cap5) (.slice a6 t.kids.length cap6) _ W0 _ (fun c a d v w h=>h) (xU HTX) (by omega) (xU HR1).drew (xU HR2).drew (by kernel_rfl) ?_
 intro u W hW hrw
 refine NoPanic.normal ?_
 have HB1:=xH ((xU HBW).drew.trans (below_but hW ⟨by omega,(xU HBW).size⟩))
 obtain ⟨m0,m1,m2,m3,m4⟩:=cs5 hrw (by omega)
 simp only [row5] at m0 m1 m2 m3 m4
 clear hW hrw HR1 HR2 HBW HSZ HTX
 have hfr:frL u 11 [(2,.pointer (some ⟨w.heap.size+1,0,none⟩))]=u 0::u 1::.pointer (some ⟨w.heap.size+1,0,none⟩)::(List.range 8).map (fun i=>u (i+3)):=by kernel_rfl
 rw [hfr]
 simp only [List.range,List.range.loop,List.map_cons,List.map_nil]
 go_wp2_with fail
 refine bodyPost_ret (v:=.agg #[.int .i64 t.sort,.int .i64 t.num,.string t.text,.slice none 0 0,.slice none 0 0]) (by simp [results,Tryz.results70,go_sem,m0,m1,m2,m3,m4]) rfl ?_
 exact ⟨⟨_,_,_,_,_⟩,[],rfl,xU HO W,List.nodup_nil,fun b hb=>by simp at hb,xU HB1⟩

theorem Own.forms {w:World} {t:Tr} {d:C5} {F:List Nat} (h:Own w t d F):∃ (a3:Option Addr) (p3:Nat) (a4:Option Addr) (p4:Nat),d=⟨.int .i64 t.sort,.int .i64 t.num,.string t.text,.slice a3 t.names.length p3,.slice a4 t.kids.length p4⟩:=by
 obtain ⟨c0,c1,c2,c3,c4⟩:=d
 obtain ⟨h0,h1,h2,-,-,-,F1,F2,-,⟨a3,p3,h3,-⟩,a4,p4,h4,-⟩:=h.open
 simp only at h0 h1 h2 h3 h4
 exact ⟨a3,p3,a4,p4,by rw [h0,h1,h2,h3,h4]⟩
theorem own_one {W:World} {s:Int} {t:Tr} {d:C5} {F:List Nat} {b:Nat} (hs:I64 s) (hown:Own W t d F) (hrow:W.rowIs b 29 5 (row5 d.c0 d.c1 d.c2 d.c3 d.c4)):Own W (.mk s 0 ByteArray.empty [] [t]) ⟨.int .i64 s,.int .i64 0,.string ByteArray.empty,.slice none 0 0,.slice (some ⟨b,0,none⟩) 1 1⟩ (b::F):=by
 rw [Own]
 refine ⟨rfl,rfl,rfl,hs,⟨by decide,by decide⟩,by decide,[],b::F,rfl,⟨none,0,rfl,by simp,Or.inl ⟨rfl,rfl⟩⟩,some ⟨b,0,none⟩,1,rfl,by simp,Or.inr ⟨b,F,rfl,rfl,hrow.frozen,?_⟩⟩
 rw [OwnK]
 refine ⟨F,[],d,by simp,⟨hrow.cell (i:=0) (by omega),hrow.cell (i:=1) (by omega),hrow.cell (i:=2) (by omega),hrow.cell (i:=3) (by omega),hrow.cell (i:=4) (by omega)⟩,hown,by rw [OwnK]⟩
theorem wd_end {w W0 W1:World} {t':Tr} {a3 a4:Option Addr} {p3 p4:Nat} {F:List Nat} {C:Nat} {f:Nat→Value} (hr:W1.rowIs C 29 5 f) (hown:Own W1 t' ⟨.int .i64 t'.sort,.int .i64 t'.num,.string t'.text,.slice a3 t'.names.length p3,.slice a4 t'.kids.length p4⟩ F) (hnd:F.Nodup) (hF:∀ b,b∈F→W0.heap.size≤b∧b < W1.heap.size) (hb:Below w.heap.size w W1) (hC:w.heap.size≤C) (hC0:C < W0.heap.size∧w.heap.size≤W0.heap.size) :
 ((W1.setCells C 0 [.int .i64 6,.int .i64 0,.string ⟨#[]⟩,.slice none 0 0,.slice (some ⟨W1.heap.size,0,none⟩) 1 1]).alloc (.cells #[.int .i64 t'.sort,.int .i64 t'.num,.string t'.text,.slice a3 t'.names.length p3,.slice a4 t'.kids.length p4] 29)).rowIs C 29 5 (row5 (.int .i64 6) (.int .i64 0) (.string ⟨#[]⟩) (.slice none 0 0) (.slice (some ⟨W1.heap.size,0,none⟩) 1 1))∧TE (.mk 6 0 ByteArray.empty [] [t']) w (.returned (.agg #[.int .i64 6,.int .i64 0,.string ⟨#[]⟩,.slice none 0 0,.slice (some ⟨W1.heap.size,0,none⟩) 1 1])) ((W1.setCells C 0 [.int .i64 6,.int .i64 0,.string ⟨#[]⟩,.slice none 0 0,.slice (some ⟨W1.heap.size,0,none⟩) 1 1]).alloc (.cells #[.int .i64 t'.sort,.int .i64 t'.num,.string t'.text,.slice a3 t'.names.length p3,.slice a4 t'.kids.length p4] 29)):=by
 obtain ⟨k1,k2⟩:=set5_row hr (.int .i64 6) (.int .i64 0) (.string ⟨#[]⟩) (.slice none 0 0) (.slice (some ⟨W1.heap.size,0,none⟩) 1 1)
 have hs5:(W1.setCells C 0 [.int .i64 6,.int .i64 0,.string ⟨#[]⟩,.slice none 0 0,.slice (some ⟨W1.heap.size,0,none⟩) 1 1]).heap.size=W1.heap.size:=by simp [World.setCells,World.setCell]
 generalize W1.setCells C 0 [.int .i64 6,.int .i64 0,.string ⟨#[]⟩,.slice none 0 0,.slice (some ⟨W1.heap.size,0,none⟩) 1 1]=W5 at k1 k2 hs5 ⊢
 have hrow:=row5_alloc W5 (.int .i64 t'.sort) (.int .i64 t'.num) (.string t'.text) (.slice a3 t'.names.length p3) (.slice a4 t'.kids.length p4) 29
 rw [hs5] at hrow
 have hown6:Own (W5.alloc (.cells #[.int .i64 t'.sort,.int .i64 t'.num,.string t'.text,.slice a3 t'.names.length p3,.slice a4 t'.kids.length p4] 29)) t' ⟨.int .i64 t'.sort,.int .i64 t'.num,.string t'.text,.slice a3 t'.names.length p3,.slice a4 t'.kids.length p4⟩ F:=Own.carry _ _ _ (fun b hb'=>by
  have h1:=hF b hb'
  rw [Below.heap_alloc _ _ _ (by rw [hs5];exact h1.2)]
  exact k1.block b h1.2 (by omega)) hown
 refine ⟨k2.alloc _,⟨_,_,_,_,_⟩,W1.heap.size::F,rfl,own_one (s:=6) ⟨by decide,by decide⟩ hown6 hrow,List.nodup_cons.2 ⟨fun hm=>by have:=(hF _ hm).2;omega,hnd⟩,fun b hb'=>?_,?_⟩
 · rw [World.size_alloc,hs5]
   rcases List.mem_cons.1 hb' with rfl | hm
   · exact ⟨hb.size,by omega⟩
   · have:=hF b hm
     exact ⟨by omega,by omega⟩
 · exact (hb.trans (below_but k1 ⟨hC,hb.size⟩)).alloc (by rw [hs5];exact hb.size) _
theorem into1_any (t t':Tr) (c:C5) (w:World) (B f:Nat) (caps:Array Value) (hr:Rep (fun x=>x < w.heap.size) w t c) (hB:w.cell? ⟨B,0,none⟩=some (.func (.func f) #[] caps)) (hent:∀ args w,(callFunc f args).run Tryz.prog w=.ok (.enter f args) w)
 (hcall:∀ W',Below w.heap.size w W'→Calls Tryz.prog f (#[.agg #[c.c0,c.c1,c.c2,c.c3,c.c4]]++caps) W' (TE t' W')) :
 Calls Tryz.prog 72 #[.agg #[c.c0,c.c1,c.c2,c.c3,c.c4],.pointer (some ⟨B,0,none⟩)] w (TE (.mk 6 0 ByteArray.empty [] [t']) w):=by
 obtain ⟨c0,c1,c2,c3,c4⟩:=c
 obtain ⟨g0,g1,g2,-,-,-,⟨a5,cap5,g3,-,-⟩,a6,cap6,g4,-,-⟩:=hr.open
 simp only at g0 g1 g2 g3 g4
 subst g0 g1 g2 g3 g4
 clear hr
 obtain ⟨hr1,hr2,hbw,hsz⟩:=wd_boxes w t.sort t.num t.text a5 a6 t.names.length cap5 t.kids.length cap6
 have hBl:=World.block_lt_of_cell? w _ hB
 rw [← hbw.cell hBl] at hB
 have HR2:=xH hr2;have HBW:=xH hbw;have HSZ:=xH hsz;have HC:=xH hcall
 obtain ⟨k0,k1,k2,k3,k4⟩:=cs5 hr1 (by omega)
 simp only [row5] at k0 k1 k2 k3 k4
 clear hr1 hr2 hbw hsz hcall hBl
 go_enter Tryz.func72,Tryz.ntmps72
 go_upto_region 1 with fail
 generalize ((w.alloc (.cells #[.int .i64 t.sort,.int .i64 t.num,.string t.text,.slice a5 t.names.length cap5,.slice a6 t.kids.length cap6] 29)).alloc (.cells #[.int .i64 0,.int .i64 0,.string ⟨#[]⟩,.slice none 0 0,.slice none 0 0] 29))=W0 at hB k0 k1 k2 k3 k4 HR2 HBW HSZ ⊢
 go_wp2_with fail
 refine (xU HC W0 (xU HBW)).mono ?_
 rintro e W1 ⟨d,F,rfl,hown,hnd,hF,hb1⟩
 obtain ⟨a3,p3,a4,p4,rfl⟩:=hown.forms
 have hr21:=(xU HR2).of_block (hb1.block _ (xU HR2).lt)
 have hs1:=hb1.size
 have hbw1:=(xU HBW).trans (hb1.mono (xU HBW).size)
 have HOWN:=xH hown;have HND:=xH hnd;have HF:=xH hF;have HB1:=xH hbw1;have HR21:=xH hr21;have HS1:=xH hs1
 obtain ⟨m0,m1,m2,m3,m4⟩:=cs5 hr21 (by omega);have mf:=hr21.frozen
 simp only [row5] at m0 m1 m2 m3 m4
 have hlt:w.heap.size+1 < W1.heap.size:=hr21.lt
 clear hown hnd hF hb1 hr21 hs1 hbw1 k0 k1 k2 k3 k4 hB HC HR2
 go_wp2_with fail
 have HE:=wd_end (xU HR21) (xU HOWN) (xU HND) (xU HF) (xU HB1) (Nat.le_succ _) (by have:=xU HSZ;have:=(xU HBW).size;omega)
 have e5:((((W1.setCell ⟨w.heap.size+1,0,none⟩ (.int .i64 6)).setCell ⟨w.heap.size+1,1,none⟩ (.int .i64 0)).setCell ⟨w.heap.size+1,2,none⟩ (.string ⟨#[]⟩)).setCell ⟨w.heap.size+1,3,none⟩ (.slice none 0 0)).setCell ⟨w.heap.size+1,4,none⟩ (.slice (some ⟨W1.heap.size,0,none⟩) 1 1)=W1.setCells (w.heap.size+1) 0 [.int .i64 6,.int .i64 0,.string ⟨#[]⟩,.slice none 0 0,.slice (some ⟨W1.heap.size,0,none⟩) 1 1]:=rfl
 rw [e5]
 generalize (W1.setCells (w.heap.size+1) 0 [.int .i64 6,.int .i64 0,.string ⟨#[]⟩,.slice none 0 0,.slice (some ⟨W1.heap.size,0,none⟩) 1 1]).alloc (.cells #[.int .i64 t'.sort,.int .i64 t'.num,.string t'.text,.slice a3 t'.names.length p3,.slice a4 t'.kids.length p4] 29)=W6 at HE ⊢
 obtain ⟨hrow,hT⟩:=HE
 obtain ⟨q0,q1,q2,q3,q4⟩:=cs5 hrow (by omega)
 simp only [row5] at q0 q1 q2 q3 q4
 exact bodyPost_ret (v:=.agg #[.int .i64 6,.int .i64 0,.string ⟨#[]⟩,.slice none 0 0,.slice (some ⟨W1.heap.size,0,none⟩) 1 1]) (by simp [results,Tryz.results72,go_sem,q0,q1,q2,q3,q4]) rfl hT

theorem Rep.form {P:Nat→Prop} {w:World} {t:Tr} {c:C5} (h:Rep P w t c):∃ (a3:Option Addr) (p3:Nat) (a4:Option Addr) (p4:Nat),c=⟨.int .i64 t.sort,.int .i64 t.num,.string t.text,.slice a3 t.names.length p3,.slice a4 t.kids.length p4⟩:=by
 obtain ⟨c0,c1,c2,c3,c4⟩:=c
 obtain ⟨g0,g1,g2,-,-,-,⟨a5,cap5,g3,-,-⟩,a6,cap6,g4,-,-⟩:=h.open
 simp only at g0 g1 g2 g3 g4
 exact ⟨a5,cap5,a6,cap6,by rw [g0,g1,g2,g3,g4]⟩
theorem each1_any (t:Tr) (g:Tr→Tr) (c:C5) (w:World) (B f:Nat) (caps:Array Value) (hr:Rep (fun x=>x < w.heap.size) w t c) (hB:w.cell? ⟨B,0,none⟩=some (.func (.func f) #[] caps)) (hent:∀ args w,(callFunc f args).run Tryz.prog w=.ok (.enter f args) w) (hlen:t.kids.length≤1000)
 (hcall:∀ i,(hi:i < t.kids.length)→∀ W' (d:C5),Below w.heap.size w W'→Rep (fun x=>x < W'.heap.size) W' t.kids[i] d→Calls Tryz.prog f (#[.agg #[d.c0,d.c1,d.c2,d.c3,d.c4]]++caps) W' (TE (g t.kids[i]) W')) :
 Calls Tryz.prog 93 #[.agg #[c.c0,c.c1,c.c2,c.c3,c.c4],.pointer (some ⟨B,0,none⟩)] w (TE (.mk t.sort 0 ByteArray.empty [] (t.kids.map g)) w):=by
 have hrep:=hr
 obtain ⟨a5,cap5,a6,cap6,rfl⟩:=hr.form
 obtain ⟨-,-,-,hI0,-,-,-,a6',cap6',e4,-,hks⟩:=hr.open
 simp only [Value.slice.injEq,true_and] at e4
 obtain ⟨rfl,rfl⟩:=e4
 obtain ⟨i0,hi,hz0,hz1,hz2⟩:=info_parts infoTreeS
 have hBl:=World.block_lt_of_cell? w _ hB
 have HK:=xH hks;have HC:=xH hcall;have HI0:=xH hI0;have HLEN:=xH hlen;have HBC:=xH hB;have HBL:=xH hBl
 have HII:=xH hi;have HZ0:=xH hz0;have HZ1:=xH hz1;have HZ2:=xH hz2
 clear hks hcall hI0 hlen hi hz0 hz1 hz2 hr hrep hB hBl
 go_enter Tryz.func93,Tryz.ntmps93
 go_wp2_with fail
 obtain ⟨W0,hW0⟩:∃ W0,(((w.alloc (.cells #[.int .i64 t.sort,.int .i64 t.num,.string t.text,.slice a5 t.names.length cap5,.slice a6 t.kids.length cap6] 29)).alloc (.cells #[.int .i64 0,.int .i64 0,.string ⟨#[]⟩,.slice none 0 0,.slice none 0 0] 29)).alloc (.cells #[.int .i64 t.sort,.int .i64 0,.string ⟨#[]⟩,.slice none 0 0,.slice none 0 0] 29))=W0:=⟨_,rfl⟩
 have hs0:W0.heap.size=w.heap.size+3:=by rw [← hW0];simp
 have hbl:Below w.heap.size w W0:=by rw [← hW0];exact (((Below.refl _ _).alloc (Nat.le_refl _) _).alloc (by simp) _).alloc (by simp;omega) _
 have hr1:W0.rowIs (w.heap.size+1) 29 5 (row5 (.int .i64 0) (.int .i64 0) (.string ⟨#[]⟩) (.slice none 0 0) (.slice none 0 0)):=by
  rw [← hW0]
  have q:=row5_alloc (w.alloc (.cells #[.int .i64 t.sort,.int .i64 t.num,.string t.text,.slice a5 t.names.length cap5,.slice a6 t.kids.length cap6] 29)) (.int .i64 0) (.int .i64 0) (.string ⟨#[]⟩) (.slice none 0 0) (.slice none 0 0) 29
  rw [World.size_alloc] at q
  exact q.alloc _
 have hr2:W0.rowIs (w.heap.size+2) 29 5 (row5 (.int .i64 t.sort) (.int .i64 0) (.string ⟨#[]⟩) (.slice none 0 0) (.slice none 0 0)):=by
  rw [← hW0]
  have q:=row5_alloc ((w.alloc (.cells #[.int .i64 t.sort,.int .i64 t.num,.string t.text,.slice a5 t.names.length cap5,.slice a6 t.kids.length cap6] 29)).alloc (.cells #[.int .i64 0,.int .i64 0,.string ⟨#[]⟩,.slice none 0 0,.slice none 0 0] 29)) (.int .i64 t.sort) (.int .i64 0) (.string ⟨#[]⟩) (.slice none 0 0) (.slice none 0 0) 29
  rw [World.size_alloc,World.size_alloc] at q
  exact q
 rw [hW0]
 have HBW:=xH hbl;have HR1:=xH hr1
 have hinv:SInv (w.heap.size+3) (w.heap.size+2) W0 t.sort (.slice none 0 0) (.slice none 0 0) [] [] [] [] :=
  ⟨by omega,hr2,World.ownsRow_nil _ _ _ _,GotO.start _ _,fun b hb=>by simp [Value.ownBlock] at hb,by omega⟩
 have HINV:=xH hinv
 clear hW0 hbl hr1 hr2 hinv
 go_loopw [13] (fun i wr=>∃ (k:Nat) (aK:Option Addr) (capK:Nat) (xs:List Value) (G:List Nat),k≤t.kids.length∧i=.int .i64 k∧Hid (SInv (w.heap.size+3) (w.heap.size+2) wr t.sort (.slice none 0 0) (.slice aK k capK) [] ((t.kids.take k).map g) xs G)∧Hid (Below (w.heap.size+2) W0 wr)) (fun i _=>t.kids.length - (intOf i).toNat)
 case atStart=>exact ⟨0,none,0,[],[],Nat.zero_le _,rfl,xU HINV,Below.refl _ _⟩
 case round =>
  obtain ⟨k,aK,capK,xs,G,hk,rfl,HS,HB⟩:=hrel
  have hsw:=HB.out.size
  have hbw:Below w.heap.size w wr:=(xU HBW).trans (HB.out.mono (by omega))
  by_cases hlt:k < t.kids.length
  · obtain ⟨b,o,ck,rfl,hpb,hcell,hrp⟩:=xU HK k hlt
    obtain ⟨a3,p3,a4,p4,rfl⟩:=hrp.form
    obtain ⟨f0,f1,f2,f3,f4⟩:=hcell.carry (hbw.block b hpb)
    simp only at f0 f1 f2 f3 f4
    have htk:(t.kids.take (k+1)).map g=(t.kids.take k).map g++[g t.kids[k]]:=by
     rw [List.take_succ_eq_append_getElem hlt,List.map_append];rfl
    have hlkl:((t.kids.take k).map g).length=k:=by simp;omega
    have hcl:=xU HC k hlt
    have HRP:=xH hrp
    generalize t.kids[k]=x at *
    have hrowx:=row5_alloc wr (.int .i64 x.sort) (.int .i64 x.num) (.string x.text) (.slice a3 x.names.length p3) (.slice a4 x.kids.length p4) 29
    have hsK:=HS.out.kept (World.grownBy_alloc wr (.cells #[.int .i64 x.sort,.int .i64 x.num,.string x.text,.slice a3 x.names.length p3,.slice a4 x.kids.length p4] 29) none)
    have hbK:Below (w.heap.size+2) W0 (wr.alloc (.cells #[.int .i64 x.sort,.int .i64 x.num,.string x.text,.slice a3 x.names.length p3,.slice a4 x.kids.length p4] 29)):=HB.out.alloc (by omega) _
    have hbwK:Below w.heap.size w (wr.alloc (.cells #[.int .i64 x.sort,.int .i64 x.num,.string x.text,.slice a3 x.names.length p3,.slice a4 x.kids.length p4] 29)):=hbw.alloc hbw.size _
    have HTK:=xH htk;have HLK:=xH hlkl;have HCL:=xH hcl;have HSK:=xH hsK;have HBK:=xH hbK;have HBWK:=xH hbwK;have HRX:=xH hrowx
    have HSW:=xH hsw;have HSZ0:=xH hs0
    clear htk hlkl hcl hsK hbK hbwK hrowx hrp hcell hpb hbw HS HB
    go_upto_region 5 with fail
    generalize (wr.alloc (.cells #[.int .i64 x.sort,.int .i64 x.num,.string x.text,.slice a3 x.names.length p3,.slice a4 x.kids.length p4] 29))=WK at HSK HBK HBWK HRX ⊢
    have hsW:wr.heap.size < WK.heap.size:=(xU HRX).lt
    have hsW2:w.heap.size+3≤WK.heap.size:=(xU HSK).size
    obtain ⟨k0,k1,k2,k3,k4⟩:=cs5 ((xU HRX)) (by omega)
    have t4:=(xU HSK).cells.cell (i:=4) (by omega)
    simp only [row5] at k0 k1 k2 k3 k4 t4
    have hBc:WK.cell? ⟨B,0,none⟩=some (.func (.func f) #[] caps):=by rw [(xU HBWK).cell (xU HBL)];exact xU HBC
    have hcall:Calls Tryz.prog f (#[.agg #[.int .i64 x.sort,.int .i64 x.num,.string x.text,.slice a3 x.names.length p3,.slice a4 x.kids.length p4]]++caps) WK.drew fun e w6=>∃ e0 e1 e2 a7 n7 cap7 a8 n8 cap8 F,e=.returned (.agg #[.int .i64 e0,.int .i64 e1,.string e2,.slice a7 n7 cap7,.slice a8 n8 cap8])∧Hid (Own w6 (g x) ⟨.int .i64 e0,.int .i64 e1,.string e2,.slice a7 n7 cap7,.slice a8 n8 cap8⟩ F)∧F.Nodup∧Hid (∀ b,b∈F→WK.heap.size≤b∧b < w6.heap.size)∧Hid (Below WK.heap.size WK w6)∧WK.heap.size≤w6.heap.size∧Hid (SInv (w.heap.size+3) (w.heap.size+2) w6 t.sort (.slice none 0 0) (.slice aK k capK) [] ((t.kids.take k).map g) xs G)∧w6.cell? ⟨w.heap.size+2,4,none⟩=some (.slice aK k capK)∧∀ ob,(w6.alloc ob).cell? ⟨w.heap.size+2,4,none⟩=some (.slice aK k capK):=by
     refine (xU HCL WK.drew ⟨_,_,_,_,_⟩ (xU HBWK).drew (Rep.carry (fun b hb=>(xU HBWK).drew.block b hb) (fun b hb=>Nat.lt_of_lt_of_le hb (xU HBWK).size) _ _ (xU HRP))).mono ?_
     rintro e w6 ⟨d,F,rfl,ho,hn1,hl1,hb1⟩
     have hb1':Below WK.heap.size WK w6:=(Below.refl _ WK).drew.trans hb1
     obtain ⟨a7,cap7,a8,cap8,rfl⟩:=ho.forms
     have hs6:=(xU HSK).kept (w':=w6) ⟨hb1'.os,hb1'.tape,hb1'.output,hb1'.size,fun i hi _=>hb1'.block i hi⟩
     exact ⟨_,_,_,_,_,_,_,_,_,F,rfl,ho,hn1,hl1,hb1',hb1'.size,hs6,hs6.cells.cell (i:=4) (by omega),fun ob=>(hs6.cells.alloc ob).cell (i:=4) (by omega)⟩
    have HCALL:=xH hcall
    clear hcall HCL HRP
    generalize g x=gx at *
    go_region_law (first
     | ((refine step_append_lies _ (by rfl) _ _ _ (by rfl) (w.heap.size+3) 29 i0 _ 5 80 Tryz.underlying27 (xU HII) (xU HZ0) (xU HZ1) (xU HZ2) rfl (by decide) (.slice aK k capK) k xs (by rfl) (by have:=(xU HS6).got.row;rw [xU HLK] at this;exact this.alloc _) ⟨w6.heap.size,0,none⟩ 1 1 (c5l ⟨.int .i64 e0,.int .i64 e1,.string e2,.slice a7 n7 cap7,.slice a8 n8 cap8⟩) (by rfl) (by rfl) (cell_five w6 _ _) (xU HOW).one (by decide) (by have:=xU HLEN;unfold maxLen;omega) (by have:=xU HLEN;omega) (by simp;omega) (w6.heap.size+1) (by simp) ?_;intro g2 cap2 w8 hown8 hgrow8 hat8 hlt8;have u4:=(SInv.atK (xU HS6) hgrow8).cell (i:=4) (by omega);have uz4:=(SInv.atK (xU HS6) hgrow8).frozen 4;simp only [row5] at u4))
     | (rw [if_pos (by first | rfl | simp [Region.wanted])];go_simp;refine (xU HCALL).mono ?_;rintro e w6 ⟨e0,e1,e2,a7,n7,cap7,a8,n8,cap8,F,rfl,HOW,hFn,HFL,HB6,hs6,HS6,t4c,t4d⟩))
    all_goals
     have hz6:∀ o,(w6.alloc o).heap.size=w6.heap.size+1:=fun o=>World.size_alloc _ _
     have hinv8:=SInv.kid (m:=WK.heap.size) ((xU HS6).kept (World.grownBy_alloc w6 (.cells #[.int .i64 e0,.int .i64 e1,.string e2,.slice a7 n7 cap7,.slice a8 n8 cap8] 29) none)) (Own.carry gx _ F (fun b hb=>Below.heap_alloc _ _ _ (xU HFL b hb).2) (xU HOW)) hFn (fun b hb=>⟨(xU HFL b hb).1,by rw [hz6];have:=(xU HFL b hb).2;omega⟩)
      (fun b hb=>((xU HSK).got.lt b hb).2.1) (fun b hb=>((xU HSK).got.row.lt b hb).2) (fun b hb=>((xU HSK).names.lt b hb).2) (xU HSK).size (by rw [xU HLK];exact hown8) hgrow8 (hat8.elim (fun e=>Or.inl (by rw [e];rfl)) (fun e=>Or.inr ⟨g2,rfl,by rw [hz6,e];exact Nat.le_refl _⟩))
     rw [← xU HTK] at hinv8
     have hb8:Below (w.heap.size+2) W0 (w8.setCell ⟨w.heap.size+2,4,none⟩ (.slice (some ⟨g2,0,none⟩) (k+1) cap2)) :=
      ((((xU HBK).trans ((xU HB6).mono (by omega))).alloc (by omega) (.cells #[.int .i64 e0,.int .i64 e1,.string e2,.slice a7 n7 cap7,.slice a8 n8 cap8] 29)).grown hgrow8 (by rw [hz6];omega) (fun b e=>by have:=((xU HS6).got.row.lt b e).1;omega)).setCell (by simp) _
     have HI8:=xH hinv8;have HB8:=xH hb8
     have ke:=wrkU (Nat.le_trans hk (Nat.le_trans (xU HLEN) (by decide)))
     clear hinv8 hb8 hown8 hgrow8 hat8 hlt8 u4 uz4 HS6 HOW HFL HB6 HSK HBK t4c t4d k0 k1 k2 k3 k4 t4 f0 f1 f2 f3 f4
     go_wp2_with fail
     go_roundw
     case rel=>exact ⟨k+1,some ⟨g2,0,none⟩,cap2,_,_,hlt,(by first | exact numU k | (rw [ke];exact numU k)),xU HI8,xU HB8⟩
     case measure=>first | exact measU hlt | (rw [ke];exact measU hlt)
  · obtain rfl:k=t.kids.length:=by omega
    have hmk:(t.kids.take t.kids.length).map g=t.kids.map g:=by rw [List.take_length]
    obtain ⟨F,hown,hnd,hFl⟩:=HS.out.done (xU HI0) (fun x hx=>by simp at hx)
    rw [hmk] at hown
    obtain ⟨t0,t1,t2,t3,t4⟩:=cs5 HS.out.cells (by omega)
    have q2:=(xU HR1).of_block (HB.out.block (w.heap.size+1) (by omega))
    have z:=q2.frozen
    obtain ⟨y0,y1,y2,y3,y4⟩:=cs5 q2 (by omega)
    simp only [row5] at t0 t1 t2 t3 t4 y0 y1 y2 y3 y4
    have HOWN:=xH hown;have HFL:=xH hFl;have HBX:=xH hbw
    clear hown hFl q2 hmk hbw
    go_wp2_with fail
    refine bodyPost_ret (v:=.agg #[.int .i64 t.sort,.int .i64 0,.string ⟨#[]⟩,.slice none 0 0,.slice aK t.kids.length capK]) (by simp [results,Tryz.results93,go_sem,y0,y1,y2,y3,y4]) rfl ⟨⟨_,_,_,_,_⟩,F,rfl,?_,hnd,?_,?_⟩
    · exact Own.carry _ _ F (fun b hb=>heap_set5s _ _ _ _ _ _ _ _ (by have:=(xU HFL b hb).1;omega)) (xU HOWN)
    · intro b hb
      rw [size_set5s]
      have:=xU HFL b hb;omega
    · exact below_set5s (xU HBX) _ _ _ _ _ _ (by omega)

theorem rep_tr0 (P:Nat→Prop) (w:World):Rep P w tr0 ⟨.int .i64 0,.int .i64 0,.string ⟨#[]⟩,.slice none 0 0,.slice none 0 0⟩:=by
 unfold tr0
 rw [Rep]
 exact ⟨rfl,rfl,rfl,⟨by decide,by decide⟩,⟨by decide,by decide⟩,by decide,⟨none,0,rfl,by simp,fun i hi=>by simp at hi⟩,none,0,rfl,by simp,fun h=>absurd rfl h⟩
theorem fldZ_no {t:Tr} {x:ByteArray} {i:Nat} (hr:t.names.Pairwise nlt) (h1:∀ j,j < i→Op.bytesLess (t.names.getD j x).toList x.toList=true) (h2:∀ j,i≤j→Op.bytesLess (t.names.getD j x).toList x.toList=false) (hn:¬ (i < t.names.length∧t.names.getD i x=x)):fldZ t x=tr0 :=
 fldZ_not (kidZ_not (k:=.mk 5 t.names []) hr h1 h2 hn).2
theorem fieldNamed_any (t:Tr) (c:C5) (w:World) (hr:Rep (fun x=>x < w.heap.size) w t c) (hrise:t.names.Pairwise nlt) (hlk:t.kids.length=t.names.length) (hl:t.names.length≤1000) (nm:ByteArray) :
 Calls Tryz.prog 77 #[.agg #[c.c0,c.c1,c.c2,c.c3,c.c4],.string nm] w fun e w'=>Below w.heap.size w w'∧∃ (y:C5),e=.returned (.agg #[y.c0,y.c1,y.c2,y.c3,y.c4])∧Rep (fun x=>x < w'.heap.size) w' (fldZ t nm) y:=by
 obtain ⟨a5,cap5,a6,cap6,rfl⟩:=hr.form
 obtain ⟨-,-,-,-,-,-,⟨a5',cap5',e3,-,hnc⟩,a6',cap6',e4,-,hks⟩:=hr.open
 simp only [Value.slice.injEq,true_and] at e3 e4
 obtain ⟨rfl,rfl⟩:=e3
 obtain ⟨rfl,rfl⟩:=e4
 obtain ⟨hr1,hr2,hbw,hsz⟩:=wd_boxes w t.sort t.num t.text a5 a6 t.names.length cap5 t.kids.length cap6
 have HNC:=xH hnc;have HKS:=xH hks;have HR:=xH hrise;have HL:=xH hl;have HLK:=xH hlk
 clear hnc hks hrise hl hlk hr hsz
 have k3:=hr1.cell (i:=3) (by omega)
 simp only [row5] at k3
 go_enter Tryz.func77,Tryz.ntmps77
 go_wp2_with fail
 generalize ((w.alloc (.cells #[.int .i64 t.sort,.int .i64 t.num,.string t.text,.slice a5 t.names.length cap5,.slice a6 t.kids.length cap6] 29)).alloc (.cells #[.int .i64 0,.int .i64 0,.string ⟨#[]⟩,.slice none 0 0,.slice none 0 0] 29))=W0 at hr1 hr2 hbw k3 ⊢
 refine (bs_any t.names (xU HR) (xU HL) a5 cap5 nm W0 (fun i hi=>?_)).mono ?_
 · obtain ⟨b,o,e,hpb,hc,-⟩:=xU HNC i hi
   exact ⟨b,o,e,by rw [hbw.cell hpb];exact hc⟩
 rintro e W1 ⟨hb1,p,hp,rfl,h1,h2⟩
 have hr11:=hr1.of_block (hb1.block _ hr1.lt)
 have hr21:=hr2.of_block (hb1.block _ hr2.lt)
 have hb01:Below w.heap.size w W1:=hbw.trans (hb1.mono hbw.size)
 clear hr1 hr2 hbw hb1 k3
 obtain ⟨m0,m1,m2,m3,m4⟩:=cs5 hr21 (by omega);have mf:=hr21.frozen
 have k4:=hr11.cell (i:=4) (by omega)
 simp only [row5] at m0 m1 m2 m3 m4 k4
 have HB:=xH hb01
 clear hr11 hr21 hb01
 by_cases hf:p < t.names.length∧t.names.getD p nm=nm
 · have hpk:p < t.kids.length:=by rw [xU HLK];exact hf.1
   obtain ⟨b,o,ck,rfl,hbl,hcell,hkid⟩:=xU HKS p hpk
   obtain ⟨x1,r1,x2,r2,rfl⟩:=hkid.form
   obtain ⟨y0,y1,y2,y3,y4⟩:=hcell.carry ((xU HB).block b hbl)
   simp only at y0 y1 y2 y3 y4
   have hz:fldZ t nm=t.kids[p]:=fldZ_at (xU HR) (xU HLK) hf.1 (by have:=hf.2;rwa [List.getD_eq_getElem?_getD,List.getElem?_eq_getElem hf.1,Option.getD_some] at this)
   rw [decide_eq_true hf]
   have HZ:=xH hz
   have HKID:=xH hkid
   have hne1:b≠w.heap.size+1:=by have:b < w.heap.size:=hbl;omega
   have hne2:w.heap.size+1≠b:=by have:b < w.heap.size:=hbl;omega
   clear hkid hf h1 h2 hp hz hbl hcell
   generalize t.kids[p]=x at *
   go_wp2_with fail
   refine bodyPost_ret (v:=.agg #[.int .i64 x.sort,.int .i64 x.num,.string x.text,.slice x1 x.names.length r1,.slice x2 x.kids.length r2]) (by simp [results,Tryz.results77,go_sem,m0,m1,m2,m3,m4]) rfl ?_
   have hbe:=below_set5s (xU HB) (w.heap.size+1) (.int .i64 x.sort) (.int .i64 x.num) (.string x.text) (.slice x1 x.names.length r1) (.slice x2 x.kids.length r2) (Nat.le_succ _)
   refine ⟨hbe,⟨.int .i64 x.sort,.int .i64 x.num,.string x.text,.slice x1 x.names.length r1,.slice x2 x.kids.length r2⟩,rfl,?_⟩
   rw [xU HZ]
   exact Rep.carry (fun z hz=>hbe.block z hz) (fun z hz=>Nat.lt_of_lt_of_le hz hbe.size) _ _ (xU HKID)
 · rw [decide_eq_false hf]
   have HZ:=xH (fldZ_no (xU HR) h1 h2 hf)
   clear hf h1 h2 hp
   go_wp2_with fail
   refine bodyPost_ret (v:=.agg #[.int .i64 0,.int .i64 0,.string ⟨#[]⟩,.slice none 0 0,.slice none 0 0]) (by simp [results,Tryz.results77,go_sem,m0,m1,m2,m3,m4]) rfl ?_
   refine ⟨below_set5s (xU HB) (w.heap.size+1) _ _ _ _ _ (Nat.le_succ _),⟨.int .i64 0,.int .i64 0,.string ⟨#[]⟩,.slice none 0 0,.slice none 0 0⟩,rfl,?_⟩
   rw [xU HZ]
   exact rep_tr0 _ _

structure KInv (B:Nat) (wr:World) (vN vK:Value) (ks:List Tr) (xs:List Value) (G:List Nat):Prop where
 cells:wr.rowIs B 29 5 (row5 (.int .i64 5) (.int .i64 0) (.string ⟨#[]⟩) vN vK)
 got:GotO (B+1) wr vK ks xs G
 size:B+1≤wr.heap.size
theorem KInv.kept {B:Nat} {w w':World} {vN vK:Value} {ks:List Tr} {xs:List Value} {G:List Nat} (h:KInv B w vN vK ks xs G) (hg:w.grownBy w' none):KInv B w' vN vK ks xs G :=
 ⟨h.cells.of_block (hg.block B h.cells.lt (by simp)),h.got.kept hg,Nat.le_trans h.size hg.size⟩
theorem KInv.kid {B m:Nat} {w w':World} {vN vK v':Value} {ks:List Tr} {xs:List Value} {G F:List Nat} {t:Tr} {c:C5} (h:KInv B w vN vK ks xs G)
 (ht:Own w t c F) (hnd:F.Nodup) (hF:∀ b,b∈F→m≤b∧b < w.heap.size) (hGm:∀ b,b∈G→b < m) (hvm:∀ b,vK.ownBlock=some b→b < m) (hbm:B+1≤m)
 (hown:w'.ownsRow (B+1) 29 5 v' (ks.length+1) (xs++c5l c)) (hg:w.grownBy w' vK.ownBlock) (hv:v'.ownBlock=vK.ownBlock∨∃ g,v'.ownBlock=some g∧w.heap.size≤g) :
 KInv B (w'.setCell ⟨B,4,none⟩ v') vN v' (ks++[t]) (xs++c5l c) (G++F):=by
 have hBk:vK.ownBlock≠some B:=fun e=>by have:=(h.got.row.lt B e).1;omega
 have hset:w'.grownBy (w'.setCell ⟨B,4,none⟩ v') (some B):=⟨rfl,rfl,rfl,by simp [World.setCell],fun k _ hk=>Below.heap_setCell _ _ _ _ (fun e=>hk (by rw [e]))⟩
 have hBv:v'.ownBlock≠some B:=fun e=>by have:=(hown.lt B e).1;omega
 have hpush:=GotO.push h.got ht hnd hF hGm hvm hbm hown hg hv
 exact ⟨row5_set4 (h.cells.of_block (hg.block B h.cells.lt (fun e=>hBk e.symm))) v',hpush.other hset (fun b e=>by cases e;exact ⟨hBv,fun hm=>by have:=(hpush.lt _ hm).1;omega⟩),by have:=hg.size;have:=h.size;simp [World.setCell];omega⟩
theorem KInv.atK {B:Nat} {w w':World} {vN vK:Value} {ks:List Tr} {xs:List Value} {G:List Nat} (h:KInv B w vN vK ks xs G) {o:Obj} (hg:(w.alloc o).grownBy w' vK.ownBlock):w'.rowIs B 29 5 (row5 (.int .i64 5) (.int .i64 0) (.string ⟨#[]⟩) vN vK) :=
 (h.cells.alloc o).of_block (hg.block B (h.cells.alloc o).lt (fun e=>by have:=(h.got.row.lt B e.symm).1;omega))
theorem form1_any (t:Tr) (U:List ByteArray) (g:ByteArray→Tr) (c:C5) (w:World) (g1 g2:Nat) (na fa:Option Addr) (nc fc:Nat) (hr:Rep (fun x=>x < w.heap.size) w t c) (hrise:t.names.Pairwise nlt) (hlk:t.kids.length=t.names.length) (hl:t.names.length≤1000) (hUl:U.length≤2000) (hUz:∀ nm,nm∈U→nm.size≤1000)
 (h1:w.cell? ⟨g1,0,none⟩=some (.slice na U.length nc)) (h2:w.cell? ⟨g2,0,none⟩=some (.slice fa U.length fc)) (hst:StrsAt (fun x=>x < w.heap.size) w (.slice na U.length nc) U)
 (hfld:∀ i,(hi:i < U.length)→∃ (fb f:Nat) (caps:Array Value),fa=some ⟨fb,0,none⟩∧w.cell? ⟨fb,i,none⟩=some (.func (.func f) #[] caps)∧(∀ args w,(callFunc f args).run Tryz.prog w=.ok (.enter f args) w)∧∀ W' (d:C5),Below w.heap.size w W'→Rep (fun x=>x < W'.heap.size) W' (fldZ t U[i]) d→Calls Tryz.prog f (#[.agg #[d.c0,d.c1,d.c2,d.c3,d.c4]]++caps) W' (TE (g U[i]) W')) :
 Calls Tryz.prog 75 #[.agg #[c.c0,c.c1,c.c2,c.c3,c.c4],.pointer (some ⟨g1,0,none⟩),.pointer (some ⟨g2,0,none⟩)] w (TE (.mk 5 0 ByteArray.empty U (U.map g)) w):=by
 have HFN:Hid (∀ W' nm,Below w.heap.size w W'→Calls Tryz.prog 77 #[.agg #[c.c0,c.c1,c.c2,c.c3,c.c4],.string nm] W' fun e w'=>Below W'.heap.size W' w'∧∃ (y:C5),e=.returned (.agg #[y.c0,y.c1,y.c2,y.c3,y.c4])∧Rep (fun x=>x < w'.heap.size) w' (fldZ t nm) y):=fun W' nm hW =>
  fieldNamed_any t c W' (Rep.carry (fun x hx=>hW.block x hx) (fun x hx=>Nat.lt_of_lt_of_le hx hW.size) _ _ hr) hrise hlk hl nm
 have HCN:Hid (∀ W',Below w.heap.size w W'→Calls Tryz.prog 76 #[.slice na U.length nc] W' fun e w'=>∃ v' F,e=.returned v'∧StrsOwn w' v' U F∧F.Nodup∧(∀ b,b∈F→W'.heap.size≤b∧b < w'.heap.size)∧Below W'.heap.size W' w'):=fun W' hW =>
  copyNames_any _ U W' (P:=fun x=>x < w.heap.size) (fun b hb=>Nat.lt_of_lt_of_le hb hW.size) (hst.carry (fun b hb=>hW.block b hb) (fun _ h=>h)) (by omega) (fun x hx=>by have:=hUz x hx;omega)
 obtain ⟨a5,cap5,a6,cap6,rfl⟩:=hr.form
 obtain ⟨i0,hi,hz0,hz1,hz2⟩:=info_parts infoTreeS
 obtain ⟨hr1,hr2,hbw,hsz⟩:=wd_boxes w t.sort t.num t.text a5 a6 t.names.length cap5 t.kids.length cap6
 have hl1:=World.block_lt_of_cell? w _ h1
 have hl2:=World.block_lt_of_cell? w _ h2
 have HII:=xH hi;have HZ0:=xH hz0;have HZ1:=xH hz1;have HZ2:=xH hz2
 have HF:=xH hfld;have HST:=xH hst;have HUL:=xH hUl;have HR1:=xH hr1;have HR2:=xH hr2;have HBW:=xH hbw;have HSZ:=xH hsz;have H1:=xH h1;have H2:=xH h2;have HL1:=xH hl1;have HL2:=xH hl2;have HUZ:=xH hUz
 rw [← hbw.cell hl1] at h1
 clear hi hz0 hz1 hz2 hfld hst hUl hr1 hr2 hbw hsz hr hrise hlk hl h2 hl1 hl2 hUz
 go_enter Tryz.func75,Tryz.ntmps75
 go_wp2_with fail
 generalize ((w.alloc (.cells #[.int .i64 t.sort,.int .i64 t.num,.string t.text,.slice a5 t.names.length cap5,.slice a6 t.kids.length cap6] 29)).alloc (.cells #[.int .i64 0,.int .i64 0,.string ⟨#[]⟩,.slice none 0 0,.slice none 0 0] 29))=W0 at h1 HR1 HR2 HBW HSZ ⊢
 refine (xU HCN W0 (xU HBW)).mono ?_
 rintro e V ⟨vN,FN,rfl,hsN,hndN,hFN,hbV⟩
 obtain ⟨nA,nC,rfl,-⟩:=id hsN
 have hbwV:Below w.heap.size w V:=(xU HBW).trans (hbV.mono (xU HBW).size)
 have HSN:=xH hsN;have HNDN:=xH hndN;have HFNL:=xH hFN;have HBV:=xH hbV;have HBWV:=xH hbwV
 clear hsN hndN hFN hbV hbwV h1
 have hbA:Below V.heap.size V (V.alloc (.cells #[.int .i64 5,.int .i64 0,.string ⟨#[]⟩,.slice nA U.length nC,.slice none 0 0] 29)):=(Below.refl _ _).alloc (Nat.le_refl _) _
 have HKI:Hid (KInv V.heap.size (V.alloc (.cells #[.int .i64 5,.int .i64 0,.string ⟨#[]⟩,.slice nA U.length nC,.slice none 0 0] 29)) (.slice nA U.length nC) (.slice none 0 0) [] [] []):=⟨row5_alloc V _ _ _ _ _ _,GotO.start _ _,by simp⟩
 have HBA:=xH hbA
 clear hbA
 have h1':(V.alloc (.cells #[.int .i64 5,.int .i64 0,.string ⟨#[]⟩,.slice nA U.length nC,.slice none 0 0] 29)).cell? ⟨g1,0,none⟩=some (.slice na U.length nc):=by rw [(xU HBA).cell (Nat.lt_of_lt_of_le (xU HL1) (xU HBWV).size),(xU HBWV).cell (xU HL1)];exact xU H1
 go_wp2_with fail
 generalize (V.alloc (.cells #[.int .i64 5,.int .i64 0,.string ⟨#[]⟩,.slice nA U.length nC,.slice none 0 0] 29))=V1 at h1' HKI HBA ⊢
 clear h1'
 go_loopw [13] (fun i wr=>∃ (k:Nat) (aK:Option Addr) (capK:Nat) (xs:List Value) (G:List Nat),k≤U.length∧i=.int .i64 k∧Hid (KInv V.heap.size wr (.slice nA U.length nC) (.slice aK k capK) ((U.take k).map g) xs G)∧Hid (Below V.heap.size V wr)) (fun i _=>U.length - (intOf i).toNat)
 case atStart=>exact ⟨0,none,0,[],[],Nat.zero_le _,rfl,xU HKI,xU HBA⟩
 case round =>
  obtain ⟨k,aK,capK,xs,G,hk,rfl,HS,HB⟩:=hrel
  have hsw:=HB.out.size
  have hbw:Below w.heap.size w wr:=(xU HBWV).trans (HB.out.mono (xU HBWV).size)
  by_cases hlt:k < U.length
  · obtain ⟨na',nc',e9,-,hcs⟩:=xU HST
    simp only [Value.slice.injEq,true_and] at e9
    obtain ⟨rfl,rfl⟩:=e9
    obtain ⟨nb,no,rfl,hnbl,hcn,-⟩:=hcs k hlt
    obtain ⟨fb,f,caps,rfl,hfc,hent,hcl⟩:=xU HF k hlt
    have hfbl:=World.block_lt_of_cell? w _ hfc
    have htk:(U.take (k+1)).map g=(U.take k).map g++[g U[k]]:=by
     rw [List.take_succ_eq_append_getElem hlt,List.map_append];rfl
    have hlkl:((U.take k).map g).length=k:=by simp;omega
    have en:wr.cell? ⟨nb,no+k,none⟩=some (.string U[k]):=by rw [hbw.cell hnbl];exact hcn
    have ef:wr.cell? ⟨fb,k,none⟩=some (.func (.func f) #[] caps):=by rw [hbw.cell hfbl];exact hfc
    have ef2:wr.cell? ⟨g2,0,none⟩=some (.slice (some ⟨fb,0,none⟩) U.length fc):=by rw [hbw.cell (xU HL2)];exact xU H2
    have hrow:=((xU HR1).of_block ((xU HBV).block w.heap.size (xU HR1).lt)).of_block (HB.out.block w.heap.size (Nat.lt_of_lt_of_le (xU HR1).lt (xU HBV).size))
    obtain ⟨k0,k1,k2,k3,k4⟩:=cs5 hrow (by omega)
    have t4:=HS.out.cells.cell (i:=4) (by omega)
    simp only [row5] at k0 k1 k2 k3 k4 t4
    have hsW:V.heap.size+1≤wr.heap.size:=HS.out.size
    have hlow:w.heap.size < wr.heap.size:=hrow.lt
    have hcf:=xU HFN wr.drew U[k] hbw.drew
    have HCF:Hid (Calls Tryz.prog 77 #[.agg #[.int .i64 t.sort,.int .i64 t.num,.string t.text,.slice a5 t.names.length cap5,.slice a6 t.kids.length cap6],.string U[k]] wr.drew fun e w5=>∃ y0 y1 y2 y3 y4,e=.returned (.agg #[y0,y1,y2,y3,y4])∧Hid (Below wr.heap.size wr w5)∧Hid (Rep (fun x=>x < w5.heap.size) w5 (fldZ t U[k]) ⟨y0,y1,y2,y3,y4⟩)∧Hid (KInv V.heap.size w5 (.slice nA U.length nC) (.slice aK k capK) ((U.take k).map g) xs G)∧w5.cell? ⟨V.heap.size,4,none⟩=some (.slice aK k capK)∧w5.cell? ⟨fb,k,none⟩=some (.func (.func f) #[] caps)∧w5.cell? ⟨g2,0,none⟩=some (.slice (some ⟨fb,0,none⟩) U.length fc)):=by
     refine hcf.mono ?_
     rintro e w5 ⟨hb5,⟨y0,y1,y2,y3,y4⟩,rfl,hy⟩
     have hb5':Below wr.heap.size wr w5:=(Below.refl _ wr).drew.trans hb5
     have hs5:=HS.out.kept (w':=w5) ⟨hb5'.os,hb5'.tape,hb5'.output,hb5'.size,fun i hi _=>hb5'.block i hi⟩
     exact ⟨y0,y1,y2,y3,y4,rfl,hb5',hy,hs5,hs5.cells.cell (i:=4) (by omega),cell_onQ hb5' ef,cell_onQ hb5' ef2⟩
    have HCG:Hid (∀ w5 y0 y1 y2 y3 y4,Below wr.heap.size wr w5→Rep (fun x=>x < w5.heap.size) w5 (fldZ t U[k]) ⟨y0,y1,y2,y3,y4⟩→KInv V.heap.size w5 (.slice nA U.length nC) (.slice aK k capK) ((U.take k).map g) xs G→Calls Tryz.prog f (#[.agg #[y0,y1,y2,y3,y4]]++caps) w5 fun e w6=>∃ e0 e1 e2 a7 n7 cap7 a8 n8 cap8 F,e=.returned (.agg #[.int .i64 e0,.int .i64 e1,.string e2,.slice a7 n7 cap7,.slice a8 n8 cap8])∧Hid (Own w6 (g U[k]) ⟨.int .i64 e0,.int .i64 e1,.string e2,.slice a7 n7 cap7,.slice a8 n8 cap8⟩ F)∧F.Nodup∧Hid (∀ b,b∈F→wr.heap.size≤b∧b < w6.heap.size)∧Hid (Below wr.heap.size wr w6)∧wr.heap.size≤w6.heap.size∧Hid (KInv V.heap.size w6 (.slice nA U.length nC) (.slice aK k capK) ((U.take k).map g) xs G)∧w6.cell? ⟨V.heap.size,4,none⟩=some (.slice aK k capK)∧∀ ob,(w6.alloc ob).cell? ⟨V.heap.size,4,none⟩=some (.slice aK k capK)):=by
     intro w5 y0 y1 y2 y3 y4 hb5 hy hs5
     refine (hcl w5 ⟨y0,y1,y2,y3,y4⟩ (hbw.trans (hb5.mono hbw.size)) hy).mono ?_
     rintro e w6 ⟨d,F,rfl,ho,hn1,hl1,hb6⟩
     have hb6':Below wr.heap.size wr w6:=hb5.trans (hb6.mono hb5.size)
     obtain ⟨a7,cap7,a8,cap8,rfl⟩:=ho.forms
     have hs6:=hs5.kept (w':=w6) ⟨hb6.os,hb6.tape,hb6.output,hb6.size,fun i hi _=>hb6.block i hi⟩
     exact ⟨_,_,_,_,_,_,_,_,_,F,rfl,ho,hn1,fun b hb=>⟨Nat.le_trans hb5.size (hl1 b hb).1,(hl1 b hb).2⟩,hb6',hb6'.size,hs6,hs6.cells.cell (i:=4) (by omega),fun ob=>(hs6.cells.alloc ob).cell (i:=4) (by omega)⟩
    have HTK:=xH htk;have HLK:=xH hlkl;have HBWR:=xH hbw
    clear hcf hcl hcs hnbl hcn hfc hfbl htk hlkl hrow hbw
    generalize g U[k]=gx at *
    generalize U[k]=nm at *
    go_upto_region 5 with fail
    go_region_law (first
     | ((refine step_append_lies _ (by rfl) _ _ _ (by rfl) (V.heap.size+1) 29 i0 _ 5 80 Tryz.underlying27 (xU HII) (xU HZ0) (xU HZ1) (xU HZ2) rfl (by decide) (.slice aK k capK) k xs (by rfl) (by have:=(xU HS6).got.row;rw [xU HLK] at this;exact this.alloc _) ⟨w6.heap.size,0,none⟩ 1 1 (c5l ⟨.int .i64 e0,.int .i64 e1,.string e2,.slice a7 n7 cap7,.slice a8 n8 cap8⟩) (by rfl) (by rfl) (cell_five w6 _ _) (xU HOW).one (by decide) (by have:=xU HUL;unfold maxLen;omega) (by have:=xU HUL;omega) (by simp;omega) (w6.heap.size+1) (by simp) ?_;intro g9 cap2 w8 hown8 hgrow8 hat8 hlt8;have u4:=(KInv.atK (xU HS6) hgrow8).cell (i:=4) (by omega);have uz4:=(KInv.atK (xU HS6) hgrow8).frozen 4;simp only [row5] at u4))
     | (rw [if_pos (by first | rfl | simp [Region.wanted])];go_simp;refine (xU HCG w5 y0 y1 y2 y3 y4 (xU HB5) (xU HY5) (xU HS5)).mono ?_;rintro e w6 ⟨e0,e1,e2,a7,n7,cap7,a8,n8,cap8,F,rfl,HOW,hFn,HFL,HB6,hs6,HS6,t4c,t4d⟩)
     | (rw [if_pos (by first | rfl | simp [Region.wanted])];go_simp;refine (xU HCF).mono ?_;rintro e w5 ⟨y0,y1,y2,y3,y4,rfl,HB5,HY5,HS5,t4e,ef5,ef6⟩))
    all_goals
     have hz6:∀ o,(w6.alloc o).heap.size=w6.heap.size+1:=fun o=>World.size_alloc _ _
     have hinv8:=KInv.kid (m:=wr.heap.size) ((xU HS6).kept (World.grownBy_alloc w6 (.cells #[.int .i64 e0,.int .i64 e1,.string e2,.slice a7 n7 cap7,.slice a8 n8 cap8] 29) none)) (Own.carry gx _ F (fun b hb=>Below.heap_alloc _ _ _ (xU HFL b hb).2) (xU HOW)) hFn (fun b hb=>⟨(xU HFL b hb).1,by rw [hz6];have:=(xU HFL b hb).2;omega⟩)
      (fun b hb=>(HS.out.got.lt b hb).2.1) (fun b hb=>(HS.out.got.row.lt b hb).2) HS.out.size (by rw [xU HLK];exact hown8) hgrow8 (hat8.elim (fun e=>Or.inl (by rw [e];rfl)) (fun e=>Or.inr ⟨g9,rfl,by rw [hz6,e];exact Nat.le_refl _⟩))
     rw [← xU HTK] at hinv8
     have hb8:Below V.heap.size V (w8.setCell ⟨V.heap.size,4,none⟩ (.slice (some ⟨g9,0,none⟩) (k+1) cap2)) :=
      (((HB.out.trans ((xU HB6).mono hsw)).alloc (by omega) (.cells #[.int .i64 e0,.int .i64 e1,.string e2,.slice a7 n7 cap7,.slice a8 n8 cap8] 29)).grown hgrow8 (by rw [hz6];omega) (fun b e=>by have:=((xU HS6).got.row.lt b e).1;omega)).setCell (by simp) _
     have HI8:=xH hinv8;have HB8:=xH hb8
     have ke:=wrkU (Nat.le_trans hk (xU HUL))
     clear hinv8 hb8 hown8 hgrow8 hat8 hlt8 u4 uz4 HS6 HOW HFL HB6 t4c t4d k0 k1 k2 k3 k4 t4 HS5 HB5 HY5 t4e ef5 ef6 en ef ef2
     go_wp2_with fail
     go_roundw
     case rel=>exact ⟨k+1,some ⟨g9,0,none⟩,cap2,_,_,hlt,(by first | exact numU k | (rw [ke];exact numU k)),xU HI8,xU HB8⟩
     case measure=>first | exact measU hlt | (rw [ke];exact measU hlt)
  · obtain rfl:k=U.length:=by omega
    have hmk:(U.take U.length).map g=U.map g:=by rw [List.take_length]
    obtain ⟨F,hkids,hnd,hFl,-⟩:=HS.out.got.done
    rw [hmk] at hkids
    obtain ⟨t0,t1,t2,t3,t4⟩:=cs5 HS.out.cells (by omega)
    have hl9:=(xU HR2).lt
    have q2:=((xU HR2).of_block ((xU HBV).block (w.heap.size+1) hl9)).of_block (HB.out.block (w.heap.size+1) (Nat.lt_of_lt_of_le hl9 (xU HBV).size))
    have z:=q2.frozen
    obtain ⟨y0,y1,y2,y3,y4⟩:=cs5 q2 (by omega)
    simp only [row5] at t0 t1 t2 t3 t4 y0 y1 y2 y3 y4
    have HKD:=xH hkids;have HFL:=xH hFl;have HBX:=xH hbw;have HND:=xH hnd
    have hszv:w.heap.size+2≤V.heap.size:=by have:=(xU HBV).size;rw [xU HSZ] at this;exact this
    have HSV:=xH hszv
    clear hkids hFl q2 hmk hbw hnd hszv hl9
    go_wp2_with fail
    refine bodyPost_ret (v:=.agg #[.int .i64 5,.int .i64 0,.string ⟨#[]⟩,.slice nA U.length nC,.slice aK U.length capK]) (by simp [results,Tryz.results75,go_sem,y0,y1,y2,y3,y4]) rfl ⟨⟨_,_,_,_,_⟩,FN++F,rfl,?_,?_,?_,?_⟩
    · have hN:=(xU HSN).carry (w':=wr) (fun b hb=>HB.out.block b (xU HFNL b hb).2)
      exact Own.make (t:=.mk 5 0 ByteArray.empty U (U.map g)) rfl rfl rfl (show I64 5 from ⟨by decide,by decide⟩) (show I64 0 from ⟨by decide,by decide⟩) (by simp [Tr.text])
       (hN.carry (fun b hb=>heap_set5s _ _ _ _ _ _ _ _ (by have:=(xU HFNL b hb).1;have:=xU HSZ;omega)))
       ((xU HKD).carry (fun b hb=>heap_set5s _ _ _ _ _ _ _ _ (by have:=(xU HFL b hb).1;have:=xU HSV;omega)))
    · exact List.nodup_append.2 ⟨xU HNDN,xU HND,fun a ha b hb e=>by have:=(xU HFNL a ha).2;have:=(xU HFL b hb).1;omega⟩
    · intro b hb
      rw [size_set5s]
      rcases List.mem_append.1 hb with hb | hb
      · have h5:=xU HFNL b hb;have:=xU HSZ;exact ⟨by omega,Nat.lt_of_lt_of_le h5.2 hsw⟩
      · have h5:=xU HFL b hb;have:=xU HSV;exact ⟨by omega,h5.2⟩
    · exact below_set5s (xU HBX) _ _ _ _ _ _ (Nat.le_succ _)

theorem StrsAt.bound {P:Nat→Prop} {w:World} {v:Value} {ss:List ByteArray} (h:StrsAt P w v ss):StrsAt (fun x=>P x∧x < w.heap.size) w v ss:=by
 obtain ⟨a,cap,h1,h2,h3⟩:=h
 refine ⟨a,cap,h1,h2,fun i hi=>?_⟩
 obtain ⟨b,o,h4,h5,h6,h7⟩:=h3 i hi
 exact ⟨b,o,h4,⟨h5,World.block_lt_of_cell? w _ h6⟩,h6,h7⟩
theorem uni_n {L:Nat} {Q:Nat→Nat→Prop} (hmono:∀ i n m,Q i n→n≤m→Q i m) (h:∀ i,i < L→∃ n,Q i n):∃ n,∀ i,i < L→Q i n:=by
 induction L with
 | zero=>exact ⟨0,fun i hi=>by omega⟩
 | succ L ih =>
   obtain ⟨n,hn⟩:=ih (fun i hi=>h i (by omega))
   obtain ⟨m,hm⟩:=h L (by omega)
   refine ⟨max n m,fun i hi=>?_⟩
   by_cases e:i=L
   · subst e;exact hmono _ _ _ hm (Nat.le_max_right _ _)
   · exact hmono _ _ _ (hn i (by omega)) (Nat.le_max_left _ _)
theorem cell_same {W W':World} {P:Nat→Prop} (hW:∀ x,P x→x < W.heap.size→W'.heap[x]? = W.heap[x]?) {a:Addr} {v:Value} (hP:P a.block) (h:W.cell? a=some v):W'.cell? a=some v:=by
 rw [World.cell?_of_block (w:=W) (hW a.block hP (World.block_lt_of_cell? W _ h))]
 exact h
theorem same_on {W W' W'':World} {P:Nat→Prop} (hW:∀ x,P x→x < W.heap.size→W'.heap[x]? = W.heap[x]?) (hb:Below W'.heap.size W' W''):∀ x,P x→x < W.heap.size→W''.heap[x]? = W.heap[x]? := fun x hx hl =>
 (hb.block x (lt_same (hW x hx hl) hl)).trans (hW x hx hl)
theorem app_nil (x:Value):(#[x]++#[]:Array Value)=#[x]:=rfl
theorem app_one (x y:Value):(#[x]++#[y]:Array Value)=#[x,y]:=rfl
theorem app_two (x y z:Value):(#[x]++#[y,z]:Array Value)=#[x,y,z]:=rfl
theorem gWd:GLaws GWd where
 on:=fun a b P Q W W' fv ⟨n,h⟩ h1 h2=>⟨n,h.on h1 h2⟩
 zero:=fun a b P W ha hb=>⟨1,wOk_zero ha (by omega),_,_,rfl,enW _ Tryz.func69 (by kernel_rfl) rfl,fun W' hW t c hr ht=>by
  rw [app_nil]
  exact none1_any t c 0 a b ha W' hr⟩
 leaf:=fun a b P W hab h1=>⟨1,⟨by omega,fun _=>⟨fun h=>by omega,fun h=>by omega,fun h=>by omega⟩⟩,_,_,rfl,enW _ Tryz.func70 (by kernel_rfl) rfl,fun W' hW t c hr ht=>by
  rw [app_nil]
  rcases ht with h0 | ⟨-,h2⟩
  · omega
  · exact leaf1_any t c 0 a b hab h1 W' hr (by have:=(alone_open (okH_open h2).1).1;omega)⟩
 each:=fun a b P W B fv hab ha hb hoa hob hPB hc hf ⟨n,h⟩=>by
  obtain ⟨k1,f,caps,rfl,k3,k4⟩:=h
  refine ⟨n+1,⟨by omega,fun _=>⟨fun h=>by omega,fun h=>?_,fun h=>by omega⟩⟩,_,_,rfl,enW _ Tryz.func93 (by kernel_rfl) rfl,fun W' hW t c hr ht=>?_⟩
  · rw [getD_kid ha,getD_kid hb];exact k1
  · rw [app_one,widF_each hab ha hb]
    rcases ht with h0 | ⟨h1,h2⟩
    · omega
    · obtain ⟨g1,g2,g3⟩:=hT_open h1
      obtain ⟨g4,g5⟩:=okH_open h2
      have g6:=(alone_open g4).2.1 (by omega)
      refine each1_any t (widF n a.kids[0] b.kids[0]) c W' B f caps hr (cell_same hW hPB hc) k3 (by omega) (fun i hi W'' d hb' hr'=>k4 W'' (same_on hW hb') _ d hr' (Or.inr ⟨?_,g5 i hi⟩))
      have:=g3 i hi
      rwa [kidOf_else (by omega) i ha] at this
 into:=fun a b P W B fv hb6 ha6 ha0 hb hoa hob hPB hc hf ⟨n,h⟩=>by
  obtain ⟨k1,f,caps,rfl,k3,k4⟩:=h
  refine ⟨n+1,⟨by omega,fun _=>⟨fun h=>?_,fun h=>by omega,fun h=>by omega⟩⟩,_,_,rfl,enW _ Tryz.func72 (by kernel_rfl) rfl,fun W' hW t c hr ht=>?_⟩
  · rw [getD_kid hb];exact k1
  · rw [app_one,widF_into ha0 hb6 ha6 hb]
    exact into1_any t _ c W' B f caps hr (cell_same hW hPB hc) k3 (fun W'' hb'=>k4 W'' (same_on hW hb') t c (Rep.carry (fun x hx=>hb'.block x hx) (fun x hx=>Nat.lt_of_lt_of_le hx hb'.size) _ _ hr) ht)
 form:=fun a b P W g1 g2 ha5 hb5 hla hlb hoa hob hfm=>by
  obtain ⟨na,nc,fa,fc,fvs,hp1,hp2,hc1,hc2,hst,hfl,hfs⟩:=hfm
  obtain ⟨n,hn⟩:=uni_n (L:=(uniN a.names b.names).length) (Q:=fun i n=>∀ (hi:i < (uniN a.names b.names).length) (hf:i < fvs.length),WidC n (kidZ a (uniN a.names b.names)[i]) (kidZ b (uniN a.names b.names)[i]) P W fvs[i])
   (fun i n m h hm hi hf=>(h hi hf).le hm) (fun i hi=>by
     obtain ⟨fb,-,-,-,⟨n,hn⟩,-⟩:=hfs i hi (by omega)
     exact ⟨n,fun _ _=>hn⟩)
  refine ⟨n+1,⟨by omega,fun _=>⟨fun h=>by omega,fun h=>by omega,fun _ nm hm=>?_⟩⟩,_,_,rfl,enW _ Tryz.func75 (by kernel_rfl) rfl,fun W' hW t c hr ht=>?_⟩
  · obtain ⟨i,hi,rfl⟩:=List.mem_iff_getElem.1 hm
    exact (hn i hi hi (by omega)).1
  · rw [app_two,widF_form ha5 hb5]
    rcases ht with h0 | ⟨h1,h2⟩
    · omega
    · obtain ⟨g1',g2',g3'⟩:=hT_open h1
      obtain ⟨g4,g5⟩:=okH_open h2
      obtain ⟨g6,g7⟩:=(alone_open g4).2.2 (by omega)
      have hka:a.kids.length=a.names.length:=by
       rw [okD_eq,Bool.and_eq_true] at hoa
       have:=hoa.1
       unfold shB at this
       rw [if_neg (by omega),if_neg (by omega),if_pos ha5,Bool.and_eq_true,decide_eq_true_eq] at this
       omega
      have hrb:riseB b.names=true:=by
       rw [okD_eq,Bool.and_eq_true] at hob
       have:=hob.1
       unfold shB at this
       rw [if_neg (by omega),if_neg (by omega),if_pos hb5,Bool.and_eq_true] at this
       exact this.2
      have hra:riseB a.names=true:=by rw [g2'];exact g7
      refine form1_any t (uniN a.names b.names) (fun nm=>widF n (kidZ a nm) (kidZ b nm) (fldZ t nm)) c W' g1 g2 na fa nc fc hr (rise_pairs g7) g6 (by rw [← g2'];exact hla) ?_ ?_ (cell_same hW hp1 hc1) (cell_same hW hp2 hc2) ?_ (fun i hi=>?_)
      · rw [uniN_len]
        have:=uniL_len a.names b.names
        omega
      · intro nm hm
        have:nm.size≤8:=by
         rcases (uniN_mem nm).1 hm with h | h
         · exact rise_szU hra h
         · exact rise_szU hrb h
        omega
      · exact hst.bound.carry (fun x hx=>hW x hx.1 hx.2) (fun x hx=>lt_same (hW x hx.1 hx.2) hx.2)
      · obtain ⟨fb,e1,e2,e3,-,-⟩:=hfs i hi (by omega)
        obtain ⟨k1,f,caps,k2,k3,k4⟩:=hn i hi hi (by omega)
        refine ⟨fb,f,caps,e1,?_,k3,fun W'' d hb' hr'=>k4 W'' (same_on hW hb') _ d hr' (fld_has ha5 h1 h2 hka _)⟩
        rw [← k2]
        exact cell_same hW e2 e3
end Go.Proofs.YteefjeddboefcaaGreatDoor
