/- A part. -/
import Derived.Test.YteikmbkljkkjiaaSart19
namespace Go.Proofs.Yteikmbkljkkjiaa
open Go Go.RowKit
set_option maxRecDepth 100000
set_option maxHeartbeats 12800000
structure Ar where
 kind:Int
 data:ByteArray
 cuts:Bool
 after:Int
 moves:Int
 vk:Value
def Ar.cs (x:Ar):List Value:=[.int .i64 x.kind,.string x.data,.bool x.cuts,.int .i64 x.after,.int .i64 x.moves,x.vk]
def AcsAt (P:Nat→Prop) (w:World) (v:Value) (xs:List Ar):Prop:=FlatAt P w v 6 (xs.map Ar.cs)∧∀ x,x∈xs→x.data.size≤1000000∧∃ zs,ZsAt P w x.vk zs
theorem AcsAt.carry {P Q:Nat→Prop} {w w':World} {v:Value} {xs:List Ar} (h:AcsAt P w v xs) (hP:∀ b,P b→w'.heap[b]? = w.heap[b]?) (hQ:∀ b,P b→Q b):AcsAt Q w' v xs :=
 ⟨h.1.carry hP hQ,fun x hx=>⟨(h.2 x hx).1,let ⟨zs,hz⟩:=(h.2 x hx).2;⟨zs,hz.carry hP hQ⟩⟩⟩
theorem ixRunA8 {o:Oper} {a:Act} {X I:Operand} {g p n cap i:Nat} (ho:o.op=.indexAddr 110 X I) (hx:a.eval X=.slice (some ⟨g,p,none⟩) n cap) (hi:a.eval I=.int .i64 (i:Nat)) (h:i < n) (w:World):(execOp a.eval o).run Try.prog w=.ok (.value (.pointer (some ⟨g,p+i * 6,none⟩))) w:=by
 have h1:(0:Int)≤(i:Int)∧(i:Int) < (n:Int):=⟨by omega,by omega⟩
 have h2:(Instr.indexAt 110 (.slice (some ⟨g,p,none⟩) n cap) (.int .i64 (i:Nat))).run Try.prog w=.ok (.pointer (some ⟨g,p+i * 6,none⟩)) w:=by
  have e:(⟨g,p+i * 6,none⟩:Addr)=(⟨g,p,none⟩:Addr).add (i * 6):=by simp [Addr.add]
  rw [e]
  simp [go_sem,h1]
 unfold execOp
 simp only [ho,hx,hi,Sem.run_bind,Sem.run_pure,Result.andThen_ok,h2]
theorem info6A:(Try.prog.info? 124).map (·.size)=some 6:=by kernel_rfl
theorem rowAcO:∃ d,Try.prog.underlying 124=some d∧d.isRow=true:=⟨_,Try.underlying124,by rfl⟩
theorem ldAc8 {w:World} {b o:Nat} {v0 v1 v2 v3 v4 v5:Value} (h:∀ j u,([v0,v1,v2,v3,v4,v5]:List Value)[j]? = some u→w.cell? ⟨b,o+j,none⟩=some u):(Instr.loadAt 124 (.pointer (some ⟨b,o,none⟩))).run Try.prog w=.ok (.agg #[v0,v1,v2,v3,v4,v5]) w:=by
 obtain ⟨dd,hdu,hdr⟩:=rowAcO
 unfold Instr.loadAt
 simp only [Instr.sureAddr,Sem.run_bind,Sem.run_pure,Result.andThen_ok,run_loadVar_mid w b o 124 [v0,v1,v2,v3,v4,v5] dd (fun j v hv=>h j v hv) hdu hdr info6A]
abbrev Gd:={d:Dk // GoodD d}
noncomputable def lp8Ops:Array Oper:=fops Try.f66 8
theorem lp8_neat:Region.noSelect lp8Ops=true∧neat lp8Ops=true:=⟨by kernel_rfl,by kernel_rfl⟩
def kp_lp8 (z:Nat→Value):List (Nat × Value):=[(1,z 1),(2,z 2),(3,z 3),(5,z 5),(10,z 10),(11,z 11),(12,z 12),(13,z 13),(14,z 14),(15,z 15),(16,z 16),(17,z 17),(18,z 18),(19,z 19),(20,z 20),(21,z 21),(22,z 22),(33,z 33),(34,z 34),(35,z 35),(36,z 36),(37,z 37),(38,z 38),(39,z 39)]
theorem lp8z (z:Nat→Value) (LL:(Nat→Value)→C3→Gd→Int→Int→Nat→List Value) (B4 ag p n cap i:Nat) (c:C3) (x:Ar) (W0:World) {l:List Value} (Q:Exit→Act→World→Prop) (hQ:∀ c a d v w,Q (.panic c) (Act.put a d v) w→Q (.panic c) a w) (h4:W0.drew.rowIs B4 27 3 (row3 c.c0 c.c1 c.c2)) (hag:ag < W0.drew.heap.size) (hx:∀ j u,x.cs[j]? = some u→W0.drew.cell? ⟨ag,p+i * 6+j,none⟩=some u) (hi:i < n) (HK:∀ W,Below W0.drew.heap.size W0.drew W→Calls Try.prog 82 #[.agg #[c.c0,c.c1,c.c2],.agg #[.int .i64 x.kind,.string x.data,.bool x.cuts,.int .i64 x.after,.int .i64 x.moves,x.vk]] W fun e w'=>∃ (c':C3) (dd:Gd) (pos:Int) (code:Int),e=.returned (.tuple #[.agg #[c'.c0,c'.c1,c'.c2],.int .i64 pos,.int .i64 code])∧DkAt (New W w') w' dd.1 c'∧Below W.heap.size W w')
 (hl:lookL (kp_lp8 z++[(0,.slice (some ⟨ag,p,none⟩) n cap),(4,.pointer (some ⟨B4,0,none⟩)),(6,.int .i64 (i:Nat))]) l=(40,((kp_lp8 z++[(0,.slice (some ⟨ag,p,none⟩) n cap),(4,.pointer (some ⟨B4,0,none⟩)),(6,.int .i64 (i:Nat))]):List (Nat × Value)).map (·.2)))
 (hfr:∀ (u:Nat→Value) (c':C3) (dd:Gd) (pos:Int) (code:Int) (g:Nat),frL u 40 (kp_lp8 z++[(0,.slice (some ⟨ag,p,none⟩) n cap),(4,.pointer (some ⟨B4,0,none⟩)),(6,.int .i64 (i:Nat)),(7,.pointer (some ⟨g,0,none⟩)),(8,.int .i64 pos),(9,.int .i64 code)])=LL u c' dd pos code g)
 (hend:∀ (u:Nat→Value) (c':C3) (dd:Gd) (pos:Int) (code:Int) (g:Nat) (W:World),Below W0.drew.heap.size W0.drew W→W.rowIs g 27 3 (row3 c'.c0 c'.c1 c'.c2)→W0.drew.heap.size≤g→DkAt (fun b=>W0.drew.heap.size≤b∧b < W.heap.size) W dd.1 c'→Q .normal ⟨(LL u c' dd pos code g).toArray,[]⟩ W):(Code.region 8 lp8Ops true).wp Try.prog Q ⟨l.toArray,[]⟩ W0:=by
 obtain ⟨v0,rfl⟩:=look_fr hl
 have hq:NtQ lp8Ops Q:=⟨lp8_neat,hQ⟩
 refine T_start (S:=fun W=>Below W0.drew.heap.size W0.drew W) (by kernel_rfl) (Below.refl _ _) ?_
 clear hl hQ
 generalize W0.drew=V at h4 hag hx HK hend ⊢
 have N2:∀ (u:Nat→Value) (W:World) (hb:Below V.heap.size V W) (c':C3) (dd:Gd) (pos:Int) (code:Int) (g:Nat) (hg:W.rowIs g 27 3 (row3 (.slice none 0 0) (.slice none 0 0) (.slice none 0 0))) (hgb:V.heap.size≤g) (hd:DkAt (fun b=>V.heap.size≤b∧b < W.heap.size∧b≠g) W dd.1 c'),wpS Try.prog lp8Ops Q (fun W=>Below V.heap.size V W) (unl 14 [11,12,13],frL u 40 (kp_lp8 z++[(0,.slice (some ⟨ag,p,none⟩) n cap),(4,.pointer (some ⟨B4,0,none⟩)),(6,.int .i64 (i:Nat)),(7,.pointer (some ⟨g,0,none⟩)),(30,.agg #[c'.c0,c'.c1,c'.c2]),(31,.int .i64 pos),(32,.int .i64 code)])) [] W:=by
  intro u W hb c' dd pos code g hg hgb hd
  obtain ⟨s1,s2,s3,s4⟩:=set3 W g c'.c0 c'.c1 c'.c2
  have hb2:=s4 _ _ hgb hb
  refine T_one 11 (by kernel_rfl) fun _=>O_store_mid none 27 (.tmp 7) (.tmp 30) g 0 #[c'.c0,c'.c1,c'.c2] (by kernel_rfl) (by kernel_rfl) (by kernel_rfl) (there3 hg) info3D (dk_one8 hd) hb2 ?_
  refine T_z hq [12,13] (by kernel_rfl) ?_
  exact T_end 40 (kp_lp8 z++[(0,.slice (some ⟨ag,p,none⟩) n cap),(4,.pointer (some ⟨B4,0,none⟩)),(6,.int .i64 (i:Nat)),(7,.pointer (some ⟨g,0,none⟩)),(8,.int .i64 pos),(9,.int .i64 code)]) (by kernel_rfl) (by kernel_rfl) fun _ u=>by rw [hfr];exact hend u c' dd pos code g _ hb2 (s3 _ _ hg) hgb (hd.carry (fun b hb'=>s1 b hb'.2.2) (fun b hb'=>⟨hb'.1,by rw [s2];exact hb'.2.1⟩))
 have N1:∀ (u:Nat→Value) (W:World) (hb:Below V.heap.size V W) (c':C3) (dd:Gd) (pos:Int) (code:Int) (hd:DkAt (fun b=>V.heap.size≤b∧b < W.heap.size) W dd.1 c'),wpS Try.prog lp8Ops Q (fun W=>Below V.heap.size V W) (unl 14 [10,11,12,13],frL u 40 (kp_lp8 z++[(0,.slice (some ⟨ag,p,none⟩) n cap),(4,.pointer (some ⟨B4,0,none⟩)),(6,.int .i64 (i:Nat)),(30,.agg #[c'.c0,c'.c1,c'.c2]),(31,.int .i64 pos),(32,.int .i64 code)])) [] W:=by
  intro u W hb c' dd pos code hd
  have hal:=(Below.refl W.heap.size W).alloc (Nat.le_refl _) (.cells #[.slice none 0 0,.slice none 0 0,.slice none 0 0] 27)
  refine T_one 10 (by kernel_rfl) fun _=>?_
  exact O_val (w':=W.alloc (.cells #[.slice none 0 0,.slice none 0 0,.slice none 0 0] 27)) (some 7) (.pointer (some ⟨W.heap.size,0,none⟩)) (by kernel_rfl) (by kernel_rfl) (hb.alloc hb.size _) (T_fr 14 40 [11,12,13] (kp_lp8 z++[(0,.slice (some ⟨ag,p,none⟩) n cap),(4,.pointer (some ⟨B4,0,none⟩)),(6,.int .i64 (i:Nat)),(7,.pointer (some ⟨W.heap.size,0,none⟩)),(30,.agg #[c'.c0,c'.c1,c'.c2]),(31,.int .i64 pos),(32,.int .i64 code)]) (by kernel_rfl) fun u=>N2 u _ (hb.alloc hb.size _) c' dd pos code _ (row3_alloc W _ _ _ _) hb.size (hd.carry (fun b hb2=>hal.block b hb2.2) (fun b hb2=>⟨hb2.1,Nat.lt_of_lt_of_le hb2.2 hal.size,Nat.ne_of_lt hb2.2⟩)))
 have NB:∀ (u:Nat→Value) (W:World) (hb:Below V.heap.size V W) (g:Nat) (hg:W.rowIs g 27 3 (row3 (.slice none 0 0) (.slice none 0 0) (.slice none 0 0))) (hgb:V.heap.size≤g),wpS Try.prog lp8Ops Q (fun W=>Below V.heap.size V W) (unl 14 [5,6,7,8,9,11,12,13],frL u 40 (kp_lp8 z++[(0,.slice (some ⟨ag,p,none⟩) n cap),(4,.pointer (some ⟨B4,0,none⟩)),(6,.int .i64 (i:Nat)),(7,.pointer (some ⟨g,0,none⟩)),(24,.agg #[c.c0,c.c1,c.c2]),(28,.agg #[.int .i64 x.kind,.string x.data,.bool x.cuts,.int .i64 x.after,.int .i64 x.moves,x.vk])])) [] W:=by
  intro u W hb g hg hgb
  refine T_one 5 (by kernel_rfl) fun _=>O_go (HK W hb) (by kernel_rfl) ?_
  rintro e w1 ⟨c',dd,pos,code,rfl,hd,hb1⟩
  exact ⟨_,rfl,hb.trans (hb1.mono hb.size),T_z hq [6,7,8,9] (by kernel_rfl) (T_fr 14 40 [11,12,13] (kp_lp8 z++[(0,.slice (some ⟨ag,p,none⟩) n cap),(4,.pointer (some ⟨B4,0,none⟩)),(6,.int .i64 (i:Nat)),(7,.pointer (some ⟨g,0,none⟩)),(30,.agg #[c'.c0,c'.c1,c'.c2]),(31,.int .i64 pos),(32,.int .i64 code)]) (by kernel_rfl) fun u=>N2 u w1 (hb.trans (hb1.mono hb.size)) c' dd pos code g (hg.of_block (hb1.block _ hg.lt)) hgb (hd.carry (fun _ _=>rfl) (fun b hb2=>⟨Nat.le_trans hb.size hb2.1,hb2.2,fun e=>by have:=hg.lt;have h3:W.heap.size≤b:=hb2.1;omega⟩)))⟩
 have N0:∀ (u:Nat→Value),wpS Try.prog lp8Ops Q (fun W=>Below V.heap.size V W) (unl 14 [5,6,7,8,9,10,11,12,13],frL u 40 (kp_lp8 z++[(0,.slice (some ⟨ag,p,none⟩) n cap),(4,.pointer (some ⟨B4,0,none⟩)),(6,.int .i64 (i:Nat)),(24,.agg #[c.c0,c.c1,c.c2]),(28,.agg #[.int .i64 x.kind,.string x.data,.bool x.cuts,.int .i64 x.after,.int .i64 x.moves,x.vk])])) [] V:=by
  intro u
  refine T_two 5 10 (by kernel_rfl) (fun _=>?_) fun _=>?_
  · exact O_go (HK V (Below.refl _ _)) (by kernel_rfl) (by
     rintro e w1 ⟨c',dd,pos,code,rfl,hd,hb1⟩
     exact ⟨_,rfl,hb1,T_z hq [6,7,8,9] (by kernel_rfl) (T_fr 14 40 [10,11,12,13] (kp_lp8 z++[(0,.slice (some ⟨ag,p,none⟩) n cap),(4,.pointer (some ⟨B4,0,none⟩)),(6,.int .i64 (i:Nat)),(30,.agg #[c'.c0,c'.c1,c'.c2]),(31,.int .i64 pos),(32,.int .i64 code)]) (by kernel_rfl) fun u=>N1 u w1 hb1 c' dd pos code hd)⟩)
  · exact O_val (w':=V.alloc (.cells #[.slice none 0 0,.slice none 0 0,.slice none 0 0] 27)) (some 7) (.pointer (some ⟨V.heap.size,0,none⟩)) (by kernel_rfl) (by kernel_rfl) ((Below.refl _ _).alloc (Nat.le_refl _) _) (T_fr 14 40 [5,6,7,8,9,11,12,13] (kp_lp8 z++[(0,.slice (some ⟨ag,p,none⟩) n cap),(4,.pointer (some ⟨B4,0,none⟩)),(6,.int .i64 (i:Nat)),(7,.pointer (some ⟨V.heap.size,0,none⟩)),(24,.agg #[c.c0,c.c1,c.c2]),(28,.agg #[.int .i64 x.kind,.string x.data,.bool x.cuts,.int .i64 x.after,.int .i64 x.moves,x.vk])]) (by kernel_rfl) fun u=>NB u _ ((Below.refl _ _).alloc (Nat.le_refl _) _) _ (row3_alloc V _ _ _ _) (Nat.le_refl _))
 refine T_a hq [0,1,2] (fun w h=>.cons (ldDk (h4.of_block (h.block _ h4.lt))) (Lds.nil)) (by kernel_rfl) ?_
 refine T_yld hq 3 (some 27) (.pointer (some ⟨ag,p+i * 6,none⟩)) (by kernel_rfl) (by kernel_rfl) (fun w h=>ixRunA8 (X:=.tmp 25) (I:=.tmp 26) (n:=n) (cap:=cap) (i:=i) (by kernel_rfl) (by kernel_rfl) (by kernel_rfl) hi w) ?_
 refine T_a hq [4] (fun w h=>.cons (ldAc8 (fun j u hu=>(h.cell hag).trans (hx j u hu))) (Lds.nil)) (by kernel_rfl) ?_
 exact T_fr 14 40 [5,6,7,8,9,10,11,12,13] (kp_lp8 z++[(0,.slice (some ⟨ag,p,none⟩) n cap),(4,.pointer (some ⟨B4,0,none⟩)),(6,.int .i64 (i:Nat)),(24,.agg #[c.c0,c.c1,c.c2]),(28,.agg #[.int .i64 x.kind,.string x.data,.bool x.cuts,.int .i64 x.after,.int .i64 x.moves,x.vk])]) (by kernel_rfl) fun u=>N0 u
theorem lp8 (B4 ag p n cap i:Nat) (c:C3) (x:Ar) (W0:World) {l:List Value} (Q:Exit→Act→World→Prop) (hQ:∀ c a d v w,Q (.panic c) (Act.put a d v) w→Q (.panic c) a w) (h4:W0.drew.rowIs B4 27 3 (row3 c.c0 c.c1 c.c2)) (hag:ag < W0.drew.heap.size) (hx:∀ j u,x.cs[j]? = some u→W0.drew.cell? ⟨ag,p+i * 6+j,none⟩=some u) (hi:i < n) (HK:∀ W,Below W0.drew.heap.size W0.drew W→Calls Try.prog 82 #[.agg #[c.c0,c.c1,c.c2],.agg #[.int .i64 x.kind,.string x.data,.bool x.cuts,.int .i64 x.after,.int .i64 x.moves,x.vk]] W fun e w'=>∃ (c':C3) (dd:Gd) (pos:Int) (code:Int),e=.returned (.tuple #[.agg #[c'.c0,c'.c1,c'.c2],.int .i64 pos,.int .i64 code])∧DkAt (New W w') w' dd.1 c'∧Below W.heap.size W w')
 (hl:lookL (kp_lp8 (fun i=>l.getD i undef)++[(0,.slice (some ⟨ag,p,none⟩) n cap),(4,.pointer (some ⟨B4,0,none⟩)),(6,.int .i64 (i:Nat))]) l=(40,((kp_lp8 (fun i=>l.getD i undef)++[(0,.slice (some ⟨ag,p,none⟩) n cap),(4,.pointer (some ⟨B4,0,none⟩)),(6,.int .i64 (i:Nat))]):List (Nat × Value)).map (·.2)))
 (hfr:∀ (u:Nat→Value) (_c':C3) (_dd:Gd) (pos:Int) (code:Int) (g:Nat),frL u 40 (kp_lp8 (fun i=>l.getD i undef)++[(0,.slice (some ⟨ag,p,none⟩) n cap),(4,.pointer (some ⟨B4,0,none⟩)),(6,.int .i64 (i:Nat)),(7,.pointer (some ⟨g,0,none⟩)),(8,.int .i64 pos),(9,.int .i64 code)])=(l.take 7++(.pointer (some ⟨g,0,none⟩)::(.int .i64 pos::(.int .i64 code::((l.drop 10).take 13++(u 23::(u 24::(u 25::(u 26::(u 27::(u 28::(u 29::(u 30::(u 31::(u 32::l.drop 33))))))))))))))))
 (hend:∀ (u:Nat→Value) (c':C3) (dd:Gd) (pos:Int) (code:Int) (g:Nat) (W:World),Below W0.drew.heap.size W0.drew W→W.rowIs g 27 3 (row3 c'.c0 c'.c1 c'.c2)→W0.drew.heap.size≤g→DkAt (fun b=>W0.drew.heap.size≤b∧b < W.heap.size) W dd.1 c'→Q .normal ⟨((l.take 7++(.pointer (some ⟨g,0,none⟩)::(.int .i64 pos::(.int .i64 code::((l.drop 10).take 13++(u 23::(u 24::(u 25::(u 26::(u 27::(u 28::(u 29::(u 30::(u 31::(u 32::l.drop 33)))))))))))))))).toArray,[]⟩ W):(Code.region 8 lp8Ops true).wp Try.prog Q ⟨l.toArray,[]⟩ W0 :=
 lp8z (fun i=>l.getD i undef) (fun u _c' _dd pos code g=>(l.take 7++(.pointer (some ⟨g,0,none⟩)::(.int .i64 pos::(.int .i64 code::((l.drop 10).take 13++(u 23::(u 24::(u 25::(u 26::(u 27::(u 28::(u 29::(u 30::(u 31::(u 32::l.drop 33)))))))))))))))) B4 ag p n cap i c x W0 Q hQ h4 hag hx hi HK hl hfr hend
theorem infoInt9:∃ i,Try.prog.info? 3=some i∧i.zero=some (.int .i64 0)∧i.size=1∧i.bytes=8:=by
 have:(Try.prog.info? 3).map (fun i=>(i.zero,i.size,i.bytes))=some (some (.int .i64 0),1,8):=by kernel_rfl
 cases h:Try.prog.info? 3 with
 | none=>rw [h] at this;simp at this
 | some i=>rw [h] at this;exact ⟨i,rfl,by simpa using this⟩
def LpEnd (w w':World) (e:Ending):Prop:=∃ (d:Dk) (c':C3) (v:Value),e=.returned (.tuple #[.agg #[c'.c0,c'.c1,c'.c2],v])∧DkAt (New w w') w' d c'∧GoodD d∧Below w.heap.size w w'
structure LpS (w W:World) (d:Dk) (c:C3) (cv:Value) (k:Nat) (zs:List Value):Prop where
 below:Below w.heap.size w W
 b2:W.rowIs w.heap.size 27 3 (row3 (.slice none 0 0) (.slice none 0 0) (.slice none 0 0))
 b4:W.rowIs (w.heap.size+1) 27 3 (row3 c.c0 c.c1 c.c2)
 dk:DkAt (fun b=>w.heap.size≤b∧b < W.heap.size∧b≠w.heap.size∧b≠w.heap.size+1∧cv.ownBlock≠some b) W d c
 good:GoodD d
 own:W.ownsRow (w.heap.size+1+1) 3 1 cv k zs
theorem LpS.on {w W W':World} {d:Dk} {c:C3} {cv:Value} {k:Nat} {zs:List Value} (h:LpS w W d c cv k zs) (hb:Below W.heap.size W W'):LpS w W' d c cv k zs :=
 ⟨h.below.trans (hb.mono h.below.size),h.b2.of_block (hb.block _ h.b2.lt),h.b4.of_block (hb.block _ h.b4.lt),h.dk.carry (fun b hb'=>hb.block b hb'.2.1) (fun _ hb'=>⟨hb'.1,Nat.lt_of_lt_of_le hb'.2.1 hb.size,hb'.2.2⟩),h.good,own_on h.own hb⟩
theorem LpS.put {w V W:World} {d d':Dk} {c c':C3} {cv:Value} {k:Nat} {zs:List Value} (h:LpS w V d c cv k zs) (hV:Below V.heap.size V W) (hd:DkAt (fun b=>V.heap.size≤b∧b < W.heap.size) W d' c') (hg:GoodD d'):LpS w (((W.setCell ⟨w.heap.size+1,0,none⟩ c'.c0).setCell ⟨w.heap.size+1,1,none⟩ c'.c1).setCell ⟨w.heap.size+1,2,none⟩ c'.c2) d' c' cv k zs:=by
 obtain ⟨s1,s2,s3,s4⟩:=set3 W (w.heap.size+1) c'.c0 c'.c1 c'.c2
 have hs:∀ a,a≠w.heap.size+1→(((W.setCell ⟨w.heap.size+1,0,none⟩ c'.c0).setCell ⟨w.heap.size+1,1,none⟩ c'.c1).setCell ⟨w.heap.size+1,2,none⟩ c'.c2).heap[a]? = W.heap[a]? := s1
 have hz:(((W.setCell ⟨w.heap.size+1,0,none⟩ c'.c0).setCell ⟨w.heap.size+1,1,none⟩ c'.c1).setCell ⟨w.heap.size+1,2,none⟩ c'.c2).heap.size=W.heap.size:=s2
 have h1:=h.on hV
 have hlt:=h.b4.lt
 exact ⟨s4 _ _ (by omega) h1.below,h1.b2.of_block (hs _ (by omega)),s3 _ _ h1.b4,hd.carry (fun b hb=>hs b (by omega)) (fun b hb=>⟨by omega,by rw [hz];exact hb.2,by omega,by omega,fun e=>by have:=(own_ge h.own e).2;omega⟩),hg,ownsRow_keepR h1.own (fun g e=>hs g (by have:=(own_ge h.own e).1;omega))⟩
theorem LpS.app {w W W':World} {d:Dk} {c:C3} {cv cv':Value} {k k':Nat} {zs zs':List Value} (h:LpS w W d c cv k zs) (ho:W'.ownsRow (w.heap.size+1+1) 3 1 cv' k' zs') (hg:W.grownBy W' cv.ownBlock) (hn:cv'.ownBlock=cv.ownBlock∨∃ g,cv'.ownBlock=some g∧W.heap.size≤g):LpS w W' d c cv' k' zs':=by
 have hge:∀ b,cv.ownBlock=some b→w.heap.size+1+1≤b:=fun b e=>(own_ge h.own e).1
 have hlt:=h.b4.lt
 have hlow:∀ b,b < w.heap.size+1+1→W'.heap[b]? = W.heap[b]? := fun b hb=>hg.block b (by omega) (fun e=>by have:=hge b e.symm;omega)
 refine ⟨h.below.grown hg h.below.size (fun b e=>by have:=hge b e;omega),h.b2.of_block (hlow _ (by omega)),h.b4.of_block (hlow _ (by omega)),h.dk.carry (fun b hb=>hg.block b hb.2.1 (fun e=>hb.2.2.2.2 e.symm)) (fun b hb=>⟨hb.1,Nat.lt_of_lt_of_le hb.2.1 hg.size,hb.2.2.1,hb.2.2.2.1,?_⟩),h.good,ho⟩
 rcases hn with e | ⟨g,e,hgl⟩
 · rw [e];exact hb.2.2.2.2
 · rw [e];intro e2;have:=Option.some.inj e2;have:=hb.2.1;omega
theorem LpS.done {w W:World} {d:Dk} {c:C3} {cv:Value} {k:Nat} {zs:List Value} (h:LpS w W d c cv k zs):LpEnd w (((W.setCell ⟨w.heap.size,0,none⟩ c.c0).setCell ⟨w.heap.size,1,none⟩ c.c1).setCell ⟨w.heap.size,2,none⟩ c.c2) (.returned (.tuple #[.agg #[c.c0,c.c1,c.c2],cv])):=by
 obtain ⟨s1,s2,-,s4⟩:=set3 W w.heap.size c.c0 c.c1 c.c2
 have hs:∀ a,a≠w.heap.size→(((W.setCell ⟨w.heap.size,0,none⟩ c.c0).setCell ⟨w.heap.size,1,none⟩ c.c1).setCell ⟨w.heap.size,2,none⟩ c.c2).heap[a]? = W.heap[a]? := s1
 have hz:(((W.setCell ⟨w.heap.size,0,none⟩ c.c0).setCell ⟨w.heap.size,1,none⟩ c.c1).setCell ⟨w.heap.size,2,none⟩ c.c2).heap.size=W.heap.size:=s2
 exact ⟨d,c,cv,rfl,h.dk.carry (fun b hb'=>hs b hb'.2.2.1) (fun b hb'=>⟨hb'.1,by rw [hz];exact hb'.2.1⟩),h.good,s4 _ _ (Nat.le_refl _) h.below⟩
theorem specLogPlay_any (xs:List Ar) (v:Value) (P:Nat→Prop) (w:World) (hP:∀ b,P b→b < w.heap.size) (ha:AcsAt P w v xs) :
 Calls Try.prog 66 #[v] w fun e w'=>LpEnd w w' e:=by
 have HAC:=xH (fun W (hW:Below w.heap.size w W)=>(ha.carry (Q:=fun b=>b < W.heap.size) (fun b hb=>hW.block b (hP b hb)) (fun b hb=>Nat.lt_of_lt_of_le (hP b hb) hW.size)))
 obtain ⟨av,ac,rfl,-,-⟩:=ha.1
 rw [List.length_map] at HAC ⊢
 have hb0:Below w.heap.size w (((w.alloc (.cells #[.slice none 0 0,.slice none 0 0,.slice none 0 0] 27)).alloc (.cells #[.slice none 0 0,.slice none 0 0,.slice none 0 0] 27)).alloc (.cells #[] 3)):=(((Below.refl _ _).alloc (Nat.le_refl _) _).alloc (by simp) _).alloc (by simp;omega) _
 have HS:=xH (show LpS w (((w.alloc (.cells #[.slice none 0 0,.slice none 0 0,.slice none 0 0] 27)).alloc (.cells #[.slice none 0 0,.slice none 0 0,.slice none 0 0] 27)).alloc (.cells #[] 3)) ⟨[],[],[]⟩ ⟨.slice none 0 0,.slice none 0 0,.slice none 0 0⟩ (.slice (some ⟨w.heap.size+1+1,0,none⟩) 0 0) 0 [] from by
  refine ⟨hb0,?_,?_,dk_nil8 _ _,Or.inr (Or.inl rfl),?_⟩
  · exact ((row3_alloc w (.slice none 0 0) (.slice none 0 0) (.slice none 0 0) 27).alloc _).alloc _
  · have:=(row3_alloc (w.alloc (.cells #[.slice none 0 0,.slice none 0 0,.slice none 0 0] 27)) (.slice none 0 0) (.slice none 0 0) (.slice none 0 0) 27).alloc (.cells #[] 3)
    rw [World.size_alloc] at this
    exact this
  · have:=own_lit ((w.alloc (.cells #[.slice none 0 0,.slice none 0 0,.slice none 0 0] 27)).alloc (.cells #[.slice none 0 0,.slice none 0 0,.slice none 0 0] 27)) (w.heap.size+1+1) 3 1 0 [] (by simp) rfl (by decide)
    rw [World.size_alloc,World.size_alloc] at this
    exact this)
 clear hP ha hb0
 go_enter Try.func66,Try.ntmps66
 by_cases hlg:200 < xs.length
 · go_upto_region 3 with fail
   generalize (((w.alloc (.cells #[.slice none 0 0,.slice none 0 0,.slice none 0 0] 27)).alloc (.cells #[.slice none 0 0,.slice none 0 0,.slice none 0 0] 27)).alloc (.cells #[] 3))=W0 at HS ⊢
   obtain ⟨l0,l1,l2⟩:=cs3 HS.out.b4 (by omega)
   have y0:=HS.out.b2.cell (i:=0) (by omega);have y1:=HS.out.b2.cell (i:=1) (by omega);have y2:=HS.out.b2.cell (i:=2) (by omega)
   have z:=HS.out.b2.frozen
   simp only [row3] at l0 l1 l2 y0 y1 y2
   have HF:=xH HS.out.done
   go_wp2_with fail
   try simp only [Exit.inBlock,Exit.then]
   refine bodyPost_ret (v:=.tuple #[.agg #[.slice none 0 0,.slice none 0 0,.slice none 0 0],.slice (some ⟨w.heap.size+1+1,0,none⟩) 0 0]) (by simp [results,Try.results66,go_sem,y0,y1,y2]) rfl ?_
   exact xU HF
 · go_upto_region 3 with fail
   generalize (((w.alloc (.cells #[.slice none 0 0,.slice none 0 0,.slice none 0 0] 27)).alloc (.cells #[.slice none 0 0,.slice none 0 0,.slice none 0 0] 27)).alloc (.cells #[] 3))=W0 at HS ⊢
   go_wp2_with fail
   go_loopw [5,6] (fun cs i wr=>∃ (k:Nat) (d:Dk) (c:C3) (ca:Option Addr) (cc:Nat) (zs:List Value),k≤xs.length∧cs=.slice ca k cc∧i=.int .i64 k∧Hid (LpS w wr d c (.slice ca k cc) k zs)) (fun _ i _=>xs.length - (intOf i).toNat)
   case atStart=>exact ⟨0,_,_,_,_,_,Nat.zero_le _,rfl,rfl,HS⟩
   case round =>
    clear HS
    obtain ⟨k,d,⟨u0,u1,u2⟩,ca,cc,zs,hk,rfl,rfl,HS⟩:=hrel
    obtain ⟨q0,r0,e0,-,-⟩:=HS.out.dk.fs.open
    obtain ⟨q1,r1,e1,-,-⟩:=id HS.out.dk.ns
    obtain ⟨q2,r2,e2,-,-⟩:=HS.out.dk.ms.open
    simp only at e0 e1 e2
    subst e0 e1 e2
    obtain ⟨l0,l1,l2⟩:=cs3 HS.out.b4 (by omega)
    have y0:=HS.out.b2.cell (i:=0) (by omega);have y1:=HS.out.b2.cell (i:=1) (by omega);have y2:=HS.out.b2.cell (i:=2) (by omega)
    have z:=HS.out.b2.frozen
    simp only [row3] at l0 l1 l2 y0 y1 y2
    by_cases hlt:k < xs.length
    rotate_left
    · obtain rfl:k=xs.length:=by omega
      have HF:=xH HS.out.done
      clear HAC
      generalize d.files.length=M0 at *
      generalize d.names.length=M1 at *
      generalize d.moves.length=M2 at *
      go_wp2_with fail
      try simp only [Exit.inBlock,Exit.then]
      refine bodyPost_ret (v:=.tuple #[.agg #[.slice q0 M0 r0,.slice q1 M1 r1,.slice q2 M2 r2],.slice ca xs.length cc]) (by simp [results,Try.results66,go_sem,y0,y1,y2]) rfl ?_
      exact xU HF
    · obtain ⟨_,_,ev,-,hfc⟩:=(HAC.out wr HS.out.below).1
      rw [List.length_map] at ev
      cases ev
      obtain ⟨b,q,rfl,hpb,hcell⟩:=hfc k (by rw [List.length_map];exact hlt)
      have HPB:=xH hpb
      have HXC:=xH (fun (j:Nat) (u:Value) (hu:(xs[k]).cs[j]? = some u)=>show wr.cell? ⟨b,q+k * 6+j,none⟩=some u from by
       have hj:j < 6:=(List.getElem?_eq_some_iff.1 hu).1
       have:=hcell j hj
       rw [List.getElem_map,List.getD_eq_getElem?_getD,hu] at this
       exact this)
      obtain ⟨hdat,zs0,hz0⟩:=(HAC.out wr HS.out.below).2 xs[k] (List.getElem_mem hlt)
      have HCL:=xH (fun (W:World) (hW:Below wr.drew.heap.size wr.drew W)=>(specLogStep_any d ⟨.slice q0 d.files.length r0,.slice q1 d.names.length r1,.slice q2 d.moves.length r2⟩ xs[k].kind xs[k].after xs[k].moves xs[k].data xs[k].cuts xs[k].vk zs0 (fun b=>b < W.heap.size) W (fun _ h=>h) (HS.out.dk.carry (fun b hb=>hW.block b hb.2.1) (fun b hb=>Nat.lt_of_lt_of_le hb.2.1 hW.size)) (hz0.carry (fun b hb=>hW.block b hb) (fun b hb=>Nat.lt_of_lt_of_le hb hW.size)) (Nat.le_trans hdat (by decide))).mono (R':=fun e w'=>∃ (c':C3) (dd:Gd) (pos:Int) (code:Int),e=.returned (.tuple #[.agg #[c'.c0,c'.c1,c'.c2],.int .i64 pos,.int .i64 code])∧DkAt (New W w') w' dd.1 c'∧Below W.heap.size W w') (by
       rintro e w' ⟨dd,c',pos,code,h1,h2,h3,h4⟩
       exact ⟨c',⟨dd,h3⟩,pos,code,h1,h2,h4⟩))
      clear hfc hpb hcell hdat hz0
      generalize xs[k]=x at *
      go_upto_region 8 with fail
      refine wp_swap (c':=Code.region 8 lp8Ops true) (by kernel_rfl) ?_
      refine wp_region_noPanic ?_
      refine lp8 (w.heap.size+1) b q xs.length ac k ⟨.slice q0 d.files.length r0,.slice q1 d.names.length r1,.slice q2 d.moves.length r2⟩ x wr _ (fun _ _ _ _ _ h=>h) (HS.out.b4.of_block rfl) HPB.out HXC.out hlt HCL.out (by kernel_rfl) (fun u c' dd pos code g=>by kernel_rfl) ?_
      intro u c' dd pos code g W hb hg hgb hdk
      refine NoPanic.normal ?_
      simp only [List.take_succ_cons,List.take_zero,List.drop_succ_cons,List.drop_zero,List.cons_append,List.nil_append]
      have hbw:Below wr.heap.size wr W:=((Below.refl _ wr).drew).trans hb
      have hdr:wr.drew.heap.size=wr.heap.size:=rfl
      rw [hdr] at hgb hdk
      have hsd:=HS.out.on hbw
      obtain ⟨u0,u1,u2⟩:=c'
      obtain ⟨t0,s0,e0,-,-⟩:=hdk.fs.open
      obtain ⟨t1,s1,e1,-,-⟩:=id hdk.ns
      obtain ⟨t2,s2,e2,-,-⟩:=hdk.ms.open
      simp only at e0 e1 e2
      subst e0 e1 e2
      clear l0 l1 l2 y0 y1 y2 z
      obtain ⟨m0,m1,m2⟩:=cs3 hg (by omega)
      have l0:=hsd.b4.cell (i:=0) (by omega);have l1:=hsd.b4.cell (i:=1) (by omega);have l2:=hsd.b4.cell (i:=2) (by omega)
      have z3:=hsd.b4.frozen
      simp only [row3] at m0 m1 m2 l0 l1 l2
      have HNX:=xH (HS.out.put hbw hdk dd.2)
      clear hdk hg hbw hb hsd hdr HCL HXC HPB
      obtain ⟨M0,hM0⟩:∃ M,dd.1.files.length=M:=⟨_,rfl⟩
      obtain ⟨M1,hM1⟩:∃ M,dd.1.names.length=M:=⟨_,rfl⟩
      obtain ⟨M2,hM2⟩:∃ M,dd.1.moves.length=M:=⟨_,rfl⟩
      rw [hM0,hM1,hM2] at HNX
      rw [hM0] at m0;rw [hM1] at m1;rw [hM2] at m2
      clear hM0 hM1 hM2
      go_upto_region 10 with fail
      generalize (((W.setCell ⟨w.heap.size+1,0,none⟩ (.slice t0 M0 s0)).setCell ⟨w.heap.size+1,1,none⟩ (.slice t1 M1 s1)).setCell ⟨w.heap.size+1,2,none⟩ (.slice t2 M2 s2))=W2 at HNX ⊢
      have HA:=xH (HNX.out.on ((Below.refl W2.heap.size W2).alloc (Nat.le_refl _) (.cells #[.int .i64 code] 3)))
      have HOW:=xH HA.out.own
      have HLI:=xH (lies_alloc W2 [.int .i64 code] 3)
      have hle:=HNX.out.b4.lt
      have hal:=((Below.refl W2.heap.size W2).alloc (Nat.le_refl _) (.cells #[.int .i64 code] 3)).size
      obtain ⟨ii,f2,f3,f4,f5⟩:=infoInt9
      go_wp2_with (at_builtin;refine append_list9 _ rfl _ _ 39 rfl (w.heap.size+1+1) 3 ii (.int .i64 0) 1 8 Try.underlying39 f2 f3 f4 f5 rfl (by decide) ca k cc zs rfl HOW (some ⟨W2.heap.size,0,none⟩) 1 1 [.int .i64 code] rfl rfl (fun _=>⟨_,rfl,HLI.out.2⟩) (fun u hu=>by rw [List.mem_singleton.1 hu];rfl) (by unfold maxLen;omega) (by omega) (by omega) (k+1) rfl ?_;intro ga gc W7 ho7 hg7 hn7)
      have HNEW:=xH (HA.out.app ho7.out hg7.out (hn7.out.imp_right (fun ⟨g,h1,h2⟩=>⟨g,h1,h2⟩)))
      clear ho7 hg7 hn7 HA HOW HLI HNX
      go_roundw
      case rel=>exact ⟨k+1,dd.1,_,ga,gc,_,by omega,rfl,by go_num,HNEW⟩
      case measure=>simp [intOf];omega

theorem own_but {R:Nat} {w w':World} {base:Nat} {e:TypeId} {size:Nat} {v:Value} {n:Nat} {xs:List Value} (h:w.ownsRow base e size v n xs) (hb:But R w w') (hR:R < base):w'.ownsRow base e size v n xs :=
 ownsRow_keepR h (fun g eg=>hb.at (own_ge h eg).2 (by have:=(own_ge h eg).1;omega))
theorem lies_but {R:Nat} {w w':World} {g:Nat} {vs:List Value} (h:Lies w g vs) (hb:But R w w') (hR:g≠R):Lies w' g vs:=h.of_block (hb.at h.1 hR)
theorem zs_own {base:Nat} {w:World} {v:Value} {zs:List Int} (h:w.ownsRow base 3 1 v zs.length (zs.map (Value.int .i64))) (hi:∀ z,z∈zs→I64 z):ZsAt (fun b=>base≤b∧b < w.heap.size) w v zs:=by
 have hz:(zs.map fun z=>[Value.int .i64 z]).flatten=zs.map (Value.int .i64):=by
  clear h hi
  induction zs with
  | nil=>rfl
  | cons z zs ih=>simp only [List.map_cons,List.flatten_cons,ih];rfl
 obtain ⟨F,h1,-,h3,-⟩:=FlatOwn.of_row (rs:=zs.map fun z=>[Value.int .i64 z]) (n:=1) (by rw [List.length_map,hz];exact h) (fun r hr=>by obtain ⟨x,-,rfl⟩:=List.mem_map.1 hr;rfl)
 obtain ⟨a,cap,e,hl,hc⟩:=h1.at
 rw [List.length_map] at e hl
 refine ⟨a,cap,e,hl,fun i hi'=>?_⟩
 obtain ⟨b,o,ea,hb,hcell⟩:=hc i (by rw [List.length_map];exact hi')
 have:=hcell 0 (by decide)
 rw [List.getElem_map,Nat.mul_one,Nat.add_zero] at this
 exact ⟨b,o,ea,h3 b hb,this,hi _ (List.getElem_mem hi')⟩
theorem append_z (W:World) {ops:Array Oper} {rest:List Oper} {o:Oper} {a:Act} {Q:Exit→Act→World→Prop} (hg:o.guard=none) (s x:Operand) (hop:o.op=Op.call { callee:=Callee.builtin Builtin.append,args:=#[s,x],argTypes:=#[39,39] })
 (base:Nat) (a0:Option Addr) (c0 n:Nat) (zs:List Int) (hs:a.eval s=.slice a0 n c0) (hown:Hid (W.ownsRow base 3 1 (.slice a0 n c0) n (zs.map (Value.int .i64)))) (g:Nat) (z:Int) (hx:a.eval x=.slice (some ⟨g,0,none⟩) 1 1) (hc:Hid (Lies W g [.int .i64 z])) (hl:n≤2000) (hN:base≤W.heap.size)
 (hK:∀ a' c' W',Hid (W'.ownsRow base 3 1 (.slice a' (n+1) c') (n+1) ((zs++[z]).map (Value.int .i64)))→Hid (W.grownBy W' (Value.slice a0 n c0).ownBlock)→Hid ((Value.slice a' (n+1) c').ownBlock=(Value.slice a0 n c0).ownBlock∨∃ g,(Value.slice a' (n+1) c').ownBlock=some g∧W.heap.size≤g)→wpList Try.prog ops Q rest (a.put o.dst (.slice a' (n+1) c')) W') :
 wpList Try.prog ops Q (o::rest) a W:=by
 obtain ⟨i,h2,h3,h4,h5⟩:=infoInt9
 refine append_list9 W hg s x 39 hop base 3 i (.int .i64 0) 1 8 Try.underlying39 h2 h3 h4 h5 rfl (by decide) a0 n c0 (zs.map (Value.int .i64)) hs hown (some ⟨g,0,none⟩) 1 1 [.int .i64 z] hx rfl (fun _=>⟨_,rfl,hc.out.2⟩) (fun u hu=>by rw [List.mem_singleton.1 hu];rfl) (by unfold maxLen;omega) (by omega) hN (n+1) rfl ?_
 intro a' c' W' h6 h7 h9
 exact hK a' c' W' (by rw [List.map_append];exact h6) h7 h9
theorem six_cell {w:World} {g r:Nat} {z0 z1 z2 z3 z4 z5:Int} (h:Lies w g [.int .i64 z0,.int .i64 z1,.int .i64 z2,.int .i64 z3,.int .i64 z4,.int .i64 z5]) (hz:I64 z0∧I64 z1∧I64 z2∧I64 z3∧I64 z4∧I64 z5) (hr:r < 6):∃ z,w.cell? ⟨g,r,none⟩=some (.int .i64 z)∧I64 z:=by
 obtain ⟨k0,k1,k2,k3,k4,k5⟩:=hz
 rcases (show r=0∨r=1∨r=2∨r=3∨r=4∨r=5 by omega) with rfl | rfl | rfl | rfl | rfl | rfl
 · exact ⟨z0,lies_cell (j:=0) h rfl,k0⟩
 · exact ⟨z1,lies_cell (j:=1) h rfl,k1⟩
 · exact ⟨z2,lies_cell (j:=2) h rfl,k2⟩
 · exact ⟨z3,lies_cell (j:=3) h rfl,k3⟩
 · exact ⟨z4,lies_cell (j:=4) h rfl,k4⟩
 · exact ⟨z5,lies_cell (j:=5) h rfl,k5⟩
theorem But.grown8 {R:Nat} {w W W':World} {row:Option Nat} (h:But R w W) (hg:W.grownBy W' row) (hr:∀ b,row=some b→w.heap.size≤b):But R w W' :=
 ⟨hg.os.trans h.os,hg.tape.trans h.tape,hg.output.trans h.output,Nat.le_trans h.size hg.size,fun b hb hne=>(hg.block b (Nat.lt_of_lt_of_le hb h.size) (fun e=>by have:=hr b e.symm;omega)).trans (h.block b hb hne)⟩
def KeEnd (R:Nat) (w w':World) (v:Value) (b:List UInt8) (p:Nat) (e:Ending):Prop :=
 ∃ (zs:List Int) (kv:Value) (p':Nat),e=.returned kv∧ZsAt (New w w') w' kv zs∧p'≤p+9∧Hid (DR R w' v b p')∧Hid (But R w w')
theorem l45Keep_any (R:Nat) (w:World) (v:Value) (b:List UInt8) (p:Nat) (h:DR R w v b p) (hp:p≤10000000) :
 Calls Try.prog 42 #[.pointer (some ⟨R,0,none⟩)] w fun e w'=>KeEnd R w w' v b p e:=by
 have HPK:=xH (fun (W:World) (q n:Nat) (hD:DR R W v b q) (hn:1≤n∧n≤1000000) (hq:q≤100000000)=>pick_any R W v b q n hD hn (by omega))
 have hR:=h.cells.lt
 have HP1:=xH (HPK.out (w.alloc (.cells #[] 3)) p 8 (h.on ((Below.refl _ _).alloc (Nat.le_refl _) _)) (by omega) (by omega))
 have HOW:=xH (own_lit w w.heap.size 3 1 0 [] (Nat.le_refl _) rfl (by decide))
 have HB0:=xH (But.alloc R w (.cells #[] 3))
 clear h
 go_enter Try.func42,Try.ntmps42
 go_wp2_with fail
 refine HP1.out.mono ?_
 rintro e w1 ⟨r1,rfl,hr1,HD1,HB1⟩
 have HO1:Hid (w1.ownsRow w.heap.size 3 1 (.slice (some ⟨w.heap.size,0,none⟩) 0 0) 0 (([]:List Int).map (Value.int .i64))):=xH (own_but HOW.out HB1.out hR)
 have HB2:=xH (HB0.out.trans HB1.out)
 clear HP1 HOW HB0 HB1
 go_wp2_with fail
 go_loopw [3,4] (fun vo nn wr=>∃ (zs:List Int) (k m q:Nat) (ca:Option Addr) (cc:Nat),k+m≤8∧vo=.slice ca k cc∧nn=.int .i64 m∧q≤p+1+k∧Hid (k=zs.length)∧Hid (∀ z,z∈zs→I64 z)∧Hid (wr.ownsRow w.heap.size 3 1 (.slice ca k cc) k (zs.map (Value.int .i64)))∧Hid (DR R wr v b q)∧Hid (But R w wr)) (fun _ nn _=>(intOf nn).toNat)
 case atStart=>exact ⟨[],0,r1,p+1,_,_,by omega,rfl,rfl,by omega,rfl,fun z hz=>(by cases hz),HO1,HD1,HB2⟩
 case round =>
  clear HO1 HD1 HB2
  obtain ⟨zs,k,m,q,ca,cc,hkm,rfl,rfl,hq,HL,HI,HO,HD,HB⟩:=hrel
  by_cases hm0:m=0
  · subst hm0
    go_wp2_with fail
    go_returns
    exact ⟨zs,_,q,rfl,by have:=HL.out;subst this;exact (zs_own HO.out HI.out).carry (fun _ _=>rfl) (fun b hb=>hb),by omega,HD,HB⟩
  · have hdm:decide ((0:Int) < (m:Int))=true:=decide_eq_true (by omega)
    have hs:=HB.out.size
    have HPA:=xH (HPK.out (wr.alloc (.cells #[.int .i64 0,.int .i64 1,.int .i64 5,.int .i64 (-3),.int .i64 9999,.int .i64 40] 3)) q 6 (HD.out.on ((Below.refl _ _).alloc (Nat.le_refl _) _)) (by omega) (by omega))
    have HLI:=xH (lies_alloc wr [.int .i64 0,.int .i64 1,.int .i64 5,.int .i64 (-3),.int .i64 9999,.int .i64 40] 3)
    have HBA:=xH (But.alloc R wr (.cells #[.int .i64 0,.int .i64 1,.int .i64 5,.int .i64 (-3),.int .i64 9999,.int .i64 40] 3))
    have HOA:=xH (own_but HO.out HBA.out hR)
    clear HO HD
    go_wp2_with fail
    refine HPA.out.mono ?_
    rintro e w3 ⟨r,rfl,hr,HD3,HB3⟩
    obtain ⟨z,hz,hzi⟩:=six_cell (lies_but HLI.out HB3.out (by omega)) (by simp only [I64];omega) hr
    have HO3:=xH (own_but HOA.out HB3.out hR)
    have HB4:=xH ((HB.out.trans HBA.out).trans HB3.out)
    have hs3:wr.heap.size≤w3.heap.size:=Nat.le_trans HBA.out.size HB3.out.size
    have HZI:=xH hzi
    clear HPA HLI HBA HOA HB HB3 hzi
    have HO5:=xH (HO3.out.alloc (.cells #[.int .i64 z] 3))
    have HL5:=xH (lies_alloc w3 [.int .i64 z] 3)
    have hs5:w3.heap.size≤(w3.alloc (.cells #[.int .i64 z] 3)).heap.size:=by simp
    have HD5:=xH (HD3.out.on ((Below.refl _ _).alloc (Nat.le_refl _) (.cells #[.int .i64 z] 3)))
    have HB5:=xH (HB4.out.trans (But.alloc R w3 (.cells #[.int .i64 z] 3)))
    clear HO3 HD3 HB4
    go_wp2_with (at_builtin;refine append_z _ rfl _ _ rfl w.heap.size ca cc k zs rfl HO5 w3.heap.size z rfl HL5 (by omega) (by omega) ?_;intro ga gc W7 ho7 hg7 hn7)
    have HOK:=xH (fun y (hy:y∈zs++[z])=>show I64 y from by
     rcases List.mem_append.1 hy with h | h
     · exact HI.out y h
     · rw [List.mem_singleton.1 h];exact HZI.out)
    have HB7:=xH (But.grown8 HB5.out hg7.out (fun b e=>(own_ge HO5.out e).1))
    have HD7:=xH (HD5.out.grown hg7.out (fun b e=>Nat.lt_of_lt_of_le hR (own_ge HO5.out e).1))
    clear HB5 HD5 HO5 HL5 HI HZI hg7 hn7
    go_wp2_with fail
    go_roundw
    case rel=>exact ⟨zs++[z],k+1,m - 1,q+1,ga,gc,by omega,rfl,by go_num,by omega,xH (by rw [List.length_append,← HL.out];rfl),HOK,ho7,HD7,HB7⟩
    case measure=>simp [intOf];omega
end Go.Proofs.Yteikmbkljkkjiaa
