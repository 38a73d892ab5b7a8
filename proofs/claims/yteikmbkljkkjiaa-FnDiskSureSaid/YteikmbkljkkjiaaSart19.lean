/- A part. -/
import Derived.Test.YteikmbkljkkjiaaSart18
namespace Go.Proofs.Yteikmbkljkkjiaa
open Go Go.RowKit
set_option maxRecDepth 100000
set_option maxHeartbeats 12800000
theorem ixRunW8 {o:Oper} {a:Act} {X I:Operand} {g p n cap i:Nat} (ho:o.op=.indexAddr 120 X I) (hx:a.eval X=.slice (some ⟨g,p,none⟩) n cap) (hi:a.eval I=.int .i64 (i:Nat)) (h:i < n) (w:World):(execOp a.eval o).run Try.prog w=.ok (.value (.pointer (some ⟨g,p+i * 3,none⟩))) w:=by
 have h1:(0:Int)≤(i:Int)∧(i:Int) < (n:Int):=⟨by omega,by omega⟩
 have h2:(Instr.indexAt 120 (.slice (some ⟨g,p,none⟩) n cap) (.int .i64 (i:Nat))).run Try.prog w=.ok (.pointer (some ⟨g,p+i * 3,none⟩)) w:=by
  have e:(⟨g,p+i * 3,none⟩:Addr)=(⟨g,p,none⟩:Addr).add (i * 3):=by simp [Addr.add]
  rw [e]
  simp [go_sem,h1]
 unfold execOp
 simp only [ho,hx,hi,Sem.run_bind,Sem.run_pure,Result.andThen_ok,h2]
theorem info3W:(Try.prog.info? 29).map (·.size)=some 3:=by kernel_rfl
theorem rowWrO:∃ d,Try.prog.underlying 29=some d∧d.isRow=true:=⟨_,Try.underlying29,by rfl⟩
theorem ldWr8 {w:World} {b o:Nat} {c:C3} (h:C3.at w b o c):(Instr.loadAt 29 (.pointer (some ⟨b,o,none⟩))).run Try.prog w=.ok (.agg #[c.c0,c.c1,c.c2]) w:=by
 have hr:w.rangeAt b o [c.c0,c.c1,c.c2]:=fun j v hv=>by
  match j,hv with
  | 0,hv=>simp only [List.getElem?_cons_zero,Option.some.injEq] at hv;subst hv;exact h.1
  | 1,hv=>simp only [List.getElem?_cons_succ,List.getElem?_cons_zero,Option.some.injEq] at hv;subst hv;exact h.2.1
  | 2,hv=>simp only [List.getElem?_cons_succ,List.getElem?_cons_zero,Option.some.injEq] at hv;subst hv;exact h.2.2
  | j+3,hv=>simp at hv
 obtain ⟨dd,hdu,hdr⟩:=rowWrO
 unfold Instr.loadAt
 simp only [Instr.sureAddr,Sem.run_bind,Sem.run_pure,Result.andThen_ok,run_loadVar_mid w b o 29 _ dd hr hdu hdr info3W]
theorem dk_one8 {P:Nat→Prop} {w:World} {d:Dk} {c:C3} (h:DkAt P w d c):(#[c.c0,c.c1,c.c2]:Array Value).all (·.oneCell')=true:=by
 obtain ⟨c0,c1,c2⟩:=c
 obtain ⟨a0,p0,g0,-,-⟩:=h.fs.open
 obtain ⟨a1,p1,g1,-,-⟩:=id h.ns
 obtain ⟨a2,p2,g2,-,-⟩:=h.ms.open
 simp only at g0 g1 g2
 subst g0 g1 g2
 rw [← Array.all_toList];rfl
noncomputable def ls11Ops:Array Oper:=fops Try.f82 11
theorem ls11_neat:Region.noSelect ls11Ops=true∧neat ls11Ops=true:=⟨by kernel_rfl,by kernel_rfl⟩
def kp_ls11 (z:Nat→Value):List (Nat × Value):=[(0,z 0),(1,z 1),(3,z 3),(4,z 4),(5,z 5),(6,z 6),(8,z 8),(9,z 9),(13,z 13),(14,z 14),(15,z 15),(16,z 16),(17,z 17),(18,z 18),(19,z 19),(20,z 20),(21,z 21),(22,z 22),(23,z 23),(24,z 24),(25,z 25),(26,z 26),(27,z 27),(28,z 28),(29,z 29),(30,z 30),(31,z 31),(32,z 32),(33,z 33),(34,z 34),(35,z 35),(36,z 36),(37,z 37),(38,z 38),(39,z 39),(40,z 40),(41,z 41),(42,z 42),(43,z 43),(44,z 44),(45,z 45),(46,z 46),(47,z 47),(48,z 48),(58,z 58),(59,z 59),(60,z 60),(61,z 61),(62,z 62),(63,z 63),(64,z 64),(65,z 65),(66,z 66),(67,z 67),(68,z 68),(69,z 69),(70,z 70),(71,z 71),(72,z 72)]
theorem ls11z (z:Nat→Value) (LL:(Nat→Value)→C3→Nat→List Value) (B2 wg p n cap i:Nat) (c:C3) (q:Wr) (dd:Dk) (nn:Int) (W0:World) {l:List Value} (Q:Exit→Act→World→Prop) (hQ:∀ c a d v w,Q (.panic c) (Act.put a d v) w→Q (.panic c) a w) (h2:W0.drew.rowIs B2 27 3 (row3 c.c0 c.c1 c.c2)) (hwg:wg < W0.drew.heap.size) (hq3:C3.at W0.drew wg (p+i * 3) ⟨.int .i64 q.k,.string q.x,.string q.y⟩) (hi:i < n) (HK:∀ W,Below W0.drew.heap.size W0.drew W→Calls Try.prog 7 #[.agg #[c.c0,c.c1,c.c2],.agg #[.int .i64 q.k,.string q.x,.string q.y]] W fun e w'=>DoEnd W w' e dd nn)
 (hl:lookL (kp_ls11 z++[(2,.pointer (some ⟨B2,0,none⟩)),(7,.slice (some ⟨wg,p,none⟩) n cap),(10,.int .i64 (i:Nat))]) l=(73,((kp_ls11 z++[(2,.pointer (some ⟨B2,0,none⟩)),(7,.slice (some ⟨wg,p,none⟩) n cap),(10,.int .i64 (i:Nat))]):List (Nat × Value)).map (·.2)))
 (hfr:∀ (u:Nat→Value) (c':C3)  (g:Nat),frL u 73 (kp_ls11 z++[(2,.pointer (some ⟨B2,0,none⟩)),(7,.slice (some ⟨wg,p,none⟩) n cap),(10,.int .i64 (i:Nat)),(11,.pointer (some ⟨g,0,none⟩)),(12,.int .i64 nn)])=LL u c'  g)
 (hend:∀ (u:Nat→Value) (c':C3)  (g:Nat) (W:World),Below W0.drew.heap.size W0.drew W→W.rowIs g 27 3 (row3 c'.c0 c'.c1 c'.c2)→W0.drew.heap.size≤g→DkAt (fun b=>W0.drew.heap.size≤b∧b < W.heap.size) W dd c'→Q .normal ⟨(LL u c'  g).toArray,[]⟩ W):(Code.region 11 ls11Ops true).wp Try.prog Q ⟨l.toArray,[]⟩ W0:=by
 obtain ⟨v0,rfl⟩:=look_fr hl
 have hq:NtQ ls11Ops Q:=⟨ls11_neat,hQ⟩
 refine T_start (S:=fun W=>Below W0.drew.heap.size W0.drew W) (by kernel_rfl) (Below.refl _ _) ?_
 clear hl hQ
 generalize W0.drew=V at h2 hwg hq3 HK hend ⊢
 have N2:∀ (u:Nat→Value) (W:World) (hb:Below V.heap.size V W) (c':C3) (g:Nat) (hg:W.rowIs g 27 3 (row3 (.slice none 0 0) (.slice none 0 0) (.slice none 0 0))) (hgb:V.heap.size≤g) (hd:DkAt (fun b=>V.heap.size≤b∧b < W.heap.size∧b≠g) W dd c'),wpS Try.prog ls11Ops Q (fun W=>Below V.heap.size V W) (unl 12 [10,11],frL u 73 (kp_ls11 z++[(2,.pointer (some ⟨B2,0,none⟩)),(7,.slice (some ⟨wg,p,none⟩) n cap),(10,.int .i64 (i:Nat)),(11,.pointer (some ⟨g,0,none⟩)),(56,.agg #[c'.c0,c'.c1,c'.c2]),(57,.int .i64 nn)])) [] W:=by
  intro u W hb c' g hg hgb hd
  obtain ⟨s1,s2,s3,s4⟩:=set3 W g c'.c0 c'.c1 c'.c2
  have hb2:=s4 _ _ hgb hb
  refine T_one 10 (by kernel_rfl) fun _=>O_store_mid none 27 (.tmp 11) (.tmp 56) g 0 #[c'.c0,c'.c1,c'.c2] (by kernel_rfl) (by kernel_rfl) (by kernel_rfl) (there3 hg) info3D (dk_one8 hd) hb2 ?_
  refine T_z hq [11] (by kernel_rfl) ?_
  exact T_end 73 (kp_ls11 z++[(2,.pointer (some ⟨B2,0,none⟩)),(7,.slice (some ⟨wg,p,none⟩) n cap),(10,.int .i64 (i:Nat)),(11,.pointer (some ⟨g,0,none⟩)),(12,.int .i64 nn)]) (by kernel_rfl) (by kernel_rfl) fun _ u=>by rw [hfr];exact hend u c' g _ hb2 (s3 _ _ hg) hgb (hd.carry (fun b hb'=>s1 b hb'.2.2) (fun b hb'=>⟨hb'.1,by rw [s2];exact hb'.2.1⟩))
 have N1:∀ (u:Nat→Value) (W:World) (hb:Below V.heap.size V W) (c':C3) (hd:DkAt (fun b=>V.heap.size≤b∧b < W.heap.size) W dd c'),wpS Try.prog ls11Ops Q (fun W=>Below V.heap.size V W) (unl 12 [9,10,11],frL u 73 (kp_ls11 z++[(2,.pointer (some ⟨B2,0,none⟩)),(7,.slice (some ⟨wg,p,none⟩) n cap),(10,.int .i64 (i:Nat)),(56,.agg #[c'.c0,c'.c1,c'.c2]),(57,.int .i64 nn)])) [] W:=by
  intro u W hb c' hd
  have hal:=(Below.refl W.heap.size W).alloc (Nat.le_refl _) (.cells #[.slice none 0 0,.slice none 0 0,.slice none 0 0] 27)
  refine T_one 9 (by kernel_rfl) fun _=>?_
  exact O_val (w':=W.alloc (.cells #[.slice none 0 0,.slice none 0 0,.slice none 0 0] 27)) (some 11) (.pointer (some ⟨W.heap.size,0,none⟩)) (by kernel_rfl) (by kernel_rfl) (hb.alloc hb.size _) (T_fr 12 73 [10,11] (kp_ls11 z++[(2,.pointer (some ⟨B2,0,none⟩)),(7,.slice (some ⟨wg,p,none⟩) n cap),(10,.int .i64 (i:Nat)),(11,.pointer (some ⟨W.heap.size,0,none⟩)),(56,.agg #[c'.c0,c'.c1,c'.c2]),(57,.int .i64 nn)]) (by kernel_rfl) fun u=>N2 u _ (hb.alloc hb.size _) c' _ (row3_alloc W _ _ _ _) hb.size (hd.carry (fun b hb2=>hal.block b hb2.2) (fun b hb2=>⟨hb2.1,Nat.lt_of_lt_of_le hb2.2 hal.size,Nat.ne_of_lt hb2.2⟩)))
 have NB:∀ (u:Nat→Value) (W:World) (hb:Below V.heap.size V W) (g:Nat) (hg:W.rowIs g 27 3 (row3 (.slice none 0 0) (.slice none 0 0) (.slice none 0 0))) (hgb:V.heap.size≤g),wpS Try.prog ls11Ops Q (fun W=>Below V.heap.size V W) (unl 12 [5,6,7,8,10,11],frL u 73 (kp_ls11 z++[(2,.pointer (some ⟨B2,0,none⟩)),(7,.slice (some ⟨wg,p,none⟩) n cap),(10,.int .i64 (i:Nat)),(11,.pointer (some ⟨g,0,none⟩)),(50,.agg #[c.c0,c.c1,c.c2]),(54,.agg #[.int .i64 q.k,.string q.x,.string q.y])])) [] W:=by
  intro u W hb g hg hgb
  refine T_one 5 (by kernel_rfl) fun _=>O_go (HK W hb) (by kernel_rfl) ?_
  rintro e w1 ⟨c',rfl,hd,hb1⟩
  exact ⟨_,rfl,hb.trans (hb1.mono hb.size),T_z hq [6,7,8] (by kernel_rfl) (T_fr 12 73 [10,11] (kp_ls11 z++[(2,.pointer (some ⟨B2,0,none⟩)),(7,.slice (some ⟨wg,p,none⟩) n cap),(10,.int .i64 (i:Nat)),(11,.pointer (some ⟨g,0,none⟩)),(56,.agg #[c'.c0,c'.c1,c'.c2]),(57,.int .i64 nn)]) (by kernel_rfl) fun u=>N2 u w1 (hb.trans (hb1.mono hb.size)) c' g (hg.of_block (hb1.block _ hg.lt)) hgb (hd.carry (fun _ _=>rfl) (fun b hb2=>⟨Nat.le_trans hb.size hb2.1,hb2.2,fun e=>by have:=hg.lt;have h3:W.heap.size≤b:=hb2.1;omega⟩)))⟩
 have N0:∀ (u:Nat→Value),wpS Try.prog ls11Ops Q (fun W=>Below V.heap.size V W) (unl 12 [5,6,7,8,9,10,11],frL u 73 (kp_ls11 z++[(2,.pointer (some ⟨B2,0,none⟩)),(7,.slice (some ⟨wg,p,none⟩) n cap),(10,.int .i64 (i:Nat)),(50,.agg #[c.c0,c.c1,c.c2]),(54,.agg #[.int .i64 q.k,.string q.x,.string q.y])])) [] V:=by
  intro u
  refine T_two 5 9 (by kernel_rfl) (fun _=>?_) fun _=>?_
  · exact O_go (HK V (Below.refl _ _)) (by kernel_rfl) (by
     rintro e w1 ⟨c',rfl,hd,hb1⟩
     exact ⟨_,rfl,hb1,T_z hq [6,7,8] (by kernel_rfl) (T_fr 12 73 [9,10,11] (kp_ls11 z++[(2,.pointer (some ⟨B2,0,none⟩)),(7,.slice (some ⟨wg,p,none⟩) n cap),(10,.int .i64 (i:Nat)),(56,.agg #[c'.c0,c'.c1,c'.c2]),(57,.int .i64 nn)]) (by kernel_rfl) fun u=>N1 u w1 hb1 c' hd)⟩)
  · exact O_val (w':=V.alloc (.cells #[.slice none 0 0,.slice none 0 0,.slice none 0 0] 27)) (some 11) (.pointer (some ⟨V.heap.size,0,none⟩)) (by kernel_rfl) (by kernel_rfl) ((Below.refl _ _).alloc (Nat.le_refl _) _) (T_fr 12 73 [5,6,7,8,10,11] (kp_ls11 z++[(2,.pointer (some ⟨B2,0,none⟩)),(7,.slice (some ⟨wg,p,none⟩) n cap),(10,.int .i64 (i:Nat)),(11,.pointer (some ⟨V.heap.size,0,none⟩)),(50,.agg #[c.c0,c.c1,c.c2]),(54,.agg #[.int .i64 q.k,.string q.x,.string q.y])]) (by kernel_rfl) fun u=>NB u _ ((Below.refl _ _).alloc (Nat.le_refl _) _) _ (row3_alloc V _ _ _ _) (Nat.le_refl _))
 refine T_a hq [0,1,2] (fun w h=>.cons (ldDk (h2.of_block (h.block _ h2.lt))) (Lds.nil)) (by kernel_rfl) ?_
 refine T_yld hq 3 (some 53) (.pointer (some ⟨wg,p+i * 3,none⟩)) (by kernel_rfl) (by kernel_rfl) (fun w h=>ixRunW8 (X:=.tmp 51) (I:=.tmp 52) (n:=n) (cap:=cap) (i:=i) (by kernel_rfl) (by kernel_rfl) (by kernel_rfl) hi w) ?_
 refine T_a hq [4] (fun w h=>.cons (ldWr8 (hq3.carry (h.block _ hwg))) (Lds.nil)) (by kernel_rfl) ?_
 exact T_fr 12 73 [5,6,7,8,9,10,11] (kp_ls11 z++[(2,.pointer (some ⟨B2,0,none⟩)),(7,.slice (some ⟨wg,p,none⟩) n cap),(10,.int .i64 (i:Nat)),(50,.agg #[c.c0,c.c1,c.c2]),(54,.agg #[.int .i64 q.k,.string q.x,.string q.y])]) (by kernel_rfl) fun u=>N0 u
theorem ls11 (B2 wg p n cap i:Nat) (c:C3) (q:Wr) (dd:Dk) (nn:Int) (W0:World) {l:List Value} (Q:Exit→Act→World→Prop) (hQ:∀ c a d v w,Q (.panic c) (Act.put a d v) w→Q (.panic c) a w) (h2:W0.drew.rowIs B2 27 3 (row3 c.c0 c.c1 c.c2)) (hwg:wg < W0.drew.heap.size) (hq3:C3.at W0.drew wg (p+i * 3) ⟨.int .i64 q.k,.string q.x,.string q.y⟩) (hi:i < n) (HK:∀ W,Below W0.drew.heap.size W0.drew W→Calls Try.prog 7 #[.agg #[c.c0,c.c1,c.c2],.agg #[.int .i64 q.k,.string q.x,.string q.y]] W fun e w'=>DoEnd W w' e dd nn)
 (hl:lookL (kp_ls11 (fun i=>l.getD i undef)++[(2,.pointer (some ⟨B2,0,none⟩)),(7,.slice (some ⟨wg,p,none⟩) n cap),(10,.int .i64 (i:Nat))]) l=(73,((kp_ls11 (fun i=>l.getD i undef)++[(2,.pointer (some ⟨B2,0,none⟩)),(7,.slice (some ⟨wg,p,none⟩) n cap),(10,.int .i64 (i:Nat))]):List (Nat × Value)).map (·.2)))
 (hfr:∀ (u:Nat→Value) (_c':C3)  (g:Nat),frL u 73 (kp_ls11 (fun i=>l.getD i undef)++[(2,.pointer (some ⟨B2,0,none⟩)),(7,.slice (some ⟨wg,p,none⟩) n cap),(10,.int .i64 (i:Nat)),(11,.pointer (some ⟨g,0,none⟩)),(12,.int .i64 nn)])=(l.take 11++(.pointer (some ⟨g,0,none⟩)::(.int .i64 nn::((l.drop 13).take 36++(u 49::(u 50::(u 51::(u 52::(u 53::(u 54::(u 55::(u 56::(u 57::l.drop 58))))))))))))))
 (hend:∀ (u:Nat→Value) (c':C3)  (g:Nat) (W:World),Below W0.drew.heap.size W0.drew W→W.rowIs g 27 3 (row3 c'.c0 c'.c1 c'.c2)→W0.drew.heap.size≤g→DkAt (fun b=>W0.drew.heap.size≤b∧b < W.heap.size) W dd c'→Q .normal ⟨((l.take 11++(.pointer (some ⟨g,0,none⟩)::(.int .i64 nn::((l.drop 13).take 36++(u 49::(u 50::(u 51::(u 52::(u 53::(u 54::(u 55::(u 56::(u 57::l.drop 58)))))))))))))).toArray,[]⟩ W):(Code.region 11 ls11Ops true).wp Try.prog Q ⟨l.toArray,[]⟩ W0 :=
 ls11z (fun i=>l.getD i undef) (fun u _c' g=>(l.take 11++(.pointer (some ⟨g,0,none⟩)::(.int .i64 nn::((l.drop 13).take 36++(u 49::(u 50::(u 51::(u 52::(u 53::(u 54::(u 55::(u 56::(u 57::l.drop 58)))))))))))))) B2 wg p n cap i c q dd nn W0 Q hQ h2 hwg hq3 hi HK hl hfr hend
def GoodD (d:Dk):Prop:=DkOkS d∨d=⟨[],[],[]⟩∨∃ d0 m zs,DkOkS d0∧d=cutD d0 m zs
def LsEnd (w w':World) (e:Ending):Prop:=∃ (d:Dk) (c':C3) (pos code:Int),e=.returned (.tuple #[.agg #[c'.c0,c'.c1,c'.c2],.int .i64 pos,.int .i64 code])∧DkAt (New w w') w' d c'∧GoodD d∧Below w.heap.size w w'
theorem dk_nil8 (P:Nat→Prop) (w:World):DkAt P w ⟨[],[],[]⟩ ⟨.slice none 0 0,.slice none 0 0,.slice none 0 0⟩ :=
 ⟨⟨⟨none,0,rfl,by decide,fun i hi=>absurd hi (Nat.not_lt_zero i)⟩,fun _ h=>by cases h⟩,⟨none,0,rfl,by decide,fun i hi=>absurd hi (Nat.not_lt_zero i)⟩,⟨none,0,rfl,by decide,fun i hi=>absurd hi (Nat.not_lt_zero i)⟩,fun _ h=>by cases h⟩
theorem copy_dk {P:Nat→Prop} {w w':World} {d:Dk} {c c':C3} (hd:DkAt P w d c) (h0:w'.ownsRow w.heap.size 44 3 c'.c0 d.files.length (d.files.map Df.cs).flatten) (h1:w'.ownsRow w.heap.size 9 1 c'.c1 d.names.length (d.names.map Value.string)) (h2:w'.ownsRow w.heap.size 60 2 c'.c2 d.moves.length (d.moves.map Dm.cs).flatten):DkAt (New w w') w' d c':=by
 obtain ⟨F,hF,-,hb,-⟩:=FlatOwn.of_row (rs:=d.files.map Df.cs) (n:=3) (by rw [List.length_map];exact h0) (fun r hr=>by obtain ⟨x,-,rfl⟩:=List.mem_map.1 hr;rfl)
 obtain ⟨G,hG,-,hb2,-⟩:=FlatOwn.of_row (rs:=d.moves.map Dm.cs) (n:=2) (by rw [List.length_map];exact h2) (fun r hr=>by obtain ⟨x,-,rfl⟩:=List.mem_map.1 hr;rfl)
 have hns:∀ x,x∈d.names→x.size≤9223372036854775807:=fun x hx=>by
  obtain ⟨_,_,_,_,hc⟩:=hd.ns
  obtain ⟨i,hi,rfl⟩:=List.getElem_of_mem hx
  obtain ⟨_,_,_,_,_,h⟩:=hc i hi
  exact h
 exact ⟨⟨FlatAt.carry hF.at (fun _ _=>rfl) hb,hd.fs.2⟩,strsAt_own h1 hns,FlatAt.carry hG.at (fun _ _=>rfl) hb2,hd.ms.2⟩
structure LsS (w W:World) (d:Dk) (c:C3) (act:List Value) (v:Value) (ws:List Wr):Prop where
 below:Below w.heap.size w W
 b2:W.rowIs w.heap.size 27 3 (row3 c.c0 c.c1 c.c2)
 b3:Lies W (w.heap.size+1) act
 b4:W.rowIs (w.heap.size+1+1) 27 3 (row3 (.slice none 0 0) (.slice none 0 0) (.slice none 0 0))
 dk:DkAt (fun b=>b < W.heap.size∧b≠w.heap.size∧b≠w.heap.size+1+1) W d c
 ws:WsAt (fun b=>b < W.heap.size∧b≠w.heap.size∧b≠w.heap.size+1+1) W v ws
theorem LsS.on {w W W':World} {d:Dk} {c:C3} {act:List Value} {v:Value} {ws:List Wr} (h:LsS w W d c act v ws) (hb:Below W.heap.size W W'):LsS w W' d c act v ws :=
 ⟨h.below.trans (hb.mono h.below.size),h.b2.of_block (hb.block _ h.b2.lt),h.b3.on hb,h.b4.of_block (hb.block _ h.b4.lt),h.dk.carry (fun b hb'=>hb.block b hb'.1) (fun _ hb'=>⟨Nat.lt_of_lt_of_le hb'.1 hb.size,hb'.2⟩),h.ws.carry (fun b hb'=>hb.block b hb'.1) (fun _ hb'=>⟨Nat.lt_of_lt_of_le hb'.1 hb.size,hb'.2⟩)⟩
theorem LsS.withws {w W:World} {d:Dk} {c:C3} {act:List Value} {v v':Value} {ws ws':List Wr} (h:LsS w W d c act v ws) (hws:WsAt (fun b=>b < W.heap.size∧b≠w.heap.size∧b≠w.heap.size+1+1) W v' ws'):LsS w W d c act v' ws':=⟨h.below,h.b2,h.b3,h.b4,h.dk,hws⟩
theorem LsS.put {w W:World} {d d':Dk} {c c':C3} {act:List Value} {v:Value} {ws:List Wr} (h:LsS w W d c act v ws) (hd:DkAt (fun b=>b < W.heap.size∧b≠w.heap.size∧b≠w.heap.size+1+1) W d' c'):LsS w (((W.setCell ⟨w.heap.size,0,none⟩ c'.c0).setCell ⟨w.heap.size,1,none⟩ c'.c1).setCell ⟨w.heap.size,2,none⟩ c'.c2) d' c' act v ws:=by
 obtain ⟨s1,s2,s3,s4⟩:=set3 W w.heap.size c'.c0 c'.c1 c'.c2
 have hs:∀ a,a≠w.heap.size→(((W.setCell ⟨w.heap.size,0,none⟩ c'.c0).setCell ⟨w.heap.size,1,none⟩ c'.c1).setCell ⟨w.heap.size,2,none⟩ c'.c2).heap[a]? = W.heap[a]? := s1
 have hz:(((W.setCell ⟨w.heap.size,0,none⟩ c'.c0).setCell ⟨w.heap.size,1,none⟩ c'.c1).setCell ⟨w.heap.size,2,none⟩ c'.c2).heap.size=W.heap.size:=s2
 exact ⟨s4 _ _ (Nat.le_refl _) h.below,s3 _ _ h.b2,h.b3.of_block (hs _ (by omega)),h.b4.of_block (hs _ (by omega)),hd.carry (fun b hb=>hs b hb.2.1) (fun b hb=>⟨by rw [hz];exact hb.1,hb.2⟩),h.ws.carry (fun b hb=>hs b hb.2.1) (fun b hb=>⟨by rw [hz];exact hb.1,hb.2⟩)⟩
theorem ls_done {w W:World} {d:Dk} {c:C3} (pos code:Int) (hb:Below w.heap.size w W) (hd:DkAt (fun b=>w.heap.size+3≤b∧b < W.heap.size) W d c) (hg:GoodD d):LsEnd w (((W.setCell ⟨w.heap.size+1+1,0,none⟩ c.c0).setCell ⟨w.heap.size+1+1,1,none⟩ c.c1).setCell ⟨w.heap.size+1+1,2,none⟩ c.c2) (.returned (.tuple #[.agg #[c.c0,c.c1,c.c2],.int .i64 pos,.int .i64 code])):=by
 obtain ⟨s1,s2,-,s4⟩:=set3 W (w.heap.size+1+1) c.c0 c.c1 c.c2
 have hs:∀ a,a≠w.heap.size+1+1→(((W.setCell ⟨w.heap.size+1+1,0,none⟩ c.c0).setCell ⟨w.heap.size+1+1,1,none⟩ c.c1).setCell ⟨w.heap.size+1+1,2,none⟩ c.c2).heap[a]? = W.heap[a]? := s1
 have hz:(((W.setCell ⟨w.heap.size+1+1,0,none⟩ c.c0).setCell ⟨w.heap.size+1+1,1,none⟩ c.c1).setCell ⟨w.heap.size+1+1,2,none⟩ c.c2).heap.size=W.heap.size:=s2
 exact ⟨d,c,pos,code,rfl,hd.carry (fun b hb'=>hs b (by omega)) (fun b hb'=>⟨by omega,by rw [hz];exact hb'.2⟩),hg,s4 _ _ (by omega) hb⟩
theorem specLogStep_any (d:Dk) (c:C3) (kind after moves:Int) (data:ByteArray) (cuts:Bool) (vk:Value) (zs:List Int) (P:Nat→Prop) (w:World) (hP:∀ b,P b→b < w.heap.size) (hd:DkAt P w d c) (hz:ZsAt P w vk zs) (hdat:data.size≤9223372036854775000) :
 Calls Try.prog 82 #[.agg #[c.c0,c.c1,c.c2],.agg #[.int .i64 kind,.string data,.bool cuts,.int .i64 after,.int .i64 moves,vk]] w fun e w'=>LsEnd w w' e:=by
 obtain ⟨ak,ck,ekv,-,-⟩:=id hz
 subst ekv
 have HZA:=xH (fun W (hW:Below w.heap.size w W)=>(hz.carry (Q:=fun b=>b < W.heap.size) (fun b hb=>hW.block b (hP b hb)) (fun b hb=>Nat.lt_of_lt_of_le (hP b hb) hW.size)))
 have HDA:=xH (fun W (hW:Below w.heap.size w W)=>(⟨fun b hb=>Nat.lt_of_lt_of_le (hP b hb) hW.size,hd.carry (fun b hb=>hW.block b (hP b hb)) (fun _ h=>h)⟩:(∀ b,P b→b < W.heap.size)∧DkAt P W d c))
 have HOK:=xH (fun W (hW:Below w.heap.size w W)=>specDiskOk_any d P c W (HDA.out W hW).1 (HDA.out W hW).2)
 have HLW:=xH (fun W (hW:Below w.heap.size w W)=>specLogWrites_any d c kind after moves data cuts (.slice ak zs.length ck) rfl P W (HDA.out W hW).1 (HDA.out W hW).2 hdat)
 have hsd:LsS w (((w.alloc (.cells #[c.c0,c.c1,c.c2] 27)).alloc (.cells #[.int .i64 kind,.string data,.bool cuts,.int .i64 after,.int .i64 moves,.slice ak zs.length ck] 124)).alloc (.cells #[.slice none 0 0,.slice none 0 0,.slice none 0 0] 27)) d c [.int .i64 kind,.string data,.bool cuts,.int .i64 after,.int .i64 moves,.slice ak zs.length ck] (.slice none 0 0) []:=by
  have hb:Below w.heap.size w (((w.alloc (.cells #[c.c0,c.c1,c.c2] 27)).alloc (.cells #[.int .i64 kind,.string data,.bool cuts,.int .i64 after,.int .i64 moves,.slice ak zs.length ck] 124)).alloc (.cells #[.slice none 0 0,.slice none 0 0,.slice none 0 0] 27)):=(((Below.refl _ _).alloc (Nat.le_refl _) _).alloc (by simp) _).alloc (by simp;omega) _
  refine ⟨hb,?_,?_,?_,hd.carry (fun b hb'=>hb.block b (hP b hb')) (fun b hb'=>⟨Nat.lt_of_lt_of_le (hP b hb') hb.size,by have:=hP b hb';omega,by have:=hP b hb';omega⟩),ws_nil _ _⟩
  · exact ((row3_alloc w c.c0 c.c1 c.c2 27).alloc _).alloc _
  · have:=(lies_alloc (w.alloc (.cells #[c.c0,c.c1,c.c2] 27)) [.int .i64 kind,.string data,.bool cuts,.int .i64 after,.int .i64 moves,.slice ak zs.length ck] 124).on (W':=(((w.alloc (.cells #[c.c0,c.c1,c.c2] 27)).alloc (.cells #[.int .i64 kind,.string data,.bool cuts,.int .i64 after,.int .i64 moves,.slice ak zs.length ck] 124)).alloc (.cells #[.slice none 0 0,.slice none 0 0,.slice none 0 0] 27))) ((Below.refl _ _).alloc (Nat.le_refl _) _)
    rw [World.size_alloc] at this
    exact this
  · have:=row3_alloc ((w.alloc (.cells #[c.c0,c.c1,c.c2] 27)).alloc (.cells #[.int .i64 kind,.string data,.bool cuts,.int .i64 after,.int .i64 moves,.slice ak zs.length ck] 124)) (.slice none 0 0) (.slice none 0 0) (.slice none 0 0) 27
    rw [World.size_alloc,World.size_alloc] at this
    exact this
 have HS0:=xH hsd
 obtain ⟨c0,c1,c2⟩:=c
 obtain ⟨a0,p0,g0,-,-⟩:=hd.fs.open
 obtain ⟨a1,p1,g1,-,-⟩:=id hd.ns
 obtain ⟨a2,p2,g2,-,-⟩:=hd.ms.open
 simp only at g0 g1 g2
 subst g0 g1 g2
 clear hP hd hz hsd HDA
 go_enter Try.func82,Try.ntmps82
 go_wp2_with fail
 generalize (((w.alloc (.cells #[.slice a0 d.files.length p0,.slice a1 d.names.length p1,.slice a2 d.moves.length p2] 27)).alloc (.cells #[.int .i64 kind,.string data,.bool cuts,.int .i64 after,.int .i64 moves,.slice ak zs.length ck] 124)).alloc (.cells #[.slice none 0 0,.slice none 0 0,.slice none 0 0] 27))=W0 at HS0 ⊢
 have HS:=HS0
 have j0:=lies_cell (j:=0) HS.out.b3 rfl;have j1:=lies_cell (j:=1) HS.out.b3 rfl;have j2:=lies_cell (j:=2) HS.out.b3 rfl;have j3:=lies_cell (j:=3) HS.out.b3 rfl;have j4:=lies_cell (j:=4) HS.out.b3 rfl;have j5:=lies_cell (j:=5) HS.out.b3 rfl
 obtain ⟨l0,l1,l2⟩:=cs3 HS.out.b2 (by omega)
 have y0:=HS.out.b4.cell (i:=0) (by omega);have y1:=HS.out.b4.cell (i:=1) (by omega);have y2:=HS.out.b4.cell (i:=2) (by omega)
 have z:=HS.out.b4.frozen
 simp only [row3] at l0 l1 l2 y0 y1 y2
 clear HS
 refine (HOK.out W0 HS0.out.below).mono ?_
 rintro e w1 ⟨⟨r,rfl,hr⟩,hb1⟩
 clear HOK
 have HS:=xH (HS0.out.on hb1)
 clear hb1 HS0 j0 j1 j2 j3 j4 j5 l0 l1 l2 y0 y1 y2 z
 have j0:=lies_cell (j:=0) HS.out.b3 rfl;have j1:=lies_cell (j:=1) HS.out.b3 rfl;have j2:=lies_cell (j:=2) HS.out.b3 rfl;have j3:=lies_cell (j:=3) HS.out.b3 rfl;have j4:=lies_cell (j:=4) HS.out.b3 rfl;have j5:=lies_cell (j:=5) HS.out.b3 rfl
 obtain ⟨l0,l1,l2⟩:=cs3 HS.out.b2 (by omega)
 have y0:=HS.out.b4.cell (i:=0) (by omega);have y1:=HS.out.b4.cell (i:=1) (by omega);have y2:=HS.out.b4.cell (i:=2) (by omega)
 have z:=HS.out.b4.frozen
 simp only [row3] at l0 l1 l2 y0 y1 y2
 cases r with
 | false =>
   have HF:=xH (ls_done 0 7 HS.out.below (dk_nil8 _ _) (Or.inr (Or.inl rfl)))
   clear hr
   go_wp2_with fail
   try simp only [Exit.inBlock,Exit.then]
   refine bodyPost_ret (v:=.tuple #[.agg #[.slice none 0 0,.slice none 0 0,.slice none 0 0],.int .i64 0,.int .i64 7]) (by simp [results,Try.results82,go_sem,y0,y1,y2]) rfl ?_
   exact xU HF
 | true =>
   have HOKD:=xH (hr.1 rfl)
   clear hr
   go_wp2_with fail
   refine (HLW.out w1 HS.out.below).mono ?_
   rintro e w2 ⟨ws,v,pos,code,rfl,hws,hwn,hwx,hb2⟩
   have hlt1:=HS.out.b4.lt
   have HS2:=xH ((HS.out.on hb2).withws (hws.carry (fun _ _=>rfl) (fun b hb=>⟨hb.2,by have:=hb.1;omega,by have:=hb.1;omega⟩)))
   have HWX:=xH hwx
   obtain ⟨av,cv,rfl,-,-⟩:=hws.open
   clear hws hwx hb2 HLW HS hlt1 j0 j1 j2 j3 j4 j5 l0 l1 l2 y0 y1 y2 z
   have HS:=HS2
   clear HS2
   have j0:=lies_cell (j:=0) HS.out.b3 rfl;have j1:=lies_cell (j:=1) HS.out.b3 rfl;have j2:=lies_cell (j:=2) HS.out.b3 rfl;have j3:=lies_cell (j:=3) HS.out.b3 rfl;have j4:=lies_cell (j:=4) HS.out.b3 rfl;have j5:=lies_cell (j:=5) HS.out.b3 rfl
   obtain ⟨l0,l1,l2⟩:=cs3 HS.out.b2 (by omega)
   have y0:=HS.out.b4.cell (i:=0) (by omega);have y1:=HS.out.b4.cell (i:=1) (by omega);have y2:=HS.out.b4.cell (i:=2) (by omega)
   have z:=HS.out.b4.frozen
   simp only [row3] at l0 l1 l2 y0 y1 y2
   by_cases hc0:code=0
   case neg =>
    have ec:(code != 0)=true:=by simp [hc0]
    have HCD:=xH (l41Copy_any d _ ⟨.slice a0 d.files.length p0,.slice a1 d.names.length p1,.slice a2 d.moves.length p2⟩ w2 (fun b h=>h.1) HS.out.dk (by have:=HOKD.out.l1;omega) (by have:=HOKD.out.l2;omega) (by have:=HOKD.out.l3;omega))
    clear j0 j1
    go_wp2_with fail
    refine HCD.out.mono ?_
    rintro e w9 ⟨⟨u0,u1,u2⟩,rfl,h0,h1,h2,hb9⟩
    clear HCD l0 l1 l2 j2 j3 j4 j5 y0 y1 y2 z
    simp only at h0 h1 h2
    obtain ⟨b0,t0,e0⟩:=own_slice h0
    obtain ⟨b1,t1,e1⟩:=own_slice h1
    obtain ⟨b2,t2,e2⟩:=own_slice h2
    subst e0 e1 e2
    have hsd:=HS.out.on hb9
    have hat:=copy_dk (c':=⟨.slice b0 _ t0,.slice b1 _ t1,.slice b2 _ t2⟩) HS.out.dk h0 h1 h2
    obtain ⟨y0,y1,y2⟩:=cs3 hsd.b4 (by omega)
    have z:=hsd.b4.frozen
    simp only [row3] at y0 y1 y2
    have hs9:=HS.out.b4.lt
    have HF:=xH (ls_done 0 code hsd.below (hat.carry (fun _ _=>rfl) (fun b hb=>⟨by have:=hb.1;omega,hb.2⟩)) (Or.inl HOKD.out))
    clear h0 h1 h2 hat hb9 hsd
    generalize d.files.length=M0 at *
    generalize d.names.length=M1 at *
    generalize d.moves.length=M2 at *
    go_wp2_with fail
    try simp only [Exit.inBlock,Exit.then]
    refine bodyPost_ret (v:=.tuple #[.agg #[.slice b0 M0 t0,.slice b1 M1 t1,.slice b2 M2 t2],.int .i64 0,.int .i64 code]) (by simp [results,Try.results82,go_sem,y0,y1,y2]) rfl ?_
    exact xU HF
   subst hc0
   go_wp2_with fail
   go_loopw [10] (fun i wr=>∃ (k:Nat) (D:Dk) (c':C3),k≤ws.length∧i=.int .i64 k∧Hid (DkOkS D)∧Hid (LsS w wr D c' [.int .i64 kind,.string data,.bool cuts,.int .i64 after,.int .i64 moves,.slice ak zs.length ck] (.slice av ws.length cv) ws)) (fun i _=>ws.length - (intOf i).toNat)
   case atStart=>exact ⟨0,d,_,Nat.zero_le _,rfl,HOKD,HS⟩
   case round =>
    clear HS HOKD j0 j1 j2 j3 j4 j5 l0 l1 l2 y0 y1 y2 z
    obtain ⟨k,D,⟨u0,u1,u2⟩,hk,rfl,HOKD,HS⟩:=hrel
    obtain ⟨q0,r0,e0,-,-⟩:=HS.out.dk.fs.open
    obtain ⟨q1,r1,e1,-,-⟩:=id HS.out.dk.ns
    obtain ⟨q2,r2,e2,-,-⟩:=HS.out.dk.ms.open
    simp only at e0 e1 e2
    subst e0 e1 e2
    have j0:=lies_cell (j:=0) HS.out.b3 rfl;have j1:=lies_cell (j:=1) HS.out.b3 rfl;have j2:=lies_cell (j:=2) HS.out.b3 rfl;have j3:=lies_cell (j:=3) HS.out.b3 rfl;have j4:=lies_cell (j:=4) HS.out.b3 rfl;have j5:=lies_cell (j:=5) HS.out.b3 rfl
    obtain ⟨l0,l1,l2⟩:=cs3 HS.out.b2 (by omega)
    have y0:=HS.out.b4.cell (i:=0) (by omega);have y1:=HS.out.b4.cell (i:=1) (by omega);have y2:=HS.out.b4.cell (i:=2) (by omega)
    have z:=HS.out.b4.frozen
    simp only [row3] at l0 l1 l2 y0 y1 y2
    clear j0 j1
    by_cases hlt:k < ws.length
    rotate_left
    · obtain rfl:k=ws.length:=by omega
      cases cuts with
      | true =>
        have HCT:=xH (specDiskCut_any D moves zs (fun b=>b < wr.heap.size) ⟨.slice q0 D.files.length r0,.slice q1 D.names.length r1,.slice q2 D.moves.length r2⟩ (.slice ak zs.length ck) wr (fun _ h=>h) (HS.out.dk.carry (fun _ _=>rfl) (fun b hb=>hb.1)) (HZA.out wr HS.out.below))
        go_wp2_with fail
        refine HCT.out.mono ?_
        rintro e w9 ⟨⟨v0,v1,v2⟩,rfl,hat,hb9⟩
        clear HCT l0 l1 l2 j2 j3 j4 j5 y0 y1 y2 z
        obtain ⟨t0,s0,e0,-,-⟩:=hat.fs.open
        obtain ⟨t1,s1,e1,-,-⟩:=id hat.ns
        obtain ⟨t2,s2,e2,-,-⟩:=hat.ms.open
        simp only at e0 e1 e2
        subst e0 e1 e2
        have hsd:=HS.out.on hb9
        obtain ⟨y0,y1,y2⟩:=cs3 hsd.b4 (by omega)
        have z:=hsd.b4.frozen
        simp only [row3] at y0 y1 y2
        have hs9:=HS.out.b4.lt
        have HF:=xH (ls_done 0 6 hsd.below (hat.carry (fun _ _=>rfl) (fun b hb=>⟨by have:=hb.1;omega,hb.2⟩)) (Or.inr (Or.inr ⟨D,moves,zs,HOKD.out,rfl⟩)))
        clear hat hb9 hsd
        generalize (cutD D moves zs).files.length=M0 at *
        generalize (cutD D moves zs).names.length=M1 at *
        generalize (cutD D moves zs).moves.length=M2 at *
        go_wp2_with fail
        try simp only [Exit.inBlock,Exit.then]
        refine bodyPost_ret (v:=.tuple #[.agg #[.slice t0 M0 s0,.slice t1 M1 s1,.slice t2 M2 s2],.int .i64 0,.int .i64 6]) (by simp [results,Try.results82,go_sem,y0,y1,y2]) rfl ?_
        exact xU HF
      | false =>
        have HCD:=xH (l41Copy_any D _ ⟨.slice q0 D.files.length r0,.slice q1 D.names.length r1,.slice q2 D.moves.length r2⟩ wr (fun b h=>h.1) HS.out.dk (by have:=HOKD.out.l1;omega) (by have:=HOKD.out.l2;omega) (by have:=HOKD.out.l3;omega))
        clear HZA
        go_wp2_with fail
        refine HCD.out.mono ?_
        rintro e w9 ⟨⟨u0,u1,u2⟩,rfl,h0,h1,h2,hb9⟩
        clear HCD l0 l1 l2 j2 j3 j4 j5 y0 y1 y2 z
        simp only at h0 h1 h2
        obtain ⟨b0,t0,e0⟩:=own_slice h0
        obtain ⟨b1,t1,e1⟩:=own_slice h1
        obtain ⟨b2,t2,e2⟩:=own_slice h2
        subst e0 e1 e2
        have hsd:=HS.out.on hb9
        have hat:=copy_dk (c':=⟨.slice b0 _ t0,.slice b1 _ t1,.slice b2 _ t2⟩) HS.out.dk h0 h1 h2
        obtain ⟨y0,y1,y2⟩:=cs3 hsd.b4 (by omega)
        have z:=hsd.b4.frozen
        simp only [row3] at y0 y1 y2
        have hs9:=HS.out.b4.lt
        have HF:=xH (ls_done pos 0 hsd.below (hat.carry (fun _ _=>rfl) (fun b hb=>⟨by have:=hb.1;omega,hb.2⟩)) (Or.inl HOKD.out))
        clear h0 h1 h2 hat hb9 hsd
        generalize D.files.length=M0 at *
        generalize D.names.length=M1 at *
        generalize D.moves.length=M2 at *
        go_wp2_with fail
        try simp only [Exit.inBlock,Exit.then]
        refine bodyPost_ret (v:=.tuple #[.agg #[.slice b0 M0 t0,.slice b1 M1 t1,.slice b2 M2 t2],.int .i64 pos,.int .i64 0]) (by simp [results,Try.results82,go_sem,y0,y1,y2]) rfl ?_
        exact xU HF
    · have HZB:=xH (fun (W:World) (hW:Below wr.heap.size wr W)=>HZA.out W (HS.out.below.trans (hW.mono HS.out.below.size)))
      by_cases hcut:cuts=true∧after≤(k:Int)
      · obtain ⟨hcu,haf⟩:=hcut
        subst hcu
        have hafd:decide (after≤(k:Int))=true:=decide_eq_true haf
        have HCT:=xH (specDiskCut_any D moves zs (fun b=>b < wr.heap.size) ⟨.slice q0 D.files.length r0,.slice q1 D.names.length r1,.slice q2 D.moves.length r2⟩ (.slice ak zs.length ck) wr (fun _ h=>h) (HS.out.dk.carry (fun _ _=>rfl) (fun b hb=>hb.1)) (HZA.out wr HS.out.below))
        go_wp2_with fail
        refine HCT.out.mono ?_
        rintro e w9 ⟨⟨v0,v1,v2⟩,rfl,hat,hb9⟩
        clear HCT l0 l1 l2 j2 j3 j4 j5 y0 y1 y2 z
        obtain ⟨t0,s0,e0,-,-⟩:=hat.fs.open
        obtain ⟨t1,s1,e1,-,-⟩:=id hat.ns
        obtain ⟨t2,s2,e2,-,-⟩:=hat.ms.open
        simp only at e0 e1 e2
        subst e0 e1 e2
        have hsd:=HS.out.on hb9
        obtain ⟨y0,y1,y2⟩:=cs3 hsd.b4 (by omega)
        have z:=hsd.b4.frozen
        simp only [row3] at y0 y1 y2
        have hs9:=HS.out.b4.lt
        have HF:=xH (ls_done 0 6 hsd.below (hat.carry (fun _ _=>rfl) (fun b hb=>⟨by have:=hb.1;omega,hb.2⟩)) (Or.inr (Or.inr ⟨D,moves,zs,HOKD.out,rfl⟩)))
        clear hat hb9 hsd
        generalize (cutD D moves zs).files.length=M0 at *
        generalize (cutD D moves zs).names.length=M1 at *
        generalize (cutD D moves zs).moves.length=M2 at *
        go_wp2_with fail
        try simp only [Exit.inBlock,Exit.then]
        refine bodyPost_ret (v:=.tuple #[.agg #[.slice t0 M0 s0,.slice t1 M1 s1,.slice t2 M2 s2],.int .i64 0,.int .i64 6]) (by simp [results,Try.results82,go_sem,y0,y1,y2]) rfl ?_
        exact xU HF
      · have hcc:cuts=false∨(cuts=true∧decide (after≤(k:Int))=false):=by
         cases hc:cuts with
         | false=>exact Or.inl rfl
         | true=>exact Or.inr ⟨rfl,decide_eq_false fun h=>hcut ⟨hc,h⟩⟩
        obtain ⟨_,_,ev,-,hwc⟩:=HS.out.ws.open
        cases ev
        obtain ⟨b,q,rfl,hpb,hcell,-⟩:=hwc k hlt
        have hsx:=(HWX.out ws[k] (List.getElem_mem hlt)).1
        have HCW:=xH hcell;have HPB:=xH hpb.1
        have HDO:=xH (fun (W:World) (hW:Below wr.drew.heap.size wr.drew W)=>specDiskDo_any D ws[k].k ws[k].x ws[k].y (fun b=>b < W.heap.size) ⟨.slice q0 D.files.length r0,.slice q1 D.names.length r1,.slice q2 D.moves.length r2⟩ W (fun _ h=>h) (HS.out.dk.carry (fun b hb=>hW.block b hb.1) (fun b hb=>Nat.lt_of_lt_of_le hb.1 hW.size)) (Nat.le_trans hsx (by decide)))
        have HOKN:=xH (fun (h:(doD D ws[k].k ws[k].x ws[k].y).2=0)=>doD_ok (k:=ws[k].k) (x:=ws[k].x) (y:=ws[k].y) HOKD.out h)
        have HSAM:=xH (fun (h:(doD D ws[k].k ws[k].x ws[k].y).2≠0)=>doD_same (k:=ws[k].k) (x:=ws[k].x) (y:=ws[k].y) HOKD.out h)
        clear hwc hpb hcell hsx hcut HZB
        generalize ws[k]=x at *
        generalize hN:(doD D x.k x.x x.y).1=N at *
        generalize hn:(doD D x.k x.x x.y).2=n at *
        clear hN hn
        rcases hcc with hcu | ⟨hcu,haf⟩
        all_goals
         subst hcu
         go_upto_region 11 with fail
         refine wp_swap (c':=Code.region 11 ls11Ops true) (by kernel_rfl) ?_
         refine wp_region_noPanic ?_
         refine ls11 w.heap.size b q ws.length cv k ⟨.slice q0 D.files.length r0,.slice q1 D.names.length r1,.slice q2 D.moves.length r2⟩ x N n wr _ (fun _ _ _ _ _ h=>h) (HS.out.b2.of_block rfl) HPB.out HCW.out hlt HDO.out (by kernel_rfl) (fun u c' g=>by kernel_rfl) ?_
         intro u c' g W hb hg hgb hdk
         refine NoPanic.normal ?_
         simp only [List.take_succ_cons,List.take_zero,List.drop_succ_cons,List.drop_zero,List.cons_append,List.nil_append]
         have hbw:Below wr.heap.size wr W:=((Below.refl _ wr).drew).trans hb
         have hs4:=HS.out.b4.lt
         have hdr:wr.drew.heap.size=wr.heap.size:=rfl
         rw [hdr] at hgb hdk
         have hsd:=HS.out.on hbw
         obtain ⟨u0,u1,u2⟩:=c'
         obtain ⟨t0,s0,e0,-,-⟩:=hdk.fs.open
         obtain ⟨t1,s1,e1,-,-⟩:=id hdk.ns
         obtain ⟨t2,s2,e2,-,-⟩:=hdk.ms.open
         simp only at e0 e1 e2
         subst e0 e1 e2
         clear l0 l1 l2 j2 j3 j4 j5 y0 y1 y2 z
         obtain ⟨m0,m1,m2⟩:=cs3 hg (by omega)
         simp only [row3] at m0 m1 m2
         have hgl:=hg.lt
         by_cases hn0:n=0
         · subst hn0
           obtain ⟨l0,l1,l2⟩:=cs3 hsd.b2 (by omega)
           have z3:=hsd.b2.frozen
           simp only [row3] at l0 l1 l2
           have HNX:=xH (hsd.put (hdk.carry (fun _ _=>rfl) (fun b hb'=>⟨hb'.2,by have:=hb'.1;omega,by have:=hb'.1;omega⟩)))
           clear hdk hg hbw hb hsd hdr
           go_wp2_with fail
           go_roundw
           case rel=>exact ⟨k+1,N,⟨_,_,_⟩,by omega,by go_num,xH (HOKN.out rfl),HNX⟩
           case measure=>simp [intOf];omega
         · have hnn:(n != 0)=true:=by simpa using hn0
           have HOKN2:Hid (DkOkS N):=by rw [HSAM.out hn0];exact HOKD
           obtain ⟨y0,y1,y2⟩:=cs3 hsd.b4 (by omega)
           have z:=hsd.b4.frozen
           simp only [row3] at y0 y1 y2
           have HF:=xH (ls_done 0 4 hsd.below (hdk.carry (fun _ _=>rfl) (fun b hb'=>⟨by have:=hb'.1;omega,hb'.2⟩)) (Or.inl HOKN2.out))
           clear hdk hg hbw hb hsd hdr
           generalize N.files.length=M0 at *
           generalize N.names.length=M1 at *
           generalize N.moves.length=M2 at *
           go_wp2_with fail
           try simp only [Exit.inBlock,Exit.then]
           refine bodyPost_ret (v:=.tuple #[.agg #[.slice t0 M0 s0,.slice t1 M1 s1,.slice t2 M2 s2],.int .i64 0,.int .i64 4]) (by simp [results,Try.results82,go_sem,y0,y1,y2]) rfl ?_
           exact xU HF
end Go.Proofs.Yteikmbkljkkjiaa
