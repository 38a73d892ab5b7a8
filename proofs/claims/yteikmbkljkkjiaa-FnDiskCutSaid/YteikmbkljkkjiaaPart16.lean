/- A part. -/
import Derived.Test.YteikmbkljkkjiaaPart15
namespace Go.Proofs.Yteikmbkljkkjiaa
open Go Go.RowKit
set_option maxRecDepth 100000
set_option maxHeartbeats 12800000
theorem info9S:(Try.prog.info? 118).map (·.size)=some 9:=by kernel_rfl
theorem rowStO:∃ d,Try.prog.underlying 118=some d∧d.isRow=true:=⟨_,Try.underlying118,by rfl⟩
theorem ldState {W:World} {b:Nat} {s0 s1 s2 s3 s4 s5 s6 s7 s8:Value} (h:W.rowIs b 118 9 (row9 s0 s1 s2 s3 s4 s5 s6 s7 s8)):(Instr.loadAt 118 (.pointer (some ⟨b,0,none⟩))).run Try.prog W=.ok (.agg #[s0,s1,s2,s3,s4,s5,s6,s7,s8]) W:=by
 have hr:W.rangeAt b 0 [s0,s1,s2,s3,s4,s5,s6,s7,s8]:=fun j v hv=>by
  obtain ⟨z0,z1,z2,z3,z4,z5,z6,z7,z8⟩:=cell9 h
  match j,hv with
  | 0,hv=>simp only [List.getElem?_cons_zero,Option.some.injEq] at hv;subst hv;exact z0
  | 1,hv=>simp only [List.getElem?_cons_succ,List.getElem?_cons_zero,Option.some.injEq] at hv;subst hv;exact z1
  | 2,hv=>simp only [List.getElem?_cons_succ,List.getElem?_cons_zero,Option.some.injEq] at hv;subst hv;exact z2
  | 3,hv=>simp only [List.getElem?_cons_succ,List.getElem?_cons_zero,Option.some.injEq] at hv;subst hv;exact z3
  | 4,hv=>simp only [List.getElem?_cons_succ,List.getElem?_cons_zero,Option.some.injEq] at hv;subst hv;exact z4
  | 5,hv=>simp only [List.getElem?_cons_succ,List.getElem?_cons_zero,Option.some.injEq] at hv;subst hv;exact z5
  | 6,hv=>simp only [List.getElem?_cons_succ,List.getElem?_cons_zero,Option.some.injEq] at hv;subst hv;exact z6
  | 7,hv=>simp only [List.getElem?_cons_succ,List.getElem?_cons_zero,Option.some.injEq] at hv;subst hv;exact z7
  | 8,hv=>simp only [List.getElem?_cons_succ,List.getElem?_cons_zero,Option.some.injEq] at hv;subst hv;exact z8
  | _+9,hv=>simp at hv
 obtain ⟨dd,hdu,hdr⟩:=rowStO
 unfold Instr.loadAt
 simp only [Instr.sureAddr,Sem.run_bind,Sem.run_pure,Result.andThen_ok,run_loadVar_mid W b 0 118 _ dd hr hdu hdr info9S]
noncomputable def me7Ops:Array Oper:=fops Try.f89 7
theorem me7_neat:Region.noSelect me7Ops=true∧neat me7Ops=true:=⟨by kernel_rfl,by kernel_rfl⟩
def kp_me7 (z:Nat→Value):List (Nat × Value):=[(0,z 0),(1,z 1),(2,z 2),(4,z 4),(5,z 5),(6,z 6),(8,z 8),(10,z 10),(11,z 11),(12,z 12),(13,z 13),(14,z 14),(15,z 15),(16,z 16),(17,z 17),(18,z 18),(19,z 19),(20,z 20),(21,z 21),(22,z 22),(23,z 23),(24,z 24),(25,z 25),(26,z 26),(27,z 27),(34,z 34),(35,z 35),(36,z 36),(37,z 37),(38,z 38),(39,z 39),(40,z 40),(41,z 41),(42,z 42),(43,z 43),(44,z 44),(45,z 45),(46,z 46),(47,z 47),(48,z 48),(49,z 49),(50,z 50),(51,z 51),(52,z 52),(53,z 53),(54,z 54),(55,z 55),(56,z 56),(57,z 57),(58,z 58),(59,z 59),(60,z 60),(61,z 61),(62,z 62),(63,z 63),(64,z 64),(65,z 65),(66,z 66),(67,z 67),(68,z 68),(69,z 69),(70,z 70),(71,z 71)]
theorem me7z (z:Nat→Value) (LL:(Nat→Value)→Bool→List Value) (B3 g p n cap i:Nat) (s0 s1 s2 s3 s4 s5 s6 s7 s8:Value) (x:ByteArray) (W0:World) {l:List Value} (Q:Exit→Act→World→Prop) (hQ:∀ c a d v w,Q (.panic c) (Act.put a d v) w→Q (.panic c) a w) (h3:W0.drew.rowIs B3 118 9 (row9 s0 s1 s2 s3 s4 s5 s6 s7 s8)) (hg:g < W0.drew.heap.size) (hx:W0.drew.cell? ⟨g,p+i,none⟩=some (.string x)) (hi:i < n) (HK:∀ W,Below W0.drew.heap.size W0.drew W→Calls Try.prog 96 #[.agg #[s0,s1,s2,s3,s4,s5,s6,s7,s8],.string x] W fun e w'=>(∃ b:Bool,e=.returned (.bool b))∧Below W.heap.size W w')
 (hl:lookL (kp_me7 z++[(3,.pointer (some ⟨B3,0,none⟩)),(7,.slice (some ⟨g,p,none⟩) n cap),(9,.int .i64 (i:Nat))]) l=(72,((kp_me7 z++[(3,.pointer (some ⟨B3,0,none⟩)),(7,.slice (some ⟨g,p,none⟩) n cap),(9,.int .i64 (i:Nat))]):List (Nat × Value)).map (·.2)))
 (hfr:∀ (u:Nat→Value) (b:Bool),frL u 72 (kp_me7 z++[(3,.pointer (some ⟨B3,0,none⟩)),(7,.slice (some ⟨g,p,none⟩) n cap),(9,.int .i64 (i:Nat)),(33,.bool b)])=LL u b)
 (hend:∀ (u:Nat→Value) (b:Bool) (W:World),Below W0.drew.heap.size W0.drew W→True→Q .normal ⟨(LL u b).toArray,[]⟩ W):(Code.region 7 me7Ops true).wp Try.prog Q ⟨l.toArray,[]⟩ W0:=by
 obtain ⟨v0,rfl⟩:=look_fr hl
 have hq:NtQ me7Ops Q:=⟨me7_neat,hQ⟩
 refine T_start (S:=fun W=>Below W0.drew.heap.size W0.drew W) (by kernel_rfl) (Below.refl _ _) ?_
 clear hl hQ
 generalize W0.drew=V at h3 hg hx HK hend ⊢
 refine T_a hq [0,1,2] (fun w h=>.cons (ldState (h3.of_block (h.block _ h3.lt))) (Lds.nil)) (by kernel_rfl) ?_
 refine T_yld hq 3 (some 31) (.pointer (some ⟨g,p+i,none⟩)) (by kernel_rfl) (by kernel_rfl) (fun w h=>ixRunN (X:=.tmp 29) (I:=.tmp 30) (n:=n) (cap:=cap) (i:=i) (by kernel_rfl) (by kernel_rfl) (by kernel_rfl) hi w) ?_
 refine T_a hq [4] (fun w h=>.cons (ldStr _ _ _ ((h.cell hg).trans hx)) (Lds.nil)) (by kernel_rfl) ?_
 refine T_fr 6 72 [5] (kp_me7 z++[(3,.pointer (some ⟨B3,0,none⟩)),(7,.slice (some ⟨g,p,none⟩) n cap),(9,.int .i64 (i:Nat)),(28,.agg #[s0,s1,s2,s3,s4,s5,s6,s7,s8]),(32,.string x)]) (by kernel_rfl) fun u=>?_
 refine T_one 5 (by kernel_rfl) fun _=>O_go (HK V (Below.refl _ _)) (by kernel_rfl) ?_
 rintro e w1 ⟨⟨b,rfl⟩,hb1⟩
 refine ⟨_,rfl,hb1,?_⟩
 exact T_end 72 (kp_me7 z++[(3,.pointer (some ⟨B3,0,none⟩)),(7,.slice (some ⟨g,p,none⟩) n cap),(9,.int .i64 (i:Nat)),(33,.bool b)]) (by kernel_rfl) (by kernel_rfl) fun hS u=>by rw [hfr];exact hend u b w1 hS trivial
theorem me7 (B3 g p n cap i:Nat) (s0 s1 s2 s3 s4 s5 s6 s7 s8:Value) (x:ByteArray) (W0:World) {l:List Value} (Q:Exit→Act→World→Prop) (hQ:∀ c a d v w,Q (.panic c) (Act.put a d v) w→Q (.panic c) a w) (h3:W0.drew.rowIs B3 118 9 (row9 s0 s1 s2 s3 s4 s5 s6 s7 s8)) (hg:g < W0.drew.heap.size) (hx:W0.drew.cell? ⟨g,p+i,none⟩=some (.string x)) (hi:i < n) (HK:∀ W,Below W0.drew.heap.size W0.drew W→Calls Try.prog 96 #[.agg #[s0,s1,s2,s3,s4,s5,s6,s7,s8],.string x] W fun e w'=>(∃ b:Bool,e=.returned (.bool b))∧Below W.heap.size W w')
 (hl:lookL (kp_me7 (fun i=>l.getD i undef)++[(3,.pointer (some ⟨B3,0,none⟩)),(7,.slice (some ⟨g,p,none⟩) n cap),(9,.int .i64 (i:Nat))]) l=(72,((kp_me7 (fun i=>l.getD i undef)++[(3,.pointer (some ⟨B3,0,none⟩)),(7,.slice (some ⟨g,p,none⟩) n cap),(9,.int .i64 (i:Nat))]):List (Nat × Value)).map (·.2)))
 (hfr:∀ (u:Nat→Value) (b:Bool),frL u 72 (kp_me7 (fun i=>l.getD i undef)++[(3,.pointer (some ⟨B3,0,none⟩)),(7,.slice (some ⟨g,p,none⟩) n cap),(9,.int .i64 (i:Nat)),(33,.bool b)])=(l.take 28++(u 28::(u 29::(u 30::(u 31::(u 32::(.bool b::l.drop 34))))))))
 (hend:∀ (u:Nat→Value) (b:Bool) (W:World),Below W0.drew.heap.size W0.drew W→True→Q .normal ⟨((l.take 28++(u 28::(u 29::(u 30::(u 31::(u 32::(.bool b::l.drop 34)))))))).toArray,[]⟩ W):(Code.region 7 me7Ops true).wp Try.prog Q ⟨l.toArray,[]⟩ W0 :=
 me7z (fun i=>l.getD i undef) (fun u b=>(l.take 28++(u 28::(u 29::(u 30::(u 31::(u 32::(.bool b::l.drop 34)))))))) B3 g p n cap i s0 s1 s2 s3 s4 s5 s6 s7 s8 x W0 Q hQ h3 hg hx hi HK hl hfr hend
noncomputable def me13Ops:Array Oper:=fops Try.f89 13
theorem me13_neat:Region.noSelect me13Ops=true∧neat me13Ops=true:=⟨by kernel_rfl,by kernel_rfl⟩
theorem me13 (B2 B3:Nat) (c:C3) (s0 s1 s2 s3 s4 s5 s6 s7 s8:Value) (vo vl:Value) (dk:Dk) (W0:World) {l:List Value} (Q:Exit→Act→World→Prop) (hQ:∀ c a d v w,Q (.panic c) (Act.put a d v) w→Q (.panic c) a w) (h2:W0.drew.rowIs B2 27 3 (row3 c.c0 c.c1 c.c2)) (h3:W0.drew.rowIs B3 118 9 (row9 s0 s1 s2 s3 s4 s5 s6 s7 s8)) (HK:∀ W,Below W0.drew.heap.size W0.drew W→Calls Try.prog 28 #[.agg #[c.c0,c.c1,c.c2],vl] W fun e w'=>∃ c':C3,e=.returned (.agg #[c'.c0,c'.c1,c'.c2])∧DkAt (New W w') w' dk c'∧Below W.heap.size W w') (HC:∀ W (c':C3),Below W0.drew.heap.size W0.drew W→DkAt (New W0.drew W) W dk c'→Calls Try.prog 90 #[.agg #[c'.c0,c'.c1,c'.c2],.agg #[s0,s1,s2,s3,s4,s5,s6,s7,s8]] W fun e w'=>WrE9 7 W w' e)
 (hl:lookL [(2,.pointer (some ⟨B2,0,none⟩)),(3,.pointer (some ⟨B3,0,none⟩)),(6,vo),(8,vl)] l=(72,([(2,.pointer (some ⟨B2,0,none⟩)),(3,.pointer (some ⟨B3,0,none⟩)),(6,vo),(8,vl)]:List (Nat × Value)).map (·.2)))
 (hend:∀ (u:Nat→Value) (W:World) (ws:List Wr) (v:Value) (code:Int),Below W0.drew.heap.size W0.drew W→WsAt (fun b=>b < W.heap.size) W v ws→ws.length≤7→(∀ x,x∈ws→x.x.size≤1000∧x.y.size≤1000000)→Q .normal ⟨(frL u 72 [(2,.pointer (some ⟨B2,0,none⟩)),(3,.pointer (some ⟨B3,0,none⟩)),(6,vo),(8,vl),(10,v),(11,.int .i64 code)]).toArray,[]⟩ W):(Code.region 13 me13Ops true).wp Try.prog Q ⟨l.toArray,[]⟩ W0:=by
 obtain ⟨v0,rfl⟩:=look_fr hl
 have hq:NtQ me13Ops Q:=⟨me13_neat,hQ⟩
 refine T_start (S:=fun W=>Below W0.drew.heap.size W0.drew W) (by kernel_rfl) (Below.refl _ _) ?_
 clear hl hQ
 generalize W0.drew=V at h2 h3 HK HC hend ⊢
 refine T_a hq [0,1,3] (fun w h=>.cons (ldDk (h2.of_block (h.block _ h2.lt))) (.cons (ldState (h3.of_block (h.block _ h3.lt))) (Lds.nil))) (by kernel_rfl) ?_
 refine T_fr 10 72 [2,4,5,6,7,8,9] [(2,.pointer (some ⟨B2,0,none⟩)),(3,.pointer (some ⟨B3,0,none⟩)),(6,vo),(8,vl),(58,.agg #[c.c0,c.c1,c.c2]),(59,vl),(61,.agg #[s0,s1,s2,s3,s4,s5,s6,s7,s8])] (by kernel_rfl) fun u=>?_
 refine T_one 2 (by kernel_rfl) fun _=>O_go (HK V (Below.refl _ _)) (by kernel_rfl) ?_
 rintro e w1 ⟨c',rfl,hd1,hb1⟩
 refine ⟨_,rfl,hb1,?_⟩
 refine T_fr 10 72 [4,5,6,7,8,9] [(2,.pointer (some ⟨B2,0,none⟩)),(3,.pointer (some ⟨B3,0,none⟩)),(6,vo),(8,vl),(58,.agg #[c.c0,c.c1,c.c2]),(59,vl),(60,.agg #[c'.c0,c'.c1,c'.c2]),(61,.agg #[s0,s1,s2,s3,s4,s5,s6,s7,s8])] (by kernel_rfl) fun u=>?_
 refine T_one 4 (by kernel_rfl) fun _=>O_go (HC w1 c' hb1 hd1) (by kernel_rfl) ?_
 rintro e w2 ⟨ws,v,code,rfl,hws,hwl,hwo,hb2⟩
 refine ⟨_,rfl,hb1.trans (hb2.mono hb1.size),?_⟩
 refine T_z hq [5,6,7,8,9] (by kernel_rfl) ?_
 exact T_end 72 [(2,.pointer (some ⟨B2,0,none⟩)),(3,.pointer (some ⟨B3,0,none⟩)),(6,vo),(8,vl),(10,v),(11,.int .i64 code)] (by kernel_rfl) (by kernel_rfl) fun hS u=>hend u w2 ws v code hS (hws.carry (fun _ _=>rfl) (fun b hb=>hb.2)) hwl hwo
theorem append_nm (W:World) {ops:Array Oper} {rest:List Oper} {o:Oper} {a:Act} {Q:Exit→Act→World→Prop} (hg:o.guard=none) (s x:Operand) (hop:o.op=Op.call { callee:=Callee.builtin Builtin.append,args:=#[s,x],argTypes:=#[24,24] })
 (base:Nat) (a0:Option Addr) (c0 n:Nat) (ls:List ByteArray) (hs:a.eval s=.slice a0 n c0) (hown:Hid (W.ownsRow base 9 1 (.slice a0 n c0) n (ls.map Value.string))) (g:Nat) (nm:ByteArray) (hx:a.eval x=.slice (some ⟨g,0,none⟩) 1 1) (hc:Hid (Lies W g [.string nm])) (hl:n≤2000) (hN:base≤W.heap.size)
 (hK:∀ a' c' W',Hid (W'.ownsRow base 9 1 (.slice a' (n+1) c') (n+1) ((ls++[nm]).map Value.string))→Hid (W.grownBy W' (Value.slice a0 n c0).ownBlock)→Hid ((Value.slice a' (n+1) c').ownBlock=(Value.slice a0 n c0).ownBlock∨∃ g,(Value.slice a' (n+1) c').ownBlock=some g∧W.heap.size≤g)→wpList Try.prog ops Q rest (a.put o.dst (.slice a' (n+1) c')) W') :
 wpList Try.prog ops Q (o::rest) a W:=by
 obtain ⟨i,h2,h3,h4,h5⟩:=infoStrD
 refine append_list9 W hg s x 24 hop base 9 i (.string ByteArray.empty) 1 16 Try.underlying24 h2 h3 h4 h5 rfl (by decide) a0 n c0 (ls.map Value.string) hs hown (some ⟨g,0,none⟩) 1 1 [.string nm] hx rfl (fun _=>⟨_,rfl,hc.out.2⟩) (fun u hu=>by rw [List.mem_singleton.1 hu];rfl) (by unfold maxLen;omega) (by omega) hN (n+1) rfl ?_
 intro a' c' W' h6 h7 h9
 exact hK a' c' W' (by rw [List.map_append];exact h6) h7 h9
structure MeS (base:Nat) (V W:World) (d:Dk) (vo:Value) (ws:List Wr) (vl:Value) (k:Nat) (ls:List ByteArray) (na:Value):Prop where
 wo:WoS base W vo ws
 lo:W.ownsRow base 9 1 vl k (ls.map Value.string)
 nm:StrsAt (fun b=>b < W.heap.size∧vo.ownBlock≠some b∧vl.ownBlock≠some b) W na (namesD d)
 ap:∀ b,vo.ownBlock=some b→vl.ownBlock≠some b
 sub:∀ x,x∈ls→x∈namesD d
 below:Below base V W
theorem MeS.on {base:Nat} {V W W':World} {d:Dk} {vo vl na:Value} {ws:List Wr} {k:Nat} {ls:List ByteArray} (h:MeS base V W d vo ws vl k ls na) (hB:base≤W.heap.size) (hb:Below W.heap.size W W'):MeS base V W' d vo ws vl k ls na :=
 ⟨h.wo.on hb,own_on h.lo hb,h.nm.carry (fun b hb'=>hb.block b hb'.1) (fun _ hb'=>⟨Nat.lt_of_lt_of_le hb'.1 hb.size,hb'.2⟩),h.ap,h.sub,h.below.trans (hb.mono hB)⟩
theorem MeS.addw {base:Nat} {V W W':World} {d:Dk} {vo vo' vl na:Value} {ws ws':List Wr} {k:Nat} {ls:List ByteArray} (h:MeS base V W d vo ws vl k ls na) (hB:base≤W.heap.size) (hw:WoS base W' vo' ws') (hg:W.grownBy W' vo.ownBlock) (hn:vo'.ownBlock=vo.ownBlock∨∃ g,vo'.ownBlock=some g∧W.heap.size≤g):MeS base V W' d vo' ws' vl k ls na:=by
 have hl:∀ g,vl.ownBlock=some g→W'.heap[g]? = W.heap[g]? := fun g hg'=>hg.block g (own_ge h.lo hg').2 (fun e=>h.ap g e.symm hg')
 have hne:∀ b,b < W.heap.size→vo.ownBlock≠some b→vo'.ownBlock≠some b:=fun b hb h1=>by
  rcases hn with e | ⟨g,e,hgl⟩
  · rw [e];exact h1
  · rw [e];intro e2;have:=Option.some.inj e2;omega
 refine ⟨hw,ownsRow_keepR h.lo hl,h.nm.carry (fun b hb=>hg.block b hb.1 (fun e=>hb.2.1 e.symm)) (fun b hb=>⟨Nat.lt_of_lt_of_le hb.1 hg.size,hne b hb.1 hb.2.1,hb.2.2⟩),fun b hb hb2=>?_,h.sub,h.below.grown hg hB (fun b e=>(own_ge h.wo.own e).1)⟩
 exact hne b (own_ge h.lo hb2).2 (fun e=>h.ap b e hb2) hb
theorem MeS.addl {base:Nat} {V W W':World} {d:Dk} {vo vl vl' na:Value} {ws:List Wr} {k k':Nat} {ls:List ByteArray} {x:ByteArray} (h:MeS base V W d vo ws vl k ls na) (hB:base≤W.heap.size) (hx:x∈namesD d) (hw:W'.ownsRow base 9 1 vl' k' ((ls++[x]).map Value.string)) (hg:W.grownBy W' vl.ownBlock) (hn:vl'.ownBlock=vl.ownBlock∨∃ g,vl'.ownBlock=some g∧W.heap.size≤g):MeS base V W' d vo ws vl' k' (ls++[x]) na:=by
 have ho:∀ g,vo.ownBlock=some g→W'.heap[g]? = W.heap[g]? := fun g hg'=>hg.block g (own_ge h.wo.own hg').2 (fun e=>h.ap g hg' e.symm)
 have hne:∀ b,b < W.heap.size→vl.ownBlock≠some b→vl'.ownBlock≠some b:=fun b hb h1=>by
  rcases hn with e | ⟨g,e,hgl⟩
  · rw [e];exact h1
  · rw [e];intro e2;have:=Option.some.inj e2;omega
 refine ⟨⟨ownsRow_keepR h.wo.own ho,h.wo.ok⟩,hw,h.nm.carry (fun b hb=>hg.block b hb.1 (fun e=>hb.2.2 e.symm)) (fun b hb=>⟨Nat.lt_of_lt_of_le hb.1 hg.size,hb.2.1,hne b hb.1 hb.2.2⟩),fun b hb=>hne b (own_ge h.wo.own hb).2 (h.ap b hb),fun y hy=>?_,h.below.grown hg hB (fun b e=>(own_ge h.lo e).1)⟩
 rcases List.mem_append.1 hy with h1 | h1
 · exact h.sub y h1
 · rw [List.mem_singleton.1 h1];exact hx
theorem left_at {base:Nat} {W:World} {vl:Value} {k:Nat} {ls:List ByteArray} (h:W.ownsRow base 9 1 vl k (ls.map Value.string)) (hk:ls.length=k) (hz:∀ x,x∈ls→x.size≤8):StrsAt (fun b=>b < W.heap.size) W vl ls:=by
 have:=strsAt_own (w:=W) (by rw [hk];exact h) (fun x hx=>by have:=hz x hx;omega)
 exact this.carry (fun _ _=>rfl) (fun b hb=>hb.2)
theorem keep_names {d:Dk} {ls:List ByteArray} (h:∀ x,x∈ls→x∈namesD d):∀ f,f∈(keepD d ls).files→f.name.size≤1048576:=fun f hf=>by
 obtain ⟨x,hx,rfl⟩:=List.mem_map.1 hf
 obtain ⟨i,hi,hok,e,e2⟩:=names_file (h x hx)
 unfold fileD
 rw [e2]
 simp only [Int.toNat_natCast]
 rw [List.getD_eq_getElem?_getD,List.getElem?_eq_getElem hi]
 show d.files[i].name.size≤_
 rw [e]
 exact Nat.le_trans (names_small (h x hx)) (by decide)
theorem l44Mend_any (d:Dk) (c:C3) (code num size next:Int) (torn:Bool) (l:Pl) (vP:Value) (a8:Option Addr) (n8 p8:Nat) (P Q:Nat→Prop) (w:World) (hP:∀ b,P b→b < w.heap.size) (hQ:∀ b,Q b→b < w.heap.size) (hd:DkAt P w d c) (hs:StOk Q w num l vP) :
 Calls Try.prog 89 #[.agg #[c.c0,c.c1,c.c2],.agg #[.int .i64 code,.int .i64 num,vP,.int .i64 l.op,.int .i64 l.fi,.int .i64 size,.bool torn,.int .i64 next,.slice a8 n8 p8]] w fun e w'=>WrE9 1020 w w' e:=by
 have HNM:=xH (fun W (hW:Below w.heap.size w W)=>specDiskNames_any d P c W (fun b hb=>Nat.lt_of_lt_of_le (hP b hb) hW.size) (hd.carry (fun b hb=>hW.block b (hP b hb)) (fun _ h=>h)))
 have HKE:=xH (fun ns v W (hW:Below w.heap.size w W) (hv:StrsAt (fun b=>b < W.heap.size) W v ns) (hl:ns.length≤1000) (hf:∀ x,x∈ns→x∈namesD d)=>l41Keep_any d ns (fun b=>b < W.heap.size) c v W (fun _ h=>h) (hd.carry (fun b hb=>hW.block b (hP b hb)) (fun b hb=>Nat.lt_of_lt_of_le (hP b hb) hW.size)) hv hl (fun x hx=>by obtain ⟨i,hi,-,-,e⟩:=names_file (hf x hx);exact ⟨i,hi,e⟩))
 obtain ⟨c0,c1,c2⟩:=c
 obtain ⟨a0,p0,g0,-,-⟩:=hd.fs.open
 obtain ⟨a1,p1,g1,-,-⟩:=id hd.ns
 obtain ⟨a2,p2,g2,-,-⟩:=hd.ms.open
 simp only at g0 g1 g2
 subst g0 g1 g2
 obtain ⟨va,vc,rfl,-,-⟩:=hs.pts.open
 have hb0:Below w.heap.size w ((w.alloc (.cells #[.slice a0 d.files.length p0,.slice a1 d.names.length p1,.slice a2 d.moves.length p2] 27)).alloc (.cells #[.int .i64 code,.int .i64 num,.slice va l.parts.length vc,.int .i64 l.op,.int .i64 l.fi,.int .i64 size,.bool torn,.int .i64 next,.slice a8 n8 p8] 118)):=((Below.refl _ _).alloc (Nat.le_refl _) _).alloc (by simp) _
 have hr1:=(row3_alloc w (.slice a0 d.files.length p0) (.slice a1 d.names.length p1) (.slice a2 d.moves.length p2) 27).alloc (.cells #[.int .i64 code,.int .i64 num,.slice va l.parts.length vc,.int .i64 l.op,.int .i64 l.fi,.int .i64 size,.bool torn,.int .i64 next,.slice a8 n8 p8] 118)
 have hr2:=row9_alloc (w.alloc (.cells #[.slice a0 d.files.length p0,.slice a1 d.names.length p1,.slice a2 d.moves.length p2] 27)) (.int .i64 code) (.int .i64 num) (.slice va l.parts.length vc) (.int .i64 l.op) (.int .i64 l.fi) (.int .i64 size) (.bool torn) (.int .i64 next) (.slice a8 n8 p8) 118
 rw [World.size_alloc] at hr2
 have hz0:((w.alloc (.cells #[.slice a0 d.files.length p0,.slice a1 d.names.length p1,.slice a2 d.moves.length p2] 27)).alloc (.cells #[.int .i64 code,.int .i64 num,.slice va l.parts.length vc,.int .i64 l.op,.int .i64 l.fi,.int .i64 size,.bool torn,.int .i64 next,.slice a8 n8 p8] 118)).heap.size=w.heap.size+2:=by simp
 have HB0:=xH hb0;have HR1:=xH hr1;have HR2:=xH hr2;have HZ0:=xH hz0
 have hop:=hs.op
 have HST:=xH hs;have HQ:=xH hQ
 have HOU:=xH (fun (x:ByteArray) W (hW:Below w.heap.size w W)=>l44Ours_any code num size next torn l (.slice va l.parts.length vc) a8 n8 p8 x Q W (fun b hb=>Nat.lt_of_lt_of_le (hQ b hb) hW.size) (hs.carry (fun b hb=>hW.block b (hQ b hb)) (fun _ h=>h)))
 have HCL:=xH (fun (dk:Dk) (c':C3) (PP:Nat→Prop) W (hW:Below w.heap.size w W) (hPP:∀ b,PP b→b < W.heap.size) (hdk:DkAt PP W dk c') (hnm:∀ f,f∈dk.files→f.name.size≤1048576)=>l44Close_any dk c' code num size next torn l (.slice va l.parts.length vc) a8 n8 p8 PP Q W hPP (fun b hb=>Nat.lt_of_lt_of_le (hQ b hb) hW.size) hdk hnm (hs.carry (fun b hb=>hW.block b (hQ b hb)) (fun _ h=>h)))
 obtain ⟨D1,hD1⟩:∃ D:ByteArray,⟨(Lib.itoa l.op).toArray⟩=D:=⟨_,rfl⟩
 have HD1:=xH (fun W=>l6Dec_any l.op W (by omega) (by omega))
 have hsD1:D1.size≤100:=by rw [← hD1];exact decB_le (by omega) (by omega)
 rw [hD1] at HD1
 obtain ⟨E1,hE1⟩:∃ E:ByteArray,⟨#[115]⟩++D1=E:=⟨_,rfl⟩
 have haE1:∀ T,binOp .add T (.string ⟨#[115]⟩) (.string D1)=pure (.string E1):=fun T=>by
  rw [← hE1];exact addP T _ _ (by have e:(⟨#[115]⟩:ByteArray).size=1:=rfl;omega)
 have hsE1:E1.size≤1000:=by
  have e1:(⟨#[115]⟩:ByteArray).size=1:=rfl
  rw [← hE1,ByteArray.size_append];omega
 clear hD1 hE1 hsD1
 have hsE:=hsE1
 clear hP hQ hd hb0 hr1 hr2 hz0 hs hop
 go_enter Try.func89,Try.ntmps89
 go_wp2_with fail
 generalize ((w.alloc (.cells #[.slice a0 d.files.length p0,.slice a1 d.names.length p1,.slice a2 d.moves.length p2] 27)).alloc (.cells #[.int .i64 code,.int .i64 num,.slice va l.parts.length vc,.int .i64 l.op,.int .i64 l.fi,.int .i64 size,.bool torn,.int .i64 next,.slice a8 n8 p8] 118))=W0 at HB0 HR1 HR2 HZ0 ⊢
 refine (HD1.out W0).mono ?_
 rintro e w1 ⟨rfl,hb1⟩
 have HB1:=xH (HB0.out.trans (hb1.mono HB0.out.size))
 have hr1:=HR1.out.of_block (hb1.block _ HR1.out.lt)
 obtain ⟨k0,k1,k2⟩:=cs3 hr1 (by omega)
 have kl:=hr1.lt
 simp only [row3] at k0 k1 k2
 have HV1:=xH hb1
 clear hb1 hr1 HD1
 go_wp2_with fail
 have HBW:=xH (HB1.out.alloc HB1.out.size (.cells #[.int .i64 3,.string E1,.string ⟨#[]⟩] 29))
 have HVW:=xH (HV1.out.alloc HV1.out.size (.cells #[.int .i64 3,.string E1,.string ⟨#[]⟩] 29))
 have HW0:Hid (WoS W0.heap.size (w1.alloc (.cells #[.int .i64 3,.string E1,.string ⟨#[]⟩] 29)) (.slice (some ⟨w1.heap.size,0,none⟩) 1 1) [⟨3,E1,⟨#[]⟩⟩]):=⟨own_lit w1 W0.heap.size 29 3 1 [.int .i64 3,.string E1,.string ⟨#[]⟩] HV1.out.size rfl (by decide),fun x hx=>by rw [List.mem_singleton.1 hx];exact ⟨hsE,show (⟨#[]⟩:ByteArray).size≤1000000 by decide⟩⟩
 have hza:w1.heap.size < (w1.alloc (.cells #[.int .i64 3,.string E1,.string ⟨#[]⟩] 29)).heap.size:=by rw [World.size_alloc];exact Nat.lt_succ_self _
 have hv1:=HV1.out.size
 clear k0 k1 k2 kl HB1 HV1
 generalize w1.alloc (.cells #[.int .i64 3,.string E1,.string ⟨#[]⟩] 29)=W1 at HBW HVW HW0 hza ⊢
 refine (HNM.out W1 HBW.out).mono ?_
 rintro e w2 ⟨nv,rfl,hn⟩
 obtain ⟨na,ncap,rfl,-,-⟩:=hn.strs
 have HN0:=xH hn.strs
 have HBN:=xH hn.below
 have HNL:=xH (namesD_len8 d)
 clear hn HNM
 go_wp2_with fail
 have hp0:MeS W0.heap.size W0 (w2.alloc (.cells #[] 9)) d (.slice (some ⟨w1.heap.size,0,none⟩) 1 1) [⟨3,E1,⟨#[]⟩⟩] (.slice (some ⟨w2.heap.size,0,none⟩) 0 0) 0 [] (.slice na (namesD d).length ncap):=by
  have hal:=(Below.refl w2.heap.size w2).alloc (Nat.le_refl _) (.cells #[] 9)
  have hs12:=HBN.out.size
  have hvw:=HVW.out.size
  refine ⟨(HW0.out.on HBN.out).on hal,own_new w2 _ 9 1 (by omega),HN0.out.carry (fun b hb=>hal.block b hb.2) (fun b hb=>⟨Nat.lt_of_lt_of_le hb.2 hal.size,fun e=>?_,fun e=>?_⟩),fun b hb hb2=>?_,fun x hx=>(by cases hx),(HVW.out.trans (HBN.out.mono hvw)).alloc (by omega) _⟩
  · have h1:w1.heap.size=b:=Option.some.inj e
    have h2:W1.heap.size≤b:=hb.1
    omega
  · have h1:w2.heap.size=b:=Option.some.inj e
    have h2:b < w2.heap.size:=hb.2
    omega
  · have h1:w1.heap.size=b:=Option.some.inj hb
    have h2:w2.heap.size=b:=Option.some.inj hb2
    omega
 have HP0:=xH hp0
 clear hp0 HN0 HBN HVW HBW HW0 hza hv1
 generalize w2.alloc (.cells #[] 9)=W2 at HP0 ⊢
 go_loopw [6,8,9] (fun vo vl vi wr=>∃ (i m k:Nat) (b0:Option Addr) (d0:Nat) (l0:Option Addr) (f0:Nat) (ws:List Wr) (ls:List ByteArray),i≤(namesD d).length∧vi=.int .i64 i∧vo=.slice b0 m d0∧vl=.slice l0 k f0∧ws.length=m∧m≤i+1∧ls.length=k∧k≤i∧Hid (MeS W0.heap.size W0 wr d (.slice b0 m d0) ws (.slice l0 k f0) k ls (.slice na (namesD d).length ncap))) (fun _ _ vi _=>(namesD d).length - (intOf vi).toNat)
 case atStart=>exact ⟨0,1,0,_,_,_,_,[⟨3,E1,⟨#[]⟩⟩],[],by omega,rfl,rfl,rfl,rfl,by omega,rfl,by omega,HP0.out⟩
 case round =>
  clear HP0
  obtain ⟨i,m,k,b0,d0,l0,f0,ws,ls,hi,rfl,rfl,rfl,hwl,hm,hll,hk,HM⟩:=hrel
  have hnl:=HNL.out
  by_cases hlt:i < (namesD d).length
  · obtain ⟨a9,c9,e9,-,h9⟩:=HM.out.nm
    simp only [Value.slice.injEq] at e9
    obtain ⟨rfl,-,rfl⟩:=e9
    obtain ⟨nb,no,rfl,hnb,hx,-⟩:=h9 i hlt
    have HMEM:=xH (List.getElem_mem hlt)
    have hsm:=names_small HMEM.out
    have HOUx:=xH (HOU.out (namesD d)[i])
    clear h9
    generalize (namesD d)[i]=x at HMEM hx hsm HOUx
    have hd1:decide ((i:Int) < ((namesD d).length:Int))=true:=decide_eq_true (by omega)
    have hi0:(0:Int)≤(i:Int):=by omega
    have hil:(i:Int) < ((namesD d).length:Int):=by omega
    have HRW:=xH (HR2.out.of_block (HM.out.below.block _ HR2.out.lt))
    have HBW:=xH (HB0.out.trans (HM.out.below.mono HB0.out.size))
    have hnb1:=hnb.1
    clear hnb
    go_wp2_with fail
    go_upto_region 7 with fail
    refine wp_swap (c':=Code.region 7 me7Ops true) (by kernel_rfl) ?_
    refine wp_region_noPanic ?_
    refine me7 (w.heap.size+1) nb no (namesD d).length ncap i (.int .i64 code) (.int .i64 num) (.slice va l.parts.length vc) (.int .i64 l.op) (.int .i64 l.fi) (.int .i64 size) (.bool torn) (.int .i64 next) (.slice a8 n8 p8) x wr _ (fun _ _ _ _ _ h=>h) (HRW.out.of_block rfl) hnb1 hx hlt (fun W hW=>HOUx.out W (HBW.out.trans (((Below.refl _ _).drew.trans (hW:Below wr.drew.heap.size wr.drew W)).mono HBW.out.size))) (by kernel_rfl) (fun u b=>by kernel_rfl) ?_
    intro u b W3 hb3 _
    refine NoPanic.normal ?_
    simp only [List.take_succ_cons,List.take_zero,List.drop_succ_cons,List.drop_zero,List.cons_append,List.nil_append]
    have hb03:Below wr.heap.size wr W3:=(Below.refl _ _).drew.trans hb3
    have HM3:=xH (HM.out.on HM.out.below.size hb03)
    have hx3:W3.cell? ⟨nb,no+i,none⟩=some (.string x):=(hb03.cell (show (⟨nb,no+i,none⟩:Addr).block < wr.heap.size from hnb1)).trans hx
    have hnb3:nb < W3.heap.size:=Nat.lt_of_lt_of_le hnb1 hb03.size
    clear hb3 hb03 HM hx HRW HBW HOUx hnb1
    cases b with
    | true =>
      have hal:=(Below.refl W3.heap.size W3).alloc (Nat.le_refl _) (.cells #[.string x] 9)
      have hB3:W0.heap.size≤W3.heap.size:=HM3.out.below.size
      have HMA:=xH (HM3.out.on hB3 hal)
      have HLO:=xH HMA.out.lo
      have HLI:=xH (lies_alloc W3 [.string x] 9)
      have hbz:=HMA.out.below.size
      clear hal HM3
      go_wp2_with (at_builtin;refine append_nm _ rfl _ _ rfl W0.heap.size l0 f0 k ls rfl HLO W3.heap.size x rfl HLI (by omega) hbz ?_;intro fa fc W5 ho5 hg5 hn5)
      have HM5:=xH (HMA.out.addl hbz HMEM.out ho5.out hg5.out hn5.out)
      clear ho5 hg5 hn5 HMA HLO HLI hx3
      go_roundw
      case rel=>exact ⟨i+1,m,k+1,b0,d0,fa,fc,ws,ls++[x],hlt,by go_num,rfl,rfl,hwl,by omega,by rw [List.length_append,hll];rfl,by omega,HM5⟩
      case measure=>simp [intOf];omega
    | false =>
      have HOKw:Hid (∀ y,y∈([⟨4,x,⟨#[]⟩⟩]:List Wr)→y.x.size≤1000∧y.y.size≤1000000):=fun y hy=>by
       rw [List.mem_singleton.1 hy]
       exact ⟨Nat.le_trans hsm (by decide),show (⟨#[]⟩:ByteArray).size≤1000000 by decide⟩
      have halw:=(Below.refl W3.heap.size W3).alloc (Nat.le_refl _) (.cells #[.int .i64 4,.string x,.string ⟨#[]⟩] 29)
      have hBw:W0.heap.size≤W3.heap.size:=HM3.out.below.size
      have HMAw:=xH (HM3.out.on hBw halw)
      have HWAw:=xH HMAw.out.wo
      have HLSw:Hid (0 < 1→∃ ad,some (⟨W3.heap.size,0,none⟩:Addr)=some ad∧∀ j u,(([⟨4,x,⟨#[]⟩⟩]:List Wr).map Wr.cs).flatten[j]? = some u→(W3.alloc (.cells #[.int .i64 4,.string x,.string ⟨#[]⟩] 29)).cell? (ad.add j)=some u):=lies_src (us:=[⟨4,x,⟨#[]⟩⟩]) (lies_alloc W3 [.int .i64 4,.string x,.string ⟨#[]⟩] 29)
      have hbzw:=HMAw.out.below.size
      clear halw
      go_wp2_with (at_builtin;refine append_wr _ rfl _ _ rfl W0.heap.size b0 d0 ws m hwl rfl HWAw (some ⟨W3.heap.size,0,none⟩) 1 1 [⟨4,x,⟨#[]⟩⟩] rfl rfl HOKw HLSw (by omega) (by decide) hbzw (m+1) rfl ?_;intro fa fc W5 ho5 hg5 hn5)
      have HM5:=xH (HMAw.out.addw hbzw ho5.out hg5.out hn5.out)
      clear ho5 hg5 hn5 HMAw HWAw HLSw HOKw hx3 HM3
      go_roundw
      case rel=>exact ⟨i+1,m+1,k,fa,fc,l0,f0,ws++[⟨4,x,⟨#[]⟩⟩],ls,hlt,by go_num,rfl,rfl,by rw [List.length_append,hwl];rfl,by omega,hll,by omega,HM5⟩
      case measure=>simp [intOf];omega
  · obtain rfl:i=(namesD d).length:=by omega
    have hd1:decide (((namesD d).length:Int) < ((namesD d).length:Int))=false:=decide_eq_false (by omega)
    have HOKe:Hid (∀ y,y∈([⟨5,⟨#[]⟩,⟨#[]⟩⟩]:List Wr)→y.x.size≤1000∧y.y.size≤1000000):=fun y hy=>by
     rw [List.mem_singleton.1 hy]
     exact ⟨show (⟨#[]⟩:ByteArray).size≤1000 by decide,show (⟨#[]⟩:ByteArray).size≤1000000 by decide⟩
    have hale:=(Below.refl wr.heap.size wr).alloc (Nat.le_refl _) (.cells #[.int .i64 5,.string ⟨#[]⟩,.string ⟨#[]⟩] 29)
    have hBe:W0.heap.size≤wr.heap.size:=HM.out.below.size
    have HMAe:=xH (HM.out.on hBe hale)
    have HWAe:=xH HMAe.out.wo
    have HLSe:Hid (0 < 1→∃ ad,some (⟨wr.heap.size,0,none⟩:Addr)=some ad∧∀ j u,(([⟨5,⟨#[]⟩,⟨#[]⟩⟩]:List Wr).map Wr.cs).flatten[j]? = some u→(wr.alloc (.cells #[.int .i64 5,.string ⟨#[]⟩,.string ⟨#[]⟩] 29)).cell? (ad.add j)=some u):=lies_src (us:=[⟨5,⟨#[]⟩,⟨#[]⟩⟩]) (lies_alloc wr [.int .i64 5,.string ⟨#[]⟩,.string ⟨#[]⟩] 29)
    have hbze:=HMAe.out.below.size
    clear hale
    have hrs:=(HR2.out.of_block (HMAe.out.below.block _ HR2.out.lt))
    go_upto_region 11 with (at_builtin;refine append_wr _ rfl _ _ rfl W0.heap.size b0 d0 ws m hwl rfl HWAe (some ⟨wr.heap.size,0,none⟩) 1 1 [⟨5,⟨#[]⟩,⟨#[]⟩⟩] rfl rfl HOKe HLSe (by omega) (by decide) hbze (m+1) rfl ?_;intro fa fc W5 ho5 hg5 hn5)
    have HM5:=xH (HMAe.out.addw hbze ho5.out hg5.out hn5.out)
    clear ho5 hg5 hn5 HMAe HWAe HLSe HOKe HM hrs
    have hwl5:(ws++([⟨5,⟨#[]⟩,⟨#[]⟩⟩]:List Wr)).length=m+1:=by rw [List.length_append,hwl];rfl
    generalize ws++([⟨5,⟨#[]⟩,⟨#[]⟩⟩]:List Wr)=ws5 at HM5 hwl5
    have HRW:=xH (HR2.out.of_block (HM5.out.below.block _ HR2.out.lt))
    have HRD:=xH (HR1.out.of_block (HM5.out.below.block _ HR1.out.lt))
    have HBW:=xH (HB0.out.trans (HM5.out.below.mono HB0.out.size))
    obtain ⟨z0,z1,z2,z3,z4,z5,z6,z7,z8⟩:=cell9 HRW.out
    have hwsA:Hid (WsAt (New w W5) W5 (.slice fa (m+1) fc) ws5):=HM5.out.wo.at.carry (fun _ _=>rfl) (fun b hb=>⟨Nat.le_trans HB0.out.size hb.1,hb.2⟩)
    cases torn with
    | false =>
      have HEND:Hid (WrE9 1020 w W5 (.returned (.tuple #[.slice fa (m+1) fc,.int .i64 0]))):=⟨_,_,0,rfl,hwsA.out,by omega,HM5.out.wo.ok,HBW.out⟩
      clear HOU HCL HKE
      go_wp2_with fail
      refine bodyPost_ret (v:=.tuple #[.slice fa (m+1) fc,.int .i64 0]) (by simp [results,Try.results89,go_sem]) rfl ?_
      exact xU HEND
    | true =>
      go_upto_region 13 with fail
      refine wp_swap (c':=Code.region 13 me13Ops true) (by kernel_rfl) ?_
      refine wp_region_noPanic ?_
      have hlz:∀ y,y∈ls→y.size≤8:=fun y hy=>names_small (HM5.out.sub y hy)
      refine me13 w.heap.size (w.heap.size+1) ⟨.slice a0 d.files.length p0,.slice a1 d.names.length p1,.slice a2 d.moves.length p2⟩ (.int .i64 code) (.int .i64 num) (.slice va l.parts.length vc) (.int .i64 l.op) (.int .i64 l.fi) (.int .i64 size) (.bool true) (.int .i64 next) (.slice a8 n8 p8) (.slice fa (m+1) fc) (.slice l0 k f0) (keepD d ls) W5 _ (fun _ _ _ _ _ h=>h) (HRD.out.of_block rfl) (HRW.out.of_block rfl) (fun W hW=>?_) (fun W c' hW hdk=>?_) (by kernel_rfl) ?_
      · have hb:=(Below.refl W5.heap.size W5).drew.trans (hW:Below W5.drew.heap.size W5.drew W)
        exact HKE.out ls (.slice l0 k f0) W (HBW.out.trans (hb.mono HBW.out.size)) (left_at (own_on HM5.out.lo hb) hll hlz) (by omega) HM5.out.sub
      · have hb:=(Below.refl W5.heap.size W5).drew.trans (hW:Below W5.drew.heap.size W5.drew W)
        exact HCL.out (keepD d ls) c' _ W (HBW.out.trans (hb.mono HBW.out.size)) (fun b hb=>hb.2) hdk (keep_names HM5.out.sub)
      intro u W6 us uv ucode hb6 hus hul huo
      refine NoPanic.normal ?_
      simp only [frL_eq,frG,List.lookup,Nat.reduceBEq,Nat.reduceAdd,Option.getD_some,Option.getD_none]
      have hb56:Below W5.heap.size W5 W6:=(Below.refl _ _).drew.trans hb6
      have HM6:=xH (HM5.out.on HM5.out.below.size hb56)
      have HB6:=xH (HBW.out.trans (hb56.mono HBW.out.size))
      obtain ⟨ua,ucap,rfl,-,-⟩:=hus.open
      have HUS:=xH hus
      have HUO:=xH huo
      clear hb6 hb56 hus huo HM5 HBW HRW HRD z0 z1 z2 z3 z4 z5 z6 z7 z8 HOU HCL HKE hwsA hlz
      by_cases hcd:ucode=0
      case neg =>
       have hcd':(ucode != 0)=true:=by simp [hcd]
       have HEND:Hid (WrE9 1020 w (W6.alloc (.cells #[] 29)) (.returned (.tuple #[.slice (some ⟨W6.heap.size,0,none⟩) 0 0,.int .i64 ucode]))):=⟨[],_,ucode,rfl,ws_nil _ _,by decide,fun x hx=>(by cases hx),HB6.out.alloc HB6.out.size _⟩
       go_wp2_with fail
       refine bodyPost_ret (v:=.tuple #[.slice (some ⟨W6.heap.size,0,none⟩) 0 0,.int .i64 ucode]) (by simp [results,Try.results89,go_sem]) rfl ?_
       exact xU HEND
      subst hcd
      have HSRC:=xH (flat_src HUS.out.1 (fun r hr=>by obtain ⟨x,-,rfl⟩:=List.mem_map.1 hr;rfl))
      have HW6:=xH HM6.out.wo
      have hbz6:=HM6.out.below.size
      go_wp2_with (at_builtin;refine append_wr _ rfl _ _ rfl W0.heap.size fa fc ws5 (m+1) hwl5 rfl HW6 ua ucap us.length us rfl rfl HUO HSRC (by omega) (by omega) hbz6 (m+1+us.length) rfl ?_;intro ga gc W7 ho7 hg7 hn7)
      have hB7:=HM6.out.addw hbz6 ho7.out hg7.out hn7.out
      have HEND:Hid (WrE9 1020 w W7 (.returned (.tuple #[.slice ga (m+1+us.length) gc,.int .i64 0]))):=⟨_,_,0,rfl,hB7.wo.at.carry (fun _ _=>rfl) (fun b hb=>⟨Nat.le_trans HB0.out.size hb.1,hb.2⟩),by rw [List.length_append,hwl5];omega,hB7.wo.ok,HB0.out.trans (hB7.below.mono HB0.out.size)⟩
      refine bodyPost_ret (v:=.tuple #[.slice ga (m+1+us.length) gc,.int .i64 0]) (by simp [results,Try.results89,go_sem]) rfl ?_
      exact xU HEND

theorem conv_five (W:World) (a b c d e:Int) (ha:0≤a∧a < 256) (hb':0≤b∧b < 256) (hc:0≤c∧c < 256) (hd:0≤d∧d < 256) (he:0≤e∧e < 256) :
 Sem.run Try.prog (convert 22 9 (.slice (some ⟨W.heap.size,0,none⟩) 5 5)) (W.alloc (.cells #[.int .u8 a,.int .u8 b,.int .u8 c,.int .u8 d,.int .u8 e] 5))=.ok (.string ⟨#[hb a,hb b,hb c,hb d,hb e]⟩) (W.alloc (.cells #[.int .u8 a,.int .u8 b,.int .u8 c,.int .u8 d,.int .u8 e] 5)):=by
 have:=run_convert_bytes_back (P:=Try.prog) (W.alloc (.cells #[.int .u8 a,.int .u8 b,.int .u8 c,.int .u8 d,.int .u8 e] 5)) 22 9 5 ⟨W.heap.size,0,none⟩ 5 [hb a,hb b,hb c,hb d,hb e] Try.underlying22 Try.underlying5 Try.underlying9 (fun j hj=>by
  have hj':j < 5:=by simpa using hj
  rw [Addr.add_lit]
  rcases (show j=0∨j=1∨j=2∨j=3∨j=4 by omega) with rfl | rfl | rfl | rfl | rfl
  · simp only [List.getElem_cons_zero];rw [hb_nat ha.1 ha.2];go_simp
  · simp only [List.getElem_cons_zero,List.getElem_cons_succ];rw [hb_nat hb'.1 hb'.2];go_simp
  · simp only [List.getElem_cons_zero,List.getElem_cons_succ];rw [hb_nat hc.1 hc.2];go_simp
  · simp only [List.getElem_cons_zero,List.getElem_cons_succ];rw [hb_nat hd.1 hd.2];go_simp
  · simp only [List.getElem_cons_zero,List.getElem_cons_succ];rw [hb_nat he.1 he.2];go_simp)
 simpa using this
theorem specLogFrame_any (p:Int) (x:ByteArray) (hx:x.size≤9223372036854775807) (w:World):Calls Try.prog 91 #[.agg #[.int .i64 p,.string x]] w fun e w'=>e=.returned (.string (frB p x))∧Below w.heap.size w w':=by
 have HI:=xH (fun o=>l42RecordOk_any p x hx (w.alloc o))
 go_enter Try.func91,Try.ntmps91
 go_wp2_with fail
 refine (xU HI _).mono ?_
 rintro e w1 ⟨rfl,hb1⟩
 have hb01:=((Below.refl _ w).alloc (Nat.le_refl _) _).trans (hb1.mono (by simp))
 have k0:w1.cell? ⟨w.heap.size,0,none⟩=some (.int .i64 p):=by rw [hb1.cell (by simp)];go_simp
 have k1:w1.cell? ⟨w.heap.size,1,none⟩=some (.string x):=by rw [hb1.cell (by simp)];go_simp
 have HB:=xH hb01
 clear hb1 hb01 HI
 by_cases h:frOk p x.size=true
 · rw [h]
   have hd:=of_decide_eq_true h
   have HH:=xH h
   have p1:1≤p:=hd.1
   have p2:p≤999999:=hd.2.1
   have n2:(x.size:Int)≤2000:=by have:=hd.2.2;omega
   clear h hd
   have hcv:=conv_five w1 ((x.size:Int) / 256) (x.size % 256) (p / 65536) (p / 256 % 256) (p % 256) (by omega) (by omega) (by omega) (by omega) (by omega)
   have k1':=fun o=>(show (w1.alloc o).cell? ⟨w.heap.size,1,none⟩=some (.string x) from (((Below.refl _ w1).alloc (Nat.le_refl _) o).cell (World.block_lt_of_cell? w1 _ k1)).trans k1)
   go_wp2_with fail
   go_ret
   refine ⟨?_,(xU HB).alloc (xU HB).size _⟩
   unfold frB
   rw [if_pos (xU HH)]
   exact ret_str (by rw [show (⟨#[hb (x.size / 256),hb (x.size % 256)]⟩:ByteArray)++⟨#[hb (p / 65536),hb (p / 256 % 256),hb (p % 256)]⟩=⟨#[hb (x.size / 256),hb (x.size % 256),hb (p / 65536),hb (p / 256 % 256),hb (p % 256)]⟩ from by apply ByteArray.ext;simp])
 · have h':frOk p x.size=false:=by simpa using h
   have HH:=xH h'
   rw [h']
   clear h h'
   go_wp2_with fail
   go_ret
   exact ⟨by unfold frB;rw [xU HH];rfl,xU HB⟩

noncomputable def lo27Ops:Array Oper:=fops Try.f70 27
theorem lo27_neat:Region.noSelect lo27Ops=true∧neat lo27Ops=true:=⟨by kernel_rfl,by kernel_rfl⟩
theorem lo27 (B3 B8:Nat) (next:Int) (sa data y:ByteArray) (W0:World) {l:List Value} (Q:Exit→Act→World→Prop) (hQ:∀ c a d v w,Q (.panic c) (Act.put a d v) w→Q (.panic c) a w) (hB3:B3 < W0.drew.heap.size) (h1:W0.drew.cell? ⟨B3,1,none⟩=some (.string data)) (hB8:B8 < W0.drew.heap.size) (h7:W0.drew.cell? ⟨B8,7,none⟩=some (.int .i64 next)) (HF:∀ W,Calls Try.prog 91 #[.agg #[.int .i64 next,.string data]] W fun e w'=>e=.returned (.string y)∧Below W.heap.size W w')
 (hl:lookL [(3,.pointer (some ⟨B3,0,none⟩)),(8,.pointer (some ⟨B8,0,none⟩)),(11,.string sa)] l=(126,([(3,.pointer (some ⟨B3,0,none⟩)),(8,.pointer (some ⟨B8,0,none⟩)),(11,.string sa)]:List (Nat × Value)).map (·.2)))
 (hend:∀ (u:Nat→Value) (W:World) (g:Nat),Below W0.drew.heap.size W0.drew W→Lies W g [.int .i64 2,.string sa,.string y]→W0.drew.heap.size≤g→Q .normal ⟨(frL u 126 [(4,.slice (some ⟨g,0,none⟩) 1 1),(5,.int .i64 next),(6,.int .i64 0)]).toArray,[]⟩ W):(Code.region 27 lo27Ops true).wp Try.prog Q ⟨l.toArray,[]⟩ W0:=by
 obtain ⟨v0,rfl⟩:=look_fr hl
 have hq:NtQ lo27Ops Q:=⟨lo27_neat,hQ⟩
 refine T_start (S:=fun W=>Below W0.drew.heap.size W0.drew W) (by kernel_rfl) (Below.refl _ _) ?_
 clear hl hQ
 generalize W0.drew=V at hB3 h1 hB8 h7 hend ⊢
 refine T_a hq [0,1,2,3,4,5,9,10] (fun w h=>.cons (ldIntR _ _ _ ((h.cell hB8).trans h7)) (.cons (ldStr _ _ _ ((h.cell hB3).trans h1)) (.cons (ldIntR _ _ _ ((h.cell hB8).trans h7)) (Lds.nil)))) (by kernel_rfl) ?_
 refine T_fr 14 126 [6,7,8,11,12,13] [(3,.pointer (some ⟨B3,0,none⟩)),(8,.pointer (some ⟨B8,0,none⟩)),(11,.string sa),(115,.string sa),(116,.pointer (some ⟨B8,7,none⟩)),(117,.int .i64 next),(118,.pointer (some ⟨B3,1,none⟩)),(119,.string data),(120,.agg #[.int .i64 next,.string data]),(124,.pointer (some ⟨B8,7,none⟩)),(125,.int .i64 next)] (by kernel_rfl) fun u=>?_
 refine T_one 6 (by kernel_rfl) fun _=>O_go (HF V) (by kernel_rfl) ?_
 rintro e w1 ⟨rfl,hb1⟩
 refine ⟨_,rfl,hb1,?_⟩
 refine T_z hq [7] (by kernel_rfl) ?_
 refine T_fr 14 126 [8,11,12,13] [(3,.pointer (some ⟨B3,0,none⟩)),(8,.pointer (some ⟨B8,0,none⟩)),(11,.string sa),(120,.agg #[.int .i64 next,.string data]),(122,.agg #[.int .i64 2,.string sa,.string y]),(125,.int .i64 next)] (by kernel_rfl) fun u=>?_
 refine T_one 8 (by kernel_rfl) fun _=>?_
 refine O_val (w':=w1.alloc (.cells #[.int .i64 2,.string sa,.string y] 29)) (some 123) (.slice (some ⟨w1.heap.size,0,none⟩) 1 1) (by kernel_rfl) (by kernel_rfl) (hb1.alloc hb1.size _) ?_
 refine T_z hq [11,12,13] (by kernel_rfl) ?_
 exact T_end 126 [(4,.slice (some ⟨w1.heap.size,0,none⟩) 1 1),(5,.int .i64 next),(6,.int .i64 0)] (by kernel_rfl) (by kernel_rfl) fun hS u=>hend u _ w1.heap.size hS (lies_alloc w1 [.int .i64 2,.string sa,.string y] 29) hb1.size
theorem frB_size8 (p:Int) (x:ByteArray):(frB p x).size≤3000:=by
 unfold frB
 split
 · rename_i h
   unfold frOk at h
   simp only [decide_eq_true_eq] at h
   rw [ByteArray.size_append,ByteArray.size_append]
   show 2+3+x.size≤3000
   omega
 · decide
def LwEnd (n:Nat) (w w':World) (e:Ending):Prop:=∃ (ws:List Wr) (v:Value) (pos code:Int),e=.returned (.tuple #[v,.int .i64 pos,.int .i64 code])∧WsAt (New w w') w' v ws∧ws.length≤n∧(∀ x,x∈ws→x.x.size≤1000∧x.y.size≤1000000)∧Below w.heap.size w w'
theorem WrE9.lw {n:Nat} {w w1 w':World} {ws:List Wr} {v:Value} {code:Int} (hb:Below w.heap.size w w1) (h1:WsAt (New w1 w') w' v ws) (h2:ws.length≤n) (hn:n≤1030) (h3:∀ x,x∈ws→x.x.size≤1000∧x.y.size≤1000000) (h4:Below w1.heap.size w1 w'):LwEnd 1030 w w' (.returned (.tuple #[v,.int .i64 0,.int .i64 code])) :=
 ⟨ws,v,0,code,rfl,h1.carry (fun _ _=>rfl) (fun _ hb'=>⟨Nat.le_trans hb.size hb'.1,hb'.2⟩),Nat.le_trans h2 hn,h3,hb.trans (h4.mono hb.size)⟩
theorem lies_cell {W:World} {g j:Nat} {u:Value} {vs:List Value} (h:Lies W g vs) (hu:vs[j]? = some u):W.cell? ⟨g,j,none⟩=some u:=by
 have:=h.2 j u hu
 rw [addr_add,Nat.zero_add] at this
 exact this
theorem names_dk {d:Dk} (h:DkOkS d):∀ f,f∈d.files→f.name.size≤1048576:=fun f hf=>by
 obtain ⟨i,hi,rfl⟩:=List.getElem_of_mem hf
 exact Nat.le_trans (name_size (h.file i hi (by rw [h.len];exact hi)).name) (by decide)
theorem specLogWrites_any (d:Dk) (c:C3) (kind after moves:Int) (data:ByteArray) (cuts:Bool) (vk:Value) (hvk:vk.oneCell'=true) (P:Nat→Prop) (w:World) (hP:∀ b,P b→b < w.heap.size) (hd:DkAt P w d c) (hdat:data.size≤9223372036854775000) :
 Calls Try.prog 70 #[.agg #[c.c0,c.c1,c.c2],.agg #[.int .i64 kind,.string data,.bool cuts,.int .i64 after,.int .i64 moves,vk]] w fun e w'=>LwEnd 1030 w w' e:=by
 have HDA:=xH (fun W (hW:Below w.heap.size w W)=>(⟨fun b hb=>Nat.lt_of_lt_of_le (hP b hb) hW.size,hd.carry (fun b hb=>hW.block b (hP b hb)) (fun _ h=>h)⟩:(∀ b,P b→b < W.heap.size)∧DkAt P W d c))
 have HOP:=xH (fun W (hW:Below w.heap.size w W)=>specLogOpen_any d P c W (HDA.out W hW).1 (HDA.out W hW).2)
 have HBI:=xH (fun W (hW:Below w.heap.size w W) (hk:DkOkS d)=>l44Birth_any d c P W (HDA.out W hW).1 (HDA.out W hW).2 (names_dk hk))
 have HME:=xH (fun (code num size next:Int) (torn:Bool) (l:Pl) (vP:Value) (a8:Option Addr) (n8 p8:Nat) (Q:Nat→Prop) W (hW:Below w.heap.size w W) (hQ:∀ b,Q b→b < W.heap.size) (hs:StOk Q W num l vP)=>l44Mend_any d c code num size next torn l vP a8 n8 p8 P Q W (HDA.out W hW).1 hQ (HDA.out W hW).2 hs)
 have HCL:=xH (fun (code num size next:Int) (torn:Bool) (l:Pl) (vP:Value) (a8:Option Addr) (n8 p8:Nat) (Q:Nat→Prop) W (hW:Below w.heap.size w W) (hk:DkOkS d) (hQ:∀ b,Q b→b < W.heap.size) (hs:StOk Q W num l vP)=>l44Close_any d c code num size next torn l vP a8 n8 p8 P Q W (HDA.out W hW).1 hQ (HDA.out W hW).2 (names_dk hk) hs)
 obtain ⟨c0,c1,c2⟩:=c
 obtain ⟨a0,p0,g0,-,-⟩:=hd.fs.open
 obtain ⟨a1,p1,g1,-,-⟩:=id hd.ns
 obtain ⟨a2,p2,g2,-,-⟩:=hd.ms.open
 simp only at g0 g1 g2
 subst g0 g1 g2
 have hb0:Below w.heap.size w ((w.alloc (.cells #[.slice a0 d.files.length p0,.slice a1 d.names.length p1,.slice a2 d.moves.length p2] 27)).alloc (.cells #[.int .i64 kind,.string data,.bool cuts,.int .i64 after,.int .i64 moves,vk] 124)):=((Below.refl _ _).alloc (Nat.le_refl _) _).alloc (by simp) _
 have hr1:=(row3_alloc w (.slice a0 d.files.length p0) (.slice a1 d.names.length p1) (.slice a2 d.moves.length p2) 27).alloc (.cells #[.int .i64 kind,.string data,.bool cuts,.int .i64 after,.int .i64 moves,vk] 124)
 have hli:=lies_alloc (w.alloc (.cells #[.slice a0 d.files.length p0,.slice a1 d.names.length p1,.slice a2 d.moves.length p2] 27)) [.int .i64 kind,.string data,.bool cuts,.int .i64 after,.int .i64 moves,vk] 124
 rw [World.size_alloc] at hli
 have HB0:=xH hb0;have HR1:=xH hr1;have HLI:=xH hli
 clear hP hd hb0 hr1 hli HDA
 go_enter Try.func70,Try.ntmps70
 go_wp2_with fail
 generalize ((w.alloc (.cells #[.slice a0 d.files.length p0,.slice a1 d.names.length p1,.slice a2 d.moves.length p2] 27)).alloc (.cells #[.int .i64 kind,.string data,.bool cuts,.int .i64 after,.int .i64 moves,vk] 124))=W0 at HB0 HR1 HLI ⊢
 have HBA:=xH (HB0.out.alloc HB0.out.size (.cells #[] 29))
 refine (HOP.out (W0.alloc (.cells #[] 29)) HBA.out).mono ?_
 rintro e w1 ⟨code,num,size,next,torn,l,vP,a8,n8,p8,rfl,hpt,hlen,hnums,hnum,hop,hcd,hb1⟩
 obtain ⟨va,vc,rfl,-,-⟩:=hpt.open
 have hba0:=(Below.refl W0.heap.size W0).alloc (Nat.le_refl _) (.cells #[] 29)
 have hb01:=hba0.trans (hb1.mono hba0.size)
 have HB1:=xH (HBA.out.trans (hb1.mono HBA.out.size))
 have HRD:=xH (HR1.out.of_block (hb01.block _ HR1.out.lt))
 have HL1:=xH (HLI.out.on hb01)
 have HST:Hid (StOk (fun b=>b < w1.heap.size) w1 num l (.slice va l.parts.length vc)):=⟨hpt.carry (fun _ _=>rfl) (fun b hb=>hb.2),hlen,hnums,hnum,hop⟩
 have hal:=(Below.refl w1.heap.size w1).alloc (Nat.le_refl _) (.cells #[.int .i64 code,.int .i64 num,.slice va l.parts.length vc,.int .i64 l.op,.int .i64 l.fi,.int .i64 size,.bool torn,.int .i64 next,.slice a8 n8 p8] 118)
 have HB2:=xH (HB1.out.alloc HB1.out.size (.cells #[.int .i64 code,.int .i64 num,.slice va l.parts.length vc,.int .i64 l.op,.int .i64 l.fi,.int .i64 size,.bool torn,.int .i64 next,.slice a8 n8 p8] 118))
 have HRD2:=xH (HRD.out.alloc (.cells #[.int .i64 code,.int .i64 num,.slice va l.parts.length vc,.int .i64 l.op,.int .i64 l.fi,.int .i64 size,.bool torn,.int .i64 next,.slice a8 n8 p8] 118))
 have HL2:=xH (HL1.out.on hal)
 have HR9:=xH (row9_alloc w1 (.int .i64 code) (.int .i64 num) (.slice va l.parts.length vc) (.int .i64 l.op) (.int .i64 l.fi) (.int .i64 size) (.bool torn) (.int .i64 next) (.slice a8 n8 p8) 118)
 have HST2:=xH (HST.out.carry (w':=w1.alloc (.cells #[.int .i64 code,.int .i64 num,.slice va l.parts.length vc,.int .i64 l.op,.int .i64 l.fi,.int .i64 size,.bool torn,.int .i64 next,.slice a8 n8 p8] 118)) (Q:=fun b=>b < (w1.alloc (.cells #[.int .i64 code,.int .i64 num,.slice va l.parts.length vc,.int .i64 l.op,.int .i64 l.fi,.int .i64 size,.bool torn,.int .i64 next,.slice a8 n8 p8] 118)).heap.size) (fun b hb=>hal.block b hb) (fun b hb=>Nat.lt_of_lt_of_le hb hal.size))
 clear hpt hb1 hba0 hb01 hlen hnums hnum hal HBA HR1 HLI HB1 HRD HL1 HST HOP
 go_upto_region 3 with fail
 generalize w1.alloc (.cells #[.int .i64 code,.int .i64 num,.slice va l.parts.length vc,.int .i64 l.op,.int .i64 l.fi,.int .i64 size,.bool torn,.int .i64 next,.slice a8 n8 p8] 118)=W2 at HB2 HRD2 HL2 HR9 HST2 ⊢
 have q0:=lies_cell (j:=0) HL2.out rfl
 have q1:=lies_cell (j:=1) HL2.out rfl
 obtain ⟨z0,z1,z2,z3,z4,z5,z6,z7,z8⟩:=cell9 HR9.out
 obtain ⟨k0,k1,k2⟩:=cs3 HRD2.out (by omega)
 simp only [row3] at k0 k1 k2
 have HVK:=xH hvk
 obtain ⟨D1,hD1⟩:∃ D:ByteArray,⟨(Lib.itoa l.op).toArray⟩=D:=⟨_,rfl⟩
 have HD1:=xH (fun W=>l6Dec_any l.op W (by omega) (by omega))
 have hsD1:D1.size≤100:=by rw [← hD1];exact decB_le (by omega) (by omega)
 rw [hD1] at HD1
 obtain ⟨E1,hE1⟩:∃ E:ByteArray,⟨#[115]⟩++D1=E:=⟨_,rfl⟩
 have haE1:∀ T,binOp .add T (.string ⟨#[115]⟩) (.string D1)=pure (.string E1):=fun T=>by
  rw [← hE1];exact addP T _ _ (by have e:(⟨#[115]⟩:ByteArray).size=1:=rfl;omega)
 have hsE:E1.size≤1000:=by
  have e1:(⟨#[115]⟩:ByteArray).size=1:=rfl
  rw [← hE1,ByteArray.size_append];omega
 clear hD1 hE1 hsD1
 by_cases h0:code=0
 case neg =>
  have e0:(code != 0)=true:=by simp [h0]
  by_cases h1:code=1
  · have e1:(code==1)=true:=by simp [h1]
    by_cases h4:kind=4
    · have e4:(kind==4)=true:=by simp [h4]
      have hk:DkOkS d:=hcd.resolve_left (by omega)
      clear HD1 haE1 HME HCL
      go_wp2_with fail
      refine (HBI.out W2 HB2.out hk).mono ?_
      rintro e w3 ⟨ws,v,co,rfl,i1,i2,i3,i4⟩
      obtain ⟨ua,uc,rfl,-,-⟩:=i1.open
      have HEND:=xH (WrE9.lw (code:=co) HB2.out i1 i2 (by decide) i3 i4)
      clear i1 i2 i3 i4 HBI
      go_wp2_with fail
      refine bodyPost_ret (v:=.tuple #[.slice ua ws.length uc,.int .i64 0,.int .i64 co]) (by simp [results,Try.results70,go_sem]) rfl ?_
      exact xU HEND
    · have e4:(kind==4)=false:=beq_eq_false_iff_ne.2 h4
      subst h1
      go_wp2_with fail
      refine (HD1.out W2).mono ?_
      rintro e w3 ⟨rfl,hb3⟩
      have HB3:=xH (HB2.out.trans (hb3.mono HB2.out.size))
      obtain ⟨y0,y1,y2,y3,y4,y5,y6,y7,y8⟩:=cell9 (HR9.out.of_block (hb3.block _ HR9.out.lt))
      have HEND:Hid (∀ W,Below w3.heap.size w3 W→LwEnd 1030 w W (.returned (.tuple #[.slice (some ⟨w.heap.size+1+1,0,none⟩) 0 0,.int .i64 0,.int .i64 1]))):=fun W hW=>⟨[],_,0,1,rfl,ws_nil _ _,by decide,fun x hx=>(by cases hx),HB3.out.trans (hW.mono HB3.out.size)⟩
      clear hb3 HD1 HBI HME HCL HST2 HR9 HRD2 HL2 z0 z1 z2 z3 z4 z5 z6 z7 z8 q0 q1 k0 k1 k2
      go_wp2_with fail
      go_quiet (fail)
      go_wp2_with fail
      refine bodyPost_ret (v:=.tuple #[.slice (some ⟨w.heap.size+1+1,0,none⟩) 0 0,.int .i64 0,.int .i64 1]) (by simp [results,Try.results70,go_sem]) rfl ?_
      exact xU HEND _ (below_drewN (Below.refl _ _) _)
  · have e1:(code==1)=false:=beq_eq_false_iff_ne.2 h1
    go_wp2_with fail
    refine (HD1.out W2).mono ?_
    rintro e w3 ⟨rfl,hb3⟩
    have HB3:=xH (HB2.out.trans (hb3.mono HB2.out.size))
    obtain ⟨y0,y1,y2,y3,y4,y5,y6,y7,y8⟩:=cell9 (HR9.out.of_block (hb3.block _ HR9.out.lt))
    have HEND:Hid (∀ W,Below w3.heap.size w3 W→LwEnd 1030 w W (.returned (.tuple #[.slice (some ⟨w.heap.size+1+1,0,none⟩) 0 0,.int .i64 0,.int .i64 code]))):=fun W hW=>⟨[],_,0,code,rfl,ws_nil _ _,by decide,fun x hx=>(by cases hx),HB3.out.trans (hW.mono HB3.out.size)⟩
    clear hb3 HD1 HBI HME HCL HST2 HR9 HRD2 HL2 z0 z1 z2 z3 z4 z5 z6 z7 z8 q0 q1 k0 k1 k2
    go_wp2_with fail
    go_quiet (fail)
    go_wp2_with fail
    refine bodyPost_ret (v:=.tuple #[.slice (some ⟨w.heap.size+1+1,0,none⟩) 0 0,.int .i64 0,.int .i64 code]) (by simp [results,Try.results70,go_sem]) rfl ?_
    exact xU HEND _ (below_drewN (Below.refl _ _) _)
 subst h0
 have hk:DkOkS d:=hcd.resolve_left (by omega)
 go_wp2_with fail
 refine (HD1.out W2).mono ?_
 rintro e w3 ⟨rfl,hb3⟩
 have HB3:=xH (HB2.out.trans (hb3.mono HB2.out.size))
 have HR93:=xH (HR9.out.of_block (hb3.block _ HR9.out.lt))
 have HRD3:=xH (HRD2.out.of_block (hb3.block _ HRD2.out.lt))
 have HL3:=xH (HL2.out.on hb3)
 have HST3:=xH (HST2.out.carry (w':=w3) (Q:=fun b=>b < w3.heap.size) (fun b hb=>hb3.block b hb) (fun b hb=>Nat.lt_of_lt_of_le hb hb3.size))
 clear hb3 HD1 HB2 HR9 HRD2 HL2 HST2 z0 z1 z2 z3 z4 z5 z6 z7 z8 q0 q1 k0 k1 k2 HBI
 have q0:=lies_cell (j:=0) HL3.out rfl
 have q1:=lies_cell (j:=1) HL3.out rfl
 obtain ⟨z0,z1,z2,z3,z4,z5,z6,z7,z8⟩:=cell9 HR93.out
 obtain ⟨k0,k1,k2⟩:=cs3 HRD3.out (by omega)
 simp only [row3] at k0 k1 k2
 by_cases h4:kind=4
 · subst h4
   clear HCL
   go_wp2_with fail
   refine (HME.out 0 num size next torn l (.slice va l.parts.length vc) a8 n8 p8 _ w3 HB3.out (fun _ h=>h) HST3.out).mono ?_
   rintro e w4 ⟨ws,v,co,rfl,i1,i2,i3,i4⟩
   obtain ⟨ua,uc,rfl,-,-⟩:=i1.open
   have HEND:=xH (WrE9.lw (code:=co) HB3.out i1 i2 (by decide) i3 i4)
   clear i1 i2 i3 i4 HME
   go_wp2_with fail
   refine bodyPost_ret (v:=.tuple #[.slice ua ws.length uc,.int .i64 0,.int .i64 co]) (by simp [results,Try.results70,go_sem]) rfl ?_
   exact xU HEND
 have e4:(kind==4)=false:=beq_eq_false_iff_ne.2 h4
 clear HME
 have HIN:=xH (l6In_any kind 1 4 w3)
 go_wp2_with fail
 refine HIN.out.mono ?_
 rintro e w4 ⟨rfl,rfl⟩
 clear HIN
 by_cases h14:1≤kind∧kind≤4
 case neg =>
  rw [decide_eq_false h14]
  have HEND:Hid (LwEnd 1030 w w4 (.returned (.tuple #[.slice (some ⟨w.heap.size+1+1,0,none⟩) 0 0,.int .i64 0,.int .i64 7]))):=⟨[],_,0,7,rfl,ws_nil _ _,by decide,fun x hx=>(by cases hx),HB3.out⟩
  go_wp2_with fail
  refine bodyPost_ret (v:=.tuple #[.slice (some ⟨w.heap.size+1+1,0,none⟩) 0 0,.int .i64 0,.int .i64 7]) (by simp [results,Try.results70,go_sem]) rfl ?_
  exact xU HEND
 rw [decide_eq_true h14]
 cases torn with
 | true =>
   have HEND:Hid (LwEnd 1030 w w4 (.returned (.tuple #[.slice (some ⟨w.heap.size+1+1,0,none⟩) 0 0,.int .i64 0,.int .i64 3]))):=⟨[],_,0,3,rfl,ws_nil _ _,by decide,fun x hx=>(by cases hx),HB3.out⟩
   go_wp2_with fail
   refine bodyPost_ret (v:=.tuple #[.slice (some ⟨w.heap.size+1+1,0,none⟩) 0 0,.int .i64 0,.int .i64 3]) (by simp [results,Try.results70,go_sem]) rfl ?_
   exact xU HEND
 | false =>
 by_cases h2:kind=2
 · subst h2
   have HOK:Hid (∀ y,y∈([⟨3,E1,⟨#[]⟩⟩]:List Wr)→y.x.size≤1000∧y.y.size≤1000000):=fun y hy=>by
    rw [List.mem_singleton.1 hy]
    exact ⟨hsE,show (⟨#[]⟩:ByteArray).size≤1000000 by decide⟩
   have HW1:Hid (WoS w4.heap.size (w4.alloc (.cells #[.int .i64 3,.string E1,.string ⟨#[]⟩] 29)) (.slice (some ⟨w4.heap.size,0,none⟩) 1 1) [⟨3,E1,⟨#[]⟩⟩]):=⟨own_lit w4 w4.heap.size 29 3 1 [.int .i64 3,.string E1,.string ⟨#[]⟩] (Nat.le_refl _) rfl (by decide),HOK.out⟩
   have HEND:Hid (LwEnd 1030 w (w4.alloc (.cells #[.int .i64 3,.string E1,.string ⟨#[]⟩] 29)) (.returned (.tuple #[.slice (some ⟨w4.heap.size,0,none⟩) 1 1,.int .i64 0,.int .i64 0]))):=⟨[⟨3,E1,⟨#[]⟩⟩],_,0,0,rfl,HW1.out.at.carry (fun _ _=>rfl) (fun b hb=>⟨Nat.le_trans HB3.out.size hb.1,hb.2⟩),by simp,HOK.out,HB3.out.alloc HB3.out.size _⟩
   clear HW1 HOK HCL
   go_wp2_with fail
   refine bodyPost_ret (v:=.tuple #[.slice (some ⟨w4.heap.size,0,none⟩) 1 1,.int .i64 0,.int .i64 0]) (by simp [results,Try.results70,go_sem]) rfl ?_
   exact xU HEND
 have e2:(kind==2)=false:=beq_eq_false_iff_ne.2 h2
 by_cases h3:kind=3
 · subst h3
   go_wp2_with fail
   refine (HCL.out 0 num size next false l (.slice va l.parts.length vc) a8 n8 p8 _ w4 HB3.out hk (fun _ h=>h) HST3.out).mono ?_
   rintro e w5 ⟨us,v,co,rfl,i1,i2,i3,i4⟩
   obtain ⟨ua,uc,rfl,-,-⟩:=i1.open
   have HUS:=xH i1;have HUO:=xH i3;have HB5:=xH (HB3.out.trans (i4.mono HB3.out.size))
   clear i1 i3 i4 HCL
   by_cases hc0:co=0
   case neg =>
    have ec:(co != 0)=true:=by simp [hc0]
    have HEND:Hid (LwEnd 1030 w w5 (.returned (.tuple #[.slice (some ⟨w.heap.size+1+1,0,none⟩) 0 0,.int .i64 0,.int .i64 co]))):=⟨[],_,0,co,rfl,ws_nil _ _,by decide,fun x hx=>(by cases hx),HB5.out⟩
    go_wp2_with fail
    refine bodyPost_ret (v:=.tuple #[.slice (some ⟨w.heap.size+1+1,0,none⟩) 0 0,.int .i64 0,.int .i64 co]) (by simp [results,Try.results70,go_sem]) rfl ?_
    exact xU HEND
   subst hc0
   have HOK:Hid (∀ y,y∈([⟨3,E1,⟨#[]⟩⟩]:List Wr)→y.x.size≤1000∧y.y.size≤1000000):=fun y hy=>by
    rw [List.mem_singleton.1 hy]
    exact ⟨hsE,show (⟨#[]⟩:ByteArray).size≤1000000 by decide⟩
   have HW1:Hid (WoS w5.heap.size (w5.alloc (.cells #[.int .i64 3,.string E1,.string ⟨#[]⟩] 29)) (.slice (some ⟨w5.heap.size,0,none⟩) 1 1) [⟨3,E1,⟨#[]⟩⟩]):=⟨own_lit w5 w5.heap.size 29 3 1 [.int .i64 3,.string E1,.string ⟨#[]⟩] (Nat.le_refl _) rfl (by decide),HOK.out⟩
   have hal:=(Below.refl w5.heap.size w5).alloc (Nat.le_refl _) (.cells #[.int .i64 3,.string E1,.string ⟨#[]⟩] 29)
   have HSRC:=xH (flat_src (HUS.out.1.carry (w':=w5.alloc (.cells #[.int .i64 3,.string E1,.string ⟨#[]⟩] 29)) (Q:=fun _=>True) (fun b hb=>hal.block b hb.2) (fun _ _=>trivial)) (fun r hr=>by obtain ⟨x,-,rfl⟩:=List.mem_map.1 hr;rfl))
   have hbz:=hal.size
   clear hal HUS
   go_wp2_with (at_builtin;refine append_wr _ rfl _ _ rfl w5.heap.size (some ⟨w5.heap.size,0,none⟩) 1 [⟨3,E1,⟨#[]⟩⟩] 1 rfl rfl HW1 ua uc us.length us rfl rfl HUO HSRC (by decide) (by omega) hbz (1+us.length) rfl ?_;intro ga gc W7 ho7 hg7 hn7)
   have hbl:=(HB5.out.alloc HB5.out.size (.cells #[.int .i64 3,.string E1,.string ⟨#[]⟩] 29)).grown hg7.out (Nat.le_trans HB5.out.size hbz) (fun b e=>Nat.le_trans HB5.out.size (own_ge HW1.out.own e).1)
   have HEND:Hid (LwEnd 1030 w W7 (.returned (.tuple #[.slice ga (1+us.length) gc,.int .i64 0,.int .i64 0]))):=⟨_,_,0,0,rfl,ho7.out.at.carry (fun _ _=>rfl) (fun b hb=>⟨Nat.le_trans HB5.out.size hb.1,hb.2⟩),by rw [List.length_append];simp only [List.length_cons,List.length_nil];omega,ho7.out.ok,hbl⟩
   refine bodyPost_ret (v:=.tuple #[.slice ga (1+us.length) gc,.int .i64 0,.int .i64 0]) (by simp [results,Try.results70,go_sem]) rfl ?_
   exact xU HEND
 have e3:(kind==3)=false:=beq_eq_false_iff_ne.2 h3
 clear HCL
 by_cases h5:2000 < data.size
 · have e5:decide ((2000:Int) < (data.size:Int))=true:=decide_eq_true (by omega)
   have HEND:Hid (LwEnd 1030 w w4 (.returned (.tuple #[.slice (some ⟨w.heap.size+1+1,0,none⟩) 0 0,.int .i64 0,.int .i64 5]))):=⟨[],_,0,5,rfl,ws_nil _ _,by decide,fun x hx=>(by cases hx),HB3.out⟩
   go_wp2_with fail
   refine bodyPost_ret (v:=.tuple #[.slice (some ⟨w.heap.size+1+1,0,none⟩) 0 0,.int .i64 0,.int .i64 5]) (by simp [results,Try.results70,go_sem]) rfl ?_
   exact xU HEND
 have e5:decide ((2000:Int) < (data.size:Int))=false:=decide_eq_false (by omega)
 have h5n:¬ 2000 < data.size:=h5
 cases e6:decide ((999999:Int) < next) with
 | true =>
   have HEND:Hid (LwEnd 1030 w w4 (.returned (.tuple #[.slice (some ⟨w.heap.size+1+1,0,none⟩) 0 0,.int .i64 0,.int .i64 4]))):=⟨[],_,0,4,rfl,ws_nil _ _,by decide,fun x hx=>(by cases hx),HB3.out⟩
   go_wp2_with fail
   refine bodyPost_ret (v:=.tuple #[.slice (some ⟨w.heap.size+1+1,0,none⟩) 0 0,.int .i64 0,.int .i64 4]) (by simp [results,Try.results70,go_sem]) rfl ?_
   exact xU HEND
 | false =>
 cases e7:decide ((8000:Int) < wrap64 (wrap64 (size+5)+(data.size:Int))) with
 | true =>
   have HEND:Hid (LwEnd 1030 w w4 (.returned (.tuple #[.slice (some ⟨w.heap.size+1+1,0,none⟩) 0 0,.int .i64 0,.int .i64 4]))):=⟨[],_,0,4,rfl,ws_nil _ _,by decide,fun x hx=>(by cases hx),HB3.out⟩
   go_wp2_with fail
   refine bodyPost_ret (v:=.tuple #[.slice (some ⟨w.heap.size+1+1,0,none⟩) 0 0,.int .i64 0,.int .i64 4]) (by simp [results,Try.results70,go_sem]) rfl ?_
   exact xU HEND
 | false =>
 go_upto_region 27 with fail
 refine wp_swap (c':=Code.region 27 lo27Ops true) (by kernel_rfl) ?_
 refine wp_region_noPanic ?_
 have hfs:=frB_size8 next data
 refine lo27 (w.heap.size+1) w1.heap.size next E1 data (frB next data) w4 _ (fun _ _ _ _ _ h=>h) HL3.out.1 q1 HR93.out.lt z7 (fun W=>specLogFrame_any next data (by omega) W) (by kernel_rfl) ?_
 intro u W5 g hb5 hli hg
 refine NoPanic.normal ?_
 simp only [frL_eq,frG,List.lookup,Nat.reduceBEq,Nat.reduceAdd,Option.getD_some,Option.getD_none]
 have hok:∀ y,y∈([⟨2,E1,frB next data⟩]:List Wr)→y.x.size≤1000∧y.y.size≤1000000:=fun y hy=>by
  rw [List.mem_singleton.1 hy]
  exact ⟨hsE,Nat.le_trans hfs (by decide)⟩
 have HEND:Hid (LwEnd 1030 w W5 (.returned (.tuple #[.slice (some ⟨g,0,none⟩) 1 1,.int .i64 next,.int .i64 0]))):=by
  have hb45:Below w4.heap.size w4 W5:=(Below.refl _ _).drew.trans hb5
  have hgl:w4.heap.size≤g:=hg
  have hbz:=HB3.out.size
  exact ⟨[⟨2,E1,frB next data⟩],_,next,0,rfl,(ws_lies (cap:=1) hli (by simp) hok).carry (fun _ _=>rfl) (fun b hb=>by rw [hb];exact ⟨by omega,hli.1⟩),by simp,hok,HB3.out.trans (hb45.mono HB3.out.size)⟩
 clear hb5 hli hg hok HR93 HRD3 HL3 HST3 z0 z1 z2 z3 z4 z5 z6 z7 z8 q0 q1 k0 k1 k2
 go_wp2_with fail
 refine bodyPost_ret (v:=.tuple #[.slice (some ⟨g,0,none⟩) 1 1,.int .i64 next,.int .i64 0]) (by simp [results,Try.results70,go_sem]) rfl ?_
 exact xU HEND
end Go.Proofs.Yteikmbkljkkjiaa
