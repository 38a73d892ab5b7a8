/- A part. -/
import Derived.Test.YteikmbkljkkjiaaSart15
namespace Go.Proofs.Yteikmbkljkkjiaa
open Go Go.RowKit
set_option maxRecDepth 100000
set_option maxHeartbeats 6400000
theorem ok_of {d:Dk} (l1:d.files.length≤64) (l2:d.names.length≤64) (l3:d.moves.length≤128) (hn:d.files.map Df.name=madeD d.names d.moves) (hnd:(madeD d.names d.moves).Nodup)
 (hf:∀ f,f∈d.files→nameOkB f.name=true∧f.data.size≤20000∧0≤f.kept∧f.kept≤f.data.size)
 (hm:∀ i (h:i < d.moves.length),d.moves[i].gone=true→hasB (afterD d.names (d.moves.take i)) d.moves[i].name=true):DkOkS d:=by
 have hlen:(madeD d.names d.moves).length=d.files.length:=by rw [← hn,List.length_map]
 refine ⟨l1,l2,l3,hlen,fun i h h2=>?_,hm⟩
 have h0:=hf d.files[i] (List.getElem_mem h)
 have hni:d.files[i].name=(madeD d.names d.moves)[i]:=by
  have:(d.files.map Df.name)[i]'(by rw [List.length_map];exact h)=(madeD d.names d.moves)[i]:=by simp only [hn]
  rw [List.getElem_map] at this
  exact this
 have hfi:findF d.files d.files[i].name=i:=by
  refine findF_yes i h (by rw [sameB_dec];exact decide_eq_true rfl) fun j hj hjl=>?_
  rw [sameB_dec]
  refine decide_eq_false fun e=>?_
  rw [← hn] at hnd
  have:=(List.pairwise_iff_getElem.1 hnd) j i (by rw [List.length_map];exact hjl) (by rw [List.length_map];exact h) hj
  rw [List.getElem_map,List.getElem_map] at this
  exact this e
 exact ⟨h0.1,by rw [sameB_dec];exact decide_eq_true hni,h0.2.1,h0.2.2,hfi⟩
theorem made_snoc (ns:List ByteArray) (ms:List Dm) (m:Dm):madeD ns (ms++[m])=if m.gone=true then madeD ns ms else madeD ns ms++[m.name]:=by
 unfold madeD
 rw [List.filter_append,List.map_append,← List.append_assoc]
 cases h:m.gone <;> simp [h]
theorem len_sub:∀ (l m:List ByteArray),l.Nodup→(∀ x,x∈l→x∈m)→l.length≤m.length
 | [],_,_,_=>Nat.zero_le _
 | a::l,m,hn,hs=>by
   have ha:=hs a (by simp)
   obtain ⟨s,u,rfl⟩:=List.append_of_mem ha
   have h1:=len_sub l (s++u) (List.nodup_cons.1 hn).2 fun x hx=>by
    have h2:=hs x (by simp [hx])
    have hne:x≠a:=fun e=>(List.nodup_cons.1 hn).1 (e ▸ hx)
    simp only [List.mem_append,List.mem_cons] at h2 ⊢
    rcases h2 with h2 | h2 | h2
    · exact Or.inl h2
    · exact absurd h2 hne
    · exact Or.inr h2
   simp only [List.length_append,List.length_cons] at h1 ⊢
   omega
theorem set_names {fs:List Df} {i:Nat} (hi:i < fs.length) {f:Df} (h:f.name=fs[i].name):(fs.set i f).map Df.name=fs.map Df.name:=by
 rw [List.map_set,h]
 refine List.ext_getElem (by simp) fun j h1 h2=>?_
 rw [List.getElem_set]
 split
 · next e=>subst e;simp
 · rfl
theorem move_last {d:Dk} {m:Dm} (hok:DkOkS d) (hl:m.gone=true→hasB (afterD d.names d.moves) m.name=true):∀ i (h:i < (d.moves++[m]).length),(d.moves++[m])[i].gone=true→hasB (afterD d.names ((d.moves++[m]).take i)) (d.moves++[m])[i].name=true:=by
 intro i h hg
 by_cases hi:i < d.moves.length
 · rw [List.getElem_append_left hi] at hg ⊢
   rw [List.take_append_of_le_length (Nat.le_of_lt hi)]
   exact hok.move i hi hg
 · have e:i=d.moves.length:=by simp at h;omega
   subst e
   simp only [List.getElem_concat_length] at hg ⊢
   rw [List.take_left']
   · exact hl hg
   · rfl
theorem doD_ok {d:Dk} {k:Int} {x y:ByteArray} (hok:DkOkS d) (h0:(doD d k x y).2=0):DkOkS (doD d k x y).1:=by
 obtain ⟨hnd,heq,-⟩:=dk_nodup hok
 have l1:=hok.l1;have l2:=hok.l2;have l3:=hok.l3
 have hf:∀ f,f∈d.files→nameOkB f.name=true∧f.data.size≤20000∧0≤f.kept∧f.kept≤f.data.size:=fun f hf=>by
  obtain ⟨i,hi,rfl⟩:=List.getElem_of_mem hf
  have:=hok.file i hi (by rw [hok.len];exact hi)
  exact ⟨this.name,this.data,this.kept⟩
 have hset:∀ (i:Nat) (hi:i < d.files.length) (f:Df),f.name=d.files[i].name→f.data.size≤20000→0≤f.kept→f.kept≤f.data.size→DkOkS ⟨d.files.set i f,d.names,d.moves⟩:=fun i hi f h1 h2 h3 h4 =>
  ok_of (by simpa using l1) l2 l3 (by simp only;rw [set_names hi h1];exact heq) hnd (fun g hg=>by
   rcases List.mem_or_eq_of_mem_set hg with hg | rfl
   · exact hf g hg
   · exact ⟨by rw [h1];exact (hf _ (List.getElem_mem hi)).1,h2,h3,h4⟩) hok.move
 by_cases k1:k=1
 · subst k1
   by_cases ht:nameOkB x=false∨0≤findF d.files x
   · rw [doD_taken hok ht] at h0;cases h0
   by_cases hfu:64≤d.files.length∨128≤d.moves.length
   · rw [doD_full hok ht hfu] at h0;cases h0
   rw [doD_make hok ht hfu]
   have hxn:nameOkB x=true:=by
    cases e:nameOkB x with
    | true=>rfl
    | false=>exact absurd (Or.inl e) ht
   have hxm:x∉madeD d.names d.moves:=fun hm=>by
    rw [← heq] at hm
    obtain ⟨f,hfm,rfl⟩:=List.mem_map.1 hm
    obtain ⟨i,hi,rfl⟩:=List.getElem_of_mem hfm
    exact ht (Or.inr (by rw [(hok.file i hi (by rw [hok.len];exact hi)).find];omega))
   have hmd:madeD d.names (d.moves++[⟨false,x⟩])=madeD d.names d.moves++[x]:=by rw [made_snoc];rfl
   refine ok_of (by simp only [List.length_append,List.length_cons,List.length_nil];omega) l2 (by simp only [List.length_append,List.length_cons,List.length_nil];omega) ?_ ?_ ?_ (move_last hok fun h=>by cases h)
   · simp only;rw [hmd,List.map_append,heq];rfl
   · simp only;rw [hmd]
     exact List.nodup_append.2 ⟨hnd,by simp,fun a ha b hb e=>by subst e;simp at hb;exact hxm (hb ▸ ha)⟩
   · intro f hfm
     rcases List.mem_append.1 hfm with hfm | hfm
     · exact hf f hfm
     · obtain rfl:=List.mem_singleton.1 hfm
       exact ⟨hxn,by simp only;decide,by simp only;omega,by simp only;omega⟩
 by_cases k5:k=5
 · subst k5
   rw [doD_dirs hok]
   have hN:=namesD_ok hok
   have han:=after_nodup hnd d.moves.length (Nat.le_refl _)
   rw [List.take_length,← hN] at han
   have hle:(namesD d).length≤d.files.length:=by
    have:=len_sub (namesD d) (madeD d.names d.moves) han.1 han.2
    rw [hok.len] at this
    exact this
   have hnm:∀ z,z∈namesD d→(fileD d z).name=z∧fileD d z∈d.files:=fun z hz=>by
    obtain ⟨i,hi,-,h1,h2⟩:=names_file hz
    rw [fileD_at hi h2]
    exact ⟨h1,List.getElem_mem hi⟩
   have hmn:madeD (namesD d) []=namesD d:=by unfold madeD;simp
   refine ok_of (by simp only [keepD,List.length_map];omega) (by simp only [keepD];omega) (by simp [keepD]) ?_ ?_ ?_ (fun i h=>by simp [keepD] at h)
   · simp only [keepD]
     rw [hmn,List.map_map]
     exact (List.map_congr_left fun z hz=>(hnm z hz).1).trans (List.map_id' _)
   · simp only [keepD];rw [hmn];exact han.1
   · intro f hfm
     obtain ⟨z,hz,rfl⟩:=List.mem_map.1 hfm
     exact hf _ (hnm z hz).2
 by_cases hk:2≤k∧k≤4
 case neg=>rw [doD_kind hok (by omega)] at h0;cases h0
 by_cases hin:x∈namesD d
 case neg=>rw [doD_nofile hok hk hin] at h0;cases h0
 obtain ⟨i,hi,-,hxi,hfi⟩:=names_file hin
 have hfd:=fileD_at hi hfi
 have hfo:=hf _ (List.getElem_mem hi)
 by_cases k2:k=2
 · subst k2
   by_cases hz:20000 - ((fileD d x).data.size:Int) < (y.size:Int)
   · rw [doD_addfull hok hin hz] at h0;cases h0
   rw [doD_add hok hin hz,putD_at hfi,hfd]
   rw [hfd] at hz
   exact hset i hi _ rfl (by simp only [ByteArray.size_append];omega) hfo.2.2.1 (by simp only [ByteArray.size_append];omega)
 by_cases k3:k=3
 · subst k3
   rw [doD_sync hok hin,putD_at hfi,hfd]
   exact hset i hi _ rfl hfo.2.1 (by simp only;omega) (by simp only;omega)
 obtain rfl:k=4:=by omega
 by_cases hfu:128≤d.moves.length
 · rw [doD_gonefull hok hin hfu] at h0;cases h0
 rw [doD_gone hok hin hfu]
 have hmd:madeD d.names (d.moves++[⟨true,x⟩])=madeD d.names d.moves:=by rw [made_snoc];rfl
 refine ok_of l1 l2 (by simp only [List.length_append,List.length_cons,List.length_nil];omega) (by simp only;rw [hmd];exact heq) (by simp only;rw [hmd];exact hnd) hf (move_last hok fun _=>hasB_iff.2 (by rw [← namesD_ok hok];exact hin))
theorem doD_same {d:Dk} {k:Int} {x y:ByteArray} (hok:DkOkS d) (h:(doD d k x y).2≠0):(doD d k x y).1=d:=by
 unfold doD at h ⊢
 repeat' split <;> first | rfl | (exfalso;exact absurd hok (by assumption)) | skip
 all_goals simp_all
structure Wr where
 (k:Int) (x y:ByteArray)
instance:Inhabited Wr:=⟨⟨0,ByteArray.empty,ByteArray.empty⟩⟩
def Wr.cs (w:Wr):List Value:=[.int .i64 w.k,.string w.x,.string w.y]
def Wr.okM (w:Wr):Prop:=w.x.size≤9223372036854775807∧w.y.size≤9223372036854775807
def WsAt (P:Nat→Prop) (w:World) (v:Value) (ws:List Wr):Prop:=FlatAt P w v 3 (ws.map Wr.cs)∧∀ x,x∈ws→x.okM
theorem WsAt.carry {P Q:Nat→Prop} {w w':World} {v:Value} {ws:List Wr} (h:WsAt P w v ws) (hP:∀ b,P b→w'.heap[b]? = w.heap[b]?) (hQ:∀ b,P b→Q b):WsAt Q w' v ws:=⟨h.1.carry hP hQ,h.2⟩
theorem WsAt.open {P:Nat→Prop} {w:World} {v:Value} {ws:List Wr} (h:WsAt P w v ws):∃ a cap,v=.slice a ws.length cap∧ws.length≤9223372036854775807 ∧
 ∀ i,(hi:i < ws.length)→∃ b o,a=some ⟨b,o,none⟩∧P b∧C3.at w b (o+i * 3) ⟨.int .i64 ws[i].k,.string ws[i].x,.string ws[i].y⟩∧ws[i].okM:=by
 obtain ⟨⟨a,cap,h1,h2,h3⟩,hok⟩:=h
 rw [List.length_map] at h1 h2
 refine ⟨a,cap,h1,h2,fun i hi=>?_⟩
 obtain ⟨b,o,e,hb,hc⟩:=h3 i (by rw [List.length_map];exact hi)
 have c0:=hc 0 (by omega);have c1:=hc 1 (by omega);have c2:=hc 2 (by omega)
 simp only [List.getElem_map,Wr.cs,Nat.add_zero,List.getD_cons_zero,List.getD_cons_succ] at c0 c1 c2
 exact ⟨b,o,e,hb,⟨c0,c1,c2⟩,hok _ (List.getElem_mem hi)⟩

theorem append_list9 {P:Program} (w:World) {ops:Array Oper} {rest:List Oper} {o:Oper} {a:Act} {Q:Exit→Act→World→Prop}
 (hg:o.guard=none) (s x:Operand) (t:TypeId) (hop:o.op=Op.call { callee:=Callee.builtin Builtin.append,args:=#[s,x],argTypes:=#[t,t] })
 (base:Nat) (e:TypeId) (i:TypeInfo) (z:Value) (size bytes:Nat) (h1:P.underlying t=some (.slice e)) (h2:P.info? e=some i) (h3:i.zero=some z) (h4:i.size=size) (h5:i.bytes=bytes) (h6:z.cells.size=size) (h7:0 < size)
 (a0:Option Addr) (n cap:Nat) (xs:List Value) (hs:a.eval s=.slice a0 n cap) (hown:Hid (w.ownsRow base e size (.slice a0 n cap) n xs))
 (ax:Option Addr) (m c:Nat) (ys:List Value) (hx:a.eval x=.slice ax m c) (hn:ys.length=m * size) (hc:0 < m→∃ ad,ax=some ad∧∀ j u,ys[j]? = some u→w.cell? (ad.add j)=some u) (h1c:∀ u∈ys,u.oneCell'=true)
 (b1:n+m≤maxLen) (b2:(n+m) * bytes≤140737488355328) (hbase:base≤w.heap.size) (k:Nat) (hk:n+m=k)
 (hK:∀ a' cap' w',Hid (w'.ownsRow base e size (.slice a' k cap') k (xs++ys))→Hid (w.grownBy w' (Value.slice a0 n cap).ownBlock)→Hid ((Value.slice a' k cap').ownBlock=(Value.slice a0 n cap).ownBlock∨∃ g,(Value.slice a' k cap').ownBlock=some g∧w.heap.size≤g)→wpList P ops Q rest (a.put o.dst (.slice a' k cap')) w') :
 wpList P ops Q (o::rest) a w:=by
 have hown:=xU hown
 subst hk
 rcases Nat.eq_zero_or_pos m with h0 | h0
 · subst h0
   have hys:ys=[]:=List.eq_nil_of_length_eq_zero (by rw [hn];omega)
   subst hys
   have hcap:n≤cap:=own_cap8 hown
   have hrun:∀ ty,(Builtin.append_ #[t,t] ty #[.slice a0 n cap,.slice ax 0 c]).run P w=.ok (.slice a0 n cap) w:=fun ty=>by
    cases a0 with
    | none=>cases ax <;> simp [Builtin.append_,run_underlying h1,sizeOf,typeInfo,h2,Builtin.lenOf,Builtin.firstCells,go_sem,hcap]
    | some a1=>cases ax <;> simp [Builtin.append_,run_underlying h1,sizeOf,typeInfo,h2,Builtin.lenOf,Builtin.firstCells,go_sem,hcap]
   refine wpList_plain hg fun K hKK=>?_
   unfold Oper.wp execOp
   simp only [hop,resolve,invoke,builtin,Sem.run_bind,Sem.run_pure,Result.andThen_ok,List.map_toArray,List.map_cons,List.map_nil,hs,hx,hrun]
   exact hKK _ _ (hK a0 cap w (by rw [Nat.add_zero,List.append_nil];exact hown) (World.grownBy.refl w _) (Or.inl rfl))
 · obtain ⟨ad,rfl,hcc⟩:=hc h0
   refine append_row w hg s x t hop base e i z size bytes h1 h2 h3 h4 h5 h6 h7 (.slice a0 n cap) n xs hs hown ad m c ys hx hn hcc h1c h0 b1 b2 hbase (fun v' w' r1 r2 r3=>?_)
   obtain ⟨a',cap',rfl⟩:=own_form8 r1
   exact hK _ cap' w' r1 r2 r3
theorem infoPartD:∃ i,Try.prog.info? 138=some i∧i.zero=some (.agg #[.int .i64 0,.int .i64 0,.int .i64 0,.int .i64 0])∧i.size=4∧i.bytes=32:=by
 have:(Try.prog.info? 138).map (fun i=>(i.zero,i.size,i.bytes))=some (some (.agg #[.int .i64 0,.int .i64 0,.int .i64 0,.int .i64 0]),4,32):=by kernel_rfl
 cases h:Try.prog.info? 138 with
 | none=>rw [h] at this;simp at this
 | some i=>rw [h] at this;exact ⟨i,rfl,by simpa using this⟩
def Lies (W:World) (g:Nat) (vs:List Value):Prop:=g < W.heap.size∧∀ j u,vs[j]? = some u→W.cell? ((⟨g,0,none⟩:Addr).add j)=some u
theorem add_block (a:Addr) (j:Nat):(a.add j).block=a.block:=by unfold Addr.add;split <;> rfl
theorem Lies.of_block {W W':World} {g:Nat} {vs:List Value} (h:Lies W g vs) (hb:W'.heap[g]? = W.heap[g]?):Lies W' g vs:=by
 refine ⟨?_,fun j u hu=>(World.cell?_of_block (by rw [add_block];exact hb)).trans (h.2 j u hu)⟩
 have h1:=h.1
 rw [Array.getElem?_eq_getElem h1] at hb
 exact (Array.getElem?_eq_some_iff.1 hb).1
theorem Lies.on {W W':World} {g:Nat} {vs:List Value} (h:Lies W g vs) (hb:Below W.heap.size W W'):Lies W' g vs:=h.of_block (hb.block _ h.1)
theorem lies_alloc (W:World) (vs:List Value) (T:TypeId):Lies (W.alloc (.cells vs.toArray T)) W.heap.size vs:=by
 have hr:=World.rowIs_alloc W vs.toArray T (fun i=>vs.getD i undef) (fun i hi=>by
  have hi':i < vs.length:=by simpa using hi
  simp [List.getD_eq_getElem?_getD,List.getElem?_eq_getElem hi'])
 refine ⟨hr.lt,fun j u hu=>?_⟩
 have hj:=(List.getElem?_eq_some_iff.1 hu).1
 have hc:=hr.cell (i:=j) (by simpa using hj)
 rw [List.getD_eq_getElem?_getD,hu] at hc
 rw [addr_add,Nat.zero_add]
 exact hc
theorem own_new (W:World) (base:Nat) (T:TypeId) (size:Nat) (hb:base≤W.heap.size):(W.alloc (.cells #[] T)).ownsRow base T size (.slice (some ⟨W.heap.size,0,none⟩) 0 0) 0 [] :=
 empty_row (World.rowIs_alloc W #[] T (fun _=>.bool false) (fun i hi=>by simp at hi)) hb
theorem butcell {B b o:Nat} {V W:World} (h:But B V W) (hb:b < V.heap.size) (hne:b≠B):W.cell? ⟨b,o,none⟩=V.cell? ⟨b,o,none⟩:=World.cell?_of_block (h.at hb hne)
noncomputable def cl7Ops:Array Oper:=fops Try.f90 7
theorem cl7_neat:Region.noSelect cl7Ops=true∧neat cl7Ops=true:=⟨by kernel_rfl,by kernel_rfl⟩
theorem cl7 (B2 B3 B9 n vc:Nat) (va:Option Addr) (xs:List Value) (op fi next size:Int) (x1 x2:Value) (sa sb:ByteArray) (W0:World) {l:List Value} (Q:Exit→Act→World→Prop) (hQ:∀ c a d v w,Q (.panic c) (Act.put a d v) w→Q (.panic c) a w) (hB3:B3 < W0.drew.heap.size) (hne:B3≠B9) (h2:W0.drew.cell? ⟨B3,2,none⟩=some (.slice va n vc)) (h3:W0.drew.cell? ⟨B3,3,none⟩=some (.int .i64 op)) (h4:W0.drew.cell? ⟨B3,4,none⟩=some (.int .i64 fi)) (h5:W0.drew.cell? ⟨B3,5,none⟩=some (.int .i64 size)) (h7:W0.drew.cell? ⟨B3,7,none⟩=some (.int .i64 next)) (h9:W0.drew.rowIs B9 115 3 (row3 (.slice none 0 0) x1 x2)) (hsrc:0 < n→∃ ad,va=some ad∧ad.block < W0.drew.heap.size∧∀ j u,xs[j]? = some u→W0.drew.cell? (ad.add j)=some u) (hxs:xs.length=n * 4) (hxo:∀ u∈xs,u.oneCell'=true) (hn:n≤40)
 (hl:lookL [(2,.pointer (some ⟨B2,0,none⟩)),(3,.pointer (some ⟨B3,0,none⟩)),(7,.string sa),(8,.string sb),(9,.pointer (some ⟨B9,0,none⟩))] l=(79,([(2,.pointer (some ⟨B2,0,none⟩)),(3,.pointer (some ⟨B3,0,none⟩)),(7,.string sa),(8,.string sb),(9,.pointer (some ⟨B9,0,none⟩))]:List (Nat × Value)).map (·.2)))
 (hend:∀ (u:Nat→Value) (W:World) (a:Option Addr) (cap:Nat),But B9 W0.drew W→W.rowIs B9 115 3 (row3 (.slice a (n+1) cap) x1 x2)→W.ownsRow W0.drew.heap.size 138 4 (.slice a (n+1) cap) (n+1) (xs++[.int .i64 op,.int .i64 fi,.int .i64 next,.int .i64 size])→Q .normal ⟨(frL u 79 [(2,.pointer (some ⟨B2,0,none⟩)),(3,.pointer (some ⟨B3,0,none⟩)),(7,.string sa),(8,.string sb),(9,.pointer (some ⟨B9,0,none⟩))]).toArray,[]⟩ W):(Code.region 7 cl7Ops true).wp Try.prog Q ⟨l.toArray,[]⟩ W0:=by
 obtain ⟨v0,rfl⟩:=look_fr hl
 have hq:NtQ cl7Ops Q:=⟨cl7_neat,hQ⟩
 refine T_start (S:=fun W=>But B9 W0.drew W) (by kernel_rfl) (But.of_below (Below.refl _ _)) ?_
 clear hl hQ
 generalize W0.drew=V at hB3 h2 h3 h4 h5 h7 h9 hsrc hend ⊢
 have F:∀ (u:Nat→Value) (W:World) (hb:Below V.heap.size V W) (a:Option Addr) (cap:Nat) (ho:W.ownsRow V.heap.size 138 4 (.slice a n cap) n xs) (g1:Nat) (h1:Lies W g1 [.int .i64 op,.int .i64 fi,.int .i64 next,.int .i64 size]),wpS Try.prog cl7Ops Q (fun W=>But B9 V W) (unl 20 [17,18,19],frL u 79 [(2,.pointer (some ⟨B2,0,none⟩)),(3,.pointer (some ⟨B3,0,none⟩)),(7,.string sa),(8,.string sb),(9,.pointer (some ⟨B9,0,none⟩)),(46,.slice a n cap),(58,.slice (some ⟨g1,0,none⟩) 1 1)]) [] W:=by
  intro u W hb a cap ho g1 h1
  refine T_one 17 (by kernel_rfl) fun _=>?_
  refine O_list (some 59) (by kernel_rfl) ?_
  obtain ⟨j0,hj,hy0,hy1,hy2⟩:=infoPartD
  refine append_list9 _ (by kernel_rfl) (.tmp 46) (.tmp 58) 113 (by kernel_rfl) V.heap.size 138 j0 (.agg #[.int .i64 0,.int .i64 0,.int .i64 0,.int .i64 0]) 4 32 Try.underlying113 hj hy0 hy1 hy2 rfl (by decide) a n cap xs (by kernel_rfl) (xH ho) (some ⟨g1,0,none⟩) 1 1 [.int .i64 op,.int .i64 fi,.int .i64 next,.int .i64 size] (by kernel_rfl) rfl (fun _=>⟨_,rfl,h1.2⟩) (fun u hu=>by simp only [List.mem_cons,List.not_mem_nil,or_false] at hu;rcases hu with rfl | rfl | rfl | rfl <;> rfl) (by unfold maxLen;omega) (by omega) hb.size (n+1) rfl ?_
  intro a' cap' W2 ho2 hg2 _
  have hb2:=hb.grown hg2.out hb.size (fun b e=>(own_ge ho e).1)
  have h9w:=h9.of_block (hb2.block _ h9.lt)
  have c9:=h9w.cell (i:=0) (by omega)
  have f9:=h9w.frozen 0
  simp only [row3] at c9
  refine ⟨But.of_below hb2,_,put_putL ..,?_⟩
  have hbt:But B9 V (W2.setCell ⟨B9,0,none⟩ (.slice a' (n+1) cap')):=(But.of_below hb2).trans (But.set W2 0 _)
  refine T_z hq [18] (by kernel_rfl) ?_
  refine T_one 19 (by kernel_rfl) fun _=>O_store none 113 (.tmp 60) (.tmp 59) ⟨B9,0,none⟩ (.slice a' (n+1) cap') _ (by kernel_rfl) (by kernel_rfl) (by kernel_rfl) (stPts W2 _ _ _ _ _ c9 f9) hbt ?_
  exact T_end 79 [(2,.pointer (some ⟨B2,0,none⟩)),(3,.pointer (some ⟨B3,0,none⟩)),(7,.string sa),(8,.string sb),(9,.pointer (some ⟨B9,0,none⟩))] (by kernel_rfl) (by kernel_rfl) fun _ u=>hend u _ a' cap' hbt ((h9w.set 0 _).congr (fun i hi=>by rcases (show i=0∨i=1∨i=2 by omega) with rfl | rfl | rfl <;> rfl)) (ownsRow_keepR ho2.out (fun g hg=>Below.heap_setCell _ _ _ _ (by have:=(own_ge ho2.out hg).1;have:=h9.lt;show g≠B9;omega)))
 have D:∀ (u:Nat→Value) (W:World) (hb:Below V.heap.size V W) (a:Option Addr) (cap:Nat) (ho:W.ownsRow V.heap.size 138 4 (.slice a n cap) n xs),wpS Try.prog cl7Ops Q (fun W=>But B9 V W) (unl 20 [16,17,18,19],frL u 79 [(2,.pointer (some ⟨B2,0,none⟩)),(3,.pointer (some ⟨B3,0,none⟩)),(7,.string sa),(8,.string sb),(9,.pointer (some ⟨B9,0,none⟩)),(46,.slice a n cap),(57,.agg #[.int .i64 op,.int .i64 fi,.int .i64 next,.int .i64 size])]) [] W:=by
  intro u W hb a cap ho
  have hal0:=hb.alloc hb.size (.cells #[] 138)
  have hal1:=hb.alloc hb.size (.cells #[.int .i64 op,.int .i64 fi,.int .i64 next,.int .i64 size] 138)
  have hz0:=(Below.refl W.heap.size W).alloc (Nat.le_refl _) (.cells #[] 138)
  have hz1:=(Below.refl W.heap.size W).alloc (Nat.le_refl _) (.cells #[.int .i64 op,.int .i64 fi,.int .i64 next,.int .i64 size] 138)
  have hn0:=own_new W V.heap.size 138 4 hb.size
  have hn1:=lies_alloc W [.int .i64 op,.int .i64 fi,.int .i64 next,.int .i64 size] 138
  refine T_one 16 (by kernel_rfl) fun _=>?_
  exact O_val (w':=W.alloc (.cells #[.int .i64 op,.int .i64 fi,.int .i64 next,.int .i64 size] 138)) (some 58) (.slice (some ⟨W.heap.size,0,none⟩) 1 1) (by kernel_rfl) (by kernel_rfl) (But.of_below hal1) (T_fr 20 79 [17,18,19] [(2,.pointer (some ⟨B2,0,none⟩)),(3,.pointer (some ⟨B3,0,none⟩)),(7,.string sa),(8,.string sb),(9,.pointer (some ⟨B9,0,none⟩)),(46,.slice a n cap),(58,.slice (some ⟨W.heap.size,0,none⟩) 1 1)] (by kernel_rfl) fun u=>F u _ hal1 a cap (own_on ho hz1) _ hn1)
 have EE:∀ (u:Nat→Value) (W:World) (hb:Below V.heap.size V W) (g0:Nat) (h0:W.ownsRow V.heap.size 138 4 (.slice (some ⟨g0,0,none⟩) 0 0) 0 []) (g1:Nat) (h1:Lies W g1 [.int .i64 op,.int .i64 fi,.int .i64 next,.int .i64 size]) (hgg:g1≠g0),wpS Try.prog cl7Ops Q (fun W=>But B9 V W) (unl 20 [4,17,18,19],frL u 79 [(2,.pointer (some ⟨B2,0,none⟩)),(3,.pointer (some ⟨B3,0,none⟩)),(7,.string sa),(8,.string sb),(9,.pointer (some ⟨B9,0,none⟩)),(42,.slice (some ⟨g0,0,none⟩) 0 0),(45,.slice va n vc),(58,.slice (some ⟨g1,0,none⟩) 1 1)]) [] W:=by
  intro u W hb g0 h0 g1 h1 hgg
  refine T_one 4 (by kernel_rfl) fun _=>?_
  refine O_list (some 46) (by kernel_rfl) ?_
  obtain ⟨j0,hj,hy0,hy1,hy2⟩:=infoPartD
  refine append_list9 _ (by kernel_rfl) (.tmp 42) (.tmp 45) 113 (by kernel_rfl) V.heap.size 138 j0 (.agg #[.int .i64 0,.int .i64 0,.int .i64 0,.int .i64 0]) 4 32 Try.underlying113 hj hy0 hy1 hy2 rfl (by decide) (some ⟨g0,0,none⟩) 0 0 [] (by kernel_rfl) (xH h0) va n vc xs (by kernel_rfl) hxs (fun h=>by obtain ⟨ad,e,h1,h2⟩:=hsrc h;exact ⟨ad,e,fun j u hu=>(hb.cell (show (ad.add j).block < V.heap.size by rw [add_block];exact h1)).trans (h2 j u hu)⟩) hxo (by unfold maxLen;omega) (by omega) hb.size n (Nat.zero_add n) ?_
  intro a cap W2 ho2 hg2 hn2
  have hb2:=hb.grown hg2.out hb.size (fun b e=>(own_ge h0 e).1)
  refine ⟨But.of_below hb2,_,put_putL ..,?_⟩
  exact T_fr 20 79 [17,18,19] [(2,.pointer (some ⟨B2,0,none⟩)),(3,.pointer (some ⟨B3,0,none⟩)),(7,.string sa),(8,.string sb),(9,.pointer (some ⟨B9,0,none⟩)),(46,.slice a n cap),(58,.slice (some ⟨g1,0,none⟩) 1 1)] (by kernel_rfl) fun u=>F u W2 hb2 a cap ho2.out g1 (h1.of_block (hg2.out.block g1 h1.1 (fun e=>hgg (Option.some.inj e))))
 have C:∀ (u:Nat→Value) (W:World) (hb:Below V.heap.size V W) (g1:Nat) (h1:Lies W g1 [.int .i64 op,.int .i64 fi,.int .i64 next,.int .i64 size]),wpS Try.prog cl7Ops Q (fun W=>But B9 V W) (unl 20 [0,4,17,18,19],frL u 79 [(2,.pointer (some ⟨B2,0,none⟩)),(3,.pointer (some ⟨B3,0,none⟩)),(7,.string sa),(8,.string sb),(9,.pointer (some ⟨B9,0,none⟩)),(45,.slice va n vc),(58,.slice (some ⟨g1,0,none⟩) 1 1)]) [] W:=by
  intro u W hb g1 h1
  have hal0:=hb.alloc hb.size (.cells #[] 138)
  have hal1:=hb.alloc hb.size (.cells #[.int .i64 op,.int .i64 fi,.int .i64 next,.int .i64 size] 138)
  have hz0:=(Below.refl W.heap.size W).alloc (Nat.le_refl _) (.cells #[] 138)
  have hz1:=(Below.refl W.heap.size W).alloc (Nat.le_refl _) (.cells #[.int .i64 op,.int .i64 fi,.int .i64 next,.int .i64 size] 138)
  have hn0:=own_new W V.heap.size 138 4 hb.size
  have hn1:=lies_alloc W [.int .i64 op,.int .i64 fi,.int .i64 next,.int .i64 size] 138
  refine T_one 0 (by kernel_rfl) fun _=>?_
  exact O_val (w':=W.alloc (.cells #[] 138)) (some 42) (.slice (some ⟨W.heap.size,0,none⟩) 0 0) (by kernel_rfl) (by kernel_rfl) (But.of_below hal0) (T_fr 20 79 [4,17,18,19] [(2,.pointer (some ⟨B2,0,none⟩)),(3,.pointer (some ⟨B3,0,none⟩)),(7,.string sa),(8,.string sb),(9,.pointer (some ⟨B9,0,none⟩)),(42,.slice (some ⟨W.heap.size,0,none⟩) 0 0),(45,.slice va n vc),(58,.slice (some ⟨g1,0,none⟩) 1 1)] (by kernel_rfl) fun u=>EE u _ hal0 _ hn0 g1 (h1.on hz0) (Nat.ne_of_lt h1.1))
 have BB:∀ (u:Nat→Value) (W:World) (hb:Below V.heap.size V W) (g0:Nat) (h0:W.ownsRow V.heap.size 138 4 (.slice (some ⟨g0,0,none⟩) 0 0) 0 []),wpS Try.prog cl7Ops Q (fun W=>But B9 V W) (unl 20 [4,16,17,18,19],frL u 79 [(2,.pointer (some ⟨B2,0,none⟩)),(3,.pointer (some ⟨B3,0,none⟩)),(7,.string sa),(8,.string sb),(9,.pointer (some ⟨B9,0,none⟩)),(42,.slice (some ⟨g0,0,none⟩) 0 0),(45,.slice va n vc),(57,.agg #[.int .i64 op,.int .i64 fi,.int .i64 next,.int .i64 size])]) [] W:=by
  intro u W hb g0 h0
  have hal0:=hb.alloc hb.size (.cells #[] 138)
  have hal1:=hb.alloc hb.size (.cells #[.int .i64 op,.int .i64 fi,.int .i64 next,.int .i64 size] 138)
  have hz0:=(Below.refl W.heap.size W).alloc (Nat.le_refl _) (.cells #[] 138)
  have hz1:=(Below.refl W.heap.size W).alloc (Nat.le_refl _) (.cells #[.int .i64 op,.int .i64 fi,.int .i64 next,.int .i64 size] 138)
  have hn0:=own_new W V.heap.size 138 4 hb.size
  have hn1:=lies_alloc W [.int .i64 op,.int .i64 fi,.int .i64 next,.int .i64 size] 138
  refine T_two 4 16 (by kernel_rfl) (fun _=>?_) fun _=>?_
  · refine O_list (some 46) (by kernel_rfl) ?_
    obtain ⟨j0,hj,hy0,hy1,hy2⟩:=infoPartD
    refine append_list9 _ (by kernel_rfl) (.tmp 42) (.tmp 45) 113 (by kernel_rfl) V.heap.size 138 j0 (.agg #[.int .i64 0,.int .i64 0,.int .i64 0,.int .i64 0]) 4 32 Try.underlying113 hj hy0 hy1 hy2 rfl (by decide) (some ⟨g0,0,none⟩) 0 0 [] (by kernel_rfl) (xH h0) va n vc xs (by kernel_rfl) hxs (fun h=>by obtain ⟨ad,e,h1,h2⟩:=hsrc h;exact ⟨ad,e,fun j u hu=>(hb.cell (show (ad.add j).block < V.heap.size by rw [add_block];exact h1)).trans (h2 j u hu)⟩) hxo (by unfold maxLen;omega) (by omega) hb.size n (Nat.zero_add n) ?_
    intro a cap W2 ho2 hg2 hn2
    have hb2:=hb.grown hg2.out hb.size (fun b e=>(own_ge h0 e).1)
    refine ⟨But.of_below hb2,_,put_putL ..,?_⟩
    exact T_fr 20 79 [16,17,18,19] [(2,.pointer (some ⟨B2,0,none⟩)),(3,.pointer (some ⟨B3,0,none⟩)),(7,.string sa),(8,.string sb),(9,.pointer (some ⟨B9,0,none⟩)),(46,.slice a n cap),(57,.agg #[.int .i64 op,.int .i64 fi,.int .i64 next,.int .i64 size])] (by kernel_rfl) fun u=>D u W2 hb2 a cap ho2.out
  · exact O_val (w':=W.alloc (.cells #[.int .i64 op,.int .i64 fi,.int .i64 next,.int .i64 size] 138)) (some 58) (.slice (some ⟨W.heap.size,0,none⟩) 1 1) (by kernel_rfl) (by kernel_rfl) (But.of_below hal1) (T_fr 20 79 [4,17,18,19] [(2,.pointer (some ⟨B2,0,none⟩)),(3,.pointer (some ⟨B3,0,none⟩)),(7,.string sa),(8,.string sb),(9,.pointer (some ⟨B9,0,none⟩)),(42,.slice (some ⟨g0,0,none⟩) 0 0),(45,.slice va n vc),(58,.slice (some ⟨W.heap.size,0,none⟩) 1 1)] (by kernel_rfl) fun u=>EE u _ hal1 g0 (own_on h0 hz1) _ hn1 (fun e=>by have:g0 < W.heap.size:=(own_ge h0 rfl).2;omega))
 have A:∀ (u:Nat→Value) (W:World) (hb:Below V.heap.size V W),wpS Try.prog cl7Ops Q (fun W=>But B9 V W) (unl 20 [0,4,16,17,18,19],frL u 79 [(2,.pointer (some ⟨B2,0,none⟩)),(3,.pointer (some ⟨B3,0,none⟩)),(7,.string sa),(8,.string sb),(9,.pointer (some ⟨B9,0,none⟩)),(45,.slice va n vc),(57,.agg #[.int .i64 op,.int .i64 fi,.int .i64 next,.int .i64 size])]) [] W:=by
  intro u W hb
  have hal0:=hb.alloc hb.size (.cells #[] 138)
  have hal1:=hb.alloc hb.size (.cells #[.int .i64 op,.int .i64 fi,.int .i64 next,.int .i64 size] 138)
  have hz0:=(Below.refl W.heap.size W).alloc (Nat.le_refl _) (.cells #[] 138)
  have hz1:=(Below.refl W.heap.size W).alloc (Nat.le_refl _) (.cells #[.int .i64 op,.int .i64 fi,.int .i64 next,.int .i64 size] 138)
  have hn0:=own_new W V.heap.size 138 4 hb.size
  have hn1:=lies_alloc W [.int .i64 op,.int .i64 fi,.int .i64 next,.int .i64 size] 138
  refine T_two 0 16 (by kernel_rfl) (fun _=>?_) fun _=>?_
  · exact O_val (w':=W.alloc (.cells #[] 138)) (some 42) (.slice (some ⟨W.heap.size,0,none⟩) 0 0) (by kernel_rfl) (by kernel_rfl) (But.of_below hal0) (T_fr 20 79 [4,16,17,18,19] [(2,.pointer (some ⟨B2,0,none⟩)),(3,.pointer (some ⟨B3,0,none⟩)),(7,.string sa),(8,.string sb),(9,.pointer (some ⟨B9,0,none⟩)),(42,.slice (some ⟨W.heap.size,0,none⟩) 0 0),(45,.slice va n vc),(57,.agg #[.int .i64 op,.int .i64 fi,.int .i64 next,.int .i64 size])] (by kernel_rfl) fun u=>BB u _ hal0 _ hn0)
  · exact O_val (w':=W.alloc (.cells #[.int .i64 op,.int .i64 fi,.int .i64 next,.int .i64 size] 138)) (some 58) (.slice (some ⟨W.heap.size,0,none⟩) 1 1) (by kernel_rfl) (by kernel_rfl) (But.of_below hal1) (T_fr 20 79 [0,4,17,18,19] [(2,.pointer (some ⟨B2,0,none⟩)),(3,.pointer (some ⟨B3,0,none⟩)),(7,.string sa),(8,.string sb),(9,.pointer (some ⟨B9,0,none⟩)),(45,.slice va n vc),(58,.slice (some ⟨W.heap.size,0,none⟩) 1 1)] (by kernel_rfl) fun u=>C u _ hal1 _ hn1)
 refine T_a hq [1,2,3,5,6,7,8,9,10,11,12,13,14,15] (fun w h=>.cons (ldPts _ _ _ ((butcell h hB3 hne).trans h2)) (.cons (ldIntR _ _ _ ((butcell h hB3 hne).trans h3)) (.cons (ldIntR _ _ _ ((butcell h hB3 hne).trans h4)) (.cons (ldIntR _ _ _ ((butcell h hB3 hne).trans h7)) (.cons (ldIntR _ _ _ ((butcell h hB3 hne).trans h5)) (Lds.nil)))))) (by kernel_rfl) ?_
 exact T_fr 20 79 [0,4,16,17,18,19] [(2,.pointer (some ⟨B2,0,none⟩)),(3,.pointer (some ⟨B3,0,none⟩)),(7,.string sa),(8,.string sb),(9,.pointer (some ⟨B9,0,none⟩)),(45,.slice va n vc),(57,.agg #[.int .i64 op,.int .i64 fi,.int .i64 next,.int .i64 size])] (by kernel_rfl) fun u=>A u V (Below.refl _ _)
theorem info3L:(Try.prog.info? 115).map (·.size)=some 3:=by kernel_rfl
theorem rowPlanO:∃ d,Try.prog.underlying 115=some d∧d.isRow=true:=⟨_,Try.underlying115,by rfl⟩
theorem ldPlan {W:World} {b:Nat} {x y z:Value} (h:W.rowIs b 115 3 (row3 x y z)):(Instr.loadAt 115 (.pointer (some ⟨b,0,none⟩))).run Try.prog W=.ok (.agg #[x,y,z]) W:=by
 obtain ⟨dd,hdu,hdr⟩:=rowPlanO
 unfold Instr.loadAt
 simp only [Instr.sureAddr,Sem.run_bind,Sem.run_pure,Result.andThen_ok,run_loadVar_mid W b 0 115 [x,y,z] dd (range3 h) hdu hdr info3L]
noncomputable def cl8Ops:Array Oper:=fops Try.f90 8
theorem cl8_neat:Region.noSelect cl8Ops=true∧neat cl8Ops=true:=⟨by kernel_rfl,by kernel_rfl⟩
theorem cl8 (B3 B9 n cap:Nat) (a:Option Addr) (op fi num:Int) (sa sb y D:ByteArray) (W0:World) {l:List Value} (Q:Exit→Act→World→Prop) (hQ:∀ c a d v w,Q (.panic c) (Act.put a d v) w→Q (.panic c) a w) (h9:W0.drew.rowIs B9 115 3 (row3 (.slice a n cap) (.int .i64 op) (.int .i64 fi))) (hB3:B3 < W0.drew.heap.size) (h1:W0.drew.cell? ⟨B3,1,none⟩=some (.int .i64 num)) (hDs:D.size≤100) (HW:∀ W,Below W0.drew.heap.size W0.drew W→Calls Try.prog 68 #[.agg #[.slice a n cap,.int .i64 op,.int .i64 fi]] W fun e w'=>e=.returned (.string y)∧Below W.heap.size W w') (HD:∀ W,Calls Try.prog 71 #[.int .i64 num] W fun e w'=>e=.returned (.string D)∧Below W.heap.size W w')
 (hl:lookL [(3,.pointer (some ⟨B3,0,none⟩)),(7,.string sa),(8,.string sb),(9,.pointer (some ⟨B9,0,none⟩))] l=(79,([(3,.pointer (some ⟨B3,0,none⟩)),(7,.string sa),(8,.string sb),(9,.pointer (some ⟨B9,0,none⟩))]:List (Nat × Value)).map (·.2)))
 (hend:∀ (u:Nat→Value) (W:World) (g:Nat),Below W0.drew.heap.size W0.drew W→Lies W g [.int .i64 1,.string sa,.string ⟨#[]⟩,.int .i64 1,.string sb,.string ⟨#[]⟩,.int .i64 2,.string sb,.string y,.int .i64 3,.string sb,.string ⟨#[]⟩,.int .i64 5,.string ⟨#[]⟩,.string ⟨#[]⟩,.int .i64 4,.string (⟨#[109]⟩++D),.string ⟨#[]⟩,.int .i64 5,.string ⟨#[]⟩,.string ⟨#[]⟩]→W0.drew.heap.size≤g→Q .normal ⟨(frL u 79 [(4,.slice (some ⟨g,0,none⟩) 7 7),(5,.int .i64 0)]).toArray,[]⟩ W):(Code.region 8 cl8Ops true).wp Try.prog Q ⟨l.toArray,[]⟩ W0:=by
 obtain ⟨v0,rfl⟩:=look_fr hl
 have hq:NtQ cl8Ops Q:=⟨cl8_neat,hQ⟩
 refine T_start (S:=fun W=>Below W0.drew.heap.size W0.drew W) (by kernel_rfl) (Below.refl _ _) ?_
 clear hl hQ
 generalize W0.drew=V at h9 hB3 h1 HW hend ⊢
 refine T_a hq [0,1,2,3,4,5,8,9,10,11,12,16] (fun w h=>.cons (ldPlan (h9.of_block (h.block _ h9.lt))) (.cons (ldIntR _ _ _ ((h.cell hB3).trans h1)) (Lds.nil))) (by kernel_rfl) ?_
 refine T_fr 20 79 [6,7,13,14,15,17,18,19] [(3,.pointer (some ⟨B3,0,none⟩)),(7,.string sa),(8,.string sb),(9,.pointer (some ⟨B9,0,none⟩)),(61,.string sa),(62,.agg #[.int .i64 1,.string sa,.string ⟨#[]⟩]),(63,.string sb),(64,.agg #[.int .i64 1,.string sb,.string ⟨#[]⟩]),(65,.string sb),(66,.agg #[.slice a n cap,.int .i64 op,.int .i64 fi]),(69,.string sb),(70,.agg #[.int .i64 3,.string sb,.string ⟨#[]⟩]),(71,.agg #[.int .i64 5,.string ⟨#[]⟩,.string ⟨#[]⟩]),(72,.pointer (some ⟨B3,1,none⟩)),(73,.int .i64 num),(77,.agg #[.int .i64 5,.string ⟨#[]⟩,.string ⟨#[]⟩])] (by kernel_rfl) fun u=>?_
 refine T_one 6 (by kernel_rfl) fun _=>O_go (HW V (Below.refl _ _)) (by kernel_rfl) ?_
 rintro e w1 ⟨rfl,hb1⟩
 refine ⟨_,rfl,hb1,?_⟩
 refine T_z hq [7] (by kernel_rfl) ?_
 refine T_fr 20 79 [13,14,15,17,18,19] [(3,.pointer (some ⟨B3,0,none⟩)),(7,.string sa),(8,.string sb),(9,.pointer (some ⟨B9,0,none⟩)),(61,.string sa),(62,.agg #[.int .i64 1,.string sa,.string ⟨#[]⟩]),(63,.string sb),(64,.agg #[.int .i64 1,.string sb,.string ⟨#[]⟩]),(65,.string sb),(66,.agg #[.slice a n cap,.int .i64 op,.int .i64 fi]),(67,.string y),(68,.agg #[.int .i64 2,.string sb,.string y]),(69,.string sb),(70,.agg #[.int .i64 3,.string sb,.string ⟨#[]⟩]),(71,.agg #[.int .i64 5,.string ⟨#[]⟩,.string ⟨#[]⟩]),(72,.pointer (some ⟨B3,1,none⟩)),(73,.int .i64 num),(77,.agg #[.int .i64 5,.string ⟨#[]⟩,.string ⟨#[]⟩])] (by kernel_rfl) fun u=>?_
 refine T_one 13 (by kernel_rfl) fun _=>O_go (HD w1) (by kernel_rfl) ?_
 rintro e w2 ⟨rfl,hb2⟩
 refine ⟨_,rfl,hb1.trans (hb2.mono hb1.size),?_⟩
 refine T_yld hq 14 (some 75) (.string (⟨#[109]⟩++D)) (by kernel_rfl) (by kernel_rfl) (fun w h=>addRun (T:=9) (X:=.const (.string ⟨#[109]⟩)) (Y:=.tmp 74) (p:=⟨#[109]⟩) (q:=D) (by kernel_rfl) (by kernel_rfl) (by kernel_rfl) (by have e:(⟨#[109]⟩:ByteArray).size=1:=rfl;omega) w) ?_
 refine T_z hq [15] (by kernel_rfl) ?_
 refine T_fr 20 79 [17,18,19] [(3,.pointer (some ⟨B3,0,none⟩)),(7,.string sa),(8,.string sb),(9,.pointer (some ⟨B9,0,none⟩)),(62,.agg #[.int .i64 1,.string sa,.string ⟨#[]⟩]),(64,.agg #[.int .i64 1,.string sb,.string ⟨#[]⟩]),(68,.agg #[.int .i64 2,.string sb,.string y]),(70,.agg #[.int .i64 3,.string sb,.string ⟨#[]⟩]),(71,.agg #[.int .i64 5,.string ⟨#[]⟩,.string ⟨#[]⟩]),(76,.agg #[.int .i64 4,.string (⟨#[109]⟩++D),.string ⟨#[]⟩]),(77,.agg #[.int .i64 5,.string ⟨#[]⟩,.string ⟨#[]⟩])] (by kernel_rfl) fun u=>?_
 have hb12:=hb1.trans (hb2.mono hb1.size)
 refine T_one 17 (by kernel_rfl) fun _=>?_
 refine O_val (w':=w2.alloc (.cells #[.int .i64 1,.string sa,.string ⟨#[]⟩,.int .i64 1,.string sb,.string ⟨#[]⟩,.int .i64 2,.string sb,.string y,.int .i64 3,.string sb,.string ⟨#[]⟩,.int .i64 5,.string ⟨#[]⟩,.string ⟨#[]⟩,.int .i64 4,.string (⟨#[109]⟩++D),.string ⟨#[]⟩,.int .i64 5,.string ⟨#[]⟩,.string ⟨#[]⟩] 29)) (some 78) (.slice (some ⟨w2.heap.size,0,none⟩) 7 7) (by kernel_rfl) (by kernel_rfl) (hb12.alloc hb12.size _) ?_
 refine T_z hq [18,19] (by kernel_rfl) ?_
 exact T_end 79 [(4,.slice (some ⟨w2.heap.size,0,none⟩) 7 7),(5,.int .i64 0)] (by kernel_rfl) (by kernel_rfl) fun hS u=>hend u _ w2.heap.size hS (lies_alloc w2 [.int .i64 1,.string sa,.string ⟨#[]⟩,.int .i64 1,.string sb,.string ⟨#[]⟩,.int .i64 2,.string sb,.string y,.int .i64 3,.string sb,.string ⟨#[]⟩,.int .i64 5,.string ⟨#[]⟩,.string ⟨#[]⟩,.int .i64 4,.string (⟨#[109]⟩++D),.string ⟨#[]⟩,.int .i64 5,.string ⟨#[]⟩,.string ⟨#[]⟩] 29) hb12.size
def WrE9 (n:Nat) (w w':World) (e:Ending):Prop:=∃ (ws:List Wr) (v:Value) (code:Int),e=.returned (.tuple #[v,.int .i64 code])∧WsAt (New w w') w' v ws∧ws.length≤n∧(∀ x,x∈ws→x.x.size≤1000∧x.y.size≤1000000)∧Below w.heap.size w w'
theorem ws_lies {W:World} {g cap:Nat} {ws:List Wr} (h:Lies W g (ws.map Wr.cs).flatten) (hl:ws.length≤1000000) (hok:∀ x,x∈ws→x.x.size≤1000∧x.y.size≤1000000):WsAt (·=g) W (.slice (some ⟨g,0,none⟩) ws.length cap) ws:=by
 refine ⟨⟨some ⟨g,0,none⟩,cap,by rw [List.length_map],by rw [List.length_map];omega,fun i hi=>⟨g,0,rfl,rfl,fun j hj=>?_⟩⟩,fun x hx=>by have:=hok x hx;exact ⟨by omega,by omega⟩⟩
 have h1:=h.2 (i * 3+j) _ (flat_get (ws.map Wr.cs) (fun r hr=>by obtain ⟨x,-,rfl⟩:=List.mem_map.1 hr;rfl) i hi j hj)
 rw [addr_add] at h1
 rw [Nat.zero_add] at h1 ⊢
 exact h1
theorem ws_nil {P:Nat→Prop} {w:World} (a:Option Addr) (cap:Nat):WsAt P w (.slice a 0 cap) []:=⟨⟨a,cap,rfl,by decide,fun i hi=>absurd hi (Nat.not_lt_zero i)⟩,fun _ h=>by cases h⟩
theorem plT_len8 {l:Pl} (h:plOk l):(plT l).length≤20000:=by
 have h1:=plX_len h l.parts.length (Nat.le_refl _)
 have ho:=op_nn h
 have h2:=opnL_len (l:=l) ⟨⟨by have:=ho.1.1;omega,by have:=ho.1.2;omega⟩,⟨by have:=ho.2.1;omega,by have:=ho.2.2;omega⟩⟩
 have h3:=h.1
 unfold plT
 rw [List.length_append,List.length_append]
 have:endL.length=4:=rfl
 omega
theorem plW_size8 (l:Pl):(plW l).size≤20000:=by
 by_cases h:plOk l
 · rw [plW_yes h]
   have h3:=plT_len8 h
   simpa [ByteArray.size] using h3
 · rw [plW_no h];decide
theorem pts_flat (ps:List Pt):(ps.map Pt.cs).flatten.length=ps.length * 4:=by
 have:=flat_len (ps.map Pt.cs) (n:=4) (fun r hr=>by obtain ⟨x,-,rfl⟩:=List.mem_map.1 hr;rfl)
 rw [List.length_map] at this;exact this
theorem pts_one (ps:List Pt):∀ u∈(ps.map Pt.cs).flatten,u.oneCell'=true:=fun u hu=>by
 obtain ⟨r,hr,hu⟩:=List.mem_flatten.1 hu
 obtain ⟨x,-,rfl⟩:=List.mem_map.1 hr
 simp only [Pt.cs,List.mem_cons,List.not_mem_nil,or_false] at hu
 rcases hu with rfl | rfl | rfl | rfl <;> rfl
theorem pts_snoc (ps:List Pt) (q:Pt):((ps++[q]).map Pt.cs).flatten=(ps.map Pt.cs).flatten++[.int .i64 q.num,.int .i64 q.first,.int .i64 q.next,.int .i64 q.size]:=by
 rw [List.map_append,List.flatten_append];rfl
theorem pts_src {P:Nat→Prop} {W:World} {a:Option Addr} {cap:Nat} {ps:List Pt} (h:PtsAt P W (.slice a ps.length cap) ps) (hP:∀ b,P b→b < W.heap.size) (h0:0 < ps.length):∃ ad,a=some ad∧ad.block < W.heap.size∧∀ j u,(ps.map Pt.cs).flatten[j]? = some u→W.cell? (ad.add j)=some u:=by
 obtain ⟨ad,e,hc⟩:=flat_src h (fun r hr=>by obtain ⟨x,-,rfl⟩:=List.mem_map.1 hr;rfl) h0
 obtain ⟨a',c',e',-,hcell⟩:=h.open
 simp only [Value.slice.injEq] at e'
 obtain ⟨rfl,-,-⟩:=e'
 obtain ⟨b,o,e2,hb,-⟩:=hcell 0 h0
 rw [e] at e2
 obtain rfl:=Option.some.inj e2
 exact ⟨_,e,hP b hb,hc⟩
theorem l44Close_any (d:Dk) (c:C3) (code num size next:Int) (torn:Bool) (l:Pl) (vP:Value) (a8:Option Addr) (n8 p8:Nat) (P Q:Nat→Prop) (w:World) (hP:∀ b,P b→b < w.heap.size) (hQ:∀ b,Q b→b < w.heap.size) (hd:DkAt P w d c) (hnm:∀ f,f∈d.files→f.name.size≤1048576) (hs:StOk Q w num l vP) :
 Calls Try.prog 90 #[.agg #[c.c0,c.c1,c.c2],.agg #[.int .i64 code,.int .i64 num,vP,.int .i64 l.op,.int .i64 l.fi,.int .i64 size,.bool torn,.int .i64 next,.slice a8 n8 p8]] w fun e w'=>WrE9 7 w w' e:=by
 have HTP:=xH (fun W (hW:Below w.heap.size w W)=>l44Top_any d P c W (fun b hb=>Nat.lt_of_lt_of_le (hP b hb) hW.size) (hd.carry (fun b hb=>hW.block b (hP b hb)) (fun _ h=>h)) hnm)
 obtain ⟨c0,c1,c2⟩:=c
 obtain ⟨a0,p0,g0,hfl,-⟩:=hd.fs.open
 obtain ⟨a1,p1,g1,-,-⟩:=id hd.ns
 obtain ⟨a2,p2,g2,-,-⟩:=hd.ms.open
 simp only at g0 g1 g2
 subst g0 g1 g2
 obtain ⟨va,vc,rfl,-,-⟩:=hs.pts.open
 have hb0:Below w.heap.size w ((w.alloc (.cells #[.slice a0 d.files.length p0,.slice a1 d.names.length p1,.slice a2 d.moves.length p2] 27)).alloc (.cells #[.int .i64 code,.int .i64 num,.slice va l.parts.length vc,.int .i64 l.op,.int .i64 l.fi,.int .i64 size,.bool torn,.int .i64 next,.slice a8 n8 p8] 118)):=((Below.refl _ _).alloc (Nat.le_refl _) _).alloc (by simp) _
 have hr1:=(row3_alloc w (.slice a0 d.files.length p0) (.slice a1 d.names.length p1) (.slice a2 d.moves.length p2) 27).alloc (.cells #[.int .i64 code,.int .i64 num,.slice va l.parts.length vc,.int .i64 l.op,.int .i64 l.fi,.int .i64 size,.bool torn,.int .i64 next,.slice a8 n8 p8] 118)
 have hr2:=row9_alloc (w.alloc (.cells #[.slice a0 d.files.length p0,.slice a1 d.names.length p1,.slice a2 d.moves.length p2] 27)) (.int .i64 code) (.int .i64 num) (.slice va l.parts.length vc) (.int .i64 l.op) (.int .i64 l.fi) (.int .i64 size) (.bool torn) (.int .i64 next) (.slice a8 n8 p8) 118
 rw [World.size_alloc] at hr2
 have hz0:((w.alloc (.cells #[.slice a0 d.files.length p0,.slice a1 d.names.length p1,.slice a2 d.moves.length p2] 27)).alloc (.cells #[.int .i64 code,.int .i64 num,.slice va l.parts.length vc,.int .i64 l.op,.int .i64 l.fi,.int .i64 size,.bool torn,.int .i64 next,.slice a8 n8 p8] 118)).heap.size=w.heap.size+2:=by simp
 have hsrc:=flat_src hs.pts (fun r hr=>by obtain ⟨x,-,rfl⟩:=List.mem_map.1 hr;rfl)
 have HB0:=xH hb0;have HR1:=xH hr1;have HR2:=xH hr2;have HZ0:=xH hz0
 have hnum:=hs.num;have hlen:=hs.len
 have HST:=xH hs;have HQ:=xH hQ
 clear hP hQ hd hb0 hr1 hr2 hz0 hnm hs hsrc
 go_enter Try.func90,Try.ntmps90
 go_wp2_with fail
 generalize ((w.alloc (.cells #[.slice a0 d.files.length p0,.slice a1 d.names.length p1,.slice a2 d.moves.length p2] 27)).alloc (.cells #[.int .i64 code,.int .i64 num,.slice va l.parts.length vc,.int .i64 l.op,.int .i64 l.fi,.int .i64 size,.bool torn,.int .i64 next,.slice a8 n8 p8] 118))=W0 at HB0 HR1 HR2 HZ0 ⊢
 refine (HTP.out W0 HB0.out).mono ?_
 rintro e w1 ⟨top,rfl,htop,hb1⟩
 have HB1:=xH (HB0.out.trans (hb1.mono HB0.out.size))
 have hr:=HR2.out.of_block (hb1.block _ HR2.out.lt)
 have hrd:=HR1.out.of_block (hb1.block _ HR1.out.lt)
 have HRS:=xH hr
 obtain ⟨z0,z1,z2,z3,z4,z5,z6,z7,z8⟩:=cell9 hr
 have k0:=hrd.cell (i:=0) (by omega)
 simp only [row3] at k0
 have hw1:w.heap.size+2≤w1.heap.size:=by have:=HZ0.out;have:=hb1.size;omega
 clear hb1 hr hrd HTP HB0 HR1 HR2 HZ0
 have HNO:Hid (WrE9 7 w (w1.alloc (.cells #[] 29)) (.returned (.tuple #[.slice (some ⟨w1.heap.size,0,none⟩) 0 0,.int .i64 4]))):=⟨[],_,4,rfl,ws_nil _ _,by decide,fun x hx=>(by cases hx),HB1.out.alloc HB1.out.size _⟩
 by_cases h1:999999≤top
 · have e1:decide ((999999:Int)≤(top:Int))=true:=decide_eq_true (by omega)
   go_wp2_with fail
   refine bodyPost_ret (v:=.tuple #[.slice (some ⟨w1.heap.size,0,none⟩) 0 0,.int .i64 4]) (by simp [results,Try.results90,go_sem]) rfl ?_
   exact xU HNO
 have e1:decide ((999999:Int)≤(top:Int))=false:=decide_eq_false (by omega)
 by_cases h2:40≤l.parts.length
 · have e2:decide ((40:Int)≤(l.parts.length:Int))=true:=decide_eq_true (by omega)
   go_wp2_with fail
   refine bodyPost_ret (v:=.tuple #[.slice (some ⟨w1.heap.size,0,none⟩) 0 0,.int .i64 4]) (by simp [results,Try.results90,go_sem]) rfl ?_
   exact xU HNO
 have e2:decide ((40:Int)≤(l.parts.length:Int))=false:=decide_eq_false (by omega)
 cases e3:decide ((64:Int) < wrap64 ((d.files.length:Int)+2)) with
 | true =>
   go_wp2_with fail
   refine bodyPost_ret (v:=.tuple #[.slice (some ⟨w1.heap.size,0,none⟩) 0 0,.int .i64 4]) (by simp [results,Try.results90,go_sem]) rfl ?_
   exact xU HNO
 | false =>
 clear HNO
 obtain ⟨D1,hD1⟩:∃ D:ByteArray,⟨(Lib.itoa ((top:Int)+1)).toArray⟩=D:=⟨_,rfl⟩
 have HD1:=xH (fun W=>l6Dec_any ((top:Int)+1) W (by omega) (by omega))
 have hsD1:D1.size≤100:=by rw [← hD1];exact decB_le (by omega) (by omega)
 rw [hD1] at HD1
 obtain ⟨E1,hE1⟩:∃ E:ByteArray,⟨#[115]⟩++D1=E:=⟨_,rfl⟩
 obtain ⟨E2,hE2⟩:∃ E:ByteArray,⟨#[109]⟩++D1=E:=⟨_,rfl⟩
 have haE1:∀ T,binOp .add T (.string ⟨#[115]⟩) (.string D1)=pure (.string E1):=fun T=>by
  rw [← hE1];exact addP T _ _ (by have e:(⟨#[115]⟩:ByteArray).size=1:=rfl;omega)
 have haE2:∀ T,binOp .add T (.string ⟨#[109]⟩) (.string D1)=pure (.string E2):=fun T=>by
  rw [← hE2];exact addP T _ _ (by have e:(⟨#[109]⟩:ByteArray).size=1:=rfl;omega)
 have hsE:E1.size≤1000∧E2.size≤1000:=by
  have e1:(⟨#[115]⟩:ByteArray).size=1:=rfl
  have e2:(⟨#[109]⟩:ByteArray).size=1:=rfl
  rw [← hE1,← hE2,ByteArray.size_append,ByteArray.size_append];omega
 obtain ⟨D3,hD3⟩:∃ D:ByteArray,⟨(Lib.itoa num).toArray⟩=D:=⟨_,rfl⟩
 have HD3:=xH (fun W=>l6Dec_any num W (by omega) (by omega))
 have hsD3:D3.size≤100:=by rw [← hD3];exact decB_le (by omega) (by omega)
 rw [hD3] at HD3
 clear hD1 hE1 hE2 hD3 hsD1
 go_wp2_with fail
 refine (HD1.out w1).mono ?_
 rintro e w2 ⟨rfl,hb2⟩
 have HB2:=xH (HB1.out.trans (hb2.mono HB1.out.size))
 have HRS2:=xH (HRS.out.of_block (hb2.block _ HRS.out.lt))
 have hw2:w.heap.size+2≤w2.heap.size:=Nat.le_trans hw1 hb2.size
 clear hb2 HB1 HRS z0 z1 z2 z3 z4 z5 z6 z7 z8 k0 hw1
 go_wp2_with fail
 refine (HD1.out w2).mono ?_
 rintro e w3 ⟨rfl,hb3⟩
 have HB3:=xH (HB2.out.trans (hb3.mono HB2.out.size))
 have HRS3:=xH (HRS2.out.of_block (hb3.block _ HRS2.out.lt))
 have hw3:w.heap.size+2≤w3.heap.size:=Nat.le_trans hw2 hb3.size
 obtain ⟨z0,z1,z2,z3,z4,z5,z6,z7,z8⟩:=cell9 HRS3.out
 have zl:=HRS3.out.lt
 clear hb3 HB2 HRS2 hw2 HD1
 go_upto_region 7 with fail
 have HP9:=xH (row3_alloc w3 (.slice none 0 0) (.int .i64 ((top:Int)+1)) (.int .i64 next) 115)
 have HB4:=xH (HB3.out.alloc HB3.out.size (.cells #[.slice none 0 0,.int .i64 ((top:Int)+1),.int .i64 next] 115))
 have HR4:=xH (HRS3.out.alloc (.cells #[.slice none 0 0,.int .i64 ((top:Int)+1),.int .i64 next] 115))
 clear z0 z1 z2 z3 z4 z5 z6 z7 z8 HRS3 HB3 zl
 generalize w3.alloc (.cells #[.slice none 0 0,.int .i64 ((top:Int)+1),.int .i64 next] 115)=W4 at HP9 HB4 HR4 ⊢
 obtain ⟨z0,z1,z2,z3,z4,z5,z6,z7,z8⟩:=cell9 HR4.out
 refine wp_swap (c':=Code.region 7 cl7Ops true) (by kernel_rfl) ?_
 refine wp_region_noPanic ?_
 refine cl7 w.heap.size (w.heap.size+1) w3.heap.size l.parts.length vc va (l.parts.map Pt.cs).flatten l.op l.fi next size (.int .i64 ((top:Int)+1)) (.int .i64 next) E1 E2 W4 _ (fun _ _ _ _ _ h=>h) HR4.out.lt (by omega) z2 z3 z4 z5 z7 (HP9.out.of_block rfl) (fun h=>?_) (pts_flat l.parts) (pts_one l.parts) (by omega) (by kernel_rfl) ?_
 · obtain ⟨ad,e,hb,hc⟩:=pts_src HST.out.pts HQ.out h
   exact ⟨ad,e,Nat.lt_of_lt_of_le hb HB4.out.size,fun j u hj=>((HB4.out.cell (show (ad.add j).block < w.heap.size by rw [add_block];exact hb))).trans (hc j u hj)⟩
 intro u W5 a cap hbt hr9 hown
 refine NoPanic.normal ?_
 simp only [frL_eq,frG,List.lookup,Nat.reduceBEq,Nat.reduceAdd,Option.getD_some,Option.getD_none]
 have hp9:=HP9.out.lt
 have HB5:Hid (Below w.heap.size w W5):=HB4.out.trans (show Below w.heap.size W4 W5 from ⟨hbt.os,hbt.tape,hbt.output,hbt.size,fun i hi=>hbt.at (show i < W4.heap.size by have:=HB4.out.size;omega) (by omega)⟩)
 have HR5:=xH (HR4.out.of_block (hbt.at (show w.heap.size+1 < W4.heap.size from HR4.out.lt) (by omega)))
 have hfo:=FlatOwn.of_row (rs:=(l.parts++[(⟨l.op,l.fi,next,size⟩:Pt)]).map Pt.cs) (n:=4) (by rw [List.length_map,List.length_append,pts_snoc];exact hown) (fun r hr=>by obtain ⟨x,-,rfl⟩:=List.mem_map.1 hr;rfl)
 obtain ⟨F,hF,-,hFb,-⟩:=hfo
 have HPT:=xH (show PtsAt (·∈F) W5 (.slice a (l.parts.length+1) cap) (l.parts++[(⟨l.op,l.fi,next,size⟩:Pt)]) from hF.at)
 have HFB:Hid (∀ b,b∈F→b < W5.heap.size):=fun b hb=>(hFb b hb).2
 have HR9:=xH hr9
 have hw5:w.heap.size+2≤W5.heap.size:=by have:W4.heap.size≤W5.heap.size:=hbt.size;omega
 clear hbt hr9 hown hF hFb HB4 HR4 HP9 z0 z1 z2 z3 z4 z5 z6 z7 z8 hp9
 obtain ⟨lp,hlp⟩:∃ lp:Pl,lp=⟨l.parts++[(⟨l.op,l.fi,next,size⟩:Pt)],(top:Int)+1,next⟩:=⟨_,rfl⟩
 have HPW:Hid (∀ W,Below W5.heap.size W5 W→Calls Try.prog 68 #[.agg #[.slice a (l.parts.length+1) cap,.int .i64 ((top:Int)+1),.int .i64 next]] W fun e w'=>e=.returned (.string (plW lp))∧Below W.heap.size W w'):=fun W hW=>by
  rw [hlp]
  exact specLogPlanWrite_any ⟨l.parts++[(⟨l.op,l.fi,next,size⟩:Pt)],(top:Int)+1,next⟩ (·∈F) _ W (fun b hb=>Nat.lt_of_lt_of_le (HFB.out b hb) hW.size) (HPT.out.carry (fun b hb=>hW.block b (HFB.out b hb)) (fun _ h=>h))
 have hwl:=plW_size8 lp
 go_upto_region 8 with fail
 refine wp_swap (c':=Code.region 8 cl8Ops true) (by kernel_rfl) ?_
 refine wp_region_noPanic ?_
 have z1:=(cell9 HR5.out).2.1
 refine cl8 (w.heap.size+1) w3.heap.size (l.parts.length+1) cap a ((top:Int)+1) next num E1 E2 (plW lp) D3 W5 _ (fun _ _ _ _ _ h=>h) (HR9.out.of_block rfl) HR5.out.lt z1 hsD3 (fun W hW=>HPW.out W ((Below.refl _ _).drew.trans (hW:Below W5.drew.heap.size W5.drew W))) HD3.out (by kernel_rfl) ?_
 intro u2 W6 g hb6 hli hg
 refine NoPanic.normal ?_
 simp only [frL_eq,frG,List.lookup,Nat.reduceBEq,Nat.reduceAdd,Option.getD_some,Option.getD_none]
 have hok:∀ x,x∈([⟨1,E1,⟨#[]⟩⟩,⟨1,E2,⟨#[]⟩⟩,⟨2,E2,(plW lp)⟩,⟨3,E2,⟨#[]⟩⟩,⟨5,⟨#[]⟩,⟨#[]⟩⟩,⟨4,(⟨#[109]⟩++D3),⟨#[]⟩⟩,⟨5,⟨#[]⟩,⟨#[]⟩⟩]:List Wr)→x.x.size≤1000∧x.y.size≤1000000:=fun x hx=>by
  have h3:(⟨#[109]⟩++D3:ByteArray).size≤1000:=by
   have e2:(⟨#[109]⟩:ByteArray).size=1:=rfl
   rw [ByteArray.size_append];omega
  have h0:(⟨#[]⟩:ByteArray).size=0:=rfl
  simp only [List.mem_cons,List.not_mem_nil,or_false] at hx
  rcases hx with rfl | rfl | rfl | rfl | rfl | rfl | rfl <;> refine ⟨?_,?_⟩ <;> simp only <;> omega
 have HEND:Hid (WrE9 7 w W6 (.returned (.tuple #[.slice (some ⟨g,0,none⟩) 7 7,.int .i64 0]))):=by
  have hb56:Below W5.heap.size W5 W6:=(Below.refl _ _).drew.trans hb6
  have hgl:W5.heap.size≤g:=hg
  exact ⟨[⟨1,E1,⟨#[]⟩⟩,⟨1,E2,⟨#[]⟩⟩,⟨2,E2,(plW lp)⟩,⟨3,E2,⟨#[]⟩⟩,⟨5,⟨#[]⟩,⟨#[]⟩⟩,⟨4,(⟨#[109]⟩++D3),⟨#[]⟩⟩,⟨5,⟨#[]⟩,⟨#[]⟩⟩],_,0,rfl,(ws_lies (cap:=7) hli (by simp) hok).carry (fun _ _=>rfl) (fun b hb=>by rw [hb];exact ⟨by omega,hli.1⟩),by simp,hok,HB5.out.trans (hb56.mono HB5.out.size)⟩
 clear hb6 hli hg hok HPW HD3 HR5 HR9 HB5 z1
 go_wp2_with fail
 refine bodyPost_ret (v:=.tuple #[.slice (some ⟨g,0,none⟩) 7 7,.int .i64 0]) (by simp [results,Try.results90,go_sem]) rfl ?_
 exact xU HEND
end Go.Proofs.Yteikmbkljkkjiaa
