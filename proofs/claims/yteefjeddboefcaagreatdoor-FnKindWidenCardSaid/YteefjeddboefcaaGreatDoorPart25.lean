/- A part. -/
import Derived.Test.YteefjeddboefcaaGreatDoorPart24
namespace Go.Proofs.YteefjeddboefcaaGreatDoor
open Go Go.RowKit
set_option maxRecDepth 100000
set_option maxHeartbeats 6400000
theorem stStrsW (w:World) (ad:Addr) (a:Option Addr) (n c:Nat) (u:Value) (h:w.cell? ad=some u) (hf:w.frozen? ad=false):(Instr.storeAt 23 (.pointer (some ad)) (.slice a n c)).run Tryz.prog w=.ok () (w.setCell ad (.slice a n c)):=by
 simp [Instr.storeAt,Instr.sureAddr,storeVar,h,hf,go_sem]
theorem SInv.kid2 {base B m:Nat} {w w':World} {s:Int} {vN vK v':Value} {ns:List ByteArray} {ks:List Tr} {xs:List Value} {G F:List Nat} {t:Tr} {c:C5} (h:SInv base B w s vN vK ns ks xs G)
 (ht:Own w t c F) (hnd:F.Nodup) (hF:∀ b,b∈F→m≤b∧b < w.heap.size) (hGm:∀ b,b∈G→b < m) (hvm:∀ b,vK.ownBlock=some b→b < m) (hnF:∀ b,vN.ownBlock=some b→b∉F) (hbm:base≤m)
 (hown:w'.ownsRow base 29 5 v' (ks.length+1) (xs++c5l c)) (hg:w.grownBy w' vK.ownBlock) (hv:v'.ownBlock=vK.ownBlock∨∃ g,v'.ownBlock=some g∧w.heap.size≤g) :
 SInv base B (w'.setCell ⟨B,4,none⟩ v') s vN v' ns (ks++[t]) (xs++c5l c) (G++F):=by
 have hBn:vN.ownBlock≠some B:=fun e=>by have:=(h.names.lt B e).1;have:=h.hB;omega
 have hBk:vK.ownBlock≠some B:=fun e=>by have:=(h.got.row.lt B e).1;have:=h.hB;omega
 have hset:w'.grownBy (w'.setCell ⟨B,4,none⟩ v') (some B):=⟨rfl,rfl,rfl,by simp [World.setCell],fun k _ hk=>Below.heap_setCell _ _ _ _ (fun e=>hk (by rw [e]))⟩
 have hBv:v'.ownBlock≠some B:=fun e=>by have:=(hown.lt B e).1;have:=h.hB;omega
 have hpush:=GotO.push h.got ht hnd hF hGm hvm hbm hown hg hv
 refine ⟨h.hB,row5_set4 (h.cells.of_block (hg.block B h.cells.lt (fun e=>hBk e.symm))) v',?_,hpush.other hset (fun b e=>by cases e;exact ⟨hBv,fun hm=>by have:=(hpush.lt _ hm).1;have:=h.hB;omega⟩),fun b hb=>?_,by have:=hg.size;have:=h.size;simp [World.setCell];omega⟩
 · refine (h.names.kept hg ?_).kept hset (Or.inr (fun e=>hBn e))
   rcases e:vN.ownBlock with _ | g
   · exact Or.inl rfl
   · exact Or.inr (fun e2=>(h.apart g e).1 e2.symm)
 · have ha:=h.apart b hb
   have hbw:=(h.names.lt b hb).2
   refine ⟨?_,fun hm=>?_⟩
   · rcases hv with e | ⟨g,e,hge⟩
     · rw [e];exact ha.1
     · rw [e];intro e2;simp only [Option.some.injEq] at e2;omega
   · rcases List.mem_append.1 hm with hm | hm
     · exact ha.2 hm
     · exact hnF b hb hm
noncomputable def ws25Ops:Array Oper:=fops Tryz.f23 25
theorem ws25_neat:Region.noSelect ws25Ops=true∧neat ws25Ops=true:=⟨by kernel_rfl,by kernel_rfl⟩
def kp_ws25 (z:Nat→Value):List (Nat × Value):=[0,1,2,3,5,6,8,9,11,12,13,14,15,16,17,18,19,20,21,22,23,24,25,26,27,28,29,30,31,32,33,34,35,36,37,38,39,40,41,42,43,44,45,46,47,48,49,50,51,52,53,54,55,56,57,58,59,60,61,62,63,64,65,66,67,68,69,70,71,72,73,74,75,76,77,78,79,80,81,82,83,84,85,86,87,88,89,90,91,92,93,94,95,96,97,98,99,100,101,102,103,104,105,106,107,108,109,110,111,112,113,114,115,116,117,118,119,120,121,122,123,124,125,126,127,128,129,130,131,132,133,144,145,146,147,148,149,150].map fun i=>(i,z i)
theorem ws25z (z:Nat→Value) (LL:(Nat→Value)→List Value) (lo C:Nat) (nb no nn nc i:Nat) (nm:ByteArray) (s:Int) (vK:Value) (ns:List ByteArray) (aN:Option Addr) (capN:Nat) (ks:List Tr) (xs:List Value) (G:List Nat) (W0:World) {l:List Value} (Q:Exit→Act→World→Prop) (hQ:∀ c a d v w,Q (.panic c) (Act.put a d v) w→Q (.panic c) a w)
 (hC:C < lo∧W0.drew.cell? ⟨C,1,none⟩=some (.slice (some ⟨nb,no,none⟩) nn nc)) (hnm:nb < lo∧W0.drew.cell? ⟨nb,no+i,none⟩=some (.string nm)) (hi1:i < nn) (hi2:i < 1000000) (hnl:ns.length=i)
 (hS:SInv (lo+1) lo W0.drew s (.slice aN i capN) vK ns ks xs G)
 (hl:lookL (kp_ws25 z++[(4,.pointer (some ⟨C,0,none⟩)),(7,.pointer (some ⟨lo,0,none⟩)),(10,.int .i64 (i:Nat))]) l=(151,(kp_ws25 z++[(4,.pointer (some ⟨C,0,none⟩)),(7,.pointer (some ⟨lo,0,none⟩)),(10,.int .i64 (i:Nat))]:List (Nat × Value)).map (·.2))) (hfr:∀ u:Nat→Value,frL u 151 (kp_ws25 z++[(4,.pointer (some ⟨C,0,none⟩)),(7,.pointer (some ⟨lo,0,none⟩)),(10,.int .i64 (i:Nat))])=LL u)
 (hend:∀ (u:Nat→Value) (a':Option Addr) (cap':Nat) (W':World),SInv (lo+1) lo W' s (.slice a' (i+1) cap') vK (ns++[nm]) ks xs G→Below lo W0.drew W'→(∀ x,x < W0.drew.heap.size→x≠lo→(Value.slice aN i capN).ownBlock≠some x→W'.heap[x]? = W0.drew.heap[x]?)→((Value.slice a' (i+1) cap').ownBlock=(Value.slice aN i capN).ownBlock∨∃ g,(Value.slice a' (i+1) cap').ownBlock=some g∧W0.drew.heap.size≤g)→Q .normal ⟨(LL u).toArray,[]⟩ W'):(Code.region 25 ws25Ops true).wp Tryz.prog Q ⟨l.toArray,[]⟩ W0:=by
 obtain ⟨v0,rfl⟩:=look_fr hl
 have hq:NtQ ws25Ops Q:=⟨ws25_neat,hQ⟩
 refine T_start (S:=fun W=>∀ x,x < lo→W.heap[x]? = W0.drew.heap[x]?) (by kernel_rfl) (fun _ _=>rfl) ?_
 clear hl hQ
 generalize W0.drew=B at hC hnm hS hend ⊢
 have hsz:=hS.size
 have Q1:∀ (u:Nat→Value),wpS Tryz.prog ws25Ops Q (fun W=>∀ x,x < lo→W.heap[x]? = B.heap[x]?) (unl 11 [8,9,10],frL u 151 (kp_ws25 z++[(4,.pointer (some ⟨C,0,none⟩)),(7,.pointer (some ⟨lo,0,none⟩)),(10,.int .i64 (i:Nat)),(134,.pointer (some ⟨lo,3,none⟩)),(135,.slice aN i capN),(141,.slice (some ⟨B.heap.size,0,none⟩) 1 1)])) [] (B.alloc (.cells #[.string nm] 9)):=by
  intro u
  obtain ⟨i0,hi0,hi1,hi2,hi3⟩:=info_parts infoStrS
  have hrow:=hS.names
  rw [hnl] at hrow
  refine T_one 8 (by kernel_rfl) fun hS0=>O_list (some 142) (by kernel_rfl) ?_
  refine append_row _ (by kernel_rfl) (.tmp 135) (.tmp 141) 23 (by kernel_rfl) (lo+1) 9 i0 (.string ByteArray.empty) 1 16 Tryz.underlying23 hi0 hi1 hi2 hi3 rfl (by decide) (.slice aN i capN) i (ns.map Value.string) (by kernel_rfl) (hrow.alloc _) ⟨B.heap.size,0,none⟩ 1 1 [.string nm] (by kernel_rfl) rfl (cell_one B _ _) (fun u hu=>by simp at hu;subst hu;rfl) (by decide) (by unfold maxLen;omega) (by omega) (by rw [World.size_alloc];omega) ?_
  intro v' W3 hown hgrow hat
  obtain ⟨g5,cap5,rfl,-,-⟩:=hown.form (by omega)
  have u3:=(SInv.atN hS hgrow).cell (i:=3) (by omega)
  have uz3:=(SInv.atN hS hgrow).frozen 3
  simp only [row5] at u3
  have hinv:=SInv.name (hS.kept (World.grownBy_alloc B (.cells #[.string nm] 9) none)) (by rw [hnl];exact hown) hgrow (hat.elim Or.inl fun ⟨g,e,h⟩=>Or.inr ⟨g,e,h⟩)
  have hbl:Below lo B (W3.setCell ⟨lo,3,none⟩ (.slice (some ⟨g5,0,none⟩) (i+1) cap5)) :=
   (((Below.refl lo B).alloc (by omega) (.cells #[.string nm] 9)).grown hgrow (by rw [World.size_alloc];omega) (fun b e=>by have:=(hS.names.lt b e).1;omega)).setCell (by simp) _
  have h17:∀ x,x < lo→W3.heap[x]? = B.heap[x]? := fun x hx=>by
   rw [← hbl.block x hx]
   exact (Below.heap_setCell _ _ _ _ (fun e=>by simp only at e;omega)).symm
  have hkp:∀ x,x < B.heap.size→x≠lo→(Value.slice aN i capN).ownBlock≠some x→(W3.setCell ⟨lo,3,none⟩ (.slice (some ⟨g5,0,none⟩) (i+1) cap5)).heap[x]? = B.heap[x]? := fun x hx hn ho=>by
   rw [Below.heap_setCell _ _ _ _ (fun e=>hn (by simpa using e)),hgrow.block x (by rw [World.size_alloc];omega) (fun e=>ho e.symm)]
   exact Below.heap_alloc _ _ _ hx
  refine ⟨h17,_,put_putL ..,?_⟩
  refine T_z hq [9] (by kernel_rfl) ?_
  refine T_one 10 (by kernel_rfl) fun _=>O_store none 23 (.tmp 143) (.tmp 142) ⟨lo,3,none⟩ (.slice (some ⟨g5,0,none⟩) (i+1) cap5) _ (by kernel_rfl) (by kernel_rfl) (by kernel_rfl) (stStrsW W3 _ _ _ _ _ u3 uz3) (fun x hx=>hbl.block x hx) ?_
  exact T_end 151 (kp_ws25 z++[(4,.pointer (some ⟨C,0,none⟩)),(7,.pointer (some ⟨lo,0,none⟩)),(10,.int .i64 (i:Nat))]) (by kernel_rfl) (by kernel_rfl) fun _ u=>by rw [hfr];exact hend u _ _ _ hinv hbl hkp (hat.elim Or.inl fun ⟨g,e,h⟩=>Or.inr ⟨g,e,by rw [World.size_alloc] at h;omega⟩)
 have P1:∀ (u:Nat→Value),wpS Tryz.prog ws25Ops Q (fun W=>∀ x,x < lo→W.heap[x]? = B.heap[x]?) (unl 11 [1,8,9,10],frL u 151 (kp_ws25 z++[(4,.pointer (some ⟨C,0,none⟩)),(7,.pointer (some ⟨lo,0,none⟩)),(10,.int .i64 (i:Nat)),(134,.pointer (some ⟨lo,3,none⟩)),(141,.slice (some ⟨B.heap.size,0,none⟩) 1 1)])) [] (B.alloc (.cells #[.string nm] 9)):=by
  intro u
  refine T_one 1 (by kernel_rfl) fun hS0=>?_
  exact O_val (some 135) (.slice aN i capN) (by kernel_rfl) (ldOpW (X:=.tmp 134) (by kernel_rfl) (by kernel_rfl) (ldStrsF (B.alloc (.cells #[.string nm] 9)) ⟨lo,3,none⟩ _ ((hS.cells.alloc _).cell (i:=3) (by omega)))) hS0 (T_fr 11 151 [8,9,10] (kp_ws25 z++[(4,.pointer (some ⟨C,0,none⟩)),(7,.pointer (some ⟨lo,0,none⟩)),(10,.int .i64 (i:Nat)),(134,.pointer (some ⟨lo,3,none⟩)),(135,.slice aN i capN),(141,.slice (some ⟨B.heap.size,0,none⟩) 1 1)]) (by kernel_rfl) fun u=>Q1 u)
 have Q0:∀ (u:Nat→Value),wpS Tryz.prog ws25Ops Q (fun W=>∀ x,x < lo→W.heap[x]? = B.heap[x]?) (unl 11 [7,8,9,10],frL u 151 (kp_ws25 z++[(4,.pointer (some ⟨C,0,none⟩)),(7,.pointer (some ⟨lo,0,none⟩)),(10,.int .i64 (i:Nat)),(134,.pointer (some ⟨lo,3,none⟩)),(135,.slice aN i capN),(140,.string nm)])) [] B:=by
  intro u
  refine T_one 7 (by kernel_rfl) fun _=>?_
  exact O_val (w':=(B.alloc (.cells #[.string nm] 9))) (some 141) (.slice (some ⟨B.heap.size,0,none⟩) 1 1) (by kernel_rfl) (by kernel_rfl) (fun x hx=>Below.heap_alloc _ _ _ (by omega)) (T_fr 11 151 [8,9,10] (kp_ws25 z++[(4,.pointer (some ⟨C,0,none⟩)),(7,.pointer (some ⟨lo,0,none⟩)),(10,.int .i64 (i:Nat)),(134,.pointer (some ⟨lo,3,none⟩)),(135,.slice aN i capN),(141,.slice (some ⟨B.heap.size,0,none⟩) 1 1)]) (by kernel_rfl) fun u=>Q1 u)
 have P0:∀ (u:Nat→Value),wpS Tryz.prog ws25Ops Q (fun W=>∀ x,x < lo→W.heap[x]? = B.heap[x]?) (unl 11 [1,7,8,9,10],frL u 151 (kp_ws25 z++[(4,.pointer (some ⟨C,0,none⟩)),(7,.pointer (some ⟨lo,0,none⟩)),(10,.int .i64 (i:Nat)),(134,.pointer (some ⟨lo,3,none⟩)),(140,.string nm)])) [] B:=by
  intro u
  refine T_two 1 7 (by kernel_rfl) (fun hS0=>?_) fun _=>?_
  · exact O_val (some 135) (.slice aN i capN) (by kernel_rfl) (ldOpW (X:=.tmp 134) (by kernel_rfl) (by kernel_rfl) (ldStrsF B ⟨lo,3,none⟩ _ (hS.cells.cell (i:=3) (by omega)))) hS0 (T_fr 11 151 [7,8,9,10] (kp_ws25 z++[(4,.pointer (some ⟨C,0,none⟩)),(7,.pointer (some ⟨lo,0,none⟩)),(10,.int .i64 (i:Nat)),(134,.pointer (some ⟨lo,3,none⟩)),(135,.slice aN i capN),(140,.string nm)]) (by kernel_rfl) fun u=>Q0 u)
  · exact O_val (w':=(B.alloc (.cells #[.string nm] 9))) (some 141) (.slice (some ⟨B.heap.size,0,none⟩) 1 1) (by kernel_rfl) (by kernel_rfl) (fun x hx=>Below.heap_alloc _ _ _ (by omega)) (T_fr 11 151 [1,8,9,10] (kp_ws25 z++[(4,.pointer (some ⟨C,0,none⟩)),(7,.pointer (some ⟨lo,0,none⟩)),(10,.int .i64 (i:Nat)),(134,.pointer (some ⟨lo,3,none⟩)),(141,.slice (some ⟨B.heap.size,0,none⟩) 1 1)]) (by kernel_rfl) fun u=>P1 u)
 refine T_z hq [0,2,4] (by kernel_rfl) ?_
 refine T_a hq [3] (fun w' h=>.cons (ldStrsF _ ⟨C,1,none⟩ (.slice (some ⟨nb,no,none⟩) nn nc) (cell_lo h hC.1 hC.2)) Lds.nil) (by kernel_rfl) ?_
 refine T_yld hq 5 (some 139) (.pointer (some ⟨nb,no+i,none⟩)) (by kernel_rfl) (by kernel_rfl) (fun w _=>ixRunF (n:=nn) (cap:=nc) (i:=i) (X:=.tmp 137) (I:=.tmp 138) (by kernel_rfl) (by kernel_rfl) (by kernel_rfl) hi1 w) ?_
 refine T_a hq [6] (fun w' h=>.cons (ldStrF _ ⟨nb,no+i,none⟩ (.string nm) (cell_lo h hnm.1 hnm.2)) Lds.nil) (by kernel_rfl) ?_
 exact T_fr 11 151 [1,7,8,9,10] (kp_ws25 z++[(4,.pointer (some ⟨C,0,none⟩)),(7,.pointer (some ⟨lo,0,none⟩)),(10,.int .i64 (i:Nat)),(134,.pointer (some ⟨lo,3,none⟩)),(140,.string nm)]) (by kernel_rfl) fun u=>P0 u
theorem ws25 (lo C:Nat) (nb no nn nc i:Nat) (nm:ByteArray) (s:Int) (vK:Value) (ns:List ByteArray) (aN:Option Addr) (capN:Nat) (ks:List Tr) (xs:List Value) (G:List Nat) (W0:World) {l:List Value} (Q:Exit→Act→World→Prop) (hQ:∀ c a d v w,Q (.panic c) (Act.put a d v) w→Q (.panic c) a w)
 (hC:C < lo∧W0.drew.cell? ⟨C,1,none⟩=some (.slice (some ⟨nb,no,none⟩) nn nc)) (hnm:nb < lo∧W0.drew.cell? ⟨nb,no+i,none⟩=some (.string nm)) (hi1:i < nn) (hi2:i < 1000000) (hnl:ns.length=i)
 (hS:SInv (lo+1) lo W0.drew s (.slice aN i capN) vK ns ks xs G)
 (hl:lookL (kp_ws25 (fun i=>l.getD i undef)++[(4,.pointer (some ⟨C,0,none⟩)),(7,.pointer (some ⟨lo,0,none⟩)),(10,.int .i64 (i:Nat))]) l=(151,(kp_ws25 (fun i=>l.getD i undef)++[(4,.pointer (some ⟨C,0,none⟩)),(7,.pointer (some ⟨lo,0,none⟩)),(10,.int .i64 (i:Nat))]:List (Nat × Value)).map (·.2))) (hfr:∀ u:Nat→Value,frL u 151 (kp_ws25 (fun i=>l.getD i undef)++[(4,.pointer (some ⟨C,0,none⟩)),(7,.pointer (some ⟨lo,0,none⟩)),(10,.int .i64 (i:Nat))])=l.take 134++(u 134::u 135::u 136::u 137::u 138::u 139::u 140::u 141::u 142::u 143::l.drop 144))
 (hend:∀ (u:Nat→Value) (a':Option Addr) (cap':Nat) (W':World),SInv (lo+1) lo W' s (.slice a' (i+1) cap') vK (ns++[nm]) ks xs G→Below lo W0.drew W'→(∀ x,x < W0.drew.heap.size→x≠lo→(Value.slice aN i capN).ownBlock≠some x→W'.heap[x]? = W0.drew.heap[x]?)→((Value.slice a' (i+1) cap').ownBlock=(Value.slice aN i capN).ownBlock∨∃ g,(Value.slice a' (i+1) cap').ownBlock=some g∧W0.drew.heap.size≤g)→Q .normal ⟨(l.take 134++(u 134::u 135::u 136::u 137::u 138::u 139::u 140::u 141::u 142::u 143::l.drop 144)).toArray,[]⟩ W'):(Code.region 25 ws25Ops true).wp Tryz.prog Q ⟨l.toArray,[]⟩ W0 :=
 ws25z (fun i=>l.getD i undef) (fun u=>l.take 134++(u 134::u 135::u 136::u 137::u 138::u 139::u 140::u 141::u 142::u 143::l.drop 144)) lo C nb no nn nc i nm s vK ns aN capN ks xs G W0 Q hQ hC hnm hi1 hi2 hnl hS hl hfr hend

theorem spEach6 (n:Nat) (IH:WSaid n) (a b:Kd) (t:Tr) (ha6:a.sort=6) (hb6:b.sort=6) (hn:ksz b≤n+1) (hn40:n+1≤40) (hf:fitF (n+1) a b=true) (hT:hT t a=true) (hO:okH t=true) (a1 a2 b1 b2 t1 t2:Option Addr) (p1 p2 q1 q2 r1 r2:Nat) (w:World)
 (ha:KW w a ⟨.int .i64 a.sort,.slice a1 a.names.length p1,.slice a2 a.kids.length p2⟩) (hb:KW w b ⟨.int .i64 b.sort,.slice b1 b.names.length q1,.slice b2 b.kids.length q2⟩) (ht:Rep (fun x=>x < w.heap.size) w t ⟨.int .i64 t.sort,.int .i64 t.num,.string t.text,.slice t1 t.names.length r1,.slice t2 t.kids.length r2⟩) :
 Calls Tryz.prog 23 #[.agg #[.int .i64 a.sort,.slice a1 a.names.length p1,.slice a2 a.kids.length p2],.agg #[.int .i64 b.sort,.slice b1 b.names.length q1,.slice b2 b.kids.length q2],.agg #[.int .i64 t.sort,.int .i64 t.num,.string t.text,.slice t1 t.names.length r1,.slice t2 t.kids.length r2]] w (TE (widF (n+1) a b t) w):=by
 have hka:a.kids.length=1:=by rcases ha.sh with h | h | h <;> omega
 have hkb:b.kids.length=1:=by rcases hb.sh with h | h | h <;> omega
 have hka0:0 < a.kids.length:=by omega
 have hkb0:0 < b.kids.length:=by omega
 rw [widF_each (by omega) hka0 hkb0]
 have hf':fitF n a.kids[0] b.kids[0]=true:=by rwa [fit_mm hb6 ha6 hka0 hkb0] at hf
 obtain ⟨g1,g2,g3⟩:=hT_open hT
 obtain ⟨g4,g5⟩:=okH_open hO
 obtain ⟨hnum,htx⟩:=alone_bare g4 (by omega)
 have hlen:=(alone_open g4).2.1 (by omega)
 have hzb:=ksz_kid (List.getElem_mem hkb0)
 obtain ⟨xb,xo,xc,x1,x2,u1,u2,ex,hxl,x0,x3,x4,hx⟩:=ha.kid (i:=0) hka0
 obtain ⟨yb,yo,yc,y1,y2,s1,s2,ey,hyl,y0,y3,y4,hy⟩:=hb.kid (i:=0) hkb0
 simp only [Value.slice.injEq,true_and] at ex ey
 obtain ⟨rfl,rfl⟩:=ex
 obtain ⟨rfl,rfl⟩:=ey
 obtain ⟨-,-,-,-,-,-,-,a6',cap6',e4,-,hks⟩:=ht.open
 simp only [Value.slice.injEq,true_and] at e4
 obtain ⟨rfl,rfl⟩:=e4
 have hcall:∀ i,(hi:i < t.kids.length)→∀ W' (z:C5),Below w.heap.size w W'→Rep (fun x=>x < W'.heap.size) W' t.kids[i] z→Calls Tryz.prog 23 #[.agg #[.int .i64 a.kids[0].sort,.slice x1 a.kids[0].names.length u1,.slice x2 a.kids[0].kids.length u2],.agg #[.int .i64 b.kids[0].sort,.slice y1 b.kids[0].names.length s1,.slice y2 b.kids[0].kids.length s2],.agg #[z.c0,z.c1,z.c2,z.c3,z.c4]] W' (TE (widF n a.kids[0] b.kids[0] t.kids[i]) W'):=fun i hi W' z hW hz=>by
  have hq:=g3 i hi
  rw [kidOf_else (by omega) i hka0] at hq
  exact IH _ _ _ (by omega) (by omega) hf' hq (g5 i hi) ⟨_,_,_⟩ ⟨_,_,_⟩ z W' (hx.on hW) (hy.on hW) hz
 generalize widF n a.kids[0] b.kids[0]=g at *
 generalize a.kids[0]=ka at *
 generalize b.kids[0]=kb at *
 have hts:t.sort=6:=by omega
 rw [hnum,htx,hts,ha6,hb6,hka,hkb]
 obtain ⟨hbx,hrO,hs0⟩:=l3w_start w (.int .i64 6) (.slice a1 a.names.length p1) (.slice (some ⟨xb,xo,none⟩) 1 p2) (.int .i64 6) (.slice b1 b.names.length q1) (.slice (some ⟨yb,yo,none⟩) 1 q2) (.int .i64 6) (.int .i64 0) (.string ⟨#[]⟩) (.slice t1 t.names.length r1) (.slice t2 t.kids.length r2)
 obtain ⟨i0,hi,hz0,hz1,hz2⟩:=info_parts infoTreeS
 have HK:=xH hks;have HC:=xH hcall;have HLEN:=xH hlen;have HBX:=xH hbx;have HRO:=xH hrO;have HS0:=xH hs0
 have HII:=xH hi;have HZ0:=xH hz0;have HZ1:=xH hz1;have HZ2:=xH hz2
 have HX:=xH (show xb < w.heap.size∧w.cell? ⟨xb,xo,none⟩=some (.int .i64 ka.sort)∧w.cell? ⟨xb,xo+1,none⟩=some (.slice x1 ka.names.length u1)∧w.cell? ⟨xb,xo+2,none⟩=some (.slice x2 ka.kids.length u2) from ⟨hxl,x0,x3,x4⟩)
 have HY:=xH (show yb < w.heap.size∧w.cell? ⟨yb,yo,none⟩=some (.int .i64 kb.sort)∧w.cell? ⟨yb,yo+1,none⟩=some (.slice y1 kb.names.length s1)∧w.cell? ⟨yb,yo+2,none⟩=some (.slice y2 kb.kids.length s2) from ⟨hyl,y0,y3,y4⟩)
 clear hks hcall hlen hbx hrO hs0 hi hz0 hz1 hz2 hxl x0 x3 x4 hx hyl y0 y3 y4 hy ht ha hb hT hO hf hf' g1 g2 g3 g4 g5 hka hkb hka0 hkb0 ha6 hb6 hnum htx hts hzb hn hn40 IH
 go_enter Tryz.func23,Tryz.ntmps23
 go_wp2_with fail
 generalize (((((w.alloc (.cells #[.int .i64 6,.slice a1 a.names.length p1,.slice (some ⟨xb,xo,none⟩) 1 p2] 26)).alloc (.cells #[.int .i64 6,.slice b1 b.names.length q1,.slice (some ⟨yb,yo,none⟩) 1 q2] 26)).alloc (.cells #[.int .i64 6,.int .i64 0,.string ⟨#[]⟩,.slice t1 t.names.length r1,.slice t2 t.kids.length r2] 29)).alloc (.cells #[.int .i64 0,.int .i64 0,.string ⟨#[]⟩,.slice none 0 0,.slice none 0 0] 29)).alloc (.cells #[.int .i64 6,.int .i64 0,.string ⟨#[]⟩,.slice none 0 0,.slice none 0 0] 29))=W0 at HBX HRO HS0 ⊢
 have hs0:W0.heap.size=w.heap.size+5:=xU HS0
 have hinv:SInv (w.heap.size+5) (w.heap.size+4) W0 6 (.slice none 0 0) (.slice none 0 0) [] [] [] [] :=
  ⟨by omega,xU HRO,World.ownsRow_nil _ _ _ _,GotO.start _ _,fun b hb=>by simp [Value.ownBlock] at hb,by omega⟩
 have HINV:=xH hinv
 clear hinv
 go_loopw [8] (fun i wr=>∃ (k:Nat) (aK:Option Addr) (capK:Nat) (xs:List Value) (G:List Nat),k≤t.kids.length∧i=.int .i64 k∧Hid (SInv (w.heap.size+5) (w.heap.size+4) wr 6 (.slice none 0 0) (.slice aK k capK) [] ((t.kids.take k).map g) xs G)∧Hid (Below (w.heap.size+4) W0 wr)) (fun i _=>t.kids.length - (intOf i).toNat)
 case atStart=>exact ⟨0,none,0,[],[],Nat.zero_le _,rfl,xU HINV,Below.refl _ _⟩
 case round =>
  obtain ⟨k,aK,capK,xs,G,hk,rfl,HS,HB⟩:=hrel
  have hsw:=HB.out.size
  have hbw:Below w.heap.size w wr:=(xU HBX).below.trans (HB.out.mono (by omega))
  have hbo:∀ x,x < w.heap.size+4→wr.heap[x]? = W0.heap[x]? := fun x hx=>HB.out.block x hx
  have bA:=(xU HBX).bA.of_block (hbo _ (by omega))
  have bB:=(xU HBX).bB.of_block (hbo _ (by omega))
  have bT:=(xU HBX).bT.of_block (hbo _ (by omega))
  have cA:=bA.cell (i:=2) (by omega);have cB:=bB.cell (i:=2) (by omega);have cT:=bT.cell (i:=4) (by omega)
  simp only [row3,row5] at cA cB cT
  by_cases hlt:k < t.kids.length
  · obtain ⟨b,o,ck,rfl,hpb,hcell,hrp⟩:=xU HK k hlt
    obtain ⟨a3,p3,a4,p4,rfl⟩:=hrp.form
    obtain ⟨f0,f1,f2,f3,f4⟩:=hcell.carry (hbw.block b hpb)
    simp only at f0 f1 f2 f3 f4
    obtain ⟨hxl,x0,x3,x4⟩:=xU HX
    obtain ⟨hyl,y0,y3,y4⟩:=xU HY
    rw [← hbw.cell hxl] at x0 x3 x4
    rw [← hbw.cell hyl] at y0 y3 y4
    have htk:(t.kids.take (k+1)).map g=(t.kids.take k).map g++[g t.kids[k]]:=by
     rw [List.take_succ_eq_append_getElem hlt,List.map_append];rfl
    have hlkl:((t.kids.take k).map g).length=k:=by simp;omega
    have hcl:=xU HC k hlt
    have HRP:=xH hrp
    generalize t.kids[k]=x at *
    have HCALL:=xH (hcl wr.drew ⟨_,_,_,_,_⟩ hbw.drew (Rep.carry (fun b hb=>hbw.drew.block b hb) (fun b hb=>Nat.lt_of_lt_of_le hb hbw.size) _ _ (xU HRP)))
    have hdr:=(Below.refl wr.heap.size wr).drew
    have HSD:=xH (HS.out.kept (w':=wr.drew) ⟨hdr.os,hdr.tape,hdr.output,hdr.size,fun i hi _=>hdr.block i hi⟩)
    have HKX:=xH (show Kc wr.drew (w.heap.size+4) xb xo ⟨.int .i64 ka.sort,.slice x1 ka.names.length u1,.slice x2 ka.kids.length u2⟩ from ⟨by omega,x0,x3,x4⟩)
    have HKY:=xH (show Kc wr.drew (w.heap.size+4) yb yo ⟨.int .i64 kb.sort,.slice y1 kb.names.length s1,.slice y2 kb.kids.length s2⟩ from ⟨by omega,y0,y3,y4⟩)
    have HTZ:=xH (show Tc wr.drew (w.heap.size+4) b (o+k * 5) ⟨.int .i64 x.sort,.int .i64 x.num,.string x.text,.slice a3 x.names.length p3,.slice a4 x.kids.length p4⟩ from ⟨by omega,f0,f1,f2,f3,f4⟩)
    have HCA:=xH cA;have HCB:=xH cB;have HCT:=xH cT;have HTK:=xH htk;have HLK:=xH hlkl
    clear htk hlkl hcl hrp hcell hbw hbo bA bB bT HRP x0 x3 x4 y0 y3 y4 f0 f1 f2 f3 f4 hdr cA cB
    go_upto_region 9 with fail
    refine wp_swap (c':=Code.region 9 ws9Ops true) (by kernel_rfl) ?_
    refine wp_region_noPanic ?_
    refine ws9 (w.heap.size+4) w.heap.size (w.heap.size+1) (w.heap.size+2) xb xo p2 yb yo q2 b o t.kids.length r2 k _ _ _ 6 (.slice none 0 0) [] aK capK ((t.kids.take k).map g) xs G (g x) wr _ (fun _ _ _ _ _ h=>h) ⟨by omega,xU HCA⟩ ⟨by omega,xU HCB⟩ ⟨by omega,xU HCT⟩ (xU HKX) (xU HKY) (xU HTZ) hlt (by have:=xU HLEN;omega) (xU HLK) (xU HSD) (xU HCALL) (by kernel_rfl) (fun u=>by kernel_rfl) ?_
    intro u a' cap' xs' G' W9 hinv9 hb9
    refine NoPanic.normal ?_
    simp only [List.take_succ_cons,List.take_zero,List.drop_succ_cons,List.drop_zero,List.cons_append,List.nil_append]
    rw [← xU HTK] at hinv9
    have hb8:Below (w.heap.size+4) W0 W9:=HB.out.trans (((Below.refl (w.heap.size+4) wr).drew).trans hb9)
    have HI8:=xH hinv9;have HB8:=xH hb8
    have ke:=wrkU (Nat.le_trans hk (Nat.le_trans (xU HLEN) (by decide)))
    clear hinv9 hb8 hb9 cT
    go_wp2_with fail
    go_roundw
    case rel=>exact ⟨k+1,a',cap',xs',G',hlt,(by first | exact numU k | (rw [ke];exact numU k)),xU HI8,xU HB8⟩
    case measure=>first | exact measU hlt | (rw [ke];exact measU hlt)
  · obtain rfl:k=t.kids.length:=by omega
    have hmk:(t.kids.take t.kids.length).map g=t.kids.map g:=by rw [List.take_length]
    obtain ⟨F,hown,hnd,hFl⟩:=HS.out.done (show I64 6 from ⟨by decide,by decide⟩) (fun x hx=>by simp at hx)
    rw [hmk] at hown
    obtain ⟨t0,t1,t2,t3,t4⟩:=cs5 HS.out.cells (by omega)
    have q2:=(xU HBX).bR.of_block (hbo _ (by omega))
    have z:=q2.frozen
    obtain ⟨y0,y1,y2,y3,y4⟩:=cs5 q2 (by omega)
    simp only [row5] at t0 t1 t2 t3 t4 y0 y1 y2 y3 y4
    have HOWN:=xH hown;have HFL:=xH hFl;have HBXX:=xH hbw
    clear hown hFl q2 hmk hbw hbo bA bB bT
    go_wp2_with fail
    refine bodyPost_ret (v:=.agg #[.int .i64 6,.int .i64 0,.string ⟨#[]⟩,.slice none 0 0,.slice aK t.kids.length capK]) (by simp [results,Tryz.results23,go_sem,y0,y1,y2,y3,y4]) rfl ⟨⟨_,_,_,_,_⟩,F,rfl,?_,hnd,?_,?_⟩
    · exact Own.carry _ _ F (fun b hb=>heap_set5s _ _ _ _ _ _ _ _ (by have:=(xU HFL b hb).1;omega)) (xU HOWN)
    · intro b hb
      rw [size_set5s]
      have:=xU HFL b hb;omega
    · exact below_set5s (xU HBXX) _ _ _ _ _ _ (by omega)

theorem spEach4 (n:Nat) (IH:WSaid n) (a b:Kd) (t:Tr) (ha6:a.sort=4) (hb6:b.sort=4) (hn:ksz b≤n+1) (hn40:n+1≤40) (hf:fitF (n+1) a b=true) (hT:hT t a=true) (hO:okH t=true) (a1 a2 b1 b2 t1 t2:Option Addr) (p1 p2 q1 q2 r1 r2:Nat) (w:World)
 (ha:KW w a ⟨.int .i64 a.sort,.slice a1 a.names.length p1,.slice a2 a.kids.length p2⟩) (hb:KW w b ⟨.int .i64 b.sort,.slice b1 b.names.length q1,.slice b2 b.kids.length q2⟩) (ht:Rep (fun x=>x < w.heap.size) w t ⟨.int .i64 t.sort,.int .i64 t.num,.string t.text,.slice t1 t.names.length r1,.slice t2 t.kids.length r2⟩) :
 Calls Tryz.prog 23 #[.agg #[.int .i64 a.sort,.slice a1 a.names.length p1,.slice a2 a.kids.length p2],.agg #[.int .i64 b.sort,.slice b1 b.names.length q1,.slice b2 b.kids.length q2],.agg #[.int .i64 t.sort,.int .i64 t.num,.string t.text,.slice t1 t.names.length r1,.slice t2 t.kids.length r2]] w (TE (widF (n+1) a b t) w):=by
 have hka:a.kids.length=1:=by rcases ha.sh with h | h | h <;> omega
 have hkb:b.kids.length=1:=by rcases hb.sh with h | h | h <;> omega
 have hka0:0 < a.kids.length:=by omega
 have hkb0:0 < b.kids.length:=by omega
 rw [widF_each (by omega) hka0 hkb0]
 have hf':fitF n a.kids[0] b.kids[0]=true:=by rwa [fit_ll hb6 ha6 hka0 hkb0] at hf
 obtain ⟨g1,g2,g3⟩:=hT_open hT
 obtain ⟨g4,g5⟩:=okH_open hO
 obtain ⟨hnum,htx⟩:=alone_bare g4 (by omega)
 have hlen:=(alone_open g4).2.1 (by omega)
 have hzb:=ksz_kid (List.getElem_mem hkb0)
 obtain ⟨xb,xo,xc,x1,x2,u1,u2,ex,hxl,x0,x3,x4,hx⟩:=ha.kid (i:=0) hka0
 obtain ⟨yb,yo,yc,y1,y2,s1,s2,ey,hyl,y0,y3,y4,hy⟩:=hb.kid (i:=0) hkb0
 simp only [Value.slice.injEq,true_and] at ex ey
 obtain ⟨rfl,rfl⟩:=ex
 obtain ⟨rfl,rfl⟩:=ey
 obtain ⟨-,-,-,-,-,-,-,a6',cap6',e4,-,hks⟩:=ht.open
 simp only [Value.slice.injEq,true_and] at e4
 obtain ⟨rfl,rfl⟩:=e4
 have hcall:∀ i,(hi:i < t.kids.length)→∀ W' (z:C5),Below w.heap.size w W'→Rep (fun x=>x < W'.heap.size) W' t.kids[i] z→Calls Tryz.prog 23 #[.agg #[.int .i64 a.kids[0].sort,.slice x1 a.kids[0].names.length u1,.slice x2 a.kids[0].kids.length u2],.agg #[.int .i64 b.kids[0].sort,.slice y1 b.kids[0].names.length s1,.slice y2 b.kids[0].kids.length s2],.agg #[z.c0,z.c1,z.c2,z.c3,z.c4]] W' (TE (widF n a.kids[0] b.kids[0] t.kids[i]) W'):=fun i hi W' z hW hz=>by
  have hq:=g3 i hi
  rw [kidOf_else (by omega) i hka0] at hq
  exact IH _ _ _ (by omega) (by omega) hf' hq (g5 i hi) ⟨_,_,_⟩ ⟨_,_,_⟩ z W' (hx.on hW) (hy.on hW) hz
 generalize widF n a.kids[0] b.kids[0]=g at *
 generalize a.kids[0]=ka at *
 generalize b.kids[0]=kb at *
 have hts:t.sort=4:=by omega
 rw [hnum,htx,hts,ha6,hb6,hka,hkb]
 obtain ⟨hbx,hrO,hs0⟩:=l3w_start w (.int .i64 4) (.slice a1 a.names.length p1) (.slice (some ⟨xb,xo,none⟩) 1 p2) (.int .i64 4) (.slice b1 b.names.length q1) (.slice (some ⟨yb,yo,none⟩) 1 q2) (.int .i64 4) (.int .i64 0) (.string ⟨#[]⟩) (.slice t1 t.names.length r1) (.slice t2 t.kids.length r2)
 obtain ⟨i0,hi,hz0,hz1,hz2⟩:=info_parts infoTreeS
 have HK:=xH hks;have HC:=xH hcall;have HLEN:=xH hlen;have HBX:=xH hbx;have HRO:=xH hrO;have HS0:=xH hs0
 have HII:=xH hi;have HZ0:=xH hz0;have HZ1:=xH hz1;have HZ2:=xH hz2
 have HX:=xH (show xb < w.heap.size∧w.cell? ⟨xb,xo,none⟩=some (.int .i64 ka.sort)∧w.cell? ⟨xb,xo+1,none⟩=some (.slice x1 ka.names.length u1)∧w.cell? ⟨xb,xo+2,none⟩=some (.slice x2 ka.kids.length u2) from ⟨hxl,x0,x3,x4⟩)
 have HY:=xH (show yb < w.heap.size∧w.cell? ⟨yb,yo,none⟩=some (.int .i64 kb.sort)∧w.cell? ⟨yb,yo+1,none⟩=some (.slice y1 kb.names.length s1)∧w.cell? ⟨yb,yo+2,none⟩=some (.slice y2 kb.kids.length s2) from ⟨hyl,y0,y3,y4⟩)
 clear hks hcall hlen hbx hrO hs0 hi hz0 hz1 hz2 hxl x0 x3 x4 hx hyl y0 y3 y4 hy ht ha hb hT hO hf hf' g1 g2 g3 g4 g5 hka hkb hka0 hkb0 ha6 hb6 hnum htx hts hzb hn hn40 IH
 go_enter Tryz.func23,Tryz.ntmps23
 go_wp2_with fail
 generalize (((((w.alloc (.cells #[.int .i64 4,.slice a1 a.names.length p1,.slice (some ⟨xb,xo,none⟩) 1 p2] 26)).alloc (.cells #[.int .i64 4,.slice b1 b.names.length q1,.slice (some ⟨yb,yo,none⟩) 1 q2] 26)).alloc (.cells #[.int .i64 4,.int .i64 0,.string ⟨#[]⟩,.slice t1 t.names.length r1,.slice t2 t.kids.length r2] 29)).alloc (.cells #[.int .i64 0,.int .i64 0,.string ⟨#[]⟩,.slice none 0 0,.slice none 0 0] 29)).alloc (.cells #[.int .i64 4,.int .i64 0,.string ⟨#[]⟩,.slice none 0 0,.slice none 0 0] 29))=W0 at HBX HRO HS0 ⊢
 have hs0:W0.heap.size=w.heap.size+5:=xU HS0
 have hinv:SInv (w.heap.size+5) (w.heap.size+4) W0 4 (.slice none 0 0) (.slice none 0 0) [] [] [] [] :=
  ⟨by omega,xU HRO,World.ownsRow_nil _ _ _ _,GotO.start _ _,fun b hb=>by simp [Value.ownBlock] at hb,by omega⟩
 have HINV:=xH hinv
 clear hinv
 go_loopw [9] (fun i wr=>∃ (k:Nat) (aK:Option Addr) (capK:Nat) (xs:List Value) (G:List Nat),k≤t.kids.length∧i=.int .i64 k∧Hid (SInv (w.heap.size+5) (w.heap.size+4) wr 4 (.slice none 0 0) (.slice aK k capK) [] ((t.kids.take k).map g) xs G)∧Hid (Below (w.heap.size+4) W0 wr)) (fun i _=>t.kids.length - (intOf i).toNat)
 case atStart=>exact ⟨0,none,0,[],[],Nat.zero_le _,rfl,xU HINV,Below.refl _ _⟩
 case round =>
  obtain ⟨k,aK,capK,xs,G,hk,rfl,HS,HB⟩:=hrel
  have hsw:=HB.out.size
  have hbw:Below w.heap.size w wr:=(xU HBX).below.trans (HB.out.mono (by omega))
  have hbo:∀ x,x < w.heap.size+4→wr.heap[x]? = W0.heap[x]? := fun x hx=>HB.out.block x hx
  have bA:=(xU HBX).bA.of_block (hbo _ (by omega))
  have bB:=(xU HBX).bB.of_block (hbo _ (by omega))
  have bT:=(xU HBX).bT.of_block (hbo _ (by omega))
  have cA:=bA.cell (i:=2) (by omega);have cB:=bB.cell (i:=2) (by omega);have cT:=bT.cell (i:=4) (by omega)
  simp only [row3,row5] at cA cB cT
  by_cases hlt:k < t.kids.length
  · obtain ⟨b,o,ck,rfl,hpb,hcell,hrp⟩:=xU HK k hlt
    obtain ⟨a3,p3,a4,p4,rfl⟩:=hrp.form
    obtain ⟨f0,f1,f2,f3,f4⟩:=hcell.carry (hbw.block b hpb)
    simp only at f0 f1 f2 f3 f4
    obtain ⟨hxl,x0,x3,x4⟩:=xU HX
    obtain ⟨hyl,y0,y3,y4⟩:=xU HY
    rw [← hbw.cell hxl] at x0 x3 x4
    rw [← hbw.cell hyl] at y0 y3 y4
    have htk:(t.kids.take (k+1)).map g=(t.kids.take k).map g++[g t.kids[k]]:=by
     rw [List.take_succ_eq_append_getElem hlt,List.map_append];rfl
    have hlkl:((t.kids.take k).map g).length=k:=by simp;omega
    have hcl:=xU HC k hlt
    have HRP:=xH hrp
    generalize t.kids[k]=x at *
    have HCALL:=xH (hcl wr.drew ⟨_,_,_,_,_⟩ hbw.drew (Rep.carry (fun b hb=>hbw.drew.block b hb) (fun b hb=>Nat.lt_of_lt_of_le hb hbw.size) _ _ (xU HRP)))
    have hdr:=(Below.refl wr.heap.size wr).drew
    have HSD:=xH (HS.out.kept (w':=wr.drew) ⟨hdr.os,hdr.tape,hdr.output,hdr.size,fun i hi _=>hdr.block i hi⟩)
    have HKX:=xH (show Kc wr.drew (w.heap.size+4) xb xo ⟨.int .i64 ka.sort,.slice x1 ka.names.length u1,.slice x2 ka.kids.length u2⟩ from ⟨by omega,x0,x3,x4⟩)
    have HKY:=xH (show Kc wr.drew (w.heap.size+4) yb yo ⟨.int .i64 kb.sort,.slice y1 kb.names.length s1,.slice y2 kb.kids.length s2⟩ from ⟨by omega,y0,y3,y4⟩)
    have HTZ:=xH (show Tc wr.drew (w.heap.size+4) b (o+k * 5) ⟨.int .i64 x.sort,.int .i64 x.num,.string x.text,.slice a3 x.names.length p3,.slice a4 x.kids.length p4⟩ from ⟨by omega,f0,f1,f2,f3,f4⟩)
    have HCA:=xH cA;have HCB:=xH cB;have HCT:=xH cT;have HTK:=xH htk;have HLK:=xH hlkl
    clear htk hlkl hcl hrp hcell hbw hbo bA bB bT HRP x0 x3 x4 y0 y3 y4 f0 f1 f2 f3 f4 hdr cA cB
    go_upto_region 14 with fail
    refine wp_swap (c':=Code.region 14 ws14Ops true) (by kernel_rfl) ?_
    refine wp_region_noPanic ?_
    refine ws14 (w.heap.size+4) w.heap.size (w.heap.size+1) (w.heap.size+2) xb xo p2 yb yo q2 b o t.kids.length r2 k _ _ _ 4 (.slice none 0 0) [] aK capK ((t.kids.take k).map g) xs G (g x) wr _ (fun _ _ _ _ _ h=>h) ⟨by omega,xU HCA⟩ ⟨by omega,xU HCB⟩ ⟨by omega,xU HCT⟩ (xU HKX) (xU HKY) (xU HTZ) hlt (by have:=xU HLEN;omega) (xU HLK) (xU HSD) (xU HCALL) (by kernel_rfl) (fun u=>by kernel_rfl) ?_
    intro u a' cap' xs' G' W9 hinv9 hb9
    refine NoPanic.normal ?_
    simp only [List.take_succ_cons,List.take_zero,List.drop_succ_cons,List.drop_zero,List.cons_append,List.nil_append]
    rw [← xU HTK] at hinv9
    have hb8:Below (w.heap.size+4) W0 W9:=HB.out.trans (((Below.refl (w.heap.size+4) wr).drew).trans hb9)
    have HI8:=xH hinv9;have HB8:=xH hb8
    have ke:=wrkU (Nat.le_trans hk (Nat.le_trans (xU HLEN) (by decide)))
    clear hinv9 hb8 hb9 cT
    go_wp2_with fail
    go_roundw
    case rel=>exact ⟨k+1,a',cap',xs',G',hlt,(by first | exact numU k | (rw [ke];exact numU k)),xU HI8,xU HB8⟩
    case measure=>first | exact measU hlt | (rw [ke];exact measU hlt)
  · obtain rfl:k=t.kids.length:=by omega
    have hmk:(t.kids.take t.kids.length).map g=t.kids.map g:=by rw [List.take_length]
    obtain ⟨F,hown,hnd,hFl⟩:=HS.out.done (show I64 4 from ⟨by decide,by decide⟩) (fun x hx=>by simp at hx)
    rw [hmk] at hown
    obtain ⟨t0,t1,t2,t3,t4⟩:=cs5 HS.out.cells (by omega)
    have q2:=(xU HBX).bR.of_block (hbo _ (by omega))
    have z:=q2.frozen
    obtain ⟨y0,y1,y2,y3,y4⟩:=cs5 q2 (by omega)
    simp only [row5] at t0 t1 t2 t3 t4 y0 y1 y2 y3 y4
    have HOWN:=xH hown;have HFL:=xH hFl;have HBXX:=xH hbw
    clear hown hFl q2 hmk hbw hbo bA bB bT
    go_wp2_with fail
    refine bodyPost_ret (v:=.agg #[.int .i64 4,.int .i64 0,.string ⟨#[]⟩,.slice none 0 0,.slice aK t.kids.length capK]) (by simp [results,Tryz.results23,go_sem,y0,y1,y2,y3,y4]) rfl ⟨⟨_,_,_,_,_⟩,F,rfl,?_,hnd,?_,?_⟩
    · exact Own.carry _ _ F (fun b hb=>heap_set5s _ _ _ _ _ _ _ _ (by have:=(xU HFL b hb).1;omega)) (xU HOWN)
    · intro b hb
      rw [size_set5s]
      have:=xU HFL b hb;omega
    · exact below_set5s (xU HBXX) _ _ _ _ _ _ (by omega)

theorem spInto (n:Nat) (IH:WSaid n) (a b:Kd) (t:Tr) (ha6:a.sort≠6) (hb6:b.sort=6) (hn:ksz b≤n+1) (hn40:n+1≤40) (hf:fitF (n+1) a b=true) (hT:hT t a=true) (hO:okH t=true) (a1 a2 b1 b2 t1 t2:Option Addr) (p1 p2 q1 q2 r1 r2:Nat) (w:World)
 (ha:KW w a ⟨.int .i64 a.sort,.slice a1 a.names.length p1,.slice a2 a.kids.length p2⟩) (hb:KW w b ⟨.int .i64 b.sort,.slice b1 b.names.length q1,.slice b2 b.kids.length q2⟩) (ht:Rep (fun x=>x < w.heap.size) w t ⟨.int .i64 t.sort,.int .i64 t.num,.string t.text,.slice t1 t.names.length r1,.slice t2 t.kids.length r2⟩) :
 Calls Tryz.prog 23 #[.agg #[.int .i64 a.sort,.slice a1 a.names.length p1,.slice a2 a.kids.length p2],.agg #[.int .i64 b.sort,.slice b1 b.names.length q1,.slice b2 b.kids.length q2],.agg #[.int .i64 t.sort,.int .i64 t.num,.string t.text,.slice t1 t.names.length r1,.slice t2 t.kids.length r2]] w (TE (widF (n+1) a b t) w):=by
 have hkb:b.kids.length=1:=by rcases hb.sh with h | h | h <;> omega
 have hkb0:0 < b.kids.length:=by omega
 rw [widF_into (okD_ne ha.ok) hb6 ha6 hkb0]
 have hf':fitF n a b.kids[0]=true:=by rwa [fit_xm hb6 ha6 hkb0] at hf
 have hzb:=ksz_kid (List.getElem_mem hkb0)
 obtain ⟨yb,yo,yc,y1,y2,s1,s2,ey,hyl,y0,y3,y4,hy⟩:=hb.kid (i:=0) hkb0
 simp only [Value.slice.injEq,true_and] at ey
 obtain ⟨rfl,rfl⟩:=ey
 have hcall:∀ W',Below w.heap.size w W'→Calls Tryz.prog 23 #[.agg #[.int .i64 a.sort,.slice a1 a.names.length p1,.slice a2 a.kids.length p2],.agg #[.int .i64 b.kids[0].sort,.slice y1 b.kids[0].names.length s1,.slice y2 b.kids[0].kids.length s2],.agg #[.int .i64 t.sort,.int .i64 t.num,.string t.text,.slice t1 t.names.length r1,.slice t2 t.kids.length r2]] W' (TE (widF n a b.kids[0] t) W'):=fun W' hW =>
  IH _ _ _ (by omega) (by omega) hf' hT hO ⟨_,_,_⟩ ⟨_,_,_⟩ ⟨_,_,_,_,_⟩ W' (ha.on hW) (hy.on hW) (Rep.carry (fun b hb=>hW.block b hb) (fun b hb=>Nat.lt_of_lt_of_le hb hW.size) _ _ ht)
 have hne:(a.sort != 6)=true:=by simpa using ha6
 generalize widF n a b.kids[0] t=gx at *
 generalize b.kids[0]=kb at *
 rw [hb6]
 obtain ⟨hbx,hrO,hs0⟩:=l3w_start w (.int .i64 a.sort) (.slice a1 a.names.length p1) (.slice a2 a.kids.length p2) (.int .i64 6) (.slice b1 b.names.length q1) (.slice (some ⟨yb,yo,none⟩) b.kids.length q2) (.int .i64 t.sort) (.int .i64 t.num) (.string t.text) (.slice t1 t.names.length r1) (.slice t2 t.kids.length r2)
 have HC:=xH hcall;have HBX:=xH hbx;have HS0:=xH hs0;have HKB:=xH hkb0
 have HY:=xH (show yb < w.heap.size∧w.cell? ⟨yb,yo,none⟩=some (.int .i64 kb.sort)∧w.cell? ⟨yb,yo+1,none⟩=some (.slice y1 kb.names.length s1)∧w.cell? ⟨yb,yo+2,none⟩=some (.slice y2 kb.kids.length s2) from ⟨hyl,y0,y3,y4⟩)
 clear hcall hbx hrO hs0 hyl y0 y3 y4 hy ht ha hb hT hO hf hf' hkb hkb0 ha6 hb6 hzb hn hn40 IH
 go_enter Tryz.func23,Tryz.ntmps23
 go_upto_region 5 with fail
 generalize ((((w.alloc (.cells #[.int .i64 a.sort,.slice a1 a.names.length p1,.slice a2 a.kids.length p2] 26)).alloc (.cells #[.int .i64 6,.slice b1 b.names.length q1,.slice (some ⟨yb,yo,none⟩) b.kids.length q2] 26)).alloc (.cells #[.int .i64 t.sort,.int .i64 t.num,.string t.text,.slice t1 t.names.length r1,.slice t2 t.kids.length r2] 29)).alloc (.cells #[.int .i64 0,.int .i64 0,.string ⟨#[]⟩,.slice none 0 0,.slice none 0 0] 29)).alloc (.cells #[.int .i64 6,.int .i64 t.num,.string t.text,.slice none 0 0,.slice none 0 0] 29)=W0 at HBX HS0 ⊢
 have hdr:=(xU HBX).below.drew
 have hs0:W0.heap.size=w.heap.size+5:=xU HS0
 obtain ⟨hyl,y0,y3,y4⟩:=xU HY
 have bA:=(xU HBX).bA;have bB:=(xU HBX).bB;have bT:=(xU HBX).bT;have bR:=(xU HBX).bR
 have hbelow:=(xU HBX).below
 refine wp_swap (c':=Code.region 5 ws5Ops true) (by kernel_rfl) ?_
 refine wp_region_noPanic ?_
 refine ws5 (w.heap.size+3) w.heap.size (w.heap.size+1) (w.heap.size+2) (w.heap.size+3) yb yo b.kids.length q2 ⟨.int .i64 a.sort,.slice a1 a.names.length p1,.slice a2 a.kids.length p2⟩ ⟨.int .i64 kb.sort,.slice y1 kb.names.length s1,.slice y2 kb.kids.length s2⟩ ⟨.int .i64 t.sort,.int .i64 t.num,.string t.text,.slice t1 t.names.length r1,.slice t2 t.kids.length r2⟩ _ gx W0 _ (fun _ _ _ _ _ h=>h) ⟨by omega,bB.cell (i:=2) (by omega)⟩ (xU HKB)
  ⟨by omega,bA.cell (i:=0) (by omega),bA.cell (i:=1) (by omega),bA.cell (i:=2) (by omega)⟩ ⟨by omega,(hdr.cell hyl).trans y0,(hdr.cell hyl).trans y3,(hdr.cell hyl).trans y4⟩
  ⟨by omega,bT.cell (i:=0) (by omega),bT.cell (i:=1) (by omega),bT.cell (i:=2) (by omega),bT.cell (i:=3) (by omega),bT.cell (i:=4) (by omega)⟩ (Nat.le_refl _) (bR.of_block rfl) (xU HC _ hdr) (by kernel_rfl) ?_
 intro u g F W9 ho hnd hF hrow hbb
 refine NoPanic.normal ?_
 simp only [frL_eq,frG,List.lookup,Nat.reduceBEq,Nat.reduceAdd,Option.getD_some,Option.getD_none]
 obtain ⟨r0,r1,r2,r3,r4⟩:=cs5 hrow (by omega)
 simp only [row5] at r0 r1 r2 r3 r4
 have hsd:W0.drew.heap.size=W0.heap.size:=rfl
 have HEND:Hid (TE (.mk 6 0 ByteArray.empty [] [gx]) w (.returned (.agg #[.int .i64 6,.int .i64 0,.string ByteArray.empty,.slice none 0 0,.slice (some ⟨g,0,none⟩) 1 1])) W9) :=
  ⟨⟨_,_,_,_,_⟩,F,rfl,ho,hnd,fun b hb=>⟨by have:=(hF b hb).1;omega,(hF b hb).2⟩,hdr.trans (below_but hbb ⟨by omega,by omega⟩)⟩
 clear ho hnd hF hrow hbb hdr bA bB bT bR hyl y0 y3 y4 hbelow HC HY
 go_wp2_with fail
 exact bodyPost_ret (v:=.agg #[.int .i64 6,.int .i64 0,.string ByteArray.empty,.slice none 0 0,.slice (some ⟨g,0,none⟩) 1 1]) (by simp [results,Tryz.results23,go_sem,r0,r1,r2,r3,r4]) rfl (xU HEND)

theorem spLeaf1 (n:Nat) (a b:Kd) (t:Tr) (hs:b.sort=1) (hab:a.sort=b.sort) (hT:hT t a=true) (a1 a2 b1 b2 t1 t2:Option Addr) (p1 p2 q1 q2 r1 r2:Nat) (w:World)
 (ht:Rep (fun x=>x < w.heap.size) w t ⟨.int .i64 t.sort,.int .i64 t.num,.string t.text,.slice t1 t.names.length r1,.slice t2 t.kids.length r2⟩) :
 Calls Tryz.prog 23 #[.agg #[.int .i64 a.sort,.slice a1 a.names.length p1,.slice a2 a.kids.length p2],.agg #[.int .i64 b.sort,.slice b1 b.names.length q1,.slice b2 b.kids.length q2],.agg #[.int .i64 t.sort,.int .i64 t.num,.string t.text,.slice t1 t.names.length r1,.slice t2 t.kids.length r2]] w (TE (widF (n+1) a b t) w):=by
 have hts:t.sort=1:=by have:=(hT_open hT).1;omega
 rw [widF_leaf hab (by omega),hts]
 have hI1:I64 t.num:=ht.open.2.2.2.2.1
 have hI2:t.text.size≤9223372036854775807:=ht.open.2.2.2.2.2.1
 rw [hs]
 obtain ⟨hbx,hrO,hs0⟩:=l3w_start w (.int .i64 a.sort) (.slice a1 a.names.length p1) (.slice a2 a.kids.length p2) (.int .i64 1) (.slice b1 b.names.length q1) (.slice b2 b.kids.length q2) (.int .i64 1) (.int .i64 t.num) (.string t.text) (.slice t1 t.names.length r1) (.slice t2 t.kids.length r2)
 have HEND:Hid (∀ W9,Below w.heap.size w W9→TE (.mk 1 t.num t.text [] []) w (.returned (.agg #[.int .i64 1,.int .i64 t.num,.string t.text,.slice none 0 0,.slice none 0 0])) W9):=fun W9 hb9 =>
  ⟨⟨_,_,_,_,_⟩,[],rfl,own_leaf (show I64 1 from ⟨by decide,by decide⟩) hI1 hI2,List.nodup_nil,fun b hb=>by simp at hb,hb9⟩
 have HBX:=xH hbx;have HRO:=xH hrO;have HS0:=xH hs0
 clear hbx hrO hs0 ht hT hs hab hts hI1 hI2
 go_enter Tryz.func23,Tryz.ntmps23
 go_upto_region 27 with fail
 generalize ((((w.alloc (.cells #[.int .i64 a.sort,.slice a1 a.names.length p1,.slice a2 a.kids.length p2] 26)).alloc (.cells #[.int .i64 1,.slice b1 b.names.length q1,.slice b2 b.kids.length q2] 26)).alloc (.cells #[.int .i64 1,.int .i64 t.num,.string t.text,.slice t1 t.names.length r1,.slice t2 t.kids.length r2] 29)).alloc (.cells #[.int .i64 0,.int .i64 0,.string ⟨#[]⟩,.slice none 0 0,.slice none 0 0] 29)).alloc (.cells #[.int .i64 1,.int .i64 t.num,.string t.text,.slice none 0 0,.slice none 0 0] 29)=W0 at HBX HRO HS0 ⊢
 have hs0:W0.heap.size=w.heap.size+5:=xU HS0
 obtain ⟨o0,o1,o2,o3,o4⟩:=cs5 ((xU HRO)) (by omega)
 have m0:=(xU HBX).bR.cell (i:=0) (by omega);have m1:=(xU HBX).bR.cell (i:=1) (by omega);have m2:=(xU HBX).bR.cell (i:=2) (by omega);have m3:=(xU HBX).bR.cell (i:=3) (by omega);have m4:=(xU HBX).bR.cell (i:=4) (by omega);have mf:=(xU HBX).bR.frozen
 simp only [row5] at o0 o1 o2 o3 o4 m0 m1 m2 m3 m4
 go_wp2_with fail
 exact bodyPost_ret (v:=.agg #[.int .i64 1,.int .i64 t.num,.string t.text,.slice none 0 0,.slice none 0 0]) (by simp [results,Tryz.results23,go_sem,m0,m1,m2,m3,m4]) rfl (xU HEND _ (below_set5s (xU HBX).below _ _ _ _ _ _ (by omega)))
theorem spLeaf2 (n:Nat) (a b:Kd) (t:Tr) (hs:b.sort=2) (hab:a.sort=b.sort) (hT:hT t a=true) (a1 a2 b1 b2 t1 t2:Option Addr) (p1 p2 q1 q2 r1 r2:Nat) (w:World)
 (ht:Rep (fun x=>x < w.heap.size) w t ⟨.int .i64 t.sort,.int .i64 t.num,.string t.text,.slice t1 t.names.length r1,.slice t2 t.kids.length r2⟩) :
 Calls Tryz.prog 23 #[.agg #[.int .i64 a.sort,.slice a1 a.names.length p1,.slice a2 a.kids.length p2],.agg #[.int .i64 b.sort,.slice b1 b.names.length q1,.slice b2 b.kids.length q2],.agg #[.int .i64 t.sort,.int .i64 t.num,.string t.text,.slice t1 t.names.length r1,.slice t2 t.kids.length r2]] w (TE (widF (n+1) a b t) w):=by
 have hts:t.sort=2:=by have:=(hT_open hT).1;omega
 rw [widF_leaf hab (by omega),hts]
 have hI1:I64 t.num:=ht.open.2.2.2.2.1
 have hI2:t.text.size≤9223372036854775807:=ht.open.2.2.2.2.2.1
 rw [hs]
 obtain ⟨hbx,hrO,hs0⟩:=l3w_start w (.int .i64 a.sort) (.slice a1 a.names.length p1) (.slice a2 a.kids.length p2) (.int .i64 2) (.slice b1 b.names.length q1) (.slice b2 b.kids.length q2) (.int .i64 2) (.int .i64 t.num) (.string t.text) (.slice t1 t.names.length r1) (.slice t2 t.kids.length r2)
 have HEND:Hid (∀ W9,Below w.heap.size w W9→TE (.mk 2 t.num t.text [] []) w (.returned (.agg #[.int .i64 2,.int .i64 t.num,.string t.text,.slice none 0 0,.slice none 0 0])) W9):=fun W9 hb9 =>
  ⟨⟨_,_,_,_,_⟩,[],rfl,own_leaf (show I64 2 from ⟨by decide,by decide⟩) hI1 hI2,List.nodup_nil,fun b hb=>by simp at hb,hb9⟩
 have HBX:=xH hbx;have HRO:=xH hrO;have HS0:=xH hs0
 clear hbx hrO hs0 ht hT hs hab hts hI1 hI2
 go_enter Tryz.func23,Tryz.ntmps23
 go_upto_region 27 with fail
 generalize ((((w.alloc (.cells #[.int .i64 a.sort,.slice a1 a.names.length p1,.slice a2 a.kids.length p2] 26)).alloc (.cells #[.int .i64 2,.slice b1 b.names.length q1,.slice b2 b.kids.length q2] 26)).alloc (.cells #[.int .i64 2,.int .i64 t.num,.string t.text,.slice t1 t.names.length r1,.slice t2 t.kids.length r2] 29)).alloc (.cells #[.int .i64 0,.int .i64 0,.string ⟨#[]⟩,.slice none 0 0,.slice none 0 0] 29)).alloc (.cells #[.int .i64 2,.int .i64 t.num,.string t.text,.slice none 0 0,.slice none 0 0] 29)=W0 at HBX HRO HS0 ⊢
 have hs0:W0.heap.size=w.heap.size+5:=xU HS0
 obtain ⟨o0,o1,o2,o3,o4⟩:=cs5 ((xU HRO)) (by omega)
 have m0:=(xU HBX).bR.cell (i:=0) (by omega);have m1:=(xU HBX).bR.cell (i:=1) (by omega);have m2:=(xU HBX).bR.cell (i:=2) (by omega);have m3:=(xU HBX).bR.cell (i:=3) (by omega);have m4:=(xU HBX).bR.cell (i:=4) (by omega);have mf:=(xU HBX).bR.frozen
 simp only [row5] at o0 o1 o2 o3 o4 m0 m1 m2 m3 m4
 go_wp2_with fail
 exact bodyPost_ret (v:=.agg #[.int .i64 2,.int .i64 t.num,.string t.text,.slice none 0 0,.slice none 0 0]) (by simp [results,Tryz.results23,go_sem,m0,m1,m2,m3,m4]) rfl (xU HEND _ (below_set5s (xU HBX).below _ _ _ _ _ _ (by omega)))
theorem spLeaf3 (n:Nat) (a b:Kd) (t:Tr) (hs:b.sort=3) (hab:a.sort=b.sort) (hT:hT t a=true) (a1 a2 b1 b2 t1 t2:Option Addr) (p1 p2 q1 q2 r1 r2:Nat) (w:World)
 (ht:Rep (fun x=>x < w.heap.size) w t ⟨.int .i64 t.sort,.int .i64 t.num,.string t.text,.slice t1 t.names.length r1,.slice t2 t.kids.length r2⟩) :
 Calls Tryz.prog 23 #[.agg #[.int .i64 a.sort,.slice a1 a.names.length p1,.slice a2 a.kids.length p2],.agg #[.int .i64 b.sort,.slice b1 b.names.length q1,.slice b2 b.kids.length q2],.agg #[.int .i64 t.sort,.int .i64 t.num,.string t.text,.slice t1 t.names.length r1,.slice t2 t.kids.length r2]] w (TE (widF (n+1) a b t) w):=by
 have hts:t.sort=3:=by have:=(hT_open hT).1;omega
 rw [widF_leaf hab (by omega),hts]
 have hI1:I64 t.num:=ht.open.2.2.2.2.1
 have hI2:t.text.size≤9223372036854775807:=ht.open.2.2.2.2.2.1
 rw [hs]
 obtain ⟨hbx,hrO,hs0⟩:=l3w_start w (.int .i64 a.sort) (.slice a1 a.names.length p1) (.slice a2 a.kids.length p2) (.int .i64 3) (.slice b1 b.names.length q1) (.slice b2 b.kids.length q2) (.int .i64 3) (.int .i64 t.num) (.string t.text) (.slice t1 t.names.length r1) (.slice t2 t.kids.length r2)
 have HEND:Hid (∀ W9,Below w.heap.size w W9→TE (.mk 3 t.num t.text [] []) w (.returned (.agg #[.int .i64 3,.int .i64 t.num,.string t.text,.slice none 0 0,.slice none 0 0])) W9):=fun W9 hb9 =>
  ⟨⟨_,_,_,_,_⟩,[],rfl,own_leaf (show I64 3 from ⟨by decide,by decide⟩) hI1 hI2,List.nodup_nil,fun b hb=>by simp at hb,hb9⟩
 have HBX:=xH hbx;have HRO:=xH hrO;have HS0:=xH hs0
 clear hbx hrO hs0 ht hT hs hab hts hI1 hI2
 go_enter Tryz.func23,Tryz.ntmps23
 go_upto_region 27 with fail
 generalize ((((w.alloc (.cells #[.int .i64 a.sort,.slice a1 a.names.length p1,.slice a2 a.kids.length p2] 26)).alloc (.cells #[.int .i64 3,.slice b1 b.names.length q1,.slice b2 b.kids.length q2] 26)).alloc (.cells #[.int .i64 3,.int .i64 t.num,.string t.text,.slice t1 t.names.length r1,.slice t2 t.kids.length r2] 29)).alloc (.cells #[.int .i64 0,.int .i64 0,.string ⟨#[]⟩,.slice none 0 0,.slice none 0 0] 29)).alloc (.cells #[.int .i64 3,.int .i64 t.num,.string t.text,.slice none 0 0,.slice none 0 0] 29)=W0 at HBX HRO HS0 ⊢
 have hs0:W0.heap.size=w.heap.size+5:=xU HS0
 obtain ⟨o0,o1,o2,o3,o4⟩:=cs5 ((xU HRO)) (by omega)
 have m0:=(xU HBX).bR.cell (i:=0) (by omega);have m1:=(xU HBX).bR.cell (i:=1) (by omega);have m2:=(xU HBX).bR.cell (i:=2) (by omega);have m3:=(xU HBX).bR.cell (i:=3) (by omega);have m4:=(xU HBX).bR.cell (i:=4) (by omega);have mf:=(xU HBX).bR.frozen
 simp only [row5] at o0 o1 o2 o3 o4 m0 m1 m2 m3 m4
 go_wp2_with fail
 exact bodyPost_ret (v:=.agg #[.int .i64 3,.int .i64 t.num,.string t.text,.slice none 0 0,.slice none 0 0]) (by simp [results,Tryz.results23,go_sem,m0,m1,m2,m3,m4]) rfl (xU HEND _ (below_set5s (xU HBX).below _ _ _ _ _ _ (by omega)))
end Go.Proofs.YteefjeddboefcaaGreatDoor
