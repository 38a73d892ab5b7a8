/- A part. -/
import Derived.Test.YteikmbkljkkjiaaSart30
import Derived.Test.YteikmbkljkkjiaaSart31
set_option maxRecDepth 100000
set_option maxHeartbeats 6400000
namespace Go.Proofs.Yteikmbkljkkjiaa
open Go Go.RowKit Go.WideMaps Go.Maps
def OwnEnd2 (w w':World) (e:Ending) (d:Dk) (n:Int):Prop :=
 ∃ (c:C3) (F0 F1 F2:List Nat),e=.returned (.tuple #[.agg #[c.c0,c.c1,c.c2],.int .i64 n])∧DkOwn w' d c F0 F1 F2∧(F0++F1++F2).Nodup∧(∀ b,b∈F0++F1++F2→w.heap.size≤b∧b < w'.heap.size)∧Below w.heap.size w w'
theorem owns_ne {W:World} {b1 b2 e1 e2 s1 s2 n1 n2 g:Nat} {v1 v2:Value} {x1 x2:List Value} (h1:W.ownsRow b1 e1 s1 v1 n1 x1) (h2:W.ownsRow b2 e2 s2 v2 n2 x2) (hne:e1≠e2) (g1:v1.ownBlock=some g) (g2:v2.ownBlock=some g):False:=by
 rcases h1.2 with ⟨hv,_⟩ | ⟨ga,c1,u1,hv1,_,hh1,_⟩
 · rw [hv] at g1;cases g1
 rcases h2.2 with ⟨hv,_⟩ | ⟨gb,c2,u2,hv2,_,hh2,_⟩
 · rw [hv] at g2;cases g2
 rw [hv1] at g1;rw [hv2] at g2
 simp only [Value.ownBlock,Option.some.injEq] at g1 g2
 subst g1;subst g2
 rw [hh1] at hh2
 simp only [Option.some.injEq,Obj.cells.injEq] at hh2
 exact hne hh2.2.1
theorem MxSt.own {base L:Nat} {W:World} {x0 x1 x2:Value} {fs:List Df} {ns:List ByteArray} {ms:List Dm} (h:MxSt base L W x0 x1 x2 fs ns ms) (hf:∀ f,f∈fs→f.okM) (hn:∀ x,x∈ns→x.size≤9223372036854775807) (hm:∀ m,m∈ms→m.okM) :
 ∃ F0 F1 F2,DkOwn W ⟨fs,ns,ms⟩ ⟨x0,x1,x2⟩ F0 F1 F2∧(F0++F1++F2).Nodup∧∀ b,b∈F0++F1++F2→base≤b∧b < W.heap.size:=by
 obtain ⟨F0,h1,h2,h3,h4⟩:=FlatOwn.of_row (rs:=fs.map Df.cs) (n:=3) (by rw [List.length_map];exact h.o0) (fun r hr=>by obtain ⟨f,-,rfl⟩:=List.mem_map.1 hr;rfl)
 obtain ⟨F1,g1,g2,g3,g4⟩:=strsOwn_of_row h.o1 hn
 obtain ⟨F2,k1,k2,k3,k4⟩:=FlatOwn.of_row (rs:=ms.map Dm.cs) (n:=2) (by rw [List.length_map];exact h.o2) (fun r hr=>by obtain ⟨f,-,rfl⟩:=List.mem_map.1 hr;rfl)
 refine ⟨F0,F1,F2,⟨⟨h1,hf⟩,g1,⟨k1,hm⟩⟩,?_,fun b hb=>?_⟩
 · refine List.nodup_append.2 ⟨List.nodup_append.2 ⟨h4,g2,fun a ha b hb e=>by subst e;exact owns_ne h.o0 h.o1 (by decide) (h2 a ha) (g4 a hb)⟩,k4,fun a ha b hb e=>?_⟩
   subst e
   rcases List.mem_append.1 ha with ha | ha
   · exact owns_ne h.o0 h.o2 (by decide) (h2 a ha) (k2 a hb)
   · exact owns_ne h.o1 h.o2 (by decide) (g4 a ha) (k2 a hb)
 · rcases List.mem_append.1 hb with hb | hb
   · rcases List.mem_append.1 hb with hb | hb
     · exact h3 b hb
     · exact g3 b hb
   · exact k3 b hb
theorem ok_small {d:Dk} (h:DkOkS d):(∀ f,f∈d.files→f.name.size≤1099511627776∧f.data.size≤1099511627776)∧(∀ x,x∈d.names→x.size≤1099511627776)∧(∀ f,f∈d.moves→f.name.size≤1099511627776):=by
 have hf:∀ f,f∈d.files→f.name.size≤8∧f.data.size≤20000:=fun f hf=>by
  obtain ⟨i,hi,rfl⟩:=List.getElem_of_mem hf
  have hfi:=h.file i hi (by rw [h.len];exact hi)
  refine ⟨?_,hfi.data⟩
  refine Classical.byContradiction fun hno=>?_
  have hn:=hfi.name
  rw [nameOk_len (Or.inr (by omega))] at hn
  cases hn
 obtain ⟨hnd,heq,-⟩:=dk_nodup h
 have hmd:∀ x,x∈madeD d.names d.moves→x.size≤8:=fun x hx=>by
  rw [← heq] at hx
  obtain ⟨f,hf',rfl⟩:=List.mem_map.1 hx
  exact (hf f hf').1
 refine ⟨fun f hf'=>by have:=hf f hf';omega,fun x hx=>?_,fun m hm=>?_⟩
 · have:=hmd x (List.mem_append_left _ hx);omega
 · obtain ⟨i,hi,rfl⟩:=List.getElem_of_mem hm
   cases hg:d.moves[i].gone with
   | true =>
     have h1:=(after_nodup hnd i (by omega)).2 _ (hasB_iff.1 (h.move i hi hg))
     have:=hmd _ ((made_sub d.names d.moves i).subset h1)
     omega
   | false =>
     have:d.moves[i].name∈madeD d.names d.moves:=by
      unfold madeD
      refine List.mem_append_right _ ?_
      simp only [List.mem_map,List.mem_filter]
      exact ⟨d.moves[i],⟨hm,by simp [hg]⟩,rfl⟩
     have:=hmd _ this
     omega
theorem doD_okM {d:Dk} (k:Int) {x y:ByteArray} (hok:DkOkS d) (hf:∀ f,f∈d.files→f.okM) (hn:∀ z,z∈d.names→z.size≤9223372036854775807) (hm:∀ m,m∈d.moves→m.okM) (hx:x.size≤1048576) :
 (∀ f,f∈(doD d k x y).1.files→f.okM)∧(∀ z,z∈(doD d k x y).1.names→z.size≤9223372036854775807)∧∀ m,m∈(doD d k x y).1.moves→m.okM:=by
 by_cases k1:k=1
 · subst k1
   by_cases ht:nameOkB x=false∨0≤findF d.files x
   · rw [doD_taken hok ht];exact ⟨hf,hn,hm⟩
   by_cases hfu:64≤d.files.length∨128≤d.moves.length
   · rw [doD_full hok ht hfu];exact ⟨hf,hn,hm⟩
   rw [doD_make hok ht hfu]
   exact ⟨okF hf ⟨by simp only;omega,by simp only;decide,by unfold I64;simp⟩,hn,okM hm (show x.size≤9223372036854775807 by omega)⟩
 by_cases k5:k=5
 · subst k5
   rw [doD_dirs hok]
   refine ⟨fun f hfm=>?_,fun z hz=>?_,fun m hmm=>(by cases hmm)⟩
   · obtain ⟨z,hz,rfl⟩:=List.mem_map.1 hfm
     obtain ⟨i,hi,-,-,hfi⟩:=names_file hz
     rw [fileD_at hi hfi]
     exact hf _ (List.getElem_mem hi)
   · obtain ⟨i,hi,-,hxi,-⟩:=names_file (show z∈namesD d from hz)
     rw [← hxi]
     exact (hf _ (List.getElem_mem hi)).1
 by_cases hk:2≤k∧k≤4
 case neg=>rw [doD_kind hok (by omega)];exact ⟨hf,hn,hm⟩
 by_cases hin:x∈namesD d
 case neg=>rw [doD_nofile hok hk hin];exact ⟨hf,hn,hm⟩
 obtain ⟨i,hi,-,hxi,hfi⟩:=names_file hin
 have hfd:=fileD_at hi hfi
 have hds:=(hok.file i hi (by rw [hok.len];exact hi)).data
 have hfo:=hf _ (List.getElem_mem hi)
 by_cases k2:k=2
 · subst k2
   by_cases hz:20000 - ((fileD d x).data.size:Int) < (y.size:Int)
   · rw [doD_addfull hok hin hz];exact ⟨hf,hn,hm⟩
   rw [doD_add hok hin hz,putD_at hfi,hfd]
   rw [hfd] at hz
   exact ⟨okSet hf ⟨hfo.1,by simp only [ByteArray.size_append];omega,hfo.2.2⟩,hn,hm⟩
 by_cases k3:k=3
 · subst k3
   rw [doD_sync hok hin,putD_at hfi,hfd]
   exact ⟨okSet hf ⟨hfo.1,hfo.2.1,⟨by simp only;omega,by simp only;omega⟩⟩,hn,hm⟩
 obtain rfl:k=4:=by omega
 by_cases hfu:128≤d.moves.length
 · rw [doD_gonefull hok hin hfu];exact ⟨hf,hn,hm⟩
 rw [doD_gone hok hin hfu]
 exact ⟨hf,hn,okM hm (show x.size≤9223372036854775807 by omega)⟩
theorem implDiskDo_any (d:Dk) (k:Int) (x y:ByteArray) (P:Nat→Prop) (c:C3) (w:World) (hP:∀ b,P b→b < w.heap.size) (hd:DkAt P w d c) (hx:x.size≤1048576) :
 Calls Try.prog 10 #[.agg #[c.c0,c.c1,c.c2],.agg #[.int .i64 k,.string x,.string y]] w fun e w'=>OwnEnd2 w w' e (doD d k x y).1 (doD d k x y).2:=by
 obtain ⟨c0,c1,c2⟩:=c
 have HD:=xH hd;have HP:=xH hP
 have hbx:∀ o o' o'',Below w.heap.size w (((w.alloc o).alloc o').alloc o''):=fun o o' o''=>(((Below.refl _ _).alloc (Nat.le_refl _) o).alloc (by simp) o').alloc (by simp;omega) o''
 have HV:=xH (fun o o' o''=>viewsOf_any d P ⟨c0,c1,c2⟩ (((w.alloc o).alloc o').alloc o'') (fun b hb=>Nat.lt_of_lt_of_le (hP b hb) (hbx o o' o'').size) (hd.carry (fun b hb=>(hbx o o' o'').block b (hP b hb)) (fun _ h=>h)))
 have HBX:=xH hbx
 have hr0:∀ o' o'',(((w.alloc (.cells #[c0,c1,c2] 27)).alloc o').alloc o'').rowIs w.heap.size 27 3 (row3 c0 c1 c2):=fun o' o''=>((row3_alloc w c0 c1 c2 27).alloc o').alloc o''
 have hr1:∀ o o'',(((w.alloc o).alloc (.cells #[.int .i64 k,.string x,.string y] 29)).alloc o'').rowIs (w.heap.size+1) 29 3 (row3 (.int .i64 k) (.string x) (.string y)):=fun o o''=>by
  have:=(row3_alloc (w.alloc o) (.int .i64 k) (.string x) (.string y) 29).alloc o''
  rw [World.size_alloc] at this
  exact this
 have hr2:∀ o o',(((w.alloc o).alloc o').alloc (.cells #[.slice none 0 0,.slice none 0 0,.slice none 0 0] 27)).rowIs (w.heap.size+1+1) 27 3 (row3 (.slice none 0 0) (.slice none 0 0) (.slice none 0 0)):=fun o o'=>by
  have:=row3_alloc ((w.alloc o).alloc o') (.slice none 0 0) (.slice none 0 0) (.slice none 0 0) 27
  rw [World.size_alloc,World.size_alloc] at this
  exact this
 have HR0:=xH hr0;have HR1:=xH hr1;have HR2:=xH hr2
 clear hd hP hbx hr0 hr1 hr2
 go_enter Try.func10,Try.ntmps10
 go_wp2_with fail
 refine (xU HV _ _ _).mono ?_
 rintro e w1 ⟨r,q0,q1,x2,n2,m2,q3,x4,n4,m4,rfl,hr,hb1,hvw⟩
 have hb01:=(xU HBX _ _ _).trans (hb1.mono (xU HBX _ _ _).size)
 have hs1:w.heap.size+3≤w1.heap.size:=by have:=hb1.size;simpa using this
 have hq0:=(xU HR0 _ _).of_block (hb1.block w.heap.size (by simp;omega))
 have hq1:=(xU HR1 _ _).of_block (hb1.block (w.heap.size+1) (by simp))
 have hq2:=(xU HR2 _ _).of_block (hb1.block (w.heap.size+1+1) (by simp))
 have HB1:=xH hb01;have Q0:=xH hq0;have Q1:=xH hq1;have Q2:=xH hq2
 clear hb1 HV hb01 HR0 HR1 HR2
 cases r with
 | false =>
   have HNO:=xH (show doD d k x y=(⟨[],[],[]⟩,1) from doD_bad (fun h=>by have:=hr.2 ((dkOk_iff d).1 h);cases this))
   have hq3:=fun o'=>hq2.alloc o'
   have y0:=fun o'=>(hq3 o').cell (i:=0) (by omega);have y1:=fun o'=>(hq3 o').cell (i:=1) (by omega);have y2:=fun o'=>(hq3 o').cell (i:=2) (by omega)
   have z:=fun o'=>(hq3 o').frozen
   simp only [row3] at y0 y1 y2
   clear hr hvw hq2 hq3 hq0 hq1
   go_wp2_with fail
   try simp only [Exit.inBlock,Exit.then]
   refine bodyPost_ret (v:=.tuple #[.agg #[.slice none 0 0,.slice none 0 0,.slice none 0 0],.int .i64 1]) (by simp [results,Try.results10,go_sem,y0,y1,y2]) rfl ?_
   rw [xU HNO]
   refine ⟨⟨_,_,_⟩,[],[],[],rfl,DkOwn.none _,by simp,fun b hb=>(by cases hb),?_⟩
   exact ((((xU HB1).alloc (xU HB1).size _).setCell (by simp;omega) _).setCell (by simp;omega) _).setCell (by simp;omega) _
 | true =>
   obtain ⟨T,B,vm,hvw⟩:=hvw rfl
   have hok:=(dkOk_iff d).2 (hr.1 rfl)
   clear hr
   have hval:=hvw.val
   simp only [Value.agg.injEq,Array.mk.injEq,List.cons.injEq,Value.pointer.injEq,and_true] at hval
   obtain ⟨rfl,rfl,hx2,rfl,rfl⟩:=hval
   subst hx2
   obtain ⟨a0,p0,g0,hl0,-⟩:=(xU HD).fs.open
   simp only at g0
   subst g0
   have hsm:=ok_small hok
   have hd1:DkAt (fun b=>b < w1.heap.size) w1 d ⟨.slice a0 d.files.length p0,.slice x2 n2 m2,c2⟩:=(xU HD).carry (fun b hb=>(xU HB1).block b (xU HP b hb)) (fun b hb=>by have:=xU HP b hb;omega)
   have hvs:Vs (fun b=>b < w1.heap.size) d a0 p0 T B x2 n2 m2 x4 n4 m4 w1:=⟨hvw.row,hvw.map,hd1.ns,hvw.fns.carry (fun _ _=>rfl) (fun _ h=>h.2),hd1.fs,fun _ h=>h⟩
   have hT:=hvw.tb.2;have hB:=hvw.bb.2
   have hbv:∀ o,Below w1.heap.size w1 (w1.alloc o):=fun o=>(Below.refl _ _).alloc (Nat.le_refl _) o
   have HCD:=xH (fun o=>copyDisk_any d (fun b=>b < w1.heap.size) ⟨.slice a0 d.files.length p0,.slice x2 n2 m2,c2⟩ (w1.alloc o) (fun b hb=>by rw [World.size_alloc];omega) (hd1.carry (fun b hb=>(hbv o).block b hb) (fun _ h=>h)) ⟨by have:=hok.l1;omega,by have:=hok.l2;omega,by have:=hok.l3;omega⟩ hsm)
   have k0:=fun o=>(hq0.alloc o).cell (i:=0) (by omega);have k1:=fun o=>(hq0.alloc o).cell (i:=1) (by omega);have k2:=fun o=>(hq0.alloc o).cell (i:=2) (by omega)
   simp only [row3] at k0 k1 k2
   obtain ⟨a2,p2,g2,hl2,-⟩:=hd1.ms.open
   simp only at g2
   subst g2
   have hV1:=fiveV_alloc w1 (.pointer (some ⟨T,0,none⟩)) (.pointer (some ⟨T,0,none⟩)) (.slice x2 n2 m2) (.pointer (some ⟨T,0,none⟩)) (.slice x4 n4 m4) 71
   have HV1:=xH hV1;have HVS:=xH hvs;have HD1:=xH hd1;have HOK:=xH hok;have HBV:=xH hbv
   clear hvw hd1 hvs hsm hbv hV1 hq0 hq1 hq2 hok
   go_wp2_with fail
   refine (xU HCD _).mono ?_
   rintro e w2 ⟨⟨u0,u1,u2⟩,rfl,h0,h1,h2,hb2⟩
   clear k0 k1 k2 HCD
   simp only at h0 h1 h2
   have hs2:w1.heap.size+1≤w2.heap.size:=by have:=hb2.size;simpa using this
   rw [World.size_alloc] at h0 h1 h2
   obtain ⟨b0,r0,e0⟩:=own_slice h0
   obtain ⟨b1,r1,e1⟩:=own_slice h1
   obtain ⟨b2,r2,e2⟩:=own_slice h2
   subst e0 e1 e2
   have hV2:=(xU HV1).of_block (hb2.block w1.heap.size (by simp))
   have hbw2:=(xU HBV _).trans (hb2.mono (xU HBV _).size)
   have hal:∀ o,Below w2.heap.size w2 (w2.alloc o):=fun o=>(Below.refl _ _).alloc (Nat.le_refl _) o
   have hmx:MxSt (w1.heap.size+1) w2.heap.size (w2.alloc (.cells #[.slice b0 d.files.length r0,.slice b1 d.names.length r1,.slice b2 d.moves.length r2] 27)) (.slice b0 d.files.length r0) (.slice b1 d.names.length r1) (.slice b2 d.moves.length r2) d.files d.names d.moves:=⟨row3_alloc _ _ _ _ _,h0.alloc _,h1.alloc _,h2.alloc _⟩
   have hq1:=(xU Q1).of_block (hbw2.block (w.heap.size+1) (by omega))
   have hq2:=(xU Q2).of_block (hbw2.block (w.heap.size+1+1) (by omega))
   have HRF:=xH (refusal_any (fun b=>b < w1.heap.size) (w2.alloc (.cells #[.slice b0 d.files.length r0,.slice b1 d.names.length r1,.slice b2 d.moves.length r2] 27)) d a0 p0 T B x2 n2 m2 x4 n4 m4 k x y ((xU HVS).on (hbw2.trans ((hal _).mono hbw2.size))) hx (xU HOK))
   have HVS2:=xH ((xU HVS).on (hbw2.trans ((hal (.cells #[.slice b0 d.files.length r0,.slice b1 d.names.length r1,.slice b2 d.moves.length r2] 27)).mono hbw2.size)))
   have HMX:=xH hmx;have HBW2:=xH hbw2;have HV2:=xH hV2;have HQ1:=xH hq1;have HQ2:=xH hq2
   have i0:=fun o=>(hV2.alloc o).cell (i:=0) (by omega);have i1:=fun o=>(hV2.alloc o).cell (i:=1) (by omega);have i2:=fun o=>(hV2.alloc o).cell (i:=2) (by omega);have i3:=fun o=>(hV2.alloc o).cell (i:=3) (by omega);have i4:=fun o=>(hV2.alloc o).cell (i:=4) (by omega)
   simp only [fiveV] at i0 i1 i2 i3 i4
   have j0:=fun o=>(hq1.alloc o).cell (i:=0) (by omega);have j1:=fun o=>(hq1.alloc o).cell (i:=1) (by omega);have j2:=fun o=>(hq1.alloc o).cell (i:=2) (by omega)
   simp only [row3] at j0 j1 j2
   clear h0 h1 h2 hb2 hV2 hbw2 hal hmx hq1 hq2 HVS
   have hfin:∀ (W4:World) (v0 v1 v2:Value),MxSt (w1.heap.size+1) w2.heap.size W4 v0 v1 v2 (doD d k x y).1.files (doD d k x y).1.names (doD d k x y).1.moves→Below (w1.heap.size+1) w2 W4→OwnEnd2 w (((W4.setCell ⟨w.heap.size+1+1,0,none⟩ v0).setCell ⟨w.heap.size+1+1,1,none⟩ v1).setCell ⟨w.heap.size+1+1,2,none⟩ v2) (.returned (.tuple #[.agg #[v0,v1,v2],.int .i64 (doD d k x y).2])) (doD d k x y).1 (doD d k x y).2:=fun W4 v0 v1 v2 hm4 hb4=>by
    have hbo:=doD_okM (y:=y) k (xU HOK) (xU HD1).fs.2 (fun z hz=>by have:=(ok_small (xU HOK)).2.1 z hz;omega) (xU HD1).ms.2 hx
    obtain ⟨F0,F1,F2,ho,hnd,hF⟩:=hm4.own hbo.1 hbo.2.1 hbo.2.2
    have hk:∀ b,w1.heap.size+1≤b→(((W4.setCell ⟨w.heap.size+1+1,0,none⟩ v0).setCell ⟨w.heap.size+1+1,1,none⟩ v1).setCell ⟨w.heap.size+1+1,2,none⟩ v2).heap[b]? = W4.heap[b]? := fun b hb=>by
     rw [Below.heap_setCell _ _ _ _ (by simp;omega),Below.heap_setCell _ _ _ _ (by simp;omega),Below.heap_setCell _ _ _ _ (by simp;omega)]
    have h24:=(xU HBW2).trans (hb4.mono (by omega))
    have hbl:=(xU HB1).trans (h24.mono (by omega))
    exact ⟨⟨v0,v1,v2⟩,F0,F1,F2,rfl,ho.carry (fun b hb=>hk b (hF b hb).1),hnd,fun b hb=>⟨by have:=(hF b hb).1;omega,by simpa using (hF b hb).2⟩,((hbl.setCell (by simp;omega) _).setCell (by simp;omega) _).setCell (by simp;omega) _⟩
   have HFIN:=xH hfin
   have HSAME:=xH (doD_same (k:=k) (x:=x) (y:=y) (xU HOK))
   generalize hDD:(doD d k x y).2=n at *
   have HDD:=xH hDD
   clear hDD hfin
   go_wp2_with fail
   refine (xU HRF).mono ?_
   rintro e w3 ⟨rfl,hb3⟩
   clear i0 i1 i2 i3 i4 j0 j1 j2 HRF
   have hal:Below w2.heap.size w2 (w2.alloc (.cells #[.slice b0 d.files.length r0,.slice b1 d.names.length r1,.slice b2 d.moves.length r2] 27)):=(Below.refl _ _).alloc (Nat.le_refl _) _
   have hs3:w2.heap.size+1≤w3.heap.size:=by have:=hb3.size;simpa using this
   have hb23:=hal.trans (hb3.mono hal.size)
   have hm3:=(xU HMX).keep hb3
   have hq1:=(xU HQ1).of_block (hb23.block _ (by omega));have hq2:=(xU HQ2).of_block (hb23.block _ (by omega));have hV3:=(xU HV2).of_block (hb23.block _ (by omega))
   by_cases hn0:n=0
   case neg =>
    have hnn:(n==0)=false:=by simpa using hn0
    have hsame:=xU HSAME hn0
    obtain ⟨y0,y1,y2⟩:=cs3 hq2 (by omega)
    have z:=hq2.frozen
    obtain ⟨l0,l1,l2⟩:=cs3 hm3.row (by omega)
    simp only [row3] at y0 y1 y2 l0 l1 l2
    have HF:=xH (xU HFIN w3 (.slice b0 d.files.length r0) (.slice b1 d.names.length r1) (.slice b2 d.moves.length r2) (by rw [hsame];exact hm3) (hb23.mono (by omega)))
    clear hm3 hq1 hq2 hV3 hb3 hb23 hal hsame hn0
    go_wp2_with fail
    try simp only [Exit.inBlock,Exit.then]
    refine bodyPost_ret (v:=.tuple #[.agg #[.slice b0 d.files.length r0,.slice b1 d.names.length r1,.slice b2 d.moves.length r2],.int .i64 n]) (by simp [results,Try.results10,go_sem,y0,y1,y2]) rfl ?_
    have hdd:=xU HDD
    subst hdd
    exact xU HF
   subst hn0
   have HWR:=xH (write_any (fun b=>b < w1.heap.size) w3 d a0 p0 T B x2 n2 m2 x4 n4 m4 k x y ((xU HVS2).on hb3) (w1.heap.size+1) (w1.heap.size+1) w2.heap.size ⟨.slice b0 d.files.length r0,.slice b1 d.names.length r1,.slice b2 d.moves.length r2⟩ hm3 hx (Nat.le_refl _) (by omega) (xU HOK) (fun b hb=>by omega) (by omega) ⟨by omega,by omega⟩ (xU HDD))
   obtain ⟨i0,i1,i2,i3,i4⟩:=cs5 hV3 (by omega)
   simp only [fiveV] at i0 i1 i2 i3 i4
   obtain ⟨j0,j1,j2⟩:=cs3 hq1 (by omega)
   simp only [row3] at j0 j1 j2
   have HB23:=xH hb23;have HQ3:=xH hq2
   clear hm3 hq1 hq2 hV3 hb3 hb23 hal
   go_wp2_with fail
   refine (xU HWR).mono ?_
   rintro e w4 ⟨rfl,⟨⟨u0,u1,u2⟩,hm4⟩,hb4,-⟩
   clear i0 i1 i2 i3 i4 j0 j1 j2 HWR
   simp only at hm4
   obtain ⟨c0,s0,e0⟩:=own_slice hm4.o0
   obtain ⟨c1,s1,e1⟩:=own_slice hm4.o1
   obtain ⟨c2,s2,e2⟩:=own_slice hm4.o2
   subst e0 e1 e2
   have hq4:=(xU HQ3).of_block (hb4.block _ (by omega))
   obtain ⟨y0,y1,y2⟩:=cs3 hq4 (by omega)
   have z:=hq4.frozen
   obtain ⟨l0,l1,l2⟩:=cs3 hm4.row (by omega)
   simp only [row3] at y0 y1 y2 l0 l1 l2
   have HF:=xH (xU HFIN w4 _ _ _ hm4 (((xU HB23).mono (by omega)).trans hb4))
   have hs4:=hm4.row.lt
   clear hm4 hb4 hq4
   generalize (doD d k x y).1.files.length=N0 at *
   generalize (doD d k x y).1.names.length=N1 at *
   generalize (doD d k x y).1.moves.length=N2 at *
   go_wp2_with fail
   try simp only [Exit.inBlock,Exit.then]
   refine bodyPost_ret (v:=.tuple #[.agg #[.slice c0 N0 s0,.slice c1 N1 s1,.slice c2 N2 s2],.int .i64 0]) (by simp [results,Try.results10,go_sem,y0,y1,y2]) rfl ?_
   rw [xU HDD]
   exact xU HF
end Go.Proofs.Yteikmbkljkkjiaa

namespace Go.Proofs.Yteikmbkljkkjiaa
open Go Go.RowKit
structure DB (W:World) (B:Nat) (d:Dk) (c:C3):Prop where
 row:W.rowIs B 27 3 (row3 c.c0 c.c1 c.c2)
 dk:DkAt (fun g=>g < W.heap.size) W d c
theorem DB.on {W W':World} {B:Nat} {d:Dk} {c:C3} (h:DB W B d c) (hb:Below W.heap.size W W'):DB W' B d c :=
 ⟨h.row.of_block (hb.block _ h.row.lt),h.dk.carry (fun g hg=>hb.block g hg) (fun _ hg=>Nat.lt_of_lt_of_le hg hb.size)⟩
theorem DB.lay {W:World} {d:Dk} {c:C3} (h:DkAt (fun g=>g < W.heap.size) W d c):DB (W.alloc (.cells #[c.c0,c.c1,c.c2] 27)) W.heap.size d c :=
 ⟨row3_alloc W _ _ _ _,h.carry (fun g hg=>Below.heap_alloc _ _ _ hg) (fun _ hg=>by rw [World.size_alloc];omega)⟩
theorem own_dk8 {w w':World} {d:Dk} {c:C3} {F0 F1 F2:List Nat} (h:DkOwn w' d c F0 F1 F2) (hF:∀ b,b∈F0++F1++F2→w.heap.size≤b∧b < w'.heap.size):DkAt (fun g=>g < w'.heap.size) w' d c:=h.at.carry (fun _ _=>rfl) (fun b hb=>(hF b hb).2)
end Go.Proofs.Yteikmbkljkkjiaa

namespace Go.Proofs.Yteikmbkljkkjiaa
open Go Go.RowKit
theorem bytes_below8 {w w':World} {a:Option Addr} {cap:Nat} {l:List UInt8} (hv:BytesAt w (.slice a l.length cap) l) (hb:Below w.heap.size w w'):BytesAt w' (.slice a l.length cap) l:=by
 obtain ⟨a',cap',e,hlen,hc⟩:=hv
 refine ⟨a',cap',e,hlen,fun i hi=>?_⟩
 obtain ⟨g,o',e2,hlt,hcell⟩:=hc i hi
 exact ⟨g,o',e2,Nat.lt_of_lt_of_le hlt hb.size,by rw [World.cell?_of_block (w:=w) (hb.block g hlt)];exact hcell⟩
theorem lawDiskSure_any (w:World) (a a':Option Addr) (cap cap':Nat) (l l':List UInt8) (hv:BytesAt w (.slice a l.length cap) l) (hcap:l.length≤cap) (hlen:l.length≤9223372036854775807) (hv':BytesAt w (.slice a' l'.length cap') l') (hcap':l'.length≤cap') (hlen':l'.length≤9223372036854775807) :
 Calls Try.prog 5 #[.slice a l.length cap,.slice a' l'.length cap'] w fun e w'=>e=.returned (.bool true)∧Below w.heap.size w w':=by
 have HDR:=xH (drawDiskLook_any w a cap l hv hcap)
 have HV:=xH hv'
 clear hv hcap hv'
 go_enter Try.func5,Try.ntmps5
 by_cases hbig:l.length≤1048576
 case neg =>
  go_wp2_with fail
  go_ret
  exact ⟨rfl,Below.refl _ _⟩
 by_cases hbig':l'.length≤1048576
 case neg =>
  go_wp2_with fail
  go_ret
  exact ⟨rfl,Below.refl _ _⟩
 go_wp2_with fail
 refine HDR.out.mono ?_
 rintro e w1 ⟨d,⟨u0,u1,u2⟩,nm,rfl,hd,hn,hb⟩
 obtain ⟨a0,r0,g0,-,-⟩:=hd.fs.open
 obtain ⟨a1,r1,g1,-,-⟩:=id hd.ns
 obtain ⟨a2,r2,g2,-,-⟩:=hd.ms.open
 simp only at g0 g1 g2
 subst g0 g1 g2
 have hd':=hd.carry (w':=w1) (Q:=fun g=>g < w1.heap.size) (fun _ _=>rfl) (fun _ hg=>hg.2)
 have HB_0:=xH hb
 clear HDR hd hb
 go_upto_region 4 with fail
 have HX_0:=xH (DB.lay (c:=⟨.slice a0 d.files.length r0,.slice a1 d.names.length r1,.slice a2 d.moves.length r2⟩) hd')
 have HB_1:=xH (HB_0.out.trans (((Below.refl w1.heap.size w1).alloc (Nat.le_refl _) (.cells #[.slice a0 d.files.length r0,.slice a1 d.names.length r1,.slice a2 d.moves.length r2] 27)).mono HB_0.out.size))
 clear HB_0
 generalize w1.alloc (.cells #[.slice a0 d.files.length r0,.slice a1 d.names.length r1,.slice a2 d.moves.length r2] 27)=W2 at HB_1 HX_0 ⊢
 generalize w1.heap.size=B at HX_0 ⊢
 clear hd'
 have HK:=xH (specDiskLook_any d nm (fun g=>g < W2.heap.size) ⟨.slice a0 d.files.length r0,.slice a1 d.names.length r1,.slice a2 d.moves.length r2⟩ W2 (fun _ h=>h) HX_0.out.dk)
 obtain ⟨l0,l1,l2⟩:=cs3 HX_0.out.row (by omega)
 simp only [row3] at l0 l1 l2
 go_wp2_with fail
 refine HK.out.mono ?_
 rintro e w3 ⟨rfl,hb⟩
 clear HK l0 l1 l2
 have HB_2:=xH (HB_1.out.trans ((hb).mono HB_1.out.size))
 have HX_3:=xH (HX_0.out.on (hb))
 clear HB_1 HX_0
 clear hb
 obtain ⟨bf,hbf⟩:∃ z,(lookD d nm).1=z:=⟨_,rfl⟩
 obtain ⟨was,hws⟩:∃ z,(lookD d nm).2=z:=⟨_,rfl⟩
 rw [hbf,hws]
 have HK:=xH (implDiskLook_any d nm (fun g=>g < w3.heap.size) ⟨.slice a0 d.files.length r0,.slice a1 d.names.length r1,.slice a2 d.moves.length r2⟩ w3 (fun _ h=>h) HX_3.out.dk)
 obtain ⟨l0,l1,l2⟩:=cs3 HX_3.out.row (by omega)
 simp only [row3] at l0 l1 l2
 go_wp2_with fail
 refine HK.out.mono ?_
 rintro e w4 ⟨rfl,hb⟩
 clear HK l0 l1 l2
 have HB_4:=xH (HB_2.out.trans ((hb).mono HB_2.out.size))
 have HX_5:=xH (HX_3.out.on (hb))
 clear HB_2 HX_3
 clear hb
 rw [hbf,hws]
 have n1:(bf.toList != bf.toList)=false:=by simp
 have n2:(was != was)=false:=by simp
 have HK:=xH (implDiskNames_any d (fun g=>g < w4.heap.size) ⟨.slice a0 d.files.length r0,.slice a1 d.names.length r1,.slice a2 d.moves.length r2⟩ w4 (fun _ h=>h) HX_5.out.dk)
 obtain ⟨l0,l1,l2⟩:=cs3 HX_5.out.row (by omega)
 simp only [row3] at l0 l1 l2
 go_wp2_with fail
 refine HK.out.mono ?_
 rintro e w5 ⟨vn,Fn,rfl,hso,-,-,hb⟩
 clear HK l0 l1 l2
 have HB_6:=xH (HB_4.out.trans ((hb).mono HB_4.out.size))
 have HX_7:=xH (HX_5.out.on (hb))
 clear HB_4 HX_5
 clear hb
 have HK:=xH (loHas_any vn (namesD d) nm (·∈Fn) w5 hso.at)
 clear hso
 go_wp2_with fail
 refine HK.out.mono ?_
 rintro e w6 ⟨⟨rb,rfl,hrb⟩,hb⟩
 clear HK
 have HB_8:=xH (HB_6.out.trans ((hb).mono HB_6.out.size))
 have HX_9:=xH (HX_7.out.on (hb))
 clear HB_6 HX_7
 clear hb
 have hrw:rb=was:=by
  have h1:=look_snd8 (d:=d) (x:=nm)
  rw [hws] at h1
  cases rb <;> cases was <;> simp_all
 subst hrw
 clear hrb
 have HK:=xH (implDiskDo_any d 3 nm ⟨#[]⟩ (fun g=>g < w6.heap.size) ⟨.slice a0 d.files.length r0,.slice a1 d.names.length r1,.slice a2 d.moves.length r2⟩ w6 (fun _ h=>h) HX_9.out.dk (by omega))
 obtain ⟨l0,l1,l2⟩:=cs3 HX_9.out.row (by omega)
 simp only [row3] at l0 l1 l2
 go_wp2_with fail
 refine HK.out.mono ?_
 rintro e w7 ⟨⟨u0,u1,u2⟩,F0,F1,F2,rfl,hown,-,hF,hb⟩
 have hp:=own_dk8 hown hF
 obtain ⟨a0p,r0p,g0,-,-⟩:=hp.fs.open
 obtain ⟨a1p,r1p,g1,-,-⟩:=id hp.ns
 obtain ⟨a2p,r2p,g2,-,-⟩:=hp.ms.open
 simp only at g0 g1 g2
 subst g0 g1 g2
 clear HK l0 l1 l2 hown hF n1 n2
 have HB_10:=xH (HB_8.out.trans ((hb).mono HB_8.out.size))
 have HX_11:=xH (HX_9.out.on (hb))
 clear HB_8 HX_9
 clear hb
 obtain ⟨D2,hD2⟩:∃ z,(doD d 3 nm ⟨#[]⟩).1=z:=⟨_,rfl⟩
 obtain ⟨na,hna⟩:∃ z,(doD d 3 nm ⟨#[]⟩).2=z:=⟨_,rfl⟩
 rw [hD2] at hp ⊢
 rw [hna]
 go_upto_region 9 with fail
 have HP_0:=xH (DB.lay (c:=⟨.slice a0p D2.files.length r0p,.slice a1p D2.names.length r1p,.slice a2p D2.moves.length r2p⟩) hp)
 have HB_12:=xH (HB_10.out.trans (((Below.refl w7.heap.size w7).alloc (Nat.le_refl _) (.cells #[.slice a0p D2.files.length r0p,.slice a1p D2.names.length r1p,.slice a2p D2.moves.length r2p] 27)).mono HB_10.out.size))
 have HX_13:=xH (HX_11.out.on ((Below.refl w7.heap.size w7).alloc (Nat.le_refl _) (.cells #[.slice a0p D2.files.length r0p,.slice a1p D2.names.length r1p,.slice a2p D2.moves.length r2p] 27)))
 clear HB_10 HX_11
 generalize w7.alloc (.cells #[.slice a0p D2.files.length r0p,.slice a1p D2.names.length r1p,.slice a2p D2.moves.length r2p] 27)=W8 at HB_12 HX_13 HP_0 ⊢
 generalize w7.heap.size=BP at HP_0 ⊢
 clear hp
 have HK:=xH (implDiskDo_any D2 5 ⟨#[]⟩ ⟨#[]⟩ (fun g=>g < W8.heap.size) ⟨.slice a0p D2.files.length r0p,.slice a1p D2.names.length r1p,.slice a2p D2.moves.length r2p⟩ W8 (fun _ h=>h) HP_0.out.dk (by decide))
 obtain ⟨l0,l1,l2⟩:=cs3 HP_0.out.row (by omega)
 simp only [row3] at l0 l1 l2
 go_wp2_with fail
 refine HK.out.mono ?_
 rintro e w9 ⟨⟨u0,u1,u2⟩,F0,F1,F2,rfl,hown,-,hF,hb⟩
 have hp:=own_dk8 hown hF
 obtain ⟨a0y,r0y,g0,-,-⟩:=hp.fs.open
 obtain ⟨a1y,r1y,g1,-,-⟩:=id hp.ns
 obtain ⟨a2y,r2y,g2,-,-⟩:=hp.ms.open
 simp only at g0 g1 g2
 subst g0 g1 g2
 clear HK l0 l1 l2 hown hF
 have HB_14:=xH (HB_12.out.trans ((hb).mono HB_12.out.size))
 have HX_15:=xH (HX_13.out.on (hb))
 have HP_16:=xH (HP_0.out.on (hb))
 clear HB_12 HX_13 HP_0
 clear hb
 obtain ⟨D3,hD3⟩:∃ z,(doD D2 5 ⟨#[]⟩ ⟨#[]⟩).1=z:=⟨_,rfl⟩
 obtain ⟨nb,hnb⟩:∃ z,(doD D2 5 ⟨#[]⟩ ⟨#[]⟩).2=z:=⟨_,rfl⟩
 rw [hD3] at hp ⊢
 rw [hnb]
 go_upto_region 10 with fail
 have HY_0:=xH (DB.lay (c:=⟨.slice a0y D3.files.length r0y,.slice a1y D3.names.length r1y,.slice a2y D3.moves.length r2y⟩) hp)
 have HB_17:=xH (HB_14.out.trans (((Below.refl w9.heap.size w9).alloc (Nat.le_refl _) (.cells #[.slice a0y D3.files.length r0y,.slice a1y D3.names.length r1y,.slice a2y D3.moves.length r2y] 27)).mono HB_14.out.size))
 have HX_18:=xH (HX_15.out.on ((Below.refl w9.heap.size w9).alloc (Nat.le_refl _) (.cells #[.slice a0y D3.files.length r0y,.slice a1y D3.names.length r1y,.slice a2y D3.moves.length r2y] 27)))
 have HP_19:=xH (HP_16.out.on ((Below.refl w9.heap.size w9).alloc (Nat.le_refl _) (.cells #[.slice a0y D3.files.length r0y,.slice a1y D3.names.length r1y,.slice a2y D3.moves.length r2y] 27)))
 clear HB_14 HX_15 HP_16
 generalize w9.alloc (.cells #[.slice a0y D3.files.length r0y,.slice a1y D3.names.length r1y,.slice a2y D3.moves.length r2y] 27)=W10 at HB_17 HX_18 HP_19 HY_0 ⊢
 generalize w9.heap.size=BY at HY_0 ⊢
 clear hp
 have HK:=xH (drawDiskCut_any W10 a' cap' l' (bytes_below8 HV.out HB_17.out) hcap')
 go_wp2_with fail
 refine HK.out.mono ?_
 rintro e w11 ⟨d4,⟨u0,u1,u2⟩,m,zs,zv,rfl,hd,hz,hb⟩
 obtain ⟨a0c,r0c,g0,-,-⟩:=hd.fs.open
 obtain ⟨a1c,r1c,g1,-,-⟩:=id hd.ns
 obtain ⟨a2c,r2c,g2,-,-⟩:=hd.ms.open
 simp only at g0 g1 g2
 subst g0 g1 g2
 have hd':=hd.carry (w':=w11) (Q:=fun g=>g < w11.heap.size) (fun _ _=>rfl) (fun _ hg=>hg.2)
 have HZ_0:=xH (hz.carry (w':=w11) (Q:=fun g=>g < w11.heap.size) (fun _ _=>rfl) (fun _ hg=>hg.2))
 clear HK hd hz
 have HB_20:=xH (HB_17.out.trans ((hb).mono HB_17.out.size))
 have HX_21:=xH (HX_18.out.on (hb))
 have HP_22:=xH (HP_19.out.on (hb))
 have HY_23:=xH (HY_0.out.on (hb))
 clear HB_17 HX_18 HP_19 HY_0
 clear hb
 go_upto_region 11 with fail
 have HZ:=xH (HZ_0.out.carry (w':=w11.alloc (.cells #[.slice a0c d4.files.length r0c,.slice a1c d4.names.length r1c,.slice a2c d4.moves.length r2c] 27)) (Q:=fun g=>g < (w11.alloc (.cells #[.slice a0c d4.files.length r0c,.slice a1c d4.names.length r1c,.slice a2c d4.moves.length r2c] 27)).heap.size) (fun g hg=>Below.heap_alloc _ _ _ hg) (fun _ hg=>by rw [World.size_alloc];omega))
 clear HZ_0
 have HB_24:=xH (HB_20.out.trans (((Below.refl w11.heap.size w11).alloc (Nat.le_refl _) (.cells #[.slice a0c d4.files.length r0c,.slice a1c d4.names.length r1c,.slice a2c d4.moves.length r2c] 27)).mono HB_20.out.size))
 have HX_25:=xH (HX_21.out.on ((Below.refl w11.heap.size w11).alloc (Nat.le_refl _) (.cells #[.slice a0c d4.files.length r0c,.slice a1c d4.names.length r1c,.slice a2c d4.moves.length r2c] 27)))
 have HP_26:=xH (HP_22.out.on ((Below.refl w11.heap.size w11).alloc (Nat.le_refl _) (.cells #[.slice a0c d4.files.length r0c,.slice a1c d4.names.length r1c,.slice a2c d4.moves.length r2c] 27)))
 have HY_27:=xH (HY_23.out.on ((Below.refl w11.heap.size w11).alloc (Nat.le_refl _) (.cells #[.slice a0c d4.files.length r0c,.slice a1c d4.names.length r1c,.slice a2c d4.moves.length r2c] 27)))
 clear HB_20 HX_21 HP_22 HY_23
 generalize w11.alloc (.cells #[.slice a0c d4.files.length r0c,.slice a1c d4.names.length r1c,.slice a2c d4.moves.length r2c] 27)=W12 at HZ HB_24 HX_25 HP_26 HY_27 ⊢
 clear hd'
 have HK:=xH (implDiskCut_any D3 m zs (fun g=>g < W12.heap.size) ⟨.slice a0y D3.files.length r0y,.slice a1y D3.names.length r1y,.slice a2y D3.moves.length r2y⟩ zv W12 (fun _ h=>h) HY_27.out.dk HZ.out)
 obtain ⟨l0,l1,l2⟩:=cs3 HY_27.out.row (by omega)
 simp only [row3] at l0 l1 l2
 go_wp2_with fail
 refine HK.out.mono ?_
 rintro e w13 ⟨⟨u0,u1,u2⟩,F0,F1,F2,rfl,hown,-,hF,hb⟩
 have hp:=own_dk8 hown hF
 obtain ⟨a0z,r0z,g0,-,-⟩:=hp.fs.open
 obtain ⟨a1z,r1z,g1,-,-⟩:=id hp.ns
 obtain ⟨a2z,r2z,g2,-,-⟩:=hp.ms.open
 simp only at g0 g1 g2
 subst g0 g1 g2
 clear HK l0 l1 l2 hown hF HZ
 have HB_28:=xH (HB_24.out.trans ((hb).mono HB_24.out.size))
 have HX_29:=xH (HX_25.out.on (hb))
 have HP_30:=xH (HP_26.out.on (hb))
 have HY_31:=xH (HY_27.out.on (hb))
 clear HB_24 HX_25 HP_26 HY_27
 clear hb
 obtain ⟨D5,hD5⟩:∃ z,cutD D3 m zs=z:=⟨_,rfl⟩
 rw [hD5] at hp ⊢
 have HK:=xH (implDiskLook_any D5 nm (fun g=>g < w13.heap.size) ⟨.slice a0z D5.files.length r0z,.slice a1z D5.names.length r1z,.slice a2z D5.moves.length r2z⟩ w13 (fun _ h=>h) hp)
 clear hp
 go_wp2_with fail
 refine HK.out.mono ?_
 rintro e w14 ⟨rfl,hb⟩
 clear HK
 have HB_32:=xH (HB_28.out.trans ((hb).mono HB_28.out.size))
 have HX_33:=xH (HX_29.out.on (hb))
 have HP_34:=xH (HP_30.out.on (hb))
 have HY_35:=xH (HY_31.out.on (hb))
 clear HB_28 HX_29 HP_30 HY_31
 clear hb
 by_cases hin:nm∈namesD d
 rotate_left
 · have hm:=sure_no8 (e:=⟨#[]⟩) ⟨#[]⟩ ⟨#[]⟩ m zs hin
   rw [hna,hD2,hD3,hD5] at hm
   have hw0:rb=false:=by
    cases h:rb with
    | false=>rfl
    | true=>exact absurd (look_snd8.1 (hws.trans h)) hin
   subst hw0
   rw [hm.2]
   have hne:(na != 0)=true:=by simpa using hm.1
   clear hm
   go_wp2_with fail
   go_ret
   exact ⟨rfl,HB_32.out⟩
 have hm:=sure_yes8 (e:=⟨#[]⟩) ⟨#[]⟩ ⟨#[]⟩ m zs hin
 rw [hna,hD2,hnb,hD3,hD5,hbf] at hm
 have hw0:rb=true:=by rw [← hws];exact look_snd8.2 hin
 obtain ⟨rfl,rfl,hm3⟩:=hm
 subst hw0
 rw [hm3]
 go_wp2_with fail
 go_ret
 exact ⟨rfl,HB_32.out⟩
end Go.Proofs.Yteikmbkljkkjiaa

namespace Go.Proofs.Yteikmbkljkkjiaa
open Go Go.RowKit Go.ChangeShapes Go.WideShapes Go.ChangeAt
theorem cellsU8:Try.prog.cellsOf 5=1:=by kernel_rfl
section
variable {H:Type} {enc:TypeId × Value→H} {W:World} {spare:Nat→Bool} {held:Bool}
theorem bytes_cap {fuel:Nat} {a:Option Addr} {len cap:Nat} {x:DataW H × List MemPlace} (h:DataW.trod enc Try.prog W 0 spare held fuel 22 [.slice a len cap]=some x):len≤cap:=by
 rcases open_ints Try.underlying22 Try.underlying5 cellsU8 h with ⟨hcs,-⟩ | ⟨a',len',cap',zs,hcs,-,hl,-⟩
 · simp only [List.cons.injEq,Value.slice.injEq,and_true] at hcs
   omega
 · simp only [List.cons.injEq,Value.slice.injEq,and_true] at hcs
   omega
theorem bytes_of_trod {fuel:Nat} {v:Value} {x:DataW H × List MemPlace} (h:DataW.trod enc Try.prog W 0 spare held fuel 22 [v]=some x) :
 ∃ l,BytesAt W v l:=by
 rcases open_ints Try.underlying22 Try.underlying5 cellsU8 h with ⟨hcs,-⟩ | ⟨a,len,cap,zs,hcs,-,hl,hm,hz,-,hcell,hws⟩
 · simp only [List.cons.injEq,and_true] at hcs
   exact ⟨[],none,0,hcs,by simp,fun i hi=>by simp at hi⟩
 · simp only [List.cons.injEq,and_true] at hcs
   have hle:len≤zs.length:=by rw [hz];split <;> omega
   unfold maxLen at hm
   have hlen:((zs.take len).map (fun z=>UInt8.ofNat z.toNat)).length=len:=by simp;omega
   refine ⟨(zs.take len).map (fun z=>UInt8.ofNat z.toNat),some a,cap,by rw [hcs,hlen],by rw [hlen];omega,fun i hi=>?_⟩
   have hi':i < len:=by rw [hlen] at hi;exact hi
   obtain ⟨b,off,spot⟩:=a
   have hspot:spot=none:=by simpa [Addr.add] using World.cell?_spot (hcell 0 (by omega))
   subst hspot
   have hc:=hcell i (by omega)
   rw [Addr.add_lit] at hc
   refine ⟨b,off,rfl,World.block_lt_of_cell? W _ hc,?_⟩
   have hb:=bounds_u8 (hws (zs[i]'(by omega)) (List.getElem_mem (by omega)))
   rw [hc]
   have e1:zs.getD i 0=zs[i]'(by omega):=by simp [show i < zs.length by omega]
   have e2:(((zs.take len).map (fun z=>UInt8.ofNat z.toNat))[i]'hi)=UInt8.ofNat (zs[i]'(by omega)).toNat:=by simp
   rw [e1,e2,show (UInt8.ofNat (zs[i]'(by omega)).toNat).toNat=(zs[i]'(by omega)).toNat from by simp;omega,show (((zs[i]'(by omega)).toNat:Nat):Int)=zs[i]'(by omega) from by omega]
end
end Go.Proofs.Yteikmbkljkkjiaa
