/- A part. -/
import Derived.Test.YteikmbkljkkjiaaSart07
namespace Go.Proofs.Yteikmbkljkkjiaa
open Go Go.RowKit
set_option maxRecDepth 100000
set_option maxHeartbeats 6400000
theorem wp_copyD {P:Program} (w:World) {o:Oper} {a:Act} {K:Act→World→Prop} {Q:Exit→Act→World→Prop} (s x:Operand) (t:TypeId)
 (ho:o.op=.call { callee:=.builtin .append,args:=#[s,x],argTypes:=#[t,t] }) (base:Nat) (e:TypeId) (i:TypeInfo) (z:Value) (size bytes:Nat) (h1:P.underlying t=some (.slice e)) (h2:P.info? e=some i) (h3:i.zero=some z) (h4:i.size=size) (h5:i.bytes=bytes) (h6:z.cells.size=size) (h7:0 < size)
 (g0:Nat) (hs:a.eval s=.slice (some ⟨g0,0,none⟩) 0 0) (hown:w.ownsRow base e size (.slice (some ⟨g0,0,none⟩) 0 0) 0 [])
 (ax:Option Addr) (m c:Nat) (xs:List Value) (hx:a.eval x=.slice ax m c) (hn:xs.length=m * size) (hc:0 < m→∃ ad,ax=some ad∧∀ j u,xs[j]? = some u→w.cell? (ad.add j)=some u) (h1c:∀ u∈xs,u.oneCell'=true)
 (b1:m≤maxLen) (b2:m * bytes≤140737488355328) (hbase:base≤w.heap.size)
 (h:∀ g cap w',w'.ownsRow base e size (.slice (some ⟨g,0,none⟩) m cap) m xs→w.grownBy w' (some g0)→K (a.put o.dst (.slice (some ⟨g,0,none⟩) m cap)) w'):o.wp P a w K Q:=by
 obtain ⟨g,cap,w',hr,r1,r2⟩:=run_copyD (P:=P) w t o.type base e i z size bytes h1 h2 h3 h4 h5 h6 h7 g0 hown ax m c xs hn hc h1c b1 b2 hbase
 unfold Oper.wp execOp
 simp only [ho,resolve,invoke,builtin,Sem.run_bind,Sem.run_pure,Result.andThen_ok,List.map_toArray,List.map_cons,List.map_nil,hs,hx,hr]
 exact h g cap w' r1 r2
structure ChSt (base:Nat) (e:TypeId) (size n:Nat) (cells:List Value) (W:World) (b0 b3:Bool) (s0 s3:Value):Prop where
 f0:b0=true→b3=false→∃ g,s0=.slice (some ⟨g,0,none⟩) 0 0∧W.ownsRow base e size s0 0 []
 f3:b3=true→∃ g cap,s3=.slice (some ⟨g,0,none⟩) n cap∧W.ownsRow base e size s3 n cells
theorem ChSt.keep {base:Nat} {e:TypeId} {size n:Nat} {cells:List Value} {W W':World} {b0 b3:Bool} {s0 s3:Value} (h:ChSt base e size n cells W b0 b3 s0 s3) (hk:∀ g cur,base≤g→W.heap[g]? = some (.cells cur e (0,0))→W'.heap[g]? = W.heap[g]?):ChSt base e size n cells W' b0 b3 s0 s3:=by
 have key:∀ {v m xs},W.ownsRow base e size v m xs→W'.ownsRow base e size v m xs:=fun {v m xs} ho=>by
  refine ⟨ho.1,?_⟩
  rcases ho.2 with h0 | ⟨g,cap,cur,hv,hb,hh,hr⟩
  · exact Or.inl h0
  · exact Or.inr ⟨g,cap,cur,hv,hb,by rw [hk g cur hb hh];exact hh,hr⟩
 exact ⟨fun x y=>by obtain ⟨g,h1,h2⟩:=h.f0 x y;exact ⟨g,h1,key h2⟩,fun x=>by obtain ⟨g,cap,h1,h2⟩:=h.f3 x;exact ⟨g,cap,h1,key h2⟩⟩
theorem ChSt.alloc {base:Nat} {e:TypeId} {size n:Nat} {cells:List Value} {W:World} {b0 b3:Bool} {s0 s3:Value} (h:ChSt base e size n cells W b0 b3 s0 s3) (o:Obj):ChSt base e size n cells (W.alloc o) b0 b3 s0 s3 :=
 h.keep (fun _ _ _ hh=>Below.heap_alloc _ _ _ (Array.getElem?_eq_some_iff.1 hh).1)
theorem ChSt.other {base:Nat} {e e':TypeId} {size n:Nat} {cells:List Value} {W W':World} {b0 b3:Bool} {s0 s3:Value} (h:ChSt base e size n cells W b0 b3 s0 s3) {g0:Nat} {size':Nat} (hne:e≠e') (ho:W.ownsRow base e' size' (.slice (some ⟨g0,0,none⟩) 0 0) 0 []) (hg:W.grownBy W' (some g0)):ChSt base e size n cells W' b0 b3 s0 s3 :=
 h.keep (fun g cur _ hh=>hg.block g (Array.getElem?_eq_some_iff.1 hh).1 (fun e2=>by
  simp only [Option.some.injEq] at e2
  subst e2
  rcases ho.2 with ⟨hv,_⟩ | ⟨g',cap,cur',hv,_,hh',_⟩
  · cases hv
  · simp only [Value.slice.injEq,Option.some.injEq,Addr.mk.injEq,and_true,true_and] at hv
    obtain ⟨rfl,-⟩:=hv
    rw [hh] at hh'
    simp only [Option.some.injEq,Obj.cells.injEq] at hh'
    exact hne hh'.2.1))
theorem names_srcW {P:Nat→Prop} {W:World} {aN:Option Addr} {nN capN:Nat} {ns:List ByteArray} (h:StrsAt P W (.slice aN nN capN) ns):0 < nN→∃ ad,aN=some ad∧∀ j u,(ns.map Value.string)[j]? = some u→W.cell? (ad.add j)=some u:=by
 obtain ⟨a,cap,e,-,h3⟩:=h
 simp only [Value.slice.injEq] at e
 obtain ⟨rfl,e2,-⟩:=e
 intro h0
 obtain ⟨b,o',rfl,-,-,-⟩:=h3 0 (by omega)
 refine ⟨_,rfl,fun j u hj=>?_⟩
 rw [List.getElem?_map] at hj
 obtain ⟨x,hx,rfl⟩:=Option.map_eq_some_iff.1 hj
 obtain ⟨hlt,rfl⟩:=List.getElem?_eq_some_iff.1 hx
 obtain ⟨b',o'',e3,-,hcell,-⟩:=h3 j hlt
 simp only [Option.some.injEq,Addr.mk.injEq,and_true] at e3
 obtain ⟨rfl,rfl⟩:=e3
 rw [Addr.add_lit]
 exact hcell
theorem but_grownC {L:Nat} {w W W':World} {row:Option Nat} (h:But L w W) (hg:W.grownBy W' row) (hr:∀ g,row=some g→w.heap.size≤g):But L w W' :=
 ⟨hg.os.trans h.os,hg.tape.trans h.tape,hg.output.trans h.output,Nat.le_trans h.size hg.size,fun i hi hne=>(hg.block i (Nat.lt_of_lt_of_le hi h.size) (fun e=>by have:=hr i e.symm;omega)).trans (h.block i hi hne)⟩
theorem crow_set2 {W:World} {g t:Nat} {x0 x1 x2:Value} (h:W.rowIs g t 3 (row3 x0 x1 x2)) (u:Value):(W.setCell ⟨g,2,none⟩ u).rowIs g t 3 (row3 x0 x1 u) :=
 (World.rowIs.set h 2 u).congr fun i hi=>by
   match i,hi with
   | 0,_=>rfl
   | 1,_=>rfl
   | 2,_=>rfl
structure CpCore (w W0:World) (d:Dk) (v0 v1 v2:Value) (b0 b1 b2 b3 b4 b5 b6 b7 b8 b9 b10 b11 b12 b13:Bool) (s3 s4 s5 s6 s7 s8 s9 s10 s11 s12 s13 s14 s15:Value) (W:World):Prop where
 but:But (w.heap.size+1) W0 W
 k0:ChSt W0.heap.size 44 3 d.files.length (d.files.map Df.cs).flatten W b0 b3 s3 s6
 k1:ChSt W0.heap.size 9 1 d.names.length (d.names.map Value.string) W b4 b7 s7 s10
 k2:ChSt W0.heap.size 60 2 d.moves.length (d.moves.map Dm.cs).flatten W b8 b11 s11 s14
 e1:b1=true→s4=.pointer (some ⟨w.heap.size,0,none⟩)
 e2:b2=true→s5=v0
 e5:b5=true→s8=.pointer (some ⟨w.heap.size,1,none⟩)
 e6:b6=true→s9=v1
 e9:b9=true→s12=.pointer (some ⟨w.heap.size,2,none⟩)
 e10:b10=true→s13=v2
 e12:b12=true→s15=.agg #[s6,s10,s14]∧b3=true∧b7=true∧b11=true
 e13:(b13=false→W.heap[w.heap.size+1]? = W0.heap[w.heap.size+1]?)∧(b13=true→b12=true∧W.rowIs (w.heap.size+1) 27 3 (row3 s6 s10 s14))
def CpInv (w W0:World) (d:Dk) (v0 v1 v2:Value) (l:Array Bool) (a:Act) (W:World):Prop :=
 ∃ (b0 b1 b2 b3 b4 b5 b6 b7 b8 b9 b10 b11 b12 b13:Bool) (s3 s4 s5 s6 s7 s8 s9 s10 s11 s12 s13 s14 s15:Value),l=#[b0,b1,b2,b3,b4,b5,b6,b7,b8,b9,b10,b11,b12,b13]∧a={ tmps:=#[.agg #[v0,v1,v2],.pointer (some ⟨w.heap.size,0,none⟩),.pointer (some ⟨w.heap.size+1,0,none⟩),s3,s4,s5,s6,s7,s8,s9,s10,s11,s12,s13,s14,s15],defers:=[] }∧CpCore w W0 d v0 v1 v2 b0 b1 b2 b3 b4 b5 b6 b7 b8 b9 b10 b11 b12 b13 s3 s4 s5 s6 s7 s8 s9 s10 s11 s12 s13 s14 s15 W
theorem l41Copy_any (d:Dk) (P:Nat→Prop) (c:C3) (w:World) (hP:∀ b,P b→b < w.heap.size) (hd:DkAt P w d c) (hl0:d.files.length≤1000) (hl1:d.names.length≤1000) (hl2:d.moves.length≤1000) :
 Calls Try.prog 25 #[.agg #[c.c0,c.c1,c.c2]] w fun e w'=>∃ c':C3,e=.returned (.agg #[c'.c0,c'.c1,c'.c2])∧w'.ownsRow w.heap.size 44 3 c'.c0 d.files.length (d.files.map Df.cs).flatten∧w'.ownsRow w.heap.size 9 1 c'.c1 d.names.length (d.names.map Value.string)∧w'.ownsRow w.heap.size 60 2 c'.c2 d.moves.length (d.moves.map Dm.cs).flatten∧Below w.heap.size w w':=by
 obtain ⟨c0,c1,c2⟩:=c
 have HD:=xH hd
 obtain ⟨a0,p0,g0,-,-⟩:=hd.fs.open
 obtain ⟨a1,p1,g1,-,-⟩:=hd.ns
 obtain ⟨a2,p2,g2,-,-⟩:=hd.ms.open
 simp only at g0 g1 g2
 subst g0 g1 g2
 have HP:=xH hP
 obtain ⟨W0,hW0⟩:∃ W0,W0=(w.alloc (.cells #[.slice a0 d.files.length p0,.slice a1 d.names.length p1,.slice a2 d.moves.length p2] 27)).alloc (.cells #[.slice none 0 0,.slice none 0 0,.slice none 0 0] 27):=⟨_,rfl⟩
 have hs0:W0.heap.size=w.heap.size+2:=by rw [hW0];simp
 have hb0:Below w.heap.size w W0:=by rw [hW0];exact ((Below.refl _ _).alloc (Nat.le_refl _) _).alloc (by simp) _
 have hrA:W0.rowIs w.heap.size 27 3 (row3 (.slice a0 d.files.length p0) (.slice a1 d.names.length p1) (.slice a2 d.moves.length p2)):=by rw [hW0];exact (row3_alloc w _ _ _ _).alloc _
 have hrR:W0.rowIs (w.heap.size+1) 27 3 (row3 (.slice none 0 0) (.slice none 0 0) (.slice none 0 0)):=by
  rw [hW0]
  have:=row3_alloc (w.alloc (.cells #[.slice a0 d.files.length p0,.slice a1 d.names.length p1,.slice a2 d.moves.length p2] 27)) (.slice none 0 0) (.slice none 0 0) (.slice none 0 0) 27
  rw [World.size_alloc] at this
  exact this
 have hcar:∀ W,But (w.heap.size+1) W0 W→DkAt P W d ⟨.slice a0 d.files.length p0,.slice a1 d.names.length p1,.slice a2 d.moves.length p2⟩:=fun W hW=>(xU HD).carry (fun b hb=>(hW.at (by have:=hP b hb;omega) (by have:=hP b hb;omega)).trans (hb0.block b (hP b hb))) (fun _ h=>h)
 have HBOX:=xH (fun W (hW:But (w.heap.size+1) W0 W)=>by
  have q:=hrA.of_block (hW.at (by omega) (by omega))
  obtain ⟨q0,q1,q2⟩:=cs3 q (by omega)
  simp only [row3] at q0 q1 q2
  exact (⟨q0,q1,q2⟩:W.cell? ⟨w.heap.size,0,none⟩=some (.slice a0 d.files.length p0)∧W.cell? ⟨w.heap.size,1,none⟩=some (.slice a1 d.names.length p1)∧W.cell? ⟨w.heap.size,2,none⟩=some (.slice a2 d.moves.length p2)))
 have hcsF:∀ r,r∈d.files.map Df.cs→r.length=3:=fun r hr=>by obtain ⟨f,-,rfl⟩:=List.mem_map.1 hr;rfl
 have hcsM:∀ r,r∈d.moves.map Dm.cs→r.length=2:=fun r hr=>by obtain ⟨f,-,rfl⟩:=List.mem_map.1 hr;rfl
 have HSRC0:=xH (fun W (hW:But (w.heap.size+1) W0 W)=>flat_src (hcar W hW).fs.1 hcsF)
 have HSRC1:=xH (fun W (hW:But (w.heap.size+1) W0 W)=>names_srcW (hcar W hW).ns)
 have HSRC2:=xH (fun W (hW:But (w.heap.size+1) W0 W)=>flat_src (hcar W hW).ms.1 hcsM)
 have HL0:=xH (show (d.files.map Df.cs).flatten.length=d.files.length * 3 by rw [flat_len _ hcsF,List.length_map])
 have HL1:=xH (show (d.names.map Value.string).length=d.names.length * 1 by simp)
 have HL2:=xH (show (d.moves.map Dm.cs).flatten.length=d.moves.length * 2 by rw [flat_len _ hcsM,List.length_map])
 have HONE0:=xH (show ∀ u∈(d.files.map Df.cs).flatten,u.oneCell'=true from fun u hu=>by
  obtain ⟨r,hr,hu⟩:=List.mem_flatten.1 hu
  obtain ⟨f,-,rfl⟩:=List.mem_map.1 hr
  simp [Df.cs] at hu
  rcases hu with rfl | rfl | rfl <;> rfl)
 have HONE1:=xH (show ∀ u∈d.names.map Value.string,u.oneCell'=true from fun u hu=>by obtain ⟨y,-,rfl⟩:=List.mem_map.1 hu;rfl)
 have HONE2:=xH (show ∀ u∈(d.moves.map Dm.cs).flatten,u.oneCell'=true from fun u hu=>by
  obtain ⟨r,hr,hu⟩:=List.mem_flatten.1 hu
  obtain ⟨f,-,rfl⟩:=List.mem_map.1 hr
  simp [Dm.cs] at hu
  rcases hu with rfl | rfl <;> rfl)
 obtain ⟨j0,hj,hy0,hy1,hy2⟩:=infoStrD
 obtain ⟨j3,hj3,hw0,hw1,hw2⟩:=infoFileD
 obtain ⟨jm,hjm,hm0,hm1,hm2⟩:=infoMoveD
 have HJJ:=xH hj;have HY0:=xH hy0;have HY1:=xH hy1;have HY2:=xH hy2;have HJ3:=xH hj3;have HW0:=xH hw0;have HW1:=xH hw1;have HW2:=xH hw2;have HJM:=xH hjm;have HM0:=xH hm0;have HM1:=xH hm1;have HM2:=xH hm2
 have HRES:=xH hrR;have HS0:=xH hs0;have HB0:=xH hb0;have HWW:=xH hW0
 clear hd hP hj hy0 hy1 hy2 hj3 hw0 hw1 hw2 hjm hm0 hm1 hm2 hcar hcsF hcsM hrA hrR hb0 hW0
 go_enter Try.func25,Try.ntmps25
 go_wp2_with fail
 rw [← xU HWW]
 refine wp_region_inv (by kernel_rfl) (CpInv w W0 d (.slice a0 d.files.length p0) (.slice a1 d.names.length p1) (.slice a2 d.moves.length p2)) ?_ ?_ ?_
 · refine ⟨false,false,false,false,false,false,false,false,false,false,false,false,false,false,_,_,_,_,_,_,_,_,_,_,_,_,_,rfl,rfl,?_⟩
   exact ⟨But.of_below (Below.refl _ W0).drew,⟨(fun h=>nomatch h),(fun h=>nomatch h)⟩,⟨(fun h=>nomatch h),(fun h=>nomatch h)⟩,⟨(fun h=>nomatch h),(fun h=>nomatch h)⟩,(fun h=>nomatch h),(fun h=>nomatch h),(fun h=>nomatch h),(fun h=>nomatch h),(fun h=>nomatch h),(fun h=>nomatch h),(fun h=>nomatch h),⟨fun _=>rfl,(fun h=>nomatch h)⟩⟩
 · rintro l a W ⟨b0,b1,b2,b3,b4,b5,b6,b7,b8,b9,b10,b11,b12,b13,s3,s4,s5,s6,s7,s8,s9,s10,s11,s12,s13,s14,s15,rfl,rfl,hcore⟩ hr
   have n0:0∉([]:List Nat):=List.not_mem_nil
   rw [← hr] at n0
   unfold Region.ready at n0
   rw [List.mem_filter] at n0
   simp [Region.binds] at n0
   have n1:1∉([]:List Nat):=List.not_mem_nil
   rw [← hr] at n1
   unfold Region.ready at n1
   rw [List.mem_filter] at n1
   simp [Region.binds] at n1
   have n2:2∉([]:List Nat):=List.not_mem_nil
   rw [← hr] at n2
   unfold Region.ready at n2
   rw [List.mem_filter] at n2
   simp [Region.binds] at n2
   have n3:3∉([]:List Nat):=List.not_mem_nil
   rw [← hr] at n3
   unfold Region.ready at n3
   rw [List.mem_filter] at n3
   simp [Region.binds] at n3
   have n4:4∉([]:List Nat):=List.not_mem_nil
   rw [← hr] at n4
   unfold Region.ready at n4
   rw [List.mem_filter] at n4
   simp [Region.binds] at n4
   have n5:5∉([]:List Nat):=List.not_mem_nil
   rw [← hr] at n5
   unfold Region.ready at n5
   rw [List.mem_filter] at n5
   simp [Region.binds] at n5
   have n6:6∉([]:List Nat):=List.not_mem_nil
   rw [← hr] at n6
   unfold Region.ready at n6
   rw [List.mem_filter] at n6
   simp [Region.binds] at n6
   have n7:7∉([]:List Nat):=List.not_mem_nil
   rw [← hr] at n7
   unfold Region.ready at n7
   rw [List.mem_filter] at n7
   simp [Region.binds] at n7
   have n8:8∉([]:List Nat):=List.not_mem_nil
   rw [← hr] at n8
   unfold Region.ready at n8
   rw [List.mem_filter] at n8
   simp [Region.binds] at n8
   have n9:9∉([]:List Nat):=List.not_mem_nil
   rw [← hr] at n9
   unfold Region.ready at n9
   rw [List.mem_filter] at n9
   simp [Region.binds] at n9
   have n10:10∉([]:List Nat):=List.not_mem_nil
   rw [← hr] at n10
   unfold Region.ready at n10
   rw [List.mem_filter] at n10
   simp [Region.binds] at n10
   have n11:11∉([]:List Nat):=List.not_mem_nil
   rw [← hr] at n11
   unfold Region.ready at n11
   rw [List.mem_filter] at n11
   simp [Region.binds] at n11
   have n12:12∉([]:List Nat):=List.not_mem_nil
   rw [← hr] at n12
   unfold Region.ready at n12
   rw [List.mem_filter] at n12
   simp [Region.binds] at n12
   have n13:13∉([]:List Nat):=List.not_mem_nil
   rw [← hr] at n13
   unfold Region.ready at n13
   rw [List.mem_filter] at n13
   simp [Region.binds] at n13
   have m3:=n3;have m13:b13=true:=by simp_all
   obtain ⟨r12,hrow⟩:=hcore.e13.2 m13
   obtain ⟨-,r3,r7,r11⟩:=hcore.e12 r12
   obtain ⟨g3,cp3,t3,o3⟩:=hcore.k0.f3 r3
   obtain ⟨g7,cp7,t7,o7⟩:=hcore.k1.f3 r7
   obtain ⟨g11,cp11,t11,o11⟩:=hcore.k2.f3 r11
   subst t3 t7 t11
   obtain ⟨y0,y1,y2⟩:=cs3 hrow (by omega)
   simp only [row3] at y0 y1 y2
   clear n0 n1 n2 n3 n4 n5 n6 n7 n8 n9 n10 n11 n12 n13 m3 m13 r12 r3 r7 r11 hr
   have hbx:Below w.heap.size w W:=⟨hcore.but.os.trans (xU HB0).os,hcore.but.tape.trans (xU HB0).tape,hcore.but.output.trans (xU HB0).output,by have:=hcore.but.size;omega,fun b hb=>(hcore.but.at (by omega) (by omega)).trans ((xU HB0).block b hb)⟩
   have HBB:=xH hbx
   clear hbx hcore
   go_wp2_with fail
   try simp only [Exit.inBlock,Exit.then]
   refine bodyPost_ret (v:=.agg #[.slice (some ⟨g3,0,none⟩) d.files.length cp3,.slice (some ⟨g7,0,none⟩) d.names.length cp7,.slice (some ⟨g11,0,none⟩) d.moves.length cp11]) (by simp [results,Try.results25,go_sem,y0,y1,y2]) rfl ?_
   exact ⟨⟨_,_,_⟩,rfl,ownsRow_base o3 (by omega),ownsRow_base o7 (by omega),ownsRow_base o11 (by omega),xU HBB⟩
 · rintro l a W i ⟨b0,b1,b2,b3,b4,b5,b6,b7,b8,b9,b10,b11,b12,b13,s3,s4,s5,s6,s7,s8,s9,s10,s11,s12,s13,s14,s15,rfl,rfl,hcore⟩ hi
   unfold Region.ready at hi
   obtain ⟨hi1,hi2⟩:=List.mem_filter.1 hi
   rw [List.mem_range] at hi1
   have hi1':i < 14:=hi1
   clear hi hi1
   rcases (show i=0∨i=1∨i=2∨i=3∨i=4∨i=5∨i=6∨i=7∨i=8∨i=9∨i=10∨i=11∨i=12∨i=13 by omega) with rfl | rfl | rfl | rfl | rfl | rfl | rfl | rfl | rfl | rfl | rfl | rfl | rfl | rfl
   · simp [Region.binds] at hi2
     unfold wpOp
     simp only [List.getElem?_toArray,List.getElem?_cons_zero]
     rw [if_pos (by simp [Region.wanted])]
     refine Or.inl ?_
     go_simp
     refine ⟨true,b1,b2,b3,b4,b5,b6,b7,b8,b9,b10,b11,b12,b13,_,s4,s5,s6,s7,s8,s9,s10,s11,s12,s13,s14,s15,rfl,rfl,?_⟩
     exact ⟨hcore.but.trans (But.alloc _ _ _),⟨fun _ _=>⟨W.heap.size,rfl,empty_row (World.rowIs_alloc W #[] 44 (fun _=>.bool false) (fun i hi=>by simp at hi)) hcore.but.size⟩,fun h=>by obtain ⟨g,cap,x1,x2⟩:=hcore.k0.f3 h;exact ⟨g,cap,x1,x2.alloc _⟩⟩,hcore.k1.alloc _,hcore.k2.alloc _,hcore.e1,hcore.e2,hcore.e5,hcore.e6,hcore.e9,hcore.e10,hcore.e12,⟨fun h=>(Below.heap_alloc _ _ _ (by have:=hcore.but.size;omega)).trans (hcore.e13.1 h),fun h=>⟨(hcore.e13.2 h).1,(hcore.e13.2 h).2.alloc _⟩⟩⟩
   · simp [Region.binds] at hi2
     unfold wpOp
     simp only [List.getElem?_toArray,List.getElem?_cons_zero,List.getElem?_cons_succ]
     rw [if_pos (by simp [Region.wanted])]
     refine Or.inl ?_
     go_simp
     refine ⟨b0,true,b2,b3,b4,b5,b6,b7,b8,b9,b10,b11,b12,b13,s3,_,s5,s6,s7,s8,s9,s10,s11,s12,s13,s14,s15,rfl,rfl,?_⟩
     exact ⟨hcore.but,hcore.k0,hcore.k1,hcore.k2,fun _=>rfl,hcore.e2,hcore.e5,hcore.e6,hcore.e9,hcore.e10,hcore.e12,hcore.e13⟩
   · simp [Region.binds] at hi2
     unfold wpOp
     simp only [List.getElem?_toArray,List.getElem?_cons_zero,List.getElem?_cons_succ]
     rw [if_pos (by simp [Region.wanted])]
     refine Or.inl ?_
     obtain ⟨hx1,hx2⟩:=hi2
     have hp:=hcore.e1 hx2
     subst hp
     have kc:=xU HBOX W hcore.but
     obtain ⟨q0,q1,q2⟩:=kc
     clear hx1 hx2
     go_simp
     refine ⟨b0,b1,true,b3,b4,b5,b6,b7,b8,b9,b10,b11,b12,b13,s3,_,_,s6,s7,s8,s9,s10,s11,s12,s13,s14,s15,rfl,rfl,?_⟩
     exact ⟨hcore.but,hcore.k0,hcore.k1,hcore.k2,fun _=>rfl,fun _=>rfl,hcore.e5,hcore.e6,hcore.e9,hcore.e10,hcore.e12,hcore.e13⟩
   · simp [Region.binds] at hi2
     unfold wpOp
     simp only [List.getElem?_toArray,List.getElem?_cons_zero,List.getElem?_cons_succ]
     rw [if_pos (by simp [Region.wanted])]
     refine Or.inl ?_
     obtain ⟨hx1,hx2,hx3⟩:=hi2
     obtain ⟨gg,hg1,hown⟩:=hcore.k0.f0 hx2 hx1
     have hin:=hcore.e2 hx3
     subst hg1 hin
     refine wp_copyD W _ _ 23 rfl W0.heap.size 44 j3 (.agg #[.string ByteArray.empty,.string ByteArray.empty,.int .i64 0]) 3 40 Try.underlying23 (xU HJ3) (xU HW0) (xU HW1) (xU HW2) rfl (by decide) gg rfl hown a0 d.files.length p0 (d.files.map Df.cs).flatten rfl (xU HL0) (xU HSRC0 W hcore.but) (xU HONE0) (by unfold maxLen;omega) (by omega) hcore.but.size (fun g9 cap9 W9 hown9 hgr=>?_)
     refine ⟨b0,b1,b2,true,b4,b5,b6,b7,b8,b9,b10,b11,b12,b13,_,s4,_,_,s7,s8,s9,s10,s11,s12,s13,s14,s15,rfl,rfl,?_⟩
     exact ⟨but_grownC hcore.but hgr (fun g e=>by cases e;exact (hown.lt _ rfl).1),⟨(fun _ h=>nomatch h),fun _=>⟨g9,cap9,rfl,hown9⟩⟩,hcore.k1.other (by decide) hown hgr,hcore.k2.other (by decide) hown hgr,hcore.e1,hcore.e2,hcore.e5,hcore.e6,hcore.e9,hcore.e10,fun h=>by have:=(hcore.e12 h).2;simp [hx1] at this,⟨fun h=>(hgr.block _ (by have:=hcore.but.size;omega) (fun e=>by have h5:W0.heap.size≤gg:=(hown.lt _ rfl).1;have h6:gg=w.heap.size+1:=(by cases e;rfl);omega)).trans (hcore.e13.1 h),fun h=>by have:=(hcore.e12 (hcore.e13.2 h).1).2;simp [hx1] at this⟩⟩
   · simp [Region.binds] at hi2
     unfold wpOp
     simp only [List.getElem?_toArray,List.getElem?_cons_zero,List.getElem?_cons_succ]
     rw [if_pos (by simp [Region.wanted])]
     refine Or.inl ?_
     go_simp
     refine ⟨b0,b1,b2,b3,true,b5,b6,b7,b8,b9,b10,b11,b12,b13,s3,s4,s5,s6,_,s8,s9,s10,s11,s12,s13,s14,s15,rfl,rfl,?_⟩
     exact ⟨hcore.but.trans (But.alloc _ _ _),hcore.k0.alloc _,⟨fun _ _=>⟨W.heap.size,rfl,empty_row (World.rowIs_alloc W #[] 9 (fun _=>.bool false) (fun i hi=>by simp at hi)) hcore.but.size⟩,fun h=>by obtain ⟨g,cap,x1,x2⟩:=hcore.k1.f3 h;exact ⟨g,cap,x1,x2.alloc _⟩⟩,hcore.k2.alloc _,hcore.e1,hcore.e2,hcore.e5,hcore.e6,hcore.e9,hcore.e10,hcore.e12,⟨fun h=>(Below.heap_alloc _ _ _ (by have:=hcore.but.size;omega)).trans (hcore.e13.1 h),fun h=>⟨(hcore.e13.2 h).1,(hcore.e13.2 h).2.alloc _⟩⟩⟩
   · simp [Region.binds] at hi2
     unfold wpOp
     simp only [List.getElem?_toArray,List.getElem?_cons_zero,List.getElem?_cons_succ]
     rw [if_pos (by simp [Region.wanted])]
     refine Or.inl ?_
     go_simp
     refine ⟨b0,b1,b2,b3,b4,true,b6,b7,b8,b9,b10,b11,b12,b13,s3,s4,s5,s6,s7,_,s9,s10,s11,s12,s13,s14,s15,rfl,rfl,?_⟩
     exact ⟨hcore.but,hcore.k0,hcore.k1,hcore.k2,hcore.e1,hcore.e2,fun _=>rfl,hcore.e6,hcore.e9,hcore.e10,hcore.e12,hcore.e13⟩
   · simp [Region.binds] at hi2
     unfold wpOp
     simp only [List.getElem?_toArray,List.getElem?_cons_zero,List.getElem?_cons_succ]
     rw [if_pos (by simp [Region.wanted])]
     refine Or.inl ?_
     obtain ⟨hx1,hx2⟩:=hi2
     have hp:=hcore.e5 hx2
     subst hp
     have kc:=xU HBOX W hcore.but
     obtain ⟨q0,q1,q2⟩:=kc
     clear hx1 hx2
     go_simp
     refine ⟨b0,b1,b2,b3,b4,b5,true,b7,b8,b9,b10,b11,b12,b13,s3,s4,s5,s6,s7,_,_,s10,s11,s12,s13,s14,s15,rfl,rfl,?_⟩
     exact ⟨hcore.but,hcore.k0,hcore.k1,hcore.k2,hcore.e1,hcore.e2,fun _=>rfl,fun _=>rfl,hcore.e9,hcore.e10,hcore.e12,hcore.e13⟩
   · simp [Region.binds] at hi2
     unfold wpOp
     simp only [List.getElem?_toArray,List.getElem?_cons_zero,List.getElem?_cons_succ]
     rw [if_pos (by simp [Region.wanted])]
     refine Or.inl ?_
     obtain ⟨hx1,hx2,hx3,-⟩:=hi2
     obtain ⟨gg,hg1,hown⟩:=hcore.k1.f0 hx2 hx1
     have hin:=hcore.e6 hx3
     subst hg1 hin
     refine wp_copyD W _ _ 24 rfl W0.heap.size 9 j0 (.string ByteArray.empty) 1 16 Try.underlying24 (xU HJJ) (xU HY0) (xU HY1) (xU HY2) rfl (by decide) gg rfl hown a1 d.names.length p1 (d.names.map Value.string) rfl (xU HL1) (xU HSRC1 W hcore.but) (xU HONE1) (by unfold maxLen;omega) (by omega) hcore.but.size (fun g9 cap9 W9 hown9 hgr=>?_)
     refine ⟨b0,b1,b2,b3,b4,b5,b6,true,b8,b9,b10,b11,b12,b13,s3,s4,s5,s6,_,s8,_,_,s11,s12,s13,s14,s15,rfl,rfl,?_⟩
     exact ⟨but_grownC hcore.but hgr (fun g e=>by cases e;exact (hown.lt _ rfl).1),hcore.k0.other (by decide) hown hgr,⟨(fun _ h=>nomatch h),fun _=>⟨g9,cap9,rfl,hown9⟩⟩,hcore.k2.other (by decide) hown hgr,hcore.e1,hcore.e2,hcore.e5,hcore.e6,hcore.e9,hcore.e10,fun h=>by have:=(hcore.e12 h).2;simp [hx1] at this,⟨fun h=>(hgr.block _ (by have:=hcore.but.size;omega) (fun e=>by have h5:W0.heap.size≤gg:=(hown.lt _ rfl).1;have h6:gg=w.heap.size+1:=(by cases e;rfl);omega)).trans (hcore.e13.1 h),fun h=>by have:=(hcore.e12 (hcore.e13.2 h).1).2;simp [hx1] at this⟩⟩
   · simp [Region.binds] at hi2
     unfold wpOp
     simp only [List.getElem?_toArray,List.getElem?_cons_zero,List.getElem?_cons_succ]
     rw [if_pos (by simp [Region.wanted])]
     refine Or.inl ?_
     go_simp
     refine ⟨b0,b1,b2,b3,b4,b5,b6,b7,true,b9,b10,b11,b12,b13,s3,s4,s5,s6,s7,s8,s9,s10,_,s12,s13,s14,s15,rfl,rfl,?_⟩
     exact ⟨hcore.but.trans (But.alloc _ _ _),hcore.k0.alloc _,hcore.k1.alloc _,⟨fun _ _=>⟨W.heap.size,rfl,empty_row (World.rowIs_alloc W #[] 60 (fun _=>.bool false) (fun i hi=>by simp at hi)) hcore.but.size⟩,fun h=>by obtain ⟨g,cap,x1,x2⟩:=hcore.k2.f3 h;exact ⟨g,cap,x1,x2.alloc _⟩⟩,hcore.e1,hcore.e2,hcore.e5,hcore.e6,hcore.e9,hcore.e10,hcore.e12,⟨fun h=>(Below.heap_alloc _ _ _ (by have:=hcore.but.size;omega)).trans (hcore.e13.1 h),fun h=>⟨(hcore.e13.2 h).1,(hcore.e13.2 h).2.alloc _⟩⟩⟩
   · simp [Region.binds] at hi2
     unfold wpOp
     simp only [List.getElem?_toArray,List.getElem?_cons_zero,List.getElem?_cons_succ]
     rw [if_pos (by simp [Region.wanted])]
     refine Or.inl ?_
     go_simp
     refine ⟨b0,b1,b2,b3,b4,b5,b6,b7,b8,true,b10,b11,b12,b13,s3,s4,s5,s6,s7,s8,s9,s10,s11,_,s13,s14,s15,rfl,rfl,?_⟩
     exact ⟨hcore.but,hcore.k0,hcore.k1,hcore.k2,hcore.e1,hcore.e2,hcore.e5,hcore.e6,fun _=>rfl,hcore.e10,hcore.e12,hcore.e13⟩
   · simp [Region.binds] at hi2
     unfold wpOp
     simp only [List.getElem?_toArray,List.getElem?_cons_zero,List.getElem?_cons_succ]
     rw [if_pos (by simp [Region.wanted])]
     refine Or.inl ?_
     obtain ⟨hx1,hx2⟩:=hi2
     have hp:=hcore.e9 hx2
     subst hp
     have kc:=xU HBOX W hcore.but
     obtain ⟨q0,q1,q2⟩:=kc
     clear hx1 hx2
     go_simp
     refine ⟨b0,b1,b2,b3,b4,b5,b6,b7,b8,b9,true,b11,b12,b13,s3,s4,s5,s6,s7,s8,s9,s10,s11,_,_,s14,s15,rfl,rfl,?_⟩
     exact ⟨hcore.but,hcore.k0,hcore.k1,hcore.k2,hcore.e1,hcore.e2,hcore.e5,hcore.e6,fun _=>rfl,fun _=>rfl,hcore.e12,hcore.e13⟩
   · simp [Region.binds] at hi2
     unfold wpOp
     simp only [List.getElem?_toArray,List.getElem?_cons_zero,List.getElem?_cons_succ]
     rw [if_pos (by simp [Region.wanted])]
     refine Or.inl ?_
     obtain ⟨hx1,hx2,hx3,-⟩:=hi2
     obtain ⟨gg,hg1,hown⟩:=hcore.k2.f0 hx2 hx1
     have hin:=hcore.e10 hx3
     subst hg1 hin
     refine wp_copyD W _ _ 25 rfl W0.heap.size 60 jm (.agg #[.bool false,.string ByteArray.empty]) 2 24 Try.underlying25 (xU HJM) (xU HM0) (xU HM1) (xU HM2) rfl (by decide) gg rfl hown a2 d.moves.length p2 (d.moves.map Dm.cs).flatten rfl (xU HL2) (xU HSRC2 W hcore.but) (xU HONE2) (by unfold maxLen;omega) (by omega) hcore.but.size (fun g9 cap9 W9 hown9 hgr=>?_)
     refine ⟨b0,b1,b2,b3,b4,b5,b6,b7,b8,b9,b10,true,b12,b13,s3,s4,s5,s6,s7,s8,s9,s10,_,s12,_,_,s15,rfl,rfl,?_⟩
     exact ⟨but_grownC hcore.but hgr (fun g e=>by cases e;exact (hown.lt _ rfl).1),hcore.k0.other (by decide) hown hgr,hcore.k1.other (by decide) hown hgr,⟨(fun _ h=>nomatch h),fun _=>⟨g9,cap9,rfl,hown9⟩⟩,hcore.e1,hcore.e2,hcore.e5,hcore.e6,hcore.e9,hcore.e10,fun h=>by have:=(hcore.e12 h).2;simp [hx1] at this,⟨fun h=>(hgr.block _ (by have:=hcore.but.size;omega) (fun e=>by have h5:W0.heap.size≤gg:=(hown.lt _ rfl).1;have h6:gg=w.heap.size+1:=(by cases e;rfl);omega)).trans (hcore.e13.1 h),fun h=>by have:=(hcore.e12 (hcore.e13.2 h).1).2;simp [hx1] at this⟩⟩
   · simp [Region.binds] at hi2
     unfold wpOp
     simp only [List.getElem?_toArray,List.getElem?_cons_zero,List.getElem?_cons_succ]
     rw [if_pos (by simp [Region.wanted])]
     refine Or.inl ?_
     obtain ⟨hx1,hx3,hx7,hx11⟩:=hi2
     obtain ⟨g3,cp3,r3,-⟩:=hcore.k0.f3 hx3
     obtain ⟨g7,cp7,r7,-⟩:=hcore.k1.f3 hx7
     obtain ⟨g11,cp11,r11,-⟩:=hcore.k2.f3 hx11
     subst r3 r7 r11
     have X1:=xH hx1;have X3:=xH hx3;have X7:=xH hx7;have X11:=xH hx11
     clear hx1 hx3 hx7 hx11
     go_simp
     refine ⟨b0,b1,b2,b3,b4,b5,b6,b7,b8,b9,b10,b11,true,b13,s3,s4,s5,_,s7,s8,s9,_,s11,s12,s13,_,_,rfl,rfl,?_⟩
     exact ⟨hcore.but,hcore.k0,hcore.k1,hcore.k2,hcore.e1,hcore.e2,hcore.e5,hcore.e6,hcore.e9,hcore.e10,fun _=>⟨rfl,xU X3,xU X7,xU X11⟩,⟨hcore.e13.1,fun h=>by have:=(hcore.e13.2 h).1;simp [xU X1] at this⟩⟩
   · simp [Region.binds] at hi2
     unfold wpOp
     simp only [List.getElem?_toArray,List.getElem?_cons_zero,List.getElem?_cons_succ]
     rw [if_pos (by simp [Region.wanted])]
     refine Or.inl ?_
     obtain ⟨hx1,hx2,-⟩:=hi2
     obtain ⟨r15,hx3,hx7,hx11⟩:=hcore.e12 hx2
     obtain ⟨g3,cp3,r3,o3⟩:=hcore.k0.f3 hx3
     obtain ⟨g7,cp7,r7,o7⟩:=hcore.k1.f3 hx7
     obtain ⟨g11,cp11,r11,o11⟩:=hcore.k2.f3 hx11
     subst r15 r3 r7 r11
     have hrr:=(xU HRES).of_block (hcore.e13.1 hx1)
     obtain ⟨y0,y1,y2⟩:=cs3 hrr (by omega)
     have z:=hrr.frozen
     simp only [row3] at y0 y1 y2
     have X2:=xH hx2;have HRR:=xH hrr
     clear hx1 hx2 hx3 hx7 hx11 hrr
     go_simp
     refine ⟨b0,b1,b2,b3,b4,b5,b6,b7,b8,b9,b10,b11,b12,true,s3,s4,s5,_,s7,s8,s9,_,s11,s12,s13,_,_,rfl,rfl,?_⟩
     have hb3:But (w.heap.size+1) W (((W.setCell ⟨w.heap.size+1,0,none⟩ (.slice (some ⟨g3,0,none⟩) d.files.length cp3)).setCell ⟨w.heap.size+1,1,none⟩ (.slice (some ⟨g7,0,none⟩) d.names.length cp7)).setCell ⟨w.heap.size+1,2,none⟩ (.slice (some ⟨g11,0,none⟩) d.moves.length cp11)):=((But.set W 0 _).trans (But.set _ 1 _)).trans (But.set _ 2 _)
     exact ⟨hcore.but.trans hb3,hcore.k0.keep (fun g cur hg hh=>hb3.at (Array.getElem?_eq_some_iff.1 hh).1 (by omega)),hcore.k1.keep (fun g cur hg hh=>hb3.at (Array.getElem?_eq_some_iff.1 hh).1 (by omega)),hcore.k2.keep (fun g cur hg hh=>hb3.at (Array.getElem?_eq_some_iff.1 hh).1 (by omega)),hcore.e1,hcore.e2,hcore.e5,hcore.e6,hcore.e9,hcore.e10,hcore.e12,⟨(fun h=>nomatch h),fun _=>⟨xU X2,crow_set2 ((crow_set ((crow_set (xU HRR) _).1) _).2) _⟩⟩⟩
end Go.Proofs.Yteikmbkljkkjiaa
