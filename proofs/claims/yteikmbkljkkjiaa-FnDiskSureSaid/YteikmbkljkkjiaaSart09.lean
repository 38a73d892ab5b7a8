/- A part. -/
import Derived.Test.YteikmbkljkkjiaaSart08
namespace Go.Proofs.Yteikmbkljkkjiaa
open Go Go.RowKit
set_option maxRecDepth 100000
set_option maxHeartbeats 6400000
theorem wp_appD {P:Program} (w:World) {o:Oper} {a:Act} {K:Act→World→Prop} {Q:Exit→Act→World→Prop} (s x:Operand) (t:TypeId)
 (ho:o.op=.call { callee:=.builtin .append,args:=#[s,x],argTypes:=#[t,t] }) (base:Nat) (e:TypeId) (i:TypeInfo) (z:Value) (size bytes:Nat) (h1:P.underlying t=some (.slice e)) (h2:P.info? e=some i) (h3:i.zero=some z) (h4:i.size=size) (h5:i.bytes=bytes) (h6:z.cells.size=size) (h7:0 < size)
 (v:Value) (n:Nat) (xs:List Value) (hs:a.eval s=v) (hown:w.ownsRow base e size v n xs)
 (ad:Addr) (m c:Nat) (news:List Value) (hx:a.eval x=.slice (some ad) m c) (hn:news.length=m * size) (hc:∀ j u,news[j]? = some u→w.cell? (ad.add j)=some u) (h1c:∀ u∈news,u.oneCell'=true)
 (hm:0 < m) (b1:n+m≤maxLen) (b2:(n+m) * bytes≤140737488355328) (hbase:base≤w.heap.size)
 (h:∀ g cap w',w'.ownsRow base e size (.slice (some ⟨g,0,none⟩) (n+m) cap) (n+m) (xs++news)→w.grownBy w' v.ownBlock→K (a.put o.dst (.slice (some ⟨g,0,none⟩) (n+m) cap)) w'):o.wp P a w K Q:=by
 obtain ⟨g,cap,w',hr,r1,r2,-,-⟩:=run_append_lies (P:=P) w t o.type base e i z size bytes h1 h2 h3 h4 h5 h6 h7 v n xs hown ad m c news hn hc h1c hm b1 b2 hbase w.heap.size rfl
 unfold Oper.wp execOp
 simp only [ho,resolve,invoke,builtin,Sem.run_bind,Sem.run_pure,Result.andThen_ok,List.map_toArray,List.map_cons,List.map_nil,hs,hx,hr]
 exact h g cap w' r1 r2
theorem own_apart {w:World} {base:Nat} {e:TypeId} {size:Nat} {v:Value} {n:Nat} {xs:List Value} {b:Nat} {T:TypeId} {m:Nat} {f:Nat→Value} (h:w.ownsRow base e size v n xs) (hr:w.rowIs b T m f) (hT:T≠e):v.ownBlock≠some b:=by
 rcases h.2 with ⟨hv,_⟩ | ⟨g,c,u,hv,_,hh,_⟩
 · rw [hv];intro e;cases e
 · rw [hv]
   intro e1
   simp only [Value.ownBlock,Option.some.injEq] at e1
   subst e1
   obtain ⟨cs,h1,-⟩:=hr
   rw [hh] at h1
   simp only [Option.some.injEq,Obj.cells.injEq] at h1
   exact hT h1.2.1.symm
structure KpSt (base L:Nat) (W:World) (vf vn:Value) (fs:List Df) (ns:List ByteArray):Prop where
 row:W.rowIs L 27 3 (row3 vf vn (.slice none 0 0))
 of:W.ownsRow base 44 3 vf fs.length (fs.map Df.cs).flatten
 on:W.ownsRow base 9 1 vn ns.length (ns.map Value.string)
theorem own_ne {w:World} {base:Nat} {e e':TypeId} {size size':Nat} {v v':Value} {n n':Nat} {xs xs':List Value} (h:w.ownsRow base e size v n xs) (h':w.ownsRow base e' size' v' n' xs') (hne:e≠e') (g:Nat) (h1:v.ownBlock=some g) (h2:v'.ownBlock=some g):False:=by
 rcases h.2 with ⟨hv,_⟩ | ⟨g1,c1,u1,hv1,_,hh1,_⟩
 · rw [hv] at h1;cases h1
 rcases h'.2 with ⟨hv,_⟩ | ⟨g2,c2,u2,hv2,_,hh2,_⟩
 · rw [hv] at h2;cases h2
 rw [hv1] at h1;rw [hv2] at h2
 simp only [Value.ownBlock,Option.some.injEq] at h1 h2
 subst h1;subst h2
 rw [hh1] at hh2
 simp only [Option.some.injEq,Obj.cells.injEq] at hh2
 exact hne hh2.2.1
theorem KpSt.keep {base L:Nat} {W W':World} {vf vn:Value} {fs:List Df} {ns:List ByteArray} (h:KpSt base L W vf vn fs ns) (hb:Below W.heap.size W W'):KpSt base L W' vf vn fs ns :=
 ⟨h.row.of_block (hb.block L h.row.lt),ownsRow_keep h.of (fun g e=>hb.block g (h.of.lt g e).2),ownsRow_keep h.on (fun g e=>hb.block g (h.on.lt g e).2)⟩
theorem KpSt.grown {base L:Nat} {W W':World} {vf vn vf':Value} {fs:List Df} {ns:List ByteArray} (h:KpSt base L W vf vn fs ns) (f:Df) (hown:W'.ownsRow base 44 3 vf' (fs.length+1) ((fs.map Df.cs).flatten++f.cs)) (hg:W.grownBy W' vf.ownBlock):W'.rowIs L 27 3 (row3 vf vn (.slice none 0 0))∧KpSt base L (W'.setCell ⟨L,0,none⟩ vf') vf' vn (fs++[f]) ns:=by
 have hL:W'.rowIs L 27 3 (row3 vf vn (.slice none 0 0)):=h.row.of_block (hg.block L h.row.lt (fun e=>own_apart h.of h.row (by decide) e.symm))
 have hn:W'.ownsRow base 9 1 vn ns.length (ns.map Value.string):=ownsRow_keep h.on (fun g e=>hg.block g (h.on.lt g e).2 (fun e2=>own_ne h.of h.on (by decide) g e2.symm e))
 refine ⟨hL,(crow_set hL vf').1,?_,?_⟩
 · refine ownsRow_setCell_other ?_ (own_apart hown hL (by decide)) _
   rw [List.length_append,List.map_append,List.flatten_append]
   simpa using hown
 · exact ownsRow_setCell_other hn (own_apart hn hL (by decide)) _
structure KpCore (w W0 wr:World) (L k nn:Nat) (vf vn va vb:Value) (fs:List Df) (f:Df) (ns:List ByteArray) (x:ByteArray) (i:Nat) (adN adF:Addr) (b0 b1 b2 b3 b4 b5 b6 b7 b8 b9 b10 b11 b12 b13 b14 b15 b16:Bool) (s17 s18 s19 s20 s21 s22 s23 s24 s25 s26 s27 s28 s29 s30 s31 s32:Value) (W:World):Prop where
 e0:b0=true→s17=.pointer (some ⟨L,0,none⟩)
 e1:b1=true→s18=vf
 e2:b2=true→s19=.pointer (some ⟨w.heap.size,0,none⟩)
 e3:b3=true→s20=va
 e4:b4=true→s21=.pointer (some ⟨w.heap.size,0,none⟩)
 e5:b5=true→s22=va
 e6:b6=true→s23=vb
 e7:b7=true→s24=.int .i64 (k:Int)
 e8:b8=true→s25=.pointer (some adN)
 e9:b9=true→s26=.string x
 e10:b10=true→s27=.int .i64 (i:Int)
 e11:b11=true→s28=.pointer (some adF)
 e12:b12=true→s29=.agg #[.string f.name,.string f.data,.int .i64 f.kept]
 e13:b13=true→b14=false→∃ g',s30=.slice (some ⟨g',0,none⟩) 1 1∧∀ j u,f.cs[j]? = some u→W.cell? ((⟨g',0,none⟩:Addr).add j)=some u
 e14:b14=true→b16=false→∃ g' cap' W1,s31=.slice (some ⟨g',0,none⟩) (k+1) cap'∧W.ownsRow (w.heap.size+2) 44 3 (.slice (some ⟨g',0,none⟩) (k+1) cap') (k+1) ((fs.map Df.cs).flatten++f.cs)∧Below wr.heap.size wr W1∧W1.grownBy W vf.ownBlock
 e15:b15=true→s32=.pointer (some ⟨L,0,none⟩)
 e16:b16=true→∃ g' cap',KpSt (w.heap.size+2) L W (.slice (some ⟨g',0,none⟩) (k+1) cap') vn (fs++[f]) ns∧Below (w.heap.size+2) W0 W
 wa:b14=false→Below wr.heap.size wr W
 o10:b10=true→b5=true∧b9=true
 o11:b11=true→b3=true∧b10=true
 o12:b12=true→b11=true
 o13:b13=true→b12=true
 o14:b14=true→b1=true∧b13=true∧b10=true
 o16:b16=true→b14=true
def KpInv (w W0 wr:World) (L k nn:Nat) (vf vn va vb:Value) (fs:List Df) (f:Df) (ns:List ByteArray) (x:ByteArray) (i:Nat) (adN adF:Addr) (v0 v1 v2 v3 v4 v5 v6 v7 v8 v9 v10 v11 v12 v13 v14 v15 v16 v33:Value) (l:Array Bool) (a:Act) (W:World):Prop :=
 ∃ (b0 b1 b2 b3 b4 b5 b6 b7 b8 b9 b10 b11 b12 b13 b14 b15 b16:Bool) (s17 s18 s19 s20 s21 s22 s23 s24 s25 s26 s27 s28 s29 s30 s31 s32:Value),l=#[b0,b1,b2,b3,b4,b5,b6,b7,b8,b9,b10,b11,b12,b13,b14,b15,b16]∧a={ tmps:=#[v0,v1,v2,v3,v4,v5,v6,v7,v8,v9,v10,v11,v12,v13,v14,v15,v16,s17,s18,s19,s20,s21,s22,s23,s24,s25,s26,s27,s28,s29,s30,s31,s32,v33],defers:=[] }∧KpCore w W0 wr L k nn vf vn va vb fs f ns x i adN adF b0 b1 b2 b3 b4 b5 b6 b7 b8 b9 b10 b11 b12 b13 b14 b15 b16 s17 s18 s19 s20 s21 s22 s23 s24 s25 s26 s27 s28 s29 s30 s31 s32 W
theorem l41Keep_any (d:Dk) (ns:List ByteArray) (P:Nat→Prop) (c:C3) (v:Value) (w:World) (hP:∀ b,P b→b < w.heap.size) (hd:DkAt P w d c) (hn:StrsAt P w v ns) (hl:ns.length≤1000) (hf:∀ x,x∈ns→∃ i,∃ _:i < d.files.length,findF d.files x=i) :
 Calls Try.prog 28 #[.agg #[c.c0,c.c1,c.c2],v] w fun e w'=>∃ c':C3,e=.returned (.agg #[c'.c0,c'.c1,c'.c2])∧DkAt (New w w') w' (keepD d ns) c'∧Below w.heap.size w w':=by
 obtain ⟨c0,c1,c2⟩:=c
 have HD:=xH hd;have HN:=xH hn;have HP:=xH hP;have HF:=xH hf
 obtain ⟨a0,p0,g0,-,-⟩:=hd.fs.open
 obtain ⟨a1,p1,g1,-,hnc⟩:=hn
 simp only at g0
 subst g0 g1
 have hsz:∀ x,x∈ns→x.size≤9223372036854775807:=fun x hx=>by
  obtain ⟨i,hi,rfl⟩:=List.getElem_of_mem hx
  obtain ⟨_,_,_,_,_,h⟩:=hnc i hi
  exact h
 obtain ⟨W0,hW0⟩:∃ W0,W0=(w.alloc (.cells #[.slice a0 d.files.length p0,c1,c2] 27)).alloc (.cells #[.slice none 0 0,.slice none 0 0,.slice none 0 0] 27):=⟨_,rfl⟩
 have hs0:W0.heap.size=w.heap.size+2:=by rw [hW0];simp
 have hb0:Below w.heap.size w W0:=by rw [hW0];exact ((Below.refl _ _).alloc (Nat.le_refl _) _).alloc (by simp) _
 have hrA:W0.rowIs w.heap.size 27 3 (row3 (.slice a0 d.files.length p0) c1 c2):=by rw [hW0];exact (row3_alloc w _ _ _ _).alloc _
 have hrR:W0.rowIs (w.heap.size+1) 27 3 (row3 (.slice none 0 0) (.slice none 0 0) (.slice none 0 0)):=by
  rw [hW0]
  have:=row3_alloc (w.alloc (.cells #[.slice a0 d.files.length p0,c1,c2] 27)) (.slice none 0 0) (.slice none 0 0) (.slice none 0 0) 27
  rw [World.size_alloc] at this
  exact this
 obtain ⟨j0,hj,hy0,hy1,hy2⟩:=infoStrD
 obtain ⟨j3,hj3,hw0,hw1,hw2⟩:=infoFileD
 have HJJ:=xH hj;have HY0:=xH hy0;have HY1:=xH hy1;have HY2:=xH hy2;have HJ3:=xH hj3;have HW0:=xH hw0;have HW1:=xH hw1;have HW2:=xH hw2
 have hemp:=empty_row (base:=w.heap.size+2) (size:=1) (World.rowIs_alloc W0 #[] 9 (fun _=>.bool false) (fun i hi=>by simp at hi)) (by omega)
 rw [hs0] at hemp
 have hsrc:=names_srcD ((xU HN).carry (P:=P) (Q:=P) (w':=W0) (fun b hb=>hb0.block b (hP b hb)) (fun _ h=>h)) (.cells #[] 9)
 have hxl:(ns.map Value.string).length=ns.length * 1:=by simp
 have HXL:=xH hxl;have HSZ:=xH hsz
 have HRA:=xH hrA;have HRR:=xH hrR;have HB0:=xH hb0;have HWW:=xH hW0
 have hbe:Below W0.heap.size W0 (W0.alloc (.cells #[] 9)):=(Below.refl _ _).alloc (Nat.le_refl _) _
 have HBE:=xH hbe
 rw [hW0] at hemp hsrc
 have HEMP:=xH hemp;have HSRC:=xH hsrc
 clear hd hnc hP hf hj hy0 hy1 hy2 hj3 hw0 hw1 hw2 hemp hsrc hxl hsz hrA hrR hb0 hbe hW0
 go_enter Try.func28,Try.ntmps28
 go_wp2_with (at_builtin;refine append_copyD _ rfl _ _ 24 rfl (w.heap.size+2) 9 j0 (.string ByteArray.empty) 1 16 Try.underlying24 (xU HJJ) (xU HY0) (xU HY1) (xU HY2) rfl (by decide) (w.heap.size+2) rfl (xU HEMP) a1 ns.length p1 (ns.map Value.string) rfl (xU HXL) (xU HSRC) (fun u hu=>by obtain ⟨y,-,rfl⟩:=List.mem_map.1 hu;rfl) (by unfold maxLen;omega) (by omega) (by simp) ?_;intro g cap w2 HO HG)
 rw [← xU HWW] at HG
 have hb2:Below (w.heap.size+2) W0 w2:=below_grown (by simp;omega) ((xU HBE).mono (by omega)) HG.out (fun x e=>by cases e;omega)
 have hs2:w.heap.size+2≤w2.heap.size:=by have:=hb2.size;omega
 have hst:KpSt (w.heap.size+2) w2.heap.size (w2.alloc (.cells #[.slice none 0 0,.slice (some ⟨g,0,none⟩) ns.length cap,.slice none 0 0] 27)) (.slice none 0 0) (.slice (some ⟨g,0,none⟩) ns.length cap) [] ns :=
  ⟨row3_alloc w2 _ _ _ _,⟨rfl,Or.inl ⟨rfl,rfl⟩⟩,HO.out.alloc _⟩
 have hb3:Below (w.heap.size+2) W0 (w2.alloc (.cells #[.slice none 0 0,.slice (some ⟨g,0,none⟩) ns.length cap,.slice none 0 0] 27)):=hb2.alloc (by omega) _
 have HST:=xH hst;have HB3:=xH hb3
 clear HO HG HEMP HSRC HBE hb2 hst hb3 HWW
 go_loopw [6] (fun i wr=>∃ (k:Nat) (af:Option Addr) (cf:Nat),k≤ns.length∧i=.int .i64 k∧Hid (KpSt (w.heap.size+2) w2.heap.size wr (.slice af k cf) (.slice (some ⟨g,0,none⟩) ns.length cap) ((ns.take k).map (fileD d)) ns)∧Hid (Below (w.heap.size+2) W0 wr)) (fun i _=>ns.length - (intOf i).toNat)
 case atStart=>exact ⟨0,none,0,Nat.zero_le _,rfl,xU HST,xU HB3⟩
 case round =>
  clear HST HB3
  obtain ⟨k,af,cf,hk,rfl,HS,HB⟩:=hrel
  have hrL:=HS.out.row
  have hLlt:=hrL.lt
  obtain ⟨l0,l1,l2⟩:=cs3 hrL (by omega)
  have hbs:w.heap.size+2≤wr.heap.size:=by have:=HB.out.size;omega
  have hbw:Below w.heap.size w wr:=(xU HB0).trans (HB.out.mono (by omega))
  by_cases hlt:k < ns.length
  rotate_left
  · obtain rfl:k=ns.length:=by omega
    have hq2:=(xU HRR).of_block (HB.out.block (w.heap.size+1) (by omega))
    obtain ⟨y0,y1,y2⟩:=cs3 hq2 (by omega)
    have z:=hq2.frozen
    simp only [row3] at y0 y1 y2 l0 l1 l2
    have hst:=HS.out
    rw [List.take_of_length_le (Nat.le_refl _)] at hst
    have HST:=xH hst;have HBW:=xH hbw
    clear hst hq2 hrL hbw
    go_wp2_with fail
    try simp only [Exit.inBlock,Exit.then]
    refine bodyPost_ret (v:=.agg #[.slice af ns.length cf,.slice (some ⟨g,0,none⟩) ns.length cap,.slice none 0 0]) (by simp [results,Try.results28,go_sem,y0,y1,y2]) rfl ?_
    have h:=xU HST
    have hofs:(ns.map (fileD d)).length=ns.length:=by simp
    have hof3:=ownsRow_setCell_below (ownsRow_setCell_below (ownsRow_setCell_below h.of (a:=⟨w.heap.size+1,0,none⟩) (by simp) (.slice af ns.length cf)) (a:=⟨w.heap.size+1,1,none⟩) (by simp) (.slice (some ⟨g,0,none⟩) ns.length cap)) (a:=⟨w.heap.size+1,2,none⟩) (by simp) (.slice none 0 0)
    have hon3:=ownsRow_setCell_below (ownsRow_setCell_below (ownsRow_setCell_below h.on (a:=⟨w.heap.size+1,0,none⟩) (by simp) (.slice af ns.length cf)) (a:=⟨w.heap.size+1,1,none⟩) (by simp) (.slice (some ⟨g,0,none⟩) ns.length cap)) (a:=⟨w.heap.size+1,2,none⟩) (by simp) (.slice none 0 0)
    obtain ⟨F0,t1,t2,t3,-⟩:=FlatOwn.of_row (rs:=(ns.map (fileD d)).map Df.cs) (n:=3) (by rw [List.length_map];exact hof3) (fun r hr=>by obtain ⟨f,-,rfl⟩:=List.mem_map.1 hr;rfl)
    refine ⟨⟨_,_,_⟩,rfl,⟨⟨t1.at.carry (fun _ _=>rfl) (fun b hb=>⟨by have:=(t3 b hb).1;omega,(t3 b hb).2⟩),fun f hf=>?_⟩,(strsAt_own hon3 (xU HSZ)).carry (fun _ _=>rfl) (fun b hb=>⟨by have:=hb.1;omega,hb.2⟩),⟨(FlatOwn.nil _ 2).at.carry (fun _ _=>rfl) (fun b hb=>(by cases hb)),fun m hm=>(by cases hm)⟩⟩,?_⟩
    · obtain ⟨x,hx,rfl⟩:=List.mem_map.1 hf
      obtain ⟨i,hi,hfi⟩:=xU HF x hx
      rw [fileD_at hi hfi]
      exact (xU HD).fs.2 _ (List.getElem_mem hi)
    · exact (((xU HBW).setCell (by simp) _).setCell (by simp) _).setCell (by simp) _
  · have hrA:=(xU HRA).of_block (HB.out.block w.heap.size (by omega))
    simp only [row3] at l0
    obtain ⟨i,hi,hfi⟩:=xU HF ns[k] (List.getElem_mem hlt)
    obtain ⟨a9,p9,e9,-,hfc⟩:=(xU HD).fs.open
    simp only at e9
    cases e9
    obtain ⟨bF,oF,rfl,hpF,hcF,-⟩:=hfc i hi
    obtain ⟨a8,p8,e8,-,hnc⟩:=xU HN
    cases e8
    obtain ⟨bN,oN,rfl,hpN,hcN,-⟩:=hnc k hlt
    have HFD:=xH (fileD_at hi hfi)
    have htk:(ns.take k).length=k:=by rw [List.length_take];omega
    have HTS:=xH (List.take_succ_eq_append_getElem hlt)
    have hblk:∀ W,Below wr.heap.size wr W→∀ b,b < w.heap.size→W.heap[b]? = w.heap[b]? := fun W hW b hb=>(hW.block b (by omega)).trans (hbw.block b hb)
    have HBOX:=xH (fun W (hW:Below wr.heap.size wr W)=>by
     have r:=(hrA.of_block (hW.block w.heap.size (by omega))).cell (i:=0) (by omega)
     have r':=(hrL.of_block (hW.block w2.heap.size hLlt)).cell (i:=0) (by omega)
     simp only [row3] at r r'
     have n1:=(World.cell?_of_block (a:=⟨bN,oN+k,none⟩) (hblk W hW bN (xU HP bN hpN))).trans hcN
     have f0:=(World.cell?_of_block (a:=⟨bF,oF+i * 3,none⟩) (hblk W hW bF (xU HP bF hpF))).trans hcF.1
     have f1:=(World.cell?_of_block (a:=⟨bF,oF+i * 3+1,none⟩) (hblk W hW bF (xU HP bF hpF))).trans hcF.2.1
     have f2:=(World.cell?_of_block (a:=⟨bF,oF+i * 3+2,none⟩) (hblk W hW bF (xU HP bF hpF))).trans hcF.2.2
     exact (⟨r,r',n1,f0,f1,f2⟩:W.cell? ⟨w.heap.size,0,none⟩=some (.slice (some ⟨bF,oF,none⟩) d.files.length p0)∧W.cell? ⟨w2.heap.size,0,none⟩=some (.slice af k cf)∧W.cell? ⟨bN,oN+k,none⟩=some (.string ns[k])∧W.cell? ⟨bF,oF+i * 3,none⟩=some (.string d.files[i].name)∧W.cell? ⟨bF,oF+i * 3+1,none⟩=some (.string d.files[i].data)∧W.cell? ⟨bF,oF+i * 3+2,none⟩=some (.int .i64 d.files[i].kept)))
    have HFIND:=xH (fun W (hW:Below wr.heap.size wr W)=>l41Find_any (.slice (some ⟨bF,oF,none⟩) d.files.length p0) d.files ns[k] W ((xU HD).fs.carry (Q:=P) (fun b hb=>hblk W hW b (xU HP b hb)) (fun _ h=>h)))
    have HFI:=xH hfi;have HRL:=xH hrL;have HBW:=xH hbw;have HTK:=xH htk
    clear hrA hfc hnc hcF hcN hfi hblk hrL hbw l0 l1 l2 htk hpF hpN
    have HTS2:=xH (show (ns.take (k+1)).map (fileD d)=(ns.take k).map (fileD d)++[d.files[i]] by rw [xU HTS,List.map_append,List.map_cons,List.map_nil,xU HFD])
    have HLF:=xH (show ((ns.take k).map (fileD d)).length=k by rw [List.length_map,xU HTK])
    clear HTS HFD HTK
    generalize ns[k]=x at *
    generalize hfs:(ns.take k).map (fileD d)=fs at *
    clear hfs
    go_upto_region 5 with fail
    refine wp_region_inv (by kernel_rfl) (KpInv w W0 wr w2.heap.size k ns.length (.slice af k cf) (.slice (some ⟨g,0,none⟩) ns.length cap) (.slice (some ⟨bF,oF,none⟩) d.files.length p0) (.slice (some ⟨bN,oN,none⟩) ns.length p1) fs d.files[i] ns x i ⟨bN,oN+k,none⟩ ⟨bF,oF+i * 3,none⟩
     (.agg #[.slice (some ⟨bF,oF,none⟩) d.files.length p0,c1,c2]) (.slice (some ⟨bN,oN,none⟩) ns.length p1) (.pointer (some ⟨w.heap.size,0,none⟩)) undef (.pointer (some ⟨w.heap.size+1,0,none⟩)) (.pointer (some ⟨w2.heap.size,0,none⟩)) (.int .i64 (k:Int)) (.slice (some ⟨w.heap.size+1+1,0,none⟩) 0 0) (.slice (some ⟨bN,oN,none⟩) ns.length p1) (.slice (some ⟨g,0,none⟩) ns.length cap) (.agg #[.slice none 0 0,.slice (some ⟨g,0,none⟩) ns.length cap,.slice none 0 0]) (.int .i64 (k:Int)) (.slice (some ⟨bN,oN,none⟩) ns.length p1) (.int .i64 (ns.length:Int)) (.bool true) u15 u16 undef) ?_ ?_ ?_
    · refine ⟨false,false,false,false,false,false,false,false,false,false,false,false,false,false,false,false,false,_,_,_,_,_,_,_,_,_,_,_,_,_,_,_,_,rfl,rfl,?_⟩
      exact ⟨(fun h=>nomatch h),(fun h=>nomatch h),(fun h=>nomatch h),(fun h=>nomatch h),(fun h=>nomatch h),(fun h=>nomatch h),(fun h=>nomatch h),(fun h=>nomatch h),(fun h=>nomatch h),(fun h=>nomatch h),(fun h=>nomatch h),(fun h=>nomatch h),(fun h=>nomatch h),(fun h=>nomatch h),(fun h=>nomatch h),(fun h=>nomatch h),(fun h=>nomatch h),(fun _=>(Below.refl _ _).drew),(fun h=>nomatch h),(fun h=>nomatch h),(fun h=>nomatch h),(fun h=>nomatch h),(fun h=>nomatch h),(fun h=>nomatch h)⟩
    · rintro l a W ⟨b0,b1,b2,b3,b4,b5,b6,b7,b8,b9,b10,b11,b12,b13,b14,b15,b16,s17,s18,s19,s20,s21,s22,s23,s24,s25,s26,s27,s28,s29,s30,s31,s32,rfl,rfl,hcore⟩ hr
      have n0:0∉([]:List Nat):=List.not_mem_nil
      rw [← hr] at n0
      unfold Region.ready at n0
      rw [List.mem_filter] at n0
      simp [Region.binds] at n0
      have n1:1∉([]:List Nat):=List.not_mem_nil
      rw [← hr] at n1
      unfold Region.ready at n1
      rw [List.mem_filter] at n1
      simp [Region.binds] at n1
      have n2:2∉([]:List Nat):=List.not_mem_nil
      rw [← hr] at n2
      unfold Region.ready at n2
      rw [List.mem_filter] at n2
      simp [Region.binds] at n2
      have n3:3∉([]:List Nat):=List.not_mem_nil
      rw [← hr] at n3
      unfold Region.ready at n3
      rw [List.mem_filter] at n3
      simp [Region.binds] at n3
      have n4:4∉([]:List Nat):=List.not_mem_nil
      rw [← hr] at n4
      unfold Region.ready at n4
      rw [List.mem_filter] at n4
      simp [Region.binds] at n4
      have n5:5∉([]:List Nat):=List.not_mem_nil
      rw [← hr] at n5
      unfold Region.ready at n5
      rw [List.mem_filter] at n5
      simp [Region.binds] at n5
      have n6:6∉([]:List Nat):=List.not_mem_nil
      rw [← hr] at n6
      unfold Region.ready at n6
      rw [List.mem_filter] at n6
      simp [Region.binds] at n6
      have n7:7∉([]:List Nat):=List.not_mem_nil
      rw [← hr] at n7
      unfold Region.ready at n7
      rw [List.mem_filter] at n7
      simp [Region.binds] at n7
      have n8:8∉([]:List Nat):=List.not_mem_nil
      rw [← hr] at n8
      unfold Region.ready at n8
      rw [List.mem_filter] at n8
      simp [Region.binds] at n8
      have n9:9∉([]:List Nat):=List.not_mem_nil
      rw [← hr] at n9
      unfold Region.ready at n9
      rw [List.mem_filter] at n9
      simp [Region.binds] at n9
      have n10:10∉([]:List Nat):=List.not_mem_nil
      rw [← hr] at n10
      unfold Region.ready at n10
      rw [List.mem_filter] at n10
      simp [Region.binds] at n10
      have n11:11∉([]:List Nat):=List.not_mem_nil
      rw [← hr] at n11
      unfold Region.ready at n11
      rw [List.mem_filter] at n11
      simp [Region.binds] at n11
      have n12:12∉([]:List Nat):=List.not_mem_nil
      rw [← hr] at n12
      unfold Region.ready at n12
      rw [List.mem_filter] at n12
      simp [Region.binds] at n12
      have n13:13∉([]:List Nat):=List.not_mem_nil
      rw [← hr] at n13
      unfold Region.ready at n13
      rw [List.mem_filter] at n13
      simp [Region.binds] at n13
      have n14:14∉([]:List Nat):=List.not_mem_nil
      rw [← hr] at n14
      unfold Region.ready at n14
      rw [List.mem_filter] at n14
      simp [Region.binds] at n14
      have n15:15∉([]:List Nat):=List.not_mem_nil
      rw [← hr] at n15
      unfold Region.ready at n15
      rw [List.mem_filter] at n15
      simp [Region.binds] at n15
      have n16:16∉([]:List Nat):=List.not_mem_nil
      rw [← hr] at n16
      unfold Region.ready at n16
      rw [List.mem_filter] at n16
      simp [Region.binds] at n16
      have m16:b16=true:=by clear hcore hr;simp_all
      obtain ⟨g9,cap9,hK,hB9⟩:=hcore.e16 m16
      have HK:=xH hK;have HB9:=xH hB9
      clear n0 n1 n2 n3 n4 n5 n6 n7 n8 n9 n10 n11 n12 n13 n14 n15 n16 m16 hr hcore hK hB9 HBOX HFIND HRL HBW HB HS
      go_wp2_with fail
      go_roundw
      case rel=>exact ⟨k+1,some ⟨g9,0,none⟩,cap9,by omega,by go_num,xH (by
       rw [xU HTS2]
       exact xU HK),HB9⟩
      case measure=>simp [intOf];omega
    · rintro l a W i' ⟨b0,b1,b2,b3,b4,b5,b6,b7,b8,b9,b10,b11,b12,b13,b14,b15,b16,s17,s18,s19,s20,s21,s22,s23,s24,s25,s26,s27,s28,s29,s30,s31,s32,rfl,rfl,hcore⟩ hi9
      unfold Region.ready at hi9
      obtain ⟨hi1,hi2⟩:=List.mem_filter.1 hi9
      rw [List.mem_range] at hi1
      have hi1':i' < 17:=hi1
      clear hi9 hi1
      rcases (show i'=0∨i'=1∨i'=2∨i'=3∨i'=4∨i'=5∨i'=6∨i'=7∨i'=8∨i'=9∨i'=10∨i'=11∨i'=12∨i'=13∨i'=14∨i'=15∨i'=16 by omega) with rfl | rfl | rfl | rfl | rfl | rfl | rfl | rfl | rfl | rfl | rfl | rfl | rfl | rfl | rfl | rfl | rfl
      · simp [Region.binds] at hi2
        unfold wpOp
        simp only [List.getElem?_toArray,List.getElem?_cons_zero]
        rw [if_pos (by simp [Region.wanted])]
        refine Or.inl ?_
        have hx:=hi2;clear hi2
        clear hx
        go_simp
        refine ⟨true,b1,b2,b3,b4,b5,b6,b7,b8,b9,b10,b11,b12,b13,b14,b15,b16,_,s18,s19,s20,s21,s22,s23,s24,s25,s26,s27,s28,s29,s30,s31,s32,rfl,rfl,?_⟩
        exact ⟨(fun _=>rfl),hcore.e1,hcore.e2,hcore.e3,hcore.e4,hcore.e5,hcore.e6,hcore.e7,hcore.e8,hcore.e9,hcore.e10,hcore.e11,hcore.e12,hcore.e13,hcore.e14,hcore.e15,hcore.e16,hcore.wa,hcore.o10,hcore.o11,hcore.o12,hcore.o13,hcore.o14,hcore.o16⟩
      · simp [Region.binds] at hi2
        unfold wpOp
        simp only [List.getElem?_toArray,List.getElem?_cons_zero,List.getElem?_cons_succ]
        rw [if_pos (by simp [Region.wanted])]
        refine Or.inl ?_
        obtain ⟨hx,hd0⟩:=hi2
        have hp0:=hcore.e0 hd0
        subst hp0
        have h14:b14=false:=Bool.eq_false_iff.2 (fun h=>absurd (hx.symm.trans ((hcore.o14 h).1)) (by decide))
        have hW:=hcore.wa h14
        obtain ⟨r,r',n1,f0,f1,f2⟩:=xU HBOX W hW
        clear hx hd0 h14 hW
        go_simp
        refine ⟨b0,true,b2,b3,b4,b5,b6,b7,b8,b9,b10,b11,b12,b13,b14,b15,b16,_,_,s19,s20,s21,s22,s23,s24,s25,s26,s27,s28,s29,s30,s31,s32,rfl,rfl,?_⟩
        exact ⟨hcore.e0,(fun _=>rfl),hcore.e2,hcore.e3,hcore.e4,hcore.e5,hcore.e6,hcore.e7,hcore.e8,hcore.e9,hcore.e10,hcore.e11,hcore.e12,hcore.e13,hcore.e14,hcore.e15,hcore.e16,hcore.wa,hcore.o10,hcore.o11,hcore.o12,hcore.o13,(fun h=>⟨rfl,(hcore.o14 h).2.1,(hcore.o14 h).2.2⟩),hcore.o16⟩
      · simp [Region.binds] at hi2
        unfold wpOp
        simp only [List.getElem?_toArray,List.getElem?_cons_zero,List.getElem?_cons_succ]
        rw [if_pos (by simp [Region.wanted])]
        refine Or.inl ?_
        have hx:=hi2;clear hi2
        clear hx
        go_simp
        refine ⟨b0,b1,true,b3,b4,b5,b6,b7,b8,b9,b10,b11,b12,b13,b14,b15,b16,s17,s18,_,s20,s21,s22,s23,s24,s25,s26,s27,s28,s29,s30,s31,s32,rfl,rfl,?_⟩
        exact ⟨hcore.e0,hcore.e1,(fun _=>rfl),hcore.e3,hcore.e4,hcore.e5,hcore.e6,hcore.e7,hcore.e8,hcore.e9,hcore.e10,hcore.e11,hcore.e12,hcore.e13,hcore.e14,hcore.e15,hcore.e16,hcore.wa,hcore.o10,hcore.o11,hcore.o12,hcore.o13,hcore.o14,hcore.o16⟩
      · simp [Region.binds] at hi2
        unfold wpOp
        simp only [List.getElem?_toArray,List.getElem?_cons_zero,List.getElem?_cons_succ]
        rw [if_pos (by simp [Region.wanted])]
        refine Or.inl ?_
        obtain ⟨hx,hd0⟩:=hi2
        have hp0:=hcore.e2 hd0
        subst hp0
        have h14:b14=false:=Bool.eq_false_iff.2 (fun h=>absurd (hx.symm.trans ((hcore.o11 (hcore.o12 (hcore.o13 (hcore.o14 h).2.1))).1)) (by decide))
        have hW:=hcore.wa h14
        obtain ⟨r,r',n1,f0,f1,f2⟩:=xU HBOX W hW
        clear hx hd0 h14 hW
        go_simp
        refine ⟨b0,b1,b2,true,b4,b5,b6,b7,b8,b9,b10,b11,b12,b13,b14,b15,b16,s17,s18,_,_,s21,s22,s23,s24,s25,s26,s27,s28,s29,s30,s31,s32,rfl,rfl,?_⟩
        exact ⟨hcore.e0,hcore.e1,hcore.e2,(fun _=>rfl),hcore.e4,hcore.e5,hcore.e6,hcore.e7,hcore.e8,hcore.e9,hcore.e10,hcore.e11,hcore.e12,hcore.e13,hcore.e14,hcore.e15,hcore.e16,hcore.wa,hcore.o10,(fun h=>⟨rfl,(hcore.o11 h).2⟩),hcore.o12,hcore.o13,hcore.o14,hcore.o16⟩
      · simp [Region.binds] at hi2
        unfold wpOp
        simp only [List.getElem?_toArray,List.getElem?_cons_zero,List.getElem?_cons_succ]
        rw [if_pos (by simp [Region.wanted])]
        refine Or.inl ?_
        have hx:=hi2;clear hi2
        clear hx
        go_simp
        refine ⟨b0,b1,b2,b3,true,b5,b6,b7,b8,b9,b10,b11,b12,b13,b14,b15,b16,s17,s18,s19,s20,_,s22,s23,s24,s25,s26,s27,s28,s29,s30,s31,s32,rfl,rfl,?_⟩
        exact ⟨hcore.e0,hcore.e1,hcore.e2,hcore.e3,(fun _=>rfl),hcore.e5,hcore.e6,hcore.e7,hcore.e8,hcore.e9,hcore.e10,hcore.e11,hcore.e12,hcore.e13,hcore.e14,hcore.e15,hcore.e16,hcore.wa,hcore.o10,hcore.o11,hcore.o12,hcore.o13,hcore.o14,hcore.o16⟩
      · simp [Region.binds] at hi2
        unfold wpOp
        simp only [List.getElem?_toArray,List.getElem?_cons_zero,List.getElem?_cons_succ]
        rw [if_pos (by simp [Region.wanted])]
        refine Or.inl ?_
        obtain ⟨hx,hd0⟩:=hi2
        have hp0:=hcore.e4 hd0
        subst hp0
        have h14:b14=false:=Bool.eq_false_iff.2 (fun h=>absurd (hx.symm.trans ((hcore.o10 (hcore.o14 h).2.2).1)) (by decide))
        have hW:=hcore.wa h14
        obtain ⟨r,r',n1,f0,f1,f2⟩:=xU HBOX W hW
        clear hx hd0 h14 hW
        go_simp
        refine ⟨b0,b1,b2,b3,b4,true,b6,b7,b8,b9,b10,b11,b12,b13,b14,b15,b16,s17,s18,s19,s20,_,_,s23,s24,s25,s26,s27,s28,s29,s30,s31,s32,rfl,rfl,?_⟩
        exact ⟨hcore.e0,hcore.e1,hcore.e2,hcore.e3,hcore.e4,(fun _=>rfl),hcore.e6,hcore.e7,hcore.e8,hcore.e9,hcore.e10,hcore.e11,hcore.e12,hcore.e13,hcore.e14,hcore.e15,hcore.e16,hcore.wa,(fun h=>⟨rfl,(hcore.o10 h).2⟩),hcore.o11,hcore.o12,hcore.o13,hcore.o14,hcore.o16⟩
      · simp [Region.binds] at hi2
        unfold wpOp
        simp only [List.getElem?_toArray,List.getElem?_cons_zero,List.getElem?_cons_succ]
        rw [if_pos (by simp [Region.wanted])]
        refine Or.inl ?_
        have hx:=hi2;clear hi2
        clear hx
        go_simp
        refine ⟨b0,b1,b2,b3,b4,b5,true,b7,b8,b9,b10,b11,b12,b13,b14,b15,b16,s17,s18,s19,s20,s21,s22,_,s24,s25,s26,s27,s28,s29,s30,s31,s32,rfl,rfl,?_⟩
        exact ⟨hcore.e0,hcore.e1,hcore.e2,hcore.e3,hcore.e4,hcore.e5,(fun _=>rfl),hcore.e7,hcore.e8,hcore.e9,hcore.e10,hcore.e11,hcore.e12,hcore.e13,hcore.e14,hcore.e15,hcore.e16,hcore.wa,hcore.o10,hcore.o11,hcore.o12,hcore.o13,hcore.o14,hcore.o16⟩
      · simp [Region.binds] at hi2
        unfold wpOp
        simp only [List.getElem?_toArray,List.getElem?_cons_zero,List.getElem?_cons_succ]
        rw [if_pos (by simp [Region.wanted])]
        refine Or.inl ?_
        have hx:=hi2;clear hi2
        clear hx
        go_simp
        refine ⟨b0,b1,b2,b3,b4,b5,b6,true,b8,b9,b10,b11,b12,b13,b14,b15,b16,s17,s18,s19,s20,s21,s22,s23,_,s25,s26,s27,s28,s29,s30,s31,s32,rfl,rfl,?_⟩
        exact ⟨hcore.e0,hcore.e1,hcore.e2,hcore.e3,hcore.e4,hcore.e5,hcore.e6,(fun _=>rfl),hcore.e8,hcore.e9,hcore.e10,hcore.e11,hcore.e12,hcore.e13,hcore.e14,hcore.e15,hcore.e16,hcore.wa,hcore.o10,hcore.o11,hcore.o12,hcore.o13,hcore.o14,hcore.o16⟩
      · simp [Region.binds] at hi2
        unfold wpOp
        simp only [List.getElem?_toArray,List.getElem?_cons_zero,List.getElem?_cons_succ]
        rw [if_pos (by simp [Region.wanted])]
        refine Or.inl ?_
        obtain ⟨hx,hd0,hd1⟩:=hi2
        have hp0:=hcore.e6 hd0
        subst hp0
        have hp1:=hcore.e7 hd1
        subst hp1
        clear hx hd0 hd1
        go_simp
        refine ⟨b0,b1,b2,b3,b4,b5,b6,b7,true,b9,b10,b11,b12,b13,b14,b15,b16,s17,s18,s19,s20,s21,s22,_,_,_,s26,s27,s28,s29,s30,s31,s32,rfl,rfl,?_⟩
        exact ⟨hcore.e0,hcore.e1,hcore.e2,hcore.e3,hcore.e4,hcore.e5,hcore.e6,hcore.e7,(fun _=>rfl),hcore.e9,hcore.e10,hcore.e11,hcore.e12,hcore.e13,hcore.e14,hcore.e15,hcore.e16,hcore.wa,hcore.o10,hcore.o11,hcore.o12,hcore.o13,hcore.o14,hcore.o16⟩
      · simp [Region.binds] at hi2
        unfold wpOp
        simp only [List.getElem?_toArray,List.getElem?_cons_zero,List.getElem?_cons_succ]
        rw [if_pos (by simp [Region.wanted])]
        refine Or.inl ?_
        obtain ⟨hx,hd0⟩:=hi2
        have hp0:=hcore.e8 hd0
        subst hp0
        have h14:b14=false:=Bool.eq_false_iff.2 (fun h=>absurd (hx.symm.trans ((hcore.o10 (hcore.o14 h).2.2).2)) (by decide))
        have hW:=hcore.wa h14
        obtain ⟨r,r',n1,f0,f1,f2⟩:=xU HBOX W hW
        clear hx hd0 h14 hW
        go_simp
        refine ⟨b0,b1,b2,b3,b4,b5,b6,b7,b8,true,b10,b11,b12,b13,b14,b15,b16,s17,s18,s19,s20,s21,s22,s23,s24,_,_,s27,s28,s29,s30,s31,s32,rfl,rfl,?_⟩
        exact ⟨hcore.e0,hcore.e1,hcore.e2,hcore.e3,hcore.e4,hcore.e5,hcore.e6,hcore.e7,hcore.e8,(fun _=>rfl),hcore.e10,hcore.e11,hcore.e12,hcore.e13,hcore.e14,hcore.e15,hcore.e16,hcore.wa,(fun h=>⟨(hcore.o10 h).1,rfl⟩),hcore.o11,hcore.o12,hcore.o13,hcore.o14,hcore.o16⟩
      · simp [Region.binds] at hi2
        unfold wpOp
        simp only [List.getElem?_toArray,List.getElem?_cons_zero,List.getElem?_cons_succ]
        rw [if_pos (by simp [Region.wanted])]
        refine Or.inl ?_
        obtain ⟨hx,hd0,hd1⟩:=hi2
        have hp0:=hcore.e5 hd0
        subst hp0
        have hp1:=hcore.e9 hd1
        subst hp1
        have h14:b14=false:=Bool.eq_false_iff.2 (fun h=>absurd (hx.symm.trans ((hcore.o14 h).2.2)) (by decide))
        have hW:=hcore.wa h14
        have X0:=xH hd0
        have X1:=xH hd1
        have XW:=xH hW;have X14:=xH h14;have hfi:=xU HFI
        clear hx hd0 hd1 h14 hW
        go_simp
        go_at_call 27
        refine (xU HFIND W (xU XW)).mono ?_
        rintro e9 w9 ⟨rfl,rfl⟩
        rw [hfi]
        clear hfi
        go_simp
        refine ⟨b0,b1,b2,b3,b4,b5,b6,b7,b8,b9,true,b11,b12,b13,b14,b15,b16,s17,s18,s19,s20,s21,_,s23,s24,s25,_,_,s28,s29,s30,s31,s32,rfl,rfl,?_⟩
        exact ⟨hcore.e0,hcore.e1,hcore.e2,hcore.e3,hcore.e4,hcore.e5,hcore.e6,hcore.e7,hcore.e8,hcore.e9,(fun _=>rfl),hcore.e11,hcore.e12,hcore.e13,hcore.e14,hcore.e15,hcore.e16,hcore.wa,(fun _=>⟨xU X0,xU X1⟩),(fun h=>⟨(hcore.o11 h).1,rfl⟩),hcore.o12,hcore.o13,(fun h=>⟨(hcore.o14 h).1,(hcore.o14 h).2.1,rfl⟩),hcore.o16⟩
      · simp [Region.binds] at hi2
        unfold wpOp
        simp only [List.getElem?_toArray,List.getElem?_cons_zero,List.getElem?_cons_succ]
        rw [if_pos (by simp [Region.wanted])]
        refine Or.inl ?_
        obtain ⟨hx,hd0,hd1⟩:=hi2
        have hp0:=hcore.e3 hd0
        subst hp0
        have hp1:=hcore.e10 hd1
        subst hp1
        have X0:=xH hd0
        have X1:=xH hd1
        clear hx hd0 hd1
        go_simp
        refine ⟨b0,b1,b2,b3,b4,b5,b6,b7,b8,b9,b10,true,b12,b13,b14,b15,b16,s17,s18,s19,_,s21,s22,s23,s24,s25,s26,_,_,s29,s30,s31,s32,rfl,rfl,?_⟩
        exact ⟨hcore.e0,hcore.e1,hcore.e2,hcore.e3,hcore.e4,hcore.e5,hcore.e6,hcore.e7,hcore.e8,hcore.e9,hcore.e10,(fun _=>rfl),hcore.e12,hcore.e13,hcore.e14,hcore.e15,hcore.e16,hcore.wa,hcore.o10,(fun _=>⟨xU X0,xU X1⟩),(fun h=>rfl),hcore.o13,hcore.o14,hcore.o16⟩
      · simp [Region.binds] at hi2
        unfold wpOp
        simp only [List.getElem?_toArray,List.getElem?_cons_zero,List.getElem?_cons_succ]
        rw [if_pos (by simp [Region.wanted])]
        refine Or.inl ?_
        obtain ⟨hx,hd0⟩:=hi2
        have hp0:=hcore.e11 hd0
        subst hp0
        have h14:b14=false:=Bool.eq_false_iff.2 (fun h=>absurd (hx.symm.trans (hcore.o13 (hcore.o14 h).2.1)) (by decide))
        have hW:=hcore.wa h14
        obtain ⟨r,r',n1,f0,f1,f2⟩:=xU HBOX W hW
        have X0:=xH hd0
        clear hx hd0 h14 hW
        go_simp
        refine ⟨b0,b1,b2,b3,b4,b5,b6,b7,b8,b9,b10,b11,true,b13,b14,b15,b16,s17,s18,s19,s20,s21,s22,s23,s24,s25,s26,s27,_,_,s30,s31,s32,rfl,rfl,?_⟩
        exact ⟨hcore.e0,hcore.e1,hcore.e2,hcore.e3,hcore.e4,hcore.e5,hcore.e6,hcore.e7,hcore.e8,hcore.e9,hcore.e10,hcore.e11,(fun _=>rfl),hcore.e13,hcore.e14,hcore.e15,hcore.e16,hcore.wa,hcore.o10,hcore.o11,(fun _=>xU X0),(fun h=>rfl),hcore.o14,hcore.o16⟩
      · simp [Region.binds] at hi2
        unfold wpOp
        simp only [List.getElem?_toArray,List.getElem?_cons_zero,List.getElem?_cons_succ]
        rw [if_pos (by simp [Region.wanted])]
        refine Or.inl ?_
        obtain ⟨hx,hd0⟩:=hi2
        have hp0:=hcore.e12 hd0
        subst hp0
        have h14:b14=false:=Bool.eq_false_iff.2 (fun h=>absurd (hx.symm.trans ((hcore.o14 h).2.1)) (by decide))
        have hW:=hcore.wa h14
        have X0:=xH hd0
        have XW:=xH hW;have X14:=xH h14
        clear hx hd0 h14 hW
        go_simp
        refine ⟨b0,b1,b2,b3,b4,b5,b6,b7,b8,b9,b10,b11,b12,true,b14,b15,b16,s17,s18,s19,s20,s21,s22,s23,s24,s25,s26,s27,s28,_,_,s31,s32,rfl,rfl,?_⟩
        exact ⟨hcore.e0,hcore.e1,hcore.e2,hcore.e3,hcore.e4,hcore.e5,hcore.e6,hcore.e7,hcore.e8,hcore.e9,hcore.e10,hcore.e11,hcore.e12,(fun _ _=>⟨W.heap.size,rfl,cell_3 W _ _ _ _⟩),(fun h=>absurd ((xU X14).symm.trans h) (by decide)),hcore.e15,(fun h=>absurd ((xU X14).symm.trans (hcore.o16 h)) (by decide)),(fun _=>(xU XW).alloc (xU XW).size _),hcore.o10,hcore.o11,hcore.o12,(fun _=>xU X0),(fun h=>⟨(hcore.o14 h).1,rfl,(hcore.o14 h).2.2⟩),hcore.o16⟩
      · simp [Region.binds] at hi2
        unfold wpOp
        simp only [List.getElem?_toArray,List.getElem?_cons_zero,List.getElem?_cons_succ]
        rw [if_pos (by simp [Region.wanted])]
        refine Or.inl ?_
        obtain ⟨hx,hd0,hd1,hd2⟩:=hi2
        have hW:=hcore.wa hx
        have hp0:=hcore.e1 hd0
        subst hp0
        obtain ⟨g7,hp1,hc7⟩:=hcore.e13 hd1 hx
        subst hp1
        have hk:=(xU HS).keep hW
        have hof:=hk.of
        rw [xU HLF] at hof
        refine wp_appD W _ _ 23 rfl (w.heap.size+2) 44 j3 (.agg #[.string ByteArray.empty,.string ByteArray.empty,.int .i64 0]) 3 40 Try.underlying23 (xU HJ3) (xU HW0) (xU HW1) (xU HW2) rfl (by decide) (.slice af k cf) k _ rfl hof ⟨g7,0,none⟩ 1 1 d.files[i].cs rfl rfl hc7 (fun u hu=>by simp [Df.cs] at hu;rcases hu with rfl | rfl | rfl <;> rfl) (by decide) (by unfold maxLen;omega) (by omega) (by have:=hW.size;omega) (fun g9 cap9 W9 hown9 hgr=>?_)
        refine ⟨b0,b1,b2,b3,b4,b5,b6,b7,b8,b9,b10,b11,b12,b13,true,b15,b16,s17,_,s19,s20,s21,s22,s23,s24,s25,s26,s27,s28,s29,_,_,s32,rfl,rfl,?_⟩
        exact ⟨hcore.e0,hcore.e1,hcore.e2,hcore.e3,hcore.e4,hcore.e5,hcore.e6,hcore.e7,hcore.e8,hcore.e9,hcore.e10,hcore.e11,hcore.e12,(fun _ h=>nomatch h),(fun _ _=>⟨g9,cap9,W,rfl,hown9,hW,hgr⟩),hcore.e15,(fun h=>absurd (hx.symm.trans (hcore.o16 h)) (by decide)),(fun h=>nomatch h),hcore.o10,hcore.o11,hcore.o12,hcore.o13,(fun _=>⟨hd0,hd1,hd2⟩),(fun _=>rfl)⟩
      · simp [Region.binds] at hi2
        unfold wpOp
        simp only [List.getElem?_toArray,List.getElem?_cons_zero,List.getElem?_cons_succ]
        rw [if_pos (by simp [Region.wanted])]
        refine Or.inl ?_
        obtain ⟨hx,-⟩:=hi2
        clear hx
        go_simp
        refine ⟨b0,b1,b2,b3,b4,b5,b6,b7,b8,b9,b10,b11,b12,b13,b14,true,b16,s17,s18,s19,s20,s21,s22,s23,s24,s25,s26,s27,s28,s29,s30,s31,_,rfl,rfl,?_⟩
        exact ⟨hcore.e0,hcore.e1,hcore.e2,hcore.e3,hcore.e4,hcore.e5,hcore.e6,hcore.e7,hcore.e8,hcore.e9,hcore.e10,hcore.e11,hcore.e12,hcore.e13,hcore.e14,(fun _=>rfl),hcore.e16,hcore.wa,hcore.o10,hcore.o11,hcore.o12,hcore.o13,hcore.o14,hcore.o16⟩
      · simp [Region.binds] at hi2
        unfold wpOp
        simp only [List.getElem?_toArray,List.getElem?_cons_zero,List.getElem?_cons_succ]
        rw [if_pos (by simp [Region.wanted])]
        refine Or.inl ?_
        obtain ⟨hx,hd1,hd2,-⟩:=hi2
        have hp0:=hcore.e15 hd1
        subst hp0
        obtain ⟨g7,cap7,W1,hp1,hown7,hW1,hgr7⟩:=hcore.e14 hd2 hx
        subst hp1
        have hk:=(xU HS).keep hW1
        have hgw:=hk.grown d.files[i] (vf':=.slice (some ⟨g7,0,none⟩) (k+1) cap7) (by rw [xU HLF];exact hown7) hgr7
        have y0:=hgw.1.cell (i:=0) (by omega)
        have z:=hgw.1.frozen
        simp only [row3] at y0
        have hB7:Below (w.heap.size+2) W0 (W.setCell ⟨w2.heap.size,0,none⟩ (.slice (some ⟨g7,0,none⟩) (k+1) cap7)):=(below_grown (by have:=hW1.size;omega) (HB.out.trans (hW1.mono hbs)) hgr7 (fun y e=>(hk.of.lt y e).1)).setCell (by simp;omega) _
        have HG7:=xH hgw.2;have HB7:=xH hB7;have X2:=xH hd2;have X14:=xH (show b14=true from hd2)
        clear hx hd1 hd2 hgw hk hgr7 hown7 hB7 hW1
        go_simp
        refine ⟨b0,b1,b2,b3,b4,b5,b6,b7,b8,b9,b10,b11,b12,b13,b14,b15,true,s17,s18,s19,s20,s21,s22,s23,s24,s25,s26,s27,s28,s29,s30,_,_,rfl,rfl,?_⟩
        exact ⟨hcore.e0,hcore.e1,hcore.e2,hcore.e3,hcore.e4,hcore.e5,hcore.e6,hcore.e7,hcore.e8,hcore.e9,hcore.e10,hcore.e11,hcore.e12,(fun _ h=>absurd (h.symm.trans (xU X14)) (by decide)),(fun _ h=>nomatch h),hcore.e15,(fun _=>⟨g7,cap7,xU HG7,xU HB7⟩),(fun h=>absurd (h.symm.trans (xU X14)) (by decide)),hcore.o10,hcore.o11,hcore.o12,hcore.o13,hcore.o14,(fun _=>xU X2)⟩

def mixL (fs:List Df) (zs:List Int) (k:Nat):List Df:=fs.mapIdx (fun j f=>if j < k then cutF f (zs.getD j 0) else f)
theorem mixL_len (fs:List Df) (zs:List Int) (k:Nat):(mixL fs zs k).length=fs.length:=by simp [mixL]
theorem mixL_get (fs:List Df) (zs:List Int) (k j:Nat) (h:j < fs.length):(mixL fs zs k)[j]'(by rw [mixL_len];exact h)=if j < k then cutF fs[j] (zs.getD j 0) else fs[j]:=by simp [mixL]
theorem mixL_zero (fs:List Df) (zs:List Int):mixL fs zs 0=fs:=by
 refine List.ext_getElem (mixL_len _ _ _) (fun j h1 h2=>?_)
 rw [mixL_get _ _ _ _ h2];simp
theorem mixL_succ (fs:List Df) (zs:List Int) (k:Nat) (h:k < fs.length):mixL fs zs (k+1)=(mixL fs zs k).set k (cutF fs[k] (zs.getD k 0)):=by
 refine List.ext_getElem (by simp [mixL_len]) (fun j h1 h2=>?_)
 have hj:j < fs.length:=by rw [mixL_len] at h1;exact h1
 rw [mixL_get _ _ _ _ hj,List.getElem_set]
 by_cases e:k=j
 · subst e;simp
 · rw [if_neg e,mixL_get _ _ _ _ hj]
   by_cases hk:j < k
   · rw [if_pos hk,if_pos (by omega)]
   · rw [if_neg hk,if_neg (by omega)]
theorem mixL_all (fs:List Df) (zs:List Int) (j:Nat) (h:j < fs.length):(mixL fs zs fs.length)[j]'(by rw [mixL_len];exact h)=cutF fs[j] (zs.getD j 0):=by rw [mixL_get _ _ _ _ h,if_pos h]
theorem flat_set3:∀ (fs:List Df) (k:Nat) (f:Df),(h:k < fs.length)→fs[k].name=f.name→(((fs.map Df.cs).flatten).set (k * 3+1) (.string f.data)).set (k * 3+2) (.int .i64 f.kept)=((fs.set k f).map Df.cs).flatten
 | a::r,0,f,_,hn=>by
   simp only [List.getElem_cons_zero] at hn
   simp [Df.cs,hn]
 | a::r,k+1,f,h,hn=>by
   have ih:=flat_set3 r k f (by simpa using h) (by simpa using hn)
   simp only [List.map_cons,List.flatten_cons,List.set_cons_succ,Df.cs] at ih ⊢
   rw [← ih]
   rw [show (k+1) * 3+1=(k * 3+1)+3 by omega,show (k+1) * 3+2=(k * 3+2)+3 by omega]
   simp only [List.cons_append,List.nil_append,List.set_cons_succ]
theorem extract_more (b:ByteArray) (k m:Nat) (hm:k+m≤b.size):b.extract 0 k++(b.extract k b.size).extract 0 m=b.extract 0 (k+m):=by
 rw [ByteArray.extract_extract]
 rw [show min (k+m) b.size=k+m by omega,Nat.add_zero]
 rw [ByteArray.extract_append_extract]
 congr 1 <;> omega
theorem cutB_eq (f:Df) (n:Int) (h:0≤f.kept∧f.kept≤f.data.size):cutB f n=f.data.extract 0 (f.kept.toNat+moreN f n):=by
 unfold cutB
 exact extract_more _ _ _ (by unfold moreN;omega)
theorem cutB_sz (f:Df) (n:Int) (h:0≤f.kept∧f.kept≤f.data.size):((cutB f n).size:Int)=f.kept+moreN f n:=by
 rw [cutB_eq f n h,ByteArray.size_extract]
 unfold moreN;omega
theorem findF_names (fs gs:List Df) (x:ByteArray) (hl:fs.length=gs.length) (h:∀ j (h1:j < fs.length) (h2:j < gs.length),fs[j].name=gs[j].name):findF fs x=findF gs x:=by
 unfold findF
 have:fs.findIdx? (fun f=>sameB f.name x)=gs.findIdx? (fun f=>sameB f.name x):=by
  have e:fs.map Df.name=gs.map Df.name:=List.ext_getElem (by simp [hl]) (fun j h1 h2=>by simp at h1 h2;simp [h j h1 h2])
  have q:∀ (l:List Df),l.findIdx? (fun f=>sameB f.name x)=(l.map Df.name).findIdx? (fun y=>sameB y x):=fun l=>by rw [List.findIdx?_map];rfl
  rw [q,q,e]
 rw [this]
theorem findF_mix (fs:List Df) (zs:List Int) (k:Nat) (x:ByteArray):findF (mixL fs zs k) x=findF fs x :=
 findF_names _ _ x (mixL_len _ _ _) (fun j h1 h2=>by rw [mixL_get _ _ _ _ h2];by_cases h:j < k <;> simp [h,cutF])
theorem keepD_mix {d:Dk} (h:DkOkS d) (m:Int) (zs:List Int):keepD ⟨mixL d.files zs d.files.length,d.names,d.moves⟩ (cutN d m)=cutD d m zs:=by
 rw [cutD_ok h]
 unfold keepD
 congr 1
 refine List.map_congr_left (fun x hx=>?_)
 obtain ⟨i,hi,he,hf⟩:=(cutN_facts h m).2.2 x hx
 rw [fileD_at (d:=⟨mixL d.files zs d.files.length,d.names,d.moves⟩) (i:=i) (by simp only [mixL_len];exact hi) (by rw [findF_mix];exact hf)]
 unfold cutX
 rw [fileD_at hi hf,hf]
 exact mixL_all _ _ _ hi
end Go.Proofs.Yteikmbkljkkjiaa
