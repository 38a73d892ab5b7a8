/- A part. -/
import Derived.Test.YteikmbkljkkjiaaSart25
import Derived.Test.YteikmbkljkkjiaaSart28
namespace Go.Proofs.Yteikmbkljkkjiaa
open Go Go.RowKit
set_option maxRecDepth 100000
set_option maxHeartbeats 12800000
theorem strs_ok8 {P:Nat→Prop} {w:World} {v:Value} {ss:List ByteArray} (h:StrsAt P w v ss):∀ x,x∈ss→x.size≤9223372036854775807:=fun x hx=>by
 obtain ⟨a,cap,-,-,h2⟩:=h
 obtain ⟨i,hi,rfl⟩:=List.getElem_of_mem hx
 obtain ⟨_,_,_,_,_,h3⟩:=h2 i hi
 exact h3
theorem SpS.start {R:Nat} {w W2:World} {v:Value} {b:List UInt8} {p:Nat} {d:Dk} {c c':C3} (h:DR R w v b p) (hb:Below ((w.alloc (.cells #[c.c0,c.c1,c.c2] 27)).alloc (.cells #[.slice none 0 0,.slice none 0 0,.slice none 0 0] 27)).heap.size ((w.alloc (.cells #[c.c0,c.c1,c.c2] 27)).alloc (.cells #[.slice none 0 0,.slice none 0 0,.slice none 0 0] 27)) W2)
 (o0:W2.ownsRow ((w.alloc (.cells #[c.c0,c.c1,c.c2] 27)).alloc (.cells #[.slice none 0 0,.slice none 0 0,.slice none 0 0] 27)).heap.size 44 3 c'.c0 d.files.length (d.files.map Df.cs).flatten) (o1:W2.ownsRow ((w.alloc (.cells #[c.c0,c.c1,c.c2] 27)).alloc (.cells #[.slice none 0 0,.slice none 0 0,.slice none 0 0] 27)).heap.size 9 1 c'.c1 d.names.length (d.names.map Value.string)) (o2:W2.ownsRow ((w.alloc (.cells #[c.c0,c.c1,c.c2] 27)).alloc (.cells #[.slice none 0 0,.slice none 0 0,.slice none 0 0] 27)).heap.size 60 2 c'.c2 d.moves.length (d.moves.map Dm.cs).flatten)
 (hf:∀ f,f∈d.files→f.okM) (hn:∀ x,x∈d.names→x.size≤9223372036854775807) (hm:∀ m,m∈d.moves→m.okM) :
 SpS R w ((((W2).setCell ⟨w.heap.size,0,none⟩ c'.c0).setCell ⟨w.heap.size,1,none⟩ c'.c1).setCell ⟨w.heap.size,2,none⟩ c'.c2) w.heap.size (w.heap.size+2) v b p c'.c0 c'.c1 c'.c2 d.files d.names d.moves:=by
 have e:((w.alloc (.cells #[c.c0,c.c1,c.c2] 27)).alloc (.cells #[.slice none 0 0,.slice none 0 0,.slice none 0 0] 27)).heap.size=w.heap.size+2:=by simp
 rw [e] at o0 o1 o2
 have hR:=h.cells.lt
 have hbw:Below w.heap.size w ((w.alloc (.cells #[c.c0,c.c1,c.c2] 27)).alloc (.cells #[.slice none 0 0,.slice none 0 0,.slice none 0 0] 27)):=((Below.refl _ _).alloc (Nat.le_refl _) _).alloc (by simp) _
 have hbw2:Below w.heap.size w W2:=hbw.trans (hb.mono hbw.size)
 have r3:((w.alloc (.cells #[c.c0,c.c1,c.c2] 27)).alloc (.cells #[.slice none 0 0,.slice none 0 0,.slice none 0 0] 27)).rowIs w.heap.size 27 3 (row3 c.c0 c.c1 c.c2):=(row3_alloc w _ _ _ _).alloc _
 have r4:((w.alloc (.cells #[c.c0,c.c1,c.c2] 27)).alloc (.cells #[.slice none 0 0,.slice none 0 0,.slice none 0 0] 27)).rowIs (w.heap.size+1) 27 3 (row3 (.slice none 0 0) (.slice none 0 0) (.slice none 0 0)):=by
  have:=row3_alloc (w.alloc (.cells #[c.c0,c.c1,c.c2] 27)) (.slice none 0 0) (.slice none 0 0) (.slice none 0 0) 27
  rw [World.size_alloc] at this
  exact this
 have r3':=r3.of_block (hb.block _ r3.lt)
 have r4':=r4.of_block (hb.block _ r4.lt)
 obtain ⟨s1,s2,s3,-⟩:=set3 W2 w.heap.size c'.c0 c'.c1 c'.c2
 have hs:∀ a,a≠w.heap.size→((((W2).setCell ⟨w.heap.size,0,none⟩ c'.c0).setCell ⟨w.heap.size,1,none⟩ c'.c1).setCell ⟨w.heap.size,2,none⟩ c'.c2).heap[a]? = W2.heap[a]? := s1
 exact ⟨hR,⟨Nat.le_refl _,by omega,by omega,Nat.le_refl _⟩,⟨s3 _ _ r3',ownsRow_keep o0 (fun g e=>hs g (by have:=(own_ge o0 e).1;omega)),ownsRow_keep o1 (fun g e=>hs g (by have:=(own_ge o1 e).1;omega)),ownsRow_keep o2 (fun g e=>hs g (by have:=(own_ge o2 e).1;omega))⟩,r4'.of_block (hs _ (by omega)),hf,hn,hm,((((h.on hbw2).set hR _ _).set hR _ _).set hR _ _),But.setNew8 (But.setNew8 (But.setNew8 (But.of_below hbw2) (Nat.le_refl _) _) (Nat.le_refl _) _) (Nat.le_refl _) _⟩
theorem SpS.done {R L base:Nat} {w W:World} {v:Value} {b:List UInt8} {q:Nat} {x0 x1 x2:Value} {fs:List Df} {ns:List ByteArray} {ms:List Dm} (h:SpS R w W L base v b q x0 x1 x2 fs ns ms) {p most:Nat} (hq:q≤p+most):SpE R w ((((W).setCell ⟨w.heap.size+1,0,none⟩ x0).setCell ⟨w.heap.size+1,1,none⟩ x1).setCell ⟨w.heap.size+1,2,none⟩ x2) v b p most (.returned (.agg #[x0,x1,x2])):=by
 have hR:=h.hR;have hL:=h.hL
 obtain ⟨s1,s2,-,-⟩:=set3 W (w.heap.size+1) x0 x1 x2
 have hk:∀ b,base≤b→((((W).setCell ⟨w.heap.size+1,0,none⟩ x0).setCell ⟨w.heap.size+1,1,none⟩ x1).setCell ⟨w.heap.size+1,2,none⟩ x2).heap[b]? = W.heap[b]? := fun b hb=>s1 b (by omega)
 have hz:((((W).setCell ⟨w.heap.size+1,0,none⟩ x0).setCell ⟨w.heap.size+1,1,none⟩ x1).setCell ⟨w.heap.size+1,2,none⟩ x2).heap.size=W.heap.size:=s2
 obtain ⟨F0,t1,t2,t3,-⟩:=FlatOwn.of_row (rs:=fs.map Df.cs) (n:=3) (by rw [List.length_map];exact h.mx.o0) (fun r hr=>by obtain ⟨f,-,rfl⟩:=List.mem_map.1 hr;rfl)
 obtain ⟨F2,r1,r2,r3,-⟩:=FlatOwn.of_row (rs:=ms.map Dm.cs) (n:=2) (by rw [List.length_map];exact h.mx.o2) (fun r hr=>by obtain ⟨f,-,rfl⟩:=List.mem_map.1 hr;rfl)
 refine ⟨⟨fs,ns,ms⟩,⟨x0,x1,x2⟩,q,rfl,⟨⟨t1.at.carry (fun b hb=>hk b (t3 b hb).1) (fun b hb=>⟨by have:=(t3 b hb).1;omega,by rw [hz];exact (t3 b hb).2⟩),h.fo⟩,(strsAt_own h.mx.o1 h.no).carry (fun b hb=>hk b hb.1) (fun b hb=>⟨by have:=hb.1;omega,by rw [hz];exact hb.2⟩),⟨r1.at.carry (fun b hb=>hk b (r3 b hb).1) (fun b hb=>⟨by have:=(r3 b hb).1;omega,by rw [hz];exact (r3 b hb).2⟩),h.mo⟩⟩,hq,xH (((h.dr.set (by omega) _ _).set (by omega) _ _).set (by omega) _ _),xH (But.setNew8 (But.setNew8 (But.setNew8 h.but (by omega) _) (by omega) _) (by omega) _)⟩
theorem SpS.opn {R L base:Nat} {w W:World} {v:Value} {b:List UInt8} {q:Nat} {x0 x1 x2:Value} {fs:List Df} {ns:List ByteArray} {ms:List Dm} (h:SpS R w W L base v b q x0 x1 x2 fs ns ms):∃ a0 c0 a1 c1 a2 c2,x0=.slice a0 fs.length c0∧x1=.slice a1 ns.length c1∧x2=.slice a2 ms.length c2:=by
 obtain ⟨a0,c0,h0⟩:=own_form8 h.mx.o0
 obtain ⟨a1,c1,h1⟩:=own_form8 h.mx.o1
 obtain ⟨a2,c2,h2⟩:=own_form8 h.mx.o2
 exact ⟨a0,c0,a1,c1,a2,c2,h0,h1,h2⟩
theorem SpS.out0 {R L base:Nat} {w W:World} {v:Value} {b:List UInt8} {q:Nat} {x0 x1 x2:Value} {fs:List Df} {ns:List ByteArray} {ms:List Dm} (h:SpS R w W L base v b q x0 x1 x2 fs ns ms):SpS R w (W.alloc (.cells #[.slice none 0 0,.slice none 0 0,.slice none 0 0] 27)) W.heap.size (W.heap.size+1) v b q (.slice none 0 0) (.slice none 0 0) (.slice none 0 0) [] [] []:=by
 have hR:=h.hR;have hL:=h.hL;have h4:=h.b4.lt
 have h1:=h.on ((Below.refl W.heap.size W).alloc (Nat.le_refl _) (.cells #[.slice none 0 0,.slice none 0 0,.slice none 0 0] 27))
 exact ⟨hR,⟨by omega,by omega,by omega,by omega⟩,⟨row3_alloc W _ _ _ _,World.ownsRow_nil _ _ _ _,World.ownsRow_nil _ _ _ _,World.ownsRow_nil _ _ _ _⟩,h1.b4,fun _ h=>(by cases h),fun _ h=>(by cases h),fun _ h=>(by cases h),h1.dr,h1.but⟩
theorem SpS.one {R L base:Nat} {w W:World} {v:Value} {b:List UInt8} {q:Nat} {x0 x1 x2:Value} {fs:List Df} {ns:List ByteArray} {ms:List Dm} (h:SpS R w W L base v b q x0 x1 x2 fs ns ms) {p most:Nat} (hq:q≤p+most):SpE R w (((((W.alloc (.cells #[.string ⟨#[97]⟩] 9))).setCell ⟨w.heap.size+1,0,none⟩ (.slice none 0 0)).setCell ⟨w.heap.size+1,1,none⟩ (.slice (some ⟨W.heap.size,0,none⟩) 1 1)).setCell ⟨w.heap.size+1,2,none⟩ (.slice none 0 0)) v b p most (.returned (.agg #[.slice none 0 0,.slice (some ⟨W.heap.size,0,none⟩) 1 1,.slice none 0 0])):=by
 have hR:=h.hR;have hL:=h.hL;have h4:=h.b4.lt
 have h1:=h.on ((Below.refl W.heap.size W).alloc (Nat.le_refl _) (.cells #[.string ⟨#[97]⟩] 9))
 obtain ⟨s1,s2,-,-⟩:=set3 (W.alloc (.cells #[.string ⟨#[97]⟩] 9)) (w.heap.size+1) (.slice none 0 0) (.slice (some ⟨W.heap.size,0,none⟩) 1 1) (.slice none 0 0)
 have hs:∀ a,a≠w.heap.size+1→(((((W.alloc (.cells #[.string ⟨#[97]⟩] 9))).setCell ⟨w.heap.size+1,0,none⟩ (.slice none 0 0)).setCell ⟨w.heap.size+1,1,none⟩ (.slice (some ⟨W.heap.size,0,none⟩) 1 1)).setCell ⟨w.heap.size+1,2,none⟩ (.slice none 0 0)).heap[a]? = (W.alloc (.cells #[.string ⟨#[97]⟩] 9)).heap[a]? := s1
 have hz:(((((W.alloc (.cells #[.string ⟨#[97]⟩] 9))).setCell ⟨w.heap.size+1,0,none⟩ (.slice none 0 0)).setCell ⟨w.heap.size+1,1,none⟩ (.slice (some ⟨W.heap.size,0,none⟩) 1 1)).setCell ⟨w.heap.size+1,2,none⟩ (.slice none 0 0)).heap.size=(W.alloc (.cells #[.string ⟨#[97]⟩] 9)).heap.size:=s2
 rw [World.size_alloc] at hz
 refine ⟨⟨[],[⟨#[97]⟩],[]⟩,⟨(.slice none 0 0),(.slice (some ⟨W.heap.size,0,none⟩) 1 1),(.slice none 0 0)⟩,q,rfl,⟨⟨⟨none,0,rfl,by decide,fun i hi=>absurd hi (Nat.not_lt_zero i)⟩,fun _ h=>by cases h⟩,⟨some ⟨W.heap.size,0,none⟩,1,rfl,by decide,fun i hi=>?_⟩,⟨none,0,rfl,by decide,fun i hi=>absurd hi (Nat.not_lt_zero i)⟩,fun _ h=>by cases h⟩,hq,xH (((h1.dr.set (by omega) _ _).set (by omega) _ _).set (by omega) _ _),xH (But.setNew8 (But.setNew8 (But.setNew8 h1.but (by omega) _) (by omega) _) (by omega) _)⟩
 have hi0:i=0:=by simp only [List.length_cons,List.length_nil] at hi;omega
 subst hi0
 refine ⟨W.heap.size,0,rfl,⟨by show w.heap.size≤W.heap.size;omega,by rw [hz];exact Nat.lt_succ_self _⟩,?_,by show 1≤9223372036854775807;omega⟩
 rw [World.cell?_of_block (w:=(W.alloc (.cells #[.string ⟨#[97]⟩] 9))) (hs _ (by show W.heap.size+0≠_;omega))]
 simp [go_sem]
theorem l45Spoil_any (R:Nat) (w:World) (v:Value) (b:List UInt8) (p:Nat) (d:Dk) (c:C3) (P:Nat→Prop) (h:DR R w v b p) (hp:p≤50000) (hP:∀ b,P b→b < w.heap.size) (hd:DkAt P w d c) (hl:d.files.length≤1000∧d.names.length≤1000∧d.moves.length≤1000) (hsm:∀ f,f∈d.files→f.name.size≤1000∧f.data.size≤100000) :
 Calls Try.prog 50 #[.pointer (some ⟨R,0,none⟩),.agg #[c.c0,c.c1,c.c2]] w fun e w'=>SpE R w w' v b p 100 e:=by
 have HPK:=xH (fun (W:World) (q n:Nat) (hD:DR R W v b q) (hn:1≤n∧n≤1000000) (hq:q≤100000000)=>pick_any R W v b q n hD hn (by omega))
 have HSM:Hid (∀ f,f∈d.files→f.name.size≤1000∧f.data.size≤100000∧I64 f.kept):=xH (fun f hf=>⟨(hsm f hf).1,(hsm f hf).2,(hd.fs.2 f hf).2.2⟩)
 have HB1:Hid (Below w.heap.size w ((w.alloc (.cells #[c.c0,c.c1,c.c2] 27)).alloc (.cells #[.slice none 0 0,.slice none 0 0,.slice none 0 0] 27))):=xH (((Below.refl _ _).alloc (Nat.le_refl _) _).alloc (by simp) _)
 have HCP:=xH (l41Copy_any d P c ((w.alloc (.cells #[c.c0,c.c1,c.c2] 27)).alloc (.cells #[.slice none 0 0,.slice none 0 0,.slice none 0 0] 27)) (fun b hb=>Nat.lt_of_lt_of_le (hP b hb) HB1.out.size) (hd.carry (fun b hb=>HB1.out.block b (hP b hb)) (fun _ h=>h)) hl.1 hl.2.1 hl.2.2)
 have HST:=xH (fun (c':C3) (W2:World) (hb:Below ((w.alloc (.cells #[c.c0,c.c1,c.c2] 27)).alloc (.cells #[.slice none 0 0,.slice none 0 0,.slice none 0 0] 27)).heap.size ((w.alloc (.cells #[c.c0,c.c1,c.c2] 27)).alloc (.cells #[.slice none 0 0,.slice none 0 0,.slice none 0 0] 27)) W2) o0 o1 o2=>SpS.start (d:=d) (c:=c) (c':=c') h hb o0 o1 o2 hd.fs.2 (strs_ok8 hd.ns) hd.ms.2)
 have r3:((w.alloc (.cells #[c.c0,c.c1,c.c2] 27)).alloc (.cells #[.slice none 0 0,.slice none 0 0,.slice none 0 0] 27)).rowIs w.heap.size 27 3 (row3 c.c0 c.c1 c.c2):=(row3_alloc w _ _ _ _).alloc _
 obtain ⟨hl0,hl1,hl2⟩:=hl
 have HR3:=xH r3
 obtain ⟨c0,c1,c2⟩:=c
 obtain ⟨a0,p0,g0,-,-⟩:=hd.fs.open
 obtain ⟨a1,p1,g1,-,-⟩:=id hd.ns
 obtain ⟨a2,p2,g2,-,-⟩:=hd.ms.open
 simp only at g0 g1 g2
 subst g0 g1 g2
 clear h hd hP hsm r3
 go_enter Try.func50,Try.ntmps50
 go_upto_region 1 with fail
 simp only at HB1 HCP HST HR3 ⊢
 generalize ((w.alloc (.cells #[(.slice a0 d.files.length p0),(.slice a1 d.names.length p1),(.slice a2 d.moves.length p2)] 27)).alloc (.cells #[.slice none 0 0,.slice none 0 0,.slice none 0 0] 27))=WW at HB1 HCP HST HR3 ⊢
 obtain ⟨k0,k1,k2⟩:=cs3 HR3.out (by omega)
 simp only [row3] at k0 k1 k2
 go_wp2_with fail
 refine HCP.out.mono ?_
 rintro e w2 ⟨⟨u0,u1,u2⟩,rfl,o0,o1,o2,hb⟩
 obtain ⟨b0,q0,e0⟩:=own_form8 o0
 obtain ⟨b1,q1,e1⟩:=own_form8 o1
 obtain ⟨b2,q2,e2⟩:=own_form8 o2
 simp only at e0 e1 e2
 subst e0 e1 e2
 have HS0:=xH (HST.out ⟨.slice b0 d.files.length q0,.slice b1 d.names.length q1,.slice b2 d.moves.length q2⟩ w2 hb o0 o1 o2)
 have HR4:=HR3.out.of_block (hb.block _ HR3.out.lt)
 obtain ⟨k0,k1,k2⟩:=cs3 HR4 (by omega)
 have z:=HR4.frozen
 simp only [row3] at k0 k1 k2
 clear HCP HST HB1 o0 o1 o2 hb HR3 HR4
 go_upto_region 2 with fail
 obtain ⟨W3,hW3⟩:∃ W3,(((w2.setCell ⟨w.heap.size,0,none⟩ (.slice b0 d.files.length q0)).setCell ⟨w.heap.size,1,none⟩ (.slice b1 d.names.length q1)).setCell ⟨w.heap.size,2,none⟩ (.slice b2 d.moves.length q2))=W3:=⟨_,rfl⟩
 rw [hW3] at HS0 ⊢
 clear hW3 k0 k1 k2 z
 obtain ⟨l0,l1,l2⟩:=cs3 HS0.out.mx.row (by omega)
 have y0:=HS0.out.b4.cell (i:=0) (by omega);have y1:=HS0.out.b4.cell (i:=1) (by omega);have y2:=HS0.out.b4.cell (i:=2) (by omega)
 have z:=HS0.out.b4.frozen
 simp only [row3] at l0 l1 l2 y0 y1 y2
 by_cases hz0:d.files.length=0
 · as_aux_lemma =>
    rw [hz0] at HS0 l0 ⊢
    have HF:=xH (HS0.out.one (p:=p) (most:=100) (by omega))
    have HA:=HS0.out.on ((Below.refl W3.heap.size W3).alloc (Nat.le_refl _) (.cells #[.string ⟨#[97]⟩] 9))
    obtain ⟨v0,v1,v2⟩:=cs3 HA.b4 (by omega)
    have z2:=HA.b4.frozen
    simp only [row3] at v0 v1 v2
    clear HS0 HPK HSM HA
    go_wp2_with fail
    try simp only [Exit.inBlock,Exit.then]
    refine bodyPost_ret (v:=.agg #[.slice none 0 0,.slice (some ⟨W3.heap.size,0,none⟩) 1 1,.slice none 0 0]) (by simp [results,Try.results50,go_sem,v0,v1,v2]) rfl ?_
    exact xU HF
 have hX0:=HS0.out.mx.o0
 obtain ⟨gF,cF,hgF,-,-⟩:=hX0.form (by omega)
 injection hgF with hg1 hg2 hg3
 subst hg1 hg3
 clear hX0 hg2
 have hnz:((d.files.length:Int)==0)=false:=beq_eq_false_iff_ne.2 (by omega)
 have HP1:=xH (HPK.out W3 p d.files.length HS0.out.dr (by omega) (by omega))
 go_wp2_with fail
 refine HP1.out.mono ?_
 rintro e w3 ⟨i,rfl,hi,HDx,HBx⟩
 have HS1:=xH (HS0.out.draw HBx.out HDx.out)
 clear HP1 HS0 HDx HBx l0 l1 l2 y0 y1 y2 z
 have HP2:=xH (HPK.out w3 (p+1) 10 HS1.out.dr (by omega) (by omega))
 go_wp2_with fail
 refine HP2.out.mono ?_
 rintro e w4 ⟨r,rfl,hr,HDx,HBx⟩
 have HS:=xH (HS1.out.draw HBx.out HDx.out)
 clear HP2 HS1 HDx HBx
 by_cases s0:(r:Int)=0
 · as_aux_lemma =>
    have f0:((r:Int)==0)=true:=beq_iff_eq.2 s0
    go_upto_region 14 with fail
    refine wp_swap (c':=Code.region 14 sx14Ops true) (by kernel_rfl) ?_
    refine wp_region_noPanic ?_
    refine sx14 R gF q0 i (p+1+1) w v b (.slice b1 d.names.length q1) (.slice b2 d.moves.length q2) d.files d.names d.moves w4 _ (fun _ _ _ _ _ h=>h) (HS.out.on (Below.refl _ _).drew) hi HSM.out (by omega) HPK.out (by kernel_rfl) ?_
    intro u W f q' hnx hq9
    clear HS HPK
    refine NoPanic.normal ?_
    simp only [frL_eq,frG,List.lookup,Nat.reduceBEq,Nat.reduceAdd,Option.getD_some,Option.getD_none]
    obtain ⟨x0,x1,x2,fs9,ns9,ms9,HS9⟩:∃ x0 x1 x2 fs9 ns9 ms9,Hid (SpS R w W w.heap.size (w.heap.size+2) v b q' x0 x1 x2 fs9 ns9 ms9):=⟨_,_,_,_,_,_,hnx⟩
    clear hnx
    obtain ⟨a0,r0,a1,r1,a2,r2,g0,g1,g2⟩:=HS9.out.opn
    subst g0 g1 g2
    obtain ⟨l0,l1,l2⟩:=cs3 HS9.out.mx.row (by omega)
    have y0:=HS9.out.b4.cell (i:=0) (by omega);have y1:=HS9.out.b4.cell (i:=1) (by omega);have y2:=HS9.out.b4.cell (i:=2) (by omega)
    have z:=HS9.out.b4.frozen
    simp only [row3] at l0 l1 l2 y0 y1 y2
    have HF:=xH (HS9.out.done (p:=p) (most:=100) (by omega))
    clear HS9
    generalize List.length fs9=M0 at *
    generalize List.length ns9=M1 at *
    generalize List.length ms9=M2 at *
    go_wp2_with fail
    try simp only [Exit.inBlock,Exit.then]
    refine bodyPost_ret (v:=.agg #[.slice a0 M0 r0,.slice a1 M1 r1,.slice a2 M2 r2]) (by simp [results,Try.results50,go_sem,y0,y1,y2]) rfl ?_
    exact xU HF
 by_cases s1:(r:Int)=1
 · as_aux_lemma =>
    have f0:((r:Int)==0)=false:=beq_eq_false_iff_ne.2 s0
    have f1:((r:Int)==1)=true:=beq_iff_eq.2 s1
    go_upto_region 16 with fail
    refine wp_swap (c':=Code.region 16 sx16Ops true) (by kernel_rfl) ?_
    refine wp_region_noPanic ?_
    refine sx16 R gF q0 i (p+1+1) w v b (.slice b1 d.names.length q1) (.slice b2 d.moves.length q2) d.files d.names d.moves w4 _ (fun _ _ _ _ _ h=>h) (HS.out.on (Below.refl _ _).drew) hi HSM.out (by omega) (by kernel_rfl) ?_
    intro u W f q' hnx hq9
    clear HS HPK
    refine NoPanic.normal ?_
    simp only [frL_eq,frG,List.lookup,Nat.reduceBEq,Nat.reduceAdd,Option.getD_some,Option.getD_none]
    obtain ⟨x0,x1,x2,fs9,ns9,ms9,HS9⟩:∃ x0 x1 x2 fs9 ns9 ms9,Hid (SpS R w W w.heap.size (w.heap.size+2) v b q' x0 x1 x2 fs9 ns9 ms9):=⟨_,_,_,_,_,_,hnx⟩
    clear hnx
    obtain ⟨a0,r0,a1,r1,a2,r2,g0,g1,g2⟩:=HS9.out.opn
    subst g0 g1 g2
    obtain ⟨l0,l1,l2⟩:=cs3 HS9.out.mx.row (by omega)
    have y0:=HS9.out.b4.cell (i:=0) (by omega);have y1:=HS9.out.b4.cell (i:=1) (by omega);have y2:=HS9.out.b4.cell (i:=2) (by omega)
    have z:=HS9.out.b4.frozen
    simp only [row3] at l0 l1 l2 y0 y1 y2
    have HF:=xH (HS9.out.done (p:=p) (most:=100) (by omega))
    clear HS9
    generalize List.length fs9=M0 at *
    generalize List.length ns9=M1 at *
    generalize List.length ms9=M2 at *
    go_wp2_with fail
    try simp only [Exit.inBlock,Exit.then]
    refine bodyPost_ret (v:=.agg #[.slice a0 M0 r0,.slice a1 M1 r1,.slice a2 M2 r2]) (by simp [results,Try.results50,go_sem,y0,y1,y2]) rfl ?_
    exact xU HF
 by_cases s2:(r:Int)=2
 · as_aux_lemma =>
    have f0:((r:Int)==0)=false:=beq_eq_false_iff_ne.2 s0
    have f1:((r:Int)==1)=false:=beq_eq_false_iff_ne.2 s1
    have f2:((r:Int)==2)=true:=beq_iff_eq.2 s2
    go_upto_region 18 with fail
    refine wp_swap (c':=Code.region 18 sx18Ops true) (by kernel_rfl) ?_
    refine wp_region_noPanic ?_
    refine sx18 R gF q0 i (p+1+1) w v b b1 q1 (.slice b2 d.moves.length q2) d.files d.names d.moves w4 _ (fun _ _ _ _ _ h=>h) (HS.out.on (Below.refl _ _).drew) hi HSM.out (by omega) (by omega) (by kernel_rfl) ?_
    intro u W y1 ns' q' hnx hq9
    clear HS HPK
    refine NoPanic.normal ?_
    simp only [frL_eq,frG,List.lookup,Nat.reduceBEq,Nat.reduceAdd,Option.getD_some,Option.getD_none]
    obtain ⟨x0,x1,x2,fs9,ns9,ms9,HS9⟩:∃ x0 x1 x2 fs9 ns9 ms9,Hid (SpS R w W w.heap.size (w.heap.size+2) v b q' x0 x1 x2 fs9 ns9 ms9):=⟨_,_,_,_,_,_,hnx⟩
    clear hnx
    obtain ⟨a0,r0,a1,r1,a2,r2,g0,g1,g2⟩:=HS9.out.opn
    subst g0 g1 g2
    obtain ⟨l0,l1,l2⟩:=cs3 HS9.out.mx.row (by omega)
    have y0:=HS9.out.b4.cell (i:=0) (by omega);have y1:=HS9.out.b4.cell (i:=1) (by omega);have y2:=HS9.out.b4.cell (i:=2) (by omega)
    have z:=HS9.out.b4.frozen
    simp only [row3] at l0 l1 l2 y0 y1 y2
    have HF:=xH (HS9.out.done (p:=p) (most:=100) (by omega))
    clear HS9
    generalize List.length fs9=M0 at *
    generalize List.length ns9=M1 at *
    generalize List.length ms9=M2 at *
    go_wp2_with fail
    try simp only [Exit.inBlock,Exit.then]
    refine bodyPost_ret (v:=.agg #[.slice a0 M0 r0,.slice a1 M1 r1,.slice a2 M2 r2]) (by simp [results,Try.results50,go_sem,y0,y1,y2]) rfl ?_
    exact xU HF
 by_cases s3:(r:Int)=3
 · as_aux_lemma =>
    have f0:((r:Int)==0)=false:=beq_eq_false_iff_ne.2 s0
    have f1:((r:Int)==1)=false:=beq_eq_false_iff_ne.2 s1
    have f2:((r:Int)==2)=false:=beq_eq_false_iff_ne.2 s2
    have f3:((r:Int)==3)=true:=beq_iff_eq.2 s3
    go_upto_region 20 with fail
    refine wp_swap (c':=Code.region 20 sx20Ops true) (by kernel_rfl) ?_
    refine wp_region_noPanic ?_
    refine sx20 R gF q0 i (p+1+1) w v b b2 q2 (.slice b1 d.names.length q1) d.files d.names d.moves w4 _ (fun _ _ _ _ _ h=>h) (HS.out.on (Below.refl _ _).drew) hi HSM.out (by omega) (by omega) HPK.out (by kernel_rfl) ?_
    intro u W y2 ms' q' hnx hq9
    clear HS HPK
    refine NoPanic.normal ?_
    simp only [frL_eq,frG,List.lookup,Nat.reduceBEq,Nat.reduceAdd,Option.getD_some,Option.getD_none]
    obtain ⟨x0,x1,x2,fs9,ns9,ms9,HS9⟩:∃ x0 x1 x2 fs9 ns9 ms9,Hid (SpS R w W w.heap.size (w.heap.size+2) v b q' x0 x1 x2 fs9 ns9 ms9):=⟨_,_,_,_,_,_,hnx⟩
    clear hnx
    obtain ⟨a0,r0,a1,r1,a2,r2,g0,g1,g2⟩:=HS9.out.opn
    subst g0 g1 g2
    obtain ⟨l0,l1,l2⟩:=cs3 HS9.out.mx.row (by omega)
    have y0:=HS9.out.b4.cell (i:=0) (by omega);have y1:=HS9.out.b4.cell (i:=1) (by omega);have y2:=HS9.out.b4.cell (i:=2) (by omega)
    have z:=HS9.out.b4.frozen
    simp only [row3] at l0 l1 l2 y0 y1 y2
    have HF:=xH (HS9.out.done (p:=p) (most:=100) (by omega))
    clear HS9
    generalize List.length fs9=M0 at *
    generalize List.length ns9=M1 at *
    generalize List.length ms9=M2 at *
    go_wp2_with fail
    try simp only [Exit.inBlock,Exit.then]
    refine bodyPost_ret (v:=.agg #[.slice a0 M0 r0,.slice a1 M1 r1,.slice a2 M2 r2]) (by simp [results,Try.results50,go_sem,y0,y1,y2]) rfl ?_
    exact xU HF
 by_cases s4:(r:Int)=4
 · as_aux_lemma =>
    have f0:((r:Int)==0)=false:=beq_eq_false_iff_ne.2 s0
    have f1:((r:Int)==1)=false:=beq_eq_false_iff_ne.2 s1
    have f2:((r:Int)==2)=false:=beq_eq_false_iff_ne.2 s2
    have f3:((r:Int)==3)=false:=beq_eq_false_iff_ne.2 s3
    have f4:((r:Int)==4)=true:=beq_iff_eq.2 s4
    go_upto_region 22 with fail
    refine wp_swap (c':=Code.region 22 sx22Ops true) (by kernel_rfl) ?_
    refine wp_region_noPanic ?_
    refine sx22 R gF q0 i (p+1+1) w v b (.slice b1 d.names.length q1) (.slice b2 d.moves.length q2) d.files d.names d.moves w4 _ (fun _ _ _ _ _ h=>h) (HS.out.on (Below.refl _ _).drew) hi HSM.out (by omega) (by kernel_rfl) ?_
    intro u W y0 fs' q' hnx hq9
    clear HS HPK
    refine NoPanic.normal ?_
    simp only [frL_eq,frG,List.lookup,Nat.reduceBEq,Nat.reduceAdd,Option.getD_some,Option.getD_none]
    obtain ⟨x0,x1,x2,fs9,ns9,ms9,HS9⟩:∃ x0 x1 x2 fs9 ns9 ms9,Hid (SpS R w W w.heap.size (w.heap.size+2) v b q' x0 x1 x2 fs9 ns9 ms9):=⟨_,_,_,_,_,_,hnx⟩
    clear hnx
    obtain ⟨a0,r0,a1,r1,a2,r2,g0,g1,g2⟩:=HS9.out.opn
    subst g0 g1 g2
    obtain ⟨l0,l1,l2⟩:=cs3 HS9.out.mx.row (by omega)
    have y0:=HS9.out.b4.cell (i:=0) (by omega);have y1:=HS9.out.b4.cell (i:=1) (by omega);have y2:=HS9.out.b4.cell (i:=2) (by omega)
    have z:=HS9.out.b4.frozen
    simp only [row3] at l0 l1 l2 y0 y1 y2
    have HF:=xH (HS9.out.done (p:=p) (most:=100) (by omega))
    clear HS9
    generalize List.length fs9=M0 at *
    generalize List.length ns9=M1 at *
    generalize List.length ms9=M2 at *
    go_wp2_with fail
    try simp only [Exit.inBlock,Exit.then]
    refine bodyPost_ret (v:=.agg #[.slice a0 M0 r0,.slice a1 M1 r1,.slice a2 M2 r2]) (by simp [results,Try.results50,go_sem,y0,y1,y2]) rfl ?_
    exact xU HF
 by_cases s5:(r:Int)=5
 · as_aux_lemma =>
    have f0:((r:Int)==0)=false:=beq_eq_false_iff_ne.2 s0
    have f1:((r:Int)==1)=false:=beq_eq_false_iff_ne.2 s1
    have f2:((r:Int)==2)=false:=beq_eq_false_iff_ne.2 s2
    have f3:((r:Int)==3)=false:=beq_eq_false_iff_ne.2 s3
    have f4:((r:Int)==4)=false:=beq_eq_false_iff_ne.2 s4
    have f5:((r:Int)==5)=true:=beq_iff_eq.2 s5
    go_upto_region 24 with fail
    refine wp_swap (c':=Code.region 24 sx24Ops true) (by kernel_rfl) ?_
    refine wp_region_noPanic ?_
    refine sx24 R gF q0 i (p+1+1) w v b (.slice b1 d.names.length q1) (.slice b2 d.moves.length q2) d.files d.names d.moves w4 _ (fun _ _ _ _ _ h=>h) (HS.out.on (Below.refl _ _).drew) hi HSM.out (by omega) HPK.out (by kernel_rfl) ?_
    intro u W f q' hnx hq9
    clear HS HPK
    refine NoPanic.normal ?_
    simp only [frL_eq,frG,List.lookup,Nat.reduceBEq,Nat.reduceAdd,Option.getD_some,Option.getD_none]
    obtain ⟨x0,x1,x2,fs9,ns9,ms9,HS9⟩:∃ x0 x1 x2 fs9 ns9 ms9,Hid (SpS R w W w.heap.size (w.heap.size+2) v b q' x0 x1 x2 fs9 ns9 ms9):=⟨_,_,_,_,_,_,hnx⟩
    clear hnx
    obtain ⟨a0,r0,a1,r1,a2,r2,g0,g1,g2⟩:=HS9.out.opn
    subst g0 g1 g2
    obtain ⟨l0,l1,l2⟩:=cs3 HS9.out.mx.row (by omega)
    have y0:=HS9.out.b4.cell (i:=0) (by omega);have y1:=HS9.out.b4.cell (i:=1) (by omega);have y2:=HS9.out.b4.cell (i:=2) (by omega)
    have z:=HS9.out.b4.frozen
    simp only [row3] at l0 l1 l2 y0 y1 y2
    have HF:=xH (HS9.out.done (p:=p) (most:=100) (by omega))
    clear HS9
    generalize List.length fs9=M0 at *
    generalize List.length ns9=M1 at *
    generalize List.length ms9=M2 at *
    go_wp2_with fail
    try simp only [Exit.inBlock,Exit.then]
    refine bodyPost_ret (v:=.agg #[.slice a0 M0 r0,.slice a1 M1 r1,.slice a2 M2 r2]) (by simp [results,Try.results50,go_sem,y0,y1,y2]) rfl ?_
    exact xU HF
 by_cases s6:(r:Int)=6
 · as_aux_lemma =>
    have f0:((r:Int)==0)=false:=beq_eq_false_iff_ne.2 s0
    have f1:((r:Int)==1)=false:=beq_eq_false_iff_ne.2 s1
    have f2:((r:Int)==2)=false:=beq_eq_false_iff_ne.2 s2
    have f3:((r:Int)==3)=false:=beq_eq_false_iff_ne.2 s3
    have f4:((r:Int)==4)=false:=beq_eq_false_iff_ne.2 s4
    have f5:((r:Int)==5)=false:=beq_eq_false_iff_ne.2 s5
    have f6:((r:Int)==6)=true:=beq_iff_eq.2 s6
    go_upto_region 26 with fail
    refine wp_swap (c':=Code.region 26 sx26Ops true) (by kernel_rfl) ?_
    refine wp_region_noPanic ?_
    refine sx26 R gF q0 i (p+1+1) w v b (.slice b1 d.names.length q1) (.slice b2 d.moves.length q2) d.files d.names d.moves w4 _ (fun _ _ _ _ _ h=>h) (HS.out.on (Below.refl _ _).drew) hi HSM.out (by omega) (by kernel_rfl) ?_
    intro u W f q' hnx hq9
    clear HS HPK
    refine NoPanic.normal ?_
    simp only [frL_eq,frG,List.lookup,Nat.reduceBEq,Nat.reduceAdd,Option.getD_some,Option.getD_none]
    obtain ⟨x0,x1,x2,fs9,ns9,ms9,HS9⟩:∃ x0 x1 x2 fs9 ns9 ms9,Hid (SpS R w W w.heap.size (w.heap.size+2) v b q' x0 x1 x2 fs9 ns9 ms9):=⟨_,_,_,_,_,_,hnx⟩
    clear hnx
    obtain ⟨a0,r0,a1,r1,a2,r2,g0,g1,g2⟩:=HS9.out.opn
    subst g0 g1 g2
    obtain ⟨l0,l1,l2⟩:=cs3 HS9.out.mx.row (by omega)
    have y0:=HS9.out.b4.cell (i:=0) (by omega);have y1:=HS9.out.b4.cell (i:=1) (by omega);have y2:=HS9.out.b4.cell (i:=2) (by omega)
    have z:=HS9.out.b4.frozen
    simp only [row3] at l0 l1 l2 y0 y1 y2
    have HF:=xH (HS9.out.done (p:=p) (most:=100) (by omega))
    clear HS9
    generalize List.length fs9=M0 at *
    generalize List.length ns9=M1 at *
    generalize List.length ms9=M2 at *
    go_wp2_with fail
    try simp only [Exit.inBlock,Exit.then]
    refine bodyPost_ret (v:=.agg #[.slice a0 M0 r0,.slice a1 M1 r1,.slice a2 M2 r2]) (by simp [results,Try.results50,go_sem,y0,y1,y2]) rfl ?_
    exact xU HF
 by_cases s7:(r:Int)=7
 · as_aux_lemma =>
    have f0:((r:Int)==0)=false:=beq_eq_false_iff_ne.2 s0
    have f1:((r:Int)==1)=false:=beq_eq_false_iff_ne.2 s1
    have f2:((r:Int)==2)=false:=beq_eq_false_iff_ne.2 s2
    have f3:((r:Int)==3)=false:=beq_eq_false_iff_ne.2 s3
    have f4:((r:Int)==4)=false:=beq_eq_false_iff_ne.2 s4
    have f5:((r:Int)==5)=false:=beq_eq_false_iff_ne.2 s5
    have f6:((r:Int)==6)=false:=beq_eq_false_iff_ne.2 s6
    have f7:((r:Int)==7)=true:=beq_iff_eq.2 s7
    have l0:=HS.out.mx.row.cell (i:=0) (by omega)
    simp only [row3] at l0
    have q2':=(ownFile HS.out.mx.o0 i hi).2.1
    by_cases hx0:d.files[i].data.size=0
    · have hd0:decide ((0:Int) < (d.files[i].data.size:Int))=false:=decide_eq_false (by omega)
      have hd1:decide (0 < d.files[i].data.size)=false:=decide_eq_false (by omega)
      generalize d.files[i].data=dat at q2' hd0 hd1
      clear l0
      obtain ⟨l0,l1,l2⟩:=cs3 HS.out.mx.row (by omega)
      have y0:=HS.out.b4.cell (i:=0) (by omega);have y1:=HS.out.b4.cell (i:=1) (by omega);have y2:=HS.out.b4.cell (i:=2) (by omega)
      have z:=HS.out.b4.frozen
      simp only [row3] at l0 l1 l2 y0 y1 y2
      have HF:=xH (HS.out.done (p:=p) (most:=100) (by omega))
      clear HS HPK HSM
      go_wp2_with fail
      try simp only [Exit.inBlock,Exit.then]
      refine bodyPost_ret (v:=.agg #[.slice (some ⟨gF,0,none⟩) d.files.length q0,.slice b1 d.names.length q1,.slice b2 d.moves.length q2]) (by simp [results,Try.results50,go_sem,y0,y1,y2]) rfl ?_
      exact xU HF
    · have hd0:decide ((0:Int) < (d.files[i].data.size:Int))=true:=decide_eq_true (by omega)
      have hd1:decide (0 < d.files[i].data.size)=true:=decide_eq_true (by omega)
      have hdz:=(HSM.out d.files[i] (List.getElem_mem hi)).2.1
      obtain ⟨dat,hdat⟩:∃ z,d.files[i].data=z:=⟨_,rfl⟩
      rw [hdat] at q2' hd0 hd1 hdz hx0
      have HPx:=xH (HPK.out w4 (p+1+1) dat.size HS.out.dr (by omega) (by omega))
      go_wp2_with fail
      refine HPx.out.mono ?_
      rintro e w5 ⟨k,rfl,hrk,HDx,HBx⟩
      have HT:=xH (HS.out.draw HBx.out HDx.out)
      clear HPx HS HDx HBx
      clear l0 q2' hd0 hd1
      have hkk:k < d.files[i].data.size:=by rw [hdat];exact hrk
      clear hdat hrk hx0 hdz
      go_upto_region 30 with fail
      refine wp_swap (c':=Code.region 30 sx30Ops true) (by kernel_rfl) ?_
      refine wp_region_noPanic ?_
      refine sx30 R gF q0 i (p+1+1+1) k w v b (.slice b1 d.names.length q1) (.slice b2 d.moves.length q2) d.files d.names d.moves w5 _ (fun _ _ _ _ _ h=>h) (HT.out.on (Below.refl _ _).drew) hi HSM.out (by omega) (by kernel_rfl) ?_
      intro u W f q' hnx hq9
      clear HT HPK
      refine NoPanic.normal ?_
      simp only [frL_eq,frG,List.lookup,Nat.reduceBEq,Nat.reduceAdd,Option.getD_some,Option.getD_none]
      have hlen:d.files.length=(d.files.set i f).length:=by rw [List.length_set]
      obtain ⟨⟨u9,hu9⟩,hz9⟩:=hnx.cellF hlen i 2 (by rw [List.length_set];exact hi) (by omega)
      have l0:=hnx.mx.row.cell (i:=0) (by omega)
      simp only [row3] at l0
      obtain ⟨x0,x1,x2,fs9,ns9,ms9,HS9⟩:∃ x0 x1 x2 fs9 ns9 ms9,Hid (SpS R w (W.setCell ⟨gF,i * 3+2,none⟩ (.int .i64 0)) w.heap.size (w.heap.size+2) v b q' x0 x1 x2 fs9 ns9 ms9):=⟨_,_,_,_,_,_,hnx.setF hlen i 2 (.int .i64 0) ⟨(d.files.set i f)[i].name,(d.files.set i f)[i].data,0⟩ (by rw [List.length_set];exact hi) (by omega) rfl ⟨(hnx.fo _ (List.getElem_mem _)).1,(hnx.fo _ (List.getElem_mem _)).2.1,by simp only [I64];omega⟩⟩
      clear hnx hlen
      go_upto_region 36 with fail
      clear l0 hu9 hz9
      generalize W.setCell ⟨gF,i * 3+2,none⟩ (.int .i64 0)=W9 at HS9 ⊢
      obtain ⟨a0,r0,a1,r1,a2,r2,g0,g1,g2⟩:=HS9.out.opn
      subst g0 g1 g2
      obtain ⟨l0,l1,l2⟩:=cs3 HS9.out.mx.row (by omega)
      have y0:=HS9.out.b4.cell (i:=0) (by omega);have y1:=HS9.out.b4.cell (i:=1) (by omega);have y2:=HS9.out.b4.cell (i:=2) (by omega)
      have z:=HS9.out.b4.frozen
      simp only [row3] at l0 l1 l2 y0 y1 y2
      have HF:=xH (HS9.out.done (p:=p) (most:=100) (by omega))
      clear HS9
      generalize List.length fs9=M0 at *
      generalize List.length ns9=M1 at *
      generalize List.length ms9=M2 at *
      go_wp2_with fail
      try simp only [Exit.inBlock,Exit.then]
      refine bodyPost_ret (v:=.agg #[.slice a0 M0 r0,.slice a1 M1 r1,.slice a2 M2 r2]) (by simp [results,Try.results50,go_sem,y0,y1,y2]) rfl ?_
      exact xU HF
 by_cases s8:(r:Int)=8
 · as_aux_lemma =>
    have f0:((r:Int)==0)=false:=beq_eq_false_iff_ne.2 s0
    have f1:((r:Int)==1)=false:=beq_eq_false_iff_ne.2 s1
    have f2:((r:Int)==2)=false:=beq_eq_false_iff_ne.2 s2
    have f3:((r:Int)==3)=false:=beq_eq_false_iff_ne.2 s3
    have f4:((r:Int)==4)=false:=beq_eq_false_iff_ne.2 s4
    have f5:((r:Int)==5)=false:=beq_eq_false_iff_ne.2 s5
    have f6:((r:Int)==6)=false:=beq_eq_false_iff_ne.2 s6
    have f7:((r:Int)==7)=false:=beq_eq_false_iff_ne.2 s7
    have f8:((r:Int)==8)=true:=beq_iff_eq.2 s8
    have l0:=HS.out.mx.row.cell (i:=0) (by omega)
    simp only [row3] at l0
    have q2':=(ownFile HS.out.mx.o0 i hi).2.1
    by_cases hx0:d.files[i].data.size=0
    · have hd0:decide ((0:Int) < (d.files[i].data.size:Int))=false:=decide_eq_false (by omega)
      have hd1:decide (0 < d.files[i].data.size)=false:=decide_eq_false (by omega)
      generalize d.files[i].data=dat at q2' hd0 hd1
      clear l0
      obtain ⟨l0,l1,l2⟩:=cs3 HS.out.mx.row (by omega)
      have y0:=HS.out.b4.cell (i:=0) (by omega);have y1:=HS.out.b4.cell (i:=1) (by omega);have y2:=HS.out.b4.cell (i:=2) (by omega)
      have z:=HS.out.b4.frozen
      simp only [row3] at l0 l1 l2 y0 y1 y2
      have HF:=xH (HS.out.done (p:=p) (most:=100) (by omega))
      clear HS HPK HSM
      go_wp2_with fail
      try simp only [Exit.inBlock,Exit.then]
      refine bodyPost_ret (v:=.agg #[.slice (some ⟨gF,0,none⟩) d.files.length q0,.slice b1 d.names.length q1,.slice b2 d.moves.length q2]) (by simp [results,Try.results50,go_sem,y0,y1,y2]) rfl ?_
      exact xU HF
    · have hd0:decide ((0:Int) < (d.files[i].data.size:Int))=true:=decide_eq_true (by omega)
      have hd1:decide (0 < d.files[i].data.size)=true:=decide_eq_true (by omega)
      have hdz:=(HSM.out d.files[i] (List.getElem_mem hi)).2.1
      obtain ⟨dat,hdat⟩:∃ z,d.files[i].data=z:=⟨_,rfl⟩
      rw [hdat] at q2' hd0 hd1 hdz hx0
      have HPx:=xH (HPK.out w4 (p+1+1) dat.size HS.out.dr (by omega) (by omega))
      go_wp2_with fail
      refine HPx.out.mono ?_
      rintro e w5 ⟨k,rfl,hrk,HDx,HBx⟩
      have HT:=xH (HS.out.draw HBx.out HDx.out)
      clear HPx HS HDx HBx
      clear l0 q2' hd0 hd1
      have hkk:k < d.files[i].data.size:=by rw [hdat];exact hrk
      clear hdat hrk hx0 hdz
      go_upto_region 35 with fail
      refine wp_swap (c':=Code.region 35 sx35Ops true) (by kernel_rfl) ?_
      refine wp_region_noPanic ?_
      refine sx35 R gF q0 i (p+1+1+1) k w v b (.slice b1 d.names.length q1) (.slice b2 d.moves.length q2) d.files d.names d.moves w5 _ (fun _ _ _ _ _ h=>h) (HT.out.on (Below.refl _ _).drew) hi HSM.out (by omega) hkk (by kernel_rfl) ?_
      intro u W f q' hnx hq9
      clear HT HPK
      refine NoPanic.normal ?_
      simp only [frL_eq,frG,List.lookup,Nat.reduceBEq,Nat.reduceAdd,Option.getD_some,Option.getD_none]
      obtain ⟨x0,x1,x2,fs9,ns9,ms9,HS9⟩:∃ x0 x1 x2 fs9 ns9 ms9,Hid (SpS R w W w.heap.size (w.heap.size+2) v b q' x0 x1 x2 fs9 ns9 ms9):=⟨_,_,_,_,_,_,hnx⟩
      clear hnx
      obtain ⟨a0,r0,a1,r1,a2,r2,g0,g1,g2⟩:=HS9.out.opn
      subst g0 g1 g2
      obtain ⟨l0,l1,l2⟩:=cs3 HS9.out.mx.row (by omega)
      have y0:=HS9.out.b4.cell (i:=0) (by omega);have y1:=HS9.out.b4.cell (i:=1) (by omega);have y2:=HS9.out.b4.cell (i:=2) (by omega)
      have z:=HS9.out.b4.frozen
      simp only [row3] at l0 l1 l2 y0 y1 y2
      have HF:=xH (HS9.out.done (p:=p) (most:=100) (by omega))
      clear HS9
      generalize List.length fs9=M0 at *
      generalize List.length ns9=M1 at *
      generalize List.length ms9=M2 at *
      go_wp2_with fail
      try simp only [Exit.inBlock,Exit.then]
      refine bodyPost_ret (v:=.agg #[.slice a0 M0 r0,.slice a1 M1 r1,.slice a2 M2 r2]) (by simp [results,Try.results50,go_sem,y0,y1,y2]) rfl ?_
      exact xU HF
 have f0:((r:Int)==0)=false:=beq_eq_false_iff_ne.2 s0
 have f1:((r:Int)==1)=false:=beq_eq_false_iff_ne.2 s1
 have f2:((r:Int)==2)=false:=beq_eq_false_iff_ne.2 s2
 have f3:((r:Int)==3)=false:=beq_eq_false_iff_ne.2 s3
 have f4:((r:Int)==4)=false:=beq_eq_false_iff_ne.2 s4
 have f5:((r:Int)==5)=false:=beq_eq_false_iff_ne.2 s5
 have f6:((r:Int)==6)=false:=beq_eq_false_iff_ne.2 s6
 have f7:((r:Int)==7)=false:=beq_eq_false_iff_ne.2 s7
 have f8:((r:Int)==8)=false:=beq_eq_false_iff_ne.2 s8
 go_upto_region 7 with fail
 have HO:=xH HS.out.out0
 clear HS HSM
 generalize w4.alloc (.cells #[.slice none 0 0,.slice none 0 0,.slice none 0 0] 27)=W5 at HO ⊢
 generalize w4.heap.size=B at HO ⊢
 go_wp2_with fail
 go_loopw [9] (fun kk wr=>∃ (k q:Nat) (o0 o1:Option Addr) (m0 m1:Nat) (fs:List Df) (ns:List ByteArray),k≤65∧kk=.int .i64 k∧q≤p+2+k∧Hid (fs.length=k)∧Hid (ns.length=k)∧Hid (SpS R w wr B (B+1) v b q (.slice o0 fs.length m0) (.slice o1 ns.length m1) (.slice none 0 0) fs ns [])) (fun kk _=>66 - (intOf kk).toNat)
 case atStart=>exact ⟨0,_,none,none,0,0,[],[],by omega,rfl,by omega,rfl,rfl,HO⟩
 case round =>
  clear HO
  obtain ⟨k,q,o0,o1,m0,m1,fs,ns,hk,rfl,hq,HL1,HL2,HX⟩:=hrel
  have HP3:=xH (HPK.out wr q 3 HX.out.dr (by omega) (by omega))
  go_wp2_with fail
  refine HP3.out.mono ?_
  rintro e w6 ⟨r3,rfl,hr3,HDx,HBx⟩
  have HY:=xH (HX.out.draw HBx.out HDx.out)
  clear HP3 HX HDx HBx
  have hv1:IntKind.i64.wrap (64 - (r3:Int))=64 - (r3:Int):=by rw [IntKind.wrap_i64];omega
  have hv2:IntKind.i64.wrap (64 - (r3:Int)+1)=64 - (r3:Int)+1:=by rw [IntKind.wrap_i64];omega
  by_cases hc:(k:Int) < 64 - (r3:Int)+1
  rotate_left
  · have hcd:decide ((k:Int) < 64 - (r3:Int)+1)=false:=decide_eq_false hc
    clear HPK
    obtain ⟨l0,l1,l2⟩:=cs3 HY.out.mx.row (by omega)
    have y0:=HY.out.b4.cell (i:=0) (by omega);have y1:=HY.out.b4.cell (i:=1) (by omega);have y2:=HY.out.b4.cell (i:=2) (by omega)
    have z:=HY.out.b4.frozen
    simp only [row3] at l0 l1 l2 y0 y1 y2
    have HF:=xH (HY.out.done (p:=p) (most:=100) (by omega))
    clear HY
    generalize List.length fs=M0 at *
    generalize List.length ns=M1 at *
    go_wp2_with fail
    try simp only [Exit.inBlock,Exit.then]
    refine bodyPost_ret (v:=.agg #[.slice o0 M0 m0,.slice o1 M1 m1,.slice none 0 0]) (by simp [results,Try.results50,go_sem,y0,y1,y2]) rfl ?_
    exact xU HF
  · have hcd:decide ((k:Int) < 64 - (r3:Int)+1)=true:=decide_eq_true hc
    have hk2:k < 65:=by omega
    have hln:=HL1.out;have hln2:=HL2.out
    have hdz:=decB_le (n:=(k:Int)) (by omega) (by omega)
    go_upto_region 10 with fail
    refine wp_swap (c':=Code.region 10 sx10Ops true) (by kernel_rfl) ?_
    refine wp_region_noPanic ?_
    refine sx10 R B k (q+1) w v b o0 o1 m0 m1 fs ns ⟨(Lib.itoa (k:Int)).toArray⟩ w6 _ (fun _ _ _ _ _ h=>h) (HY.out.on (Below.refl _ _).drew) (by omega) (by omega) (fun W=>l6Dec_any (k:Int) W (by omega) (by omega)) (by kernel_rfl) (fun u=>by kernel_rfl) ?_
    rintro u W ⟨o0',m0',hnx⟩
    refine NoPanic.normal ?_
    simp only [List.take_succ_cons,List.take_zero,List.drop_succ_cons,List.drop_zero,List.cons_append,List.nil_append]
    have HY2:=xH hnx
    clear HY hnx hv1 hv2 hcd hc
    obtain ⟨fs2,hfs2⟩:∃ z,fs++[⟨⟨#[102]⟩++⟨(Lib.itoa (k:Int)).toArray⟩,⟨#[]⟩,0⟩]=z:=⟨_,rfl⟩
    have hln3:fs2.length=k+1:=by rw [← hfs2,List.length_append,hln];rfl
    rw [hfs2,show fs.length+1=fs2.length by omega] at HY2
    clear hfs2 HL1 hln
    go_upto_region 11 with fail
    refine wp_swap (c':=Code.region 11 sx11Ops true) (by kernel_rfl) ?_
    refine wp_region_noPanic ?_
    refine sx11 R B k (q+1) w v b o0' o1 m0' m1 fs2 ns ⟨(Lib.itoa (k:Int)).toArray⟩ W _ (fun _ _ _ _ _ h=>h) (HY2.out.on (Below.refl _ _).drew) (by omega) (by omega) (fun W=>l6Dec_any (k:Int) W (by omega) (by omega)) (by kernel_rfl) (fun u=>by kernel_rfl) ?_
    rintro u W7 ⟨o1',m1',hnx⟩
    refine NoPanic.normal ?_
    simp only [List.take_succ_cons,List.take_zero,List.drop_succ_cons,List.drop_zero,List.cons_append,List.nil_append]
    have HY3:=xH hnx
    clear HY2 hnx
    obtain ⟨ns2,hns2⟩:∃ z,ns++[⟨#[102]⟩++⟨(Lib.itoa (k:Int)).toArray⟩]=z:=⟨_,rfl⟩
    have hln4:ns2.length=k+1:=by rw [← hns2,List.length_append,hln2];rfl
    rw [hns2,show ns.length+1=ns2.length by omega] at HY3
    clear hns2 HL2 hln2
    have hv3:IntKind.i64.wrap ((k:Int)+1)=(k:Int)+1:=by rw [IntKind.wrap_i64];omega
    go_wp2_with fail
    go_roundw
    case rel=>exact ⟨k+1,q+1,o0',o1',m0',m1',fs2,ns2,by omega,by go_num,by omega,hln3,hln4,HY3⟩
    case measure=>simp [intOf];omega

theorem an_put {R:Nat} {w wb W:World} {v:Value} {b:List UInt8} {q p most:Nat} {d:Dk} {c:C3} (hR:R < w.heap.size) (hwb:w.heap.size < wb.heap.size) (hd:DkAt (New wb W) W d c) (hD:DR R W v b q) (hB:But R w W) (hq:q≤p+most):SpE R w ((((W).setCell ⟨w.heap.size,0,none⟩ c.c0).setCell ⟨w.heap.size,1,none⟩ c.c1).setCell ⟨w.heap.size,2,none⟩ c.c2) v b p most (.returned (.agg #[c.c0,c.c1,c.c2])):=by
 obtain ⟨s1,s2,-,-⟩:=set3 W w.heap.size c.c0 c.c1 c.c2
 have hs:∀ a,a≠w.heap.size→((((W).setCell ⟨w.heap.size,0,none⟩ c.c0).setCell ⟨w.heap.size,1,none⟩ c.c1).setCell ⟨w.heap.size,2,none⟩ c.c2).heap[a]? = W.heap[a]? := s1
 have hz:((((W).setCell ⟨w.heap.size,0,none⟩ c.c0).setCell ⟨w.heap.size,1,none⟩ c.c1).setCell ⟨w.heap.size,2,none⟩ c.c2).heap.size=W.heap.size:=s2
 exact ⟨d,c,q,rfl,hd.carry (fun g hg=>hs g (by have:=hg.1;omega)) (fun g hg=>⟨by have:=hg.1;omega,by rw [hz];exact hg.2⟩),hq,xH (((hD.set hR _ _).set hR _ _).set hR _ _),xH (But.setNew8 (But.setNew8 (But.setNew8 hB (Nat.le_refl _) _) (Nat.le_refl _) _) (Nat.le_refl _) _)⟩
theorem l45Any_any (R:Nat) (w:World) (v:Value) (b:List UInt8) (p:Nat) (h:DR R w v b p) (hp:p≤10000) :
 Calls Try.prog 21 #[.pointer (some ⟨R,0,none⟩)] w fun e w'=>SpE R w w' v b p 1000 e:=by
 have HPK:=xH (fun (W:World) (q n:Nat) (hD:DR R W v b q) (hn:1≤n∧n≤1000000) (hq:q≤100000000)=>pick_any R W v b q n hD hn (by omega))
 have hR:=h.cells.lt
 have HDK:=xH (l45Disk_any R (w.alloc (.cells #[.slice none 0 0,.slice none 0 0,.slice none 0 0] 27)) v b p (h.on ((Below.refl _ _).alloc (Nat.le_refl _) _)) hp)
 have HB0:=xH (But.alloc R w (.cells #[.slice none 0 0,.slice none 0 0,.slice none 0 0] 27))
 have HR0:=xH (row3_alloc w (.slice none 0 0) (.slice none 0 0) (.slice none 0 0) 27)
 clear h
 go_enter Try.func21,Try.ntmps21
 go_wp2_with fail
 refine HDK.out.mono ?_
 rintro e w1 ⟨d,⟨u0,u1,u2⟩,p1,rfl,hd,hg,hp1,HD1,HB1⟩
 obtain ⟨a0,r0,g0,-,-⟩:=hd.fs.open
 obtain ⟨a1,r1,g1,-,-⟩:=id hd.ns
 obtain ⟨a2,r2,g2,-,-⟩:=hd.ms.open
 simp only at g0 g1 g2
 subst g0 g1 g2
 have hs1:=HB1.out.size
 rw [World.size_alloc] at hs1
 go_upto_region 2 with fail
 have HB2:=xH ((HB0.out.trans HB1.out).trans (But.alloc R w1 (.cells #[.slice a0 d.files.length r0,.slice a1 d.names.length r1,.slice a2 d.moves.length r2] 27)))
 have HD2:=xH (HD1.out.on ((Below.refl w1.heap.size w1).alloc (Nat.le_refl _) (.cells #[.slice a0 d.files.length r0,.slice a1 d.names.length r1,.slice a2 d.moves.length r2] 27)))
 have hr1:=HR0.out.of_block (HB1.out.at (by simp) (by omega))
 have HR2:=xH (hr1.alloc (.cells #[.slice a0 d.files.length r0,.slice a1 d.names.length r1,.slice a2 d.moves.length r2] 27))
 have HX2:=xH (row3_alloc w1 (.slice a0 d.files.length r0) (.slice a1 d.names.length r1) (.slice a2 d.moves.length r2) 27)
 have HK2:=xH (hd.carry (w':=w1.alloc (.cells #[.slice a0 d.files.length r0,.slice a1 d.names.length r1,.slice a2 d.moves.length r2] 27)) (Q:=fun g=>w.heap.size+1≤g∧g < w1.heap.size) (fun g hg'=>Below.heap_alloc _ _ _ hg'.2) (fun g hg'=>⟨by have:=hg'.1;rw [World.size_alloc] at this;exact this,hg'.2⟩))
 have hsz2:(w1.alloc (.cells #[.slice a0 d.files.length r0,.slice a1 d.names.length r1,.slice a2 d.moves.length r2] 27)).heap.size=w1.heap.size+1:=by simp
 clear HDK HB0 HR0 hd HD1 HB1 hr1
 generalize w1.alloc (.cells #[.slice a0 d.files.length r0,.slice a1 d.names.length r1,.slice a2 d.moves.length r2] 27)=W2 at HB2 HD2 HR2 HX2 HK2 hsz2 ⊢
 generalize w1.heap.size=B at HX2 HK2 hsz2 hs1 ⊢
 have HP1:=xH (HPK.out W2 p1 8 HD2.out (by omega) (by omega))
 go_wp2_with fail
 refine HP1.out.mono ?_
 rintro e w3 ⟨r,rfl,hr,HD3,HB3⟩
 have HB4:=xH (HB2.out.trans HB3.out)
 have HR3:=xH (HR2.out.of_block (HB3.out.at HR2.out.lt (by omega)))
 have HX3:=xH (HX2.out.of_block (HB3.out.at HX2.out.lt (by omega)))
 have HK3:=xH (HK2.out.carry (Q:=fun g=>w.heap.size+1≤g∧g < B) (fun g hg'=>HB3.out.at (by have:=hg'.2;omega) (by have:=hg'.1;omega)) (fun g hg'=>hg'))
 have hs3:=HB3.out.size
 obtain ⟨l0,l1,l2⟩:=cs3 HX3.out (by omega)
 simp only [row3] at l0 l1 l2
 have hX3:=HX3.out.lt
 clear HPK HP1 HB2 HR2 HX2 HK2 HD2 HB3 HX3
 by_cases hr0:(r:Int)=0
 · have f0:((r:Int)==0)=true:=beq_iff_eq.2 hr0
   have hgl:=good_len hg
   have hgf:=good_files hg
   have HSP:=xH (l45Spoil_any R w3 v b (p1+1) d ⟨.slice a0 d.files.length r0,.slice a1 d.names.length r1,.slice a2 d.moves.length r2⟩ (fun g=>w.heap.size+1≤g∧g < B) HD3.out (by omega) (fun g hg'=>by have:=hg'.2;omega) HK3.out hgl (fun f hf=>⟨(hgf f hf).1,by have:=(hgf f hf).2;omega⟩))
   clear hgl hgf HK3 HD3 hg
   go_wp2_with fail
   refine HSP.out.mono ?_
   rintro e w4 ⟨d4,⟨u0,u1,u2⟩,p4,rfl,hd4,hp4,HD4,HB5⟩
   have hR4:=HR3.out.of_block (HB5.out.at HR3.out.lt (by omega))
   clear l0 l1 l2 HSP
   obtain ⟨n0,s0,g0,-,-⟩:=hd4.fs.open
   obtain ⟨n1,s1,g1,-,-⟩:=id hd4.ns
   obtain ⟨n2,s2,g2,-,-⟩:=hd4.ms.open
   simp only at g0 g1 g2
   subst g0 g1 g2
   obtain ⟨y0,y1,y2⟩:=cs3 hR4 (by omega)
   have z:=hR4.frozen
   simp only [row3] at y0 y1 y2
   have HF:=xH (an_put (p:=p) (most:=1000) hR (by omega) hd4 HD4.out (HB4.out.trans HB5.out) (by omega))
   simp only at HF
   clear hd4 HD4 HB5 HB4 HR3 hR4
   generalize d4.files.length=M0 at *
   generalize d4.names.length=M1 at *
   generalize d4.moves.length=M2 at *
   go_wp2_with fail
   try simp only [Exit.inBlock,Exit.then]
   refine bodyPost_ret (v:=.agg #[.slice n0 M0 s0,.slice n1 M1 s1,.slice n2 M2 s2]) (by simp [results,Try.results21,go_sem,y0,y1,y2]) rfl ?_
   exact xU HF
 · have f0:((r:Int)==0)=false:=beq_eq_false_iff_ne.2 hr0
   obtain ⟨y0,y1,y2⟩:=cs3 HR3.out (by omega)
   have z:=HR3.out.frozen
   simp only [row3] at y0 y1 y2
   have HF:=xH (an_put (wb:=w.alloc (.cells #[.slice none 0 0,.slice none 0 0,.slice none 0 0] 27)) (W:=w3) (p:=p) (most:=1000) hR (by simp) (HK3.out.carry (fun _ _=>rfl) (fun g hg'=>⟨by rw [World.size_alloc];exact hg'.1,by have:=hg'.2;omega⟩)) HD3.out HB4.out (by omega))
   simp only at HF
   clear HK3 HD3 HB4 HR3 hg
   generalize d.files.length=M0 at *
   generalize d.names.length=M1 at *
   generalize d.moves.length=M2 at *
   go_wp2_with fail
   try simp only [Exit.inBlock,Exit.then]
   refine bodyPost_ret (v:=.agg #[.slice a0 M0 r0,.slice a1 M1 r1,.slice a2 M2 r2]) (by simp [results,Try.results21,go_sem,y0,y1,y2]) rfl ?_
   exact xU HF

def BytesAt (w:World) (v:Value) (l:List UInt8):Prop :=
 ∃ a cap,v=.slice a l.length cap∧l.length≤9223372036854775807∧∀ i,(h:i < l.length)→∃ b o,a=some ⟨b,o,none⟩∧b < w.heap.size∧w.cell? ⟨b,o+i,none⟩=some (.int .u8 l[i].toNat)

theorem l6Open_any (w:World) (a:Option Addr) (cap:Nat) (l:List UInt8) (hv:BytesAt w (.slice a l.length cap) l) (hcap:l.length≤cap) :
 Calls Try.prog 20 #[.slice a l.length cap] w fun e w'=>∃ (v':Value) (b':List UInt8),e=.returned (.pointer (some ⟨w.heap.size,0,none⟩))∧DR w.heap.size w' v' b' 0∧Below w.heap.size w w':=by
 obtain ⟨a',cap',e,hlen,hc⟩:=hv
 simp only [Value.slice.injEq,true_and] at e
 obtain ⟨rfl,rfl⟩:=e
 by_cases h2:l.length≤2000
 · have hq:decide ((2000:Int) < (l.length:Int))=false:=by simp;omega
   have HC:=xH hc
   clear hc
   go_enter Try.func20,Try.ntmps20
   go_wp2_with fail
   go_ret
   refine ⟨.slice a l.length cap,l,rfl,⟨?_,⟨a,cap,rfl,fun i hi=>?_⟩,h2⟩,(Below.refl _ _).alloc (Nat.le_refl _) _⟩
   · exact World.rowIs_alloc w #[.slice a l.length cap,.int .i64 0] 91 _ (fun i hi=>by
      have hi':i < 2:=by simpa using hi
      rcases (show i=0∨i=1 by omega) with rfl | rfl <;> rfl)
   · obtain ⟨g,o,e,hlt,hcell⟩:=xU HC i hi
     exact ⟨g,o,e,hlt,by rw [World.cell?_of_block (w:=w) (Below.heap_alloc _ _ _ hlt)];exact hcell⟩
 · have hq:decide ((2000:Int) < (l.length:Int))=true:=by simp;omega
   obtain ⟨g,o,rfl,-,-⟩:=hc 0 (by omega)
   have HC:=xH hc
   clear hc
   have hc2:2000≤cap:=by omega
   have hc3:(2000:Int)≤(cap:Int):=by omega
   go_enter Try.func20,Try.ntmps20
   go_wp2_with fail
   go_ret
   have hl2:(l.take 2000).length=2000:=by rw [List.length_take];omega
   refine ⟨.slice (some ⟨g,o,none⟩) 2000 cap,l.take 2000,rfl,⟨?_,⟨_,cap,by rw [hl2],fun i hi=>?_⟩,by omega⟩,(Below.refl _ _).alloc (Nat.le_refl _) _⟩
   · exact World.rowIs_alloc w #[.slice (some ⟨g,o,none⟩) 2000 cap,.int .i64 0] 91 _ (fun i hi=>by
      have hi':i < 2:=by simpa using hi
      rcases (show i=0∨i=1 by omega) with rfl | rfl <;> rfl)
   · obtain ⟨g',o',e,hlt,hcell⟩:=xU HC i (by omega)
     exact ⟨g',o',e,hlt,by rw [World.cell?_of_block (w:=w) (Below.heap_alloc _ _ _ hlt),List.getElem_take];exact hcell⟩

def DcDn (w w':World) (e:Ending):Prop:=∃ (d:Dk) (c:C3) (m:Int) (zs:List Int) (zv:Value),e=.returned (.tuple #[.agg #[c.c0,c.c1,c.c2],.int .i64 m,zv])∧DkAt (New w w') w' d c∧ZsAt (New w w') w' zv zs∧Below w.heap.size w w'
theorem but_below {R:Nat} {w w1 w':World} (h:Below w.heap.size w w1) (hb:But R w1 w') (hR:w.heap.size≤R):Below w.heap.size w w':=h.trans ⟨hb.os,hb.tape,hb.output,hb.size,fun k hk=>hb.at (Nat.lt_of_lt_of_le hk h.size) (by omega)⟩
theorem bytes_on {w:World} {a:Option Addr} {cap:Nat} {l:List UInt8} (hv:BytesAt w (.slice a l.length cap) l) (o:Obj):BytesAt (w.alloc o) (.slice a l.length cap) l:=by
 obtain ⟨a',cap',e,hlen,hc⟩:=hv
 refine ⟨a',cap',e,hlen,fun i hi=>?_⟩
 obtain ⟨g,o',e2,hlt,hcell⟩:=hc i hi
 exact ⟨g,o',e2,by rw [World.size_alloc];omega,by rw [World.cell?_of_block (w:=w) (Below.heap_alloc _ _ _ hlt)];exact hcell⟩
theorem drawDiskCut_any (w:World) (a:Option Addr) (cap:Nat) (l:List UInt8) (hv:BytesAt w (.slice a l.length cap) l) (hcap:l.length≤cap) :
 Calls Try.prog 14 #[.slice a l.length cap] w fun e w'=>DcDn w w' e:=by
 have HO:=xH (l6Open_any (w.alloc (.cells #[.slice none 0 0,.slice none 0 0,.slice none 0 0] 27)) a cap l (bytes_on hv _) hcap)
 have HR0:=xH (row3_alloc w (.slice none 0 0) (.slice none 0 0) (.slice none 0 0) 27)
 have HB0:Hid (Below w.heap.size w (w.alloc (.cells #[.slice none 0 0,.slice none 0 0,.slice none 0 0] 27))):=xH ((Below.refl _ _).alloc (Nat.le_refl _) _)
 clear hv
 go_enter Try.func14,Try.ntmps14
 go_wp2_with fail
 refine HO.out.mono ?_
 rintro e w1 ⟨v1,b1,rfl,hd,hb⟩
 have hs:=hb.size
 rw [World.size_alloc] at hd hs ⊢
 have hRl:=hd.cells.lt
 have HR1:=xH (HR0.out.of_block (hb.block w.heap.size (by simp)))
 have HB1:=xH (HB0.out.trans (hb.mono HB0.out.size))
 have HAN:=xH (l45Any_any (w.heap.size+1) w1 v1 b1 0 hd (by omega))
 clear hd hb HO HR0 HB0
 go_wp2_with fail
 refine HAN.out.mono ?_
 rintro e w2 ⟨d,⟨u0,u1,u2⟩,p2,rfl,hdk,hp2,HD2,HB2⟩
 obtain ⟨a0,r0,g0,-,-⟩:=hdk.fs.open
 obtain ⟨a1,r1,g1,-,-⟩:=id hdk.ns
 obtain ⟨a2,r2,g2,-,-⟩:=hdk.ms.open
 simp only at g0 g1 g2
 subst g0 g1 g2
 have hs2:=HB2.out.size
 have HR2:=xH (HR1.out.of_block (HB2.out.at HR1.out.lt (by omega)))
 have HB3:=xH (but_below HB1.out HB2.out (by omega))
 have HK2:=xH (hdk.carry (Q:=fun g=>w1.heap.size≤g∧g < w2.heap.size) (fun _ _=>rfl) (fun _ hg=>hg))
 have HPK:=xH (pick_any (w.heap.size+1) w2 v1 b1 p2 8 HD2.out (by omega) (by omega))
 clear HAN HB1 HB2 HR1 HD2 hdk
 go_wp2_with fail
 refine HPK.out.mono ?_
 rintro e w3 ⟨r,rfl,hr,HD3,HBx⟩
 have hs3:=HBx.out.size
 have HR3:=xH (HR2.out.of_block (HBx.out.at HR2.out.lt (by omega)))
 have HB4:=xH (but_below HB3.out HBx.out (by omega))
 have HK3:=xH (HK2.out.carry (Q:=fun g=>w1.heap.size≤g∧g < w2.heap.size) (fun g hg=>HBx.out.at hg.2 (by have:=hg.1;omega)) (fun _ hg=>hg))
 have hv1:IntKind.i64.wrap ((r:Int) - 1)=(r:Int) - 1:=by rw [IntKind.wrap_i64];omega
 have HKE:=xH (l45Keep_any (w.heap.size+1) w3 v1 b1 (p2+1) HD3.out (by omega))
 clear HPK HB3 HBx HR2 HD3 HK2
 go_wp2_with fail
 refine HKE.out.mono ?_
 rintro e w4 ⟨zs,zv,p4,rfl,hz,hp4,HD4,HBy⟩
 have hs4:=HBy.out.size
 have hR4:=HR3.out.of_block (HBy.out.at HR3.out.lt (by omega))
 have hB5:=but_below HB4.out HBy.out (by omega)
 have hK4:=HK3.out.carry (w':=w4) (Q:=fun g=>w1.heap.size≤g∧g < w2.heap.size) (fun g hg=>HBy.out.at (by have:=hg.2;omega) (by have:=hg.1;omega)) (fun _ hg=>hg)
 obtain ⟨y0,y1,y2⟩:=cs3 hR4 (by omega)
 have z:=hR4.frozen
 simp only [row3] at y0 y1 y2
 have HF:Hid (DcDn w ((((w4).setCell ⟨w.heap.size,0,none⟩ (.slice a0 d.files.length r0)).setCell ⟨w.heap.size,1,none⟩ (.slice a1 d.names.length r1)).setCell ⟨w.heap.size,2,none⟩ (.slice a2 d.moves.length r2)) (.returned (.tuple #[.agg #[.slice a0 d.files.length r0,.slice a1 d.names.length r1,.slice a2 d.moves.length r2],.int .i64 ((r:Int) - 1),zv]))):=xH (by
  obtain ⟨s1,s2,-,-⟩:=set3 w4 w.heap.size (.slice a0 d.files.length r0) (.slice a1 d.names.length r1) (.slice a2 d.moves.length r2)
  have hs':∀ a,a≠w.heap.size→((((w4).setCell ⟨w.heap.size,0,none⟩ (.slice a0 d.files.length r0)).setCell ⟨w.heap.size,1,none⟩ (.slice a1 d.names.length r1)).setCell ⟨w.heap.size,2,none⟩ (.slice a2 d.moves.length r2)).heap[a]? = w4.heap[a]? := s1
  have hz':((((w4).setCell ⟨w.heap.size,0,none⟩ (.slice a0 d.files.length r0)).setCell ⟨w.heap.size,1,none⟩ (.slice a1 d.names.length r1)).setCell ⟨w.heap.size,2,none⟩ (.slice a2 d.moves.length r2)).heap.size=w4.heap.size:=s2
  exact ⟨d,⟨_,_,_⟩,_,zs,zv,rfl,hK4.carry (fun g hg=>hs' g (by have:=hg.1;omega)) (fun g hg=>⟨by have:=hg.1;omega,by rw [hz'];have:=hg.2;omega⟩),hz.carry (fun g hg=>hs' g (by have:=hg.1;omega)) (fun g hg=>⟨by have:=hg.1;omega,by rw [hz'];exact hg.2⟩),((hB5.setCell (by simp) _).setCell (by simp) _).setCell (by simp) _⟩)
 clear hz hR4 hB5 hK4 HKE HB4 HR3 HK3 HD4 HBy
 generalize d.files.length=M0 at *
 generalize d.names.length=M1 at *
 generalize d.moves.length=M2 at *
 go_wp2_with fail
 refine bodyPost_ret (v:=.tuple #[.agg #[.slice a0 M0 r0,.slice a1 M1 r1,.slice a2 M2 r2],.int .i64 ((r:Int) - 1),zv]) (by simp [results,Try.results14,go_sem,y0,y1,y2]) rfl ?_
 exact xU HF

end Go.Proofs.Yteikmbkljkkjiaa
