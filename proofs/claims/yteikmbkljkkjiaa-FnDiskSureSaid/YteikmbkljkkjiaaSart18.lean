/- A part. -/
import Derived.Test.YteikmbkljkkjiaaSart17
namespace Go.Proofs.Yteikmbkljkkjiaa
open Go Go.RowKit
set_option maxRecDepth 100000
set_option maxHeartbeats 12800000
noncomputable def lo27Ops:Array Oper:=fops Try.f70 27
theorem lo27_neat:Region.noSelect lo27Ops=true∧neat lo27Ops=true:=⟨by kernel_rfl,by kernel_rfl⟩
theorem lo27 (B3 B8:Nat) (next:Int) (sa data y:ByteArray) (W0:World) {l:List Value} (Q:Exit→Act→World→Prop) (hQ:∀ c a d v w,Q (.panic c) (Act.put a d v) w→Q (.panic c) a w) (hB3:B3 < W0.drew.heap.size) (h1:W0.drew.cell? ⟨B3,1,none⟩=some (.string data)) (hB8:B8 < W0.drew.heap.size) (h7:W0.drew.cell? ⟨B8,7,none⟩=some (.int .i64 next)) (HF:∀ W,Calls Try.prog 91 #[.agg #[.int .i64 next,.string data]] W fun e w'=>e=.returned (.string y)∧Below W.heap.size W w')
 (hl:lookL [(3,.pointer (some ⟨B3,0,none⟩)),(8,.pointer (some ⟨B8,0,none⟩)),(11,.string sa)] l=(126,([(3,.pointer (some ⟨B3,0,none⟩)),(8,.pointer (some ⟨B8,0,none⟩)),(11,.string sa)]:List (Nat × Value)).map (·.2)))
 (hend:∀ (u:Nat→Value) (W:World) (g:Nat),Below W0.drew.heap.size W0.drew W→Lies W g [.int .i64 2,.string sa,.string y]→W0.drew.heap.size≤g→Q .normal ⟨(frL u 126 [(4,.slice (some ⟨g,0,none⟩) 1 1),(5,.int .i64 next),(6,.int .i64 0)]).toArray,[]⟩ W):(Code.region 27 lo27Ops true).wp Try.prog Q ⟨l.toArray,[]⟩ W0:=by
 obtain ⟨v0,rfl⟩:=look_fr hl
 have hq:NtQ lo27Ops Q:=⟨lo27_neat,hQ⟩
 refine T_start (S:=fun W=>Below W0.drew.heap.size W0.drew W) (by kernel_rfl) (Below.refl _ _) ?_
 clear hl hQ
 generalize W0.drew=V at hB3 h1 hB8 h7 hend ⊢
 refine T_a hq [0,1,2,3,4,5,9,10] (fun w h=>.cons (ldIntR _ _ _ ((h.cell hB8).trans h7)) (.cons (ldStr _ _ _ ((h.cell hB3).trans h1)) (.cons (ldIntR _ _ _ ((h.cell hB8).trans h7)) (Lds.nil)))) (by kernel_rfl) ?_
 refine T_fr 14 126 [6,7,8,11,12,13] [(3,.pointer (some ⟨B3,0,none⟩)),(8,.pointer (some ⟨B8,0,none⟩)),(11,.string sa),(115,.string sa),(116,.pointer (some ⟨B8,7,none⟩)),(117,.int .i64 next),(118,.pointer (some ⟨B3,1,none⟩)),(119,.string data),(120,.agg #[.int .i64 next,.string data]),(124,.pointer (some ⟨B8,7,none⟩)),(125,.int .i64 next)] (by kernel_rfl) fun u=>?_
 refine T_one 6 (by kernel_rfl) fun _=>O_go (HF V) (by kernel_rfl) ?_
 rintro e w1 ⟨rfl,hb1⟩
 refine ⟨_,rfl,hb1,?_⟩
 refine T_z hq [7] (by kernel_rfl) ?_
 refine T_fr 14 126 [8,11,12,13] [(3,.pointer (some ⟨B3,0,none⟩)),(8,.pointer (some ⟨B8,0,none⟩)),(11,.string sa),(120,.agg #[.int .i64 next,.string data]),(122,.agg #[.int .i64 2,.string sa,.string y]),(125,.int .i64 next)] (by kernel_rfl) fun u=>?_
 refine T_one 8 (by kernel_rfl) fun _=>?_
 refine O_val (w':=w1.alloc (.cells #[.int .i64 2,.string sa,.string y] 29)) (some 123) (.slice (some ⟨w1.heap.size,0,none⟩) 1 1) (by kernel_rfl) (by kernel_rfl) (hb1.alloc hb1.size _) ?_
 refine T_z hq [11,12,13] (by kernel_rfl) ?_
 exact T_end 126 [(4,.slice (some ⟨w1.heap.size,0,none⟩) 1 1),(5,.int .i64 next),(6,.int .i64 0)] (by kernel_rfl) (by kernel_rfl) fun hS u=>hend u _ w1.heap.size hS (lies_alloc w1 [.int .i64 2,.string sa,.string y] 29) hb1.size
theorem frB_size8 (p:Int) (x:ByteArray):(frB p x).size≤3000:=by
 unfold frB
 split
 · rename_i h
   unfold frOk at h
   simp only [decide_eq_true_eq] at h
   rw [ByteArray.size_append,ByteArray.size_append]
   show 2+3+x.size≤3000
   omega
 · decide
def LwEnd (n:Nat) (w w':World) (e:Ending):Prop:=∃ (ws:List Wr) (v:Value) (pos code:Int),e=.returned (.tuple #[v,.int .i64 pos,.int .i64 code])∧WsAt (New w w') w' v ws∧ws.length≤n∧(∀ x,x∈ws→x.x.size≤1000∧x.y.size≤1000000)∧Below w.heap.size w w'
theorem WrE9.lw {n:Nat} {w w1 w':World} {ws:List Wr} {v:Value} {code:Int} (hb:Below w.heap.size w w1) (h1:WsAt (New w1 w') w' v ws) (h2:ws.length≤n) (hn:n≤1030) (h3:∀ x,x∈ws→x.x.size≤1000∧x.y.size≤1000000) (h4:Below w1.heap.size w1 w'):LwEnd 1030 w w' (.returned (.tuple #[v,.int .i64 0,.int .i64 code])) :=
 ⟨ws,v,0,code,rfl,h1.carry (fun _ _=>rfl) (fun _ hb'=>⟨Nat.le_trans hb.size hb'.1,hb'.2⟩),Nat.le_trans h2 hn,h3,hb.trans (h4.mono hb.size)⟩
theorem lies_cell {W:World} {g j:Nat} {u:Value} {vs:List Value} (h:Lies W g vs) (hu:vs[j]? = some u):W.cell? ⟨g,j,none⟩=some u:=by
 have:=h.2 j u hu
 rw [addr_add,Nat.zero_add] at this
 exact this
theorem names_dk {d:Dk} (h:DkOkS d):∀ f,f∈d.files→f.name.size≤1048576:=fun f hf=>by
 obtain ⟨i,hi,rfl⟩:=List.getElem_of_mem hf
 exact Nat.le_trans (name_size (h.file i hi (by rw [h.len];exact hi)).name) (by decide)
theorem specLogWrites_any (d:Dk) (c:C3) (kind after moves:Int) (data:ByteArray) (cuts:Bool) (vk:Value) (hvk:vk.oneCell'=true) (P:Nat→Prop) (w:World) (hP:∀ b,P b→b < w.heap.size) (hd:DkAt P w d c) (hdat:data.size≤9223372036854775000) :
 Calls Try.prog 70 #[.agg #[c.c0,c.c1,c.c2],.agg #[.int .i64 kind,.string data,.bool cuts,.int .i64 after,.int .i64 moves,vk]] w fun e w'=>LwEnd 1030 w w' e:=by
 have HDA:=xH (fun W (hW:Below w.heap.size w W)=>(⟨fun b hb=>Nat.lt_of_lt_of_le (hP b hb) hW.size,hd.carry (fun b hb=>hW.block b (hP b hb)) (fun _ h=>h)⟩:(∀ b,P b→b < W.heap.size)∧DkAt P W d c))
 have HOP:=xH (fun W (hW:Below w.heap.size w W)=>specLogOpen_any d P c W (HDA.out W hW).1 (HDA.out W hW).2)
 have HBI:=xH (fun W (hW:Below w.heap.size w W) (hk:DkOkS d)=>l44Birth_any d c P W (HDA.out W hW).1 (HDA.out W hW).2 (names_dk hk))
 have HME:=xH (fun (code num size next:Int) (torn:Bool) (l:Pl) (vP:Value) (a8:Option Addr) (n8 p8:Nat) (Q:Nat→Prop) W (hW:Below w.heap.size w W) (hQ:∀ b,Q b→b < W.heap.size) (hs:StOk Q W num l vP)=>l44Mend_any d c code num size next torn l vP a8 n8 p8 P Q W (HDA.out W hW).1 hQ (HDA.out W hW).2 hs)
 have HCL:=xH (fun (code num size next:Int) (torn:Bool) (l:Pl) (vP:Value) (a8:Option Addr) (n8 p8:Nat) (Q:Nat→Prop) W (hW:Below w.heap.size w W) (hk:DkOkS d) (hQ:∀ b,Q b→b < W.heap.size) (hs:StOk Q W num l vP)=>l44Close_any d c code num size next torn l vP a8 n8 p8 P Q W (HDA.out W hW).1 hQ (HDA.out W hW).2 (names_dk hk) hs)
 obtain ⟨c0,c1,c2⟩:=c
 obtain ⟨a0,p0,g0,-,-⟩:=hd.fs.open
 obtain ⟨a1,p1,g1,-,-⟩:=id hd.ns
 obtain ⟨a2,p2,g2,-,-⟩:=hd.ms.open
 simp only at g0 g1 g2
 subst g0 g1 g2
 have hb0:Below w.heap.size w ((w.alloc (.cells #[.slice a0 d.files.length p0,.slice a1 d.names.length p1,.slice a2 d.moves.length p2] 27)).alloc (.cells #[.int .i64 kind,.string data,.bool cuts,.int .i64 after,.int .i64 moves,vk] 124)):=((Below.refl _ _).alloc (Nat.le_refl _) _).alloc (by simp) _
 have hr1:=(row3_alloc w (.slice a0 d.files.length p0) (.slice a1 d.names.length p1) (.slice a2 d.moves.length p2) 27).alloc (.cells #[.int .i64 kind,.string data,.bool cuts,.int .i64 after,.int .i64 moves,vk] 124)
 have hli:=lies_alloc (w.alloc (.cells #[.slice a0 d.files.length p0,.slice a1 d.names.length p1,.slice a2 d.moves.length p2] 27)) [.int .i64 kind,.string data,.bool cuts,.int .i64 after,.int .i64 moves,vk] 124
 rw [World.size_alloc] at hli
 have HB0:=xH hb0;have HR1:=xH hr1;have HLI:=xH hli
 clear hP hd hb0 hr1 hli HDA
 go_enter Try.func70,Try.ntmps70
 go_wp2_with fail
 generalize ((w.alloc (.cells #[.slice a0 d.files.length p0,.slice a1 d.names.length p1,.slice a2 d.moves.length p2] 27)).alloc (.cells #[.int .i64 kind,.string data,.bool cuts,.int .i64 after,.int .i64 moves,vk] 124))=W0 at HB0 HR1 HLI ⊢
 have HBA:=xH (HB0.out.alloc HB0.out.size (.cells #[] 29))
 refine (HOP.out (W0.alloc (.cells #[] 29)) HBA.out).mono ?_
 rintro e w1 ⟨code,num,size,next,torn,l,vP,a8,n8,p8,rfl,hpt,hlen,hnums,hnum,hop,hcd,hb1⟩
 obtain ⟨va,vc,rfl,-,-⟩:=hpt.open
 have hba0:=(Below.refl W0.heap.size W0).alloc (Nat.le_refl _) (.cells #[] 29)
 have hb01:=hba0.trans (hb1.mono hba0.size)
 have HB1:=xH (HBA.out.trans (hb1.mono HBA.out.size))
 have HRD:=xH (HR1.out.of_block (hb01.block _ HR1.out.lt))
 have HL1:=xH (HLI.out.on hb01)
 have HST:Hid (StOk (fun b=>b < w1.heap.size) w1 num l (.slice va l.parts.length vc)):=⟨hpt.carry (fun _ _=>rfl) (fun b hb=>hb.2),hlen,hnums,hnum,hop⟩
 have hal:=(Below.refl w1.heap.size w1).alloc (Nat.le_refl _) (.cells #[.int .i64 code,.int .i64 num,.slice va l.parts.length vc,.int .i64 l.op,.int .i64 l.fi,.int .i64 size,.bool torn,.int .i64 next,.slice a8 n8 p8] 118)
 have HB2:=xH (HB1.out.alloc HB1.out.size (.cells #[.int .i64 code,.int .i64 num,.slice va l.parts.length vc,.int .i64 l.op,.int .i64 l.fi,.int .i64 size,.bool torn,.int .i64 next,.slice a8 n8 p8] 118))
 have HRD2:=xH (HRD.out.alloc (.cells #[.int .i64 code,.int .i64 num,.slice va l.parts.length vc,.int .i64 l.op,.int .i64 l.fi,.int .i64 size,.bool torn,.int .i64 next,.slice a8 n8 p8] 118))
 have HL2:=xH (HL1.out.on hal)
 have HR9:=xH (row9_alloc w1 (.int .i64 code) (.int .i64 num) (.slice va l.parts.length vc) (.int .i64 l.op) (.int .i64 l.fi) (.int .i64 size) (.bool torn) (.int .i64 next) (.slice a8 n8 p8) 118)
 have HST2:=xH (HST.out.carry (w':=w1.alloc (.cells #[.int .i64 code,.int .i64 num,.slice va l.parts.length vc,.int .i64 l.op,.int .i64 l.fi,.int .i64 size,.bool torn,.int .i64 next,.slice a8 n8 p8] 118)) (Q:=fun b=>b < (w1.alloc (.cells #[.int .i64 code,.int .i64 num,.slice va l.parts.length vc,.int .i64 l.op,.int .i64 l.fi,.int .i64 size,.bool torn,.int .i64 next,.slice a8 n8 p8] 118)).heap.size) (fun b hb=>hal.block b hb) (fun b hb=>Nat.lt_of_lt_of_le hb hal.size))
 clear hpt hb1 hba0 hb01 hlen hnums hnum hal HBA HR1 HLI HB1 HRD HL1 HST HOP
 go_upto_region 3 with fail
 generalize w1.alloc (.cells #[.int .i64 code,.int .i64 num,.slice va l.parts.length vc,.int .i64 l.op,.int .i64 l.fi,.int .i64 size,.bool torn,.int .i64 next,.slice a8 n8 p8] 118)=W2 at HB2 HRD2 HL2 HR9 HST2 ⊢
 have q0:=lies_cell (j:=0) HL2.out rfl
 have q1:=lies_cell (j:=1) HL2.out rfl
 obtain ⟨z0,z1,z2,z3,z4,z5,z6,z7,z8⟩:=cell9 HR9.out
 obtain ⟨k0,k1,k2⟩:=cs3 HRD2.out (by omega)
 simp only [row3] at k0 k1 k2
 have HVK:=xH hvk
 obtain ⟨D1,hD1⟩:∃ D:ByteArray,⟨(Lib.itoa l.op).toArray⟩=D:=⟨_,rfl⟩
 have HD1:=xH (fun W=>l6Dec_any l.op W (by omega) (by omega))
 have hsD1:D1.size≤100:=by rw [← hD1];exact decB_le (by omega) (by omega)
 rw [hD1] at HD1
 obtain ⟨E1,hE1⟩:∃ E:ByteArray,⟨#[115]⟩++D1=E:=⟨_,rfl⟩
 have haE1:∀ T,binOp .add T (.string ⟨#[115]⟩) (.string D1)=pure (.string E1):=fun T=>by
  rw [← hE1];exact addP T _ _ (by have e:(⟨#[115]⟩:ByteArray).size=1:=rfl;omega)
 have hsE:E1.size≤1000:=by
  have e1:(⟨#[115]⟩:ByteArray).size=1:=rfl
  rw [← hE1,ByteArray.size_append];omega
 clear hD1 hE1 hsD1
 by_cases h0:code=0
 case neg =>
  have e0:(code != 0)=true:=by simp [h0]
  by_cases h1:code=1
  · have e1:(code==1)=true:=by simp [h1]
    by_cases h4:kind=4
    · have e4:(kind==4)=true:=by simp [h4]
      have hk:DkOkS d:=hcd.resolve_left (by omega)
      clear HD1 haE1 HME HCL
      go_wp2_with fail
      refine (HBI.out W2 HB2.out hk).mono ?_
      rintro e w3 ⟨ws,v,co,rfl,i1,i2,i3,i4⟩
      obtain ⟨ua,uc,rfl,-,-⟩:=i1.open
      have HEND:=xH (WrE9.lw (code:=co) HB2.out i1 i2 (by decide) i3 i4)
      clear i1 i2 i3 i4 HBI
      go_wp2_with fail
      refine bodyPost_ret (v:=.tuple #[.slice ua ws.length uc,.int .i64 0,.int .i64 co]) (by simp [results,Try.results70,go_sem]) rfl ?_
      exact xU HEND
    · have e4:(kind==4)=false:=beq_eq_false_iff_ne.2 h4
      subst h1
      go_wp2_with fail
      refine (HD1.out W2).mono ?_
      rintro e w3 ⟨rfl,hb3⟩
      have HB3:=xH (HB2.out.trans (hb3.mono HB2.out.size))
      obtain ⟨y0,y1,y2,y3,y4,y5,y6,y7,y8⟩:=cell9 (HR9.out.of_block (hb3.block _ HR9.out.lt))
      have HEND:Hid (∀ W,Below w3.heap.size w3 W→LwEnd 1030 w W (.returned (.tuple #[.slice (some ⟨w.heap.size+1+1,0,none⟩) 0 0,.int .i64 0,.int .i64 1]))):=fun W hW=>⟨[],_,0,1,rfl,ws_nil _ _,by decide,fun x hx=>(by cases hx),HB3.out.trans (hW.mono HB3.out.size)⟩
      clear hb3 HD1 HBI HME HCL HST2 HR9 HRD2 HL2 z0 z1 z2 z3 z4 z5 z6 z7 z8 q0 q1 k0 k1 k2
      go_wp2_with fail
      go_quiet (fail)
      go_wp2_with fail
      refine bodyPost_ret (v:=.tuple #[.slice (some ⟨w.heap.size+1+1,0,none⟩) 0 0,.int .i64 0,.int .i64 1]) (by simp [results,Try.results70,go_sem]) rfl ?_
      exact xU HEND _ (below_drewN (Below.refl _ _) _)
  · have e1:(code==1)=false:=beq_eq_false_iff_ne.2 h1
    go_wp2_with fail
    refine (HD1.out W2).mono ?_
    rintro e w3 ⟨rfl,hb3⟩
    have HB3:=xH (HB2.out.trans (hb3.mono HB2.out.size))
    obtain ⟨y0,y1,y2,y3,y4,y5,y6,y7,y8⟩:=cell9 (HR9.out.of_block (hb3.block _ HR9.out.lt))
    have HEND:Hid (∀ W,Below w3.heap.size w3 W→LwEnd 1030 w W (.returned (.tuple #[.slice (some ⟨w.heap.size+1+1,0,none⟩) 0 0,.int .i64 0,.int .i64 code]))):=fun W hW=>⟨[],_,0,code,rfl,ws_nil _ _,by decide,fun x hx=>(by cases hx),HB3.out.trans (hW.mono HB3.out.size)⟩
    clear hb3 HD1 HBI HME HCL HST2 HR9 HRD2 HL2 z0 z1 z2 z3 z4 z5 z6 z7 z8 q0 q1 k0 k1 k2
    go_wp2_with fail
    go_quiet (fail)
    go_wp2_with fail
    refine bodyPost_ret (v:=.tuple #[.slice (some ⟨w.heap.size+1+1,0,none⟩) 0 0,.int .i64 0,.int .i64 code]) (by simp [results,Try.results70,go_sem]) rfl ?_
    exact xU HEND _ (below_drewN (Below.refl _ _) _)
 subst h0
 have hk:DkOkS d:=hcd.resolve_left (by omega)
 go_wp2_with fail
 refine (HD1.out W2).mono ?_
 rintro e w3 ⟨rfl,hb3⟩
 have HB3:=xH (HB2.out.trans (hb3.mono HB2.out.size))
 have HR93:=xH (HR9.out.of_block (hb3.block _ HR9.out.lt))
 have HRD3:=xH (HRD2.out.of_block (hb3.block _ HRD2.out.lt))
 have HL3:=xH (HL2.out.on hb3)
 have HST3:=xH (HST2.out.carry (w':=w3) (Q:=fun b=>b < w3.heap.size) (fun b hb=>hb3.block b hb) (fun b hb=>Nat.lt_of_lt_of_le hb hb3.size))
 clear hb3 HD1 HB2 HR9 HRD2 HL2 HST2 z0 z1 z2 z3 z4 z5 z6 z7 z8 q0 q1 k0 k1 k2 HBI
 have q0:=lies_cell (j:=0) HL3.out rfl
 have q1:=lies_cell (j:=1) HL3.out rfl
 obtain ⟨z0,z1,z2,z3,z4,z5,z6,z7,z8⟩:=cell9 HR93.out
 obtain ⟨k0,k1,k2⟩:=cs3 HRD3.out (by omega)
 simp only [row3] at k0 k1 k2
 by_cases h4:kind=4
 · subst h4
   clear HCL
   go_wp2_with fail
   refine (HME.out 0 num size next torn l (.slice va l.parts.length vc) a8 n8 p8 _ w3 HB3.out (fun _ h=>h) HST3.out).mono ?_
   rintro e w4 ⟨ws,v,co,rfl,i1,i2,i3,i4⟩
   obtain ⟨ua,uc,rfl,-,-⟩:=i1.open
   have HEND:=xH (WrE9.lw (code:=co) HB3.out i1 i2 (by decide) i3 i4)
   clear i1 i2 i3 i4 HME
   go_wp2_with fail
   refine bodyPost_ret (v:=.tuple #[.slice ua ws.length uc,.int .i64 0,.int .i64 co]) (by simp [results,Try.results70,go_sem]) rfl ?_
   exact xU HEND
 have e4:(kind==4)=false:=beq_eq_false_iff_ne.2 h4
 clear HME
 have HIN:=xH (l6In_any kind 1 4 w3)
 go_wp2_with fail
 refine HIN.out.mono ?_
 rintro e w4 ⟨rfl,rfl⟩
 clear HIN
 by_cases h14:1≤kind∧kind≤4
 case neg =>
  rw [decide_eq_false h14]
  have HEND:Hid (LwEnd 1030 w w4 (.returned (.tuple #[.slice (some ⟨w.heap.size+1+1,0,none⟩) 0 0,.int .i64 0,.int .i64 7]))):=⟨[],_,0,7,rfl,ws_nil _ _,by decide,fun x hx=>(by cases hx),HB3.out⟩
  go_wp2_with fail
  refine bodyPost_ret (v:=.tuple #[.slice (some ⟨w.heap.size+1+1,0,none⟩) 0 0,.int .i64 0,.int .i64 7]) (by simp [results,Try.results70,go_sem]) rfl ?_
  exact xU HEND
 rw [decide_eq_true h14]
 cases torn with
 | true =>
   have HEND:Hid (LwEnd 1030 w w4 (.returned (.tuple #[.slice (some ⟨w.heap.size+1+1,0,none⟩) 0 0,.int .i64 0,.int .i64 3]))):=⟨[],_,0,3,rfl,ws_nil _ _,by decide,fun x hx=>(by cases hx),HB3.out⟩
   go_wp2_with fail
   refine bodyPost_ret (v:=.tuple #[.slice (some ⟨w.heap.size+1+1,0,none⟩) 0 0,.int .i64 0,.int .i64 3]) (by simp [results,Try.results70,go_sem]) rfl ?_
   exact xU HEND
 | false =>
 by_cases h2:kind=2
 · subst h2
   have HOK:Hid (∀ y,y∈([⟨3,E1,⟨#[]⟩⟩]:List Wr)→y.x.size≤1000∧y.y.size≤1000000):=fun y hy=>by
    rw [List.mem_singleton.1 hy]
    exact ⟨hsE,show (⟨#[]⟩:ByteArray).size≤1000000 by decide⟩
   have HW1:Hid (WoS w4.heap.size (w4.alloc (.cells #[.int .i64 3,.string E1,.string ⟨#[]⟩] 29)) (.slice (some ⟨w4.heap.size,0,none⟩) 1 1) [⟨3,E1,⟨#[]⟩⟩]):=⟨own_lit w4 w4.heap.size 29 3 1 [.int .i64 3,.string E1,.string ⟨#[]⟩] (Nat.le_refl _) rfl (by decide),HOK.out⟩
   have HEND:Hid (LwEnd 1030 w (w4.alloc (.cells #[.int .i64 3,.string E1,.string ⟨#[]⟩] 29)) (.returned (.tuple #[.slice (some ⟨w4.heap.size,0,none⟩) 1 1,.int .i64 0,.int .i64 0]))):=⟨[⟨3,E1,⟨#[]⟩⟩],_,0,0,rfl,HW1.out.at.carry (fun _ _=>rfl) (fun b hb=>⟨Nat.le_trans HB3.out.size hb.1,hb.2⟩),by simp,HOK.out,HB3.out.alloc HB3.out.size _⟩
   clear HW1 HOK HCL
   go_wp2_with fail
   refine bodyPost_ret (v:=.tuple #[.slice (some ⟨w4.heap.size,0,none⟩) 1 1,.int .i64 0,.int .i64 0]) (by simp [results,Try.results70,go_sem]) rfl ?_
   exact xU HEND
 have e2:(kind==2)=false:=beq_eq_false_iff_ne.2 h2
 by_cases h3:kind=3
 · subst h3
   go_wp2_with fail
   refine (HCL.out 0 num size next false l (.slice va l.parts.length vc) a8 n8 p8 _ w4 HB3.out hk (fun _ h=>h) HST3.out).mono ?_
   rintro e w5 ⟨us,v,co,rfl,i1,i2,i3,i4⟩
   obtain ⟨ua,uc,rfl,-,-⟩:=i1.open
   have HUS:=xH i1;have HUO:=xH i3;have HB5:=xH (HB3.out.trans (i4.mono HB3.out.size))
   clear i1 i3 i4 HCL
   by_cases hc0:co=0
   case neg =>
    have ec:(co != 0)=true:=by simp [hc0]
    have HEND:Hid (LwEnd 1030 w w5 (.returned (.tuple #[.slice (some ⟨w.heap.size+1+1,0,none⟩) 0 0,.int .i64 0,.int .i64 co]))):=⟨[],_,0,co,rfl,ws_nil _ _,by decide,fun x hx=>(by cases hx),HB5.out⟩
    go_wp2_with fail
    refine bodyPost_ret (v:=.tuple #[.slice (some ⟨w.heap.size+1+1,0,none⟩) 0 0,.int .i64 0,.int .i64 co]) (by simp [results,Try.results70,go_sem]) rfl ?_
    exact xU HEND
   subst hc0
   have HOK:Hid (∀ y,y∈([⟨3,E1,⟨#[]⟩⟩]:List Wr)→y.x.size≤1000∧y.y.size≤1000000):=fun y hy=>by
    rw [List.mem_singleton.1 hy]
    exact ⟨hsE,show (⟨#[]⟩:ByteArray).size≤1000000 by decide⟩
   have HW1:Hid (WoS w5.heap.size (w5.alloc (.cells #[.int .i64 3,.string E1,.string ⟨#[]⟩] 29)) (.slice (some ⟨w5.heap.size,0,none⟩) 1 1) [⟨3,E1,⟨#[]⟩⟩]):=⟨own_lit w5 w5.heap.size 29 3 1 [.int .i64 3,.string E1,.string ⟨#[]⟩] (Nat.le_refl _) rfl (by decide),HOK.out⟩
   have hal:=(Below.refl w5.heap.size w5).alloc (Nat.le_refl _) (.cells #[.int .i64 3,.string E1,.string ⟨#[]⟩] 29)
   have HSRC:=xH (flat_src (HUS.out.1.carry (w':=w5.alloc (.cells #[.int .i64 3,.string E1,.string ⟨#[]⟩] 29)) (Q:=fun _=>True) (fun b hb=>hal.block b hb.2) (fun _ _=>trivial)) (fun r hr=>by obtain ⟨x,-,rfl⟩:=List.mem_map.1 hr;rfl))
   have hbz:=hal.size
   clear hal HUS
   go_wp2_with (at_builtin;refine append_wr _ rfl _ _ rfl w5.heap.size (some ⟨w5.heap.size,0,none⟩) 1 [⟨3,E1,⟨#[]⟩⟩] 1 rfl rfl HW1 ua uc us.length us rfl rfl HUO HSRC (by decide) (by omega) hbz (1+us.length) rfl ?_;intro ga gc W7 ho7 hg7 hn7)
   have hbl:=(HB5.out.alloc HB5.out.size (.cells #[.int .i64 3,.string E1,.string ⟨#[]⟩] 29)).grown hg7.out (Nat.le_trans HB5.out.size hbz) (fun b e=>Nat.le_trans HB5.out.size (own_ge HW1.out.own e).1)
   have HEND:Hid (LwEnd 1030 w W7 (.returned (.tuple #[.slice ga (1+us.length) gc,.int .i64 0,.int .i64 0]))):=⟨_,_,0,0,rfl,ho7.out.at.carry (fun _ _=>rfl) (fun b hb=>⟨Nat.le_trans HB5.out.size hb.1,hb.2⟩),by rw [List.length_append];simp only [List.length_cons,List.length_nil];omega,ho7.out.ok,hbl⟩
   refine bodyPost_ret (v:=.tuple #[.slice ga (1+us.length) gc,.int .i64 0,.int .i64 0]) (by simp [results,Try.results70,go_sem]) rfl ?_
   exact xU HEND
 have e3:(kind==3)=false:=beq_eq_false_iff_ne.2 h3
 clear HCL
 by_cases h5:2000 < data.size
 · have e5:decide ((2000:Int) < (data.size:Int))=true:=decide_eq_true (by omega)
   have HEND:Hid (LwEnd 1030 w w4 (.returned (.tuple #[.slice (some ⟨w.heap.size+1+1,0,none⟩) 0 0,.int .i64 0,.int .i64 5]))):=⟨[],_,0,5,rfl,ws_nil _ _,by decide,fun x hx=>(by cases hx),HB3.out⟩
   go_wp2_with fail
   refine bodyPost_ret (v:=.tuple #[.slice (some ⟨w.heap.size+1+1,0,none⟩) 0 0,.int .i64 0,.int .i64 5]) (by simp [results,Try.results70,go_sem]) rfl ?_
   exact xU HEND
 have e5:decide ((2000:Int) < (data.size:Int))=false:=decide_eq_false (by omega)
 have h5n:¬ 2000 < data.size:=h5
 cases e6:decide ((999999:Int) < next) with
 | true =>
   have HEND:Hid (LwEnd 1030 w w4 (.returned (.tuple #[.slice (some ⟨w.heap.size+1+1,0,none⟩) 0 0,.int .i64 0,.int .i64 4]))):=⟨[],_,0,4,rfl,ws_nil _ _,by decide,fun x hx=>(by cases hx),HB3.out⟩
   go_wp2_with fail
   refine bodyPost_ret (v:=.tuple #[.slice (some ⟨w.heap.size+1+1,0,none⟩) 0 0,.int .i64 0,.int .i64 4]) (by simp [results,Try.results70,go_sem]) rfl ?_
   exact xU HEND
 | false =>
 cases e7:decide ((8000:Int) < wrap64 (wrap64 (size+5)+(data.size:Int))) with
 | true =>
   have HEND:Hid (LwEnd 1030 w w4 (.returned (.tuple #[.slice (some ⟨w.heap.size+1+1,0,none⟩) 0 0,.int .i64 0,.int .i64 4]))):=⟨[],_,0,4,rfl,ws_nil _ _,by decide,fun x hx=>(by cases hx),HB3.out⟩
   go_wp2_with fail
   refine bodyPost_ret (v:=.tuple #[.slice (some ⟨w.heap.size+1+1,0,none⟩) 0 0,.int .i64 0,.int .i64 4]) (by simp [results,Try.results70,go_sem]) rfl ?_
   exact xU HEND
 | false =>
 go_upto_region 27 with fail
 refine wp_swap (c':=Code.region 27 lo27Ops true) (by kernel_rfl) ?_
 refine wp_region_noPanic ?_
 have hfs:=frB_size8 next data
 refine lo27 (w.heap.size+1) w1.heap.size next E1 data (frB next data) w4 _ (fun _ _ _ _ _ h=>h) HL3.out.1 q1 HR93.out.lt z7 (fun W=>specLogFrame_any next data (by omega) W) (by kernel_rfl) ?_
 intro u W5 g hb5 hli hg
 refine NoPanic.normal ?_
 simp only [frL_eq,frG,List.lookup,Nat.reduceBEq,Nat.reduceAdd,Option.getD_some,Option.getD_none]
 have hok:∀ y,y∈([⟨2,E1,frB next data⟩]:List Wr)→y.x.size≤1000∧y.y.size≤1000000:=fun y hy=>by
  rw [List.mem_singleton.1 hy]
  exact ⟨hsE,Nat.le_trans hfs (by decide)⟩
 have HEND:Hid (LwEnd 1030 w W5 (.returned (.tuple #[.slice (some ⟨g,0,none⟩) 1 1,.int .i64 next,.int .i64 0]))):=by
  have hb45:Below w4.heap.size w4 W5:=(Below.refl _ _).drew.trans hb5
  have hgl:w4.heap.size≤g:=hg
  have hbz:=HB3.out.size
  exact ⟨[⟨2,E1,frB next data⟩],_,next,0,rfl,(ws_lies (cap:=1) hli (by simp) hok).carry (fun _ _=>rfl) (fun b hb=>by rw [hb];exact ⟨by omega,hli.1⟩),by simp,hok,HB3.out.trans (hb45.mono HB3.out.size)⟩
 clear hb5 hli hg hok HR93 HRD3 HL3 HST3 z0 z1 z2 z3 z4 z5 z6 z7 z8 q0 q1 k0 k1 k2
 go_wp2_with fail
 refine bodyPost_ret (v:=.tuple #[.slice (some ⟨g,0,none⟩) 1 1,.int .i64 next,.int .i64 0]) (by simp [results,Try.results70,go_sem]) rfl ?_
 exact xU HEND

theorem specDiskDo_any (d:Dk) (k:Int) (x y:ByteArray) (P:Nat→Prop) (c:C3) (w:World) (hP:∀ b,P b→b < w.heap.size) (hd:DkAt P w d c) (hx:x.size≤1048576) :
 Calls Try.prog 7 #[.agg #[c.c0,c.c1,c.c2],.agg #[.int .i64 k,.string x,.string y]] w fun e w'=>DoEnd w w' e (doD d k x y).1 (doD d k x y).2:=by
 obtain ⟨c0,c1,c2⟩:=c
 have HFO:=xH hd.fs.2;have HMO:=xH hd.ms.2
 have HNO:=xH (show ∀ z,z∈d.names→z.size≤9223372036854775807 from fun z hz=>by
  obtain ⟨a9,c9,-,-,h9⟩:=hd.ns
  obtain ⟨i,hi,rfl⟩:=List.getElem_of_mem hz
  obtain ⟨_,_,_,_,_,h⟩:=h9 i hi
  exact h)
 have HG0:=xH (Dg.start hd hP k x y)
 obtain ⟨a0,p0,g0,hl0,-⟩:=hd.fs.open
 obtain ⟨a1,p1,g1,hl1,-⟩:=id hd.ns
 obtain ⟨a2,p2,g2,hl2,-⟩:=hd.ms.open
 simp only at g0 g1 g2
 subst g0 g1 g2
 clear hd hP
 go_enter Try.func7,Try.ntmps7
 go_upto_region 1 with fail
 generalize ((w.alloc _).alloc _).alloc _=W0 at HG0 ⊢
 have HOK:=xH (specDiskOk_any d P ⟨.slice a0 d.files.length p0,.slice a1 d.names.length p1,.slice a2 d.moves.length p2⟩ W0 (xU HG0).pl (xU HG0).dk)
 obtain ⟨k0,k1,k2⟩:=cs3 ((xU HG0).b0) (by omega);have m0:=(xU HG0).b1.cell (i:=0) (by omega);have m1:=(xU HG0).b1.cell (i:=1) (by omega);have m2:=(xU HG0).b1.cell (i:=2) (by omega)
 simp only [row3] at k0 k1 k2 m0 m1 m2
 go_wp2_with fail
 refine (xU HOK).mono ?_
 rintro e w1 ⟨⟨r,rfl,hr⟩,hb1⟩
 have HG1:=xH ((xU HG0).on hb1)
 clear hb1 HG0 HOK k0 k1 k2 m0 m1 m2
 cases r with
 | false =>
   have HNO2:=xH (show ¬ DkOkS d from fun h=>by have:=hr.2 h;cases this)
   obtain ⟨y0,y1,y2⟩:=cs3 ((xU HG1).b2) (by omega);have yz:=(xU HG1).b2.frozen
   simp only [row3] at y0 y1 y2
   clear hr
   go_wp2_with fail
   try simp only [Exit.inBlock,Exit.then]
   refine bodyPost_ret (v:=.tuple #[.agg #[.slice none 0 0,.slice none 0 0,.slice none 0 0],.int .i64 1]) (by simp [results,Try.results7,go_sem,y0,y1,y2]) rfl ?_
   rw [doD_bad (xU HNO2)]
   exact ⟨⟨_,_,_⟩,rfl,(DkOwn.none _).at.carry (fun _ _=>rfl) (fun b hb=>(by cases hb)),(((xU HG1).bel.setCell (by simp;omega) _).setCell (by simp;omega) _).setCell (by simp;omega) _⟩
 | true =>
   have hok:=hr.1 rfl
   have HY:=xH hok
   have HCP:=xH (l41Copy_any d P ⟨.slice a0 d.files.length p0,.slice a1 d.names.length p1,.slice a2 d.moves.length p2⟩ w1 (xU HG1).pl (xU HG1).dk (by have:=hok.l1;omega) (by have:=hok.l2;omega) (by have:=hok.l3;omega))
   obtain ⟨k0,k1,k2⟩:=cs3 ((xU HG1).b0) (by omega);have m0:=(xU HG1).b1.cell (i:=0) (by omega);have m1:=(xU HG1).b1.cell (i:=1) (by omega);have m2:=(xU HG1).b1.cell (i:=2) (by omega)
   simp only [row3] at k0 k1 k2 m0 m1 m2
   clear hr hok
   go_wp2_with fail
   refine (xU HCP).mono ?_
   rintro e w3 ⟨⟨x0,x1,x2⟩,rfl,o0,o1,o2,hb3⟩
   simp only at o0 o1 o2
   obtain ⟨t0,s0,rfl⟩:=own_slice o0
   obtain ⟨t1,s1,rfl⟩:=own_slice o1
   obtain ⟨t2,s2,rfl⟩:=own_slice o2
   have HZ:=xH (show Dz P w d ⟨.slice a0 d.files.length p0,.slice a1 d.names.length p1,.slice a2 d.moves.length p2⟩ k x y w1.heap.size w3.heap.size ⟨.slice t0 d.files.length s0,.slice t1 d.names.length s1,.slice t2 d.moves.length s2⟩ d (w3.alloc (.cells #[.slice t0 d.files.length s0,.slice t1 d.names.length s1,.slice t2 d.moves.length s2] 27)) from ⟨((xU HG1).on hb3).on ((Below.refl _ _).alloc (Nat.le_refl _) _),⟨row3_alloc w3 _ _ _ _,o0.alloc _,o1.alloc _,o2.alloc _⟩,(xU HG1).sz,Nat.le_trans (xU HG1).sz hb3.size⟩)
   have hs3:=hb3.size
   clear o0 o1 o2 hb3 HCP HG1 k0 k1 k2 m0 m1 m2
   go_upto_region 4 with fail
   have HSZ:=xH (show w1.heap.size≤(w3.alloc (.cells #[.slice t0 d.files.length s0,.slice t1 d.names.length s1,.slice t2 d.moves.length s2] 27)).heap.size from by rw [World.size_alloc];have:=hs3;omega)
   clear hs3
   generalize w3.alloc _=W4 at HZ HSZ ⊢
   obtain ⟨k0,k1,k2⟩:=cs3 ((xU HZ).g.b0) (by omega);have m0:=(xU HZ).g.b1.cell (i:=0) (by omega);have m1:=(xU HZ).g.b1.cell (i:=1) (by omega);have m2:=(xU HZ).g.b1.cell (i:=2) (by omega)
   simp only [row3] at k0 k1 k2 m0 m1 m2
   by_cases e1:k=1
   · subst e1
     have HNM:=xH (l6NameOk_any x W4 (by omega))
     have HFD:=xH (l41Find_any (.slice a0 d.files.length p0) d.files x W4 (xU HZ).g.dk.fs)
     go_wp2_with fail
     refine (xU HNM).mono ?_
     rintro e w5 ⟨rfl,h5⟩
     have h6:=h5.symm;subst h6;clear h5
     clear HNM
     cases hn:nameOkB x with
     | false =>
       obtain ⟨y0,y1,y2⟩:=cs3 ((xU HZ).g.b2) (by omega);have yz:=(xU HZ).g.b2.frozen
       simp only [row3] at y0 y1 y2
       obtain ⟨u0,u1,u2⟩:=cs3 ((xU HZ).mx.row) (by omega);have uz:=(xU HZ).mx.row.frozen
       simp only [row3] at u0 u1 u2
       clear HFD
       go_wp2_with fail
       try simp only [Exit.inBlock,Exit.then]
       refine bodyPost_ret (v:=.tuple #[.agg #[.slice t0 d.files.length s0,.slice t1 d.names.length s1,.slice t2 d.moves.length s2],.int .i64 3]) (by simp [results,Try.results7,go_sem,y0,y1,y2]) rfl ?_
       rw [doD_taken (xU HY) (Or.inl hn)]
       exact (xU HZ).fin (xU HFO) (xU HNO) (xU HMO) 3
     | true =>
       go_wp2_with fail
       refine (xU HFD).mono ?_
       rintro e w5 ⟨rfl,h5⟩
       have h6:=h5.symm;subst h6;clear h5
       clear HFD
       by_cases hf:0≤findF d.files x
       · have HF:=xH hf
         have q1:decide (0≤findF d.files x)=true:=decide_eq_true hf
         clear hf
         obtain ⟨y0,y1,y2⟩:=cs3 ((xU HZ).g.b2) (by omega);have yz:=(xU HZ).g.b2.frozen
         simp only [row3] at y0 y1 y2
         obtain ⟨u0,u1,u2⟩:=cs3 ((xU HZ).mx.row) (by omega);have uz:=(xU HZ).mx.row.frozen
         simp only [row3] at u0 u1 u2
         go_wp2_with fail
         try simp only [Exit.inBlock,Exit.then]
         refine bodyPost_ret (v:=.tuple #[.agg #[.slice t0 d.files.length s0,.slice t1 d.names.length s1,.slice t2 d.moves.length s2],.int .i64 3]) (by simp [results,Try.results7,go_sem,y0,y1,y2]) rfl ?_
         rw [doD_taken (xU HY) (Or.inr (xU HF))]
         exact (xU HZ).fin (xU HFO) (xU HNO) (xU HMO) 3
       · have HF:=xH (show ¬ (nameOkB x=false∨0≤findF d.files x) from not_or.2 ⟨by rw [hn];simp,hf⟩)
         have q1:decide (0≤findF d.files x)=false:=decide_eq_false hf
         clear hf
         by_cases h64:64≤d.files.length
         · have q2:decide ((64:Int)≤(d.files.length:Int))=true:=decide_eq_true (by omega)
           obtain ⟨y0,y1,y2⟩:=cs3 ((xU HZ).g.b2) (by omega);have yz:=(xU HZ).g.b2.frozen
           simp only [row3] at y0 y1 y2
           obtain ⟨u0,u1,u2⟩:=cs3 ((xU HZ).mx.row) (by omega);have uz:=(xU HZ).mx.row.frozen
           simp only [row3] at u0 u1 u2
           go_wp2_with fail
           try simp only [Exit.inBlock,Exit.then]
           refine bodyPost_ret (v:=.tuple #[.agg #[.slice t0 d.files.length s0,.slice t1 d.names.length s1,.slice t2 d.moves.length s2],.int .i64 4]) (by simp [results,Try.results7,go_sem,y0,y1,y2]) rfl ?_
           rw [doD_full (xU HY) (xU HF) (Or.inl h64)]
           exact (xU HZ).fin (xU HFO) (xU HNO) (xU HMO) 4
         · have q2:decide ((64:Int)≤(d.files.length:Int))=false:=decide_eq_false (by omega)
           by_cases h128:128≤d.moves.length
           · have q3:decide ((128:Int)≤(d.moves.length:Int))=true:=decide_eq_true (by omega)
             obtain ⟨y0,y1,y2⟩:=cs3 ((xU HZ).g.b2) (by omega);have yz:=(xU HZ).g.b2.frozen
             simp only [row3] at y0 y1 y2
             obtain ⟨u0,u1,u2⟩:=cs3 ((xU HZ).mx.row) (by omega);have uz:=(xU HZ).mx.row.frozen
             simp only [row3] at u0 u1 u2
             go_wp2_with fail
             try simp only [Exit.inBlock,Exit.then]
             refine bodyPost_ret (v:=.tuple #[.agg #[.slice t0 d.files.length s0,.slice t1 d.names.length s1,.slice t2 d.moves.length s2],.int .i64 4]) (by simp [results,Try.results7,go_sem,y0,y1,y2]) rfl ?_
             rw [doD_full (xU HY) (xU HF) (Or.inr h128)]
             exact (xU HZ).fin (xU HFO) (xU HNO) (xU HMO) 4
           · have q3:decide ((128:Int)≤(d.moves.length:Int))=false:=decide_eq_false (by omega)
             obtain ⟨u0,u1,u2⟩:=cs3 ((xU HZ).mx.row) (by omega);have uz:=(xU HZ).mx.row.frozen
             simp only [row3] at u0 u1 u2
             obtain ⟨i5,hi0,hi1,hi2,hi3⟩:=infoFileD
             have HII:=xH hi0;have HI1:=xH hi1;have HI2:=xH hi2;have HI3:=xH hi3
             clear hi0 hi1 hi2 hi3
             go_upto_region 10 with (at_builtin;(refine append_row _ rfl _ _ 23 rfl w1.heap.size 44 i5 (.agg #[.string ByteArray.empty,.string ByteArray.empty,.int .i64 0]) 3 40 Try.underlying23 (xU HII) (xU HI1) (xU HI2) (xU HI3) rfl (by decide) (.slice t0 d.files.length s0) d.files.length (d.files.map Df.cs).flatten rfl (World.ownsRow.alloc (xU HZ).mx.o0 _) ⟨W4.heap.size,0,none⟩ 1 1 [.string x,.string ByteArray.empty,.int .i64 0] rfl rfl (cell_3 W4 _ _ _ _) (fun u hu=>by simp at hu;rcases hu with rfl | rfl | rfl <;> rfl) (by decide) (by unfold maxLen;omega) (by omega) (by rw [World.size_alloc];have:=(xU HSZ);omega) ?_;intro v' w5 hown5 hgrow5 hat5;obtain ⟨g5,cap5,rfl,-,-⟩:=hown5.form (by omega);obtain ⟨r5,hz5⟩:=(xU HZ).appF ⟨x,ByteArray.empty,0⟩ hown5 hgrow5;have HZ5:=xH hz5;have HSZ2:=xH (show w1.heap.size≤w5.heap.size from by have:=(grown_alloc hgrow5).size;have:=xU HSZ;omega);have f0:=r5.cell (i:=0) (by omega);have fz:=r5.frozen 0;simp only [row3] at f0;clear hown5 hgrow5 hat5 hz5 r5 HZ HII HI1 HI2 HI3 u0 u1 u2 uz k0 k1 k2 m0 m1 m2))
             have HSZ3:=xH (show w1.heap.size≤(w5.setCell ⟨w3.heap.size,0,none⟩ (.slice (some ⟨g5,0,none⟩) (d.files.length+1) cap5)).heap.size from by rw [World.size_setCell];exact xU HSZ2)
             clear f0 fz HSZ HSZ2
             generalize w5.setCell ⟨w3.heap.size,0,none⟩ _=W5 at HZ5 HSZ3 ⊢
             have HSZ:=HSZ3
             clear HSZ3
             obtain ⟨k0,k1,k2⟩:=cs3 ((xU HZ5).g.b0) (by omega);have m0:=(xU HZ5).g.b1.cell (i:=0) (by omega);have m1:=(xU HZ5).g.b1.cell (i:=1) (by omega);have m2:=(xU HZ5).g.b1.cell (i:=2) (by omega)
             simp only [row3] at k0 k1 k2 m0 m1 m2
             obtain ⟨u0,u1,u2⟩:=cs3 ((xU HZ5).mx.row) (by omega);have uz:=(xU HZ5).mx.row.frozen
             simp only [row3] at u0 u1 u2
             obtain ⟨i6,hi0,hi1,hi2,hi3⟩:=info_parts infoMoveM
             have HII:=xH hi0;have HI1:=xH hi1;have HI2:=xH hi2;have HI3:=xH hi3
             clear hi0 hi1 hi2 hi3
             go_upto_region 11 with (at_builtin;(refine append_row _ rfl _ _ 25 rfl w1.heap.size 60 i6 (.agg #[.bool false,.string ByteArray.empty]) 2 24 Try.underlying25 (xU HII) (xU HI1) (xU HI2) (xU HI3) rfl (by decide) (.slice t2 d.moves.length s2) d.moves.length (d.moves.map Dm.cs).flatten rfl (World.ownsRow.alloc (xU HZ5).mx.o2 _) ⟨W5.heap.size,0,none⟩ 1 1 [.bool false,.string x] rfl rfl (cell_2 W5 _ _ _) (fun u hu=>by simp at hu;rcases hu with rfl | rfl <;> rfl) (by decide) (by unfold maxLen;omega) (by omega) (by rw [World.size_alloc];have:=(xU HSZ);omega) ?_;intro v' w5 hown5 hgrow5 hat5;obtain ⟨g6,cap6,rfl,-,-⟩:=hown5.form (by omega);obtain ⟨r5,hz5⟩:=(xU HZ5).appM ⟨false,x⟩ hown5 hgrow5;have HZ6:=xH hz5;have HSZ2:=xH (show w1.heap.size≤w5.heap.size from by have:=(grown_alloc hgrow5).size;have:=xU HSZ;omega);have f0:=r5.cell (i:=2) (by omega);have fz:=r5.frozen 2;simp only [row3] at f0;clear hown5 hgrow5 hat5 hz5 r5 HZ5 HII HI1 HI2 HI3 u0 u1 u2 uz k0 k1 k2 m0 m1 m2))
             have HSZ3:=xH (show w1.heap.size≤(w5.setCell ⟨w3.heap.size,2,none⟩ (.slice (some ⟨g6,0,none⟩) (d.moves.length+1) cap6)).heap.size from by rw [World.size_setCell];exact xU HSZ2)
             clear f0 fz HSZ HSZ2
             generalize w5.setCell ⟨w3.heap.size,2,none⟩ _=W6 at HZ6 HSZ3 ⊢
             have HSZ:=HSZ3
             clear HSZ3
             obtain ⟨y0,y1,y2⟩:=cs3 ((xU HZ6).g.b2) (by omega);have yz:=(xU HZ6).g.b2.frozen
             simp only [row3] at y0 y1 y2
             obtain ⟨u0,u1,u2⟩:=cs3 ((xU HZ6).mx.row) (by omega);have uz:=(xU HZ6).mx.row.frozen
             simp only [row3] at u0 u1 u2
             go_wp2_with fail
             try simp only [Exit.inBlock,Exit.then]
             refine bodyPost_ret (v:=.tuple #[.agg #[.slice (some ⟨g5,0,none⟩) (d.files.length+1) cap5,.slice t1 d.names.length s1,.slice (some ⟨g6,0,none⟩) (d.moves.length+1) cap6],.int .i64 0]) (by simp [results,Try.results7,go_sem,y0,y1,y2]) rfl ?_
             rw [doD_make (xU HY) (xU HF) (by omega)]
             exact (xU HZ6).fin (okF (xU HFO) ⟨by simp only;omega,by simp only;decide,by unfold I64;simp⟩) (xU HNO) (okM (xU HMO) (show x.size≤9223372036854775807 by omega)) 0
   · have e1b:(k==1)=false:=by simpa using e1
     by_cases e5:k=5
     · subst e5
       go_upto_region 13 with fail
       clear k0 k1 k2 m0 m1 m2
       refine wp_swap (c':=Code.region 13 do13Ops true) (by kernel_rfl) ?_
       refine wp_region_noPanic ?_
       refine do13 P w d ⟨.slice a0 d.files.length p0,.slice a1 d.names.length p1,.slice a2 d.moves.length p2⟩ 5 x y (xU HY) _ _ (fun _ _ _ _ _ h=>h) ((xU HZ).g.on (drewB _)) (by kernel_rfl) ?_
       intro v c' W' hr hd hb
       refine NoPanic.normal ?_
       simp only [frL_eq,frG,List.lookup,Nat.reduceBEq,Nat.reduceAdd,Option.getD_some,Option.getD_none]
       obtain ⟨y0,y1,y2⟩:=cs3 hr (by omega)
       simp only [row3] at y0 y1 y2
       have HDD:=xH hd;have HBB:=xH hb
       clear hd hb hr
       go_wp2_with fail
       try simp only [Exit.inBlock,Exit.then]
       refine bodyPost_ret (v:=.tuple #[.agg #[c'.c0,c'.c1,c'.c2],.int .i64 0]) (by simp [results,Try.results7,go_sem,y0,y1,y2]) rfl ?_
       rw [doD_dirs (xU HY)]
       exact ⟨c',rfl,xU HDD,xU HBB⟩
     · have e5b:(k==5)=false:=by simpa using e5
       have HIN:=xH (inSame k 1 5 W4)
       by_cases hin:1≤k∧k≤5
       case neg =>
        have HDI:=xH (decide_eq_false hin)
        go_upto_region 15 with (refine (xU HIN).mono ?_;rintro e w5 ⟨rfl,h5⟩;have h6:=h5.symm;subst h6;clear h5;rw [xU HDI])
        obtain ⟨y0,y1,y2⟩:=cs3 ((xU HZ).g.b2) (by omega);have yz:=(xU HZ).g.b2.frozen
        simp only [row3] at y0 y1 y2
        obtain ⟨u0,u1,u2⟩:=cs3 ((xU HZ).mx.row) (by omega);have uz:=(xU HZ).mx.row.frozen
        simp only [row3] at u0 u1 u2
        go_wp2_with fail
        try simp only [Exit.inBlock,Exit.then]
        refine bodyPost_ret (v:=.tuple #[.agg #[.slice t0 d.files.length s0,.slice t1 d.names.length s1,.slice t2 d.moves.length s2],.int .i64 5]) (by simp [results,Try.results7,go_sem,y0,y1,y2]) rfl ?_
        rw [doD_kind (xU HY) hin]
        exact (xU HZ).fin (xU HFO) (xU HNO) (xU HMO) 5
       have HDI:=xH (decide_eq_true hin)
       have H24:=xH (show 2≤k∧k≤4 by omega)
       clear hin
       go_upto_region 16 with (refine (xU HIN).mono ?_;rintro e w5 ⟨rfl,h5⟩;have h6:=h5.symm;subst h6;clear h5;rw [xU HDI])
       clear k0 k1 k2 m0 m1 m2 HIN HDI
       refine wp_swap (c':=Code.region 16 do16Ops true) (by kernel_rfl) ?_
       refine wp_region_noPanic ?_
       refine do16 P w d ⟨.slice a0 d.files.length p0,.slice a1 d.names.length p1,.slice a2 d.moves.length p2⟩ k x y w1.heap.size w3.heap.size ⟨.slice t0 d.files.length s0,.slice t1 d.names.length s1,.slice t2 d.moves.length s2⟩ _ _ (fun _ _ _ _ _ h=>h) ((xU HZ).on (drewB _)) (by kernel_rfl) ?_
       intro v W5 hz
       refine NoPanic.normal ?_
       simp only [frL_eq,frG,List.lookup,Nat.reduceBEq,Nat.reduceAdd,Option.getD_some,Option.getD_none]
       have HZ5:=xH hz
       clear hz HZ
       cases hb:hasB (namesD d) x with
       | false =>
         have HNF:=xH (show x∉namesD d from fun h=>by have:=hasB_iff.2 h;rw [hb] at this;cases this)
         obtain ⟨y0,y1,y2⟩:=cs3 ((xU HZ5).g.b2) (by omega);have yz:=(xU HZ5).g.b2.frozen
         simp only [row3] at y0 y1 y2
         obtain ⟨u0,u1,u2⟩:=cs3 ((xU HZ5).mx.row) (by omega);have uz:=(xU HZ5).mx.row.frozen
         simp only [row3] at u0 u1 u2
         go_wp2_with fail
         try simp only [Exit.inBlock,Exit.then]
         refine bodyPost_ret (v:=.tuple #[.agg #[.slice t0 d.files.length s0,.slice t1 d.names.length s1,.slice t2 d.moves.length s2],.int .i64 2]) (by simp [results,Try.results7,go_sem,y0,y1,y2]) rfl ?_
         rw [doD_nofile (xU HY) (xU H24) (xU HNF)]
         exact (xU HZ5).fin (xU HFO) (xU HNO) (xU HMO) 2
       | true =>
         have hmem:x∈namesD d:=hasB_iff.1 hb
         obtain ⟨i,hi,-,-,hfi⟩:=names_file hmem
         have HMEM:=xH hmem;have HFI:=xH hfi
         have HFD:=xH (l41Find_any (.slice a0 d.files.length p0) d.files x W5 (xU HZ5).g.dk.fs)
         obtain ⟨k0,k1,k2⟩:=cs3 ((xU HZ5).g.b0) (by omega);have m0:=(xU HZ5).g.b1.cell (i:=0) (by omega);have m1:=(xU HZ5).g.b1.cell (i:=1) (by omega);have m2:=(xU HZ5).g.b1.cell (i:=2) (by omega)
         simp only [row3] at k0 k1 k2 m0 m1 m2
         clear hmem hfi
         obtain ⟨b0,q0,HA⟩:∃ b0 q0,Hid ((.slice a0 d.files.length p0:Value)=.slice (some ⟨b0,q0,none⟩) d.files.length p0):=by
          obtain ⟨aq,pq,eq1,-,hff⟩:=(xU HZ5).g.dk.fs.open
          obtain ⟨b0,q0,ea,-⟩:=hff i hi
          simp only [Value.slice.injEq,true_and] at eq1
          exact ⟨b0,q0,by show _=_;rw [eq1.1,ea]⟩
         obtain ⟨g,HO⟩:∃ g,Hid ((.slice t0 d.files.length s0:Value)=.slice (some ⟨g,0,none⟩) d.files.length s0):=by
          obtain ⟨g,cc,ef,-,-⟩:=(xU HZ5).mx.o0.form (by omega)
          simp only [Value.slice.injEq,true_and] at ef
          exact ⟨g,by show _=_;rw [ef.1]⟩
         have hdat:=((xU HY).file i hi (by rw [(xU HY).len];exact hi)).data
         have hok1:=xU HFO d.files[i] (List.getElem_mem hi)
         have HDAT:=xH hdat;have HOK1:=xH hok1
         clear hdat hok1
         obtain ⟨h2,h4⟩:=xU H24
         rcases (show k=2∨k=3∨k=4 by omega) with rfl | rfl | rfl
         · go_upto_region 24 with (refine (xU HFD).mono ?_;rintro e w6 ⟨rfl,h5⟩;have h6:=h5.symm;subst h6;clear h5;rw [xU HFI])
           clear k0 k1 k2 m0 m1 m2 HFD
           refine wp_swap (c':=Code.region 24 do24Ops true) (by kernel_rfl) ?_
           refine wp_region_noPanic ?_
           refine do24 P w d ⟨.slice a0 d.files.length p0,.slice a1 d.names.length p1,.slice a2 d.moves.length p2⟩ 2 x y w1.heap.size w3.heap.size ⟨.slice t0 d.files.length s0,.slice t1 d.names.length s1,.slice t2 d.moves.length s2⟩ i hi b0 q0 p0 (xU HA) _ _ (fun _ _ _ _ _ h=>h) ((xU HZ5).on (drewB _)) (by kernel_rfl) ?_
           intro v W6 hz
           refine NoPanic.normal ?_
           simp only [frL_eq,frG,List.lookup,Nat.reduceBEq,Nat.reduceAdd,Option.getD_some,Option.getD_none]
           have HZ6:=xH hz
           clear hz HZ5
           have hwr:IntKind.i64.wrap (20000 - (d.files[i].data.size:Int))=20000 - (d.files[i].data.size:Int):=by have:=xU HDAT;rw [IntKind.wrap_i64];omega
           rw [hwr]
           by_cases hfull:20000 - (d.files[i].data.size:Int) < (y.size:Int)
           · rw [decide_eq_true hfull]
             obtain ⟨y0,y1,y2⟩:=cs3 ((xU HZ6).g.b2) (by omega);have yz:=(xU HZ6).g.b2.frozen
             simp only [row3] at y0 y1 y2
             obtain ⟨u0,u1,u2⟩:=cs3 ((xU HZ6).mx.row) (by omega);have uz:=(xU HZ6).mx.row.frozen
             simp only [row3] at u0 u1 u2
             clear hwr
             go_wp2_with fail
             try simp only [Exit.inBlock,Exit.then]
             refine bodyPost_ret (v:=.tuple #[.agg #[.slice t0 d.files.length s0,.slice t1 d.names.length s1,.slice t2 d.moves.length s2],.int .i64 4]) (by simp [results,Try.results7,go_sem,y0,y1,y2]) rfl ?_
             rw [doD_addfull (xU HY) (xU HMEM) (by rw [fileD_at hi (xU HFI)];exact hfull)]
             exact (xU HZ6).fin (xU HFO) (xU HNO) (xU HMO) 4
           · rw [decide_eq_false hfull]
             go_upto_region 26 with fail
             refine wp_swap (c':=Code.region 26 do26Ops true) (by kernel_rfl) ?_
             refine wp_region_noPanic ?_
             refine do26 P w d ⟨.slice a0 d.files.length p0,.slice a1 d.names.length p1,.slice a2 d.moves.length p2⟩ 2 x y w1.heap.size w3.heap.size ⟨.slice t0 d.files.length s0,.slice t1 d.names.length s1,.slice t2 d.moves.length s2⟩ i hi b0 q0 p0 (xU HA) g s0 (xU HO) (by have:=xU HDAT;omega) _ _ (fun _ _ _ _ _ h=>h) ((xU HZ6).on (drewB _)) (by kernel_rfl) ?_
             intro v W7 hz
             refine NoPanic.normal ?_
             simp only [frL_eq,frG,List.lookup,Nat.reduceBEq,Nat.reduceAdd,Option.getD_some,Option.getD_none]
             have HZ7:=xH hz
             clear hz HZ6 hwr
             obtain ⟨y0,y1,y2⟩:=cs3 ((xU HZ7).g.b2) (by omega);have yz:=(xU HZ7).g.b2.frozen
             simp only [row3] at y0 y1 y2
             obtain ⟨u0,u1,u2⟩:=cs3 ((xU HZ7).mx.row) (by omega);have uz:=(xU HZ7).mx.row.frozen
             simp only [row3] at u0 u1 u2
             go_wp2_with fail
             try simp only [Exit.inBlock,Exit.then]
             refine bodyPost_ret (v:=.tuple #[.agg #[.slice t0 d.files.length s0,.slice t1 d.names.length s1,.slice t2 d.moves.length s2],.int .i64 0]) (by simp [results,Try.results7,go_sem,y0,y1,y2]) rfl ?_
             rw [doD_add (xU HY) (xU HMEM) (by rw [fileD_at hi (xU HFI)];omega),putD_at (xU HFI),fileD_at hi (xU HFI)]
             exact (xU HZ7).fin (okSet (xU HFO) ⟨(xU HOK1).1,by have:=xU HDAT;rw [ByteArray.size_append];omega,(xU HOK1).2.2⟩) (xU HNO) (xU HMO) 0
         · go_upto_region 28 with (refine (xU HFD).mono ?_;rintro e w6 ⟨rfl,h5⟩;have h6:=h5.symm;subst h6;clear h5;rw [xU HFI])
           clear k0 k1 k2 m0 m1 m2 HFD
           refine wp_swap (c':=Code.region 28 do28Ops true) (by kernel_rfl) ?_
           refine wp_region_noPanic ?_
           refine do28 P w d ⟨.slice a0 d.files.length p0,.slice a1 d.names.length p1,.slice a2 d.moves.length p2⟩ 3 x y w1.heap.size w3.heap.size ⟨.slice t0 d.files.length s0,.slice t1 d.names.length s1,.slice t2 d.moves.length s2⟩ i hi b0 q0 p0 (xU HA) g s0 (xU HO) _ _ (fun _ _ _ _ _ h=>h) ((xU HZ5).on (drewB _)) (by kernel_rfl) ?_
           intro v W7 hz
           refine NoPanic.normal ?_
           simp only [frL_eq,frG,List.lookup,Nat.reduceBEq,Nat.reduceAdd,Option.getD_some,Option.getD_none]
           have HZ7:=xH hz
           clear hz HZ5
           obtain ⟨y0,y1,y2⟩:=cs3 ((xU HZ7).g.b2) (by omega);have yz:=(xU HZ7).g.b2.frozen
           simp only [row3] at y0 y1 y2
           obtain ⟨u0,u1,u2⟩:=cs3 ((xU HZ7).mx.row) (by omega);have uz:=(xU HZ7).mx.row.frozen
           simp only [row3] at u0 u1 u2
           go_wp2_with fail
           try simp only [Exit.inBlock,Exit.then]
           refine bodyPost_ret (v:=.tuple #[.agg #[.slice t0 d.files.length s0,.slice t1 d.names.length s1,.slice t2 d.moves.length s2],.int .i64 0]) (by simp [results,Try.results7,go_sem,y0,y1,y2]) rfl ?_
           rw [doD_sync (xU HY) (xU HMEM),putD_at (xU HFI),fileD_at hi (xU HFI)]
           exact (xU HZ7).fin (okSet (xU HFO) ⟨(xU HOK1).1,(xU HOK1).2.1,by have:=xU HDAT;unfold I64;simp only;omega⟩) (xU HNO) (xU HMO) 0
         · by_cases h128:128≤d.moves.length
           · have q3:decide ((128:Int)≤(d.moves.length:Int))=true:=decide_eq_true (by omega)
             go_upto_region 21 with (refine (xU HFD).mono ?_;rintro e w6 ⟨rfl,h5⟩;have h6:=h5.symm;subst h6;clear h5;rw [xU HFI])
             obtain ⟨y0,y1,y2⟩:=cs3 ((xU HZ5).g.b2) (by omega);have yz:=(xU HZ5).g.b2.frozen
             simp only [row3] at y0 y1 y2
             obtain ⟨u0,u1,u2⟩:=cs3 ((xU HZ5).mx.row) (by omega);have uz:=(xU HZ5).mx.row.frozen
             simp only [row3] at u0 u1 u2
             go_wp2_with fail
             try simp only [Exit.inBlock,Exit.then]
             refine bodyPost_ret (v:=.tuple #[.agg #[.slice t0 d.files.length s0,.slice t1 d.names.length s1,.slice t2 d.moves.length s2],.int .i64 4]) (by simp [results,Try.results7,go_sem,y0,y1,y2]) rfl ?_
             rw [doD_gonefull (xU HY) (xU HMEM) h128]
             exact (xU HZ5).fin (xU HFO) (xU HNO) (xU HMO) 4
           · have q3:decide ((128:Int)≤(d.moves.length:Int))=false:=decide_eq_false (by omega)
             go_upto_region 22 with (refine (xU HFD).mono ?_;rintro e w6 ⟨rfl,h5⟩;have h6:=h5.symm;subst h6;clear h5;rw [xU HFI])
             have HSZ:Hid (w1.heap.size≤W5.heap.size):=by have:=(xU HZ5).mx.o0.lt g (by show Value.ownBlock (.slice t0 d.files.length s0)=some g;rw [xU HO];rfl);show _≤_;omega
             obtain ⟨u0,u1,u2⟩:=cs3 ((xU HZ5).mx.row) (by omega);have uz:=(xU HZ5).mx.row.frozen
             simp only [row3] at u0 u1 u2
             obtain ⟨i6,hi0,hi1,hi2,hi3⟩:=info_parts infoMoveM
             have HII:=xH hi0;have HI1:=xH hi1;have HI2:=xH hi2;have HI3:=xH hi3
             clear hi0 hi1 hi2 hi3
             go_upto_region 29 with (at_builtin;(refine append_row _ rfl _ _ 25 rfl w1.heap.size 60 i6 (.agg #[.bool false,.string ByteArray.empty]) 2 24 Try.underlying25 (xU HII) (xU HI1) (xU HI2) (xU HI3) rfl (by decide) (.slice t2 d.moves.length s2) d.moves.length (d.moves.map Dm.cs).flatten rfl (World.ownsRow.alloc (xU HZ5).mx.o2 _) ⟨W5.heap.size,0,none⟩ 1 1 [.bool true,.string x] rfl rfl (cell_2 W5 _ _ _) (fun u hu=>by simp at hu;rcases hu with rfl | rfl <;> rfl) (by decide) (by unfold maxLen;omega) (by omega) (by rw [World.size_alloc];have:=(xU HSZ);omega) ?_;intro v' w5 hown5 hgrow5 hat5;obtain ⟨g6,cap6,rfl,-,-⟩:=hown5.form (by omega);obtain ⟨r5,hz5⟩:=(xU HZ5).appM ⟨true,x⟩ hown5 hgrow5;have HZ6:=xH hz5;have HSZ2:=xH (show w1.heap.size≤w5.heap.size from by have:=(grown_alloc hgrow5).size;have:=xU HSZ;omega);have f0:=r5.cell (i:=2) (by omega);have fz:=r5.frozen 2;simp only [row3] at f0;clear hown5 hgrow5 hat5 hz5 r5 HZ5 HII HI1 HI2 HI3 u0 u1 u2 uz k0 k1 k2 m0 m1 m2))
             have HSZ3:=xH (show w1.heap.size≤(w5.setCell ⟨w3.heap.size,2,none⟩ (.slice (some ⟨g6,0,none⟩) (d.moves.length+1) cap6)).heap.size from by rw [World.size_setCell];exact xU HSZ2)
             clear f0 fz HSZ HSZ2
             generalize w5.setCell ⟨w3.heap.size,2,none⟩ _=W6 at HZ6 HSZ3 ⊢
             have HSZ:=HSZ3
             clear HSZ3
             obtain ⟨y0,y1,y2⟩:=cs3 ((xU HZ6).g.b2) (by omega);have yz:=(xU HZ6).g.b2.frozen
             simp only [row3] at y0 y1 y2
             obtain ⟨u0,u1,u2⟩:=cs3 ((xU HZ6).mx.row) (by omega);have uz:=(xU HZ6).mx.row.frozen
             simp only [row3] at u0 u1 u2
             go_wp2_with fail
             try simp only [Exit.inBlock,Exit.then]
             refine bodyPost_ret (v:=.tuple #[.agg #[.slice t0 d.files.length s0,.slice t1 d.names.length s1,.slice (some ⟨g6,0,none⟩) (d.moves.length+1) cap6],.int .i64 0]) (by simp [results,Try.results7,go_sem,y0,y1,y2]) rfl ?_
             rw [doD_gone (xU HY) (xU HMEM) h128]
             exact (xU HZ6).fin (xU HFO) (xU HNO) (okM (xU HMO) (show x.size≤9223372036854775807 by omega)) 0
end Go.Proofs.Yteikmbkljkkjiaa
