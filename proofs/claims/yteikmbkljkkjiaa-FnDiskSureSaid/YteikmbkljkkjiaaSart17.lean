/- A part. -/
import Derived.Test.YteikmbkljkkjiaaSart16
namespace Go.Proofs.Yteikmbkljkkjiaa
open Go Go.RowKit
set_option maxRecDepth 100000
set_option maxHeartbeats 12800000
theorem infoWrD:∃ i,Try.prog.info? 29=some i∧i.zero=some (.agg #[.int .i64 0,.string ByteArray.empty,.string ByteArray.empty])∧i.size=3∧i.bytes=40:=by
 have:(Try.prog.info? 29).map (fun i=>(i.zero,i.size,i.bytes))=some (some (.agg #[.int .i64 0,.string ByteArray.empty,.string ByteArray.empty]),3,40):=by kernel_rfl
 cases h:Try.prog.info? 29 with
 | none=>rw [h] at this;simp at this
 | some i=>rw [h] at this;exact ⟨i,rfl,by simpa using this⟩
theorem heap_new8 (w:World) (o:Obj):(w.alloc o).heap[w.heap.size]? = some o:=by
 show (w.heap.push o)[w.heap.size]? = some o
 simp
theorem own_lit (W:World) (base:Nat) (T:TypeId) (size m:Nat) (vs:List Value) (hb:base≤W.heap.size) (hl:vs.length=m * size) (hm:m≤maxLen):(W.alloc (.cells vs.toArray T)).ownsRow base T size (.slice (some ⟨W.heap.size,0,none⟩) m m) m vs :=
 ⟨hl,Or.inr ⟨W.heap.size,m,vs.toArray,rfl,hb,heap_new8 _ _,Nat.le_refl _,hm,by simpa using hl,by rw [← hl];simp⟩⟩
theorem ws_flat (ws:List Wr):(ws.map Wr.cs).flatten.length=ws.length * 3:=by
 have:=flat_len (ws.map Wr.cs) (n:=3) (fun r hr=>by obtain ⟨x,-,rfl⟩:=List.mem_map.1 hr;rfl)
 rw [List.length_map] at this;exact this
theorem ws_one (ws:List Wr):∀ u∈(ws.map Wr.cs).flatten,u.oneCell'=true:=fun u hu=>by
 obtain ⟨r,hr,hu⟩:=List.mem_flatten.1 hu
 obtain ⟨x,-,rfl⟩:=List.mem_map.1 hr
 simp only [Wr.cs,List.mem_cons,List.not_mem_nil,or_false] at hu
 rcases hu with rfl | rfl | rfl <;> rfl
structure WoS (base:Nat) (W:World) (v:Value) (ws:List Wr):Prop where
 own:W.ownsRow base 29 3 v ws.length (ws.map Wr.cs).flatten
 ok:∀ x,x∈ws→x.x.size≤1000∧x.y.size≤1000000
theorem WoS.on {base:Nat} {W W':World} {v:Value} {ws:List Wr} (h:WoS base W v ws) (hb:Below W.heap.size W W'):WoS base W' v ws:=⟨own_on h.own hb,h.ok⟩
theorem WoS.at {base:Nat} {W:World} {v:Value} {ws:List Wr} (h:WoS base W v ws):WsAt (fun b=>base≤b∧b < W.heap.size) W v ws:=by
 obtain ⟨F,hF,-,hb,-⟩:=FlatOwn.of_row (rs:=ws.map Wr.cs) (n:=3) (by rw [List.length_map];exact h.own) (fun r hr=>by obtain ⟨x,-,rfl⟩:=List.mem_map.1 hr;rfl)
 exact ⟨FlatAt.carry hF.at (fun _ _=>rfl) hb,fun x hx=>by have:=h.ok x hx;exact ⟨by omega,by omega⟩⟩
theorem append_wr (W:World) {ops:Array Oper} {rest:List Oper} {o:Oper} {a:Act} {Q:Exit→Act→World→Prop} (hg:o.guard=none) (s x:Operand) (hop:o.op=Op.call { callee:=Callee.builtin Builtin.append,args:=#[s,x],argTypes:=#[120,120] })
 (base:Nat) (a0:Option Addr) (c0:Nat) (ws:List Wr) (n:Nat) (hn:ws.length=n) (hs:a.eval s=.slice a0 n c0) (hown:Hid (WoS base W (.slice a0 n c0) ws)) (ax:Option Addr) (c m:Nat) (us:List Wr) (hx:a.eval x=.slice ax m c) (hm:us.length=m) (hok:Hid (∀ x,x∈us→x.x.size≤1000∧x.y.size≤1000000)) (hc:Hid (0 < m→∃ ad,ax=some ad∧∀ j u,(us.map Wr.cs).flatten[j]? = some u→W.cell? (ad.add j)=some u)) (hl:n≤2000) (hl2:m≤2000) (hN:base≤W.heap.size) (k:Nat) (hk:n+m=k)
 (hK:∀ a' c' W',Hid (WoS base W' (.slice a' k c') (ws++us))→Hid (W.grownBy W' (Value.slice a0 n c0).ownBlock)→Hid ((Value.slice a' k c').ownBlock=(Value.slice a0 n c0).ownBlock∨∃ g,(Value.slice a' k c').ownBlock=some g∧W.heap.size≤g)→wpList Try.prog ops Q rest (a.put o.dst (.slice a' k c')) W') :
 wpList Try.prog ops Q (o::rest) a W:=by
 subst hn hm
 obtain ⟨i,h2,h3,h4,h5⟩:=infoWrD
 refine append_list9 W hg s x 120 hop base 29 i (.agg #[.int .i64 0,.string ByteArray.empty,.string ByteArray.empty]) 3 40 Try.underlying120 h2 h3 h4 h5 rfl (by decide) a0 ws.length c0 (ws.map Wr.cs).flatten hs (xH hown.out.own) ax us.length c (us.map Wr.cs).flatten hx (ws_flat us) hc.out (ws_one us) (by unfold maxLen;omega) (by omega) hN k hk ?_
 intro a' c' W' h6 h7 h9
 refine hK a' c' W' (xH ⟨?_,fun y hy=>?_⟩) h7 h9
 · have h8:=h6.out
   rw [← hk] at h8 ⊢
   rw [List.length_append,List.map_append,List.flatten_append]
   exact h8
 · rcases List.mem_append.1 hy with h | h
   · exact hown.out.ok y h
   · exact hok.out y h
theorem lies_src {W:World} {g:Nat} {us:List Wr} (h:Lies W g (us.map Wr.cs).flatten) {m:Nat}:0 < m→∃ ad,some (⟨g,0,none⟩:Addr)=some ad∧∀ j u,(us.map Wr.cs).flatten[j]? = some u→W.cell? (ad.add j)=some u:=fun _=>⟨_,rfl,h.2⟩
theorem namesD_len8 (d:Dk):(namesD d).length≤1000:=by
 by_cases h:DkOkS d
 · exact namesD_len h
 · rw [namesD_no h];decide
theorem strs_grown {W W':World} {v v':Value} {na:Value} {ns:List ByteArray} (h:StrsAt (fun b=>b < W.heap.size∧v.ownBlock≠some b) W na ns) (hg:W.grownBy W' v.ownBlock) (hn:v'.ownBlock=v.ownBlock∨∃ g,v'.ownBlock=some g∧W.heap.size≤g):StrsAt (fun b=>b < W'.heap.size∧v'.ownBlock≠some b) W' na ns :=
 h.carry (fun b hb=>hg.block b hb.1 (fun e=>hb.2 e.symm)) (fun b hb=>⟨Nat.lt_of_lt_of_le hb.1 hg.size,by
  rcases hn with e | ⟨g,e,hl⟩
  · rw [e];exact hb.2
  · rw [e];intro e2;have:=Option.some.inj e2;have:=hb.1;omega⟩)
theorem strs_on {W W':World} {v:Value} {na:Value} {ns:List ByteArray} (h:StrsAt (fun b=>b < W.heap.size∧v.ownBlock≠some b) W na ns) (hb:Below W.heap.size W W'):StrsAt (fun b=>b < W'.heap.size∧v.ownBlock≠some b) W' na ns :=
 h.carry (fun b hb'=>hb.block b hb'.1) (fun _ hb'=>⟨Nat.lt_of_lt_of_le hb'.1 hb.size,hb'.2⟩)
theorem l44Birth_any (d:Dk) (c:C3) (P:Nat→Prop) (w:World) (hP:∀ b,P b→b < w.heap.size) (hd:DkAt P w d c) (hnm:∀ f,f∈d.files→f.name.size≤1048576) :
 Calls Try.prog 88 #[.agg #[c.c0,c.c1,c.c2]] w fun e w'=>WrE9 1010 w w' e:=by
 have HTP:=xH (fun W (hW:Below w.heap.size w W)=>l44Top_any d P c W (fun b hb=>Nat.lt_of_lt_of_le (hP b hb) hW.size) (hd.carry (fun b hb=>hW.block b (hP b hb)) (fun _ h=>h)) hnm)
 have HNM:=xH (fun W (hW:Below w.heap.size w W)=>specDiskNames_any d P c W (fun b hb=>Nat.lt_of_lt_of_le (hP b hb) hW.size) (hd.carry (fun b hb=>hW.block b (hP b hb)) (fun _ h=>h)))
 obtain ⟨c0,c1,c2⟩:=c
 obtain ⟨a0,p0,g0,-,-⟩:=hd.fs.open
 obtain ⟨a1,p1,g1,-,-⟩:=id hd.ns
 obtain ⟨a2,p2,g2,-,-⟩:=hd.ms.open
 simp only at g0 g1 g2
 subst g0 g1 g2
 have hb0:Below w.heap.size w (w.alloc (.cells #[.slice a0 d.files.length p0,.slice a1 d.names.length p1,.slice a2 d.moves.length p2] 27)):=(Below.refl _ _).alloc (Nat.le_refl _) _
 have hr1:=row3_alloc w (.slice a0 d.files.length p0) (.slice a1 d.names.length p1) (.slice a2 d.moves.length p2) 27
 have HB0:=xH hb0;have HR1:=xH hr1
 have HNL:=xH (namesD_len8 d)
 clear hP hd hb0 hr1 hnm
 go_enter Try.func88,Try.ntmps88
 go_wp2_with fail
 generalize (w.alloc (.cells #[.slice a0 d.files.length p0,.slice a1 d.names.length p1,.slice a2 d.moves.length p2] 27))=W0 at HB0 HR1 ⊢
 refine (HTP.out W0 HB0.out).mono ?_
 rintro e w1 ⟨top,rfl,htop,hb1⟩
 have HB1:=xH (HB0.out.trans (hb1.mono HB0.out.size))
 have hrd:=HR1.out.of_block (hb1.block _ HR1.out.lt)
 obtain ⟨k0,k1,k2⟩:=cs3 hrd (by omega)
 have kl:=hrd.lt
 simp only [row3] at k0 k1 k2
 clear hb1 hrd HTP HB0 HR1
 have HNO:Hid (WrE9 1010 w (w1.alloc (.cells #[] 29)) (.returned (.tuple #[.slice (some ⟨w1.heap.size,0,none⟩) 0 0,.int .i64 4]))):=⟨[],_,4,rfl,ws_nil _ _,by decide,fun x hx=>(by cases hx),HB1.out.alloc HB1.out.size _⟩
 by_cases h1:999999≤top
 · have e1:decide ((999999:Int)≤(top:Int))=true:=decide_eq_true (by omega)
   clear HNM
   go_wp2_with fail
   refine bodyPost_ret (v:=.tuple #[.slice (some ⟨w1.heap.size,0,none⟩) 0 0,.int .i64 4]) (by simp [results,Try.results88,go_sem]) rfl ?_
   exact xU HNO
 have e1:decide ((999999:Int)≤(top:Int))=false:=decide_eq_false (by omega)
 cases e3:decide ((64:Int) < wrap64 ((d.files.length:Int)+2)) with
 | true =>
   clear HNM
   go_wp2_with fail
   refine bodyPost_ret (v:=.tuple #[.slice (some ⟨w1.heap.size,0,none⟩) 0 0,.int .i64 4]) (by simp [results,Try.results88,go_sem]) rfl ?_
   exact xU HNO
 | false =>
 clear HNO
 go_wp2_with fail
 have HBW:=xH (HB1.out.alloc HB1.out.size (.cells #[] 29))
 have HW0:Hid (WoS w1.heap.size (w1.alloc (.cells #[] 29)) (.slice (some ⟨w1.heap.size,0,none⟩) 0 0) []):=⟨own_new w1 w1.heap.size 29 3 (Nat.le_refl _),fun x hx=>(by cases hx)⟩
 have HA0:=xH ((Below.refl w1.heap.size w1).alloc (Nat.le_refl _) (.cells #[] 29))
 have hza:w1.heap.size < (w1.alloc (.cells #[] 29)).heap.size:=by rw [World.size_alloc];exact Nat.lt_succ_self _
 clear k0 k1 k2 kl
 generalize w1.alloc (.cells #[] 29)=W1 at HBW HW0 HA0 hza ⊢
 refine (HNM.out W1 HBW.out).mono ?_
 rintro e w2 ⟨nv,rfl,hn⟩
 obtain ⟨na,ncap,rfl,-,hc⟩:=hn.strs
 have hst:=hn.strs
 have HN0:Hid (StrsAt (fun b=>b < w2.heap.size∧(Value.slice (some ⟨w1.heap.size,0,none⟩) 0 0).ownBlock≠some b) w2 (.slice na (namesD d).length ncap) (namesD d)):=hst.carry (fun _ _=>rfl) (fun b hb=>⟨hb.2,fun e=>by
  have h3:w1.heap.size=b:=Option.some.inj e
  have h4:W1.heap.size≤b:=hb.1
  omega⟩)
 have HW2:=xH (HW0.out.on hn.below)
 have HB2:=xH (HA0.out.trans (hn.below.mono HA0.out.size))
 have HSM:Hid (∀ x,x∈namesD d→x.size≤8):=fun x hx=>names_small hx
 clear hn hst hc HNM HBW HW0 HA0 hza
 go_wp2_with fail
 go_loopw [5,7] (fun vo vi wr=>∃ (i:Nat) (b0:Option Addr) (d0:Nat) (ws:List Wr),i≤(namesD d).length∧vi=.int .i64 i∧vo=.slice b0 i d0∧ws.length=i∧Hid (WoS w1.heap.size wr (.slice b0 i d0) ws)∧Hid (Below w1.heap.size w1 wr)∧Hid (StrsAt (fun b=>b < wr.heap.size∧(Value.slice b0 i d0).ownBlock≠some b) wr (.slice na (namesD d).length ncap) (namesD d))) (fun _ vi _=>(namesD d).length - (intOf vi).toNat)
 case atStart=>exact ⟨0,_,_,[],by omega,rfl,rfl,rfl,HW2.out,HB2.out,HN0.out⟩
 case round =>
  clear HW2 HB2 HN0
  obtain ⟨i,b0,d0,ws,hi,rfl,rfl,hwl,HS,HB,HN⟩:=hrel
  have hnl:=HNL.out
  by_cases hlt:i < (namesD d).length
  · obtain ⟨a9,c9,e9,-,h9⟩:=HN.out
    simp only [Value.slice.injEq] at e9
    obtain ⟨rfl,-,rfl⟩:=e9
    obtain ⟨nb,no,rfl,hnb,hx,-⟩:=h9 i hlt
    have hsm:=HSM.out _ (List.getElem_mem hlt)
    clear h9
    have HSR:Hid (WoS w1.heap.size wr (.slice b0 i d0) ws):=HS
    generalize (namesD d)[i]=x at hx hsm
    have hd1:decide ((i:Int) < ((namesD d).length:Int))=true:=decide_eq_true (by omega)
    have hi0:(0:Int)≤(i:Int):=by omega
    have hil:(i:Int) < ((namesD d).length:Int):=by omega
    have hal:=(Below.refl wr.heap.size wr).alloc (Nat.le_refl _) (.cells #[.int .i64 4,.string x,.string ⟨#[]⟩] 29)
    have HSA:=xH (HS.out.on hal)
    have HBA:=xH (HB.out.alloc HB.out.size (.cells #[.int .i64 4,.string x,.string ⟨#[]⟩] 29))
    have HNA:=xH (strs_on HN.out hal)
    have HLS:Hid (0 < 1→∃ ad,some (⟨wr.heap.size,0,none⟩:Addr)=some ad∧∀ j u,(([⟨4,x,⟨#[]⟩⟩]:List Wr).map Wr.cs).flatten[j]? = some u→(wr.alloc (.cells #[.int .i64 4,.string x,.string ⟨#[]⟩] 29)).cell? (ad.add j)=some u):=lies_src (us:=[⟨4,x,⟨#[]⟩⟩]) (lies_alloc wr [.int .i64 4,.string x,.string ⟨#[]⟩] 29)
    have HOK:Hid (∀ y,y∈([⟨4,x,⟨#[]⟩⟩]:List Wr)→y.x.size≤1000∧y.y.size≤1000000):=fun y hy=>by
     rw [List.mem_singleton.1 hy]
     exact ⟨Nat.le_trans hsm (by decide),show (⟨#[]⟩:ByteArray).size≤1000000 by decide⟩
    have hbz:=HBA.out.size
    clear hal HS HSR hsm
    go_wp2_with (at_builtin;refine append_wr _ rfl _ _ rfl w1.heap.size b0 d0 ws i hwl rfl HSA (some ⟨wr.heap.size,0,none⟩) 1 1 [⟨4,x,⟨#[]⟩⟩] rfl rfl HOK HLS (by omega) (by decide) hbz (i+1) rfl ?_;intro fa fc W5 ho5 hg5 hn5)
    have HB5:=xH (HBA.out.grown hg5.out hbz (fun b e=>(own_ge HSA.out.own e).1))
    have HN5:=xH (strs_grown HNA.out hg5.out hn5.out)
    clear hg5 hn5 HSA HBA HNA HLS HOK hx HB HN
    go_roundw
    case rel=>exact ⟨i+1,fa,fc,ws++[⟨4,x,⟨#[]⟩⟩],hlt,by go_num,rfl,by rw [List.length_append,hwl];rfl,ho5,HB5,HN5⟩
    case measure=>simp [intOf];omega
  · obtain rfl:i=(namesD d).length:=by omega
    have hd1:decide (((namesD d).length:Int) < ((namesD d).length:Int))=false:=decide_eq_false (by omega)
    obtain ⟨D1,hD1⟩:∃ D:ByteArray,⟨(Lib.itoa ((top:Int)+1)).toArray⟩=D:=⟨_,rfl⟩
    have HD1:=xH (fun W=>l6Dec_any ((top:Int)+1) W (by omega) (by omega))
    have hsD1:D1.size≤100:=by rw [← hD1];exact decB_le (by omega) (by omega)
    rw [hD1] at HD1
    obtain ⟨E1,hE1⟩:∃ E:ByteArray,⟨#[115]⟩++D1=E:=⟨_,rfl⟩
    obtain ⟨E2,hE2⟩:∃ E:ByteArray,⟨#[109]⟩++D1=E:=⟨_,rfl⟩
    have haE1:∀ T,binOp .add T (.string ⟨#[115]⟩) (.string D1)=pure (.string E1):=fun T=>by
     rw [← hE1];exact addP T _ _ (by have e:(⟨#[115]⟩:ByteArray).size=1:=rfl;omega)
    have haE2:∀ T,binOp .add T (.string ⟨#[109]⟩) (.string D1)=pure (.string E2):=fun T=>by
     rw [← hE2];exact addP T _ _ (by have e:(⟨#[109]⟩:ByteArray).size=1:=rfl;omega)
    have hsE:E1.size≤1000∧E2.size≤1000:=by
     have e1:(⟨#[115]⟩:ByteArray).size=1:=rfl
     have e2:(⟨#[109]⟩:ByteArray).size=1:=rfl
     rw [← hE1,← hE2,ByteArray.size_append,ByteArray.size_append];omega
    clear hD1 hE1 hE2 hsD1
    have HNOT:=xH HN
    clear HSM HNL hnl HN
    go_wp2_with fail
    refine (HD1.out wr).mono ?_
    rintro e w3 ⟨rfl,hb3⟩
    have HS3:=xH (HS.out.on hb3)
    have HB3:=xH (HB.out.trans (hb3.mono HB.out.size))
    clear hb3 HS HB HNOT
    go_wp2_with fail
    refine (HD1.out w3).mono ?_
    rintro e w4 ⟨rfl,hb4⟩
    have HS4:=xH (HS3.out.on hb4)
    have HB4:=xH (HB3.out.trans (hb4.mono HB3.out.size))
    clear hb4 HS3 HB3 HD1
    have hwl2:=plW_size8 ⟨[],(top:Int)+1,1⟩
    have HPW:=xH (fun W=>specLogPlanWrite_any ⟨[],(top:Int)+1,1⟩ (fun _=>False) (.slice none 0 0) W (fun b hb=>hb.elim) ⟨none,0,rfl,by simp,fun i hi=>absurd hi (Nat.not_lt_zero i)⟩)
    have hok:∀ x,x∈([⟨1,E1,⟨#[]⟩⟩,⟨1,E2,⟨#[]⟩⟩,⟨2,E2,(plW ⟨[],(top:Int)+1,1⟩)⟩,⟨3,E2,⟨#[]⟩⟩,⟨5,⟨#[]⟩,⟨#[]⟩⟩]:List Wr)→x.x.size≤1000∧x.y.size≤1000000:=fun x hx=>by
     have h0:(⟨#[]⟩:ByteArray).size=0:=rfl
     simp only [List.mem_cons,List.not_mem_nil,or_false] at hx
     rcases hx with rfl | rfl | rfl | rfl | rfl <;> refine ⟨?_,?_⟩ <;> simp only <;> omega
    have hnl2:=namesD_len8 d
    have HOK:=xH hok
    clear hok
    go_wp2_with fail
    refine (HPW.out w4).mono ?_
    rintro e w5 ⟨rfl,hb5⟩
    have HS5:=xH (HS4.out.on hb5)
    have HB5:=xH (HB4.out.trans (hb5.mono HB4.out.size))
    have hal:=(Below.refl w5.heap.size w5).alloc (Nat.le_refl _) (.cells #[.int .i64 1,.string E1,.string ⟨#[]⟩,.int .i64 1,.string E2,.string ⟨#[]⟩,.int .i64 2,.string E2,.string (plW ⟨[],(top:Int)+1,1⟩),.int .i64 3,.string E2,.string ⟨#[]⟩,.int .i64 5,.string ⟨#[]⟩,.string ⟨#[]⟩] 29)
    have HSA:=xH (HS5.out.on hal)
    have HBA:=xH (HB5.out.alloc HB5.out.size (.cells #[.int .i64 1,.string E1,.string ⟨#[]⟩,.int .i64 1,.string E2,.string ⟨#[]⟩,.int .i64 2,.string E2,.string (plW ⟨[],(top:Int)+1,1⟩),.int .i64 3,.string E2,.string ⟨#[]⟩,.int .i64 5,.string ⟨#[]⟩,.string ⟨#[]⟩] 29))
    have HLS:Hid (0 < 5→∃ ad,some (⟨w5.heap.size,0,none⟩:Addr)=some ad∧∀ j u,(([⟨1,E1,⟨#[]⟩⟩,⟨1,E2,⟨#[]⟩⟩,⟨2,E2,(plW ⟨[],(top:Int)+1,1⟩)⟩,⟨3,E2,⟨#[]⟩⟩,⟨5,⟨#[]⟩,⟨#[]⟩⟩]:List Wr).map Wr.cs).flatten[j]? = some u→(w5.alloc (.cells #[.int .i64 1,.string E1,.string ⟨#[]⟩,.int .i64 1,.string E2,.string ⟨#[]⟩,.int .i64 2,.string E2,.string (plW ⟨[],(top:Int)+1,1⟩),.int .i64 3,.string E2,.string ⟨#[]⟩,.int .i64 5,.string ⟨#[]⟩,.string ⟨#[]⟩] 29)).cell? (ad.add j)=some u):=lies_src (us:=[⟨1,E1,⟨#[]⟩⟩,⟨1,E2,⟨#[]⟩⟩,⟨2,E2,(plW ⟨[],(top:Int)+1,1⟩)⟩,⟨3,E2,⟨#[]⟩⟩,⟨5,⟨#[]⟩,⟨#[]⟩⟩]) (lies_alloc w5 [.int .i64 1,.string E1,.string ⟨#[]⟩,.int .i64 1,.string E2,.string ⟨#[]⟩,.int .i64 2,.string E2,.string (plW ⟨[],(top:Int)+1,1⟩),.int .i64 3,.string E2,.string ⟨#[]⟩,.int .i64 5,.string ⟨#[]⟩,.string ⟨#[]⟩] 29)
    have hbz:=HBA.out.size
    clear hb5 hal HS5 HB5 HS4 HB4 HPW
    go_wp2_with (at_builtin;refine append_wr _ rfl _ _ rfl w1.heap.size b0 d0 ws (namesD d).length hwl rfl HSA (some ⟨w5.heap.size,0,none⟩) 5 5 [⟨1,E1,⟨#[]⟩⟩,⟨1,E2,⟨#[]⟩⟩,⟨2,E2,(plW ⟨[],(top:Int)+1,1⟩)⟩,⟨3,E2,⟨#[]⟩⟩,⟨5,⟨#[]⟩,⟨#[]⟩⟩] rfl rfl HOK HLS (by omega) (by decide) hbz ((namesD d).length+5) rfl ?_;intro fa fc W6 hw6 hg6 hn6)
    have HEND:Hid (WrE9 1010 w W6 (.returned (.tuple #[.slice fa ((namesD d).length+5) fc,.int .i64 0]))):=by
     have hb46:=HBA.out.grown hg6.out hbz (fun b e=>(own_ge HSA.out.own e).1)
     have hws:=hw6.out.at
     refine ⟨_,_,0,rfl,hws.carry (fun _ _=>rfl) (fun b hb=>⟨Nat.le_trans HB1.out.size hb.1,hb.2⟩),?_,hw6.out.ok,HB1.out.trans (hb46.mono HB1.out.size)⟩
     rw [List.length_append,hwl]
     simp only [List.length_cons,List.length_nil]
     omega
    refine bodyPost_ret (v:=.tuple #[.slice fa ((namesD d).length+5) fc,.int .i64 0]) (by simp [results,Try.results88,go_sem]) rfl ?_
    exact xU HEND

theorem info9S:(Try.prog.info? 118).map (·.size)=some 9:=by kernel_rfl
theorem rowStO:∃ d,Try.prog.underlying 118=some d∧d.isRow=true:=⟨_,Try.underlying118,by rfl⟩
theorem ldState {W:World} {b:Nat} {s0 s1 s2 s3 s4 s5 s6 s7 s8:Value} (h:W.rowIs b 118 9 (row9 s0 s1 s2 s3 s4 s5 s6 s7 s8)):(Instr.loadAt 118 (.pointer (some ⟨b,0,none⟩))).run Try.prog W=.ok (.agg #[s0,s1,s2,s3,s4,s5,s6,s7,s8]) W:=by
 have hr:W.rangeAt b 0 [s0,s1,s2,s3,s4,s5,s6,s7,s8]:=fun j v hv=>by
  obtain ⟨z0,z1,z2,z3,z4,z5,z6,z7,z8⟩:=cell9 h
  match j,hv with
  | 0,hv=>simp only [List.getElem?_cons_zero,Option.some.injEq] at hv;subst hv;exact z0
  | 1,hv=>simp only [List.getElem?_cons_succ,List.getElem?_cons_zero,Option.some.injEq] at hv;subst hv;exact z1
  | 2,hv=>simp only [List.getElem?_cons_succ,List.getElem?_cons_zero,Option.some.injEq] at hv;subst hv;exact z2
  | 3,hv=>simp only [List.getElem?_cons_succ,List.getElem?_cons_zero,Option.some.injEq] at hv;subst hv;exact z3
  | 4,hv=>simp only [List.getElem?_cons_succ,List.getElem?_cons_zero,Option.some.injEq] at hv;subst hv;exact z4
  | 5,hv=>simp only [List.getElem?_cons_succ,List.getElem?_cons_zero,Option.some.injEq] at hv;subst hv;exact z5
  | 6,hv=>simp only [List.getElem?_cons_succ,List.getElem?_cons_zero,Option.some.injEq] at hv;subst hv;exact z6
  | 7,hv=>simp only [List.getElem?_cons_succ,List.getElem?_cons_zero,Option.some.injEq] at hv;subst hv;exact z7
  | 8,hv=>simp only [List.getElem?_cons_succ,List.getElem?_cons_zero,Option.some.injEq] at hv;subst hv;exact z8
  | _+9,hv=>simp at hv
 obtain ⟨dd,hdu,hdr⟩:=rowStO
 unfold Instr.loadAt
 simp only [Instr.sureAddr,Sem.run_bind,Sem.run_pure,Result.andThen_ok,run_loadVar_mid W b 0 118 _ dd hr hdu hdr info9S]
noncomputable def me7Ops:Array Oper:=fops Try.f89 7
theorem me7_neat:Region.noSelect me7Ops=true∧neat me7Ops=true:=⟨by kernel_rfl,by kernel_rfl⟩
def kp_me7 (z:Nat→Value):List (Nat × Value):=[(0,z 0),(1,z 1),(2,z 2),(4,z 4),(5,z 5),(6,z 6),(8,z 8),(10,z 10),(11,z 11),(12,z 12),(13,z 13),(14,z 14),(15,z 15),(16,z 16),(17,z 17),(18,z 18),(19,z 19),(20,z 20),(21,z 21),(22,z 22),(23,z 23),(24,z 24),(25,z 25),(26,z 26),(27,z 27),(34,z 34),(35,z 35),(36,z 36),(37,z 37),(38,z 38),(39,z 39),(40,z 40),(41,z 41),(42,z 42),(43,z 43),(44,z 44),(45,z 45),(46,z 46),(47,z 47),(48,z 48),(49,z 49),(50,z 50),(51,z 51),(52,z 52),(53,z 53),(54,z 54),(55,z 55),(56,z 56),(57,z 57),(58,z 58),(59,z 59),(60,z 60),(61,z 61),(62,z 62),(63,z 63),(64,z 64),(65,z 65),(66,z 66),(67,z 67),(68,z 68),(69,z 69),(70,z 70),(71,z 71)]
theorem me7z (z:Nat→Value) (LL:(Nat→Value)→Bool→List Value) (B3 g p n cap i:Nat) (s0 s1 s2 s3 s4 s5 s6 s7 s8:Value) (x:ByteArray) (W0:World) {l:List Value} (Q:Exit→Act→World→Prop) (hQ:∀ c a d v w,Q (.panic c) (Act.put a d v) w→Q (.panic c) a w) (h3:W0.drew.rowIs B3 118 9 (row9 s0 s1 s2 s3 s4 s5 s6 s7 s8)) (hg:g < W0.drew.heap.size) (hx:W0.drew.cell? ⟨g,p+i,none⟩=some (.string x)) (hi:i < n) (HK:∀ W,Below W0.drew.heap.size W0.drew W→Calls Try.prog 96 #[.agg #[s0,s1,s2,s3,s4,s5,s6,s7,s8],.string x] W fun e w'=>(∃ b:Bool,e=.returned (.bool b))∧Below W.heap.size W w')
 (hl:lookL (kp_me7 z++[(3,.pointer (some ⟨B3,0,none⟩)),(7,.slice (some ⟨g,p,none⟩) n cap),(9,.int .i64 (i:Nat))]) l=(72,((kp_me7 z++[(3,.pointer (some ⟨B3,0,none⟩)),(7,.slice (some ⟨g,p,none⟩) n cap),(9,.int .i64 (i:Nat))]):List (Nat × Value)).map (·.2)))
 (hfr:∀ (u:Nat→Value) (b:Bool),frL u 72 (kp_me7 z++[(3,.pointer (some ⟨B3,0,none⟩)),(7,.slice (some ⟨g,p,none⟩) n cap),(9,.int .i64 (i:Nat)),(33,.bool b)])=LL u b)
 (hend:∀ (u:Nat→Value) (b:Bool) (W:World),Below W0.drew.heap.size W0.drew W→True→Q .normal ⟨(LL u b).toArray,[]⟩ W):(Code.region 7 me7Ops true).wp Try.prog Q ⟨l.toArray,[]⟩ W0:=by
 obtain ⟨v0,rfl⟩:=look_fr hl
 have hq:NtQ me7Ops Q:=⟨me7_neat,hQ⟩
 refine T_start (S:=fun W=>Below W0.drew.heap.size W0.drew W) (by kernel_rfl) (Below.refl _ _) ?_
 clear hl hQ
 generalize W0.drew=V at h3 hg hx HK hend ⊢
 refine T_a hq [0,1,2] (fun w h=>.cons (ldState (h3.of_block (h.block _ h3.lt))) (Lds.nil)) (by kernel_rfl) ?_
 refine T_yld hq 3 (some 31) (.pointer (some ⟨g,p+i,none⟩)) (by kernel_rfl) (by kernel_rfl) (fun w h=>ixRunN (X:=.tmp 29) (I:=.tmp 30) (n:=n) (cap:=cap) (i:=i) (by kernel_rfl) (by kernel_rfl) (by kernel_rfl) hi w) ?_
 refine T_a hq [4] (fun w h=>.cons (ldStr _ _ _ ((h.cell hg).trans hx)) (Lds.nil)) (by kernel_rfl) ?_
 refine T_fr 6 72 [5] (kp_me7 z++[(3,.pointer (some ⟨B3,0,none⟩)),(7,.slice (some ⟨g,p,none⟩) n cap),(9,.int .i64 (i:Nat)),(28,.agg #[s0,s1,s2,s3,s4,s5,s6,s7,s8]),(32,.string x)]) (by kernel_rfl) fun u=>?_
 refine T_one 5 (by kernel_rfl) fun _=>O_go (HK V (Below.refl _ _)) (by kernel_rfl) ?_
 rintro e w1 ⟨⟨b,rfl⟩,hb1⟩
 refine ⟨_,rfl,hb1,?_⟩
 exact T_end 72 (kp_me7 z++[(3,.pointer (some ⟨B3,0,none⟩)),(7,.slice (some ⟨g,p,none⟩) n cap),(9,.int .i64 (i:Nat)),(33,.bool b)]) (by kernel_rfl) (by kernel_rfl) fun hS u=>by rw [hfr];exact hend u b w1 hS trivial
theorem me7 (B3 g p n cap i:Nat) (s0 s1 s2 s3 s4 s5 s6 s7 s8:Value) (x:ByteArray) (W0:World) {l:List Value} (Q:Exit→Act→World→Prop) (hQ:∀ c a d v w,Q (.panic c) (Act.put a d v) w→Q (.panic c) a w) (h3:W0.drew.rowIs B3 118 9 (row9 s0 s1 s2 s3 s4 s5 s6 s7 s8)) (hg:g < W0.drew.heap.size) (hx:W0.drew.cell? ⟨g,p+i,none⟩=some (.string x)) (hi:i < n) (HK:∀ W,Below W0.drew.heap.size W0.drew W→Calls Try.prog 96 #[.agg #[s0,s1,s2,s3,s4,s5,s6,s7,s8],.string x] W fun e w'=>(∃ b:Bool,e=.returned (.bool b))∧Below W.heap.size W w')
 (hl:lookL (kp_me7 (fun i=>l.getD i undef)++[(3,.pointer (some ⟨B3,0,none⟩)),(7,.slice (some ⟨g,p,none⟩) n cap),(9,.int .i64 (i:Nat))]) l=(72,((kp_me7 (fun i=>l.getD i undef)++[(3,.pointer (some ⟨B3,0,none⟩)),(7,.slice (some ⟨g,p,none⟩) n cap),(9,.int .i64 (i:Nat))]):List (Nat × Value)).map (·.2)))
 (hfr:∀ (u:Nat→Value) (b:Bool),frL u 72 (kp_me7 (fun i=>l.getD i undef)++[(3,.pointer (some ⟨B3,0,none⟩)),(7,.slice (some ⟨g,p,none⟩) n cap),(9,.int .i64 (i:Nat)),(33,.bool b)])=(l.take 28++(u 28::(u 29::(u 30::(u 31::(u 32::(.bool b::l.drop 34))))))))
 (hend:∀ (u:Nat→Value) (b:Bool) (W:World),Below W0.drew.heap.size W0.drew W→True→Q .normal ⟨((l.take 28++(u 28::(u 29::(u 30::(u 31::(u 32::(.bool b::l.drop 34)))))))).toArray,[]⟩ W):(Code.region 7 me7Ops true).wp Try.prog Q ⟨l.toArray,[]⟩ W0 :=
 me7z (fun i=>l.getD i undef) (fun u b=>(l.take 28++(u 28::(u 29::(u 30::(u 31::(u 32::(.bool b::l.drop 34)))))))) B3 g p n cap i s0 s1 s2 s3 s4 s5 s6 s7 s8 x W0 Q hQ h3 hg hx hi HK hl hfr hend
noncomputable def me13Ops:Array Oper:=fops Try.f89 13
theorem me13_neat:Region.noSelect me13Ops=true∧neat me13Ops=true:=⟨by kernel_rfl,by kernel_rfl⟩
theorem me13 (B2 B3:Nat) (c:C3) (s0 s1 s2 s3 s4 s5 s6 s7 s8:Value) (vo vl:Value) (dk:Dk) (W0:World) {l:List Value} (Q:Exit→Act→World→Prop) (hQ:∀ c a d v w,Q (.panic c) (Act.put a d v) w→Q (.panic c) a w) (h2:W0.drew.rowIs B2 27 3 (row3 c.c0 c.c1 c.c2)) (h3:W0.drew.rowIs B3 118 9 (row9 s0 s1 s2 s3 s4 s5 s6 s7 s8)) (HK:∀ W,Below W0.drew.heap.size W0.drew W→Calls Try.prog 28 #[.agg #[c.c0,c.c1,c.c2],vl] W fun e w'=>∃ c':C3,e=.returned (.agg #[c'.c0,c'.c1,c'.c2])∧DkAt (New W w') w' dk c'∧Below W.heap.size W w') (HC:∀ W (c':C3),Below W0.drew.heap.size W0.drew W→DkAt (New W0.drew W) W dk c'→Calls Try.prog 90 #[.agg #[c'.c0,c'.c1,c'.c2],.agg #[s0,s1,s2,s3,s4,s5,s6,s7,s8]] W fun e w'=>WrE9 7 W w' e)
 (hl:lookL [(2,.pointer (some ⟨B2,0,none⟩)),(3,.pointer (some ⟨B3,0,none⟩)),(6,vo),(8,vl)] l=(72,([(2,.pointer (some ⟨B2,0,none⟩)),(3,.pointer (some ⟨B3,0,none⟩)),(6,vo),(8,vl)]:List (Nat × Value)).map (·.2)))
 (hend:∀ (u:Nat→Value) (W:World) (ws:List Wr) (v:Value) (code:Int),Below W0.drew.heap.size W0.drew W→WsAt (fun b=>b < W.heap.size) W v ws→ws.length≤7→(∀ x,x∈ws→x.x.size≤1000∧x.y.size≤1000000)→Q .normal ⟨(frL u 72 [(2,.pointer (some ⟨B2,0,none⟩)),(3,.pointer (some ⟨B3,0,none⟩)),(6,vo),(8,vl),(10,v),(11,.int .i64 code)]).toArray,[]⟩ W):(Code.region 13 me13Ops true).wp Try.prog Q ⟨l.toArray,[]⟩ W0:=by
 obtain ⟨v0,rfl⟩:=look_fr hl
 have hq:NtQ me13Ops Q:=⟨me13_neat,hQ⟩
 refine T_start (S:=fun W=>Below W0.drew.heap.size W0.drew W) (by kernel_rfl) (Below.refl _ _) ?_
 clear hl hQ
 generalize W0.drew=V at h2 h3 HK HC hend ⊢
 refine T_a hq [0,1,3] (fun w h=>.cons (ldDk (h2.of_block (h.block _ h2.lt))) (.cons (ldState (h3.of_block (h.block _ h3.lt))) (Lds.nil))) (by kernel_rfl) ?_
 refine T_fr 10 72 [2,4,5,6,7,8,9] [(2,.pointer (some ⟨B2,0,none⟩)),(3,.pointer (some ⟨B3,0,none⟩)),(6,vo),(8,vl),(58,.agg #[c.c0,c.c1,c.c2]),(59,vl),(61,.agg #[s0,s1,s2,s3,s4,s5,s6,s7,s8])] (by kernel_rfl) fun u=>?_
 refine T_one 2 (by kernel_rfl) fun _=>O_go (HK V (Below.refl _ _)) (by kernel_rfl) ?_
 rintro e w1 ⟨c',rfl,hd1,hb1⟩
 refine ⟨_,rfl,hb1,?_⟩
 refine T_fr 10 72 [4,5,6,7,8,9] [(2,.pointer (some ⟨B2,0,none⟩)),(3,.pointer (some ⟨B3,0,none⟩)),(6,vo),(8,vl),(58,.agg #[c.c0,c.c1,c.c2]),(59,vl),(60,.agg #[c'.c0,c'.c1,c'.c2]),(61,.agg #[s0,s1,s2,s3,s4,s5,s6,s7,s8])] (by kernel_rfl) fun u=>?_
 refine T_one 4 (by kernel_rfl) fun _=>O_go (HC w1 c' hb1 hd1) (by kernel_rfl) ?_
 rintro e w2 ⟨ws,v,code,rfl,hws,hwl,hwo,hb2⟩
 refine ⟨_,rfl,hb1.trans (hb2.mono hb1.size),?_⟩
 refine T_z hq [5,6,7,8,9] (by kernel_rfl) ?_
 exact T_end 72 [(2,.pointer (some ⟨B2,0,none⟩)),(3,.pointer (some ⟨B3,0,none⟩)),(6,vo),(8,vl),(10,v),(11,.int .i64 code)] (by kernel_rfl) (by kernel_rfl) fun hS u=>hend u w2 ws v code hS (hws.carry (fun _ _=>rfl) (fun b hb=>hb.2)) hwl hwo
theorem append_nm (W:World) {ops:Array Oper} {rest:List Oper} {o:Oper} {a:Act} {Q:Exit→Act→World→Prop} (hg:o.guard=none) (s x:Operand) (hop:o.op=Op.call { callee:=Callee.builtin Builtin.append,args:=#[s,x],argTypes:=#[24,24] })
 (base:Nat) (a0:Option Addr) (c0 n:Nat) (ls:List ByteArray) (hs:a.eval s=.slice a0 n c0) (hown:Hid (W.ownsRow base 9 1 (.slice a0 n c0) n (ls.map Value.string))) (g:Nat) (nm:ByteArray) (hx:a.eval x=.slice (some ⟨g,0,none⟩) 1 1) (hc:Hid (Lies W g [.string nm])) (hl:n≤2000) (hN:base≤W.heap.size)
 (hK:∀ a' c' W',Hid (W'.ownsRow base 9 1 (.slice a' (n+1) c') (n+1) ((ls++[nm]).map Value.string))→Hid (W.grownBy W' (Value.slice a0 n c0).ownBlock)→Hid ((Value.slice a' (n+1) c').ownBlock=(Value.slice a0 n c0).ownBlock∨∃ g,(Value.slice a' (n+1) c').ownBlock=some g∧W.heap.size≤g)→wpList Try.prog ops Q rest (a.put o.dst (.slice a' (n+1) c')) W') :
 wpList Try.prog ops Q (o::rest) a W:=by
 obtain ⟨i,h2,h3,h4,h5⟩:=infoStrD
 refine append_list9 W hg s x 24 hop base 9 i (.string ByteArray.empty) 1 16 Try.underlying24 h2 h3 h4 h5 rfl (by decide) a0 n c0 (ls.map Value.string) hs hown (some ⟨g,0,none⟩) 1 1 [.string nm] hx rfl (fun _=>⟨_,rfl,hc.out.2⟩) (fun u hu=>by rw [List.mem_singleton.1 hu];rfl) (by unfold maxLen;omega) (by omega) hN (n+1) rfl ?_
 intro a' c' W' h6 h7 h9
 exact hK a' c' W' (by rw [List.map_append];exact h6) h7 h9
structure MeS (base:Nat) (V W:World) (d:Dk) (vo:Value) (ws:List Wr) (vl:Value) (k:Nat) (ls:List ByteArray) (na:Value):Prop where
 wo:WoS base W vo ws
 lo:W.ownsRow base 9 1 vl k (ls.map Value.string)
 nm:StrsAt (fun b=>b < W.heap.size∧vo.ownBlock≠some b∧vl.ownBlock≠some b) W na (namesD d)
 ap:∀ b,vo.ownBlock=some b→vl.ownBlock≠some b
 sub:∀ x,x∈ls→x∈namesD d
 below:Below base V W
theorem MeS.on {base:Nat} {V W W':World} {d:Dk} {vo vl na:Value} {ws:List Wr} {k:Nat} {ls:List ByteArray} (h:MeS base V W d vo ws vl k ls na) (hB:base≤W.heap.size) (hb:Below W.heap.size W W'):MeS base V W' d vo ws vl k ls na :=
 ⟨h.wo.on hb,own_on h.lo hb,h.nm.carry (fun b hb'=>hb.block b hb'.1) (fun _ hb'=>⟨Nat.lt_of_lt_of_le hb'.1 hb.size,hb'.2⟩),h.ap,h.sub,h.below.trans (hb.mono hB)⟩
theorem MeS.addw {base:Nat} {V W W':World} {d:Dk} {vo vo' vl na:Value} {ws ws':List Wr} {k:Nat} {ls:List ByteArray} (h:MeS base V W d vo ws vl k ls na) (hB:base≤W.heap.size) (hw:WoS base W' vo' ws') (hg:W.grownBy W' vo.ownBlock) (hn:vo'.ownBlock=vo.ownBlock∨∃ g,vo'.ownBlock=some g∧W.heap.size≤g):MeS base V W' d vo' ws' vl k ls na:=by
 have hl:∀ g,vl.ownBlock=some g→W'.heap[g]? = W.heap[g]? := fun g hg'=>hg.block g (own_ge h.lo hg').2 (fun e=>h.ap g e.symm hg')
 have hne:∀ b,b < W.heap.size→vo.ownBlock≠some b→vo'.ownBlock≠some b:=fun b hb h1=>by
  rcases hn with e | ⟨g,e,hgl⟩
  · rw [e];exact h1
  · rw [e];intro e2;have:=Option.some.inj e2;omega
 refine ⟨hw,ownsRow_keepR h.lo hl,h.nm.carry (fun b hb=>hg.block b hb.1 (fun e=>hb.2.1 e.symm)) (fun b hb=>⟨Nat.lt_of_lt_of_le hb.1 hg.size,hne b hb.1 hb.2.1,hb.2.2⟩),fun b hb hb2=>?_,h.sub,h.below.grown hg hB (fun b e=>(own_ge h.wo.own e).1)⟩
 exact hne b (own_ge h.lo hb2).2 (fun e=>h.ap b e hb2) hb
theorem MeS.addl {base:Nat} {V W W':World} {d:Dk} {vo vl vl' na:Value} {ws:List Wr} {k k':Nat} {ls:List ByteArray} {x:ByteArray} (h:MeS base V W d vo ws vl k ls na) (hB:base≤W.heap.size) (hx:x∈namesD d) (hw:W'.ownsRow base 9 1 vl' k' ((ls++[x]).map Value.string)) (hg:W.grownBy W' vl.ownBlock) (hn:vl'.ownBlock=vl.ownBlock∨∃ g,vl'.ownBlock=some g∧W.heap.size≤g):MeS base V W' d vo ws vl' k' (ls++[x]) na:=by
 have ho:∀ g,vo.ownBlock=some g→W'.heap[g]? = W.heap[g]? := fun g hg'=>hg.block g (own_ge h.wo.own hg').2 (fun e=>h.ap g hg' e.symm)
 have hne:∀ b,b < W.heap.size→vl.ownBlock≠some b→vl'.ownBlock≠some b:=fun b hb h1=>by
  rcases hn with e | ⟨g,e,hgl⟩
  · rw [e];exact h1
  · rw [e];intro e2;have:=Option.some.inj e2;omega
 refine ⟨⟨ownsRow_keepR h.wo.own ho,h.wo.ok⟩,hw,h.nm.carry (fun b hb=>hg.block b hb.1 (fun e=>hb.2.2 e.symm)) (fun b hb=>⟨Nat.lt_of_lt_of_le hb.1 hg.size,hb.2.1,hne b hb.1 hb.2.2⟩),fun b hb=>hne b (own_ge h.wo.own hb).2 (h.ap b hb),fun y hy=>?_,h.below.grown hg hB (fun b e=>(own_ge h.lo e).1)⟩
 rcases List.mem_append.1 hy with h1 | h1
 · exact h.sub y h1
 · rw [List.mem_singleton.1 h1];exact hx
theorem left_at {base:Nat} {W:World} {vl:Value} {k:Nat} {ls:List ByteArray} (h:W.ownsRow base 9 1 vl k (ls.map Value.string)) (hk:ls.length=k) (hz:∀ x,x∈ls→x.size≤8):StrsAt (fun b=>b < W.heap.size) W vl ls:=by
 have:=strsAt_own (w:=W) (by rw [hk];exact h) (fun x hx=>by have:=hz x hx;omega)
 exact this.carry (fun _ _=>rfl) (fun b hb=>hb.2)
theorem keep_names {d:Dk} {ls:List ByteArray} (h:∀ x,x∈ls→x∈namesD d):∀ f,f∈(keepD d ls).files→f.name.size≤1048576:=fun f hf=>by
 obtain ⟨x,hx,rfl⟩:=List.mem_map.1 hf
 obtain ⟨i,hi,hok,e,e2⟩:=names_file (h x hx)
 unfold fileD
 rw [e2]
 simp only [Int.toNat_natCast]
 rw [List.getD_eq_getElem?_getD,List.getElem?_eq_getElem hi]
 show d.files[i].name.size≤_
 rw [e]
 exact Nat.le_trans (names_small (h x hx)) (by decide)
theorem l44Mend_any (d:Dk) (c:C3) (code num size next:Int) (torn:Bool) (l:Pl) (vP:Value) (a8:Option Addr) (n8 p8:Nat) (P Q:Nat→Prop) (w:World) (hP:∀ b,P b→b < w.heap.size) (hQ:∀ b,Q b→b < w.heap.size) (hd:DkAt P w d c) (hs:StOk Q w num l vP) :
 Calls Try.prog 89 #[.agg #[c.c0,c.c1,c.c2],.agg #[.int .i64 code,.int .i64 num,vP,.int .i64 l.op,.int .i64 l.fi,.int .i64 size,.bool torn,.int .i64 next,.slice a8 n8 p8]] w fun e w'=>WrE9 1020 w w' e:=by
 have HNM:=xH (fun W (hW:Below w.heap.size w W)=>specDiskNames_any d P c W (fun b hb=>Nat.lt_of_lt_of_le (hP b hb) hW.size) (hd.carry (fun b hb=>hW.block b (hP b hb)) (fun _ h=>h)))
 have HKE:=xH (fun ns v W (hW:Below w.heap.size w W) (hv:StrsAt (fun b=>b < W.heap.size) W v ns) (hl:ns.length≤1000) (hf:∀ x,x∈ns→x∈namesD d)=>l41Keep_any d ns (fun b=>b < W.heap.size) c v W (fun _ h=>h) (hd.carry (fun b hb=>hW.block b (hP b hb)) (fun b hb=>Nat.lt_of_lt_of_le (hP b hb) hW.size)) hv hl (fun x hx=>by obtain ⟨i,hi,-,-,e⟩:=names_file (hf x hx);exact ⟨i,hi,e⟩))
 obtain ⟨c0,c1,c2⟩:=c
 obtain ⟨a0,p0,g0,-,-⟩:=hd.fs.open
 obtain ⟨a1,p1,g1,-,-⟩:=id hd.ns
 obtain ⟨a2,p2,g2,-,-⟩:=hd.ms.open
 simp only at g0 g1 g2
 subst g0 g1 g2
 obtain ⟨va,vc,rfl,-,-⟩:=hs.pts.open
 have hb0:Below w.heap.size w ((w.alloc (.cells #[.slice a0 d.files.length p0,.slice a1 d.names.length p1,.slice a2 d.moves.length p2] 27)).alloc (.cells #[.int .i64 code,.int .i64 num,.slice va l.parts.length vc,.int .i64 l.op,.int .i64 l.fi,.int .i64 size,.bool torn,.int .i64 next,.slice a8 n8 p8] 118)):=((Below.refl _ _).alloc (Nat.le_refl _) _).alloc (by simp) _
 have hr1:=(row3_alloc w (.slice a0 d.files.length p0) (.slice a1 d.names.length p1) (.slice a2 d.moves.length p2) 27).alloc (.cells #[.int .i64 code,.int .i64 num,.slice va l.parts.length vc,.int .i64 l.op,.int .i64 l.fi,.int .i64 size,.bool torn,.int .i64 next,.slice a8 n8 p8] 118)
 have hr2:=row9_alloc (w.alloc (.cells #[.slice a0 d.files.length p0,.slice a1 d.names.length p1,.slice a2 d.moves.length p2] 27)) (.int .i64 code) (.int .i64 num) (.slice va l.parts.length vc) (.int .i64 l.op) (.int .i64 l.fi) (.int .i64 size) (.bool torn) (.int .i64 next) (.slice a8 n8 p8) 118
 rw [World.size_alloc] at hr2
 have hz0:((w.alloc (.cells #[.slice a0 d.files.length p0,.slice a1 d.names.length p1,.slice a2 d.moves.length p2] 27)).alloc (.cells #[.int .i64 code,.int .i64 num,.slice va l.parts.length vc,.int .i64 l.op,.int .i64 l.fi,.int .i64 size,.bool torn,.int .i64 next,.slice a8 n8 p8] 118)).heap.size=w.heap.size+2:=by simp
 have HB0:=xH hb0;have HR1:=xH hr1;have HR2:=xH hr2;have HZ0:=xH hz0
 have hop:=hs.op
 have HST:=xH hs;have HQ:=xH hQ
 have HOU:=xH (fun (x:ByteArray) W (hW:Below w.heap.size w W)=>l44Ours_any code num size next torn l (.slice va l.parts.length vc) a8 n8 p8 x Q W (fun b hb=>Nat.lt_of_lt_of_le (hQ b hb) hW.size) (hs.carry (fun b hb=>hW.block b (hQ b hb)) (fun _ h=>h)))
 have HCL:=xH (fun (dk:Dk) (c':C3) (PP:Nat→Prop) W (hW:Below w.heap.size w W) (hPP:∀ b,PP b→b < W.heap.size) (hdk:DkAt PP W dk c') (hnm:∀ f,f∈dk.files→f.name.size≤1048576)=>l44Close_any dk c' code num size next torn l (.slice va l.parts.length vc) a8 n8 p8 PP Q W hPP (fun b hb=>Nat.lt_of_lt_of_le (hQ b hb) hW.size) hdk hnm (hs.carry (fun b hb=>hW.block b (hQ b hb)) (fun _ h=>h)))
 obtain ⟨D1,hD1⟩:∃ D:ByteArray,⟨(Lib.itoa l.op).toArray⟩=D:=⟨_,rfl⟩
 have HD1:=xH (fun W=>l6Dec_any l.op W (by omega) (by omega))
 have hsD1:D1.size≤100:=by rw [← hD1];exact decB_le (by omega) (by omega)
 rw [hD1] at HD1
 obtain ⟨E1,hE1⟩:∃ E:ByteArray,⟨#[115]⟩++D1=E:=⟨_,rfl⟩
 have haE1:∀ T,binOp .add T (.string ⟨#[115]⟩) (.string D1)=pure (.string E1):=fun T=>by
  rw [← hE1];exact addP T _ _ (by have e:(⟨#[115]⟩:ByteArray).size=1:=rfl;omega)
 have hsE1:E1.size≤1000:=by
  have e1:(⟨#[115]⟩:ByteArray).size=1:=rfl
  rw [← hE1,ByteArray.size_append];omega
 clear hD1 hE1 hsD1
 have hsE:=hsE1
 clear hP hQ hd hb0 hr1 hr2 hz0 hs hop
 go_enter Try.func89,Try.ntmps89
 go_wp2_with fail
 generalize ((w.alloc (.cells #[.slice a0 d.files.length p0,.slice a1 d.names.length p1,.slice a2 d.moves.length p2] 27)).alloc (.cells #[.int .i64 code,.int .i64 num,.slice va l.parts.length vc,.int .i64 l.op,.int .i64 l.fi,.int .i64 size,.bool torn,.int .i64 next,.slice a8 n8 p8] 118))=W0 at HB0 HR1 HR2 HZ0 ⊢
 refine (HD1.out W0).mono ?_
 rintro e w1 ⟨rfl,hb1⟩
 have HB1:=xH (HB0.out.trans (hb1.mono HB0.out.size))
 have hr1:=HR1.out.of_block (hb1.block _ HR1.out.lt)
 obtain ⟨k0,k1,k2⟩:=cs3 hr1 (by omega)
 have kl:=hr1.lt
 simp only [row3] at k0 k1 k2
 have HV1:=xH hb1
 clear hb1 hr1 HD1
 go_wp2_with fail
 have HBW:=xH (HB1.out.alloc HB1.out.size (.cells #[.int .i64 3,.string E1,.string ⟨#[]⟩] 29))
 have HVW:=xH (HV1.out.alloc HV1.out.size (.cells #[.int .i64 3,.string E1,.string ⟨#[]⟩] 29))
 have HW0:Hid (WoS W0.heap.size (w1.alloc (.cells #[.int .i64 3,.string E1,.string ⟨#[]⟩] 29)) (.slice (some ⟨w1.heap.size,0,none⟩) 1 1) [⟨3,E1,⟨#[]⟩⟩]):=⟨own_lit w1 W0.heap.size 29 3 1 [.int .i64 3,.string E1,.string ⟨#[]⟩] HV1.out.size rfl (by decide),fun x hx=>by rw [List.mem_singleton.1 hx];exact ⟨hsE,show (⟨#[]⟩:ByteArray).size≤1000000 by decide⟩⟩
 have hza:w1.heap.size < (w1.alloc (.cells #[.int .i64 3,.string E1,.string ⟨#[]⟩] 29)).heap.size:=by rw [World.size_alloc];exact Nat.lt_succ_self _
 have hv1:=HV1.out.size
 clear k0 k1 k2 kl HB1 HV1
 generalize w1.alloc (.cells #[.int .i64 3,.string E1,.string ⟨#[]⟩] 29)=W1 at HBW HVW HW0 hza ⊢
 refine (HNM.out W1 HBW.out).mono ?_
 rintro e w2 ⟨nv,rfl,hn⟩
 obtain ⟨na,ncap,rfl,-,-⟩:=hn.strs
 have HN0:=xH hn.strs
 have HBN:=xH hn.below
 have HNL:=xH (namesD_len8 d)
 clear hn HNM
 go_wp2_with fail
 have hp0:MeS W0.heap.size W0 (w2.alloc (.cells #[] 9)) d (.slice (some ⟨w1.heap.size,0,none⟩) 1 1) [⟨3,E1,⟨#[]⟩⟩] (.slice (some ⟨w2.heap.size,0,none⟩) 0 0) 0 [] (.slice na (namesD d).length ncap):=by
  have hal:=(Below.refl w2.heap.size w2).alloc (Nat.le_refl _) (.cells #[] 9)
  have hs12:=HBN.out.size
  have hvw:=HVW.out.size
  refine ⟨(HW0.out.on HBN.out).on hal,own_new w2 _ 9 1 (by omega),HN0.out.carry (fun b hb=>hal.block b hb.2) (fun b hb=>⟨Nat.lt_of_lt_of_le hb.2 hal.size,fun e=>?_,fun e=>?_⟩),fun b hb hb2=>?_,fun x hx=>(by cases hx),(HVW.out.trans (HBN.out.mono hvw)).alloc (by omega) _⟩
  · have h1:w1.heap.size=b:=Option.some.inj e
    have h2:W1.heap.size≤b:=hb.1
    omega
  · have h1:w2.heap.size=b:=Option.some.inj e
    have h2:b < w2.heap.size:=hb.2
    omega
  · have h1:w1.heap.size=b:=Option.some.inj hb
    have h2:w2.heap.size=b:=Option.some.inj hb2
    omega
 have HP0:=xH hp0
 clear hp0 HN0 HBN HVW HBW HW0 hza hv1
 generalize w2.alloc (.cells #[] 9)=W2 at HP0 ⊢
 go_loopw [6,8,9] (fun vo vl vi wr=>∃ (i m k:Nat) (b0:Option Addr) (d0:Nat) (l0:Option Addr) (f0:Nat) (ws:List Wr) (ls:List ByteArray),i≤(namesD d).length∧vi=.int .i64 i∧vo=.slice b0 m d0∧vl=.slice l0 k f0∧ws.length=m∧m≤i+1∧ls.length=k∧k≤i∧Hid (MeS W0.heap.size W0 wr d (.slice b0 m d0) ws (.slice l0 k f0) k ls (.slice na (namesD d).length ncap))) (fun _ _ vi _=>(namesD d).length - (intOf vi).toNat)
 case atStart=>exact ⟨0,1,0,_,_,_,_,[⟨3,E1,⟨#[]⟩⟩],[],by omega,rfl,rfl,rfl,rfl,by omega,rfl,by omega,HP0.out⟩
 case round =>
  clear HP0
  obtain ⟨i,m,k,b0,d0,l0,f0,ws,ls,hi,rfl,rfl,rfl,hwl,hm,hll,hk,HM⟩:=hrel
  have hnl:=HNL.out
  by_cases hlt:i < (namesD d).length
  · obtain ⟨a9,c9,e9,-,h9⟩:=HM.out.nm
    simp only [Value.slice.injEq] at e9
    obtain ⟨rfl,-,rfl⟩:=e9
    obtain ⟨nb,no,rfl,hnb,hx,-⟩:=h9 i hlt
    have HMEM:=xH (List.getElem_mem hlt)
    have hsm:=names_small HMEM.out
    have HOUx:=xH (HOU.out (namesD d)[i])
    clear h9
    generalize (namesD d)[i]=x at HMEM hx hsm HOUx
    have hd1:decide ((i:Int) < ((namesD d).length:Int))=true:=decide_eq_true (by omega)
    have hi0:(0:Int)≤(i:Int):=by omega
    have hil:(i:Int) < ((namesD d).length:Int):=by omega
    have HRW:=xH (HR2.out.of_block (HM.out.below.block _ HR2.out.lt))
    have HBW:=xH (HB0.out.trans (HM.out.below.mono HB0.out.size))
    have hnb1:=hnb.1
    clear hnb
    go_wp2_with fail
    go_upto_region 7 with fail
    refine wp_swap (c':=Code.region 7 me7Ops true) (by kernel_rfl) ?_
    refine wp_region_noPanic ?_
    refine me7 (w.heap.size+1) nb no (namesD d).length ncap i (.int .i64 code) (.int .i64 num) (.slice va l.parts.length vc) (.int .i64 l.op) (.int .i64 l.fi) (.int .i64 size) (.bool torn) (.int .i64 next) (.slice a8 n8 p8) x wr _ (fun _ _ _ _ _ h=>h) (HRW.out.of_block rfl) hnb1 hx hlt (fun W hW=>HOUx.out W (HBW.out.trans (((Below.refl _ _).drew.trans (hW:Below wr.drew.heap.size wr.drew W)).mono HBW.out.size))) (by kernel_rfl) (fun u b=>by kernel_rfl) ?_
    intro u b W3 hb3 _
    refine NoPanic.normal ?_
    simp only [List.take_succ_cons,List.take_zero,List.drop_succ_cons,List.drop_zero,List.cons_append,List.nil_append]
    have hb03:Below wr.heap.size wr W3:=(Below.refl _ _).drew.trans hb3
    have HM3:=xH (HM.out.on HM.out.below.size hb03)
    have hx3:W3.cell? ⟨nb,no+i,none⟩=some (.string x):=(hb03.cell (show (⟨nb,no+i,none⟩:Addr).block < wr.heap.size from hnb1)).trans hx
    have hnb3:nb < W3.heap.size:=Nat.lt_of_lt_of_le hnb1 hb03.size
    clear hb3 hb03 HM hx HRW HBW HOUx hnb1
    cases b with
    | true =>
      have hal:=(Below.refl W3.heap.size W3).alloc (Nat.le_refl _) (.cells #[.string x] 9)
      have hB3:W0.heap.size≤W3.heap.size:=HM3.out.below.size
      have HMA:=xH (HM3.out.on hB3 hal)
      have HLO:=xH HMA.out.lo
      have HLI:=xH (lies_alloc W3 [.string x] 9)
      have hbz:=HMA.out.below.size
      clear hal HM3
      go_wp2_with (at_builtin;refine append_nm _ rfl _ _ rfl W0.heap.size l0 f0 k ls rfl HLO W3.heap.size x rfl HLI (by omega) hbz ?_;intro fa fc W5 ho5 hg5 hn5)
      have HM5:=xH (HMA.out.addl hbz HMEM.out ho5.out hg5.out hn5.out)
      clear ho5 hg5 hn5 HMA HLO HLI hx3
      go_roundw
      case rel=>exact ⟨i+1,m,k+1,b0,d0,fa,fc,ws,ls++[x],hlt,by go_num,rfl,rfl,hwl,by omega,by rw [List.length_append,hll];rfl,by omega,HM5⟩
      case measure=>simp [intOf];omega
    | false =>
      have HOKw:Hid (∀ y,y∈([⟨4,x,⟨#[]⟩⟩]:List Wr)→y.x.size≤1000∧y.y.size≤1000000):=fun y hy=>by
       rw [List.mem_singleton.1 hy]
       exact ⟨Nat.le_trans hsm (by decide),show (⟨#[]⟩:ByteArray).size≤1000000 by decide⟩
      have halw:=(Below.refl W3.heap.size W3).alloc (Nat.le_refl _) (.cells #[.int .i64 4,.string x,.string ⟨#[]⟩] 29)
      have hBw:W0.heap.size≤W3.heap.size:=HM3.out.below.size
      have HMAw:=xH (HM3.out.on hBw halw)
      have HWAw:=xH HMAw.out.wo
      have HLSw:Hid (0 < 1→∃ ad,some (⟨W3.heap.size,0,none⟩:Addr)=some ad∧∀ j u,(([⟨4,x,⟨#[]⟩⟩]:List Wr).map Wr.cs).flatten[j]? = some u→(W3.alloc (.cells #[.int .i64 4,.string x,.string ⟨#[]⟩] 29)).cell? (ad.add j)=some u):=lies_src (us:=[⟨4,x,⟨#[]⟩⟩]) (lies_alloc W3 [.int .i64 4,.string x,.string ⟨#[]⟩] 29)
      have hbzw:=HMAw.out.below.size
      clear halw
      go_wp2_with (at_builtin;refine append_wr _ rfl _ _ rfl W0.heap.size b0 d0 ws m hwl rfl HWAw (some ⟨W3.heap.size,0,none⟩) 1 1 [⟨4,x,⟨#[]⟩⟩] rfl rfl HOKw HLSw (by omega) (by decide) hbzw (m+1) rfl ?_;intro fa fc W5 ho5 hg5 hn5)
      have HM5:=xH (HMAw.out.addw hbzw ho5.out hg5.out hn5.out)
      clear ho5 hg5 hn5 HMAw HWAw HLSw HOKw hx3 HM3
      go_roundw
      case rel=>exact ⟨i+1,m+1,k,fa,fc,l0,f0,ws++[⟨4,x,⟨#[]⟩⟩],ls,hlt,by go_num,rfl,rfl,by rw [List.length_append,hwl];rfl,by omega,hll,by omega,HM5⟩
      case measure=>simp [intOf];omega
  · obtain rfl:i=(namesD d).length:=by omega
    have hd1:decide (((namesD d).length:Int) < ((namesD d).length:Int))=false:=decide_eq_false (by omega)
    have HOKe:Hid (∀ y,y∈([⟨5,⟨#[]⟩,⟨#[]⟩⟩]:List Wr)→y.x.size≤1000∧y.y.size≤1000000):=fun y hy=>by
     rw [List.mem_singleton.1 hy]
     exact ⟨show (⟨#[]⟩:ByteArray).size≤1000 by decide,show (⟨#[]⟩:ByteArray).size≤1000000 by decide⟩
    have hale:=(Below.refl wr.heap.size wr).alloc (Nat.le_refl _) (.cells #[.int .i64 5,.string ⟨#[]⟩,.string ⟨#[]⟩] 29)
    have hBe:W0.heap.size≤wr.heap.size:=HM.out.below.size
    have HMAe:=xH (HM.out.on hBe hale)
    have HWAe:=xH HMAe.out.wo
    have HLSe:Hid (0 < 1→∃ ad,some (⟨wr.heap.size,0,none⟩:Addr)=some ad∧∀ j u,(([⟨5,⟨#[]⟩,⟨#[]⟩⟩]:List Wr).map Wr.cs).flatten[j]? = some u→(wr.alloc (.cells #[.int .i64 5,.string ⟨#[]⟩,.string ⟨#[]⟩] 29)).cell? (ad.add j)=some u):=lies_src (us:=[⟨5,⟨#[]⟩,⟨#[]⟩⟩]) (lies_alloc wr [.int .i64 5,.string ⟨#[]⟩,.string ⟨#[]⟩] 29)
    have hbze:=HMAe.out.below.size
    clear hale
    have hrs:=(HR2.out.of_block (HMAe.out.below.block _ HR2.out.lt))
    go_upto_region 11 with (at_builtin;refine append_wr _ rfl _ _ rfl W0.heap.size b0 d0 ws m hwl rfl HWAe (some ⟨wr.heap.size,0,none⟩) 1 1 [⟨5,⟨#[]⟩,⟨#[]⟩⟩] rfl rfl HOKe HLSe (by omega) (by decide) hbze (m+1) rfl ?_;intro fa fc W5 ho5 hg5 hn5)
    have HM5:=xH (HMAe.out.addw hbze ho5.out hg5.out hn5.out)
    clear ho5 hg5 hn5 HMAe HWAe HLSe HOKe HM hrs
    have hwl5:(ws++([⟨5,⟨#[]⟩,⟨#[]⟩⟩]:List Wr)).length=m+1:=by rw [List.length_append,hwl];rfl
    generalize ws++([⟨5,⟨#[]⟩,⟨#[]⟩⟩]:List Wr)=ws5 at HM5 hwl5
    have HRW:=xH (HR2.out.of_block (HM5.out.below.block _ HR2.out.lt))
    have HRD:=xH (HR1.out.of_block (HM5.out.below.block _ HR1.out.lt))
    have HBW:=xH (HB0.out.trans (HM5.out.below.mono HB0.out.size))
    obtain ⟨z0,z1,z2,z3,z4,z5,z6,z7,z8⟩:=cell9 HRW.out
    have hwsA:Hid (WsAt (New w W5) W5 (.slice fa (m+1) fc) ws5):=HM5.out.wo.at.carry (fun _ _=>rfl) (fun b hb=>⟨Nat.le_trans HB0.out.size hb.1,hb.2⟩)
    cases torn with
    | false =>
      have HEND:Hid (WrE9 1020 w W5 (.returned (.tuple #[.slice fa (m+1) fc,.int .i64 0]))):=⟨_,_,0,rfl,hwsA.out,by omega,HM5.out.wo.ok,HBW.out⟩
      clear HOU HCL HKE
      go_wp2_with fail
      refine bodyPost_ret (v:=.tuple #[.slice fa (m+1) fc,.int .i64 0]) (by simp [results,Try.results89,go_sem]) rfl ?_
      exact xU HEND
    | true =>
      go_upto_region 13 with fail
      refine wp_swap (c':=Code.region 13 me13Ops true) (by kernel_rfl) ?_
      refine wp_region_noPanic ?_
      have hlz:∀ y,y∈ls→y.size≤8:=fun y hy=>names_small (HM5.out.sub y hy)
      refine me13 w.heap.size (w.heap.size+1) ⟨.slice a0 d.files.length p0,.slice a1 d.names.length p1,.slice a2 d.moves.length p2⟩ (.int .i64 code) (.int .i64 num) (.slice va l.parts.length vc) (.int .i64 l.op) (.int .i64 l.fi) (.int .i64 size) (.bool true) (.int .i64 next) (.slice a8 n8 p8) (.slice fa (m+1) fc) (.slice l0 k f0) (keepD d ls) W5 _ (fun _ _ _ _ _ h=>h) (HRD.out.of_block rfl) (HRW.out.of_block rfl) (fun W hW=>?_) (fun W c' hW hdk=>?_) (by kernel_rfl) ?_
      · have hb:=(Below.refl W5.heap.size W5).drew.trans (hW:Below W5.drew.heap.size W5.drew W)
        exact HKE.out ls (.slice l0 k f0) W (HBW.out.trans (hb.mono HBW.out.size)) (left_at (own_on HM5.out.lo hb) hll hlz) (by omega) HM5.out.sub
      · have hb:=(Below.refl W5.heap.size W5).drew.trans (hW:Below W5.drew.heap.size W5.drew W)
        exact HCL.out (keepD d ls) c' _ W (HBW.out.trans (hb.mono HBW.out.size)) (fun b hb=>hb.2) hdk (keep_names HM5.out.sub)
      intro u W6 us uv ucode hb6 hus hul huo
      refine NoPanic.normal ?_
      simp only [frL_eq,frG,List.lookup,Nat.reduceBEq,Nat.reduceAdd,Option.getD_some,Option.getD_none]
      have hb56:Below W5.heap.size W5 W6:=(Below.refl _ _).drew.trans hb6
      have HM6:=xH (HM5.out.on HM5.out.below.size hb56)
      have HB6:=xH (HBW.out.trans (hb56.mono HBW.out.size))
      obtain ⟨ua,ucap,rfl,-,-⟩:=hus.open
      have HUS:=xH hus
      have HUO:=xH huo
      clear hb6 hb56 hus huo HM5 HBW HRW HRD z0 z1 z2 z3 z4 z5 z6 z7 z8 HOU HCL HKE hwsA hlz
      by_cases hcd:ucode=0
      case neg =>
       have hcd':(ucode != 0)=true:=by simp [hcd]
       have HEND:Hid (WrE9 1020 w (W6.alloc (.cells #[] 29)) (.returned (.tuple #[.slice (some ⟨W6.heap.size,0,none⟩) 0 0,.int .i64 ucode]))):=⟨[],_,ucode,rfl,ws_nil _ _,by decide,fun x hx=>(by cases hx),HB6.out.alloc HB6.out.size _⟩
       go_wp2_with fail
       refine bodyPost_ret (v:=.tuple #[.slice (some ⟨W6.heap.size,0,none⟩) 0 0,.int .i64 ucode]) (by simp [results,Try.results89,go_sem]) rfl ?_
       exact xU HEND
      subst hcd
      have HSRC:=xH (flat_src HUS.out.1 (fun r hr=>by obtain ⟨x,-,rfl⟩:=List.mem_map.1 hr;rfl))
      have HW6:=xH HM6.out.wo
      have hbz6:=HM6.out.below.size
      go_wp2_with (at_builtin;refine append_wr _ rfl _ _ rfl W0.heap.size fa fc ws5 (m+1) hwl5 rfl HW6 ua ucap us.length us rfl rfl HUO HSRC (by omega) (by omega) hbz6 (m+1+us.length) rfl ?_;intro ga gc W7 ho7 hg7 hn7)
      have hB7:=HM6.out.addw hbz6 ho7.out hg7.out hn7.out
      have HEND:Hid (WrE9 1020 w W7 (.returned (.tuple #[.slice ga (m+1+us.length) gc,.int .i64 0]))):=⟨_,_,0,rfl,hB7.wo.at.carry (fun _ _=>rfl) (fun b hb=>⟨Nat.le_trans HB0.out.size hb.1,hb.2⟩),by rw [List.length_append,hwl5];omega,hB7.wo.ok,HB0.out.trans (hB7.below.mono HB0.out.size)⟩
      refine bodyPost_ret (v:=.tuple #[.slice ga (m+1+us.length) gc,.int .i64 0]) (by simp [results,Try.results89,go_sem]) rfl ?_
      exact xU HEND

theorem conv_five (W:World) (a b c d e:Int) (ha:0≤a∧a < 256) (hb':0≤b∧b < 256) (hc:0≤c∧c < 256) (hd:0≤d∧d < 256) (he:0≤e∧e < 256) :
 Sem.run Try.prog (convert 22 9 (.slice (some ⟨W.heap.size,0,none⟩) 5 5)) (W.alloc (.cells #[.int .u8 a,.int .u8 b,.int .u8 c,.int .u8 d,.int .u8 e] 5))=.ok (.string ⟨#[hb a,hb b,hb c,hb d,hb e]⟩) (W.alloc (.cells #[.int .u8 a,.int .u8 b,.int .u8 c,.int .u8 d,.int .u8 e] 5)):=by
 have:=run_convert_bytes_back (P:=Try.prog) (W.alloc (.cells #[.int .u8 a,.int .u8 b,.int .u8 c,.int .u8 d,.int .u8 e] 5)) 22 9 5 ⟨W.heap.size,0,none⟩ 5 [hb a,hb b,hb c,hb d,hb e] Try.underlying22 Try.underlying5 Try.underlying9 (fun j hj=>by
  have hj':j < 5:=by simpa using hj
  rw [Addr.add_lit]
  rcases (show j=0∨j=1∨j=2∨j=3∨j=4 by omega) with rfl | rfl | rfl | rfl | rfl
  · simp only [List.getElem_cons_zero];rw [hb_nat ha.1 ha.2];go_simp
  · simp only [List.getElem_cons_zero,List.getElem_cons_succ];rw [hb_nat hb'.1 hb'.2];go_simp
  · simp only [List.getElem_cons_zero,List.getElem_cons_succ];rw [hb_nat hc.1 hc.2];go_simp
  · simp only [List.getElem_cons_zero,List.getElem_cons_succ];rw [hb_nat hd.1 hd.2];go_simp
  · simp only [List.getElem_cons_zero,List.getElem_cons_succ];rw [hb_nat he.1 he.2];go_simp)
 simpa using this
theorem specLogFrame_any (p:Int) (x:ByteArray) (hx:x.size≤9223372036854775807) (w:World):Calls Try.prog 91 #[.agg #[.int .i64 p,.string x]] w fun e w'=>e=.returned (.string (frB p x))∧Below w.heap.size w w':=by
 have HI:=xH (fun o=>l42RecordOk_any p x hx (w.alloc o))
 go_enter Try.func91,Try.ntmps91
 go_wp2_with fail
 refine (xU HI _).mono ?_
 rintro e w1 ⟨rfl,hb1⟩
 have hb01:=((Below.refl _ w).alloc (Nat.le_refl _) _).trans (hb1.mono (by simp))
 have k0:w1.cell? ⟨w.heap.size,0,none⟩=some (.int .i64 p):=by rw [hb1.cell (by simp)];go_simp
 have k1:w1.cell? ⟨w.heap.size,1,none⟩=some (.string x):=by rw [hb1.cell (by simp)];go_simp
 have HB:=xH hb01
 clear hb1 hb01 HI
 by_cases h:frOk p x.size=true
 · rw [h]
   have hd:=of_decide_eq_true h
   have HH:=xH h
   have p1:1≤p:=hd.1
   have p2:p≤999999:=hd.2.1
   have n2:(x.size:Int)≤2000:=by have:=hd.2.2;omega
   clear h hd
   have hcv:=conv_five w1 ((x.size:Int) / 256) (x.size % 256) (p / 65536) (p / 256 % 256) (p % 256) (by omega) (by omega) (by omega) (by omega) (by omega)
   have k1':=fun o=>(show (w1.alloc o).cell? ⟨w.heap.size,1,none⟩=some (.string x) from (((Below.refl _ w1).alloc (Nat.le_refl _) o).cell (World.block_lt_of_cell? w1 _ k1)).trans k1)
   go_wp2_with fail
   go_ret
   refine ⟨?_,(xU HB).alloc (xU HB).size _⟩
   unfold frB
   rw [if_pos (xU HH)]
   exact ret_str (by rw [show (⟨#[hb (x.size / 256),hb (x.size % 256)]⟩:ByteArray)++⟨#[hb (p / 65536),hb (p / 256 % 256),hb (p % 256)]⟩=⟨#[hb (x.size / 256),hb (x.size % 256),hb (p / 65536),hb (p / 256 % 256),hb (p % 256)]⟩ from by apply ByteArray.ext;simp])
 · have h':frOk p x.size=false:=by simpa using h
   have HH:=xH h'
   rw [h']
   clear h h'
   go_wp2_with fail
   go_ret
   exact ⟨by unfold frB;rw [xU HH];rfl,xU HB⟩
end Go.Proofs.Yteikmbkljkkjiaa
