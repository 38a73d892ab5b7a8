/- A part. -/
import Derived.Test.YteikmbkljkkjiaaSart13
namespace Go.Proofs.Yteikmbkljkkjiaa
open Go Go.RowKit
set_option maxRecDepth 100000
set_option maxHeartbeats 3200000
noncomputable def lt1Ops:Array Oper:=fops Try.f86 1
theorem lt1_neat:Region.noSelect lt1Ops=true∧neat lt1Ops=true:=⟨by kernel_rfl,by kernel_rfl⟩
theorem lt1 (B1 B3:Nat) (c:C3) (z:Int) (D y:ByteArray) (b:Bool) (W0:World) {l:List Value} (Q:Exit→Act→World→Prop) (hQ:∀ c a d v w,Q (.panic c) (Act.put a d v) w→Q (.panic c) a w) (h1:W0.drew.rowIs B1 27 3 (row3 c.c0 c.c1 c.c2)) (hB3:B3 < W0.drew.heap.size) (h3:W0.drew.cell? ⟨B3,0,none⟩=some (.int .i64 z)) (hDs:D.size≤100) (HD:∀ W,Calls Try.prog 71 #[.int .i64 z] W fun e w'=>e=.returned (.string D)∧Below W.heap.size W w') (HK:∀ W,Below W0.drew.heap.size W0.drew W→Calls Try.prog 9 #[.agg #[c.c0,c.c1,c.c2],.string (⟨#[115]⟩++D)] W fun e w'=>e=.returned (.tuple #[.string y,.bool b])∧Below W.heap.size W w')
 (hl:lookL [(2,.pointer (some ⟨B1,0,none⟩)),(3,.pointer (some ⟨B3,0,none⟩)),(4,.slice none 0 0),(5,.bool false)] l=(77,([(2,.pointer (some ⟨B1,0,none⟩)),(3,.pointer (some ⟨B3,0,none⟩)),(4,.slice none 0 0),(5,.bool false)]:List (Nat × Value)).map (·.2)))
 (hend:∀ (u:Nat→Value) (W:World),Below W0.drew.heap.size W0.drew W→Q .normal ⟨(frL u 77 [(2,.pointer (some ⟨B1,0,none⟩)),(3,.pointer (some ⟨B3,0,none⟩)),(4,.slice none 0 0),(5,.bool false),(6,.string y),(7,.bool b)]).toArray,[]⟩ W):(Code.region 1 lt1Ops true).wp Try.prog Q ⟨l.toArray,[]⟩ W0:=by
 obtain ⟨v0,rfl⟩:=look_fr hl
 have hq:NtQ lt1Ops Q:=⟨lt1_neat,hQ⟩
 refine T_start (S:=fun W=>Below W0.drew.heap.size W0.drew W) (by kernel_rfl) (Below.refl _ _) ?_
 clear hl hQ
 generalize W0.drew=V at h1 hB3 h3 HK hend ⊢
 refine T_a hq [0,1,2] (fun w h=>.cons (ldDk (h1.of_block (h.block _ h1.lt))) (.cons (ldIntR _ _ _ ((h.cell hB3).trans h3)) (Lds.nil))) (by kernel_rfl) ?_
 refine T_fr 11 77 [3,4,5,6,7,8,9,10] [(2,.pointer (some ⟨B1,0,none⟩)),(3,.pointer (some ⟨B3,0,none⟩)),(4,.slice none 0 0),(5,.bool false),(13,.agg #[c.c0,c.c1,c.c2]),(14,.pointer (some ⟨B3,0,none⟩)),(15,.int .i64 z)] (by kernel_rfl) fun u=>?_
 refine T_one 3 (by kernel_rfl) fun _=>O_go (HD V) (by kernel_rfl) ?_
 rintro e w1 ⟨rfl,hb1⟩
 refine ⟨_,rfl,hb1,?_⟩
 refine T_yld hq 4 (some 17) (.string (⟨#[115]⟩++D)) (by kernel_rfl) (by kernel_rfl) (fun w h=>addRun (T:=9) (X:=.const (.string ⟨#[115]⟩)) (Y:=.tmp 16) (p:=⟨#[115]⟩) (q:=D) (by kernel_rfl) (by kernel_rfl) (by kernel_rfl) (by have e:(⟨#[115]⟩:ByteArray).size=1:=rfl;omega) w) ?_
 refine T_fr 11 77 [5,6,7,8,9,10] [(2,.pointer (some ⟨B1,0,none⟩)),(3,.pointer (some ⟨B3,0,none⟩)),(4,.slice none 0 0),(5,.bool false),(13,.agg #[c.c0,c.c1,c.c2]),(14,.pointer (some ⟨B3,0,none⟩)),(15,.int .i64 z),(16,.string D),(17,.string (⟨#[115]⟩++D))] (by kernel_rfl) fun u=>?_
 refine T_one 5 (by kernel_rfl) fun _=>O_go (HK w1 hb1) (by kernel_rfl) ?_
 rintro e w2 ⟨rfl,hb2⟩
 refine ⟨_,rfl,hb1.trans (hb2.mono hb1.size),?_⟩
 refine T_z hq [6,7,8,9,10] (by kernel_rfl) ?_
 exact T_end 77 [(2,.pointer (some ⟨B1,0,none⟩)),(3,.pointer (some ⟨B3,0,none⟩)),(4,.slice none 0 0),(5,.bool false),(6,.string y),(7,.bool b)] (by kernel_rfl) (by kernel_rfl) fun hS u=>hend u w2 hS
theorem frs_len8 (s:ByteArray):∀ (n i:Nat),s.size - i≤n→i≤s.size→(frs s i).1.length * 5+i≤s.size
 | 0,i,hn,hi=>by
   have hw:¬ whB s i:=fun h=>by have:=h.1;omega
   rw [frs_no hw];simp;omega
 | n+1,i,hn,hi=>by
   by_cases hw:whB s i
   · rw [frs_yes hw]
     have h0:=szB_nn s i
     have h1:=hw.2.2.2
     have:=frs_len8 s n (i+5+(szB s i).toNat) (by omega) (by omega)
     simp only [List.length_cons];omega
   · rw [frs_no hw];simp;omega
def PaEnd (w w':World) (e:Ending):Prop:=∃ (L:List Rc) (v:Value) (b:Bool),e=.returned (.tuple #[v,.bool b])∧RcsAt (New w w') w' v L∧L.length≤4000∧Below w.heap.size w w'
theorem rcs_new {w w':World} {v:Value} {L:List Rc} {F:List Nat} (h:RcsOwn w' v L F) (hF:∀ b,b∈F→w.heap.size≤b∧b < w'.heap.size):RcsAt (New w w') w' v L:=h.at.carry (fun _ _=>rfl) hF
theorem rcs_nil {P:Nat→Prop} {w:World} (a:Option Addr) (cap:Nat):RcsAt P w (.slice a 0 cap) []:=⟨⟨a,cap,rfl,by decide,fun i hi=>absurd hi (Nat.not_lt_zero i)⟩,fun _ h=>by cases h⟩
theorem decB_le {n:Int} (h0:0≤n) (h1:n≤999999999):(⟨(Lib.itoa n).toArray⟩:ByteArray).size≤100:=by
 have:=Lib.itoa_length_le n (by omega) (by omega)
 show (Lib.itoa n).toArray.size≤100
 rw [List.size_toArray];omega
theorem l43Part_any (d:Dk) (q:Pt) (P:Nat→Prop) (c:C3) (w:World) (hP:∀ b,P b→b < w.heap.size) (hd:DkAt P w d c) (hq:1≤q.num∧q.num≤999999) (hz:0≤q.size∧q.size≤20000) :
 Calls Try.prog 86 #[.agg #[c.c0,c.c1,c.c2],.agg #[.int .i64 q.num,.int .i64 q.first,.int .i64 q.next,.int .i64 q.size]] w fun e w'=>PaEnd w w' e:=by
 have HLK:=xH (fun x W (hW:Below w.heap.size w W)=>specDiskLook_any d x P c W (fun b hb=>Nat.lt_of_lt_of_le (hP b hb) hW.size) (hd.carry (fun b hb=>hW.block b (hP b hb)) (fun _ h=>h)))
 obtain ⟨c0,c1,c2⟩:=c
 obtain ⟨a0,p0,g0,-,-⟩:=hd.fs.open
 obtain ⟨a1,p1,g1,-,-⟩:=id hd.ns
 obtain ⟨a2,p2,g2,-,-⟩:=hd.ms.open
 simp only at g0 g1 g2
 subst g0 g1 g2
 have hb0:Below w.heap.size w ((w.alloc (.cells #[.slice a0 d.files.length p0,.slice a1 d.names.length p1,.slice a2 d.moves.length p2] 27)).alloc (.cells #[.int .i64 q.num,.int .i64 q.first,.int .i64 q.next,.int .i64 q.size] 138)):=((Below.refl _ _).alloc (Nat.le_refl _) _).alloc (by simp) _
 have hr1:=(row3_alloc w (.slice a0 d.files.length p0) (.slice a1 d.names.length p1) (.slice a2 d.moves.length p2) 27).alloc (.cells #[.int .i64 q.num,.int .i64 q.first,.int .i64 q.next,.int .i64 q.size] 138)
 have hs0:((w.alloc (.cells #[.slice a0 d.files.length p0,.slice a1 d.names.length p1,.slice a2 d.moves.length p2] 27)).alloc (.cells #[.int .i64 q.num,.int .i64 q.first,.int .i64 q.next,.int .i64 q.size] 138)).heap.size=w.heap.size+2:=by simp
 have hq0:((w.alloc (.cells #[.slice a0 d.files.length p0,.slice a1 d.names.length p1,.slice a2 d.moves.length p2] 27)).alloc (.cells #[.int .i64 q.num,.int .i64 q.first,.int .i64 q.next,.int .i64 q.size] 138)).cell? ⟨w.heap.size+1,0,none⟩=some (.int .i64 q.num)∧((w.alloc (.cells #[.slice a0 d.files.length p0,.slice a1 d.names.length p1,.slice a2 d.moves.length p2] 27)).alloc (.cells #[.int .i64 q.num,.int .i64 q.first,.int .i64 q.next,.int .i64 q.size] 138)).cell? ⟨w.heap.size+1,1,none⟩=some (.int .i64 q.first)∧((w.alloc (.cells #[.slice a0 d.files.length p0,.slice a1 d.names.length p1,.slice a2 d.moves.length p2] 27)).alloc (.cells #[.int .i64 q.num,.int .i64 q.first,.int .i64 q.next,.int .i64 q.size] 138)).cell? ⟨w.heap.size+1,2,none⟩=some (.int .i64 q.next)∧((w.alloc (.cells #[.slice a0 d.files.length p0,.slice a1 d.names.length p1,.slice a2 d.moves.length p2] 27)).alloc (.cells #[.int .i64 q.num,.int .i64 q.first,.int .i64 q.next,.int .i64 q.size] 138)).cell? ⟨w.heap.size+1,3,none⟩=some (.int .i64 q.size):=by
  have h:=p4_alloc (w.alloc (.cells #[.slice a0 d.files.length p0,.slice a1 d.names.length p1,.slice a2 d.moves.length p2] 27)) q 138
  rw [World.size_alloc] at h
  exact ⟨h.e0,h.e1,h.e2,h.e3⟩
 have HB0:=xH hb0;have HR1:=xH hr1;have HS0:=xH hs0;have HQ0:=xH hq0
 obtain ⟨D,hD⟩:∃ D:ByteArray,⟨(Lib.itoa q.num).toArray⟩=D:=⟨_,rfl⟩
 have HDS:Hid (D.size≤100):=by rw [← hD];exact decB_le (by omega) (by omega)
 have HDD:=xH (fun W=>l6Dec_any q.num W (by omega) (by omega))
 rw [hD] at HDD
 have HLKx:=xH ((xU HLK) (⟨#[115]⟩++D))
 have HLSx:=xH (look_small (d:=d) (⟨#[115]⟩++D))
 generalize lookD d (⟨#[115]⟩++D)=yb at *
 obtain ⟨y,bb⟩:=yb
 simp only at HLKx HLSx
 clear hP hd hb0 hr1 hs0 hq0 HLK hD
 go_enter Try.func86,Try.ntmps86
 go_wp2_with fail
 generalize ((w.alloc (.cells #[.slice a0 d.files.length p0,.slice a1 d.names.length p1,.slice a2 d.moves.length p2] 27)).alloc (.cells #[.int .i64 q.num,.int .i64 q.first,.int .i64 q.next,.int .i64 q.size] 138))=W0 at HB0 HR1 HS0 HQ0 ⊢
 go_upto_region 1 with fail
 refine wp_swap (c':=Code.region 1 lt1Ops true) (by kernel_rfl) ?_
 refine wp_region_noPanic ?_
 have hs0:=xU HS0
 refine lt1 w.heap.size (w.heap.size+1) ⟨.slice a0 d.files.length p0,.slice a1 d.names.length p1,.slice a2 d.moves.length p2⟩ q.num D y bb W0 _ (fun _ _ _ _ _ h=>h) (HR1.out.of_block rfl) (show w.heap.size+1 < W0.heap.size by omega) HQ0.out.1 HDS.out HDD.out (fun W hW=>(xU HLKx) W (HB0.out.trans ((Below.refl _ _).drew.trans (hW:Below W0.drew.heap.size W0.drew W) |>.mono HB0.out.size))) (by kernel_rfl) ?_
 intro u W1 hb1
 refine NoPanic.normal ?_
 simp only [frL_eq,frG,List.lookup,Nat.reduceBEq,Nat.reduceAdd,Option.getD_some,Option.getD_none]
 have hb01:Below W0.heap.size W0 W1:=(Below.refl _ _).drew.trans hb1
 obtain ⟨q0,q1,q2,q3⟩:=HQ0.out
 have lq:w.heap.size+1 < W0.heap.size:=by omega
 have e1:W1.cell? ⟨w.heap.size+1,1,none⟩=some (.int .i64 q.first):=(hb01.cell lq).trans q1
 have e2:W1.cell? ⟨w.heap.size+1,2,none⟩=some (.int .i64 q.next):=(hb01.cell lq).trans q2
 have e3:W1.cell? ⟨w.heap.size+1,3,none⟩=some (.int .i64 q.size):=(hb01.cell lq).trans q3
 have HB1:=xH (HB0.out.trans (hb01.mono HB0.out.size))
 have lq1:w.heap.size+1 < W1.heap.size:=Nat.lt_of_lt_of_le lq hb01.size
 clear hb1 hb01 q0 q1 q2 q3 lq hs0 HQ0 HS0 HR1 HB0 HLKx HDD HDS
 obtain ⟨zn,hzn⟩:∃ zn:Nat,q.size=zn:=⟨q.size.toNat,by omega⟩
 rw [hzn] at e3
 by_cases hgo:bb=true∧zn≤y.size
 case neg =>
  have HEND:Hid (PaEnd w (W1.alloc (.cells #[] 146)) (.returned (.tuple #[.slice (some ⟨W1.heap.size,0,none⟩) 0 0,.bool false]))):=⟨[],_,false,rfl,rcs_nil _ _,by decide,HB1.out.alloc HB1.out.size _⟩
  cases bb with
  | false =>
    go_wp2_with fail
    refine bodyPost_ret (v:=.tuple #[.slice (some ⟨W1.heap.size,0,none⟩) 0 0,.bool false]) (by simp [results,Try.results86,go_sem]) rfl ?_
    exact xU HEND
  | true =>
    have hltn:y.size < zn:=by have:¬ zn≤y.size:=fun h=>hgo ⟨rfl,h⟩;omega
    have hlt:decide ((y.size:Int) < (zn:Int))=true:=decide_eq_true (by have:¬ zn≤y.size:=fun h=>hgo ⟨rfl,h⟩;omega)
    go_wp2_with fail
    refine bodyPost_ret (v:=.tuple #[.slice (some ⟨W1.heap.size,0,none⟩) 0 0,.bool false]) (by simp [results,Try.results86,go_sem]) rfl ?_
    exact xU HEND
 obtain ⟨rfl,hle⟩:=hgo
 have hlt:decide ((y.size:Int) < (zn:Int))=false:=decide_eq_false (by omega)
 have hltn:decide (y.size < zn)=false:=decide_eq_false (by omega)
 have hle1:(0:Int)≤(zn:Int):=by omega
 have hle2:(zn:Int)≤(y.size:Int):=by omega
 have hsz2:(y.extract 0 zn).size=zn:=by rw [ByteArray.size_extract];omega
 have HFR:=xH (specLogFrames_any (y.extract 0 zn) (by omega) W1)
 have hfl:=frs_len8 (y.extract 0 zn) _ 0 (Nat.le_refl _) (Nat.zero_le _)
 go_wp2_with fail
 refine (xU HFR).mono ?_
 rintro e w2 ⟨v,F,rfl,ho,hF,hb2⟩
 generalize frs (y.extract 0 zn) 0=fr at *
 obtain ⟨LL,nn⟩:=fr
 simp only at ho hfl ⊢
 have hLL:LL.length≤4000:=by omega
 clear hfl hsz2 HLSx HFR
 have hrc:=rcs_new ho hF
 have hlq:w.heap.size+1 < W1.heap.size:=lq1
 have e3':w2.cell? ⟨w.heap.size+1,3,none⟩=some (.int .i64 zn):=(hb2.cell lq1).trans e3
 have e2':w2.cell? ⟨w.heap.size+1,2,none⟩=some (.int .i64 q.next):=(hb2.cell lq1).trans e2
 have e1':w2.cell? ⟨w.heap.size+1,1,none⟩=some (.int .i64 q.first):=(hb2.cell lq1).trans e1
 have HRC:=xH (hrc.carry (Q:=New w w2) (fun _ _=>rfl) (fun b hb=>⟨Nat.le_trans HB1.out.size hb.1,hb.2⟩))
 have HB2:=xH (HB1.out.trans (hb2.mono HB1.out.size))
 have lq2:w.heap.size+1 < w2.heap.size:=Nat.lt_of_lt_of_le lq1 hb2.size
 obtain ⟨ra,rcap,rfl,-,hcell⟩:=HRC.out.open
 have HCE:=xH hcell
 have HEND:Hid (∀ W b,Below w2.heap.size w2 W→PaEnd w W (.returned (.tuple #[.slice ra LL.length rcap,.bool b]))):=fun W b hW=>⟨LL,_,b,rfl,HRC.out.carry (fun b hb=>hW.block b hb.2) (fun b hb=>⟨hb.1,Nat.lt_of_lt_of_le hb.2 hW.size⟩),hLL,HB2.out.trans (hW.mono HB2.out.size)⟩
 clear ho hF hb2 hrc e1 e2 e3 HB1 lq1 hlq hcell
 by_cases hnz:nn=zn
 case neg =>
  have hne:((nn:Int) != (zn:Int))=true:=by simp;omega
  go_wp2_with fail
  refine bodyPost_ret (v:=.tuple #[.slice ra LL.length rcap,.bool false]) (by simp [results,Try.results86,go_sem]) rfl ?_
  exact xU HEND _ _ (Below.refl _ _)
 subst hnz
 have hne:((nn:Int) != (nn:Int))=false:=by simp
 go_wp2_with fail
 go_loopw [10,11] (fun vx vi wr=>∃ (i:Nat) (nx:Int),i≤LL.length∧vx=.int .i64 nx∧vi=.int .i64 i∧Hid (Below w2.heap.size w2 wr)) (fun _ vi _=>LL.length - (intOf vi).toNat)
 case atStart=>exact ⟨0,_,by omega,rfl,rfl,Below.refl _ _⟩
 case round =>
  obtain ⟨i,nx,hi,rfl,rfl,HW⟩:=hrel
  have f2:wr.cell? ⟨w.heap.size+1,2,none⟩=some (.int .i64 q.next):=(HW.out.cell lq2).trans e2'
  by_cases hlt:i < LL.length
  · obtain ⟨rb,ro,rfl,hrb,hpos,-,-⟩:=(xU HCE) i hlt
    have hp:wr.cell? ⟨rb,ro+i * 2,none⟩=some (.int .i64 LL[i].pos):=(HW.out.cell (show (⟨rb,ro+i * 2,none⟩:Addr).block < w2.heap.size from hrb.2)).trans hpos
    generalize LL[i].pos=pos at *
    have hd1:decide ((i:Int) < (LL.length:Int))=true:=decide_eq_true (by omega)
    have hi0:(0:Int)≤(i:Int):=by omega
    have hil:(i:Int) < (LL.length:Int):=by omega
    clear hpos e1' e2' e3' HRC
    by_cases h1:pos < nx
    · have hd2:decide (pos < nx)=true:=decide_eq_true h1
      go_wp2_with fail
      go_quiet (fail)
      go_wp2_with fail
      refine bodyPost_ret (v:=.tuple #[.slice (some ⟨rb,ro,none⟩) LL.length rcap,.bool false]) (by simp [results,Try.results86,go_sem]) rfl ?_
      exact xU HEND _ _ (below_drewN HW.out _)
    · have hd2:decide (pos < nx)=false:=decide_eq_false h1
      by_cases h2:q.next≤pos
      · have hd3:decide (q.next≤pos)=true:=decide_eq_true h2
        go_wp2_with fail
        go_quiet (fail)
        go_wp2_with fail
        refine bodyPost_ret (v:=.tuple #[.slice (some ⟨rb,ro,none⟩) LL.length rcap,.bool false]) (by simp [results,Try.results86,go_sem]) rfl ?_
        exact xU HEND _ _ (below_drewN HW.out _)
      · have hd3:decide (q.next≤pos)=false:=decide_eq_false h2
        go_wp2_with fail
        go_quiet (fail)
        go_wp2_with fail
        go_roundw
        case rel=>exact ⟨i+1,_,hlt,rfl,by go_num,below_drewN HW.out _⟩
        case measure=>simp [intOf];omega
  · have hd1:decide ((i:Int) < (LL.length:Int))=false:=decide_eq_false (by omega)
    go_wp2_with fail
    refine bodyPost_ret (v:=.tuple #[.slice ra LL.length rcap,.bool true]) (by simp [results,Try.results86,go_sem]) rfl ?_
    exact xU HEND _ _ HW.out

theorem own_cap8 {w:World} {base:Nat} {e:TypeId} {size:Nat} {a:Option Addr} {n m cap:Nat} {xs:List Value} (h:w.ownsRow base e size (.slice a n cap) m xs):n≤cap:=by
 rcases h.2 with ⟨hv,h0⟩ | ⟨g,c,u,hv,_,_,hle,_⟩
 · simp only [Value.slice.injEq] at hv;omega
 · simp only [Value.slice.injEq] at hv;omega
theorem own_form8 {w:World} {base:Nat} {e:TypeId} {size:Nat} {v:Value} {n:Nat} {xs:List Value} (h:w.ownsRow base e size v n xs):∃ a cap,v=.slice a n cap:=by
 rcases h.2 with ⟨hv,h0⟩ | ⟨g,c,u,hv,_⟩
 · exact ⟨none,0,by rw [hv,h0]⟩
 · exact ⟨_,_,hv⟩
theorem append_list8 {P:Program} (w:World) {ops:Array Oper} {rest:List Oper} {o:Oper} {a:Act} {Q:Exit→Act→World→Prop}
 (hg:o.guard=none) (s x:Operand) (t:TypeId) (hop:o.op=Op.call { callee:=Callee.builtin Builtin.append,args:=#[s,x],argTypes:=#[t,t] })
 (base:Nat) (e:TypeId) (i:TypeInfo) (z:Value) (size bytes:Nat) (h1:P.underlying t=some (.slice e)) (h2:P.info? e=some i) (h3:i.zero=some z) (h4:i.size=size) (h5:i.bytes=bytes) (h6:z.cells.size=size) (h7:0 < size)
 (a0:Option Addr) (n cap:Nat) (xs:List Value) (hs:a.eval s=.slice a0 n cap) (hown:Hid (w.ownsRow base e size (.slice a0 n cap) n xs))
 (ax:Option Addr) (m c:Nat) (ys:List Value) (hx:a.eval x=.slice ax m c) (hn:ys.length=m * size) (hc:0 < m→∃ ad,ax=some ad∧∀ j u,ys[j]? = some u→w.cell? (ad.add j)=some u) (h1c:∀ u∈ys,u.oneCell'=true)
 (b1:n+m≤maxLen) (b2:(n+m) * bytes≤140737488355328) (hbase:base≤w.heap.size) (k:Nat) (hk:n+m=k)
 (hK:∀ a' cap' w',Hid (w'.ownsRow base e size (.slice a' k cap') k (xs++ys))→Hid (w.grownBy w' (Value.slice a0 n cap).ownBlock)→wpList P ops Q rest (a.put o.dst (.slice a' k cap')) w') :
 wpList P ops Q (o::rest) a w:=by
 have hown:=xU hown
 subst hk
 rcases Nat.eq_zero_or_pos m with h0 | h0
 · subst h0
   have hys:ys=[]:=List.eq_nil_of_length_eq_zero (by rw [hn];omega)
   subst hys
   have hcap:n≤cap:=own_cap8 hown
   have hrun:∀ ty,(Builtin.append_ #[t,t] ty #[.slice a0 n cap,.slice ax 0 c]).run P w=.ok (.slice a0 n cap) w:=fun ty=>by
    cases a0 with
    | none=>cases ax <;> simp [Builtin.append_,run_underlying h1,sizeOf,typeInfo,h2,Builtin.lenOf,Builtin.firstCells,go_sem,hcap]
    | some a1=>cases ax <;> simp [Builtin.append_,run_underlying h1,sizeOf,typeInfo,h2,Builtin.lenOf,Builtin.firstCells,go_sem,hcap]
   refine wpList_plain hg fun K hKK=>?_
   unfold Oper.wp execOp
   simp only [hop,resolve,invoke,builtin,Sem.run_bind,Sem.run_pure,Result.andThen_ok,List.map_toArray,List.map_cons,List.map_nil,hs,hx,hrun]
   exact hKK _ _ (hK a0 cap w (by rw [Nat.add_zero,List.append_nil];exact hown) (World.grownBy.refl w _))
 · obtain ⟨ad,rfl,hcc⟩:=hc h0
   refine append_row w hg s x t hop base e i z size bytes h1 h2 h3 h4 h5 h6 h7 (.slice a0 n cap) n xs hs hown ad m c ys hx hn hcc h1c h0 b1 b2 hbase (fun v' w' r1 r2 _=>?_)
   obtain ⟨a',cap',rfl⟩:=own_form8 r1
   exact hK _ cap' w' r1 r2
end Go.Proofs.Yteikmbkljkkjiaa
