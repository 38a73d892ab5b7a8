/- A part. -/
import Derived.Test.YteikmbkljkkjiaaPart13
namespace Go.Proofs.Yteikmbkljkkjiaa
open Go Go.RowKit
set_option maxRecDepth 100000
set_option maxHeartbeats 3200000
theorem addNat8 {a b:Nat} (h:a+b≤4000000000):Value.int .i64 (IntKind.i64.wrap ((a:Int)+(b:Int)))=.int .i64 ((a+b:Nat):Int):=by
 congr 1
 rw [IntKind.wrap_i64]
 omega
noncomputable def tp5Ops:Array Oper:=fops Try.f95 5
theorem tp5_neat:Region.noSelect tp5Ops=true∧neat tp5Ops=true:=⟨by kernel_rfl,by kernel_rfl⟩
def kp_tp5 (z:Nat→Value):List (Nat × Value):=[(0,z 0),(2,z 2),(6,z 6),(7,z 7),(8,z 8),(9,z 9),(10,z 10),(11,z 11),(12,z 12),(28,z 28),(29,z 29),(30,z 30),(31,z 31),(32,z 32)]
theorem tp5z (z:Nat→Value) (LL:(Nat→Value)→Nat→Nat→List Value) (B1 g p n cap i top:Nat) (x:ByteArray) (W0:World) {l:List Value} (Q:Exit→Act→World→Prop) (hQ:∀ c a d v w,Q (.panic c) (Act.put a d v) w→Q (.panic c) a w) (hB1:B1 < W0.drew.heap.size) (h1:W0.drew.cell? ⟨B1,0,none⟩=some (.slice (some ⟨g,p,none⟩) n cap)) (hg:g < W0.drew.heap.size) (hx:W0.drew.cell? ⟨g,p+i * 3,none⟩=some (.string x)) (hi:i < n) (HN:∀ (c:Int) W,Calls Try.prog 93 #[.string x,.int .u8 c] W fun e w'=>∃ n:Nat,e=.returned (.int .i64 n)∧n≤999999∧Below W.heap.size W w')
 (hl:lookL (kp_tp5 z++[(1,.pointer (some ⟨B1,0,none⟩)),(3,.int .i64 (top:Nat)),(4,.int .i64 (i:Nat))]) l=(33,((kp_tp5 z++[(1,.pointer (some ⟨B1,0,none⟩)),(3,.int .i64 (top:Nat)),(4,.int .i64 (i:Nat))]):List (Nat × Value)).map (·.2)))
 (hfr:∀ (u:Nat→Value) (n1:Nat) (n2:Nat),frL u 33 (kp_tp5 z++[(1,.pointer (some ⟨B1,0,none⟩)),(3,.int .i64 (top:Nat)),(4,.int .i64 (i:Nat)),(5,.int .i64 ((n1+n2:Nat):Int))])=LL u n1 n2)
 (hend:∀ (u:Nat→Value) (n1:Nat) (n2:Nat) (W:World),Below W0.drew.heap.size W0.drew W→(n1≤999999∧n2≤999999)→Q .normal ⟨(LL u n1 n2).toArray,[]⟩ W):(Code.region 5 tp5Ops true).wp Try.prog Q ⟨l.toArray,[]⟩ W0:=by
 obtain ⟨v0,rfl⟩:=look_fr hl
 have hq:NtQ tp5Ops Q:=⟨tp5_neat,hQ⟩
 refine T_start (S:=fun W=>Below W0.drew.heap.size W0.drew W) (by kernel_rfl) (Below.refl _ _) ?_
 clear hl hQ
 generalize W0.drew=V at hB1 h1 hg hx hend ⊢
 refine T_a hq [0,1,2,7,8,9] (fun w h=>.cons (ldFs _ _ _ ((h.cell hB1).trans h1)) (.cons (ldFs _ _ _ ((h.cell hB1).trans h1)) (Lds.nil))) (by kernel_rfl) ?_
 refine T_yld hq 3 (some 16) (.pointer (some ⟨g,p+i * 3,none⟩)) (by kernel_rfl) (by kernel_rfl) (fun w h=>ixRun (X:=.tmp 14) (I:=.tmp 15) (n:=n) (cap:=cap) (i:=i) (by kernel_rfl) (by kernel_rfl) (by kernel_rfl) hi w) ?_
 refine T_yld hq 10 (some 23) (.pointer (some ⟨g,p+i * 3,none⟩)) (by kernel_rfl) (by kernel_rfl) (fun w h=>ixRun (X:=.tmp 21) (I:=.tmp 22) (n:=n) (cap:=cap) (i:=i) (by kernel_rfl) (by kernel_rfl) (by kernel_rfl) hi w) ?_
 refine T_a hq [4,5,11,12] (fun w h=>.cons (ldStr _ _ _ ((h.cell hg).trans hx)) (.cons (ldStr _ _ _ ((h.cell hg).trans hx)) (Lds.nil))) (by kernel_rfl) ?_
 refine T_fr 16 33 [6,13,14,15] (kp_tp5 z++[(1,.pointer (some ⟨B1,0,none⟩)),(3,.int .i64 (top:Nat)),(4,.int .i64 (i:Nat)),(18,.string x),(25,.string x)]) (by kernel_rfl) fun u=>?_
 refine T_one 6 (by kernel_rfl) fun _=>O_go (HN 109 V) (by kernel_rfl) ?_
 rintro e w1 ⟨n1,rfl,hn1,hb1⟩
 refine ⟨_,rfl,hb1,?_⟩
 refine T_fr 16 33 [13,14,15] (kp_tp5 z++[(1,.pointer (some ⟨B1,0,none⟩)),(3,.int .i64 (top:Nat)),(4,.int .i64 (i:Nat)),(18,.string x),(19,.int .i64 (n1:Nat)),(25,.string x)]) (by kernel_rfl) fun u=>?_
 refine T_one 13 (by kernel_rfl) fun _=>O_go (HN 115 w1) (by kernel_rfl) ?_
 rintro e w2 ⟨n2,rfl,hn2,hb2⟩
 refine ⟨_,rfl,hb1.trans (hb2.mono hb1.size),?_⟩
 refine T_val (i:=14) hq (some 27) (.int .i64 (IntKind.i64.wrap ((n1:Int)+(n2:Int)))) (.int .i64 ((n1+n2:Nat):Int)) (addNat8 (by omega)) (by kernel_rfl) (by kernel_rfl) ?_
 refine T_z hq [15] (by kernel_rfl) ?_
 exact T_end 33 (kp_tp5 z++[(1,.pointer (some ⟨B1,0,none⟩)),(3,.int .i64 (top:Nat)),(4,.int .i64 (i:Nat)),(5,.int .i64 ((n1+n2:Nat):Int))]) (by kernel_rfl) (by kernel_rfl) fun hS u=>by rw [hfr];exact hend u n1 n2 w2 hS ⟨hn1,hn2⟩
theorem tp5 (B1 g p n cap i top:Nat) (x:ByteArray) (W0:World) {l:List Value} (Q:Exit→Act→World→Prop) (hQ:∀ c a d v w,Q (.panic c) (Act.put a d v) w→Q (.panic c) a w) (hB1:B1 < W0.drew.heap.size) (h1:W0.drew.cell? ⟨B1,0,none⟩=some (.slice (some ⟨g,p,none⟩) n cap)) (hg:g < W0.drew.heap.size) (hx:W0.drew.cell? ⟨g,p+i * 3,none⟩=some (.string x)) (hi:i < n) (HN:∀ (c:Int) W,Calls Try.prog 93 #[.string x,.int .u8 c] W fun e w'=>∃ n:Nat,e=.returned (.int .i64 n)∧n≤999999∧Below W.heap.size W w')
 (hl:lookL (kp_tp5 (fun i=>l.getD i undef)++[(1,.pointer (some ⟨B1,0,none⟩)),(3,.int .i64 (top:Nat)),(4,.int .i64 (i:Nat))]) l=(33,((kp_tp5 (fun i=>l.getD i undef)++[(1,.pointer (some ⟨B1,0,none⟩)),(3,.int .i64 (top:Nat)),(4,.int .i64 (i:Nat))]):List (Nat × Value)).map (·.2)))
 (hfr:∀ (u:Nat→Value) (n1:Nat) (n2:Nat),frL u 33 (kp_tp5 (fun i=>l.getD i undef)++[(1,.pointer (some ⟨B1,0,none⟩)),(3,.int .i64 (top:Nat)),(4,.int .i64 (i:Nat)),(5,.int .i64 ((n1+n2:Nat):Int))])=(l.take 5++(.int .i64 ((n1+n2:Nat):Int)::((l.drop 6).take 7++(u 13::(u 14::(u 15::(u 16::(u 17::(u 18::(u 19::(u 20::(u 21::(u 22::(u 23::(u 24::(u 25::(u 26::(u 27::l.drop 28)))))))))))))))))))
 (hend:∀ (u:Nat→Value) (n1:Nat) (n2:Nat) (W:World),Below W0.drew.heap.size W0.drew W→(n1≤999999∧n2≤999999)→Q .normal ⟨((l.take 5++(.int .i64 ((n1+n2:Nat):Int)::((l.drop 6).take 7++(u 13::(u 14::(u 15::(u 16::(u 17::(u 18::(u 19::(u 20::(u 21::(u 22::(u 23::(u 24::(u 25::(u 26::(u 27::l.drop 28))))))))))))))))))).toArray,[]⟩ W):(Code.region 5 tp5Ops true).wp Try.prog Q ⟨l.toArray,[]⟩ W0 :=
 tp5z (fun i=>l.getD i undef) (fun u n1 n2=>(l.take 5++(.int .i64 ((n1+n2:Nat):Int)::((l.drop 6).take 7++(u 13::(u 14::(u 15::(u 16::(u 17::(u 18::(u 19::(u 20::(u 21::(u 22::(u 23::(u 24::(u 25::(u 26::(u 27::l.drop 28))))))))))))))))))) B1 g p n cap i top x W0 Q hQ hB1 h1 hg hx hi HN hl hfr hend
theorem l44Top_any (d:Dk) (P:Nat→Prop) (c:C3) (w:World) (hP:∀ b,P b→b < w.heap.size) (hd:DkAt P w d c) (hnm:∀ f,f∈d.files→f.name.size≤1048576) :
 Calls Try.prog 95 #[.agg #[c.c0,c.c1,c.c2]] w fun e w'=>∃ n:Nat,e=.returned (.int .i64 n)∧n≤1999998∧Below w.heap.size w w':=by
 obtain ⟨c0,c1,c2⟩:=c
 obtain ⟨a0,p0,g0,hl0,hfc⟩:=hd.fs.open
 obtain ⟨a1,p1,g1,-,-⟩:=id hd.ns
 obtain ⟨a2,p2,g2,-,-⟩:=hd.ms.open
 simp only at g0 g1 g2
 subst g0 g1 g2
 have hb0:Below w.heap.size w (w.alloc (.cells #[.slice a0 d.files.length p0,.slice a1 d.names.length p1,.slice a2 d.moves.length p2] 27)):=(Below.refl _ _).alloc (Nat.le_refl _) _
 have hr1:=row3_alloc w (.slice a0 d.files.length p0) (.slice a1 d.names.length p1) (.slice a2 d.moves.length p2) 27
 have HB0:=xH hb0;have HR1:=xH hr1
 have HFC:Hid (∀ i,(hi:i < d.files.length)→∃ b o,a0=some ⟨b,o,none⟩∧b < w.heap.size∧w.cell? ⟨b,o+i * 3,none⟩=some (.string d.files[i].name)):=fun i hi=>by
  obtain ⟨b,o,e,hb,h3,-⟩:=hfc i hi
  exact ⟨b,o,e,hP b hb,h3.1⟩
 have HNM:=xH hnm
 clear hP hd hb0 hr1 hfc hnm
 go_enter Try.func95,Try.ntmps95
 go_wp2_with fail
 generalize (w.alloc (.cells #[.slice a0 d.files.length p0,.slice a1 d.names.length p1,.slice a2 d.moves.length p2] 27))=W0 at HB0 HR1 ⊢
 go_loopw [3,4] (fun vt vi wr=>∃ (i top:Nat),i≤d.files.length∧top≤1999998∧vt=.int .i64 top∧vi=.int .i64 i∧Hid (Below W0.heap.size W0 wr)) (fun _ vi _=>d.files.length - (intOf vi).toNat)
 case atStart=>exact ⟨0,0,by omega,by omega,rfl,rfl,Below.refl _ _⟩
 case round =>
  obtain ⟨i,top,hi,ht,rfl,rfl,HW⟩:=hrel
  have hr:=HR1.out.of_block (HW.out.block _ HR1.out.lt)
  have k0:=hr.cell (i:=0) (by omega)
  simp only [row3] at k0
  have hrl:=hr.lt
  clear hr
  by_cases hlt:i < d.files.length
  · obtain ⟨b,q,rfl,hb,hx⟩:=HFC.out i hlt
    have hbw:=HB0.out.trans (HW.out.mono HB0.out.size)
    have hx2:wr.cell? ⟨b,q+i * 3,none⟩=some (.string d.files[i].name):=(hbw.cell (show (⟨b,q+i * 3,none⟩:Addr).block < w.heap.size from hb)).trans hx
    have hbl:b < wr.heap.size:=Nat.lt_of_lt_of_le hb hbw.size
    have hsm:=HNM.out _ (List.getElem_mem hlt)
    generalize d.files[i].name=x at *
    have HNU:=xH (fun (c:Int) W=>l43Num_any x c W hsm)
    have hd1:decide ((i:Int) < (d.files.length:Int))=true:=decide_eq_true (by omega)
    clear hx hsm hbw HFC
    go_wp2_with fail
    go_upto_region 5 with fail
    refine wp_swap (c':=Code.region 5 tp5Ops true) (by kernel_rfl) ?_
    refine wp_region_noPanic ?_
    refine tp5 w.heap.size b q d.files.length p0 i top x wr _ (fun _ _ _ _ _ h=>h) hrl k0 hbl hx2 hlt HNU.out (by kernel_rfl) (fun u n1 n2=>by kernel_rfl) ?_
    intro u n1 n2 W1 hb1 hn
    refine NoPanic.normal ?_
    simp only [List.take_succ_cons,List.take_zero,List.drop_succ_cons,List.drop_zero,List.cons_append,List.nil_append]
    have HW1:=xH (HW.out.trans (((Below.refl _ _).drew.trans hb1).mono HW.out.size))
    clear hb1 HW k0 hx2 HNU
    obtain ⟨hn1,hn2⟩:=hn
    by_cases hgt:top < n1+n2
    · have hd2:decide ((top:Int) < ((n1+n2:Nat):Int))=true:=decide_eq_true (by omega)
      have hm:n1+n2≤1999998:=by omega
      generalize n1+n2=m at *
      go_wp2_with fail
      go_roundw
      case rel=>exact ⟨i+1,m,hlt,hm,rfl,by go_num,xU HW1⟩
      case measure=>simp [intOf];omega
    · have hd2:decide ((top:Int) < ((n1+n2:Nat):Int))=false:=decide_eq_false (by omega)
      generalize n1+n2=m at *
      go_wp2_with fail
      go_roundw
      case rel=>exact ⟨i+1,top,hlt,ht,rfl,by go_num,xU HW1⟩
      case measure=>simp [intOf];omega
  · have hd1:decide ((i:Int) < (d.files.length:Int))=false:=decide_eq_false (by omega)
    have HEND:=xH (HB0.out.trans (HW.out.mono HB0.out.size))
    go_wp2_with fail
    go_ret
    exact ⟨top,rfl,ht,xU HEND⟩
structure StOk (P:Nat→Prop) (w:World) (num:Int) (l:Pl) (vP:Value):Prop where
 pts:PtsAt P w vP l.parts
 len:l.parts.length≤40
 nums:∀ p,p∈l.parts→1≤p.num∧p.num≤999999
 num:0≤num∧num≤999999
 op:0≤l.op∧l.op≤999999
theorem StOk.carry {P Q:Nat→Prop} {w w':World} {num:Int} {l:Pl} {vP:Value} (h:StOk P w num l vP) (hP:∀ b,P b→w'.heap[b]? = w.heap[b]?) (hQ:∀ b,P b→Q b):StOk Q w' num l vP:=⟨h.pts.carry hP hQ,h.len,h.nums,h.num,h.op⟩
theorem l44Ours_any (code num size next:Int) (torn:Bool) (l:Pl) (vP:Value) (a8:Option Addr) (n8 p8:Nat) (x:ByteArray) (P:Nat→Prop) (w:World) (hP:∀ b,P b→b < w.heap.size) (hs:StOk P w num l vP) :
 Calls Try.prog 96 #[.agg #[.int .i64 code,.int .i64 num,vP,.int .i64 l.op,.int .i64 l.fi,.int .i64 size,.bool torn,.int .i64 next,.slice a8 n8 p8],.string x] w fun e w'=>(∃ b:Bool,e=.returned (.bool b))∧Below w.heap.size w w':=by
 obtain ⟨va,vc,rfl,-,hvc⟩:=hs.pts.open
 have hb0:Below w.heap.size w (w.alloc (.cells #[.int .i64 code,.int .i64 num,.slice va l.parts.length vc,.int .i64 l.op,.int .i64 l.fi,.int .i64 size,.bool torn,.int .i64 next,.slice a8 n8 p8] 118)):=(Below.refl _ _).alloc (Nat.le_refl _) _
 have hr1:=row9_alloc w (.int .i64 code) (.int .i64 num) (.slice va l.parts.length vc) (.int .i64 l.op) (.int .i64 l.fi) (.int .i64 size) (.bool torn) (.int .i64 next) (.slice a8 n8 p8) 118
 have HB0:=xH hb0;have HR1:=xH hr1
 have HVC:Hid (∀ i,(hi:i < l.parts.length)→∃ b o,va=some ⟨b,o,none⟩∧b < w.heap.size∧w.cell? ⟨b,o+i * 4,none⟩=some (.int .i64 l.parts[i].num)):=fun i hi=>by
  obtain ⟨b,o,e,hb,h4⟩:=hvc i hi
  exact ⟨b,o,e,hP b hb,h4.e0⟩
 have hnum:=hs.num;have hop:=hs.op;have hlen:=hs.len
 have HNS:=xH hs.nums
 obtain ⟨D1,hD1⟩:∃ D:ByteArray,⟨(Lib.itoa num).toArray⟩=D:=⟨_,rfl⟩
 have HD1:=xH (fun W=>l6Dec_any num W (by omega) (by omega))
 have hsD1:D1.size≤100:=by rw [← hD1];exact decB_le (by omega) (by omega)
 rw [hD1] at HD1
 obtain ⟨E1,hE1⟩:∃ E:ByteArray,⟨#[109]⟩++D1=E:=⟨_,rfl⟩
 have haE1:∀ T,binOp .add T (.string ⟨#[109]⟩) (.string D1)=pure (.string E1):=fun T=>by
  rw [← hE1];exact addP T _ _ (by have e:(⟨#[109]⟩:ByteArray).size=1:=rfl;omega)
 clear hD1 hE1 hsD1
 obtain ⟨D2,hD2⟩:∃ D:ByteArray,⟨(Lib.itoa l.op).toArray⟩=D:=⟨_,rfl⟩
 have HD2:=xH (fun W=>l6Dec_any l.op W (by omega) (by omega))
 have hsD2:D2.size≤100:=by rw [← hD2];exact decB_le (by omega) (by omega)
 rw [hD2] at HD2
 obtain ⟨E2,hE2⟩:∃ E:ByteArray,⟨#[115]⟩++D2=E:=⟨_,rfl⟩
 have haE2:∀ T,binOp .add T (.string ⟨#[115]⟩) (.string D2)=pure (.string E2):=fun T=>by
  rw [← hE2];exact addP T _ _ (by have e:(⟨#[115]⟩:ByteArray).size=1:=rfl;omega)
 clear hD2 hE2 hsD2
 clear hP hs hb0 hr1 hvc hnum hop
 go_enter Try.func96,Try.ntmps96
 go_wp2_with fail
 generalize (w.alloc (.cells #[.int .i64 code,.int .i64 num,.slice va l.parts.length vc,.int .i64 l.op,.int .i64 l.fi,.int .i64 size,.bool torn,.int .i64 next,.slice a8 n8 p8] 118))=W0 at HB0 HR1 ⊢
 refine (HD1.out W0).mono ?_
 rintro e w1 ⟨rfl,hb1⟩
 have HW1:=xH (HB0.out.trans (hb1.mono HB0.out.size))
 have hr:=HR1.out.of_block (hb1.block _ HR1.out.lt)
 have hb01:=hb1
 obtain ⟨z0,z1,z2,z3,z4,z5,z6,z7,z8⟩:=cell9 hr
 have HRW:=xH hr
 clear hb1 hr hb01 HD1
 cases hq1:(x.toList==E1.toList) with
 | true =>
   go_wp2_with fail
   go_ret
   exact ⟨⟨_,rfl⟩,xU HW1⟩
 | false =>
   go_wp2_with fail
   refine (HD2.out w1).mono ?_
   rintro e w2 ⟨rfl,hb2⟩
   have HW2:=xH (HW1.out.trans (hb2.mono HW1.out.size))
   have HR2:=xH (HRW.out.of_block (hb2.block _ HRW.out.lt))
   clear hb2 HD2 HW1 HRW z0 z1 z2 z3 z4 z5 z6 z7 z8 HB0 HR1
   cases hq2:(x.toList==E2.toList) with
   | true =>
     go_wp2_with fail
     go_ret
     exact ⟨⟨_,rfl⟩,xU HW2⟩
   | false =>
     go_wp2_with fail
     go_loopw [5] (fun vi wr=>∃ (i:Nat),i≤l.parts.length∧vi=.int .i64 i∧Hid (Below w2.heap.size w2 wr)) (fun vi _=>l.parts.length - (intOf vi).toNat)
     case atStart=>exact ⟨0,by omega,rfl,Below.refl _ _⟩
     case round =>
      obtain ⟨i,hi,rfl,HZ⟩:=hrel
      have hr:=HR2.out.of_block (HZ.out.block _ HR2.out.lt)
      obtain ⟨z0,z1,z2,z3,z4,z5,z6,z7,z8⟩:=cell9 hr
      clear hr
      by_cases hlt:i < l.parts.length
      · obtain ⟨b,q,rfl,hb,hx⟩:=HVC.out i hlt
        have hbw:=HW2.out.trans (HZ.out.mono HW2.out.size)
        have hx2:wr.cell? ⟨b,q+i * 4,none⟩=some (.int .i64 l.parts[i].num):=(hbw.cell (show (⟨b,q+i * 4,none⟩:Addr).block < w.heap.size from hb)).trans hx
        obtain ⟨hq3,hq4⟩:=HNS.out _ (List.getElem_mem hlt)
        have HNS:=HNS
        generalize l.parts[i].num=qn at *
        obtain ⟨D3,hD3⟩:∃ D:ByteArray,⟨(Lib.itoa qn).toArray⟩=D:=⟨_,rfl⟩
        have HD3:=xH (fun W=>l6Dec_any qn W (by omega) (by omega))
        have hsD3:D3.size≤100:=by rw [← hD3];exact decB_le (by omega) (by omega)
        rw [hD3] at HD3
        obtain ⟨E3,hE3⟩:∃ E:ByteArray,⟨#[115]⟩++D3=E:=⟨_,rfl⟩
        have haE3:∀ T,binOp .add T (.string ⟨#[115]⟩) (.string D3)=pure (.string E3):=fun T=>by
         rw [← hE3];exact addP T _ _ (by have e:(⟨#[115]⟩:ByteArray).size=1:=rfl;omega)
        clear hD3 hE3 hsD3
        have hd1:decide ((i:Int) < (l.parts.length:Int))=true:=decide_eq_true (by omega)
        have hi0:(0:Int)≤(i:Int):=by omega
        have hil:(i:Int) < (l.parts.length:Int):=by omega
        clear hx hbw HVC
        go_wp2_with fail
        refine (HD3.out _).mono ?_
        rintro e w3 ⟨rfl,hb3⟩
        have HZ3:=xH (HZ.out.trans (hb3.mono HZ.out.size))
        clear hb3 HD3 HZ z0 z1 z2 z3 z4 z5 z6 z7 z8 hx2
        cases hq5:(x.toList==E3.toList) with
        | true =>
          go_wp2_with fail
          go_ret
          exact ⟨⟨_,rfl⟩,HW2.out.trans (HZ3.out.mono HW2.out.size)⟩
        | false =>
          go_wp2_with fail
          go_roundw
          case rel=>exact ⟨i+1,hlt,by go_num,xU HZ3⟩
          case measure=>simp [intOf];omega
      · have hd1:decide ((i:Int) < (l.parts.length:Int))=false:=decide_eq_false (by omega)
        go_wp2_with fail
        go_ret
        exact ⟨⟨_,rfl⟩,HW2.out.trans (HZ.out.mono HW2.out.size)⟩

theorem ok_of {d:Dk} (l1:d.files.length≤64) (l2:d.names.length≤64) (l3:d.moves.length≤128) (hn:d.files.map Df.name=madeD d.names d.moves) (hnd:(madeD d.names d.moves).Nodup)
 (hf:∀ f,f∈d.files→nameOkB f.name=true∧f.data.size≤20000∧0≤f.kept∧f.kept≤f.data.size)
 (hm:∀ i (h:i < d.moves.length),d.moves[i].gone=true→hasB (afterD d.names (d.moves.take i)) d.moves[i].name=true):DkOkS d:=by
 have hlen:(madeD d.names d.moves).length=d.files.length:=by rw [← hn,List.length_map]
 refine ⟨l1,l2,l3,hlen,fun i h h2=>?_,hm⟩
 have h0:=hf d.files[i] (List.getElem_mem h)
 have hni:d.files[i].name=(madeD d.names d.moves)[i]:=by
  have:(d.files.map Df.name)[i]'(by rw [List.length_map];exact h)=(madeD d.names d.moves)[i]:=by simp only [hn]
  rw [List.getElem_map] at this
  exact this
 have hfi:findF d.files d.files[i].name=i:=by
  refine findF_yes i h (by rw [sameB_dec];exact decide_eq_true rfl) fun j hj hjl=>?_
  rw [sameB_dec]
  refine decide_eq_false fun e=>?_
  rw [← hn] at hnd
  have:=(List.pairwise_iff_getElem.1 hnd) j i (by rw [List.length_map];exact hjl) (by rw [List.length_map];exact h) hj
  rw [List.getElem_map,List.getElem_map] at this
  exact this e
 exact ⟨h0.1,by rw [sameB_dec];exact decide_eq_true hni,h0.2.1,h0.2.2,hfi⟩
theorem made_snoc (ns:List ByteArray) (ms:List Dm) (m:Dm):madeD ns (ms++[m])=if m.gone=true then madeD ns ms else madeD ns ms++[m.name]:=by
 unfold madeD
 rw [List.filter_append,List.map_append,← List.append_assoc]
 cases h:m.gone <;> simp [h]
theorem len_sub:∀ (l m:List ByteArray),l.Nodup→(∀ x,x∈l→x∈m)→l.length≤m.length
 | [],_,_,_=>Nat.zero_le _
 | a::l,m,hn,hs=>by
   have ha:=hs a (by simp)
   obtain ⟨s,u,rfl⟩:=List.append_of_mem ha
   have h1:=len_sub l (s++u) (List.nodup_cons.1 hn).2 fun x hx=>by
    have h2:=hs x (by simp [hx])
    have hne:x≠a:=fun e=>(List.nodup_cons.1 hn).1 (e ▸ hx)
    simp only [List.mem_append,List.mem_cons] at h2 ⊢
    rcases h2 with h2 | h2 | h2
    · exact Or.inl h2
    · exact absurd h2 hne
    · exact Or.inr h2
   simp only [List.length_append,List.length_cons] at h1 ⊢
   omega
theorem set_names {fs:List Df} {i:Nat} (hi:i < fs.length) {f:Df} (h:f.name=fs[i].name):(fs.set i f).map Df.name=fs.map Df.name:=by
 rw [List.map_set,h]
 refine List.ext_getElem (by simp) fun j h1 h2=>?_
 rw [List.getElem_set]
 split
 · next e=>subst e;simp
 · rfl
theorem move_last {d:Dk} {m:Dm} (hok:DkOkS d) (hl:m.gone=true→hasB (afterD d.names d.moves) m.name=true):∀ i (h:i < (d.moves++[m]).length),(d.moves++[m])[i].gone=true→hasB (afterD d.names ((d.moves++[m]).take i)) (d.moves++[m])[i].name=true:=by
 intro i h hg
 by_cases hi:i < d.moves.length
 · rw [List.getElem_append_left hi] at hg ⊢
   rw [List.take_append_of_le_length (Nat.le_of_lt hi)]
   exact hok.move i hi hg
 · have e:i=d.moves.length:=by simp at h;omega
   subst e
   simp only [List.getElem_concat_length] at hg ⊢
   rw [List.take_left']
   · exact hl hg
   · rfl
theorem doD_ok {d:Dk} {k:Int} {x y:ByteArray} (hok:DkOkS d) (h0:(doD d k x y).2=0):DkOkS (doD d k x y).1:=by
 obtain ⟨hnd,heq,-⟩:=dk_nodup hok
 have l1:=hok.l1;have l2:=hok.l2;have l3:=hok.l3
 have hf:∀ f,f∈d.files→nameOkB f.name=true∧f.data.size≤20000∧0≤f.kept∧f.kept≤f.data.size:=fun f hf=>by
  obtain ⟨i,hi,rfl⟩:=List.getElem_of_mem hf
  have:=hok.file i hi (by rw [hok.len];exact hi)
  exact ⟨this.name,this.data,this.kept⟩
 have hset:∀ (i:Nat) (hi:i < d.files.length) (f:Df),f.name=d.files[i].name→f.data.size≤20000→0≤f.kept→f.kept≤f.data.size→DkOkS ⟨d.files.set i f,d.names,d.moves⟩:=fun i hi f h1 h2 h3 h4 =>
  ok_of (by simpa using l1) l2 l3 (by simp only;rw [set_names hi h1];exact heq) hnd (fun g hg=>by
   rcases List.mem_or_eq_of_mem_set hg with hg | rfl
   · exact hf g hg
   · exact ⟨by rw [h1];exact (hf _ (List.getElem_mem hi)).1,h2,h3,h4⟩) hok.move
 by_cases k1:k=1
 · subst k1
   by_cases ht:nameOkB x=false∨0≤findF d.files x
   · rw [doD_taken hok ht] at h0;cases h0
   by_cases hfu:64≤d.files.length∨128≤d.moves.length
   · rw [doD_full hok ht hfu] at h0;cases h0
   rw [doD_make hok ht hfu]
   have hxn:nameOkB x=true:=by
    cases e:nameOkB x with
    | true=>rfl
    | false=>exact absurd (Or.inl e) ht
   have hxm:x∉madeD d.names d.moves:=fun hm=>by
    rw [← heq] at hm
    obtain ⟨f,hfm,rfl⟩:=List.mem_map.1 hm
    obtain ⟨i,hi,rfl⟩:=List.getElem_of_mem hfm
    exact ht (Or.inr (by rw [(hok.file i hi (by rw [hok.len];exact hi)).find];omega))
   have hmd:madeD d.names (d.moves++[⟨false,x⟩])=madeD d.names d.moves++[x]:=by rw [made_snoc];rfl
   refine ok_of (by simp only [List.length_append,List.length_cons,List.length_nil];omega) l2 (by simp only [List.length_append,List.length_cons,List.length_nil];omega) ?_ ?_ ?_ (move_last hok fun h=>by cases h)
   · simp only;rw [hmd,List.map_append,heq];rfl
   · simp only;rw [hmd]
     exact List.nodup_append.2 ⟨hnd,by simp,fun a ha b hb e=>by subst e;simp at hb;exact hxm (hb ▸ ha)⟩
   · intro f hfm
     rcases List.mem_append.1 hfm with hfm | hfm
     · exact hf f hfm
     · obtain rfl:=List.mem_singleton.1 hfm
       exact ⟨hxn,by simp only;decide,by simp only;omega,by simp only;omega⟩
 by_cases k5:k=5
 · subst k5
   rw [doD_dirs hok]
   have hN:=namesD_ok hok
   have han:=after_nodup hnd d.moves.length (Nat.le_refl _)
   rw [List.take_length,← hN] at han
   have hle:(namesD d).length≤d.files.length:=by
    have:=len_sub (namesD d) (madeD d.names d.moves) han.1 han.2
    rw [hok.len] at this
    exact this
   have hnm:∀ z,z∈namesD d→(fileD d z).name=z∧fileD d z∈d.files:=fun z hz=>by
    obtain ⟨i,hi,-,h1,h2⟩:=names_file hz
    rw [fileD_at hi h2]
    exact ⟨h1,List.getElem_mem hi⟩
   have hmn:madeD (namesD d) []=namesD d:=by unfold madeD;simp
   refine ok_of (by simp only [keepD,List.length_map];omega) (by simp only [keepD];omega) (by simp [keepD]) ?_ ?_ ?_ (fun i h=>by simp [keepD] at h)
   · simp only [keepD]
     rw [hmn,List.map_map]
     exact (List.map_congr_left fun z hz=>(hnm z hz).1).trans (List.map_id' _)
   · simp only [keepD];rw [hmn];exact han.1
   · intro f hfm
     obtain ⟨z,hz,rfl⟩:=List.mem_map.1 hfm
     exact hf _ (hnm z hz).2
 by_cases hk:2≤k∧k≤4
 case neg=>rw [doD_kind hok (by omega)] at h0;cases h0
 by_cases hin:x∈namesD d
 case neg=>rw [doD_nofile hok hk hin] at h0;cases h0
 obtain ⟨i,hi,-,hxi,hfi⟩:=names_file hin
 have hfd:=fileD_at hi hfi
 have hfo:=hf _ (List.getElem_mem hi)
 by_cases k2:k=2
 · subst k2
   by_cases hz:20000 - ((fileD d x).data.size:Int) < (y.size:Int)
   · rw [doD_addfull hok hin hz] at h0;cases h0
   rw [doD_add hok hin hz,putD_at hfi,hfd]
   rw [hfd] at hz
   exact hset i hi _ rfl (by simp only [ByteArray.size_append];omega) hfo.2.2.1 (by simp only [ByteArray.size_append];omega)
 by_cases k3:k=3
 · subst k3
   rw [doD_sync hok hin,putD_at hfi,hfd]
   exact hset i hi _ rfl hfo.2.1 (by simp only;omega) (by simp only;omega)
 obtain rfl:k=4:=by omega
 by_cases hfu:128≤d.moves.length
 · rw [doD_gonefull hok hin hfu] at h0;cases h0
 rw [doD_gone hok hin hfu]
 have hmd:madeD d.names (d.moves++[⟨true,x⟩])=madeD d.names d.moves:=by rw [made_snoc];rfl
 refine ok_of l1 l2 (by simp only [List.length_append,List.length_cons,List.length_nil];omega) (by simp only;rw [hmd];exact heq) (by simp only;rw [hmd];exact hnd) hf (move_last hok fun _=>hasB_iff.2 (by rw [← namesD_ok hok];exact hin))
theorem doD_same {d:Dk} {k:Int} {x y:ByteArray} (hok:DkOkS d) (h:(doD d k x y).2≠0):(doD d k x y).1=d:=by
 unfold doD at h ⊢
 repeat' split <;> first | rfl | (exfalso;exact absurd hok (by assumption)) | skip
 all_goals simp_all
structure Wr where
 (k:Int) (x y:ByteArray)
instance:Inhabited Wr:=⟨⟨0,ByteArray.empty,ByteArray.empty⟩⟩
def Wr.cs (w:Wr):List Value:=[.int .i64 w.k,.string w.x,.string w.y]
def Wr.okM (w:Wr):Prop:=w.x.size≤9223372036854775807∧w.y.size≤9223372036854775807
def WsAt (P:Nat→Prop) (w:World) (v:Value) (ws:List Wr):Prop:=FlatAt P w v 3 (ws.map Wr.cs)∧∀ x,x∈ws→x.okM
theorem WsAt.carry {P Q:Nat→Prop} {w w':World} {v:Value} {ws:List Wr} (h:WsAt P w v ws) (hP:∀ b,P b→w'.heap[b]? = w.heap[b]?) (hQ:∀ b,P b→Q b):WsAt Q w' v ws:=⟨h.1.carry hP hQ,h.2⟩
theorem WsAt.open {P:Nat→Prop} {w:World} {v:Value} {ws:List Wr} (h:WsAt P w v ws):∃ a cap,v=.slice a ws.length cap∧ws.length≤9223372036854775807 ∧
 ∀ i,(hi:i < ws.length)→∃ b o,a=some ⟨b,o,none⟩∧P b∧C3.at w b (o+i * 3) ⟨.int .i64 ws[i].k,.string ws[i].x,.string ws[i].y⟩∧ws[i].okM:=by
 obtain ⟨⟨a,cap,h1,h2,h3⟩,hok⟩:=h
 rw [List.length_map] at h1 h2
 refine ⟨a,cap,h1,h2,fun i hi=>?_⟩
 obtain ⟨b,o,e,hb,hc⟩:=h3 i (by rw [List.length_map];exact hi)
 have c0:=hc 0 (by omega);have c1:=hc 1 (by omega);have c2:=hc 2 (by omega)
 simp only [List.getElem_map,Wr.cs,Nat.add_zero,List.getD_cons_zero,List.getD_cons_succ] at c0 c1 c2
 exact ⟨b,o,e,hb,⟨c0,c1,c2⟩,hok _ (List.getElem_mem hi)⟩
end Go.Proofs.Yteikmbkljkkjiaa
