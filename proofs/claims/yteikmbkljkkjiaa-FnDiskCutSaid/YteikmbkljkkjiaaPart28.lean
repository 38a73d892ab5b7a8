/- A part. -/
import Derived.Test.YteikmbkljkkjiaaPart27
set_option maxRecDepth 100000
set_option maxHeartbeats 6400000
namespace Go.Proofs.Yteikmbkljkkjiaa
open Go Go.RowKit Go.WideMaps Go.Maps
def OwnEnd (w w':World) (e:Ending) (d:Dk):Prop :=
 ∃ (c:C3) (F0 F1 F2:List Nat),e=.returned (.agg #[c.c0,c.c1,c.c2])∧DkOwn w' d c F0 F1 F2∧(F0++F1++F2).Nodup∧(∀ b,b∈F0++F1++F2→w.heap.size≤b∧b < w'.heap.size)∧Below w.heap.size w w'
theorem but_grown {L:Nat} {w W W':World} {row:Option Nat} (h:But L w W) (hg:W.grownBy W' row) (hr:∀ g,row=some g→w.heap.size≤g):But L w W' :=
 ⟨hg.os.trans h.os,hg.tape.trans h.tape,hg.output.trans h.output,Nat.le_trans h.size hg.size,fun i hi hne=>(hg.block i (Nat.lt_of_lt_of_le hi h.size) (fun e=>by have:=hr i e.symm;omega)).trans (h.block i hi hne)⟩
theorem CtSt.end {base L:Nat} {W:World} {vf vn:Value} {fs:List Df} {ns:List ByteArray} (h:CtSt base L W vf vn fs ns) (hf:∀ f,f∈fs→f.okM) (hn:∀ x,x∈ns→x.size≤9223372036854775807) :
 ∃ F0 F1,DkOwn W ⟨fs,ns,[]⟩ ⟨vf,vn,.slice none 0 0⟩ F0 F1 []∧(F0++F1++[]).Nodup∧∀ b,b∈F0++F1++[]→base≤b∧b < W.heap.size:=by
 obtain ⟨F0,h1,h2,h3,h4⟩:=FlatOwn.of_row (rs:=fs.map Df.cs) (n:=3) (by rw [List.length_map];exact h.of) (fun r hr=>by obtain ⟨f,-,rfl⟩:=List.mem_map.1 hr;rfl)
 obtain ⟨F1,g1,g2,g3,g4⟩:=strsOwn_of_row h.on hn
 refine ⟨F0,F1,⟨⟨h1,hf⟩,g1,⟨FlatOwn.nil W 2,fun f hf=>(by cases hf)⟩⟩,?_,fun b hb=>?_⟩
 · rw [List.append_nil]
   exact List.nodup_append.2 ⟨h4,g2,fun a ha b hb e=>by subst e;exact h.ne a (h2 a ha) (g4 a hb)⟩
 · rw [List.append_nil] at hb
   rcases List.mem_append.1 hb with hb | hb
   · exact h3 b hb
   · exact g3 b hb
theorem implDiskCut_any (d:Dk) (m:Int) (zs:List Int) (P:Nat→Prop) (c:C3) (v:Value) (w:World) (hP:∀ b,P b→b < w.heap.size) (hd:DkAt P w d c) (hz:ZsAt P w v zs) :
 Calls Try.prog 16 #[.agg #[c.c0,c.c1,c.c2],.int .i64 m,v] w fun e w'=>OwnEnd w w' e (cutD d m zs):=by
 obtain ⟨c0,c1,c2⟩:=c
 have HD:=xH hd;have HP:=xH hP;have HZ:=xH hz
 have hbx:∀ o o',Below w.heap.size w ((w.alloc o).alloc o'):=fun o o'=>((Below.refl _ _).alloc (Nat.le_refl _) o).alloc (by simp) o'
 have HV:=xH (fun o o'=>viewsOf_any d P ⟨c0,c1,c2⟩ ((w.alloc o).alloc o') (fun b hb=>Nat.lt_of_lt_of_le (hP b hb) (hbx o o').size) (hd.carry (fun b hb=>(hbx o o').block b (hP b hb)) (fun _ h=>h)))
 have HBX:=xH hbx
 have hr2:∀ o,((w.alloc o).alloc (.cells #[.slice none 0 0,.slice none 0 0,.slice none 0 0] 27)).rowIs (w.heap.size+1) 27 3 (row3 (.slice none 0 0) (.slice none 0 0) (.slice none 0 0)):=fun o=>by
  have:=row3_alloc (w.alloc o) (.slice none 0 0) (.slice none 0 0) (.slice none 0 0) 27
  rw [World.size_alloc] at this
  exact this
 have HR2:=xH hr2
 obtain ⟨az,cz,rfl,hzl,-⟩:=hz
 clear hd hP hbx hr2
 go_enter Try.func16,Try.ntmps16
 go_wp2_with fail
 refine (xU HV _ _).mono ?_
 rintro e w1 ⟨r,q0,q1,x2,n2,m2,q3,x4,n4,m4,rfl,hr,hb1,hvw⟩
 have hb01:=(xU HBX _ _).trans (hb1.mono (xU HBX _ _).size)
 have hs1:w.heap.size+2≤w1.heap.size:=by have:=hb1.size;simpa using this
 have hq2:=(xU HR2 _).of_block (hb1.block (w.heap.size+1) (by simp))
 have HB1:=xH hb01;have Q2:=xH hq2
 clear hb1 HV hb01
 cases r with
 | false =>
   have HNO:=xH (show cutD d m zs=⟨[],[],[]⟩ from cutD_no (fun h=>by have:=hr.2 ((dkOk_iff d).1 h);cases this))
   have hq3:=fun o'=>hq2.alloc o'
   have y0:=fun o'=>(hq3 o').cell (i:=0) (by omega);have y1:=fun o'=>(hq3 o').cell (i:=1) (by omega);have y2:=fun o'=>(hq3 o').cell (i:=2) (by omega)
   have z:=fun o'=>(hq3 o').frozen
   simp only [row3] at y0 y1 y2
   clear hr hvw hq2 hq3
   go_wp2_with fail
   try simp only [Exit.inBlock,Exit.then]
   refine bodyPost_ret (v:=.agg #[.slice none 0 0,.slice none 0 0,.slice none 0 0]) (by simp [results,Try.results16,go_sem,y0,y1,y2]) rfl ?_
   rw [xU HNO]
   refine ⟨⟨_,_,_⟩,[],[],[],rfl,DkOwn.none _,by simp,fun b hb=>(by cases hb),?_⟩
   exact ((((xU HB1).alloc (xU HB1).size _).setCell (by simp) _).setCell (by simp) _).setCell (by simp) _
 | true =>
   obtain ⟨T,B,vm,hvw⟩:=hvw rfl
   have hok:=(dkOk_iff d).2 (hr.1 rfl)
   clear hr hq2
   have hval:=hvw.val
   simp only [Value.agg.injEq,Array.mk.injEq,List.cons.injEq,Value.pointer.injEq,and_true] at hval
   obtain ⟨rfl,rfl,hx2,rfl,rfl⟩:=hval
   obtain ⟨hnd,heq,-⟩:=dk_nodup hok
   obtain ⟨hmf,hcl,hcf⟩:=cutN_facts hok m
   have hbv:∀ o o',Below w1.heap.size w1 ((w1.alloc o).alloc o'):=fun o o'=>((Below.refl _ _).alloc (Nat.le_refl _) o).alloc (by simp) o'
   have hnm:∀ (W:World),Below w1.heap.size w1 W→StrsAt (fun b=>b < W.heap.size) W (.slice x2 n2 m2) d.names:=fun W hW=>by
    have:=(xU HD).ns.carry (w':=W) (Q:=fun b=>b < W.heap.size) (fun b hb=>(hW.block b (Nat.lt_of_lt_of_le (xU HP b hb) (xU HB1).size)).trans ((xU HB1).block b (xU HP b hb))) (fun b hb=>Nat.lt_of_lt_of_le (xU HP b hb) (Nat.le_trans (xU HB1).size hW.size))
    rw [← hx2] at this;exact this
   have HTH:=xH (fun o o'=>behind_any d.names d.moves (some ⟨T,0,none⟩) (some ⟨T,0,none⟩) x2 n2 m2 (some ⟨T,0,none⟩) x4 n4 m4 (fun b=>b < ((w1.alloc o).alloc o').heap.size) ((w1.alloc o).alloc o') (fun _ h=>h) (hnm _ (hbv o o')) ((hvw.carry (hbv o o')).fns.carry (fun _ _=>rfl) (fun b hb=>hb.2)) m (by have:=hok.l2;omega) (by have:=hok.l3;omega) (cutN d m) hmf)
   have HBV:=xH hbv;have HOK:=xH hok;have HVW:=xH hvw;have HND:=xH (show (d.files.map Df.name).Nodup by rw [heq];exact hnd);have HCF:=xH hcf
   have HCD:=xH (cutD_ok (m:=m) (zs:=zs) hok)
   clear hvw hnm hbv hnd heq hmf hok hx2 hcf
   go_wp2_with fail
   refine (xU HTH _ _).mono ?_
   rintro e w5 ⟨v5,rfl,hn5⟩
   have hb5:=hn5.below
   have hs5:w1.heap.size+2≤w5.heap.size:=by have:=hb5.size;simpa using this
   have hbw5:Below w1.heap.size w1 w5:=(xU HBV _ _).trans (hb5.mono (xU HBV _ _).size)
   have hrV:=((fiveV_alloc w1 (.pointer (some ⟨T,0,none⟩)) (.pointer (some ⟨T,0,none⟩)) (.slice x2 n2 m2) (.pointer (some ⟨T,0,none⟩)) (.slice x4 n4 m4) 71).alloc (.cells #[.slice none 0 0,.slice none 0 0,.slice none 0 0] 27)).of_block (hb5.block w1.heap.size (by simp;omega))
   have hrL:w5.rowIs (w1.heap.size+1) 27 3 (row3 (.slice none 0 0) (.slice none 0 0) (.slice none 0 0)):=by
    have:=row3_alloc (w1.alloc (.cells #[.pointer (some ⟨T,0,none⟩),.pointer (some ⟨T,0,none⟩),.slice x2 n2 m2,.pointer (some ⟨T,0,none⟩),.slice x4 n4 m4] 71)) (.slice none 0 0) (.slice none 0 0) (.slice none 0 0) 27
    rw [World.size_alloc] at this
    exact this.of_block (hb5.block (w1.heap.size+1) (by simp))
   obtain ⟨a5,cap5,e5,hl5,hc5⟩:=hn5.strs
   have hN5:(cutN d m).length≤1000:=hcl
   subst e5
   have HC5:=xH hc5;have HRV:=xH hrV;have HBW5:=xH hbw5
   have HST:=xH (show CtSt w5.heap.size (w1.heap.size+1) w5 (.slice none 0 0) (.slice none 0 0) [] [] from ⟨by omega,hrL,⟨rfl,Or.inl ⟨rfl,rfl⟩⟩,⟨rfl,Or.inl ⟨rfl,rfl⟩⟩⟩)
   clear hb5 hbw5 hrV hrL hc5 hn5 HTH
   generalize hNN:cutN d m=N at *
   clear hNN
   go_wp2_with fail
   obtain ⟨j0,hj,hy0,hy1,hy2⟩:=infoStrD
   obtain ⟨j3,hj3,hw0,hw1,hw2⟩:=infoFileD
   have HJJ:=xH hj;have HY0:=xH hy0;have HY1:=xH hy1;have HY2:=xH hy2;have HJ3:=xH hj3;have HW0:=xH hw0;have HW1:=xH hw1;have HW2:=xH hw2
   clear hj hy0 hy1 hy2 hj3 hw0 hw1 hw2
   go_loopw [26] (fun i wr=>∃ (k:Nat) (af:Option Addr) (cf:Nat) (an:Option Addr) (cn:Nat),k≤N.length∧i=.int .i64 k∧Hid (CtSt w5.heap.size (w1.heap.size+1) wr (.slice af k cf) (.slice an k cn) ((N.take k).map (cutX d zs)) (N.take k))∧Hid (But (w1.heap.size+1) w5 wr)) (fun i _=>N.length - (intOf i).toNat)
   case atStart=>exact ⟨0,none,0,none,0,Nat.zero_le _,rfl,xU HST,But.refl _ _⟩
   case round =>
    clear HST
    obtain ⟨k,af,cf,an,cn,hk,rfl,HS,HX⟩:=hrel
    have hws:=HX.out.size
    have hbw:Below w1.heap.size w1 wr:=⟨HX.out.os.trans (xU HBW5).os,HX.out.tape.trans (xU HBW5).tape,HX.out.output.trans (xU HBW5).output,by omega,fun b hb=>(HX.out.at (by omega) (by omega)).trans ((xU HBW5).block b hb)⟩
    have HBW:=xH ((xU HB1).trans (hbw.mono (xU HB1).size))
    have hrL:=HS.out.row
    obtain ⟨l0,l1,l2⟩:=cs3 hrL (by omega)
    simp only [row3] at l0 l1 l2
    by_cases hlt:k < N.length
    rotate_left
    · obtain rfl:k=N.length:=by omega
      have hq2:=(xU Q2).of_block (hbw.block (w.heap.size+1) (by omega))
      obtain ⟨y0,y1,y2⟩:=cs3 hq2 (by omega)
      have z:=hq2.frozen
      simp only [row3] at y0 y1 y2
      have hst:=HS.out
      rw [List.take_of_length_le (Nat.le_refl _)] at hst
      have HST:=xH hst
      clear hst hq2 hbw hrL
      go_wp2_with fail
      try simp only [Exit.inBlock,Exit.then]
      refine bodyPost_ret (v:=.agg #[.slice af N.length cf,.slice an N.length cn,.slice none 0 0]) (by simp [results,Try.results16,go_sem,y0,y1,y2]) rfl ?_
      rw [xU HCD]
      have hfo:∀ x,x∈N→(cutX d zs x).okM∧x.size≤9223372036854775807:=fun x hx=>by
       obtain ⟨i,hi,he,hf⟩:=xU HCF x hx
       have h1:=(xU HD).fs.2 d.files[i] (List.getElem_mem hi)
       have h2:=((xU HOK).file i hi (by rw [(xU HOK).len];exact hi)).data
       have h3:=cutB_size d.files[i] (zs.getD (findF d.files x).toNat 0) h2
       refine ⟨?_,by rw [← he];exact h1.1⟩
       unfold cutX cutF
       rw [fileD_at hi hf]
       exact ⟨h1.1,by simp only;omega,⟨by simp only;omega,by simp only;omega⟩⟩
      have hst9:CtSt w5.heap.size (w1.heap.size+1) (((wr.setCell ⟨w.heap.size+1,0,none⟩ (.slice af N.length cf)).setCell ⟨w.heap.size+1,1,none⟩ (.slice an N.length cn)).setCell ⟨w.heap.size+1,2,none⟩ (.slice none 0 0)) (.slice af N.length cf) (.slice an N.length cn) (N.map (cutX d zs)) N:=by
       have h:=xU HST
       exact ⟨h.lt,((h.row.setOther (by simp;omega) _).setOther (by simp;omega) _).setOther (by simp;omega) _,ownsRow_setCell_below (ownsRow_setCell_below (ownsRow_setCell_below h.of (by simp;omega) _) (by simp;omega) _) (by simp;omega) _,ownsRow_setCell_below (ownsRow_setCell_below (ownsRow_setCell_below h.on (by simp;omega) _) (by simp;omega) _) (by simp;omega) _⟩
      obtain ⟨F0,F1,ho,hndF,hF⟩:=hst9.end (fun f hf=>by obtain ⟨x,hx,rfl⟩:=List.mem_map.1 hf;exact (hfo x hx).1) (fun x hx=>(hfo x hx).2)
      exact ⟨⟨_,_,_⟩,F0,F1,[],rfl,ho,hndF,fun b hb=>⟨by have:=(hF b hb).1;omega,(hF b hb).2⟩,(((xU HBW).setCell (by simp) _).setCell (by simp) _).setCell (by simp) _⟩
    · obtain ⟨i,hi,he,hf⟩:=xU HCF N[k] (List.getElem_mem hlt)
      obtain ⟨b5,o5,rfl,hpb5,hc5,hsx⟩:=xU HC5 k hlt
      have hb5L:b5≠w1.heap.size+1:=by have:=hpb5.1;simp at this;omega
      have e5:wr.cell? ⟨b5,o5+k,none⟩=some (.string N[k]):=by rw [World.cell?_of_block (w:=w5) (HX.out.at hpb5.2 hb5L)];exact hc5
      have hvw:=(xU HVW).carry hbw
      have hrV:=(xU HRV).of_block (HX.out.at (by omega) (by omega))
      obtain ⟨r0,r1,r2,r3,r4⟩:=cs5 hrV (by omega)
      have t1:=hvw.row.cell (i:=1) (by omega)
      simp only [fiveV] at r0 r1 r2 r3 r4
      simp only [rowO] at t1
      have hkey:keyOf Try.prog 9 (.string N[k])=some (nkey N[k]):=keyOf_string_mk Try.underlying9 (by unfold maxLen;omega)
      have hat:=at_nmap (d.files.map Df.name) (xU HND) i (by rw [List.length_map];exact hi) (d.files.map Df.name).length (Nat.le_refl _) (by rw [List.length_map];exact hi)
      rw [List.getElem_map,he] at hat
      have hlk:(Instr.lookup 82 (.map (some B)) (.string N[k]) false).run Try.prog wr=.ok (.int .i64 i) wr:=by
       obtain ⟨cc,hr,hcc,-⟩:=World.ownsMap.lookup_int hvw.map keyLaw Try.underlying82 Try.underlying3 (zeroInt _) hkey
       rw [hat] at hcc
       have:cc=(i:Int):=by simpa using hcc.symm
       rw [this] at hr;exact hr
      have hfil:=(xU HOK).file i hi (by rw [(xU HOK).len];exact hi)
      obtain ⟨a0,p0,g0,hl0,-⟩:=(xU HD).fs.open
      simp only at g0
      have hfsW:∀ (W:World),Below wr.heap.size wr W→FsAt (fun b=>b < w.heap.size) W (.slice a0 d.files.length p0) d.files:=fun W hW=>by
       have:=(xU HD).fs.carry (w':=W) (Q:=fun b=>b < w.heap.size) (fun b hb=>(hW.block b (by have:=xU HP b hb;have:=(xU HBW).size;omega)).trans ((xU HBW).block b (xU HP b hb))) (fun b hb=>xU HP b hb)
       simp only at this
       rw [g0] at this;exact this
      have hrowW:∀ (W:World),Below wr.heap.size wr W→W.rowIs T 84 2 (rowO (.slice a0 d.files.length p0) (.map (some B))):=fun W hW=>by
       have h:=(hvw.carry hW).row
       simp only at h
       rw [g0] at h;exact h
      have hPW:∀ (W:World),Below wr.heap.size wr W→∀ b,b < w.heap.size→b < W.heap.size:=fun W hW b hb=>by have:=hW.size;have:=(xU HBW).size;omega
      have HSU:=xH (fun (W:World) (hW:Below wr.heap.size wr W)=>sureData_any d.files a0 d.files.length p0 T B x2 n2 m2 (fun b=>b < w.heap.size) W (hPW W hW) (hfsW W hW) (hrowW W hW) i hi hfil.kept)
      have HOP:=xH (fun (W:World) (hW:Below wr.heap.size wr W) (n:Int)=>openData_any d.files a0 d.files.length p0 T B x4 n4 m4 (fun b=>b < w.heap.size) W (hPW W hW) (hfsW W hW) (hrowW W hW) i hi hfil.kept hfil.data n)
      have HNU:=xH (fun (W:World) (hW:Below wr.heap.size wr W)=>numberAt_any zs (.slice az zs.length cz) i W (P:=fun b=>b < w.heap.size) ((xU HZ).carry (fun b hb=>(hW.block b (by have:=xU HP b hb;have:=(xU HBW).size;omega)).trans ((xU HBW).block b (xU HP b hb))) (fun b hb=>xU HP b hb)))
      have hx8:N[k].size≤8:=by
       refine Classical.byContradiction fun hno=>?_
       have hn:=hfil.name
       rw [he,nameOk_len (Or.inr (by omega))] at hn
       cases hn
      have hcs:=cutB_size d.files[i] (zs.getD i 0) hfil.data
      have HCB:=xH (fun (W:World)=>strClone_any (cutB d.files[i] (zs.getD i 0)) W (by omega))
      have HCX:=xH (fun (W:World)=>strClone_any N[k] W (by omega))
      have HTS:=xH (List.take_succ_eq_append_getElem hlt)
      have HCC:=xH (show cutX d zs N[k]=⟨N[k],cutB d.files[i] (zs.getD i 0),(cutB d.files[i] (zs.getD i 0)).size⟩ by unfold cutX cutF;rw [fileD_at hi hf,hf];simp [he])
      have htk:(N.take k).length=k:=by rw [List.length_take];omega
      have HTK:=xH htk
      have HLO:=xH hrV;have HRL:=xH hrL
      have HE5:=xH e5
      clear e5 hc5 hvw hrV hrL hbw hkey hat hfsW hrowW hPW hfil hf he hpb5 htk hsx g0
      have e5:=xU HE5
      clear HE5
      generalize N[k]=x at *
      have hcb:cutB d.files[i] (zs.getD i 0)=d.files[i].data.extract 0 d.files[i].kept.toNat++(d.files[i].data.extract d.files[i].kept.toNat d.files[i].data.size).extract 0 (moreN d.files[i] (zs.getD i 0)):=rfl
      rw [hcb] at HCB HCC hcs
      rw [ByteArray.size_append] at hcs
      have HOP2:=xH (fun (W:World) (hW:Below wr.heap.size wr W)=>xU HOP W hW (zs.getD i 0))
      clear HOP
      generalize (d.files[i].data.extract d.files[i].kept.toNat d.files[i].data.size).extract 0 (moreN d.files[i] (zs.getD i 0))=s2 at *
      generalize d.files[i].data.extract 0 d.files[i].kept.toNat=s1 at *
      generalize zs.getD i 0=zi at *
      clear hcb
      go_upto_region 9 with fail
      go_cut [13,26] from 26 to 68 (fun s i' wx=>s=.string (s1++s2)∧i'=.int .i64 (k:Int)∧Hid (Below wr.heap.size wr wx))
      case first =>
       go_region_with (first
        | (go_at_call 44
           refine (xU HSU _ (by first | exact Below.refl _ _ | exact (Below.refl _ _).drew)).mono ?_
           rintro e wA ⟨rfl,hbA⟩
           have hbA':Below wr.heap.size wr wA:=(Below.refl _ wr).drew.trans hbA
           have hrA:=(xU HLO).of_block (hbA'.block w1.heap.size (xU HLO).lt)
           have A3:=hrA.cell (i:=3) (by omega)
           have A4:=hrA.cell (i:=4) (by omega)
           simp only [fiveV] at A3 A4
           have HBA:=xH hbA'
           clear hbA hbA' hrA)
        | (go_at_call 46
           refine (xU HNU _ (xU HBA)).mono ?_
           rintro e wB ⟨rfl,rfl⟩)
        | (go_at_call 45
           refine (xU HOP2 _ (xU HBA)).mono ?_
           rintro e wC ⟨rfl,hbC⟩
           have HBC:=xH ((xU HBA).trans (hbC.mono (xU HBA).size))
           clear hbC)
        | (go_at_call 40
           refine (xU HCB _).mono ?_
           rintro e wD ⟨rfl,hbD⟩
           have HBD:=xH ((xU HBC).trans (hbD.mono (xU HBC).size))
           clear hbD))
       all_goals
        go_wp2_with fail
        go_meet
        case rel=>exact ⟨rfl,rfl,xU HBD⟩
      case rest =>
       obtain ⟨rfl,rfl,HBc⟩:=hcut
       have hs0z:(s1++s2).size≤40000:=by rw [ByteArray.size_append];omega
       clear hcs HSU HOP2 HCB HNU
       generalize s1++s2=s0 at *
       have hsc:=HS.out.keep HBc.out
       have hxc:But (w1.heap.size+1) w5 wc:=HX.out.trans (But.of_below HBc.out)
       have hcall:∀ (W:World) (an':Option Addr) (kn' cn':Nat) (af':Option Addr) (kf' cf':Nat) (fs':List Df) (ns':List ByteArray),CtSt w5.heap.size (w1.heap.size+1) W (.slice af' kf' cf') (.slice an' kn' cn') fs' ns'→But (w1.heap.size+1) w5 W→Calls Try.prog 40 #[.string x] W.drew fun e w7=>e=.returned (.string x)∧Hid (CtSt w5.heap.size (w1.heap.size+1) w7 (.slice af' kf' cf') (.slice an' kn' cn') fs' ns')∧Hid (But (w1.heap.size+1) w5 w7)∧w5.heap.size≤w7.heap.size∧(w7.cell? ⟨w1.heap.size+1,1,none⟩=some (.slice an' kn' cn')∧∀ ob,(w7.alloc ob).cell? ⟨w1.heap.size+1,1,none⟩=some (.slice an' kn' cn'))∧(w7.cell? ⟨w1.heap.size+1,0,none⟩=some (.slice af' kf' cf')∧∀ ob,(w7.alloc ob).cell? ⟨w1.heap.size+1,0,none⟩=some (.slice af' kf' cf')):=fun W an' kn' cn' af' kf' cf' fs' ns' h hx=>by
        refine (xU HCX W.drew).mono ?_
        rintro e w7 ⟨rfl,hb7⟩
        have hb7':Below W.heap.size W w7:=(Below.refl _ W).drew.trans hb7
        have h7:=h.keep hb7'
        have r0':=h7.row.cell (i:=0) (by omega);have r1':=h7.row.cell (i:=1) (by omega)
        simp only [row3] at r0' r1'
        exact ⟨rfl,h7,hx.trans (But.of_below hb7'),Nat.le_trans hx.size hb7'.size,⟨r1',fun ob=>by rw [World.cell?_of_block (w:=w7) (Below.heap_alloc _ _ _ h7.row.lt)];exact r1'⟩,⟨r0',fun ob=>by rw [World.cell?_of_block (w:=w7) (Below.heap_alloc _ _ _ h7.row.lt)];exact r0'⟩⟩
       have HCA:=xH hcall
       have HC1:=xH (hcall wc an k cn af k cf _ _ hsc hxc)
       have m1:=hsc.row.cell (i:=1) (by omega)
       simp only [row3] at m1
       clear hcall hsc hxc l0 l1 l2 r0 r1 r2 r3 r4 t1 hlk e5
       go_upto_region 10 with fail
       go_cut [26] from 26 to 68 (fun i' wx=>i'=.int .i64 (k:Int)∧∃ an2 cn2,Hid (CtSt w5.heap.size (w1.heap.size+1) wx (.slice af k cf) (.slice an2 (k+1) cn2) ((N.take k).map (cutX d zs)) (N.take k++[x]))∧Hid (But (w1.heap.size+1) w5 wx))
       case first =>
        go_region_law (first
         | ((refine step_append_lies _ (by rfl) _ _ _ (by rfl) w5.heap.size 9 j0 (.string ByteArray.empty) 1 16 Try.underlying24 (xU HJJ) (xU HY0) (xU HY1) (xU HY2) rfl (by decide) (.slice an k cn) k ((N.take k).map Value.string) (by rfl) (by have:=HS7.out.on;rw [xU HTK] at this;exact this.alloc _) ⟨w7.heap.size,0,none⟩ 1 1 [.string x] (by rfl) (by rfl) (cell_one w7 _ _) (fun u hu=>by simp at hu;subst hu;rfl) (by decide) (by unfold maxLen;omega) (by omega) (by simp;omega) (w7.heap.size+1) (by simp) ?_;intro g2 cap2 w8 hown8 hgrow8 hat8 hlt8;have hr8:=HS7.out.row.of_block ((hgrow8.block (w1.heap.size+1) (by simp;omega) (fun e=>by have:=(HS7.out.on.lt (w1.heap.size+1) e.symm).1;omega)).trans (Below.heap_alloc w7 _ _ HS7.out.row.lt));have u1:=hr8.cell (i:=1) (by omega);have uz1:=hr8.frozen 1;simp only [row3] at u1))
         | (rw [if_pos (by first | rfl | simp [Region.wanted])];go_simp;refine (xU HC1).mono ?_;rintro e w7 ⟨rfl,HS7,HX7,hs7,⟨n1,n1a⟩,-⟩))
        all_goals
         have hadd:=(HS7.out.keep ((Below.refl _ _).alloc (Nat.le_refl _) (.cells #[.string x] 9))).addN x (by rw [xU HTK];exact hown8) hgrow8
         have hxx:=(but_grown (HX7.out.trans (But.alloc _ _ (.cells #[.string x] 9))) hgrow8 (fun g e=>(HS7.out.on.lt g e).1)).trans (But.set (B:=w1.heap.size+1) w8 1 (.slice (some ⟨g2,0,none⟩) (k+1) cap2))
         have HAD:=xH hadd;have HXX:=xH hxx
         clear hadd hxx hown8 hgrow8 hat8 hlt8 hr8 u1 uz1 HS7 HX7 n1 n1a
         go_wp2_with fail
         go_meet
         case rel=>exact ⟨rfl,some ⟨g2,0,none⟩,cap2,xU HAD,xU HXX⟩
       case rest =>
        obtain ⟨rfl,an2,cn2,HS2,HX2⟩:=hcut
        have HC2:=xH (xU HCA wc an2 (k+1) cn2 af k cf _ _ HS2.out HX2.out)
        have m0:=HS2.out.row.cell (i:=0) (by omega)
        simp only [row3] at m0
        clear m1
        have hms:((N.take k).map (cutX d zs)).length=k:=by rw [List.length_map];exact xU HTK
        have HMS:=xH hms
        clear hms
        go_wp2_with fail
        go_region_law (first
         | ((refine step_append_lies _ (by rfl) _ _ _ (by rfl) w5.heap.size 44 j3 (.agg #[.string ByteArray.empty,.string ByteArray.empty,.int .i64 0]) 3 40 Try.underlying23 (xU HJ3) (xU HW0) (xU HW1) (xU HW2) rfl (by decide) (.slice af k cf) k (((N.take k).map (cutX d zs)).map Df.cs).flatten (by rfl) (by have:=HS7.out.of;rw [xU HMS] at this;exact this.alloc _) ⟨w7.heap.size,0,none⟩ 1 1 [.string x,.string s0,.int .i64 (s0.size:Int)] (by first | rfl | simp) (by rfl) (cell_3 w7 _ _ _ _) (fun u hu=>by simp at hu;rcases hu with rfl | rfl | rfl <;> rfl) (by decide) (by unfold maxLen;omega) (by omega) (by simp;omega) (w7.heap.size+1) (by simp) ?_;intro g2 cap2 w8 hown8 hgrow8 hat8 hlt8;have hr8:=HS7.out.row.of_block ((hgrow8.block (w1.heap.size+1) (by simp;omega) (fun e=>by have:=(HS7.out.of.lt (w1.heap.size+1) e.symm).1;omega)).trans (Below.heap_alloc w7 _ _ HS7.out.row.lt));have u1:=hr8.cell (i:=0) (by omega);have uz1:=hr8.frozen 0;simp only [row3] at u1))
         | (rw [if_pos (by first | rfl | simp [Region.wanted])];go_simp;refine (xU HC2).mono ?_;rintro e w7 ⟨rfl,HS7,HX7,hs7,-,⟨n1,n1a⟩⟩))
        all_goals
         have hadd:=(HS7.out.keep ((Below.refl _ _).alloc (Nat.le_refl _) (.cells #[.string x,.string s0,.int .i64 (s0.size:Int)] 44))).addF ⟨x,s0,s0.size⟩ (by rw [xU HMS];exact hown8) hgrow8
         have hxx:=(but_grown (HX7.out.trans (But.alloc _ _ (.cells #[.string x,.string s0,.int .i64 (s0.size:Int)] 44))) hgrow8 (fun g e=>(HS7.out.of.lt g e).1)).trans (But.set (B:=w1.heap.size+1) w8 0 (.slice (some ⟨g2,0,none⟩) (k+1) cap2))
         rw [← xU HCC] at hadd
         have hadd2:CtSt w5.heap.size (w1.heap.size+1) (w8.setCell ⟨w1.heap.size+1,0,none⟩ (.slice (some ⟨g2,0,none⟩) (k+1) cap2)) (.slice (some ⟨g2,0,none⟩) (k+1) cap2) (.slice an2 (k+1) cn2) ((N.take (k+1)).map (cutX d zs)) (N.take (k+1)):=by
          rw [xU HTS,List.map_append];exact hadd
         have HAD:=xH hadd2;have HXX:=xH hxx
         clear hadd hadd2 hxx hown8 hgrow8 hat8 hlt8 hr8 u1 uz1 HS7 HX7 n1 n1a
         go_wp2_with fail
         go_roundw
         case rel=>exact ⟨k+1,some ⟨g2,0,none⟩,cap2,an2,cn2,by omega,by go_num,xU HAD,xU HXX⟩
         case measure=>simp [intOf];omega
end Go.Proofs.Yteikmbkljkkjiaa

namespace Go.Proofs.Yteikmbkljkkjiaa
open Go Go.RowKit
end Go.Proofs.Yteikmbkljkkjiaa

namespace Go.Proofs.Yteikmbkljkkjiaa
open Go Go.RowKit Go.WideMaps Go.Maps
end Go.Proofs.Yteikmbkljkkjiaa

namespace Go.Proofs.Yteikmbkljkkjiaa
open Go Go.RowKit
structure DB (W:World) (B:Nat) (d:Dk) (c:C3):Prop where
 row:W.rowIs B 27 3 (row3 c.c0 c.c1 c.c2)
 dk:DkAt (fun g=>g < W.heap.size) W d c
theorem DB.on {W W':World} {B:Nat} {d:Dk} {c:C3} (h:DB W B d c) (hb:Below W.heap.size W W'):DB W' B d c :=
 ⟨h.row.of_block (hb.block _ h.row.lt),h.dk.carry (fun g hg=>hb.block g hg) (fun _ hg=>Nat.lt_of_lt_of_le hg hb.size)⟩
theorem DB.lay {W:World} {d:Dk} {c:C3} (h:DkAt (fun g=>g < W.heap.size) W d c):DB (W.alloc (.cells #[c.c0,c.c1,c.c2] 27)) W.heap.size d c :=
 ⟨row3_alloc W _ _ _ _,h.carry (fun g hg=>Below.heap_alloc _ _ _ hg) (fun _ hg=>by rw [World.size_alloc];omega)⟩
theorem own_dk8 {w w':World} {d:Dk} {c:C3} {F0 F1 F2:List Nat} (h:DkOwn w' d c F0 F1 F2) (hF:∀ b,b∈F0++F1++F2→w.heap.size≤b∧b < w'.heap.size):DkAt (fun g=>g < w'.heap.size) w' d c:=h.at.carry (fun _ _=>rfl) (fun b hb=>(hF b hb).2)
end Go.Proofs.Yteikmbkljkkjiaa

namespace Go.Proofs.Yteikmbkljkkjiaa
open Go Go.RowKit
noncomputable def dc12Ops:Array Oper:=fops Try.f4 12
theorem dc12_neat:Region.noSelect dc12Ops=true∧neat dc12Ops=true:=⟨by kernel_rfl,by kernel_rfl⟩
theorem dc12 (B BX:Nat) (m:Int) (zv x4:Value) (c:C3) (D:Dk) (W0:World) {l:List Value} (Q:Exit→Act→World→Prop) (hQ:∀ c a d v w,Q (.panic c) (Act.put a d v) w→Q (.panic c) a w) (hX:W0.drew.rowIs BX 27 3 (row3 c.c0 c.c1 c.c2)) (HOK:∀ W,Below W0.drew.heap.size W0.drew W→Calls Try.prog 13 #[.agg #[c.c0,c.c1,c.c2]] W fun e w'=>e=.returned (.bool true)∧Below W.heap.size W w') (HCT:∀ W,Below W0.drew.heap.size W0.drew W→Calls Try.prog 16 #[.agg #[c.c0,c.c1,c.c2],.int .i64 m,zv] W fun e w'=>∃ c':C3,e=.returned (.agg #[c'.c0,c'.c1,c'.c2])∧DkAt (fun g=>g < w'.heap.size) w' D c'∧Below W.heap.size W w') (HSM:∀ W (c':C3),Below W0.drew.heap.size W0.drew W→DkAt (fun g=>g < W.heap.size) W D c'→Calls Try.prog 11 #[.agg #[c'.c0,c'.c1,c'.c2],.agg #[c.c0,c.c1,c.c2]] W fun e w'=>e=.returned (.bool true)∧Below W.heap.size W w')
 (hl:lookL [(4,x4),(5,.pointer (some ⟨B,0,none⟩)),(10,.pointer (some ⟨BX,0,none⟩)),(12,.int .i64 m),(13,zv)] l=(142,([(4,x4),(5,.pointer (some ⟨B,0,none⟩)),(10,.pointer (some ⟨BX,0,none⟩)),(12,.int .i64 m),(13,zv)]:List (Nat × Value)).map (·.2)))
 (hend:∀ (u:Nat→Value) (W:World),Below W0.drew.heap.size W0.drew W→Q .normal ⟨(frL u 142 [(4,x4),(5,.pointer (some ⟨B,0,none⟩)),(10,.pointer (some ⟨BX,0,none⟩)),(12,.int .i64 m),(13,zv),(76,.bool false)]).toArray,[]⟩ W):(Code.region 12 dc12Ops true).wp Try.prog Q ⟨l.toArray,[]⟩ W0:=by
 obtain ⟨v0,rfl⟩:=look_fr hl
 have hq:NtQ dc12Ops Q:=⟨dc12_neat,hQ⟩
 refine T_start (S:=fun W=>Below W0.drew.heap.size W0.drew W) (by kernel_rfl) (Below.refl _ _) ?_
 clear hl hQ
 generalize W0.drew=V at hX HOK HCT HSM hend ⊢
 refine T_a hq [0] (fun w h=>.cons (ldDk (hX.of_block (h.block _ hX.lt))) (Lds.nil)) (by kernel_rfl) ?_
 refine T_fr 12 142 [1,2,3,4,5,6,7,8,9,10,11] [(4,x4),(5,.pointer (some ⟨B,0,none⟩)),(10,.pointer (some ⟨BX,0,none⟩)),(12,.int .i64 m),(13,zv),(65,.agg #[c.c0,c.c1,c.c2])] (by kernel_rfl) fun u=>?_
 refine T_one 1 (by kernel_rfl) fun hS=>O_go (HOK V (Below.refl _ _)) (by kernel_rfl) ?_
 rintro e w1 ⟨rfl,hb1⟩
 refine ⟨_,rfl,hb1,?_⟩
 refine T_a hq [2,3,4,5,6,8] (fun w h=>.cons (ldDk (hX.of_block (h.block _ hX.lt))) (.cons (ldDk (hX.of_block (h.block _ hX.lt))) (Lds.nil))) (by kernel_rfl) ?_
 refine T_fr 12 142 [7,9,10,11] [(4,x4),(5,.pointer (some ⟨B,0,none⟩)),(10,.pointer (some ⟨BX,0,none⟩)),(12,.int .i64 m),(13,zv),(65,.agg #[c.c0,c.c1,c.c2]),(66,.bool true),(67,.bool false),(68,.bool false),(69,.agg #[c.c0,c.c1,c.c2]),(70,.int .i64 m),(71,zv),(73,.agg #[c.c0,c.c1,c.c2])] (by kernel_rfl) fun u=>?_
 refine T_one 7 (by kernel_rfl) fun hS=>O_go (HCT w1 hb1) (by kernel_rfl) ?_
 rintro e w2 ⟨c',rfl,hd,hb2⟩
 have hb12:=hb1.trans (hb2.mono hb1.size)
 refine ⟨_,rfl,hb12,?_⟩
 refine T_fr 12 142 [9,10,11] [(4,x4),(5,.pointer (some ⟨B,0,none⟩)),(10,.pointer (some ⟨BX,0,none⟩)),(12,.int .i64 m),(13,zv),(65,.agg #[c.c0,c.c1,c.c2]),(66,.bool true),(67,.bool false),(68,.bool false),(69,.agg #[c.c0,c.c1,c.c2]),(70,.int .i64 m),(71,zv),(72,.agg #[c'.c0,c'.c1,c'.c2]),(73,.agg #[c.c0,c.c1,c.c2])] (by kernel_rfl) fun u=>?_
 refine T_one 9 (by kernel_rfl) fun hS=>O_go (HSM w2 c' hb12 hd) (by kernel_rfl) ?_
 rintro e w3 ⟨rfl,hb3⟩
 refine ⟨_,rfl,hb12.trans (hb3.mono hb12.size),?_⟩
 refine T_z hq [10,11] (by kernel_rfl) ?_
 exact T_end 142 [(4,x4),(5,.pointer (some ⟨B,0,none⟩)),(10,.pointer (some ⟨BX,0,none⟩)),(12,.int .i64 m),(13,zv),(76,.bool false)] (by kernel_rfl) (by kernel_rfl) fun hS u=>hend u _ hS
noncomputable def dc24Ops:Array Oper:=fops Try.f4 24
theorem dc24_neat:Region.noSelect dc24Ops=true∧neat dc24Ops=true:=⟨by kernel_rfl,by kernel_rfl⟩
def kp_dc24 (z:Nat→Value):List (Nat × Value):=[(0,z 0),(1,z 1),(2,z 2),(3,z 3),(4,z 4),(5,z 5),(6,z 6),(7,z 7),(8,z 8),(9,z 9),(10,z 10),(11,z 11),(12,z 12),(13,z 13),(14,z 14),(17,z 17),(19,z 19),(20,z 20),(21,z 21),(22,z 22),(23,z 23),(24,z 24),(25,z 25),(26,z 26),(27,z 27),(28,z 28),(29,z 29),(30,z 30),(31,z 31),(32,z 32),(33,z 33),(34,z 34),(35,z 35),(36,z 36),(37,z 37),(38,z 38),(39,z 39),(40,z 40),(41,z 41),(42,z 42),(43,z 43),(44,z 44),(45,z 45),(46,z 46),(47,z 47),(48,z 48),(49,z 49),(50,z 50),(51,z 51),(52,z 52),(53,z 53),(54,z 54),(55,z 55),(56,z 56),(57,z 57),(58,z 58),(59,z 59),(60,z 60),(61,z 61),(62,z 62),(63,z 63),(64,z 64),(65,z 65),(66,z 66),(67,z 67),(68,z 68),(69,z 69),(70,z 70),(71,z 71),(72,z 72),(73,z 73),(74,z 74),(75,z 75),(76,z 76),(77,z 77),(78,z 78),(79,z 79),(80,z 80),(81,z 81),(82,z 82),(83,z 83),(84,z 84),(85,z 85),(86,z 86),(87,z 87),(88,z 88),(89,z 89),(90,z 90),(91,z 91),(92,z 92),(93,z 93),(94,z 94),(95,z 95),(96,z 96),(97,z 97),(98,z 98),(99,z 99),(100,z 100),(101,z 101),(102,z 102),(103,z 103),(104,z 104),(105,z 105),(140,z 140),(141,z 141)]
theorem dc24z (z:Nat→Value) (LL:(Nat→Value)→List Value) (BF BG:Nat) (fn fd gn gd:ByteArray) (fk gk:Int) (W0:World) {l:List Value} (Q:Exit→Act→World→Prop) (hQ:∀ c a d v w,Q (.panic c) (Act.put a d v) w→Q (.panic c) a w) (hf:W0.drew.rowIs BF 44 3 (row3 (.string fn) (.string fd) (.int .i64 fk))) (hg:W0.drew.rowIs BG 44 3 (row3 (.string gn) (.string gd) (.int .i64 gk))) (h1:(gk:Int)≤(fd.size:Int)) (h2:(fd.size:Int)≤(gd.size:Int)) (h3:gd.extract 0 fd.size=fd) (h4:fk=(fd.size:Int))
 (hl:lookL (kp_dc24 z++[(15,.pointer (some ⟨BF,0,none⟩)),(18,.pointer (some ⟨BG,0,none⟩))]) l=(142,((kp_dc24 z++[(15,.pointer (some ⟨BF,0,none⟩)),(18,.pointer (some ⟨BG,0,none⟩))]):List (Nat × Value)).map (·.2)))
 (hfr:∀ (u:Nat→Value) ,frL u 142 (kp_dc24 z++[(15,.pointer (some ⟨BF,0,none⟩)),(16,.bool true),(18,.pointer (some ⟨BG,0,none⟩))])=LL u )
 (hend:∀ (u:Nat→Value)  (W:World),W=W0.drew→Q .normal ⟨(LL u ).toArray,[]⟩ W):(Code.region 24 dc24Ops true).wp Try.prog Q ⟨l.toArray,[]⟩ W0:=by
 obtain ⟨v0,rfl⟩:=look_fr hl
 have hq:NtQ dc24Ops Q:=⟨dc24_neat,hQ⟩
 refine T_start (S:=fun W=>W.heap[BF]? = W0.drew.heap[BF]? ∧ W.heap[BG]? = W0.drew.heap[BG]?) (by kernel_rfl) ⟨rfl,rfl⟩ ?_
 clear hl hQ
 generalize W0.drew=V at hf hg hend ⊢
 refine T_a hq [0,1,2,3,4] (fun w h=>.cons (ldStr _ _ _ ((hf.of_block h.1).cell (i:=1) (by omega))) (.cons (ldIntR _ _ _ ((hg.of_block h.2).cell (i:=2) (by omega))) (Lds.nil))) (by kernel_rfl) ?_
 refine T_val (i:=5) hq (some 111) (.bool (decide ((gk:Int)≤(fd.size:Int)))) (.bool true) (by rw [decide_eq_true h1]) (by kernel_rfl) (by kernel_rfl) ?_
 refine T_a hq [6,7,8,9,10,11,12] (fun w h=>.cons (ldStr _ _ _ ((hf.of_block h.1).cell (i:=1) (by omega))) (.cons (ldStr _ _ _ ((hg.of_block h.2).cell (i:=1) (by omega))) (Lds.nil))) (by kernel_rfl) ?_
 refine T_val (i:=13) hq (some 119) (.bool (decide ((fd.size:Int)≤(gd.size:Int)))) (.bool true) (by rw [decide_eq_true h2]) (by kernel_rfl) (by kernel_rfl) ?_
 refine T_a hq [14,15,16,17,18,19,20,22,23] (fun w h=>.cons (ldStr _ _ _ ((hg.of_block h.2).cell (i:=1) (by omega))) (.cons (ldStr _ _ _ ((hf.of_block h.1).cell (i:=1) (by omega))) (.cons (ldStr _ _ _ ((hf.of_block h.1).cell (i:=1) (by omega))) (Lds.nil)))) (by kernel_rfl) ?_
 refine T_yld hq 21 (some 127) (.string (gd.extract 0 fd.size)) (by kernel_rfl) (by kernel_rfl) (fun w h=>sliceToRun8 (i:=fd.size) (X:=.tmp 123) (Y:=.tmp 126) (by kernel_rfl) (by kernel_rfl) (by kernel_rfl) Try.underlying9 (by omega) w) ?_
 refine T_yld hq 24 (some 130) (.bool true) (by kernel_rfl) (by kernel_rfl) (fun w h=>eqStrRun (T:=9) (S:=9) (X:=.tmp 127) (Y:=.tmp 129) (p:=gd.extract 0 fd.size) (q:=fd) (b:=true) (by kernel_rfl) (by kernel_rfl) (by kernel_rfl) (by rw [h3];simp) w) ?_
 refine T_a hq [25,26,27,28,29,30,31] (fun w h=>.cons (ldIntR _ _ _ ((hf.of_block h.1).cell (i:=2) (by omega))) (.cons (ldStr _ _ _ ((hf.of_block h.1).cell (i:=1) (by omega))) (Lds.nil))) (by kernel_rfl) ?_
 refine T_val (i:=32) hq (some 138) (.bool ((fk:Int)==(fd.size:Int))) (.bool true) (by rw [h4];simp) (by kernel_rfl) (by kernel_rfl) ?_
 refine T_z hq [33,34] (by kernel_rfl) ?_
 exact T_end 142 (kp_dc24 z++[(15,.pointer (some ⟨BF,0,none⟩)),(16,.bool true),(18,.pointer (some ⟨BG,0,none⟩))]) (by kernel_rfl) (by kernel_rfl) fun hS u=>by rw [hfr];exact hend u V rfl
theorem dc24 (BF BG:Nat) (fn fd gn gd:ByteArray) (fk gk:Int) (W0:World) {l:List Value} (Q:Exit→Act→World→Prop) (hQ:∀ c a d v w,Q (.panic c) (Act.put a d v) w→Q (.panic c) a w) (hf:W0.drew.rowIs BF 44 3 (row3 (.string fn) (.string fd) (.int .i64 fk))) (hg:W0.drew.rowIs BG 44 3 (row3 (.string gn) (.string gd) (.int .i64 gk))) (h1:(gk:Int)≤(fd.size:Int)) (h2:(fd.size:Int)≤(gd.size:Int)) (h3:gd.extract 0 fd.size=fd) (h4:fk=(fd.size:Int))
 (hl:lookL (kp_dc24 (fun i=>l.getD i undef)++[(15,.pointer (some ⟨BF,0,none⟩)),(18,.pointer (some ⟨BG,0,none⟩))]) l=(142,((kp_dc24 (fun i=>l.getD i undef)++[(15,.pointer (some ⟨BF,0,none⟩)),(18,.pointer (some ⟨BG,0,none⟩))]):List (Nat × Value)).map (·.2)))
 (hfr:∀ (u:Nat→Value) ,frL u 142 (kp_dc24 (fun i=>l.getD i undef)++[(15,.pointer (some ⟨BF,0,none⟩)),(16,.bool true),(18,.pointer (some ⟨BG,0,none⟩))])=(l.take 16++(.bool true::((l.drop 17).take 89++(u 106::(u 107::(u 108::(u 109::(u 110::(u 111::(u 112::(u 113::(u 114::(u 115::(u 116::(u 117::(u 118::(u 119::(u 120::(u 121::(u 122::(u 123::(u 124::(u 125::(u 126::(u 127::(u 128::(u 129::(u 130::(u 131::(u 132::(u 133::(u 134::(u 135::(u 136::(u 137::(u 138::(u 139::l.drop 140))))))))))))))))))))))))))))))))))))))
 (hend:∀ (u:Nat→Value)  (W:World),W=W0.drew→Q .normal ⟨((l.take 16++(.bool true::((l.drop 17).take 89++(u 106::(u 107::(u 108::(u 109::(u 110::(u 111::(u 112::(u 113::(u 114::(u 115::(u 116::(u 117::(u 118::(u 119::(u 120::(u 121::(u 122::(u 123::(u 124::(u 125::(u 126::(u 127::(u 128::(u 129::(u 130::(u 131::(u 132::(u 133::(u 134::(u 135::(u 136::(u 137::(u 138::(u 139::l.drop 140)))))))))))))))))))))))))))))))))))))).toArray,[]⟩ W):(Code.region 24 dc24Ops true).wp Try.prog Q ⟨l.toArray,[]⟩ W0 :=
 dc24z (fun i=>l.getD i undef) (fun u =>(l.take 16++(.bool true::((l.drop 17).take 89++(u 106::(u 107::(u 108::(u 109::(u 110::(u 111::(u 112::(u 113::(u 114::(u 115::(u 116::(u 117::(u 118::(u 119::(u 120::(u 121::(u 122::(u 123::(u 124::(u 125::(u 126::(u 127::(u 128::(u 129::(u 130::(u 131::(u 132::(u 133::(u 134::(u 135::(u 136::(u 137::(u 138::(u 139::l.drop 140)))))))))))))))))))))))))))))))))))))) BF BG fn fd gn gd fk gk W0 Q hQ hf hg h1 h2 h3 h4 hl hfr hend
end Go.Proofs.Yteikmbkljkkjiaa

namespace Go.Proofs.Yteikmbkljkkjiaa
open Go Go.RowKit
theorem bytes_below8 {w w':World} {a:Option Addr} {cap:Nat} {l:List UInt8} (hv:BytesAt w (.slice a l.length cap) l) (hb:Below w.heap.size w w'):BytesAt w' (.slice a l.length cap) l:=by
 obtain ⟨a',cap',e,hlen,hc⟩:=hv
 refine ⟨a',cap',e,hlen,fun i hi=>?_⟩
 obtain ⟨g,o',e2,hlt,hcell⟩:=hc i hi
 exact ⟨g,o',e2,Nat.lt_of_lt_of_le hlt hb.size,by rw [World.cell?_of_block (w:=w) (hb.block g hlt)];exact hcell⟩
end Go.Proofs.Yteikmbkljkkjiaa

namespace Go.Proofs.Yteikmbkljkkjiaa
open Go Go.RowKit
structure ZA (w:World) (v:Value) (zs:List Int):Prop where
 mk ::
 z:ZsAt (fun g=>g < w.heap.size) w v zs
theorem ZA.on {w w':World} {v:Value} {zs:List Int} (h:ZA w v zs) (hb:Below w.heap.size w w'):ZA w' v zs:=⟨h.z.carry (fun g hg=>hb.block g hg) (fun _ hg=>Nat.lt_of_lt_of_le hg hb.size)⟩
theorem lawDiskCut_any (w:World) (a a':Option Addr) (cap cap':Nat) (l l':List UInt8) (hv:BytesAt w (.slice a l.length cap) l) (hcap:l.length≤cap) (hlen:l.length≤9223372036854775807) (hv':BytesAt w (.slice a' l'.length cap') l') (hcap':l'.length≤cap') (hlen':l'.length≤9223372036854775807) :
 Calls Try.prog 4 #[.slice a l.length cap,.slice a' l'.length cap'] w fun e w'=>e=.returned (.bool true)∧Below w.heap.size w w':=by
 have HDR:=xH (drawDiskCut_any w a cap l hv hcap)
 have HV:=xH hv'
 clear hv hcap hv'
 go_enter Try.func4,Try.ntmps4
 by_cases hbig:l.length≤1048576
 case neg =>
  go_wp2_with fail
  go_ret
  exact ⟨rfl,Below.refl _ _⟩
 by_cases hbig':l'.length≤1048576
 case neg =>
  go_wp2_with fail
  go_ret
  exact ⟨rfl,Below.refl _ _⟩
 go_wp2_with fail
 refine HDR.out.mono ?_
 rintro e w1 ⟨d,⟨u0,u1,u2⟩,m,zs,zv,rfl,hd,hz,hb⟩
 obtain ⟨a0,r0,g0,-,-⟩:=hd.fs.open
 obtain ⟨a1,r1,g1,-,-⟩:=id hd.ns
 obtain ⟨a2,r2,g2,-,-⟩:=hd.ms.open
 simp only at g0 g1 g2
 subst g0 g1 g2
 have hd':=hd.carry (w':=w1) (Q:=fun g=>g < w1.heap.size) (fun _ _=>rfl) (fun _ hg=>hg.2)
 have hz':=hz.carry (w':=w1) (Q:=fun g=>g < w1.heap.size) (fun _ _=>rfl) (fun _ hg=>hg.2)
 have HB_0:=xH hb
 have HZ_0:=xH (ZA.mk (w:=w1) hz')
 clear HDR hd hb hz hz'
 go_upto_region 4 with fail
 have HX_0:=xH (DB.lay (c:=⟨.slice a0 d.files.length r0,.slice a1 d.names.length r1,.slice a2 d.moves.length r2⟩) hd')
 have HB_1:=xH (HB_0.out.trans (((Below.refl w1.heap.size w1).alloc (Nat.le_refl _) (.cells #[.slice a0 d.files.length r0,.slice a1 d.names.length r1,.slice a2 d.moves.length r2] 27)).mono HB_0.out.size))
 have HZ_2:=xH (HZ_0.out.on ((Below.refl w1.heap.size w1).alloc (Nat.le_refl _) (.cells #[.slice a0 d.files.length r0,.slice a1 d.names.length r1,.slice a2 d.moves.length r2] 27)))
 clear HB_0 HZ_0
 generalize w1.alloc (.cells #[.slice a0 d.files.length r0,.slice a1 d.names.length r1,.slice a2 d.moves.length r2] 27)=W2 at HB_1 HZ_2 HX_0 ⊢
 generalize w1.heap.size=B at HX_0 ⊢
 clear hd'
 have HK:=xH (specDiskCut_any d m zs (fun g=>g < W2.heap.size) ⟨.slice a0 d.files.length r0,.slice a1 d.names.length r1,.slice a2 d.moves.length r2⟩ zv W2 (fun _ h=>h) HX_0.out.dk HZ_2.out.z)
 obtain ⟨l0,l1,l2⟩:=cs3 HX_0.out.row (by omega)
 simp only [row3] at l0 l1 l2
 go_wp2_with fail
 refine HK.out.mono ?_
 rintro e w3 ⟨⟨u0,u1,u2⟩,rfl,hq,hb⟩
 clear HK l0 l1 l2
 obtain ⟨a0q,r0q,g0,-,-⟩:=hq.fs.open
 obtain ⟨a1q,r1q,g1,-,-⟩:=id hq.ns
 obtain ⟨a2q,r2q,g2,-,-⟩:=hq.ms.open
 simp only at g0 g1 g2
 subst g0 g1 g2
 have hq':=hq.carry (w':=w3) (Q:=fun g=>g < w3.heap.size) (fun _ _=>rfl) (fun _ hg=>hg.2)
 have HB_3:=xH (HB_1.out.trans ((hb).mono HB_1.out.size))
 have HZ_4:=xH (HZ_2.out.on (hb))
 have HX_5:=xH (HX_0.out.on (hb))
 clear HB_1 HZ_2 HX_0
 obtain ⟨D5,hD5⟩:∃ z,cutD d m zs=z:=⟨_,rfl⟩
 clear hq hb
 rw [hD5] at hq' ⊢
 go_upto_region 5 with fail
 have HQ_0:=xH (DB.lay (c:=⟨.slice a0q D5.files.length r0q,.slice a1q D5.names.length r1q,.slice a2q D5.moves.length r2q⟩) hq')
 have HB_6:=xH (HB_3.out.trans (((Below.refl w3.heap.size w3).alloc (Nat.le_refl _) (.cells #[.slice a0q D5.files.length r0q,.slice a1q D5.names.length r1q,.slice a2q D5.moves.length r2q] 27)).mono HB_3.out.size))
 have HZ_7:=xH (HZ_4.out.on ((Below.refl w3.heap.size w3).alloc (Nat.le_refl _) (.cells #[.slice a0q D5.files.length r0q,.slice a1q D5.names.length r1q,.slice a2q D5.moves.length r2q] 27)))
 have HX_8:=xH (HX_5.out.on ((Below.refl w3.heap.size w3).alloc (Nat.le_refl _) (.cells #[.slice a0q D5.files.length r0q,.slice a1q D5.names.length r1q,.slice a2q D5.moves.length r2q] 27)))
 clear HB_3 HZ_4 HX_5
 generalize w3.alloc (.cells #[.slice a0q D5.files.length r0q,.slice a1q D5.names.length r1q,.slice a2q D5.moves.length r2q] 27)=W4 at HB_6 HZ_7 HX_8 HQ_0 ⊢
 generalize w3.heap.size=BQ at HQ_0 ⊢
 clear hq'
 have HK:=xH (specDiskOk_any d (fun g=>g < W4.heap.size) ⟨.slice a0 d.files.length r0,.slice a1 d.names.length r1,.slice a2 d.moves.length r2⟩ W4 (fun _ h=>h) HX_8.out.dk)
 obtain ⟨l0,l1,l2⟩:=cs3 HX_8.out.row (by omega)
 simp only [row3] at l0 l1 l2
 go_wp2_with fail
 refine HK.out.mono ?_
 rintro e w5 ⟨⟨ok,rfl,hok⟩,hb⟩
 clear HK l0 l1 l2
 have HB_9:=xH (HB_6.out.trans ((hb).mono HB_6.out.size))
 have HZ_10:=xH (HZ_7.out.on (hb))
 have HX_11:=xH (HX_8.out.on (hb))
 have HQ_12:=xH (HQ_0.out.on (hb))
 clear HB_6 HZ_7 HX_8 HQ_0
 clear hb
 have HK:=xH (implDiskCut_any d m zs (fun g=>g < w5.heap.size) ⟨.slice a0 d.files.length r0,.slice a1 d.names.length r1,.slice a2 d.moves.length r2⟩ zv w5 (fun _ h=>h) HX_11.out.dk HZ_10.out.z)
 obtain ⟨l0,l1,l2⟩:=cs3 HX_11.out.row (by omega)
 simp only [row3] at l0 l1 l2
 go_wp2_with fail
 refine HK.out.mono ?_
 rintro e w6 ⟨⟨u0,u1,u2⟩,F0,F1,F2,rfl,hown,-,hF,hb⟩
 have hp:=own_dk8 hown hF
 rw [hD5] at hp
 obtain ⟨a0p,r0p,g0,-,-⟩:=hp.fs.open
 obtain ⟨a1p,r1p,g1,-,-⟩:=id hp.ns
 obtain ⟨a2p,r2p,g2,-,-⟩:=hp.ms.open
 simp only at g0 g1 g2
 subst g0 g1 g2
 clear HK l0 l1 l2 hown hF
 have HB_13:=xH (HB_9.out.trans ((hb).mono HB_9.out.size))
 have HZ_14:=xH (HZ_10.out.on (hb))
 have HX_15:=xH (HX_11.out.on (hb))
 have HQ_16:=xH (HQ_12.out.on (hb))
 clear HB_9 HZ_10 HX_11 HQ_12
 clear hb
 go_upto_region 7 with fail
 have HP_0:=xH (DB.lay (c:=⟨.slice a0p D5.files.length r0p,.slice a1p D5.names.length r1p,.slice a2p D5.moves.length r2p⟩) hp)
 have HB_17:=xH (HB_13.out.trans (((Below.refl w6.heap.size w6).alloc (Nat.le_refl _) (.cells #[.slice a0p D5.files.length r0p,.slice a1p D5.names.length r1p,.slice a2p D5.moves.length r2p] 27)).mono HB_13.out.size))
 have HZ_18:=xH (HZ_14.out.on ((Below.refl w6.heap.size w6).alloc (Nat.le_refl _) (.cells #[.slice a0p D5.files.length r0p,.slice a1p D5.names.length r1p,.slice a2p D5.moves.length r2p] 27)))
 have HX_19:=xH (HX_15.out.on ((Below.refl w6.heap.size w6).alloc (Nat.le_refl _) (.cells #[.slice a0p D5.files.length r0p,.slice a1p D5.names.length r1p,.slice a2p D5.moves.length r2p] 27)))
 have HQ_20:=xH (HQ_16.out.on ((Below.refl w6.heap.size w6).alloc (Nat.le_refl _) (.cells #[.slice a0p D5.files.length r0p,.slice a1p D5.names.length r1p,.slice a2p D5.moves.length r2p] 27)))
 clear HB_13 HZ_14 HX_15 HQ_16
 generalize w6.alloc (.cells #[.slice a0p D5.files.length r0p,.slice a1p D5.names.length r1p,.slice a2p D5.moves.length r2p] 27)=W7 at HB_17 HZ_18 HX_19 HQ_20 HP_0 ⊢
 generalize w6.heap.size=BX at HP_0 ⊢
 clear hp
 have HK:=xH (loDisk_same D5 (fun g=>g < W7.heap.size) (fun g=>g < W7.heap.size) ⟨.slice a0p D5.files.length r0p,.slice a1p D5.names.length r1p,.slice a2p D5.moves.length r2p⟩ ⟨.slice a0q D5.files.length r0q,.slice a1q D5.names.length r1q,.slice a2q D5.moves.length r2q⟩ W7 (fun _ h=>h) (fun _ h=>h) HP_0.out.dk HQ_20.out.dk)
 obtain ⟨l0,l1,l2⟩:=cs3 HP_0.out.row (by omega)
 simp only [row3] at l0 l1 l2
 obtain ⟨z0,z1,z2⟩:=cs3 HQ_20.out.row (by omega)
 simp only [row3] at z0 z1 z2
 go_wp2_with fail
 refine HK.out.mono ?_
 rintro e w8 ⟨rfl,hb⟩
 clear HK l0 l1 l2 z0 z1 z2
 have HB_21:=xH (HB_17.out.trans ((hb).mono HB_17.out.size))
 have HZ_22:=xH (HZ_18.out.on (hb))
 have HX_23:=xH (HX_19.out.on (hb))
 have HQ_24:=xH (HQ_20.out.on (hb))
 have HP_25:=xH (HP_0.out.on (hb))
 clear HB_17 HZ_18 HX_19 HQ_20 HP_0
 clear hb
 by_cases hokd:DkOkS d
 rotate_left
 · have hk0:ok=false:=by cases h:ok with
    | false=>rfl
    | true=>exact absurd (hok.1 h) hokd
   subst hk0
   have hd0:D5=⟨[],[],[]⟩:=by rw [← hD5];exact cutD_no hokd
   subst hd0
   obtain ⟨l0,l1,l2⟩:=cs3 HP_25.out.row (by omega)
   simp only [row3] at l0 l1 l2
   simp only [List.length_nil] at l0 l1 l2
   go_wp2_with fail
   go_ret
   exact ⟨rfl,HB_21.out⟩
 have hk0:ok=true:=hok.2 hokd
 subst hk0
 clear hok
 have HK:=xH (drawDiskCut_any w8 a' cap' l' (bytes_below8 HV.out HB_21.out) hcap')
 go_wp2_with fail
 refine HK.out.mono ?_
 rintro e w9 ⟨d4,⟨u0,u1,u2⟩,m2,zs2,zv2,rfl,hd,hz,hb⟩
 obtain ⟨a0c,r0c,g0,-,-⟩:=hd.fs.open
 obtain ⟨a1c,r1c,g1,-,-⟩:=id hd.ns
 obtain ⟨a2c,r2c,g2,-,-⟩:=hd.ms.open
 simp only at g0 g1 g2
 subst g0 g1 g2
 have hz':=hz.carry (w':=w9) (Q:=fun g=>g < w9.heap.size) (fun _ _=>rfl) (fun _ hg=>hg.2)
 clear HK hd hz
 have HB_26:=xH (HB_21.out.trans ((hb).mono HB_21.out.size))
 have HZ_27:=xH (HZ_22.out.on (hb))
 have HX_28:=xH (HX_23.out.on (hb))
 have HQ_29:=xH (HQ_24.out.on (hb))
 have HP_30:=xH (HP_25.out.on (hb))
 clear HB_21 HZ_22 HX_23 HQ_24 HP_25
 clear hb
 have HY_0:=xH (ZA.mk (w:=w9) hz')
 clear hz'
 go_upto_region 12 with fail
 have HB_31:=xH (HB_26.out.trans (((Below.refl w9.heap.size w9).alloc (Nat.le_refl _) (.cells #[.slice a0c d4.files.length r0c,.slice a1c d4.names.length r1c,.slice a2c d4.moves.length r2c] 27)).mono HB_26.out.size))
 have HZ_32:=xH (HZ_27.out.on ((Below.refl w9.heap.size w9).alloc (Nat.le_refl _) (.cells #[.slice a0c d4.files.length r0c,.slice a1c d4.names.length r1c,.slice a2c d4.moves.length r2c] 27)))
 have HX_33:=xH (HX_28.out.on ((Below.refl w9.heap.size w9).alloc (Nat.le_refl _) (.cells #[.slice a0c d4.files.length r0c,.slice a1c d4.names.length r1c,.slice a2c d4.moves.length r2c] 27)))
 have HQ_34:=xH (HQ_29.out.on ((Below.refl w9.heap.size w9).alloc (Nat.le_refl _) (.cells #[.slice a0c d4.files.length r0c,.slice a1c d4.names.length r1c,.slice a2c d4.moves.length r2c] 27)))
 have HP_35:=xH (HP_30.out.on ((Below.refl w9.heap.size w9).alloc (Nat.le_refl _) (.cells #[.slice a0c d4.files.length r0c,.slice a1c d4.names.length r1c,.slice a2c d4.moves.length r2c] 27)))
 have HY_36:=xH (HY_0.out.on ((Below.refl w9.heap.size w9).alloc (Nat.le_refl _) (.cells #[.slice a0c d4.files.length r0c,.slice a1c d4.names.length r1c,.slice a2c d4.moves.length r2c] 27)))
 clear HB_26 HZ_27 HX_28 HQ_29 HP_30 HY_0
 generalize w9.alloc (.cells #[.slice a0c d4.files.length r0c,.slice a1c d4.names.length r1c,.slice a2c d4.moves.length r2c] 27)=W10 at HB_31 HZ_32 HX_33 HQ_34 HP_35 HY_36 ⊢
 have hok5:DkOkS D5:=by rw [← hD5];exact cut_ok8 m zs hokd
 have hcs:cutD D5 m2 zs2=D5:=by rw [← hD5];exact cut_same8 m zs m2 zs2 hokd
 refine wp_swap (c':=Code.region 12 dc12Ops true) (by kernel_rfl) ?_
 refine wp_region_noPanic ?_
 refine dc12 B BX m2 zv2 (.bool false) ⟨.slice a0p D5.files.length r0p,.slice a1p D5.names.length r1p,.slice a2p D5.moves.length r2p⟩ D5 W10 _ (fun _ _ _ _ _ h=>h) (HP_35.out.row.of_block rfl) (fun W hW=>(implDiskOk_any D5 (fun g=>g < W.heap.size) ⟨.slice a0p D5.files.length r0p,.slice a1p D5.names.length r1p,.slice a2p D5.moves.length r2p⟩ W (fun _ h=>h) (HP_35.out.on ((Below.refl W10.heap.size W10).drew.trans hW)).dk).mono (fun e W' ⟨⟨rb,he,hrb⟩,hb⟩=>⟨by rw [he,hrb.2 ((dkOk_iff _).1 hok5)],hb⟩)) (fun W hW=>(implDiskCut_any D5 m2 zs2 (fun g=>g < W.heap.size) ⟨.slice a0p D5.files.length r0p,.slice a1p D5.names.length r1p,.slice a2p D5.moves.length r2p⟩ zv2 W (fun _ h=>h) (HP_35.out.on ((Below.refl W10.heap.size W10).drew.trans hW)).dk (HY_36.out.on ((Below.refl W10.heap.size W10).drew.trans hW)).z).mono (fun e W' ⟨c',F0,F1,F2,he,hown,_,hF,hb⟩=>⟨c',he,by have:=own_dk8 hown hF;rw [hcs] at this;exact this,hb⟩)) (fun W c' hW hc=>loDisk_same D5 (fun g=>g < W.heap.size) (fun g=>g < W.heap.size) c' ⟨.slice a0p D5.files.length r0p,.slice a1p D5.names.length r1p,.slice a2p D5.moves.length r2p⟩ W (fun _ h=>h) (fun _ h=>h) hc (HP_35.out.on ((Below.refl W10.heap.size W10).drew.trans hW)).dk) (by kernel_rfl) ?_
 intro u W11 hb
 refine NoPanic.normal ?_
 simp only [frL_eq,frG,List.lookup,Nat.reduceBEq,Nat.reduceAdd,Option.getD_some,Option.getD_none]
 have HB_37:=xH (HB_31.out.trans (((Below.refl W10.heap.size W10).drew.trans hb).mono HB_31.out.size))
 have HZ_38:=xH (HZ_32.out.on ((Below.refl W10.heap.size W10).drew.trans hb))
 have HX_39:=xH (HX_33.out.on ((Below.refl W10.heap.size W10).drew.trans hb))
 have HQ_40:=xH (HQ_34.out.on ((Below.refl W10.heap.size W10).drew.trans hb))
 have HP_41:=xH (HP_35.out.on ((Below.refl W10.heap.size W10).drew.trans hb))
 have HY_42:=xH (HY_36.out.on ((Below.refl W10.heap.size W10).drew.trans hb))
 clear HB_31 HZ_32 HX_33 HQ_34 HP_35 HY_36
 clear hb hcs
 have HFI:=xH (cut_files8 m zs hokd)
 rw [hD5] at HFI
 have hlp:=HP_41.out.dk.fs.2
 obtain ⟨_,_,_,hn5,-⟩:=HP_41.out.dk.fs.open
 obtain ⟨_,_,_,hnd,-⟩:=HX_39.out.dk.fs.open
 clear HZ_38 HQ_40 HY_42 HV hlp
 go_wp2_with fail
 go_loopw [14] (fun i wr=>∃ (k:Nat),k≤D5.files.length∧i=.int .i64 k∧Hid (Below w.heap.size w wr)∧Hid (DB wr BX D5 ⟨.slice a0p D5.files.length r0p,.slice a1p D5.names.length r1p,.slice a2p D5.moves.length r2p⟩)∧Hid (DB wr B d ⟨.slice a0 d.files.length r0,.slice a1 d.names.length r1,.slice a2 d.moves.length r2⟩)) (fun i _=>D5.files.length - (intOf i).toNat)
 case atStart=>exact ⟨0,Nat.zero_le _,rfl,HB_37,HP_41,HX_39⟩
 case round =>
  clear HB_37 HP_41 HX_39
  obtain ⟨k,hk,rfl,HB,HP,HX⟩:=hrel
  have l0:=HP.out.row.cell (i:=0) (by omega)
  simp only [row3] at l0
  by_cases hlt:k < D5.files.length
  rotate_left
  · obtain rfl:k=D5.files.length:=by omega
    have hkd:decide ((D5.files.length:Int) < (D5.files.length:Int))=false:=decide_eq_false (by omega)
    go_wp2_with fail
    go_ret
    exact ⟨rfl,HB.out⟩
  obtain ⟨i0,hi0,hnm,hf1,hf2,hf3,hf4⟩:=HFI.out D5.files[k] (List.getElem_mem hlt)
  have hdk:=HP.out.dk
  obtain ⟨x0,x1,e1,-,hf⟩:=hdk.fs.open
  simp only [Value.slice.injEq,true_and] at e1
  obtain ⟨rfl,rfl⟩:=e1
  obtain ⟨b,o,rfl,-,t1,-⟩:=hf k hlt
  have t10:=t1.1;have t11:=t1.2.1;have t12:=t1.2.2
  simp only at t10 t11 t12
  have hkd:decide ((k:Int) < (D5.files.length:Int))=true:=decide_eq_true (by omega)
  obtain ⟨f,hfk⟩:∃ z,D5.files[k]=z:=⟨_,rfl⟩
  rw [hfk] at hnm hf1 hf2 hf3 hf4 t10 t11 t12
  have HF4:=xH hf4
  have HNM:=xH hnm
  clear hf t1 hdk hfk hf4 hnm
  go_upto_region 19 with fail
  have HF:=xH (row3_alloc wr (.string f.name) (.string f.data) (.int .i64 f.kept) 44)
  have hal:=(Below.refl wr.heap.size wr).alloc (Nat.le_refl _) (.cells #[.string f.name,.string f.data,.int .i64 f.kept] 44)
  have HB2:=xH (HB.out.trans (hal.mono HB.out.size))
  have HP2:=xH (HP.out.on hal)
  have HX2:=xH (HX.out.on hal)
  clear HB HP HX hal l0 t10 t11 t12 hkd
  generalize wr.alloc (.cells #[.string f.name,.string f.data,.int .i64 f.kept] 44)=W13 at HF HB2 HP2 HX2 ⊢
  generalize wr.heap.size=BF at HF ⊢
  go_wp2_with fail
  go_loopw [16,17] (fun fo jj wr=>∃ (j:Nat),j≤d.files.length∧jj=.int .i64 j∧fo=.bool (decide (i0 < j))∧Hid (Below w.heap.size w wr)∧Hid (DB wr BX D5 ⟨.slice (some ⟨b,o,none⟩) D5.files.length r0p,.slice a1p D5.names.length r1p,.slice a2p D5.moves.length r2p⟩)∧Hid (DB wr B d ⟨.slice a0 d.files.length r0,.slice a1 d.names.length r1,.slice a2 d.moves.length r2⟩)∧Hid (wr.rowIs BF 44 3 (row3 (.string f.name) (.string f.data) (.int .i64 f.kept)))) (fun _ jj _=>d.files.length - (intOf jj).toNat)
  case atStart=>exact ⟨0,Nat.zero_le _,rfl,by rw [decide_eq_false (Nat.not_lt_zero _)],HB2,HP2,HX2,HF⟩
  case round =>
   clear HB2 HP2 HX2 HF
   obtain ⟨j,hj,rfl,rfl,HB,HP,HX,HF⟩:=hrel
   have l0:=HX.out.row.cell (i:=0) (by omega)
   simp only [row3] at l0
   by_cases hjl:j < d.files.length
   rotate_left
   · obtain rfl:j=d.files.length:=by omega
     have hjd:decide ((d.files.length:Int) < (d.files.length:Int))=false:=decide_eq_false (by omega)
     have hfd:decide (i0 < d.files.length)=true:=decide_eq_true hi0
     rw [hfd]
     go_wp2_with fail
     go_roundw
     case rel=>exact ⟨k+1,by omega,by go_num,HB,HP,HX⟩
     case measure=>simp [intOf];omega
   have hdk:=HX.out.dk
   obtain ⟨x0,x1,e1,-,hg⟩:=hdk.fs.open
   simp only [Value.slice.injEq,true_and] at e1
   obtain ⟨rfl,rfl⟩:=e1
   obtain ⟨b2,o2,hb2,-,t1,-⟩:=hg j hjl
   subst hb2
   have t10:=t1.1;have t11:=t1.2.1;have t12:=t1.2.2
   simp only at t10 t11 t12
   have hjd:decide ((j:Int) < (d.files.length:Int))=true:=decide_eq_true (by omega)
   clear hg t1 hdk
   go_upto_region 23 with fail
   have HG:=xH (row3_alloc wr (.string d.files[j].name) (.string d.files[j].data) (.int .i64 d.files[j].kept) 44)
   have hal:=(Below.refl wr.heap.size wr).alloc (Nat.le_refl _) (.cells #[.string d.files[j].name,.string d.files[j].data,.int .i64 d.files[j].kept] 44)
   have HB2:=xH (HB.out.trans (hal.mono HB.out.size))
   have HP2:=xH (HP.out.on hal)
   have HX2:=xH (HX.out.on hal)
   have HF2:=xH (HF.out.of_block (hal.block _ HF.out.lt))
   clear HB HP HX HF hal l0 t10 t11 t12 hjd
   generalize wr.alloc (.cells #[.string d.files[j].name,.string d.files[j].data,.int .i64 d.files[j].kept] 44)=W14 at HG HB2 HP2 HX2 HF2 ⊢
   generalize wr.heap.size=BG at HG ⊢
   have m0:=HG.out.cell (i:=0) (by omega);have m1:=HF2.out.cell (i:=0) (by omega)
   simp only [row3] at m0 m1
   by_cases hji:j=i0
   · subst hji
     have hcm:(d.files[j].name.toList==f.name.toList)=true:=by rw [HNM.out];simp
     go_upto_region 24 with fail
     refine wp_swap (c':=Code.region 24 dc24Ops true) (by kernel_rfl) ?_
     refine wp_region_noPanic ?_
     refine dc24 BF BG f.name f.data d.files[j].name d.files[j].data f.kept d.files[j].kept W14 _ (fun _ _ _ _ _ h=>h) (HF2.out.of_block rfl) (HG.out.of_block rfl) hf1 (by omega) hf3 HF4.out (by kernel_rfl) (fun u=>by kernel_rfl) ?_
     intro u W hW
     subst hW
     refine NoPanic.normal ?_
     simp only [List.take_succ_cons,List.take_zero,List.drop_succ_cons,List.drop_zero,List.cons_append,List.nil_append]
     clear m0 m1 hcm HG
     have hdr:=(Below.refl W14.heap.size W14).drew
     have HB3:=xH (HB2.out.trans (hdr.mono HB2.out.size))
     have HP3:=xH (HP2.out.on hdr)
     have HX3:=xH (HX2.out.on hdr)
     have HF3:=xH (HF2.out.of_block (hdr.block _ HF2.out.lt))
     clear hdr HB2 HP2 HX2 HF2
     go_wp2_with fail
     go_roundw
     case rel=>exact ⟨j+1,by omega,by go_num,by rw [decide_eq_true (Nat.lt_succ_self _)],HB3,HP3,HX3,HF3⟩
     case measure=>simp [intOf];omega
   · have hcm:(d.files[j].name.toList==f.name.toList)=false:=beq_eq_false_iff_ne.2 (fun e=>hji (names_inj8 hokd hjl hi0 (by
      rw [HNM.out]
      have:=congrArg (fun l:List UInt8=>(⟨l.toArray⟩:ByteArray)) e
      exact ByteArray.ext (by simpa [Lib.toList_data] using this))))
     have hdd:decide (i0 < j)=decide (i0 < j+1):=by
      by_cases h:i0 < j
      · rw [decide_eq_true h,decide_eq_true (by omega)]
      · rw [decide_eq_false h,decide_eq_false (by omega)]
     rw [hdd]
     clear HG hdd
     go_wp2_with fail
     go_roundw
     case rel=>exact ⟨j+1,by omega,by go_num,rfl,HB2,HP2,HX2,HF2⟩
     case measure=>simp [intOf];omega
end Go.Proofs.Yteikmbkljkkjiaa

namespace Go.Proofs.Yteikmbkljkkjiaa
open Go Go.RowKit Go.ChangeShapes Go.WideShapes Go.ChangeAt
theorem cellsU8:Try.prog.cellsOf 5=1:=by kernel_rfl
section
variable {H:Type} {enc:TypeId × Value→H} {W:World} {spare:Nat→Bool} {held:Bool}
theorem bytes_cap {fuel:Nat} {a:Option Addr} {len cap:Nat} {x:DataW H × List MemPlace} (h:DataW.trod enc Try.prog W 0 spare held fuel 22 [.slice a len cap]=some x):len≤cap:=by
 rcases open_ints Try.underlying22 Try.underlying5 cellsU8 h with ⟨hcs,-⟩ | ⟨a',len',cap',zs,hcs,-,hl,-⟩
 · simp only [List.cons.injEq,Value.slice.injEq,and_true] at hcs
   omega
 · simp only [List.cons.injEq,Value.slice.injEq,and_true] at hcs
   omega
theorem bytes_of_trod {fuel:Nat} {v:Value} {x:DataW H × List MemPlace} (h:DataW.trod enc Try.prog W 0 spare held fuel 22 [v]=some x) :
 ∃ l,BytesAt W v l:=by
 rcases open_ints Try.underlying22 Try.underlying5 cellsU8 h with ⟨hcs,-⟩ | ⟨a,len,cap,zs,hcs,-,hl,hm,hz,-,hcell,hws⟩
 · simp only [List.cons.injEq,and_true] at hcs
   exact ⟨[],none,0,hcs,by simp,fun i hi=>by simp at hi⟩
 · simp only [List.cons.injEq,and_true] at hcs
   have hle:len≤zs.length:=by rw [hz];split <;> omega
   unfold maxLen at hm
   have hlen:((zs.take len).map (fun z=>UInt8.ofNat z.toNat)).length=len:=by simp;omega
   refine ⟨(zs.take len).map (fun z=>UInt8.ofNat z.toNat),some a,cap,by rw [hcs,hlen],by rw [hlen];omega,fun i hi=>?_⟩
   have hi':i < len:=by rw [hlen] at hi;exact hi
   obtain ⟨b,off,spot⟩:=a
   have hspot:spot=none:=by simpa [Addr.add] using World.cell?_spot (hcell 0 (by omega))
   subst hspot
   have hc:=hcell i (by omega)
   rw [Addr.add_lit] at hc
   refine ⟨b,off,rfl,World.block_lt_of_cell? W _ hc,?_⟩
   have hb:=bounds_u8 (hws (zs[i]'(by omega)) (List.getElem_mem (by omega)))
   rw [hc]
   have e1:zs.getD i 0=zs[i]'(by omega):=by simp [show i < zs.length by omega]
   have e2:(((zs.take len).map (fun z=>UInt8.ofNat z.toNat))[i]'hi)=UInt8.ofNat (zs[i]'(by omega)).toNat:=by simp
   rw [e1,e2,show (UInt8.ofNat (zs[i]'(by omega)).toNat).toNat=(zs[i]'(by omega)).toNat from by simp;omega,show (((zs[i]'(by omega)).toNat:Nat):Int)=zs[i]'(by omega) from by omega]
end
end Go.Proofs.Yteikmbkljkkjiaa
