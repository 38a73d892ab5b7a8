/- A part. -/
import Derived.Test.YteikmbkljkkjiaaSart06
set_option maxRecDepth 100000
set_option maxHeartbeats 1600000
namespace Go.Proofs.Yteikmbkljkkjiaa
open Go Go.RowKit Go.WideMaps Go.Maps
noncomputable def namesD (d:Dk):List ByteArray:=open Classical in if DkOkS d then afterD d.names d.moves else []
theorem namesD_ok {d:Dk} (h:DkOkS d):namesD d=afterD d.names d.moves:=if_pos h
theorem namesD_no {d:Dk} (h:¬ DkOkS d):namesD d=[]:=if_neg h
theorem dk_nodup {d:Dk} (h:DkOkS d):(madeD d.names d.moves).Nodup∧d.files.map Df.name=madeD d.names d.moves∧mfold d.names d.moves=some (afterD d.names d.moves):=by
 have hp:=(dkOk_iff d).1 h
 have heq:=named_eq hp.made.named
 have hnd:(madeD d.names d.moves).Nodup:=by
  rw [← heq]
  refine nodup_take fun i hi=>?_
  rw [List.length_map] at hi
  rw [List.getElem_map]
  exact (hp.file i hi).1
 refine ⟨hnd,heq,?_⟩
 have:=mfold_after hnd (fun i hi hg=>hasB_iff.1 (h.move i hi hg)) d.moves.length (Nat.le_refl _)
 rwa [List.take_of_length_le (Nat.le_refl _)] at this
theorem names_file {d:Dk} {x:ByteArray} (hx:x∈namesD d):∃ i,∃ hi:i < d.files.length,DkOkS d∧d.files[i].name=x∧findF d.files x=i:=by
 by_cases h:DkOkS d
 · rw [namesD_ok h] at hx
   obtain ⟨hnd,heq,-⟩:=dk_nodup h
   have:=(after_nodup hnd d.moves.length (Nat.le_refl _)).2 x (by rw [List.take_of_length_le (Nat.le_refl _)];exact hx)
   rw [List.take_of_length_le (Nat.le_refl _),← heq] at this
   obtain ⟨i,hi,e⟩:=List.getElem_of_mem this
   rw [List.length_map] at hi
   rw [List.getElem_map] at e
   refine ⟨i,hi,h,e,?_⟩
   have:=(h.file i hi (by rw [h.len];exact hi)).find
   rw [← e];exact this
 · rw [namesD_no h] at hx;cases hx
noncomputable def lookD (d:Dk) (x:ByteArray):ByteArray × Bool:=open Classical in if x∈namesD d then ((d.files.getD (findF d.files x).toNat ⟨ByteArray.empty,ByteArray.empty,0⟩).data,true) else (ByteArray.empty,false)
theorem lookD_no {d:Dk} {x:ByteArray} (h:x∉namesD d):lookD d x=(ByteArray.empty,false):=if_neg h
theorem lookD_yes {d:Dk} {x:ByteArray} (h:x∈namesD d) (i:Nat) (hi:i < d.files.length) (e:findF d.files x=i):lookD d x=(d.files[i].data,true):=by
 unfold lookD
 rw [if_pos h,e]
 simp [hi]
theorem specDiskNames_any (d:Dk) (P:Nat→Prop) (c:C3) (w:World) (hP:∀ b,P b→b < w.heap.size) (hd:DkAt P w d c) :
 Calls Try.prog 29 #[.agg #[c.c0,c.c1,c.c2]] w fun e w'=>∃ v,e=.returned v∧NmOwn w w' v (namesD d).length (namesD d):=by
 obtain ⟨c0,c1,c2⟩:=c
 have hbx:∀ o,Below w.heap.size w (w.alloc o):=fun o=>(Below.refl _ _).alloc (Nat.le_refl _) o
 have HOK:=xH (fun o=>specDiskOk_any d P ⟨c0,c1,c2⟩ (w.alloc o) (fun b hb=>Nat.lt_of_lt_of_le (hP b hb) (hbx o).size) (hd.carry (fun b hb=>(hbx o).block b (hP b hb)) (fun _ h=>h)))
 have HAF:=xH (fun (h:DkOkS d) (W:World) (hW:Below w.heap.size w W)=>l41After_any d P ⟨c0,c1,c2⟩ W (fun b hb=>Nat.lt_of_lt_of_le (hP b hb) hW.size) (hd.carry (fun b hb=>hW.block b (hP b hb)) (fun _ h=>h)) (by have:=h.l2;omega) (by have:=h.l3;omega) d.moves.length (Nat.le_refl _))
 obtain ⟨a2,p2,g2,-,-⟩:=hd.ms.open
 simp only at g2
 subst g2
 have HROW:=xH (row3_alloc w c0 c1 (.slice a2 d.moves.length p2) 27)
 have HBX:=xH hbx
 clear hd hP hbx
 go_enter Try.func29,Try.ntmps29
 go_wp2_with fail
 refine (xU HOK _).mono ?_
 rintro e w1 ⟨⟨r,rfl,hr⟩,hb1⟩
 have HB1:=xH ((xU HBX _).trans (hb1.mono (xU HBX _).size))
 have q1:=(xU HROW).of_block (hb1.block w.heap.size (by simp))
 obtain ⟨k0,k1,k2⟩:=cs3 q1 (by omega)
 simp only [row3] at k0 k1 k2
 clear hb1 q1 HOK
 cases r with
 | false =>
   have HNO:=xH (show ¬ DkOkS d from fun h=>by have:=hr.2 h;cases this)
   have HEMP:=xH (empty_row (base:=w.heap.size) (size:=1) (World.rowIs_alloc w1 #[] 9 (fun _=>.bool false) (fun i hi=>by simp at hi)) (xU HB1).size)
   clear hr
   go_wp2_with fail
   go_ret
   refine ⟨_,rfl,?_⟩
   rw [namesD_no (xU HNO)]
   exact ⟨xU HEMP,rfl,fun x hx=>(by cases hx),(xU HB1).alloc (xU HB1).size _⟩
 | true =>
   have HYES:=xH (hr.1 rfl)
   clear hr
   have HAF1:=xH (xU HAF (xU HYES) w1 (xU HB1))
   go_wp2_with fail
   refine (xU HAF1).mono ?_
   rintro e w2 ⟨a,n,cap,rfl,HN⟩
   go_wp2_with fail
   go_ret
   refine ⟨_,rfl,?_⟩
   have hn:=HN.out
   rw [List.take_of_length_le (Nat.le_refl _),← namesD_ok (xU HYES)] at hn
   refine ⟨ownsRow_base (by rw [← hn.len];exact hn.own) (xU HB1).size,rfl,hn.sz,(xU HB1).trans (hn.below.mono (xU HB1).size)⟩
theorem specDiskLook_any (d:Dk) (x:ByteArray) (P:Nat→Prop) (c:C3) (w:World) (hP:∀ b,P b→b < w.heap.size) (hd:DkAt P w d c) :
 Calls Try.prog 9 #[.agg #[c.c0,c.c1,c.c2],.string x] w fun e w'=>e=.returned (.tuple #[.string (lookD d x).1,.bool (lookD d x).2])∧Below w.heap.size w w':=by
 obtain ⟨c0,c1,c2⟩:=c
 have hbx:∀ o,Below w.heap.size w (w.alloc o):=fun o=>(Below.refl _ _).alloc (Nat.le_refl _) o
 have HN:=xH (fun o=>specDiskNames_any d P ⟨c0,c1,c2⟩ (w.alloc o) (fun b hb=>Nat.lt_of_lt_of_le (hP b hb) (hbx o).size) (hd.carry (fun b hb=>(hbx o).block b (hP b hb)) (fun _ h=>h)))
 have HFI:=xH (fun (W:World) (hW:Below w.heap.size w W)=>l41Find_any c0 d.files x W (P:=P) (hd.fs.carry (fun b hb=>hW.block b (hP b hb)) (fun _ h=>h)))
 have HROW:=xH (row3_alloc w c0 c1 c2 27)
 have HBX:=xH hbx;have HP:=xH hP
 obtain ⟨a0,p0,g0,hl0,hfc⟩:=hd.fs.open
 simp only at g0
 subst g0
 have HFC:=xH hfc
 clear hd hP hbx hfc
 go_enter Try.func9,Try.ntmps9
 go_wp2_with fail
 refine (xU HN _).mono ?_
 rintro e w1 ⟨v1,rfl,hn1⟩
 have hb1:=hn1.below
 have HB1:=xH ((xU HBX _).trans (hb1.mono (xU HBX _).size))
 have q1:=(xU HROW).of_block (hb1.block w.heap.size (by simp))
 have k0:=q1.cell (i:=0) (by omega)
 simp only [row3] at k0
 have HH:=xH (l6Has_any v1 (namesD d) x w1 hn1.strs)
 clear hb1 q1 HN hn1
 cases ch:hasB (namesD d) x with
 | false =>
   have HNO:=xH (show lookD d x=(ByteArray.empty,false) from lookD_no (fun h=>by have:=hasB_iff.2 h;rw [ch] at this;cases this))
   rw [ch] at HH
   clear ch
   go_wp2_with fail
   refine (xU HH).mono ?_
   rintro e w2 ⟨rfl,rfl⟩
   go_wp2_with fail
   go_ret2
   rw [xU HNO]
   exact ⟨rfl,xU HB1⟩
 | true =>
   obtain ⟨i,hi,-,he,hf⟩:=names_file (hasB_iff.1 ch)
   have HYES:=xH (lookD_yes (hasB_iff.1 ch) i hi hf)
   rw [ch] at HH
   rw [hf] at HFI
   obtain ⟨b,o,rfl,hpb,⟨c0',c1',-⟩,-⟩:=xU HFC i hi
   simp only at c0' c1'
   have e1:w1.cell? ⟨b,o+i * 3+1,none⟩=some (.string d.files[i].data):=by rw [(xU HB1).cell (p:=⟨b,o+i * 3+1,none⟩) (xU HP b hpb)];exact c1'
   have hii:(i:Int) < (d.files.length:Int):=by omega
   have HFI2:=xH (fun m=>xU HFI (w1.drewN m) (bdrewN (xU HB1) m))
   clear ch he hf c0' c1' hpb HFI
   generalize d.files[i].data=fd at *
   go_wp2_with fail
   refine (xU HH).mono ?_
   rintro e w2 ⟨rfl,rfl⟩
   go_wp2_with fail
   go_quiet (first
    | (go_at_call 27;exact Calls.quiet_of_same (xU HFI2 _)))
   go_wp2_with fail
   go_ret2
   rw [xU HYES]
   exact ⟨rfl,bdrewN (xU HB1) _⟩
theorem runField1 (a b:ByteArray) (k:Int) (w:World):(Instr.field 44 (.agg #[.string a,.string b,.int .i64 k]) 1).run Try.prog w=.ok (.string b) w:=by rfl
theorem strClone_any (s:ByteArray) (w:World) (hs:s.size≤281474976710656) :
 Calls Try.prog 40 #[.string s] w fun e w'=>e=.returned (.string s)∧Below w.heap.size w w':=by
 have HC:=xH (Try.stringslite_Clone s w hs)
 go_enter Try.func40,Try.ntmps40
 go_wp2_with fail
 refine (xU HC).mono ?_
 rintro e w1 ⟨rfl,hb⟩
 go_wp2_with fail
 go_ret
 exact ⟨rfl,hb⟩
theorem implDiskLook_any (d:Dk) (x:ByteArray) (P:Nat→Prop) (c:C3) (w:World) (hP:∀ b,P b→b < w.heap.size) (hd:DkAt P w d c) :
 Calls Try.prog 12 #[.agg #[c.c0,c.c1,c.c2],.string x] w fun e w'=>e=.returned (.tuple #[.string (lookD d x).1,.bool (lookD d x).2])∧Below w.heap.size w w':=by
 obtain ⟨c0,c1,c2⟩:=c
 have HD:=xH hd;have HP:=xH hP
 have hbx:∀ o,Below w.heap.size w (w.alloc o):=fun o=>(Below.refl _ _).alloc (Nat.le_refl _) o
 have HV:=xH (fun o=>viewsOf_any d P ⟨c0,c1,c2⟩ (w.alloc o) (fun b hb=>Nat.lt_of_lt_of_le (hP b hb) (hbx o).size) (hd.carry (fun b hb=>(hbx o).block b (hP b hb)) (fun _ h=>h)))
 have HBX:=xH hbx
 clear hd hP hbx
 go_enter Try.func12,Try.ntmps12
 go_wp2_with fail
 refine (xU HV _).mono ?_
 rintro e w1 ⟨r,q0,q1,x2,n2,m2,q3,x4,n4,m4,rfl,hr,hb1,hvw⟩
 have HB1:=xH ((xU HBX _).trans (hb1.mono (xU HBX _).size))
 clear hb1 HV
 cases r with
 | false =>
   have HNO:=xH (show lookD d x=(ByteArray.empty,false) from lookD_no (fun h=>by obtain ⟨_,_,h',-⟩:=names_file h;have:=hr.2 ((dkOk_iff d).1 h');cases this))
   clear hr hvw
   go_wp2_with fail
   go_ret2
   rw [xU HNO]
   exact ⟨rfl,(xU HB1).alloc (xU HB1).size _⟩
 | true =>
   obtain ⟨T,B,vm,hvw⟩:=hvw rfl
   have hok:=(dkOk_iff d).2 (hr.1 rfl)
   clear hr
   have hval:=hvw.val
   simp only [Value.agg.injEq,Array.mk.injEq,List.cons.injEq,Value.pointer.injEq,and_true] at hval
   obtain ⟨rfl,rfl,hx2,rfl,rfl⟩:=hval
   obtain ⟨hnd,heq,hmf⟩:=dk_nodup hok
   have HVW:=xH hvw
   have hbv:∀ o,Below w1.heap.size w1 (w1.alloc o):=fun o=>(Below.refl _ _).alloc (Nat.le_refl _) o
   have hnm:∀ (W:World),Below w1.heap.size w1 W→StrsAt (fun b=>b < W.heap.size) W (.slice x2 n2 m2) d.names:=fun W hW=>by
    have:=(xU HD).ns.carry (w':=W) (Q:=fun b=>b < W.heap.size) (fun b hb=>(hW.block b (Nat.lt_of_lt_of_le (xU HP b hb) (xU HB1).size)).trans ((xU HB1).block b (xU HP b hb))) (fun b hb=>Nat.lt_of_lt_of_le (xU HP b hb) (Nat.le_trans (xU HB1).size hW.size))
    rw [← hx2] at this;exact this
   have HTH:=xH (fun o=>isThere_any d.names d.moves (some ⟨T,0,none⟩) (some ⟨T,0,none⟩) x2 n2 m2 (some ⟨T,0,none⟩) x4 n4 m4 (fun b=>b < (w1.alloc o).heap.size) (w1.alloc o) (fun _ h=>h) (hnm _ (hbv o)) ((hvw.carry (hbv o)).fns.carry (fun _ _=>rfl) (fun b hb=>hb.2)) (by have:=hok.l2;omega) (by have:=hok.l3;omega) (afterD d.names d.moves) hmf x)
   rw [← namesD_ok hok] at HTH
   have HBV:=xH hbv;have HOK:=xH hok
   have HND:=xH (heq ▸ hnd);have HX2:=xH hx2
   clear hvw hnm hbv hnd heq hmf hok hx2
   cases ch:hasB (namesD d) x with
   | false =>
     have HNO:=xH (show lookD d x=(ByteArray.empty,false) from lookD_no (fun h=>by have:=hasB_iff.2 h;rw [ch] at this;cases this))
     rw [ch] at HTH
     clear ch
     go_wp2_with fail
     refine (xU HTH _).mono ?_
     rintro e w2 ⟨rfl,hb2⟩
     have HB2:=xH (((xU HB1).trans ((xU HBV _).mono (xU HB1).size)).trans (hb2.mono (Nat.le_trans (xU HB1).size (xU HBV _).size)))
     clear hb2
     go_wp2_with fail
     go_ret2
     rw [xU HNO]
     exact ⟨rfl,xU HB2⟩
   | true =>
     obtain ⟨i,hi,-,he,hf⟩:=names_file (hasB_iff.1 ch)
     have HYES:=xH (lookD_yes (hasB_iff.1 ch) i hi hf)
     rw [ch] at HTH
     have hsz:d.files[i].data.size≤281474976710656:=by have:=((xU HOK).file i hi (by rw [(xU HOK).len];exact hi)).data;omega
     have HCL:=xH (fun W=>strClone_any d.files[i].data W hsz)
     obtain ⟨a0,p0,g0,-,-⟩:=(xU HD).fs.open
     simp only at g0
     subst g0
     have HFO:=xH (fun (W:World) (hW:Below w1.heap.size w1 W)=>fileOf_any d.files a0 d.files.length p0 T B P W (fun b hb=>Nat.lt_of_lt_of_le (xU HP b hb) (Nat.le_trans (xU HB1).size hW.size)) ((xU HD).fs.carry (fun b hb=>(hW.block b (Nat.lt_of_lt_of_le (xU HP b hb) (xU HB1).size)).trans ((xU HB1).block b (xU HP b hb))) (fun _ h=>h)) ((xU HVW).carry hW).row ((xU HVW).carry hW).map (xU HND) i hi)
     rw [he] at HFO
     clear ch he hf hsz
     generalize d.files[i].data=fd at *
     generalize d.files[i].kept=fk at *
     go_wp2_with fail
     refine (xU HTH _).mono ?_
     rintro e w2 ⟨rfl,hb2⟩
     have hbw:Below w1.heap.size w1 w2:=(xU HBV _).trans (hb2.mono (xU HBV _).size)
     have hq2:=(fiveV_alloc w1 (.pointer (some ⟨T,0,none⟩)) (.pointer (some ⟨T,0,none⟩)) (.slice x2 n2 m2) (.pointer (some ⟨T,0,none⟩)) (.slice x4 n4 m4) 71).of_block (hb2.block w1.heap.size (by simp))
     have k3:=hq2.cell (i:=3) (by omega)
     simp only [fiveV] at k3
     have HFO2:=xH (xU HFO w2 hbw)
     have HB2:=xH ((xU HB1).trans (hbw.mono (xU HB1).size))
     clear hb2 hbw hq2
     go_wp2_with fail
     refine (xU HFO2).mono ?_
     rintro e w3 ⟨rfl,hb3⟩
     have HB3:=xH ((xU HB2).trans (hb3.mono (xU HB2).size))
     clear hb3
     have hfd:=runField1 x fd fk w3
     go_wp2_with fail
     refine (xU HCL _).mono ?_
     rintro e w4 ⟨rfl,hb4⟩
     have HB4:=xH ((xU HB3).trans (hb4.mono (xU HB3).size))
     clear hb4
     go_wp2_with fail
     go_ret2
     rw [xU HYES]
     exact ⟨rfl,xU HB4⟩
end Go.Proofs.Yteikmbkljkkjiaa

namespace Go.Proofs.Yteikmbkljkkjiaa
open Go Go.RowKit
def noF:Df:=⟨ByteArray.empty,ByteArray.empty,0⟩
def fileD (d:Dk) (x:ByteArray):Df:=d.files.getD (findF d.files x).toNat noF
def keepD (d:Dk) (ns:List ByteArray):Dk:=⟨ns.map (fileD d),ns,[]⟩
def putD (d:Dk) (x:ByteArray) (f:Df):Dk:=⟨d.files.set (findF d.files x).toNat f,d.names,d.moves⟩
noncomputable def doD (d:Dk) (k:Int) (x y:ByteArray):Dk × Int:=open Classical in
 if ¬ DkOkS d then (⟨[],[],[]⟩,1)
 else if k=1 then
  (if nameOkB x=false∨0≤findF d.files x then (d,3)
   else if 64≤d.files.length∨128≤d.moves.length then (d,4)
   else (⟨d.files++[⟨x,ByteArray.empty,0⟩],d.names,d.moves++[⟨false,x⟩]⟩,0))
 else if k=5 then (keepD d (namesD d),0)
 else if ¬ (1≤k∧k≤5) then (d,5)
 else if x∉namesD d then (d,2)
 else if k=2 then (if 20000 - (fileD d x).data.size < (y.size:Int) then (d,4) else (putD d x ⟨(fileD d x).name,(fileD d x).data++y,(fileD d x).kept⟩,0))
 else if k=3 then (putD d x ⟨(fileD d x).name,(fileD d x).data,(fileD d x).data.size⟩,0)
 else if 128≤d.moves.length then (d,4)
 else (⟨d.files,d.names,d.moves++[⟨true,x⟩]⟩,0)
theorem doD_bad {d:Dk} {k:Int} {x y:ByteArray} (h:¬ DkOkS d):doD d k x y=(⟨[],[],[]⟩,1):=by unfold doD;rw [if_pos h]
theorem doD_taken {d:Dk} {x y:ByteArray} (h:DkOkS d) (h1:nameOkB x=false∨0≤findF d.files x):doD d 1 x y=(d,3):=by
 unfold doD;rw [if_neg (fun hn=>hn h),if_pos rfl,if_pos h1]
theorem doD_full {d:Dk} {x y:ByteArray} (h:DkOkS d) (h1:¬ (nameOkB x=false∨0≤findF d.files x)) (h2:64≤d.files.length∨128≤d.moves.length):doD d 1 x y=(d,4):=by
 unfold doD;rw [if_neg (fun hn=>hn h),if_pos rfl,if_neg h1,if_pos h2]
theorem doD_make {d:Dk} {x y:ByteArray} (h:DkOkS d) (h1:¬ (nameOkB x=false∨0≤findF d.files x)) (h2:¬ (64≤d.files.length∨128≤d.moves.length)):doD d 1 x y=(⟨d.files++[⟨x,ByteArray.empty,0⟩],d.names,d.moves++[⟨false,x⟩]⟩,0):=by
 unfold doD;rw [if_neg (fun hn=>hn h),if_pos rfl,if_neg h1,if_neg h2]
theorem doD_dirs {d:Dk} {x y:ByteArray} (h:DkOkS d):doD d 5 x y=(keepD d (namesD d),0):=by
 unfold doD;rw [if_neg (fun hn=>hn h),if_neg (by decide),if_pos rfl]
theorem doD_kind {d:Dk} {k:Int} {x y:ByteArray} (h:DkOkS d) (h1:¬ (1≤k∧k≤5)):doD d k x y=(d,5):=by
 unfold doD;rw [if_neg (fun hn=>hn h),if_neg (by omega),if_neg (by omega),if_pos h1]
theorem doD_nofile {d:Dk} {k:Int} {x y:ByteArray} (h:DkOkS d) (h1:2≤k∧k≤4) (h2:x∉namesD d):doD d k x y=(d,2):=by
 unfold doD;rw [if_neg (fun hn=>hn h),if_neg (by omega),if_neg (by omega),if_neg (by omega),if_pos h2]
theorem doD_addfull {d:Dk} {x y:ByteArray} (h:DkOkS d) (h2:x∈namesD d) (h3:20000 - (fileD d x).data.size < (y.size:Int)):doD d 2 x y=(d,4):=by
 unfold doD;rw [if_neg (fun hn=>hn h),if_neg (by decide),if_neg (by decide),if_neg (by decide),if_neg (fun hn=>hn h2),if_pos rfl,if_pos h3]
theorem doD_add {d:Dk} {x y:ByteArray} (h:DkOkS d) (h2:x∈namesD d) (h3:¬ (20000 - (fileD d x).data.size < (y.size:Int))):doD d 2 x y=(putD d x ⟨(fileD d x).name,(fileD d x).data++y,(fileD d x).kept⟩,0):=by
 unfold doD;rw [if_neg (fun hn=>hn h),if_neg (by decide),if_neg (by decide),if_neg (by decide),if_neg (fun hn=>hn h2),if_pos rfl,if_neg h3]
theorem doD_sync {d:Dk} {x y:ByteArray} (h:DkOkS d) (h2:x∈namesD d):doD d 3 x y=(putD d x ⟨(fileD d x).name,(fileD d x).data,(fileD d x).data.size⟩,0):=by
 unfold doD;rw [if_neg (fun hn=>hn h),if_neg (by decide),if_neg (by decide),if_neg (by decide),if_neg (fun hn=>hn h2),if_neg (by decide),if_pos rfl]
theorem doD_gonefull {d:Dk} {x y:ByteArray} (h:DkOkS d) (h2:x∈namesD d) (h3:128≤d.moves.length):doD d 4 x y=(d,4):=by
 unfold doD;rw [if_neg (fun hn=>hn h),if_neg (by decide),if_neg (by decide),if_neg (by decide),if_neg (fun hn=>hn h2),if_neg (by decide),if_neg (by decide),if_pos h3]
theorem doD_gone {d:Dk} {x y:ByteArray} (h:DkOkS d) (h2:x∈namesD d) (h3:¬ 128≤d.moves.length):doD d 4 x y=(⟨d.files,d.names,d.moves++[⟨true,x⟩]⟩,0):=by
 unfold doD;rw [if_neg (fun hn=>hn h),if_neg (by decide),if_neg (by decide),if_neg (by decide),if_neg (fun hn=>hn h2),if_neg (by decide),if_neg (by decide),if_neg h3]
theorem fileD_at {d:Dk} {x:ByteArray} {i:Nat} (hi:i < d.files.length) (h:findF d.files x=i):fileD d x=d.files[i]:=by
 unfold fileD;rw [h];simp [hi]
theorem putD_at {d:Dk} {x:ByteArray} {i:Nat} (h:findF d.files x=i) (f:Df):putD d x f=⟨d.files.set i f,d.names,d.moves⟩:=by
 unfold putD;rw [h];simp
end Go.Proofs.Yteikmbkljkkjiaa

namespace Go.Proofs.Yteikmbkljkkjiaa
open Go Go.RowKit
theorem clone_any (s:ByteArray) (w:World) (hlim:s.size≤140737488355328) :
 Calls Try.prog 40 #[.string s] w fun e w'=>e=.returned (.string s)∧Below w.heap.size w w':=by
 have hc:∀ W,Calls Try.prog 65 #[.string s] W fun e w'=>e=.returned (.string s)∧Below W.heap.size W w':=fun W=>Try.stringslite_Clone s W (by omega)
 have HC:=xH hc;clear hc
 go_enter Try.func40,Try.ntmps40
 go_wp2_with (go_at_call 65;refine (xU HC _).mono ?_;rintro e w' ⟨rfl,hb⟩)
 go_ret
 exact ⟨rfl,hb⟩
theorem infoStrC:(Try.prog.info? 9).map (fun i=>(i.zero,i.size,i.bytes))=some (some (.string ByteArray.empty),1,16):=by kernel_rfl
theorem copyNames_row (v:Value) (ss:List ByteArray) (w:World) {P:Nat→Prop} (hP:∀ b,P b→b < w.heap.size) (hv:StrsAt P w v ss) (hl:ss.length≤1048576) (hsz:∀ x,x∈ss→x.size≤1099511627776) :
 Calls Try.prog 47 #[v] w fun e w'=>∃ v',e=.returned v'∧w'.ownsRow w.heap.size 9 1 v' ss.length (ss.map Value.string)∧Below w.heap.size w w':=by
 obtain ⟨a,cap,rfl,hlen,hc⟩:=hv
 obtain ⟨i0,hi,hz0,hz1,hz2⟩:=info_parts infoStrC
 have HC:=xH hc;have HP:=xH hP;have HSZ:=xH hsz
 have HII:=xH hi;have HZ0:=xH hz0;have HZ1:=xH hz1;have HZ2:=xH hz2
 clear hc hP hsz hi hz0 hz1 hz2
 go_enter Try.func47,Try.ntmps47
 go_wp2_with fail
 go_loopw [3,8] (fun s i wr=>∃ (k:Nat) (a':Option Addr) (cap':Nat),k≤ss.length∧i=.int .i64 k∧s=.slice a' k cap'∧Hid (wr.ownsRow w.heap.size 9 1 (.slice a' k cap') k ((ss.take k).map Value.string))∧Hid (Below w.heap.size w wr)) (fun _ i _=>ss.length - (intOf i).toNat)
 case atStart=>exact ⟨0,none,0,Nat.zero_le _,rfl,rfl,World.ownsRow_nil _ _ _ _,Below.refl _ _⟩
 case round =>
  obtain ⟨k,a',cap',hk,rfl,rfl,HOWN,HB⟩:=hrel
  by_cases hlt:k < ss.length
  · obtain ⟨b,o,rfl,hpb,hcell,-⟩:=xU HC k hlt
    have e1:wr.cell? ⟨b,o+k,none⟩=some (.string ss[k]):=by rw [HB.out.cell (xU HP b hpb)];exact hcell
    have hcl:=clone_any ss[k] wr (by have:=xU HSZ _ (List.getElem_mem hlt);omega)
    have htk:(ss.take (k+1)).map Value.string=(ss.take k).map Value.string++[.string ss[k]]:=by
     rw [List.take_succ_eq_append_getElem hlt,List.map_append];rfl
    generalize ss[k]=tk at *
    have HCL:=xH hcl;have HTK:=xH htk
    clear hcl htk hcell hpb
    go_wp2_with fail
    refine (xU HCL).mono ?_
    rintro e w2 ⟨rfl,hb2⟩
    have hs2:=hb2.size
    have hsw:=HB.out.size
    have hown2:w2.ownsRow w.heap.size 9 1 (.slice a' k cap') k ((ss.take k).map Value.string) :=
     HOWN.out.kept (row:=none) ⟨hb2.os,hb2.tape,hb2.output,hb2.size,fun i hi _=>hb2.block i hi⟩ (by
      rcases h:(Value.slice a' k cap').ownBlock with _ | g
      · exact Or.inl rfl
      · exact Or.inr (by simp))
    have HOWN2:=xH hown2;have HB2:=xH (HB.out.trans (hb2.mono hsw))
    clear hown2 hb2 HCL e1
    go_wp2_with (at_builtin;refine append_row _ rfl _ _ 24 rfl w.heap.size 9 i0 (.string ByteArray.empty) 1 16 Try.underlying24 (xU HII) (xU HZ0) (xU HZ1) (xU HZ2) rfl (by decide) (.slice a' k cap') k ((ss.take k).map Value.string) rfl ((xU HOWN2).alloc _) ⟨w2.heap.size,0,none⟩ 1 1 [.string tk] rfl rfl (cell_one _ _ _) (fun u hu=>by simp at hu;subst hu;rfl) (by decide) (by unfold maxLen;omega) (by omega) (by simp;omega) ?_;intro v' w4 hown4 hgrow4 hv4)
    have hlt4:=(xU HOWN2).lt
    obtain ⟨g',cap'',hv''⟩:∃ g' cap'',v'=.slice (some ⟨g',0,none⟩) (k+1) cap'':=by
     rcases hown4.2 with ⟨_,h⟩ | ⟨g',cap'',_,h,_⟩
     · omega
     · exact ⟨g',cap'',h⟩
    subst hv''
    have hb4:Below w.heap.size w2 w4:=(((Below.refl _ w2).alloc (by omega) _)).trans ((Below.refl _ _).grown hgrow4 (by simp;omega) (fun k e=>(hlt4 k e).1))
    have HOWN4:Hid (w4.ownsRow w.heap.size 9 1 (.slice (some ⟨g',0,none⟩) (k+1) cap'') (k+1) ((ss.take (k+1)).map Value.string)):=by
     show World.ownsRow _ _ _ _ _ _ _
     rw [xU HTK];exact hown4
    have HB4:=xH ((xU HB2).trans hb4)
    clear hown4 hgrow4 hv4 hb4 hlt4
    go_wp2_with fail
    go_roundw
    case rel=>exact ⟨k+1,some ⟨g',0,none⟩,cap'',by omega,by go_num,rfl,HOWN4,xU HB4⟩
    case measure=>simp [intOf];omega
  · obtain rfl:k=ss.length:=by omega
    have h1:=HOWN.out
    rw [List.take_length] at h1
    have HF:=xH h1
    clear h1
    go_wp2_with fail
    go_ret
    exact ⟨_,rfl,xU HF,HB.out⟩
theorem copyNames_any (v:Value) (ss:List ByteArray) (w:World) {P:Nat→Prop} (hP:∀ b,P b→b < w.heap.size) (hv:StrsAt P w v ss) (hl:ss.length≤1048576) (hsz:∀ x,x∈ss→x.size≤1099511627776) :
 Calls Try.prog 47 #[v] w fun e w'=>∃ v' F,e=.returned v'∧StrsOwn w' v' ss F∧F.Nodup∧(∀ b,b∈F→w.heap.size≤b∧b < w'.heap.size)∧Below w.heap.size w w' :=
 (copyNames_row v ss w hP hv hl hsz).mono fun e w' ⟨v',h1,h2,h3⟩=>by
   obtain ⟨F,hF,hnd,hlt',-⟩:=strsOwn_of_row h2 (fun x hx=>by have:=hsz x hx;omega)
   exact ⟨v',F,h1,hF,hnd,hlt',h3⟩
end Go.Proofs.Yteikmbkljkkjiaa

namespace Go.Proofs.Yteikmbkljkkjiaa
open Go Go.RowKit Go.WideMaps Go.Maps
theorem after_len:∀ (ms:List Dm) (ns:List ByteArray),(afterD ns ms).length≤ns.length+ms.length
 | [],ns=>by simp [afterD]
 | m::r,ns=>by
   have h1:afterD ns (m::r)=afterD (stepD ns m) r:=rfl
   have h2:=after_len r (stepD ns m)
   have h3:(stepD ns m).length≤ns.length+1:=by
    unfold stepD
    cases m.gone with
    | true=>have:=without_len ns m.name;simp only [if_true];omega
    | false=>simp
   rw [h1,List.length_cons];omega
theorem namesD_small {d:Dk}:(namesD d).length≤1000∧∀ x,x∈namesD d→x.size≤8:=by
 by_cases h:DkOkS d
 · refine ⟨?_,fun x hx=>?_⟩
   · rw [namesD_ok h]
     have h2:=after_len d.moves d.names
     have:=h.l2;have:=h.l3;omega
   · obtain ⟨i,hi,-,e,-⟩:=names_file hx
     have hn:=(h.file i hi (by rw [h.len];exact hi)).name
     rw [e] at hn
     refine Classical.byContradiction fun hno=>?_
     rw [nameOk_len (Or.inr (by omega))] at hn
     cases hn
 · rw [namesD_no h];exact ⟨by simp,fun x hx=>by cases hx⟩
theorem implDiskNames_any (d:Dk) (P:Nat→Prop) (c:C3) (w:World) (hP:∀ b,P b→b < w.heap.size) (hd:DkAt P w d c) :
 Calls Try.prog 19 #[.agg #[c.c0,c.c1,c.c2]] w fun e w'=>∃ v F,e=.returned v∧StrsOwn w' v (namesD d) F∧F.Nodup∧(∀ b,b∈F→w.heap.size≤b∧b < w'.heap.size)∧Below w.heap.size w w':=by
 obtain ⟨c0,c1,c2⟩:=c
 have HD:=xH hd;have HP:=xH hP
 have hbx:∀ o,Below w.heap.size w (w.alloc o):=fun o=>(Below.refl _ _).alloc (Nat.le_refl _) o
 have HV:=xH (fun o=>viewsOf_any d P ⟨c0,c1,c2⟩ (w.alloc o) (fun b hb=>Nat.lt_of_lt_of_le (hP b hb) (hbx o).size) (hd.carry (fun b hb=>(hbx o).block b (hP b hb)) (fun _ h=>h)))
 have HBX:=xH hbx
 clear hd hP hbx
 go_enter Try.func19,Try.ntmps19
 go_wp2_with fail
 refine (xU HV _).mono ?_
 rintro e w1 ⟨r,q0,q1,x2,n2,m2,q3,x4,n4,m4,rfl,hr,hb1,hvw⟩
 have HB1:=xH ((xU HBX _).trans (hb1.mono (xU HBX _).size))
 clear hb1 HV
 cases r with
 | false =>
   have HNO:=xH (show namesD d=[] from namesD_no (fun h=>by have:=hr.2 ((dkOk_iff d).1 h);cases this))
   clear hr hvw
   go_wp2_with fail
   go_ret
   refine ⟨_,[],rfl,?_,List.nodup_nil,fun b hb=>(by cases hb),(xU HB1).alloc (xU HB1).size _⟩
   rw [xU HNO]
   exact ⟨none,0,rfl,by simp,Or.inl ⟨rfl,rfl⟩⟩
 | true =>
   obtain ⟨T,B,vm,hvw⟩:=hvw rfl
   have hok:=(dkOk_iff d).2 (hr.1 rfl)
   clear hr
   have hval:=hvw.val
   simp only [Value.agg.injEq,Array.mk.injEq,List.cons.injEq,Value.pointer.injEq,and_true] at hval
   obtain ⟨rfl,rfl,hx2,rfl,rfl⟩:=hval
   obtain ⟨hnd,heq,hmf⟩:=dk_nodup hok
   have hbv:∀ o,Below w1.heap.size w1 (w1.alloc o):=fun o=>(Below.refl _ _).alloc (Nat.le_refl _) o
   have hnm:∀ (W:World),Below w1.heap.size w1 W→StrsAt (fun b=>b < W.heap.size) W (.slice x2 n2 m2) d.names:=fun W hW=>by
    have:=(xU HD).ns.carry (w':=W) (Q:=fun b=>b < W.heap.size) (fun b hb=>(hW.block b (Nat.lt_of_lt_of_le (xU HP b hb) (xU HB1).size)).trans ((xU HB1).block b (xU HP b hb))) (fun b hb=>Nat.lt_of_lt_of_le (xU HP b hb) (Nat.le_trans (xU HB1).size hW.size))
    rw [← hx2] at this;exact this
   have HTH:=xH (fun o=>there_any d.names d.moves (some ⟨T,0,none⟩) (some ⟨T,0,none⟩) x2 n2 m2 (some ⟨T,0,none⟩) x4 n4 m4 (fun b=>b < (w1.alloc o).heap.size) (w1.alloc o) (fun _ h=>h) (hnm _ (hbv o)) ((hvw.carry (hbv o)).fns.carry (fun _ _=>rfl) (fun b hb=>hb.2)) (by have:=hok.l2;omega) (by have:=hok.l3;omega) (afterD d.names d.moves) hmf)
   rw [← namesD_ok hok] at HTH
   have HBV:=xH hbv
   clear hvw hnm hbv hnd heq hmf hok hx2
   go_wp2_with fail
   refine (xU HTH _).mono ?_
   rintro e w2 ⟨v2,rfl,hn2⟩
   have hs:=@namesD_small d
   have HCP:=xH (copyNames_any v2 (namesD d) w2 (P:=New (w1.alloc (.cells #[.pointer (some ⟨T,0,none⟩),.pointer (some ⟨T,0,none⟩),.slice x2 n2 m2,.pointer (some ⟨T,0,none⟩),.slice x4 n4 m4] 71)) w2) (fun b hb=>hb.2) hn2.strs (by omega) (fun x hx=>by have:=hs.2 x hx;omega))
   have HB2:=xH (((xU HB1).trans ((xU HBV _).mono (xU HB1).size)).trans (hn2.below.mono (Nat.le_trans (xU HB1).size (xU HBV _).size)))
   clear hn2 hs
   go_wp2_with fail
   refine (xU HCP).mono ?_
   rintro e w3 ⟨v3,F,rfl,ho,hnd,hF,hb3⟩
   have HO:=xH ho;have HB3:=xH ((xU HB2).trans (hb3.mono (xU HB2).size));have HF:=xH (fun b hb=>show w.heap.size≤b∧b < w3.heap.size from ⟨Nat.le_trans (xU HB2).size (hF b hb).1,(hF b hb).2⟩)
   clear ho hb3 hF
   go_wp2_with fail
   go_ret
   exact ⟨v3,F,rfl,xU HO,hnd,xU HF,xU HB3⟩
end Go.Proofs.Yteikmbkljkkjiaa

namespace Go.Proofs.Yteikmbkljkkjiaa
open Go Go.RowKit
def ZsAt (P:Nat→Prop) (w:World) (v:Value) (zs:List Int):Prop :=
 ∃ a cap,v=.slice a zs.length cap∧zs.length≤9223372036854775807∧∀ i,(h:i < zs.length)→∃ b o,a=some ⟨b,o,none⟩∧P b∧w.cell? ⟨b,o+i,none⟩=some (.int .i64 zs[i])∧I64 zs[i]
theorem ZsAt.carry {P Q:Nat→Prop} {w w':World} {v:Value} {zs:List Int} (h:ZsAt P w v zs) (hP:∀ b,P b→w'.heap[b]? = w.heap[b]?) (hQ:∀ b,P b→Q b):ZsAt Q w' v zs:=by
 obtain ⟨a,cap,h1,h2,h3⟩:=h
 refine ⟨a,cap,h1,h2,fun i hi=>?_⟩
 obtain ⟨b,o,e,hb,hc,hz⟩:=h3 i hi
 exact ⟨b,o,e,hQ b hb,by rw [World.cell?_of_block (w:=w) (hP b hb)];exact hc,hz⟩
end Go.Proofs.Yteikmbkljkkjiaa

namespace Go.Proofs.Yteikmbkljkkjiaa
open Go Go.RowKit Go.WideMaps Go.Maps
theorem numberAt_any (zs:List Int) (v:Value) (i:Nat) (w:World) {P:Nat→Prop} (hv:ZsAt P w v zs) :
 Calls Try.prog 46 #[v,.int .i64 (i:Int)] w fun e w'=>e=.returned (.int .i64 (zs.getD i 0))∧w'=w:=by
 obtain ⟨a,cap,rfl,hlen,hc⟩:=hv
 by_cases hlt:i < zs.length
 · obtain ⟨b,o,rfl,-,hcell,-⟩:=hc i hlt
   have h1:decide ((zs.length:Int)≤(i:Int))=false:=by simp;omega
   have hii:(i:Int) < (zs.length:Int):=by omega
   have HG:=xH (show zs.getD i 0=zs[i] by simp [List.getD,hlt])
   clear hc
   generalize zs[i]=z at *
   go_enter Try.func46,Try.ntmps46
   go_wp2_with fail
   go_ret
   exact ⟨by rw [xU HG];rfl,rfl⟩
 · have h1:decide ((zs.length:Int)≤(i:Int))=true:=by simp;omega
   have HG:=xH (show zs.getD i 0=0 by simp [List.getD,hlt])
   clear hc
   go_enter Try.func46,Try.ntmps46
   go_wp2_with fail
   go_ret
   exact ⟨by rw [xU HG];rfl,rfl⟩
def moreN (f:Df) (n:Int):Nat:=(max 0 (min n ((f.data.size:Int) - f.kept))).toNat
def cutB (f:Df) (n:Int):ByteArray:=f.data.extract 0 f.kept.toNat++(f.data.extract f.kept.toNat f.data.size).extract 0 (moreN f n)
def cutF (f:Df) (n:Int):Df:=⟨f.name,cutB f n,(cutB f n).size⟩
theorem sureData_any (fs:List Df) (a0:Option Addr) (n0 p0:Nat) (T B:Nat) (x2:Option Addr) (n2 m2:Nat) (P:Nat→Prop) (w:World) (hP:∀ b,P b→b < w.heap.size) (hv:FsAt P w (.slice a0 n0 p0) fs) (hrow:w.rowIs T 84 2 (rowO (.slice a0 n0 p0) (.map (some B)))) (i:Nat) (hi:i < fs.length) (hk:0≤fs[i].kept∧fs[i].kept≤fs[i].data.size) :
 Calls Try.prog 44 #[.agg #[.pointer (some ⟨T,0,none⟩),.slice x2 n2 m2],.int .i64 (i:Int)] w fun e w'=>e=.returned (.string (fs[i].data.extract 0 fs[i].kept.toNat))∧Below w.heap.size w w':=by
 obtain ⟨a,cap,e0,hlen,hc⟩:=hv.open
 simp only [Value.slice.injEq] at e0
 obtain ⟨rfl,rfl,rfl⟩:=e0
 obtain ⟨b,o,rfl,hpb,⟨c0,c1,c2⟩,hok⟩:=hc i hi
 simp only at c0 c1 c2
 have hbx:∀ o o',Below w.heap.size w ((w.alloc o).alloc o'):=fun o o'=>((Below.refl _ _).alloc (Nat.le_refl _) o).alloc (by simp) o'
 have hbb:=hP b hpb
 have t0:=hrow.cell (i:=0) (by omega)
 simp only [rowO] at t0
 have hTl:=hrow.lt
 have T0:∀ o',(w.alloc o').cell? ⟨T,0,none⟩=some (.slice (some ⟨b,o,none⟩) fs.length p0):=fun o'=>by rw [World.cell?_of_block (w:=w) (Below.heap_alloc _ _ _ hTl)];exact t0
 have C0:∀ o',(w.alloc o').cell? ⟨b,o+i * 3,none⟩=some (.string fs[i].name):=fun o'=>by rw [World.cell?_of_block (w:=w) (Below.heap_alloc _ _ _ hbb)];exact c0
 have C1:∀ o',(w.alloc o').cell? ⟨b,o+i * 3+1,none⟩=some (.string fs[i].data):=fun o'=>by rw [World.cell?_of_block (w:=w) (Below.heap_alloc _ _ _ hbb)];exact c1
 have C2:∀ o',(w.alloc o').cell? ⟨b,o+i * 3+2,none⟩=some (.int .i64 fs[i].kept):=fun o'=>by rw [World.cell?_of_block (w:=w) (Below.heap_alloc _ _ _ hbb)];exact c2
 have hii:(i:Int) < (fs.length:Int):=by omega
 have HBX:=xH hbx
 clear hv hc hpb c0 c1 c2 t0 hrow hbx hP hok
 generalize fs[i]=f at *
 obtain ⟨fn,fd,fk⟩:=f
 simp only at *
 obtain ⟨hk0,hk1⟩:=hk
 obtain ⟨kk,rfl⟩:∃ kk:Nat,fk=kk:=⟨fk.toNat,by omega⟩
 go_enter Try.func44,Try.ntmps44
 go_wp2_with fail
 go_ret
 exact ⟨by simp,xU HBX _ _⟩
theorem openData_any (fs:List Df) (a0:Option Addr) (n0 p0:Nat) (T B:Nat) (x2:Option Addr) (n2 m2:Nat) (P:Nat→Prop) (w:World) (hP:∀ b,P b→b < w.heap.size) (hv:FsAt P w (.slice a0 n0 p0) fs) (hrow:w.rowIs T 84 2 (rowO (.slice a0 n0 p0) (.map (some B)))) (i:Nat) (hi:i < fs.length) (hk:0≤fs[i].kept∧fs[i].kept≤fs[i].data.size) (hds:fs[i].data.size≤20000) (n:Int) :
 Calls Try.prog 45 #[.agg #[.pointer (some ⟨T,0,none⟩),.slice x2 n2 m2],.int .i64 (i:Int),.int .i64 n] w fun e w'=>e=.returned (.string ((fs[i].data.extract fs[i].kept.toNat fs[i].data.size).extract 0 (moreN fs[i] n)))∧Below w.heap.size w w':=by
 obtain ⟨a,cap,e0,hlen,hc⟩:=hv.open
 simp only [Value.slice.injEq] at e0
 obtain ⟨rfl,rfl,rfl⟩:=e0
 obtain ⟨b,o,rfl,hpb,⟨c0,c1,c2⟩,hok⟩:=hc i hi
 simp only at c0 c1 c2
 have hbx:∀ o o',Below w.heap.size w ((w.alloc o).alloc o'):=fun o o'=>((Below.refl _ _).alloc (Nat.le_refl _) o).alloc (by simp) o'
 have hbb:=hP b hpb
 have t0:=hrow.cell (i:=0) (by omega)
 simp only [rowO] at t0
 have hTl:=hrow.lt
 have T0:∀ o',(w.alloc o').cell? ⟨T,0,none⟩=some (.slice (some ⟨b,o,none⟩) fs.length p0):=fun o'=>by rw [World.cell?_of_block (w:=w) (Below.heap_alloc _ _ _ hTl)];exact t0
 have C0:∀ o',(w.alloc o').cell? ⟨b,o+i * 3,none⟩=some (.string fs[i].name):=fun o'=>by rw [World.cell?_of_block (w:=w) (Below.heap_alloc _ _ _ hbb)];exact c0
 have C1:∀ o',(w.alloc o').cell? ⟨b,o+i * 3+1,none⟩=some (.string fs[i].data):=fun o'=>by rw [World.cell?_of_block (w:=w) (Below.heap_alloc _ _ _ hbb)];exact c1
 have C2:∀ o',(w.alloc o').cell? ⟨b,o+i * 3+2,none⟩=some (.int .i64 fs[i].kept):=fun o'=>by rw [World.cell?_of_block (w:=w) (Below.heap_alloc _ _ _ hbb)];exact c2
 have hii:(i:Int) < (fs.length:Int):=by omega
 have HBX:=xH hbx
 clear hv hc hpb c0 c1 c2 t0 hrow hbx hP hok
 generalize fs[i]=f at *
 obtain ⟨fn,fd,fk⟩:=f
 simp only at *
 obtain ⟨hk0,hk1⟩:=hk
 obtain ⟨kk,rfl⟩:∃ kk:Nat,fk=kk:=⟨fk.toNat,by omega⟩
 have hes:(fd.extract kk fd.size).size=fd.size - kk:=by rw [ByteArray.size_extract];omega
 obtain ⟨q,hq⟩:∃ q:Nat,max 0 (min n (((fd.size - kk:Nat):Int)))=q:=⟨(max 0 (min n (((fd.size - kk:Nat):Int)))).toNat,by omega⟩
 have hq1:q≤fd.size - kk:=by omega
 have HQ:=xH (show moreN ⟨fn,fd,kk⟩ n=q by unfold moreN;simp only;omega)
 generalize moreN ⟨fn,fd,kk⟩ n=mq at *
 go_enter Try.func45,Try.ntmps45
 go_wp2_with fail
 go_ret
 exact ⟨by rw [xU HQ];simp,xU HBX _ _⟩
end Go.Proofs.Yteikmbkljkkjiaa

namespace Go.Proofs.Yteikmbkljkkjiaa
open Go Go.RowKit
def FlatOwn (w:World) (v:Value) (n:Nat) (rs:List (List Value)) (F:List Nat):Prop :=
 ∃ a cap,v=.slice a rs.length cap∧rs.length≤9223372036854775807∧((rs=[]∧F=[])∨∃ b,a=some ⟨b,0,none⟩∧F=[b]∧FreeB w b∧∀ i,(h:i < rs.length)→∀ j,j < n→w.cell? ⟨b,i * n+j,none⟩=some (rs[i].getD j undef))
theorem FlatOwn.carry {w w':World} {v:Value} {n:Nat} {rs:List (List Value)} {F:List Nat} (h:FlatOwn w v n rs F) (hF:∀ b,b∈F→w'.heap[b]? = w.heap[b]?):FlatOwn w' v n rs F:=by
 obtain ⟨a,cap,h1,h2,h3⟩:=h
 refine ⟨a,cap,h1,h2,?_⟩
 rcases h3 with h | ⟨b,e,rfl,hf,hc⟩
 · exact Or.inl h
 · have hb:=hF b (by simp)
   exact Or.inr ⟨b,e,rfl,hf.of_block hb,fun i hi j hj=>by rw [World.cell?_of_block (w:=w) hb];exact hc i hi j hj⟩
theorem FlatOwn.at {w:World} {v:Value} {n:Nat} {rs:List (List Value)} {F:List Nat} (h:FlatOwn w v n rs F):FlatAt (·∈F) w v n rs:=by
 obtain ⟨a,cap,h1,h2,h3⟩:=h
 refine ⟨a,cap,h1,h2,fun i hi=>?_⟩
 rcases h3 with ⟨rfl,-⟩ | ⟨b,e,rfl,hf,hc⟩
 · simp at hi
 · exact ⟨b,0,e,by simp,fun j hj=>by rw [Nat.zero_add];exact hc i hi j hj⟩
theorem FlatOwn.nil (w:World) (n:Nat):FlatOwn w (.slice none 0 0) n [] []:=⟨none,0,rfl,by simp,Or.inl ⟨rfl,rfl⟩⟩
theorem flat_get {n:Nat}:∀ (rs:List (List Value)),(∀ r,r∈rs→r.length=n)→∀ (i:Nat) (hi:i < rs.length) (j:Nat),j < n→rs.flatten[i * n+j]? = some (rs[i].getD j undef)
 | r::rest,hn,0,_,j,hj=>by
   have hr:r.length=n:=hn r List.mem_cons_self
   rw [List.flatten_cons,Nat.zero_mul,Nat.zero_add,List.getElem?_append_left (by omega),List.getElem?_eq_getElem (by omega)]
   simp [hr,hj]
 | r::rest,hn,i+1,hi,j,hj=>by
   have hr:r.length=n:=hn r List.mem_cons_self
   rw [List.flatten_cons,List.getElem?_append_right (by rw [hr,Nat.add_mul];omega),hr,show (i+1) * n+j - n=i * n+j by rw [Nat.add_mul];omega,flat_get rest (fun x hx=>hn x (List.mem_cons_of_mem _ hx)) i (by simpa using hi) j hj]
   rfl
theorem flat_len {n:Nat}:∀ (rs:List (List Value)),(∀ r,r∈rs→r.length=n)→rs.flatten.length=rs.length * n
 | [],_=>by simp
 | r::rest,hn=>by
   rw [List.flatten_cons,List.length_append,flat_len rest (fun x hx=>hn x (List.mem_cons_of_mem _ hx)),hn r List.mem_cons_self,List.length_cons,Nat.add_mul];omega
theorem FlatOwn.of_row {base:Nat} {w:World} {v:Value} {e:TypeId} {n:Nat} {rs:List (List Value)} (h:w.ownsRow base e n v rs.length rs.flatten) (hn:∀ r,r∈rs→r.length=n) :
 ∃ F,FlatOwn w v n rs F∧(∀ b,b∈F→v.ownBlock=some b)∧(∀ b,b∈F→base≤b∧b < w.heap.size)∧F.Nodup:=by
 rcases h.2 with ⟨hv,h0⟩ | ⟨g,cap,cur,hv,hb,hh,hle,hm,hsz,htk⟩
 · have:rs=[]:=List.eq_nil_of_length_eq_zero h0
   subst this
   exact ⟨[],⟨none,0,hv,by simp,Or.inl ⟨rfl,rfl⟩⟩,fun b hb=>(by cases hb),fun b hb=>(by cases hb),List.nodup_nil⟩
 · refine ⟨[g],⟨some ⟨g,0,none⟩,cap,hv,by unfold maxLen at hm;omega,Or.inr ⟨g,rfl,rfl,freeOfHeap hh,fun i hi j hj=>?_⟩⟩,fun b hb=>?_,fun b hb=>?_,by simp⟩
   · have h1:=flat_get rs hn i hi j hj
     have hlt:i * n+j < rs.length * n:=by
      have:(i+1) * n≤rs.length * n:=Nat.mul_le_mul_right n hi
      rw [Nat.add_mul] at this;omega
     rw [← htk,List.getElem?_take_of_lt hlt] at h1
     simp only [World.cell?, hh]
     simpa using h1
   · simp at hb;subst hb;rw [hv];rfl
   · simp at hb;subst hb
     exact ⟨by assumption,(Array.getElem?_eq_some_iff.1 hh).1⟩
def FsOwn (w:World) (v:Value) (fs:List Df) (F:List Nat):Prop:=FlatOwn w v 3 (fs.map Df.cs) F∧∀ f,f∈fs→f.okM
def MsOwn (w:World) (v:Value) (ms:List Dm) (F:List Nat):Prop:=FlatOwn w v 2 (ms.map Dm.cs) F∧∀ m,m∈ms→m.okM
structure DkOwn (w:World) (d:Dk) (c:C3) (F0 F1 F2:List Nat):Prop where
 fs:FsOwn w c.c0 d.files F0
 ns:StrsOwn w c.c1 d.names F1
 ms:MsOwn w c.c2 d.moves F2
theorem DkOwn.carry {w w':World} {d:Dk} {c:C3} {F0 F1 F2:List Nat} (h:DkOwn w d c F0 F1 F2) (hF:∀ b,b∈F0++F1++F2→w'.heap[b]? = w.heap[b]?):DkOwn w' d c F0 F1 F2 :=
 ⟨⟨h.fs.1.carry (fun b hb=>hF b (by simp [hb])),h.fs.2⟩,h.ns.carry (fun b hb=>hF b (by simp [hb])),⟨h.ms.1.carry (fun b hb=>hF b (by simp [hb])),h.ms.2⟩⟩
theorem DkOwn.at {w:World} {d:Dk} {c:C3} {F0 F1 F2:List Nat} (h:DkOwn w d c F0 F1 F2):DkAt (·∈F0++F1++F2) w d c :=
 ⟨⟨h.fs.1.at.carry (fun _ _=>rfl) (fun b hb=>by simp [hb]),h.fs.2⟩,h.ns.at.carry (fun _ _=>rfl) (fun b hb=>by simp [hb]),⟨h.ms.1.at.carry (fun _ _=>rfl) (fun b hb=>by simp [hb]),h.ms.2⟩⟩
theorem DkOwn.none (w:World):DkOwn w ⟨[],[],[]⟩ ⟨.slice none 0 0,.slice none 0 0,.slice none 0 0⟩ [] [] [] :=
 ⟨⟨FlatOwn.nil w 3,fun f hf=>(by cases hf)⟩,⟨Option.none,0,rfl,by simp,Or.inl ⟨rfl,rfl⟩⟩,⟨FlatOwn.nil w 2,fun f hf=>(by cases hf)⟩⟩
end Go.Proofs.Yteikmbkljkkjiaa

namespace Go.Proofs.Yteikmbkljkkjiaa
open Go Go.RowKit Go.WideMaps Go.Maps
theorem ownsRow_keep {w w':World} {base:Nat} {e:TypeId} {size:Nat} {v:Value} {n:Nat} {xs:List Value} (h:w.ownsRow base e size v n xs) (hk:∀ g,v.ownBlock=some g→w'.heap[g]? = w.heap[g]?):w'.ownsRow base e size v n xs:=by
 refine ⟨h.1,?_⟩
 rcases h.2 with h0 | ⟨g,cap,cur,hv,hb,hh,hr⟩
 · exact Or.inl h0
 · exact Or.inr ⟨g,cap,cur,hv,hb,by rw [hk g (by rw [hv];rfl)];exact hh,hr⟩
structure CtSt (base L:Nat) (W:World) (vf vn:Value) (fs:List Df) (ns:List ByteArray):Prop where
 lt:L < base
 row:W.rowIs L 27 3 (row3 vf vn (.slice none 0 0))
 of:W.ownsRow base 44 3 vf fs.length (fs.map Df.cs).flatten
 on:W.ownsRow base 9 1 vn ns.length (ns.map Value.string)
theorem CtSt.keep {base L:Nat} {W W':World} {vf vn:Value} {fs:List Df} {ns:List ByteArray} (h:CtSt base L W vf vn fs ns) (hb:Below W.heap.size W W'):CtSt base L W' vf vn fs ns :=
 ⟨h.lt,h.row.of_block (hb.block L h.row.lt),ownsRow_keep h.of (fun g e=>hb.block g (h.of.lt g e).2),ownsRow_keep h.on (fun g e=>hb.block g (h.on.lt g e).2)⟩
theorem CtSt.ne {base L:Nat} {W:World} {vf vn:Value} {fs:List Df} {ns:List ByteArray} (h:CtSt base L W vf vn fs ns) (g:Nat) (h1:vf.ownBlock=some g) (h2:vn.ownBlock=some g):False:=by
 rcases h.of.2 with ⟨hv,_⟩ | ⟨g1,c1,u1,hv1,_,hh1,_⟩
 · rw [hv] at h1;cases h1
 rcases h.on.2 with ⟨hv,_⟩ | ⟨g2,c2,u2,hv2,_,hh2,_⟩
 · rw [hv] at h2;cases h2
 rw [hv1] at h1;rw [hv2] at h2
 simp only [Value.ownBlock,Option.some.injEq] at h1 h2
 subst h1;subst h2
 rw [hh1] at hh2
 simp only [Option.some.injEq,Obj.cells.injEq] at hh2
 exact absurd hh2.2.1 (by decide)
theorem crow_set {W:World} {g t:Nat} {x0 x1 x2:Value} (h:W.rowIs g t 3 (row3 x0 x1 x2)) (u:Value):(W.setCell ⟨g,0,none⟩ u).rowIs g t 3 (row3 u x1 x2)∧(W.setCell ⟨g,1,none⟩ u).rowIs g t 3 (row3 x0 u x2):=by
 refine ⟨(h.set 0 u).congr (fun i hi=>?_),(h.set 1 u).congr (fun i hi=>?_)⟩
 · rcases (show i=0∨i=1∨i=2 by omega) with rfl | rfl | rfl <;> rfl
 · rcases (show i=0∨i=1∨i=2 by omega) with rfl | rfl | rfl <;> rfl
theorem CtSt.addN {base L:Nat} {W W':World} {vf vn vn':Value} {fs:List Df} {ns:List ByteArray} (h:CtSt base L W vf vn fs ns) (x:ByteArray) (hown:W'.ownsRow base 9 1 vn' (ns.length+1) (ns.map Value.string++[.string x])) (hg:W.grownBy W' vn.ownBlock):CtSt base L (W'.setCell ⟨L,1,none⟩ vn') vf vn' fs (ns++[x]):=by
 have hL:W'.rowIs L 27 3 (row3 vf vn (.slice none 0 0)):=h.row.of_block (hg.block L h.row.lt (fun e=>by have:=(h.on.lt L e.symm).1;have:=h.lt;omega))
 refine ⟨h.lt,(crow_set hL vn').2,?_,?_⟩
 · exact ownsRow_setCell_below (ownsRow_keep h.of (fun g e=>hg.block g (h.of.lt g e).2 (fun e2=>h.ne g e e2.symm))) h.lt _
 · refine ownsRow_setCell_below ?_ h.lt _
   rw [List.length_append,List.map_append]
   exact hown
theorem CtSt.addF {base L:Nat} {W W':World} {vf vn vf':Value} {fs:List Df} {ns:List ByteArray} (h:CtSt base L W vf vn fs ns) (f:Df) (hown:W'.ownsRow base 44 3 vf' (fs.length+1) ((fs.map Df.cs).flatten++f.cs)) (hg:W.grownBy W' vf.ownBlock):CtSt base L (W'.setCell ⟨L,0,none⟩ vf') vf' vn (fs++[f]) ns:=by
 have hL:W'.rowIs L 27 3 (row3 vf vn (.slice none 0 0)):=h.row.of_block (hg.block L h.row.lt (fun e=>by have:=(h.of.lt L e.symm).1;have:=h.lt;omega))
 refine ⟨h.lt,(crow_set hL vf').1,?_,?_⟩
 · refine ownsRow_setCell_below ?_ h.lt _
   rw [List.length_append,List.map_append,List.flatten_append]
   simpa using hown
 · exact ownsRow_setCell_below (ownsRow_keep h.on (fun g e=>hg.block g (h.on.lt g e).2 (fun e2=>h.ne g e2.symm e))) h.lt _
def cutN (d:Dk) (m:Int):List ByteArray:=afterD d.names (d.moves.take (clampQ m d.moves.length))
def cutX (d:Dk) (zs:List Int) (x:ByteArray):Df:=cutF (fileD d x) (zs.getD (findF d.files x).toNat 0)
noncomputable def cutD (d:Dk) (m:Int) (zs:List Int):Dk:=open Classical in if DkOkS d then ⟨(cutN d m).map (cutX d zs),cutN d m,[]⟩ else ⟨[],[],[]⟩
theorem cutD_ok {d:Dk} {m:Int} {zs:List Int} (h:DkOkS d):cutD d m zs=⟨(cutN d m).map (cutX d zs),cutN d m,[]⟩:=if_pos h
theorem cutD_no {d:Dk} {m:Int} {zs:List Int} (h:¬ DkOkS d):cutD d m zs=⟨[],[],[]⟩:=if_neg h
theorem cutN_facts {d:Dk} (h:DkOkS d) (m:Int):mfold d.names (d.moves.take (clampQ m d.moves.length))=some (cutN d m)∧(cutN d m).length≤1000∧∀ x,x∈cutN d m→∃ i,∃ hi:i < d.files.length,d.files[i].name=x∧findF d.files x=i:=by
 obtain ⟨hnd,heq,-⟩:=dk_nodup h
 have hq:=clampQ_le m d.moves.length
 refine ⟨mfold_after hnd (fun i hi hg=>hasB_iff.1 (h.move i hi hg)) _ hq,?_,fun x hx=>?_⟩
 · have h2:=after_len (d.moves.take (clampQ m d.moves.length)) d.names
   rw [List.length_take] at h2
   unfold cutN
   have:=h.l2;have:=h.l3;omega
 · have hm:=(after_nodup hnd _ hq).2 x hx
   have hm2:=(made_sub d.names d.moves (clampQ m d.moves.length)).subset hm
   rw [← heq] at hm2
   obtain ⟨i,hi,e⟩:=List.getElem_of_mem hm2
   rw [List.length_map] at hi
   rw [List.getElem_map] at e
   refine ⟨i,hi,e,?_⟩
   have:=(h.file i hi (by rw [h.len];exact hi)).find
   rw [← e];exact this
theorem infoFileM:(Try.prog.info? 44).map (fun i=>(i.zero,i.size,i.bytes))=some (some (.agg #[.string ByteArray.empty,.string ByteArray.empty,.int .i64 0]),3,40):=by kernel_rfl
theorem infoFileD:∃ i,Try.prog.info? 44=some i∧i.zero=some (.agg #[.string ByteArray.empty,.string ByteArray.empty,.int .i64 0])∧i.size=3∧i.bytes=40:=by
 have:=infoFileM
 cases h:Try.prog.info? 44 with
 | none=>rw [h] at this;simp at this
 | some i=>rw [h] at this;exact ⟨i,rfl,by simpa using this⟩
theorem cell_3 (w:World) (x y z:Value) (t:TypeId):∀ j u,[x,y,z][j]? = some u→(w.alloc (.cells #[x,y,z] t)).cell? ((⟨w.heap.size,0,none⟩:Addr).add j)=some u:=by
 intro j u hj
 match j with
 | 0=>simp only [List.getElem?_cons_zero,Option.some.injEq] at hj;subst hj;rw [Addr.add_lit];simp [go_sem]
 | 1=>simp only [List.getElem?_cons_succ,List.getElem?_cons_zero,Option.some.injEq] at hj;subst hj;rw [Addr.add_lit];simp [go_sem]
 | 2=>simp only [List.getElem?_cons_succ,List.getElem?_cons_zero,Option.some.injEq] at hj;subst hj;rw [Addr.add_lit];simp [go_sem]
 | j+3=>simp at hj
theorem cutB_size (f:Df) (n:Int) (hd:f.data.size≤20000):(cutB f n).size≤40000:=by
 unfold cutB
 rw [ByteArray.size_append,ByteArray.size_extract,ByteArray.size_extract,ByteArray.size_extract];omega
end Go.Proofs.Yteikmbkljkkjiaa

namespace Go.Proofs.Yteikmbkljkkjiaa
open Go Go.RowKit
theorem infoMoveM:(Try.prog.info? 60).map (fun i=>(i.zero,i.size,i.bytes))=some (some (.agg #[.bool false,.string ByteArray.empty]),2,24):=by kernel_rfl
theorem infoMoveD:∃ i,Try.prog.info? 60=some i∧i.zero=some (.agg #[.bool false,.string ByteArray.empty])∧i.size=2∧i.bytes=24:=by
 have:=infoMoveM
 cases h:Try.prog.info? 60 with
 | none=>rw [h] at this;simp at this
 | some i=>rw [h] at this;exact ⟨i,rfl,by simpa using this⟩
theorem flat_src {P:Nat→Prop} {W:World} {a:Option Addr} {m cap n:Nat} {rs:List (List Value)} (h:FlatAt P W (.slice a m cap) n rs) (hn:∀ r,r∈rs→r.length=n):0 < m→∃ ad,a=some ad∧∀ j u,rs.flatten[j]? = some u→W.cell? (ad.add j)=some u:=by
 obtain ⟨a',cap',e,-,hc⟩:=h
 simp only [Value.slice.injEq] at e
 obtain ⟨rfl,hm,-⟩:=e
 intro h0
 obtain ⟨b,o,rfl,-,-⟩:=hc 0 (by omega)
 refine ⟨_,rfl,fun j u hj=>?_⟩
 have hjl:=(List.getElem?_eq_some_iff.1 hj).1
 rw [flat_len rs hn] at hjl
 rcases Nat.eq_zero_or_pos n with hn0 | hn0
 · subst hn0;omega
 have hi:j / n < rs.length:=(Nat.div_lt_iff_lt_mul hn0).2 hjl
 obtain ⟨b',o',e3,-,hcell⟩:=hc (j / n) hi
 simp only [Option.some.injEq,Addr.mk.injEq,and_true] at e3
 obtain ⟨rfl,rfl⟩:=e3
 have h1:=flat_get rs hn (j / n) hi (j % n) (Nat.mod_lt _ hn0)
 have hdm:j / n * n+j % n=j:=by rw [Nat.mul_comm];exact Nat.div_add_mod j n
 rw [hdm] at h1
 rw [h1] at hj
 rw [Addr.add_lit]
 have h2:=hcell (j % n) (Nat.mod_lt _ hn0)
 rw [Nat.add_assoc,hdm] at h2
 rw [h2];exact hj
theorem run_copyD {P:Program} (w:World) (t ty:TypeId) (base:Nat) (e:TypeId) (i:TypeInfo) (z:Value) (size bytes:Nat) (h1:P.underlying t=some (.slice e)) (h2:P.info? e=some i) (h3:i.zero=some z) (h4:i.size=size) (h5:i.bytes=bytes) (h6:z.cells.size=size) (h7:0 < size)
 (g0:Nat) (hown:w.ownsRow base e size (.slice (some ⟨g0,0,none⟩) 0 0) 0 [])
 (ax:Option Addr) (m c:Nat) (xs:List Value) (hn:xs.length=m * size) (hc:0 < m→∃ ad,ax=some ad∧∀ j u,xs[j]? = some u→w.cell? (ad.add j)=some u) (h1c:∀ u∈xs,u.oneCell'=true)
 (b1:m≤maxLen) (b2:m * bytes≤140737488355328) (hbase:base≤w.heap.size) :
 ∃ g cap w',(Builtin.append_ #[t,t] ty #[.slice (some ⟨g0,0,none⟩) 0 0,.slice ax m c]).run P w=.ok (.slice (some ⟨g,0,none⟩) m cap) w'∧w'.ownsRow base e size (.slice (some ⟨g,0,none⟩) m cap) m xs∧w.grownBy w' (some g0):=by
 rcases Nat.eq_zero_or_pos m with h0 | h0
 · subst h0
   have hxs:xs=[]:=List.eq_nil_of_length_eq_zero (by rw [hn];omega)
   subst hxs
   refine ⟨g0,0,w,?_,hown,World.grownBy.refl w _⟩
   cases ax with
   | none=>simp [Builtin.append_,run_underlying h1,sizeOf,typeInfo,h2,Builtin.lenOf,Builtin.firstCells,go_sem]
   | some ad=>simp [Builtin.append_,run_underlying h1,sizeOf,typeInfo,h2,Builtin.lenOf,Builtin.firstCells,go_sem]
 · obtain ⟨ad,rfl,hcc⟩:=hc h0
   obtain ⟨g,cap,w',hr,ho,hg,-,-⟩:=run_append_lies (P:=P) w t ty base e i z size bytes h1 h2 h3 h4 h5 h6 h7 (.slice (some ⟨g0,0,none⟩) 0 0) 0 [] hown ad m c xs hn hcc h1c h0 (by omega) (by rw [Nat.zero_add];exact b2) hbase w.heap.size rfl
   rw [Nat.zero_add,List.nil_append] at ho
   rw [Nat.zero_add] at hr
   exact ⟨g,cap,w',hr,ho,hg⟩
end Go.Proofs.Yteikmbkljkkjiaa

namespace Go.Proofs.Yteikmbkljkkjiaa
open Go Go.RowKit
theorem count_set {l:List Bool} {i:Nat} (h:l[i]? = some false):(l.set i true).count false+1=l.count false:=by
 induction l generalizing i with
 | nil=>simp at h
 | cons b r ih =>
   cases i with
   | zero =>
     simp at h
     subst h
     simp
   | succ i =>
     have:=ih (i:=i) (by simpa using h)
     cases b <;> simp <;> omega
theorem ready_false {md:Region.Mode} {ops:Array Oper} {l:Array Bool} {i:Nat} (h:i∈Region.ready md ops l):l.toList[i]? = some false:=by
 unfold Region.ready at h
 rw [List.mem_filter] at h
 have h2:=h.2
 simp only [Bool.and_eq_true,Bool.not_eq_true'] at h2
 have h3:=h2.1
 rw [Array.getD_eq_getD_getElem?] at h3
 cases e:l[i]? with
 | none=>rw [e] at h3;simp at h3
 | some b=>rw [e] at h3;simp at h3;subst h3;simpa using e
theorem wpAny_inv {P:Program} {md:Region.Mode} {ops:Array Oper} {Q:Exit→Act→World→Prop} (Inv:Array Bool→Act→World→Prop)
 (hend:∀ l a w,Inv l a w→Region.ready md ops l=[]→Q .normal a w)
 (hstep:∀ l a w i,Inv l a w→i∈Region.ready md ops l→wpOp P ops Q i (fun a' w'=>Inv (l.setIfInBounds i true) a' w') a w) :
 ∀ (fuel:Nat) (l:Array Bool) (a:Act) (w:World),Inv l a w→l.toList.count false≤fuel→wpAny P md ops Q fuel l a w
 | 0,l,a,w,h,hc=>by
   have hr:Region.ready md ops l=[]:=by
    cases e:Region.ready md ops l with
    | nil=>rfl
    | cons i r =>
      have h1:=ready_false (md:=md) (ops:=ops) (l:=l) (i:=i) (by rw [e];simp)
      have h2:=count_set h1
      omega
   exact ⟨hr,hend l a w h hr⟩
 | fuel+1,l,a,w,h,hc=>by
   refine ⟨fun hr=>hend l a w h hr,fun i hi=>?_⟩
   refine wpOp_mono (fun a' w' h'=>wpAny_inv Inv hend hstep fuel _ a' w' h' ?_) (hstep l a w i h hi)
   have h1:=count_set (ready_false hi)
   rw [Array.toList_setIfInBounds]
   omega
theorem wp_region_inv {P:Program} {ops:Array Oper} {Q:Exit→Act→World→Prop} {id:Nat} {a:Act} {w:World} (hm:P.follows .mixedOrders=true) (Inv:Array Bool→Act→World→Prop)
 (h0:Inv (Array.replicate ops.size false) a w.drew)
 (hend:∀ l a w,Inv l a w→Region.ready .any ops l=[]→Q .normal a w)
 (hstep:∀ l a w i,Inv l a w→i∈Region.ready .any ops l→wpOp P ops Q i (fun a' w'=>Inv (l.setIfInBounds i true) a' w') a w):(Code.region id ops true).wp P Q a w :=
 wp_region_any hm (wpAny_inv Inv hend hstep ops.size _ a _ h0 (by simp))
end Go.Proofs.Yteikmbkljkkjiaa
