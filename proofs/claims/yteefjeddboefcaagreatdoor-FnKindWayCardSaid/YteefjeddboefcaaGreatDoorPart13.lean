/- A part. -/
import Derived.Test.YteefjeddboefcaaGreatDoorPart12
namespace Go.Proofs.YteefjeddboefcaaGreatDoor
open Go Go.RowKit
set_option maxRecDepth 100000
set_option maxHeartbeats 6400000
theorem okD_sh {k:Kd} (h:okD k=true):((k.sort=1∨k.sort=2∨k.sort=3)∧k.kids.length=0∧k.names.length=0)∨((k.sort=4∨k.sort=6)∧k.kids.length=1∧k.names.length=0)∨(k.sort=5∧k.kids.length=k.names.length∧riseB k.names=true):=by
 rw [okD_eq,Bool.and_eq_true] at h
 have h:=h.1
 unfold shB at h
 split at h
 · exact Or.inl ⟨by assumption,of_decide_eq_true h⟩
 split at h
 · exact Or.inr (Or.inl ⟨by assumption,of_decide_eq_true h⟩)
 split at h
 · rw [Bool.and_eq_true] at h
   exact Or.inr (Or.inr ⟨by assumption,of_decide_eq_true h.1,h.2⟩)
 · cases h
theorem okD_kid {k:Kd} (h:okD k=true) (i:Nat) (hi:i < k.kids.length):okD k.kids[i]=true:=by
 rw [okD_eq,Bool.and_eq_true] at h
 exact okDs_get h.2 i hi
theorem okD_ne {k:Kd} (h:okD k=true):k.sort≠0:=by rcases okD_sh h with h | h | h <;> omega
theorem getD_kid {k:Kd} {i:Nat} (hi:i < k.kids.length):k.kids.getD i kd0=k.kids[i]:=by simp [List.getD_eq_getElem?_getD,List.getElem?_eq_getElem hi]
theorem kidZ_none {k:Kd} {nm:ByteArray} (h:nm∉k.names):kidZ k nm=kd0:=by
 unfold kidZ
 rw [kidN_none h]
 rfl
theorem kidZ_in {k:Kd} {nm:ByteArray} (h:okD k=true) (h5:k.sort=5) (hm:nm∈k.names):kidZ k nm∈k.kids:=by
 rcases okD_sh h with h' | h' | h'
 · omega
 · omega
 obtain ⟨i,hi,e⟩:=List.mem_iff_getElem.1 hm
 rw [kidZ_at (rise_pairs h'.2.2) h'.2.1 hi e]
 exact List.getElem_mem _
theorem okD_mem {k x:Kd} (h:okD k=true) (hx:x∈k.kids):okD x=true:=by
 obtain ⟨i,hi,rfl⟩:=List.mem_iff_getElem.1 hx
 exact okD_kid h i hi
theorem fit_names {n:Nat} {a b:Kd} (hoa:okD a=true) (hob:okD b=true) (ha:a.sort=5) (hb:b.sort=5) (hf:fitF (n+1) a b=true) (nm:ByteArray) (hm:nm∈uniN a.names b.names) :
 nm∈b.names∧((kidZ a nm).sort=0∧(kidZ b nm).sort=6∨((kidZ a nm).sort≠0∧nm∈a.names∧fitF n (kidZ a nm) (kidZ b nm)=true)):=by
 have sa:=okD_sh hoa
 have sb:=okD_sh hob
 obtain ⟨-,hla,hra⟩:a.sort=5∧a.kids.length=a.names.length∧riseB a.names=true:=by rcases sa with h | h | h;omega;omega;exact h
 obtain ⟨-,hlb,hrb⟩:b.sort=5∧b.kids.length=b.names.length∧riseB b.names=true:=by rcases sb with h | h | h;omega;omega;exact h
 rw [fit_union ha hb hla hlb (rise_nodup hra) (rise_nodup hrb) (fun k hk=>okD_ne (okD_mem hoa hk)) (fun k hk=>okD_ne (okD_mem hob hk)) _ (fun nm=>uniN_mem nm),List.all_eq_true] at hf
 have:=hf nm hm
 unfold pF at this
 have hbm:(kidZ b nm).sort≠0→nm∈b.names:=fun h=>Classical.byContradiction fun h'=>h (by rw [kidZ_none h'];rfl)
 split at this
 · next h0 =>
   have h6:=of_decide_eq_true this
   exact ⟨hbm (by omega),Or.inl ⟨h0,h6⟩⟩
 · next h0 =>
   split at this
   · cases this
   · next h1=>exact ⟨hbm h1,Or.inr ⟨h0,Classical.byContradiction fun h'=>h0 (by rw [kidZ_none h'];rfl),this⟩⟩
theorem ksz_pos (k:Kd):0 < ksz k:=by
 obtain ⟨s,ns,ks⟩:=k
 rw [ksz]
 omega
theorem wOk_of_fit:∀ (n:Nat) (a b:Kd),okD a=true→okD b=true→ksz b≤n→fitF n a b=true→wOk n a b
 | 0,_,b,_,_,h,_=>by have:=ksz_pos b;omega
 | n+1,a,b,hoa,hob,hn,hf=>by
   have sb:=okD_sh hob
   have sa:=okD_sh hoa
   refine ⟨okD_ne hob,fun h0=>⟨fun h1=>?_,fun h1=>?_,fun h1 nm hm=>?_⟩⟩
   · have hk:0 < b.kids.length:=by rcases sb with h | h | h <;> omega
     rw [fit_xm h1.1 h1.2 hk] at hf
     rw [getD_kid hk]
     have:=ksz_kid (List.getElem_mem hk)
     exact wOk_of_fit n a _ hoa (okD_kid hob 0 hk) (by omega) hf
   · have hk:0 < b.kids.length:=by rcases sb with h | h | h <;> omega
     have hab:a.sort=b.sort:=by
      rcases h1 with h1 | h1
      · exact Classical.byContradiction fun h'=>by rw [fit_ne (by omega) h'] at hf;cases hf
      · omega
     have hka:0 < a.kids.length:=by rcases sa with h | h | h <;> omega
     have:=ksz_kid (List.getElem_mem hk)
     rw [getD_kid hk,getD_kid hka]
     refine wOk_of_fit n _ _ (okD_kid hoa 0 hka) (okD_kid hob 0 hk) (by omega) ?_
     rcases h1 with h1 | h1
     · rwa [fit_ll h1 (by omega) hka hk] at hf
     · rwa [fit_mm h1.1 h1.2 hka hk] at hf
   · have hab:a.sort=b.sort:=Classical.byContradiction fun h'=>by rw [fit_ne (by omega) h'] at hf;cases hf
     obtain ⟨k1,k2⟩:=fit_names hoa hob (by omega) h1 hf nm hm
     have hin:=kidZ_in hob h1 k1
     have hz:=ksz_kid hin
     have hp:=ksz_pos (kidZ b nm)
     rcases k2 with ⟨k2,k3⟩ | ⟨k2,k3,k4⟩
     · obtain ⟨m,rfl⟩:∃ m,n=m+1:=⟨n - 1,by omega⟩
       exact wOk_zero k2 (by omega)
     · exact wOk_of_fit n _ _ (okD_mem hoa (kidZ_in hoa (by omega) k3)) (okD_mem hob hin) (by omega) k4
theorem uni_wider {n:Nat} {a b:Kd} (hoa:okD a=true) (hob:okD b=true) (ha:a.sort=5) (hb:b.sort=5) (hf:fitF (n+1) a b=true):uniN a.names b.names=b.names:=by
 have hrb:riseB b.names=true:=by rcases okD_sh hob with h | h | h;omega;omega;exact h.2.2
 have h1:=rise_sub b.names (uniN a.names b.names) (rise_pairs hrb) (uniN_rise _ _) (fun x hx=>(fit_names hoa hob ha hb hf x hx).1)
 have h2:=rise_sub (uniN a.names b.names) b.names (uniN_rise _ _) (rise_pairs hrb) (fun x hx=>(uniN_mem x).2 (Or.inr hx))
 exact h1.eq_of_length_le h2.length_le
theorem hK_at:∀ (ks:List Tr) (k:Kd) (j i:Nat) (hi:i < ks.length),hK ks k j=true→hT ks[i] (kidOf k (j+i))=true
 | [],_,_,_,hi,_=>by simp at hi
 | t::r,k,j,0,_,h=>by
   rw [hK,Bool.and_eq_true] at h
   exact h.1
 | t::r,k,j,i+1,hi,h=>by
   rw [hK,Bool.and_eq_true] at h
   have:=hK_at r k (j+1) i (by simpa using hi) h.2
   rw [show j+(i+1)=j+1+i by omega]
   exact this
theorem hT_open {t:Tr} {k:Kd} (h:hT t k=true):k.sort=t.sort∧k.names=t.names∧∀ i,(hi:i < t.kids.length)→hT t.kids[i] (kidOf k i)=true:=by
 rw [hT_eq,Bool.and_eq_true,Bool.and_eq_true] at h
 refine ⟨of_decide_eq_true h.1.1,of_decide_eq_true h.1.2,fun i hi=>?_⟩
 have:=hK_at t.kids k 0 i hi h.2
 rwa [Nat.zero_add] at this
theorem okH_open {t:Tr} (h:okH t=true):aloneB t=true∧∀ i,(hi:i < t.kids.length)→okH t.kids[i]=true:=by
 rw [okH_eq,Bool.and_eq_true] at h
 exact ⟨h.1,fun i hi=>okHs_get h.2 i hi⟩
theorem size_nil {s:ByteArray} (h:s.toList=[]):s.size=0:=by
 rw [lst_data] at h
 have:s.data.toList.length=0:=by rw [h];rfl
 simpa using this
theorem alone_open {t:Tr} (h:aloneB t=true):t.text.size≤60∧(t.sort≠5→t.kids.length≤20)∧(t.sort=5→t.kids.length=t.names.length∧riseB t.names=true):=by
 unfold aloneB at h
 have z:t.text.toList=[]→t.text.size≤60:=fun h=>by rw [size_nil h];omega
 split at h
 · simp only [Bool.and_eq_true,decide_eq_true_eq] at h
   exact ⟨z h.1.1.2,fun _=>by omega,fun _=>by omega⟩
 split at h
 · simp only [Bool.and_eq_true,decide_eq_true_eq,textOkB] at h
   exact ⟨h.1.1.2.1,fun _=>by omega,fun _=>by omega⟩
 split at h
 · simp only [Bool.and_eq_true,decide_eq_true_eq] at h
   exact ⟨z h.1.1.2,fun _=>by omega,fun _=>by omega⟩
 split at h
 · simp only [Bool.and_eq_true,decide_eq_true_eq] at h
   exact ⟨z h.1.1.2,fun _=>by omega,fun _=>by omega⟩
 split at h
 · simp only [Bool.and_eq_true,decide_eq_true_eq] at h
   exact ⟨z h.1.1.2,fun _=>by omega,fun _=>⟨h.1.2.symm,h.2⟩⟩
 split at h
 · simp only [Bool.and_eq_true,decide_eq_true_eq] at h
   exact ⟨z h.1.1.2,fun _=>by omega,fun _=>by omega⟩
 · cases h
theorem fld_has {t:Tr} {a:Kd} (h5:a.sort=5) (h:hT t a=true) (ho:okH t=true) (hk:a.kids.length=a.names.length) (nm:ByteArray):(kidZ a nm).sort=0∨(hT (fldZ t nm) (kidZ a nm)=true∧okH (fldZ t nm)=true):=by
 by_cases hm:nm∈a.names
 · obtain ⟨h1,h2,h3⟩:=hT_open h
   obtain ⟨h4,h6⟩:=okH_open ho
   obtain ⟨h7,h8⟩:=(alone_open h4).2.2 (by omega)
   obtain ⟨i,hi,e⟩:=List.mem_iff_getElem.1 hm
   have hr:a.names.Pairwise nlt:=by rw [h2];exact rise_pairs h8
   have hi2:i < t.names.length:=by rw [← h2];exact hi
   have e2:t.names[i]=nm:=by rw [← e];simp only [h2]
   refine Or.inr ?_
   rw [kidZ_at hr hk hi e,fldZ_at (by rw [← h2];exact hr) h7 hi2 e2]
   have h9:=h3 i (by omega)
   rw [kidOf_form h5 (by omega)] at h9
   exact ⟨h9,h6 i (by omega)⟩
 · rw [kidZ_none hm]
   exact Or.inl rfl

def KdG (P:Nat→Prop) (w:World) (k:Kd) (nm:ByteArray) (y0 y1 y2:Value) (ok:Bool):Prop :=
 (∃ (x:Kd) (a1 a2:Option Addr) (p1 p2:Nat),ok=true∧kidN k nm=some x∧x∈k.kids∧y0=.int .i64 x.sort∧y1=.slice a1 x.names.length p1∧y2=.slice a2 x.kids.length p2∧KRep P w x ⟨.int .i64 x.sort,.slice a1 x.names.length p1,.slice a2 x.kids.length p2⟩) ∨
 (ok=false∧kidN k nm=none∧y0=.int .i64 0∧y1=.slice none 0 0∧y2=.slice none 0 0)
theorem KdG.one {P:Nat→Prop} {w:World} {k:Kd} {nm:ByteArray} (y0 y1 y2:Value) (ok:Bool) (h:KdG P w k nm y0 y1 y2 ok):(#[y0,y1,y2]:Array Value).all (·.oneCell')=true:=by
 rw [← Array.all_toList]
 rcases h with ⟨x,a1,a2,p1,p2,-,-,-,rfl,rfl,rfl,-⟩ | ⟨-,-,rfl,rfl,rfl⟩ <;> rfl
theorem l3Kid_any (k:Kd) (P:Nat→Prop) (c:C3) (w0 w:World) (hP:∀ b,P b→b < w0.heap.size) (hrep:KRep P w0 k c) (hl:k.kids.length=k.names.length) (nm:ByteArray) (hb0:Below w0.heap.size w0 w) :
 Calls Tryz.prog 66 #[.agg #[c.c0,c.c1,c.c2],.string nm] w fun e w'=>Below w.heap.size w w'∧∃ y0 y1 y2 ok,e=.returned (.tuple #[.agg #[y0,y1,y2],.bool ok])∧KdG P w0 k nm y0 y1 y2 ok:=by
 obtain ⟨c0,c1,c2⟩:=c
 obtain ⟨e0,-,⟨a3,cap3,e1,hl3,hnc⟩,a,cap,e2,hlk,hks⟩:=hrep.open
 simp only at e0 e1 e2
 subst e0 e1 e2
 have hbx:∀ o1 o2,Below w.heap.size w ((w.alloc o1).alloc o2):=fun o1 o2=>((Below.refl _ _).alloc (Nat.le_refl _) o1).alloc (by simp) o2
 have hrk:=(row3_alloc w (.int .i64 k.sort) (.slice a3 k.names.length cap3) (.slice a k.kids.length cap) 26).alloc (.cells #[.int .i64 0,.slice none 0 0,.slice none 0 0] 26)
 have hrz:=row3_alloc (w.alloc (.cells #[.int .i64 k.sort,.slice a3 k.names.length cap3,.slice a k.kids.length cap] 26)) (.int .i64 0) (.slice none 0 0) (.slice none 0 0) 26
 rw [World.size_alloc] at hrz
 have hbw:=hbx (.cells #[.int .i64 k.sort,.slice a3 k.names.length cap3,.slice a k.kids.length cap] 26) (.cells #[.int .i64 0,.slice none 0 0,.slice none 0 0] 26)
 have hs2:((w.alloc (.cells #[.int .i64 k.sort,.slice a3 k.names.length cap3,.slice a k.kids.length cap] 26)).alloc (.cells #[.int .i64 0,.slice none 0 0,.slice none 0 0] 26)).heap.size=w.heap.size+2:=by simp
 have HNC:=xH hnc;have HKS:=xH hks;have HP:=xH hP;have HB0:=xH hb0;have HL:=xH hl
 clear hnc hks hP hb0 hrep hbx hl
 go_enter Tryz.func66,Tryz.ntmps66
 go_wp2_with fail
 generalize ((w.alloc (.cells #[.int .i64 k.sort,.slice a3 k.names.length cap3,.slice a k.kids.length cap] 26)).alloc (.cells #[.int .i64 0,.slice none 0 0,.slice none 0 0] 26))=W0 at hrk hrz hbw hs2 ⊢
 have HRK:=xH hrk;have HRZ:=xH hrz;have HBW:=xH hbw;have HS2:=xH hs2
 obtain ⟨m0,m1,m2⟩:=cs3 hrz (by omega);have mf:=hrz.frozen
 have k1:=hrk.cell (i:=1) (by omega);have k2:=hrk.cell (i:=2) (by omega)
 simp only [row3] at m0 m1 m2 k1 k2
 clear hrk hrz hbw hs2
 go_loopw [6] (fun vi wr=>∃ (j:Nat),j≤k.names.length∧vi=.int .i64 j∧Hid (∀ x,(hx:x < j)→(h:x < k.names.length)→k.names[x]≠nm)∧wr=W0) (fun vi _=>k.names.length - (intOf vi).toNat)
 case atStart=>exact ⟨0,Nat.zero_le _,rfl,fun x hx=>by omega,rfl⟩
 case round =>
  obtain ⟨j,hj,rfl,HE,rfl⟩:=hrel
  by_cases hlt:j < k.names.length
  · obtain ⟨nb,no,rfl,hpn,hcn,-⟩:=xU HNC j hlt
    have en:wr.cell? ⟨nb,no+j,none⟩=some (.string k.names[j]):=by rw [(xU HBW).cell (Nat.lt_of_lt_of_le (xU HP nb hpn) (xU HB0).size),(xU HB0).cell (xU HP nb hpn)];exact hcn
    by_cases hne:k.names[j]=nm
    · have hlt2:j < k.kids.length:=by rw [xU HL];exact hlt
      have hkn:=kidN_some hlt hlt2 hne (fun x hx=>xU HE x hx (by omega))
      obtain ⟨zb,zo,⟨z0,z1,z2⟩,rfl,hpz,hcz,hrz⟩:=xU HKS j hlt2
      have hcz':=(hcz.carry ((xU HB0).block zb (xU HP zb hpz))).carry ((xU HBW).block zb (Nat.lt_of_lt_of_le (xU HP zb hpz) (xU HB0).size))
      obtain ⟨f0,-,⟨a9,cap9,f1,-⟩,b9,cbp9,f2,-⟩:=hrz.open
      simp only at f0 f1 f2
      subst f0 f1 f2
      obtain ⟨y0,y1,y2⟩:=hcz'
      simp only at y0 y1 y2
      have hG:KdG P w0 k nm (.int .i64 k.kids[j].sort) (.slice a9 k.kids[j].names.length cap9) (.slice b9 k.kids[j].kids.length cbp9) true:=Or.inl ⟨k.kids[j],a9,b9,cap9,cbp9,rfl,hkn,List.getElem_mem _,rfl,rfl,rfl,hrz⟩
      have HG:=xH hG
      rw [hne] at en
      have hzl:zb < w.heap.size:=Nat.lt_of_lt_of_le (xU HP zb hpz) (xU HB0).size
      have hne1:zb≠w.heap.size+1:=by omega
      have hne2:w.heap.size+1≠zb:=by omega
      have hjj:j * 3+1=j * 3+1:=rfl
      generalize k.kids[j]=x at *
      clear hcn hpn hne hkn hcz hrz hG hjj
      go_wp2_with fail
      refine bodyPost_ret (v:=.tuple #[.agg #[.int .i64 x.sort,.slice a9 x.names.length cap9,.slice b9 x.kids.length cbp9],.bool true]) (by simp [results,Tryz.results66,go_sem,m0,m1,m2]) rfl ?_
      exact ⟨(((xU HBW).setCell (by simp) _).setCell (by simp) _).setCell (by simp) _,_,_,_,_,rfl,xU HG⟩
    · have HE2:Hid (∀ x,(hx:x < j+1)→(h:x < k.names.length)→k.names[x]≠nm):=fun x hx h=>by
       by_cases e:x=j
       · subst e;exact hne
       · exact xU HE x (by omega) h
      have hnb:(k.names[j].toList==nm.toList)=false:=by rw [lst_beq];exact decide_eq_false hne
      generalize k.names[j]=nm2 at *
      clear hcn hpn hne
      go_wp2_with fail
      go_roundw
      case rel=>exact ⟨j+1,by omega,by go_num,HE2,by first | rfl | trivial⟩
      case measure=>simp [intOf];omega
  · have hkn:kidN k nm=none:=kidN_none (fun hm=>by
     obtain ⟨i,hi,e⟩:=List.mem_iff_getElem.1 hm
     exact xU HE i (by omega) hi e)
    have HG:Hid (KdG P w0 k nm (.int .i64 0) (.slice none 0 0) (.slice none 0 0) false):=Or.inr ⟨rfl,hkn,rfl,rfl,rfl⟩
    obtain rfl:j=k.names.length:=by omega
    clear hkn
    go_wp2_with fail
    refine bodyPost_ret (v:=.tuple #[.agg #[.int .i64 0,.slice none 0 0,.slice none 0 0],.bool false]) (by simp [results,Tryz.results66,go_sem,m0,m1,m2]) rfl ?_
    exact ⟨(((xU HBW).setCell (by simp) _).setCell (by simp) _).setCell (by simp) _,_,_,_,_,rfl,xU HG⟩

structure KW (w:World) (k:Kd) (c:C3):Prop where
 rep:KRep (fun x=>x < w.heap.size) w k c
 ok:okD k=true
theorem KW.on {w w':World} {k:Kd} {c:C3} (h:KW w k c) (hb:Below w.heap.size w w'):KW w' k c :=
 ⟨KRep.carry (fun x hx=>hb.block x hx) (fun _ hx=>Nat.lt_of_lt_of_le hx hb.size) _ _ h.rep,h.ok⟩
theorem KW.kid {w:World} {k:Kd} {c:C3} (h:KW w k c) {i:Nat} (hi:i < k.kids.length):∃ (b o cap:Nat) (a1 a2:Option Addr) (p1 p2:Nat),c.c2=.slice (some ⟨b,o,none⟩) k.kids.length cap∧b < w.heap.size∧w.cell? ⟨b,o+i * 3,none⟩=some (.int .i64 k.kids[i].sort)∧w.cell? ⟨b,o+i * 3+1,none⟩=some (.slice a1 k.kids[i].names.length p1)∧w.cell? ⟨b,o+i * 3+2,none⟩=some (.slice a2 k.kids[i].kids.length p2)∧KW w k.kids[i] ⟨.int .i64 k.kids[i].sort,.slice a1 k.kids[i].names.length p1,.slice a2 k.kids[i].kids.length p2⟩:=by
 have hok:=h.ok
 rw [okD_eq,Bool.and_eq_true] at hok
 obtain ⟨-,-,-,a,cap,e2,-,hks⟩:=h.rep.open
 obtain ⟨zb,zo,⟨z0,z1,z2⟩,rfl,hpz,⟨y0,y1,y2⟩,hrz⟩:=hks i hi
 obtain ⟨f0,-,⟨a9,cap9,f1,-⟩,b9,cbp9,f2,-⟩:=hrz.open
 simp only at f0 f1 f2 y0 y1 y2
 subst f0 f1 f2
 exact ⟨zb,zo,cap,a9,b9,cap9,cbp9,e2,hpz,y0,y1,y2,hrz,okDs_get hok.2 i hi⟩
theorem KW.form {w:World} {k:Kd} {c:C3} (h:KW w k c):∃ (a1 a2:Option Addr) (p1 p2:Nat),c=⟨.int .i64 k.sort,.slice a1 k.names.length p1,.slice a2 k.kids.length p2⟩:=by
 obtain ⟨c0,c1,c2⟩:=c
 obtain ⟨e0,-,⟨a3,cap3,e1,-⟩,a,cap,e2,-⟩:=h.rep.open
 simp only at e0 e1 e2
 exact ⟨a3,a,cap3,cap,by rw [e0,e1,e2]⟩
theorem KW.name {w:World} {k:Kd} {c:C3} (h:KW w k c) {i:Nat} (hi:i < k.names.length):∃ (b o cap:Nat),c.c1=.slice (some ⟨b,o,none⟩) k.names.length cap∧b < w.heap.size∧w.cell? ⟨b,o+i,none⟩=some (.string k.names[i]):=by
 obtain ⟨-,-,⟨a3,cap3,e1,-,hnc⟩,-⟩:=h.rep.open
 obtain ⟨nb,no,rfl,hpn,hcn,-⟩:=hnc i hi
 exact ⟨nb,no,cap3,e1,hpn,hcn⟩
theorem KW.sh {w:World} {k:Kd} {c:C3} (h:KW w k c):((k.sort=1∨k.sort=2∨k.sort=3)∧k.kids.length=0∧k.names.length=0)∨((k.sort=4∨k.sort=6)∧k.kids.length=1∧k.names.length=0)∨(k.sort=5∧k.kids.length=k.names.length∧riseB k.names=true):=by
 have hok:=h.ok
 rw [okD_eq,Bool.and_eq_true] at hok
 exact shB_cases hok.1
def FitsSaid (n:Nat):Prop:=∀ (a b:Kd),ksz b≤n→∀ (c d:C3) (w:World),KW w a c→KW w b d →
    Calls Tryz.prog 37 #[.agg #[c.c0,c.c1,c.c2],.agg #[d.c0,d.c1,d.c2]] w fun e w'=>e=.returned (.bool (fitF n a b))∧Below w.heap.size w w'
theorem ft_boxes (w:World) (a b:Kd) (a1 a2 b1 b2:Option Addr) (p1 p2 q1 q2:Nat):((w.alloc (.cells #[.int .i64 a.sort,.slice a1 a.names.length p1,.slice a2 a.kids.length p2] 26)).alloc (.cells #[.int .i64 b.sort,.slice b1 b.names.length q1,.slice b2 b.kids.length q2] 26)).rowIs w.heap.size 26 3 (row3 (.int .i64 a.sort) (.slice a1 a.names.length p1) (.slice a2 a.kids.length p2))∧((w.alloc (.cells #[.int .i64 a.sort,.slice a1 a.names.length p1,.slice a2 a.kids.length p2] 26)).alloc (.cells #[.int .i64 b.sort,.slice b1 b.names.length q1,.slice b2 b.kids.length q2] 26)).rowIs (w.heap.size+1) 26 3 (row3 (.int .i64 b.sort) (.slice b1 b.names.length q1) (.slice b2 b.kids.length q2))∧Below w.heap.size w ((w.alloc (.cells #[.int .i64 a.sort,.slice a1 a.names.length p1,.slice a2 a.kids.length p2] 26)).alloc (.cells #[.int .i64 b.sort,.slice b1 b.names.length q1,.slice b2 b.kids.length q2] 26)):=by
 have h2:=row3_alloc (w.alloc (.cells #[.int .i64 a.sort,.slice a1 a.names.length p1,.slice a2 a.kids.length p2] 26)) (.int .i64 b.sort) (.slice b1 b.names.length q1) (.slice b2 b.kids.length q2) 26
 rw [World.size_alloc] at h2
 exact ⟨(row3_alloc w _ _ _ _).alloc _,h2,((Below.refl _ _).alloc (Nat.le_refl _) _).alloc (by simp) _⟩
section
variable (n:Nat) (IH:FitsSaid n) (a b:Kd) (hn:ksz b≤n+1) (w:World) (a1 a2 b1 b2:Option Addr) (p1 p2 q1 q2:Nat)
 (ha:KW w a ⟨.int .i64 a.sort,.slice a1 a.names.length p1,.slice a2 a.kids.length p2⟩) (hb:KW w b ⟨.int .i64 b.sort,.slice b1 b.names.length q1,.slice b2 b.kids.length q2⟩)
include IH hn ha hb
theorem fits_46 (h:(a.sort=6∧b.sort=6)∨(a.sort=4∧b.sort=4)) :
 Calls Tryz.prog 37 #[.agg #[.int .i64 a.sort,.slice a1 a.names.length p1,.slice a2 a.kids.length p2],.agg #[.int .i64 b.sort,.slice b1 b.names.length q1,.slice b2 b.kids.length q2]] w fun e w'=>e=.returned (.bool (fitF (n+1) a b))∧Below w.heap.size w w':=by
 have hka:a.kids.length=1:=by rcases ha.sh with h | h | h <;> omega
 have hkb:b.kids.length=1:=by rcases hb.sh with h | h | h <;> omega
 have hfit:fitF (n+1) a b=fitF n (a.kids[0]'(by omega)) (b.kids[0]'(by omega)):=by
  rcases h with h | h
  · exact fit_mm h.2 h.1 _ _
  · exact fit_ll h.2 h.1 _ _
 obtain ⟨hra,hrb,hbw⟩:=ft_boxes w a b a1 a2 b1 b2 p1 p2 q1 q2
 obtain ⟨xb,xo,xc,x1,x2,r1,r2,ex,hxl,x0,x3,x4,hx⟩:=ha.kid (i:=0) (by omega)
 obtain ⟨yb,yo,yc,y1,y2,s1,s2,ey,hyl,y0,y3,y4,hy⟩:=hb.kid (i:=0) (by omega)
 simp only [Value.slice.injEq] at ex ey
 obtain ⟨rfl,-,rfl⟩:=ex
 obtain ⟨rfl,-,rfl⟩:=ey
 rw [hfit]
 have hsm:ksz (b.kids[0]'(by omega))≤n:=by have:=ksz_kid (List.getElem_mem (show 0 < b.kids.length by omega));omega
 have hcall:∀ W,Below w.heap.size w W→Calls Tryz.prog 37 #[.agg #[.int .i64 (a.kids[0]'(by omega)).sort,.slice x1 (a.kids[0]'(by omega)).names.length r1,.slice x2 (a.kids[0]'(by omega)).kids.length r2],.agg #[.int .i64 (b.kids[0]'(by omega)).sort,.slice y1 (b.kids[0]'(by omega)).names.length s1,.slice y2 (b.kids[0]'(by omega)).kids.length s2]] W fun e w'=>e=.returned (.bool (fitF n (a.kids[0]'(by omega)) (b.kids[0]'(by omega))))∧Hid (Below w.heap.size w w'):=fun W hW =>
  (IH _ _ hsm ⟨_,_,_⟩ ⟨_,_,_⟩ W (hx.on hW) (hy.on hW)).mono fun e w' ⟨h1,h2⟩=>⟨h1,hW.trans (h2.mono hW.size)⟩
 generalize (a.kids[0]'(by omega))=ka at *
 generalize (b.kids[0]'(by omega))=kb at *
 rw [hka] at hra hbw ⊢
 rw [hkb] at hrb hbw ⊢
 rw [hkb] at hra
 rw [hka] at hrb
 have HCALL:=xH hcall
 clear IH hn ha hb hx hy hsm hcall hfit
 have hxl':xb≠w.heap.size∧xb≠w.heap.size+1:=⟨by omega,by omega⟩
 have g0:=(hbw.cell (show (⟨xb,xo+0 * 3,none⟩:Addr).block < w.heap.size from hxl));have g1:=(hbw.cell (show (⟨xb,xo+0 * 3+1,none⟩:Addr).block < w.heap.size from hxl));have g2:=(hbw.cell (show (⟨xb,xo+0 * 3+2,none⟩:Addr).block < w.heap.size from hxl))
 have h0:=(hbw.cell (show (⟨yb,yo+0 * 3,none⟩:Addr).block < w.heap.size from hyl));have h1:=(hbw.cell (show (⟨yb,yo+0 * 3+1,none⟩:Addr).block < w.heap.size from hyl));have h2:=(hbw.cell (show (⟨yb,yo+0 * 3+2,none⟩:Addr).block < w.heap.size from hyl))
 rw [x0] at g0;rw [x3] at g1;rw [x4] at g2;rw [y0] at h0;rw [y3] at h1;rw [y4] at h2
 simp only [Nat.zero_mul,Nat.add_zero] at g0 g1 g2 h0 h1 h2
 have HBW:=xH hbw
 have e0:=hra.cell (i:=0) (by omega);have e2:=hra.cell (i:=2) (by omega);have f0:=hrb.cell (i:=0) (by omega);have f2:=hrb.cell (i:=2) (by omega)
 simp only [row3] at e0 e2 f0 f2
 clear x0 x3 x4 y0 y3 y4 hra hrb hxl'
 rcases h with ⟨hs1,hs2⟩ | ⟨hs1,hs2⟩
 · have ht1:(b.sort==6)=true:=by rw [hs2];rfl
   have ht2:(a.sort==6)=true:=by rw [hs1];rfl
   clear hs1 hs2 hka hkb hbw
   go_enter Tryz.func37,Tryz.ntmps37
   go_wp2_with fail
   generalize ((w.alloc (.cells #[.int .i64 a.sort,.slice a1 a.names.length p1,.slice (some ⟨xb,xo,none⟩) 1 p2] 26)).alloc (.cells #[.int .i64 b.sort,.slice b1 b.names.length q1,.slice (some ⟨yb,yo,none⟩) 1 q2] 26))=W0 at *
   go_region_with (go_at_call 37;refine (xU HCALL _ ((xU HBW).drew)).mono ?_;rintro e w6 ⟨rfl,HB6⟩)
   all_goals
    go_wp2_with fail
    go_ret
    exact ⟨rfl,xU HB6⟩
 · have ht1:(b.sort==6)=false:=by rw [hs2];rfl
   have ht2:(a.sort != b.sort)=false:=by rw [hs1,hs2];rfl
   have ht3:(a.sort==4)=true:=by rw [hs1];rfl
   clear hs1 hs2 hka hkb hbw
   go_enter Tryz.func37,Tryz.ntmps37
   go_wp2_with fail
   generalize ((w.alloc (.cells #[.int .i64 a.sort,.slice a1 a.names.length p1,.slice (some ⟨xb,xo,none⟩) 1 p2] 26)).alloc (.cells #[.int .i64 b.sort,.slice b1 b.names.length q1,.slice (some ⟨yb,yo,none⟩) 1 q2] 26))=W0 at *
   go_region_with (go_at_call 37;refine (xU HCALL _ ((xU HBW).drew)).mono ?_;rintro e w6 ⟨rfl,HB6⟩)
   all_goals
    go_wp2_with fail
    go_ret
    exact ⟨rfl,xU HB6⟩
theorem fits_xm (hs1:a.sort≠6) (hs2:b.sort=6) :
 Calls Tryz.prog 37 #[.agg #[.int .i64 a.sort,.slice a1 a.names.length p1,.slice a2 a.kids.length p2],.agg #[.int .i64 b.sort,.slice b1 b.names.length q1,.slice b2 b.kids.length q2]] w fun e w'=>e=.returned (.bool (fitF (n+1) a b))∧Below w.heap.size w w':=by
 have hkb:b.kids.length=1:=by rcases hb.sh with h | h | h <;> omega
 have hfit:fitF (n+1) a b=fitF n a (b.kids[0]'(by omega)):=fit_xm hs2 hs1 _
 obtain ⟨hra,hrb,hbw⟩:=ft_boxes w a b a1 a2 b1 b2 p1 p2 q1 q2
 obtain ⟨yb,yo,yc,y1,y2,s1,s2,ey,hyl,y0,y3,y4,hy⟩:=hb.kid (i:=0) (by omega)
 simp only [Value.slice.injEq] at ey
 obtain ⟨rfl,-,rfl⟩:=ey
 rw [hfit]
 have hsm:ksz (b.kids[0]'(by omega))≤n:=by have:=ksz_kid (List.getElem_mem (show 0 < b.kids.length by omega));omega
 have hcall:∀ W,Below w.heap.size w W→Calls Tryz.prog 37 #[.agg #[.int .i64 a.sort,.slice a1 a.names.length p1,.slice a2 a.kids.length p2],.agg #[.int .i64 (b.kids[0]'(by omega)).sort,.slice y1 (b.kids[0]'(by omega)).names.length s1,.slice y2 (b.kids[0]'(by omega)).kids.length s2]] W fun e w'=>e=.returned (.bool (fitF n a (b.kids[0]'(by omega))))∧Hid (Below w.heap.size w w'):=fun W hW =>
  (IH _ _ hsm ⟨_,_,_⟩ ⟨_,_,_⟩ W (ha.on hW) (hy.on hW)).mono fun e w' ⟨h1,h2⟩=>⟨h1,hW.trans (h2.mono hW.size)⟩
 generalize (b.kids[0]'(by omega))=kb at *
 rw [hkb] at hra hrb hbw ⊢
 have HCALL:=xH hcall
 clear IH hn ha hb hy hsm hcall hfit
 have h0:=(hbw.cell (show (⟨yb,yo+0 * 3,none⟩:Addr).block < w.heap.size from hyl));have h1:=(hbw.cell (show (⟨yb,yo+0 * 3+1,none⟩:Addr).block < w.heap.size from hyl));have h2:=(hbw.cell (show (⟨yb,yo+0 * 3+2,none⟩:Addr).block < w.heap.size from hyl))
 rw [y0] at h0;rw [y3] at h1;rw [y4] at h2
 simp only [Nat.zero_mul,Nat.add_zero] at h0 h1 h2
 have HBW:=xH hbw
 obtain ⟨e0,e1,e2⟩:=cs3 hra (by omega);have f0:=hrb.cell (i:=0) (by omega);have f2:=hrb.cell (i:=2) (by omega)
 simp only [row3] at e0 e1 e2 f0 f2
 have ht1:(b.sort==6)=true:=by rw [hs2];rfl
 have ht2:(a.sort==6)=false:=by rw [beq_eq_false_iff_ne];exact hs1
 clear y0 y3 y4 hra hrb hs1 hs2 hkb hbw
 go_enter Tryz.func37,Tryz.ntmps37
 go_wp2_with fail
 generalize ((w.alloc (.cells #[.int .i64 a.sort,.slice a1 a.names.length p1,.slice a2 a.kids.length p2] 26)).alloc (.cells #[.int .i64 b.sort,.slice b1 b.names.length q1,.slice (some ⟨yb,yo,none⟩) 1 q2] 26))=W0 at *
 go_region_with (go_at_call 37;refine (xU HCALL _ ((xU HBW).drew)).mono ?_;rintro e w6 ⟨rfl,HB6⟩)
 all_goals
  go_wp2_with fail
  go_ret
  exact ⟨rfl,xU HB6⟩
end
theorem fits_ne (n:Nat) (a b:Kd) (w:World) (a1 a2 b1 b2:Option Addr) (p1 p2 q1 q2:Nat) (hs1:a.sort≠b.sort) (hs2:b.sort≠6) :
 Calls Tryz.prog 37 #[.agg #[.int .i64 a.sort,.slice a1 a.names.length p1,.slice a2 a.kids.length p2],.agg #[.int .i64 b.sort,.slice b1 b.names.length q1,.slice b2 b.kids.length q2]] w fun e w'=>e=.returned (.bool (fitF (n+1) a b))∧Below w.heap.size w w':=by
 rw [fit_ne hs2 hs1]
 obtain ⟨hra,hrb,hbw⟩:=ft_boxes w a b a1 a2 b1 b2 p1 p2 q1 q2
 have ht1:(b.sort==6)=false:=by rw [beq_eq_false_iff_ne];exact hs2
 have ht2:(a.sort != b.sort)=true:=by simpa using hs1
 have HBW:=xH hbw
 clear hra hrb hbw hs1 hs2
 go_enter Tryz.func37,Tryz.ntmps37
 go_wp2_with fail
 go_ret
 exact ⟨rfl,xU HBW⟩

theorem fits_eq (n:Nat) (IH:FitsSaid n) (a b:Kd) (hn:ksz b≤n+1) (w:World) (a1 a2 b1 b2:Option Addr) (p1 p2 q1 q2:Nat)
 (ha:KW w a ⟨.int .i64 a.sort,.slice a1 a.names.length p1,.slice a2 a.kids.length p2⟩) (hb:KW w b ⟨.int .i64 b.sort,.slice b1 b.names.length q1,.slice b2 b.kids.length q2⟩)
 (hs1:a.sort=b.sort) (h4:a.sort≠4) (h6:b.sort≠6) :
 Calls Tryz.prog 37 #[.agg #[.int .i64 a.sort,.slice a1 a.names.length p1,.slice a2 a.kids.length p2],.agg #[.int .i64 b.sort,.slice b1 b.names.length q1,.slice b2 b.kids.length q2]] w fun e w'=>e=.returned (.bool (fitF (n+1) a b))∧Below w.heap.size w w':=by
 have hla:a.kids.length=a.names.length:=by rcases ha.sh with h | h | h <;> omega
 have hlb:b.kids.length=b.names.length:=by rcases hb.sh with h | h | h <;> omega
 have hbig:a.names.length≤9223372036854775807∧b.names.length≤9223372036854775807:=by
  obtain ⟨-,-,⟨_,_,_,h1,_⟩,-⟩:=ha.rep.open
  obtain ⟨-,-,⟨_,_,_,h2,_⟩,-⟩:=hb.rep.open
  exact ⟨h1,h2⟩
 obtain ⟨hba,hbb⟩:=hbig
 obtain ⟨hra,hrb,hbw⟩:=ft_boxes w a b a1 a2 b1 b2 p1 p2 q1 q2
 have hs2:((w.alloc (.cells #[.int .i64 a.sort,.slice a1 a.names.length p1,.slice a2 a.kids.length p2] 26)).alloc (.cells #[.int .i64 b.sort,.slice b1 b.names.length q1,.slice b2 b.kids.length q2] 26)).heap.size=w.heap.size+2:=by simp
 have ht1:(b.sort==6)=false:=by rw [beq_eq_false_iff_ne];exact h6
 have ht2:(a.sort != b.sort)=false:=by simpa using hs1
 have ht3:(a.sort==4)=false:=by rw [beq_eq_false_iff_ne];exact h4
 have HN1:=xH (fun i hi hk=>fit_no1 (n:=n) (i:=i) h6 hs1 h4 hi hk)
 have HN2:=xH (fun i x hi hi2 hk hf=>fit_no2 (n:=n) (i:=i) (x:=x) h6 hs1 h4 hi hi2 hk hf)
 have HN3:=xH (fun i hi hi2 hk hf=>fit_no3 (n:=n) (i:=i) h6 hs1 h4 hi hi2 hk hf)
 have HYES:Hid ((∀ x,(hx:x < a.names.length)→(hx2:x < a.kids.length)→∃ y,kidN b a.names[x]=some y∧fitF n a.kids[x] y=true)→(∀ x,(hx:x < b.names.length)→(hx2:x < b.kids.length)→(kidN a b.names[x]).isSome=true∨b.kids[x].sort=6)→fitF (n+1) a b=true):=fun h1 h2=>fit_yes (n:=n) h6 hs1 h4 hla hlb (fun i hi=>h1 i hi (by omega)) (fun i hi=>h2 i hi (by omega))
 have HLA:=xH hla;have HLB:=xH hlb;have HA:=xH ha;have HB:=xH hb;have HI:=xH IH;have HN:=xH hn
 clear hs1 h4 h6 hla hlb ha hb IH hn
 go_enter Tryz.func37,Tryz.ntmps37
 go_wp2_with fail
 generalize ((w.alloc (.cells #[.int .i64 a.sort,.slice a1 a.names.length p1,.slice a2 a.kids.length p2] 26)).alloc (.cells #[.int .i64 b.sort,.slice b1 b.names.length q1,.slice b2 b.kids.length q2] 26))=W0 at hra hrb hbw hs2 ⊢
 have HRA:=xH hra;have HRB:=xH hrb;have HBW:=xH hbw;have HS2:=xH hs2
 clear hra hrb hbw hs2
 go_loopw [5] (fun vi wr=>∃ (i:Nat),i≤a.names.length∧vi=.int .i64 i∧Hid (∀ x,x < i→(hx:x < a.names.length)→(hx2:x < a.kids.length)→∃ y,kidN b a.names[x]=some y∧fitF n a.kids[x] y=true)∧Hid (Below W0.heap.size W0 wr)) (fun vi _=>a.names.length - (intOf vi).toNat)
 case atStart=>exact ⟨0,Nat.zero_le _,rfl,fun x hx=>by omega,Below.refl _ _⟩
 case round =>
  obtain ⟨i,hi,rfl,HE,HBR⟩:=hrel
  have hbw:=(xU HBW).trans (HBR.out.mono (by have:=xU HS2;omega))
  have ra:=(xU HRA).of_block (HBR.out.block _ (xU HRA).lt)
  have rb:=(xU HRB).of_block (HBR.out.block _ (xU HRB).lt)
  have e1:=ra.cell (i:=1) (by omega)
  simp only [row3] at e1
  have HW:=xH hbw;have HRA2:=xH ra;have HRB2:=xH rb
  clear hbw ra rb
  by_cases hlt:i < a.names.length
  · have hlt2:i < a.kids.length:=by rw [xU HLA];exact hlt
    obtain ⟨nb,no,nc,en,hnl,hcn⟩:=(xU HA).name hlt
    simp only [Value.slice.injEq] at en
    obtain ⟨rfl,-,rfl⟩:=en
    have hcn2:wr.drew.cell? ⟨nb,no+i,none⟩=some (.string a.names[i]):=((xU HW).cell (show (⟨nb,no+i,none⟩:Addr).block < w.heap.size from hnl)).trans hcn
    go_upto_region 12 with fail
    refine wp_swap (c':=Code.region 12 ft12Ops true) (by kernel_rfl) ?_
    refine wp_region_noPanic ?_
    refine ft12 w.heap.size (w.heap.size+1) _ _ _ _ _ nb no a.names.length p1 i a.names[i] (KdG (fun x=>x < w.heap.size) w b a.names[i]) wr _ (fun _ _ _ _ _ h=>h) ((xU HRA2).of_block rfl) ((xU HRB2).of_block rfl) hlt hcn2 KdG.one (fun W hW=>l3Kid_any b _ _ w W (fun _ h=>h) (xU HB).rep (xU HLB) _ (by
     have h1:Below w.heap.size w wr.drew:=(xU HW).drew
     exact h1.trans (hW.mono h1.size))) (by kernel_rfl) (fun u g ok=>by kernel_rfl) ?_
    intro u y0 y1 y2 ok g W9 hb9 hg hgb hG
    refine NoPanic.normal ?_
    simp only [List.take_succ_cons,List.take_zero,List.drop_succ_cons,List.drop_zero,List.cons_append,List.nil_append]
    have hb9':Below wr.heap.size wr W9:=⟨hb9.os,hb9.tape,hb9.output,hb9.size,fun i hi=>hb9.block i hi⟩
    have hgb':wr.heap.size≤g:=hgb
    have hw9:=(xU HW).trans (hb9'.mono (xU HW).size)
    have hr9:=HBR.out.trans (hb9'.mono HBR.out.size)
    have HW9:=xH hw9;have HR9:=xH hr9
    clear hw9 hr9 hb9 hgb
    rcases hG with ⟨x,x1,x2,r1,r2,rfl,hkx,hxm,rfl,rfl,rfl,hrx⟩ | ⟨rfl,hkx,rfl,rfl,rfl⟩
    · obtain ⟨zb,zo,zc,z1,z2,t1,t2,ez,hzl,c0,c1,c2,hz⟩:=(xU HA).kid hlt2
      simp only [Value.slice.injEq] at ez
      obtain ⟨rfl,-,rfl⟩:=ez
      have v0:=((xU HW9).cell (show (⟨zb,zo+i * 3,none⟩:Addr).block < w.heap.size from hzl)).trans c0
      have v1:=((xU HW9).cell (show (⟨zb,zo+i * 3+1,none⟩:Addr).block < w.heap.size from hzl)).trans c1
      have v2:=((xU HW9).cell (show (⟨zb,zo+i * 3+2,none⟩:Addr).block < w.heap.size from hzl)).trans c2
      obtain ⟨g0,g1,g2⟩:=cs3 hg (by omega)
      have ra9:=(xU HRA2).of_block (hb9'.block _ (xU HRA2).lt)
      have e2:=ra9.cell (i:=2) (by omega)
      simp only [row3] at g0 g1 g2 e2
      have hsm:ksz x≤n:=by have:=ksz_kid hxm;have:=xU HN;omega
      have hxk:KW w x ⟨.int .i64 x.sort,.slice x1 x.names.length r1,.slice x2 x.kids.length r2⟩:=⟨hrx,by
       have hok:=(xU HB).ok
       rw [okD_eq,Bool.and_eq_true] at hok
       obtain ⟨j,hj,e⟩:=List.mem_iff_getElem.1 hxm
       rw [← e]
       exact okDs_get hok.2 j hj⟩
      have HCALL:Hid (Calls Tryz.prog 37 #[.agg #[.int .i64 a.kids[i].sort,.slice z1 a.kids[i].names.length t1,.slice z2 a.kids[i].kids.length t2],.agg #[.int .i64 x.sort,.slice x1 x.names.length r1,.slice x2 x.kids.length r2]] W9.drew fun e w'=>e=.returned (.bool (fitF n a.kids[i] x))∧Hid (Below W9.heap.size W9 w')) :=
       (xU HI _ _ hsm ⟨_,_,_⟩ ⟨_,_,_⟩ W9.drew (hz.on (xU HW9).drew) (hxk.on (xU HW9).drew)).mono fun e w' ⟨h1,h2⟩=>⟨h1,⟨h2.os,h2.tape,h2.output,h2.size,fun i hi=>h2.block i hi⟩⟩
      have HX1:=xH (fun hf=>xU HN2 i x hlt hlt2 hkx hf)
      have HX2:Hid (fitF n a.kids[i] x=true→∀ y,y < i+1→(hx:y < a.names.length)→(hx2:y < a.kids.length)→∃ z,kidN b a.names[y]=some z∧fitF n a.kids[y] z=true):=fun hf y hy hx hx2=>by
       by_cases e:y=i
       · subst e;exact ⟨x,hkx,hf⟩
       · exact HE.out y (by omega) hx hx2
      have hka:i < a.kids.length:=hlt2
      generalize fitF n a.kids[i] x=r at *
      generalize a.kids[i]=ka at *
      clear hcn hcn2 c0 c1 c2 hz hxk hrx hkx hxm hg ra9 hsm
      cases r with
      | true =>
        have HX3:=xH (xU HX2 rfl)
        clear HX1 HX2
        go_wp2_with fail
        go_region_with (go_at_call 37;refine (xU HCALL).mono ?_;rintro e w6 ⟨rfl,HB6⟩)
        all_goals
         have hb6:Below W0.heap.size W0 w6:=(xU HR9).trans (HB6.out.mono (xU HR9).size)
         go_wp2_with fail
         go_roundw
         case rel=>exact ⟨i+1,by omega,by go_num,HX3,hb6⟩
         case measure=>simp [intOf];omega
      | false =>
        have HX3:=xH (xU HX1 rfl)
        clear HX1 HX2
        go_wp2_with fail
        go_region_with (go_at_call 37;refine (xU HCALL).mono ?_;rintro e w6 ⟨rfl,HB6⟩)
        all_goals
         go_wp2_with fail
         go_ret
         exact ⟨by rw [xU HX3];rfl,(xU HW9).trans (HB6.out.mono (xU HW9).size)⟩
    · have HX3:=xH (xU HN1 i hlt hkx)
      clear hkx hg hcn hcn2
      go_wp2_with fail
      go_quiet (fail)
      all_goals
       go_wp2_with fail
       go_ret
       exact ⟨by rw [xU HX3];rfl,below_drewN (xU HW9) _⟩
  · obtain rfl:i=a.names.length:=by omega
    go_wp2_with fail
    clear e1
    go_loopw [8] (fun vi wx=>∃ (j:Nat),j≤b.names.length∧vi=.int .i64 j∧Hid (∀ x,x < j→(hx:x < b.names.length)→(hx2:x < b.kids.length)→(kidN a b.names[x]).isSome=true∨b.kids[x].sort=6)∧Hid (Below W0.heap.size W0 wx)) (fun vi _=>b.names.length - (intOf vi).toNat)
    case atStart=>exact ⟨0,Nat.zero_le _,rfl,fun x hx=>by omega,HBR⟩
    case round =>
     clear HBR HW HRA2 HRB2
     obtain ⟨j,hj,rfl,HF,HBR⟩:=hrel
     have hbw:=(xU HBW).trans (HBR.out.mono (by have:=xU HS2;omega))
     have ra:=(xU HRA).of_block (HBR.out.block _ (xU HRA).lt)
     have rb:=(xU HRB).of_block (HBR.out.block _ (xU HRB).lt)
     have e1:=rb.cell (i:=1) (by omega)
     simp only [row3] at e1
     have HW:=xH hbw;have HRA2:=xH ra;have HRB2:=xH rb
     clear hbw ra rb
     by_cases hlt:j < b.names.length
     · have hlt2:j < b.kids.length:=by rw [xU HLB];exact hlt
       obtain ⟨nb,no,nc,en,hnl,hcn⟩:=(xU HB).name hlt
       simp only [Value.slice.injEq] at en
       obtain ⟨rfl,-,rfl⟩:=en
       have hcn2:wr.drew.cell? ⟨nb,no+j,none⟩=some (.string b.names[j]):=((xU HW).cell (show (⟨nb,no+j,none⟩:Addr).block < w.heap.size from hnl)).trans hcn
       go_upto_region 18 with fail
       refine wp_swap (c':=Code.region 18 ft18Ops true) (by kernel_rfl) ?_
       refine wp_region_noPanic ?_
       refine ft18 w.heap.size (w.heap.size+1) _ _ _ _ _ nb no b.names.length q1 j b.names[j] (KdG (fun x=>x < w.heap.size) w a b.names[j]) wr _ (fun _ _ _ _ _ h=>h) ((xU HRA2).of_block rfl) ((xU HRB2).of_block rfl) hlt hcn2 KdG.one (fun W hW=>l3Kid_any a _ _ w W (fun _ h=>h) (xU HA).rep (xU HLA) _ (by
        have h1:Below w.heap.size w wr.drew:=(xU HW).drew
        exact h1.trans (hW.mono h1.size))) (by kernel_rfl) (fun u g ok=>by kernel_rfl) ?_
       intro u y0 y1 y2 ok g W9 hb9 hg hgb hG
       refine NoPanic.normal ?_
       simp only [List.take_succ_cons,List.take_zero,List.drop_succ_cons,List.drop_zero,List.cons_append,List.nil_append]
       have hb9':Below wr.heap.size wr W9:=⟨hb9.os,hb9.tape,hb9.output,hb9.size,fun i hi=>hb9.block i hi⟩
       have hw9:=(xU HW).trans (hb9'.mono (xU HW).size)
       have hr9:=HBR.out.trans (hb9'.mono HBR.out.size)
       have HW9:=xH hw9;have HR9:=xH hr9
       clear hw9 hr9 hb9 hgb hg
       obtain ⟨zb,zo,zc,z1,z2,t1,t2,ez,hzl,c0,-,-,-⟩:=(xU HB).kid hlt2
       simp only [Value.slice.injEq] at ez
       obtain ⟨rfl,-,rfl⟩:=ez
       have v0:=((xU HW9).cell (show (⟨zb,zo+j * 3,none⟩:Addr).block < w.heap.size from hzl)).trans c0
       have rb9:=(xU HRB2).of_block (hb9'.block _ (xU HRB2).lt)
       have e2:=rb9.cell (i:=2) (by omega)
       simp only [row3] at e2
       rcases hG with ⟨x,x1,x2,r1,r2,rfl,hkx,hxm,rfl,rfl,rfl,hrx⟩ | ⟨rfl,hkx,rfl,rfl,rfl⟩
       · have HX3:Hid (∀ y,y < j+1→(hx:y < b.names.length)→(hx2:y < b.kids.length)→(kidN a b.names[y]).isSome=true∨b.kids[y].sort=6):=fun y hy hx hx2=>by
          by_cases e:y=j
          · subst e;exact Or.inl (by rw [hkx];rfl)
          · exact HF.out y (by omega) hx hx2
         generalize b.kids[j]=kb at *
         clear hcn hcn2 c0 hrx hkx hxm rb9
         go_wp2_with fail
         go_roundw
         case rel=>exact ⟨j+1,by omega,by go_num,HX3,HR9⟩
         case measure=>simp [intOf];omega
       · by_cases h66:b.kids[j].sort=6
         · have HX3:Hid (∀ y,y < j+1→(hx:y < b.names.length)→(hx2:y < b.kids.length)→(kidN a b.names[y]).isSome=true∨b.kids[y].sort=6):=fun y hy hx hx2=>by
            by_cases e:y=j
            · subst e;exact Or.inr h66
            · exact HF.out y (by omega) hx hx2
           have ht6:(b.kids[j].sort != 6)=false:=by rw [h66];rfl
           have hka:j < b.kids.length:=hlt2
           generalize b.kids[j]=kb at *
           clear hcn hcn2 c0 hkx rb9 h66
           go_wp2_with fail
           go_roundw
           case rel=>exact ⟨j+1,by omega,by go_num,HX3,HR9⟩
           case measure=>simp [intOf];omega
         · have HX3:=xH (xU HN3 j hlt hlt2 hkx h66)
           have ht6:(b.kids[j].sort != 6)=true:=by simpa using h66
           have hka:j < b.kids.length:=hlt2
           generalize b.kids[j]=kb at *
           clear hcn hcn2 c0 hkx rb9 h66
           go_wp2_with fail
           go_ret
           exact ⟨by rw [xU HX3];rfl,xU HW9⟩
     · have HX3:=xH (xU HYES (fun x hx hx2=>HE.out x hx hx hx2) (fun x hx hx2=>HF.out x (by omega) hx hx2))
       obtain rfl:j=b.names.length:=by omega
       go_wp2_with fail
       go_ret
       exact ⟨by rw [xU HX3];rfl,xU HW⟩
theorem fits_all:∀ n,FitsSaid n
 | 0=>fun a b hn=>by
   obtain ⟨s,ns,ks⟩:=b
   rw [ksz] at hn
   omega
 | n+1=>fun a b hn c d w ha hb=>by
   obtain ⟨a1,a2,p1,p2,rfl⟩:=ha.form
   obtain ⟨b1,b2,q1,q2,rfl⟩:=hb.form
   by_cases h6:b.sort=6
   · by_cases g6:a.sort=6
     · exact fits_46 n (fits_all n) a b hn w a1 a2 b1 b2 p1 p2 q1 q2 ha hb (Or.inl ⟨g6,h6⟩)
     · exact fits_xm n (fits_all n) a b hn w a1 a2 b1 b2 p1 p2 q1 q2 ha hb g6 h6
   · by_cases he:a.sort=b.sort
     · by_cases g4:a.sort=4
       · exact fits_46 n (fits_all n) a b hn w a1 a2 b1 b2 p1 p2 q1 q2 ha hb (Or.inr ⟨g4,he ▸ g4⟩)
       · exact fits_eq n (fits_all n) a b hn w a1 a2 b1 b2 p1 p2 q1 q2 ha hb he g4 h6
     · exact fits_ne n a b w a1 a2 b1 b2 p1 p2 q1 q2 he h6
def fitsD (a b:Kd):Bool:=decide (0 < qT a 1) && decide (0 < qT b 1) && fitF 40 a b
theorem specKindFits_any (a b:Kd) (P Q:Nat→Prop) (c d:C3) (w:World) (hP:∀ x,P x→x < w.heap.size) (hQ:∀ x,Q x→x < w.heap.size) (ha:KRep P w a c) (hb:KRep Q w b d) :
 Calls Tryz.prog 15 #[.agg #[c.c0,c.c1,c.c2],.agg #[d.c0,d.c1,d.c2]] w fun e w'=>e=.returned (.bool (fitsD a b))∧Below w.heap.size w w':=by
 have ha':KRep (fun x=>x < w.heap.size) w a c:=KRep.carry (fun _ _=>rfl) hP _ _ ha
 have hb':KRep (fun x=>x < w.heap.size) w b d:=KRep.carry (fun _ _=>rfl) hQ _ _ hb
 have hca:∀ W,Below w.heap.size w W→KRep (fun x=>x < W.heap.size) W a c:=fun W hW=>KRep.carry (fun x hx=>hW.block x hx) (fun _ hx=>Nat.lt_of_lt_of_le hx hW.size) _ _ ha'
 have hcb:∀ W,Below w.heap.size w W→KRep (fun x=>x < W.heap.size) W b d:=fun W hW=>KRep.carry (fun x hx=>hW.block x hx) (fun _ hx=>Nat.lt_of_lt_of_le hx hW.size) _ _ hb'
 have HOA:Hid (∀ W,Below w.heap.size w W→Calls Tryz.prog 8 #[.agg #[c.c0,c.c1,c.c2]] W fun e w'=>e=.returned (.bool (decide (0 < qT a 1)))∧Below W.heap.size W w'):=fun W hW=>specKindOk_any a _ c W (fun _ h=>h) (hca W hW)
 have HOB:Hid (∀ W,Below w.heap.size w W→Calls Tryz.prog 8 #[.agg #[d.c0,d.c1,d.c2]] W fun e w'=>e=.returned (.bool (decide (0 < qT b 1)))∧Below W.heap.size W w'):=fun W hW=>specKindOk_any b _ d W (fun _ h=>h) (hcb W hW)
 have HF:Hid (∀ W,0 < qT a 1→0 < qT b 1→Below w.heap.size w W→Calls Tryz.prog 37 #[.agg #[c.c0,c.c1,c.c2],.agg #[d.c0,d.c1,d.c2]] W fun e w'=>e=.returned (.bool (fitF 40 a b))∧Below W.heap.size W w'):=fun W h1 h2 hW=>fits_all 40 a b (ok_of_qT h2).2 c d W ⟨hca W hW,(ok_of_qT h1).1⟩ ⟨hcb W hW,(ok_of_qT h2).1⟩
 obtain ⟨c0,c1,c2⟩:=c
 obtain ⟨d0,d1,d2⟩:=d
 obtain ⟨e0,-,⟨a3,cap3,e1,-⟩,a4,cap4,e2,-⟩:=ha.open
 obtain ⟨g0,-,⟨b3,bap3,g1,-⟩,b4,bap4,g2,-⟩:=hb.open
 simp only at e0 e1 e2 g0 g1 g2
 subst e0 e1 e2 g0 g1 g2
 obtain ⟨hra,hrb,hbw⟩:=ft_boxes w a b a3 a4 b3 b4 cap3 cap4 bap3 bap4
 obtain ⟨x0,x1,x2⟩:=cs3 hra (by omega)
 have y0:=hrb.cell (i:=0) (by omega);have y1:=hrb.cell (i:=1) (by omega);have y2:=hrb.cell (i:=2) (by omega)
 simp only [row3] at x0 x1 x2 y0 y1 y2
 have HRA:=xH hra;have HRB:=xH hrb;have HBW:=xH hbw
 clear hra hrb hbw ha hb ha' hb' hca hcb hP hQ
 go_enter Tryz.func15,Tryz.ntmps15
 go_wp2_with fail
 generalize ((w.alloc (.cells #[.int .i64 a.sort,.slice a3 a.names.length cap3,.slice a4 a.kids.length cap4] 26)).alloc (.cells #[.int .i64 b.sort,.slice b3 b.names.length bap3,.slice b4 b.kids.length bap4] 26))=W0 at *
 refine (xU HOA W0 (xU HBW)).mono ?_
 rintro e w1 ⟨rfl,hb1⟩
 have HB1:=xH ((xU HBW).trans (hb1.mono (xU HBW).size))
 have HRA1:=xH ((xU HRA).of_block (hb1.block _ (xU HRA).lt));have HRB1:=xH ((xU HRB).of_block (hb1.block _ (xU HRB).lt))
 clear hb1 x0 x1 x2 y0 y1 y2 HRA HRB
 by_cases hqa:0 < qT a 1
 case neg =>
  have hd:decide (0 < qT a 1)=false:=decide_eq_false hqa
  have HFD:Hid (fitsD a b=false):=by show _=_;unfold fitsD;rw [hd];rfl
  rw [hd]
  clear hqa hd
  go_wp2_with fail
  go_ret
  exact ⟨by rw [xU HFD];rfl,xU HB1⟩
 have hd:decide (0 < qT a 1)=true:=decide_eq_true hqa
 obtain ⟨y0,y1,y2⟩:=cs3 ((xU HRB1)) (by omega)
 simp only [row3] at y0 y1 y2
 have HQA:=xH hqa
 rw [hd]
 clear hqa hd
 go_wp2_with fail
 refine (xU HOB w1 (xU HB1)).mono ?_
 rintro e w2 ⟨rfl,hb2⟩
 have HB2:=xH ((xU HB1).trans (hb2.mono (xU HB1).size))
 have ra:=((xU HRA1).of_block (hb2.block _ (xU HRA1).lt));have rb:=((xU HRB1).of_block (hb2.block _ (xU HRB1).lt))
 obtain ⟨x0,x1,x2⟩:=cs3 ra (by omega)
 clear y0 y1 y2
 obtain ⟨y0,y1,y2⟩:=cs3 rb (by omega)
 simp only [row3] at x0 x1 x2 y0 y1 y2
 clear hb2 HRA1 HRB1 ra rb
 by_cases hqb:0 < qT b 1
 case neg =>
  have hd:decide (0 < qT b 1)=false:=decide_eq_false hqb
  have HFD:Hid (fitsD a b=false):=by show _=_;unfold fitsD;rw [hd,Bool.and_false];rfl
  rw [hd]
  clear hqb hd
  go_wp2_with fail
  go_ret
  exact ⟨by rw [xU HFD];rfl,xU HB2⟩
 have hd:decide (0 < qT b 1)=true:=decide_eq_true hqb
 have HCALL:=xH (xU HF w2 (xU HQA) hqb (xU HB2))
 have HFD:Hid (fitsD a b=fitF 40 a b):=by show _=_;unfold fitsD;rw [hd,decide_eq_true (xU HQA)];rfl
 rw [hd]
 clear hqb hd
 go_wp2_with fail
 refine (xU HCALL).mono ?_
 rintro e w3 ⟨rfl,hb3⟩
 have HB3:=xH ((xU HB2).trans (hb3.mono (xU HB2).size))
 clear hb3 x0 x1 x2 y0 y1 y2
 go_wp2_with fail
 go_ret
 exact ⟨by rw [xU HFD];rfl,xU HB3⟩
end Go.Proofs.YteefjeddboefcaaGreatDoor
