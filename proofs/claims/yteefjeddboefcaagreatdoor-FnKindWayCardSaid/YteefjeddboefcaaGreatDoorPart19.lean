/- A part. -/
import Derived.Test.YteefjeddboefcaaGreatDoorPart18
namespace Go.Proofs.YteefjeddboefcaaGreatDoor
open Go Go.RowKit
set_option maxRecDepth 100000
set_option maxHeartbeats 3200000
theorem ksz_lenU (k:Kd):k.kids.length < ksz k:=by
 have:∀ l:List Kd,l.length≤klsz l:=fun l=>by
  induction l with
  | nil=>simp
  | cons a r ih =>
    obtain ⟨s,ns,ks⟩:=a
    rw [klsz,ksz,List.length_cons]
    omega
 obtain ⟨s,ns,ks⟩:=k
 have:=this ks
 rw [ksz]
 show ks.length < _
 omega
theorem fit_leaf {n:Nat} {a b:Kd} (hb:b.sort≠6) (h:a.sort=b.sort) (h4:a.sort≠4) (hna:a.names.length=0) (hnb:b.names.length=0):fitF (n+1) a b=true:=by
 rw [fit_eq hb h h4,hna,hnb]
 rfl
section
variable {GW:Kd→Kd→(Nat→Prop)→World→Value→Prop} (HG:GLaws GW) (n:Nat) (IH:PairSaid GW n) (a b:Kd) (hna:ksz a≤40) (hnb:ksz b≤40) (hn:ksz b≤n+1) (a1 a2 b1 b2:Option Addr) (p1 p2 q1 q2:Nat) (w:World) (T:Nat) (path:ByteArray) (hT:WT w T) (hps:path.size+(n+1) * 100≤900000)
 (ha:KW w a ⟨.int .i64 a.sort,.slice a1 a.names.length p1,.slice a2 a.kids.length p2⟩) (hb:KW w b ⟨.int .i64 b.sort,.slice b1 b.names.length q1,.slice b2 b.kids.length q2⟩)
include HG IH hna hnb hn hT hps ha hb
theorem pair_into (sa:Nat) (hsa:a.sort=(sa:Int)) (h0:sa≠0) (h6:sa≤5) (h5:b.sort=6) :
 Calls Tryz.prog 53 #[.pointer (some ⟨T,0,none⟩),.agg #[.int .i64 a.sort,.slice a1 a.names.length p1,.slice a2 a.kids.length p2],.agg #[.int .i64 b.sort,.slice b1 b.names.length q1,.slice b2 b.kids.length q2],.string path] w fun e w'=>Below w.heap.size w w'∧∃ fv er,e=.returned (.tuple #[fv,er])∧PFR GW (n+1) a b T (New w w') w' fv er:=by
 have hkb:b.kids.length=1:=by rcases hb.sh with h' | h' | h' <;> omega
 obtain ⟨yb,yo,yc,y1,y2,s1,s2,ey,hyl,y0,y3,y4,hy⟩:=hb.kid (i:=0) (by omega)
 simp only [Value.slice.injEq,true_and] at ey
 obtain ⟨rfl,rfl⟩:=ey
 have hmb:b.kids[0]'(by omega)∈b.kids:=List.getElem_mem _
 have hzb:=ksz_kid hmb
 have hsy:(b.kids[0]'(by omega)).sort≠0:=by rcases hy.sh with h' | h' | h' <;> omega
 have hp:pF (n+1) a b=pF n a (b.kids[0]'(by omega)):=by
  rw [pF_fit (by omega) hsy,pF_fit (by omega) (by omega)]
  exact fit_xm h5 (by omega) _
 have hps2:path.size≤1000000:=by omega
 have hoka:=ha.ok
 have hokb:=hb.ok
 have hent:ent T sa 6=wv T 49:=by
  rcases (show sa=1∨sa=2∨sa=3∨sa=4∨sa=5 by omega) with rfl | rfl | rfl | rfl | rfl <;> rfl
 refine pair_do HG (n+1) a b sa 6 49 hsa h5 (by omega) (by omega) T hent enInto _ _ _ _ _ _ _ _ w path hT fun W hW=>?_
 rw [hkb]
 have hIH:∀ V,Below W.heap.size W V→Calls Tryz.prog 53 #[.pointer (some ⟨T,0,none⟩),.agg #[.int .i64 a.sort,.slice a1 a.names.length p1,.slice a2 a.kids.length p2],.agg #[.int .i64 (b.kids[0]'(by omega)).sort,.slice y1 (b.kids[0]'(by omega)).names.length s1,.slice y2 (b.kids[0]'(by omega)).kids.length s2],.string (path++⟨#[63]⟩)] V fun e w'=>Below V.heap.size V w'∧∃ fv er,e=.returned (.tuple #[fv,er])∧PFR GW n a (b.kids[0]'(by omega)) T (New V w') w' fv er:=fun V hV=>by
  have hwV:Below w.heap.size w V:=hW.trans (hV.mono hW.size)
  exact IH _ _ (fun _=>by omega) (by omega) (by omega) ⟨_,_,_⟩ ⟨_,_,_⟩ V T _ (hT.on hwV) (Or.inl (ha.on hwV)) (Or.inl (hy.on hwV)) (szP1 _ hps)
 have hbox:∀ e w',InBox 72 (PFR GW n a (b.kids[0]'(by omega)) T) W w' e→∃ fv er,e=.returned (.tuple #[fv,er])∧PFR GW (n+1) a b T (New W w') w' fv er:=fun e w' h7 =>
  h7.pfr hp (ent_ne hsa h5 hent) (fun B fv h8 h9 h10 h11=>HG.into a b _ _ B fv h5 (by omega) (by omega) (by omega) hoka hokb h8 h9 h10 h11)
 by_cases hne:ent T a.sort.toNat (b.kids[0]'(by omega)).sort.toNat=.nilFunc
 · refine (intoMaybe_walkN T a.sort b.sort a1 a2 b1 a.names.length a.kids.length p1 p2 b.names.length q1 q2 yb yo _ y1 y2 _ _ s1 s2 path W (PFR GW n a (b.kids[0]'(by omega)) T) (by rw [hW.cell hyl];exact y0) (by rw [hW.cell hyl];exact y3) (by rw [hW.cell hyl];exact y4) (Nat.lt_of_lt_of_le hyl hW.size) hps2 (fun V hV=>?_) (PFR.on HG)).mono fun e w' ⟨h8,h7⟩=>⟨h8,hbox e w' h7⟩
   refine (hIH V hV).mono fun e w' ⟨k1,fv,er,k2,k3⟩=>?_
   have k4:=k3.2.1 hne
   subst k4
   exact ⟨k1,er,k2,k3⟩
 · refine (intoMaybe_walkF T a.sort b.sort a1 a2 b1 a.names.length a.kids.length p1 p2 b.names.length q1 q2 yb yo _ y1 y2 _ _ s1 s2 path W (PFR GW n a (b.kids[0]'(by omega)) T) (by rw [hW.cell hyl];exact y0) (by rw [hW.cell hyl];exact y3) (by rw [hW.cell hyl];exact y4) (Nat.lt_of_lt_of_le hyl hW.size) hps2 (fun V hV=>?_) (PFR.on HG)).mono fun e w' ⟨h8,h7⟩=>⟨h8,hbox e w' h7⟩
   refine (hIH V hV).mono fun e w' ⟨k1,fv,er,k2,k3⟩=>?_
   obtain ⟨f,bs,cs,k4⟩:=k3.2.2 hne
   subst k4
   exact ⟨k1,f,bs,cs,er,k2,k3⟩
theorem pair_form (h4:a.sort=5) (h5:b.sort=5) :
 Calls Tryz.prog 53 #[.pointer (some ⟨T,0,none⟩),.agg #[.int .i64 a.sort,.slice a1 a.names.length p1,.slice a2 a.kids.length p2],.agg #[.int .i64 b.sort,.slice b1 b.names.length q1,.slice b2 b.kids.length q2],.string path] w fun e w'=>Below w.heap.size w w'∧∃ fv er,e=.returned (.tuple #[fv,er])∧PFR GW (n+1) a b T (New w w') w' fv er:=by
 obtain ⟨hla,hra⟩:a.kids.length=a.names.length∧riseB a.names=true:=by
  rcases ha.sh with h' | h' | h'
  · omega
  · omega
  · exact h'.2
 obtain ⟨hlb,hrb⟩:b.kids.length=b.names.length∧riseB b.names=true:=by
  rcases hb.sh with h' | h' | h'
  · omega
  · omega
  · exact h'.2
 have hza:∀ k,k∈a.kids→k.sort≠0:=fun k hk=>by
  obtain ⟨i,hi,rfl⟩:=List.mem_iff_getElem.1 hk
  obtain ⟨_,_,_,_,_,_,_,_,_,_,_,_,hx⟩:=ha.kid hi
  rcases hx.sh with h' | h' | h' <;> omega
 have hzb:∀ k,k∈b.kids→k.sort≠0:=fun k hk=>by
  obtain ⟨i,hi,rfl⟩:=List.mem_iff_getElem.1 hk
  obtain ⟨_,_,_,_,_,_,_,_,_,_,_,_,hx⟩:=hb.kid hi
  rcases hx.sh with h' | h' | h' <;> omega
 have hp:pF (n+1) a b=(uniN a.names b.names).all fun nm=>pF n (kidZ a nm) (kidZ b nm):=by
  rw [pF_fit (by omega) (by omega)]
  exact fit_union h4 h5 hla hlb (rise_nodup hra) (rise_nodup hrb) hza hzb _ (fun nm=>uniN_mem nm)
 have hnm:∀ nm,nm∈uniN a.names b.names→nm.size≤8:=fun nm hm=>by
  rcases (uniN_mem nm).1 hm with h | h
  · exact rise_szU hra h
  · exact rise_szU hrb h
 have hlA:a.names.length≤1000:=by have:=ksz_lenU a;omega
 have hlB:b.names.length≤1000:=by have:=ksz_lenU b;omega
 have hent:ent T 5 5=wv T 51:=rfl
 have hoka:=ha.ok
 have hokb:=hb.ok
 refine pair_do HG (n+1) a b 5 5 51 h4 h5 (by omega) (by omega) T hent enForm _ _ _ _ _ _ _ _ w path hT fun W hW=>?_
 refine (ofForm_walk a b T a1 a2 b1 b2 p1 p2 q1 q2 path W (fun nm=>pF n (kidZ a nm) (kidZ b nm)) (fun nm=>GW (kidZ a nm) (kidZ b nm)) (fun nm=>HG.on (kidZ a nm) (kidZ b nm)) (ha.on hW) (hb.on hW) h4 h5 hlA hlB (by omega) (fun nm hm=>by have:=hnm nm hm;omega) (fun nm hm V x y hV hx hy=>?_)).mono fun e w' ⟨h6,h7⟩=>⟨h6,?_⟩
 · have hwV:Below w.heap.size w V:=hW.trans (hV.mono hW.size)
   exact (IH _ _ (kidZ_lt hn nm) (kidZ_sz hna nm) (kidZ_sz hnb nm) x y V T _ (hT.on hwV) hx hy (szP3 hps (hnm nm hm))).mono fun e w' ⟨k1,fv,er,k2,k3⟩=>⟨k1,fv,er,k2,k3.1⟩
 · obtain ⟨g1,g2,er,rfl,h8⟩:=h7
   refine ⟨_,_,rfl,?_,fun h=>absurd h (ent_ne h4 h5 hent),fun _=>⟨_,_,_,rfl⟩⟩
   rcases h8 with ⟨e1,e2,e3⟩ | ⟨e1,e2⟩
   · exact Or.inl ⟨hp.trans e1,e2,⟨_,_,_,rfl⟩,HG.form a b _ _ g1 g2 h4 h5 hlA hlB hoka hokb e3⟩
   · exact Or.inr ⟨hp.trans e1,Or.inr ⟨_,_,_,rfl⟩,e2⟩
end
theorem pair_leaf {GW:Kd→Kd→(Nat→Prop)→World→Value→Prop} (HG:GLaws GW) (n:Nat) (a b:Kd) (s:Nat) (hsa:a.sort=(s:Int)) (hsb:b.sort=(s:Int)) (h1:1≤s) (h3:s≤3) (hp:pF n a b=true) (a1 a2 b1 b2:Option Addr) (p1 p2 q1 q2:Nat) (w:World) (T:Nat) (path:ByteArray) (hT:WT w T) :
 Calls Tryz.prog 53 #[.pointer (some ⟨T,0,none⟩),.agg #[.int .i64 a.sort,.slice a1 a.names.length p1,.slice a2 a.kids.length p2],.agg #[.int .i64 b.sort,.slice b1 b.names.length q1,.slice b2 b.kids.length q2],.string path] w fun e w'=>Below w.heap.size w w'∧∃ fv er,e=.returned (.tuple #[fv,er])∧PFR GW n a b T (New w w') w' fv er:=by
 have hent:ent T s s=wv T 48:=by
  rcases (show s=1∨s=2∨s=3 by omega) with rfl | rfl | rfl <;> rfl
 refine pair_do HG n a b s s 48 hsa hsb (by omega) (by omega) T hent enLeaf _ _ _ _ _ _ _ _ w path hT fun W hW=>?_
 exact (ofLeaf_walk T _ _ _ _ _ _ _ _ _ _ _ _ _ _ path W).mono fun e w' ⟨k1,k2⟩=>⟨k1,_,_,k2,Or.inl ⟨hp,rfl,⟨_,_,_,rfl⟩,HG.leaf a b _ _ (by omega) (by omega)⟩,fun h=>absurd h (ent_ne hsa hsb hent),fun _=>⟨_,_,_,rfl⟩⟩
theorem pair_none {GW:Kd→Kd→(Nat→Prop)→World→Value→Prop} (HG:GLaws GW) (n:Nat) (a b:Kd) (hsa:a.sort=0) (hsb:b.sort=6) (a1 a2 b1 b2:Option Addr) (p1 p2 q1 q2:Nat) (w:World) (T:Nat) (path:ByteArray) (hT:WT w T) :
 Calls Tryz.prog 53 #[.pointer (some ⟨T,0,none⟩),.agg #[.int .i64 a.sort,.slice a1 a.names.length p1,.slice a2 a.kids.length p2],.agg #[.int .i64 b.sort,.slice b1 b.names.length q1,.slice b2 b.kids.length q2],.string path] w fun e w'=>Below w.heap.size w w'∧∃ fv er,e=.returned (.tuple #[fv,er])∧PFR GW n a b T (New w w') w' fv er:=by
 have hent:ent T 0 6=wv T 47:=rfl
 have hp:pF n a b=true:=by unfold pF;rw [if_pos hsa];exact decide_eq_true hsb
 refine pair_do HG n a b 0 6 47 hsa hsb (by omega) (by omega) T hent enNone _ _ _ _ _ _ _ _ w path hT fun W hW=>?_
 exact (ofNone_walk T _ _ _ _ _ _ _ _ _ _ _ _ _ _ path W).mono fun e w' ⟨k1,k2⟩=>⟨k1,_,_,k2,Or.inl ⟨hp,rfl,⟨_,_,_,rfl⟩,HG.zero a b _ _ hsa hsb⟩,fun h=>absurd h (ent_ne (sa:=0) (sb:=6) hsa hsb hent),fun _=>⟨_,_,_,rfl⟩⟩
theorem pair_step {GW:Kd→Kd→(Nat→Prop)→World→Value→Prop} (HG:GLaws GW) (n:Nat) (IH:∀ m,n=m+1→PairSaid GW m):PairSaid GW n:=by
 intro a b hbn hna hnb c d w T path hT hc hd hps
 obtain ⟨sa,hsa,ha6,ha0,haw⟩:=hc.sort
 obtain ⟨sb,hsb,hb6,hb0,hbw⟩:=hd.sort
 obtain ⟨a1,a2,p1,p2,rfl⟩:=hc.form
 obtain ⟨b1,b2,q1,q2,rfl⟩:=hd.form
 by_cases h0b:sb=0
 · refine pair_no n a b sa sb hsa hsb ha6 hb6 (by omega) ?_ a1 a2 b1 b2 p1 p2 q1 q2 w T path hT
   unfold pF
   split
   · exact decide_eq_false (by omega)
   · rw [if_pos (by omega)]
 by_cases h0a:sa=0
 · by_cases h6:sb=6
   · exact pair_none HG n a b (by omega) (by omega) a1 a2 b1 b2 p1 p2 q1 q2 w T path hT
   · refine pair_no n a b sa sb hsa hsb ha6 hb6 (by omega) ?_ a1 a2 b1 b2 p1 p2 q1 q2 w T path hT
     unfold pF
     rw [if_pos (by omega)]
     exact decide_eq_false (by omega)
 have ha:=haw h0a
 have hb:=hbw h0b
 have hkn:=hbn (by omega)
 have hpos:=ksz_lenU b
 obtain ⟨m,rfl⟩:∃ m,n=m+1:=⟨n - 1,by omega⟩
 have IHm:=IH m rfl
 by_cases h6:sb=6
 · by_cases h6a:sa=6
   · exact pair_each HG m IHm a b hna hnb hkn a1 a2 b1 b2 p1 p2 q1 q2 w T path hT hps ha hb _ (Or.inr ⟨rfl,by omega,by omega⟩)
   · exact pair_into HG m IHm a b hna hnb hkn a1 a2 b1 b2 p1 p2 q1 q2 w T path hT hps ha hb sa hsa h0a (by omega) (by omega)
 by_cases hab:sa=sb
 · subst hab
   by_cases h4:sa=4
   · exact pair_each HG m IHm a b hna hnb hkn a1 a2 b1 b2 p1 p2 q1 q2 w T path hT hps ha hb _ (Or.inl ⟨rfl,by omega,by omega⟩)
   by_cases h5:sa=5
   · exact pair_form HG m IHm a b hna hnb hkn a1 a2 b1 b2 p1 p2 q1 q2 w T path hT hps ha hb (by omega) (by omega)
   · refine pair_leaf HG (m+1) a b sa hsa hsb (by omega) (by omega) ?_ a1 a2 b1 b2 p1 p2 q1 q2 w T path hT
     rw [pF_fit (by omega) (by omega)]
     refine fit_leaf (by omega) (by omega) (by omega) ?_ ?_
     · rcases ha.sh with h' | h' | h' <;> omega
     · rcases hb.sh with h' | h' | h' <;> omega
 · refine pair_no (m+1) a b sa sb hsa hsb ha6 hb6 (by omega) ?_ a1 a2 b1 b2 p1 p2 q1 q2 w T path hT
   rw [pF_fit (by omega) (by omega)]
   exact fit_ne (by omega) (by omega)
theorem pair_all {GW:Kd→Kd→(Nat→Prop)→World→Value→Prop} (HG:GLaws GW) (n:Nat):PairSaid GW n:=by
 induction n with
 | zero=>exact pair_step HG 0 (fun m h=>by omega)
 | succ n IH =>
   refine pair_step HG (n+1) (fun m h=>?_)
   obtain rfl:n=m:=by omega
   exact IH

def ErrT (w:World):Prop:=w.cell? ⟨0,0,none⟩=some (.iface 154 (.agg #[.pointer (some ⟨2,99,none⟩)]))
theorem ErrT.on {w W:World} (h:ErrT w) (hb:Below w.heap.size w W):ErrT W:=by
 unfold ErrT
 rw [World.cell?_of_block (w:=w) (hb.block _ (World.block_lt_of_cell? w _ h))]
 exact h
def WhE (GW:Kd→Kd→(Nat→Prop)→World→Value→Prop) (a b:Kd) (w w':World) (e:Ending):Prop :=
 ∃ fv,e=.returned (.tuple #[fv,.bool (fitsD a b)])∧(fitsD a b=true→(∃ f b c,fv=.func f b c)∧GW a b (New w w') w' fv)
theorem ofWhole_any {GW:Kd→Kd→(Nat→Prop)→World→Value→Prop} (HG:GLaws GW) (a b:Kd) (P Q:Nat→Prop) (c d:C3) (w:World) (T:Nat) (hT:WT w T) (hE:ErrT w) (hP:∀ x,P x→x < w.heap.size) (hQ:∀ x,Q x→x < w.heap.size) (ha:KRep P w a c) (hb:KRep Q w b d) (hwa:wKd a≤1048576) (hwb:wKd b≤1048576) :
 Calls Tryz.prog 28 #[.pointer (some ⟨T,0,none⟩),.agg #[c.c0,c.c1,c.c2],.agg #[d.c0,d.c1,d.c2]] w fun e w'=>Below w.heap.size w w'∧WhE GW a b w w' e:=by
 have ha':KRep (fun x=>x < w.heap.size) w a c:=KRep.carry (fun _ _=>rfl) hP _ _ ha
 have hb':KRep (fun x=>x < w.heap.size) w b d:=KRep.carry (fun _ _=>rfl) hQ _ _ hb
 have hca:∀ W,Below w.heap.size w W→KRep (fun x=>x < W.heap.size) W a c:=fun W hW=>KRep.carry (fun x hx=>hW.block x hx) (fun _ hx=>Nat.lt_of_lt_of_le hx hW.size) _ _ ha'
 have hcb:∀ W,Below w.heap.size w W→KRep (fun x=>x < W.heap.size) W b d:=fun W hW=>KRep.carry (fun x hx=>hW.block x hx) (fun _ hx=>Nat.lt_of_lt_of_le hx hW.size) _ _ hb'
 have HOA:Hid (∀ W,Below w.heap.size w W→Calls Tryz.prog 30 #[.agg #[c.c0,c.c1,c.c2]] W fun e w'=>e=.returned (.bool (decide (0 < qT a 1)))∧Below W.heap.size W w'):=fun W hW=>implKindOk_any a _ c W (fun _ h=>h) (hca W hW) hwa
 have HOB:Hid (∀ W,Below w.heap.size w W→Calls Tryz.prog 30 #[.agg #[d.c0,d.c1,d.c2]] W fun e w'=>e=.returned (.bool (decide (0 < qT b 1)))∧Below W.heap.size W w'):=fun W hW=>implKindOk_any b _ d W (fun _ h=>h) (hcb W hW) hwb
 have HF:Hid (∀ W,0 < qT a 1→0 < qT b 1→Below w.heap.size w W→Calls Tryz.prog 53 #[.pointer (some ⟨T,0,none⟩),.agg #[c.c0,c.c1,c.c2],.agg #[d.c0,d.c1,d.c2],.string ⟨#[]⟩] W fun e w'=>Below W.heap.size W w'∧∃ fv er,e=.returned (.tuple #[fv,er])∧PR (fitF 40 a b) (GW a b) (New W w') w' fv er):=fun W h1 h2 hW=>by
  have hKa:KW W a c:=⟨hca W hW,(ok_of_qT h1).1⟩
  have hKb:KW W b d:=⟨hcb W hW,(ok_of_qT h2).1⟩
  refine (pair_all HG 40 a b (fun _=>(ok_of_qT h2).2) (ok_of_qT h1).2 (ok_of_qT h2).2 c d W T ⟨#[]⟩ (hT.on hW) (Or.inl hKa) (Or.inl hKb) (by decide)).mono fun e w' ⟨k1,fv,er,k2,k3⟩=>⟨k1,fv,er,k2,?_⟩
  have:=k3.1
  rwa [pF_fit (by rcases hKa.sh with h' | h' | h' <;> omega) (by rcases hKb.sh with h' | h' | h' <;> omega)] at this
 have HET:Hid (∀ W,Below w.heap.size w W→ErrT W):=fun W hW=>hE.on hW
 obtain ⟨c0,c1,c2⟩:=c
 obtain ⟨d0,d1,d2⟩:=d
 obtain ⟨e0,-,⟨a3,cap3,e1,-⟩,a4,cap4,e2,-⟩:=ha.open
 obtain ⟨g0,-,⟨b3,bap3,g1,-⟩,b4,bap4,g2,-⟩:=hb.open
 simp only at e0 e1 e2 g0 g1 g2
 subst e0 e1 e2 g0 g1 g2
 obtain ⟨hra,hrb,hbw⟩:=pr_boxes w a.sort b.sort a3 a4 b3 b4 a.names.length a.kids.length cap3 cap4 b.names.length b.kids.length bap3 bap4
 obtain ⟨x0,x1,x2⟩:=cs3 hra (by omega)
 simp only [row3] at x0 x1 x2
 have HRA:=xH hra;have HRB:=xH hrb;have HBW:=xH hbw
 clear hra hrb hbw ha hb ha' hb' hca hcb hP hQ hT hE hwa hwb
 go_enter Tryz.func28,Tryz.ntmps28
 go_wp2_with fail
 generalize ((w.alloc (.cells #[.int .i64 a.sort,.slice a3 a.names.length cap3,.slice a4 a.kids.length cap4] 26)).alloc (.cells #[.int .i64 b.sort,.slice b3 b.names.length bap3,.slice b4 b.kids.length bap4] 26))=W0 at x0 x1 x2 HRA HRB HBW ⊢
 refine (xU HOA _ (xU HBW)).mono ?_
 rintro e W1 ⟨rfl,hb1⟩
 have hbw1:=(xU HBW).trans (hb1.mono (xU HBW).size)
 have HRA1:=xH ((xU HRA).of_block (hb1.block _ (xU HRA).lt))
 have HRB1:=xH ((xU HRB).of_block (hb1.block _ (xU HRB).lt))
 have HB1:=xH hbw1
 clear hb1 hbw1 HRA HRB HBW x0 x1 x2
 by_cases hqa:0 < qT a 1
 · rw [decide_eq_true hqa]
   obtain ⟨y0,y1,y2⟩:=cs3 ((xU HRB1)) (by omega)
   simp only [row3] at y0 y1 y2
   go_wp2_with fail
   refine (xU HOB _ (xU HB1)).mono ?_
   rintro e W2 ⟨rfl,hb2⟩
   have hbw2:=(xU HB1).trans (hb2.mono (xU HB1).size)
   have HRA2:=xH ((xU HRA1).of_block (hb2.block _ (xU HRA1).lt))
   have HRB2:=xH ((xU HRB1).of_block (hb2.block _ (xU HRB1).lt))
   have HB2:=xH hbw2
   clear hb2 hbw2 HRA1 HRB1 HB1 y0 y1 y2
   by_cases hqb:0 < qT b 1
   · rw [decide_eq_true hqb]
     have HFT:=xH (show fitsD a b=fitF 40 a b by unfold fitsD;rw [decide_eq_true hqa,decide_eq_true hqb];rfl)
     obtain ⟨x0,x1,x2⟩:=cs3 ((xU HRA2)) (by omega)
     have y0:=(xU HRB2).cell (i:=0) (by omega);have y1:=(xU HRB2).cell (i:=1) (by omega);have y2:=(xU HRB2).cell (i:=2) (by omega)
     simp only [row3] at x0 x1 x2 y0 y1 y2
     have HQA:=xH hqa;have HQB:=xH hqb
     clear hqa hqb
     go_wp2_with fail
     refine (xU HF _ (xU HQA) (xU HQB) (xU HB2)).mono ?_
     rintro e W3 ⟨hb3,fv,er,rfl,hpr⟩
     have hbw3:=(xU HB2).trans (hb3.mono (xU HB2).size)
     have HB3:=xH hbw3
     have HSZ:=xH (xU HB2).size
     clear HRA2 HRB2 HB2 x0 x1 x2 y0 y1 y2 hb3 hbw3
     have HBA:=xH ((xU HB3).alloc (xU HB3).size (.cells #[.int .i64 0,.int .i64 0,.string ByteArray.empty] 103))
     rcases hpr with ⟨hfy,rfl,⟨fn,bs,cs,rfl⟩,hgw⟩ | ⟨hfn,-,x,y,p,rfl⟩
     · have HE2:Hid (fitsD a b=true∧GW a b (New w (W3.alloc (.cells #[.int .i64 0,.int .i64 0,.string ByteArray.empty] 103))) (W3.alloc (.cells #[.int .i64 0,.int .i64 0,.string ByteArray.empty] 103)) (.func fn bs cs)) :=
        ⟨(xU HFT).trans hfy,HG.on a b _ _ _ _ _ hgw (fun z hz=>⟨Nat.le_trans (xU HSZ) hz.1,by have:=hz.2;rw [World.size_alloc];omega⟩) (fun z hz=>Below.heap_alloc _ _ _ hz.2)⟩
       clear hgw hfy HFT HF HOA HOB HB3 HSZ
       go_wp2_with (go_at_call 54;refine (as_nil _ _).mono ?_;rintro e W4 ⟨rfl,hw4⟩;have hw5:=hw4.symm;subst hw5)
       go_ret2
       exact ⟨xU HBA,.func fn bs cs,(by rw [(xU HE2).1];rfl),fun _=>⟨⟨_,_,_,rfl⟩,(xU HE2).2⟩⟩
     · have HE2:=xH ((xU HFT).trans hfn)
       have HTH:Hid ((W3.alloc (.cells #[.int .i64 0,.int .i64 0,.string ByteArray.empty] 103)).there W3.heap.size 0 3):=there3f (row3_alloc W3 _ _ _ _)
       have HEW:=xH (xU HET _ (xU HBA))
       have HSZ3:=xH (xU HB3).size
       clear hfn HFT HF HOA HOB HB3 HSZ
       go_wp2_with (go_at_call 54;refine (as_hit x y p W3.heap.size (W3.alloc (.cells #[.int .i64 0,.int .i64 0,.string ByteArray.empty] 103)) (xU HEW) (xU HTH)).mono ?_;rintro e W4 ⟨rfl,hw4⟩;have HB4:Hid (Below w.heap.size w W4):=(xU HBA).trans ⟨hw4.os,hw4.tape,hw4.output,hw4.size,fun i hi=>hw4.at (Nat.lt_of_lt_of_le hi (xU HBA).size) (Nat.ne_of_lt (Nat.lt_of_lt_of_le hi (xU HSZ3)))⟩;clear hw4)
       go_ret2
       exact ⟨xU HB4,.nilFunc,(by rw [xU HE2];rfl),fun h=>by rw [xU HE2] at h;cases h⟩
   · rw [decide_eq_false hqb]
     have HFT:=xH (show fitsD a b=false by unfold fitsD;rw [decide_eq_false hqb];simp)
     clear hqa hqb
     go_wp2_with fail
     go_ret2
     exact ⟨xU HB2,.nilFunc,(by rw [xU HFT];rfl),fun h=>by rw [xU HFT] at h;cases h⟩
 · rw [decide_eq_false hqa]
   have HFT:=xH (show fitsD a b=false by unfold fitsD;rw [decide_eq_false hqa];rfl)
   clear hqa
   go_wp2_with fail
   go_ret2
   exact ⟨xU HB1,.nilFunc,(by rw [xU HFT];rfl),fun h=>by rw [xU HFT] at h;cases h⟩
theorem cell_onQ {w w':World} (hb:Below w.heap.size w w') {a:Addr} {v:Value} (h:w.cell? a=some v):w'.cell? a=some v:=by
 rw [World.cell?_of_block (w:=w) (hb.block a.block (World.block_lt_of_cell? w _ h))]
 exact h
theorem gTrue:GLaws (fun _ _ _ _ _=>True):=⟨fun _ _ _ _ _ _ _ _ _ _=>trivial,fun _ _ _ _ _ _=>trivial,fun _ _ _ _ _ _=>trivial,fun _ _ _ _ _ _ _ _ _ _ _ _ _ _ _=>trivial,fun _ _ _ _ _ _ _ _ _ _ _ _ _ _ _ _=>trivial,fun _ _ _ _ _ _ _ _ _ _ _ _ _=>trivial⟩
theorem implKindFits_any (a b:Kd) (P Q:Nat→Prop) (c d:C3) (w:World) (hE:ErrT w) (hP:∀ x,P x→x < w.heap.size) (hQ:∀ x,Q x→x < w.heap.size) (ha:KRep P w a c) (hb:KRep Q w b d) (hwa:wKd a≤1048576) (hwb:wKd b≤1048576) :
 Calls Tryz.prog 10 #[.agg #[c.c0,c.c1,c.c2],.agg #[d.c0,d.c1,d.c2]] w fun e w'=>e=.returned (.bool (fitsD a b))∧Below w.heap.size w w':=by
 have ha':KRep (fun x=>x < w.heap.size) w a c:=KRep.carry (fun _ _=>rfl) hP _ _ ha
 have hb':KRep (fun x=>x < w.heap.size) w b d:=KRep.carry (fun _ _=>rfl) hQ _ _ hb
 have HW:Hid (∀ W T,Below w.heap.size w W→WT W T→Calls Tryz.prog 28 #[.pointer (some ⟨T,0,none⟩),.agg #[c.c0,c.c1,c.c2],.agg #[d.c0,d.c1,d.c2]] W fun e w'=>Below W.heap.size W w'∧∃ fv,e=.returned (.tuple #[fv,.bool (fitsD a b)])):=fun W T hW hT =>
  (ofWhole_any gTrue a b (fun x=>x < w.heap.size) (fun x=>x < w.heap.size) c d W T hT (hE.on hW) (fun x hx=>Nat.lt_of_lt_of_le hx hW.size) (fun x hx=>Nat.lt_of_lt_of_le hx hW.size) (KRep.carry (fun x hx=>hW.block x hx) (fun _ h=>h) _ _ ha') (KRep.carry (fun x hx=>hW.block x hx) (fun _ h=>h) _ _ hb') hwa hwb).mono fun e w' ⟨h1,fv,h2,_⟩=>⟨h1,fv,h2⟩
 obtain ⟨c0,c1,c2⟩:=c
 obtain ⟨d0,d1,d2⟩:=d
 obtain ⟨e0,-,⟨a3,cap3,e1,-⟩,a4,cap4,e2,-⟩:=ha.open
 obtain ⟨g0,-,⟨b3,bap3,g1,-⟩,b4,bap4,g2,-⟩:=hb.open
 simp only at e0 e1 e2 g0 g1 g2
 subst e0 e1 e2 g0 g1 g2
 obtain ⟨hra,hrb,hbw⟩:=pr_boxes w a.sort b.sort a3 a4 b3 b4 a.names.length a.kids.length cap3 cap4 b.names.length b.kids.length bap3 bap4
 have HRA:=xH hra;have HRB:=xH hrb;have HBW:=xH hbw
 clear hra hrb hbw ha hb ha' hb' hP hQ hE hwa hwb
 go_enter Tryz.func10,Tryz.ntmps10
 go_upto_region 1 with fail
 generalize ((w.alloc (.cells #[.int .i64 a.sort,.slice a3 a.names.length cap3,.slice a4 a.kids.length cap4] 26)).alloc (.cells #[.int .i64 b.sort,.slice b3 b.names.length bap3,.slice b4 b.kids.length bap4] 26))=W0 at HRA HRB HBW ⊢
 obtain ⟨x0,x1,x2⟩:=cs3 ((xU HRA)) (by omega)
 have y0:=(xU HRB).cell (i:=0) (by omega);have y1:=(xU HRB).cell (i:=1) (by omega);have y2:=(xU HRB).cell (i:=2) (by omega)
 simp only [row3] at x0 x1 x2 y0 y1 y2
 clear HRA HRB
 go_region_held3 (fun W=>W.cell? ⟨w.heap.size,0,none⟩=some (.int .i64 a.sort)∧W.cell? ⟨w.heap.size,1,none⟩=some (.slice a3 a.names.length cap3)∧W.cell? ⟨w.heap.size,2,none⟩=some (.slice a4 a.kids.length cap4)∧W.cell? ⟨w.heap.size+1,0,none⟩=some (.int .i64 b.sort)∧W.cell? ⟨w.heap.size+1,1,none⟩=some (.slice b3 b.names.length bap3)∧W.cell? ⟨w.heap.size+1,2,none⟩=some (.slice b4 b.kids.length bap4)) (first | exact ⟨x0,x1,x2,y0,y1,y2⟩ | exact HS2 | exact HS1 | go_keep)
  (first
    | (go_at_call 27
       refine (newWidenings_any W0.drew).mono ?_
       rintro e W1 ⟨rfl,hb1,ht1⟩
       have HS1:W1.cell? ⟨w.heap.size,0,none⟩=some (.int .i64 a.sort)∧W1.cell? ⟨w.heap.size,1,none⟩=some (.slice a3 a.names.length cap3)∧W1.cell? ⟨w.heap.size,2,none⟩=some (.slice a4 a.kids.length cap4)∧W1.cell? ⟨w.heap.size+1,0,none⟩=some (.int .i64 b.sort)∧W1.cell? ⟨w.heap.size+1,1,none⟩=some (.slice b3 b.names.length bap3)∧W1.cell? ⟨w.heap.size+1,2,none⟩=some (.slice b4 b.kids.length bap4):=⟨cell_onP hb1 x0,cell_onP hb1 x1,cell_onP hb1 x2,cell_onP hb1 y0,cell_onP hb1 y1,cell_onP hb1 y2⟩
       have HB1:=xH ((xU HBW).drew.trans (hb1.mono (xU HBW).size))
       have HT1:=xH ht1
       clear hb1 ht1)
    | (go_at_call 28
       refine (xU HW W1 _ (xU HB1) (xU HT1)).mono ?_
       rintro e W2 ⟨hb2,fv,rfl⟩
       have HS2:W2.cell? ⟨w.heap.size,0,none⟩=some (.int .i64 a.sort)∧W2.cell? ⟨w.heap.size,1,none⟩=some (.slice a3 a.names.length cap3)∧W2.cell? ⟨w.heap.size,2,none⟩=some (.slice a4 a.kids.length cap4)∧W2.cell? ⟨w.heap.size+1,0,none⟩=some (.int .i64 b.sort)∧W2.cell? ⟨w.heap.size+1,1,none⟩=some (.slice b3 b.names.length bap3)∧W2.cell? ⟨w.heap.size+1,2,none⟩=some (.slice b4 b.kids.length bap4):=⟨cell_onQ hb2 HS1.1,cell_onQ hb2 HS1.2.1,cell_onQ hb2 HS1.2.2.1,cell_onQ hb2 HS1.2.2.2.1,cell_onQ hb2 HS1.2.2.2.2.1,cell_onQ hb2 HS1.2.2.2.2.2⟩
       have HB2:=xH ((xU HB1).trans (hb2.mono (xU HB1).size))
       clear hb2))
 all_goals
  clear HS1 HS2 x0 x1 x2 y0 y1 y2 HW HB1 HT1 HBW
  go_wp2_with fail
  go_ret
  exact ⟨rfl,xU HB2⟩

def TE (t:Tr) (w:World) (e:Ending) (w':World):Prop:=∃ (d:C5) (F:List Nat),e=.returned (.agg #[d.c0,d.c1,d.c2,d.c3,d.c4])∧Own w' t d F∧F.Nodup∧(∀ b,b∈F→w.heap.size≤b∧b < w'.heap.size)∧Below w.heap.size w w'
def WidC (n:Nat) (a b:Kd) (P:Nat→Prop) (W:World) (fv:Value):Prop :=
 wOk n a b∧∃ (f:Nat) (caps:Array Value),fv=.func (.func f) #[] caps∧(∀ args w,(callFunc f args).run Tryz.prog w=.ok (.enter f args) w) ∧
  ∀ W',(∀ x,P x→x < W.heap.size→W'.heap[x]? = W.heap[x]?)→∀ (t:Tr) (c:C5),Rep (fun x=>x < W'.heap.size) W' t c→(a.sort=0∨(hT t a=true∧okH t=true)) →
    Calls Tryz.prog f (#[.agg #[c.c0,c.c1,c.c2,c.c3,c.c4]]++caps) W' (TE (widF n a b t) W')
def GWd (a b:Kd) (P:Nat→Prop) (W:World) (fv:Value):Prop:=∃ n,WidC n a b P W fv
theorem WidC.le {n m:Nat} {a b:Kd} {P:Nat→Prop} {W:World} {fv:Value} (h:WidC n a b P W fv) (hm:n≤m):WidC m a b P W fv:=by
 obtain ⟨h1,f,caps,h2,h3,h4⟩:=h
 have h5:=wOk_le h1 hm
 refine ⟨h5,f,caps,h2,h3,fun W' hW t c hr ht=>?_⟩
 rw [← wid_fuel n m a b t h1 h5]
 exact h4 W' hW t c hr ht
theorem lt_same {W W':World} {x:Nat} (h:W'.heap[x]? = W.heap[x]?) (hx:x < W.heap.size):x < W'.heap.size:=by
 rw [Array.getElem?_eq_getElem hx] at h
 exact (Array.getElem?_eq_some_iff.1 h).1
theorem WidC.on {n:Nat} {a b:Kd} {P Q:Nat→Prop} {W W':World} {fv:Value} (h:WidC n a b P W fv) (h1:∀ x,P x→Q x) (h2:∀ x,P x→W'.heap[x]? = W.heap[x]?):WidC n a b Q W' fv:=by
 obtain ⟨k1,f,caps,k2,k3,k4⟩:=h
 exact ⟨k1,f,caps,k2,k3,fun W'' hW t c hr ht=>k4 W'' (fun x hx hl=>(hW x (h1 x hx) (lt_same (h2 x hx) hl)).trans (h2 x hx)) t c hr ht⟩
theorem own_leaf {w:World} {s n:Int} {tx:ByteArray} (hs:I64 s) (hn:I64 n) (ht:tx.size≤9223372036854775807):Own w (.mk s n tx [] []) ⟨.int .i64 s,.int .i64 n,.string tx,.slice none 0 0,.slice none 0 0⟩ []:=by
 rw [Own]
 exact ⟨rfl,rfl,rfl,hs,hn,ht,[],[],rfl,⟨none,0,rfl,by simp,Or.inl ⟨rfl,rfl⟩⟩,none,0,rfl,by simp,Or.inl ⟨rfl,rfl⟩⟩
theorem enW (f:Nat) {fn:Func} (h:Tryz.prog.funcs[f]? = some fn) (h2:(fn.name == "runtime.NumGoroutine")=false) {c:Code} (h3:fn.body=some c):∀ args w,(callFunc f args).run Tryz.prog w=.ok (.enter f args) w:=enters_of h h2 h3
theorem none1_any (t:Tr) (c:C5) (n:Nat) (a b:Kd) (ha:a.sort=0) (w:World) (hr:Rep (fun x=>x < w.heap.size) w t c):Calls Tryz.prog 69 #[.agg #[c.c0,c.c1,c.c2,c.c3,c.c4]] w (TE (widF (n+1) a b t) w):=by
 rw [widF_zero ha]
 obtain ⟨c0,c1,c2,c3,c4⟩:=c
 obtain ⟨g0,g1,g2,-,-,-,⟨a5,cap5,g3,-,-⟩,a6,cap6,g4,-,-⟩:=hr.open
 simp only at g0 g1 g2 g3 g4
 subst g0 g1 g2 g3 g4
 clear hr
 have HB:Hid (Below w.heap.size w ((w.alloc (.cells #[.int .i64 t.sort,.int .i64 t.num,.string t.text,.slice a5 t.names.length cap5,.slice a6 t.kids.length cap6] 29)).alloc (.cells #[.int .i64 6,.int .i64 0,.string ByteArray.empty,.slice none 0 0,.slice none 0 0] 29))):=((Below.refl _ _).alloc (Nat.le_refl _) _).alloc (by simp) _
 go_enter Tryz.func69,Tryz.ntmps69
 go_wp2_with fail
 refine bodyPost_ret (v:=.agg #[.int .i64 6,.int .i64 0,.string ⟨#[]⟩,.slice none 0 0,.slice none 0 0]) (by simp [results,Tryz.results69,go_sem]) rfl ?_
 exact ⟨⟨_,_,_,_,_⟩,[],rfl,own_leaf (s:=6) (n:=0) (tx:=ByteArray.empty) ⟨by decide,by decide⟩ ⟨by decide,by decide⟩ (by decide),List.nodup_nil,fun b hb=>by simp at hb,xU HB⟩
theorem wd_boxes (w:World) (s n:Int) (tx:ByteArray) (a5 a6:Option Addr) (n5 cap5 n6 cap6:Nat):((w.alloc (.cells #[.int .i64 s,.int .i64 n,.string tx,.slice a5 n5 cap5,.slice a6 n6 cap6] 29)).alloc (.cells #[.int .i64 0,.int .i64 0,.string ⟨#[]⟩,.slice none 0 0,.slice none 0 0] 29)).rowIs w.heap.size 29 5 (row5 (.int .i64 s) (.int .i64 n) (.string tx) (.slice a5 n5 cap5) (.slice a6 n6 cap6))∧((w.alloc (.cells #[.int .i64 s,.int .i64 n,.string tx,.slice a5 n5 cap5,.slice a6 n6 cap6] 29)).alloc (.cells #[.int .i64 0,.int .i64 0,.string ⟨#[]⟩,.slice none 0 0,.slice none 0 0] 29)).rowIs (w.heap.size+1) 29 5 (row5 (.int .i64 0) (.int .i64 0) (.string ⟨#[]⟩) (.slice none 0 0) (.slice none 0 0))∧Below w.heap.size w ((w.alloc (.cells #[.int .i64 s,.int .i64 n,.string tx,.slice a5 n5 cap5,.slice a6 n6 cap6] 29)).alloc (.cells #[.int .i64 0,.int .i64 0,.string ⟨#[]⟩,.slice none 0 0,.slice none 0 0] 29))∧((w.alloc (.cells #[.int .i64 s,.int .i64 n,.string tx,.slice a5 n5 cap5,.slice a6 n6 cap6] 29)).alloc (.cells #[.int .i64 0,.int .i64 0,.string ⟨#[]⟩,.slice none 0 0,.slice none 0 0] 29)).heap.size=w.heap.size+2:=by
 have h2:=row5_alloc (w.alloc (.cells #[.int .i64 s,.int .i64 n,.string tx,.slice a5 n5 cap5,.slice a6 n6 cap6] 29)) (.int .i64 0) (.int .i64 0) (.string ⟨#[]⟩) (.slice none 0 0) (.slice none 0 0) 29
 rw [World.size_alloc] at h2
 exact ⟨(row5_alloc w _ _ _ _ _ _).alloc _,h2,((Below.refl _ _).alloc (Nat.le_refl _) _).alloc (by simp) _,by simp⟩
theorem ldIntW (w:World) (ad:Addr) (v:Value) (h:w.cell? ad=some v):(Instr.loadAt 3 (.pointer (some ad))).run Tryz.prog w=.ok v w:=by
 simp [Instr.loadAt,Instr.sureAddr,loadVar,Tryz.isAgg3,h,go_sem]
theorem sizeTr:(Tryz.prog.info? 29).map (·.size)=some 5:=by kernel_rfl
theorem there5w {w:World} {b:Nat} {T:TypeId} {n:Nat} {f:Nat→Value} (h:w.rowIs b T n f):w.there b 0 n:=there49 h
structure BelowBut (C:Nat) (w w':World):Prop where
 os:w'.os=w.os
 tape:w'.tape=w.tape
 output:w'.output=w.output
 size:w.heap.size≤w'.heap.size
 block:∀ b,b < w.heap.size→b≠C→w'.heap[b]? = w.heap[b]?
theorem below_but {C n:Nat} {w w':World} (h:BelowBut C w w') (hn:n≤C∧n≤w.heap.size):Below n w w':=⟨h.os,h.tape,h.output,h.size,fun b hb=>h.block b (by omega) (by omega)⟩
noncomputable def lfOps:Array Oper:=fops Tryz.f70 1
theorem lf_neat:Region.noSelect lfOps=true∧neat lfOps=true:=⟨by kernel_rfl,by kernel_rfl⟩
theorem set5_row {W:World} {C:Nat} {T:TypeId} {f:Nat→Value} (h:W.rowIs C T 5 f) (v0 v1 v2 v3 v4:Value):BelowBut C W (W.setCells C 0 [v0,v1,v2,v3,v4])∧(W.setCells C 0 [v0,v1,v2,v3,v4]).rowIs C T 5 (row5 v0 v1 v2 v3 v4):=by
 obtain ⟨h1,h2⟩:=set_row C [v0,v1,v2,v3,v4] 0 W T 5 f h (by simp)
 exact ⟨⟨h1.os,h1.tape,h1.output,h1.size,fun b hb hne=>h1.at hb hne⟩,h2.congr (fun i hi=>by
  match i,hi with
  | 0,_=>rfl
  | 1,_=>rfl
  | 2,_=>rfl
  | 3,_=>rfl
  | 4,_=>rfl)⟩
theorem BelowBut.of_below {C:Nat} {w w':World} (h:Below w.heap.size w w'):BelowBut C w w':=⟨h.os,h.tape,h.output,h.size,fun b hb _=>h.block b hb⟩
theorem BelowBut.trans {C:Nat} {a b c:World} (h:BelowBut C a b) (k:BelowBut C b c):BelowBut C a c:=⟨k.os.trans h.os,k.tape.trans h.tape,k.output.trans h.output,Nat.le_trans h.size k.size,fun x hx hne=>(k.block x (Nat.lt_of_lt_of_le hx h.size) hne).trans (h.block x hx hne)⟩
theorem lf1 (A C:Nat) (s n:Int) (tx:ByteArray) (c3 c4:Value) (f2:Nat→Value) (W0:World) {l:List Value} (Q:Exit→Act→World→Prop) (hQ:∀ c a d v w,Q (.panic c) (Act.put a d v) w→Q (.panic c) a w) (htx:tx.size≤1000) (hne:A≠C) (hA:W0.drew.rowIs A 29 5 (row5 (.int .i64 s) (.int .i64 n) (.string tx) c3 c4)) (hC:W0.drew.rowIs C 29 5 f2)
 (hl:lookL [(1,.pointer (some ⟨A,0,none⟩)),(2,.pointer (some ⟨C,0,none⟩))] l=(11,([(1,.pointer (some ⟨A,0,none⟩)),(2,.pointer (some ⟨C,0,none⟩))]:List (Nat × Value)).map (·.2)))
 (hend:∀ (u:Nat→Value) (W:World),BelowBut C W0.drew W→W.rowIs C 29 5 (row5 (.int .i64 s) (.int .i64 n) (.string tx) (.slice none 0 0) (.slice none 0 0))→Q .normal ⟨(frL u 11 [(2,.pointer (some ⟨C,0,none⟩))]).toArray,[]⟩ W):(Code.region 1 lfOps true).wp Tryz.prog Q ⟨l.toArray,[]⟩ W0:=by
 obtain ⟨v0,rfl⟩:=look_fr hl
 have hq:NtQ lfOps Q:=⟨lf_neat,hQ⟩
 refine T_start (S:=fun W=>BelowBut C W0.drew W) (by kernel_rfl) (BelowBut.of_below (Below.refl _ _)) ?_
 clear hl hQ
 generalize W0.drew=B at hA hC hend ⊢
 refine T_z hq [0,2,4] (by kernel_rfl) ?_
 refine T_a hq [1,3,5] (fun w' h=>.cons (ldIntW _ ⟨A,0,none⟩ (.int .i64 s) ((hA.of_block (h.block _ hA.lt hne)).cell (i:=0) (by omega))) (.cons (ldIntW _ ⟨A,1,none⟩ (.int .i64 n) ((hA.of_block (h.block _ hA.lt hne)).cell (i:=1) (by omega))) (.cons (ldStrF _ ⟨A,2,none⟩ (.string tx) ((hA.of_block (h.block _ hA.lt hne)).cell (i:=2) (by omega))) Lds.nil))) (by kernel_rfl) ?_
 refine T_fr 9 11 [6,7,8] [(2,.pointer (some ⟨C,0,none⟩)),(4,.int .i64 s),(6,.int .i64 n),(8,.string tx)] (by kernel_rfl) fun u=>?_
 refine T_one 6 (by kernel_rfl) fun hB=>?_
 refine O_go (clone_any tx B (by omega)) (by kernel_rfl) ?_
 rintro e W1 ⟨rfl,hb1⟩
 refine ⟨_,rfl,BelowBut.of_below hb1,?_⟩
 refine T_z hq [7] (by kernel_rfl) ?_
 refine T_fr 9 11 [8] [(2,.pointer (some ⟨C,0,none⟩)),(10,.agg #[.int .i64 s,.int .i64 n,.string tx,.slice none 0 0,.slice none 0 0])] (by kernel_rfl) fun u=>?_
 refine T_one 8 (by kernel_rfl) fun _=>?_
 obtain ⟨k1,k2⟩:=set5_row (hC.of_block (hb1.block _ hC.lt)) (.int .i64 s) (.int .i64 n) (.string tx) (.slice none 0 0) (.slice none 0 0)
 have k3:=(BelowBut.of_below (C:=C) hb1).trans k1
 refine O_store_mid none 29 (.tmp 2) (.tmp 10) C 0 #[.int .i64 s,.int .i64 n,.string tx,.slice none 0 0,.slice none 0 0] (by kernel_rfl) (by kernel_rfl) (by kernel_rfl) (there5w (hC.of_block (hb1.block _ hC.lt))) sizeTr (by rw [← Array.all_toList];rfl) k3 ?_
 exact T_end 11 [(2,.pointer (some ⟨C,0,none⟩))] (by kernel_rfl) (by kernel_rfl) fun _ u=>hend u _ k3 k2
theorem leaf1_any (t:Tr) (c:C5) (n:Nat) (a b:Kd) (h:a.sort=b.sort) (h1:a.sort=1∨a.sort=2∨a.sort=3) (w:World) (hr:Rep (fun x=>x < w.heap.size) w t c) (htx:t.text.size≤1000):Calls Tryz.prog 70 #[.agg #[c.c0,c.c1,c.c2,c.c3,c.c4]] w (TE (widF (n+1) a b t) w):=by
 rw [widF_leaf h h1]
 obtain ⟨c0,c1,c2,c3,c4⟩:=c
 obtain ⟨g0,g1,g2,i0,i1,i2,⟨a5,cap5,g3,-,-⟩,a6,cap6,g4,-,-⟩:=hr.open
 simp only at g0 g1 g2 g3 g4
 subst g0 g1 g2 g3 g4
 clear hr
 obtain ⟨hr1,hr2,hbw,hsz⟩:=wd_boxes w t.sort t.num t.text a5 a6 t.names.length cap5 t.kids.length cap6
 have HO:=xH (fun w'=>own_leaf (w:=w') i0 i1 i2)
 have HR1:=xH hr1;have HR2:=xH hr2;have HBW:=xH hbw;have HSZ:=xH hsz;have HTX:=xH htx
 clear hr1 hr2 hbw hsz htx i0 i1 i2 h h1
 go_enter Tryz.func70,Tryz.ntmps70
 go_upto_region 1 with fail
 generalize ((w.alloc (.cells #[.int .i64 t.sort,.int .i64 t.num,.string t.text,.slice a5 t.names.length cap5,.slice a6 t.kids.length cap6] 29)).alloc (.cells #[.int .i64 0,.int .i64 0,.string ⟨#[]⟩,.slice none 0 0,.slice none 0 0] 29))=W0 at HR1 HR2 HBW HSZ ⊢
 refine wp_swap (c':=Code.region 1 lfOps true) (by kernel_rfl) ?_
 refine wp_region_noPanic ?_
 refine lf1 w.heap.size (w.heap.size+1) t.sort t.num t.text (.slice a5 t.names.length cap5) (.slice a6 t.kids.length cap6) _ W0 _ (fun c a d v w h=>h) (xU HTX) (by omega) (xU HR1).drew (xU HR2).drew (by kernel_rfl) ?_
 intro u W hW hrw
 refine NoPanic.normal ?_
 have HB1:=xH ((xU HBW).drew.trans (below_but hW ⟨by omega,(xU HBW).size⟩))
 obtain ⟨m0,m1,m2,m3,m4⟩:=cs5 hrw (by omega)
 simp only [row5] at m0 m1 m2 m3 m4
 clear hW hrw HR1 HR2 HBW HSZ HTX
 have hfr:frL u 11 [(2,.pointer (some ⟨w.heap.size+1,0,none⟩))]=u 0::u 1::.pointer (some ⟨w.heap.size+1,0,none⟩)::(List.range 8).map (fun i=>u (i+3)):=by kernel_rfl
 rw [hfr]
 simp only [List.range,List.range.loop,List.map_cons,List.map_nil]
 go_wp2_with fail
 refine bodyPost_ret (v:=.agg #[.int .i64 t.sort,.int .i64 t.num,.string t.text,.slice none 0 0,.slice none 0 0]) (by simp [results,Tryz.results70,go_sem,m0,m1,m2,m3,m4]) rfl ?_
 exact ⟨⟨_,_,_,_,_⟩,[],rfl,xU HO W,List.nodup_nil,fun b hb=>by simp at hb,xU HB1⟩

theorem Own.forms {w:World} {t:Tr} {d:C5} {F:List Nat} (h:Own w t d F):∃ (a3:Option Addr) (p3:Nat) (a4:Option Addr) (p4:Nat),d=⟨.int .i64 t.sort,.int .i64 t.num,.string t.text,.slice a3 t.names.length p3,.slice a4 t.kids.length p4⟩:=by
 obtain ⟨c0,c1,c2,c3,c4⟩:=d
 obtain ⟨h0,h1,h2,-,-,-,F1,F2,-,⟨a3,p3,h3,-⟩,a4,p4,h4,-⟩:=h.open
 simp only at h0 h1 h2 h3 h4
 exact ⟨a3,p3,a4,p4,by rw [h0,h1,h2,h3,h4]⟩
theorem own_one {W:World} {s:Int} {t:Tr} {d:C5} {F:List Nat} {b:Nat} (hs:I64 s) (hown:Own W t d F) (hrow:W.rowIs b 29 5 (row5 d.c0 d.c1 d.c2 d.c3 d.c4)):Own W (.mk s 0 ByteArray.empty [] [t]) ⟨.int .i64 s,.int .i64 0,.string ByteArray.empty,.slice none 0 0,.slice (some ⟨b,0,none⟩) 1 1⟩ (b::F):=by
 rw [Own]
 refine ⟨rfl,rfl,rfl,hs,⟨by decide,by decide⟩,by decide,[],b::F,rfl,⟨none,0,rfl,by simp,Or.inl ⟨rfl,rfl⟩⟩,some ⟨b,0,none⟩,1,rfl,by simp,Or.inr ⟨b,F,rfl,rfl,hrow.frozen,?_⟩⟩
 rw [OwnK]
 refine ⟨F,[],d,by simp,⟨hrow.cell (i:=0) (by omega),hrow.cell (i:=1) (by omega),hrow.cell (i:=2) (by omega),hrow.cell (i:=3) (by omega),hrow.cell (i:=4) (by omega)⟩,hown,by rw [OwnK]⟩
theorem wd_end {w W0 W1:World} {t':Tr} {a3 a4:Option Addr} {p3 p4:Nat} {F:List Nat} {C:Nat} {f:Nat→Value} (hr:W1.rowIs C 29 5 f) (hown:Own W1 t' ⟨.int .i64 t'.sort,.int .i64 t'.num,.string t'.text,.slice a3 t'.names.length p3,.slice a4 t'.kids.length p4⟩ F) (hnd:F.Nodup) (hF:∀ b,b∈F→W0.heap.size≤b∧b < W1.heap.size) (hb:Below w.heap.size w W1) (hC:w.heap.size≤C) (hC0:C < W0.heap.size∧w.heap.size≤W0.heap.size) :
 ((W1.setCells C 0 [.int .i64 6,.int .i64 0,.string ⟨#[]⟩,.slice none 0 0,.slice (some ⟨W1.heap.size,0,none⟩) 1 1]).alloc (.cells #[.int .i64 t'.sort,.int .i64 t'.num,.string t'.text,.slice a3 t'.names.length p3,.slice a4 t'.kids.length p4] 29)).rowIs C 29 5 (row5 (.int .i64 6) (.int .i64 0) (.string ⟨#[]⟩) (.slice none 0 0) (.slice (some ⟨W1.heap.size,0,none⟩) 1 1))∧TE (.mk 6 0 ByteArray.empty [] [t']) w (.returned (.agg #[.int .i64 6,.int .i64 0,.string ⟨#[]⟩,.slice none 0 0,.slice (some ⟨W1.heap.size,0,none⟩) 1 1])) ((W1.setCells C 0 [.int .i64 6,.int .i64 0,.string ⟨#[]⟩,.slice none 0 0,.slice (some ⟨W1.heap.size,0,none⟩) 1 1]).alloc (.cells #[.int .i64 t'.sort,.int .i64 t'.num,.string t'.text,.slice a3 t'.names.length p3,.slice a4 t'.kids.length p4] 29)):=by
 obtain ⟨k1,k2⟩:=set5_row hr (.int .i64 6) (.int .i64 0) (.string ⟨#[]⟩) (.slice none 0 0) (.slice (some ⟨W1.heap.size,0,none⟩) 1 1)
 have hs5:(W1.setCells C 0 [.int .i64 6,.int .i64 0,.string ⟨#[]⟩,.slice none 0 0,.slice (some ⟨W1.heap.size,0,none⟩) 1 1]).heap.size=W1.heap.size:=by simp [World.setCells,World.setCell]
 generalize W1.setCells C 0 [.int .i64 6,.int .i64 0,.string ⟨#[]⟩,.slice none 0 0,.slice (some ⟨W1.heap.size,0,none⟩) 1 1]=W5 at k1 k2 hs5 ⊢
 have hrow:=row5_alloc W5 (.int .i64 t'.sort) (.int .i64 t'.num) (.string t'.text) (.slice a3 t'.names.length p3) (.slice a4 t'.kids.length p4) 29
 rw [hs5] at hrow
 have hown6:Own (W5.alloc (.cells #[.int .i64 t'.sort,.int .i64 t'.num,.string t'.text,.slice a3 t'.names.length p3,.slice a4 t'.kids.length p4] 29)) t' ⟨.int .i64 t'.sort,.int .i64 t'.num,.string t'.text,.slice a3 t'.names.length p3,.slice a4 t'.kids.length p4⟩ F:=Own.carry _ _ _ (fun b hb'=>by
  have h1:=hF b hb'
  rw [Below.heap_alloc _ _ _ (by rw [hs5];exact h1.2)]
  exact k1.block b h1.2 (by omega)) hown
 refine ⟨k2.alloc _,⟨_,_,_,_,_⟩,W1.heap.size::F,rfl,own_one (s:=6) ⟨by decide,by decide⟩ hown6 hrow,List.nodup_cons.2 ⟨fun hm=>by have:=(hF _ hm).2;omega,hnd⟩,fun b hb'=>?_,?_⟩
 · rw [World.size_alloc,hs5]
   rcases List.mem_cons.1 hb' with rfl | hm
   · exact ⟨hb.size,by omega⟩
   · have:=hF b hm
     exact ⟨by omega,by omega⟩
 · exact (hb.trans (below_but k1 ⟨hC,hb.size⟩)).alloc (by rw [hs5];exact hb.size) _
theorem into1_any (t t':Tr) (c:C5) (w:World) (B f:Nat) (caps:Array Value) (hr:Rep (fun x=>x < w.heap.size) w t c) (hB:w.cell? ⟨B,0,none⟩=some (.func (.func f) #[] caps)) (hent:∀ args w,(callFunc f args).run Tryz.prog w=.ok (.enter f args) w)
 (hcall:∀ W',Below w.heap.size w W'→Calls Tryz.prog f (#[.agg #[c.c0,c.c1,c.c2,c.c3,c.c4]]++caps) W' (TE t' W')) :
 Calls Tryz.prog 72 #[.agg #[c.c0,c.c1,c.c2,c.c3,c.c4],.pointer (some ⟨B,0,none⟩)] w (TE (.mk 6 0 ByteArray.empty [] [t']) w):=by
 obtain ⟨c0,c1,c2,c3,c4⟩:=c
 obtain ⟨g0,g1,g2,-,-,-,⟨a5,cap5,g3,-,-⟩,a6,cap6,g4,-,-⟩:=hr.open
 simp only at g0 g1 g2 g3 g4
 subst g0 g1 g2 g3 g4
 clear hr
 obtain ⟨hr1,hr2,hbw,hsz⟩:=wd_boxes w t.sort t.num t.text a5 a6 t.names.length cap5 t.kids.length cap6
 have hBl:=World.block_lt_of_cell? w _ hB
 rw [← hbw.cell hBl] at hB
 have HR2:=xH hr2;have HBW:=xH hbw;have HSZ:=xH hsz;have HC:=xH hcall
 obtain ⟨k0,k1,k2,k3,k4⟩:=cs5 hr1 (by omega)
 simp only [row5] at k0 k1 k2 k3 k4
 clear hr1 hr2 hbw hsz hcall hBl
 go_enter Tryz.func72,Tryz.ntmps72
 go_upto_region 1 with fail
 generalize ((w.alloc (.cells #[.int .i64 t.sort,.int .i64 t.num,.string t.text,.slice a5 t.names.length cap5,.slice a6 t.kids.length cap6] 29)).alloc (.cells #[.int .i64 0,.int .i64 0,.string ⟨#[]⟩,.slice none 0 0,.slice none 0 0] 29))=W0 at hB k0 k1 k2 k3 k4 HR2 HBW HSZ ⊢
 go_wp2_with fail
 refine (xU HC W0 (xU HBW)).mono ?_
 rintro e W1 ⟨d,F,rfl,hown,hnd,hF,hb1⟩
 obtain ⟨a3,p3,a4,p4,rfl⟩:=hown.forms
 have hr21:=(xU HR2).of_block (hb1.block _ (xU HR2).lt)
 have hs1:=hb1.size
 have hbw1:=(xU HBW).trans (hb1.mono (xU HBW).size)
 have HOWN:=xH hown;have HND:=xH hnd;have HF:=xH hF;have HB1:=xH hbw1;have HR21:=xH hr21;have HS1:=xH hs1
 obtain ⟨m0,m1,m2,m3,m4⟩:=cs5 hr21 (by omega);have mf:=hr21.frozen
 simp only [row5] at m0 m1 m2 m3 m4
 have hlt:w.heap.size+1 < W1.heap.size:=hr21.lt
 clear hown hnd hF hb1 hr21 hs1 hbw1 k0 k1 k2 k3 k4 hB HC HR2
 go_wp2_with fail
 have HE:=wd_end (xU HR21) (xU HOWN) (xU HND) (xU HF) (xU HB1) (Nat.le_succ _) (by have:=xU HSZ;have:=(xU HBW).size;omega)
 have e5:((((W1.setCell ⟨w.heap.size+1,0,none⟩ (.int .i64 6)).setCell ⟨w.heap.size+1,1,none⟩ (.int .i64 0)).setCell ⟨w.heap.size+1,2,none⟩ (.string ⟨#[]⟩)).setCell ⟨w.heap.size+1,3,none⟩ (.slice none 0 0)).setCell ⟨w.heap.size+1,4,none⟩ (.slice (some ⟨W1.heap.size,0,none⟩) 1 1)=W1.setCells (w.heap.size+1) 0 [.int .i64 6,.int .i64 0,.string ⟨#[]⟩,.slice none 0 0,.slice (some ⟨W1.heap.size,0,none⟩) 1 1]:=rfl
 rw [e5]
 generalize (W1.setCells (w.heap.size+1) 0 [.int .i64 6,.int .i64 0,.string ⟨#[]⟩,.slice none 0 0,.slice (some ⟨W1.heap.size,0,none⟩) 1 1]).alloc (.cells #[.int .i64 t'.sort,.int .i64 t'.num,.string t'.text,.slice a3 t'.names.length p3,.slice a4 t'.kids.length p4] 29)=W6 at HE ⊢
 obtain ⟨hrow,hT⟩:=HE
 obtain ⟨q0,q1,q2,q3,q4⟩:=cs5 hrow (by omega)
 simp only [row5] at q0 q1 q2 q3 q4
 exact bodyPost_ret (v:=.agg #[.int .i64 6,.int .i64 0,.string ⟨#[]⟩,.slice none 0 0,.slice (some ⟨W1.heap.size,0,none⟩) 1 1]) (by simp [results,Tryz.results72,go_sem,q0,q1,q2,q3,q4]) rfl hT

theorem Rep.form {P:Nat→Prop} {w:World} {t:Tr} {c:C5} (h:Rep P w t c):∃ (a3:Option Addr) (p3:Nat) (a4:Option Addr) (p4:Nat),c=⟨.int .i64 t.sort,.int .i64 t.num,.string t.text,.slice a3 t.names.length p3,.slice a4 t.kids.length p4⟩:=by
 obtain ⟨c0,c1,c2,c3,c4⟩:=c
 obtain ⟨g0,g1,g2,-,-,-,⟨a5,cap5,g3,-,-⟩,a6,cap6,g4,-,-⟩:=h.open
 simp only at g0 g1 g2 g3 g4
 exact ⟨a5,cap5,a6,cap6,by rw [g0,g1,g2,g3,g4]⟩
theorem each1_any (t:Tr) (g:Tr→Tr) (c:C5) (w:World) (B f:Nat) (caps:Array Value) (hr:Rep (fun x=>x < w.heap.size) w t c) (hB:w.cell? ⟨B,0,none⟩=some (.func (.func f) #[] caps)) (hent:∀ args w,(callFunc f args).run Tryz.prog w=.ok (.enter f args) w) (hlen:t.kids.length≤1000)
 (hcall:∀ i,(hi:i < t.kids.length)→∀ W' (d:C5),Below w.heap.size w W'→Rep (fun x=>x < W'.heap.size) W' t.kids[i] d→Calls Tryz.prog f (#[.agg #[d.c0,d.c1,d.c2,d.c3,d.c4]]++caps) W' (TE (g t.kids[i]) W')) :
 Calls Tryz.prog 93 #[.agg #[c.c0,c.c1,c.c2,c.c3,c.c4],.pointer (some ⟨B,0,none⟩)] w (TE (.mk t.sort 0 ByteArray.empty [] (t.kids.map g)) w):=by
 have hrep:=hr
 obtain ⟨a5,cap5,a6,cap6,rfl⟩:=hr.form
 obtain ⟨-,-,-,hI0,-,-,-,a6',cap6',e4,-,hks⟩:=hr.open
 simp only [Value.slice.injEq,true_and] at e4
 obtain ⟨rfl,rfl⟩:=e4
 obtain ⟨i0,hi,hz0,hz1,hz2⟩:=info_parts infoTreeS
 have hBl:=World.block_lt_of_cell? w _ hB
 have HK:=xH hks;have HC:=xH hcall;have HI0:=xH hI0;have HLEN:=xH hlen;have HBC:=xH hB;have HBL:=xH hBl
 have HII:=xH hi;have HZ0:=xH hz0;have HZ1:=xH hz1;have HZ2:=xH hz2
 clear hks hcall hI0 hlen hi hz0 hz1 hz2 hr hrep hB hBl
 go_enter Tryz.func93,Tryz.ntmps93
 go_wp2_with fail
 obtain ⟨W0,hW0⟩:∃ W0,(((w.alloc (.cells #[.int .i64 t.sort,.int .i64 t.num,.string t.text,.slice a5 t.names.length cap5,.slice a6 t.kids.length cap6] 29)).alloc (.cells #[.int .i64 0,.int .i64 0,.string ⟨#[]⟩,.slice none 0 0,.slice none 0 0] 29)).alloc (.cells #[.int .i64 t.sort,.int .i64 0,.string ⟨#[]⟩,.slice none 0 0,.slice none 0 0] 29))=W0:=⟨_,rfl⟩
 have hs0:W0.heap.size=w.heap.size+3:=by rw [← hW0];simp
 have hbl:Below w.heap.size w W0:=by rw [← hW0];exact (((Below.refl _ _).alloc (Nat.le_refl _) _).alloc (by simp) _).alloc (by simp;omega) _
 have hr1:W0.rowIs (w.heap.size+1) 29 5 (row5 (.int .i64 0) (.int .i64 0) (.string ⟨#[]⟩) (.slice none 0 0) (.slice none 0 0)):=by
  rw [← hW0]
  have q:=row5_alloc (w.alloc (.cells #[.int .i64 t.sort,.int .i64 t.num,.string t.text,.slice a5 t.names.length cap5,.slice a6 t.kids.length cap6] 29)) (.int .i64 0) (.int .i64 0) (.string ⟨#[]⟩) (.slice none 0 0) (.slice none 0 0) 29
  rw [World.size_alloc] at q
  exact q.alloc _
 have hr2:W0.rowIs (w.heap.size+2) 29 5 (row5 (.int .i64 t.sort) (.int .i64 0) (.string ⟨#[]⟩) (.slice none 0 0) (.slice none 0 0)):=by
  rw [← hW0]
  have q:=row5_alloc ((w.alloc (.cells #[.int .i64 t.sort,.int .i64 t.num,.string t.text,.slice a5 t.names.length cap5,.slice a6 t.kids.length cap6] 29)).alloc (.cells #[.int .i64 0,.int .i64 0,.string ⟨#[]⟩,.slice none 0 0,.slice none 0 0] 29)) (.int .i64 t.sort) (.int .i64 0) (.string ⟨#[]⟩) (.slice none 0 0) (.slice none 0 0) 29
  rw [World.size_alloc,World.size_alloc] at q
  exact q
 rw [hW0]
 have HBW:=xH hbl;have HR1:=xH hr1
 have hinv:SInv (w.heap.size+3) (w.heap.size+2) W0 t.sort (.slice none 0 0) (.slice none 0 0) [] [] [] [] :=
  ⟨by omega,hr2,World.ownsRow_nil _ _ _ _,GotO.start _ _,fun b hb=>by simp [Value.ownBlock] at hb,by omega⟩
 have HINV:=xH hinv
 clear hW0 hbl hr1 hr2 hinv
 go_loopw [13] (fun i wr=>∃ (k:Nat) (aK:Option Addr) (capK:Nat) (xs:List Value) (G:List Nat),k≤t.kids.length∧i=.int .i64 k∧Hid (SInv (w.heap.size+3) (w.heap.size+2) wr t.sort (.slice none 0 0) (.slice aK k capK) [] ((t.kids.take k).map g) xs G)∧Hid (Below (w.heap.size+2) W0 wr)) (fun i _=>t.kids.length - (intOf i).toNat)
 case atStart=>exact ⟨0,none,0,[],[],Nat.zero_le _,rfl,xU HINV,Below.refl _ _⟩
 case round =>
  obtain ⟨k,aK,capK,xs,G,hk,rfl,HS,HB⟩:=hrel
  have hsw:=HB.out.size
  have hbw:Below w.heap.size w wr:=(xU HBW).trans (HB.out.mono (by omega))
  by_cases hlt:k < t.kids.length
  · obtain ⟨b,o,ck,rfl,hpb,hcell,hrp⟩:=xU HK k hlt
    obtain ⟨a3,p3,a4,p4,rfl⟩:=hrp.form
    obtain ⟨f0,f1,f2,f3,f4⟩:=hcell.carry (hbw.block b hpb)
    simp only at f0 f1 f2 f3 f4
    have htk:(t.kids.take (k+1)).map g=(t.kids.take k).map g++[g t.kids[k]]:=by
     rw [List.take_succ_eq_append_getElem hlt,List.map_append];rfl
    have hlkl:((t.kids.take k).map g).length=k:=by simp;omega
    have hcl:=xU HC k hlt
    have HRP:=xH hrp
    generalize t.kids[k]=x at *
    have hrowx:=row5_alloc wr (.int .i64 x.sort) (.int .i64 x.num) (.string x.text) (.slice a3 x.names.length p3) (.slice a4 x.kids.length p4) 29
    have hsK:=HS.out.kept (World.grownBy_alloc wr (.cells #[.int .i64 x.sort,.int .i64 x.num,.string x.text,.slice a3 x.names.length p3,.slice a4 x.kids.length p4] 29) none)
    have hbK:Below (w.heap.size+2) W0 (wr.alloc (.cells #[.int .i64 x.sort,.int .i64 x.num,.string x.text,.slice a3 x.names.length p3,.slice a4 x.kids.length p4] 29)):=HB.out.alloc (by omega) _
    have hbwK:Below w.heap.size w (wr.alloc (.cells #[.int .i64 x.sort,.int .i64 x.num,.string x.text,.slice a3 x.names.length p3,.slice a4 x.kids.length p4] 29)):=hbw.alloc hbw.size _
    have HTK:=xH htk;have HLK:=xH hlkl;have HCL:=xH hcl;have HSK:=xH hsK;have HBK:=xH hbK;have HBWK:=xH hbwK;have HRX:=xH hrowx
    have HSW:=xH hsw;have HSZ0:=xH hs0
    clear htk hlkl hcl hsK hbK hbwK hrowx hrp hcell hpb hbw HS HB
    go_upto_region 5 with fail
    generalize (wr.alloc (.cells #[.int .i64 x.sort,.int .i64 x.num,.string x.text,.slice a3 x.names.length p3,.slice a4 x.kids.length p4] 29))=WK at HSK HBK HBWK HRX ⊢
    have hsW:wr.heap.size < WK.heap.size:=(xU HRX).lt
    have hsW2:w.heap.size+3≤WK.heap.size:=(xU HSK).size
    obtain ⟨k0,k1,k2,k3,k4⟩:=cs5 ((xU HRX)) (by omega)
    have t4:=(xU HSK).cells.cell (i:=4) (by omega)
    simp only [row5] at k0 k1 k2 k3 k4 t4
    have hBc:WK.cell? ⟨B,0,none⟩=some (.func (.func f) #[] caps):=by rw [(xU HBWK).cell (xU HBL)];exact xU HBC
    have hcall:Calls Tryz.prog f (#[.agg #[.int .i64 x.sort,.int .i64 x.num,.string x.text,.slice a3 x.names.length p3,.slice a4 x.kids.length p4]]++caps) WK.drew fun e w6=>∃ e0 e1 e2 a7 n7 cap7 a8 n8 cap8 F,e=.returned (.agg #[.int .i64 e0,.int .i64 e1,.string e2,.slice a7 n7 cap7,.slice a8 n8 cap8])∧Hid (Own w6 (g x) ⟨.int .i64 e0,.int .i64 e1,.string e2,.slice a7 n7 cap7,.slice a8 n8 cap8⟩ F)∧F.Nodup∧Hid (∀ b,b∈F→WK.heap.size≤b∧b < w6.heap.size)∧Hid (Below WK.heap.size WK w6)∧WK.heap.size≤w6.heap.size∧Hid (SInv (w.heap.size+3) (w.heap.size+2) w6 t.sort (.slice none 0 0) (.slice aK k capK) [] ((t.kids.take k).map g) xs G)∧w6.cell? ⟨w.heap.size+2,4,none⟩=some (.slice aK k capK)∧∀ ob,(w6.alloc ob).cell? ⟨w.heap.size+2,4,none⟩=some (.slice aK k capK):=by
     refine (xU HCL WK.drew ⟨_,_,_,_,_⟩ (xU HBWK).drew (Rep.carry (fun b hb=>(xU HBWK).drew.block b hb) (fun b hb=>Nat.lt_of_lt_of_le hb (xU HBWK).size) _ _ (xU HRP))).mono ?_
     rintro e w6 ⟨d,F,rfl,ho,hn1,hl1,hb1⟩
     have hb1':Below WK.heap.size WK w6:=(Below.refl _ WK).drew.trans hb1
     obtain ⟨a7,cap7,a8,cap8,rfl⟩:=ho.forms
     have hs6:=(xU HSK).kept (w':=w6) ⟨hb1'.os,hb1'.tape,hb1'.output,hb1'.size,fun i hi _=>hb1'.block i hi⟩
     exact ⟨_,_,_,_,_,_,_,_,_,F,rfl,ho,hn1,hl1,hb1',hb1'.size,hs6,hs6.cells.cell (i:=4) (by omega),fun ob=>(hs6.cells.alloc ob).cell (i:=4) (by omega)⟩
    have HCALL:=xH hcall
    clear hcall HCL HRP
    generalize g x=gx at *
    go_region_law (first
     | ((refine step_append_lies _ (by rfl) _ _ _ (by rfl) (w.heap.size+3) 29 i0 _ 5 80 Tryz.underlying27 (xU HII) (xU HZ0) (xU HZ1) (xU HZ2) rfl (by decide) (.slice aK k capK) k xs (by rfl) (by have:=(xU HS6).got.row;rw [xU HLK] at this;exact this.alloc _) ⟨w6.heap.size,0,none⟩ 1 1 (c5l ⟨.int .i64 e0,.int .i64 e1,.string e2,.slice a7 n7 cap7,.slice a8 n8 cap8⟩) (by rfl) (by rfl) (cell_five w6 _ _) (xU HOW).one (by decide) (by have:=xU HLEN;unfold maxLen;omega) (by have:=xU HLEN;omega) (by simp;omega) (w6.heap.size+1) (by simp) ?_;intro g2 cap2 w8 hown8 hgrow8 hat8 hlt8;have u4:=(SInv.atK (xU HS6) hgrow8).cell (i:=4) (by omega);have uz4:=(SInv.atK (xU HS6) hgrow8).frozen 4;simp only [row5] at u4))
     | (rw [if_pos (by first | rfl | simp [Region.wanted])];go_simp;refine (xU HCALL).mono ?_;rintro e w6 ⟨e0,e1,e2,a7,n7,cap7,a8,n8,cap8,F,rfl,HOW,hFn,HFL,HB6,hs6,HS6,t4c,t4d⟩))
    all_goals
     have hz6:∀ o,(w6.alloc o).heap.size=w6.heap.size+1:=fun o=>World.size_alloc _ _
     have hinv8:=SInv.kid (m:=WK.heap.size) ((xU HS6).kept (World.grownBy_alloc w6 (.cells #[.int .i64 e0,.int .i64 e1,.string e2,.slice a7 n7 cap7,.slice a8 n8 cap8] 29) none)) (Own.carry gx _ F (fun b hb=>Below.heap_alloc _ _ _ (xU HFL b hb).2) (xU HOW)) hFn (fun b hb=>⟨(xU HFL b hb).1,by rw [hz6];have:=(xU HFL b hb).2;omega⟩)
      (fun b hb=>((xU HSK).got.lt b hb).2.1) (fun b hb=>((xU HSK).got.row.lt b hb).2) (fun b hb=>((xU HSK).names.lt b hb).2) (xU HSK).size (by rw [xU HLK];exact hown8) hgrow8 (hat8.elim (fun e=>Or.inl (by rw [e];rfl)) (fun e=>Or.inr ⟨g2,rfl,by rw [hz6,e];exact Nat.le_refl _⟩))
     rw [← xU HTK] at hinv8
     have hb8:Below (w.heap.size+2) W0 (w8.setCell ⟨w.heap.size+2,4,none⟩ (.slice (some ⟨g2,0,none⟩) (k+1) cap2)) :=
      ((((xU HBK).trans ((xU HB6).mono (by omega))).alloc (by omega) (.cells #[.int .i64 e0,.int .i64 e1,.string e2,.slice a7 n7 cap7,.slice a8 n8 cap8] 29)).grown hgrow8 (by rw [hz6];omega) (fun b e=>by have:=((xU HS6).got.row.lt b e).1;omega)).setCell (by simp) _
     have HI8:=xH hinv8;have HB8:=xH hb8
     have ke:=wrkU (Nat.le_trans hk (Nat.le_trans (xU HLEN) (by decide)))
     clear hinv8 hb8 hown8 hgrow8 hat8 hlt8 u4 uz4 HS6 HOW HFL HB6 HSK HBK t4c t4d k0 k1 k2 k3 k4 t4 f0 f1 f2 f3 f4
     go_wp2_with fail
     go_roundw
     case rel=>exact ⟨k+1,some ⟨g2,0,none⟩,cap2,_,_,hlt,(by first | exact numU k | (rw [ke];exact numU k)),xU HI8,xU HB8⟩
     case measure=>first | exact measU hlt | (rw [ke];exact measU hlt)
  · obtain rfl:k=t.kids.length:=by omega
    have hmk:(t.kids.take t.kids.length).map g=t.kids.map g:=by rw [List.take_length]
    obtain ⟨F,hown,hnd,hFl⟩:=HS.out.done (xU HI0) (fun x hx=>by simp at hx)
    rw [hmk] at hown
    obtain ⟨t0,t1,t2,t3,t4⟩:=cs5 HS.out.cells (by omega)
    have q2:=(xU HR1).of_block (HB.out.block (w.heap.size+1) (by omega))
    have z:=q2.frozen
    obtain ⟨y0,y1,y2,y3,y4⟩:=cs5 q2 (by omega)
    simp only [row5] at t0 t1 t2 t3 t4 y0 y1 y2 y3 y4
    have HOWN:=xH hown;have HFL:=xH hFl;have HBX:=xH hbw
    clear hown hFl q2 hmk hbw
    go_wp2_with fail
    refine bodyPost_ret (v:=.agg #[.int .i64 t.sort,.int .i64 0,.string ⟨#[]⟩,.slice none 0 0,.slice aK t.kids.length capK]) (by simp [results,Tryz.results93,go_sem,y0,y1,y2,y3,y4]) rfl ⟨⟨_,_,_,_,_⟩,F,rfl,?_,hnd,?_,?_⟩
    · exact Own.carry _ _ F (fun b hb=>heap_set5s _ _ _ _ _ _ _ _ (by have:=(xU HFL b hb).1;omega)) (xU HOWN)
    · intro b hb
      rw [size_set5s]
      have:=xU HFL b hb;omega
    · exact below_set5s (xU HBX) _ _ _ _ _ _ (by omega)

theorem rep_tr0 (P:Nat→Prop) (w:World):Rep P w tr0 ⟨.int .i64 0,.int .i64 0,.string ⟨#[]⟩,.slice none 0 0,.slice none 0 0⟩:=by
 unfold tr0
 rw [Rep]
 exact ⟨rfl,rfl,rfl,⟨by decide,by decide⟩,⟨by decide,by decide⟩,by decide,⟨none,0,rfl,by simp,fun i hi=>by simp at hi⟩,none,0,rfl,by simp,fun h=>absurd rfl h⟩
theorem fldZ_no {t:Tr} {x:ByteArray} {i:Nat} (hr:t.names.Pairwise nlt) (h1:∀ j,j < i→Op.bytesLess (t.names.getD j x).toList x.toList=true) (h2:∀ j,i≤j→Op.bytesLess (t.names.getD j x).toList x.toList=false) (hn:¬ (i < t.names.length∧t.names.getD i x=x)):fldZ t x=tr0 :=
 fldZ_not (kidZ_not (k:=.mk 5 t.names []) hr h1 h2 hn).2
theorem fieldNamed_any (t:Tr) (c:C5) (w:World) (hr:Rep (fun x=>x < w.heap.size) w t c) (hrise:t.names.Pairwise nlt) (hlk:t.kids.length=t.names.length) (hl:t.names.length≤1000) (nm:ByteArray) :
 Calls Tryz.prog 77 #[.agg #[c.c0,c.c1,c.c2,c.c3,c.c4],.string nm] w fun e w'=>Below w.heap.size w w'∧∃ (y:C5),e=.returned (.agg #[y.c0,y.c1,y.c2,y.c3,y.c4])∧Rep (fun x=>x < w'.heap.size) w' (fldZ t nm) y:=by
 obtain ⟨a5,cap5,a6,cap6,rfl⟩:=hr.form
 obtain ⟨-,-,-,-,-,-,⟨a5',cap5',e3,-,hnc⟩,a6',cap6',e4,-,hks⟩:=hr.open
 simp only [Value.slice.injEq,true_and] at e3 e4
 obtain ⟨rfl,rfl⟩:=e3
 obtain ⟨rfl,rfl⟩:=e4
 obtain ⟨hr1,hr2,hbw,hsz⟩:=wd_boxes w t.sort t.num t.text a5 a6 t.names.length cap5 t.kids.length cap6
 have HNC:=xH hnc;have HKS:=xH hks;have HR:=xH hrise;have HL:=xH hl;have HLK:=xH hlk
 clear hnc hks hrise hl hlk hr hsz
 have k3:=hr1.cell (i:=3) (by omega)
 simp only [row5] at k3
 go_enter Tryz.func77,Tryz.ntmps77
 go_wp2_with fail
 generalize ((w.alloc (.cells #[.int .i64 t.sort,.int .i64 t.num,.string t.text,.slice a5 t.names.length cap5,.slice a6 t.kids.length cap6] 29)).alloc (.cells #[.int .i64 0,.int .i64 0,.string ⟨#[]⟩,.slice none 0 0,.slice none 0 0] 29))=W0 at hr1 hr2 hbw k3 ⊢
 refine (bs_any t.names (xU HR) (xU HL) a5 cap5 nm W0 (fun i hi=>?_)).mono ?_
 · obtain ⟨b,o,e,hpb,hc,-⟩:=xU HNC i hi
   exact ⟨b,o,e,by rw [hbw.cell hpb];exact hc⟩
 rintro e W1 ⟨hb1,p,hp,rfl,h1,h2⟩
 have hr11:=hr1.of_block (hb1.block _ hr1.lt)
 have hr21:=hr2.of_block (hb1.block _ hr2.lt)
 have hb01:Below w.heap.size w W1:=hbw.trans (hb1.mono hbw.size)
 clear hr1 hr2 hbw hb1 k3
 obtain ⟨m0,m1,m2,m3,m4⟩:=cs5 hr21 (by omega);have mf:=hr21.frozen
 have k4:=hr11.cell (i:=4) (by omega)
 simp only [row5] at m0 m1 m2 m3 m4 k4
 have HB:=xH hb01
 clear hr11 hr21 hb01
 by_cases hf:p < t.names.length∧t.names.getD p nm=nm
 · have hpk:p < t.kids.length:=by rw [xU HLK];exact hf.1
   obtain ⟨b,o,ck,rfl,hbl,hcell,hkid⟩:=xU HKS p hpk
   obtain ⟨x1,r1,x2,r2,rfl⟩:=hkid.form
   obtain ⟨y0,y1,y2,y3,y4⟩:=hcell.carry ((xU HB).block b hbl)
   simp only at y0 y1 y2 y3 y4
   have hz:fldZ t nm=t.kids[p]:=fldZ_at (xU HR) (xU HLK) hf.1 (by have:=hf.2;rwa [List.getD_eq_getElem?_getD,List.getElem?_eq_getElem hf.1,Option.getD_some] at this)
   rw [decide_eq_true hf]
   have HZ:=xH hz
   have HKID:=xH hkid
   have hne1:b≠w.heap.size+1:=by have:b < w.heap.size:=hbl;omega
   have hne2:w.heap.size+1≠b:=by have:b < w.heap.size:=hbl;omega
   clear hkid hf h1 h2 hp hz hbl hcell
   generalize t.kids[p]=x at *
   go_wp2_with fail
   refine bodyPost_ret (v:=.agg #[.int .i64 x.sort,.int .i64 x.num,.string x.text,.slice x1 x.names.length r1,.slice x2 x.kids.length r2]) (by simp [results,Tryz.results77,go_sem,m0,m1,m2,m3,m4]) rfl ?_
   have hbe:=below_set5s (xU HB) (w.heap.size+1) (.int .i64 x.sort) (.int .i64 x.num) (.string x.text) (.slice x1 x.names.length r1) (.slice x2 x.kids.length r2) (Nat.le_succ _)
   refine ⟨hbe,⟨.int .i64 x.sort,.int .i64 x.num,.string x.text,.slice x1 x.names.length r1,.slice x2 x.kids.length r2⟩,rfl,?_⟩
   rw [xU HZ]
   exact Rep.carry (fun z hz=>hbe.block z hz) (fun z hz=>Nat.lt_of_lt_of_le hz hbe.size) _ _ (xU HKID)
 · rw [decide_eq_false hf]
   have HZ:=xH (fldZ_no (xU HR) h1 h2 hf)
   clear hf h1 h2 hp
   go_wp2_with fail
   refine bodyPost_ret (v:=.agg #[.int .i64 0,.int .i64 0,.string ⟨#[]⟩,.slice none 0 0,.slice none 0 0]) (by simp [results,Tryz.results77,go_sem,m0,m1,m2,m3,m4]) rfl ?_
   refine ⟨below_set5s (xU HB) (w.heap.size+1) _ _ _ _ _ (Nat.le_succ _),⟨.int .i64 0,.int .i64 0,.string ⟨#[]⟩,.slice none 0 0,.slice none 0 0⟩,rfl,?_⟩
   rw [xU HZ]
   exact rep_tr0 _ _
end Go.Proofs.YteefjeddboefcaaGreatDoor
