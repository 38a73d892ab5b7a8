/- A part. -/
import Derived.Test.YteefjeddboefcaaGreatDoorPart08
namespace Go.Proofs.YteefjeddboefcaaGreatDoor
open Go Go.RowKit
set_option maxRecDepth 100000
set_option maxHeartbeats 3200000
theorem name_push {R j q g1 capN cap1:Nat} {w W0 wr w4:World} {s:Int} {aN:Option Addr} {vK:Value} {ns:List ByteArray} {ts:List Tr} {xs:List Value} {G:List Nat} {nm:ByteArray} {v:Value} {b:List UInt8} (hR:R < w.heap.size)
 (hS:SInv (w.heap.size+3) (w.heap.size+2) wr s (.slice aN j capN) vK ns ts xs G) (hD:DR R wr v b q) (hB:BB R (w.heap.size+2) W0 wr) (hl:ns.length=j)
 (hown:w4.ownsRow (w.heap.size+3) 9 1 (.slice (some ⟨g1,0,none⟩) (j+1) cap1) (j+1) (ns.map Value.string++[.string nm])) (hg:(wr.drew.alloc (.cells #[.string nm] 9)).grownBy w4 (Value.slice aN j capN).ownBlock) (hat:(Value.slice aN j capN).ownBlock=some g1∨g1=wr.heap.size+1) :
 SInv (w.heap.size+3) (w.heap.size+2) (w4.setCell ⟨w.heap.size+2,3,none⟩ (.slice (some ⟨g1,0,none⟩) (j+1) cap1)) s (.slice (some ⟨g1,0,none⟩) (j+1) cap1) vK (ns++[nm]) ts xs G∧DR R (w4.setCell ⟨w.heap.size+2,3,none⟩ (.slice (some ⟨g1,0,none⟩) (j+1) cap1)) v b q∧BB R (w.heap.size+2) W0 (w4.setCell ⟨w.heap.size+2,3,none⟩ (.slice (some ⟨g1,0,none⟩) (j+1) cap1)):=by
 have hz:∀ o,(wr.drew.alloc o).heap.size=wr.heap.size+1:=fun o=>by rw [World.size_alloc];rfl
 have hsz:=hS.size
 have hSD:SInv (w.heap.size+3) (w.heap.size+2) wr.drew s (.slice aN j capN) vK ns ts xs G:=hS.kept ⟨rfl,rfl,rfl,Nat.le_refl _,fun _ _ _=>rfl⟩
 have hal:=World.grownBy_alloc wr.drew (.cells #[.string nm] 9) none
 have hrow:∀ x,(Value.slice aN j capN).ownBlock=some x→w.heap.size+3≤x:=fun x e=>(hSD.names.lt x e).1
 have hwd:w.heap.size+3≤wr.drew.heap.size:=hsz
 refine ⟨SInv.name (hSD.kept hal) (by rw [hl];exact hown) hg (hat.elim (fun e=>Or.inl (by rw [e];rfl)) (fun e=>Or.inr ⟨g1,rfl,by rw [hz,e];exact Nat.le_refl _⟩)),?_,?_⟩
 · exact (((hD.on (Below.refl _ wr).drew).on ((Below.refl _ wr.drew).alloc (Nat.le_refl _) _)).grown hg (fun x e=>by have:=hrow x e;omega)).set (by omega) _ _
 · exact ((hB.drew.grown hal (by omega) (fun x e=>by cases e)).grown hg (by rw [hz];omega) (fun x e=>by have:=hrow x e;omega)).set (by omega) _
theorem lt_5 (n:Nat) (IH:LtSaid n) (k:Kd) (hn:ksz k≤n) (hs5:k.sort=5) (hkl:k.kids.length=k.names.length) (hri:riseB k.names=true) (hbig:k.names.length≤1000000) (P:Nat→Prop) (c:C3) (w:World) (R:Nat) (v:Value) (b:List UInt8) (p:Nat) (hP:∀ x,P x→x < w.heap.size∧x≠R) (hrep:KRep P w k c) (hok:okDs k.kids=true) (hd:DR R w v b p) (hp:p+ndr k≤1000000) :
 Calls Tryz.prog 18 #[.pointer (some ⟨R,0,none⟩),.agg #[c.c0,c.c1,c.c2]] w fun e w'=>TsEnd (ndr k) R w w' v b p e:=by
 have hR:=hd.cells.lt
 have hndk:=nd_eq k
 have hns8:∀ x,x∈k.names→x.size≤9223372036854775807:=fun x hx=>by
  obtain ⟨i,hi,rfl⟩:=List.getElem_of_mem hx
  have:=rise_size hri i hi
  omega
 obtain ⟨c0,c1,c2⟩:=c
 obtain ⟨e0,hi0,hns,a,cap,e2,-,hks⟩:=hrep.open
 simp only at e0 e2 hns
 obtain ⟨a3,cap3,e1,-,hnc⟩:=hns
 subst e0 e1 e2
 obtain ⟨i0,hi,hz0,hz1,hz2⟩:=info_parts infoTreeD
 obtain ⟨j0,hj,hy0,hy1,hy2⟩:=info_parts infoStr1
 have HII:=xH hi;have HZ0:=xH hz0;have HZ1:=xH hz1;have HZ2:=xH hz2
 have HJJ:=xH hj;have HY0:=xH hy0;have HY1:=xH hy1;have HY2:=xH hy2
 have HST:=xH (LS.start w 5 (.slice a3 k.names.length cap3) (.slice a k.kids.length cap));have HD:=xH hd;have HP:=xH hP;have HI:=xH IH;have HK:=xH hks;have HNC:=xH hnc;have HOK:=xH hok;have HNS8:=xH hns8;have HN:=xH hn;have HKL:=xH hkl;have HNDK:=xH hndk;have HPP:=xH hp
 rw [hs5]
 clear hi hz0 hz1 hz2 hj hy0 hy1 hy2 hks hnc hrep hd hi0 hP hok IH hn hs5 hkl hri hns8 hndk hp
 go_enter Tryz.func18,Tryz.ntmps18
 go_wp2_with fail
 generalize hW0:(((w.alloc (.cells #[.int .i64 5,.slice a3 k.names.length cap3,.slice a k.kids.length cap] 26)).alloc (.cells #[.int .i64 0,.int .i64 0,.string ⟨#[]⟩,.slice none 0 0,.slice none 0 0] 29)).alloc (.cells #[.int .i64 5,.int .i64 0,.string ⟨#[]⟩,.slice none 0 0,.slice none 0 0] 29))=W0 at *
 clear hW0
 have hsz0:=(xU HST).size
 have HS0:Hid (SInv (w.heap.size+3) (w.heap.size+2) W0 5 (.slice none 0 0) (.slice none 0 0) [] [] [] []):=⟨by omega,(xU HST).r2,World.ownsRow_nil _ _ _ _,GotO.start _ _,fun b hb=>by simp [Value.ownBlock] at hb,by omega⟩
 have HD0:=xH ((xU HD).on (xU HST).bl)
 clear HD
 go_loopw [7] (fun nn wr=>∃ (j q:Nat) (aN:Option Addr) (capN:Nat) (aK:Option Addr) (capK:Nat) (ts:List Tr) (xs:List Value) (G:List Nat),j≤k.names.length∧nn=.int .i64 j∧ts.length=j∧q≤p+nds (k.kids.take j)∧Hid (lsz ts≤nds (k.kids.take j)∧nmK ts)∧Hid (SInv (w.heap.size+3) (w.heap.size+2) wr 5 (.slice aN j capN) (.slice aK j capK) (k.names.take j) ts xs G)∧Hid (DR R wr v b q)∧Hid (BB R (w.heap.size+2) W0 wr)) (fun nn _=>k.names.length - (intOf nn).toNat)
 case atStart=>exact ⟨0,p,none,0,none,0,[],[],[],Nat.zero_le _,rfl,rfl,by omega,xH ⟨by simp [lsz],by rw [nmK];trivial⟩,HS0,HD0,BB.refl _ _ _⟩
 case round =>
  clear HS0 HD0
  obtain ⟨j,q,aN,capN,aK,capK,ts,xs,G,hjl,rfl,hlen,hq,HZ,HS,HD,HB⟩:=hrel
  have hsz:=HS.out.size
  have q0:=(xU HST).r0.of_block (HB.out.block w.heap.size (by omega) (by omega))
  have k1:=q0.cell (i:=1) (by omega);have k2:=q0.cell (i:=2) (by omega)
  have t3:=HS.out.cells.cell (i:=3) (by omega);have t4:=HS.out.cells.cell (i:=4) (by omega)
  simp only [row3,row5] at k1 k2 t3 t4
  have HQ:=xH hq
  clear hq q0
  by_cases hlt:j < k.names.length
  · obtain ⟨nb,no,rfl,hpn,hcn,-⟩:=xU HNC j hlt
    have hold:∀ x,P x→wr.heap[x]? = w.heap[x]? := fun x hx=>by
     have h:=xU HP x hx
     exact (HB.out.block x (by omega) h.2).trans ((xU HST).bl.block x h.1)
    have en:wr.cell? ⟨nb,no+j,none⟩=some (.string k.names[j]):=by rw [World.cell?_of_block (w:=w) (a:=⟨nb,no+j,none⟩) (hold nb hpn)];exact hcn
    have htn:k.names.take (j+1)=k.names.take j++[k.names[j]]:=List.take_succ_eq_append_getElem hlt
    have hln:(k.names.take j).length=j:=by simp;omega
    generalize k.names[j]=nm at *
    have HTN:=xH htn;have HLN:=xH hln
    have HSD:Hid (SInv (w.heap.size+3) (w.heap.size+2) wr.drew 5 (.slice aN j capN) (.slice aK j capK) (k.names.take j) ts xs G):=HS.out.kept ⟨rfl,rfl,rfl,Nat.le_refl _,fun _ _ _=>rfl⟩
    have t3a:∀ ob,(wr.alloc ob).cell? ⟨w.heap.size+2,3,none⟩=some (.slice aN j capN):=fun ob=>((HS.out.cells.alloc ob).cell (i:=3) (by omega))
    clear hpn hcn htn hln hold
    go_upto_region 21 with fail
    go_cut [] from 62 to 90 (fun wx=>∃ g1 cap1,Hid (SInv (w.heap.size+3) (w.heap.size+2) wx 5 (.slice (some ⟨g1,0,none⟩) (j+1) cap1) (.slice aK j capK) (k.names.take (j+1)) ts xs G)∧Hid (DR R wx v b q)∧Hid (BB R (w.heap.size+2) W0 wx))
    case first =>
     go_region_law ((refine step_append_lies _ (by rfl) _ _ _ (by rfl) (w.heap.size+3) 9 j0 (.string ByteArray.empty) 1 16 Tryz.underlying23 (xU HJJ) (xU HY0) (xU HY1) (xU HY2) rfl (by decide) (.slice aN j capN) j ((k.names.take j).map Value.string) (by rfl) (by have:=HSD.out.names;rw [xU HLN] at this;exact this.alloc _) ⟨wr.heap.size,0,none⟩ 1 1 [.string nm] (by rfl) (by rfl) (cell_one wr.drew _ _) (fun u hu=>by simp at hu;subst hu;rfl) (by decide) (by unfold maxLen;omega) (by omega) (by simp;omega) (wr.heap.size+1) (by simp) ?_;intro g1 cap1 w4 hown4 hgrow4 hat4 hlt4;have u3:=(SInv.atN HSD.out hgrow4).cell (i:=3) (by omega);have uz:=(SInv.atN HSD.out hgrow4).frozen 3;simp only [row5] at u3))
     all_goals
      obtain ⟨hinv5,hd5,hb5⟩:=name_push hR HS.out HD.out HB.out (xU HLN) hown4 hgrow4 hat4
      rw [← xU HTN] at hinv5
      have HI5:=xH hinv5;have HD5:=xH hd5;have HB5:=xH hb5
      clear hinv5 hd5 hb5 hown4 hgrow4 hat4 hlt4 uz u3
      go_wp2_with fail
      go_meet
      exact ⟨g1,cap1,HI5,HD5,HB5⟩
    case rest =>
     obtain ⟨g1,cap1,HS5,HD5,HB5⟩:=hcut
     clear HSD HS HB HD t3 t4 t3a k1 k2 en
     have hlk:j < k.kids.length:=by have:=xU HKL;omega
     have hsz5:=HS5.out.size
     have hold:∀ x,P x→wc.heap[x]? = w.heap[x]? := fun x hx=>by
      have h:=xU HP x hx
      exact (HB5.out.block x (by omega) h.2).trans ((xU HST).bl.block x h.1)
     obtain ⟨kb,ko,⟨d0,d1,d2⟩,rfl,hpb,hcell,hrp⟩:=xU HK j hlk
     have hcell':=hcell.carry (hold kb hpb)
     have hrw:KRep P wc.drew k.kids[j] ⟨d0,d1,d2⟩:=KRep.carry (w':=wc.drew) hold (fun _ h=>h) _ _ hrp
     obtain ⟨p0,-,⟨a5,cap5,p1,-⟩,a6,cap6,p2,-⟩:=hrp.open
     simp only at p0 p1 p2
     subst p0 p1 p2
     obtain ⟨f0,f1,f2⟩:=hcell'
     simp only at f0 f1 f2
     have hsm:ksz k.kids[j] < n:=by have:=ksz_kid (List.getElem_mem hlk);have:=xU HN;omega
     have q0:=(xU HST).r0.of_block (HB5.out.block w.heap.size (by omega) (by omega))
     have k2:=q0.cell (i:=2) (by omega)
     have t4:=HS5.out.cells.cell (i:=4) (by omega)
     simp only [row3,row5] at k2 t4
     have hnt:=nds_take k.kids j hlk
     have hnl:=nds_le k.kids (j+1)
     have hqb:q+ndr k.kids[j]≤1000000:=by have:=xU HQ;have:=xU HNDK;have:=xU HPP;omega
     have hcall:Calls Tryz.prog 18 #[.pointer (some ⟨R,0,none⟩),.agg #[.int .i64 k.kids[j].sort,.slice a5 k.kids[j].names.length cap5,.slice a6 k.kids[j].kids.length cap6]] wc.drew fun e w6=>∃ e0 e1 e2 a7 n7 cap7 a8 n8 cap8 tk F q',e=.returned (.agg #[.int .i64 e0,.int .i64 e1,.string e2,.slice a7 n7 cap7,.slice a8 n8 cap8])∧Hid (Own w6 tk ⟨.int .i64 e0,.int .i64 e1,.string e2,.slice a7 n7 cap7,.slice a8 n8 cap8⟩ F)∧F.Nodup∧Hid (∀ x,x∈F→wc.heap.size≤x∧x < w6.heap.size)∧Hid (BB R (w.heap.size+2) W0 w6)∧wc.heap.size≤w6.heap.size∧Hid (SInv (w.heap.size+3) (w.heap.size+2) w6 5 (.slice (some ⟨g1,0,none⟩) (j+1) cap1) (.slice aK j capK) (k.names.take (j+1)) ts xs G)∧Hid (DR R w6 v b q')∧Hid (tsz tk≤ndr k.kids[j]∧nmT tk)∧Hid (q'≤q+ndr k.kids[j])∧w6.cell? ⟨w.heap.size+2,4,none⟩=some (.slice aK j capK)∧∀ ob,(w6.alloc ob).cell? ⟨w.heap.size+2,4,none⟩=some (.slice aK j capK):=by
      refine (xU HI k.kids[j] hsm P ⟨_,_,_⟩ wc.drew R v b q (fun x hx=>⟨by have:=(xU HP x hx).1;show x < wc.heap.size;omega,(xU HP x hx).2⟩) hrw (okDs_get (xU HOK) j hlk) (HD5.out.on (Below.refl _ wc).drew) hqb).mono ?_
      rintro e w6 ⟨tk,⟨y0,y1,y2,y3,y4⟩,F,q',rfl,ho,hn1,hl1,hd6,hq6,hb6,hz6⟩
      obtain ⟨z0,z1,z2,-,-,-,-,-,-,⟨a7,cap7,z3,-⟩,a8,cap8,z4,-⟩:=ho.open
      simp only at z0 z1 z2 z3 z4
      subst z0 z1 z2 z3 z4
      have hbw:But R wc w6:=(But.of_below (Below.refl _ wc).drew).trans hb6
      have hs6:=HS5.out.butD hbw (by omega)
      exact ⟨_,_,_,_,_,_,_,_,_,tk,F,q',rfl,ho,hn1,hl1,HB5.out.trans (hbw.bb (by omega)),hbw.size,hs6,hd6,hz6,hq6,hs6.cells.cell (i:=4) (by omega),fun ob=>(hs6.cells.alloc ob).cell (i:=4) (by omega)⟩
     have HNT:=xH hnt
     generalize k.kids[j]=kk at *
     have HCALL:=xH hcall
     clear hcall hcell hrp hrw hsm q0 hpb hold hnt hnl hqb
     go_wp2_with fail
     go_region_law (first
      | ((refine step_append_lies _ (by rfl) _ _ _ (by rfl) (w.heap.size+3) 29 i0 _ 5 80 Tryz.underlying27 (xU HII) (xU HZ0) (xU HZ1) (xU HZ2) rfl (by decide) (.slice aK j capK) j xs (by rfl) (by have:=(xU HS6).got.row;rw [hlen] at this;exact this.alloc _) ⟨w6.heap.size,0,none⟩ 1 1 (c5l ⟨.int .i64 e0,.int .i64 e1,.string e2,.slice a7 n7 cap7,.slice a8 n8 cap8⟩) (by rfl) (by rfl) (cell_five w6 _ _) (xU HOW).one (by decide) (by unfold maxLen;omega) (by omega) (by simp;omega) (w6.heap.size+1) (by simp) ?_;intro g2 cap2 w8 hown8 hgrow8 hat8 hlt8;have u4:=(SInv.atK (xU HS6) hgrow8).cell (i:=4) (by omega);have uz4:=(SInv.atK (xU HS6) hgrow8).frozen 4;simp only [row5] at u4))
      | (rw [if_pos (by first | rfl | simp [Region.wanted])];go_simp;refine (xU HCALL).mono ?_;rintro e w6 ⟨e0,e1,e2,a7,n7,cap7,a8,n8,cap8,tk,F,q',rfl,HOW,hFn,HFL,HB6,hs6,HS6,HD6,HZ6,HQ6,t4c,t4d⟩))
     all_goals
      obtain ⟨hinv8,hd8,hb8⟩:=kid_push hR HS5.out (xU HS6) (xU HOW) hFn (xU HFL) (xU HD6) (xU HB6) hlen hown8 hgrow8 hat8
      have HI8:=xH hinv8;have HD8:=xH hd8;have HB8:=xH hb8
      clear hinv8 hd8 hb8 hown8 hgrow8 hat8 hlt8 u4 uz4 HS6 HOW HFL HB6 HD6 HS5 HB5 HD5 t4c t4d
      go_wp2_with fail
      go_roundw
      case rel=>exact ⟨j+1,q',some ⟨g1,0,none⟩,cap1,some ⟨g2,0,none⟩,cap2,ts++[tk],_,_,by omega,by go_num,by simp [hlen],by rw [xU HNT];have:=xU HQ;have:=HQ6.out;omega,xH ⟨by rw [lsz_snoc,xU HNT];have:=HZ.out.1;have:=HZ6.out.1;omega,nmK_snoc HZ.out.2 HZ6.out.2⟩,HI8,HD8,HB8⟩
      case measure=>simp [intOf];omega
  · obtain rfl:j=k.names.length:=by omega
    have q1:=(xU HST).r1.of_block (HB.out.block (w.heap.size+1) (by omega) (by omega))
    obtain ⟨y0,y1,y2,y3,y4⟩:=cs5 q1 (by omega);have yf:=q1.frozen
    obtain ⟨t0,t1,t2⟩:=cs3 HS.out.cells (by omega)
    simp only [row5] at y0 y1 y2 y3 y4 t0 t1 t2
    have HEND:=xH (fun c0 c1 c2 c3 c4=>gathered_end (N:=ndr k) (p:=p) ⟨by decide,by decide⟩ hR (xU HST).bl HS.out (fun x hx=>xU HNS8 x (List.mem_of_mem_take hx)) HD.out HB.out (by have:=xU HQ;have:=nds_le k.kids k.names.length;have:=xU HNDK;omega) (by have:=HZ.out.1;have:=nds_le k.kids k.names.length;have:=xU HNDK;omega) (by simpa using hbig) HZ.out.2 c0 c1 c2 c3 c4)
    clear HS HD HB q1 HST
    go_wp2_with fail
    refine bodyPost_ret (v:=.agg #[.int .i64 5,.int .i64 0,.string ByteArray.empty,.slice aN k.names.length capN,.slice aK k.names.length capK]) (by simp [results,Tryz.results18,go_sem,y0,y1,y2,y3,y4];rfl) rfl ?_
    exact xU HEND _ _ _ _ _
theorem lt_step (n:Nat) (IH:LtSaid n):LtSaid (n+1):=by
 intro k hn P c w R v b p hP hrep ho hd hp
 rw [okD_eq,Bool.and_eq_true] at ho
 have hbig:k.names.length≤1000000∨k.sort≠5:=by
  rcases shB_cases ho.1 with ⟨h,-,-⟩ | ⟨h,-,-⟩ | ⟨h,h2,-⟩
  · exact Or.inr (by omega)
  · exact Or.inr (by omega)
  · left
    rw [← h2]
    have:∀ l:List Kd,l.length≤nds l:=by
     intro l
     induction l with
     | nil=>simp
     | cons a r ih=>rw [nds,List.length_cons,nd_eq];omega
    have:=this k.kids
    rw [nd_eq] at hp
    omega
 rcases shB_cases ho.1 with ⟨h,-,-⟩ | ⟨h,h1,-⟩ | ⟨h,h2,h3⟩
 · exact lt_123 k h P c w R v b p hrep hd hp
 · rcases h with h | h
   · exact lt_4 n IH k (by omega) h h1 P c w R v b p hP hrep ho.2 hd hp
   · exact lt_6 n IH k (by omega) h h1 P c w R v b p hP hrep ho.2 hd hp
 · exact lt_5 n IH k (by omega) h h2 h3 (hbig.resolve_right (by omega)) P c w R v b p hP hrep ho.2 hd hp
theorem lt_all:∀ n,LtSaid n
 | 0=>fun k h=>by omega
 | n+1=>lt_step n (lt_all n)

def TL5 (P:Nat→Prop) (w:World) (ts:List Tr) (xs:List Value):Prop :=
 xs.length=ts.length * 5∧∀ i,(hi:i < ts.length)→∃ c:C5,xs[i * 5]? = some c.c0∧xs[i * 5+1]? = some c.c1∧xs[i * 5+2]? = some c.c2∧xs[i * 5+3]? = some c.c3∧xs[i * 5+4]? = some c.c4∧Rep P w ts[i] c
theorem TL5.nil (P:Nat→Prop) (w:World):TL5 P w [] []:=⟨rfl,fun i hi=>by simp at hi⟩
theorem TL5.carry {P Q:Nat→Prop} {w w':World} {ts:List Tr} {xs:List Value} (h:TL5 P w ts xs) (hP:∀ b,P b→w'.heap[b]? = w.heap[b]?) (hQ:∀ b,P b→Q b):TL5 Q w' ts xs :=
 ⟨h.1,fun i hi=>by obtain ⟨c,h0,h1,h2,h3,h4,h5⟩:=h.2 i hi;exact ⟨c,h0,h1,h2,h3,h4,Rep.carry hP hQ _ _ h5⟩⟩
theorem TL5.of {P:Nat→Prop} {w:World} {b:Nat}:∀ (ts:List Tr) (o:Nat),RepK P w b o ts→∃ xs,TL5 P w ts xs∧(∀ j u,xs[j]? = some u→w.cell? ⟨b,o+j,none⟩=some u)∧∀ u∈xs,u.oneCell'=true
 | [],o,_=>⟨[],TL5.nil P w,fun j u h=>by simp at h,fun u h=>by cases h⟩
 | t::r,o,h=>by
   rw [RepK] at h
   obtain ⟨⟨c,⟨a0,a1,a2,a3,a4⟩,hr⟩,h2⟩:=h
   obtain ⟨ys,⟨hl,hy⟩,hc,h1c⟩:=TL5.of r (o+5) h2
   obtain ⟨e0,e1,e2,-,-,-,⟨b3,cap3,e3,-⟩,b4,cap4,e4,-⟩:=hr.open
   refine ⟨c.c0::c.c1::c.c2::c.c3::c.c4::ys,⟨by simp [hl];omega,fun i hi=>?_⟩,fun j u hj=>?_,fun u hu=>?_⟩
   · cases i with
     | zero=>exact ⟨c,rfl,rfl,rfl,rfl,rfl,hr⟩
     | succ i =>
       obtain ⟨d,q0,q1,q2,q3,q4,q5⟩:=hy i (by simpa using hi)
       refine ⟨d,?_,?_,?_,?_,?_,q5⟩
       · rw [show (i+1) * 5=i * 5+5 from by omega];simpa using q0
       · rw [show (i+1) * 5+1=i * 5+1+5 from by omega];simpa using q1
       · rw [show (i+1) * 5+2=i * 5+2+5 from by omega];simpa using q2
       · rw [show (i+1) * 5+3=i * 5+3+5 from by omega];simpa using q3
       · rw [show (i+1) * 5+4=i * 5+4+5 from by omega];simpa using q4
   · match j with
     | 0=>simp at hj;subst hj;exact a0
     | 1=>simp at hj;subst hj;exact a1
     | 2=>simp at hj;subst hj;exact a2
     | 3=>simp at hj;subst hj;exact a3
     | 4=>simp at hj;subst hj;exact a4
     | j+5 =>
       have:=hc j u (by simpa using hj)
       rw [show o+(j+5)=o+5+j from by omega];exact this
   · rcases List.mem_cons.1 hu with rfl | hu
     · rw [e0];rfl
     rcases List.mem_cons.1 hu with rfl | hu
     · rw [e1];rfl
     rcases List.mem_cons.1 hu with rfl | hu
     · rw [e2];rfl
     rcases List.mem_cons.1 hu with rfl | hu
     · rw [e3];rfl
     rcases List.mem_cons.1 hu with rfl | hu
     · rw [e4];rfl
     exact h1c u hu
theorem TL5.back {P:Nat→Prop} {w:World} {g:Nat} {ts:List Tr} {xs:List Value} (h:TL5 P w ts xs) (hc:∀ j u,xs[j]? = some u→w.cell? ⟨g,j,none⟩=some u):RepK P w g 0 ts :=
 RepK.mk fun i hi=>by
  obtain ⟨c,h0,h1,h2,h3,h4,h5⟩:=h.2 i hi
  exact ⟨c,⟨by rw [Nat.zero_add];exact hc _ _ h0,by rw [Nat.zero_add];exact hc _ _ h1,by rw [Nat.zero_add];exact hc _ _ h2,by rw [Nat.zero_add];exact hc _ _ h3,by rw [Nat.zero_add];exact hc _ _ h4⟩,h5⟩
theorem TL5.snoc {P:Nat→Prop} {w:World} {ts:List Tr} {xs:List Value} {t:Tr} {c:C5} (h:TL5 P w ts xs) (hk:Rep P w t c):TL5 P w (ts++[t]) (xs++c5l c):=by
 obtain ⟨hl,h2⟩:=h
 refine ⟨by simp [hl,c5l];omega,fun i hi=>?_⟩
 simp only [List.length_append,List.length_cons,List.length_nil] at hi
 by_cases e:i < ts.length
 · obtain ⟨d,q0,q1,q2,q3,q4,q5⟩:=h2 i e
   refine ⟨d,?_,?_,?_,?_,?_,?_⟩
   · rw [List.getElem?_append_left (by omega)];exact q0
   · rw [List.getElem?_append_left (by omega)];exact q1
   · rw [List.getElem?_append_left (by omega)];exact q2
   · rw [List.getElem?_append_left (by omega)];exact q3
   · rw [List.getElem?_append_left (by omega)];exact q4
   · rw [List.getElem_append_left e];exact q5
 · obtain rfl:i=ts.length:=by omega
   refine ⟨c,?_,?_,?_,?_,?_,?_⟩
   · rw [List.getElem?_append_right (by omega),hl];simp [c5l]
   · rw [List.getElem?_append_right (by omega),hl];simp [c5l,show ts.length * 5+1 - ts.length * 5=1 from by omega]
   · rw [List.getElem?_append_right (by omega),hl];simp [c5l,show ts.length * 5+2 - ts.length * 5=2 from by omega]
   · rw [List.getElem?_append_right (by omega),hl];simp [c5l,show ts.length * 5+3 - ts.length * 5=3 from by omega]
   · rw [List.getElem?_append_right (by omega),hl];simp [c5l,show ts.length * 5+4 - ts.length * 5=4 from by omega]
   · simpa using hk
theorem TL5.put {P:Nat→Prop} {w:World} {ts:List Tr} {xs:List Value} {t:Tr} {c:C5} {i:Nat} (h:TL5 P w ts xs) (hi:i < ts.length) (hk:Rep P w t c):TL5 P w (ts.set i t) (((((xs.set (i * 5) c.c0).set (i * 5+1) c.c1).set (i * 5+2) c.c2).set (i * 5+3) c.c3).set (i * 5+4) c.c4):=by
 obtain ⟨hl,h2⟩:=h
 refine ⟨by simp [hl],fun j hj=>?_⟩
 rw [List.length_set] at hj
 by_cases e:i=j
 · subst e
   refine ⟨c,?_,?_,?_,?_,?_,by simpa using hk⟩
   · rw [List.getElem?_set_ne (by omega),List.getElem?_set_ne (by omega),List.getElem?_set_ne (by omega),List.getElem?_set_ne (by omega),List.getElem?_set_self (by omega)]
   · rw [List.getElem?_set_ne (by omega),List.getElem?_set_ne (by omega),List.getElem?_set_ne (by omega),List.getElem?_set_self (by simp;omega)]
   · rw [List.getElem?_set_ne (by omega),List.getElem?_set_ne (by omega),List.getElem?_set_self (by simp;omega)]
   · rw [List.getElem?_set_ne (by omega),List.getElem?_set_self (by simp;omega)]
   · rw [List.getElem?_set_self (by simp;omega)]
 · obtain ⟨d,q0,q1,q2,q3,q4,q5⟩:=h2 j hj
   refine ⟨d,?_,?_,?_,?_,?_,by rw [List.getElem_set_ne e];exact q5⟩
   · repeat rw [List.getElem?_set_ne (by omega)]
     exact q0
   · repeat rw [List.getElem?_set_ne (by omega)]
     exact q1
   · repeat rw [List.getElem?_set_ne (by omega)]
     exact q2
   · repeat rw [List.getElem?_set_ne (by omega)]
     exact q3
   · repeat rw [List.getElem?_set_ne (by omega)]
     exact q4
theorem rep_leafD {P:Nat→Prop} {W:World} (s n:Int) (tx:ByteArray) (hs:I64 s) (hn:I64 n) (ht:tx.size≤9223372036854775807):Rep P W (.mk s n tx [] []) ⟨.int .i64 s,.int .i64 n,.string tx,.slice none 0 0,.slice none 0 0⟩:=by
 rw [Rep]
 exact ⟨rfl,rfl,rfl,hs,hn,ht,⟨none,0,rfl,by simp,fun i hi=>by simp at hi⟩,none,0,rfl,by simp,fun h=>absurd rfl h⟩

structure G5 (base A:Nat) (Q:Nat→Prop) (w0 wr:World) (c0 c1 c2 c3:Value) (aK:Option Addr) (j capK:Nat) (ts:List Tr) (xs:List Value):Prop where
 box:wr.rowIs A 29 5 (row5 c0 c1 c2 c3 (.slice aK j capK))
 own:wr.ownsRow base 29 5 (.slice aK j capK) j xs
 tl:TL5 Q wr ts xs
 len:ts.length=j
 lt:A < base∧base≤wr.heap.size
 q:∀ x,Q x→x < base∧x≠A
 old:BB A base w0 wr
theorem G5.at {base A:Nat} {Q:Nat→Prop} {w0 wr w8:World} {c0 c1 c2 c3:Value} {aK:Option Addr} {j capK:Nat} {ts:List Tr} {xs:List Value} (h:G5 base A Q w0 wr c0 c1 c2 c3 aK j capK ts xs) {o:Obj} (hg:(wr.alloc o).grownBy w8 (Value.slice aK j capK).ownBlock):w8.rowIs A 29 5 (row5 c0 c1 c2 c3 (.slice aK j capK)) :=
 (h.box.alloc o).of_block (hg.block A (h.box.alloc o).lt (fun e=>by have:=(h.own.lt A e.symm).1;have:=h.lt.1;omega))
theorem G5.push {base A g cap:Nat} {Q:Nat→Prop} {w0 wr w8:World} {c0 c1 c2 c3:Value} {aK:Option Addr} {j capK:Nat} {ts:List Tr} {xs:List Value} {t:Tr} {c:C5} (h:G5 base A Q w0 wr c0 c1 c2 c3 aK j capK ts xs) (hr:Rep Q wr t c) {o:Obj}
 (hown:w8.ownsRow base 29 5 (.slice (some ⟨g,0,none⟩) (j+1) cap) (j+1) (xs++c5l c)) (hg:(wr.alloc o).grownBy w8 (Value.slice aK j capK).ownBlock) :
 G5 base A Q w0 (w8.setCell ⟨A,4,none⟩ (.slice (some ⟨g,0,none⟩) (j+1) cap)) c0 c1 c2 c3 (some ⟨g,0,none⟩) (j+1) cap (ts++[t]) (xs++c5l c):=by
 have hlt:=h.lt
 have hz:(wr.alloc o).heap.size=wr.heap.size+1:=World.size_alloc _ _
 have hsz:=hg.size
 have hrow:∀ x,(Value.slice aK j capK).ownBlock=some x→base≤x:=fun x e=>(h.own.lt x e).1
 have hgl:=hown.lt g rfl
 have hkeep:∀ x,Q x→(w8.setCell ⟨A,4,none⟩ (.slice (some ⟨g,0,none⟩) (j+1) cap)).heap[x]? = wr.heap[x]? := fun x hx=>by
  have hq:=h.q x hx
  rw [Below.heap_setCell _ _ _ _ (by simpa using hq.2),hg.block x (by omega) (fun e=>by have:=hrow x e.symm;omega),Below.heap_alloc _ _ _ (by omega)]
 refine ⟨(h.at hg |>.set 4 _).congr (fun i hi=>?_),?_,(h.tl.snoc hr).carry hkeep (fun _ h=>h),by simp [h.len],⟨hlt.1,by simp only [size_setCell];omega⟩,h.q,?_⟩
 · rcases (show i=0∨i=1∨i=2∨i=3∨i=4 by omega) with rfl | rfl | rfl | rfl | rfl <;> rfl
 · have hset:w8.grownBy (w8.setCell ⟨A,4,none⟩ (.slice (some ⟨g,0,none⟩) (j+1) cap)) (some A):=⟨rfl,rfl,rfl,by simp [World.setCell],fun k _ hk=>Below.heap_setCell _ _ _ _ (fun e=>hk (by rw [e]))⟩
   exact hown.kept hset (Or.inr (fun e=>by simp [Value.ownBlock] at e;omega))
 · have h1:=(h.old.grown (World.grownBy_alloc wr o none) (by omega) (fun x e=>by cases e)).grown hg (by omega) hrow
   exact ⟨h1.os,h1.tape,h1.output,by simp only [size_setCell];exact h1.size,fun i hi hn=>(Below.heap_setCell _ _ _ _ (by simpa using hn)).trans (h1.block i hi hn)⟩
theorem G5.kids {base A:Nat} {Q:Nat→Prop} {w0 wr:World} {c0 c1 c2 c3:Value} {aK:Option Addr} {j capK:Nat} {ts:List Tr} {xs:List Value} (h:G5 base A Q w0 wr c0 c1 c2 c3 aK j capK ts xs):ts≠[]→∃ b o,aK=some ⟨b,o,none⟩∧(Q b∨(base≤b∧b < wr.heap.size))∧RepK (fun x=>Q x∨(base≤x∧x < wr.heap.size)) wr b o ts:=fun hne=>by
 have hj:0 < j:=by rw [← h.len];exact List.length_pos_iff.2 hne
 rcases h.own.2 with ⟨_,h0⟩ | ⟨g,cap,cur,hv,hgb,hh,_⟩
 · omega
 · simp only [Value.slice.injEq] at hv
   obtain ⟨rfl,-,rfl⟩:=hv
   refine ⟨g,0,rfl,Or.inr ⟨hgb,(Array.getElem?_eq_some_iff.1 hh).1⟩,TL5.back (h.tl.carry (fun _ _=>rfl) (fun _ h=>Or.inl h)) (fun i u hi=>?_)⟩
   have:=h.own.cells (g:=g) rfl i u hi
   rw [Addr.add_lit,Nat.zero_add] at this
   exact this
theorem G5.done {base A:Nat} {Q:Nat→Prop} {w0 wr:World} {s:Int} {aK:Option Addr} {j capK:Nat} {ts:List Tr} {xs:List Value} (hs:I64 s) (h:G5 base A Q w0 wr (.int .i64 s) (.int .i64 0) (.string ⟨#[]⟩) (.slice none 0 0) aK j capK ts xs) (hj:j≤1000000):Rep (fun x=>Q x∨(base≤x∧x < wr.heap.size)) wr (.mk s 0 ByteArray.empty [] ts) ⟨.int .i64 s,.int .i64 0,.string ⟨#[]⟩,.slice none 0 0,.slice aK j capK⟩:=by
 rw [Rep]
 exact ⟨rfl,rfl,rfl,hs,⟨by decide,by decide⟩,by decide,⟨none,0,rfl,by simp,fun i hi=>by simp at hi⟩,aK,capK,by rw [h.len],by rw [h.len];omega,h.kids⟩
def oneT:Tr:=.mk 1 7 ⟨#[]⟩ [] []
def oneC:C5:=⟨.int .i64 1,.int .i64 7,.string ⟨#[]⟩,.slice none 0 0,.slice none 0 0⟩
theorem oneR (P:Nat→Prop) (w:World):Rep P w oneT oneC:=rep_leafD 1 7 ⟨#[]⟩ ⟨by decide,by decide⟩ ⟨by decide,by decide⟩ (by decide)
def fourT:Tr:=.mk 4 0 ⟨#[]⟩ [] [oneT,oneT,oneT,oneT]
def full0 (w:World):World:=((((w.alloc (.cells #[.int .i64 0,.int .i64 0,.string ⟨#[]⟩,.slice none 0 0,.slice none 0 0] 29)).alloc (.cells #[.int .i64 1,.int .i64 7,.string ⟨#[]⟩,.slice none 0 0,.slice none 0 0] 29)).alloc (.cells #[.int .i64 1,.int .i64 7,.string ⟨#[]⟩,.slice none 0 0,.slice none 0 0,.int .i64 1,.int .i64 7,.string ⟨#[]⟩,.slice none 0 0,.slice none 0 0,.int .i64 1,.int .i64 7,.string ⟨#[]⟩,.slice none 0 0,.slice none 0 0,.int .i64 1,.int .i64 7,.string ⟨#[]⟩,.slice none 0 0,.slice none 0 0] 29)).alloc (.cells #[.int .i64 4,.int .i64 0,.string ⟨#[]⟩,.slice none 0 0,.slice (some ⟨w.heap.size+2,0,none⟩) 4 4] 29)).alloc (.cells #[.int .i64 4,.int .i64 0,.string ⟨#[]⟩,.slice none 0 0,.slice none 0 0] 29)
def k20:Array Value:=#[.int .i64 1,.int .i64 7,.string ⟨#[]⟩,.slice none 0 0,.slice none 0 0,.int .i64 1,.int .i64 7,.string ⟨#[]⟩,.slice none 0 0,.slice none 0 0,.int .i64 1,.int .i64 7,.string ⟨#[]⟩,.slice none 0 0,.slice none 0 0,.int .i64 1,.int .i64 7,.string ⟨#[]⟩,.slice none 0 0,.slice none 0 0]
theorem rowIs_al {w a:World} {o:Obj} {g n:Nat} {t:TypeId} {f:Nat→Value} (h:w.rowIs g t n f) (e:w.alloc o=a):a.rowIs g t n f:=e ▸ h.alloc o
structure FS (w W0:World):Prop where
 size:W0.heap.size=w.heap.size+5
 bl:Below w.heap.size w W0
 rX:W0.rowIs w.heap.size 29 5 (row5 (.int .i64 0) (.int .i64 0) (.string ⟨#[]⟩) (.slice none 0 0) (.slice none 0 0))
 rO:W0.rowIs (w.heap.size+1) 29 5 (row5 (.int .i64 1) (.int .i64 7) (.string ⟨#[]⟩) (.slice none 0 0) (.slice none 0 0))
 rF:W0.rowIs (w.heap.size+3) 29 5 (row5 (.int .i64 4) (.int .i64 0) (.string ⟨#[]⟩) (.slice none 0 0) (.slice (some ⟨w.heap.size+2,0,none⟩) 4 4))
 rA:W0.rowIs (w.heap.size+4) 29 5 (row5 (.int .i64 4) (.int .i64 0) (.string ⟨#[]⟩) (.slice none 0 0) (.slice none 0 0))
 four:Rep (fun x=>x=w.heap.size+2) W0 fourT ⟨.int .i64 4,.int .i64 0,.string ⟨#[]⟩,.slice none 0 0,.slice (some ⟨w.heap.size+2,0,none⟩) 4 4⟩
theorem FS.start (w:World):FS w (full0 w):=by
 unfold full0
 generalize h0:w.alloc (.cells #[.int .i64 0,.int .i64 0,.string ⟨#[]⟩,.slice none 0 0,.slice none 0 0] 29)=a0
 have s0:a0.heap.size=w.heap.size+1:=by rw [← h0];simp
 have b0:Below w.heap.size w a0:=by rw [← h0];exact (Below.refl _ _).alloc (Nat.le_refl _) _
 have r0:=row5_alloc w (.int .i64 0) (.int .i64 0) (.string ⟨#[]⟩) (.slice none 0 0) (.slice none 0 0) 29
 rw [h0] at r0
 generalize h1:a0.alloc (.cells #[.int .i64 1,.int .i64 7,.string ⟨#[]⟩,.slice none 0 0,.slice none 0 0] 29)=a1
 have s1:a1.heap.size=w.heap.size+2:=by rw [← h1];simp;omega
 have r1:=row5_alloc a0 (.int .i64 1) (.int .i64 7) (.string ⟨#[]⟩) (.slice none 0 0) (.slice none 0 0) 29
 rw [h1,s0] at r1
 have r0:=rowIs_al r0 h1
 have b1:Below w.heap.size w a1:=by rw [← h1];exact b0.alloc (by omega) _
 have r2:=World.rowIs_alloc a1 k20 29 (fun i=>k20.getD i undef) (fun i hi=>by simp [Array.getD,hi])
 generalize h2:a1.alloc (.cells #[.int .i64 1,.int .i64 7,.string ⟨#[]⟩,.slice none 0 0,.slice none 0 0,.int .i64 1,.int .i64 7,.string ⟨#[]⟩,.slice none 0 0,.slice none 0 0,.int .i64 1,.int .i64 7,.string ⟨#[]⟩,.slice none 0 0,.slice none 0 0,.int .i64 1,.int .i64 7,.string ⟨#[]⟩,.slice none 0 0,.slice none 0 0] 29)=a2
 have r2:a2.rowIs (w.heap.size+2) 29 20 (fun i=>k20.getD i undef):=by rw [← h2,← s1];exact r2
 have s2:a2.heap.size=w.heap.size+3:=by rw [← h2];simp;omega
 have r0:=rowIs_al r0 h2
 have r1:=rowIs_al r1 h2
 have b2:Below w.heap.size w a2:=by rw [← h2];exact b1.alloc (by omega) _
 generalize h3:a2.alloc (.cells #[.int .i64 4,.int .i64 0,.string ⟨#[]⟩,.slice none 0 0,.slice (some ⟨w.heap.size+2,0,none⟩) 4 4] 29)=a3
 have s3:a3.heap.size=w.heap.size+4:=by rw [← h3];simp;omega
 have r3:=row5_alloc a2 (.int .i64 4) (.int .i64 0) (.string ⟨#[]⟩) (.slice none 0 0) (.slice (some ⟨w.heap.size+2,0,none⟩) 4 4) 29
 rw [h3,s2] at r3
 have r0:=rowIs_al r0 h3
 have r1:=rowIs_al r1 h3
 have r2:=rowIs_al r2 h3
 have b3:Below w.heap.size w a3:=by rw [← h3];exact b2.alloc (by omega) _
 have r4:=row5_alloc a3 (.int .i64 4) (.int .i64 0) (.string ⟨#[]⟩) (.slice none 0 0) (.slice none 0 0) 29
 rw [s3] at r4
 refine ⟨by rw [World.size_alloc];omega,b3.alloc (by omega) _,r0.alloc _,r1.alloc _,r3.alloc _,r4,?_⟩
 have r2:=r2.alloc (.cells #[.int .i64 4,.int .i64 0,.string ⟨#[]⟩,.slice none 0 0,.slice none 0 0] 29)
 unfold fourT
 rw [Rep]
 refine ⟨rfl,rfl,rfl,⟨by decide,by decide⟩,⟨by decide,by decide⟩,by decide,⟨none,0,rfl,by simp,fun i hi=>by simp at hi⟩,_,_,rfl,by simp,fun _=>⟨_,0,rfl,rfl,RepK.mk fun i hi=>⟨oneC,?_,?_⟩⟩⟩
 · have hi':i < 4:=by simpa using hi
   rcases (show i=0∨i=1∨i=2∨i=3 by omega) with rfl | rfl | rfl | rfl
   all_goals exact ⟨r2.cell (by omega),r2.cell (by omega),r2.cell (by omega),r2.cell (by omega),r2.cell (by omega)⟩
 · have hi':i < 4:=by simpa using hi
   rcases (show i=0∨i=1∨i=2∨i=3 by omega) with rfl | rfl | rfl | rfl
   all_goals exact oneR _ _
theorem rowIs_get (w:World) (arr:Array Value) (t:TypeId):(w.alloc (.cells arr t)).rowIs w.heap.size t arr.size (fun i=>arr.getD i undef):=World.rowIs_alloc w arr t _ (fun i hi=>by simp [Array.getD,hi])
theorem full_end {w wr W':World} {aT bT:Tr} {cA cB:C5} (hX:w.heap.size+2≤wr.heap.size) (hA:Rep (fun x=>w.heap.size+2≤x∧x < wr.heap.size) wr aT cA) (hB:Rep (fun x=>w.heap.size+2≤x∧x < wr.heap.size) wr bT cB) (hb:Below w.heap.size w wr) (d0 d1 d2 d3 d4:Value)
 (hW:W'=((((((wr.setCell ⟨w.heap.size,0,none⟩ d0).setCell ⟨w.heap.size,1,none⟩ d1).setCell ⟨w.heap.size,2,none⟩ d2).setCell ⟨w.heap.size,3,none⟩ d3).setCell ⟨w.heap.size,4,none⟩ d4).alloc (.cells #[.string ⟨#[97]⟩,.string ⟨#[98]⟩] 9)).alloc (.cells #[cA.c0,cA.c1,cA.c2,cA.c3,cA.c4,cB.c0,cB.c1,cB.c2,cB.c3,cB.c4] 29)) :
 Rep (fun x=>w.heap.size≤x∧x < W'.heap.size) W' (.mk 5 0 ⟨#[]⟩ [⟨#[97]⟩,⟨#[98]⟩] [aT,bT]) ⟨.int .i64 5,.int .i64 0,.string ⟨#[]⟩,.slice (some ⟨wr.heap.size,0,none⟩) 2 2,.slice (some ⟨wr.heap.size+1,0,none⟩) 2 2⟩∧Below w.heap.size w W':=by
 generalize hV:(((((wr.setCell ⟨w.heap.size,0,none⟩ d0).setCell ⟨w.heap.size,1,none⟩ d1).setCell ⟨w.heap.size,2,none⟩ d2).setCell ⟨w.heap.size,3,none⟩ d3).setCell ⟨w.heap.size,4,none⟩ d4)=V at hW
 have hsz:V.heap.size=wr.heap.size:=by rw [← hV];simp only [size_setCell]
 have hoth:∀ x,x≠w.heap.size→V.heap[x]? = wr.heap[x]? := fun x h1=>by
  rw [← hV]
  repeat rw [Below.heap_setCell _ _ _ _ (by simpa using h1)]
 have hbV:Below w.heap.size w V:=by
  rw [← hV]
  exact ((((hb.setCell (by simp) _).setCell (by simp) _).setCell (by simp) _).setCell (by simp) _).setCell (by simp) _
 have rN:(V.alloc (.cells #[.string ⟨#[97]⟩,.string ⟨#[98]⟩] 9)).rowIs V.heap.size 9 2 (fun i=>(#[.string ⟨#[97]⟩,.string ⟨#[98]⟩]:Array Value).getD i undef):=rowIs_get V _ _
 generalize hN:V.alloc (.cells #[.string ⟨#[97]⟩,.string ⟨#[98]⟩] 9)=V2 at hW rN
 have s2:V2.heap.size=wr.heap.size+1:=by rw [← hN];simp;omega
 have rK:(V2.alloc (.cells #[cA.c0,cA.c1,cA.c2,cA.c3,cA.c4,cB.c0,cB.c1,cB.c2,cB.c3,cB.c4] 29)).rowIs V2.heap.size 29 10 (fun i=>#[cA.c0,cA.c1,cA.c2,cA.c3,cA.c4,cB.c0,cB.c1,cB.c2,cB.c3,cB.c4].getD i undef):=rowIs_get V2 _ _
 rw [← hW,s2] at rK
 have rN:=rowIs_al rN hW.symm
 rw [hsz] at rN
 have hbl:Below V.heap.size V W':=by rw [hW,← hN];exact ((Below.refl _ _).alloc (Nat.le_refl _) _).alloc (by simp) _
 have hs':W'.heap.size=wr.heap.size+2:=by rw [hW];simp;omega
 have hcar:∀ (t:Tr) (c:C5),Rep (fun x=>w.heap.size+2≤x∧x < wr.heap.size) wr t c→Rep (fun x=>w.heap.size≤x∧x < W'.heap.size) W' t c:=fun t c h =>
  Rep.carry (fun x hx=>(hbl.block x (by omega)).trans (hoth x (by omega))) (fun x hx=>by omega) _ _ h
 refine ⟨?_,hbV.trans (hbl.mono (by omega))⟩
 rw [Rep]
 refine ⟨rfl,rfl,rfl,⟨by decide,by decide⟩,⟨by decide,by decide⟩,by decide,⟨some ⟨wr.heap.size,0,none⟩,2,rfl,by simp,fun i hi=>⟨wr.heap.size,0,rfl,by omega,?_⟩⟩,_,_,rfl,by simp,fun _=>⟨wr.heap.size+1,0,rfl,by omega,RepK.mk fun i hi=>?_⟩⟩
 · have hi':i < 2:=by simpa using hi
   rcases (show i=0∨i=1 by omega) with rfl | rfl
   · exact ⟨rN.cell (i:=0) (by omega),show (1:Nat)≤9223372036854775807 from by decide⟩
   · exact ⟨rN.cell (i:=1) (by omega),show (1:Nat)≤9223372036854775807 from by decide⟩
 · have hi':i < 2:=by simpa using hi
   rcases (show i=0∨i=1 by omega) with rfl | rfl
   · exact ⟨cA,⟨rK.cell (i:=0) (by omega),rK.cell (i:=1) (by omega),rK.cell (i:=2) (by omega),rK.cell (i:=3) (by omega),rK.cell (i:=4) (by omega)⟩,hcar _ _ hA⟩
   · exact ⟨cB,⟨rK.cell (i:=5) (by omega),rK.cell (i:=6) (by omega),rK.cell (i:=7) (by omega),rK.cell (i:=8) (by omega),rK.cell (i:=9) (by omega)⟩,hcar _ _ hB⟩
theorem l5Full_any (w:World) (n:Nat) (hn:n≤1000) :
 Calls Tryz.prog 22 #[.int .i64 (n:Int)] w fun e w'=>∃ (t:Tr) (c:C5),e=.returned (.agg #[c.c0,c.c1,c.c2,c.c3,c.c4])∧Rep (fun x=>w.heap.size≤x∧x < w'.heap.size) w' t c∧Below w.heap.size w w':=by
 obtain ⟨i0,hi,hz0,hz1,hz2⟩:=info_parts infoTreeD
 have HII:=xH hi;have HZ0:=xH hz0;have HZ1:=xH hz1;have HZ2:=xH hz2
 have hst:=FS.start w
 have h1c:∀ (s m:Int) (x:ByteArray) (a:Option Addr) (k c:Nat),∀ u∈c5l ⟨.int .i64 s,.int .i64 m,.string x,.slice none 0 0,.slice a k c⟩,u.oneCell'=true:=fun s m x a k c u hu=>by
  simp only [c5l,List.mem_cons,List.not_mem_nil,or_false] at hu
  rcases hu with rfl | rfl | rfl | rfl | rfl <;> rfl
 have H1C:=xH h1c
 clear hi hz0 hz1 hz2 h1c
 go_enter Tryz.func22,Tryz.ntmps22
 go_wp2_with fail
 obtain ⟨W0,hW0⟩:∃ W0,full0 w=W0:=⟨_,rfl⟩
 rw [hW0] at hst
 change Code.wp _ _ _ _ (full0 w)
 rw [hW0]
 have HST:=xH hst
 have hsz0:=hst.size
 have HG0:Hid (G5 (w.heap.size+5) (w.heap.size+4) (fun x=>x=w.heap.size+2) W0 W0 (.int .i64 4) (.int .i64 0) (.string ⟨#[]⟩) (.slice none 0 0) none 0 0 [] []):=⟨hst.rA,World.ownsRow_nil _ _ _ _,TL5.nil _ _,rfl,⟨by omega,by omega⟩,fun x hx=>by omega,BB.refl _ _ _⟩
 clear hW0 hst
 go_loopw [6] (fun nn wr=>∃ (j:Nat) (aK:Option Addr) (capK:Nat) (ts:List Tr) (xs:List Value),j≤20∧nn=.int .i64 j∧Hid (G5 (w.heap.size+5) (w.heap.size+4) (fun x=>x=w.heap.size+2) W0 wr (.int .i64 4) (.int .i64 0) (.string ⟨#[]⟩) (.slice none 0 0) aK j capK ts xs)) (fun nn _=>20 - (intOf nn).toNat)
 case atStart=>exact ⟨0,none,0,[],[],by omega,rfl,HG0⟩
 case round =>
  clear HG0
  obtain ⟨j,aK,capK,ts,xs,hj,rfl,HG⟩:=hrel
  have hlt:=HG.out.lt
  have t4:=HG.out.box.cell (i:=4) (by omega)
  have rf:=(xU HST).rF.of_block (HG.out.old.block (w.heap.size+3) (by omega) (by omega))
  obtain ⟨f0,f1,f2,f3,f4⟩:=cs5 rf (by omega)
  simp only [row5] at t4 f0 f1 f2 f3 f4
  clear rf
  by_cases hj20:j < 20
  · have hq:decide ((j:Int) < 20)=true:=by simp;omega
    have hqn:decide (j < 20)=true:=by simp;omega
    have HR:=xH (Rep.carry (w':=wr) (fun x (hx:x=w.heap.size+2)=>HG.out.old.block x (by omega) (by omega)) (fun _ h=>h) _ _ (xU HST).four)
    go_wp2_with (at_builtin; refine append_row _ rfl _ _ 27 rfl (w.heap.size + 5) 29 i0 _ 5 80 Tryz.underlying27 (unhide HII) (unhide HZ0) (unhide HZ1) (unhide HZ2) rfl (by decide) (.slice aK j capK) j xs rfl (World.ownsRow.alloc HG.out.own _) ⟨wr.heap.size, 0, none⟩ 1 1 (c5l ⟨.int .i64 4, .int .i64 0, .string ⟨#[]⟩, .slice none 0 0, .slice (some ⟨w.heap.size + 2, 0, none⟩) 4 4⟩) rfl rfl (cell_five wr _ _) (unhide H1C _ _ _ _ _ _) (by decide) (by unfold maxLen; omega) (by omega) (by simp; omega) ?_
                 intro v' w8 hown8 hgrow8 hat8
                 obtain ⟨g,cap,rfl,-,-⟩:=hown8.form (by omega)
                 have u4:=(G5.at HG.out hgrow8).cell (i:=4) (by omega);have uz:=(G5.at HG.out hgrow8).frozen 4
                 simp only [row5] at u4
                 have HG8:=xH (G5.push HG.out (xU HR) hown8 hgrow8)
                 clear hown8 hgrow8 hat8)
    clear HG HR f0 f1 f2 f3 f4 t4
    go_roundw
    case rel=>exact ⟨j+1,some ⟨g,0,none⟩,cap,_,_,by omega,by go_num,HG8⟩
    case measure=>simp [intOf];omega
  · have hq:decide ((j:Int) < 20)=false:=by simp;omega
    have hqn:decide (j < 20)=false:=by simp;omega
    have HDA:=xH (G5.done ⟨by decide,by decide⟩ HG.out (by omega))
    have HBX:=xH HG.out.box
    have HBB:=xH HG.out.old
    go_wp2_with fail
    obtain ⟨W1,hW1⟩:∃ W1,wr.alloc (.cells #[.int .i64 4,.int .i64 0,.string ⟨#[]⟩,.slice none 0 0,.slice none 0 0] 29)=W1:=⟨_,rfl⟩
    have hs1:W1.heap.size=wr.heap.size+1:=by rw [← hW1];simp
    have hb1:Below wr.heap.size wr W1:=by rw [← hW1];exact (Below.refl _ _).alloc (Nat.le_refl _) _
    have hrB:W1.rowIs wr.heap.size 29 5 (row5 (.int .i64 4) (.int .i64 0) (.string ⟨#[]⟩) (.slice none 0 0) (.slice none 0 0)):=by rw [← hW1];exact row5_alloc wr _ _ _ _ _ _
    rw [hW1]
    have HB1:=xH hb1
    have HG1:Hid (G5 (wr.heap.size+1) wr.heap.size (fun _=>False) W1 W1 (.int .i64 4) (.int .i64 0) (.string ⟨#[]⟩) (.slice none 0 0) none 0 0 [] []):=⟨hrB,World.ownsRow_nil _ _ _ _,TL5.nil _ _,rfl,⟨by omega,by omega⟩,fun x hx=>hx.elim,BB.refl _ _ _⟩
    clear hW1 hb1 hrB HG f0 f1 f2 f3 f4 t4 hq hqn
    generalize wr.heap.size=B2 at *
    go_loopw [8] (fun nn w2=>∃ (k:Nat) (aB:Option Addr) (capB:Nat) (tb:List Tr) (xb:List Value),k≤1000∧nn=.int .i64 ((103+k:Nat):Int)∧Hid (G5 (B2+1) B2 (fun _=>False) W1 w2 (.int .i64 4) (.int .i64 0) (.string ⟨#[]⟩) (.slice none 0 0) aB k capB tb xb)) (fun nn _=>1104 - (intOf nn).toNat)
    case atStart=>exact ⟨0,none,0,[],[],by omega,rfl,HG1⟩
    case round =>
     clear HG1
     obtain ⟨k,aB,capB,tb,xb,hk,rfl,HG2⟩:=hrel
     have hlt2:=HG2.out.lt
     have hold:∀ x,x < w.heap.size+5→x≠w.heap.size+4→wr.heap[x]? = W0.heap[x]? := fun x h1 h2=>(HG2.out.old.block x (by omega) (by omega)).trans (((xU HB1).block x (by omega)).trans ((xU HBB).block x h1 h2))
     have t4:=HG2.out.box.cell (i:=4) (by omega)
     have rf:=(xU HST).rO.of_block (hold (w.heap.size+1) (by omega) (by omega))
     obtain ⟨f0,f1,f2,f3,f4⟩:=cs5 rf (by omega)
     simp only [row5] at t4 f0 f1 f2 f3 f4
     by_cases hkn:103+k < n
     · have hq:decide (((103+k:Nat):Int) < (n:Int))=true:=by simp;omega
       have hq2:decide ((103:Int)+(k:Int) < (n:Int))=true:=by simp;omega
       have hqn:decide (103+k < n)=true:=by simp;omega
       have hw1:IntKind.i64.wrap (((103+k:Nat):Int)+1)=((103+k:Nat):Int)+1:=by rw [IntKind.wrap_i64];omega
       clear rf hold
       go_wp2_with (at_builtin; refine append_row _ rfl _ _ 27 rfl (B2 + 1) 29 i0 _ 5 80 Tryz.underlying27 (unhide HII) (unhide HZ0) (unhide HZ1) (unhide HZ2) rfl (by decide) (.slice aB k capB) k xb rfl (World.ownsRow.alloc HG2.out.own _) ⟨wr.heap.size, 0, none⟩ 1 1 (c5l oneC) rfl rfl (cell_five wr oneC _) (unhide H1C _ _ _ _ _ _) (by decide) (by unfold maxLen; omega) (by omega) (by simp; omega) ?_
                    intro v' w8 hown8 hgrow8 hat8
                    obtain ⟨g,cap,rfl,-,-⟩:=hown8.form (by omega)
                    have u4:=(G5.at HG2.out hgrow8).cell (i:=4) (by omega);have uz:=(G5.at HG2.out hgrow8).frozen 4
                    simp only [row5] at u4
                    have HG8:=xH (G5.push HG2.out (oneR _ _) hown8 hgrow8)
                    clear hown8 hgrow8 hat8)
       clear HG2 f0 f1 f2 f3 f4 t4
       go_roundw
       case rel=>exact ⟨k+1,some ⟨g,0,none⟩,cap,_,_,by omega,by go_num,HG8⟩
       case measure=>simp [intOf];omega
     · have hq:decide (((103+k:Nat):Int) < (n:Int))=false:=by simp;omega
       have hq2:decide ((103:Int)+(k:Int) < (n:Int))=false:=by simp;omega
       have hqn:decide (103+k < n)=false:=by simp;omega
       have HDB:=xH (G5.done ⟨by decide,by decide⟩ HG2.out (by omega))
       have rX:=(xU HST).rX.of_block (hold w.heap.size (by omega) (by omega))
       have rA:=(xU HBX).of_block ((HG2.out.old.block (w.heap.size+4) (by omega) (by omega)).trans ((xU HB1).block (w.heap.size+4) (by omega)))
       obtain ⟨y0,y1,y2,y3,y4⟩:=cs5 rX (by omega);have yf:=rX.frozen
       obtain ⟨a0,a1,a2,a3,a4⟩:=cs5 rA (by omega)
       have b0:=HG2.out.box.cell (i:=0) (by omega);have b1:=HG2.out.box.cell (i:=1) (by omega);have b2:=HG2.out.box.cell (i:=2) (by omega);have b3:=HG2.out.box.cell (i:=3) (by omega)
       simp only [row5] at y0 y1 y2 y3 y4 a0 a1 a2 a3 a4 b0 b1 b2 b3
       have hXlt:w.heap.size < wr.heap.size:=by omega
       have hAlt:w.heap.size+4 < wr.heap.size:=by omega
       have hBlt:B2 < wr.heap.size:=by omega
       have HDA2:=xH (Rep.carry (w':=wr) (Q:=fun x=>w.heap.size+2≤x∧x < wr.heap.size) (fun x hx=>by
        have hx':x < B2∧x≠B2:=by rcases hx with h | h <;> omega
        exact (HG2.out.old.block x (by omega) hx'.2).trans ((xU HB1).block x hx'.1)) (fun x hx=>by rcases hx with h | h <;> omega) _ _ (xU HDA))
       have HDB2:=xH (Rep.carry (w':=wr) (Q:=fun x=>w.heap.size+2≤x∧x < wr.heap.size) (fun x _=>rfl) (fun x hx=>by rcases hx with h | h;exact h.elim;omega) _ _ (xU HDB))
       have HBW:Hid (Below w.heap.size w wr):=⟨by rw [HG2.out.old.os,(xU HB1).os,(xU HBB).os,(xU HST).bl.os],by rw [HG2.out.old.tape,(xU HB1).tape,(xU HBB).tape,(xU HST).bl.tape],by rw [HG2.out.old.output,(xU HB1).output,(xU HBB).output,(xU HST).bl.output],by omega,fun x hx=>(hold x (by omega) (by omega)).trans ((xU HST).bl.block x hx)⟩
       clear rX rA rf hold HG2 HBX HBB HB1 HDA HDB HST
       have hXlt3:w.heap.size < wr.heap.size+1:=by omega
       go_wp2_with fail
       refine bodyPost_ret (v:=.agg #[.int .i64 5,.int .i64 0,.string ⟨#[]⟩,.slice (some ⟨wr.heap.size,0,none⟩) 2 2,.slice (some ⟨wr.heap.size+1,0,none⟩) 2 2]) (by simp [results,Tryz.results22,go_sem,y0,y1,y2,y3,y4,hXlt,hXlt3]) rfl ?_
       obtain ⟨h1,h2⟩:=full_end (w:=w) (by omega) (xU HDA2) (xU HDB2) HBW.out (.int .i64 5) (.int .i64 0) (.string ⟨#[]⟩) (.slice (some ⟨wr.heap.size,0,none⟩) 2 2) (.slice (some ⟨wr.heap.size+1,0,none⟩) 2 2) rfl
       exact ⟨_,⟨_,_,_,_,_⟩,rfl,h1,h2⟩

def RtEnd (P:Nat→Prop) (N R:Nat) (w w':World) (v:Value) (b:List UInt8) (p:Nat) (e:Ending):Prop :=
 ∃ (t:Tr) (c:C5) (p':Nat),e=.returned (.agg #[c.c0,c.c1,c.c2,c.c3,c.c4])∧Rep (fun x=>P x∨(w.heap.size≤x∧x < w'.heap.size)) w' t c∧DR R w' v b p'∧p'≤p+N∧But R w w'
structure ST (R:Nat) (w:World) (c:C5) (v:Value) (b:List UInt8) (p:Nat) (W:World):Prop where
 dr:DR R W v b p
 but:But R w W
 bT:W.rowIs w.heap.size 29 5 (row5 c.c0 c.c1 c.c2 c.c3 c.c4)
 bX:W.rowIs (w.heap.size+1) 29 5 (row5 (.int .i64 0) (.int .i64 0) (.string ⟨#[]⟩) (.slice none 0 0) (.slice none 0 0))
 hR:R < w.heap.size
section
variable {R:Nat} {w W W':World} {c:C5} {c0 c1 c2 c3 c4:Value} {v:Value} {b:List UInt8} {p p':Nat}
theorem ST.size (h:ST R w c v b p W):w.heap.size+2≤W.heap.size:=h.bX.lt
theorem ST.next (h:ST R w c v b p W) (hd:DR R W' v b p') (hb:But R W W'):ST R w c v b p' W':=by
 have hR:=h.hR
 exact ⟨hd,h.but.trans hb,h.bT.of_block (hb.at h.bT.lt (by omega)),h.bX.of_block (hb.at h.bX.lt (by omega)),hR⟩
theorem ST.touch {row:Option Nat} (h:ST R w c v b p W) (hg:W.grownBy W' row) (hr:∀ x,row=some x→w.heap.size+2≤x):ST R w c v b p W':=by
 have hR:=h.hR
 refine ⟨h.dr.grown hg (fun x e=>by have:=hr x e;omega),?_,h.bT.of_block (hg.block _ h.bT.lt (fun e=>by have:=hr _ e.symm;omega)),h.bX.of_block (hg.block _ h.bX.lt (fun e=>by have:=hr _ e.symm;omega)),hR⟩
 exact ⟨hg.os.trans h.but.os,hg.tape.trans h.but.tape,hg.output.trans h.but.output,Nat.le_trans h.but.size hg.size,fun i hi hne=>(hg.block i (Nat.lt_of_lt_of_le hi h.but.size) (fun e=>by have:=hr i e.symm;omega)).trans (h.but.block i hi hne)⟩
theorem ST.on (h:ST R w c v b p W) (hb:Below W.heap.size W W'):ST R w c v b p W':=h.next (h.dr.on hb) (But.of_below hb)
theorem ST.set0 (h:ST R w ⟨c0,c1,c2,c3,c4⟩ v b p W) (u:Value):ST R w ⟨u,c1,c2,c3,c4⟩ v b p (W.setCell ⟨w.heap.size,0,none⟩ u):=by
 have hR:=h.hR
 exact ⟨h.dr.set (by omega) _ _,but_setx h.but (Nat.le_refl _) _ _,(h.bT.set 0 u).congr (fun i hi=>by rcases (show i=0∨i=1∨i=2∨i=3∨i=4 by omega) with rfl | rfl | rfl | rfl | rfl <;> rfl),h.bX.setOther (by simp) _,hR⟩
theorem ST.set1 (h:ST R w ⟨c0,c1,c2,c3,c4⟩ v b p W) (u:Value):ST R w ⟨c0,u,c2,c3,c4⟩ v b p (W.setCell ⟨w.heap.size,1,none⟩ u):=by
 have hR:=h.hR
 exact ⟨h.dr.set (by omega) _ _,but_setx h.but (Nat.le_refl _) _ _,(h.bT.set 1 u).congr (fun i hi=>by rcases (show i=0∨i=1∨i=2∨i=3∨i=4 by omega) with rfl | rfl | rfl | rfl | rfl <;> rfl),h.bX.setOther (by simp) _,hR⟩
theorem ST.set2 (h:ST R w ⟨c0,c1,c2,c3,c4⟩ v b p W) (u:Value):ST R w ⟨c0,c1,u,c3,c4⟩ v b p (W.setCell ⟨w.heap.size,2,none⟩ u):=by
 have hR:=h.hR
 exact ⟨h.dr.set (by omega) _ _,but_setx h.but (Nat.le_refl _) _ _,(h.bT.set 2 u).congr (fun i hi=>by rcases (show i=0∨i=1∨i=2∨i=3∨i=4 by omega) with rfl | rfl | rfl | rfl | rfl <;> rfl),h.bX.setOther (by simp) _,hR⟩
theorem ST.set3 (h:ST R w ⟨c0,c1,c2,c3,c4⟩ v b p W) (u:Value):ST R w ⟨c0,c1,c2,u,c4⟩ v b p (W.setCell ⟨w.heap.size,3,none⟩ u):=by
 have hR:=h.hR
 exact ⟨h.dr.set (by omega) _ _,but_setx h.but (Nat.le_refl _) _ _,(h.bT.set 3 u).congr (fun i hi=>by rcases (show i=0∨i=1∨i=2∨i=3∨i=4 by omega) with rfl | rfl | rfl | rfl | rfl <;> rfl),h.bX.setOther (by simp) _,hR⟩
theorem ST.set4 (h:ST R w ⟨c0,c1,c2,c3,c4⟩ v b p W) (u:Value):ST R w ⟨c0,c1,c2,c3,u⟩ v b p (W.setCell ⟨w.heap.size,4,none⟩ u):=by
 have hR:=h.hR
 exact ⟨h.dr.set (by omega) _ _,but_setx h.but (Nat.le_refl _) _ _,(h.bT.set 4 u).congr (fun i hi=>by rcases (show i=0∨i=1∨i=2∨i=3∨i=4 by omega) with rfl | rfl | rfl | rfl | rfl <;> rfl),h.bX.setOther (by simp) _,hR⟩
theorem ST.start (h:DR R w v b p):ST R w ⟨c0,c1,c2,c3,c4⟩ v b p ((w.alloc (.cells #[c0,c1,c2,c3,c4] 29)).alloc (.cells #[.int .i64 0,.int .i64 0,.string ⟨#[]⟩,.slice none 0 0,.slice none 0 0] 29)):=by
 have hb:Below w.heap.size w ((w.alloc (.cells #[c0,c1,c2,c3,c4] 29)).alloc (.cells #[.int .i64 0,.int .i64 0,.string ⟨#[]⟩,.slice none 0 0,.slice none 0 0] 29)):=((Below.refl _ _).alloc (Nat.le_refl _) _).alloc (by simp) _
 have hx:=row5_alloc (w.alloc (.cells #[c0,c1,c2,c3,c4] 29)) (.int .i64 0) (.int .i64 0) (.string ⟨#[]⟩) (.slice none 0 0) (.slice none 0 0) 29
 rw [World.size_alloc] at hx
 exact ⟨h.on hb,But.of_below hb,(row5_alloc w c0 c1 c2 c3 c4 29).alloc _,hx,h.cells.lt⟩
end
def KA (Q:Nat→Prop) (w:World) (v:Value) (ks:List Tr):Prop:=∃ a cap,v=.slice a ks.length cap∧ks.length≤9223372036854775807∧(ks≠[]→∃ b o,a=some ⟨b,o,none⟩∧Q b∧RepK Q w b o ks)
theorem KA.carry {P Q:Nat→Prop} {w w':World} {v:Value} {ks:List Tr} (h:KA P w v ks) (hP:∀ b,P b→w'.heap[b]? = w.heap[b]?) (hQ:∀ b,P b→Q b):KA Q w' v ks:=by
 obtain ⟨a,cap,h1,h2,h3⟩:=h
 refine ⟨a,cap,h1,h2,fun hk=>?_⟩
 obtain ⟨b,o,e,hb,hr⟩:=h3 hk
 exact ⟨b,o,e,hQ b hb,RepK.carry hP hQ b o (hP b hb) ks hr⟩
theorem rep_of {Q:Nat→Prop} {w:World} {s n:Int} {x:ByteArray} {ns:List ByteArray} {ks:List Tr} {vN vK:Value} (hs:I64 s) (hn:I64 n) (hx:x.size≤9223372036854775807) (hN:StrsAt Q w vN ns) (hK:KA Q w vK ks):Rep Q w (.mk s n x ns ks) ⟨.int .i64 s,.int .i64 n,.string x,vN,vK⟩:=by
 obtain ⟨a,cap,h1,h2,h3⟩:=hK
 rw [Rep]
 exact ⟨rfl,rfl,rfl,hs,hn,hx,hN,a,cap,h1,h2,h3⟩
theorem rep_un {Q:Nat→Prop} {w:World} {t:Tr} {c:C5} (h:Rep Q w t c):StrsAt Q w c.c3 t.names∧KA Q w c.c4 t.kids:=by
 obtain ⟨s,n,x,ns,ks⟩:=t
 rw [Rep] at h
 obtain ⟨-,-,-,-,-,-,h6,a,cap,h7,h8,h9⟩:=h
 exact ⟨h6,a,cap,h7,h8,h9⟩
theorem KA.of_row {P:Nat→Prop} {W:World} {base g n cap:Nat} {ks:List Tr} {xs:List Value} (hO:W.ownsRow base 29 5 (.slice (some ⟨g,0,none⟩) n cap) n xs) (hL:TL5 P W ks xs) (hn:n=ks.length) (hnb:n≤2000000):KA (fun x=>P x∨(base≤x∧x < W.heap.size)) W (.slice (some ⟨g,0,none⟩) n cap) ks:=by
 have hg:=hO.lt g rfl
 refine ⟨some ⟨g,0,none⟩,cap,by rw [hn],by omega,fun _=>⟨g,0,rfl,Or.inr hg,TL5.back (hL.carry (fun _ _=>rfl) (fun _ h=>Or.inl h)) (fun j u hj=>?_)⟩⟩
 have hc:=hO.cells (g:=g) rfl j u hj
 rw [Addr.add_lit,Nat.zero_add] at hc
 exact hc
theorem rt_end {P:Nat→Prop} {N R:Nat} {w W:World} {v:Value} {b:List UInt8} {p p':Nat} {t:Tr} {c:C5} (hP:∀ x,P x→R < x∧x < w.heap.size) (hS:ST R w c v b p' W) (h1:p'≤p+N) (hr:Rep (fun x=>P x∨(w.heap.size+2≤x∧x < W.heap.size)) W t c) (d0 d1 d2 d3 d4:Value) :
 RtEnd P N R w (((((W.setCell ⟨w.heap.size+1,0,none⟩ d0).setCell ⟨w.heap.size+1,1,none⟩ d1).setCell ⟨w.heap.size+1,2,none⟩ d2).setCell ⟨w.heap.size+1,3,none⟩ d3).setCell ⟨w.heap.size+1,4,none⟩ d4) v b p (.returned (.agg #[c.c0,c.c1,c.c2,c.c3,c.c4])):=by
 have hR:=hS.hR
 refine ⟨t,c,p',rfl,Rep.carry (fun x hx=>?_) (fun x hx=>?_) _ _ hr,?_,h1,?_⟩
 · have hne:x≠w.heap.size+1:=by
    rcases hx with h | h
    · have:=hP x h;omega
    · omega
   repeat rw [Below.heap_setCell _ _ _ _ (by simpa using hne)]
 · simp only [size_setCell]
   rcases hx with h | h
   · exact Or.inl h
   · exact Or.inr ⟨by omega,h.2⟩
 · repeat refine DR.set ?_ (by omega) _ _
   exact hS.dr
 · repeat refine but_setx ?_ (by omega) _ _
   exact hS.but
theorem append_copy {P:Program} (w:World) {ops:Array Oper} {rest:List Oper} {o:Oper} {a:Act} {Q:Exit→Act→World→Prop}
 (hg:o.guard=none) (s x:Operand) (t:TypeId) (hop:o.op=Op.call { callee:=Callee.builtin Builtin.append,args:=#[s,x],argTypes:=#[t,t] })
 (base:Nat) (e:TypeId) (i:TypeInfo) (z:Value) (size bytes:Nat) (h1:P.underlying t=some (.slice e)) (h2:P.info? e=some i) (h3:i.zero=some z) (h4:i.size=size) (h5:i.bytes=bytes) (h6:z.cells.size=size) (h7:0 < size)
 (g0:Nat) (hs:a.eval s=.slice (some ⟨g0,0,none⟩) 0 0) (hown:w.ownsRow base e size (.slice (some ⟨g0,0,none⟩) 0 0) 0 [])
 (ax:Option Addr) (m c:Nat) (xs:List Value) (hx:a.eval x=.slice ax m c) (hn:xs.length=m * size) (hc:0 < m→∃ ad,ax=some ad∧∀ j u,xs[j]? = some u→w.cell? (ad.add j)=some u) (h1c:∀ u∈xs,u.oneCell'=true)
 (b1:m≤maxLen) (b2:m * bytes≤140737488355328) (hbase:base≤w.heap.size)
 (hK:∀ g cap w',Hid (w'.ownsRow base e size (.slice (some ⟨g,0,none⟩) m cap) m xs)→Hid (w.grownBy w' (some g0))→wpList P ops Q rest (a.put o.dst (.slice (some ⟨g,0,none⟩) m cap)) w') :
 wpList P ops Q (o::rest) a w:=by
 rcases Nat.eq_zero_or_pos m with h0 | h0
 · subst h0
   have hxs:xs=[]:=List.eq_nil_of_length_eq_zero (by rw [hn];omega)
   subst hxs
   have hrun:∀ ty,(Builtin.append_ #[t,t] ty #[.slice (some ⟨g0,0,none⟩) 0 0,.slice ax 0 c]).run P w=.ok (.slice (some ⟨g0,0,none⟩) 0 0) w:=fun ty=>by
    cases ax with
    | none=>simp [Builtin.append_,run_underlying h1,sizeOf,typeInfo,h2,Builtin.lenOf,Builtin.firstCells,go_sem]
    | some ad=>simp [Builtin.append_,run_underlying h1,sizeOf,typeInfo,h2,Builtin.lenOf,Builtin.firstCells,go_sem]
   refine wpList_plain hg fun K hKK=>?_
   unfold Oper.wp execOp
   simp only [hop,resolve,invoke,builtin,Sem.run_bind,Sem.run_pure,Result.andThen_ok,List.map_toArray,List.map_cons,List.map_nil,hs,hx,hrun]
   exact hKK _ _ (hK g0 0 w hown (World.grownBy.refl w _))
 · obtain ⟨ad,rfl,hcc⟩:=hc h0
   refine append_row w hg s x t hop base e i z size bytes h1 h2 h3 h4 h5 h6 h7 (.slice (some ⟨g0,0,none⟩) 0 0) 0 [] hs hown ad m c xs hx hn hcc h1c h0 (by omega) (by rw [Nat.zero_add];exact b2) hbase (fun v' w' r1 r2 _=>?_)
   rw [Nat.zero_add,List.nil_append] at r1
   obtain ⟨g,cap,rfl,-,-⟩:=r1.form h0
   exact hK g cap w' r1 r2
end Go.Proofs.YteefjeddboefcaaGreatDoor
