/- A part. -/
import Derived.Test.YteefjeddboefcaaGreatDoorPart00
import Derived.Deep.RegionLaw
import Derived.Deep.AppendLies
import Derived.Deep.CutRange
import Derived.WalkSmall
namespace Go.Proofs.YteefjeddboefcaaGreatDoor
open Go Go.RowKit
set_option maxRecDepth 100000
set_option maxHeartbeats 12800000
def cd:Nat→Nat
 | 0=>30
 | d+1=>30+5 * cd d
def LkEnd (d R:Nat) (w w':World) (v:Value) (b:List UInt8) (p:Nat) (e:Ending):Prop :=
 ∃ (k:Kd) (c:C3) (F:List Nat) (p':Nat),e=.returned (.agg #[c.c0,c.c1,c.c2])∧OwnD w' k c F∧F.Nodup∧(∀ x,x∈F→w.heap.size≤x∧x < w'.heap.size)∧DR R w' v b p'∧p'≤p+cd d∧wKd k≤cd d∧But R w w'
def LkSaid (d:Nat):Prop:=∀ (R:Nat) (w:World) (v:Value) (b:List UInt8) (p:Nat) (top:Bool),DR R w v b p→p+cd d≤100000000 →
 Calls Tryz.prog 65 #[.pointer (some ⟨R,0,none⟩),.int .i64 ((d:Int)+1),.bool top] w fun e w'=>LkEnd d R w w' v b p e
theorem DR.set {R X:Nat} {w:World} {v:Value} {b:List UInt8} {p:Nat} (h:DR R w v b p) (hX:R < X) (o:Nat) (u:Value):DR R (w.setCell ⟨X,o,none⟩ u) v b p :=
 h.block (fun g hg=>Below.heap_setCell _ _ _ _ (by simp;omega)) (h.cells.of_block (Below.heap_setCell _ _ _ _ (by simp;omega)))
theorem DR.grown {R:Nat} {w w':World} {v:Value} {b:List UInt8} {p:Nat} {row:Option Nat} (h:DR R w v b p) (hg:w.grownBy w' row) (hr:∀ x,row=some x→R < x):DR R w' v b p :=
 h.block (fun g hlt=>hg.block g (by have:=h.cells.lt;omega) (fun e=>by have:=hr g e.symm;omega)) (h.cells.of_block (hg.block R h.cells.lt (fun e=>by have:=hr R e.symm;omega)))
theorem but_setx {R:Nat} {w w':World} (h:But R w w') {X:Nat} (hX:w.heap.size≤X) (o:Nat) (u:Value):But R w (w'.setCell ⟨X,o,none⟩ u) :=
 ⟨h.os,h.tape,h.output,by simp only [size_setCell];exact h.size,fun i hi hne=>(Below.heap_setCell _ _ _ _ (by simp;omega)).trans (h.block i hi hne)⟩
theorem lk_end {d R:Nat} {w W:World} {v:Value} {b:List UInt8} {p p':Nat} {k:Kd} {c:C3} {F:List Nat} (hR:R < w.heap.size) (ho:OwnD W k c F) (hnd:F.Nodup) (hF:∀ x,x∈F→w.heap.size < x∧x < W.heap.size) (hd:DR R W v b p') (h1:p'≤p+cd d) (h2:wKd k≤cd d) (hb:But R w W) (c0 c1 c2:Value) :
 LkEnd d R w (((W.setCell ⟨w.heap.size,0,none⟩ c0).setCell ⟨w.heap.size,1,none⟩ c1).setCell ⟨w.heap.size,2,none⟩ c2) v b p (.returned (.agg #[c.c0,c.c1,c.c2])):=by
 refine ⟨k,c,F,p',rfl,OwnD.carry _ _ F (fun y hy=>by have:=(hF y hy).1;repeat rw [Below.heap_setCell _ _ _ _ (by simp <;> omega)]) ho,hnd,fun x hx=>⟨by have:=(hF x hx).1;omega,by simp only [size_setCell];exact (hF x hx).2⟩,?_,h1,h2,?_⟩
 · repeat refine DR.set ?_ hR _ _
   exact hd
 · repeat refine but_setx ?_ (Nat.le_refl _) _ _
   exact hb
theorem lk_leaf {d R:Nat} {w W:World} {v:Value} {b:List UInt8} {p p':Nat} {s:Int} (hs:I64 s) (hR:R < w.heap.size) (hd:DR R W v b p') (h1:p'≤p+cd d) (hb:But R w W) (o:Obj) (c0 c1 c2:Value) :
 LkEnd d R w ((((W.setCell ⟨w.heap.size,0,none⟩ c0).setCell ⟨w.heap.size,1,none⟩ c1).setCell ⟨w.heap.size,2,none⟩ c2).alloc o) v b p (.returned (.agg #[.int .i64 s,.slice none 0 0,.slice none 0 0])):=by
 refine ⟨.mk s [] [],⟨_,_,_⟩,[],p',rfl,OwnD.leaf _ _ hs,List.nodup_nil,(fun x hx=>by cases hx),?_,h1,by simp [wKd,wS,wKs],?_⟩
 · refine DR.on ?_ ((Below.refl _ _).alloc (Nat.le_refl _) o)
   repeat refine DR.set ?_ hR _ _
   exact hd
 · refine But.trans ?_ (But.alloc R _ o)
   repeat refine but_setx ?_ (Nat.le_refl _) _ _
   exact hb
theorem lk_single {d R:Nat} {w W:World} {v:Value} {b:List UInt8} {p p':Nat} {k:Kd} {c:C3} {F:List Nat} {s:Int} (hs:I64 s) (hR:R < w.heap.size) (ho:OwnD W k c F) (hnd:F.Nodup) (hF:∀ x,x∈F→w.heap.size < x∧x < W.heap.size) (hX:w.heap.size < W.heap.size) (hd:DR R W v b p') (h1:p'≤p+cd d) (h2:wKd k+1≤cd d) (hb:But R w W) (c0 c1 c2:Value) :
 LkEnd d R w ((((W.setCell ⟨w.heap.size,0,none⟩ c0).setCell ⟨w.heap.size,1,none⟩ c1).setCell ⟨w.heap.size,2,none⟩ c2).alloc (.cells #[c.c0,c.c1,c.c2] 26)) v b p (.returned (.agg #[.int .i64 s,.slice none 0 0,.slice (some ⟨W.heap.size,0,none⟩) 1 1])):=by
 have hz:(((W.setCell ⟨w.heap.size,0,none⟩ c0).setCell ⟨w.heap.size,1,none⟩ c1).setCell ⟨w.heap.size,2,none⟩ c2).heap.size=W.heap.size:=by simp only [size_setCell]
 have ho2:OwnD (((W.setCell ⟨w.heap.size,0,none⟩ c0).setCell ⟨w.heap.size,1,none⟩ c1).setCell ⟨w.heap.size,2,none⟩ c2) k c F:=OwnD.carry _ _ F (fun y hy=>by have:=(hF y hy).1;repeat rw [Below.heap_setCell _ _ _ _ (by simp <;> omega)]) ho
 have ho3:=OwnD.single (t:=26) hs ho2 (fun x hx=>by rw [hz];exact (hF x hx).2)
 rw [hz] at ho3
 refine ⟨.mk s [] [k],⟨_,_,_⟩,W.heap.size::F,p',rfl,ho3,List.nodup_cons.2 ⟨fun hm=>by have:=(hF _ hm).2;omega,hnd⟩,fun x hx=>?_,?_,h1,?_,?_⟩
 · rw [World.size_alloc,hz]
   rcases List.mem_cons.1 hx with rfl | hx
   · omega
   · have:=hF x hx;omega
 · refine DR.on ?_ ((Below.refl _ _).alloc (Nat.le_refl _) _)
   repeat refine DR.set ?_ hR _ _
   exact hd
 · simp only [wKd,wS,wKs];omega
 · refine But.trans ?_ (But.alloc R _ _)
   repeat refine but_setx ?_ (Nat.le_refl _) _ _
   exact hb
def nm8:List ByteArray:=[⟨#[97]⟩,⟨#[98]⟩,⟨#[105,100]⟩,⟨#[108,105,115,116]⟩,⟨#[110]⟩,⟨#[115,117,109]⟩,⟨#[116,97,103]⟩,⟨#[119,104,111]⟩]
theorem l5Names_any (w:World):Calls Tryz.prog 64 #[] w fun e w'=>e=.returned (.slice (some ⟨w.heap.size,0,none⟩) 8 8)∧w'=w.alloc (.cells (nm8.map Value.string).toArray 9):=by
 go_enter Tryz.func64,Tryz.ntmps64
 go_wp2_with fail
 go_ret
 exact ⟨rfl,rfl⟩
structure KL (R:Nat) (w:World) (B:Nat) (v:Value) (b:List UInt8) (p:Nat) (W:World):Prop where
 dr:DR R W v b p
 but:But R w W
 box:W.rowIs w.heap.size 26 3 (row3 (.int .i64 0) (.slice none 0 0) (.slice none 0 0))
 nms:W.rowIs (B+1) 9 8 (fun i=>.string (nm8.getD i ByteArray.empty))
 ord:R < w.heap.size∧w.heap.size < B∧B+1 < W.heap.size
theorem KL.next {R B:Nat} {w W W':World} {v:Value} {b:List UInt8} {p p':Nat} (h:KL R w B v b p W) (hd:DR R W' v b p') (hb:But R W W'):KL R w B v b p' W':=by
 obtain ⟨h1,h2,h3⟩:=h.ord
 exact ⟨hd,h.but.trans hb,h.box.of_block (hb.at h.box.lt (by omega)),h.nms.of_block (hb.at h.nms.lt (by omega)),h1,h2,by have:=hb.size;omega⟩
theorem KL.touch {R B:Nat} {w W W':World} {v:Value} {b:List UInt8} {p:Nat} {row:Option Nat} (h:KL R w B v b p W) (hg:W.grownBy W' row) (hr:∀ x,row=some x→x=B∨B+1 < x):KL R w B v b p W':=by
 obtain ⟨h1,h2,h3⟩:=h.ord
 refine ⟨h.dr.grown hg (fun x e=>by have:=hr x e;omega),?_,h.box.of_block (hg.block _ h.box.lt (fun e=>by have:=hr _ e.symm;omega)),h.nms.of_block (hg.block _ h.nms.lt (fun e=>by have:=hr _ e.symm;omega)),h1,h2,by have:=hg.size;omega⟩
 exact ⟨hg.os.trans h.but.os,hg.tape.trans h.but.tape,hg.output.trans h.but.output,Nat.le_trans h.but.size hg.size,fun i hi hne=>(hg.block i (Nat.lt_of_lt_of_le hi h.but.size) (fun e=>by have:=hr i e.symm;omega)).trans (h.but.block i hi hne)⟩
theorem box3_start (R:Nat) (w:World) (v:Value) (b:List UInt8) (p:Nat) (h:DR R w v b p) (o:Obj):DR R (w.alloc o) v b p∧But R w (w.alloc o)∧R < w.heap.size :=
 ⟨h.on ((Below.refl _ w).alloc (Nat.le_refl _) o),But.alloc R w o,h.cells.lt⟩
theorem KL.start {R:Nat} {w w1:World} {v:Value} {b:List UInt8} {p:Nat} (hR:R < w.heap.size) (hd:DR R w1 v b p) (hb:But R (w.alloc (.cells #[.int .i64 0,.slice none 0 0,.slice none 0 0] 26)) w1) :
 KL R w w1.heap.size v b p ((w1.alloc (.cells #[.int .i64 5,.slice none 0 0,.slice none 0 0] 26)).alloc (.cells (nm8.map Value.string).toArray 9)) ∧
 DInv (w1.heap.size+2) w1.heap.size ((w1.alloc (.cells #[.int .i64 5,.slice none 0 0,.slice none 0 0] 26)).alloc (.cells (nm8.map Value.string).toArray 9)) 5 (.slice none 0 0) (.slice none 0 0) [] [] [] []:=by
 have hs:=hb.size
 rw [World.size_alloc] at hs
 have hbA:Below w1.heap.size w1 ((w1.alloc (.cells #[.int .i64 5,.slice none 0 0,.slice none 0 0] 26)).alloc (.cells (nm8.map Value.string).toArray 9)):=((Below.refl _ _).alloc (Nat.le_refl _) _).alloc (by simp) _
 have hX:=(row3_alloc w (.int .i64 0) (.slice none 0 0) (.slice none 0 0) 26).of_block (hb.at (by simp) (by omega))
 have hrow:((w1.alloc (.cells #[.int .i64 5,.slice none 0 0,.slice none 0 0] 26)).alloc (.cells (nm8.map Value.string).toArray 9)).rowIs (w1.heap.size+1) 9 8 (fun i=>.string (nm8.getD i ByteArray.empty)):=by
  have:=World.rowIs_alloc (w1.alloc (.cells #[.int .i64 5,.slice none 0 0,.slice none 0 0] 26)) (nm8.map Value.string).toArray 9 (fun i=>.string (nm8.getD i ByteArray.empty)) (fun i hi=>by
   have hi':i < 8:=by simpa [nm8] using hi
   rcases (show i=0∨i=1∨i=2∨i=3∨i=4∨i=5∨i=6∨i=7 by omega) with rfl | rfl | rfl | rfl | rfl | rfl | rfl | rfl <;> rfl)
  rw [World.size_alloc] at this
  exact this
 refine ⟨⟨hd.on hbA,((But.alloc R w _).trans hb).trans (But.of_below hbA),hX.of_block (hbA.block _ hX.lt),hrow,hR,by omega,by simp⟩,?_⟩
 exact ⟨by omega,(row3_alloc w1 (.int .i64 5) (.slice none 0 0) (.slice none 0 0) 26).alloc _,World.ownsRow_nil _ _ _ _,GotD.start _ _,fun b hb=>by simp [Value.ownBlock] at hb,by simp⟩

theorem l5Kind_zero:LkSaid 0:=by
 intro R w v b p top h hp
 have hp:p+30≤100000000:=hp
 obtain ⟨hd0,hb0,hR⟩:=box3_start R w v b p h (.cells #[.int .i64 0,.slice none 0 0,.slice none 0 0] 26)
 have HPK:=xH (pick_any R _ v b p 10 hd0 (by omega) (by omega))
 have HST:=xH (fun w1 p1 hd hb=>KL.start (w:=w) (w1:=w1) (v:=v) (b:=b) (p:=p1) hR hd hb)
 have HNM:=xH l5Names_any
 have hX0:=row3_alloc w (.int .i64 0) (.slice none 0 0) (.slice none 0 0) 26
 have HX0:=xH hX0;have HB0:=xH hb0
 clear h hd0 hb0 hX0
 show Calls Tryz.prog 65 #[.pointer (some ⟨R,0,none⟩),.int .i64 ((0:Nat)+1),.bool top] w _
 simp only [Int.ofNat_zero,Int.zero_add]
 go_enter Tryz.func65,Tryz.ntmps65
 go_wp2_with fail
 refine (xU HPK).mono ?_
 rintro e w1 ⟨r,rfl,hr,HD1,HB1⟩
 have hs1:=HB1.out.size
 rw [World.size_alloc] at hs1
 have hlt1:w.heap.size < w1.heap.size:=by omega
 have hne1:w.heap.size≠w1.heap.size:=by omega
 have hX1:=(xU HX0).of_block (HB1.out.at (by simp) (by omega))
 obtain ⟨p0,p1,p2⟩:=cs3 hX1 (by omega);have pf:=hX1.frozen
 simp only [row3] at p0 p1 p2
 have hr5:decide ((7:Int) < (r:Int) % 5)=false:=by simp;omega
 have hr6:decide ((6:Int) < (r:Int) % 5)=false:=by simp;omega
 have hr4:decide ((4:Int) < (r:Int) % 5)=false:=by simp;omega
 clear HPK hX1
 cases top with
 | false =>
   have HBW:=xH ((xU HB0).trans HB1.out)
   clear HST HNM HX0 HB0
   clear hr4 hr5 hr6
   rcases (show (r:Int) % 5=0∨(r:Int) % 5=1∨(r:Int) % 5=2∨(r:Int) % 5=3∨(r:Int) % 5=4 by omega) with hn | hn | hn | hn | hn
   · go_wp2_with fail
     refine bodyPost_ret (v:=.agg #[.int .i64 1,.slice none 0 0,.slice none 0 0]) (by simp [results,Tryz.results65,go_sem,p0,p1,p2,hlt1]) rfl ?_
     exact lk_leaf (p':=p+1) ⟨by decide,by decide⟩ hR HD1.out (by simp [cd]) (xU HBW) _ _ _ _
   · go_wp2_with fail
     refine bodyPost_ret (v:=.agg #[.int .i64 1,.slice none 0 0,.slice none 0 0]) (by simp [results,Tryz.results65,go_sem,p0,p1,p2,hlt1]) rfl ?_
     exact lk_leaf (p':=p+1) ⟨by decide,by decide⟩ hR HD1.out (by simp [cd]) (xU HBW) _ _ _ _
   · go_wp2_with fail
     refine bodyPost_ret (v:=.agg #[.int .i64 2,.slice none 0 0,.slice none 0 0]) (by simp [results,Tryz.results65,go_sem,p0,p1,p2,hlt1]) rfl ?_
     exact lk_leaf (p':=p+1) ⟨by decide,by decide⟩ hR HD1.out (by simp [cd]) (xU HBW) _ _ _ _
   · go_wp2_with fail
     refine bodyPost_ret (v:=.agg #[.int .i64 2,.slice none 0 0,.slice none 0 0]) (by simp [results,Tryz.results65,go_sem,p0,p1,p2,hlt1]) rfl ?_
     exact lk_leaf (p':=p+1) ⟨by decide,by decide⟩ hR HD1.out (by simp [cd]) (xU HBW) _ _ _ _
   · go_wp2_with fail
     refine bodyPost_ret (v:=.agg #[.int .i64 3,.slice none 0 0,.slice none 0 0]) (by simp [results,Tryz.results65,go_sem,p0,p1,p2,hlt1]) rfl ?_
     exact lk_leaf (p':=p+1) ⟨by decide,by decide⟩ hR HD1.out (by simp [cd]) (xU HBW) _ _ _ _
 | true =>
   clear HX0 HB0
   obtain ⟨hkl,hdi⟩:=xU HST w1 (p+1) HD1.out HB1.out
   have HKL:=xH hkl;have HDI:=xH hdi
   clear HST hkl hdi HD1 HB1
   go_wp2_with fail
   refine (xU HNM _).mono ?_
   rintro e w2 ⟨rfl,rfl⟩
   rw [World.size_alloc] at *
   generalize w1.heap.size=B at *
   obtain ⟨W2,hW2⟩:∃ W2,(w1.alloc (.cells #[.int .i64 5,.slice none 0 0,.slice none 0 0] 26)).alloc (.cells (nm8.map Value.string).toArray 9)=W2:=⟨_,rfl⟩
   rw [hW2] at HKL HDI ⊢
   clear hW2 HNM p0 p1 p2 pf
   go_wp2_with fail
   go_loopw [10] (fun i wr=>∃ (k:Nat),k≤8∧i=.int .i64 k∧Hid (KL R w B v b (p+1+k) wr)∧Hid (DInv (B+2) B wr 5 (.slice none 0 0) (.slice none 0 0) [] [] [] [])) (fun i _=>8 - (intOf i).toNat)
   case atStart=>exact ⟨0,by omega,rfl,HKL,HDI⟩
   case round =>
    clear HKL HDI
    obtain ⟨k,hk,rfl,HK,HD⟩:=hrel
    obtain ⟨b0,b1,b2⟩:=cs3 HD.out.cells (by omega)
    simp only [row3] at b0 b1 b2
    by_cases hlt:k < 8
    · have hq:decide ((k:Int) < 8)=true:=by simp;omega
      have HPK:=xH (pick_any R wr v b (p+1+k) 3 HK.out.dr (by omega) (by omega))
      go_wp2_with fail
      refine (xU HPK).mono ?_
      rintro e w3 ⟨r3,rfl,hr3,HD3,HB3⟩
      obtain ⟨o1,o2,o3⟩:=HK.out.ord
      have HK3:=xH (HK.out.next HD3.out HB3.out)
      have HI3:=xH (HD.out.kept HB3.out (fun b e=>by cases e;exact ⟨by omega,by omega⟩))
      clear HD3 HB3 HPK HK HD b0 b1 b2
      by_cases h0:r3=0
      · subst h0
        go_wp2_with fail
        go_roundw
        case rel=>exact ⟨k+1,by omega,by go_num,HK3,HI3⟩
        case measure=>simp [intOf];omega
      · have hz:((r3:Int)==0)=false:=beq_eq_false_iff_ne.2 (by omega)
        go_wp2_with fail
        go_roundw
        case rel=>exact ⟨k+1,by omega,by go_num,HK3,HI3⟩
        case measure=>simp [intOf];omega
    · have hq:decide ((k:Int) < 8)=false:=by simp;omega
      obtain ⟨q0,q1,q2⟩:=cs3 HK.out.box (by omega);have qf:=HK.out.box.frozen
      simp only [row3] at q0 q1 q2
      obtain ⟨o1,o2,o3⟩:=HK.out.ord
      have hne:w.heap.size≠B:=by omega
      have hne2:B≠w.heap.size:=by omega
      go_wp2_with fail
      refine bodyPost_ret (v:=.agg #[.int .i64 5,.slice none 0 0,.slice none 0 0]) (by simp [results,Tryz.results65,go_sem,q0,q1,q2]) rfl ?_
      exact lk_end (c:=⟨_,_,_⟩) (F:=[]) (p':=p+1+k) hR (OwnD.leaf _ _ ⟨by decide,by decide⟩) List.nodup_nil (fun x hx=>by cases hx) HK.out.dr (by simp [cd];omega) (by simp [wKd,wS,wKs]) HK.out.but _ _ _

theorem infoKind3:(Tryz.prog.info? 26).map (fun i=>(i.zero,i.size,i.bytes))=some (some (.agg #[.int .i64 0,.slice none 0 0,.slice none 0 0]),3,56):=by kernel_rfl
theorem infoStr1:(Tryz.prog.info? 9).map (fun i=>(i.zero,i.size,i.bytes))=some (some (.string ByteArray.empty),1,16):=by kernel_rfl
theorem wS_snoc1 (ns:List ByteArray) (x:ByteArray):wS (ns++[x])=wS ns+x.size+1:=by
 induction ns with
 | nil=>simp [wS]
 | cons a r ih=>simp only [List.cons_append,wS,ih];omega
theorem wKs_snoc1 (ks:List Kd) (k:Kd):wKs (ks++[k])=wKs ks+wKd k+1:=by
 induction ks with
 | nil=>simp [wKs];omega
 | cons a r ih=>simp only [List.cons_append,wKs,ih];omega
theorem nm8_size (i:Nat):(nm8.getD i ByteArray.empty).size≤4:=by
 by_cases h:i < 8
 · rcases (show i=0∨i=1∨i=2∨i=3∨i=4∨i=5∨i=6∨i=7 by omega) with rfl | rfl | rfl | rfl | rfl | rfl | rfl | rfl <;> decide
 · rw [List.getD_eq_getElem?_getD,List.getElem?_eq_none (by simp [nm8];omega)];decide
theorem World.grownBy.refl_drew (w:World):w.grownBy w.drew none:=⟨rfl,rfl,rfl,Nat.le_refl _,fun _ _ _=>rfl⟩
def LB (D p m n q:Nat) (ns:List ByteArray) (ks:List Kd):Prop :=
 ns.length=n∧ks.length=n∧(∀ x,x∈ns→x.size≤4)∧wS ns+wKs ks≤n * (6+D)∧q≤p+1+m+n * D
theorem LB.pass {D p m n q:Nat} {ns:List ByteArray} {ks:List Kd} (h:LB D p m n q ns ks):LB D p (m+1) n (q+1) ns ks:=by
 obtain ⟨h1,h2,h3,h4,h5⟩:=h
 exact ⟨h1,h2,h3,h4,by omega⟩
theorem LB.more {D p m n q q':Nat} {ns:List ByteArray} {ks:List Kd} {x:ByteArray} {k:Kd} (h:LB D p m n q ns ks) (hx:x.size≤4) (hk:wKd k≤D) (hq:q'≤q+1+D):LB D p (m+1) (n+1) q' (ns++[x]) (ks++[k]):=by
 obtain ⟨h1,h2,h3,h4,h5⟩:=h
 refine ⟨by simp [h1],by simp [h2],fun y hy=>?_,?_,?_⟩
 · rcases List.mem_append.1 hy with hy | hy
   · exact h3 y hy
   · simp at hy;rw [hy];exact hx
 · rw [wS_snoc1,wKs_snoc1,Nat.succ_mul];omega
 · rw [Nat.succ_mul];omega
theorem LB.draws {D p m n q:Nat} {ns:List ByteArray} {ks:List Kd} (h:LB D p m n q ns ks) (hn:n≤3) (hm:m≤8):q≤p+9+3 * D:=by
 have:=Nat.mul_le_mul_right D hn
 have:=h.2.2.2.2
 omega
theorem LB.fin {D p m n q:Nat} {ns:List ByteArray} {ks:List Kd} (h:LB D p m n q ns ks) (hn:n≤4) (hm:m≤8):q≤p+(30+5 * D)∧wS ns+wKs ks≤30+5 * D:=by
 have h1:=Nat.mul_le_mul_right D hn
 have h2:=Nat.mul_le_mul_right (6+D) hn
 have:=h.2.2.2.2
 have:=h.2.2.2.1
 omega
theorem l5Kind_step (d:Nat) (hd9:d≤9) (IH:LkSaid d):LkSaid (d+1):=by
 intro R w v b p top h hp
 have hp:p+(30+5 * cd d)≤100000000:=hp
 obtain ⟨hd0,hb0,hR⟩:=box3_start R w v b p h (.cells #[.int .i64 0,.slice none 0 0,.slice none 0 0] 26)
 have HPK:=xH (pick_any R _ v b p 10 hd0 (by omega) (by omega))
 have HST:=xH (fun w1 p1 hd hb=>KL.start (w:=w) (w1:=w1) (v:=v) (b:=b) (p:=p1) hR hd hb)
 have HNM:=xH l5Names_any
 have hX0:=row3_alloc w (.int .i64 0) (.slice none 0 0) (.slice none 0 0) 26
 have HX0:=xH hX0;have HB0:=xH hb0
 have hsub:∀ (W:World) (p2:Nat) (dp:Int),DR R W v b p2→p2+cd d≤100000000→dp=(d:Int)+1→Calls Tryz.prog 65 #[.pointer (some ⟨R,0,none⟩),.int .i64 dp,.bool false] W fun e w'=>∃ (k:Kd) (x0:Int) (ap:Option Addr) (np cp:Nat) (aq:Option Addr) (nq cq:Nat) (F:List Nat) (p':Nat),e=.returned (.agg #[.int .i64 x0,.slice ap np cp,.slice aq nq cq])∧Hid (OwnD w' k ⟨.int .i64 x0,.slice ap np cp,.slice aq nq cq⟩ F)∧F.Nodup∧Hid (∀ x,x∈F→W.heap.size≤x∧x < w'.heap.size)∧Hid (DR R w' v b p')∧p'≤p2+cd d∧wKd k≤cd d∧Hid (But R W w')∧W.heap.size≤w'.heap.size:=by
  rintro W p2 dp hW hp2 rfl
  refine (IH R W v b p2 false hW hp2).mono ?_
  rintro e w' ⟨k,⟨x0,x1,x2⟩,F,p',rfl,ho,hnd,hF,hdr,h1,h2,hb⟩
  obtain ⟨g0,-,F1,F2,-,⟨ap,cp,g1,-⟩,aq,cq,g2,-⟩:=ho.open
  simp only at g0 g1 g2
  subst g0 g1 g2
  exact ⟨k,_,_,_,_,_,_,_,F,p',rfl,ho,hnd,hF,hdr,h1,h2,hb,hb.size⟩
 have HSUB:=xH hsub
 obtain ⟨D,hD⟩:∃ D,D=cd d:=⟨_,rfl⟩
 rw [← hD] at HSUB hp
 have HFIN:Hid (cd (d+1)=30+5 * D):=by show cd (d+1)=_;rw [hD];rfl
 clear h hd0 hb0 hX0 hsub hD IH
 show Calls Tryz.prog 65 #[.pointer (some ⟨R,0,none⟩),.int .i64 (((d+1:Nat):Int)+1),.bool top] w _
 rw [show (((d+1:Nat):Int)+1)=(d:Int)+2 from by omega]
 have hq1:decide ((d:Int)+2≤1)=false:=by simp;omega
 have hq3:decide ((1:Int) < (d:Int)+2)=true:=by simp;omega
 have hw1:IntKind.i64.wrap ((d:Int)+2 - 1)=(d:Int)+1:=by rw [IntKind.wrap_i64];omega
 have hw2:IntKind.i64.wrap ((d:Int)+1)=(d:Int)+1:=by rw [IntKind.wrap_i64];omega
 go_enter Tryz.func65,Tryz.ntmps65
 go_wp2_with fail
 refine (xU HPK).mono ?_
 rintro e w1 ⟨r,rfl,hr,HD1,HB1⟩
 have hs1:=HB1.out.size
 rw [World.size_alloc] at hs1
 have hlt1:w.heap.size < w1.heap.size:=by omega
 have hne1:w.heap.size≠w1.heap.size:=by omega
 have hX1:=(xU HX0).of_block (HB1.out.at (by simp) (by omega))
 have HX1:=xH hX1
 clear HPK hX1 HX0
 by_cases hform:top=true∨7 < r
 · obtain ⟨i0,hi,hz0,hz1,hz2⟩:=info_parts infoKind3
   obtain ⟨j0,hj,hy0,hy1,hy2⟩:=info_parts infoStr1
   have HII:=xH hi;have HZ0:=xH hz0;have HZ1:=xH hz1;have HZ2:=xH hz2
   have HJJ:=xH hj;have HY0:=xH hy0;have HY1:=xH hy1;have HY2:=xH hy2
   obtain ⟨hkl,hdi⟩:=xU HST w1 (p+1) HD1.out HB1.out
   have HKL:=xH hkl;have HDI:=xH hdi
   clear hi hz0 hz1 hz2 hj hy0 hy1 hy2 HST hkl hdi HD1 HB1 HX1 HB0
   have hsplit:top=true∨(top=false∧decide ((7:Int) < (r:Int))=true):=by
    cases top
    · exact Or.inr ⟨rfl,by rcases hform with h | h;cases h;simp;omega⟩
    · exact Or.inl rfl
   clear hform
   rcases hsplit with rfl | ⟨rfl,hq7⟩
   all_goals
    go_wp2_with fail
    refine (xU HNM _).mono ?_
    rintro e w2 ⟨rfl,rfl⟩
    rw [World.size_alloc] at *
    generalize w1.heap.size=B at *
    obtain ⟨W2,hW2⟩:∃ W2,(w1.alloc (.cells #[.int .i64 5,.slice none 0 0,.slice none 0 0] 26)).alloc (.cells (nm8.map Value.string).toArray 9)=W2:=⟨_,rfl⟩
    rw [hW2] at HKL HDI ⊢
    clear hW2 HNM
    go_wp2_with fail
    go_loopw [10] (fun i wr=>∃ (m n q:Nat) (aN:Option Addr) (capN:Nat) (aK:Option Addr) (capK:Nat) (ns:List ByteArray) (ks:List Kd) (xs:List Value) (G:List Nat),m≤8∧n≤4∧i=.int .i64 m∧Hid (LB D p m n q ns ks)∧Hid (KL R w B v b q wr)∧Hid (DInv (B+2) B wr 5 (.slice aN n capN) (.slice aK n capK) ns ks xs G)) (fun i _=>8 - (intOf i).toNat)
    case atStart=>exact ⟨0,0,p+1,none,0,none,0,[],[],[],[],by omega,by omega,rfl,xH ⟨rfl,rfl,(fun x hx=>by cases hx),by simp [wS,wKs],by omega⟩,HKL,HDI⟩
    case round =>
     clear HKL HDI
     obtain ⟨m,n,q,aN,capN,aK,capK,ns,ks,xs,G,hm,hn,rfl,HLB,HK,HD⟩:=hrel
     obtain ⟨b0,b1,b2⟩:=cs3 HD.out.cells (by omega)
     simp only [row3] at b0 b1 b2
     obtain ⟨o1,o2,o3⟩:=HK.out.ord
     by_cases hgo:m < 8∧n < 4
     · obtain ⟨hm8,hn4⟩:=hgo
       have hqm:decide ((m:Int) < 8)=true:=by simp;omega
       have hqn:decide ((n:Int) < 4)=true:=by simp;omega
       have hqd:=HLB.out.draws (by omega) hm
       have HPK:=xH (pick_any R wr v b q 3 HK.out.dr (by omega) (by omega))
       go_wp2_with fail
       refine (xU HPK).mono ?_
       rintro e w3 ⟨r3,rfl,hr3,HD3,HB3⟩
       have HK3:=xH (HK.out.next HD3.out HB3.out)
       have HI3:=xH (HD.out.kept HB3.out (fun b e=>by cases e;exact ⟨by omega,by omega⟩))
       clear HD3 HB3 HPK HK HD b0 b1 b2
       by_cases h0:r3=0
       · subst h0
         have hnm:=nm8_size m
         have en:w3.cell? ⟨B+1,m,none⟩=some (.string (nm8.getD m ByteArray.empty)):=(xU HK3).nms.cell (i:=m) hm8
         generalize nm8.getD m ByteArray.empty=nm at *
         have e1:=(xU HI3).cells.cell (i:=1) (by omega)
         simp only [row3] at e1
         have e1a:∀ ob,(w3.alloc ob).cell? ⟨B,1,none⟩=some (.slice aN n capN):=fun ob=>((xU HI3).cells.alloc ob).cell (i:=1) (by omega)
         have HN3:Hid (DInv (B+2) B w3.drew 5 (.slice aN n capN) (.slice aK n capK) ns ks xs G):=(xU HI3).kept (World.grownBy.refl_drew w3) (fun b e=>by cases e)
         have hsz3:=(xU HI3).size
         have hix:(m:Int) < 8:=by omega
         go_wp2_with fail
         go_cut [] from 25 to 61 (fun wx=>∃ g1 cap1,Hid (DInv (B+2) B wx 5 (.slice (some ⟨g1,0,none⟩) (n+1) cap1) (.slice aK n capK) (ns++[nm]) ks xs G)∧Hid (KL R w B v b (q+1) wx))
         case first =>
          go_region_law ((refine step_append_lies _ (by rfl) _ _ _ (by rfl) (B+2) 9 j0 (.string ByteArray.empty) 1 16 Tryz.underlying23 (xU HJJ) (xU HY0) (xU HY1) (xU HY2) rfl (by decide) (.slice aN n capN) n (ns.map Value.string) (by rfl) (by have:=(xU HN3).names;rw [HLB.out.1] at this;exact this.alloc _) ⟨w3.heap.size,0,none⟩ 1 1 [.string nm] (by rfl) (by rfl) (cell_one w3.drew _ _) (fun u hu=>by simp at hu;subst hu;rfl) (by decide) (by unfold maxLen;omega) (by omega) (by simp;omega) (w3.heap.size+1) (by simp) ?_;intro g1 cap1 w4 hown4 hgrow4 hat4 hlt4;have u1:=(DInv.atN (xU HN3) hgrow4).cell (i:=1) (by omega);have uz:=(DInv.atN (xU HN3) hgrow4).frozen 1;simp only [row3] at u1))
          all_goals
           have hz:∀ o,(w3.drew.alloc o).heap.size=w3.heap.size+1:=fun o=>by rw [World.size_alloc];rfl
           have hinv5:=DInv.name ((xU HN3).kept (World.grownBy_alloc w3.drew (.cells #[.string nm] 9) none) (fun b e=>by cases e)) (by rw [HLB.out.1];exact hown4) hgrow4 (hat4.elim (fun e=>Or.inl (by rw [e];rfl)) (fun e=>Or.inr ⟨g1,rfl,by rw [hz,e];exact Nat.le_refl _⟩))
           have hkw5:KL R w B v b (q+1) (w4.setCell ⟨B,1,none⟩ (.slice (some ⟨g1,0,none⟩) (n+1) cap1)) :=
            ((((xU HK3).touch (World.grownBy.refl_drew w3) (fun b e=>by cases e)).touch (World.grownBy_alloc w3.drew (.cells #[.string nm] 9) none) (fun b e=>by cases e)).touch hgrow4 (fun b e=>by have:=((xU HN3).names.lt b e).1;omega)).touch (But.set (B:=B) _ _ _) (fun b e=>by cases e;exact Or.inl rfl)
           have HI5:=xH hinv5;have HKW5:=xH hkw5
           clear hinv5 hkw5 hown4 hgrow4 hat4 hlt4 uz u1
           go_wp2_with fail
           go_meet
           exact ⟨g1,cap1,HI5,HKW5⟩
         case rest =>
          obtain ⟨g1,cap1,HD5,HK5⟩:=hcut
          clear HK3 HI3 HN3 e1 e1a en hsz3
          have hcallK:∀ dp:Int,dp=(d:Int)+1→Calls Tryz.prog 65 #[.pointer (some ⟨R,0,none⟩),.int .i64 dp,.bool false] wc.drew fun e w7=>∃ (k:Kd) (x0:Int) (ap:Option Addr) (np cp:Nat) (aq:Option Addr) (nq cq:Nat) (F:List Nat) (p':Nat),e=.returned (.agg #[.int .i64 x0,.slice ap np cp,.slice aq nq cq])∧Hid (OwnD w7 k ⟨.int .i64 x0,.slice ap np cp,.slice aq nq cq⟩ F)∧F.Nodup∧Hid (∀ x,x∈F→wc.heap.size≤x∧x < w7.heap.size)∧Hid (KL R w B v b p' w7)∧Hid (p'≤q+1+D∧wKd k≤D)∧Hid (DInv (B+2) B w7 5 (.slice (some ⟨g1,0,none⟩) (n+1) cap1) (.slice aK n capK) (ns++[nm]) ks xs G)∧w7.cell? ⟨B,2,none⟩=some (.slice aK n capK)∧(∀ ob,(w7.alloc ob).cell? ⟨B,2,none⟩=some (.slice aK n capK))∧wc.heap.size≤w7.heap.size:=by
           rintro dp hdp
           have hk5:=(xU HK5).touch (World.grownBy.refl_drew wc) (fun b e=>by cases e)
           have hd5:=(xU HD5).kept (World.grownBy.refl_drew wc) (fun b e=>by cases e)
           refine (xU HSUB wc.drew (q+1) dp hk5.dr (by omega) hdp).mono ?_
           rintro e w7 ⟨k,x0,ap,np,cp,aq,nq,cq,F,p',rfl,ho,hnd,hF,hr7,hp7,hk7,hb7,hsz⟩
           have hd7:=hd5.kept hb7.out (fun b e=>by cases e;exact ⟨by omega,by omega⟩)
           exact ⟨k,x0,ap,np,cp,aq,nq,cq,F,p',rfl,ho,hnd,hF,hk5.next hr7.out hb7.out,⟨hp7,hk7⟩,hd7,hd7.cells.cell (i:=2) (by omega),fun ob=>(hd7.cells.alloc ob).cell (i:=2) (by omega),hsz⟩
          have HCK:=xH hcallK
          have e2:=(xU HD5).cells.cell (i:=2) (by omega)
          simp only [row3] at e2
          have e2a:∀ ob,(wc.alloc ob).cell? ⟨B,2,none⟩=some (.slice aK n capK):=fun ob=>((xU HD5).cells.alloc ob).cell (i:=2) (by omega)
          have hsz5:=(xU HD5).size
          clear hcallK
          go_wp2_with fail
          go_region_law (first
           | ((refine step_append_lies _ (by rfl) _ _ _ (by rfl) (B+2) 26 i0 _ 3 56 Tryz.underlying24 (xU HII) (xU HZ0) (xU HZ1) (xU HZ2) rfl (by decide) (.slice aK n capK) n xs (by rfl) (by have:=(xU HD7).got.row;rw [HLB.out.2.1] at this;exact this.alloc _) ⟨w7.heap.size,0,none⟩ 1 1 (c3l ⟨.int .i64 x0,.slice ap np cp,.slice aq nq cq⟩) (by rfl) (by rfl) (cell_three w7 _ _) (xU HOW).one (by decide) (by unfold maxLen;omega) (by omega) (by simp;omega) (w7.heap.size+1) (by simp) ?_;intro g2 cap2 w8 hown8 hgrow8 hat8 hlt8;have u2:=(DInv.atK (xU HD7) hgrow8).cell (i:=2) (by omega);have uz2:=(DInv.atK (xU HD7) hgrow8).frozen 2;simp only [row3] at u2))
           | (rw [if_pos (by first | rfl | simp [Region.wanted])];go_simp;refine (xU HCK _ (by first | rfl | omega)).mono ?_;rintro e w7 ⟨k,x0,ap,np,cp,aq,nq,cq,F,p',rfl,HOW,hFn,HFL,HK7,HPB,HD7,t2c,t2d,hs7⟩))
          all_goals
           have hz7:∀ o,(w7.alloc o).heap.size=w7.heap.size+1:=fun o=>World.size_alloc _ _
           have hinv8:=DInv.kid (m:=wc.heap.size) ((xU HD7).kept (World.grownBy_alloc w7 (.cells #[.int .i64 x0,.slice ap np cp,.slice aq nq cq] 26) none) (fun b e=>by cases e)) (OwnD.carry k _ F (fun b hb=>Below.heap_alloc _ _ _ (xU HFL b hb).2) (xU HOW)) hFn (fun b hb=>⟨(xU HFL b hb).1,by rw [hz7];have:=(xU HFL b hb).2;omega⟩)
            (fun b hb=>((xU HD5).got.lt b hb).2.1) (fun b hb=>((xU HD5).got.row.lt b hb).2) (fun b hb=>((xU HD5).names.lt b hb).2) (xU HD5).size (by rw [HLB.out.2.1];exact hown8) hgrow8 (hat8.elim (fun e=>Or.inl (by rw [e];rfl)) (fun e=>Or.inr ⟨g2,rfl,by rw [hz7,e];exact Nat.le_refl _⟩))
           have hkw8:KL R w B v b p' (w8.setCell ⟨B,2,none⟩ (.slice (some ⟨g2,0,none⟩) (n+1) cap2)) :=
            (((xU HK7).touch (World.grownBy_alloc w7 (.cells #[.int .i64 x0,.slice ap np cp,.slice aq nq cq] 26) none) (fun b e=>by cases e)).touch hgrow8 (fun b e=>by have:=((xU HD7).got.row.lt b e).1;omega)).touch (But.set (B:=B) _ _ _) (fun b e=>by cases e;exact Or.inl rfl)
           have HI8:=xH hinv8;have HKW8:=xH hkw8
           clear hinv8 hkw8 hown8 hgrow8 hat8 hlt8 u2 uz2
           go_wp2_with fail
           go_roundw
           case rel=>exact ⟨m+1,n+1,p',some ⟨g1,0,none⟩,cap1,some ⟨g2,0,none⟩,cap2,ns++[nm],ks++[k],_,_,by omega,by omega,by go_num,xH (HLB.out.more hnm HPB.out.2 HPB.out.1),HKW8,HI8⟩
           case measure=>simp [intOf];omega
       · have hz:((r3:Int)==0)=false:=beq_eq_false_iff_ne.2 (by omega)
         go_wp2_with fail
         go_roundw
         case rel=>exact ⟨m+1,n,q+1,aN,capN,aK,capK,ns,ks,xs,G,by omega,by omega,by go_num,xH HLB.out.pass,HK3,HI3⟩
         case measure=>simp [intOf];omega
     · have hfin:=HLB.out.fin hn hm
       obtain ⟨F,ho,hnd,hF⟩:=HD.out.done ⟨by decide,by decide⟩ (fun x hx=>by have:=HLB.out.2.2.1 x hx;omega)
       obtain ⟨q0,q1,q2⟩:=cs3 HK.out.box (by omega);have qf:=HK.out.box.frozen
       simp only [row3] at q0 q1 q2
       have hne:w.heap.size≠B:=by omega
       have hne2:B≠w.heap.size:=by omega
       have HEND:=xH (fun c0 c1 c2=>lk_end (d:=d+1) (w:=w) (p:=p) hR ho hnd (fun x hx=>⟨by have:=(hF x hx).1;omega,(hF x hx).2⟩) HK.out.dr (by rw [xU HFIN];omega) (by rw [wKd,xU HFIN];omega) HK.out.but c0 c1 c2)
       clear ho hF hnd hfin
       have hor:(m < 8∧¬ n < 4)∨¬ m < 8:=by omega
       clear hgo
       rcases hor with ⟨hx1,hx2⟩ | hx1
       · have hqm:decide ((m:Int) < 8)=true:=by simp;omega
         have hqn:decide ((n:Int) < 4)=false:=by simp;omega
         go_wp2_with fail
         refine bodyPost_ret (v:=.agg #[.int .i64 5,.slice aN n capN,.slice aK n capK]) (by simp [results,Tryz.results65,go_sem,q0,q1,q2]) rfl ?_
         exact xU HEND _ _ _
       · have hqm:decide ((m:Int) < 8)=false:=by simp;omega
         go_wp2_with fail
         refine bodyPost_ret (v:=.agg #[.int .i64 5,.slice aN n capN,.slice aK n capK]) (by simp [results,Tryz.results65,go_sem,q0,q1,q2]) rfl ?_
         exact xU HEND _ _ _
 · have htop:top=false:=by cases top;rfl;exact absurd (Or.inl rfl) hform
   have hr7:r≤7:=by by_cases h:7 < r;exact absurd (Or.inr h) hform;omega
   subst htop
   have hz7:decide ((7:Int) < (r:Int))=false:=by simp;omega
   have HBW:=xH ((xU HB0).trans HB1.out)
   obtain ⟨p0,p1,p2⟩:=cs3 ((xU HX1)) (by omega);have pf:=(xU HX1).frozen
   simp only [row3] at p0 p1 p2
   clear HST HNM HB0 hform
   by_cases h4:r≤4
   · have hz6:decide ((6:Int) < (r:Int))=false:=by simp;omega
     have hz4:decide ((4:Int) < (r:Int))=false:=by simp;omega
     clear HX1
     rcases (show r=0∨r=1∨r=2∨r=3∨r=4 by omega) with rfl | rfl | rfl | rfl | rfl
     · go_wp2_with fail
       refine bodyPost_ret (v:=.agg #[.int .i64 1,.slice none 0 0,.slice none 0 0]) (by simp [results,Tryz.results65,go_sem,p0,p1,p2,hlt1]) rfl ?_
       exact lk_leaf (p':=p+1) ⟨by decide,by decide⟩ hR HD1.out (by rw [xU HFIN];omega) (xU HBW) _ _ _ _
     · go_wp2_with fail
       refine bodyPost_ret (v:=.agg #[.int .i64 1,.slice none 0 0,.slice none 0 0]) (by simp [results,Tryz.results65,go_sem,p0,p1,p2,hlt1]) rfl ?_
       exact lk_leaf (p':=p+1) ⟨by decide,by decide⟩ hR HD1.out (by rw [xU HFIN];omega) (xU HBW) _ _ _ _
     · go_wp2_with fail
       refine bodyPost_ret (v:=.agg #[.int .i64 2,.slice none 0 0,.slice none 0 0]) (by simp [results,Tryz.results65,go_sem,p0,p1,p2,hlt1]) rfl ?_
       exact lk_leaf (p':=p+1) ⟨by decide,by decide⟩ hR HD1.out (by rw [xU HFIN];omega) (xU HBW) _ _ _ _
     · go_wp2_with fail
       refine bodyPost_ret (v:=.agg #[.int .i64 2,.slice none 0 0,.slice none 0 0]) (by simp [results,Tryz.results65,go_sem,p0,p1,p2,hlt1]) rfl ?_
       exact lk_leaf (p':=p+1) ⟨by decide,by decide⟩ hR HD1.out (by rw [xU HFIN];omega) (xU HBW) _ _ _ _
     · go_wp2_with fail
       refine bodyPost_ret (v:=.agg #[.int .i64 3,.slice none 0 0,.slice none 0 0]) (by simp [results,Tryz.results65,go_sem,p0,p1,p2,hlt1]) rfl ?_
       exact lk_leaf (p':=p+1) ⟨by decide,by decide⟩ hR HD1.out (by rw [xU HFIN];omega) (xU HBW) _ _ _ _
   · have HC:=xH (fun dp hdp=>xU HSUB w1 (p+1) dp HD1.out (by omega) hdp)
     clear HSUB p0 p1 p2 pf
     by_cases h6:r=7
     · have hz6:decide ((6:Int) < (r:Int))=true:=by simp;omega
       go_wp2_with fail
       refine (xU HC _ (by first | rfl | omega)).mono ?_
       rintro e w2 ⟨k,x0,ap,np,cp,aq,nq,cq,F,p',rfl,HO,hnd,HF,HD2,hp',hk',HB2,hs2⟩
       have hX2:=(xU HX1).of_block (HB2.out.at (xU HX1).lt (by omega))
       obtain ⟨p0,p1,p2⟩:=cs3 hX2 (by omega);have pf:=hX2.frozen
       simp only [row3] at p0 p1 p2
       have hlt2:w.heap.size < w2.heap.size:=by omega
       have hne2:w.heap.size≠w2.heap.size:=by omega
       clear hX2
       go_wp2_with fail
       refine bodyPost_ret (v:=.agg #[.int .i64 6,.slice none 0 0,.slice (some ⟨w2.heap.size,0,none⟩) 1 1]) (by simp [results,Tryz.results65,go_sem,p0,p1,p2,hlt2]) rfl ?_
       exact lk_single (p':=p') (c:=⟨_,_,_⟩) ⟨by decide,by decide⟩ hR HO.out hnd (fun x hx=>⟨by have:=(HF.out x hx).1;omega,(HF.out x hx).2⟩) hlt2 HD2.out (by rw [xU HFIN];omega) (by rw [xU HFIN];omega) ((xU HBW).trans HB2.out) _ _ _
     · have hz6:decide ((6:Int) < (r:Int))=false:=by simp;omega
       have hz4:decide ((4:Int) < (r:Int))=true:=by simp;omega
       go_wp2_with fail
       refine (xU HC _ (by first | rfl | omega)).mono ?_
       rintro e w2 ⟨k,x0,ap,np,cp,aq,nq,cq,F,p',rfl,HO,hnd,HF,HD2,hp',hk',HB2,hs2⟩
       have hX2:=(xU HX1).of_block (HB2.out.at (xU HX1).lt (by omega))
       obtain ⟨p0,p1,p2⟩:=cs3 hX2 (by omega);have pf:=hX2.frozen
       simp only [row3] at p0 p1 p2
       have hlt2:w.heap.size < w2.heap.size:=by omega
       have hne2:w.heap.size≠w2.heap.size:=by omega
       clear hX2
       go_wp2_with fail
       refine bodyPost_ret (v:=.agg #[.int .i64 4,.slice none 0 0,.slice (some ⟨w2.heap.size,0,none⟩) 1 1]) (by simp [results,Tryz.results65,go_sem,p0,p1,p2,hlt2]) rfl ?_
       exact lk_single (p':=p') (c:=⟨_,_,_⟩) ⟨by decide,by decide⟩ hR HO.out hnd (fun x hx=>⟨by have:=(HF.out x hx).1;omega,(HF.out x hx).2⟩) hlt2 HD2.out (by rw [xU HFIN];omega) (by rw [xU HFIN];omega) ((xU HBW).trans HB2.out) _ _ _

def nameByte (c:UInt8):Bool:=(97≤c.toNat && c.toNat≤122) || (48≤c.toNat && c.toNat≤57)
def nameFirst (c:UInt8):Bool:=97≤c.toNat && c.toNat≤122
def textByte (c:UInt8):Bool:=32≤c.toNat && c.toNat≤126 && c.toNat != 34
def allTo (p:UInt8→Bool) (s:ByteArray) (k:Nat):Prop:=∀ j,j < k→(h:j < s.size)→p s[j]=true
def nameOkB (s:ByteArray):Bool:=1≤s.size && s.size≤8 && nameFirst s[0]! && s.data.toList.all nameByte
def textOkB (s:ByteArray):Bool:=s.size≤60 && s.data.toList.all textByte
theorem all_of {p:UInt8→Bool} {s:ByteArray} (h:allTo p s s.size):s.data.toList.all p=true:=by
 rw [List.all_eq_true]
 intro x hx
 obtain ⟨i,hi,rfl⟩:=List.getElem_of_mem hx
 have hi':i < s.size:=by simpa using hi
 exact h i hi' hi'
theorem all_not {p:UInt8→Bool} {s:ByteArray} {k:Nat} (hk:k < s.size) (h:p s[k]=false):s.data.toList.all p=false:=by
 rw [Bool.eq_false_iff]
 intro ha
 rw [List.all_eq_true] at ha
 have:=ha s[k] (by have:s[k]=s.data.toList[k]'(by simpa using hk):=rfl;rw [this];exact List.getElem_mem _)
 rw [h] at this
 cases this
theorem ret_bool {b c:Bool} (h:b=c):Ending.returned (.bool b)=.returned (.bool c):=by rw [h]
theorem textOk_not {s:ByteArray} {k:Nat} (hk:k < s.size) (h:textByte s[k]=false):textOkB s=false:=by
 simp [textOkB,all_not hk h]
theorem textOk_yes {s:ByteArray} (h:s.size≤60) (ha:allTo textByte s s.size):textOkB s=true:=by
 simp [textOkB,h];simpa using all_of ha
theorem textByte_no {c:UInt8} (h:c.toNat < 32∨126 < c.toNat∨c.toNat=34):textByte c=false:=by
 unfold textByte;rcases h with h | h | h
 · rw [show decide (32≤c.toNat)=false from by simp;omega];rfl
 · rw [show decide (c.toNat≤126)=false from by simp;omega];simp
 · rw [h];rfl
theorem textByte_yes {c:UInt8} (h:32≤c.toNat∧c.toNat≤126∧c.toNat≠34):textByte c=true:=by
 unfold textByte;simp [h.1,h.2.1,h.2.2]
theorem allTo_succ {p:UInt8→Bool} {s:ByteArray} {k:Nat} (h:allTo p s k) (hk:k < s.size) (hp:p s[k]=true):allTo p s (k+1):=by
 intro j hj hs
 by_cases e:j=k
 · subst e;exact hp
 · exact h j (by omega) hs
theorem nameByte_yes {c:UInt8} (h:(97≤c.toNat∧c.toNat≤122)∨(48≤c.toNat∧c.toNat≤57)):nameByte c=true:=by
 unfold nameByte;rcases h with h | h <;> simp [h.1,h.2]
theorem nameByte_no {c:UInt8} (h:c.toNat < 48∨(57 < c.toNat∧c.toNat < 97)∨122 < c.toNat):nameByte c=false:=by
 unfold nameByte
 simp only [Bool.or_eq_false_iff,Bool.and_eq_false_iff,decide_eq_false_iff_not]
 omega
theorem nameOk_len {s:ByteArray} (h:s.size < 1∨8 < s.size):nameOkB s=false:=by
 unfold nameOkB
 rcases h with h | h
 · rw [show decide (1≤s.size)=false from decide_eq_false (by omega)];rfl
 · rw [show decide (s.size≤8)=false from decide_eq_false (by omega)];simp
theorem nameOk_first {s:ByteArray} (h0:0 < s.size) (h:s[0].toNat < 97∨122 < s[0].toNat):nameOkB s=false:=by
 unfold nameOkB
 rw [getElem!_pos s 0 h0,show nameFirst s[0]=false from by unfold nameFirst;simp only [Bool.and_eq_false_iff,decide_eq_false_iff_not];omega]
 simp
theorem nameOk_not {s:ByteArray} {k:Nat} (hk:k < s.size) (h:nameByte s[k]=false):nameOkB s=false:=by
 simp [nameOkB,all_not hk h]
theorem nameOk_yes {s:ByteArray} (h1:0 < s.size) (h2:s.size≤8) (hf:97≤s[0].toNat∧s[0].toNat≤122) (ha:allTo nameByte s s.size):nameOkB s=true:=by
 unfold nameOkB
 rw [all_of ha,getElem!_pos s 0 h1,show nameFirst s[0]=true from by unfold nameFirst;simp [hf.1,hf.2]]
 simp;omega
theorem getD_lt (l:List ByteArray) (i:Nat) (h:i < l.length):l.getD i ByteArray.empty=l[i]:=by simp [h]
def good (ns:List ByteArray) (i:Nat):Bool:=nameOkB (ns.getD i ByteArray.empty) && (decide (i=0) || Op.bytesLess (ns.getD (i - 1) ByteArray.empty).toList (ns.getD i ByteArray.empty).toList)
def riseB (ns:List ByteArray):Bool:=(List.range ns.length).all (good ns)
theorem rise_yes {ns:List ByteArray} (h:∀ i,i < ns.length→good ns i=true):riseB ns=true:=by
 unfold riseB;rw [List.all_eq_true];intro i hi;exact h i (List.mem_range.1 hi)
theorem rise_no {ns:List ByteArray} {i:Nat} (hi:i < ns.length) (h:good ns i=false):riseB ns=false:=by
 unfold riseB;rw [Bool.eq_false_iff];intro ha;rw [List.all_eq_true] at ha
 have:=ha i (List.mem_range.2 hi);rw [h] at this;cases this
theorem good_name {ns:List ByteArray} {i:Nat} (hi:i < ns.length) (h:nameOkB ns[i]=false):good ns i=false:=by
 unfold good;rw [getD_lt _ _ hi,h];rfl
theorem good_zero {ns:List ByteArray} (hi:0 < ns.length) (h:nameOkB ns[0]=true):good ns 0=true:=by
 unfold good;rw [getD_lt _ _ hi,h];rfl
theorem good_pos {ns:List ByteArray} {i:Nat} (hi:i < ns.length) (h0:0 < i) (h:nameOkB ns[i]=true):good ns i=Op.bytesLess (ns[i - 1]'(by omega)).toList ns[i].toList:=by
 unfold good;rw [getD_lt _ _ hi,getD_lt _ _ (show i - 1 < ns.length by omega),h,decide_eq_false (by omega)];simp
def aloneB (t:Tr):Bool :=
 if t.sort=1 then decide (-999999999≤t.num∧t.num≤999999999) && decide (t.text.toList=[]) && decide (t.names.length=0) && decide (t.kids.length=0)
 else if t.sort=2 then decide (t.num=0) && textOkB t.text && decide (t.names.length=0) && decide (t.kids.length=0)
 else if t.sort=3 then decide (0≤t.num∧t.num≤1) && decide (t.text.toList=[]) && decide (t.names.length=0) && decide (t.kids.length=0)
 else if t.sort=4 then decide (t.num=0) && decide (t.text.toList=[]) && decide (t.names.length=0) && decide (t.kids.length≤20)
 else if t.sort=5 then decide (t.num=0) && decide (t.text.toList=[]) && decide (t.names.length=t.kids.length) && riseB t.names
 else if t.sort=6 then decide (t.num=0) && decide (t.text.toList=[]) && decide (t.names.length=0) && decide (t.kids.length≤1)
 else false
mutual
def pT:Tr→Int→Int
 | .mk s n tx ns ks,d=>if 6 < d∨aloneB (.mk s n tx ns ks)=false then -1 else pK ks d 1
def pK:List Tr→Int→Int→Int
 | [],_,n=>n
 | t::r,d,n=>if pT t (d+1) < 0∨120 < n+pT t (d+1) then -1 else pK r d (n+pT t (d+1))
end
theorem pT_eq (t:Tr) (d:Int):pT t d=if 6 < d∨aloneB t=false then -1 else pK t.kids d 1:=by
 obtain ⟨s,n,tx,ns,ks⟩:=t
 rw [pT];rfl
theorem pK_bd (ks:List Tr) (d n:Int) (h0:1≤n) (h1:n≤120):pK ks d n=-1∨(1≤pK ks d n∧pK ks d n≤120):=by
 induction ks generalizing n with
 | nil=>rw [pK];omega
 | cons t r ih =>
   rw [pK]
   split
   · exact Or.inl rfl
   · exact ih _ (by omega) (by omega)
theorem pT_bd (t:Tr) (d:Int):pT t d=-1∨(1≤pT t d∧pT t d≤120):=by
 rw [pT_eq]
 split
 · exact Or.inl rfl
 · exact pK_bd _ _ _ (by omega) (by omega)
def ownB (t:Tr):Bool :=
 if t.sort=1 then decide (t.text.toList=[]) && decide (t.names=[]) && decide (t.kids.length=0)
 else if t.sort=2 then decide (t.num=0) && decide (t.names=[]) && decide (t.kids.length=0)
 else if t.sort=3 then decide (t.text.toList=[]) && decide (t.names=[]) && decide (t.kids.length=0)
 else if t.sort=4 then decide (t.num=0) && decide (t.text.toList=[]) && decide (t.names=[])
 else if t.sort=5 then decide (t.num=0) && decide (t.text.toList=[])
 else if t.sort=6 then decide (t.num=0) && decide (t.text.toList=[]) && decide (t.names=[])
 else false
def newB (t:Tr):Bool :=
 if t.sort=1 then decide (-999999999≤t.num∧t.num≤999999999)
 else if t.sort=2 then textOkB t.text
 else if t.sort=3 then decide (0≤t.num∧t.num≤1)
 else if t.sort=4 then decide (t.kids.length≤20)
 else if t.sort=5 then decide (t.names.length=t.kids.length) && riseB t.names
 else if t.sort=6 then decide (t.kids.length≤1)
 else false
theorem alone_eq (t:Tr):aloneB t=(ownB t && newB t):=by
 unfold aloneB ownB newB
 split
 · rw [Bool.eq_iff_iff];simp;grind
 split
 · rw [Bool.eq_iff_iff];simp;grind
 split
 · rw [Bool.eq_iff_iff];simp;grind
 split
 · rw [Bool.eq_iff_iff];simp
 split
 · rw [Bool.eq_iff_iff];simp;grind
 split
 · rw [Bool.eq_iff_iff];simp
 rfl

theorem l6In_any (n lo hi:Int) (w:World) :
 Calls Tryz.prog 45 #[.int .i64 n,.int .i64 lo,.int .i64 hi] w fun e w'=>e=.returned (.bool (decide (lo≤n∧n≤hi)))∧w'=w:=by
 by_cases h1:lo≤n
 · by_cases h2:n≤hi
   · go_enter Tryz.func45,Tryz.ntmps45
     go_wp2_with fail
     go_ret
     exact ⟨by simp [h1,h2],rfl⟩
   · go_enter Tryz.func45,Tryz.ntmps45
     go_wp2_with fail
     go_ret
     exact ⟨ret_bool (by symm;simp;omega),rfl⟩
 · go_enter Tryz.func45,Tryz.ntmps45
   go_wp2_with fail
   go_ret
   exact ⟨ret_bool (by symm;simp;omega),rfl⟩
theorem l6NameOk_any (s:ByteArray) (w:World) (hs:s.size≤9223372036854775807) :
 Calls Tryz.prog 68 #[.string s] w fun e w'=>e=.returned (.bool (nameOkB s))∧w'=w:=by
 by_cases h1:1≤s.size∧s.size≤8
 · obtain ⟨h1,h8⟩:=h1
   have hd:decide ((1:Int)≤s.size∧(s.size:Int)≤8)=true:=by simp;omega
   have hc0:s[0].toNat < 97∨122 < s[0].toNat∨(97≤s[0].toNat∧s[0].toNat≤122):=by omega
   rcases hc0 with hc | hc | hc
   · go_enter Tryz.func68,Tryz.ntmps68
     go_wp2_with (go_at_call 45;refine (l6In_any _ _ _ _).mono ?_;rintro e w' ⟨rfl,rfl⟩)
     go_ret
     exact ⟨ret_bool (nameOk_first (by omega) (Or.inl hc)).symm,rfl⟩
   · go_enter Tryz.func68,Tryz.ntmps68
     go_wp2_with (go_at_call 45;refine (l6In_any _ _ _ _).mono ?_;rintro e w' ⟨rfl,rfl⟩)
     go_ret
     exact ⟨ret_bool (nameOk_first (by omega) (Or.inr hc)).symm,rfl⟩
   · have HF:=xH hc
     obtain ⟨hca,hcb⟩:=hc
     go_enter Tryz.func68,Tryz.ntmps68
     go_wp2_with (go_at_call 45;refine (l6In_any _ _ _ _).mono ?_;rintro e w' ⟨rfl,rfl⟩)
     go_loop [3] (fun i=>∃ k:Nat,k≤s.size∧i=.int .i64 k∧Hid (allTo nameByte s k)) (fun i=>s.size - (intOf i).toNat)
     case atStart=>exact ⟨0,Nat.zero_le _,rfl,fun j hj=>by omega⟩
     case round =>
      obtain ⟨k,hk,rfl,HA⟩:=hrel
      by_cases hlt:k < s.size
      · have hc:s[k].toNat < 48∨(57 < s[k].toNat∧s[k].toNat < 97)∨122 < s[k].toNat∨(97≤s[k].toNat∧s[k].toNat≤122)∨(48≤s[k].toNat∧s[k].toNat≤57):=by omega
        rcases hc with hc | hc | hc | hc | hc
        · have HC:=xH (nameOk_not hlt (nameByte_no (Or.inl hc)))
          have d1:decide ((97:Int)≤s[k].toNat)=false:=by simp;omega
          have d2:decide ((s[k].toNat:Int)≤122)=true:=by simp;omega
          have d3:decide ((48:Int)≤s[k].toNat)=false:=by simp;omega
          have d4:decide ((s[k].toNat:Int)≤57)=true:=by simp;omega
          go_wp2_with fail
          go_ret
          exact ⟨ret_bool (xU HC).symm,rfl⟩
        · have HC:=xH (nameOk_not hlt (nameByte_no (Or.inr (Or.inl hc))))
          obtain ⟨hc1,hc2⟩:=hc
          have d1:decide ((97:Int)≤s[k].toNat)=false:=by simp;omega
          have d2:decide ((s[k].toNat:Int)≤122)=true:=by simp;omega
          have d3:decide ((48:Int)≤s[k].toNat)=true:=by simp;omega
          have d4:decide ((s[k].toNat:Int)≤57)=false:=by simp;omega
          go_wp2_with fail
          go_ret
          exact ⟨ret_bool (xU HC).symm,rfl⟩
        · have HC:=xH (nameOk_not hlt (nameByte_no (Or.inr (Or.inr hc))))
          have d1:decide ((97:Int)≤s[k].toNat)=true:=by simp;omega
          have d2:decide ((s[k].toNat:Int)≤122)=false:=by simp;omega
          have d3:decide ((48:Int)≤s[k].toNat)=true:=by simp;omega
          have d4:decide ((s[k].toNat:Int)≤57)=false:=by simp;omega
          go_wp2_with fail
          go_ret
          exact ⟨ret_bool (xU HC).symm,rfl⟩
        · have HN:=xH (allTo_succ HA.out hlt (nameByte_yes (Or.inl hc)))
          obtain ⟨hc1,hc2⟩:=hc
          have d1:decide ((97:Int)≤s[k].toNat)=true:=by simp;omega
          have d2:decide ((s[k].toNat:Int)≤122)=true:=by simp;omega
          have d3:decide ((48:Int)≤s[k].toNat)=true:=by simp;omega
          have d4:decide ((s[k].toNat:Int)≤57)=false:=by simp;omega
          go_wp2_with fail
          go_round
          case rel=>exact ⟨k+1,by omega,by go_num,HN⟩
          case measure=>simp [intOf];omega
        · have HN:=xH (allTo_succ HA.out hlt (nameByte_yes (Or.inr hc)))
          obtain ⟨hc1,hc2⟩:=hc
          have d1:decide ((97:Int)≤s[k].toNat)=false:=by simp;omega
          have d2:decide ((s[k].toNat:Int)≤122)=true:=by simp;omega
          have d3:decide ((48:Int)≤s[k].toNat)=true:=by simp;omega
          have d4:decide ((s[k].toNat:Int)≤57)=true:=by simp;omega
          go_wp2_with fail
          go_round
          case rel=>exact ⟨k+1,by omega,by go_num,HN⟩
          case measure=>simp [intOf];omega
      · go_wp2_with fail
        go_ret
        obtain rfl:k=s.size:=by omega
        exact ⟨ret_bool (nameOk_yes (by omega) (by omega) (xU HF) HA.out).symm,rfl⟩
 · have hd:decide ((1:Int)≤s.size∧(s.size:Int)≤8)=false:=by simp;omega
   go_enter Tryz.func68,Tryz.ntmps68
   go_wp2_with (go_at_call 45;refine (l6In_any _ _ _ _).mono ?_;rintro e w' ⟨rfl,rfl⟩)
   go_ret
   exact ⟨ret_bool (nameOk_len (by omega)).symm,rfl⟩
theorem geqS (t:TypeId) (a b:ByteArray):binOp .geq t (.string a) (.string b)=pure (.bool !(Op.bytesLess a.toList b.toList)):=by simp [binOp,Op.stringOp]
theorem l1Rise_any (v:Value) (ss:List ByteArray) (w:World) {P:Nat→Prop} (hP:∀ b,P b→b < w.heap.size) (hv:StrsAt P w v ss) :
 Calls Tryz.prog 46 #[v] w fun e w'=>e=.returned (.bool (riseB ss))∧Below w.heap.size w w':=by
 obtain ⟨a,cap,rfl,hlen,hc⟩:=hv
 have HC:=xH hc;have HP:=xH hP
 clear hc hP
 go_enter Tryz.func46,Tryz.ntmps46
 go_wp2_with fail
 go_loopw [3] (fun i wr=>∃ (k:Nat),k≤ss.length∧i=.int .i64 k∧Hid (∀ j,j < k→good ss j=true)∧Below w.heap.size w wr) (fun i _=>ss.length - (intOf i).toNat)
 case atStart=>exact ⟨0,Nat.zero_le _,rfl,xH (fun j hj=>by omega),Below.refl _ _⟩
 case round =>
  obtain ⟨k,hk,rfl,HG,hb⟩:=hrel
  by_cases hlt:k < ss.length
  · obtain ⟨b,o,rfl,hpb,hcell,hsz⟩:=xU HC k hlt
    have e1:wr.cell? ⟨b,o+k,none⟩=some (.string ss[k]):=by rw [hb.cell (xU HP b hpb)];exact hcell
    clear hcell hpb
    have hname:=fun w=>l6NameOk_any ss[k] w hsz
    have HN:=xH hname;clear hname
    by_cases hn:nameOkB ss[k]=true
    · by_cases h0:0 < k
      · obtain ⟨b',o',he,hpb,hcell,-⟩:=xU HC (k - 1) (by omega)
        simp only [Option.some.injEq,Addr.mk.injEq,and_true] at he
        obtain ⟨rfl,rfl⟩:=he
        have e0:wr.cell? ⟨b,o+(k - 1),none⟩=some (.string (ss[k - 1]'(by omega))):=by rw [hb.cell (xU HP b hpb)];exact hcell
        have hd0:decide ((0:Int) < k)=true:=by simp;omega
        have hgd:=good_pos hlt h0 hn
        generalize hlb:Op.bytesLess (ss[k - 1]'(by omega)).toList ss[k].toList=lb at hgd
        have hi1:((k:Int) - 1).toNat=k - 1:=by omega
        have HGD:=xH hgd
        clear hcell hpb hgd
        have hge:=geqS
        cases lb
        · have HR:=xH (rise_no hlt (xU HGD))
          go_wp2_with fail
          go_quiet ((go_at_call 68;exact Calls.quiet_of_same (xU HN _)))
          go_wp2_with fail
          go_ret
          exact ⟨ret_bool (xU HR).symm,below_drewN hb _⟩
        · go_wp2_with fail
          go_quiet ((go_at_call 68;exact Calls.quiet_of_same (xU HN _)))
          go_wp2_with fail
          go_roundw
          case rel=>exact ⟨k+1,by omega,by go_num,xH (fun j hj=>by
           by_cases e:j=k
           · subst e;exact xU HGD
           · exact HG.out j (by omega)),below_drewN hb _⟩
          case measure=>simp [intOf];omega
      · have hd0:decide (0 < k)=false:=by simp;omega
        have HK0:Hid (k=0):=by show k=0;omega
        clear h0
        go_wp2_with fail
        go_quiet ((go_at_call 68;exact Calls.quiet_of_same (xU HN _)))
        go_wp2_with fail
        go_roundw
        case rel => exact ⟨k + 1, by omega, by go_num, hide (fun j hj => by have := HK0.out; subst this; obtain rfl : j = 0 := by omega
                                                                            exact good_zero hlt hn),below_drewN hb _⟩
        case measure=>simp [intOf];omega
    · have hn':nameOkB ss[k]=false:=by simpa using hn
      have HR:=xH (rise_no hlt (good_name hlt hn'))
      clear hn
      go_wp2_with fail
      go_quiet ((go_at_call 68;exact Calls.quiet_of_same (xU HN _)))
      go_wp2_with fail
      go_ret
      exact ⟨ret_bool (xU HR).symm,below_drewN hb _⟩
  · go_wp2_with fail
    go_ret
    exact ⟨ret_bool (rise_yes (fun i hi=>HG.out i (by omega))).symm,hb⟩

def shB (k:Kd):Bool :=
 if k.sort=1∨k.sort=2∨k.sort=3 then decide (k.kids.length=0∧k.names.length=0)
 else if k.sort=4∨k.sort=6 then decide (k.kids.length=1∧k.names.length=0)
 else if k.sort=5 then decide (k.kids.length=k.names.length) && riseB k.names
 else false
mutual
def qT:Kd→Int→Int
 | .mk s ns ks,d=>if 6 < d∨shB (.mk s ns ks)=false then -1 else qK ks d 1
def qK:List Kd→Int→Int→Int
 | [],_,n=>n
 | t::r,d,n=>if qT t (d+1) < 0∨40 < n+qT t (d+1) then -1 else qK r d (n+qT t (d+1))
end
theorem qT_eq (t:Kd) (d:Int):qT t d=if 6 < d∨shB t=false then -1 else qK t.kids d 1:=by
 obtain ⟨s,ns,ks⟩:=t
 rw [qT];rfl
theorem qK_bd (ks:List Kd) (d n:Int) (h0:1≤n) (h1:n≤40):qK ks d n=-1∨(1≤qK ks d n∧qK ks d n≤40):=by
 induction ks generalizing n with
 | nil=>rw [qK];omega
 | cons t r ih =>
   rw [qK]
   split
   · exact Or.inl rfl
   · exact ih _ (by omega) (by omega)
theorem qT_bd (t:Kd) (d:Int):qT t d=-1∨(1≤qT t d∧qT t d≤40):=by
 rw [qT_eq]
 split
 · exact Or.inl rfl
 · exact qK_bd _ _ _ (by omega) (by omega)
theorem qK_step {ks:List Kd} {k:Nat} (hk:k < ks.length) (d n:Int):qK (ks.drop k) d n=if qT ks[k] (d+1) < 0∨40 < n+qT ks[k] (d+1) then -1 else qK (ks.drop (k+1)) d (n+qT ks[k] (d+1)):=by
 rw [List.drop_eq_getElem_cons hk,qK]
mutual
def pord:Kd→Int→List (Int × Kd)
 | .mk s ns ks,l=>(l,.mk s ns ks)::pordK ks (l+1)
def pordK:List Kd→Int→List (Int × Kd)
 | [],_=>[]
 | t::r,l=>pord t l++pordK r l
end
theorem pord_eq (t:Kd) (l:Int):pord t l=(l,t)::pordK t.kids (l+1):=by
 obtain ⟨s,ns,ks⟩:=t
 rw [pord];rfl
def gdB (x:Int × Kd):Bool:=decide (x.1≤6) && shB x.2
mutual
theorem qT_pord:∀ (t:Kd) (d:Int),qT t d=if (pord t d).all gdB=true∧(pord t d).length≤40 then ((pord t d).length:Int) else -1
 | .mk s ns ks,d=>by
   rw [qT,pord]
   by_cases h:6 < d∨shB (.mk s ns ks)=false
   · rw [if_pos h,if_neg]
     rintro ⟨h1,-⟩
     simp only [List.all_cons,Bool.and_eq_true,gdB,decide_eq_true_eq] at h1
     rcases h with h | h
     · omega
     · rw [h] at h1;simp at h1
   · have h1:d≤6:=by omega
     have h2:shB (.mk s ns ks)=true:=by
      cases hh:shB (.mk s ns ks)
      · exact absurd (Or.inr hh) h
      · rfl
     have hg:gdB (d,.mk s ns ks)=true:=by simp [gdB,h1,h2]
     rw [if_neg h,qK_pord ks d 1 (by omega) (by omega)]
     simp only [List.all_cons,hg,Bool.true_and,List.length_cons]
     by_cases hx:(pordK ks (d+1)).all gdB=true∧(1:Int)+(pordK ks (d+1)).length≤40
     · rw [if_pos hx,if_pos ⟨hx.1,by omega⟩];omega
     · rw [if_neg hx,if_neg (fun hy=>hx ⟨hy.1,by omega⟩)]
theorem qK_pord:∀ (ks:List Kd) (d n:Int),1≤n→n≤40→qK ks d n=if (pordK ks (d+1)).all gdB=true∧n+(pordK ks (d+1)).length≤40 then n+((pordK ks (d+1)).length:Int) else -1
 | [],d,n=>by
   intro h1 h2
   rw [qK,pordK]
   simp [h2]
 | t::r,d,n=>by
   intro h1 h2
   rw [qK,pordK,qT_pord t (d+1)]
   simp only [List.all_append,List.length_append,Bool.and_eq_true]
   by_cases ha:(pord t (d+1)).all gdB=true∧(pord t (d+1)).length≤40
   · rw [if_pos ha]
     by_cases hb:n+((pord t (d+1)).length:Int)≤40
     · rw [if_neg (by omega),qK_pord r d _ (by omega) hb]
       by_cases hx:(pordK r (d+1)).all gdB=true∧n+((pord t (d+1)).length:Int)+(pordK r (d+1)).length≤40
       · rw [if_pos hx,if_pos ⟨⟨ha.1,hx.1⟩,by omega⟩];omega
       · rw [if_neg hx,if_neg (fun hy=>hx ⟨hy.1.2,by omega⟩)]
     · rw [if_pos (by omega),if_neg (fun hy=>by omega)]
   · rw [if_neg ha,if_pos (by omega),if_neg (fun hy=>ha ⟨hy.1.1,by omega⟩)]
end
theorem qT_start (t:Kd):decide (0 < qT t 1)=((pord t 1).all gdB && decide ((pord t 1).length≤40)):=by
 have hl:0 < (pord t 1).length:=by rw [pord_eq];simp
 rw [qT_pord]
 by_cases h:(pord t 1).all gdB=true∧(pord t 1).length≤40
 · rw [if_pos h];simp only [h.1,h.2,decide_true,Bool.and_self];simp;omega
 · rw [if_neg h]
   symm
   rw [show decide ((0:Int) < -1)=false from rfl]
   cases hh:(pord t 1).all gdB
   · rfl
   · simp only [Bool.true_and,decide_eq_false_iff_not];exact fun hy=>h ⟨hh,hy⟩
theorem ksz_w (t:Kd):ksz t≤wKd t+1:=by
 have key:∀ n,∀ t:Kd,ksz t≤n→ksz t≤wKd t+1:=by
  intro n
  induction n with
  | zero=>intro t h;obtain ⟨s,ns,ks⟩:=t;rw [ksz] at h;omega
  | succ n ih =>
    intro t h
    obtain ⟨s,ns,ks⟩:=t
    rw [ksz] at h ⊢
    rw [wKd]
    have:∀ l:List Kd,klsz l≤n→klsz l≤wKs l:=by
     intro l
     induction l with
     | nil=>intro _;simp [klsz]
     | cons a r ihl =>
       intro hl
       rw [klsz] at hl ⊢
       rw [wKs]
       have h1:=ih a (by omega)
       have h2:=ihl (by omega)
       omega
    have:=this ks (by omega)
    omega
 exact key _ t (Nat.le_refl _)
end Go.Proofs.YteefjeddboefcaaGreatDoor
