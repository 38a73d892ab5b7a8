/- A part. -/
import Derived.Test.YteikmbkljkkjiaaPart10
import Derived.Test.YteikmbkljkkjiaaPart11
namespace Go.Proofs.Yteikmbkljkkjiaa
open Go Go.RowKit
set_option maxRecDepth 100000
set_option maxHeartbeats 6400000
theorem ixRunN {o:Oper} {a:Act} {X I:Operand} {g p n cap i:Nat} (ho:o.op=.indexAddr 24 X I) (hx:a.eval X=.slice (some ⟨g,p,none⟩) n cap) (hi:a.eval I=.int .i64 (i:Nat)) (h:i < n) (w:World):(execOp a.eval o).run Try.prog w=.ok (.value (.pointer (some ⟨g,p+i,none⟩))) w:=by
 have h1:(0:Int)≤(i:Int)∧(i:Int) < (n:Int):=⟨by omega,by omega⟩
 have h2:(Instr.indexAt 24 (.slice (some ⟨g,p,none⟩) n cap) (.int .i64 (i:Nat))).run Try.prog w=.ok (.pointer (some ⟨g,p+i,none⟩)) w:=by
  have e:(⟨g,p+i,none⟩:Addr)=(⟨g,p,none⟩:Addr).add (i * 1):=by rw [Nat.mul_one];simp [Addr.add]
  rw [e]
  simp [go_sem,h1]
 unfold execOp
 simp only [ho,hx,hi,Sem.run_bind,Sem.run_pure,Result.andThen_ok,h2]
noncomputable def lp9Ops:Array Oper:=fops Try.f85 9
theorem lp9_neat:Region.noSelect lp9Ops=true∧neat lp9Ops=true:=⟨by kernel_rfl,by kernel_rfl⟩
theorem lp9 (B1 B2 B5 g p n cap i:Nat) (c:C3) (num m:Int) (x y:ByteArray) (b:Bool) (W0:World) {l:List Value} (Q:Exit→Act→World→Prop) (hQ:∀ c a d v w,Q (.panic c) (Act.put a d v) w→Q (.panic c) a w) (h1:W0.drew.rowIs B1 27 3 (row3 c.c0 c.c1 c.c2)) (hg:g < W0.drew.heap.size) (hx:W0.drew.cell? ⟨g,p+i,none⟩=some (.string x)) (hi:i < n) (HK:∀ W,Below W0.drew.heap.size W0.drew W→Calls Try.prog 9 #[.agg #[c.c0,c.c1,c.c2],.string x] W fun e w'=>e=.returned (.tuple #[.string y,.bool b])∧Below W.heap.size W w')
 (hl:lookL [(0,.agg #[c.c0,c.c1,c.c2]),(1,.pointer (some ⟨B1,0,none⟩)),(2,.pointer (some ⟨B2,0,none⟩)),(3,.int .i64 0),(4,.slice (some ⟨g,p,none⟩) n cap),(5,.pointer (some ⟨B5,0,none⟩)),(6,.int .i64 num),(7,.int .i64 (i:Nat)),(8,.int .i64 m),(13,.agg #[c.c0,c.c1,c.c2]),(14,.slice (some ⟨g,p,none⟩) n cap),(15,.agg #[.slice none 0 0,.int .i64 0,.int .i64 0]),(47,undef),(48,undef)] l=(49,([(0,.agg #[c.c0,c.c1,c.c2]),(1,.pointer (some ⟨B1,0,none⟩)),(2,.pointer (some ⟨B2,0,none⟩)),(3,.int .i64 0),(4,.slice (some ⟨g,p,none⟩) n cap),(5,.pointer (some ⟨B5,0,none⟩)),(6,.int .i64 num),(7,.int .i64 (i:Nat)),(8,.int .i64 m),(13,.agg #[c.c0,c.c1,c.c2]),(14,.slice (some ⟨g,p,none⟩) n cap),(15,.agg #[.slice none 0 0,.int .i64 0,.int .i64 0]),(47,undef),(48,undef)]:List (Nat × Value)).map (·.2)))
 (hend:∀ (u:Nat→Value) (W:World),Below W0.drew.heap.size W0.drew W→Q .normal ⟨(frL u 49 [(0,.agg #[c.c0,c.c1,c.c2]),(1,.pointer (some ⟨B1,0,none⟩)),(2,.pointer (some ⟨B2,0,none⟩)),(3,.int .i64 0),(4,.slice (some ⟨g,p,none⟩) n cap),(5,.pointer (some ⟨B5,0,none⟩)),(6,.int .i64 num),(7,.int .i64 (i:Nat)),(8,.int .i64 m),(9,.string y),(10,.bool b),(13,.agg #[c.c0,c.c1,c.c2]),(14,.slice (some ⟨g,p,none⟩) n cap),(15,.agg #[.slice none 0 0,.int .i64 0,.int .i64 0]),(47,undef),(48,undef)]).toArray,[]⟩ W):(Code.region 9 lp9Ops true).wp Try.prog Q ⟨l.toArray,[]⟩ W0:=by
 obtain ⟨v0,rfl⟩:=look_fr hl
 have hq:NtQ lp9Ops Q:=⟨lp9_neat,hQ⟩
 refine T_start (S:=fun W=>Below W0.drew.heap.size W0.drew W) (by kernel_rfl) (Below.refl _ _) ?_
 clear hl hQ
 generalize W0.drew=V at h1 hg hx HK hend ⊢
 refine T_a hq [0,1,2] (fun w h=>.cons (ldDk (h1.of_block (h.block _ h1.lt))) (Lds.nil)) (by kernel_rfl) ?_
 refine T_yld hq 3 (some 34) (.pointer (some ⟨g,p+i,none⟩)) (by kernel_rfl) (by kernel_rfl) (fun w h=>ixRunN (X:=.tmp 32) (I:=.tmp 33) (n:=n) (cap:=cap) (i:=i) (by kernel_rfl) (by kernel_rfl) (by kernel_rfl) hi w) ?_
 refine T_a hq [4] (fun w h=>.cons (ldStr _ _ _ ((h.cell hg).trans hx)) (Lds.nil)) (by kernel_rfl) ?_
 refine T_fr 11 49 [5,6,7,8,9,10] [(0,.agg #[c.c0,c.c1,c.c2]),(1,.pointer (some ⟨B1,0,none⟩)),(2,.pointer (some ⟨B2,0,none⟩)),(3,.int .i64 0),(4,.slice (some ⟨g,p,none⟩) n cap),(5,.pointer (some ⟨B5,0,none⟩)),(6,.int .i64 num),(7,.int .i64 (i:Nat)),(8,.int .i64 m),(13,.agg #[c.c0,c.c1,c.c2]),(14,.slice (some ⟨g,p,none⟩) n cap),(15,.agg #[.slice none 0 0,.int .i64 0,.int .i64 0]),(31,.agg #[c.c0,c.c1,c.c2]),(35,.string x),(47,undef),(48,undef)] (by kernel_rfl) fun u=>?_
 refine T_one 5 (by kernel_rfl) fun _=>O_go (HK V (Below.refl _ _)) (by kernel_rfl) ?_
 rintro e w1 ⟨rfl,hb1⟩
 refine ⟨_,rfl,hb1,?_⟩
 refine T_z hq [6,7,8,9,10] (by kernel_rfl) ?_
 exact T_end 49 [(0,.agg #[c.c0,c.c1,c.c2]),(1,.pointer (some ⟨B1,0,none⟩)),(2,.pointer (some ⟨B2,0,none⟩)),(3,.int .i64 0),(4,.slice (some ⟨g,p,none⟩) n cap),(5,.pointer (some ⟨B5,0,none⟩)),(6,.int .i64 num),(7,.int .i64 (i:Nat)),(8,.int .i64 m),(9,.string y),(10,.bool b),(13,.agg #[c.c0,c.c1,c.c2]),(14,.slice (some ⟨g,p,none⟩) n cap),(15,.agg #[.slice none 0 0,.int .i64 0,.int .i64 0]),(47,undef),(48,undef)] (by kernel_rfl) (by kernel_rfl) fun hS u=>hend u w1 hS
def PnEnd (w w':World) (e:Ending):Prop:=∃ (l:Pl) (v:Value) (num:Nat),e=.returned (.tuple #[.agg #[v,.int .i64 l.op,.int .i64 l.fi],.int .i64 num])∧PtsAt (New w w') w' v l.parts∧(num=0∨plOk l)∧num≤999999∧Below w.heap.size w w'
structure PnS (w W:World) (c:C3) (B5:Nat) (l:Pl) (v:Value) (num:Nat):Prop where
 below:Below w.heap.size w W
 b1:W.rowIs w.heap.size 27 3 (row3 c.c0 c.c1 c.c2)
 b2:W.rowIs (w.heap.size+1) 115 3 (row3 (.slice none 0 0) (.int .i64 0) (.int .i64 0))
 b5:W.rowIs B5 115 3 (row3 v (.int .i64 l.op) (.int .i64 l.fi))
 pts:PtsAt (fun b=>w.heap.size+2≤b∧b < W.heap.size∧b≠B5) W v l.parts
 ok:num=0∨plOk l
 le:num≤999999
 lo:w.heap.size+2≤B5
theorem PnS.on {w W W':World} {c:C3} {B5:Nat} {l:Pl} {v:Value} {num:Nat} (h:PnS w W c B5 l v num) (hb:Below W.heap.size W W'):PnS w W' c B5 l v num :=
 ⟨h.below.trans (hb.mono h.below.size),h.b1.of_block (hb.block _ h.b1.lt),h.b2.of_block (hb.block _ h.b2.lt),h.b5.of_block (hb.block _ h.b5.lt),h.pts.carry (fun b hb'=>hb.block b hb'.2.1) (fun _ hb'=>⟨hb'.1,Nat.lt_of_lt_of_le hb'.2.1 hb.size,hb'.2.2⟩),h.ok,h.le,h.lo⟩
theorem look_small {d:Dk} (x:ByteArray):(lookD d x).1.size≤20000:=by
 by_cases h:x∈namesD d
 · obtain ⟨i,hi,hok,-,e⟩:=names_file h
   rw [lookD_yes h i hi e]
   exact (hok.file i hi (by rw [hok.len];exact hi)).data
 · rw [lookD_no h];decide
theorem names_small {d:Dk} {x:ByteArray} (h:x∈namesD d):x.size≤8:=by
 obtain ⟨i,hi,hok,e,-⟩:=names_file h
 have:=(hok.file i hi (by rw [hok.len];exact hi)).name
 rw [e] at this
 exact name_size this
theorem pts_new {w w':World} {v:Value} {ps:List Pt} {F:List Nat} (h:FlatOwn w' v 4 (ps.map Pt.cs) F) (hF:∀ b,b∈F→w.heap.size≤b∧b < w'.heap.size):PtsAt (New w w') w' v ps:=FlatAt.carry h.at (fun _ _=>rfl) hF
theorem PnS.put {w W w4:World} {c:C3} {B5:Nat} {l l2:Pl} {v v2:Value} {num m:Nat} (h:PnS w W c B5 l v num) (hb:Below W.heap.size W w4) (hp:PtsAt (New W w4) w4 v2 l2.parts) (hok:plOk l2) (hm:m≤999999) :
 PnS w (((w4.setCell ⟨B5,0,none⟩ v2).setCell ⟨B5,1,none⟩ (.int .i64 l2.op)).setCell ⟨B5,2,none⟩ (.int .i64 l2.fi)) c B5 l2 v2 m:=by
 have h4:=h.on hb
 have hB:=h.b5.lt
 obtain ⟨s1,s2,s3,s4⟩:=set3 w4 B5 v2 (.int .i64 l2.op) (.int .i64 l2.fi)
 have hs:∀ a,a≠B5→(((w4.setCell ⟨B5,0,none⟩ v2).setCell ⟨B5,1,none⟩ (.int .i64 l2.op)).setCell ⟨B5,2,none⟩ (.int .i64 l2.fi)).heap[a]? = w4.heap[a]? := s1
 have hz:(((w4.setCell ⟨B5,0,none⟩ v2).setCell ⟨B5,1,none⟩ (.int .i64 l2.op)).setCell ⟨B5,2,none⟩ (.int .i64 l2.fi)).heap.size=w4.heap.size:=s2
 have hlo:=h.lo
 have hbs:=hb.size
 refine ⟨s4 _ _ (by omega) h4.below,h4.b1.of_block (hs _ (by omega)),h4.b2.of_block (hs _ (by omega)),s3 _ _ h4.b5,hp.carry (fun b hb'=>?_) (fun b hb'=>?_),Or.inr hok,hm,hlo⟩
 · have h1:W.heap.size≤b:=hb'.1
   exact hs b (by omega)
 · have h1:W.heap.size≤b:=hb'.1
   have h2:=h.below.size
   exact ⟨by omega,by rw [hz];exact hb'.2,by omega⟩
theorem l43Plan_any (d:Dk) (P:Nat→Prop) (c:C3) (w:World) (hP:∀ b,P b→b < w.heap.size) (hd:DkAt P w d c) :
 Calls Try.prog 85 #[.agg #[c.c0,c.c1,c.c2]] w fun e w'=>PnEnd w w' e:=by
 have HNM:=xH (fun W (hW:Below w.heap.size w W)=>specDiskNames_any d P c W (fun b hb=>Nat.lt_of_lt_of_le (hP b hb) hW.size) (hd.carry (fun b hb=>hW.block b (hP b hb)) (fun _ h=>h)))
 have HLK:=xH (fun x W (hW:Below w.heap.size w W)=>specDiskLook_any d x P c W (fun b hb=>Nat.lt_of_lt_of_le (hP b hb) hW.size) (hd.carry (fun b hb=>hW.block b (hP b hb)) (fun _ h=>h)))
 obtain ⟨c0,c1,c2⟩:=c
 obtain ⟨a0,p0,g0,-,-⟩:=hd.fs.open
 obtain ⟨a1,p1,g1,-,-⟩:=id hd.ns
 obtain ⟨a2,p2,g2,-,-⟩:=hd.ms.open
 simp only at g0 g1 g2
 subst g0 g1 g2
 have hb0:Below w.heap.size w ((w.alloc (.cells #[.slice a0 d.files.length p0,.slice a1 d.names.length p1,.slice a2 d.moves.length p2] 27)).alloc (.cells #[.slice none 0 0,.int .i64 0,.int .i64 0] 115)):=((Below.refl _ _).alloc (Nat.le_refl _) _).alloc (by simp) _
 have hr1:=(row3_alloc w (.slice a0 d.files.length p0) (.slice a1 d.names.length p1) (.slice a2 d.moves.length p2) 27).alloc (.cells #[.slice none 0 0,.int .i64 0,.int .i64 0] 115)
 have hr2:=row3_alloc (w.alloc (.cells #[.slice a0 d.files.length p0,.slice a1 d.names.length p1,.slice a2 d.moves.length p2] 27)) (.slice none 0 0) (.int .i64 0) (.int .i64 0) 115
 rw [World.size_alloc] at hr2
 have hs0:((w.alloc (.cells #[.slice a0 d.files.length p0,.slice a1 d.names.length p1,.slice a2 d.moves.length p2] 27)).alloc (.cells #[.slice none 0 0,.int .i64 0,.int .i64 0] 115)).heap.size=w.heap.size+2:=by simp
 have HB0:=xH hb0;have HR1:=xH hr1;have HR2:=xH hr2;have HS0:=xH hs0
 clear hP hd hb0 hr1 hr2 hs0
 go_enter Try.func85,Try.ntmps85
 go_wp2_with fail
 generalize ((w.alloc (.cells #[.slice a0 d.files.length p0,.slice a1 d.names.length p1,.slice a2 d.moves.length p2] 27)).alloc (.cells #[.slice none 0 0,.int .i64 0,.int .i64 0] 115))=W0 at HB0 HR1 HR2 HS0 ⊢
 refine ((xU HNM) W0 (xU HB0)).mono ?_
 rintro e w1 ⟨nv,rfl,hn⟩
 obtain ⟨na,ncap,rfl,hlen,hc⟩:=hn.strs
 have hn1:=hn.below
 have hp0:PnS w (w1.alloc (.cells #[.slice none 0 0,.int .i64 0,.int .i64 0] 115)) ⟨.slice a0 d.files.length p0,.slice a1 d.names.length p1,.slice a2 d.moves.length p2⟩ w1.heap.size ⟨[],0,0⟩ (.slice none 0 0) 0:=by
  have h1:Below w.heap.size w w1:=(xU HB0).trans (hn1.mono (xU HB0).size)
  have h2:=xU HS0
  have h3:=hn1.size
  exact ⟨h1.alloc h1.size _,((xU HR1).of_block (hn1.block _ (xU HR1).lt)).alloc _,((xU HR2).of_block (hn1.block _ (xU HR2).lt)).alloc _,row3_alloc w1 _ _ _ _,⟨none,0,rfl,by decide,fun i hi=>absurd hi (Nat.not_lt_zero i)⟩,Or.inl rfl,by omega,by omega⟩
 have HP0:=xH hp0
 have HC:Hid (∀ i,(h:i < (namesD d).length)→∃ b o,na=some ⟨b,o,none⟩∧w.heap.size+2≤b∧b < w1.heap.size∧w1.cell? ⟨b,o+i,none⟩=some (.string (namesD d)[i])):=fun i hi=>by
  obtain ⟨b,o,e,hb,hx,-⟩:=hc i hi
  have h2:=xU HS0
  have h3:W0.heap.size≤b:=hb.1
  exact ⟨b,o,e,by omega,hb.2,hx⟩
 have HSM:Hid (∀ x,x∈namesD d→x.size≤8):=fun x hx=>names_small hx
 have HLS:Hid (∀ x,(lookD d x).1.size≤20000):=fun x=>look_small x
 clear HNM HB0 HR1 HR2 hn hn1 hp0 hc
 go_wp2_with fail
 go_loopw [6,7] (fun vn vi wr=>∃ (i num:Nat) (l:Pl) (v:Value),i≤(namesD d).length∧vn=.int .i64 num∧vi=.int .i64 i∧Hid (PnS w wr ⟨.slice a0 d.files.length p0,.slice a1 d.names.length p1,.slice a2 d.moves.length p2⟩ w1.heap.size l v num)∧Hid (Below w1.heap.size w1 wr)) (fun _ vi _=>(namesD d).length - (intOf vi).toNat)
 case atStart=>exact ⟨0,0,_,_,by omega,rfl,rfl,xU HP0,(Below.refl _ _).alloc (Nat.le_refl _) _⟩
 case round =>
  clear HP0
  obtain ⟨i,num,l,v,hi,rfl,rfl,HS,HW⟩:=hrel
  obtain ⟨va,vc,rfl,-,-⟩:=HS.out.pts.open
  by_cases hlt:i < (namesD d).length
  · obtain ⟨nb,no,rfl,hnl,hnh,hx1⟩:=(xU HC) i hlt
    have hxw:wr.cell? ⟨nb,no+i,none⟩=some (.string (namesD d)[i]):=(HW.out.cell (show (⟨nb,no+i,none⟩:Addr).block < w1.heap.size from hnh)).trans hx1
    have hsm:=(xU HSM) _ (List.getElem_mem hlt)
    have HLKx:=xH ((xU HLK) (namesD d)[i])
    have HLSx:=xH ((xU HLS) (namesD d)[i])
    generalize (namesD d)[i]=x at *
    generalize lookD d x=yb at *
    obtain ⟨y,bb⟩:=yb
    simp only at HLKx HLSx
    have HNU:=xH (l43Num_any x 109 wr (by omega))
    have hd1:decide ((i:Int) < ((namesD d).length:Int))=true:=decide_eq_true (by omega)
    clear hx1 HSM HLS HLK
    go_wp2_with fail
    refine (xU HNU).mono ?_
    rintro e w2 ⟨m,rfl,hm,hb2⟩
    have HS2:=xH (HS.out.on hb2)
    have HW2:=xH (HW.out.trans (hb2.mono HW.out.size))
    have hx2:w2.cell? ⟨nb,no+i,none⟩=some (.string x):=(HW2.out.cell (show (⟨nb,no+i,none⟩:Addr).block < w1.heap.size from hnh)).trans ((HW.out.cell (show (⟨nb,no+i,none⟩:Addr).block < w1.heap.size from hnh)).symm.trans hxw)
    clear HNU hb2 HS HW hxw
    by_cases hgt:num < m
    · have hd2:decide ((num:Int) < (m:Int))=true:=decide_eq_true (by omega)
      go_upto_region 9 with fail
      refine wp_swap (c':=Code.region 9 lp9Ops true) (by kernel_rfl) ?_
      refine wp_region_noPanic ?_
      have hsz:=HW2.out.size
      refine lp9 w.heap.size (w.heap.size+1) w1.heap.size nb no (namesD d).length ncap i ⟨.slice a0 d.files.length p0,.slice a1 d.names.length p1,.slice a2 d.moves.length p2⟩ num m x y bb w2 _ (fun _ _ _ _ _ h=>h) (HS2.out.b1.of_block rfl) (show nb < w2.heap.size by omega) hx2 hlt (fun W hW=>(xU HLKx) W (HS2.out.below.trans ((Below.refl _ _).drew.trans (hW:Below w2.drew.heap.size w2.drew W) |>.mono HS2.out.below.size))) (by kernel_rfl) ?_
      intro u W3 hb3
      refine NoPanic.normal ?_
      simp only [frL_eq,frG,List.lookup,Nat.reduceBEq,Nat.reduceAdd,Option.getD_some,Option.getD_none]
      have hb23:Below w2.heap.size w2 W3:=(Below.refl _ _).drew.trans hb3
      have HS3:=xH (HS2.out.on hb23)
      have HW3:=xH (HW2.out.trans (hb23.mono HW2.out.size))
      have HRD:=xH (specLogPlanRead_any y W3 (by have:=xU HLSx;omega))
      clear hb3 hb23 HS2 HW2 hx2 HLKx HLSx
      go_wp2_with fail
      refine (xU HRD).mono ?_
      rintro e w4 (⟨l2,v2,hl2,rfl,⟨F,hF,hFb⟩,hb4⟩ | ⟨-,rfl,hb4⟩)
      · have hpt:=pts_new (w:=W3) hF hFb
        obtain ⟨va2,vc2,rfl,-,-⟩:=hpt.open
        have h4:=HS3.out.on hb4
        obtain ⟨k0,k1,k2⟩:=cs3 h4.b5 (by omega);have kf:=h4.b5.frozen
        have kl:=h4.b5.lt
        simp only [row3] at k0 k1 k2
        have HS5:=xH (HS3.out.put hb4 hpt hl2.1 hm)
        have HW5:=xH (HW3.out.trans (hb4.mono HW3.out.size))
        have hw4:=HW5.out.size
        have hne:w4.heap.size≠w1.heap.size:=by omega
        clear hl2 hF hFb hb4 hpt h4 HS3 HW3 HRD
        go_wp2_with fail
        go_roundw
        case rel=>exact ⟨i+1,m,l2,_,hlt,rfl,by go_num,HS5.out.on ((Below.refl _ _).alloc (Nat.le_refl _) _),Below.alloc (((HW5.out.setCell (Nat.le_refl _) _).setCell (Nat.le_refl _) _).setCell (Nat.le_refl _) _) (by simp only [size_setCell];exact HW5.out.size) _⟩
        case measure=>simp [intOf];omega
      · have HS4:=xH (HS3.out.on hb4)
        have HW4:=xH (HW3.out.trans (hb4.mono HW3.out.size))
        clear hb4 HS3 HW3 HRD
        go_wp2_with fail
        go_roundw
        case rel=>exact ⟨i+1,num,l,_,hlt,rfl,by go_num,HS4.out.on ((Below.refl _ _).alloc (Nat.le_refl _) _),HW4.out.alloc HW4.out.size _⟩
        case measure=>simp [intOf];omega
    · have hd2:decide ((num:Int) < (m:Int))=false:=decide_eq_false (by omega)
      clear HLKx HLSx hx2
      go_wp2_with fail
      go_roundw
      case rel=>exact ⟨i+1,num,l,_,hlt,rfl,by go_num,xU HS2,xU HW2⟩
      case measure=>simp [intOf];omega
  · have hd1:decide ((i:Int) < ((namesD d).length:Int))=false:=decide_eq_false (by omega)
    obtain ⟨k0,k1,k2⟩:=cs3 HS.out.b5 (by omega)
    have f0:=HS.out.b2.cell (i:=0) (by omega);have f1:=HS.out.b2.cell (i:=1) (by omega);have f2:=HS.out.b2.cell (i:=2) (by omega);have ff:=HS.out.b2.frozen
    simp only [row3] at k0 k1 k2 f0 f1 f2
    have hlo:=HS.out.lo
    have hfin:PnEnd w (((wr.setCell ⟨w.heap.size+1,0,none⟩ (.slice va l.parts.length vc)).setCell ⟨w.heap.size+1,1,none⟩ (.int .i64 l.op)).setCell ⟨w.heap.size+1,2,none⟩ (.int .i64 l.fi)) (.returned (.tuple #[.agg #[.slice va l.parts.length vc,.int .i64 l.op,.int .i64 l.fi],.int .i64 num])):=by
     obtain ⟨s1,s2,-,s4⟩:=set3 wr (w.heap.size+1) (.slice va l.parts.length vc) (.int .i64 l.op) (.int .i64 l.fi)
     have hs:∀ a,a≠w.heap.size+1→(((wr.setCell ⟨w.heap.size+1,0,none⟩ (.slice va l.parts.length vc)).setCell ⟨w.heap.size+1,1,none⟩ (.int .i64 l.op)).setCell ⟨w.heap.size+1,2,none⟩ (.int .i64 l.fi)).heap[a]? = wr.heap[a]? := s1
     have hz:(((wr.setCell ⟨w.heap.size+1,0,none⟩ (.slice va l.parts.length vc)).setCell ⟨w.heap.size+1,1,none⟩ (.int .i64 l.op)).setCell ⟨w.heap.size+1,2,none⟩ (.int .i64 l.fi)).heap.size=wr.heap.size:=s2
     exact ⟨l,_,num,rfl,HS.out.pts.carry (fun b hb=>hs b (by have:=hb.1;omega)) (fun b hb=>⟨by have:=hb.1;omega,by rw [hz];exact hb.2.1⟩),HS.out.ok,HS.out.le,s4 _ _ (by omega) HS.out.below⟩
    have HFIN:=xH hfin
    have kl:=HS.out.b5.lt
    have hne:w1.heap.size≠w.heap.size+1:=by omega
    clear hfin HS HW
    go_wp2_with fail
    refine bodyPost_ret (v:=.tuple #[.agg #[.slice va l.parts.length vc,.int .i64 l.op,.int .i64 l.fi],.int .i64 num]) (by simp [results,Try.results85,go_sem,f0,f1,f2]) rfl (xU HFIN)

theorem infoRecW:(Try.prog.info? 146).map (fun i=>(i.zero,i.size,i.bytes))=some (some (.agg #[.int .i64 0,.string ByteArray.empty]),2,24):=by kernel_rfl
theorem infoRecD:∃ i,Try.prog.info? 146=some i∧i.zero=some (.agg #[.int .i64 0,.string ByteArray.empty])∧i.size=2∧i.bytes=24:=by
 have:=infoRecW
 cases h:Try.prog.info? 146 with
 | none=>rw [h] at this;simp at this
 | some i=>rw [h] at this;exact ⟨i,rfl,by simpa using this⟩
theorem byB_at {s:ByteArray} {i:Nat} (h:i < s.size):byB s i=(s[i].toNat:Int):=by
 unfold byB
 rw [List.getD_eq_getElem?_getD,List.getElem?_eq_getElem (by simpa using h)]
 rfl
theorem ownsRow_keepR {w w':World} {base:Nat} {e:TypeId} {size:Nat} {v:Value} {n:Nat} {xs:List Value} (h:w.ownsRow base e size v n xs) (hk:∀ g,v.ownBlock=some g→w'.heap[g]? = w.heap[g]?):w'.ownsRow base e size v n xs:=by
 refine ⟨h.1,?_⟩
 rcases h.2 with h0 | ⟨g,cap,cur,hv,hb,hh,hr⟩
 · exact Or.inl h0
 · exact Or.inr ⟨g,cap,cur,hv,hb,by rw [hk g (by rw [hv];rfl)];exact hh,hr⟩
theorem slice_at {P:Program} (W:World) (t:TypeId) (s:ByteArray) (i n:Nat) (hu:P.underlying t=some .string) (h:i+5+n≤s.size) :
 Sem.run P (Instr.slice t (.string s) (some (.int .i64 ((i:Int)+5))) (some (.int .i64 ((i:Int)+5+n))) none) W=.ok (.string (s.extract (i+5) (i+5+n))) W:=by
 rw [run_slice_string W t s .i64 .i64 ((i:Int)+5) ((i:Int)+5+n) hu (by omega) (by omega) (by omega),show ((i:Int)+5).toNat=i+5 by omega,show ((i:Int)+5+n).toNat=i+5+n by omega]
theorem cell_two (w:World) (x y:Value) (t:TypeId):∀ j u,[x,y][j]? = some u→(w.alloc (.cells #[x,y] t)).cell? ((⟨w.heap.size,0,none⟩:Addr).add j)=some u:=by
 intro j u hj
 match j with
 | 0=>simp only [List.getElem?_cons_zero,Option.some.injEq] at hj;subst hj;rw [Addr.add_lit];simp [go_sem]
 | 1=>simp only [List.getElem?_cons_succ,List.getElem?_cons_zero,Option.some.injEq] at hj;subst hj;rw [Addr.add_lit];simp [go_sem]
 | j+2=>simp at hj
def FrEnd (w w':World) (e:Ending) (s:ByteArray):Prop :=
 ∃ (v:Value) (F:List Nat),e=.returned (.tuple #[v,.int .i64 ((frs s 0).2:Nat)])∧RcsOwn w' v (frs s 0).1 F∧(∀ b,b∈F→w.heap.size≤b∧b < w'.heap.size)∧Below w.heap.size w w'
theorem FrEnd.of {w w':World} {s:ByteArray} {L:List Rc} {i:Nat} {v:Value} (h:FrI s L i) (hw:¬ whB s i) (ho:w'.ownsRow w.heap.size 146 2 v L.length (L.map Rc.cs).flatten) (hok:∀ r,r∈L→r.okM) (hb:Below w.heap.size w w'):FrEnd w w' (.returned (.tuple #[v,.int .i64 (i:Nat)])) s:=by
 have hd:=h.done hw
 obtain ⟨F,h1,-,h3,-⟩:=FlatOwn.of_row (rs:=L.map Rc.cs) (n:=2) (by rw [List.length_map];exact ho) (fun r hr=>by obtain ⟨x,-,rfl⟩:=List.mem_map.1 hr;rfl)
 exact ⟨v,F,by rw [hd],by rw [hd];exact ⟨h1,hok⟩,h3,hb⟩
theorem specLogFrames_any (s:ByteArray) (hs:s.size≤1048576) (w:World):Calls Try.prog 87 #[.string s] w fun e w'=>FrEnd w w' e s:=by
 obtain ⟨j0,hj,hy0,hy1,hy2⟩:=infoRecD
 have HJJ:=xH hj;have HY0:=xH hy0;have HY1:=xH hy1;have HY2:=xH hy2
 have HIN:=xH (fun z lo hi W=>frInS z lo hi W)
 have HEMP:=xH (empty_row (base:=w.heap.size) (size:=2) (World.rowIs_alloc w #[] 146 (fun _=>.bool false) (fun i hi=>by simp at hi)) (Nat.le_refl _))
 clear hj hy0 hy1 hy2
 go_enter Try.func87,Try.ntmps87
 go_wp2_with fail
 go_loopw [4,5] (fun vo at' wr=>∃ (L:List Rc) (i n:Nat) (ao:Option Addr) (co:Nat),i≤s.size∧n≤300000∧vo=.slice ao n co∧at'=.int .i64 i∧Hid (n=L.length)∧Hid (FrI s L i)∧Hid (∀ r,r∈L→r.okM)∧Hid (wr.ownsRow w.heap.size 146 2 (.slice ao n co) n (L.map Rc.cs).flatten)∧Hid (Below w.heap.size w wr)) (fun _ i _=>s.size - (intOf i).toNat)
 case atStart=>exact ⟨[],0,0,_,_,Nat.zero_le _,by omega,rfl,rfl,rfl,FrI.start s,fun r hr=>(by cases hr),HEMP,(Below.refl _ _).alloc (Nat.le_refl _) _⟩
 case round =>
  obtain ⟨L,i,n,ao,co,hi,hn,rfl,rfl,HL,HI,HOK,HO,HB⟩:=hrel
  by_cases h5:i+5≤s.size
  case neg =>
   have HNW:=xH (show ¬ whB s i from fun h=>h5 h.1)
   go_wp2_with fail
   go_returns
   exact FrEnd.of HI.out (xU HNW) (by rw [← HL.out];exact HO.out) HOK.out HB.out
  have i0:i < s.size:=by omega
  obtain ⟨p1,hp1,e1⟩:∃ p:Nat,(i:Int)+1=p∧p=i+1:=⟨i+1,by omega,rfl⟩
  obtain ⟨p2,hp2,e2⟩:∃ p:Nat,(i:Int)+2=p∧p=i+2:=⟨i+2,by omega,rfl⟩
  obtain ⟨p3,hp3,e3⟩:∃ p:Nat,(i:Int)+3=p∧p=i+3:=⟨i+3,by omega,rfl⟩
  obtain ⟨p4,hp4,e4⟩:∃ p:Nat,(i:Int)+4=p∧p=i+4:=⟨i+4,by omega,rfl⟩
  have i1:p1 < s.size:=by omega
  have i2:p2 < s.size:=by omega
  have i3:p3 < s.size:=by omega
  have i4:p4 < s.size:=by omega
  have HSZ:=xH (show szB s i=(s[i].toNat:Int) * 256+(s[p1].toNat:Int) by unfold szB;rw [byB_at i0,← e1,byB_at i1])
  have HPS:=xH (show psB s i=(s[p2].toNat:Int) * 65536+(s[p3].toNat:Int) * 256+(s[p4].toNat:Int) by unfold psB;rw [← e2,← e3,← e4,byB_at i2,byB_at i3,byB_at i4])
  have t0:s[i].toNat < 256:=s[i].toNat_lt
  have t1:s[p1].toNat < 256:=s[p1].toNat_lt
  have t2:s[p2].toNat < 256:=s[p2].toNat_lt
  have t3:s[p3].toNat < 256:=s[p3].toNat_lt
  have t4:s[p4].toNat < 256:=s[p4].toNat_lt
  clear e1 e2 e3 e4
  go_wp2_with fail
  go_quiet (fail)
  revert nq
  intro m1
  go_wp2_with fail
  go_quiet (fail)
  revert nq
  intro m2
  have HOw:Hid (((wr.drewN m1).drewN m2).ownsRow w.heap.size 146 2 (.slice ao n co) n (L.map Rc.cs).flatten):=HO.out
  have HBw:Hid (Below w.heap.size w ((wr.drewN m1).drewN m2)):=⟨HB.out.os,HB.out.tape,HB.out.output,HB.out.size,HB.out.block⟩
  generalize (wr.drewN m1).drewN m2=W at *
  have hz0:0≤(s[i].toNat:Int) * 256+(s[p1].toNat:Int)∧(s[i].toNat:Int) * 256+(s[p1].toNat:Int) < 65536:=by omega
  have hq0:0≤(s[p2].toNat:Int) * 65536+(s[p3].toNat:Int) * 256+(s[p4].toNat:Int)∧(s[p2].toNat:Int) * 65536+(s[p3].toNat:Int) * 256+(s[p4].toNat:Int) < 16777216:=by omega
  generalize (s[i].toNat:Int) * 256+(s[p1].toNat:Int)=z at *
  generalize (s[p2].toNat:Int) * 65536+(s[p3].toNat:Int) * 256+(s[p4].toNat:Int)=q at *
  clear t0 t1 t2 t3 t4 hp1 hp2 hp3 hp4 HO HB
  obtain ⟨zn,rfl⟩:∃ zn:Nat,z=zn:=⟨z.toNat,by omega⟩
  have HRC:=xH (show rcB s i=⟨q,s.extract (i+5) (i+5+zn)⟩ by unfold rcB;rw [xU HPS,xU HSZ];rfl)
  have HWH:=xH (show whB s i↔((zn:Int)≤2000∧(1≤q∧q≤999999)∧i+5+zn≤s.size) by
   unfold whB
   rw [xU HPS,xU HSZ]
   constructor
   · rintro ⟨_,h2,h3,h4⟩;exact ⟨h2,h3,by omega⟩
   · rintro ⟨h2,h3,h4⟩;exact ⟨h5,h2,h3,by omega⟩)
  have HNX:=xH (show (szB s i).toNat=zn by rw [xU HSZ];rfl)
  by_cases c1:2000 < (zn:Int)
  · have HNW:=xH (show ¬ whB s i from fun h=>by have:=((xU HWH).1 h).1;omega)
    go_wp2_with fail
    go_returns
    exact FrEnd.of HI.out (xU HNW) (by rw [← HL.out];exact HOw.out) HOK.out HBw.out
  go_wp2_with fail
  refine (xU HIN _ _ _ _).mono ?_
  rintro e W2 ⟨rfl,hb2⟩
  have HO2:=xH (ownsRow_keepR HOw.out (fun g e=>hb2.block g (HOw.out.lt g e).2));have HB2:=xH (HBw.out.trans (hb2.mono HBw.out.size))
  have hs2:=HB2.out.size
  clear hb2 HOw HBw
  by_cases c2:1≤q∧q≤999999
  case neg =>
   have HNW:=xH (show ¬ whB s i from fun h=>c2 ((xU HWH).1 h).2.1)
   rw [decide_eq_false c2]
   clear c2
   go_wp2_with fail
   go_returns
   exact FrEnd.of HI.out (xU HNW) (by rw [← HL.out];exact HO2.out) HOK.out HB2.out
  rw [decide_eq_true c2]
  have C2:=xH c2
  clear c2
  by_cases c3:i+5+zn≤s.size
  case neg =>
   have HNW:=xH (show ¬ whB s i from fun h=>c3 ((xU HWH).1 h).2.2)
   go_wp2_with fail
   go_returns
   exact FrEnd.of HI.out (xU HNW) (by rw [← HL.out];exact HO2.out) HOK.out HB2.out
  have HIN2:=xH (HI.out.next ((xU HWH).2 ⟨by omega,xU C2,c3⟩))
  rw [xU HNX,xU HRC] at HIN2
  have hn2:n≤209716:=by have:=HI.out.2.2;have:=HL.out;omega
  have hsl:=fun W=>slice_at (P:=Try.prog) W 9 s i zn Try.underlying9 c3
  go_wp2_with (at_builtin;(refine append_row _ rfl _ _ 116 rfl w.heap.size 146 j0 (.agg #[.int .i64 0,.string ByteArray.empty]) 2 24 Try.underlying116 (xU HJJ) (xU HY0) (xU HY1) (xU HY2) rfl (by decide) (.slice ao n co) n ((L.map Rc.cs).flatten) rfl (World.ownsRow.alloc HO2.out _) ⟨W2.heap.size,0,none⟩ 1 1 [.int .i64 q,.string (s.extract (i+5) (i+5+zn))] rfl rfl (cell_two _ _ _ _) (fun u hu=>by simp at hu;rcases hu with rfl | rfl <;> rfl) (by decide) (by unfold maxLen;omega) (by omega) (by simp;omega) ?_;intro v' w5 hown5 hgrow5 hat5;obtain ⟨g5,cap5,rfl,-,-⟩:=hown5.form (by omega);have HO5:=xH hown5;have HB5:=xH (below_grown (by simp;omega) (HB2.out.alloc hs2 (.cells #[.int .i64 q,.string (s.extract (i+5) (i+5+zn))] 146)) hgrow5 (fun b e=>(HO2.out.lt b e).1));clear hown5 hgrow5 hat5))
  go_roundw
  case rel=>exact ⟨L++[⟨q,s.extract (i+5) (i+5+zn)⟩],i+5+zn,n+1,some ⟨g5,0,none⟩,cap5,by omega,by omega,rfl,by go_num,xH (by have:=HL.out;simp;omega),HIN2,xH (fun r hr=>by
   rcases List.mem_append.1 hr with h | h
   · exact HOK.out r h
   · simp only [List.mem_singleton] at h;subst h;show (s.extract (i+5) (i+5+zn)).size≤_;rw [ByteArray.size_extract];omega),xH (by have:=xU HO5;simpa [Rc.cs] using this),HB5⟩
  case measure=>simp [intOf];omega

def rowD (c0 c1:Value):Nat→Value
 | 0=>c0
 | _=>c1
structure DR (R:Nat) (w:World) (v:Value) (b:List UInt8) (p:Nat):Prop where
 cells:w.rowIs R 91 2 (rowD v (.int .i64 p))
 bytes:∃ a cap,v=.slice a b.length cap∧∀ i,(h:i < b.length)→∃ g o,a=some ⟨g,o,none⟩∧g < R∧w.cell? ⟨g,o+i,none⟩=some (.int .u8 b[i].toNat)
 small:b.length≤2000
theorem DR.block {R:Nat} {w w':World} {v:Value} {b:List UInt8} {p p':Nat} (h:DR R w v b p) (hb:∀ g,g < R→w'.heap[g]? = w.heap[g]?) (hc:w'.rowIs R 91 2 (rowD v (.int .i64 p'))):DR R w' v b p':=by
 obtain ⟨a,cap,h1,h2⟩:=h.bytes
 refine ⟨hc,⟨a,cap,h1,fun i hi=>?_⟩,h.small⟩
 obtain ⟨g,o,e,hlt,hcell⟩:=h2 i hi
 exact ⟨g,o,e,hlt,by rw [World.cell?_of_block (w:=w) (hb g hlt)];exact hcell⟩
theorem DR.on {R:Nat} {w w':World} {v:Value} {b:List UInt8} {p:Nat} (h:DR R w v b p) (hb:Below w.heap.size w w'):DR R w' v b p :=
 h.block (fun g hg=>hb.block g (by have:=h.cells.lt;omega)) (h.cells.of_block (hb.block _ h.cells.lt))
theorem DR.but {R:Nat} {w w':World} {v:Value} {b:List UInt8} {p p':Nat} (h:DR R w v b p) (hb:But R w w') (hc:w'.rowIs R 91 2 (rowD v (.int .i64 p'))):DR R w' v b p' :=
 h.block (fun g hg=>hb.at (by have:=h.cells.lt;omega) (by omega)) hc
theorem rowD_set1 {w:World} {B:Nat} {T:TypeId} {x y:Value} (h:w.rowIs B T 2 (rowD x y)) (v:Value):(w.setCell ⟨B,1,none⟩ v).rowIs B T 2 (rowD x v) :=
 (h.set 1 v).congr fun i hi=>by
   rcases (show i=0∨i=1 by omega) with rfl | rfl <;> rfl
theorem i64_xor_nat (a b:Nat) (ha:a < 4611686018427387904) (hb:b < 4611686018427387904):bits .xor .i64 (a:Int) (b:Int)=((a ^^^ b:Nat):Int):=by
 have hx:a ^^^ b < 2 ^ 62:=Nat.xor_lt_two_pow (by omega) (by omega)
 have h1:(BitVec.ofInt 64 (a:Int)).toNat=a:=by
  rw [BitVec.ofInt_natCast,BitVec.toNat_ofNat];exact Nat.mod_eq_of_lt (by omega)
 have h2:(BitVec.ofInt 64 (b:Int)).toNat=b:=by
  rw [BitVec.ofInt_natCast,BitVec.toNat_ofNat];exact Nat.mod_eq_of_lt (by omega)
 show IntKind.i64.wrap ((BitVec.ofInt 64 (a:Int) ^^^ BitVec.ofInt 64 (b:Int)).toNat:Int)=_
 rw [BitVec.toNat_xor,h1,h2,IntKind.wrap_i64]
 omega
def PickEnd (R:Nat) (w w':World) (v:Value) (b:List UInt8) (p n:Nat) (e:Ending):Prop :=
 ∃ r:Nat,e=.returned (.int .i64 (r:Int))∧r < n∧Hid (DR R w' v b (p+1))∧Hid (But R w w')
theorem pick_any (R:Nat) (w:World) (v:Value) (b:List UInt8) (p n:Nat) (h:DR R w v b p) (hn:1≤n∧n≤1000000) (hp:p≤1000000000) :
 Calls Try.prog 24 #[.pointer (some ⟨R,0,none⟩),.int .i64 (n:Int)] w fun e w'=>PickEnd R w w' v b p n e:=by
 obtain ⟨hn1,hn2⟩:=hn
 obtain ⟨a,cap,hv,hby⟩:=h.bytes
 subst hv
 obtain ⟨k0,k1⟩:=cs2 h.cells (by omega);have f1:=h.cells.frozen 1
 simp only [rowD] at k0 k1
 have hsm:=h.small
 have hq1:decide ((n:Int) < 1)=false:=by simp;omega
 have hend:∀ m,DR R ((w.setCell ⟨R,1,none⟩ (.int .i64 ((p:Int)+1))).drewN m) (.slice a b.length cap) b (p+1)∧But R w ((w.setCell ⟨R,1,none⟩ (.int .i64 ((p:Int)+1))).drewN m):=fun m=>by
  have hb:But R w ((w.setCell ⟨R,1,none⟩ (.int .i64 ((p:Int)+1))).drewN m):=(But.set w 1 _).trans ⟨rfl,rfl,rfl,Nat.le_refl _,fun _ _ _=>rfl⟩
  exact ⟨h.but hb (by have:=rowD_set1 h.cells (.int .i64 ((p:Int)+1));exact this.of_block rfl),hb⟩
 have HEND:=xH hend
 clear hend
 by_cases h0:b.length=0
 · have hz:((b.length:Int)==0)=true:=by simp [h0]
   clear hby h h0
   go_enter Try.func24,Try.ntmps24
   go_wp2_with fail
   go_ret
   exact ⟨0,rfl,by omega,(xU HEND 0).1,(xU HEND 0).2⟩
 · have hz:((b.length:Int)==0)=false:=beq_eq_false_iff_ne.2 (by omega)
   by_cases hlt:p < b.length
   · have hq2:decide ((p:Int) < (b.length:Int))=true:=by simp;omega
     obtain ⟨g,o,rfl,hg,hc⟩:=hby p hlt
     have hx8:=b[p].toNat_lt
     generalize b[p].toNat=x at *
     have hi1:(p:Int) < (b.length:Int):=by omega
     have hne:g≠R:=by omega
     have hne2:R≠g:=by omega
     clear hby h
     go_enter Try.func24,Try.ntmps24
     go_wp2_with fail
     go_ret
     refine ⟨x % n,by simp,Nat.mod_lt _ (by omega),(xU HEND 0).1,(xU HEND 0).2⟩
   · have hq2:decide ((p:Int) < (b.length:Int))=false:=by simp;omega
     have hb1:0 < b.length:=by omega
     obtain ⟨g,o,rfl,hg,-⟩:=hby 0 hb1
     have hm1:p % b.length < b.length:=Nat.mod_lt _ hb1
     have hm2:(p * 7+3) % b.length < b.length:=Nat.mod_lt _ hb1
     obtain ⟨g1,o1,e1,-,c1⟩:=hby (p % b.length) hm1
     obtain ⟨g2,o2,e2,-,c2⟩:=hby ((p * 7+3) % b.length) hm2
     simp only [Option.some.injEq,Addr.mk.injEq,and_true] at e1 e2
     obtain ⟨rfl,rfl⟩:=e1
     obtain ⟨rfl,rfl⟩:=e2
     have hx8:=(b[p % b.length]'hm1).toNat_lt
     have hy8:=(b[(p * 7+3) % b.length]'hm2).toNat_lt
     generalize (b[p % b.length]'hm1).toNat=x at *
     generalize (b[(p * 7+3) % b.length]'hm2).toNat=y at *
     have hi1:(p:Int) % (b.length:Int) < (b.length:Int):=by omega
     have hi2:((p:Int) * 7+3) % (b.length:Int) < (b.length:Int):=Int.emod_lt_of_pos _ (by omega)
     have hj1:0≤(p:Int) % (b.length:Int):=Int.emod_nonneg _ (by omega)
     have hj2:0≤((p:Int) * 7+3) % (b.length:Int):=Int.emod_nonneg _ (by omega)
     have ht1:((p:Int) % (b.length:Int)).toNat=p % b.length:=by rw [← Int.natCast_emod];rfl
     have ht2:(((p:Int) * 7+3) % (b.length:Int)).toNat=(p * 7+3) % b.length:=by
      rw [show (p:Int) * 7+3=((p * 7+3:Nat):Int) from by omega,← Int.natCast_emod];rfl
     have hne:g≠R:=by omega
     have hne2:R≠g:=by omega
     clear hby h
     go_enter Try.func24,Try.ntmps24
     go_wp2_with fail
     go_quiet (fail)
     obtain ⟨z,hz,hzb⟩:∃ z:Nat,wrap64 ((x:Int) * 131+(y:Int) * 1117+(p:Int) * 29+wrap64 (wrap64 ((p:Int) / (b.length:Int)) * 53))=(z:Int)∧z≤1000000000000:=by
      have q0:0≤(p:Int) / (b.length:Int):=Int.ediv_nonneg (by omega) (by omega)
      have q1:(p:Int) / (b.length:Int)≤p:=Int.ediv_le_self _ (by omega)
      generalize (p:Int) / (b.length:Int)=q at *
      refine ⟨(x * 131+y * 1117+p * 29+q.toNat * 53),?_,?_⟩
      · unfold wrap64;omega
      · omega
     rw [hz]
     clear hz
     go_wp2_with fail
     go_ret
     refine ⟨(z ^^^ z / 64) % n,?_,Nat.mod_lt _ (by omega),(xU HEND nq).1,(xU HEND nq).2⟩
     have hx:bits BinOp.xor IntKind.i64 (z:Int) ((z:Int) / 64)=((z ^^^ z / 64:Nat):Int):=i64_xor_nat z (z / 64) (by omega) (by omega)
     rw [hx,Int.tmod_eq_emod_of_nonneg (by omega)]
     simp

theorem DR.set {R X:Nat} {w:World} {v:Value} {b:List UInt8} {p:Nat} (h:DR R w v b p) (hX:R < X) (o:Nat) (u:Value):DR R (w.setCell ⟨X,o,none⟩ u) v b p :=
 h.block (fun g hg=>Below.heap_setCell _ _ _ _ (by simp;omega)) (h.cells.of_block (Below.heap_setCell _ _ _ _ (by simp;omega)))
theorem DR.grown {R:Nat} {w w':World} {v:Value} {b:List UInt8} {p:Nat} {row:Option Nat} (h:DR R w v b p) (hg:w.grownBy w' row) (hr:∀ x,row=some x→R < x):DR R w' v b p :=
 h.block (fun g hlt=>hg.block g (by have:=h.cells.lt;omega) (fun e=>by have:=hr g e.symm;omega)) (h.cells.of_block (hg.block R h.cells.lt (fun e=>by have:=hr R e.symm;omega)))




theorem of_any (R:Nat) (w:World) (v:Value) (b:List UInt8) (p:Nat) (h:DR R w v b p) (hp:p≤100000000) (g n:Nat) (ss:Nat→ByteArray) (hn:1≤n∧n≤1000) (hrow:w.rowIs g 9 n (fun i=>.string (ss i))) (hg:R < g) :
 Calls Try.prog 51 #[.pointer (some ⟨R,0,none⟩),.slice (some ⟨g,0,none⟩) n n] w fun e w'=>∃ r,e=.returned (.string (ss r))∧r < n∧Hid (DR R w' v b (p+1))∧Hid (But R w w'):=by
 obtain ⟨hn1,hn2⟩:=hn
 have HPK:=xH (pick_any R w v b p n h (by omega) (by omega))
 have HROW:=xH hrow
 clear h hrow
 go_enter Try.func51,Try.ntmps51
 go_wp2_with fail
 refine (xU HPK).mono ?_
 rintro e w2 ⟨r,rfl,hr,HD2,HB2⟩
 have e1:w2.cell? ⟨g,r,none⟩=some (.string (ss r)):=((xU HROW).of_block (HB2.out.at (xU HROW).lt (by omega))).cell (i:=r) hr
 have hix:(r:Int) < (n:Int):=by omega
 clear HROW HPK
 go_wp2_with fail
 go_ret
 exact ⟨r,rfl,hr,HD2,HB2⟩

theorem half_even (m X:Nat) (h:m % 2=0):m / 2 * (X+X)=m * X:=by
 obtain ⟨q,rfl⟩:∃ q,m=2 * q:=⟨m / 2,by omega⟩
 rw [show 2 * q / 2=q from by omega,Nat.mul_add,Nat.mul_assoc];omega
theorem half_odd (m X:Nat) (h:m % 2=1):m / 2 * (X+X)+X=m * X:=by
 obtain ⟨q,rfl⟩:∃ q,m=2 * q+1:=⟨m / 2,by omega⟩
 rw [show (2 * q+1) / 2=q from by omega,Nat.mul_add,Nat.add_mul,Nat.mul_assoc,Nat.one_mul];omega

theorem l6Many_le (w:World) (s:ByteArray) (n:Nat) (hs:s.size≤2) (hn:n≤10000) :
 Calls Try.prog 23 #[.string s,.int .i64 (n:Int)] w fun e w'=>∃ out:ByteArray,e=.returned (.string out)∧out.size≤n * s.size∧w'=w:=by
 have h0:n * s.size≤20000:=Nat.le_trans (Nat.mul_le_mul hn hs) (by decide)
 generalize hB:n * s.size=B at *
 have hB':n * s.size≤B:=by omega
 go_enter Try.func23,Try.ntmps23
 go_wp2_with fail
 go_loopw [0,1,5] (fun s0 nn oo wr=>∃ (m:Nat) (x out:ByteArray),s0=.string x∧nn=.int .i64 (m:Int)∧oo=.string out∧m≤10000∧out.size+m * x.size≤B∧x.size≤40000∧Hid (wr=w)) (fun _ nn _ _=>(intOf nn).toNat)
 case atStart=>exact ⟨n,s,⟨#[]⟩,rfl,rfl,rfl,hn,by show 0+_≤_;omega,by omega,rfl⟩
 case round =>
  obtain ⟨m,x,out,rfl,rfl,rfl,hm,hmx,hx,HW⟩:=hrel
  by_cases hm0:m=0
  · have hq:decide ((0:Int) < (m:Int))=false:=by simp;omega
    have hqn:decide (0 < m)=false:=by simp;omega
    clear hm0
    go_wp2_with fail
    go_ret
    exact ⟨out,rfl,by omega,HW.out⟩
  · have hq:decide ((0:Int) < (m:Int))=true:=by simp;omega
    have hqn:decide (0 < m)=true:=by simp;omega
    have hxm:x.size≤m * x.size:=Nat.le_mul_of_pos_left _ (by omega)
    have hl1:¬ (9223372036854775807 < x.size+x.size):=by omega
    have hl2:¬ (9223372036854775807 < out.size+x.size):=by omega
    have hsx:(x++x).size=x.size+x.size:=ByteArray.size_append
    have hso:(out++x).size=out.size+x.size:=ByteArray.size_append
    rcases (show (m:Int) % 2=0∨(m:Int) % 2=1 by omega) with he | he
    · have hh:=half_even m x.size (by omega)
      go_wp2_with fail
      go_roundw
      case rel=>exact ⟨m / 2,x++x,out,rfl,by go_num,rfl,by omega,by rw [hsx];omega,by rw [hsx];omega,HW⟩
      case measure=>simp [intOf];omega
    · have hh:=half_odd m x.size (by omega)
      go_wp2_with fail
      go_roundw
      case rel=>exact ⟨m / 2,x++x,out++x,rfl,by go_num,rfl,by omega,by rw [hsx,hso];omega,by rw [hsx];omega,HW⟩
      case measure=>simp [intOf];omega

def TxEnd (R:Nat) (w w':World) (v:Value) (b:List UInt8) (p most:Nat) (e:Ending):Prop :=
 ∃ (d:ByteArray) (p':Nat),e=.returned (.string d)∧d.size≤most∧p'≤p+3∧Hid (DR R w' v b p')∧Hid (But R w w')
theorem dl_len:∀ (k u:Nat),u < 10 ^ (k+1)→(Lib.decDigits u).length≤k+1
 | 0,u,h=>by
   rw [Lib.decDigits,dif_pos (by omega)];simp
 | k+1,u,h=>by
   rw [Lib.decDigits]
   by_cases hu:u < 10
   · rw [dif_pos hu];simp
   · rw [dif_neg hu]
     have:=dl_len k (u / 10) (by rw [Nat.pow_succ] at h;omega)
     simp only [List.length_append,List.length_cons,List.length_nil];omega
theorem dig_len (n:Int) (h0:0≤n) (h1:n≤999999):(Lib.decDigits n.toNat).length≤6:=dl_len 5 n.toNat (by omega)
theorem of_five (R:Nat) (W:World) (v:Value) (b:List UInt8) (p:Nat) (h:DR R W v b p) (hp:p≤100000000) (x0 x1 x2 x3 x4:ByteArray) (hx:x0.size≤100∧x1.size≤100∧x2.size≤100∧x3.size≤100∧x4.size≤100) :
 Calls Try.prog 51 #[.pointer (some ⟨R,0,none⟩),.slice (some ⟨W.heap.size,0,none⟩) 5 5] (W.alloc (.cells #[.string x0,.string x1,.string x2,.string x3,.string x4] 9)) fun e w'=>∃ y,e=.returned (.string y)∧y.size≤100∧Hid (DR R w' v b (p+1))∧Hid (But R W w'):=by
 have hrow:=World.rowIs_alloc W #[.string x0,.string x1,.string x2,.string x3,.string x4] 9 (fun i=>.string ([x0,x1,x2,x3,x4].getD i ByteArray.empty)) (fun i hi=>by
  have hi5:i < 5:=by simpa using hi
  rcases (show i=0∨i=1∨i=2∨i=3∨i=4 by omega) with rfl | rfl | rfl | rfl | rfl <;> rfl)
 refine (of_any R _ v b p (h.on ((Below.refl _ _).alloc (Nat.le_refl _) _)) hp W.heap.size 5 (fun i=>[x0,x1,x2,x3,x4].getD i ByteArray.empty) (by omega) hrow h.cells.lt).mono ?_
 rintro e w' ⟨r,rfl,hr,HD,HB⟩
 refine ⟨_,rfl,?_,HD,(But.alloc R W _).trans HB.out⟩
 rcases (show r=0∨r=1∨r=2∨r=3∨r=4 by omega) with rfl | rfl | rfl | rfl | rfl
 · exact hx.1
 · exact hx.2.1
 · exact hx.2.2.1
 · exact hx.2.2.2.1
 · exact hx.2.2.2.2
theorem l45Data_any (R:Nat) (w:World) (v:Value) (b:List UInt8) (p:Nat) (i:Int) (h:DR R w v b p) (hp:p≤10000000) (h0:0≤i) (h1:i≤999999) :
 Calls Try.prog 92 #[.pointer (some ⟨R,0,none⟩),.int .i64 i] w fun e w'=>TxEnd R w w' v b p 2000 e:=by
 have HPK:=xH (fun (W:World) (q n:Nat) (hD:DR R W v b q) (hn:1≤n∧n≤1000000) (hq:q≤100000000)=>pick_any R W v b q n hD hn (by omega))
 have HP1:=xH (pick_any R w v b p 14 h (by omega) (by omega))
 have HDC:=xH (fun W=>l6Dec_nat (i.toNat+1) i W h0 (by omega) (by omega))
 have HDL:=xH (dig_len i h0 h1)
 have hR:=h.cells.lt
 clear h
 go_enter Try.func92,Try.ntmps92
 go_wp2_with fail
 refine (xU HP1).mono ?_
 rintro e w1 ⟨r,rfl,hr,HD1,HB1⟩
 clear HP1
 by_cases r0:(r:Int)=0
 · go_wp2_with fail
   go_ret
   exact ⟨_,p+1,rfl,by show 0≤2000;omega,by omega,HD1,HB1⟩
 by_cases r1:(r:Int)=1
 · have HP2:=xH (xU HPK w1 (p+1) 3 HD1.out (by omega) (by omega))
   go_wp2_with fail
   refine (xU HP2).mono ?_
   rintro e w2 ⟨r2,rfl,hr2,HD2,HB2⟩
   obtain ⟨k,hk,hk1⟩:∃ k:Nat,(2000:Int) - (r2:Int) * 900=(k:Int)∧k≤2000:=⟨2000 - r2 * 900,by omega,by omega⟩
   have HM:=xH (l6Many_le w2 ⟨#[121]⟩ k (by decide) (by omega))
   clear HP2
   go_wp2_with fail
   refine (xU HM).mono ?_
   rintro e w3 ⟨out,rfl,hout,rfl⟩
   go_wp2_with fail
   go_ret
   exact ⟨out,p+2,rfl,by have:(⟨#[121]⟩:ByteArray).size=1:=rfl;rw [this] at hout;omega,by omega,HD2,HB1.out.trans HB2.out⟩
 by_cases r2:(r:Int)=2
 · have HP2:=xH (xU HPK w1 (p+1) 10 HD1.out (by omega) (by omega))
   go_wp2_with fail
   refine (xU HP2).mono ?_
   rintro e w2 ⟨r3,rfl,hr3,HD2,HB2⟩
   obtain ⟨k,hk,hk1⟩:∃ k:Nat,(250:Int)+(r3:Int)=(k:Int)∧k≤2000:=⟨250+r3,by omega,by omega⟩
   have HM:=xH (l6Many_le w2 ⟨#[122]⟩ k (by decide) (by omega))
   clear HP2
   go_wp2_with fail
   refine (xU HM).mono ?_
   rintro e w3 ⟨out,rfl,hout,rfl⟩
   go_wp2_with fail
   go_ret
   exact ⟨out,p+2,rfl,by have:(⟨#[122]⟩:ByteArray).size=1:=rfl;rw [this] at hout;omega,by omega,HD2,HB1.out.trans HB2.out⟩
 go_wp2_with fail
 refine (xU HDC _).mono ?_
 rintro e w2 ⟨rfl,hb2⟩
 have hd2:=HD1.out.on hb2
 have HOF:=xH (of_five R w2 v b (p+1) hd2 (by omega))
 have HB2:=xH (HB1.out.trans (But.of_below hb2))
 have hdl:=xU HDL
 have hds:(⟨(Lib.decDigits i.toNat).toArray⟩:ByteArray).size≤6:=by show (Lib.decDigits i.toNat).toArray.size≤6;simpa using hdl
 clear hb2 hd2 HDC hdl HDL
 generalize (⟨(Lib.decDigits i.toNat).toArray⟩:ByteArray)=dd at *
 go_wp2_with fail
 refine (xU HOF _ _ _ _ _ (by decide)).mono ?_
 rintro e w3 ⟨y,rfl,hy,HD3,HB3⟩
 go_wp2_with fail
 go_ret
 refine ⟨_,p+1+1,rfl,?_,by omega,HD3,HB2.out.trans HB3.out⟩
 rw [ByteArray.size_append,ByteArray.size_append]
 have:(⟨#[114]⟩:ByteArray).size=1:=rfl
 omega

noncomputable def lt1Ops:Array Oper:=fops Try.f86 1
theorem lt1_neat:Region.noSelect lt1Ops=true∧neat lt1Ops=true:=⟨by kernel_rfl,by kernel_rfl⟩
theorem lt1 (B1 B3:Nat) (c:C3) (z:Int) (D y:ByteArray) (b:Bool) (W0:World) {l:List Value} (Q:Exit→Act→World→Prop) (hQ:∀ c a d v w,Q (.panic c) (Act.put a d v) w→Q (.panic c) a w) (h1:W0.drew.rowIs B1 27 3 (row3 c.c0 c.c1 c.c2)) (hB3:B3 < W0.drew.heap.size) (h3:W0.drew.cell? ⟨B3,0,none⟩=some (.int .i64 z)) (hDs:D.size≤100) (HD:∀ W,Calls Try.prog 71 #[.int .i64 z] W fun e w'=>e=.returned (.string D)∧Below W.heap.size W w') (HK:∀ W,Below W0.drew.heap.size W0.drew W→Calls Try.prog 9 #[.agg #[c.c0,c.c1,c.c2],.string (⟨#[115]⟩++D)] W fun e w'=>e=.returned (.tuple #[.string y,.bool b])∧Below W.heap.size W w')
 (hl:lookL [(2,.pointer (some ⟨B1,0,none⟩)),(3,.pointer (some ⟨B3,0,none⟩)),(4,.slice none 0 0),(5,.bool false)] l=(77,([(2,.pointer (some ⟨B1,0,none⟩)),(3,.pointer (some ⟨B3,0,none⟩)),(4,.slice none 0 0),(5,.bool false)]:List (Nat × Value)).map (·.2)))
 (hend:∀ (u:Nat→Value) (W:World),Below W0.drew.heap.size W0.drew W→Q .normal ⟨(frL u 77 [(2,.pointer (some ⟨B1,0,none⟩)),(3,.pointer (some ⟨B3,0,none⟩)),(4,.slice none 0 0),(5,.bool false),(6,.string y),(7,.bool b)]).toArray,[]⟩ W):(Code.region 1 lt1Ops true).wp Try.prog Q ⟨l.toArray,[]⟩ W0:=by
 obtain ⟨v0,rfl⟩:=look_fr hl
 have hq:NtQ lt1Ops Q:=⟨lt1_neat,hQ⟩
 refine T_start (S:=fun W=>Below W0.drew.heap.size W0.drew W) (by kernel_rfl) (Below.refl _ _) ?_
 clear hl hQ
 generalize W0.drew=V at h1 hB3 h3 HK hend ⊢
 refine T_a hq [0,1,2] (fun w h=>.cons (ldDk (h1.of_block (h.block _ h1.lt))) (.cons (ldIntR _ _ _ ((h.cell hB3).trans h3)) (Lds.nil))) (by kernel_rfl) ?_
 refine T_fr 11 77 [3,4,5,6,7,8,9,10] [(2,.pointer (some ⟨B1,0,none⟩)),(3,.pointer (some ⟨B3,0,none⟩)),(4,.slice none 0 0),(5,.bool false),(13,.agg #[c.c0,c.c1,c.c2]),(14,.pointer (some ⟨B3,0,none⟩)),(15,.int .i64 z)] (by kernel_rfl) fun u=>?_
 refine T_one 3 (by kernel_rfl) fun _=>O_go (HD V) (by kernel_rfl) ?_
 rintro e w1 ⟨rfl,hb1⟩
 refine ⟨_,rfl,hb1,?_⟩
 refine T_yld hq 4 (some 17) (.string (⟨#[115]⟩++D)) (by kernel_rfl) (by kernel_rfl) (fun w h=>addRun (T:=9) (X:=.const (.string ⟨#[115]⟩)) (Y:=.tmp 16) (p:=⟨#[115]⟩) (q:=D) (by kernel_rfl) (by kernel_rfl) (by kernel_rfl) (by have e:(⟨#[115]⟩:ByteArray).size=1:=rfl;omega) w) ?_
 refine T_fr 11 77 [5,6,7,8,9,10] [(2,.pointer (some ⟨B1,0,none⟩)),(3,.pointer (some ⟨B3,0,none⟩)),(4,.slice none 0 0),(5,.bool false),(13,.agg #[c.c0,c.c1,c.c2]),(14,.pointer (some ⟨B3,0,none⟩)),(15,.int .i64 z),(16,.string D),(17,.string (⟨#[115]⟩++D))] (by kernel_rfl) fun u=>?_
 refine T_one 5 (by kernel_rfl) fun _=>O_go (HK w1 hb1) (by kernel_rfl) ?_
 rintro e w2 ⟨rfl,hb2⟩
 refine ⟨_,rfl,hb1.trans (hb2.mono hb1.size),?_⟩
 refine T_z hq [6,7,8,9,10] (by kernel_rfl) ?_
 exact T_end 77 [(2,.pointer (some ⟨B1,0,none⟩)),(3,.pointer (some ⟨B3,0,none⟩)),(4,.slice none 0 0),(5,.bool false),(6,.string y),(7,.bool b)] (by kernel_rfl) (by kernel_rfl) fun hS u=>hend u w2 hS
theorem frs_len8 (s:ByteArray):∀ (n i:Nat),s.size - i≤n→i≤s.size→(frs s i).1.length * 5+i≤s.size
 | 0,i,hn,hi=>by
   have hw:¬ whB s i:=fun h=>by have:=h.1;omega
   rw [frs_no hw];simp;omega
 | n+1,i,hn,hi=>by
   by_cases hw:whB s i
   · rw [frs_yes hw]
     have h0:=szB_nn s i
     have h1:=hw.2.2.2
     have:=frs_len8 s n (i+5+(szB s i).toNat) (by omega) (by omega)
     simp only [List.length_cons];omega
   · rw [frs_no hw];simp;omega
def PaEnd (w w':World) (e:Ending):Prop:=∃ (L:List Rc) (v:Value) (b:Bool),e=.returned (.tuple #[v,.bool b])∧RcsAt (New w w') w' v L∧L.length≤4000∧Below w.heap.size w w'
theorem rcs_new {w w':World} {v:Value} {L:List Rc} {F:List Nat} (h:RcsOwn w' v L F) (hF:∀ b,b∈F→w.heap.size≤b∧b < w'.heap.size):RcsAt (New w w') w' v L:=h.at.carry (fun _ _=>rfl) hF
theorem rcs_nil {P:Nat→Prop} {w:World} (a:Option Addr) (cap:Nat):RcsAt P w (.slice a 0 cap) []:=⟨⟨a,cap,rfl,by decide,fun i hi=>absurd hi (Nat.not_lt_zero i)⟩,fun _ h=>by cases h⟩
theorem decB_le {n:Int} (h0:0≤n) (h1:n≤999999999):(⟨(Lib.itoa n).toArray⟩:ByteArray).size≤100:=by
 have:=Lib.itoa_length_le n (by omega) (by omega)
 show (Lib.itoa n).toArray.size≤100
 rw [List.size_toArray];omega
theorem l43Part_any (d:Dk) (q:Pt) (P:Nat→Prop) (c:C3) (w:World) (hP:∀ b,P b→b < w.heap.size) (hd:DkAt P w d c) (hq:1≤q.num∧q.num≤999999) (hz:0≤q.size∧q.size≤20000) :
 Calls Try.prog 86 #[.agg #[c.c0,c.c1,c.c2],.agg #[.int .i64 q.num,.int .i64 q.first,.int .i64 q.next,.int .i64 q.size]] w fun e w'=>PaEnd w w' e:=by
 have HLK:=xH (fun x W (hW:Below w.heap.size w W)=>specDiskLook_any d x P c W (fun b hb=>Nat.lt_of_lt_of_le (hP b hb) hW.size) (hd.carry (fun b hb=>hW.block b (hP b hb)) (fun _ h=>h)))
 obtain ⟨c0,c1,c2⟩:=c
 obtain ⟨a0,p0,g0,-,-⟩:=hd.fs.open
 obtain ⟨a1,p1,g1,-,-⟩:=id hd.ns
 obtain ⟨a2,p2,g2,-,-⟩:=hd.ms.open
 simp only at g0 g1 g2
 subst g0 g1 g2
 have hb0:Below w.heap.size w ((w.alloc (.cells #[.slice a0 d.files.length p0,.slice a1 d.names.length p1,.slice a2 d.moves.length p2] 27)).alloc (.cells #[.int .i64 q.num,.int .i64 q.first,.int .i64 q.next,.int .i64 q.size] 138)):=((Below.refl _ _).alloc (Nat.le_refl _) _).alloc (by simp) _
 have hr1:=(row3_alloc w (.slice a0 d.files.length p0) (.slice a1 d.names.length p1) (.slice a2 d.moves.length p2) 27).alloc (.cells #[.int .i64 q.num,.int .i64 q.first,.int .i64 q.next,.int .i64 q.size] 138)
 have hs0:((w.alloc (.cells #[.slice a0 d.files.length p0,.slice a1 d.names.length p1,.slice a2 d.moves.length p2] 27)).alloc (.cells #[.int .i64 q.num,.int .i64 q.first,.int .i64 q.next,.int .i64 q.size] 138)).heap.size=w.heap.size+2:=by simp
 have hq0:((w.alloc (.cells #[.slice a0 d.files.length p0,.slice a1 d.names.length p1,.slice a2 d.moves.length p2] 27)).alloc (.cells #[.int .i64 q.num,.int .i64 q.first,.int .i64 q.next,.int .i64 q.size] 138)).cell? ⟨w.heap.size+1,0,none⟩=some (.int .i64 q.num)∧((w.alloc (.cells #[.slice a0 d.files.length p0,.slice a1 d.names.length p1,.slice a2 d.moves.length p2] 27)).alloc (.cells #[.int .i64 q.num,.int .i64 q.first,.int .i64 q.next,.int .i64 q.size] 138)).cell? ⟨w.heap.size+1,1,none⟩=some (.int .i64 q.first)∧((w.alloc (.cells #[.slice a0 d.files.length p0,.slice a1 d.names.length p1,.slice a2 d.moves.length p2] 27)).alloc (.cells #[.int .i64 q.num,.int .i64 q.first,.int .i64 q.next,.int .i64 q.size] 138)).cell? ⟨w.heap.size+1,2,none⟩=some (.int .i64 q.next)∧((w.alloc (.cells #[.slice a0 d.files.length p0,.slice a1 d.names.length p1,.slice a2 d.moves.length p2] 27)).alloc (.cells #[.int .i64 q.num,.int .i64 q.first,.int .i64 q.next,.int .i64 q.size] 138)).cell? ⟨w.heap.size+1,3,none⟩=some (.int .i64 q.size):=by
  have h:=p4_alloc (w.alloc (.cells #[.slice a0 d.files.length p0,.slice a1 d.names.length p1,.slice a2 d.moves.length p2] 27)) q 138
  rw [World.size_alloc] at h
  exact ⟨h.e0,h.e1,h.e2,h.e3⟩
 have HB0:=xH hb0;have HR1:=xH hr1;have HS0:=xH hs0;have HQ0:=xH hq0
 obtain ⟨D,hD⟩:∃ D:ByteArray,⟨(Lib.itoa q.num).toArray⟩=D:=⟨_,rfl⟩
 have HDS:Hid (D.size≤100):=by rw [← hD];exact decB_le (by omega) (by omega)
 have HDD:=xH (fun W=>l6Dec_any q.num W (by omega) (by omega))
 rw [hD] at HDD
 have HLKx:=xH ((xU HLK) (⟨#[115]⟩++D))
 have HLSx:=xH (look_small (d:=d) (⟨#[115]⟩++D))
 generalize lookD d (⟨#[115]⟩++D)=yb at *
 obtain ⟨y,bb⟩:=yb
 simp only at HLKx HLSx
 clear hP hd hb0 hr1 hs0 hq0 HLK hD
 go_enter Try.func86,Try.ntmps86
 go_wp2_with fail
 generalize ((w.alloc (.cells #[.slice a0 d.files.length p0,.slice a1 d.names.length p1,.slice a2 d.moves.length p2] 27)).alloc (.cells #[.int .i64 q.num,.int .i64 q.first,.int .i64 q.next,.int .i64 q.size] 138))=W0 at HB0 HR1 HS0 HQ0 ⊢
 go_upto_region 1 with fail
 refine wp_swap (c':=Code.region 1 lt1Ops true) (by kernel_rfl) ?_
 refine wp_region_noPanic ?_
 have hs0:=xU HS0
 refine lt1 w.heap.size (w.heap.size+1) ⟨.slice a0 d.files.length p0,.slice a1 d.names.length p1,.slice a2 d.moves.length p2⟩ q.num D y bb W0 _ (fun _ _ _ _ _ h=>h) (HR1.out.of_block rfl) (show w.heap.size+1 < W0.heap.size by omega) HQ0.out.1 HDS.out HDD.out (fun W hW=>(xU HLKx) W (HB0.out.trans ((Below.refl _ _).drew.trans (hW:Below W0.drew.heap.size W0.drew W) |>.mono HB0.out.size))) (by kernel_rfl) ?_
 intro u W1 hb1
 refine NoPanic.normal ?_
 simp only [frL_eq,frG,List.lookup,Nat.reduceBEq,Nat.reduceAdd,Option.getD_some,Option.getD_none]
 have hb01:Below W0.heap.size W0 W1:=(Below.refl _ _).drew.trans hb1
 obtain ⟨q0,q1,q2,q3⟩:=HQ0.out
 have lq:w.heap.size+1 < W0.heap.size:=by omega
 have e1:W1.cell? ⟨w.heap.size+1,1,none⟩=some (.int .i64 q.first):=(hb01.cell lq).trans q1
 have e2:W1.cell? ⟨w.heap.size+1,2,none⟩=some (.int .i64 q.next):=(hb01.cell lq).trans q2
 have e3:W1.cell? ⟨w.heap.size+1,3,none⟩=some (.int .i64 q.size):=(hb01.cell lq).trans q3
 have HB1:=xH (HB0.out.trans (hb01.mono HB0.out.size))
 have lq1:w.heap.size+1 < W1.heap.size:=Nat.lt_of_lt_of_le lq hb01.size
 clear hb1 hb01 q0 q1 q2 q3 lq hs0 HQ0 HS0 HR1 HB0 HLKx HDD HDS
 obtain ⟨zn,hzn⟩:∃ zn:Nat,q.size=zn:=⟨q.size.toNat,by omega⟩
 rw [hzn] at e3
 by_cases hgo:bb=true∧zn≤y.size
 case neg =>
  have HEND:Hid (PaEnd w (W1.alloc (.cells #[] 146)) (.returned (.tuple #[.slice (some ⟨W1.heap.size,0,none⟩) 0 0,.bool false]))):=⟨[],_,false,rfl,rcs_nil _ _,by decide,HB1.out.alloc HB1.out.size _⟩
  cases bb with
  | false =>
    go_wp2_with fail
    refine bodyPost_ret (v:=.tuple #[.slice (some ⟨W1.heap.size,0,none⟩) 0 0,.bool false]) (by simp [results,Try.results86,go_sem]) rfl ?_
    exact xU HEND
  | true =>
    have hltn:y.size < zn:=by have:¬ zn≤y.size:=fun h=>hgo ⟨rfl,h⟩;omega
    have hlt:decide ((y.size:Int) < (zn:Int))=true:=decide_eq_true (by have:¬ zn≤y.size:=fun h=>hgo ⟨rfl,h⟩;omega)
    go_wp2_with fail
    refine bodyPost_ret (v:=.tuple #[.slice (some ⟨W1.heap.size,0,none⟩) 0 0,.bool false]) (by simp [results,Try.results86,go_sem]) rfl ?_
    exact xU HEND
 obtain ⟨rfl,hle⟩:=hgo
 have hlt:decide ((y.size:Int) < (zn:Int))=false:=decide_eq_false (by omega)
 have hltn:decide (y.size < zn)=false:=decide_eq_false (by omega)
 have hle1:(0:Int)≤(zn:Int):=by omega
 have hle2:(zn:Int)≤(y.size:Int):=by omega
 have hsz2:(y.extract 0 zn).size=zn:=by rw [ByteArray.size_extract];omega
 have HFR:=xH (specLogFrames_any (y.extract 0 zn) (by omega) W1)
 have hfl:=frs_len8 (y.extract 0 zn) _ 0 (Nat.le_refl _) (Nat.zero_le _)
 go_wp2_with fail
 refine (xU HFR).mono ?_
 rintro e w2 ⟨v,F,rfl,ho,hF,hb2⟩
 generalize frs (y.extract 0 zn) 0=fr at *
 obtain ⟨LL,nn⟩:=fr
 simp only at ho hfl ⊢
 have hLL:LL.length≤4000:=by omega
 clear hfl hsz2 HLSx HFR
 have hrc:=rcs_new ho hF
 have hlq:w.heap.size+1 < W1.heap.size:=lq1
 have e3':w2.cell? ⟨w.heap.size+1,3,none⟩=some (.int .i64 zn):=(hb2.cell lq1).trans e3
 have e2':w2.cell? ⟨w.heap.size+1,2,none⟩=some (.int .i64 q.next):=(hb2.cell lq1).trans e2
 have e1':w2.cell? ⟨w.heap.size+1,1,none⟩=some (.int .i64 q.first):=(hb2.cell lq1).trans e1
 have HRC:=xH (hrc.carry (Q:=New w w2) (fun _ _=>rfl) (fun b hb=>⟨Nat.le_trans HB1.out.size hb.1,hb.2⟩))
 have HB2:=xH (HB1.out.trans (hb2.mono HB1.out.size))
 have lq2:w.heap.size+1 < w2.heap.size:=Nat.lt_of_lt_of_le lq1 hb2.size
 obtain ⟨ra,rcap,rfl,-,hcell⟩:=HRC.out.open
 have HCE:=xH hcell
 have HEND:Hid (∀ W b,Below w2.heap.size w2 W→PaEnd w W (.returned (.tuple #[.slice ra LL.length rcap,.bool b]))):=fun W b hW=>⟨LL,_,b,rfl,HRC.out.carry (fun b hb=>hW.block b hb.2) (fun b hb=>⟨hb.1,Nat.lt_of_lt_of_le hb.2 hW.size⟩),hLL,HB2.out.trans (hW.mono HB2.out.size)⟩
 clear ho hF hb2 hrc e1 e2 e3 HB1 lq1 hlq hcell
 by_cases hnz:nn=zn
 case neg =>
  have hne:((nn:Int) != (zn:Int))=true:=by simp;omega
  go_wp2_with fail
  refine bodyPost_ret (v:=.tuple #[.slice ra LL.length rcap,.bool false]) (by simp [results,Try.results86,go_sem]) rfl ?_
  exact xU HEND _ _ (Below.refl _ _)
 subst hnz
 have hne:((nn:Int) != (nn:Int))=false:=by simp
 go_wp2_with fail
 go_loopw [10,11] (fun vx vi wr=>∃ (i:Nat) (nx:Int),i≤LL.length∧vx=.int .i64 nx∧vi=.int .i64 i∧Hid (Below w2.heap.size w2 wr)) (fun _ vi _=>LL.length - (intOf vi).toNat)
 case atStart=>exact ⟨0,_,by omega,rfl,rfl,Below.refl _ _⟩
 case round =>
  obtain ⟨i,nx,hi,rfl,rfl,HW⟩:=hrel
  have f2:wr.cell? ⟨w.heap.size+1,2,none⟩=some (.int .i64 q.next):=(HW.out.cell lq2).trans e2'
  by_cases hlt:i < LL.length
  · obtain ⟨rb,ro,rfl,hrb,hpos,-,-⟩:=(xU HCE) i hlt
    have hp:wr.cell? ⟨rb,ro+i * 2,none⟩=some (.int .i64 LL[i].pos):=(HW.out.cell (show (⟨rb,ro+i * 2,none⟩:Addr).block < w2.heap.size from hrb.2)).trans hpos
    generalize LL[i].pos=pos at *
    have hd1:decide ((i:Int) < (LL.length:Int))=true:=decide_eq_true (by omega)
    have hi0:(0:Int)≤(i:Int):=by omega
    have hil:(i:Int) < (LL.length:Int):=by omega
    clear hpos e1' e2' e3' HRC
    by_cases h1:pos < nx
    · have hd2:decide (pos < nx)=true:=decide_eq_true h1
      go_wp2_with fail
      go_quiet (fail)
      go_wp2_with fail
      refine bodyPost_ret (v:=.tuple #[.slice (some ⟨rb,ro,none⟩) LL.length rcap,.bool false]) (by simp [results,Try.results86,go_sem]) rfl ?_
      exact xU HEND _ _ (below_drewN HW.out _)
    · have hd2:decide (pos < nx)=false:=decide_eq_false h1
      by_cases h2:q.next≤pos
      · have hd3:decide (q.next≤pos)=true:=decide_eq_true h2
        go_wp2_with fail
        go_quiet (fail)
        go_wp2_with fail
        refine bodyPost_ret (v:=.tuple #[.slice (some ⟨rb,ro,none⟩) LL.length rcap,.bool false]) (by simp [results,Try.results86,go_sem]) rfl ?_
        exact xU HEND _ _ (below_drewN HW.out _)
      · have hd3:decide (q.next≤pos)=false:=decide_eq_false h2
        go_wp2_with fail
        go_quiet (fail)
        go_wp2_with fail
        go_roundw
        case rel=>exact ⟨i+1,_,hlt,rfl,by go_num,below_drewN HW.out _⟩
        case measure=>simp [intOf];omega
  · have hd1:decide ((i:Int) < (LL.length:Int))=false:=decide_eq_false (by omega)
    go_wp2_with fail
    refine bodyPost_ret (v:=.tuple #[.slice ra LL.length rcap,.bool true]) (by simp [results,Try.results86,go_sem]) rfl ?_
    exact xU HEND _ _ HW.out
end Go.Proofs.Yteikmbkljkkjiaa
