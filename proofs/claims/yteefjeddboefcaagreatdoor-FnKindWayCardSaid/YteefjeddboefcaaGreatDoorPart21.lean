/- A part. -/
import Derived.Test.YteefjeddboefcaaGreatDoorPart20
set_option maxRecDepth 100000
set_option maxHeartbeats 4000000
namespace Go.Proofs.YteefjeddboefcaaGreatDoor
open Go Go.RowKit Go.Shelf Go.Maps
attribute [local go_sem] Oper.semAt_some
mutual
def cord:Tr→Kd→List (Kd × Tr)
 | .mk s n tx ns ks,k=>(k,.mk s n tx ns ks)::cordK ks k 0
def cordK:List Tr→Kd→Nat→List (Kd × Tr)
 | [],_,_=>[]
 | t::r,k,i=>cord t (kidOf k i)++cordK r k (i+1)
end
theorem cord_eq (t:Tr) (k:Kd):cord t k=(k,t)::cordK t.kids k 0:=by obtain ⟨s,n,tx,ns,ks⟩:=t;rw [cord];rfl
def clB (p:Kd × Tr):Bool:=decide (p.1.sort=p.2.sort) && decide (p.1.names=p.2.names)
mutual
theorem hT_cord:∀ (t:Tr) (k:Kd),hT t k=(cord t k).all clB
 | .mk s n tx ns ks,k=>by rw [hT,cord,List.all_cons,hK_cord ks k 0];rfl
theorem hK_cord:∀ (ks:List Tr) (k:Kd) (i:Nat),hK ks k i=(cordK ks k i).all clB
 | [],k,i=>by rw [hK,cordK];rfl
 | t::r,k,i=>by rw [hK,cordK,List.all_append,hT_cord t,hK_cord r]
end
theorem cordK_take (K:Kd):∀ (ks:List Tr) (j i:Nat) (h:j < ks.length),cordK (ks.take (j+1)) K i=cordK (ks.take j) K i++cord ks[j] (kidOf K (i+j))
 | [],j,i,h=>by simp at h
 | a::r,0,i,h=>by simp [cordK]
 | a::r,j+1,i,h=>by
   simp only [List.take_succ_cons,cordK,List.getElem_cons_succ]
   rw [cordK_take K r j (i+1) (by simpa using h),List.append_assoc,show i+1+j=i+(j+1) from by omega]
theorem cordK_take_pre (K:Kd):∀ (ks:List Tr) (j i:Nat),cordK (ks.take j) K i <+: cordK ks K i
 | [],j,i=>by simp [cordK]
 | a::r,0,i=>by simp [cordK]
 | a::r,j+1,i=>by simp only [List.take_succ_cons,cordK];exact (List.prefix_append_right_inj _).2 (cordK_take_pre K r j (i+1))
abbrev CX (n₀:Nat) (w0:World):={ x:Int × (Kd × Tr) × C4 × C5 // NRep (fun b=>b < n₀) w0 x.2.1.1 x.2.2.1∧Rep (fun b=>b < n₀) w0 x.2.1.2 x.2.2.2∧okD x.2.1.1=true∧okH x.2.1.2=true }
def cKey {n₀:Nat} {w0:World} (x:CX n₀ w0):Kd × Tr:=x.1.2.1
def cEnc {n₀:Nat} {w0:World} (x:CX n₀ w0):Array Value:=#[.int .i64 x.1.1,.agg #[x.1.2.2.1.c0,x.1.2.2.1.c1,x.1.2.2.1.c2,x.1.2.2.1.c3,x.1.2.2.2.c0,x.1.2.2.2.c1,x.1.2.2.2.c2,x.1.2.2.2.c3,x.1.2.2.2.c4]]
abbrev KeptC (n₀:Nat):=Kept n₀ (fun _=>False)
theorem keptC_of {n₀:Nat} {A B:World} (h:Below A.heap.size A B) (hn:n₀≤A.heap.size):KeptC n₀ A B :=
 ⟨h.mono hn,fun k _ _ hk _=>(h.block k (Array.getElem?_eq_some_iff.1 hk).1).trans hk⟩
theorem claim_row {P:Nat→Prop} {w:World} {base n cap:Nat} {e:TypeId} {a:Option Addr} {xs:List Value} {ps:List (Kd × Tr)} (hown:w.ownsRow base e 9 (.slice a n cap) n xs) (hcl:CRepL P w ps xs) (hl:ps.length=n) (i:Nat) (hi:i < ps.length) :
 ∃ g o c d,a=some ⟨g,o,none⟩∧base≤g∧(∃ ob:Obj,w.heap[g]? = some ob∧ob.isCells=true)∧C4.at w g (o+i * 9) c∧C5.at w g (o+i * 9+4) d∧NRep P w ps[i].1 c∧Rep P w ps[i].2 d:=by
 have hown':=hown
 obtain ⟨h1,h2⟩:=hown
 rcases h2 with ⟨-,h0⟩ | ⟨g,cap',cur,hv,hb,hg,-⟩
 · omega
 · cases hv
   obtain ⟨c,d,q1,q2,q3,q4⟩:=hcl.get (g:=g) (o:=0) (fun j u hj=>by
    have:=hown'.cells (g:=g) rfl j u hj
    rwa [Addr.add_lit] at this) i hi
   exact ⟨g,0,c,d,rfl,hb,⟨_,hg,rfl⟩,q1,q2,q3,q4⟩
def WalkC (l n₀:Nat) (w0:World) (J Jx:List (CX n₀ w0)→World→Prop) (sz:Nat):Prop :=
 ∀ (T:Tr),tsz T < sz→∀ (n:Nat) (K:Kd) (c:C4) (d:C5) (lv:Int) (pre:List (CX n₀ w0)) (W:World),NRep (fun b=>b < n₀) w0 K c→Rep (fun b=>b < n₀) w0 T d→okD K=true→okH T=true→Below n₀ w0 W→J pre W→0≤lv→lv+tsz T≤1000000 →
   CallsIn Fence.wide n Tryz.prog 58 #[.agg #[c.c0,c.c1,c.c2,c.c3,d.c0,d.c1,d.c2,d.c3,d.c4],.int .i64 lv,.func (.yield l) #[] #[]] W fun e W' =>
    (e=.returned (.bool true)∧∃ q:List (CX n₀ w0),q.map cKey=cord T K∧J (pre++q) W'∧KeptC n₀ W W')∨(e=.returned (.bool false)∧∃ q:List (CX n₀ w0),q.map cKey <+: cord T K∧Jx (pre++q) W')
theorem walkC_step (l n₀:Nat) (w0:World) (hn₀:n₀≤w0.heap.size)
 (J Jx:List (CX n₀ w0)→World→Prop) (hJ:∀ s A B,J s A→A.grownBy B none→J s B) (hHy:∀ pre (x:CX n₀ w0) V,J (pre++[x]) V→clB (cKey x)=true)
 (hY:∀ m pre (x:CX n₀ w0) W,J pre W→YieldAt Fence.wide m Tryz.prog l (cEnc x) W fun e W' =>
   (e=.returned (.bool true)∧J (pre++[x]) W'∧KeptC n₀ W W')∨(e=.returned (.bool false)∧Jx (pre++[x]) W')) (sz:Nat)
 (IH:WalkC l n₀ w0 J Jx sz):WalkC l n₀ w0 J Jx (sz+1):=by
 intro T hT n K c d lv pre W hrep hrep2 hoK hoT hb hJp h0 hlv
 obtain ⟨x,hx⟩:∃ x:CX n₀ w0,x=⟨(lv,(K,T),c,d),hrep,hrep2,hoK,hoT⟩:=⟨_,rfl⟩
 have hxk:cKey x=(K,T):=by rw [hx];rfl
 have hxe:cEnc x=#[.int .i64 lv,.agg #[c.c0,c.c1,c.c2,c.c3,d.c0,d.c1,d.c2,d.c3,d.c4]]:=by rw [hx];rfl
 have hsz:=hb.size
 have hnW:n₀≤W.heap.size:=by omega
 have hshK:shB K=true∧okDs K.kids=true:=by rw [okD_eq,Bool.and_eq_true] at hoK;exact hoK
 have halT:aloneB T=true∧okHs T.kids=true:=by rw [okH_eq,Bool.and_eq_true] at hoT;exact hoT
 have hl:T.kids.length≤1000000:=by
  have:∀ ks:List Tr,ks.length≤lsz ks:=fun ks=>by
   induction ks with
   | nil=>simp
   | cons a r ih => rw [lsz, List.length_cons]; have : 1 ≤ tsz a := by obtain ⟨s, n, tx, ns, ks⟩ := a; rw [tsz]; omega
                    omega
  have h1:=this T.kids
  have h2:lsz T.kids≤tsz T:=by obtain ⟨s,n,tx,ns,ks⟩:=T;rw [tsz];exact Nat.le_add_left _ _
  omega
 -- the kids,asked for where the claim holds
 have hkids:∀ V,J (pre++[x]) V→KeptC n₀ W V→Calls Tryz.prog 155 #[.agg #[c.c0,c.c1,c.c2,c.c3,d.c0,d.c1,d.c2,d.c3,d.c4]] V fun e V'=>∃ a cap,e=.returned (.slice a T.kids.length cap)∧Hid (J (pre++[x]) V')∧Hid (KeptC n₀ W V')∧Hid (∀ i,(hi:i < T.kids.length)→∃ g o c d,a=some ⟨g,o,none⟩∧(∃ ob:Obj,V'.heap[g]? = some ob∧ob.isCells=true)∧C4.at V' g (o+i * 9) c∧C5.at V' g (o+i * 9+4) d∧NRep (fun b=>b < n₀) w0 (kidOf K i) c∧Rep (fun b=>b < n₀) w0 T.kids[i] d∧okD (kidOf K i)=true∧okH T.kids[i]=true):=fun V hV hKV=>by
  have hcl:=hHy _ _ _ hV
  rw [hxk] at hcl
  unfold clB at hcl
  rw [Bool.and_eq_true,decide_eq_true_eq,decide_eq_true_eq] at hcl
  have hbV:=hb.trans hKV.below
  have hnV:n₀≤V.heap.size:=Nat.le_trans hnW hKV.below.size
  refine (claimKids_any K T (fun b=>b < n₀) c d V (fun b hb'=>by omega) (NRep.carry (fun b hb'=>hbV.block b hb') (fun _ h=>h) _ _ hrep) (Rep.carry (fun b hb'=>hbV.block b hb') (fun _ h=>h) _ _ hrep2) hshK.1 halT.1 hcl.1 hcl.2 hl).mono ?_
  rintro e V' ⟨a,cap,xs,rfl,hown,hcr,hb'⟩
  have hKV':KeptC n₀ V V':=keptC_of hb' hnV
  refine ⟨a,cap,rfl,hJ _ _ _ hV ⟨hb'.os,hb'.tape,hb'.output,hb'.size,fun i hi _=>hb'.block i hi⟩,hKV.trans hKV',fun i hi=>?_⟩
  have hlen:(clm K T.kids 0).length=T.kids.length:=clm_len _ _ _
  obtain ⟨g,o,c',d',e1,-,e3,e4,e5,e6,e7⟩:=claim_row hown hcr hlen i (by omega)
  have hget:(clm K T.kids 0)[i]'(by omega)=(kidOf K i,T.kids[i]):=by
   have h1:=clm_take K T.kids i hi
   have h2:(clm K (T.kids.take (i+1)) 0)[i]? = some (kidOf K i,T.kids[i]):=by
    rw [h1,List.getElem?_append_right (by rw [clm_len];simp;omega),clm_len]
    simp [Nat.min_eq_left (Nat.le_of_lt hi)]
   have h3:∀ (l:List Tr) (j m:Nat),(clm K (l.take (m+1)) j)[m]? = (clm K l j)[m]? := fun l=>by
    induction l with
    | nil=>intro j m;simp
    | cons a r ih =>
      intro j m
      cases m with
      | zero=>simp [clm]
      | succ m=>simp only [List.take_succ_cons,clm,List.getElem?_cons_succ];exact ih (j+1) m
   rw [h3] at h2
   exact (List.getElem?_eq_some_iff.1 h2).2
  rw [hget] at e6 e7
  have hback:∀ b,b < n₀→w0.heap[b]? = V'.heap[b]? := fun b hb2=>((hbV.trans hKV'.below).block b hb2).symm
  have hka:=kid_at hshK.1 halT.1 hcl.1 hcl.2 hi
  have hok:okD (kidOf K i)=true:=by
   by_cases h5:K.sort=5
   · rw [kidOf_form h5 (hka.2 h5)];exact okDs_get hshK.2 i (hka.2 h5)
   · rw [kidOf_else h5 i hka.1];exact okDs_get hshK.2 0 hka.1
  exact ⟨g,o,c',d',e1,e3,e4,e5,NRep.carry hback (fun _ h=>h) _ _ e6,Rep.carry hback (fun _ h=>h) _ _ e7,hok,okHs_get halT.2 i hi⟩
 have hrepN:=hrep
 have hrepT:=hrep2
 obtain ⟨c0,c1,c2,c3⟩:=c
 obtain ⟨d0,d1,d2,d3,d4⟩:=d
 obtain ⟨e0,-,⟨a3,cap3,e1,-,-⟩,⟨B,e2,-,-⟩,a,cap,e3,-,-⟩:=hrep.open
 obtain ⟨g0,g1,g2,-,-,-,⟨a5,cap5,g3,-,-⟩,a6,cap6,g4,-,-⟩:=hrep2.open
 simp only at e0 e1 e2 e3 g0 g1 g2 g3 g4
 subst e0 e1 e2 e3 g0 g1 g2 g3 g4
 simp only at hkids hxe
 have hdd:∀ k:Nat,(Fence.wide.depth.isSome=true→1≤k):=fun k h=>by cases h
 have hg0:=World.grownBy_alloc W (.cells #[.int .i64 K.sort,.slice a3 K.names.length cap3,.map (some B),.slice a K.kids.length cap,.int .i64 T.sort,.int .i64 T.num,.string T.text,.slice a5 T.names.length cap5,.slice a6 T.kids.length cap6] 77) none
 have hJ0:=hJ pre _ _ hJp hg0
 have hK0:KeptC n₀ W (W.alloc (.cells #[.int .i64 K.sort,.slice a3 K.names.length cap3,.map (some B),.slice a K.kids.length cap,.int .i64 T.sort,.int .i64 T.num,.string T.text,.slice a5 T.names.length cap5,.slice a6 T.kids.length cap6] 77)):=Kept.grown hg0 (by omega)
 have hr0:=row9_alloc W ⟨.int .i64 K.sort,.slice a3 K.names.length cap3,.map (some B),.slice a K.kids.length cap⟩ ⟨.int .i64 T.sort,.int .i64 T.num,.string T.text,.slice a5 T.names.length cap5,.slice a6 T.kids.length cap6⟩ 77
 simp only at hr0
 obtain ⟨fn,tmps,assign,body,hy,hR⟩:=YieldAt.mono (R':=fun e W1=>(e=.returned (.bool true)∧Hid (J (pre++[x]) W1)∧Hid (KeptC n₀ W W1)∧W1.cell? ⟨W.heap.size,0,none⟩=some (.int .i64 K.sort)∧W1.cell? ⟨W.heap.size,1,none⟩=some (.slice a3 K.names.length cap3)∧W1.cell? ⟨W.heap.size,2,none⟩=some (.map (some B))∧W1.cell? ⟨W.heap.size,3,none⟩=some (.slice a K.kids.length cap)∧W1.cell? ⟨W.heap.size,4,none⟩=some (.int .i64 T.sort)∧W1.cell? ⟨W.heap.size,5,none⟩=some (.int .i64 T.num)∧W1.cell? ⟨W.heap.size,6,none⟩=some (.string T.text)∧W1.cell? ⟨W.heap.size,7,none⟩=some (.slice a5 T.names.length cap5)∧W1.cell? ⟨W.heap.size,8,none⟩=some (.slice a6 T.kids.length cap6))∨(e=.returned (.bool false)∧Hid (Jx (pre++[x]) W1)))
  (hY (n - 1) pre x _ hJ0) (fun e W1 h=>h.elim (fun ⟨he,hj,hb1⟩=>by
    have q1:=hr0.of_block ((hb1.same W.heap.size _ (fun h=>h) (World.alloc_heap_new W _) rfl).trans (World.alloc_heap_new W _).symm)
    exact .inl ⟨he,hj,hK0.trans hb1,q1.cell (i:=0) (by omega),q1.cell (i:=1) (by omega),q1.cell (i:=2) (by omega),q1.cell (i:=3) (by omega),q1.cell (i:=4) (by omega),q1.cell (i:=5) (by omega),q1.cell (i:=6) (by omega),q1.cell (i:=7) (by omega),q1.cell (i:=8) (by omega)⟩) (fun ⟨he,hj⟩=>.inr ⟨he,hj⟩))
 rw [hxe] at hy
 have HI:=xH IH;have HB:=xH hb;have HJ:=xH hJ;have HX:=xH hxk;have HKD:=xH hkids
 clear hx hxe hg0 hJ0 hK0 IH hb hJ hxk hrep hrep2 hrepN hrepT hY hJp hr0 hsz hkids hHy hshK halT hoK hoT
 have hm:∀ w,(method 349 77 (.agg #[.int .i64 K.sort,.slice a3 K.names.length cap3,.map (some B),.slice a K.kids.length cap,.int .i64 T.sort,.int .i64 T.num,.string T.text,.slice a5 T.names.length cap5,.slice a6 T.kids.length cap6]) "loop.example/teagle/impl.kids").run Tryz.prog w=.ok (155,.agg #[.int .i64 K.sort,.slice a3 K.names.length cap3,.map (some B),.slice a K.kids.length cap,.int .i64 T.sort,.int .i64 T.num,.string T.text,.slice a5 T.names.length cap5,.slice a6 T.kids.length cap6]) w:=fun _=>by kernel_rfl
 refine callsIn_of_wp Tryz.func58 rfl trivial ?_ rfl
 simp only [Tryz.ntmps58,List.size_toArray,List.length_cons,List.length_nil,Nat.reduceAdd,Nat.reduceSub,Array.replicate_succ,Array.replicate_zero,List.push_toArray,List.append_toArray,List.nil_append,List.cons_append]
 gi_wp2_with (first
  | ((try refine ⟨hdd _,?_⟩);refine hR.mono ?_;clear hR hy;rintro e W1 (⟨rfl,HJ1,HK1,k0,k1,k2,k3,k4,k5,k6,k7,k8⟩ | ⟨rfl,HX1⟩))
  | ((try refine ⟨trivial,?_⟩);(try refine ⟨hdd _,?_⟩);gi_at_call 155;refine (callsIn_wide.2 (xU HKD _ (xU HJ1) (xU HK1))).mono ?_;rintro e w' ⟨ar,capr,rfl,HJL,HKL,HKS⟩))
 · clear hm k0 k1 k2 k3 k4 k5 k6 k7 k8 HKD HJ1 HK1
   generalize hks:T.kids=ks at *
   have HKE:=xH hks;clear hks
   gi_loopw [18] (fun i wr=>∃ (k:Nat) (q:List (CX n₀ w0)),k≤ks.length∧i=.int .i64 k∧Hid (q.map cKey=(K,T)::cordK (ks.take k) K 0)∧Hid (J (pre++q) wr)∧Hid (KeptC n₀ W wr)∧Hid (KeptC n₀ w' wr)) (fun i _=>ks.length - (intOf i).toNat)
   case atStart=>exact ⟨0,[x],Nat.zero_le _,rfl,by simp [Hid,cordK,xU HX],xU HJL,xU HKL,Kept.refl _ _ _⟩
   case round =>
    obtain ⟨k,q,hk',rfl,HQ,HJQ,HKQ,HKR⟩:=hrel
    by_cases hlt:k < ks.length
    · obtain ⟨b,o,c,d,rfl,⟨ob,hob,hobc⟩,hat4,hat5,hrepk,hrept,hokk,hokt⟩:=xU HKS k hlt
      have hbw:=(xU HB).trans HKQ.out.below
      have hblk:wr.heap[b]? = w'.heap[b]? := (HKR.out.same b ob (fun h=>h) hob hobc).trans hob.symm
      have hat4':=hat4.carry hblk
      have hat5':=hat5.carry hblk
      have hcall0 := fun m pr V => unhide HI ks[k] (by have : ks[k] ∈ T.kids := by rw [unhide HKE]; exact List.getElem_mem hlt
                                                       have:=tsz_kid this;omega) m (kidOf K k) c d (lv+1) pr V hrepk hrept hokk hokt
      obtain ⟨c0,c1,c2,c3⟩:=c
      obtain ⟨d0,d1,d2,d3,d4⟩:=d
      obtain ⟨y0,-,⟨b3,cpa,y1,-,-⟩,⟨B2,y2,-,-⟩,b4,cpb,y3,-,-⟩:=hrepk.open
      obtain ⟨z0,z1,z2,-,-,-,⟨b5,cpc,z3,-,-⟩,b6,cpd,z4,-,-⟩:=hrept.open
      simp only at y0 y1 y2 y3 z0 z1 z2 z3 z4
      subst y0 y1 y2 y3 z0 z1 z2 z3 z4
      obtain ⟨f0,f1,f2,f3⟩:=hat4'
      obtain ⟨f4,f5,f6,f7,f8⟩:=hat5'
      simp only at f0 f1 f2 f3 f4 f5 f6 f7 f8 hcall0
      replace f5:wr.cell? ⟨b,o+k * 9+5,none⟩=_:=f5
      replace f6:wr.cell? ⟨b,o+k * 9+6,none⟩=_:=f6
      replace f7:wr.cell? ⟨b,o+k * 9+7,none⟩=_:=f7
      replace f8:wr.cell? ⟨b,o+k * 9+8,none⟩=_:=f8
      have hmem:ks[k]∈T.kids:=by rw [xU HKE];exact List.getElem_mem hlt
      have hsm':tsz ks[k] < tsz T:=tsz_kid hmem
      have hnext:q.map cKey++cord ks[k] (kidOf K k)=(K,T)::cordK (ks.take (k+1)) K 0:=by rw [HQ.out,cordK_take K ks k 0 hlt];simp
      have hpre:q.map cKey++cord ks[k] (kidOf K k) <+: cord T K:=by
       rw [hnext,cord_eq,xU HKE]
       exact (List.prefix_cons_inj _).2 (cordK_take_pre K ks (k+1) 0)
      have hsWr:n₀≤wr.heap.size:=Nat.le_trans hnW HKQ.out.below.size
      have hcall:=fun m (ob2:Obj)=>hcall0 m (pre++q) (wr.alloc ob2) (hbw.trans ((Below.refl n₀ wr).alloc hsWr ob2)) (xU HJ _ _ _ HJQ.out (World.grownBy_alloc wr ob2 none)) (by omega) (by omega)
      have hKN:=fun (ob2:Obj)=>HKQ.out.trans (Kept.grown (S:=fun _=>False) (World.grownBy_alloc wr ob2 none) hsWr)
      have hKN2:=fun (ob2:Obj)=>HKR.out.trans (Kept.grown (S:=fun _=>False) (World.grownBy_alloc wr ob2 none) hsWr)
      have HCALL:=xH hcall;have HKN:=xH hKN;have HKN2:=xH hKN2
      have HNX:=xH hnext;have HPR:=xH hpre
      clear hcall hcall0 hKN hKN2 hnext hpre hmem hrepk hrept hat4 hat5 hbw hob hobc hblk hokk hokt
      gi_wp2_with ((try refine ⟨trivial,?_⟩);(try refine ⟨hdd _,?_⟩);gi_at_call 58;refine (xU HCALL _ _).mono ?_;clear HCALL;rintro e W2 (⟨rfl,q2,hq2,hJ2,hk2⟩ | ⟨rfl,q2,hq2,hx2⟩))
      · go_roundw
        case rel =>
         refine ⟨k+1,q++q2,by omega,by go_num,?_,?_,(xU HKN _).trans hk2,(xU HKN2 _).trans hk2⟩
         · show _=_
           rw [List.map_append,hq2];exact xU HNX
         · show J _ _
           rw [← List.append_assoc];exact hJ2
        case measure=>simp [intOf];omega
      · go_ret
        refine .inr ⟨rfl,q++q2,?_,by rw [← List.append_assoc];exact hx2⟩
        rw [List.map_append]
        exact ((List.prefix_append_right_inj _).2 hq2).trans (xU HPR)
    · gi_wp2
      go_ret
      obtain rfl:k=ks.length:=by omega
      refine .inl ⟨rfl,q,?_,HJQ.out,HKQ.out⟩
      rw [HQ.out,List.take_length,cord_eq,xU HKE]
 · go_ret
   exact .inr ⟨rfl,[x],by rw [cord_eq];simp [xU HX],xU HX1⟩
theorem walkC_all (l n₀:Nat) (w0:World) (hn₀:n₀≤w0.heap.size)
 (J Jx:List (CX n₀ w0)→World→Prop) (hJ:∀ s A B,J s A→A.grownBy B none→J s B) (hHy:∀ pre (x:CX n₀ w0) V,J (pre++[x]) V→clB (cKey x)=true)
 (hY:∀ m pre (x:CX n₀ w0) W,J pre W→YieldAt Fence.wide m Tryz.prog l (cEnc x) W fun e W' =>
   (e=.returned (.bool true)∧J (pre++[x]) W'∧KeptC n₀ W W')∨(e=.returned (.bool false)∧Jx (pre++[x]) W')):∀ sz,WalkC l n₀ w0 J Jx sz
 | 0=>fun T h=>by omega
 | sz+1=>walkC_step l n₀ w0 hn₀ J Jx hJ hHy hY sz (walkC_all l n₀ w0 hn₀ J Jx hJ hHy hY sz)
theorem walkC_in (n:Nat) (c0:Int) (a1:Option Addr) (n1 p1 B:Nat) (a2:Option Addr) (n2 p2:Nat) (d0 d1:Int) (d2:ByteArray) (a3:Option Addr) (n3 p3:Nat) (a4:Option Addr) (n4 p4:Nat) (w:World) :
 CallsIn Fence.wide n Tryz.prog 31 #[.agg #[.int .i64 c0,.slice a1 n1 p1,.map (some B),.slice a2 n2 p2,.int .i64 d0,.int .i64 d1,.string d2,.slice a3 n3 p3,.slice a4 n4 p4]] w fun e w'=>e=.returned (.func (.func 57) #[] #[.pointer (some ⟨w.heap.size,0,none⟩)])∧w'=w.alloc (.cells #[.int .i64 c0,.slice a1 n1 p1,.map (some B),.slice a2 n2 p2,.int .i64 d0,.int .i64 d1,.string d2,.slice a3 n3 p3,.slice a4 n4 p4] 77):=by
 refine callsIn_of_wp Tryz.func31 rfl trivial ?_ rfl
 simp only [Tryz.ntmps31,List.size_toArray,List.length_cons,List.length_nil,Nat.reduceAdd,Nat.reduceSub,Array.replicate_succ,Array.replicate_zero,List.push_toArray,List.append_toArray,List.nil_append,List.cons_append]
 gi_wp2
 go_ret
 exact ⟨rfl,rfl⟩
theorem walkC1_in (n:Nat) (l Bt n₀:Nat) (w0:World) (hn₀:n₀≤w0.heap.size)
 (T:Tr) (K:Kd) (c:C4) (d:C5) (hrep:NRep (fun b=>b < n₀) w0 K c) (hrep2:Rep (fun b=>b < n₀) w0 T d) (hoK:okD K=true) (hoT:okH T=true) (hlv:tsz T≤999990)
 (J Jx:List (CX n₀ w0)→World→Prop) (hJ:∀ s A B,J s A→A.grownBy B none→J s B) (hHy:∀ pre (x:CX n₀ w0) V,J (pre++[x]) V→clB (cKey x)=true)
 (hY:∀ pre (x:CX n₀ w0) W,J pre W→YieldAt Fence.wide (n - 1) Tryz.prog l (cEnc x) W fun e W' =>
   (e=.returned (.bool true)∧J (pre++[x]) W'∧KeptC n₀ W W')∨(e=.returned (.bool false)∧Jx (pre++[x]) W'))
 (W:World) (hB4:C4.at W Bt 0 c) (hB5:C5.at W Bt 4 d) (hb:Below n₀ w0 W) (h0:J [] W) :
 CallsIn Fence.wide n Tryz.prog 57 #[.func (.yield l) #[] #[],.pointer (some ⟨Bt,0,none⟩)] W fun e W'=>(∃ v,e=.returned v) ∧
  ((∃ ys:List (CX n₀ w0),ys.map cKey=cord T K∧J ys W')∨(∃ pre:List (CX n₀ w0),pre.map cKey <+: cord T K∧Jx pre W')):=by
 have hdd:∀ k:Nat,(Fence.wide.depth.isSome=true→1≤k):=fun k h=>by cases h
 have hp:=walkC_all l n₀ w0 hn₀ J Jx hJ hHy (fun m pre x W hj=>yield_any rfl m (hY pre x W hj)) (tsz T+1) T (by omega) (n - 1) K c d 1 [] W hrep hrep2 hoK hoT hb h0 (by omega) (by omega)
 obtain ⟨c0,c1,c2,c3⟩:=c
 obtain ⟨d0,d1,d2,d3,d4⟩:=d
 obtain ⟨e0,e1,e2,e3⟩:=hB4
 obtain ⟨f0,f1,f2,f3,f4⟩:=hB5
 simp only [Nat.reduceAdd,Nat.zero_add] at e0 e1 e2 e3 f0 f1 f2 f3 f4 hp
 obtain ⟨y0,-,⟨b3,cpa,y1,-,-⟩,⟨B2,y2,-,-⟩,b4,cpb,y3,-,-⟩:=hrep.open
 obtain ⟨z0,z1,z2,-,-,-,⟨b5,cpc,z3,-,-⟩,b6,cpd,z4,-,-⟩:=hrep2.open
 simp only at y0 y1 y2 y3 z0 z1 z2 z3 z4
 subst y0 y1 y2 y3 z0 z1 z2 z3 z4
 have HP:=xH hp
 clear hp hrep hrep2 hY hJ hHy hb
 refine callsIn_of_wp Tryz.func57 rfl trivial ?_ rfl
 simp only [Tryz.ntmps57,List.size_toArray,List.length_cons,List.length_nil,Nat.reduceAdd,Nat.reduceSub,Array.replicate_succ,Array.replicate_zero,List.push_toArray,List.append_toArray,List.nil_append,List.cons_append]
 gi_wp2_with ((try refine ⟨trivial,?_⟩);(try refine ⟨hdd _,?_⟩);gi_at_call 58;refine (xU HP).mono ?_;clear HP;rintro e W1 (⟨rfl,q,hq,hJ1,_⟩ | ⟨rfl,q,hq,hx⟩))
 · go_end0
   exact ⟨⟨_,rfl⟩,.inl ⟨q,hq,by simpa using hJ1⟩⟩
 · go_end0
   exact ⟨⟨_,rfl⟩,.inr ⟨q,hq,by simpa using hx⟩⟩
end Go.Proofs.YteefjeddboefcaaGreatDoor

namespace Go.Proofs.YteefjeddboefcaaGreatDoor
open Go Go.RowKit
abbrev fltE:Ending:=.panicked [{ v:=.iface 169 (.agg #[]),recovered:=false }]
theorem treeWant_yes (w:World):Calls Tryz.prog 87 #[.bool true] w fun e w'=>e=.returned (.tuple #[])∧w'=w:=by
 go_enter Tryz.func87,Tryz.ntmps87
 go_wp2_with fail
 go_end0
 exact ⟨rfl,rfl⟩
theorem treeWant_no (w:World):Calls Tryz.prog 87 #[.bool false] w fun e w'=>e=fltE∧w'=w:=by
 go_enter Tryz.func87,Tryz.ntmps87
 go_wp2_with fail
 exact ⟨rfl,rfl,rfl⟩
end Go.Proofs.YteefjeddboefcaaGreatDoor

namespace Go.Proofs.YteefjeddboefcaaGreatDoor
open Go Go.RowKit
theorem try_panicking (p:Addr) (x:Bool) (u:TypeId) (pv:Value) (older:List PanicEntry) (w:World) (hc:w.cell? p=some (.bool x)) (hz:w.frozen? p=false) :
 CallsD Tryz.prog 85 #[.pointer (some p)] (.panicking ({ v:=.iface u pv,recovered:=false }::older)) w fun e u' w' =>
  e=.returned (.tuple #[])∧u'=.panicking ({ v:=.iface u pv,recovered:=true }::older)∧w'=w.setCell p (.bool false):=by
 refine callsD_of_wpS Tryz.func85 rfl fun c₀ cs hu=>?_
 apply wpS_region
 simp [wpOpsS,go_sem,recoverD,hu,Tryz.ntmps85,hc,hz,bodyPostS,results,Tryz.results85]
theorem try_returning (p:Addr) (x:Bool) (w:World) (hc:w.cell? p=some (.bool x)) (hz:w.frozen? p=false) :
 CallsD Tryz.prog 85 #[.pointer (some p)] .returning w fun e u' w'=>e=.returned (.tuple #[])∧u'=.returning∧w'=w.setCell p (.bool true):=by
 refine callsD_of_wpS Tryz.func85 rfl fun c₀ cs hu=>?_
 apply wpS_region
 simp [wpOpsS,go_sem,recoverD,hu,Tryz.ntmps85,hc,hz,bodyPostS,results,Tryz.results85]
 cases c₀
 simp_all
theorem cell_new1 {w w':World} {x:Value} {t:TypeId} (h:w'.heap[w.heap.size]? = (w.alloc (.cells #[x] t)).heap[w.heap.size]?):w'.cell? ⟨w.heap.size,0,none⟩=some x∧w'.frozen? ⟨w.heap.size,0,none⟩=false:=by
 rw [World.cell?_of_block (a:=⟨w.heap.size,0,none⟩) h,World.frozen?_of_block (a:=⟨w.heap.size,0,none⟩) h]
 exact ⟨by simp [go_sem],by simp [go_sem]⟩
theorem treeTry_yes (f:FuncId) (caps:Array Value) (w:World) (R:World→Prop) (hent:∀ W,Sem.run Tryz.prog (callFunc f caps) W=.ok (.enter f caps) W)
 (hwork:∀ o,Calls Tryz.prog f caps (w.alloc o) fun e w'=>e=.returned (.tuple #[])∧R w'∧w'.heap[w.heap.size]? = (w.alloc o).heap[w.heap.size]?) :
 Calls Tryz.prog 61 #[.func (.func f) #[] caps] w fun e w'=>e=.returned (.bool true)∧∃ w1,R w1∧But w.heap.size w1 w':=by
 have hmf:∀ (fn:Fn) (first cap:Array Value) (w:World),(Instr.makeFunc fn first cap).run Tryz.prog w=.ok (.func fn first cap) w:=fun _ _ _ _=>rfl
 have HW:=xH hwork;clear hwork
 go_enter_defers Tryz.func61,Tryz.ntmps61
 go_wp2_with fail
 refine (xU HW _).mono ?_
 rintro e w1 ⟨rfl,hr,hbk⟩
 obtain ⟨hc,hz⟩:=cell_new1 hbk
 have HR:=xH hr
 clear hr hbk
 go_wp2_with fail
 refine leaves_cons (f:=85) (args:=#[.pointer (some ⟨w.heap.size,0,none⟩)]) (by simp) (by simp [go_sem]) ?_
 refine (try_returning ⟨w.heap.size,0,none⟩ true _ ?_ ?_).mono ?_
 · simp [go_sem,hc]
 · simp [go_sem,hz]
 rintro e u' w'' ⟨rfl,rfl,rfl⟩
 simp [Leaves,settle,results,Tryz.results61,go_sem,hc]
 exact ⟨w1,xU HR,(But.set w1 0 _).trans (But.set _ 0 _)⟩
theorem treeTry_no (f:FuncId) (caps:Array Value) (w:World) (R:World→Prop) (hent:∀ W,Sem.run Tryz.prog (callFunc f caps) W=.ok (.enter f caps) W)
 (hwork:∀ o,Calls Tryz.prog f caps (w.alloc o) fun e w'=>e=fltE∧R w'∧w'.heap[w.heap.size]? = (w.alloc o).heap[w.heap.size]?) :
 Calls Tryz.prog 61 #[.func (.func f) #[] caps] w fun e w'=>e=.returned (.bool false)∧∃ w1,R w1∧But w.heap.size w1 w':=by
 have hmf:∀ (fn:Fn) (first cap:Array Value) (w:World),(Instr.makeFunc fn first cap).run Tryz.prog w=.ok (.func fn first cap) w:=fun _ _ _ _=>rfl
 have HW:=xH hwork;clear hwork
 go_enter_defers Tryz.func61,Tryz.ntmps61
 go_wp2_with fail
 refine (xU HW _).mono ?_
 rintro e w1 ⟨rfl,hr,hbk⟩
 obtain ⟨hc,hz⟩:=cell_new1 hbk
 have HR:=xH hr
 clear hr hbk
 go_wp2_with fail
 refine leaves_cons (f:=85) (args:=#[.pointer (some ⟨w.heap.size,0,none⟩)]) (by simp) (by simp [go_sem]) ?_
 refine (try_panicking ⟨w.heap.size,0,none⟩ false 169 _ [] _ hc hz).mono ?_
 rintro e u' w'' ⟨rfl,rfl,rfl⟩
 simp [Leaves,settle,results,Tryz.results61,go_sem,hc]
 exact ⟨w1,xU HR,But.set w1 0 _⟩
end Go.Proofs.YteefjeddboefcaaGreatDoor

namespace Go.Proofs.YteefjeddboefcaaGreatDoor
open Go Go.RowKit
theorem newNum_yes (n:Int) (w:World) (h:-999999999≤n∧n≤999999999):Calls Tryz.prog 101 #[.int .i64 n] w fun e w'=>e=.returned (.int .i64 n)∧w'=w:=by
 obtain ⟨h1,h2⟩:=h
 have d2:decide (n≤999999999)=true:=by simp;omega
 go_enter Tryz.func101,Tryz.ntmps101
 go_wp2_with (go_at_call 87;refine (treeWant_yes _).mono ?_;rintro e w' ⟨rfl,rfl⟩)
 go_ret
 exact ⟨rfl,rfl⟩
theorem newNum_no (n:Int) (w:World) (h:¬ (-999999999≤n∧n≤999999999)):Calls Tryz.prog 101 #[.int .i64 n] w fun e w'=>e=fltE∧w'=w:=by
 have h':n < -999999999∨999999999 < n:=by omega
 clear h
 rcases h' with h | h
 · go_enter Tryz.func101,Tryz.ntmps101
   go_wp2_with (go_at_call 87;refine (treeWant_no _).mono ?_;rintro e w' ⟨rfl,rfl⟩)
   exact ⟨rfl,rfl,rfl⟩
 · have d2:decide (n≤999999999)=false:=by simp;omega
   go_enter Tryz.func101,Tryz.ntmps101
   go_wp2_with (go_at_call 87;refine (treeWant_no _).mono ?_;rintro e w' ⟨rfl,rfl⟩)
   exact ⟨rfl,rfl,rfl⟩
theorem newList_yes (a:Option Addr) (n cap:Nat) (w:World) (h:n≤20):Calls Tryz.prog 104 #[.slice a n cap] w fun e w'=>e=.returned (.slice a n cap)∧w'=w:=by
 have d:decide ((n:Int)≤20)=true:=by simp;omega
 go_enter Tryz.func104,Tryz.ntmps104
 go_wp2_with (go_at_call 87;refine (treeWant_yes _).mono ?_;rintro e w' ⟨rfl,rfl⟩)
 go_ret
 exact ⟨rfl,rfl⟩
theorem newList_no (a:Option Addr) (n cap:Nat) (w:World) (h:¬ n≤20):Calls Tryz.prog 104 #[.slice a n cap] w fun e w'=>e=fltE∧w'=w:=by
 have d:decide ((n:Int)≤20)=false:=by simp;omega
 go_enter Tryz.func104,Tryz.ntmps104
 go_wp2_with (go_at_call 87;refine (treeWant_no _).mono ?_;rintro e w' ⟨rfl,rfl⟩)
 exact ⟨rfl,rfl,rfl⟩
theorem newMaybe_yes (a:Option Addr) (n cap:Nat) (w:World) (h:n≤1):Calls Tryz.prog 107 #[.slice a n cap] w fun e w'=>e=.returned (.slice a n cap)∧w'=w:=by
 have d:decide ((n:Int)≤1)=true:=by simp;omega
 go_enter Tryz.func107,Tryz.ntmps107
 go_wp2_with (go_at_call 87;refine (treeWant_yes _).mono ?_;rintro e w' ⟨rfl,rfl⟩)
 go_ret
 exact ⟨rfl,rfl⟩
theorem newMaybe_no (a:Option Addr) (n cap:Nat) (w:World) (h:¬ n≤1):Calls Tryz.prog 107 #[.slice a n cap] w fun e w'=>e=fltE∧w'=w:=by
 have d:decide ((n:Int)≤1)=false:=by simp;omega
 go_enter Tryz.func107,Tryz.ntmps107
 go_wp2_with (go_at_call 87;refine (treeWant_no _).mono ?_;rintro e w' ⟨rfl,rfl⟩)
 exact ⟨rfl,rfl,rfl⟩
theorem newText_any (s:ByteArray) (w:World) (hs:s.size≤9223372036854775807) :
 Calls Tryz.prog 102 #[.string s] w fun e w'=>(textOkB s=true∧e=.returned (.string s)∨textOkB s=false∧e=fltE)∧w'=w:=by
 by_cases h60:s.size≤60
 · have d:decide ((s.size:Int)≤60)=true:=by simp;omega
   go_enter Tryz.func102,Tryz.ntmps102
   go_wp2_with (go_at_call 87;refine (treeWant_yes _).mono ?_;rintro e w' ⟨rfl,rfl⟩)
   go_loop [10] (fun i=>∃ k:Nat,k≤s.size∧i=.int .i64 k∧Hid (allTo textByte s k)) (fun i=>s.size - (intOf i).toNat)
   case atStart=>exact ⟨0,Nat.zero_le _,rfl,fun j hj=>by omega⟩
   case round =>
    obtain ⟨k,hk,rfl,HA⟩:=hrel
    by_cases hlt:k < s.size
    · have hc:s[k].toNat < 32∨126 < s[k].toNat∨s[k].toNat=34∨(32≤s[k].toNat∧s[k].toNat≤126∧s[k].toNat≠34):=by omega
      rcases hc with hc | hc | hc | hc
      · have HN:=xH (textOk_not hlt (textByte_no (Or.inl hc)))
        go_wp2_with (go_at_call 87;refine (treeWant_no _).mono ?_;rintro e w' ⟨rfl,rfl⟩)
        exact ⟨rfl,Or.inr ⟨xU HN,rfl⟩,rfl⟩
      · have HN:=xH (textOk_not hlt (textByte_no (Or.inr (Or.inl hc))))
        have d1:decide ((32:Int)≤s[k].toNat)=true:=by simp;omega
        have d2:decide ((s[k].toNat:Int)≤126)=false:=by simp;omega
        go_wp2_with (go_at_call 87;refine (treeWant_no _).mono ?_;rintro e w' ⟨rfl,rfl⟩)
        exact ⟨rfl,Or.inr ⟨xU HN,rfl⟩,rfl⟩
      · have HN:=xH (textOk_not hlt (textByte_no (Or.inr (Or.inr hc))))
        have d1:decide ((32:Int)≤s[k].toNat)=true:=by simp;omega
        have d2:decide ((s[k].toNat:Int)≤126)=true:=by simp;omega
        have d3:((s[k].toNat:Int) != 34)=false:=by simp;omega
        clear hc
        go_wp2_with (go_at_call 87;refine (treeWant_no _).mono ?_;rintro e w' ⟨rfl,rfl⟩)
        exact ⟨rfl,Or.inr ⟨xU HN,rfl⟩,rfl⟩
      · have HN:=xH (allTo_succ HA.out hlt (textByte_yes hc))
        obtain ⟨hc1,hc2,hc3⟩:=hc
        have d1:decide ((32:Int)≤s[k].toNat)=true:=by simp;omega
        have d2:decide ((s[k].toNat:Int)≤126)=true:=by simp;omega
        have d3:((s[k].toNat:Int) != 34)=true:=by simp;omega
        go_wp2_with (go_at_call 87;refine (treeWant_yes _).mono ?_;rintro e w' ⟨rfl,rfl⟩)
        go_round
        case rel=>exact ⟨k+1,by omega,by go_num,HN⟩
        case measure=>simp [intOf];omega
    · go_wp2_with fail
      go_ret
      obtain rfl:k=s.size:=by omega
      exact ⟨Or.inl ⟨textOk_yes h60 HA.out,rfl⟩,rfl⟩
 · have HN:Hid (textOkB s=false):=by show _=_;unfold textOkB;rw [decide_eq_false h60];rfl
   have d:decide ((s.size:Int)≤60)=false:=by simp;omega
   go_enter Tryz.func102,Tryz.ntmps102
   go_wp2_with (go_at_call 87;refine (treeWant_no _).mono ?_;rintro e w' ⟨rfl,rfl⟩)
   exact ⟨rfl,Or.inr ⟨xU HN,rfl⟩,rfl⟩
structure Bnd (w:World) (B:Nat) (p l:Int):Prop where
 c0:w.cell? ⟨B,0,none⟩=some (.int .i64 p)
 c1:w.cell? ⟨B,1,none⟩=some (.int .i64 l)
 f0:w.frozen? ⟨B,0,none⟩=false
 f1:w.frozen? ⟨B,1,none⟩=false
theorem Bnd.lt {w:World} {B:Nat} {p l:Int} (h:Bnd w B p l):B < w.heap.size:=World.block_lt_of_cell? w _ h.c0
theorem Bnd.of_block {w w':World} {B:Nat} {p l:Int} (h:Bnd w B p l) (e:w'.heap[B]? = w.heap[B]?):Bnd w' B p l :=
 ⟨by rw [World.cell?_of_block (w:=w) e];exact h.c0,by rw [World.cell?_of_block (w:=w) e];exact h.c1,by rw [World.frozen?_of_block (w:=w) e];exact h.f0,by rw [World.frozen?_of_block (w:=w) e];exact h.f1⟩
theorem enter_yes (B:Nat) (p l:Int) (w:World) (hB:Bnd w B p l) (hp:0≤p) (hl:0≤l) (h1:p+1≤120) (h2:l+1≤6) :
 Calls Tryz.prog 86 #[.pointer (some ⟨B,0,none⟩)] w fun e w'=>e=.returned (.tuple #[])∧w'=(w.setCell ⟨B,0,none⟩ (.int .i64 (p+1))).setCell ⟨B,1,none⟩ (.int .i64 (l+1)):=by
 obtain ⟨c0,c1,f0,f1⟩:=hB
 have d1:decide (p+1≤120)=true:=by simp;omega
 have d2:decide (l+1≤6)=true:=by simp;omega
 go_enter Tryz.func86,Tryz.ntmps86
 go_wp2_with (go_at_call 87;refine (treeWant_yes _).mono ?_;rintro e w' ⟨rfl,rfl⟩)
 go_end0
 exact ⟨rfl,rfl⟩
theorem enter_no (B:Nat) (p l:Int) (w:World) (hB:Bnd w B p l) (hp:0≤p) (hl:0≤l) (hp1:p≤120) (hl1:l≤6) (h:¬ (p+1≤120∧l+1≤6)) :
 Calls Tryz.prog 86 #[.pointer (some ⟨B,0,none⟩)] w fun e w'=>e=fltE∧w'=(w.setCell ⟨B,0,none⟩ (.int .i64 (p+1))).setCell ⟨B,1,none⟩ (.int .i64 (l+1)):=by
 obtain ⟨c0,c1,f0,f1⟩:=hB
 by_cases h1:p+1≤120
 · have d1:decide (p+1≤120)=true:=by simp;omega
   have d2:decide (l+1≤6)=false:=by simp;omega
   clear h
   go_enter Tryz.func86,Tryz.ntmps86
   go_wp2_with (go_at_call 87;refine (treeWant_no _).mono ?_;rintro e w' ⟨rfl,rfl⟩)
   exact ⟨rfl,rfl,rfl⟩
 · have d1:decide (p+1≤120)=false:=by simp;omega
   clear h
   go_enter Tryz.func86,Tryz.ntmps86
   go_wp2_with (go_at_call 87;refine (treeWant_no _).mono ?_;rintro e w' ⟨rfl,rfl⟩)
   exact ⟨rfl,rfl,rfl⟩
theorem leave_any (B:Nat) (p l:Int) (w:World) (hB:Bnd w B p l) (hl:0≤l) (hl1:l≤10) :
 Calls Tryz.prog 90 #[.pointer (some ⟨B,0,none⟩)] w fun e w'=>e=.returned (.tuple #[])∧w'=w.setCell ⟨B,1,none⟩ (.int .i64 (l - 1)):=by
 obtain ⟨c0,c1,f0,f1⟩:=hB
 go_enter Tryz.func90,Tryz.ntmps90
 go_wp2_with fail
 go_end0
 exact ⟨rfl,rfl⟩
theorem newForm_any (v:Value) (ss:List ByteArray) (a:Option Addr) (n cap:Nat) (w:World) {P:Nat→Prop} (hP:∀ b,P b→b < w.heap.size) (hv:StrsAt P w v ss) :
 Calls Tryz.prog 106 #[v,.slice a n cap] w fun e w'=>((ss.length=n∧riseB ss=true)∧e=.returned (.agg #[v,.slice a n cap])∨¬ (ss.length=n∧riseB ss=true)∧e=fltE)∧Below w.heap.size w w':=by
 have hbx:∀ o,Below w.heap.size w (w.alloc o):=fun o=>(Below.refl _ _).alloc (Nat.le_refl _) o
 have hasc:∀ o,Calls Tryz.prog 84 #[v] (w.alloc o) fun e w'=>e=.returned (.bool (riseB ss))∧w'=w.alloc o:=fun o =>
  namesAscend_any v ss (w.alloc o) (P:=P) (fun b hb=>Nat.lt_of_lt_of_le (hP b hb) (hbx o).size) (hv.carry (fun b hb=>(hbx o).block b (hP b hb)) (fun _ h=>h))
 have HA:=xH hasc;have HBX:=xH hbx
 obtain ⟨a3,cap3,rfl,hlen,-⟩:=hv
 clear hasc hbx hP
 by_cases hnl:ss.length=n
 · have d:((ss.length:Int)==(n:Int))=true:=by simp;omega
   have HNL:=xH hnl;clear hnl
   cases hr:riseB ss
   · rw [hr] at HA
     go_enter Tryz.func106,Tryz.ntmps106
     go_wp2_with (first | (go_at_call 84;refine (xU HA _).mono ?_;rintro e w' ⟨rfl,rfl⟩) | (go_at_call 87;refine (treeWant_no _).mono ?_;rintro e w' ⟨rfl,rfl⟩))
     exact ⟨rfl,Or.inr ⟨fun h=>Bool.false_ne_true h.2,rfl⟩,xU HBX _⟩
   · rw [hr] at HA
     go_enter Tryz.func106,Tryz.ntmps106
     go_wp2_with (first | (go_at_call 84;refine (xU HA _).mono ?_;rintro e w' ⟨rfl,rfl⟩) | (go_at_call 87;refine (treeWant_yes _).mono ?_;rintro e w' ⟨rfl,rfl⟩))
     refine bodyPost_ret (v:=.agg #[.slice a3 ss.length cap3,.slice a n cap]) (by simp [results,Tryz.results106,go_sem]) rfl ⟨Or.inl ⟨⟨xU HNL,by simp⟩,rfl⟩,xU HBX _⟩
 · have d:((ss.length:Int)==(n:Int))=false:=by simp;omega
   have HNL:=xH hnl;clear hnl
   go_enter Tryz.func106,Tryz.ntmps106
   go_wp2_with (go_at_call 87;refine (treeWant_no _).mono ?_;rintro e w' ⟨rfl,rfl⟩)
   exact ⟨rfl,Or.inr ⟨fun h=>xU HNL h.1,rfl⟩,xU HBX _⟩
end Go.Proofs.YteefjeddboefcaaGreatDoor

namespace Go.Proofs.YteefjeddboefcaaGreatDoor
open Go Go.RowKit
mutual
def wlk:Tr→Int→Int→Option Int
 | .mk s n tx ns ks,p,l =>
   if p+1≤120∧l+1≤6 then
    if ownB (.mk s n tx ns ks)=true then
     match wlkK ks (p+1) (l+1) with
     | none=>none
     | some q=>if newB (.mk s n tx ns ks)=true then some q else none
    else none
   else none
def wlkK:List Tr→Int→Int→Option Int
 | [],p,_=>some p
 | t::r,p,l=>match wlk t p l with
   | none=>none
   | some q=>wlkK r q l
end
theorem wlk_eq (t:Tr) (p l:Int):wlk t p l=if p+1≤120∧l+1≤6 then
 if ownB t=true then
  match wlkK t.kids (p+1) (l+1) with
  | none=>none
  | some q=>if newB t=true then some q else none
 else none
 else none:=by
 obtain ⟨s,n,tx,ns,ks⟩:=t
 rw [wlk];rfl
def onto (p k:Int):Option Int:=if k < 0∨120 < p+k then none else some (p+k)
mutual
theorem wlk_is:∀ (t:Tr) (p l:Int),0≤p→p≤120→wlk t p l=onto p (pT t (l+1))
 | .mk s n tx ns ks,p,l=>by
   intro hp hp1
   rw [wlk,pT]
   by_cases h:p+1≤120∧l+1≤6
   · rw [if_pos h]
     rw [alone_eq]
     by_cases ho:ownB (.mk s n tx ns ks)=true
     · rw [if_pos ho,ho,wlkK_is ks (p+1) (l+1) 1 (by omega) (by omega) (by omega)]
       have hbd:=pK_bd ks (l+1) 1 (by omega) (by omega)
       generalize pK ks (l+1) 1=r at hbd
       by_cases hn:newB (.mk s n tx ns ks)=true
       · rw [hn]
         simp only [Bool.and_self,Bool.true_eq_false,or_false]
         rw [if_neg (by omega)]
         unfold onto
         by_cases hx:r < 0∨120 < p+r
         · rw [if_pos (by omega),if_pos hx]
         · rw [if_neg (by omega),if_neg hx]
           simp
       · have hn':newB (.mk s n tx ns ks)=false:=by simpa using hn
         rw [hn']
         simp only [Bool.and_false,or_true,if_true]
         have:onto p (-1)=none:=by unfold onto;rw [if_pos (by omega)]
         rw [this]
         unfold onto
         split <;> rfl
     · have ho':ownB (.mk s n tx ns ks)=false:=by simpa using ho
       rw [if_neg ho,ho']
       simp only [Bool.false_and,or_true,if_true]
       unfold onto;rw [if_pos (by omega)]
   · rw [if_neg h]
     unfold onto
     by_cases h6:6 < l+1
     · rw [if_pos (Or.inl h6),if_pos (by omega)]
     · split
       · rw [if_pos (by omega)]
       · have hbd:=pK_bd ks (l+1) 1 (by omega) (by omega)
         rw [if_pos (by omega)]
theorem wlkK_is:∀ (ks:List Tr) (p l n:Int),1≤n→n≤p→p≤120→wlkK ks p l=onto (p - n) (pK ks l n)
 | [],p,l,n=>by
   intro h1 h2 h3
   rw [wlkK,pK]
   unfold onto
   rw [if_neg (by omega)]
   congr 1;omega
 | t::r,p,l,n=>by
   intro h1 h2 h3
   rw [wlkK,pK,wlk_is t p l (by omega) h3]
   have hbd:=pT_bd t (l+1)
   generalize pT t (l+1)=k at hbd
   by_cases hx:k < 0∨120 < p+k
   · have:onto p k=none:=by unfold onto;rw [if_pos hx]
     rw [this]
     simp only
     by_cases hy:k < 0∨120 < n+k
     · rw [if_pos hy];unfold onto;rw [if_pos (by omega)]
     · rw [if_neg hy]
       have hbd2:=pK_bd r l (n+k) (by omega) (by omega)
       have hge:=pK_ge r l (n+k)
       unfold onto;rw [if_pos (by omega)]
   · have:onto p k=some (p+k):=by unfold onto;rw [if_neg hx]
     rw [this]
     simp only
     rw [wlkK_is r (p+k) l (n+k) (by omega) (by omega) (by omega),if_neg (by omega),show p+k - (n+k)=p - n from by omega]
theorem pK_ge:∀ (ks:List Tr) (l n:Int),pK ks l n=-1∨n≤pK ks l n
 | [],l,n=>by rw [pK];exact Or.inr (Int.le_refl _)
 | t::r,l,n=>by
   rw [pK]
   split
   · exact Or.inl rfl
   · have:=pK_ge r l (n+pT t (l+1));omega
end
theorem wlk_start (t:Tr):wlk t 0 0=if pT t 1 < 0 then none else some (pT t 1):=by
 rw [wlk_is t 0 0 (by omega) (by omega)]
 have hbd:=pT_bd t 1
 unfold onto
 rw [show (0:Int)+1=1 from rfl]
 by_cases h:pT t 1 < 0
 · rw [if_pos (Or.inl h),if_pos h]
 · rw [if_neg (by omega),if_neg h];simp
theorem wlk_bd (t:Tr) (p l q:Int) (hp:0≤p) (hp1:p≤120) (h:wlk t p l=some q):p+1≤q∧q≤120:=by
 rw [wlk_is t p l hp hp1] at h
 have hbd:=pT_bd t (l+1)
 unfold onto at h
 split at h
 · cases h
 · simp only [Option.some.injEq] at h;omega
theorem wlkK_step {ks:List Tr} {k:Nat} (hk:k < ks.length) (p l:Int):wlkK (ks.drop k) p l=match wlk ks[k] p l with
 | none=>none
 | some q=>wlkK (ks.drop (k+1)) q l:=by
 rw [List.drop_eq_getElem_cons hk,wlkK]
end Go.Proofs.YteefjeddboefcaaGreatDoor

namespace Go.Proofs.YteefjeddboefcaaGreatDoor
open Go Go.RowKit
mutual
def SRep (Q:Nat→Prop) (w:World):Tr→Value→Prop
 | .mk s n tx ns ks,v =>
   (s=1∧v=.iface 173 (.int .i64 n)) ∨
   (s=2∧v=.iface 175 (.string tx)) ∨
   (s=3∧v=.iface 177 (.bool (n==1))) ∨
   (s=4∧∃ a cap,v=.iface 180 (.slice a ks.length cap)∧(ks≠[]→∃ b,a=some ⟨b,0,none⟩∧Q b∧SRepK Q w b 0 ks)) ∨
   (s=5∧∃ v3 a cap,v=.iface 184 (.agg #[v3,.slice a ks.length cap])∧StrsAt Q w v3 ns∧(ks≠[]→∃ b,a=some ⟨b,0,none⟩∧Q b∧SRepK Q w b 0 ks)) ∨
   (s=6∧∃ a cap,v=.iface 186 (.slice a ks.length cap)∧(ks≠[]→∃ b,a=some ⟨b,0,none⟩∧Q b∧SRepK Q w b 0 ks))
def SRepK (Q:Nat→Prop) (w:World) (b:Nat) (o:Nat):List Tr→Prop
 | []=>True
 | t::r=>(∃ x,w.cell? ⟨b,o,none⟩=some x∧SRep Q w t x)∧SRepK Q w b (o+1) r
end
theorem SRepK.mk {Q:Nat→Prop} {w:World} {b o:Nat} {ks:List Tr} (h:∀ i,(hi:i < ks.length)→∃ x,w.cell? ⟨b,o+i,none⟩=some x∧SRep Q w ks[i] x):SRepK Q w b o ks:=by
 induction ks generalizing o with
 | nil=>rw [SRepK];trivial
 | cons t r ih =>
   rw [SRepK]
   refine ⟨h 0 (by simp),ih fun i hi=>?_⟩
   obtain ⟨c,h1,h2⟩:=h (i+1) (by simpa using hi)
   exact ⟨c,by rw [show o+1+i=o+(i+1) from by omega];exact h1,h2⟩
mutual
theorem SRep.carry {P Q:Nat→Prop} {w w':World} (hP:∀ b,P b→w'.heap[b]? = w.heap[b]?) (hQ:∀ b,P b→Q b):∀ (t:Tr) (v:Value),SRep P w t v→SRep Q w' t v
 | .mk s n tx ns ks,v=>by
   intro h
   rw [SRep] at h ⊢
   rcases h with h | h | h | ⟨hs,a,cap,h1,h2⟩ | ⟨hs,v3,a,cap,h1,h3,h2⟩ | ⟨hs,a,cap,h1,h2⟩
   · exact Or.inl h
   · exact Or.inr (Or.inl h)
   · exact Or.inr (Or.inr (Or.inl h))
   · refine Or.inr (Or.inr (Or.inr (Or.inl ⟨hs,a,cap,h1,fun hk=>?_⟩)))
     obtain ⟨b,e,p,hr⟩:=h2 hk
     exact ⟨b,e,hQ b p,SRepK.carry hP hQ b 0 (hP b p) ks hr⟩
   · refine Or.inr (Or.inr (Or.inr (Or.inr (Or.inl ⟨hs,v3,a,cap,h1,h3.carry hP hQ,fun hk=>?_⟩))))
     obtain ⟨b,e,p,hr⟩:=h2 hk
     exact ⟨b,e,hQ b p,SRepK.carry hP hQ b 0 (hP b p) ks hr⟩
   · refine Or.inr (Or.inr (Or.inr (Or.inr (Or.inr ⟨hs,a,cap,h1,fun hk=>?_⟩))))
     obtain ⟨b,e,p,hr⟩:=h2 hk
     exact ⟨b,e,hQ b p,SRepK.carry hP hQ b 0 (hP b p) ks hr⟩
theorem SRepK.carry {P Q:Nat→Prop} {w w':World} (hP:∀ b,P b→w'.heap[b]? = w.heap[b]?) (hQ:∀ b,P b→Q b) (b:Nat) (o:Nat) (hb:w'.heap[b]? = w.heap[b]?):∀ (ks:List Tr),SRepK P w b o ks→SRepK Q w' b o ks
 | []=>by intro _;rw [SRepK];trivial
 | t::r=>by
   intro h
   rw [SRepK] at h ⊢
   obtain ⟨⟨c,h1,h2⟩,h3⟩:=h
   exact ⟨⟨c,by rw [World.cell?_of_block (w:=w) hb];exact h1,SRep.carry hP hQ t c h2⟩,SRepK.carry hP hQ b (o+1) hb r h3⟩
end
theorem SRep.iface {Q:Nat→Prop} {w:World} {t:Tr} {v:Value} (h:SRep Q w t v):∃ T x,v=.iface T x:=by
 obtain ⟨s,n,tx,ns,ks⟩:=t
 rw [SRep] at h
 rcases h with h | h | h | ⟨hs,a,cap,h1,h2⟩ | ⟨hs,v3,a,cap,h1,h3,h2⟩ | ⟨hs,a,cap,h1,h2⟩
 · exact ⟨_,_,h.2⟩
 · exact ⟨_,_,h.2⟩
 · exact ⟨_,_,h.2⟩
 · exact ⟨_,_,h1⟩
 · exact ⟨_,_,h1⟩
 · exact ⟨_,_,h1⟩
def SKids (Q:Nat→Prop) (w:World) (v:Value) (ks:List Tr):Prop :=
 ∃ a cap,v=.slice a ks.length cap∧(ks≠[]→∃ b,a=some ⟨b,0,none⟩∧Q b∧SRepK Q w b 0 ks)
theorem SKids.carry {P Q:Nat→Prop} {w w':World} {v:Value} {ks:List Tr} (h:SKids P w v ks) (hP:∀ b,P b→w'.heap[b]? = w.heap[b]?) (hQ:∀ b,P b→Q b):SKids Q w' v ks:=by
 obtain ⟨a,cap,h1,h2⟩:=h
 refine ⟨a,cap,h1,fun hk=>?_⟩
 obtain ⟨b,e,p,hr⟩:=h2 hk
 exact ⟨b,e,hQ b p,SRepK.carry hP hQ b 0 (hP b p) ks hr⟩
theorem Bnd.below {w w':World} {B:Nat} {p l:Int} (h:Bnd w B p l) (hb:Below w.heap.size w w'):Bnd w' B p l:=h.of_block (hb.block B h.lt)
theorem Bnd.alloc {w:World} {B:Nat} {p l:Int} (h:Bnd w B p l) (o:Obj):Bnd (w.alloc o) B p l:=h.of_block (Below.heap_alloc _ _ _ h.lt)
theorem Bnd.set2 {w:World} {B:Nat} {p l:Int} (h:Bnd w B p l) (p' l':Int):Bnd ((w.setCell ⟨B,0,none⟩ (.int .i64 p')).setCell ⟨B,1,none⟩ (.int .i64 l')) B p' l':=by
 obtain ⟨c0,c1,f0,f1⟩:=h
 exact ⟨by simp [go_sem,c0],by simp [go_sem,c1],by simp [go_sem,f0],by simp [go_sem,f1]⟩
theorem Bnd.set1 {w:World} {B:Nat} {p l:Int} (h:Bnd w B p l) (l':Int):Bnd (w.setCell ⟨B,1,none⟩ (.int .i64 l')) B p l':=by
 obtain ⟨c0,c1,f0,f1⟩:=h
 exact ⟨by simp [go_sem,c0],by simp [go_sem,c1],by simp [go_sem,f0],by simp [go_sem,f1]⟩
def Got (P:Nat→Prop) (w wr:World) (v:Value) (ks:List Tr) (k:Nat):Prop :=
 ∃ xs,wr.ownsRow w.heap.size 82 1 v k xs∧∀ i,i < k→(hi:i < ks.length)→∃ x,xs[i]? = some x∧SRep (fun b=>P b∨(w.heap.size≤b∧b < wr.heap.size∧some b≠v.ownBlock)) wr ks[i] x
theorem Got.start (P:Nat→Prop) (w:World) (ks:List Tr):Got P w w (.slice none 0 0) ks 0 :=
 ⟨[],World.ownsRow_nil _ _ _ _,fun i hi=>by omega⟩
theorem Got.kept {P:Nat→Prop} {w wr wr':World} {v:Value} {ks:List Tr} {k:Nat} {B:Nat} (hP:∀ b,P b→b < w.heap.size∧b≠B) (hBw:B < w.heap.size) (hw:w.heap.size≤wr.heap.size) (h:Got P w wr v ks k) (hb:But B wr wr'):Got P w wr' v ks k:=by
 obtain ⟨xs,hown,hx⟩:=h
 have hne:v.ownBlock≠some B:=fun e=>by have:=(hown.lt B e).1;omega
 refine ⟨xs,hown.kept hb (Or.inr hne),fun i hi hil=>?_⟩
 obtain ⟨x,h1,h2⟩:=hx i hi hil
 refine ⟨x,h1,SRep.carry (fun b hb'=>?_) (fun b hb'=>?_) _ _ h2⟩
 · rcases hb' with hp | ⟨hp1,hp2,_⟩
   · have:=hP b hp;exact hb.at (by omega) this.2
   · exact hb.at hp2 (by omega)
 · rcases hb' with hp | ⟨hp1,hp2,hp3⟩
   · exact Or.inl hp
   · exact Or.inr ⟨hp1,Nat.lt_of_lt_of_le hp2 hb.size,hp3⟩
theorem Got.push {P:Nat→Prop} {w w2 w3 w4:World} {v v' x:Value} {ks:List Tr} {k:Nat} {xs:List Value} {B:Nat} (hP:∀ b,P b→b < w.heap.size∧b≠B) (hlt:k < ks.length) (hw:w.heap.size≤w2.heap.size)
 (hown:w2.ownsRow w.heap.size 82 1 v k xs) (hx:∀ i,i < k→(hi:i < ks.length)→∃ x,xs[i]? = some x∧SRep (fun b=>P b∨(w.heap.size≤b∧b < w2.heap.size∧some b≠v.ownBlock)) w2 ks[i] x)
 (hnew:SRep (fun b=>P b∨(w.heap.size≤b∧b < w2.heap.size∧some b≠v.ownBlock)) w2 ks[k] x)
 (hb3:Below w2.heap.size w2 w3)
 (hown':w4.ownsRow w.heap.size 82 1 v' (k+1) (xs++[x])) (hg:w3.grownBy w4 v.ownBlock) (hv':v'.ownBlock=v.ownBlock∨∃ g,v'.ownBlock=some g∧w3.heap.size≤g):Got P w w4 v' ks (k+1):=by
 have hxl:xs.length=k:=by have:=hown.1;omega
 have hcarry:∀ (t:Tr) (y:Value),SRep (fun b=>P b∨(w.heap.size≤b∧b < w2.heap.size∧some b≠v.ownBlock)) w2 t y→SRep (fun b=>P b∨(w.heap.size≤b∧b < w4.heap.size∧some b≠v'.ownBlock)) w4 t y:=fun t y h=>by
  have s3:=hb3.size;have s4:=hg.size
  refine SRep.carry (fun b hb'=>?_) (fun b hb'=>?_) _ _ h
  · have hb2:b < w2.heap.size:=by
     rcases hb' with hp | ⟨_,hp2,_⟩
     · have:=hP b hp;omega
     · exact hp2
    rw [hg.block b (by omega) ?_,hb3.block b hb2]
    rcases hb' with hp | ⟨_,_,hp3⟩
    · intro e;have:=(hown.lt b e.symm).1;have:=(hP b hp).1;omega
    · exact hp3
  · rcases hb' with hp | ⟨hp1,hp2,hp3⟩
    · exact Or.inl hp
    · refine Or.inr ⟨hp1,by omega,?_⟩
      rcases hv' with e | ⟨g,e,hge⟩
      · rw [e];exact hp3
      · rw [e];intro e2;simp only [Option.some.injEq] at e2;omega
 refine ⟨xs++[x],hown',fun i hi hil=>?_⟩
 by_cases e:i=k
 · subst e
   exact ⟨x,by rw [← hxl];simp,hcarry _ _ hnew⟩
 · obtain ⟨y,h1,h2⟩:=hx i (by omega) hil
   exact ⟨y,by rw [List.getElem?_append_left (by omega)];exact h1,hcarry _ _ h2⟩
theorem Got.done {P:Nat→Prop} {w wr:World} {v:Value} {ks:List Tr} (h:Got P w wr v ks ks.length):SKids (fun b=>P b∨(w.heap.size≤b∧b < wr.heap.size)) wr v ks:=by
 obtain ⟨xs,hown,hx⟩:=h
 rcases hown.2 with ⟨hv,hn0⟩ | ⟨g,cap,cur,hv,hgb,hh,hle,hm2,hsz,htk⟩
 · refine ⟨none,0,by rw [hv,hn0],fun hk=>?_⟩
   exact absurd (List.eq_nil_of_length_eq_zero hn0) hk
 · refine ⟨some ⟨g,0,none⟩,cap,hv,fun _=>⟨g,rfl,Or.inr ⟨hgb,(Array.getElem?_eq_some_iff.1 hh).1⟩,SRepK.mk fun i hi=>?_⟩⟩
   obtain ⟨x,h1,h2⟩:=hx i hi hi
   refine ⟨x,?_,SRep.carry (fun _ _=>rfl) (fun b hb=>?_) _ _ h2⟩
   · have hj':cur.toList[i]? = some x:=by
      rw [← htk] at h1
      rw [List.getElem?_take] at h1
      split at h1
      · exact h1
      · cases h1
     simp only [Nat.zero_add,World.cell?, hh]
     simpa using hj'
   · rcases hb with hp | ⟨hp1,hp2,_⟩
     · exact Or.inl hp
     · exact Or.inr ⟨hp1,hp2⟩
theorem srep1 {Q:Nat→Prop} {w:World} {t:Tr} (h:t.sort=1):SRep Q w t (.iface 173 (.int .i64 t.num)):=by
 obtain ⟨s,n,tx,ns,ks⟩:=t;rw [SRep];exact Or.inl ⟨h,rfl⟩
theorem srep2 {Q:Nat→Prop} {w:World} {t:Tr} (h:t.sort=2):SRep Q w t (.iface 175 (.string t.text)):=by
 obtain ⟨s,n,tx,ns,ks⟩:=t;rw [SRep];exact Or.inr (Or.inl ⟨h,rfl⟩)
theorem srep3 {Q:Nat→Prop} {w:World} {t:Tr} (h:t.sort=3):SRep Q w t (.iface 177 (.bool (t.num==1))):=by
 obtain ⟨s,n,tx,ns,ks⟩:=t;rw [SRep];exact Or.inr (Or.inr (Or.inl ⟨h,rfl⟩))
theorem srep4 {Q:Nat→Prop} {w:World} {t:Tr} {v:Value} (h:t.sort=4) (hk:SKids Q w v t.kids):SRep Q w t (.iface 180 v):=by
 obtain ⟨s,n,tx,ns,ks⟩:=t;obtain ⟨a,cap,rfl,hk⟩:=hk;rw [SRep];exact Or.inr (Or.inr (Or.inr (Or.inl ⟨h,a,cap,rfl,hk⟩)))
theorem srep5 {Q:Nat→Prop} {w:World} {t:Tr} {v v3:Value} (h:t.sort=5) (h3:StrsAt Q w v3 t.names) (hk:SKids Q w v t.kids):SRep Q w t (.iface 184 (.agg #[v3,v])):=by
 obtain ⟨s,n,tx,ns,ks⟩:=t;obtain ⟨a,cap,rfl,hk⟩:=hk;rw [SRep];exact Or.inr (Or.inr (Or.inr (Or.inr (Or.inl ⟨h,v3,a,cap,rfl,h3,hk⟩))))
theorem srep6 {Q:Nat→Prop} {w:World} {t:Tr} {v:Value} (h:t.sort=6) (hk:SKids Q w v t.kids):SRep Q w t (.iface 186 v):=by
 obtain ⟨s,n,tx,ns,ks⟩:=t;obtain ⟨a,cap,rfl,hk⟩:=hk;rw [SRep];exact Or.inr (Or.inr (Or.inr (Or.inr (Or.inr ⟨h,a,cap,rfl,hk⟩))))
end Go.Proofs.YteefjeddboefcaaGreatDoor

namespace Go.Proofs.YteefjeddboefcaaGreatDoor
open Go Go.RowKit
def tbl:List Bool:=[false,false,false,false,true,false,false,false,false,true,false,false,true,false,false,false,false,false,false,true,false,false,true,true,false,false,false,true]
def Tab (w:World):Prop:=∀ i,i < 28→w.cell? ⟨1,i,none⟩=some (.bool (tbl.getD i false))
theorem own_1 (t:Tr) (P:Nat→Prop) (c:C5) (w:World) (hrep:Rep P w t c) (hT:Tab w) (hw:1 < w.heap.size) (hs:t.sort=1) :
 Calls Tryz.prog 88 #[.agg #[c.c0,c.c1,c.c2,c.c3,c.c4]] w fun e w'=>e=.returned (.bool (ownB t))∧Below w.heap.size w w':=by
 obtain ⟨c0,c1,c2,c3,c4⟩:=c
 obtain ⟨e0,e1,e2,-,-,htx,⟨a3,cap3,e3,hl3,-⟩,a,cap,e4,hlen,-⟩:=hrep.open
 simp only at e0 e1 e2 e3 e4
 subst e0 e1 e2 e3 e4
 clear hrep
 have hbx:∀ o,Below w.heap.size w (w.alloc o):=fun o=>(Below.refl _ _).alloc (Nat.le_refl _) o
 have hbx2:∀ o o2,Below w.heap.size w ((w.alloc o).alloc o2):=fun o o2=>((Below.refl _ _).alloc (Nat.le_refl _) o).alloc (by simp) o2
 have HBX:=xH hbx;have HBX2:=xH hbx2;clear hbx hbx2
 have g0:=hT 4 (by omega);have g1:=hT 5 (by omega);have g2:=hT 6 (by omega);have g3:=hT 7 (by omega)
 simp only [tbl,List.getD_cons_succ,List.getD_cons_zero] at g0 g1 g2 g3
 clear hT
 go_enter Tryz.func88,Tryz.ntmps88
 go_wp2_with fail
 all_goals
  go_ret
  refine ⟨ret_bool ?_,by first | exact xU HBX2 _ _ | exact xU HBX _⟩
  try simp_all [ownB]
 all_goals first | (rw [Bool.eq_iff_iff];simp;done) | (intros;omega)
theorem own_2 (t:Tr) (P:Nat→Prop) (c:C5) (w:World) (hrep:Rep P w t c) (hT:Tab w) (hw:1 < w.heap.size) (hs:t.sort=2) :
 Calls Tryz.prog 88 #[.agg #[c.c0,c.c1,c.c2,c.c3,c.c4]] w fun e w'=>e=.returned (.bool (ownB t))∧Below w.heap.size w w':=by
 obtain ⟨c0,c1,c2,c3,c4⟩:=c
 obtain ⟨e0,e1,e2,-,-,htx,⟨a3,cap3,e3,hl3,-⟩,a,cap,e4,hlen,-⟩:=hrep.open
 simp only at e0 e1 e2 e3 e4
 subst e0 e1 e2 e3 e4
 clear hrep
 have hbx:∀ o,Below w.heap.size w (w.alloc o):=fun o=>(Below.refl _ _).alloc (Nat.le_refl _) o
 have hbx2:∀ o o2,Below w.heap.size w ((w.alloc o).alloc o2):=fun o o2=>((Below.refl _ _).alloc (Nat.le_refl _) o).alloc (by simp) o2
 have HBX:=xH hbx;have HBX2:=xH hbx2;clear hbx hbx2
 have g0:=hT 8 (by omega);have g1:=hT 9 (by omega);have g2:=hT 10 (by omega);have g3:=hT 11 (by omega)
 simp only [tbl,List.getD_cons_succ,List.getD_cons_zero] at g0 g1 g2 g3
 clear hT
 go_enter Tryz.func88,Tryz.ntmps88
 go_wp2_with fail
 all_goals
  go_ret
  refine ⟨ret_bool ?_,by first | exact xU HBX2 _ _ | exact xU HBX _⟩
  try simp_all [ownB]
 all_goals first | (rw [Bool.eq_iff_iff];simp;done) | (intros;omega)
theorem own_3 (t:Tr) (P:Nat→Prop) (c:C5) (w:World) (hrep:Rep P w t c) (hT:Tab w) (hw:1 < w.heap.size) (hs:t.sort=3) :
 Calls Tryz.prog 88 #[.agg #[c.c0,c.c1,c.c2,c.c3,c.c4]] w fun e w'=>e=.returned (.bool (ownB t))∧Below w.heap.size w w':=by
 obtain ⟨c0,c1,c2,c3,c4⟩:=c
 obtain ⟨e0,e1,e2,-,-,htx,⟨a3,cap3,e3,hl3,-⟩,a,cap,e4,hlen,-⟩:=hrep.open
 simp only at e0 e1 e2 e3 e4
 subst e0 e1 e2 e3 e4
 clear hrep
 have hbx:∀ o,Below w.heap.size w (w.alloc o):=fun o=>(Below.refl _ _).alloc (Nat.le_refl _) o
 have hbx2:∀ o o2,Below w.heap.size w ((w.alloc o).alloc o2):=fun o o2=>((Below.refl _ _).alloc (Nat.le_refl _) o).alloc (by simp) o2
 have HBX:=xH hbx;have HBX2:=xH hbx2;clear hbx hbx2
 have g0:=hT 12 (by omega);have g1:=hT 13 (by omega);have g2:=hT 14 (by omega);have g3:=hT 15 (by omega)
 simp only [tbl,List.getD_cons_succ,List.getD_cons_zero] at g0 g1 g2 g3
 clear hT
 go_enter Tryz.func88,Tryz.ntmps88
 go_wp2_with fail
 all_goals
  go_ret
  refine ⟨ret_bool ?_,by first | exact xU HBX2 _ _ | exact xU HBX _⟩
  try simp_all [ownB]
 all_goals first | (rw [Bool.eq_iff_iff];simp;done) | (intros;omega)
theorem own_4 (t:Tr) (P:Nat→Prop) (c:C5) (w:World) (hrep:Rep P w t c) (hT:Tab w) (hw:1 < w.heap.size) (hs:t.sort=4) :
 Calls Tryz.prog 88 #[.agg #[c.c0,c.c1,c.c2,c.c3,c.c4]] w fun e w'=>e=.returned (.bool (ownB t))∧Below w.heap.size w w':=by
 obtain ⟨c0,c1,c2,c3,c4⟩:=c
 obtain ⟨e0,e1,e2,-,-,htx,⟨a3,cap3,e3,hl3,-⟩,a,cap,e4,hlen,-⟩:=hrep.open
 simp only at e0 e1 e2 e3 e4
 subst e0 e1 e2 e3 e4
 clear hrep
 have hbx:∀ o,Below w.heap.size w (w.alloc o):=fun o=>(Below.refl _ _).alloc (Nat.le_refl _) o
 have hbx2:∀ o o2,Below w.heap.size w ((w.alloc o).alloc o2):=fun o o2=>((Below.refl _ _).alloc (Nat.le_refl _) o).alloc (by simp) o2
 have HBX:=xH hbx;have HBX2:=xH hbx2;clear hbx hbx2
 have g0:=hT 16 (by omega);have g1:=hT 17 (by omega);have g2:=hT 18 (by omega);have g3:=hT 19 (by omega)
 simp only [tbl,List.getD_cons_succ,List.getD_cons_zero] at g0 g1 g2 g3
 clear hT
 go_enter Tryz.func88,Tryz.ntmps88
 go_wp2_with fail
 all_goals
  go_ret
  refine ⟨ret_bool ?_,by first | exact xU HBX2 _ _ | exact xU HBX _⟩
  try simp_all [ownB]
 all_goals first | (rw [Bool.eq_iff_iff];simp;done) | (intros;omega)
theorem own_5 (t:Tr) (P:Nat→Prop) (c:C5) (w:World) (hrep:Rep P w t c) (hT:Tab w) (hw:1 < w.heap.size) (hs:t.sort=5) :
 Calls Tryz.prog 88 #[.agg #[c.c0,c.c1,c.c2,c.c3,c.c4]] w fun e w'=>e=.returned (.bool (ownB t))∧Below w.heap.size w w':=by
 obtain ⟨c0,c1,c2,c3,c4⟩:=c
 obtain ⟨e0,e1,e2,-,-,htx,⟨a3,cap3,e3,hl3,-⟩,a,cap,e4,hlen,-⟩:=hrep.open
 simp only at e0 e1 e2 e3 e4
 subst e0 e1 e2 e3 e4
 clear hrep
 have hbx:∀ o,Below w.heap.size w (w.alloc o):=fun o=>(Below.refl _ _).alloc (Nat.le_refl _) o
 have hbx2:∀ o o2,Below w.heap.size w ((w.alloc o).alloc o2):=fun o o2=>((Below.refl _ _).alloc (Nat.le_refl _) o).alloc (by simp) o2
 have HBX:=xH hbx;have HBX2:=xH hbx2;clear hbx hbx2
 have g0:=hT 20 (by omega);have g1:=hT 21 (by omega);have g2:=hT 22 (by omega);have g3:=hT 23 (by omega)
 simp only [tbl,List.getD_cons_succ,List.getD_cons_zero] at g0 g1 g2 g3
 clear hT
 go_enter Tryz.func88,Tryz.ntmps88
 go_wp2_with fail
 all_goals
  go_ret
  refine ⟨ret_bool ?_,by first | exact xU HBX2 _ _ | exact xU HBX _⟩
  try simp_all [ownB]
 all_goals first | (rw [Bool.eq_iff_iff];simp;done) | (intros;omega)
theorem own_6 (t:Tr) (P:Nat→Prop) (c:C5) (w:World) (hrep:Rep P w t c) (hT:Tab w) (hw:1 < w.heap.size) (hs:t.sort=6) :
 Calls Tryz.prog 88 #[.agg #[c.c0,c.c1,c.c2,c.c3,c.c4]] w fun e w'=>e=.returned (.bool (ownB t))∧Below w.heap.size w w':=by
 obtain ⟨c0,c1,c2,c3,c4⟩:=c
 obtain ⟨e0,e1,e2,-,-,htx,⟨a3,cap3,e3,hl3,-⟩,a,cap,e4,hlen,-⟩:=hrep.open
 simp only at e0 e1 e2 e3 e4
 subst e0 e1 e2 e3 e4
 clear hrep
 have hbx:∀ o,Below w.heap.size w (w.alloc o):=fun o=>(Below.refl _ _).alloc (Nat.le_refl _) o
 have hbx2:∀ o o2,Below w.heap.size w ((w.alloc o).alloc o2):=fun o o2=>((Below.refl _ _).alloc (Nat.le_refl _) o).alloc (by simp) o2
 have HBX:=xH hbx;have HBX2:=xH hbx2;clear hbx hbx2
 have g0:=hT 24 (by omega);have g1:=hT 25 (by omega);have g2:=hT 26 (by omega);have g3:=hT 27 (by omega)
 simp only [tbl,List.getD_cons_succ,List.getD_cons_zero] at g0 g1 g2 g3
 clear hT
 go_enter Tryz.func88,Tryz.ntmps88
 go_wp2_with fail
 all_goals
  go_ret
  refine ⟨ret_bool ?_,by first | exact xU HBX2 _ _ | exact xU HBX _⟩
  try simp_all [ownB]
 all_goals first | (rw [Bool.eq_iff_iff];simp;done) | (intros;omega)
theorem own_out {t:Tr} (h:t.sort < 1∨6 < t.sort):ownB t=false:=by
 unfold ownB
 rw [if_neg (by omega),if_neg (by omega),if_neg (by omega),if_neg (by omega),if_neg (by omega),if_neg (by omega)]
theorem own_lo (t:Tr) (P:Nat→Prop) (c:C5) (w:World) (hrep:Rep P w t c) (hs:t.sort < 1) :
 Calls Tryz.prog 88 #[.agg #[c.c0,c.c1,c.c2,c.c3,c.c4]] w fun e w'=>e=.returned (.bool (ownB t))∧Below w.heap.size w w':=by
 obtain ⟨c0,c1,c2,c3,c4⟩:=c
 obtain ⟨e0,e1,e2,-,-,htx,⟨a3,cap3,e3,hl3,-⟩,a,cap,e4,hlen,-⟩:=hrep.open
 simp only at e0 e1 e2 e3 e4
 subst e0 e1 e2 e3 e4
 clear hrep
 have hbx:∀ o,Below w.heap.size w (w.alloc o):=fun o=>(Below.refl _ _).alloc (Nat.le_refl _) o
 have HBX:=xH hbx;clear hbx
 have HO:=xH (own_out (Or.inl hs))
 go_enter Tryz.func88,Tryz.ntmps88
 go_wp2_with fail
 all_goals
  go_ret
  exact ⟨ret_bool (xU HO).symm,xU HBX _⟩
theorem own_hi (t:Tr) (P:Nat→Prop) (c:C5) (w:World) (hrep:Rep P w t c) (hs:6 < t.sort) :
 Calls Tryz.prog 88 #[.agg #[c.c0,c.c1,c.c2,c.c3,c.c4]] w fun e w'=>e=.returned (.bool (ownB t))∧Below w.heap.size w w':=by
 obtain ⟨c0,c1,c2,c3,c4⟩:=c
 obtain ⟨e0,e1,e2,-,-,htx,⟨a3,cap3,e3,hl3,-⟩,a,cap,e4,hlen,-⟩:=hrep.open
 simp only at e0 e1 e2 e3 e4
 subst e0 e1 e2 e3 e4
 clear hrep
 have hbx:∀ o,Below w.heap.size w (w.alloc o):=fun o=>(Below.refl _ _).alloc (Nat.le_refl _) o
 have HBX:=xH hbx;clear hbx
 have HO:=xH (own_out (Or.inr hs))
 go_enter Tryz.func88,Tryz.ntmps88
 go_wp2_with fail
 all_goals
  go_ret
  exact ⟨ret_bool (xU HO).symm,xU HBX _⟩
theorem own_any (t:Tr) (P:Nat→Prop) (c:C5) (w:World) (hrep:Rep P w t c) (hT:Tab w) (hw:1 < w.heap.size) :
 Calls Tryz.prog 88 #[.agg #[c.c0,c.c1,c.c2,c.c3,c.c4]] w fun e w'=>e=.returned (.bool (ownB t))∧Below w.heap.size w w':=by
 have h:t.sort < 1∨6 < t.sort∨t.sort=1∨t.sort=2∨t.sort=3∨t.sort=4∨t.sort=5∨t.sort=6:=by omega
 rcases h with h | h | h | h | h | h | h | h
 · exact own_lo t P c w hrep h
 · exact own_hi t P c w hrep h
 · exact own_1 t P c w hrep hT hw h
 · exact own_2 t P c w hrep hT hw h
 · exact own_3 t P c w hrep hT hw h
 · exact own_4 t P c w hrep hT hw h
 · exact own_5 t P c w hrep hT hw h
 · exact own_6 t P c w hrep hT hw h
end Go.Proofs.YteefjeddboefcaaGreatDoor

namespace Go.Proofs.YteefjeddboefcaaGreatDoor
open Go Go.RowKit
theorem Tab.lt {w:World} (h:Tab w):1 < w.heap.size:=World.block_lt_of_cell? w _ (h 0 (by omega))
theorem Tab.of_block {w w':World} (h:Tab w) (e:w'.heap[1]? = w.heap[1]?):Tab w':=fun i hi=>by
 rw [World.cell?_of_block (w:=w) (a:=⟨1,i,none⟩) e];exact h i hi
theorem Tab.but {w w':World} {B:Nat} (h:Tab w) (hb:But B w w') (hB:1 < B):Tab w':=h.of_block (hb.at h.lt (by omega))
end Go.Proofs.YteefjeddboefcaaGreatDoor
