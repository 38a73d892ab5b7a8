/- A part. -/
import Derived.Test.YteikmbkljkkjiaaSart12
namespace Go.Proofs.Yteikmbkljkkjiaa
open Go Go.RowKit
set_option maxRecDepth 100000
set_option maxHeartbeats 6400000
def RdIs (X:List UInt8):Option Pl→Prop
 | some l=>plOk l∧plT l=X
 | none=>∀ l,plOk l→plT l≠X
def RdEnd (w w':World) (e:Ending) (X:List UInt8):Prop :=
 (∃ l v,RdIs X (some l)∧e=.returned (.tuple #[.agg #[v,.int .i64 l.op,.int .i64 l.fi],.bool true])∧(∃ F,FlatOwn w' v 4 (l.parts.map Pt.cs) F∧∀ b,b∈F→w.heap.size≤b∧b < w'.heap.size)∧Below w.heap.size w w') ∨
 (RdIs X none∧e=.returned (.tuple #[.agg #[.slice none 0 0,.int .i64 0,.int .i64 0],.bool false])∧Below w.heap.size w w')
theorem lstR_loop (s:ByteArray) (n:Nat):∀ (i:Nat) (r:List UInt8),s.size - i=n→ByteArray.toList.loop s i r=r.reverse++s.data.toList.drop i:=by
 induction n with
 | zero =>
   intro i r h
   unfold ByteArray.toList.loop
   rw [if_neg (by omega),List.drop_eq_nil_of_le (by simp only [Array.length_toList];show s.size≤i;omega),List.append_nil]
 | succ n ih =>
   intro i r h
   unfold ByteArray.toList.loop
   have hi:i < s.size:=by omega
   have e:s.get! i=s.data.toList[i]'(by simpa using hi):=by
    obtain ⟨d⟩:=s
    exact getElem!_pos d i hi
   have hdrop:s.data.toList.drop i=s.data.toList[i]'(by simpa using hi)::s.data.toList.drop (i+1):=List.drop_eq_getElem_cons (by simpa using hi)
   rw [if_pos hi,ih (i+1) _ (by omega),hdrop,e,List.reverse_cons,List.append_assoc]
   rfl
theorem lstR_data (s:ByteArray):s.toList=s.data.toList:=by
 have:=lstR_loop s s.size 0 [] (by omega)
 rw [List.drop_zero] at this
 exact this
theorem ext5 {s:ByteArray} {i p:Nat} (h1:p≤i+5) (h2:i+5≤p):(s.extract i p).toList=(s.data.toList.drop i).take 5:=by
 rw [lstR_data,ext_list,show p - i=5 by omega]
theorem neq_str {a b:ByteArray}:((a.toList != b.toList)=true)↔a≠b:=by
 rw [lstR_data,lstR_data,bne_iff_ne]
 exact ⟨fun h e=>h (by rw [e]),fun h e=>h (ba_inj e)⟩
theorem list4 {l:List Int} (h:l.length=4):∃ a b c d,l=[a,b,c,d]:=by
 match l,h with
 | [a,b,c,d],_=>exact ⟨a,b,c,d,rfl⟩
theorem list2 {l:List Int} (h:l.length=2):∃ a b,l=[a,b]:=by
 match l,h with
 | [a,b],_=>exact ⟨a,b,rfl⟩
theorem rd_short {X:List UInt8} {j:Nat} (h1:∀ i,i < j→sealC X i) (h2:¬ sealC X j) (h3:¬ (sealI X j).2+5≤X.length):RdIs X none:=fun l hl e=>by
 subst e
 exact h3 (read_plT hl h1 h2).1
theorem rd_other {X:List UInt8} {s:ByteArray} (hs:s.data.toList=X) {j:Nat} (h1:∀ i,i < j→sealC X i) (h2:¬ sealC X j) (h3:plW (readP X j)≠s):RdIs X none:=fun l hl e=>by
 subst e
 rw [(read_plT hl h1 h2).2,plW_yes hl] at h3
 exact h3 (ba_inj (by rw [hs]))
theorem rd_same {X:List UInt8} {s:ByteArray} (hs:s.data.toList=X) (hne:0 < X.length) {P:Pl} (h:plW P=s):RdIs X (some P):=by
 by_cases hok:plOk P
 · refine ⟨hok,?_⟩
   rw [plW_yes hok] at h
   rw [← hs,← h]
 · rw [plW_no hok] at h
   rw [← hs,← h] at hne
   simp at hne
structure PrF (w W:World) (v:Value) (ps:List Pt) (y0 y1:Int) (F:List Nat):Prop where
 bel:Below w.heap.size w W
 b2:W.rowIs w.heap.size 115 3 (row3 (.slice none 0 0) (.int .i64 0) (.int .i64 0))
 b4:W.rowIs (w.heap.size+1) 115 3 (row3 v (.int .i64 y0) (.int .i64 y1))
 own:FlatOwn W v 4 (ps.map Pt.cs) F
 lt:∀ b,b∈F→w.heap.size+2≤b∧b < W.heap.size
theorem row3_rd1 {W:World} {g t:Nat} {x0 x1 x2:Value} (h:W.rowIs g t 3 (row3 x0 x1 x2)) (u:Value):(W.setCell ⟨g,1,none⟩ u).rowIs g t 3 (row3 x0 u x2) :=
 (h.set 1 u).congr (fun i hi=>by rcases (show i=0∨i=1∨i=2 by omega) with rfl | rfl | rfl <;> rfl)
theorem row3_rd2 {W:World} {g t:Nat} {x0 x1 x2:Value} (h:W.rowIs g t 3 (row3 x0 x1 x2)) (u:Value):(W.setCell ⟨g,2,none⟩ u).rowIs g t 3 (row3 x0 x1 u) :=
 (h.set 2 u).congr (fun i hi=>by rcases (show i=0∨i=1∨i=2 by omega) with rfl | rfl | rfl <;> rfl)
theorem Pr.fin {w W:World} {v:Value} {ps:List Pt} (h:Pr w W v ps) (y0 y1:Int):∃ F,PrF w ((W.setCell ⟨w.heap.size+1,1,none⟩ (.int .i64 y0)).setCell ⟨w.heap.size+1,2,none⟩ (.int .i64 y1)) v ps y0 y1 F:=by
 obtain ⟨F,h1,-,h3,-⟩:=FlatOwn.of_row (rs:=ps.map Pt.cs) (n:=4) (by rw [List.length_map];exact h.own) (fun r hr=>by obtain ⟨f,-,rfl⟩:=List.mem_map.1 hr;rfl)
 have hk:∀ b,b≠w.heap.size+1→((W.setCell ⟨w.heap.size+1,1,none⟩ (.int .i64 y0)).setCell ⟨w.heap.size+1,2,none⟩ (.int .i64 y1)).heap[b]? = W.heap[b]? := fun b hb=>by
  rw [Below.heap_setCell _ _ _ _ (by simp;omega),Below.heap_setCell _ _ _ _ (by simp;omega)]
 refine ⟨F,?_,h.b2.of_block (hk _ (by omega)),row3_rd2 (row3_rd1 h.b4 _) _,FlatOwn.carry h1 (fun b hb=>hk b (by have:=(h3 b hb).1;omega)),fun b hb=>?_⟩
 · exact (h.bel.setCell (by simp) _).setCell (by simp) _
 · rw [World.size_setCell,World.size_setCell];exact h3 b hb
theorem PrF.on {w W W':World} {v:Value} {ps:List Pt} {y0 y1:Int} {F:List Nat} (h:PrF w W v ps y0 y1 F) (hb:Below W.heap.size W W'):PrF w W' v ps y0 y1 F :=
 ⟨h.bel.trans (hb.mono h.bel.size),h.b2.of_block (hb.block _ h.b2.lt),h.b4.of_block (hb.block _ h.b4.lt),FlatOwn.carry h.own (fun b hF=>hb.block b (h.lt b hF).2),fun b hF=>⟨(h.lt b hF).1,Nat.lt_of_lt_of_le (h.lt b hF).2 hb.size⟩⟩
theorem PrF.sto {w W:World} {v:Value} {ps:List Pt} {y0 y1:Int} {F:List Nat} (h:PrF w W v ps y0 y1 F) (a b c:Value):Below w.heap.size w (((W.setCell ⟨w.heap.size,0,none⟩ a).setCell ⟨w.heap.size,1,none⟩ b).setCell ⟨w.heap.size,2,none⟩ c)∧(∃ F',FlatOwn (((W.setCell ⟨w.heap.size,0,none⟩ a).setCell ⟨w.heap.size,1,none⟩ b).setCell ⟨w.heap.size,2,none⟩ c) v 4 (ps.map Pt.cs) F'∧∀ x,x∈F'→w.heap.size≤x∧x < (((W.setCell ⟨w.heap.size,0,none⟩ a).setCell ⟨w.heap.size,1,none⟩ b).setCell ⟨w.heap.size,2,none⟩ c).heap.size):=by
 refine ⟨((h.bel.setCell (by simp) _).setCell (by simp) _).setCell (by simp) _,F,FlatOwn.carry h.own (fun x hx=>?_),fun x hx=>?_⟩
 · have:=(h.lt x hx).1
   rw [Below.heap_setCell _ _ _ _ (by simp;omega),Below.heap_setCell _ _ _ _ (by simp;omega),Below.heap_setCell _ _ _ _ (by simp;omega)]
 · have:=h.lt x hx
   simp only [World.size_setCell];omega
theorem specLogPlanRead_any (s:ByteArray) (w:World) (hs:s.size≤1048576) :
 Calls Try.prog 94 #[.string s] w fun e w'=>RdEnd w w' e s.data.toList:=by
 have hpr:Pr w ((w.alloc (.cells #[.slice none 0 0,.int .i64 0,.int .i64 0] 115)).alloc (.cells #[.slice none 0 0,.int .i64 0,.int .i64 0] 115)) (.slice none 0 0) []:=by
  refine ⟨((Below.refl _ _).alloc (Nat.le_refl _) _).alloc (by simp) _,(row3_alloc w _ _ _ _).alloc _,?_,⟨rfl,Or.inl ⟨rfl,rfl⟩⟩⟩
  have:=row3_alloc (w.alloc (.cells #[.slice none 0 0,.int .i64 0,.int .i64 0] 115)) (.slice none 0 0) (.int .i64 0) (.int .i64 0) 115
  rw [World.size_alloc] at this;exact this
 have HPR:=xH hpr
 clear hpr
 go_enter Try.func94,Try.ntmps94
 go_wp2_with fail
 go_loopw [5] (fun vi wr=>∃ (j:Nat) (a:Option Addr) (cap:Nat),j≤41∧vi=.int .i64 ((sealI s.data.toList j).2:Nat)∧Hid (∀ i,i < j→sealC s.data.toList i)∧Hid (Pr w wr (.slice a j cap) (sealI s.data.toList j).1)) (fun vi _=>s.size+100 - (intOf vi).toNat)
 case atStart=>exact ⟨0,none,0,by omega,rfl,fun i hi=>by omega,xU HPR⟩
 case round =>
  clear HPR
  obtain ⟨j,a,cap,hj,rfl,HSC,HP⟩:=hrel
  have hbd:=sealI_bd s.data.toList j
  have hb4:=HP.out.b4
  have k0:=hb4.cell (i:=0) (by omega)
  simp only [row3] at k0
  have hps:=HP.out.bel.size
  generalize hI:(sealI s.data.toList j).2=i at *
  have HI:=xH hI
  clear hI
  obtain ⟨p,hp⟩:∃ p:Nat,p=i+5:=⟨_,rfl⟩
  have hpi:(i:Int)+5=(p:Int):=by omega
  have hwp:IntKind.i64.wrap ((i:Int)+5)=(p:Int):=by rw [IntKind.wrap_i64];omega
  have hp1:p≤i+5:=by omega
  have hp2:i+5≤p:=by omega
  have HPI:=xH hpi
  clear hp hpi
  have hXl:s.data.toList.length=s.size:=by rw [Array.length_toList];rfl
  by_cases h5:p≤s.size
  · have h5i:(p:Int)≤(s.size:Int):=by omega
    have hip:(i:Int)≤(p:Int):=by omega
    have h0i:(0:Int)≤(i:Int):=by omega
    have hex:=ext5 (s:=s) hp1 hp2
    clear hb4
    by_cases hc:(s.extract i p).toList=[115,101,97,108,32]∧j≤40
    · have hsc:sealC s.data.toList j:=by
       unfold sealC
       rw [xU HI,← hex]
       exact ⟨by omega,hc.1,hc.2⟩
      have hbq:((s.extract i p).toList==[115,101,97,108,32])=true:=by rw [hc.1];rfl
      have hj40:decide ((j:Int)≤40)=true:=decide_eq_true (by omega)
      have HSC1:=xH (show ∀ k,k < j+1→sealC s.data.toList k from fun k hk=>by
       by_cases e:k=j
       · subst e;exact hsc
       · exact HSC.out k (by omega))
      have hj41:j+1≤41:=by omega
      have HN:=xH (l42Nums_any s p 4 wr hs (by omega) (by omega))
      have hp4:=HP.out.b4.lt
      obtain ⟨z0,z1,z2,z3,hz⟩:=list4 (numsI_len s.data.toList p 4)
      have hn2:=(numsI_bd s.data.toList p 4).2.1
      have hn1:=(numsI_bd s.data.toList p 4).1
      have HSI:=xH (show sealI s.data.toList (j+1)=((sealI s.data.toList j).1++[⟨z0,z1,z2,z3⟩],(numsI s.data.toList p 4).2) by
       have e:(sealI s.data.toList j).2+5=p:=by rw [xU HI];omega
       simp only [sealI,e,hz]
       rfl)
      have HZ:=xH hz
      generalize (numsI s.data.toList p 4).2=q at *
      clear hsc hc hex hz
      go_wp2_with fail
      refine (xU HN).mono ?_
      rintro e w5 ⟨v5,rfl,hown,hb5⟩
      clear k0 HN
      rw [xU HZ] at hown
      obtain ⟨gx,cx,rfl,-,-⟩:=hown.form (by omega)
      have HF:=xH (show Pr w w5 (.slice a j cap) (sealI s.data.toList j).1∧w5.ownsRow (w.heap.size+2) 3 1 (.slice (some ⟨gx,0,none⟩) 4 cx) 4 [.int .i64 z0,.int .i64 z1,.int .i64 z2,.int .i64 z3] from ⟨HP.out.on hb5,World.ownsRow.mono hown (by omega)⟩)
      have hlen:(sealI s.data.toList j).1.length≤1000:=by rw [sealI_len];omega
      clear hown hb5
      go_upto_region 5 with fail
      refine wp_swap (c':=Code.region 5 pr5Ops true) (by kernel_rfl) ?_
      refine wp_region_noPanic ?_
      refine pr5 s w (.slice a j cap) (sealI s.data.toList j).1 gx cx i q z0 z1 z2 z3 hlen w5 _ (fun _ _ _ _ _ h=>h) (on4 (xU HF) ⟨rfl,rfl,rfl,Nat.le_refl _,fun _ _=>rfl⟩) (by kernel_rfl) ?_
      intro v v' W6 h6
      refine NoPanic.normal ?_
      simp only [frL_eq,frG,List.lookup,Nat.reduceBEq,Nat.reduceAdd,Option.getD_some,Option.getD_none]
      have hv':∃ (a':Option Addr) (cap':Nat),v'=.slice a' (j+1) cap':=by
       rcases h6.own.2 with ⟨hv,h0⟩ | ⟨g,c,u,hv,_⟩
       · simp at h0
       · exact ⟨_,_,by rw [hv,List.length_append,sealI_len];rfl⟩
      obtain ⟨a',cap',rfl⟩:=hv'
      have HP6:=xH (show Pr w W6 (.slice a' (j+1) cap') (sealI s.data.toList (j+1)).1 by rw [xU HSI];exact h6)
      have HQ6:=xH (show (sealI s.data.toList (j+1)).2=q by rw [xU HSI])
      clear h6 HF HP HSC
      go_wp2_with fail
      go_roundw
      case rel=>exact ⟨j+1,a',cap',hj41,by rw [xU HQ6],xU HSC1,xU HP6⟩
      case measure=>simp [intOf];omega
    · have hns:¬ sealC s.data.toList j:=fun h=>by
       unfold sealC at h
       rw [xU HI,← hex] at h
       exact hc ⟨h.2.1,h.2.2⟩
      have HNS:=xH hns
      have HN:=xH (l42Nums_any s p 2 wr hs (by omega) (by omega))
      obtain ⟨y0,y1,hy⟩:=list2 (numsI_len s.data.toList p 2)
      have hp4:=HP.out.b4.lt
      have HRP:=xH (show readP s.data.toList j=⟨(sealI s.data.toList j).1,y0,y1⟩ by
       have e:(sealI s.data.toList j).2+5=p:=by rw [xU HI];omega
       unfold readP
       simp only [e,hy]
       rfl)
      have HY:=xH hy
      generalize (numsI s.data.toList p 2).2=q at *
      have hgo:(((s.extract i p).toList==[115,101,97,108,32])=false)∨(((s.extract i p).toList==[115,101,97,108,32])=true∧decide ((j:Int)≤40)=false):=by
       cases hbq:((s.extract i p).toList==[115,101,97,108,32]) with
       | false=>exact Or.inl rfl
       | true=>exact Or.inr ⟨rfl,decide_eq_false fun h=>hc ⟨by simpa using hbq,by omega⟩⟩
      clear hns hc hex hy
      rcases hgo with hbq | ⟨hbq,hj40⟩
      all_goals
       go_wp2_with fail
       refine (xU HN).mono ?_
       rintro e w5 ⟨v5,rfl,hown,hb5⟩
       clear k0 HN
       rw [xU HY] at hown
       obtain ⟨gx,cx,rfl,-,-⟩:=hown.form (by omega)
       have hx0:w5.cell? ⟨gx,0,none⟩=some (.int .i64 y0):=hown.cellAt 0 (by omega)
       have hx1:w5.cell? ⟨gx,1,none⟩=some (.int .i64 y1):=hown.cellAt 1 (by omega)
       have hgx:wr.heap.size≤gx∧gx < w5.heap.size:=hown.lt gx rfl
       have h5p:=HP.out.on hb5
       obtain ⟨c0,c1,c2⟩:=cs3 h5p.b4 (by omega)
       have f4:=h5p.b4.frozen
       simp only [row3] at c0 c1 c2
       have hs5:=hb5.size
       have hne:gx≠w.heap.size+1:=by omega
       have hne':w.heap.size+1≠gx:=by omega
       obtain ⟨F,hfin⟩:=h5p.fin y0 y1
       have HFIN:=xH hfin
       obtain ⟨d0,d1,d2⟩:=cs3 hfin.b4 (by omega)
       simp only [row3] at d0 d1 d2
       clear hfin h5p hown HP hb5
       have HXP:=xH (show 0 < s.data.toList.length by omega)
       go_wp2_with fail
       refine (specLogPlanWrite_any ⟨(sealI s.data.toList j).1,y0,y1⟩ _ (.slice a j cap) _ (fun b hb=>((xU HFIN).lt b hb).2) (FlatOwn.at (xU HFIN).own)).mono ?_
       rintro e w8 ⟨rfl,hb8⟩
       have h8:=(xU HFIN).on hb8
       have HF8:=xH h8
       clear hb8 c0 c1 c2 f4 d0 d1 d2 hx0 hx1 HFIN
       obtain ⟨c0,c1,c2⟩:=cs3 h8.b4 (by omega)
       have f4:=h8.b4.frozen
       obtain ⟨m0,m1,m2⟩:=cs3 h8.b2 (by omega)
       have f2:=h8.b2.frozen
       simp only [row3] at c0 c1 c2 m0 m1 m2
       clear h8
       by_cases hq:plW ⟨(sealI s.data.toList j).1,y0,y1⟩=s
       · have hbn:((plW ⟨(sealI s.data.toList j).1,y0,y1⟩).toList==s.toList)=true:=by rw [hq];simp
         have HQ:=xH hq
         clear hq
         go_wp2_with fail
         try simp only [Exit.inBlock,Exit.then]
         refine bodyPost_ret (v:=.tuple #[.agg #[.slice a j cap,.int .i64 y0,.int .i64 y1],.bool true]) (by simp [results,Try.results94,go_sem,m0,m1,m2]) rfl ?_
         exact Or.inl ⟨⟨(sealI s.data.toList j).1,y0,y1⟩,.slice a j cap,rd_same rfl (xU HXP) (xU HQ),rfl,((xU HF8).sto _ _ _).2,((xU HF8).sto _ _ _).1⟩
       · have hbn:((plW ⟨(sealI s.data.toList j).1,y0,y1⟩).toList==s.toList)=false:=by have:=neq_str.2 hq;simpa [bne] using this
         have HQ:=xH hq
         clear hq
         go_wp2_with fail
         try simp only [Exit.inBlock,Exit.then]
         refine bodyPost_ret (v:=.tuple #[.agg #[.slice none 0 0,.int .i64 0,.int .i64 0],.bool false]) (by simp [results,Try.results94,go_sem,m0,m1,m2]) rfl ?_
         exact Or.inr ⟨rd_other rfl HSC.out (xU HNS) (by rw [xU HRP];exact xU HQ),rfl,((xU HF8).sto _ _ _).1⟩
  · have hns:¬ sealC s.data.toList j:=fun h=>by
     unfold sealC at h
     rw [xU HI] at h
     omega
    have HRN:=xH (rd_short HSC.out hns (by rw [xU HI];omega))
    have h2:=HP.out.b2
    obtain ⟨y0,y1,y2⟩:=cs3 h2 (by omega)
    have z:=h2.frozen
    simp only [row3] at y0 y1 y2
    have HBL:=xH HP.out.bel
    have h5i:¬ ((p:Int)≤(s.size:Int)):=by omega
    clear h2 hb4 k0 hns HP HSC
    go_wp2_with fail
    try simp only [Exit.inBlock,Exit.then]
    refine bodyPost_ret (v:=.tuple #[.agg #[.slice none 0 0,.int .i64 0,.int .i64 0],.bool false]) (by simp [results,Try.results94,go_sem,y0,y1,y2]) rfl ?_
    exact Or.inr ⟨xU HRN,rfl,(((xU HBL).setCell (by simp) _).setCell (by simp) _).setCell (by simp) _⟩

theorem ixRunN {o:Oper} {a:Act} {X I:Operand} {g p n cap i:Nat} (ho:o.op=.indexAddr 24 X I) (hx:a.eval X=.slice (some ⟨g,p,none⟩) n cap) (hi:a.eval I=.int .i64 (i:Nat)) (h:i < n) (w:World):(execOp a.eval o).run Try.prog w=.ok (.value (.pointer (some ⟨g,p+i,none⟩))) w:=by
 have h1:(0:Int)≤(i:Int)∧(i:Int) < (n:Int):=⟨by omega,by omega⟩
 have h2:(Instr.indexAt 24 (.slice (some ⟨g,p,none⟩) n cap) (.int .i64 (i:Nat))).run Try.prog w=.ok (.pointer (some ⟨g,p+i,none⟩)) w:=by
  have e:(⟨g,p+i,none⟩:Addr)=(⟨g,p,none⟩:Addr).add (i * 1):=by rw [Nat.mul_one];simp [Addr.add]
  rw [e]
  simp [go_sem,h1]
 unfold execOp
 simp only [ho,hx,hi,Sem.run_bind,Sem.run_pure,Result.andThen_ok,h2]
noncomputable def lp9Ops:Array Oper:=fops Try.f85 9
theorem lp9_neat:Region.noSelect lp9Ops=true∧neat lp9Ops=true:=⟨by kernel_rfl,by kernel_rfl⟩
theorem lp9 (B1 B2 B5 g p n cap i:Nat) (c:C3) (num m:Int) (x y:ByteArray) (b:Bool) (W0:World) {l:List Value} (Q:Exit→Act→World→Prop) (hQ:∀ c a d v w,Q (.panic c) (Act.put a d v) w→Q (.panic c) a w) (h1:W0.drew.rowIs B1 27 3 (row3 c.c0 c.c1 c.c2)) (hg:g < W0.drew.heap.size) (hx:W0.drew.cell? ⟨g,p+i,none⟩=some (.string x)) (hi:i < n) (HK:∀ W,Below W0.drew.heap.size W0.drew W→Calls Try.prog 9 #[.agg #[c.c0,c.c1,c.c2],.string x] W fun e w'=>e=.returned (.tuple #[.string y,.bool b])∧Below W.heap.size W w')
 (hl:lookL [(0,.agg #[c.c0,c.c1,c.c2]),(1,.pointer (some ⟨B1,0,none⟩)),(2,.pointer (some ⟨B2,0,none⟩)),(3,.int .i64 0),(4,.slice (some ⟨g,p,none⟩) n cap),(5,.pointer (some ⟨B5,0,none⟩)),(6,.int .i64 num),(7,.int .i64 (i:Nat)),(8,.int .i64 m),(13,.agg #[c.c0,c.c1,c.c2]),(14,.slice (some ⟨g,p,none⟩) n cap),(15,.agg #[.slice none 0 0,.int .i64 0,.int .i64 0]),(47,undef),(48,undef)] l=(49,([(0,.agg #[c.c0,c.c1,c.c2]),(1,.pointer (some ⟨B1,0,none⟩)),(2,.pointer (some ⟨B2,0,none⟩)),(3,.int .i64 0),(4,.slice (some ⟨g,p,none⟩) n cap),(5,.pointer (some ⟨B5,0,none⟩)),(6,.int .i64 num),(7,.int .i64 (i:Nat)),(8,.int .i64 m),(13,.agg #[c.c0,c.c1,c.c2]),(14,.slice (some ⟨g,p,none⟩) n cap),(15,.agg #[.slice none 0 0,.int .i64 0,.int .i64 0]),(47,undef),(48,undef)]:List (Nat × Value)).map (·.2)))
 (hend:∀ (u:Nat→Value) (W:World),Below W0.drew.heap.size W0.drew W→Q .normal ⟨(frL u 49 [(0,.agg #[c.c0,c.c1,c.c2]),(1,.pointer (some ⟨B1,0,none⟩)),(2,.pointer (some ⟨B2,0,none⟩)),(3,.int .i64 0),(4,.slice (some ⟨g,p,none⟩) n cap),(5,.pointer (some ⟨B5,0,none⟩)),(6,.int .i64 num),(7,.int .i64 (i:Nat)),(8,.int .i64 m),(9,.string y),(10,.bool b),(13,.agg #[c.c0,c.c1,c.c2]),(14,.slice (some ⟨g,p,none⟩) n cap),(15,.agg #[.slice none 0 0,.int .i64 0,.int .i64 0]),(47,undef),(48,undef)]).toArray,[]⟩ W):(Code.region 9 lp9Ops true).wp Try.prog Q ⟨l.toArray,[]⟩ W0:=by
 obtain ⟨v0,rfl⟩:=look_fr hl
 have hq:NtQ lp9Ops Q:=⟨lp9_neat,hQ⟩
 refine T_start (S:=fun W=>Below W0.drew.heap.size W0.drew W) (by kernel_rfl) (Below.refl _ _) ?_
 clear hl hQ
 generalize W0.drew=V at h1 hg hx HK hend ⊢
 refine T_a hq [0,1,2] (fun w h=>.cons (ldDk (h1.of_block (h.block _ h1.lt))) (Lds.nil)) (by kernel_rfl) ?_
 refine T_yld hq 3 (some 34) (.pointer (some ⟨g,p+i,none⟩)) (by kernel_rfl) (by kernel_rfl) (fun w h=>ixRunN (X:=.tmp 32) (I:=.tmp 33) (n:=n) (cap:=cap) (i:=i) (by kernel_rfl) (by kernel_rfl) (by kernel_rfl) hi w) ?_
 refine T_a hq [4] (fun w h=>.cons (ldStr _ _ _ ((h.cell hg).trans hx)) (Lds.nil)) (by kernel_rfl) ?_
 refine T_fr 11 49 [5,6,7,8,9,10] [(0,.agg #[c.c0,c.c1,c.c2]),(1,.pointer (some ⟨B1,0,none⟩)),(2,.pointer (some ⟨B2,0,none⟩)),(3,.int .i64 0),(4,.slice (some ⟨g,p,none⟩) n cap),(5,.pointer (some ⟨B5,0,none⟩)),(6,.int .i64 num),(7,.int .i64 (i:Nat)),(8,.int .i64 m),(13,.agg #[c.c0,c.c1,c.c2]),(14,.slice (some ⟨g,p,none⟩) n cap),(15,.agg #[.slice none 0 0,.int .i64 0,.int .i64 0]),(31,.agg #[c.c0,c.c1,c.c2]),(35,.string x),(47,undef),(48,undef)] (by kernel_rfl) fun u=>?_
 refine T_one 5 (by kernel_rfl) fun _=>O_go (HK V (Below.refl _ _)) (by kernel_rfl) ?_
 rintro e w1 ⟨rfl,hb1⟩
 refine ⟨_,rfl,hb1,?_⟩
 refine T_z hq [6,7,8,9,10] (by kernel_rfl) ?_
 exact T_end 49 [(0,.agg #[c.c0,c.c1,c.c2]),(1,.pointer (some ⟨B1,0,none⟩)),(2,.pointer (some ⟨B2,0,none⟩)),(3,.int .i64 0),(4,.slice (some ⟨g,p,none⟩) n cap),(5,.pointer (some ⟨B5,0,none⟩)),(6,.int .i64 num),(7,.int .i64 (i:Nat)),(8,.int .i64 m),(9,.string y),(10,.bool b),(13,.agg #[c.c0,c.c1,c.c2]),(14,.slice (some ⟨g,p,none⟩) n cap),(15,.agg #[.slice none 0 0,.int .i64 0,.int .i64 0]),(47,undef),(48,undef)] (by kernel_rfl) (by kernel_rfl) fun hS u=>hend u w1 hS
def PnEnd (w w':World) (e:Ending):Prop:=∃ (l:Pl) (v:Value) (num:Nat),e=.returned (.tuple #[.agg #[v,.int .i64 l.op,.int .i64 l.fi],.int .i64 num])∧PtsAt (New w w') w' v l.parts∧(num=0∨plOk l)∧num≤999999∧Below w.heap.size w w'
structure PnS (w W:World) (c:C3) (B5:Nat) (l:Pl) (v:Value) (num:Nat):Prop where
 below:Below w.heap.size w W
 b1:W.rowIs w.heap.size 27 3 (row3 c.c0 c.c1 c.c2)
 b2:W.rowIs (w.heap.size+1) 115 3 (row3 (.slice none 0 0) (.int .i64 0) (.int .i64 0))
 b5:W.rowIs B5 115 3 (row3 v (.int .i64 l.op) (.int .i64 l.fi))
 pts:PtsAt (fun b=>w.heap.size+2≤b∧b < W.heap.size∧b≠B5) W v l.parts
 ok:num=0∨plOk l
 le:num≤999999
 lo:w.heap.size+2≤B5
theorem PnS.on {w W W':World} {c:C3} {B5:Nat} {l:Pl} {v:Value} {num:Nat} (h:PnS w W c B5 l v num) (hb:Below W.heap.size W W'):PnS w W' c B5 l v num :=
 ⟨h.below.trans (hb.mono h.below.size),h.b1.of_block (hb.block _ h.b1.lt),h.b2.of_block (hb.block _ h.b2.lt),h.b5.of_block (hb.block _ h.b5.lt),h.pts.carry (fun b hb'=>hb.block b hb'.2.1) (fun _ hb'=>⟨hb'.1,Nat.lt_of_lt_of_le hb'.2.1 hb.size,hb'.2.2⟩),h.ok,h.le,h.lo⟩
theorem look_small {d:Dk} (x:ByteArray):(lookD d x).1.size≤20000:=by
 by_cases h:x∈namesD d
 · obtain ⟨i,hi,hok,-,e⟩:=names_file h
   rw [lookD_yes h i hi e]
   exact (hok.file i hi (by rw [hok.len];exact hi)).data
 · rw [lookD_no h];decide
theorem names_small {d:Dk} {x:ByteArray} (h:x∈namesD d):x.size≤8:=by
 obtain ⟨i,hi,hok,e,-⟩:=names_file h
 have:=(hok.file i hi (by rw [hok.len];exact hi)).name
 rw [e] at this
 exact name_size this
theorem pts_new {w w':World} {v:Value} {ps:List Pt} {F:List Nat} (h:FlatOwn w' v 4 (ps.map Pt.cs) F) (hF:∀ b,b∈F→w.heap.size≤b∧b < w'.heap.size):PtsAt (New w w') w' v ps:=FlatAt.carry h.at (fun _ _=>rfl) hF
theorem PnS.put {w W w4:World} {c:C3} {B5:Nat} {l l2:Pl} {v v2:Value} {num m:Nat} (h:PnS w W c B5 l v num) (hb:Below W.heap.size W w4) (hp:PtsAt (New W w4) w4 v2 l2.parts) (hok:plOk l2) (hm:m≤999999) :
 PnS w (((w4.setCell ⟨B5,0,none⟩ v2).setCell ⟨B5,1,none⟩ (.int .i64 l2.op)).setCell ⟨B5,2,none⟩ (.int .i64 l2.fi)) c B5 l2 v2 m:=by
 have h4:=h.on hb
 have hB:=h.b5.lt
 obtain ⟨s1,s2,s3,s4⟩:=set3 w4 B5 v2 (.int .i64 l2.op) (.int .i64 l2.fi)
 have hs:∀ a,a≠B5→(((w4.setCell ⟨B5,0,none⟩ v2).setCell ⟨B5,1,none⟩ (.int .i64 l2.op)).setCell ⟨B5,2,none⟩ (.int .i64 l2.fi)).heap[a]? = w4.heap[a]? := s1
 have hz:(((w4.setCell ⟨B5,0,none⟩ v2).setCell ⟨B5,1,none⟩ (.int .i64 l2.op)).setCell ⟨B5,2,none⟩ (.int .i64 l2.fi)).heap.size=w4.heap.size:=s2
 have hlo:=h.lo
 have hbs:=hb.size
 refine ⟨s4 _ _ (by omega) h4.below,h4.b1.of_block (hs _ (by omega)),h4.b2.of_block (hs _ (by omega)),s3 _ _ h4.b5,hp.carry (fun b hb'=>?_) (fun b hb'=>?_),Or.inr hok,hm,hlo⟩
 · have h1:W.heap.size≤b:=hb'.1
   exact hs b (by omega)
 · have h1:W.heap.size≤b:=hb'.1
   have h2:=h.below.size
   exact ⟨by omega,by rw [hz];exact hb'.2,by omega⟩
theorem l43Plan_any (d:Dk) (P:Nat→Prop) (c:C3) (w:World) (hP:∀ b,P b→b < w.heap.size) (hd:DkAt P w d c) :
 Calls Try.prog 85 #[.agg #[c.c0,c.c1,c.c2]] w fun e w'=>PnEnd w w' e:=by
 have HNM:=xH (fun W (hW:Below w.heap.size w W)=>specDiskNames_any d P c W (fun b hb=>Nat.lt_of_lt_of_le (hP b hb) hW.size) (hd.carry (fun b hb=>hW.block b (hP b hb)) (fun _ h=>h)))
 have HLK:=xH (fun x W (hW:Below w.heap.size w W)=>specDiskLook_any d x P c W (fun b hb=>Nat.lt_of_lt_of_le (hP b hb) hW.size) (hd.carry (fun b hb=>hW.block b (hP b hb)) (fun _ h=>h)))
 obtain ⟨c0,c1,c2⟩:=c
 obtain ⟨a0,p0,g0,-,-⟩:=hd.fs.open
 obtain ⟨a1,p1,g1,-,-⟩:=id hd.ns
 obtain ⟨a2,p2,g2,-,-⟩:=hd.ms.open
 simp only at g0 g1 g2
 subst g0 g1 g2
 have hb0:Below w.heap.size w ((w.alloc (.cells #[.slice a0 d.files.length p0,.slice a1 d.names.length p1,.slice a2 d.moves.length p2] 27)).alloc (.cells #[.slice none 0 0,.int .i64 0,.int .i64 0] 115)):=((Below.refl _ _).alloc (Nat.le_refl _) _).alloc (by simp) _
 have hr1:=(row3_alloc w (.slice a0 d.files.length p0) (.slice a1 d.names.length p1) (.slice a2 d.moves.length p2) 27).alloc (.cells #[.slice none 0 0,.int .i64 0,.int .i64 0] 115)
 have hr2:=row3_alloc (w.alloc (.cells #[.slice a0 d.files.length p0,.slice a1 d.names.length p1,.slice a2 d.moves.length p2] 27)) (.slice none 0 0) (.int .i64 0) (.int .i64 0) 115
 rw [World.size_alloc] at hr2
 have hs0:((w.alloc (.cells #[.slice a0 d.files.length p0,.slice a1 d.names.length p1,.slice a2 d.moves.length p2] 27)).alloc (.cells #[.slice none 0 0,.int .i64 0,.int .i64 0] 115)).heap.size=w.heap.size+2:=by simp
 have HB0:=xH hb0;have HR1:=xH hr1;have HR2:=xH hr2;have HS0:=xH hs0
 clear hP hd hb0 hr1 hr2 hs0
 go_enter Try.func85,Try.ntmps85
 go_wp2_with fail
 generalize ((w.alloc (.cells #[.slice a0 d.files.length p0,.slice a1 d.names.length p1,.slice a2 d.moves.length p2] 27)).alloc (.cells #[.slice none 0 0,.int .i64 0,.int .i64 0] 115))=W0 at HB0 HR1 HR2 HS0 ⊢
 refine ((xU HNM) W0 (xU HB0)).mono ?_
 rintro e w1 ⟨nv,rfl,hn⟩
 obtain ⟨na,ncap,rfl,hlen,hc⟩:=hn.strs
 have hn1:=hn.below
 have hp0:PnS w (w1.alloc (.cells #[.slice none 0 0,.int .i64 0,.int .i64 0] 115)) ⟨.slice a0 d.files.length p0,.slice a1 d.names.length p1,.slice a2 d.moves.length p2⟩ w1.heap.size ⟨[],0,0⟩ (.slice none 0 0) 0:=by
  have h1:Below w.heap.size w w1:=(xU HB0).trans (hn1.mono (xU HB0).size)
  have h2:=xU HS0
  have h3:=hn1.size
  exact ⟨h1.alloc h1.size _,((xU HR1).of_block (hn1.block _ (xU HR1).lt)).alloc _,((xU HR2).of_block (hn1.block _ (xU HR2).lt)).alloc _,row3_alloc w1 _ _ _ _,⟨none,0,rfl,by decide,fun i hi=>absurd hi (Nat.not_lt_zero i)⟩,Or.inl rfl,by omega,by omega⟩
 have HP0:=xH hp0
 have HC:Hid (∀ i,(h:i < (namesD d).length)→∃ b o,na=some ⟨b,o,none⟩∧w.heap.size+2≤b∧b < w1.heap.size∧w1.cell? ⟨b,o+i,none⟩=some (.string (namesD d)[i])):=fun i hi=>by
  obtain ⟨b,o,e,hb,hx,-⟩:=hc i hi
  have h2:=xU HS0
  have h3:W0.heap.size≤b:=hb.1
  exact ⟨b,o,e,by omega,hb.2,hx⟩
 have HSM:Hid (∀ x,x∈namesD d→x.size≤8):=fun x hx=>names_small hx
 have HLS:Hid (∀ x,(lookD d x).1.size≤20000):=fun x=>look_small x
 clear HNM HB0 HR1 HR2 hn hn1 hp0 hc
 go_wp2_with fail
 go_loopw [6,7] (fun vn vi wr=>∃ (i num:Nat) (l:Pl) (v:Value),i≤(namesD d).length∧vn=.int .i64 num∧vi=.int .i64 i∧Hid (PnS w wr ⟨.slice a0 d.files.length p0,.slice a1 d.names.length p1,.slice a2 d.moves.length p2⟩ w1.heap.size l v num)∧Hid (Below w1.heap.size w1 wr)) (fun _ vi _=>(namesD d).length - (intOf vi).toNat)
 case atStart=>exact ⟨0,0,_,_,by omega,rfl,rfl,xU HP0,(Below.refl _ _).alloc (Nat.le_refl _) _⟩
 case round =>
  clear HP0
  obtain ⟨i,num,l,v,hi,rfl,rfl,HS,HW⟩:=hrel
  obtain ⟨va,vc,rfl,-,-⟩:=HS.out.pts.open
  by_cases hlt:i < (namesD d).length
  · obtain ⟨nb,no,rfl,hnl,hnh,hx1⟩:=(xU HC) i hlt
    have hxw:wr.cell? ⟨nb,no+i,none⟩=some (.string (namesD d)[i]):=(HW.out.cell (show (⟨nb,no+i,none⟩:Addr).block < w1.heap.size from hnh)).trans hx1
    have hsm:=(xU HSM) _ (List.getElem_mem hlt)
    have HLKx:=xH ((xU HLK) (namesD d)[i])
    have HLSx:=xH ((xU HLS) (namesD d)[i])
    generalize (namesD d)[i]=x at *
    generalize lookD d x=yb at *
    obtain ⟨y,bb⟩:=yb
    simp only at HLKx HLSx
    have HNU:=xH (l43Num_any x 109 wr (by omega))
    have hd1:decide ((i:Int) < ((namesD d).length:Int))=true:=decide_eq_true (by omega)
    clear hx1 HSM HLS HLK
    go_wp2_with fail
    refine (xU HNU).mono ?_
    rintro e w2 ⟨m,rfl,hm,hb2⟩
    have HS2:=xH (HS.out.on hb2)
    have HW2:=xH (HW.out.trans (hb2.mono HW.out.size))
    have hx2:w2.cell? ⟨nb,no+i,none⟩=some (.string x):=(HW2.out.cell (show (⟨nb,no+i,none⟩:Addr).block < w1.heap.size from hnh)).trans ((HW.out.cell (show (⟨nb,no+i,none⟩:Addr).block < w1.heap.size from hnh)).symm.trans hxw)
    clear HNU hb2 HS HW hxw
    by_cases hgt:num < m
    · have hd2:decide ((num:Int) < (m:Int))=true:=decide_eq_true (by omega)
      go_upto_region 9 with fail
      refine wp_swap (c':=Code.region 9 lp9Ops true) (by kernel_rfl) ?_
      refine wp_region_noPanic ?_
      have hsz:=HW2.out.size
      refine lp9 w.heap.size (w.heap.size+1) w1.heap.size nb no (namesD d).length ncap i ⟨.slice a0 d.files.length p0,.slice a1 d.names.length p1,.slice a2 d.moves.length p2⟩ num m x y bb w2 _ (fun _ _ _ _ _ h=>h) (HS2.out.b1.of_block rfl) (show nb < w2.heap.size by omega) hx2 hlt (fun W hW=>(xU HLKx) W (HS2.out.below.trans ((Below.refl _ _).drew.trans (hW:Below w2.drew.heap.size w2.drew W) |>.mono HS2.out.below.size))) (by kernel_rfl) ?_
      intro u W3 hb3
      refine NoPanic.normal ?_
      simp only [frL_eq,frG,List.lookup,Nat.reduceBEq,Nat.reduceAdd,Option.getD_some,Option.getD_none]
      have hb23:Below w2.heap.size w2 W3:=(Below.refl _ _).drew.trans hb3
      have HS3:=xH (HS2.out.on hb23)
      have HW3:=xH (HW2.out.trans (hb23.mono HW2.out.size))
      have HRD:=xH (specLogPlanRead_any y W3 (by have:=xU HLSx;omega))
      clear hb3 hb23 HS2 HW2 hx2 HLKx HLSx
      go_wp2_with fail
      refine (xU HRD).mono ?_
      rintro e w4 (⟨l2,v2,hl2,rfl,⟨F,hF,hFb⟩,hb4⟩ | ⟨-,rfl,hb4⟩)
      · have hpt:=pts_new (w:=W3) hF hFb
        obtain ⟨va2,vc2,rfl,-,-⟩:=hpt.open
        have h4:=HS3.out.on hb4
        obtain ⟨k0,k1,k2⟩:=cs3 h4.b5 (by omega);have kf:=h4.b5.frozen
        have kl:=h4.b5.lt
        simp only [row3] at k0 k1 k2
        have HS5:=xH (HS3.out.put hb4 hpt hl2.1 hm)
        have HW5:=xH (HW3.out.trans (hb4.mono HW3.out.size))
        have hw4:=HW5.out.size
        have hne:w4.heap.size≠w1.heap.size:=by omega
        clear hl2 hF hFb hb4 hpt h4 HS3 HW3 HRD
        go_wp2_with fail
        go_roundw
        case rel=>exact ⟨i+1,m,l2,_,hlt,rfl,by go_num,HS5.out.on ((Below.refl _ _).alloc (Nat.le_refl _) _),Below.alloc (((HW5.out.setCell (Nat.le_refl _) _).setCell (Nat.le_refl _) _).setCell (Nat.le_refl _) _) (by simp only [size_setCell];exact HW5.out.size) _⟩
        case measure=>simp [intOf];omega
      · have HS4:=xH (HS3.out.on hb4)
        have HW4:=xH (HW3.out.trans (hb4.mono HW3.out.size))
        clear hb4 HS3 HW3 HRD
        go_wp2_with fail
        go_roundw
        case rel=>exact ⟨i+1,num,l,_,hlt,rfl,by go_num,HS4.out.on ((Below.refl _ _).alloc (Nat.le_refl _) _),HW4.out.alloc HW4.out.size _⟩
        case measure=>simp [intOf];omega
    · have hd2:decide ((num:Int) < (m:Int))=false:=decide_eq_false (by omega)
      clear HLKx HLSx hx2
      go_wp2_with fail
      go_roundw
      case rel=>exact ⟨i+1,num,l,_,hlt,rfl,by go_num,xU HS2,xU HW2⟩
      case measure=>simp [intOf];omega
  · have hd1:decide ((i:Int) < ((namesD d).length:Int))=false:=decide_eq_false (by omega)
    obtain ⟨k0,k1,k2⟩:=cs3 HS.out.b5 (by omega)
    have f0:=HS.out.b2.cell (i:=0) (by omega);have f1:=HS.out.b2.cell (i:=1) (by omega);have f2:=HS.out.b2.cell (i:=2) (by omega);have ff:=HS.out.b2.frozen
    simp only [row3] at k0 k1 k2 f0 f1 f2
    have hlo:=HS.out.lo
    have hfin:PnEnd w (((wr.setCell ⟨w.heap.size+1,0,none⟩ (.slice va l.parts.length vc)).setCell ⟨w.heap.size+1,1,none⟩ (.int .i64 l.op)).setCell ⟨w.heap.size+1,2,none⟩ (.int .i64 l.fi)) (.returned (.tuple #[.agg #[.slice va l.parts.length vc,.int .i64 l.op,.int .i64 l.fi],.int .i64 num])):=by
     obtain ⟨s1,s2,-,s4⟩:=set3 wr (w.heap.size+1) (.slice va l.parts.length vc) (.int .i64 l.op) (.int .i64 l.fi)
     have hs:∀ a,a≠w.heap.size+1→(((wr.setCell ⟨w.heap.size+1,0,none⟩ (.slice va l.parts.length vc)).setCell ⟨w.heap.size+1,1,none⟩ (.int .i64 l.op)).setCell ⟨w.heap.size+1,2,none⟩ (.int .i64 l.fi)).heap[a]? = wr.heap[a]? := s1
     have hz:(((wr.setCell ⟨w.heap.size+1,0,none⟩ (.slice va l.parts.length vc)).setCell ⟨w.heap.size+1,1,none⟩ (.int .i64 l.op)).setCell ⟨w.heap.size+1,2,none⟩ (.int .i64 l.fi)).heap.size=wr.heap.size:=s2
     exact ⟨l,_,num,rfl,HS.out.pts.carry (fun b hb=>hs b (by have:=hb.1;omega)) (fun b hb=>⟨by have:=hb.1;omega,by rw [hz];exact hb.2.1⟩),HS.out.ok,HS.out.le,s4 _ _ (by omega) HS.out.below⟩
    have HFIN:=xH hfin
    have kl:=HS.out.b5.lt
    have hne:w1.heap.size≠w.heap.size+1:=by omega
    clear hfin HS HW
    go_wp2_with fail
    refine bodyPost_ret (v:=.tuple #[.agg #[.slice va l.parts.length vc,.int .i64 l.op,.int .i64 l.fi],.int .i64 num]) (by simp [results,Try.results85,go_sem,f0,f1,f2]) rfl (xU HFIN)

theorem infoRecW:(Try.prog.info? 146).map (fun i=>(i.zero,i.size,i.bytes))=some (some (.agg #[.int .i64 0,.string ByteArray.empty]),2,24):=by kernel_rfl
theorem infoRecD:∃ i,Try.prog.info? 146=some i∧i.zero=some (.agg #[.int .i64 0,.string ByteArray.empty])∧i.size=2∧i.bytes=24:=by
 have:=infoRecW
 cases h:Try.prog.info? 146 with
 | none=>rw [h] at this;simp at this
 | some i=>rw [h] at this;exact ⟨i,rfl,by simpa using this⟩
theorem byB_at {s:ByteArray} {i:Nat} (h:i < s.size):byB s i=(s[i].toNat:Int):=by
 unfold byB
 rw [List.getD_eq_getElem?_getD,List.getElem?_eq_getElem (by simpa using h)]
 rfl
theorem ownsRow_keepR {w w':World} {base:Nat} {e:TypeId} {size:Nat} {v:Value} {n:Nat} {xs:List Value} (h:w.ownsRow base e size v n xs) (hk:∀ g,v.ownBlock=some g→w'.heap[g]? = w.heap[g]?):w'.ownsRow base e size v n xs:=by
 refine ⟨h.1,?_⟩
 rcases h.2 with h0 | ⟨g,cap,cur,hv,hb,hh,hr⟩
 · exact Or.inl h0
 · exact Or.inr ⟨g,cap,cur,hv,hb,by rw [hk g (by rw [hv];rfl)];exact hh,hr⟩
theorem slice_at {P:Program} (W:World) (t:TypeId) (s:ByteArray) (i n:Nat) (hu:P.underlying t=some .string) (h:i+5+n≤s.size) :
 Sem.run P (Instr.slice t (.string s) (some (.int .i64 ((i:Int)+5))) (some (.int .i64 ((i:Int)+5+n))) none) W=.ok (.string (s.extract (i+5) (i+5+n))) W:=by
 rw [run_slice_string W t s .i64 .i64 ((i:Int)+5) ((i:Int)+5+n) hu (by omega) (by omega) (by omega),show ((i:Int)+5).toNat=i+5 by omega,show ((i:Int)+5+n).toNat=i+5+n by omega]
theorem cell_two (w:World) (x y:Value) (t:TypeId):∀ j u,[x,y][j]? = some u→(w.alloc (.cells #[x,y] t)).cell? ((⟨w.heap.size,0,none⟩:Addr).add j)=some u:=by
 intro j u hj
 match j with
 | 0=>simp only [List.getElem?_cons_zero,Option.some.injEq] at hj;subst hj;rw [Addr.add_lit];simp [go_sem]
 | 1=>simp only [List.getElem?_cons_succ,List.getElem?_cons_zero,Option.some.injEq] at hj;subst hj;rw [Addr.add_lit];simp [go_sem]
 | j+2=>simp at hj
def FrEnd (w w':World) (e:Ending) (s:ByteArray):Prop :=
 ∃ (v:Value) (F:List Nat),e=.returned (.tuple #[v,.int .i64 ((frs s 0).2:Nat)])∧RcsOwn w' v (frs s 0).1 F∧(∀ b,b∈F→w.heap.size≤b∧b < w'.heap.size)∧Below w.heap.size w w'
theorem FrEnd.of {w w':World} {s:ByteArray} {L:List Rc} {i:Nat} {v:Value} (h:FrI s L i) (hw:¬ whB s i) (ho:w'.ownsRow w.heap.size 146 2 v L.length (L.map Rc.cs).flatten) (hok:∀ r,r∈L→r.okM) (hb:Below w.heap.size w w'):FrEnd w w' (.returned (.tuple #[v,.int .i64 (i:Nat)])) s:=by
 have hd:=h.done hw
 obtain ⟨F,h1,-,h3,-⟩:=FlatOwn.of_row (rs:=L.map Rc.cs) (n:=2) (by rw [List.length_map];exact ho) (fun r hr=>by obtain ⟨x,-,rfl⟩:=List.mem_map.1 hr;rfl)
 exact ⟨v,F,by rw [hd],by rw [hd];exact ⟨h1,hok⟩,h3,hb⟩
theorem specLogFrames_any (s:ByteArray) (hs:s.size≤1048576) (w:World):Calls Try.prog 87 #[.string s] w fun e w'=>FrEnd w w' e s:=by
 obtain ⟨j0,hj,hy0,hy1,hy2⟩:=infoRecD
 have HJJ:=xH hj;have HY0:=xH hy0;have HY1:=xH hy1;have HY2:=xH hy2
 have HIN:=xH (fun z lo hi W=>frInS z lo hi W)
 have HEMP:=xH (empty_row (base:=w.heap.size) (size:=2) (World.rowIs_alloc w #[] 146 (fun _=>.bool false) (fun i hi=>by simp at hi)) (Nat.le_refl _))
 clear hj hy0 hy1 hy2
 go_enter Try.func87,Try.ntmps87
 go_wp2_with fail
 go_loopw [4,5] (fun vo at' wr=>∃ (L:List Rc) (i n:Nat) (ao:Option Addr) (co:Nat),i≤s.size∧n≤300000∧vo=.slice ao n co∧at'=.int .i64 i∧Hid (n=L.length)∧Hid (FrI s L i)∧Hid (∀ r,r∈L→r.okM)∧Hid (wr.ownsRow w.heap.size 146 2 (.slice ao n co) n (L.map Rc.cs).flatten)∧Hid (Below w.heap.size w wr)) (fun _ i _=>s.size - (intOf i).toNat)
 case atStart=>exact ⟨[],0,0,_,_,Nat.zero_le _,by omega,rfl,rfl,rfl,FrI.start s,fun r hr=>(by cases hr),HEMP,(Below.refl _ _).alloc (Nat.le_refl _) _⟩
 case round =>
  obtain ⟨L,i,n,ao,co,hi,hn,rfl,rfl,HL,HI,HOK,HO,HB⟩:=hrel
  by_cases h5:i+5≤s.size
  case neg =>
   have HNW:=xH (show ¬ whB s i from fun h=>h5 h.1)
   go_wp2_with fail
   go_returns
   exact FrEnd.of HI.out (xU HNW) (by rw [← HL.out];exact HO.out) HOK.out HB.out
  have i0:i < s.size:=by omega
  obtain ⟨p1,hp1,e1⟩:∃ p:Nat,(i:Int)+1=p∧p=i+1:=⟨i+1,by omega,rfl⟩
  obtain ⟨p2,hp2,e2⟩:∃ p:Nat,(i:Int)+2=p∧p=i+2:=⟨i+2,by omega,rfl⟩
  obtain ⟨p3,hp3,e3⟩:∃ p:Nat,(i:Int)+3=p∧p=i+3:=⟨i+3,by omega,rfl⟩
  obtain ⟨p4,hp4,e4⟩:∃ p:Nat,(i:Int)+4=p∧p=i+4:=⟨i+4,by omega,rfl⟩
  have i1:p1 < s.size:=by omega
  have i2:p2 < s.size:=by omega
  have i3:p3 < s.size:=by omega
  have i4:p4 < s.size:=by omega
  have HSZ:=xH (show szB s i=(s[i].toNat:Int) * 256+(s[p1].toNat:Int) by unfold szB;rw [byB_at i0,← e1,byB_at i1])
  have HPS:=xH (show psB s i=(s[p2].toNat:Int) * 65536+(s[p3].toNat:Int) * 256+(s[p4].toNat:Int) by unfold psB;rw [← e2,← e3,← e4,byB_at i2,byB_at i3,byB_at i4])
  have t0:s[i].toNat < 256:=s[i].toNat_lt
  have t1:s[p1].toNat < 256:=s[p1].toNat_lt
  have t2:s[p2].toNat < 256:=s[p2].toNat_lt
  have t3:s[p3].toNat < 256:=s[p3].toNat_lt
  have t4:s[p4].toNat < 256:=s[p4].toNat_lt
  clear e1 e2 e3 e4
  go_wp2_with fail
  go_quiet (fail)
  revert nq
  intro m1
  go_wp2_with fail
  go_quiet (fail)
  revert nq
  intro m2
  have HOw:Hid (((wr.drewN m1).drewN m2).ownsRow w.heap.size 146 2 (.slice ao n co) n (L.map Rc.cs).flatten):=HO.out
  have HBw:Hid (Below w.heap.size w ((wr.drewN m1).drewN m2)):=⟨HB.out.os,HB.out.tape,HB.out.output,HB.out.size,HB.out.block⟩
  generalize (wr.drewN m1).drewN m2=W at *
  have hz0:0≤(s[i].toNat:Int) * 256+(s[p1].toNat:Int)∧(s[i].toNat:Int) * 256+(s[p1].toNat:Int) < 65536:=by omega
  have hq0:0≤(s[p2].toNat:Int) * 65536+(s[p3].toNat:Int) * 256+(s[p4].toNat:Int)∧(s[p2].toNat:Int) * 65536+(s[p3].toNat:Int) * 256+(s[p4].toNat:Int) < 16777216:=by omega
  generalize (s[i].toNat:Int) * 256+(s[p1].toNat:Int)=z at *
  generalize (s[p2].toNat:Int) * 65536+(s[p3].toNat:Int) * 256+(s[p4].toNat:Int)=q at *
  clear t0 t1 t2 t3 t4 hp1 hp2 hp3 hp4 HO HB
  obtain ⟨zn,rfl⟩:∃ zn:Nat,z=zn:=⟨z.toNat,by omega⟩
  have HRC:=xH (show rcB s i=⟨q,s.extract (i+5) (i+5+zn)⟩ by unfold rcB;rw [xU HPS,xU HSZ];rfl)
  have HWH:=xH (show whB s i↔((zn:Int)≤2000∧(1≤q∧q≤999999)∧i+5+zn≤s.size) by
   unfold whB
   rw [xU HPS,xU HSZ]
   constructor
   · rintro ⟨_,h2,h3,h4⟩;exact ⟨h2,h3,by omega⟩
   · rintro ⟨h2,h3,h4⟩;exact ⟨h5,h2,h3,by omega⟩)
  have HNX:=xH (show (szB s i).toNat=zn by rw [xU HSZ];rfl)
  by_cases c1:2000 < (zn:Int)
  · have HNW:=xH (show ¬ whB s i from fun h=>by have:=((xU HWH).1 h).1;omega)
    go_wp2_with fail
    go_returns
    exact FrEnd.of HI.out (xU HNW) (by rw [← HL.out];exact HOw.out) HOK.out HBw.out
  go_wp2_with fail
  refine (xU HIN _ _ _ _).mono ?_
  rintro e W2 ⟨rfl,hb2⟩
  have HO2:=xH (ownsRow_keepR HOw.out (fun g e=>hb2.block g (HOw.out.lt g e).2));have HB2:=xH (HBw.out.trans (hb2.mono HBw.out.size))
  have hs2:=HB2.out.size
  clear hb2 HOw HBw
  by_cases c2:1≤q∧q≤999999
  case neg =>
   have HNW:=xH (show ¬ whB s i from fun h=>c2 ((xU HWH).1 h).2.1)
   rw [decide_eq_false c2]
   clear c2
   go_wp2_with fail
   go_returns
   exact FrEnd.of HI.out (xU HNW) (by rw [← HL.out];exact HO2.out) HOK.out HB2.out
  rw [decide_eq_true c2]
  have C2:=xH c2
  clear c2
  by_cases c3:i+5+zn≤s.size
  case neg =>
   have HNW:=xH (show ¬ whB s i from fun h=>c3 ((xU HWH).1 h).2.2)
   go_wp2_with fail
   go_returns
   exact FrEnd.of HI.out (xU HNW) (by rw [← HL.out];exact HO2.out) HOK.out HB2.out
  have HIN2:=xH (HI.out.next ((xU HWH).2 ⟨by omega,xU C2,c3⟩))
  rw [xU HNX,xU HRC] at HIN2
  have hn2:n≤209716:=by have:=HI.out.2.2;have:=HL.out;omega
  have hsl:=fun W=>slice_at (P:=Try.prog) W 9 s i zn Try.underlying9 c3
  go_wp2_with (at_builtin;(refine append_row _ rfl _ _ 116 rfl w.heap.size 146 j0 (.agg #[.int .i64 0,.string ByteArray.empty]) 2 24 Try.underlying116 (xU HJJ) (xU HY0) (xU HY1) (xU HY2) rfl (by decide) (.slice ao n co) n ((L.map Rc.cs).flatten) rfl (World.ownsRow.alloc HO2.out _) ⟨W2.heap.size,0,none⟩ 1 1 [.int .i64 q,.string (s.extract (i+5) (i+5+zn))] rfl rfl (cell_two _ _ _ _) (fun u hu=>by simp at hu;rcases hu with rfl | rfl <;> rfl) (by decide) (by unfold maxLen;omega) (by omega) (by simp;omega) ?_;intro v' w5 hown5 hgrow5 hat5;obtain ⟨g5,cap5,rfl,-,-⟩:=hown5.form (by omega);have HO5:=xH hown5;have HB5:=xH (below_grown (by simp;omega) (HB2.out.alloc hs2 (.cells #[.int .i64 q,.string (s.extract (i+5) (i+5+zn))] 146)) hgrow5 (fun b e=>(HO2.out.lt b e).1));clear hown5 hgrow5 hat5))
  go_roundw
  case rel=>exact ⟨L++[⟨q,s.extract (i+5) (i+5+zn)⟩],i+5+zn,n+1,some ⟨g5,0,none⟩,cap5,by omega,by omega,rfl,by go_num,xH (by have:=HL.out;simp;omega),HIN2,xH (fun r hr=>by
   rcases List.mem_append.1 hr with h | h
   · exact HOK.out r h
   · simp only [List.mem_singleton] at h;subst h;show (s.extract (i+5) (i+5+zn)).size≤_;rw [ByteArray.size_extract];omega),xH (by have:=xU HO5;simpa [Rc.cs] using this),HB5⟩
  case measure=>simp [intOf];omega

def rowD (c0 c1:Value):Nat→Value
 | 0=>c0
 | _=>c1
structure DR (R:Nat) (w:World) (v:Value) (b:List UInt8) (p:Nat):Prop where
 cells:w.rowIs R 91 2 (rowD v (.int .i64 p))
 bytes:∃ a cap,v=.slice a b.length cap∧∀ i,(h:i < b.length)→∃ g o,a=some ⟨g,o,none⟩∧g < R∧w.cell? ⟨g,o+i,none⟩=some (.int .u8 b[i].toNat)
 small:b.length≤2000
theorem DR.block {R:Nat} {w w':World} {v:Value} {b:List UInt8} {p p':Nat} (h:DR R w v b p) (hb:∀ g,g < R→w'.heap[g]? = w.heap[g]?) (hc:w'.rowIs R 91 2 (rowD v (.int .i64 p'))):DR R w' v b p':=by
 obtain ⟨a,cap,h1,h2⟩:=h.bytes
 refine ⟨hc,⟨a,cap,h1,fun i hi=>?_⟩,h.small⟩
 obtain ⟨g,o,e,hlt,hcell⟩:=h2 i hi
 exact ⟨g,o,e,hlt,by rw [World.cell?_of_block (w:=w) (hb g hlt)];exact hcell⟩
theorem DR.on {R:Nat} {w w':World} {v:Value} {b:List UInt8} {p:Nat} (h:DR R w v b p) (hb:Below w.heap.size w w'):DR R w' v b p :=
 h.block (fun g hg=>hb.block g (by have:=h.cells.lt;omega)) (h.cells.of_block (hb.block _ h.cells.lt))
theorem DR.but {R:Nat} {w w':World} {v:Value} {b:List UInt8} {p p':Nat} (h:DR R w v b p) (hb:But R w w') (hc:w'.rowIs R 91 2 (rowD v (.int .i64 p'))):DR R w' v b p' :=
 h.block (fun g hg=>hb.at (by have:=h.cells.lt;omega) (by omega)) hc
theorem rowD_set1 {w:World} {B:Nat} {T:TypeId} {x y:Value} (h:w.rowIs B T 2 (rowD x y)) (v:Value):(w.setCell ⟨B,1,none⟩ v).rowIs B T 2 (rowD x v) :=
 (h.set 1 v).congr fun i hi=>by
   rcases (show i=0∨i=1 by omega) with rfl | rfl <;> rfl
theorem i64_xor_nat (a b:Nat) (ha:a < 4611686018427387904) (hb:b < 4611686018427387904):bits .xor .i64 (a:Int) (b:Int)=((a ^^^ b:Nat):Int):=by
 have hx:a ^^^ b < 2 ^ 62:=Nat.xor_lt_two_pow (by omega) (by omega)
 have h1:(BitVec.ofInt 64 (a:Int)).toNat=a:=by
  rw [BitVec.ofInt_natCast,BitVec.toNat_ofNat];exact Nat.mod_eq_of_lt (by omega)
 have h2:(BitVec.ofInt 64 (b:Int)).toNat=b:=by
  rw [BitVec.ofInt_natCast,BitVec.toNat_ofNat];exact Nat.mod_eq_of_lt (by omega)
 show IntKind.i64.wrap ((BitVec.ofInt 64 (a:Int) ^^^ BitVec.ofInt 64 (b:Int)).toNat:Int)=_
 rw [BitVec.toNat_xor,h1,h2,IntKind.wrap_i64]
 omega
def PickEnd (R:Nat) (w w':World) (v:Value) (b:List UInt8) (p n:Nat) (e:Ending):Prop :=
 ∃ r:Nat,e=.returned (.int .i64 (r:Int))∧r < n∧Hid (DR R w' v b (p+1))∧Hid (But R w w')
theorem pick_any (R:Nat) (w:World) (v:Value) (b:List UInt8) (p n:Nat) (h:DR R w v b p) (hn:1≤n∧n≤1000000) (hp:p≤1000000000) :
 Calls Try.prog 24 #[.pointer (some ⟨R,0,none⟩),.int .i64 (n:Int)] w fun e w'=>PickEnd R w w' v b p n e:=by
 obtain ⟨hn1,hn2⟩:=hn
 obtain ⟨a,cap,hv,hby⟩:=h.bytes
 subst hv
 obtain ⟨k0,k1⟩:=cs2 h.cells (by omega);have f1:=h.cells.frozen 1
 simp only [rowD] at k0 k1
 have hsm:=h.small
 have hq1:decide ((n:Int) < 1)=false:=by simp;omega
 have hend:∀ m,DR R ((w.setCell ⟨R,1,none⟩ (.int .i64 ((p:Int)+1))).drewN m) (.slice a b.length cap) b (p+1)∧But R w ((w.setCell ⟨R,1,none⟩ (.int .i64 ((p:Int)+1))).drewN m):=fun m=>by
  have hb:But R w ((w.setCell ⟨R,1,none⟩ (.int .i64 ((p:Int)+1))).drewN m):=(But.set w 1 _).trans ⟨rfl,rfl,rfl,Nat.le_refl _,fun _ _ _=>rfl⟩
  exact ⟨h.but hb (by have:=rowD_set1 h.cells (.int .i64 ((p:Int)+1));exact this.of_block rfl),hb⟩
 have HEND:=xH hend
 clear hend
 by_cases h0:b.length=0
 · have hz:((b.length:Int)==0)=true:=by simp [h0]
   clear hby h h0
   go_enter Try.func24,Try.ntmps24
   go_wp2_with fail
   go_ret
   exact ⟨0,rfl,by omega,(xU HEND 0).1,(xU HEND 0).2⟩
 · have hz:((b.length:Int)==0)=false:=beq_eq_false_iff_ne.2 (by omega)
   by_cases hlt:p < b.length
   · have hq2:decide ((p:Int) < (b.length:Int))=true:=by simp;omega
     obtain ⟨g,o,rfl,hg,hc⟩:=hby p hlt
     have hx8:=b[p].toNat_lt
     generalize b[p].toNat=x at *
     have hi1:(p:Int) < (b.length:Int):=by omega
     have hne:g≠R:=by omega
     have hne2:R≠g:=by omega
     clear hby h
     go_enter Try.func24,Try.ntmps24
     go_wp2_with fail
     go_ret
     refine ⟨x % n,by simp,Nat.mod_lt _ (by omega),(xU HEND 0).1,(xU HEND 0).2⟩
   · have hq2:decide ((p:Int) < (b.length:Int))=false:=by simp;omega
     have hb1:0 < b.length:=by omega
     obtain ⟨g,o,rfl,hg,-⟩:=hby 0 hb1
     have hm1:p % b.length < b.length:=Nat.mod_lt _ hb1
     have hm2:(p * 7+3) % b.length < b.length:=Nat.mod_lt _ hb1
     obtain ⟨g1,o1,e1,-,c1⟩:=hby (p % b.length) hm1
     obtain ⟨g2,o2,e2,-,c2⟩:=hby ((p * 7+3) % b.length) hm2
     simp only [Option.some.injEq,Addr.mk.injEq,and_true] at e1 e2
     obtain ⟨rfl,rfl⟩:=e1
     obtain ⟨rfl,rfl⟩:=e2
     have hx8:=(b[p % b.length]'hm1).toNat_lt
     have hy8:=(b[(p * 7+3) % b.length]'hm2).toNat_lt
     generalize (b[p % b.length]'hm1).toNat=x at *
     generalize (b[(p * 7+3) % b.length]'hm2).toNat=y at *
     have hi1:(p:Int) % (b.length:Int) < (b.length:Int):=by omega
     have hi2:((p:Int) * 7+3) % (b.length:Int) < (b.length:Int):=Int.emod_lt_of_pos _ (by omega)
     have hj1:0≤(p:Int) % (b.length:Int):=Int.emod_nonneg _ (by omega)
     have hj2:0≤((p:Int) * 7+3) % (b.length:Int):=Int.emod_nonneg _ (by omega)
     have ht1:((p:Int) % (b.length:Int)).toNat=p % b.length:=by rw [← Int.natCast_emod];rfl
     have ht2:(((p:Int) * 7+3) % (b.length:Int)).toNat=(p * 7+3) % b.length:=by
      rw [show (p:Int) * 7+3=((p * 7+3:Nat):Int) from by omega,← Int.natCast_emod];rfl
     have hne:g≠R:=by omega
     have hne2:R≠g:=by omega
     clear hby h
     go_enter Try.func24,Try.ntmps24
     go_wp2_with fail
     go_quiet (fail)
     obtain ⟨z,hz,hzb⟩:∃ z:Nat,wrap64 ((x:Int) * 131+(y:Int) * 1117+(p:Int) * 29+wrap64 (wrap64 ((p:Int) / (b.length:Int)) * 53))=(z:Int)∧z≤1000000000000:=by
      have q0:0≤(p:Int) / (b.length:Int):=Int.ediv_nonneg (by omega) (by omega)
      have q1:(p:Int) / (b.length:Int)≤p:=Int.ediv_le_self _ (by omega)
      generalize (p:Int) / (b.length:Int)=q at *
      refine ⟨(x * 131+y * 1117+p * 29+q.toNat * 53),?_,?_⟩
      · unfold wrap64;omega
      · omega
     rw [hz]
     clear hz
     go_wp2_with fail
     go_ret
     refine ⟨(z ^^^ z / 64) % n,?_,Nat.mod_lt _ (by omega),(xU HEND nq).1,(xU HEND nq).2⟩
     have hx:bits BinOp.xor IntKind.i64 (z:Int) ((z:Int) / 64)=((z ^^^ z / 64:Nat):Int):=i64_xor_nat z (z / 64) (by omega) (by omega)
     rw [hx,Int.tmod_eq_emod_of_nonneg (by omega)]
     simp

theorem DR.set {R X:Nat} {w:World} {v:Value} {b:List UInt8} {p:Nat} (h:DR R w v b p) (hX:R < X) (o:Nat) (u:Value):DR R (w.setCell ⟨X,o,none⟩ u) v b p :=
 h.block (fun g hg=>Below.heap_setCell _ _ _ _ (by simp;omega)) (h.cells.of_block (Below.heap_setCell _ _ _ _ (by simp;omega)))
theorem DR.grown {R:Nat} {w w':World} {v:Value} {b:List UInt8} {p:Nat} {row:Option Nat} (h:DR R w v b p) (hg:w.grownBy w' row) (hr:∀ x,row=some x→R < x):DR R w' v b p :=
 h.block (fun g hlt=>hg.block g (by have:=h.cells.lt;omega) (fun e=>by have:=hr g e.symm;omega)) (h.cells.of_block (hg.block R h.cells.lt (fun e=>by have:=hr R e.symm;omega)))




theorem of_any (R:Nat) (w:World) (v:Value) (b:List UInt8) (p:Nat) (h:DR R w v b p) (hp:p≤100000000) (g n:Nat) (ss:Nat→ByteArray) (hn:1≤n∧n≤1000) (hrow:w.rowIs g 9 n (fun i=>.string (ss i))) (hg:R < g) :
 Calls Try.prog 51 #[.pointer (some ⟨R,0,none⟩),.slice (some ⟨g,0,none⟩) n n] w fun e w'=>∃ r,e=.returned (.string (ss r))∧r < n∧Hid (DR R w' v b (p+1))∧Hid (But R w w'):=by
 obtain ⟨hn1,hn2⟩:=hn
 have HPK:=xH (pick_any R w v b p n h (by omega) (by omega))
 have HROW:=xH hrow
 clear h hrow
 go_enter Try.func51,Try.ntmps51
 go_wp2_with fail
 refine (xU HPK).mono ?_
 rintro e w2 ⟨r,rfl,hr,HD2,HB2⟩
 have e1:w2.cell? ⟨g,r,none⟩=some (.string (ss r)):=((xU HROW).of_block (HB2.out.at (xU HROW).lt (by omega))).cell (i:=r) hr
 have hix:(r:Int) < (n:Int):=by omega
 clear HROW HPK
 go_wp2_with fail
 go_ret
 exact ⟨r,rfl,hr,HD2,HB2⟩

theorem half_even (m X:Nat) (h:m % 2=0):m / 2 * (X+X)=m * X:=by
 obtain ⟨q,rfl⟩:∃ q,m=2 * q:=⟨m / 2,by omega⟩
 rw [show 2 * q / 2=q from by omega,Nat.mul_add,Nat.mul_assoc];omega
theorem half_odd (m X:Nat) (h:m % 2=1):m / 2 * (X+X)+X=m * X:=by
 obtain ⟨q,rfl⟩:∃ q,m=2 * q+1:=⟨m / 2,by omega⟩
 rw [show (2 * q+1) / 2=q from by omega,Nat.mul_add,Nat.add_mul,Nat.mul_assoc,Nat.one_mul];omega

theorem l6Many_le (w:World) (s:ByteArray) (n:Nat) (hs:s.size≤2) (hn:n≤10000) :
 Calls Try.prog 23 #[.string s,.int .i64 (n:Int)] w fun e w'=>∃ out:ByteArray,e=.returned (.string out)∧out.size≤n * s.size∧w'=w:=by
 have h0:n * s.size≤20000:=Nat.le_trans (Nat.mul_le_mul hn hs) (by decide)
 generalize hB:n * s.size=B at *
 have hB':n * s.size≤B:=by omega
 go_enter Try.func23,Try.ntmps23
 go_wp2_with fail
 go_loopw [0,1,5] (fun s0 nn oo wr=>∃ (m:Nat) (x out:ByteArray),s0=.string x∧nn=.int .i64 (m:Int)∧oo=.string out∧m≤10000∧out.size+m * x.size≤B∧x.size≤40000∧Hid (wr=w)) (fun _ nn _ _=>(intOf nn).toNat)
 case atStart=>exact ⟨n,s,⟨#[]⟩,rfl,rfl,rfl,hn,by show 0+_≤_;omega,by omega,rfl⟩
 case round =>
  obtain ⟨m,x,out,rfl,rfl,rfl,hm,hmx,hx,HW⟩:=hrel
  by_cases hm0:m=0
  · have hq:decide ((0:Int) < (m:Int))=false:=by simp;omega
    have hqn:decide (0 < m)=false:=by simp;omega
    clear hm0
    go_wp2_with fail
    go_ret
    exact ⟨out,rfl,by omega,HW.out⟩
  · have hq:decide ((0:Int) < (m:Int))=true:=by simp;omega
    have hqn:decide (0 < m)=true:=by simp;omega
    have hxm:x.size≤m * x.size:=Nat.le_mul_of_pos_left _ (by omega)
    have hl1:¬ (9223372036854775807 < x.size+x.size):=by omega
    have hl2:¬ (9223372036854775807 < out.size+x.size):=by omega
    have hsx:(x++x).size=x.size+x.size:=ByteArray.size_append
    have hso:(out++x).size=out.size+x.size:=ByteArray.size_append
    rcases (show (m:Int) % 2=0∨(m:Int) % 2=1 by omega) with he | he
    · have hh:=half_even m x.size (by omega)
      go_wp2_with fail
      go_roundw
      case rel=>exact ⟨m / 2,x++x,out,rfl,by go_num,rfl,by omega,by rw [hsx];omega,by rw [hsx];omega,HW⟩
      case measure=>simp [intOf];omega
    · have hh:=half_odd m x.size (by omega)
      go_wp2_with fail
      go_roundw
      case rel=>exact ⟨m / 2,x++x,out++x,rfl,by go_num,rfl,by omega,by rw [hsx,hso];omega,by rw [hsx];omega,HW⟩
      case measure=>simp [intOf];omega

def TxEnd (R:Nat) (w w':World) (v:Value) (b:List UInt8) (p most:Nat) (e:Ending):Prop :=
 ∃ (d:ByteArray) (p':Nat),e=.returned (.string d)∧d.size≤most∧p'≤p+3∧Hid (DR R w' v b p')∧Hid (But R w w')
theorem dl_len:∀ (k u:Nat),u < 10 ^ (k+1)→(Lib.decDigits u).length≤k+1
 | 0,u,h=>by
   rw [Lib.decDigits,dif_pos (by omega)];simp
 | k+1,u,h=>by
   rw [Lib.decDigits]
   by_cases hu:u < 10
   · rw [dif_pos hu];simp
   · rw [dif_neg hu]
     have:=dl_len k (u / 10) (by rw [Nat.pow_succ] at h;omega)
     simp only [List.length_append,List.length_cons,List.length_nil];omega
theorem dig_len (n:Int) (h0:0≤n) (h1:n≤999999):(Lib.decDigits n.toNat).length≤6:=dl_len 5 n.toNat (by omega)
theorem of_five (R:Nat) (W:World) (v:Value) (b:List UInt8) (p:Nat) (h:DR R W v b p) (hp:p≤100000000) (x0 x1 x2 x3 x4:ByteArray) (hx:x0.size≤100∧x1.size≤100∧x2.size≤100∧x3.size≤100∧x4.size≤100) :
 Calls Try.prog 51 #[.pointer (some ⟨R,0,none⟩),.slice (some ⟨W.heap.size,0,none⟩) 5 5] (W.alloc (.cells #[.string x0,.string x1,.string x2,.string x3,.string x4] 9)) fun e w'=>∃ y,e=.returned (.string y)∧y.size≤100∧Hid (DR R w' v b (p+1))∧Hid (But R W w'):=by
 have hrow:=World.rowIs_alloc W #[.string x0,.string x1,.string x2,.string x3,.string x4] 9 (fun i=>.string ([x0,x1,x2,x3,x4].getD i ByteArray.empty)) (fun i hi=>by
  have hi5:i < 5:=by simpa using hi
  rcases (show i=0∨i=1∨i=2∨i=3∨i=4 by omega) with rfl | rfl | rfl | rfl | rfl <;> rfl)
 refine (of_any R _ v b p (h.on ((Below.refl _ _).alloc (Nat.le_refl _) _)) hp W.heap.size 5 (fun i=>[x0,x1,x2,x3,x4].getD i ByteArray.empty) (by omega) hrow h.cells.lt).mono ?_
 rintro e w' ⟨r,rfl,hr,HD,HB⟩
 refine ⟨_,rfl,?_,HD,(But.alloc R W _).trans HB.out⟩
 rcases (show r=0∨r=1∨r=2∨r=3∨r=4 by omega) with rfl | rfl | rfl | rfl | rfl
 · exact hx.1
 · exact hx.2.1
 · exact hx.2.2.1
 · exact hx.2.2.2.1
 · exact hx.2.2.2.2
theorem l45Data_any (R:Nat) (w:World) (v:Value) (b:List UInt8) (p:Nat) (i:Int) (h:DR R w v b p) (hp:p≤10000000) (h0:0≤i) (h1:i≤999999) :
 Calls Try.prog 92 #[.pointer (some ⟨R,0,none⟩),.int .i64 i] w fun e w'=>TxEnd R w w' v b p 2000 e:=by
 have HPK:=xH (fun (W:World) (q n:Nat) (hD:DR R W v b q) (hn:1≤n∧n≤1000000) (hq:q≤100000000)=>pick_any R W v b q n hD hn (by omega))
 have HP1:=xH (pick_any R w v b p 14 h (by omega) (by omega))
 have HDC:=xH (fun W=>l6Dec_nat (i.toNat+1) i W h0 (by omega) (by omega))
 have HDL:=xH (dig_len i h0 h1)
 have hR:=h.cells.lt
 clear h
 go_enter Try.func92,Try.ntmps92
 go_wp2_with fail
 refine (xU HP1).mono ?_
 rintro e w1 ⟨r,rfl,hr,HD1,HB1⟩
 clear HP1
 by_cases r0:(r:Int)=0
 · go_wp2_with fail
   go_ret
   exact ⟨_,p+1,rfl,by show 0≤2000;omega,by omega,HD1,HB1⟩
 by_cases r1:(r:Int)=1
 · have HP2:=xH (xU HPK w1 (p+1) 3 HD1.out (by omega) (by omega))
   go_wp2_with fail
   refine (xU HP2).mono ?_
   rintro e w2 ⟨r2,rfl,hr2,HD2,HB2⟩
   obtain ⟨k,hk,hk1⟩:∃ k:Nat,(2000:Int) - (r2:Int) * 900=(k:Int)∧k≤2000:=⟨2000 - r2 * 900,by omega,by omega⟩
   have HM:=xH (l6Many_le w2 ⟨#[121]⟩ k (by decide) (by omega))
   clear HP2
   go_wp2_with fail
   refine (xU HM).mono ?_
   rintro e w3 ⟨out,rfl,hout,rfl⟩
   go_wp2_with fail
   go_ret
   exact ⟨out,p+2,rfl,by have:(⟨#[121]⟩:ByteArray).size=1:=rfl;rw [this] at hout;omega,by omega,HD2,HB1.out.trans HB2.out⟩
 by_cases r2:(r:Int)=2
 · have HP2:=xH (xU HPK w1 (p+1) 10 HD1.out (by omega) (by omega))
   go_wp2_with fail
   refine (xU HP2).mono ?_
   rintro e w2 ⟨r3,rfl,hr3,HD2,HB2⟩
   obtain ⟨k,hk,hk1⟩:∃ k:Nat,(250:Int)+(r3:Int)=(k:Int)∧k≤2000:=⟨250+r3,by omega,by omega⟩
   have HM:=xH (l6Many_le w2 ⟨#[122]⟩ k (by decide) (by omega))
   clear HP2
   go_wp2_with fail
   refine (xU HM).mono ?_
   rintro e w3 ⟨out,rfl,hout,rfl⟩
   go_wp2_with fail
   go_ret
   exact ⟨out,p+2,rfl,by have:(⟨#[122]⟩:ByteArray).size=1:=rfl;rw [this] at hout;omega,by omega,HD2,HB1.out.trans HB2.out⟩
 go_wp2_with fail
 refine (xU HDC _).mono ?_
 rintro e w2 ⟨rfl,hb2⟩
 have hd2:=HD1.out.on hb2
 have HOF:=xH (of_five R w2 v b (p+1) hd2 (by omega))
 have HB2:=xH (HB1.out.trans (But.of_below hb2))
 have hdl:=xU HDL
 have hds:(⟨(Lib.decDigits i.toNat).toArray⟩:ByteArray).size≤6:=by show (Lib.decDigits i.toNat).toArray.size≤6;simpa using hdl
 clear hb2 hd2 HDC hdl HDL
 generalize (⟨(Lib.decDigits i.toNat).toArray⟩:ByteArray)=dd at *
 go_wp2_with fail
 refine (xU HOF _ _ _ _ _ (by decide)).mono ?_
 rintro e w3 ⟨y,rfl,hy,HD3,HB3⟩
 go_wp2_with fail
 go_ret
 refine ⟨_,p+1+1,rfl,?_,by omega,HD3,HB2.out.trans HB3.out⟩
 rw [ByteArray.size_append,ByteArray.size_append]
 have:(⟨#[114]⟩:ByteArray).size=1:=rfl
 omega
end Go.Proofs.Yteikmbkljkkjiaa
