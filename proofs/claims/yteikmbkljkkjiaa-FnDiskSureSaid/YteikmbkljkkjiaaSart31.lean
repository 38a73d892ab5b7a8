/- A part. -/
import Derived.Laws.CopyOwn
import Derived.Test.YteikmbkljkkjiaaSart11
set_option maxRecDepth 100000
set_option maxHeartbeats 6400000
namespace Go.Proofs.Yteikmbkljkkjiaa
open Go Go.RowKit
structure CfSt (w:World) (x y z:Value) (W:World):Prop where
 below:Below w.heap.size w W
 box:W.rowIs w.heap.size 44 3 (row3 x y z)
 out:W.rowIs (w.heap.size+1) 44 3 (row3 (.string ByteArray.empty) (.string ByteArray.empty) (.int .i64 0))
theorem CfSt.on {w W W':World} {x y z:Value} (h:CfSt w x y z W) (hb:Below W.heap.size W W'):CfSt w x y z W' :=
 ⟨h.below.trans (hb.mono h.below.size),h.box.of_block (hb.block _ h.box.lt),h.out.of_block (hb.block _ h.out.lt)⟩
theorem CfSt.drew {w W:World} {x y z:Value} (h:CfSt w x y z W):CfSt w x y z W.drew:=h.on (Below.refl _ _).drew
theorem CfSt.c {w W:World} {x y:ByteArray} {z:Int} (h:CfSt w (.string x) (.string y) (.int .i64 z) W):W.cell? ⟨w.heap.size,0,none⟩=some (.string x)∧W.cell? ⟨w.heap.size,1,none⟩=some (.string y)∧W.cell? ⟨w.heap.size,2,none⟩=some (.int .i64 z)∧W.cell? ⟨w.heap.size+1,0,none⟩=some (.string ByteArray.empty)∧W.cell? ⟨w.heap.size+1,1,none⟩=some (.string ByteArray.empty)∧W.cell? ⟨w.heap.size+1,2,none⟩=some (.int .i64 0)∧W.frozen? ⟨w.heap.size+1,0,none⟩=false∧W.frozen? ⟨w.heap.size+1,1,none⟩=false∧W.frozen? ⟨w.heap.size+1,2,none⟩=false :=
 ⟨h.box.cell (i:=0) (by omega),h.box.cell (i:=1) (by omega),h.box.cell (i:=2) (by omega),h.out.cell (i:=0) (by omega),h.out.cell (i:=1) (by omega),h.out.cell (i:=2) (by omega),h.out.frozen 0,h.out.frozen 1,h.out.frozen 2⟩
theorem fileCopy_any (x y:ByteArray) (z:Int) (w:World) (hx:x.size≤1099511627776) (hy:y.size≤1099511627776) :
 Calls Try.prog 115 #[.agg #[.string x,.string y,.int .i64 z]] w fun e w'=>e=.returned (.agg #[.string x,.string y,.int .i64 z])∧Below w.heap.size w w':=by
 obtain ⟨W0,hW0⟩:∃ W0,(w.alloc (.cells #[.string x,.string y,.int .i64 z] 44)).alloc (.cells #[.string ByteArray.empty,.string ByteArray.empty,.int .i64 0] 44)=W0:=⟨_,rfl⟩
 have hst:CfSt w (.string x) (.string y) (.int .i64 z) W0:=by
  rw [← hW0]
  have q:=row3_alloc (w.alloc (.cells #[.string x,.string y,.int .i64 z] 44)) (.string ByteArray.empty) (.string ByteArray.empty) (.int .i64 0) 44
  rw [World.size_alloc] at q
  exact ⟨((Below.refl _ w).alloc (Nat.le_refl _) _).alloc (by simp) _,(row3_alloc w _ _ _ _).alloc _,q⟩
 have HCL:Hid (∀ (s:ByteArray) (W:World),s.size≤1099511627776→CfSt w (.string x) (.string y) (.int .i64 z) W→Calls Try.prog 40 #[.string s] W fun e w'=>e=.returned (.string s)∧Hid (CfSt w (.string x) (.string y) (.int .i64 z) w')∧w'.cell? ⟨w.heap.size,0,none⟩=some (.string x)∧w'.cell? ⟨w.heap.size,1,none⟩=some (.string y)∧w'.cell? ⟨w.heap.size,2,none⟩=some (.int .i64 z)∧w'.cell? ⟨w.heap.size+1,0,none⟩=some (.string ByteArray.empty)∧w'.cell? ⟨w.heap.size+1,1,none⟩=some (.string ByteArray.empty)∧w'.cell? ⟨w.heap.size+1,2,none⟩=some (.int .i64 0)∧w'.frozen? ⟨w.heap.size+1,0,none⟩=false∧w'.frozen? ⟨w.heap.size+1,1,none⟩=false∧w'.frozen? ⟨w.heap.size+1,2,none⟩=false):=fun s W hs hW =>
  (clone_any s W (by omega)).mono fun e w' ⟨h1,h2⟩=>⟨h1,xH (hW.on h2),(hW.on h2).c⟩
 obtain ⟨f0,f1,f2,f3,f4,f5,f6,f7,f8⟩:=hst.c
 have HST:=xH hst;have HSTD:=xH hst.drew
 clear hst
 subst hW0
 go_enter Try.func115,Try.ntmps115
 go_wp2_with fail
 go_region_held3 (fun W=>W.cell? ⟨w.heap.size,0,none⟩=some (.string x)∧W.cell? ⟨w.heap.size,1,none⟩=some (.string y)∧W.cell? ⟨w.heap.size,2,none⟩=some (.int .i64 z)) (first | exact ⟨z0,z1,z2⟩ | exact ⟨f0,f1,f2⟩ | go_keep)
  (first | (go_at_call 40;refine (xU HCL _ _ (by assumption) (by first | exact xU HSA | exact (xU HSA).drew | exact xU HSTD | exact xU HST)).mono ?_;rintro e w2 ⟨rfl,HSA,z0,z1,z2,z3,z4,z5,z6,z7,z8⟩))
 all_goals
  go_wp2_with fail
  refine bodyPost_ret (v:=.agg #[.string x,.string y,.int .i64 z]) (by simp [results,Try.results115,go_sem,z3,z4,z5]) rfl ⟨rfl,?_⟩
  exact (((xU HSA).below.setCell (by simp) _).setCell (by simp) _).setCell (by simp) _
structure CmSt (w:World) (x y:Value) (W:World):Prop where
 below:Below w.heap.size w W
 box:W.rowIs w.heap.size 60 2 (fun i=>if i=0 then x else y)
 out:W.rowIs (w.heap.size+1) 60 2 (fun i=>if i=0 then .bool false else .string ByteArray.empty)
theorem CmSt.on {w W W':World} {x y:Value} (h:CmSt w x y W) (hb:Below W.heap.size W W'):CmSt w x y W' :=
 ⟨h.below.trans (hb.mono h.below.size),h.box.of_block (hb.block _ h.box.lt),h.out.of_block (hb.block _ h.out.lt)⟩
theorem CmSt.drew {w W:World} {x y:Value} (h:CmSt w x y W):CmSt w x y W.drew:=h.on (Below.refl _ _).drew
theorem CmSt.c {w W:World} {x y:Value} (h:CmSt w x y W):W.cell? ⟨w.heap.size,0,none⟩=some x∧W.cell? ⟨w.heap.size,1,none⟩=some y∧W.cell? ⟨w.heap.size+1,0,none⟩=some (.bool false)∧W.cell? ⟨w.heap.size+1,1,none⟩=some (.string ByteArray.empty)∧W.frozen? ⟨w.heap.size+1,0,none⟩=false∧W.frozen? ⟨w.heap.size+1,1,none⟩=false :=
 ⟨h.box.cell (i:=0) (by omega),h.box.cell (i:=1) (by omega),h.out.cell (i:=0) (by omega),h.out.cell (i:=1) (by omega),h.out.frozen 0,h.out.frozen 1⟩
theorem row2_new (w:World) (x y:Value) (t:TypeId):(w.alloc (.cells #[x,y] t)).rowIs w.heap.size t 2 (fun i=>if i=0 then x else y):=by
 refine ⟨#[x,y],heap_alloc_new w _,rfl,fun i hi=>?_⟩
 match i,hi with
 | 0,_=>rfl
 | 1,_=>rfl
theorem moveCopy_any (g:Bool) (y:ByteArray) (w:World) (hy:y.size≤1099511627776) :
 Calls Try.prog 116 #[.agg #[.bool g,.string y]] w fun e w'=>e=.returned (.agg #[.bool g,.string y])∧Below w.heap.size w w':=by
 obtain ⟨W0,hW0⟩:∃ W0,(w.alloc (.cells #[.bool g,.string y] 60)).alloc (.cells #[.bool false,.string ByteArray.empty] 60)=W0:=⟨_,rfl⟩
 have hst:CmSt w (.bool g) (.string y) W0:=by
  rw [← hW0]
  have q:=row2_new (w.alloc (.cells #[.bool g,.string y] 60)) (.bool false) (.string ByteArray.empty) 60
  rw [World.size_alloc] at q
  exact ⟨((Below.refl _ w).alloc (Nat.le_refl _) _).alloc (by simp) _,(row2_new w _ _ _).alloc _,q⟩
 have HCL:Hid (∀ (s:ByteArray) (W:World),s.size≤1099511627776→CmSt w (.bool g) (.string y) W→Calls Try.prog 40 #[.string s] W fun e w'=>e=.returned (.string s)∧Hid (CmSt w (.bool g) (.string y) w')∧w'.cell? ⟨w.heap.size,0,none⟩=some (.bool g)∧w'.cell? ⟨w.heap.size,1,none⟩=some (.string y)∧w'.cell? ⟨w.heap.size+1,0,none⟩=some (.bool false)∧w'.cell? ⟨w.heap.size+1,1,none⟩=some (.string ByteArray.empty)∧w'.frozen? ⟨w.heap.size+1,0,none⟩=false∧w'.frozen? ⟨w.heap.size+1,1,none⟩=false):=fun s W hs hW =>
  (clone_any s W (by omega)).mono fun e w' ⟨h1,h2⟩=>⟨h1,xH (hW.on h2),(hW.on h2).c⟩
 obtain ⟨f0,f1,f3,f4,f6,f7⟩:=hst.c
 have HST:=xH hst;have HSTD:=xH hst.drew
 clear hst
 subst hW0
 go_enter Try.func116,Try.ntmps116
 go_wp2_with fail
 go_region_held3 (fun W=>W.cell? ⟨w.heap.size,0,none⟩=some (.bool g)∧W.cell? ⟨w.heap.size,1,none⟩=some (.string y)) (first | exact ⟨z0,z1⟩ | exact ⟨f0,f1⟩ | go_keep)
  (first | (go_at_call 40;refine (xU HCL _ _ (by assumption) (by first | exact xU HSA | exact (xU HSA).drew | exact xU HSTD | exact xU HST)).mono ?_;rintro e w2 ⟨rfl,HSA,z0,z1,z3,z4,z6,z7⟩))
 all_goals
  go_wp2_with fail
  refine bodyPost_ret (v:=.agg #[.bool g,.string y]) (by simp [results,Try.results116,go_sem,z3,z4]) rfl ⟨rfl,?_⟩
  exact ((xU HSA).below.setCell (by simp) _).setCell (by simp) _
end Go.Proofs.Yteikmbkljkkjiaa

namespace Go.Proofs.Yteikmbkljkkjiaa
open Go Go.RowKit
theorem run_copy_whole {P:Program} (w:World) (T ty elem:TypeId) (i:TypeInfo) (g m cap:Nat) (a:Addr) (sCap:Nat) (cur:Array Value) (t:TypeId) (cs:List Value)
 (hu:P.underlying T=some (.slice elem)) (hi:P.info? elem=some i) (hg:w.heap[g]? = some (.cells cur t (0,0))) (hn:cs.length=m * i.size) (hc:cur.size=m * i.size)
 (hsrc:∀ j v,cs[j]? = some v→w.cell? (a.add j)=some v) (h1:∀ v∈cs,v.oneCell'=true) :
 (Builtin.copy_ #[T,T] ty #[.slice (some ⟨g,0,none⟩) m cap,.slice (some a) m sCap]).run P w=.ok (goInt m) (w.setRow g cs.toArray):=by
 have hl:=run_loadCells_list (P:=P) w a cs hsrc
 have hst:=run_storeCells_at P g 0 t cs 0 cur w hg (by omega) h1
 have he:(cur.toList.take (0+0)++cs++cur.toList.drop (0+0+cs.length))=cs:=by
  rw [List.drop_eq_nil_of_le (by simp;omega)];simp
 rw [he] at hst
 rw [hn] at hl
 simp [Builtin.copy_,run_underlying hu,Builtin.lenOf,Builtin.firstCells,sizeOf,typeInfo,hi,hl,hst]
theorem setCell_idem {w:World} {g i:Nat} {cur:Array Value} {t:TypeId} {fr:Nat × Nat} {v:Value} (hg:w.heap[g]? = some (.cells cur t fr)) (h:cur[i]? = some v):w.setCell ⟨g,i,none⟩ v=w:=by
 rw [setCell_eq_setRow w g i cur t fr v hg]
 have hc:cur.setIfInBounds i v=cur:=by
  obtain ⟨hlt,hv⟩:=Array.getElem?_eq_some_iff.1 h
  subst hv
  simp [Array.setIfInBounds,hlt]
 rw [hc]
 exact setRow_self w g cur t fr hg
end Go.Proofs.Yteikmbkljkkjiaa

namespace Go.Proofs.Yteikmbkljkkjiaa
open Go Go.RowKit
theorem own_of_block {w:World} {base g n size:Nat} {t:TypeId} {xs:List Value} (hg:w.heap[g]? = some (.cells xs.toArray t (0,0))) (hb:base≤g) (hl:xs.length=n * size) (hm:n≤maxLen):w.ownsRow base t size (.slice (some ⟨g,0,none⟩) n n) n xs :=
 ⟨hl,Or.inr ⟨g,n,xs.toArray,rfl,hb,hg,Nat.le_refl _,hm,by simpa using hl,by rw [← hl];simp⟩⟩
theorem copiesF_any (fs:List Df) (P:Nat→Prop) (a:Option Addr) (cap:Nat) (w:World) (hv:FsAt P w (.slice a fs.length cap) fs) (hl:fs.length≤1000) (hs:∀ f,f∈fs→f.name.size≤1099511627776∧f.data.size≤1099511627776) :
 Calls Try.prog 57 #[.slice a fs.length cap] w fun e w'=>∃ a' cap',e=.returned (.slice a' fs.length cap')∧w'.ownsRow w.heap.size 44 3 (.slice a' fs.length cap') fs.length (fs.map Df.cs).flatten∧Below w.heap.size w w':=by
 by_cases h0:fs.length=0
 · have hnil:fs=[]:=List.eq_nil_of_length_eq_zero h0
   subst hnil
   clear hv hs
   go_enter Try.func57,Try.ntmps57
   go_wp2_with fail
   go_ret
   exact ⟨none,0,rfl,World.ownsRow_nil _ _ _ _,Below.refl _ _⟩
 have hcs:∀ r,r∈fs.map Df.cs→r.length=3:=fun r hr=>by obtain ⟨f,-,rfl⟩:=List.mem_map.1 hr;rfl
 obtain ⟨ad,rfl,hsrc⟩:=flat_src hv.1 hcs (by omega)
 have hfl:=flat_len (fs.map Df.cs) hcs
 rw [List.length_map] at hfl
 have h1c:∀ u∈(fs.map Df.cs).flatten,u.oneCell'=true:=fun u hu=>by
  obtain ⟨r,hr,hu⟩:=List.mem_flatten.1 hu
  obtain ⟨f,-,rfl⟩:=List.mem_map.1 hr
  simp only [Df.cs,List.mem_cons,List.not_mem_nil,or_false] at hu
  rcases hu with rfl | rfl | rfl <;> rfl
 obtain ⟨i0,hi,hz0,hz1,hz2⟩:=infoFileD
 have hmk:=run_make_file fs.length (by omega)
 have HSRC:=xH (fun o=>show ∀ j u,(fs.map Df.cs).flatten[j]? = some u→(w.alloc o).cell? (ad.add j)=some u from fun j u hj=>by
  have hc:=hsrc j u hj
  rw [World.cell?_of_block (w:=w) (heap_alloc_old w o (World.block_lt_of_cell? w _ hc))];exact hc)
 have HOK:=xH hv.2;have HSZ:=xH hs;have HCS:=xH hcs
 have hcp:=run_copy_whole (P:=Try.prog) (w.alloc (.cells (madeCells zF (fs.length * 3)) 44)) 23 3 44 i0 w.heap.size fs.length fs.length ad cap (madeCells zF (fs.length * 3)) 44 (fs.map Df.cs).flatten Try.underlying23 hi (heap_alloc_new w _) (by rw [hz1];exact hfl) (by rw [size_madeCells,hz1]) (xU HSRC _) h1c
 obtain ⟨W2,hW2⟩:∃ W2,(w.alloc (.cells (madeCells zF (fs.length * 3)) 44)).setRow w.heap.size (fs.map Df.cs).flatten.toArray=W2:=⟨_,rfl⟩
 have hg2:W2.heap[w.heap.size]? = some (.cells (fs.map Df.cs).flatten.toArray 44 (0,0)):=by rw [← hW2];exact setRow_heap _ w.heap.size (madeCells zF (fs.length * 3)) _ _ _ (heap_alloc_new w _)
 have hb2:Below w.heap.size w W2:=by rw [← hW2];exact below_setRow ((Below.refl _ w).alloc (Nat.le_refl _) _) (Nat.le_refl _) _
 rw [hW2] at hcp
 have HG2:=xH hg2
 have hq:(((fs.length:Nat):Int)==0)=false:=by
  rw [beq_eq_false_iff_ne];omega
 have hs2:w.heap.size < W2.heap.size:=(Array.getElem?_eq_some_iff.1 hg2).1
 have HB2:=xH hb2
 clear hv hsrc hs hcs h1c hi hz0 hz2 hfl hz1 hb2 hg2 hW2 HSRC
 go_enter Try.func57,Try.ntmps57
 go_wp2_with fail
 clear hcp hmk
 go_loopw [16] (fun i wr=>∃ (k:Nat),k≤fs.length∧i=.int .i64 k∧Hid (wr.heap[w.heap.size]? = some (.cells (fs.map Df.cs).flatten.toArray 44 (0,0)))∧Hid (Below w.heap.size w wr)) (fun i _=>fs.length - (intOf i).toNat)
 case atStart=>exact ⟨0,Nat.zero_le _,rfl,HG2,HB2⟩
 case round =>
  clear HG2 HB2
  obtain ⟨k,hk,rfl,HG,HB⟩:=hrel
  by_cases hlt:k < fs.length
  · have hc:∀ j,j < 3→(fs.map Df.cs).flatten[k * 3+j]? = some (fs[k].cs.getD j undef):=fun j hj=>by
     have:=flat_get (fs.map Df.cs) (xU HCS) k (by rw [List.length_map];exact hlt) j hj
     rw [List.getElem_map] at this
     exact this
    have hcw:∀ (V:World),V.heap[w.heap.size]? = some (.cells (fs.map Df.cs).flatten.toArray 44 (0,0))→∀ j,j < 3→V.cell? ⟨w.heap.size,k * 3+j,none⟩=some (fs[k].cs.getD j undef)∧V.frozen? ⟨w.heap.size,k * 3+j,none⟩=false∧V.setCell ⟨w.heap.size,k * 3+j,none⟩ (fs[k].cs.getD j undef)=V:=fun V hV j hj=>by
     have h1:=hc j hj
     refine ⟨by simp only [World.cell?, hV];simpa using h1,by simp [World.frozen?, hV],setCell_idem hV (by simpa using h1)⟩
    have hz:=xU HSZ fs[k] (List.getElem_mem hlt)
    have e0:=(hcw wr HG.out 0 (by omega)).1;have e1:=(hcw wr HG.out 1 (by omega)).1;have e2:=(hcw wr HG.out 2 (by omega)).1
    have HCW:=xH hcw
    clear hc hcw
    simp only [Df.cs,List.getD_cons_zero,List.getD_cons_succ,Nat.add_zero] at e0 e1 e2
    generalize hfk:fs[k]=x at *
    have HFC:=xH (fileCopy_any x.name x.data x.kept wr hz.1 hz.2)
    clear hz
    go_wp2_with (first
     | (refine (xU HFC).mono ?_;rintro e w3 ⟨rfl,hb3⟩
        have hg3:=(hb3.block w.heap.size (Array.getElem?_eq_some_iff.1 HG.out).1).trans HG.out
        have c0:=xU HCW w3 hg3 0 (by omega);have c1:=xU HCW w3 hg3 1 (by omega);have c2:=xU HCW w3 hg3 2 (by omega)
        simp only [Df.cs,List.getD_cons_zero,List.getD_cons_succ,Nat.add_zero] at c0 c1 c2
        obtain ⟨c0a,c0b,c0c⟩:=c0;obtain ⟨c1a,c1b,c1c⟩:=c1;obtain ⟨c2a,c2b,c2c⟩:=c2
        have HG3:=xH hg3;have HB3:=xH (HB.out.trans (hb3.mono HB.out.size));clear hg3 hb3))
    go_roundw
    case rel=>exact ⟨k+1,by omega,by go_num,HG3,HB3⟩
    case measure=>simp [intOf];omega
  · go_wp2_with fail
    go_ret
    exact ⟨_,_,rfl,own_of_block HG.out (Nat.le_refl _) (by rw [flat_len _ (xU HCS),List.length_map]) (by unfold maxLen;omega),HB.out⟩
theorem copiesM_any (fs:List Dm) (P:Nat→Prop) (a:Option Addr) (cap:Nat) (w:World) (hv:MsAt P w (.slice a fs.length cap) fs) (hl:fs.length≤1000) (hs:∀ f,f∈fs→f.name.size≤1099511627776) :
 Calls Try.prog 58 #[.slice a fs.length cap] w fun e w'=>∃ a' cap',e=.returned (.slice a' fs.length cap')∧w'.ownsRow w.heap.size 60 2 (.slice a' fs.length cap') fs.length (fs.map Dm.cs).flatten∧Below w.heap.size w w':=by
 by_cases h0:fs.length=0
 · have hnil:fs=[]:=List.eq_nil_of_length_eq_zero h0
   subst hnil
   clear hv hs
   go_enter Try.func58,Try.ntmps58
   go_wp2_with fail
   go_ret
   exact ⟨none,0,rfl,World.ownsRow_nil _ _ _ _,Below.refl _ _⟩
 have hcs:∀ r,r∈fs.map Dm.cs→r.length=2:=fun r hr=>by obtain ⟨f,-,rfl⟩:=List.mem_map.1 hr;rfl
 obtain ⟨ad,rfl,hsrc⟩:=flat_src hv.1 hcs (by omega)
 have hfl:=flat_len (fs.map Dm.cs) hcs
 rw [List.length_map] at hfl
 have h1c:∀ u∈(fs.map Dm.cs).flatten,u.oneCell'=true:=fun u hu=>by
  obtain ⟨r,hr,hu⟩:=List.mem_flatten.1 hu
  obtain ⟨f,-,rfl⟩:=List.mem_map.1 hr
  simp only [Dm.cs,List.mem_cons,List.not_mem_nil,or_false] at hu
  rcases hu with rfl | rfl <;> rfl
 obtain ⟨i0,hi,hz0,hz1,hz2⟩:=infoMoveD
 have hmk:=run_make_move fs.length (by omega)
 have HSRC:=xH (fun o=>show ∀ j u,(fs.map Dm.cs).flatten[j]? = some u→(w.alloc o).cell? (ad.add j)=some u from fun j u hj=>by
  have hc:=hsrc j u hj
  rw [World.cell?_of_block (w:=w) (heap_alloc_old w o (World.block_lt_of_cell? w _ hc))];exact hc)
 have HOK:=xH hv.2;have HSZ:=xH hs;have HCS:=xH hcs
 have hcp:=run_copy_whole (P:=Try.prog) (w.alloc (.cells (madeCells zM (fs.length * 2)) 60)) 25 3 60 i0 w.heap.size fs.length fs.length ad cap (madeCells zM (fs.length * 2)) 60 (fs.map Dm.cs).flatten Try.underlying25 hi (heap_alloc_new w _) (by rw [hz1];exact hfl) (by rw [size_madeCells,hz1]) (xU HSRC _) h1c
 obtain ⟨W2,hW2⟩:∃ W2,(w.alloc (.cells (madeCells zM (fs.length * 2)) 60)).setRow w.heap.size (fs.map Dm.cs).flatten.toArray=W2:=⟨_,rfl⟩
 have hg2:W2.heap[w.heap.size]? = some (.cells (fs.map Dm.cs).flatten.toArray 60 (0,0)):=by rw [← hW2];exact setRow_heap _ w.heap.size (madeCells zM (fs.length * 2)) _ _ _ (heap_alloc_new w _)
 have hb2:Below w.heap.size w W2:=by rw [← hW2];exact below_setRow ((Below.refl _ w).alloc (Nat.le_refl _) _) (Nat.le_refl _) _
 rw [hW2] at hcp
 have HG2:=xH hg2
 have hq:(((fs.length:Nat):Int)==0)=false:=by
  rw [beq_eq_false_iff_ne];omega
 have hs2:w.heap.size < W2.heap.size:=(Array.getElem?_eq_some_iff.1 hg2).1
 have HB2:=xH hb2
 clear hv hsrc hs hcs h1c hi hz0 hz2 hfl hz1 hb2 hg2 hW2 HSRC
 go_enter Try.func58,Try.ntmps58
 go_wp2_with fail
 clear hcp hmk
 go_loopw [16] (fun i wr=>∃ (k:Nat),k≤fs.length∧i=.int .i64 k∧Hid (wr.heap[w.heap.size]? = some (.cells (fs.map Dm.cs).flatten.toArray 60 (0,0)))∧Hid (Below w.heap.size w wr)) (fun i _=>fs.length - (intOf i).toNat)
 case atStart=>exact ⟨0,Nat.zero_le _,rfl,HG2,HB2⟩
 case round =>
  clear HG2 HB2
  obtain ⟨k,hk,rfl,HG,HB⟩:=hrel
  by_cases hlt:k < fs.length
  · have hc:∀ j,j < 2→(fs.map Dm.cs).flatten[k * 2+j]? = some (fs[k].cs.getD j undef):=fun j hj=>by
     have:=flat_get (fs.map Dm.cs) (xU HCS) k (by rw [List.length_map];exact hlt) j hj
     rw [List.getElem_map] at this
     exact this
    have hcw:∀ (V:World),V.heap[w.heap.size]? = some (.cells (fs.map Dm.cs).flatten.toArray 60 (0,0))→∀ j,j < 2→V.cell? ⟨w.heap.size,k * 2+j,none⟩=some (fs[k].cs.getD j undef)∧V.frozen? ⟨w.heap.size,k * 2+j,none⟩=false∧V.setCell ⟨w.heap.size,k * 2+j,none⟩ (fs[k].cs.getD j undef)=V:=fun V hV j hj=>by
     have h1:=hc j hj
     refine ⟨by simp only [World.cell?, hV];simpa using h1,by simp [World.frozen?, hV],setCell_idem hV (by simpa using h1)⟩
    have hz:=xU HSZ fs[k] (List.getElem_mem hlt)
    have e0:=(hcw wr HG.out 0 (by omega)).1;have e1:=(hcw wr HG.out 1 (by omega)).1
    have HCW:=xH hcw
    clear hc hcw
    simp only [Dm.cs,List.getD_cons_zero,List.getD_cons_succ,Nat.add_zero] at e0 e1
    generalize hfk:fs[k]=x at *
    have HFC:=xH (moveCopy_any x.gone x.name wr hz)
    clear hz
    go_wp2_with (first
     | (refine (xU HFC).mono ?_;rintro e w3 ⟨rfl,hb3⟩
        have hg3:=(hb3.block w.heap.size (Array.getElem?_eq_some_iff.1 HG.out).1).trans HG.out
        have c0:=xU HCW w3 hg3 0 (by omega);have c1:=xU HCW w3 hg3 1 (by omega)
        simp only [Dm.cs,List.getD_cons_zero,List.getD_cons_succ,Nat.add_zero] at c0 c1
        obtain ⟨c0a,c0b,c0c⟩:=c0;obtain ⟨c1a,c1b,c1c⟩:=c1
        have HG3:=xH hg3;have HB3:=xH (HB.out.trans (hb3.mono HB.out.size));clear hg3 hb3))
    go_roundw
    case rel=>exact ⟨k+1,by omega,by go_num,HG3,HB3⟩
    case measure=>simp [intOf];omega
  · go_wp2_with fail
    go_ret
    exact ⟨_,_,rfl,own_of_block HG.out (Nat.le_refl _) (by rw [flat_len _ (xU HCS),List.length_map]) (by unfold maxLen;omega),HB.out⟩
end Go.Proofs.Yteikmbkljkkjiaa

namespace Go.Proofs.Yteikmbkljkkjiaa
open Go Go.RowKit Go.WideMaps Go.Maps
def OwnEnd (w w':World) (e:Ending) (d:Dk):Prop :=
 ∃ (c:C3) (F0 F1 F2:List Nat),e=.returned (.agg #[c.c0,c.c1,c.c2])∧DkOwn w' d c F0 F1 F2∧(F0++F1++F2).Nodup∧(∀ b,b∈F0++F1++F2→w.heap.size≤b∧b < w'.heap.size)∧Below w.heap.size w w'
theorem but_grown {L:Nat} {w W W':World} {row:Option Nat} (h:But L w W) (hg:W.grownBy W' row) (hr:∀ g,row=some g→w.heap.size≤g):But L w W' :=
 ⟨hg.os.trans h.os,hg.tape.trans h.tape,hg.output.trans h.output,Nat.le_trans h.size hg.size,fun i hi hne=>(hg.block i (Nat.lt_of_lt_of_le hi h.size) (fun e=>by have:=hr i e.symm;omega)).trans (h.block i hi hne)⟩
theorem CtSt.end {base L:Nat} {W:World} {vf vn:Value} {fs:List Df} {ns:List ByteArray} (h:CtSt base L W vf vn fs ns) (hf:∀ f,f∈fs→f.okM) (hn:∀ x,x∈ns→x.size≤9223372036854775807) :
 ∃ F0 F1,DkOwn W ⟨fs,ns,[]⟩ ⟨vf,vn,.slice none 0 0⟩ F0 F1 []∧(F0++F1++[]).Nodup∧∀ b,b∈F0++F1++[]→base≤b∧b < W.heap.size:=by
 obtain ⟨F0,h1,h2,h3,h4⟩:=FlatOwn.of_row (rs:=fs.map Df.cs) (n:=3) (by rw [List.length_map];exact h.of) (fun r hr=>by obtain ⟨f,-,rfl⟩:=List.mem_map.1 hr;rfl)
 obtain ⟨F1,g1,g2,g3,g4⟩:=strsOwn_of_row h.on hn
 refine ⟨F0,F1,⟨⟨h1,hf⟩,g1,⟨FlatOwn.nil W 2,fun f hf=>(by cases hf)⟩⟩,?_,fun b hb=>?_⟩
 · rw [List.append_nil]
   exact List.nodup_append.2 ⟨h4,g2,fun a ha b hb e=>by subst e;exact h.ne a (h2 a ha) (g4 a hb)⟩
 · rw [List.append_nil] at hb
   rcases List.mem_append.1 hb with hb | hb
   · exact h3 b hb
   · exact g3 b hb
theorem implDiskCut_any (d:Dk) (m:Int) (zs:List Int) (P:Nat→Prop) (c:C3) (v:Value) (w:World) (hP:∀ b,P b→b < w.heap.size) (hd:DkAt P w d c) (hz:ZsAt P w v zs) :
 Calls Try.prog 16 #[.agg #[c.c0,c.c1,c.c2],.int .i64 m,v] w fun e w'=>OwnEnd w w' e (cutD d m zs):=by
 obtain ⟨c0,c1,c2⟩:=c
 have HD:=xH hd;have HP:=xH hP;have HZ:=xH hz
 have hbx:∀ o o',Below w.heap.size w ((w.alloc o).alloc o'):=fun o o'=>((Below.refl _ _).alloc (Nat.le_refl _) o).alloc (by simp) o'
 have HV:=xH (fun o o'=>viewsOf_any d P ⟨c0,c1,c2⟩ ((w.alloc o).alloc o') (fun b hb=>Nat.lt_of_lt_of_le (hP b hb) (hbx o o').size) (hd.carry (fun b hb=>(hbx o o').block b (hP b hb)) (fun _ h=>h)))
 have HBX:=xH hbx
 have hr2:∀ o,((w.alloc o).alloc (.cells #[.slice none 0 0,.slice none 0 0,.slice none 0 0] 27)).rowIs (w.heap.size+1) 27 3 (row3 (.slice none 0 0) (.slice none 0 0) (.slice none 0 0)):=fun o=>by
  have:=row3_alloc (w.alloc o) (.slice none 0 0) (.slice none 0 0) (.slice none 0 0) 27
  rw [World.size_alloc] at this
  exact this
 have HR2:=xH hr2
 obtain ⟨az,cz,rfl,hzl,-⟩:=hz
 clear hd hP hbx hr2
 go_enter Try.func16,Try.ntmps16
 go_wp2_with fail
 refine (xU HV _ _).mono ?_
 rintro e w1 ⟨r,q0,q1,x2,n2,m2,q3,x4,n4,m4,rfl,hr,hb1,hvw⟩
 have hb01:=(xU HBX _ _).trans (hb1.mono (xU HBX _ _).size)
 have hs1:w.heap.size+2≤w1.heap.size:=by have:=hb1.size;simpa using this
 have hq2:=(xU HR2 _).of_block (hb1.block (w.heap.size+1) (by simp))
 have HB1:=xH hb01;have Q2:=xH hq2
 clear hb1 HV hb01
 cases r with
 | false =>
   have HNO:=xH (show cutD d m zs=⟨[],[],[]⟩ from cutD_no (fun h=>by have:=hr.2 ((dkOk_iff d).1 h);cases this))
   have hq3:=fun o'=>hq2.alloc o'
   have y0:=fun o'=>(hq3 o').cell (i:=0) (by omega);have y1:=fun o'=>(hq3 o').cell (i:=1) (by omega);have y2:=fun o'=>(hq3 o').cell (i:=2) (by omega)
   have z:=fun o'=>(hq3 o').frozen
   simp only [row3] at y0 y1 y2
   clear hr hvw hq2 hq3
   go_wp2_with fail
   try simp only [Exit.inBlock,Exit.then]
   refine bodyPost_ret (v:=.agg #[.slice none 0 0,.slice none 0 0,.slice none 0 0]) (by simp [results,Try.results16,go_sem,y0,y1,y2]) rfl ?_
   rw [xU HNO]
   refine ⟨⟨_,_,_⟩,[],[],[],rfl,DkOwn.none _,by simp,fun b hb=>(by cases hb),?_⟩
   exact ((((xU HB1).alloc (xU HB1).size _).setCell (by simp) _).setCell (by simp) _).setCell (by simp) _
 | true =>
   obtain ⟨T,B,vm,hvw⟩:=hvw rfl
   have hok:=(dkOk_iff d).2 (hr.1 rfl)
   clear hr hq2
   have hval:=hvw.val
   simp only [Value.agg.injEq,Array.mk.injEq,List.cons.injEq,Value.pointer.injEq,and_true] at hval
   obtain ⟨rfl,rfl,hx2,rfl,rfl⟩:=hval
   obtain ⟨hnd,heq,-⟩:=dk_nodup hok
   obtain ⟨hmf,hcl,hcf⟩:=cutN_facts hok m
   have hbv:∀ o o',Below w1.heap.size w1 ((w1.alloc o).alloc o'):=fun o o'=>((Below.refl _ _).alloc (Nat.le_refl _) o).alloc (by simp) o'
   have hnm:∀ (W:World),Below w1.heap.size w1 W→StrsAt (fun b=>b < W.heap.size) W (.slice x2 n2 m2) d.names:=fun W hW=>by
    have:=(xU HD).ns.carry (w':=W) (Q:=fun b=>b < W.heap.size) (fun b hb=>(hW.block b (Nat.lt_of_lt_of_le (xU HP b hb) (xU HB1).size)).trans ((xU HB1).block b (xU HP b hb))) (fun b hb=>Nat.lt_of_lt_of_le (xU HP b hb) (Nat.le_trans (xU HB1).size hW.size))
    rw [← hx2] at this;exact this
   have HTH:=xH (fun o o'=>behind_any d.names d.moves (some ⟨T,0,none⟩) (some ⟨T,0,none⟩) x2 n2 m2 (some ⟨T,0,none⟩) x4 n4 m4 (fun b=>b < ((w1.alloc o).alloc o').heap.size) ((w1.alloc o).alloc o') (fun _ h=>h) (hnm _ (hbv o o')) ((hvw.carry (hbv o o')).fns.carry (fun _ _=>rfl) (fun b hb=>hb.2)) m (by have:=hok.l2;omega) (by have:=hok.l3;omega) (cutN d m) hmf)
   have HBV:=xH hbv;have HOK:=xH hok;have HVW:=xH hvw;have HND:=xH (show (d.files.map Df.name).Nodup by rw [heq];exact hnd);have HCF:=xH hcf
   have HCD:=xH (cutD_ok (m:=m) (zs:=zs) hok)
   clear hvw hnm hbv hnd heq hmf hok hx2 hcf
   go_wp2_with fail
   refine (xU HTH _ _).mono ?_
   rintro e w5 ⟨v5,rfl,hn5⟩
   have hb5:=hn5.below
   have hs5:w1.heap.size+2≤w5.heap.size:=by have:=hb5.size;simpa using this
   have hbw5:Below w1.heap.size w1 w5:=(xU HBV _ _).trans (hb5.mono (xU HBV _ _).size)
   have hrV:=((fiveV_alloc w1 (.pointer (some ⟨T,0,none⟩)) (.pointer (some ⟨T,0,none⟩)) (.slice x2 n2 m2) (.pointer (some ⟨T,0,none⟩)) (.slice x4 n4 m4) 71).alloc (.cells #[.slice none 0 0,.slice none 0 0,.slice none 0 0] 27)).of_block (hb5.block w1.heap.size (by simp;omega))
   have hrL:w5.rowIs (w1.heap.size+1) 27 3 (row3 (.slice none 0 0) (.slice none 0 0) (.slice none 0 0)):=by
    have:=row3_alloc (w1.alloc (.cells #[.pointer (some ⟨T,0,none⟩),.pointer (some ⟨T,0,none⟩),.slice x2 n2 m2,.pointer (some ⟨T,0,none⟩),.slice x4 n4 m4] 71)) (.slice none 0 0) (.slice none 0 0) (.slice none 0 0) 27
    rw [World.size_alloc] at this
    exact this.of_block (hb5.block (w1.heap.size+1) (by simp))
   obtain ⟨a5,cap5,e5,hl5,hc5⟩:=hn5.strs
   have hN5:(cutN d m).length≤1000:=hcl
   subst e5
   have HC5:=xH hc5;have HRV:=xH hrV;have HBW5:=xH hbw5
   have HST:=xH (show CtSt w5.heap.size (w1.heap.size+1) w5 (.slice none 0 0) (.slice none 0 0) [] [] from ⟨by omega,hrL,⟨rfl,Or.inl ⟨rfl,rfl⟩⟩,⟨rfl,Or.inl ⟨rfl,rfl⟩⟩⟩)
   clear hb5 hbw5 hrV hrL hc5 hn5 HTH
   generalize hNN:cutN d m=N at *
   clear hNN
   go_wp2_with fail
   obtain ⟨j0,hj,hy0,hy1,hy2⟩:=infoStrD
   obtain ⟨j3,hj3,hw0,hw1,hw2⟩:=infoFileD
   have HJJ:=xH hj;have HY0:=xH hy0;have HY1:=xH hy1;have HY2:=xH hy2;have HJ3:=xH hj3;have HW0:=xH hw0;have HW1:=xH hw1;have HW2:=xH hw2
   clear hj hy0 hy1 hy2 hj3 hw0 hw1 hw2
   go_loopw [26] (fun i wr=>∃ (k:Nat) (af:Option Addr) (cf:Nat) (an:Option Addr) (cn:Nat),k≤N.length∧i=.int .i64 k∧Hid (CtSt w5.heap.size (w1.heap.size+1) wr (.slice af k cf) (.slice an k cn) ((N.take k).map (cutX d zs)) (N.take k))∧Hid (But (w1.heap.size+1) w5 wr)) (fun i _=>N.length - (intOf i).toNat)
   case atStart=>exact ⟨0,none,0,none,0,Nat.zero_le _,rfl,xU HST,But.refl _ _⟩
   case round =>
    clear HST
    obtain ⟨k,af,cf,an,cn,hk,rfl,HS,HX⟩:=hrel
    have hws:=HX.out.size
    have hbw:Below w1.heap.size w1 wr:=⟨HX.out.os.trans (xU HBW5).os,HX.out.tape.trans (xU HBW5).tape,HX.out.output.trans (xU HBW5).output,by omega,fun b hb=>(HX.out.at (by omega) (by omega)).trans ((xU HBW5).block b hb)⟩
    have HBW:=xH ((xU HB1).trans (hbw.mono (xU HB1).size))
    have hrL:=HS.out.row
    obtain ⟨l0,l1,l2⟩:=cs3 hrL (by omega)
    simp only [row3] at l0 l1 l2
    by_cases hlt:k < N.length
    rotate_left
    · obtain rfl:k=N.length:=by omega
      have hq2:=(xU Q2).of_block (hbw.block (w.heap.size+1) (by omega))
      obtain ⟨y0,y1,y2⟩:=cs3 hq2 (by omega)
      have z:=hq2.frozen
      simp only [row3] at y0 y1 y2
      have hst:=HS.out
      rw [List.take_of_length_le (Nat.le_refl _)] at hst
      have HST:=xH hst
      clear hst hq2 hbw hrL
      go_wp2_with fail
      try simp only [Exit.inBlock,Exit.then]
      refine bodyPost_ret (v:=.agg #[.slice af N.length cf,.slice an N.length cn,.slice none 0 0]) (by simp [results,Try.results16,go_sem,y0,y1,y2]) rfl ?_
      rw [xU HCD]
      have hfo:∀ x,x∈N→(cutX d zs x).okM∧x.size≤9223372036854775807:=fun x hx=>by
       obtain ⟨i,hi,he,hf⟩:=xU HCF x hx
       have h1:=(xU HD).fs.2 d.files[i] (List.getElem_mem hi)
       have h2:=((xU HOK).file i hi (by rw [(xU HOK).len];exact hi)).data
       have h3:=cutB_size d.files[i] (zs.getD (findF d.files x).toNat 0) h2
       refine ⟨?_,by rw [← he];exact h1.1⟩
       unfold cutX cutF
       rw [fileD_at hi hf]
       exact ⟨h1.1,by simp only;omega,⟨by simp only;omega,by simp only;omega⟩⟩
      have hst9:CtSt w5.heap.size (w1.heap.size+1) (((wr.setCell ⟨w.heap.size+1,0,none⟩ (.slice af N.length cf)).setCell ⟨w.heap.size+1,1,none⟩ (.slice an N.length cn)).setCell ⟨w.heap.size+1,2,none⟩ (.slice none 0 0)) (.slice af N.length cf) (.slice an N.length cn) (N.map (cutX d zs)) N:=by
       have h:=xU HST
       exact ⟨h.lt,((h.row.setOther (by simp;omega) _).setOther (by simp;omega) _).setOther (by simp;omega) _,ownsRow_setCell_below (ownsRow_setCell_below (ownsRow_setCell_below h.of (by simp;omega) _) (by simp;omega) _) (by simp;omega) _,ownsRow_setCell_below (ownsRow_setCell_below (ownsRow_setCell_below h.on (by simp;omega) _) (by simp;omega) _) (by simp;omega) _⟩
      obtain ⟨F0,F1,ho,hndF,hF⟩:=hst9.end (fun f hf=>by obtain ⟨x,hx,rfl⟩:=List.mem_map.1 hf;exact (hfo x hx).1) (fun x hx=>(hfo x hx).2)
      exact ⟨⟨_,_,_⟩,F0,F1,[],rfl,ho,hndF,fun b hb=>⟨by have:=(hF b hb).1;omega,(hF b hb).2⟩,(((xU HBW).setCell (by simp) _).setCell (by simp) _).setCell (by simp) _⟩
    · obtain ⟨i,hi,he,hf⟩:=xU HCF N[k] (List.getElem_mem hlt)
      obtain ⟨b5,o5,rfl,hpb5,hc5,hsx⟩:=xU HC5 k hlt
      have hb5L:b5≠w1.heap.size+1:=by have:=hpb5.1;simp at this;omega
      have e5:wr.cell? ⟨b5,o5+k,none⟩=some (.string N[k]):=by rw [World.cell?_of_block (w:=w5) (HX.out.at hpb5.2 hb5L)];exact hc5
      have hvw:=(xU HVW).carry hbw
      have hrV:=(xU HRV).of_block (HX.out.at (by omega) (by omega))
      obtain ⟨r0,r1,r2,r3,r4⟩:=cs5 hrV (by omega)
      have t1:=hvw.row.cell (i:=1) (by omega)
      simp only [fiveV] at r0 r1 r2 r3 r4
      simp only [rowO] at t1
      have hkey:keyOf Try.prog 9 (.string N[k])=some (nkey N[k]):=keyOf_string_mk Try.underlying9 (by unfold maxLen;omega)
      have hat:=at_nmap (d.files.map Df.name) (xU HND) i (by rw [List.length_map];exact hi) (d.files.map Df.name).length (Nat.le_refl _) (by rw [List.length_map];exact hi)
      rw [List.getElem_map,he] at hat
      have hlk:(Instr.lookup 82 (.map (some B)) (.string N[k]) false).run Try.prog wr=.ok (.int .i64 i) wr:=by
       obtain ⟨cc,hr,hcc,-⟩:=World.ownsMap.lookup_int hvw.map keyLaw Try.underlying82 Try.underlying3 (zeroInt _) hkey
       rw [hat] at hcc
       have:cc=(i:Int):=by simpa using hcc.symm
       rw [this] at hr;exact hr
      have hfil:=(xU HOK).file i hi (by rw [(xU HOK).len];exact hi)
      obtain ⟨a0,p0,g0,hl0,-⟩:=(xU HD).fs.open
      simp only at g0
      have hfsW:∀ (W:World),Below wr.heap.size wr W→FsAt (fun b=>b < w.heap.size) W (.slice a0 d.files.length p0) d.files:=fun W hW=>by
       have:=(xU HD).fs.carry (w':=W) (Q:=fun b=>b < w.heap.size) (fun b hb=>(hW.block b (by have:=xU HP b hb;have:=(xU HBW).size;omega)).trans ((xU HBW).block b (xU HP b hb))) (fun b hb=>xU HP b hb)
       simp only at this
       rw [g0] at this;exact this
      have hrowW:∀ (W:World),Below wr.heap.size wr W→W.rowIs T 84 2 (rowO (.slice a0 d.files.length p0) (.map (some B))):=fun W hW=>by
       have h:=(hvw.carry hW).row
       simp only at h
       rw [g0] at h;exact h
      have hPW:∀ (W:World),Below wr.heap.size wr W→∀ b,b < w.heap.size→b < W.heap.size:=fun W hW b hb=>by have:=hW.size;have:=(xU HBW).size;omega
      have HSU:=xH (fun (W:World) (hW:Below wr.heap.size wr W)=>sureData_any d.files a0 d.files.length p0 T B x2 n2 m2 (fun b=>b < w.heap.size) W (hPW W hW) (hfsW W hW) (hrowW W hW) i hi hfil.kept)
      have HOP:=xH (fun (W:World) (hW:Below wr.heap.size wr W) (n:Int)=>openData_any d.files a0 d.files.length p0 T B x4 n4 m4 (fun b=>b < w.heap.size) W (hPW W hW) (hfsW W hW) (hrowW W hW) i hi hfil.kept hfil.data n)
      have HNU:=xH (fun (W:World) (hW:Below wr.heap.size wr W)=>numberAt_any zs (.slice az zs.length cz) i W (P:=fun b=>b < w.heap.size) ((xU HZ).carry (fun b hb=>(hW.block b (by have:=xU HP b hb;have:=(xU HBW).size;omega)).trans ((xU HBW).block b (xU HP b hb))) (fun b hb=>xU HP b hb)))
      have hx8:N[k].size≤8:=by
       refine Classical.byContradiction fun hno=>?_
       have hn:=hfil.name
       rw [he,nameOk_len (Or.inr (by omega))] at hn
       cases hn
      have hcs:=cutB_size d.files[i] (zs.getD i 0) hfil.data
      have HCB:=xH (fun (W:World)=>strClone_any (cutB d.files[i] (zs.getD i 0)) W (by omega))
      have HCX:=xH (fun (W:World)=>strClone_any N[k] W (by omega))
      have HTS:=xH (List.take_succ_eq_append_getElem hlt)
      have HCC:=xH (show cutX d zs N[k]=⟨N[k],cutB d.files[i] (zs.getD i 0),(cutB d.files[i] (zs.getD i 0)).size⟩ by unfold cutX cutF;rw [fileD_at hi hf,hf];simp [he])
      have htk:(N.take k).length=k:=by rw [List.length_take];omega
      have HTK:=xH htk
      have HLO:=xH hrV;have HRL:=xH hrL
      have HE5:=xH e5
      clear e5 hc5 hvw hrV hrL hbw hkey hat hfsW hrowW hPW hfil hf he hpb5 htk hsx g0
      have e5:=xU HE5
      clear HE5
      generalize N[k]=x at *
      have hcb:cutB d.files[i] (zs.getD i 0)=d.files[i].data.extract 0 d.files[i].kept.toNat++(d.files[i].data.extract d.files[i].kept.toNat d.files[i].data.size).extract 0 (moreN d.files[i] (zs.getD i 0)):=rfl
      rw [hcb] at HCB HCC hcs
      rw [ByteArray.size_append] at hcs
      have HOP2:=xH (fun (W:World) (hW:Below wr.heap.size wr W)=>xU HOP W hW (zs.getD i 0))
      clear HOP
      generalize (d.files[i].data.extract d.files[i].kept.toNat d.files[i].data.size).extract 0 (moreN d.files[i] (zs.getD i 0))=s2 at *
      generalize d.files[i].data.extract 0 d.files[i].kept.toNat=s1 at *
      generalize zs.getD i 0=zi at *
      clear hcb
      go_upto_region 9 with fail
      go_cut [13,26] from 26 to 68 (fun s i' wx=>s=.string (s1++s2)∧i'=.int .i64 (k:Int)∧Hid (Below wr.heap.size wr wx))
      case first =>
       go_region_with (first
        | (go_at_call 44
           refine (xU HSU _ (by first | exact Below.refl _ _ | exact (Below.refl _ _).drew)).mono ?_
           rintro e wA ⟨rfl,hbA⟩
           have hbA':Below wr.heap.size wr wA:=(Below.refl _ wr).drew.trans hbA
           have hrA:=(xU HLO).of_block (hbA'.block w1.heap.size (xU HLO).lt)
           have A3:=hrA.cell (i:=3) (by omega)
           have A4:=hrA.cell (i:=4) (by omega)
           simp only [fiveV] at A3 A4
           have HBA:=xH hbA'
           clear hbA hbA' hrA)
        | (go_at_call 46
           refine (xU HNU _ (xU HBA)).mono ?_
           rintro e wB ⟨rfl,rfl⟩)
        | (go_at_call 45
           refine (xU HOP2 _ (xU HBA)).mono ?_
           rintro e wC ⟨rfl,hbC⟩
           have HBC:=xH ((xU HBA).trans (hbC.mono (xU HBA).size))
           clear hbC)
        | (go_at_call 40
           refine (xU HCB _).mono ?_
           rintro e wD ⟨rfl,hbD⟩
           have HBD:=xH ((xU HBC).trans (hbD.mono (xU HBC).size))
           clear hbD))
       all_goals
        go_wp2_with fail
        go_meet
        case rel=>exact ⟨rfl,rfl,xU HBD⟩
      case rest =>
       obtain ⟨rfl,rfl,HBc⟩:=hcut
       have hs0z:(s1++s2).size≤40000:=by rw [ByteArray.size_append];omega
       clear hcs HSU HOP2 HCB HNU
       generalize s1++s2=s0 at *
       have hsc:=HS.out.keep HBc.out
       have hxc:But (w1.heap.size+1) w5 wc:=HX.out.trans (But.of_below HBc.out)
       have hcall:∀ (W:World) (an':Option Addr) (kn' cn':Nat) (af':Option Addr) (kf' cf':Nat) (fs':List Df) (ns':List ByteArray),CtSt w5.heap.size (w1.heap.size+1) W (.slice af' kf' cf') (.slice an' kn' cn') fs' ns'→But (w1.heap.size+1) w5 W→Calls Try.prog 40 #[.string x] W.drew fun e w7=>e=.returned (.string x)∧Hid (CtSt w5.heap.size (w1.heap.size+1) w7 (.slice af' kf' cf') (.slice an' kn' cn') fs' ns')∧Hid (But (w1.heap.size+1) w5 w7)∧w5.heap.size≤w7.heap.size∧(w7.cell? ⟨w1.heap.size+1,1,none⟩=some (.slice an' kn' cn')∧∀ ob,(w7.alloc ob).cell? ⟨w1.heap.size+1,1,none⟩=some (.slice an' kn' cn'))∧(w7.cell? ⟨w1.heap.size+1,0,none⟩=some (.slice af' kf' cf')∧∀ ob,(w7.alloc ob).cell? ⟨w1.heap.size+1,0,none⟩=some (.slice af' kf' cf')):=fun W an' kn' cn' af' kf' cf' fs' ns' h hx=>by
        refine (xU HCX W.drew).mono ?_
        rintro e w7 ⟨rfl,hb7⟩
        have hb7':Below W.heap.size W w7:=(Below.refl _ W).drew.trans hb7
        have h7:=h.keep hb7'
        have r0':=h7.row.cell (i:=0) (by omega);have r1':=h7.row.cell (i:=1) (by omega)
        simp only [row3] at r0' r1'
        exact ⟨rfl,h7,hx.trans (But.of_below hb7'),Nat.le_trans hx.size hb7'.size,⟨r1',fun ob=>by rw [World.cell?_of_block (w:=w7) (Below.heap_alloc _ _ _ h7.row.lt)];exact r1'⟩,⟨r0',fun ob=>by rw [World.cell?_of_block (w:=w7) (Below.heap_alloc _ _ _ h7.row.lt)];exact r0'⟩⟩
       have HCA:=xH hcall
       have HC1:=xH (hcall wc an k cn af k cf _ _ hsc hxc)
       have m1:=hsc.row.cell (i:=1) (by omega)
       simp only [row3] at m1
       clear hcall hsc hxc l0 l1 l2 r0 r1 r2 r3 r4 t1 hlk e5
       go_upto_region 10 with fail
       go_cut [26] from 26 to 68 (fun i' wx=>i'=.int .i64 (k:Int)∧∃ an2 cn2,Hid (CtSt w5.heap.size (w1.heap.size+1) wx (.slice af k cf) (.slice an2 (k+1) cn2) ((N.take k).map (cutX d zs)) (N.take k++[x]))∧Hid (But (w1.heap.size+1) w5 wx))
       case first =>
        go_region_law (first
         | ((refine step_append_lies _ (by rfl) _ _ _ (by rfl) w5.heap.size 9 j0 (.string ByteArray.empty) 1 16 Try.underlying24 (xU HJJ) (xU HY0) (xU HY1) (xU HY2) rfl (by decide) (.slice an k cn) k ((N.take k).map Value.string) (by rfl) (by have:=HS7.out.on;rw [xU HTK] at this;exact this.alloc _) ⟨w7.heap.size,0,none⟩ 1 1 [.string x] (by rfl) (by rfl) (cell_one w7 _ _) (fun u hu=>by simp at hu;subst hu;rfl) (by decide) (by unfold maxLen;omega) (by omega) (by simp;omega) (w7.heap.size+1) (by simp) ?_;intro g2 cap2 w8 hown8 hgrow8 hat8 hlt8;have hr8:=HS7.out.row.of_block ((hgrow8.block (w1.heap.size+1) (by simp;omega) (fun e=>by have:=(HS7.out.on.lt (w1.heap.size+1) e.symm).1;omega)).trans (Below.heap_alloc w7 _ _ HS7.out.row.lt));have u1:=hr8.cell (i:=1) (by omega);have uz1:=hr8.frozen 1;simp only [row3] at u1))
         | (rw [if_pos (by first | rfl | simp [Region.wanted])];go_simp;refine (xU HC1).mono ?_;rintro e w7 ⟨rfl,HS7,HX7,hs7,⟨n1,n1a⟩,-⟩))
        all_goals
         have hadd:=(HS7.out.keep ((Below.refl _ _).alloc (Nat.le_refl _) (.cells #[.string x] 9))).addN x (by rw [xU HTK];exact hown8) hgrow8
         have hxx:=(but_grown (HX7.out.trans (But.alloc _ _ (.cells #[.string x] 9))) hgrow8 (fun g e=>(HS7.out.on.lt g e).1)).trans (But.set (B:=w1.heap.size+1) w8 1 (.slice (some ⟨g2,0,none⟩) (k+1) cap2))
         have HAD:=xH hadd;have HXX:=xH hxx
         clear hadd hxx hown8 hgrow8 hat8 hlt8 hr8 u1 uz1 HS7 HX7 n1 n1a
         go_wp2_with fail
         go_meet
         case rel=>exact ⟨rfl,some ⟨g2,0,none⟩,cap2,xU HAD,xU HXX⟩
       case rest =>
        obtain ⟨rfl,an2,cn2,HS2,HX2⟩:=hcut
        have HC2:=xH (xU HCA wc an2 (k+1) cn2 af k cf _ _ HS2.out HX2.out)
        have m0:=HS2.out.row.cell (i:=0) (by omega)
        simp only [row3] at m0
        clear m1
        have hms:((N.take k).map (cutX d zs)).length=k:=by rw [List.length_map];exact xU HTK
        have HMS:=xH hms
        clear hms
        go_wp2_with fail
        go_region_law (first
         | ((refine step_append_lies _ (by rfl) _ _ _ (by rfl) w5.heap.size 44 j3 (.agg #[.string ByteArray.empty,.string ByteArray.empty,.int .i64 0]) 3 40 Try.underlying23 (xU HJ3) (xU HW0) (xU HW1) (xU HW2) rfl (by decide) (.slice af k cf) k (((N.take k).map (cutX d zs)).map Df.cs).flatten (by rfl) (by have:=HS7.out.of;rw [xU HMS] at this;exact this.alloc _) ⟨w7.heap.size,0,none⟩ 1 1 [.string x,.string s0,.int .i64 (s0.size:Int)] (by first | rfl | simp) (by rfl) (cell_3 w7 _ _ _ _) (fun u hu=>by simp at hu;rcases hu with rfl | rfl | rfl <;> rfl) (by decide) (by unfold maxLen;omega) (by omega) (by simp;omega) (w7.heap.size+1) (by simp) ?_;intro g2 cap2 w8 hown8 hgrow8 hat8 hlt8;have hr8:=HS7.out.row.of_block ((hgrow8.block (w1.heap.size+1) (by simp;omega) (fun e=>by have:=(HS7.out.of.lt (w1.heap.size+1) e.symm).1;omega)).trans (Below.heap_alloc w7 _ _ HS7.out.row.lt));have u1:=hr8.cell (i:=0) (by omega);have uz1:=hr8.frozen 0;simp only [row3] at u1))
         | (rw [if_pos (by first | rfl | simp [Region.wanted])];go_simp;refine (xU HC2).mono ?_;rintro e w7 ⟨rfl,HS7,HX7,hs7,-,⟨n1,n1a⟩⟩))
        all_goals
         have hadd:=(HS7.out.keep ((Below.refl _ _).alloc (Nat.le_refl _) (.cells #[.string x,.string s0,.int .i64 (s0.size:Int)] 44))).addF ⟨x,s0,s0.size⟩ (by rw [xU HMS];exact hown8) hgrow8
         have hxx:=(but_grown (HX7.out.trans (But.alloc _ _ (.cells #[.string x,.string s0,.int .i64 (s0.size:Int)] 44))) hgrow8 (fun g e=>(HS7.out.of.lt g e).1)).trans (But.set (B:=w1.heap.size+1) w8 0 (.slice (some ⟨g2,0,none⟩) (k+1) cap2))
         rw [← xU HCC] at hadd
         have hadd2:CtSt w5.heap.size (w1.heap.size+1) (w8.setCell ⟨w1.heap.size+1,0,none⟩ (.slice (some ⟨g2,0,none⟩) (k+1) cap2)) (.slice (some ⟨g2,0,none⟩) (k+1) cap2) (.slice an2 (k+1) cn2) ((N.take (k+1)).map (cutX d zs)) (N.take (k+1)):=by
          rw [xU HTS,List.map_append];exact hadd
         have HAD:=xH hadd2;have HXX:=xH hxx
         clear hadd hadd2 hxx hown8 hgrow8 hat8 hlt8 hr8 u1 uz1 HS7 HX7 n1 n1a
         go_wp2_with fail
         go_roundw
         case rel=>exact ⟨k+1,some ⟨g2,0,none⟩,cap2,an2,cn2,by omega,by go_num,xU HAD,xU HXX⟩
         case measure=>simp [intOf];omega
end Go.Proofs.Yteikmbkljkkjiaa

namespace Go.Proofs.Yteikmbkljkkjiaa
open Go Go.RowKit
structure CdSt (w:World) (d:Dk) (c:C3) (W:World):Prop where
 below:Below w.heap.size w W
 box:W.rowIs w.heap.size 27 3 (row3 c.c0 c.c1 c.c2)
 out:W.rowIs (w.heap.size+1) 27 3 (row3 (.slice none 0 0) (.slice none 0 0) (.slice none 0 0))
 dk:DkAt (fun b=>b < w.heap.size) W d c
theorem CdSt.on {w W W':World} {d:Dk} {c:C3} (h:CdSt w d c W) (hb:Below W.heap.size W W'):CdSt w d c W' :=
 ⟨h.below.trans (hb.mono h.below.size),h.box.of_block (hb.block _ h.box.lt),h.out.of_block (hb.block _ h.out.lt),h.dk.carry (fun b hb'=>hb.block b (Nat.lt_of_lt_of_le hb' h.below.size)) (fun _ h=>h)⟩
theorem CdSt.drew {w W:World} {d:Dk} {c:C3} (h:CdSt w d c W):CdSt w d c W.drew:=h.on (Below.refl _ _).drew
def CdC (w:World) (c0 c1 c2:Value) (W:World):Prop:=W.cell? ⟨w.heap.size,0,none⟩=some c0∧W.cell? ⟨w.heap.size,1,none⟩=some c1∧W.cell? ⟨w.heap.size,2,none⟩=some c2∧W.cell? ⟨w.heap.size+1,0,none⟩=some (.slice none 0 0)∧W.cell? ⟨w.heap.size+1,1,none⟩=some (.slice none 0 0)∧W.cell? ⟨w.heap.size+1,2,none⟩=some (.slice none 0 0)∧W.frozen? ⟨w.heap.size+1,0,none⟩=false∧W.frozen? ⟨w.heap.size+1,1,none⟩=false∧W.frozen? ⟨w.heap.size+1,2,none⟩=false
theorem CdSt.c {w W:World} {d:Dk} {c:C3} (h:CdSt w d c W):CdC w c.c0 c.c1 c.c2 W :=
 ⟨h.box.cell (i:=0) (by omega),h.box.cell (i:=1) (by omega),h.box.cell (i:=2) (by omega),h.out.cell (i:=0) (by omega),h.out.cell (i:=1) (by omega),h.out.cell (i:=2) (by omega),h.out.frozen 0,h.out.frozen 1,h.out.frozen 2⟩
theorem own_slice0 {w:World} {base:Nat} {e:TypeId} {size:Nat} {v:Value} {n:Nat} {xs:List Value} (h:w.ownsRow base e size v n xs):∃ a cap,v=.slice a n cap:=by
 rcases h.2 with ⟨hv,h0⟩ | ⟨g,c,u,hv,_⟩
 · exact ⟨none,0,by rw [hv,h0]⟩
 · exact ⟨_,_,hv⟩
theorem own_low {w:World} {base b:Nat} {e:TypeId} {size:Nat} {v:Value} {n:Nat} {xs:List Value} (h:w.ownsRow base e size v n xs) (hb:b≤base):w.ownsRow b e size v n xs :=
 ⟨h.1,h.2.imp id fun ⟨g,c,u,h1,h2,h3⟩=>⟨g,c,u,h1,Nat.le_trans hb h2,h3⟩⟩
theorem copyDisk_any (d:Dk) (P:Nat→Prop) (c:C3) (w:World) (hP:∀ b,P b→b < w.heap.size) (hv:DkAt P w d c) (hl:d.files.length≤1000∧d.names.length≤1000∧d.moves.length≤1000)
 (hs:(∀ f,f∈d.files→f.name.size≤1099511627776∧f.data.size≤1099511627776)∧(∀ x,x∈d.names→x.size≤1099511627776)∧(∀ f,f∈d.moves→f.name.size≤1099511627776)) :
 Calls Try.prog 35 #[.agg #[c.c0,c.c1,c.c2]] w fun e w'=>∃ c':C3,e=.returned (.agg #[c'.c0,c'.c1,c'.c2])∧w'.ownsRow w.heap.size 44 3 c'.c0 d.files.length (d.files.map Df.cs).flatten∧w'.ownsRow w.heap.size 9 1 c'.c1 d.names.length (d.names.map Value.string)∧w'.ownsRow w.heap.size 60 2 c'.c2 d.moves.length (d.moves.map Dm.cs).flatten∧Below w.heap.size w w':=by
 obtain ⟨c0,c1,c2⟩:=c
 obtain ⟨a0,cap0,e0,-⟩:=hv.fs.open
 obtain ⟨a1,cap1,e1,-⟩:=id hv.ns
 obtain ⟨a2,cap2,e2,-⟩:=hv.ms.open
 simp only at e0 e1 e2
 subst e0 e1 e2
 obtain ⟨W0,hW0⟩:∃ W0,(w.alloc (.cells #[.slice a0 d.files.length cap0,.slice a1 d.names.length cap1,.slice a2 d.moves.length cap2] 27)).alloc (.cells #[.slice none 0 0,.slice none 0 0,.slice none 0 0] 27)=W0:=⟨_,rfl⟩
 have hbw:Below w.heap.size w W0:=by rw [← hW0];exact ((Below.refl _ w).alloc (Nat.le_refl _) _).alloc (by simp) _
 have hst:CdSt w d ⟨.slice a0 d.files.length cap0,.slice a1 d.names.length cap1,.slice a2 d.moves.length cap2⟩ W0:=by
  refine ⟨hbw,?_,?_,hv.carry (fun b hb=>hbw.block b (hP b hb)) hP⟩
  · rw [← hW0];exact (row3_alloc w _ _ _ _).alloc _
  · rw [← hW0]
    have q:=row3_alloc (w.alloc (.cells #[.slice a0 d.files.length cap0,.slice a1 d.names.length cap1,.slice a2 d.moves.length cap2] 27)) (.slice none 0 0) (.slice none 0 0) (.slice none 0 0) 27
    rw [World.size_alloc] at q;exact q
 have HF:Hid (∀ W,CdSt w d ⟨.slice a0 d.files.length cap0,.slice a1 d.names.length cap1,.slice a2 d.moves.length cap2⟩ W→Calls Try.prog 57 #[.slice a0 d.files.length cap0] W fun e w'=>∃ a' cap',e=.returned (.slice a' d.files.length cap')∧Hid (w'.ownsRow W.heap.size 44 3 (.slice a' d.files.length cap') d.files.length (d.files.map Df.cs).flatten)∧Hid (Below W.heap.size W w')):=fun W hW =>
  copiesF_any d.files _ a0 cap0 W hW.dk.fs hl.1 hs.1
 have HN:Hid (∀ W,CdSt w d ⟨.slice a0 d.files.length cap0,.slice a1 d.names.length cap1,.slice a2 d.moves.length cap2⟩ W→Calls Try.prog 47 #[.slice a1 d.names.length cap1] W fun e w'=>∃ a' cap',e=.returned (.slice a' d.names.length cap')∧Hid (w'.ownsRow W.heap.size 9 1 (.slice a' d.names.length cap') d.names.length (d.names.map Value.string))∧Hid (Below W.heap.size W w')):=fun W hW =>
  (copyNames_row _ d.names W (fun b hb=>Nat.lt_of_lt_of_le hb hW.below.size) hW.dk.ns (by omega) hs.2.1).mono fun e w' ⟨v',h1,h2,h3⟩=>by
    obtain ⟨a',cap',e'⟩:=own_slice0 h2
    subst e'
    exact ⟨a',cap',h1,h2,h3⟩
 have HM:Hid (∀ W,CdSt w d ⟨.slice a0 d.files.length cap0,.slice a1 d.names.length cap1,.slice a2 d.moves.length cap2⟩ W→Calls Try.prog 58 #[.slice a2 d.moves.length cap2] W fun e w'=>∃ a' cap',e=.returned (.slice a' d.moves.length cap')∧Hid (w'.ownsRow W.heap.size 60 2 (.slice a' d.moves.length cap') d.moves.length (d.moves.map Dm.cs).flatten)∧Hid (Below W.heap.size W w')):=fun W hW =>
  copiesM_any d.moves _ a2 cap2 W hW.dk.ms hl.2.2 hs.2.2
 obtain ⟨f0,f1,f2,f3,f4,f5,f6,f7,f8⟩:=hst.drew.c
 have HST:=xH hst.drew
 clear hst hv hl hs hP hbw
 subst hW0
 go_enter Try.func35,Try.ntmps35
 go_wp2_with fail
 go_region_held3 (fun W=>W.cell? ⟨w.heap.size,0,none⟩=some (.slice a0 d.files.length cap0)∧W.cell? ⟨w.heap.size,1,none⟩=some (.slice a1 d.names.length cap1)∧W.cell? ⟨w.heap.size,2,none⟩=some (.slice a2 d.moves.length cap2)) (first | exact ⟨z0,z1,z2⟩ | exact ⟨f0,f1,f2⟩ | go_keep)
  (first
    | (go_at_call 57;refine (xU HF _ (xU HST)).mono ?_;rintro e w1 ⟨b0,k0,rfl,HF0,HB0⟩;have HS1:=xH ((xU HST).on HB0.out);obtain ⟨z0,z1,z2,z3,z4,z5,z6,z7,z8⟩:=(xU HS1).c)
    | (go_at_call 47;refine (xU HN _ (xU HS1)).mono ?_;rintro e w2 ⟨b1,k1,rfl,HF1,HB1⟩;have HS2:=xH ((xU HS1).on HB1.out);obtain ⟨z0,z1,z2,z3,z4,z5,z6,z7,z8⟩:=(xU HS2).c)
    | (go_at_call 58;refine (xU HM _ (xU HS2)).mono ?_;rintro e w3 ⟨b2,k2,rfl,HF2,HB2⟩;have HS3:=xH ((xU HS2).on HB2.out);obtain ⟨z0,z1,z2,z3,z4,z5,z6,z7,z8⟩:=(xU HS3).c))
 all_goals
  go_wp2_with fail
  refine bodyPost_ret (v:=.agg #[.slice b0 d.files.length k0,.slice b1 d.names.length k1,.slice b2 d.moves.length k2]) (by simp [results,Try.results35,go_sem,z3,z4,z5]) rfl ?_
  have hb:=(((xU HS3).below.setCell (p:=⟨w.heap.size+1,0,none⟩) (by simp) (.slice b0 d.files.length k0)).setCell (p:=⟨w.heap.size+1,1,none⟩) (by simp) (.slice b1 d.names.length k1)).setCell (p:=⟨w.heap.size+1,2,none⟩) (by simp) (.slice b2 d.moves.length k2)
  have hlow:w.heap.size+2≤((w.alloc (.cells #[.slice a0 d.files.length cap0,.slice a1 d.names.length cap1,.slice a2 d.moves.length cap2] 27)).alloc (.cells #[.slice none 0 0,.slice none 0 0,.slice none 0 0] 27)).drew.heap.size:=by
   show _≤((w.alloc _).alloc _).heap.size
   simp
  have s1:=HB1.out.size;have s2:=HB2.out.size;have s0:=HB0.out.size
  have hkeep:∀ b,w.heap.size+2≤b→(((w3.setCell ⟨w.heap.size+1,0,none⟩ (.slice b0 d.files.length k0)).setCell ⟨w.heap.size+1,1,none⟩ (.slice b1 d.names.length k1)).setCell ⟨w.heap.size+1,2,none⟩ (.slice b2 d.moves.length k2)).heap[b]? = w3.heap[b]? := fun b hb'=>by
   rw [Below.heap_setCell _ _ _ _ (by simp;omega),Below.heap_setCell _ _ _ _ (by simp;omega),Below.heap_setCell _ _ _ _ (by simp;omega)]
  have g0:=HF0.out;have g1:=HF1.out;have g2:=HF2.out
  refine ⟨⟨_,_,_⟩,rfl,own_low (ownsRow_keep g0 (fun g e=>?_)) (by omega),own_low (ownsRow_keep g1 (fun g e=>?_)) (by omega),own_low (ownsRow_keep g2 (fun g e=>?_)) (by omega),hb⟩
  · have:=g0.lt g e;rw [hkeep g (by omega),HB2.out.block g (by omega),HB1.out.block g (by omega)]
  · have:=g1.lt g e;rw [hkeep g (by omega),HB2.out.block g (by omega)]
  · have:=g2.lt g e;rw [hkeep g (by omega)]
end Go.Proofs.Yteikmbkljkkjiaa
