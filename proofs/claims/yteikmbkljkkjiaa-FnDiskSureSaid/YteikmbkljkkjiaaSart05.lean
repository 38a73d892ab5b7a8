/- A part. -/
import Derived.Test.YteikmbkljkkjiaaSart04
set_option maxRecDepth 100000
set_option maxHeartbeats 3200000
namespace Go.Proofs.Yteikmbkljkkjiaa
open Go Go.RowKit
structure FOkS (fs:List Df) (made:List ByteArray) (i:Nat) (h:i < fs.length) (h2:i < made.length):Prop where
 name:nameOkB fs[i].name=true
 same:sameB fs[i].name made[i]=true
 data:fs[i].data.size≤20000
 kept:0≤fs[i].kept∧fs[i].kept≤fs[i].data.size
 find:findF fs fs[i].name=i
structure DkOkS (d:Dk):Prop where
 l1:d.files.length≤64
 l2:d.names.length≤64
 l3:d.moves.length≤128
 len:(madeD d.names d.moves).length=d.files.length
 file:∀ i (h:i < d.files.length) (h2:i < (madeD d.names d.moves).length),FOkS d.files (madeD d.names d.moves) i h h2
 move:∀ i (h:i < d.moves.length),d.moves[i].gone=true→hasB (afterD d.names (d.moves.take i)) d.moves[i].name=true
def RetIff (e:Ending) (p:Prop):Prop:=∃ r:Bool,e=.returned (.bool r)∧(r=true↔p)
theorem RetIff.yes {p:Prop} (h:p):RetIff (.returned (.bool true)) p:=⟨true,rfl,by simp [h]⟩
theorem RetIff.no {p:Prop} (h:¬ p):RetIff (.returned (.bool false)) p:=⟨false,rfl,by simp [h]⟩
theorem bdrewN {n:Nat} {w W:World} (h:Below n w W) (m:Nat):Below n w (W.drewN m):=⟨h.os,h.tape,h.output,h.size,h.block⟩
theorem findF_range (fs:List Df) (x:ByteArray) (h:fs.length≤9223372036854775807):-9223372036854775808≤findF fs x∧findF fs x≤9223372036854775807:=by
 unfold findF
 cases e:fs.findIdx? (fun f=>sameB f.name x) with
 | none=>simp
 | some i =>
   have:=(List.findIdx?_eq_some_iff_getElem.1 e).1
   simp only
   omega
theorem specDiskOk_any (d:Dk) (P:Nat→Prop) (c:C3) (w:World) (hP:∀ b,P b→b < w.heap.size) (hd:DkAt P w d c) :
 Calls Try.prog 8 #[.agg #[c.c0,c.c1,c.c2]] w fun e w'=>RetIff e (DkOkS d)∧Below w.heap.size w w':=by
 obtain ⟨c0,c1,c2⟩:=c
 have HD:=xH hd
 obtain ⟨a0,p0,g0,hl0,hfc⟩:=hd.fs.open
 obtain ⟨a1,p1,g1,hl1,-⟩:=hd.ns
 obtain ⟨a2,p2,g2,hl2,hmc⟩:=hd.ms.open
 simp only at g0 g1 g2
 subst g0 g1 g2
 have hbx:∀ o,Below w.heap.size w (w.alloc o):=fun o=>(Below.refl _ _).alloc (Nat.le_refl _) o
 have HBX:=xH hbx
 by_cases h1:64 < d.files.length
 · clear hd hfc hmc hbx
   go_enter Try.func8,Try.ntmps8
   go_wp2_with fail
   go_ret
   exact ⟨RetIff.no (fun h=>by have:=h.l1;omega),xU HBX _⟩
 replace h1:d.files.length≤64:=by omega
 by_cases h2:64 < d.names.length
 · clear hd hfc hmc hbx
   go_enter Try.func8,Try.ntmps8
   go_wp2_with fail
   go_ret
   exact ⟨RetIff.no (fun h=>by have:=h.l2;omega),xU HBX _⟩
 replace h2:d.names.length≤64:=by omega
 by_cases h3:128 < d.moves.length
 · clear hd hfc hmc hbx
   go_enter Try.func8,Try.ntmps8
   go_wp2_with fail
   go_ret
   exact ⟨RetIff.no (fun h=>by have:=h.l3;omega),xU HBX _⟩
 replace h3:d.moves.length≤128:=by omega
 have HMADE:=xH (fun o=>l41Made_any d P ⟨.slice a0 d.files.length p0,.slice a1 d.names.length p1,.slice a2 d.moves.length p2⟩ (w.alloc o) (fun b hb=>Nat.lt_of_lt_of_le (hP b hb) (hbx o).size) (hd.carry (fun b hb=>(hbx o).block b (hP b hb)) (fun _ h=>h)) (by omega) (by omega))
 have HFC:=xH hfc;have HMC:=xH hmc;have HP:=xH hP
 have HROW:=xH (row3_alloc w (.slice a0 d.files.length p0) (.slice a1 d.names.length p1) (.slice a2 d.moves.length p2) 27)
 have HOKS:=xH (show DkOkS d→DkOkS d from id)
 clear hd hfc hmc hP hbx
 go_enter Try.func8,Try.ntmps8
 go_wp2_with fail
 refine (xU HMADE _).mono ?_
 rintro e w1 ⟨a,n,cap,rfl,HNM⟩
 have hlen:=HNM.out.len
 have HLEN:=xH hlen
 have hb1:=HNM.out.below
 have hs1:=hb1.size
 have hq1:=(xU HROW).of_block (hb1.block w.heap.size (by simp))
 have k0:=hq1.cell (i:=0) (by omega);have k2:=hq1.cell (i:=2) (by omega)
 simp only [row3] at k0 k2
 by_cases hn:n=d.files.length
 rotate_left
 · have HN:=xH hn
   have HB1:=xH ((xU HBX _).trans (hb1.mono (xU HBX _).size))
   clear hlen hb1 hq1
   go_wp2_with fail
   go_ret
   exact ⟨RetIff.no (fun h=>xU HN (by rw [xU HLEN];exact h.len)),xU HB1⟩
 subst hn
 have hst:=HNM.out.strs
 obtain ⟨a9,cap9,e9,-,hmd⟩:=hst
 simp only [Value.slice.injEq] at e9
 obtain ⟨rfl,-,rfl⟩:=e9
 have HMD:=xH hmd;have HB01:=xH ((xU HBX _).trans (hb1.mono (xU HBX _).size));have Q1:=xH hq1
 generalize HMK:madeD d.names d.moves=made at *
 have HMK':=xH HMK
 clear hmd hb1 hq1 k2 HNM HMK HMADE hlen
 have hs1':w.heap.size+1≤w1.heap.size:=by simpa using hs1
 clear hs1
 go_wp2_with fail
 clear k0
 go_loopw [4] (fun i wr=>∃ (k:Nat),k≤d.files.length∧i=.int .i64 k∧Hid (∀ j (h:j < d.files.length) (h2:j < made.length),j < k→FOkS d.files made j h h2)∧Hid (Below w1.heap.size w1 wr)) (fun i _=>d.files.length - (intOf i).toNat)
 case atStart=>exact ⟨0,Nat.zero_le _,rfl,fun j _ _ hj=>by omega,Below.refl _ _⟩
 case round =>
  obtain ⟨k,hk,rfl,HQ,HB⟩:=hrel
  have hq2:=(xU Q1).of_block (HB.out.block w.heap.size (by omega))
  have k0:=hq2.cell (i:=0) (by omega)
  simp only [row3] at k0
  by_cases hlt:k < d.files.length
  rotate_left
  · obtain rfl:k=d.files.length:=by omega
    have HFALL:=xH (fun j h h2=>HQ.out j h h2 h)
    have HB2:=HB
    clear HQ hlt hk
    go_wp2_with fail
    clear k0
    go_loopw [6] (fun i wr2=>∃ (k:Nat),k≤d.moves.length∧i=.int .i64 k∧Hid (∀ j (h:j < d.moves.length),j < k→d.moves[j].gone=true→hasB (afterD d.names (d.moves.take j)) d.moves[j].name=true)∧Hid (Below w1.heap.size w1 wr2)) (fun i _=>d.moves.length - (intOf i).toNat)
    case atStart=>exact ⟨0,Nat.zero_le _,rfl,fun j _ hj=>by omega,HB2.out⟩
    case round =>
     obtain ⟨k,hk,rfl,HQ,HB⟩:=hrel
     have hq2:=(xU Q1).of_block (HB.out.block w.heap.size (by omega))
     obtain ⟨k0,k1,k2⟩:=cs3 hq2 (by omega)
     simp only [row3] at k0 k1 k2
     have hbw:=(xU HB01).trans (HB.out.mono (xU HB01).size)
     by_cases hlt:k < d.moves.length
     rotate_left
     · have HBW:=xH hbw
       clear hbw hq2
       go_wp2_with fail
       go_ret
       exact ⟨RetIff.yes ⟨by omega,by omega,by omega,by rw [xU HMK'];exact (xU HLEN).symm,by rw [xU HMK'];exact xU HFALL,fun i h hg=>HQ.out i h (by omega) hg⟩,xU HBW⟩
     · obtain ⟨b,o,rfl,hpb,hc0,hc1,hok⟩:=xU HMC k hlt
       have hcar:∀ o',wr.cell? ⟨b,o',none⟩=w.cell? ⟨b,o',none⟩:=fun o'=>hbw.cell (p:=⟨b,o',none⟩) (xU HP b hpb)
       have e0:wr.cell? ⟨b,o+k * 2,none⟩=some (.bool d.moves[k].gone):=by rw [hcar];exact hc0
       have e1:wr.cell? ⟨b,o+k * 2+1,none⟩=some (.string d.moves[k].name):=by rw [hcar];exact hc1
       have HBW:=xH hbw
       cases c1:d.moves[k].gone with
       | false =>
         rw [c1] at e0
         have HC1:=xH c1
         clear hc0 hc1 hcar hpb hok hbw hq2 c1
         go_wp2_with fail
         go_quiet (fail)
         go_wp2_with fail
         go_roundw
         case rel=>exact ⟨k+1,by omega,by go_num,fun j h hj hg=>by
          by_cases e:j=k
          · subst e;rw [xU HC1] at hg;cases hg
          · exact HQ.out j h (by omega) hg,bdrewN HB.out _⟩
         case measure=>simp [intOf];omega
       | true =>
         rw [c1] at e0
         have HAF:=xH (fun (W:World) (hW:Below w.heap.size w W)=>l41After_any d P ⟨.slice a0 d.files.length p0,.slice a1 d.names.length p1,.slice (some ⟨b,o,none⟩) d.moves.length p2⟩ W (fun b hb=>Nat.lt_of_lt_of_le (xU HP b hb) hW.size) ((xU HD).carry (fun b hb=>hW.block b (xU HP b hb)) (fun _ h=>h)) (by omega) (by omega) k hk)
         have hgo:=xH c1
         have HNM2:=xH (rfl:d.moves[k].name=d.moves[k].name)
         clear hc0 hc1 hcar hpb hok hbw hq2 c1
         generalize hnm:d.moves[k].name=nm at *
         cases c2:hasB (afterD d.names (d.moves.take k)) nm with
         | false =>
           have HNO:=xH (show ¬ DkOkS d from fun h=>by have:=h.move k hlt (xU hgo);rw [hnm,c2] at this;cases this)
           clear hnm
           go_wp2_with fail
           go_region_with (first
            | (go_at_call 33
               refine (xU HAF _ (by first | exact xU HBW | exact (xU HBW).drew)).mono ?_
               rintro e w5 ⟨a5,n5,c5,rfl,H5⟩
               have hb5:=H5.out.below
               have k25:w5.cell? ⟨w.heap.size,2,none⟩=some (.slice (some ⟨b,o,none⟩) d.moves.length p2):=by
                rw [hb5.cell (p:=⟨w.heap.size,2,none⟩) (World.block_lt_of_cell? wr _ k2)];exact k2
               have e15:w5.cell? ⟨b,o+k * 2+1,none⟩=some (.string nm):=by
                rw [hb5.cell (p:=⟨b,o+k * 2+1,none⟩) (World.block_lt_of_cell? wr _ e1)];exact e1
               have HHS:=xH (l6Has_any _ _ nm w5 H5.out.strs)
               rw [c2] at HHS
               have HBN:=xH ((xU HBW).drew.trans (hb5.mono (xU HBW).size))
               have HBM:=xH (HB.out.drew.trans (hb5.mono HB.out.size))
               clear hb5)
            | (go_at_call 31
               refine (xU HHS).mono ?_
               rintro e w6 ⟨rfl,rfl⟩))
           all_goals
            go_wp2_with fail
            go_ret
            exact ⟨RetIff.no (xU HNO),xU HBN⟩
         | true =>
           have HYES:=xH (show hasB (afterD d.names (d.moves.take k)) d.moves[k].name=true by rw [hnm];exact c2)
           clear hnm
           go_wp2_with fail
           go_region_with (first
            | (go_at_call 33
               refine (xU HAF _ (by first | exact xU HBW | exact (xU HBW).drew)).mono ?_
               rintro e w5 ⟨a5,n5,c5,rfl,H5⟩
               have hb5:=H5.out.below
               have k25:w5.cell? ⟨w.heap.size,2,none⟩=some (.slice (some ⟨b,o,none⟩) d.moves.length p2):=by
                rw [hb5.cell (p:=⟨w.heap.size,2,none⟩) (World.block_lt_of_cell? wr _ k2)];exact k2
               have e15:w5.cell? ⟨b,o+k * 2+1,none⟩=some (.string nm):=by
                rw [hb5.cell (p:=⟨b,o+k * 2+1,none⟩) (World.block_lt_of_cell? wr _ e1)];exact e1
               have HHS:=xH (l6Has_any _ _ nm w5 H5.out.strs)
               rw [c2] at HHS
               have HBN:=xH ((xU HBW).drew.trans (hb5.mono (xU HBW).size))
               have HBM:=xH (HB.out.drew.trans (hb5.mono HB.out.size))
               clear hb5)
            | (go_at_call 31
               refine (xU HHS).mono ?_
               rintro e w6 ⟨rfl,rfl⟩))
           all_goals
            go_wp2_with fail
            go_roundw
            case rel=>exact ⟨k+1,by omega,by go_num,fun j h hj hg=>by
             by_cases e:j=k
             · subst e;exact xU HYES
             · exact HQ.out j h (by omega) hg,xU HBM⟩
            case measure=>simp [intOf];omega
  · have hlm:k < made.length:=by rw [← xU HLEN];exact hlt
    obtain ⟨b,o,rfl,hpb,hcell,hok⟩:=xU HFC k hlt
    have hbw:=(xU HB01).trans (HB.out.mono (xU HB01).size)
    have hcell':=hcell.carry (hbw.block b (xU HP b hpb))
    obtain ⟨e0,e1,e2⟩:=hcell'
    simp only at e0 e1 e2
    obtain ⟨bm,om,rfl,hpm,hcm,-⟩:=xU HMD k hlm
    have hcm':wr.cell? ⟨bm,om+k,none⟩=some (.string made[k]):=by rw [HB.out.cell hpm.2];exact hcm
    have HFI:=xH (fun o' nq=>l41Find_any (.slice (some ⟨b,o,none⟩) d.files.length p0) d.files d.files[k].name ((wr.alloc o').drewN nq) (P:=P) ((xU HD).fs.carry (fun b hb=>((hbw.alloc hbw.size o').block b (xU HP b hb))) (fun _ h=>h)))
    have HNA:=xH (fun W=>l6NameOk_any d.files[k].name W hok.1)
    have HIN:=xH (fun W=>l6In_any d.files[k].kept 0 d.files[k].data.size W)
    have HFO:=xH (show FOkS d.files made k hlt hlm↔(nameOkB d.files[k].name=true∧sameB d.files[k].name made[k]=true∧d.files[k].data.size≤20000∧(0≤d.files[k].kept∧d.files[k].kept≤d.files[k].data.size)∧findF d.files d.files[k].name=k) from ⟨fun h=>⟨h.name,h.same,h.data,h.kept,h.find⟩,fun h=>⟨h.1,h.2.1,h.2.2.1,h.2.2.2.1,h.2.2.2.2⟩⟩)
    obtain ⟨hz1,hz2,hz3⟩:=hok
    have hfr:=findF_range d.files d.files[k].name hl0
    generalize findF d.files d.files[k].name=fi at *
    generalize d.files[k]=f at *
    generalize made[k]=mk at *
    obtain ⟨fn,fd,fk⟩:=f
    simp only at *
    have HBW:=xH hbw
    clear hcell hcm hpb hpm hq2 hbw
    have HBA:=xH (fun o'=>((xU HBW).alloc (xU HBW).size o'))
    have hcm2:∀ o',(wr.alloc o').cell? ⟨bm,om+k,none⟩=some (.string mk):=fun o'=>by rw [World.cell?_of_block (w:=wr) (Below.heap_alloc _ _ _ (World.block_lt_of_cell? wr _ hcm'))];exact hcm'
    have k02:∀ o',(wr.alloc o').cell? ⟨w.heap.size,0,none⟩=some (.slice (some ⟨b,o,none⟩) d.files.length p0):=fun o'=>by rw [World.cell?_of_block (w:=wr) (Below.heap_alloc _ _ _ (World.block_lt_of_cell? wr _ k0))];exact k0
    cases c1:nameOkB fn with
    | false =>
      have HNO:=xH (show ¬ FOkS d.files made k hlt hlm from fun h=>by have:=(xU HFO).1 h;simp [c1] at this)
      rw [c1] at HNA
      go_wp2_with fail
      go_quiet (first
       | (go_at_call 26;exact Calls.quiet_of_same (xU HNA _)))
      go_wp2_with fail
      go_ret
      exact ⟨RetIff.no (fun h=>xU HNO ((xU HMK') ▸ h.file k hlt (by rw [xU HMK'];exact hlm))),bdrewN (xU HBA _) _⟩
    | true =>
    rw [c1] at HNA
    cases c2:sameB fn mk with
    | false =>
      have HNO:=xH (show ¬ FOkS d.files made k hlt hlm from fun h=>by have:=(xU HFO).1 h;simp [c2] at this)
      unfold sameB at c2
      go_wp2_with fail
      go_quiet (first
       | (go_at_call 26;exact Calls.quiet_of_same (xU HNA _)))
      go_wp2_with fail
      go_ret
      exact ⟨RetIff.no (fun h=>xU HNO ((xU HMK') ▸ h.file k hlt (by rw [xU HMK'];exact hlm))),bdrewN (xU HBA _) _⟩
    | true =>
    by_cases c3:fd.size≤20000
    rotate_left
    · have HNO:=xH (show ¬ FOkS d.files made k hlt hlm from fun h=>c3 ((xU HFO).1 h).2.2.1)
      have c3':decide ((20000:Int) < (fd.size:Int))=true:=by simp;omega
      unfold sameB at c2
      go_wp2_with fail
      go_quiet (first
       | (go_at_call 26;exact Calls.quiet_of_same (xU HNA _)))
      go_wp2_with fail
      go_ret
      exact ⟨RetIff.no (fun h=>xU HNO ((xU HMK') ▸ h.file k hlt (by rw [xU HMK'];exact hlm))),bdrewN (xU HBA _) _⟩
    have c3':decide ((20000:Int) < (fd.size:Int))=false:=by simp;omega
    by_cases c4:0≤fk∧fk≤(fd.size:Int)
    rotate_left
    · have HNO:=xH (show ¬ FOkS d.files made k hlt hlm from fun h=>c4 ((xU HFO).1 h).2.2.2.1)
      rw [decide_eq_false c4] at HIN
      unfold sameB at c2
      go_wp2_with fail
      go_quiet (first
       | (go_at_call 26;exact Calls.quiet_of_same (xU HNA _))
       | (go_at_call 30;exact Calls.quiet_of_same (xU HIN _)))
      go_wp2_with fail
      go_ret
      exact ⟨RetIff.no (fun h=>xU HNO ((xU HMK') ▸ h.file k hlt (by rw [xU HMK'];exact hlm))),bdrewN (xU HBA _) _⟩
    by_cases c5:fi=(k:Int)
    rotate_left
    · have HNO:=xH (show ¬ FOkS d.files made k hlt hlm from fun h=>c5 ((xU HFO).1 h).2.2.2.2)
      have c5':decide (fi=(k:Int))=false:=decide_eq_false c5
      rw [decide_eq_true c4] at HIN
      unfold sameB at c2
      have C4:=xH c4;clear c4
      go_wp2_with fail
      go_quiet (first
       | (go_at_call 26;exact Calls.quiet_of_same (xU HNA _))
       | (go_at_call 30;exact Calls.quiet_of_same (xU HIN _))
       | (go_at_call 27;exact Calls.quiet_of_same (xU HFI _ _)))
      go_wp2_with fail
      go_ret
      exact ⟨RetIff.no (fun h=>xU HNO ((xU HMK') ▸ h.file k hlt (by rw [xU HMK'];exact hlm))),bdrewN (xU HBA _) _⟩
    · have HYES:=xH ((xU HFO).2 ⟨c1,c2,c3,c4,c5⟩)
      rw [decide_eq_true c4] at HIN
      unfold sameB at c2
      have C4:=xH c4;clear c4
      subst c5
      go_wp2_with fail
      go_quiet (first
       | (go_at_call 26;exact Calls.quiet_of_same (xU HNA _))
       | (go_at_call 30;exact Calls.quiet_of_same (xU HIN _))
       | (go_at_call 27;exact Calls.quiet_of_same (xU HFI _ _)))
      go_wp2_with fail
      go_roundw
      case rel=>exact ⟨k+1,by omega,by go_num,fun j h h2 hj=>by
       by_cases e:j=k
       · subst e;exact xU HYES
       · exact HQ.out j h h2 (by omega),bdrewN (HB.out.alloc HB.out.size _) _⟩
      case measure=>simp [intOf];omega
end Go.Proofs.Yteikmbkljkkjiaa

namespace Go.Proofs.Yteikmbkljkkjiaa
open Go Go.RowKit
def fOkB (f:Df):Bool:=nameOkB f.name && decide (f.data.size≤20000) && decide (0≤f.kept∧f.kept≤f.data.size)
theorem isIn_any (n lo hi:Int) (w:World) :
 Calls Try.prog 75 #[.int .i64 n,.int .i64 lo,.int .i64 hi] w fun e w'=>e=.returned (.bool (decide (lo≤n∧n≤hi)))∧w'=w:=by
 by_cases h1:lo≤n
 · by_cases h2:n≤hi
   · go_enter Try.func75,Try.ntmps75
     go_wp2_with fail
     go_ret
     exact ⟨by simp [h1,h2],rfl⟩
   · go_enter Try.func75,Try.ntmps75
     go_wp2_with fail
     go_ret
     exact ⟨ret_bool (by symm;simp;omega),rfl⟩
 · go_enter Try.func75,Try.ntmps75
   go_wp2_with fail
   go_ret
   exact ⟨ret_bool (by symm;simp;omega),rfl⟩
theorem fileOk_any (f:Df) (hf:f.okM) (w:World) :
 Calls Try.prog 54 #[.agg #[.string f.name,.string f.data,.int .i64 f.kept]] w fun e w'=>e=.returned (.bool (fOkB f))∧Below w.heap.size w w':=by
 obtain ⟨fn,fd,fk⟩:=f
 obtain ⟨h1,h2,h3⟩:=hf
 simp only at h1 h2 h3
 have hbx:∀ o,Below w.heap.size w (w.alloc o):=fun o=>(Below.refl _ _).alloc (Nat.le_refl _) o
 have HN:=xH (fun W=>nameOk_any fn W h1)
 have HI:=xH (fun W=>isIn_any fk 0 fd.size W)
 have HR:=xH (show fOkB ⟨fn,fd,fk⟩=(nameOkB fn && decide (fd.size≤20000) && decide (0≤fk∧fk≤(fd.size:Int))) from rfl)
 generalize fOkB ⟨fn,fd,fk⟩=res at *
 have HBX:=xH hbx
 clear hbx
 cases c1:nameOkB fn with
 | false =>
   rw [c1] at HN HR
   go_enter Try.func54,Try.ntmps54
   go_wp2_with (first
    | (go_at_call 61;refine (xU HN _).mono ?_;rintro e w' ⟨rfl,rfl⟩))
   go_ret
   exact ⟨by rw [xU HR];rfl,xU HBX _⟩
 | true =>
   rw [c1] at HN HR
   by_cases c2:fd.size≤20000
   · rw [decide_eq_true c2] at HR
     have c2':decide ((fd.size:Int)≤20000)=true:=by simp;omega
     go_enter Try.func54,Try.ntmps54
     go_wp2_with (first
      | (go_at_call 61;refine (xU HN _).mono ?_;rintro e w' ⟨rfl,rfl⟩)
      | (go_at_call 75;refine (xU HI _).mono ?_;rintro e w' ⟨rfl,rfl⟩))
     go_ret
     exact ⟨by rw [xU HR];simp,xU HBX _⟩
   · rw [decide_eq_false c2] at HR
     have c2':decide ((fd.size:Int)≤20000)=false:=by simp;omega
     go_enter Try.func54,Try.ntmps54
     go_wp2_with (first
      | (go_at_call 61;refine (xU HN _).mono ?_;rintro e w' ⟨rfl,rfl⟩))
     go_ret
     exact ⟨by rw [xU HR];rfl,xU HBX _⟩
theorem nameIs_any (f:Df) (x:ByteArray) (w:World) :
 Calls Try.prog 74 #[.agg #[.string f.name,.string f.data,.int .i64 f.kept],.string x] w fun e w'=>e=.returned (.bool (sameB f.name x))∧Below w.heap.size w w':=by
 obtain ⟨fn,fd,fk⟩:=f
 have hbx:∀ o,Below w.heap.size w (w.alloc o):=fun o=>(Below.refl _ _).alloc (Nat.le_refl _) o
 have HBX:=xH hbx;clear hbx
 go_enter Try.func74,Try.ntmps74
 go_wp2_with fail
 go_ret
 exact ⟨rfl,xU HBX _⟩
structure FNamed (fs:List Df) (ns:List ByteArray):Prop where
 len:fs.length=ns.length
 same:∀ i (h:i < fs.length) (h2:i < ns.length),sameB fs[i].name ns[i]=true
theorem equalFunc_any (fs:List Df) (ns:List ByteArray) (v u:Value) (w:World) {P Q:Nat→Prop} (hP:∀ b,P b→b < w.heap.size) (hQ:∀ b,Q b→b < w.heap.size) (hv:FsAt P w v fs) (hu:StrsAt Q w u ns) :
 Calls Try.prog 73 #[v,u,.func (.func 74) #[] #[]] w fun e w'=>RetIff e (FNamed fs ns)∧Below w.heap.size w w':=by
 obtain ⟨a,cap,rfl,hlen,hc⟩:=hv.open
 obtain ⟨a1,cap1,rfl,hlen1,hc1⟩:=hu
 have HC:=xH hc;have HC1:=xH hc1;have HP:=xH hP;have HQ':=xH hQ
 clear hv hc hc1 hP hQ
 by_cases hle:fs.length=ns.length
 rotate_left
 · have HNO:=xH (show ¬ FNamed fs ns from fun h=>hle h.len)
   have hle':decide ((fs.length:Int)=(ns.length:Int))=false:=by simp;omega
   go_enter Try.func73,Try.ntmps73
   go_wp2_with fail
   go_ret
   exact ⟨RetIff.no (xU HNO),Below.refl _ _⟩
 have HLE:=xH hle
 rw [← hle] at hlen1 ⊢
 clear hle
 go_enter Try.func73,Try.ntmps73
 go_wp2_with fail
 go_loopw [17] (fun i wr=>∃ (k:Nat),k≤fs.length∧i=.int .i64 k∧Hid (∀ i (h:i < fs.length) (h2:i < ns.length),i < k→sameB fs[i].name ns[i]=true)∧Hid (Below w.heap.size w wr)) (fun i _=>fs.length - (intOf i).toNat)
 case atStart=>exact ⟨0,Nat.zero_le _,rfl,fun j _ _ hj=>by omega,Below.refl _ _⟩
 case round =>
  obtain ⟨k,hk,rfl,HS,HB⟩:=hrel
  by_cases hlt:k < fs.length
  rotate_left
  · go_wp2_with fail
    go_ret
    exact ⟨RetIff.yes ⟨xU HLE,fun i h h2=>HS.out i h h2 (by omega)⟩,HB.out⟩
  · have hln:k < ns.length:=by rw [← xU HLE];exact hlt
    obtain ⟨b,o,rfl,hpb,hcell,-⟩:=xU HC k hlt
    obtain ⟨b1,o1,rfl,hpb1,hcell1,-⟩:=xU HC1 k hln
    obtain ⟨e0,e1,e2⟩:=hcell.carry (HB.out.block b (xU HP b hpb))
    have e4:wr.cell? ⟨b1,o1+k,none⟩=some (.string ns[k]):=by rw [HB.out.cell (p:=⟨b1,o1+k,none⟩) (xU HQ' b1 hpb1)];exact hcell1
    have e5:∀ o',(wr.alloc o').cell? ⟨b1,o1+k,none⟩=some (.string ns[k]):=fun o'=>by rw [World.cell?_of_block (w:=wr) (Below.heap_alloc _ _ _ (World.block_lt_of_cell? wr _ e4))];exact e4
    simp only at e0 e1 e2
    have HNA:=xH (fun W=>nameIs_any fs[k] ns[k] W)
    have HBA:=xH (fun o'=>HB.out.alloc HB.out.size o')
    have hi1:(k:Int) < (fs.length:Int):=by omega
    cases c:sameB fs[k].name ns[k] with
    | false =>
      have HNO:=xH (show ¬ FNamed fs ns from fun h=>by have:=h.same k hlt hln;rw [c] at this;cases this)
      rw [c] at HNA
      clear hcell hcell1 hpb hpb1 c
      generalize fs[k]=f at *
      generalize ns[k]=x at *
      obtain ⟨fn,fd,fk⟩:=f
      simp only at *
      go_wp2_with (go_at_call 74;refine (xU HNA _).mono ?_;rintro e w5 ⟨rfl,hb5⟩;have HB5:=xH ((xU HBA _).trans (hb5.mono (xU HBA _).size));clear hb5)
      go_ret
      exact ⟨RetIff.no (xU HNO),xU HB5⟩
    | true =>
      have HYES:=xH (show ∀ j (h:j < fs.length) (h2:j < ns.length),j=k→sameB fs[j].name ns[j]=true from fun j h h2 e=>by subst e;exact c)
      rw [c] at HNA
      clear hcell hcell1 hpb hpb1 c
      generalize fs[k]=f at *
      generalize ns[k]=x at *
      obtain ⟨fn,fd,fk⟩:=f
      simp only at *
      go_wp2_with (go_at_call 74;refine (xU HNA _).mono ?_;rintro e w5 ⟨rfl,hb5⟩;have HB5:=xH ((xU HBA _).trans (hb5.mono (xU HBA _).size));clear hb5)
      go_roundw
      case rel=>exact ⟨k+1,by omega,by go_num,fun j h h2 hj=>by
       by_cases e:j=k
       · exact xU HYES j h h2 e
       · exact HS.out j h h2 (by omega),xU HB5⟩
      case measure=>simp [intOf];omega
structure FMade (d:Dk):Prop where
 le:d.names.length≤d.files.length
 named:FNamed d.files (madeD d.names d.moves)
theorem filesNamed_any (d:Dk) (P:Nat→Prop) (c:C3) (w:World) (hP:∀ b,P b→b < w.heap.size) (hd:DkAt P w d c) (hl0:d.files.length≤1000) (hl2:d.moves.length≤1000) :
 Calls Try.prog 53 #[.agg #[c.c0,c.c1,c.c2]] w fun e w'=>RetIff e (FMade d)∧Below w.heap.size w w':=by
 obtain ⟨c0,c1,c2⟩:=c
 have HD:=xH hd
 obtain ⟨a0,p0,g0,-,-⟩:=hd.fs.open
 obtain ⟨a1,p1,g1,hl1,-⟩:=hd.ns
 obtain ⟨a2,p2,g2,-,hmc⟩:=hd.ms.open
 simp only at g0 g1 g2
 subst g0 g1 g2
 have hbx:∀ o,Below w.heap.size w (w.alloc o):=fun o=>(Below.refl _ _).alloc (Nat.le_refl _) o
 have HBX:=xH hbx
 by_cases hle:d.names.length≤d.files.length
 rotate_left
 · have HNO:=xH (show ¬ FMade d from fun h=>hle h.le)
   have hle':decide ((d.files.length:Int) < (d.names.length:Int))=true:=by simp;omega
   clear hd hmc hbx hP
   go_enter Try.func53,Try.ntmps53
   go_wp2_with fail
   go_ret
   exact ⟨RetIff.no (xU HNO),xU HBX _⟩
 have HCL:=xH (fun o=>cloneNs_any (.slice a1 d.names.length p1) d.names (w.alloc o) (P:=P) (hd.ns.carry (fun b hb=>(hbx o).block b (hP b hb)) (fun _ h=>h)) (by omega))
 obtain ⟨j0,hj,hy0,hy1,hy2⟩:=infoStrD
 have HJJ:=xH hj;have HY0:=xH hy0;have HY1:=xH hy1;have HY2:=xH hy2
 have HMC:=xH hmc;have HP:=xH hP
 have HROW:=xH (row3_alloc w (.slice a0 d.files.length p0) (.slice a1 d.names.length p1) (.slice a2 d.moves.length p2) 27)
 have HMM:=xH (fun k (hk:k < d.moves.length)=>made_take (ns:=d.names) hk)
 have HM0:=xH (show madeD d.names (d.moves.take 0)=d.names by simp [madeD])
 have HLN:=xH (fun k=>made_len d.names (d.moves.take k))
 clear hd hmc hbx hP hj hy0 hy1 hy2
 go_enter Try.func53,Try.ntmps53
 go_wp2_with fail
 refine (xU HCL _).mono ?_
 rintro e w1 ⟨v1,rfl,hnm⟩
 have hb1:=hnm.below
 have hs1:w.heap.size+1≤w1.heap.size:=by have:=hb1.size;simpa using this
 have hq1:=(xU HROW).of_block (hb1.block w.heap.size (by simp))
 have k2:=hq1.cell (i:=2) (by omega)
 simp only [row3] at k2
 have HNM:=xH hnm
 clear hnm hb1 hq1 HCL
 go_wp2_with fail
 generalize hW1:w.alloc (.cells #[.slice a0 d.files.length p0,.slice a1 d.names.length p1,.slice a2 d.moves.length p2] 27)=W1 at *
 have hsW:W1.heap.size=w.heap.size+1:=by rw [← hW1];simp
 have hbW:Below w.heap.size w W1:=by rw [← hW1];exact xU HBX _
 have HBW:=xH hbW;have HSW:=xH hsW
 clear k2 hW1 hbW hsW
 go_loopw [3,19] (fun vo i wr=>∃ (k:Nat) (vk:Value),k≤d.moves.length∧i=.int .i64 k∧vk=vo∧Hid (NmOwn W1 wr vk (madeD d.names (d.moves.take k)).length (madeD d.names (d.moves.take k)))) (fun _ i _=>d.moves.length - (intOf i).toNat)
 case atStart=>exact ⟨0,_,Nat.zero_le _,rfl,rfl,xH (by rw [xU HM0];exact xU HNM)⟩
 case round =>
  obtain ⟨k,vk,hk,rfl,rfl,HK⟩:=hrel
  have hbk:=HK.out.below
  have hws:W1.heap.size≤wr.heap.size:=hbk.size
  have hq2:=(xU HROW).of_block (hbk.block w.heap.size (by have:=xU HSW;omega))
  have k0:=hq2.cell (i:=0) (by omega)
  simp only [row3] at k0
  have HBK:=xH ((xU HBW).trans (hbk.mono (by have:=xU HSW;omega)))
  by_cases hlt:k < d.moves.length
  rotate_left
  · obtain rfl:k=d.moves.length:=by omega
    have hne:=HK.out
    rw [List.take_of_length_le (Nat.le_refl _)] at hne
    have HEQ:=xH (equalFunc_any d.files (madeD d.names d.moves) (.slice a0 d.files.length p0) vk wr (P:=P) (fun b hb=>Nat.lt_of_lt_of_le (xU HP b hb) (xU HBK).size) (fun b hb=>hb.2) ((xU HD).fs.carry (fun b hb=>(xU HBK).block b (xU HP b hb)) (fun _ h=>h)) hne.strs)
    clear hbk hq2 hne
    go_wp2_with (go_at_call 73;refine (xU HEQ).mono ?_;rintro e w5 ⟨⟨r,rfl,hr⟩,hb5⟩;have HR:=xH hr;have HB5:=xH ((xU HBK).trans (hb5.mono (xU HBK).size));clear hb5 hr)
    go_ret
    exact ⟨⟨r,rfl,⟨fun h=>⟨hle,(xU HR).1 h⟩,fun h=>(xU HR).2 h.named⟩⟩,xU HB5⟩
  · obtain ⟨b,o,rfl,hpb,hc0,hc1,hok⟩:=xU HMC k hlt
    have e0:wr.cell? ⟨b,o+k * 2,none⟩=some (.bool d.moves[k].gone):=by rw [(xU HBK).cell (p:=⟨b,o+k * 2,none⟩) (xU HP b hpb)];exact hc0
    have e1:wr.cell? ⟨b,o+k * 2+1,none⟩=some (.string d.moves[k].name):=by rw [(xU HBK).cell (p:=⟨b,o+k * 2+1,none⟩) (xU HP b hpb)];exact hc1
    have HT:=xH (xU HMM k hlt)
    have hn2:=xU HLN k
    rw [List.length_take,Nat.min_eq_left (by omega)] at hn2
    have hmz:d.moves[k].name.size≤9223372036854775807:=hok
    clear hc0 hc1 hpb hok hbk hq2
    cases e:d.moves[k].gone with
    | true =>
      rw [e] at HT e0
      simp only [if_true] at HT
      generalize d.moves[k].name=y at *
      go_wp2_with fail
      go_roundw
      case rel=>exact ⟨k+1,_,by omega,by go_num,rfl,xH (by rw [xU HT];have h:=HK.out;exact ⟨h.own.alloc _,h.len,h.sz,h.below.alloc h.below.size _⟩)⟩
      case measure=>simp [intOf];omega
    | false =>
      rw [e] at HT e0
      simp only [Bool.false_eq_true,if_false] at HT
      generalize d.moves[k].name=y at *
      generalize hml:madeD d.names (d.moves.take k)=ml at *
      have hle3:ml.length≤2000:=by omega
      have HCO:=xH (fun o1 t=>show ∀ j u,([Value.string y])[j]? = some u→((wr.alloc o1).alloc (.cells #[.string y] t)).cell? ((⟨wr.heap.size+1,0,none⟩:Addr).add j)=some u from fun j u h=>by have:=cell_one (wr.alloc o1) (.string y) t j u h;simpa using this)
      have HBK2:=xH (fun o1 o2=>(HK.out.below.alloc HK.out.below.size o1).alloc (HK.out.below.alloc HK.out.below.size o1).size o2)
      have hmz2:=hmz
      have HYE:=xH e0
      go_wp2_with (at_builtin;(refine append_row _ rfl _ _ 24 rfl W1.heap.size 9 j0 (.string ByteArray.empty) 1 16 Try.underlying24 (xU HJJ) (xU HY0) (xU HY1) (xU HY2) rfl (by decide) vk ml.length (ml.map Value.string) rfl (World.ownsRow.alloc (World.ownsRow.alloc HK.out.own _) _) ⟨wr.heap.size+1,0,none⟩ 1 1 [.string y] rfl rfl (xU HCO _ _) (fun u hu=>by simp at hu;subst hu;rfl) (by decide) (by unfold maxLen;omega) (by omega) (by simp;omega) ?_;intro v' w5 hown5 hgrow5 hat5;have HO5:=xH hown5;have HB5:=xH (below_grown (by simp;omega) (xU HBK2 _ _) hgrow5 (fun b e=>(HK.out.own.lt b e).1));clear hown5 hgrow5 hat5))
      go_roundw
      case rel=>exact ⟨k+1,_,by omega,by go_num,rfl,xH (by
       rw [xU HT]
       refine ⟨by simpa using xU HO5,rfl,fun z hz=>?_,xU HB5⟩
       rcases List.mem_append.1 hz with h1 | h1
       · exact HK.out.sz z h1
       · simp at h1;rw [h1];exact hmz2)⟩
      case measure=>simp [intOf];omega
end Go.Proofs.Yteikmbkljkkjiaa

namespace Go.Proofs.Yteikmbkljkkjiaa
open Go Go.RowKit Go.WideMaps Go.Maps
def nkey (s:ByteArray):Lit:=.string s.data.toList
def nmap (ns:List ByteArray):Nat→DataW Unit
 | 0=>.map []
 | k+1=>(nmap ns k).put (nkey (ns.getD k ByteArray.empty)) (.lit (.int .i64 k))
theorem nmap_map (ns:List ByteArray):∀ k,IsMap (nmap ns k)
 | 0=>⟨[],rfl⟩
 | k+1=>(nmap_map ns k).put _ _
theorem nkey_inj {a b:ByteArray} (h:nkey a=nkey b):a=b:=by
 simp only [nkey,Lit.string.injEq] at h
 exact ByteArray.ext (Array.toList_inj.1 h)
theorem nkey_ok (s:ByteArray):WideAt.IsKeyLit (nkey s):=trivial
theorem has_nmap (ns:List ByteArray) (x:ByteArray):∀ k,k≤ns.length→(Maps.has (nmap ns k) (nkey x)=true↔x∈ns.take k)
 | 0,_=>by simp [nmap,Maps.has]
 | k+1,h=>by
   have hg:ns.getD k ByteArray.empty=ns[k]:=by simp [List.getD,show k < ns.length by omega]
   rw [nmap,hg,List.take_succ_eq_append_getElem (by omega),List.mem_append]
   by_cases e:x=ns[k]
   · rw [e,has_put_same (nmap_map ns k) (nkey_ok _)]
     simp
   · rw [has_put_other (fun h=>e (nkey_inj h)),has_nmap ns x k (by omega)]
     simp [e]
theorem at_nmap (ns:List ByteArray) (hnd:ns.Nodup) (i:Nat) (hi:i < ns.length):∀ k,k≤ns.length→i < k→(nmap ns k).atKey (nkey ns[i]) (.lit (.int .i64 0))=.lit (.int .i64 i)
 | 0,_,h=>by omega
 | k+1,h,hk=>by
   have hg:ns.getD k ByteArray.empty=ns[k]:=by simp [List.getD,show k < ns.length by omega]
   rw [nmap,hg]
   by_cases e:i=k
   · subst e
     exact atKey_put_same (nmap_map ns i) (nkey_ok _) _ _
   · rw [atKey_put_other (fun hh=>e ((List.getElem_inj hnd).1 (nkey_inj hh)))]
     exact at_nmap ns hnd i hi k (by omega) (by omega)
theorem keyLaw:Keyed Try.prog 9:=string_keyed Try.underlying9
theorem zeroInt (w:World):(zeroValue 3).run Try.prog w=.ok (.int .i64 0) w:=by kernel_rfl
theorem runMake (n:Int) (w:World):(Instr.makeMap 82 (some (.int .i64 n))).run Try.prog w=.ok (.map (some w.heap.size)) (w.alloc (.map #[] 0)):=by rfl
def NMap (w:World) (B:Nat) (ns:List ByteArray):Prop:=w.ownsMap Try.prog 9 (plainElem (H:=Unit) Try.prog 3) B ns.length (nmap ns ns.length)
def rowO (c0 c1:Value):Nat→Value
 | 0=>c0
 | _=>c1
theorem rowO_alloc (w:World) (c0 c1:Value) (t:TypeId):(w.alloc (.cells #[c0,c1] t)).rowIs w.heap.size t 2 (rowO c0 c1) :=
 World.rowIs_alloc w #[c0,c1] t _ (fun i hi=>by
  have hi':i < 2:=hi
  match i,hi' with
  | 0,_=>rfl
  | 1,_=>rfl)
theorem ownsMap_block {w w':World} {B n:Nat} {D:DataW Unit} (h:w.ownsMap Try.prog 9 (plainElem (H:=Unit) Try.prog 3) B n D) (hb:w'.heap[B]? = w.heap[B]?):w'.ownsMap Try.prog 9 (plainElem (H:=Unit) Try.prog 3) B n D:=by
 obtain ⟨es,clock,h1,F,hs,rfl⟩:=h
 exact ⟨es,clock,by rw [hb];exact h1,F,hs,rfl⟩
theorem look_all {w:World} {B n:Nat} {D:DataW Unit} (h:w.ownsMap Try.prog 9 (plainElem (H:=Unit) Try.prog 3) B n D) (nm:ByteArray) (hz:nm.size≤9223372036854775807) :
 ∃ c:Int,(∀ m,(Instr.lookup 82 (.map (some B)) (.string nm) true).run Try.prog (w.drewN m)=.ok (.tuple #[.int .i64 c,.bool (Maps.has D (nkey nm))]) (w.drewN m))∧D.atKey (nkey nm) (.lit (.int .i64 0))=.lit (.int .i64 c)∧(Lit.int .i64 c).wf=true:=by
 have hkey:keyOf Try.prog 9 (.string nm)=some (nkey nm):=keyOf_string_mk Try.underlying9 (by unfold maxLen;omega)
 have hall:∀ m,∃ c:Int,(Instr.lookup 82 (.map (some B)) (.string nm) true).run Try.prog (w.drewN m)=.ok (.tuple #[.int .i64 c,.bool (Maps.has D (nkey nm))]) (w.drewN m)∧D.atKey (nkey nm) (.lit (.int .i64 0))=.lit (.int .i64 c)∧(Lit.int .i64 c).wf=true:=fun m=>by
  obtain ⟨v,ps,hrun,hv⟩:=(ownsMap_block (w':=w.drewN m) h rfl).look_ok keyLaw Try.underlying82 (zeroInt _) (plainElem_int Try.underlying3 (a:=0) (by decide)) hkey
  obtain ⟨c,rfl,hc,hwc⟩:=plainElem_int_inv Try.underlying3 hv
  exact ⟨c,hrun,congrArg Prod.fst hc,hwc⟩
 obtain ⟨c,-,hc,hw⟩:=hall 0
 refine ⟨c,fun m=>?_,hc,hw⟩
 obtain ⟨c',hr,hc',-⟩:=hall m
 have:c'=c:=by
  have:=hc'.symm.trans hc
  simpa using this
 rw [← this];exact hr
end Go.Proofs.Yteikmbkljkkjiaa
