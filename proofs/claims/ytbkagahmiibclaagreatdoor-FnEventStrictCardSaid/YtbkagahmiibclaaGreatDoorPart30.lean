/- A part. -/
import Derived.Test.YtbkagahmiibclaaGreatDoorPart28
import Derived.Test.YtbkagahmiibclaaGreatDoorPart29
import Derived.ProofKit
import Derived.OpenShut
import Derived.MakeChecks
import Derived.Deep.Fields
set_option maxRecDepth 100000
set_option maxHeartbeats 12800000
namespace Go.Proofs.YtbkagahmiibclaaGreatDoor
open Go Go.RowKit
def TtSaid (n : Nat) : Prop := ∀ (t : Tr), tsz t < n → ∀ (P Q : Nat → Prop) (c d : C5) (w : World), (∀ b, P b → b < w.heap.size) → (∀ b, Q b → b < w.heap.size) → Rep P w t c → Rep Q w t d →
    Calls Tryz.prog 42 #[.agg #[c.c0, c.c1, c.c2, c.c3, c.c4], .agg #[d.c0, d.c1, d.c2, d.c3, d.c4]] w fun e w' => e = .returned (.bool true) ∧ Below w.heap.size w w'
structure TT (w : World) (c d : C5) (wr : World) : Prop where
 below : Below w.heap.size w wr
 a : wr.rowIs w.heap.size 26 5 (row5 c.c0 c.c1 c.c2 c.c3 c.c4)
 b : wr.rowIs (w.heap.size + 1) 26 5 (row5 d.c0 d.c1 d.c2 d.c3 d.c4)
theorem TT.on {w : World} {c d : C5} {wr w' : World} (h : TT w c d wr) (hb : Below wr.heap.size wr w') : TT w c d w' :=
 ⟨h.below.trans (hb.mono h.below.size), h.a.of_block (hb.block _ h.a.lt), h.b.of_block (hb.block _ h.b.lt)⟩
theorem TT.start (w : World) (c0 c1 c2 c3 c4 d0 d1 d2 d3 d4 : Value) : TT w ⟨c0, c1, c2, c3, c4⟩ ⟨d0, d1, d2, d3, d4⟩ ((w.alloc (.cells #[c0, c1, c2, c3, c4] 26)).alloc (.cells #[d0, d1, d2, d3, d4] 26)) := by
 refine ⟨((Below.refl _ _).alloc (Nat.le_refl _) _).alloc (by simp) _, (row5_alloc w c0 c1 c2 c3 c4 26).alloc _, ?_⟩
 have := row5_alloc (w.alloc (.cells #[c0, c1, c2, c3, c4] 26)) d0 d1 d2 d3 d4 26
 rw [World.size_alloc] at this
 exact this
theorem ttTree_step (n : Nat) (IH : TtSaid n) : TtSaid (n + 1) := by
 intro t hn P Q c d w hP hQ hrep hrep2
 obtain ⟨c0, c1, c2, c3, c4⟩ := c
 obtain ⟨d0, d1, d2, d3, d4⟩ := d
 obtain ⟨e0, e1, e2, -, -, -, hns, a4, cap4, e4, hlen, hks⟩ := hrep.open
 obtain ⟨g0, g1, g2, -, -, -, hns2, b4, dap4, g4, -, hks2⟩ := hrep2.open
 simp only at e0 e1 e2 e4 hns g0 g1 g2 g4 hns2
 obtain ⟨a3, cap3, e3, hnl, hnc⟩ := hns
 obtain ⟨b3, dap3, g3, -, hnc2⟩ := hns2
 subst e0 e1 e2 e3 e4 g0 g1 g2 g3 g4
 have htt := TT.start w (.int .i64 t.sort) (.int .i64 t.num) (.string t.text) (.slice a3 t.names.length cap3) (.slice a4 t.kids.length cap4) (.int .i64 t.sort) (.int .i64 t.num) (.string t.text) (.slice b3 t.names.length dap3) (.slice b4 t.kids.length dap4)
 have HN := hH hnc; have HN2 := hH hnc2; have HK := hH hks; have HK2 := hH hks2; have HP := hH hP; have HQ := hH hQ; have HI := hH IH
 have hkid : ∀ i, (hi : i < t.kids.length) → tsz t.kids[i] < n := fun i hi => by have := tsz_kid (List.getElem_mem hi); omega
 have HKS := hH hkid
 clear hnc hnc2 hks hks2 hP hQ IH hrep hrep2 hkid hn
 generalize t.names = ns at *
 generalize t.kids = ks at *
 generalize t.sort = s0 at *
 generalize t.num = s1 at *
 generalize t.text = s2 at *
 obtain ⟨q0, q1, q2, q3, q4⟩ := cs5 htt.a (by omega)
 have r0 := htt.b.cell (i := 0) (by omega); have r1 := htt.b.cell (i := 1) (by omega); have r2 := htt.b.cell (i := 2) (by omega); have r3 := htt.b.cell (i := 3) (by omega); have r4 := htt.b.cell (i := 4) (by omega)
 simp only [row5] at q0 q1 q2 q3 q4 r0 r1 r2 r3 r4
 have HT := hH htt
 clear htt
 go_enter Tryz.func42, Tryz.ntmps42
 go_wp2_with fail
 clear q0 q1 q2 q3 q4 r0 r1 r2 r3 r4
 go_loopw [5] (fun i wr => ∃ (k : Nat), k ≤ ns.length ∧ i = .int .i64 k ∧ Hid (TT w ⟨.int .i64 s0, .int .i64 s1, .string s2, .slice a3 ns.length cap3, .slice a4 ks.length cap4⟩ ⟨.int .i64 s0, .int .i64 s1, .string s2, .slice b3 ns.length dap3, .slice b4 ks.length dap4⟩ wr)) (fun i _ => ns.length - (intOf i).toNat)
 case atStart => exact ⟨0, Nat.zero_le _, rfl, HT⟩
 case round =>
  clear HT
  obtain ⟨k, hk, rfl, HT⟩ := hrel
  have q3 := HT.out.a.cell (i := 3) (by omega); have r3 := HT.out.b.cell (i := 3) (by omega)
  simp only [row5] at q3 r3
  by_cases hlt : k < ns.length
  · obtain ⟨x, o, rfl, hpb, hcell, -⟩ := uh HN k hlt
    obtain ⟨x2, o2, rfl, hpb2, hcell2, -⟩ := uh HN2 k hlt
    have e1 : wr.cell? ⟨x, o + k, none⟩ = some (.string ns[k]) := by rw [HT.out.below.cell (uh HP x hpb)]; exact hcell
    have e2 : wr.cell? ⟨x2, o2 + k, none⟩ = some (.string ns[k]) := by rw [HT.out.below.cell (uh HQ x2 hpb2)]; exact hcell2
    have HT2 := hH (HT.out.on (Below.refl _ wr).drew)
    have HTN := hH (fun m => HT.out.on (show Below wr.heap.size wr (wr.drewN m) from ⟨rfl, rfl, rfl, Nat.le_refl _, fun _ _ => rfl⟩))
    have hix : (k : Int) < (ns.length : Int) := by omega
    clear hcell hcell2 hpb hpb2 HT
    go_wp2_with fail
    go_quiet (fail)
    go_wp2_with fail
    go_roundw
    case rel => exact ⟨k + 1, by omega, by go_num, uh HTN _⟩
    case measure => simp [intOf]; omega
  · go_wp2_with fail
    go_loopw [6] (fun i wr => ∃ (k : Nat), k ≤ ks.length ∧ i = .int .i64 k ∧ Hid (TT w ⟨.int .i64 s0, .int .i64 s1, .string s2, .slice a3 ns.length cap3, .slice a4 ks.length cap4⟩ ⟨.int .i64 s0, .int .i64 s1, .string s2, .slice b3 ns.length dap3, .slice b4 ks.length dap4⟩ wr)) (fun i _ => ks.length - (intOf i).toNat)
    case atStart => exact ⟨0, Nat.zero_le _, rfl, HT⟩
    case round =>
     clear HT q3 r3
     obtain ⟨k, hk, rfl, HT⟩ := hrel
     have q4 := HT.out.a.cell (i := 4) (by omega); have r4 := HT.out.b.cell (i := 4) (by omega)
     simp only [row5] at q4 r4
     by_cases hlt : k < ks.length
     · obtain ⟨x, o, c, rfl, hpb, hcell, hrep⟩ := uh HK k hlt
       obtain ⟨x2, o2, d, rfl, hpb2, hcell2, hrep2⟩ := uh HK2 k hlt
       have hcell' := hcell.carry (HT.out.below.block x (uh HP x hpb))
       have hcell2' := hcell2.carry (HT.out.below.block x2 (uh HQ x2 hpb2))
       obtain ⟨c0, c1, c2, c3, c4⟩ := c
       obtain ⟨d0, d1, d2, d3, d4⟩ := d
       obtain ⟨e0, e1, e2, e3, e4⟩ := hcell'
       obtain ⟨g0, g1, g2, g3, g4⟩ := hcell2'
       simp only at e0 e1 e2 e3 e4 g0 g1 g2 g3 g4
       have hbd := HT.out.below.drew
       have hcall := uh HI ks[k] (uh HKS k hlt) P Q ⟨c0, c1, c2, c3, c4⟩ ⟨d0, d1, d2, d3, d4⟩ wr.drew (fun b hb' => Nat.lt_of_lt_of_le (uh HP b hb') hbd.size) (fun b hb' => Nat.lt_of_lt_of_le (uh HQ b hb') hbd.size) (Rep.carry (w' := wr.drew) (fun b hb' => hbd.block b (uh HP b hb')) (fun _ h => h) _ _ hrep) (Rep.carry (w' := wr.drew) (fun b hb' => hbd.block b (uh HQ b hb')) (fun _ h => h) _ _ hrep2)
       have HCALL := hH hcall
       have hix : (k : Int) < (ks.length : Int) := by omega
       clear hrep hcell hpb hrep2 hcell2 hpb2 hcall hbd
       go_wp2_with fail
       go_region_with (go_at_call 42; refine (uh HCALL).mono ?_; rintro e w' ⟨rfl, hb'⟩)
       all_goals
        have HT2 := hH (HT.out.on ((Below.refl _ wr).drew.trans hb'))
        go_wp2_with fail
        go_roundw
        case rel => exact ⟨k + 1, by omega, by go_num, HT2⟩
        case measure => simp [intOf]; omega
     · go_wp2_with fail
       go_ret
       exact ⟨rfl, HT.out.below⟩
theorem ttTree_all : ∀ n, TtSaid n
 | 0 => fun t h => by omega
 | n + 1 => ttTree_step n (ttTree_all n)
theorem ttTree_any (t : Tr) (P Q : Nat → Prop) (c d : C5) (w : World) (hP : ∀ b, P b → b < w.heap.size) (hQ : ∀ b, Q b → b < w.heap.size) (h1 : Rep P w t c) (h2 : Rep Q w t d) :
 Calls Tryz.prog 42 #[.agg #[c.c0, c.c1, c.c2, c.c3, c.c4], .agg #[d.c0, d.c1, d.c2, d.c3, d.c4]] w fun e w' => e = .returned (.bool true) ∧ Below w.heap.size w w' :=
 ttTree_all (tsz t + 1) t (by omega) P Q c d w hP hQ h1 h2
end Go.Proofs.YtbkagahmiibclaaGreatDoor

namespace Go.Proofs.YtbkagahmiibclaaGreatDoor
open Go Go.RowKit
theorem ttEvent_any (ty : ByteArray) (ver : Int) (t : Tr) (P Q : Nat → Prop) (c d : C5) (w : World) (hP : ∀ b, P b → b < w.heap.size) (hQ : ∀ b, Q b → b < w.heap.size) (h1 : Rep P w t c) (h2 : Rep Q w t d) :
 Calls Tryz.prog 14 #[.agg #[.string ty, .int .i64 ver, c.c0, c.c1, c.c2, c.c3, c.c4], .agg #[.string ty, .int .i64 ver, d.c0, d.c1, d.c2, d.c3, d.c4]] w fun e w' => e = .returned (.bool true) ∧ Below w.heap.size w w' := by
 obtain ⟨c0, c1, c2, c3, c4⟩ := c
 obtain ⟨d0, d1, d2, d3, d4⟩ := d
 have hbx : ∀ o o2, Below w.heap.size w ((w.alloc o).alloc o2) := fun o o2 => ((Below.refl _ _).alloc (Nat.le_refl _) o).alloc (by simp) o2
 have hcall := fun (W : World) (hW : Below w.heap.size w W) => ttTree_any t P Q ⟨c0, c1, c2, c3, c4⟩ ⟨d0, d1, d2, d3, d4⟩ W (fun b hb => Nat.lt_of_lt_of_le (hP b hb) hW.size) (fun b hb => Nat.lt_of_lt_of_le (hQ b hb) hW.size) (Rep.carry (fun b hb => hW.block b (hP b hb)) (fun _ h => h) _ _ h1) (Rep.carry (fun b hb => hW.block b (hQ b hb)) (fun _ h => h) _ _ h2)
 have HBX := hH hbx; have HCALL := hH hcall
 clear hbx hcall hP hQ h1 h2
 go_enter Tryz.func14, Tryz.ntmps14
 go_wp2_with fail
 refine (uh HCALL _ (uh HBX _ _)).mono ?_
 rintro e w1 ⟨rfl, hb1⟩
 have hb2 := (uh HBX _ _).trans (hb1.mono (uh HBX _ _).size)
 have HB := hH hb2
 clear hb1 hb2
 go_wp2_with fail
 go_ret
 exact ⟨rfl, uh HB⟩
end Go.Proofs.YtbkagahmiibclaaGreatDoor

namespace Go.Proofs.YtbkagahmiibclaaGreatDoor
open Go Go.RowKit
theorem lawEventStrict_any (w : World) (a : Option Addr) (cap : Nat) (l : List UInt8) (hv : BytesAt w (.slice a l.length cap) l) (hcap : l.length ≤ cap) (hE : Env w) (hT : Tab w) :
 Calls Tryz.prog 4 #[.slice a l.length cap] w fun e w' => e = .returned (.bool true) ∧ Below w.heap.size w w' := by
 have hlen : l.length ≤ 9223372036854775807 := by obtain ⟨_, _, _, h, _⟩ := hv; exact h
 by_cases hs : l.length ≤ 1048576
 · have hd : decide ((1048576 : Int) < (l.length : Int)) = false := by simp; omega
   have HDU := hH (drawEventUnpack_any w a cap l hv hcap)
   have HDR := hH (fun W (hW : Below w.heap.size w W) => drawEventRead_any W a cap l (hv.on hW) hcap)
   have HT := hH (fun W (hW : Below w.heap.size w W) => hT.of_block (hW.block _ hT.lt))
   have HE := hH (fun W (hW : Below w.heap.size w W) => hE.below hW)
   clear hv hT hE
   go_enter Tryz.func4, Tryz.ntmps4
   go_wp2_with fail
   refine (uh HDU).mono ?_
   rintro e w1 ⟨v, b, rfl, hr1, hl1, hb1⟩
   obtain ⟨av, cv, rfl⟩ := hr1.slice
   obtain ⟨ty, ver, t, ok, hok, hans⟩ := up_one b
   have HSU := hH ((specEventUnpack_any w1 _ b hr1 (by omega)).mono fun e w' h => hans _ _ _ h)
   have HIU := hH (fun W (hW : Below w1.heap.size w1 W) => (implEventUnpack_any W _ b (hr1.stay hW) (by omega) (uh HT W (hb1.trans (hW.mono hb1.size)))).mono fun e w' h => hans _ _ _ h)
   have HR1 := hH hr1; have HB1 := hH hb1
   clear hr1 hb1 hans HDU
   cases ok with
   | true =>
     have hU := hok rfl
     have hokE : evOkB ty ver t = true := hU.1
     have hPk : packB ty ver t = b := by rw [packB, if_pos hokE]; exact hU.2
     obtain ⟨q1, q2, q3, -, -⟩ := evOk_open hokE
     have htz : ty.size ≤ 9223372036854775807 := by have := (nmty_size q1).1; omega
     have hver : I64 ver := ⟨by omega, by omega⟩
     have hq := And.intro hokE hPk
     clear hU hokE hPk q1 q2 q3
     have HQ := hH hq; have HVER := hH hver; have HTZ := hH htz
     clear hq hver htz
     clear hok
     go_wp2_with fail
     refine (uh HSU).mono ?_
     rintro e w2 ⟨y0, y1, y2, ya, yn, yc, yd, ym, ye, rfl, HRX, HBX⟩
     have hxs := EvBx.start (ty := ty) (ver := ver) ((uh HB1).trans (HBX.out.mono (uh HB1).size)) HRX.out
     have hba := HBX.out.alloc HBX.out.size (.cells #[.string ty, .int .i64 ver, .int .i64 y0, .int .i64 y1, .string y2, .slice ya yn yc, .slice yd ym ye] 28)
     have HC := hH (uh HIU _ hba)
     have HR2 := hH ((uh HR1).stay hba); have HX2 := hH hxs
     clear hxs hba HRX HBX HSU HIU HR1 HB1
     go_wp2_with fail
     refine (uh HC).mono ?_
     rintro e w3 ⟨z0, z1, z2, za, zn, zc, zd, zm, ze, rfl, HRY, HBY⟩
     have X3 := hH ((uh HX2).on HBY.out)
     have hba := (Below.refl w3.heap.size w3).alloc (Nat.le_refl _) (.cells #[.string ty, .int .i64 ver, .int .i64 z0, .int .i64 z1, .string z2, .slice za zn zc, .slice zd zm ze] 28)
     have hy3 := EvBx.start (ty := ty) (ver := ver) (uh X3).below HRY.out
     have two : Two _ _ ty ver t _ _ _ _ _ b := ⟨(uh X3).on hba, hy3, ((uh HR2).stay HBY.out).stay hba⟩
     obtain ⟨k0, k1, k2, k3, k4, k5, k6⟩ := (uh X3).cells
     simp only at k0 k1 k2 k3 k4 k5 k6
     have hlx := (uh X3).box.lt
     have HTWO := hH two
     have HTT := hH (ttEvent_any ty ver t _ _ _ _ _ (fun x hx => Nat.lt_trans hx two.drew.y.box.lt) (fun x hx => Nat.lt_trans hx two.drew.x.box.lt) two.drew.y.rep two.drew.x.rep)
     have HIOK := hH (fun W (hW : Two w W ty ver t ⟨.int .i64 y0, .int .i64 y1, .string y2, .slice ya yn yc, .slice yd ym ye⟩ ⟨.int .i64 z0, .int .i64 z1, .string z2, .slice za zn zc, .slice zd zm ze⟩ w2.heap.size w3.heap.size (.slice av b.length cv) b) => implEventOk_any ty ver t _ _ W (fun x hx => Nat.lt_trans hx hW.y.box.lt) hW.y.rep (uh HTZ) (uh HVER) (uh HT W hW.y.below))
     have HPK := hH (fun W (hW : Two w W ty ver t ⟨.int .i64 y0, .int .i64 y1, .string y2, .slice ya yn yc, .slice yd ym ye⟩ ⟨.int .i64 z0, .int .i64 z1, .string z2, .slice za zn zc, .slice zd zm ze⟩ w2.heap.size w3.heap.size (.slice av b.length cv) b) => implEventPack_any ty ver t _ _ W (fun x hx => Nat.lt_trans hx hW.y.box.lt) hW.y.rep (uh HTZ) (uh HVER) (uh HT W hW.y.below))
     rw [(uh HQ).1] at HIOK
     rw [(uh HQ).2] at HPK
     clear HQ HVER HTZ
     clear hy3 two hba HRY HBY X3 HX2 HR2 HC
     go_upto_region 6 with fail
     go_cut [52] from 28 (fun s wx => s = .bool false ∧ Hid (Two w wx ty ver t ⟨.int .i64 y0, .int .i64 y1, .string y2, .slice ya yn yc, .slice yd ym ye⟩ ⟨.int .i64 z0, .int .i64 z1, .string z2, .slice za zn zc, .slice zd zm ze⟩ w2.heap.size w3.heap.size (.slice av b.length cv) b))
     case first =>
      go_region_with (first
       | (go_at_call 14
          refine (uh HTT).mono ?_
          rintro e w4 ⟨rfl, hb4⟩
          have T4 := hH ((uh HTWO).drew.on hb4)
          obtain ⟨k0, k1, k2, k3, k4, k5, k6⟩ := (uh T4).y.cells
          simp only at k0 k1 k2 k3 k4 k5 k6
          clear hb4)
       | (go_at_call 10
          refine (uh HIOK w4 (uh T4)).mono ?_
          rintro e w5 ⟨rfl, hb5⟩
          have T5 := hH ((uh T4).on hb5)
          obtain ⟨k0, k1, k2, k3, k4, k5, k6⟩ := (uh T5).y.cells
          simp only at k0 k1 k2 k3 k4 k5 k6
          have hcQ := (uh T5).row.str
          clear hb5)
       | (go_at_call 8
          refine (uh HPK w5 (uh T5)).mono ?_
          rintro e w6 ⟨aB, nB, capB, rfl, rfl, hrB, hb6⟩
          have T6 := hH ((uh T5).on hb6)
          have hcB := hrB.str
          have hcR := (uh T6).row.str
          clear hb6 hrB))
      all_goals
       go_wp2_with fail
       go_meet
       case rel => exact ⟨rfl, T6⟩
     case rest =>
      obtain ⟨rfl, HTC⟩ := hcut
      clear k0 k1 k2 k3 k4 k5 k6 HTT HTWO
      clear HIOK HPK
      have HD := hH (uh HDR _ (uh HTC).y.below)
      have HB6 := hH (uh HTC).y.below
      clear HDR
      go_wp2_with fail
      refine (uh HD).mono ?_
      rintro e w7 ⟨s, rfl, hs7, hb7⟩
      have hB7 := (uh HB6).trans (hb7.mono (uh HB6).size)
      clear HTC
      obtain ⟨ty2, ver2, t2, ok2, hok2, hz2, hans2, hans3⟩ := er_one s
      have HSR := hH ((specEventRead_any w7 s (by omega)).mono fun e w' h => hans2 _ _ _ h)
      have HIR := hH (fun W (hW : Below w.heap.size w W) => (implEventRead_any W s (by omega) (uh HE W hW) (uh HT W hW)).mono fun e w' h => hans3 _ _ _ h)
      have HB7 := hH hB7
      clear HD HB6 hb7 hB7 hans2 hans3
      cases ok2 with
      | true =>
        have hU := hok2 rfl
        have hokE : evOkB ty2 ver2 t2 = true := hU.1
        have hwe : evW ty2 ver2 t2 = s := by have h1 := (evW_size hokE).2; have h2 := hU.2; rw [h2] at h1; exact ByteArray.ext (Array.ext' h1)
        obtain ⟨q1, q2, q3, -, -⟩ := evOk_open hokE
        have htz : ty2.size ≤ 9223372036854775807 := by have := (nmty_size q1).1; omega
        have hver : I64 ver2 := ⟨by omega, by omega⟩
        have HQ := hH (And.intro hokE hwe); have HVER := hH hver; have HTZ := hH htz
        clear hU hokE hwe q1 q2 q3 hver htz
        clear hok2 hz2
        go_wp2_with fail
        refine (uh HSR).mono ?_
        rintro e w8 ⟨f0, f1, f2, fa, fn, fc, fd, fm, fe, rfl, HRX, HBX⟩
        have hxs := EvBx.start (ty := ty2) (ver := ver2) ((uh HB7).trans (HBX.out.mono (uh HB7).size)) HRX.out
        have HC := hH (uh HIR _ hxs.below)
        have HX8 := hH hxs
        clear hxs HRX HBX HSR HIR HB7
        go_wp2_with fail
        refine (uh HC).mono ?_
        rintro e w9 ⟨g0, g1, g2, ga, gn, gc, gd, gm, ge, rfl, HRY, HBY⟩
        have X9 := hH ((uh HX8).on HBY.out)
        have hba := (Below.refl w9.heap.size w9).alloc (Nat.le_refl _) (.cells #[.string ty2, .int .i64 ver2, .int .i64 g0, .int .i64 g1, .string g2, .slice ga gn gc, .slice gd gm ge] 28)
        have hy9 := EvBx.start (ty := ty2) (ver := ver2) (uh X9).below HRY.out
        have hx9 := (uh X9).on hba
        obtain ⟨k0, k1, k2, k3, k4, k5, k6⟩ := (uh X9).cells
        simp only at k0 k1 k2 k3 k4 k5 k6
        have hlx9 := (uh X9).box.lt
        have HTT := hH (ttEvent_any ty2 ver2 t2 _ _ _ _ _ (fun x hx => Nat.lt_trans hx hy9.box.lt) (fun x hx => Nat.lt_trans hx hx9.box.lt) hy9.rep hx9.rep)
        have Y9 := hH hy9
        clear hy9 hx9 hba HRY HBY X9 HX8 HC
        go_wp2_with fail
        refine (uh HTT).mono ?_
        rintro e w10 ⟨rfl, hb10⟩
        have Y10 := hH ((uh Y9).on hb10)
        clear hb10 HTT Y9 k0 k1 k2 k3 k4 k5 k6
        obtain ⟨k0, k1, k2, k3, k4, k5, k6⟩ := (uh Y10).cells
        simp only at k0 k1 k2 k3 k4 k5 k6
        have hiok := implEventOk_any ty2 ver2 t2 _ _ w10 (fun x hx => Nat.lt_trans hx (uh Y10).box.lt) (uh Y10).rep (uh HTZ) (uh HVER) (uh HT w10 (uh Y10).below)
        rw [(uh HQ).1] at hiok
        have HIOK := hH hiok
        clear hiok
        go_wp2_with fail
        refine (uh HIOK).mono ?_
        rintro e w11 ⟨rfl, hb11⟩
        have Y11 := hH ((uh Y10).on hb11)
        clear hb11 Y10 HIOK k0 k1 k2 k3 k4 k5 k6
        obtain ⟨k0, k1, k2, k3, k4, k5, k6⟩ := (uh Y11).cells
        simp only at k0 k1 k2 k3 k4 k5 k6
        have hwr := implEventWrite_any ty2 ver2 t2 _ _ w11 (fun x hx => Nat.lt_trans hx (uh Y11).box.lt) (uh Y11).rep (uh HTZ) (uh HVER) (uh HT w11 (uh Y11).below) (uh HE w11 (uh Y11).below)
        rw [(uh HQ).2] at hwr
        have HWR := hH hwr
        clear hwr HQ HVER HTZ
        go_wp2_with fail
        refine (uh HWR).mono ?_
        rintro e w12 ⟨rfl, hb12⟩
        have HB12 := hH ((uh Y11).on hb12).below
        clear hb12 Y11 HWR k0 k1 k2 k3 k4 k5 k6
        go_wp2_with fail
        go_ret
        exact ⟨rfl, uh HB12⟩
      | false =>
        obtain rfl := hz2 rfl
        clear hok2 hz2
        go_wp2_with fail
        refine (uh HSR).mono ?_
        rintro e w8 ⟨f0, f1, f2, fa, fn, fc, fd, fm, fe, rfl, HRX, HBX⟩
        have hxs := EvBx.start (ty := ty2) (ver := 0) ((uh HB7).trans (HBX.out.mono (uh HB7).size)) HRX.out
        have HC := hH (uh HIR _ hxs.below)
        have HX8 := hH hxs
        clear hxs HRX HBX HSR HIR HB7
        go_wp2_with fail
        refine (uh HC).mono ?_
        rintro e w9 ⟨g0, g1, g2, ga, gn, gc, gd, gm, ge, rfl, HRY, HBY⟩
        have X9 := hH ((uh HX8).on HBY.out)
        have hba := (Below.refl w9.heap.size w9).alloc (Nat.le_refl _) (.cells #[.string ty2, .int .i64 0, .int .i64 g0, .int .i64 g1, .string g2, .slice ga gn gc, .slice gd gm ge] 28)
        have hy9 := EvBx.start (ty := ty2) (ver := 0) (uh X9).below HRY.out
        have hx9 := (uh X9).on hba
        obtain ⟨k0, k1, k2, k3, k4, k5, k6⟩ := (uh X9).cells
        simp only at k0 k1 k2 k3 k4 k5 k6
        have hlx9 := (uh X9).box.lt
        have HTT := hH (ttEvent_any ty2 0 t2 _ _ _ _ _ (fun x hx => Nat.lt_trans hx hy9.box.lt) (fun x hx => Nat.lt_trans hx hx9.box.lt) hy9.rep hx9.rep)
        have Y9 := hH hy9
        clear hy9 hx9 hba HRY HBY X9 HX8 HC
        go_wp2_with fail
        refine (uh HTT).mono ?_
        rintro e w10 ⟨rfl, hb10⟩
        have Y10 := hH ((uh Y9).on hb10)
        clear hb10 HTT Y9 k0 k1 k2 k3 k4 k5 k6
        obtain ⟨k0, k1, k2, k3, k4, k5, k6⟩ := (uh Y10).cells
        simp only at k0 k1 k2 k3 k4 k5 k6
        go_wp2_with fail
        go_ret
        exact ⟨rfl, (uh Y10).below⟩
   | false =>
     clear hok
     go_wp2_with fail
     refine (uh HSU).mono ?_
     rintro e w2 ⟨y0, y1, y2, ya, yn, yc, yd, ym, ye, rfl, HRX, HBX⟩
     have hxs := EvBx.start (ty := ty) (ver := ver) ((uh HB1).trans (HBX.out.mono (uh HB1).size)) HRX.out
     have hba := HBX.out.alloc HBX.out.size (.cells #[.string ty, .int .i64 ver, .int .i64 y0, .int .i64 y1, .string y2, .slice ya yn yc, .slice yd ym ye] 28)
     have HC := hH (uh HIU _ hba)
     have HR2 := hH ((uh HR1).stay hba); have HX2 := hH hxs
     clear hxs hba HRX HBX HSU HIU HR1 HB1
     go_wp2_with fail
     refine (uh HC).mono ?_
     rintro e w3 ⟨z0, z1, z2, za, zn, zc, zd, zm, ze, rfl, HRY, HBY⟩
     have X3 := hH ((uh HX2).on HBY.out)
     have hba := (Below.refl w3.heap.size w3).alloc (Nat.le_refl _) (.cells #[.string ty, .int .i64 ver, .int .i64 z0, .int .i64 z1, .string z2, .slice za zn zc, .slice zd zm ze] 28)
     have hy3 := EvBx.start (ty := ty) (ver := ver) (uh X3).below HRY.out
     have two : Two _ _ ty ver t _ _ _ _ _ b := ⟨(uh X3).on hba, hy3, ((uh HR2).stay HBY.out).stay hba⟩
     obtain ⟨k0, k1, k2, k3, k4, k5, k6⟩ := (uh X3).cells
     simp only at k0 k1 k2 k3 k4 k5 k6
     have hlx := (uh X3).box.lt
     have HTWO := hH two
     have HTT := hH (ttEvent_any ty ver t _ _ _ _ _ (fun x hx => Nat.lt_trans hx two.drew.y.box.lt) (fun x hx => Nat.lt_trans hx two.drew.x.box.lt) two.drew.y.rep two.drew.x.rep)
     clear hy3 two hba HRY HBY X3 HX2 HR2 HC
     go_upto_region 6 with fail
     go_cut [52] from 28 (fun s wx => s = .bool false ∧ Hid (Two w wx ty ver t ⟨.int .i64 y0, .int .i64 y1, .string y2, .slice ya yn yc, .slice yd ym ye⟩ ⟨.int .i64 z0, .int .i64 z1, .string z2, .slice za zn zc, .slice zd zm ze⟩ w2.heap.size w3.heap.size (.slice av b.length cv) b))
     case first =>
      refine wp_region_any (by kernel_rfl) ?_
      change wpAny _ _ _ _ _ _ _ (World.drew _)
      refine wpAny_take (i := 0) (v := .bool false) rfl (by kernel_rfl) (by kernel_rfl) (by kernel_rfl) (fun _ _ _ h => h) (Or.inl ⟨by kernel_rfl, fun w => by go_simp⟩) ?_
      refine wpAny_take (i := 1) (v := .bool false) rfl (by kernel_rfl) (by kernel_rfl) (by kernel_rfl) (fun _ _ _ h => h) (Or.inl ⟨by kernel_rfl, fun w => by go_simp⟩) ?_
      refine wpAny_take (i := 2) (v := .bool false) rfl (by kernel_rfl) (by kernel_rfl) (by kernel_rfl) (fun _ _ _ h => h) (Or.inl ⟨by kernel_rfl, fun w => by go_simp⟩) ?_
      refine wpAny_take (i := 3) (v := .bool false) rfl (by kernel_rfl) (by kernel_rfl) (by kernel_rfl) (fun _ _ _ h => h) (Or.inl ⟨by kernel_rfl, fun w => by go_simp⟩) ?_
      obtain ⟨p0, p1, p2, p3, p4, p5, p6⟩ := (uh HTWO).drew.x.cells
      obtain ⟨r0, r1, r2, r3, r4, r5, r6⟩ := (uh HTWO).drew.y.cells
      simp only at p0 p1 p2 p3 p4 p5 p6 r0 r1 r2 r3 r4 r5 r6
      refine wpAny_ready (rs := [4, 5]) (by kernel_rfl) (by simp) ?_
      refine AllReady.cons rfl (fun K hK => ?_) (AllReady.cons rfl (fun K hK => ?_) AllReady.nil)
      · go_simp
        refine hK _ _ ?_; clear hK K
        refine wpAny_ready (rs := [5]) (by kernel_rfl) (by simp) ?_
        refine AllReady.cons rfl (fun K hK => ?_) AllReady.nil
        go_simp
        refine hK _ _ ?_; clear hK K
        refine wpAny_ready (rs := [6]) (by kernel_rfl) (by simp) ?_
        refine AllReady.cons rfl (fun K hK => ?_) AllReady.nil
        go_simp
        refine (uh HTT).mono ?_
        rintro e w4 ⟨rfl, hb4⟩
        have T4 := hH ((uh HTWO).drew.on hb4)
        clear hb4
        refine hK _ _ ?_; clear hK K
        refine wpAny_take (i := 7) (v := .bool false) rfl (by kernel_rfl) (by kernel_rfl) (by kernel_rfl) (fun _ _ _ h => h) (Or.inl ⟨by kernel_rfl, fun w => by go_simp⟩) ?_
        refine wpAny_take (i := 8) (v := .bool false) rfl (by kernel_rfl) (by kernel_rfl) (by kernel_rfl) (fun _ _ _ h => h) (Or.inl ⟨by kernel_rfl, fun w => by go_simp⟩) ?_
        refine wpAny_take (i := 9) (v := .bool false) rfl (by kernel_rfl) (by kernel_rfl) (by kernel_rfl) (fun _ _ _ h => h) (Or.inl ⟨by kernel_rfl, fun w => by go_simp⟩) ?_
        refine wpAny_take (i := 10) (v := .bool false) rfl (by kernel_rfl) (by kernel_rfl) (by kernel_rfl) (fun _ _ _ h => h) (Or.inl ⟨by kernel_rfl, fun w => by go_simp⟩) ?_
        refine wpAny_take (i := 11) (v := .bool false) rfl (by kernel_rfl) (by kernel_rfl) (by kernel_rfl) (fun _ _ _ h => h) (Or.inl ⟨by kernel_rfl, fun w => by go_simp⟩) ?_
        refine wpAny_take (i := 12) (v := undef) rfl (by kernel_rfl) (by kernel_rfl) (by kernel_rfl) (fun _ _ _ h => h) (Or.inr ⟨by kernel_rfl, rfl⟩) ?_
        refine wpAny_take (i := 13) (v := undef) rfl (by kernel_rfl) (by kernel_rfl) (by kernel_rfl) (fun _ _ _ h => h) (Or.inr ⟨by kernel_rfl, rfl⟩) ?_
        refine wpAny_take (i := 14) (v := undef) rfl (by kernel_rfl) (by kernel_rfl) (by kernel_rfl) (fun _ _ _ h => h) (Or.inr ⟨by kernel_rfl, rfl⟩) ?_
        refine wpAny_take (i := 15) (v := undef) rfl (by kernel_rfl) (by kernel_rfl) (by kernel_rfl) (fun _ _ _ h => h) (Or.inr ⟨by kernel_rfl, rfl⟩) ?_
        refine wpAny_take (i := 16) (v := undef) rfl (by kernel_rfl) (by kernel_rfl) (by kernel_rfl) (fun _ _ _ h => h) (Or.inr ⟨by kernel_rfl, rfl⟩) ?_
        refine wpAny_take (i := 17) (v := undef) rfl (by kernel_rfl) (by kernel_rfl) (by kernel_rfl) (fun _ _ _ h => h) (Or.inr ⟨by kernel_rfl, rfl⟩) ?_
        refine wpAny_take (i := 18) (v := undef) rfl (by kernel_rfl) (by kernel_rfl) (by kernel_rfl) (fun _ _ _ h => h) (Or.inr ⟨by kernel_rfl, rfl⟩) ?_
        refine wpAny_take (i := 19) (v := undef) rfl (by kernel_rfl) (by kernel_rfl) (by kernel_rfl) (fun _ _ _ h => h) (Or.inr ⟨by kernel_rfl, rfl⟩) ?_
        refine wpAny_take (i := 20) (v := undef) rfl (by kernel_rfl) (by kernel_rfl) (by kernel_rfl) (fun _ _ _ h => h) (Or.inr ⟨by kernel_rfl, rfl⟩) ?_
        refine wpAny_take (i := 21) (v := undef) rfl (by kernel_rfl) (by kernel_rfl) (by kernel_rfl) (fun _ _ _ h => h) (Or.inr ⟨by kernel_rfl, rfl⟩) ?_
        refine wpAny_take (i := 22) (v := undef) rfl (by kernel_rfl) (by kernel_rfl) (by kernel_rfl) (fun _ _ _ h => h) (Or.inr ⟨by kernel_rfl, rfl⟩) ?_
        refine wpAny_take (i := 23) (v := .bool false) rfl (by kernel_rfl) (by kernel_rfl) (by kernel_rfl) (fun _ _ _ h => h) (Or.inl ⟨by kernel_rfl, fun w => by go_simp⟩) ?_
        refine wpAny_take (i := 24) (v := .bool false) rfl (by kernel_rfl) (by kernel_rfl) (by kernel_rfl) (fun _ _ _ h => h) (Or.inl ⟨by kernel_rfl, fun w => by go_simp⟩) ?_
        refine wpAny_done (by kernel_rfl) ?_ _
        clear HTT HTWO p0 p1 p2 p3 p4 p5 p6 r0 r1 r2 r3 r4 r5 r6 k0 k1 k2 k3 k4 k5 k6
        go_simp
        go_wp2_with fail
        go_meet
        case rel => exact ⟨rfl, T4⟩
      · go_simp
        refine hK _ _ ?_; clear hK K
        refine wpAny_ready (rs := [4]) (by kernel_rfl) (by simp) ?_
        refine AllReady.cons rfl (fun K hK => ?_) AllReady.nil
        go_simp
        refine hK _ _ ?_; clear hK K
        refine wpAny_ready (rs := [6]) (by kernel_rfl) (by simp) ?_
        refine AllReady.cons rfl (fun K hK => ?_) AllReady.nil
        go_simp
        refine (uh HTT).mono ?_
        rintro e w4 ⟨rfl, hb4⟩
        have T4 := hH ((uh HTWO).drew.on hb4)
        clear hb4
        refine hK _ _ ?_; clear hK K
        refine wpAny_take (i := 7) (v := .bool false) rfl (by kernel_rfl) (by kernel_rfl) (by kernel_rfl) (fun _ _ _ h => h) (Or.inl ⟨by kernel_rfl, fun w => by go_simp⟩) ?_
        refine wpAny_take (i := 8) (v := .bool false) rfl (by kernel_rfl) (by kernel_rfl) (by kernel_rfl) (fun _ _ _ h => h) (Or.inl ⟨by kernel_rfl, fun w => by go_simp⟩) ?_
        refine wpAny_take (i := 9) (v := .bool false) rfl (by kernel_rfl) (by kernel_rfl) (by kernel_rfl) (fun _ _ _ h => h) (Or.inl ⟨by kernel_rfl, fun w => by go_simp⟩) ?_
        refine wpAny_take (i := 10) (v := .bool false) rfl (by kernel_rfl) (by kernel_rfl) (by kernel_rfl) (fun _ _ _ h => h) (Or.inl ⟨by kernel_rfl, fun w => by go_simp⟩) ?_
        refine wpAny_take (i := 11) (v := .bool false) rfl (by kernel_rfl) (by kernel_rfl) (by kernel_rfl) (fun _ _ _ h => h) (Or.inl ⟨by kernel_rfl, fun w => by go_simp⟩) ?_
        refine wpAny_take (i := 12) (v := undef) rfl (by kernel_rfl) (by kernel_rfl) (by kernel_rfl) (fun _ _ _ h => h) (Or.inr ⟨by kernel_rfl, rfl⟩) ?_
        refine wpAny_take (i := 13) (v := undef) rfl (by kernel_rfl) (by kernel_rfl) (by kernel_rfl) (fun _ _ _ h => h) (Or.inr ⟨by kernel_rfl, rfl⟩) ?_
        refine wpAny_take (i := 14) (v := undef) rfl (by kernel_rfl) (by kernel_rfl) (by kernel_rfl) (fun _ _ _ h => h) (Or.inr ⟨by kernel_rfl, rfl⟩) ?_
        refine wpAny_take (i := 15) (v := undef) rfl (by kernel_rfl) (by kernel_rfl) (by kernel_rfl) (fun _ _ _ h => h) (Or.inr ⟨by kernel_rfl, rfl⟩) ?_
        refine wpAny_take (i := 16) (v := undef) rfl (by kernel_rfl) (by kernel_rfl) (by kernel_rfl) (fun _ _ _ h => h) (Or.inr ⟨by kernel_rfl, rfl⟩) ?_
        refine wpAny_take (i := 17) (v := undef) rfl (by kernel_rfl) (by kernel_rfl) (by kernel_rfl) (fun _ _ _ h => h) (Or.inr ⟨by kernel_rfl, rfl⟩) ?_
        refine wpAny_take (i := 18) (v := undef) rfl (by kernel_rfl) (by kernel_rfl) (by kernel_rfl) (fun _ _ _ h => h) (Or.inr ⟨by kernel_rfl, rfl⟩) ?_
        refine wpAny_take (i := 19) (v := undef) rfl (by kernel_rfl) (by kernel_rfl) (by kernel_rfl) (fun _ _ _ h => h) (Or.inr ⟨by kernel_rfl, rfl⟩) ?_
        refine wpAny_take (i := 20) (v := undef) rfl (by kernel_rfl) (by kernel_rfl) (by kernel_rfl) (fun _ _ _ h => h) (Or.inr ⟨by kernel_rfl, rfl⟩) ?_
        refine wpAny_take (i := 21) (v := undef) rfl (by kernel_rfl) (by kernel_rfl) (by kernel_rfl) (fun _ _ _ h => h) (Or.inr ⟨by kernel_rfl, rfl⟩) ?_
        refine wpAny_take (i := 22) (v := undef) rfl (by kernel_rfl) (by kernel_rfl) (by kernel_rfl) (fun _ _ _ h => h) (Or.inr ⟨by kernel_rfl, rfl⟩) ?_
        refine wpAny_take (i := 23) (v := .bool false) rfl (by kernel_rfl) (by kernel_rfl) (by kernel_rfl) (fun _ _ _ h => h) (Or.inl ⟨by kernel_rfl, fun w => by go_simp⟩) ?_
        refine wpAny_take (i := 24) (v := .bool false) rfl (by kernel_rfl) (by kernel_rfl) (by kernel_rfl) (fun _ _ _ h => h) (Or.inl ⟨by kernel_rfl, fun w => by go_simp⟩) ?_
        refine wpAny_done (by kernel_rfl) ?_ _
        clear HTT HTWO p0 p1 p2 p3 p4 p5 p6 r0 r1 r2 r3 r4 r5 r6 k0 k1 k2 k3 k4 k5 k6
        go_simp
        go_wp2_with fail
        go_meet
        case rel => exact ⟨rfl, T4⟩
     case rest =>
      obtain ⟨rfl, HTC⟩ := hcut
      clear k0 k1 k2 k3 k4 k5 k6 HTT HTWO
      have HD := hH (uh HDR _ (uh HTC).y.below)
      have HB6 := hH (uh HTC).y.below
      clear HDR
      go_wp2_with fail
      refine (uh HD).mono ?_
      rintro e w7 ⟨s, rfl, hs7, hb7⟩
      have hB7 := (uh HB6).trans (hb7.mono (uh HB6).size)
      clear HTC
      obtain ⟨ty2, ver2, t2, ok2, hok2, hz2, hans2, hans3⟩ := er_one s
      have HSR := hH ((specEventRead_any w7 s (by omega)).mono fun e w' h => hans2 _ _ _ h)
      have HIR := hH (fun W (hW : Below w.heap.size w W) => (implEventRead_any W s (by omega) (uh HE W hW) (uh HT W hW)).mono fun e w' h => hans3 _ _ _ h)
      have HB7 := hH hB7
      clear HD HB6 hb7 hB7 hans2 hans3
      cases ok2 with
      | true =>
        have hU := hok2 rfl
        have hokE : evOkB ty2 ver2 t2 = true := hU.1
        have hwe : evW ty2 ver2 t2 = s := by have h1 := (evW_size hokE).2; have h2 := hU.2; rw [h2] at h1; exact ByteArray.ext (Array.ext' h1)
        obtain ⟨q1, q2, q3, -, -⟩ := evOk_open hokE
        have htz : ty2.size ≤ 9223372036854775807 := by have := (nmty_size q1).1; omega
        have hver : I64 ver2 := ⟨by omega, by omega⟩
        have HQ := hH (And.intro hokE hwe); have HVER := hH hver; have HTZ := hH htz
        clear hU hokE hwe q1 q2 q3 hver htz
        clear hok2 hz2
        go_wp2_with fail
        refine (uh HSR).mono ?_
        rintro e w8 ⟨f0, f1, f2, fa, fn, fc, fd, fm, fe, rfl, HRX, HBX⟩
        have hxs := EvBx.start (ty := ty2) (ver := ver2) ((uh HB7).trans (HBX.out.mono (uh HB7).size)) HRX.out
        have HC := hH (uh HIR _ hxs.below)
        have HX8 := hH hxs
        clear hxs HRX HBX HSR HIR HB7
        go_wp2_with fail
        refine (uh HC).mono ?_
        rintro e w9 ⟨g0, g1, g2, ga, gn, gc, gd, gm, ge, rfl, HRY, HBY⟩
        have X9 := hH ((uh HX8).on HBY.out)
        have hba := (Below.refl w9.heap.size w9).alloc (Nat.le_refl _) (.cells #[.string ty2, .int .i64 ver2, .int .i64 g0, .int .i64 g1, .string g2, .slice ga gn gc, .slice gd gm ge] 28)
        have hy9 := EvBx.start (ty := ty2) (ver := ver2) (uh X9).below HRY.out
        have hx9 := (uh X9).on hba
        obtain ⟨k0, k1, k2, k3, k4, k5, k6⟩ := (uh X9).cells
        simp only at k0 k1 k2 k3 k4 k5 k6
        have hlx9 := (uh X9).box.lt
        have HTT := hH (ttEvent_any ty2 ver2 t2 _ _ _ _ _ (fun x hx => Nat.lt_trans hx hy9.box.lt) (fun x hx => Nat.lt_trans hx hx9.box.lt) hy9.rep hx9.rep)
        have Y9 := hH hy9
        clear hy9 hx9 hba HRY HBY X9 HX8 HC
        go_wp2_with fail
        refine (uh HTT).mono ?_
        rintro e w10 ⟨rfl, hb10⟩
        have Y10 := hH ((uh Y9).on hb10)
        clear hb10 HTT Y9 k0 k1 k2 k3 k4 k5 k6
        obtain ⟨k0, k1, k2, k3, k4, k5, k6⟩ := (uh Y10).cells
        simp only at k0 k1 k2 k3 k4 k5 k6
        have hiok := implEventOk_any ty2 ver2 t2 _ _ w10 (fun x hx => Nat.lt_trans hx (uh Y10).box.lt) (uh Y10).rep (uh HTZ) (uh HVER) (uh HT w10 (uh Y10).below)
        rw [(uh HQ).1] at hiok
        have HIOK := hH hiok
        clear hiok
        go_wp2_with fail
        refine (uh HIOK).mono ?_
        rintro e w11 ⟨rfl, hb11⟩
        have Y11 := hH ((uh Y10).on hb11)
        clear hb11 Y10 HIOK k0 k1 k2 k3 k4 k5 k6
        obtain ⟨k0, k1, k2, k3, k4, k5, k6⟩ := (uh Y11).cells
        simp only at k0 k1 k2 k3 k4 k5 k6
        have hwr := implEventWrite_any ty2 ver2 t2 _ _ w11 (fun x hx => Nat.lt_trans hx (uh Y11).box.lt) (uh Y11).rep (uh HTZ) (uh HVER) (uh HT w11 (uh Y11).below) (uh HE w11 (uh Y11).below)
        rw [(uh HQ).2] at hwr
        have HWR := hH hwr
        clear hwr HQ HVER HTZ
        go_wp2_with fail
        refine (uh HWR).mono ?_
        rintro e w12 ⟨rfl, hb12⟩
        have HB12 := hH ((uh Y11).on hb12).below
        clear hb12 Y11 HWR k0 k1 k2 k3 k4 k5 k6
        go_wp2_with fail
        go_ret
        exact ⟨rfl, uh HB12⟩
      | false =>
        obtain rfl := hz2 rfl
        clear hok2 hz2
        go_wp2_with fail
        refine (uh HSR).mono ?_
        rintro e w8 ⟨f0, f1, f2, fa, fn, fc, fd, fm, fe, rfl, HRX, HBX⟩
        have hxs := EvBx.start (ty := ty2) (ver := 0) ((uh HB7).trans (HBX.out.mono (uh HB7).size)) HRX.out
        have HC := hH (uh HIR _ hxs.below)
        have HX8 := hH hxs
        clear hxs HRX HBX HSR HIR HB7
        go_wp2_with fail
        refine (uh HC).mono ?_
        rintro e w9 ⟨g0, g1, g2, ga, gn, gc, gd, gm, ge, rfl, HRY, HBY⟩
        have X9 := hH ((uh HX8).on HBY.out)
        have hba := (Below.refl w9.heap.size w9).alloc (Nat.le_refl _) (.cells #[.string ty2, .int .i64 0, .int .i64 g0, .int .i64 g1, .string g2, .slice ga gn gc, .slice gd gm ge] 28)
        have hy9 := EvBx.start (ty := ty2) (ver := 0) (uh X9).below HRY.out
        have hx9 := (uh X9).on hba
        obtain ⟨k0, k1, k2, k3, k4, k5, k6⟩ := (uh X9).cells
        simp only at k0 k1 k2 k3 k4 k5 k6
        have hlx9 := (uh X9).box.lt
        have HTT := hH (ttEvent_any ty2 0 t2 _ _ _ _ _ (fun x hx => Nat.lt_trans hx hy9.box.lt) (fun x hx => Nat.lt_trans hx hx9.box.lt) hy9.rep hx9.rep)
        have Y9 := hH hy9
        clear hy9 hx9 hba HRY HBY X9 HX8 HC
        go_wp2_with fail
        refine (uh HTT).mono ?_
        rintro e w10 ⟨rfl, hb10⟩
        have Y10 := hH ((uh Y9).on hb10)
        clear hb10 HTT Y9 k0 k1 k2 k3 k4 k5 k6
        obtain ⟨k0, k1, k2, k3, k4, k5, k6⟩ := (uh Y10).cells
        simp only at k0 k1 k2 k3 k4 k5 k6
        go_wp2_with fail
        go_ret
        exact ⟨rfl, (uh Y10).below⟩
 · have hd : decide ((1048576 : Int) < (l.length : Int)) = true := by simp; omega
   go_enter Tryz.func4, Tryz.ntmps4
   go_wp2_with fail
   go_ret
   exact ⟨rfl, Below.refl _ _⟩
end Go.Proofs.YtbkagahmiibclaaGreatDoor

namespace Go.Proofs.YtbkagahmiibclaaGreatDoor
open Go Go.RowKit Go.ChangeShapes Go.WideShapes Go.ChangeAt
theorem cellsU8 : Tryz.prog.cellsOf 5 = 1 := by kernel_rfl
section
variable {H : Type} {enc : TypeId × Value → H} {W : World} {spare : Nat → Bool} {held : Bool}
theorem bytes_cap {fuel : Nat} {a : Option Addr} {len cap : Nat} {x : DataW H × List MemPlace} (h : DataW.trod enc Tryz.prog W 0 spare held fuel 22 [.slice a len cap] = some x) : len ≤ cap := by
 rcases open_ints Tryz.underlying22 Tryz.underlying5 cellsU8 h with ⟨hcs, -⟩ | ⟨a', len', cap', zs, hcs, -, hl, -⟩
 · simp only [List.cons.injEq, Value.slice.injEq, and_true] at hcs
   omega
 · simp only [List.cons.injEq, Value.slice.injEq, and_true] at hcs
   omega
theorem bytes_of_trod {fuel : Nat} {v : Value} {x : DataW H × List MemPlace} (h : DataW.trod enc Tryz.prog W 0 spare held fuel 22 [v] = some x) :
 ∃ l, BytesAt W v l := by
 rcases open_ints Tryz.underlying22 Tryz.underlying5 cellsU8 h with ⟨hcs, -⟩ | ⟨a, len, cap, zs, hcs, -, hl, hm, hz, -, hcell, hws⟩
 · simp only [List.cons.injEq, and_true] at hcs
   exact ⟨[], none, 0, hcs, by simp, fun i hi => by simp at hi⟩
 · simp only [List.cons.injEq, and_true] at hcs
   have hle : len ≤ zs.length := by rw [hz]; split <;> omega
   unfold maxLen at hm
   have hlen : ((zs.take len).map (fun z => UInt8.ofNat z.toNat)).length = len := by simp; omega
   refine ⟨(zs.take len).map (fun z => UInt8.ofNat z.toNat), some a, cap, by rw [hcs, hlen], by rw [hlen]; omega, fun i hi => ?_⟩
   have hi' : i < len := by rw [hlen] at hi; exact hi
   obtain ⟨b, off, spot⟩ := a
   have hspot : spot = none := by simpa [Addr.add] using World.cell?_spot (hcell 0 (by omega))
   subst hspot
   have hc := hcell i (by omega)
   rw [Addr.add_lit] at hc
   refine ⟨b, off, rfl, World.block_lt_of_cell? W _ hc, ?_⟩
   have hb := bounds_u8 (hws (zs[i]'(by omega)) (List.getElem_mem (by omega)))
   rw [hc]
   have e1 : zs.getD i 0 = zs[i]'(by omega) := by simp [show i < zs.length by omega]
   have e2 : (((zs.take len).map (fun z => UInt8.ofNat z.toNat))[i]'hi) = UInt8.ofNat (zs[i]'(by omega)).toNat := by simp
   rw [e1, e2, show (UInt8.ofNat (zs[i]'(by omega)).toNat).toNat = (zs[i]'(by omega)).toNat from by simp; omega, show (((zs[i]'(by omega)).toNat : Nat) : Int) = zs[i]'(by omega) from by omega]
end
end Go.Proofs.YtbkagahmiibclaaGreatDoor

namespace Go.Proofs.YtbkagahmiibclaaGreatDoor
open Go Go.RowKit
theorem gPowType : (Tryz.prog.globals[0]?).map (·.type) = some 166 := by kernel_rfl
theorem gSyn : Tryz.prog.globalNamed "strconv.ErrSyntax" = some 2 := by kernel_rfl
theorem gSynType : (Tryz.prog.globals[2]?).map (·.type) = some 129 := by kernel_rfl
theorem gRng : Tryz.prog.globalNamed "strconv.ErrRange" = some 3 := by kernel_rfl
theorem gRngType : (Tryz.prog.globals[3]?).map (·.type) = some 129 := by kernel_rfl
theorem cellsU64 : Tryz.prog.cellsOf 148 = 1 := by kernel_rfl
theorem cellsPow : Tryz.prog.cellsOf 166 = 20 := by kernel_rfl
theorem powData : (Rows.laid_internal_strconv_uint64pow10 : DataW Unit) = Lib.tabData .u64 Lib.pow10Tab := by rfl
theorem env_of_laid {W : World} (h : laidMetH Tryz.prog [("math/bits.deBruijn32tab", Rows.laid_math_bits_deBruijn32tab), ("math/bits.deBruijn64tab", Rows.laid_math_bits_deBruijn64tab), ("internal/strconv.uint64pow10", Rows.laid_internal_strconv_uint64pow10), ("strconv.ErrRange", Rows.laid_strconv_ErrRange), ("strconv.ErrSyntax", Rows.laid_strconv_ErrSyntax)] W) : Env W := by
 rw [MakeChecks.laidMetH_plain _ _ _ (by kernel_rfl)] at h
 obtain ⟨ps, ⟨g0, t0, cs0, f0, p0, q0, -, -, -, -, ⟨g1, t1, cs1, f1, p1, q1, -, -, -, -, ⟨g2, t2, cs2, f2, p2, q2, hg2, ht2, hv2, hd2, ⟨g3, t3, cs3, f3, p3, q3, hg3, ht3, hv3, hd3, ⟨g4, t4, cs4, f4, p4, q4, hg4, ht4, hv4, hd4, _, _⟩, _⟩, _⟩, _⟩, _⟩, _, _⟩ := h
 obtain rfl := Option.some.inj (gPow.symm.trans hg2)
 obtain rfl := Option.some.inj (gPowType.symm.trans ht2)
 obtain rfl := Option.some.inj (gRng.symm.trans hg3)
 obtain rfl := Option.some.inj (gRngType.symm.trans ht3)
 obtain rfl := Option.some.inj (gSyn.symm.trans hg4)
 obtain rfl := Option.some.inj (gSynType.symm.trans ht4)
 refine ⟨?_, ?_, ?_⟩
 · rw [powData] at hd2
   unfold Lib.TabIs
   rw [hv2, ← Lib.cells_of_tab Tryz.underlying166 Tryz.underlying148 cellsU64 cellsPow hd2]
 · obtain ⟨f', u, v, hc, -, -⟩ := iface_of_trod Tryz.underlying129 hd4
   refine ⟨.iface u v, ?_, Or.inr ⟨u, v, rfl⟩⟩
   have h0 := World.var?_cell hg4 hv4 0
   rw [h0]
   obtain ⟨l⟩ := cs4
   simp only at hc
   subst hc
   rfl
 · obtain ⟨f', u, v, hc, -, -⟩ := iface_of_trod Tryz.underlying129 hd3
   refine ⟨.iface u v, ?_, Or.inr ⟨u, v, rfl⟩⟩
   have h0 := World.var?_cell hg3 hv3 0
   rw [h0]
   obtain ⟨l⟩ := cs3
   simp only at hc
   subst hc
   rfl
end Go.Proofs.YtbkagahmiibclaaGreatDoor

namespace Go.Proofs.YtbkagahmiibclaaGreatDoor
open Go Go.RowKit Go.ChangeShapes Go.WideShapes Go.ChangeAt Go.Deep
theorem gTab : Tryz.prog.globalNamed "loop.example/teagle/impl.treeFields" = some 1 := by kernel_rfl
theorem gTabType : (Tryz.prog.globals[1]?).map (·.type) = some 174 := by kernel_rfl
theorem cellsHas : Tryz.prog.cellsOf 173 = 4 := by kernel_rfl
theorem cellsTab : Tryz.prog.cellsOf 174 = 28 := by kernel_rfl
theorem oneHas : ∃ fs : Array Field, Tryz.prog.underlying 173 = some (.struct fs) ∧ oneCellFields Tryz.prog fs = true ∧ fs.map (·.type) = #[4, 4, 4, 4] := ⟨_, Tryz.underlying173, by kernel_rfl, by kernel_rfl⟩
section
variable {H : Type} {enc : TypeId × Value → H} {W : World} {spare : Nat → Bool} {held : Bool}
theorem has_of_trod {fuel : Nat} {cs : List Value} {x : DataW H × List MemPlace} (h : DataW.trod enc Tryz.prog W 0 spare held fuel 173 cs = some x) :
 ∃ b0 b1 b2 b3 : Bool, cs = [.bool b0, .bool b1, .bool b2, .bool b3] ∧ x.1 = .agg [.lit (.bool b0), .lit (.bool b1), .lit (.bool b2), .lit (.bool b3)] := by
 obtain ⟨fs, hu, hone, hty⟩ := oneHas
 obtain ⟨xs, n, hn, hx, hlen, hxl, hf⟩ := DataW.trod_struct hu h
 rw [cellsHas] at hlen
 match cs, hlen with
 | [c0, c1, c2, c3], _ =>
   have hsz : fs.size = 4 := by have := congrArg Array.size hty; simpa using this
   have hfield : ∀ (i : Nat), (hi : i < 4) → DataW.trod enc Tryz.prog W 0 spare held n 4 (([c0, c1, c2, c3].drop i).take 1) = some (xs[i]'(by omega)) := by
    intro i hi
    have hfi : fs[i]? = some (fs[i]'(by omega)) := Array.getElem?_eq_getElem (by omega)
    obtain ⟨ho, hc⟩ := hone_of hone i _ hfi
    have := hf i _ hfi
    rw [ho, hc] at this
    have hTT : (fs[i]'(by omega)).type = 4 := by
     have e : (fs.map (·.type))[i]? = some ((fs[i]'(by omega)).type) := by simp [hsz, hi]
     rw [hty] at e
     rcases (show i = 0 ∨ i = 1 ∨ i = 2 ∨ i = 3 by omega) with rfl | rfl | rfl | rfl <;> simpa using e.symm
    rw [hTT] at this
    rw [this]; exact List.getElem?_eq_getElem (by omega)
   obtain ⟨b0, e0, f0⟩ := DataW.trod_bool Tryz.underlying4 (hfield 0 (by omega))
   obtain ⟨b1, e1, f1⟩ := DataW.trod_bool Tryz.underlying4 (hfield 1 (by omega))
   obtain ⟨b2, e2, f2⟩ := DataW.trod_bool Tryz.underlying4 (hfield 2 (by omega))
   obtain ⟨b3, e3, f3⟩ := DataW.trod_bool Tryz.underlying4 (hfield 3 (by omega))
   simp only [List.drop_succ_cons, List.drop_zero, List.take_succ_cons, List.take_zero, List.cons.injEq, and_true] at e0 e1 e2 e3
   refine ⟨b0, b1, b2, b3, by rw [e0, e1, e2, e3], ?_⟩
   obtain ⟨x0, x1, x2, x3, hxs⟩ : ∃ x0 x1 x2 x3, xs = [x0, x1, x2, x3] := by
    match xs, hxl.trans hsz with
    | [x0, x1, x2, x3], _ => exact ⟨x0, x1, x2, x3, rfl⟩
   subst hxs
   simp only [List.getElem_cons_zero, List.getElem_cons_succ] at f0 f1 f2 f3
   rw [hx, f0, f1, f2, f3]
   rfl
end
theorem tab_of_laid {W : World} (h : laidMetH Tryz.prog [("loop.example/teagle/impl.treeFields", Rows.laid_loop_example_teagle_impl_treeFields)] W) : Tab W := by
 rw [MakeChecks.laidMetH_plain _ _ _ (by kernel_rfl)] at h
 obtain ⟨ps, ⟨g0, t0, cs0, f0, p0, q0, hg0, ht0, hv0, hd0, _, _⟩, _, _⟩ := h
 obtain rfl := Option.some.inj (gTab.symm.trans hg0)
 obtain rfl := Option.some.inj (gTabType.symm.trans ht0)
 obtain ⟨xs, m, -, hx, hlen, hxl, hel⟩ := DataW.trod_array Tryz.underlying174 hd0
 rw [cellsHas] at hel
 rw [cellsTab] at hlen
 have hcell := World.var?_cell hg0 hv0
 have key : ∀ i, (hi : i < 7) → ∃ b0 b1 b2 b3 : Bool, (cs0.toList.drop (i * 4)).take 4 = [.bool b0, .bool b1, .bool b2, .bool b3] ∧ (xs[i]'(by omega)).1 = .agg [.lit (.bool b0), .lit (.bool b1), .lit (.bool b2), .lit (.bool b3)] := fun i hi => by
  have := hel i hi
  rw [List.getElem?_eq_getElem (by omega)] at this
  exact has_of_trod this
 obtain ⟨x0, x1, x2, x3, x4, x5, x6, hxs⟩ : ∃ x0 x1 x2 x3 x4 x5 x6, xs = [x0, x1, x2, x3, x4, x5, x6] := by
  match xs, hxl with
  | [x0, x1, x2, x3, x4, x5, x6], _ => exact ⟨x0, x1, x2, x3, x4, x5, x6, rfl⟩
 subst hxs
 simp only [Prod.mk.injEq, Rows.laid_loop_example_teagle_impl_treeFields, DataW.agg.injEq, List.map_cons, List.map_nil, List.cons.injEq, and_true] at hx
 obtain ⟨⟨g0, g1, g2, g3, g4, g5, g6⟩, -⟩ := hx
 obtain ⟨l⟩ := cs0
 simp only at hlen hcell key
 have cellk : ∀ i j, j < 4 → l[i * 4 + j]? = ((l.drop (i * 4)).take 4)[j]? := fun i j hj => by
  rw [List.getElem?_take_of_lt hj, List.getElem?_drop]
 obtain ⟨a0, a1, a2, a3, l0, d0⟩ := key 0 (by omega)
 simp only [List.getElem_cons_zero] at d0
 rw [d0] at g0
 simp only [DataW.agg.injEq, List.cons.injEq, DataW.lit.injEq, Lit.bool.injEq, and_true] at g0
 obtain ⟨rfl, rfl, rfl, rfl⟩ := g0
 obtain ⟨a0, a1, a2, a3, l1, d1⟩ := key 1 (by omega)
 simp only [List.getElem_cons_zero, List.getElem_cons_succ] at d1
 rw [d1] at g1
 simp only [DataW.agg.injEq, List.cons.injEq, DataW.lit.injEq, Lit.bool.injEq, and_true] at g1
 obtain ⟨rfl, rfl, rfl, rfl⟩ := g1
 obtain ⟨a0, a1, a2, a3, l2, d2⟩ := key 2 (by omega)
 simp only [List.getElem_cons_zero, List.getElem_cons_succ] at d2
 rw [d2] at g2
 simp only [DataW.agg.injEq, List.cons.injEq, DataW.lit.injEq, Lit.bool.injEq, and_true] at g2
 obtain ⟨rfl, rfl, rfl, rfl⟩ := g2
 obtain ⟨a0, a1, a2, a3, l3, d3⟩ := key 3 (by omega)
 simp only [List.getElem_cons_zero, List.getElem_cons_succ] at d3
 rw [d3] at g3
 simp only [DataW.agg.injEq, List.cons.injEq, DataW.lit.injEq, Lit.bool.injEq, and_true] at g3
 obtain ⟨rfl, rfl, rfl, rfl⟩ := g3
 obtain ⟨a0, a1, a2, a3, l4, d4⟩ := key 4 (by omega)
 simp only [List.getElem_cons_zero, List.getElem_cons_succ] at d4
 rw [d4] at g4
 simp only [DataW.agg.injEq, List.cons.injEq, DataW.lit.injEq, Lit.bool.injEq, and_true] at g4
 obtain ⟨rfl, rfl, rfl, rfl⟩ := g4
 obtain ⟨a0, a1, a2, a3, l5, d5⟩ := key 5 (by omega)
 simp only [List.getElem_cons_zero, List.getElem_cons_succ] at d5
 rw [d5] at g5
 simp only [DataW.agg.injEq, List.cons.injEq, DataW.lit.injEq, Lit.bool.injEq, and_true] at g5
 obtain ⟨rfl, rfl, rfl, rfl⟩ := g5
 obtain ⟨a0, a1, a2, a3, l6, d6⟩ := key 6 (by omega)
 simp only [List.getElem_cons_zero, List.getElem_cons_succ] at d6
 rw [d6] at g6
 simp only [DataW.agg.injEq, List.cons.injEq, DataW.lit.injEq, Lit.bool.injEq, and_true] at g6
 obtain ⟨rfl, rfl, rfl, rfl⟩ := g6
 have hc' : ∀ k, W.cell? ⟨1, k, none⟩ = l[k]? := fun k => (hcell k).trans (by simp)
 intro k hk
 rw [hc' k]
 have hcase : k = 0 ∨ k = 1 ∨ k = 2 ∨ k = 3 ∨ k = 4 ∨ k = 5 ∨ k = 6 ∨ k = 7 ∨ k = 8 ∨ k = 9 ∨ k = 10 ∨ k = 11 ∨ k = 12 ∨ k = 13 ∨ k = 14 ∨ k = 15 ∨ k = 16 ∨ k = 17 ∨ k = 18 ∨ k = 19 ∨ k = 20 ∨ k = 21 ∨ k = 22 ∨ k = 23 ∨ k = 24 ∨ k = 25 ∨ k = 26 ∨ k = 27 := by omega
 rcases hcase with rfl | rfl | rfl | rfl | rfl | rfl | rfl | rfl | rfl | rfl | rfl | rfl | rfl | rfl | rfl | rfl | rfl | rfl | rfl | rfl | rfl | rfl | rfl | rfl | rfl | rfl | rfl | rfl
 · exact (cellk 0 0 (by omega)).trans (congrArg (fun q => q[0]?) l0)
 · exact (cellk 0 1 (by omega)).trans (congrArg (fun q => q[1]?) l0)
 · exact (cellk 0 2 (by omega)).trans (congrArg (fun q => q[2]?) l0)
 · exact (cellk 0 3 (by omega)).trans (congrArg (fun q => q[3]?) l0)
 · exact (cellk 1 0 (by omega)).trans (congrArg (fun q => q[0]?) l1)
 · exact (cellk 1 1 (by omega)).trans (congrArg (fun q => q[1]?) l1)
 · exact (cellk 1 2 (by omega)).trans (congrArg (fun q => q[2]?) l1)
 · exact (cellk 1 3 (by omega)).trans (congrArg (fun q => q[3]?) l1)
 · exact (cellk 2 0 (by omega)).trans (congrArg (fun q => q[0]?) l2)
 · exact (cellk 2 1 (by omega)).trans (congrArg (fun q => q[1]?) l2)
 · exact (cellk 2 2 (by omega)).trans (congrArg (fun q => q[2]?) l2)
 · exact (cellk 2 3 (by omega)).trans (congrArg (fun q => q[3]?) l2)
 · exact (cellk 3 0 (by omega)).trans (congrArg (fun q => q[0]?) l3)
 · exact (cellk 3 1 (by omega)).trans (congrArg (fun q => q[1]?) l3)
 · exact (cellk 3 2 (by omega)).trans (congrArg (fun q => q[2]?) l3)
 · exact (cellk 3 3 (by omega)).trans (congrArg (fun q => q[3]?) l3)
 · exact (cellk 4 0 (by omega)).trans (congrArg (fun q => q[0]?) l4)
 · exact (cellk 4 1 (by omega)).trans (congrArg (fun q => q[1]?) l4)
 · exact (cellk 4 2 (by omega)).trans (congrArg (fun q => q[2]?) l4)
 · exact (cellk 4 3 (by omega)).trans (congrArg (fun q => q[3]?) l4)
 · exact (cellk 5 0 (by omega)).trans (congrArg (fun q => q[0]?) l5)
 · exact (cellk 5 1 (by omega)).trans (congrArg (fun q => q[1]?) l5)
 · exact (cellk 5 2 (by omega)).trans (congrArg (fun q => q[2]?) l5)
 · exact (cellk 5 3 (by omega)).trans (congrArg (fun q => q[3]?) l5)
 · exact (cellk 6 0 (by omega)).trans (congrArg (fun q => q[0]?) l6)
 · exact (cellk 6 1 (by omega)).trans (congrArg (fun q => q[1]?) l6)
 · exact (cellk 6 2 (by omega)).trans (congrArg (fun q => q[2]?) l6)
 · exact (cellk 6 3 (by omega)).trans (congrArg (fun q => q[3]?) l6)
end Go.Proofs.YtbkagahmiibclaaGreatDoor
