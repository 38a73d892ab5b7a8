/- The walks of the program's doWrite and doWrites with its deferred function: writes are done to a disk of its own, up to the first that is refused. Conditions: the disk is ok and lies in its box. -/
import Derived.Test.YtgdiankfnemjjaaGreatPart32
import Derived.WideLaws
namespace Go.Proofs.YtgdiankfnemjjaaGreat
open Go Go.RowKit Go.WideMaps Go.Maps

theorem MxSt.at2 {base L : Nat} {W : World} {x0 x1 x2 : Value} {fs : List Df} {ns : List ByteArray} {ms : List Dm} (h : MxSt base L W x0 x1 x2 fs ns ms) (hf : ∀ f, f ∈ fs → f.okM) (hn : ∀ x, x ∈ ns → x.size ≤ 9223372036854775807) (hm : ∀ m, m ∈ ms → m.okM) : DkAt (fun b => b < W.heap.size ∧ b ≠ L) W ⟨fs, ns, ms⟩ ⟨x0, x1, x2⟩ := by
  obtain ⟨F0, h1, h2, h3, -⟩ := FlatOwn.of_row (rs := fs.map Df.cs) (n := 3) (by rw [List.length_map]; exact h.o0) (fun r hr => by obtain ⟨f, -, rfl⟩ := List.mem_map.1 hr; rfl)
  obtain ⟨F1, g1, -, g3, g4⟩ := strsOwn_of_row h.o1 hn
  obtain ⟨F2, k1, k2, k3, -⟩ := FlatOwn.of_row (rs := ms.map Dm.cs) (n := 2) (by rw [List.length_map]; exact h.o2) (fun r hr => by obtain ⟨f, -, rfl⟩ := List.mem_map.1 hr; rfl)
  have ho : DkOwn W ⟨fs, ns, ms⟩ ⟨x0, x1, x2⟩ F0 F1 F2 := ⟨⟨h1, hf⟩, g1, ⟨k1, hm⟩⟩
  refine ho.at.carry (fun _ _ => rfl) fun b hb => ?_
  rcases List.mem_append.1 hb with hb | hb
  · rcases List.mem_append.1 hb with hb | hb
    · exact ⟨(h3 b hb).2, fun e => own_apart h.o0 h.row (by decide) (by rw [← e]; exact h2 b hb)⟩
    · exact ⟨(g3 b hb).2, fun e => own_apart h.o1 h.row (by decide) (by rw [← e]; exact g4 b hb)⟩
  · exact ⟨(k3 b hb).2, fun e => own_apart h.o2 h.row (by decide) (by rw [← e]; exact k2 b hb)⟩
theorem ok_okM {d : Dk} (h : DkOkS d) : (∀ f, f ∈ d.files → f.okM) ∧ (∀ x, x ∈ d.names → x.size ≤ 9223372036854775807) ∧ ∀ m, m ∈ d.moves → m.okM := by
  obtain ⟨h1, h2, h3⟩ := ok_small h
  refine ⟨fun f hf => ?_, fun x hx => by have := h2 x hx; omega, fun m hm => by have := h3 m hm; show m.name.size ≤ _; omega⟩
  obtain ⟨i, hi, rfl⟩ := List.getElem_of_mem hf
  have hfi := h.file i hi (by rw [h.len]; exact hi)
  have := h1 _ hf
  have hk := hfi.kept; have hd := hfi.data
  exact ⟨by omega, by omega, ⟨by omega, by omega⟩⟩
/-- A write is refused. -/
abbrev rwE (n : Int) : Ending := .panicked [{ v := .iface 126 (.agg #[.int .i64 n]), recovered := false }]

set_option maxRecDepth 100000 in
set_option maxHeartbeats 6400000 in
theorem doWrite_any (w : World) (d : Dk) (k : Int) (x y : ByteArray) (base L : Nat) (o : C3) (hm : MxSt base L w o.c0 o.c1 o.c2 d.files d.names d.moves) (hok : DkOkS d) (hx : x.size ≤ 1048576) (hbL : base ≤ L) :
    ((doD d k x y).2 = 0 → Calls Tryz.prog 76 #[.pointer (some ⟨L, 0, none⟩), .agg #[.int .i64 k, .string x, .string y]] w fun e w' => WrEnd w w' e base base L (doD d k x y).1) ∧
    ((doD d k x y).2 ≠ 0 → Calls Tryz.prog 76 #[.pointer (some ⟨L, 0, none⟩), .agg #[.int .i64 k, .string x, .string y]] w fun e w' => e = rwE (doD d k x y).2 ∧ Below w.heap.size w w') := by
  obtain ⟨c0, c1, c2⟩ := o
  simp only at hm
  obtain ⟨o1, o2, o3⟩ := ok_okM hok
  have hd := hm.at2 o1 o2 o3
  clear o1 o2 o3
  obtain ⟨a0, p0, e0⟩ := own_slice hm.o0
  obtain ⟨x2, m2, e1⟩ := own_slice hm.o1
  obtain ⟨a2, p2, e2⟩ := own_slice hm.o2
  subst e0 e1 e2
  have hLs := hm.row.lt
  have hal : ∀ o, Below w.heap.size w (w.alloc o) := fun o => (Below.refl _ _).alloc (Nat.le_refl _) o
  have l0 := fun o => (hm.row.alloc o).cell (i := 0) (by omega); have l1 := fun o => (hm.row.alloc o).cell (i := 1) (by omega); have l2 := fun o => (hm.row.alloc o).cell (i := 2) (by omega)
  simp only [row3] at l0 l1 l2
  have HV := hide (fun o => viewsOf_any d (fun b => b < w.heap.size ∧ b ≠ L) ⟨.slice a0 d.files.length p0, .slice x2 d.names.length m2, .slice a2 d.moves.length p2⟩ (w.alloc o) (fun b hb => by rw [World.size_alloc]; have := hb.1; omega) (hd.carry (fun b hb => (hal o).block b hb.1) (fun _ h => h)))
  have HR1 := hide (row3_alloc w (.int .i64 k) (.string x) (.string y) 63)
  have HM := hide hm; have HD := hide hd; have HAL := hide hal
  clear hm hd hal
  refine ⟨fun h0 => ?_, fun h0 => ?_⟩
  all_goals
    go_enter Tryz.func76, Tryz.ntmps76
    go_wp2_with fail
    refine (unhide HV _).mono ?_
    rintro e w1 ⟨r, q0, q1, x2', n2, m2', q3, x4, n4, m4, rfl, hr, hb1, hvw⟩
    obtain rfl : r = true := hr.2 ((dkOk_iff d).1 hok)
    obtain ⟨T, B, vm, hvw⟩ := hvw rfl
    have hval := hvw.val
    simp only [Value.agg.injEq, Array.mk.injEq, List.cons.injEq, Value.pointer.injEq, Value.slice.injEq, and_true] at hval
    obtain ⟨rfl, rfl, ⟨rfl, rfl, rfl⟩, rfl, rfl⟩ := hval
    have hs1 : w.heap.size + 1 ≤ w1.heap.size := by have := hb1.size; simpa using this
    have hb01 := (unhide HAL _).trans (hb1.mono (unhide HAL _).size)
    have hq1 := (unhide HR1).of_block (hb1.block w.heap.size (by simp))
    have hm1 := (unhide HM).keep hb01
    have hd1 : DkAt (fun b => b < w1.heap.size ∧ b ≠ L) w1 d ⟨.slice a0 d.files.length p0, .slice x2' d.names.length m2', .slice a2 d.moves.length p2⟩ := (unhide HD).carry (fun b hb => hb01.block b hb.1) (fun b hb => ⟨by have := hb.1; omega, hb.2⟩)
    have hvs : Vs (fun b => b < w1.heap.size ∧ b ≠ L) d a0 p0 T B x2' d.names.length m2' x4 n4 m4 w1 := ⟨hvw.row, hvw.map, hd1.ns, hvw.fns.carry (fun _ _ => rfl) (fun b h => ⟨h.2, by have := h.1; rw [World.size_alloc] at this; omega⟩), hd1.fs, fun _ h => h.1⟩
    have hT : T ≠ L := by have := hvw.tb.1; rw [World.size_alloc] at this; omega
    have hB : B ≠ L := by have := hvw.bb.1; rw [World.size_alloc] at this; omega
    have hBs := hvw.bb.2
    have hal1 : ∀ o, Below w1.heap.size w1 (w1.alloc o) := fun o => (Below.refl _ _).alloc (Nat.le_refl _) o
    have HRF := hide (fun o => refusal_any (fun b => b < w1.heap.size ∧ b ≠ L) (w1.alloc o) d a0 p0 T B x2' d.names.length m2' x4 n4 m4 k x y (hvs.on (hal1 o)) hx hok)
    have j0 := fun o => (hq1.alloc o).cell (i := 0) (by omega); have j1 := fun o => (hq1.alloc o).cell (i := 1) (by omega); have j2 := fun o => (hq1.alloc o).cell (i := 2) (by omega)
    simp only [row3] at j0 j1 j2
    have hV1 := fiveV_alloc w1 (.pointer (some ⟨T, 0, none⟩)) (.pointer (some ⟨T, 0, none⟩)) (.slice x2' d.names.length m2') (.pointer (some ⟨T, 0, none⟩)) (.slice x4 n4 m4) 101
    have HV1 := hide hV1; have HVS := hide hvs; have HQ1 := hide hq1; have HM1 := hide hm1; have HB01 := hide hb01; have HAL1 := hide hal1
    clear hr hb1 hvw hb01 hq1 hm1 hd1 hvs hV1 hal1 l0 l1 l2
    go_wp2_with fail
    refine (unhide HRF _).mono ?_
    rintro e w2 ⟨rfl, hb2⟩
    clear j0 j1 j2 HRF
    have hs2 : w1.heap.size + 1 ≤ w2.heap.size := by have := hb2.size; simpa using this
    have hb12 := (unhide HAL1 _).trans (hb2.mono (unhide HAL1 _).size)
  · rw [h0]
    have hq2 := (unhide HQ1).of_block (hb12.block _ (by omega))
    have hV2 := (unhide HV1).of_block (hb2.block w1.heap.size (by simp))
    have HWR := hide (write_any (fun b => b < w1.heap.size ∧ b ≠ L) w2 d a0 p0 T B x2' d.names.length m2' x4 n4 m4 k x y ((unhide HVS).on hb12) base base L ⟨.slice a0 d.files.length p0, .slice x2' d.names.length m2', .slice a2 d.moves.length p2⟩ ((unhide HM1).keep hb12) hx (Nat.le_refl _) hbL hok (fun b hb => hb.2) hT ⟨hB, by omega⟩ h0)
    have i0 := hV2.cell (i := 0) (by omega); have i1 := hV2.cell (i := 1) (by omega); have i2 := hV2.cell (i := 2) (by omega); have i3 := hV2.cell (i := 3) (by omega); have i4 := hV2.cell (i := 4) (by omega)
    simp only [fiveV] at i0 i1 i2 i3 i4
    have j0 := hq2.cell (i := 0) (by omega); have j1 := hq2.cell (i := 1) (by omega); have j2 := hq2.cell (i := 2) (by omega)
    simp only [row3] at j0 j1 j2
    have HB02 := hide ((unhide HB01).trans (hb12.mono (unhide HB01).size))
    clear hq2 hV2 hb2 hb12
    go_wp2_with fail
    refine (unhide HWR).mono ?_
    rintro e w3 ⟨rfl, ⟨o3, hm3⟩, hb3, ht3⟩
    have HM3 := hide hm3; have HB3 := hide hb3; have HT3 := hide ht3
    clear hm3 hb3 ht3 HWR i0 i1 i2 i3 i4 j0 j1 j2
    go_wp2_with fail
    go_end0
    exact ⟨rfl, ⟨o3, unhide HM3⟩, ((unhide HB02).mono (by omega)).trans (unhide HB3), (TyK.below (unhide HB02)).trans (unhide HT3)⟩
  · have hn : ((doD d k x y).2 != 0) = true := by simpa using h0
    have HB02 := hide ((unhide HB01).trans (hb12.mono (unhide HB01).size))
    clear hb2 hb12
    generalize hnn : (doD d k x y).2 = n at *
    have HNN := hide hnn
    clear hnn
    go_wp2_with fail
    have hnn := unhide HNN
    subst hnn
    exact ⟨rfl, rfl, unhide HB02⟩

set_option maxHeartbeats 3200000 in
theorem dw_panicking (p : Nat) (n : Int) (older : List PanicEntry) (w : World) (u : Value) (hp : w.rowIs p 4 1 (fun _ => u)) :
    CallsD Tryz.prog 75 #[.pointer (some ⟨p, 0, none⟩)] (.panicking ({ v := .iface 126 (.agg #[.int .i64 n]), recovered := false } :: older)) w fun e u' w' =>
      e = .returned (.tuple #[]) ∧ u' = .panicking ({ v := .iface 126 (.agg #[.int .i64 n]), recovered := true } :: older) ∧ w' = (w.alloc (.cells #[.int .i64 n] 126)).setCell ⟨p, 0, none⟩ (.bool false) := by
  have hta : ∀ W, Sem.run Tryz.prog (Instr.typeAssert (.iface 126 (.agg #[.int .i64 n])) 20 126 true) W = .ok (.tuple #[.agg #[.int .i64 n], .bool true]) W := fun W => by kernel_rfl
  have c0 := fun o => (hp.alloc o).cell (i := 0) (by omega)
  have z := fun o => (hp.alloc o).frozen
  refine callsD_of_wpS Tryz.func75 rfl fun c₀ cs hu => ?_
  apply wpS_seq
  apply wpS_region
  simp [wpOpsS, go_sem, recoverD, hu, Tryz.ntmps75, hta, Exit.thenS]
  apply wpS_seq
  apply wpS_region
  simp [wpOpsS, go_sem, Exit.thenS]
  refine wpS_cond (t := true) (by simp [Act.eval, Array.replicate]) ?_
  simp only [if_true]
  apply wpS_region
  simp [wpOpsS, go_sem, bodyPostS, results, Tryz.results75, c0, z]
set_option maxHeartbeats 1600000 in
theorem dw_returning (p : Addr) (w : World) :
    CallsD Tryz.prog 75 #[.pointer (some p)] .returning w fun e u' w' => e = .returned (.tuple #[]) ∧ u' = .returning ∧ w' = w.alloc (.cells #[.int .i64 0] 126) := by
  have hta : ∀ W, Sem.run Tryz.prog (Instr.typeAssert .nilIface 20 126 true) W = .ok (.tuple #[.agg #[.int .i64 0], .bool false]) W := fun W => by kernel_rfl
  refine callsD_of_wpS Tryz.func75 rfl fun c₀ cs hu => ?_
  apply wpS_seq
  apply wpS_region
  simp [wpOpsS, go_sem, recoverD, hu, Tryz.ntmps75, hta, Exit.thenS]
  apply wpS_seq
  apply wpS_region
  simp [wpOpsS, go_sem, Exit.thenS]
  refine wpS_cond (t := false) (by simp [Act.eval, Array.replicate]) ?_
  simp only [Bool.false_eq_true, if_false]
  refine wpS_of_wp (wp_skip ?_)
  cases c₀
  simp_all [bodyPostS, results, Tryz.results75]
theorem row1_alloc (w : World) (v : Value) (t : TypeId) : (w.alloc (.cells #[v] t)).rowIs w.heap.size t 1 (fun _ => v) :=
  World.rowIs_alloc w #[v] t _ (fun i hi => by
    have hi' : i < 1 := hi
    match i, hi' with
    | 0, _ => rfl)
theorem TyK.row {w W : World} {b : Nat} {t n : Nat} {f : Nat → Value} (h : TyK w W) (hr : w.rowIs b t n f) (h2 : t ≠ 84) (h3 : t ≠ 88) (h4 : t ≠ 37) : W.rowIs b t n f := by
  obtain ⟨cs, fz, hc⟩ := row_ty hr
  exact hr.of_block (h b cs t fz hc h2 h3 h4)

theorem MxSt.setBox {base L : Nat} {W : World} {x0 x1 x2 : Value} {fs : List Df} {ns : List ByteArray} {ms : List Dm} (h : MxSt base L W x0 x1 x2 fs ns ms) {B t n : Nat} {f : Nat → Value} (hB : W.rowIs B t n f) (h1 : 37 ≠ t) (h2 : 84 ≠ t) (h3 : 9 ≠ t) (h4 : 88 ≠ t) (j : Nat) (v : Value) : MxSt base L (W.setCell ⟨B, j, none⟩ v) x0 x1 x2 fs ns ms :=
  ⟨h.row.of_block (Below.heap_setCell _ _ _ _ (rows_ne h.row hB h1)), ownsRow_keep h.o0 (fun g e => Below.heap_setCell _ _ _ _ (fun e2 => own_apart h.o0 hB h2.symm (by rw [e]; simp only at e2; rw [e2]))), ownsRow_keep h.o1 (fun g e => Below.heap_setCell _ _ _ _ (fun e2 => own_apart h.o1 hB h3.symm (by rw [e]; simp only at e2; rw [e2]))), ownsRow_keep h.o2 (fun g e => Below.heap_setCell _ _ _ _ (fun e2 => own_apart h.o2 hB h4.symm (by rw [e]; simp only at e2; rw [e2])))⟩

set_option maxRecDepth 100000 in
set_option maxHeartbeats 6400000 in
theorem doWrites_any (w : World) (d : Dk) (ws : List Wr) (a : Option Addr) (cap : Nat) (P : Nat → Prop) (base L : Nat) (o : C3) (hm : MxSt base L w o.c0 o.c1 o.c2 d.files d.names d.moves) (hok : DkOkS d) (hbL : base ≤ L) (hws : WsAt P w (.slice a ws.length cap) ws) (hP : ∀ b, P b → b < base) (hsz : ∀ x, x ∈ ws → x.x.size ≤ 1048576) :
    Calls Tryz.prog 65 #[.pointer (some ⟨L, 0, none⟩), .slice a ws.length cap] w fun e w' => e = .returned (.bool (runW d ws).2) ∧ (∃ o' : C3, MxSt base L w' o'.c0 o'.c1 o'.c2 (runW d ws).1.files (runW d ws).1.names (runW d ws).1.moves) ∧ Below base w w' := by
  have hmf : ∀ (fn : Fn) (first cap : Array Value) (w : World), (Instr.makeFunc fn first cap).run Tryz.prog w = .ok (.func fn first cap) w := fun _ _ _ _ => rfl
  have hLs := hm.row.lt
  obtain ⟨a', cap', e', hlen, hc⟩ := hws.open
  simp only [Value.slice.injEq, true_and] at e'
  obtain ⟨rfl, rfl⟩ := e'
  have hal : Below w.heap.size w (w.alloc (.cells #[.bool false] 4)) := (Below.refl _ _).alloc (Nat.le_refl _) _
  have HC := hide hc; have HP := hide hP; have HSZ := hide hsz
  have HM := hide (hm.keep hal); have HAL := hide hal; have HOK := hide hok; have HR := hide (row1_alloc w (.bool false) 4)
  clear hm hok hws hc hP hsz hal
  go_enter_defers Tryz.func65, Tryz.ntmps65
  go_wp2_with fail
  go_loopw [10] (fun i wr => ∃ (k : Nat) (e : Dk) (o' : C3), k ≤ ws.length ∧ i = .int .i64 k ∧ Hid (runW d (ws.take k) = (e, true)) ∧ Hid (DkOkS e) ∧ Hid (MxSt base L wr o'.c0 o'.c1 o'.c2 e.files e.names e.moves) ∧ Hid (Below base w wr) ∧ Hid (wr.rowIs w.heap.size 4 1 (fun _ => .bool false))) (fun i _ => ws.length - (intOf i).toNat)
  case atStart => exact ⟨0, d, o, Nat.zero_le _, rfl, rfl, unhide HOK, unhide HM, (unhide HAL).mono (by omega), unhide HR⟩
  case round =>
    clear HM HOK HR HAL
    obtain ⟨k, e, o', hk, rfl, HRU, HOK, HM, HB, HR⟩ := hrel
    have hws := HB.out.size
    by_cases hlt : k < ws.length
    rotate_left
    · obtain rfl : k = ws.length := by omega
      have hru := HRU.out
      rw [List.take_of_length_le (Nat.le_refl _)] at hru
      have hrl := HR.out.lt
      have c0 := HR.out.cell (i := 0) (by omega)
      have z := HR.out.frozen
      have HFR := hide hru; have HR2 := hide HR.out
      clear hru HRU HR
      go_wp2_with fail
      refine leaves_cons (f := 75) (args := #[.pointer (some ⟨w.heap.size, 0, none⟩)]) (by simp) (by simp [go_sem]) ?_
      refine (dw_returning ⟨w.heap.size, 0, none⟩ _).mono ?_
      rintro e2 u' w'' ⟨rfl, rfl, rfl⟩
      simp [Leaves, settle, results, Tryz.results65, go_sem, hrl, c0]
      rw [unhide HFR]
      exact ⟨rfl, ⟨o', (HM.out.setBox (unhide HR2) (by decide) (by decide) (by decide) (by decide) 0 _).keep ((Below.refl _ _).alloc (Nat.le_refl _) _)⟩, (HB.out.setCell (by simp; omega) _).alloc (by simp; omega) _⟩
    · obtain ⟨b, q, rfl, hpb, hcell, -⟩ := unhide HC k hlt
      have hpb' := unhide HP b hpb
      obtain ⟨e0, e1, e2⟩ := hcell.carry (HB.out.block b hpb')
      simp only at e0 e1 e2
      have hsx := unhide HSZ ws[k] (List.getElem_mem hlt)
      have hsu := runW_succ hlt HRU.out
      have hal : ∀ ob, Below wr.heap.size wr (wr.alloc ob) := fun ob => (Below.refl _ _).alloc (Nat.le_refl _) ob
      have hdw := fun ob => doWrite_any (wr.alloc ob) e ws[k].k ws[k].x ws[k].y base L o' (HM.out.keep (hal ob)) HOK.out hsx hbL
      have hokn : (doD e ws[k].k ws[k].x ws[k].y).2 = 0 → DkOkS (doD e ws[k].k ws[k].x ws[k].y).1 := fun h => doD_ok HOK.out h
      have hsame : (doD e ws[k].k ws[k].x ws[k].y).2 ≠ 0 → (doD e ws[k].k ws[k].x ws[k].y).1 = e := fun h => doD_same HOK.out h
      have HDW := hide hdw; have HOKN := hide hokn; have HSAME := hide hsame; have HSU := hide hsu; have HAL := hide hal
      clear hcell hpb hpb' hsu hal hdw hokn hsame hsx
      generalize ws[k] = x at *
      by_cases h0 : (doD e x.k x.x x.y).2 = 0
      · have HD := hide (fun ob => (unhide HDW ob).1 h0)
        go_wp2_with fail
        refine (unhide HD _).mono ?_
        rintro ee w3 ⟨rfl, ⟨o3, hm3⟩, hb3, ht3⟩
        have hsu := unhide HSU
        rw [decide_eq_true h0] at hsu
        have hbw : Below base w w3 := (HB.out.trans ((unhide HAL _).mono (by omega))).trans hb3
        have hr3 := ht3.row (HR.out.alloc _) (by decide) (by decide) (by decide)
        have HS3 := hide hsu; have HM3 := hide hm3; have HB3 := hide hbw; have HR3 := hide hr3; have HO3 := hide (unhide HOKN h0)
        clear hsu hm3 hb3 ht3 hbw hr3 HD
        go_wp2_with fail
        go_roundw
        case rel => exact ⟨k + 1, _, o3, by omega, by go_num, unhide HS3, unhide HO3, unhide HM3, unhide HB3, unhide HR3⟩
        case measure => simp [intOf]; omega
      · have HD := hide (fun ob => (unhide HDW ob).2 h0)
        go_wp2_with fail
        refine (unhide HD _).mono ?_
        rintro ee w3 ⟨rfl, hb3⟩
        have hbw3 := (unhide HAL _).trans (hb3.mono (unhide HAL _).size)
        have hr3 := HR.out.of_block (hbw3.block _ HR.out.lt)
        have hs3 := hbw3.size
        have hm3 := HM.out.keep hbw3
        have hsu := unhide HSU
        rw [decide_eq_false h0] at hsu
        have hrw := runW_stop (n := ws.length) (by omega) hsu
        rw [List.take_length] at hrw
        have hrl := hr3.lt
        have c0 := hr3.cell (i := 0) (by omega)
        refine leaves_cons (f := 75) (args := #[.pointer (some ⟨w.heap.size, 0, none⟩)]) (by simp) (by simp [go_sem]) ?_
        refine (dw_panicking w.heap.size _ [] _ _ hr3).mono ?_
        rintro e2 u' w'' ⟨rfl, rfl, rfl⟩
        simp [Leaves, settle, results, Tryz.results65, go_sem, hrl, c0]
        rw [hrw]
        simp only
        rw [unhide HSAME h0]
        exact ⟨trivial, ⟨o', (hm3.setBox hr3 (by decide) (by decide) (by decide) (by decide) 0 _).keep ((Below.refl _ _).alloc (Nat.le_refl _) _)⟩, ((HB.out.trans (hbw3.mono (by omega))).setCell (by simp; omega) _).alloc (by simp; omega) _⟩
end Go.Proofs.YtgdiankfnemjjaaGreat
