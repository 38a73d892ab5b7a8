/- The walk of the program's recordCounter.record: the bytes of a record that is ok, a fault else. No conditions. -/
import Derived.Test.YtiflfcjocngiiaaGreatDoorPart25
import Derived.WideLaws
namespace Go.Proofs.YtiflfcjocngiiaaGreatDoor
open Go Go.RowKit

theorem headT_len (key : ByteArray) (n : Nat) : (headT key n).length = key.size + 2 := by unfold headT; rw [List.length_append, shortB_len]; rfl
theorem recB_ge {key : ByteArray} {es : List Ev} {k : Nat} (h : k < es.length) : (headT key es.length ++ evsB (es.take k)).length + 2 + (evB es[k]).length ≤ (recB key es).length := by
  have h1 : evsB es = evsB (es.take (k + 1)) ++ evsB (es.drop (k + 1)) := by rw [← evsB_append, List.take_append_drop]
  unfold recB
  rw [h1, evsB_take es k h]
  simp [twoB]; omega
theorem not_fits {pos : Int} {key : ByteArray} {es : List Ev} {k : Nat} (h : k < es.length) (hf : ¬ evFits (headT key es.length ++ evsB (es.take k)) es[k]) : recOkB pos key es = false := by
  by_cases ho : evOkE es[k] = true
  · have := recB_ge (key := key) h
    have hl : ¬ (recB key es).length ≤ 2000 := fun hl => hf ⟨ho, by omega⟩
    unfold recOkB; rw [decide_eq_false hl, Bool.and_false]
  · exact recOk_all' (all_false_at h (by simpa using ho))
where
  recOk_all' {pos : Int} {key : ByteArray} {es : List Ev} (h : es.all evOkE = false) : recOkB pos key es = false := by unfold recOkB; rw [h, Bool.and_false]; rfl

/-- What the loop has put. -/
structure RcI (base B : Nat) (w wr : World) (key : ByteArray) (es : List Ev) (k : Nat) (v : Value) (n : Nat) (l : List UInt8) : Prop where
  st : Rw base B wr v l
  sp : Sp base B w wr
  len : n = l.length
  eq : l = headT key es.length ++ evsB (es.take k)
  ok : (es.take k).all evOkE = true
  le : l.length ≤ 2000

/-- What the walk comes to. -/
def RcPost (base B : Nat) (w w' : World) (e : Ending) (pos : Int) (key : ByteArray) (es : List Ev) : Prop :=
  (recOkB pos key es = true ∧ e = .returned (.tuple #[]) ∧ Sp base B w w' ∧ ∃ a n cap, Rw base B w' (.slice a n cap) (recB key es)) ∨ (recOkB pos key es = false ∧ e = rfE ∧ Sp base B w w')

set_option maxRecDepth 100000 in
set_option maxHeartbeats 6400000 in
theorem rcrecord_any (base B : Nat) (w : World) (pos : Int) (key : ByteArray) (es : List Ev) (P : Nat → Prop) (v : Value) (hP : ∀ b, P b → b < base) (hv : EvsAt P w v es) (hk : key.size ≤ 9223372036854775807) (hT : Tab w) (hTb : 0 < base) (h : Rw base B w (.slice none 0 0) []) :
    Calls Tryz.prog 50 #[.pointer (some ⟨B, 0, none⟩), .agg #[.int .i64 pos, .string key, v]] w fun e w' => RcPost base B w w' e pos key es := by
  obtain ⟨W0, hW0⟩ : ∃ W0, w.alloc (.cells #[.int .i64 pos, .string key, v] 24) = W0 := ⟨_, rfl⟩
  have hb0 : Below w.heap.size w W0 := by rw [← hW0]; exact (Below.refl _ _).alloc (Nat.le_refl _) _
  have hr0 : W0.rowIs w.heap.size 24 3 (row3 (.int .i64 pos) (.string key) v) := by rw [← hW0]; exact row3_alloc w _ _ _ _
  have hst0 := h.on hb0
  have hbs := h.size
  have hBw := h.cells.lt
  have HEVS := hide (fun (W : World) (hW : Below base w W) => hv.carry (fun b hb => hW.block b (hP b hb)) (fun _ h => h))
  obtain ⟨a, cap, rfl, -, -⟩ := hv
  have HP := hide hP
  have HTB := hide (fun (W : World) (hW : Below base w W) => hT.of_block (hW.block 0 hTb))
  have HB0 := hide hb0; have HR0 := hide hr0; have HST0 := hide hst0; have HLT := hide h.lt
  have HI := hide (fun (W : World) (x y z : Int) => frInP x y z W)
  have HNM := hide (fun W => nameOk_any key W hk)
  have HKK := hide (fun (W : World) (hW : Sp base B W0 W) => (⟨((unhide HR0).of_block (by have := hW.box (unhide HR0) (by omega) (by decide); exact hW.block _ (unhide HR0).lt (by omega) (Or.inr fun cs fz e => by obtain ⟨c, hb, _⟩ := unhide HR0; rw [e] at hb; simp at hb))).cell (i := 0) (by omega), (hW.box (unhide HR0) (by omega) (by decide)).cell (i := 1) (by omega), (hW.box (unhide HR0) (by omega) (by decide)).cell (i := 2) (by omega)⟩ : W.cell? ⟨w.heap.size, 0, none⟩ = some (.int .i64 pos) ∧ W.cell? ⟨w.heap.size, 1, none⟩ = some (.string key) ∧ W.cell? ⟨w.heap.size, 2, none⟩ = some (.slice a es.length cap)))
  obtain ⟨k0, k1, k2⟩ := unhide HKK W0 (Sp.refl _ _ _)
  have HNO := hide (fun (hf : headB pos key es.length = false) => (show recOkB pos key es = false by unfold recOkB; rw [hf]; rfl))
  clear hb0 hr0 hst0 hP hT h
  subst hW0
  go_enter Tryz.func50, Tryz.ntmps50
  generalize hW0 : w.alloc (.cells #[.int .i64 pos, .string key, .slice a es.length cap] 24) = W0 at *
  have HFA := hide (fun (W : World) (hW : Below W0.heap.size W0 W) => ((Sp.but (But.of_below (unhide HB0))).trans (Sp.but (But.of_below hW)) : Sp base B w W))
  by_cases h1 : 1 ≤ pos ∧ pos ≤ 999999
  · have D1 := hide (decide_eq_true h1)
    clear h1
    go_wp2_with fail
    refine (unhide HI _ _ _ _).mono ?_
    rintro e w1 ⟨rfl, hb1⟩
    rw [unhide D1]
    clear k0 k1 k2
    obtain ⟨k0, k1, k2⟩ := unhide HKK w1 (Sp.but (But.of_below hb1))
    have HB1 := hide hb1
    clear hb1
    go_wp2_with fail
    refine (unhide HNM _).mono ?_
    rintro e w2 ⟨rfl, hw2⟩
    have hw2' := hw2.symm
    subst hw2'
    by_cases h2 : nameOkB key = true
    · have H2 := hide h2
      rw [h2]
      clear h2
      go_wp2_with fail
      refine (unhide HI _ _ _ _).mono ?_
      rintro e w3 ⟨rfl, hb3⟩
      have HB3 := hide ((unhide HB1).trans (hb3.mono (unhide HB1).size))
      by_cases h3 : 1 ≤ (es.length : Int) ∧ (es.length : Int) ≤ 40
      · have HHD := hide (show headB pos key es.length = true by unfold headB; rw [unhide D1, unhide H2, decide_eq_true h3]; rfl)
        rw [decide_eq_true h3]
        have hn40 : es.length ≤ 40 := by omega
        have hk8 := name_size (unhide H2)
        clear h3 k0 k1 k2 hb3 HB1
        obtain ⟨k0, k1, k2⟩ := unhide HKK w3 (Sp.but (But.of_below (unhide HB3)))
        go_wp2_with fail
        refine (want_yes _ _).mono ?_
        rintro e w4 ⟨rfl, hw4⟩
        have hw4' := hw4.symm
        subst hw4'
        have hwk : IntKind.u8.wrap (key.size : Int) = (key.size : Int) := by rw [IntKind.wrap_u8]; omega
        have hst3 := (unhide HST0).on (unhide HB3)
        have HP1 := hide (rcput_yes base B (w3.alloc (.cells #[.int .u8 (key.size : Int)] 5)) none 0 0 [] [UInt8.ofNat key.size] ⟨w3.heap.size, 0, none⟩ 1 1 (hst3.alloc _) rfl (by have := byte_one w3 (UInt8.ofNat key.size) 5; rw [u8_nat _ (by omega)] at this; exact this) rfl (by simp))
        clear hst3
        go_wp2_with fail
        refine (unhide HP1).mono ?_
        rintro e w5 ⟨rfl, ⟨hsp5, -⟩, a5, n5, cap5, hn5, hst5⟩
        have hsp05 : Sp base B W0 w5 := ((Sp.but (But.of_below (unhide HB3))).trans (Sp.alloc base B w3 (.cells #[.int .u8 (key.size : Int)] 5))).trans hsp5
        clear hsp5 HP1 k0 k1 k2 hwk
        obtain ⟨k0, k1, k2⟩ := unhide HKK w5 hsp05
        obtain ⟨cap6, W6, hrun6, hgrow6, hlt6, hcell6⟩ := bytes_of w5 key
        have hb56 : Below w5.heap.size w5 W6 := (Below.refl _ _).grown hgrow6 (Nat.le_refl _) (by simp)
        have HP2 := hide (rcput_yes base B W6 a5 n5 cap5 ([] ++ [UInt8.ofNat key.size]) key.data.toList ⟨w5.heap.size, 0, none⟩ key.size cap6 (hst5.on hb56) (by simp) hcell6 hn5 (by simp; omega))
        have HSP6 := hide (hsp05.trans (Sp.but (But.of_below hb56)))
        clear hb56 hgrow6 hlt6 hcell6 hst5 hsp05 hn5
        go_wp2_with fail
        refine (unhide HP2).mono ?_
        rintro e w7 ⟨rfl, ⟨hsp7, -⟩, a7, n7, cap7, hn7, hst7⟩
        have hsp07 := (unhide HSP6).trans hsp7
        clear hsp7 HP2 k0 k1 k2 hrun6 HSP6
        obtain ⟨k0, k1, k2⟩ := unhide HKK w7 hsp07
        have hwk : IntKind.u8.wrap (es.length : Int) = (es.length : Int) := by rw [IntKind.wrap_u8]; omega
        have HP3 := hide (rcput_yes base B (w7.alloc (.cells #[.int .u8 (es.length : Int)] 5)) a7 n7 cap7 _ [UInt8.ofNat es.length] ⟨w7.heap.size, 0, none⟩ 1 1 (hst7.alloc _) rfl (by have := byte_one w7 (UInt8.ofNat es.length) 5; rw [u8_nat _ (by omega)] at this; exact this) hn7 (by simp; omega))
        have HSP7 := hide (hsp07.trans (Sp.alloc base B w7 (.cells #[.int .u8 (es.length : Int)] 5)))
        have HEQ : Hid (([] ++ [UInt8.ofNat key.size]) ++ key.data.toList ++ [UInt8.ofNat es.length] = headT key es.length) := by show _ = _; simp [headT, shortB]
        rw [HEQ.out] at HP3
        clear hst7 hn7 hsp07 HEQ
        go_wp2_with fail
        refine (unhide HP3).mono ?_
        rintro e w8 ⟨rfl, ⟨hsp8, -⟩, a8, n8, cap8, hn8, hst8⟩
        have hsp08 := (unhide HSP7).trans hsp8
        clear hsp8 HP3 k0 k1 k2 hwk HSP7
        obtain ⟨k0, k1, k2⟩ := unhide HKK w8 hsp08
        have HI0 := hide (show RcI base B w w8 key es 0 (.slice a8 n8 cap8) n8 (headT key es.length) from ⟨hst8, (Sp.but (But.of_below (unhide HB0))).trans hsp08, hn8, by simp [evsB], rfl, by rw [headT_len]; omega⟩)
        clear hn8 hst8 hsp08 HKK HR0 HB3 HB0 HST0 HI HNM
        go_wp2_with fail
        go_loopw [44] (fun i wr => ∃ (k : Nat) (ar : Option Addr) (nr cr : Nat) (lr : List UInt8), k ≤ es.length ∧ i = .int .i64 k ∧ Hid (RcI base B w wr key es k (.slice ar nr cr) nr lr)) (fun i _ => es.length - (intOf i).toNat)
        case atStart => exact ⟨0, a8, n8, cap8, _, Nat.zero_le _, rfl, HI0⟩
        case round =>
          obtain ⟨k, ar, nr, cr, lr, hk', rfl, HA⟩ := hrel
          have hbw := HA.out.sp.below (unhide HLT) hbs
          by_cases hlt : k < es.length
          · obtain ⟨a', cap', heq, -, hc⟩ := unhide HEVS wr hbw
            simp only [Value.slice.injEq, true_and] at heq
            obtain ⟨rfl, rfl⟩ := heq
            obtain ⟨b, o, rfl, hpb, c, hcell, hrep, hty, hver⟩ := hc k hlt
            obtain ⟨c0, c1, c2, c3, c4⟩ := c
            obtain ⟨g0, g1, g2, -, -, -, ⟨a3, cap3, g3, -⟩, a4, cap4, g4, -⟩ := hrep.open
            simp only at g0 g1 g2 g3 g4
            subst g0 g1 g2 g3 g4
            obtain ⟨e0, e1, e2, e3, e4, e5, e6⟩ := hcell
            simp only at e0 e1 e2 e3 e4 e5 e6
            have hPw : ∀ o b, P b → b < (wr.alloc o).heap.size := fun o b hb => by have := unhide HP b hb; have := hbw.size; simp; omega
            have hrepA : ∀ o, Rep P (wr.alloc o) es[k].t ⟨.int .i64 es[k].t.sort, .int .i64 es[k].t.num, .string es[k].t.text, .slice a3 es[k].t.names.length cap3, .slice a4 es[k].t.kids.length cap4⟩ := fun o => Rep.carry (fun b hb => ((Below.refl _ wr).alloc (Nat.le_refl _) o).block b (by have := unhide HP b hb; have := hbw.size; omega)) (fun _ h => h) _ _ hrep
            have hTA : ∀ o, Tab (wr.alloc o) := fun o => (unhide HTB wr hbw).of_block (((Below.refl _ wr).alloc (Nat.le_refl _) o).block _ (unhide HTB wr hbw).lt)
            have HBW := hide hbw
            by_cases hf : evFits lr es[k]
            · have HCALL := hide (fun o => rcevent_yes base B (wr.alloc o) ar nr cr lr es[k] P _ (hPw o) (hrepA o) hty hver (hTA o) (HA.out.st.alloc o) HA.out.len hf)
              have HT := hide (evsB_take es k hlt); have HTK := hide (all_take_succ hlt evOkE); have HF := hide hf
              clear hc hrep hpb hty hver hbw hPw hrepA hTA hf
              go_wp2_with fail
              refine (unhide HCALL _).mono ?_
              rintro e w9 ⟨rfl, hsp9, a9, n9, cap9, hn9, hst9⟩
              have HN : Hid (RcI base B w w9 key es (k + 1) (.slice a9 n9 cap9) n9 (lr ++ (twoB (evB es[k]).length ++ evB es[k]))) :=
                ⟨hst9, HA.out.sp.trans ((Sp.alloc base B wr _).trans hsp9), hn9, by rw [unhide HT, HA.out.eq, List.append_assoc], by rw [unhide HTK, HA.out.ok, (unhide HF).1]; rfl, by have := (unhide HF).2; rw [List.length_append, List.length_append]; show _ + (2 + _) ≤ _; omega⟩
              clear hsp9 hn9 hst9 HCALL e0 e1 e2 e3 e4 e5 e6
              go_wp2_with fail
              go_roundw
              case rel => exact ⟨k + 1, a9, n9, cap9, _, by omega, by go_num, HN⟩
              case measure => simp [intOf]; omega
            · have HCALL := hide (fun o => rcevent_no base B (wr.alloc o) ar nr cr lr es[k] P _ (hPw o) (hrepA o) hty hver (hTA o) (HA.out.st.alloc o) HA.out.len HA.out.le hf)
              have HN := hide (show recOkB pos key es = false from not_fits hlt (by rw [← HA.out.eq]; exact hf))
              clear hc hrep hpb hty hver hbw hPw hrepA hTA hf
              go_wp2_with fail
              refine (unhide HCALL _).mono ?_
              rintro e w9 ⟨rfl, hb9⟩
              have HB9 := hide (HA.out.sp.trans ((Sp.alloc base B wr _).trans hb9))
              clear hb9 HCALL e0 e1 e2 e3 e4 e5 e6
              go_wp2_with fail
              exact ⟨rfl, Or.inr ⟨unhide HN, rfl, unhide HB9⟩⟩
          · obtain rfl : k = es.length := by omega
            have hall := HA.out.ok
            have heq := HA.out.eq
            rw [List.take_length] at hall heq
            have hok : recOkB pos key es = true := by
              unfold recOkB; rw [unhide HHD, hall]
              have : (recB key es).length ≤ 2000 := by have := HA.out.le; rw [heq] at this; exact this
              rw [decide_eq_true this]; rfl
            have HOK := hide hok; have HEQ := hide heq
            clear hall heq hok hbw
            go_wp2_with fail
            go_end0
            refine Or.inl ⟨unhide HOK, rfl, HA.out.sp, ar, nr, cr, ?_⟩
            have := HA.out.st
            rw [unhide HEQ] at this
            exact this
      · have HN := hide (unhide HNO (by unfold headB; rw [decide_eq_false h3, Bool.and_false, Bool.and_false]))
        rw [decide_eq_false h3]
        clear h3 hb3
        go_wp2_with fail
        refine (want_no _ _).mono ?_
        rintro e w4 ⟨rfl, hw4⟩
        have hw4' := hw4.symm
        subst hw4'
        go_wp2_with fail
        exact ⟨rfl, Or.inr ⟨unhide HN, rfl, unhide HFA _ (unhide HB3)⟩⟩
    · have h2' : nameOkB key = false := by simpa using h2
      have HN := hide (unhide HNO (by unfold headB; rw [h2', Bool.false_and, Bool.and_false]))
      rw [h2']
      clear h2 h2'
      go_wp2_with fail
      refine (want_no _ _).mono ?_
      rintro e w4 ⟨rfl, hw4⟩
      have hw4' := hw4.symm
      subst hw4'
      go_wp2_with fail
      exact ⟨rfl, Or.inr ⟨unhide HN, rfl, unhide HFA _ (unhide HB1)⟩⟩
  · have D1 := hide (decide_eq_false h1)
    have HN := hide (unhide HNO (by unfold headB; rw [decide_eq_false h1, Bool.false_and]))
    clear h1
    go_wp2_with fail
    refine (unhide HI _ _ _ _).mono ?_
    rintro e w1 ⟨rfl, hb1⟩
    rw [unhide D1]
    have HB1 := hide hb1
    clear hb1
    go_wp2_with fail
    refine (want_no _ _).mono ?_
    rintro e w4 ⟨rfl, hw4⟩
    have hw4' := hw4.symm
    subst hw4'
    go_wp2_with fail
    exact ⟨rfl, Or.inr ⟨unhide HN, rfl, unhide HFA _ (unhide HB1)⟩⟩
end Go.Proofs.YtiflfcjocngiiaaGreatDoor

/- The walk of the program's packedRecord and its deferred function; RecOk, RecPack. No conditions. -/

namespace Go.Proofs.YtiflfcjocngiiaaGreatDoor
open Go Go.RowKit

set_option maxHeartbeats 1600000 in
theorem packed_panicking (p q : Addr) (x y : Value) (older : List PanicEntry) (w : World) (hc : w.cell? p = some x) (hz : w.frozen? p = false) (hd : w.cell? q = some y) (hy : w.frozen? q = false) (hpl : p.block < w.heap.size) (hql : q.block < w.heap.size) (hne : p.block ≠ q.block) :
    CallsD Tryz.prog 49 #[.pointer (some p), .pointer (some q)] (.panicking ({ v := .iface 78 (.agg #[]), recovered := false } :: older)) w fun e u' w' =>
      e = .returned (.tuple #[]) ∧ u' = .panicking ({ v := .iface 78 (.agg #[]), recovered := true } :: older) ∧ w' = ((w.alloc (.cells #[] 78)).setCell p (.string ByteArray.empty)).setCell q (.bool false) := by
  have hta : ∀ W, Sem.run Tryz.prog (Instr.typeAssert (.iface 78 (.agg #[])) 20 78 true) W = .ok (.tuple #[.agg #[], .bool true]) W := fun W => by kernel_rfl
  refine callsD_of_wpS Tryz.func49 rfl fun c₀ cs hu => ?_
  have b1 := fun o => ((Below.refl w.heap.size w).alloc (Nat.le_refl _) o).block p.block hpl
  have b2 := fun o => ((Below.refl w.heap.size w).alloc (Nat.le_refl _) o).block q.block hql
  have hc1 : ∀ o, (w.alloc o).cell? p = some x := fun o => by rw [World.cell?_of_block (a := p) (b1 o)]; exact hc
  have hz1 : ∀ o, (w.alloc o).frozen? p = false := fun o => by rw [World.frozen?_of_block (a := p) (b1 o)]; exact hz
  have hd1 : ∀ o, (w.alloc o).cell? q = some y := fun o => by rw [World.cell?_of_block (a := q) (b2 o)]; exact hd
  have hy1 : ∀ o, (w.alloc o).frozen? q = false := fun o => by rw [World.frozen?_of_block (a := q) (b2 o)]; exact hy
  have hd2 : ∀ o v, ((w.alloc o).setCell p v).cell? q = some y := fun o v => by rw [World.cell?_of_block (a := q) (w := w.alloc o) (Below.heap_setCell _ _ _ _ hne.symm)]; exact hd1 o
  apply wpS_seq
  apply wpS_region
  simp [wpOpsS, go_sem, recoverD, hu, Tryz.ntmps49, hta, Exit.thenS]
  apply wpS_seq
  apply wpS_region
  simp [wpOpsS, go_sem, Exit.thenS]
  refine wpS_cond (t := true) (by simp [Act.eval, Array.replicate]) ?_
  simp only [if_true]
  apply wpS_region
  simp [wpOpsS, go_sem, bodyPostS, results, Tryz.results49, hc1, hz1, hy1, hd2]
  rfl

set_option maxHeartbeats 1600000 in
theorem packed_returning (p q : Addr) (w : World) :
    CallsD Tryz.prog 49 #[.pointer (some p), .pointer (some q)] .returning w fun e u' w' => e = .returned (.tuple #[]) ∧ u' = .returning ∧ w' = w.alloc (.cells #[] 78) := by
  have hta : ∀ W, Sem.run Tryz.prog (Instr.typeAssert .nilIface 20 78 true) W = .ok (.tuple #[.agg #[], .bool false]) W := fun W => by kernel_rfl
  refine callsD_of_wpS Tryz.func49 rfl fun c₀ cs hu => ?_
  apply wpS_seq
  apply wpS_region
  simp [wpOpsS, go_sem, recoverD, hu, Tryz.ntmps49, hta, Exit.thenS]
  apply wpS_seq
  apply wpS_region
  simp [wpOpsS, go_sem, Exit.thenS]
  refine wpS_cond (t := false) (by simp [Act.eval, Array.replicate]) ?_
  simp only [Bool.false_eq_true, if_false]
  refine wpS_of_wp (wp_skip ?_)
  cases c₀
  simp_all [bodyPostS, results, Tryz.results49]

theorem Rw.start (w : World) (o0 o1 o2 : Obj) : Rw w.heap.size (w.heap.size + 1 + 1 + 1) ((((w.alloc o0).alloc o1).alloc o2).alloc (.cells #[.slice none 0 0, .int .i64 2000] 83)) (.slice none 0 0) [] := by
  refine ⟨?_, ⟨rfl, Or.inl ⟨rfl, rfl⟩⟩, by omega⟩
  have := rowO_alloc (((w.alloc o0).alloc o1).alloc o2) (.slice none 0 0) (.int .i64 2000) 83
  rw [World.size_alloc, World.size_alloc, World.size_alloc] at this
  exact this

set_option maxRecDepth 100000 in
set_option maxHeartbeats 3200000 in
theorem packedRecord_any (pos : Int) (key : ByteArray) (es : List Ev) (P : Nat → Prop) (v : Value) (w : World) (hP : ∀ b, P b → b < w.heap.size) (hv : EvsAt P w v es) (hk : key.size ≤ 9223372036854775807) (hT : Tab w) :
    Calls Tryz.prog 33 #[.agg #[.int .i64 pos, .string key, v]] w fun e w' => e = .returned (.tuple #[.string (bA (recPackB pos key es)), .bool (recOkB pos key es)]) ∧ Below w.heap.size w w' := by
  have hmf : ∀ (fn : Fn) (first cap : Array Value) (w : World), (Instr.makeFunc fn first cap).run Tryz.prog w = .ok (.func fn first cap) w := fun _ _ _ _ => rfl
  have hbx : ∀ o0 o1 o2 o3, Below w.heap.size w ((((w.alloc o0).alloc o1).alloc o2).alloc o3) := fun o0 o1 o2 o3 => ((((Below.refl _ _).alloc (Nat.le_refl _) o0).alloc (by simp) o1).alloc (by simp; omega) o2).alloc (by simp; omega) o3
  have HREC := hide (fun o0 o1 o2 => rcrecord_any w.heap.size (w.heap.size + 1 + 1 + 1) ((((w.alloc o0).alloc o1).alloc o2).alloc (.cells #[.slice none 0 0, .int .i64 2000] 83)) pos key es P v hP (hv.carry (fun b hb => (hbx _ _ _ _).block b (hP b hb)) (fun _ h => h)) hk (hT.of_block ((hbx _ _ _ _).block _ hT.lt)) hT.lt (Rw.start w o0 o1 o2))
  have HBX := hide hbx
  have HR1 := hide (fun o0 o2 o3 => (show ((((w.alloc o0).alloc (.cells #[.string ByteArray.empty] 9)).alloc o2).alloc o3).rowIs (w.heap.size + 1) 9 1 (fun _ => .string ByteArray.empty) from by
    have := ((row1_alloc (w.alloc o0) (.string ByteArray.empty) 9).alloc o2).alloc o3
    rw [World.size_alloc] at this; exact this))
  have HR2 := hide (fun o0 o1 o3 => (show ((((w.alloc o0).alloc o1).alloc (.cells #[.bool false] 4)).alloc o3).rowIs (w.heap.size + 1 + 1) 4 1 (fun _ => .bool false) from by
    have := (row1_alloc ((w.alloc o0).alloc o1) (.bool false) 4).alloc o3
    rw [World.size_alloc, World.size_alloc] at this; exact this))
  obtain ⟨a, cap, rfl, -, -⟩ := hv
  clear hbx hP hT
  go_enter_defers Tryz.func33, Tryz.ntmps33
  go_wp2_with fail
  refine (unhide HREC _ _ _).mono ?_
  rintro e w1 hpost
  rcases hpost with ⟨hok, rfl, hsp, a1, n1, cap1, hst⟩ | ⟨hok, rfl, hsp⟩
  · have q1 := hsp.box (unhide HR1 _ _ _) (by omega) (by decide)
    have q2 := hsp.box (unhide HR2 _ _ _) (by omega) (by decide)
    have r1 := q1.cell (i := 0) (by omega); have r2 := q2.cell (i := 0) (by omega)
    have z1 := q1.frozen 0; have z2 := q2.frozen 0
    have k0 := hst.cells.cell (i := 0) (by omega)
    simp only [rowO] at k0
    have hcv := hst.row.strA
    have HOK := hide hok; have HB := hide ((unhide HBX _ _ _ _).trans (hsp.below (by omega) (unhide HBX _ _ _ _).size))
    have HS := hide (And.intro q1.lt q2.lt)
    clear hok hsp q1 q2 hst HREC HBX HR1 HR2
    go_wp2_with fail
    refine leaves_cons (f := 49) (args := #[.pointer (some ⟨w.heap.size + 1, 0, none⟩), .pointer (some ⟨w.heap.size + 1 + 1, 0, none⟩)]) (by simp) (by simp [go_sem]) ?_
    refine (packed_returning ⟨w.heap.size + 1, 0, none⟩ ⟨w.heap.size + 1 + 1, 0, none⟩ _).mono ?_
    rintro e u' w'' ⟨rfl, rfl, rfl⟩
    obtain ⟨hlt1, hlt⟩ := unhide HS
    simp [Leaves, settle, results, Tryz.results33, go_sem, r1, r2, hlt, hlt1]
    refine ⟨⟨by unfold recPackB; rw [if_pos (unhide HOK)], unhide HOK⟩, ?_⟩
    exact (((unhide HB).setCell (by simp) _).setCell (by simp; omega) _).alloc (by have := (unhide HB).size; simp; omega) _
  · have q1 := hsp.box (unhide HR1 _ _ _) (by omega) (by decide)
    have q2 := hsp.box (unhide HR2 _ _ _) (by omega) (by decide)
    have r1 := q1.cell (i := 0) (by omega); have r2 := q2.cell (i := 0) (by omega)
    have z1 := q1.frozen 0; have z2 := q2.frozen 0
    have HOK := hide hok; have HB := hide ((unhide HBX _ _ _ _).trans (hsp.below (by omega) (unhide HBX _ _ _ _).size))
    have HS := hide (And.intro q1.lt q2.lt)
    clear hok hsp q1 q2 HREC HBX HR1 HR2
    go_wp2_with fail
    refine leaves_cons (f := 49) (args := #[.pointer (some ⟨w.heap.size + 1, 0, none⟩), .pointer (some ⟨w.heap.size + 1 + 1, 0, none⟩)]) (by simp) (by simp [go_sem]) ?_
    refine (packed_panicking ⟨w.heap.size + 1, 0, none⟩ ⟨w.heap.size + 1 + 1, 0, none⟩ _ _ [] _ r1 z1 r2 z2 (unhide HS).1 (unhide HS).2 (by simp)).mono ?_
    rintro e u' w'' ⟨rfl, rfl, rfl⟩
    obtain ⟨hlt1, hlt⟩ := unhide HS
    simp [Leaves, settle, results, Tryz.results33, go_sem, r1, r2, hlt, hlt1]
    refine ⟨⟨by (unfold recPackB; rw [if_neg (by rw [unhide HOK]; decide)]; rfl), unhide HOK⟩, ?_⟩
    exact (((unhide HB).setCell (by simp) _).setCell (by simp; omega) _).alloc (by have := (unhide HB).size; simp; omega) _

set_option maxRecDepth 100000 in
set_option maxHeartbeats 1600000 in
theorem implRecPack_any (pos : Int) (key : ByteArray) (es : List Ev) (P : Nat → Prop) (v : Value) (w : World) (hP : ∀ b, P b → b < w.heap.size) (hv : EvsAt P w v es) (hk : key.size ≤ 9223372036854775807) (hT : Tab w) :
    Calls Tryz.prog 17 #[.agg #[.int .i64 pos, .string key, v]] w fun e w' => e = .returned (.string (bA (recPackB pos key es))) ∧ Below w.heap.size w w' := by
  have hbx : ∀ o, Below w.heap.size w (w.alloc o) := fun o => (Below.refl _ _).alloc (Nat.le_refl _) o
  have HC := hide (fun o => packedRecord_any pos key es P v (w.alloc o) (fun b hb => Nat.lt_of_lt_of_le (hP b hb) (hbx o).size) (hv.carry (fun b hb => (hbx o).block b (hP b hb)) (fun _ h => h)) hk (hT.of_block ((hbx o).block _ hT.lt)))
  have HBX := hide hbx
  obtain ⟨a, cap, rfl, -, -⟩ := hv
  clear hbx hP hT
  go_enter Tryz.func17, Tryz.ntmps17
  go_wp2_with fail
  refine (unhide HC _).mono ?_
  rintro e w1 ⟨rfl, hb1⟩
  have HB := hide ((unhide HBX _).trans (hb1.mono (unhide HBX _).size))
  clear hb1 HC
  go_wp2_with fail
  go_ret
  exact ⟨rfl, unhide HB⟩
end Go.Proofs.YtiflfcjocngiiaaGreatDoor
