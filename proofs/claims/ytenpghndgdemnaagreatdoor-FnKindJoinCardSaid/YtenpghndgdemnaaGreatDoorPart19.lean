/- The walk of the program's ofFields at the table of widenings. Conditions: the pairs that it asks for are taken by their contracts (a hypothesis); at most 1000 names in each form. -/
import Derived.Test.YtenpghndgdemnaaGreatDoorPart18
namespace Go.Proofs.YtenpghndgdemnaaGreatDoor
open Go Go.RowKit

theorem append_fnP (W : World) {ops : Array Oper} {rest : List Oper} {o : Oper} {a : Act} {Q : Exit → Act → World → Prop} (hg : o.guard = none) (s x : Operand) (hop : o.op = Op.call { callee := Callee.builtin Builtin.append, args := #[s, x], argTypes := #[124, 124] })
    (N : Nat) (fa : Option Addr) (k fc : Nat) (fvs : List Value) (hs : a.eval s = .slice fa k fc) (hown : W.ownsRow N 57 1 (.slice fa k fc) k fvs) (b : Nat) (fv : Value) (hx : a.eval x = .slice (some ⟨b, 0, none⟩) 1 1) (hc : W.cell? ⟨b, 0, none⟩ = some fv) (h1 : fv.oneCell' = true) (hk : k ≤ 2000) (hN : N ≤ W.heap.size)
    (hK : ∀ fa' fc' W', Hid (W'.ownsRow N 57 1 (.slice fa' (k + 1) fc') (k + 1) (fvs ++ [fv])) → Hid (W.grownBy W' (Value.slice fa k fc).ownBlock) → Hid ((Value.slice fa' (k + 1) fc').ownBlock = (Value.slice fa k fc).ownBlock ∨ ∃ g, (Value.slice fa' (k + 1) fc').ownBlock = some g ∧ W.heap.size ≤ g) → wpList Tryz.prog ops Q rest (a.put o.dst (.slice fa' (k + 1) fc')) W') :
    wpList Tryz.prog ops Q (o :: rest) a W := by
  obtain ⟨i, h2, h3, h4, h5⟩ := infoWV
  refine append_row W hg s x 124 hop N 57 i .nilFunc 1 8 Tryz.underlying124 h2 h3 h4 h5 rfl (by decide) (.slice fa k fc) k fvs hs hown ⟨b, 0, none⟩ 1 1 [fv] hx rfl (fun j u hj => ?_) (fun u hu => ?_) (by decide) (by unfold maxLen; omega) (by omega) hN (fun v' w' r1 r2 r3 => ?_)
  · match j, hj with
    | 0, hj =>
      simp at hj
      subst hj
      exact hc
  · rw [List.mem_singleton.1 hu]; exact h1
  · obtain ⟨fa', fc', rfl⟩ := own_formU r1
    exact hK fa' fc' w' r1 r2 r3
theorem FlS.cellsP {A B : Kd} {a1 a2 b1 b2 : Option Addr} {p1 p2 q1 q2 : Nat} {U : List ByteArray} {N : Nat} {na : Option Addr} {nc : Nat} {G : ByteArray → (Nat → Prop) → World → Value → Prop} {w W : World} {fa : Option Addr} {k fc : Nat} {fvs : List Value} (h : FlS ⟨.int .i64 A.sort, .slice a1 A.names.length p1, .slice a2 A.kids.length p2⟩ ⟨.int .i64 B.sort, .slice b1 B.names.length q1, .slice b2 B.kids.length q2⟩ U N na nc G w W fa k fc fvs) : W.cell? ⟨w.heap.size, 0, none⟩ = some (.int .i64 A.sort) ∧ W.cell? ⟨w.heap.size, 1, none⟩ = some (.slice a1 A.names.length p1) ∧ W.cell? ⟨w.heap.size, 2, none⟩ = some (.slice a2 A.kids.length p2) ∧ W.cell? ⟨w.heap.size + 1, 0, none⟩ = some (.int .i64 B.sort) ∧ W.cell? ⟨w.heap.size + 1, 1, none⟩ = some (.slice b1 B.names.length q1) ∧ W.cell? ⟨w.heap.size + 1, 2, none⟩ = some (.slice b2 B.kids.length q2) :=
  ⟨h.bx.cell (i := 0) (by omega), h.bx.cell (i := 1) (by omega), h.bx.cell (i := 2) (by omega), h.by'.cell (i := 0) (by omega), h.by'.cell (i := 1) (by omega), h.by'.cell (i := 2) (by omega)⟩
theorem PR.yes {g : Bool} {G : (Nat → Prop) → World → Value → Prop} {P : Nat → Prop} {W : World} {fv er : Value} (hg : g = true) (h : PR g G P W fv er) : er = .nilIface ∧ (∃ f b c, fv = .func f b c) ∧ G P W fv := by
  rcases h with ⟨-, h⟩ | ⟨h, -⟩
  · exact h
  · rw [hg] at h; cases h
theorem PR.no {g : Bool} {G : (Nat → Prop) → World → Value → Prop} {P : Nat → Prop} {W : World} {fv er : Value} (hg : g = false) (h : PR g G P W fv er) : ∃ (x y : Int) (p : ByteArray), er = .iface 91 (.agg #[.int .i64 x, .int .i64 y, .string p]) := by
  rcases h with ⟨h, -⟩ | ⟨-, -, h⟩
  · rw [hg] at h; cases h
  · exact h
theorem wrkU {k : Nat} (h : k ≤ 2000) : wrap64 ((k : Int) + 1) = (k : Int) + 1 := by unfold wrap64; omega
theorem szU1 {p : ByteArray} (h : p.size ≤ 1000000) : p.size + (⟨#[123]⟩ : ByteArray).size ≤ 9223372036854775807 := by
  have z1 : (⟨#[123]⟩ : ByteArray).size = 1 := rfl
  omega
theorem szU2 {p nm : ByteArray} (h : p.size ≤ 1000000) (h2 : nm.size ≤ 1000) : (p ++ (⟨#[123]⟩ : ByteArray)).size + nm.size ≤ 9223372036854775807 := by
  have z1 : (⟨#[123]⟩ : ByteArray).size = 1 := rfl
  rw [ByteArray.size_append]; omega
theorem szU3 {p nm : ByteArray} (h : p.size ≤ 1000000) (h2 : nm.size ≤ 1000) : (p ++ (⟨#[123]⟩ : ByteArray) ++ nm).size + (⟨#[58]⟩ : ByteArray).size ≤ 9223372036854775807 := by
  have z1 : (⟨#[123]⟩ : ByteArray).size = 1 := rfl
  have z2 : (⟨#[58]⟩ : ByteArray).size = 1 := rfl
  rw [ByteArray.size_append, ByteArray.size_append]; omega
theorem FlS.apartU {c d : C3} {U : List ByteArray} {N : Nat} {na : Option Addr} {nc : Nat} {G : ByteArray → (Nat → Prop) → World → Value → Prop} {w V2 V3 : World} {fa : Option Addr} {k fc : Nat} {fvs : List Value} {ob : Obj} (h : FlS c d U N na nc G w V2 fa k fc fvs) {b : Nat} (hb : New V2 V3 b) : N ≤ b ∧ b < (V3.alloc ob).heap.size ∧ (Value.slice fa k fc).ownBlock ≠ some b := by
  refine ⟨Nat.le_trans h.n1 hb.1, ?_, fun e => ?_⟩
  · have := hb.2
    rw [World.size_alloc]
    omega
  · have h1 := (h.own.lt b e).2
    have h2 := hb.1
    omega
theorem numU (k : Nat) : Value.int .i64 ((k : Int) + 1) = .int .i64 ((k + 1 : Nat) : Int) := rfl
theorem measU {k n : Nat} (h : k < n) : n - (intOf (.int .i64 ((k : Int) + 1))).toNat < n - (intOf (.int .i64 (k : Int))).toNat := by
  simp [intOf]; omega
/-- What ofFields gives. -/
def FdE (c d : C3) (U : List ByteArray) (g : ByteArray → Bool) (G : ByteArray → (Nat → Prop) → World → Value → Prop) (w w' : World) (e : Ending) : Prop :=
  (U.all g = true ∧ ∃ na nc fa fc fvs N, e = .returned (.tuple #[.slice na U.length nc, .slice fa U.length fc, .nilIface]) ∧ FlS c d U N na nc G w w' fa U.length fc fvs) ∨
  (U.all g = false ∧ ∃ (x y : Int) (p : ByteArray), e = .returned (.tuple #[.slice none 0 0, .slice none 0 0, .iface 91 (.agg #[.int .i64 x, .int .i64 y, .string p])]))
theorem all_takeU {U : List ByteArray} {g : ByteArray → Bool} {k : Nat} (hk : k < U.length) (h : (U.take k).all g = true) (hg : g U[k] = true) : (U.take (k + 1)).all g = true := by
  rw [List.take_succ_eq_append_getElem hk, List.all_append, h]
  simp [hg]
theorem all_no {U : List ByteArray} {g : ByteArray → Bool} {k : Nat} (hk : k < U.length) (hg : g U[k] = false) : U.all g = false := by
  rw [Bool.eq_false_iff]
  intro h
  rw [List.all_eq_true] at h
  rw [h _ (List.getElem_mem hk)] at hg
  cases hg
theorem neNilE (w : World) : (binOp .neq 87 .nilIface .nilIface).run Tryz.prog w = .ok (.bool false) w := by kernel_rfl
theorem neMisE (x y : Int) (p : ByteArray) (w : World) : (binOp .neq 87 (.iface 91 (.agg #[.int .i64 x, .int .i64 y, .string p])) .nilIface).run Tryz.prog w = .ok (.bool true) w := by kernel_rfl
set_option maxRecDepth 100000 in
set_option maxHeartbeats 6400000 in
theorem ofFields_walk (A B : Kd) (T : Nat) (a1 a2 b1 b2 : Option Addr) (p1 p2 q1 q2 : Nat) (path : ByteArray) (w : World) (g : ByteArray → Bool) (G : ByteArray → (Nat → Prop) → World → Value → Prop)
    (hG : ∀ nm P Q W W' fv, G nm P W fv → (∀ b, P b → Q b) → (∀ b, P b → W'.heap[b]? = W.heap[b]?) → G nm Q W' fv)
    (hA : KW w A ⟨.int .i64 A.sort, .slice a1 A.names.length p1, .slice a2 A.kids.length p2⟩) (hB : KW w B ⟨.int .i64 B.sort, .slice b1 B.names.length q1, .slice b2 B.kids.length q2⟩) (hsA : A.sort = 5) (hsB : B.sort = 5) (hlA : A.names.length ≤ 1000) (hlB : B.names.length ≤ 1000) (hps : path.size ≤ 1000000) (hnz : ∀ nm, nm ∈ uniN A.names B.names → nm.size ≤ 1000)
    (hcall : ∀ nm, nm ∈ uniN A.names B.names → ∀ W (x y : C3), Below w.heap.size w W → KZ W (kidZ A nm) x → KZ W (kidZ B nm) y → Calls Tryz.prog 66 #[.pointer (some ⟨T, 0, none⟩), .agg #[x.c0, x.c1, x.c2], .agg #[y.c0, y.c1, y.c2], .string (path ++ ⟨#[123]⟩ ++ nm ++ ⟨#[58]⟩)] W fun e w' => Below W.heap.size W w' ∧ ∃ fv er, e = .returned (.tuple #[fv, er]) ∧ PR (g nm) (G nm) (New W w') w' fv er) :
    Calls Tryz.prog 87 #[.pointer (some ⟨T, 0, none⟩), .agg #[.int .i64 A.sort, .slice a1 A.names.length p1, .slice a2 A.kids.length p2], .agg #[.int .i64 B.sort, .slice b1 B.names.length q1, .slice b2 B.kids.length q2], .string path] w fun e w' => Below w.heap.size w w' ∧ FdE ⟨.int .i64 A.sort, .slice a1 A.names.length p1, .slice a2 A.kids.length p2⟩ ⟨.int .i64 B.sort, .slice b1 B.names.length q1, .slice b2 B.kids.length q2⟩ (uniN A.names B.names) g G w w' e := by
  obtain ⟨hrx, hry, hbw⟩ := pr_boxes w A.sort B.sort a1 a2 b1 b2 A.names.length A.kids.length p1 p2 B.names.length B.kids.length q1 q2
  have hsz : ((w.alloc (.cells #[.int .i64 A.sort, .slice a1 A.names.length p1, .slice a2 A.kids.length p2] 26)).alloc (.cells #[.int .i64 B.sort, .slice b1 B.names.length q1, .slice b2 B.kids.length q2] 26)).heap.size = w.heap.size + 2 := by simp
  have hKA : ∀ W nm, Below w.heap.size w W → Calls Tryz.prog 94 #[.agg #[.int .i64 A.sort, .slice a1 A.names.length p1, .slice a2 A.kids.length p2], .string nm] W fun e w' => Below W.heap.size W w' ∧ ∃ (y : C3), e = .returned (.agg #[y.c0, y.c1, y.c2]) ∧ KZ w' (kidZ A nm) y := fun W nm hW => kidNamed_any A _ W (hA.on hW) hsA hlA nm
  have hKB : ∀ W nm, Below w.heap.size w W → Calls Tryz.prog 94 #[.agg #[.int .i64 B.sort, .slice b1 B.names.length q1, .slice b2 B.kids.length q2], .string nm] W fun e w' => Below W.heap.size W w' ∧ ∃ (y : C3), e = .returned (.agg #[y.c0, y.c1, y.c2]) ∧ KZ w' (kidZ B nm) y := fun W nm hW => kidNamed_any B _ W (hB.on hW) hsB hlB nm
  have x1 := hrx.cell (i := 1) (by omega)
  have y1 := hry.cell (i := 1) (by omega)
  simp only [row3] at x1 y1
  obtain ⟨-, -, hstA, -⟩ := (hA.on hbw).rep.open
  obtain ⟨-, -, hstB, -⟩ := (hB.on hbw).rep.open
  have hnb := namesOfBoth_any A.names B.names a1 b1 A.names.length B.names.length p1 q1 _ hstA hstB hlA hlB
  have hUl : (uniN A.names B.names).length ≤ 2000 := by have := uniN_len A.names B.names; have := uniL_len A.names B.names; omega
  generalize uniN A.names B.names = U at *
  have HNB := hide hnb; have HKA := hide hKA; have HKB := hide hKB; have HC := hide hcall; have HG := hide hG; have HRX := hide hrx; have HRY := hide hry; have HBW := hide hbw; have HSZ := hide hsz; have HPS := hide hps; have HNZ := hide hnz; have HUL := hide hUl
  clear hnb hKA hKB hcall hG hrx hry hbw hsz hps hnz hUl hstA hstB hA hB hsA hsB hlA hlB
  go_enter Tryz.func87, Tryz.ntmps87
  go_wp2_with fail
  generalize ((w.alloc (.cells #[.int .i64 A.sort, .slice a1 A.names.length p1, .slice a2 A.kids.length p2] 26)).alloc (.cells #[.int .i64 B.sort, .slice b1 B.names.length q1, .slice b2 B.kids.length q2] 26)) = W0 at x1 y1 HNB HRX HRY HBW HSZ ⊢
  refine (unhide HNB).mono ?_
  rintro e W1 ⟨hb1, na, nc, rfl, hst⟩
  have HF0 : Hid (FlS ⟨.int .i64 A.sort, .slice a1 A.names.length p1, .slice a2 A.kids.length p2⟩ ⟨.int .i64 B.sort, .slice b1 B.names.length q1, .slice b2 B.kids.length q2⟩ U W1.heap.size na nc G w W1 none 0 0 []) :=
    ⟨(unhide HBW).trans (hb1.mono (unhide HBW).size), by have := hb1.size; rw [unhide HSZ] at this; exact this, Nat.le_refl _, (unhide HRX).of_block (hb1.block _ (unhide HRX).lt), (unhide HRY).of_block (hb1.block _ (unhide HRY).lt), hst.carry (fun _ _ => rfl) (fun b hb => ⟨by have := hb.1; rw [unhide HSZ] at this; exact this, hb.2⟩), World.ownsRow_nil _ _ _ _, Nat.zero_le _, fun i hi _ => by simp at hi⟩
  generalize W1.heap.size = N at HF0
  clear hb1 hst HNB HRX HRY HBW HSZ x1 y1
  go_wp2_with fail
  go_loopw [12, 24] (fun vf vi wr => ∃ (k : Nat) (fa : Option Addr) (fc : Nat) (fvs : List Value), k ≤ U.length ∧ vi = .int .i64 k ∧ vf = .slice fa k fc ∧ Hid ((U.take k).all g = true) ∧ Hid (FlS ⟨.int .i64 A.sort, .slice a1 A.names.length p1, .slice a2 A.kids.length p2⟩ ⟨.int .i64 B.sort, .slice b1 B.names.length q1, .slice b2 B.kids.length q2⟩ U N na nc G w wr fa k fc fvs)) (fun _ vi _ => U.length - (intOf vi).toNat)
  case atStart => exact ⟨0, none, 0, [], Nat.zero_le _, rfl, rfl, rfl, HF0⟩
  case round =>
    obtain ⟨k, fa, fc, fvs, hk, rfl, rfl, HTK, HF⟩ := hrel
    by_cases hlt : k < U.length
    · obtain ⟨na', nc', e9, -, hcs⟩ := (unhide HF).st
      simp only [Value.slice.injEq, true_and] at e9
      obtain ⟨rfl, rfl⟩ := e9
      obtain ⟨nb, no, rfl, hnbl, hcn, -⟩ := hcs k hlt
      have hnm : U[k] ∈ U := List.getElem_mem hlt
      have hcall := unhide HC _ hnm
      have hz := unhide HNZ _ hnm
      have HPG : Hid (∀ W W' fv, G U[k] (New W W') W' fv → G U[k] (New W W') W' fv) := fun _ _ _ h => h
      have HNMK := hide (show U[k] = U[k] from rfl)
      have hS := (unhide HF).cellsP
      have HNT := hide (show ∀ g0, g U[k] = g0 → (g0 = true → (U.take (k + 1)).all g = true) ∧ (g0 = false → U.all g = false) from fun g0 h => ⟨fun h1 => all_takeU hlt (unhide HTK) (h.trans h1), fun h1 => all_no hlt (h.trans h1)⟩)
      have HADD := hide (fun W (h : FlS ⟨.int .i64 A.sort, .slice a1 A.names.length p1, .slice a2 A.kids.length p2⟩ ⟨.int .i64 B.sort, .slice b1 B.names.length q1, .slice b2 B.kids.length q2⟩ U N (some ⟨nb, no, none⟩) nc G w W fa k fc fvs) fv P (hfv : G U[k] P W fv ∧ ∃ f b c, fv = .func f b c) hP W' fa' fc' ho hg hn => h.add (unhide HG) hlt hfv hP (W' := W') (fa' := fa') (fc' := fc') ho hg hn)
      generalize hnmU : U[k] = nm at *
      have HC2 := hide hcall
      obtain ⟨x0, x1, x2, y0, y1, y2⟩ := hS
      have hA1 : ∀ T, binOp .add T (.string path) (.string ⟨#[123]⟩) = pure (.string (path ++ ⟨#[123]⟩)) := fun T => addP T _ _ (szU1 (unhide HPS))
      have hA2 : ∀ T, binOp .add T (.string (path ++ ⟨#[123]⟩)) (.string nm) = pure (.string (path ++ ⟨#[123]⟩ ++ nm)) := fun T => addP T _ _ (szU2 (unhide HPS) hz)
      have hA3 : ∀ T, binOp .add T (.string (path ++ ⟨#[123]⟩ ++ nm)) (.string ⟨#[58]⟩) = pure (.string (path ++ ⟨#[123]⟩ ++ nm ++ ⟨#[58]⟩)) := fun T => addP T _ _ (szU3 (unhide HPS) hz)
      have HHZ := hide hz
      clear hnmU hcall hz hcs hnbl hnm HPG HNMK HTK
      cases hgv : g nm with
      | true =>
        have HGV := hide hgv
        have HNT2 := hide ((unhide HNT _ hgv).1 rfl)
        clear hgv HNT
        go_wp2_with fail
        go_region_held3 (fun W => W.cell? ⟨w.heap.size, 0, none⟩ = some (.int .i64 A.sort) ∧ W.cell? ⟨w.heap.size, 1, none⟩ = some (.slice a1 A.names.length p1) ∧ W.cell? ⟨w.heap.size, 2, none⟩ = some (.slice a2 A.kids.length p2) ∧ W.cell? ⟨w.heap.size + 1, 0, none⟩ = some (.int .i64 B.sort) ∧ W.cell? ⟨w.heap.size + 1, 1, none⟩ = some (.slice b1 B.names.length q1) ∧ W.cell? ⟨w.heap.size + 1, 2, none⟩ = some (.slice b2 B.kids.length q2)) (first | exact ⟨x0, x1, x2, y0, y1, y2⟩ | exact HS3 | exact HS2 | exact HS1 | go_keep)
          (first
            | (go_at_call 94
               first
               | (refine (unhide HKB V1 nm (unhide HF1).bel).mono ?_
                  rintro e V2 ⟨hb2, ⟨d0, d1, d2⟩, rfl, hd⟩
                  have HF2 := hide ((unhide HF1).on (unhide HG) hb2)
                  have HS2 := (unhide HF2).cellsP
                  have HKX := hide ((unhide HK1).on hb2)
                  have HKY := hide hd
                  clear hb2 hd)
               | (refine (unhide HKA wr.drew nm ((unhide HF).on (unhide HG) (Below.refl _ wr).drew).bel).mono ?_
                  rintro e V1 ⟨hb1, ⟨c0, c1, c2⟩, rfl, hc⟩
                  have HF1 := hide (((unhide HF).on (unhide HG) (Below.refl _ wr).drew).on (unhide HG) hb1)
                  have HS1 := (unhide HF1).cellsP
                  have HK1 := hide hc
                  clear hb1 hc))
            | (go_at_call 66
               refine (unhide HC2 V2 ⟨c0, c1, c2⟩ ⟨d0, d1, d2⟩ (unhide HF2).bel (unhide HKX) (unhide HKY)).mono ?_
               rintro e V3 ⟨hb3, fv, er, rfl, hpr⟩
               obtain ⟨rfl, ⟨fn, bs, cs, rfl⟩, hgv⟩ := PR.yes (unhide HGV) hpr
               have HF3 := hide ((unhide HF2).on (unhide HG) hb3)
               have HS3 := (unhide HF3).cellsP
               have HGF := hide hgv
               have HB3 := hide hb3
               clear hb3 hpr hgv))
        all_goals
          have HFA := hide ((unhide HF3).on (unhide HG) ((Below.refl _ _).alloc (Nat.le_refl _) (.cells #[.func fn bs cs] 57)))
          have HPW : Hid (G nm (New V2 V3) (V3.alloc (.cells #[.func fn bs cs] 57)) (.func fn bs cs)) := unhide HG _ _ _ _ _ _ (unhide HGF) (fun _ h => h) (fun b hb => Below.heap_alloc _ _ _ hb.2)
          have HPN : Hid (∀ b, New V2 V3 b → N ≤ b ∧ b < (V3.alloc (.cells #[.func fn bs cs] 57)).heap.size ∧ (Value.slice fa k fc).ownBlock ≠ some b) := fun b hb => (unhide HF2).apartU hb
          have ne1 := neNilE
          have ke := wrkU (Nat.le_trans hk (unhide HUL))
          clear HS1 HS2 HS3 HC2 HK1 HKX HKY HF1 HF2 HF3 HGF HB3 x0 x1 x2 y0 y1 y2 hA1 hA2 hA3 hcn
          go_wp2_with (at_builtin; refine append_fnP _ rfl _ _ rfl N fa k fc fvs rfl (unhide HFA).own V3.heap.size (.func fn bs cs) rfl (by simp) rfl (Nat.le_trans hk (unhide HUL)) (unhide HFA).n1 ?_; intro fa2 fc2 W5 ho5 hg5 hn5)
          have HF5 := hide (unhide HADD _ (unhide HFA) _ _ ⟨unhide HPW, fn, bs, cs, rfl⟩ (unhide HPN) W5 fa2 fc2 (unhide ho5) (unhide hg5) (unhide hn5))
          clear ho5 hg5 hn5 HFA HPW HPN HADD
          go_wp2_with fail
          go_roundw
          case rel => exact ⟨k + 1, fa2, fc2, _, hlt, (by rw [ke]; exact numU k), rfl, HNT2, HF5⟩
          case measure => rw [ke]; exact measU hlt
      | false =>
        have HGV := hide hgv
        have HNT2 := hide ((unhide HNT _ hgv).2 rfl)
        clear hgv HNT HADD
        go_wp2_with fail
        go_region_held3 (fun W => W.cell? ⟨w.heap.size, 0, none⟩ = some (.int .i64 A.sort) ∧ W.cell? ⟨w.heap.size, 1, none⟩ = some (.slice a1 A.names.length p1) ∧ W.cell? ⟨w.heap.size, 2, none⟩ = some (.slice a2 A.kids.length p2) ∧ W.cell? ⟨w.heap.size + 1, 0, none⟩ = some (.int .i64 B.sort) ∧ W.cell? ⟨w.heap.size + 1, 1, none⟩ = some (.slice b1 B.names.length q1) ∧ W.cell? ⟨w.heap.size + 1, 2, none⟩ = some (.slice b2 B.kids.length q2)) (first | exact ⟨x0, x1, x2, y0, y1, y2⟩ | exact HS3 | exact HS2 | exact HS1 | go_keep)
          (first
            | (go_at_call 94
               first
               | (refine (unhide HKB V1 nm (unhide HF1).bel).mono ?_
                  rintro e V2 ⟨hb2, ⟨d0, d1, d2⟩, rfl, hd⟩
                  have HF2 := hide ((unhide HF1).on (unhide HG) hb2)
                  have HS2 := (unhide HF2).cellsP
                  have HKX := hide ((unhide HK1).on hb2)
                  have HKY := hide hd
                  clear hb2 hd)
               | (refine (unhide HKA wr.drew nm ((unhide HF).on (unhide HG) (Below.refl _ wr).drew).bel).mono ?_
                  rintro e V1 ⟨hb1, ⟨c0, c1, c2⟩, rfl, hc⟩
                  have HF1 := hide (((unhide HF).on (unhide HG) (Below.refl _ wr).drew).on (unhide HG) hb1)
                  have HS1 := (unhide HF1).cellsP
                  have HK1 := hide hc
                  clear hb1 hc))
            | (go_at_call 66
               refine (unhide HC2 V2 ⟨c0, c1, c2⟩ ⟨d0, d1, d2⟩ (unhide HF2).bel (unhide HKX) (unhide HKY)).mono ?_
               rintro e V3 ⟨hb3, fv, er, rfl, hpr⟩
               obtain ⟨xx, yy, pp, rfl⟩ := PR.no (unhide HGV) hpr
               have HF3 := hide ((unhide HF2).on (unhide HG) hb3)
               have HS3 := (unhide HF3).cellsP
               clear hb3 hpr))
        all_goals
          have ne1 := neMisE
          have HBE := hide (unhide HF3).bel
          clear HS1 HS2 HS3 HC2 HK1 HKX HKY HF1 HF2 HF3 x0 x1 x2 y0 y1 y2 hA1 hA2 hA3 hcn
          go_wp2_with fail
          refine bodyPost_ret (v := .tuple #[.slice none 0 0, .slice none 0 0, .iface 91 (.agg #[.int .i64 xx, .int .i64 yy, .string pp])]) (by simp [results, Tryz.results87, go_sem]) rfl ?_
          exact ⟨unhide HBE, Or.inr ⟨unhide HNT2, xx, yy, pp, rfl⟩⟩
    · have hall : U.all g = true := by
        have := unhide HTK
        rwa [List.take_of_length_le (by omega)] at this
      have hkk : k = U.length := by omega
      subst hkk
      have HALL := hide hall
      clear hall HTK hlt hk
      go_wp2_with fail
      refine bodyPost_ret (v := .tuple #[.slice na U.length nc, .slice fa U.length fc, .nilIface]) (by simp [results, Tryz.results87, go_sem]) rfl ?_
      exact ⟨(unhide HF).bel, Or.inl ⟨unhide HALL, na, nc, fa, fc, fvs, N, rfl, unhide HF⟩⟩
end Go.Proofs.YtenpghndgdemnaaGreatDoor
