/- The walk of the program's ofFields at the table of joins: of two forms what each name that one of them has is joined to, or the first misfit. Conditions: the pairs that it asks for are taken by their contracts (a hypothesis); at most 1000 names in each form. -/
import Derived.Test.YtenpghndgdemnaaGreatDoorPart20
import Derived.Test.YtenpghndgdemnaaGreatDoorPart08
import Derived.Test.YtenpghndgdemnaaGreatDoorPart16
namespace Go.Proofs.YtenpghndgdemnaaGreatDoor
open Go Go.RowKit

/-- The fields while they are gathered: both boxes, the names, the schemas of the first k names. -/
structure FjS (c d : C3) (U : List ByteArray) (N : Nat) (na : Option Addr) (nc : Nat) (oN : ByteArray → Option Kd) (w W : World) (ka : Option Addr) (k kc : Nat) (xs : List Value) (G : List Nat) : Prop where
  bel : Below w.heap.size w W
  n0 : w.heap.size + 2 ≤ N
  n1 : N ≤ W.heap.size
  bx : W.rowIs w.heap.size 26 3 (row3 c.c0 c.c1 c.c2)
  by' : W.rowIs (w.heap.size + 1) 26 3 (row3 d.c0 d.c1 d.c2)
  st : StrsAt (fun b => w.heap.size + 2 ≤ b ∧ b < N) W (.slice na U.length nc) U
  got : GotD N W (.slice ka k kc) ((U.take k).map fun nm => (oN nm).getD kd0) xs G
  kl : k ≤ U.length
section
variable {c d : C3} {U : List ByteArray} {N : Nat} {na : Option Addr} {nc : Nat} {oN : ByteArray → Option Kd} {w W : World} {ka : Option Addr} {k kc : Nat} {xs : List Value} {G : List Nat}
theorem FjS.own (h : FjS c d U N na nc oN w W ka k kc xs G) : W.ownsRow N 26 3 (.slice ka k kc) k xs := by
  have := h.got.row
  have hl : ((U.take k).map fun nm => (oN nm).getD kd0).length = k := by rw [List.length_map, List.length_take]; exact Nat.min_eq_left h.kl
  rwa [hl] at this
theorem FjS.on (h : FjS c d U N na nc oN w W ka k kc xs G) {W' : World} (hb : Below W.heap.size W W') : FjS c d U N na nc oN w W' ka k kc xs G := by
  have h1 := h.n1
  have h0 := h.n0
  exact ⟨h.bel.trans (hb.mono h.bel.size), h.n0, Nat.le_trans h1 hb.size, h.bx.of_block (hb.block _ h.bx.lt), h.by'.of_block (hb.block _ h.by'.lt), h.st.carry (fun b hb' => hb.block b (by have := hb'.2; omega)) (fun _ h => h), h.got.other (row := none) ⟨hb.os, hb.tape, hb.output, hb.size, fun i hi _ => hb.block i hi⟩ (fun b e => by cases e), h.kl⟩
/-- One more field. -/
theorem FjS.add {V0 : World} {x : Kd} {e : C3} {F : List Nat} (h : FjS c d U N na nc oN w W ka k kc xs G) (h0 : FjS c d U N na nc oN w V0 ka k kc xs G) (hk : k < U.length) (hx : oN U[k] = some x) (ho : OwnD W x e F) (hnd : F.Nodup) (hF : ∀ b, b ∈ F → V0.heap.size ≤ b ∧ b < W.heap.size)
    {W' : World} {ka' : Option Addr} {kc' : Nat} (hown : W'.ownsRow N 26 3 (.slice ka' (k + 1) kc') (k + 1) (xs ++ c3l e)) (hg : W.grownBy W' (Value.slice ka k kc).ownBlock) (hn : (Value.slice ka' (k + 1) kc').ownBlock = (Value.slice ka k kc).ownBlock ∨ ∃ g, (Value.slice ka' (k + 1) kc').ownBlock = some g ∧ W.heap.size ≤ g) : FjS c d U N na nc oN w W' ka' (k + 1) kc' (xs ++ c3l e) (G ++ F) := by
  have hs := hg.size
  have h1 := h.n1
  have hn0 := h.n0
  have hown1 : ∀ g, (Value.slice ka k kc).ownBlock = some g → N ≤ g := fun g e => (h.got.row.lt g e).1
  have hlow : ∀ b, b < N → W'.heap[b]? = W.heap[b]? := fun b hb => hg.block b (by omega) (fun e => by have := hown1 b e.symm; omega)
  have hl : ((U.take k).map fun nm => (oN nm).getD kd0).length = k := by rw [List.length_map, List.length_take]; exact Nat.min_eq_left h.kl
  have hp := h.got.push (m := V0.heap.size) ho hnd hF (fun b hb => (h0.got.lt b hb).2.1) (fun b hb => (h0.got.row.lt b hb).2) h0.n1 (by rw [hl]; exact hown) hg hn
  have ht : ((U.take k).map fun nm => (oN nm).getD kd0) ++ [x] = (U.take (k + 1)).map fun nm => (oN nm).getD kd0 := by
    rw [List.take_succ_eq_append_getElem hk, List.map_append, List.map_singleton, hx, Option.getD_some]
  rw [ht] at hp
  exact ⟨h.bel.grown hg h.bel.size (fun g e => by have := hown1 g e; omega), h.n0, by omega, h.bx.of_block (hlow _ (by omega)), h.by'.of_block (hlow _ (by omega)), h.st.carry (fun b hb' => hlow b hb'.2) (fun _ h => h), hp, hk⟩
end
theorem append_kdJ (W : World) {ops : Array Oper} {rest : List Oper} {o : Oper} {a : Act} {Q : Exit → Act → World → Prop} (hg : o.guard = none) (s x : Operand) (hop : o.op = Op.call { callee := Callee.builtin Builtin.append, args := #[s, x], argTypes := #[24, 24] })
    (N : Nat) (ka : Option Addr) (k kc : Nat) (xs : List Value) (hs : a.eval s = .slice ka k kc) (hown : W.ownsRow N 26 3 (.slice ka k kc) k xs) (b : Nat) (d : C3) (hx : a.eval x = .slice (some ⟨b, 0, none⟩) 1 1) (hc : ∀ j u, (c3l d)[j]? = some u → W.cell? ((⟨b, 0, none⟩ : Addr).add j) = some u) (h1 : ∀ u ∈ c3l d, u.oneCell' = true) (hk : k ≤ 2000) (hN : N ≤ W.heap.size)
    (hK : ∀ ka' kc' W', Hid (W'.ownsRow N 26 3 (.slice ka' (k + 1) kc') (k + 1) (xs ++ c3l d)) → Hid (W.grownBy W' (Value.slice ka k kc).ownBlock) → Hid ((Value.slice ka' (k + 1) kc').ownBlock = (Value.slice ka k kc).ownBlock ∨ ∃ g, (Value.slice ka' (k + 1) kc').ownBlock = some g ∧ W.heap.size ≤ g) → wpList Tryz.prog ops Q rest (a.put o.dst (.slice ka' (k + 1) kc')) W') :
    wpList Tryz.prog ops Q (o :: rest) a W := by
  obtain ⟨i, h2, h3, h4, h5⟩ := info_parts infoKindG
  refine append_row W hg s x 24 hop N 26 i (.agg #[.int .i64 0, .slice none 0 0, .slice none 0 0]) 3 56 Tryz.underlying24 h2 h3 h4 h5 rfl (by decide) (.slice ka k kc) k xs hs hown ⟨b, 0, none⟩ 1 1 (c3l d) hx rfl hc h1 (by decide) (by unfold maxLen; omega) (by omega) hN (fun v' w' r1 r2 r3 => ?_)
  obtain ⟨ka', kc', rfl⟩ := own_formU r1
  exact hK ka' kc' w' r1 r2 r3
/-- What ofFields gives. -/
def FjE (c d : C3) (U : List ByteArray) (oN : ByteArray → Option Kd) (w w' : World) (e : Ending) : Prop :=
  (U.all (fun nm => (oN nm).isSome) = true ∧ ∃ na nc ka kc xs G N, e = .returned (.tuple #[.slice na U.length nc, .slice ka U.length kc, .nilIface]) ∧ FjS c d U N na nc oN w w' ka U.length kc xs G) ∨
  (U.all (fun nm => (oN nm).isSome) = false ∧ ∃ (x y : Int) (p : ByteArray), e = .returned (.tuple #[.slice none 0 0, .slice none 0 0, .iface 91 (.agg #[.int .i64 x, .int .i64 y, .string p])]))
theorem FjS.st' {c d : C3} {U : List ByteArray} {N : Nat} {na : Option Addr} {nc : Nat} {oN : ByteArray → Option Kd} {w W : World} {ka : Option Addr} {k kc : Nat} {xs : List Value} {G : List Nat} (h : FjS c d U N na nc oN w W ka k kc xs G) (hlt : k < U.length) : ∃ nb no, na = some ⟨nb, no, none⟩ ∧ W.cell? ⟨nb, no + k, none⟩ = some (.string U[k]) := by
  obtain ⟨na', nc', e9, -, hcs⟩ := h.st
  simp only [Value.slice.injEq, true_and] at e9
  obtain ⟨rfl, rfl⟩ := e9
  obtain ⟨nb, no, rfl, hnbl, hcn, -⟩ := hcs k hlt
  exact ⟨nb, no, rfl, hcn⟩
set_option maxRecDepth 100000 in
set_option maxHeartbeats 6400000 in
theorem ofFieldsJ_walk (A B : Kd) (T : Nat) (a1 a2 b1 b2 : Option Addr) (p1 p2 q1 q2 : Nat) (path : ByteArray) (w : World) (oN : ByteArray → Option Kd)
    (hA : KW w A ⟨.int .i64 A.sort, .slice a1 A.names.length p1, .slice a2 A.kids.length p2⟩) (hB : KW w B ⟨.int .i64 B.sort, .slice b1 B.names.length q1, .slice b2 B.kids.length q2⟩) (hsA : A.sort = 5) (hsB : B.sort = 5) (hlA : A.names.length ≤ 1000) (hlB : B.names.length ≤ 1000) (hps : path.size ≤ 1000000) (hnz : ∀ nm, nm ∈ uniN A.names B.names → nm.size ≤ 1000)
    (hcall : ∀ nm, nm ∈ uniN A.names B.names → ∀ W (x y : C3), Below w.heap.size w W → KZ W (kidZ A nm) x → KZ W (kidZ B nm) y → Calls Tryz.prog 55 #[.pointer (some ⟨T, 0, none⟩), .agg #[x.c0, x.c1, x.c2], .agg #[y.c0, y.c1, y.c2], .string (path ++ ⟨#[123]⟩ ++ nm ++ ⟨#[58]⟩)] W (JE (oN nm) W)) :
    Calls Tryz.prog 73 #[.pointer (some ⟨T, 0, none⟩), .agg #[.int .i64 A.sort, .slice a1 A.names.length p1, .slice a2 A.kids.length p2], .agg #[.int .i64 B.sort, .slice b1 B.names.length q1, .slice b2 B.kids.length q2], .string path] w fun e w' => Below w.heap.size w w' ∧ FjE ⟨.int .i64 A.sort, .slice a1 A.names.length p1, .slice a2 A.kids.length p2⟩ ⟨.int .i64 B.sort, .slice b1 B.names.length q1, .slice b2 B.kids.length q2⟩ (uniN A.names B.names) oN w w' e := by
  obtain ⟨hrx, hry, hbw⟩ := pr_boxes w A.sort B.sort a1 a2 b1 b2 A.names.length A.kids.length p1 p2 B.names.length B.kids.length q1 q2
  have hsz : ((w.alloc (.cells #[.int .i64 A.sort, .slice a1 A.names.length p1, .slice a2 A.kids.length p2] 26)).alloc (.cells #[.int .i64 B.sort, .slice b1 B.names.length q1, .slice b2 B.kids.length q2] 26)).heap.size = w.heap.size + 2 := by simp
  have hKA : ∀ W nm, Below w.heap.size w W → Calls Tryz.prog 94 #[.agg #[.int .i64 A.sort, .slice a1 A.names.length p1, .slice a2 A.kids.length p2], .string nm] W fun e w' => Below W.heap.size W w' ∧ ∃ (y : C3), e = .returned (.agg #[y.c0, y.c1, y.c2]) ∧ KZ w' (kidZ A nm) y := fun W nm hW => kidNamed_any A _ W (hA.on hW) hsA hlA nm
  have hKB : ∀ W nm, Below w.heap.size w W → Calls Tryz.prog 94 #[.agg #[.int .i64 B.sort, .slice b1 B.names.length q1, .slice b2 B.kids.length q2], .string nm] W fun e w' => Below W.heap.size W w' ∧ ∃ (y : C3), e = .returned (.agg #[y.c0, y.c1, y.c2]) ∧ KZ w' (kidZ B nm) y := fun W nm hW => kidNamed_any B _ W (hB.on hW) hsB hlB nm
  have x1 := hrx.cell (i := 1) (by omega)
  have y1 := hry.cell (i := 1) (by omega)
  simp only [row3] at x1 y1
  obtain ⟨-, -, hstA, -⟩ := (hA.on hbw).rep.open
  obtain ⟨-, -, hstB, -⟩ := (hB.on hbw).rep.open
  have hnb := namesOfBoth_any A.names B.names a1 b1 A.names.length B.names.length p1 q1 _ hstA hstB hlA hlB
  have hUl : (uniN A.names B.names).length ≤ 2000 := by have := uniN_len A.names B.names; have := uniL_len A.names B.names; omega
  generalize uniN A.names B.names = U at *
  have HNB := hide hnb; have HKA := hide hKA; have HKB := hide hKB; have HC := hide hcall; have HRX := hide hrx; have HRY := hide hry; have HBW := hide hbw; have HSZ := hide hsz; have HPS := hide hps; have HNZ := hide hnz; have HUL := hide hUl
  clear hnb hKA hKB hcall hrx hry hbw hsz hps hnz hUl hstA hstB hA hB hsA hsB hlA hlB
  go_enter Tryz.func73, Tryz.ntmps73
  go_wp2_with fail
  generalize ((w.alloc (.cells #[.int .i64 A.sort, .slice a1 A.names.length p1, .slice a2 A.kids.length p2] 26)).alloc (.cells #[.int .i64 B.sort, .slice b1 B.names.length q1, .slice b2 B.kids.length q2] 26)) = W0 at x1 y1 HNB HRX HRY HBW HSZ ⊢
  refine (unhide HNB).mono ?_
  rintro e W1 ⟨hb1, na, nc, rfl, hst⟩
  have HF0 : Hid (FjS ⟨.int .i64 A.sort, .slice a1 A.names.length p1, .slice a2 A.kids.length p2⟩ ⟨.int .i64 B.sort, .slice b1 B.names.length q1, .slice b2 B.kids.length q2⟩ U W1.heap.size na nc oN w W1 none 0 0 [] []) :=
    ⟨(unhide HBW).trans (hb1.mono (unhide HBW).size), by have := hb1.size; rw [unhide HSZ] at this; exact this, Nat.le_refl _, (unhide HRX).of_block (hb1.block _ (unhide HRX).lt), (unhide HRY).of_block (hb1.block _ (unhide HRY).lt), hst.carry (fun _ _ => rfl) (fun b hb => ⟨by have := hb.1; rw [unhide HSZ] at this; exact this, hb.2⟩), GotD.start _ _, Nat.zero_le _⟩
  generalize W1.heap.size = N at HF0
  clear hb1 hst HNB HRX HRY HBW HSZ x1 y1
  go_wp2_with fail
  go_loopw [12, 24] (fun vf vi wr => ∃ (k : Nat) (ka : Option Addr) (kc : Nat) (xs : List Value) (G : List Nat), k ≤ U.length ∧ vi = .int .i64 k ∧ vf = .slice ka k kc ∧ Hid ((U.take k).all (fun nm => (oN nm).isSome) = true) ∧ Hid (FjS ⟨.int .i64 A.sort, .slice a1 A.names.length p1, .slice a2 A.kids.length p2⟩ ⟨.int .i64 B.sort, .slice b1 B.names.length q1, .slice b2 B.kids.length q2⟩ U N na nc oN w wr ka k kc xs G)) (fun _ vi _ => U.length - (intOf vi).toNat)
  case atStart => exact ⟨0, none, 0, [], [], Nat.zero_le _, rfl, rfl, rfl, HF0⟩
  case round =>
    obtain ⟨k, ka, kc, xs, G, hk, rfl, rfl, HTK, HF⟩ := hrel
    by_cases hlt : k < U.length
    · obtain ⟨nb, no, rfl, hcn⟩ := (unhide HF).st' hlt
      have hnm : U[k] ∈ U := List.getElem_mem hlt
      have HC2 := hide (unhide HC _ hnm)
      have HHZ := hide (unhide HNZ _ hnm)
      have HNT := hide (show ∀ r : Option Kd, oN U[k] = r → (r.isSome = true → (U.take (k + 1)).all (fun nm => (oN nm).isSome) = true) ∧ (r.isSome = false → U.all (fun nm => (oN nm).isSome) = false) from fun r h => ⟨fun h1 => all_takeU (g := fun nm => (oN nm).isSome) hlt (unhide HTK) (by rw [h]; exact h1), fun h1 => all_no (g := fun nm => (oN nm).isSome) hlt (by rw [h]; exact h1)⟩)
      have HADD := hide (fun (W V0 : World) (x : Kd) (e : C3) (F : List Nat) (h : FjS ⟨.int .i64 A.sort, .slice a1 A.names.length p1, .slice a2 A.kids.length p2⟩ ⟨.int .i64 B.sort, .slice b1 B.names.length q1, .slice b2 B.kids.length q2⟩ U N (some ⟨nb, no, none⟩) nc oN w W ka k kc xs G) (h0 : FjS ⟨.int .i64 A.sort, .slice a1 A.names.length p1, .slice a2 A.kids.length p2⟩ ⟨.int .i64 B.sort, .slice b1 B.names.length q1, .slice b2 B.kids.length q2⟩ U N (some ⟨nb, no, none⟩) nc oN w V0 ka k kc xs G) (hx : oN U[k] = some x) (ho : OwnD W x e F) (hnd : F.Nodup) (hF : ∀ b, b ∈ F → V0.heap.size ≤ b ∧ b < W.heap.size) W' ka' kc' hown hg hn => h.add h0 hlt hx ho hnd hF (W' := W') (ka' := ka') (kc' := kc') hown hg hn)
      generalize hnmU : U[k] = nm at *
      clear hnmU hnm HTK
      go_upto_region 6 with fail
      refine wp_swap (c' := Code.region 6 jrFOps true) (by kernel_rfl) ?_
      refine wp_region_noPanic ?_
      have hfd := (unhide HF).on (Below.refl _ wr).drew
      have hK : ∀ W, Below wr.drew.heap.size wr.drew W → Below w.heap.size w W := fun W hW => hfd.bel.trans (hW.mono hfd.bel.size)
      have hkx : ∀ W, Below wr.drew.heap.size wr.drew W → Calls Tryz.prog 94 #[.agg #[.int .i64 A.sort, .slice a1 A.names.length p1, .slice a2 A.kids.length p2], .string nm] W fun e w' => Below W.heap.size W w' ∧ ∃ (y : C3), e = .returned (.agg #[y.c0, y.c1, y.c2]) ∧ KZ w' (kidZ A nm) y := fun W hW => unhide HKA W nm (hK W hW)
      have hky : ∀ W, Below wr.drew.heap.size wr.drew W → Calls Tryz.prog 94 #[.agg #[.int .i64 B.sort, .slice b1 B.names.length q1, .slice b2 B.kids.length q2], .string nm] W fun e w' => Below W.heap.size W w' ∧ ∃ (y : C3), e = .returned (.agg #[y.c0, y.c1, y.c2]) ∧ KZ w' (kidZ B nm) y := fun W hW => unhide HKB W nm (hK W hW)
      have hkp : ∀ W (x y : C3), Below wr.drew.heap.size wr.drew W → KZ W (kidZ A nm) x → KZ W (kidZ B nm) y → Calls Tryz.prog 55 #[.pointer (some ⟨T, 0, none⟩), .agg #[x.c0, x.c1, x.c2], .agg #[y.c0, y.c1, y.c2], .string (path ++ ⟨#[123]⟩ ++ nm ++ ⟨#[58]⟩)] W fun e w' => Below W.heap.size W w' ∧ ∃ (d : C3) (er : Value), e = .returned (.tuple #[.agg #[d.c0, d.c1, d.c2], er]) ∧ Any3 d ∧ (Any3 d ∧ JV (oN nm) W.heap.size w' d er) := fun W x y hW hx hy => (unhide HC2 W x y (hK W hW) hx hy).mono fun e w' ⟨d, er, h1, h2, h3, h4⟩ => ⟨h4, d, er, h1, h2, h2, h3⟩
      refine jrF T w.heap.size (w.heap.size + 1) path (path ++ ⟨#[123]⟩) (path ++ ⟨#[123]⟩ ++ nm) (path ++ ⟨#[123]⟩ ++ nm ++ ⟨#[58]⟩) nm ⟨.int .i64 A.sort, .slice a1 A.names.length p1, .slice a2 A.kids.length p2⟩ ⟨.int .i64 B.sort, .slice b1 B.names.length q1, .slice b2 B.kids.length q2⟩ (fun W y => KZ W (kidZ A nm) y) (fun W y => KZ W (kidZ B nm) y) (fun W W' y hb h => h.on hb) (fun W W' y hb h => h.on hb) (fun V0 V1 d er => Any3 d ∧ JV (oN nm) V0.heap.size V1 d er) wr _ (fun _ _ _ _ _ h => h) hfd.bx hfd.by' rfl (szU1 (unhide HPS)) rfl (szU2 (unhide HPS) (unhide HHZ)) rfl (szU3 (unhide HPS) (unhide HHZ)) (by intro W hW; with_reducible exact hkx W hW) (by intro W hW; with_reducible exact hky W hW) (by intro W x y hW hx hy; with_reducible exact hkp W x y hW hx hy) (by kernel_rfl) (fun u g er => by kernel_rfl) ?_
      rintro u V0 V1 W d er g hV ⟨⟨s0, d1, d2, k1, r1, k2, r2, rfl⟩, hJ⟩ hW hck hg hgb -
      refine NoPanic.normal ?_
      simp only [List.take_succ_cons, List.take_zero, List.drop_succ_cons, List.drop_zero, List.cons_append, List.nil_append]
      have HFV := hide (hfd.on hV); have HFW := hide (hfd.on hW)
      obtain ⟨g0, g1, g2⟩ : W.cell? ⟨g, 0, none⟩ = some (.int .i64 s0) ∧ W.cell? ⟨g, 1, none⟩ = some (.slice d1 k1 r1) ∧ W.cell? ⟨g, 2, none⟩ = some (.slice d2 k2 r2) := ⟨hg.cell (i := 0) (by omega), hg.cell (i := 1) (by omega), hg.cell (i := 2) (by omega)⟩
      cases hov : oN nm with
      | some x =>
        have HNT2 := hide ((unhide HNT _ hov).1 rfl)
        obtain ⟨F, rfl, HOF⟩ : ∃ F, er = .nilIface ∧ Hid (OwnD W x ⟨.int .i64 s0, .slice d1 k1 r1, .slice d2 k2 r2⟩ F ∧ F.Nodup ∧ ∀ b, b ∈ F → V0.heap.size ≤ b ∧ b < W.heap.size) := by
          rcases hJ.ck hck (Nat.le_refl _) with ⟨x', F, h1, h2, h3, h4, h5⟩ | ⟨h1, -⟩
          · rw [hov] at h1
            obtain rfl := Option.some.inj h1
            exact ⟨F, h2, h3, h4, h5⟩
          · rw [hov] at h1; cases h1
        have HOV := hide hov
        have ne1 := neNilE
        have ke := wrkU (Nat.le_trans hk (unhide HUL))
        have HFA := hide ((unhide HFW).on ((Below.refl _ _).alloc (Nat.le_refl _) (.cells #[.int .i64 s0, .slice d1 k1 r1, .slice d2 k2 r2] 26)))
        clear hov hJ hck hg hgb hV hW hfd hK hkx hky hkp hcn HNT HC2
        go_wp2_with (at_builtin; refine append_kdJ _ rfl _ _ rfl N ka k kc xs rfl (unhide HFA).own W.heap.size ⟨.int .i64 s0, .slice d1 k1 r1, .slice d2 k2 r2⟩ rfl (cell_three W _ _) (unhide HOF).1.one (Nat.le_trans hk (unhide HUL)) (unhide HFA).n1 ?_; intro fa2 fc2 W5 ho5 hg5 hn5)
        have HF5 := hide (unhide HADD _ V0 x ⟨.int .i64 s0, .slice d1 k1 r1, .slice d2 k2 r2⟩ F (unhide HFA) (unhide HFV) (unhide HOV) (OwnD.carry _ _ _ (fun b hb => Below.heap_alloc _ _ _ ((unhide HOF).2.2 b hb).2) (unhide HOF).1) (unhide HOF).2.1 (fun b hb => by rw [World.size_alloc]; have := (unhide HOF).2.2 b hb; omega) W5 fa2 fc2 (unhide ho5) (unhide hg5) (unhide hn5))
        clear ho5 hg5 hn5 HFA HOF HADD HFV HFW g0 g1 g2
        go_wp2_with fail
        go_roundw
        case rel => exact ⟨k + 1, fa2, fc2, _, _, hlt, (by rw [ke]; exact numU k), rfl, HNT2, HF5⟩
        case measure => rw [ke]; exact measU hlt
      | none =>
        have HNT2 := hide ((unhide HNT _ hov).2 rfl)
        obtain ⟨xx, yy, pp, rfl⟩ : MisV er := by
          rcases hJ with ⟨x', F, h1, -⟩ | ⟨-, h2⟩
          · rw [hov] at h1; cases h1
          · exact h2
        have ne1 := neMisE
        have HBE := hide (unhide HFW).bel
        clear hov hJ hck hg hgb hV hW hfd hK hkx hky hkp hcn HNT HC2 HADD HFV HFW
        go_wp2_with fail
        refine bodyPost_ret (v := .tuple #[.slice none 0 0, .slice none 0 0, .iface 91 (.agg #[.int .i64 xx, .int .i64 yy, .string pp])]) (by simp [results, Tryz.results73, go_sem]) rfl ?_
        exact ⟨unhide HBE, Or.inr ⟨unhide HNT2, xx, yy, pp, rfl⟩⟩
    · have hall : U.all (fun nm => (oN nm).isSome) = true := by
        have := unhide HTK
        rwa [List.take_of_length_le (by omega)] at this
      have hkk : k = U.length := by omega
      subst hkk
      have HALL := hide hall
      clear hall HTK hlt hk
      go_wp2_with fail
      refine bodyPost_ret (v := .tuple #[.slice na U.length nc, .slice ka U.length kc, .nilIface]) (by simp [results, Tryz.results73, go_sem]) rfl ?_
      exact ⟨(unhide HF).bel, Or.inl ⟨unhide HALL, na, nc, ka, kc, xs, G, N, rfl, unhide HF⟩⟩
end Go.Proofs.YtenpghndgdemnaaGreatDoor

/- The walk of the program's ofForm at the table of widenings. Conditions: the pairs that it asks for are taken by their contracts (a hypothesis); at most 1000 names in each form. -/

namespace Go.Proofs.YtenpghndgdemnaaGreatDoor
open Go Go.RowKit

end Go.Proofs.YtenpghndgdemnaaGreatDoor

/- The program's ofPair at the table of widenings, whatever the two schemas: a widening if the one fits into the other, else a misfit. Conditions: the schemas are ok (or nothing), of at most 40 parts; the path is not too long. -/

namespace Go.Proofs.YtenpghndgdemnaaGreatDoor
open Go Go.RowKit

theorem KZ.sort {w : World} {k : Kd} {c : C3} (h : KZ w k c) : ∃ s : Nat, k.sort = (s : Int) ∧ s ≤ 6 ∧ (s = 0 ↔ k = kd0) ∧ (s ≠ 0 → KW w k c) := by
  rcases h with h | ⟨rfl, rfl⟩
  · refine ⟨k.sort.toNat, ?_, ?_, ⟨fun h0 => ?_, fun h0 => ?_⟩, fun _ => h⟩
    · rcases h.sh with h | h | h <;> omega
    · rcases h.sh with h | h | h <;> omega
    · rcases h.sh with h | h | h <;> omega
    · have hs : k.sort = 0 := by rw [h0]; rfl
      rcases h.sh with h | h | h <;> omega
  · exact ⟨0, rfl, by omega, ⟨fun _ => rfl, fun _ => rfl⟩, fun h => absurd rfl h⟩
theorem rise_szU {ns : List ByteArray} (h : riseB ns = true) {nm : ByteArray} (hm : nm ∈ ns) : nm.size ≤ 8 := by
  obtain ⟨i, hi, rfl⟩ := List.mem_iff_getElem.1 hm
  unfold riseB at h
  rw [List.all_eq_true] at h
  have hg := h i (List.mem_range.2 hi)
  unfold good at hg
  rw [Bool.and_eq_true, getD_lt _ _ hi] at hg
  have := hg.1
  unfold nameOkB at this
  simp only [Bool.and_eq_true, decide_eq_true_eq] at this
  exact this.1.1.2
theorem szP1 {p : ByteArray} {k m : Nat} (c : UInt8) (h : p.size + (m + 1) * 100 ≤ k) : (p ++ (⟨#[c]⟩ : ByteArray)).size + m * 100 ≤ k := by
  have z1 : (⟨#[c]⟩ : ByteArray).size = 1 := rfl
  rw [ByteArray.size_append]; omega
theorem szP3 {p nm : ByteArray} {k m : Nat} (h : p.size + (m + 1) * 100 ≤ k) (h2 : nm.size ≤ 8) : (p ++ (⟨#[123]⟩ : ByteArray) ++ nm ++ (⟨#[58]⟩ : ByteArray)).size + m * 100 ≤ k := by
  have z1 : (⟨#[123]⟩ : ByteArray).size = 1 := rfl
  have z2 : (⟨#[58]⟩ : ByteArray).size = 1 := rfl
  rw [ByteArray.size_append, ByteArray.size_append, ByteArray.size_append]; omega
theorem kidZ_sz {k : Kd} (hk : ksz k ≤ 40) (nm : ByteArray) : ksz (kidZ k nm) ≤ 40 := by
  unfold kidZ kidN
  split
  · rw [Option.getD_some, List.getD_eq_getElem?_getD]
    cases h : k.kids[plN k.names nm]? with
    | none => rw [Option.getD_none]; decide
    | some x =>
      rw [Option.getD_some]
      have := ksz_kid (List.mem_of_getElem? h)
      omega
  · decide
end Go.Proofs.YtenpghndgdemnaaGreatDoor

/- The program's ofForms at the table of joins, and ofPair whatever the two schemas. Conditions: the schemas are ok (or nothing), of at most 40 parts; the path is not too long. -/

namespace Go.Proofs.YtenpghndgdemnaaGreatDoor
open Go Go.RowKit

noncomputable def jrOOps : Array Oper := fops Tryz.f53 1
theorem jrO_neat : Region.noSelect jrOOps = true ∧ neat jrOOps = true := ⟨by kernel_rfl, by kernel_rfl⟩
set_option maxRecDepth 100000 in
set_option maxHeartbeats 6400000 in
theorem jrO (T A C R : Nat) (path : ByteArray) (c c2 : C3) (E : World → World → Option Addr → Nat → Nat → Option Addr → Nat → Nat → Value → Prop) (W0 : World) {l : List Value} (Q : Exit → Act → World → Prop) (hQ : ∀ c a d v w, Q (.panic c) (Act.put a d v) w → Q (.panic c) a w) (hA : W0.drew.rowIs A 26 3 (row3 c.c0 c.c1 c.c2)) (hC : W0.drew.rowIs C 26 3 (row3 c2.c0 c2.c1 c2.c2))
    (HK : Calls Tryz.prog 73 #[.pointer (some ⟨T, 0, none⟩), .agg #[c.c0, c.c1, c.c2], .agg #[c2.c0, c2.c1, c2.c2], .string path] W0.drew fun e w' => Below W0.drew.heap.size W0.drew w' ∧ ∃ na nl nc ka kl kc er, e = .returned (.tuple #[.slice na nl nc, .slice ka kl kc, er]) ∧ E W0.drew w' na nl nc ka kl kc er)
    (hl : lookL [(0, .pointer (some ⟨T, 0, none⟩)), (3, .string path), (5, .pointer (some ⟨A, 0, none⟩)), (6, .pointer (some ⟨C, 0, none⟩)), (8, .pointer (some ⟨R, 0, none⟩))] l = (29, ([(0, .pointer (some ⟨T, 0, none⟩)), (3, .string path), (5, .pointer (some ⟨A, 0, none⟩)), (6, .pointer (some ⟨C, 0, none⟩)), (8, .pointer (some ⟨R, 0, none⟩))] : List (Nat × Value)).map (·.2)))
    (hend : ∀ (u : Nat → Value) (W : World) (na ka : Option Addr) (nl nc kl kc : Nat) (er : Value), Below W0.drew.heap.size W0.drew W → E W0.drew W na nl nc ka kl kc er → Q .normal ⟨(frL u 29 [(8, .pointer (some ⟨R, 0, none⟩)), (10, .slice na nl nc), (11, .slice ka kl kc), (12, er)]).toArray, []⟩ W) : (Code.region 1 jrOOps true).wp Tryz.prog Q ⟨l.toArray, []⟩ W0 := by
  obtain ⟨v0, rfl⟩ := look_fr hl
  have hq : NtQ jrOOps Q := ⟨jrO_neat, hQ⟩
  refine T_start (S := fun W => Below W0.drew.heap.size W0.drew W) (by kernel_rfl) (Below.refl _ _) ?_
  clear hl hQ
  generalize W0.drew = B at hA hC HK hend ⊢
  refine T_z hq [0, 1, 2, 5] (by kernel_rfl) ?_
  refine T_a hq [3, 4] (fun w' h => .cons (ldRowJ hA h) (.cons (ldRowJ hC h) Lds.nil)) (by kernel_rfl) ?_
  refine T_fr 14 29 [6, 7, 8, 9, 10, 11, 12, 13] [(8, .pointer (some ⟨R, 0, none⟩)), (16, .pointer (some ⟨T, 0, none⟩)), (17, .agg #[c.c0, c.c1, c.c2]), (18, .agg #[c2.c0, c2.c1, c2.c2]), (19, .string path)] (by kernel_rfl) fun u => ?_
  refine T_one 6 (by kernel_rfl) fun _ => ?_
  refine O_go HK (by kernel_rfl) ?_
  rintro e W1 ⟨hb1, na, nl, nc, ka, kl, kc, er, rfl, hE⟩
  refine ⟨_, rfl, hb1, T_z hq [7, 8, 9, 10, 11, 12, 13] (by kernel_rfl) ?_⟩
  exact T_end 29 [(8, .pointer (some ⟨R, 0, none⟩)), (10, .slice na nl nc), (11, .slice ka kl kc), (12, er)] (by kernel_rfl) (by kernel_rfl) fun _ u => hend u W1 na ka nl nc kl kc er hb1 hE
/-- What comes of two forms. -/
def joF (U : List ByteArray) (oN : ByteArray → Option Kd) : Option Kd := if U.all (fun nm => (oN nm).isSome) = true then some (.mk 5 U (U.map fun nm => (oN nm).getD kd0)) else none
def JoE (c d : C3) (U : List ByteArray) (oN : ByteArray → Option Kd) (V0 V1 : World) (na : Option Addr) (nl nc : Nat) (ka : Option Addr) (kl kc : Nat) (er : Value) : Prop :=
  (U.all (fun nm => (oN nm).isSome) = true ∧ nl = U.length ∧ kl = U.length ∧ er = .nilIface ∧ ∃ xs G N, FjS c d U N na nc oN V0 V1 ka U.length kc xs G) ∨ (U.all (fun nm => (oN nm).isSome) = false ∧ na = none ∧ nl = 0 ∧ nc = 0 ∧ ka = none ∧ kl = 0 ∧ kc = 0 ∧ MisV er)
theorem FjE.jo {c d : C3} {U : List ByteArray} {oN : ByteArray → Option Kd} {w w' : World} {e : Ending} (h : FjE c d U oN w w' e) : ∃ na nl nc ka kl kc er, e = .returned (.tuple #[.slice na nl nc, .slice ka kl kc, er]) ∧ JoE c d U oN w w' na nl nc ka kl kc er := by
  rcases h with ⟨h1, na, nc, ka, kc, xs, G, N, rfl, h2⟩ | ⟨h1, x, y, p, rfl⟩
  · exact ⟨na, _, nc, ka, _, kc, _, rfl, Or.inl ⟨h1, rfl, rfl, rfl, xs, G, N, h2⟩⟩
  · exact ⟨none, 0, 0, none, 0, 0, _, rfl, Or.inr ⟨h1, rfl, rfl, rfl, rfl, rfl, rfl, x, y, p, rfl⟩⟩
theorem strs_nil (P : Nat → Prop) (w : World) : StrsAt P w (.slice none 0 0) [] := ⟨none, 0, rfl, by simp, fun i hi => by simp at hi⟩
set_option maxRecDepth 100000 in
set_option maxHeartbeats 6400000 in
theorem ofForms_walk (A B : Kd) (T : Nat) (a1 a2 b1 b2 : Option Addr) (p1 p2 q1 q2 : Nat) (path : ByteArray) (w : World) (oN : ByteArray → Option Kd)
    (hA : KW w A ⟨.int .i64 A.sort, .slice a1 A.names.length p1, .slice a2 A.kids.length p2⟩) (hB : KW w B ⟨.int .i64 B.sort, .slice b1 B.names.length q1, .slice b2 B.kids.length q2⟩) (hsA : A.sort = 5) (hsB : B.sort = 5) (hlA : A.names.length ≤ 1000) (hlB : B.names.length ≤ 1000) (hps : path.size ≤ 1000000) (hnz : ∀ nm, nm ∈ uniN A.names B.names → nm.size ≤ 1000)
    (hcall : ∀ nm, nm ∈ uniN A.names B.names → ∀ W (x y : C3), Below w.heap.size w W → KZ W (kidZ A nm) x → KZ W (kidZ B nm) y → Calls Tryz.prog 55 #[.pointer (some ⟨T, 0, none⟩), .agg #[x.c0, x.c1, x.c2], .agg #[y.c0, y.c1, y.c2], .string (path ++ ⟨#[123]⟩ ++ nm ++ ⟨#[58]⟩)] W (JE (oN nm) W)) :
    Calls Tryz.prog 53 #[.pointer (some ⟨T, 0, none⟩), .agg #[.int .i64 A.sort, .slice a1 A.names.length p1, .slice a2 A.kids.length p2], .agg #[.int .i64 B.sort, .slice b1 B.names.length q1, .slice b2 B.kids.length q2], .string path] w (JE (joF (uniN A.names B.names) oN) w) := by
  have hb3 := B3.start w (.int .i64 A.sort) (.slice a1 A.names.length p1) (.slice a2 A.kids.length p2) (.int .i64 B.sort) (.slice b1 B.names.length q1) (.slice b2 B.kids.length q2)
  have hK : ∀ W, Below w.heap.size w W → Calls Tryz.prog 73 #[.pointer (some ⟨T, 0, none⟩), .agg #[.int .i64 A.sort, .slice a1 A.names.length p1, .slice a2 A.kids.length p2], .agg #[.int .i64 B.sort, .slice b1 B.names.length q1, .slice b2 B.kids.length q2], .string path] W fun e w' => Below W.heap.size W w' ∧ ∃ na nl nc ka kl kc er, e = .returned (.tuple #[.slice na nl nc, .slice ka kl kc, er]) ∧ JoE ⟨.int .i64 A.sort, .slice a1 A.names.length p1, .slice a2 A.kids.length p2⟩ ⟨.int .i64 B.sort, .slice b1 B.names.length q1, .slice b2 B.kids.length q2⟩ (uniN A.names B.names) oN W w' na nl nc ka kl kc er := fun W hW =>
    (ofFieldsJ_walk A B T a1 a2 b1 b2 p1 p2 q1 q2 path W oN (hA.on hW) (hB.on hW) hsA hsB hlA hlB hps hnz (fun nm hm V x y hV hx hy => hcall nm hm V x y (hW.trans (hV.mono hW.size)) hx hy)).mono fun e w' ⟨h1, h2⟩ => ⟨h1, h2.jo⟩
  have hUl : (uniN A.names B.names).length ≤ 2000 := by have := uniN_len A.names B.names; have := uniL_len A.names B.names; omega
  generalize uniN A.names B.names = U at *
  have HK := hide hK; have HNZ := hide hnz; have HUL := hide hUl
  clear hK hcall hnz hA hB hps hUl hsA hsB hlA hlB
  go_enter Tryz.func53, Tryz.ntmps53
  go_upto_region 1 with fail
  generalize (((w.alloc (.cells #[.int .i64 A.sort, .slice a1 A.names.length p1, .slice a2 A.kids.length p2] 26)).alloc (.cells #[.int .i64 B.sort, .slice b1 B.names.length q1, .slice b2 B.kids.length q2] 26)).alloc (.cells #[.int .i64 0, .slice none 0 0, .slice none 0 0] 26)) = W0 at hb3 ⊢
  have hd := hb3.below.drew
  have hsz : W0.drew.heap.size = w.heap.size + 3 := hb3.size
  refine wp_swap (c' := Code.region 1 jrOOps true) (by kernel_rfl) ?_
  refine wp_region_noPanic ?_
  have ha := hb3.a.of_block (w' := W0.drew) rfl
  have hb := hb3.b.of_block (w' := W0.drew) rfl
  have hr := hb3.r.of_block (w' := W0.drew) rfl
  have hk := unhide HK W0.drew hd
  refine jrO T w.heap.size (w.heap.size + 1) (w.heap.size + 1 + 1) path ⟨.int .i64 A.sort, .slice a1 A.names.length p1, .slice a2 A.kids.length p2⟩ ⟨.int .i64 B.sort, .slice b1 B.names.length q1, .slice b2 B.kids.length q2⟩ (fun V0 V1 na nl nc ka kl kc er => JoE ⟨.int .i64 A.sort, .slice a1 A.names.length p1, .slice a2 A.kids.length p2⟩ ⟨.int .i64 B.sort, .slice b1 B.names.length q1, .slice b2 B.kids.length q2⟩ U oN V0 V1 na nl nc ka kl kc er) W0 _ (fun _ _ _ _ _ h => h) ha hb (by with_reducible exact hk) (by kernel_rfl) ?_
  intro u W na ka nl nc kl kc er hW hE
  refine NoPanic.normal ?_
  simp only [frL_eq, frG, List.lookup, Nat.reduceBEq, Nat.reduceAdd, Option.getD_some, Option.getD_none]
  have hWw : Below w.heap.size w W := hd.trans (hW.mono hd.size)
  have hr1 := hr.of_block (hW.block _ hr.lt)
  have hWs := hW.size
  rcases hE with ⟨hall, rfl, rfl, rfl, xs, G, N, hf⟩ | ⟨hall, rfl, rfl, rfl, rfl, rfl, rfl, hmis⟩
  · have hjo : joF U oN = some (.mk 5 U (U.map fun nm => (oN nm).getD kd0)) := if_pos hall
    have hcp := copyNames_any (.slice na U.length nc) U W (P := fun b => w.heap.size + 2 ≤ b ∧ b < W.heap.size) (fun b hb => hb.2) (hf.st.carry (fun _ _ => rfl) (fun b hb => ⟨by have := hb.1; omega, by have := hb.2; have := hf.n1; omega⟩)) (by have := unhide HUL; omega) (fun x hx => by have := unhide HNZ x hx; omega)
    have hn0 := hf.n0
    obtain ⟨F2, hk2, hnd2, hF2, -⟩ := hf.got.done
    have htk : ((U.take U.length).map fun nm => (oN nm).getD kd0) = U.map fun nm => (oN nm).getD kd0 := by rw [List.take_length]
    rw [htk] at hk2
    have HCP := hide hcp
    have HJO := hide hjo
    have HD := hide (show KidsD W (.slice ka U.length kc) (U.map fun nm => (oN nm).getD kd0) F2 ∧ F2.Nodup ∧ ∀ b, b ∈ F2 → w.heap.size + 3 ≤ b ∧ b < W.heap.size from ⟨hk2, hnd2, fun b hb => ⟨by have := (hF2 b hb).1; omega, (hF2 b hb).2⟩⟩)
    have HWW := hide hWw; have HR1 := hide hr1; have HSW := hide (show w.heap.size + 3 ≤ W.heap.size by omega)
    clear hcp hjo hk2 hnd2 hF2 htk hf hWw hr1 hW hk ha hb hr hb3 hd hsz hWs hall HK hn0
    go_wp2_with fail
    refine (unhide HCP).mono ?_
    rintro e W2 ⟨v', F1, rfl, ho1, hnd1, hF1, hb1⟩
    obtain ⟨a', cap', rfl, -⟩ := id ho1
    obtain ⟨hk2, hnd2, hF2⟩ := unhide HD
    have hsw := unhide HSW
    have hJ : JV (joF U oN) (w.heap.size + 3) W2 ⟨.int .i64 5, .slice a' U.length cap', .slice ka U.length kc⟩ .nilIface := by
      rw [unhide HJO]
      have hm : OwnD W2 (.mk 5 U (U.map fun nm => (oN nm).getD kd0)) ⟨.int .i64 5, .slice a' U.length cap', .slice ka U.length kc⟩ (F1 ++ F2) := OwnD.make rfl (show I64 5 from ⟨by decide, by decide⟩) ho1 (by have := hk2.carry (fun b hb => hb1.block b (hF2 b hb).2); simpa [kkids_mk] using this)
      refine Or.inl ⟨_, F1 ++ F2, rfl, rfl, hm, List.nodup_append.2 ⟨hnd1, hnd2, fun a ha b hb e => by have := (hF1 a ha).1; have := (hF2 b hb).2; omega⟩, fun b hb => ?_⟩
      rcases List.mem_append.1 hb with hb | hb
      · have := hF1 b hb; exact ⟨by omega, this.2⟩
      · have := hF2 b hb; have := hb1.size; exact ⟨by omega, by omega⟩
    have hr2 := (unhide HR1).of_block (hb1.block _ (unhide HR1).lt)
    have m0 := hr2.cell (i := 0) (by omega); have m1' := hr2.cell (i := 1) (by omega); have m2' := hr2.cell (i := 2) (by omega); have mf := hr2.frozen
    simp only [row3] at m0 m1' m2'
    have HE := hide (JE.put hJ (any3_mk _ _ _ _ _ _ _) ((unhide HWW).trans (hb1.mono (unhide HWW).size)) (R := w.heap.size + 1 + 1) (by omega) (by omega))
    clear hJ hr2 hk2 hnd2 hF2 ho1 hnd1 hF1 hb1 hsw HD HCP HJO HWW HR1 HSW
    go_wp2_with fail
    refine bodyPost_ret (v := .tuple #[.agg #[.int .i64 5, .slice a' U.length cap', .slice ka U.length kc], .nilIface]) (by simp [results, Tryz.results53, go_sem, m0, m1', m2']) rfl (unhide HE)
  · have hjo : joF U oN = none := by unfold joF; rw [hall]; simp
    have hcp := copyNames_any (.slice none 0 0) [] W (P := fun b => b < W.heap.size) (fun b hb => hb) (strs_nil _ W) (by simp) (fun x hx => by simp at hx)
    obtain ⟨ex, ey, ep, rfl⟩ := hmis
    have HCP := hide hcp
    have HJO := hide hjo
    have HWW := hide hWw; have HR1 := hide hr1; have HSW := hide (show w.heap.size + 3 ≤ W.heap.size by omega)
    clear hcp hjo hWw hr1 hW hk ha hb hr hb3 hd hsz hWs hall HK
    go_wp2_with fail
    refine (unhide HCP).mono ?_
    rintro e W2 ⟨v', F1, rfl, ho1, hnd1, hF1, hb1⟩
    obtain ⟨a', cap', rfl, -⟩ := id ho1
    have hsw := unhide HSW
    have hJ : JV (joF U oN) (w.heap.size + 3) W2 ⟨.int .i64 5, .slice a' ([] : List ByteArray).length cap', .slice none 0 0⟩ (.iface 91 (.agg #[.int .i64 ex, .int .i64 ey, .string ep])) := by
      rw [unhide HJO]
      exact Or.inr ⟨rfl, ex, ey, ep, rfl⟩
    have hr2 := (unhide HR1).of_block (hb1.block _ (unhide HR1).lt)
    have m0 := hr2.cell (i := 0) (by omega); have m1' := hr2.cell (i := 1) (by omega); have m2' := hr2.cell (i := 2) (by omega); have mf := hr2.frozen
    simp only [row3] at m0 m1' m2'
    have HE := hide (JE.put hJ (any3_mk _ _ _ _ _ _ _) ((unhide HWW).trans (hb1.mono (unhide HWW).size)) (R := w.heap.size + 1 + 1) (by omega) (by omega))
    clear hJ hr2 ho1 hnd1 hF1 hb1 hsw HCP HJO HWW HR1 HSW
    go_wp2_with fail
    refine bodyPost_ret (v := .tuple #[.agg #[.int .i64 5, .slice a' ([] : List ByteArray).length cap', .slice none 0 0], .iface 91 (.agg #[.int .i64 ex, .int .i64 ey, .string ep])]) (by simp [results, Tryz.results53, go_sem, m0, m1', m2']) rfl (unhide HE)
end Go.Proofs.YtenpghndgdemnaaGreatDoor
