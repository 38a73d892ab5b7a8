/- The walk of the program's ofFields at the table of joins: of two forms what each name that one of them has is joined to, or the first misfit. Conditions: the pairs that it asks for are taken by their contracts (a hypothesis); at most 1000 names in each form. -/
import Derived.Test.YtenpghndgdemnaaGreatDoorPart29
import Derived.Test.YtenpghndgdemnaaGreatDoorPart19
import Derived.Test.YtenpghndgdemnaaGreatDoorPart25
namespace Go.Proofs.YtenpghndgdemnaaGreatDoor
open Go Go.RowKit

/-- The fields while they are gathered: both boxes, the names, the schemas of the first k names. -/
structure FjS (c d : C3) (U : List ByteArray) (N : Nat) (na : Option Addr) (nc : Nat) (oN : ByteArray → Option Kd) (w W : World) (ka : Option Addr) (k kc : Nat) (xs : List Value) (G : List Nat) : Prop where
  bel : Below w.heap.size w W
  n0 : w.heap.size + 2 ≤ N
  n1 : N ≤ W.heap.size
  bx : W.rowIs w.heap.size 26 3 (row3 c.c0 c.c1 c.c2)
  by' : W.rowIs (w.heap.size + 1) 26 3 (row3 d.c0 d.c1 d.c2)
  st : StrsAt (fun b => w.heap.size + 2 ≤ b ∧ b < N) W (.slice na U.length nc) U
  got : GotD N W (.slice ka k kc) ((U.take k).map fun nm => (oN nm).getD kd0) xs G
  kl : k ≤ U.length
section
variable {c d : C3} {U : List ByteArray} {N : Nat} {na : Option Addr} {nc : Nat} {oN : ByteArray → Option Kd} {w W : World} {ka : Option Addr} {k kc : Nat} {xs : List Value} {G : List Nat}
theorem FjS.own (h : FjS c d U N na nc oN w W ka k kc xs G) : W.ownsRow N 26 3 (.slice ka k kc) k xs := by
  have := h.got.row
  have hl : ((U.take k).map fun nm => (oN nm).getD kd0).length = k := by rw [List.length_map, List.length_take]; exact Nat.min_eq_left h.kl
  rwa [hl] at this
theorem FjS.on (h : FjS c d U N na nc oN w W ka k kc xs G) {W' : World} (hb : Below W.heap.size W W') : FjS c d U N na nc oN w W' ka k kc xs G := by
  have h1 := h.n1
  have h0 := h.n0
  exact ⟨h.bel.trans (hb.mono h.bel.size), h.n0, Nat.le_trans h1 hb.size, h.bx.of_block (hb.block _ h.bx.lt), h.by'.of_block (hb.block _ h.by'.lt), h.st.carry (fun b hb' => hb.block b (by have := hb'.2; omega)) (fun _ h => h), h.got.other (row := none) ⟨hb.os, hb.tape, hb.output, hb.size, fun i hi _ => hb.block i hi⟩ (fun b e => by cases e), h.kl⟩
/-- One more field. -/
theorem FjS.add {V0 : World} {x : Kd} {e : C3} {F : List Nat} (h : FjS c d U N na nc oN w W ka k kc xs G) (h0 : FjS c d U N na nc oN w V0 ka k kc xs G) (hk : k < U.length) (hx : oN U[k] = some x) (ho : OwnD W x e F) (hnd : F.Nodup) (hF : ∀ b, b ∈ F → V0.heap.size ≤ b ∧ b < W.heap.size)
    {W' : World} {ka' : Option Addr} {kc' : Nat} (hown : W'.ownsRow N 26 3 (.slice ka' (k + 1) kc') (k + 1) (xs ++ c3l e)) (hg : W.grownBy W' (Value.slice ka k kc).ownBlock) (hn : (Value.slice ka' (k + 1) kc').ownBlock = (Value.slice ka k kc).ownBlock ∨ ∃ g, (Value.slice ka' (k + 1) kc').ownBlock = some g ∧ W.heap.size ≤ g) : FjS c d U N na nc oN w W' ka' (k + 1) kc' (xs ++ c3l e) (G ++ F) := by
  have hs := hg.size
  have h1 := h.n1
  have hn0 := h.n0
  have hown1 : ∀ g, (Value.slice ka k kc).ownBlock = some g → N ≤ g := fun g e => (h.got.row.lt g e).1
  have hlow : ∀ b, b < N → W'.heap[b]? = W.heap[b]? := fun b hb => hg.block b (by omega) (fun e => by have := hown1 b e.symm; omega)
  have hl : ((U.take k).map fun nm => (oN nm).getD kd0).length = k := by rw [List.length_map, List.length_take]; exact Nat.min_eq_left h.kl
  have hp := h.got.push (m := V0.heap.size) ho hnd hF (fun b hb => (h0.got.lt b hb).2.1) (fun b hb => (h0.got.row.lt b hb).2) h0.n1 (by rw [hl]; exact hown) hg hn
  have ht : ((U.take k).map fun nm => (oN nm).getD kd0) ++ [x] = (U.take (k + 1)).map fun nm => (oN nm).getD kd0 := by
    rw [List.take_succ_eq_append_getElem hk, List.map_append, List.map_singleton, hx, Option.getD_some]
  rw [ht] at hp
  exact ⟨h.bel.grown hg h.bel.size (fun g e => by have := hown1 g e; omega), h.n0, by omega, h.bx.of_block (hlow _ (by omega)), h.by'.of_block (hlow _ (by omega)), h.st.carry (fun b hb' => hlow b hb'.2) (fun _ h => h), hp, hk⟩
end
theorem append_kdJ (W : World) {ops : Array Oper} {rest : List Oper} {o : Oper} {a : Act} {Q : Exit → Act → World → Prop} (hg : o.guard = none) (s x : Operand) (hop : o.op = Op.call { callee := Callee.builtin Builtin.append, args := #[s, x], argTypes := #[24, 24] })
    (N : Nat) (ka : Option Addr) (k kc : Nat) (xs : List Value) (hs : a.eval s = .slice ka k kc) (hown : W.ownsRow N 26 3 (.slice ka k kc) k xs) (b : Nat) (d : C3) (hx : a.eval x = .slice (some ⟨b, 0, none⟩) 1 1) (hc : ∀ j u, (c3l d)[j]? = some u → W.cell? ((⟨b, 0, none⟩ : Addr).add j) = some u) (h1 : ∀ u ∈ c3l d, u.oneCell' = true) (hk : k ≤ 2000) (hN : N ≤ W.heap.size)
    (hK : ∀ ka' kc' W', Hid (W'.ownsRow N 26 3 (.slice ka' (k + 1) kc') (k + 1) (xs ++ c3l d)) → Hid (W.grownBy W' (Value.slice ka k kc).ownBlock) → Hid ((Value.slice ka' (k + 1) kc').ownBlock = (Value.slice ka k kc).ownBlock ∨ ∃ g, (Value.slice ka' (k + 1) kc').ownBlock = some g ∧ W.heap.size ≤ g) → wpList Tryz.prog ops Q rest (a.put o.dst (.slice ka' (k + 1) kc')) W') :
    wpList Tryz.prog ops Q (o :: rest) a W := by
  obtain ⟨i, h2, h3, h4, h5⟩ := info_parts infoKindG
  refine append_row W hg s x 24 hop N 26 i (.agg #[.int .i64 0, .slice none 0 0, .slice none 0 0]) 3 56 Tryz.underlying24 h2 h3 h4 h5 rfl (by decide) (.slice ka k kc) k xs hs hown ⟨b, 0, none⟩ 1 1 (c3l d) hx rfl hc h1 (by decide) (by unfold maxLen; omega) (by omega) hN (fun v' w' r1 r2 r3 => ?_)
  obtain ⟨ka', kc', rfl⟩ := own_formU r1
  exact hK ka' kc' w' r1 r2 r3
/-- What ofFields gives. -/
def FjE (c d : C3) (U : List ByteArray) (oN : ByteArray → Option Kd) (w w' : World) (e : Ending) : Prop :=
  (U.all (fun nm => (oN nm).isSome) = true ∧ ∃ na nc ka kc xs G N, e = .returned (.tuple #[.slice na U.length nc, .slice ka U.length kc, .nilIface]) ∧ FjS c d U N na nc oN w w' ka U.length kc xs G) ∨
  (U.all (fun nm => (oN nm).isSome) = false ∧ ∃ (x y : Int) (p : ByteArray), e = .returned (.tuple #[.slice none 0 0, .slice none 0 0, .iface 91 (.agg #[.int .i64 x, .int .i64 y, .string p])]))
theorem FjS.st' {c d : C3} {U : List ByteArray} {N : Nat} {na : Option Addr} {nc : Nat} {oN : ByteArray → Option Kd} {w W : World} {ka : Option Addr} {k kc : Nat} {xs : List Value} {G : List Nat} (h : FjS c d U N na nc oN w W ka k kc xs G) (hlt : k < U.length) : ∃ nb no, na = some ⟨nb, no, none⟩ ∧ W.cell? ⟨nb, no + k, none⟩ = some (.string U[k]) := by
  obtain ⟨na', nc', e9, -, hcs⟩ := h.st
  simp only [Value.slice.injEq, true_and] at e9
  obtain ⟨rfl, rfl⟩ := e9
  obtain ⟨nb, no, rfl, hnbl, hcn, -⟩ := hcs k hlt
  exact ⟨nb, no, rfl, hcn⟩
set_option maxRecDepth 100000 in
set_option maxHeartbeats 6400000 in
theorem ofFieldsJ_walk (A B : Kd) (T : Nat) (a1 a2 b1 b2 : Option Addr) (p1 p2 q1 q2 : Nat) (path : ByteArray) (w : World) (oN : ByteArray → Option Kd)
    (hA : KW w A ⟨.int .i64 A.sort, .slice a1 A.names.length p1, .slice a2 A.kids.length p2⟩) (hB : KW w B ⟨.int .i64 B.sort, .slice b1 B.names.length q1, .slice b2 B.kids.length q2⟩) (hsA : A.sort = 5) (hsB : B.sort = 5) (hlA : A.names.length ≤ 1000) (hlB : B.names.length ≤ 1000) (hps : path.size ≤ 1000000) (hnz : ∀ nm, nm ∈ uniN A.names B.names → nm.size ≤ 1000)
    (hcall : ∀ nm, nm ∈ uniN A.names B.names → ∀ W (x y : C3), Below w.heap.size w W → KZ W (kidZ A nm) x → KZ W (kidZ B nm) y → Calls Tryz.prog 55 #[.pointer (some ⟨T, 0, none⟩), .agg #[x.c0, x.c1, x.c2], .agg #[y.c0, y.c1, y.c2], .string (path ++ ⟨#[123]⟩ ++ nm ++ ⟨#[58]⟩)] W (JE (oN nm) W)) :
    Calls Tryz.prog 73 #[.pointer (some ⟨T, 0, none⟩), .agg #[.int .i64 A.sort, .slice a1 A.names.length p1, .slice a2 A.kids.length p2], .agg #[.int .i64 B.sort, .slice b1 B.names.length q1, .slice b2 B.kids.length q2], .string path] w fun e w' => Below w.heap.size w w' ∧ FjE ⟨.int .i64 A.sort, .slice a1 A.names.length p1, .slice a2 A.kids.length p2⟩ ⟨.int .i64 B.sort, .slice b1 B.names.length q1, .slice b2 B.kids.length q2⟩ (uniN A.names B.names) oN w w' e := by
  obtain ⟨hrx, hry, hbw⟩ := pr_boxes w A.sort B.sort a1 a2 b1 b2 A.names.length A.kids.length p1 p2 B.names.length B.kids.length q1 q2
  have hsz : ((w.alloc (.cells #[.int .i64 A.sort, .slice a1 A.names.length p1, .slice a2 A.kids.length p2] 26)).alloc (.cells #[.int .i64 B.sort, .slice b1 B.names.length q1, .slice b2 B.kids.length q2] 26)).heap.size = w.heap.size + 2 := by simp
  have hKA : ∀ W nm, Below w.heap.size w W → Calls Tryz.prog 94 #[.agg #[.int .i64 A.sort, .slice a1 A.names.length p1, .slice a2 A.kids.length p2], .string nm] W fun e w' => Below W.heap.size W w' ∧ ∃ (y : C3), e = .returned (.agg #[y.c0, y.c1, y.c2]) ∧ KZ w' (kidZ A nm) y := fun W nm hW => kidNamed_any A _ W (hA.on hW) hsA hlA nm
  have hKB : ∀ W nm, Below w.heap.size w W → Calls Tryz.prog 94 #[.agg #[.int .i64 B.sort, .slice b1 B.names.length q1, .slice b2 B.kids.length q2], .string nm] W fun e w' => Below W.heap.size W w' ∧ ∃ (y : C3), e = .returned (.agg #[y.c0, y.c1, y.c2]) ∧ KZ w' (kidZ B nm) y := fun W nm hW => kidNamed_any B _ W (hB.on hW) hsB hlB nm
  have x1 := hrx.cell (i := 1) (by omega)
  have y1 := hry.cell (i := 1) (by omega)
  simp only [row3] at x1 y1
  obtain ⟨-, -, hstA, -⟩ := (hA.on hbw).rep.open
  obtain ⟨-, -, hstB, -⟩ := (hB.on hbw).rep.open
  have hnb := namesOfBoth_any A.names B.names a1 b1 A.names.length B.names.length p1 q1 _ hstA hstB hlA hlB
  have hUl : (uniN A.names B.names).length ≤ 2000 := by have := uniN_len A.names B.names; have := uniL_len A.names B.names; omega
  generalize uniN A.names B.names = U at *
  have HNB := hide hnb; have HKA := hide hKA; have HKB := hide hKB; have HC := hide hcall; have HRX := hide hrx; have HRY := hide hry; have HBW := hide hbw; have HSZ := hide hsz; have HPS := hide hps; have HNZ := hide hnz; have HUL := hide hUl
  clear hnb hKA hKB hcall hrx hry hbw hsz hps hnz hUl hstA hstB hA hB hsA hsB hlA hlB
  go_enter Tryz.func73, Tryz.ntmps73
  go_wp2_with fail
  generalize ((w.alloc (.cells #[.int .i64 A.sort, .slice a1 A.names.length p1, .slice a2 A.kids.length p2] 26)).alloc (.cells #[.int .i64 B.sort, .slice b1 B.names.length q1, .slice b2 B.kids.length q2] 26)) = W0 at x1 y1 HNB HRX HRY HBW HSZ ⊢
  refine (unhide HNB).mono ?_
  rintro e W1 ⟨hb1, na, nc, rfl, hst⟩
  have HF0 : Hid (FjS ⟨.int .i64 A.sort, .slice a1 A.names.length p1, .slice a2 A.kids.length p2⟩ ⟨.int .i64 B.sort, .slice b1 B.names.length q1, .slice b2 B.kids.length q2⟩ U W1.heap.size na nc oN w W1 none 0 0 [] []) :=
    ⟨(unhide HBW).trans (hb1.mono (unhide HBW).size), by have := hb1.size; rw [unhide HSZ] at this; exact this, Nat.le_refl _, (unhide HRX).of_block (hb1.block _ (unhide HRX).lt), (unhide HRY).of_block (hb1.block _ (unhide HRY).lt), hst.carry (fun _ _ => rfl) (fun b hb => ⟨by have := hb.1; rw [unhide HSZ] at this; exact this, hb.2⟩), GotD.start _ _, Nat.zero_le _⟩
  generalize W1.heap.size = N at HF0
  clear hb1 hst HNB HRX HRY HBW HSZ x1 y1
  go_wp2_with fail
  go_loopw [12, 24] (fun vf vi wr => ∃ (k : Nat) (ka : Option Addr) (kc : Nat) (xs : List Value) (G : List Nat), k ≤ U.length ∧ vi = .int .i64 k ∧ vf = .slice ka k kc ∧ Hid ((U.take k).all (fun nm => (oN nm).isSome) = true) ∧ Hid (FjS ⟨.int .i64 A.sort, .slice a1 A.names.length p1, .slice a2 A.kids.length p2⟩ ⟨.int .i64 B.sort, .slice b1 B.names.length q1, .slice b2 B.kids.length q2⟩ U N na nc oN w wr ka k kc xs G)) (fun _ vi _ => U.length - (intOf vi).toNat)
  case atStart => exact ⟨0, none, 0, [], [], Nat.zero_le _, rfl, rfl, rfl, HF0⟩
  case round =>
    obtain ⟨k, ka, kc, xs, G, hk, rfl, rfl, HTK, HF⟩ := hrel
    by_cases hlt : k < U.length
    · obtain ⟨nb, no, rfl, hcn⟩ := (unhide HF).st' hlt
      have hnm : U[k] ∈ U := List.getElem_mem hlt
      have HC2 := hide (unhide HC _ hnm)
      have HHZ := hide (unhide HNZ _ hnm)
      have HNT := hide (show ∀ r : Option Kd, oN U[k] = r → (r.isSome = true → (U.take (k + 1)).all (fun nm => (oN nm).isSome) = true) ∧ (r.isSome = false → U.all (fun nm => (oN nm).isSome) = false) from fun r h => ⟨fun h1 => all_takeU (g := fun nm => (oN nm).isSome) hlt (unhide HTK) (by rw [h]; exact h1), fun h1 => all_no (g := fun nm => (oN nm).isSome) hlt (by rw [h]; exact h1)⟩)
      have HADD := hide (fun (W V0 : World) (x : Kd) (e : C3) (F : List Nat) (h : FjS ⟨.int .i64 A.sort, .slice a1 A.names.length p1, .slice a2 A.kids.length p2⟩ ⟨.int .i64 B.sort, .slice b1 B.names.length q1, .slice b2 B.kids.length q2⟩ U N (some ⟨nb, no, none⟩) nc oN w W ka k kc xs G) (h0 : FjS ⟨.int .i64 A.sort, .slice a1 A.names.length p1, .slice a2 A.kids.length p2⟩ ⟨.int .i64 B.sort, .slice b1 B.names.length q1, .slice b2 B.kids.length q2⟩ U N (some ⟨nb, no, none⟩) nc oN w V0 ka k kc xs G) (hx : oN U[k] = some x) (ho : OwnD W x e F) (hnd : F.Nodup) (hF : ∀ b, b ∈ F → V0.heap.size ≤ b ∧ b < W.heap.size) W' ka' kc' hown hg hn => h.add h0 hlt hx ho hnd hF (W' := W') (ka' := ka') (kc' := kc') hown hg hn)
      generalize hnmU : U[k] = nm at *
      clear hnmU hnm HTK
      go_upto_region 6 with fail
      refine wp_swap (c' := Code.region 6 jrFOps true) (by kernel_rfl) ?_
      refine wp_region_noPanic ?_
      have hfd := (unhide HF).on (Below.refl _ wr).drew
      have hK : ∀ W, Below wr.drew.heap.size wr.drew W → Below w.heap.size w W := fun W hW => hfd.bel.trans (hW.mono hfd.bel.size)
      have hkx : ∀ W, Below wr.drew.heap.size wr.drew W → Calls Tryz.prog 94 #[.agg #[.int .i64 A.sort, .slice a1 A.names.length p1, .slice a2 A.kids.length p2], .string nm] W fun e w' => Below W.heap.size W w' ∧ ∃ (y : C3), e = .returned (.agg #[y.c0, y.c1, y.c2]) ∧ KZ w' (kidZ A nm) y := fun W hW => unhide HKA W nm (hK W hW)
      have hky : ∀ W, Below wr.drew.heap.size wr.drew W → Calls Tryz.prog 94 #[.agg #[.int .i64 B.sort, .slice b1 B.names.length q1, .slice b2 B.kids.length q2], .string nm] W fun e w' => Below W.heap.size W w' ∧ ∃ (y : C3), e = .returned (.agg #[y.c0, y.c1, y.c2]) ∧ KZ w' (kidZ B nm) y := fun W hW => unhide HKB W nm (hK W hW)
      have hkp : ∀ W (x y : C3), Below wr.drew.heap.size wr.drew W → KZ W (kidZ A nm) x → KZ W (kidZ B nm) y → Calls Tryz.prog 55 #[.pointer (some ⟨T, 0, none⟩), .agg #[x.c0, x.c1, x.c2], .agg #[y.c0, y.c1, y.c2], .string (path ++ ⟨#[123]⟩ ++ nm ++ ⟨#[58]⟩)] W fun e w' => Below W.heap.size W w' ∧ ∃ (d : C3) (er : Value), e = .returned (.tuple #[.agg #[d.c0, d.c1, d.c2], er]) ∧ Any3 d ∧ (Any3 d ∧ JV (oN nm) W.heap.size w' d er) := fun W x y hW hx hy => (unhide HC2 W x y (hK W hW) hx hy).mono fun e w' ⟨d, er, h1, h2, h3, h4⟩ => ⟨h4, d, er, h1, h2, h2, h3⟩
      refine jrF T w.heap.size (w.heap.size + 1) path (path ++ ⟨#[123]⟩) (path ++ ⟨#[123]⟩ ++ nm) (path ++ ⟨#[123]⟩ ++ nm ++ ⟨#[58]⟩) nm ⟨.int .i64 A.sort, .slice a1 A.names.length p1, .slice a2 A.kids.length p2⟩ ⟨.int .i64 B.sort, .slice b1 B.names.length q1, .slice b2 B.kids.length q2⟩ (fun W y => KZ W (kidZ A nm) y) (fun W y => KZ W (kidZ B nm) y) (fun W W' y hb h => h.on hb) (fun W W' y hb h => h.on hb) (fun V0 V1 d er => Any3 d ∧ JV (oN nm) V0.heap.size V1 d er) wr _ (fun _ _ _ _ _ h => h) hfd.bx hfd.by' rfl (szU1 (unhide HPS)) rfl (szU2 (unhide HPS) (unhide HHZ)) rfl (szU3 (unhide HPS) (unhide HHZ)) (by intro W hW; with_reducible exact hkx W hW) (by intro W hW; with_reducible exact hky W hW) (by intro W x y hW hx hy; with_reducible exact hkp W x y hW hx hy) (by kernel_rfl) (fun u g er => by kernel_rfl) ?_
      rintro u V0 V1 W d er g hV ⟨⟨s0, d1, d2, k1, r1, k2, r2, rfl⟩, hJ⟩ hW hck hg hgb -
      refine NoPanic.normal ?_
      simp only [List.take_succ_cons, List.take_zero, List.drop_succ_cons, List.drop_zero, List.cons_append, List.nil_append]
      have HFV := hide (hfd.on hV); have HFW := hide (hfd.on hW)
      obtain ⟨g0, g1, g2⟩ : W.cell? ⟨g, 0, none⟩ = some (.int .i64 s0) ∧ W.cell? ⟨g, 1, none⟩ = some (.slice d1 k1 r1) ∧ W.cell? ⟨g, 2, none⟩ = some (.slice d2 k2 r2) := ⟨hg.cell (i := 0) (by omega), hg.cell (i := 1) (by omega), hg.cell (i := 2) (by omega)⟩
      cases hov : oN nm with
      | some x =>
        have HNT2 := hide ((unhide HNT _ hov).1 rfl)
        obtain ⟨F, rfl, HOF⟩ : ∃ F, er = .nilIface ∧ Hid (OwnD W x ⟨.int .i64 s0, .slice d1 k1 r1, .slice d2 k2 r2⟩ F ∧ F.Nodup ∧ ∀ b, b ∈ F → V0.heap.size ≤ b ∧ b < W.heap.size) := by
          rcases hJ.ck hck (Nat.le_refl _) with ⟨x', F, h1, h2, h3, h4, h5⟩ | ⟨h1, -⟩
          · rw [hov] at h1
            obtain rfl := Option.some.inj h1
            exact ⟨F, h2, h3, h4, h5⟩
          · rw [hov] at h1; cases h1
        have HOV := hide hov
        have ne1 := neNilE
        have ke := wrkU (Nat.le_trans hk (unhide HUL))
        have HFA := hide ((unhide HFW).on ((Below.refl _ _).alloc (Nat.le_refl _) (.cells #[.int .i64 s0, .slice d1 k1 r1, .slice d2 k2 r2] 26)))
        clear hov hJ hck hg hgb hV hW hfd hK hkx hky hkp hcn HNT HC2
        go_wp2_with (at_builtin; refine append_kdJ _ rfl _ _ rfl N ka k kc xs rfl (unhide HFA).own W.heap.size ⟨.int .i64 s0, .slice d1 k1 r1, .slice d2 k2 r2⟩ rfl (cell_three W _ _) (unhide HOF).1.one (Nat.le_trans hk (unhide HUL)) (unhide HFA).n1 ?_; intro fa2 fc2 W5 ho5 hg5 hn5)
        have HF5 := hide (unhide HADD _ V0 x ⟨.int .i64 s0, .slice d1 k1 r1, .slice d2 k2 r2⟩ F (unhide HFA) (unhide HFV) (unhide HOV) (OwnD.carry _ _ _ (fun b hb => Below.heap_alloc _ _ _ ((unhide HOF).2.2 b hb).2) (unhide HOF).1) (unhide HOF).2.1 (fun b hb => by rw [World.size_alloc]; have := (unhide HOF).2.2 b hb; omega) W5 fa2 fc2 (unhide ho5) (unhide hg5) (unhide hn5))
        clear ho5 hg5 hn5 HFA HOF HADD HFV HFW g0 g1 g2
        go_wp2_with fail
        go_roundw
        case rel => exact ⟨k + 1, fa2, fc2, _, _, hlt, (by rw [ke]; exact numU k), rfl, HNT2, HF5⟩
        case measure => rw [ke]; exact measU hlt
      | none =>
        have HNT2 := hide ((unhide HNT _ hov).2 rfl)
        obtain ⟨xx, yy, pp, rfl⟩ : MisV er := by
          rcases hJ with ⟨x', F, h1, -⟩ | ⟨-, h2⟩
          · rw [hov] at h1; cases h1
          · exact h2
        have ne1 := neMisE
        have HBE := hide (unhide HFW).bel
        clear hov hJ hck hg hgb hV hW hfd hK hkx hky hkp hcn HNT HC2 HADD HFV HFW
        go_wp2_with fail
        refine bodyPost_ret (v := .tuple #[.slice none 0 0, .slice none 0 0, .iface 91 (.agg #[.int .i64 xx, .int .i64 yy, .string pp])]) (by simp [results, Tryz.results73, go_sem]) rfl ?_
        exact ⟨unhide HBE, Or.inr ⟨unhide HNT2, xx, yy, pp, rfl⟩⟩
    · have hall : U.all (fun nm => (oN nm).isSome) = true := by
        have := unhide HTK
        rwa [List.take_of_length_le (by omega)] at this
      have hkk : k = U.length := by omega
      subst hkk
      have HALL := hide hall
      clear hall HTK hlt hk
      go_wp2_with fail
      refine bodyPost_ret (v := .tuple #[.slice na U.length nc, .slice ka U.length kc, .nilIface]) (by simp [results, Tryz.results73, go_sem]) rfl ?_
      exact ⟨(unhide HF).bel, Or.inl ⟨unhide HALL, na, nc, ka, kc, xs, G, N, rfl, unhide HF⟩⟩
end Go.Proofs.YtenpghndgdemnaaGreatDoor

/- The walk of the program's ofForm at the table of widenings. Conditions: the pairs that it asks for are taken by their contracts (a hypothesis); at most 1000 names in each form. -/

namespace Go.Proofs.YtenpghndgdemnaaGreatDoor
open Go Go.RowKit

/-- Names and widenings, each in its box, of which a form's widening is made. -/
def FmG (U : List ByteArray) (G : ByteArray → (Nat → Prop) → World → Value → Prop) (P : Nat → Prop) (W : World) (g1 g2 : Nat) : Prop :=
  ∃ (na : Option Addr) (nc : Nat) (fa : Option Addr) (fc : Nat) (fvs : List Value), P g1 ∧ P g2 ∧ W.cell? ⟨g1, 0, none⟩ = some (.slice na U.length nc) ∧ W.cell? ⟨g2, 0, none⟩ = some (.slice fa U.length fc) ∧ StrsAt P W (.slice na U.length nc) U ∧ fvs.length = U.length ∧
    ∀ i, (hi : i < U.length) → (hf : i < fvs.length) → ∃ fb, fa = some ⟨fb, 0, none⟩ ∧ P fb ∧ W.cell? ⟨fb, i, none⟩ = some fvs[i] ∧ G U[i] P W fvs[i] ∧ ∃ f b c, fvs[i] = .func f b c
def FmE (U : List ByteArray) (g : ByteArray → Bool) (G : ByteArray → (Nat → Prop) → World → Value → Prop) (w w' : World) (e : Ending) : Prop :=
  ∃ g1 g2 er, e = .returned (.tuple #[.func (.func 88) #[] #[.pointer (some ⟨g1, 0, none⟩), .pointer (some ⟨g2, 0, none⟩)], er]) ∧
    ((U.all g = true ∧ er = .nilIface ∧ FmG U G (New w w') w' g1 g2) ∨ (U.all g = false ∧ ∃ (x y : Int) (p : ByteArray), er = .iface 91 (.agg #[.int .i64 x, .int .i64 y, .string p])))
def FoE (c d : C3) (U : List ByteArray) (g : ByteArray → Bool) (G : ByteArray → (Nat → Prop) → World → Value → Prop) (V0 V1 : World) (na : Option Addr) (nl nc : Nat) (fa : Option Addr) (fl fc : Nat) (er : Value) : Prop :=
  (U.all g = true ∧ nl = U.length ∧ fl = U.length ∧ er = .nilIface ∧ ∃ N fvs, FlS c d U N na nc G V0 V1 fa U.length fc fvs) ∨ (U.all g = false ∧ ∃ (x y : Int) (p : ByteArray), er = .iface 91 (.agg #[.int .i64 x, .int .i64 y, .string p]))
theorem FdE.fo {c d : C3} {U : List ByteArray} {g : ByteArray → Bool} {G : ByteArray → (Nat → Prop) → World → Value → Prop} {w w' : World} {e : Ending} (h : FdE c d U g G w w' e) : ∃ na nl nc fa fl fc er, e = .returned (.tuple #[.slice na nl nc, .slice fa fl fc, er]) ∧ FoE c d U g G w w' na nl nc fa fl fc er := by
  rcases h with ⟨h1, na, nc, fa, fc, fvs, N, rfl, h2⟩ | ⟨h1, x, y, p, rfl⟩
  · exact ⟨na, _, nc, fa, _, fc, _, rfl, Or.inl ⟨h1, rfl, rfl, rfl, N, fvs, h2⟩⟩
  · exact ⟨none, 0, 0, none, 0, 0, _, rfl, Or.inr ⟨h1, x, y, p, rfl⟩⟩
theorem FlS.fm {c d : C3} {U : List ByteArray} {N : Nat} {na : Option Addr} {nc : Nat} {G : ByteArray → (Nat → Prop) → World → Value → Prop} {V0 V1 : World} {fa : Option Addr} {fc : Nat} {fvs : List Value} (hG : ∀ nm P Q W W' fv, G nm P W fv → (∀ b, P b → Q b) → (∀ b, P b → W'.heap[b]? = W.heap[b]?) → G nm Q W' fv) (h : FlS c d U N na nc G V0 V1 fa U.length fc fvs)
    {w W : World} {g1 g2 : Nat} (hV : w.heap.size ≤ V0.heap.size) (hck : CK V0 V1 W) (h1 : W.cell? ⟨g1, 0, none⟩ = some (.slice na U.length nc)) (h2 : W.cell? ⟨g2, 0, none⟩ = some (.slice fa U.length fc)) (hg1 : w.heap.size ≤ g1) (hg2 : w.heap.size ≤ g2) : FmG U G (New w W) W g1 g2 := by
  have hn0 := h.n0
  have hn1 := h.n1
  have hsz := hck.size
  refine ⟨na, nc, fa, fc, fvs, ⟨hg1, World.block_lt_of_cell? W _ h1⟩, ⟨hg2, World.block_lt_of_cell? W _ h2⟩, h1, h2, h.st.carry (fun b hb => hck.block b (by have := hb.1; omega) (by have := hb.2; omega)) (fun b hb => ⟨by have := hb.1; omega, by have := hb.2; omega⟩), h.len, fun i hi hf => ?_⟩
  obtain ⟨fb, rfl⟩ : ∃ fb, fa = some ⟨fb, 0, none⟩ := by
    rcases h.own.2 with ⟨-, h0⟩ | ⟨fb, _, _, hv, _⟩
    · omega
    · simp only [Value.slice.injEq] at hv
      exact ⟨fb, hv.1⟩
  have hfb := h.own.lt fb rfl
  have hcl := h.own.cells (g := fb) rfl i fvs[i] (by simp [hf])
  rw [Addr.add_lit, Nat.zero_add] at hcl
  obtain ⟨hg, hfn⟩ := h.gs i hf hi
  refine ⟨fb, rfl, ⟨by omega, by omega⟩, ?_, hG _ _ _ _ _ _ hg (fun b hb => ⟨by have := hb.1; omega, by have := hb.2.1; omega⟩) (fun b hb => hck.block b (by have := hb.1; omega) hb.2.1), hfn⟩
  rw [World.cell?_of_block (w := V1) (hck.block fb (by omega) hfb.2)]
  exact hcl
set_option maxRecDepth 100000 in
set_option maxHeartbeats 3200000 in
theorem ofForm_walk (A B : Kd) (T : Nat) (a1 a2 b1 b2 : Option Addr) (p1 p2 q1 q2 : Nat) (path : ByteArray) (w : World) (g : ByteArray → Bool) (G : ByteArray → (Nat → Prop) → World → Value → Prop)
    (hG : ∀ nm P Q W W' fv, G nm P W fv → (∀ b, P b → Q b) → (∀ b, P b → W'.heap[b]? = W.heap[b]?) → G nm Q W' fv)
    (hA : KW w A ⟨.int .i64 A.sort, .slice a1 A.names.length p1, .slice a2 A.kids.length p2⟩) (hB : KW w B ⟨.int .i64 B.sort, .slice b1 B.names.length q1, .slice b2 B.kids.length q2⟩) (hsA : A.sort = 5) (hsB : B.sort = 5) (hlA : A.names.length ≤ 1000) (hlB : B.names.length ≤ 1000) (hps : path.size ≤ 1000000) (hnz : ∀ nm, nm ∈ uniN A.names B.names → nm.size ≤ 1000)
    (hcall : ∀ nm, nm ∈ uniN A.names B.names → ∀ W (x y : C3), Below w.heap.size w W → KZ W (kidZ A nm) x → KZ W (kidZ B nm) y → Calls Tryz.prog 66 #[.pointer (some ⟨T, 0, none⟩), .agg #[x.c0, x.c1, x.c2], .agg #[y.c0, y.c1, y.c2], .string (path ++ ⟨#[123]⟩ ++ nm ++ ⟨#[58]⟩)] W fun e w' => Below W.heap.size W w' ∧ ∃ fv er, e = .returned (.tuple #[fv, er]) ∧ PR (g nm) (G nm) (New W w') w' fv er) :
    Calls Tryz.prog 64 #[.pointer (some ⟨T, 0, none⟩), .agg #[.int .i64 A.sort, .slice a1 A.names.length p1, .slice a2 A.kids.length p2], .agg #[.int .i64 B.sort, .slice b1 B.names.length q1, .slice b2 B.kids.length q2], .string path] w fun e w' => Below w.heap.size w w' ∧ FmE (uniN A.names B.names) g G w w' e := by
  obtain ⟨hrx, hry, hbw⟩ := pr_boxes w A.sort B.sort a1 a2 b1 b2 A.names.length A.kids.length p1 p2 B.names.length B.kids.length q1 q2
  have hK : ∀ W, Below w.heap.size w W → Calls Tryz.prog 87 #[.pointer (some ⟨T, 0, none⟩), .agg #[.int .i64 A.sort, .slice a1 A.names.length p1, .slice a2 A.kids.length p2], .agg #[.int .i64 B.sort, .slice b1 B.names.length q1, .slice b2 B.kids.length q2], .string path] W fun e w' => Below W.heap.size W w' ∧ ∃ na nl nc fa fl fc er, e = .returned (.tuple #[.slice na nl nc, .slice fa fl fc, er]) ∧ FoE ⟨.int .i64 A.sort, .slice a1 A.names.length p1, .slice a2 A.kids.length p2⟩ ⟨.int .i64 B.sort, .slice b1 B.names.length q1, .slice b2 B.kids.length q2⟩ (uniN A.names B.names) g G W w' na nl nc fa fl fc er := fun W hW =>
    (ofFields_walk A B T a1 a2 b1 b2 p1 p2 q1 q2 path W g G hG (hA.on hW) (hB.on hW) hsA hsB hlA hlB hps hnz (fun nm hm V x y hV hx hy => hcall nm hm V x y (hW.trans (hV.mono hW.size)) hx hy)).mono fun e w' ⟨h1, h2⟩ => ⟨h1, h2.fo⟩
  generalize uniN A.names B.names = U at *
  have HK := hide hK; have HRX := hide hrx; have HRY := hide hry; have HBW := hide hbw; have HG := hide hG
  clear hK hrx hry hbw hcall hnz hA hB hsA hsB hlA hlB hps hG
  go_enter Tryz.func64, Tryz.ntmps64
  go_upto_region 1 with fail
  generalize ((w.alloc (.cells #[.int .i64 A.sort, .slice a1 A.names.length p1, .slice a2 A.kids.length p2] 26)).alloc (.cells #[.int .i64 B.sort, .slice b1 B.names.length q1, .slice b2 B.kids.length q2] 26)) = W0 at HRX HRY HBW ⊢
  refine wp_swap (c' := Code.region 1 fmOps true) (by kernel_rfl) ?_
  refine wp_region_noPanic ?_
  refine fm1 w.heap.size (w.heap.size + 1) T _ _ _ _ _ _ path _ W0 _ (fun c a d v w h => h) ((unhide HRX).drew) ((unhide HRY).drew) (fun W hW => unhide HK W ((unhide HBW).drew.trans (hW.mono (unhide HBW).size))) (by kernel_rfl) ?_
  intro u V0 V1 W na fa nl nc fl fc er g1 g2 hV hE hW hck h1 h2 hg1 hg2 hne
  refine NoPanic.normal ?_
  have hsz := (unhide HBW).size
  have HE : Hid (Below w.heap.size w W ∧ ((U.all g = true ∧ er = .nilIface ∧ FmG U G (New w W) W g1 g2) ∨ (U.all g = false ∧ ∃ (x y : Int) (p : ByteArray), er = .iface 91 (.agg #[.int .i64 x, .int .i64 y, .string p])))) := by
    refine ⟨(unhide HBW).drew.trans (hW.mono hsz), ?_⟩
    rcases hE with ⟨e1, rfl, rfl, e2, N, fvs, hf⟩ | hE
    · exact Or.inl ⟨e1, e2, hf.fm (unhide HG) (Nat.le_trans hsz hV.size) hck (h1.cell (i := 0) (by omega)) (h2.cell (i := 0) (by omega)) (Nat.le_trans hsz hg1) (Nat.le_trans hsz hg2)⟩
    · exact Or.inr hE
  clear hV hE hW hck h1 h2 hg1 hg2 hne hsz HK HRX HRY HBW HG
  have hfr : frL u 26 [(10, .pointer (some ⟨g1, 0, none⟩)), (11, .pointer (some ⟨g2, 0, none⟩)), (12, er)] = (List.range 10).map (fun i => u i) ++ (.pointer (some ⟨g1, 0, none⟩) :: .pointer (some ⟨g2, 0, none⟩) :: er :: (List.range 13).map (fun i => u (i + 13))) := by kernel_rfl
  rw [hfr]
  simp only [List.range, List.range.loop, List.map_cons, List.map_nil, List.cons_append, List.nil_append]
  go_wp2_with fail
  go_ret2
  exact ⟨(unhide HE).1, g1, g2, er, rfl, (unhide HE).2⟩
end Go.Proofs.YtenpghndgdemnaaGreatDoor
