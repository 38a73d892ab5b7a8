/- A part. -/
import Derived.Test.YtbkagahmiibclaaGreatDoorPart14
namespace Go.Proofs.YtbkagahmiibclaaGreatDoor
open Go Go.RowKit
set_option maxRecDepth 100000
set_option maxHeartbeats 12800000
def UnEnd (R : Nat) (w w' : World) (v : Value) (b : List UInt8) (a : Nat) (res : Option (Tr × List UInt8)) (e : Ending) : Prop :=
 But R w w' ∧ match res with
  | some (t, rest) => ∃ (c : C5) (F : List Nat), e = .returned (.agg #[c.c0, c.c1, c.c2, c.c3, c.c4]) ∧ Own w' t c F ∧ F.Nodup ∧ (∀ x, x ∈ F → w.heap.size ≤ x ∧ x < w'.heap.size) ∧ ∃ a', a < a' ∧ Cu R w' v b a' ∧ rest = b.drop a'
  | none => e = fltE
def UnT (f : Nat) : Prop := ∀ (R : Nat) (w : World) (v : Value) (b : List UInt8) (a : Nat), Cu R w v b a → (b.drop a).length < f →
    Calls Tryz.prog 97 #[.pointer (some ⟨R, 0, none⟩)] w fun e w' => UnEnd R w w' v b a (ptree f (b.drop a)) e
def KdEnd (R Y : Nat) (w w' : World) (v : Value) (b : List UInt8) (a : Nat) (s : Int) (res : Option (List ByteArray × List Tr × List UInt8)) (e : Ending) : Prop :=
 But2 R Y w w' ∧ match res with
  | some (ns, ks, rest) => e = .returned (.tuple #[]) ∧ ∃ vN vK xs G a', SInv (Y + 1) Y w' s vN vK ns ks xs G ∧ (∀ x, x ∈ ns → x.size ≤ 255) ∧ a < a' ∧ Cu R w' v b a' ∧ rest = b.drop a'
  | none => e = fltE
theorem KdEnd.no {R Y : Nat} {w w' : World} {v : Value} {b : List UInt8} {a : Nat} {s : Int} {res : Option (List ByteArray × List Tr × List UInt8)} (h : res = none) (hb : But2 R Y w w') : KdEnd R Y w w' v b a s res fltE := by
 subst h; exact ⟨hb, rfl⟩
theorem infoStr16 : (Tryz.prog.info? 9).map (fun i => (i.zero, i.size, i.bytes)) = some (some (.string ByteArray.empty), 1, 16) := by kernel_rfl
theorem infoTree80 : (Tryz.prog.info? 26).map (fun i => (i.zero, i.size, i.bytes)) = some (some (.agg #[.int .i64 0, .int .i64 0, .string ByteArray.empty, .slice none 0 0, .slice none 0 0]), 5, 80) := by kernel_rfl
structure KAt (R Y : Nat) (w wr : World) (v : Value) (b : List UInt8) (s : Int) (a' : Nat) (vN vK : Value) (ns : List ByteArray) (ks : List Tr) (xs : List Value) (G : List Nat) : Prop where
 cu : Cu R wr v b a'
 inv : SInv (Y + 1) Y wr s vN vK ns ks xs G
 but : But2 R Y w wr
 low : w.heap.size = Y + 1
 RY : R < Y
 short : ∀ x, x ∈ ns → x.size ≤ 255
theorem drewN_grown1 (w : World) : w.grownBy w.drew none := ⟨rfl, rfl, rfl, Nat.le_refl _, fun _ _ _ => rfl⟩
theorem KAt.drew {R Y : Nat} {w wr : World} {v : Value} {b : List UInt8} {s : Int} {a' : Nat} {vN vK : Value} {ns : List ByteArray} {ks : List Tr} {xs : List Value} {G : List Nat} (h : KAt R Y w wr v b s a' vN vK ns ks xs G) : KAt R Y w wr.drew v b s a' vN vK ns ks xs G :=
 ⟨h.cu.on (Below.refl _ wr).drew, h.inv.kept (drewN_grown1 wr), h.but.trans (But2.ofR (But.of_below (Below.refl _ wr).drew)), h.low, h.RY, h.short⟩
theorem KAt.alloc {R Y : Nat} {w wr : World} {v : Value} {b : List UInt8} {s : Int} {a' : Nat} {vN vK : Value} {ns : List ByteArray} {ks : List Tr} {xs : List Value} {G : List Nat} (h : KAt R Y w wr v b s a' vN vK ns ks xs G) (o : Obj) : KAt R Y w (wr.alloc o) v b s a' vN vK ns ks xs G :=
 ⟨h.cu.on ((Below.refl _ wr).alloc (Nat.le_refl _) o), h.inv.kept (World.grownBy_alloc wr o none), h.but.trans (But2.ofR (But.alloc R wr o)), h.low, h.RY, h.short⟩
theorem KAt.read {R Y : Nat} {w wr w' : World} {v : Value} {b : List UInt8} {s : Int} {a' a2 : Nat} {vN vK : Value} {ns : List ByteArray} {ks : List Tr} {xs : List Value} {G : List Nat} (h : KAt R Y w wr v b s a' vN vK ns ks xs G) (hb : But R wr w') (hc : Cu R w' v b a2) : KAt R Y w w' v b s a2 vN vK ns ks xs G :=
 ⟨hc, h.inv.but hb (by have := h.RY; omega) (by have := h.RY; omega), h.but.trans (But2.ofR hb), h.low, h.RY, h.short⟩
abbrev zc : C5 := ⟨.int .i64 0, .int .i64 0, .string ⟨#[]⟩, .slice none 0 0, .slice none 0 0⟩
theorem zc_one : ∀ u ∈ c5l zc, u.oneCell' = true := by
 intro u hu
 simp [c5l] at hu
 rcases hu with rfl | rfl | rfl <;> rfl
theorem KAt.ready {R Y : Nat} {w W w8 : World} {v : Value} {b : List UInt8} {s : Int} {a' : Nat} {vN : Value} {aK : Option Addr} {k capK g cap2 : Nat} {ns : List ByteArray} {ks : List Tr} {xs : List Value} {G : List Nat} (h : KAt R Y w W v b s a' vN (.slice aK k capK) ns ks xs G)
 (hown : w8.ownsRow (Y + 1) 26 5 (.slice (some ⟨g, 0, none⟩) (k + 1) cap2) (k + 1) (xs ++ c5l zc)) (hgrow : W.grownBy w8 (Value.slice aK k capK).ownBlock) :
 (w8.cell? ⟨g, k * 5, none⟩ = some zc.c0 ∧ w8.cell? ⟨g, k * 5 + 1, none⟩ = some zc.c1 ∧ w8.cell? ⟨g, k * 5 + 2, none⟩ = some zc.c2 ∧ w8.cell? ⟨g, k * 5 + 3, none⟩ = some zc.c3 ∧ w8.cell? ⟨g, k * 5 + 4, none⟩ = some zc.c4) ∧ (∀ j, w8.frozen? ⟨g, j, none⟩ = false) ∧ w8.cell? ⟨Y, 4, none⟩ = some (.slice aK k capK) ∧ w8.frozen? ⟨Y, 4, none⟩ = false ∧ g ≠ Y ∧ Y ≠ g := by
 have hl : xs.length = k * 5 := by have := hown.1; simp [c5l] at this; omega
 have hgb := (hown.lt g rfl).1
 have hcell : ∀ i, (hi : i < 5) → w8.cell? ⟨g, k * 5 + i, none⟩ = (c5l zc)[i]? := fun i hi => by
  have hj : (xs ++ c5l zc)[k * 5 + i]? = (c5l zc)[i]? := by
   rw [List.getElem?_append_right (by omega), show k * 5 + i - xs.length = i from by omega]
  have hs : ∃ u, (c5l zc)[i]? = some u := ⟨(c5l zc)[i]'(by simp [c5l]; omega), List.getElem?_eq_getElem (by simp [c5l]; omega)⟩
  obtain ⟨u, hu⟩ := hs
  rw [hu]
  have := hown.cells (g := g) rfl (k * 5 + i) u (by rw [hj]; exact hu)
  rw [Addr.add_lit, Nat.zero_add] at this
  exact this
 have hrow : w8.rowIs Y 26 5 (row5 (.int .i64 s) (.int .i64 0) (.string ⟨#[]⟩) vN (.slice aK k capK)) :=
  h.inv.cells.of_block (hgrow.block Y h.inv.cells.lt (fun e => by have := (h.inv.got.row.lt Y e.symm).1; omega))
 refine ⟨⟨by have := hcell 0 (by omega); rw [Nat.add_zero] at this; exact this, hcell 1 (by omega), hcell 2 (by omega), hcell 3 (by omega), hcell 4 (by omega)⟩, fun j => ?_, hrow.cell (i := 4) (by omega), hrow.frozen 4, by omega, by omega⟩
 rcases hown.2 with ⟨hv, _⟩ | ⟨g', cap', cur, hv, _, hh, _⟩
 · simp at hv
 · simp only [Value.slice.injEq, Option.some.injEq, Addr.mk.injEq, and_true] at hv
   obtain ⟨rfl, -⟩ := hv
   simp [World.frozen?, hh]
theorem KAt.push {R Y m : Nat} {w W w8 : World} {v : Value} {b : List UInt8} {s : Int} {a' : Nat} {vN : Value} {aK : Option Addr} {k capK g cap2 : Nat} {ns : List ByteArray} {ks : List Tr} {xs : List Value} {G F : List Nat} {t : Tr} {c : C5} (h : KAt R Y w W v b s a' vN (.slice aK k capK) ns ks xs G) (hks : k = ks.length)
 (ht : Own W t c F) (hnd : F.Nodup) (hF : ∀ x, x ∈ F → m ≤ x ∧ x < W.heap.size) (hGm : ∀ x, x ∈ G → x < m) (hvm : ∀ x, (Value.slice aK k capK).ownBlock = some x → x < m) (hnm : ∀ x, vN.ownBlock = some x → x < m) (hbm : Y + 1 ≤ m)
 (hown : w8.ownsRow (Y + 1) 26 5 (.slice (some ⟨g, 0, none⟩) (k + 1) cap2) (k + 1) (xs ++ c5l zc)) (hgrow : W.grownBy w8 (Value.slice aK k capK).ownBlock) (hat : (Value.slice aK k capK).ownBlock = some g ∨ g = W.heap.size) :
 KAt R Y w ((lay5 w8 g (k * 5) c).setCell ⟨Y, 4, none⟩ (.slice (some ⟨g, 0, none⟩) (k + 1) cap2)) v b s a' vN (.slice (some ⟨g, 0, none⟩) (k + 1) cap2) ns (ks ++ [t]) (xs ++ c5l c) (G ++ F) := by
 have hg2 := grown_lay5 (o := k * 5) (c := c) hgrow (by rcases hat with h1 | h1; exact Or.inl h1; exact Or.inr (by omega))
 have hinv := SInv.kid h.inv ht hnd hF hGm hvm hnm hbm (by rw [← hks]; exact own_last hown c) hg2 (by
  rcases hat with h1 | h1
  · exact Or.inl (by rw [h1]; rfl)
  · exact Or.inr ⟨g, rfl, by omega⟩)
 have hlow := h.low
 have hRY := h.RY
 have hsz := h.but.size
 have hrowR : ∀ x, (Value.slice aK k capK).ownBlock = some x → Y + 1 ≤ x := fun x e => (h.inv.got.row.lt x e).1
 have hset : (lay5 w8 g (k * 5) c).grownBy ((lay5 w8 g (k * 5) c).setCell ⟨Y, 4, none⟩ (.slice (some ⟨g, 0, none⟩) (k + 1) cap2)) (some Y) := But.set _ _ _
 refine ⟨⟨?_, ?_, h.cu.own, h.cu.le, h.cu.small⟩, hinv, ?_, hlow, hRY, h.short⟩
 · refine (h.cu.cells.of_block (hg2.block R h.cu.cells.lt (fun e => by have := hrowR R e.symm; omega))).of_block (hset.block R ?_ (by simp; omega))
   exact Nat.lt_of_lt_of_le h.cu.cells.lt hg2.size
 · refine (h.cu.row.of_block (fun x e => hg2.block x (h.cu.row.own x e).2 (fun e2 => by have := hrowR x e2.symm; have := h.cu.own x e; omega))).of_block (fun x e => hset.block x (Nat.lt_of_lt_of_le (h.cu.row.own x e).2 hg2.size) (by have := h.cu.own x e; simp; omega))
 · refine ⟨hset.os.trans (hg2.os.trans h.but.os), hset.tape.trans (hg2.tape.trans h.but.tape), hset.output.trans (hg2.output.trans h.but.output), Nat.le_trans h.but.size (Nat.le_trans hg2.size hset.size), fun x hx h1 h2 => ?_⟩
   have hxW : x < W.heap.size := by omega
   exact (hset.block x (Nat.lt_of_lt_of_le hxW hg2.size) (by simp; omega)).trans ((hg2.block x hxW (fun e => by have := hrowR x e.symm; omega)).trans (h.but.block x hx h1 h2))
theorem lay5_comm (w : World) {g Y o : Nat} (c : C5) (u : Value) (h : g ≠ Y) : (lay5 w g o c).setCell ⟨Y, 4, none⟩ u = lay5 (w.setCell ⟨Y, 4, none⟩ u) g o c := by
 unfold lay5
 have e : ∀ (W : World) (j : Nat) (x : Value), (W.setCell ⟨g, j, none⟩ x).setCell ⟨Y, 4, none⟩ u = (W.setCell ⟨Y, 4, none⟩ u).setCell ⟨g, j, none⟩ x := fun W j x => setCell_comm W x u h
 rw [e, e, e, e, e]
theorem KAt.name {R Y : Nat} {w W w6 : World} {v : Value} {b : List UInt8} {s : Int} {a' : Nat} {vN vK v' : Value} {ns : List ByteArray} {ks : List Tr} {xs : List Value} {G : List Nat} {nm : ByteArray} (h : KAt R Y w W v b s a' vN vK ns ks xs G) (hsz : nm.size ≤ 255)
 (hown : w6.ownsRow (Y + 1) 9 1 v' (ns.length + 1) (ns.map Value.string ++ [.string nm])) (hgrow : W.grownBy w6 vN.ownBlock) (hat : v'.ownBlock = vN.ownBlock ∨ ∃ g, v'.ownBlock = some g ∧ W.heap.size ≤ g) :
 KAt R Y w (w6.setCell ⟨Y, 3, none⟩ v') v b s a' v' vK (ns ++ [nm]) ks xs G := by
 have hinv := SInv.name h.inv hown hgrow hat
 have hlow := h.low
 have hRY := h.RY
 have hsz2 := h.but.size
 have hrowR : ∀ x, vN.ownBlock = some x → Y + 1 ≤ x := fun x e => (h.inv.names.lt x e).1
 have hset : w6.grownBy (w6.setCell ⟨Y, 3, none⟩ v') (some Y) := But.set _ _ _
 refine ⟨⟨?_, ?_, h.cu.own, h.cu.le, h.cu.small⟩, hinv, ?_, hlow, hRY, fun x hx => ?_⟩
 · refine (h.cu.cells.of_block (hgrow.block R h.cu.cells.lt (fun e => by have := hrowR R e.symm; omega))).of_block (hset.block R ?_ (by simp; omega))
   exact Nat.lt_of_lt_of_le h.cu.cells.lt hgrow.size
 · refine (h.cu.row.of_block (fun x e => hgrow.block x (h.cu.row.own x e).2 (fun e2 => by have := hrowR x e2.symm; have := h.cu.own x e; omega))).of_block (fun x e => hset.block x (Nat.lt_of_lt_of_le (h.cu.row.own x e).2 hgrow.size) (by have := h.cu.own x e; simp; omega))
 · refine ⟨hset.os.trans (hgrow.os.trans h.but.os), hset.tape.trans (hgrow.tape.trans h.but.tape), hset.output.trans (hgrow.output.trans h.but.output), Nat.le_trans h.but.size (Nat.le_trans hgrow.size hset.size), fun x hx h1 h2 => ?_⟩
   have hxW : x < W.heap.size := by omega
   exact (hset.block x (Nat.lt_of_lt_of_le hxW hgrow.size) (by simp; omega)).trans ((hgrow.block x hxW (fun e => by have := hrowR x e.symm; omega)).trans (h.but.block x hx h1 h2))
 · rcases List.mem_append.1 hx with hx | hx
   · exact h.short x hx
   · simp at hx; rw [hx]; exact hsz

theorem kidsP_list (f : Nat) (IH : UnT f) (R Y : Nat) (w : World) (v : Value) (b : List UInt8) (a : Nat) (s : Int) (h : Cu R w v b a) (hinv : SInv (Y + 1) Y w s (.slice none 0 0) (.slice none 0 0) [] [] [] []) (hRY : R < Y) (hYw : w.heap.size = Y + 1) (hlen : (b.drop a).length < f) (hs5 : decide (s = 5) = false) :
 Calls Tryz.prog 127 #[.pointer (some ⟨R, 0, none⟩), .pointer (some ⟨Y, 0, none⟩)] w fun e w' => KdEnd R Y w w' v b a s (match b.drop a with | [] => none | c :: r => pkids (ptree f) (decide (s = 5)) c.toNat r) e := by
 by_cases hlt : a < b.length
 · have hx := b[a].toNat_lt
   have hres : (match b.drop a with | [] => none | c :: r => pkids (ptree f) (decide (s = 5)) c.toNat r) = pkids (ptree f) (decide (s = 5)) b[a].toNat (b.drop (a + 1)) := by rw [List.drop_eq_getElem_cons hlt]
   rw [hres]
   have HNX := hH (nextP_yes R w v b a h hlt)
   have hrel := KRel.start (ptree f) (decide (s = 5)) b[a].toNat (b.drop (a + 1))
   obtain ⟨res, hr⟩ : ∃ res, res = pkids (ptree f) (decide (s = 5)) b[a].toNat (b.drop (a + 1)) := ⟨_, rfl⟩
   rw [← hr]
   have HK0 := hH (fun (w1 : World) (hb : But R w w1) (hc : Cu R w1 v b (a + 1)) => (⟨hc, hinv.but hb (by omega) (by omega), But2.ofR hb, hYw, hRY, fun x hx => by cases hx⟩ : KAt R Y w w1 v b s (a + 1) (.slice none 0 0) (.slice none 0 0) [] [] [] []))
   have hf5 : (s == 5) = decide (s = 5) := rfl
   rw [hs5] at hf5 hrel hr
   clear hs5
   generalize b[a].toNat = n at *
   have HR := hH hr; have HREL := hH hrel; have HI := hH IH; have HLEN := hH hlen
   have hbl := h.small
   have hale := h.le
   obtain ⟨j0, hj, hy0, hy1, hy2⟩ := info_parts infoStr16
   obtain ⟨i0, hi, hz0, hz1, hz2⟩ := info_parts infoTree80
   have HJJ := hH hj; have HY0 := hH hy0; have HY1 := hH hy1; have HY2 := hH hy2
   have HII := hH hi; have HZ0 := hH hz0; have HZ1 := hH hz1; have HZ2 := hH hz2
   clear h hinv hres hr hrel IH hlen hj hy0 hy1 hy2 hi hz0 hz1 hz2
   go_enter Tryz.func127, Tryz.ntmps127
   go_wp2_with fail
   refine (uh HNX).mono ?_
   rintro e w1 ⟨rfl, hcu1, hb1⟩
   have HK1 := hH (uh HK0 w1 hb1 hcu1)
   clear hcu1 hb1 HNX HK0
   go_wp2_with fail
   go_loopw [6] (fun i wr => ∃ (k : Nat) (a' : Nat) (aN : Option Addr) (nN capN : Nat) (aK : Option Addr) (capK : Nat) (ns : List ByteArray) (ks : List Tr) (xs : List Value) (G : List Nat), i = .int .i64 k ∧ k ≤ n ∧ Hid (nN = ns.length ∧ k = ks.length ∧ nN ≤ k) ∧ Hid (a < a') ∧ Hid (KAt R Y w wr v b s a' (.slice aN nN capN) (.slice aK k capK) ns ks xs G) ∧ Hid (KRel (ptree f) false n k (b.drop (a + 1)) (b.drop a') ns ks)) (fun i _ => n - (intOf i).toNat)
   case atStart => exact ⟨0, a + 1, none, 0, 0, none, 0, [], [], [], [], rfl, Nat.zero_le _, ⟨rfl, rfl, Nat.le_refl _⟩, Nat.lt_succ_self _, HK1, HREL⟩
   case round =>
    clear HK1 HREL
    obtain ⟨k, a', aN, nN, capN, aK, capK, ns, ks, xs, G, rfl, hk, HLN, HAA, HK, HREL⟩ := hrel
    by_cases hkn : k < n
    · have y0 := HK.out.inv.cells.cell (i := 0) (by omega)
      simp only [row5] at y0
      have hal : (b.drop a').length < f := by have := uh HLEN; have := HAA.out; simp at *; omega
      cases ht : ptree f (b.drop a') with
      | none =>
        have HXN := hH (show res = none by rw [uh HR]; exact HREL.out.tree_no' hkn ht)
        have hcall : ∀ (W : World), KAt R Y w W v b s a' (.slice aN nN capN) (.slice aK k capK) ns ks xs G → Calls Tryz.prog 97 #[.pointer (some ⟨R, 0, none⟩)] W fun e w7 => e = fltE ∧ Hid (But2 R Y w w7) := fun W hW => by
         have hc := uh HI R W v b a' hW.cu (hal)
         rw [ht] at hc
         refine hc.mono ?_
         rintro e w7 ⟨hb7, rfl⟩
         exact ⟨rfl, hW.but.trans (But2.ofR hb7)⟩
        have HCALL := hH hcall
        have e4 := (HK.out).inv.cells.cell (i := 4) (by omega)
        simp only [row5] at e4
        have e4a : ∀ ob, (wr.alloc ob).cell? ⟨Y, 4, none⟩ = some (.slice aK k capK) := fun ob => ((HK.out).inv.cells.alloc ob).cell (i := 4) (by omega)
        clear hcall
        go_wp2_with fail
        refine wp_region_any (by kernel_rfl) ?_
        change wpAny _ _ _ _ _ _ _ (World.drew _)
        refine wpAny_take (i := 0) (v := .pointer (some ⟨Y, 0, none⟩)) rfl (by kernel_rfl) (by kernel_rfl) (by kernel_rfl) (fun _ _ _ h => h) (Or.inl ⟨by rfl, fun w => by go_simp⟩) ?_
        refine wpAny_take (i := 4) (v := .pointer (some ⟨R, 0, none⟩)) rfl (by kernel_rfl) (by kernel_rfl) (by kernel_rfl) (fun _ _ _ h => h) (Or.inl ⟨by rfl, fun w => by go_simp⟩) ?_
        refine wpAny_take (i := 1) (v := .pointer (some ⟨Y, 0, none⟩)) rfl (by kernel_rfl) (by kernel_rfl) (by kernel_rfl) (fun _ _ _ h => h) (Or.inl ⟨by rfl, fun w => by go_simp⟩) ?_
        refine wpAny_take (i := 2) (v := .pointer (some ⟨Y, 4, none⟩)) rfl (by kernel_rfl) (by kernel_rfl) (by kernel_rfl) (fun _ _ _ h => h) (Or.inl ⟨by rfl, fun w => by go_simp⟩) ?_
        refine wpAny_ready (rs := [3, 5, 7]) (by kernel_rfl) (by simp) ?_
        refine AllReady.cons rfl (fun K hK => ?_) (AllReady.cons rfl (fun K hK => ?_) (AllReady.cons rfl (fun K hK => ?_) AllReady.nil))
        · go_simp
          refine hK _ _ ?_; clear hK K
          refine wpAny_take (i := 6) (v := .int .i64 k) rfl (by kernel_rfl) (by kernel_rfl) (by kernel_rfl) (fun _ _ _ h => h) (Or.inl ⟨by rfl, fun w => by go_simp⟩) ?_
          refine wpAny_ready (rs := [5, 7]) (by kernel_rfl) (by simp) ?_
          refine AllReady.cons rfl (fun K hK => ?_) (AllReady.cons rfl (fun K hK => ?_) AllReady.nil)
          · go_simp
            refine Calls.mono (by first | exact uh HCALL _ (HK.out).drew | exact uh HCALL _ ((HK.out).alloc _).drew | exact uh HCALL _ ((HK.out).drew.alloc _)) ?_
            rintro e w7 ⟨rfl, HB7⟩
            exact And.intro rfl (KdEnd.no (uh HXN) (uh HB7))
          · go_simp
            refine hK _ _ ?_; clear hK K
            refine wpAny_ready (rs := [5]) (by kernel_rfl) (by simp) ?_
            refine AllReady.cons rfl (fun K hK => ?_) AllReady.nil
            go_simp
            refine Calls.mono (by first | exact uh HCALL _ (HK.out).drew | exact uh HCALL _ ((HK.out).alloc _).drew | exact uh HCALL _ ((HK.out).drew.alloc _)) ?_
            rintro e w7 ⟨rfl, HB7⟩
            exact And.intro rfl (KdEnd.no (uh HXN) (uh HB7))
        · go_simp
          refine Calls.mono (by first | exact uh HCALL _ (HK.out).drew | exact uh HCALL _ ((HK.out).alloc _).drew | exact uh HCALL _ ((HK.out).drew.alloc _)) ?_
          rintro e w7 ⟨rfl, HB7⟩
          exact And.intro rfl (KdEnd.no (uh HXN) (uh HB7))
        · go_simp
          refine hK _ _ ?_; clear hK K
          refine wpAny_ready (rs := [3, 5]) (by kernel_rfl) (by simp) ?_
          refine AllReady.cons rfl (fun K hK => ?_) (AllReady.cons rfl (fun K hK => ?_) AllReady.nil)
          · go_simp
            refine hK _ _ ?_; clear hK K
            refine wpAny_take (i := 6) (v := .int .i64 k) rfl (by kernel_rfl) (by kernel_rfl) (by kernel_rfl) (fun _ _ _ h => h) (Or.inl ⟨by rfl, fun w => by go_simp⟩) ?_
            refine wpAny_ready (rs := [5]) (by kernel_rfl) (by simp) ?_
            refine AllReady.cons rfl (fun K hK => ?_) AllReady.nil
            go_simp
            refine Calls.mono (by first | exact uh HCALL _ (HK.out).drew | exact uh HCALL _ ((HK.out).alloc _).drew | exact uh HCALL _ ((HK.out).drew.alloc _)) ?_
            rintro e w7 ⟨rfl, HB7⟩
            exact And.intro rfl (KdEnd.no (uh HXN) (uh HB7))
          · go_simp
            refine Calls.mono (by first | exact uh HCALL _ (HK.out).drew | exact uh HCALL _ ((HK.out).alloc _).drew | exact uh HCALL _ ((HK.out).drew.alloc _)) ?_
            rintro e w7 ⟨rfl, HB7⟩
            exact And.intro rfl (KdEnd.no (uh HXN) (uh HB7))
      | some y =>
        obtain ⟨t, l2⟩ := y
        -- the tree is there
        have hcall : ∀ (W : World), KAt R Y w W v b s a' (.slice aN nN capN) (.slice aK k capK) ns ks xs G → Calls Tryz.prog 97 #[.pointer (some ⟨R, 0, none⟩)] W fun e w7 => ∃ (x0 x1 : Int) (x2 : ByteArray) (ap : Option Addr) (np cp : Nat) (aq : Option Addr) (nq cq : Nat) (F : List Nat) (a4 : Nat), e = .returned (.agg #[.int .i64 x0, .int .i64 x1, .string x2, .slice ap np cp, .slice aq nq cq]) ∧ Hid (Own w7 t ⟨.int .i64 x0, .int .i64 x1, .string x2, .slice ap np cp, .slice aq nq cq⟩ F) ∧ F.Nodup ∧ Hid (∀ b, b ∈ F → W.heap.size ≤ b ∧ b < w7.heap.size) ∧ Hid (KAt R Y w w7 v b s a4 (.slice aN nN capN) (.slice aK k capK) ns ks xs G) ∧ Hid (a' < a4 ∧ l2 = b.drop a4) ∧ w7.cell? ⟨Y, 4, none⟩ = some (.slice aK k capK) ∧ (∀ ob, (w7.alloc ob).cell? ⟨Y, 4, none⟩ = some (.slice aK k capK)) ∧ Hid (But R W w7) := fun W hW => by
         have hc := uh HI R W v b a' hW.cu (hal)
         rw [ht] at hc
         refine hc.mono ?_
         rintro e w7 ⟨hb7, ⟨y0, y1, y2, y3, y4⟩, F, rfl, ho, hnd, hF, a4, h4, hcu7, hl2⟩
         obtain ⟨p0, p1, p2, -, -, -, F1, F2, -, ⟨ap, cp, p3, -⟩, aq, cq, p4, -⟩ := ho.open
         simp only at p0 p1 p2 p3 p4
         subst p0 p1 p2 p3 p4
         have hk7 := hW.read hb7 hcu7
         exact ⟨_, _, _, _, _, _, _, _, _, F, a4, rfl, ho, hnd, hF, hk7, ⟨h4, hl2⟩, hk7.inv.cells.cell (i := 4) (by omega), fun ob => (hk7.inv.cells.alloc ob).cell (i := 4) (by omega), hb7⟩
        have HCALL := hH hcall
        have e4 := (HK.out).inv.cells.cell (i := 4) (by omega)
        simp only [row5] at e4
        have e4a : ∀ ob, (wr.alloc ob).cell? ⟨Y, 4, none⟩ = some (.slice aK k capK) := fun ob => ((HK.out).inv.cells.alloc ob).cell (i := 4) (by omega)
        have hix : (k : Int) < (k : Int) + 1 := by omega
        clear hcall
        go_wp2_with fail
        go_region_law (first
         | (rw [if_pos (by first | rfl | simp [Region.wanted])]; go_simp; refine (uh HCALL _ (HK.out).drew).mono ?_; rintro e w7 ⟨x0, x1, x2, ap, np, cp, aq, nq, cq, F, a4, rfl, HOW, hFn, HFL, HK7, HA4, t4c, t4d, HB7⟩)
         | (rw [if_pos (by first | rfl | simp [Region.wanted])]; go_simp; refine (uh HCALL _ ((HK.out).alloc _).drew).mono ?_; rintro e w7 ⟨x0, x1, x2, ap, np, cp, aq, nq, cq, F, a4, rfl, HOW, hFn, HFL, HK7, HA4, t4c, t4d, HB7⟩; have HPRE := hH (Nat.le_refl 0))
         | (refine step_append_lies _ (by rfl) _ _ _ (by rfl) (Y + 1) 26 i0 _ 5 80 Tryz.underlying24 (uh HII) (uh HZ0) (uh HZ1) (uh HZ2) rfl (by decide) (.slice aK k capK) k xs (by rfl) (by have := (uh HK7).inv.got.row; rw [← HLN.out.2.1] at this; exact this.alloc _) ⟨w7.heap.size, 0, none⟩ 1 1 (c5l zc) (by rfl) (by rfl) (cell_five w7 zc _) zc_one (by decide) (by unfold maxLen; omega) (by omega) (by have := (uh HK7).inv.size; simp; omega) (w7.heap.size + 1) (by simp) ?_
            intro g2 cap2 w8 hown8 hgrow8 hat8 hlt8
            obtain ⟨⟨u0, u1, u2, u3, u4⟩, uf, uY, uYf, ug1, ug2⟩ := ((uh HK7).alloc (.cells #[.int .i64 0, .int .i64 0, .string ⟨#[]⟩, .slice none 0 0, .slice none 0 0] 26)).ready hown8 hgrow8
            simp only at u0 u1 u2 u3 u4
            have uf0 := uf (k * 5)
            have uf1 := uf (k * 5 + 1)
            have uf2 := uf (k * 5 + 2)
            have uf3 := uf (k * 5 + 3)
            have uf4 := uf (k * 5 + 4)
            have HNX8 := hH (KAt.push (m := wr.heap.size) ((uh HK7).alloc (.cells #[.int .i64 0, .int .i64 0, .string ⟨#[]⟩, .slice none 0 0, .slice none 0 0] 26)) HLN.out.2.1 (Own.carry t _ F (fun x hx => Below.heap_alloc _ _ _ (uh HFL x hx).2) (uh HOW)) hFn (fun x hx => ⟨(uh HFL x hx).1, by rw [World.size_alloc]; have := (uh HFL x hx).2; omega⟩) (fun x hx => (HK.out.inv.got.lt x hx).2.1) (fun x e => (HK.out.inv.got.row.lt x e).2) (fun x e => (HK.out.inv.names.lt x e).2) HK.out.inv.size hown8 hgrow8 (by rw [World.size_alloc]; exact hat8))
            have HNA := HNX8
            dsimp only [lay5] at HNA
            rw [lay5_comm _ _ _ ug1] at HNX8
            have HNB := HNX8
            dsimp only [lay5] at HNB
            clear HNX8
            clear hown8 hgrow8 hat8 uf)
         | (refine step_append_lies _ (by rfl) _ _ _ (by rfl) (Y + 1) 26 i0 _ 5 80 Tryz.underlying24 (uh HII) (uh HZ0) (uh HZ1) (uh HZ2) rfl (by decide) (.slice aK k capK) k xs (by rfl) (by have := (uh HK7).inv.got.row; rw [← HLN.out.2.1] at this; exact this) ⟨wr.heap.size, 0, none⟩ 1 1 (c5l zc) (by rfl) (by rfl) (fun jj uu hjj => by
             have hq := cell_five wr zc 26 jj uu hjj
             rw [Addr.add_lit] at hq ⊢
             rw [World.cell?_of_block (w := wr.alloc (.cells #[.int .i64 0, .int .i64 0, .string ⟨#[]⟩, .slice none 0 0, .slice none 0 0] 26)) ((uh HB7).at (b := wr.heap.size) (by show _ < (wr.alloc _).heap.size; simp) (by have := HK.out.RY; have := HK.out.inv.size; omega))]
             exact hq) zc_one (by decide) (by unfold maxLen; omega) (by omega) (by have := (uh HK7).inv.size; omega) w7.heap.size rfl ?_
            intro g2 cap2 w8 hown8 hgrow8 hat8 hlt8
            obtain ⟨⟨u0, u1, u2, u3, u4⟩, uf, uY, uYf, ug1, ug2⟩ := (uh HK7).ready hown8 hgrow8
            simp only at u0 u1 u2 u3 u4
            have uf0 := uf (k * 5)
            have uf1 := uf (k * 5 + 1)
            have uf2 := uf (k * 5 + 2)
            have uf3 := uf (k * 5 + 3)
            have uf4 := uf (k * 5 + 4)
            have HNX8 := hH (KAt.push (m := wr.heap.size) (uh HK7) HLN.out.2.1 (uh HOW) hFn (fun x hx => ⟨Nat.le_trans (by show _ ≤ (wr.alloc _).heap.size; simp) (uh HFL x hx).1, (uh HFL x hx).2⟩) (fun x hx => (HK.out.inv.got.lt x hx).2.1) (fun x e => (HK.out.inv.got.row.lt x e).2) (fun x e => (HK.out.inv.names.lt x e).2) HK.out.inv.size hown8 hgrow8 hat8)
            have HNA := HNX8
            dsimp only [lay5] at HNA
            rw [lay5_comm _ _ _ ug1] at HNX8
            have HNB := HNX8
            dsimp only [lay5] at HNB
            clear HNX8
            clear hown8 hgrow8 hat8 uf)
         | (trace_state; fail))
        all_goals
         go_wp2_with fail
         go_roundw
         case rel => exact ⟨k + 1, a4, aN, nN, capN, some ⟨g2, 0, none⟩, cap2, ns, ks ++ [t], _, _, by go_num, by omega, ⟨HLN.out.1, by simp [HLN.out.2.1], by have := HLN.out.2.2; omega⟩, Nat.lt_trans HAA.out ((uh HA4).1), by first | with_reducible exact HNA | with_reducible exact HNB, by have := (uh HA4).2; rw [← this]; exact HREL.out.step' hkn ht⟩
         case measure => simp [intOf]; omega
    · go_wp2_with fail
      go_end0
      obtain rfl : k = n := by omega
      have hd := HREL.out.done
      refine ⟨HK.out.but, ?_⟩
      rw [uh HR, hd]
      exact ⟨rfl, _, _, xs, G, a', HK.out.inv, HK.out.short, HAA.out, HK.out.cu, rfl⟩
 · have HNX := hH (nextP_no R w v b a h (by omega))
   have hres : (match b.drop a with | [] => none | c :: r => pkids (ptree f) (decide (s = 5)) c.toNat r) = none := by rw [List.drop_eq_nil_of_le (by omega)]
   rw [hres]
   clear h hinv hres IH
   go_enter Tryz.func127, Tryz.ntmps127
   go_wp2_with fail
   refine (uh HNX).mono ?_
   rintro e w1 ⟨rfl, hb1⟩
   exact ⟨rfl, But2.ofR hb1, rfl⟩

theorem kidsP_form (f : Nat) (IH : UnT f) (R Y : Nat) (w : World) (v : Value) (b : List UInt8) (a : Nat) (s : Int) (h : Cu R w v b a) (hinv : SInv (Y + 1) Y w s (.slice none 0 0) (.slice none 0 0) [] [] [] []) (hRY : R < Y) (hYw : w.heap.size = Y + 1) (hlen : (b.drop a).length < f) (hs5 : decide (s = 5) = true) :
 Calls Tryz.prog 127 #[.pointer (some ⟨R, 0, none⟩), .pointer (some ⟨Y, 0, none⟩)] w fun e w' => KdEnd R Y w w' v b a s (match b.drop a with | [] => none | c :: r => pkids (ptree f) (decide (s = 5)) c.toNat r) e := by
 by_cases hlt : a < b.length
 · have hx := b[a].toNat_lt
   have hres : (match b.drop a with | [] => none | c :: r => pkids (ptree f) (decide (s = 5)) c.toNat r) = pkids (ptree f) (decide (s = 5)) b[a].toNat (b.drop (a + 1)) := by rw [List.drop_eq_getElem_cons hlt]
   rw [hres]
   have HNX := hH (nextP_yes R w v b a h hlt)
   have hrel := KRel.start (ptree f) (decide (s = 5)) b[a].toNat (b.drop (a + 1))
   obtain ⟨res, hr⟩ : ∃ res, res = pkids (ptree f) (decide (s = 5)) b[a].toNat (b.drop (a + 1)) := ⟨_, rfl⟩
   rw [← hr]
   have HK0 := hH (fun (w1 : World) (hb : But R w w1) (hc : Cu R w1 v b (a + 1)) => (⟨hc, hinv.but hb (by omega) (by omega), But2.ofR hb, hYw, hRY, fun x hx => by cases hx⟩ : KAt R Y w w1 v b s (a + 1) (.slice none 0 0) (.slice none 0 0) [] [] [] []))
   have hf5 : (s == 5) = decide (s = 5) := rfl
   rw [hs5] at hf5 hrel hr
   clear hs5
   generalize b[a].toNat = n at *
   have HR := hH hr; have HREL := hH hrel; have HI := hH IH; have HLEN := hH hlen
   have hbl := h.small
   have hale := h.le
   obtain ⟨j0, hj, hy0, hy1, hy2⟩ := info_parts infoStr16
   obtain ⟨i0, hi, hz0, hz1, hz2⟩ := info_parts infoTree80
   have HJJ := hH hj; have HY0 := hH hy0; have HY1 := hH hy1; have HY2 := hH hy2
   have HII := hH hi; have HZ0 := hH hz0; have HZ1 := hH hz1; have HZ2 := hH hz2
   clear h hinv hres hr hrel IH hlen hj hy0 hy1 hy2 hi hz0 hz1 hz2
   go_enter Tryz.func127, Tryz.ntmps127
   go_wp2_with fail
   refine (uh HNX).mono ?_
   rintro e w1 ⟨rfl, hcu1, hb1⟩
   have HK1 := hH (uh HK0 w1 hb1 hcu1)
   clear hcu1 hb1 HNX HK0
   go_wp2_with fail
   go_loopw [6] (fun i wr => ∃ (k : Nat) (a' : Nat) (aN : Option Addr) (nN capN : Nat) (aK : Option Addr) (capK : Nat) (ns : List ByteArray) (ks : List Tr) (xs : List Value) (G : List Nat), i = .int .i64 k ∧ k ≤ n ∧ Hid (nN = ns.length ∧ k = ks.length ∧ nN ≤ k) ∧ Hid (a < a') ∧ Hid (KAt R Y w wr v b s a' (.slice aN nN capN) (.slice aK k capK) ns ks xs G) ∧ Hid (KRel (ptree f) true n k (b.drop (a + 1)) (b.drop a') ns ks)) (fun i _ => n - (intOf i).toNat)
   case atStart => exact ⟨0, a + 1, none, 0, 0, none, 0, [], [], [], [], rfl, Nat.zero_le _, ⟨rfl, rfl, Nat.le_refl _⟩, Nat.lt_succ_self _, HK1, HREL⟩
   case round =>
    clear HK1 HREL
    obtain ⟨k, a', aN, nN, capN, aK, capK, ns, ks, xs, G, rfl, hk, HLN, HAA, HK, HREL⟩ := hrel
    by_cases hkn : k < n
    · have y0 := HK.out.inv.cells.cell (i := 0) (by omega)
      simp only [row5] at y0
      have hal : (b.drop a').length < f := by have := uh HLEN; have := HAA.out; simp at *; omega
      cases hp : ptx (b.drop a') with
      | none =>
        have HXN := hH (show res = none by rw [uh HR]; exact HREL.out.name_no hkn hp)
        have hcall : ∀ (W : World), KAt R Y w W v b s a' (.slice aN nN capN) (.slice aK k capK) ns ks xs G → Calls Tryz.prog 94 #[.pointer (some ⟨R, 0, none⟩)] W fun e w7 => e = fltE ∧ Hid (But2 R Y w w7) := fun W hW => by
         refine (textP_no R W v b a' hW.cu hp).mono ?_
         rintro e w7 ⟨rfl, hb7⟩
         exact ⟨rfl, hW.but.trans (But2.ofR hb7)⟩
        have HCALL := hH hcall
        have e3 := HK.out.inv.cells.cell (i := 3) (by omega)
        simp only [row5] at e3
        clear hcall
        go_wp2_with fail
        refine wp_region_any (by kernel_rfl) ?_
        change wpAny _ _ _ _ _ _ _ (World.drew _)
        refine wpAny_take (i := 0) (v := .pointer (some ⟨Y, 0, none⟩)) rfl (by kernel_rfl) (by kernel_rfl) (by kernel_rfl) (fun _ _ _ h => h) (Or.inl ⟨by rfl, fun w => by go_simp⟩) ?_
        refine wpAny_take (i := 1) (v := .pointer (some ⟨Y, 0, none⟩)) rfl (by kernel_rfl) (by kernel_rfl) (by kernel_rfl) (fun _ _ _ h => h) (Or.inl ⟨by rfl, fun w => by go_simp⟩) ?_
        refine wpAny_take (i := 5) (v := .pointer (some ⟨R, 0, none⟩)) rfl (by kernel_rfl) (by kernel_rfl) (by kernel_rfl) (fun _ _ _ h => h) (Or.inl ⟨by rfl, fun w => by go_simp⟩) ?_
        refine wpAny_take (i := 2) (v := .pointer (some ⟨Y, 0, none⟩)) rfl (by kernel_rfl) (by kernel_rfl) (by kernel_rfl) (fun _ _ _ h => h) (Or.inl ⟨by rfl, fun w => by go_simp⟩) ?_
        refine wpAny_take (i := 3) (v := .pointer (some ⟨Y, 3, none⟩)) rfl (by kernel_rfl) (by kernel_rfl) (by kernel_rfl) (fun _ _ _ h => h) (Or.inl ⟨by rfl, fun w => by go_simp⟩) ?_
        refine wpAny_ready (rs := [4, 6]) (by kernel_rfl) (by simp) ?_
        refine AllReady.cons rfl (fun K hK => ?_) (AllReady.cons rfl (fun K hK => ?_) AllReady.nil)
        · go_simp
          refine hK _ _ ?_; clear hK K
          refine wpAny_ready (rs := [6]) (by kernel_rfl) (by simp) ?_
          refine AllReady.cons rfl (fun K hK => ?_) AllReady.nil
          go_simp
          refine (uh HCALL _ HK.out.drew).mono ?_
          rintro e w7 ⟨rfl, HB7⟩
          exact And.intro rfl (KdEnd.no (uh HXN) (uh HB7))
        · go_simp
          refine (uh HCALL _ HK.out.drew).mono ?_
          rintro e w7 ⟨rfl, HB7⟩
          exact And.intro rfl (KdEnd.no (uh HXN) (uh HB7))
      | some y =>
        obtain ⟨nm, l1⟩ := y
        have hnm := (ptx_sound hp).2
        have hcallN : Calls Tryz.prog 94 #[.pointer (some ⟨R, 0, none⟩)] wr.drew fun e w4 => ∃ a1, e = .returned (.string nm) ∧ Hid (KAt R Y w w4 v b s a1 (.slice aN nN capN) (.slice aK k capK) ns ks xs G) ∧ Hid (a' < a1 ∧ l1 = b.drop a1) ∧ w4.cell? ⟨Y, 3, none⟩ = some (.slice aN nN capN) ∧ (∀ ob, (w4.alloc ob).cell? ⟨Y, 3, none⟩ = some (.slice aN nN capN)) := by
         refine (textP_yes R wr.drew v b a' nm l1 HK.out.drew.cu hp).mono ?_
         rintro e w4 ⟨rfl, ⟨a1, h1, hcu4, hl1⟩, hb4⟩
         have hk4 := HK.out.drew.read hb4 hcu4
         exact ⟨a1, rfl, hk4, ⟨h1, hl1⟩, hk4.inv.cells.cell (i := 3) (by omega), fun ob => (hk4.inv.cells.alloc ob).cell (i := 3) (by omega)⟩
        have HCN := hH hcallN
        have e3 := HK.out.inv.cells.cell (i := 3) (by omega)
        simp only [row5] at e3
        clear hcallN
        go_wp2_with fail
        go_cut [] from 13 to 23 (fun wx => ∃ g1 cap1 a1, Hid (KAt R Y w wx v b s a1 (.slice (some ⟨g1, 0, none⟩) (nN + 1) cap1) (.slice aK k capK) (ns ++ [nm]) ks xs G) ∧ Hid (a' < a1 ∧ l1 = b.drop a1))
        case first =>
         go_region_law (first
          | (rw [if_pos (by first | rfl | simp [Region.wanted])]; go_simp; refine (uh HCN).mono ?_; rintro e w4 ⟨a1, rfl, HK4, HL1, t3, t3a⟩)
          | (refine step_append_lies _ (by rfl) _ _ _ (by rfl) (Y + 1) 9 j0 (.string ByteArray.empty) 1 16 Tryz.underlying23 (uh HJJ) (uh HY0) (uh HY1) (uh HY2) rfl (by decide) (.slice aN nN capN) nN (ns.map Value.string) (by rfl) (by have := (uh HK4).inv.names; rw [← HLN.out.1] at this; exact this.alloc _) ⟨w4.heap.size, 0, none⟩ 1 1 [.string nm] (by rfl) (by rfl) (cell_one w4 _ _) (fun u hu => by simp at hu; subst hu; rfl) (by decide) (by have := HLN.out.2.2; unfold maxLen; omega) (by have := HLN.out.2.2; omega) (by have := (uh HK4).inv.size; simp; omega) (w4.heap.size + 1) (by simp) ?_
             intro g1 cap1 w6 hown6 hgrow6 hat6 hlt6
             have uz := (SInv.atN (uh HK4).inv hgrow6).frozen 3
             have u3 := (SInv.atN (uh HK4).inv hgrow6).cell (i := 3) (by omega)
             simp only [row5] at u3
             have HN6 := hH (KAt.name (nm := nm) ((uh HK4).alloc (.cells #[.string nm] 9)) (by omega) (by rw [← HLN.out.1]; exact hown6) hgrow6 (hat6.elim (fun e => Or.inl (by rw [e]; rfl)) (fun e => Or.inr ⟨g1, rfl, by rw [World.size_alloc, e]; exact Nat.le_refl _⟩)))
             clear hown6 hgrow6 hat6 hlt6))
         all_goals
          go_wp2_with fail
          go_meet
          exact ⟨g1, cap1, a1, HN6, HL1⟩
        case rest =>
         obtain ⟨g1, cap1, a1, HKC, HL1⟩ := hcut
         have hal1 : (b.drop a1).length < f := by have := hal; have := HL1.out.1; simp at *; omega
         clear HCN e3
         cases ht : ptree f (b.drop a1) with
         | none =>
           have HXN := hH (show res = none by rw [uh HR]; exact HREL.out.tree_no hkn hp (by rw [HL1.out.2]; exact ht))
           have hcall : ∀ (W : World), KAt R Y w W v b s a1 (.slice (some ⟨g1, 0, none⟩) (nN + 1) cap1) (.slice aK k capK) (ns ++ [nm]) ks xs G → Calls Tryz.prog 97 #[.pointer (some ⟨R, 0, none⟩)] W fun e w7 => e = fltE ∧ Hid (But2 R Y w w7) := fun W hW => by
            have hc := uh HI R W v b a1 hW.cu (hal1)
            rw [ht] at hc
            refine hc.mono ?_
            rintro e w7 ⟨hb7, rfl⟩
            exact ⟨rfl, hW.but.trans (But2.ofR hb7)⟩
           have HCALL := hH hcall
           have e4 := (HKC.out).inv.cells.cell (i := 4) (by omega)
           simp only [row5] at e4
           have e4a : ∀ ob, (wc.alloc ob).cell? ⟨Y, 4, none⟩ = some (.slice aK k capK) := fun ob => ((HKC.out).inv.cells.alloc ob).cell (i := 4) (by omega)
           clear hcall
           go_wp2_with fail
           refine wp_region_any (by kernel_rfl) ?_
           change wpAny _ _ _ _ _ _ _ (World.drew _)
           refine wpAny_take (i := 0) (v := .pointer (some ⟨Y, 0, none⟩)) rfl (by kernel_rfl) (by kernel_rfl) (by kernel_rfl) (fun _ _ _ h => h) (Or.inl ⟨by rfl, fun w => by go_simp⟩) ?_
           refine wpAny_take (i := 4) (v := .pointer (some ⟨R, 0, none⟩)) rfl (by kernel_rfl) (by kernel_rfl) (by kernel_rfl) (fun _ _ _ h => h) (Or.inl ⟨by rfl, fun w => by go_simp⟩) ?_
           refine wpAny_take (i := 1) (v := .pointer (some ⟨Y, 0, none⟩)) rfl (by kernel_rfl) (by kernel_rfl) (by kernel_rfl) (fun _ _ _ h => h) (Or.inl ⟨by rfl, fun w => by go_simp⟩) ?_
           refine wpAny_take (i := 2) (v := .pointer (some ⟨Y, 4, none⟩)) rfl (by kernel_rfl) (by kernel_rfl) (by kernel_rfl) (fun _ _ _ h => h) (Or.inl ⟨by rfl, fun w => by go_simp⟩) ?_
           refine wpAny_ready (rs := [3, 5, 7]) (by kernel_rfl) (by simp) ?_
           refine AllReady.cons rfl (fun K hK => ?_) (AllReady.cons rfl (fun K hK => ?_) (AllReady.cons rfl (fun K hK => ?_) AllReady.nil))
           · go_simp
             refine hK _ _ ?_; clear hK K
             refine wpAny_take (i := 6) (v := .int .i64 k) rfl (by kernel_rfl) (by kernel_rfl) (by kernel_rfl) (fun _ _ _ h => h) (Or.inl ⟨by rfl, fun w => by go_simp⟩) ?_
             refine wpAny_ready (rs := [5, 7]) (by kernel_rfl) (by simp) ?_
             refine AllReady.cons rfl (fun K hK => ?_) (AllReady.cons rfl (fun K hK => ?_) AllReady.nil)
             · go_simp
               refine Calls.mono (by first | exact uh HCALL _ (HKC.out).drew | exact uh HCALL _ ((HKC.out).alloc _).drew | exact uh HCALL _ ((HKC.out).drew.alloc _)) ?_
               rintro e w7 ⟨rfl, HB7⟩
               exact And.intro rfl (KdEnd.no (uh HXN) (uh HB7))
             · go_simp
               refine hK _ _ ?_; clear hK K
               refine wpAny_ready (rs := [5]) (by kernel_rfl) (by simp) ?_
               refine AllReady.cons rfl (fun K hK => ?_) AllReady.nil
               go_simp
               refine Calls.mono (by first | exact uh HCALL _ (HKC.out).drew | exact uh HCALL _ ((HKC.out).alloc _).drew | exact uh HCALL _ ((HKC.out).drew.alloc _)) ?_
               rintro e w7 ⟨rfl, HB7⟩
               exact And.intro rfl (KdEnd.no (uh HXN) (uh HB7))
           · go_simp
             refine Calls.mono (by first | exact uh HCALL _ (HKC.out).drew | exact uh HCALL _ ((HKC.out).alloc _).drew | exact uh HCALL _ ((HKC.out).drew.alloc _)) ?_
             rintro e w7 ⟨rfl, HB7⟩
             exact And.intro rfl (KdEnd.no (uh HXN) (uh HB7))
           · go_simp
             refine hK _ _ ?_; clear hK K
             refine wpAny_ready (rs := [3, 5]) (by kernel_rfl) (by simp) ?_
             refine AllReady.cons rfl (fun K hK => ?_) (AllReady.cons rfl (fun K hK => ?_) AllReady.nil)
             · go_simp
               refine hK _ _ ?_; clear hK K
               refine wpAny_take (i := 6) (v := .int .i64 k) rfl (by kernel_rfl) (by kernel_rfl) (by kernel_rfl) (fun _ _ _ h => h) (Or.inl ⟨by rfl, fun w => by go_simp⟩) ?_
               refine wpAny_ready (rs := [5]) (by kernel_rfl) (by simp) ?_
               refine AllReady.cons rfl (fun K hK => ?_) AllReady.nil
               go_simp
               refine Calls.mono (by first | exact uh HCALL _ (HKC.out).drew | exact uh HCALL _ ((HKC.out).alloc _).drew | exact uh HCALL _ ((HKC.out).drew.alloc _)) ?_
               rintro e w7 ⟨rfl, HB7⟩
               exact And.intro rfl (KdEnd.no (uh HXN) (uh HB7))
             · go_simp
               refine Calls.mono (by first | exact uh HCALL _ (HKC.out).drew | exact uh HCALL _ ((HKC.out).alloc _).drew | exact uh HCALL _ ((HKC.out).drew.alloc _)) ?_
               rintro e w7 ⟨rfl, HB7⟩
               exact And.intro rfl (KdEnd.no (uh HXN) (uh HB7))
         | some y =>
           obtain ⟨t, l2⟩ := y
           -- the tree is there
           have hcall : ∀ (W : World), KAt R Y w W v b s a1 (.slice (some ⟨g1, 0, none⟩) (nN + 1) cap1) (.slice aK k capK) (ns ++ [nm]) ks xs G → Calls Tryz.prog 97 #[.pointer (some ⟨R, 0, none⟩)] W fun e w7 => ∃ (x0 x1 : Int) (x2 : ByteArray) (ap : Option Addr) (np cp : Nat) (aq : Option Addr) (nq cq : Nat) (F : List Nat) (a4 : Nat), e = .returned (.agg #[.int .i64 x0, .int .i64 x1, .string x2, .slice ap np cp, .slice aq nq cq]) ∧ Hid (Own w7 t ⟨.int .i64 x0, .int .i64 x1, .string x2, .slice ap np cp, .slice aq nq cq⟩ F) ∧ F.Nodup ∧ Hid (∀ b, b ∈ F → W.heap.size ≤ b ∧ b < w7.heap.size) ∧ Hid (KAt R Y w w7 v b s a4 (.slice (some ⟨g1, 0, none⟩) (nN + 1) cap1) (.slice aK k capK) (ns ++ [nm]) ks xs G) ∧ Hid (a1 < a4 ∧ l2 = b.drop a4) ∧ w7.cell? ⟨Y, 4, none⟩ = some (.slice aK k capK) ∧ (∀ ob, (w7.alloc ob).cell? ⟨Y, 4, none⟩ = some (.slice aK k capK)) ∧ Hid (But R W w7) := fun W hW => by
            have hc := uh HI R W v b a1 hW.cu (hal1)
            rw [ht] at hc
            refine hc.mono ?_
            rintro e w7 ⟨hb7, ⟨y0, y1, y2, y3, y4⟩, F, rfl, ho, hnd, hF, a4, h4, hcu7, hl2⟩
            obtain ⟨p0, p1, p2, -, -, -, F1, F2, -, ⟨ap, cp, p3, -⟩, aq, cq, p4, -⟩ := ho.open
            simp only at p0 p1 p2 p3 p4
            subst p0 p1 p2 p3 p4
            have hk7 := hW.read hb7 hcu7
            exact ⟨_, _, _, _, _, _, _, _, _, F, a4, rfl, ho, hnd, hF, hk7, ⟨h4, hl2⟩, hk7.inv.cells.cell (i := 4) (by omega), fun ob => (hk7.inv.cells.alloc ob).cell (i := 4) (by omega), hb7⟩
           have HCALL := hH hcall
           have e4 := (HKC.out).inv.cells.cell (i := 4) (by omega)
           simp only [row5] at e4
           have e4a : ∀ ob, (wc.alloc ob).cell? ⟨Y, 4, none⟩ = some (.slice aK k capK) := fun ob => ((HKC.out).inv.cells.alloc ob).cell (i := 4) (by omega)
           have hix : (k : Int) < (k : Int) + 1 := by omega
           clear hcall
           go_wp2_with fail
           go_region_law (first
            | (rw [if_pos (by first | rfl | simp [Region.wanted])]; go_simp; refine (uh HCALL _ (HKC.out).drew).mono ?_; rintro e w7 ⟨x0, x1, x2, ap, np, cp, aq, nq, cq, F, a4, rfl, HOW, hFn, HFL, HK7, HA4, t4c, t4d, HB7⟩)
            | (rw [if_pos (by first | rfl | simp [Region.wanted])]; go_simp; refine (uh HCALL _ ((HKC.out).alloc _).drew).mono ?_; rintro e w7 ⟨x0, x1, x2, ap, np, cp, aq, nq, cq, F, a4, rfl, HOW, hFn, HFL, HK7, HA4, t4c, t4d, HB7⟩; have HPRE := hH (Nat.le_refl 0))
            | (refine step_append_lies _ (by rfl) _ _ _ (by rfl) (Y + 1) 26 i0 _ 5 80 Tryz.underlying24 (uh HII) (uh HZ0) (uh HZ1) (uh HZ2) rfl (by decide) (.slice aK k capK) k xs (by rfl) (by have := (uh HK7).inv.got.row; rw [← HLN.out.2.1] at this; exact this.alloc _) ⟨w7.heap.size, 0, none⟩ 1 1 (c5l zc) (by rfl) (by rfl) (cell_five w7 zc _) zc_one (by decide) (by unfold maxLen; omega) (by omega) (by have := (uh HK7).inv.size; simp; omega) (w7.heap.size + 1) (by simp) ?_
               intro g2 cap2 w8 hown8 hgrow8 hat8 hlt8
               obtain ⟨⟨u0, u1, u2, u3, u4⟩, uf, uY, uYf, ug1, ug2⟩ := ((uh HK7).alloc (.cells #[.int .i64 0, .int .i64 0, .string ⟨#[]⟩, .slice none 0 0, .slice none 0 0] 26)).ready hown8 hgrow8
               simp only at u0 u1 u2 u3 u4
               have uf0 := uf (k * 5)
               have uf1 := uf (k * 5 + 1)
               have uf2 := uf (k * 5 + 2)
               have uf3 := uf (k * 5 + 3)
               have uf4 := uf (k * 5 + 4)
               have HNX8 := hH (KAt.push (m := wc.heap.size) ((uh HK7).alloc (.cells #[.int .i64 0, .int .i64 0, .string ⟨#[]⟩, .slice none 0 0, .slice none 0 0] 26)) HLN.out.2.1 (Own.carry t _ F (fun x hx => Below.heap_alloc _ _ _ (uh HFL x hx).2) (uh HOW)) hFn (fun x hx => ⟨(uh HFL x hx).1, by rw [World.size_alloc]; have := (uh HFL x hx).2; omega⟩) (fun x hx => (HKC.out.inv.got.lt x hx).2.1) (fun x e => (HKC.out.inv.got.row.lt x e).2) (fun x e => (HKC.out.inv.names.lt x e).2) HKC.out.inv.size hown8 hgrow8 (by rw [World.size_alloc]; exact hat8))
               have HNA := HNX8
               dsimp only [lay5] at HNA
               rw [lay5_comm _ _ _ ug1] at HNX8
               have HNB := HNX8
               dsimp only [lay5] at HNB
               clear HNX8
               clear hown8 hgrow8 hat8 uf)
            | (refine step_append_lies _ (by rfl) _ _ _ (by rfl) (Y + 1) 26 i0 _ 5 80 Tryz.underlying24 (uh HII) (uh HZ0) (uh HZ1) (uh HZ2) rfl (by decide) (.slice aK k capK) k xs (by rfl) (by have := (uh HK7).inv.got.row; rw [← HLN.out.2.1] at this; exact this) ⟨wc.heap.size, 0, none⟩ 1 1 (c5l zc) (by rfl) (by rfl) (fun jj uu hjj => by
                have hq := cell_five wc zc 26 jj uu hjj
                rw [Addr.add_lit] at hq ⊢
                rw [World.cell?_of_block (w := wc.alloc (.cells #[.int .i64 0, .int .i64 0, .string ⟨#[]⟩, .slice none 0 0, .slice none 0 0] 26)) ((uh HB7).at (b := wc.heap.size) (by show _ < (wc.alloc _).heap.size; simp) (by have := HKC.out.RY; have := HKC.out.inv.size; omega))]
                exact hq) zc_one (by decide) (by unfold maxLen; omega) (by omega) (by have := (uh HK7).inv.size; omega) w7.heap.size rfl ?_
               intro g2 cap2 w8 hown8 hgrow8 hat8 hlt8
               obtain ⟨⟨u0, u1, u2, u3, u4⟩, uf, uY, uYf, ug1, ug2⟩ := (uh HK7).ready hown8 hgrow8
               simp only at u0 u1 u2 u3 u4
               have uf0 := uf (k * 5)
               have uf1 := uf (k * 5 + 1)
               have uf2 := uf (k * 5 + 2)
               have uf3 := uf (k * 5 + 3)
               have uf4 := uf (k * 5 + 4)
               have HNX8 := hH (KAt.push (m := wc.heap.size) (uh HK7) HLN.out.2.1 (uh HOW) hFn (fun x hx => ⟨Nat.le_trans (by show _ ≤ (wc.alloc _).heap.size; simp) (uh HFL x hx).1, (uh HFL x hx).2⟩) (fun x hx => (HKC.out.inv.got.lt x hx).2.1) (fun x e => (HKC.out.inv.got.row.lt x e).2) (fun x e => (HKC.out.inv.names.lt x e).2) HKC.out.inv.size hown8 hgrow8 hat8)
               have HNA := HNX8
               dsimp only [lay5] at HNA
               rw [lay5_comm _ _ _ ug1] at HNX8
               have HNB := HNX8
               dsimp only [lay5] at HNB
               clear HNX8
               clear hown8 hgrow8 hat8 uf)
            | (trace_state; fail))
           all_goals
            go_wp2_with fail
            go_roundw
            case rel => exact ⟨k + 1, a4, some ⟨g1, 0, none⟩, nN + 1, cap1, some ⟨g2, 0, none⟩, cap2, ns ++ [nm], ks ++ [t], _, _, by go_num, by omega, ⟨by simp [HLN.out.1], by simp [HLN.out.2.1], by have := HLN.out.2.2; omega⟩, Nat.lt_trans HAA.out (Nat.lt_trans HL1.out.1 (uh HA4).1), by first | with_reducible exact HNA | with_reducible exact HNB, by have := (uh HA4).2; rw [← this]; exact HREL.out.step hkn hp (by rw [HL1.out.2]; exact ht)⟩
            case measure => simp [intOf]; omega
    · go_wp2_with fail
      go_end0
      obtain rfl : k = n := by omega
      have hd := HREL.out.done
      refine ⟨HK.out.but, ?_⟩
      rw [uh HR, hd]
      exact ⟨rfl, _, _, xs, G, a', HK.out.inv, HK.out.short, HAA.out, HK.out.cu, rfl⟩
 · have HNX := hH (nextP_no R w v b a h (by omega))
   have hres : (match b.drop a with | [] => none | c :: r => pkids (ptree f) (decide (s = 5)) c.toNat r) = none := by rw [List.drop_eq_nil_of_le (by omega)]
   rw [hres]
   clear h hinv hres IH
   go_enter Tryz.func127, Tryz.ntmps127
   go_wp2_with fail
   refine (uh HNX).mono ?_
   rintro e w1 ⟨rfl, hb1⟩
   exact ⟨rfl, But2.ofR hb1, rfl⟩
end Go.Proofs.YtbkagahmiibclaaGreatDoor
