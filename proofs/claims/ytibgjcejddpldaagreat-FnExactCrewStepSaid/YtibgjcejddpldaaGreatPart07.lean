/- A part. -/
import Derived.Test.YtibgjcejddpldaaGreatPart06
namespace Go.Proofs.YtibgjcejddpldaaGreat
open Go Go.RowKit
def CwVal (w w' : World) (e : Ending) (c : Cw) : Prop :=
 ∃ (v : C7) (Fq Fh Fr Fg Fo Ft Fs : List Nat), e = .returned (.agg #[.int .i64 c.jobs, .int .i64 c.workers, .int .i64 c.window, .int .i64 c.next, .int .i64 c.reader, v.q, v.h, .int .i64 c.closer, v.r, .int .i64 c.keeper, v.g, .int .i64 c.due, v.o, .int .i64 c.user, v.t, .int .i64 c.room, v.s, .int .i64 c.ops]) ∧ CwOwn w' c v Fq Fh Fr Fg Fo Ft Fs ∧ Dj7 Fq Fh Fr Fg Fo Ft Fs ∧ (∀ b, b ∈ F7 Fq Fh Fr Fg Fo Ft Fs → w.heap.size ≤ b ∧ b < w'.heap.size) ∧ Below w.heap.size w w'
theorem ZAt.of_row {W : World} {base : Nat} {v : Value} {zs : List Int} (h : W.ownsRow base 3 1 v zs.length (zs.map zcs).flatten) : ∃ P, ZAt P W v zs := by
 obtain ⟨F, h1, -⟩ := FlatOwn.of_row (rs := zs.map zcs) (n := 1) (by rw [List.length_map]; exact h) (fun r hr => by obtain ⟨f, -, rfl⟩ := List.mem_map.1 hr; rfl)
 exact ⟨_, FlatOwn.at h1⟩
def OwnOr (W : World) (v : Value) (n : Nat) (rs : List (List Value)) (F : List Nat) : Prop := (v = .bool false ∧ F = []) ∨ FlatOwn W v n rs F
theorem OwnOr.carry {W W' : World} {v : Value} {n : Nat} {rs : List (List Value)} {F : List Nat} (h : OwnOr W v n rs F) (hF : ∀ b, b ∈ F → W'.heap[b]? = W.heap[b]?) : OwnOr W' v n rs F := by
 rcases h with h | h
 · exact Or.inl h
 · exact Or.inr (FlatOwn.carry h hF)
theorem OwnOr.out {W : World} {a : Option Addr} {m p n : Nat} {rs : List (List Value)} {F : List Nat} (h : OwnOr W (.slice a m p) n rs F) : FlatOwn W (.slice a m p) n rs F := by
 rcases h with h | h
 · cases h.1
 · exact h
structure WSt (w W : World) (C : Nat) (c : Cw) (B : CrB) (vq vh vr vg vo vt vs : Value) (Fq Fh Fr Fg Fo Ft Fs : List Nat) : Prop where
 cr : CrAt W C c B
 box : W.rowIs w.heap.size 26 18 (r18 [.int .i64 0, .int .i64 0, .int .i64 0, .int .i64 0, .int .i64 0, .slice none 0 0, .slice none 0 0, .int .i64 0, .slice none 0 0, .int .i64 0, .slice none 0 0, .int .i64 0, .slice none 0 0, .int .i64 0, .slice none 0 0, .int .i64 0, .slice none 0 0, .int .i64 0])
 oq : OwnOr W vq 1 (c.queue.map zcs) Fq
 oh : OwnOr W vh 2 (c.hands.map Hd.cs) Fh
 or : OwnOr W vr 1 (c.results.map zcs) Fr
 og : OwnOr W vg 1 (c.ring.map zcs) Fg
 oo : OwnOr W vo 1 (c.out.map zcs) Fo
 ot : OwnOr W vt 1 (c.got.map zcs) Ft
 os : OwnOr W vs 1 (c.shut.map zcs) Fs
 cnt : ∀ b, Fq.count b + Fh.count b + Fr.count b + Fg.count b + Fo.count b + Ft.count b + Fs.count b ≤ 1
 lq : ∀ b, b ∈ Fq → w.heap.size < b ∧ b < W.heap.size
 lh : ∀ b, b ∈ Fh → w.heap.size < b ∧ b < W.heap.size
 lr : ∀ b, b ∈ Fr → w.heap.size < b ∧ b < W.heap.size
 lg : ∀ b, b ∈ Fg → w.heap.size < b ∧ b < W.heap.size
 lo : ∀ b, b ∈ Fo → w.heap.size < b ∧ b < W.heap.size
 lt : ∀ b, b ∈ Ft → w.heap.size < b ∧ b < W.heap.size
 ls : ∀ b, b ∈ Fs → w.heap.size < b ∧ b < W.heap.size
 bel : Below w.heap.size w W
def WS (w W : World) (C : Nat) (c : Cw) (B : CrB) (vq vh vr vg vo vt vs : Value) : Prop := ∃ Fq Fh Fr Fg Fo Ft Fs, WSt w W C c B vq vh vr vg vo vt vs Fq Fh Fr Fg Fo Ft Fs
theorem WS.cr {w W : World} {C : Nat} {c : Cw} {B : CrB} {vq vh vr vg vo vt vs : Value} (h : WS w W C c B vq vh vr vg vo vt vs) : CrAt W C c B := by
 obtain ⟨_, _, _, _, _, _, _, h⟩ := h
 exact h.cr
theorem WS.box {w W : World} {C : Nat} {c : Cw} {B : CrB} {vq vh vr vg vo vt vs : Value} (h : WS w W C c B vq vh vr vg vo vt vs) : W.rowIs w.heap.size 26 18 (r18 [.int .i64 0, .int .i64 0, .int .i64 0, .int .i64 0, .int .i64 0, .slice none 0 0, .slice none 0 0, .int .i64 0, .slice none 0 0, .int .i64 0, .slice none 0 0, .int .i64 0, .slice none 0 0, .int .i64 0, .slice none 0 0, .int .i64 0, .slice none 0 0, .int .i64 0]) := by
 obtain ⟨_, _, _, _, _, _, _, h⟩ := h
 exact h.box
theorem WS.bel {w W : World} {C : Nat} {c : Cw} {B : CrB} {vq vh vr vg vo vt vs : Value} (h : WS w W C c B vq vh vr vg vo vt vs) : Below w.heap.size w W := by
 obtain ⟨_, _, _, _, _, _, _, h⟩ := h
 exact h.bel
theorem WS.below {w W W' : World} {C : Nat} {c : Cw} {B : CrB} {vq vh vr vg vo vt vs : Value} (h : WS w W C c B vq vh vr vg vo vt vs) (hb : Below W.heap.size W W') : WS w W' C c B vq vh vr vg vo vt vs := by
 obtain ⟨Fq, Fh, Fr, Fg, Fo, Ft, Fs, h⟩ := h
 have hs := hb.size
 exact ⟨Fq, Fh, Fr, Fg, Fo, Ft, Fs, h.cr.below hb, h.box.of_block (hb.block _ h.box.lt), h.oq.carry (fun b m => hb.block b (h.lq b m).2), h.oh.carry (fun b m => hb.block b (h.lh b m).2), h.or.carry (fun b m => hb.block b (h.lr b m).2), h.og.carry (fun b m => hb.block b (h.lg b m).2), h.oo.carry (fun b m => hb.block b (h.lo b m).2), h.ot.carry (fun b m => hb.block b (h.lt b m).2), h.os.carry (fun b m => hb.block b (h.ls b m).2), h.cnt, fun b m => ⟨(h.lq b m).1, Nat.lt_of_lt_of_le (h.lq b m).2 hs⟩, fun b m => ⟨(h.lh b m).1, Nat.lt_of_lt_of_le (h.lh b m).2 hs⟩, fun b m => ⟨(h.lr b m).1, Nat.lt_of_lt_of_le (h.lr b m).2 hs⟩, fun b m => ⟨(h.lg b m).1, Nat.lt_of_lt_of_le (h.lg b m).2 hs⟩, fun b m => ⟨(h.lo b m).1, Nat.lt_of_lt_of_le (h.lo b m).2 hs⟩, fun b m => ⟨(h.lt b m).1, Nat.lt_of_lt_of_le (h.lt b m).2 hs⟩, fun b m => ⟨(h.ls b m).1, Nat.lt_of_lt_of_le (h.ls b m).2 hs⟩, h.bel.trans (hb.mono h.bel.size)⟩
theorem count_none {F : List Nat} {b : Nat} (h : b ∉ F) : F.count b = 0 := List.count_eq_zero.2 h
theorem WS.add_q {w W W' : World} {C : Nat} {c : Cw} {B : CrB} {vq vh vr vg vo vt vs : Value} (h : WS w W C c B vq vh vr vg vo vt vs) (hb : Below W.heap.size W W') (v : Value) (F : List Nat) (ho : FlatOwn W' v 1 (c.queue.map zcs) F) (hl : ∀ b, b ∈ F → W.heap.size ≤ b ∧ b < W'.heap.size) (hn : F.Nodup) : WS w W' C c B v vh vr vg vo vt vs := by
 obtain ⟨Fq, Fh, Fr, Fg, Fo, Ft, Fs, h⟩ := h
 have hs := hb.size
 have hbx := h.box.lt
 refine ⟨F, Fh, Fr, Fg, Fo, Ft, Fs, h.cr.below hb, h.box.of_block (hb.block _ h.box.lt), Or.inr ho, h.oh.carry (fun b m => hb.block b (h.lh b m).2), h.or.carry (fun b m => hb.block b (h.lr b m).2), h.og.carry (fun b m => hb.block b (h.lg b m).2), h.oo.carry (fun b m => hb.block b (h.lo b m).2), h.ot.carry (fun b m => hb.block b (h.lt b m).2), h.os.carry (fun b m => hb.block b (h.ls b m).2), fun b => ?_, fun b m => ⟨by have := (hl b m).1; omega, (hl b m).2⟩, fun b m => ⟨(h.lh b m).1, Nat.lt_of_lt_of_le (h.lh b m).2 hs⟩, fun b m => ⟨(h.lr b m).1, Nat.lt_of_lt_of_le (h.lr b m).2 hs⟩, fun b m => ⟨(h.lg b m).1, Nat.lt_of_lt_of_le (h.lg b m).2 hs⟩, fun b m => ⟨(h.lo b m).1, Nat.lt_of_lt_of_le (h.lo b m).2 hs⟩, fun b m => ⟨(h.lt b m).1, Nat.lt_of_lt_of_le (h.lt b m).2 hs⟩, fun b m => ⟨(h.ls b m).1, Nat.lt_of_lt_of_le (h.ls b m).2 hs⟩, h.bel.trans (hb.mono h.bel.size)⟩
 by_cases hlt : b < W.heap.size
 · have h0 := count_none (F := F) (b := b) (fun m => by have := (hl b m).1; omega)
   have := h.cnt b
   omega
 · have h1 := List.nodup_iff_count.1 hn b
   have ch := count_none (F := Fh) (b := b) (fun m => by have := (h.lh b m).2; omega)
   have cr := count_none (F := Fr) (b := b) (fun m => by have := (h.lr b m).2; omega)
   have cg := count_none (F := Fg) (b := b) (fun m => by have := (h.lg b m).2; omega)
   have co := count_none (F := Fo) (b := b) (fun m => by have := (h.lo b m).2; omega)
   have ct := count_none (F := Ft) (b := b) (fun m => by have := (h.lt b m).2; omega)
   have cs := count_none (F := Fs) (b := b) (fun m => by have := (h.ls b m).2; omega)
   omega
theorem WS.add_h {w W W' : World} {C : Nat} {c : Cw} {B : CrB} {vq vh vr vg vo vt vs : Value} (h : WS w W C c B vq vh vr vg vo vt vs) (hb : Below W.heap.size W W') (v : Value) (F : List Nat) (ho : FlatOwn W' v 2 (c.hands.map Hd.cs) F) (hl : ∀ b, b ∈ F → W.heap.size ≤ b ∧ b < W'.heap.size) (hn : F.Nodup) : WS w W' C c B vq v vr vg vo vt vs := by
 obtain ⟨Fq, Fh, Fr, Fg, Fo, Ft, Fs, h⟩ := h
 have hs := hb.size
 have hbx := h.box.lt
 refine ⟨Fq, F, Fr, Fg, Fo, Ft, Fs, h.cr.below hb, h.box.of_block (hb.block _ h.box.lt), h.oq.carry (fun b m => hb.block b (h.lq b m).2), Or.inr ho, h.or.carry (fun b m => hb.block b (h.lr b m).2), h.og.carry (fun b m => hb.block b (h.lg b m).2), h.oo.carry (fun b m => hb.block b (h.lo b m).2), h.ot.carry (fun b m => hb.block b (h.lt b m).2), h.os.carry (fun b m => hb.block b (h.ls b m).2), fun b => ?_, fun b m => ⟨(h.lq b m).1, Nat.lt_of_lt_of_le (h.lq b m).2 hs⟩, fun b m => ⟨by have := (hl b m).1; omega, (hl b m).2⟩, fun b m => ⟨(h.lr b m).1, Nat.lt_of_lt_of_le (h.lr b m).2 hs⟩, fun b m => ⟨(h.lg b m).1, Nat.lt_of_lt_of_le (h.lg b m).2 hs⟩, fun b m => ⟨(h.lo b m).1, Nat.lt_of_lt_of_le (h.lo b m).2 hs⟩, fun b m => ⟨(h.lt b m).1, Nat.lt_of_lt_of_le (h.lt b m).2 hs⟩, fun b m => ⟨(h.ls b m).1, Nat.lt_of_lt_of_le (h.ls b m).2 hs⟩, h.bel.trans (hb.mono h.bel.size)⟩
 by_cases hlt : b < W.heap.size
 · have h0 := count_none (F := F) (b := b) (fun m => by have := (hl b m).1; omega)
   have := h.cnt b
   omega
 · have h1 := List.nodup_iff_count.1 hn b
   have cq := count_none (F := Fq) (b := b) (fun m => by have := (h.lq b m).2; omega)
   have cr := count_none (F := Fr) (b := b) (fun m => by have := (h.lr b m).2; omega)
   have cg := count_none (F := Fg) (b := b) (fun m => by have := (h.lg b m).2; omega)
   have co := count_none (F := Fo) (b := b) (fun m => by have := (h.lo b m).2; omega)
   have ct := count_none (F := Ft) (b := b) (fun m => by have := (h.lt b m).2; omega)
   have cs := count_none (F := Fs) (b := b) (fun m => by have := (h.ls b m).2; omega)
   omega
theorem WS.add_r {w W W' : World} {C : Nat} {c : Cw} {B : CrB} {vq vh vr vg vo vt vs : Value} (h : WS w W C c B vq vh vr vg vo vt vs) (hb : Below W.heap.size W W') (v : Value) (F : List Nat) (ho : FlatOwn W' v 1 (c.results.map zcs) F) (hl : ∀ b, b ∈ F → W.heap.size ≤ b ∧ b < W'.heap.size) (hn : F.Nodup) : WS w W' C c B vq vh v vg vo vt vs := by
 obtain ⟨Fq, Fh, Fr, Fg, Fo, Ft, Fs, h⟩ := h
 have hs := hb.size
 have hbx := h.box.lt
 refine ⟨Fq, Fh, F, Fg, Fo, Ft, Fs, h.cr.below hb, h.box.of_block (hb.block _ h.box.lt), h.oq.carry (fun b m => hb.block b (h.lq b m).2), h.oh.carry (fun b m => hb.block b (h.lh b m).2), Or.inr ho, h.og.carry (fun b m => hb.block b (h.lg b m).2), h.oo.carry (fun b m => hb.block b (h.lo b m).2), h.ot.carry (fun b m => hb.block b (h.lt b m).2), h.os.carry (fun b m => hb.block b (h.ls b m).2), fun b => ?_, fun b m => ⟨(h.lq b m).1, Nat.lt_of_lt_of_le (h.lq b m).2 hs⟩, fun b m => ⟨(h.lh b m).1, Nat.lt_of_lt_of_le (h.lh b m).2 hs⟩, fun b m => ⟨by have := (hl b m).1; omega, (hl b m).2⟩, fun b m => ⟨(h.lg b m).1, Nat.lt_of_lt_of_le (h.lg b m).2 hs⟩, fun b m => ⟨(h.lo b m).1, Nat.lt_of_lt_of_le (h.lo b m).2 hs⟩, fun b m => ⟨(h.lt b m).1, Nat.lt_of_lt_of_le (h.lt b m).2 hs⟩, fun b m => ⟨(h.ls b m).1, Nat.lt_of_lt_of_le (h.ls b m).2 hs⟩, h.bel.trans (hb.mono h.bel.size)⟩
 by_cases hlt : b < W.heap.size
 · have h0 := count_none (F := F) (b := b) (fun m => by have := (hl b m).1; omega)
   have := h.cnt b
   omega
 · have h1 := List.nodup_iff_count.1 hn b
   have cq := count_none (F := Fq) (b := b) (fun m => by have := (h.lq b m).2; omega)
   have ch := count_none (F := Fh) (b := b) (fun m => by have := (h.lh b m).2; omega)
   have cg := count_none (F := Fg) (b := b) (fun m => by have := (h.lg b m).2; omega)
   have co := count_none (F := Fo) (b := b) (fun m => by have := (h.lo b m).2; omega)
   have ct := count_none (F := Ft) (b := b) (fun m => by have := (h.lt b m).2; omega)
   have cs := count_none (F := Fs) (b := b) (fun m => by have := (h.ls b m).2; omega)
   omega
theorem WS.add_g {w W W' : World} {C : Nat} {c : Cw} {B : CrB} {vq vh vr vg vo vt vs : Value} (h : WS w W C c B vq vh vr vg vo vt vs) (hb : Below W.heap.size W W') (v : Value) (F : List Nat) (ho : FlatOwn W' v 1 (c.ring.map zcs) F) (hl : ∀ b, b ∈ F → W.heap.size ≤ b ∧ b < W'.heap.size) (hn : F.Nodup) : WS w W' C c B vq vh vr v vo vt vs := by
 obtain ⟨Fq, Fh, Fr, Fg, Fo, Ft, Fs, h⟩ := h
 have hs := hb.size
 have hbx := h.box.lt
 refine ⟨Fq, Fh, Fr, F, Fo, Ft, Fs, h.cr.below hb, h.box.of_block (hb.block _ h.box.lt), h.oq.carry (fun b m => hb.block b (h.lq b m).2), h.oh.carry (fun b m => hb.block b (h.lh b m).2), h.or.carry (fun b m => hb.block b (h.lr b m).2), Or.inr ho, h.oo.carry (fun b m => hb.block b (h.lo b m).2), h.ot.carry (fun b m => hb.block b (h.lt b m).2), h.os.carry (fun b m => hb.block b (h.ls b m).2), fun b => ?_, fun b m => ⟨(h.lq b m).1, Nat.lt_of_lt_of_le (h.lq b m).2 hs⟩, fun b m => ⟨(h.lh b m).1, Nat.lt_of_lt_of_le (h.lh b m).2 hs⟩, fun b m => ⟨(h.lr b m).1, Nat.lt_of_lt_of_le (h.lr b m).2 hs⟩, fun b m => ⟨by have := (hl b m).1; omega, (hl b m).2⟩, fun b m => ⟨(h.lo b m).1, Nat.lt_of_lt_of_le (h.lo b m).2 hs⟩, fun b m => ⟨(h.lt b m).1, Nat.lt_of_lt_of_le (h.lt b m).2 hs⟩, fun b m => ⟨(h.ls b m).1, Nat.lt_of_lt_of_le (h.ls b m).2 hs⟩, h.bel.trans (hb.mono h.bel.size)⟩
 by_cases hlt : b < W.heap.size
 · have h0 := count_none (F := F) (b := b) (fun m => by have := (hl b m).1; omega)
   have := h.cnt b
   omega
 · have h1 := List.nodup_iff_count.1 hn b
   have cq := count_none (F := Fq) (b := b) (fun m => by have := (h.lq b m).2; omega)
   have ch := count_none (F := Fh) (b := b) (fun m => by have := (h.lh b m).2; omega)
   have cr := count_none (F := Fr) (b := b) (fun m => by have := (h.lr b m).2; omega)
   have co := count_none (F := Fo) (b := b) (fun m => by have := (h.lo b m).2; omega)
   have ct := count_none (F := Ft) (b := b) (fun m => by have := (h.lt b m).2; omega)
   have cs := count_none (F := Fs) (b := b) (fun m => by have := (h.ls b m).2; omega)
   omega
theorem WS.add_o {w W W' : World} {C : Nat} {c : Cw} {B : CrB} {vq vh vr vg vo vt vs : Value} (h : WS w W C c B vq vh vr vg vo vt vs) (hb : Below W.heap.size W W') (v : Value) (F : List Nat) (ho : FlatOwn W' v 1 (c.out.map zcs) F) (hl : ∀ b, b ∈ F → W.heap.size ≤ b ∧ b < W'.heap.size) (hn : F.Nodup) : WS w W' C c B vq vh vr vg v vt vs := by
 obtain ⟨Fq, Fh, Fr, Fg, Fo, Ft, Fs, h⟩ := h
 have hs := hb.size
 have hbx := h.box.lt
 refine ⟨Fq, Fh, Fr, Fg, F, Ft, Fs, h.cr.below hb, h.box.of_block (hb.block _ h.box.lt), h.oq.carry (fun b m => hb.block b (h.lq b m).2), h.oh.carry (fun b m => hb.block b (h.lh b m).2), h.or.carry (fun b m => hb.block b (h.lr b m).2), h.og.carry (fun b m => hb.block b (h.lg b m).2), Or.inr ho, h.ot.carry (fun b m => hb.block b (h.lt b m).2), h.os.carry (fun b m => hb.block b (h.ls b m).2), fun b => ?_, fun b m => ⟨(h.lq b m).1, Nat.lt_of_lt_of_le (h.lq b m).2 hs⟩, fun b m => ⟨(h.lh b m).1, Nat.lt_of_lt_of_le (h.lh b m).2 hs⟩, fun b m => ⟨(h.lr b m).1, Nat.lt_of_lt_of_le (h.lr b m).2 hs⟩, fun b m => ⟨(h.lg b m).1, Nat.lt_of_lt_of_le (h.lg b m).2 hs⟩, fun b m => ⟨by have := (hl b m).1; omega, (hl b m).2⟩, fun b m => ⟨(h.lt b m).1, Nat.lt_of_lt_of_le (h.lt b m).2 hs⟩, fun b m => ⟨(h.ls b m).1, Nat.lt_of_lt_of_le (h.ls b m).2 hs⟩, h.bel.trans (hb.mono h.bel.size)⟩
 by_cases hlt : b < W.heap.size
 · have h0 := count_none (F := F) (b := b) (fun m => by have := (hl b m).1; omega)
   have := h.cnt b
   omega
 · have h1 := List.nodup_iff_count.1 hn b
   have cq := count_none (F := Fq) (b := b) (fun m => by have := (h.lq b m).2; omega)
   have ch := count_none (F := Fh) (b := b) (fun m => by have := (h.lh b m).2; omega)
   have cr := count_none (F := Fr) (b := b) (fun m => by have := (h.lr b m).2; omega)
   have cg := count_none (F := Fg) (b := b) (fun m => by have := (h.lg b m).2; omega)
   have ct := count_none (F := Ft) (b := b) (fun m => by have := (h.lt b m).2; omega)
   have cs := count_none (F := Fs) (b := b) (fun m => by have := (h.ls b m).2; omega)
   omega
theorem WS.add_t {w W W' : World} {C : Nat} {c : Cw} {B : CrB} {vq vh vr vg vo vt vs : Value} (h : WS w W C c B vq vh vr vg vo vt vs) (hb : Below W.heap.size W W') (v : Value) (F : List Nat) (ho : FlatOwn W' v 1 (c.got.map zcs) F) (hl : ∀ b, b ∈ F → W.heap.size ≤ b ∧ b < W'.heap.size) (hn : F.Nodup) : WS w W' C c B vq vh vr vg vo v vs := by
 obtain ⟨Fq, Fh, Fr, Fg, Fo, Ft, Fs, h⟩ := h
 have hs := hb.size
 have hbx := h.box.lt
 refine ⟨Fq, Fh, Fr, Fg, Fo, F, Fs, h.cr.below hb, h.box.of_block (hb.block _ h.box.lt), h.oq.carry (fun b m => hb.block b (h.lq b m).2), h.oh.carry (fun b m => hb.block b (h.lh b m).2), h.or.carry (fun b m => hb.block b (h.lr b m).2), h.og.carry (fun b m => hb.block b (h.lg b m).2), h.oo.carry (fun b m => hb.block b (h.lo b m).2), Or.inr ho, h.os.carry (fun b m => hb.block b (h.ls b m).2), fun b => ?_, fun b m => ⟨(h.lq b m).1, Nat.lt_of_lt_of_le (h.lq b m).2 hs⟩, fun b m => ⟨(h.lh b m).1, Nat.lt_of_lt_of_le (h.lh b m).2 hs⟩, fun b m => ⟨(h.lr b m).1, Nat.lt_of_lt_of_le (h.lr b m).2 hs⟩, fun b m => ⟨(h.lg b m).1, Nat.lt_of_lt_of_le (h.lg b m).2 hs⟩, fun b m => ⟨(h.lo b m).1, Nat.lt_of_lt_of_le (h.lo b m).2 hs⟩, fun b m => ⟨by have := (hl b m).1; omega, (hl b m).2⟩, fun b m => ⟨(h.ls b m).1, Nat.lt_of_lt_of_le (h.ls b m).2 hs⟩, h.bel.trans (hb.mono h.bel.size)⟩
 by_cases hlt : b < W.heap.size
 · have h0 := count_none (F := F) (b := b) (fun m => by have := (hl b m).1; omega)
   have := h.cnt b
   omega
 · have h1 := List.nodup_iff_count.1 hn b
   have cq := count_none (F := Fq) (b := b) (fun m => by have := (h.lq b m).2; omega)
   have ch := count_none (F := Fh) (b := b) (fun m => by have := (h.lh b m).2; omega)
   have cr := count_none (F := Fr) (b := b) (fun m => by have := (h.lr b m).2; omega)
   have cg := count_none (F := Fg) (b := b) (fun m => by have := (h.lg b m).2; omega)
   have co := count_none (F := Fo) (b := b) (fun m => by have := (h.lo b m).2; omega)
   have cs := count_none (F := Fs) (b := b) (fun m => by have := (h.ls b m).2; omega)
   omega
theorem WS.add_s {w W W' : World} {C : Nat} {c : Cw} {B : CrB} {vq vh vr vg vo vt vs : Value} (h : WS w W C c B vq vh vr vg vo vt vs) (hb : Below W.heap.size W W') (v : Value) (F : List Nat) (ho : FlatOwn W' v 1 (c.shut.map zcs) F) (hl : ∀ b, b ∈ F → W.heap.size ≤ b ∧ b < W'.heap.size) (hn : F.Nodup) : WS w W' C c B vq vh vr vg vo vt v := by
 obtain ⟨Fq, Fh, Fr, Fg, Fo, Ft, Fs, h⟩ := h
 have hs := hb.size
 have hbx := h.box.lt
 refine ⟨Fq, Fh, Fr, Fg, Fo, Ft, F, h.cr.below hb, h.box.of_block (hb.block _ h.box.lt), h.oq.carry (fun b m => hb.block b (h.lq b m).2), h.oh.carry (fun b m => hb.block b (h.lh b m).2), h.or.carry (fun b m => hb.block b (h.lr b m).2), h.og.carry (fun b m => hb.block b (h.lg b m).2), h.oo.carry (fun b m => hb.block b (h.lo b m).2), h.ot.carry (fun b m => hb.block b (h.lt b m).2), Or.inr ho, fun b => ?_, fun b m => ⟨(h.lq b m).1, Nat.lt_of_lt_of_le (h.lq b m).2 hs⟩, fun b m => ⟨(h.lh b m).1, Nat.lt_of_lt_of_le (h.lh b m).2 hs⟩, fun b m => ⟨(h.lr b m).1, Nat.lt_of_lt_of_le (h.lr b m).2 hs⟩, fun b m => ⟨(h.lg b m).1, Nat.lt_of_lt_of_le (h.lg b m).2 hs⟩, fun b m => ⟨(h.lo b m).1, Nat.lt_of_lt_of_le (h.lo b m).2 hs⟩, fun b m => ⟨(h.lt b m).1, Nat.lt_of_lt_of_le (h.lt b m).2 hs⟩, fun b m => ⟨by have := (hl b m).1; omega, (hl b m).2⟩, h.bel.trans (hb.mono h.bel.size)⟩
 by_cases hlt : b < W.heap.size
 · have h0 := count_none (F := F) (b := b) (fun m => by have := (hl b m).1; omega)
   have := h.cnt b
   omega
 · have h1 := List.nodup_iff_count.1 hn b
   have cq := count_none (F := Fq) (b := b) (fun m => by have := (h.lq b m).2; omega)
   have ch := count_none (F := Fh) (b := b) (fun m => by have := (h.lh b m).2; omega)
   have cr := count_none (F := Fr) (b := b) (fun m => by have := (h.lr b m).2; omega)
   have cg := count_none (F := Fg) (b := b) (fun m => by have := (h.lg b m).2; omega)
   have co := count_none (F := Fo) (b := b) (fun m => by have := (h.lo b m).2; omega)
   have ct := count_none (F := Ft) (b := b) (fun m => by have := (h.lt b m).2; omega)
   omega
theorem WS.call_q {w W : World} {C : Nat} {c : Cw} {B : CrB} {vq vh vr vg vo vt vs : Value} (h : WS w W C c B vq vh vr vg vo vt vs) : Calls Tryz.prog 77 #[.pointer (some ⟨B.Q, 0, none⟩)] W fun e w' => ∃ a p, e = .returned (.slice a c.queue.length p) ∧ Hid (WS w w' C c B (.slice a c.queue.length p) vh vr vg vo vt vs) := by
 refine (all_any B.Q B.Qp c.hands.length c.queue _ W h.cr.q).mono ?_
 rintro e w' ⟨a, p, rfl, ow, hb⟩
 obtain ⟨F, h1, -, h3, h4⟩ := FlatOwn.of_row (rs := c.queue.map zcs) (n := 1) (by rw [List.length_map]; exact ow) (fun r hr => by obtain ⟨f, -, rfl⟩ := List.mem_map.1 hr; rfl)
 exact ⟨a, p, rfl, h.add_q hb _ F h1 h3 h4⟩
theorem WS.call_h {w W : World} {C : Nat} {c : Cw} {B : CrB} {vq vh vr vg vo vt vs : Value} (h : WS w W C c B vq vh vr vg vo vt vs) : Calls Tryz.prog 78 #[.slice (some ⟨B.H, 0, none⟩) c.hands.length c.hands.length] W fun e w' => ∃ a p, e = .returned (.slice a c.hands.length p) ∧ Hid (WS w w' C c B vq (.slice a c.hands.length p) vr vg vo vt vs) := by
 refine (cloneH_any B.H _ c.hands W h.cr.hands (by have := h.cr.szH; omega)).mono ?_
 rintro e w' ⟨a, p, rfl, ow, hb⟩
 obtain ⟨F, h1, -, h3, h4⟩ := FlatOwn.of_row (rs := c.hands.map Hd.cs) (n := 2) (by rw [List.length_map]; exact ow) (fun r hr => by obtain ⟨f, -, rfl⟩ := List.mem_map.1 hr; rfl)
 exact ⟨a, p, rfl, h.add_h hb _ F h1 h3 h4⟩
theorem WS.call_r {w W : World} {C : Nat} {c : Cw} {B : CrB} {vq vh vr vg vo vt vs : Value} (h : WS w W C c B vq vh vr vg vo vt vs) : Calls Tryz.prog 77 #[.pointer (some ⟨B.R, 0, none⟩)] W fun e w' => ∃ a p, e = .returned (.slice a c.results.length p) ∧ Hid (WS w w' C c B vq vh (.slice a c.results.length p) vg vo vt vs) := by
 refine (all_any B.R B.Rp c.hands.length c.results _ W h.cr.r).mono ?_
 rintro e w' ⟨a, p, rfl, ow, hb⟩
 obtain ⟨F, h1, -, h3, h4⟩ := FlatOwn.of_row (rs := c.results.map zcs) (n := 1) (by rw [List.length_map]; exact ow) (fun r hr => by obtain ⟨f, -, rfl⟩ := List.mem_map.1 hr; rfl)
 exact ⟨a, p, rfl, h.add_r hb _ F h1 h3 h4⟩
theorem WS.call_g {w W : World} {C : Nat} {c : Cw} {B : CrB} {vq vh vr vg vo vt vs : Value} (h : WS w W C c B vq vh vr vg vo vt vs) : Calls Tryz.prog 74 #[.slice (some ⟨B.G, 0, none⟩) c.ring.length B.cg] W fun e w' => ∃ a p, e = .returned (.slice a c.ring.length p) ∧ Hid (WS w w' C c B vq vh vr (.slice a c.ring.length p) vo vt vs) := by
 refine (cloneZ_any _ c.ring W (ZAt.of_row h.cr.ring).choose_spec (by have := h.cr.szG; omega)).mono ?_
 rintro e w' ⟨a, p, rfl, ow, hb⟩
 obtain ⟨F, h1, -, h3, h4⟩ := FlatOwn.of_row (rs := c.ring.map zcs) (n := 1) (by rw [List.length_map]; exact ow) (fun r hr => by obtain ⟨f, -, rfl⟩ := List.mem_map.1 hr; rfl)
 exact ⟨a, p, rfl, h.add_g hb _ F h1 h3 h4⟩
theorem WS.call_o {w W : World} {C : Nat} {c : Cw} {B : CrB} {vq vh vr vg vo vt vs : Value} (h : WS w W C c B vq vh vr vg vo vt vs) : Calls Tryz.prog 77 #[.pointer (some ⟨B.O, 0, none⟩)] W fun e w' => ∃ a p, e = .returned (.slice a c.out.length p) ∧ Hid (WS w w' C c B vq vh vr vg (.slice a c.out.length p) vt vs) := by
 refine (all_any B.O B.Op 1 c.out _ W h.cr.o).mono ?_
 rintro e w' ⟨a, p, rfl, ow, hb⟩
 obtain ⟨F, h1, -, h3, h4⟩ := FlatOwn.of_row (rs := c.out.map zcs) (n := 1) (by rw [List.length_map]; exact ow) (fun r hr => by obtain ⟨f, -, rfl⟩ := List.mem_map.1 hr; rfl)
 exact ⟨a, p, rfl, h.add_o hb _ F h1 h3 h4⟩
theorem WS.call_t {w W : World} {C : Nat} {c : Cw} {B : CrB} {vq vh vr vg vo vt vs : Value} (h : WS w W C c B vq vh vr vg vo vt vs) : Calls Tryz.prog 74 #[.slice B.aT c.got.length B.cT] W fun e w' => ∃ a p, e = .returned (.slice a c.got.length p) ∧ Hid (WS w w' C c B vq vh vr vg vo (.slice a c.got.length p) vs) := by
 refine (cloneZ_any _ c.got W (ZAt.of_row h.cr.got).choose_spec (by have := h.cr.szT; omega)).mono ?_
 rintro e w' ⟨a, p, rfl, ow, hb⟩
 obtain ⟨F, h1, -, h3, h4⟩ := FlatOwn.of_row (rs := c.got.map zcs) (n := 1) (by rw [List.length_map]; exact ow) (fun r hr => by obtain ⟨f, -, rfl⟩ := List.mem_map.1 hr; rfl)
 exact ⟨a, p, rfl, h.add_t hb _ F h1 h3 h4⟩
theorem list4 {l : List Int} (h : l.length = 4) : l.map zcs = [zcs (l.getD 0 0), zcs (l.getD 1 0), zcs (l.getD 2 0), zcs (l.getD 3 0)] := by
 match l, h with
 | [_, _, _, _], _ => rfl
theorem WS.sh {w W : World} {C : Nat} {c : Cw} {B : CrB} {vq vh vr vg vo vt vs : Value} (h : WS w W C c B vq vh vr vg vo vt vs) : WS w (W.alloc (.cells #[.int .i64 (c.shut.getD 0 0), .int .i64 (c.shut.getD 1 0), .int .i64 (c.shut.getD 2 0), .int .i64 (c.shut.getD 3 0)] 3)) C c B vq vh vr vg vo vt (.slice (some ⟨W.heap.size, 0, none⟩) 4 4) := by
 have hr := World.rowIs_alloc W #[.int .i64 (c.shut.getD 0 0), .int .i64 (c.shut.getD 1 0), .int .i64 (c.shut.getD 2 0), .int .i64 (c.shut.getD 3 0)] 3 (r18 [.int .i64 (c.shut.getD 0 0), .int .i64 (c.shut.getD 1 0), .int .i64 (c.shut.getD 2 0), .int .i64 (c.shut.getD 3 0)]) (fun i hi => by
  have hi' : i < 4 := hi
  rcases (show i = 0 ∨ i = 1 ∨ i = 2 ∨ i = 3 by omega) with rfl | rfl | rfl | rfl <;> rfl)
 refine h.add_s ((Below.refl _ _).alloc (Nat.le_refl _) _) _ [W.heap.size] ?_ (fun b hb => ?_) (by simp)
 · rw [list4 h.cr.sh]
   refine ⟨some ⟨W.heap.size, 0, none⟩, 4, rfl, by simp, Or.inr ⟨W.heap.size, rfl, rfl, fun o => hr.frozen o, fun i hi x hx => ?_⟩⟩
   obtain rfl : x = 0 := by omega
   have hi' : i < 4 := hi
   rw [Nat.mul_one, Nat.add_zero, hr.cell hi']
   rcases (show i = 0 ∨ i = 1 ∨ i = 2 ∨ i = 3 by omega) with rfl | rfl | rfl | rfl <;> rfl
 · simp only [List.mem_singleton] at hb
   subst hb
   exact ⟨Nat.le_refl _, by simp⟩
theorem mem_count {F : List Nat} {b : Nat} (h : b ∈ F) : 1 ≤ F.count b := List.one_le_count_iff.2 h
theorem WS.end {w W W' : World} {C : Nat} {c : Cw} {B : CrB} {xq xh xr xg xo xt xs : Option Addr} {mq pq mh ph mr pr mg pg mo po mt pt ms ps : Nat} (h : WS w W C c B (.slice xq mq pq) (.slice xh mh ph) (.slice xr mr pr) (.slice xg mg pg) (.slice xo mo po) (.slice xt mt pt) (.slice xs ms ps)) (hW : ∀ b, b ≠ w.heap.size → W'.heap[b]? = W.heap[b]?) (hsz : W'.heap.size = W.heap.size) (hb : Below w.heap.size w W') : CwVal w W' (.returned (.agg #[.int .i64 c.jobs, .int .i64 c.workers, .int .i64 c.window, .int .i64 c.next, .int .i64 c.reader, (.slice xq mq pq), (.slice xh mh ph), .int .i64 c.closer, (.slice xr mr pr), .int .i64 c.keeper, (.slice xg mg pg), .int .i64 c.due, (.slice xo mo po), .int .i64 c.user, (.slice xt mt pt), .int .i64 c.room, (.slice xs ms ps), .int .i64 c.ops])) c := by
 obtain ⟨Fq, Fh, Fr, Fg, Fo, Ft, Fs, h⟩ := h
 refine ⟨⟨.slice xq mq pq, .slice xh mh ph, .slice xr mr pr, .slice xg mg pg, .slice xo mo po, .slice xt mt pt, .slice xs ms ps⟩, Fq, Fh, Fr, Fg, Fo, Ft, Fs, rfl, ⟨FlatOwn.carry h.oq.out (fun b m => hW b (by have := (h.lq b m).1; omega)), FlatOwn.carry h.oh.out (fun b m => hW b (by have := (h.lh b m).1; omega)), FlatOwn.carry h.or.out (fun b m => hW b (by have := (h.lr b m).1; omega)), FlatOwn.carry h.og.out (fun b m => hW b (by have := (h.lg b m).1; omega)), FlatOwn.carry h.oo.out (fun b m => hW b (by have := (h.lo b m).1; omega)), FlatOwn.carry h.ot.out (fun b m => hW b (by have := (h.lt b m).1; omega)), FlatOwn.carry h.os.out (fun b m => hW b (by have := (h.ls b m).1; omega))⟩, ⟨fun b m k => ?_, fun b m k => ?_, fun b m k => ?_, fun b m k => ?_, fun b m k => ?_, fun b m k => ?_⟩, fun b m => ?_, hb⟩
 · have a1 := mem_count m; have a2 := mem_count k; have := h.cnt b; simp only [List.count_append] at a2; omega
 · have a1 := mem_count m; have a2 := mem_count k; have := h.cnt b; simp only [List.count_append] at a2; omega
 · have a1 := mem_count m; have a2 := mem_count k; have := h.cnt b; simp only [List.count_append] at a2; omega
 · have a1 := mem_count m; have a2 := mem_count k; have := h.cnt b; simp only [List.count_append] at a2; omega
 · have a1 := mem_count m; have a2 := mem_count k; have := h.cnt b; simp only [List.count_append] at a2; omega
 · have a1 := mem_count m; have a2 := mem_count k; have := h.cnt b; omega
 · rw [hsz]
   simp only [F7, List.mem_append] at m
   rcases m with m | m | m | m | m | m | m
   · exact ⟨Nat.le_of_lt (h.lq b m).1, (h.lq b m).2⟩
   · exact ⟨Nat.le_of_lt (h.lh b m).1, (h.lh b m).2⟩
   · exact ⟨Nat.le_of_lt (h.lr b m).1, (h.lr b m).2⟩
   · exact ⟨Nat.le_of_lt (h.lg b m).1, (h.lg b m).2⟩
   · exact ⟨Nat.le_of_lt (h.lo b m).1, (h.lo b m).2⟩
   · exact ⟨Nat.le_of_lt (h.lt b m).1, (h.lt b m).2⟩
   · exact ⟨Nat.le_of_lt (h.ls b m).1, (h.ls b m).2⟩

structure Bx (W : World) (c c' : Cw) (v : C7) (Fq Fh Fr Fg Fo Ft Fs : List Nat) (lo b : Nat) : Prop where
 own : CwOwn W c' v Fq Fh Fr Fg Fo Ft Fs
 dj : Dj7 Fq Fh Fr Fg Fo Ft Fs
 rng : ∀ x, x ∈ F7 Fq Fh Fr Fg Fo Ft Fs → lo ≤ x ∧ x < b
 box : W.rowIs b 26 18 (r18 [.int .i64 c.jobs, .int .i64 c.workers, .int .i64 c.window, .int .i64 c.next, .int .i64 c.reader, v.q, v.h, .int .i64 c.closer, v.r, .int .i64 c.keeper, v.g, .int .i64 c.due, v.o, .int .i64 c.user, v.t, .int .i64 c.room, v.s, .int .i64 c.ops])
 lob : lo ≤ b
theorem Bx.lt {W : World} {c c' : Cw} {v : C7} {Fq Fh Fr Fg Fo Ft Fs : List Nat} {lo b : Nat} (h : Bx W c c' v Fq Fh Fr Fg Fo Ft Fs lo b) : ∀ x, x ∈ F7 Fq Fh Fr Fg Fo Ft Fs → x < W.heap.size := fun x hx => Nat.lt_trans (h.rng x hx).2 h.box.lt
theorem Bx.carry {W W' : World} {c c' : Cw} {v : C7} {Fq Fh Fr Fg Fo Ft Fs : List Nat} {lo b : Nat} (h : Bx W c c' v Fq Fh Fr Fg Fo Ft Fs lo b) (hW : ∀ x, lo ≤ x → x ≤ b → W'.heap[x]? = W.heap[x]?) : Bx W' c c' v Fq Fh Fr Fg Fo Ft Fs lo b :=
 ⟨h.own.carry (fun x hx => hW x (h.rng x hx).1 (Nat.le_of_lt (h.rng x hx).2)), h.dj, h.rng, h.box.of_block (hW b h.lob (Nat.le_refl _)), h.lob⟩
theorem Bx.on {W W' : World} {c c' : Cw} {v : C7} {Fq Fh Fr Fg Fo Ft Fs : List Nat} {lo b : Nat} (h : Bx W c c' v Fq Fh Fr Fg Fo Ft Fs lo b) (hb : Below W.heap.size W W') : Bx W' c c' v Fq Fh Fr Fg Fo Ft Fs lo b :=
 h.carry fun x _ h2 => hb.block x (Nat.lt_of_le_of_lt h2 h.box.lt)
theorem Bx.new {W w1 : World} {c : Cw} {v : C7} {Fq Fh Fr Fg Fo Ft Fs : List Nat} (hown : CwOwn w1 c v Fq Fh Fr Fg Fo Ft Fs) (hdj : Dj7 Fq Fh Fr Fg Fo Ft Fs) (hrng : ∀ b, b ∈ F7 Fq Fh Fr Fg Fo Ft Fs → W.heap.size ≤ b ∧ b < w1.heap.size) (hb : Below W.heap.size W w1) :
 Bx ((w1.alloc (.cells #[.int .i64 0, .int .i64 0, .int .i64 0, .int .i64 0, .int .i64 0, .slice none 0 0, .slice none 0 0, .int .i64 0, .slice none 0 0, .int .i64 0, .slice none 0 0, .int .i64 0, .slice none 0 0, .int .i64 0, .slice none 0 0, .int .i64 0, .slice none 0 0, .int .i64 0] 26)).setCells w1.heap.size 0 [.int .i64 c.jobs, .int .i64 c.workers, .int .i64 c.window, .int .i64 c.next, .int .i64 c.reader, v.q, v.h, .int .i64 c.closer, v.r, .int .i64 c.keeper, v.g, .int .i64 c.due, v.o, .int .i64 c.user, v.t, .int .i64 c.room, v.s, .int .i64 c.ops]) c c v Fq Fh Fr Fg Fo Ft Fs W.heap.size w1.heap.size ∧ Below W.heap.size W ((w1.alloc (.cells #[.int .i64 0, .int .i64 0, .int .i64 0, .int .i64 0, .int .i64 0, .slice none 0 0, .slice none 0 0, .int .i64 0, .slice none 0 0, .int .i64 0, .slice none 0 0, .int .i64 0, .slice none 0 0, .int .i64 0, .slice none 0 0, .int .i64 0, .slice none 0 0, .int .i64 0] 26)).setCells w1.heap.size 0 [.int .i64 c.jobs, .int .i64 c.workers, .int .i64 c.window, .int .i64 c.next, .int .i64 c.reader, v.q, v.h, .int .i64 c.closer, v.r, .int .i64 c.keeper, v.g, .int .i64 c.due, v.o, .int .i64 c.user, v.t, .int .i64 c.room, v.s, .int .i64 c.ops]) := by
 have hr : (w1.alloc (.cells #[.int .i64 0, .int .i64 0, .int .i64 0, .int .i64 0, .int .i64 0, .slice none 0 0, .slice none 0 0, .int .i64 0, .slice none 0 0, .int .i64 0, .slice none 0 0, .int .i64 0, .slice none 0 0, .int .i64 0, .slice none 0 0, .int .i64 0, .slice none 0 0, .int .i64 0] 26)).rowIs w1.heap.size 26 18 _ := box18 w1 noCw nil7 26
 refine ⟨⟨hown.carry (fun x hx => (heap_setCells _ _ _ _ (Nat.ne_of_lt (hrng x hx).2)).trans (Below.heap_alloc _ _ _ (hrng x hx).2)), hdj, hrng, row_all (n := 18) [.int .i64 c.jobs, .int .i64 c.workers, .int .i64 c.window, .int .i64 c.next, .int .i64 c.reader, v.q, v.h, .int .i64 c.closer, v.r, .int .i64 c.keeper, v.g, .int .i64 c.due, v.o, .int .i64 c.user, v.t, .int .i64 c.room, v.s, .int .i64 c.ops] rfl hr, hb.size⟩, below_setCells hb.size _ _ _ (hb.alloc hb.size _)⟩
theorem Bx.there {w1 : World} : (w1.alloc (.cells #[.int .i64 0, .int .i64 0, .int .i64 0, .int .i64 0, .int .i64 0, .slice none 0 0, .slice none 0 0, .int .i64 0, .slice none 0 0, .int .i64 0, .slice none 0 0, .int .i64 0, .slice none 0 0, .int .i64 0, .slice none 0 0, .int .i64 0, .slice none 0 0, .int .i64 0] 26)).there w1.heap.size 0 18 := there_row (box18 w1 noCw nil7 26)
theorem Bx.range {W : World} {c c' : Cw} {v : C7} {Fq Fh Fr Fg Fo Ft Fs : List Nat} {lo b : Nat} (h : Bx W c c' v Fq Fh Fr Fg Fo Ft Fs lo b) : W.rangeAt b 0 [.int .i64 c.jobs, .int .i64 c.workers, .int .i64 c.window, .int .i64 c.next, .int .i64 c.reader, v.q, v.h, .int .i64 c.closer, v.r, .int .i64 c.keeper, v.g, .int .i64 c.due, v.o, .int .i64 c.user, v.t, .int .i64 c.room, v.s, .int .i64 c.ops] := range_row [.int .i64 c.jobs, .int .i64 c.workers, .int .i64 c.window, .int .i64 c.next, .int .i64 c.reader, v.q, v.h, .int .i64 c.closer, v.r, .int .i64 c.keeper, v.g, .int .i64 c.due, v.o, .int .i64 c.user, v.t, .int .i64 c.room, v.s, .int .i64 c.ops] rfl h.box
theorem cw_oneB {W : World} {c : Cw} {v : C7} {Fq Fh Fr Fg Fo Ft Fs : List Nat} (h : CwOwn W c v Fq Fh Fr Fg Fo Ft Fs) : #[.int .i64 c.jobs, .int .i64 c.workers, .int .i64 c.window, .int .i64 c.next, .int .i64 c.reader, v.q, v.h, .int .i64 c.closer, v.r, .int .i64 c.keeper, v.g, .int .i64 c.due, v.o, .int .i64 c.user, v.t, .int .i64 c.room, v.s, .int .i64 c.ops].all (·.oneCell') = true := by
 have one : ∀ {v : Value} {n : Nat} {rs : List (List Value)} {G : List Nat}, FlatOwn W v n rs G → v.oneCell' = true := fun h => by
  obtain ⟨a, cap, rfl, -⟩ := h
  rfl
 refine one18 _ _ _ _ _ _ _ _ _ _ _ v (fun u hu => ?_)
 simp only [List.mem_cons, List.not_mem_nil, or_false] at hu
 rcases hu with rfl | rfl | rfl | rfl | rfl | rfl | rfl
 · exact one h.q
 · exact one h.h
 · exact one h.r
 · exact one h.g
 · exact one h.o
 · exact one h.t
 · exact one h.s
end Go.Proofs.YtibgjcejddpldaaGreat
