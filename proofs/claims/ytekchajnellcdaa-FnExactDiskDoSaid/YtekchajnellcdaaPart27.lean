/- What the law on DiskDo holds behind both calls, and how that is carried on. No conditions. -/
import Derived.Test.YtekchajnellcdaaPart14
import Derived.Test.YtekchajnellcdaaPart26
import Derived.Handy
import Derived.Test.YtekchajnellcdaaRows
import Derived.Test.YtekchajnellcdaaPart00
import Derived.ProofKit
import Derived.OpenShut
import Derived.Deep.Fields
import Derived.Deep.Slices
namespace Go.Proofs.Ytekchajnellcdaa
open Go Go.RowKit

/-- What the law holds behind both calls, the box of its second argument besides. -/
structure CS2 (w wr : World) (c dW dX dG : C3) (S S' : Dk) (B8 B9 BG : Nat) (PW D : Nat → Prop) (F0 F1 F2 : List Nat) (k : Int) (x y : ByteArray) : Prop where
  cs : CSt w wr c dW dX dG S S' B8 B9 BG PW D F0 F1 F2
  bB : wr.rowIs (w.heap.size + 1) 28 3 (row3 (.int .i64 k) (.string x) (.string y))
  lD2 : ∀ b, D b → b ≠ w.heap.size + 1
  lG2 : ∀ b, b ∈ F0 ++ F1 ++ F2 → b ≠ w.heap.size + 1
theorem CS2.on {w wr w' : World} {c dW dX dG : C3} {S S' : Dk} {B8 B9 BG : Nat} {PW D : Nat → Prop} {F0 F1 F2 : List Nat} {k : Int} {x y : ByteArray} (h : CS2 w wr c dW dX dG S S' B8 B9 BG PW D F0 F1 F2 k x y) (hb : Below wr.heap.size wr w') : CS2 w w' c dW dX dG S S' B8 B9 BG PW D F0 F1 F2 k x y :=
  ⟨h.cs.on hb, h.bB.of_block (hb.block _ h.bB.lt), h.lD2, h.lG2⟩
theorem CS2.like {w wr w' : World} {c dW dX dG : C3} {S S' : Dk} {B8 B9 BG : Nat} {PW D E : Nat → Prop} {F0 F1 F2 : List Nat} {k : Int} {x y : ByteArray} (h : CS2 w wr c dW dX dG S S' B8 B9 BG PW D F0 F1 F2 k x y) (hb : Like E wr w') (hE : ∀ b, E b → D b) : CS2 w w' c dW dX dG S S' B8 B9 BG PW D F0 F1 F2 k x y :=
  ⟨h.cs.like hb hE, h.bB.of_block (hb.block _ h.bB.lt (fun hd => h.lD2 _ (hE _ hd) rfl)), h.lD2, h.lG2⟩
theorem CS2.mark {w wr : World} {c dW dX dG : C3} {S S' : Dk} {B8 B9 BG : Nat} {PW D : Nat → Prop} {F0 F1 F2 : List Nat} {k : Int} {x y : ByteArray} (h : CS2 w wr c dW dX dG S S' B8 B9 BG PW D F0 F1 F2 k x y) (hl : mkD S' ≤ 100000) :
    Calls Try.prog 11 #[.agg #[dG.c0, dG.c1, dG.c2], .int .i64 1] wr fun e w' => e = .returned (.int .i64 (1 + mkD S' : Nat)) ∧ CS2 w w' c dW dX dG S (mDk 1 S') B8 B9 BG PW D F0 F1 F2 k x y :=
  (markDisk_own S' dG F0 F1 F2 1 wr h.cs.oG (fun b hb => (h.cs.lG b hb).2.2.2.2.2) h.cs.nd (by omega) (by omega)).mono fun e w' ⟨h1, h2, h3⟩ => ⟨h1, h.cs.exc h3 h2, h.bB.of_block (h3.block _ h.bB.lt (fun hm => h.lG2 _ hm rfl)), h.lD2, h.lG2⟩
theorem CS2.held {w wr : World} {c dW dX dG : C3} {S S' : Dk} {B8 B9 BG : Nat} {PW D : Nat → Prop} {F0 F1 F2 : List Nat} {k : Int} {x y : ByteArray} (h : CS2 w wr c dW dX dG S (mDk 1 S') B8 B9 BG PW D F0 F1 F2 k x y) (hl : mkD S' ≤ 100000) :
    Calls Try.prog 12 #[.agg #[dG.c0, dG.c1, dG.c2], .int .i64 1] wr fun e w' => e = .returned (.int .i64 (1 + mkD S' : Nat)) ∧ CS2 w w' c dW dX dG S (mDk 1 S') B8 B9 BG PW D F0 F1 F2 k x y :=
  (heldDisk_any S' 1 dG wr (fun b hb => (h.cs.lG b hb).2.2.2.2.2) h.cs.oG.at (by omega) (by omega)).mono fun e w' ⟨h1, h2⟩ => ⟨h1, h.on h2⟩
theorem doD_small (d : Dk) (k : Int) (x y : ByteArray) : mkD (doD d k x y).1 ≤ 100000 := by
  by_cases hok : DkOkS d
  case neg => rw [doD_bad hok]; unfold mkD; simp
  have l1 := hok.l1; have l2 := hok.l2; have l3 := hok.l3
  have hd : mkD d ≤ 100000 := by unfold mkD; omega
  by_cases k1 : k = 1
  · subst k1
    by_cases ht : nameOkB x = false ∨ 0 ≤ findF d.files x
    · rw [doD_taken hok ht]; exact hd
    by_cases hfu : 64 ≤ d.files.length ∨ 128 ≤ d.moves.length
    · rw [doD_full hok ht hfu]; exact hd
    rw [doD_make hok ht hfu]
    unfold mkD; simp only [List.length_append, List.length_cons, List.length_nil]; omega
  by_cases k5 : k = 5
  · subst k5
    rw [doD_dirs hok]
    have := namesD_len hok
    unfold mkD keepD; simp only [List.length_map, List.length_nil]; omega
  by_cases hk : 2 ≤ k ∧ k ≤ 4
  case neg => rw [doD_kind hok (by omega)]; exact hd
  by_cases hin : x ∈ namesD d
  case neg => rw [doD_nofile hok hk hin]; exact hd
  obtain ⟨i, hi, -, hxi, hfi⟩ := names_file hin
  by_cases k2 : k = 2
  · subst k2
    by_cases hz : 20000 - ((fileD d x).data.size : Int) < (y.size : Int)
    · rw [doD_addfull hok hin hz]; exact hd
    rw [doD_add hok hin hz, putD_at hfi]
    unfold mkD at hd ⊢; simp only [List.length_set]; exact hd
  by_cases k3 : k = 3
  · subst k3
    rw [doD_sync hok hin, putD_at hfi]
    unfold mkD at hd ⊢; simp only [List.length_set]; exact hd
  obtain rfl : k = 4 := by omega
  by_cases hfu : 128 ≤ d.moves.length
  · rw [doD_gonefull hok hin hfu]; exact hd
  rw [doD_gone hok hin hfu]
  unfold mkD; simp only [List.length_append, List.length_cons, List.length_nil]; omega
noncomputable def lw13Ops : Array Oper := fops Try.f3 13
theorem lw13_neat : Region.noSelect lw13Ops = true ∧ neat lw13Ops = true := ⟨by kernel_rfl, by kernel_rfl⟩
set_option maxRecDepth 100000 in
set_option maxHeartbeats 3200000 in
theorem lw13 (t : Dk) (c0 c1 c2 : Value) (dX : C3) (D : Nat → Prop) (bA bX : Nat) (a3 a6 a7 a9 a10 : Value) (W0 : World) (hA : W0.drew.rowIs bA 26 3 (row3 c0 c1 c2)) (hX : W0.drew.rowIs bX 34 3 (row3 dX.c0 dX.c1 dX.c2)) (hrx : DkAt D W0.drew t dX) (hD : ∀ b, D b → b < W0.drew.heap.size)
    (hCP : ∀ W, Below W0.drew.heap.size W0.drew W → Calls Try.prog 7 #[.agg #[c0, c1, c2]] W fun e w' => ∃ c' : C3, e = .returned (.agg #[c'.c0, c'.c1, c'.c2]) ∧ DkAt (NewF W w') w' t c' ∧ Below W.heap.size W w')
    {l : List Value} (Q : Exit → Act → World → Prop) (hQ : ∀ c a d v w, Q (.panic c) (Act.put a d v) w → Q (.panic c) a w) (hl : lookL [(2, .pointer (some ⟨bA, 0, none⟩)), (3, a3), (6, a6), (7, a7), (8, .pointer (some ⟨bX, 0, none⟩)), (9, a9), (10, a10)] l = (109, [.pointer (some ⟨bA, 0, none⟩), a3, a6, a7, .pointer (some ⟨bX, 0, none⟩), a9, a10]))
    (hend : ∀ v (W' : World), Below W0.drew.heap.size W0.drew W' → Q .normal ⟨(frL v 109 [(2, .pointer (some ⟨bA, 0, none⟩)), (3, a3), (6, a6), (7, a7), (8, .pointer (some ⟨bX, 0, none⟩)), (9, a9), (10, a10), (56, .bool false)]).toArray, []⟩ W') : (Code.region 13 lw13Ops true).wp Try.prog Q ⟨l.toArray, []⟩ W0 := by
  obtain ⟨v0, rfl⟩ := look_fr hl
  have hq : NtQ lw13Ops Q := ⟨lw13_neat, hQ⟩
  refine T_start (S := fun W => Below W0.drew.heap.size W0.drew W) (by kernel_rfl) (Below.refl _ _) ?_
  clear hl hQ
  generalize W0.drew = B at hA hX hrx hD hCP hend ⊢
  refine T_a hq [0, 1] (fun w h => .cons (ld3 rowDiskO info3D (hX.of_block (h.block _ hX.lt))) (.cons (ld3 rowLD infoLD (hA.of_block (h.block _ hA.lt))) Lds.nil)) (by kernel_rfl) ?_
  refine T_one 2 (by kernel_rfl) fun hb => O_go (hCP B hb) (by kernel_rfl) ?_
  rintro e W1 ⟨a, rfl, hat, hb1⟩
  refine ⟨_, rfl, hb1, ?_⟩
  refine T_one 3 (by kernel_rfl) fun hb => O_go (eqDisk_any t D (NewF B W1) dX a W1 (fun b h => Nat.lt_of_lt_of_le (hD b h) hb1.size) (fun b h => h.1.2) (hrx.carry (fun b h => hb1.block b (hD b h)) (fun _ h => h)) hat) (by kernel_rfl) ?_
  rintro e W2 ⟨rfl, hb2⟩
  have hb3 := hb1.trans (hb2.mono hb1.size)
  refine ⟨_, rfl, hb3, ?_⟩
  exact T_z hq [4] (by kernel_rfl) (T_end 109 [(2, .pointer (some ⟨bA, 0, none⟩)), (3, a3), (6, a6), (7, a7), (8, .pointer (some ⟨bX, 0, none⟩)), (9, a9), (10, a10), (56, .bool false)] (by kernel_rfl) (by kernel_rfl) fun _ v => hend v _ hb3)
end Go.Proofs.Ytekchajnellcdaa

/- The walk of the law on DiskDo: whatever disk and write come in, it answers true, and turns nothing that was there. No conditions. -/

namespace Go.Proofs.Ytekchajnellcdaa
open Go Go.RowKit

theorem dcar2 {P Q : Nat → Prop} {w w' : World} (hP : ∀ b, P b → w'.heap[b]? = w.heap[b]?) (hQ : ∀ b, P b → Q b) (d : Dk) (c : C3) (h : DkAt P w d c) : DkAt Q w' d c := h.carry hP hQ
set_option maxRecDepth 100000 in
set_option maxHeartbeats 6400000 in
theorem lawDiskDo_any (t : Dk) (k : Int) (x y : ByteArray) (P : Nat → Prop) (c : C3) (w : World) (hP : ∀ b, P b → b < w.heap.size) (hrep : DkAt P w t c) (hx0 : x.size ≤ 9223372036854775807) (hy0 : y.size ≤ 9223372036854775807) :
    Calls Try.prog 3 #[.agg #[c.c0, c.c1, c.c2], .agg #[.int .i64 k, .string x, .string y]] w fun e w' => e = .returned (.bool true) ∧ Below w.heap.size w w' := by
  obtain ⟨c0, c1, c2⟩ := c
  have HP := hide hP; have HREP := hide hrep
  have hbx : ∀ o o', Below w.heap.size w ((w.alloc o).alloc o') := fun o o' => ((Below.refl _ _).alloc (Nat.le_refl _) o).alloc (by simp) o'
  have hcp : Hid (wDk t ≤ 1048576 → ∀ W, Below w.heap.size w W → Calls Try.prog 7 #[.agg #[c0, c1, c2]] W fun e w' => ∃ c' : C3, e = .returned (.agg #[c'.c0, c'.c1, c'.c2]) ∧ DkAt (NewF W w') w' t c' ∧ Below W.heap.size W w') := fun hwt W hW =>
    toDisk_free t P ⟨c0, c1, c2⟩ W (fun b hb => Nat.lt_of_lt_of_le (hP b hb) hW.size) (hrep.carry (fun b hb => hW.block b (hP b hb)) (fun _ h => h)) hwt
  have HBX := hide hbx
  have HSM := hide (doD_small t k x y)
  have hr0 : ∀ o', ((w.alloc (.cells #[c0, c1, c2] 26)).alloc o').rowIs w.heap.size 26 3 (row3 c0 c1 c2) := fun o' => (row3_alloc w c0 c1 c2 26).alloc o'
  have hr1 : ∀ o, ((w.alloc o).alloc (.cells #[.int .i64 k, .string x, .string y] 28)).rowIs (w.heap.size + 1) 28 3 (row3 (.int .i64 k) (.string x) (.string y)) := fun o => by
    have := row3_alloc (w.alloc o) (.int .i64 k) (.string x) (.string y) 28
    rw [World.size_alloc] at this
    exact this
  have HR0 := hide hr0; have HR1 := hide hr1
  clear hP hrep hbx hr0 hr1
  go_enter Try.func3, Try.ntmps3
  go_wp2_with fail
  refine (szDisk_any t P ⟨c0, c1, c2⟩ _ _ (fun b hb => Nat.lt_of_lt_of_le (unhide HP b hb) (unhide HBX _ _).size) (dcar2 (fun b hb => (unhide HBX _ _).block b (unhide HP b hb)) (fun _ h => h) _ _ (unhide HREP)) (by omega) (by omega)).mono ?_
  rintro e w1 ⟨r, rfl, hr, hb1⟩
  have hs1 : w.heap.size + 2 ≤ w1.heap.size := by have := hb1.size; simpa using this
  have hb01 := (unhide HBX _ _).trans (hb1.mono (unhide HBX _ _).size)
  have q0 := (unhide HR0 _).of_block (hb1.block w.heap.size (by simp; omega))
  have q1 := (unhide HR1 _).of_block (hb1.block (w.heap.size + 1) (by simp))
  clear hb1 HR0 HR1
  rcases hr with rfl | ⟨hr0, hr1⟩
  · have HB := hide hb01; clear hb01 q0 q1
    go_wp2_with fail
    go_ret
    exact ⟨rfl, unhide HB⟩
  have hwt : wDk t ≤ 1048576 := by omega
  have HCP := hide (unhide hcp hwt); have HWT := hide hwt
  have k0 := q1.cell (i := 0) (by omega); have k1 := q1.cell (i := 1) (by omega); have k2 := q1.cell (i := 2) (by omega)
  simp only [row3] at k0 k1 k2
  have Q0 := hide q0; have Q1 := hide q1; have HB1 := hide hb01
  have hrle : r ≤ 1048576 := by omega
  clear q0 q1 hb01 hwt hr1 hcp
  go_wp2_with fail
  refine (szDiskWrite_any k x y r w1 hr0 hrle hx0 hy0).mono ?_
  rintro e w2 ⟨⟨s, rfl, hs⟩, hb2⟩
  clear k0 k1 k2
  have hs2 := hb2.size
  have hb02 := (unhide HB1).trans (hb2.mono (unhide HB1).size)
  rcases hs with rfl | ⟨hs0, hs1'⟩
  · have HB := hide hb02; clear hb02 hb2
    go_wp2_with fail
    go_ret
    exact ⟨rfl, unhide HB⟩
  have hx : x.size ≤ 1048576 := by omega
  have q0 := (unhide Q0).of_block (hb2.block _ (by omega)); have q1 := (unhide Q1).of_block (hb2.block _ (by omega))
  have HQ0 := hide q0; have HQ1 := hide q1; have HB2 := hide hb02; have HS0 := hide hs1'
  clear q0 q1 hb2 hb02 Q0 Q1 HB1 hs1' hr0 hrle
  go_upto_region 8 with fail
  refine wp_swap (c' := Code.region 8 lw8Ops true) (by kernel_rfl) ?_
  refine wp_region_noPanic ?_
  refine lw8 t (doD t k x y).1 (doD t k x y).2 k x y w2 c0 c1 c2 w.heap.size (w.heap.size + 1) (unhide HQ0) (unhide HQ1) (fun W hW => unhide HCP W ((unhide HB2).drew.trans (hW.mono (unhide HB2).drew.size))) (fun a W ha => specDiskDo_any t k x y _ a W (fun _ h => h) ha hx) _ (fun _ _ _ _ _ h => h) (by kernel_rfl) ?_
  intro v dW g6 W3 hoW hrW hg6 hb3
  refine NoPanic.normal ?_
  simp only [frL_eq, frG, List.lookup, Nat.reduceBEq, Nat.reduceAdd, Option.getD_some, Option.getD_none]
  have hdr : w2.drew.heap.size = w2.heap.size := rfl
  rw [hdr] at hoW hg6 hb3
  have hb23 : Below w2.heap.size w2 W3 := ((Below.refl _ w2).drew).trans hb3
  generalize hN : (doD t k x y).1 = N at *
  generalize hn : (doD t k x y).2 = n at *
  have HN := hide hN; have Hn := hide hn
  clear hN hn hdr
  have hs3 := hb23.size
  have hb03 := (unhide HB2).trans (hb23.mono (unhide HB2).size)
  have q0 := (unhide HQ0).of_block (hb23.block _ (by omega))
  have q1 := (unhide HQ1).of_block (hb23.block _ (by omega))
  have k0 := q0.cell (i := 0) (by omega); have k1 := q0.cell (i := 1) (by omega); have k2 := q0.cell (i := 2) (by omega)
  simp only [row3] at k0 k1 k2
  have hgl := hrW.lt
  have HOW := hide hoW; have HRW := hide hrW; have HB3 := hide hb03; have Q0 := hide q0; have Q1 := hide q1
  clear hoW hrW hb3 hb23 hb03 q0 q1 HQ0 HQ1 HB2
  obtain ⟨e0, e1, e2⟩ := dW
  go_wp2_with fail
  refine (unhide HCP _ (unhide HB3)).mono ?_
  rintro e w5 ⟨⟨x0, x1, x2⟩, rfl, hrx, hb5⟩
  clear k0 k1 k2
  have hs5 := hb5.size
  obtain ⟨a0, p0, g0, -, -⟩ := hrx.fs.open
  obtain ⟨a1, p1, g1, -, -⟩ := hrx.ns
  obtain ⟨a2, p2, g2, -, -⟩ := hrx.ms.open
  simp only at g0 g1 g2
  subst g0 g1 g2
  have hal : ∀ o, Below w5.heap.size w5 (w5.alloc o) := fun o => (Below.refl _ _).alloc (Nat.le_refl _) o
  have hb05 := (unhide HB3).trans (hb5.mono (unhide HB3).size)
  have HRX := hide hrx; have HB5 := hide hb5; have HB05 := hide hb05; have HAL := hide hal
  have Q05 := hide ((unhide Q0).of_block (hb5.block _ (by omega))); have Q15 := hide ((unhide Q1).of_block (hb5.block _ (by omega))); have HRW5 := hide ((unhide HRW).of_block (hb5.block _ (by omega)))
  clear hrx hb5 hb05 hal Q0 Q1 HRW
  go_upto_region 10 with fail
  refine wp_swap (c' := Code.region 10 lw10Ops true) (by kernel_rfl) ?_
  refine wp_region_noPanic ?_
  have hN := unhide HN; have hn := unhide Hn
  refine lw10 N n k x y (w5.alloc (.cells #[.slice a0 t.files.length p0, .slice a1 t.names.length p1, .slice a2 t.moves.length p2] 34)) (.slice a0 t.files.length p0) (.slice a1 t.names.length p1) (.slice a2 t.moves.length p2) w5.heap.size (w.heap.size + 1) (row3_alloc w5 _ _ _ _) ((unhide Q15).alloc _) (.pointer (some ⟨w.heap.size, 0, none⟩)) (.pointer (some ⟨g6, 0, none⟩)) (.int .i64 n) (fun W hW => by
    have hW5 : Below w5.heap.size w5 W := ((unhide HAL _).drew).trans (hW.mono (unhide HAL _).drew.size)
    have := implDiskDo_any t k x y (fun b => b < w5.heap.size) ⟨.slice a0 t.files.length p0, .slice a1 t.names.length p1, .slice a2 t.moves.length p2⟩ W (fun b hb => Nat.lt_of_lt_of_le hb hW5.size) ((unhide HRX).carry (fun b hb => hW5.block b hb.1.2) (fun b hb => hb.1.2)) hx
    rw [hN, hn] at this
    exact this) _ (fun _ _ _ _ _ h => h) (by kernel_rfl) ?_
  intro v2 dG F0 F1 F2 gG W7 hoG hrG hgG hb7
  refine NoPanic.normal ?_
  simp only [frL_eq, frG, List.lookup, Nat.reduceBEq, Nat.reduceAdd, Option.getD_some, Option.getD_none]
  obtain ⟨hoG, hnd, hlG⟩ := hoG
  have hdr : (w5.alloc (.cells #[.slice a0 t.files.length p0, .slice a1 t.names.length p1, .slice a2 t.moves.length p2] 34)).drew.heap.size = w5.heap.size + 1 := by
    show (w5.alloc _).heap.size = _
    rw [World.size_alloc]
  rw [hdr] at hlG hgG hb7
  have hb57 : Below w5.heap.size w5 W7 := ((unhide HAL (.cells #[.slice a0 t.files.length p0, .slice a1 t.names.length p1, .slice a2 t.moves.length p2] 34)).drew).trans (hb7.mono (by omega))
  have hpX : W7.rowIs w5.heap.size 34 3 (row3 (.slice a0 t.files.length p0) (.slice a1 t.names.length p1) (.slice a2 t.moves.length p2)) := (row3_alloc w5 _ _ _ _).of_block (hb7.block _ (by omega))
  have hs57 := hb57.size
  have hbs5 := (unhide HB5).size
  have hst : CS2 w W7 ⟨c0, c1, c2⟩ ⟨e0, e1, e2⟩ ⟨.slice a0 t.files.length p0, .slice a1 t.names.length p1, .slice a2 t.moves.length p2⟩ dG N N g6 w5.heap.size gG (fun b => w2.heap.size ≤ b ∧ b < W3.heap.size ∧ b ≠ g6) (NewF W3 w5) F0 F1 F2 k x y := by
    refine ⟨⟨(unhide HB05).trans (hb57.mono (unhide HB05).size), (unhide Q05).of_block (hb57.block _ (by omega)), (unhide HRW5).of_block (hb57.block _ (by omega)), hpX, hrG, (unhide HOW).carry (fun b hb => (hb57.block b (by omega)).trans ((unhide HB5).block b hb.2.1)) (fun _ h => h), hoG, hnd, fun b hb => by omega, fun b hb => ?_, fun b hb => ?_⟩, (unhide Q15).of_block (hb57.block _ (by omega)), fun b hb => ?_, fun b hb => ?_⟩
    · have h1 := hb.1.1; have h2 := hb.1.2
      exact ⟨by omega, by omega, by omega, by omega, fun h => by omega, fun h => by have := (hlG b h).1; omega⟩
    · have h1 := hlG b hb
      exact ⟨by omega, by omega, by omega, h1.2.2, fun h => by omega, h1.2.1⟩
    · have h1 := hb.1.1; omega
    · have h1 := hlG b hb; omega
  have HRX7 := hide (fun (W : World) (hW : Below W7.heap.size W7 W) => (unhide HRX).carry (w' := W) (Q := NewF W3 w5) (fun b hb => (hW.block b (by have := hb.1.2; omega)).trans (hb57.block b hb.1.2)) (fun _ h => h))
  have HFX7 := hide (fun (W : World) (hW : Below W7.heap.size W7 W) b (hb : NewF W3 w5 b) => hb.2.of_block ((hW.block b (by have := hb.1.2; omega)).trans (hb57.block b hb.1.2)))
  have hd57 : Hid (∀ b, NewF W3 w5 b → b < W7.heap.size) := fun b hb => by have := hb.1.2; omega
  have j0 := hst.cs.bG.cell (i := 0) (by omega); have j1 := hst.cs.bG.cell (i := 1) (by omega); have j2 := hst.cs.bG.cell (i := 2) (by omega)
  have k0 := hst.cs.bW.cell (i := 0) (by omega); have k1 := hst.cs.bW.cell (i := 1) (by omega); have k2 := hst.cs.bW.cell (i := 2) (by omega)
  simp only [row3] at j0 j1 j2 k0 k1 k2
  have HST := hide hst
  clear hst hpX hoG hrG hgG hb7 hnd hlG hb57 hdr HRX HB5 HB05 HAL Q05 Q15 HRW5 HOW HB3 hN hn hgl hg6 hs57 hbs5 hs5 hs3
  generalize NewF W3 w5 = D1 at *
  generalize (fun b => w2.heap.size ≤ b ∧ b < W3.heap.size ∧ b ≠ g6) = PW at *
  generalize w5.heap.size = B9 at *
  obtain ⟨f0, f1, f2⟩ := dG
  go_wp2_with fail
  refine (unhide HST).cs.eq.mono ?_
  rintro e wa ⟨rfl, hba⟩
  clear j0 j1 j2 k0 k1 k2
  have HSTa := hide ((unhide HST).on hba); have HBa := hide hba
  clear hba
  go_upto_region 13 with fail
  refine wp_swap (c' := Code.region 13 lw13Ops true) (by kernel_rfl) ?_
  refine wp_region_noPanic ?_
  refine lw13 t c0 c1 c2 ⟨.slice a0 t.files.length p0, .slice a1 t.names.length p1, .slice a2 t.moves.length p2⟩ D1 w.heap.size B9 (.pointer (some ⟨w.heap.size + 1, 0, none⟩)) (.pointer (some ⟨g6, 0, none⟩)) (.int .i64 n) (.pointer (some ⟨gG, 0, none⟩)) (.int .i64 n) wa (unhide HSTa).cs.bA (unhide HSTa).cs.bX (unhide HRX7 wa.drew (unhide HBa).drew) (fun b hb => Nat.lt_of_lt_of_le (hd57.out b hb) (unhide HBa).size) (fun W hW => unhide HCP W ((unhide HSTa).cs.below.drew.trans (hW.mono (unhide HSTa).cs.below.drew.size))) _ (fun _ _ _ _ _ h => h) (by kernel_rfl) ?_
  intro v3 wc hbc
  refine NoPanic.normal ?_
  simp only [frL_eq, frG, List.lookup, Nat.reduceBEq, Nat.reduceAdd, Option.getD_some, Option.getD_none]
  have hbac : Below wa.heap.size wa wc := ((Below.refl _ wa).drew).trans hbc
  have hstc := (unhide HSTa).on hbac
  have hBc := (unhide HBa).trans (hbac.mono (unhide HBa).size)
  have j0 := hstc.cs.bX.cell (i := 0) (by omega); have j1 := hstc.cs.bX.cell (i := 1) (by omega); have j2 := hstc.cs.bX.cell (i := 2) (by omega)
  simp only [row3] at j0 j1 j2
  have hmkb : 1 + mkD t ≤ 1099511627776 := by
    have h := unhide HWT
    have := wF_len t.files; have := wS_len t.names; have := wM_len t.moves
    unfold wDk at h; unfold mkD; omega
  have HMK := hide (markDisk_shp D1 t ⟨.slice a0 t.files.length p0, .slice a1 t.names.length p1, .slice a2 t.moves.length p2⟩ 1 wc ((unhide HRX7 wc hBc).shp (fun b hb => unhide HFX7 wc hBc b hb)) (fun b hb => Nat.lt_of_lt_of_le (hd57.out b hb) hBc.size) (by omega) hmkb)
  have HSTc := hide hstc
  clear hbc hbac hBc hstc HRX7 HFX7 HSTa HBa hd57 hmkb HST
  go_wp2_with fail
  refine (unhide HMK).mono ?_
  rintro e wf ⟨rfl, hlf⟩
  have hstg := (unhide HSTc).like hlf (fun b hb => hb)
  clear j0 j1 j2 hlf HMK HSTc
  generalize 1 + mkD t = mz at *
  have j0 := hstg.cs.bG.cell (i := 0) (by omega); have j1 := hstg.cs.bG.cell (i := 1) (by omega); have j2 := hstg.cs.bG.cell (i := 2) (by omega)
  have k0 := hstg.cs.bW.cell (i := 0) (by omega); have k1 := hstg.cs.bW.cell (i := 1) (by omega); have k2 := hstg.cs.bW.cell (i := 2) (by omega)
  simp only [row3] at j0 j1 j2 k0 k1 k2
  have HSTg := hide hstg
  clear hstg
  go_wp2_with fail
  refine (unhide HSTg).cs.eq.mono ?_
  rintro e wh ⟨rfl, hbh⟩
  have hsth := (unhide HSTg).on hbh
  clear hbh HSTg j0 j1 j2 k0 k1 k2
  have j0 := hsth.cs.bG.cell (i := 0) (by omega); have j1 := hsth.cs.bG.cell (i := 1) (by omega); have j2 := hsth.cs.bG.cell (i := 2) (by omega)
  simp only [row3] at j0 j1 j2
  have hsm := unhide HSM
  have HMT := hide (hsth.mark hsm)
  clear hsth
  go_wp2_with fail
  refine (unhide HMT).mono ?_
  rintro e wi ⟨rfl, hsti⟩
  clear j0 j1 j2 HMT
  have j0 := hsti.cs.bG.cell (i := 0) (by omega); have j1 := hsti.cs.bG.cell (i := 1) (by omega); have j2 := hsti.cs.bG.cell (i := 2) (by omega)
  simp only [row3] at j0 j1 j2
  have HHT := hide (hsti.held hsm)
  clear hsti
  generalize hmt : 1 + mkD N = mt at *
  have hmt1 : 1 ≤ mt := by omega
  have hmt2 : mt ≤ 100001 := by omega
  have HME := hide hmt
  clear hmt
  go_wp2_with fail
  refine (unhide HHT).mono ?_
  rintro e wj ⟨rfl, hstj⟩
  clear HHT j0 j1 j2
  have HSTj := hide hstj
  clear hstj
  go_upto_region 27 with fail
  refine wp_swap (c' := Code.region 27 lw27Ops true) (by kernel_rfl) ?_
  refine wp_region_noPanic ?_
  refine lw27 t N n k x y wj c0 c1 c2 w.heap.size (w.heap.size + 1) (unhide HSTj).cs.bA (unhide HSTj).bB (.pointer (some ⟨g6, 0, none⟩)) (.int .i64 n) (.pointer (some ⟨gG, 0, none⟩)) (.int .i64 (mt : Nat)) (fun W hW => unhide HCP W ((unhide HSTj).cs.below.drew.trans (hW.mono (unhide HSTj).cs.below.drew.size))) (fun a W ha => by
    have := (implDiskDo_any t k x y (fun b => b < W.heap.size) a W (fun _ h => h) ha hx).mono fun e w' h => h.doEnd
    rw [unhide HN, unhide Hn] at this
    exact this) _ (fun _ _ _ _ _ h => h) (by kernel_rfl) ?_
  intro v4 dH gH wm hoH hrH hgH hbm
  refine NoPanic.normal ?_
  simp only [frL_eq, frG, List.lookup, Nat.reduceBEq, Nat.reduceAdd, Option.getD_some, Option.getD_none]
  have hbjm : Below wj.heap.size wj wm := ((Below.refl _ wj).drew).trans hbm
  have hstm := (unhide HSTj).on hbjm
  obtain ⟨d0, d1, d2⟩ := dH
  have j0 := hrH.cell (i := 0) (by omega); have j1 := hrH.cell (i := 1) (by omega); have j2 := hrH.cell (i := 2) (by omega)
  have k0 := hstm.cs.bW.cell (i := 0) (by omega); have k1 := hstm.cs.bW.cell (i := 1) (by omega); have k2 := hstm.cs.bW.cell (i := 2) (by omega)
  simp only [row3] at j0 j1 j2 k0 k1 k2
  have HEQ := hide (eqDisk_any N _ PW ⟨d0, d1, d2⟩ ⟨e0, e1, e2⟩ wm (fun b hb => hb.2.1) hstm.cs.lW hoH hstm.cs.oW)
  have HSTm := hide hstm
  clear hoH hrH hgH hbm hbjm hstm HSTj
  go_wp2_with fail
  refine (unhide HEQ).mono ?_
  rintro e wn ⟨rfl, hbn⟩
  have hstn := (unhide HSTm).on hbn
  have hht := hstn.held hsm
  rw [unhide HME] at hht
  have HHT := hide hht
  clear k0 k1 k2 j0 j1 j2
  have j0 := hstn.cs.bG.cell (i := 0) (by omega); have j1 := hstn.cs.bG.cell (i := 1) (by omega); have j2 := hstn.cs.bG.cell (i := 2) (by omega)
  simp only [row3] at j0 j1 j2
  clear hbn HEQ HSTm hstn hht
  go_wp2_with fail
  refine (unhide HHT).mono ?_
  rintro e wo ⟨rfl, hsto⟩
  have HB := hide hsto.cs.below
  clear hsto HHT j0 j1 j2
  go_wp2_with fail
  go_ret
  exact ⟨rfl, unhide HB⟩
end Go.Proofs.Ytekchajnellcdaa

/- What is read of a list of strings that comes in is one that lies in memory. No conditions. -/

namespace Go.Proofs.Ytekchajnellcdaa
open Go Go.RowKit Go.ChangeShapes Go.WideShapes Go.ChangeAt Go.Deep

theorem cellsStr : Try.prog.cellsOf 9 = 1 := by kernel_rfl

section
variable {H : Type} {enc : TypeId × Value → H} {W : World} {spare : Nat → Bool} {held : Bool}

theorem strs_of_trod {fuel : Nat} {v : Value} {x : DataW H × List MemPlace} (h : DataW.trod enc Try.prog W 0 spare held fuel 23 [v] = some x) :
    ∃ ss, StrsAt (fun b => b < W.heap.size) W v ss := by
  rcases open_strings Try.underlying23 Try.underlying9 cellsStr h with ⟨hcs, -⟩ | ⟨a, len, cap, ss, hcs, -, hl, hm, hz, -, hcell, hws⟩
  · simp only [List.cons.injEq, and_true] at hcs
    exact ⟨[], none, 0, hcs, by simp, fun i hi => by simp at hi⟩
  · simp only [List.cons.injEq, and_true] at hcs
    have hle : len ≤ ss.length := by rw [hz]; split <;> omega
    unfold maxLen at hm
    refine ⟨ss.take len, some a, cap, by rw [hcs]; simp; omega, by simp; omega, fun i hi => ?_⟩
    have hi' : i < len := by simp at hi; omega
    obtain ⟨b, off, spot⟩ := a
    have hspot : spot = none := by simpa [Addr.add] using World.cell?_spot (hcell 0 (by omega))
    subst hspot
    have hc := hcell i (by omega)
    rw [Addr.add_lit] at hc
    refine ⟨b, off, rfl, World.block_lt_of_cell? W _ hc, ?_, ?_⟩
    · rw [hc]; simp [show i < ss.length by omega]
    · have := hws ss[i] (List.getElem_mem (by omega)); unfold maxLen at this; simpa using this
end
end Go.Proofs.Ytekchajnellcdaa

/- What is read of a disk that comes in is a disk that lies in memory. No conditions. -/

namespace Go.Proofs.Ytekchajnellcdaa
open Go Go.RowKit Go.ChangeShapes Go.WideShapes Go.ChangeAt Go.Deep

section
variable {H : Type} {enc : TypeId × Value → H} {W : World} {spare : Nat → Bool} {held : Bool}

/-- A slice of rows of n cells each, whose elements are opened by 'op'. -/
theorem flat_of_trod {E : Type} [Inhabited E] (cs : E → List Value) (ok : E → Prop) (T S n : Nat) (hn : 0 < n) (hcl : ∀ e, (cs e).length = n) (hu : Try.prog.underlying S = some (.slice T)) (hc : Try.prog.cellsOf T = n)
    (op : ∀ (fuel : Nat) (l : List Value) (x : DataW H × List MemPlace), DataW.trod enc Try.prog W 0 spare held fuel T l = some x → ∃ e : E, l = cs e ∧ ok e)
    {fuel : Nat} {v : Value} {x : DataW H × List MemPlace} (h : DataW.trod enc Try.prog W 0 spare held fuel S [v] = some x) :
    ∃ es : List E, FlatAt (fun b => b < W.heap.size) W v n (es.map cs) ∧ ∀ e, e ∈ es → ok e := by
  rcases DataW.trod_slice hu h with ⟨hcs, -⟩ | ⟨a, len, cap, elems, rest, n', hn', hcs, -, -, hl, hm, hel, hget, -⟩
  · simp only [List.cons.injEq, and_true] at hcs
    exact ⟨[], ⟨none, 0, hcs, by simp, fun i hi => by simp at hi⟩, fun e he => by cases he⟩
  · simp only [List.cons.injEq, and_true] at hcs
    unfold maxLen at hm
    rw [hc] at hget
    have hspot : 0 < len → a.spot = none := fun h0 => by
      have hgi := hget 0 h0
      rw [List.getElem?_eq_getElem (by omega)] at hgi
      obtain ⟨cs', hcs', htr⟩ := Option.bind_eq_some_iff.1 hgi
      obtain ⟨-, hl5, hcell⟩ := World.cells?_some hcs'
      have hc0 := hcell 0 (by omega)
      rw [List.getElem?_eq_getElem (by omega)] at hc0
      simpa [Addr.add] using World.cell?_spot hc0
    have hkid : ∀ i, i < len → ∃ e : E, ok e ∧ ∃ b o, a = ⟨b, o, none⟩ ∧ b < W.heap.size ∧ ∀ j, j < n → W.cell? ⟨b, o + i * n + j, none⟩ = some ((cs e).getD j undef) := by
      intro i hi
      have hgi := hget i hi
      rw [List.getElem?_eq_getElem (by omega)] at hgi
      obtain ⟨cs', hcs', htr⟩ := Option.bind_eq_some_iff.1 hgi
      obtain ⟨e, rfl, he⟩ := op n' cs' _ htr
      obtain ⟨-, -, hcell⟩ := World.cells?_some hcs'
      obtain ⟨b, off, spot⟩ := a
      have hsp : spot = none := hspot (by omega)
      subst hsp
      have hj : ∀ j, j < n → W.cell? ⟨b, off + i * n + j, none⟩ = some ((cs e).getD j undef) := fun j hj => by
        have h1 := hcell j hj
        simp only [Addr.add_lit] at h1
        rw [h1, List.getElem?_eq_getElem (by rw [hcl]; exact hj), List.getD_eq_getElem?_getD, List.getElem?_eq_getElem (by rw [hcl]; exact hj)]
        rfl
      exact ⟨e, he, b, off, rfl, World.block_lt_of_cell? W _ (hj 0 hn), hj⟩
    obtain ⟨K, hK⟩ : ∃ K : Nat → E, ∀ i, i < len → ok (K i) ∧ ∃ b o, a = ⟨b, o, none⟩ ∧ b < W.heap.size ∧ ∀ j, j < n → W.cell? ⟨b, o + i * n + j, none⟩ = some ((cs (K i)).getD j undef) :=
      ⟨fun i => if h : i < len then (hkid i h).choose else default, fun i hi => by simp only [hi, dif_pos]; exact (hkid i hi).choose_spec⟩
    refine ⟨(List.range len).map K, ⟨some a, cap, by simpa using hcs, by simp; omega, fun i hi => ?_⟩, fun e he => ?_⟩
    · have hi' : i < len := by simpa using hi
      obtain ⟨-, b, o, ha, hb, hj⟩ := hK i hi'
      exact ⟨b, o, by rw [ha], hb, fun j hj' => by rw [hj j hj']; simp⟩
    · obtain ⟨i, hi, rfl⟩ := List.mem_map.1 he
      exact (hK i (by simpa using hi)).1

theorem cellsFile : Try.prog.cellsOf 80 = 3 := by kernel_rfl
theorem cellsMove : Try.prog.cellsOf 82 = 2 := by kernel_rfl
theorem cellsDisk : Try.prog.cellsOf 26 = 3 := by kernel_rfl
theorem oneFile : ∃ fs : Array Field, Try.prog.underlying 80 = some (.struct fs) ∧ oneCellFields Try.prog fs = true ∧ fs.map (·.type) = #[9, 9, 3] := ⟨_, Try.underlying80, by kernel_rfl, by kernel_rfl⟩
theorem oneMove : ∃ fs : Array Field, Try.prog.underlying 82 = some (.struct fs) ∧ oneCellFields Try.prog fs = true ∧ fs.map (·.type) = #[4, 9] := ⟨_, Try.underlying82, by kernel_rfl, by kernel_rfl⟩
theorem oneDisk : ∃ fs : Array Field, Try.prog.underlying 26 = some (.struct fs) ∧ oneCellFields Try.prog fs = true ∧ fs.map (·.type) = #[22, 23, 24] := ⟨_, Try.underlying26, by kernel_rfl, by kernel_rfl⟩

/-- The fields of a struct whose fields are one cell each. -/
theorem fields_of {T : Nat} {ts : Array TypeId} {k : Nat} (hk : ts.size = k) (hone : ∃ fs : Array Field, Try.prog.underlying T = some (.struct fs) ∧ oneCellFields Try.prog fs = true ∧ fs.map (·.type) = ts) {fuel : Nat} {cs : List Value} {x : DataW H × List MemPlace} (h : DataW.trod enc Try.prog W 0 spare held fuel T cs = some x) :
    cs.length = Try.prog.cellsOf T ∧ ∃ n, ∀ (i : Nat) (U : TypeId), i < k → ts[i]? = some U → ∃ y, DataW.trod enc Try.prog W 0 spare held n U ((cs.drop i).take 1) = some y := by
  obtain ⟨fs, hu, hone, hty⟩ := hone
  obtain ⟨xs, n, hn, -, hlen, hxl, hf⟩ := DataW.trod_struct hu h
  refine ⟨hlen, n, fun i U hi hT => ?_⟩
  have hsz : fs.size = k := by have := congrArg Array.size hty; rw [hk] at this; simpa using this
  have hfi : fs[i]? = some (fs[i]'(by omega)) := Array.getElem?_eq_getElem (by omega)
  obtain ⟨ho, hc⟩ := hone_of hone i _ hfi
  have := hf i _ hfi
  rw [ho, hc] at this
  have hTT : (fs[i]'(by omega)).type = U := by
    rw [← hty] at hT
    simpa [hsz, hi] using hT
  rw [hTT] at this
  exact ⟨xs[i]'(by omega), by rw [this]; exact List.getElem?_eq_getElem (by omega)⟩

instance : Inhabited Df := ⟨⟨ByteArray.empty, ByteArray.empty, 0⟩⟩
instance : Inhabited Dm := ⟨⟨false, ByteArray.empty⟩⟩
theorem file_of_trod (fuel : Nat) (l : List Value) (x : DataW H × List MemPlace) (h : DataW.trod enc Try.prog W 0 spare held fuel 80 l = some x) : ∃ e : Df, l = e.cs ∧ e.okM := by
  obtain ⟨hl, n, hf⟩ := fields_of (k := 3) rfl oneFile h
  rw [cellsFile] at hl
  match l, hl with
  | [c0, c1, c2], _ =>
    obtain ⟨y0, h0⟩ := hf 0 _ (by omega) rfl
    obtain ⟨y1, h1⟩ := hf 1 _ (by omega) rfl
    obtain ⟨y2, h2⟩ := hf 2 _ (by omega) rfl
    simp only [List.drop_succ_cons, List.drop_zero, List.take_succ_cons, List.take_zero] at h0 h1 h2
    obtain ⟨s0, e0, -, w0⟩ := DataW.trod_string Try.underlying9 h0
    obtain ⟨s1, e1, -, w1⟩ := DataW.trod_string Try.underlying9 h1
    obtain ⟨k, e2, -, w2⟩ := DataW.trod_int Try.underlying3 h2
    simp only [List.cons.injEq, and_true] at e0 e1 e2
    subst e0 e1 e2
    unfold maxLen at w0 w1
    have hw := bounds_i64 w2
    exact ⟨⟨s0, s1, k⟩, rfl, by simp only; omega, by simp only; omega, ⟨by simp only; omega, by simp only; omega⟩⟩
theorem move_of_trod (fuel : Nat) (l : List Value) (x : DataW H × List MemPlace) (h : DataW.trod enc Try.prog W 0 spare held fuel 82 l = some x) : ∃ e : Dm, l = e.cs ∧ e.okM := by
  obtain ⟨hl, n, hf⟩ := fields_of (k := 2) rfl oneMove h
  rw [cellsMove] at hl
  match l, hl with
  | [c0, c1], _ =>
    obtain ⟨y0, h0⟩ := hf 0 _ (by omega) rfl
    obtain ⟨y1, h1⟩ := hf 1 _ (by omega) rfl
    simp only [List.drop_succ_cons, List.drop_zero, List.take_succ_cons, List.take_zero] at h0 h1
    obtain ⟨g, e0, -⟩ := DataW.trod_bool Try.underlying4 h0
    obtain ⟨s1, e1, -, w1⟩ := DataW.trod_string Try.underlying9 h1
    simp only [List.cons.injEq, and_true] at e0 e1
    subst e0 e1
    unfold maxLen at w1
    exact ⟨⟨g, s1⟩, rfl, by show s1.size ≤ _; omega⟩
/-- What is read of a disk that comes in is one that lies in memory. -/
theorem dk_of_trod (fuel : Nat) (cs : List Value) (x : DataW H × List MemPlace) (h : DataW.trod enc Try.prog W 0 spare held fuel 26 cs = some x) : ∃ (d : Dk) (c : C3), cs = [c.c0, c.c1, c.c2] ∧ DkAt (fun b => b < W.heap.size) W d c := by
  obtain ⟨hl, n, hf⟩ := fields_of (k := 3) rfl oneDisk h
  rw [cellsDisk] at hl
  match cs, hl with
  | [c0, c1, c2], _ =>
    obtain ⟨y0, h0⟩ := hf 0 _ (by omega) rfl
    obtain ⟨y1, h1⟩ := hf 1 _ (by omega) rfl
    obtain ⟨y2, h2⟩ := hf 2 _ (by omega) rfl
    simp only [List.drop_succ_cons, List.drop_zero, List.take_succ_cons, List.take_zero] at h0 h1 h2
    obtain ⟨fs, hfs⟩ := flat_of_trod Df.cs Df.okM 80 22 3 (by omega) (fun _ => rfl) Try.underlying22 cellsFile file_of_trod h0
    obtain ⟨ns, hns⟩ := strs_of_trod h1
    obtain ⟨ms, hms⟩ := flat_of_trod Dm.cs Dm.okM 82 24 2 (by omega) (fun _ => rfl) Try.underlying24 cellsMove move_of_trod h2
    exact ⟨⟨fs, ns, ms⟩, ⟨c0, c1, c2⟩, rfl, ⟨hfs, hns, hms⟩⟩
end
end Go.Proofs.Ytekchajnellcdaa
