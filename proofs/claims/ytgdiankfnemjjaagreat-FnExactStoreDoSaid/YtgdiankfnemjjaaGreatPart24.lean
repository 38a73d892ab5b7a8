/- The walk of the specification's StoreDo: what writes do one by one; that it turns nothing that was there. No conditions but that the writes' names are bounded. -/
import Derived.Test.YtgdiankfnemjjaaGreatPart23
namespace Go.Proofs.YtgdiankfnemjjaaGreat
open Go Go.RowKit

def r6S (a b c d e f : Value) : Nat → Value
  | 0 => a
  | 1 => b
  | 2 => c
  | 3 => d
  | 4 => e
  | _ => f
theorem r6S_alloc (w : World) (a b c d e f : Value) (t : TypeId) : (w.alloc (.cells #[a, b, c, d, e, f] t)).rowIs w.heap.size t 6 (r6S a b c d e f) :=
  World.rowIs_alloc w #[a, b, c, d, e, f] t _ (fun i hi => by
    have hi' : i < 6 := by simpa using hi
    rcases (show i = 0 ∨ i = 1 ∨ i = 2 ∨ i = 3 ∨ i = 4 ∨ i = 5 by omega) with rfl | rfl | rfl | rfl | rfl | rfl <;> rfl)
/-- What the loop holds: the disk in its box, the act, the answer's box. -/
structure Sd (w wr : World) (a : Ac) (kv : Value) (c : C3) (D : Dk) : Prop where
  bel : Below w.heap.size w wr
  b3 : wr.rowIs w.heap.size 37 3 (row3 c.c0 c.c1 c.c2)
  b5 : wr.rowIs (w.heap.size + 1) 43 6 (r6S (.int .i64 a.kind) (.string a.data) (.bool a.cuts) (.int .i64 a.after) (.int .i64 a.moves) kv)
  b6 : wr.rowIs (w.heap.size + 1 + 1) 37 3 (row3 (.slice none 0 0) (.slice none 0 0) (.slice none 0 0))
  dk : DkAt (fun b => b < wr.heap.size ∧ b ≠ w.heap.size) wr D c
theorem Sd.on {w wr W' : World} {a : Ac} {kv : Value} {c : C3} {D : Dk} (h : Sd w wr a kv c D) (hb : Below wr.heap.size wr W') : Sd w W' a kv c D :=
  ⟨h.bel.trans (hb.mono h.bel.size), h.b3.of_block (hb.block _ h.b3.lt), h.b5.of_block (hb.block _ h.b5.lt), h.b6.of_block (hb.block _ h.b6.lt), h.dk.carry (fun b hx => hb.block b hx.1) (fun _ hx => ⟨Nat.lt_of_lt_of_le hx.1 hb.size, hx.2⟩)⟩
/-- The disk's box is filled anew. -/
theorem Sd.next {w wr W : World} {a : Ac} {kv : Value} {c : C3} {D N : Dk} (h : Sd w wr a kv c D) {g : Nat} {dW : C3} (hr : DkAt (fun b => wr.heap.size ≤ b ∧ b < W.heap.size ∧ b ≠ g) W N dW) (hb : Below wr.heap.size wr W) : Sd w (((W.setCell ⟨w.heap.size, 0, none⟩ dW.c0).setCell ⟨w.heap.size, 1, none⟩ dW.c1).setCell ⟨w.heap.size, 2, none⟩ dW.c2) a kv dW N := by
  have h1 := h.on hb
  have hs := h1.b6.lt
  have hs3 := set3 W w.heap.size dW.c0 dW.c1 dW.c2
  have hlt := h.b6.lt
  exact ⟨hs3.2.2.2 _ _ (Nat.le_refl _) h1.bel, hs3.2.2.1 _ _ h1.b3, h1.b5.of_block (hs3.1 _ (by omega)), h1.b6.of_block (hs3.1 _ (by omega)), hr.carry (fun _ hx => hs3.1 _ (by omega)) (fun _ hx => ⟨by rw [show (((W.setCell ⟨w.heap.size, 0, none⟩ dW.c0).setCell ⟨w.heap.size, 1, none⟩ dW.c1).setCell ⟨w.heap.size, 2, none⟩ dW.c2).heap.size = W.heap.size from hs3.2.1]; exact hx.2.1, by omega⟩)⟩
/-- An answer is put into its box. -/
theorem at_fin {w W : World} {B : Nat} {v0 v1 v2 : Value} {D : Dk} {n : Int} (ho : DkAt (fun b => B < b ∧ b < W.heap.size) W D ⟨v0, v1, v2⟩) (hB0 : w.heap.size ≤ B) (hb : Below w.heap.size w W) :
    DoEnd w (((W.setCell ⟨B, 0, none⟩ v0).setCell ⟨B, 1, none⟩ v1).setCell ⟨B, 2, none⟩ v2) (.returned (.tuple #[.agg #[v0, v1, v2], .int .i64 n])) D n := by
  have hk : ∀ b, B < b → (((W.setCell ⟨B, 0, none⟩ v0).setCell ⟨B, 1, none⟩ v1).setCell ⟨B, 2, none⟩ v2).heap[b]? = W.heap[b]? := fun b hb => by
    rw [Below.heap_setCell _ _ _ _ (by simp; omega), Below.heap_setCell _ _ _ _ (by simp; omega), Below.heap_setCell _ _ _ _ (by simp; omega)]
  exact ⟨⟨v0, v1, v2⟩, rfl, ho.carry (fun b hb => hk b hb.1) (fun b hb => ⟨by omega, by simpa using hb.2⟩), ((hb.setCell (by simp; omega) _).setCell (by simp; omega) _).setCell (by simp; omega) _⟩
theorem soS_bad {d : Dk} {ws : List Wr} {a : Ac} (h : ¬ DkOkS d) : soD d ws a = (⟨[], [], []⟩, 7) := by unfold soD; rw [if_pos h]
theorem soS_large {d : Dk} {ws : List Wr} {a : Ac} (h : DkOkS d) (hl : 2000 < ws.length) : soD d ws a = (d, 5) := by unfold soD; rw [if_neg (fun hn => hn h), if_pos hl]
theorem soS_ref {d e : Dk} {ws : List Wr} {a : Ac} (h : DkOkS d) (hl : ¬ 2000 < ws.length) (hr : runW d (ws.take (toW a ws.length)) = (e, false)) : soD d ws a = (e, 4) := by unfold soD; rw [if_neg (fun hn => hn h), if_neg hl, hr, if_pos rfl]
theorem soS_cut {d e : Dk} {ws : List Wr} {a : Ac} (h : DkOkS d) (hl : ¬ 2000 < ws.length) (hr : runW d (ws.take (toW a ws.length)) = (e, true)) (hc : a.cuts = true) : soD d ws a = (cutD e a.moves a.keep, 6) := by unfold soD; rw [if_neg (fun hn => hn h), if_neg hl, hr, if_neg (by simp), if_pos hc]
theorem soS_all {d e : Dk} {ws : List Wr} {a : Ac} (h : DkOkS d) (hl : ¬ 2000 < ws.length) (hr : runW d (ws.take (toW a ws.length)) = (e, true)) (hc : a.cuts = false) : soD d ws a = (e, 0) := by unfold soD; rw [if_neg (fun hn => hn h), if_neg hl, hr, if_neg (by simp), if_neg (by rw [hc]; simp)]
theorem rowsAt {base : Nat} {W : World} {x0 x1 x2 : Value} {d : Dk} (h0 : W.ownsRow base 84 3 x0 d.files.length (d.files.map Df.cs).flatten) (h1 : W.ownsRow base 9 1 x1 d.names.length (d.names.map Value.string)) (h2 : W.ownsRow base 88 2 x2 d.moves.length (d.moves.map Dm.cs).flatten) (hf : ∀ f, f ∈ d.files → f.okM) (hn : ∀ x, x ∈ d.names → x.size ≤ 9223372036854775807) (hm : ∀ m, m ∈ d.moves → m.okM) : DkAt (fun b => base ≤ b ∧ b < W.heap.size) W d ⟨x0, x1, x2⟩ := by
  obtain ⟨F0, t1, t2, t3, -⟩ := FlatOwn.of_row (rs := d.files.map Df.cs) (n := 3) (by rw [List.length_map]; exact h0) (fun r hr => by obtain ⟨f, -, rfl⟩ := List.mem_map.1 hr; rfl)
  obtain ⟨F2, r1, r2, r3, -⟩ := FlatOwn.of_row (rs := d.moves.map Dm.cs) (n := 2) (by rw [List.length_map]; exact h2) (fun r hr => by obtain ⟨f, -, rfl⟩ := List.mem_map.1 hr; rfl)
  exact ⟨⟨t1.at.carry (fun _ _ => rfl) (fun b hb => t3 b hb), hf⟩, (strsAt_own h1 hn).carry (fun _ _ => rfl) (fun b hb => hb), ⟨r1.at.carry (fun _ _ => rfl) (fun b hb => r3 b hb), hm⟩⟩

set_option maxRecDepth 100000 in
set_option maxHeartbeats 6400000 in
theorem specStoreDo_any (d : Dk) (ws : List Wr) (a : Ac) (P : Nat → Prop) (c : C3) (v kv : Value) (w : World) (hP : ∀ b, P b → b < w.heap.size) (hd : DkAt P w d c) (hws : WsAt P w v ws) (hkz : ZsAt P w kv a.keep) (hsz : ∀ x, x ∈ ws → x.x.size ≤ 1048576) :
    Calls Tryz.prog 7 #[.agg #[c.c0, c.c1, c.c2], v, .agg #[.int .i64 a.kind, .string a.data, .bool a.cuts, .int .i64 a.after, .int .i64 a.moves, kv]] w fun e w' => DoEnd w w' e (soD d ws a).1 (soD d ws a).2 := by
  obtain ⟨c0, c1, c2⟩ := c
  have hbx : ∀ o o' o'', Below w.heap.size w (((w.alloc o).alloc o').alloc o'') := fun o o' o'' => (((Below.refl _ _).alloc (Nat.le_refl _) o).alloc (by simp) o').alloc (by simp; omega) o''
  have HOKC := hide (fun o o' o'' => specDiskOk_any d P ⟨c0, c1, c2⟩ (((w.alloc o).alloc o').alloc o'') (fun b hb => Nat.lt_of_lt_of_le (hP b hb) (hbx o o' o'').size) (hd.carry (fun b hb => (hbx o o' o'').block b (hP b hb)) (fun _ h => h)))
  have hsd : Sd w (((w.alloc (.cells #[c0, c1, c2] 37)).alloc (.cells #[.int .i64 a.kind, .string a.data, .bool a.cuts, .int .i64 a.after, .int .i64 a.moves, kv] 43)).alloc (.cells #[.slice none 0 0, .slice none 0 0, .slice none 0 0] 37)) a kv ⟨c0, c1, c2⟩ d := by
    refine ⟨hbx _ _ _, ((row3_alloc w c0 c1 c2 37).alloc _).alloc _, ?_, ?_, hd.carry (fun b hb => (hbx _ _ _).block b (hP b hb)) (fun b hb => ⟨Nat.lt_of_lt_of_le (hP b hb) (hbx _ _ _).size, by have := hP b hb; omega⟩)⟩
    · have := (r6S_alloc (w.alloc (.cells #[c0, c1, c2] 37)) (.int .i64 a.kind) (.string a.data) (.bool a.cuts) (.int .i64 a.after) (.int .i64 a.moves) kv 43).alloc (.cells #[.slice none 0 0, .slice none 0 0, .slice none 0 0] 37)
      rw [World.size_alloc] at this
      exact this
    · have := row3_alloc ((w.alloc (.cells #[c0, c1, c2] 37)).alloc (.cells #[.int .i64 a.kind, .string a.data, .bool a.cuts, .int .i64 a.after, .int .i64 a.moves, kv] 43)) (.slice none 0 0) (.slice none 0 0) (.slice none 0 0) 37
      rw [World.size_alloc, World.size_alloc] at this
      exact this
  have HP := hide hP; have HSD := hide hsd; have HKZ := hide hkz; have HSZ := hide hsz
  obtain ⟨ak, ck, ekv, -, -⟩ := hkz
  subst ekv
  obtain ⟨av, cv, ev, hlen, hwc⟩ := hws.open
  subst ev
  have HWC := hide hwc
  obtain ⟨a0, p0, g0, -, -⟩ := hd.fs.open
  obtain ⟨a1, p1, g1, -, -⟩ := hd.ns
  obtain ⟨a2, p2, g2, -, -⟩ := hd.ms.open
  simp only at g0 g1 g2
  subst g0 g1 g2
  have hokM : (∀ f, f ∈ d.files → f.okM) ∧ (∀ m, m ∈ d.moves → m.okM) := ⟨hd.fs.2, hd.ms.2⟩
  clear hP hd hbx hws hsz hsd hwc
  go_enter Tryz.func7, Tryz.ntmps7
  go_wp2_with fail
  refine (unhide HOKC _ _ _).mono ?_
  rintro e w1 ⟨⟨r, rfl, hr⟩, hb1⟩
  clear HOKC
  have hsd := (unhide HSD).on hb1
  have y0 := hsd.b6.cell (i := 0) (by omega); have y1 := hsd.b6.cell (i := 1) (by omega); have y2 := hsd.b6.cell (i := 2) (by omega)
  have z := hsd.b6.frozen
  simp only [row3] at y0 y1 y2
  have hs1 := hsd.b6.lt
  have HSD1 := hide hsd
  clear hb1 HSD
  cases r with
  | false =>
    have HNO := hide (show soD d ws a = (⟨[], [], []⟩, 7) from soS_bad (fun h => by have := hr.2 h; cases this))
    clear hr hsd
    go_wp2_with fail
    try simp only [Exit.inBlock, Exit.then]
    refine bodyPost_ret (v := .tuple #[.agg #[.slice none 0 0, .slice none 0 0, .slice none 0 0], .int .i64 7]) (by simp [results, Tryz.results7, go_sem, y0, y1, y2]) rfl ?_
    rw [unhide HNO]
    exact at_fin ((DkOwn.none _).at.carry (fun _ _ => rfl) (fun b hb => (by cases hb))) (by omega) (unhide HSD1).bel
  | true =>
    have hok : DkOkS d := hr.1 rfl
    clear hr hsd
    by_cases hlg : 2000 < ws.length
    · have k0 := (unhide HSD1).b3.cell (i := 0) (by omega); have k1 := (unhide HSD1).b3.cell (i := 1) (by omega); have k2 := (unhide HSD1).b3.cell (i := 2) (by omega)
      simp only [row3] at k0 k1 k2
      have HCD := hide (l41Copy_any d _ ⟨.slice a0 d.files.length p0, .slice a1 d.names.length p1, .slice a2 d.moves.length p2⟩ w1 (fun b h => h.1) (unhide HSD1).dk (by have := hok.l1; omega) (by have := hok.l2; omega) (by have := hok.l3; omega))
      have HLG := hide (soS_large (a := a) hok hlg)
      have HNS := hide (unhide HSD1).dk.ns
      clear y0 y1 y2 z hok
      go_wp2_with fail
      refine (unhide HCD).mono ?_
      rintro e w2 ⟨⟨u0, u1, u2⟩, rfl, h0, h1, h2, hb2⟩
      clear k0 k1 k2 HCD
      simp only at h0 h1 h2
      obtain ⟨b0, r0, e0⟩ := own_slice h0
      obtain ⟨b1, r1, e1⟩ := own_slice h1
      obtain ⟨b2, r2, e2⟩ := own_slice h2
      subst e0 e1 e2
      have hsd := (unhide HSD1).on hb2
      have hat := rowsAt h0 h1 h2 hokM.1 (fun x hx => by
        obtain ⟨_, _, _, _, hc⟩ := unhide HNS
        obtain ⟨i, hi, rfl⟩ := List.getElem_of_mem hx
        obtain ⟨_, _, _, _, _, hsx⟩ := hc i hi
        exact hsx) hokM.2
      have y0 := hsd.b6.cell (i := 0) (by omega); have y1 := hsd.b6.cell (i := 1) (by omega); have y2 := hsd.b6.cell (i := 2) (by omega)
      have z := hsd.b6.frozen
      simp only [row3] at y0 y1 y2
      have HF := hide (at_fin (n := 5) (B := w.heap.size + 1 + 1) (hat.carry (fun _ _ => rfl) (fun b hb => ⟨by have := hb.1; omega, hb.2⟩)) (by omega) hsd.bel)
      have hs2 := hb2.size
      clear h0 h1 h2 hat hb2 hsd
      go_wp2_with fail
      try simp only [Exit.inBlock, Exit.then]
      refine bodyPost_ret (v := .tuple #[.agg #[.slice b0 d.files.length r0, .slice b1 d.names.length r1, .slice b2 d.moves.length r2], .int .i64 5]) (by simp [results, Tryz.results7, go_sem, y0, y1, y2]) rfl ?_
      rw [unhide HLG]
      exact unhide HF
    · have HOK := hide hok
      clear y0 y1 y2 z hok hokM
      go_wp2_with fail
      go_loopw [8] (fun i wr => ∃ (k : Nat) (D : Dk) (c' : C3), k ≤ ws.length ∧ i = .int .i64 k ∧ Hid (runW d (ws.take k) = (D, true)) ∧ Hid (DkOkS D) ∧ Hid (a.cuts = true → k = 0 ∨ (k : Int) ≤ a.after) ∧ Hid (Sd w wr a (.slice ak a.keep.length ck) c' D)) (fun i _ => ws.length - (intOf i).toNat)
      case atStart => exact ⟨0, d, _, Nat.zero_le _, rfl, rfl, unhide HOK, fun _ => Or.inl rfl, unhide HSD1⟩
      case round =>
        clear HSD1
        obtain ⟨k, D, ⟨u0, u1, u2⟩, hk, rfl, HRU, HOKD, HKA, HS⟩ := hrel
        have hs := HS.out
        obtain ⟨q0, r0, e0, -, -⟩ := hs.dk.fs.open
        obtain ⟨q1, r1, e1, -, -⟩ := hs.dk.ns
        obtain ⟨q2, r2, e2, -, -⟩ := hs.dk.ms.open
        simp only at e0 e1 e2
        subst e0 e1 e2
        have hs6 := hs.b6.lt
        have l0 := hs.b3.cell (i := 0) (by omega); have l1 := hs.b3.cell (i := 1) (by omega); have l2 := hs.b3.cell (i := 2) (by omega)
        have j2 := hs.b5.cell (i := 2) (by omega); have j3 := hs.b5.cell (i := 3) (by omega); have j4 := hs.b5.cell (i := 4) (by omega); have j5 := hs.b5.cell (i := 5) (by omega)
        have y0 := hs.b6.cell (i := 0) (by omega); have y1 := hs.b6.cell (i := 1) (by omega); have y2 := hs.b6.cell (i := 2) (by omega)
        have z := hs.b6.frozen
        simp only [row3] at l0 l1 l2 y0 y1 y2
        simp only [r6S] at j2 j3 j4 j5
        have hbl := hs.bel.size
        have HCT := hide (specDiskCut_any D a.moves a.keep (fun b => b < wr.heap.size) ⟨.slice q0 D.files.length r0, .slice q1 D.names.length r1, .slice q2 D.moves.length r2⟩ (.slice ak a.keep.length ck) wr (fun _ h => h) (hs.dk.carry (fun _ _ => rfl) (fun b hb => hb.1)) ((unhide HKZ).carry (fun b hb => hs.bel.block b (unhide HP b hb)) (fun b hb => by have := unhide HP b hb; omega)))
        clear hs
        by_cases hlt : k < ws.length
        rotate_left
        · obtain rfl : k = ws.length := by omega
          have htw : toW a ws.length = ws.length := by
            unfold toW
            split
            · next hc => have := HKA.out hc; unfold clampQ; omega
            · rfl
          have hru : runW d (ws.take (toW a ws.length)) = (D, true) := by rw [htw]; exact HRU.out
          cases hcu : a.cuts with
          | true =>
            rw [hcu] at j2
            have HSO := hide (soS_cut (unhide HOK) hlg hru hcu)
            clear hru htw
            go_wp2_with fail
            refine (unhide HCT).mono ?_
            rintro e w5 ⟨⟨v0, v1, v2⟩, rfl, hat, hb5⟩
            clear HCT l0 l1 l2 j2 j3 j4 j5 y0 y1 y2 z
            obtain ⟨t0, s0, e0, -, -⟩ := hat.fs.open
            obtain ⟨t1, s1, e1, -, -⟩ := hat.ns
            obtain ⟨t2, s2, e2, -, -⟩ := hat.ms.open
            simp only at e0 e1 e2
            subst e0 e1 e2
            have hsd := HS.out.on hb5
            have hs5 := hb5.size
            have y0 := hsd.b6.cell (i := 0) (by omega); have y1 := hsd.b6.cell (i := 1) (by omega); have y2 := hsd.b6.cell (i := 2) (by omega)
            have z := hsd.b6.frozen
            simp only [row3] at y0 y1 y2
            have HF := hide (at_fin (n := 6) (B := w.heap.size + 1 + 1) (hat.carry (fun _ _ => rfl) (fun b hb => ⟨by have := hb.1; omega, hb.2⟩)) (by omega) hsd.bel)
            clear hat hb5 hsd
            generalize (cutD D a.moves a.keep).files.length = M0 at *
            generalize (cutD D a.moves a.keep).names.length = M1 at *
            generalize (cutD D a.moves a.keep).moves.length = M2 at *
            go_wp2_with fail
            try simp only [Exit.inBlock, Exit.then]
            refine bodyPost_ret (v := .tuple #[.agg #[.slice t0 M0 s0, .slice t1 M1 s1, .slice t2 M2 s2], .int .i64 6]) (by simp [results, Tryz.results7, go_sem, y0, y1, y2]) rfl ?_
            rw [unhide HSO]
            exact unhide HF
          | false =>
            rw [hcu] at j2
            have HSO := hide (soS_all (unhide HOK) hlg hru hcu)
            have hok := HOKD.out
            have HCD := hide (l41Copy_any D _ ⟨.slice q0 D.files.length r0, .slice q1 D.names.length r1, .slice q2 D.moves.length r2⟩ wr (fun b h => h.1) HS.out.dk (by have := hok.l1; omega) (by have := hok.l2; omega) (by have := hok.l3; omega))
            have HM := hide (And.intro HS.out.dk.fs.2 HS.out.dk.ms.2); have HNS := hide HS.out.dk.ns
            clear hru htw hok HCT
            go_wp2_with fail
            refine (unhide HCD).mono ?_
            rintro e w2 ⟨⟨u0, u1, u2⟩, rfl, h0, h1, h2, hb2⟩
            clear HCD l0 l1 l2 j2 j3 j4 j5 y0 y1 y2 z
            simp only at h0 h1 h2
            obtain ⟨b0, t0, e0⟩ := own_slice h0
            obtain ⟨b1, t1, e1⟩ := own_slice h1
            obtain ⟨b2, t2, e2⟩ := own_slice h2
            subst e0 e1 e2
            have hsd := HS.out.on hb2
            have hat := rowsAt h0 h1 h2 (unhide HM).1 (fun x hx => by
              obtain ⟨_, _, _, _, hc⟩ := unhide HNS
              obtain ⟨i, hi, rfl⟩ := List.getElem_of_mem hx
              obtain ⟨_, _, _, _, _, hsx⟩ := hc i hi
              exact hsx) (unhide HM).2
            have y0 := hsd.b6.cell (i := 0) (by omega); have y1 := hsd.b6.cell (i := 1) (by omega); have y2 := hsd.b6.cell (i := 2) (by omega)
            have z := hsd.b6.frozen
            simp only [row3] at y0 y1 y2
            have HF := hide (at_fin (n := 0) (B := w.heap.size + 1 + 1) (hat.carry (fun _ _ => rfl) (fun b hb => ⟨by have := hb.1; omega, hb.2⟩)) (by omega) hsd.bel)
            have hs2 := hb2.size
            clear h0 h1 h2 hat hb2 hsd
            generalize D.files.length = M0 at *
            generalize D.names.length = M1 at *
            generalize D.moves.length = M2 at *
            go_wp2_with fail
            try simp only [Exit.inBlock, Exit.then]
            refine bodyPost_ret (v := .tuple #[.agg #[.slice b0 M0 t0, .slice b1 M1 t1, .slice b2 M2 t2], .int .i64 0]) (by simp [results, Tryz.results7, go_sem, y0, y1, y2]) rfl ?_
            rw [unhide HSO]
            exact unhide HF
        · by_cases hcut : a.cuts = true ∧ a.after ≤ (k : Int)
          · obtain ⟨hcu, haf⟩ := hcut
            rw [hcu] at j2
            have htw : toW a ws.length = k := by
              unfold toW
              rw [if_pos hcu]
              have := HKA.out hcu
              unfold clampQ; omega
            have hru : runW d (ws.take (toW a ws.length)) = (D, true) := by rw [htw]; exact HRU.out
            have HSO := hide (soS_cut (unhide HOK) hlg hru hcu)
            clear hru htw
            go_wp2_with fail
            refine (unhide HCT).mono ?_
            rintro e w5 ⟨⟨v0, v1, v2⟩, rfl, hat, hb5⟩
            clear HCT l0 l1 l2 j2 j3 j4 j5 y0 y1 y2 z
            obtain ⟨t0, s0, e0, -, -⟩ := hat.fs.open
            obtain ⟨t1, s1, e1, -, -⟩ := hat.ns
            obtain ⟨t2, s2, e2, -, -⟩ := hat.ms.open
            simp only at e0 e1 e2
            subst e0 e1 e2
            have hsd := HS.out.on hb5
            have hs5 := hb5.size
            have y0 := hsd.b6.cell (i := 0) (by omega); have y1 := hsd.b6.cell (i := 1) (by omega); have y2 := hsd.b6.cell (i := 2) (by omega)
            have z := hsd.b6.frozen
            simp only [row3] at y0 y1 y2
            have HF := hide (at_fin (n := 6) (B := w.heap.size + 1 + 1) (hat.carry (fun _ _ => rfl) (fun b hb => ⟨by have := hb.1; omega, hb.2⟩)) (by omega) hsd.bel)
            clear hat hb5 hsd
            generalize (cutD D a.moves a.keep).files.length = M0 at *
            generalize (cutD D a.moves a.keep).names.length = M1 at *
            generalize (cutD D a.moves a.keep).moves.length = M2 at *
            go_wp2_with fail
            try simp only [Exit.inBlock, Exit.then]
            refine bodyPost_ret (v := .tuple #[.agg #[.slice t0 M0 s0, .slice t1 M1 s1, .slice t2 M2 s2], .int .i64 6]) (by simp [results, Tryz.results7, go_sem, y0, y1, y2]) rfl ?_
            rw [unhide HSO]
            exact unhide HF
          · have hto : k + 1 ≤ toW a ws.length := by
              unfold toW
              split
              · next hc => have : ¬ a.after ≤ (k : Int) := fun h => hcut ⟨hc, h⟩; unfold clampQ; omega
              · omega
            obtain ⟨b, q, rfl, hpb, hcell, -⟩ := unhide HWC k hlt
            have hpb' := unhide HP b hpb
            have hsx := unhide HSZ ws[k] (List.getElem_mem hlt)
            have hcw := hcell.carry (HS.out.bel.block b hpb')
            have hsu := runW_succ hlt HRU.out
            have hka : a.cuts = true → (k + 1 = 0 ∨ ((k + 1 : Nat) : Int) ≤ a.after) := fun hc => Or.inr (by have : ¬ a.after ≤ (k : Int) := fun h => hcut ⟨hc, h⟩; omega)
            have HCW := hide hcw; have HSU := hide hsu; have HKA2 := hide hka; have HTO := hide hto
            have hdo := fun (W : World) (hW : Below wr.drew.heap.size wr.drew W) => specDiskDo_any D ws[k].k ws[k].x ws[k].y (fun b => b < W.heap.size) ⟨.slice q0 D.files.length r0, .slice q1 D.names.length r1, .slice q2 D.moves.length r2⟩ W (fun _ h => h) (HS.out.dk.carry (fun b hb => hW.block b hb.1) (fun b hb => Nat.lt_of_lt_of_le hb.1 hW.size)) hsx
            have HDO := hide hdo
            have hokn : (doD D ws[k].k ws[k].x ws[k].y).2 = 0 → DkOkS (doD D ws[k].k ws[k].x ws[k].y).1 := fun h => doD_ok HOKD.out h
            have HOKN := hide hokn
            clear hcell hcw hpb hpb' hsx hsu hka hto hdo hokn HCT
            generalize ws[k] = x at *
            generalize hN : (doD D x.k x.x x.y).1 = N at *
            generalize hn : (doD D x.k x.x x.y).2 = n at *
            clear hN hn
            have hcc : a.cuts = false ∨ (a.cuts = true ∧ decide (a.after ≤ (k : Int)) = false) := by
              cases hc : a.cuts with
              | false => exact Or.inl rfl
              | true => exact Or.inr ⟨rfl, decide_eq_false fun h => hcut ⟨hc, h⟩⟩
            clear hcut
            rcases hcc with hcu | ⟨hcu, haf⟩
            all_goals
              rw [hcu] at j2
              go_upto_region 10 with fail
              refine wp_swap (c' := Code.region 10 so10Ops true) (by kernel_rfl) ?_
              refine wp_region_noPanic ?_
              refine so10 N n x w.heap.size b q ws.length cv k hlt (.slice q0 D.files.length r0) (.slice q1 D.names.length r1) (.slice q2 D.moves.length r2) wr HS.out.b3 (unhide HCW) (unhide HDO) _ (fun _ _ _ _ _ h => h) ?_
              intro v dW g W' hr hrow hgb hb'
              refine NoPanic.normal ?_
              simp only [frL_eq, frG, List.lookup, Nat.reduceBEq, Nat.reduceAdd, Option.getD_some, Option.getD_none]
              have hdr : wr.drew.heap.size = wr.heap.size := rfl
              rw [hdr] at hr hgb hb'
              have hbw : Below wr.heap.size wr W' := ((Below.refl _ wr).drew).trans hb'
              obtain ⟨d0, d1, d2⟩ := dW
              obtain ⟨t0, s0, e0, -, -⟩ := hr.fs.open
              obtain ⟨t1, s1, e1, -, -⟩ := hr.ns
              obtain ⟨t2, s2, e2, -, -⟩ := hr.ms.open
              simp only at e0 e1 e2
              subst e0 e1 e2
              have hsd := HS.out.on hbw
              clear l0 l1 l2 j2 j3 j4 j5 y0 y1 y2 z
              have m0 := hrow.cell (i := 0) (by omega); have m1 := hrow.cell (i := 1) (by omega); have m2 := hrow.cell (i := 2) (by omega)
              simp only [row3] at m0 m1 m2
              have hgl := hrow.lt
              by_cases hn0 : n = 0
              · subst hn0
                have l0 := hsd.b3.cell (i := 0) (by omega); have l1 := hsd.b3.cell (i := 1) (by omega); have l2 := hsd.b3.cell (i := 2) (by omega)
                have z3 := hsd.b3.frozen
                simp only [row3] at l0 l1 l2
                have HNX := hide (HS.out.next hr hbw)
                have hsu := unhide HSU
                rw [decide_eq_true rfl] at hsu
                have HS1 := hide hsu
                clear hr hrow hbw hb' hsd hsu hdr
                go_wp2_with fail
                go_roundw
                case rel => exact ⟨k + 1, N, ⟨_, _, _⟩, by omega, by go_num, unhide HS1, unhide HOKN rfl, unhide HKA2, unhide HNX⟩
                case measure => simp [intOf]; omega
              · have hnn : (n != 0) = true := by simpa using hn0
                have hsu := unhide HSU
                rw [decide_eq_false hn0] at hsu
                have HSO := hide (soS_ref (unhide HOK) hlg (runW_stop (unhide HTO) hsu))
                have y0 := hsd.b6.cell (i := 0) (by omega); have y1 := hsd.b6.cell (i := 1) (by omega); have y2 := hsd.b6.cell (i := 2) (by omega)
                have z := hsd.b6.frozen
                simp only [row3] at y0 y1 y2
                have HF := hide (at_fin (n := 4) (B := w.heap.size + 1 + 1) (hr.carry (fun _ _ => rfl) (fun b hb => ⟨by omega, hb.2.1⟩)) (by omega) hsd.bel)
                clear hr hrow hbw hb' hsd hsu hdr
                generalize N.files.length = M0 at *
                generalize N.names.length = M1 at *
                generalize N.moves.length = M2 at *
                go_wp2_with fail
                try simp only [Exit.inBlock, Exit.then]
                refine bodyPost_ret (v := .tuple #[.agg #[.slice t0 M0 s0, .slice t1 M1 s1, .slice t2 M2 s2], .int .i64 4]) (by simp [results, Tryz.results7, go_sem, y0, y1, y2]) rfl ?_
                rw [unhide HSO]
                exact unhide HF
end Go.Proofs.YtgdiankfnemjjaaGreat
