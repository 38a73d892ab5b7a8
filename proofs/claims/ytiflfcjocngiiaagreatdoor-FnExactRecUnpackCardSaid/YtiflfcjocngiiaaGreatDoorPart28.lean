/- The walks of the law's markEventS, markRecord over events that own their memory, and of heldEventS, heldRecord. The marks count to at most 2^40. -/
import Derived.Test.YtiflfcjocngiiaaGreatDoorPart20
import Derived.Test.YtiflfcjocngiiaaGreatDoorPart27
import Derived.Deep.RegionWith
namespace Go.Proofs.YtiflfcjocngiiaaGreatDoor
open Go Go.RowKit

/-- What the loop of markEventS has marked after i rounds. -/
def MrkE (w : World) (b : Nat) (es : List Ev) (k0 i : Nat) (G : List Nat) : Prop :=
  FreeB w b ∧ ∃ G1 G2, G = G1 ++ G2 ∧ OwnE w b 0 (mE k0 (es.take i)) G1 ∧ OwnE w b (i * 7) (es.drop i) G2
theorem MrkE.start {w : World} {b : Nat} {es : List Ev} {k0 : Nat} {G : List Nat} (hf : FreeB w b) (h : OwnE w b 0 es G) : MrkE w b es k0 0 G :=
  ⟨hf, [], G, rfl, rfl, by simpa using h⟩
theorem MrkE.open {w : World} {b : Nat} {es : List Ev} {k0 i : Nat} {G : List Nat} (h : MrkE w b es k0 i G) (hlt : i < es.length) :
    ∃ G1 N1 K1 H2 c, G = G1 ++ ((N1 ++ K1) ++ H2) ∧ FreeB w b ∧ OwnE w b 0 (mE k0 (es.take i)) G1 ∧ OwnE w b (i * 7 + 7) (es.drop (i + 1)) H2 ∧ E7at w b (i * 7) es[i].ty es[i].ver c ∧
      c.c0 = .int .i64 es[i].t.sort ∧ c.c1 = .int .i64 es[i].t.num ∧ c.c2 = .string es[i].t.text ∧ StrsOwn w c.c3 es[i].t.names N1 ∧ KidsOwn w c.c4 es[i].t.kids K1 := by
  obtain ⟨hf, G1, G2, rfl, h1, h2⟩ := h
  rw [List.drop_eq_getElem_cons hlt] at h2
  obtain ⟨F1, F2, c, rfl, hc, -, -, ho, hr⟩ := h2
  obtain ⟨e0, e1, e2, -, -, -, N1, K1, rfl, hn, hk⟩ := ho.open
  exact ⟨G1, N1, K1, F2, c, rfl, hf, h1, hr, hc, e0, e1, e2, hn, hk⟩
theorem MrkE.step {w w' : World} {b : Nat} {es : List Ev} {k0 i q : Nat} {G1 N1 K1 H2 : List Nat} {c3 c4 : Value} (hlt : i < es.length) (hbig : k0 + cE es ≤ 1099511627776) (hq : q = k0 + cE (es.take i))
    (hd : OwnE w b 0 (mE k0 (es.take i)) G1) (hr : OwnE w b (i * 7 + 7) (es.drop (i + 1)) H2) (hf : FreeB w' b)
    (hcell : ∀ j, j < i * 7 ∨ i * 7 + 7 ≤ j → w'.cell? ⟨b, j, none⟩ = w.cell? ⟨b, j, none⟩)
    (hblk : ∀ x, x ∈ G1 ∨ x ∈ H2 → w'.heap[x]? = w.heap[x]?)
    (hc : E7at w' b (i * 7) (mtx q) ((q + 1 : Nat) : Int) ⟨.int .i64 (q + 2 : Nat), .int .i64 (q + 3 : Nat), .string (mtx (q + 4)), c3, c4⟩)
    (hn : StrsOwn w' c3 (mS (q + 5) es[i].t.names) N1) (hk : KidsOwn w' c4 (mK (q + 5 + es[i].t.names.length) es[i].t.kids) K1) :
    MrkE w' b es k0 (i + 1) (G1 ++ ((N1 ++ K1) ++ H2)) := by
  have hle := cE_take_le es (i + 1)
  rw [cE_take_succ es i hlt] at hle
  refine ⟨hf, G1 ++ (N1 ++ K1), H2, by simp, ?_, ?_⟩
  · rw [List.take_succ_eq_append_getElem hlt, mE_snoc, ← hq]
    refine OwnE.snoc (e := ⟨mtx q, ((q + 1 : Nat) : Int), .mk ((q + 2 : Nat) : Int) ((q + 3 : Nat) : Int) (mtx (q + 4)) (mS (q + 5) es[i].t.names) (mK (q + 5 + es[i].t.names.length) es[i].t.kids)⟩) (c := ⟨.int .i64 (q + 2 : Nat), .int .i64 (q + 3 : Nat), .string (mtx (q + 4)), c3, c4⟩) ?_ ?_ ?_ _ 0 G1 (OwnE.carry b _ 0 G1 (fun x hx => hblk x (Or.inl hx)) (fun j _ hj => hcell j (Or.inl ?_)) hd) ?_
    · exact Own.make rfl rfl rfl ⟨by simp [Tr.sort]; omega, by simp [Tr.sort]; omega⟩ ⟨by simp [Tr.num]; omega, by simp [Tr.num]; omega⟩ (by have := mtx_size (q + 4); simp [Tr.text]; omega) hn hk
    · have := mtx_size q; simp only; omega
    · exact ⟨by simp only; omega, by simp only; omega⟩
    · rw [mE_len, List.length_take] at hj; omega
    · rw [mE_len, List.length_take, Nat.min_eq_left (by omega), show 0 + 7 * i = i * 7 from by omega]; exact hc
  · rw [show (i + 1) * 7 = i * 7 + 7 from by omega]
    exact OwnE.carry b _ _ H2 (fun x hx => hblk x (Or.inr hx)) (fun j hj _ => hcell j (Or.inr hj)) hr
/-- One place of a row of events has turned, and blocks of F; the rest of the row is as it was. -/
structure Part7 (F : List Nat) (w w' : World) (b o : Nat) (ty : ByteArray) (ver : Int) (c : C5) : Prop where
  at' : E7at w' b o ty ver c
  free : FreeB w' b
  cells : ∀ j, j < o ∨ o + 7 ≤ j → w'.cell? ⟨b, j, none⟩ = w.cell? ⟨b, j, none⟩
  exc : Exc F w w'
  mem : b ∈ F
section
variable {F G H : List Nat} {w w' w2 : World} {b o : Nat} {ty : ByteArray} {ver : Int} {c : C5} {c0 c1 c2 c3 c4 : Value}
theorem Part7.start (h : E7at w b o ty ver c) (hf : FreeB w b) : Part7 [b] w w b o ty ver c := ⟨h, hf, fun _ _ => rfl, Exc.refl _ _, by simp⟩
theorem Part7.mono (h : Part7 F w w' b o ty ver c) (hs : ∀ x, x ∈ F → x ∈ G) : Part7 G w w' b o ty ver c := ⟨h.at', h.free, h.cells, h.exc.mono hs, hs b h.mem⟩
theorem Part7.lt (h : Part7 F w w' b o ty ver c) : b < w'.heap.size := World.block_lt_of_cell? w' _ h.at'.1
theorem Part7.on (h : Part7 F w w' b o ty ver c) (hx : Exc H w' w2) (hb : b ∉ H) (hs : ∀ x, x ∈ H → x ∈ F) : Part7 F w w2 b o ty ver c := by
  have hblk := hx.block b h.lt hb
  exact ⟨h.at'.carry hblk, h.free.of_block hblk, fun j hj => by rw [World.cell?_of_block (w := w') (a := ⟨b, j, none⟩) hblk]; exact h.cells j hj, h.exc.trans (hx.mono hs), h.mem⟩
theorem Part7.rest (h : Part7 F w w' b o ty ver c) (i : Nat) (hi : i < 7) (v : Value) : (FreeB (w'.setCell ⟨b, o + i, none⟩ v) b) ∧ (∀ j, j < o ∨ o + 7 ≤ j → (w'.setCell ⟨b, o + i, none⟩ v).cell? ⟨b, j, none⟩ = w.cell? ⟨b, j, none⟩) ∧ Exc F w (w'.setCell ⟨b, o + i, none⟩ v) := by
  refine ⟨h.free.set _ _, fun j hj => ?_, h.exc.trans (Exc.set _ _ _ _ h.mem)⟩
  rw [← h.cells j hj, World.cell?_setCell_other w' _ _ v (by intro e2; simp only [Addr.mk.injEq, true_and, and_true] at e2; omega)]
theorem cell_oth {w : World} {b i j : Nat} {v x : Value} (h : w.cell? ⟨b, j, none⟩ = some x) (hne : i ≠ j) : (w.setCell ⟨b, i, none⟩ v).cell? ⟨b, j, none⟩ = some x := by
  rw [World.cell?_setCell_other w _ _ v (by intro e2; simp only [Addr.mk.injEq, true_and, and_true] at e2; omega)]; exact h
theorem Part7.setT (h : Part7 F w w' b o ty ver c) (s : ByteArray) : Part7 F w (w'.setCell ⟨b, o, none⟩ (.string s)) b o s ver c := by
  obtain ⟨h0, h1, h2, h3, h4, h5, h6⟩ := h.at'
  obtain ⟨r1, r2, r3⟩ := h.rest 0 (by omega) (.string s)
  exact ⟨⟨World.cell?_setCell_same w' _ _ h0, cell_oth h1 (by omega), cell_oth h2 (by omega), cell_oth h3 (by omega), cell_oth h4 (by omega), cell_oth h5 (by omega), cell_oth h6 (by omega)⟩, r1, r2, r3, h.mem⟩
theorem Part7.setV (h : Part7 F w w' b o ty ver c) (z : Int) : Part7 F w (w'.setCell ⟨b, o + 1, none⟩ (.int .i64 z)) b o ty z c := by
  obtain ⟨h0, h1, h2, h3, h4, h5, h6⟩ := h.at'
  obtain ⟨r1, r2, r3⟩ := h.rest 1 (by omega) (.int .i64 z)
  exact ⟨⟨cell_oth h0 (by omega), World.cell?_setCell_same w' _ _ h1, cell_oth h2 (by omega), cell_oth h3 (by omega), cell_oth h4 (by omega), cell_oth h5 (by omega), cell_oth h6 (by omega)⟩, r1, r2, r3, h.mem⟩
theorem Part7.set0 (h : Part7 F w w' b o ty ver ⟨c0, c1, c2, c3, c4⟩) (v : Value) : Part7 F w (w'.setCell ⟨b, o + 2, none⟩ v) b o ty ver ⟨v, c1, c2, c3, c4⟩ := by
  obtain ⟨h0, h1, h2, h3, h4, h5, h6⟩ := h.at'
  obtain ⟨r1, r2, r3⟩ := h.rest 2 (by omega) v
  exact ⟨⟨cell_oth h0 (by omega), cell_oth h1 (by omega), World.cell?_setCell_same w' _ _ h2, cell_oth h3 (by omega), cell_oth h4 (by omega), cell_oth h5 (by omega), cell_oth h6 (by omega)⟩, r1, r2, r3, h.mem⟩
theorem Part7.set1 (h : Part7 F w w' b o ty ver ⟨c0, c1, c2, c3, c4⟩) (v : Value) : Part7 F w (w'.setCell ⟨b, o + 3, none⟩ v) b o ty ver ⟨c0, v, c2, c3, c4⟩ := by
  obtain ⟨h0, h1, h2, h3, h4, h5, h6⟩ := h.at'
  obtain ⟨r1, r2, r3⟩ := h.rest 3 (by omega) v
  exact ⟨⟨cell_oth h0 (by omega), cell_oth h1 (by omega), cell_oth h2 (by omega), World.cell?_setCell_same w' _ _ h3, cell_oth h4 (by omega), cell_oth h5 (by omega), cell_oth h6 (by omega)⟩, r1, r2, r3, h.mem⟩
theorem Part7.set2 (h : Part7 F w w' b o ty ver ⟨c0, c1, c2, c3, c4⟩) (v : Value) : Part7 F w (w'.setCell ⟨b, o + 4, none⟩ v) b o ty ver ⟨c0, c1, v, c3, c4⟩ := by
  obtain ⟨h0, h1, h2, h3, h4, h5, h6⟩ := h.at'
  obtain ⟨r1, r2, r3⟩ := h.rest 4 (by omega) v
  exact ⟨⟨cell_oth h0 (by omega), cell_oth h1 (by omega), cell_oth h2 (by omega), cell_oth h3 (by omega), World.cell?_setCell_same w' _ _ h4, cell_oth h5 (by omega), cell_oth h6 (by omega)⟩, r1, r2, r3, h.mem⟩
end

set_option maxHeartbeats 1600000 in
theorem markEventS_own (es : List Ev) (v : Value) (F : List Nat) (k : Nat) (w : World) (hv : EvsOwn w v es F) (hnd : F.Nodup) (hlt0 : ∀ x, x ∈ F → x < w.heap.size) (hk0 : 0 < k) (hk : k + cE es ≤ 1099511627776) :
    Calls Tryz.prog 19 #[v, .int .i64 k] w fun e w' => e = .returned (.int .i64 (k + cE es : Nat)) ∧ EvsOwn w' v (mE k es) F ∧ Exc F w w' := by
  obtain ⟨a, cap, rfl, hlen, hc⟩ := hv
  rcases hc with ⟨rfl, rfl⟩ | ⟨b, G, rfl, rfl, hfr, hc⟩
  · simp only [List.length_nil, cE, Nat.add_zero] at *
    go_enter Tryz.func19, Tryz.ntmps19
    go_wp2_with fail
    go_loopw [1, 5] (fun kk i wr => kk = .int .i64 k ∧ i = .int .i64 0 ∧ wr = w) (fun _ _ _ => 0)
    case atStart => exact ⟨rfl, rfl, rfl⟩
    case round =>
      obtain ⟨rfl, rfl, rfl⟩ := hrel
      go_wp2_with fail
      go_ret
      exact ⟨rfl, ⟨a, cap, by simp [mE], by simp [mE], Or.inl ⟨by rw [mE], rfl⟩⟩, Exc.refl _ _⟩
  · have HM := hide (MrkE.start (k0 := k) hfr hc)
    have HND := hide hnd
    have HLT := hide hlt0
    clear hfr hc hnd hlt0
    go_enter Tryz.func19, Tryz.ntmps19
    go_wp2_with fail
    go_loopw [1, 5] (fun kk i wr => ∃ (j : Nat), j ≤ es.length ∧ kk = .int .i64 (k + cE (es.take j) : Nat) ∧ i = .int .i64 j ∧ Hid (MrkE wr b es k j G) ∧ Exc (b :: G) w wr) (fun _ i _ => es.length - (intOf i).toNat)
    case atStart => exact ⟨0, Nat.zero_le _, by simp [cE], rfl, HM, Exc.refl _ _⟩
    case round =>
      obtain ⟨j, hj, rfl, rfl, HMj, hex⟩ := hrel
      by_cases hlt : j < es.length
      · have hle := cE_take_le es (j + 1)
        have hsuc := cE_take_succ es j hlt
        obtain ⟨G1, N1, K1, H2, c, hG, hf, hd, hr, hat, e0, e1, e2, hnm, hkd⟩ := HMj.out.open hlt
        obtain ⟨c0, c1, c2, c3, c4⟩ := c
        have hblt : b < wr.heap.size := Nat.lt_of_lt_of_le (unhide HLT b (by simp)) hex.size
        have hGlt : ∀ x, x ∈ G → x < wr.heap.size := fun x hx => Nat.lt_of_lt_of_le (unhide HLT x (by simp [hx])) hex.size
        have hnd := unhide HND
        rw [hG] at hnd hGlt
        rw [List.nodup_cons] at hnd
        obtain ⟨hbn, hnd⟩ := hnd
        have hle2 : cE (es.take j) + (5 + es[j].t.names.length + cK es[j].t.kids) ≤ cE es := by omega
        have HS := hide hsuc
        have HBG := hide hk
        generalize hq : k + cE (es.take j) = q at *
        have HQ := hide hq
        have hq1 : 0 < q := by omega
        have hq2 : q + 5 + es[j].t.names.length + cK es[j].t.kids ≤ 1099511627776 := by omega
        generalize hnames : es[j].t.names = nms at *
        generalize hkids : es[j].t.kids = kds at *
        have HNM := hide hnm; have HKD := hide hkd; have HD := hide hd; have HR := hide hr; have HGL := hide hGlt; have HBN := hide hbn; have HN2 := hide hnd; have HG := hide hG; have HF := hide hf; have HAT := hide hat
        have HNE := hide hnames; have HKE := hide hkids
        obtain ⟨y0, y1, y2, y3, y4, y5, y6⟩ := hat
        simp only at e0 e1 e2 y0 y1 y2 y3 y4 y5 y6
        have z0 := hf (j * 7); have z1 := hf (j * 7 + 1); have z2 := hf (j * 7 + 2); have z3 := hf (j * 7 + 3); have z4 := hf (j * 7 + 4)
        clear hnm hkd hd hr hGlt hbn hnd hG hf hsuc hle hle2 hnames hkids hq e0 e1 e2 HM HMj hk
        go_wp2_with fail
        refine (markText_any q _ (by omega) (by omega)).mono ?_
        rintro e w1 ⟨rfl, hb1⟩
        have p1 := (Part7.start HAT.out HF.out).on (H := []) (Exc.of_below hb1) (by simp) (by simp)
        have p2 := (((p1.setT (mtx q)).setV ((q : Int) + 1)).set0 (.int .i64 ((q : Int) + 2))).set1 (.int .i64 ((q : Int) + 3))
        obtain ⟨x0, x1, x2, x3, x4, x5, x6⟩ := p1.at'
        simp only at x0 x1 x2 x3 x4 x5 x6
        have zz := p1.free
        have z0 := zz (j * 7); have z1 := zz (j * 7 + 1); have z2 := zz (j * 7 + 2); have z3 := zz (j * 7 + 3)
        have HP2 := hide p2
        have hz2 : (q : Int) + 1 + 1 = (q : Int) + 2 := by omega
        have hz3 : (q : Int) + 2 + 1 = (q : Int) + 3 := by omega
        have hz4 : (q : Int) + 3 + 1 = (q : Int) + 4 := by omega
        clear p1 p2 hb1 y0 y1 y2 y3 y4 y5 y6 HAT zz
        go_wp2_with fail
        refine (markText_any (q + 4) _ (by omega) (by omega)).mono ?_
        rintro e w2 ⟨rfl, hb2⟩
        have p3 := HP2.out.on (H := []) (w2 := w2) (Exc.of_below hb2) (by simp) (by simp)
        have HP3 := hide p3
        obtain ⟨-, -, -, -, v4, v5, v6⟩ := p3.at'
        simp only at v4 v5 v6
        have zz4 := p3.free (j * 7 + 4)
        clear p3 hb2 x0 x1 x2 x3 x4 x5 x6 z0 z1 z2 z3 z4 HP2
        go_wp2_with fail
        have p4 := HP3.out.set2 (.string (mtx (q + 4)))
        have hbn := HBN.out
        simp only [List.mem_append, not_or] at hbn
        have hd3 : ∀ x, x ≠ b → x < wr.heap.size → (w2.setCell ⟨b, j * 7 + 4, none⟩ (.string (mtx (q + 4)))).heap[x]? = wr.heap[x]? := fun x hx hxl => p4.exc.block x hxl (by simpa using hx)
        have hne : ∀ x, x ∈ G1 ++ ((N1 ++ K1) ++ H2) → x ≠ b := fun x hx e => HBN.out (e ▸ hx)
        refine (markStringS_any c3 nms N1 (q + 5) _ (HNM.out.carry fun x hx => hd3 x (hne x (by simp [hx])) (HGL.out x (by simp [hx]))) (by omega) (by omega)).mono ?_
        rintro e w3 ⟨rfl, hs3, hx3⟩
        have p5 := (p4.mono (G := b :: N1) (by simp)).on hx3 (by simp [hbn.2.1.1]) (fun x hx => by simp [hx])
        obtain ⟨-, -, -, -, -, -, x6'⟩ := p5.at'
        simp only at x6'
        have HP5 := hide p5; have HS3 := hide hs3
        clear p4 p5 hs3 v4 v5 v6 zz4 hd3 hne hx3 HP3 hbn
        go_wp2_with fail
        have hnd := HN2.out
        rw [List.nodup_append] at hnd
        obtain ⟨hnd1, hnd2, hnd3⟩ := hnd
        rw [List.nodup_append] at hnd2
        obtain ⟨hnd4, hnd5, hnd6⟩ := hnd2
        rw [List.nodup_append] at hnd4
        obtain ⟨hnd7, hnd8, hnd9⟩ := hnd4
        refine (markTreeS_all (lsz kds + 1) kds (Nat.lt_succ_self _) c4 K1 (q + 5 + nms.length) w3 (HKD.out.carry fun x hx => HP5.out.exc.block x (HGL.out x (by simp [hx])) ?_) hnd8 (fun x hx => Nat.lt_of_lt_of_le (HGL.out x (by simp [hx])) HP5.out.exc.size) (by omega) (by omega)).mono ?_
        · simp only [List.mem_cons, not_or]
          exact ⟨fun e => HBN.out (by rw [← e]; simp [hx]), fun hm => hnd9 x hm x hx rfl⟩
        rintro e w4 ⟨rfl, hk4, hx4⟩
        go_wp2_with fail
        go_roundw
        case rel =>
          have hbK : b ∉ K1 := fun hm => HBN.out (by simp [hm])
          have p6 := (HP5.out.mono (G := b :: (N1 ++ K1)) (fun x hx => by simp only [List.mem_cons, List.mem_append] at *; rcases hx with h | h; exact Or.inl h; exact Or.inr (Or.inl h))).on hx4 hbK (fun x hx => by simp [hx])
          have hs4 := HS3.out.carry (w' := w4) fun x hx => hx4.block x (Nat.lt_of_lt_of_le (HGL.out x (by simp [hx])) HP5.out.exc.size) (fun hm => hnd9 x hx x hm rfl)
          have hnmE := HNE.out; have hkdE := HKE.out
          subst hnmE hkdE
          have hst := MrkE.step (w := wr) (w' := w4) (q := q) (c3 := c3) (c4 := c4) hlt HBG.out HQ.out.symm HD.out HR.out p6.free p6.cells (fun x hx => p6.exc.block x (HGL.out x (by rcases hx with h | h <;> simp [h])) (by
            simp only [List.mem_cons, List.mem_append, not_or]
            rcases hx with h | h
            · exact ⟨fun e => HBN.out (by rw [← e]; simp [h]), fun hm => hnd3 x h x (by simp [hm]) rfl, fun hm => hnd3 x h x (by simp [hm]) rfl⟩
            · exact ⟨fun e => HBN.out (by rw [← e]; simp [h]), fun hm => hnd6 x (by simp [hm]) x h rfl, fun hm => hnd6 x (by simp [hm]) x h rfl⟩)) (by simpa using p6.at') hs4 hk4
          refine ⟨j + 1, by omega, ?_, by go_num, hide (by rw [HG.out]; exact hst), hex.trans (p6.exc.mono fun x hx => ?_)⟩
          · rw [HS.out, ← Nat.add_assoc, HQ.out]; congr 2; omega
          · rw [HG.out]
            simp only [List.mem_cons, List.mem_append] at *
            rcases hx with h | h | h
            · exact Or.inl h
            · exact Or.inr (Or.inr (Or.inl (Or.inl h)))
            · exact Or.inr (Or.inr (Or.inl (Or.inr h)))
        case measure => simp [intOf]; omega
      · go_wp2_with fail
        go_ret
        obtain rfl : j = es.length := by omega
        obtain ⟨hf, G1, G2, hG, h1, h2⟩ := HMj.out
        rw [List.take_length] at h1
        rw [List.drop_length] at h2
        have h2' : G2 = [] := h2
        subst h2'
        rw [List.append_nil] at hG
        subst hG
        rw [List.take_length]
        exact ⟨rfl, ⟨_, cap, by rw [mE_len], by rw [mE_len]; exact hlen, Or.inr ⟨b, G, rfl, rfl, hf, h1⟩⟩, hex⟩
end Go.Proofs.YtiflfcjocngiiaaGreatDoor

/- The walks of the law's heldEventS, markRecord, heldRecord. The marks count to at most 2^40. -/

namespace Go.Proofs.YtiflfcjocngiiaaGreatDoor
open Go Go.RowKit

theorem mE_get (k : Nat) : ∀ (es : List Ev) (i : Nat) (h : i < es.length), (mE k es)[i]'(by rw [mE_len]; exact h) = ⟨mtx (k + cE (es.take i)), ((k + cE (es.take i) + 1 : Nat) : Int), .mk ((k + cE (es.take i) + 2 : Nat) : Int) ((k + cE (es.take i) + 3 : Nat) : Int) (mtx (k + cE (es.take i) + 4)) (mS (k + cE (es.take i) + 5) es[i].t.names) (mK (k + cE (es.take i) + 5 + es[i].t.names.length) es[i].t.kids)⟩ := fun es => by
  induction es generalizing k with
  | nil => intro i h; simp at h
  | cons x r ih =>
    intro i h
    cases i with
    | zero => simp [mE, cE]
    | succ i =>
      have := ih (k + (5 + x.t.names.length + cK x.t.kids)) i (by simpa using h)
      simp only [mE, List.getElem_cons_succ, List.take_succ_cons, cE]
      rw [this]
      have e1 : k + (5 + x.t.names.length + cK x.t.kids) + cE (r.take i) = k + (5 + x.t.names.length + cK x.t.kids + cE (r.take i)) := by omega
      rw [e1]
set_option maxRecDepth 100000 in
set_option maxHeartbeats 1600000 in
theorem heldEventS_any (es : List Ev) (P : Nat → Prop) (v : Value) (k : Nat) (w : World) (hP : ∀ b, P b → b < w.heap.size) (hv : EvsAt P w v (mE k es)) (hk0 : 0 < k) (hk : k + cE es ≤ 1099511627776) :
    Calls Tryz.prog 20 #[v, .int .i64 k] w fun e w' => e = .returned (.int .i64 (k + cE es : Nat)) ∧ Below w.heap.size w w' := by
  obtain ⟨a, cap, rfl, hlen, hc⟩ := hv
  rw [mE_len] at hlen ⊢
  have hc' : ∀ i, (hi : i < es.length) → ∃ b o, a = some ⟨b, o, none⟩ ∧ P b ∧ EvOne P w b (o + i * 7) ⟨mtx (k + cE (es.take i)), ((k + cE (es.take i) + 1 : Nat) : Int), .mk ((k + cE (es.take i) + 2 : Nat) : Int) ((k + cE (es.take i) + 3 : Nat) : Int) (mtx (k + cE (es.take i) + 4)) (mS (k + cE (es.take i) + 5) es[i].t.names) (mK (k + cE (es.take i) + 5 + es[i].t.names.length) es[i].t.kids)⟩ := fun i hi => by
    obtain ⟨b, o, h1, h2, h3⟩ := hc i (by rw [mE_len]; exact hi)
    rw [mE_get k es i hi] at h3
    exact ⟨b, o, h1, h2, h3⟩
  have HC := hide hc'; have HP := hide hP
  clear hc hc' hP
  go_enter Tryz.func20, Tryz.ntmps20
  go_wp2_with fail
  go_loopw [1, 5] (fun kk i wr => ∃ (j : Nat), j ≤ es.length ∧ kk = .int .i64 (k + cE (es.take j) : Nat) ∧ i = .int .i64 j ∧ Below w.heap.size w wr) (fun _ i _ => es.length - (intOf i).toNat)
  case atStart => exact ⟨0, Nat.zero_le _, by simp [cE], rfl, Below.refl _ _⟩
  case round =>
    obtain ⟨j, hj, rfl, rfl, hb⟩ := hrel
    by_cases hlt : j < es.length
    · have hle := cE_take_le es (j + 1)
      have hsuc := cE_take_succ es j hlt
      obtain ⟨b, o, rfl, hpb, c, hat, hrep, -, -⟩ := unhide HC j hlt
      simp only at hat hrep
      have hat' := hat.carry (hb.block b (unhide HP b hpb))
      have hle2 : cE (es.take j) + (5 + es[j].t.names.length + cK es[j].t.kids) ≤ cE es := by omega
      have HS := hide hsuc
      generalize hq : k + cE (es.take j) = q at *
      have HQ := hide hq
      have hq1 : 0 < q := by omega
      have hq2 : q + 5 + es[j].t.names.length + cK es[j].t.kids ≤ 1099511627776 := by omega
      generalize es[j].t.names = nms at *
      generalize es[j].t.kids = kds at *
      obtain ⟨e0, e1, e2, -, -, -, hns, a4, cap4, e4, hl4, hks⟩ := hrep.open
      simp only [Tr.sort, Tr.num, Tr.text, Tr.names, Tr.kids] at e0 e1 e2 hns e4 hl4 hks
      obtain ⟨c0, c1, c2, c3, c4⟩ := c
      simp only at e0 e1 e2 e4 hns
      subst e0 e1 e2 e4
      have hks' := heldTree_kids hks
      rw [mK_len] at hl4
      have HNS := hide hns; have HKS := hide hks'
      have hblt : b < wr.heap.size := Nat.lt_of_lt_of_le (unhide HP b hpb) hb.size
      have HAT : Hid (∀ W, Below wr.heap.size wr W → E7at W b (o + j * 7) (mtx q) ((q + 1 : Nat) : Int) ⟨.int .i64 (q + 2 : Nat), .int .i64 (q + 3 : Nat), .string (mtx (q + 4)), c3, .slice a4 kds.length cap4⟩) := fun W hW => by
        have := hat'.carry (hW.block b hblt)
        rw [mK_len] at this
        exact this
      obtain ⟨y0, y1, y2, y3, y4, y5, y6⟩ := hat'
      simp only [mK_len] at y0 y1 y2 y3 y4 y5 y6
      have hcall := (markText_any q wr.drew (by omega) (by omega)).mono (fun e w' (h : e = .returned (.string (mtx q)) ∧ Below wr.drew.heap.size wr.drew w') => (⟨h.1, h.2, (h.2.cell (p := ⟨b, o + j * 7, none⟩) hblt).trans y0⟩ :
        e = .returned (.string (mtx q)) ∧ Below wr.drew.heap.size wr.drew w' ∧ w'.cell? ⟨b, o + j * 7, none⟩ = some (.string (mtx q))))
      have HCALL := hide hcall
      have hqi : (q : Int) ≤ 1099511627776 := by omega
      have HB0 := hide hb
      clear hle hle2 hsuc hrep hat hks hns hks' hcall hpb hb
      go_wp2_with fail
      go_region_with (go_at_call 35; refine (unhide HCALL).mono ?_; rintro e w' ⟨rfl, hb', x0⟩)
      all_goals
        have hwb : Below wr.heap.size wr w' := (Below.refl _ wr).drew.trans hb'
        obtain ⟨-, x1, x2, x3, x4, x5, x6⟩ := HAT.out w' hwb
        simp only at x1 x2 x3 x4 x5 x6
        have HB1 := hide (HB0.out.trans (hwb.mono HB0.out.size))
        have hblt2 : b < w'.heap.size := World.block_lt_of_cell? w' _ x0
        have HAT2 : Hid (∀ W, Below w'.heap.size w' W → E7at W b (o + j * 7) (mtx q) ((q + 1 : Nat) : Int) ⟨.int .i64 (q + 2 : Nat), .int .i64 (q + 3 : Nat), .string (mtx (q + 4)), c3, .slice a4 kds.length cap4⟩) := fun W hW => HAT.out W (hwb.trans (hW.mono hwb.size))
        have hc2 := (markText_any (q + 4) w'.drew (by omega) (by omega)).mono (fun e w2 (h : e = .returned (.string (mtx (q + 4))) ∧ Below w'.drew.heap.size w'.drew w2) => (⟨h.1, h.2, (h.2.cell (p := ⟨b, o + j * 7 + 4, none⟩) hblt2).trans x4, (h.2.cell (p := ⟨b, o + j * 7 + 5, none⟩) hblt2).trans x5, (h.2.cell (p := ⟨b, o + j * 7 + 6, none⟩) hblt2).trans x6⟩ :
          e = .returned (.string (mtx (q + 4))) ∧ Below w'.drew.heap.size w'.drew w2 ∧ w2.cell? ⟨b, o + j * 7 + 4, none⟩ = some (.string (mtx (q + 4))) ∧ w2.cell? ⟨b, o + j * 7 + 5, none⟩ = some c3 ∧ w2.cell? ⟨b, o + j * 7 + 6, none⟩ = some (.slice a4 kds.length cap4)))
        have HC2 := hide hc2
        have hz2 : (q : Int) + 1 + 1 = (q : Int) + 2 := by omega
        have hz3 : (q : Int) + 2 + 1 = (q : Int) + 3 := by omega
        have hz4 : (q : Int) + 3 + 1 = (q : Int) + 4 := by omega
        clear hwb hb' y0 y1 y2 y3 y4 y5 y6 HAT HCALL hc2
        go_wp2_with fail
        go_region_with (go_at_call 35; refine (unhide HC2).mono ?_; rintro e w2 ⟨rfl, hb2, v4, v5, v6⟩)
        all_goals
          have HB2 := hide (HB1.out.trans (((Below.refl _ w').drew.trans hb2).mono HB1.out.size))
          clear hb2 x0 x1 x2 x3 x4 x5 x6
          go_wp2_with fail
          refine (heldStringS_any c3 nms (q + 5) w2 (P := P) (HNS.out.carry (fun b hb => HB2.out.block b (HP.out b hb)) (fun _ h => h)) (fun b hb => Nat.lt_of_lt_of_le (HP.out b hb) HB2.out.size) (by omega) (by omega)).mono ?_
          rintro e w3 ⟨rfl, hb3⟩
          have z6 : w3.cell? ⟨b, o + j * 7 + 6, none⟩ = some (.slice a4 kds.length cap4) := (hb3.cell (p := ⟨b, o + j * 7 + 6, none⟩) (World.block_lt_of_cell? w2 _ v6)).trans v6
          have hb4 := HB2.out.trans (hb3.mono HB2.out.size)
          have HB4 := hide hb4
          clear hb3 hb4 v4 v5 v6
          go_wp2_with fail
          refine (heldTreeS_all (lsz kds + 1) kds (Nat.lt_succ_self _) P a4 cap4 (q + 5 + nms.length) w3 (fun b hb => Nat.lt_of_lt_of_le (HP.out b hb) HB4.out.size) hl4 (fun i hi => ?_) (by omega) (by omega)).mono ?_
          · obtain ⟨b, o, c, h1, h2, h3, h4⟩ := HKS.out i hi
            exact ⟨b, o, c, h1, h2, h3.carry (HB4.out.block b (HP.out b h2)), Rep.carry (fun b hb => HB4.out.block b (HP.out b hb)) (fun _ h => h) _ _ h4⟩
          rintro e w5 ⟨rfl, hb5⟩
          have hb6 := HB4.out.trans (hb5.mono HB4.out.size)
          clear hb5
          go_wp2_with fail
          go_roundw
          case rel =>
            refine ⟨j + 1, by omega, ?_, by go_num, hb6⟩
            rw [HS.out]; congr 2; have := HQ.out; omega
          case measure => simp [intOf]; omega
    · go_wp2_with fail
      go_ret
      obtain rfl : j = es.length := by omega
      rw [List.take_length]
      exact ⟨rfl, hb⟩
set_option maxRecDepth 100000 in
set_option maxHeartbeats 800000 in
theorem markRecord_own (pos : Int) (key : ByteArray) (es : List Ev) (v : Value) (F : List Nat) (k : Nat) (w : World) (hv : EvsOwn w v es F) (hnd : F.Nodup) (hlt : ∀ x, x ∈ F → x < w.heap.size) (hk0 : 0 < k) (hk : k + cE es ≤ 1099511627776) :
    Calls Tryz.prog 7 #[.agg #[.int .i64 pos, .string key, v], .int .i64 k] w fun e w' => e = .returned (.int .i64 (k + cE es : Nat)) ∧ EvsOwn w' v (mE k es) F ∧ Exc F w w' := by
  have hbx : ∀ o, Below w.heap.size w (w.alloc o) := fun o => (Below.refl _ _).alloc (Nat.le_refl _) o
  have HM := hide (fun o => markEventS_own es v F k (w.alloc o) (hv.carry (fun b hb => (hbx o).block b (hlt b hb))) hnd (fun b hb => Nat.lt_of_lt_of_le (hlt b hb) (hbx o).size) hk0 hk)
  obtain ⟨a, cap, rfl, -, -⟩ := hv
  have HBX := hide hbx
  clear hbx hlt hnd
  go_enter Tryz.func7, Tryz.ntmps7
  go_wp2_with fail
  refine (unhide HM _).mono ?_
  rintro e w1 ⟨rfl, h1, h2⟩
  have HX := hide ((Exc.of_below (F := F) (unhide HBX _)).trans h2)
  clear h2 HM
  go_wp2_with fail
  go_ret
  exact ⟨rfl, h1, unhide HX⟩
set_option maxRecDepth 100000 in
set_option maxHeartbeats 800000 in
theorem heldRecord_any (pos : Int) (key : ByteArray) (es : List Ev) (P : Nat → Prop) (v : Value) (k : Nat) (w : World) (hP : ∀ b, P b → b < w.heap.size) (hv : EvsAt P w v (mE k es)) (hk0 : 0 < k) (hk : k + cE es ≤ 1099511627776) :
    Calls Tryz.prog 8 #[.agg #[.int .i64 pos, .string key, v], .int .i64 k] w fun e w' => e = .returned (.int .i64 (k + cE es : Nat)) ∧ Below w.heap.size w w' := by
  have hbx : ∀ o, Below w.heap.size w (w.alloc o) := fun o => (Below.refl _ _).alloc (Nat.le_refl _) o
  have HM := hide (fun o => heldEventS_any es P v k (w.alloc o) (fun b hb => Nat.lt_of_lt_of_le (hP b hb) (hbx o).size) (hv.carry (fun b hb => (hbx o).block b (hP b hb)) (fun _ h => h)) hk0 hk)
  obtain ⟨a, cap, rfl, -, -⟩ := hv
  have HBX := hide hbx
  clear hbx hP
  generalize hm : k + cE es = m at *
  clear hm
  go_enter Tryz.func8, Tryz.ntmps8
  go_wp2_with fail
  refine (unhide HM _).mono ?_
  rintro e w1 ⟨rfl, hb1⟩
  have HX := hide ((unhide HBX _).trans (hb1.mono (unhide HBX _).size))
  clear hb1 HM
  go_wp2_with fail
  go_ret
  exact ⟨rfl, unhide HX⟩
end Go.Proofs.YtiflfcjocngiiaaGreatDoor
