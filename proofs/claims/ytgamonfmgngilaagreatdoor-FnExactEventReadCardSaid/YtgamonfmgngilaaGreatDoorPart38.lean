/- The walks of markText and markStringS: the text of a mark; strings that own their memory are marked in place, and nothing else turns. For marks up to 2^40. -/
import Derived.Test.YtgamonfmgngilaaGreatDoorRows
import Derived.Test.YtgamonfmgngilaaGreatDoorPart13
import Derived.Test.YtgamonfmgngilaaGreatDoorPart27
namespace Go.Proofs.YtgamonfmgngilaaGreatDoor
open Go Go.RowKit

theorem mtl_step {j : Nat} (h : j ≠ 0) (o : ByteArray) : mtl j o = mtl (j / 10) (⟨#[dg ((j : Int) % 10)]⟩ ++ o) := by
  conv => lhs; rw [mtl]
  rw [dif_neg h]
  have : dg ((j : Int) % 10) = UInt8.ofNat (48 + j % 10) := by unfold dg; rw [show ((j : Int) % 10).toNat = j % 10 from by omega]
  rw [this]
theorem mtl_zero (o : ByteArray) : mtl 0 o = o := by rw [mtl]; simp

theorem quo10' {n : Int} (h0 : 0 ≤ n) (h1 : n ≤ 1099511627776) : IntKind.i64.wrap (n.tdiv 10) = n / 10 := by
  rw [IntKind.wrap_i64, Int.tdiv_eq_ediv_of_nonneg h0]; omega

set_option maxHeartbeats 400000 in
theorem markText_any (k : Nat) (w : World) (hk0 : 0 < k) (hk : k ≤ 1099511627776) :
    Calls Tryz.prog 111 #[.int .i64 k] w fun e w' => e = .returned (.string (mtx k)) ∧ Below w.heap.size w w' := by
  go_enter Tryz.func111, Tryz.ntmps111
  go_wp2_with fail
  go_loopw [0, 3] (fun kk os wr => ∃ (j : Nat) (o : ByteArray), kk = .int .i64 j ∧ os = .string o ∧ Hid (mtl j o = mtl k ByteArray.empty) ∧ o.size + j ≤ k ∧ Below w.heap.size w wr) (fun kk _ _ => (intOf kk).toNat)
  case atStart => exact ⟨k, ByteArray.empty, rfl, rfl, hide rfl, by simp, Below.refl _ _⟩
  case round =>
    obtain ⟨j, o, rfl, rfl, HM, hsz, hb⟩ := hrel
    by_cases hj : j = 0
    · subst hj
      have hm := HM.out
      rw [mtl_zero] at hm
      have HM2 := hide hm
      have e1 : (ByteArray.mk #[109]).size = 1 := rfl
      have e2 : o.size ≤ 1099511627776 := by omega
      clear hm HM hsz
      go_wp2_with fail
      go_ret
      have hm := HM2.out
      subst hm
      exact ⟨rfl, hb⟩
    · have hconv := fun W b cap => conv_one W b cap ((j : Int) % 10) (by omega) (by omega)
      have hq1 := quo10' (n := j) (by omega) (by omega)
      have hq2 := rem10 (n := j) (by omega)
      have hq3 := rem10b j
      have hm := HM.out
      rw [mtl_step hj] at hm
      have HM2 := hide hm
      have e1 : (ByteArray.mk #[dg ((j : Int) % 10)]).size = 1 := rfl
      clear hm HM
      go_wp2_with fail
      go_roundw
      case rel =>
        refine ⟨j / 10, _, by simp, rfl, HM2, ?_, hb.alloc hb.size _⟩
        rw [ByteArray.size_append, e1]; omega
      case measure => simp [intOf]; omega

/-- What the loop of markStringS has marked after k rounds. -/
def MrkS (w : World) (b : Nat) (ss : List ByteArray) (k0 k : Nat) : Prop :=
  FreeB w b ∧ ∀ i, (h : i < ss.length) → w.cell? ⟨b, i, none⟩ = some (.string (if i < k then mtx (k0 + i) else ss[i])) ∧ ss[i].size ≤ 9223372036854775807

theorem MrkS.step {w : World} {b : Nat} {ss : List ByteArray} {k0 k : Nat} (h : MrkS w b ss k0 k) (hk : k < ss.length) : MrkS (w.setCell ⟨b, k, none⟩ (.string (mtx (k0 + k)))) b ss k0 (k + 1) := by
  refine ⟨h.1.set _ _, fun i hi => ⟨?_, (h.2 i hi).2⟩⟩
  by_cases e : i = k
  · subst e
    have := (h.2 i hi).1
    rw [if_pos (by omega)]
    simp [go_sem, this]
  · have := (h.2 i hi).1
    rw [show (if i < k + 1 then mtx (k0 + i) else ss[i]) = (if i < k then mtx (k0 + i) else ss[i]) from by
      by_cases e2 : i < k
      · rw [if_pos e2, if_pos (by omega)]
      · rw [if_neg e2, if_neg (by omega)]]
    rw [← this]
    simp [go_sem]
theorem MrkS.of_block {w w' : World} {b : Nat} {ss : List ByteArray} {k0 k : Nat} (h : MrkS w b ss k0 k) (e : w'.heap[b]? = w.heap[b]?) : MrkS w' b ss k0 k :=
  ⟨h.1.of_block e, fun i hi => ⟨by rw [World.cell?_of_block (w := w) (a := ⟨b, i, none⟩) e]; exact (h.2 i hi).1, (h.2 i hi).2⟩⟩

set_option maxHeartbeats 400000 in
theorem markStringS_any (v : Value) (ss : List ByteArray) (F : List Nat) (k : Nat) (w : World) (hv : StrsOwn w v ss F) (hk0 : 0 < k) (hk : k + ss.length ≤ 1099511627776) :
    Calls Tryz.prog 78 #[v, .int .i64 k] w fun e w' => e = .returned (.int .i64 (k + ss.length : Nat)) ∧ StrsOwn w' v (mS k ss) F ∧ Exc F w w' := by
  obtain ⟨a, cap, rfl, hlen, hc⟩ := hv
  rcases hc with ⟨rfl, rfl⟩ | ⟨b, rfl, rfl, hfr, hc⟩
  · simp only [List.length_nil] at *
    go_enter Tryz.func78, Tryz.ntmps78
    go_wp2_with fail
    go_loopw [1, 5] (fun kk i wr => kk = .int .i64 k ∧ i = .int .i64 0 ∧ wr = w) (fun _ _ _ => 0)
    case atStart => exact ⟨rfl, rfl, rfl⟩
    case round =>
      obtain ⟨rfl, rfl, rfl⟩ := hrel
      go_wp2_with fail
      go_ret
      exact ⟨by simp, ⟨a, cap, by simp [mS], by simp [mS], Or.inl ⟨rfl, rfl⟩⟩, Exc.refl _ _⟩
  · have hM : MrkS w b ss k 0 := ⟨hfr, fun i hi => ⟨by rw [if_neg (by omega)]; exact (hc i hi).1, (hc i hi).2⟩⟩
    have HM := hide hM
    clear hM hfr hc
    go_enter Tryz.func78, Tryz.ntmps78
    go_wp2_with fail
    go_loopw [1, 5] (fun kk i wr => ∃ (j : Nat), j ≤ ss.length ∧ kk = .int .i64 (k + j : Nat) ∧ i = .int .i64 j ∧ Hid (MrkS wr b ss k j) ∧ Exc [b] w wr) (fun _ i _ => ss.length - (intOf i).toNat)
    case atStart => exact ⟨0, Nat.zero_le _, rfl, rfl, HM, Exc.refl _ _⟩
    case round =>
      obtain ⟨j, hj, rfl, rfl, HMj, hex⟩ := hrel
      by_cases hlt : j < ss.length
      · have hblt : b < wr.heap.size := World.block_lt_of_cell? wr _ (HMj.out.2 j hlt).1
        go_wp2_with fail
        refine (markText_any (k + j) wr (by omega) (by omega)).mono ?_
        rintro e w' ⟨rfl, hb'⟩
        have hMj := HMj.out.of_block (hb'.block b hblt)
        have HMj' := hide hMj
        have z0 := hMj.1 j
        have y0 := (hMj.2 j hlt).1
        rw [if_neg (by omega)] at y0
        clear hMj
        go_wp2_with fail
        go_roundw
        case rel =>
          refine ⟨j + 1, by omega, by go_num, by go_num, hide (HMj'.out.step hlt), ?_⟩
          exact (hex.trans (Exc.of_below hb')).trans (Exc.set _ _ _ _ (by simp))
        case measure => simp [intOf]; omega
      · go_wp2_with fail
        go_ret
        obtain rfl : j = ss.length := by omega
        refine ⟨rfl, ⟨some ⟨b, 0, none⟩, cap, by rw [mS_len], by rw [mS_len]; exact hlen, Or.inr ⟨b, rfl, rfl, HMj.out.1, fun i hi => ?_⟩⟩, hex⟩
        have hi' : i < ss.length := by rw [mS_len] at hi; exact hi
        have := (HMj.out.2 i hi').1
        rw [if_pos hi'] at this
        rw [mS_get]
        exact ⟨this, by have := mtx_size (k + i); omega⟩
end Go.Proofs.YtgamonfmgngilaaGreatDoor

/- The walks of markTreeS and markTree: trees that own their memory are marked in place, and nothing else turns. For marks up to 2^40. -/

namespace Go.Proofs.YtgamonfmgngilaaGreatDoor
open Go Go.RowKit

/-- What the loop of markTreeS has marked after i rounds. -/
def MrkK (w : World) (b : Nat) (ks : List Tr) (k0 i : Nat) (G : List Nat) : Prop :=
  FreeB w b ∧ ∃ G1 G2, G = G1 ++ G2 ∧ OwnK w b 0 (mK k0 (ks.take i)) G1 ∧ OwnK w b (i * 5) (ks.drop i) G2

theorem MrkK.start {w : World} {b : Nat} {ks : List Tr} {k0 : Nat} {G : List Nat} (hf : FreeB w b) (h : OwnK w b 0 ks G) : MrkK w b ks k0 0 G :=
  ⟨hf, [], G, rfl, by simp [mK, OwnK], by simpa using h⟩

theorem MrkK.open {w : World} {b : Nat} {ks : List Tr} {k0 i : Nat} {G : List Nat} (h : MrkK w b ks k0 i G) (hlt : i < ks.length) :
    ∃ G1 N1 K1 H2 c, G = G1 ++ ((N1 ++ K1) ++ H2) ∧ FreeB w b ∧ OwnK w b 0 (mK k0 (ks.take i)) G1 ∧ OwnK w b (i * 5 + 5) (ks.drop (i + 1)) H2 ∧ C5.at w b (i * 5) c ∧
      c.c0 = .int .i64 ks[i].sort ∧ c.c1 = .int .i64 ks[i].num ∧ c.c2 = .string ks[i].text ∧ StrsOwn w c.c3 ks[i].names N1 ∧ KidsOwn w c.c4 ks[i].kids K1 := by
  obtain ⟨hf, G1, G2, rfl, h1, h2⟩ := h
  rw [List.drop_eq_getElem_cons hlt, OwnK] at h2
  obtain ⟨F1, F2, c, rfl, hc, ho, hr⟩ := h2
  obtain ⟨e0, e1, e2, -, -, -, N1, K1, rfl, hn, hk⟩ := ho.open
  exact ⟨G1, N1, K1, F2, c, rfl, hf, h1, hr, hc, e0, e1, e2, hn, hk⟩

theorem MrkK.step {w w' : World} {b : Nat} {ks : List Tr} {k0 i : Nat} {G1 N1 K1 H2 : List Nat} {c3 c4 : Value} (hlt : i < ks.length) (hbig : k0 + cK ks ≤ 1099511627776)
    (hd : OwnK w b 0 (mK k0 (ks.take i)) G1) (hr : OwnK w b (i * 5 + 5) (ks.drop (i + 1)) H2) (hf : FreeB w' b)
    (hcell : ∀ j, j < i * 5 ∨ i * 5 + 5 ≤ j → w'.cell? ⟨b, j, none⟩ = w.cell? ⟨b, j, none⟩)
    (hblk : ∀ x, x ∈ G1 ∨ x ∈ H2 → w'.heap[x]? = w.heap[x]?)
    (hc : C5.at w' b (i * 5) ⟨.int .i64 (k0 + cK (ks.take i) : Nat), .int .i64 (k0 + cK (ks.take i) + 1 : Nat), .string (mtx (k0 + cK (ks.take i) + 2)), c3, c4⟩)
    (hn : StrsOwn w' c3 (mS (k0 + cK (ks.take i) + 3) ks[i].names) N1) (hk : KidsOwn w' c4 (mK (k0 + cK (ks.take i) + 3 + ks[i].names.length) ks[i].kids) K1) :
    MrkK w' b ks k0 (i + 1) (G1 ++ ((N1 ++ K1) ++ H2)) := by
  have hle := cK_take_le ks (i + 1)
  rw [cK_take_succ ks i hlt, cT_eq] at hle
  refine ⟨hf, G1 ++ (N1 ++ K1), H2, by simp, ?_, ?_⟩
  · rw [List.take_succ_eq_append_getElem hlt, mK_snoc]
    refine OwnK.snoc (OwnK.carry b 0 _ G1 (fun x hx => hblk x (Or.inl hx)) (fun j _ hj => hcell j (Or.inl ?_)) hd) ?_ (c := ⟨.int .i64 (k0 + cK (ks.take i) : Nat), .int .i64 (k0 + cK (ks.take i) + 1 : Nat), .string (mtx (k0 + cK (ks.take i) + 2)), c3, c4⟩) ?_
    · rw [mK_len, List.length_take] at hj; omega
    · rw [mK_len, List.length_take, Nat.min_eq_left (by omega), show 0 + 5 * i = i * 5 from by omega]; exact hc
    · rw [mT_eq]
      exact Own.make rfl rfl rfl ⟨by simp [Tr.sort]; omega, by simp [Tr.sort]; omega⟩ ⟨by simp [Tr.num]; omega, by simp [Tr.num]; omega⟩ (by have := mtx_size (k0 + cK (ks.take i) + 2); simp [Tr.text]; omega) hn hk
  · rw [show (i + 1) * 5 = i * 5 + 5 from by omega]
    exact OwnK.carry b _ _ H2 (fun x hx => hblk x (Or.inr hx)) (fun j hj _ => hcell j (Or.inr hj)) hr

def MkSaid (n : Nat) : Prop := ∀ (ks : List Tr), lsz ks < n → ∀ (v : Value) (F : List Nat) (k : Nat) (w : World), KidsOwn w v ks F → F.Nodup → (∀ x, x ∈ F → x < w.heap.size) → 0 < k → k + cK ks ≤ 1099511627776 →
    Calls Tryz.prog 79 #[v, .int .i64 k] w fun e w' => e = .returned (.int .i64 (k + cK ks : Nat)) ∧ KidsOwn w' v (mK k ks) F ∧ Exc F w w'

theorem C5.at.same {w w' : World} {b o : Nat} {c : C5} (h : C5.at w b o c) (he : ∀ j, w'.cell? ⟨b, j, none⟩ = w.cell? ⟨b, j, none⟩) : C5.at w' b o c := by
  obtain ⟨h0, h1, h2, h3, h4⟩ := h
  exact ⟨by rw [he]; exact h0, by rw [he]; exact h1, by rw [he]; exact h2, by rw [he]; exact h3, by rw [he]; exact h4⟩

/-- One place of a row has turned, and blocks of F; the rest of the row is as it was. -/
structure Part5 (F : List Nat) (w w' : World) (b o : Nat) (c : C5) : Prop where
  at' : C5.at w' b o c
  free : FreeB w' b
  cells : ∀ j, j < o ∨ o + 5 ≤ j → w'.cell? ⟨b, j, none⟩ = w.cell? ⟨b, j, none⟩
  exc : Exc F w w'
  mem : b ∈ F

theorem Part5.start {w : World} {b o : Nat} {c : C5} (h : C5.at w b o c) (hf : FreeB w b) : Part5 [b] w w b o c := ⟨h, hf, fun _ _ => rfl, Exc.refl _ _, by simp⟩
theorem Part5.mono {F G : List Nat} {w w' : World} {b o : Nat} {c : C5} (h : Part5 F w w' b o c) (hs : ∀ x, x ∈ F → x ∈ G) : Part5 G w w' b o c := ⟨h.at', h.free, h.cells, h.exc.mono hs, hs b h.mem⟩
theorem Part5.set0 {F : List Nat} {w w' : World} {b o : Nat} {c0 c1 c2 c3 c4 : Value} (h : Part5 F w w' b o ⟨c0, c1, c2, c3, c4⟩) (v : Value) : Part5 F w (w'.setCell ⟨b, o, none⟩ v) b o ⟨v, c1, c2, c3, c4⟩ := by
  obtain ⟨h0, h1, h2, h3, h4⟩ := h.at'
  refine ⟨⟨by simp [go_sem, h0], by simpa [go_sem] using h1, by simpa [go_sem] using h2, by simpa [go_sem] using h3, by simpa [go_sem] using h4⟩, h.free.set _ _, fun j hj => ?_, h.exc.trans (Exc.set _ _ _ _ h.mem), h.mem⟩
  rw [← h.cells j hj]
  have e : j ≠ o := by omega
  simp [go_sem]
theorem Part5.set1 {F : List Nat} {w w' : World} {b o : Nat} {c0 c1 c2 c3 c4 : Value} (h : Part5 F w w' b o ⟨c0, c1, c2, c3, c4⟩) (v : Value) : Part5 F w (w'.setCell ⟨b, o + 1, none⟩ v) b o ⟨c0, v, c2, c3, c4⟩ := by
  obtain ⟨h0, h1, h2, h3, h4⟩ := h.at'
  refine ⟨⟨by simpa [go_sem] using h0, by simp [go_sem, h1], by simpa [go_sem] using h2, by simpa [go_sem] using h3, by simpa [go_sem] using h4⟩, h.free.set _ _, fun j hj => ?_, h.exc.trans (Exc.set _ _ _ _ h.mem), h.mem⟩
  rw [← h.cells j hj]
  have e : j ≠ o + 1 := by omega
  simp [go_sem]
theorem Part5.set2 {F : List Nat} {w w' : World} {b o : Nat} {c0 c1 c2 c3 c4 : Value} (h : Part5 F w w' b o ⟨c0, c1, c2, c3, c4⟩) (v : Value) : Part5 F w (w'.setCell ⟨b, o + 2, none⟩ v) b o ⟨c0, c1, v, c3, c4⟩ := by
  obtain ⟨h0, h1, h2, h3, h4⟩ := h.at'
  refine ⟨⟨by simpa [go_sem] using h0, by simpa [go_sem] using h1, by simp [go_sem, h2], by simpa [go_sem] using h3, by simpa [go_sem] using h4⟩, h.free.set _ _, fun j hj => ?_, h.exc.trans (Exc.set _ _ _ _ h.mem), h.mem⟩
  rw [← h.cells j hj]
  have e : j ≠ o + 2 := by omega
  simp [go_sem]
theorem Part5.lt {F : List Nat} {w w' : World} {b o : Nat} {c : C5} (h : Part5 F w w' b o c) : b < w'.heap.size := World.block_lt_of_cell? w' _ h.at'.1
theorem Part5.on {F H : List Nat} {w w' w2 : World} {b o : Nat} {c : C5} (h : Part5 F w w' b o c) (hx : Exc H w' w2) (hb : b ∉ H) (hs : ∀ x, x ∈ H → x ∈ F) : Part5 F w w2 b o c := by
  have hblk := hx.block b h.lt hb
  exact ⟨h.at'.carry hblk, h.free.of_block hblk, fun j hj => by rw [World.cell?_of_block (w := w') (a := ⟨b, j, none⟩) hblk]; exact h.cells j hj, h.exc.trans (hx.mono hs), h.mem⟩

set_option maxHeartbeats 800000 in
theorem markTreeS_step (n : Nat) (IH : MkSaid n) : MkSaid (n + 1) := by
  intro ks hn v F k w hv hnd hlt0 hk0 hk
  obtain ⟨a, cap, rfl, hlen, hc⟩ := hv
  rcases hc with ⟨rfl, rfl⟩ | ⟨b, G, rfl, rfl, hfr, hc⟩
  · simp only [List.length_nil, cK, Nat.add_zero] at *
    clear IH
    go_enter Tryz.func79, Tryz.ntmps79
    go_wp2_with fail
    go_loopw [1, 5] (fun kk i wr => kk = .int .i64 k ∧ i = .int .i64 0 ∧ wr = w) (fun _ _ _ => 0)
    case atStart => exact ⟨rfl, rfl, rfl⟩
    case round =>
      obtain ⟨rfl, rfl, rfl⟩ := hrel
      go_wp2_with fail
      go_ret
      exact ⟨rfl, ⟨a, cap, by simp [mK], by simp [mK], Or.inl ⟨by rw [mK], rfl⟩⟩, Exc.refl _ _⟩
  · have HM := hide (MrkK.start (k0 := k) hfr hc)
    have HI := hide IH
    have HND := hide hnd
    have HLT := hide hlt0
    clear hfr hc IH hnd hlt0
    go_enter Tryz.func79, Tryz.ntmps79
    go_wp2_with fail
    go_loopw [1, 5] (fun kk i wr => ∃ (j : Nat), j ≤ ks.length ∧ kk = .int .i64 (k + cK (ks.take j) : Nat) ∧ i = .int .i64 j ∧ Hid (MrkK wr b ks k j G) ∧ Exc (b :: G) w wr) (fun _ i _ => ks.length - (intOf i).toNat)
    case atStart => exact ⟨0, Nat.zero_le _, by simp [cK], rfl, HM, Exc.refl _ _⟩
    case round =>
      obtain ⟨j, hj, rfl, rfl, HMj, hex⟩ := hrel
      by_cases hlt : j < ks.length
      · have hle := cK_take_le ks (j + 1)
        have hsuc := cK_take_succ ks j hlt
        rw [cT_eq] at hsuc
        obtain ⟨G1, N1, K1, H2, c, hG, hf, hd, hr, hat, e0, e1, e2, hnm, hkd⟩ := HMj.out.open hlt
        obtain ⟨c0, c1, c2, c3, c4⟩ := c
        have hblt : b < wr.heap.size := Nat.lt_of_lt_of_le (unhide HLT b (by simp)) hex.size
        have hGlt : ∀ x, x ∈ G → x < wr.heap.size := fun x hx => Nat.lt_of_lt_of_le (unhide HLT x (by simp [hx])) hex.size
        have hnd := unhide HND
        rw [hG] at hnd hGlt
        rw [List.nodup_cons] at hnd
        obtain ⟨hbn, hnd⟩ := hnd
        have hle2 : cK (ks.take j) + (3 + ks[j].names.length + cK ks[j].kids) ≤ cK ks := by omega
        have hsm : lsz ks[j].kids < n := by have := lsz_kid (List.getElem_mem hlt); omega
        have HS := hide hsuc
        generalize hq : k + cK (ks.take j) = q at *
        have HQ := hide hq
        have hq1 : 0 < q := by omega
        have hq2 : q + 3 + ks[j].names.length + cK ks[j].kids ≤ 1099511627776 := by omega
        generalize hnames : ks[j].names = nms at *
        generalize hkids : ks[j].kids = kds at *
        have HNM := hide hnm; have HKD := hide hkd; have HD := hide hd; have HR := hide hr; have HGL := hide hGlt; have HBN := hide hbn; have HN2 := hide hnd; have HG := hide hG; have HF := hide hf; have HAT := hide hat
        have HNE := hide hnames; have HKE := hide hkids
        obtain ⟨y0, y1, y2, y3, y4⟩ := hat
        simp only at e0 e1 e2 y0 y1 y2 y3 y4
        have z0 := hf (j * 5); have z1 := hf (j * 5 + 1); have z2 := hf (j * 5 + 2)
        clear hnm hkd hd hr hGlt hbn hnd hG hf hsuc hle hle2 hnames hkids hq e0 e1 e2 HM HMj
        go_wp2_with fail
        refine (markText_any (q + 2) _ (by omega) (by omega)).mono ?_
        rintro e w' ⟨rfl, hb'⟩
        have p2 := (((Part5.start HAT.out HF.out).set0 (.int .i64 q)).set1 (.int .i64 ((q : Int) + 1))).on (H := []) (Exc.of_below hb') (by simp) (by simp)
        have HP2 := hide p2
        obtain ⟨-, -, x2, x3, x4⟩ := p2.at'
        have zz2 := p2.free (j * 5 + 2)
        simp only at x2 x3 x4
        clear p2 hb' y0 y1 y2 y3 y4 z0 z1 z2 HAT
        go_wp2_with fail
        have p3 := HP2.out.set2 (.string (mtx (q + 2)))
        have hbn := HBN.out
        simp only [List.mem_append, not_or] at hbn
        have hd3 : ∀ x, x ≠ b → x < wr.heap.size → (w'.setCell ⟨b, j * 5 + 2, none⟩ (.string (mtx (q + 2)))).heap[x]? = wr.heap[x]? := fun x hx hxl => p3.exc.block x hxl (by simpa using hx)
        have hne : ∀ x, x ∈ G1 ++ ((N1 ++ K1) ++ H2) → x ≠ b := fun x hx e => HBN.out (e ▸ hx)
        refine (markStringS_any c3 nms N1 (q + 3) _ (HNM.out.carry fun x hx => hd3 x (hne x (by simp [hx])) (HGL.out x (by simp [hx]))) (by omega) (by omega)).mono ?_
        rintro e w3 ⟨rfl, hs3, hx3⟩
        have p4 := (p3.mono (G := b :: N1) (by simp)).on hx3 (by simp [hbn.2.1.1]) (fun x hx => by simp [hx])
        obtain ⟨-, -, -, -, x4'⟩ := p4.at'
        simp only at x4'
        have HP4 := hide p4; have HS3 := hide hs3
        clear p3 p4 hs3 x2 x3 x4 zz2 hd3 hne hx3 HP2 hbn
        go_wp2_with fail
        have hnd := HN2.out
        rw [List.nodup_append] at hnd
        obtain ⟨hnd1, hnd2, hnd3⟩ := hnd
        rw [List.nodup_append] at hnd2
        obtain ⟨hnd4, hnd5, hnd6⟩ := hnd2
        rw [List.nodup_append] at hnd4
        obtain ⟨hnd7, hnd8, hnd9⟩ := hnd4
        refine (HI.out kds hsm c4 K1 (q + 3 + nms.length) w3 (HKD.out.carry fun x hx => HP4.out.exc.block x (HGL.out x (by simp [hx])) ?_) hnd8 (fun x hx => Nat.lt_of_lt_of_le (HGL.out x (by simp [hx])) HP4.out.exc.size) (by omega) (by omega)).mono ?_
        · simp only [List.mem_cons, not_or]
          exact ⟨fun e => HBN.out (by rw [← e]; simp [hx]), fun hm => hnd9 x hm x hx rfl⟩
        rintro e w4 ⟨rfl, hk4, hx4⟩
        go_wp2_with fail
        go_roundw
        case rel =>
          have hbK : b ∉ K1 := fun hm => HBN.out (by simp [hm])
          have p5 := (HP4.out.mono (G := b :: (N1 ++ K1)) (fun x hx => by simp only [List.mem_cons, List.mem_append] at *; rcases hx with h | h; exact Or.inl h; exact Or.inr (Or.inl h))).on hx4 hbK (fun x hx => by simp [hx])
          have hs4 := HS3.out.carry (w' := w4) fun x hx => hx4.block x (Nat.lt_of_lt_of_le (HGL.out x (by simp [hx])) HP4.out.exc.size) (fun hm => hnd9 x hx x hm rfl)
          have hq := HQ.out
          subst hq
          have hnmE := HNE.out; have hkdE := HKE.out
          subst hnmE hkdE
          have hst := MrkK.step (w := wr) (w' := w4) (c3 := c3) (c4 := c4) hlt hk HD.out HR.out p5.free p5.cells (fun x hx => p5.exc.block x (HGL.out x (by rcases hx with h | h <;> simp [h])) (by
            simp only [List.mem_cons, List.mem_append, not_or]
            rcases hx with h | h
            · exact ⟨fun e => HBN.out (by rw [← e]; simp [h]), fun hm => hnd3 x h x (by simp [hm]) rfl, fun hm => hnd3 x h x (by simp [hm]) rfl⟩
            · exact ⟨fun e => HBN.out (by rw [← e]; simp [h]), fun hm => hnd6 x (by simp [hm]) x h rfl, fun hm => hnd6 x (by simp [hm]) x h rfl⟩)) (by simpa using p5.at') hs4 hk4
          refine ⟨j + 1, by omega, ?_, by go_num, hide (by rw [HG.out]; exact hst), hex.trans (p5.exc.mono fun x hx => ?_)⟩
          · rw [HS.out]; congr 2; omega
          · rw [HG.out]
            simp only [List.mem_cons, List.mem_append] at *
            rcases hx with h | h | h
            · exact Or.inl h
            · exact Or.inr (Or.inr (Or.inl (Or.inl h)))
            · exact Or.inr (Or.inr (Or.inl (Or.inr h)))
        case measure => simp [intOf]; omega
      · go_wp2_with fail
        go_ret
        obtain rfl : j = ks.length := by omega
        obtain ⟨hf, G1, G2, hG, h1, h2⟩ := HMj.out
        rw [List.take_length] at h1
        rw [List.drop_length, OwnK] at h2
        subst h2
        rw [List.append_nil] at hG
        subst hG
        rw [List.take_length]
        exact ⟨rfl, ⟨_, cap, by rw [mK_len], by rw [mK_len]; exact hlen, Or.inr ⟨b, G, rfl, rfl, hf, h1⟩⟩, hex⟩

theorem markTreeS_all : ∀ n, MkSaid n
  | 0 => fun t h => by omega
  | n + 1 => markTreeS_step n (markTreeS_all n)

set_option maxHeartbeats 400000 in
/-- Marking a tree: its own five cells are the caller's, and stay. -/
theorem markTree_any (t : Tr) (c : C5) (F : List Nat) (k : Nat) (w : World) (h : Own w t c F) (hnd : F.Nodup) (hlt : ∀ x, x ∈ F → x < w.heap.size) (hk0 : 0 < k) (hk : k + t.names.length + cK t.kids ≤ 1099511627776) :
    Calls Tryz.prog 44 #[.agg #[c.c0, c.c1, c.c2, c.c3, c.c4], .int .i64 k] w fun e w' => e = .returned (.int .i64 (k + t.names.length + cK t.kids : Nat)) ∧ Own w' (.mk t.sort t.num t.text (mS k t.names) (mK (k + t.names.length) t.kids)) c F ∧ Exc F w w' := by
  obtain ⟨e0, e1, e2, i0, i1, i2, N1, K1, rfl, hn, hkd⟩ := h.open
  obtain ⟨c0, c1, c2, c3, c4⟩ := c
  simp only at e0 e1 e2 hn hkd
  have HN := hide hn; have HK := hide hkd; have HND := hide hnd; have HLT := hide hlt; have H := hide h
  have HE := hide (And.intro e0 (And.intro e1 e2))
  have HI := hide (And.intro i0 (And.intro i1 i2))
  clear hn hkd hnd hlt h e0 e1 e2 i0 i1 i2
  go_enter Tryz.func44, Tryz.ntmps44
  go_wp2_with fail
  have hal : ∀ x, x < w.heap.size → (w.alloc (.cells #[c0, c1, c2, c3, c4] 26)).heap[x]? = w.heap[x]? := fun x hx => Below.heap_alloc _ _ _ hx
  refine (markStringS_any c3 t.names N1 k _ (HN.out.carry fun x hx => hal x (HLT.out x (by simp [hx]))) hk0 (by omega)).mono ?_
  rintro e w1 ⟨rfl, hs1, hx1⟩
  have hwn : w.heap.size ∉ N1 := fun hm => by have := HLT.out _ (List.mem_append_left K1 hm); omega
  have r0 := (row5_alloc w c0 c1 c2 c3 c4 26).of_block (hx1.block w.heap.size (by simp) hwn)
  have k4 := r0.cell (i := 4) (by omega)
  simp only [row5] at k4
  have hnd := HND.out
  rw [List.nodup_append] at hnd
  obtain ⟨hnd1, hnd2, hnd3⟩ := hnd
  have HS1 := hide hs1; have HX1 := hide hx1; have HD3 := hide hnd3; have HD2 := hide hnd2
  clear hs1 hx1 r0 hal hnd1 hnd2 hnd3
  go_wp2_with fail
  refine (markTreeS_all (lsz t.kids + 1) t.kids (by omega) c4 K1 (k + t.names.length) w1 (HK.out.carry fun x hx => ?_) HD2.out (fun x hx => ?_) (by omega) (by omega)).mono ?_
  · rw [HX1.out.block x (by have := HLT.out x (by simp [hx]); simp; omega) (fun hm => HD3.out x hm x hx rfl)]
    exact Below.heap_alloc _ _ _ (HLT.out x (by simp [hx]))
  · have := HLT.out x (by simp [hx]); have := HX1.out.size; simp at this; omega
  rintro e w2 ⟨rfl, hk2, hx2⟩
  go_wp2_with fail
  go_ret
  refine ⟨rfl, ?_, ?_⟩
  · refine Own.make HE.out.1 HE.out.2.1 HE.out.2.2 HI.out.1 HI.out.2.1 HI.out.2.2 (HS1.out.carry fun x hx => hx2.block x ?_ (fun hm => HD3.out x hx x hm rfl)) hk2
    have := HLT.out x (by simp [hx]); have := HX1.out.size; simp at this; omega
  · exact ((Exc.of_below ((Below.refl _ _).alloc (Nat.le_refl _) _)).trans (HX1.out.mono fun x hx => by simp [hx])).trans (hx2.mono fun x hx => by simp [hx])
end Go.Proofs.YtgamonfmgngilaaGreatDoor
