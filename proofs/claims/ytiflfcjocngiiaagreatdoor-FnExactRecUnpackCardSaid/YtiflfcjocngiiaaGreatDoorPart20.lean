/- The walks of markText and markStringS: the text of a mark; strings that own their memory are marked in place, and nothing else turns. For marks up to 2^40. -/
import Derived.Test.YtiflfcjocngiiaaGreatDoorRows
import Derived.Test.YtiflfcjocngiiaaGreatDoorPart06
import Derived.Test.YtiflfcjocngiiaaGreatDoorPart19
import Derived.Test.YtiflfcjocngiiaaGreatDoorPart00
import Derived.Test.YtiflfcjocngiiaaGreatDoorPart03
namespace Go.Proofs.YtiflfcjocngiiaaGreatDoor
open Go Go.RowKit

theorem mtl_step {j : Nat} (h : j ≠ 0) (o : ByteArray) : mtl j o = mtl (j / 10) (⟨#[dg ((j : Int) % 10)]⟩ ++ o) := by
  conv => lhs; rw [mtl]
  rw [dif_neg h]
  have : dg ((j : Int) % 10) = UInt8.ofNat (48 + j % 10) := by unfold dg; rw [show ((j : Int) % 10).toNat = j % 10 from by omega]
  rw [this]
theorem mtl_zero (o : ByteArray) : mtl 0 o = o := by rw [mtl]; simp

theorem quo10' {n : Int} (h0 : 0 ≤ n) (h1 : n ≤ 1099511627776) : IntKind.i64.wrap (n.tdiv 10) = n / 10 := by
  rw [IntKind.wrap_i64, Int.tdiv_eq_ediv_of_nonneg h0]; omega

set_option maxHeartbeats 400000 in
theorem markText_any (k : Nat) (w : World) (hk0 : 0 < k) (hk : k ≤ 1099511627776) :
    Calls Tryz.prog 35 #[.int .i64 k] w fun e w' => e = .returned (.string (mtx k)) ∧ Below w.heap.size w w' := by
  go_enter Tryz.func35, Tryz.ntmps35
  go_wp2_with fail
  go_loopw [0, 3] (fun kk os wr => ∃ (j : Nat) (o : ByteArray), kk = .int .i64 j ∧ os = .string o ∧ Hid (mtl j o = mtl k ByteArray.empty) ∧ o.size + j ≤ k ∧ Below w.heap.size w wr) (fun kk _ _ => (intOf kk).toNat)
  case atStart => exact ⟨k, ByteArray.empty, rfl, rfl, hide rfl, by simp, Below.refl _ _⟩
  case round =>
    obtain ⟨j, o, rfl, rfl, HM, hsz, hb⟩ := hrel
    by_cases hj : j = 0
    · subst hj
      have hm := HM.out
      rw [mtl_zero] at hm
      have HM2 := hide hm
      have e1 : (ByteArray.mk #[109]).size = 1 := rfl
      have e2 : o.size ≤ 1099511627776 := by omega
      clear hm HM hsz
      go_wp2_with fail
      go_ret
      have hm := HM2.out
      subst hm
      exact ⟨rfl, hb⟩
    · have hconv := fun W b cap => conv_one W b cap ((j : Int) % 10) (by omega) (by omega)
      have hq1 := quo10' (n := j) (by omega) (by omega)
      have hq2 := rem10 (n := j) (by omega)
      have hq3 := rem10b j
      have hm := HM.out
      rw [mtl_step hj] at hm
      have HM2 := hide hm
      have e1 : (ByteArray.mk #[dg ((j : Int) % 10)]).size = 1 := rfl
      clear hm HM
      go_wp2_with fail
      go_roundw
      case rel =>
        refine ⟨j / 10, _, by simp, rfl, HM2, ?_, hb.alloc hb.size _⟩
        rw [ByteArray.size_append, e1]; omega
      case measure => simp [intOf]; omega

/-- What the loop of markStringS has marked after k rounds. -/
def MrkS (w : World) (b : Nat) (ss : List ByteArray) (k0 k : Nat) : Prop :=
  FreeB w b ∧ ∀ i, (h : i < ss.length) → w.cell? ⟨b, i, none⟩ = some (.string (if i < k then mtx (k0 + i) else ss[i])) ∧ ss[i].size ≤ 9223372036854775807

theorem MrkS.step {w : World} {b : Nat} {ss : List ByteArray} {k0 k : Nat} (h : MrkS w b ss k0 k) (hk : k < ss.length) : MrkS (w.setCell ⟨b, k, none⟩ (.string (mtx (k0 + k)))) b ss k0 (k + 1) := by
  refine ⟨h.1.set _ _, fun i hi => ⟨?_, (h.2 i hi).2⟩⟩
  by_cases e : i = k
  · subst e
    have := (h.2 i hi).1
    rw [if_pos (by omega)]
    simp [go_sem, this]
  · have := (h.2 i hi).1
    rw [show (if i < k + 1 then mtx (k0 + i) else ss[i]) = (if i < k then mtx (k0 + i) else ss[i]) from by
      by_cases e2 : i < k
      · rw [if_pos e2, if_pos (by omega)]
      · rw [if_neg e2, if_neg (by omega)]]
    rw [← this]
    simp [go_sem]
theorem MrkS.of_block {w w' : World} {b : Nat} {ss : List ByteArray} {k0 k : Nat} (h : MrkS w b ss k0 k) (e : w'.heap[b]? = w.heap[b]?) : MrkS w' b ss k0 k :=
  ⟨h.1.of_block e, fun i hi => ⟨by rw [World.cell?_of_block (w := w) (a := ⟨b, i, none⟩) e]; exact (h.2 i hi).1, (h.2 i hi).2⟩⟩

set_option maxHeartbeats 400000 in
theorem markStringS_any (v : Value) (ss : List ByteArray) (F : List Nat) (k : Nat) (w : World) (hv : StrsOwn w v ss F) (hk0 : 0 < k) (hk : k + ss.length ≤ 1099511627776) :
    Calls Tryz.prog 36 #[v, .int .i64 k] w fun e w' => e = .returned (.int .i64 (k + ss.length : Nat)) ∧ StrsOwn w' v (mS k ss) F ∧ Exc F w w' := by
  obtain ⟨a, cap, rfl, hlen, hc⟩ := hv
  rcases hc with ⟨rfl, rfl⟩ | ⟨b, rfl, rfl, hfr, hc⟩
  · simp only [List.length_nil] at *
    go_enter Tryz.func36, Tryz.ntmps36
    go_wp2_with fail
    go_loopw [1, 5] (fun kk i wr => kk = .int .i64 k ∧ i = .int .i64 0 ∧ wr = w) (fun _ _ _ => 0)
    case atStart => exact ⟨rfl, rfl, rfl⟩
    case round =>
      obtain ⟨rfl, rfl, rfl⟩ := hrel
      go_wp2_with fail
      go_ret
      exact ⟨by simp, ⟨a, cap, by simp [mS], by simp [mS], Or.inl ⟨rfl, rfl⟩⟩, Exc.refl _ _⟩
  · have hM : MrkS w b ss k 0 := ⟨hfr, fun i hi => ⟨by rw [if_neg (by omega)]; exact (hc i hi).1, (hc i hi).2⟩⟩
    have HM := hide hM
    clear hM hfr hc
    go_enter Tryz.func36, Tryz.ntmps36
    go_wp2_with fail
    go_loopw [1, 5] (fun kk i wr => ∃ (j : Nat), j ≤ ss.length ∧ kk = .int .i64 (k + j : Nat) ∧ i = .int .i64 j ∧ Hid (MrkS wr b ss k j) ∧ Exc [b] w wr) (fun _ i _ => ss.length - (intOf i).toNat)
    case atStart => exact ⟨0, Nat.zero_le _, rfl, rfl, HM, Exc.refl _ _⟩
    case round =>
      obtain ⟨j, hj, rfl, rfl, HMj, hex⟩ := hrel
      by_cases hlt : j < ss.length
      · have hblt : b < wr.heap.size := World.block_lt_of_cell? wr _ (HMj.out.2 j hlt).1
        go_wp2_with fail
        refine (markText_any (k + j) wr (by omega) (by omega)).mono ?_
        rintro e w' ⟨rfl, hb'⟩
        have hMj := HMj.out.of_block (hb'.block b hblt)
        have HMj' := hide hMj
        have z0 := hMj.1 j
        have y0 := (hMj.2 j hlt).1
        rw [if_neg (by omega)] at y0
        clear hMj
        go_wp2_with fail
        go_roundw
        case rel =>
          refine ⟨j + 1, by omega, by go_num, by go_num, hide (HMj'.out.step hlt), ?_⟩
          exact (hex.trans (Exc.of_below hb')).trans (Exc.set _ _ _ _ (by simp))
        case measure => simp [intOf]; omega
      · go_wp2_with fail
        go_ret
        obtain rfl : j = ss.length := by omega
        refine ⟨rfl, ⟨some ⟨b, 0, none⟩, cap, by rw [mS_len], by rw [mS_len]; exact hlen, Or.inr ⟨b, rfl, rfl, HMj.out.1, fun i hi => ?_⟩⟩, hex⟩
        have hi' : i < ss.length := by rw [mS_len] at hi; exact hi
        have := (HMj.out.2 i hi').1
        rw [if_pos hi'] at this
        rw [mS_get]
        exact ⟨this, by have := mtx_size (k + i); omega⟩
end Go.Proofs.YtiflfcjocngiiaaGreatDoor

/- The walks of markTreeS and markTree: trees that own their memory are marked in place, and nothing else turns. For marks up to 2^40. -/

namespace Go.Proofs.YtiflfcjocngiiaaGreatDoor
open Go Go.RowKit

/-- What the loop of markTreeS has marked after i rounds. -/
def MrkK (w : World) (b : Nat) (ks : List Tr) (k0 i : Nat) (G : List Nat) : Prop :=
  FreeB w b ∧ ∃ G1 G2, G = G1 ++ G2 ∧ OwnK w b 0 (mK k0 (ks.take i)) G1 ∧ OwnK w b (i * 5) (ks.drop i) G2

theorem MrkK.start {w : World} {b : Nat} {ks : List Tr} {k0 : Nat} {G : List Nat} (hf : FreeB w b) (h : OwnK w b 0 ks G) : MrkK w b ks k0 0 G :=
  ⟨hf, [], G, rfl, by simp [mK, OwnK], by simpa using h⟩

theorem MrkK.open {w : World} {b : Nat} {ks : List Tr} {k0 i : Nat} {G : List Nat} (h : MrkK w b ks k0 i G) (hlt : i < ks.length) :
    ∃ G1 N1 K1 H2 c, G = G1 ++ ((N1 ++ K1) ++ H2) ∧ FreeB w b ∧ OwnK w b 0 (mK k0 (ks.take i)) G1 ∧ OwnK w b (i * 5 + 5) (ks.drop (i + 1)) H2 ∧ C5.at w b (i * 5) c ∧
      c.c0 = .int .i64 ks[i].sort ∧ c.c1 = .int .i64 ks[i].num ∧ c.c2 = .string ks[i].text ∧ StrsOwn w c.c3 ks[i].names N1 ∧ KidsOwn w c.c4 ks[i].kids K1 := by
  obtain ⟨hf, G1, G2, rfl, h1, h2⟩ := h
  rw [List.drop_eq_getElem_cons hlt, OwnK] at h2
  obtain ⟨F1, F2, c, rfl, hc, ho, hr⟩ := h2
  obtain ⟨e0, e1, e2, -, -, -, N1, K1, rfl, hn, hk⟩ := ho.open
  exact ⟨G1, N1, K1, F2, c, rfl, hf, h1, hr, hc, e0, e1, e2, hn, hk⟩

theorem MrkK.step {w w' : World} {b : Nat} {ks : List Tr} {k0 i : Nat} {G1 N1 K1 H2 : List Nat} {c3 c4 : Value} (hlt : i < ks.length) (hbig : k0 + cK ks ≤ 1099511627776)
    (hd : OwnK w b 0 (mK k0 (ks.take i)) G1) (hr : OwnK w b (i * 5 + 5) (ks.drop (i + 1)) H2) (hf : FreeB w' b)
    (hcell : ∀ j, j < i * 5 ∨ i * 5 + 5 ≤ j → w'.cell? ⟨b, j, none⟩ = w.cell? ⟨b, j, none⟩)
    (hblk : ∀ x, x ∈ G1 ∨ x ∈ H2 → w'.heap[x]? = w.heap[x]?)
    (hc : C5.at w' b (i * 5) ⟨.int .i64 (k0 + cK (ks.take i) : Nat), .int .i64 (k0 + cK (ks.take i) + 1 : Nat), .string (mtx (k0 + cK (ks.take i) + 2)), c3, c4⟩)
    (hn : StrsOwn w' c3 (mS (k0 + cK (ks.take i) + 3) ks[i].names) N1) (hk : KidsOwn w' c4 (mK (k0 + cK (ks.take i) + 3 + ks[i].names.length) ks[i].kids) K1) :
    MrkK w' b ks k0 (i + 1) (G1 ++ ((N1 ++ K1) ++ H2)) := by
  have hle := cK_take_le ks (i + 1)
  rw [cK_take_succ ks i hlt, cT_eq] at hle
  refine ⟨hf, G1 ++ (N1 ++ K1), H2, by simp, ?_, ?_⟩
  · rw [List.take_succ_eq_append_getElem hlt, mK_snoc]
    refine OwnK.snoc (OwnK.carry b 0 _ G1 (fun x hx => hblk x (Or.inl hx)) (fun j _ hj => hcell j (Or.inl ?_)) hd) ?_ (c := ⟨.int .i64 (k0 + cK (ks.take i) : Nat), .int .i64 (k0 + cK (ks.take i) + 1 : Nat), .string (mtx (k0 + cK (ks.take i) + 2)), c3, c4⟩) ?_
    · rw [mK_len, List.length_take] at hj; omega
    · rw [mK_len, List.length_take, Nat.min_eq_left (by omega), show 0 + 5 * i = i * 5 from by omega]; exact hc
    · rw [mT_eq]
      exact Own.make rfl rfl rfl ⟨by simp [Tr.sort]; omega, by simp [Tr.sort]; omega⟩ ⟨by simp [Tr.num]; omega, by simp [Tr.num]; omega⟩ (by have := mtx_size (k0 + cK (ks.take i) + 2); simp [Tr.text]; omega) hn hk
  · rw [show (i + 1) * 5 = i * 5 + 5 from by omega]
    exact OwnK.carry b _ _ H2 (fun x hx => hblk x (Or.inr hx)) (fun j hj _ => hcell j (Or.inr hj)) hr

def MkSaid (n : Nat) : Prop := ∀ (ks : List Tr), lsz ks < n → ∀ (v : Value) (F : List Nat) (k : Nat) (w : World), KidsOwn w v ks F → F.Nodup → (∀ x, x ∈ F → x < w.heap.size) → 0 < k → k + cK ks ≤ 1099511627776 →
    Calls Tryz.prog 37 #[v, .int .i64 k] w fun e w' => e = .returned (.int .i64 (k + cK ks : Nat)) ∧ KidsOwn w' v (mK k ks) F ∧ Exc F w w'

/-- One place of a row has turned, and blocks of F; the rest of the row is as it was. -/
structure Part5 (F : List Nat) (w w' : World) (b o : Nat) (c : C5) : Prop where
  at' : C5.at w' b o c
  free : FreeB w' b
  cells : ∀ j, j < o ∨ o + 5 ≤ j → w'.cell? ⟨b, j, none⟩ = w.cell? ⟨b, j, none⟩
  exc : Exc F w w'
  mem : b ∈ F

theorem Part5.start {w : World} {b o : Nat} {c : C5} (h : C5.at w b o c) (hf : FreeB w b) : Part5 [b] w w b o c := ⟨h, hf, fun _ _ => rfl, Exc.refl _ _, by simp⟩
theorem Part5.mono {F G : List Nat} {w w' : World} {b o : Nat} {c : C5} (h : Part5 F w w' b o c) (hs : ∀ x, x ∈ F → x ∈ G) : Part5 G w w' b o c := ⟨h.at', h.free, h.cells, h.exc.mono hs, hs b h.mem⟩
theorem Part5.set0 {F : List Nat} {w w' : World} {b o : Nat} {c0 c1 c2 c3 c4 : Value} (h : Part5 F w w' b o ⟨c0, c1, c2, c3, c4⟩) (v : Value) : Part5 F w (w'.setCell ⟨b, o, none⟩ v) b o ⟨v, c1, c2, c3, c4⟩ := by
  obtain ⟨h0, h1, h2, h3, h4⟩ := h.at'
  refine ⟨⟨by simp [go_sem, h0], by simpa [go_sem] using h1, by simpa [go_sem] using h2, by simpa [go_sem] using h3, by simpa [go_sem] using h4⟩, h.free.set _ _, fun j hj => ?_, h.exc.trans (Exc.set _ _ _ _ h.mem), h.mem⟩
  rw [← h.cells j hj]
  have e : j ≠ o := by omega
  simp [go_sem]
theorem Part5.set1 {F : List Nat} {w w' : World} {b o : Nat} {c0 c1 c2 c3 c4 : Value} (h : Part5 F w w' b o ⟨c0, c1, c2, c3, c4⟩) (v : Value) : Part5 F w (w'.setCell ⟨b, o + 1, none⟩ v) b o ⟨c0, v, c2, c3, c4⟩ := by
  obtain ⟨h0, h1, h2, h3, h4⟩ := h.at'
  refine ⟨⟨by simpa [go_sem] using h0, by simp [go_sem, h1], by simpa [go_sem] using h2, by simpa [go_sem] using h3, by simpa [go_sem] using h4⟩, h.free.set _ _, fun j hj => ?_, h.exc.trans (Exc.set _ _ _ _ h.mem), h.mem⟩
  rw [← h.cells j hj]
  have e : j ≠ o + 1 := by omega
  simp [go_sem]
theorem Part5.set2 {F : List Nat} {w w' : World} {b o : Nat} {c0 c1 c2 c3 c4 : Value} (h : Part5 F w w' b o ⟨c0, c1, c2, c3, c4⟩) (v : Value) : Part5 F w (w'.setCell ⟨b, o + 2, none⟩ v) b o ⟨c0, c1, v, c3, c4⟩ := by
  obtain ⟨h0, h1, h2, h3, h4⟩ := h.at'
  refine ⟨⟨by simpa [go_sem] using h0, by simpa [go_sem] using h1, by simp [go_sem, h2], by simpa [go_sem] using h3, by simpa [go_sem] using h4⟩, h.free.set _ _, fun j hj => ?_, h.exc.trans (Exc.set _ _ _ _ h.mem), h.mem⟩
  rw [← h.cells j hj]
  have e : j ≠ o + 2 := by omega
  simp [go_sem]
theorem Part5.lt {F : List Nat} {w w' : World} {b o : Nat} {c : C5} (h : Part5 F w w' b o c) : b < w'.heap.size := World.block_lt_of_cell? w' _ h.at'.1
theorem Part5.on {F H : List Nat} {w w' w2 : World} {b o : Nat} {c : C5} (h : Part5 F w w' b o c) (hx : Exc H w' w2) (hb : b ∉ H) (hs : ∀ x, x ∈ H → x ∈ F) : Part5 F w w2 b o c := by
  have hblk := hx.block b h.lt hb
  exact ⟨h.at'.carry hblk, h.free.of_block hblk, fun j hj => by rw [World.cell?_of_block (w := w') (a := ⟨b, j, none⟩) hblk]; exact h.cells j hj, h.exc.trans (hx.mono hs), h.mem⟩

set_option maxHeartbeats 800000 in
theorem markTreeS_step (n : Nat) (IH : MkSaid n) : MkSaid (n + 1) := by
  intro ks hn v F k w hv hnd hlt0 hk0 hk
  obtain ⟨a, cap, rfl, hlen, hc⟩ := hv
  rcases hc with ⟨rfl, rfl⟩ | ⟨b, G, rfl, rfl, hfr, hc⟩
  · simp only [List.length_nil, cK, Nat.add_zero] at *
    clear IH
    go_enter Tryz.func37, Tryz.ntmps37
    go_wp2_with fail
    go_loopw [1, 5] (fun kk i wr => kk = .int .i64 k ∧ i = .int .i64 0 ∧ wr = w) (fun _ _ _ => 0)
    case atStart => exact ⟨rfl, rfl, rfl⟩
    case round =>
      obtain ⟨rfl, rfl, rfl⟩ := hrel
      go_wp2_with fail
      go_ret
      exact ⟨rfl, ⟨a, cap, by simp [mK], by simp [mK], Or.inl ⟨by rw [mK], rfl⟩⟩, Exc.refl _ _⟩
  · have HM := hide (MrkK.start (k0 := k) hfr hc)
    have HI := hide IH
    have HND := hide hnd
    have HLT := hide hlt0
    clear hfr hc IH hnd hlt0
    go_enter Tryz.func37, Tryz.ntmps37
    go_wp2_with fail
    go_loopw [1, 5] (fun kk i wr => ∃ (j : Nat), j ≤ ks.length ∧ kk = .int .i64 (k + cK (ks.take j) : Nat) ∧ i = .int .i64 j ∧ Hid (MrkK wr b ks k j G) ∧ Exc (b :: G) w wr) (fun _ i _ => ks.length - (intOf i).toNat)
    case atStart => exact ⟨0, Nat.zero_le _, by simp [cK], rfl, HM, Exc.refl _ _⟩
    case round =>
      obtain ⟨j, hj, rfl, rfl, HMj, hex⟩ := hrel
      by_cases hlt : j < ks.length
      · have hle := cK_take_le ks (j + 1)
        have hsuc := cK_take_succ ks j hlt
        rw [cT_eq] at hsuc
        obtain ⟨G1, N1, K1, H2, c, hG, hf, hd, hr, hat, e0, e1, e2, hnm, hkd⟩ := HMj.out.open hlt
        obtain ⟨c0, c1, c2, c3, c4⟩ := c
        have hblt : b < wr.heap.size := Nat.lt_of_lt_of_le (unhide HLT b (by simp)) hex.size
        have hGlt : ∀ x, x ∈ G → x < wr.heap.size := fun x hx => Nat.lt_of_lt_of_le (unhide HLT x (by simp [hx])) hex.size
        have hnd := unhide HND
        rw [hG] at hnd hGlt
        rw [List.nodup_cons] at hnd
        obtain ⟨hbn, hnd⟩ := hnd
        have hle2 : cK (ks.take j) + (3 + ks[j].names.length + cK ks[j].kids) ≤ cK ks := by omega
        have hsm : lsz ks[j].kids < n := by have := lsz_kid (List.getElem_mem hlt); omega
        have HS := hide hsuc
        generalize hq : k + cK (ks.take j) = q at *
        have HQ := hide hq
        have hq1 : 0 < q := by omega
        have hq2 : q + 3 + ks[j].names.length + cK ks[j].kids ≤ 1099511627776 := by omega
        generalize hnames : ks[j].names = nms at *
        generalize hkids : ks[j].kids = kds at *
        have HNM := hide hnm; have HKD := hide hkd; have HD := hide hd; have HR := hide hr; have HGL := hide hGlt; have HBN := hide hbn; have HN2 := hide hnd; have HG := hide hG; have HF := hide hf; have HAT := hide hat
        have HNE := hide hnames; have HKE := hide hkids
        obtain ⟨y0, y1, y2, y3, y4⟩ := hat
        simp only at e0 e1 e2 y0 y1 y2 y3 y4
        have z0 := hf (j * 5); have z1 := hf (j * 5 + 1); have z2 := hf (j * 5 + 2)
        clear hnm hkd hd hr hGlt hbn hnd hG hf hsuc hle hle2 hnames hkids hq e0 e1 e2 HM HMj
        go_wp2_with fail
        refine (markText_any (q + 2) _ (by omega) (by omega)).mono ?_
        rintro e w' ⟨rfl, hb'⟩
        have p2 := (((Part5.start HAT.out HF.out).set0 (.int .i64 q)).set1 (.int .i64 ((q : Int) + 1))).on (H := []) (Exc.of_below hb') (by simp) (by simp)
        have HP2 := hide p2
        obtain ⟨-, -, x2, x3, x4⟩ := p2.at'
        have zz2 := p2.free (j * 5 + 2)
        simp only at x2 x3 x4
        clear p2 hb' y0 y1 y2 y3 y4 z0 z1 z2 HAT
        go_wp2_with fail
        have p3 := HP2.out.set2 (.string (mtx (q + 2)))
        have hbn := HBN.out
        simp only [List.mem_append, not_or] at hbn
        have hd3 : ∀ x, x ≠ b → x < wr.heap.size → (w'.setCell ⟨b, j * 5 + 2, none⟩ (.string (mtx (q + 2)))).heap[x]? = wr.heap[x]? := fun x hx hxl => p3.exc.block x hxl (by simpa using hx)
        have hne : ∀ x, x ∈ G1 ++ ((N1 ++ K1) ++ H2) → x ≠ b := fun x hx e => HBN.out (e ▸ hx)
        refine (markStringS_any c3 nms N1 (q + 3) _ (HNM.out.carry fun x hx => hd3 x (hne x (by simp [hx])) (HGL.out x (by simp [hx]))) (by omega) (by omega)).mono ?_
        rintro e w3 ⟨rfl, hs3, hx3⟩
        have p4 := (p3.mono (G := b :: N1) (by simp)).on hx3 (by simp [hbn.2.1.1]) (fun x hx => by simp [hx])
        obtain ⟨-, -, -, -, x4'⟩ := p4.at'
        simp only at x4'
        have HP4 := hide p4; have HS3 := hide hs3
        clear p3 p4 hs3 x2 x3 x4 zz2 hd3 hne hx3 HP2 hbn
        go_wp2_with fail
        have hnd := HN2.out
        rw [List.nodup_append] at hnd
        obtain ⟨hnd1, hnd2, hnd3⟩ := hnd
        rw [List.nodup_append] at hnd2
        obtain ⟨hnd4, hnd5, hnd6⟩ := hnd2
        rw [List.nodup_append] at hnd4
        obtain ⟨hnd7, hnd8, hnd9⟩ := hnd4
        refine (HI.out kds hsm c4 K1 (q + 3 + nms.length) w3 (HKD.out.carry fun x hx => HP4.out.exc.block x (HGL.out x (by simp [hx])) ?_) hnd8 (fun x hx => Nat.lt_of_lt_of_le (HGL.out x (by simp [hx])) HP4.out.exc.size) (by omega) (by omega)).mono ?_
        · simp only [List.mem_cons, not_or]
          exact ⟨fun e => HBN.out (by rw [← e]; simp [hx]), fun hm => hnd9 x hm x hx rfl⟩
        rintro e w4 ⟨rfl, hk4, hx4⟩
        go_wp2_with fail
        go_roundw
        case rel =>
          have hbK : b ∉ K1 := fun hm => HBN.out (by simp [hm])
          have p5 := (HP4.out.mono (G := b :: (N1 ++ K1)) (fun x hx => by simp only [List.mem_cons, List.mem_append] at *; rcases hx with h | h; exact Or.inl h; exact Or.inr (Or.inl h))).on hx4 hbK (fun x hx => by simp [hx])
          have hs4 := HS3.out.carry (w' := w4) fun x hx => hx4.block x (Nat.lt_of_lt_of_le (HGL.out x (by simp [hx])) HP4.out.exc.size) (fun hm => hnd9 x hx x hm rfl)
          have hq := HQ.out
          subst hq
          have hnmE := HNE.out; have hkdE := HKE.out
          subst hnmE hkdE
          have hst := MrkK.step (w := wr) (w' := w4) (c3 := c3) (c4 := c4) hlt hk HD.out HR.out p5.free p5.cells (fun x hx => p5.exc.block x (HGL.out x (by rcases hx with h | h <;> simp [h])) (by
            simp only [List.mem_cons, List.mem_append, not_or]
            rcases hx with h | h
            · exact ⟨fun e => HBN.out (by rw [← e]; simp [h]), fun hm => hnd3 x h x (by simp [hm]) rfl, fun hm => hnd3 x h x (by simp [hm]) rfl⟩
            · exact ⟨fun e => HBN.out (by rw [← e]; simp [h]), fun hm => hnd6 x (by simp [hm]) x h rfl, fun hm => hnd6 x (by simp [hm]) x h rfl⟩)) (by simpa using p5.at') hs4 hk4
          refine ⟨j + 1, by omega, ?_, by go_num, hide (by rw [HG.out]; exact hst), hex.trans (p5.exc.mono fun x hx => ?_)⟩
          · rw [HS.out]; congr 2; omega
          · rw [HG.out]
            simp only [List.mem_cons, List.mem_append] at *
            rcases hx with h | h | h
            · exact Or.inl h
            · exact Or.inr (Or.inr (Or.inl (Or.inl h)))
            · exact Or.inr (Or.inr (Or.inl (Or.inr h)))
        case measure => simp [intOf]; omega
      · go_wp2_with fail
        go_ret
        obtain rfl : j = ks.length := by omega
        obtain ⟨hf, G1, G2, hG, h1, h2⟩ := HMj.out
        rw [List.take_length] at h1
        rw [List.drop_length, OwnK] at h2
        subst h2
        rw [List.append_nil] at hG
        subst hG
        rw [List.take_length]
        exact ⟨rfl, ⟨_, cap, by rw [mK_len], by rw [mK_len]; exact hlen, Or.inr ⟨b, G, rfl, rfl, hf, h1⟩⟩, hex⟩

theorem markTreeS_all : ∀ n, MkSaid n
  | 0 => fun t h => by omega
  | n + 1 => markTreeS_step n (markTreeS_all n)

end Go.Proofs.YtiflfcjocngiiaaGreatDoor

/- Events that own their memory: a row of events in a block of its own, each with the blocks of its tree; what marking them makes of them. Definitions and small laws, no program walked. No conditions. -/

namespace Go.Proofs.YtiflfcjocngiiaaGreatDoor
open Go Go.RowKit

/-- Events one behind the other in a block, from a place on; all that they lead to lies in the blocks F. -/
def OwnE (w : World) (b : Nat) (o : Nat) : List Ev → List Nat → Prop
  | [], F => F = []
  | e :: r, F => ∃ F1 F2 c, F = F1 ++ F2 ∧ E7at w b o e.ty e.ver c ∧ e.ty.size ≤ 9223372036854775807 ∧ I64 e.ver ∧ Own w e.t c F1 ∧ OwnE w b (o + 7) r F2
/-- A slice of events in a block of its own. -/
def EvsOwn (w : World) (v : Value) (es : List Ev) (F : List Nat) : Prop :=
  ∃ a cap, v = .slice a es.length cap ∧ es.length ≤ 9223372036854775807 ∧
      ((es = [] ∧ F = []) ∨ ∃ b G, a = some ⟨b, 0, none⟩ ∧ F = b :: G ∧ FreeB w b ∧ OwnE w b 0 es G)
theorem E7at.same {w w' : World} {b o : Nat} {ty : ByteArray} {ver : Int} {c : C5} (h : E7at w b o ty ver c) (hc : ∀ j, o ≤ j → j < o + 7 → w'.cell? ⟨b, j, none⟩ = w.cell? ⟨b, j, none⟩) : E7at w' b o ty ver c := by
  obtain ⟨g0, g1, g2, g3, g4, g5, g6⟩ := h
  exact ⟨by rw [hc _ (by omega) (by omega)]; exact g0, by rw [hc _ (by omega) (by omega)]; exact g1, by rw [hc _ (by omega) (by omega)]; exact g2, by rw [hc _ (by omega) (by omega)]; exact g3, by rw [hc _ (by omega) (by omega)]; exact g4, by rw [hc _ (by omega) (by omega)]; exact g5, by rw [hc _ (by omega) (by omega)]; exact g6⟩
theorem OwnE.carry {w w' : World} (b : Nat) : ∀ (es : List Ev) (o : Nat) (F : List Nat), (∀ b, b ∈ F → w'.heap[b]? = w.heap[b]?) → (∀ j, o ≤ j → j < o + 7 * es.length → w'.cell? ⟨b, j, none⟩ = w.cell? ⟨b, j, none⟩) → OwnE w b o es F → OwnE w' b o es F
  | [], o, F, _, _, h => h
  | e :: r, o, F, hF, hc, h => by
    obtain ⟨F1, F2, c, rfl, h1, h2, h3, h4, h5⟩ := h
    simp only [List.length_cons] at hc
    exact ⟨F1, F2, c, rfl, h1.same (fun j h1 h2 => hc j h1 (by omega)), h2, h3, Own.carry e.t c F1 (fun b hb => hF b (by simp [hb])) h4, OwnE.carry b r (o + 7) F2 (fun b hb => hF b (by simp [hb])) (fun j h1 h2 => hc j (by omega) (by omega)) h5⟩
theorem EvsOwn.carry {w w' : World} {v : Value} {es : List Ev} {F : List Nat} (h : EvsOwn w v es F) (hF : ∀ b, b ∈ F → w'.heap[b]? = w.heap[b]?) : EvsOwn w' v es F := by
  obtain ⟨a, cap, h1, h2, h3⟩ := h
  refine ⟨a, cap, h1, h2, ?_⟩
  rcases h3 with h | ⟨b, G, e, rfl, hfr, hk⟩
  · exact Or.inl h
  · have hb := hF b (by simp)
    exact Or.inr ⟨b, G, e, rfl, hfr.of_block hb, OwnE.carry b es 0 G (fun b' hb' => hF b' (by simp [hb'])) (fun j _ _ => World.cell?_of_block (w := w) hb) hk⟩
theorem OwnE.snoc {w : World} {b : Nat} {e : Ev} {c : C5} {G : List Nat} (ht : Own w e.t c G) (h1 : e.ty.size ≤ 9223372036854775807) (h2 : I64 e.ver) : ∀ (es : List Ev) (o : Nat) (F : List Nat), OwnE w b o es F → E7at w b (o + 7 * es.length) e.ty e.ver c → OwnE w b o (es ++ [e]) (F ++ G)
  | [], o, F, h, hc => by
    have h0 : F = [] := h
    subst h0
    exact ⟨G, [], c, by simp, by simpa using hc, h1, h2, ht, rfl⟩
  | x :: r, o, F, h, hc => by
    obtain ⟨F1, F2, d, rfl, g1, g2, g3, g4, g5⟩ := h
    refine ⟨F1, F2 ++ G, d, by simp, g1, g2, g3, g4, OwnE.snoc ht h1 h2 r (o + 7) F2 g5 ?_⟩
    rw [show o + 7 + 7 * r.length = o + 7 * (x :: r).length from by simp only [List.length_cons]; omega]
    exact hc
theorem OwnE.at {w : World} {b : Nat} {P : Nat → Prop} : ∀ (es : List Ev) (o : Nat) (F : List Nat), (∀ x, x ∈ F → P x) → OwnE w b o es F → ∀ i, (h : i < es.length) → EvOne P w b (o + i * 7) es[i]
  | e :: r, o, F, hF, h, 0, _ => by
    obtain ⟨F1, F2, c, rfl, h1, h2, h3, h4, h5⟩ := h
    exact ⟨c, by simpa using h1, Own.rep e.t c F1 (fun b hb => hF b (by simp [hb])) h4, h2, h3⟩
  | e :: r, o, F, hF, h, i + 1, hi => by
    obtain ⟨F1, F2, c, rfl, h1, h2, h3, h4, h5⟩ := h
    have := OwnE.at r (o + 7) F2 (fun b hb => hF b (by simp [hb])) h5 i (by simpa using hi)
    rw [show o + 7 + i * 7 = o + (i + 1) * 7 by omega] at this
    exact this
theorem EvsOwn.at {w : World} {v : Value} {es : List Ev} {F : List Nat} (h : EvsOwn w v es F) : EvsAt (· ∈ F) w v es := by
  obtain ⟨a, cap, h1, h2, h3⟩ := h
  refine ⟨a, cap, h1, h2, fun i hi => ?_⟩
  rcases h3 with ⟨rfl, _⟩ | ⟨b, G, e, rfl, hfr, hk⟩
  · simp at hi
  · have := OwnE.at (P := (· ∈ b :: G)) es 0 G (fun x hx => by simp [hx]) hk i hi
    rw [Nat.zero_add] at this
    exact ⟨b, 0, e, by simp, by rw [Nat.zero_add]; exact this⟩
/-- How many marks a list of events takes. -/
def cE : List Ev → Nat
  | [] => 0
  | e :: r => 5 + e.t.names.length + cK e.t.kids + cE r
/-- Marked events. -/
def mE (k : Nat) : List Ev → List Ev
  | [] => []
  | e :: r => ⟨mtx k, ((k + 1 : Nat) : Int), .mk ((k + 2 : Nat) : Int) ((k + 3 : Nat) : Int) (mtx (k + 4)) (mS (k + 5) e.t.names) (mK (k + 5 + e.t.names.length) e.t.kids)⟩ :: mE (k + (5 + e.t.names.length + cK e.t.kids)) r
theorem mE_len (k : Nat) : ∀ es : List Ev, (mE k es).length = es.length := fun es => by
  induction es generalizing k with
  | nil => rfl
  | cons e r ih => simp [mE, ih]
theorem cE_take_succ (es : List Ev) (i : Nat) (h : i < es.length) : cE (es.take (i + 1)) = cE (es.take i) + (5 + es[i].t.names.length + cK es[i].t.kids) := by
  induction es generalizing i with
  | nil => simp at h
  | cons e r ih =>
    cases i with
    | zero => simp [cE]
    | succ i => simp only [List.take_succ_cons, cE, List.getElem_cons_succ, ih i (by simpa using h)]; omega
theorem cE_take_le (es : List Ev) (i : Nat) : cE (es.take i) ≤ cE es := by
  induction es generalizing i with
  | nil => simp [cE]
  | cons e r ih =>
    cases i with
    | zero => simp [cE]
    | succ i => have := ih i; simp only [List.take_succ_cons, cE]; omega
theorem mE_snoc (k : Nat) (e : Ev) : ∀ (es : List Ev), mE k (es ++ [e]) = mE k es ++ [⟨mtx (k + cE es), ((k + cE es + 1 : Nat) : Int), .mk ((k + cE es + 2 : Nat) : Int) ((k + cE es + 3 : Nat) : Int) (mtx (k + cE es + 4)) (mS (k + cE es + 5) e.t.names) (mK (k + cE es + 5 + e.t.names.length) e.t.kids)⟩] := fun es => by
  induction es generalizing k with
  | nil => simp [mE, cE]
  | cons x r ih =>
    simp only [List.cons_append, mE, ih, cE, List.cons.injEq, true_and]
    have e1 : k + (5 + x.t.names.length + cK x.t.kids) + cE r = k + (5 + x.t.names.length + cK x.t.kids + cE r) := by omega
    rw [e1]
end Go.Proofs.YtiflfcjocngiiaaGreatDoor

/- What a disk is as plain data, its weight, and how it lies in memory: definitions and small laws, no program. No conditions. -/

namespace Go.Proofs.YtiflfcjocngiiaaGreatDoor
open Go Go.RowKit

end Go.Proofs.YtiflfcjocngiiaaGreatDoor

/- Disks that own their memory: definitions and small laws, no program. No conditions. -/

namespace Go.Proofs.YtiflfcjocngiiaaGreatDoor
open Go Go.RowKit

theorem flat_get {n : Nat} : ∀ (rs : List (List Value)), (∀ r, r ∈ rs → r.length = n) → ∀ (i : Nat) (hi : i < rs.length) (j : Nat), j < n → rs.flatten[i * n + j]? = some (rs[i].getD j undef)
  | r :: rest, hn, 0, _, j, hj => by
    have hr : r.length = n := hn r List.mem_cons_self
    rw [List.flatten_cons, Nat.zero_mul, Nat.zero_add, List.getElem?_append_left (by omega), List.getElem?_eq_getElem (by omega)]
    simp [hr, hj]
  | r :: rest, hn, i + 1, hi, j, hj => by
    have hr : r.length = n := hn r List.mem_cons_self
    rw [List.flatten_cons, List.getElem?_append_right (by rw [hr, Nat.add_mul]; omega), hr, show (i + 1) * n + j - n = i * n + j by rw [Nat.add_mul]; omega, flat_get rest (fun x hx => hn x (List.mem_cons_of_mem _ hx)) i (by simpa using hi) j hj]
    rfl
end Go.Proofs.YtiflfcjocngiiaaGreatDoor
