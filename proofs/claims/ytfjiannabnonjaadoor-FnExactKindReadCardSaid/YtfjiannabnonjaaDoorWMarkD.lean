/- The walks of markKindS and markKind over schemas that own their memory: they are marked in place, and nothing else turns. For marks up to 2^40. -/
import Derived.Test.YtfjiannabnonjaaDoorWMark
import Derived.Test.YtfjiannabnonjaaDoorKOwn
import Derived.Test.YtfjiannabnonjaaDoorShp
namespace Go.Proofs.YtfjiannabnonjaaDoor
open Go Go.RowKit

mutual
/-- What marking makes of a kid. -/
def mD (k : Nat) : Kd → Kd
  | .mk _ ns ks => .mk k (mS (k + 1) ns) (mDs (k + 1 + ns.length) ks)
def mDs (k : Nat) : List Kd → List Kd
  | [] => []
  | t :: r => mD k t :: mDs (k + kcT t) r
end
theorem mD_eq (k : Nat) (t : Kd) : mD k t = .mk k (mS (k + 1) t.names) (mDs (k + 1 + t.names.length) t.kids) := by obtain ⟨s, ns, ks⟩ := t; rw [mD]; rfl
theorem mDs_len (k : Nat) (l : List Kd) : (mDs k l).length = l.length := by
  induction l generalizing k with
  | nil => rw [mDs]
  | cons a r ih => rw [mDs]; simp [ih]
theorem mDs_snoc (k : Nat) (a : List Kd) (t : Kd) : mDs k (a ++ [t]) = mDs k a ++ [mD (k + kcK a) t] := by
  induction a generalizing k with
  | nil => simp [mDs, kcK]
  | cons x r ih => rw [List.cons_append, mDs, mDs, ih, kcK]; simp [Nat.add_assoc]
theorem mDs_get (k : Nat) (l : List Kd) (i : Nat) (h : i < (mDs k l).length) : (mDs k l)[i] = mD (k + kcK (l.take i)) (l[i]'(by rw [mDs_len] at h; exact h)) := by
  induction l generalizing k i with
  | nil => rw [mDs_len] at h; simp at h
  | cons a r ih =>
    cases i with
    | zero => simp [mDs, kcK]
    | succ i =>
      simp only [mDs, List.getElem_cons_succ, List.take_succ_cons]
      rw [ih, kcK]; congr 1; omega

theorem OwnDK.snoc {w : World} {b o : Nat} {xs : List Kd} {F G : List Nat} {t : Kd} {c : C3} (h : OwnDK w b o xs F) (hc : C3.at w b (o + 3 * xs.length) c) (ht : OwnD w t c G) : OwnDK w b o (xs ++ [t]) (F ++ G) := by
  induction xs generalizing o F with
  | nil =>
    rw [OwnDK] at h
    subst h
    simp only [List.nil_append]
    rw [OwnDK]
    exact ⟨G, [], c, by simp, by simpa using hc, ht, by rw [OwnDK]⟩
  | cons x r ih =>
    rw [OwnDK] at h
    obtain ⟨F1, F2, d, rfl, h1, h2, h3⟩ := h
    rw [List.cons_append, OwnDK]
    refine ⟨F1, F2 ++ G, d, by simp, h1, h2, ih h3 ?_⟩
    rw [show o + 3 + 3 * r.length = o + 3 * (x :: r).length from by simp only [List.length_cons]; omega]
    exact hc

/-- What the loop of markKindS has marked after i rounds. -/
def MrkD (w : World) (b : Nat) (ks : List Kd) (k0 i : Nat) (G : List Nat) : Prop :=
  FreeB w b ∧ ∃ G1 G2, G = G1 ++ G2 ∧ OwnDK w b 0 (mDs k0 (ks.take i)) G1 ∧ OwnDK w b (i * 3) (ks.drop i) G2

theorem MrkD.start {w : World} {b : Nat} {ks : List Kd} {k0 : Nat} {G : List Nat} (hf : FreeB w b) (h : OwnDK w b 0 ks G) : MrkD w b ks k0 0 G :=
  ⟨hf, [], G, rfl, by simp [mDs, OwnDK], by simpa using h⟩

theorem MrkD.open {w : World} {b : Nat} {ks : List Kd} {k0 i : Nat} {G : List Nat} (h : MrkD w b ks k0 i G) (hlt : i < ks.length) :
    ∃ G1 N1 K1 H2 c, G = G1 ++ ((N1 ++ K1) ++ H2) ∧ FreeB w b ∧ OwnDK w b 0 (mDs k0 (ks.take i)) G1 ∧ OwnDK w b (i * 3 + 3) (ks.drop (i + 1)) H2 ∧ C3.at w b (i * 3) c ∧
      c.c0 = .int .i64 ks[i].sort ∧ StrsOwn w c.c1 ks[i].names N1 ∧ KidsD w c.c2 ks[i].kids K1 := by
  obtain ⟨hf, G1, G2, rfl, h1, h2⟩ := h
  rw [List.drop_eq_getElem_cons hlt, OwnDK] at h2
  obtain ⟨F1, F2, c, rfl, hc, ho, hr⟩ := h2
  obtain ⟨e0, -, N1, K1, rfl, hn, hk⟩ := ho.open
  exact ⟨G1, N1, K1, F2, c, rfl, hf, h1, hr, hc, e0, hn, hk⟩

theorem MrkD.step {w w' : World} {b : Nat} {ks : List Kd} {k0 i : Nat} {G1 N1 K1 H2 : List Nat} {c1 c2 : Value} (hlt : i < ks.length) (hbig : k0 + kcK ks ≤ 1099511627776)
    (hd : OwnDK w b 0 (mDs k0 (ks.take i)) G1) (hr : OwnDK w b (i * 3 + 3) (ks.drop (i + 1)) H2) (hf : FreeB w' b)
    (hcell : ∀ j, j < i * 3 ∨ i * 3 + 3 ≤ j → w'.cell? ⟨b, j, none⟩ = w.cell? ⟨b, j, none⟩)
    (hblk : ∀ x, x ∈ G1 ∨ x ∈ H2 → w'.heap[x]? = w.heap[x]?)
    (hc : C3.at w' b (i * 3) ⟨.int .i64 (k0 + kcK (ks.take i) : Nat), c1, c2⟩)
    (hn : StrsOwn w' c1 (mS (k0 + kcK (ks.take i) + 1) ks[i].names) N1) (hk : KidsD w' c2 (mDs (k0 + kcK (ks.take i) + 1 + ks[i].names.length) ks[i].kids) K1) :
    MrkD w' b ks k0 (i + 1) (G1 ++ ((N1 ++ K1) ++ H2)) := by
  have hle := kcK_take_le ks (i + 1)
  rw [kcK_take ks i hlt, kcT_eq] at hle
  refine ⟨hf, G1 ++ (N1 ++ K1), H2, by simp, ?_, ?_⟩
  · rw [List.take_succ_eq_append_getElem hlt, mDs_snoc]
    refine OwnDK.snoc (OwnDK.carry b 0 _ G1 (fun x hx => hblk x (Or.inl hx)) (fun j _ hj => hcell j (Or.inl ?_)) hd) ?_ (c := ⟨.int .i64 (k0 + kcK (ks.take i) : Nat), c1, c2⟩) ?_
    · rw [mDs_len, List.length_take] at hj; omega
    · rw [mDs_len, List.length_take, Nat.min_eq_left (by omega), show 0 + 3 * i = i * 3 from by omega]; exact hc
    · rw [mD_eq]
      exact OwnD.make rfl ⟨by simp [Kd.sort]; omega, by simp [Kd.sort]; omega⟩ hn hk
  · rw [show (i + 1) * 3 = i * 3 + 3 from by omega]
    exact OwnDK.carry b _ _ H2 (fun x hx => hblk x (Or.inr hx)) (fun j hj _ => hcell j (Or.inr hj)) hr

def MkDSaid (n : Nat) : Prop := ∀ (ks : List Kd), klsz ks < n → ∀ (v : Value) (F : List Nat) (k : Nat) (w : World), KidsD w v ks F → F.Nodup → (∀ x, x ∈ F → x < w.heap.size) → 0 < k → k + kcK ks ≤ 1099511627776 →
    Calls Tryd.prog 46 #[v, .int .i64 k] w fun e w' => e = .returned (.int .i64 (k + kcK ks : Nat)) ∧ KidsD w' v (mDs k ks) F ∧ Exc F w w'

/-- One place of a row has turned, and blocks of F; the rest of the row is as it was. -/
structure Part3 (F : List Nat) (w w' : World) (b o : Nat) (c : C3) : Prop where
  at' : C3.at w' b o c
  free : FreeB w' b
  cells : ∀ j, j < o ∨ o + 3 ≤ j → w'.cell? ⟨b, j, none⟩ = w.cell? ⟨b, j, none⟩
  exc : Exc F w w'
  mem : b ∈ F
theorem Part3.start {w : World} {b o : Nat} {c : C3} (h : C3.at w b o c) (hf : FreeB w b) : Part3 [b] w w b o c := ⟨h, hf, fun _ _ => rfl, Exc.refl _ _, by simp⟩
theorem Part3.mono {F G : List Nat} {w w' : World} {b o : Nat} {c : C3} (h : Part3 F w w' b o c) (hs : ∀ x, x ∈ F → x ∈ G) : Part3 G w w' b o c := ⟨h.at', h.free, h.cells, h.exc.mono hs, hs b h.mem⟩
theorem Part3.set0 {F : List Nat} {w w' : World} {b o : Nat} {c0 c1 c2 : Value} (h : Part3 F w w' b o ⟨c0, c1, c2⟩) (v : Value) : Part3 F w (w'.setCell ⟨b, o, none⟩ v) b o ⟨v, c1, c2⟩ := by
  obtain ⟨h0, h1, h2⟩ := h.at'
  refine ⟨⟨by simp [go_sem, h0], by simpa [go_sem] using h1, by simpa [go_sem] using h2⟩, h.free.set _ _, fun j hj => ?_, h.exc.trans (Exc.set _ _ _ _ h.mem), h.mem⟩
  rw [← h.cells j hj]
  have e : j ≠ o := by omega
  simp [go_sem]
theorem Part3.lt {F : List Nat} {w w' : World} {b o : Nat} {c : C3} (h : Part3 F w w' b o c) : b < w'.heap.size := World.block_lt_of_cell? w' _ h.at'.1
theorem Part3.on {F H : List Nat} {w w' w2 : World} {b o : Nat} {c : C3} (h : Part3 F w w' b o c) (hx : Exc H w' w2) (hb : b ∉ H) (hs : ∀ x, x ∈ H → x ∈ F) : Part3 F w w2 b o c := by
  have hblk := hx.block b h.lt hb
  exact ⟨h.at'.carry hblk, h.free.of_block hblk, fun j hj => by rw [World.cell?_of_block (w := w') (a := ⟨b, j, none⟩) hblk]; exact h.cells j hj, h.exc.trans (hx.mono hs), h.mem⟩

set_option maxHeartbeats 800000 in
theorem markKindS_own (n : Nat) (IH : MkDSaid n) : MkDSaid (n + 1) := by
  intro ks hn v F k w hv hnd hlt0 hk0 hk
  obtain ⟨a, cap, rfl, hlen, hc⟩ := hv
  rcases hc with ⟨rfl, rfl⟩ | ⟨b, G, rfl, rfl, hfr, hc⟩
  · simp only [List.length_nil, kcK, Nat.add_zero] at *
    clear IH
    go_enter Tryd.func46, Tryd.ntmps46
    go_wp2_with fail
    go_loopw [1, 5] (fun kk i wr => kk = .int .i64 k ∧ i = .int .i64 0 ∧ wr = w) (fun _ _ _ => 0)
    case atStart => exact ⟨rfl, rfl, rfl⟩
    case round =>
      obtain ⟨rfl, rfl, rfl⟩ := hrel
      go_wp2_with fail
      go_ret
      exact ⟨rfl, ⟨a, cap, by simp [mDs], by simp [mDs], Or.inl ⟨by rw [mDs], rfl⟩⟩, Exc.refl _ _⟩
  · have HM := hide (MrkD.start (k0 := k) hfr hc)
    have HI := hide IH
    have HND := hide hnd
    have HLT := hide hlt0
    clear hfr hc IH hnd hlt0
    go_enter Tryd.func46, Tryd.ntmps46
    go_wp2_with fail
    go_loopw [1, 5] (fun kk i wr => ∃ (j : Nat), j ≤ ks.length ∧ kk = .int .i64 (k + kcK (ks.take j) : Nat) ∧ i = .int .i64 j ∧ Hid (MrkD wr b ks k j G) ∧ Exc (b :: G) w wr) (fun _ i _ => ks.length - (intOf i).toNat)
    case atStart => exact ⟨0, Nat.zero_le _, by simp [kcK], rfl, HM, Exc.refl _ _⟩
    case round =>
      obtain ⟨j, hj, rfl, rfl, HMj, hex⟩ := hrel
      by_cases hlt : j < ks.length
      · have hle := kcK_take_le ks (j + 1)
        have hsuc := kcK_take ks j hlt
        rw [kcT_eq] at hsuc
        obtain ⟨G1, N1, K1, H2, c, hG, hf, hd, hr, hat, e0, hnm, hkd⟩ := HMj.out.open hlt
        obtain ⟨c0, c1, c2⟩ := c
        have hblt : b < wr.heap.size := Nat.lt_of_lt_of_le (unhide HLT b (by simp)) hex.size
        have hGlt : ∀ x, x ∈ G → x < wr.heap.size := fun x hx => Nat.lt_of_lt_of_le (unhide HLT x (by simp [hx])) hex.size
        have hnd := unhide HND
        rw [hG] at hnd hGlt
        rw [List.nodup_cons] at hnd
        obtain ⟨hbn, hnd⟩ := hnd
        have hle2 : kcK (ks.take j) + (1 + ks[j].names.length + kcK ks[j].kids) ≤ kcK ks := by omega
        have hsm : klsz ks[j].kids < n := by have := klsz_kid (List.getElem_mem hlt); omega
        have HS := hide hsuc
        generalize hq : k + kcK (ks.take j) = q at *
        have HQ := hide hq
        have hq1 : 0 < q := by omega
        have hq2 : q + 1 + ks[j].names.length + kcK ks[j].kids ≤ 1099511627776 := by omega
        generalize hnames : ks[j].names = nms at *
        generalize hkids : ks[j].kids = kds at *
        have HNM := hide hnm; have HKD := hide hkd; have HD := hide hd; have HR := hide hr; have HGL := hide hGlt; have HBN := hide hbn; have HN2 := hide hnd; have HG := hide hG; have HF := hide hf; have HAT := hide hat
        have HNE := hide hnames; have HKE := hide hkids
        obtain ⟨y0, y1, y2⟩ := hat
        simp only at e0 y0 y1 y2
        have z0 := hf (j * 3)
        clear hnm hkd hd hr hGlt hbn hnd hG hf hsuc hle hle2 hnames hkids hq e0 HM HMj
        go_wp2_with fail
        have p3 := (Part3.start HAT.out HF.out).set0 (.int .i64 q)
        have hbn := HBN.out
        simp only [List.mem_append, not_or] at hbn
        have hd3 : ∀ x, x ≠ b → x < wr.heap.size → (wr.setCell ⟨b, j * 3, none⟩ (.int .i64 q)).heap[x]? = wr.heap[x]? := fun x hx hxl => p3.exc.block x hxl (by simpa using hx)
        have hne : ∀ x, x ∈ G1 ++ ((N1 ++ K1) ++ H2) → x ≠ b := fun x hx e => HBN.out (e ▸ hx)
        refine (markStringS_any c1 nms N1 (q + 1) _ (HNM.out.carry fun x hx => hd3 x (hne x (by simp [hx])) (HGL.out x (by simp [hx]))) (by omega) (by omega)).mono ?_
        rintro e w3 ⟨rfl, hs3, hx3⟩
        have p4 := (p3.mono (G := b :: N1) (by simp)).on hx3 (by simp [hbn.2.1.1]) (fun x hx => by simp [hx])
        obtain ⟨-, -, x4'⟩ := p4.at'
        simp only at x4'
        have HP4 := hide p4; have HS3 := hide hs3
        clear p3 p4 hs3 hd3 hne hx3 hbn y0 y1 y2 z0 HAT
        go_wp2_with fail
        have hnd := HN2.out
        rw [List.nodup_append] at hnd
        obtain ⟨hnd1, hnd2, hnd3⟩ := hnd
        rw [List.nodup_append] at hnd2
        obtain ⟨hnd4, hnd5, hnd6⟩ := hnd2
        rw [List.nodup_append] at hnd4
        obtain ⟨hnd7, hnd8, hnd9⟩ := hnd4
        refine (HI.out kds hsm c2 K1 (q + 1 + nms.length) w3 (HKD.out.carry fun x hx => HP4.out.exc.block x (HGL.out x (by simp [hx])) ?_) hnd8 (fun x hx => Nat.lt_of_lt_of_le (HGL.out x (by simp [hx])) HP4.out.exc.size) (by omega) (by omega)).mono ?_
        · simp only [List.mem_cons, not_or]
          exact ⟨fun e => HBN.out (by rw [← e]; simp [hx]), fun hm => hnd9 x hm x hx rfl⟩
        rintro e w4 ⟨rfl, hk4, hx4⟩
        go_wp2_with fail
        go_roundw
        case rel =>
          have hbK : b ∉ K1 := fun hm => HBN.out (by simp [hm])
          have p5 := (HP4.out.mono (G := b :: (N1 ++ K1)) (fun x hx => by simp only [List.mem_cons, List.mem_append] at *; rcases hx with h | h; exact Or.inl h; exact Or.inr (Or.inl h))).on hx4 hbK (fun x hx => by simp [hx])
          have hs4 := HS3.out.carry (w' := w4) fun x hx => hx4.block x (Nat.lt_of_lt_of_le (HGL.out x (by simp [hx])) HP4.out.exc.size) (fun hm => hnd9 x hx x hm rfl)
          have hq := HQ.out
          subst hq
          have hnmE := HNE.out; have hkdE := HKE.out
          subst hnmE hkdE
          have hst := MrkD.step (w := wr) (w' := w4) (c1 := c1) (c2 := c2) hlt hk HD.out HR.out p5.free p5.cells (fun x hx => p5.exc.block x (HGL.out x (by rcases hx with h | h <;> simp [h])) (by
            simp only [List.mem_cons, List.mem_append, not_or]
            rcases hx with h | h
            · exact ⟨fun e => HBN.out (by rw [← e]; simp [h]), fun hm => hnd3 x h x (by simp [hm]) rfl, fun hm => hnd3 x h x (by simp [hm]) rfl⟩
            · exact ⟨fun e => HBN.out (by rw [← e]; simp [h]), fun hm => hnd6 x (by simp [hm]) x h rfl, fun hm => hnd6 x (by simp [hm]) x h rfl⟩)) (by simpa using p5.at') hs4 hk4
          refine ⟨j + 1, by omega, ?_, by go_num, hide (by rw [HG.out]; exact hst), hex.trans (p5.exc.mono fun x hx => ?_)⟩
          · rw [HS.out]; congr 2; omega
          · rw [HG.out]
            simp only [List.mem_cons, List.mem_append] at *
            rcases hx with h | h | h
            · exact Or.inl h
            · exact Or.inr (Or.inr (Or.inl (Or.inl h)))
            · exact Or.inr (Or.inr (Or.inl (Or.inr h)))
        case measure => simp [intOf]; omega
      · go_wp2_with fail
        go_ret
        obtain rfl : j = ks.length := by omega
        obtain ⟨hf, G1, G2, hG, h1, h2⟩ := HMj.out
        rw [List.take_length] at h1
        rw [List.drop_length, OwnDK] at h2
        subst h2
        rw [List.append_nil] at hG
        subst hG
        rw [List.take_length]
        exact ⟨rfl, ⟨_, cap, by rw [mDs_len], by rw [mDs_len]; exact hlen, Or.inr ⟨b, G, rfl, rfl, hf, h1⟩⟩, hex⟩

theorem markKindS_ownAll : ∀ n, MkDSaid n
  | 0 => fun t h => by omega
  | n + 1 => markKindS_own n (markKindS_ownAll n)

set_option maxHeartbeats 400000 in
/-- Marking a schema: its own three cells are the caller's, and stay. -/
theorem markKind_own (t : Kd) (c : C3) (F : List Nat) (k : Nat) (w : World) (h : OwnD w t c F) (hnd : F.Nodup) (hlt : ∀ x, x ∈ F → x < w.heap.size) (hk0 : 0 < k) (hk : k + t.names.length + kcK t.kids ≤ 1099511627776) :
    Calls Tryd.prog 16 #[.agg #[c.c0, c.c1, c.c2], .int .i64 k] w fun e w' => e = .returned (.int .i64 (k + t.names.length + kcK t.kids : Nat)) ∧ OwnD w' (.mk t.sort (mS k t.names) (mDs (k + t.names.length) t.kids)) c F ∧ Exc F w w' := by
  obtain ⟨e0, i0, N1, K1, rfl, hn, hkd⟩ := h.open
  obtain ⟨c0, c1, c2⟩ := c
  simp only at e0 hn hkd
  have HN := hide hn; have HK := hide hkd; have HND := hide hnd; have HLT := hide hlt; have H := hide h
  have HE := hide e0
  have HI := hide i0
  clear hn hkd hnd hlt h e0 i0
  go_enter Tryd.func16, Tryd.ntmps16
  go_wp2_with fail
  have hal : ∀ x, x < w.heap.size → (w.alloc (.cells #[c0, c1, c2] 26)).heap[x]? = w.heap[x]? := fun x hx => Below.heap_alloc _ _ _ hx
  refine (markStringS_any c1 t.names N1 k _ (HN.out.carry fun x hx => hal x (HLT.out x (by simp [hx]))) hk0 (by omega)).mono ?_
  rintro e w1 ⟨rfl, hs1, hx1⟩
  have hwn : w.heap.size ∉ N1 := fun hm => by have := HLT.out _ (List.mem_append_left K1 hm); omega
  have r0 := (row3_alloc w c0 c1 c2 26).of_block (hx1.block w.heap.size (by simp) hwn)
  have k4 := r0.cell (i := 2) (by omega)
  simp only [row3] at k4
  have hnd := HND.out
  rw [List.nodup_append] at hnd
  obtain ⟨hnd1, hnd2, hnd3⟩ := hnd
  have HS1 := hide hs1; have HX1 := hide hx1; have HD3 := hide hnd3; have HD2 := hide hnd2
  clear hs1 hx1 r0 hal hnd1 hnd2 hnd3
  go_wp2_with fail
  refine (markKindS_ownAll (klsz t.kids + 1) t.kids (by omega) c2 K1 (k + t.names.length) w1 (HK.out.carry fun x hx => ?_) HD2.out (fun x hx => ?_) (by omega) (by omega)).mono ?_
  · rw [HX1.out.block x (by have := HLT.out x (by simp [hx]); simp; omega) (fun hm => HD3.out x hm x hx rfl)]
    exact Below.heap_alloc _ _ _ (HLT.out x (by simp [hx]))
  · have := HLT.out x (by simp [hx]); have := HX1.out.size; simp at this; omega
  rintro e w2 ⟨rfl, hk2, hx2⟩
  go_wp2_with fail
  go_ret
  refine ⟨rfl, ?_, ?_⟩
  · refine OwnD.make HE.out HI.out (HS1.out.carry fun x hx => hx2.block x ?_ (fun hm => HD3.out x hx x hm rfl)) hk2
    have := HLT.out x (by simp [hx]); have := HX1.out.size; simp at this; omega
  · exact ((Exc.of_below ((Below.refl _ _).alloc (Nat.le_refl _) _)).trans (HX1.out.mono fun x hx => by simp [hx])).trans (hx2.mono fun x hx => by simp [hx])
end Go.Proofs.YtfjiannabnonjaaDoor
