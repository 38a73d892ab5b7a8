/- The walk of the specification's RecUnpack. Conditions: the text has at most 2^20 bytes. -/
import Derived.Test.YtiflfcjocngiiaaGreatDoorPart36
import Derived.Test.YtiflfcjocngiiaaGreatDoorPart37
import Derived.Deep.RegionHeld3
namespace Go.Proofs.YtiflfcjocngiiaaGreatDoor
open Go Go.RowKit

/-- A record while it is read by the specification. -/
structure RuS (R : Nat) (w W : World) (v : Value) (b : List UInt8) (a : Nat) (bad : Bool) (Y : Nat) (pos : Int) (key : ByteArray) (u : Value) (es : List Ev) (cs : List C5) (Fs : List (List Nat)) : Prop where
  hR : w.heap.size < R
  hY : R < Y
  bel : Below w.heap.size w W
  sr : SR R W v b a bad
  b4 : W.rowIs w.heap.size 24 3 (row3 (.int .i64 0) (.string ByteArray.empty) (.slice none 0 0))
  b5 : W.rowIs Y 24 3 (row3 (.int .i64 pos) (.string key) u)
  got : GotE (Y + 1) W u es cs Fs
section
variable {R : Nat} {w W W' : World} {v : Value} {b : List UInt8} {a a' : Nat} {bad bad' : Bool} {Y : Nat} {pos : Int} {key : ByteArray} {u : Value} {es : List Ev} {cs : List C5} {Fs : List (List Nat)}
theorem RuS.step (h : RuS R w W v b a bad Y pos key u es cs Fs) (hsr : SR R W' v b a' bad') (hb : But R W W') : RuS R w W' v b a' bad' Y pos key u es cs Fs := by
  have hR := h.hR; have hY := h.hY
  exact ⟨h.hR, h.hY, below_but h.bel hb (by omega), hsr, h.b4.of_block (hb.at h.b4.lt (by omega)), h.b5.of_block (hb.at h.b5.lt (by omega)), h.got.keep hb.size (fun x hx hl => hb.at hl (by omega))⟩
theorem RuS.on (h : RuS R w W v b a bad Y pos key u es cs Fs) (hb : Below W.heap.size W W') : RuS R w W' v b a bad Y pos key u es cs Fs := h.step (h.sr.on hb) (But.of_below hb)
theorem RuS.form (h : RuS R w W v b a bad Y pos key u es cs Fs) : ∃ (ad : Option Addr) (cap : Nat), u = .slice ad es.length cap := by
  rcases h.got.row.2 with ⟨hv, h0⟩ | ⟨g, c, x, hv, _⟩
  · exact ⟨none, 0, by rw [hv, h0]⟩
  · exact ⟨_, _, hv⟩
theorem RuS.top (h : RuS R w W v b a bad Y pos key u es cs Fs) : Y + 1 ≤ W.heap.size := h.b5.lt
/-- The reader goes on. -/
theorem RuS.go (h : RuS R w W v b a bad Y pos key u es cs Fs) (hle : a' ≤ b.length) : RuS R w (W.setCell ⟨R, 1, none⟩ (.int .i64 (a' : Nat))) v b a' bad Y pos key u es cs Fs :=
  h.step (h.sr.but (But.set W 1 _) (row3_un1 h.sr.cells _) hle) (But.set W 1 _)
/-- Another event stands behind the events. -/
theorem RuS.add {u' : Value} {ob : Obj} {es' : List Ev} {cs' : List C5} {Fs' : List (List Nat)} (h : RuS R w W v b a bad Y pos key u es cs Fs) (hgot : GotE (Y + 1) W' u' es' cs' Fs') (hg : (W.alloc ob).grownBy W' u.ownBlock) : W'.rowIs Y 24 3 (row3 (.int .i64 pos) (.string key) u) ∧ W'.rowIs R 33 3 (row3 v (.int .i64 (a : Nat)) (.bool bad)) ∧ RuS R w (W'.setCell ⟨Y, 2, none⟩ u') v b a bad Y pos key u' es' cs' Fs' := by
  have hR := h.hR; have hY := h.hY; have hbs := h.bel.size
  have hsz := hg.size
  rw [World.size_alloc] at hsz
  have hlow : ∀ x, x < Y + 1 → x < W.heap.size → W'.heap[x]? = W.heap[x]? := fun x hx hl => by
    rw [hg.block x (by rw [World.size_alloc]; omega) (fun e => by have := (h.got.row.lt x e.symm).1; omega), Below.heap_alloc _ _ _ hl]
  have hset : But Y W' (W'.setCell ⟨Y, 2, none⟩ u') := But.set W' 2 _
  have h5 := h.b5.of_block (hlow Y (by omega) h.b5.lt)
  have hRl := h.sr.cells.lt
  have hblk : ∀ x, x < Y → x < W.heap.size → (W'.setCell ⟨Y, 2, none⟩ u').heap[x]? = W.heap[x]? := fun x hx hl => by
    rw [hset.at (by omega) (by omega), hlow x (by omega) hl]
  refine ⟨h5, h.sr.cells.of_block (hlow R (by omega) hRl), ⟨h.hR, h.hY, ⟨hg.os.trans h.bel.os, hg.tape.trans h.bel.tape, hg.output.trans h.bel.output, by rw [World.size_setCell]; omega, fun x h1 => ?_⟩, ⟨h.sr.cells.of_block (hblk R (by omega) hRl), h.sr.row.of_block (fun x e => hblk x (by have := h.sr.own x e; omega) (h.sr.row.own x e).2), h.sr.own, h.sr.le, h.sr.small⟩, h.b4.of_block (hblk _ (by omega) h.b4.lt), row3_pk2 h5 u', hgot.keep (by rw [World.size_setCell]; exact Nat.le_refl _) (fun x hx hl => hset.at hl (by omega))⟩⟩
  rw [hblk x (by omega) (by omega)]
  exact h.bel.block x h1
/-- Nothing is given. -/
theorem RuS.no {X : List UInt8} (h : RuS R w W v b a bad Y pos key u es cs Fs) (hi : RuIs pos X none) (x y z : Value) : RuEnd w (((W.setCell ⟨w.heap.size, 0, none⟩ x).setCell ⟨w.heap.size, 1, none⟩ y).setCell ⟨w.heap.size, 2, none⟩ z) pos X (.returned (.tuple #[.agg #[.int .i64 0, .string ByteArray.empty, .slice none 0 0], .bool false])) := RuEnd.no w.heap.size (Nat.le_refl _) h.bel hi x y z
/-- The record is given. -/
theorem RuS.yes {X : List UInt8} (h : RuS R w W v b a bad Y pos key u es cs Fs) (hl : es.length ≤ 1048576) (hi : RuIs pos X (some (key, es))) (x y z : Value) : RuEnd w (((W.setCell ⟨w.heap.size, 0, none⟩ x).setCell ⟨w.heap.size, 1, none⟩ y).setCell ⟨w.heap.size, 2, none⟩ z) pos X (.returned (.tuple #[.agg #[.int .i64 pos, .string key, u], .bool true])) := by
  obtain ⟨F, h1, h2, h3⟩ := h.got.evs hl
  have hR := h.hR; have hY := h.hY
  exact RuEnd.yes w.heap.size (Nat.le_refl _) h.bel h1 h2 (fun q hq => ⟨by have := (h3 q hq).1; omega, (h3 q hq).2⟩) hi x y z
end
/-- What has been read is a beginning of what there is. -/
def RuK (b : List UInt8) (key : ByteArray) (m a : Nat) (bad : Bool) (es : List Ev) : Prop :=
  (bad = true ∧ recF b = none) ∨ (bad = false ∧ recF b = (evsF m (b.drop a)).map fun l => (key, es ++ l))
theorem RuK.start {b : List UInt8} {key : ByteArray} {a1 a2 x : Nat} {bad1 bad2 : Bool} (h1 : (bad1 = true ∧ recF b = none) ∨ (bad1 = false ∧ recF b = recR key (b.drop a1))) (hx : x ≤ 255) (h2 : (∃ l, b.drop a1 = UInt8.ofNat x :: l ∧ l = b.drop a2 ∧ bad2 = bad1 ∧ a1 < a2) ∨ (b.drop a1 = [] ∧ x = 0 ∧ bad2 = true ∧ a2 = a1)) : RuK b key x a2 bad2 [] := by
  rcases h1 with ⟨e1, h1⟩ | ⟨e1, h1⟩
  · refine Or.inl ⟨?_, h1⟩
    rcases h2 with ⟨l, -, -, e2, -⟩ | ⟨-, -, e2, -⟩
    · rw [e2, e1]
    · exact e2
  · rcases h2 with ⟨l, g1, g2, e2, -⟩ | ⟨g1, -, e2, -⟩
    · refine Or.inr ⟨by rw [e2, e1], ?_⟩
      have hn : (UInt8.ofNat x).toNat = x := by simp; omega
      rw [h1, g1, recR, hn, g2]
      simp
    · exact Or.inl ⟨e2, by rw [h1, g1]; rfl⟩
theorem RuK.nope {b : List UInt8} {key : ByteArray} {m a : Nat} {es : List Ev} (h : RuK b key m a false es) (he : evsF m (b.drop a) = none) : recF b = none := by
  rcases h with ⟨e, -⟩ | ⟨-, h⟩
  · cases e
  · rw [h, he]; rfl
theorem RuK.more {b : List UInt8} {key : ByteArray} {m a a' : Nat} {es : List Ev} {e : Ev} (h : RuK b key (m + 1) a false es) (he : evsF (m + 1) (b.drop a) = (evsF m (b.drop a')).map (e :: ·)) : RuK b key m a' false (es ++ [e]) := by
  rcases h with ⟨e, -⟩ | ⟨-, h⟩
  · cases e
  · refine Or.inr ⟨rfl, ?_⟩
    rw [h, he]
    cases evsF m (b.drop a') <;> simp
theorem RuK.done {b : List UInt8} {key : ByteArray} {a : Nat} {es : List Ev} (h : RuK b key 0 a false es) : recF b = some (key, es) := by
  rcases h with ⟨e, -⟩ | ⟨-, h⟩
  · cases e
  · rw [h]; simp [evsF]
theorem RuK.bad {b : List UInt8} {key : ByteArray} {m a : Nat} {es : List Ev} (h : RuK b key m a true es) : recF b = none := by
  rcases h with ⟨-, h⟩ | ⟨e, -⟩
  · exact h
  · cases e
theorem short_rec (R : Nat) (W : World) (v : Value) (b : List UInt8) (h : SR R W v b 0 false) :
    Calls Tryz.prog 9 #[.pointer (some ⟨R, 0, none⟩)] W fun e w' => ∃ (key : ByteArray) (a1 : Nat) (bad1 : Bool), e = .returned (.string key) ∧ key.size ≤ 255 ∧ Hid (SR R w' v b a1 bad1) ∧ Hid (But R W w') ∧ Hid ((bad1 = true ∧ recF b = none) ∨ (bad1 = false ∧ recF b = recR key (b.drop a1))) := by
  cases hp : ptx (b.drop 0) with
  | none =>
    refine (short_no R W v b 0 false h hp).mono ?_
    rintro e w' ⟨⟨s, rfl, hs⟩, ⟨a', h1⟩, h2⟩
    exact ⟨s, a', true, rfl, hs, h1, h2, Or.inl ⟨rfl, recF_notext hp⟩⟩
  | some kr =>
    obtain ⟨k, rest⟩ := kr
    refine (short_yes R W v b 0 false k rest h hp).mono ?_
    rintro e w' ⟨rfl, ⟨a', -, h1, h3⟩, h2⟩
    exact ⟨k, a', false, rfl, by have := (ptx_sound hp).2; omega, h1, h2, Or.inr ⟨rfl, by rw [← h3]; exact recF_text hp⟩⟩
/-- The boxes, where the reading begins. -/
theorem ru_begin (w W1 w1 : World) (s : ByteArray) (pos : Int) (key : ByteArray) (cap a1 : Nat) (bad1 : Bool) (hsz : W1.heap.size = w.heap.size + 2) (hb1 : Below (w.alloc rc0).heap.size (w.alloc rc0) W1) (vv : Value)
    (hs : SR W1.heap.size w1 vv s.data.toList a1 bad1) (hb : But W1.heap.size (W1.alloc (.cells #[vv, .int .i64 0, .bool false] 33)) w1) (_ : cap = cap) :
    RuS W1.heap.size w (w1.alloc (.cells #[.int .i64 pos, .string key, .slice none 0 0] 24)) vv s.data.toList a1 bad1 w1.heap.size pos key (.slice none 0 0) [] [] [] := by
  have hsz2 := hb.size
  rw [World.size_alloc] at hsz2
  have hb0 : Below w.heap.size w (w.alloc rc0) := (Below.refl _ _).alloc (Nat.le_refl _) _
  have hbW : Below w.heap.size w W1 := hb0.trans (hb1.mono (by simp))
  have hbA : Below w.heap.size w (W1.alloc (.cells #[vv, .int .i64 0, .bool false] 33)) := hbW.alloc (by omega) _
  have hbB := below_but hbA hb (by omega)
  have hbC : Below w1.heap.size w1 (w1.alloc (.cells #[.int .i64 pos, .string key, .slice none 0 0] 24)) := (Below.refl _ _).alloc (Nat.le_refl _) _
  have h4 : (w.alloc rc0).rowIs w.heap.size 24 3 (row3 (.int .i64 0) (.string ByteArray.empty) (.slice none 0 0)) := row3_alloc w _ _ _ _
  have h4' := (((h4.of_block (hb1.block _ (by simp))).alloc (.cells #[vv, .int .i64 0, .bool false] 33)).of_block (hb.at (by rw [World.size_alloc]; omega) (by omega))).alloc (.cells #[.int .i64 pos, .string key, .slice none 0 0] 24)
  exact ⟨by omega, by omega, hbB.trans (hbC.mono hbB.size), hs.on hbC, h4', row3_alloc _ _ _ _ _, GotE.nil _ _⟩
theorem sr_first (W1 : World) (v : Value) (b : List UInt8) (hr : ByIn W1 v b) (hs : b.length ≤ 1048576) : SR W1.heap.size (W1.alloc (.cells #[v, .int .i64 0, .bool false] 33)) v b 0 false :=
  ⟨row3_alloc W1 v (.int .i64 0) (.bool false) 33, hr.alloc _, fun g e => (hr.own g e).2, Nat.zero_le _, hs⟩
set_option maxRecDepth 100000 in
set_option maxHeartbeats 3200000 in
theorem specRecUnpack_any (w : World) (s : ByteArray) (pos : Int) (hs : s.size ≤ 1048576) :
    Calls Tryz.prog 4 #[.int .i64 pos, .string s] w fun e w' => RuEnd w w' pos s.data.toList e := by
  obtain ⟨i0, hi0, hi1, hi2, hi3⟩ := infoEvD
  have HI0 := hide hi0; have HI1 := hide hi1; have HI2 := hide hi2; have HI3 := hide hi3
  clear hi0 hi1 hi2 hi3
  have hl : s.data.toList.length = s.size := by rw [Array.length_toList]; rfl
  by_cases h2 : 2000 < s.size
  · have hN := ru_long (pos := pos) (b := s.data.toList) (by rw [hl]; exact h2)
    have hq : decide ((2000 : Int) < (s.size : Int)) = true := decide_eq_true (by omega)
    have HN := hide hN
    clear hl hN h2
    go_enter Tryz.func4, Tryz.ntmps4
    go_wp2_with fail
    refine bodyPost_ret (v := .tuple #[.agg #[.int .i64 0, .string ByteArray.empty, .slice none 0 0], .bool false]) (by simp [results, Tryz.results4, go_sem]; try rfl) rfl ?_
    exact ⟨(Below.refl _ _).alloc (Nat.le_refl _) _, Or.inr ⟨unhide HN, rfl⟩⟩
  have hq : decide ((2000 : Int) < (s.size : Int)) = false := decide_eq_false (by omega)
  obtain ⟨cap, W1, hconv, hby, hb1, hs1⟩ := conv_in (w.alloc rc0) s hs
  rw [World.size_alloc] at hs1
  simp only [World.size_alloc] at hconv hby
  have HSH := hide (short_rec W1.heap.size _ _ s.data.toList (sr_first W1 _ s.data.toList hby (by rw [hl]; exact hs)))
  have HBG := hide (fun w1 key a1 bad1 hsr hb => ru_begin w W1 w1 s pos key cap a1 bad1 (by omega) hb1 (.slice (some ⟨w.heap.size + 1, 0, none⟩) s.size cap) hsr hb rfl)
  have hconv2 : (convert 9 31 (.string s)).run Tryz.prog (w.alloc (.cells #[.int .i64 0, .string ⟨#[]⟩, .slice none 0 0] 24)) = .ok (.slice (some ⟨w.heap.size + 1, 0, none⟩) s.size cap) W1 := hconv
  clear hby hb1 hconv
  have HS1 := hide hs1
  clear hs1 h2
  go_enter Tryz.func4, Tryz.ntmps4
  go_wp2_with fail
  refine (unhide HSH).mono ?_
  rintro e w1 ⟨key, a1, bad1, rfl, hky, HS2, HB2, HK1⟩
  have hru := unhide HBG w1 key a1 bad1 HS2.out HB2.out
  have HRU := hide hru
  clear hru HS2 HB2 HBG HSH hconv2
  generalize W1.heap.size = R at HRU ⊢
  clear HS1
  go_upto_region 5 with fail
  generalize w1.alloc (.cells #[.int .i64 pos, .string key, .slice none 0 0] 24) = W3 at HRU ⊢
  generalize w1.heap.size = Y at HRU ⊢
  have HON := hide (one_any R W3 _ _ a1 bad1 (unhide HRU).sr)
  go_wp2_with fail
  refine (unhide HON).mono ?_
  rintro e w4 ⟨n, a2, bad2, rfl, hn, HS4, HB4, HC4⟩
  have HRU4 := hide ((unhide HRU).step HS4.out HB4.out)
  have HK4 := hide (RuK.start HK1.out hn HC4.out)
  clear HON HS4 HB4 HC4 HK1 HRU
  generalize (Value.slice (some ⟨w.heap.size + 1, 0, none⟩) s.size cap) = vv at HRU4
  have HHL := hide hl
  clear hl
  go_wp2_with fail
  go_loopw [8] (fun vi wr => ∃ (m a : Nat) (bad : Bool) (u : Value) (es : List Ev) (cs : List C5) (Fs : List (List Nat)), m + es.length ≤ 255 ∧ vi = .int .i64 m ∧ Hid (RuK s.data.toList key m a bad es) ∧ Hid (RuS R w wr vv s.data.toList a bad Y pos key u es cs Fs)) (fun vi _ => (intOf vi).toNat)
  case atStart => exact ⟨n, a2, bad2, _, [], [], [], by simpa using hn, rfl, HK4, HRU4⟩
  case round =>
    clear HRU4 HK4
    obtain ⟨m, a, bad, u, es, cs, Fs, hm, rfl, HK, HR⟩ := hrel
    have h0 := HR.out
    have k2 := h0.sr.cells.cell (i := 2) (by omega)
    simp only [row3] at k2
    cases bad with
    | true =>
      have HN := hide (ru_none (pos := pos) HK.out.bad)
      have m0 := h0.b4.cell (i := 0) (by omega); have m1 := h0.b4.cell (i := 1) (by omega); have m2 := h0.b4.cell (i := 2) (by omega); have mf := h0.b4.frozen
      simp only [row3] at m0 m1 m2
      have H0 := hide h0
      clear h0 HR HK
      by_cases hz : 0 < m
      · have hd : decide ((0 : Int) < (m : Int)) = true := decide_eq_true (by omega)
        go_wp2_with fail
        refine bodyPost_ret (v := .tuple #[.agg #[.int .i64 0, .string ByteArray.empty, .slice none 0 0], .bool false]) (by simp [results, Tryz.results4, go_sem, m0, m1, m2]; try rfl) rfl ?_
        exact (unhide H0).no (unhide HN) _ _ _
      · have hd : decide ((0 : Int) < (m : Int)) = false := decide_eq_false (by omega)
        go_wp2_with fail
        refine bodyPost_ret (v := .tuple #[.agg #[.int .i64 0, .string ByteArray.empty, .slice none 0 0], .bool false]) (by simp [results, Tryz.results4, go_sem, m0, m1, m2]; try rfl) rfl ?_
        exact (unhide H0).no (unhide HN) _ _ _
    | false =>
      by_cases hz : 0 < m
      · have hd : decide ((0 : Int) < (m : Int)) = true := decide_eq_true (by omega)
        obtain ⟨q, rfl⟩ : ∃ q, m = q + 1 := ⟨m - 1, by omega⟩
        have hsm := h0.sr.small
        have hle := h0.sr.le
        rw [unhide HHL] at hsm hle
        by_cases hl1 : a + 1 < s.data.toList.length
        case neg =>
          have HN := hide (ru_none (pos := pos) (HK.out.nope (evsF_short (by rw [List.length_drop]; omega))))
          have HX1 : Hid (∃ x0 a1 bad1, x0 ≤ 255 ∧ Calls Tryz.prog 10 #[.pointer (some ⟨R, 0, none⟩)] wr fun e w' => e = .returned (.int .i64 (x0 : Nat)) ∧ Hid (RuS R w w' vv s.data.toList a1 bad1 Y pos key u es cs Fs) ∧ Hid (s.data.toList.length ≤ a1)) := by
            by_cases hl0 : a < s.data.toList.length
            · refine ⟨s.data.toList[a].toNat, a + 1, false, by have := s.data.toList[a].toNat_lt; omega, (one_yes R wr vv s.data.toList a false h0.sr hl0).mono ?_⟩
              rintro e w' ⟨rfl, h1, h2⟩
              exact ⟨rfl, hide (h0.step h1 h2), hide (by omega)⟩
            · refine ⟨0, a, true, by omega, (one_no R wr vv s.data.toList a false h0.sr (by omega)).mono ?_⟩
              rintro e w' ⟨rfl, h1, h2⟩
              exact ⟨rfl, hide (h0.step h1 h2), hide (by omega)⟩
          obtain ⟨x0, a1, bad1, hx0, hc1⟩ := unhide HX1
          have HC1 := hide hc1
          clear HX1 hc1 h0 HR HK hl1 hle hsm
          go_wp2_with fail
          refine (unhide HC1).mono ?_
          rintro e w5 ⟨rfl, H5, HL5⟩
          have HX2 := hide (one_no R w5 vv s.data.toList a1 bad1 (unhide H5).sr (unhide HL5))
          clear HC1 HL5
          go_wp2_with fail
          refine (unhide HX2).mono ?_
          rintro e w6 ⟨rfl, hs6, hb6⟩
          have h6 := (unhide H5).step hs6 hb6
          have k6 := h6.sr.cells.cell (i := 2) (by omega)
          simp only [row3] at k6
          have m0 := h6.b4.cell (i := 0) (by omega); have m1 := h6.b4.cell (i := 1) (by omega); have m2 := h6.b4.cell (i := 2) (by omega); have mf := h6.b4.frozen
          simp only [row3] at m0 m1 m2
          have H6 := hide h6
          clear h6 hs6 hb6 HX2 H5
          go_wp2_with fail
          refine bodyPost_ret (v := .tuple #[.agg #[.int .i64 0, .string ByteArray.empty, .slice none 0 0], .bool false]) (by simp [results, Tryz.results4, go_sem, m0, m1, m2]; try rfl) rfl ?_
          exact (unhide H6).no (unhide HN) _ _ _
        have hx8 := s.data.toList[a].toNat_lt; have hy8 := s.data.toList[a + 1].toNat_lt
        have HLONG := hide (fun (hs : ¬ twoN s.data.toList[a] s.data.toList[a + 1] ≤ s.data.toList.length - (a + 2)) => HK.out.nope (evsF_long (n := q) hl1 hs))
        have HBAD := hide (fun (hs : twoN s.data.toList[a] s.data.toList[a + 1] ≤ s.data.toList.length - (a + 2)) he => HK.out.nope (evsF_bad (n := q) hl1 hs he))
        have HGOOD := hide (fun (e : Ev) (hs : twoN s.data.toList[a] s.data.toList[a + 1] ≤ s.data.toList.length - (a + 2)) he => HK.out.more (evsF_good (n := q) (e := e) hl1 hs he))
        have HX := hide (one_yes R wr vv s.data.toList a false h0.sr (by omega))
        have HNX : Hid (∀ (W : World), SR R W vv s.data.toList (a + 1) false → Calls Tryz.prog 10 #[.pointer (some ⟨R, 0, none⟩)] W fun e w' => e = .returned (.int .i64 (s.data.toList[a + 1].toNat : Int)) ∧ SR R w' vv s.data.toList (a + 1 + 1) false ∧ But R W w') := fun W hW => one_yes R W vv s.data.toList (a + 1) false hW hl1
        unfold twoN at HLONG HBAD HGOOD
        generalize s.data.toList[a].toNat = x0 at *
        generalize s.data.toList[a + 1].toNat = y0 at *
        rw [unhide HHL] at hl1
        have HL1 := hide hl1
        clear h0 HK hl1
        go_wp2_with fail
        refine (unhide HX).mono ?_
        rintro e w3 ⟨rfl, hcu3, hb3⟩
        have HX2 := hide (unhide HNX w3 hcu3)
        have HR3 := hide (HR.out.step hcu3 hb3)
        clear hcu3 hb3 HX HNX HR k2
        go_wp2_with fail
        refine (unhide HX2).mono ?_
        rintro e w4 ⟨rfl, hcu4, hb4⟩
        have h4 := (unhide HR3).step hcu4 hb4
        obtain ⟨a2, ha2⟩ : ∃ a2, a2 = a + 1 + 1 := ⟨_, rfl⟩
        rw [← ha2] at h4
        have HR4 := hide h4
        clear hcu4 hb4 HX2 HR3 h4
        have hs64 : x0 * 256 + y0 ≤ 65535 := by omega
        have hsi : (x0 : Int) * 256 + (y0 : Int) = ((x0 * 256 + y0 : Nat) : Int) := by omega
        have ha3 : a + 2 = a2 := by omega
        rw [ha3] at HLONG HBAD HGOOD
        have hle2 : a2 ≤ s.size := by have := unhide HL1; omega
        clear ha2 ha3 HL1 hle
        generalize x0 * 256 + y0 = z at *
        have h4 := unhide HR4
        have k1 := h4.sr.cells.cell (i := 1) (by omega); have k2 := h4.sr.cells.cell (i := 2) (by omega)
        simp only [row3] at k1 k2
        by_cases hfit : z ≤ s.data.toList.length - a2
        case neg =>
          have HN := hide (ru_none (pos := pos) (unhide HLONG hfit))
          rw [unhide HHL] at hfit
          have hdz : decide ((s.size : Int) - (a2 : Int) < (z : Int)) = true := decide_eq_true (by omega)
          have m0 := h4.b4.cell (i := 0) (by omega); have m1 := h4.b4.cell (i := 1) (by omega); have m2 := h4.b4.cell (i := 2) (by omega); have mf := h4.b4.frozen
          simp only [row3] at m0 m1 m2
          clear h4 HLONG HBAD HGOOD hfit
          go_wp2_with fail
          refine bodyPost_ret (v := .tuple #[.agg #[.int .i64 0, .string ByteArray.empty, .slice none 0 0], .bool false]) (by simp [results, Tryz.results4, go_sem, m0, m1, m2]; try rfl) rfl ?_
          exact (unhide HR4).no (unhide HN) _ _ _
        have HFIT := hide hfit
        rw [unhide HHL] at hfit
        have hdz : decide ((s.size : Int) - (a2 : Int) < (z : Int)) = false := decide_eq_false (by omega)
        have hc12 := h4.sr.cells
        have HC12 := hide hc12
        clear h4 hc12 HLONG
        go_upto_region 12 with fail
        refine wp_swap (c' := Code.region 12 ru12Ops true) (by kernel_rfl) ?_
        refine wp_region_noPanic ?_
        refine ru12 R s a2 z vv (.bool false) w4 _ (fun _ _ _ _ _ h => h) (by omega) (by omega) ((unhide HC12).of_block rfl) (by kernel_rfl) (fun u g ok => by kernel_rfl) ?_
        intro us x0 x1 x2 x3 x4 x5 x6 ok g W9 hb9 hg hgb hup
        refine NoPanic.normal ?_
        simp only [List.take_succ_cons, List.take_zero, List.drop_succ_cons, List.drop_zero, List.cons_append, List.nil_append]
        have hb9' : Below w4.heap.size w4 W9 := ⟨hb9.os, hb9.tape, hb9.output, hb9.size, fun i hi => hb9.block i hi⟩
        have hgb' : w4.heap.size ≤ g := hgb
        have h9 := (unhide HR4).on hb9'
        obtain ⟨-, ⟨rfl, ty, ver, tr, a3, a4, p3, p4, F, rfl, rfl, rfl, rfl, rfl, rfl, rfl, ho9, hnd9, hF9, hue⟩ | ⟨rfl, rfl, rfl, rfl, rfl, rfl, rfl, rfl, hno⟩⟩ := hup
        · have hev := evF_some (e := ⟨ty, ver, tr⟩) hue
          have HK2 := hide (unhide HGOOD _ (unhide HFIT) hev)
          have hty : ty.size ≤ 9223372036854775807 := by have := (evOk_parts hue.1).2.1; omega
          have hver : I64 ver := by obtain ⟨-, -, h3, h4, -, -⟩ := evOk_parts hue.1; exact ⟨by omega, by omega⟩
          have h4 := unhide HR4
          have hF7 : ∀ x, x ∈ F → Y + 1 ≤ x ∧ x < W9.heap.size ∧ x ∉ Fs.flatten ∧ u.ownBlock ≠ some x := fun x hx => by
            have h1 : w4.heap.size ≤ x := (hF9 x hx).1
            exact ⟨by have := h4.top; omega, (hF9 x hx).2.1, fun hm => by have := (h4.got.lt x hm).2.1; omega, fun e => by have := (h4.got.row.lt x e).2; omega⟩
          have q0 := hg.cell (i := 0) (by omega); have q1 := hg.cell (i := 1) (by omega); have q2 := hg.cell (i := 2) (by omega); have q3 := hg.cell (i := 3) (by omega); have q4 := hg.cell (i := 4) (by omega); have q5 := hg.cell (i := 5) (by omega); have q6 := hg.cell (i := 6) (by omega)
          simp only [row7] at q0 q1 q2 q3 q4 q5 q6
          obtain ⟨ad, cap2, hu⟩ := h9.form
          subst hu
          have d2 := h9.b5.cell (i := 2) (by omega)
          simp only [row3] at d2
          have hl256 : es.length ≤ 256 := by omega
          have H7 := hide h9; have HO7 := hide ho9; have HF7 := hide hF7; have HND := hide hnd9; have HTY := hide hty; have HVER := hide hver
          have htop := h9.top
          have hRY := h9.hY
          have hneA : R ≠ Y := by omega
          have hneB : Y ≠ R := by omega
          obtain ⟨e2, he2⟩ : ∃ e2, e2 = a2 + z := ⟨_, rfl⟩
          have hwz : (a2 : Int) + (z : Int) = (e2 : Int) := by omega
          have hwr : IntKind.i64.wrap ((a2 : Int) + (z : Int)) = (e2 : Int) := by rw [IntKind.wrap_i64]; omega
          have hle3 : e2 ≤ s.data.toList.length := by rw [unhide HHL]; omega
          have HLE3 := hide hle3
          rw [← he2] at HK2
          clear he2
          have hgl := hg.lt
          clear h9 h4 hF7 hue hev ho9 hF9 hnd9 hg hgb hgb' hb9 hb9' HR4 HC12 HGOOD HBAD k1 k2 hle3
          go_wp2_with (at_builtin; (refine append_row _ rfl _ _ 22 rfl (Y + 1) 41 i0 (.agg z7) 7 104 Tryz.underlying22 (unhide HI0) (unhide HI1) (unhide HI2) (unhide HI3) rfl (by decide) (.slice ad es.length cap2) es.length _ rfl (World.ownsRow.alloc (unhide H7).got.row _) ⟨W9.heap.size, 0, none⟩ 1 1 [.string ty, .int .i64 ver, .int .i64 tr.sort, .int .i64 tr.num, .string tr.text, .slice a3 tr.names.length p3, .slice a4 tr.kids.length p4] rfl rfl (cell_7R W9 _ _ _ _ _ _ _ _) (fun x hx => by simp at hx; rcases hx with rfl | rfl | rfl | rfl | rfl | rfl | rfl <;> rfl) (by decide) (by unfold maxLen; omega) (by omega) (by rw [World.size_alloc]; omega) ?_; intro v8 w8 hown8 hgrow8 hat8; obtain ⟨g9, cap9, hv8, -, -⟩ := hown8.form (by omega); subst hv8; have hgot := (unhide H7).got.add (e := ⟨ty, ver, tr⟩) (c := ⟨.int .i64 tr.sort, .int .i64 tr.num, .string tr.text, .slice a3 tr.names.length p3, .slice a4 tr.kids.length p4⟩) (unhide HO7) (unhide HTY) (unhide HVER) (unhide HND) (unhide HF7) hown8 hgrow8 (by rcases hat8 with h | ⟨g, h, h2⟩; exact Or.inl h; exact Or.inr (fun x hx => by rw [h] at hx; cases hx; rw [World.size_alloc] at h2; omega)); have hadd := (unhide H7).add hgot hgrow8; have r2 := hadd.1.cell (i := 2) (by omega); have rf := hadd.1.frozen 2; have s1 := hadd.2.1.cell (i := 1) (by omega); have sf := hadd.2.1.frozen 1; simp only [row3] at r2 s1; have HADD := hide (hadd.2.2.go (unhide HLE3)); clear hgot hadd hown8 hgrow8 hat8 d2 q0 q1 q2 q3 q4 q5 q6))
          go_roundw
          case rel => exact ⟨q, _, false, _, es ++ [⟨ty, ver, tr⟩], _, _, by simp; omega, by go_num, HK2, HADD⟩
          case measure => simp [intOf]; try omega
        · have HN := hide (ru_none (pos := pos) (unhide HBAD (unhide HFIT) (evF_none hno)))
          have m0 := h9.b4.cell (i := 0) (by omega); have m1 := h9.b4.cell (i := 1) (by omega); have m2 := h9.b4.cell (i := 2) (by omega); have mf := h9.b4.frozen
          simp only [row3] at m0 m1 m2
          have H9 := hide h9
          clear h9 hg hgb hgb' hb9 hb9' HR4 HC12 HGOOD HBAD k1 k2 hno
          go_wp2_with fail
          refine bodyPost_ret (v := .tuple #[.agg #[.int .i64 0, .string ByteArray.empty, .slice none 0 0], .bool false]) (by simp [results, Tryz.results4, go_sem, m0, m1, m2]; try rfl) rfl ?_
          exact (unhide H9).no (unhide HN) _ _ _
      · have hd : decide ((0 : Int) < (m : Int)) = false := decide_eq_false (by omega)
        obtain rfl : m = 0 := by omega
        have hrf := HK.out.done
        obtain ⟨F, g1, g2, g3⟩ := h0.got.evs (by omega)
        obtain ⟨ad, cp, rfl⟩ := h0.form
        have HRP := hide (specRecPack_any pos key es (· ∈ F) (.slice ad es.length cp) wr (fun x hx => (g3 x hx).2) g1.at (by omega))
        have d0 := h0.b5.cell (i := 0) (by omega); have d1 := h0.b5.cell (i := 1) (by omega); have d2 := h0.b5.cell (i := 2) (by omega)
        simp only [row3] at d0 d1 d2
        have hle : es.length ≤ 1048576 := by omega
        have hne : s.data.toList ≠ [] := fun h => by rw [h, recF_nil] at hrf; cases hrf
        have hse : (s.toList == []) = false := by rw [beq_eq_false_iff_ne, lstU_data]; exact hne
        have hse2 : s.toList.isEmpty = false := by rw [lstU_data]; cases hh : s.data.toList with | nil => exact absurd hh hne | cons _ _ => rfl
        have HRF := hide hrf; have HNE := hide hne
        have H0 := hide h0
        clear h0 HR HK hrf g1 g2 g3 hne
        by_cases hpk : bA (recPackB pos key es) = s
        · have hbn : ((bA (recPackB pos key es)).toList == s.toList) = true := by rw [hpk]; simp
          have HIS : Hid (RuIs pos s.data.toList (some (key, es))) := ru_same (unhide HNE) (bA_back hpk)
          clear hpk
          go_wp2_with fail
          refine (unhide HRP).mono ?_
          rintro e w5 ⟨rfl, hb5⟩
          have h5 := (unhide H0).on hb5
          have m0 := h5.b4.cell (i := 0) (by omega); have m1 := h5.b4.cell (i := 1) (by omega); have m2 := h5.b4.cell (i := 2) (by omega); have mf := h5.b4.frozen
          simp only [row3] at m0 m1 m2
          have d0 := h5.b5.cell (i := 0) (by omega); have d1 := h5.b5.cell (i := 1) (by omega); have d2 := h5.b5.cell (i := 2) (by omega)
          simp only [row3] at d0 d1 d2
          have H5 := hide h5
          clear h5 hb5 HRP H0
          go_wp2_with fail
          refine bodyPost_ret (v := .tuple #[.agg #[.int .i64 pos, .string key, .slice ad es.length cp], .bool true]) (by simp [results, Tryz.results4, go_sem, m0, m1, m2]; try rfl) rfl ?_
          exact (unhide H5).yes hle (unhide HIS) _ _ _
        · have hbn := (bA_diff hpk).1
          have HIS := hide (ru_other (pos := pos) (unhide HRF) (bA_diff hpk).2)
          clear hpk
          go_wp2_with fail
          refine (unhide HRP).mono ?_
          rintro e w5 ⟨rfl, hb5⟩
          have h5 := (unhide H0).on hb5
          have m0 := h5.b4.cell (i := 0) (by omega); have m1 := h5.b4.cell (i := 1) (by omega); have m2 := h5.b4.cell (i := 2) (by omega); have mf := h5.b4.frozen
          simp only [row3] at m0 m1 m2
          have H5 := hide h5
          clear h5 hb5 HRP H0 d0 d1 d2
          go_wp2_with fail
          refine bodyPost_ret (v := .tuple #[.agg #[.int .i64 0, .string ByteArray.empty, .slice none 0 0], .bool false]) (by simp [results, Tryz.results4, go_sem, m0, m1, m2]; try rfl) rfl ?_
          exact (unhide H5).no (unhide HIS) _ _ _
end Go.Proofs.YtiflfcjocngiiaaGreatDoor
