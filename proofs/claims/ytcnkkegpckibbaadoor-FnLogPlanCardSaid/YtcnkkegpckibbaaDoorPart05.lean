/- The walk of the program's planWords: the word of a line and the numbers behind it. Conditions: the line is bounded; strings' bound is some number, strconv's two errors are some errors. -/
import Derived.Test.YtcnkkegpckibbaaDoorPart03
import Derived.Test.YtcnkkegpckibbaaDoorPart04
import Derived.Lib.AtoiErrMem
import Derived.Lib.IndexMore
import Derived.Lib.AtoiTie
import Derived.Test.YtcnkkegpckibbaaDoorPart00
import Derived.Test.YtcnkkegpckibbaaDoorRows
import Derived.Lib.AppendStr
import Derived.Laws.IdiomStrings
import Derived.Deep.AppendLies
import Derived.Lib.FrozenHead2
namespace Go.Proofs.YtcnkkegpckibbaaDoor
open Go Go.RowKit

/-- What strings and strconv read, whatever it is. -/
structure EnvP (w : World) : Prop where
  max : ∃ m, w.cell? ⟨0, 0, none⟩ = some (.int .i64 m)
  syn : ∃ ev, w.cell? ⟨1, 0, none⟩ = some ev ∧ (ev = .nilIface ∨ ∃ te pe, ev = .iface te pe)
  rng : ∃ ev, w.cell? ⟨2, 0, none⟩ = some ev ∧ (ev = .nilIface ∨ ∃ te pe, ev = .iface te pe)
theorem EnvP.below {w w' : World} (h : EnvP w) (hb : Below w.heap.size w w') : EnvP w' := by
  obtain ⟨m, h0⟩ := h.max
  obtain ⟨e1, h1, k1⟩ := h.syn
  obtain ⟨e2, h2, k2⟩ := h.rng
  refine ⟨⟨m, ?_⟩, ⟨e1, ?_, k1⟩, ⟨e2, ?_, k2⟩⟩
  · rw [World.cell?_of_block (w := w) (hb.block _ (World.block_lt_of_cell? w _ h0))]; exact h0
  · rw [World.cell?_of_block (w := w) (hb.block _ (World.block_lt_of_cell? w _ h1))]; exact h1
  · rw [World.cell?_of_block (w := w) (hb.block _ (World.block_lt_of_cell? w _ h2))]; exact h2
theorem atoiP (W : ByteArray) (hl : W.size ≤ 1048576) (w : World) (hE : EnvP w) :
    Calls Tryd.prog 40 #[.string W] w fun e w' => Below w.heap.size w w' ∧ ((∃ n, Lib.atoiAll W.data.toList = .ok n ∧ e = .returned (.tuple #[.int .i64 n, .nilIface])) ∨ ((∀ n, Lib.atoiAll W.data.toList ≠ .ok n) ∧ ∃ m N, e = .returned (.tuple #[.int .i64 m, .iface 100 (.pointer (some ⟨N, 0, none⟩))]))) := by
  cases h : Lib.atoiAll W.data.toList with
  | ok n =>
    refine (Tryd.strconv_Atoi_ok W (by omega) n h w).mono ?_
    rintro e w' ⟨rfl, hw⟩
    refine ⟨?_, Or.inl ⟨n, rfl, rfl⟩⟩
    rcases hw with rfl | ⟨t, rfl⟩
    · exact Below.refl _ _
    · exact Lib.bytesWorld_below _ _ _
  | «syntax» =>
    obtain ⟨ev, h1, h2⟩ := hE.syn
    refine (Tryd.strconv_Atoi_syntax W (by omega) h ev w h1 h2).mono ?_
    rintro e w' ⟨N, rfl, -, -, hb⟩
    refine ⟨hb, Or.inr ⟨fun n h => ?_, _, _, rfl⟩⟩
    cases h
  | range =>
    obtain ⟨ev, h1, h2⟩ := hE.rng
    refine (Tryd.strconv_Atoi_range W (by omega) h ev w h1 h2).mono ?_
    rintro e w' ⟨N, rfl, -, -, hb⟩
    refine ⟨hb, Or.inr ⟨fun n h => ?_, _, _, rfl⟩⟩
    cases h
theorem cutP (W sep : ByteArray) (hl : W.size ≤ 1048576) (w : World) (hE : EnvP w) :
    Calls Tryd.prog 39 #[.string W, .string sep] w fun e w' => e = .returned (.tuple #[.string ⟨(Lib.cut W.data.toList sep.data.toList).1.toArray⟩, .string ⟨(Lib.cut W.data.toList sep.data.toList).2.1.toArray⟩, .bool (Lib.cut W.data.toList sep.data.toList).2.2]) ∧ Below w.heap.size w w' := by
  obtain ⟨m, hm⟩ := hE.max
  refine (Tryd.strings_Cut W sep m w (by omega) hm).mono ?_
  rintro e w' ⟨rfl, n, rfl⟩
  exact ⟨rfl, rfl, rfl, rfl, Nat.le_refl _, fun _ _ => rfl⟩
theorem cut_len (X sep : List UInt8) : (Lib.cut X sep).1.length ≤ X.length ∧ (Lib.cut X sep).2.1.length ≤ X.length := by
  unfold Lib.cut
  split
  · simp only [List.length_take, List.length_drop]; omega
  · simp
/-- The numbers behind a line's word. -/
def wdN : Nat → List UInt8 → Bool → List Int
  | 0, _, _ => []
  | _ + 1, _, false => []
  | f + 1, X, true => match Lib.atoiAll (Lib.cut X [32]).1 with
    | .ok v => v :: wdN f (Lib.cut X [32]).2.1 (Lib.cut X [32]).2.2
    | .syntax => []
    | .range => []
def wdS (X : List UInt8) : List Int := wdN 4 (Lib.cut X [32]).2.1 (Lib.cut X [32]).2.2
theorem wdN_ok {f : Nat} {X : List UInt8} {v : Int} (h : Lib.atoiAll (Lib.cut X [32]).1 = .ok v) : wdN (f + 1) X true = v :: wdN f (Lib.cut X [32]).2.1 (Lib.cut X [32]).2.2 := by
  simp only [wdN, h]
theorem wdN_no {f : Nat} {X : List UInt8} (h : ∀ v, Lib.atoiAll (Lib.cut X [32]).1 ≠ .ok v) : wdN (f + 1) X true = [] := by
  simp only [wdN]
  cases e : Lib.atoiAll (Lib.cut X [32]).1 with
  | ok v => exact absurd e (h v)
  | «syntax» => rfl
  | range => rfl
theorem wdN_end {f : Nat} {X : List UInt8} : wdN f X false = [] := by cases f <;> rfl
def slN : Value → Nat
  | .slice _ n _ => n
  | _ => 0
theorem int_nil (base : Nat) (W : World) : W.ownsRow base 3 1 (.slice none 0 0) 0 [] := ⟨rfl, Or.inl ⟨rfl, rfl⟩⟩
set_option maxRecDepth 100000 in
set_option maxHeartbeats 1600000 in
theorem planWords_any (s : ByteArray) (w : World) (hs : s.size ≤ 1048576) (hE : EnvP w) :
    Calls Tryd.prog 32 #[.string s] w fun e w' => ∃ v, e = .returned (.tuple #[.string ⟨(Lib.cut s.data.toList [32]).1.toArray⟩, v]) ∧ w'.ownsRow w.heap.size 3 1 v (wdS s.data.toList).length ((wdS s.data.toList).map fun z => .int .i64 z) ∧ Below w.heap.size w w' := by
  obtain ⟨j0, hj, hy0, hy1, hy2⟩ := infoIntRD
  have HJJ := hide hj; have HY0 := hide hy0; have HY1 := hide hy1; have HY2 := hide hy2
  clear hj hy0 hy1 hy2
  have HE := hide hE
  have HC0 := hide (cutP s ⟨#[32]⟩ hs w hE)
  clear hE
  go_enter Tryd.func32, Tryd.ntmps32
  go_wp2_with fail
  refine (unhide HC0).mono ?_
  rintro e w1 ⟨rfl, hb1⟩
  have hl1 := (cut_len s.data.toList [32]).2
  have HB1 := hide hb1
  have HW : Hid (wdS s.data.toList = wdN 4 (Lib.cut s.data.toList [32]).2.1 (Lib.cut s.data.toList [32]).2.2) := hide rfl
  clear HC0 hb1
  have hXl : s.data.toList.length = s.size := by rw [Array.length_toList]; rfl
  rw [hXl] at hl1
  have HL1 := hide hl1
  go_wp2_with fail
  go_loopw [5, 6, 7] (fun vr vm vn wr => ∃ (r : ByteArray) (m : Bool) (L : List Int) (n : Nat) (g : Option Addr) (cap : Nat), r.size ≤ 1048576 ∧ n ≤ 4 ∧ vr = .string r ∧ vm = .bool m ∧ vn = .slice g n cap ∧ Hid (L.length = n) ∧ Hid (wdS s.data.toList = L ++ wdN (4 - n) r.data.toList m) ∧ Hid (wr.ownsRow w.heap.size 3 1 (.slice g n cap) n (L.map fun z => .int .i64 z)) ∧ Hid (Below w.heap.size w wr)) (fun _ _ vn _ => 4 - slN vn)
  case atStart => exact ⟨_, _, [], 0, none, 0, by simpa [ByteArray.size] using Nat.le_trans (unhide HL1) hs, by omega, rfl, rfl, rfl, rfl, unhide HW, int_nil _ _, unhide HB1⟩
  case round =>
    clear HB1 HL1 HW
    obtain ⟨r, m, L, n, g, cap, hr, hn4, rfl, rfl, rfl, HL, HW, HO, HB⟩ := hrel
    cases m with
    | false =>
      have HX := hide (show wdS s.data.toList = L by rw [HW.out, wdN_end, List.append_nil])
      clear HW
      go_wp2_with fail
      refine bodyPost_ret (v := .tuple #[.string ⟨(Lib.cut s.data.toList [32]).1.toArray⟩, .slice g n cap]) (by simp [results, Tryd.results32, go_sem]) rfl ?_
      exact ⟨_, rfl, by rw [unhide HX, HL.out]; exact HO.out, HB.out⟩
    | true =>
      by_cases hn : n < 4
      · have hni : (n : Int) < 4 := by omega
        obtain ⟨d, q, m2, hc⟩ : ∃ d q m2, Lib.cut r.data.toList [32] = (d, q, m2) := ⟨_, _, _, rfl⟩
        have hcp := cutP r ⟨#[32]⟩ hr wr ((unhide HE).below HB.out)
        rw [show (⟨#[32]⟩ : ByteArray).data.toList = [32] from rfl, hc] at hcp
        dsimp only at hcp
        have hcl := cut_len r.data.toList [32]
        rw [hc, show r.data.toList.length = r.size by rw [Array.length_toList]; rfl] at hcl
        dsimp only at hcl
        have hds : (⟨d.toArray⟩ : ByteArray).size ≤ 1048576 := by have := hcl.1; show d.length ≤ _; omega
        have hqs : (⟨q.toArray⟩ : ByteArray).size ≤ 1048576 := by have := hcl.2; show q.length ≤ _; omega
        have HCP := hide hcp; have HC := hide hc
        have HA : Hid (∀ W, Below w.heap.size w W → Calls Tryd.prog 40 #[.string ⟨d.toArray⟩] W fun e w' => Below W.heap.size W w' ∧ ((∃ n, Lib.atoiAll d = .ok n ∧ e = .returned (.tuple #[.int .i64 n, .nilIface])) ∨ ((∀ n, Lib.atoiAll d ≠ .ok n) ∧ ∃ m N, e = .returned (.tuple #[.int .i64 m, .iface 100 (.pointer (some ⟨N, 0, none⟩))]))) ) := fun W hW => atoiP ⟨d.toArray⟩ hds W ((unhide HE).below hW)
        have HQS := hide hqs
        clear hcp hc hcl hds hqs
        go_wp2_with fail
        refine (unhide HCP).mono ?_
        rintro e w2 ⟨rfl, hb2⟩
        have HB2 := hide hb2; have HBW2 := hide (HB.out.trans (hb2.mono HB.out.size))
        clear hb2 HCP
        go_wp2_with fail
        refine (unhide HA w2 (unhide HBW2)).mono ?_
        rintro e w3 ⟨hb3, h3⟩
        have hbr := (unhide HB2).trans (hb3.mono (unhide HB2).size)
        have HO3 := hide (ownsR_keep HO.out (fun g e => hbr.block g (HO.out.lt g e).2))
        have HB3 := hide (HB.out.trans (hbr.mono HB.out.size))
        clear hbr hb3 HA HB2 HBW2
        rcases h3 with ⟨z, hz, rfl⟩ | ⟨hno, z, N, rfl⟩
        · have HW1 := hide (show wdS s.data.toList = (L ++ [z]) ++ wdN (4 - (n + 1)) q m2 by
            rw [HW.out, show 4 - n = 4 - (n + 1) + 1 by omega, wdN_ok (v := z) (by rw [unhide HC]; exact hz), unhide HC, List.append_assoc]; rfl)
          have hws := (unhide HB3).size
          clear hz HW HC HO
          go_wp2_with (at_builtin; (refine append_row _ rfl _ _ 45 rfl w.heap.size 3 j0 (.int .i64 0) 1 8 Tryd.underlying45 (unhide HJJ) (unhide HY0) (unhide HY1) (unhide HY2) rfl (by decide) (.slice g n cap) n (L.map fun z => .int .i64 z) rfl (World.ownsRow.alloc HO3.out _) ⟨w3.heap.size, 0, none⟩ 1 1 [.int .i64 z] rfl rfl (cell_oneR _ _ _) (fun u hu => by simp at hu; subst hu; rfl) (by decide) (by unfold maxLen; omega) (by omega) (by rw [World.size_alloc]; omega) ?_; intro v' w6 hown6 hgrow6 hat6; obtain ⟨g6, cap6, rfl, -, -⟩ := hown6.form (by omega)))
          have hrow : w6.ownsRow w.heap.size 3 1 (.slice (some ⟨g6, 0, none⟩) (n + 1) cap6) (n + 1) ((L ++ [z]).map fun z => .int .i64 z) := by
            rw [List.map_append]; exact hown6
          have hbw : Below w.heap.size w w6 := by
            have hg := hgrow6
            refine ⟨hg.os.trans HB3.out.os, hg.tape.trans HB3.out.tape, hg.output.trans HB3.out.output, by have := hg.size; rw [World.size_alloc] at this; omega, fun b hb => ?_⟩
            rw [hg.block b (by rw [World.size_alloc]; omega) (fun e => by have := (HO3.out.lt b e.symm).1; omega), Below.heap_alloc _ _ _ (by omega)]
            exact HB3.out.block b hb
          have HO6 := hide hrow; have HB6 := hide hbw
          clear hrow hbw hown6 hgrow6 hat6
          go_wp2_with fail
          go_roundw
          case rel => exact ⟨⟨q.toArray⟩, m2, L ++ [z], n + 1, _, _, unhide HQS, by omega, rfl, rfl, rfl, by rw [List.length_append, HL.out]; rfl, unhide HW1, unhide HO6, unhide HB6⟩
          case measure => simp [slN]; omega
        · have HX := hide (show wdS s.data.toList = L by rw [HW.out, show 4 - n = 4 - (n + 1) + 1 by omega, wdN_no (by rw [unhide HC]; exact hno), List.append_nil])
          clear hno HW HC HO
          go_wp2_with fail
          refine bodyPost_ret (v := .tuple #[.string ⟨(Lib.cut s.data.toList [32]).1.toArray⟩, .slice g n cap]) (by simp [results, Tryd.results32, go_sem]) rfl ?_
          exact ⟨_, rfl, by rw [unhide HX, HL.out]; exact HO3.out, HB3.out⟩
      · obtain rfl : n = 4 := by omega
        have HX := hide (show wdS s.data.toList = L by rw [HW.out]; simp [wdN])
        clear HW
        go_wp2_with fail
        refine bodyPost_ret (v := .tuple #[.string ⟨(Lib.cut s.data.toList [32]).1.toArray⟩, .slice g 4 cap]) (by simp [results, Tryd.results32, go_sem]) rfl ?_
        exact ⟨_, rfl, by rw [unhide HX, HL.out]; exact HO.out, HB.out⟩
end Go.Proofs.YtcnkkegpckibbaaDoor

/- What the program reads of a plan's text: the lines, and what each of them says; of a plan's own text it is that plan. No program, no conditions. -/

namespace Go.Proofs.YtcnkkegpckibbaaDoor
open Go Go.RowKit

theorem index_one (c : UInt8) (Y : List UInt8) : ∀ A : List UInt8, (∀ b, b ∈ A → b ≠ c) → Lib.index (A ++ c :: Y) [c] = A.length
  | [], _ => by simp [Lib.index, List.isPrefixOf]
  | a :: A, h => by
    have ih := index_one c Y A (fun b hb => h b (List.mem_cons_of_mem _ hb))
    have ha : a ≠ c := h a List.mem_cons_self
    have hb : (c == a) = false := by simpa using fun e => ha e.symm
    simp only [List.cons_append, Lib.index, List.isPrefixOf, hb, Bool.false_and, ih, List.length_cons]
    have : (((A.length : Nat) : Int) == -1) = false := by rw [beq_eq_false_iff_ne]; omega
    simp [this]
theorem index_none (c : UInt8) : ∀ A : List UInt8, (∀ b, b ∈ A → b ≠ c) → Lib.index A [c] = -1
  | [], _ => by simp [Lib.index]
  | a :: A, h => by
    have ih := index_none c A (fun b hb => h b (List.mem_cons_of_mem _ hb))
    have ha : a ≠ c := h a List.mem_cons_self
    have hb : (c == a) = false := by simpa using fun e => ha e.symm
    simp [Lib.index, List.isPrefixOf, hb, ih]
theorem cut_one {c : UInt8} {A Y : List UInt8} (h : ∀ b, b ∈ A → b ≠ c) : Lib.cut (A ++ c :: Y) [c] = (A, Y, true) := by
  unfold Lib.cut
  rw [index_one c Y A h, if_pos (by omega)]
  simp
theorem cut_none {c : UInt8} {A : List UInt8} (h : ∀ b, b ∈ A → b ≠ c) : Lib.cut A [c] = (A, [], false) := by
  unfold Lib.cut
  rw [index_none c A h, if_neg (by omega)]
theorem decFrom_ds : ∀ (ds : List UInt8) (acc : Nat), (∀ b, b ∈ ds → 48 ≤ b.toNat ∧ b.toNat ≤ 57) → ∃ m, Lib.decFrom acc ds = some m ∧ (m : Int) = valD acc ds
  | [], acc, _ => ⟨acc, rfl, rfl⟩
  | b :: ds, acc, h => by
    have hb := h b List.mem_cons_self
    have hd : Lib.digitVal b = some (b.toNat - 48) := by unfold Lib.digitVal; rw [if_pos hb]
    obtain ⟨m, h1, h2⟩ := decFrom_ds ds (acc * 10 + (b.toNat - 48)) (fun c hc => h c (List.mem_cons_of_mem _ hc))
    refine ⟨m, by simp only [Lib.decFrom, hd]; exact h1, ?_⟩
    rw [h2]
    unfold valD
    rw [List.foldl_cons]
    congr 1
    omega
theorem itoa_bytes {n : Int} (h0 : 0 ≤ n) : ∀ b, b ∈ Lib.itoa n → 48 ≤ b.toNat ∧ b.toNat ≤ 57 := by
  rw [itoa_dec h0]; exact dec_digits _
theorem itoa_ne {n : Int} (h0 : 0 ≤ n) {c : UInt8} (hc : c.toNat < 48) : ∀ b, b ∈ Lib.itoa n → b ≠ c := fun b hb e => by
  have := itoa_bytes h0 b hb
  rw [e] at this
  omega
/-- A number that is written is read. -/
theorem atoi_itoa {n : Int} (h0 : 0 ≤ n) (h1 : n ≤ 9999999) : Lib.atoiAll (Lib.itoa n) = .ok n := by
  have hl : (Lib.itoa n).length ≤ 18 := by rw [itoa_dec h0]; have := dec_len 6 n.toNat (by omega); omega
  have hd := itoa_bytes h0
  obtain ⟨m, hm, hv⟩ := decFrom_ds (Lib.itoa n) 0 hd
  have hv2 : (m : Int) = n := by rw [hv, itoa_dec h0]; show valD 0 _ = n; rw [dec_val]; omega
  rw [Lib.atoiAll_short _ hl]
  cases hx : Lib.itoa n with
  | nil =>
    rw [hx] at hv
    have : (m : Int) = 0 := hv
    have h00 : n = 0 := by omega
    subst h00
    rw [itoa_dec (by omega)] at hx
    rw [Lib.decDigits, dif_pos (by decide)] at hx
    cases hx
  | cons b r =>
    rw [hx] at hm hd
    have hb := hd b List.mem_cons_self
    have b1 : (b == 45) = false := by rw [beq_eq_false_iff_ne]; intro e; subst e; revert hb; decide
    have b2 : (b == 43) = false := by rw [beq_eq_false_iff_ne]; intro e; subst e; revert hb; decide
    simp only [Lib.atoi, b1, b2, Lib.decNat, List.isEmpty_cons, hm, Bool.false_eq_true, if_false, Option.map_some, hv2]
    rfl
/-- What a line says. -/
def lineP (p : Pl) (L : List UInt8) : Option Pl :=
  if (Lib.cut L [32]).1 = [115, 101, 97, 108] ∧ (wdS L).length = 4 ∧ p.parts.length < 40 then some ⟨p.parts ++ [⟨(wdS L).getD 0 0, (wdS L).getD 1 0, (wdS L).getD 2 0, (wdS L).getD 3 0⟩], p.op, p.fi⟩
  else if (Lib.cut L [32]).1 = [111, 112, 101, 110] ∧ (wdS L).length = 2 then some ⟨p.parts, (wdS L).getD 0 0, (wdS L).getD 1 0⟩
  else if L ≠ [101, 110, 100] ∧ L ≠ [] then none
  else some p
/-- What the lines of a text say. -/
def linesP : Nat → Pl → List UInt8 → Option Pl
  | 0, _, _ => none
  | f + 1, p, X => match lineP p (Lib.cut X [10]).1 with
    | none => none
    | some p' => if (Lib.cut X [10]).2.2 = true then linesP f p' (Lib.cut X [10]).2.1 else some p'
theorem wd4 {a b c d : Int} (ha : 0 ≤ a ∧ a ≤ 9999999) (hb : 0 ≤ b ∧ b ≤ 9999999) (hc : 0 ≤ c ∧ c ≤ 9999999) (hd : 0 ≤ d ∧ d ≤ 9999999) : (Lib.cut ([115, 101, 97, 108] ++ 32 :: (Lib.itoa a ++ 32 :: (Lib.itoa b ++ 32 :: (Lib.itoa c ++ 32 :: Lib.itoa d)))) [32]).1 = [115, 101, 97, 108] ∧ wdS ([115, 101, 97, 108] ++ 32 :: (Lib.itoa a ++ 32 :: (Lib.itoa b ++ 32 :: (Lib.itoa c ++ 32 :: Lib.itoa d)))) = [a, b, c, d] := by
  have e0 : Lib.cut ([115, 101, 97, 108] ++ 32 :: (Lib.itoa a ++ 32 :: (Lib.itoa b ++ 32 :: (Lib.itoa c ++ 32 :: Lib.itoa d)))) [32] = ([115, 101, 97, 108], Lib.itoa a ++ 32 :: (Lib.itoa b ++ 32 :: (Lib.itoa c ++ 32 :: Lib.itoa d)), true) := cut_one (by decide)
  have e1 : Lib.cut (Lib.itoa a ++ 32 :: (Lib.itoa b ++ 32 :: (Lib.itoa c ++ 32 :: Lib.itoa d))) [32] = (Lib.itoa a, Lib.itoa b ++ 32 :: (Lib.itoa c ++ 32 :: Lib.itoa d), true) := cut_one (itoa_ne ha.1 (by decide))
  have e2 : Lib.cut (Lib.itoa b ++ 32 :: (Lib.itoa c ++ 32 :: Lib.itoa d)) [32] = (Lib.itoa b, Lib.itoa c ++ 32 :: Lib.itoa d, true) := cut_one (itoa_ne hb.1 (by decide))
  have e3 : Lib.cut (Lib.itoa c ++ 32 :: Lib.itoa d) [32] = (Lib.itoa c, Lib.itoa d, true) := cut_one (itoa_ne hc.1 (by decide))
  have e4 : Lib.cut (Lib.itoa d) [32] = (Lib.itoa d, [], false) := cut_none (itoa_ne hd.1 (by decide))
  refine ⟨by rw [e0], ?_⟩
  unfold wdS
  rw [e0]
  dsimp only
  rw [wdN_ok (v := a) (by rw [e1]; exact atoi_itoa ha.1 ha.2), e1]
  dsimp only
  rw [wdN_ok (v := b) (by rw [e2]; exact atoi_itoa hb.1 hb.2), e2]
  dsimp only
  rw [wdN_ok (v := c) (by rw [e3]; exact atoi_itoa hc.1 hc.2), e3]
  dsimp only
  rw [wdN_ok (v := d) (by rw [e4]; exact atoi_itoa hd.1 hd.2), e4]
  rfl
theorem wd2 {a b : Int} (ha : 0 ≤ a ∧ a ≤ 9999999) (hb : 0 ≤ b ∧ b ≤ 9999999) : (Lib.cut ([111, 112, 101, 110] ++ 32 :: (Lib.itoa a ++ 32 :: Lib.itoa b)) [32]).1 = [111, 112, 101, 110] ∧ wdS ([111, 112, 101, 110] ++ 32 :: (Lib.itoa a ++ 32 :: Lib.itoa b)) = [a, b] := by
  have e0 : Lib.cut ([111, 112, 101, 110] ++ 32 :: (Lib.itoa a ++ 32 :: Lib.itoa b)) [32] = ([111, 112, 101, 110], Lib.itoa a ++ 32 :: Lib.itoa b, true) := cut_one (by decide)
  have e3 : Lib.cut (Lib.itoa a ++ 32 :: Lib.itoa b) [32] = (Lib.itoa a, Lib.itoa b, true) := cut_one (itoa_ne ha.1 (by decide))
  have e4 : Lib.cut (Lib.itoa b) [32] = (Lib.itoa b, [], false) := cut_none (itoa_ne hb.1 (by decide))
  refine ⟨by rw [e0], ?_⟩
  unfold wdS
  rw [e0]
  dsimp only
  rw [wdN_ok (v := a) (by rw [e3]; exact atoi_itoa ha.1 ha.2), e3]
  dsimp only
  rw [wdN_ok (v := b) (by rw [e4]; exact atoi_itoa hb.1 hb.2), e4]
  rfl
theorem linesP_more {f : Nat} {p p' : Pl} {A Y : List UInt8} (h : ∀ b, b ∈ A → b ≠ 10) (hl : lineP p A = some p') : linesP (f + 1) p (A ++ 10 :: Y) = linesP f p' Y := by
  simp only [linesP, cut_one h, hl, if_true]
def sealA (p : Pt) : List UInt8 := [115, 101, 97, 108] ++ 32 :: (Lib.itoa p.num ++ 32 :: (Lib.itoa p.first ++ 32 :: (Lib.itoa p.next ++ 32 :: Lib.itoa p.size)))
def opnA (l : Pl) : List UInt8 := [111, 112, 101, 110] ++ 32 :: (Lib.itoa l.op ++ 32 :: Lib.itoa l.fi)
theorem sealA_eq (p : Pt) : sealL p = sealA p ++ [10] := by unfold sealL sealA; simp
theorem opnA_eq (l : Pl) : opnL l = opnA l ++ [10] := by unfold opnL opnA; simp
theorem sealA_ne {p : Pt} (h : (0 ≤ p.num ∧ p.num ≤ 9999999) ∧ (0 ≤ p.first ∧ p.first ≤ 9999999) ∧ (0 ≤ p.next ∧ p.next ≤ 9999999) ∧ (0 ≤ p.size ∧ p.size ≤ 9999999)) : ∀ b, b ∈ sealA p → b ≠ 10 := fun b hb => by
  unfold sealA at hb
  simp only [List.mem_append, List.mem_cons, List.not_mem_nil, or_false] at hb
  have n1 := itoa_ne h.1.1 (c := 10) (by decide) b; have n2 := itoa_ne h.2.1.1 (c := 10) (by decide) b; have n3 := itoa_ne h.2.2.1.1 (c := 10) (by decide) b; have n4 := itoa_ne h.2.2.2.1 (c := 10) (by decide) b
  rcases hb with (rfl | rfl | rfl | rfl) | rfl | hb | rfl | hb | rfl | hb | rfl | hb
  all_goals first | decide | exact n1 hb | exact n2 hb | exact n3 hb | exact n4 hb
theorem opnA_ne {l : Pl} (h : (0 ≤ l.op ∧ l.op ≤ 9999999) ∧ (0 ≤ l.fi ∧ l.fi ≤ 9999999)) : ∀ b, b ∈ opnA l → b ≠ 10 := fun b hb => by
  unfold opnA at hb
  simp only [List.mem_append, List.mem_cons, List.not_mem_nil, or_false] at hb
  have n1 := itoa_ne h.1.1 (c := 10) (by decide) b; have n2 := itoa_ne h.2.1 (c := 10) (by decide) b
  rcases hb with (rfl | rfl | rfl | rfl) | rfl | hb | rfl | hb
  all_goals first | decide | exact n1 hb | exact n2 hb
theorem linesP_seals (Y : List UInt8) : ∀ (ps qs : List Pt) (f : Nat) (x y : Int), (∀ p, p ∈ ps → (0 ≤ p.num ∧ p.num ≤ 9999999) ∧ (0 ≤ p.first ∧ p.first ≤ 9999999) ∧ (0 ≤ p.next ∧ p.next ≤ 9999999) ∧ (0 ≤ p.size ∧ p.size ≤ 9999999)) → qs.length + ps.length ≤ 40 → linesP (f + ps.length) ⟨qs, x, y⟩ ((ps.map sealL).flatten ++ Y) = linesP f ⟨qs ++ ps, x, y⟩ Y
  | [], qs, f, x, y, _, _ => by simp
  | p :: ps, qs, f, x, y, h, hl => by
    have hp := h p List.mem_cons_self
    have hw := wd4 hp.1 hp.2.1 hp.2.2.1 hp.2.2.2
    have ih := linesP_seals Y ps (qs ++ [p]) f x y (fun q hq => h q (List.mem_cons_of_mem _ hq)) (by simp only [List.length_append, List.length_cons, List.length_nil] at hl ⊢; omega)
    rw [List.length_cons, ← Nat.add_assoc, List.map_cons, List.flatten_cons, sealA_eq, List.append_assoc, List.append_assoc]
    rw [List.singleton_append, linesP_more (p' := ⟨qs ++ [p], x, y⟩) (sealA_ne hp) ?_, ih, List.append_assoc]
    · rfl
    · unfold lineP
      have hq : qs.length < 40 := by simp only [List.length_cons] at hl; omega
      rw [show (Lib.cut (sealA p) [32]).1 = [115, 101, 97, 108] from hw.1, show wdS (sealA p) = [p.num, p.first, p.next, p.size] from hw.2, if_pos ⟨rfl, rfl, hq⟩]
      rfl
/-- Of a plan's own text it is that plan. -/
theorem linesP_plT {l : Pl} (h : plOk l) (f : Nat) : linesP (f + 3 + l.parts.length) ⟨[], 0, 0⟩ (plT l) = some l := by
  have ho := op_nn h
  have hw := wd2 ho.1 ho.2
  unfold plT plX
  rw [List.take_length, linesP_seals _ l.parts [] (f + 3) 0 0 (fun p hp => by obtain ⟨i, hi, rfl⟩ := List.getElem_of_mem hp; exact pt_nn h hi) (by have := h.1; simpa using this), List.nil_append, opnA_eq, List.append_assoc, List.singleton_append]
  rw [show f + 3 = f + 2 + 1 from rfl, linesP_more (p' := l) (opnA_ne ho) ?_]
  · show linesP (f + 1 + 1) l ([101, 110, 100] ++ 10 :: []) = some l
    rw [linesP_more (p' := l) (by decide) (by unfold lineP; rfl)]
    show linesP (f + 1) l [] = some l
    rfl
  · unfold lineP
    rw [show (Lib.cut (opnA l) [32]).1 = [111, 112, 101, 110] from hw.1, show wdS (opnA l) = [l.op, l.fi] from hw.2, if_neg (fun h => by have := h.1; revert this; decide), if_pos ⟨rfl, rfl⟩]
    rfl
end Go.Proofs.YtcnkkegpckibbaaDoor

/- Rows of bytes of a call's own, and appends onto them. No program walked, no conditions. -/

namespace Go.Proofs.YtcnkkegpckibbaaDoor
open Go Go.RowKit

/-- Bytes as cells. -/
def bc (l : List UInt8) : List Value := l.map fun b => Value.int .u8 b.toNat
theorem bc_append (a b : List UInt8) : bc (a ++ b) = bc a ++ bc b := List.map_append
theorem bc_str (s : ByteArray) : Lib.strCells s = bc s.data.toList := rfl
theorem bc_len (l : List UInt8) : (bc l).length = l.length := List.length_map _

/-- A row of bytes of the call's own. -/
def ByRow (base : Nat) (w : World) (v : Value) (l : List UInt8) : Prop := w.ownsRow base 5 1 v l.length (bc l)

theorem infoU8 : (Tryd.prog.info? 5).map (fun i => (i.zero, i.size, i.bytes)) = some (some (.int .u8 0), 1, 1) := by kernel_rfl

theorem ByRow.slice {base : Nat} {w : World} {v : Value} {l : List UInt8} (h : ByRow base w v l) : ∃ a cap, v = .slice a l.length cap := by
  rcases h.2 with ⟨hv, h0⟩ | ⟨g, cap, cur, hv, _⟩
  · exact ⟨none, 0, by rw [hv, h0]⟩
  · exact ⟨_, cap, hv⟩

theorem ByRow.str {base : Nat} {w : World} {v : Value} {l : List UInt8} (h : ByRow base w v l) : (convert 22 9 v).run Tryd.prog w = .ok (.string ⟨l.toArray⟩) w := by
  rcases h.2 with ⟨hv, h0⟩ | ⟨g, cap, cur, hv, hgb, hh, hle, hm2, hsz, htk⟩
  · have hl : l = [] := List.eq_nil_of_length_eq_zero h0
    subst hl hv
    rw [run_convert_bytes_string w 22 9 5 none 0 0 Tryd.underlying22 Tryd.underlying5 Tryd.underlying9]
    rfl
  · subst hv
    refine run_convert_bytes_back w 22 9 5 ⟨g, 0, none⟩ cap l Tryd.underlying22 Tryd.underlying5 Tryd.underlying9 (fun j hj => ?_)
    have h1 : (bc l)[j]? = some (.int .u8 (l[j].toNat : Int)) := by simp [bc, hj]
    exact h.cells (g := g) rfl j _ h1

/-- One byte that was just built as a slice. -/
theorem byte_one (w : World) (x : UInt8) (t : TypeId) : ∀ j u, (bc [x])[j]? = some u → (w.alloc (.cells #[.int .u8 x.toNat] t)).cell? ((⟨w.heap.size, 0, none⟩ : Addr).add j) = some u := cell_one w _ t

end Go.Proofs.YtcnkkegpckibbaaDoor

/- Rows of bytes of a call's own that may bear a mark behind their cells (what '[]byte(s)' lays), and appends onto them. No program walked, no conditions. -/

namespace Go.Proofs.YtcnkkegpckibbaaDoor
open Go Go.RowKit

/-- No cell of the row is frozen. -/
def NoFz (fz : Nat × Nat) (n : Nat) : Prop := ∀ j, j < n → ¬ (fz.1 ≤ j ∧ j < fz.2)
theorem NoFz.zero (n : Nat) : NoFz (0, 0) n := fun j _ h => by have := h.2; simp at this
theorem NoFz.behind (n : Nat) : NoFz (n, n + 1) n := fun j hj h => by have := h.1; simp at this; omega

theorem store_m (P : Program) (g o : Nat) (t : TypeId) (fz : Nat × Nat) (vs : List Value) : ∀ (i : Nat) (cur : Array Value) (w : World), w.heap[g]? = some (.cells cur t fz) → NoFz fz cur.size → o + i + vs.length ≤ cur.size → (∀ v ∈ vs, v.oneCell' = true) →
    (storeCells ⟨g, o, none⟩ vs i).run P w = .ok () (w.setRow g (cur.toList.take (o + i) ++ vs ++ cur.toList.drop (o + i + vs.length)).toArray) := by
  induction vs with
  | nil =>
    intro i cur w hg _ _ _
    have hs := setRow_self w g cur t fz hg
    simp only [storeCells, List.append_nil, List.length_nil, Nat.add_zero, List.take_append_drop, Array.toArray_toList, hs]
    rfl
  | cons v rest ih =>
    intro i cur w hg hz hl h1
    rw [List.length_cons] at hl
    have hi : o + i < cur.size := by omega
    have hfro : w.frozen? ⟨g, o + i, none⟩ = false := by
      have := hz (o + i) hi
      obtain ⟨lo, up⟩ := fz
      simp only [World.frozen?, hg]
      simp only at this
      rw [Bool.and_eq_false_iff]
      simp only [decide_eq_false_iff_not]
      omega
    have hcell : w.cell? ⟨g, o + i, none⟩ = some cur[o + i] := by simp [World.cell?, hg, hi]
    have hst : (store ((⟨g, o, none⟩ : Addr).add i) v).run P w = .ok () (w.setRow g (cur.setIfInBounds (o + i) v)) := by
      rw [Addr.add_lit, run_store P w _ v _ (h1 v (by simp)), hcell]
      simp [hfro, setCell_eq_setRow w g (o + i) cur t fz v hg]
    have hn := ih (i + 1) (cur.setIfInBounds (o + i) v) (w.setRow g (cur.setIfInBounds (o + i) v)) (setRow_heap w g cur _ t _ hg) (by rw [Array.size_setIfInBounds]; exact hz) (by rw [Array.size_setIfInBounds]; omega) (fun x hx => h1 x (by simp [hx]))
    have e := list_seg_step cur.toList (o + i) v rest (by simp; omega)
    simp only [storeCells, Sem.run_bind, hst, Result.andThen_ok, hn, setRow_setRow]
    congr 3
    simpa [Array.toList_setIfInBounds, Nat.add_assoc] using e

/-- A row of bytes of the call's own, with a mark or without. -/
def MRow (base : Nat) (w : World) (v : Value) (l : List UInt8) : Prop :=
  ∃ g cap cur fz, v = .slice (some ⟨g, 0, none⟩) l.length cap ∧ base ≤ g ∧ w.heap[g]? = some (.cells cur 5 fz) ∧ NoFz fz cur.size ∧ l.length ≤ cap ∧ cap ≤ maxLen ∧ cur.size = cap ∧ cur.toList.take l.length = bc l
theorem MRow.slice {base : Nat} {w : World} {v : Value} {l : List UInt8} (h : MRow base w v l) : ∃ g cap, v = .slice (some ⟨g, 0, none⟩) l.length cap ∧ base ≤ g ∧ g < w.heap.size := by
  obtain ⟨g, cap, cur, fz, h1, h2, h3, -⟩ := h
  exact ⟨g, cap, h1, h2, (Array.getElem?_eq_some_iff.1 h3).1⟩
theorem MRow.lt {base : Nat} {w : World} {v : Value} {l : List UInt8} (h : MRow base w v l) : ∀ g, v.ownBlock = some g → base ≤ g ∧ g < w.heap.size := by
  obtain ⟨g, cap, rfl, h2, h3⟩ := h.slice
  intro k e
  obtain rfl : g = k := by simpa [Value.ownBlock] using e
  exact ⟨h2, h3⟩
theorem MRow.of_block {base : Nat} {w w' : World} {v : Value} {l : List UInt8} (h : MRow base w v l) (hb : ∀ g, v.ownBlock = some g → w'.heap[g]? = w.heap[g]?) : MRow base w' v l := by
  obtain ⟨g, cap, cur, fz, h1, h2, h3, h4⟩ := h
  exact ⟨g, cap, cur, fz, h1, h2, (hb g (by rw [h1]; rfl)).trans h3, h4⟩
theorem MRow.alloc {base : Nat} {w : World} {v : Value} {l : List UInt8} (h : MRow base w v l) (o : Obj) : MRow base (w.alloc o) v l := h.of_block fun g e => heap_alloc_old w o (h.lt g e).2
theorem MRow.below {base : Nat} {w w' : World} {v : Value} {l : List UInt8} (h : MRow base w v l) (hg : w.grownBy w' v.ownBlock) (hb : base ≤ w.heap.size) : Below base w w' :=
  (Below.refl base w).grown hg hb (fun k e => (h.lt k e).1)
theorem MRow.cells {base : Nat} {w : World} {g n cap : Nat} {l : List UInt8} (h : MRow base w (.slice (some ⟨g, 0, none⟩) n cap) l) : ∀ j u, (bc l)[j]? = some u → w.cell? ((⟨g, 0, none⟩ : Addr).add j) = some u := by
  obtain ⟨g', cap', cur, fz, h1, h2, h3, -, h5, -, h7, h8⟩ := h
  simp only [Value.slice.injEq, Option.some.injEq, Addr.mk.injEq, and_true] at h1
  obtain ⟨rfl, -, rfl⟩ := h1
  intro j u hj
  rw [Addr.add_lit, Nat.zero_add]
  have hj' : j < l.length := by rw [← bc_len]; exact (List.getElem?_eq_some_iff.1 hj).1
  rw [← h8, List.getElem?_take_of_lt hj'] at hj
  simp only [World.cell?, h3]
  simpa using hj
theorem MRow.str {base : Nat} {w : World} {v : Value} {l : List UInt8} (h : MRow base w v l) : (convert 22 9 v).run Tryd.prog w = .ok (.string ⟨l.toArray⟩) w := by
  obtain ⟨g, cap, rfl, -, -⟩ := h.slice
  refine run_convert_bytes_back w 22 9 5 ⟨g, 0, none⟩ cap l Tryd.underlying22 Tryd.underlying5 Tryd.underlying9 (fun j hj => ?_)
  exact h.cells j _ (by simp [bc, hj])
/-- append onto such a row, what is appended lying behind an address. -/
theorem run_appendM (w : World) (ty : TypeId) (base : Nat) (v : Value) (l news : List UInt8) (hown : MRow base w v l) (ad : Addr) (m c : Nat) (hm : m = news.length) (hc : ∀ j u, (bc news)[j]? = some u → w.cell? (ad.add j) = some u)
    (hlen : l.length + news.length ≤ 1099511627776) (hbase : base ≤ w.heap.size) :
    ∃ v' w', (Builtin.append_ #[22, 22] ty #[v, .slice (some ad) m c]).run Tryd.prog w = .ok v' w' ∧ MRow base w' v' (l ++ news) ∧ w.grownBy w' v.ownBlock := by
  obtain ⟨i0, hi, hz0, hz1, hz2⟩ := info_parts infoU8
  obtain ⟨g, cap, cur, fz, rfl, hbg, hg, hfz, hnc, hcm, hcs, htake⟩ := hown
  subst hm
  have hl1 : (bc news).length = news.length * 1 := by rw [bc_len, Nat.mul_one]
  have h1 : ∀ u ∈ bc news, u.oneCell' = true := fun u hu => by obtain ⟨_, _, rfl⟩ := List.mem_map.1 hu; rfl
  by_cases hroom : l.length + news.length ≤ cap
  · have hf := run_firstCells_some (P := Tryd.prog) w 1 news.length ad news.length c (bc news) hl1 hc
    have hst := store_m Tryd.prog g l.length 5 fz (bc news) 0 cur w hg hfz (by rw [bc_len]; omega) h1
    simp only [Nat.add_zero] at hst
    refine ⟨.slice (some ⟨g, 0, none⟩) (l.length + news.length) cap, _, by simp [Builtin.append_, run_underlying Tryd.underlying22, sizeOf, typeInfo, hi, hz1, Builtin.lenOf, hroom, hf, Addr.add_lit, hst]; rfl, ⟨g, cap, _, fz, by rw [List.length_append], hbg, setRow_heap w g cur _ _ _ hg, ?_, by rw [List.length_append]; exact hroom, hcm, ?_, ?_⟩, ⟨rfl, rfl, rfl, by simp, fun k _ hk => setRow_other w g k _ (fun e => hk (by simp [Value.ownBlock, e]))⟩⟩
    · have : (cur.toList.take l.length ++ (bc news ++ cur.toList.drop (l.length + (bc news).length))).toArray.size = cur.size := by
        simp only [List.size_toArray, List.length_append, List.length_take, List.length_drop, Array.length_toList, bc_len]; omega
      rw [this]; exact hfz
    · simp only [List.size_toArray, List.length_append, List.length_take, List.length_drop, Array.length_toList, bc_len]; omega
    · show (cur.toList.take l.length ++ (bc news ++ cur.toList.drop (l.length + (bc news).length))).take (l ++ news).length = _
      rw [← List.append_assoc, htake, bc_append, List.take_left' (by rw [List.length_append, bc_len, bc_len, List.length_append])]
  · have hr := run_append_grow (P := Tryd.prog) w 22 ty 5 i0 (.int .u8 0) Tryd.underlying22 hi hz0 ⟨g, 0, none⟩ l.length cap (bc l) (by rw [hz1, bc_len, Nat.mul_one]) (MRow.cells ⟨g, cap, cur, fz, rfl, hbg, hg, hfz, hnc, hcm, hcs, htake⟩) ad news.length c (bc news) (by rw [hz1]; exact hl1) hc (by omega) (by omega) (growslice_fits (by omega) (by rw [hz2]; omega))
    have hge := grownCap_ge w (l.length + news.length) cap 5
    have hcm2 : grownCap w (l.length + news.length) cap 5 ≤ maxLen := grownCap_le_maxLen w _ cap _ (by unfold maxLen; omega)
    refine ⟨_, _, hr, ⟨w.heap.size, _, _, (0, 0), by rw [List.length_append], hbase, heap_alloc_new w.drew _, NoFz.zero _, by rw [List.length_append]; exact hge, hcm2, ?_, ?_⟩, ⟨rfl, rfl, rfl, by simp, fun k hk _ => heap_alloc_old w.drew _ hk⟩⟩
    · have hzz : (Value.int IntKind.u8 0).cells.size = 1 := rfl
      simp only [Array.size_append, List.size_toArray, size_zeroCells, hzz, bc_len]
      omega
    · simp only [Array.toList_append, List.append_assoc]
      rw [← List.append_assoc, ← bc_append, List.take_left' (by rw [bc_len])]

/-- The operation, for the walk. -/
theorem append_bytesM (w : World) {ops : Array Oper} {rest : List Oper} {o : Oper} {a : Act} {Q : Exit → Act → World → Prop}
    (hg : o.guard = none) (s x : Operand) (hop : o.op = Op.call { callee := Callee.builtin Builtin.append, args := #[s, x], argTypes := #[22, 22] })
    (base : Nat) (v : Value) (l news : List UInt8) (hs : a.eval s = v) (hown : MRow base w v l)
    (ad : Addr) (m c : Nat) (hx : a.eval x = .slice (some ad) m c) (hm : m = news.length) (hc : ∀ j u, (bc news)[j]? = some u → w.cell? (ad.add j) = some u)
    (hlen : l.length + news.length ≤ 1099511627776) (hbase : base ≤ w.heap.size)
    (hK : ∀ g n' cap' w', Hid (n' = (l ++ news).length) → Hid (MRow base w' (.slice (some ⟨g, 0, none⟩) n' cap') (l ++ news)) → Hid (w.grownBy w' v.ownBlock) → wpList Tryd.prog ops Q rest (a.put o.dst (.slice (some ⟨g, 0, none⟩) n' cap')) w') :
    wpList Tryd.prog ops Q (o :: rest) a w := by
  refine wpList_plain hg fun K hK' => ?_
  obtain ⟨v', w', hr, h2, h3⟩ := run_appendM w o.type base v l news hown ad m c hm hc hlen hbase
  obtain ⟨g, cap, rfl, -, -⟩ := h2.slice
  unfold Oper.wp execOp
  simp only [hop, resolve, invoke, builtin, Sem.run_bind, Sem.run_pure, Result.andThen_ok, List.map_toArray, List.map_cons, List.map_nil, hs, hx, hr]
  exact hK' _ _ (hK g _ cap w' rfl h2 h3)
end Go.Proofs.YtcnkkegpckibbaaDoor
