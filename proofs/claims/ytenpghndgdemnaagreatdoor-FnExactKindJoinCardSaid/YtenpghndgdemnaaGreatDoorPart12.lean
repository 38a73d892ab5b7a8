/- Trees that own their memory: what blocks they lie in, each named once; what marking them makes of them. Definitions and small laws, no program. No conditions. -/
import Derived.Test.YtenpghndgdemnaaGreatDoorPart01
import Derived.Test.YtenpghndgdemnaaGreatDoorRows
import Derived.Lib.ItoaNum
import Derived.Lib.ItoaLen
import Derived.Lib.ItoaMem
import Derived.Deep.RegionWith
import Derived.WalkSmall
import Derived.Test.YtenpghndgdemnaaGreatDoorPart02
namespace Go.Proofs.YtenpghndgdemnaaGreatDoor
open Go Go.RowKit

/-- All blocks that were there, but those in F, are as they were. -/
structure Exc (F : List Nat) (w w' : World) : Prop where
  os : w'.os = w.os
  tape : w'.tape = w.tape
  output : w'.output = w.output
  size : w.heap.size ≤ w'.heap.size
  block : ∀ k, k < w.heap.size → k ∉ F → w'.heap[k]? = w.heap[k]?

theorem Exc.refl (F : List Nat) (w : World) : Exc F w w := ⟨rfl, rfl, rfl, Nat.le_refl _, fun _ _ _ => rfl⟩
theorem Exc.trans {F : List Nat} {a b c : World} (h : Exc F a b) (k : Exc F b c) : Exc F a c :=
  ⟨k.os.trans h.os, k.tape.trans h.tape, k.output.trans h.output, Nat.le_trans h.size k.size, fun i hi hn => (k.block i (Nat.lt_of_lt_of_le hi h.size) hn).trans (h.block i hi hn)⟩
theorem Exc.mono {F G : List Nat} {w w' : World} (h : Exc F w w') (hs : ∀ b, b ∈ F → b ∈ G) : Exc G w w' := ⟨h.os, h.tape, h.output, h.size, fun k hk hn => h.block k hk (fun hm => hn (hs k hm))⟩
theorem Exc.of_below {F : List Nat} {w w' : World} (h : Below w.heap.size w w') : Exc F w w' := ⟨h.os, h.tape, h.output, h.size, fun k hk _ => h.block k hk⟩
theorem Exc.set {F : List Nat} (w : World) (b o : Nat) (v : Value) (hb : b ∈ F) : Exc F w (w.setCell ⟨b, o, none⟩ v) :=
  ⟨rfl, rfl, rfl, by simp [World.setCell], fun k _ hn => Below.heap_setCell _ _ _ _ (fun e => hn (by rw [e]; exact hb))⟩
/-- No cell of a block is frozen. -/
def FreeB (w : World) (b : Nat) : Prop := ∀ o, w.frozen? ⟨b, o, none⟩ = false
theorem FreeB.of_block {w w' : World} {b : Nat} (h : FreeB w b) (e : w'.heap[b]? = w.heap[b]?) : FreeB w' b := fun o => by
  rw [World.frozen?_of_block (w := w) (a := ⟨b, o, none⟩) e]; exact h o
theorem FreeB.set {w : World} {b : Nat} (h : FreeB w b) (o : Nat) (v : Value) : FreeB (w.setCell ⟨b, o, none⟩ v) b := fun o' => by
  have := h o'
  simpa [go_sem] using this

/-- A slice of strings in a block of its own. -/
def StrsOwn (w : World) (v : Value) (ss : List ByteArray) (F : List Nat) : Prop :=
  ∃ a cap, v = .slice a ss.length cap ∧ ss.length ≤ 9223372036854775807 ∧ ((ss = [] ∧ F = []) ∨ ∃ b, a = some ⟨b, 0, none⟩ ∧ F = [b] ∧ FreeB w b ∧ ∀ i, (h : i < ss.length) → w.cell? ⟨b, i, none⟩ = some (.string ss[i]) ∧ ss[i].size ≤ 9223372036854775807)


theorem StrsOwn.carry {w w' : World} {v : Value} {ss : List ByteArray} {F : List Nat} (h : StrsOwn w v ss F) (hF : ∀ b, b ∈ F → w'.heap[b]? = w.heap[b]?) : StrsOwn w' v ss F := by
  obtain ⟨a, cap, h1, h2, h3⟩ := h
  refine ⟨a, cap, h1, h2, ?_⟩
  rcases h3 with h | ⟨b, e, hf, hfr, hc⟩
  · exact Or.inl h
  · have hb := hF b (by rw [hf]; simp)
    exact Or.inr ⟨b, e, hf, hfr.of_block hb, fun i hi => ⟨by rw [World.cell?_of_block (w := w) hb]; exact (hc i hi).1, (hc i hi).2⟩⟩


theorem StrsOwn.at {w : World} {v : Value} {ss : List ByteArray} {F : List Nat} (h : StrsOwn w v ss F) : StrsAt (· ∈ F) w v ss := by
  obtain ⟨a, cap, h1, h2, h3⟩ := h
  refine ⟨a, cap, h1, h2, fun i hi => ?_⟩
  rcases h3 with ⟨rfl, _⟩ | ⟨b, e, hf, hfr, hc⟩
  · simp at hi
  · exact ⟨b, 0, e, by rw [hf]; simp, by rw [Nat.zero_add]; exact (hc i hi).1, (hc i hi).2⟩


/-- The text of a mark: 'm' and the number. -/
def mtl (k : Nat) (o : ByteArray) : ByteArray := if _h : k = 0 then o else mtl (k / 10) (ByteArray.mk #[UInt8.ofNat (48 + k % 10)] ++ o)
termination_by k
decreasing_by omega
def mtx (k : Nat) : ByteArray := ByteArray.mk #[109] ++ mtl k ByteArray.empty

theorem mtl_size (k : Nat) (o : ByteArray) : (mtl k o).size ≤ o.size + k := by
  induction k using Nat.strongRecOn generalizing o with
  | _ k ih =>
    rw [mtl]
    split
    · omega
    · have := ih (k / 10) (by omega) (ByteArray.mk #[UInt8.ofNat (48 + k % 10)] ++ o)
      rw [ByteArray.size_append] at this
      have e : (ByteArray.mk #[UInt8.ofNat (48 + k % 10)]).size = 1 := rfl
      omega
theorem mtx_size (k : Nat) : (mtx k).size ≤ k + 1 := by
  have := mtl_size k ByteArray.empty
  rw [mtx, ByteArray.size_append]
  have e : (ByteArray.mk #[109]).size = 1 := rfl
  have e2 : ByteArray.empty.size = 0 := rfl
  omega

/-- What marking makes of strings. -/
def mS (k : Nat) : List ByteArray → List ByteArray
  | [] => []
  | _ :: r => mtx k :: mS (k + 1) r
theorem mS_len (k : Nat) (l : List ByteArray) : (mS k l).length = l.length := by
  induction l generalizing k with
  | nil => rfl
  | cons a r ih => simp [mS, ih]
theorem mS_get (k : Nat) (l : List ByteArray) (i : Nat) (h : i < (mS k l).length) : (mS k l)[i] = mtx (k + i) := by
  induction l generalizing k i with
  | nil => simp [mS] at h
  | cons a r ih =>
    cases i with
    | zero => rfl
    | succ i =>
      simp only [mS, List.getElem_cons_succ]
      rw [ih]; congr 1; omega

mutual
/-- How many marks a kid takes. -/
def cT : Tr → Nat
  | .mk _ _ _ ns ks => 3 + ns.length + cK ks
def cK : List Tr → Nat
  | [] => 0
  | t :: r => cT t + cK r
end
end Go.Proofs.YtenpghndgdemnaaGreatDoor

/- Digits as bytes and strings; small laws. No program walked, no conditions. -/

namespace Go.Proofs.YtenpghndgdemnaaGreatDoor
open Go Go.RowKit

/-- A digit's byte. -/
def dg (m : Int) : UInt8 := UInt8.ofNat (48 + m.toNat)
theorem dg_nat {m : Int} (h0 : 0 ≤ m) (h1 : m < 10) : ((dg m).toNat : Int) = 48 + m := by unfold dg; rw [UInt8.toNat_ofNat']; omega
/-- One byte, as a string. -/
theorem conv_one (W : World) (b cap : Nat) (m : Int) (h0 : 0 ≤ m) (h1 : m < 10) (hc : W.cell? ⟨b, 0, none⟩ = some (.int .u8 (48 + m))) :
    Sem.run Tryz.prog (convert 22 9 (.slice (some ⟨b, 0, none⟩) 1 cap)) W = .ok (.string ⟨#[dg m]⟩) W := by
  have := run_convert_bytes_back (P := Tryz.prog) W 22 9 5 ⟨b, 0, none⟩ cap [dg m] Tryz.underlying22 Tryz.underlying5 Tryz.underlying9 (fun j hj => by
    have hj0 : j = 0 := by simpa using hj
    subst hj0
    rw [Addr.add_lit, hc]
    simp only [List.getElem_cons_zero]
    rw [dg_nat h0 h1])
  simpa using this

theorem rem10 {n : Int} (h0 : 0 ≤ n) : IntKind.i64.wrap (48 + n.tmod 10) = 48 + n % 10 := by
  rw [IntKind.wrap_i64, Int.tmod_eq_emod_of_nonneg h0]; omega
theorem rem10b (n : Int) : IntKind.u8.wrap (48 + n % 10) = 48 + n % 10 := by
  rw [IntKind.wrap_u8]; omega

end Go.Proofs.YtenpghndgdemnaaGreatDoor

/- The walks of markText and markStringS: the text of a mark; strings that own their memory are marked in place, and nothing else turns. For marks up to 2^40. -/

namespace Go.Proofs.YtenpghndgdemnaaGreatDoor
open Go Go.RowKit

theorem mtl_step {j : Nat} (h : j ≠ 0) (o : ByteArray) : mtl j o = mtl (j / 10) (⟨#[dg ((j : Int) % 10)]⟩ ++ o) := by
  conv => lhs; rw [mtl]
  rw [dif_neg h]
  have : dg ((j : Int) % 10) = UInt8.ofNat (48 + j % 10) := by unfold dg; rw [show ((j : Int) % 10).toNat = j % 10 from by omega]
  rw [this]
theorem mtl_zero (o : ByteArray) : mtl 0 o = o := by rw [mtl]; simp

theorem quo10' {n : Int} (h0 : 0 ≤ n) (h1 : n ≤ 1099511627776) : IntKind.i64.wrap (n.tdiv 10) = n / 10 := by
  rw [IntKind.wrap_i64, Int.tdiv_eq_ediv_of_nonneg h0]; omega

set_option maxHeartbeats 400000 in
theorem markText_any (k : Nat) (w : World) (hk0 : 0 < k) (hk : k ≤ 1099511627776) :
    Calls Tryz.prog 67 #[.int .i64 k] w fun e w' => e = .returned (.string (mtx k)) ∧ Below w.heap.size w w' := by
  go_enter Tryz.func67, Tryz.ntmps67
  go_wp2_with fail
  go_loopw [0, 3] (fun kk os wr => ∃ (j : Nat) (o : ByteArray), kk = .int .i64 j ∧ os = .string o ∧ Hid (mtl j o = mtl k ByteArray.empty) ∧ o.size + j ≤ k ∧ Below w.heap.size w wr) (fun kk _ _ => (intOf kk).toNat)
  case atStart => exact ⟨k, ByteArray.empty, rfl, rfl, hide rfl, by simp, Below.refl _ _⟩
  case round =>
    obtain ⟨j, o, rfl, rfl, HM, hsz, hb⟩ := hrel
    by_cases hj : j = 0
    · subst hj
      have hm := HM.out
      rw [mtl_zero] at hm
      have HM2 := hide hm
      have e1 : (ByteArray.mk #[109]).size = 1 := rfl
      have e2 : o.size ≤ 1099511627776 := by omega
      clear hm HM hsz
      go_wp2_with fail
      go_ret
      have hm := HM2.out
      subst hm
      exact ⟨rfl, hb⟩
    · have hconv := fun W b cap => conv_one W b cap ((j : Int) % 10) (by omega) (by omega)
      have hq1 := quo10' (n := j) (by omega) (by omega)
      have hq2 := rem10 (n := j) (by omega)
      have hq3 := rem10b j
      have hm := HM.out
      rw [mtl_step hj] at hm
      have HM2 := hide hm
      have e1 : (ByteArray.mk #[dg ((j : Int) % 10)]).size = 1 := rfl
      clear hm HM
      go_wp2_with fail
      go_roundw
      case rel =>
        refine ⟨j / 10, _, by simp, rfl, HM2, ?_, hb.alloc hb.size _⟩
        rw [ByteArray.size_append, e1]; omega
      case measure => simp [intOf]; omega

/-- What the loop of markStringS has marked after k rounds. -/
def MrkS (w : World) (b : Nat) (ss : List ByteArray) (k0 k : Nat) : Prop :=
  FreeB w b ∧ ∀ i, (h : i < ss.length) → w.cell? ⟨b, i, none⟩ = some (.string (if i < k then mtx (k0 + i) else ss[i])) ∧ ss[i].size ≤ 9223372036854775807

theorem MrkS.step {w : World} {b : Nat} {ss : List ByteArray} {k0 k : Nat} (h : MrkS w b ss k0 k) (hk : k < ss.length) : MrkS (w.setCell ⟨b, k, none⟩ (.string (mtx (k0 + k)))) b ss k0 (k + 1) := by
  refine ⟨h.1.set _ _, fun i hi => ⟨?_, (h.2 i hi).2⟩⟩
  by_cases e : i = k
  · subst e
    have := (h.2 i hi).1
    rw [if_pos (by omega)]
    simp [go_sem, this]
  · have := (h.2 i hi).1
    rw [show (if i < k + 1 then mtx (k0 + i) else ss[i]) = (if i < k then mtx (k0 + i) else ss[i]) from by
      by_cases e2 : i < k
      · rw [if_pos e2, if_pos (by omega)]
      · rw [if_neg e2, if_neg (by omega)]]
    rw [← this]
    simp [go_sem]
theorem MrkS.of_block {w w' : World} {b : Nat} {ss : List ByteArray} {k0 k : Nat} (h : MrkS w b ss k0 k) (e : w'.heap[b]? = w.heap[b]?) : MrkS w' b ss k0 k :=
  ⟨h.1.of_block e, fun i hi => ⟨by rw [World.cell?_of_block (w := w) (a := ⟨b, i, none⟩) e]; exact (h.2 i hi).1, (h.2 i hi).2⟩⟩

set_option maxHeartbeats 400000 in
theorem markStringS_any (v : Value) (ss : List ByteArray) (F : List Nat) (k : Nat) (w : World) (hv : StrsOwn w v ss F) (hk0 : 0 < k) (hk : k + ss.length ≤ 1099511627776) :
    Calls Tryz.prog 36 #[v, .int .i64 k] w fun e w' => e = .returned (.int .i64 (k + ss.length : Nat)) ∧ StrsOwn w' v (mS k ss) F ∧ Exc F w w' := by
  obtain ⟨a, cap, rfl, hlen, hc⟩ := hv
  rcases hc with ⟨rfl, rfl⟩ | ⟨b, rfl, rfl, hfr, hc⟩
  · simp only [List.length_nil] at *
    go_enter Tryz.func36, Tryz.ntmps36
    go_wp2_with fail
    go_loopw [1, 5] (fun kk i wr => kk = .int .i64 k ∧ i = .int .i64 0 ∧ wr = w) (fun _ _ _ => 0)
    case atStart => exact ⟨rfl, rfl, rfl⟩
    case round =>
      obtain ⟨rfl, rfl, rfl⟩ := hrel
      go_wp2_with fail
      go_ret
      exact ⟨by simp, ⟨a, cap, by simp [mS], by simp [mS], Or.inl ⟨rfl, rfl⟩⟩, Exc.refl _ _⟩
  · have hM : MrkS w b ss k 0 := ⟨hfr, fun i hi => ⟨by rw [if_neg (by omega)]; exact (hc i hi).1, (hc i hi).2⟩⟩
    have HM := hide hM
    clear hM hfr hc
    go_enter Tryz.func36, Tryz.ntmps36
    go_wp2_with fail
    go_loopw [1, 5] (fun kk i wr => ∃ (j : Nat), j ≤ ss.length ∧ kk = .int .i64 (k + j : Nat) ∧ i = .int .i64 j ∧ Hid (MrkS wr b ss k j) ∧ Exc [b] w wr) (fun _ i _ => ss.length - (intOf i).toNat)
    case atStart => exact ⟨0, Nat.zero_le _, rfl, rfl, HM, Exc.refl _ _⟩
    case round =>
      obtain ⟨j, hj, rfl, rfl, HMj, hex⟩ := hrel
      by_cases hlt : j < ss.length
      · have hblt : b < wr.heap.size := World.block_lt_of_cell? wr _ (HMj.out.2 j hlt).1
        go_wp2_with fail
        refine (markText_any (k + j) wr (by omega) (by omega)).mono ?_
        rintro e w' ⟨rfl, hb'⟩
        have hMj := HMj.out.of_block (hb'.block b hblt)
        have HMj' := hide hMj
        have z0 := hMj.1 j
        have y0 := (hMj.2 j hlt).1
        rw [if_neg (by omega)] at y0
        clear hMj
        go_wp2_with fail
        go_roundw
        case rel =>
          refine ⟨j + 1, by omega, by go_num, by go_num, hide (HMj'.out.step hlt), ?_⟩
          exact (hex.trans (Exc.of_below hb')).trans (Exc.set _ _ _ _ (by simp))
        case measure => simp [intOf]; omega
      · go_wp2_with fail
        go_ret
        obtain rfl : j = ss.length := by omega
        refine ⟨rfl, ⟨some ⟨b, 0, none⟩, cap, by rw [mS_len], by rw [mS_len]; exact hlen, Or.inr ⟨b, rfl, rfl, HMj.out.1, fun i hi => ?_⟩⟩, hex⟩
        have hi' : i < ss.length := by rw [mS_len] at hi; exact hi
        have := (HMj.out.2 i hi').1
        rw [if_pos hi'] at this
        rw [mS_get]
        exact ⟨this, by have := mtx_size (k + i); omega⟩
end Go.Proofs.YtenpghndgdemnaaGreatDoor

/- The shape of a schema in memory: of what kind its cells are, whatever they hold; worlds whose cells are of the same kinds. Definitions and small laws, no program. No conditions. -/

namespace Go.Proofs.YtenpghndgdemnaaGreatDoor
open Go Go.RowKit

/-- Two values of one kind: numbers, strings, flags, or the same. -/
def alike (v v' : Value) : Prop := (∃ n m, v = .int .i64 n ∧ v' = .int .i64 m) ∨ (∃ s s', v = .string s ∧ v' = .string s') ∨ v' = v ∨ (∃ x y, v = .bool x ∧ v' = .bool y)
theorem alike.refl (v : Value) : alike v v := Or.inr (Or.inr (Or.inl rfl))
theorem alike.slice {a : Option Addr} {n cap : Nat} {v : Value} (h : alike (.slice a n cap) v) : v = .slice a n cap := by
  rcases h with ⟨_, _, e, _⟩ | ⟨_, _, e, _⟩ | h | ⟨_, _, e, _⟩
  · cases e
  · cases e
  · exact h
  · cases e
theorem alike.int {n : Int} {v : Value} (h : alike (.int .i64 n) v) : ∃ m, v = .int .i64 m := by
  rcases h with ⟨_, m, _, e⟩ | ⟨_, _, e, _⟩ | h | ⟨_, _, e, _⟩
  · exact ⟨m, e⟩
  · cases e
  · exact ⟨n, h⟩
  · cases e
theorem alike.str {s : ByteArray} {v : Value} (h : alike (.string s) v) : ∃ s', v = .string s' := by
  rcases h with ⟨_, m, e, _⟩ | ⟨_, s', _, e⟩ | h | ⟨_, _, e, _⟩
  · cases e
  · exact ⟨s', e⟩
  · exact ⟨s, h⟩
  · cases e
theorem alike.bool {x : Bool} {v : Value} (h : alike (.bool x) v) : ∃ y, v = .bool y := by
  rcases h with ⟨_, m, e, _⟩ | ⟨_, s', e, _⟩ | h | ⟨_, y, _, e⟩
  · cases e
  · cases e
  · exact ⟨x, h⟩
  · exact ⟨y, e⟩
theorem alike.trans {a b c : Value} (h : alike a b) (k : alike b c) : alike a c := by
  rcases h with ⟨n, m, rfl, rfl⟩ | ⟨s, s', rfl, rfl⟩ | rfl | ⟨x, y, rfl, rfl⟩
  · obtain ⟨m', rfl⟩ := k.int; exact Or.inl ⟨n, m', rfl, rfl⟩
  · obtain ⟨m', rfl⟩ := k.str; exact Or.inr (Or.inl ⟨s, m', rfl, rfl⟩)
  · exact k
  · obtain ⟨m', rfl⟩ := k.bool; exact Or.inr (Or.inr (Or.inr ⟨x, m', rfl, rfl⟩))

/-- Blocks that are not of D are as they were; cells are of the kinds of which they were; nothing has become frozen. -/
structure Like (D : Nat → Prop) (w w' : World) : Prop where
  os : w'.os = w.os
  tape : w'.tape = w.tape
  output : w'.output = w.output
  size : w.heap.size ≤ w'.heap.size
  block : ∀ k, k < w.heap.size → ¬ D k → w'.heap[k]? = w.heap[k]?
  cell : ∀ b o v, w.cell? ⟨b, o, none⟩ = some v → ∃ v', w'.cell? ⟨b, o, none⟩ = some v' ∧ alike v v'
  free : ∀ b, b < w.heap.size → FreeB w b → FreeB w' b

theorem Like.refl (D : Nat → Prop) (w : World) : Like D w w := ⟨rfl, rfl, rfl, Nat.le_refl _, fun _ _ _ => rfl, fun _ _ v h => ⟨v, h, alike.refl v⟩, fun _ _ h => h⟩
theorem Like.trans {D : Nat → Prop} {a b c : World} (h : Like D a b) (k : Like D b c) : Like D a c :=
  ⟨k.os.trans h.os, k.tape.trans h.tape, k.output.trans h.output, Nat.le_trans h.size k.size, fun i hi hn => (k.block i (Nat.lt_of_lt_of_le hi h.size) hn).trans (h.block i hi hn),
    fun p o v hv => by
      obtain ⟨v1, h1, l1⟩ := h.cell p o v hv
      obtain ⟨v2, h2, l2⟩ := k.cell p o v1 h1
      exact ⟨v2, h2, l1.trans l2⟩, fun p hp hf => k.free p (Nat.lt_of_lt_of_le hp h.size) (h.free p hp hf)⟩
theorem Like.of_below {D : Nat → Prop} {w w' : World} (h : Below w.heap.size w w') : Like D w w' :=
  ⟨h.os, h.tape, h.output, h.size, fun k hk _ => h.block k hk, fun b o v hv => ⟨v, by rw [h.cell (World.block_lt_of_cell? w _ hv)]; exact hv, alike.refl v⟩, fun b hb hf => hf.of_block (h.block b hb)⟩
theorem Like.set {D : Nat → Prop} {w : World} {b o : Nat} {v u : Value} (hb : D b) (hc : w.cell? ⟨b, o, none⟩ = some u) (hl : alike u v) : Like D w (w.setCell ⟨b, o, none⟩ v) :=
  ⟨rfl, rfl, rfl, by simp [World.setCell], fun k _ hn => Below.heap_setCell _ _ _ _ (fun e => hn (by rw [e]; exact hb)), fun b' o' v' hv' => by
    by_cases e : b' = b ∧ o' = o
    · obtain ⟨rfl, rfl⟩ := e
      rw [hc] at hv'
      cases hv'
      exact ⟨v, World.cell?_setCell_same w _ v hc, hl⟩
    · refine ⟨v', ?_, alike.refl v'⟩
      rw [World.cell?_setCell_other w _ _ v (by intro e2; cases e2; exact e ⟨rfl, rfl⟩)]; exact hv', fun b' _ hf o' => by
    have := hf o'
    rw [World.frozen?_setCell]; exact this⟩

/-- A slice of so many strings, in blocks of D of which nothing is frozen. -/
def SShp (D : Nat → Prop) (w : World) (v : Value) (n : Nat) : Prop :=
  ∃ a cap, v = .slice a n cap ∧ n ≤ 9223372036854775807 ∧ ∀ i, i < n → ∃ b o s, a = some ⟨b, o, none⟩ ∧ D b ∧ FreeB w b ∧ w.cell? ⟨b, o + i, none⟩ = some (.string s)

theorem SShp.like {D : Nat → Prop} {w w' : World} {v : Value} {n : Nat} (h : SShp D w v n) (hl : Like D w w') : SShp D w' v n := by
  obtain ⟨a, cap, h1, h2, h3⟩ := h
  refine ⟨a, cap, h1, h2, fun i hi => ?_⟩
  obtain ⟨b, o, s, e, hd, hf, hc⟩ := h3 i hi
  obtain ⟨v', hv', hlk⟩ := hl.cell _ _ _ hc
  obtain ⟨s', rfl⟩ := hlk.str
  exact ⟨b, o, s', e, hd, hl.free b (World.block_lt_of_cell? w _ hc) hf, hv'⟩

mutual
/-- Three cells are of a schema's shape. -/
def KShp (D : Nat → Prop) (w : World) : Kd → C3 → Prop
  | .mk _ ns ks, c => (∃ n, c.c0 = .int .i64 n) ∧ SShp D w c.c1 ns.length ∧
    ∃ a cap, c.c2 = .slice a ks.length cap ∧ ks.length ≤ 9223372036854775807 ∧ (ks ≠ [] → ∃ b o, a = some ⟨b, o, none⟩ ∧ D b ∧ FreeB w b ∧ KShpK D w b o ks)
def KShpK (D : Nat → Prop) (w : World) (b : Nat) (o : Nat) : List Kd → Prop
  | [] => True
  | t :: r => (∃ c, C3.at w b o c ∧ KShp D w t c) ∧ KShpK D w b (o + 3) r
end

mutual
theorem KShp.like {D : Nat → Prop} {w w' : World} (hl : Like D w w') : ∀ (t : Kd) (c c' : C3), alike c.c0 c'.c0 → alike c.c1 c'.c1 → alike c.c2 c'.c2 → KShp D w t c → KShp D w' t c'
  | .mk s ns ks, c, c' => by
    intro l0 l1 l2 h
    rw [KShp] at h ⊢
    obtain ⟨⟨n, h0⟩, h1, a, cap, h2, h3, h4⟩ := h
    rw [h0] at l0
    rw [h2] at l2
    have e1 : c'.c1 = c.c1 := by obtain ⟨a1, cap1, e, -⟩ := h1; rw [e] at l1 ⊢; exact l1.slice
    refine ⟨l0.int, by rw [e1]; exact h1.like hl, a, cap, l2.slice, h3, fun hk => ?_⟩
    obtain ⟨b, o, e, hd, hf, hr⟩ := h4 hk
    obtain ⟨k0, kr, hkk⟩ : ∃ k0 kr, ks = k0 :: kr := by
      cases ks with
      | nil => exact absurd rfl hk
      | cons x y => exact ⟨x, y, rfl⟩
    have hb : b < w.heap.size := by
      rw [hkk, KShpK] at hr
      obtain ⟨⟨c0, hat, -⟩, -⟩ := hr
      exact World.block_lt_of_cell? w _ hat.1
    exact ⟨b, o, e, hd, hl.free b hb hf, KShpK.like hl b o ks hr⟩
theorem KShpK.like {D : Nat → Prop} {w w' : World} (hl : Like D w w') (b : Nat) (o : Nat) : ∀ (ks : List Kd), KShpK D w b o ks → KShpK D w' b o ks
  | [] => by intro _; rw [KShpK]; trivial
  | t :: r => by
    intro h
    rw [KShpK] at h ⊢
    obtain ⟨⟨c, h1, h2⟩, h3⟩ := h
    obtain ⟨v0, g0, l0⟩ := hl.cell _ _ _ h1.1
    obtain ⟨v1, g1, l1⟩ := hl.cell _ _ _ h1.2.1
    obtain ⟨v2, g2, l2⟩ := hl.cell _ _ _ h1.2.2
    exact ⟨⟨⟨v0, v1, v2⟩, ⟨g0, g1, g2⟩, KShp.like hl t c ⟨v0, v1, v2⟩ l0 l1 l2 h2⟩, KShpK.like hl b (o + 3) r h3⟩
end

mutual
theorem KRep.shp {P D : Nat → Prop} {w : World} (hD : ∀ b, P b → D b ∧ FreeB w b) : ∀ (t : Kd) (c : C3), KRep P w t c → KShp D w t c
  | .mk s ns ks, c => by
    intro h
    rw [KRep] at h
    rw [KShp]
    obtain ⟨h0, -, ⟨a1, cap1, h1, h2, h3⟩, a, cap, h4, h5, h6⟩ := h
    refine ⟨⟨s, h0⟩, ⟨a1, cap1, h1, h2, fun i hi => ?_⟩, a, cap, h4, h5, fun hk => ?_⟩
    · obtain ⟨b, o, e, hp, hc, -⟩ := h3 i hi
      exact ⟨b, o, _, e, (hD b hp).1, (hD b hp).2, hc⟩
    · obtain ⟨b, o, e, hp, hr⟩ := h6 hk
      exact ⟨b, o, e, (hD b hp).1, (hD b hp).2, KRepK.shp hD b o ks hr⟩
theorem KRepK.shp {P D : Nat → Prop} {w : World} (hD : ∀ b, P b → D b ∧ FreeB w b) (b : Nat) (o : Nat) : ∀ (ks : List Kd), KRepK P w b o ks → KShpK D w b o ks
  | [] => by intro _; rw [KShpK]; trivial
  | t :: r => by
    intro h
    rw [KRepK] at h
    rw [KShpK]
    obtain ⟨⟨c, h1, h2⟩, h3⟩ := h
    exact ⟨⟨c, h1, KRep.shp hD t c h2⟩, KRepK.shp hD b (o + 3) r h3⟩
end

theorem KShpK.get {D : Nat → Prop} {w : World} {b o : Nat} {ks : List Kd} (h : KShpK D w b o ks) (i : Nat) (hi : i < ks.length) :
    ∃ c, C3.at w b (o + i * 3) c ∧ KShp D w ks[i] c := by
  induction ks generalizing o i with
  | nil => simp at hi
  | cons t r ih =>
    rw [KShpK] at h
    cases i with
    | zero => exact h.1
    | succ i =>
      obtain ⟨c, h1, h2⟩ := ih h.2 i (by simpa using hi)
      exact ⟨c, by rw [show o + (i + 1) * 3 = o + 3 + i * 3 from by omega]; exact h1, h2⟩

theorem KShp.open {D : Nat → Prop} {w : World} {t : Kd} {c : C3} (h : KShp D w t c) : (∃ n, c.c0 = .int .i64 n) ∧ SShp D w c.c1 t.names.length ∧
    ∃ a cap, c.c2 = .slice a t.kids.length cap ∧ t.kids.length ≤ 9223372036854775807 ∧ (t.kids ≠ [] → ∃ b o, a = some ⟨b, o, none⟩ ∧ D b ∧ FreeB w b ∧ KShpK D w b o t.kids) := by
  obtain ⟨s, ns, ks⟩ := t
  rw [KShp] at h
  exact h

mutual
/-- How many marks a kid takes. -/
def kcT : Kd → Nat
  | .mk _ ns ks => 1 + ns.length + kcK ks
def kcK : List Kd → Nat
  | [] => 0
  | t :: r => kcT t + kcK r
end
theorem kcT_eq (t : Kd) : kcT t = 1 + t.names.length + kcK t.kids := by obtain ⟨s, ns, ks⟩ := t; rw [kcT]; rfl
theorem kcK_take (l : List Kd) (i : Nat) (h : i < l.length) : kcK (l.take (i + 1)) = kcK (l.take i) + kcT l[i] := by
  induction l generalizing i with
  | nil => simp at h
  | cons a r ih =>
    cases i with
    | zero => simp [kcK]
    | succ i => simp only [List.take_succ_cons, kcK, List.getElem_cons_succ]; rw [ih i (by simpa using h)]; omega
theorem kcK_take_le (l : List Kd) (i : Nat) : kcK (l.take i) ≤ kcK l := by
  induction l generalizing i with
  | nil => simp [kcK]
  | cons a r ih =>
    cases i with
    | zero => simp [kcK]
    | succ i => simp only [List.take_succ_cons, kcK]; have := ih i; omega
theorem klsz_kid {t : Kd} {l : List Kd} (h : t ∈ l) : klsz t.kids < klsz l := by
  induction l with
  | nil => cases h
  | cons a r ih =>
    rw [klsz]
    rcases List.mem_cons.1 h with rfl | h
    · obtain ⟨s, ns, ks⟩ := t
      rw [ksz]; show klsz ks < _; omega
    · have := ih h; omega
end Go.Proofs.YtenpghndgdemnaaGreatDoor

/- The walk of markStringS over a shape: it ends, and turns cells of the shape's own blocks alone, each into one of its kind. The marks count to at most 2^40. -/

namespace Go.Proofs.YtenpghndgdemnaaGreatDoor
open Go Go.RowKit

set_option maxHeartbeats 400000 in
theorem markStringS_shp (D : Nat → Prop) (v : Value) (n : Nat) (k : Nat) (w : World) (hv : SShp D w v n) (hk0 : 0 < k) (hk : k + n ≤ 1099511627776) :
    Calls Tryz.prog 36 #[v, .int .i64 k] w fun e w' => e = .returned (.int .i64 (k + n : Nat)) ∧ Like D w w' := by
  have HV := hide hv
  obtain ⟨a, cap, rfl, hlen, -⟩ := hv
  go_enter Tryz.func36, Tryz.ntmps36
  go_wp2_with fail
  go_loopw [1, 5] (fun kk i wr => ∃ (j : Nat), j ≤ n ∧ kk = .int .i64 (k + j : Nat) ∧ i = .int .i64 j ∧ Hid (Like D w wr)) (fun _ i _ => n - (intOf i).toNat)
  case atStart => exact ⟨0, Nat.zero_le _, rfl, rfl, Like.refl _ _⟩
  case round =>
    obtain ⟨j, hj, rfl, rfl, HL⟩ := hrel
    by_cases hlt : j < n
    · have hs := (unhide HV).like HL.out
      obtain ⟨a', cap', e, -, hc⟩ := hs
      cases e
      obtain ⟨b, o, s, rfl, hd, hf, hcell⟩ := hc j hlt
      have hblt : b < wr.heap.size := World.block_lt_of_cell? wr _ hcell
      have HC := hide hcell; have HF := hide hf; have HD := hide hd
      clear hcell hf hd hc
      go_wp2_with fail
      refine (markText_any (k + j) wr (by omega) (by omega)).mono ?_
      rintro e w' ⟨rfl, hb'⟩
      have y0 : w'.cell? ⟨b, o + j, none⟩ = some (.string s) := by rw [hb'.cell hblt]; exact unhide HC
      have z0 := ((unhide HF).of_block (hb'.block b hblt)) (o + j)
      have HB := hide hb'; clear hb'
      go_wp2_with fail
      go_roundw
      case rel =>
        refine ⟨j + 1, by omega, by go_num, by go_num, ?_⟩
        exact (HL.out.trans (Like.of_below (unhide HB))).trans (Like.set (unhide HD) y0 (Or.inr (Or.inl ⟨_, _, rfl, rfl⟩)))
      case measure => simp [intOf]; omega
    · go_wp2_with fail
      go_ret
      obtain rfl : j = n := by omega
      exact ⟨rfl, HL.out⟩

end Go.Proofs.YtenpghndgdemnaaGreatDoor

/- The walks of markStringS and markKindS, markKind over a shape: they end, and turn cells of the shape's own blocks alone, each into one of its kind. The marks count to at most 2^40. -/

namespace Go.Proofs.YtenpghndgdemnaaGreatDoor
open Go Go.RowKit

def MkKSaid (n : Nat) : Prop := ∀ (ks : List Kd), klsz ks < n → ∀ (D : Nat → Prop) (a : Option Addr) (cap : Nat) (k : Nat) (w : World), ks.length ≤ 9223372036854775807 → (ks ≠ [] → ∃ b o, a = some ⟨b, o, none⟩ ∧ D b ∧ FreeB w b ∧ KShpK D w b o ks) → 0 < k → k + kcK ks ≤ 1099511627776 →
    Calls Tryz.prog 37 #[.slice a ks.length cap, .int .i64 k] w fun e w' => e = .returned (.int .i64 (k + kcK ks : Nat)) ∧ Like D w w'

set_option maxHeartbeats 800000 in
theorem markKindS_step (n : Nat) (IH : MkKSaid n) : MkKSaid (n + 1) := by
  intro ks hn D a cap k w hlen hks hk0 hk
  have HKS := hide hks; have HI := hide IH
  clear hks IH
  go_enter Tryz.func37, Tryz.ntmps37
  go_wp2_with fail
  go_loopw [1, 5] (fun kk i wr => ∃ (j m : Nat), j ≤ ks.length ∧ kk = .int .i64 m ∧ i = .int .i64 j ∧ 0 < m ∧ m ≤ 1099511627776 ∧ Hid (m = k + kcK (ks.take j)) ∧ Hid (Like D w wr)) (fun _ i _ => ks.length - (intOf i).toNat)
  case atStart => exact ⟨0, k, Nat.zero_le _, rfl, rfl, hk0, by omega, by simp [Hid, kcK], Like.refl _ _⟩
  case round =>
    obtain ⟨j, m, hj, rfl, rfl, hm0, hm1, HM, HL⟩ := hrel
    by_cases hlt : j < ks.length
    · have hne : ks ≠ [] := by intro e; rw [e] at hlt; simp at hlt
      obtain ⟨b, o, rfl, hd, hf, hr⟩ := unhide HKS hne
      have hr0 := hr.get j hlt
      have hblt0 : b < w.heap.size := by obtain ⟨c, hat, -⟩ := hr0; exact World.block_lt_of_cell? w _ hat.1
      have hr1 := (KShpK.like HL.out b o ks hr).get j hlt
      obtain ⟨⟨c0, c1, c2⟩, ⟨e0, e1, e2⟩, hshp⟩ := hr1
      have hfb := HL.out.free b hblt0 hf
      obtain ⟨⟨n0, g0⟩, hs1, a2, cap2, g2, hl2, hk2⟩ := hshp.open
      have hs1' := hs1
      obtain ⟨a1, cap1, g1, -, -⟩ := hs1'
      simp only at e0 e1 e2 g0 g1 g2
      subst g0 g1 g2
      have z0 := hfb (o + j * 3)
      have hbw : b < wr.heap.size := World.block_lt_of_cell? wr _ e0
      have hst := kcK_take ks j hlt
      have hle := kcK_take_le ks (j + 1)
      have hct := kcT_eq ks[j]
      have hbig : m + 1 + ks[j].names.length + kcK ks[j].kids ≤ 1099511627776 := by have := HM.out; omega
      have hsm : klsz ks[j].kids < n := by have := klsz_kid (List.getElem_mem hlt); omega
      have HSHP := hide hshp; have HD := hide hd; have HFB := hide hfb; have HS1 := hide hs1; have HST := hide hst; have HCT := hide hct
      clear hshp hd hf hfb hs1 hst hle hct hr hr0 hne hk2
      go_wp2_with fail
      have hlk0 : Like D wr (wr.setCell ⟨b, o + j * 3, none⟩ (.int .i64 m)) := Like.set (unhide HD) e0 (Or.inl ⟨_, _, rfl, rfl⟩)
      have hc1 := markStringS_shp D (.slice a1 ks[j].names.length cap1) ks[j].names.length (m + 1) (wr.setCell ⟨b, o + j * 3, none⟩ (.int .i64 m)) ((unhide HS1).like hlk0) (by omega) (by omega)
      rw [show ((m + 1 : Nat) : Int) = (m : Int) + 1 from rfl] at hc1
      refine hc1.mono ?_
      rintro e w2 ⟨rfl, hlk1⟩
      have hlk := hlk0.trans hlk1
      obtain ⟨v2, k2, l2⟩ := hlk.cell _ _ _ e2
      have e2' := l2.slice
      subst e2'
      have hshp2 := KShp.like hlk ks[j] _ ⟨.int .i64 n0, .slice a1 ks[j].names.length cap1, .slice a2 ks[j].kids.length cap2⟩ (alike.refl _) (alike.refl _) (alike.refl _) (unhide HSHP)
      obtain ⟨-, -, a2', cap2', g2, -, hk2⟩ := hshp2.open
      simp only [Value.slice.injEq] at g2
      obtain ⟨rfl, -, rfl⟩ := g2
      have hc2 := unhide HI ks[j].kids hsm D a2 cap2 (m + 1 + ks[j].names.length) w2 hl2 hk2 (by omega) (by omega)
      have HC2 := hide hc2; have HLK := hide (HL.out.trans hlk)
      clear hc1 hc2 hlk hlk0 hlk1 hshp2 hk2 l2 e0 e1 e2 z0
      go_wp2_with fail
      refine (unhide HC2).mono ?_
      rintro e w3 ⟨rfl, hlk3⟩
      have HLK3 := hide ((unhide HLK).trans hlk3)
      clear hlk3
      go_wp2_with fail
      go_roundw
      case rel => exact ⟨j + 1, m + 1 + ks[j].names.length + kcK ks[j].kids, by omega, rfl, by go_num, by omega, by omega, by have := HM.out; have := unhide HST; have := unhide HCT; show _ = _; omega, unhide HLK3⟩
      case measure => simp [intOf]; omega
    · go_wp2_with fail
      go_ret
      obtain rfl : j = ks.length := by omega
      have hm := HM.out
      rw [List.take_length] at hm
      subst hm
      exact ⟨rfl, HL.out⟩

theorem markKindS_all : ∀ n, MkKSaid n
  | 0 => fun t h => by omega
  | n + 1 => markKindS_step n (markKindS_all n)

set_option maxHeartbeats 400000 in
theorem markKind_shp (D : Nat → Prop) (t : Kd) (c : C3) (k : Nat) (w : World) (h : KShp D w t c) (hk0 : 0 < k) (hk : k + t.names.length + kcK t.kids ≤ 1099511627776) :
    Calls Tryz.prog 15 #[.agg #[c.c0, c.c1, c.c2], .int .i64 k] w fun e w' => e = .returned (.int .i64 (k + t.names.length + kcK t.kids : Nat)) ∧ Like D w w' := by
  obtain ⟨c0, c1, c2⟩ := c
  have HSHP := hide h
  obtain ⟨⟨n0, g0⟩, hs1, a2, cap2, g2, hl2, -⟩ := h.open
  have HS1 := hide hs1
  obtain ⟨a1, cap1, g1, -, -⟩ := hs1
  simp only at g0 g1 g2
  subst g0 g1 g2
  have hbx : ∀ o, Below w.heap.size w (w.alloc o) := fun o => (Below.refl _ _).alloc (Nat.le_refl _) o
  clear h
  go_enter Tryz.func15, Tryz.ntmps15
  go_wp2_with fail
  have hlk0 : Like D w (w.alloc (.cells #[.int .i64 n0, .slice a1 t.names.length cap1, .slice a2 t.kids.length cap2] 26)) := Like.of_below (hbx _)
  have hrow := row3_alloc w (.int .i64 n0) (.slice a1 t.names.length cap1) (.slice a2 t.kids.length cap2) 26
  refine (markStringS_shp D (.slice a1 t.names.length cap1) t.names.length k _ ((unhide HS1).like hlk0) hk0 (by omega)).mono ?_
  rintro e w2 ⟨rfl, hlk1⟩
  have hlk := hlk0.trans hlk1
  obtain ⟨v2, k2, l2⟩ := hlk1.cell w.heap.size 2 _ (hrow.cell (i := 2) (by omega))
  simp only [row3] at l2
  have e2' := l2.slice
  subst e2'
  have hshp2 := KShp.like hlk t _ ⟨.int .i64 n0, .slice a1 t.names.length cap1, .slice a2 t.kids.length cap2⟩ (alike.refl _) (alike.refl _) (alike.refl _) (unhide HSHP)
  obtain ⟨-, -, a2', cap2', g2, -, hk2⟩ := hshp2.open
  simp only [Value.slice.injEq] at g2
  obtain ⟨rfl, -, rfl⟩ := g2
  have hc2 := markKindS_all (klsz t.kids + 1) t.kids (by omega) D a2 cap2 (k + t.names.length) w2 hl2 hk2 (by omega) (by omega)
  have HC2 := hide hc2; have HLK := hide hlk
  clear hc2 hlk hlk0 hlk1 hshp2 hk2 l2 hrow
  go_wp2_with fail
  refine (unhide HC2).mono ?_
  rintro e w3 ⟨rfl, hlk3⟩
  have HLK3 := hide ((unhide HLK).trans hlk3)
  clear hlk3
  go_wp2_with fail
  go_ret
  exact ⟨rfl, unhide HLK3⟩

end Go.Proofs.YtenpghndgdemnaaGreatDoor

/- The first tree of a schema, as plain data; trees gathered in a row of the call's own. Definitions and small laws; no program walked, no conditions. -/

namespace Go.Proofs.YtenpghndgdemnaaGreatDoor
open Go Go.RowKit

theorem freeOfHeap {w : World} {g : Nat} {cur : Array Value} {e : TypeId} (h : w.heap[g]? = some (.cells cur e (0, 0))) : FreeB w g := fun o => by simp [World.frozen?, h]

/-- A row of strings of the call's own. -/
theorem strsOwn_of_row {base : Nat} {w : World} {v : Value} {ss : List ByteArray} (h : w.ownsRow base 9 1 v ss.length (ss.map Value.string)) (hs : ∀ x, x ∈ ss → x.size ≤ 9223372036854775807) :
    ∃ F, StrsOwn w v ss F ∧ F.Nodup ∧ (∀ b, b ∈ F → base ≤ b ∧ b < w.heap.size) ∧ ∀ b, b ∈ F → v.ownBlock = some b := by
  rcases h.2 with ⟨hv, hn0⟩ | ⟨g, cap, cur, hv, hgb, hh, hle, hm2, hsz, htk⟩
  · have hss : ss = [] := List.eq_nil_of_length_eq_zero hn0
    subst hss
    exact ⟨[], ⟨none, 0, hv, by simp, Or.inl ⟨rfl, rfl⟩⟩, List.nodup_nil, fun b hb => by simp at hb, fun b hb => by simp at hb⟩
  · refine ⟨[g], ⟨some ⟨g, 0, none⟩, cap, hv, by unfold maxLen at hm2; omega, Or.inr ⟨g, rfl, rfl, freeOfHeap hh, fun i hi => ⟨?_, hs _ (List.getElem_mem hi)⟩⟩⟩, by simp, fun b hb => ?_, fun b hb => by simp at hb; subst hb; rw [hv]; rfl⟩
    · have h1 : (ss.map Value.string)[i]? = some (.string ss[i]) := by simp [hi]
      rw [← htk, List.getElem?_take_of_lt (by omega)] at h1
      simp only [World.cell?, hh]
      simpa using h1
    · simp at hb; subst hb
      exact ⟨hgb, (Array.getElem?_eq_some_iff.1 hh).1⟩

end Go.Proofs.YtenpghndgdemnaaGreatDoor
