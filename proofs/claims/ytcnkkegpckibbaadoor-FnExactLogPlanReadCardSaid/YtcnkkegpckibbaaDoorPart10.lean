/- The walk of the program's LogPlanOk. No conditions. -/
import Derived.Test.YtcnkkegpckibbaaDoorPart09
import Derived.RangeFuncFrom
import Derived.Test.YtcnkkegpckibbaaDoorPart00
import Derived.Test.YtcnkkegpckibbaaDoorPart04
import Derived.Deep.CutRange
import Derived.Deep.Onto
namespace Go.Proofs.YtcnkkegpckibbaaDoor
open Go Go.RowKit

set_option maxRecDepth 100000 in
set_option maxHeartbeats 6400000 in
theorem implLogPlanOk_any (l : Pl) (P : Nat → Prop) (v : Value) (w : World) (hP : ∀ b, P b → b < w.heap.size) (hv : PtsAt P w v l.parts) :
    Calls Tryd.prog 9 #[.agg #[v, .int .i64 l.op, .int .i64 l.fi]] w fun e w' => RetOk e (plOk l) ∧ Below w.heap.size w w' := by
  have hbx : ∀ o, Below w.heap.size w (w.alloc o) := fun o => (Below.refl _ _).alloc (Nat.le_refl _) o
  have HNU := hide (fun (h40 : l.parts.length ≤ 40) o => numbersOk_any l P v (w.alloc o) (fun b hb => Nat.lt_of_lt_of_le (hP b hb) (hbx o).size) (hv.carry (fun b hb => (hbx o).block b (hP b hb)) (fun _ h => h)) h40)
  obtain ⟨a, cap, rfl, hlen, hc⟩ := hv.open
  have HC := hide hc; have HP := hide hP
  have HIN := hide (fun z lo hi W => frInP z lo hi W)
  have hrow := row3_alloc w (.slice a l.parts.length cap) (.int .i64 l.op) (.int .i64 l.fi) 25
  have HROW := hide hrow; have HBX := hide hbx
  clear hv hc hP hrow hbx
  go_enter Tryd.func9, Tryd.ntmps9
  by_cases h40 : l.parts.length ≤ 40
  case neg =>
    have HF := hide (show ¬ plOk l from fun h => h40 h.1)
    go_wp2_with fail
    go_ret
    exact ⟨RetOk.no (unhide HF), unhide HBX _⟩
  have HNU2 := hide (unhide HNU h40)
  clear HNU
  go_wp2_with fail
  refine (unhide HNU2 _).mono ?_
  rintro e w1 ⟨⟨r, rfl, hr⟩, hb1⟩
  have q1 := (unhide HROW).of_block (hb1.block w.heap.size (by simp))
  have HB1 := hide ((unhide HBX _).trans (hb1.mono (unhide HBX _).size)); have Q1 := hide q1
  have k0 := q1.cell (i := 0) (by omega)
  simp only [row3] at k0
  clear hb1 q1 HNU2
  cases r with
  | false =>
    have HF := hide (show ¬ plOk l from fun h => by have := hr.2 h.2.1; cases this)
    clear hr
    go_wp2_with fail
    go_ret
    exact ⟨RetOk.no (unhide HF), unhide HB1⟩
  | true =>
  have HNO := hide (hr.1 rfl)
  clear hr
  go_wp2_with fail
  clear k0
  go_loopw [3, 18] (fun nn i wr => ∃ (k : Nat) (N : Int), k ≤ l.parts.length ∧ i = .int .i64 k ∧ nn = .int .i64 N ∧ Hid (N = nx l.parts k) ∧ Hid (∀ i, (h : i < l.parts.length) → i < k → ptOk l.parts[i] (nx l.parts i)) ∧ Hid (wr.rowIs w.heap.size 25 3 (row3 (.slice a l.parts.length cap) (.int .i64 l.op) (.int .i64 l.fi))) ∧ Hid (Below w.heap.size w wr)) (fun _ i _ => l.parts.length - (intOf i).toNat)
  case atStart => exact ⟨0, 1, Nat.zero_le _, rfl, rfl, rfl, fun i _ h => by omega, Q1, HB1⟩
  case round =>
    clear Q1 HB1
    obtain ⟨k, N, hk, rfl, rfl, HNX, HS, HR, HB⟩ := hrel
    have q := HR.out
    have k2 := q.cell (i := 2) (by omega)
    simp only [row3] at k2
    by_cases hlt : k < l.parts.length
    · obtain ⟨b, o, rfl, hpb, hcell⟩ := unhide HC k hlt
      obtain ⟨e0, e1, e2, e3⟩ := hcell.carry (HB.out.block b (unhide HP b hpb))
      have HX := hide (show ptOk l.parts[k] (nx l.parts k) ↔ ptOk l.parts[k] N by rw [HNX.out])
      have HNS := hide (show l.parts[k].next = nx l.parts (k + 1) from (nx_succ hlt).symm)
      have HF := hide (show ¬ ptOk l.parts[k] (nx l.parts k) → ¬ plOk l from fun h hp => h (hp.2.2.1 k hlt))
      have HSK := hide (fun (h : ptOk l.parts[k] (nx l.parts k)) => (show ∀ i, (h : i < l.parts.length) → i < k + 1 → ptOk l.parts[i] (nx l.parts i) from fun i hi hik => by
        by_cases e : i = k
        · subst e; exact h
        · exact HS.out i hi (by omega)))
      clear hcell
      generalize l.parts[k] = x at *
      have HBR := hide (fun o => (show Below wr.heap.size wr (wr.alloc o) from (Below.refl _ _).alloc (Nat.le_refl _) o))
      have HP4 := hide (p4_alloc wr x 32)
      clear q k2
      by_cases h3 : x.first = N
      case neg =>
        have HF2 := hide (unhide HF (fun h => h3 ((unhide HX).1 h).1))
        go_wp2_with fail
        go_ret
        exact ⟨RetOk.no (unhide HF2), HB.out.trans ((unhide HBR _).mono HB.out.size)⟩
      subst h3
      go_wp2_with fail
      refine (unhide HIN _ _ _ _).mono ?_
      rintro e w2 ⟨rfl, hb2⟩
      have hb02 := HB.out.trans (((unhide HBR _).trans (hb2.mono (unhide HBR _).size)).mono HB.out.size)
      have q2 := ((HR.out).alloc _).of_block (hb2.block w.heap.size (by rw [World.size_alloc]; have := HR.out.lt; omega))
      obtain ⟨f0, f1, f2, f3⟩ := (unhide HP4).carry (hb2.block wr.heap.size (by simp))
      simp only [Nat.zero_add] at f0 f1 f2 f3
      have hlt2 : w.heap.size < w2.heap.size := q2.lt
      have HB2 := hide hb02; have Q2 := hide q2
      clear hb2 hb02 q2 e0 e1 e2 e3
      by_cases h4 : x.first ≤ x.next ∧ x.next ≤ 1000000
      case neg =>
        have HF2 := hide (unhide HF (fun h => h4 ⟨((unhide HX).1 h).2.1, ((unhide HX).1 h).2.2.1⟩))
        rw [decide_eq_false h4]
        clear h4
        go_wp2_with fail
        go_ret
        exact ⟨RetOk.no (unhide HF2), unhide HB2⟩
      rw [decide_eq_true h4]
      have H4 := hide h4
      clear h4
      go_wp2_with fail
      refine (unhide HIN _ _ _ _).mono ?_
      rintro e w3 ⟨rfl, hb3⟩
      have hb03 := (unhide HB2).trans (hb3.mono (unhide HB2).size)
      have q3 := (unhide Q2).of_block (hb3.block w.heap.size hlt2)
      have hltb : wr.heap.size < w2.heap.size := World.block_lt_of_cell? w2 _ f0
      have g2 := (hb3.cell (p := ⟨wr.heap.size, 2, none⟩) hltb).trans f2
      have HB3 := hide hb03; have Q3 := hide q3
      clear hb3 hb03 q3 HB2 Q2 f0 f1 f2 f3 hltb hlt2
      by_cases h6 : 0 ≤ x.size ∧ x.size ≤ 20000
      case neg =>
        have HF2 := hide (unhide HF (fun h => h6 ⟨((unhide HX).1 h).2.2.2.1, ((unhide HX).1 h).2.2.2.2⟩))
        rw [decide_eq_false h6]
        clear h6
        go_wp2_with fail
        go_ret
        exact ⟨RetOk.no (unhide HF2), unhide HB3⟩
      rw [decide_eq_true h6]
      have HSS := hide (unhide HSK ((unhide HX).2 ⟨rfl, (unhide H4).1, (unhide H4).2, h6.1, h6.2⟩))
      clear h6
      go_wp2_with fail
      go_roundw
      case rel => exact ⟨k + 1, x.next, by omega, by go_num, rfl, unhide HNS, unhide HSS, Q3, HB3⟩
      case measure => simp [intOf]; omega
    · have HFI := hide (show plOk l ↔ l.fi = N from by
        have hkk : k = l.parts.length := by omega
        subst hkk
        rw [HNX.out]
        exact ⟨fun h => h.2.2.2, fun h => ⟨h40, unhide HNO, fun i hi => HS.out i hi hi, h⟩⟩)
      go_wp2_with fail
      go_ret
      exact ⟨RetOk.of (unhide HFI), HB.out⟩
end Go.Proofs.YtcnkkegpckibbaaDoor

/- The walk of the program's LogPlanWrite: the text of a plan that is ok, else nothing. The table of powers is as strconv's text lays it. -/

namespace Go.Proofs.YtcnkkegpckibbaaDoor
open Go Go.RowKit Go.Shelf

attribute [local go_sem] Oper.semAt_some

/-- append of a string's bytes, inside a fence. -/
theorem appendIn_string {F : Fence} {n : Nat} (w : World) {ops : Array Oper} {rest : List Oper} {o : Oper} {a : Act} {Q : Exit → Act → World → Prop}
    (hg : o.guard = none) (s x : Operand) (hop : o.op = Op.call { callee := Callee.builtin Builtin.append, args := #[s, x], argTypes := #[22, 9] })
    (base : Nat) (v : Value) (l : List UInt8) (tx : ByteArray) (hs : a.eval s = v) (hown : ByRow base w v l) (hx : a.eval x = .string tx)
    (hlen : l.length + tx.size ≤ 1099511627776) (hbase : base ≤ w.heap.size)
    (hK : ∀ a' n' cap' w', Hid (n' = (l ++ tx.data.toList).length) → Hid (ByRow base w' (.slice a' n' cap') (l ++ tx.data.toList)) → Hid (w.grownBy w' v.ownBlock) → wpListIn F n Tryd.prog ops Q rest (a.put o.dst (.slice a' n' cap')) w') :
    wpListIn F n Tryd.prog ops Q (o :: rest) a w := by
  obtain ⟨i0, hi, hz0, hz1, hz2⟩ := info_parts infoU8
  have hsz : tx.data.toList.length = tx.size := by simp
  refine wpListIn_plain hg fun K hK' => ?_
  obtain ⟨v', w', hr, r1, r2, -⟩ := Lib.run_append_own_string (P := Tryd.prog) w base 22 9 o.type 5 i0 Tryd.underlying22 Tryd.underlying9 hi hz0 hz1 hz2 v l.length (bc l) hown tx (by unfold maxLen; omega) (by omega) hbase
  have hrow : ByRow base w' v' (l ++ tx.data.toList) := by
    show w'.ownsRow base 5 1 v' (l ++ tx.data.toList).length (bc (l ++ tx.data.toList))
    rw [bc_append, List.length_append, hsz, ← bc_str]; exact r1
  obtain ⟨a', cap', rfl⟩ := hrow.slice
  unfold Oper.wpIn
  refine ⟨?_, ?_⟩
  · simp [Oper.about, hop, resolve, Target.leads, Sem.run_pure]
  · rw [Oper.semAt_plain F _ _ (by rw [hop]; intro c hc'; cases hc')]
    simp only [execOp, hop, resolve, invoke, builtin, Sem.run_bind, Sem.run_pure, Result.andThen_ok, List.map_toArray, List.map_cons, List.map_nil, hs, hx, hr]
    exact hK' _ _ (hK a' _ cap' w' rfl hrow r2)

def catL (pre : List LX) : List UInt8 := (pre.map lKey).flatten
theorem catL_snoc (pre : List LX) (x : LX) : catL (pre ++ [x]) = catL pre ++ x.1.data.toList := by
  unfold catL; rw [List.map_append, List.flatten_append]; simp [lKey]
theorem catL_len : ∀ pre : List LX, (catL pre).length ≤ 200 * pre.length
  | [] => by simp [catL]
  | x :: r => by
    have ih := catL_len r
    have hx : x.1.data.toList.length ≤ 200 := by have := x.2; simpa using this
    have : catL (x :: r) = x.1.data.toList ++ catL r := by simp [catL, lKey]
    rw [this, List.length_append, List.length_cons]
    omega

/-- A round's append and store. -/
theorem round_ends {W w1 : World} {M B : Nat} {v v' : Value} {l l' : List UInt8} (hv : Boxed W B 22 v) (hrow : ByRow M W v l) (hown' : ByRow M w1 v' l') (hg : W.grownBy w1 v.ownBlock) (hM : M ≤ W.heap.size) :
    Boxed w1 B 22 v ∧ Boxed (w1.setCell ⟨B, 0, none⟩ v') B 22 v' ∧ ByRow M (w1.setCell ⟨B, 0, none⟩ v') v' l' ∧ KeepsOthers W (w1.setCell ⟨B, 0, none⟩ v') ∧ KpL M B W (w1.setCell ⟨B, 0, none⟩ v') ∧ (∀ n0, n0 ≤ B → n0 ≤ M → Below n0 W (w1.setCell ⟨B, 0, none⟩ v')) := by
  have hte : 22 ≠ 5 := by decide
  have hv1 : Boxed w1 B 22 v := hv.kept hg (hv.not_row hte hrow)
  refine ⟨hv1, hv1.set v', hown'.kept (grownBy_setCell' w1 B v') (.inr (hv1.not_row hte hown').symm), ?_, ⟨?_, fun k h1 h2 => ?_⟩, fun n0 h1 h2 => ?_⟩
  · refine (KeepsOthers.of_grownBy hg fun j o ej hj => ?_).trans (KeepsOthers.setCell _ _ _)
    rcases hrow.2 with ⟨rfl, _⟩ | ⟨g, cap, cur, rfl, _, hgb, _⟩
    · simp [Value.ownBlock] at ej
    · obtain rfl : g = j := by simpa [Value.ownBlock] using ej
      rw [hgb] at hj; cases hj; rfl
  · show W.heap.size ≤ (w1.setCell _ _).heap.size
    have := hg.size
    simp [World.setCell]; omega
  · refine (Below.heap_setCell _ _ _ _ (fun e => h2 ?_)).trans (hg.block k (by omega) (fun e => ?_))
    · first | exact e | exact e.symm
    · have := (hrow.lt k e.symm).1; omega
  · exact ((Below.refl n0 W).grown hg (by omega) (fun k e => by have := (hrow.lt k e).1; omega)).setCell (p := ⟨B, 0, none⟩) h1 v'
end Go.Proofs.YtcnkkegpckibbaaDoor

/- Disks that own their memory: definitions and small laws, no program. No conditions. -/

namespace Go.Proofs.YtcnkkegpckibbaaDoor
open Go Go.RowKit

/-- Rows of n cells each, in a block of their own. -/
def FlatOwn (w : World) (v : Value) (n : Nat) (rs : List (List Value)) (F : List Nat) : Prop :=
  ∃ a cap, v = .slice a rs.length cap ∧ rs.length ≤ 9223372036854775807 ∧ ((rs = [] ∧ F = []) ∨ ∃ b, a = some ⟨b, 0, none⟩ ∧ F = [b] ∧ FreeB w b ∧ ∀ i, (h : i < rs.length) → ∀ j, j < n → w.cell? ⟨b, i * n + j, none⟩ = some (rs[i].getD j undef))
theorem FlatOwn.carry {w w' : World} {v : Value} {n : Nat} {rs : List (List Value)} {F : List Nat} (h : FlatOwn w v n rs F) (hF : ∀ b, b ∈ F → w'.heap[b]? = w.heap[b]?) : FlatOwn w' v n rs F := by
  obtain ⟨a, cap, h1, h2, h3⟩ := h
  refine ⟨a, cap, h1, h2, ?_⟩
  rcases h3 with h | ⟨b, e, rfl, hf, hc⟩
  · exact Or.inl h
  · have hb := hF b (by simp)
    exact Or.inr ⟨b, e, rfl, hf.of_block hb, fun i hi j hj => by rw [World.cell?_of_block (w := w) hb]; exact hc i hi j hj⟩
theorem FlatOwn.at {w : World} {v : Value} {n : Nat} {rs : List (List Value)} {F : List Nat} (h : FlatOwn w v n rs F) : FlatAt (· ∈ F) w v n rs := by
  obtain ⟨a, cap, h1, h2, h3⟩ := h
  refine ⟨a, cap, h1, h2, fun i hi => ?_⟩
  rcases h3 with ⟨rfl, -⟩ | ⟨b, e, rfl, hf, hc⟩
  · simp at hi
  · exact ⟨b, 0, e, by simp, fun j hj => by rw [Nat.zero_add]; exact hc i hi j hj⟩
theorem FlatOwn.nil (w : World) (n : Nat) : FlatOwn w (.slice none 0 0) n [] [] := ⟨none, 0, rfl, by simp, Or.inl ⟨rfl, rfl⟩⟩
theorem flat_get {n : Nat} : ∀ (rs : List (List Value)), (∀ r, r ∈ rs → r.length = n) → ∀ (i : Nat) (hi : i < rs.length) (j : Nat), j < n → rs.flatten[i * n + j]? = some (rs[i].getD j undef)
  | r :: rest, hn, 0, _, j, hj => by
    have hr : r.length = n := hn r List.mem_cons_self
    rw [List.flatten_cons, Nat.zero_mul, Nat.zero_add, List.getElem?_append_left (by omega), List.getElem?_eq_getElem (by omega)]
    simp [hr, hj]
  | r :: rest, hn, i + 1, hi, j, hj => by
    have hr : r.length = n := hn r List.mem_cons_self
    rw [List.flatten_cons, List.getElem?_append_right (by rw [hr, Nat.add_mul]; omega), hr, show (i + 1) * n + j - n = i * n + j by rw [Nat.add_mul]; omega, flat_get rest (fun x hx => hn x (List.mem_cons_of_mem _ hx)) i (by simpa using hi) j hj]
    rfl
/-- A row of the call's own is such. -/
theorem FlatOwn.of_row {base : Nat} {w : World} {v : Value} {e : TypeId} {n : Nat} {rs : List (List Value)} (h : w.ownsRow base e n v rs.length rs.flatten) (hn : ∀ r, r ∈ rs → r.length = n) :
    ∃ F, FlatOwn w v n rs F ∧ (∀ b, b ∈ F → v.ownBlock = some b) ∧ (∀ b, b ∈ F → base ≤ b ∧ b < w.heap.size) ∧ F.Nodup := by
  rcases h.2 with ⟨hv, h0⟩ | ⟨g, cap, cur, hv, hb, hh, hle, hm, hsz, htk⟩
  · have : rs = [] := List.eq_nil_of_length_eq_zero h0
    subst this
    exact ⟨[], ⟨none, 0, hv, by simp, Or.inl ⟨rfl, rfl⟩⟩, fun b hb => (by cases hb), fun b hb => (by cases hb), List.nodup_nil⟩
  · refine ⟨[g], ⟨some ⟨g, 0, none⟩, cap, hv, by unfold maxLen at hm; omega, Or.inr ⟨g, rfl, rfl, freeOfHeap hh, fun i hi j hj => ?_⟩⟩, fun b hb => ?_, fun b hb => ?_, by simp⟩
    · have h1 := flat_get rs hn i hi j hj
      have hlt : i * n + j < rs.length * n := by
        have : (i + 1) * n ≤ rs.length * n := Nat.mul_le_mul_right n hi
        rw [Nat.add_mul] at this; omega
      rw [← htk, List.getElem?_take_of_lt hlt] at h1
      simp only [World.cell?, hh]
      simpa using h1
    · simp at hb; subst hb; rw [hv]; rfl
    · simp at hb; subst hb
      exact ⟨by assumption, (Array.getElem?_eq_some_iff.1 hh).1⟩

end Go.Proofs.YtcnkkegpckibbaaDoor

/- Records as plain data, how they lie in memory, and what stands in a row of bytes. No program, no conditions. -/

namespace Go.Proofs.YtcnkkegpckibbaaDoor
open Go Go.RowKit

structure Rc where
  (pos : Int) (data : ByteArray)
instance : Inhabited Rc := ⟨⟨0, ByteArray.empty⟩⟩
/-- A byte of a row. -/
def byB (s : ByteArray) (i : Nat) : Int := ((s.data.toList.getD i 0).toNat : Int)
def szB (s : ByteArray) (i : Nat) : Int := byB s i * 256 + byB s (i + 1)
def psB (s : ByteArray) (i : Nat) : Int := byB s (i + 2) * 65536 + byB s (i + 3) * 256 + byB s (i + 4)
/-- Whether a whole record stands at a place. -/
def whB (s : ByteArray) (i : Nat) : Prop := i + 5 ≤ s.size ∧ szB s i ≤ 2000 ∧ (1 ≤ psB s i ∧ psB s i ≤ 999999) ∧ (i : Int) + 5 + szB s i ≤ s.size
instance (s : ByteArray) (i : Nat) : Decidable (whB s i) := by unfold whB; infer_instance
end Go.Proofs.YtcnkkegpckibbaaDoor

/- Pieces of rows of bytes. No program, no conditions. -/

namespace Go.Proofs.YtcnkkegpckibbaaDoor
open Go Go.RowKit

theorem ba_inj {a b : ByteArray} (h : a.data.toList = b.data.toList) : a = b := by
  apply ByteArray.ext
  exact Array.toList_inj.1 h
theorem ext_list (s : ByteArray) (a b : Nat) : (s.extract a b).data.toList = (s.data.toList.drop a).take (b - a) := by
  rw [ByteArray.data_extract, Array.toList_extract]
end Go.Proofs.YtcnkkegpckibbaaDoor

/- The walk of the specification's LogPlanRead: it gives the plan whose text it is, if there is one. Conditions: the text is bounded. -/

namespace Go.Proofs.YtcnkkegpckibbaaDoor
open Go Go.RowKit

/-- The plan whose text it is. -/
def RdIs (X : List UInt8) : Option Pl → Prop
  | some l => plOk l ∧ plT l = X
  | none => ∀ l, plOk l → plT l ≠ X
/-- A plan that was read is given back. -/
def RdEnd (w w' : World) (e : Ending) (X : List UInt8) : Prop :=
  (∃ l v, RdIs X (some l) ∧ e = .returned (.tuple #[.agg #[v, .int .i64 l.op, .int .i64 l.fi], .bool true]) ∧ (∃ F, FlatOwn w' v 4 (l.parts.map Pt.cs) F ∧ ∀ b, b ∈ F → w.heap.size ≤ b ∧ b < w'.heap.size) ∧ Below w.heap.size w w') ∨
  (RdIs X none ∧ e = .returned (.tuple #[.agg #[.slice none 0 0, .int .i64 0, .int .i64 0], .bool false]) ∧ Below w.heap.size w w')
theorem lstR_loop (s : ByteArray) (n : Nat) : ∀ (i : Nat) (r : List UInt8), s.size - i = n → ByteArray.toList.loop s i r = r.reverse ++ s.data.toList.drop i := by
  induction n with
  | zero =>
    intro i r h
    unfold ByteArray.toList.loop
    rw [if_neg (by omega), List.drop_eq_nil_of_le (by simp only [Array.length_toList]; show s.size ≤ i; omega), List.append_nil]
  | succ n ih =>
    intro i r h
    unfold ByteArray.toList.loop
    have hi : i < s.size := by omega
    have e : s.get! i = s.data.toList[i]'(by simpa using hi) := by
      obtain ⟨d⟩ := s
      exact getElem!_pos d i hi
    have hdrop : s.data.toList.drop i = s.data.toList[i]'(by simpa using hi) :: s.data.toList.drop (i + 1) := List.drop_eq_getElem_cons (by simpa using hi)
    rw [if_pos hi, ih (i + 1) _ (by omega), hdrop, e, List.reverse_cons, List.append_assoc]
    rfl
theorem lstR_data (s : ByteArray) : s.toList = s.data.toList := by
  have := lstR_loop s s.size 0 [] (by omega)
  rw [List.drop_zero] at this
  exact this
theorem ext5 {s : ByteArray} {i p : Nat} (h1 : p ≤ i + 5) (h2 : i + 5 ≤ p) : (s.extract i p).toList = (s.data.toList.drop i).take 5 := by
  rw [lstR_data, ext_list, show p - i = 5 by omega]
theorem neq_str {a b : ByteArray} : ((a.toList != b.toList) = true) ↔ a ≠ b := by
  rw [lstR_data, lstR_data, bne_iff_ne]
  exact ⟨fun h e => h (by rw [e]), fun h e => h (ba_inj e)⟩
theorem list4 {l : List Int} (h : l.length = 4) : ∃ a b c d, l = [a, b, c, d] := by
  match l, h with
  | [a, b, c, d], _ => exact ⟨a, b, c, d, rfl⟩
theorem list2 {l : List Int} (h : l.length = 2) : ∃ a b, l = [a, b] := by
  match l, h with
  | [a, b], _ => exact ⟨a, b, rfl⟩
/-- Where it ends too early, it is no plan's text. -/
theorem rd_short {X : List UInt8} {j : Nat} (h1 : ∀ i, i < j → sealC X i) (h2 : ¬ sealC X j) (h3 : ¬ (sealI X j).2 + 5 ≤ X.length) : RdIs X none := fun l hl e => by
  subst e
  exact h3 (read_plT hl h1 h2).1
theorem rd_other {X : List UInt8} {s : ByteArray} (hs : s.data.toList = X) {j : Nat} (h1 : ∀ i, i < j → sealC X i) (h2 : ¬ sealC X j) (h3 : plW (readP X j) ≠ s) : RdIs X none := fun l hl e => by
  subst e
  rw [(read_plT hl h1 h2).2, plW_yes hl] at h3
  exact h3 (ba_inj (by rw [hs]))
theorem rd_same {X : List UInt8} {s : ByteArray} (hs : s.data.toList = X) (hne : 0 < X.length) {P : Pl} (h : plW P = s) : RdIs X (some P) := by
  by_cases hok : plOk P
  · refine ⟨hok, ?_⟩
    rw [plW_yes hok] at h
    rw [← hs, ← h]
  · rw [plW_no hok] at h
    rw [← hs, ← h] at hne
    simp at hne
/-- The plan has been read. -/
structure PrF (w W : World) (v : Value) (ps : List Pt) (y0 y1 : Int) (F : List Nat) : Prop where
  bel : Below w.heap.size w W
  b2 : W.rowIs w.heap.size 25 3 (row3 (.slice none 0 0) (.int .i64 0) (.int .i64 0))
  b4 : W.rowIs (w.heap.size + 1) 25 3 (row3 v (.int .i64 y0) (.int .i64 y1))
  own : FlatOwn W v 4 (ps.map Pt.cs) F
  lt : ∀ b, b ∈ F → w.heap.size + 2 ≤ b ∧ b < W.heap.size
theorem row3_rd1 {W : World} {g t : Nat} {x0 x1 x2 : Value} (h : W.rowIs g t 3 (row3 x0 x1 x2)) (u : Value) : (W.setCell ⟨g, 1, none⟩ u).rowIs g t 3 (row3 x0 u x2) :=
  (h.set 1 u).congr (fun i hi => by rcases (show i = 0 ∨ i = 1 ∨ i = 2 by omega) with rfl | rfl | rfl <;> rfl)
theorem row3_rd2 {W : World} {g t : Nat} {x0 x1 x2 : Value} (h : W.rowIs g t 3 (row3 x0 x1 x2)) (u : Value) : (W.setCell ⟨g, 2, none⟩ u).rowIs g t 3 (row3 x0 x1 u) :=
  (h.set 2 u).congr (fun i hi => by rcases (show i = 0 ∨ i = 1 ∨ i = 2 by omega) with rfl | rfl | rfl <;> rfl)
theorem Pr.fin {w W : World} {v : Value} {ps : List Pt} (h : Pr w W v ps) (y0 y1 : Int) : ∃ F, PrF w ((W.setCell ⟨w.heap.size + 1, 1, none⟩ (.int .i64 y0)).setCell ⟨w.heap.size + 1, 2, none⟩ (.int .i64 y1)) v ps y0 y1 F := by
  obtain ⟨F, h1, -, h3, -⟩ := FlatOwn.of_row (rs := ps.map Pt.cs) (n := 4) (by rw [List.length_map]; exact h.own) (fun r hr => by obtain ⟨f, -, rfl⟩ := List.mem_map.1 hr; rfl)
  have hk : ∀ b, b ≠ w.heap.size + 1 → ((W.setCell ⟨w.heap.size + 1, 1, none⟩ (.int .i64 y0)).setCell ⟨w.heap.size + 1, 2, none⟩ (.int .i64 y1)).heap[b]? = W.heap[b]? := fun b hb => by
    rw [Below.heap_setCell _ _ _ _ (by simp; omega), Below.heap_setCell _ _ _ _ (by simp; omega)]
  refine ⟨F, ?_, h.b2.of_block (hk _ (by omega)), row3_rd2 (row3_rd1 h.b4 _) _, FlatOwn.carry h1 (fun b hb => hk b (by have := (h3 b hb).1; omega)), fun b hb => ?_⟩
  · exact (h.bel.setCell (by simp) _).setCell (by simp) _
  · rw [World.size_setCell, World.size_setCell]; exact h3 b hb
theorem PrF.on {w W W' : World} {v : Value} {ps : List Pt} {y0 y1 : Int} {F : List Nat} (h : PrF w W v ps y0 y1 F) (hb : Below W.heap.size W W') : PrF w W' v ps y0 y1 F :=
  ⟨h.bel.trans (hb.mono h.bel.size), h.b2.of_block (hb.block _ h.b2.lt), h.b4.of_block (hb.block _ h.b4.lt), FlatOwn.carry h.own (fun b hF => hb.block b (h.lt b hF).2), fun b hF => ⟨(h.lt b hF).1, Nat.lt_of_lt_of_le (h.lt b hF).2 hb.size⟩⟩
theorem PrF.sto {w W : World} {v : Value} {ps : List Pt} {y0 y1 : Int} {F : List Nat} (h : PrF w W v ps y0 y1 F) (a b c : Value) : Below w.heap.size w (((W.setCell ⟨w.heap.size, 0, none⟩ a).setCell ⟨w.heap.size, 1, none⟩ b).setCell ⟨w.heap.size, 2, none⟩ c) ∧ (∃ F', FlatOwn (((W.setCell ⟨w.heap.size, 0, none⟩ a).setCell ⟨w.heap.size, 1, none⟩ b).setCell ⟨w.heap.size, 2, none⟩ c) v 4 (ps.map Pt.cs) F' ∧ ∀ x, x ∈ F' → w.heap.size ≤ x ∧ x < (((W.setCell ⟨w.heap.size, 0, none⟩ a).setCell ⟨w.heap.size, 1, none⟩ b).setCell ⟨w.heap.size, 2, none⟩ c).heap.size) := by
  refine ⟨((h.bel.setCell (by simp) _).setCell (by simp) _).setCell (by simp) _, F, FlatOwn.carry h.own (fun x hx => ?_), fun x hx => ?_⟩
  · have := (h.lt x hx).1
    rw [Below.heap_setCell _ _ _ _ (by simp; omega), Below.heap_setCell _ _ _ _ (by simp; omega), Below.heap_setCell _ _ _ _ (by simp; omega)]
  · have := h.lt x hx
    simp only [World.size_setCell]; omega
set_option maxRecDepth 100000 in
set_option maxHeartbeats 3200000 in
theorem specLogPlanRead_any (s : ByteArray) (w : World) (hs : s.size ≤ 1048576) :
    Calls Tryd.prog 11 #[.string s] w fun e w' => RdEnd w w' e s.data.toList := by
  have hpr : Pr w ((w.alloc (.cells #[.slice none 0 0, .int .i64 0, .int .i64 0] 25)).alloc (.cells #[.slice none 0 0, .int .i64 0, .int .i64 0] 25)) (.slice none 0 0) [] := by
    refine ⟨((Below.refl _ _).alloc (Nat.le_refl _) _).alloc (by simp) _, (row3_alloc w _ _ _ _).alloc _, ?_, ⟨rfl, Or.inl ⟨rfl, rfl⟩⟩⟩
    have := row3_alloc (w.alloc (.cells #[.slice none 0 0, .int .i64 0, .int .i64 0] 25)) (.slice none 0 0) (.int .i64 0) (.int .i64 0) 25
    rw [World.size_alloc] at this; exact this
  have HPR := hide hpr
  clear hpr
  go_enter Tryd.func11, Tryd.ntmps11
  go_wp2_with fail
  go_loopw [5] (fun vi wr => ∃ (j : Nat) (a : Option Addr) (cap : Nat), j ≤ 41 ∧ vi = .int .i64 ((sealI s.data.toList j).2 : Nat) ∧ Hid (∀ i, i < j → sealC s.data.toList i) ∧ Hid (Pr w wr (.slice a j cap) (sealI s.data.toList j).1)) (fun vi _ => s.size + 100 - (intOf vi).toNat)
  case atStart => exact ⟨0, none, 0, by omega, rfl, fun i hi => by omega, unhide HPR⟩
  case round =>
    clear HPR
    obtain ⟨j, a, cap, hj, rfl, HSC, HP⟩ := hrel
    have hbd := sealI_bd s.data.toList j
    have hb4 := HP.out.b4
    have k0 := hb4.cell (i := 0) (by omega)
    simp only [row3] at k0
    have hps := HP.out.bel.size
    generalize hI : (sealI s.data.toList j).2 = i at *
    have HI := hide hI
    clear hI
    obtain ⟨p, hp⟩ : ∃ p : Nat, p = i + 5 := ⟨_, rfl⟩
    have hpi : (i : Int) + 5 = (p : Int) := by omega
    have hwp : IntKind.i64.wrap ((i : Int) + 5) = (p : Int) := by rw [IntKind.wrap_i64]; omega
    have hp1 : p ≤ i + 5 := by omega
    have hp2 : i + 5 ≤ p := by omega
    have HPI := hide hpi
    clear hp hpi
    have hXl : s.data.toList.length = s.size := by rw [Array.length_toList]; rfl
    by_cases h5 : p ≤ s.size
    · have h5i : (p : Int) ≤ (s.size : Int) := by omega
      have hip : (i : Int) ≤ (p : Int) := by omega
      have h0i : (0 : Int) ≤ (i : Int) := by omega
      have hex := ext5 (s := s) hp1 hp2
      clear hb4
      by_cases hc : (s.extract i p).toList = [115, 101, 97, 108, 32] ∧ j ≤ 40
      · have hsc : sealC s.data.toList j := by
          unfold sealC
          rw [unhide HI, ← hex]
          exact ⟨by omega, hc.1, hc.2⟩
        have hbq : ((s.extract i p).toList == [115, 101, 97, 108, 32]) = true := by rw [hc.1]; rfl
        have hj40 : decide ((j : Int) ≤ 40) = true := decide_eq_true (by omega)
        have HSC1 := hide (show ∀ k, k < j + 1 → sealC s.data.toList k from fun k hk => by
          by_cases e : k = j
          · subst e; exact hsc
          · exact HSC.out k (by omega))
        have hj41 : j + 1 ≤ 41 := by omega
        have HN := hide (l42Nums_any s p 4 wr hs (by omega) (by omega))
        have hp4 := HP.out.b4.lt
        obtain ⟨z0, z1, z2, z3, hz⟩ := list4 (numsI_len s.data.toList p 4)
        have hn2 := (numsI_bd s.data.toList p 4).2.1
        have hn1 := (numsI_bd s.data.toList p 4).1
        have HSI := hide (show sealI s.data.toList (j + 1) = ((sealI s.data.toList j).1 ++ [⟨z0, z1, z2, z3⟩], (numsI s.data.toList p 4).2) by
          have e : (sealI s.data.toList j).2 + 5 = p := by rw [unhide HI]; omega
          simp only [sealI, e, hz]
          rfl)
        have HZ := hide hz
        generalize (numsI s.data.toList p 4).2 = q at *
        clear hsc hc hex hz
        go_wp2_with fail
        refine (unhide HN).mono ?_
        rintro e w5 ⟨v5, rfl, hown, hb5⟩
        clear k0 HN
        rw [unhide HZ] at hown
        obtain ⟨gx, cx, rfl, -, -⟩ := hown.form (by omega)
        have HF := hide (show Pr w w5 (.slice a j cap) (sealI s.data.toList j).1 ∧ w5.ownsRow (w.heap.size + 2) 3 1 (.slice (some ⟨gx, 0, none⟩) 4 cx) 4 [.int .i64 z0, .int .i64 z1, .int .i64 z2, .int .i64 z3] from ⟨HP.out.on hb5, World.ownsRow.mono hown (by omega)⟩)
        have hlen : (sealI s.data.toList j).1.length ≤ 1000 := by rw [sealI_len]; omega
        clear hown hb5
        go_upto_region 5 with fail
        refine wp_swap (c' := Code.region 5 pr5Ops true) (by kernel_rfl) ?_
        refine wp_region_noPanic ?_
        refine pr5 s w (.slice a j cap) (sealI s.data.toList j).1 gx cx i q z0 z1 z2 z3 hlen w5 _ (fun _ _ _ _ _ h => h) (on4 (unhide HF) ⟨rfl, rfl, rfl, Nat.le_refl _, fun _ _ => rfl⟩) (by kernel_rfl) ?_
        intro v v' W6 h6
        refine NoPanic.normal ?_
        simp only [frL_eq, frG, List.lookup, Nat.reduceBEq, Nat.reduceAdd, Option.getD_some, Option.getD_none]
        have hv' : ∃ (a' : Option Addr) (cap' : Nat), v' = .slice a' (j + 1) cap' := by
          rcases h6.own.2 with ⟨hv, h0⟩ | ⟨g, c, u, hv, _⟩
          · simp at h0
          · exact ⟨_, _, by rw [hv, List.length_append, sealI_len]; rfl⟩
        obtain ⟨a', cap', rfl⟩ := hv'
        have HP6 := hide (show Pr w W6 (.slice a' (j + 1) cap') (sealI s.data.toList (j + 1)).1 by rw [unhide HSI]; exact h6)
        have HQ6 := hide (show (sealI s.data.toList (j + 1)).2 = q by rw [unhide HSI])
        clear h6 HF HP HSC
        go_wp2_with fail
        go_roundw
        case rel => exact ⟨j + 1, a', cap', hj41, by rw [unhide HQ6], unhide HSC1, unhide HP6⟩
        case measure => simp [intOf]; omega
      · have hns : ¬ sealC s.data.toList j := fun h => by
          unfold sealC at h
          rw [unhide HI, ← hex] at h
          exact hc ⟨h.2.1, h.2.2⟩
        have HNS := hide hns
        have HN := hide (l42Nums_any s p 2 wr hs (by omega) (by omega))
        obtain ⟨y0, y1, hy⟩ := list2 (numsI_len s.data.toList p 2)
        have hp4 := HP.out.b4.lt
        have HRP := hide (show readP s.data.toList j = ⟨(sealI s.data.toList j).1, y0, y1⟩ by
          have e : (sealI s.data.toList j).2 + 5 = p := by rw [unhide HI]; omega
          unfold readP
          simp only [e, hy]
          rfl)
        have HY := hide hy
        generalize (numsI s.data.toList p 2).2 = q at *
        have hgo : (((s.extract i p).toList == [115, 101, 97, 108, 32]) = false) ∨ (((s.extract i p).toList == [115, 101, 97, 108, 32]) = true ∧ decide ((j : Int) ≤ 40) = false) := by
          cases hbq : ((s.extract i p).toList == [115, 101, 97, 108, 32]) with
          | false => exact Or.inl rfl
          | true => exact Or.inr ⟨rfl, decide_eq_false fun h => hc ⟨by simpa using hbq, by omega⟩⟩
        clear hns hc hex hy
        rcases hgo with hbq | ⟨hbq, hj40⟩
        all_goals
          go_wp2_with fail
          refine (unhide HN).mono ?_
          rintro e w5 ⟨v5, rfl, hown, hb5⟩
          clear k0 HN
          rw [unhide HY] at hown
          obtain ⟨gx, cx, rfl, -, -⟩ := hown.form (by omega)
          have hx0 : w5.cell? ⟨gx, 0, none⟩ = some (.int .i64 y0) := hown.cellAt 0 (by omega)
          have hx1 : w5.cell? ⟨gx, 1, none⟩ = some (.int .i64 y1) := hown.cellAt 1 (by omega)
          have hgx : wr.heap.size ≤ gx ∧ gx < w5.heap.size := hown.lt gx rfl
          have h5p := HP.out.on hb5
          have c0 := h5p.b4.cell (i := 0) (by omega); have c1 := h5p.b4.cell (i := 1) (by omega); have c2 := h5p.b4.cell (i := 2) (by omega)
          have f4 := h5p.b4.frozen
          simp only [row3] at c0 c1 c2
          have hs5 := hb5.size
          have hne : gx ≠ w.heap.size + 1 := by omega
          have hne' : w.heap.size + 1 ≠ gx := by omega
          obtain ⟨F, hfin⟩ := h5p.fin y0 y1
          have HFIN := hide hfin
          have d0 := hfin.b4.cell (i := 0) (by omega); have d1 := hfin.b4.cell (i := 1) (by omega); have d2 := hfin.b4.cell (i := 2) (by omega)
          simp only [row3] at d0 d1 d2
          clear hfin h5p hown HP hb5
          have HXP := hide (show 0 < s.data.toList.length by omega)
          go_wp2_with fail
          refine (specLogPlanWrite_any ⟨(sealI s.data.toList j).1, y0, y1⟩ _ (.slice a j cap) _ (fun b hb => ((unhide HFIN).lt b hb).2) (FlatOwn.at (unhide HFIN).own)).mono ?_
          rintro e w8 ⟨rfl, hb8⟩
          have h8 := (unhide HFIN).on hb8
          have HF8 := hide h8
          clear hb8 c0 c1 c2 f4 d0 d1 d2 hx0 hx1 HFIN
          have c0 := h8.b4.cell (i := 0) (by omega); have c1 := h8.b4.cell (i := 1) (by omega); have c2 := h8.b4.cell (i := 2) (by omega)
          have f4 := h8.b4.frozen
          have m0 := h8.b2.cell (i := 0) (by omega); have m1 := h8.b2.cell (i := 1) (by omega); have m2 := h8.b2.cell (i := 2) (by omega)
          have f2 := h8.b2.frozen
          simp only [row3] at c0 c1 c2 m0 m1 m2
          clear h8
          by_cases hq : plW ⟨(sealI s.data.toList j).1, y0, y1⟩ = s
          · have hbn : ((plW ⟨(sealI s.data.toList j).1, y0, y1⟩).toList == s.toList) = true := by rw [hq]; simp
            have HQ := hide hq
            clear hq
            go_wp2_with fail
            try simp only [Exit.inBlock, Exit.then]
            refine bodyPost_ret (v := .tuple #[.agg #[.slice a j cap, .int .i64 y0, .int .i64 y1], .bool true]) (by simp [results, Tryd.results11, go_sem, m0, m1, m2]) rfl ?_
            exact Or.inl ⟨⟨(sealI s.data.toList j).1, y0, y1⟩, .slice a j cap, rd_same rfl (unhide HXP) (unhide HQ), rfl, ((unhide HF8).sto _ _ _).2, ((unhide HF8).sto _ _ _).1⟩
          · have hbn : ((plW ⟨(sealI s.data.toList j).1, y0, y1⟩).toList == s.toList) = false := by have := neq_str.2 hq; simpa [bne] using this
            have HQ := hide hq
            clear hq
            go_wp2_with fail
            try simp only [Exit.inBlock, Exit.then]
            refine bodyPost_ret (v := .tuple #[.agg #[.slice none 0 0, .int .i64 0, .int .i64 0], .bool false]) (by simp [results, Tryd.results11, go_sem, m0, m1, m2]) rfl ?_
            exact Or.inr ⟨rd_other rfl HSC.out (unhide HNS) (by rw [unhide HRP]; exact unhide HQ), rfl, ((unhide HF8).sto _ _ _).1⟩
    · have hns : ¬ sealC s.data.toList j := fun h => by
        unfold sealC at h
        rw [unhide HI] at h
        omega
      have HRN := hide (rd_short HSC.out hns (by rw [unhide HI]; omega))
      have h2 := HP.out.b2
      have y0 := h2.cell (i := 0) (by omega); have y1 := h2.cell (i := 1) (by omega); have y2 := h2.cell (i := 2) (by omega)
      have z := h2.frozen
      simp only [row3] at y0 y1 y2
      have HBL := hide HP.out.bel
      have h5i : ¬ ((p : Int) ≤ (s.size : Int)) := by omega
      clear h2 hb4 k0 hns HP HSC
      go_wp2_with fail
      try simp only [Exit.inBlock, Exit.then]
      refine bodyPost_ret (v := .tuple #[.agg #[.slice none 0 0, .int .i64 0, .int .i64 0], .bool false]) (by simp [results, Tryd.results11, go_sem, y0, y1, y2]) rfl ?_
      exact Or.inr ⟨unhide HRN, rfl, (((unhide HBL).setCell (by simp) _).setCell (by simp) _).setCell (by simp) _⟩
end Go.Proofs.YtcnkkegpckibbaaDoor
