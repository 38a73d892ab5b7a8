/- The program's moved: the names behind so many moves, in memory of the call's own; nothing, if one of them cannot be done. Conditions: at most 1000 names and moves. -/
import Derived.Test.YtepknipcflbodaaPkD2
namespace Go.Proofs.Ytepknipcflbodaa
open Go Go.RowKit

/-- The function values of moves lie in memory. -/
def FnAt (P : Nat → Prop) (w : World) (v : Value) (ms : List Dm) : Prop :=
  ∃ a cap, v = .slice a ms.length cap ∧ (ms.length ≤ cap ∧ (a = none → cap = 0)) ∧ cap ≤ 9223372036854775807 ∧
    ∀ i, (h : i < ms.length) → ∃ b B, a = some ⟨b, 0, none⟩ ∧ P b ∧ P B ∧ w.cell? ⟨b, i, none⟩ = some (mvF ms[i].gone B) ∧ w.cell? ⟨B, 1, none⟩ = some (.string ms[i].name) ∧ ms[i].okM
theorem FnAt.carry {P Q : Nat → Prop} {w w' : World} {v : Value} {ms : List Dm} (h : FnAt P w v ms) (hP : ∀ b, P b → w'.heap[b]? = w.heap[b]?) (hQ : ∀ b, P b → Q b) : FnAt Q w' v ms := by
  obtain ⟨a, cap, h1, h2, h3, h4⟩ := h
  refine ⟨a, cap, h1, h2, h3, fun i hi => ?_⟩
  obtain ⟨b, B, e, hb, hB, c1, c2, hk⟩ := h4 i hi
  exact ⟨b, B, e, hQ b hb, hQ B hB, by rw [World.cell?_of_block (w := w) (hP b hb)]; exact c1, by rw [World.cell?_of_block (w := w) (hP B hB)]; exact c2, hk⟩

/-- The names behind moves, one behind the other. -/
def mfold (ns : List ByteArray) (ms : List Dm) : Option (List ByteArray) := ms.foldl (fun o m => o.bind fun l => mstep l m) (some ns)
theorem mfold_take {ns : List ByteArray} {ms : List Dm} {k : Nat} (hk : k < ms.length) : mfold ns (ms.take (k + 1)) = (mfold ns (ms.take k)).bind fun l => mstep l ms[k] := by
  unfold mfold
  rw [List.take_succ_eq_append_getElem hk, List.foldl_append]; rfl
theorem mfold_none (ms : List Dm) : ms.foldl (fun (o : Option (List ByteArray)) m => o.bind fun l => mstep l m) none = none := by
  induction ms with
  | nil => rfl
  | cons m r ih => exact ih
theorem mfold_stop {ns : List ByteArray} {ms : List Dm} {k q : Nat} (h : mfold ns (ms.take k) = none) (hk : k ≤ q) : mfold ns (ms.take q) = none := by
  have e : ms.take q = ms.take k ++ (ms.take q).drop k := by
    have := List.take_append_drop k (ms.take q)
    rw [List.take_take, Nat.min_eq_left hk] at this
    exact this.symm
  unfold mfold at h ⊢
  rw [e, List.foldl_append, h, mfold_none]
/-- What comes of names and moves. -/
def MvEnd (w w' : World) (e : Ending) : Option (List ByteArray) → Prop
  | none => e = .returned (.tuple #[.slice none 0 0, .bool false]) ∧ Below w.heap.size w w'
  | some l => ∃ v', e = .returned (.tuple #[v', .bool true]) ∧ NmOwn w w' v' l.length l
def fiveV (p0 p1 vn p2 vm : Value) : Nat → Value
  | 0 => p0
  | 1 => p1
  | 2 => vn
  | 3 => p2
  | _ => vm
theorem fiveV_alloc (w : World) (c0 c1 c2 c3 c4 : Value) (t : TypeId) : (w.alloc (.cells #[c0, c1, c2, c3, c4] t)).rowIs w.heap.size t 5 (fiveV c0 c1 c2 c3 c4) :=
  World.rowIs_alloc w #[c0, c1, c2, c3, c4] t _ (fun i hi => by
    have hi' : i < 5 := hi
    match i, hi' with
    | 0, _ => rfl
    | 1, _ => rfl
    | 2, _ => rfl
    | 3, _ => rfl
    | 4, _ => rfl)

set_option maxRecDepth 100000 in
set_option maxHeartbeats 1600000 in
theorem moved_any (ns : List ByteArray) (ms : List Dm) (p0 p1 vn p2 vm : Value) (P : Nat → Prop) (w : World) (hP : ∀ b, P b → b < w.heap.size) (hn : StrsAt P w vn ns) (hf : FnAt P w vm ms) (q : Nat) (hq : q ≤ ms.length) (hl1 : ns.length ≤ 1000) (hl2 : ms.length ≤ 1000) :
    Calls Try.prog 50 #[.agg #[p0, p1, vn, p2, vm], .int .i64 (q : Int)] w fun e w' => MvEnd w w' e (mfold ns (ms.take q)) := by
  have hbx : ∀ o, Below w.heap.size w (w.alloc o) := fun o => (Below.refl _ _).alloc (Nat.le_refl _) o
  have HCL := hide (fun o => cloneNs_any vn ns (w.alloc o) (P := P) (hn.carry (fun b hb => (hbx o).block b (hP b hb)) (fun _ h => h)) (by omega))
  obtain ⟨am, cm, rfl, ⟨hcm, hcn⟩, hcm2, hfc⟩ := hf
  have HFC := hide hfc; have HP := hide hP; have HBX := hide hbx
  have HROW := hide (fiveV_alloc w p0 p1 vn p2 (.slice am ms.length cm) 64)
  clear hn hfc hP hbx
  go_enter Try.func50, Try.ntmps50
  go_wp2_with fail
  refine (unhide HCL _).mono ?_
  rintro e w1 ⟨v1, rfl, hnm⟩
  have hb1 := hnm.below
  have hs1 : w.heap.size + 1 ≤ w1.heap.size := by have := hb1.size; simpa using this
  have hq1 := (unhide HROW).of_block (hb1.block w.heap.size (by simp))
  have k4 := hq1.cell (i := 4) (by omega)
  simp only [fiveV] at k4
  have HNM := hide hnm
  have hb01 := (unhide HBX (.cells #[p0, p1, vn, p2, .slice am ms.length cm] 64)).trans (hb1.mono (unhide HBX _).size)
  have HB01 := hide hb01
  have hqi0 : (0 : Int) ≤ (q : Int) := by omega
  have hqi1 : (q : Int) ≤ (cm : Int) := by omega
  clear hnm hb1 hq1 hb01 HCL
  cases am with
  | none =>
    have hcm0 := hcn rfl
    subst hcm0
    obtain rfl : q = 0 := by omega
    go_wp2_with fail
    go_loopw [6, 20] (fun vo i wr => vo = v1 ∧ i = .int .i64 0 ∧ wr = w1) (fun _ i _ => 0)
    case atStart => exact ⟨rfl, rfl, rfl⟩
    case round =>
      obtain ⟨rfl, rfl, rfl⟩ := hrel
      go_wp2_with fail
      go_ret2
      refine ⟨_, rfl, ?_⟩
      exact ⟨ownsRow_base (unhide HNM).own (unhide HBX _).size, (unhide HNM).len, (unhide HNM).sz, unhide HB01⟩
  | some ad =>
    go_wp2_with fail
    have HN1 := hide (show mfold ns (ms.take 0) = some ns from rfl)
    generalize hW1 : w.alloc (.cells #[p0, p1, vn, p2, .slice (some ad) ms.length cm] 64) = W1 at *
    have hsW : W1.heap.size = w.heap.size + 1 := by rw [← hW1]; simp
    have hbW : Below w.heap.size w W1 := by rw [← hW1]; exact unhide HBX _
    have HBW := hide hbW; have HSW := hide hsW
    clear k4 hW1 hbW hsW
    go_loopw [6, 20] (fun vo i wr => ∃ (k : Nat) (l : List ByteArray) (vk : Value), k ≤ q ∧ i = .int .i64 k ∧ vk = vo ∧ l.length ≤ ns.length + k ∧ Hid (mfold ns (ms.take k) = some l) ∧ Hid (NmOwn W1 wr vk l.length l)) (fun _ i _ => q - (intOf i).toNat)
    case atStart => exact ⟨0, ns, _, Nat.zero_le _, rfl, rfl, by omega, unhide HN1, unhide HNM⟩
    case round =>
      obtain ⟨k, l, vk, hk, rfl, rfl, hll, HF, HK⟩ := hrel
      have hbk := HK.out.below
      by_cases hlt : k < q
      rotate_left
      · obtain rfl : k = q := by omega
        clear hbk
        go_wp2_with fail
        go_ret2
        rw [HF.out]
        exact ⟨_, rfl, ownsRow_base HK.out.own (by have := unhide HSW; omega), HK.out.len, HK.out.sz, (unhide HBW).trans (HK.out.below.mono (by have := unhide HSW; omega))⟩
      · have hlm : k < ms.length := by omega
        obtain ⟨b, B, hab, hpb, hpB, c1, c2, hok⟩ := unhide HFC k hlm
        simp only [Option.some.injEq] at hab
        subst hab
        have hbb := unhide HP b hpb; have hbB := unhide HP B hpB
        have e1 : wr.cell? ⟨b, k, none⟩ = some (mvF ms[k].gone B) := by
          rw [World.cell?_of_block (w := w) ((hbk.block b (by have := unhide HSW; omega)).trans ((unhide HBW).block b hbb))]; exact c1
        have e2 : wr.cell? ⟨B, 1, none⟩ = some (.string ms[k].name) := by
          rw [World.cell?_of_block (w := w) ((hbk.block B (by have := unhide HSW; omega)).trans ((unhide HBW).block B hbB))]; exact c2
        have HT := hide (mfold_take (ns := ns) hlm)
        have hmz : ms[k].name.size ≤ 9223372036854775807 := hok
        have HBK := hide ((unhide HBW).trans (hbk.mono (by have := unhide HSW; omega)))
        clear c1 c2 hpb hpB hbb hbB hok hbk
        generalize ms[k] = m at *
        obtain ⟨g, nm⟩ := m
        simp only at e1 e2 hmz
        cases g with
        | false =>
          simp only [mvF, Bool.false_eq_true, if_false] at e1
          have HCA := hide (make_call nm hmz B l vk l.length W1 wr HK.out (by omega) e2)
          have HTT := hide (show mfold ns (ms.take (k + 1)) = some (l ++ [nm]) by rw [unhide HT, HF.out]; rfl)
          go_wp2_with fail
          refine (unhide HCA).mono ?_
          rintro e w5 ⟨v5, rfl, hn5⟩
          have HN5 := hide hn5
          clear hn5
          go_wp2_with fail
          go_roundw
          case rel => exact ⟨k + 1, l ++ [nm], _, by omega, by go_num, rfl, by simp; omega, unhide HTT, hide (by simpa using unhide HN5)⟩
          case measure => simp [intOf]; omega
        | true =>
          simp only [mvF, if_true] at e1
          cases hfi : l.findIdx? (fun y => sameB y nm) with
          | none =>
            have HCA := hide (gone_call_no nm B l vk l.length W1 wr HK.out e2 hfi)
            have HTT := hide (show mfold ns (ms.take q) = none from mfold_stop (k := k + 1) (by rw [unhide HT, HF.out]; simp [mstep, hfi]) (by omega))
            clear hfi
            go_wp2_with fail
            refine (unhide HCA).mono ?_
            rintro e w5 ⟨rfl, rfl⟩
            go_wp2_with fail
            go_ret2
            rw [unhide HTT]
            exact ⟨rfl, unhide HBK⟩
          | some i =>
            have hil := (List.findIdx?_eq_some_iff_getElem.1 hfi).1
            have HCA := hide (gone_call nm B l vk l.length W1 wr HK.out (by omega) e2 i hfi)
            have HTT := hide (show mfold ns (ms.take (k + 1)) = some (l.take i ++ l.drop (i + 1)) by rw [unhide HT, HF.out]; simp [mstep, hfi])
            have hl5 : (l.take i ++ l.drop (i + 1)).length = l.length - 1 := by simp; omega
            have HL5 := hide hl5
            clear hfi hl5
            go_wp2_with fail
            refine (unhide HCA).mono ?_
            rintro e w5 ⟨v5, rfl, hn5⟩
            rw [← unhide HL5] at hn5
            have HN5 := hide hn5
            clear hn5
            go_wp2_with fail
            go_roundw
            case rel => exact ⟨k + 1, l.take i ++ l.drop (i + 1), _, by omega, by go_num, rfl, by rw [unhide HL5]; omega, unhide HTT, unhide HN5⟩
            case measure => simp [intOf]; omega
end Go.Proofs.Ytepknipcflbodaa
