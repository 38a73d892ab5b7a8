/- The walk of the specification's LogPlanWrite: the text of a plan that is ok, else nothing. No conditions. -/
import Derived.Test.YtmaojhacdelleaaDoorPwDat
import Derived.Test.YtmaojhacdelleaaDoorWPlS
import Derived.Test.YtmaojhacdelleaaDoorWDec
import Derived.Deep.RegionHeld3
namespace Go.Proofs.YtmaojhacdelleaaDoor
open Go Go.RowKit

theorem addP (t : TypeId) (a b : ByteArray) (h : a.size + b.size ≤ 9223372036854775807) : binOp .add t (.string a) (.string b) = pure (.string (a ++ b)) := by
  have h2 : ¬ (((a.size + b.size : Nat) : Int) > IntKind.i64.max) := by
    rw [show IntKind.i64.max = 9223372036854775807 from rfl]; omega
  simp only [binOp, Op.stringOp]
  rw [if_neg h2]

/-- What the walk's worlds hold: the box of the plan, the box of a part. -/
structure PwSt (w : World) (f : Nat → Value) (B : Nat) (x : Pt) (W : World) : Prop where
  below : Below w.heap.size w W
  box : W.rowIs w.heap.size 29 3 f
  p4 : P4At W B 0 x
theorem PwSt.on {w W W' : World} {f : Nat → Value} {B : Nat} {x : Pt} (h : PwSt w f B x W) (hb : Below W.heap.size W W') : PwSt w f B x W' :=
  ⟨h.below.trans (hb.mono h.below.size), h.box.of_block (hb.block _ h.box.lt), h.p4.carry (hb.block B (World.block_lt_of_cell? W _ h.p4.e0))⟩
theorem PwSt.drew {w W : World} {f : Nat → Value} {B : Nat} {x : Pt} (h : PwSt w f B x W) : PwSt w f B x W.drew := h.on (Below.refl _ _).drew
structure PwS2 (w : World) (f : Nat → Value) (W : World) : Prop where
  below : Below w.heap.size w W
  box : W.rowIs w.heap.size 29 3 f
theorem PwS2.on {w W W' : World} {f : Nat → Value} (h : PwS2 w f W) (hb : Below W.heap.size W W') : PwS2 w f W' :=
  ⟨h.below.trans (hb.mono h.below.size), h.box.of_block (hb.block _ h.box.lt)⟩
theorem PwS2.drew {w W : World} {f : Nat → Value} (h : PwS2 w f W) : PwS2 w f W.drew := h.on (Below.refl _ _).drew
theorem strV {a b : ByteArray} (h : a = b) : Value.string a = .string b := by rw [h]

set_option maxRecDepth 100000 in
set_option maxHeartbeats 6400000 in
theorem specLogPlanWrite_any (l : Pl) (P : Nat → Prop) (v : Value) (w : World) (hP : ∀ b, P b → b < w.heap.size) (hv : PtsAt P w v l.parts) :
    Calls Tryd.prog 5 #[.agg #[v, .int .i64 l.op, .int .i64 l.fi]] w fun e w' => e = .returned (.string (plW l)) ∧ Below w.heap.size w w' := by
  have hbx : ∀ o, Below w.heap.size w (w.alloc o) := fun o => (Below.refl _ _).alloc (Nat.le_refl _) o
  have HOK := hide (fun o => specLogPlanOk_any l P v (w.alloc o) (fun b hb => Nat.lt_of_lt_of_le (hP b hb) (hbx o).size) (hv.carry (fun b hb => (hbx o).block b (hP b hb)) (fun _ h => h)))
  obtain ⟨a, cap, rfl, hlen, hc⟩ := hv.open
  have HC := hide hc; have HP := hide hP
  have hrow := row3_alloc w (.slice a l.parts.length cap) (.int .i64 l.op) (.int .i64 l.fi) 29
  have HROW := hide hrow; have HBX := hide hbx
  clear hv hc hP hrow hbx
  go_enter Tryd.func5, Tryd.ntmps5
  go_wp2_with fail
  refine (unhide HOK _).mono ?_
  rintro e w1 ⟨⟨r, rfl, hr⟩, hb1⟩
  have q1 := (unhide HROW).of_block (hb1.block w.heap.size (by simp))
  have HB1 := hide ((unhide HBX _).trans (hb1.mono (unhide HBX _).size)); have Q1 := hide q1
  clear hb1 q1 HOK HROW HBX
  cases r with
  | false =>
    have HF := hide (show ¬ plOk l from fun h => by have := hr.2 h; cases this)
    clear hr
    go_wp2_with fail
    go_ret
    exact ⟨ret_str (plW_no (unhide HF)).symm, unhide HB1⟩
  | true =>
  have hp := hr.1 rfl
  have HPT := hide (fun k (hk : k < l.parts.length) => pt_sm hp hk)
  have HXL := hide (fun k (hk : k ≤ l.parts.length) => plX_len hp k hk)
  have HOPS := hide (op_sm hp)
  have HW := hide (plW_yes hp)
  have h40 := hp.1
  clear hr hp
  go_wp2_with fail
  go_loopw [3, 4] (fun s i wr => ∃ (k : Nat), k ≤ l.parts.length ∧ i = .int .i64 k ∧ s = .string ⟨(plX l k).toArray⟩ ∧ Hid (PwS2 w (row3 (.slice a l.parts.length cap) (.int .i64 l.op) (.int .i64 l.fi)) wr)) (fun _ i _ => l.parts.length - (intOf i).toNat)
  case atStart => exact ⟨0, Nat.zero_le _, rfl, rfl, ⟨unhide HB1, unhide Q1⟩⟩
  case round =>
    clear Q1 HB1
    obtain ⟨k, hk, rfl, rfl, HS⟩ := hrel
    have q := HS.out.box
    have k0 := q.cell (i := 0) (by omega); have k1 := q.cell (i := 1) (by omega); have k2 := q.cell (i := 2) (by omega)
    simp only [row3] at k0 k1 k2
    have hln := unhide HXL k hk
    by_cases hlt : k < l.parts.length
    · obtain ⟨b, o, rfl, hpb, hcell⟩ := unhide HC k hlt
      obtain ⟨e0, e1, e2, e3⟩ := hcell.carry (HS.out.below.block b (unhide HP b hpb))
      obtain ⟨b0, b1, b2, b3⟩ := unhide HPT k hlt
      have HSUC := hide (plX_succ hlt)
      clear hcell
      generalize l.parts[k] = x at *
      have HSB := hide (seal_bytes (plX l k) x)
      have hst : PwSt w (row3 (.slice (some ⟨b, o, none⟩) l.parts.length cap) (.int .i64 l.op) (.int .i64 l.fi)) wr.heap.size x (wr.alloc (.cells #[.int .i64 x.num, .int .i64 x.first, .int .i64 x.next, .int .i64 x.size] 36)) :=
        ⟨HS.out.below.alloc HS.out.below.size _, HS.out.box.alloc _, p4_alloc wr x 36⟩
      obtain ⟨f0, f1, f2, f3⟩ := hst.p4
      simp only [Nat.zero_add] at f0 f1 f2 f3
      have HST := hide hst; have HSTD := hide hst.drew
      have HD : Hid (∀ n W, Sm n → PwSt w (row3 (.slice (some ⟨b, o, none⟩) l.parts.length cap) (.int .i64 l.op) (.int .i64 l.fi)) wr.heap.size x W → Calls Tryd.prog 11 #[.int .i64 n] W fun e w' => e = .returned (.string (decB n)) ∧ Hid (PwSt w (row3 (.slice (some ⟨b, o, none⟩) l.parts.length cap) (.int .i64 l.op) (.int .i64 l.fi)) wr.heap.size x w') ∧ w'.cell? ⟨wr.heap.size, 0, none⟩ = some (.int .i64 x.num) ∧ w'.cell? ⟨wr.heap.size, 1, none⟩ = some (.int .i64 x.first) ∧ w'.cell? ⟨wr.heap.size, 2, none⟩ = some (.int .i64 x.next) ∧ w'.cell? ⟨wr.heap.size, 3, none⟩ = some (.int .i64 x.size)) := fun n W hn hW =>
        (l6Dec_any n W hn.1 hn.2).mono fun e w' ⟨h1, h2⟩ => ⟨h1, hide (hW.on h2), (hW.on h2).p4.e0, (hW.on h2).p4.e1, (hW.on h2).p4.e2, (hW.on h2).p4.e3⟩
      have s0 := decB_size b0; have s1 := decB_size b1; have s2 := decB_size b2; have s3 := decB_size b3
      have s4 : (⟨(plX l k).toArray⟩ : ByteArray).size ≤ 4000 := by simp [ByteArray.size]; omega
      clear hst q
      generalize (⟨(plX l k).toArray⟩ : ByteArray) = S at *
      have t1 : (⟨#[115, 101, 97, 108, 32]⟩ : ByteArray).size = 5 := rfl
      have t2 : (⟨#[32]⟩ : ByteArray).size = 1 := rfl
      have t3 : (⟨#[10]⟩ : ByteArray).size = 1 := rfl
      have hA0 : ∀ T, binOp .add T (.string S) (.string (⟨#[115, 101, 97, 108, 32]⟩ : ByteArray)) = pure (.string (S ++ (⟨#[115, 101, 97, 108, 32]⟩ : ByteArray))) := fun T => addP T _ _ (by (repeat rw [ByteArray.size_append]); omega)
      have hA1 : ∀ T, binOp .add T (.string (S ++ (⟨#[115, 101, 97, 108, 32]⟩ : ByteArray))) (.string (decB x.num)) = pure (.string ((S ++ (⟨#[115, 101, 97, 108, 32]⟩ : ByteArray)) ++ (decB x.num))) := fun T => addP T _ _ (by (repeat rw [ByteArray.size_append]); omega)
      have hA2 : ∀ T, binOp .add T (.string ((S ++ (⟨#[115, 101, 97, 108, 32]⟩ : ByteArray)) ++ (decB x.num))) (.string (⟨#[32]⟩ : ByteArray)) = pure (.string (((S ++ (⟨#[115, 101, 97, 108, 32]⟩ : ByteArray)) ++ (decB x.num)) ++ (⟨#[32]⟩ : ByteArray))) := fun T => addP T _ _ (by (repeat rw [ByteArray.size_append]); omega)
      have hA3 : ∀ T, binOp .add T (.string (((S ++ (⟨#[115, 101, 97, 108, 32]⟩ : ByteArray)) ++ (decB x.num)) ++ (⟨#[32]⟩ : ByteArray))) (.string (decB x.first)) = pure (.string ((((S ++ (⟨#[115, 101, 97, 108, 32]⟩ : ByteArray)) ++ (decB x.num)) ++ (⟨#[32]⟩ : ByteArray)) ++ (decB x.first))) := fun T => addP T _ _ (by (repeat rw [ByteArray.size_append]); omega)
      have hA4 : ∀ T, binOp .add T (.string ((((S ++ (⟨#[115, 101, 97, 108, 32]⟩ : ByteArray)) ++ (decB x.num)) ++ (⟨#[32]⟩ : ByteArray)) ++ (decB x.first))) (.string (⟨#[32]⟩ : ByteArray)) = pure (.string (((((S ++ (⟨#[115, 101, 97, 108, 32]⟩ : ByteArray)) ++ (decB x.num)) ++ (⟨#[32]⟩ : ByteArray)) ++ (decB x.first)) ++ (⟨#[32]⟩ : ByteArray))) := fun T => addP T _ _ (by (repeat rw [ByteArray.size_append]); omega)
      have hA5 : ∀ T, binOp .add T (.string (((((S ++ (⟨#[115, 101, 97, 108, 32]⟩ : ByteArray)) ++ (decB x.num)) ++ (⟨#[32]⟩ : ByteArray)) ++ (decB x.first)) ++ (⟨#[32]⟩ : ByteArray))) (.string (decB x.next)) = pure (.string ((((((S ++ (⟨#[115, 101, 97, 108, 32]⟩ : ByteArray)) ++ (decB x.num)) ++ (⟨#[32]⟩ : ByteArray)) ++ (decB x.first)) ++ (⟨#[32]⟩ : ByteArray)) ++ (decB x.next))) := fun T => addP T _ _ (by (repeat rw [ByteArray.size_append]); omega)
      have hA6 : ∀ T, binOp .add T (.string ((((((S ++ (⟨#[115, 101, 97, 108, 32]⟩ : ByteArray)) ++ (decB x.num)) ++ (⟨#[32]⟩ : ByteArray)) ++ (decB x.first)) ++ (⟨#[32]⟩ : ByteArray)) ++ (decB x.next))) (.string (⟨#[32]⟩ : ByteArray)) = pure (.string (((((((S ++ (⟨#[115, 101, 97, 108, 32]⟩ : ByteArray)) ++ (decB x.num)) ++ (⟨#[32]⟩ : ByteArray)) ++ (decB x.first)) ++ (⟨#[32]⟩ : ByteArray)) ++ (decB x.next)) ++ (⟨#[32]⟩ : ByteArray))) := fun T => addP T _ _ (by (repeat rw [ByteArray.size_append]); omega)
      have hA7 : ∀ T, binOp .add T (.string (((((((S ++ (⟨#[115, 101, 97, 108, 32]⟩ : ByteArray)) ++ (decB x.num)) ++ (⟨#[32]⟩ : ByteArray)) ++ (decB x.first)) ++ (⟨#[32]⟩ : ByteArray)) ++ (decB x.next)) ++ (⟨#[32]⟩ : ByteArray))) (.string (decB x.size)) = pure (.string ((((((((S ++ (⟨#[115, 101, 97, 108, 32]⟩ : ByteArray)) ++ (decB x.num)) ++ (⟨#[32]⟩ : ByteArray)) ++ (decB x.first)) ++ (⟨#[32]⟩ : ByteArray)) ++ (decB x.next)) ++ (⟨#[32]⟩ : ByteArray)) ++ (decB x.size))) := fun T => addP T _ _ (by (repeat rw [ByteArray.size_append]); omega)
      have hA8 : ∀ T, binOp .add T (.string ((((((((S ++ (⟨#[115, 101, 97, 108, 32]⟩ : ByteArray)) ++ (decB x.num)) ++ (⟨#[32]⟩ : ByteArray)) ++ (decB x.first)) ++ (⟨#[32]⟩ : ByteArray)) ++ (decB x.next)) ++ (⟨#[32]⟩ : ByteArray)) ++ (decB x.size))) (.string (⟨#[10]⟩ : ByteArray)) = pure (.string (((((((((S ++ (⟨#[115, 101, 97, 108, 32]⟩ : ByteArray)) ++ (decB x.num)) ++ (⟨#[32]⟩ : ByteArray)) ++ (decB x.first)) ++ (⟨#[32]⟩ : ByteArray)) ++ (decB x.next)) ++ (⟨#[32]⟩ : ByteArray)) ++ (decB x.size)) ++ (⟨#[10]⟩ : ByteArray))) := fun T => addP T _ _ (by (repeat rw [ByteArray.size_append]); omega)
      clear t1 t2 t3 s0 s1 s2 s3 s4 hln
      go_wp2_with fail
      go_region_held3 (fun W => W.cell? ⟨wr.heap.size, 0, none⟩ = some (.int .i64 x.num) ∧ W.cell? ⟨wr.heap.size, 1, none⟩ = some (.int .i64 x.first) ∧ W.cell? ⟨wr.heap.size, 2, none⟩ = some (.int .i64 x.next) ∧ W.cell? ⟨wr.heap.size, 3, none⟩ = some (.int .i64 x.size)) (first | exact ⟨z0, z1, z2, z3⟩ | exact ⟨f0, f1, f2, f3⟩ | go_keep)
        (first | (go_at_call 11; refine (unhide HD _ _ (by assumption) (by first | exact unhide HSA | exact (unhide HSA).drew | exact unhide HSTD | exact unhide HST)).mono ?_; rintro e w2 ⟨rfl, HSA, z0, z1, z2, z3⟩))
      all_goals
        go_wp2_with fail
        go_roundw
        case rel => exact ⟨k + 1, by omega, by go_num, strV (by rw [unhide HSUC]; exact unhide HSB), ⟨(unhide HSA).below, (unhide HSA).box⟩⟩
        case measure => simp [intOf]; omega
    · obtain rfl : k = l.parts.length := by omega
      obtain ⟨b0, b1⟩ := unhide HOPS
      have HOB := hide (open_bytes (plX l l.parts.length) l)
      have hst := HS.out
      have HST := hide hst; have HSTD := hide hst.drew
      have HD : Hid (∀ n W, Sm n → PwS2 w (row3 (.slice a l.parts.length cap) (.int .i64 l.op) (.int .i64 l.fi)) W → Calls Tryd.prog 11 #[.int .i64 n] W fun e w' => e = .returned (.string (decB n)) ∧ Hid (PwS2 w (row3 (.slice a l.parts.length cap) (.int .i64 l.op) (.int .i64 l.fi)) w') ∧ w'.cell? ⟨w.heap.size, 1, none⟩ = some (.int .i64 l.op) ∧ w'.cell? ⟨w.heap.size, 2, none⟩ = some (.int .i64 l.fi)) := fun n W hn hW =>
        (l6Dec_any n W hn.1 hn.2).mono fun e w' ⟨h1, h2⟩ => ⟨h1, hide (hW.on h2), (hW.on h2).box.cell (i := 1) (by omega), (hW.on h2).box.cell (i := 2) (by omega)⟩
      have s0 := decB_size b0; have s1 := decB_size b1
      have s4 : (⟨(plX l l.parts.length).toArray⟩ : ByteArray).size ≤ 4000 := by simp [ByteArray.size]; omega
      have HWT := hide (show plW l = ⟨(plX l l.parts.length ++ (openL l ++ endL)).toArray⟩ from unhide HW)
      clear hst q HS
      generalize (⟨(plX l l.parts.length).toArray⟩ : ByteArray) = S at *
      have t1 : (⟨#[111, 112, 101, 110, 32]⟩ : ByteArray).size = 5 := rfl
      have t2 : (⟨#[32]⟩ : ByteArray).size = 1 := rfl
      have t3 : (⟨#[10, 101, 110, 100, 10]⟩ : ByteArray).size = 5 := rfl
      have hA0 : ∀ T, binOp .add T (.string S) (.string (⟨#[111, 112, 101, 110, 32]⟩ : ByteArray)) = pure (.string (S ++ (⟨#[111, 112, 101, 110, 32]⟩ : ByteArray))) := fun T => addP T _ _ (by (repeat rw [ByteArray.size_append]); omega)
      have hA1 : ∀ T, binOp .add T (.string (S ++ (⟨#[111, 112, 101, 110, 32]⟩ : ByteArray))) (.string (decB l.op)) = pure (.string ((S ++ (⟨#[111, 112, 101, 110, 32]⟩ : ByteArray)) ++ (decB l.op))) := fun T => addP T _ _ (by (repeat rw [ByteArray.size_append]); omega)
      have hA2 : ∀ T, binOp .add T (.string ((S ++ (⟨#[111, 112, 101, 110, 32]⟩ : ByteArray)) ++ (decB l.op))) (.string (⟨#[32]⟩ : ByteArray)) = pure (.string (((S ++ (⟨#[111, 112, 101, 110, 32]⟩ : ByteArray)) ++ (decB l.op)) ++ (⟨#[32]⟩ : ByteArray))) := fun T => addP T _ _ (by (repeat rw [ByteArray.size_append]); omega)
      have hA3 : ∀ T, binOp .add T (.string (((S ++ (⟨#[111, 112, 101, 110, 32]⟩ : ByteArray)) ++ (decB l.op)) ++ (⟨#[32]⟩ : ByteArray))) (.string (decB l.fi)) = pure (.string ((((S ++ (⟨#[111, 112, 101, 110, 32]⟩ : ByteArray)) ++ (decB l.op)) ++ (⟨#[32]⟩ : ByteArray)) ++ (decB l.fi))) := fun T => addP T _ _ (by (repeat rw [ByteArray.size_append]); omega)
      have hA4 : ∀ T, binOp .add T (.string ((((S ++ (⟨#[111, 112, 101, 110, 32]⟩ : ByteArray)) ++ (decB l.op)) ++ (⟨#[32]⟩ : ByteArray)) ++ (decB l.fi))) (.string (⟨#[10, 101, 110, 100, 10]⟩ : ByteArray)) = pure (.string (((((S ++ (⟨#[111, 112, 101, 110, 32]⟩ : ByteArray)) ++ (decB l.op)) ++ (⟨#[32]⟩ : ByteArray)) ++ (decB l.fi)) ++ (⟨#[10, 101, 110, 100, 10]⟩ : ByteArray))) := fun T => addP T _ _ (by (repeat rw [ByteArray.size_append]); omega)
      clear t1 t2 t3 s0 s1 s4 hln
      go_wp2_with fail
      go_region_held3 (fun W => W.cell? ⟨w.heap.size, 1, none⟩ = some (.int .i64 l.op) ∧ W.cell? ⟨w.heap.size, 2, none⟩ = some (.int .i64 l.fi)) (first | exact ⟨z0, z1⟩ | exact ⟨k1, k2⟩ | go_keep)
        (first | (go_at_call 11; refine (unhide HD _ _ (by assumption) (by first | exact unhide HSA | exact (unhide HSA).drew | exact unhide HSTD | exact unhide HST)).mono ?_; rintro e w2 ⟨rfl, HSA, z0, z1⟩))
      all_goals
        go_wp2_with fail
        go_ret
        exact ⟨ret_str (by rw [unhide HWT]; exact unhide HOB), (unhide HSA).below⟩
end Go.Proofs.YtmaojhacdelleaaDoor
