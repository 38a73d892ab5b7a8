/- The walks of the program's writeBetween and fieldTexts: they put the fields of a form one behind the other. The text has at most 2^40 bytes. -/
import Derived.Test.YthkjhmcbmakkdaaDoorPart00
import Derived.Test.YthkjhmcbmakkdaaDoorPart30
import Derived.Test.YthkjhmcbmakkdaaDoorPart11
import Derived.Test.YthkjhmcbmakkdaaDoorRows
import Derived.Lib.AppendStr
import Derived.Laws.IdiomStrings
import Derived.Deep.RegionHeld3
import Derived.Test.YthkjhmcbmakkdaaDoorPart26
import Derived.Test.YthkjhmcbmakkdaaDoorPart22
namespace Go.Proofs.YthkjhmcbmakkdaaDoor
open Go Go.RowKit

/-- What the fields come to, k of them. -/
def fx (ns kss : List ByteArray) : Nat → List UInt8
  | 0 => []
  | k + 1 => fx ns kss k ++ (kAhead ns k ++ (kss.getD k ByteArray.empty).data.toList)

theorem fx_le (ns kss : List ByteArray) (k m : Nat) (h : k ≤ m) : (fx ns kss k).length ≤ (fx ns kss m).length := by
  induction m with
  | zero => have : k = 0 := by omega
            subst this; exact Nat.le_refl _
  | succ m ih =>
    by_cases e : k = m + 1
    · subst e; exact Nat.le_refl _
    · have := ih (by omega)
      rw [fx, List.length_append]; omega

set_option maxRecDepth 100000 in
set_option maxHeartbeats 800000 in
theorem writeBetween_any (base : Nat) (v : Value) (l : List UInt8) (k : Nat) (w : World) (h : ByRow base w v l) (hb : base ≤ w.heap.size) (hl : l.length ≤ 1099511627776) :
    Calls Tryd.prog 70 #[v, .int .i64 k] w fun e w' => ∃ v', e = .returned v' ∧ ByRow base w' v' (l ++ (if 0 < k then [44] else [])) ∧ Below base w w' := by
  obtain ⟨a, cap, hv⟩ := h.slice
  subst hv
  obtain ⟨i0, hi, hz0, hz1, hz2⟩ := info_parts infoU8
  have HH := hide h; have HII := hide hi; have HZ0 := hide hz0; have HZ1 := hide hz1; have HZ2 := hide hz2
  clear h hi hz0 hz1 hz2
  by_cases hk : 0 < k
  · have hd : ((k : Int) == 0) = false := by simp; omega
    have HK := hide hk; clear hk
    go_enter Tryd.func70, Tryd.ntmps70
    go_wp2_with (at_builtin; refine append_row _ rfl _ _ 22 rfl base 5 i0 (.int .u8 0) 1 1 Tryd.underlying22 (unhide HII) (unhide HZ0) (unhide HZ1) (unhide HZ2) rfl (by decide) (.slice a l.length cap) l.length (bc l) rfl ((unhide HH).alloc _) ⟨w.heap.size, 0, none⟩ 1 1 [.int .u8 44] rfl rfl (cell_one _ _ _) (fun u hu => by simp at hu; subst hu; rfl) (by decide) (by unfold maxLen; omega) (by omega) (by simp; omega) ?_; intro v' w4 hown' hgrow hv')
    have hr : ByRow base w4 v' (l ++ [44]) := by
      show w4.ownsRow base 5 1 v' (l ++ [44]).length (bc (l ++ [44]))
      rw [bc_append, List.length_append]; exact hown'
    have hbl : Below base w w4 := ((Below.refl base w).alloc hb _).trans (ByRow.below (l := l) ((unhide HH).alloc _) hgrow (by simp; omega))
    obtain ⟨a', cap', hv''⟩ := hr.slice
    subst hv''
    have HR := hide hr; have HBL := hide hbl
    clear hr hbl hgrow hv' hown'
    go_wp2_with fail
    go_ret
    exact ⟨_, rfl, by first | exact unhide HR | (rw [if_pos (unhide HK)]; exact unhide HR), unhide HBL⟩
  · have hd : ((k : Int) == 0) = true := by simp; omega
    have HK := hide hk; clear hk
    go_enter Tryd.func70, Tryd.ntmps70
    go_wp2_with fail
    go_ret
    exact ⟨_, rfl, by first | exact unhide HH | (rw [List.append_nil]; exact unhide HH) | (rw [if_neg (unhide HK), List.append_nil]; exact unhide HH), Below.refl _ _⟩

/-- append in a region that draws its order, by what its run is known to give. -/
theorem step_append_run {P : Program} (w w2 : World) {ops : Array Oper} {o : Oper} {a : Act} {K : Act → World → Prop} {Q : Exit → Act → World → Prop} {E : Prop} (hgd : o.guard = none) (s x : Operand) (t u : TypeId)
    (ho : o.op = .call { callee := .builtin .append, args := #[s, x], argTypes := #[t, u] }) (v1 v2 v' : Value) (hs : a.eval s = v1) (hx : a.eval x = v2)
    (hr : ∀ ty, (Builtin.append_ #[t, u] ty #[v1, v2]).run P w = .ok v' w2) (h : K (a.put o.dst v') w2) :
    if Region.wanted o (yielded ops a.tmps) = true then Oper.wp P o a w K Q else E := by
  have hw : Region.wanted o (yielded ops a.tmps) = true := by simp [Region.wanted, hgd]
  rw [if_pos hw]
  unfold Oper.wp execOp
  simp only [ho, resolve, invoke, builtin, Sem.run_bind, Sem.run_pure, Result.andThen_ok, List.map_toArray, List.map_cons, List.map_nil, hs, hx, hr]
  exact h

set_option maxRecDepth 100000 in
set_option maxHeartbeats 1600000 in
theorem fieldTexts_any (ns kss : List ByteArray) (P : Nat → Prop) (vN vK : Value) (w : World) (hP : ∀ b, P b → b < w.heap.size) (hN : StrsAt P w vN ns) (hK : StrsAt P w vK kss) (hle : kss.length ≤ ns.length) (hlen : (fx ns kss kss.length).length ≤ 1099511627776) :
    Calls Tryd.prog 48 #[vN, vK] w fun e w' => e = .returned (.string ⟨(fx ns kss kss.length).toArray⟩) ∧ Below w.heap.size w w' := by
  obtain ⟨aN, capN, rfl, hnl, hnc⟩ := hN
  obtain ⟨aK, capK, rfl, hkl, hkc⟩ := hK
  obtain ⟨i0, hi, hz0, hz1, hz2⟩ := info_parts infoU8
  have HNC := hide hnc; have HKC := hide hkc; have HP := hide hP; have HLEN := hide hlen
  have HII := hide hi; have HZ0 := hide hz0; have HZ1 := hide hz1; have HZ2 := hide hz2
  clear hnc hkc hP hlen hi hz0 hz1 hz2
  go_enter Tryd.func48, Tryd.ntmps48
  go_wp2_with fail
  go_loopw [5, 10] (fun f i wr => ∃ (k : Nat) (l : List UInt8) (a : Option Addr) (cap : Nat), k ≤ kss.length ∧ i = .int .i64 k ∧ f = .slice a l.length cap ∧ l.length ≤ 1099511627776 ∧ Hid (ByRow w.heap.size wr (.slice a l.length cap) l) ∧ Hid (l = fx ns kss k) ∧ Hid (Below w.heap.size w wr)) (fun _ i _ => kss.length - (intOf i).toNat)
  case atStart => exact ⟨0, [], none, 0, Nat.zero_le _, rfl, rfl, by simp, World.ownsRow_nil _ _ _ _, rfl, Below.refl _ _⟩
  case round =>
    obtain ⟨k, l, a, cap, hk, rfl, rfl, hl, HR, HL, HB⟩ := hrel
    by_cases hlt : k < kss.length
    · obtain ⟨kb, ko, rfl, hpk, hck, hsk⟩ := unhide HKC k hlt
      obtain ⟨nb, no, rfl, hpn, hcn, hsn⟩ := unhide HNC k (by omega)
      have hsw := HB.out.size
      have hkn : k < ns.length := by omega
      have hkb := unhide HP kb hpk
      have hnb := unhide HP nb hpn
      have ek : wr.cell? ⟨kb, ko + k, none⟩ = some (.string kss[k]) := by rw [HB.out.cell hkb]; exact hck
      have en : wr.cell? ⟨nb, no + k, none⟩ = some (.string (ns[k]'(by omega))) := by rw [HB.out.cell hnb]; exact hcn
      have hstep : fx ns kss (k + 1) = l ++ ((if 0 < k then [44] else [] : List UInt8) ++ ((ns[k]'(by omega)).data.toList ++ [58]) ++ kss[k].data.toList) := by
        rw [fx, ← HL.out]
        simp [kAhead, List.getD, hlt, show k < ns.length by omega]
      have hlen2 : (fx ns kss (k + 1)).length ≤ 1099511627776 := Nat.le_trans (fx_le ns kss (k + 1) kss.length (by omega)) (unhide HLEN)
      generalize (ns[k]'(by omega)) = nm at *
      generalize kss[k] = kt at *
      generalize hsep : (if 0 < k then [44] else [] : List UInt8) = sep at *
      have hl3 : l.length + sep.length + nm.size + 1 + kt.size ≤ 1099511627776 := by
        rw [hstep] at hlen2
        simp only [List.length_append, List.length_cons, List.length_nil] at hlen2
        have e1 : nm.data.toList.length = nm.size := rfl
        have e2 : kt.data.toList.length = kt.size := rfl
        omega
      have hcall : Calls Tryd.prog 70 #[.slice a l.length cap, .int .i64 k] wr.drew fun e w1 => ∃ a1 n1 cap1, e = .returned (.slice a1 n1 cap1) ∧ w1.cell? ⟨nb, no + k, none⟩ = some (.string nm) ∧
          ∃ a2 n2 cap2 w2, (∀ ty, (Builtin.append_ #[22, 9] ty #[.slice a1 n1 cap1, .string nm]).run Tryd.prog w1 = .ok (.slice a2 n2 cap2) w2) ∧ w2.cell? ⟨nb, no + k, none⟩ = some (.string nm) ∧ Hid (n2 = (l ++ sep ++ nm.data.toList).length) ∧ Hid (ByRow w.heap.size w2 (.slice a2 n2 cap2) (l ++ sep ++ nm.data.toList)) ∧ Hid (Below w.heap.size w w2) := by
        refine (writeBetween_any w.heap.size _ l k wr.drew HR.out hsw hl).mono ?_
        rintro e w1 ⟨v1, rfl, hr1, hb1⟩
        rw [hsep] at hr1
        obtain ⟨a1, cap1, hv1⟩ := hr1.slice
        subst hv1
        have hb1' : Below w.heap.size wr w1 := (Below.refl _ wr).drew.trans hb1
        have hs1 := hb1'.size
        obtain ⟨v2, w2, hrun, hown2, hg2⟩ : ∃ v2 w2, (∀ ty, (Builtin.append_ #[22, 9] ty #[.slice a1 (l ++ sep).length cap1, .string nm]).run Tryd.prog w1 = .ok v2 w2) ∧ w2.ownsRow w.heap.size 5 1 v2 ((l ++ sep).length + nm.size) (bc (l ++ sep) ++ Lib.strCells nm) ∧ w1.grownBy w2 (Value.slice a1 (l ++ sep).length cap1).ownBlock := by
          obtain ⟨v2, w2, g1, g2, g3, -⟩ := Lib.run_append_own_string (P := Tryd.prog) w1 w.heap.size 22 9 0 5 i0 Tryd.underlying22 Tryd.underlying9 (unhide HII) (unhide HZ0) (unhide HZ1) (unhide HZ2) _ _ _ hr1 nm (by unfold maxLen; rw [List.length_append]; omega) (by rw [List.length_append]; omega) (by omega)
          exact ⟨v2, w2, fun ty => g1, g2, g3⟩
        have hr2 : ByRow w.heap.size w2 v2 (l ++ sep ++ nm.data.toList) := by
          show w2.ownsRow w.heap.size 5 1 v2 (l ++ sep ++ nm.data.toList).length (bc (l ++ sep ++ nm.data.toList))
          rw [bc_append, List.length_append]; exact hown2
        have hb2 : Below w.heap.size w1 w2 := hr1.below hg2 (by omega)
        obtain ⟨a2, cap2, hv2⟩ := hr2.slice
        subst hv2
        exact ⟨a1, _, cap1, rfl, by rw [hb1'.cell hnb]; exact en, a2, _, cap2, w2, hrun, by rw [hb2.cell hnb, hb1'.cell hnb]; exact en, rfl, hr2, HB.out.trans (hb1'.trans hb2)⟩
      have HCALL := hide hcall; have HSTEP := hide hstep; have HLEN2 := hide hlen2
      clear hcall hstep hlen2 hpk hpn hck hcn
      go_wp2_with fail
      go_region_held3 (fun W => W.cell? ⟨nb, no + k, none⟩ = some (.string nm)) (first | exact f1 | exact f2 | go_keep)
        (first | (go_at_call 70; refine (unhide HCALL).mono ?_; rintro e w1 ⟨a1, n1, cap1, rfl, f1, a2, n2, cap2, w2, hrun, f2, HN2, HR2, HB2⟩) | (refine step_append_run _ _ (by rfl) _ _ _ _ (by rfl) _ _ _ (by rfl) (by rfl) hrun ?_))
      clear hrun f1 f2
      have hn2 : n2 + 1 + kt.size ≤ 1099511627776 := by
        have e : n2 = l.length + sep.length + nm.size := by rw [HN2.out]; simp only [List.length_append]; rfl
        omega
      have hs2 := HB2.out.size
      have hown2 : w2.ownsRow w.heap.size 5 1 (.slice a2 n2 cap2) n2 (bc (l ++ sep ++ nm.data.toList)) := by
        have := HR2.out
        unfold ByRow at this
        rw [← HN2.out] at this
        exact this
      have HOWN2 := hide hown2; clear hown2
      go_wp2_with (first
        | (at_builtin
           refine append_row _ rfl _ _ 22 rfl w.heap.size 5 i0 (.int .u8 0) 1 1 Tryd.underlying22 (unhide HII) (unhide HZ0) (unhide HZ1) (unhide HZ2) rfl (by decide) (.slice a2 n2 cap2) n2 (bc (l ++ sep ++ nm.data.toList)) rfl ((unhide HOWN2).alloc _) ⟨w2.heap.size, 0, none⟩ 1 1 [.int .u8 58] rfl rfl (cell_one _ _ _) (fun u hu => by simp at hu; subst hu; rfl) (by decide) (by unfold maxLen; omega) (by omega) (by simp; omega) ?_
           intro v3 w3 hown3 hgrow3 hv3
           have hr3 : ByRow w.heap.size w3 v3 (l ++ sep ++ nm.data.toList ++ [58]) := by
             show w3.ownsRow w.heap.size 5 1 v3 (l ++ sep ++ nm.data.toList ++ [58]).length (bc (l ++ sep ++ nm.data.toList ++ [58]))
             rw [bc_append, List.length_append, ← HN2.out]; exact hown3
           have hb3 : Below w.heap.size w2 w3 := ((Below.refl w.heap.size w2).alloc hs2 _).trans ((Below.refl w.heap.size _).grown hgrow3 (by simp; omega) (fun k e => ((unhide HOWN2).lt k e).1))
           have hs3 := hb3.size
           obtain ⟨a3, cap3, hv3'⟩ := hr3.slice
           obtain ⟨n3, hn3⟩ : ∃ n3, n3 = (l ++ sep ++ nm.data.toList ++ [58]).length := ⟨_, rfl⟩
           rw [← hn3] at hv3'
           subst hv3'
           have hn3' : n3 + kt.size ≤ 1099511627776 := by
             have e : n3 = l.length + sep.length + nm.size + 1 := by rw [hn3]; simp only [List.length_append, List.length_cons, List.length_nil]; rfl
             omega
           have hown3' : w3.ownsRow w.heap.size 5 1 (.slice a3 n3 cap3) n3 (bc (l ++ sep ++ nm.data.toList ++ [58])) := by
             have := hr3
             unfold ByRow at this
             rw [← hn3] at this
             exact this
           have HOWN3 := hide hown3'; have HB3 := hide hb3; have HN3 := hide hn3
           clear hown3 hown3' hgrow3 hv3 hr3 hb3 hn3)
        | (at_builtin
           refine Lib.wpList_append_own_string _ rfl _ _ 22 9 rfl w.heap.size 5 i0 Tryd.underlying22 Tryd.underlying9 (unhide HII) (unhide HZ0) (unhide HZ1) (unhide HZ2) (.slice a3 n3 cap3) n3 (bc (l ++ sep ++ nm.data.toList ++ [58])) rfl (unhide HOWN3) kt rfl (by unfold maxLen; omega) (by omega) (by omega) ?_
           intro v4 w4 hown4 hgrow4 hv4))
      have hr4 : ByRow w.heap.size w4 v4 (l ++ sep ++ nm.data.toList ++ [58] ++ kt.data.toList) := by
        show w4.ownsRow w.heap.size 5 1 v4 (l ++ sep ++ nm.data.toList ++ [58] ++ kt.data.toList).length (bc (l ++ sep ++ nm.data.toList ++ [58] ++ kt.data.toList))
        rw [bc_append, List.length_append, ← unhide HN3]; exact hown4
      have hb4 : Below w.heap.size w3 w4 := (Below.refl w.heap.size w3).grown hgrow4 (by omega) (fun k e => ((unhide HOWN3).lt k e).1)
      have hfin : l ++ sep ++ nm.data.toList ++ [58] ++ kt.data.toList = fx ns kss (k + 1) := by rw [unhide HSTEP]; simp
      rw [hfin] at hr4
      obtain ⟨a4, cap4, hv4'⟩ := hr4.slice
      subst hv4'
      have HR4 := hide hr4; have HB4 := hide (HB2.out.trans ((unhide HB3).trans hb4))
      clear hown4 hgrow4 hv4 hr4 hb4 hfin
      go_wp2_with fail
      go_roundw
      case rel => exact ⟨k + 1, fx ns kss (k + 1), a4, cap4, by omega, by go_num, rfl, unhide HLEN2, unhide HR4, rfl, unhide HB4⟩
      case measure => simp [intOf]; omega
    · obtain rfl : k = kss.length := by omega
      have hconv := ByRow.str HR.out
      go_wp2_with fail
      go_ret
      exact ⟨by rw [HL.out]; rfl, HB.out⟩

end Go.Proofs.YthkjhmcbmakkdaaDoor

/- The walks of the program's kindText and of gather with it: the text of a schema all of whose parts are ok. The table kindWords is as the program lays it. The text has at most 2^40 bytes. -/

namespace Go.Proofs.YthkjhmcbmakkdaaDoor
open Go Go.RowKit

/-- The text of a schema as a string. -/
def kTx (t : Kd) : ByteArray := ⟨(kxT t).toArray⟩

theorem fx_kids (ns : List ByteArray) (ks : List Kd) (k : Nat) (hk : k ≤ ks.length) : fx ns (ks.map kTx) k = kxTo ns ks k := by
  induction k with
  | zero => simp [fx, kxTo, kxK]
  | succ k ih =>
    rw [fx, kxTo_succ ns ks k (by omega), ih (by omega)]
    congr 2
    simp [List.getD, show k < ks.length by omega, kTx]

/-- A row of strings of the call's own is a slice of strings. -/
theorem strs_of_row {base : Nat} {w : World} {v : Value} {ss : List ByteArray} (h : w.ownsRow base 9 1 v ss.length (ss.map Value.string)) (hs : ∀ x, x ∈ ss → x.size ≤ 9223372036854775807) : StrsAt (fun b => base ≤ b ∧ b < w.heap.size) w v ss := by
  rcases h.2 with ⟨hv, hn0⟩ | ⟨g, cap, cur, hv, hgb, hh, hle, hm2, hsz, htk⟩
  · exact ⟨none, 0, by rw [hv, hn0], by omega, fun i hi => by omega⟩
  · refine ⟨some ⟨g, 0, none⟩, cap, hv, by unfold maxLen at hm2; omega, fun i hi => ⟨g, 0, rfl, ⟨hgb, (Array.getElem?_eq_some_iff.1 hh).1⟩, ?_, hs _ (List.getElem_mem hi)⟩⟩
    have h1 : (ss.map Value.string)[i]? = some (.string ss[i]) := by simp [hi]
    rw [← htk, List.getElem?_take_of_lt (by omega)] at h1
    simp only [Nat.zero_add, World.cell?, hh]
    simpa using h1

theorem ret_str3 {a b : ByteArray} (h : a = b) : Ending.returned (.string a) = .returned (.string b) := by rw [h]

set_option maxRecDepth 100000 in
set_option maxHeartbeats 800000 in
theorem kindText_any (t : Kd) (P : Nat → Prop) (c : C3) (vK : Value) (w : World) (hP : ∀ b, P b → b < w.heap.size) (hrep : KRep P w t c) (hK : StrsAt P w vK (t.kids.map kTx)) (hT : KTab w) (hsh : shB t = true) (hlen : (kxT t).length ≤ 1099511627776) :
    Calls Tryd.prog 24 #[.agg #[c.c0, c.c1, c.c2], vK] w fun e w' => e = .returned (.string (kTx t)) ∧ Below w.heap.size w w' := by
  obtain ⟨c0, c1, c2⟩ := c
  obtain ⟨e0, -, hns, a, cap, e2, -, -⟩ := hrep.open
  simp only at e0 e2 hns
  have HNS := hide hns; have HKK := hide hK
  obtain ⟨a3, cap3, e1, -, -⟩ := hns
  obtain ⟨aK, capK, eK, hkl, hkc⟩ := hK
  subst e0 e1 e2 eK
  have hbx : ∀ o, Below w.heap.size w (w.alloc o) := fun o => (Below.refl _ _).alloc (Nat.le_refl _) o
  have hx := kxT_eq t
  have HBX := hide hbx
  have hT' : ∀ o, KTab (w.alloc o) := fun o => hT.below (hbx o)
  rcases shB_cases hsh with ⟨hs, -, -⟩ | ⟨hs, hk1, -⟩ | ⟨hs, hk1, -⟩
  · have b4 : (t.sort == 4) = false := by simp; omega
    have b6 : (t.sort == 6) = false := by simp; omega
    have b5 : (t.sort == 5) = false := by simp; omega
    rcases hs with hs | hs | hs
    · have t1 : ∀ o, (w.alloc o).cell? ⟨0, 1, none⟩ = some (.string ⟨#[110, 117, 109]⟩) := fun o => (hT' o).1
      rw [if_pos hs] at hx
      have HX := hide hx
      rw [hs] at b4 b6 b5 ⊢
      clear hrep hkc hbx hx hT hT' hsh hlen HNS HKK hs hP b4 b5 b6
      go_enter Tryd.func24, Tryd.ntmps24
      go_wp2_with fail
      go_ret
      exact ⟨ret_str3 (by rw [kTx, unhide HX]), unhide HBX _⟩
    · have t2 : ∀ o, (w.alloc o).cell? ⟨0, 2, none⟩ = some (.string ⟨#[116, 101, 120, 116]⟩) := fun o => (hT' o).2.1
      rw [if_neg (by omega), if_pos hs] at hx
      have HX := hide hx
      rw [hs] at b4 b6 b5 ⊢
      clear hrep hkc hbx hx hT hT' hsh hlen HNS HKK hs hP b4 b5 b6
      go_enter Tryd.func24, Tryd.ntmps24
      go_wp2_with fail
      go_ret
      exact ⟨ret_str3 (by rw [kTx, unhide HX]), unhide HBX _⟩
    · have t3 : ∀ o, (w.alloc o).cell? ⟨0, 3, none⟩ = some (.string ⟨#[102, 108, 97, 103]⟩) := fun o => (hT' o).2.2
      rw [if_neg (by omega), if_neg (by omega), if_pos hs] at hx
      have HX := hide hx
      rw [hs] at b4 b6 b5 ⊢
      clear hrep hkc hbx hx hT hT' hsh hlen HNS HKK hs hP b4 b5 b6
      go_enter Tryd.func24, Tryd.ntmps24
      go_wp2_with fail
      go_ret
      exact ⟨ret_str3 (by rw [kTx, unhide HX]), unhide HBX _⟩
  · have hp : 0 < t.kids.length := by omega
    obtain ⟨b, o, rfl, hpb, hc0, hsz⟩ := hkc 0 (by simpa using hp)
    have hget : (t.kids.map kTx)[0]'(by simpa using hp) = kTx t.kids[0] := by simp
    rw [hget, Nat.add_zero] at hc0
    have f0 : ∀ ob, (w.alloc ob).cell? ⟨b, o, none⟩ = some (.string (kTx t.kids[0])) := fun ob => by rw [(hbx ob).cell (hP b hpb)]; exact hc0
    have hm : (t.kids.map kTx).length = 1 := by simp [hk1]
    rw [if_neg (by omega), if_neg (by omega), if_neg (by omega), kxM_get hp] at hx
    have hsm : (kTx t.kids[0]).size + 2 ≤ 1099511627778 := by
      have e : (kTx t.kids[0]).size = (kxT t.kids[0]).length := by simp [kTx, ByteArray.size]
      rw [hx] at hlen
      split at hlen
      · simp at hlen; omega
      · split at hlen
        · simp at hlen; omega
        · omega
    have hkx : kxT t.kids[0] = (kTx t.kids[0]).data.toList := by simp [kTx]
    rw [hkx] at hx
    generalize kTx t.kids[0] = tk at *
    rw [hm]
    have HX := hide hx
    clear hrep hkc hbx hx hT hT' hsh hlen HNS HKK hP hc0 hget hm hkl hkx hk1 hp hsz
    rcases hs with hs | hs
    · have HS := hide hs
      rw [hs]
      clear hs
      go_enter Tryd.func24, Tryd.ntmps24
      go_wp2_with fail
      go_ret
      refine ⟨ret_str3 ?_, unhide HBX _⟩
      rw [kTx, unhide HX, if_pos (unhide HS)]; apply ByteArray.ext; simp
    · have HS := hide hs
      rw [hs]
      clear hs
      go_enter Tryd.func24, Tryd.ntmps24
      go_wp2_with fail
      go_ret
      refine ⟨ret_str3 ?_, unhide HBX _⟩
      rw [kTx, unhide HX, if_neg (by have := unhide HS; omega), if_pos (unhide HS)]; apply ByteArray.ext; simp
  · rw [if_neg (by omega), if_neg (by omega), if_neg (by omega), if_neg (by omega), if_neg (by omega)] at hx
    have hml : (t.kids.map kTx).length = t.kids.length := List.length_map _
    have hfx : fx t.names (t.kids.map kTx) (t.kids.map kTx).length = kxK t.names 0 t.kids := by
      rw [hml, fx_kids _ _ _ (Nat.le_refl _), kxTo_all]
    have hfl : (kxK t.names 0 t.kids).length + 2 ≤ 1099511627776 := by rw [hx] at hlen; simp at hlen; omega
    have hcall : ∀ ob, Calls Tryd.prog 48 #[.slice a3 t.names.length cap3, .slice aK t.kids.length capK] (w.alloc ob) fun e w' => e = .returned (.string ⟨(kxK t.names 0 t.kids).toArray⟩) ∧ Below (w.alloc ob).heap.size (w.alloc ob) w' := fun ob => by
      have := fieldTexts_any t.names (t.kids.map kTx) P _ _ (w.alloc ob) (fun b hb => Nat.lt_of_lt_of_le (hP b hb) (hbx ob).size) ((unhide HNS).carry (fun b hb => (hbx ob).block b (hP b hb)) (fun _ h => h)) ((unhide HKK).carry (fun b hb => (hbx ob).block b (hP b hb)) (fun _ h => h)) (by omega) (by rw [hfx]; omega)
      rw [hfx, hml] at this
      exact this
    rw [hml]
    generalize kxK t.names 0 t.kids = tx at *
    have HCALL := hide hcall; have HX := hide hx
    have htz : (⟨tx.toArray⟩ : ByteArray).size = tx.length := by simp [ByteArray.size]
    rw [hs]
    clear hrep hkc hbx hx hT hT' hsh hlen HNS HKK hP hfx hcall hml hs hk1
    go_enter Tryd.func24, Tryd.ntmps24
    go_wp2_with (go_at_call 48; refine (unhide HCALL _).mono ?_; rintro e w1 ⟨rfl, hb1⟩)
    go_ret
    refine ⟨ret_str3 ?_, (unhide HBX _).trans (hb1.mono (unhide HBX _).size)⟩
    rw [kTx, unhide HX]; apply ByteArray.ext; simp

end Go.Proofs.YthkjhmcbmakkdaaDoor
