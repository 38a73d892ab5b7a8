/- The walks of the program's gather with kindText, and of KindWrite: the text of a schema that is ok, and else none. The table kindWords is as the program lays it. -/
import Derived.Test.YthkjhmcbmakkdaaDoorPart31
import Derived.Test.YthkjhmcbmakkdaaDoorPart27
import Derived.Test.YthkjhmcbmakkdaaDoorPart12
namespace Go.Proofs.YthkjhmcbmakkdaaDoor
open Go Go.RowKit

theorem infoStr2 : (Tryd.prog.info? 9).map (fun i => (i.zero, i.size, i.bytes)) = some (some (.string ByteArray.empty), 1, 16) := by kernel_rfl

theorem kids_any (c0 c1 : Value) (a : Option Addr) (len cap : Nat) (w : World) :
    Calls Tryd.prog 111 #[.agg #[c0, c1, .slice a len cap]] w fun e w' => e = .returned (.slice a len cap) ∧ w' = w.alloc (.cells #[c0, c1, .slice a len cap] 26) :=
  (callsIn_wide (n := 1)).1 (kids_in Fence.wide _ trivial rfl c0 c1 a len cap w)

def GSaid (n : Nat) : Prop := ∀ (t : Kd), ksz t < n → ∀ (P : Nat → Prop) (c : C3) (w : World), (∀ b, P b → b < w.heap.size) → KRep P w t c → KTab w → okD t = true → (kxT t).length ≤ 1099511627776 → ksz t ≤ 1000000 →
    Calls Tryd.prog 23 #[.agg #[c.c0, c.c1, c.c2], .func (.func 24) #[] #[]] w fun e w' => e = .returned (.string (kTx t)) ∧ Below w.heap.size w w'

theorem klsz_len (l : List Kd) : l.length ≤ klsz l := by
  induction l with
  | nil => simp
  | cons a r ih =>
    rw [klsz, List.length_cons]
    have : 1 ≤ ksz a := by obtain ⟨s, ns, ks⟩ := a; rw [ksz]; omega
    omega

set_option maxRecDepth 100000 in
set_option maxHeartbeats 1600000 in
theorem gather_step (n : Nat) (IH : GSaid n) : GSaid (n + 1) := by
  intro t hn P c w hP hrep hT ho hlen hsz
  have hoe := ho
  rw [okD_eq, Bool.and_eq_true] at hoe
  have hkl : ∀ i (hi : i < t.kids.length), (kxT t.kids[i]).length ≤ 1099511627776 := fun i hi => by
    have h1 := kxT_len t.kids[i] (okDs_get hoe.2 i hi)
    have h2 := ksz_kid (List.getElem_mem hi)
    omega
  have hks1 : t.kids.length ≤ 1000000 := by
    have := klsz_len t.kids
    have e : ksz t = 1 + klsz t.kids := by obtain ⟨s, ns, ks⟩ := t; rw [ksz]; rfl
    omega
  obtain ⟨c0, c1, c2⟩ := c
  obtain ⟨e0, -, hns, a, cap, e2, -, hks⟩ := hrep.open
  simp only at e0 e2 hns
  obtain ⟨a3, cap3, e1, -, -⟩ := hns
  subst e0 e1 e2
  obtain ⟨i0, hi, hz0, hz1, hz2⟩ := info_parts infoStr2
  have hm : ∀ w, (method 267 26 (.agg #[.int .i64 t.sort, .slice a3 t.names.length cap3, .slice a t.kids.length cap]) "loop.example/teagle/impl.kids").run Tryd.prog w = .ok (111, .agg #[.int .i64 t.sort, .slice a3 t.names.length cap3, .slice a t.kids.length cap]) w := fun _ => by kernel_rfl
  have hkt := fun (vK : Value) (W : World) (hW : Below w.heap.size w W) (hK : StrsAt (fun b => w.heap.size ≤ b ∧ b < W.heap.size) W vK (t.kids.map kTx)) =>
    kindText_any t (fun b => P b ∨ (w.heap.size ≤ b ∧ b < W.heap.size)) ⟨.int .i64 t.sort, .slice a3 t.names.length cap3, .slice a t.kids.length cap⟩ vK W
      (fun b hb => hb.elim (fun h => Nat.lt_of_lt_of_le (hP b h) hW.size) (fun h => h.2)) (KRep.carry (fun b hb => hW.block b (hP b hb)) (fun b hb => Or.inl hb) _ _ hrep) (hK.carry (fun _ _ => rfl) (fun b hb => Or.inr hb)) (hT.below hW) hoe.1 hlen
  have HKT := hide hkt; have HP := hide hP; have HI := hide IH; have HK := hide hks; have HT := hide hT; have HOK := hide hoe.2; have HKL := hide hkl
  have HII := hide hi; have HZ0 := hide hz0; have HZ1 := hide hz1; have HZ2 := hide hz2
  clear hkt hP IH hks hT hoe hkl hi hz0 hz1 hz2 hrep hlen ho
  go_enter Tryd.func23, Tryd.ntmps23
  go_wp2_with (go_at_call 111; refine (kids_any _ _ _ _ _ _).mono ?_; rintro e w' ⟨rfl, rfl⟩)
  clear hm
  have hbl : Below w.heap.size w ((w.alloc (.cells #[.int .i64 t.sort, .slice a3 t.names.length cap3, .slice a t.kids.length cap] 26)).alloc (.cells #[.int .i64 t.sort, .slice a3 t.names.length cap3, .slice a t.kids.length cap] 26)) := ((Below.refl _ _).alloc (Nat.le_refl _) _).alloc (by simp) _
  have hrow : ((w.alloc (.cells #[.int .i64 t.sort, .slice a3 t.names.length cap3, .slice a t.kids.length cap] 26)).alloc (.cells #[.int .i64 t.sort, .slice a3 t.names.length cap3, .slice a t.kids.length cap] 26)).rowIs w.heap.size 26 3 (row3 (.int .i64 t.sort) (.slice a3 t.names.length cap3) (.slice a t.kids.length cap)) := (row3_alloc w _ _ _ _).alloc _
  have HBL := hide hbl; have HROW := hide hrow
  clear hbl hrow
  generalize hkk : t.kids = ks at *
  have HKS := hide hkk; clear hkk
  go_loopw [5, 12] (fun s i wr => ∃ (k : Nat) (a' : Option Addr) (cap' : Nat), k ≤ ks.length ∧ i = .int .i64 k ∧ s = .slice a' k cap' ∧ Hid (wr.ownsRow (w.heap.size + 1) 9 1 (.slice a' k cap') k ((ks.take k).map (fun x => Value.string (kTx x)))) ∧ Hid (wr.rowIs w.heap.size 26 3 (row3 (.int .i64 t.sort) (.slice a3 t.names.length cap3) (.slice a ks.length cap))) ∧ Hid (Below w.heap.size w wr)) (fun _ i _ => ks.length - (intOf i).toNat)
  case atStart => exact ⟨0, none, 0, Nat.zero_le _, rfl, rfl, World.ownsRow_nil _ _ _ _, unhide HROW, unhide HBL⟩
  case round =>
    obtain ⟨k, a', cap', hk, rfl, rfl, HOWN, HR, HB⟩ := hrel
    have hsw := HR.out.lt
    by_cases hlt : k < ks.length
    · obtain ⟨b, o, c, rfl, hpb, hcell, hrp⟩ := unhide HK k hlt
      have hcell' := hcell.carry (HB.out.block b (unhide HP b hpb))
      obtain ⟨d0, d1, d2⟩ := c
      have hrw : KRep P wr ks[k] ⟨d0, d1, d2⟩ := KRep.carry (fun b hb => HB.out.block b (unhide HP b hb)) (fun _ h => h) _ _ hrp
      obtain ⟨g0, -, ⟨a5, cap5, g1, -⟩, a6, cap6, g2, -⟩ := hrp.open
      simp only at g0 g1 g2
      subst g0 g1 g2
      obtain ⟨f0, f1, f2⟩ := hcell'
      simp only at f0 f1 f2
      have hmem : ks[k] ∈ t.kids := by rw [unhide HKS]; exact List.getElem_mem hlt
      have hsm : ksz ks[k] < n := by have := ksz_kid hmem; omega
      have hsm' : ksz ks[k] < ksz t := ksz_kid hmem
      have hba : ∀ ob, Below wr.heap.size wr (wr.alloc ob) := fun ob => (Below.refl _ _).alloc (Nat.le_refl _) ob
      have hcall : ∀ ob, Calls Tryd.prog 23 #[.agg #[.int .i64 ks[k].sort, .slice a5 ks[k].names.length cap5, .slice a6 ks[k].kids.length cap6], .func (.func 24) #[] #[]] (wr.alloc ob) fun e w' => e = .returned (.string (kTx ks[k])) ∧ Below wr.heap.size wr w' := fun ob =>
        (unhide HI ks[k] hsm P ⟨_, _, _⟩ (wr.alloc ob) (fun b hb => by have := unhide HP b hb; simp; omega) (KRep.carry (fun b hb => (hba ob).block b (by have := unhide HP b hb; omega)) (fun _ h => h) _ _ hrw) (((unhide HT).below HB.out).below (hba ob)) (okDs_get (unhide HOK) k hlt) (unhide HKL k hlt) (by omega)).mono
          fun e w' ⟨h1, h2⟩ => ⟨h1, (hba ob).trans (h2.mono (hba ob).size)⟩
      have htk : (ks.take (k + 1)).map (fun x => Value.string (kTx x)) = (ks.take k).map (fun x => Value.string (kTx x)) ++ [.string (kTx ks[k])] := by
        rw [List.take_succ_eq_append_getElem hlt, List.map_append]; rfl
      generalize kTx ks[k] = tk at *
      have HCALL := hide hcall; have HTK := hide htk
      clear hcall htk hcell hrp hrw hmem hsm hsm' hba hpb
      go_wp2_with fail
      refine (unhide HCALL _).mono ?_
      rintro e w2 ⟨rfl, hb2⟩
      have hs2 := hb2.size
      have hown2 : w2.ownsRow (w.heap.size + 1) 9 1 (.slice a' k cap') k ((ks.take k).map (fun x => Value.string (kTx x))) := HOWN.out.kept (But.of_below (B := w.heap.size) hb2) (Or.inr (fun e => by have := (HOWN.out.lt _ e).1; omega))
      have hr2 := HR.out.of_block (hb2.block _ hsw)
      have HOWN2 := hide hown2; have HR2 := hide hr2; have HB2 := hide (HB.out.trans (hb2.mono HB.out.size))
      clear hown2 hr2 hb2 f0 f1 f2 HCALL
      go_wp2_with (at_builtin; refine append_row _ rfl _ _ 23 rfl (w.heap.size + 1) 9 i0 (.string ByteArray.empty) 1 16 Tryd.underlying23 (unhide HII) (unhide HZ0) (unhide HZ1) (unhide HZ2) rfl (by decide) (.slice a' k cap') k ((ks.take k).map (fun x => Value.string (kTx x))) rfl ((unhide HOWN2).alloc _) ⟨w2.heap.size, 0, none⟩ 1 1 [.string tk] rfl rfl (cell_one _ _ _) (fun u hu => by simp at hu; subst hu; rfl) (by decide) (by unfold maxLen; omega) (by omega) (by simp; omega) ?_; intro v' w4 hown4 hgrow4 hv4)
      have hlt4 := (unhide HOWN2).lt
      obtain ⟨g', cap'', hv''⟩ : ∃ g' cap'', v' = .slice (some ⟨g', 0, none⟩) (k + 1) cap'' := by
        rcases hown4.2 with ⟨_, h⟩ | ⟨g', cap'', _, h, _⟩
        · omega
        · exact ⟨g', cap'', h⟩
      subst hv''
      have hb3 : Below w2.heap.size w2 (w2.alloc (.cells #[.string tk] 9)) := (Below.refl _ _).alloc (Nat.le_refl _) _
      have hb4 : Below (w.heap.size + 1) w2 w4 := (hb3.mono (by omega)).trans ((Below.refl _ _).grown hgrow4 (by simp; omega) (fun k e => (hlt4 k e).1))
      have HOWN4 : Hid (w4.ownsRow (w.heap.size + 1) 9 1 (.slice (some ⟨g', 0, none⟩) (k + 1) cap'') (k + 1) ((ks.take (k + 1)).map (fun x => Value.string (kTx x)))) := by
        show World.ownsRow _ _ _ _ _ _ _
        rw [unhide HTK]; exact hown4
      have HR4 := hide ((unhide HR2).of_block (hb4.block _ (by omega)))
      have HB4 := hide ((unhide HB2).trans (hb4.mono (by omega)))
      clear hown4 hgrow4 hv4 hb3 hb4 hlt4
      go_wp2_with fail
      go_roundw
      case rel => exact ⟨k + 1, some ⟨g', 0, none⟩, cap'', by omega, by go_num, rfl, HOWN4, unhide HR4, unhide HB4⟩
      case measure => simp [intOf]; omega
    · obtain rfl : k = ks.length := by omega
      have hst : StrsAt (fun b => w.heap.size ≤ b ∧ b < wr.heap.size) wr (.slice a' ks.length cap') (ks.map kTx) := by
        have h1 := HOWN.out
        rw [List.take_length] at h1
        have h2 : wr.ownsRow (w.heap.size + 1) 9 1 (.slice a' ks.length cap') (ks.map kTx).length ((ks.map kTx).map Value.string) := by
          rw [List.length_map, List.map_map]; exact h1
        refine (strs_of_row h2 (fun x hx => ?_)).carry (fun _ _ => rfl) (fun b hb => ⟨by omega, hb.2⟩)
        obtain ⟨y, hy, rfl⟩ := List.mem_map.1 hx
        obtain ⟨i, hi, rfl⟩ := List.getElem_of_mem hy
        have := unhide HKL i hi
        have e : (kTx ks[i]).size = (kxT ks[i]).length := by simp [kTx, ByteArray.size]
        omega
      have hcall := unhide HKT (.slice a' ks.length cap') wr HB.out hst
      have k0 := HR.out.cell (i := 0) (by omega); have k1 := HR.out.cell (i := 1) (by omega); have k2 := HR.out.cell (i := 2) (by omega)
      simp only [row3] at k0 k1 k2
      have HCALL := hide hcall
      clear hcall hst
      go_wp2_with (go_at_call 24; refine (unhide HCALL).mono ?_; rintro e w2 ⟨rfl, hb2⟩)
      go_ret
      exact ⟨rfl, HB.out.trans (hb2.mono HB.out.size)⟩

theorem gather_all : ∀ n, GSaid n
  | 0 => fun t h => by omega
  | n + 1 => gather_step n (gather_all n)

set_option maxHeartbeats 400000 in
theorem implKindWrite_any (t : Kd) (P : Nat → Prop) (c : C3) (w : World) (hP : ∀ b, P b → b < w.heap.size) (hrep : KRep P w t c) (hwt : wKd t ≤ 1048576) (hT : KTab w) :
    Calls Tryd.prog 7 #[.agg #[c.c0, c.c1, c.c2]] w fun e w' => e = .returned (.string (kWr t)) ∧ Below w.heap.size w w' := by
  obtain ⟨c0, c1, c2⟩ := c
  have hbx : ∀ o, Below w.heap.size w (w.alloc o) := fun o => (Below.refl _ _).alloc (Nat.le_refl _) o
  have hok : ∀ o, Calls Tryd.prog 8 #[.agg #[c0, c1, c2]] (w.alloc o) fun e w' => e = .returned (.bool (decide (0 < qT t 1))) ∧ Below (w.alloc o).heap.size (w.alloc o) w' := fun o =>
    implKindOk_any t P ⟨c0, c1, c2⟩ (w.alloc o) (fun b hb => Nat.lt_of_lt_of_le (hP b hb) (hbx o).size) (KRep.carry (fun b hb => (hbx o).block b (hP b hb)) (fun _ h => h) _ _ hrep) hwt
  have hr := fun W (hW : Below w.heap.size w W) => KRep.carry (Q := P) (w' := W) (fun b hb => hW.block b (hP b hb)) (fun _ h => h) _ _ hrep
  obtain ⟨e0, -, ⟨a3, cap3, e1, -, -⟩, a, cap, e2, -, -⟩ := hrep.open
  simp only at e0 e1 e2
  subst e0 e1 e2
  by_cases hq : 0 < qT t 1
  · have hd : decide (0 < qT t 1) = true := decide_eq_true hq
    rw [hd] at hok
    have htx := fun W (hW : Below w.heap.size w W) => gather_all (ksz t + 1) t (by omega) P ⟨.int .i64 t.sort, .slice a3 t.names.length cap3, .slice a t.kids.length cap⟩ W (fun b hb => Nat.lt_of_lt_of_le (hP b hb) hW.size) (hr W hW) (hT.below hW) (ok_of_qT hq).1 (by have := kxT_short hq; omega) (by have := (ok_of_qT hq).2; omega)
    have hk : kWr t = kTx t := if_pos hq
    rw [hk]
    generalize kTx t = tx at *
    have HOK := hide hok; have HTX := hide htx
    clear hok htx hbx hr hrep hP hd hq hk hT hwt
    go_enter Tryd.func7, Tryd.ntmps7
    go_wp2_with fail
    refine (unhide HOK _).mono ?_
    rintro e w1 ⟨rfl, hb1⟩
    obtain ⟨q1, hs1, hb01⟩ := kbox1 hb1
    have k0 := q1.cell (i := 0) (by omega); have k1 := q1.cell (i := 1) (by omega); have k2 := q1.cell (i := 2) (by omega)
    simp only [row3] at k0 k1 k2
    have HB := hide hb01
    clear hb1 q1 hb01
    go_wp2_with fail
    refine (unhide HTX _ (unhide HB)).mono ?_
    rintro e w2 ⟨rfl, hb2⟩
    go_wp2_with fail
    go_ret
    exact ⟨rfl, (unhide HB).trans (hb2.mono (unhide HB).size)⟩
  · have hd : decide (0 < qT t 1) = false := decide_eq_false hq
    rw [hd] at hok
    have hk : kWr t = ByteArray.empty := if_neg hq
    rw [hk]
    have HOK := hide hok
    clear hok hbx hr hrep hP hd hq hk hT hwt
    go_enter Tryd.func7, Tryd.ntmps7
    go_wp2_with fail
    refine (unhide HOK _).mono ?_
    rintro e w1 ⟨rfl, hb1⟩
    have HB := hide (kbox1 hb1).2.2
    clear hb1
    go_wp2_with fail
    go_ret
    exact ⟨rfl, unhide HB⟩

end Go.Proofs.YthkjhmcbmakkdaaDoor
