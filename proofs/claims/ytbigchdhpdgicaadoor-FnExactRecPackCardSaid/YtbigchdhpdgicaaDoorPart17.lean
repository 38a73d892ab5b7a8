/- The program's recordCounter in memory, and the walks of its want, put. No conditions. -/
import Derived.Test.YtbigchdhpdgicaaDoorPart14
import Derived.Test.YtbigchdhpdgicaaDoorPart16
import Derived.Deep.CutRange
namespace Go.Proofs.YtbigchdhpdgicaaDoor
open Go Go.RowKit

/-- A record's fault is raised. -/
abbrev rfE : Ending := .panicked [{ v := .iface 60 (.agg #[]), recovered := false }]

set_option maxHeartbeats 400000 in
theorem want_yes (B : Nat) (w : World) : Calls Tryd.prog 32 #[.pointer (some ⟨B, 0, none⟩), .bool true] w fun e w' => e = .returned (.tuple #[]) ∧ w' = w := by
  go_enter Tryd.func32, Tryd.ntmps32
  go_wp2_with fail
  go_end0
  exact ⟨rfl, rfl⟩

set_option maxHeartbeats 400000 in
theorem want_no (B : Nat) (w : World) : Calls Tryd.prog 32 #[.pointer (some ⟨B, 0, none⟩), .bool false] w fun e w' => e = rfE ∧ w' = w := by
  go_enter Tryd.func32, Tryd.ntmps32
  go_wp2_with fail
  exact ⟨rfl, rfl, rfl⟩

/-- The counter: the bytes that were put, and how many there may be. -/
structure Rw (base B : Nat) (w : World) (v : Value) (l : List UInt8) : Prop where
  cells : w.rowIs B 65 2 (rowO v (.int .i64 2000))
  row : ByRow base w v l
  lt : base ≤ B
theorem Rw.alloc {base B : Nat} {w : World} {v : Value} {l : List UInt8} (h : Rw base B w v l) (o : Obj) : Rw base B (w.alloc o) v l :=
  ⟨h.cells.alloc o, World.ownsRow.alloc h.row o, h.lt⟩
theorem Rw.size {base B : Nat} {w : World} {v : Value} {l : List UInt8} (h : Rw base B w v l) : base ≤ w.heap.size := by
  have := h.cells.lt; have := h.lt; omega
theorem Rw.on {base B : Nat} {w w' : World} {v : Value} {l : List UInt8} (h : Rw base B w v l) (hb : Below w.heap.size w w') : Rw base B w' v l :=
  ⟨h.cells.of_block (hb.block _ h.cells.lt), h.row.stay hb, h.lt⟩
/-- What a call that puts bytes comes to. -/
def RwEnd (base B : Nat) (w w' : World) (v : Value) (e : Ending) (l : List UInt8) : Prop := e = .returned (.tuple #[]) ∧ (Sp base B w w' ∧ ∀ b, b < w.heap.size → b ≠ B → v.ownBlock ≠ some b → w'.heap[b]? = w.heap[b]?) ∧ ∃ a n cap, n = l.length ∧ Rw base B w' (.slice a n cap) l
theorem rowO_pk0 {w : World} {B : Nat} {T : TypeId} {x y : Value} (h : w.rowIs B T 2 (rowO x y)) (v : Value) : (w.setCell ⟨B, 0, none⟩ v).rowIs B T 2 (rowO v y) :=
  (h.set 0 v).congr fun i hi => by
    rcases (show i = 0 ∨ i = 1 by omega) with rfl | rfl <;> rfl
theorem Rw.stored {base B : Nat} {w2 w3 : World} {v v' : Value} {l l' : List UInt8} (h : Rw base B w2 v l) (hg : w2.grownBy w3 v.ownBlock) (h3 : ByRow base w3 v' l') :
    w3.rowIs B 65 2 (rowO v (.int .i64 2000)) ∧ Rw base B (w3.setCell ⟨B, 0, none⟩ v') v' l' ∧ Sp base B w2 (w3.setCell ⟨B, 0, none⟩ v') := by
  have hr3 : w3.rowIs B 65 2 (rowO v (.int .i64 2000)) := h.cells.of_block (hg.block B h.cells.lt (fun e => ByRow.apart h.row h.cells (by decide) e.symm))
  exact ⟨hr3, ⟨rowO_pk0 hr3 v', ownsRow_setCell_other h3 (ByRow.apart h3 hr3 (by decide)) v', h.lt⟩, (Sp.grown h.row hg).trans (Sp.but (But.set w3 0 v'))⟩

set_option maxRecDepth 100000 in
set_option maxHeartbeats 1600000 in
theorem rwput_any (base B : Nat) (w : World) (a : Option Addr) (n cap : Nat) (l news : List UInt8) (ad : Addr) (m c : Nat) (h : Rw base B w (.slice a n cap) l) (hm : m = news.length) (hc : ∀ j u, (bc news)[j]? = some u → w.cell? (ad.add j) = some u) (hl : l.length + news.length ≤ 1099511627776) :
    Calls Tryd.prog 46 #[.pointer (some ⟨B, 0, none⟩), .slice (some ad) m c] w fun e w' => RwEnd base B w w' (.slice a n cap) e (l ++ news) := by
  have k0 := h.cells.cell (i := 0) (by omega)
  simp only [rowO] at k0
  have H := hide h; have HC := hide hc; have HM := hide hm; have HL := hide hl
  clear h hc hm hl
  go_enter Tryd.func46, Tryd.ntmps46
  go_wp2_with (at_builtin; refine append_bytes _ rfl _ _ rfl base (.slice a n cap) l news rfl (unhide H).row ad m c rfl (unhide HM) (unhide HC) (unhide HL) (unhide H).size ?_
               intro a' n' cap' w3 HN3 HR3 HG3
               have hst := (unhide H).stored HG3.out HR3.out
               obtain ⟨hr3, hw3, hsp3⟩ := hst
               have m2 := hr3.cell (i := 0) (by omega)
               have f2 := hr3.frozen 0
               simp only [rowO] at m2
               have HW3 := hide hw3
               have HSP3 := hide (And.intro hsp3 (fun b (hb : b < w.heap.size) (hne : b ≠ B) (hno : (Value.slice a n cap).ownBlock ≠ some b) => (Below.heap_setCell w3 ⟨B, 0, none⟩ (.slice a' n' cap') b hne).trans (HG3.out.block b hb (fun e => hno e.symm))))
               clear hr3 hw3 hsp3 HR3 HG3)
  go_end0
  exact ⟨rfl, unhide HSP3, a', n', cap', HN3.out, unhide HW3⟩

set_option maxRecDepth 100000 in
set_option maxHeartbeats 1600000 in
theorem rcput_yes (base B : Nat) (w : World) (a : Option Addr) (n cap : Nat) (l news : List UInt8) (ad : Addr) (m c : Nat) (h : Rw base B w (.slice a n cap) l) (hm : m = news.length) (hc : ∀ j u, (bc news)[j]? = some u → w.cell? (ad.add j) = some u) (hnl : n = l.length) (hl : l.length + news.length ≤ 2000) :
    Calls Tryd.prog 35 #[.pointer (some ⟨B, 0, none⟩), .slice (some ad) m c] w fun e w' => RwEnd base B w w' (.slice a n cap) e (l ++ news) := by
  have k0 := h.cells.cell (i := 0) (by omega); have k1 := h.cells.cell (i := 1) (by omega)
  simp only [rowO] at k0 k1
  have hle : decide ((n : Int) + m ≤ 2000) = true := by simp; omega
  have hle2 : (n : Int) + m ≤ 2000 := by omega
  have HP := hide (fun (k : Nat) => rwput_any base B (w.drewN k) a n cap l news ad m c ⟨h.cells.of_block (by simp), h.row.stay (below_drewN (Below.refl _ _) _), h.lt⟩ hm (fun j u hj => hc j u hj) (by omega))
  have HSPD := hide (fun (k : Nat) => (Sp.but (But.of_below (below_drewN (Below.refl w.heap.size w) k)) : Sp base B w (w.drewN k)))
  clear h hm hc hnl hl
  go_enter Tryd.func35, Tryd.ntmps35
  go_wp2_with fail
  go_quiet ((go_at_call 32; exact Calls.quiet_of_same (want_yes _ _)))
  go_wp2_with fail
  refine (unhide HP _).mono ?_
  rintro e w' ⟨rfl, ⟨hsp, hfr⟩, hend⟩
  have HSP := hide (And.intro ((unhide HSPD _).trans hsp) hfr); have HEND := hide hend
  clear hsp hfr hend HP HSPD
  go_wp2_with fail
  go_end0
  exact ⟨rfl, unhide HSP, unhide HEND⟩

set_option maxRecDepth 100000 in
set_option maxHeartbeats 1600000 in
theorem rcput_no (base B : Nat) (w : World) (a : Option Addr) (n cap : Nat) (l news : List UInt8) (ad : Addr) (m c : Nat) (h : Rw base B w (.slice a n cap) l) (hm : m = news.length) (hnl : n = l.length) (hl : 2000 < l.length + news.length) (hl2 : l.length + news.length ≤ 1099511627776) :
    Calls Tryd.prog 35 #[.pointer (some ⟨B, 0, none⟩), .slice (some ad) m c] w fun e w' => e = rfE ∧ Below w.heap.size w w' := by
  have k0 := h.cells.cell (i := 0) (by omega); have k1 := h.cells.cell (i := 1) (by omega)
  simp only [rowO] at k0 k1
  have hle : decide ((n : Int) + m ≤ 2000) = false := by simp; omega
  have hwr : IntKind.i64.wrap ((n : Int) + m) = (n : Int) + m := by rw [IntKind.wrap_i64]; omega
  clear h hm hnl hl hl2
  go_enter Tryd.func35, Tryd.ntmps35
  go_wp2_with fail
  go_region_law (rw [if_pos (by first | rfl | simp [Region.wanted])]; go_simp; refine (want_no _ _).mono ?_; rintro e w2 ⟨rfl, rfl⟩; refine dead_end (by assumption) { tmps := #[], defers := [] } w (And.intro rfl (And.intro rfl (Below.refl _ _).drew)) (fun HF => ?_))
  all_goals exact (unhide HF).elim
end Go.Proofs.YtbigchdhpdgicaaDoor

/- The walks of the program's byteWriter: tree and kids. Conditions: the tree is ok, and its bytes fit. -/

namespace Go.Proofs.YtbigchdhpdgicaaDoor
open Go Go.RowKit

def TrP (n : Nat) : Prop := ∀ (t : Tr), tsz t < n → ∀ (P : Nat → Prop) (c : C5) (d : Int) (base B : Nat) (w : World) (a : Option Addr) (len cap : Nat) (l : List UInt8), (∀ b, P b → b < base) → Rep P w t c → 0 < pT t d → Wr base B w (.slice a len cap) l → l.length + (treeB t).length ≤ 9000 →
    Calls Tryd.prog 62 #[.pointer (some ⟨B, 0, none⟩), .agg #[c.c0, c.c1, c.c2, c.c3, c.c4]] w fun e w' => WrEnd base B w w' e (l ++ treeB t)

theorem Sp.rep {base B : Nat} {w w' : World} {P : Nat → Prop} {t : Tr} {c : C5} (h : Sp base B w w') (hb : base ≤ B) (hw : base ≤ w.heap.size) (hP : ∀ b, P b → b < base) (hr : Rep P w t c) : Rep P w' t c :=
  Rep.carry (fun b hbb => (h.below hb hw).block b (hP b hbb)) (fun _ h => h) _ _ hr

theorem Wr.len {base B : Nat} {w : World} {a : Option Addr} {n cap : Nat} {l : List UInt8} (h : Wr base B w (.slice a n cap) l) : n = l.length := by
  obtain ⟨a', cap', hv⟩ := h.row.slice
  simp only [Value.slice.injEq] at hv
  exact hv.2.1

set_option maxRecDepth 100000 in
set_option maxHeartbeats 3200000 in
theorem kids_any (n : Nat) (IH : TrP n) (t : Tr) (hn : tsz t ≤ n) (P : Nat → Prop) (c : C5) (d : Int) (base B : Nat) (w : World) (a : Option Addr) (len cap : Nat) (l : List UInt8) (hP : ∀ b, P b → b < base) (hrep : Rep P w t c) (hok : 0 < pT t d) (h : Wr base B w (.slice a len cap) l)
    (hl : l.length + (UInt8.ofNat t.kids.length :: kidsB (decide (t.sort = 5)) t.names t.kids).length ≤ 9000) :
    Calls Tryd.prog 66 #[.pointer (some ⟨B, 0, none⟩), .agg #[c.c0, c.c1, c.c2, c.c3, c.c4]] w fun e w' => WrEnd base B w w' e (l ++ (UInt8.ofNat t.kids.length :: kidsB (decide (t.sort = 5)) t.names t.kids)) := by
  obtain ⟨c0, c1, c2, c3, c4⟩ := c
  obtain ⟨e0, e1, e2, -, -, -, hns, ak, capk, e4, -, hks⟩ := hrep.open
  simp only at e0 e1 e2 e4 hns
  subst e0 e1 e2 e4
  obtain ⟨a3, cap3, rfl, -, hns⟩ := hns
  have hso := ok_sort hok
  have hmany := ok_many hok
  have hnm := ok_names hok
  have HKID := hide (fun k hk => ok_kid hok k hk)
  have HTS := hide (fun (k : Tr) (hk : k ∈ t.kids) => tsz_kid hk)
  have hbB := h.lt
  have hbw := h.size
  have hBw := h.cells.lt
  have hwa := fun o => h.alloc o
  have HPUT := hide (fun o => put_any base B (w.alloc o) a len cap l t.kids.length (hwa o) (by omega) (by omega) (by simp at hl; omega))
  have HBD : Hid (∀ k, (hk : k < t.kids.length) → ((l ++ [UInt8.ofNat t.kids.length]) ++ kidsB (decide (t.sort = 5)) t.names (t.kids.take k)).length + ((if decide (t.sort = 5) then shortB (t.names.getD k ByteArray.empty) else []).length + (treeB t.kids[k]).length) ≤ 9000) := fun k hk => by
    have h1 := kidsB_le (decide (t.sort = 5)) t.names t.kids (k + 1)
    rw [kidsB_take _ _ _ _ hk] at h1
    simp only [List.length_append, List.length_cons, List.length_nil] at h1 hl ⊢
    omega
  have HE : Hid (∀ ks, (l ++ [UInt8.ofNat t.kids.length]) ++ kidsB (decide (t.sort = 5)) t.names ks = l ++ (UInt8.ofNat t.kids.length :: kidsB (decide (t.sort = 5)) t.names ks)) := fun ks => by simp
  have HP := hide hP; have HKS := hide hks; have HNS := hide hns; have HI := hide IH; have HNM := hide hnm; have HHN := hide hn
  have HLT := hide hbB; have HBW := hide hbw; have HBL := hide hBw
  clear hso hok hnm hks hns IH hP hl hrep h hwa hn
  generalize hd5 : decide (t.sort = 5) = f at *
  have HD5 := hide hd5
  clear hd5
  have hf5 : (t.sort == 5) = f := by rw [← unhide HD5]; rfl
  go_enter Tryd.func66, Tryd.ntmps66
  go_wp2_with fail
  refine (unhide HPUT _).mono ?_
  rintro e w1 ⟨rfl, hsp1, a1, n1, cap1, hn1, hw1⟩
  rw [Int.toNat_natCast] at hw1 hn1
  have hr1 := hsp1.box (row5_alloc w (.int .i64 t.sort) (.int .i64 t.num) (.string t.text) (.slice a3 t.names.length cap3) (.slice ak t.kids.length capk) 41) (by omega) (by decide)
  have hspw := (Sp.alloc base B w (.cells #[.int .i64 t.sort, .int .i64 t.num, .string t.text, .slice a3 t.names.length cap3, .slice ak t.kids.length capk] 41)).trans hsp1
  have k4 := hr1.cell (i := 4) (by omega)
  simp only [row5] at k4
  have HR1 := hide hr1; have HSP1 := hide hspw; have HW1 := hide hw1
  clear hr1 hspw hw1 hsp1 hn1 HPUT
  go_wp2_with fail
  go_loopw [14] (fun i wr => ∃ (k : Nat) (ar : Option Addr) (nr cr : Nat), k ≤ t.kids.length ∧ i = .int .i64 k ∧ Hid (Wr base B wr (.slice ar nr cr) ((l ++ [UInt8.ofNat t.kids.length]) ++ kidsB f t.names (t.kids.take k))) ∧ Hid (Sp base B w wr) ∧ Hid (wr.rowIs w.heap.size 41 5 (row5 (.int .i64 t.sort) (.int .i64 t.num) (.string t.text) (.slice a3 t.names.length cap3) (.slice ak t.kids.length capk)))) (fun i _ => t.kids.length - (intOf i).toNat)
  case atStart => exact ⟨0, a1, n1, cap1, Nat.zero_le _, rfl, by rw [List.take_zero, kidsB, List.append_nil]; exact HW1, HSP1, HR1⟩
  case round =>
    clear HW1 HSP1 HR1 k4
    obtain ⟨k, ar, nr, cr, hk, rfl, HW, HSP, HBX⟩ := hrel
    by_cases hlt : k < t.kids.length
    · obtain ⟨b, o, ck, rfl, hpb, hcell, hrepk⟩ := unhide HKS k hlt
      obtain ⟨x0, x1, x2, x3, x4⟩ := ck
      obtain ⟨g0, g1, g2, -, -, -, ⟨y3, ycap3, g3, -⟩, y4, ycap4, g4, -⟩ := hrepk.open
      simp only at g0 g1 g2 g3 g4
      subst g0 g1 g2 g3 g4
      have hBwr : B < wr.heap.size := HW.out.cells.lt
      have hcw := hcell.carry ((HSP.out.below (unhide HLT) (unhide HBW)).block b (unhide HP b hpb))
      obtain ⟨e0, e1, e2, e3, e4⟩ := hcw
      simp only at e0 e1 e2 e3 e4
      have hsm : tsz t.kids[k] < n := by have := unhide HTS t.kids[k] (List.getElem_mem hlt); have := unhide HHN; omega
      have HCALL := hide (fun (W : World) (hW : Sp base B w W) (a5 : Option Addr) (n5 cap5 : Nat) (l5 : List UInt8) (hw5 : Wr base B W (.slice a5 n5 cap5) l5) (hl5 : l5.length + (treeB t.kids[k]).length ≤ 9000) => unhide HI t.kids[k] hsm P ⟨.int .i64 t.kids[k].sort, .int .i64 t.kids[k].num, .string t.kids[k].text, .slice y3 t.kids[k].names.length ycap3, .slice y4 t.kids[k].kids.length ycap4⟩ (d + 1) base B W a5 n5 cap5 l5 (unhide HP) (hW.rep (unhide HLT) (unhide HBW) (unhide HP) hrepk) (unhide HKID k hlt) hw5 hl5)
      have hbd := unhide HBD k hlt
      have hnext := kidsB_take f t.names t.kids k hlt
      have b0 := HBX.out.cell (i := 0) (by omega); have b3 := HBX.out.cell (i := 3) (by omega)
      simp only [row5] at b0 b3
      have ba0 : ∀ ob, (wr.alloc ob).cell? ⟨w.heap.size, 0, none⟩ = some (.int .i64 t.sort) := fun ob => by have := (HBX.out.alloc ob).cell (i := 0) (by omega); simpa only [row5] using this
      have ba3 : ∀ ob, (wr.alloc ob).cell? ⟨w.heap.size, 3, none⟩ = some (.slice a3 t.names.length cap3) := fun ob => by have := (HBX.out.alloc ob).cell (i := 3) (by omega); simpa only [row5] using this
      have HSPA := hide (HSP.out.trans (Sp.alloc base B wr (.cells #[.int .i64 t.kids[k].sort, .int .i64 t.kids[k].num, .string t.kids[k].text, .slice y3 t.kids[k].names.length ycap3, .slice y4 t.kids[k].kids.length ycap4] 41)))
      have HWA := hide (HW.out.alloc (.cells #[.int .i64 t.kids[k].sort, .int .i64 t.kids[k].num, .string t.kids[k].text, .slice y3 t.kids[k].names.length ycap3, .slice y4 t.kids[k].kids.length ycap4] 41))
      have HBXA := hide (HBX.out.alloc (.cells #[.int .i64 t.kids[k].sort, .int .i64 t.kids[k].num, .string t.kids[k].text, .slice y3 t.kids[k].names.length ycap3, .slice y4 t.kids[k].kids.length ycap4] 41))
      have HKB := hide (row5_alloc wr (.int .i64 t.kids[k].sort) (.int .i64 t.kids[k].num) (.string t.kids[k].text) (.slice y3 t.kids[k].names.length ycap3) (.slice y4 t.kids[k].kids.length ycap4) 41)
      clear hcell hrepk hsm hpb
      cases f with
      | false =>
          have HLB : Hid (((l ++ [UInt8.ofNat t.kids.length]) ++ kidsB false t.names (t.kids.take k)).length + (treeB t.kids[k]).length ≤ 9000) := by
            simp only [Bool.false_eq_true, if_false, List.length_nil, Nat.zero_add] at hbd
            exact hbd
          have HNEXT : Hid (((l ++ [UInt8.ofNat t.kids.length]) ++ kidsB false t.names (t.kids.take k)) ++ treeB t.kids[k] = (l ++ [UInt8.ofNat t.kids.length]) ++ kidsB false t.names (t.kids.take (k + 1))) := by
            show _ = _
            rw [hnext]; simp
          clear hbd hnext
          go_wp2_with fail
          refine (unhide HCALL _ (unhide HSPA) ar nr cr _ (unhide HWA) (unhide HLB)).mono ?_
          rintro e w6 ⟨rfl, hsp6, a6, n6, cap6, -, hw6⟩
          have HSP6 := hide ((unhide HSPA).trans hsp6)
          have HBX6 := hide (hsp6.box (unhide HBXA) (by have := unhide HBL; omega) (by decide))
          rw [unhide HNEXT] at hw6
          have HW6 := hide hw6
          clear hw6 hsp6
          go_wp2_with fail
          go_roundw
          case rel => exact ⟨k + 1, a6, n6, cap6, by omega, by go_num, HW6, HSP6, HBX6⟩
          case measure => simp [intOf]; omega
      | true =>
          obtain ⟨hnl, hn8⟩ := unhide HNM (by simpa using unhide HD5)
          have hkn : k < t.names.length := by omega
          obtain ⟨b', o', rfl, hpb', hcell', -⟩ := unhide HNS k hkn
          have hpl := unhide HP b' hpb'
          have ec : wr.cell? ⟨b', o' + k, none⟩ = some (.string t.names[k]) := by rw [World.cell?_of_block (w := w) ((HSP.out.below (unhide HLT) (unhide HBW)).block b' hpl)]; exact hcell'
          have eca : ∀ ob, (wr.alloc ob).cell? ⟨b', o' + k, none⟩ = some (.string t.names[k]) := fun ob => by rw [World.cell?_of_block (w := wr) (Below.heap_alloc _ _ _ (by have h1 := unhide HBW; have h2 := HSP.out.size; exact Nat.lt_of_lt_of_le hpl (Nat.le_trans h1 h2)))]; exact ec
          have h8 := hn8 _ (List.getElem_mem hkn)
          have hgd := getD_lt t.names k hkn
          rw [hgd] at hbd hnext
          have HLA : Hid (((l ++ [UInt8.ofNat t.kids.length]) ++ kidsB true t.names (t.kids.take k)).length + (shortB t.names[k]).length ≤ 9000) := by
            simp only [if_true] at hbd
            show _ ≤ _
            omega
          have HLB : Hid ((((l ++ [UInt8.ofNat t.kids.length]) ++ kidsB true t.names (t.kids.take k)) ++ shortB t.names[k]).length + (treeB t.kids[k]).length ≤ 9000) := by
            simp only [if_true] at hbd
            show _ ≤ _
            rw [List.length_append]
            omega
          have HNEXT : Hid ((((l ++ [UInt8.ofNat t.kids.length]) ++ kidsB true t.names (t.kids.take k)) ++ shortB t.names[k]) ++ treeB t.kids[k] = (l ++ [UInt8.ofNat t.kids.length]) ++ kidsB true t.names (t.kids.take (k + 1))) := by
            show _ = _
            rw [hnext]; simp
          have HTX := hide (text_any base B _ ar nr cr _ t.names[k] (unhide HWA) (by omega) (unhide HLA))
          clear hbd hnext hgd h8 hn8 hcell' hpb' hnl hpl ec
          go_wp2_with fail
          refine (unhide HTX).mono ?_
          rintro e w4 ⟨rfl, hsp4, a4, n4, cap4, -, hw4⟩
          have hkb4 := hsp4.box (unhide HKB) (by omega) (by decide)
          have m0 := hkb4.cell (i := 0) (by omega); have m1 := hkb4.cell (i := 1) (by omega); have m2 := hkb4.cell (i := 2) (by omega); have m3 := hkb4.cell (i := 3) (by omega); have m4 := hkb4.cell (i := 4) (by omega)
          simp only [row5] at m0 m1 m2 m3 m4
          have HSP4 := hide ((unhide HSPA).trans hsp4)
          have HBX4 := hide (hsp4.box (unhide HBXA) (by have := unhide HBL; omega) (by decide))
          have HW4 := hide hw4
          clear hw4 hsp4 hkb4 HTX HSPA HWA HBXA HKB eca ba0 ba3 b0 b3 HSP HW HBX
          go_wp2_with fail
          refine (unhide HCALL _ (unhide HSP4) a4 n4 cap4 _ (unhide HW4) (unhide HLB)).mono ?_
          rintro e w6 ⟨rfl, hsp6, a6, n6, cap6, -, hw6⟩
          have HSP6 := hide ((unhide HSP4).trans hsp6)
          have HBX6 := hide (hsp6.box (unhide HBX4) (by have := unhide HBL; omega) (by decide))
          rw [unhide HNEXT] at hw6
          have HW6 := hide hw6
          clear hw6 hsp6
          go_wp2_with fail
          go_roundw
          case rel => exact ⟨k + 1, a6, n6, cap6, by omega, by go_num, HW6, HSP6, HBX6⟩
          case measure => simp [intOf]; omega
    · go_wp2_with fail
      go_end0
      have hfin := HW.out
      rw [List.take_of_length_le (by omega), HE.out] at hfin
      exact ⟨rfl, HSP.out, ar, nr, cr, hfin.len, hfin⟩
end Go.Proofs.YtbigchdhpdgicaaDoor
