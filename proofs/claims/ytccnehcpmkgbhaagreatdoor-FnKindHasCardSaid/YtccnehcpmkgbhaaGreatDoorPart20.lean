/- A part. -/
import Derived.Test.YtccnehcpmkgbhaaGreatDoorPart19
namespace Go.Proofs.YtccnehcpmkgbhaaGreatDoor
open Go Go.RowKit
set_option maxRecDepth 100000
set_option maxHeartbeats 1600000
structure Wx (B : Nat) (w w' : World) : Prop where
 below : Below B w w'
 others : Lib.OthersKept 5 none w w'
theorem Wx.refl (B : Nat) (w : World) : Wx B w w := ⟨Below.refl _ _, Lib.OthersKept.refl _ _ _⟩
theorem Wx.trans {B : Nat} {a b c : World} (h : Wx B a b) (k : Wx B b c) : Wx B a c := ⟨h.below.trans k.below, h.others.trans k.others⟩
theorem Wx.alloc {B : Nat} {a b : World} (h : Wx B a b) (hB : B ≤ a.heap.size) (o : Obj) : Wx B a (b.alloc o) := ⟨h.below.alloc (Nat.le_trans hB h.below.size) o, h.others.alloc o⟩
theorem Wx.drewN {B : Nat} {a b : World} (h : Wx B a b) (n : Nat) : Wx B a (b.drewN n) := ⟨below_drewN h.below n, h.others⟩
theorem ByRow.wx {B : Nat} {w w' : World} {v : Value} {l : List UInt8} (h : ByRow B w v l) (hg : w.grownBy w' v.ownBlock) (hB : B ≤ w.heap.size) : Wx B w w' := by
 refine ⟨h.below hg hB, (Lib.OthersKept.refl _ _ _).grown hg fun g e => ?_⟩
 rcases h.2 with ⟨hv, _⟩ | ⟨g', cap, cur, hv, _, hh, _⟩
 · rw [hv] at e; cases e
 · rw [hv] at e
   obtain rfl : g' = g := by simpa [Value.ownBlock] using e
   exact ⟨_, _, hh⟩
def WEnd (B : Nat) (w : World) (L : List UInt8) (e : Ending) (w' : World) : Prop := ∃ a n cap, e = .returned (.slice a n cap) ∧ n = L.length ∧ ByRow B w' (.slice a n cap) L ∧ Wx B w w'
theorem WEnd.on {B : Nat} {w0 w w' : World} {L : List UInt8} {e : Ending} (h : WEnd B w L e w') (hx : Wx B w0 w) : WEnd B w0 L e w' := by
 obtain ⟨a, n, cap, h1, h2, h3, h4⟩ := h
 exact ⟨a, n, cap, h1, h2, h3, hx.trans h4⟩
theorem ByRow.wend {B : Nat} {w w2 : World} {v : Value} {l L : List UInt8} {a : Option Addr} {n cap : Nat} (h : ByRow B w v l) (hB : B ≤ w.heap.size) (hn : n = L.length) (h2 : ByRow B w2 (.slice a n cap) L) (hg : w.grownBy w2 v.ownBlock) : WEnd B w L (.returned (.slice a n cap)) w2 := ⟨a, n, cap, rfl, hn, h2, h.wx hg hB⟩
theorem one_byte (w : World) (x : UInt8) (z : Int) (hz : z = x.toNat) (t : TypeId) : ∀ j u, (bc [x])[j]? = some u → (w.alloc (.cells #[.int .u8 z] t)).cell? ((⟨w.heap.size, 0, none⟩ : Addr).add j) = some u := by
 subst hz; exact byte_one w x t
theorem inv1 (y r : Value) (w : World) : (invoke (.fn (.method "loop.example/teagle/impl.write") #[]) #[.iface 98 y, r]).run Tryz.prog w = .ok (.enter 149 #[y, r]) w := by kernel_rfl
theorem inv2 (y r : Value) (w : World) : (invoke (.fn (.method "loop.example/teagle/impl.write") #[]) #[.iface 99 y, r]).run Tryz.prog w = .ok (.enter 153 #[y, r]) w := by kernel_rfl
theorem inv3 (y r : Value) (w : World) : (invoke (.fn (.method "loop.example/teagle/impl.write") #[]) #[.iface 101 y, r]).run Tryz.prog w = .ok (.enter 154 #[y, r]) w := by kernel_rfl
theorem inv4 (y r : Value) (w : World) : (invoke (.fn (.method "loop.example/teagle/impl.write") #[]) #[.iface 103 y, r]).run Tryz.prog w = .ok (.enter 155 #[y, r]) w := by kernel_rfl
theorem inv5 (y r : Value) (w : World) : (invoke (.fn (.method "loop.example/teagle/impl.write") #[]) #[.iface 106 y, r]).run Tryz.prog w = .ok (.enter 156 #[y, r]) w := by kernel_rfl
theorem inv6 (y r : Value) (w : World) : (invoke (.fn (.method "loop.example/teagle/impl.write") #[]) #[.iface 108 y, r]).run Tryz.prog w = .ok (.enter 157 #[y, r]) w := by kernel_rfl
def CallsW (v r : Value) (w : World) (Q : Ending → World → Prop) : Prop :=
 ∃ T y f, v = .iface T y ∧ (∀ w, (invoke (.fn (.method "loop.example/teagle/impl.write") #[]) #[.iface T y, r]).run Tryz.prog w = .ok (.enter f #[y, r]) w) ∧ Calls Tryz.prog f #[y, r] w Q
theorem CallsW.mono {v r : Value} {w : World} {Q R : Ending → World → Prop} (h : CallsW v r w Q) (hq : ∀ e w', Q e w' → R e w') : CallsW v r w R := by
 obtain ⟨T, y, f, h1, h2, h3⟩ := h
 exact ⟨T, y, f, h1, h2, h3.mono hq⟩
theorem wp_write {o : Oper} {a : Act} {w : World} {K : Act → World → Prop} {Q : Exit → Act → World → Prop} (s x : Operand) (hop : o.op = .call { callee := .invoke s "loop.example/teagle/impl.write", args := #[x], argTypes := #[22] })
 (v r : Value) (hs : a.eval s = v) (hx : a.eval x = r) (h : CallsW v r w fun e w' => ∃ u, e = .returned u ∧ K (a.put o.dst u) w') : Oper.wp Tryz.prog o a w K Q := by
 obtain ⟨T, y, f, rfl, hi, hc⟩ := h
 unfold Oper.wp execOp
 have hi' := hi w
 simp only [hop, resolve, Sem.run_bind, Sem.run_pure, Result.andThen_ok, List.map_toArray, List.map_cons, List.map_nil, hs, hx]
 rw [show (#[Value.iface T y] ++ #[r]) = #[Value.iface T y, r] from rfl, hi', Oper.upon_enter]
 refine hc.mono ?_
 rintro e w' ⟨u, rfl, hk⟩
 exact hk
theorem list_write {ops : Array Oper} {rest : List Oper} {o : Oper} {a : Act} {w : World} {Q : Exit → Act → World → Prop} (hg : o.guard = none) (s x : Operand) (hop : o.op = .call { callee := .invoke s "loop.example/teagle/impl.write", args := #[x], argTypes := #[22] })
 (v r : Value) (hs : a.eval s = v) (hx : a.eval x = r) (h : CallsW v r w fun e w' => ∃ u, e = .returned u ∧ wpList Tryz.prog ops Q rest (a.put o.dst u) w') : wpList Tryz.prog ops Q (o :: rest) a w :=
 wpList_plain hg fun _ hK => wp_write s x hop v r hs hx (h.mono fun _ _ ⟨u, h1, h2⟩ => ⟨u, h1, hK _ _ h2⟩)
theorem step_write {ops : Array Oper} {o : Oper} {a : Act} {w : World} {K : Act → World → Prop} {Q : Exit → Act → World → Prop} {E : Prop} (hg : o.guard = none) (s x : Operand) (hop : o.op = .call { callee := .invoke s "loop.example/teagle/impl.write", args := #[x], argTypes := #[22] })
 (v r : Value) (hs : a.eval s = v) (hx : a.eval x = r) (h : CallsW v r w fun e w' => ∃ u, e = .returned u ∧ K (a.put o.dst u) w') : if Region.wanted o (yielded ops a.tmps) = true then Oper.wp Tryz.prog o a w K Q else E := by
 have hw : Region.wanted o (yielded ops a.tmps) = true := by simp [Region.wanted, hg]
 rw [if_pos hw]
 exact wp_write s x hop v r hs hx h
theorem append_stringU (w : World) {ops : Array Oper} {rest : List Oper} {o : Oper} {a : Act} {Q : Exit → Act → World → Prop}
 (hg : o.guard = none) (s x : Operand) (u : TypeId) (hu : Tryz.prog.underlying u = some .string) (hop : o.op = Op.call { callee := Callee.builtin Builtin.append, args := #[s, x], argTypes := #[22, u] })
 (base : Nat) (v : Value) (l : List UInt8) (tx : ByteArray) (hs : a.eval s = v) (hown : ByRow base w v l) (hx : a.eval x = .string tx)
 (hlen : l.length + tx.size ≤ 1099511627776) (hbase : base ≤ w.heap.size)
 (hK : ∀ a' n' cap' w', Hid (n' = (l ++ tx.data.toList).length) → Hid (ByRow base w' (.slice a' n' cap') (l ++ tx.data.toList)) → Hid (w.grownBy w' v.ownBlock) → wpList Tryz.prog ops Q rest (a.put o.dst (.slice a' n' cap')) w') :
 wpList Tryz.prog ops Q (o :: rest) a w := by
 obtain ⟨i0, hi, hz0, hz1, hz2⟩ := info_parts infoU8
 have hsz : tx.data.toList.length = tx.size := by simp
 refine Lib.wpList_append_own_string w hg s x 22 u hop base 5 i0 Tryz.underlying22 hu hi hz0 hz1 hz2 v l.length (bc l) hs hown tx hx (by unfold maxLen; omega) (by omega) hbase (fun v' w' r1 r2 _ => ?_)
 have hr : ByRow base w' v' (l ++ tx.data.toList) := by
  show w'.ownsRow base 5 1 v' (l ++ tx.data.toList).length (bc (l ++ tx.data.toList))
  rw [bc_append, List.length_append, hsz, ← bc_str]; exact r1
 obtain ⟨a', cap', rfl⟩ := hr.slice
 exact hK a' _ cap' w' rfl hr r2
theorem between_any (B : Nat) (w : World) (r : Value) (l : List UInt8) (k : Nat) (hr : ByRow B w r l) (hB : B ≤ w.heap.size) (hl : l.length + 1 ≤ 1099511627776) (hk : k ≤ 1099511627776) :
 Calls Tryz.prog 95 #[r, .int .i64 k] w (WEnd B w (l ++ if 0 < k then [44] else [])) := by
 have HR := hH hr
 by_cases h0 : k = 0
 · subst h0
   obtain ⟨a, cap, rfl⟩ := hr.slice
   clear hr
   go_enter Tryz.func95, Tryz.ntmps95
   go_wp2_with fail
   go_ret
   exact ⟨_, _, _, rfl, by simp, by simpa using uh HR, Wx.refl _ _⟩
 · have hd : (((k : Int)) == 0) = false := by simp; omega
   have hd2 : decide ((k : Int) = 0) = false := by simp; omega
   rw [if_pos (by omega)]
   clear hr
   go_enter Tryz.func95, Tryz.ntmps95
   go_wp2_with (at_builtin; refine append_bytes _ rfl _ _ rfl B r l [44] rfl (World.ownsRow.alloc (uh HR) _) ⟨w.heap.size, 0, none⟩ 1 1 rfl rfl (one_byte _ 44 _ rfl _) (by simp; omega) (by simp; omega) ?_; intro a' n' cap' w2 HN HR2 HG)
   go_ret
   exact ((ByRow.wend (World.ownsRow.alloc (uh HR) _) (by simp; omega) HN.out HR2.out HG.out).on ((Wx.refl _ _).alloc hB _))
theorem wr_num (B : Nat) (w : World) (r : Value) (l : List UInt8) (i : Int) (hi : I64 i) (hr : ByRow B w r l) (hB : B ≤ w.heap.size) (hl : l.length ≤ 1099511627776) (ht : Lib.TabBelow Tryz.prog B w "internal/strconv.uint64pow10" .u64 Lib.pow10Tab) :
 Calls Tryz.prog 149 #[.int .i64 i, r] w (WEnd B w (l ++ Lib.itoa i)) := by
 have HC := hH (Tryz.strconv_AppendInt_10 B l.length i hi.1 hi.2 r (bc l) w hr hB (by omega) ht)
 clear hr ht
 go_enter Tryz.func149, Tryz.ntmps149
 go_wp2_with fail
 refine (uh HC).mono ?_
 rintro e w' ⟨v', rfl, h1, h2, h3⟩
 have hrow : ByRow B w' v' (l ++ Lib.itoa i) := by
  show w'.ownsRow B 5 1 v' (l ++ Lib.itoa i).length (bc (l ++ Lib.itoa i))
  rw [bc_append, List.length_append]; exact h1
 obtain ⟨a, cap, rfl⟩ := hrow.slice
 obtain ⟨n, hn⟩ : ∃ n, (l ++ Lib.itoa i).length = n := ⟨_, rfl⟩
 rw [hn] at hrow ⊢
 have HEND : Hid (WEnd B w (l ++ Lib.itoa i) (.returned (.slice a n cap)) w') := ⟨_, _, _, rfl, hn.symm, hrow, h2, h3⟩
 clear hrow h1 h2 h3 HC hn
 go_wp2_with fail
 go_ret
 exact HEND.out
theorem undText : Tryz.prog.underlying 99 = some .string := by kernel_rfl
theorem wr_text (B : Nat) (w : World) (r : Value) (l : List UInt8) (tx : ByteArray) (hr : ByRow B w r l) (hB : B ≤ w.heap.size) (hl : l.length + tx.size + 2 ≤ 1099511627776) :
 Calls Tryz.prog 153 #[.string tx, r] w (WEnd B w (l ++ ([34] ++ tx.data.toList ++ [34]))) := by
 have hsz : tx.data.toList.length = tx.size := by simp
 have HR := hH hr
 have hbx : ∀ (W : World) (o : Obj), B ≤ W.heap.size → B ≤ (W.alloc o).heap.size := fun W o h => by simp; omega
 have HE : Hid (((l ++ [34]) ++ tx.data.toList) ++ [34] = l ++ ([34] ++ tx.data.toList ++ [34])) := by show _ = _; simp
 clear hr
 go_enter Tryz.func153, Tryz.ntmps153
 go_wp2_with (at_builtin; first
  | (refine append_bytes _ rfl _ _ rfl B r l [34] rfl (World.ownsRow.alloc (uh HR) _) ⟨w.heap.size, 0, none⟩ 1 1 rfl rfl (one_byte _ 34 _ rfl _) (by simp; omega) (hbx _ _ hB) ?_
     intro a1 n1 cap1 w1 HN1 HR1 HG1
     have hx1 := (ByRow.wx (World.ownsRow.alloc (uh HR) (.cells #[.int .u8 34] 5)) HG1.out (hbx _ _ hB))
     have hB1 : B ≤ w1.heap.size := Nat.le_trans (hbx _ _ hB) hx1.below.size
     have HX1 := hH (((Wx.refl B w).alloc hB (.cells #[.int .u8 34] 5)).trans hx1)
     clear hx1 HG1)
  | (refine append_stringU _ rfl _ _ 99 undText rfl B (.slice a1 n1 cap1) (l ++ [34]) tx rfl HR1.out rfl (by simp; omega) hB1 ?_
     intro a2 n2 cap2 w2 HN2 HR2 HG2
     have hx2 := ByRow.wx HR1.out HG2.out hB1
     have hB2 : B ≤ w2.heap.size := Nat.le_trans hB1 hx2.below.size
     have HX2 := hH ((uh HX1).trans hx2)
     clear hx2 HG2 HR1 HX1)
  | (refine append_bytes _ rfl _ _ rfl B (.slice a2 n2 cap2) ((l ++ [34]) ++ tx.data.toList) [34] rfl (World.ownsRow.alloc HR2.out _) ⟨w2.heap.size, 0, none⟩ 1 1 rfl rfl (one_byte _ 34 _ rfl _) (by simp; omega) (hbx _ _ hB2) ?_
     intro a3 n3 cap3 w3 HN3 HR3 HG3))
 go_ret
 show WEnd B w (l ++ ([34] ++ tx.data.toList ++ [34])) (.returned (.slice a3 n3 cap3)) w3
 rw [← uh HE]
 exact (ByRow.wend (World.ownsRow.alloc HR2.out _) (hbx _ _ hB2) HN3.out HR3.out HG3.out).on (((uh HX2).alloc hB _))
theorem wr_flag (B : Nat) (w : World) (r : Value) (l : List UInt8) (b : Bool) (hr : ByRow B w r l) (hB : B ≤ w.heap.size) (hl : l.length + (if b = true then [121, 101, 115] else [110, 111] : List UInt8).length ≤ 1099511627776) :
 Calls Tryz.prog 154 #[.bool b, r] w (WEnd B w (l ++ if b = true then [121, 101, 115] else [110, 111])) := by
 have HR := hH hr
 clear hr
 have s1 : (⟨#[121, 101, 115]⟩ : ByteArray).size = 3 := rfl
 have s2 : (⟨#[110, 111]⟩ : ByteArray).size = 2 := rfl
 cases b with
 | true =>
   have hl3 : l.length + 3 ≤ 1099511627776 := by simpa using hl
   clear hl
   go_enter Tryz.func154, Tryz.ntmps154
   go_wp2_with (at_builtin; refine append_string _ rfl _ _ rfl B r l ⟨#[121, 101, 115]⟩ rfl (uh HR) rfl (by rw [s1]; exact hl3) hB ?_; intro a2 n2 cap2 w2 HN2 HR2 HG2)
   go_ret
   exact (ByRow.wend (uh HR) hB HN2.out HR2.out HG2.out)
 | false =>
   have hl2 : l.length + 2 ≤ 1099511627776 := by simpa using hl
   clear hl
   go_enter Tryz.func154, Tryz.ntmps154
   go_wp2_with (at_builtin; refine append_string _ rfl _ _ rfl B r l ⟨#[110, 111]⟩ rfl (uh HR) rfl (by rw [s2]; exact hl2) hB ?_; intro a2 n2 cap2 w2 HN2 HR2 HG2)
   go_ret
   exact (ByRow.wend (uh HR) hB HN2.out HR2.out HG2.out)

theorem Wx.drew {B : Nat} {a b : World} (h : Wx B a b) : Wx B a b.drew := h.drewN 1
theorem Wx.cell {B : Nat} {a b : World} (h : Wx B a b) {p : Addr} (hp : p.block < B) : b.cell? p = a.cell? p := World.cell?_of_block (h.below.block p.block hp)
theorem na1 (n : Nat) (y : Value) (w : World) : (nilAhead (n + 1) 98 y "loop.example/teagle/impl.write").run Tryz.prog w = .ok (some false) w := by kernel_rfl
theorem na2 (n : Nat) (y : Value) (w : World) : (nilAhead (n + 1) 99 y "loop.example/teagle/impl.write").run Tryz.prog w = .ok (some false) w := by kernel_rfl
theorem na3 (n : Nat) (y : Value) (w : World) : (nilAhead (n + 1) 101 y "loop.example/teagle/impl.write").run Tryz.prog w = .ok (some false) w := by kernel_rfl
theorem na4 (n : Nat) (y : Value) (w : World) : (nilAhead (n + 1) 103 y "loop.example/teagle/impl.write").run Tryz.prog w = .ok (some false) w := by kernel_rfl
theorem na5 (n : Nat) (y : Value) (w : World) : (nilAhead (n + 1) 106 y "loop.example/teagle/impl.write").run Tryz.prog w = .ok (some false) w := by kernel_rfl
theorem na6 (n : Nat) (y : Value) (w : World) : (nilAhead (n + 1) 108 y "loop.example/teagle/impl.write").run Tryz.prog w = .ok (some false) w := by kernel_rfl
theorem SRep.wm {Q : Nat → Prop} {w : World} {t : Tr} {v : Value} (h : SRep Q w t v) : ∃ T y, v = .iface T y ∧ ∀ (n : Nat) (w : World), (nilAhead (n + 1) T y "loop.example/teagle/impl.write").run Tryz.prog w = .ok (some false) w := by
 obtain ⟨s, n, tx, ns, ks⟩ := t
 rw [SRep] at h
 rcases h with h | h | h | ⟨hs, a, cap, h1, h2⟩ | ⟨hs, v3, a, cap, h1, h3, h2⟩ | ⟨hs, a, cap, h1, h2⟩
 · exact ⟨_, _, h.2, fun n w => na1 n _ w⟩
 · exact ⟨_, _, h.2, fun n w => na2 n _ w⟩
 · exact ⟨_, _, h.2, fun n w => na3 n _ w⟩
 · exact ⟨_, _, h1, fun n w => na4 n _ w⟩
 · exact ⟨_, _, h1, fun n w => na5 n _ w⟩
 · exact ⟨_, _, h1, fun n w => na6 n _ w⟩
theorem wr_maybe0 (B : Nat) (w : World) (r : Value) (l : List UInt8) (a : Option Addr) (cap : Nat) (hr : ByRow B w r l) (hB : B ≤ w.heap.size) (hl : l.length + 1 ≤ 1099511627776) :
 Calls Tryz.prog 157 #[.slice a 0 cap, r] w (WEnd B w (l ++ [126])) := by
 have HR := hH hr
 clear hr
 go_enter Tryz.func157, Tryz.ntmps157
 go_wp2_with (at_builtin; refine append_bytes _ rfl _ _ rfl B r l [126] rfl (World.ownsRow.alloc (uh HR) _) ⟨w.heap.size, 0, none⟩ 1 1 rfl rfl (one_byte _ 126 _ rfl _) (by simp; omega) (by simp; omega) ?_; intro a' n' cap' w2 HN HR2 HG)
 go_ret
 exact ((ByRow.wend (World.ownsRow.alloc (uh HR) _) (by simp; omega) HN.out HR2.out HG.out).on ((Wx.refl _ _).alloc hB _))
theorem wr_maybe1 (B : Nat) (w : World) (r : Value) (l : List UInt8) (b m cap : Nat) (T : TypeId) (y : Value) (tk : List UInt8) (hm : 0 < m) (hm2 : m ≤ 1048576) (hb : b < B) (hx : w.cell? ⟨b, 0, none⟩ = some (.iface T y))
 (hcall : ∀ W r' L', Wx B w W → ByRow B W r' L' → L'.length + tk.length ≤ 1099511627776 → CallsW (.iface T y) r' W (WEnd B W (L' ++ tk))) (hr : ByRow B w r l) (hB : B ≤ w.heap.size) (hl : l.length + 1 + tk.length ≤ 1099511627776) :
 Calls Tryz.prog 157 #[.slice (some ⟨b, 0, none⟩) m cap, r] w (WEnd B w (l ++ ([63] ++ tk))) := by
 have HR := hH hr; have HCALL := hH hcall
 have hd : decide ((m : Int) = 0) = false := by simp; omega
 have hd2 : ((m : Int) == 0) = false := by simp; omega
 have hd3 : (0 : Int) < (m : Int) := by omega
 have hbw : b < w.heap.size := by omega
 clear hr hcall
 go_enter Tryz.func157, Tryz.ntmps157
 go_wp2_with fail
 go_region_held3 (fun W => W.cell? ⟨b, 0, none⟩ = some (.iface T y)) (first | exact e1 | exact e2 | exact (World.cell?_of_block (Below.heap_alloc _ _ _ hbw)).trans hx | go_keep)
  (first
  | (refine step_append_bytes _ (by rfl) _ _ (by rfl) B r l [63] (by rfl) (by exact World.ownsRow.alloc (uh HR) (.cells #[.int .u8 63] 5)) ⟨w.heap.size, 0, none⟩ 1 1 (by rfl) (by rfl) (by decide) (by exact one_byte w 63 63 rfl 5) (by simp; omega) (by simp; omega) ?_
     intro a1 n1 cap1 w1 HN1 HR1 HG1
     have hx1 : Wx B w w1 := by
      refine Wx.trans ((Wx.refl B w).alloc hB (.cells #[.int .u8 63] 5)).drew (ByRow.wx (by exact World.ownsRow.alloc (uh HR) (.cells #[.int .u8 63] 5)) HG1.out (by simp; omega))
     have e1 : w1.cell? ⟨b, 0, none⟩ = some (.iface T y) := by rw [hx1.cell hb]; exact hx
     have HX1 := hH hx1
     clear hx1 HG1)
  | (refine step_write (by rfl) _ _ (by rfl) (.iface T y) (.slice a1 n1 cap1) (by rfl) (by rfl) ((uh HCALL w1 _ _ (uh HX1) HR1.out (by simp; omega)).mono ?_)
     rintro e w2 ⟨a2, n2, cap2, rfl, hn2, hr2, hx2⟩
     have HEND : Hid (WEnd B w (l ++ ([63] ++ tk)) (.returned (.slice a2 n2 cap2)) w2) := ⟨a2, n2, cap2, rfl, by rw [hn2]; simp, by rw [← List.append_assoc]; exact hr2, (uh HX1).trans hx2⟩
     have e2 : w2.cell? ⟨b, 0, none⟩ = some (.iface T y) := by rw [hx2.cell hb]; exact e1
     refine ⟨_, rfl, ?_⟩
     clear hn2 hr2 hx2))
 all_goals
  go_wp2_with fail
  go_ret
  exact HEND.out
structure WSt (B : Nat) (w wr : World) (a : Option Addr) (n cap : Nat) (L : List UInt8) : Prop where
 len : n = L.length
 row : ByRow B wr (.slice a n cap) L
 wx : Wx B w wr
theorem txTo_step (f : Bool) (ns : List ByteArray) (ks : List Tr) (k : Nat) (hk : k < ks.length) (m : Nat) (h : m + (txK f ns 0 ks).length ≤ 1099511627776) : m + (txTo f ns ks k).length + (ahead f ns k).length + (txT ks[k]).length ≤ 1099511627776 := by
 have h1 := txTo_le f ns ks (k + 1) hk
 rw [txTo_succ f ns ks k hk] at h1
 simp only [List.length_append] at h1
 omega
theorem wr_list (B : Nat) (w : World) (r : Value) (l : List UInt8) (ks : List Tr) (ns : List ByteArray) (a : Option Addr) (cap : Nat) (Q : Nat → Prop) (hQ : ∀ b, Q b → b < B) (hv : SKids Q w (.slice a ks.length cap) ks) (hkl : ks.length ≤ 1048576)
 (hcall : ∀ i, (hi : i < ks.length) → ∀ x W r' L', SRep Q w ks[i] x → Wx B w W → ByRow B W r' L' → L'.length + (txT ks[i]).length ≤ 1099511627776 → CallsW x r' W (WEnd B W (L' ++ txT ks[i])))
 (hr : ByRow B w r l) (hB : B ≤ w.heap.size) (hl : l.length + 2 + (txK false ns 0 ks).length ≤ 1099511627776) :
 Calls Tryz.prog 155 #[.slice a ks.length cap, r] w (WEnd B w (l ++ ([91] ++ txK false ns 0 ks ++ [93]))) := by
 have hmf : ∀ (fn : Fn) (first cap : Array Value) (w : World), (Instr.makeFunc fn first cap).run Tryz.prog w = .ok (.func fn first cap) w := fun _ _ _ _ => rfl
 have hcell : ∀ i, (hi : i < ks.length) → ∃ b x, a = some ⟨b, 0, none⟩ ∧ Q b ∧ w.cell? ⟨b, i, none⟩ = some x ∧ SRep Q w ks[i] x := fun i hi => by
  obtain ⟨a', cap', e, h⟩ := hv
  simp only [Value.slice.injEq] at e
  obtain ⟨rfl, -, rfl⟩ := e
  obtain ⟨b, e2, hb, hr⟩ := h (fun e => by rw [e] at hi; simp at hi)
  obtain ⟨x, h1, h2⟩ := hr.get i hi
  exact ⟨b, x, e2, hb, by simpa using h1, h2⟩
 have hlen : ∀ k, (hk : k < ks.length) → (l ++ ([91] ++ txTo false ns ks k)).length + (ahead false ns k).length + (txT ks[k]).length ≤ 1099511627776 := fun k hk => by
  have := txTo_step false ns ks k hk (l.length + 1) (by omega)
  simp only [List.length_append, List.length_cons, List.length_nil]; omega
 have hend : (l ++ ([91] ++ txTo false ns ks ks.length)).length + 1 ≤ 1099511627776 := by
  rw [txTo_all]; simp only [List.length_append, List.length_cons, List.length_nil]; omega
 have HE : Hid ((l ++ ([91] ++ txTo false ns ks ks.length)) ++ [93] = l ++ ([91] ++ txK false ns 0 ks ++ [93])) := by show _ = _; rw [txTo_all]; simp
 have HR := hH hr; have HCALL := hH hcall; have HC := hH hcell; have HLEN := hH hlen; have HENDL := hH hend; have HQ := hH hQ
 clear hr hcall hcell hlen hend hQ hv
 go_enter Tryz.func155, Tryz.ntmps155
 go_wp2_with (at_builtin; refine append_bytes _ rfl _ _ rfl B r l [91] rfl (World.ownsRow.alloc (unhide HR) _) ⟨w.heap.size, 0, none⟩ 1 1 rfl rfl (one_byte _ 91 _ rfl _) (by simp; omega) (by simp; omega) ?_
              intro a1 n1 cap1 w1 HN1 HR1 HG1
              have hx1 : Wx B w w1 := ((Wx.refl B w).alloc hB (.cells #[.int .u8 91] 5)).trans (ByRow.wx (World.ownsRow.alloc (uh HR) _) HG1.out (by simp; omega))
              have HS1 : Hid (WSt B w w1 a1 n1 cap1 (l ++ ([91] ++ txTo false ns ks 0))) := ⟨by rw [HN1.out]; simp [txTo, txK], by simpa [txTo, txK] using HR1.out, hx1⟩
              clear hx1 HN1 HR1 HG1)
 go_loopw [1, 12] (fun s i wr => ∃ (k : Nat) (a' : Option Addr) (n' cap' : Nat), k ≤ ks.length ∧ i = .int .i64 k ∧ s = .slice a' n' cap' ∧ Hid (WSt B w wr a' n' cap' (l ++ ([91] ++ txTo false ns ks k)))) (fun _ i _ => ks.length - (intOf i).toNat)
 case atStart => exact ⟨0, a1, n1, cap1, Nat.zero_le _, rfl, rfl, HS1⟩
 case round =>
  obtain ⟨k, a', n', cap', hk, rfl, rfl, HS⟩ := hrel
  have hsw : B ≤ wr.heap.size := Nat.le_trans hB HS.out.wx.below.size
  by_cases hlt : k < ks.length
  · obtain ⟨b, x, rfl, hqb, hce, hrp⟩ := uh HC k hlt
    have e0 : wr.cell? ⟨b, k, none⟩ = some x := by rw [HS.out.wx.cell (uh HQ b hqb)]; exact hce
    have hcl := fun W r' L' h1 h2 h3 => uh HCALL k hlt x W r' L' hrp h1 h2 h3
    obtain ⟨T, y, rfl, hna⟩ := hrp.wm
    have hln := uh HLEN k hlt
    have hsep : (ahead false ns k) = if 0 < k then [44] else [] := by simp [ahead]
    have HNEXT : Hid (((l ++ ([91] ++ txTo false ns ks k)) ++ (if 0 < k then [44] else [])) ++ txT ks[k] = l ++ ([91] ++ txTo false ns ks (k + 1))) := by show _ = _; rw [txTo_succ _ _ _ _ hlt, ← hsep]; simp
    rw [hsep] at hln
    have hl1 : (l ++ ([91] ++ txTo false ns ks k)).length + 1 ≤ 1099511627776 := by
     have := txTo_le false ns ks k hk
     simp only [List.length_append, List.length_cons, List.length_nil]; omega
    generalize ks[k] = tk at *
    generalize hLL : l ++ ([91] ++ txTo false ns ks k) = LL at *
    have HBT : Hid (∀ W, ByRow B W (.slice a' n' cap') LL → B ≤ W.heap.size → Calls Tryz.prog 95 #[.slice a' n' cap', .int .i64 k] W (WEnd B W (LL ++ if 0 < k then [44] else []))) := fun W h1 h2 => between_any B W _ LL k h1 h2 hl1 (by omega)
    have HCL := hH hcl; have HLN := hH hln
    generalize hSS : (if 0 < k then [44] else [] : List UInt8) = SS at *
    clear hcl hce hrp hqb hsep hl1 hln hLL hSS
    go_wp2_with fail
    go_region_held3 (fun _ => True) (trivial) (first
     | (go_at_call 95
        refine (uh HBT wr.drew (by exact HS.out.row) hsw).mono ?_
        rintro e w1 ⟨a1, n1, cap1, rfl, hn1, hr1, hx1⟩
        have HW1 : Hid (WSt B w w1 a1 n1 cap1 (LL ++ SS)) := ⟨hn1, hr1, HS.out.wx.drew.trans hx1⟩
        clear hn1 hr1 hx1)
     | (refine step_write (by rfl) _ _ (by rfl) (.iface T y) (.slice a1 n1 cap1) (by rfl) (by rfl) ((uh HCL w1 _ _ HW1.out.wx HW1.out.row (by have := uh HLN; rw [List.length_append]; exact this)).mono ?_)
        rintro e w2 ⟨a2, n2, cap2, rfl, hn2, hr2, hx2⟩
        have HW2 : Hid (WSt B w w2 a2 n2 cap2 (l ++ ([91] ++ txTo false ns ks (k + 1)))) := by rw [← uh HNEXT]; exact ⟨hn2, hr2, HW1.out.wx.trans hx2⟩
        refine ⟨_, rfl, ?_⟩
        clear hn2 hr2 hx2))
    all_goals
     go_wp2_with fail
     go_roundw
     case rel => exact ⟨k + 1, a2, n2, cap2, by omega, by go_num, rfl, HW2⟩
     case measure => simp [intOf]; omega
  · obtain rfl : k = ks.length := by omega
    go_wp2_with (at_builtin; refine append_bytes _ rfl _ _ rfl B (.slice a' n' cap') (l ++ ([91] ++ txTo false ns ks ks.length)) [93] rfl (World.ownsRow.alloc HS.out.row _) ⟨wr.heap.size, 0, none⟩ 1 1 rfl rfl (one_byte _ 93 _ rfl _) (uh HENDL) (by simp; omega) ?_; intro a3 n3 cap3 w3 HN3 HR3 HG3)
    go_ret
    show WEnd B w (l ++ ([91] ++ txK false ns 0 ks ++ [93])) (.returned (.slice a3 n3 cap3)) w3
    rw [← uh HE]
    exact (ByRow.wend (World.ownsRow.alloc HS.out.row _) (by simp; omega) HN3.out HR3.out HG3.out).on (HS.out.wx.alloc hB _)

theorem step_append_runW {P : Program} (w w2 : World) {ops : Array Oper} {o : Oper} {a : Act} {K : Act → World → Prop} {Q : Exit → Act → World → Prop} {E : Prop} (hgd : o.guard = none) (s x : Operand) (t u : TypeId)
 (ho : o.op = .call { callee := .builtin .append, args := #[s, x], argTypes := #[t, u] }) (v1 v2 v' : Value) (hs : a.eval s = v1) (hx : a.eval x = v2)
 (hr : ∀ ty, (Builtin.append_ #[t, u] ty #[v1, v2]).run P w = .ok v' w2) (h : K (a.put o.dst v') w2) :
 if Region.wanted o (yielded ops a.tmps) = true then Oper.wp P o a w K Q else E := by
 have hw : Region.wanted o (yielded ops a.tmps) = true := by simp [Region.wanted, hgd]
 rw [if_pos hw]
 unfold Oper.wp execOp
 simp only [ho, resolve, invoke, builtin, Sem.run_bind, Sem.run_pure, Result.andThen_ok, List.map_toArray, List.map_cons, List.map_nil, hs, hx, hr]
 exact h
theorem Wx.box {B g : Nat} {a b : World} {o : Obj} (h : Wx B a b) (hg : a.heap[g]? = some o) (ho : ∀ c fz, o ≠ .cells c 5 fz) : b.heap[g]? = a.heap[g]? := by
 rw [hg]; exact h.others g o hg (by simp) ho
theorem run_app_str {B : Nat} {w : World} {a : Option Addr} {n cap : Nat} {l : List UInt8} (tx : ByteArray) (hr : ByRow B w (.slice a n cap) l) (hB : B ≤ w.heap.size) (hl : l.length + tx.size ≤ 1099511627776) :
 ∃ a2 n2 cap2 w2, (∀ ty, (Builtin.append_ #[22, 9] ty #[.slice a n cap, .string tx]).run Tryz.prog w = .ok (.slice a2 n2 cap2) w2) ∧ n2 = (l ++ tx.data.toList).length ∧ ByRow B w2 (.slice a2 n2 cap2) (l ++ tx.data.toList) ∧ Wx B w w2 := by
 obtain ⟨i0, hi, hz0, hz1, hz2⟩ := info_parts infoU8
 have hsz : tx.data.toList.length = tx.size := by simp
 obtain ⟨v2, w2, g1, g2, g3, -⟩ := Lib.run_append_own_string (P := Tryz.prog) w B 22 9 0 5 i0 Tryz.underlying22 Tryz.underlying9 hi hz0 hz1 hz2 _ _ _ hr tx (by unfold maxLen; omega) (by omega) hB
 have hr2 : ByRow B w2 v2 (l ++ tx.data.toList) := by
  show w2.ownsRow B 5 1 v2 (l ++ tx.data.toList).length (bc (l ++ tx.data.toList))
  rw [bc_append, List.length_append, hsz, ← bc_str]; exact g2
 obtain ⟨a2, cap2, rfl⟩ := hr2.slice
 exact ⟨a2, _, cap2, w2, fun ty => g1, rfl, hr2, hr.wx g3 hB⟩
theorem wr_form (B : Nat) (w : World) (r : Value) (l : List UInt8) (ks : List Tr) (ns : List ByteArray) (v3 : Value) (a : Option Addr) (cap : Nat) (Q : Nat → Prop) (hQ : ∀ b, Q b → b < B) (hN : StrsAt Q w v3 ns) (hv : SKids Q w (.slice a ks.length cap) ks) (hkl : ks.length ≤ 1048576) (hnk : ns.length = ks.length)
 (hcall : ∀ i, (hi : i < ks.length) → ∀ x W r' L', SRep Q w ks[i] x → Wx B w W → ByRow B W r' L' → L'.length + (txT ks[i]).length ≤ 1099511627776 → CallsW x r' W (WEnd B W (L' ++ txT ks[i])))
 (hr : ByRow B w r l) (hB : B ≤ w.heap.size) (hl : l.length + 2 + (txK true ns 0 ks).length ≤ 1099511627776) :
 Calls Tryz.prog 156 #[.agg #[v3, .slice a ks.length cap], r] w (WEnd B w (l ++ ([123] ++ txK true ns 0 ks ++ [125]))) := by
 have hmf : ∀ (fn : Fn) (first cap : Array Value) (w : World), (Instr.makeFunc fn first cap).run Tryz.prog w = .ok (.func fn first cap) w := fun _ _ _ _ => rfl
 have hcell : ∀ i, (hi : i < ks.length) → ∃ b x, a = some ⟨b, 0, none⟩ ∧ Q b ∧ w.cell? ⟨b, i, none⟩ = some x ∧ SRep Q w ks[i] x := fun i hi => by
  obtain ⟨a', cap', e, h⟩ := hv
  simp only [Value.slice.injEq] at e
  obtain ⟨rfl, -, rfl⟩ := e
  obtain ⟨b, e2, hb, hr⟩ := h (fun e => by rw [e] at hi; simp at hi)
  obtain ⟨x, h1, h2⟩ := hr.get i hi
  exact ⟨b, x, e2, hb, by simpa using h1, h2⟩
 obtain ⟨aN, capN, rfl, hnl, hnc⟩ := hN
 have hlen : ∀ k, (hk : k < ks.length) → (l ++ ([123] ++ txTo true ns ks k)).length + (ahead true ns k).length + (txT ks[k]).length ≤ 1099511627776 := fun k hk => by
  have := txTo_step true ns ks k hk (l.length + 1) (by omega)
  simp only [List.length_append, List.length_cons, List.length_nil]; omega
 have hend : (l ++ ([123] ++ txTo true ns ks ks.length)).length + 1 ≤ 1099511627776 := by
  rw [txTo_all]; simp only [List.length_append, List.length_cons, List.length_nil]; omega
 have HE : Hid ((l ++ ([123] ++ txTo true ns ks ks.length)) ++ [125] = l ++ ([123] ++ txK true ns 0 ks ++ [125])) := by show _ = _; rw [txTo_all]; simp
 obtain ⟨w0, hw0⟩ : ∃ w0, w.alloc (.cells #[.slice aN ns.length capN, .slice a ks.length cap] 106) = w0 := ⟨_, rfl⟩
 have hx0 : Wx B w w0 := by rw [← hw0]; exact (Wx.refl B w).alloc hB _
 have hB0 : B ≤ w0.heap.size := Nat.le_trans hB hx0.below.size
 have hg0 : w0.heap[w.heap.size]? = some (.cells #[.slice aN ns.length capN, .slice a ks.length cap] 106) := by rw [← hw0]; show (w.heap.push _)[w.heap.size]? = _; simp
 have hr0 : ByRow B w0 r l := by rw [← hw0]; exact World.ownsRow.alloc hr _
 have hbox : ∀ W, Wx B w0 W → W.cell? ⟨w.heap.size, 0, none⟩ = some (.slice aN ns.length capN) ∧ W.cell? ⟨w.heap.size, 1, none⟩ = some (.slice a ks.length cap) := fun W hW => by
  have hb := hW.box hg0 (by intro c fz e; cases e)
  rw [hg0] at hb
  simp [World.cell?, hb]
 have hbw := hbox w0 (Wx.refl _ _)
 have d0 := hbw.1; have d1 := hbw.2
 have HR := hH hr0; have HCALL := hH hcall; have HC := hH hcell; have HLEN := hH hlen; have HENDL := hH hend; have HQ := hH hQ; have HNC := hH hnc; have HX0 := hH hx0; have HBOX := hH hbox
 have HNK := hH hnk
 clear hr hr0 hcall hcell hlen hend hQ hv hnc hx0 hbox hbw hg0 hnk
 go_enter Tryz.func156, Tryz.ntmps156
 go_upto_region 1 with fail
 try rw [hw0]
 clear hw0
 go_wp2_with (at_builtin; refine append_bytes _ rfl _ _ rfl B r l [123] rfl (World.ownsRow.alloc (unhide HR) _) ⟨w0.heap.size, 0, none⟩ 1 1 rfl rfl (one_byte _ 123 _ rfl _) (by simp; omega) (by simp; omega) ?_
              intro a1 n1 cap1 w1 HN1 HR1 HG1
              have hx1 : Wx B w0 w1 := ((Wx.refl B w0).alloc hB0 (.cells #[.int .u8 123] 5)).trans (ByRow.wx (World.ownsRow.alloc (uh HR) _) HG1.out (by simp; omega))
              have HS1 : Hid (WSt B w0 w1 a1 n1 cap1 (l ++ ([123] ++ txTo true ns ks 0))) := ⟨by rw [HN1.out]; simp [txTo, txK], by simpa [txTo, txK] using HR1.out, hx1⟩
              have d1' := (uh HBOX w1 hx1).2
              clear hx1 HN1 HR1 HG1)
 go_loopw [1, 13] (fun s i wr => ∃ (k : Nat) (a' : Option Addr) (n' cap' : Nat), k ≤ ks.length ∧ i = .int .i64 k ∧ s = .slice a' n' cap' ∧ Hid (WSt B w0 wr a' n' cap' (l ++ ([123] ++ txTo true ns ks k)))) (fun _ i _ => ks.length - (intOf i).toNat)
 case atStart => exact ⟨0, a1, n1, cap1, Nat.zero_le _, rfl, rfl, HS1⟩
 case round =>
  obtain ⟨k, a', n', cap', hk, rfl, rfl, HS⟩ := hrel
  have hsw : B ≤ wr.heap.size := Nat.le_trans hB0 HS.out.wx.below.size
  by_cases hlt : k < ks.length
  · obtain ⟨b, x, rfl, hqb, hce, hrp⟩ := uh HC k hlt
    have hkn : k < ns.length := by have := uh HNK; omega
    obtain ⟨nb, no, rfl, hpn, hcn, hsn⟩ := uh HNC k hkn
    have hwx : ∀ W, Wx B w0 W → Wx B w W := fun W h => (uh HX0).trans h
    have e0 : wr.cell? ⟨b, k, none⟩ = some x := by rw [(hwx _ HS.out.wx).cell (uh HQ b hqb)]; exact hce
    have hnm : ∀ W, Wx B w0 W → W.cell? ⟨nb, no + k, none⟩ = some (.string ns[k]) := fun W h => by rw [(hwx _ h).cell (uh HQ nb hpn)]; exact hcn
    have hcl := fun W r' L' h1 h2 h3 => uh HCALL k hlt x W r' L' hrp (hwx W h1) h2 h3
    obtain ⟨T, y, rfl, hna⟩ := hrp.wm
    have hln := uh HLEN k hlt
    have hsep : (ahead true ns k) = (if 0 < k then [44] else []) ++ (ns[k].data.toList ++ [58]) := by simp [ahead, List.getD, hkn]
    have HNEXT : Hid (((((l ++ ([123] ++ txTo true ns ks k)) ++ (if 0 < k then [44] else [])) ++ ns[k].data.toList) ++ [58]) ++ txT ks[k] = l ++ ([123] ++ txTo true ns ks (k + 1))) := by show _ = _; rw [txTo_succ _ _ _ _ hlt, hsep]; simp
    rw [hsep] at hln
    have hl1 : (l ++ ([123] ++ txTo true ns ks k)).length + 1 ≤ 1099511627776 := by
     have := txTo_le true ns ks k hk
     simp only [List.length_append, List.length_cons, List.length_nil]; omega
    generalize ks[k] = tk at *
    generalize ns[k] = nm at *
    generalize l ++ ([123] ++ txTo true ns ks k) = LL at *
    have hbt : ∀ W, ByRow B W (.slice a' n' cap') LL → B ≤ W.heap.size → Calls Tryz.prog 95 #[.slice a' n' cap', .int .i64 k] W (WEnd B W (LL ++ if 0 < k then [44] else [])) := fun W h1 h2 => between_any B W _ LL k h1 h2 hl1 (by omega)
    generalize (if 0 < k then [44] else [] : List UInt8) = SS at *
    have hsz : nm.data.toList.length = nm.size := by simp
    have HLA : Hid (((LL ++ SS) ++ nm.data.toList).length + 1 ≤ 1099511627776) := by show _ ≤ _; simp only [List.length_append, List.length_cons, List.length_nil] at hln ⊢; omega
    have HLB : Hid ((((LL ++ SS) ++ nm.data.toList) ++ [58]).length + (txT tk).length ≤ 1099511627776) := by show _ ≤ _; simp only [List.length_append, List.length_cons, List.length_nil] at hln ⊢; omega
    simp only [List.length_append, hsz, List.length_cons, List.length_nil] at hln
    have hcb : Calls Tryz.prog 95 #[.slice a' n' cap', .int .i64 k] wr.drew fun e w1 => ∃ a1 n1 cap1, e = .returned (.slice a1 n1 cap1) ∧ (w1.cell? ⟨w.heap.size, 0, none⟩ = some (.slice (some ⟨nb, no, none⟩) ns.length capN) ∧ w1.cell? ⟨nb, no + k, none⟩ = some (.string nm)) ∧
     ∃ a2 n2 cap2 w2, (∀ ty, (Builtin.append_ #[22, 9] ty #[.slice a1 n1 cap1, .string nm]).run Tryz.prog w1 = .ok (.slice a2 n2 cap2) w2) ∧ (w2.cell? ⟨w.heap.size, 0, none⟩ = some (.slice (some ⟨nb, no, none⟩) ns.length capN) ∧ w2.cell? ⟨nb, no + k, none⟩ = some (.string nm)) ∧ Hid (WSt B w0 w2 a2 n2 cap2 ((LL ++ SS) ++ nm.data.toList)) := by
     refine (hbt wr.drew (by exact HS.out.row) hsw).mono ?_
     rintro e w1 ⟨a1, n1, cap1, rfl, hn1, hr1, hx1⟩
     have hx01 : Wx B w0 w1 := HS.out.wx.drew.trans hx1
     have hB1 : B ≤ w1.heap.size := Nat.le_trans hB0 hx01.below.size
     obtain ⟨a2, n2, cap2, w2, g1, g2, g3, g4⟩ := run_app_str nm hr1 hB1 (by rw [List.length_append]; omega)
     exact ⟨a1, n1, cap1, rfl, ⟨(uh HBOX w1 hx01).1, hnm w1 hx01⟩, a2, n2, cap2, w2, g1, ⟨(uh HBOX w2 (hx01.trans g4)).1, hnm w2 (hx01.trans g4)⟩, g2, g3, hx01.trans g4⟩
    have k0 := (uh HBOX wr HS.out.wx).1
    have k1 := hnm wr HS.out.wx
    have hi0 : (0 : Int) ≤ (k : Int) := by omega
    have hi1 : (k : Int) < (ns.length : Int) := by omega
    have HCL := hH hcl; have HCB := hH hcb
    clear hcl hce hrp hqb hsep hl1 hln hbt hcb hnm hpn hcn hsn hwx hsz
    go_wp2_with fail
    go_region_held3 (fun W => W.cell? ⟨w.heap.size, 0, none⟩ = some (.slice (some ⟨nb, no, none⟩) ns.length capN) ∧ W.cell? ⟨nb, no + k, none⟩ = some (.string nm)) (first | exact f1 | exact f2 | go_keep)
     (first
     | (go_at_call 95
        refine (uh HCB).mono ?_
        rintro e w1 ⟨a1, n1, cap1, rfl, f1, a2, n2, cap2, w2, hrun, f2, HW2⟩)
     | (refine step_append_runW _ _ (by rfl) _ _ _ _ (by rfl) _ _ _ (by rfl) (by rfl) hrun ?_))
    clear hrun f1 f2 HCB
    have hB2 : B ≤ w2.heap.size := Nat.le_trans hB0 HW2.out.wx.below.size
    go_wp2_with fail
    go_region_held3 (fun _ => True) (trivial)
     (first
     | (refine step_append_bytes _ (by rfl) _ _ (by rfl) B (.slice a2 n2 cap2) ((LL ++ SS) ++ nm.data.toList) [58] (by rfl) (by exact World.ownsRow.alloc HW2.out.row (.cells #[.int .u8 58] 5)) ⟨w2.heap.size, 0, none⟩ 1 1 (by rfl) (by rfl) (by decide) (by exact one_byte w2 58 58 rfl 5) (by exact uh HLA) (by simp; omega) ?_
        intro a3 n3 cap3 w3 HN3 HR3 HG3
        have HW3 : Hid (WSt B w0 w3 a3 n3 cap3 (((LL ++ SS) ++ nm.data.toList) ++ [58])) := ⟨HN3.out, HR3.out, Wx.trans (HW2.out.wx.alloc hB0 (.cells #[.int .u8 58] 5)).drew (ByRow.wx (by exact World.ownsRow.alloc HW2.out.row (.cells #[.int .u8 58] 5)) HG3.out (by simp; omega))⟩
        clear HN3 HR3 HG3)
     | (refine step_write (by rfl) _ _ (by rfl) (.iface T y) (.slice a3 n3 cap3) (by rfl) (by rfl) ((uh HCL w3 _ _ HW3.out.wx HW3.out.row (uh HLB)).mono ?_)
        rintro e w4 ⟨a4, n4, cap4, rfl, hn4, hr4, hx4⟩
        have HW4 : Hid (WSt B w0 w4 a4 n4 cap4 (l ++ ([123] ++ txTo true ns ks (k + 1)))) := by rw [← uh HNEXT]; exact ⟨hn4, hr4, HW3.out.wx.trans hx4⟩
        refine ⟨_, rfl, ?_⟩
        clear hn4 hr4 hx4))
    all_goals
     go_wp2_with fail
     go_roundw
     case rel => exact ⟨k + 1, a4, n4, cap4, by omega, by go_num, rfl, HW4⟩
     case measure => simp [intOf]; omega
  · obtain rfl : k = ks.length := by omega
    go_wp2_with (at_builtin; refine append_bytes _ rfl _ _ rfl B (.slice a' n' cap') (l ++ ([123] ++ txTo true ns ks ks.length)) [125] rfl (World.ownsRow.alloc HS.out.row _) ⟨wr.heap.size, 0, none⟩ 1 1 rfl rfl (one_byte _ 125 _ rfl _) (uh HENDL) (by simp; omega) ?_; intro a3 n3 cap3 w3 HN3 HR3 HG3)
    go_ret
    show WEnd B w (l ++ ([123] ++ txK true ns 0 ks ++ [125])) (.returned (.slice a3 n3 cap3)) w3
    rw [← uh HE]
    exact (ByRow.wend (World.ownsRow.alloc HS.out.row _) (by simp; omega) HN3.out HR3.out HG3.out).on (((uh HX0).trans HS.out.wx).alloc hB _)

def tbl : List Bool := [false, false, false, false, true, false, false, false, false, true, false, false, true, false, false, false, false, false, false, true, false, false, true, true, false, false, false, true]
def Tab (w : World) : Prop := ∀ i, i < 28 → w.cell? ⟨1, i, none⟩ = some (.bool (tbl.getD i false))
theorem own_1 (t : Tr) (P : Nat → Prop) (c : C5) (w : World) (hrep : Rep P w t c) (hT : Tab w) (hw : 1 < w.heap.size) (hs : t.sort = 1) :
 Calls Tryz.prog 92 #[.agg #[c.c0, c.c1, c.c2, c.c3, c.c4]] w fun e w' => e = .returned (.bool (ownB t)) ∧ Below w.heap.size w w' := by
 obtain ⟨c0, c1, c2, c3, c4⟩ := c
 obtain ⟨e0, e1, e2, -, -, htx, ⟨a3, cap3, e3, hl3, -⟩, a, cap, e4, hlen, -⟩ := hrep.open
 simp only at e0 e1 e2 e3 e4
 subst e0 e1 e2 e3 e4
 clear hrep
 have hbx : ∀ o, Below w.heap.size w (w.alloc o) := fun o => (Below.refl _ _).alloc (Nat.le_refl _) o
 have hbx2 : ∀ o o2, Below w.heap.size w ((w.alloc o).alloc o2) := fun o o2 => ((Below.refl _ _).alloc (Nat.le_refl _) o).alloc (by simp) o2
 have HBX := hH hbx; have HBX2 := hH hbx2; clear hbx hbx2
 have g0 := hT 4 (by omega); have g1 := hT 5 (by omega); have g2 := hT 6 (by omega); have g3 := hT 7 (by omega)
 simp only [tbl, List.getD_cons_succ, List.getD_cons_zero] at g0 g1 g2 g3
 clear hT
 go_enter Tryz.func92, Tryz.ntmps92
 go_wp2_with fail
 all_goals
  go_ret
  refine ⟨ret_bool ?_, by first | exact uh HBX2 _ _ | exact uh HBX _⟩
  try simp_all [ownB]
 all_goals first | (rw [Bool.eq_iff_iff]; simp; done) | (intros; omega)
theorem own_2 (t : Tr) (P : Nat → Prop) (c : C5) (w : World) (hrep : Rep P w t c) (hT : Tab w) (hw : 1 < w.heap.size) (hs : t.sort = 2) :
 Calls Tryz.prog 92 #[.agg #[c.c0, c.c1, c.c2, c.c3, c.c4]] w fun e w' => e = .returned (.bool (ownB t)) ∧ Below w.heap.size w w' := by
 obtain ⟨c0, c1, c2, c3, c4⟩ := c
 obtain ⟨e0, e1, e2, -, -, htx, ⟨a3, cap3, e3, hl3, -⟩, a, cap, e4, hlen, -⟩ := hrep.open
 simp only at e0 e1 e2 e3 e4
 subst e0 e1 e2 e3 e4
 clear hrep
 have hbx : ∀ o, Below w.heap.size w (w.alloc o) := fun o => (Below.refl _ _).alloc (Nat.le_refl _) o
 have hbx2 : ∀ o o2, Below w.heap.size w ((w.alloc o).alloc o2) := fun o o2 => ((Below.refl _ _).alloc (Nat.le_refl _) o).alloc (by simp) o2
 have HBX := hH hbx; have HBX2 := hH hbx2; clear hbx hbx2
 have g0 := hT 8 (by omega); have g1 := hT 9 (by omega); have g2 := hT 10 (by omega); have g3 := hT 11 (by omega)
 simp only [tbl, List.getD_cons_succ, List.getD_cons_zero] at g0 g1 g2 g3
 clear hT
 go_enter Tryz.func92, Tryz.ntmps92
 go_wp2_with fail
 all_goals
  go_ret
  refine ⟨ret_bool ?_, by first | exact uh HBX2 _ _ | exact uh HBX _⟩
  try simp_all [ownB]
 all_goals first | (rw [Bool.eq_iff_iff]; simp; done) | (intros; omega)
theorem own_3 (t : Tr) (P : Nat → Prop) (c : C5) (w : World) (hrep : Rep P w t c) (hT : Tab w) (hw : 1 < w.heap.size) (hs : t.sort = 3) :
 Calls Tryz.prog 92 #[.agg #[c.c0, c.c1, c.c2, c.c3, c.c4]] w fun e w' => e = .returned (.bool (ownB t)) ∧ Below w.heap.size w w' := by
 obtain ⟨c0, c1, c2, c3, c4⟩ := c
 obtain ⟨e0, e1, e2, -, -, htx, ⟨a3, cap3, e3, hl3, -⟩, a, cap, e4, hlen, -⟩ := hrep.open
 simp only at e0 e1 e2 e3 e4
 subst e0 e1 e2 e3 e4
 clear hrep
 have hbx : ∀ o, Below w.heap.size w (w.alloc o) := fun o => (Below.refl _ _).alloc (Nat.le_refl _) o
 have hbx2 : ∀ o o2, Below w.heap.size w ((w.alloc o).alloc o2) := fun o o2 => ((Below.refl _ _).alloc (Nat.le_refl _) o).alloc (by simp) o2
 have HBX := hH hbx; have HBX2 := hH hbx2; clear hbx hbx2
 have g0 := hT 12 (by omega); have g1 := hT 13 (by omega); have g2 := hT 14 (by omega); have g3 := hT 15 (by omega)
 simp only [tbl, List.getD_cons_succ, List.getD_cons_zero] at g0 g1 g2 g3
 clear hT
 go_enter Tryz.func92, Tryz.ntmps92
 go_wp2_with fail
 all_goals
  go_ret
  refine ⟨ret_bool ?_, by first | exact uh HBX2 _ _ | exact uh HBX _⟩
  try simp_all [ownB]
 all_goals first | (rw [Bool.eq_iff_iff]; simp; done) | (intros; omega)
theorem own_4 (t : Tr) (P : Nat → Prop) (c : C5) (w : World) (hrep : Rep P w t c) (hT : Tab w) (hw : 1 < w.heap.size) (hs : t.sort = 4) :
 Calls Tryz.prog 92 #[.agg #[c.c0, c.c1, c.c2, c.c3, c.c4]] w fun e w' => e = .returned (.bool (ownB t)) ∧ Below w.heap.size w w' := by
 obtain ⟨c0, c1, c2, c3, c4⟩ := c
 obtain ⟨e0, e1, e2, -, -, htx, ⟨a3, cap3, e3, hl3, -⟩, a, cap, e4, hlen, -⟩ := hrep.open
 simp only at e0 e1 e2 e3 e4
 subst e0 e1 e2 e3 e4
 clear hrep
 have hbx : ∀ o, Below w.heap.size w (w.alloc o) := fun o => (Below.refl _ _).alloc (Nat.le_refl _) o
 have hbx2 : ∀ o o2, Below w.heap.size w ((w.alloc o).alloc o2) := fun o o2 => ((Below.refl _ _).alloc (Nat.le_refl _) o).alloc (by simp) o2
 have HBX := hH hbx; have HBX2 := hH hbx2; clear hbx hbx2
 have g0 := hT 16 (by omega); have g1 := hT 17 (by omega); have g2 := hT 18 (by omega); have g3 := hT 19 (by omega)
 simp only [tbl, List.getD_cons_succ, List.getD_cons_zero] at g0 g1 g2 g3
 clear hT
 go_enter Tryz.func92, Tryz.ntmps92
 go_wp2_with fail
 all_goals
  go_ret
  refine ⟨ret_bool ?_, by first | exact uh HBX2 _ _ | exact uh HBX _⟩
  try simp_all [ownB]
 all_goals first | (rw [Bool.eq_iff_iff]; simp; done) | (intros; omega)
theorem own_5 (t : Tr) (P : Nat → Prop) (c : C5) (w : World) (hrep : Rep P w t c) (hT : Tab w) (hw : 1 < w.heap.size) (hs : t.sort = 5) :
 Calls Tryz.prog 92 #[.agg #[c.c0, c.c1, c.c2, c.c3, c.c4]] w fun e w' => e = .returned (.bool (ownB t)) ∧ Below w.heap.size w w' := by
 obtain ⟨c0, c1, c2, c3, c4⟩ := c
 obtain ⟨e0, e1, e2, -, -, htx, ⟨a3, cap3, e3, hl3, -⟩, a, cap, e4, hlen, -⟩ := hrep.open
 simp only at e0 e1 e2 e3 e4
 subst e0 e1 e2 e3 e4
 clear hrep
 have hbx : ∀ o, Below w.heap.size w (w.alloc o) := fun o => (Below.refl _ _).alloc (Nat.le_refl _) o
 have hbx2 : ∀ o o2, Below w.heap.size w ((w.alloc o).alloc o2) := fun o o2 => ((Below.refl _ _).alloc (Nat.le_refl _) o).alloc (by simp) o2
 have HBX := hH hbx; have HBX2 := hH hbx2; clear hbx hbx2
 have g0 := hT 20 (by omega); have g1 := hT 21 (by omega); have g2 := hT 22 (by omega); have g3 := hT 23 (by omega)
 simp only [tbl, List.getD_cons_succ, List.getD_cons_zero] at g0 g1 g2 g3
 clear hT
 go_enter Tryz.func92, Tryz.ntmps92
 go_wp2_with fail
 all_goals
  go_ret
  refine ⟨ret_bool ?_, by first | exact uh HBX2 _ _ | exact uh HBX _⟩
  try simp_all [ownB]
 all_goals first | (rw [Bool.eq_iff_iff]; simp; done) | (intros; omega)
theorem own_6 (t : Tr) (P : Nat → Prop) (c : C5) (w : World) (hrep : Rep P w t c) (hT : Tab w) (hw : 1 < w.heap.size) (hs : t.sort = 6) :
 Calls Tryz.prog 92 #[.agg #[c.c0, c.c1, c.c2, c.c3, c.c4]] w fun e w' => e = .returned (.bool (ownB t)) ∧ Below w.heap.size w w' := by
 obtain ⟨c0, c1, c2, c3, c4⟩ := c
 obtain ⟨e0, e1, e2, -, -, htx, ⟨a3, cap3, e3, hl3, -⟩, a, cap, e4, hlen, -⟩ := hrep.open
 simp only at e0 e1 e2 e3 e4
 subst e0 e1 e2 e3 e4
 clear hrep
 have hbx : ∀ o, Below w.heap.size w (w.alloc o) := fun o => (Below.refl _ _).alloc (Nat.le_refl _) o
 have hbx2 : ∀ o o2, Below w.heap.size w ((w.alloc o).alloc o2) := fun o o2 => ((Below.refl _ _).alloc (Nat.le_refl _) o).alloc (by simp) o2
 have HBX := hH hbx; have HBX2 := hH hbx2; clear hbx hbx2
 have g0 := hT 24 (by omega); have g1 := hT 25 (by omega); have g2 := hT 26 (by omega); have g3 := hT 27 (by omega)
 simp only [tbl, List.getD_cons_succ, List.getD_cons_zero] at g0 g1 g2 g3
 clear hT
 go_enter Tryz.func92, Tryz.ntmps92
 go_wp2_with fail
 all_goals
  go_ret
  refine ⟨ret_bool ?_, by first | exact uh HBX2 _ _ | exact uh HBX _⟩
  try simp_all [ownB]
 all_goals first | (rw [Bool.eq_iff_iff]; simp; done) | (intros; omega)
theorem own_out {t : Tr} (h : t.sort < 1 ∨ 6 < t.sort) : ownB t = false := by
 unfold ownB
 rw [if_neg (by omega), if_neg (by omega), if_neg (by omega), if_neg (by omega), if_neg (by omega), if_neg (by omega)]
theorem own_lo (t : Tr) (P : Nat → Prop) (c : C5) (w : World) (hrep : Rep P w t c) (hs : t.sort < 1) :
 Calls Tryz.prog 92 #[.agg #[c.c0, c.c1, c.c2, c.c3, c.c4]] w fun e w' => e = .returned (.bool (ownB t)) ∧ Below w.heap.size w w' := by
 obtain ⟨c0, c1, c2, c3, c4⟩ := c
 obtain ⟨e0, e1, e2, -, -, htx, ⟨a3, cap3, e3, hl3, -⟩, a, cap, e4, hlen, -⟩ := hrep.open
 simp only at e0 e1 e2 e3 e4
 subst e0 e1 e2 e3 e4
 clear hrep
 have hbx : ∀ o, Below w.heap.size w (w.alloc o) := fun o => (Below.refl _ _).alloc (Nat.le_refl _) o
 have HBX := hH hbx; clear hbx
 have HO := hH (own_out (Or.inl hs))
 go_enter Tryz.func92, Tryz.ntmps92
 go_wp2_with fail
 all_goals
  go_ret
  exact ⟨ret_bool (uh HO).symm, uh HBX _⟩
theorem own_hi (t : Tr) (P : Nat → Prop) (c : C5) (w : World) (hrep : Rep P w t c) (hs : 6 < t.sort) :
 Calls Tryz.prog 92 #[.agg #[c.c0, c.c1, c.c2, c.c3, c.c4]] w fun e w' => e = .returned (.bool (ownB t)) ∧ Below w.heap.size w w' := by
 obtain ⟨c0, c1, c2, c3, c4⟩ := c
 obtain ⟨e0, e1, e2, -, -, htx, ⟨a3, cap3, e3, hl3, -⟩, a, cap, e4, hlen, -⟩ := hrep.open
 simp only at e0 e1 e2 e3 e4
 subst e0 e1 e2 e3 e4
 clear hrep
 have hbx : ∀ o, Below w.heap.size w (w.alloc o) := fun o => (Below.refl _ _).alloc (Nat.le_refl _) o
 have HBX := hH hbx; clear hbx
 have HO := hH (own_out (Or.inr hs))
 go_enter Tryz.func92, Tryz.ntmps92
 go_wp2_with fail
 all_goals
  go_ret
  exact ⟨ret_bool (uh HO).symm, uh HBX _⟩
theorem own_any (t : Tr) (P : Nat → Prop) (c : C5) (w : World) (hrep : Rep P w t c) (hT : Tab w) (hw : 1 < w.heap.size) :
 Calls Tryz.prog 92 #[.agg #[c.c0, c.c1, c.c2, c.c3, c.c4]] w fun e w' => e = .returned (.bool (ownB t)) ∧ Below w.heap.size w w' := by
 have h : t.sort < 1 ∨ 6 < t.sort ∨ t.sort = 1 ∨ t.sort = 2 ∨ t.sort = 3 ∨ t.sort = 4 ∨ t.sort = 5 ∨ t.sort = 6 := by omega
 rcases h with h | h | h | h | h | h | h | h
 · exact own_lo t P c w hrep h
 · exact own_hi t P c w hrep h
 · exact own_1 t P c w hrep hT hw h
 · exact own_2 t P c w hrep hT hw h
 · exact own_3 t P c w hrep hT hw h
 · exact own_4 t P c w hrep hT hw h
 · exact own_5 t P c w hrep hT hw h
 · exact own_6 t P c w hrep hT hw h

theorem Tab.lt {w : World} (h : Tab w) : 1 < w.heap.size := World.block_lt_of_cell? w _ (h 0 (by omega))
theorem Tab.of_block {w w' : World} (h : Tab w) (e : w'.heap[1]? = w.heap[1]?) : Tab w' := fun i hi => by
 rw [World.cell?_of_block (w := w) (a := ⟨1, i, none⟩) e]; exact h i hi
theorem Tab.but {w w' : World} {B : Nat} (h : Tab w) (hb : But B w w') (hB : 1 < B) : Tab w' := h.of_block (hb.at h.lt (by omega))

theorem infoSorted : (Tryz.prog.info? 66).map (fun i => (i.zero, i.size, i.bytes)) = some (some .nilIface, 1, 16) := by kernel_rfl
def TreeSaid (n : Nat) : Prop := ∀ (t : Tr), tsz t < n → ∀ (P : Nat → Prop) (c : C5) (w : World) (B : Nat) (p l : Int), (∀ b, P b → b < w.heap.size ∧ b ≠ B) → Rep P w t c → Bnd w B p l → Tab w → 1 < B → 0 ≤ p → p ≤ 120 → 0 ≤ l → l ≤ 6 →
    Calls Tryz.prog 67 #[.pointer (some ⟨B, 0, none⟩), .agg #[c.c0, c.c1, c.c2, c.c3, c.c4]] w fun e w' => But B w w' ∧
     ((∃ q v, wlk t p l = some q ∧ e = .returned v ∧ SRep (fun b => P b ∨ (w.heap.size ≤ b ∧ b < w'.heap.size)) w' t v ∧ Bnd w' B q l) ∨ (wlk t p l = none ∧ e = fltE))
theorem trees_any (n : Nat) (IH : TreeSaid n) (t : Tr) (hn : tsz t ≤ n) (P : Nat → Prop) (a : Option Addr) (cap : Nat) (w : World) (B : Nat) (p l : Int) (hP : ∀ b, P b → b < w.heap.size ∧ b ≠ B)
 (hlen : t.kids.length ≤ 9223372036854775807)
 (hc : ∀ i, (hi : i < t.kids.length) → ∃ b o c, a = some ⟨b, o, none⟩ ∧ P b ∧ C5.at w b (o + i * 5) c ∧ Rep P w t.kids[i] c)
 (hB : Bnd w B p l) (hT : Tab w) (hB0 : 1 < B) (hp0 : 0 ≤ p) (hp1 : p ≤ 120) (hl0 : 0 ≤ l) (hl1 : l ≤ 6) :
 Calls Tryz.prog 104 #[.pointer (some ⟨B, 0, none⟩), .slice a t.kids.length cap] w fun e w' => But B w w' ∧
  ((∃ q v, wlkK t.kids p l = some q ∧ e = .returned v ∧ SKids (fun b => P b ∨ (w.heap.size ≤ b ∧ b < w'.heap.size)) w' v t.kids ∧ Bnd w' B q l) ∨ (wlkK t.kids p l = none ∧ e = fltE)) := by
 have hBw := hB.lt
 obtain ⟨i0, hi, hz0, hz1, hz2⟩ := info_parts infoSorted
 generalize hks : t.kids = ks at *
 have HK := hH hks; clear hks
 have HC := hH hc; clear hc
 have HP := hH hP; clear hP
 have HI := hH IH; clear IH
 have HT := hH hT; clear hT
 have HB := hH hB; clear hB
 have HIF := hH (And.intro hi (And.intro hz0 (And.intro hz1 hz2))); clear hi hz0 hz1 hz2
 go_enter Tryz.func104, Tryz.ntmps104
 go_wp2_with fail
 go_loopw [5, 10] (fun s i wr => ∃ (k : Nat) (q : Int) (a' : Option Addr) (cap' : Nat), k ≤ ks.length ∧ i = .int .i64 k ∧ s = .slice a' k cap' ∧ 0 ≤ q ∧ q ≤ 120 ∧ Hid (wlkK (ks.drop k) q l = wlkK ks p l) ∧ Hid (Got P w wr s ks k) ∧ Hid (Bnd wr B q l) ∧ Hid (But B w wr) ∧ (k : Int) ≤ q) (fun _ i _ => ks.length - (intOf i).toNat)
 case atStart => exact ⟨0, p, none, 0, Nat.zero_le _, rfl, rfl, hp0, hp1, rfl, hH (Got.start P w ks), HB, hH (But.refl B w), by simpa using hp0⟩
 case round =>
  obtain ⟨k, q, a', cap', hk, rfl, rfl, hq0, hq1, HQ, HG, HBQ, HBT, hkq⟩ := hrel
  by_cases hlt : k < ks.length
  · obtain ⟨b, o, c, rfl, hpb, hcell, hrep⟩ := uh HC k hlt
    have hsw := HBT.out.size
    have hcell' := hcell.carry (HBT.out.at (uh HP b hpb).1 (uh HP b hpb).2)
    obtain ⟨c0, c1, c2, c3, c4⟩ := c
    obtain ⟨e0, e1, e2, e3, e4⟩ := hcell'
    simp only at e0 e1 e2 e3 e4
    have HR := hH hrep; clear hrep hcell hpb
    have hmem : ks[k] ∈ t.kids := by rw [uh HK]; exact List.getElem_mem hlt
    have hsm : tsz ks[k] < n := by have := tsz_kid hmem; omega
    clear hmem
    have hrw : Rep P wr ks[k] ⟨c0, c1, c2, c3, c4⟩ := Rep.carry (fun b hb => HBT.out.at (uh HP b hb).1 (uh HP b hb).2) (fun _ h => h) _ _ (uh HR)
    have hcall : ∀ o, Calls Tryz.prog 67 #[.pointer (some ⟨B, 0, none⟩), .agg #[c0, c1, c2, c3, c4]] (wr.alloc o) fun e w' => But B (wr.alloc o) w' ∧
     ((∃ q' v, wlk ks[k] q l = some q' ∧ e = .returned v ∧ SRep (fun b => P b ∨ ((wr.alloc o).heap.size ≤ b ∧ b < w'.heap.size)) w' ks[k] v ∧ Bnd w' B q' l) ∨ (wlk ks[k] q l = none ∧ e = fltE)) := fun o =>
     uh HI ks[k] hsm P ⟨c0, c1, c2, c3, c4⟩ (wr.alloc o) B q l (fun b hb => ⟨by have := (uh HP b hb).1; simp; omega, (uh HP b hb).2⟩) (Rep.carry (fun b hb => Below.heap_alloc _ _ _ (by have := (uh HP b hb).1; omega)) (fun _ h => h) _ _ hrw) (HBQ.out.alloc o) ((uh HT).but (HBT.out.trans (But.alloc B wr o)) hB0) hB0 hq0 hq1 hl0 hl1
    have HCALL := hH hcall
    obtain ⟨g0, g1, g2, -, -, -, ⟨a3, cap3, g3, -⟩, a4, cap4, g4, -⟩ := hrw.open
    simp only at g0 g1 g2 g3 g4
    subst g0 g1 g2 g3 g4
    clear hcall hrw HR
    have HST := hH (wlkK_step hlt q l)
    go_wp2_with fail
    refine (uh HCALL _).mono ?_
    rintro e w2 ⟨hbt, ⟨q', v, hwl, rfl, hsr, hbnd⟩ | ⟨hwl, rfl⟩⟩
    · have hst := uh HST
      rw [hwl] at hst
      simp only at hst
      have hbd := wlk_bd _ _ _ _ hq0 hq1 hwl
      have hfin : wlkK (ks.drop (k + 1)) q' l = wlkK ks p l := by rw [← HQ.out, hst]
      have HFIN := hH hfin
      have hbt1 := (But.alloc B wr _).trans hbt
      have hg0 := HG.out
      have hg2 := hg0.kept (uh HP) hBw hsw hbt1
      obtain ⟨xs0, hown0, -⟩ := hg0
      obtain ⟨xs, hown, hx⟩ := hg2
      have hnew : SRep (fun b => P b ∨ (w.heap.size ≤ b ∧ b < w2.heap.size ∧ some b ≠ (Value.slice a' k cap').ownBlock)) w2 ks[k] v := by
       refine SRep.carry (fun _ _ => rfl) (fun b hb => ?_) _ _ hsr
       rcases hb with hb | ⟨hb1, hb2⟩
       · exact Or.inl hb
       · have hb1' : wr.heap.size + 1 ≤ b := by simpa using hb1
         exact Or.inr ⟨by omega, hb2, fun e => by have := (hown0.lt b e.symm).2; omega⟩
      obtain ⟨T, x, rfl⟩ := hsr.iface
      have hbt2 := HBT.out.trans hbt1
      have hs2 := hbt2.size
      have HBT2 := hH hbt2; have HX := hH hx; have HNEW := hH hnew; have HOWN := hH hown; have HBN := hH hbnd
      obtain ⟨hi, hz0, hz1, hz2⟩ := uh HIF
      clear hfin hst hwl hbt hbt1 hbt2 hown0 hx hnew hsr hbnd hown e0 e1 e2 e3 e4 HCALL HST HBQ
      have HII := hH hi; have HZ0 := hH hz0; have HZ1 := hH hz1; have HZ2 := hH hz2
      clear hi hz0 hz1 hz2
      go_wp2_with (at_builtin; refine append_row _ rfl _ _ 102 rfl w.heap.size 66 i0 .nilIface 1 16 Tryz.underlying102 (uh HII) (uh HZ0) (uh HZ1) (uh HZ2) rfl (by decide) (.slice a' k cap') k xs rfl ((uh HOWN).alloc _) ⟨w2.heap.size, 0, none⟩ 1 1 [.iface T x] rfl rfl (cell_one _ _ _) (fun u hu => by simp at hu; subst hu; rfl) (by decide) (by unfold maxLen; omega) (by omega) (by simp; omega) ?_; intro v' w4 hown' hgrow hv')
      have hown2 := uh HOWN
      obtain ⟨g', cap'', hv''⟩ : ∃ g' cap'', v' = .slice (some ⟨g', 0, none⟩) (k + 1) cap'' := by
       rcases hown'.2 with ⟨_, h⟩ | ⟨g', cap'', _, h, _⟩
       · omega
       · exact ⟨g', cap'', h⟩
      have hb3 : Below w2.heap.size w2 (w2.alloc (.cells #[.iface T x] 66)) := (Below.refl _ _).alloc (Nat.le_refl _) _
      have hgot := Got.push (uh HP) hlt hs2 hown2 (uh HX) (uh HNEW) hb3 hown' hgrow hv'
      have hs3 := hb3.size
      have hs4 := hgrow.size
      have hbnd4 : Bnd w4 B q' l := by
       refine (uh HBN).of_block ?_
       rw [hgrow.block B (by omega) (fun e => by have := (hown2.lt B e.symm).1; omega), hb3.block B (by omega)]
      have hbut4 : But B w w4 := by
       have h2 := uh HBT2
       refine ⟨hgrow.os.trans (hb3.os.trans h2.os), hgrow.tape.trans (hb3.tape.trans h2.tape), hgrow.output.trans (hb3.output.trans h2.output), by omega, fun i hi hne => ?_⟩
       rw [hgrow.block i (by omega) (fun e => by have := (hown2.lt i e.symm).1; omega), hb3.block i (by omega), h2.block i hi hne]
      clear hown2
      go_roundw
      case rel => exact ⟨k + 1, q', some ⟨g', 0, none⟩, cap'', by omega, by go_num, hv'', by omega, hbd.2, HFIN, hgot, hbnd4, hbut4, by omega⟩
      case measure => simp [intOf]; omega
    · have hfin : wlkK ks p l = none := by rw [← HQ.out, uh HST, hwl]
      have HFIN := hH hfin
      have hbt2 := HBT.out.trans ((But.alloc B wr _).trans hbt)
      have HBT2 := hH hbt2
      clear hfin hbt hwl hbt2
      go_wp2_with fail
      exact ⟨rfl, uh HBT2, Or.inr ⟨uh HFIN, rfl⟩⟩
  · go_wp2_with fail
    go_ret
    obtain rfl : k = ks.length := by omega
    refine ⟨HBT.out, Or.inl ⟨q, _, ?_, rfl, HG.out.done, HBQ.out⟩⟩
    rw [← HQ.out, List.drop_of_length_le (Nat.le_refl _), wlkK]

theorem newFlag_yes (n : Int) (w : World) (h : 0 ≤ n ∧ n ≤ 1) : Calls Tryz.prog 103 #[.int .i64 n] w fun e w' => e = .returned (.bool (n == 1)) ∧ w' = w := by
 have h' : n = 0 ∨ n = 1 := by omega
 clear h
 rcases h' with rfl | rfl
 · go_enter Tryz.func103, Tryz.ntmps103
   go_wp2_with (go_at_call 63; refine (treeWant_yes _).mono ?_; rintro e w' ⟨rfl, rfl⟩)
   go_ret
   exact ⟨rfl, rfl⟩
 · go_enter Tryz.func103, Tryz.ntmps103
   go_wp2_with (go_at_call 63; refine (treeWant_yes _).mono ?_; rintro e w' ⟨rfl, rfl⟩)
   go_ret
   exact ⟨rfl, rfl⟩
theorem newFlag_no (n : Int) (w : World) (h : ¬ (0 ≤ n ∧ n ≤ 1)) : Calls Tryz.prog 103 #[.int .i64 n] w fun e w' => e = fltE ∧ w' = w := by
 have h0 : (n == 0) = false := by simp; omega
 have h1 : (n == 1) = false := by simp; omega
 clear h
 go_enter Tryz.func103, Tryz.ntmps103
 go_wp2_with (go_at_call 63; refine (treeWant_no _).mono ?_; rintro e w' ⟨rfl, rfl⟩)
 exact ⟨rfl, rfl, rfl⟩
end Go.Proofs.YtccnehcpmkgbhaaGreatDoor
