/- A part. -/
import Derived.Test.YtbkagahmiibclaaGreatDoorPart21
import Derived.Test.YtbkagahmiibclaaGreatDoorPart14
namespace Go.Proofs.YtbkagahmiibclaaGreatDoor
open Go Go.RowKit
set_option maxRecDepth 100000
set_option maxHeartbeats 6400000
structure Wx (B : Nat) (w w' : World) : Prop where
 below : Below B w w'
 others : Lib.OthersKept 5 none w w'
theorem Wx.refl (B : Nat) (w : World) : Wx B w w := ⟨Below.refl _ _, Lib.OthersKept.refl _ _ _⟩
theorem Wx.trans {B : Nat} {a b c : World} (h : Wx B a b) (k : Wx B b c) : Wx B a c := ⟨h.below.trans k.below, h.others.trans k.others⟩
theorem Wx.alloc {B : Nat} {a b : World} (h : Wx B a b) (hB : B ≤ a.heap.size) (o : Obj) : Wx B a (b.alloc o) := ⟨h.below.alloc (Nat.le_trans hB h.below.size) o, h.others.alloc o⟩
theorem Wx.drewN {B : Nat} {a b : World} (h : Wx B a b) (n : Nat) : Wx B a (b.drewN n) := ⟨below_drewN h.below n, h.others⟩
theorem ByRow.wx {B : Nat} {w w' : World} {v : Value} {l : List UInt8} (h : ByRow B w v l) (hg : w.grownBy w' v.ownBlock) (hB : B ≤ w.heap.size) : Wx B w w' := by
 refine ⟨h.below hg hB, (Lib.OthersKept.refl _ _ _).grown hg fun g e => ?_⟩
 rcases h.2 with ⟨hv, _⟩ | ⟨g', cap, cur, hv, _, hh, _⟩
 · rw [hv] at e; cases e
 · rw [hv] at e
   obtain rfl : g' = g := by simpa [Value.ownBlock] using e
   exact ⟨_, _, hh⟩
def WEnd (B : Nat) (w : World) (L : List UInt8) (e : Ending) (w' : World) : Prop := ∃ a n cap, e = .returned (.slice a n cap) ∧ n = L.length ∧ ByRow B w' (.slice a n cap) L ∧ Wx B w w'
theorem WEnd.on {B : Nat} {w0 w w' : World} {L : List UInt8} {e : Ending} (h : WEnd B w L e w') (hx : Wx B w0 w) : WEnd B w0 L e w' := by
 obtain ⟨a, n, cap, h1, h2, h3, h4⟩ := h
 exact ⟨a, n, cap, h1, h2, h3, hx.trans h4⟩
theorem ByRow.wend {B : Nat} {w w2 : World} {v : Value} {l L : List UInt8} {a : Option Addr} {n cap : Nat} (h : ByRow B w v l) (hB : B ≤ w.heap.size) (hn : n = L.length) (h2 : ByRow B w2 (.slice a n cap) L) (hg : w.grownBy w2 v.ownBlock) : WEnd B w L (.returned (.slice a n cap)) w2 := ⟨a, n, cap, rfl, hn, h2, h.wx hg hB⟩
theorem one_byte (w : World) (x : UInt8) (z : Int) (hz : z = x.toNat) (t : TypeId) : ∀ j u, (bc [x])[j]? = some u → (w.alloc (.cells #[.int .u8 z] t)).cell? ((⟨w.heap.size, 0, none⟩ : Addr).add j) = some u := by
 subst hz; exact byte_one w x t
theorem inv1 (y r : Value) (w : World) : (invoke (.fn (.method "loop.example/teagle/impl.write") #[]) #[.iface 132 y, r]).run Tryz.prog w = .ok (.enter 176 #[y, r]) w := by kernel_rfl
theorem inv2 (y r : Value) (w : World) : (invoke (.fn (.method "loop.example/teagle/impl.write") #[]) #[.iface 133 y, r]).run Tryz.prog w = .ok (.enter 180 #[y, r]) w := by kernel_rfl
theorem inv3 (y r : Value) (w : World) : (invoke (.fn (.method "loop.example/teagle/impl.write") #[]) #[.iface 134 y, r]).run Tryz.prog w = .ok (.enter 181 #[y, r]) w := by kernel_rfl
theorem inv4 (y r : Value) (w : World) : (invoke (.fn (.method "loop.example/teagle/impl.write") #[]) #[.iface 136 y, r]).run Tryz.prog w = .ok (.enter 182 #[y, r]) w := by kernel_rfl
theorem inv5 (y r : Value) (w : World) : (invoke (.fn (.method "loop.example/teagle/impl.write") #[]) #[.iface 139 y, r]).run Tryz.prog w = .ok (.enter 184 #[y, r]) w := by kernel_rfl
theorem inv6 (y r : Value) (w : World) : (invoke (.fn (.method "loop.example/teagle/impl.write") #[]) #[.iface 141 y, r]).run Tryz.prog w = .ok (.enter 185 #[y, r]) w := by kernel_rfl
def CallsW (v r : Value) (w : World) (Q : Ending → World → Prop) : Prop :=
 ∃ T y f, v = .iface T y ∧ (∀ w, (invoke (.fn (.method "loop.example/teagle/impl.write") #[]) #[.iface T y, r]).run Tryz.prog w = .ok (.enter f #[y, r]) w) ∧ Calls Tryz.prog f #[y, r] w Q
theorem CallsW.mono {v r : Value} {w : World} {Q R : Ending → World → Prop} (h : CallsW v r w Q) (hq : ∀ e w', Q e w' → R e w') : CallsW v r w R := by
 obtain ⟨T, y, f, h1, h2, h3⟩ := h
 exact ⟨T, y, f, h1, h2, h3.mono hq⟩
theorem wp_write {o : Oper} {a : Act} {w : World} {K : Act → World → Prop} {Q : Exit → Act → World → Prop} (s x : Operand) (hop : o.op = .call { callee := .invoke s "loop.example/teagle/impl.write", args := #[x], argTypes := #[22] })
 (v r : Value) (hs : a.eval s = v) (hx : a.eval x = r) (h : CallsW v r w fun e w' => ∃ u, e = .returned u ∧ K (a.put o.dst u) w') : Oper.wp Tryz.prog o a w K Q := by
 obtain ⟨T, y, f, rfl, hi, hc⟩ := h
 unfold Oper.wp execOp
 have hi' := hi w
 simp only [hop, resolve, Sem.run_bind, Sem.run_pure, Result.andThen_ok, List.map_toArray, List.map_cons, List.map_nil, hs, hx]
 rw [show (#[Value.iface T y] ++ #[r]) = #[Value.iface T y, r] from rfl, hi', Oper.upon_enter]
 refine hc.mono ?_
 rintro e w' ⟨u, rfl, hk⟩
 exact hk
theorem list_write {ops : Array Oper} {rest : List Oper} {o : Oper} {a : Act} {w : World} {Q : Exit → Act → World → Prop} (hg : o.guard = none) (s x : Operand) (hop : o.op = .call { callee := .invoke s "loop.example/teagle/impl.write", args := #[x], argTypes := #[22] })
 (v r : Value) (hs : a.eval s = v) (hx : a.eval x = r) (h : CallsW v r w fun e w' => ∃ u, e = .returned u ∧ wpList Tryz.prog ops Q rest (a.put o.dst u) w') : wpList Tryz.prog ops Q (o :: rest) a w :=
 wpList_plain hg fun _ hK => wp_write s x hop v r hs hx (h.mono fun _ _ ⟨u, h1, h2⟩ => ⟨u, h1, hK _ _ h2⟩)
theorem step_write {ops : Array Oper} {o : Oper} {a : Act} {w : World} {K : Act → World → Prop} {Q : Exit → Act → World → Prop} {E : Prop} (hg : o.guard = none) (s x : Operand) (hop : o.op = .call { callee := .invoke s "loop.example/teagle/impl.write", args := #[x], argTypes := #[22] })
 (v r : Value) (hs : a.eval s = v) (hx : a.eval x = r) (h : CallsW v r w fun e w' => ∃ u, e = .returned u ∧ K (a.put o.dst u) w') : if Region.wanted o (yielded ops a.tmps) = true then Oper.wp Tryz.prog o a w K Q else E := by
 have hw : Region.wanted o (yielded ops a.tmps) = true := by simp [Region.wanted, hg]
 rw [if_pos hw]
 exact wp_write s x hop v r hs hx h
theorem append_stringU (w : World) {ops : Array Oper} {rest : List Oper} {o : Oper} {a : Act} {Q : Exit → Act → World → Prop}
 (hg : o.guard = none) (s x : Operand) (u : TypeId) (hu : Tryz.prog.underlying u = some .string) (hop : o.op = Op.call { callee := Callee.builtin Builtin.append, args := #[s, x], argTypes := #[22, u] })
 (base : Nat) (v : Value) (l : List UInt8) (tx : ByteArray) (hs : a.eval s = v) (hown : ByRow base w v l) (hx : a.eval x = .string tx)
 (hlen : l.length + tx.size ≤ 1099511627776) (hbase : base ≤ w.heap.size)
 (hK : ∀ a' n' cap' w', Hid (n' = (l ++ tx.data.toList).length) → Hid (ByRow base w' (.slice a' n' cap') (l ++ tx.data.toList)) → Hid (w.grownBy w' v.ownBlock) → wpList Tryz.prog ops Q rest (a.put o.dst (.slice a' n' cap')) w') :
 wpList Tryz.prog ops Q (o :: rest) a w := by
 obtain ⟨i0, hi, hz0, hz1, hz2⟩ := info_parts infoU8
 have hsz : tx.data.toList.length = tx.size := by simp
 refine Lib.wpList_append_own_string w hg s x 22 u hop base 5 i0 Tryz.underlying22 hu hi hz0 hz1 hz2 v l.length (bc l) hs hown tx hx (by unfold maxLen; omega) (by omega) hbase (fun v' w' r1 r2 _ => ?_)
 have hr : ByRow base w' v' (l ++ tx.data.toList) := by
  show w'.ownsRow base 5 1 v' (l ++ tx.data.toList).length (bc (l ++ tx.data.toList))
  rw [bc_append, List.length_append, hsz, ← bc_str]; exact r1
 obtain ⟨a', cap', rfl⟩ := hr.slice
 exact hK a' _ cap' w' rfl hr r2
theorem between_any (B : Nat) (w : World) (r : Value) (l : List UInt8) (k : Nat) (hr : ByRow B w r l) (hB : B ≤ w.heap.size) (hl : l.length + 1 ≤ 1099511627776) (hk : k ≤ 1099511627776) :
 Calls Tryz.prog 183 #[r, .int .i64 k] w (WEnd B w (l ++ if 0 < k then [44] else [])) := by
 have HR := hH hr
 by_cases h0 : k = 0
 · subst h0
   obtain ⟨a, cap, rfl⟩ := hr.slice
   clear hr
   go_enter Tryz.func183, Tryz.ntmps183
   go_wp2_with fail
   go_ret
   exact ⟨_, _, _, rfl, by simp, by simpa using uh HR, Wx.refl _ _⟩
 · have hd : (((k : Int)) == 0) = false := by simp; omega
   have hd2 : decide ((k : Int) = 0) = false := by simp; omega
   rw [if_pos (by omega)]
   clear hr
   go_enter Tryz.func183, Tryz.ntmps183
   go_wp2_with (at_builtin; refine append_bytes _ rfl _ _ rfl B r l [44] rfl (World.ownsRow.alloc (uh HR) _) ⟨w.heap.size, 0, none⟩ 1 1 rfl rfl (one_byte _ 44 _ rfl _) (by simp; omega) (by simp; omega) ?_; intro a' n' cap' w2 HN HR2 HG)
   go_ret
   exact ((ByRow.wend (World.ownsRow.alloc (uh HR) _) (by simp; omega) HN.out HR2.out HG.out).on ((Wx.refl _ _).alloc hB _))
theorem wr_num (B : Nat) (w : World) (r : Value) (l : List UInt8) (i : Int) (hi : I64 i) (hr : ByRow B w r l) (hB : B ≤ w.heap.size) (hl : l.length ≤ 1099511627776) (ht : Lib.TabBelow Tryz.prog B w "internal/strconv.uint64pow10" .u64 Lib.pow10Tab) :
 Calls Tryz.prog 176 #[.int .i64 i, r] w (WEnd B w (l ++ Lib.itoa i)) := by
 have HC := hH (Tryz.strconv_AppendInt_10 B l.length i hi.1 hi.2 r (bc l) w hr hB (by omega) ht)
 clear hr ht
 go_enter Tryz.func176, Tryz.ntmps176
 go_wp2_with fail
 refine (uh HC).mono ?_
 rintro e w' ⟨v', rfl, h1, h2, h3⟩
 have hrow : ByRow B w' v' (l ++ Lib.itoa i) := by
  show w'.ownsRow B 5 1 v' (l ++ Lib.itoa i).length (bc (l ++ Lib.itoa i))
  rw [bc_append, List.length_append]; exact h1
 obtain ⟨a, cap, rfl⟩ := hrow.slice
 obtain ⟨n, hn⟩ : ∃ n, (l ++ Lib.itoa i).length = n := ⟨_, rfl⟩
 rw [hn] at hrow ⊢
 have HEND : Hid (WEnd B w (l ++ Lib.itoa i) (.returned (.slice a n cap)) w') := ⟨_, _, _, rfl, hn.symm, hrow, h2, h3⟩
 clear hrow h1 h2 h3 HC hn
 go_wp2_with fail
 go_ret
 exact HEND.out
theorem undText : Tryz.prog.underlying 133 = some .string := by kernel_rfl
theorem wr_text (B : Nat) (w : World) (r : Value) (l : List UInt8) (tx : ByteArray) (hr : ByRow B w r l) (hB : B ≤ w.heap.size) (hl : l.length + tx.size + 2 ≤ 1099511627776) :
 Calls Tryz.prog 180 #[.string tx, r] w (WEnd B w (l ++ ([34] ++ tx.data.toList ++ [34]))) := by
 have hsz : tx.data.toList.length = tx.size := by simp
 have HR := hH hr
 have hbx : ∀ (W : World) (o : Obj), B ≤ W.heap.size → B ≤ (W.alloc o).heap.size := fun W o h => by simp; omega
 have HE : Hid (((l ++ [34]) ++ tx.data.toList) ++ [34] = l ++ ([34] ++ tx.data.toList ++ [34])) := by show _ = _; simp
 clear hr
 go_enter Tryz.func180, Tryz.ntmps180
 go_wp2_with (at_builtin; first
  | (refine append_bytes _ rfl _ _ rfl B r l [34] rfl (World.ownsRow.alloc (uh HR) _) ⟨w.heap.size, 0, none⟩ 1 1 rfl rfl (one_byte _ 34 _ rfl _) (by simp; omega) (hbx _ _ hB) ?_
     intro a1 n1 cap1 w1 HN1 HR1 HG1
     have hx1 := (ByRow.wx (World.ownsRow.alloc (uh HR) (.cells #[.int .u8 34] 5)) HG1.out (hbx _ _ hB))
     have hB1 : B ≤ w1.heap.size := Nat.le_trans (hbx _ _ hB) hx1.below.size
     have HX1 := hH (((Wx.refl B w).alloc hB (.cells #[.int .u8 34] 5)).trans hx1)
     clear hx1 HG1)
  | (refine append_stringU _ rfl _ _ 133 undText rfl B (.slice a1 n1 cap1) (l ++ [34]) tx rfl HR1.out rfl (by simp; omega) hB1 ?_
     intro a2 n2 cap2 w2 HN2 HR2 HG2
     have hx2 := ByRow.wx HR1.out HG2.out hB1
     have hB2 : B ≤ w2.heap.size := Nat.le_trans hB1 hx2.below.size
     have HX2 := hH ((uh HX1).trans hx2)
     clear hx2 HG2 HR1 HX1)
  | (refine append_bytes _ rfl _ _ rfl B (.slice a2 n2 cap2) ((l ++ [34]) ++ tx.data.toList) [34] rfl (World.ownsRow.alloc HR2.out _) ⟨w2.heap.size, 0, none⟩ 1 1 rfl rfl (one_byte _ 34 _ rfl _) (by simp; omega) (hbx _ _ hB2) ?_
     intro a3 n3 cap3 w3 HN3 HR3 HG3))
 go_ret
 show WEnd B w (l ++ ([34] ++ tx.data.toList ++ [34])) (.returned (.slice a3 n3 cap3)) w3
 rw [← uh HE]
 exact (ByRow.wend (World.ownsRow.alloc HR2.out _) (hbx _ _ hB2) HN3.out HR3.out HG3.out).on (((uh HX2).alloc hB _))
theorem wr_flag (B : Nat) (w : World) (r : Value) (l : List UInt8) (b : Bool) (hr : ByRow B w r l) (hB : B ≤ w.heap.size) (hl : l.length + (if b = true then [121, 101, 115] else [110, 111] : List UInt8).length ≤ 1099511627776) :
 Calls Tryz.prog 181 #[.bool b, r] w (WEnd B w (l ++ if b = true then [121, 101, 115] else [110, 111])) := by
 have HR := hH hr
 clear hr
 have s1 : (⟨#[121, 101, 115]⟩ : ByteArray).size = 3 := rfl
 have s2 : (⟨#[110, 111]⟩ : ByteArray).size = 2 := rfl
 cases b with
 | true =>
   have hl3 : l.length + 3 ≤ 1099511627776 := by simpa using hl
   clear hl
   go_enter Tryz.func181, Tryz.ntmps181
   go_wp2_with (at_builtin; refine append_string _ rfl _ _ rfl B r l ⟨#[121, 101, 115]⟩ rfl (uh HR) rfl (by rw [s1]; exact hl3) hB ?_; intro a2 n2 cap2 w2 HN2 HR2 HG2)
   go_ret
   exact (ByRow.wend (uh HR) hB HN2.out HR2.out HG2.out)
 | false =>
   have hl2 : l.length + 2 ≤ 1099511627776 := by simpa using hl
   clear hl
   go_enter Tryz.func181, Tryz.ntmps181
   go_wp2_with (at_builtin; refine append_string _ rfl _ _ rfl B r l ⟨#[110, 111]⟩ rfl (uh HR) rfl (by rw [s2]; exact hl2) hB ?_; intro a2 n2 cap2 w2 HN2 HR2 HG2)
   go_ret
   exact (ByRow.wend (uh HR) hB HN2.out HR2.out HG2.out)

theorem Wx.drew {B : Nat} {a b : World} (h : Wx B a b) : Wx B a b.drew := h.drewN 1
theorem Wx.cell {B : Nat} {a b : World} (h : Wx B a b) {p : Addr} (hp : p.block < B) : b.cell? p = a.cell? p := World.cell?_of_block (h.below.block p.block hp)
theorem na1 (n : Nat) (y : Value) (w : World) : (nilAhead (n + 1) 132 y "loop.example/teagle/impl.write").run Tryz.prog w = .ok (some false) w := by kernel_rfl
theorem na2 (n : Nat) (y : Value) (w : World) : (nilAhead (n + 1) 133 y "loop.example/teagle/impl.write").run Tryz.prog w = .ok (some false) w := by kernel_rfl
theorem na3 (n : Nat) (y : Value) (w : World) : (nilAhead (n + 1) 134 y "loop.example/teagle/impl.write").run Tryz.prog w = .ok (some false) w := by kernel_rfl
theorem na4 (n : Nat) (y : Value) (w : World) : (nilAhead (n + 1) 136 y "loop.example/teagle/impl.write").run Tryz.prog w = .ok (some false) w := by kernel_rfl
theorem na5 (n : Nat) (y : Value) (w : World) : (nilAhead (n + 1) 139 y "loop.example/teagle/impl.write").run Tryz.prog w = .ok (some false) w := by kernel_rfl
theorem na6 (n : Nat) (y : Value) (w : World) : (nilAhead (n + 1) 141 y "loop.example/teagle/impl.write").run Tryz.prog w = .ok (some false) w := by kernel_rfl
theorem SRep.wm {Q : Nat → Prop} {w : World} {t : Tr} {v : Value} (h : SRep Q w t v) : ∃ T y, v = .iface T y ∧ ∀ (n : Nat) (w : World), (nilAhead (n + 1) T y "loop.example/teagle/impl.write").run Tryz.prog w = .ok (some false) w := by
 obtain ⟨s, n, tx, ns, ks⟩ := t
 rw [SRep] at h
 rcases h with h | h | h | ⟨hs, a, cap, h1, h2⟩ | ⟨hs, v3, a, cap, h1, h3, h2⟩ | ⟨hs, a, cap, h1, h2⟩
 · exact ⟨_, _, h.2, fun n w => na1 n _ w⟩
 · exact ⟨_, _, h.2, fun n w => na2 n _ w⟩
 · exact ⟨_, _, h.2, fun n w => na3 n _ w⟩
 · exact ⟨_, _, h1, fun n w => na4 n _ w⟩
 · exact ⟨_, _, h1, fun n w => na5 n _ w⟩
 · exact ⟨_, _, h1, fun n w => na6 n _ w⟩
theorem wr_maybe0 (B : Nat) (w : World) (r : Value) (l : List UInt8) (a : Option Addr) (cap : Nat) (hr : ByRow B w r l) (hB : B ≤ w.heap.size) (hl : l.length + 1 ≤ 1099511627776) :
 Calls Tryz.prog 185 #[.slice a 0 cap, r] w (WEnd B w (l ++ [126])) := by
 have HR := hH hr
 clear hr
 go_enter Tryz.func185, Tryz.ntmps185
 go_wp2_with (at_builtin; refine append_bytes _ rfl _ _ rfl B r l [126] rfl (World.ownsRow.alloc (uh HR) _) ⟨w.heap.size, 0, none⟩ 1 1 rfl rfl (one_byte _ 126 _ rfl _) (by simp; omega) (by simp; omega) ?_; intro a' n' cap' w2 HN HR2 HG)
 go_ret
 exact ((ByRow.wend (World.ownsRow.alloc (uh HR) _) (by simp; omega) HN.out HR2.out HG.out).on ((Wx.refl _ _).alloc hB _))
theorem wr_maybe1 (B : Nat) (w : World) (r : Value) (l : List UInt8) (b m cap : Nat) (T : TypeId) (y : Value) (tk : List UInt8) (hm : 0 < m) (hm2 : m ≤ 1048576) (hb : b < B) (hx : w.cell? ⟨b, 0, none⟩ = some (.iface T y))
 (hcall : ∀ W r' L', Wx B w W → ByRow B W r' L' → L'.length + tk.length ≤ 1099511627776 → CallsW (.iface T y) r' W (WEnd B W (L' ++ tk))) (hr : ByRow B w r l) (hB : B ≤ w.heap.size) (hl : l.length + 1 + tk.length ≤ 1099511627776) :
 Calls Tryz.prog 185 #[.slice (some ⟨b, 0, none⟩) m cap, r] w (WEnd B w (l ++ ([63] ++ tk))) := by
 have HR := hH hr; have HCALL := hH hcall
 have hd : decide ((m : Int) = 0) = false := by simp; omega
 have hd2 : ((m : Int) == 0) = false := by simp; omega
 have hd3 : (0 : Int) < (m : Int) := by omega
 have hbw : b < w.heap.size := by omega
 clear hr hcall
 go_enter Tryz.func185, Tryz.ntmps185
 go_wp2_with fail
 go_region_held3 (fun W => W.cell? ⟨b, 0, none⟩ = some (.iface T y)) (first | exact e1 | exact e2 | exact (World.cell?_of_block (Below.heap_alloc _ _ _ hbw)).trans hx | go_keep)
  (first
  | (refine step_append_bytes _ (by rfl) _ _ (by rfl) B r l [63] (by rfl) (by exact World.ownsRow.alloc (uh HR) (.cells #[.int .u8 63] 5)) ⟨w.heap.size, 0, none⟩ 1 1 (by rfl) (by rfl) (by decide) (by exact one_byte w 63 63 rfl 5) (by simp; omega) (by simp; omega) ?_
     intro a1 n1 cap1 w1 HN1 HR1 HG1
     have hx1 : Wx B w w1 := by
      refine Wx.trans ((Wx.refl B w).alloc hB (.cells #[.int .u8 63] 5)).drew (ByRow.wx (by exact World.ownsRow.alloc (uh HR) (.cells #[.int .u8 63] 5)) HG1.out (by simp; omega))
     have e1 : w1.cell? ⟨b, 0, none⟩ = some (.iface T y) := by rw [hx1.cell hb]; exact hx
     have HX1 := hH hx1
     clear hx1 HG1)
  | (refine step_write (by rfl) _ _ (by rfl) (.iface T y) (.slice a1 n1 cap1) (by rfl) (by rfl) ((uh HCALL w1 _ _ (uh HX1) HR1.out (by simp; omega)).mono ?_)
     rintro e w2 ⟨a2, n2, cap2, rfl, hn2, hr2, hx2⟩
     have HEND : Hid (WEnd B w (l ++ ([63] ++ tk)) (.returned (.slice a2 n2 cap2)) w2) := ⟨a2, n2, cap2, rfl, by rw [hn2]; simp, by rw [← List.append_assoc]; exact hr2, (uh HX1).trans hx2⟩
     have e2 : w2.cell? ⟨b, 0, none⟩ = some (.iface T y) := by rw [hx2.cell hb]; exact e1
     refine ⟨_, rfl, ?_⟩
     clear hn2 hr2 hx2))
 all_goals
  go_wp2_with fail
  go_ret
  exact HEND.out
structure WSt (B : Nat) (w wr : World) (a : Option Addr) (n cap : Nat) (L : List UInt8) : Prop where
 len : n = L.length
 row : ByRow B wr (.slice a n cap) L
 wx : Wx B w wr
theorem txTo_step (f : Bool) (ns : List ByteArray) (ks : List Tr) (k : Nat) (hk : k < ks.length) (m : Nat) (h : m + (txK f ns 0 ks).length ≤ 1099511627776) : m + (txTo f ns ks k).length + (ahead f ns k).length + (txT ks[k]).length ≤ 1099511627776 := by
 have h1 := txTo_le f ns ks (k + 1) hk
 rw [txTo_succ f ns ks k hk] at h1
 simp only [List.length_append] at h1
 omega
theorem wr_list (B : Nat) (w : World) (r : Value) (l : List UInt8) (ks : List Tr) (ns : List ByteArray) (a : Option Addr) (cap : Nat) (Q : Nat → Prop) (hQ : ∀ b, Q b → b < B) (hv : SKids Q w (.slice a ks.length cap) ks) (hkl : ks.length ≤ 1048576)
 (hcall : ∀ i, (hi : i < ks.length) → ∀ x W r' L', SRep Q w ks[i] x → Wx B w W → ByRow B W r' L' → L'.length + (txT ks[i]).length ≤ 1099511627776 → CallsW x r' W (WEnd B W (L' ++ txT ks[i])))
 (hr : ByRow B w r l) (hB : B ≤ w.heap.size) (hl : l.length + 2 + (txK false ns 0 ks).length ≤ 1099511627776) :
 Calls Tryz.prog 182 #[.slice a ks.length cap, r] w (WEnd B w (l ++ ([91] ++ txK false ns 0 ks ++ [93]))) := by
 have hmf : ∀ (fn : Fn) (first cap : Array Value) (w : World), (Instr.makeFunc fn first cap).run Tryz.prog w = .ok (.func fn first cap) w := fun _ _ _ _ => rfl
 have hcell : ∀ i, (hi : i < ks.length) → ∃ b x, a = some ⟨b, 0, none⟩ ∧ Q b ∧ w.cell? ⟨b, i, none⟩ = some x ∧ SRep Q w ks[i] x := fun i hi => by
  obtain ⟨a', cap', e, h⟩ := hv
  simp only [Value.slice.injEq] at e
  obtain ⟨rfl, -, rfl⟩ := e
  obtain ⟨b, e2, hb, hr⟩ := h (fun e => by rw [e] at hi; simp at hi)
  obtain ⟨x, h1, h2⟩ := hr.get i hi
  exact ⟨b, x, e2, hb, by simpa using h1, h2⟩
 have hlen : ∀ k, (hk : k < ks.length) → (l ++ ([91] ++ txTo false ns ks k)).length + (ahead false ns k).length + (txT ks[k]).length ≤ 1099511627776 := fun k hk => by
  have := txTo_step false ns ks k hk (l.length + 1) (by omega)
  simp only [List.length_append, List.length_cons, List.length_nil]; omega
 have hend : (l ++ ([91] ++ txTo false ns ks ks.length)).length + 1 ≤ 1099511627776 := by
  rw [txTo_all]; simp only [List.length_append, List.length_cons, List.length_nil]; omega
 have HE : Hid ((l ++ ([91] ++ txTo false ns ks ks.length)) ++ [93] = l ++ ([91] ++ txK false ns 0 ks ++ [93])) := by show _ = _; rw [txTo_all]; simp
 have HR := hH hr; have HCALL := hH hcall; have HC := hH hcell; have HLEN := hH hlen; have HENDL := hH hend; have HQ := hH hQ
 clear hr hcall hcell hlen hend hQ hv
 go_enter Tryz.func182, Tryz.ntmps182
 go_wp2_with (at_builtin; refine append_bytes _ rfl _ _ rfl B r l [91] rfl (World.ownsRow.alloc (unhide HR) _) ⟨w.heap.size, 0, none⟩ 1 1 rfl rfl (one_byte _ 91 _ rfl _) (by simp; omega) (by simp; omega) ?_
              intro a1 n1 cap1 w1 HN1 HR1 HG1
              have hx1 : Wx B w w1 := ((Wx.refl B w).alloc hB (.cells #[.int .u8 91] 5)).trans (ByRow.wx (World.ownsRow.alloc (uh HR) _) HG1.out (by simp; omega))
              have HS1 : Hid (WSt B w w1 a1 n1 cap1 (l ++ ([91] ++ txTo false ns ks 0))) := ⟨by rw [HN1.out]; simp [txTo, txK], by simpa [txTo, txK] using HR1.out, hx1⟩
              clear hx1 HN1 HR1 HG1)
 go_loopw [1, 12] (fun s i wr => ∃ (k : Nat) (a' : Option Addr) (n' cap' : Nat), k ≤ ks.length ∧ i = .int .i64 k ∧ s = .slice a' n' cap' ∧ Hid (WSt B w wr a' n' cap' (l ++ ([91] ++ txTo false ns ks k)))) (fun _ i _ => ks.length - (intOf i).toNat)
 case atStart => exact ⟨0, a1, n1, cap1, Nat.zero_le _, rfl, rfl, HS1⟩
 case round =>
  obtain ⟨k, a', n', cap', hk, rfl, rfl, HS⟩ := hrel
  have hsw : B ≤ wr.heap.size := Nat.le_trans hB HS.out.wx.below.size
  by_cases hlt : k < ks.length
  · obtain ⟨b, x, rfl, hqb, hce, hrp⟩ := uh HC k hlt
    have e0 : wr.cell? ⟨b, k, none⟩ = some x := by rw [HS.out.wx.cell (uh HQ b hqb)]; exact hce
    have hcl := fun W r' L' h1 h2 h3 => uh HCALL k hlt x W r' L' hrp h1 h2 h3
    obtain ⟨T, y, rfl, hna⟩ := hrp.wm
    have hln := uh HLEN k hlt
    have hsep : (ahead false ns k) = if 0 < k then [44] else [] := by simp [ahead]
    have HNEXT : Hid (((l ++ ([91] ++ txTo false ns ks k)) ++ (if 0 < k then [44] else [])) ++ txT ks[k] = l ++ ([91] ++ txTo false ns ks (k + 1))) := by show _ = _; rw [txTo_succ _ _ _ _ hlt, ← hsep]; simp
    rw [hsep] at hln
    have hl1 : (l ++ ([91] ++ txTo false ns ks k)).length + 1 ≤ 1099511627776 := by
     have := txTo_le false ns ks k hk
     simp only [List.length_append, List.length_cons, List.length_nil]; omega
    generalize ks[k] = tk at *
    generalize hLL : l ++ ([91] ++ txTo false ns ks k) = LL at *
    have HBT : Hid (∀ W, ByRow B W (.slice a' n' cap') LL → B ≤ W.heap.size → Calls Tryz.prog 183 #[.slice a' n' cap', .int .i64 k] W (WEnd B W (LL ++ if 0 < k then [44] else []))) := fun W h1 h2 => between_any B W _ LL k h1 h2 hl1 (by omega)
    have HCL := hH hcl; have HLN := hH hln
    generalize hSS : (if 0 < k then [44] else [] : List UInt8) = SS at *
    clear hcl hce hrp hqb hsep hl1 hln hLL hSS
    go_wp2_with fail
    go_region_held3 (fun _ => True) (trivial) (first
     | (go_at_call 183
        refine (uh HBT wr.drew (by exact HS.out.row) hsw).mono ?_
        rintro e w1 ⟨a1, n1, cap1, rfl, hn1, hr1, hx1⟩
        have HW1 : Hid (WSt B w w1 a1 n1 cap1 (LL ++ SS)) := ⟨hn1, hr1, HS.out.wx.drew.trans hx1⟩
        clear hn1 hr1 hx1)
     | (refine step_write (by rfl) _ _ (by rfl) (.iface T y) (.slice a1 n1 cap1) (by rfl) (by rfl) ((uh HCL w1 _ _ HW1.out.wx HW1.out.row (by have := uh HLN; rw [List.length_append]; exact this)).mono ?_)
        rintro e w2 ⟨a2, n2, cap2, rfl, hn2, hr2, hx2⟩
        have HW2 : Hid (WSt B w w2 a2 n2 cap2 (l ++ ([91] ++ txTo false ns ks (k + 1)))) := by rw [← uh HNEXT]; exact ⟨hn2, hr2, HW1.out.wx.trans hx2⟩
        refine ⟨_, rfl, ?_⟩
        clear hn2 hr2 hx2))
    all_goals
     go_wp2_with fail
     go_roundw
     case rel => exact ⟨k + 1, a2, n2, cap2, by omega, by go_num, rfl, HW2⟩
     case measure => simp [intOf]; omega
  · obtain rfl : k = ks.length := by omega
    go_wp2_with (at_builtin; refine append_bytes _ rfl _ _ rfl B (.slice a' n' cap') (l ++ ([91] ++ txTo false ns ks ks.length)) [93] rfl (World.ownsRow.alloc HS.out.row _) ⟨wr.heap.size, 0, none⟩ 1 1 rfl rfl (one_byte _ 93 _ rfl _) (uh HENDL) (by simp; omega) ?_; intro a3 n3 cap3 w3 HN3 HR3 HG3)
    go_ret
    show WEnd B w (l ++ ([91] ++ txK false ns 0 ks ++ [93])) (.returned (.slice a3 n3 cap3)) w3
    rw [← uh HE]
    exact (ByRow.wend (World.ownsRow.alloc HS.out.row _) (by simp; omega) HN3.out HR3.out HG3.out).on (HS.out.wx.alloc hB _)

theorem step_append_runW {P : Program} (w w2 : World) {ops : Array Oper} {o : Oper} {a : Act} {K : Act → World → Prop} {Q : Exit → Act → World → Prop} {E : Prop} (hgd : o.guard = none) (s x : Operand) (t u : TypeId)
 (ho : o.op = .call { callee := .builtin .append, args := #[s, x], argTypes := #[t, u] }) (v1 v2 v' : Value) (hs : a.eval s = v1) (hx : a.eval x = v2)
 (hr : ∀ ty, (Builtin.append_ #[t, u] ty #[v1, v2]).run P w = .ok v' w2) (h : K (a.put o.dst v') w2) :
 if Region.wanted o (yielded ops a.tmps) = true then Oper.wp P o a w K Q else E := by
 have hw : Region.wanted o (yielded ops a.tmps) = true := by simp [Region.wanted, hgd]
 rw [if_pos hw]
 unfold Oper.wp execOp
 simp only [ho, resolve, invoke, builtin, Sem.run_bind, Sem.run_pure, Result.andThen_ok, List.map_toArray, List.map_cons, List.map_nil, hs, hx, hr]
 exact h
theorem Wx.box {B g : Nat} {a b : World} {o : Obj} (h : Wx B a b) (hg : a.heap[g]? = some o) (ho : ∀ c fz, o ≠ .cells c 5 fz) : b.heap[g]? = a.heap[g]? := by
 rw [hg]; exact h.others g o hg (by simp) ho
theorem run_app_str {B : Nat} {w : World} {a : Option Addr} {n cap : Nat} {l : List UInt8} (tx : ByteArray) (hr : ByRow B w (.slice a n cap) l) (hB : B ≤ w.heap.size) (hl : l.length + tx.size ≤ 1099511627776) :
 ∃ a2 n2 cap2 w2, (∀ ty, (Builtin.append_ #[22, 9] ty #[.slice a n cap, .string tx]).run Tryz.prog w = .ok (.slice a2 n2 cap2) w2) ∧ n2 = (l ++ tx.data.toList).length ∧ ByRow B w2 (.slice a2 n2 cap2) (l ++ tx.data.toList) ∧ Wx B w w2 := by
 obtain ⟨i0, hi, hz0, hz1, hz2⟩ := info_parts infoU8
 have hsz : tx.data.toList.length = tx.size := by simp
 obtain ⟨v2, w2, g1, g2, g3, -⟩ := Lib.run_append_own_string (P := Tryz.prog) w B 22 9 0 5 i0 Tryz.underlying22 Tryz.underlying9 hi hz0 hz1 hz2 _ _ _ hr tx (by unfold maxLen; omega) (by omega) hB
 have hr2 : ByRow B w2 v2 (l ++ tx.data.toList) := by
  show w2.ownsRow B 5 1 v2 (l ++ tx.data.toList).length (bc (l ++ tx.data.toList))
  rw [bc_append, List.length_append, hsz, ← bc_str]; exact g2
 obtain ⟨a2, cap2, rfl⟩ := hr2.slice
 exact ⟨a2, _, cap2, w2, fun ty => g1, rfl, hr2, hr.wx g3 hB⟩
theorem wr_form (B : Nat) (w : World) (r : Value) (l : List UInt8) (ks : List Tr) (ns : List ByteArray) (v3 : Value) (a : Option Addr) (cap : Nat) (Q : Nat → Prop) (hQ : ∀ b, Q b → b < B) (hN : StrsAt Q w v3 ns) (hv : SKids Q w (.slice a ks.length cap) ks) (hkl : ks.length ≤ 1048576) (hnk : ns.length = ks.length)
 (hcall : ∀ i, (hi : i < ks.length) → ∀ x W r' L', SRep Q w ks[i] x → Wx B w W → ByRow B W r' L' → L'.length + (txT ks[i]).length ≤ 1099511627776 → CallsW x r' W (WEnd B W (L' ++ txT ks[i])))
 (hr : ByRow B w r l) (hB : B ≤ w.heap.size) (hl : l.length + 2 + (txK true ns 0 ks).length ≤ 1099511627776) :
 Calls Tryz.prog 184 #[.agg #[v3, .slice a ks.length cap], r] w (WEnd B w (l ++ ([123] ++ txK true ns 0 ks ++ [125]))) := by
 have hmf : ∀ (fn : Fn) (first cap : Array Value) (w : World), (Instr.makeFunc fn first cap).run Tryz.prog w = .ok (.func fn first cap) w := fun _ _ _ _ => rfl
 have hcell : ∀ i, (hi : i < ks.length) → ∃ b x, a = some ⟨b, 0, none⟩ ∧ Q b ∧ w.cell? ⟨b, i, none⟩ = some x ∧ SRep Q w ks[i] x := fun i hi => by
  obtain ⟨a', cap', e, h⟩ := hv
  simp only [Value.slice.injEq] at e
  obtain ⟨rfl, -, rfl⟩ := e
  obtain ⟨b, e2, hb, hr⟩ := h (fun e => by rw [e] at hi; simp at hi)
  obtain ⟨x, h1, h2⟩ := hr.get i hi
  exact ⟨b, x, e2, hb, by simpa using h1, h2⟩
 obtain ⟨aN, capN, rfl, hnl, hnc⟩ := hN
 have hlen : ∀ k, (hk : k < ks.length) → (l ++ ([123] ++ txTo true ns ks k)).length + (ahead true ns k).length + (txT ks[k]).length ≤ 1099511627776 := fun k hk => by
  have := txTo_step true ns ks k hk (l.length + 1) (by omega)
  simp only [List.length_append, List.length_cons, List.length_nil]; omega
 have hend : (l ++ ([123] ++ txTo true ns ks ks.length)).length + 1 ≤ 1099511627776 := by
  rw [txTo_all]; simp only [List.length_append, List.length_cons, List.length_nil]; omega
 have HE : Hid ((l ++ ([123] ++ txTo true ns ks ks.length)) ++ [125] = l ++ ([123] ++ txK true ns 0 ks ++ [125])) := by show _ = _; rw [txTo_all]; simp
 obtain ⟨w0, hw0⟩ : ∃ w0, w.alloc (.cells #[.slice aN ns.length capN, .slice a ks.length cap] 139) = w0 := ⟨_, rfl⟩
 have hx0 : Wx B w w0 := by rw [← hw0]; exact (Wx.refl B w).alloc hB _
 have hB0 : B ≤ w0.heap.size := Nat.le_trans hB hx0.below.size
 have hg0 : w0.heap[w.heap.size]? = some (.cells #[.slice aN ns.length capN, .slice a ks.length cap] 139) := by rw [← hw0]; show (w.heap.push _)[w.heap.size]? = _; simp
 have hr0 : ByRow B w0 r l := by rw [← hw0]; exact World.ownsRow.alloc hr _
 have hbox : ∀ W, Wx B w0 W → W.cell? ⟨w.heap.size, 0, none⟩ = some (.slice aN ns.length capN) ∧ W.cell? ⟨w.heap.size, 1, none⟩ = some (.slice a ks.length cap) := fun W hW => by
  have hb := hW.box hg0 (by intro c fz e; cases e)
  rw [hg0] at hb
  simp [World.cell?, hb]
 have hbw := hbox w0 (Wx.refl _ _)
 have d0 := hbw.1; have d1 := hbw.2
 have HR := hH hr0; have HCALL := hH hcall; have HC := hH hcell; have HLEN := hH hlen; have HENDL := hH hend; have HQ := hH hQ; have HNC := hH hnc; have HX0 := hH hx0; have HBOX := hH hbox
 have HNK := hH hnk
 clear hr hr0 hcall hcell hlen hend hQ hv hnc hx0 hbox hbw hg0 hnk
 go_enter Tryz.func184, Tryz.ntmps184
 go_upto_region 1 with fail
 try rw [hw0]
 clear hw0
 go_wp2_with (at_builtin; refine append_bytes _ rfl _ _ rfl B r l [123] rfl (World.ownsRow.alloc (unhide HR) _) ⟨w0.heap.size, 0, none⟩ 1 1 rfl rfl (one_byte _ 123 _ rfl _) (by simp; omega) (by simp; omega) ?_
              intro a1 n1 cap1 w1 HN1 HR1 HG1
              have hx1 : Wx B w0 w1 := ((Wx.refl B w0).alloc hB0 (.cells #[.int .u8 123] 5)).trans (ByRow.wx (World.ownsRow.alloc (uh HR) _) HG1.out (by simp; omega))
              have HS1 : Hid (WSt B w0 w1 a1 n1 cap1 (l ++ ([123] ++ txTo true ns ks 0))) := ⟨by rw [HN1.out]; simp [txTo, txK], by simpa [txTo, txK] using HR1.out, hx1⟩
              have d1' := (uh HBOX w1 hx1).2
              clear hx1 HN1 HR1 HG1)
 go_loopw [1, 13] (fun s i wr => ∃ (k : Nat) (a' : Option Addr) (n' cap' : Nat), k ≤ ks.length ∧ i = .int .i64 k ∧ s = .slice a' n' cap' ∧ Hid (WSt B w0 wr a' n' cap' (l ++ ([123] ++ txTo true ns ks k)))) (fun _ i _ => ks.length - (intOf i).toNat)
 case atStart => exact ⟨0, a1, n1, cap1, Nat.zero_le _, rfl, rfl, HS1⟩
 case round =>
  obtain ⟨k, a', n', cap', hk, rfl, rfl, HS⟩ := hrel
  have hsw : B ≤ wr.heap.size := Nat.le_trans hB0 HS.out.wx.below.size
  by_cases hlt : k < ks.length
  · obtain ⟨b, x, rfl, hqb, hce, hrp⟩ := uh HC k hlt
    have hkn : k < ns.length := by have := uh HNK; omega
    obtain ⟨nb, no, rfl, hpn, hcn, hsn⟩ := uh HNC k hkn
    have hwx : ∀ W, Wx B w0 W → Wx B w W := fun W h => (uh HX0).trans h
    have e0 : wr.cell? ⟨b, k, none⟩ = some x := by rw [(hwx _ HS.out.wx).cell (uh HQ b hqb)]; exact hce
    have hnm : ∀ W, Wx B w0 W → W.cell? ⟨nb, no + k, none⟩ = some (.string ns[k]) := fun W h => by rw [(hwx _ h).cell (uh HQ nb hpn)]; exact hcn
    have hcl := fun W r' L' h1 h2 h3 => uh HCALL k hlt x W r' L' hrp (hwx W h1) h2 h3
    obtain ⟨T, y, rfl, hna⟩ := hrp.wm
    have hln := uh HLEN k hlt
    have hsep : (ahead true ns k) = (if 0 < k then [44] else []) ++ (ns[k].data.toList ++ [58]) := by simp [ahead, List.getD, hkn]
    have HNEXT : Hid (((((l ++ ([123] ++ txTo true ns ks k)) ++ (if 0 < k then [44] else [])) ++ ns[k].data.toList) ++ [58]) ++ txT ks[k] = l ++ ([123] ++ txTo true ns ks (k + 1))) := by show _ = _; rw [txTo_succ _ _ _ _ hlt, hsep]; simp
    rw [hsep] at hln
    have hl1 : (l ++ ([123] ++ txTo true ns ks k)).length + 1 ≤ 1099511627776 := by
     have := txTo_le true ns ks k hk
     simp only [List.length_append, List.length_cons, List.length_nil]; omega
    generalize ks[k] = tk at *
    generalize ns[k] = nm at *
    generalize l ++ ([123] ++ txTo true ns ks k) = LL at *
    have hbt : ∀ W, ByRow B W (.slice a' n' cap') LL → B ≤ W.heap.size → Calls Tryz.prog 183 #[.slice a' n' cap', .int .i64 k] W (WEnd B W (LL ++ if 0 < k then [44] else [])) := fun W h1 h2 => between_any B W _ LL k h1 h2 hl1 (by omega)
    generalize (if 0 < k then [44] else [] : List UInt8) = SS at *
    have hsz : nm.data.toList.length = nm.size := by simp
    have HLA : Hid (((LL ++ SS) ++ nm.data.toList).length + 1 ≤ 1099511627776) := by show _ ≤ _; simp only [List.length_append, List.length_cons, List.length_nil] at hln ⊢; omega
    have HLB : Hid ((((LL ++ SS) ++ nm.data.toList) ++ [58]).length + (txT tk).length ≤ 1099511627776) := by show _ ≤ _; simp only [List.length_append, List.length_cons, List.length_nil] at hln ⊢; omega
    simp only [List.length_append, hsz, List.length_cons, List.length_nil] at hln
    have hcb : Calls Tryz.prog 183 #[.slice a' n' cap', .int .i64 k] wr.drew fun e w1 => ∃ a1 n1 cap1, e = .returned (.slice a1 n1 cap1) ∧ (w1.cell? ⟨w.heap.size, 0, none⟩ = some (.slice (some ⟨nb, no, none⟩) ns.length capN) ∧ w1.cell? ⟨nb, no + k, none⟩ = some (.string nm)) ∧
     ∃ a2 n2 cap2 w2, (∀ ty, (Builtin.append_ #[22, 9] ty #[.slice a1 n1 cap1, .string nm]).run Tryz.prog w1 = .ok (.slice a2 n2 cap2) w2) ∧ (w2.cell? ⟨w.heap.size, 0, none⟩ = some (.slice (some ⟨nb, no, none⟩) ns.length capN) ∧ w2.cell? ⟨nb, no + k, none⟩ = some (.string nm)) ∧ Hid (WSt B w0 w2 a2 n2 cap2 ((LL ++ SS) ++ nm.data.toList)) := by
     refine (hbt wr.drew (by exact HS.out.row) hsw).mono ?_
     rintro e w1 ⟨a1, n1, cap1, rfl, hn1, hr1, hx1⟩
     have hx01 : Wx B w0 w1 := HS.out.wx.drew.trans hx1
     have hB1 : B ≤ w1.heap.size := Nat.le_trans hB0 hx01.below.size
     obtain ⟨a2, n2, cap2, w2, g1, g2, g3, g4⟩ := run_app_str nm hr1 hB1 (by rw [List.length_append]; omega)
     exact ⟨a1, n1, cap1, rfl, ⟨(uh HBOX w1 hx01).1, hnm w1 hx01⟩, a2, n2, cap2, w2, g1, ⟨(uh HBOX w2 (hx01.trans g4)).1, hnm w2 (hx01.trans g4)⟩, g2, g3, hx01.trans g4⟩
    have k0 := (uh HBOX wr HS.out.wx).1
    have k1 := hnm wr HS.out.wx
    have hi0 : (0 : Int) ≤ (k : Int) := by omega
    have hi1 : (k : Int) < (ns.length : Int) := by omega
    have HCL := hH hcl; have HCB := hH hcb
    clear hcl hce hrp hqb hsep hl1 hln hbt hcb hnm hpn hcn hsn hwx hsz
    go_wp2_with fail
    go_region_held3 (fun W => W.cell? ⟨w.heap.size, 0, none⟩ = some (.slice (some ⟨nb, no, none⟩) ns.length capN) ∧ W.cell? ⟨nb, no + k, none⟩ = some (.string nm)) (first | exact f1 | exact f2 | go_keep)
     (first
     | (go_at_call 183
        refine (uh HCB).mono ?_
        rintro e w1 ⟨a1, n1, cap1, rfl, f1, a2, n2, cap2, w2, hrun, f2, HW2⟩)
     | (refine step_append_runW _ _ (by rfl) _ _ _ _ (by rfl) _ _ _ (by rfl) (by rfl) hrun ?_))
    clear hrun f1 f2 HCB
    have hB2 : B ≤ w2.heap.size := Nat.le_trans hB0 HW2.out.wx.below.size
    go_wp2_with fail
    go_region_held3 (fun _ => True) (trivial)
     (first
     | (refine step_append_bytes _ (by rfl) _ _ (by rfl) B (.slice a2 n2 cap2) ((LL ++ SS) ++ nm.data.toList) [58] (by rfl) (by exact World.ownsRow.alloc HW2.out.row (.cells #[.int .u8 58] 5)) ⟨w2.heap.size, 0, none⟩ 1 1 (by rfl) (by rfl) (by decide) (by exact one_byte w2 58 58 rfl 5) (by exact uh HLA) (by simp; omega) ?_
        intro a3 n3 cap3 w3 HN3 HR3 HG3
        have HW3 : Hid (WSt B w0 w3 a3 n3 cap3 (((LL ++ SS) ++ nm.data.toList) ++ [58])) := ⟨HN3.out, HR3.out, Wx.trans (HW2.out.wx.alloc hB0 (.cells #[.int .u8 58] 5)).drew (ByRow.wx (by exact World.ownsRow.alloc HW2.out.row (.cells #[.int .u8 58] 5)) HG3.out (by simp; omega))⟩
        clear HN3 HR3 HG3)
     | (refine step_write (by rfl) _ _ (by rfl) (.iface T y) (.slice a3 n3 cap3) (by rfl) (by rfl) ((uh HCL w3 _ _ HW3.out.wx HW3.out.row (uh HLB)).mono ?_)
        rintro e w4 ⟨a4, n4, cap4, rfl, hn4, hr4, hx4⟩
        have HW4 : Hid (WSt B w0 w4 a4 n4 cap4 (l ++ ([123] ++ txTo true ns ks (k + 1)))) := by rw [← uh HNEXT]; exact ⟨hn4, hr4, HW3.out.wx.trans hx4⟩
        refine ⟨_, rfl, ?_⟩
        clear hn4 hr4 hx4))
    all_goals
     go_wp2_with fail
     go_roundw
     case rel => exact ⟨k + 1, a4, n4, cap4, by omega, by go_num, rfl, HW4⟩
     case measure => simp [intOf]; omega
  · obtain rfl : k = ks.length := by omega
    go_wp2_with (at_builtin; refine append_bytes _ rfl _ _ rfl B (.slice a' n' cap') (l ++ ([123] ++ txTo true ns ks ks.length)) [125] rfl (World.ownsRow.alloc HS.out.row _) ⟨wr.heap.size, 0, none⟩ 1 1 rfl rfl (one_byte _ 125 _ rfl _) (uh HENDL) (by simp; omega) ?_; intro a3 n3 cap3 w3 HN3 HR3 HG3)
    go_ret
    show WEnd B w (l ++ ([123] ++ txK true ns 0 ks ++ [125])) (.returned (.slice a3 n3 cap3)) w3
    rw [← uh HE]
    exact (ByRow.wend (World.ownsRow.alloc HS.out.row _) (by simp; omega) HN3.out HR3.out HG3.out).on (((uh HX0).trans HS.out.wx).alloc hB _)

def WtSaid (n : Nat) : Prop := ∀ (t : Tr), tsz t < n → ∀ (p l q : Int), 0 ≤ p → p ≤ 120 → wlk t p l = some q → ∀ (Q : Nat → Prop) (B : Nat) (v r : Value) (L : List UInt8) (w : World), (∀ b, Q b → b < B) → SRep Q w t v → ByRow B w r L → B ≤ w.heap.size →
 Lib.TabBelow Tryz.prog B w "internal/strconv.uint64pow10" .u64 Lib.pow10Tab → L.length + (txT t).length ≤ 1099511627776 → CallsW v r w (WEnd B w (L ++ txT t))
theorem write_step (n : Nat) (IH : WtSaid n) : WtSaid (n + 1) := by
 intro t ht p l q hp0 hp1 hw Q B v r L w hQ hr hrow hB htab hlen
 obtain ⟨h1, h2, ho, hnb, hk⟩ := wlk_open hw
 have hkl := wlkK_len t.kids (p + 1) (l + 1) q (by omega) h1 hk
 have hcall : ∀ i, (hi : i < t.kids.length) → ∀ x W r' L', SRep Q w t.kids[i] x → Wx B w W → ByRow B W r' L' → L'.length + (txT t.kids[i]).length ≤ 1099511627776 → CallsW x r' W (WEnd B W (L' ++ txT t.kids[i])) := fun i hi x W r' L' hx hW hr' hl' => by
  obtain ⟨p', q', g0, g1, g2⟩ := wlkK_get t.kids (p + 1) (l + 1) q (by omega) h1 hk i hi
  exact IH _ (by have := tsz_kid (List.getElem_mem hi); omega) p' _ q' g0 g1 g2 Q B x r' L' W hQ (SRep.carry (fun b hb => hW.below.block b (hQ b hb)) (fun _ h => h) _ _ hx) hr' (Nat.le_trans hB hW.below.size) (htab.on hW.below) hl'
 rcases shapes ho hnb with ⟨m, rfl, hm⟩ | ⟨x, rfl, hx⟩ | ⟨m, rfl, hm⟩ | ⟨ks, rfl, hks⟩ | ⟨ns, ks, rfl, hnl, hri⟩ | ⟨ks, rfl, hks⟩
 · rw [SRep] at hr
   rcases hr with ⟨-, rfl⟩ | ⟨h, -⟩ | ⟨h, -⟩ | ⟨h, -⟩ | ⟨h, -⟩ | ⟨h, -⟩
   · have hx : txT (.mk 1 m ByteArray.empty [] []) = Lib.itoa m := by rw [txT, if_pos rfl]
     rw [hx]
     exact ⟨_, _, _, rfl, fun w => inv1 _ _ w, wr_num B w r L m ⟨by omega, by omega⟩ hrow hB (by omega) htab⟩
   all_goals exact absurd h (by decide)
 · rw [SRep] at hr
   rcases hr with ⟨h, -⟩ | ⟨-, rfl⟩ | ⟨h, -⟩ | ⟨h, -⟩ | ⟨h, -⟩ | ⟨h, -⟩
   · exact absurd h (by decide)
   · have hx : txT (.mk 2 0 x [] []) = [34] ++ x.data.toList ++ [34] := by rw [txT, if_neg (by decide), if_pos rfl]
     have hsz : x.data.toList.length = x.size := by simp
     rw [hx] at hlen ⊢
     simp only [List.length_append, hsz, List.length_cons, List.length_nil] at hlen
     exact ⟨_, _, _, rfl, fun w => inv2 _ _ w, wr_text B w r L x hrow hB (by omega)⟩
   all_goals exact absurd h (by decide)
 · rw [SRep] at hr
   rcases hr with ⟨h, -⟩ | ⟨h, -⟩ | ⟨-, rfl⟩ | ⟨h, -⟩ | ⟨h, -⟩ | ⟨h, -⟩
   · exact absurd h (by decide)
   · exact absurd h (by decide)
   · have hx : txT (.mk 3 m ByteArray.empty [] []) = if (m == 1) = true then [121, 101, 115] else [110, 111] := by
      rw [txT, if_neg (by decide), if_neg (by decide), if_pos rfl]
      rcases hm with rfl | rfl
      · rfl
      · rfl
     rw [hx] at hlen ⊢
     exact ⟨_, _, _, rfl, fun w => inv3 _ _ w, wr_flag B w r L (m == 1) hrow hB hlen⟩
   all_goals exact absurd h (by decide)
 · rw [SRep] at hr
   rcases hr with ⟨h, -⟩ | ⟨h, -⟩ | ⟨h, -⟩ | ⟨-, a, cap, rfl, hkk⟩ | ⟨h, -⟩ | ⟨h, -⟩
   · exact absurd h (by decide)
   · exact absurd h (by decide)
   · exact absurd h (by decide)
   · have hx : txT (.mk 4 0 ByteArray.empty [] ks) = [91] ++ txK false [] 0 ks ++ [93] := by rw [txT, if_neg (by decide), if_neg (by decide), if_neg (by decide), if_neg (by decide), if_neg (by decide)]
     rw [hx] at hlen ⊢
     simp only [List.length_append, List.length_cons, List.length_nil] at hlen
     exact ⟨_, _, _, rfl, fun w => inv4 _ _ w, wr_list B w r L ks [] a cap Q hQ ⟨a, cap, rfl, hkk⟩ (by omega) hcall hrow hB (by omega)⟩
   all_goals exact absurd h (by decide)
 · rw [SRep] at hr
   rcases hr with ⟨h, -⟩ | ⟨h, -⟩ | ⟨h, -⟩ | ⟨h, -⟩ | ⟨-, v3, a, cap, rfl, hst, hkk⟩ | ⟨h, -⟩
   · exact absurd h (by decide)
   · exact absurd h (by decide)
   · exact absurd h (by decide)
   · exact absurd h (by decide)
   · have hx : txT (.mk 5 0 ByteArray.empty ns ks) = [123] ++ txK true ns 0 ks ++ [125] := by rw [txT, if_neg (by decide), if_neg (by decide), if_neg (by decide), if_neg (by decide), if_pos rfl]
     simp only [Tr.kids] at hkl
     rw [hx] at hlen ⊢
     simp only [List.length_append, List.length_cons, List.length_nil] at hlen
     exact ⟨_, _, _, rfl, fun w => inv5 _ _ w, wr_form B w r L ks ns v3 a cap Q hQ hst ⟨a, cap, rfl, hkk⟩ (by omega) hnl hcall hrow hB (by omega)⟩
   · exact absurd h (by decide)
 · rw [SRep] at hr
   rcases hr with ⟨h, -⟩ | ⟨h, -⟩ | ⟨h, -⟩ | ⟨h, -⟩ | ⟨h, -⟩ | ⟨-, a, cap, rfl, hkk⟩
   · exact absurd h (by decide)
   · exact absurd h (by decide)
   · exact absurd h (by decide)
   · exact absurd h (by decide)
   · exact absurd h (by decide)
   · refine ⟨_, _, _, rfl, fun w => inv6 _ _ w, ?_⟩
     cases ks with
     | nil =>
       have hx : txT (.mk 6 0 ByteArray.empty [] []) = [126] := by rw [txT, if_neg (by decide), if_neg (by decide), if_neg (by decide), if_pos rfl]; rfl
       rw [hx] at hlen ⊢
       simp only [List.length_cons, List.length_nil] at hlen
       exact wr_maybe0 B w r L a cap hrow hB hlen
     | cons k0 kr =>
       have hx : txT (.mk 6 0 ByteArray.empty [] (k0 :: kr)) = [63] ++ txT k0 := by rw [txT, if_neg (by decide), if_neg (by decide), if_neg (by decide), if_pos rfl, if_neg (by simp), txM]
       obtain ⟨b, rfl, hqb, hsr⟩ := hkk (by simp)
       obtain ⟨x, hc0, hs0⟩ := hsr.get 0 (by simp)
       have hs1 := hs0
       obtain ⟨T, y, rfl⟩ := hs0.iface
       rw [hx] at hlen ⊢
       simp only [List.length_append, List.length_cons, List.length_nil] at hlen
       exact wr_maybe1 B w r L b (k0 :: kr).length cap T y (txT k0) (by simp) (by omega) (hQ b hqb) hc0 (fun W r' L' h1 h2 h3 => hcall 0 (by simp [Tr.kids]) _ W r' L' hs1 h1 h2 h3) hrow hB (by omega)
theorem write_all : ∀ n, WtSaid n
 | 0 => fun _ h => absurd h (Nat.not_lt_zero _)
 | n + 1 => write_step n (write_all n)
def twS (t : Tr) : ByteArray := if 0 < pT t 1 then ⟨(txT t).toArray⟩ else ⟨#[]⟩
theorem implTreeWrite_any (t : Tr) (P : Nat → Prop) (c : C5) (w : World) (hP : ∀ b, P b → b < w.heap.size) (hrep : Rep P w t c) (hT : Tab w) (hE : Env w) :
 Calls Tryz.prog 31 #[.agg #[c.c0, c.c1, c.c2, c.c3, c.c4]] w fun e w' => e = .returned (.string (twS t)) ∧ Below w.heap.size w w' := by
 obtain ⟨W, hW⟩ : ∃ W, w.alloc (.cells #[c.c0, c.c1, c.c2, c.c3, c.c4] 26) = W := ⟨_, rfl⟩
 have hbx : Below w.heap.size w W := by rw [← hW]; exact (Below.refl _ _).alloc (Nat.le_refl _) _
 have hrepW := Rep.carry (fun b hb => hbx.block b (hP b hb)) (fun _ h => h) _ _ hrep
 have hPW : ∀ b, P b → b < W.heap.size := fun b hb => Nat.lt_of_lt_of_le (hP b hb) hbx.size
 have hTW := hT.of_block (hbx.block 1 hT.lt)
 have hrow : W.rowIs w.heap.size 26 5 (row5 c.c0 c.c1 c.c2 c.c3 c.c4) := by rw [← hW]; exact row5_alloc w _ _ _ _ _ _
 obtain ⟨x0, x1, x2, x3, x4⟩ := cs5 hrow (by omega)
 simp only [row5] at x0 x1 x2 x3 x4
 by_cases hpos : 0 < pT t 1
 · have hw : wlk t 0 0 = some (pT t 1) := by rw [wlk_start, if_neg (by omega)]
   have hS : twS t = ⟨(txT t).toArray⟩ := by unfold twS; rw [if_pos hpos]
   have hsmall := txT_small hw
   have hcall : Calls Tryz.prog 65 #[.agg #[c.c0, c.c1, c.c2, c.c3, c.c4]] W fun e w' => ∃ T y, e = .returned (.tuple #[.iface T y, .int .i64 (pT t 1)]) ∧ Hid (CallsW (.iface T y) (.slice none 0 0) w' (WEnd w'.heap.size w' (txT t))) ∧ Hid (Below w.heap.size w w') :=
    (sortTree_yes P W t c (pT t 1) hrepW hPW hTW hw).mono fun e w' ⟨v, h1, h2, h3⟩ => by
      have hb : Below w.heap.size w w' := hbx.trans (h3.mono hbx.size)
      obtain ⟨T, y, rfl⟩ := h2.iface
      refine ⟨T, y, h1, ?_, hb⟩
      have := write_all (tsz t + 1) t (by omega) 0 0 _ (by omega) (by omega) hw _ w'.heap.size (.iface T y) (.slice none 0 0) [] w' (fun b hb' => by
       rcases hb' with hp | ⟨_, hp⟩
       · exact Nat.lt_of_lt_of_le (hP b hp) hb.size
       · exact hp) h2 (World.ownsRow_nil _ _ _ _) (Nat.le_refl _) (fun w2 hb2 => ((hE.below hb).below hb2).pow) (by simp; omega)
      exact hH (by simpa using this)
   have hd1 : ((pT t 1) == 0) = false := by simp; omega
   have hd2 : decide (pT t 1 = 0) = false := by simp; omega
   have HCALL := hH hcall; have HS := hH hS
   generalize txT t = X at *
   generalize pT t 1 = q at *
   clear hcall hrep hrepW hP hPW hT hTW hE hS hbx hsmall hw hrow
   obtain ⟨c0, c1, c2, c3, c4⟩ := c
   simp only at x0 x1 x2 x3 x4
   go_enter Tryz.func31, Tryz.ntmps31
   go_wp2_with (first
    | (go_at_call 65; refine (uh HCALL).mono ?_; rintro e w2 ⟨T, y, rfl, HCW, HB2⟩)
    | (refine list_write (by rfl) _ _ (by rfl) (.iface T y) (.slice none 0 0) (by rfl) (by rfl) (HCW.out.mono ?_)
       rintro e w3 ⟨a3, n3, cap3, rfl, hn3, hr3, hx3⟩
       refine ⟨_, rfl, ?_⟩
       have hconv := hr3.str
       have HB3 := hH (HB2.out.trans (hx3.below.mono HB2.out.size))
       clear hn3 hr3 hx3 HCW HB2))
   go_ret
   exact ⟨by rw [uh HS]; rfl, uh HB3⟩
 · have hS : twS t = ⟨#[]⟩ := by unfold twS; rw [if_neg hpos]
   have hcall : Calls Tryz.prog 65 #[.agg #[c.c0, c.c1, c.c2, c.c3, c.c4]] W fun e w' => ∃ v, e = .returned (.tuple #[v, .int .i64 0]) ∧ Hid (Below w.heap.size w w') :=
    (sortTree_parts P W t c hrepW hPW hTW).mono fun e w' ⟨v, h1, h2⟩ => by
      refine ⟨v, ?_, hbx.trans (h2.mono hbx.size)⟩
      rw [h1]
      by_cases h : pT t 1 < 0
      · rw [if_pos h]
      · rw [if_neg h, show pT t 1 = 0 from by omega]
   have HCALL := hH hcall; have HS := hH hS
   clear hcall hrep hrepW hP hPW hT hTW hE hS hbx hpos hrow
   obtain ⟨c0, c1, c2, c3, c4⟩ := c
   simp only at x0 x1 x2 x3 x4
   go_enter Tryz.func31, Tryz.ntmps31
   go_wp2_with (go_at_call 65; refine (uh HCALL).mono ?_; rintro e w2 ⟨v, rfl, HB2⟩)
   go_ret
   exact ⟨by rw [uh HS]; rfl, HB2.out⟩

theorem implEventWrite_any (ty : ByteArray) (ver : Int) (t : Tr) (P : Nat → Prop) (c : C5) (w : World) (hP : ∀ b, P b → b < w.heap.size) (hrep : Rep P w t c) (hty : ty.size ≤ 9223372036854775807) (hver : I64 ver) (hT : Tab w) (hE : Env w) :
 Calls Tryz.prog 9 #[.agg #[.string ty, .int .i64 ver, c.c0, c.c1, c.c2, c.c3, c.c4]] w fun e w' => e = .returned (.string (evW ty ver t)) ∧ Below w.heap.size w w' := by
 obtain ⟨c0, c1, c2, c3, c4⟩ := c
 obtain ⟨W0, hW0⟩ : ∃ W0, w.alloc (.cells #[.string ty, .int .i64 ver, c0, c1, c2, c3, c4] 28) = W0 := ⟨_, rfl⟩
 have hst : EwAt w (row7 (.string ty) (.int .i64 ver) c0 c1 c2 c3 c4) W0 := by
  rw [← hW0]
  exact ⟨(Below.refl _ _).alloc (Nat.le_refl _) _, row7_alloc w _ _ _ _ _ _ _ _⟩
 have hok := implEventOk_any ty ver t P ⟨c0, c1, c2, c3, c4⟩ W0 (fun b hb => Nat.lt_of_lt_of_le (hP b hb) hst.below.size) (Rep.carry (fun b hb => hst.below.block b (hP b hb)) (fun _ h => h) _ _ hrep) hty hver (hT.of_block (hst.below.block _ hT.lt))
 obtain ⟨x0, x1, x2, x3, x4, x5, x6⟩ := cs7 hst.box (by omega)
 simp only [row7] at x0 x1 x2 x3 x4 x5 x6
 have hW : evW ty ver t = if evOkB ty ver t = true then ⟨(evT ty ver t).toArray⟩ else ⟨#[]⟩ := rfl
 cases hb : evOkB ty ver t with
 | false =>
   rw [hb] at hok hW
   rw [if_neg (by decide)] at hW
   have HOK := hH hok; have HST := hH hst; have HW := hH hW
   clear hok hst hrep hP hb hW hT hE
   go_enter Tryz.func9, Tryz.ntmps9
   go_wp2_with (go_at_call 10; refine (uh HOK).mono ?_; rintro e w1 ⟨rfl, hb1⟩)
   go_ret
   exact ⟨by rw [uh HW]; rfl, ((uh HST).on hb1).below⟩
 | true =>
   rw [hb] at hok hW
   rw [if_pos rfl] at hW
   obtain ⟨k1, k2, k3, k4, k5⟩ := evOk_open hb
   have hs1 := (nmty_size k1).1
   have hs2 := itoa_short (n := ver) ⟨by omega, by omega⟩
   have hs3 := txT_small k5
   have htw : twS t = ⟨(txT t).toArray⟩ := by unfold twS; rw [if_pos (wlk_ok.1 k5).1]
   have hdec : ∀ W, EwAt w (row7 (.string ty) (.int .i64 ver) c0 c1 c2 c3 c4) W → Calls Tryz.prog 30 #[.int .i64 ver] W fun e w' => e = .returned (.string ⟨(Lib.itoa ver).toArray⟩) ∧ Hid (EwAt w (row7 (.string ty) (.int .i64 ver) c0 c1 c2 c3 c4) w') ∧ w'.cell? ⟨w.heap.size, 0, none⟩ = some (.string ty) ∧ w'.cell? ⟨w.heap.size, 1, none⟩ = some (.int .i64 ver) ∧ w'.cell? ⟨w.heap.size, 2, none⟩ = some c0 ∧ w'.cell? ⟨w.heap.size, 3, none⟩ = some c1 ∧ w'.cell? ⟨w.heap.size, 4, none⟩ = some c2 ∧ w'.cell? ⟨w.heap.size, 5, none⟩ = some c3 ∧ w'.cell? ⟨w.heap.size, 6, none⟩ = some c4 := fun W hW => (itoa_walk ver (by omega) (by omega) W (hE.below hW.below)).mono fun e w' ⟨h1, h2⟩ => ⟨h1, hH (hW.on h2), (hW.on h2).cells⟩
   have htx : ∀ W, EwAt w (row7 (.string ty) (.int .i64 ver) c0 c1 c2 c3 c4) W → Calls Tryz.prog 31 #[.agg #[c0, c1, c2, c3, c4]] W fun e w' => e = .returned (.string ⟨(txT t).toArray⟩) ∧ Hid (EwAt w (row7 (.string ty) (.int .i64 ver) c0 c1 c2 c3 c4) w') ∧ w'.cell? ⟨w.heap.size, 0, none⟩ = some (.string ty) ∧ w'.cell? ⟨w.heap.size, 1, none⟩ = some (.int .i64 ver) ∧ w'.cell? ⟨w.heap.size, 2, none⟩ = some c0 ∧ w'.cell? ⟨w.heap.size, 3, none⟩ = some c1 ∧ w'.cell? ⟨w.heap.size, 4, none⟩ = some c2 ∧ w'.cell? ⟨w.heap.size, 5, none⟩ = some c3 ∧ w'.cell? ⟨w.heap.size, 6, none⟩ = some c4 := fun W hW => (implTreeWrite_any t P ⟨c0, c1, c2, c3, c4⟩ W (fun b hb => Nat.lt_of_lt_of_le (hP b hb) hW.below.size) (Rep.carry (fun b hb => hW.below.block b (hP b hb)) (fun _ h => h) _ _ hrep) (hT.of_block (hW.below.block _ hT.lt)) (hE.below hW.below)).mono fun e w' ⟨h1, h2⟩ => ⟨by rw [h1, htw], hH (hW.on h2), (hW.on h2).cells⟩
   have hbytes := evT_bytes ty ver t
   have HOK := hH hok; have HST := hH hst; have HW := hH hW; have HDEC := hH hdec; have HTX := hH htx; have HBY := hH hbytes
   clear hT hE hok hst hrep hP hb hW hdec htx htw k1 k4 k5 hbytes
   generalize evT ty ver t = X at *
   generalize Lib.itoa ver = dd at *
   generalize txT t = tt at *
   have z1 : (⟨dd.toArray⟩ : ByteArray).size = dd.length := by simp [ByteArray.size]
   have z2 : (⟨tt.toArray⟩ : ByteArray).size = tt.length := by simp [ByteArray.size]
   have z3 : (⟨#[64]⟩ : ByteArray).size = 1 := rfl
   have hA1 : ∀ T, binOp .add T (.string ty) (.string ⟨#[64]⟩) = pure (.string (ty ++ ⟨#[64]⟩)) := fun T => addW T _ _ (by (repeat rw [ByteArray.size_append]); omega)
   have hA2 : ∀ T, binOp .add T (.string (ty ++ ⟨#[64]⟩)) (.string ⟨dd.toArray⟩) = pure (.string ((ty ++ ⟨#[64]⟩) ++ ⟨dd.toArray⟩)) := fun T => addW T _ _ (by (repeat rw [ByteArray.size_append]); omega)
   have hA3 : ∀ T, binOp .add T (.string ((ty ++ ⟨#[64]⟩) ++ ⟨dd.toArray⟩)) (.string ⟨tt.toArray⟩) = pure (.string (((ty ++ ⟨#[64]⟩) ++ ⟨dd.toArray⟩) ++ ⟨tt.toArray⟩)) := fun T => addW T _ _ (by (repeat rw [ByteArray.size_append]); omega)
   clear z1 z2 z3
   go_enter Tryz.func9, Tryz.ntmps9
   go_wp2_with (go_at_call 10; refine (uh HOK).mono ?_; rintro e w1 ⟨rfl, hb1⟩; have hst1 := (uh HST).on hb1; have HST1 := hH hst1; have HST1D := hH hst1.drew; obtain ⟨y0, y1, y2, y3, y4, y5, y6⟩ := cs7 hst1.box (by omega); simp only [row7] at y0 y1 y2 y3 y4 y5 y6; clear hst1 hb1 HST HOK)
   go_region_held3 (fun W => W.cell? ⟨w.heap.size, 0, none⟩ = some (.string ty) ∧ W.cell? ⟨w.heap.size, 1, none⟩ = some (.int .i64 ver) ∧ W.cell? ⟨w.heap.size, 2, none⟩ = some c0 ∧ W.cell? ⟨w.heap.size, 3, none⟩ = some c1 ∧ W.cell? ⟨w.heap.size, 4, none⟩ = some c2 ∧ W.cell? ⟨w.heap.size, 5, none⟩ = some c3 ∧ W.cell? ⟨w.heap.size, 6, none⟩ = some c4) (first | exact ⟨v0, v1, v2, v3, v4, v5, v6⟩ | exact ⟨z0, z1, z2, z3, z4, z5, z6⟩ | go_keep)
    (first
      | (go_at_call 30; refine (uh HDEC _ (by first | exact uh HST1D | exact uh HST1 | exact uh HSTB | exact (uh HSTB).drew)).mono ?_; rintro e w2 ⟨rfl, HSTA, z0, z1, z2, z3, z4, z5, z6⟩)
      | (go_at_call 31; refine (uh HTX _ (by first | exact uh HST1D | exact uh HST1 | exact uh HSTA | exact (uh HSTA).drew)).mono ?_; rintro e w3 ⟨rfl, HSTB, v0, v1, v2, v3, v4, v5, v6⟩))
   all_goals
    go_wp2_with fail
    go_ret
    refine ⟨ret_str ?_, ?_⟩
    · rw [uh HW]; exact uh HBY
    · first | exact (uh HSTB).below | exact (uh HSTA).below
end Go.Proofs.YtbkagahmiibclaaGreatDoor
