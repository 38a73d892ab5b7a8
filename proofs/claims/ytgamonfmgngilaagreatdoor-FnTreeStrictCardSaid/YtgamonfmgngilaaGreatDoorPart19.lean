/- The walks of the program's writers of sorted trees: what stands between kids; numbers, texts, flags; how a method of an interface value is called. What a writer is given is a row of bytes of its caller's own; nothing else of what was there turns. The table of powers is as strconv's text lays it; rows have at most 2^40 bytes. -/
import Derived.Test.YtgamonfmgngilaaGreatDoorPart13
import Derived.Test.YtgamonfmgngilaaGreatDoorPart14
import Derived.Test.YtgamonfmgngilaaGreatDoorPart18
import Derived.Lib.OthersKept
import Derived.Lib.AppendIntMem
import Derived.Deep.RegionHeld3
namespace Go.Proofs.YtgamonfmgngilaaGreatDoor
open Go Go.RowKit

/-- What a writer leaves: nothing below B has turned, and of the rest only rows of bytes. -/
structure Wx (B : Nat) (w w' : World) : Prop where
  below : Below B w w'
  others : Lib.OthersKept 5 none w w'
theorem Wx.refl (B : Nat) (w : World) : Wx B w w := ⟨Below.refl _ _, Lib.OthersKept.refl _ _ _⟩
theorem Wx.trans {B : Nat} {a b c : World} (h : Wx B a b) (k : Wx B b c) : Wx B a c := ⟨h.below.trans k.below, h.others.trans k.others⟩
theorem Wx.alloc {B : Nat} {a b : World} (h : Wx B a b) (hB : B ≤ a.heap.size) (o : Obj) : Wx B a (b.alloc o) := ⟨h.below.alloc (Nat.le_trans hB h.below.size) o, h.others.alloc o⟩
theorem Wx.drewN {B : Nat} {a b : World} (h : Wx B a b) (n : Nat) : Wx B a (b.drewN n) := ⟨below_drewN h.below n, h.others⟩
theorem ByRow.wx {B : Nat} {w w' : World} {v : Value} {l : List UInt8} (h : ByRow B w v l) (hg : w.grownBy w' v.ownBlock) (hB : B ≤ w.heap.size) : Wx B w w' := by
  refine ⟨h.below hg hB, (Lib.OthersKept.refl _ _ _).grown hg fun g e => ?_⟩
  rcases h.2 with ⟨hv, _⟩ | ⟨g', cap, cur, hv, _, hh, _⟩
  · rw [hv] at e; cases e
  · rw [hv] at e
    obtain rfl : g' = g := by simpa [Value.ownBlock] using e
    exact ⟨_, _, hh⟩

/-- A writer's end: the row, longer. -/
def WEnd (B : Nat) (w : World) (L : List UInt8) (e : Ending) (w' : World) : Prop := ∃ a n cap, e = .returned (.slice a n cap) ∧ n = L.length ∧ ByRow B w' (.slice a n cap) L ∧ Wx B w w'
theorem WEnd.on {B : Nat} {w0 w w' : World} {L : List UInt8} {e : Ending} (h : WEnd B w L e w') (hx : Wx B w0 w) : WEnd B w0 L e w' := by
  obtain ⟨a, n, cap, h1, h2, h3, h4⟩ := h
  exact ⟨a, n, cap, h1, h2, h3, hx.trans h4⟩
theorem ByRow.wend {B : Nat} {w w2 : World} {v : Value} {l L : List UInt8} {a : Option Addr} {n cap : Nat} (h : ByRow B w v l) (hB : B ≤ w.heap.size) (hn : n = L.length) (h2 : ByRow B w2 (.slice a n cap) L) (hg : w.grownBy w2 v.ownBlock) : WEnd B w L (.returned (.slice a n cap)) w2 := ⟨a, n, cap, rfl, hn, h2, h.wx hg hB⟩

theorem one_byte (w : World) (x : UInt8) (z : Int) (hz : z = x.toNat) (t : TypeId) : ∀ j u, (bc [x])[j]? = some u → (w.alloc (.cells #[.int .u8 z] t)).cell? ((⟨w.heap.size, 0, none⟩ : Addr).add j) = some u := by
  subst hz; exact byte_one w x t

/-! ### A method of an interface value -/
theorem inv1 (y r : Value) (w : World) : (invoke (.fn (.method "loop.example/teagle/impl.write") #[]) #[.iface 87 y, r]).run Tryz.prog w = .ok (.enter 159 #[y, r]) w := by kernel_rfl
theorem inv2 (y r : Value) (w : World) : (invoke (.fn (.method "loop.example/teagle/impl.write") #[]) #[.iface 88 y, r]).run Tryz.prog w = .ok (.enter 163 #[y, r]) w := by kernel_rfl
theorem inv3 (y r : Value) (w : World) : (invoke (.fn (.method "loop.example/teagle/impl.write") #[]) #[.iface 90 y, r]).run Tryz.prog w = .ok (.enter 164 #[y, r]) w := by kernel_rfl
theorem inv4 (y r : Value) (w : World) : (invoke (.fn (.method "loop.example/teagle/impl.write") #[]) #[.iface 92 y, r]).run Tryz.prog w = .ok (.enter 165 #[y, r]) w := by kernel_rfl
theorem inv5 (y r : Value) (w : World) : (invoke (.fn (.method "loop.example/teagle/impl.write") #[]) #[.iface 95 y, r]).run Tryz.prog w = .ok (.enter 167 #[y, r]) w := by kernel_rfl
theorem inv6 (y r : Value) (w : World) : (invoke (.fn (.method "loop.example/teagle/impl.write") #[]) #[.iface 97 y, r]).run Tryz.prog w = .ok (.enter 168 #[y, r]) w := by kernel_rfl

/-- A sorted tree's method write, called. -/
def CallsW (v r : Value) (w : World) (Q : Ending → World → Prop) : Prop :=
  ∃ T y f, v = .iface T y ∧ (∀ w, (invoke (.fn (.method "loop.example/teagle/impl.write") #[]) #[.iface T y, r]).run Tryz.prog w = .ok (.enter f #[y, r]) w) ∧ Calls Tryz.prog f #[y, r] w Q
theorem CallsW.mono {v r : Value} {w : World} {Q R : Ending → World → Prop} (h : CallsW v r w Q) (hq : ∀ e w', Q e w' → R e w') : CallsW v r w R := by
  obtain ⟨T, y, f, h1, h2, h3⟩ := h
  exact ⟨T, y, f, h1, h2, h3.mono hq⟩

theorem wp_write {o : Oper} {a : Act} {w : World} {K : Act → World → Prop} {Q : Exit → Act → World → Prop} (s x : Operand) (hop : o.op = .call { callee := .invoke s "loop.example/teagle/impl.write", args := #[x], argTypes := #[22] })
    (v r : Value) (hs : a.eval s = v) (hx : a.eval x = r) (h : CallsW v r w fun e w' => ∃ u, e = .returned u ∧ K (a.put o.dst u) w') : Oper.wp Tryz.prog o a w K Q := by
  obtain ⟨T, y, f, rfl, hi, hc⟩ := h
  unfold Oper.wp execOp
  have hi' := hi w
  simp only [hop, resolve, Sem.run_bind, Sem.run_pure, Result.andThen_ok, List.map_toArray, List.map_cons, List.map_nil, hs, hx]
  rw [show (#[Value.iface T y] ++ #[r]) = #[Value.iface T y, r] from rfl, hi', Oper.upon_enter]
  refine hc.mono ?_
  rintro e w' ⟨u, rfl, hk⟩
  exact hk
theorem list_write {ops : Array Oper} {rest : List Oper} {o : Oper} {a : Act} {w : World} {Q : Exit → Act → World → Prop} (hg : o.guard = none) (s x : Operand) (hop : o.op = .call { callee := .invoke s "loop.example/teagle/impl.write", args := #[x], argTypes := #[22] })
    (v r : Value) (hs : a.eval s = v) (hx : a.eval x = r) (h : CallsW v r w fun e w' => ∃ u, e = .returned u ∧ wpList Tryz.prog ops Q rest (a.put o.dst u) w') : wpList Tryz.prog ops Q (o :: rest) a w :=
  wpList_plain hg fun _ hK => wp_write s x hop v r hs hx (h.mono fun _ _ ⟨u, h1, h2⟩ => ⟨u, h1, hK _ _ h2⟩)
theorem step_write {ops : Array Oper} {o : Oper} {a : Act} {w : World} {K : Act → World → Prop} {Q : Exit → Act → World → Prop} {E : Prop} (hg : o.guard = none) (s x : Operand) (hop : o.op = .call { callee := .invoke s "loop.example/teagle/impl.write", args := #[x], argTypes := #[22] })
    (v r : Value) (hs : a.eval s = v) (hx : a.eval x = r) (h : CallsW v r w fun e w' => ∃ u, e = .returned u ∧ K (a.put o.dst u) w') : if Region.wanted o (yielded ops a.tmps) = true then Oper.wp Tryz.prog o a w K Q else E := by
  have hw : Region.wanted o (yielded ops a.tmps) = true := by simp [Region.wanted, hg]
  rw [if_pos hw]
  exact wp_write s x hop v r hs hx h

/-! ### The leaves -/
/-- append of the bytes of a string of a named type. -/
theorem append_stringU (w : World) {ops : Array Oper} {rest : List Oper} {o : Oper} {a : Act} {Q : Exit → Act → World → Prop}
    (hg : o.guard = none) (s x : Operand) (u : TypeId) (hu : Tryz.prog.underlying u = some .string) (hop : o.op = Op.call { callee := Callee.builtin Builtin.append, args := #[s, x], argTypes := #[22, u] })
    (base : Nat) (v : Value) (l : List UInt8) (tx : ByteArray) (hs : a.eval s = v) (hown : ByRow base w v l) (hx : a.eval x = .string tx)
    (hlen : l.length + tx.size ≤ 1099511627776) (hbase : base ≤ w.heap.size)
    (hK : ∀ a' n' cap' w', Hid (n' = (l ++ tx.data.toList).length) → Hid (ByRow base w' (.slice a' n' cap') (l ++ tx.data.toList)) → Hid (w.grownBy w' v.ownBlock) → wpList Tryz.prog ops Q rest (a.put o.dst (.slice a' n' cap')) w') :
    wpList Tryz.prog ops Q (o :: rest) a w := by
  obtain ⟨i0, hi, hz0, hz1, hz2⟩ := info_parts infoU8
  have hsz : tx.data.toList.length = tx.size := by simp
  refine Lib.wpList_append_own_string w hg s x 22 u hop base 5 i0 Tryz.underlying22 hu hi hz0 hz1 hz2 v l.length (bc l) hs hown tx hx (by unfold maxLen; omega) (by omega) hbase (fun v' w' r1 r2 _ => ?_)
  have hr : ByRow base w' v' (l ++ tx.data.toList) := by
    show w'.ownsRow base 5 1 v' (l ++ tx.data.toList).length (bc (l ++ tx.data.toList))
    rw [bc_append, List.length_append, hsz, ← bc_str]; exact r1
  obtain ⟨a', cap', rfl⟩ := hr.slice
  exact hK a' _ cap' w' rfl hr r2
set_option maxRecDepth 100000 in
set_option maxHeartbeats 800000 in
theorem between_any (B : Nat) (w : World) (r : Value) (l : List UInt8) (k : Nat) (hr : ByRow B w r l) (hB : B ≤ w.heap.size) (hl : l.length + 1 ≤ 1099511627776) (hk : k ≤ 1099511627776) :
    Calls Tryz.prog 166 #[r, .int .i64 k] w (WEnd B w (l ++ if 0 < k then [44] else [])) := by
  have HR := hide hr
  by_cases h0 : k = 0
  · subst h0
    obtain ⟨a, cap, rfl⟩ := hr.slice
    clear hr
    go_enter Tryz.func166, Tryz.ntmps166
    go_wp2_with fail
    go_ret
    exact ⟨_, _, _, rfl, by simp, by simpa using unhide HR, Wx.refl _ _⟩
  · have hd : (((k : Int)) == 0) = false := by simp; omega
    have hd2 : decide ((k : Int) = 0) = false := by simp; omega
    rw [if_pos (by omega)]
    clear hr
    go_enter Tryz.func166, Tryz.ntmps166
    go_wp2_with (at_builtin; refine append_bytes _ rfl _ _ rfl B r l [44] rfl (World.ownsRow.alloc (unhide HR) _) ⟨w.heap.size, 0, none⟩ 1 1 rfl rfl (one_byte _ 44 _ rfl _) (by simp; omega) (by simp; omega) ?_; intro a' n' cap' w2 HN HR2 HG)
    go_ret
    exact ((ByRow.wend (World.ownsRow.alloc (unhide HR) _) (by simp; omega) HN.out HR2.out HG.out).on ((Wx.refl _ _).alloc hB _))

set_option maxRecDepth 100000 in
set_option maxHeartbeats 800000 in
theorem wr_num (B : Nat) (w : World) (r : Value) (l : List UInt8) (i : Int) (hi : I64 i) (hr : ByRow B w r l) (hB : B ≤ w.heap.size) (hl : l.length ≤ 1099511627776) (ht : Lib.TabBelow Tryz.prog B w "internal/strconv.uint64pow10" .u64 Lib.pow10Tab) :
    Calls Tryz.prog 159 #[.int .i64 i, r] w (WEnd B w (l ++ Lib.itoa i)) := by
  have HC := hide (Tryz.strconv_AppendInt_10 B l.length i hi.1 hi.2 r (bc l) w hr hB (by omega) ht)
  clear hr ht
  go_enter Tryz.func159, Tryz.ntmps159
  go_wp2_with fail
  refine (unhide HC).mono ?_
  rintro e w' ⟨v', rfl, h1, h2, h3⟩
  have hrow : ByRow B w' v' (l ++ Lib.itoa i) := by
    show w'.ownsRow B 5 1 v' (l ++ Lib.itoa i).length (bc (l ++ Lib.itoa i))
    rw [bc_append, List.length_append]; exact h1
  obtain ⟨a, cap, rfl⟩ := hrow.slice
  obtain ⟨n, hn⟩ : ∃ n, (l ++ Lib.itoa i).length = n := ⟨_, rfl⟩
  rw [hn] at hrow ⊢
  have HEND : Hid (WEnd B w (l ++ Lib.itoa i) (.returned (.slice a n cap)) w') := ⟨_, _, _, rfl, hn.symm, hrow, h2, h3⟩
  clear hrow h1 h2 h3 HC hn
  go_wp2_with fail
  go_ret
  exact HEND.out

theorem undText : Tryz.prog.underlying 88 = some .string := by kernel_rfl
set_option maxRecDepth 100000 in
set_option maxHeartbeats 800000 in
theorem wr_text (B : Nat) (w : World) (r : Value) (l : List UInt8) (tx : ByteArray) (hr : ByRow B w r l) (hB : B ≤ w.heap.size) (hl : l.length + tx.size + 2 ≤ 1099511627776) :
    Calls Tryz.prog 163 #[.string tx, r] w (WEnd B w (l ++ ([34] ++ tx.data.toList ++ [34]))) := by
  have hsz : tx.data.toList.length = tx.size := by simp
  have HR := hide hr
  have hbx : ∀ (W : World) (o : Obj), B ≤ W.heap.size → B ≤ (W.alloc o).heap.size := fun W o h => by simp; omega
  have HE : Hid (((l ++ [34]) ++ tx.data.toList) ++ [34] = l ++ ([34] ++ tx.data.toList ++ [34])) := by show _ = _; simp
  clear hr
  go_enter Tryz.func163, Tryz.ntmps163
  go_wp2_with (at_builtin; first
    | (refine append_bytes _ rfl _ _ rfl B r l [34] rfl (World.ownsRow.alloc (unhide HR) _) ⟨w.heap.size, 0, none⟩ 1 1 rfl rfl (one_byte _ 34 _ rfl _) (by simp; omega) (hbx _ _ hB) ?_
       intro a1 n1 cap1 w1 HN1 HR1 HG1
       have hx1 := (ByRow.wx (World.ownsRow.alloc (unhide HR) (.cells #[.int .u8 34] 5)) HG1.out (hbx _ _ hB))
       have hB1 : B ≤ w1.heap.size := Nat.le_trans (hbx _ _ hB) hx1.below.size
       have HX1 := hide (((Wx.refl B w).alloc hB (.cells #[.int .u8 34] 5)).trans hx1)
       clear hx1 HG1)
    | (refine append_stringU _ rfl _ _ 88 undText rfl B (.slice a1 n1 cap1) (l ++ [34]) tx rfl HR1.out rfl (by simp; omega) hB1 ?_
       intro a2 n2 cap2 w2 HN2 HR2 HG2
       have hx2 := ByRow.wx HR1.out HG2.out hB1
       have hB2 : B ≤ w2.heap.size := Nat.le_trans hB1 hx2.below.size
       have HX2 := hide ((unhide HX1).trans hx2)
       clear hx2 HG2 HR1 HX1)
    | (refine append_bytes _ rfl _ _ rfl B (.slice a2 n2 cap2) ((l ++ [34]) ++ tx.data.toList) [34] rfl (World.ownsRow.alloc HR2.out _) ⟨w2.heap.size, 0, none⟩ 1 1 rfl rfl (one_byte _ 34 _ rfl _) (by simp; omega) (hbx _ _ hB2) ?_
       intro a3 n3 cap3 w3 HN3 HR3 HG3))
  go_ret
  show WEnd B w (l ++ ([34] ++ tx.data.toList ++ [34])) (.returned (.slice a3 n3 cap3)) w3
  rw [← unhide HE]
  exact (ByRow.wend (World.ownsRow.alloc HR2.out _) (hbx _ _ hB2) HN3.out HR3.out HG3.out).on (((unhide HX2).alloc hB _))

set_option maxRecDepth 100000 in
set_option maxHeartbeats 800000 in
theorem wr_flag (B : Nat) (w : World) (r : Value) (l : List UInt8) (b : Bool) (hr : ByRow B w r l) (hB : B ≤ w.heap.size) (hl : l.length + (if b = true then [121, 101, 115] else [110, 111] : List UInt8).length ≤ 1099511627776) :
    Calls Tryz.prog 164 #[.bool b, r] w (WEnd B w (l ++ if b = true then [121, 101, 115] else [110, 111])) := by
  have HR := hide hr
  clear hr
  have s1 : (⟨#[121, 101, 115]⟩ : ByteArray).size = 3 := rfl
  have s2 : (⟨#[110, 111]⟩ : ByteArray).size = 2 := rfl
  cases b with
  | true =>
    have hl3 : l.length + 3 ≤ 1099511627776 := by simpa using hl
    clear hl
    go_enter Tryz.func164, Tryz.ntmps164
    go_wp2_with (at_builtin; refine append_string _ rfl _ _ rfl B r l ⟨#[121, 101, 115]⟩ rfl (unhide HR) rfl (by rw [s1]; exact hl3) hB ?_; intro a2 n2 cap2 w2 HN2 HR2 HG2)
    go_ret
    exact (ByRow.wend (unhide HR) hB HN2.out HR2.out HG2.out)
  | false =>
    have hl2 : l.length + 2 ≤ 1099511627776 := by simpa using hl
    clear hl
    go_enter Tryz.func164, Tryz.ntmps164
    go_wp2_with (at_builtin; refine append_string _ rfl _ _ rfl B r l ⟨#[110, 111]⟩ rfl (unhide HR) rfl (by rw [s2]; exact hl2) hB ?_; intro a2 n2 cap2 w2 HN2 HR2 HG2)
    go_ret
    exact (ByRow.wend (unhide HR) hB HN2.out HR2.out HG2.out)
end Go.Proofs.YtgamonfmgngilaaGreatDoor

/- The walks of the program's writers of sorted trees, further: maybes and lists. A kid's writer is given. Rows have at most 2^40 bytes. -/

namespace Go.Proofs.YtgamonfmgngilaaGreatDoor
open Go Go.RowKit

theorem Wx.drew {B : Nat} {a b : World} (h : Wx B a b) : Wx B a b.drew := h.drewN 1
theorem Wx.cell {B : Nat} {a b : World} (h : Wx B a b) {p : Addr} (hp : p.block < B) : b.cell? p = a.cell? p := World.cell?_of_block (h.below.block p.block hp)

theorem na1 (n : Nat) (y : Value) (w : World) : (nilAhead (n + 1) 87 y "loop.example/teagle/impl.write").run Tryz.prog w = .ok (some false) w := by kernel_rfl
theorem na2 (n : Nat) (y : Value) (w : World) : (nilAhead (n + 1) 88 y "loop.example/teagle/impl.write").run Tryz.prog w = .ok (some false) w := by kernel_rfl
theorem na3 (n : Nat) (y : Value) (w : World) : (nilAhead (n + 1) 90 y "loop.example/teagle/impl.write").run Tryz.prog w = .ok (some false) w := by kernel_rfl
theorem na4 (n : Nat) (y : Value) (w : World) : (nilAhead (n + 1) 92 y "loop.example/teagle/impl.write").run Tryz.prog w = .ok (some false) w := by kernel_rfl
theorem na5 (n : Nat) (y : Value) (w : World) : (nilAhead (n + 1) 95 y "loop.example/teagle/impl.write").run Tryz.prog w = .ok (some false) w := by kernel_rfl
theorem na6 (n : Nat) (y : Value) (w : World) : (nilAhead (n + 1) 97 y "loop.example/teagle/impl.write").run Tryz.prog w = .ok (some false) w := by kernel_rfl
/-- A sorted tree is no nil interface value, and the receiver of its method write is no nil pointer. -/
theorem SRep.wm {Q : Nat → Prop} {w : World} {t : Tr} {v : Value} (h : SRep Q w t v) : ∃ T y, v = .iface T y ∧ ∀ (n : Nat) (w : World), (nilAhead (n + 1) T y "loop.example/teagle/impl.write").run Tryz.prog w = .ok (some false) w := by
  obtain ⟨s, n, tx, ns, ks⟩ := t
  rw [SRep] at h
  rcases h with h | h | h | ⟨hs, a, cap, h1, h2⟩ | ⟨hs, v3, a, cap, h1, h3, h2⟩ | ⟨hs, a, cap, h1, h2⟩
  · exact ⟨_, _, h.2, fun n w => na1 n _ w⟩
  · exact ⟨_, _, h.2, fun n w => na2 n _ w⟩
  · exact ⟨_, _, h.2, fun n w => na3 n _ w⟩
  · exact ⟨_, _, h1, fun n w => na4 n _ w⟩
  · exact ⟨_, _, h1, fun n w => na5 n _ w⟩
  · exact ⟨_, _, h1, fun n w => na6 n _ w⟩

set_option maxRecDepth 100000 in
set_option maxHeartbeats 800000 in
theorem wr_maybe0 (B : Nat) (w : World) (r : Value) (l : List UInt8) (a : Option Addr) (cap : Nat) (hr : ByRow B w r l) (hB : B ≤ w.heap.size) (hl : l.length + 1 ≤ 1099511627776) :
    Calls Tryz.prog 168 #[.slice a 0 cap, r] w (WEnd B w (l ++ [126])) := by
  have HR := hide hr
  clear hr
  go_enter Tryz.func168, Tryz.ntmps168
  go_wp2_with (at_builtin; refine append_bytes _ rfl _ _ rfl B r l [126] rfl (World.ownsRow.alloc (unhide HR) _) ⟨w.heap.size, 0, none⟩ 1 1 rfl rfl (one_byte _ 126 _ rfl _) (by simp; omega) (by simp; omega) ?_; intro a' n' cap' w2 HN HR2 HG)
  go_ret
  exact ((ByRow.wend (World.ownsRow.alloc (unhide HR) _) (by simp; omega) HN.out HR2.out HG.out).on ((Wx.refl _ _).alloc hB _))

set_option maxRecDepth 100000 in
set_option maxHeartbeats 1600000 in
theorem wr_maybe1 (B : Nat) (w : World) (r : Value) (l : List UInt8) (b m cap : Nat) (T : TypeId) (y : Value) (tk : List UInt8) (hm : 0 < m) (hm2 : m ≤ 1048576) (hb : b < B) (hx : w.cell? ⟨b, 0, none⟩ = some (.iface T y))
    (hcall : ∀ W r' L', Wx B w W → ByRow B W r' L' → L'.length + tk.length ≤ 1099511627776 → CallsW (.iface T y) r' W (WEnd B W (L' ++ tk))) (hr : ByRow B w r l) (hB : B ≤ w.heap.size) (hl : l.length + 1 + tk.length ≤ 1099511627776) :
    Calls Tryz.prog 168 #[.slice (some ⟨b, 0, none⟩) m cap, r] w (WEnd B w (l ++ ([63] ++ tk))) := by
  have HR := hide hr; have HCALL := hide hcall
  have hd : decide ((m : Int) = 0) = false := by simp; omega
  have hd2 : ((m : Int) == 0) = false := by simp; omega
  have hd3 : (0 : Int) < (m : Int) := by omega
  have hbw : b < w.heap.size := by omega
  clear hr hcall
  go_enter Tryz.func168, Tryz.ntmps168
  go_wp2_with fail
  go_region_held3 (fun W => W.cell? ⟨b, 0, none⟩ = some (.iface T y)) (first | exact e1 | exact e2 | exact (World.cell?_of_block (Below.heap_alloc _ _ _ hbw)).trans hx | go_keep)
    (first
    | (refine step_append_bytes _ (by rfl) _ _ (by rfl) B r l [63] (by rfl) (by exact World.ownsRow.alloc (unhide HR) (.cells #[.int .u8 63] 5)) ⟨w.heap.size, 0, none⟩ 1 1 (by rfl) (by rfl) (by decide) (by exact one_byte w 63 63 rfl 5) (by simp; omega) (by simp; omega) ?_
       intro a1 n1 cap1 w1 HN1 HR1 HG1
       have hx1 : Wx B w w1 := by
         refine Wx.trans ((Wx.refl B w).alloc hB (.cells #[.int .u8 63] 5)).drew (ByRow.wx (by exact World.ownsRow.alloc (unhide HR) (.cells #[.int .u8 63] 5)) HG1.out (by simp; omega))
       have e1 : w1.cell? ⟨b, 0, none⟩ = some (.iface T y) := by rw [hx1.cell hb]; exact hx
       have HX1 := hide hx1
       clear hx1 HG1)
    | (refine step_write (by rfl) _ _ (by rfl) (.iface T y) (.slice a1 n1 cap1) (by rfl) (by rfl) ((unhide HCALL w1 _ _ (unhide HX1) HR1.out (by simp; omega)).mono ?_)
       rintro e w2 ⟨a2, n2, cap2, rfl, hn2, hr2, hx2⟩
       have HEND : Hid (WEnd B w (l ++ ([63] ++ tk)) (.returned (.slice a2 n2 cap2)) w2) := ⟨a2, n2, cap2, rfl, by rw [hn2]; simp, by rw [← List.append_assoc]; exact hr2, (unhide HX1).trans hx2⟩
       have e2 : w2.cell? ⟨b, 0, none⟩ = some (.iface T y) := by rw [hx2.cell hb]; exact e1
       refine ⟨_, rfl, ?_⟩
       clear hn2 hr2 hx2))
  all_goals
    go_wp2_with fail
    go_ret
    exact HEND.out

/-- What the loop of kids holds. -/
structure WSt (B : Nat) (w wr : World) (a : Option Addr) (n cap : Nat) (L : List UInt8) : Prop where
  len : n = L.length
  row : ByRow B wr (.slice a n cap) L
  wx : Wx B w wr

theorem txTo_step (f : Bool) (ns : List ByteArray) (ks : List Tr) (k : Nat) (hk : k < ks.length) (m : Nat) (h : m + (txK f ns 0 ks).length ≤ 1099511627776) : m + (txTo f ns ks k).length + (ahead f ns k).length + (txT ks[k]).length ≤ 1099511627776 := by
  have h1 := txTo_le f ns ks (k + 1) hk
  rw [txTo_succ f ns ks k hk] at h1
  simp only [List.length_append] at h1
  omega

set_option maxRecDepth 100000 in
set_option maxHeartbeats 1600000 in
theorem wr_list (B : Nat) (w : World) (r : Value) (l : List UInt8) (ks : List Tr) (ns : List ByteArray) (a : Option Addr) (cap : Nat) (Q : Nat → Prop) (hQ : ∀ b, Q b → b < B) (hv : SKids Q w (.slice a ks.length cap) ks) (hkl : ks.length ≤ 1048576)
    (hcall : ∀ i, (hi : i < ks.length) → ∀ x W r' L', SRep Q w ks[i] x → Wx B w W → ByRow B W r' L' → L'.length + (txT ks[i]).length ≤ 1099511627776 → CallsW x r' W (WEnd B W (L' ++ txT ks[i])))
    (hr : ByRow B w r l) (hB : B ≤ w.heap.size) (hl : l.length + 2 + (txK false ns 0 ks).length ≤ 1099511627776) :
    Calls Tryz.prog 165 #[.slice a ks.length cap, r] w (WEnd B w (l ++ ([91] ++ txK false ns 0 ks ++ [93]))) := by
  have hmf : ∀ (fn : Fn) (first cap : Array Value) (w : World), (Instr.makeFunc fn first cap).run Tryz.prog w = .ok (.func fn first cap) w := fun _ _ _ _ => rfl
  have hcell : ∀ i, (hi : i < ks.length) → ∃ b x, a = some ⟨b, 0, none⟩ ∧ Q b ∧ w.cell? ⟨b, i, none⟩ = some x ∧ SRep Q w ks[i] x := fun i hi => by
    obtain ⟨a', cap', e, h⟩ := hv
    simp only [Value.slice.injEq] at e
    obtain ⟨rfl, -, rfl⟩ := e
    obtain ⟨b, e2, hb, hr⟩ := h (fun e => by rw [e] at hi; simp at hi)
    obtain ⟨x, h1, h2⟩ := hr.get i hi
    exact ⟨b, x, e2, hb, by simpa using h1, h2⟩
  have hlen : ∀ k, (hk : k < ks.length) → (l ++ ([91] ++ txTo false ns ks k)).length + (ahead false ns k).length + (txT ks[k]).length ≤ 1099511627776 := fun k hk => by
    have := txTo_step false ns ks k hk (l.length + 1) (by omega)
    simp only [List.length_append, List.length_cons, List.length_nil]; omega
  have hend : (l ++ ([91] ++ txTo false ns ks ks.length)).length + 1 ≤ 1099511627776 := by
    rw [txTo_all]; simp only [List.length_append, List.length_cons, List.length_nil]; omega
  have HE : Hid ((l ++ ([91] ++ txTo false ns ks ks.length)) ++ [93] = l ++ ([91] ++ txK false ns 0 ks ++ [93])) := by show _ = _; rw [txTo_all]; simp
  have HR := hide hr; have HCALL := hide hcall; have HC := hide hcell; have HLEN := hide hlen; have HENDL := hide hend; have HQ := hide hQ
  clear hr hcall hcell hlen hend hQ hv
  go_enter Tryz.func165, Tryz.ntmps165
  go_wp2_with (at_builtin; refine append_bytes _ rfl _ _ rfl B r l [91] rfl (World.ownsRow.alloc (unhide HR) _) ⟨w.heap.size, 0, none⟩ 1 1 rfl rfl (one_byte _ 91 _ rfl _) (by simp; omega) (by simp; omega) ?_
               intro a1 n1 cap1 w1 HN1 HR1 HG1
               have hx1 : Wx B w w1 := ((Wx.refl B w).alloc hB (.cells #[.int .u8 91] 5)).trans (ByRow.wx (World.ownsRow.alloc (unhide HR) _) HG1.out (by simp; omega))
               have HS1 : Hid (WSt B w w1 a1 n1 cap1 (l ++ ([91] ++ txTo false ns ks 0))) := ⟨by rw [HN1.out]; simp [txTo, txK], by simpa [txTo, txK] using HR1.out, hx1⟩
               clear hx1 HN1 HR1 HG1)
  go_loopw [1, 12] (fun s i wr => ∃ (k : Nat) (a' : Option Addr) (n' cap' : Nat), k ≤ ks.length ∧ i = .int .i64 k ∧ s = .slice a' n' cap' ∧ Hid (WSt B w wr a' n' cap' (l ++ ([91] ++ txTo false ns ks k)))) (fun _ i _ => ks.length - (intOf i).toNat)
  case atStart => exact ⟨0, a1, n1, cap1, Nat.zero_le _, rfl, rfl, HS1⟩
  case round =>
    obtain ⟨k, a', n', cap', hk, rfl, rfl, HS⟩ := hrel
    have hsw : B ≤ wr.heap.size := Nat.le_trans hB HS.out.wx.below.size
    by_cases hlt : k < ks.length
    · obtain ⟨b, x, rfl, hqb, hce, hrp⟩ := unhide HC k hlt
      have e0 : wr.cell? ⟨b, k, none⟩ = some x := by rw [HS.out.wx.cell (unhide HQ b hqb)]; exact hce
      have hcl := fun W r' L' h1 h2 h3 => unhide HCALL k hlt x W r' L' hrp h1 h2 h3
      obtain ⟨T, y, rfl, hna⟩ := hrp.wm
      have hln := unhide HLEN k hlt
      have hsep : (ahead false ns k) = if 0 < k then [44] else [] := by simp [ahead]
      have HNEXT : Hid (((l ++ ([91] ++ txTo false ns ks k)) ++ (if 0 < k then [44] else [])) ++ txT ks[k] = l ++ ([91] ++ txTo false ns ks (k + 1))) := by show _ = _; rw [txTo_succ _ _ _ _ hlt, ← hsep]; simp
      rw [hsep] at hln
      have hl1 : (l ++ ([91] ++ txTo false ns ks k)).length + 1 ≤ 1099511627776 := by
        have := txTo_le false ns ks k hk
        simp only [List.length_append, List.length_cons, List.length_nil]; omega
      generalize ks[k] = tk at *
      generalize hLL : l ++ ([91] ++ txTo false ns ks k) = LL at *
      have HBT : Hid (∀ W, ByRow B W (.slice a' n' cap') LL → B ≤ W.heap.size → Calls Tryz.prog 166 #[.slice a' n' cap', .int .i64 k] W (WEnd B W (LL ++ if 0 < k then [44] else []))) := fun W h1 h2 => between_any B W _ LL k h1 h2 hl1 (by omega)
      have HCL := hide hcl; have HLN := hide hln
      generalize hSS : (if 0 < k then [44] else [] : List UInt8) = SS at *
      clear hcl hce hrp hqb hsep hl1 hln hLL hSS
      go_wp2_with fail
      go_region_held3 (fun _ => True) (trivial) (first
        | (go_at_call 166
           refine (unhide HBT wr.drew (by exact HS.out.row) hsw).mono ?_
           rintro e w1 ⟨a1, n1, cap1, rfl, hn1, hr1, hx1⟩
           have HW1 : Hid (WSt B w w1 a1 n1 cap1 (LL ++ SS)) := ⟨hn1, hr1, HS.out.wx.drew.trans hx1⟩
           clear hn1 hr1 hx1)
        | (refine step_write (by rfl) _ _ (by rfl) (.iface T y) (.slice a1 n1 cap1) (by rfl) (by rfl) ((unhide HCL w1 _ _ HW1.out.wx HW1.out.row (by have := unhide HLN; rw [List.length_append]; exact this)).mono ?_)
           rintro e w2 ⟨a2, n2, cap2, rfl, hn2, hr2, hx2⟩
           have HW2 : Hid (WSt B w w2 a2 n2 cap2 (l ++ ([91] ++ txTo false ns ks (k + 1)))) := by rw [← unhide HNEXT]; exact ⟨hn2, hr2, HW1.out.wx.trans hx2⟩
           refine ⟨_, rfl, ?_⟩
           clear hn2 hr2 hx2))
      all_goals
        go_wp2_with fail
        go_roundw
        case rel => exact ⟨k + 1, a2, n2, cap2, by omega, by go_num, rfl, HW2⟩
        case measure => simp [intOf]; omega
    · obtain rfl : k = ks.length := by omega
      go_wp2_with (at_builtin; refine append_bytes _ rfl _ _ rfl B (.slice a' n' cap') (l ++ ([91] ++ txTo false ns ks ks.length)) [93] rfl (World.ownsRow.alloc HS.out.row _) ⟨wr.heap.size, 0, none⟩ 1 1 rfl rfl (one_byte _ 93 _ rfl _) (unhide HENDL) (by simp; omega) ?_; intro a3 n3 cap3 w3 HN3 HR3 HG3)
      go_ret
      show WEnd B w (l ++ ([91] ++ txK false ns 0 ks ++ [93])) (.returned (.slice a3 n3 cap3)) w3
      rw [← unhide HE]
      exact (ByRow.wend (World.ownsRow.alloc HS.out.row _) (by simp; omega) HN3.out HR3.out HG3.out).on (HS.out.wx.alloc hB _)
end Go.Proofs.YtgamonfmgngilaaGreatDoor
