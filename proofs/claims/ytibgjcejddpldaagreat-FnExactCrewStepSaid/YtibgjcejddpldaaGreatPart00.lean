/- A part. -/
import Derived.Deep.OwnRows
import Derived.Test.YtibgjcejddpldaaGreatRows
import Derived.Lib.ItoaLen
import Derived.Deep.RegionWith
import Derived.WalkSmall
namespace Go.Proofs.YtibgjcejddpldaaGreat
open Go Go.RowKit
set_option maxHeartbeats 1600000
theorem xH {p : Prop} (h : p) : Hid p := h
theorem xU {p : Prop} (h : Hid p) : p := h
theorem hide {p : Prop} (h : p) : Hid p := h
theorem unhide {p : Prop} (h : Hid p) : p := h
theorem cs2 {w : World} {B : Nat} {T : TypeId} {n : Nat} {f : Nat → Value} (h : w.rowIs B T n f) (hn : 2 ≤ n) : w.cell? ⟨B, 0, none⟩ = some (f 0) ∧ w.cell? ⟨B, 1, none⟩ = some (f 1) := ⟨h.cell (i := 0) (by omega), h.cell (i := 1) (by omega)⟩
theorem cs3 {w : World} {B : Nat} {T : TypeId} {n : Nat} {f : Nat → Value} (h : w.rowIs B T n f) (hn : 3 ≤ n) : w.cell? ⟨B, 0, none⟩ = some (f 0) ∧ w.cell? ⟨B, 1, none⟩ = some (f 1) ∧ w.cell? ⟨B, 2, none⟩ = some (f 2) := ⟨h.cell (i := 0) (by omega), h.cell (i := 1) (by omega), h.cell (i := 2) (by omega)⟩
theorem cs4 {w : World} {B : Nat} {T : TypeId} {n : Nat} {f : Nat → Value} (h : w.rowIs B T n f) (hn : 4 ≤ n) : w.cell? ⟨B, 0, none⟩ = some (f 0) ∧ w.cell? ⟨B, 1, none⟩ = some (f 1) ∧ w.cell? ⟨B, 2, none⟩ = some (f 2) ∧ w.cell? ⟨B, 3, none⟩ = some (f 3) := ⟨h.cell (i := 0) (by omega), h.cell (i := 1) (by omega), h.cell (i := 2) (by omega), h.cell (i := 3) (by omega)⟩
theorem cs5 {w : World} {B : Nat} {T : TypeId} {n : Nat} {f : Nat → Value} (h : w.rowIs B T n f) (hn : 5 ≤ n) : w.cell? ⟨B, 0, none⟩ = some (f 0) ∧ w.cell? ⟨B, 1, none⟩ = some (f 1) ∧ w.cell? ⟨B, 2, none⟩ = some (f 2) ∧ w.cell? ⟨B, 3, none⟩ = some (f 3) ∧ w.cell? ⟨B, 4, none⟩ = some (f 4) := ⟨h.cell (i := 0) (by omega), h.cell (i := 1) (by omega), h.cell (i := 2) (by omega), h.cell (i := 3) (by omega), h.cell (i := 4) (by omega)⟩
theorem cs7 {w : World} {B : Nat} {T : TypeId} {n : Nat} {f : Nat → Value} (h : w.rowIs B T n f) (hn : 7 ≤ n) : w.cell? ⟨B, 0, none⟩ = some (f 0) ∧ w.cell? ⟨B, 1, none⟩ = some (f 1) ∧ w.cell? ⟨B, 2, none⟩ = some (f 2) ∧ w.cell? ⟨B, 3, none⟩ = some (f 3) ∧ w.cell? ⟨B, 4, none⟩ = some (f 4) ∧ w.cell? ⟨B, 5, none⟩ = some (f 5) ∧ w.cell? ⟨B, 6, none⟩ = some (f 6) := ⟨h.cell (i := 0) (by omega), h.cell (i := 1) (by omega), h.cell (i := 2) (by omega), h.cell (i := 3) (by omega), h.cell (i := 4) (by omega), h.cell (i := 5) (by omega), h.cell (i := 6) (by omega)⟩
inductive Tr where
 | mk (sort num : Int) (text : ByteArray) (names : List ByteArray) (kids : List Tr)
namespace Tr
end Tr
def New (w w' : World) : Nat → Prop := fun b => w.heap.size ≤ b ∧ b < w'.heap.size


theorem ownsRow_base {w : World} {base base' : Nat} {e : TypeId} {size : Nat} {v : Value} {n : Nat} {xs : List Value} (h : w.ownsRow base e size v n xs) (hb : base' ≤ base) : w.ownsRow base' e size v n xs := by
 refine ⟨h.1, ?_⟩
 rcases h.2 with h | ⟨g, cap, cur, h1, h2, h3⟩
 · exact Or.inl h
 · exact Or.inr ⟨g, cap, cur, h1, Nat.le_trans hb h2, h3⟩
theorem append_row {P : Program} (w : World) {ops : Array Oper} {rest : List Oper} {o : Oper} {a : Act} {Q : Exit → Act → World → Prop}
 (hg : o.guard = none) (s x : Operand) (t : TypeId) (hop : o.op = Op.call { callee := Callee.builtin Builtin.append, args := #[s, x], argTypes := #[t, t] })
 (base : Nat) (e : TypeId) (i : TypeInfo) (z : Value) (size bytes : Nat) (h1 : P.underlying t = some (.slice e)) (h2 : P.info? e = some i) (h3 : i.zero = some z) (h4 : i.size = size) (h5 : i.bytes = bytes) (h6 : z.cells.size = size) (h7 : 0 < size)
 (v : Value) (n : Nat) (xs : List Value) (hs : a.eval s = v) (hown : w.ownsRow base e size v n xs)
 (ad : Addr) (m c : Nat) (news : List Value) (hx : a.eval x = .slice (some ad) m c) (hn : news.length = m * size) (hc : ∀ j u, news[j]? = some u → w.cell? (ad.add j) = some u) (h1c : ∀ u ∈ news, u.oneCell' = true)
 (hm : 0 < m) (b1 : n + m ≤ maxLen) (b2 : (n + m) * bytes ≤ 140737488355328) (hbase : base ≤ w.heap.size)
 (hK : ∀ v' w', w'.ownsRow base e size v' (n + m) (xs ++ news) → w.grownBy w' v.ownBlock → (v'.ownBlock = v.ownBlock ∨ ∃ g, v'.ownBlock = some g ∧ w.heap.size ≤ g) → wpList P ops Q rest (a.put o.dst v') w') :
 wpList P ops Q (o :: rest) a w := by
 have hgrow : ∀ v' w', w'.ownsRow w.heap.size e size v' (n + m) (xs ++ news) → w.grownBy w' none → wpList P ops Q rest (a.put o.dst v') w' := fun v' w' r1 r2 => by
  refine hK v' w' (ownsRow_base r1 hbase) ⟨r2.os, r2.tape, r2.output, r2.size, fun k hk _ => r2.block k hk (by simp)⟩ (Or.inr ?_)
  rcases r1.2 with ⟨_, h⟩ | ⟨g, cap, cur, hv, hgg, _⟩
  · omega
  · exact ⟨g, by rw [hv]; rfl, hgg⟩
 rcases hown.2 with ⟨hv, hn0⟩ | ⟨g, cap, cur, hv, hgb, hh, hle, hm2, hsz, htk⟩
 · subst hv; subst hn0
   have hxs : xs = [] := List.eq_nil_of_length_eq_zero (by have := hown.1; simpa using this)
   subst hxs
   exact wpList_append_grows w hg s x t hop e i z size bytes h1 h2 h3 h4 h5 h6 h7 none 0 0 [] hs (fun _ => ⟨rfl, rfl⟩) (by simp) (fun b hb => by cases hb) ad m c news hx hn hc h1c (by omega) b1 b2 hgrow
 · by_cases hr : n + m ≤ cap
   · subst hv
     exact wpList_append_fits w hg s x t hop base e i size h1 h2 h4 g n cap xs hs hown ad m c news hx hn hc h1c hr fun w' r1 r2 => hK _ w' r1 r2 (Or.inl rfl)
   · refine wpList_append_grows w hg s x t hop e i z size bytes h1 h2 h3 h4 h5 h6 h7 (some ⟨g, 0, none⟩) n cap xs (by rw [hs, hv]) (fun hb => by cases hb) hown.1 (fun b hb j u hj => ?_) ad m c news hx hn hc h1c (by omega) b1 b2 hgrow
     simp only [Option.some.injEq] at hb
     subst hb
     have hj' : cur.toList[j]? = some u := by
      rw [← htk] at hj
      rw [List.getElem?_take] at hj
      split at hj
      · exact hj
      · cases hj
     rw [Addr.add_lit]
     simp only [Nat.zero_add, World.cell?, hh]
     simpa using hj'
theorem cell_one (w : World) (x : Value) (t : TypeId) : ∀ j u, [x][j]? = some u → (w.alloc (.cells #[x] t)).cell? ((⟨w.heap.size, 0, none⟩ : Addr).add j) = some u := by
 intro j u hj
 match j with
 | 0 => simp only [List.getElem?_cons_zero, Option.some.injEq] at hj; subst hj; rw [Addr.add_lit]; simp [go_sem]
 | j + 1 => simp at hj

def hb (x : Int) : UInt8 := UInt8.ofNat x.toNat
theorem frInS (a b c : Int) (w : World) : Calls Tryz.prog 36 #[.int .i64 a, .int .i64 b, .int .i64 c] w fun e w' => e = .returned (.bool (decide (b ≤ a ∧ a ≤ c))) ∧ Below w.heap.size w w' := by
 go_enter Tryz.func36, Tryz.ntmps36
 by_cases h1 : b ≤ a
 · by_cases h2 : a ≤ c
   · go_wp2_with fail
     go_ret
     exact ⟨by simp [h2]; omega, Below.refl _ _⟩
   · go_wp2_with fail
     go_ret
     exact ⟨by simp; omega, Below.refl _ _⟩
 · go_wp2_with fail
   go_ret
   exact ⟨by simp; omega, Below.refl _ _⟩
theorem frInP (a b c : Int) (w : World) : Calls Tryz.prog 95 #[.int .i64 a, .int .i64 b, .int .i64 c] w fun e w' => e = .returned (.bool (decide (b ≤ a ∧ a ≤ c))) ∧ Below w.heap.size w w' := by
 go_enter Tryz.func95, Tryz.ntmps95
 by_cases h1 : b ≤ a
 · by_cases h2 : a ≤ c
   · go_wp2_with fail
     go_ret
     exact ⟨by simp [h2]; omega, Below.refl _ _⟩
   · go_wp2_with fail
     go_ret
     exact ⟨by simp; omega, Below.refl _ _⟩
 · go_wp2_with fail
   go_ret
   exact ⟨by simp; omega, Below.refl _ _⟩


theorem size_setCell (w : World) (a : Addr) (v : Value) : (w.setCell a v).heap.size = w.heap.size := by simp [World.setCell]

inductive Kd where
 | mk (sort : Int) (names : List ByteArray) (kids : List Kd)
namespace Kd
end Kd

structure Exc (F : List Nat) (w w' : World) : Prop where
 os : w'.os = w.os
 tape : w'.tape = w.tape
 output : w'.output = w.output
 size : w.heap.size ≤ w'.heap.size
 block : ∀ k, k < w.heap.size → k ∉ F → w'.heap[k]? = w.heap[k]?
theorem Exc.refl (F : List Nat) (w : World) : Exc F w w := ⟨rfl, rfl, rfl, Nat.le_refl _, fun _ _ _ => rfl⟩
theorem Exc.trans {F : List Nat} {a b c : World} (h : Exc F a b) (k : Exc F b c) : Exc F a c :=
 ⟨k.os.trans h.os, k.tape.trans h.tape, k.output.trans h.output, Nat.le_trans h.size k.size, fun i hi hn => (k.block i (Nat.lt_of_lt_of_le hi h.size) hn).trans (h.block i hi hn)⟩
theorem Exc.of_below {F : List Nat} {w w' : World} (h : Below w.heap.size w w') : Exc F w w' := ⟨h.os, h.tape, h.output, h.size, fun k hk _ => h.block k hk⟩
theorem Exc.set {F : List Nat} (w : World) (b o : Nat) (v : Value) (hb : b ∈ F) : Exc F w (w.setCell ⟨b, o, none⟩ v) :=
 ⟨rfl, rfl, rfl, by simp [World.setCell], fun k _ hn => Below.heap_setCell _ _ _ _ (fun e => hn (by rw [e]; exact hb))⟩
theorem Exc.below {F : List Nat} {B : Nat} {w w' : World} (h : Exc F w w') (hB : B ≤ w.heap.size) (hF : ∀ b, b ∈ F → B ≤ b) : Below B w w' :=
 ⟨h.os, h.tape, h.output, h.size, fun k hk => h.block k (by omega) (fun hm => by have := hF k hm; omega)⟩
def FreeB (w : World) (b : Nat) : Prop := ∀ o, w.frozen? ⟨b, o, none⟩ = false
theorem FreeB.of_block {w w' : World} {b : Nat} (h : FreeB w b) (e : w'.heap[b]? = w.heap[b]?) : FreeB w' b := fun o => by
 rw [World.frozen?_of_block (w := w) (a := ⟨b, o, none⟩) e]; exact h o
theorem FreeB.set {w : World} {b : Nat} (h : FreeB w b) (o : Nat) (v : Value) : FreeB (w.setCell ⟨b, o, none⟩ v) b := fun o' => by
 have := h o'
 simpa [go_sem] using this
mutual
def cT : Tr → Nat
 | .mk _ _ _ ns ks => 3 + ns.length + cK ks
def cK : List Tr → Nat
 | [] => 0
 | t :: r => cT t + cK r
end


theorem infoIntM : (Tryz.prog.info? 3).map (fun i => (i.zero, i.size, i.bytes)) = some (some (.int .i64 0), 1, 8) := by kernel_rfl

def FlatAt (P : Nat → Prop) (w : World) (v : Value) (n : Nat) (rs : List (List Value)) : Prop :=
 ∃ a cap, v = .slice a rs.length cap ∧ rs.length ≤ 9223372036854775807 ∧
   ∀ i, (h : i < rs.length) → ∃ b o, a = some ⟨b, o, none⟩ ∧ P b ∧ ∀ j, j < n → w.cell? ⟨b, o + i * n + j, none⟩ = some (rs[i].getD j undef)
theorem FlatAt.carry {P Q : Nat → Prop} {w w' : World} {v : Value} {n : Nat} {rs : List (List Value)} (h : FlatAt P w v n rs) (hP : ∀ b, P b → w'.heap[b]? = w.heap[b]?) (hQ : ∀ b, P b → Q b) : FlatAt Q w' v n rs := by
 obtain ⟨a, cap, h1, h2, h3⟩ := h
 refine ⟨a, cap, h1, h2, fun i hi => ?_⟩
 obtain ⟨b, o, e, hb, hc⟩ := h3 i hi
 exact ⟨b, o, e, hQ b hb, fun j hj => by rw [World.cell?_of_block (w := w) (hP b hb)]; exact hc j hj⟩
structure Df where
 (name data : ByteArray) (kept : Int)
structure Dm where
 (gone : Bool) (name : ByteArray)

theorem freeOfHeap {w : World} {g : Nat} {cur : Array Value} {e : TypeId} (h : w.heap[g]? = some (.cells cur e (0, 0))) : FreeB w g := fun o => by simp [World.frozen?, h]

def FlatOwn (w : World) (v : Value) (n : Nat) (rs : List (List Value)) (F : List Nat) : Prop :=
 ∃ a cap, v = .slice a rs.length cap ∧ rs.length ≤ 9223372036854775807 ∧ ((rs = [] ∧ F = []) ∨ ∃ b, a = some ⟨b, 0, none⟩ ∧ F = [b] ∧ FreeB w b ∧ ∀ i, (h : i < rs.length) → ∀ j, j < n → w.cell? ⟨b, i * n + j, none⟩ = some (rs[i].getD j undef))
theorem FlatOwn.carry {w w' : World} {v : Value} {n : Nat} {rs : List (List Value)} {F : List Nat} (h : FlatOwn w v n rs F) (hF : ∀ b, b ∈ F → w'.heap[b]? = w.heap[b]?) : FlatOwn w' v n rs F := by
 obtain ⟨a, cap, h1, h2, h3⟩ := h
 refine ⟨a, cap, h1, h2, ?_⟩
 rcases h3 with h | ⟨b, e, rfl, hf, hc⟩
 · exact Or.inl h
 · have hb := hF b (by simp)
   exact Or.inr ⟨b, e, rfl, hf.of_block hb, fun i hi j hj => by rw [World.cell?_of_block (w := w) hb]; exact hc i hi j hj⟩
theorem FlatOwn.at {w : World} {v : Value} {n : Nat} {rs : List (List Value)} {F : List Nat} (h : FlatOwn w v n rs F) : FlatAt (· ∈ F) w v n rs := by
 obtain ⟨a, cap, h1, h2, h3⟩ := h
 refine ⟨a, cap, h1, h2, fun i hi => ?_⟩
 rcases h3 with ⟨rfl, -⟩ | ⟨b, e, rfl, hf, hc⟩
 · simp at hi
 · exact ⟨b, 0, e, by simp, fun j hj => by rw [Nat.zero_add]; exact hc i hi j hj⟩
theorem FlatOwn.nil (w : World) (n : Nat) : FlatOwn w (.slice none 0 0) n [] [] := ⟨none, 0, rfl, by simp, Or.inl ⟨rfl, rfl⟩⟩
theorem flat_get {n : Nat} : ∀ (rs : List (List Value)), (∀ r, r ∈ rs → r.length = n) → ∀ (i : Nat) (hi : i < rs.length) (j : Nat), j < n → rs.flatten[i * n + j]? = some (rs[i].getD j undef)
 | r :: rest, hn, 0, _, j, hj => by
   have hr : r.length = n := hn r List.mem_cons_self
   rw [List.flatten_cons, Nat.zero_mul, Nat.zero_add, List.getElem?_append_left (by omega), List.getElem?_eq_getElem (by omega)]
   simp [hr, hj]
 | r :: rest, hn, i + 1, hi, j, hj => by
   have hr : r.length = n := hn r List.mem_cons_self
   rw [List.flatten_cons, List.getElem?_append_right (by rw [hr, Nat.add_mul]; omega), hr, show (i + 1) * n + j - n = i * n + j by rw [Nat.add_mul]; omega, flat_get rest (fun x hx => hn x (List.mem_cons_of_mem _ hx)) i (by simpa using hi) j hj]
   rfl
theorem FlatOwn.of_row {base : Nat} {w : World} {v : Value} {e : TypeId} {n : Nat} {rs : List (List Value)} (h : w.ownsRow base e n v rs.length rs.flatten) (hn : ∀ r, r ∈ rs → r.length = n) :
 ∃ F, FlatOwn w v n rs F ∧ (∀ b, b ∈ F → v.ownBlock = some b) ∧ (∀ b, b ∈ F → base ≤ b ∧ b < w.heap.size) ∧ F.Nodup := by
 rcases h.2 with ⟨hv, h0⟩ | ⟨g, cap, cur, hv, hb, hh, hle, hm, hsz, htk⟩
 · have : rs = [] := List.eq_nil_of_length_eq_zero h0
   subst this
   exact ⟨[], ⟨none, 0, hv, by simp, Or.inl ⟨rfl, rfl⟩⟩, fun b hb => (by cases hb), fun b hb => (by cases hb), List.nodup_nil⟩
 · refine ⟨[g], ⟨some ⟨g, 0, none⟩, cap, hv, by unfold maxLen at hm; omega, Or.inr ⟨g, rfl, rfl, freeOfHeap hh, fun i hi j hj => ?_⟩⟩, fun b hb => ?_, fun b hb => ?_, by simp⟩
   · have h1 := flat_get rs hn i hi j hj
     have hlt : i * n + j < rs.length * n := by
      have : (i + 1) * n ≤ rs.length * n := Nat.mul_le_mul_right n hi
      rw [Nat.add_mul] at this; omega
     rw [← htk, List.getElem?_take_of_lt hlt] at h1
     simp only [World.cell?, hh]
     simpa using h1
   · simp at hb; subst hb; rw [hv]; rfl
   · simp at hb; subst hb
     exact ⟨by assumption, (Array.getElem?_eq_some_iff.1 hh).1⟩

structure Hd where
 (state job : Int)
instance : Inhabited Hd := ⟨⟨0, 0⟩⟩
def Hd.cs (h : Hd) : List Value := [.int .i64 h.state, .int .i64 h.job]
def zcs (z : Int) : List Value := [.int .i64 z]
def ZAt (P : Nat → Prop) (w : World) (v : Value) (zs : List Int) : Prop := FlatAt P w v 1 (zs.map zcs)
def HAt (P : Nat → Prop) (w : World) (v : Value) (hs : List Hd) : Prop := FlatAt P w v 2 (hs.map Hd.cs)
def ZOwn (w : World) (v : Value) (zs : List Int) (F : List Nat) : Prop := FlatOwn w v 1 (zs.map zcs) F
def HOwn (w : World) (v : Value) (hs : List Hd) (F : List Nat) : Prop := FlatOwn w v 2 (hs.map Hd.cs) F
theorem ZAt.carry {P Q : Nat → Prop} {w w' : World} {v : Value} {zs : List Int} (h : ZAt P w v zs) (hP : ∀ b, P b → w'.heap[b]? = w.heap[b]?) (hQ : ∀ b, P b → Q b) : ZAt Q w' v zs := FlatAt.carry h hP hQ
theorem HAt.carry {P Q : Nat → Prop} {w w' : World} {v : Value} {hs : List Hd} (h : HAt P w v hs) (hP : ∀ b, P b → w'.heap[b]? = w.heap[b]?) (hQ : ∀ b, P b → Q b) : HAt Q w' v hs := FlatAt.carry h hP hQ
theorem ZAt.open {P : Nat → Prop} {w : World} {v : Value} {zs : List Int} (h : ZAt P w v zs) : ∃ a cap, v = .slice a zs.length cap ∧ zs.length ≤ 9223372036854775807 ∧
 ∀ i, (hi : i < zs.length) → ∃ b o, a = some ⟨b, o, none⟩ ∧ P b ∧ w.cell? ⟨b, o + i, none⟩ = some (.int .i64 zs[i]) := by
 obtain ⟨a, cap, h1, h2, h3⟩ := h
 rw [List.length_map] at h1 h2
 refine ⟨a, cap, h1, h2, fun i hi => ?_⟩
 obtain ⟨b, o, e, hb, hc⟩ := h3 i (by rw [List.length_map]; exact hi)
 have c0 := hc 0 (by omega)
 simp only [List.getElem_map, zcs, Nat.add_zero, Nat.mul_one, List.getD_cons_zero] at c0
 exact ⟨b, o, e, hb, c0⟩
theorem HAt.open {P : Nat → Prop} {w : World} {v : Value} {hs : List Hd} (h : HAt P w v hs) : ∃ a cap, v = .slice a hs.length cap ∧ hs.length ≤ 9223372036854775807 ∧
 ∀ i, (hi : i < hs.length) → ∃ b o, a = some ⟨b, o, none⟩ ∧ P b ∧ w.cell? ⟨b, o + i * 2, none⟩ = some (.int .i64 hs[i].state) ∧ w.cell? ⟨b, o + i * 2 + 1, none⟩ = some (.int .i64 hs[i].job) := by
 obtain ⟨a, cap, h1, h2, h3⟩ := h
 rw [List.length_map] at h1 h2
 refine ⟨a, cap, h1, h2, fun i hi => ?_⟩
 obtain ⟨b, o, e, hb, hc⟩ := h3 i (by rw [List.length_map]; exact hi)
 have c0 := hc 0 (by omega); have c1 := hc 1 (by omega)
 simp only [List.getElem_map, Hd.cs, Nat.add_zero, List.getD_cons_zero, List.getD_cons_succ] at c0 c1
 exact ⟨b, o, e, hb, c0, c1⟩
structure Cw where
 (jobs workers window next reader : Int) (queue : List Int) (hands : List Hd) (closer : Int) (results : List Int) (keeper : Int) (ring : List Int) (due : Int) (out : List Int) (user : Int) (got : List Int) (room : Int) (shut : List Int) (ops : Int)
structure C7 where
 (q h r g o t s : Value)
structure CwAt (P : Nat → Prop) (w : World) (c : Cw) (v : C7) : Prop where
 q : ZAt P w v.q c.queue
 h : HAt P w v.h c.hands
 r : ZAt P w v.r c.results
 g : ZAt P w v.g c.ring
 o : ZAt P w v.o c.out
 t : ZAt P w v.t c.got
 s : ZAt P w v.s c.shut
theorem CwAt.carry {P Q : Nat → Prop} {w w' : World} {c : Cw} {v : C7} (h : CwAt P w c v) (hP : ∀ b, P b → w'.heap[b]? = w.heap[b]?) (hQ : ∀ b, P b → Q b) : CwAt Q w' c v :=
 ⟨h.q.carry hP hQ, h.h.carry hP hQ, h.r.carry hP hQ, h.g.carry hP hQ, h.o.carry hP hQ, h.t.carry hP hQ, h.s.carry hP hQ⟩
structure CwOwn (w : World) (c : Cw) (v : C7) (Fq Fh Fr Fg Fo Ft Fs : List Nat) : Prop where
 q : ZOwn w v.q c.queue Fq
 h : HOwn w v.h c.hands Fh
 r : ZOwn w v.r c.results Fr
 g : ZOwn w v.g c.ring Fg
 o : ZOwn w v.o c.out Fo
 t : ZOwn w v.t c.got Ft
 s : ZOwn w v.s c.shut Fs
def F7 (Fq Fh Fr Fg Fo Ft Fs : List Nat) : List Nat := Fq ++ (Fh ++ (Fr ++ (Fg ++ (Fo ++ (Ft ++ Fs)))))
theorem CwOwn.carry {w w' : World} {c : Cw} {v : C7} {Fq Fh Fr Fg Fo Ft Fs : List Nat} (h : CwOwn w c v Fq Fh Fr Fg Fo Ft Fs) (hF : ∀ b, b ∈ F7 Fq Fh Fr Fg Fo Ft Fs → w'.heap[b]? = w.heap[b]?) : CwOwn w' c v Fq Fh Fr Fg Fo Ft Fs :=
 ⟨FlatOwn.carry h.q (fun b hb => hF b (by simp [F7, hb])), FlatOwn.carry h.h (fun b hb => hF b (by simp [F7, hb])), FlatOwn.carry h.r (fun b hb => hF b (by simp [F7, hb])), FlatOwn.carry h.g (fun b hb => hF b (by simp [F7, hb])), FlatOwn.carry h.o (fun b hb => hF b (by simp [F7, hb])), FlatOwn.carry h.t (fun b hb => hF b (by simp [F7, hb])), FlatOwn.carry h.s (fun b hb => hF b (by simp [F7, hb]))⟩
theorem CwOwn.at {w : World} {c : Cw} {v : C7} {Fq Fh Fr Fg Fo Ft Fs : List Nat} (h : CwOwn w c v Fq Fh Fr Fg Fo Ft Fs) : CwAt (· ∈ F7 Fq Fh Fr Fg Fo Ft Fs) w c v :=
 ⟨(FlatOwn.at h.q).carry (fun _ _ => rfl) (fun b hb => by simp [F7, hb]), (FlatOwn.at h.h).carry (fun _ _ => rfl) (fun b hb => by simp [F7, hb]), (FlatOwn.at h.r).carry (fun _ _ => rfl) (fun b hb => by simp [F7, hb]), (FlatOwn.at h.g).carry (fun _ _ => rfl) (fun b hb => by simp [F7, hb]), (FlatOwn.at h.o).carry (fun _ _ => rfl) (fun b hb => by simp [F7, hb]), (FlatOwn.at h.t).carry (fun _ _ => rfl) (fun b hb => by simp [F7, hb]), (FlatOwn.at h.s).carry (fun _ _ => rfl) (fun b hb => by simp [F7, hb])⟩




def CellsAre (w : World) (b N : Nat) (f : Nat → Value) : Prop := FreeB w b ∧ ∀ q, q < N → w.cell? ⟨b, q, none⟩ = some (f q)
def partF (f g : Nat → Value) (p : Nat) : Nat → Value := fun q => if q < p then f q else g q
theorem CellsAre.step {w : World} {b N : Nat} {f g : Nat → Value} {p : Nat} (h : CellsAre w b N (partF f g p)) (hp : p < N) (u : Value) (hu : u = f p) : CellsAre (w.setCell ⟨b, p, none⟩ u) b N (partF f g (p + 1)) := by
 refine ⟨h.1.set _ _, fun q hq => ?_⟩
 by_cases e : q = p
 · subst e
   rw [World.cell?_setCell_same w _ u (h.2 q hq)]
   unfold partF; rw [if_pos (by omega), hu]
 · rw [World.cell?_setCell_other w _ _ u (by intro e2; cases e2; exact e rfl), h.2 q hq]
   unfold partF
   by_cases h2 : q < p
   · rw [if_pos h2, if_pos (by omega)]
   · rw [if_neg h2, if_neg (by omega)]
theorem FlatOwn.cells {w : World} {b n : Nat} {rs : List (List Value)} (h : ∀ i, (h : i < rs.length) → ∀ j, j < n → w.cell? ⟨b, i * n + j, none⟩ = some (rs[i].getD j undef)) (hf : FreeB w b) (hn : 0 < n) : CellsAre w b (rs.length * n) (fun q => (rs.getD (q / n) []).getD (q % n) undef) := by
 refine ⟨hf, fun q hq => ?_⟩
 have hi : q / n < rs.length := (Nat.div_lt_iff_lt_mul hn).2 hq
 have := h (q / n) hi (q % n) (Nat.mod_lt _ hn)
 rw [show q / n * n + q % n = q by rw [Nat.mul_comm]; exact Nat.div_add_mod q n] at this
 rw [this]
 simp [List.getD, hi]

theorem eqIntZ_any (v u : Value) (ss : List Int) (w : World) {P Q : Nat → Prop} (hv : ZAt P w v ss) (hu : ZAt Q w u ss) (hP : ∀ b, P b → b < w.heap.size) (hQ : ∀ b, Q b → b < w.heap.size) :
 Calls Tryz.prog 56 #[v, u] w fun e w' => e = .returned (.bool true) ∧ Below w.heap.size w w' := by
 obtain ⟨a, cap, rfl, hlen, hc⟩ := hv.open
 obtain ⟨a2, cap2, rfl, -, hc2⟩ := hu.open
 have HC := xH hc; have HC2 := xH hc2; have HP := xH hP; have HQ := xH hQ
 clear hc hc2 hP hQ hv hu
 have hne : ((ss.length : Int) != (ss.length : Int)) = false := by simp
 go_enter Tryz.func56, Tryz.ntmps56
 go_wp2_with fail
 clear hne
 go_loopw [5] (fun i wr => ∃ (k : Nat), k ≤ ss.length ∧ i = .int .i64 k ∧ Below w.heap.size w wr) (fun i _ => ss.length - (intOf i).toNat)
 case atStart => exact ⟨0, Nat.zero_le _, rfl, Below.refl _ _⟩
 case round =>
  obtain ⟨k, hk, rfl, hb⟩ := hrel
  by_cases hlt : k < ss.length
  · obtain ⟨b, o, rfl, hpb, hcell⟩ := xU HC k hlt
    obtain ⟨b2, o2, rfl, hpb2, hcell2⟩ := xU HC2 k hlt
    have e1 : wr.cell? ⟨b, o + k, none⟩ = some (.int .i64 ss[k]) := by rw [hb.cell (xU HP b hpb)]; exact hcell
    have e2 : wr.cell? ⟨b2, o2 + k, none⟩ = some (.int .i64 ss[k]) := by rw [hb.cell (xU HQ b2 hpb2)]; exact hcell2
    have hne : (ss[k] != ss[k]) = false := by simp
    clear hcell hcell2 hpb hpb2
    go_wp2_with fail
    go_region
    go_wp2_with fail
    go_roundw
    case rel => exact ⟨k + 1, by omega, by go_num, hb.drew⟩
    case measure => simp [intOf]; omega
  · go_wp2_with fail
    go_ret
    exact ⟨rfl, hb⟩
theorem eqCrewHand_any (h : Hd) (w : World) :
 Calls Tryz.prog 89 #[.agg #[.int .i64 h.state, .int .i64 h.job], .agg #[.int .i64 h.state, .int .i64 h.job]] w fun e w' => e = .returned (.bool true) ∧ Below w.heap.size w w' := by
 have hb0 : ∀ o o2, Below w.heap.size w ((w.alloc o).alloc o2) := fun o o2 => ((Below.refl _ _).alloc (Nat.le_refl _) o).alloc (by simp) o2
 go_enter Tryz.func89, Tryz.ntmps89
 go_wp2_with fail
 go_ret
 exact ⟨rfl, hb0 _ _⟩
theorem eqCrewHandS_any (v v2 : Value) (fs : List Hd) (w : World) {P Q : Nat → Prop} (hv : HAt P w v fs) (hv2 : HAt Q w v2 fs) (hP : ∀ b, P b → b < w.heap.size) (hQ : ∀ b, Q b → b < w.heap.size) :
 Calls Tryz.prog 57 #[v, v2] w fun e w' => e = .returned (.bool true) ∧ Below w.heap.size w w' := by
 obtain ⟨a, cap, rfl, hlen, hc⟩ := hv.open
 obtain ⟨a2, cap2, rfl, -, hc2⟩ := hv2.open
 have HC := xH hc; have HC2 := xH hc2; have HP := xH hP; have HQ := xH hQ; clear hc hc2 hP hQ hv hv2
 go_enter Tryz.func57, Tryz.ntmps57
 go_wp2_with fail
 go_loopw [5] (fun i wr => ∃ (k : Nat), k ≤ fs.length ∧ i = .int .i64 k ∧ Below w.heap.size w wr) (fun i _ => fs.length - (intOf i).toNat)
 case atStart => exact ⟨0, Nat.zero_le _, rfl, Below.refl _ _⟩
 case round =>
  obtain ⟨k, hk, rfl, hb⟩ := hrel
  by_cases hlt : k < fs.length
  · obtain ⟨b, o, rfl, hpb, hc0, hc1⟩ := xU HC k hlt
    obtain ⟨b2, o2, rfl, hpb2, hd0, hd1⟩ := xU HC2 k hlt
    have e0 : wr.cell? ⟨b, o + k * 2, none⟩ = some (.int .i64 fs[k].state) := by rw [hb.cell (xU HP b hpb)]; exact hc0
    have e1 : wr.cell? ⟨b, o + k * 2 + 1, none⟩ = some (.int .i64 fs[k].job) := by rw [hb.cell (xU HP b hpb)]; exact hc1
    have g0 : wr.cell? ⟨b2, o2 + k * 2, none⟩ = some (.int .i64 fs[k].state) := by rw [hb.cell (xU HQ b2 hpb2)]; exact hd0
    have g1 : wr.cell? ⟨b2, o2 + k * 2 + 1, none⟩ = some (.int .i64 fs[k].job) := by rw [hb.cell (xU HQ b2 hpb2)]; exact hd1
    have HCALL := xH (eqCrewHand_any fs[k] wr.drew)
    clear hc0 hc1 hd0 hd1 hpb hpb2
    generalize fs[k] = f at *
    go_wp2_with fail
    go_region_with (go_at_call 89; refine (xU HCALL).mono ?_; rintro e w' ⟨rfl, hb'⟩)
    all_goals
     have hb2 := hb.drew.trans (hb'.mono hb.drew.size)
     go_wp2_with fail
     go_roundw
     case rel => exact ⟨k + 1, by omega, by go_num, hb2⟩
     case measure => simp [intOf]; omega
  · go_wp2_with fail
    go_ret
    exact ⟨rfl, hb⟩
def mkI (k q : Nat) : Value := .int .i64 ((k + q : Nat) : Int)
def mZs (k n : Nat) : List Int := (List.range n).map fun i => ((k + i : Nat) : Int)
def mHs (k n : Nat) : List Hd := (List.range n).map fun i => ⟨((k + 2 * i : Nat) : Int), ((k + 2 * i + 1 : Nat) : Int)⟩
theorem zs_of_cells {w : World} {b cap n k : Nat} {g : Nat → Value} (hlen : n ≤ 9223372036854775807) (h : CellsAre w b (n * 1) (partF (mkI k) g (n * 1))) : ZOwn w (.slice (some ⟨b, 0, none⟩) n cap) (mZs k n) [b] := by
 refine ⟨some ⟨b, 0, none⟩, cap, by simp [mZs], by simpa [mZs] using hlen, Or.inr ⟨b, rfl, rfl, h.1, fun i hi j hj => ?_⟩⟩
 have hi' : i < n := by simpa [mZs] using hi
 rw [h.2 (i * 1 + j) (by omega)]
 unfold partF mkI
 rw [if_pos (by omega)]
 obtain rfl : j = 0 := by omega
 simp [mZs, zcs]
theorem hs_of_cells {w : World} {b cap n k : Nat} {g : Nat → Value} (hlen : n ≤ 9223372036854775807) (h : CellsAre w b (n * 2) (partF (mkI k) g (n * 2))) : HOwn w (.slice (some ⟨b, 0, none⟩) n cap) (mHs k n) [b] := by
 refine ⟨some ⟨b, 0, none⟩, cap, by simp [mHs], by simpa [mHs] using hlen, Or.inr ⟨b, rfl, rfl, h.1, fun i hi j hj => ?_⟩⟩
 have hi' : i < n := by simpa [mHs] using hi
 rw [h.2 (i * 2 + j) (by omega)]
 unfold partF mkI
 rw [if_pos (by omega)]
 rcases (show j = 0 ∨ j = 1 by omega) with rfl | rfl
 · simp [mHs, Hd.cs, Nat.mul_comm]
 · simp [mHs, Hd.cs, Nat.mul_comm, Nat.add_assoc]
theorem markIntZ_own (v : Value) (fs : List Int) (F : List Nat) (k : Nat) (w : World) (hv : ZOwn w v fs F) (hk : k + fs.length ≤ 1099511627776) :
 Calls Tryz.prog 58 #[v, .int .i64 k] w fun e w' => e = .returned (.int .i64 (k + fs.length : Nat)) ∧ ZOwn w' v (mZs k fs.length) F ∧ Exc F w w' := by
 obtain ⟨a, cap, rfl, hlen, hc⟩ := hv
 rw [List.length_map] at hlen ⊢
 rcases hc with ⟨hfs, rfl⟩ | ⟨b, rfl, rfl, hfr, hc⟩
 · have hfs' : fs = [] := by simpa using hfs
   subst hfs'
   simp only [List.length_nil] at *
   go_enter Tryz.func58, Tryz.ntmps58
   go_wp2_with fail
   go_loopw [1, 5] (fun kk i wr => kk = .int .i64 k ∧ i = .int .i64 0 ∧ wr = w) (fun _ _ _ => 0)
   case atStart => exact ⟨rfl, rfl, rfl⟩
   case round =>
    obtain ⟨rfl, rfl, rfl⟩ := hrel
    go_wp2_with fail
    go_ret
    exact ⟨by simp, ⟨a, cap, by simp [mZs], by simp [mZs], Or.inl ⟨by simp [mZs], rfl⟩⟩, Exc.refl _ _⟩
 · have hM := FlatOwn.cells (n := 1) (rs := fs.map zcs) hc hfr (by omega)
   rw [List.length_map] at hM
   generalize (fun q => ((fs.map zcs).getD (q / 1) []).getD (q % 1) undef) = g at hM
   have hM0 : CellsAre w b (fs.length * 1) (partF (mkI k) g 0) := by
    have : partF (mkI k) g 0 = g := by funext q; simp [partF]
    rw [this]; exact hM
   have HM := xH hM0
   clear hM hM0 hfr hc
   generalize fs.length = n at *
   go_enter Tryz.func58, Tryz.ntmps58
   go_wp2_with fail
   go_loopw [1, 5] (fun kk i wr => ∃ (j m : Nat), j ≤ n ∧ m = k + j ∧ kk = .int .i64 (m : Nat) ∧ i = .int .i64 j ∧ Hid (CellsAre wr b (n * 1) (partF (mkI k) g j)) ∧ Hid (Exc [b] w wr)) (fun _ i _ => n - (intOf i).toNat)
   case atStart => exact ⟨0, k, Nat.zero_le _, by omega, rfl, rfl, HM, Exc.refl _ _⟩
   case round =>
    obtain ⟨j, m, hj, hm, rfl, rfl, HC, HX⟩ := hrel
    by_cases hlt : j < n
    · have hmb2 : m + 1 ≤ 1099511627776 := by omega
      have HMM := xH hm
      have f0 : Value.int .i64 (m : Int) = mkI k j := by unfold mkI; rw [hm]
      have y0 := HC.out.2 j (by omega); have z0 := HC.out.1 j
      have HS1 := xH (HC.out.step (by omega) _ f0)
      have HX1 := xH (HX.out.trans (Exc.set wr b j (.int .i64 (m : Int)) (by simp)))
      clear hm f0
      go_wp2_with fail
      go_roundw
      case rel => exact ⟨j + 1, m + 1, by omega, by have := xU HMM; omega, by go_num, by go_num, HS1, xU HX1⟩
      case measure => simp [intOf]; omega
    · go_wp2_with fail
      go_ret
      obtain rfl : j = n := by omega
      exact ⟨by rw [hm]; rfl, zs_of_cells hlen (by rw [Nat.mul_one]; rw [Nat.mul_one] at HC; exact HC.out), HX.out⟩

theorem heldIntZ_any (v : Value) (n k : Nat) (w : World) {P : Nat → Prop} (hv : ZAt P w v (mZs k n)) (hP : ∀ b, P b → b < w.heap.size) (hk : k + n ≤ 1099511627776) :
 Calls Tryz.prog 60 #[v, .int .i64 k] w fun e w' => e = .returned (.int .i64 (k + n : Nat)) ∧ Below w.heap.size w w' := by
 obtain ⟨a, cap, rfl, hlen, hc⟩ := hv.open
 have hml : (mZs k n).length = n := by simp [mZs]
 have hc' : ∀ i, i < n → ∃ b o, a = some ⟨b, o, none⟩ ∧ P b ∧ w.cell? ⟨b, o + i, none⟩ = some (.int .i64 ((k + i : Nat) : Int)) := fun i hi => by
  obtain ⟨b, o, e, hp, h0⟩ := hc i (by rw [hml]; exact hi)
  have hg : (mZs k n)[i]'(by rw [hml]; exact hi) = ((k + i : Nat) : Int) := by simp [mZs]
  rw [hg] at h0
  exact ⟨b, o, e, hp, h0⟩
 rw [hml] at hlen ⊢
 have HC := xH hc'; have HP := xH hP
 clear hc hc' hP hv hml
 go_enter Tryz.func60, Tryz.ntmps60
 go_wp2_with fail
 go_loopw [1, 5] (fun kk i wr => ∃ (j m : Nat), j ≤ n ∧ m = k + j ∧ kk = .int .i64 (m : Nat) ∧ i = .int .i64 j ∧ Hid (Below w.heap.size w wr)) (fun _ i _ => n - (intOf i).toNat)
 case atStart => exact ⟨0, k, Nat.zero_le _, by omega, rfl, rfl, Below.refl _ _⟩
 case round =>
  obtain ⟨j, m, hj, hm, rfl, rfl, HB⟩ := hrel
  by_cases hlt : j < n
  · obtain ⟨b, o, rfl, hpb, h0⟩ := xU HC j hlt
    have e0 : wr.cell? ⟨b, o + j, none⟩ = some (.int .i64 (m : Int)) := by rw [HB.out.cell (p := ⟨b, o + j, none⟩) (xU HP b hpb), hm]; exact h0
    have hmb : m + 1 ≤ 1099511627776 := by omega
    have HMM := xH hm
    clear h0 hpb hm
    go_wp2_with fail
    go_roundw
    case rel => exact ⟨j + 1, m + 1, by omega, by have := xU HMM; omega, by go_num, by go_num, HB⟩
    case measure => simp [intOf]; omega
  · go_wp2_with fail
    go_ret
    obtain rfl : j = n := by omega
    exact ⟨by rw [hm]; rfl, HB.out⟩
theorem heldCrewHandS_any (v : Value) (n k : Nat) (w : World) {P : Nat → Prop} (hv : HAt P w v (mHs k n)) (hP : ∀ b, P b → b < w.heap.size) (hk : k + 2 * n ≤ 1099511627776) :
 Calls Tryz.prog 61 #[v, .int .i64 k] w fun e w' => e = .returned (.int .i64 (k + 2 * n : Nat)) ∧ Below w.heap.size w w' := by
 obtain ⟨a, cap, rfl, hlen, hc⟩ := hv.open
 have hml : (mHs k n).length = n := by simp [mHs]
 have hc' : ∀ i, i < n → ∃ b o, a = some ⟨b, o, none⟩ ∧ P b ∧ w.cell? ⟨b, o + i * 2, none⟩ = some (.int .i64 ((k + 2 * i : Nat) : Int)) ∧ w.cell? ⟨b, o + i * 2 + 1, none⟩ = some (.int .i64 ((k + 2 * i + 1 : Nat) : Int)) := fun i hi => by
  obtain ⟨b, o, e, hp, h0, h1⟩ := hc i (by rw [hml]; exact hi)
  have hg : (mHs k n)[i]'(by rw [hml]; exact hi) = ⟨((k + 2 * i : Nat) : Int), ((k + 2 * i + 1 : Nat) : Int)⟩ := by simp [mHs]
  rw [hg] at h0 h1
  exact ⟨b, o, e, hp, h0, h1⟩
 rw [hml] at hlen ⊢
 have HC := xH hc'; have HP := xH hP
 clear hc hc' hP hv hml
 go_enter Tryz.func61, Tryz.ntmps61
 go_wp2_with fail
 go_loopw [1, 5] (fun kk i wr => ∃ (j m : Nat), j ≤ n ∧ m = k + 2 * j ∧ kk = .int .i64 (m : Nat) ∧ i = .int .i64 j ∧ Hid (Below w.heap.size w wr)) (fun _ i _ => n - (intOf i).toNat)
 case atStart => exact ⟨0, k, Nat.zero_le _, by omega, rfl, rfl, Below.refl _ _⟩
 case round =>
  obtain ⟨j, m, hj, hm, rfl, rfl, HB⟩ := hrel
  by_cases hlt : j < n
  · obtain ⟨b, o, rfl, hpb, h0, h1⟩ := xU HC j hlt
    have e0 : wr.cell? ⟨b, o + j * 2, none⟩ = some (.int .i64 (m : Int)) := by rw [HB.out.cell (p := ⟨b, o + j * 2, none⟩) (xU HP b hpb), hm]; exact h0
    have e1 : wr.cell? ⟨b, o + j * 2 + 1, none⟩ = some (.int .i64 ((m : Int) + 1)) := by rw [HB.out.cell (p := ⟨b, o + j * 2 + 1, none⟩) (xU HP b hpb), hm]; exact h1
    have hmb : m + 2 ≤ 1099511627776 := by omega
    have HMM := xH hm
    clear h0 h1 hpb hm
    go_wp2_with fail
    go_roundw
    case rel => exact ⟨j + 1, m + 2, by omega, by have := xU HMM; omega, by go_num, by go_num, HB⟩
    case measure => simp [intOf]; omega
  · go_wp2_with fail
    go_ret
    obtain rfl : j = n := by omega
    exact ⟨by rw [hm]; rfl, HB.out⟩
theorem markCrewHandS_own (v : Value) (fs : List Hd) (F : List Nat) (k : Nat) (w : World) (hv : HOwn w v fs F) (hk : k + 2 * fs.length ≤ 1099511627776) :
 Calls Tryz.prog 59 #[v, .int .i64 k] w fun e w' => e = .returned (.int .i64 (k + 2 * fs.length : Nat)) ∧ HOwn w' v (mHs k fs.length) F ∧ Exc F w w' := by
 obtain ⟨a, cap, rfl, hlen, hc⟩ := hv
 rw [List.length_map] at hlen ⊢
 rcases hc with ⟨hfs, rfl⟩ | ⟨b, rfl, rfl, hfr, hc⟩
 · have hfs' : fs = [] := by simpa using hfs
   subst hfs'
   simp only [List.length_nil] at *
   go_enter Tryz.func59, Tryz.ntmps59
   go_wp2_with fail
   go_loopw [1, 5] (fun kk i wr => kk = .int .i64 k ∧ i = .int .i64 0 ∧ wr = w) (fun _ _ _ => 0)
   case atStart => exact ⟨rfl, rfl, rfl⟩
   case round =>
    obtain ⟨rfl, rfl, rfl⟩ := hrel
    go_wp2_with fail
    go_ret
    exact ⟨by simp, ⟨a, cap, by simp [mHs], by simp [mHs], Or.inl ⟨by simp [mHs], rfl⟩⟩, Exc.refl _ _⟩
 · have hM := FlatOwn.cells (n := 2) (rs := fs.map Hd.cs) hc hfr (by omega)
   rw [List.length_map] at hM
   generalize (fun q => ((fs.map Hd.cs).getD (q / 2) []).getD (q % 2) undef) = g at hM
   have hM0 : CellsAre w b (fs.length * 2) (partF (mkI k) g 0) := by
    have : partF (mkI k) g 0 = g := by funext q; simp [partF]
    rw [this]; exact hM
   have HM := xH hM0
   clear hM hM0 hfr hc
   generalize fs.length = n at *
   go_enter Tryz.func59, Tryz.ntmps59
   go_wp2_with fail
   go_loopw [1, 5] (fun kk i wr => ∃ (j m : Nat), j ≤ n ∧ m = k + 2 * j ∧ kk = .int .i64 (m : Nat) ∧ i = .int .i64 j ∧ Hid (CellsAre wr b (n * 2) (partF (mkI k) g (j * 2))) ∧ Hid (Exc [b] w wr)) (fun _ i _ => n - (intOf i).toNat)
   case atStart => exact ⟨0, k, Nat.zero_le _, by omega, rfl, rfl, by rw [Nat.zero_mul]; exact HM, Exc.refl _ _⟩
   case round =>
    obtain ⟨j, m, hj, hm, rfl, rfl, HC, HX⟩ := hrel
    by_cases hlt : j < n
    · have hmb2 : m + 2 ≤ 1099511627776 := by omega
      have HMM := xH hm
      have f0 : Value.int .i64 (m : Int) = mkI k (j * 2) := by unfold mkI; rw [hm]; congr 2; omega
      have f1 : Value.int .i64 ((m : Int) + 1) = mkI k (j * 2 + 1) := by unfold mkI; rw [hm]; congr 1; omega
      have y0 := HC.out.2 (j * 2) (by omega); have z0 := HC.out.1 (j * 2)
      have hs1 := HC.out.step (by omega) _ f0
      have y1 := hs1.2 (j * 2 + 1) (by omega); have z1 := hs1.1 (j * 2 + 1)
      have HS2 := xH (hs1.step (by omega) _ f1)
      have HX2 := xH (HX.out.trans ((Exc.set wr b (j * 2) (.int .i64 (m : Int)) (by simp)).trans (Exc.set _ b (j * 2 + 1) (.int .i64 ((m : Int) + 1)) (by simp))))
      clear hm f0 f1 hs1
      go_wp2_with fail
      go_roundw
      case rel => exact ⟨j + 1, m + 2, by omega, by have := xU HMM; omega, by go_num, by go_num, by rw [Nat.add_mul]; exact HS2, xU HX2⟩
      case measure => simp [intOf]; omega
    · go_wp2_with fail
      go_ret
      obtain rfl : j = n := by omega
      exact ⟨by rw [hm]; rfl, hs_of_cells hlen HC.out, HX.out⟩
end Go.Proofs.YtibgjcejddpldaaGreat
