/- The specification's RecUnpack: a record while it is read, and the drawn region in which an event is read. No conditions. -/
import Derived.Test.YtiflfcjocngiiaaGreatDoorPart32
import Derived.Test.YtiflfcjocngiiaaGreatDoorPart27
import Derived.Test.YtiflfcjocngiiaaGreatDoorPart35
import Derived.Test.YtiflfcjocngiiaaGreatDoorPart19
import Derived.Test.YtiflfcjocngiiaaGreatDoorPart03
import Derived.Test.YtiflfcjocngiiaaGreatDoorPart25
import Derived.Deep.CutRange
namespace Go.Proofs.YtiflfcjocngiiaaGreatDoor
open Go Go.RowKit

theorem ldIntU (w : World) (ad : Addr) (v : Value) (h : w.cell? ad = some v) : (Instr.loadAt 3 (.pointer (some ad))).run Tryz.prog w = .ok v w := by
  simp [Instr.loadAt, Instr.sureAddr, loadVar, Tryz.isAgg3, h, go_sem]
theorem set7u (W : World) (b : Nat) (x0 x1 x2 x3 x4 x5 x6 : Value) : But b W (W.setCells b 0 [x0, x1, x2, x3, x4, x5, x6]) ∧ (∀ T f, W.rowIs b T 7 f → (W.setCells b 0 [x0, x1, x2, x3, x4, x5, x6]).rowIs b T 7 (row7 x0 x1 x2 x3 x4 x5 x6)) := by
  show But b W (((((((W.setCell ⟨b, 0, none⟩ x0).setCell ⟨b, 1, none⟩ x1).setCell ⟨b, 2, none⟩ x2).setCell ⟨b, 3, none⟩ x3).setCell ⟨b, 4, none⟩ x4).setCell ⟨b, 5, none⟩ x5).setCell ⟨b, 6, none⟩ x6) ∧ (∀ T f, W.rowIs b T 7 f → (((((((W.setCell ⟨b, 0, none⟩ x0).setCell ⟨b, 1, none⟩ x1).setCell ⟨b, 2, none⟩ x2).setCell ⟨b, 3, none⟩ x3).setCell ⟨b, 4, none⟩ x4).setCell ⟨b, 5, none⟩ x5).setCell ⟨b, 6, none⟩ x6).rowIs b T 7 (row7 x0 x1 x2 x3 x4 x5 x6))
  exact ⟨((((((But.set W 0 x0).trans (But.set _ 1 x1)).trans (But.set _ 2 x2)).trans (But.set _ 3 x3)).trans (But.set _ 4 x4)).trans (But.set _ 5 x5)).trans (But.set _ 6 x6), fun T f h => (((((((h.set 0 x0).set 1 x1).set 2 x2).set 3 x3).set 4 x4).set 5 x5).set 6 x6).congr (fun i hi => by rcases (show i = 0 ∨ i = 1 ∨ i = 2 ∨ i = 3 ∨ i = 4 ∨ i = 5 ∨ i = 6 by omega) with rfl | rfl | rfl | rfl | rfl | rfl | rfl <;> rfl)⟩
theorem there7 {w : World} {b : Nat} {T : TypeId} {n : Nat} {f : Nat → Value} (h : w.rowIs b T n f) : w.there b 0 n := fun j hj => by
  rw [Nat.zero_add]
  exact ⟨by rw [h.cell hj]; rfl, h.frozen j⟩
theorem sizeEv : (Tryz.prog.info? 41).map (·.size) = some 7 := by kernel_rfl
theorem convOp {o : Oper} {a : Act} {X : Operand} {T U : TypeId} {u v : Value} {W W' : World} (ho : o.op = .convert T U X) (hx : a.eval X = u) (h : (convert T U u).run Tryz.prog W = .ok v W') : (execOp a.eval o).run Tryz.prog W = .ok (.value v) W' := by
  unfold execOp
  simp only [ho, hx, Sem.run_bind, Sem.run_pure, Result.andThen_ok, h]
theorem cutOp {o : Oper} {a : Act} {X I J : Operand} {T : TypeId} {s : ByteArray} {i n : Nat} (ho : o.op = .slice T X (some I) (some J) none) (hx : a.eval X = .string s) (hi : a.eval I = .int .i64 (i : Nat)) (hj : a.eval J = .int .i64 (IntKind.i64.wrap ((i : Int) + (n : Int)))) (hT : Tryz.prog.underlying T = some .string) (h : i + n ≤ s.size) (hs : s.size ≤ 1048576) (W : World) : (execOp a.eval o).run Tryz.prog W = .ok (.value (.string (s.extract i (i + n)))) W := by
  have hw : IntKind.i64.wrap ((i : Int) + (n : Int)) = ((i + n : Nat) : Int) := by rw [IntKind.wrap_i64]; omega
  have h1 := run_slice_string (P := Tryz.prog) (w := W) T s .i64 .i64 (i : Int) ((i + n : Nat) : Int) hT (by omega) (by omega) (by omega)
  rw [Int.toNat_natCast, Int.toNat_natCast] at h1
  rw [hw] at hj
  unfold execOp
  simp only [ho, hx, hi, hj, Sem.run_bind, Sem.run_pure, Option.map_some, Option.map_none, Instr.sliceAt, run_underlying hT, h1, Result.andThen_ok]
/-- What reading an event comes to, its seven cells. -/
def UpG (lo : Nat) (N : Nat → Prop) (W : World) (b : List UInt8) (x0 x1 x2 x3 x4 x5 x6 : Value) (ok : Bool) : Prop :=
  (#[x0, x1, x2, x3, x4, x5, x6] : Array Value).all (·.oneCell') = true ∧
  ((ok = true ∧ ∃ (ty : ByteArray) (ver : Int) (t : Tr) (a3 a4 : Option Addr) (p3 p4 : Nat) (F : List Nat), x0 = .string ty ∧ x1 = .int .i64 ver ∧ x2 = .int .i64 t.sort ∧ x3 = .int .i64 t.num ∧ x4 = .string t.text ∧ x5 = .slice a3 t.names.length p3 ∧ x6 = .slice a4 t.kids.length p4 ∧ Own W t ⟨.int .i64 t.sort, .int .i64 t.num, .string t.text, .slice a3 t.names.length p3, .slice a4 t.kids.length p4⟩ F ∧ F.Nodup ∧ (∀ x, x ∈ F → lo ≤ x ∧ x < W.heap.size ∧ N x) ∧ UpE b ty ver t) ∨
  (ok = false ∧ x0 = .string ByteArray.empty ∧ x1 = .int .i64 0 ∧ x2 = .int .i64 0 ∧ x3 = .int .i64 0 ∧ x4 = .string ByteArray.empty ∧ x5 = .slice none 0 0 ∧ x6 = .slice none 0 0 ∧ ∀ ty ver t, ¬ UpE b ty ver t))
theorem UpG.on {lo : Nat} {N M : Nat → Prop} {W W' : World} {b : List UInt8} {x0 x1 x2 x3 x4 x5 x6 : Value} {ok : Bool} (h : UpG lo N W b x0 x1 x2 x3 x4 x5 x6 ok) (hs : W.heap.size ≤ W'.heap.size) (hk : ∀ x, lo ≤ x → x < W.heap.size → N x → W'.heap[x]? = W.heap[x]? ∧ M x) : UpG lo M W' b x0 x1 x2 x3 x4 x5 x6 ok := by
  obtain ⟨h1, h2⟩ := h
  refine ⟨h1, ?_⟩
  rcases h2 with ⟨e, ty, ver, t, a3, a4, p3, p4, F, g0, g1, g2, g3, g4, g5, g6, ho, hnd, hF, hu⟩ | h2
  · exact Or.inl ⟨e, ty, ver, t, a3, a4, p3, p4, F, g0, g1, g2, g3, g4, g5, g6, Own.carry _ _ _ (fun x hx => (hk x (hF x hx).1 (hF x hx).2.1 (hF x hx).2.2).1) ho, hnd, fun x hx => ⟨(hF x hx).1, by have := (hF x hx).2.1; omega, (hk x (hF x hx).1 (hF x hx).2.1 (hF x hx).2.2).2⟩, hu⟩
  · exact Or.inr h2
/-- What the specification's EventUnpack comes to, so said. -/
theorem UpEnd.open {w w' : World} {b : List UInt8} {e : Ending} (h : UpEnd w w' b e) : Below w.heap.size w w' ∧ ∃ x0 x1 x2 x3 x4 x5 x6 ok, e = .returned (.tuple #[.agg #[x0, x1, x2, x3, x4, x5, x6], .bool ok]) ∧ UpG w.heap.size (fun _ => True) w' b x0 x1 x2 x3 x4 x5 x6 ok := by
  obtain ⟨hb, ⟨ty, ver, t, c, F, rfl, ho, hnd, hF, hu⟩ | ⟨rfl, hno⟩⟩ := h
  · obtain ⟨e0, e1, e2, -, -, -, F1, F2, -, hn3, hk4⟩ := ho.open
    obtain ⟨c0, c1, c2, c3, c4⟩ := c
    simp only at e0 e1 e2 hn3 hk4
    obtain ⟨a3, p3, g3, -, -⟩ := hn3
    obtain ⟨a4, p4, g4, -, -⟩ := hk4
    subst e0 e1 e2 g3 g4
    exact ⟨hb, _, _, _, _, _, _, _, _, rfl, by rw [← Array.all_toList]; rfl, Or.inl ⟨rfl, ty, ver, t, a3, a4, p3, p4, F, rfl, rfl, rfl, rfl, rfl, rfl, rfl, ho, hnd, fun x hx => ⟨(hF x hx).1, (hF x hx).2, trivial⟩, hu⟩⟩
  · exact ⟨hb, _, _, _, _, _, _, _, _, rfl, by rw [← Array.all_toList]; rfl, Or.inr ⟨rfl, rfl, rfl, rfl, rfl, rfl, rfl, rfl, hno⟩⟩
theorem ext_list (s : ByteArray) (a n : Nat) (_ : a + n ≤ s.size) : (s.extract a (a + n)).data.toList = (s.data.toList.drop a).take n := by
  rw [ByteArray.data_extract, Array.toList_extract]
  simp [List.extract]
theorem below_box {B W : World} {g : Nat} (h : Below B.heap.size B W) (hg : B.heap.size ≤ g) {W' : World} (hb : But g W W') : Below B.heap.size B W' := h.trans ⟨hb.os, hb.tape, hb.output, hb.size, fun i hi => hb.at (by have := h.size; omega) (by omega)⟩
theorem below_on {B W W' : World} (h : Below B.heap.size B W) (hb : Below W.heap.size W W') : Below B.heap.size B W' := h.trans (hb.mono h.size)
def kp12 (z : Nat → Value) : List (Nat × Value) := [0, 2, 3, 4, 5, 7, 8, 12, 13, 14, 15, 16, 17, 18, 19, 20, 21, 22, 23, 24, 25, 26, 27, 28, 29, 30, 31, 32, 33, 34, 35, 36, 37, 38, 39, 40, 41, 42, 43, 44, 45, 46, 47, 48, 49, 50, 51, 52, 53, 54, 55, 56, 57, 58, 59, 77, 78, 79, 80, 81, 82, 83, 84, 85, 86, 87, 88, 89, 90, 91, 92, 93, 94, 95, 96, 97, 98, 99, 100, 101, 102, 103, 104, 105, 106, 107, 108, 109, 110].map fun i => (i, z i)
noncomputable def ru12Ops : Array Oper := fops Tryz.f4 12
theorem ru12_neat : Region.noSelect ru12Ops = true ∧ neat ru12Ops = true := ⟨by kernel_rfl, by kernel_rfl⟩
theorem lo_mono {lo lo' : Nat} {N : Nat → Prop} {W : World} {b : List UInt8} {x0 x1 x2 x3 x4 x5 x6 : Value} {ok : Bool} (hl : lo ≤ lo') (hN : ∀ x, lo' ≤ x → N x) (h : UpG lo' (fun _ => True) W b x0 x1 x2 x3 x4 x5 x6 ok) : UpG lo N W b x0 x1 x2 x3 x4 x5 x6 ok := by
  obtain ⟨h1, h2⟩ := h
  refine ⟨h1, ?_⟩
  rcases h2 with ⟨e, ty, ver, t, a3, a4, p3, p4, F, g0, g1, g2, g3, g4, g5, g6, ho, hnd, hF, hu⟩ | h2
  · exact Or.inl ⟨e, ty, ver, t, a3, a4, p3, p4, F, g0, g1, g2, g3, g4, g5, g6, ho, hnd, fun x hx => ⟨by have := (hF x hx).1; omega, (hF x hx).2.1, hN x (hF x hx).1⟩, hu⟩
  · exact Or.inr h2
set_option maxRecDepth 100000 in
set_option maxHeartbeats 3200000 in
theorem ru12z (z : Nat → Value) (LL : (Nat → Value) → Nat → Bool → List Value) (R : Nat) (s : ByteArray) (a n : Nat) (v x2 : Value) (W0 : World) {l : List Value} (Q : Exit → Act → World → Prop) (hQ : ∀ c a d v w, Q (.panic c) (Act.put a d v) w → Q (.panic c) a w) (ha : a + n ≤ s.size) (hs : s.size ≤ 1048576) (hR : W0.drew.rowIs R 33 3 (row3 v (.int .i64 (a : Nat)) x2)) (hl : lookL (kp12 z ++ [(1, .string s), (6, .pointer (some ⟨R, 0, none⟩)), (9, .int .i64 (n : Nat))]) l = (111, (kp12 z ++ [(1, .string s), (6, .pointer (some ⟨R, 0, none⟩)), (9, .int .i64 (n : Nat))] : List (Nat × Value)).map (·.2))) (hfr : ∀ (u : Nat → Value) (g : Nat) (ok : Bool), frL u 111 (kp12 z ++ [(1, .string s), (6, .pointer (some ⟨R, 0, none⟩)), (9, .int .i64 (n : Nat)), (10, .pointer (some ⟨g, 0, none⟩)), (11, .bool ok)]) = LL u g ok)
    (hend : ∀ (u : Nat → Value) (x0 x1 x2 x3 x4 x5 x6 : Value) (ok : Bool) (g : Nat) (W' : World), Below W0.drew.heap.size W0.drew W' → W'.rowIs g 41 7 (row7 x0 x1 x2 x3 x4 x5 x6) → W0.drew.heap.size ≤ g → UpG W0.drew.heap.size (fun x => x ≠ g) W' ((s.data.toList.drop a).take n) x0 x1 x2 x3 x4 x5 x6 ok → Q .normal ⟨(LL u g ok).toArray, []⟩ W') : (Code.region 12 ru12Ops true).wp Tryz.prog Q ⟨l.toArray, []⟩ W0 := by
  obtain ⟨v0, rfl⟩ := look_fr hl
  have hq : NtQ ru12Ops Q := ⟨ru12_neat, hQ⟩
  refine T_start (S := fun W => Below W0.drew.heap.size W0.drew W) (by kernel_rfl) (Below.refl _ _) ?_
  clear hl hQ
  generalize W0.drew = B at hR hend ⊢
  have Q2 : ∀ (u : Nat → Value) (W : World) (hW : Below B.heap.size B W) (g : Nat) (hg : W.rowIs g 41 7 (row7 (.string ByteArray.empty) (.int .i64 0) (.int .i64 0) (.int .i64 0) (.string ByteArray.empty) (.slice none 0 0) (.slice none 0 0))) (hgb : B.heap.size ≤ g) (x0 x1 x2 x3 x4 x5 x6 : Value) (ok : Bool) (hup : UpG B.heap.size (fun x => x ≠ g) W ((s.data.toList.drop a).take n) x0 x1 x2 x3 x4 x5 x6 ok) , wpS Tryz.prog ru12Ops Q (fun W => Below B.heap.size B W) (unl 20 [18, 19], frL u 111 (kp12 z ++ [(1, .string s), (6, .pointer (some ⟨R, 0, none⟩)), (9, .int .i64 (n : Nat)), (10, .pointer (some ⟨g, 0, none⟩)), (75, .agg #[x0, x1, x2, x3, x4, x5, x6]), (76, .bool ok)])) [] W := by
    intro u W hW g hg hgb x0 x1 x2 x3 x4 x5 x6 ok hup 
    refine T_one 18 (by kernel_rfl) fun _ => ?_
    have hs7 := set7u W g x0 x1 x2 x3 x4 x5 x6
    have hW2 := below_box hW hgb hs7.1
    refine O_store_mid none 41 (.tmp 10) (.tmp 75) g 0 #[x0, x1, x2, x3, x4, x5, x6] (by kernel_rfl) (by kernel_rfl) (by kernel_rfl) (there7 hg) sizeEv hup.1 hW2 ?_
    refine T_z hq [19] (by kernel_rfl) ?_
    exact T_end 111 (kp12 z ++ [(1, .string s), (6, .pointer (some ⟨R, 0, none⟩)), (9, .int .i64 (n : Nat)), (10, .pointer (some ⟨g, 0, none⟩)), (11, .bool ok)]) (by kernel_rfl) (by kernel_rfl) fun _ u => by rw [hfr]; exact hend u x0 x1 x2 x3 x4 x5 x6 ok g _ hW2 (hs7.2 _ _ hg) hgb (hup.on hs7.1.size (fun x _ hx hn => ⟨hs7.1.at hx hn, hn⟩))
  have P2 : ∀ (u : Nat → Value) (W : World) (hW : Below B.heap.size B W) (x0 x1 x2 x3 x4 x5 x6 : Value) (ok : Bool) (hup : UpG B.heap.size (fun _ => True) W ((s.data.toList.drop a).take n) x0 x1 x2 x3 x4 x5 x6 ok) , wpS Tryz.prog ru12Ops Q (fun W => Below B.heap.size B W) (unl 20 [17, 18, 19], frL u 111 (kp12 z ++ [(1, .string s), (6, .pointer (some ⟨R, 0, none⟩)), (9, .int .i64 (n : Nat)), (75, .agg #[x0, x1, x2, x3, x4, x5, x6]), (76, .bool ok)])) [] W := by
    intro u W hW x0 x1 x2 x3 x4 x5 x6 ok hup 
    refine T_one 17 (by kernel_rfl) fun _ => ?_
    exact O_val (w' := W.alloc (.cells z7 41)) (some 10) (.pointer (some ⟨W.heap.size, 0, none⟩)) (by kernel_rfl) (by kernel_rfl) (hW.alloc hW.size _) (T_fr 20 111 [18, 19] (kp12 z ++ [(1, .string s), (6, .pointer (some ⟨R, 0, none⟩)), (9, .int .i64 (n : Nat)), (10, .pointer (some ⟨W.heap.size, 0, none⟩)), (75, .agg #[x0, x1, x2, x3, x4, x5, x6]), (76, .bool ok)]) (by kernel_rfl) fun u => Q2 u _ (hW.alloc hW.size _) _ (row7_alloc W _ _ _ _ _ _ _ _) hW.size x0 x1 x2 x3 x4 x5 x6 ok (hup.on (by simp) (fun x _ hx _ => ⟨Below.heap_alloc _ _ _ hx, by omega⟩)))
  have Q1 : ∀ (u : Nat → Value) (W : World) (hW : Below B.heap.size B W) (g : Nat) (hg : W.rowIs g 41 7 (row7 (.string ByteArray.empty) (.int .i64 0) (.int .i64 0) (.int .i64 0) (.string ByteArray.empty) (.slice none 0 0) (.slice none 0 0))) (hgb : B.heap.size ≤ g) (h m cap : Nat) (hby : ByIn W (.slice (some ⟨h, 0, none⟩) m cap) ((s.data.toList.drop a).take n)) , wpS Tryz.prog ru12Ops Q (fun W => Below B.heap.size B W) (unl 20 [13, 14, 15, 16, 18, 19], frL u 111 (kp12 z ++ [(1, .string s), (6, .pointer (some ⟨R, 0, none⟩)), (9, .int .i64 (n : Nat)), (10, .pointer (some ⟨g, 0, none⟩)), (73, .slice (some ⟨h, 0, none⟩) m cap)])) [] W := by
    intro u W hW g hg hgb h m cap hby 
    refine T_one 13 (by kernel_rfl) fun _ => ?_
    · refine O_go (specEventUnpack_in W _ _ hby (by rw [List.length_take, List.length_drop]; have : s.data.toList.length = s.size := (by rw [Array.length_toList]; rfl); omega)) (by kernel_rfl) ?_
      intro e W1 hE
      obtain ⟨hb1, x0, x1, x2, x3, x4, x5, x6, ok, rfl, hup⟩ := hE.open
      exact ⟨_, rfl, below_on hW hb1, T_z hq [14, 15, 16] (by kernel_rfl) (T_fr 20 111 [18, 19] (kp12 z ++ [(1, .string s), (6, .pointer (some ⟨R, 0, none⟩)), (9, .int .i64 (n : Nat)), (10, .pointer (some ⟨g, 0, none⟩)), (75, .agg #[x0, x1, x2, x3, x4, x5, x6]), (76, .bool ok)]) (by kernel_rfl) fun u => Q2 u W1 (below_on hW hb1) g (hg.of_block (hb1.block _ hg.lt)) hgb x0 x1 x2 x3 x4 x5 x6 ok (lo_mono hW.size (fun x h1 => by have := hg.lt; omega) hup))⟩
  have P1 : ∀ (u : Nat → Value) (W : World) (hW : Below B.heap.size B W) (h m cap : Nat) (hby : ByIn W (.slice (some ⟨h, 0, none⟩) m cap) ((s.data.toList.drop a).take n)) , wpS Tryz.prog ru12Ops Q (fun W => Below B.heap.size B W) (unl 20 [13, 14, 15, 16, 17, 18, 19], frL u 111 (kp12 z ++ [(1, .string s), (6, .pointer (some ⟨R, 0, none⟩)), (9, .int .i64 (n : Nat)), (73, .slice (some ⟨h, 0, none⟩) m cap)])) [] W := by
    intro u W hW h m cap hby 
    refine T_two 13 17 (by kernel_rfl) (fun _ => ?_) fun _ => ?_
    · refine O_go (specEventUnpack_in W _ _ hby (by rw [List.length_take, List.length_drop]; have : s.data.toList.length = s.size := (by rw [Array.length_toList]; rfl); omega)) (by kernel_rfl) ?_
      intro e W1 hE
      obtain ⟨hb1, x0, x1, x2, x3, x4, x5, x6, ok, rfl, hup⟩ := hE.open
      exact ⟨_, rfl, below_on hW hb1, T_z hq [14, 15, 16] (by kernel_rfl) (T_fr 20 111 [17, 18, 19] (kp12 z ++ [(1, .string s), (6, .pointer (some ⟨R, 0, none⟩)), (9, .int .i64 (n : Nat)), (75, .agg #[x0, x1, x2, x3, x4, x5, x6]), (76, .bool ok)]) (by kernel_rfl) fun u => P2 u W1 (below_on hW hb1) x0 x1 x2 x3 x4 x5 x6 ok (lo_mono hW.size (fun _ _ => trivial) hup))⟩
    · exact O_val (w' := W.alloc (.cells z7 41)) (some 10) (.pointer (some ⟨W.heap.size, 0, none⟩)) (by kernel_rfl) (by kernel_rfl) (hW.alloc hW.size _) (T_fr 20 111 [13, 14, 15, 16, 18, 19] (kp12 z ++ [(1, .string s), (6, .pointer (some ⟨R, 0, none⟩)), (9, .int .i64 (n : Nat)), (10, .pointer (some ⟨W.heap.size, 0, none⟩)), (73, .slice (some ⟨h, 0, none⟩) m cap)]) (by kernel_rfl) fun u => Q1 u _ (hW.alloc hW.size _) _ (row7_alloc W _ _ _ _ _ _ _ _) hW.size h m cap (hby.alloc _))
  have Q0 : ∀ (u : Nat → Value) (W : World) (hW : Below B.heap.size B W) (g : Nat) (hg : W.rowIs g 41 7 (row7 (.string ByteArray.empty) (.int .i64 0) (.int .i64 0) (.int .i64 0) (.string ByteArray.empty) (.slice none 0 0) (.slice none 0 0))) (hgb : B.heap.size ≤ g) , wpS Tryz.prog ru12Ops Q (fun W => Below B.heap.size B W) (unl 20 [12, 13, 14, 15, 16, 18, 19], frL u 111 (kp12 z ++ [(1, .string s), (6, .pointer (some ⟨R, 0, none⟩)), (9, .int .i64 (n : Nat)), (10, .pointer (some ⟨g, 0, none⟩)), (72, .string (s.extract a (a + n)))])) [] W := by
    intro u W hW g hg hgb 
    refine T_one 12 (by kernel_rfl) fun _ => ?_
    · obtain ⟨cap, W1, hconv, hby, hb1, -⟩ := conv_in W (s.extract a (a + n)) (by rw [ByteArray.size_extract]; omega)
      rw [ext_list s a n ha] at hby
      exact O_val (some 73) _ (by kernel_rfl) (convOp (X := .tmp 72) (by kernel_rfl) (by kernel_rfl) hconv) (below_on hW hb1) (T_fr 20 111 [13, 14, 15, 16, 18, 19] (kp12 z ++ [(1, .string s), (6, .pointer (some ⟨R, 0, none⟩)), (9, .int .i64 (n : Nat)), (10, .pointer (some ⟨g, 0, none⟩)), (73, .slice (some ⟨W.heap.size, 0, none⟩) (s.extract a (a + n)).size cap)]) (by kernel_rfl) fun u => Q1 u W1 (below_on hW hb1) g (hg.of_block (hb1.block _ hg.lt)) hgb _ _ cap hby)
  have P0 : ∀ (u : Nat → Value) (W : World) (hW : Below B.heap.size B W) , wpS Tryz.prog ru12Ops Q (fun W => Below B.heap.size B W) (unl 20 [12, 13, 14, 15, 16, 17, 18, 19], frL u 111 (kp12 z ++ [(1, .string s), (6, .pointer (some ⟨R, 0, none⟩)), (9, .int .i64 (n : Nat)), (72, .string (s.extract a (a + n)))])) [] W := by
    intro u W hW 
    refine T_two 12 17 (by kernel_rfl) (fun _ => ?_) fun _ => ?_
    · obtain ⟨cap, W1, hconv, hby, hb1, -⟩ := conv_in W (s.extract a (a + n)) (by rw [ByteArray.size_extract]; omega)
      rw [ext_list s a n ha] at hby
      exact O_val (some 73) _ (by kernel_rfl) (convOp (X := .tmp 72) (by kernel_rfl) (by kernel_rfl) hconv) (below_on hW hb1) (T_fr 20 111 [13, 14, 15, 16, 17, 18, 19] (kp12 z ++ [(1, .string s), (6, .pointer (some ⟨R, 0, none⟩)), (9, .int .i64 (n : Nat)), (73, .slice (some ⟨W.heap.size, 0, none⟩) (s.extract a (a + n)).size cap)]) (by kernel_rfl) fun u => P1 u W1 (below_on hW hb1) _ _ cap hby)
    · exact O_val (w' := W.alloc (.cells z7 41)) (some 10) (.pointer (some ⟨W.heap.size, 0, none⟩)) (by kernel_rfl) (by kernel_rfl) (hW.alloc hW.size _) (T_fr 20 111 [12, 13, 14, 15, 16, 18, 19] (kp12 z ++ [(1, .string s), (6, .pointer (some ⟨R, 0, none⟩)), (9, .int .i64 (n : Nat)), (10, .pointer (some ⟨W.heap.size, 0, none⟩)), (72, .string (s.extract a (a + n)))]) (by kernel_rfl) fun u => Q0 u _ (hW.alloc hW.size _) _ (row7_alloc W _ _ _ _ _ _ _ _) hW.size )
  refine T_z hq [0, 1, 2, 3, 5, 6, 7, 9] (by kernel_rfl) ?_
  refine T_a hq [4, 8] (fun w' h => .cons (ldIntU _ _ _ ((hR.of_block (h.block _ hR.lt)).cell (i := 1) (by omega))) (.cons (ldIntU _ _ _ ((hR.of_block (h.block _ hR.lt)).cell (i := 1) (by omega))) Lds.nil)) (by kernel_rfl) ?_
  refine T_z hq [10] (by kernel_rfl) ?_
  refine T_yld hq 11 (some 72) (.string (s.extract a (a + n))) (by kernel_rfl) (by kernel_rfl) (fun W _ => cutOp (T := 9) (X := .tmp 61) (I := .tmp 65) (J := .tmp 71) (by kernel_rfl) (by kernel_rfl) (by kernel_rfl) (by kernel_rfl) (by kernel_rfl) ha hs W) ?_
  exact T_fr 20 111 [12, 13, 14, 15, 16, 17, 18, 19] (kp12 z ++ [(1, .string s), (6, .pointer (some ⟨R, 0, none⟩)), (9, .int .i64 (n : Nat)), (72, .string (s.extract a (a + n)))]) (by kernel_rfl) fun u => P0 u _ (Below.refl _ _)
theorem ru12 (R : Nat) (s : ByteArray) (a n : Nat) (v x2 : Value) (W0 : World) {l : List Value} (Q : Exit → Act → World → Prop) (hQ : ∀ c a d v w, Q (.panic c) (Act.put a d v) w → Q (.panic c) a w) (ha : a + n ≤ s.size) (hs : s.size ≤ 1048576) (hR : W0.drew.rowIs R 33 3 (row3 v (.int .i64 (a : Nat)) x2)) (hl : lookL (kp12 (fun i => l.getD i undef) ++ [(1, .string s), (6, .pointer (some ⟨R, 0, none⟩)), (9, .int .i64 (n : Nat))]) l = (111, (kp12 (fun i => l.getD i undef) ++ [(1, .string s), (6, .pointer (some ⟨R, 0, none⟩)), (9, .int .i64 (n : Nat))] : List (Nat × Value)).map (·.2))) (hfr : ∀ (u : Nat → Value) (g : Nat) (ok : Bool), frL u 111 (kp12 (fun i => l.getD i undef) ++ [(1, .string s), (6, .pointer (some ⟨R, 0, none⟩)), (9, .int .i64 (n : Nat)), (10, .pointer (some ⟨g, 0, none⟩)), (11, .bool ok)]) = l.take 10 ++ .pointer (some ⟨g, 0, none⟩) :: .bool ok :: ((l.drop 12).take 48 ++ (u 60 :: u 61 :: u 62 :: u 63 :: u 64 :: u 65 :: u 66 :: u 67 :: u 68 :: u 69 :: u 70 :: u 71 :: u 72 :: u 73 :: u 74 :: u 75 :: u 76 :: l.drop 77)))
    (hend : ∀ (u : Nat → Value) (x0 x1 x2 x3 x4 x5 x6 : Value) (ok : Bool) (g : Nat) (W' : World), Below W0.drew.heap.size W0.drew W' → W'.rowIs g 41 7 (row7 x0 x1 x2 x3 x4 x5 x6) → W0.drew.heap.size ≤ g → UpG W0.drew.heap.size (fun x => x ≠ g) W' ((s.data.toList.drop a).take n) x0 x1 x2 x3 x4 x5 x6 ok → Q .normal ⟨(l.take 10 ++ .pointer (some ⟨g, 0, none⟩) :: .bool ok :: ((l.drop 12).take 48 ++ (u 60 :: u 61 :: u 62 :: u 63 :: u 64 :: u 65 :: u 66 :: u 67 :: u 68 :: u 69 :: u 70 :: u 71 :: u 72 :: u 73 :: u 74 :: u 75 :: u 76 :: l.drop 77))).toArray, []⟩ W') : (Code.region 12 ru12Ops true).wp Tryz.prog Q ⟨l.toArray, []⟩ W0 :=
  ru12z (fun i => l.getD i undef) (fun u g ok => l.take 10 ++ .pointer (some ⟨g, 0, none⟩) :: .bool ok :: ((l.drop 12).take 48 ++ (u 60 :: u 61 :: u 62 :: u 63 :: u 64 :: u 65 :: u 66 :: u 67 :: u 68 :: u 69 :: u 70 :: u 71 :: u 72 :: u 73 :: u 74 :: u 75 :: u 76 :: l.drop 77))) R s a n v x2 W0 Q hQ ha hs hR hl hfr hend
end Go.Proofs.YtiflfcjocngiiaaGreatDoor

/- The walks of the specification's l61Text, RecOk, RecPack. No conditions. -/

namespace Go.Proofs.YtiflfcjocngiiaaGreatDoor
open Go Go.RowKit

set_option maxRecDepth 100000 in
set_option maxHeartbeats 3200000 in
theorem l61Text_any (pos : Int) (key : ByteArray) (es : List Ev) (P : Nat → Prop) (v : Value) (w : World) (hP : ∀ b, P b → b < w.heap.size) (hv : EvsAt P w v es) (hk : key.size ≤ 8) (hn : es.length ≤ 40) :
    Calls Tryz.prog 26 #[.agg #[.int .i64 pos, .string key, v]] w fun e w' => e = .returned (.string (bA (recB key es))) ∧ Below w.heap.size w w' := by
  obtain ⟨W0, hW0⟩ : ∃ W0, w.alloc (.cells #[.int .i64 pos, .string key, v] 24) = W0 := ⟨_, rfl⟩
  have hb0 : Below w.heap.size w W0 := by rw [← hW0]; exact (Below.refl _ _).alloc (Nat.le_refl _) _
  have hr0 : W0.rowIs w.heap.size 24 3 (row3 (.int .i64 pos) (.string key) v) := by rw [← hW0]; exact row3_alloc w _ _ _ _
  obtain ⟨a, cap, rfl, -, hc⟩ := hv
  have HC := hide hc; have HP := hide hP
  clear hc hP
  have k1 := hr0.cell (i := 1) (by omega); have k2 := hr0.cell (i := 2) (by omega)
  simp only [row3] at k1 k2
  have k1a := fun o => (show (W0.alloc o).cell? ⟨w.heap.size, 1, none⟩ = some (.string key) from (((Below.refl _ W0).alloc (Nat.le_refl _) o).cell (World.block_lt_of_cell? W0 _ k1)).trans k1)
  have k2a := fun o => (show (W0.alloc o).cell? ⟨w.heap.size, 2, none⟩ = some (.slice a es.length cap) from (((Below.refl _ W0).alloc (Nat.le_refl _) o).cell (World.block_lt_of_cell? W0 _ k2)).trans k2)
  have HSH := hide (fun W => l4Short_any key W (by omega))
  have HB0 := hide hb0; have HR0 := hide hr0
  have hsz1 : ¬ ((9223372036854775807 : Int) < ((bA (shortB key)).size : Int) + ((bA [UInt8.ofNat es.length]).size : Int)) := by rw [bA_size, bA_size, shortB_len]; simp; omega
  have hsz1' : ¬ ((9223372036854775807 : Nat) < (bA (shortB key)).size + (bA [UInt8.ofNat es.length]).size) := by rw [bA_size, bA_size, shortB_len]; simp; omega
  have hwu : IntKind.u8.wrap (es.length : Int) = (es.length : Int) := by rw [IntKind.wrap_u8]; omega
  have HEL := hide (show (((es.length : Nat) : Int)).toNat = es.length from Int.toNat_natCast _)
  clear hb0 hr0
  subst hW0
  go_enter Tryz.func26, Tryz.ntmps26
  generalize hW0 : w.alloc (.cells #[.int .i64 pos, .string key, .slice a es.length cap] 24) = W0 at *
  have hcz := conv_cell1 (w' := (W0.alloc (.cells #[.int .u8 (es.length : Int)] 5)).drew) (g := W0.heap.size) (a := (es.length : Int)) (by go_simp) (by omega)
  simp only [Int.toNat_natCast] at hcz
  go_upto_region 1 with fail
  go_cut [3] from 6 (fun s wx => s = .string (bA (headT key es.length)) ∧ Hid (Below W0.heap.size W0 wx))
  case first =>
    go_region_with (go_at_call 44
                    refine (unhide HSH _).mono ?_
                    rintro e w1 ⟨a1, n1, cap1, rfl, hn1, hrow1, hb1⟩
                    have hst := hrow1.strA
                    have hsta := fun o => hrow1.strB o
                    have j2 : w1.cell? ⟨w.heap.size, 2, none⟩ = some (.slice a es.length cap) := by rw [hb1.cell (by first | exact World.block_lt_of_cell? _ _ k2 | exact World.block_lt_of_cell? _ _ (k2a _))]; first | exact k2 | exact k2a _
                    try (have hcc : w1.cell? ⟨W0.heap.size, 0, none⟩ = some (.int .u8 (es.length : Int)) := by (rw [hb1.cell (by simp)]; go_simp)
                         have hcv := conv_cell1 hcc (by omega)
                         simp only [Int.toNat_natCast] at hcv)
                    have hcw := fun (x : Int) (hx : 0 ≤ x ∧ x < 256) => conv_kept1 (Below.refl (w1.alloc (.cells #[.int .u8 x] 5)).heap.size (w1.alloc (.cells #[.int .u8 x] 5))) hx
                    have hcw := hcw (es.length : Int) (by omega)
                    simp only [Int.toNat_natCast] at hcw
                    have HB1 := hide hb1
                    clear hn1 hrow1 hb1)
    all_goals
      go_wp2_with fail
      go_meet
      case rel => exact ⟨by rw [bA_append]; rfl, by first | exact bc1 (unhide HB1) | exact bc2 (unhide HB1)⟩
  case rest =>
    obtain ⟨rfl, HBc⟩ := hcut
    clear k1 k2 k1a k2a HSH hsz1 hsz1' hwu hcz HEL
    have HHT := hide (show (headT key es.length).length ≤ 10 by unfold headT; rw [List.length_append, shortB_len]; simp; omega)
    go_wp2_with fail
    go_loopw [3, 4] (fun s i wr => ∃ (k : Nat) (S : ByteArray), k ≤ es.length ∧ i = .int .i64 k ∧ s = .string S ∧ Hid (S = bA (headT key es.length ++ evsB (es.take k))) ∧ Hid (Below W0.heap.size W0 wr)) (fun _ i _ => es.length - (intOf i).toNat)
    case atStart => exact ⟨0, _, Nat.zero_le _, rfl, rfl, hide (by simp [evsB]), HBc⟩
    case round =>
      obtain ⟨k, S, hk', rfl, rfl, HS, HB⟩ := hrel
      have hb := HB.out
      have hrow := (unhide HR0).of_block (hb.block _ (unhide HR0).lt)
      have k2 := hrow.cell (i := 2) (by omega)
      simp only [row3] at k2
      by_cases hlt : k < es.length
      · obtain ⟨b, o, rfl, hpb, c, hcell, hrep, hty, hver⟩ := unhide HC k hlt
        have hb0 := (unhide HB0).trans (hb.mono (unhide HB0).size)
        have hcell' := hcell.carry (hb0.block b (unhide HP b hpb))
        obtain ⟨c0, c1, c2, c3, c4⟩ := c
        obtain ⟨e0, e1, e2, e3, e4, e5, e6⟩ := hcell'
        simp only at e0 e1 e2 e3 e4 e5 e6
        have HCALL := hide (specEventPack_any es[k].ty es[k].ver es[k].t P ⟨c0, c1, c2, c3, c4⟩ wr (fun b hb' => Nat.lt_of_lt_of_le (unhide HP b hb') hb0.size) (Rep.carry (fun b hb' => hb0.block b (unhide HP b hb')) (fun _ h => h) _ _ hrep) hty hver)
        have HT := hide (evsB_take es k hlt)
        have hSz : S.size ≤ 400000 := by
          rw [HS.out, bA_size, List.length_append]
          have h1 := unhide HHT; have h2 := evsB_len (es.take k); rw [List.length_take] at h2; omega
        have HLE := hide (evB_len es[k])
        have HEV : Hid (evB es[k] = packB es[k].ty es[k].ver es[k].t) := hide rfl
        clear hrep hcell hpb hty hver hb hb0 hrow
        go_wp2_with fail
        refine (unhide HCALL).mono ?_
        rintro e w1 ⟨a1, n1, cap1, rfl, hn1, hrow1, hb1⟩
        rw [← HEV.out] at hrow1 hn1
        have hst := hrow1.strB (.cells #[.int .u8 ((n1 : Int) / 256), .int .u8 ((n1 : Int) % 256)] 5)
        have hn9 : (n1 : Int) ≤ 9000 := by have := unhide HLE; omega
        have hcv := conv_kept2 (Below.refl (w1.alloc (.cells #[.int .u8 ((n1 : Int) / 256), .int .u8 ((n1 : Int) % 256)] 5)).heap.size _) (by omega) (by omega)
        have hw1 : IntKind.u8.wrap ((n1 : Int) / 256) = (n1 : Int) / 256 := by rw [IntKind.wrap_u8]; omega
        have hw2 : IntKind.u8.wrap ((n1 : Int) % 256) = (n1 : Int) % 256 := by rw [IntKind.wrap_u8]; omega
        obtain ⟨B2, hB2⟩ : ∃ B2, B2 = bA [UInt8.ofNat ((n1 : Int) / 256).toNat, UInt8.ofNat ((n1 : Int) % 256).toNat] := ⟨_, rfl⟩
        obtain ⟨B3, hB3⟩ : ∃ B3, B3 = bA (evB es[k]) := ⟨_, rfl⟩
        rw [← hB2] at hcv
        rw [← hB3] at hst
        have hz2 : B2.size ≤ 2 := by rw [hB2, bA_size]; simp
        have hz3 : B3.size ≤ 9000 := by rw [hB3, bA_size]; exact unhide HLE
        have hs1 : ¬ ((9223372036854775807 : Nat) < S.size + B2.size) := by omega
        have hs2 : ¬ ((9223372036854775807 : Nat) < (S ++ B2).size + B3.size) := by rw [ByteArray.size_append]; omega
        have HE : Hid (S ++ B2 ++ B3 = bA (headT key es.length ++ evsB (es.take (k + 1)))) := by
          show _ = _
          rw [HS.out, hB2, hB3, bA_append, bA_append, unhide HT, hn1]
          congr 1
          simp [twoB]
          exact ⟨by congr 1 <;> omega, by congr 1 <;> omega⟩
        have HBN := hide ((HB.out.trans (hb1.mono HB.out.size)).alloc (by have := HB.out.size; have := hb1.size; omega) (.cells #[.int .u8 ((n1 : Int) / 256), .int .u8 ((n1 : Int) % 256)] 5))
        clear hn1 hrow1 hb1 HCALL e0 e1 e2 e3 e4 e5 e6 hB2 hB3 hz2 hz3 hSz
        go_wp2_with fail
        go_roundw
        case rel => exact ⟨k + 1, _, by omega, by go_num, rfl, HE, HBN⟩
        case measure => simp [intOf]; omega
      · go_wp2_with fail
        go_ret
        obtain rfl : k = es.length := by omega
        refine ⟨ret_str ?_, (unhide HB0).trans (HB.out.mono (unhide HB0).size)⟩
        rw [HS.out, List.take_length]; rfl
end Go.Proofs.YtiflfcjocngiiaaGreatDoor
