/- The walk of the program's ok. Conditions: the crew is there, its numbers are within their bounds. -/
import Derived.Test.YtibgjcejddpldaaGreatPart20
import Derived.Test.YtibgjcejddpldaaGreatPart21
import Derived.Test.YtibgjcejddpldaaGreatPart22
namespace Go.Proofs.YtibgjcejddpldaaGreat
open Go Go.RowKit

theorem leftP_bound {c : Cw} (hF : Form c) : 0 ≤ leftP c ∧ leftP c ≤ 5000 := by
  obtain ⟨s1, s2, s3, s4, s5, s6, s7, s8⟩ := hF.small
  have := hF.next; have := hF.out
  have := rdL_bound c.reader; have := kpL_bound c.keeper; have := sumH_bound c.hands; have := sumP_bound c.ring
  have a1 : 0 ≤ (if c.closer = 0 then (1 : Int) else 0) ∧ (if c.closer = 0 then (1 : Int) else 0) ≤ 1 := by split <;> omega
  have a2 : 0 ≤ (if c.user = 0 then (1 : Int) else 0) ∧ (if c.user = 0 then (1 : Int) else 0) ≤ 1 := by split <;> omega
  unfold leftP
  omega
theorem okp_last {c : Cw} {mo : Int} (hj : jobsP c) (hg : givP c) (hc : clsB c = true) (he : endB c = true) (hk : eK c = true) (hmo : mo = 11 * c.jobs + c.hands.length + 7) (hF : Form c) : decide (IntKind.i64.wrap (c.ops + (leftP c)) ≤ mo) = true ↔ okP c := by
  have h1 := leftP_bound hF; have h2 := hF.ops
  have w1 : IntKind.i64.wrap (c.ops + leftP c) = c.ops + leftP c := wrap_i (by omega) (by omega)
  rw [w1, decide_eq_true_iff, hmo]
  exact ⟨fun h => ⟨hj, hg, hc, he, hk, h⟩, fun h => h.2.2.2.2.2⟩
noncomputable def okpOps : Array Oper := fops Tryz.f76 2
theorem okpOps_neat : Region.noSelect okpOps = true ∧ neat okpOps = true := ⟨by kernel_rfl, by kernel_rfl⟩
set_option maxRecDepth 100000 in
set_option maxHeartbeats 1600000 in
theorem okr_f0 (C : Nat) (c : Cw) (B : CrB) (w : World) (mo : Int) (u4 u5 u6 u7 u8 u9 u10 u11 u12 u13 u14 u15 : Value) (W : World) (Q : Exit → Act → World → Prop) (hQ : ∀ c a d v w, Q (.panic c) (Act.put a d v) w → Q (.panic c) a w) (hS : Kc w W C c B) (hno : ¬ okP c) (hend : ∀ a' W' r, Act.eval a' (.tmp 2) = .bool r → a'.defers = [] → (r = true ↔ okP c) → Kc w W' C c B → Q .normal a' W') : wpAnyH Tryz.prog .any okpOps Q (fun W => Kc w W C c B) 28 #[true, true, false, false, false, false, false, false, false, false, false, false, false, false, false, false, false, false, false, false, false, false, false, false, false, false, false, false, false, false] ⟨#[.pointer (some ⟨C, 0, none⟩), undef, .bool false, .int .i64 mo, u4, u5, u6, u7, u8, u9, u10, u11, u12, u13, u14, u15, .pointer (some ⟨C, 0, none⟩), .bool false, undef, undef, undef, undef, undef, undef, undef, undef, undef, undef, undef, undef, undef, undef, undef, undef, undef, undef, undef, undef, undef, undef, undef, undef, undef, undef, undef], []⟩ W := by
  have hs := okpOps_neat
  refine take_anyG 2 (some 18) (.bool false) hs hQ (by kernel_rfl) (by kernel_rfl) (fun w _ => by kernel_rfl) hS ?_
  refine take_skip 3 (some 19) hs hQ (by kernel_rfl) (by kernel_rfl) hS ?_
  refine take_skip 4 (some 20) hs hQ (by kernel_rfl) (by kernel_rfl) hS ?_
  refine take_anyG 5 (some 21) (.bool false) hs hQ (by kernel_rfl) (by kernel_rfl) (fun w _ => by kernel_rfl) hS ?_
  refine take_anyG 6 (some 22) (.bool false) hs hQ (by kernel_rfl) (by kernel_rfl) (fun w _ => by kernel_rfl) hS ?_
  refine take_skip 7 (some 23) hs hQ (by kernel_rfl) (by kernel_rfl) hS ?_
  refine take_skip 8 (some 24) hs hQ (by kernel_rfl) (by kernel_rfl) hS ?_
  refine take_anyG 9 (some 25) (.bool false) hs hQ (by kernel_rfl) (by kernel_rfl) (fun w _ => by kernel_rfl) hS ?_
  refine take_anyG 10 (some 26) (.bool false) hs hQ (by kernel_rfl) (by kernel_rfl) (fun w _ => by kernel_rfl) hS ?_
  refine take_skip 11 (some 27) hs hQ (by kernel_rfl) (by kernel_rfl) hS ?_
  refine take_skip 12 (some 28) hs hQ (by kernel_rfl) (by kernel_rfl) hS ?_
  refine take_anyG 13 (some 29) (.bool false) hs hQ (by kernel_rfl) (by kernel_rfl) (fun w _ => by kernel_rfl) hS ?_
  refine take_anyG 14 (some 30) (.bool false) hs hQ (by kernel_rfl) (by kernel_rfl) (fun w _ => by kernel_rfl) hS ?_
  refine take_skip 15 (some 31) hs hQ (by kernel_rfl) (by kernel_rfl) hS ?_
  refine take_skip 16 (some 32) hs hQ (by kernel_rfl) (by kernel_rfl) hS ?_
  refine take_anyG 17 (some 33) (.bool false) hs hQ (by kernel_rfl) (by kernel_rfl) (fun w _ => by kernel_rfl) hS ?_
  refine take_anyG 18 (some 34) (.bool false) hs hQ (by kernel_rfl) (by kernel_rfl) (fun w _ => by kernel_rfl) hS ?_
  refine take_skip 19 (some 35) hs hQ (by kernel_rfl) (by kernel_rfl) hS ?_
  refine take_skip 20 (some 36) hs hQ (by kernel_rfl) (by kernel_rfl) hS ?_
  refine take_skip 21 (some 37) hs hQ (by kernel_rfl) (by kernel_rfl) hS ?_
  refine take_skip 22 (some 38) hs hQ (by kernel_rfl) (by kernel_rfl) hS ?_
  refine take_skip 23 (some 39) hs hQ (by kernel_rfl) (by kernel_rfl) hS ?_
  refine take_skip 24 (some 40) hs hQ (by kernel_rfl) (by kernel_rfl) hS ?_
  refine take_skip 25 (some 41) hs hQ (by kernel_rfl) (by kernel_rfl) hS ?_
  refine take_skip 26 (some 42) hs hQ (by kernel_rfl) (by kernel_rfl) hS ?_
  refine take_skip 27 (some 43) hs hQ (by kernel_rfl) (by kernel_rfl) hS ?_
  refine take_anyG 28 (some 44) (.bool false) hs hQ (by kernel_rfl) (by kernel_rfl) (fun w _ => by kernel_rfl) hS ?_
  refine take_anyG 29 (some 2) (.bool false) hs hQ (by kernel_rfl) (by kernel_rfl) (fun w _ => by kernel_rfl) hS ?_
  refine any_eq (l' := #[true, true, true, true, true, true, true, true, true, true, true, true, true, true, true, true, true, true, true, true, true, true, true, true, true, true, true, true, true, true]) (a' := ⟨#[.pointer (some ⟨C, 0, none⟩), undef, .bool false, .int .i64 mo, u4, u5, u6, u7, u8, u9, u10, u11, u12, u13, u14, u15, .pointer (some ⟨C, 0, none⟩), .bool false, .bool false, undef, undef, .bool false, .bool false, undef, undef, .bool false, .bool false, undef, undef, .bool false, .bool false, undef, undef, .bool false, .bool false, undef, undef, undef, undef, undef, undef, undef, undef, undef, .bool false], []⟩) (by kernel_rfl) (by kernel_rfl) ?_
  exact wpAnyH_done (by kernel_rfl) (hend _ _ false (by kernel_rfl) (by kernel_rfl) (iff_of_false Bool.false_ne_true hno) hS) _
set_option maxRecDepth 100000 in
set_option maxHeartbeats 1600000 in
theorem okr_f1 (C : Nat) (c : Cw) (B : CrB) (w : World) (mo : Int) (u4 u5 u6 u7 u8 u9 u10 u11 u12 u13 u14 u15 : Value) (W : World) (Q : Exit → Act → World → Prop) (hQ : ∀ c a d v w, Q (.panic c) (Act.put a d v) w → Q (.panic c) a w) (hS : Kc w W C c B) (hno : ¬ okP c) (hend : ∀ a' W' r, Act.eval a' (.tmp 2) = .bool r → a'.defers = [] → (r = true ↔ okP c) → Kc w W' C c B → Q .normal a' W') : wpAnyH Tryz.prog .any okpOps Q (fun W => Kc w W C c B) 25 #[true, true, true, true, true, false, false, false, false, false, false, false, false, false, false, false, false, false, false, false, false, false, false, false, false, false, false, false, false, false] ⟨#[.pointer (some ⟨C, 0, none⟩), undef, .bool false, .int .i64 mo, u4, u5, u6, u7, u8, u9, u10, u11, u12, u13, u14, u15, .pointer (some ⟨C, 0, none⟩), .bool true, .bool true, .pointer (some ⟨C, 0, none⟩), .bool false, undef, undef, undef, undef, undef, undef, undef, undef, undef, undef, undef, undef, undef, undef, undef, undef, undef, undef, undef, undef, undef, undef, undef, undef], []⟩ W := by
  have hs := okpOps_neat
  refine take_anyG 5 (some 21) (.bool false) hs hQ (by kernel_rfl) (by kernel_rfl) (fun w _ => by kernel_rfl) hS ?_
  refine take_anyG 6 (some 22) (.bool false) hs hQ (by kernel_rfl) (by kernel_rfl) (fun w _ => by kernel_rfl) hS ?_
  refine take_skip 7 (some 23) hs hQ (by kernel_rfl) (by kernel_rfl) hS ?_
  refine take_skip 8 (some 24) hs hQ (by kernel_rfl) (by kernel_rfl) hS ?_
  refine take_anyG 9 (some 25) (.bool false) hs hQ (by kernel_rfl) (by kernel_rfl) (fun w _ => by kernel_rfl) hS ?_
  refine take_anyG 10 (some 26) (.bool false) hs hQ (by kernel_rfl) (by kernel_rfl) (fun w _ => by kernel_rfl) hS ?_
  refine take_skip 11 (some 27) hs hQ (by kernel_rfl) (by kernel_rfl) hS ?_
  refine take_skip 12 (some 28) hs hQ (by kernel_rfl) (by kernel_rfl) hS ?_
  refine take_anyG 13 (some 29) (.bool false) hs hQ (by kernel_rfl) (by kernel_rfl) (fun w _ => by kernel_rfl) hS ?_
  refine take_anyG 14 (some 30) (.bool false) hs hQ (by kernel_rfl) (by kernel_rfl) (fun w _ => by kernel_rfl) hS ?_
  refine take_skip 15 (some 31) hs hQ (by kernel_rfl) (by kernel_rfl) hS ?_
  refine take_skip 16 (some 32) hs hQ (by kernel_rfl) (by kernel_rfl) hS ?_
  refine take_anyG 17 (some 33) (.bool false) hs hQ (by kernel_rfl) (by kernel_rfl) (fun w _ => by kernel_rfl) hS ?_
  refine take_anyG 18 (some 34) (.bool false) hs hQ (by kernel_rfl) (by kernel_rfl) (fun w _ => by kernel_rfl) hS ?_
  refine take_skip 19 (some 35) hs hQ (by kernel_rfl) (by kernel_rfl) hS ?_
  refine take_skip 20 (some 36) hs hQ (by kernel_rfl) (by kernel_rfl) hS ?_
  refine take_skip 21 (some 37) hs hQ (by kernel_rfl) (by kernel_rfl) hS ?_
  refine take_skip 22 (some 38) hs hQ (by kernel_rfl) (by kernel_rfl) hS ?_
  refine take_skip 23 (some 39) hs hQ (by kernel_rfl) (by kernel_rfl) hS ?_
  refine take_skip 24 (some 40) hs hQ (by kernel_rfl) (by kernel_rfl) hS ?_
  refine take_skip 25 (some 41) hs hQ (by kernel_rfl) (by kernel_rfl) hS ?_
  refine take_skip 26 (some 42) hs hQ (by kernel_rfl) (by kernel_rfl) hS ?_
  refine take_skip 27 (some 43) hs hQ (by kernel_rfl) (by kernel_rfl) hS ?_
  refine take_anyG 28 (some 44) (.bool false) hs hQ (by kernel_rfl) (by kernel_rfl) (fun w _ => by kernel_rfl) hS ?_
  refine take_anyG 29 (some 2) (.bool false) hs hQ (by kernel_rfl) (by kernel_rfl) (fun w _ => by kernel_rfl) hS ?_
  refine any_eq (l' := #[true, true, true, true, true, true, true, true, true, true, true, true, true, true, true, true, true, true, true, true, true, true, true, true, true, true, true, true, true, true]) (a' := ⟨#[.pointer (some ⟨C, 0, none⟩), undef, .bool false, .int .i64 mo, u4, u5, u6, u7, u8, u9, u10, u11, u12, u13, u14, u15, .pointer (some ⟨C, 0, none⟩), .bool true, .bool true, .pointer (some ⟨C, 0, none⟩), .bool false, .bool false, .bool false, undef, undef, .bool false, .bool false, undef, undef, .bool false, .bool false, undef, undef, .bool false, .bool false, undef, undef, undef, undef, undef, undef, undef, undef, undef, .bool false], []⟩) (by kernel_rfl) (by kernel_rfl) ?_
  exact wpAnyH_done (by kernel_rfl) (hend _ _ false (by kernel_rfl) (by kernel_rfl) (iff_of_false Bool.false_ne_true hno) hS) _
set_option maxRecDepth 100000 in
set_option maxHeartbeats 1600000 in
theorem okr_f2 (C : Nat) (c : Cw) (B : CrB) (w : World) (mo : Int) (u4 u5 u6 u7 u8 u9 u10 u11 u12 u13 u14 u15 : Value) (W : World) (Q : Exit → Act → World → Prop) (hQ : ∀ c a d v w, Q (.panic c) (Act.put a d v) w → Q (.panic c) a w) (hS : Kc w W C c B) (hno : ¬ okP c) (hend : ∀ a' W' r, Act.eval a' (.tmp 2) = .bool r → a'.defers = [] → (r = true ↔ okP c) → Kc w W' C c B → Q .normal a' W') : wpAnyH Tryz.prog .any okpOps Q (fun W => Kc w W C c B) 21 #[true, true, true, true, true, true, true, true, true, false, false, false, false, false, false, false, false, false, false, false, false, false, false, false, false, false, false, false, false, false] ⟨#[.pointer (some ⟨C, 0, none⟩), undef, .bool false, .int .i64 mo, u4, u5, u6, u7, u8, u9, u10, u11, u12, u13, u14, u15, .pointer (some ⟨C, 0, none⟩), .bool true, .bool true, .pointer (some ⟨C, 0, none⟩), .bool true, .bool true, .bool true, .pointer (some ⟨C, 0, none⟩), .bool false, undef, undef, undef, undef, undef, undef, undef, undef, undef, undef, undef, undef, undef, undef, undef, undef, undef, undef, undef, undef], []⟩ W := by
  have hs := okpOps_neat
  refine take_anyG 9 (some 25) (.bool false) hs hQ (by kernel_rfl) (by kernel_rfl) (fun w _ => by kernel_rfl) hS ?_
  refine take_anyG 10 (some 26) (.bool false) hs hQ (by kernel_rfl) (by kernel_rfl) (fun w _ => by kernel_rfl) hS ?_
  refine take_skip 11 (some 27) hs hQ (by kernel_rfl) (by kernel_rfl) hS ?_
  refine take_skip 12 (some 28) hs hQ (by kernel_rfl) (by kernel_rfl) hS ?_
  refine take_anyG 13 (some 29) (.bool false) hs hQ (by kernel_rfl) (by kernel_rfl) (fun w _ => by kernel_rfl) hS ?_
  refine take_anyG 14 (some 30) (.bool false) hs hQ (by kernel_rfl) (by kernel_rfl) (fun w _ => by kernel_rfl) hS ?_
  refine take_skip 15 (some 31) hs hQ (by kernel_rfl) (by kernel_rfl) hS ?_
  refine take_skip 16 (some 32) hs hQ (by kernel_rfl) (by kernel_rfl) hS ?_
  refine take_anyG 17 (some 33) (.bool false) hs hQ (by kernel_rfl) (by kernel_rfl) (fun w _ => by kernel_rfl) hS ?_
  refine take_anyG 18 (some 34) (.bool false) hs hQ (by kernel_rfl) (by kernel_rfl) (fun w _ => by kernel_rfl) hS ?_
  refine take_skip 19 (some 35) hs hQ (by kernel_rfl) (by kernel_rfl) hS ?_
  refine take_skip 20 (some 36) hs hQ (by kernel_rfl) (by kernel_rfl) hS ?_
  refine take_skip 21 (some 37) hs hQ (by kernel_rfl) (by kernel_rfl) hS ?_
  refine take_skip 22 (some 38) hs hQ (by kernel_rfl) (by kernel_rfl) hS ?_
  refine take_skip 23 (some 39) hs hQ (by kernel_rfl) (by kernel_rfl) hS ?_
  refine take_skip 24 (some 40) hs hQ (by kernel_rfl) (by kernel_rfl) hS ?_
  refine take_skip 25 (some 41) hs hQ (by kernel_rfl) (by kernel_rfl) hS ?_
  refine take_skip 26 (some 42) hs hQ (by kernel_rfl) (by kernel_rfl) hS ?_
  refine take_skip 27 (some 43) hs hQ (by kernel_rfl) (by kernel_rfl) hS ?_
  refine take_anyG 28 (some 44) (.bool false) hs hQ (by kernel_rfl) (by kernel_rfl) (fun w _ => by kernel_rfl) hS ?_
  refine take_anyG 29 (some 2) (.bool false) hs hQ (by kernel_rfl) (by kernel_rfl) (fun w _ => by kernel_rfl) hS ?_
  refine any_eq (l' := #[true, true, true, true, true, true, true, true, true, true, true, true, true, true, true, true, true, true, true, true, true, true, true, true, true, true, true, true, true, true]) (a' := ⟨#[.pointer (some ⟨C, 0, none⟩), undef, .bool false, .int .i64 mo, u4, u5, u6, u7, u8, u9, u10, u11, u12, u13, u14, u15, .pointer (some ⟨C, 0, none⟩), .bool true, .bool true, .pointer (some ⟨C, 0, none⟩), .bool true, .bool true, .bool true, .pointer (some ⟨C, 0, none⟩), .bool false, .bool false, .bool false, undef, undef, .bool false, .bool false, undef, undef, .bool false, .bool false, undef, undef, undef, undef, undef, undef, undef, undef, undef, .bool false], []⟩) (by kernel_rfl) (by kernel_rfl) ?_
  exact wpAnyH_done (by kernel_rfl) (hend _ _ false (by kernel_rfl) (by kernel_rfl) (iff_of_false Bool.false_ne_true hno) hS) _
set_option maxRecDepth 100000 in
set_option maxHeartbeats 1600000 in
theorem okr_f3 (C : Nat) (c : Cw) (B : CrB) (w : World) (mo : Int) (u4 u5 u6 u7 u8 u9 u10 u11 u12 u13 u14 u15 : Value) (W : World) (Q : Exit → Act → World → Prop) (hQ : ∀ c a d v w, Q (.panic c) (Act.put a d v) w → Q (.panic c) a w) (hS : Kc w W C c B) (hno : ¬ okP c) (hend : ∀ a' W' r, Act.eval a' (.tmp 2) = .bool r → a'.defers = [] → (r = true ↔ okP c) → Kc w W' C c B → Q .normal a' W') : wpAnyH Tryz.prog .any okpOps Q (fun W => Kc w W C c B) 17 #[true, true, true, true, true, true, true, true, true, true, true, true, true, false, false, false, false, false, false, false, false, false, false, false, false, false, false, false, false, false] ⟨#[.pointer (some ⟨C, 0, none⟩), undef, .bool false, .int .i64 mo, u4, u5, u6, u7, u8, u9, u10, u11, u12, u13, u14, u15, .pointer (some ⟨C, 0, none⟩), .bool true, .bool true, .pointer (some ⟨C, 0, none⟩), .bool true, .bool true, .bool true, .pointer (some ⟨C, 0, none⟩), .bool true, .bool true, .bool true, .pointer (some ⟨C, 0, none⟩), .bool false, undef, undef, undef, undef, undef, undef, undef, undef, undef, undef, undef, undef, undef, undef, undef, undef], []⟩ W := by
  have hs := okpOps_neat
  refine take_anyG 13 (some 29) (.bool false) hs hQ (by kernel_rfl) (by kernel_rfl) (fun w _ => by kernel_rfl) hS ?_
  refine take_anyG 14 (some 30) (.bool false) hs hQ (by kernel_rfl) (by kernel_rfl) (fun w _ => by kernel_rfl) hS ?_
  refine take_skip 15 (some 31) hs hQ (by kernel_rfl) (by kernel_rfl) hS ?_
  refine take_skip 16 (some 32) hs hQ (by kernel_rfl) (by kernel_rfl) hS ?_
  refine take_anyG 17 (some 33) (.bool false) hs hQ (by kernel_rfl) (by kernel_rfl) (fun w _ => by kernel_rfl) hS ?_
  refine take_anyG 18 (some 34) (.bool false) hs hQ (by kernel_rfl) (by kernel_rfl) (fun w _ => by kernel_rfl) hS ?_
  refine take_skip 19 (some 35) hs hQ (by kernel_rfl) (by kernel_rfl) hS ?_
  refine take_skip 20 (some 36) hs hQ (by kernel_rfl) (by kernel_rfl) hS ?_
  refine take_skip 21 (some 37) hs hQ (by kernel_rfl) (by kernel_rfl) hS ?_
  refine take_skip 22 (some 38) hs hQ (by kernel_rfl) (by kernel_rfl) hS ?_
  refine take_skip 23 (some 39) hs hQ (by kernel_rfl) (by kernel_rfl) hS ?_
  refine take_skip 24 (some 40) hs hQ (by kernel_rfl) (by kernel_rfl) hS ?_
  refine take_skip 25 (some 41) hs hQ (by kernel_rfl) (by kernel_rfl) hS ?_
  refine take_skip 26 (some 42) hs hQ (by kernel_rfl) (by kernel_rfl) hS ?_
  refine take_skip 27 (some 43) hs hQ (by kernel_rfl) (by kernel_rfl) hS ?_
  refine take_anyG 28 (some 44) (.bool false) hs hQ (by kernel_rfl) (by kernel_rfl) (fun w _ => by kernel_rfl) hS ?_
  refine take_anyG 29 (some 2) (.bool false) hs hQ (by kernel_rfl) (by kernel_rfl) (fun w _ => by kernel_rfl) hS ?_
  refine any_eq (l' := #[true, true, true, true, true, true, true, true, true, true, true, true, true, true, true, true, true, true, true, true, true, true, true, true, true, true, true, true, true, true]) (a' := ⟨#[.pointer (some ⟨C, 0, none⟩), undef, .bool false, .int .i64 mo, u4, u5, u6, u7, u8, u9, u10, u11, u12, u13, u14, u15, .pointer (some ⟨C, 0, none⟩), .bool true, .bool true, .pointer (some ⟨C, 0, none⟩), .bool true, .bool true, .bool true, .pointer (some ⟨C, 0, none⟩), .bool true, .bool true, .bool true, .pointer (some ⟨C, 0, none⟩), .bool false, .bool false, .bool false, undef, undef, .bool false, .bool false, undef, undef, undef, undef, undef, undef, undef, undef, undef, .bool false], []⟩) (by kernel_rfl) (by kernel_rfl) ?_
  exact wpAnyH_done (by kernel_rfl) (hend _ _ false (by kernel_rfl) (by kernel_rfl) (iff_of_false Bool.false_ne_true hno) hS) _
set_option maxRecDepth 100000 in
set_option maxHeartbeats 1600000 in
theorem okr_f4 (C : Nat) (c : Cw) (B : CrB) (w : World) (mo : Int) (u4 u5 u6 u7 u8 u9 u10 u11 u12 u13 u14 u15 : Value) (W : World) (Q : Exit → Act → World → Prop) (hQ : ∀ c a d v w, Q (.panic c) (Act.put a d v) w → Q (.panic c) a w) (hS : Kc w W C c B) (hno : ¬ okP c) (hend : ∀ a' W' r, Act.eval a' (.tmp 2) = .bool r → a'.defers = [] → (r = true ↔ okP c) → Kc w W' C c B → Q .normal a' W') : wpAnyH Tryz.prog .any okpOps Q (fun W => Kc w W C c B) 13 #[true, true, true, true, true, true, true, true, true, true, true, true, true, true, true, true, true, false, false, false, false, false, false, false, false, false, false, false, false, false] ⟨#[.pointer (some ⟨C, 0, none⟩), undef, .bool false, .int .i64 mo, u4, u5, u6, u7, u8, u9, u10, u11, u12, u13, u14, u15, .pointer (some ⟨C, 0, none⟩), .bool true, .bool true, .pointer (some ⟨C, 0, none⟩), .bool true, .bool true, .bool true, .pointer (some ⟨C, 0, none⟩), .bool true, .bool true, .bool true, .pointer (some ⟨C, 0, none⟩), .bool true, .bool true, .bool true, .pointer (some ⟨C, 0, none⟩), .bool false, undef, undef, undef, undef, undef, undef, undef, undef, undef, undef, undef, undef], []⟩ W := by
  have hs := okpOps_neat
  refine take_anyG 17 (some 33) (.bool false) hs hQ (by kernel_rfl) (by kernel_rfl) (fun w _ => by kernel_rfl) hS ?_
  refine take_anyG 18 (some 34) (.bool false) hs hQ (by kernel_rfl) (by kernel_rfl) (fun w _ => by kernel_rfl) hS ?_
  refine take_skip 19 (some 35) hs hQ (by kernel_rfl) (by kernel_rfl) hS ?_
  refine take_skip 20 (some 36) hs hQ (by kernel_rfl) (by kernel_rfl) hS ?_
  refine take_skip 21 (some 37) hs hQ (by kernel_rfl) (by kernel_rfl) hS ?_
  refine take_skip 22 (some 38) hs hQ (by kernel_rfl) (by kernel_rfl) hS ?_
  refine take_skip 23 (some 39) hs hQ (by kernel_rfl) (by kernel_rfl) hS ?_
  refine take_skip 24 (some 40) hs hQ (by kernel_rfl) (by kernel_rfl) hS ?_
  refine take_skip 25 (some 41) hs hQ (by kernel_rfl) (by kernel_rfl) hS ?_
  refine take_skip 26 (some 42) hs hQ (by kernel_rfl) (by kernel_rfl) hS ?_
  refine take_skip 27 (some 43) hs hQ (by kernel_rfl) (by kernel_rfl) hS ?_
  refine take_anyG 28 (some 44) (.bool false) hs hQ (by kernel_rfl) (by kernel_rfl) (fun w _ => by kernel_rfl) hS ?_
  refine take_anyG 29 (some 2) (.bool false) hs hQ (by kernel_rfl) (by kernel_rfl) (fun w _ => by kernel_rfl) hS ?_
  refine any_eq (l' := #[true, true, true, true, true, true, true, true, true, true, true, true, true, true, true, true, true, true, true, true, true, true, true, true, true, true, true, true, true, true]) (a' := ⟨#[.pointer (some ⟨C, 0, none⟩), undef, .bool false, .int .i64 mo, u4, u5, u6, u7, u8, u9, u10, u11, u12, u13, u14, u15, .pointer (some ⟨C, 0, none⟩), .bool true, .bool true, .pointer (some ⟨C, 0, none⟩), .bool true, .bool true, .bool true, .pointer (some ⟨C, 0, none⟩), .bool true, .bool true, .bool true, .pointer (some ⟨C, 0, none⟩), .bool true, .bool true, .bool true, .pointer (some ⟨C, 0, none⟩), .bool false, .bool false, .bool false, undef, undef, undef, undef, undef, undef, undef, undef, undef, .bool false], []⟩) (by kernel_rfl) (by kernel_rfl) ?_
  exact wpAnyH_done (by kernel_rfl) (hend _ _ false (by kernel_rfl) (by kernel_rfl) (iff_of_false Bool.false_ne_true hno) hS) _
set_option maxRecDepth 100000 in
set_option maxHeartbeats 1600000 in
theorem okr_s6 (C : Nat) (c : Cw) (B : CrB) (w : World) (mo : Int) (hmo : mo = 11 * c.jobs + c.hands.length + 7) (hF : Form c) (u4 u5 u6 u7 u8 u9 u10 u11 u12 u13 u14 u15 : Value) (W : World) (Q : Exit → Act → World → Prop) (hQ : ∀ c a d v w, Q (.panic c) (Act.put a d v) w → Q (.panic c) a w) (hS : Kc w W C c B) (hj : jobsP c) (hg : givP c) (hc : clsB c = true) (he : endB c = true) (hk : eK c = true) (hend : ∀ a' W' r, Act.eval a' (.tmp 2) = .bool r → a'.defers = [] → (r = true ↔ okP c) → Kc w W' C c B → Q .normal a' W') : wpAnyH Tryz.prog .any okpOps Q (fun W => Kc w W C c B) 4 #[true, true, true, true, true, true, true, true, true, true, true, true, true, true, true, true, true, true, true, true, true, true, true, true, true, false, true, false, false, false] ⟨#[.pointer (some ⟨C, 0, none⟩), undef, .bool false, .int .i64 mo, u4, u5, u6, u7, u8, u9, u10, u11, u12, u13, u14, u15, .pointer (some ⟨C, 0, none⟩), .bool true, .bool true, .pointer (some ⟨C, 0, none⟩), .bool true, .bool true, .bool true, .pointer (some ⟨C, 0, none⟩), .bool true, .bool true, .bool true, .pointer (some ⟨C, 0, none⟩), .bool true, .bool true, .bool true, .pointer (some ⟨C, 0, none⟩), .bool true, .bool true, .bool true, .pointer (some ⟨C, 0, none⟩), .pointer (some ⟨C, 0, none⟩), .pointer (some ⟨C, 15, none⟩), .int .i64 c.ops, .pointer (some ⟨C, 0, none⟩), .int .i64 (leftP c), undef, .int .i64 mo, undef, undef], []⟩ W := by
  have hs := okpOps_neat
  refine take_anyG 25 (some 41) (.int .i64 (IntKind.i64.wrap (c.ops + (leftP c)))) hs hQ (by kernel_rfl) (by kernel_rfl) (fun w _ => by kernel_rfl) hS ?_
  refine take_anyG 27 (some 43) (.bool (decide ((IntKind.i64.wrap (c.ops + (leftP c))) ≤ mo))) hs hQ (by kernel_rfl) (by kernel_rfl) (fun w _ => by kernel_rfl) hS ?_
  refine take_anyG 28 (some 44) (.bool (decide ((IntKind.i64.wrap (c.ops + (leftP c))) ≤ mo))) hs hQ (by kernel_rfl) (by kernel_rfl) (fun w _ => by kernel_rfl) hS ?_
  refine take_anyG 29 (some 2) (.bool (decide ((IntKind.i64.wrap (c.ops + (leftP c))) ≤ mo))) hs hQ (by kernel_rfl) (by kernel_rfl) (fun w _ => by kernel_rfl) hS ?_
  refine any_eq (l' := #[true, true, true, true, true, true, true, true, true, true, true, true, true, true, true, true, true, true, true, true, true, true, true, true, true, true, true, true, true, true]) (a' := ⟨#[.pointer (some ⟨C, 0, none⟩), undef, .bool (decide ((IntKind.i64.wrap (c.ops + (leftP c))) ≤ mo)), .int .i64 mo, u4, u5, u6, u7, u8, u9, u10, u11, u12, u13, u14, u15, .pointer (some ⟨C, 0, none⟩), .bool true, .bool true, .pointer (some ⟨C, 0, none⟩), .bool true, .bool true, .bool true, .pointer (some ⟨C, 0, none⟩), .bool true, .bool true, .bool true, .pointer (some ⟨C, 0, none⟩), .bool true, .bool true, .bool true, .pointer (some ⟨C, 0, none⟩), .bool true, .bool true, .bool true, .pointer (some ⟨C, 0, none⟩), .pointer (some ⟨C, 0, none⟩), .pointer (some ⟨C, 15, none⟩), .int .i64 c.ops, .pointer (some ⟨C, 0, none⟩), .int .i64 (leftP c), .int .i64 (IntKind.i64.wrap (c.ops + (leftP c))), .int .i64 mo, .bool (decide ((IntKind.i64.wrap (c.ops + (leftP c))) ≤ mo)), .bool (decide ((IntKind.i64.wrap (c.ops + (leftP c))) ≤ mo))], []⟩) (by kernel_rfl) (by kernel_rfl) ?_
  exact wpAnyH_done (by kernel_rfl) (hend _ _ (decide ((IntKind.i64.wrap (c.ops + (leftP c))) ≤ mo)) (by kernel_rfl) (by kernel_rfl) (okp_last hj hg hc he hk hmo hF) hS) _
set_option maxRecDepth 100000 in
set_option maxHeartbeats 1600000 in
theorem okr_s5 (C : Nat) (c : Cw) (B : CrB) (w : World) (mo : Int) (hmo : mo = 11 * c.jobs + c.hands.length + 7) (hF : Form c) (u4 u5 u6 u7 u8 u9 u10 u11 u12 u13 u14 u15 : Value) (W : World) (Q : Exit → Act → World → Prop) (hQ : ∀ c a d v w, Q (.panic c) (Act.put a d v) w → Q (.panic c) a w) (hS : Kc w W C c B) (hj : jobsP c) (hg : givP c) (hc : clsB c = true) (he : endB c = true) (hk : eK c = true) (hend : ∀ a' W' r, Act.eval a' (.tmp 2) = .bool r → a'.defers = [] → (r = true ↔ okP c) → Kc w W' C c B → Q .normal a' W') : wpAnyH Tryz.prog .any okpOps Q (fun W => Kc w W C c B) 13 #[true, true, true, true, true, true, true, true, true, true, true, true, true, true, true, true, true, false, false, false, false, false, false, false, false, false, false, false, false, false] ⟨#[.pointer (some ⟨C, 0, none⟩), undef, .bool false, .int .i64 mo, u4, u5, u6, u7, u8, u9, u10, u11, u12, u13, u14, u15, .pointer (some ⟨C, 0, none⟩), .bool true, .bool true, .pointer (some ⟨C, 0, none⟩), .bool true, .bool true, .bool true, .pointer (some ⟨C, 0, none⟩), .bool true, .bool true, .bool true, .pointer (some ⟨C, 0, none⟩), .bool true, .bool true, .bool true, .pointer (some ⟨C, 0, none⟩), .bool true, undef, undef, undef, undef, undef, undef, undef, undef, undef, undef, undef, undef], []⟩ W := by
  have hs := okpOps_neat
  refine take_anyG 17 (some 33) (.bool true) hs hQ (by kernel_rfl) (by kernel_rfl) (fun w _ => by kernel_rfl) hS ?_
  refine take_anyG 18 (some 34) (.bool true) hs hQ (by kernel_rfl) (by kernel_rfl) (fun w _ => by kernel_rfl) hS ?_
  refine take_anyG 19 (some 35) (.pointer (some ⟨C, 0, none⟩)) hs hQ (by kernel_rfl) (by kernel_rfl) (fun w _ => by kernel_rfl) hS ?_
  refine take_anyG 20 (some 36) (.pointer (some ⟨C, 0, none⟩)) hs hQ (by kernel_rfl) (by kernel_rfl) (fun w _ => by kernel_rfl) hS ?_
  refine take_anyG 21 (some 37) (.pointer (some ⟨C, 15, none⟩)) hs hQ (by kernel_rfl) (by kernel_rfl) (fun w _ => by kernel_rfl) hS ?_
  refine take_loadG 22 (some 38) 3 (.tmp 37) ⟨C, 15, none⟩ (.int .i64 c.ops) hs hQ (by kernel_rfl) (by kernel_rfl) (by kernel_rfl) (by kernel_rfl) (fun w h => ld3 w _ _ h.cr.c15) hS ?_
  refine take_anyG 23 (some 39) (.pointer (some ⟨C, 0, none⟩)) hs hQ (by kernel_rfl) (by kernel_rfl) (fun w _ => by kernel_rfl) hS ?_
  refine take_anyG 26 (some 42) (.int .i64 mo) hs hQ (by kernel_rfl) (by kernel_rfl) (fun w _ => by kernel_rfl) hS ?_
  refine any_eq (l' := #[true, true, true, true, true, true, true, true, true, true, true, true, true, true, true, true, true, true, true, true, true, true, true, true, false, false, true, false, false, false]) (a' := ⟨#[.pointer (some ⟨C, 0, none⟩), undef, .bool false, .int .i64 mo, u4, u5, u6, u7, u8, u9, u10, u11, u12, u13, u14, u15, .pointer (some ⟨C, 0, none⟩), .bool true, .bool true, .pointer (some ⟨C, 0, none⟩), .bool true, .bool true, .bool true, .pointer (some ⟨C, 0, none⟩), .bool true, .bool true, .bool true, .pointer (some ⟨C, 0, none⟩), .bool true, .bool true, .bool true, .pointer (some ⟨C, 0, none⟩), .bool true, .bool true, .bool true, .pointer (some ⟨C, 0, none⟩), .pointer (some ⟨C, 0, none⟩), .pointer (some ⟨C, 15, none⟩), .int .i64 c.ops, .pointer (some ⟨C, 0, none⟩), undef, undef, .int .i64 mo, undef, undef], []⟩) (by kernel_rfl) (by kernel_rfl) ?_
  refine ready_one 24 (by kernel_rfl) ?_
  refine op_enterG (some 40) 48 #[.pointer (some ⟨C, 0, none⟩)] (by kernel_rfl) (by kernel_rfl) (by kernel_rfl) (left_any C c B W hS.cr hF) ?_
  rintro e W1 ⟨rfl, hb⟩
  exact ⟨_, rfl, hS.on hb, any_eq (l' := #[true, true, true, true, true, true, true, true, true, true, true, true, true, true, true, true, true, true, true, true, true, true, true, true, true, false, true, false, false, false]) (a' := ⟨#[.pointer (some ⟨C, 0, none⟩), undef, .bool false, .int .i64 mo, u4, u5, u6, u7, u8, u9, u10, u11, u12, u13, u14, u15, .pointer (some ⟨C, 0, none⟩), .bool true, .bool true, .pointer (some ⟨C, 0, none⟩), .bool true, .bool true, .bool true, .pointer (some ⟨C, 0, none⟩), .bool true, .bool true, .bool true, .pointer (some ⟨C, 0, none⟩), .bool true, .bool true, .bool true, .pointer (some ⟨C, 0, none⟩), .bool true, .bool true, .bool true, .pointer (some ⟨C, 0, none⟩), .pointer (some ⟨C, 0, none⟩), .pointer (some ⟨C, 15, none⟩), .int .i64 c.ops, .pointer (some ⟨C, 0, none⟩), .int .i64 (leftP c), undef, .int .i64 mo, undef, undef], []⟩) (by kernel_rfl) (by kernel_rfl) (okr_s6 C c B w mo hmo hF u4 u5 u6 u7 u8 u9 u10 u11 u12 u13 u14 u15 W1 Q hQ (hS.on hb) hj hg hc he hk hend)⟩
set_option maxRecDepth 100000 in
set_option maxHeartbeats 1600000 in
theorem okr_s4 (C : Nat) (c : Cw) (B : CrB) (w : World) (mo : Int) (hmo : mo = 11 * c.jobs + c.hands.length + 7) (hF : Form c) (u4 u5 u6 u7 u8 u9 u10 u11 u12 u13 u14 u15 : Value) (W : World) (Q : Exit → Act → World → Prop) (hQ : ∀ c a d v w, Q (.panic c) (Act.put a d v) w → Q (.panic c) a w) (hS : Kc w W C c B) (hj : jobsP c) (hg : givP c) (hc : clsB c = true) (he : endB c = true) (hend : ∀ a' W' r, Act.eval a' (.tmp 2) = .bool r → a'.defers = [] → (r = true ↔ okP c) → Kc w W' C c B → Q .normal a' W') : wpAnyH Tryz.prog .any okpOps Q (fun W => Kc w W C c B) 17 #[true, true, true, true, true, true, true, true, true, true, true, true, true, false, false, false, false, false, false, false, false, false, false, false, false, false, false, false, false, false] ⟨#[.pointer (some ⟨C, 0, none⟩), undef, .bool false, .int .i64 mo, u4, u5, u6, u7, u8, u9, u10, u11, u12, u13, u14, u15, .pointer (some ⟨C, 0, none⟩), .bool true, .bool true, .pointer (some ⟨C, 0, none⟩), .bool true, .bool true, .bool true, .pointer (some ⟨C, 0, none⟩), .bool true, .bool true, .bool true, .pointer (some ⟨C, 0, none⟩), .bool true, undef, undef, undef, undef, undef, undef, undef, undef, undef, undef, undef, undef, undef, undef, undef, undef], []⟩ W := by
  have hs := okpOps_neat
  refine take_anyG 13 (some 29) (.bool true) hs hQ (by kernel_rfl) (by kernel_rfl) (fun w _ => by kernel_rfl) hS ?_
  refine take_anyG 14 (some 30) (.bool true) hs hQ (by kernel_rfl) (by kernel_rfl) (fun w _ => by kernel_rfl) hS ?_
  refine take_anyG 15 (some 31) (.pointer (some ⟨C, 0, none⟩)) hs hQ (by kernel_rfl) (by kernel_rfl) (fun w _ => by kernel_rfl) hS ?_
  refine any_eq (l' := #[true, true, true, true, true, true, true, true, true, true, true, true, true, true, true, true, false, false, false, false, false, false, false, false, false, false, false, false, false, false]) (a' := ⟨#[.pointer (some ⟨C, 0, none⟩), undef, .bool false, .int .i64 mo, u4, u5, u6, u7, u8, u9, u10, u11, u12, u13, u14, u15, .pointer (some ⟨C, 0, none⟩), .bool true, .bool true, .pointer (some ⟨C, 0, none⟩), .bool true, .bool true, .bool true, .pointer (some ⟨C, 0, none⟩), .bool true, .bool true, .bool true, .pointer (some ⟨C, 0, none⟩), .bool true, .bool true, .bool true, .pointer (some ⟨C, 0, none⟩), undef, undef, undef, undef, undef, undef, undef, undef, undef, undef, undef, undef, undef], []⟩) (by kernel_rfl) (by kernel_rfl) ?_
  refine ready_one 16 (by kernel_rfl) ?_
  refine op_enterG (some 32) 106 #[.pointer (some ⟨C, 0, none⟩)] (by kernel_rfl) (by kernel_rfl) (by kernel_rfl) (keeperOk_any C c B W hS.cr hF.due.1) ?_
  rintro e W1 ⟨rfl, hb⟩
  cases hr : eK c with
  | false => exact ⟨.bool false, rfl, hS.on hb, any_eq (l' := #[true, true, true, true, true, true, true, true, true, true, true, true, true, true, true, true, true, false, false, false, false, false, false, false, false, false, false, false, false, false]) (a' := ⟨#[.pointer (some ⟨C, 0, none⟩), undef, .bool false, .int .i64 mo, u4, u5, u6, u7, u8, u9, u10, u11, u12, u13, u14, u15, .pointer (some ⟨C, 0, none⟩), .bool true, .bool true, .pointer (some ⟨C, 0, none⟩), .bool true, .bool true, .bool true, .pointer (some ⟨C, 0, none⟩), .bool true, .bool true, .bool true, .pointer (some ⟨C, 0, none⟩), .bool true, .bool true, .bool true, .pointer (some ⟨C, 0, none⟩), .bool false, undef, undef, undef, undef, undef, undef, undef, undef, undef, undef, undef, undef], []⟩) (by kernel_rfl) (by kernel_rfl) (okr_f4 C c B w mo u4 u5 u6 u7 u8 u9 u10 u11 u12 u13 u14 u15 W1 Q hQ (hS.on hb) (fun h => Bool.false_ne_true (hr.symm.trans h.2.2.2.2.1)) hend)⟩
  | true => exact ⟨.bool true, rfl, hS.on hb, any_eq (l' := #[true, true, true, true, true, true, true, true, true, true, true, true, true, true, true, true, true, false, false, false, false, false, false, false, false, false, false, false, false, false]) (a' := ⟨#[.pointer (some ⟨C, 0, none⟩), undef, .bool false, .int .i64 mo, u4, u5, u6, u7, u8, u9, u10, u11, u12, u13, u14, u15, .pointer (some ⟨C, 0, none⟩), .bool true, .bool true, .pointer (some ⟨C, 0, none⟩), .bool true, .bool true, .bool true, .pointer (some ⟨C, 0, none⟩), .bool true, .bool true, .bool true, .pointer (some ⟨C, 0, none⟩), .bool true, .bool true, .bool true, .pointer (some ⟨C, 0, none⟩), .bool true, undef, undef, undef, undef, undef, undef, undef, undef, undef, undef, undef, undef], []⟩) (by kernel_rfl) (by kernel_rfl) (okr_s5 C c B w mo hmo hF u4 u5 u6 u7 u8 u9 u10 u11 u12 u13 u14 u15 W1 Q hQ (hS.on hb) hj hg hc he (hr) hend)⟩
set_option maxRecDepth 100000 in
set_option maxHeartbeats 1600000 in
theorem okr_s3 (C : Nat) (c : Cw) (B : CrB) (w : World) (mo : Int) (hmo : mo = 11 * c.jobs + c.hands.length + 7) (hF : Form c) (u4 u5 u6 u7 u8 u9 u10 u11 u12 u13 u14 u15 : Value) (W : World) (Q : Exit → Act → World → Prop) (hQ : ∀ c a d v w, Q (.panic c) (Act.put a d v) w → Q (.panic c) a w) (hS : Kc w W C c B) (hj : jobsP c) (hg : givP c) (hc : clsB c = true) (hend : ∀ a' W' r, Act.eval a' (.tmp 2) = .bool r → a'.defers = [] → (r = true ↔ okP c) → Kc w W' C c B → Q .normal a' W') : wpAnyH Tryz.prog .any okpOps Q (fun W => Kc w W C c B) 21 #[true, true, true, true, true, true, true, true, true, false, false, false, false, false, false, false, false, false, false, false, false, false, false, false, false, false, false, false, false, false] ⟨#[.pointer (some ⟨C, 0, none⟩), undef, .bool false, .int .i64 mo, u4, u5, u6, u7, u8, u9, u10, u11, u12, u13, u14, u15, .pointer (some ⟨C, 0, none⟩), .bool true, .bool true, .pointer (some ⟨C, 0, none⟩), .bool true, .bool true, .bool true, .pointer (some ⟨C, 0, none⟩), .bool true, undef, undef, undef, undef, undef, undef, undef, undef, undef, undef, undef, undef, undef, undef, undef, undef, undef, undef, undef, undef], []⟩ W := by
  have hs := okpOps_neat
  refine take_anyG 9 (some 25) (.bool true) hs hQ (by kernel_rfl) (by kernel_rfl) (fun w _ => by kernel_rfl) hS ?_
  refine take_anyG 10 (some 26) (.bool true) hs hQ (by kernel_rfl) (by kernel_rfl) (fun w _ => by kernel_rfl) hS ?_
  refine take_anyG 11 (some 27) (.pointer (some ⟨C, 0, none⟩)) hs hQ (by kernel_rfl) (by kernel_rfl) (fun w _ => by kernel_rfl) hS ?_
  refine any_eq (l' := #[true, true, true, true, true, true, true, true, true, true, true, true, false, false, false, false, false, false, false, false, false, false, false, false, false, false, false, false, false, false]) (a' := ⟨#[.pointer (some ⟨C, 0, none⟩), undef, .bool false, .int .i64 mo, u4, u5, u6, u7, u8, u9, u10, u11, u12, u13, u14, u15, .pointer (some ⟨C, 0, none⟩), .bool true, .bool true, .pointer (some ⟨C, 0, none⟩), .bool true, .bool true, .bool true, .pointer (some ⟨C, 0, none⟩), .bool true, .bool true, .bool true, .pointer (some ⟨C, 0, none⟩), undef, undef, undef, undef, undef, undef, undef, undef, undef, undef, undef, undef, undef, undef, undef, undef, undef], []⟩) (by kernel_rfl) (by kernel_rfl) ?_
  refine ready_one 12 (by kernel_rfl) ?_
  refine op_enterG (some 28) 105 #[.pointer (some ⟨C, 0, none⟩)] (by kernel_rfl) (by kernel_rfl) (by kernel_rfl) (endsOk_any C c B W hS.cr) ?_
  rintro e W1 ⟨rfl, hb⟩
  cases hr : endB c with
  | false => exact ⟨.bool false, rfl, hS.on hb, any_eq (l' := #[true, true, true, true, true, true, true, true, true, true, true, true, true, false, false, false, false, false, false, false, false, false, false, false, false, false, false, false, false, false]) (a' := ⟨#[.pointer (some ⟨C, 0, none⟩), undef, .bool false, .int .i64 mo, u4, u5, u6, u7, u8, u9, u10, u11, u12, u13, u14, u15, .pointer (some ⟨C, 0, none⟩), .bool true, .bool true, .pointer (some ⟨C, 0, none⟩), .bool true, .bool true, .bool true, .pointer (some ⟨C, 0, none⟩), .bool true, .bool true, .bool true, .pointer (some ⟨C, 0, none⟩), .bool false, undef, undef, undef, undef, undef, undef, undef, undef, undef, undef, undef, undef, undef, undef, undef, undef], []⟩) (by kernel_rfl) (by kernel_rfl) (okr_f3 C c B w mo u4 u5 u6 u7 u8 u9 u10 u11 u12 u13 u14 u15 W1 Q hQ (hS.on hb) (fun h => Bool.false_ne_true (hr.symm.trans h.2.2.2.1)) hend)⟩
  | true => exact ⟨.bool true, rfl, hS.on hb, any_eq (l' := #[true, true, true, true, true, true, true, true, true, true, true, true, true, false, false, false, false, false, false, false, false, false, false, false, false, false, false, false, false, false]) (a' := ⟨#[.pointer (some ⟨C, 0, none⟩), undef, .bool false, .int .i64 mo, u4, u5, u6, u7, u8, u9, u10, u11, u12, u13, u14, u15, .pointer (some ⟨C, 0, none⟩), .bool true, .bool true, .pointer (some ⟨C, 0, none⟩), .bool true, .bool true, .bool true, .pointer (some ⟨C, 0, none⟩), .bool true, .bool true, .bool true, .pointer (some ⟨C, 0, none⟩), .bool true, undef, undef, undef, undef, undef, undef, undef, undef, undef, undef, undef, undef, undef, undef, undef, undef], []⟩) (by kernel_rfl) (by kernel_rfl) (okr_s4 C c B w mo hmo hF u4 u5 u6 u7 u8 u9 u10 u11 u12 u13 u14 u15 W1 Q hQ (hS.on hb) hj hg hc (hr) hend)⟩
set_option maxRecDepth 100000 in
set_option maxHeartbeats 1600000 in
theorem okr_s2 (C : Nat) (c : Cw) (B : CrB) (w : World) (mo : Int) (hmo : mo = 11 * c.jobs + c.hands.length + 7) (hF : Form c) (u4 u5 u6 u7 u8 u9 u10 u11 u12 u13 u14 u15 : Value) (W : World) (Q : Exit → Act → World → Prop) (hQ : ∀ c a d v w, Q (.panic c) (Act.put a d v) w → Q (.panic c) a w) (hS : Kc w W C c B) (hj : jobsP c) (hg : givP c) (hend : ∀ a' W' r, Act.eval a' (.tmp 2) = .bool r → a'.defers = [] → (r = true ↔ okP c) → Kc w W' C c B → Q .normal a' W') : wpAnyH Tryz.prog .any okpOps Q (fun W => Kc w W C c B) 25 #[true, true, true, true, true, false, false, false, false, false, false, false, false, false, false, false, false, false, false, false, false, false, false, false, false, false, false, false, false, false] ⟨#[.pointer (some ⟨C, 0, none⟩), undef, .bool false, .int .i64 mo, u4, u5, u6, u7, u8, u9, u10, u11, u12, u13, u14, u15, .pointer (some ⟨C, 0, none⟩), .bool true, .bool true, .pointer (some ⟨C, 0, none⟩), .bool true, undef, undef, undef, undef, undef, undef, undef, undef, undef, undef, undef, undef, undef, undef, undef, undef, undef, undef, undef, undef, undef, undef, undef, undef], []⟩ W := by
  have hs := okpOps_neat
  refine take_anyG 5 (some 21) (.bool true) hs hQ (by kernel_rfl) (by kernel_rfl) (fun w _ => by kernel_rfl) hS ?_
  refine take_anyG 6 (some 22) (.bool true) hs hQ (by kernel_rfl) (by kernel_rfl) (fun w _ => by kernel_rfl) hS ?_
  refine take_anyG 7 (some 23) (.pointer (some ⟨C, 0, none⟩)) hs hQ (by kernel_rfl) (by kernel_rfl) (fun w _ => by kernel_rfl) hS ?_
  refine any_eq (l' := #[true, true, true, true, true, true, true, true, false, false, false, false, false, false, false, false, false, false, false, false, false, false, false, false, false, false, false, false, false, false]) (a' := ⟨#[.pointer (some ⟨C, 0, none⟩), undef, .bool false, .int .i64 mo, u4, u5, u6, u7, u8, u9, u10, u11, u12, u13, u14, u15, .pointer (some ⟨C, 0, none⟩), .bool true, .bool true, .pointer (some ⟨C, 0, none⟩), .bool true, .bool true, .bool true, .pointer (some ⟨C, 0, none⟩), undef, undef, undef, undef, undef, undef, undef, undef, undef, undef, undef, undef, undef, undef, undef, undef, undef, undef, undef, undef, undef], []⟩) (by kernel_rfl) (by kernel_rfl) ?_
  refine ready_one 8 (by kernel_rfl) ?_
  refine op_enterG (some 24) 104 #[.pointer (some ⟨C, 0, none⟩)] (by kernel_rfl) (by kernel_rfl) (by kernel_rfl) (closedOk_any C c B W hS.cr) ?_
  rintro e W1 ⟨rfl, hb⟩
  cases hr : clsB c with
  | false => exact ⟨.bool false, rfl, hS.on hb, any_eq (l' := #[true, true, true, true, true, true, true, true, true, false, false, false, false, false, false, false, false, false, false, false, false, false, false, false, false, false, false, false, false, false]) (a' := ⟨#[.pointer (some ⟨C, 0, none⟩), undef, .bool false, .int .i64 mo, u4, u5, u6, u7, u8, u9, u10, u11, u12, u13, u14, u15, .pointer (some ⟨C, 0, none⟩), .bool true, .bool true, .pointer (some ⟨C, 0, none⟩), .bool true, .bool true, .bool true, .pointer (some ⟨C, 0, none⟩), .bool false, undef, undef, undef, undef, undef, undef, undef, undef, undef, undef, undef, undef, undef, undef, undef, undef, undef, undef, undef, undef], []⟩) (by kernel_rfl) (by kernel_rfl) (okr_f2 C c B w mo u4 u5 u6 u7 u8 u9 u10 u11 u12 u13 u14 u15 W1 Q hQ (hS.on hb) (fun h => Bool.false_ne_true (hr.symm.trans h.2.2.1)) hend)⟩
  | true => exact ⟨.bool true, rfl, hS.on hb, any_eq (l' := #[true, true, true, true, true, true, true, true, true, false, false, false, false, false, false, false, false, false, false, false, false, false, false, false, false, false, false, false, false, false]) (a' := ⟨#[.pointer (some ⟨C, 0, none⟩), undef, .bool false, .int .i64 mo, u4, u5, u6, u7, u8, u9, u10, u11, u12, u13, u14, u15, .pointer (some ⟨C, 0, none⟩), .bool true, .bool true, .pointer (some ⟨C, 0, none⟩), .bool true, .bool true, .bool true, .pointer (some ⟨C, 0, none⟩), .bool true, undef, undef, undef, undef, undef, undef, undef, undef, undef, undef, undef, undef, undef, undef, undef, undef, undef, undef, undef, undef], []⟩) (by kernel_rfl) (by kernel_rfl) (okr_s3 C c B w mo hmo hF u4 u5 u6 u7 u8 u9 u10 u11 u12 u13 u14 u15 W1 Q hQ (hS.on hb) hj hg (hr) hend)⟩
set_option maxRecDepth 100000 in
set_option maxHeartbeats 1600000 in
theorem okr_s1 (C : Nat) (c : Cw) (B : CrB) (w : World) (mo : Int) (hmo : mo = 11 * c.jobs + c.hands.length + 7) (hF : Form c) (u4 u5 u6 u7 u8 u9 u10 u11 u12 u13 u14 u15 : Value) (W : World) (Q : Exit → Act → World → Prop) (hQ : ∀ c a d v w, Q (.panic c) (Act.put a d v) w → Q (.panic c) a w) (hS : Kc w W C c B) (hj : jobsP c) (hend : ∀ a' W' r, Act.eval a' (.tmp 2) = .bool r → a'.defers = [] → (r = true ↔ okP c) → Kc w W' C c B → Q .normal a' W') : wpAnyH Tryz.prog .any okpOps Q (fun W => Kc w W C c B) 28 #[true, true, false, false, false, false, false, false, false, false, false, false, false, false, false, false, false, false, false, false, false, false, false, false, false, false, false, false, false, false] ⟨#[.pointer (some ⟨C, 0, none⟩), undef, .bool false, .int .i64 mo, u4, u5, u6, u7, u8, u9, u10, u11, u12, u13, u14, u15, .pointer (some ⟨C, 0, none⟩), .bool true, undef, undef, undef, undef, undef, undef, undef, undef, undef, undef, undef, undef, undef, undef, undef, undef, undef, undef, undef, undef, undef, undef, undef, undef, undef, undef, undef], []⟩ W := by
  have hs := okpOps_neat
  refine take_anyG 2 (some 18) (.bool true) hs hQ (by kernel_rfl) (by kernel_rfl) (fun w _ => by kernel_rfl) hS ?_
  refine take_anyG 3 (some 19) (.pointer (some ⟨C, 0, none⟩)) hs hQ (by kernel_rfl) (by kernel_rfl) (fun w _ => by kernel_rfl) hS ?_
  refine any_eq (l' := #[true, true, true, true, false, false, false, false, false, false, false, false, false, false, false, false, false, false, false, false, false, false, false, false, false, false, false, false, false, false]) (a' := ⟨#[.pointer (some ⟨C, 0, none⟩), undef, .bool false, .int .i64 mo, u4, u5, u6, u7, u8, u9, u10, u11, u12, u13, u14, u15, .pointer (some ⟨C, 0, none⟩), .bool true, .bool true, .pointer (some ⟨C, 0, none⟩), undef, undef, undef, undef, undef, undef, undef, undef, undef, undef, undef, undef, undef, undef, undef, undef, undef, undef, undef, undef, undef, undef, undef, undef, undef], []⟩) (by kernel_rfl) (by kernel_rfl) ?_
  refine ready_one 4 (by kernel_rfl) ?_
  refine op_enterG (some 20) 103 #[.pointer (some ⟨C, 0, none⟩)] (by kernel_rfl) (by kernel_rfl) (by kernel_rfl) (givenOk_any C c B W hS.cr hF) ?_
  rintro e W1 ⟨⟨r, rfl, hr⟩, hb⟩
  cases r with
  | false => exact ⟨.bool false, rfl, hS.on hb, any_eq (l' := #[true, true, true, true, true, false, false, false, false, false, false, false, false, false, false, false, false, false, false, false, false, false, false, false, false, false, false, false, false, false]) (a' := ⟨#[.pointer (some ⟨C, 0, none⟩), undef, .bool false, .int .i64 mo, u4, u5, u6, u7, u8, u9, u10, u11, u12, u13, u14, u15, .pointer (some ⟨C, 0, none⟩), .bool true, .bool true, .pointer (some ⟨C, 0, none⟩), .bool false, undef, undef, undef, undef, undef, undef, undef, undef, undef, undef, undef, undef, undef, undef, undef, undef, undef, undef, undef, undef, undef, undef, undef, undef], []⟩) (by kernel_rfl) (by kernel_rfl) (okr_f1 C c B w mo u4 u5 u6 u7 u8 u9 u10 u11 u12 u13 u14 u15 W1 Q hQ (hS.on hb) (fun h => Bool.false_ne_true (hr.2 h.2.1)) hend)⟩
  | true => exact ⟨.bool true, rfl, hS.on hb, any_eq (l' := #[true, true, true, true, true, false, false, false, false, false, false, false, false, false, false, false, false, false, false, false, false, false, false, false, false, false, false, false, false, false]) (a' := ⟨#[.pointer (some ⟨C, 0, none⟩), undef, .bool false, .int .i64 mo, u4, u5, u6, u7, u8, u9, u10, u11, u12, u13, u14, u15, .pointer (some ⟨C, 0, none⟩), .bool true, .bool true, .pointer (some ⟨C, 0, none⟩), .bool true, undef, undef, undef, undef, undef, undef, undef, undef, undef, undef, undef, undef, undef, undef, undef, undef, undef, undef, undef, undef, undef, undef, undef, undef], []⟩) (by kernel_rfl) (by kernel_rfl) (okr_s2 C c B w mo hmo hF u4 u5 u6 u7 u8 u9 u10 u11 u12 u13 u14 u15 W1 Q hQ (hS.on hb) hj (hr.1 rfl) hend)⟩
set_option maxRecDepth 100000 in
set_option maxHeartbeats 1600000 in
theorem okr_s0 (C : Nat) (c : Cw) (B : CrB) (w : World) (mo : Int) (hmo : mo = 11 * c.jobs + c.hands.length + 7) (hF : Form c) (u4 u5 u6 u7 u8 u9 u10 u11 u12 u13 u14 u15 : Value) (W : World) (Q : Exit → Act → World → Prop) (hQ : ∀ c a d v w, Q (.panic c) (Act.put a d v) w → Q (.panic c) a w) (hS : Kc w W C c B) (hend : ∀ a' W' r, Act.eval a' (.tmp 2) = .bool r → a'.defers = [] → (r = true ↔ okP c) → Kc w W' C c B → Q .normal a' W') : wpAnyH Tryz.prog .any okpOps Q (fun W => Kc w W C c B) 30 #[false, false, false, false, false, false, false, false, false, false, false, false, false, false, false, false, false, false, false, false, false, false, false, false, false, false, false, false, false, false] ⟨#[.pointer (some ⟨C, 0, none⟩), undef, .bool false, .int .i64 mo, u4, u5, u6, u7, u8, u9, u10, u11, u12, u13, u14, u15, undef, undef, undef, undef, undef, undef, undef, undef, undef, undef, undef, undef, undef, undef, undef, undef, undef, undef, undef, undef, undef, undef, undef, undef, undef, undef, undef, undef, undef], []⟩ W := by
  have hs := okpOps_neat
  refine take_anyG 0 (some 16) (.pointer (some ⟨C, 0, none⟩)) hs hQ (by kernel_rfl) (by kernel_rfl) (fun w _ => by kernel_rfl) hS ?_
  refine any_eq (l' := #[true, false, false, false, false, false, false, false, false, false, false, false, false, false, false, false, false, false, false, false, false, false, false, false, false, false, false, false, false, false]) (a' := ⟨#[.pointer (some ⟨C, 0, none⟩), undef, .bool false, .int .i64 mo, u4, u5, u6, u7, u8, u9, u10, u11, u12, u13, u14, u15, .pointer (some ⟨C, 0, none⟩), undef, undef, undef, undef, undef, undef, undef, undef, undef, undef, undef, undef, undef, undef, undef, undef, undef, undef, undef, undef, undef, undef, undef, undef, undef, undef, undef, undef], []⟩) (by kernel_rfl) (by kernel_rfl) ?_
  refine ready_one 1 (by kernel_rfl) ?_
  refine op_enterG (some 17) 102 #[.pointer (some ⟨C, 0, none⟩)] (by kernel_rfl) (by kernel_rfl) (by kernel_rfl) (jobsOk_any C c B W hS.cr hF) ?_
  rintro e W1 ⟨⟨r, rfl, hr⟩, hb⟩
  cases r with
  | false => exact ⟨.bool false, rfl, hS.on hb, any_eq (l' := #[true, true, false, false, false, false, false, false, false, false, false, false, false, false, false, false, false, false, false, false, false, false, false, false, false, false, false, false, false, false]) (a' := ⟨#[.pointer (some ⟨C, 0, none⟩), undef, .bool false, .int .i64 mo, u4, u5, u6, u7, u8, u9, u10, u11, u12, u13, u14, u15, .pointer (some ⟨C, 0, none⟩), .bool false, undef, undef, undef, undef, undef, undef, undef, undef, undef, undef, undef, undef, undef, undef, undef, undef, undef, undef, undef, undef, undef, undef, undef, undef, undef, undef, undef], []⟩) (by kernel_rfl) (by kernel_rfl) (okr_f0 C c B w mo u4 u5 u6 u7 u8 u9 u10 u11 u12 u13 u14 u15 W1 Q hQ (hS.on hb) (fun h => Bool.false_ne_true (hr.2 h.1)) hend)⟩
  | true => exact ⟨.bool true, rfl, hS.on hb, any_eq (l' := #[true, true, false, false, false, false, false, false, false, false, false, false, false, false, false, false, false, false, false, false, false, false, false, false, false, false, false, false, false, false]) (a' := ⟨#[.pointer (some ⟨C, 0, none⟩), undef, .bool false, .int .i64 mo, u4, u5, u6, u7, u8, u9, u10, u11, u12, u13, u14, u15, .pointer (some ⟨C, 0, none⟩), .bool true, undef, undef, undef, undef, undef, undef, undef, undef, undef, undef, undef, undef, undef, undef, undef, undef, undef, undef, undef, undef, undef, undef, undef, undef, undef, undef, undef], []⟩) (by kernel_rfl) (by kernel_rfl) (okr_s1 C c B w mo hmo hF u4 u5 u6 u7 u8 u9 u10 u11 u12 u13 u14 u15 W1 Q hQ (hS.on hb)  (hr.1 rfl) hend)⟩

set_option maxRecDepth 100000 in
set_option maxHeartbeats 1600000 in
theorem okp_region (C : Nat) (c : Cw) (B : CrB) (w : World) (mo : Int) (hmo : mo = 11 * c.jobs + c.hands.length + 7) (hF : Form c) (u4 u5 u6 u7 u8 u9 u10 u11 u12 u13 u14 u15 : Value) (W0 : World) (Q : Exit → Act → World → Prop) (hQ : ∀ c a d v w, Q (.panic c) (Act.put a d v) w → Q (.panic c) a w) (hS : Kc w W0.drew C c B) (hend : ∀ a' W' r, Act.eval a' (.tmp 2) = .bool r → a'.defers = [] → (r = true ↔ okP c) → Kc w W' C c B → Q .normal a' W') : (Code.region 2 okpOps true).wp Tryz.prog Q ⟨#[.pointer (some ⟨C, 0, none⟩), undef, .bool false, .int .i64 mo, u4, u5, u6, u7, u8, u9, u10, u11, u12, u13, u14, u15, undef, undef, undef, undef, undef, undef, undef, undef, undef, undef, undef, undef, undef, undef, undef, undef, undef, undef, undef, undef, undef, undef, undef, undef, undef, undef, undef, undef, undef], []⟩ W0 := by
  refine wp_region_held (S := fun W => Kc w W C c B) (by kernel_rfl) ?_
  exact any_eq (l' := #[false, false, false, false, false, false, false, false, false, false, false, false, false, false, false, false, false, false, false, false, false, false, false, false, false, false, false, false, false, false]) (by kernel_rfl) rfl (okr_s0 C c B w mo hmo hF u4 u5 u6 u7 u8 u9 u10 u11 u12 u13 u14 u15 _ Q hQ hS hend)
set_option maxRecDepth 100000 in
set_option maxHeartbeats 3200000 in
theorem ok_any (C : Nat) (c : Cw) (B : CrB) (w : World) (h : CrAt w C c B) (hF : Form c) : Calls Tryz.prog 76 #[.pointer (some ⟨C, 0, none⟩)] w fun e w' => RetB e (okP c) ∧ Below w.heap.size w w' := by
  obtain ⟨s1, s2, s3, s4, s5, s6, s7, s8⟩ := hF.small
  have c0 := h.c0; have c4 := h.c4
  obtain ⟨d1, hd1⟩ : ∃ d, d = 11 * c.jobs := ⟨_, rfl⟩
  obtain ⟨d2, hd2⟩ : ∃ d, d = d1 + (c.hands.length : Int) := ⟨_, rfl⟩
  obtain ⟨d3, hd3⟩ : ∃ d, d = d2 + 7 := ⟨_, rfl⟩
  have w1 : IntKind.i64.wrap (11 * c.jobs) = d1 := by rw [wrap_i (by omega) (by omega), hd1]
  have w2 : IntKind.i64.wrap (d1 + (c.hands.length : Int)) = d2 := by rw [wrap_i (by omega) (by omega), hd2]
  have w3 : IntKind.i64.wrap (d2 + 7) = d3 := by rw [wrap_i (by omega) (by omega), hd3]
  have HMO := hide (show d3 = 11 * c.jobs + c.hands.length + 7 from by omega)
  have HKD := hide (fun m => (Kc.start h).dn m)
  have HF := hide hF
  clear h hF hd1 hd2 hd3 s1 s2 s3 s4 s5 s6 s7 s8
  go_enter Tryz.func76, Tryz.ntmps76
  go_upto_region 1 with fail
  go_quiet (fail)
  go_upto_region 2 with fail
  refine wp_swap (c' := Code.region 2 okpOps true) (by kernel_rfl) ?_
  refine wp_region_noPanic ?_
  refine okp_region C c B w d3 (unhide HMO) (unhide HF) _ _ _ _ _ _ _ _ _ _ _ _ _ _ (fun _ _ _ _ _ h => h) ((unhide HKD _).dn 1) ?_
  intro a' W' r ha hd hr hk
  refine NoPanic.normal ?_
  have HR := hide (show RetB (.returned (.bool r)) (okP c) ∧ Below w.heap.size w W' from ⟨⟨r, rfl, hr⟩, hk.bel⟩)
  clear hr hk
  obtain ⟨tm, df⟩ := a'
  simp only at hd
  subst hd
  have HA := hide (show tm.getD 2 undef = .bool r from ha)
  go_wp2_with fail
  refine bodyPost_ret (v := .bool r) ?_ rfl (unhide HR)
  have := unhide HA
  rw [Array.getD_eq_getD_getElem?] at this
  simp [results, Tryz.results76, go_sem, this]
end Go.Proofs.YtibgjcejddpldaaGreat
