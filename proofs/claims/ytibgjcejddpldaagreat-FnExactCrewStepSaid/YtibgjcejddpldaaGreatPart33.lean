/- A part. -/
import Derived.Test.YtibgjcejddpldaaGreatPart31
import Derived.Test.YtibgjcejddpldaaGreatPart32
namespace Go.Proofs.YtibgjcejddpldaaGreat
open Go Go.RowKit Go.Shelf
theorem mvp_mem (who : Nat) : ∀ (xs : List (Bool × Nat × Value)) (i : Nat) (x : Mv), x ∈ mvp who i xs → ∃ j, xs[j]? = some (true, x.f) ∧ x.case = i + j ∧ x.who = who
 | [], _, x, h => by cases h
 | y :: xs, i, x, h => by
   rw [mvp, List.mem_append] at h
   rcases h with h | h
   · obtain ⟨b, f⟩ := y
     cases b with
     | true => simp at h; exact ⟨0, by rw [h]; rfl, by rw [h]; rfl, by rw [h]⟩
     | false => simp at h
   · obtain ⟨j, h1, h2, h3⟩ := mvp_mem who xs (i + 1) x h
     exact ⟨j + 1, by rw [List.getElem?_cons_succ]; exact h1, by omega, h3⟩
theorem movesP_mem (C H : Nat) (c : Cw) : ∀ (k : Nat) (x : Mv), x ∈ movesP C H c k → x.who < k ∧ (pw C H c x.who)[x.case]? = some (true, x.f)
 | 0, x, h => by simp [movesP] at h
 | k + 1, x, h => by
   rw [movesP_succ, List.mem_append] at h
   rcases h with h | h
   · have := movesP_mem C H c k x h
     exact ⟨by omega, this.2⟩
   · obtain ⟨j, h1, h2, h3⟩ := mvp_mem k _ 0 x h
     rw [h3, h2, Nat.zero_add]
     exact ⟨by omega, h1⟩
theorem mvs_mem (who k : Nat) : ∀ (bs : List Bool) (i : Nat), (who, i + k) ∈ mvs who i bs ↔ bs[k]? = some true := by
 intro bs
 induction bs generalizing k with
 | nil => intro i; simp [mvs]
 | cons b bs ih =>
   intro i
   rw [mvs, List.mem_append]
   cases k with
   | zero =>
     rw [List.getElem?_cons_zero]
     constructor
     · rintro (h | h)
       · cases b with
         | true => rfl
         | false => simp at h
       · exfalso
         have : ∀ (l : List Bool) (j : Nat) (p : Nat × Nat), p ∈ mvs who j l → j ≤ p.2 := by
          intro l
          induction l with
          | nil => intro j p hp; simp [mvs] at hp
          | cons a l ih2 =>
            intro j p hp
            rw [mvs, List.mem_append] at hp
            rcases hp with hp | hp
            · cases a with
              | true => simp at hp; rw [hp]; exact Nat.le_refl _
              | false => simp at hp
            · have := ih2 (j + 1) p hp; omega
         have := this bs (i + 1) _ h
         simp at this
         omega
     · intro h
       simp only [Option.some.injEq] at h
       subst h
       left; simp
   | succ k =>
     rw [List.getElem?_cons_succ, ← ih k (i + 1), show i + (k + 1) = i + 1 + k by omega]
     constructor
     · rintro (h | h)
       · exfalso
         cases b with
         | true => simp at h; omega
         | false => simp at h
       · exact h
     · exact Or.inr
theorem mvs_who (who : Nat) : ∀ (bs : List Bool) (i : Nat) (p : Nat × Nat), p ∈ mvs who i bs → p.1 = who
 | [], _, p, h => by simp [mvs] at h
 | b :: bs, i, p, h => by
   rw [mvs, List.mem_append] at h
   rcases h with h | h
   · cases b with
     | true => simp at h; rw [h]
     | false => simp at h
   · exact mvs_who who bs (i + 1) p h
theorem movesU_mem (c : Cw) : ∀ (n who k : Nat), (who, k) ∈ movesU c n ↔ who < n ∧ (ways c who)[k]? = some true
 | 0, who, k => by simp [movesU]
 | n + 1, who, k => by
   rw [movesU_succ, List.mem_append, movesU_mem c n who k]
   constructor
   · rintro (h | h)
     · exact ⟨by omega, h.2⟩
     · have e := mvs_who n _ _ _ h
       simp only at e
       subst e
       have := (mvs_mem who k (ways c who) 0).1 (by rw [Nat.zero_add]; exact h)
       exact ⟨by omega, this⟩
   · rintro ⟨h1, h2⟩
     by_cases e : who = n
     · subst e
       right
       have := (mvs_mem who k (ways c who) 0).2 h2
       rw [Nat.zero_add] at this
       exact this
     · left; exact ⟨by omega, h2⟩
def DoOk (C : Nat) (c : Cw) (B : CrB) (f : Nat × Value) (x : Cw) : Prop := (∀ args w, (callFunc f.1 args).run Tryz.prog w = .ok (.enter f.1 args) w) ∧ ∀ W, CrAt W C c B → Calls Tryz.prog f.1 #[f.2] W (fun e w' => DoEnd W w' e C x B)
theorem doR {C : Nat} {c : Cw} {B : CrB} (hok : okS c) (k : Nat) (f : Nat × Value) (h : (pwR C c)[k]? = some (true, f)) : DoOk C c B f (stR c k) := by
 have hF := ((formS_iff c).1 hok.1).1
 have hop := hF.ops
 have hnx := hF.next; have hsm := hF.small; have hro := hF.room; have hst := hF.st
 have hcl := shut_cls hok
 unfold pwR wayR dvR at h
 rcases (show c.reader = 0 ∨ c.reader = 1 ∨ c.reader = 2 ∨ c.reader = 3 by have := hF.reader; omega) with r | r | r | r
 · by_cases hj : c.next = c.jobs
   · rw [if_pos r, if_pos r, if_pos hj] at h
     rcases k with _ | _ | _ | k
     · simp at h
     · simp at h
     · simp at h
       subst h
       exact ⟨enters_of Tryz.func122 (by kernel_rfl) rfl, fun W hW => by rw [show stR c 2 = { c with reader := 2 } from by simp [stR, r]]; exact readNoMore_do C c B W hW⟩
     · simp at h
   · rw [if_pos r, if_pos r, if_neg hj] at h
     rcases k with _ | _ | _ | k
     · simp at h
       obtain ⟨h1, rfl⟩ := h
       exact ⟨enters_of Tryz.func121 (by kernel_rfl) rfl, fun W hW => by rw [show stR c 0 = { c with room := c.room - 1, next := c.next + 1, reader := 1, ops := c.ops + 1 } from by simp [stR, r]]; exact readOne_do C c B W hW hop ⟨h1, by have := hF.ring; omega⟩ ⟨hnx.1, by omega⟩⟩
     · simp at h
       obtain ⟨-, rfl⟩ := h
       exact ⟨enters_of Tryz.func122 (by kernel_rfl) rfl, fun W hW => by rw [show stR c 1 = { c with reader := 2 } from by simp [stR, r]]; exact readNoMore_do C c B W hW⟩
     · simp at h
     · simp at h
 · have r0 : ¬ c.reader = 0 := by omega
   rw [if_neg r0, if_neg r0, if_pos r, if_pos r] at h
   rcases k with _ | _ | k
   · simp at h
     obtain ⟨h1, rfl⟩ := h
     exact ⟨enters_of Tryz.func124 (by kernel_rfl) rfl, fun W hW => by rw [show stR c 0 = { c with queue := c.queue ++ [c.next - 1], reader := 0, ops := c.ops + 1 } from by simp [stR, r]]; exact sendRead_do C c B W hW hop ⟨hnx.1, by omega⟩ (by have := hF.hands; omega)⟩
   · simp at h
     obtain ⟨-, rfl⟩ := h
     exact ⟨enters_of Tryz.func122 (by kernel_rfl) rfl, fun W hW => by rw [show stR c 1 = { c with reader := 2 } from by simp [stR, r]]; exact readNoMore_do C c B W hW⟩
   · simp at h
 · have r0 : ¬ c.reader = 0 := by omega
   have r1 : ¬ c.reader = 1 := by omega
   rw [if_neg r0, if_neg r0, if_neg r1, if_neg r1, if_pos r, if_pos r] at h
   rcases k with _ | k
   · simp at h
     subst h
     exact ⟨enters_of Tryz.func125 (by kernel_rfl) rfl, fun W hW => by rw [show stR c 0 = { c with reader := 3, shut := c.shut.set 0 1, ops := c.ops + 1 } from by simp [stR, r]]; exact closeQueue_do C c B W hW hop (hcl.1 (by omega))⟩
   · simp at h
 · simp [r] at h
theorem doW {C : Nat} {c : Cw} {B : CrB} (hok : okS c) (i k : Nat) (hi : i < c.hands.length) (f : Nat × Value) (h : (pwW C B.H i c (c.hands.getD i ⟨0, 0⟩))[k]? = some (true, f)) : DoOk C c B f (stW c i k) := by
 have hF := ((formS_iff c).1 hok.1).1
 have hop := hF.ops
 have hrg : 0 ≤ (c.hands.getD i ⟨0, 0⟩).state ∧ (c.hands.getD i ⟨0, 0⟩).state ≤ 3 := by
  rw [List.getD_eq_getElem?_getD, List.getElem?_eq_getElem hi]
  exact (hF.handsOk _ (List.getElem_mem hi)).1
 unfold pwW wayW dvW at h
 rcases (show (c.hands.getD i ⟨0, 0⟩).state = 0 ∨ (c.hands.getD i ⟨0, 0⟩).state = 1 ∨ (c.hands.getD i ⟨0, 0⟩).state = 2 ∨ (c.hands.getD i ⟨0, 0⟩).state = 3 by omega) with r | r | r | r
 · rw [if_pos r, if_pos r] at h
   rcases k with _ | _ | _ | k
   · simp only [List.zip_cons_cons, List.getElem?_cons_zero, Option.some.injEq, Prod.mk.injEq, decide_eq_true_eq] at h
     obtain ⟨h1, rfl⟩ := h
     obtain ⟨z, l, hq⟩ := List.exists_cons_of_length_pos h1
     exact ⟨enters_of Tryz.func126 (by kernel_rfl) rfl, fun W hW => by rw [show stW c i 0 = { c with queue := l, hands := c.hands.set i ⟨1, z⟩, ops := c.ops + 1 } from by unfold stW; rw [if_neg (by omega), if_neg (by omega), if_pos r, hq]; rfl]; exact takeJob_do C c B i W hW hi hop z l hq⟩
   · simp only [List.zip_cons_cons, List.getElem?_cons_succ, List.getElem?_cons_zero, Option.some.injEq, Prod.mk.injEq] at h
     obtain ⟨-, rfl⟩ := h
     exact ⟨enters_of Tryz.func127 (by kernel_rfl) rfl, fun W hW => by rw [show stW c i 1 = { c with hands := c.hands.set i ⟨3, 0⟩ } from by unfold stW; rw [if_pos rfl]]; exact end_do C c B i W hW hi⟩
   · simp only [List.zip_cons_cons, List.getElem?_cons_succ, List.getElem?_cons_zero, Option.some.injEq, Prod.mk.injEq] at h
     obtain ⟨-, rfl⟩ := h
     exact ⟨enters_of Tryz.func128 (by kernel_rfl) rfl, fun W hW => by rw [show stW c i 2 = { c with hands := c.hands.set i ⟨3, 0⟩, ops := c.ops + 1 } from by unfold stW; rw [if_neg (by omega), if_pos (by omega)]]; exact seeEnd_do C c B i W hW hi hop⟩
   · simp at h
 · have r0 : ¬ (c.hands.getD i ⟨0, 0⟩).state = 0 := by omega
   rw [if_neg r0, if_neg r0, if_pos r, if_pos r] at h
   rcases k with _ | k
   · simp only [List.zip_cons_cons, List.getElem?_cons_zero, Option.some.injEq, Prod.mk.injEq, true_and] at h
     subst h
     exact ⟨enters_of Tryz.func129 (by kernel_rfl) rfl, fun W hW => by rw [show stW c i 0 = { c with hands := c.hands.set i ⟨2, (c.hands.getD i ⟨0, 0⟩).job⟩ } from by unfold stW; rw [if_neg (by omega), if_neg (by omega), if_neg r0, if_pos r]]; exact doJob_do C c B i W hW hi⟩
   · simp at h
 · have r0 : ¬ (c.hands.getD i ⟨0, 0⟩).state = 0 := by omega
   have r1 : ¬ (c.hands.getD i ⟨0, 0⟩).state = 1 := by omega
   rw [if_neg r0, if_neg r0, if_neg r1, if_neg r1, if_pos r, if_pos r] at h
   rcases k with _ | _ | k
   · simp only [List.zip_cons_cons, List.getElem?_cons_zero, Option.some.injEq, Prod.mk.injEq, decide_eq_true_eq] at h
     obtain ⟨h1, rfl⟩ := h
     exact ⟨enters_of Tryz.func130 (by kernel_rfl) rfl, fun W hW => by rw [show stW c i 0 = { c with results := c.results ++ [(c.hands.getD i ⟨0, 0⟩).job], hands := c.hands.set i ⟨0, 0⟩, ops := c.ops + 1 } from by unfold stW; rw [if_neg (by omega), if_neg (by omega), if_neg r0, if_neg r1]]; exact giveJob_do C c B i W hW hi hop (by have := hF.hands; omega)⟩
   · simp only [List.zip_cons_cons, List.getElem?_cons_succ, List.getElem?_cons_zero, Option.some.injEq, Prod.mk.injEq] at h
     obtain ⟨-, rfl⟩ := h
     exact ⟨enters_of Tryz.func127 (by kernel_rfl) rfl, fun W hW => by rw [show stW c i 1 = { c with hands := c.hands.set i ⟨3, 0⟩ } from by unfold stW; rw [if_pos rfl]]; exact end_do C c B i W hW hi⟩
   · simp at h
 · have r0 : ¬ (c.hands.getD i ⟨0, 0⟩).state = 0 := by omega
   have r1 : ¬ (c.hands.getD i ⟨0, 0⟩).state = 1 := by omega
   have r2 : ¬ (c.hands.getD i ⟨0, 0⟩).state = 2 := by omega
   rw [if_neg r0, if_neg r0, if_neg r1, if_neg r1, if_neg r2, if_neg r2] at h
   simp at h
theorem doC {C : Nat} {c : Cw} {B : CrB} (hok : okS c) (k : Nat) (f : Nat × Value) (h : (pwC C c)[k]? = some (true, f)) : DoOk C c B f (stC c) := by
 have hF := ((formS_iff c).1 hok.1).1
 have hop := hF.ops
 have hcl := shut_cls hok
 unfold pwC at h
 by_cases r : c.closer = 1
 · rw [if_pos r] at h; simp at h
 · rw [if_neg r] at h
   rcases k with _ | k
   · simp only [List.getElem?_cons_zero, Option.some.injEq, Prod.mk.injEq] at h
     obtain ⟨-, rfl⟩ := h
     exact ⟨enters_of Tryz.func131 (by kernel_rfl) rfl, fun W hW => closeResults_do C c B W hW hop (hcl.2.1 r)⟩
   · simp at h
theorem results_nonneg {c : Cw} (hok : okS c) : ∀ z, z ∈ c.results → 0 ≤ z := fun z hz => by
 have hF := ((formS_iff c).1 hok.1).1
 have hj := hok.2.1.1
 obtain ⟨n, hn, rfl⟩ := List.mem_iff_getElem.1 (show z ∈ placesL c from by unfold placesL; simp [hz])
 have := (hj n hn).1
 have := hF.due.1
 omega
theorem doK {C : Nat} {c : Cw} {B : CrB} (hok : okS c) (k : Nat) (f : Nat × Value) (h : (pwK C c)[k]? = some (true, f)) : DoOk C c B f (stK c k) := by
 have hF := ((formS_iff c).1 hok.1).1
 have hop := hF.ops
 have hsm := hF.small; have hro := hF.room; have hdu := hF.due; have hnx := hF.next; have hst := hF.st; have hou := hF.out
 have hcl := shut_cls hok
 unfold pwK wayK dvK at h
 have keepOne : stK c 1 = { c with keeper := 4 } := by unfold stK; rw [if_pos rfl]
 rcases (show c.keeper = 0 ∨ c.keeper = 1 ∨ c.keeper = 2 ∨ c.keeper = 3 ∨ c.keeper = 4 ∨ c.keeper = 5 by have := hF.keeper; omega) with r | r | r | r | r | r
 · rw [if_pos r, if_pos r] at h
   rcases k with _ | _ | _ | k
   · simp only [List.zip_cons_cons, List.getElem?_cons_zero, Option.some.injEq, Prod.mk.injEq, decide_eq_true_eq] at h
     obtain ⟨h1, rfl⟩ := h
     obtain ⟨z, l, hq⟩ := List.exists_cons_of_length_pos h1
     obtain ⟨j, rfl⟩ : ∃ j : Nat, z = j := ⟨z.toNat, by have := results_nonneg hok z (by rw [hq]; simp); omega⟩
     exact ⟨enters_of Tryz.func132 (by kernel_rfl) rfl, fun W hW => by rw [show stK c 0 = { c with results := l, ring := c.ring.set (j % c.ring.length) (j : Int), keeper := 1, ops := c.ops + 1 } from by unfold stK rgJ; rw [if_neg (by omega), if_neg (by omega), if_pos r, hq]; rfl]; exact keepResult_do C c B W hW hop j l hq⟩
   · simp only [List.zip_cons_cons, List.getElem?_cons_succ, List.getElem?_cons_zero, Option.some.injEq, Prod.mk.injEq] at h
     obtain ⟨-, rfl⟩ := h
     exact ⟨enters_of Tryz.func133 (by kernel_rfl) rfl, fun W hW => by rw [keepOne]; exact keepNoMore_do C c B W hW⟩
   · simp only [List.zip_cons_cons, List.getElem?_cons_succ, List.getElem?_cons_zero, Option.some.injEq, Prod.mk.injEq] at h
     obtain ⟨-, rfl⟩ := h
     exact ⟨enters_of Tryz.func134 (by kernel_rfl) rfl, fun W hW => by rw [show stK c 2 = { c with keeper := 4, ops := c.ops + 1 } from by unfold stK; rw [if_neg (by omega), if_pos (by omega)]]; exact seeResultsEnd_do C c B W hW hop⟩
   · simp at h
 · have r0 : ¬ c.keeper = 0 := by omega
   have r2 : ¬ c.keeper = 2 := by omega
   have r5 : ¬ c.keeper = 5 := by omega
   rw [if_neg r0, if_neg r0, if_neg r2, if_neg r2, if_neg r5, if_neg r5, if_pos r] at h
   rcases k with _ | k
   · simp only [List.zip_cons_cons, List.getElem?_cons_zero, Option.some.injEq, Prod.mk.injEq, true_and] at h
     subst h
     exact ⟨enters_of Tryz.func135 (by kernel_rfl) rfl, fun W hW => by rw [show stK c 0 = { c with keeper := if dueIn c then 2 else 0 } from by unfold stK; rw [if_neg (by omega), if_neg (by omega), if_neg r0, if_pos r]]; exact checkRing_do C c B W hW hdu.1⟩
   · simp at h
 · have r0 : ¬ c.keeper = 0 := by omega
   have r1 : ¬ c.keeper = 1 := by omega
   rw [if_neg r0, if_neg r0, if_pos r, if_pos r] at h
   rcases k with _ | _ | k
   · simp only [List.zip_cons_cons, List.getElem?_cons_zero, Option.some.injEq, Prod.mk.injEq, decide_eq_true_eq] at h
     obtain ⟨h1, rfl⟩ := h
     obtain ⟨d, hd⟩ : ∃ d : Nat, c.due = d := ⟨c.due.toNat, by omega⟩
     exact ⟨enters_of Tryz.func136 (by kernel_rfl) rfl, fun W hW => by rw [show stK c 0 = { c with ring := c.ring.set (d % c.ring.length) (-1), out := c.out ++ [c.due], due := c.due + 1, keeper := 3, ops := c.ops + 1 } from by unfold stK dueAt; rw [if_neg (by omega), if_neg (by omega), if_neg r0, if_neg r1, if_pos r, hd]; rfl]; exact giveDue_do C c B W hW hop d hd (by omega) (by omega)⟩
   · simp only [List.zip_cons_cons, List.getElem?_cons_succ, List.getElem?_cons_zero, Option.some.injEq, Prod.mk.injEq] at h
     obtain ⟨-, rfl⟩ := h
     exact ⟨enters_of Tryz.func133 (by kernel_rfl) rfl, fun W hW => by rw [keepOne]; exact keepNoMore_do C c B W hW⟩
   · simp at h
 · have r0 : ¬ c.keeper = 0 := by omega
   have r1 : ¬ c.keeper = 1 := by omega
   have r2 : ¬ c.keeper = 2 := by omega
   have r5 : ¬ c.keeper = 5 := by omega
   rw [if_neg r0, if_neg r0, if_neg r2, if_neg r2, if_neg r5, if_neg r5, if_neg r1, if_pos r] at h
   rcases k with _ | k
   · simp only [List.zip_cons_cons, List.getElem?_cons_zero, Option.some.injEq, Prod.mk.injEq, true_and] at h
     subst h
     exact ⟨enters_of Tryz.func137 (by kernel_rfl) rfl, fun W hW => by rw [show stK c 0 = { c with room := c.room + 1, keeper := 1, ops := c.ops + 1 } from by unfold stK; rw [if_neg (by omega), if_neg (by omega), if_neg r0, if_neg r1, if_neg r2, if_pos r]]; exact giveRoom_do C c B W hW hop ⟨hro.1, by have := hF.ring; omega⟩⟩
   · simp at h
 · have r0 : ¬ c.keeper = 0 := by omega
   have r1 : ¬ c.keeper = 1 := by omega
   have r2 : ¬ c.keeper = 2 := by omega
   have r3 : ¬ c.keeper = 3 := by omega
   have r5 : ¬ c.keeper = 5 := by omega
   rw [if_neg r0, if_neg r0, if_neg r2, if_neg r2, if_neg r5, if_neg r5, if_neg r1, if_neg r3] at h
   rcases k with _ | k
   · simp only [List.zip_cons_cons, List.getElem?_cons_zero, Option.some.injEq, Prod.mk.injEq, true_and] at h
     subst h
     exact ⟨enters_of Tryz.func138 (by kernel_rfl) rfl, fun W hW => by rw [show stK c 0 = { c with keeper := 5, shut := c.shut.set 2 1, ops := c.ops + 1 } from by unfold stK; rw [if_neg (by omega), if_neg (by omega), if_neg r0, if_neg r1, if_neg r2, if_neg r3]]; exact closeOut_do C c B W hW hop (hcl.2.2 (by omega))⟩
   · simp at h
 · have r0 : ¬ c.keeper = 0 := by omega
   have r2 : ¬ c.keeper = 2 := by omega
   rw [if_neg r0, if_neg r0, if_neg r2, if_neg r2, if_pos r, if_pos r] at h
   simp at h
theorem doU {C : Nat} {c : Cw} {B : CrB} (hok : okS c) (k : Nat) (f : Nat × Value) (h : (pwU C c)[k]? = some (true, f)) : DoOk C c B f (stU c k) := by
 have hF := ((formS_iff c).1 hok.1).1
 have hop := hF.ops
 have hou := hF.out
 have hgl := ((formS_iff c).1 hok.1).2
 have hsm := hF.small
 unfold pwU wayU dvU at h
 by_cases r : c.user = 1
 · rw [if_pos r, if_pos r] at h; simp at h
 · rw [if_neg r, if_neg r] at h
   rcases k with _ | _ | k
   · simp only [List.zip_cons_cons, List.getElem?_cons_zero, Option.some.injEq, Prod.mk.injEq, decide_eq_true_eq] at h
     obtain ⟨h1, rfl⟩ := h
     obtain ⟨z, l, hq⟩ := List.exists_cons_of_length_pos h1
     have hl : l = [] := by
      rw [hq, List.length_cons] at hou
      exact List.eq_nil_of_length_eq_zero (by omega)
     subst hl
     exact ⟨enters_of Tryz.func139 (by kernel_rfl) rfl, fun W hW => by rw [show stU c 0 = { c with got := c.got ++ [z], out := [], ops := c.ops + 1 } from by unfold stU; rw [if_pos rfl, hq]; rfl]; exact takeOut_do C c B W hW hop z [] hq (by omega)⟩
   · simp only [List.zip_cons_cons, List.getElem?_cons_succ, List.getElem?_cons_zero, Option.some.injEq, Prod.mk.injEq] at h
     obtain ⟨-, rfl⟩ := h
     exact ⟨enters_of Tryz.func140 (by kernel_rfl) rfl, fun W hW => by rw [show stU c 1 = { c with user := 1, ops := c.ops + 1 } from by unfold stU; rw [if_neg (by omega)]]; exact seeOutEnd_do C c B W hW hop⟩
   · simp at h
theorem do_any {C : Nat} {c : Cw} {B : CrB} (hok : okS c) (x : Mv) (hx : x ∈ movesP C B.H c (c.hands.length + 4)) : DoOk C c B x.f (stD c x.who x.case) := by
 obtain ⟨h1, h2⟩ := movesP_mem C B.H c _ x hx
 unfold pw at h2
 unfold stD
 by_cases e0 : x.who = 0
 · rw [if_pos e0] at h2 ⊢
   exact doR hok _ _ h2
 rw [if_neg e0] at h2 ⊢
 by_cases e1 : x.who ≤ c.hands.length
 · rw [if_pos e1] at h2 ⊢
   exact doW hok _ _ (by omega) _ h2
 rw [if_neg e1] at h2 ⊢
 by_cases e2 : x.who = c.hands.length + 1
 · rw [if_pos e2] at h2 ⊢
   exact doC hok _ _ h2
 rw [if_neg e2] at h2 ⊢
 by_cases e3 : x.who = c.hands.length + 2
 · rw [if_pos e3] at h2 ⊢
   exact doK hok _ _ h2
 rw [if_neg e3] at h2 ⊢
 exact doU hok _ _ h2
theorem ready_iff {C : Nat} {c : Cw} {B : CrB} (hok : okS c) (who k : Nat) : (∃ x, x ∈ movesP C B.H c (c.hands.length + 4) ∧ x.who = who ∧ x.case = k) ↔ mvOk c who k := by
 have hF := ((formS_iff c).1 hok.1).1
 unfold mvOk
 rw [← movesU_mem, ← movesP_key C B.H hF.closer, List.mem_map]
 constructor
 · rintro ⟨x, h1, rfl, rfl⟩
   exact ⟨x, h1, rfl⟩
 · rintro ⟨x, h1, h2⟩
   simp only [Mv.key, Prod.mk.injEq] at h2
   exact ⟨x, h1, h2.1, h2.2⟩
end Go.Proofs.YtibgjcejddpldaaGreat
