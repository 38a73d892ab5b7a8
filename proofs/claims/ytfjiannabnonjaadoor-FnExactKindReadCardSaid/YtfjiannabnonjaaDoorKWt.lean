/- How much a schema that was read weighs: no more than its text. No program, no conditions. -/
import Derived.Test.YtfjiannabnonjaaDoorKRead
namespace Go.Proofs.YtfjiannabnonjaaDoor
open Go Go.RowKit

theorem wS_snoc (l : List ByteArray) (x : ByteArray) : wS (l ++ [x]) = wS l + (x.size + 1) := by
  induction l with
  | nil => simp [wS]
  | cons a r ih => simp only [List.cons_append, wS, ih]; omega
theorem wKs_snoc (l : List Kd) (x : Kd) : wKs (l ++ [x]) = wKs l + (wKd x + 1) := by
  induction l with
  | nil => simp [wKs]; omega
  | cons a r ih => simp only [List.cons_append, wKs, ih]; omega

theorem klp_wt (rd : List UInt8 → Option (Kd × List UInt8)) (hrd : ∀ i k r, rd i = some (k, r) → wKd k + 1 + r.length ≤ i.length) :
    ∀ (f : Nat) (ns : List ByteArray) (ks : List Kd) (inp : List UInt8) (ns' : List ByteArray) (ks' : List Kd) (rest : List UInt8), klp rd f ns ks inp = some (ns', ks', rest) →
      wS ns' + wKs ks' + rest.length + 1 ≤ wS ns + wKs ks + inp.length
  | 0, ns, ks, inp, ns', ks', rest => by intro h; rw [klp] at h; cases h
  | f + 1, ns, ks, inp, ns', ks', rest => by
    intro h
    rw [klp] at h
    split at h
    · rename_i h1
      cases h
      have := congrArg List.length (khead h1)
      simp only [List.length_cons] at this
      omega
    · split at h
      · cases h
      · rename_i i1 hc
        split at h
        · cases h
        · rename_i nm i2 hn
          split at h
          · cases h
          · rename_i t i3 hr
            have h1 := klp_wt rd hrd f _ _ _ _ _ _ h
            have h2 := hrd _ _ _ hr
            have l1 := congrArg List.length (kcma_some hc)
            have l2 := congrArg List.length (knam_some hn)
            rw [wS_snoc, wKs_snoc] at h1
            simp only [List.length_append, List.length_cons, List.length_nil] at l1 l2
            have l3 : nm.data.toList.length = nm.size := rfl
            omega

theorem krd_wt : ∀ (d : Nat) (inp : List UInt8) (k : Kd) (rest : List UInt8), krd d inp = some (k, rest) → wKd k + 1 + rest.length ≤ inp.length
  | 0, inp, k, rest => by intro h; rw [krd] at h; cases h
  | d + 1, inp, k, rest => by
    intro h
    have hwk : ∀ s (k : Kd), wKd (.mk s [] [k]) = wKd k + 1 := fun s k => by simp [wKd, wKs, wS]; omega
    have hw0 : ∀ s, wKd (.mk s [] []) = 0 := fun s => by simp [wKd, wKs, wS]
    rw [krd] at h
    split at h
    · rename_i h1
      cases h
      have := congrArg List.length (kpre h1)
      simp only [List.length_append, List.length_cons, List.length_nil, Nat.reduceAdd, Nat.zero_add] at this
      rw [hw0]; omega
    · split at h
      · rename_i h1
        cases h
        have := congrArg List.length (kpre h1)
        simp only [List.length_append, List.length_cons, List.length_nil, Nat.reduceAdd, Nat.zero_add] at this
        rw [hw0]; omega
      · split at h
        · rename_i h1
          cases h
          have := congrArg List.length (kpre h1)
          simp only [List.length_append, List.length_cons, List.length_nil, Nat.reduceAdd, Nat.zero_add] at this
          rw [hw0]; omega
        · split at h
          · rename_i h1
            split at h
            · cases h
            · rename_i k' r' hk
              split at h
              · rename_i h2
                cases h
                have e := krd_wt d _ _ _ hk
                have e1 := congrArg List.length (khead h1)
                have e2 := congrArg List.length (khead h2)
                simp only [List.length_cons] at e1 e2
                rw [hwk]; omega
              · cases h
          · split at h
            · rename_i h1
              split at h
              · cases h
              · rename_i k' r' hk
                cases h
                have e := krd_wt d _ _ _ hk
                have e1 := congrArg List.length (khead h1)
                simp only [List.length_cons] at e1
                rw [hwk]; omega
            · split at h
              · rename_i h1
                split at h
                · cases h
                · rename_i ns ks r' hk
                  cases h
                  have e := klp_wt (krd d) (krd_wt d) _ _ _ _ _ _ _ hk
                  have e1 := congrArg List.length (khead h1)
                  simp only [List.length_cons, wS, wKs] at e1 e
                  rw [wKd]; omega
              · cases h
end Go.Proofs.YtfjiannabnonjaaDoor
