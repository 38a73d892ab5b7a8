/- Events that are gathered in a row of a call's own, each with the blocks of its tree. Definitions and small laws, no program walked. No conditions. -/
import Derived.Test.YtiflfcjocngiiaaGreatDoorPart20
import Derived.Test.YtiflfcjocngiiaaGreatDoorPart02
import Derived.Test.YtiflfcjocngiiaaGreatDoorRows
import Derived.Test.YtiflfcjocngiiaaGreatDoorPart00
import Derived.Deep.OwnRows
import Derived.Deep.RegionWith
import Derived.Test.YtiflfcjocngiiaaGreatDoorPart10
import Derived.Test.YtiflfcjocngiiaaGreatDoorPart19
import Derived.Test.YtiflfcjocngiiaaGreatDoorPart03
namespace Go.Proofs.YtiflfcjocngiiaaGreatDoor
open Go Go.RowKit

/-- The seven cells of an event. -/
def ecs (e : Ev) (c : C5) : List Value := [.string e.ty, .int .i64 e.ver, c.c0, c.c1, c.c2, c.c3, c.c4]
/-- Events gathered in a row of a call's own. -/
structure GotE (lo : Nat) (W : World) (u : Value) (es : List Ev) (cs : List C5) (Fs : List (List Nat)) : Prop where
  lc : cs.length = es.length
  lf : Fs.length = es.length
  row : W.ownsRow lo 41 7 u es.length ((List.zipWith ecs es cs).flatten)
  own : ∀ i, (h : i < es.length) → Own W es[i].t (cs[i]'(by rw [lc]; exact h)) (Fs[i]'(by rw [lf]; exact h)) ∧ es[i].ty.size ≤ 9223372036854775807 ∧ I64 es[i].ver
  nd : Fs.flatten.Nodup
  lt : ∀ x, x ∈ Fs.flatten → lo ≤ x ∧ x < W.heap.size ∧ u.ownBlock ≠ some x
theorem GotE.nil (lo : Nat) (W : World) : GotE lo W (.slice none 0 0) [] [] [] := ⟨rfl, rfl, ⟨rfl, Or.inl ⟨rfl, rfl⟩⟩, fun i h => by simp at h, by simp, fun x hx => by simp at hx⟩
theorem ownsE_keep {w w' : World} {base : Nat} {e : TypeId} {size : Nat} {v : Value} {n : Nat} {xs : List Value} (h : w.ownsRow base e size v n xs) (hk : ∀ g, v.ownBlock = some g → w'.heap[g]? = w.heap[g]?) : w'.ownsRow base e size v n xs := by
  refine ⟨h.1, ?_⟩
  rcases h.2 with h0 | ⟨g, cap, cur, hv, hb, hh, hr⟩
  · exact Or.inl h0
  · exact Or.inr ⟨g, cap, cur, hv, hb, by rw [hk g (by rw [hv]; rfl)]; exact hh, hr⟩
section
variable {lo : Nat} {W W' : World} {u : Value} {es : List Ev} {cs : List C5} {Fs : List (List Nat)}
theorem GotE.mem (h : GotE lo W u es cs Fs) {i : Nat} (hi : i < es.length) {x : Nat} (hx : x ∈ Fs[i]'(by rw [h.lf]; exact hi)) : x ∈ Fs.flatten := List.mem_flatten.2 ⟨_, List.getElem_mem _, hx⟩
theorem GotE.keep (h : GotE lo W u es cs Fs) (hs : W.heap.size ≤ W'.heap.size) (hk : ∀ b, lo ≤ b → b < W.heap.size → W'.heap[b]? = W.heap[b]?) : GotE lo W' u es cs Fs :=
  ⟨h.lc, h.lf, ownsE_keep h.row (fun g e => hk g (h.row.lt g e).1 (h.row.lt g e).2), fun i hi => ⟨Own.carry _ _ _ (fun x hx => hk x (h.lt x (h.mem hi hx)).1 (h.lt x (h.mem hi hx)).2.1) (h.own i hi).1, (h.own i hi).2⟩, h.nd, fun x hx => ⟨(h.lt x hx).1, Nat.lt_of_lt_of_le (h.lt x hx).2.1 hs, (h.lt x hx).2.2⟩⟩
/-- Another event stands behind the events. -/
theorem GotE.add {u' : Value} {ob : Obj} {e : Ev} {c : C5} {F : List Nat} (h : GotE lo W u es cs Fs) (ho : Own W e.t c F) (hty : e.ty.size ≤ 9223372036854775807) (hver : I64 e.ver) (hnd : F.Nodup) (hF : ∀ x, x ∈ F → lo ≤ x ∧ x < W.heap.size ∧ x ∉ Fs.flatten ∧ u.ownBlock ≠ some x)
    (hown : W'.ownsRow lo 41 7 u' (es.length + 1) ((List.zipWith ecs es cs).flatten ++ ecs e c)) (hg : (W.alloc ob).grownBy W' u.ownBlock) (hat : u'.ownBlock = u.ownBlock ∨ ∀ x, u'.ownBlock = some x → W.heap.size ≤ x) : GotE lo W' u' (es ++ [e]) (cs ++ [c]) (Fs ++ [F]) := by
  have hs : ∀ b, b < W.heap.size → u.ownBlock ≠ some b → W'.heap[b]? = W.heap[b]? := fun b hb hne => by
    rw [hg.block b (by rw [World.size_alloc]; omega) (fun e => hne e.symm), Below.heap_alloc _ _ _ hb]
  have hsz := hg.size
  rw [World.size_alloc] at hsz
  have hne : ∀ x, x < W.heap.size → u.ownBlock ≠ some x → u'.ownBlock ≠ some x := fun x hx h1 e2 => by
    rcases hat with h2 | h2
    · exact h1 (h2 ▸ e2)
    · have := h2 x e2; omega
  refine ⟨by simp [h.lc], by simp [h.lf], ?_, fun i hi => ?_, ?_, fun x hx => ?_⟩
  · rw [List.zipWith_append (by rw [h.lc]), List.flatten_append, List.length_append]
    simpa using hown
  · by_cases hi2 : i < es.length
    · have := h.own i hi2
      rw [List.getElem_append_left hi2, List.getElem_append_left (by rw [h.lc]; exact hi2), List.getElem_append_left (by rw [h.lf]; exact hi2)]
      exact ⟨Own.carry _ _ _ (fun x hx => hs x (h.lt x (h.mem hi2 hx)).2.1 (h.lt x (h.mem hi2 hx)).2.2) this.1, this.2⟩
    · obtain rfl : i = es.length := by simp only [List.length_append, List.length_cons, List.length_nil] at hi; omega
      have e1 : (es ++ [e])[es.length]'hi = e := by simp
      have e2 : (cs ++ [c])[es.length]'(by simp [h.lc]) = c := by
        rw [List.getElem_append_right (by rw [h.lc]; exact Nat.le_refl _)]; simp
      have e3 : (Fs ++ [F])[es.length]'(by simp [h.lf]) = F := by
        rw [List.getElem_append_right (by rw [h.lf]; exact Nat.le_refl _)]; simp
      rw [e1, e2, e3]
      exact ⟨Own.carry _ _ _ (fun x hx => hs x (hF x hx).2.1 (hF x hx).2.2.2) ho, hty, hver⟩
  · rw [List.flatten_append]
    simp only [List.flatten_cons, List.flatten_nil, List.append_nil]
    exact List.nodup_append.2 ⟨h.nd, hnd, fun a ha b hb e => (hF b hb).2.2.1 (e ▸ ha)⟩
  · rw [List.flatten_append] at hx
    simp only [List.flatten_cons, List.flatten_nil, List.append_nil, List.mem_append] at hx
    rcases hx with hx | hx
    · have := h.lt x hx
      exact ⟨this.1, by omega, hne x this.2.1 this.2.2⟩
    · have := hF x hx
      exact ⟨this.1, by omega, hne x this.2.1 this.2.2.2⟩
theorem zip_len : ∀ (es : List Ev) (cs : List C5), ∀ r, r ∈ List.zipWith ecs es cs → r.length = 7
  | [], _, r, h => by simp at h
  | _ :: _, [], r, h => by simp at h
  | e :: es, c :: cs, r, h => by
    simp only [List.zipWith_cons_cons, List.mem_cons] at h
    rcases h with rfl | h
    · rfl
    · exact zip_len es cs r h
/-- Events that were gathered own their memory. -/
theorem GotE.evs (h : GotE lo W u es cs Fs) (hl : es.length ≤ 1048576) : ∃ F, EvsOwn W u es F ∧ F.Nodup ∧ ∀ x, x ∈ F → lo ≤ x ∧ x < W.heap.size := by
  rcases h.row.2 with ⟨hv, h0⟩ | ⟨g, cap, cur, hv, hb, hg, hle, _⟩
  · obtain rfl : es = [] := List.eq_nil_of_length_eq_zero h0
    exact ⟨[], ⟨none, 0, hv, by simp, Or.inl ⟨rfl, rfl⟩⟩, by simp, fun x hx => by simp at hx⟩
  · have hgl : g < W.heap.size := (Array.getElem?_eq_some_iff.1 hg).1
    have hfr : FreeB W g := fun o => by simp [World.frozen?, hg]
    have hz : (List.zipWith ecs es cs).length = es.length := by simp [h.lc]
    have hcell : ∀ i, (hi : i < es.length) → E7at W g (i * 7) es[i].ty es[i].ver (cs[i]'(by rw [h.lc]; exact hi)) := fun i hi => by
      have hr := h.row
      rw [hv] at hr
      have hj : ∀ j, j < 7 → W.cell? ⟨g, i * 7 + j, none⟩ = some ((ecs es[i] (cs[i]'(by rw [h.lc]; exact hi))).getD j undef) := fun j hj => by
        rw [hr.cellAt (i * 7 + j) (by omega), flat_get (n := 7) (List.zipWith ecs es cs) (zip_len es cs) i (by rw [hz]; exact hi) j hj]
        simp
      exact ⟨hj 0 (by omega), hj 1 (by omega), hj 2 (by omega), hj 3 (by omega), hj 4 (by omega), hj 5 (by omega), hj 6 (by omega)⟩
    have hall : ∀ n, n ≤ es.length → OwnE W g 0 (es.take n) (Fs.take n).flatten := fun n => by
      induction n with
      | zero => intro _; simp [OwnE]
      | succ n ih =>
        intro hn
        have hi : n < es.length := by omega
        have hf : n < Fs.length := by rw [h.lf]; exact hi
        rw [List.take_succ_eq_append_getElem hi, List.take_succ_eq_append_getElem hf, List.flatten_append]
        simp only [List.flatten_cons, List.flatten_nil, List.append_nil]
        refine OwnE.snoc (h.own n hi).1 (h.own n hi).2.1 (h.own n hi).2.2 _ 0 _ (ih (by omega)) ?_
        rw [List.length_take, Nat.min_eq_left (by omega), show 0 + 7 * n = n * 7 by omega]
        exact hcell n hi
    have h1 := hall es.length (Nat.le_refl _)
    rw [List.take_length, ← h.lf, List.take_length] at h1
    refine ⟨g :: Fs.flatten, ⟨_, cap, hv, by omega, Or.inr ⟨g, Fs.flatten, rfl, rfl, hfr, h1⟩⟩, List.nodup_cons.2 ⟨fun hm => (h.lt g hm).2.2 (by rw [hv]; rfl), h.nd⟩, fun x hx => ?_⟩
    simp only [List.mem_cons] at hx
    rcases hx with rfl | hx
    · exact ⟨hb, hgl⟩
    · exact ⟨(h.lt x hx).1, (h.lt x hx).2.1⟩
end
end Go.Proofs.YtiflfcjocngiiaaGreatDoor

/- The walk of the law's own eqStringS: two slices of the same strings are the same. No conditions. -/

namespace Go.Proofs.YtiflfcjocngiiaaGreatDoor
open Go Go.RowKit

set_option maxHeartbeats 400000 in
theorem eqStringS_any (v u : Value) (ss : List ByteArray) (w : World) {P Q : Nat → Prop} (hv : StrsAt P w v ss) (hu : StrsAt Q w u ss) (hP : ∀ b, P b → b < w.heap.size) (hQ : ∀ b, Q b → b < w.heap.size) :
    Calls Tryz.prog 61 #[v, u] w fun e w' => e = .returned (.bool true) ∧ Below w.heap.size w w' := by
  obtain ⟨a, cap, rfl, hlen, hc⟩ := hv
  obtain ⟨a2, cap2, rfl, -, hc2⟩ := hu
  have HC := hide hc; have HC2 := hide hc2; have HP := hide hP; have HQ := hide hQ
  clear hc hc2 hP hQ
  have hne : ((ss.length : Int) != (ss.length : Int)) = false := by simp
  go_enter Tryz.func61, Tryz.ntmps61
  go_wp2_with fail
  clear hne
  go_loopw [5] (fun i wr => ∃ (k : Nat), k ≤ ss.length ∧ i = .int .i64 k ∧ Below w.heap.size w wr) (fun i _ => ss.length - (intOf i).toNat)
  case atStart => exact ⟨0, Nat.zero_le _, rfl, Below.refl _ _⟩
  case round =>
    obtain ⟨k, hk, rfl, hb⟩ := hrel
    by_cases hlt : k < ss.length
    · obtain ⟨b, o, rfl, hpb, hcell, -⟩ := unhide HC k hlt
      obtain ⟨b2, o2, rfl, hpb2, hcell2, -⟩ := unhide HC2 k hlt
      have e1 : wr.cell? ⟨b, o + k, none⟩ = some (.string ss[k]) := by rw [hb.cell (unhide HP b hpb)]; exact hcell
      have e2 : wr.cell? ⟨b2, o2 + k, none⟩ = some (.string ss[k]) := by rw [hb.cell (unhide HQ b2 hpb2)]; exact hcell2
      clear hcell hcell2 hpb hpb2
      go_wp2_with fail
      go_region
      go_wp2_with fail
      go_roundw
      case rel => exact ⟨k + 1, by omega, by go_num, hb.drew⟩
      case measure => simp [intOf]; omega
    · go_wp2_with fail
      go_ret
      exact ⟨rfl, hb⟩
end Go.Proofs.YtiflfcjocngiiaaGreatDoor

/- The walks of szStringS, toStringS, eqStringS: what they answer, and that they turn nothing that was there. No conditions but toStringS's on the number of strings. -/

namespace Go.Proofs.YtiflfcjocngiiaaGreatDoor
open Go Go.RowKit

end Go.Proofs.YtiflfcjocngiiaaGreatDoor

/- The walks of szStringS, szTree, szTreeS: what they answer, and that they turn nothing that was there. No conditions. -/

namespace Go.Proofs.YtiflfcjocngiiaaGreatDoor
open Go Go.RowKit

end Go.Proofs.YtiflfcjocngiiaaGreatDoor

/- The walks of toStringS, toTree, toTreeS: they make a new copy of a tree, and turn nothing that was there. No conditions but the tree's weight, at most 2^20. -/

namespace Go.Proofs.YtiflfcjocngiiaaGreatDoor
open Go Go.RowKit

/-- The five zero cells of a tree. -/
def z5 : Array Value := #[.int .i64 0, .int .i64 0, .string ByteArray.empty, .slice none 0 0, .slice none 0 0]

end Go.Proofs.YtiflfcjocngiiaaGreatDoor

/- The walks of eqStringS, eqTree, eqTreeS: of two trees that lie in memory as one and the same they answer true, and turn nothing that was there. No conditions. -/

namespace Go.Proofs.YtiflfcjocngiiaaGreatDoor
open Go Go.RowKit

def EqSaid (n : Nat) : Prop := ∀ (t : Tr), tsz t < n → ∀ (P Q : Nat → Prop) (c d : C5) (w : World), (∀ b, P b → b < w.heap.size) → (∀ b, Q b → b < w.heap.size) → Rep P w t c → Rep Q w t d →
    Calls Tryz.prog 51 #[.agg #[c.c0, c.c1, c.c2, c.c3, c.c4], .agg #[d.c0, d.c1, d.c2, d.c3, d.c4]] w fun e w' => e = .returned (.bool true) ∧ Below w.heap.size w w'

set_option maxHeartbeats 400000 in
theorem eqTreeS_any (n : Nat) (IH : EqSaid n) (t : Tr) (hn : tsz t ≤ n) (P Q : Nat → Prop) (a a2 : Option Addr) (cap cap2 : Nat) (w : World) (hP : ∀ b, P b → b < w.heap.size) (hQ : ∀ b, Q b → b < w.heap.size)
    (hlen : t.kids.length ≤ 9223372036854775807)
    (hc : ∀ i, (hi : i < t.kids.length) → ∃ b o c, a = some ⟨b, o, none⟩ ∧ P b ∧ C5.at w b (o + i * 5) c ∧ Rep P w t.kids[i] c)
    (hc2 : ∀ i, (hi : i < t.kids.length) → ∃ b o c, a2 = some ⟨b, o, none⟩ ∧ Q b ∧ C5.at w b (o + i * 5) c ∧ Rep Q w t.kids[i] c) :
    Calls Tryz.prog 62 #[.slice a t.kids.length cap, .slice a2 t.kids.length cap2] w fun e w' => e = .returned (.bool true) ∧ Below w.heap.size w w' := by
  generalize hks : t.kids = ks at *
  have HK := hide hks; clear hks
  have HC := hide hc; clear hc
  have HC2 := hide hc2; clear hc2
  have HP := hide hP; clear hP
  have HQ := hide hQ; clear hQ
  have HI := hide IH; clear IH
  go_enter Tryz.func62, Tryz.ntmps62
  go_wp2_with fail
  go_loopw [5] (fun i wr => ∃ (k : Nat), k ≤ ks.length ∧ i = .int .i64 k ∧ Below w.heap.size w wr) (fun i _ => ks.length - (intOf i).toNat)
  case atStart => exact ⟨0, Nat.zero_le _, rfl, Below.refl _ _⟩
  case round =>
    obtain ⟨k, hk, rfl, hb⟩ := hrel
    by_cases hlt : k < ks.length
    · obtain ⟨b, o, c, rfl, hpb, hcell, hrep⟩ := unhide HC k hlt
      obtain ⟨b2, o2, d, rfl, hpb2, hcell2, hrep2⟩ := unhide HC2 k hlt
      have hcell' := hcell.carry (hb.block b (unhide HP b hpb))
      have hcell2' := hcell2.carry (hb.block b2 (unhide HQ b2 hpb2))
      obtain ⟨c0, c1, c2, c3, c4⟩ := c
      obtain ⟨d0, d1, d2, d3, d4⟩ := d
      obtain ⟨e0, e1, e2, e3, e4⟩ := hcell'
      obtain ⟨g0, g1, g2, g3, g4⟩ := hcell2'
      simp only at e0 e1 e2 e3 e4 g0 g1 g2 g3 g4
      have hmem : ks[k] ∈ t.kids := by rw [unhide HK]; exact List.getElem_mem hlt
      have hsm : tsz ks[k] < n := by have := tsz_kid hmem; omega
      have hcall := unhide HI ks[k] hsm P Q ⟨c0, c1, c2, c3, c4⟩ ⟨d0, d1, d2, d3, d4⟩ wr.drew (fun b hb' => Nat.lt_of_lt_of_le (unhide HP b hb') hb.size) (fun b hb' => Nat.lt_of_lt_of_le (unhide HQ b hb') hb.size) (Rep.carry (w' := wr.drew) (fun b hb' => hb.drew.block b (unhide HP b hb')) (fun _ h => h) _ _ hrep) (Rep.carry (w' := wr.drew) (fun b hb' => hb.drew.block b (unhide HQ b hb')) (fun _ h => h) _ _ hrep2)
      have HCALL := hide hcall
      clear hrep hcell hpb hrep2 hcell2 hpb2 hmem hcall HC HC2
      go_wp2_with fail
      go_region_with (go_at_call 51; refine (unhide HCALL).mono ?_; rintro e w' ⟨rfl, hb'⟩)
      all_goals
        have hb2 := hb.drew.trans (hb'.mono hb.drew.size)
        go_wp2_with fail
        go_roundw
        case rel => exact ⟨k + 1, by omega, by go_num, hb2⟩
        case measure => simp [intOf]; omega
    · go_wp2_with fail
      go_ret
      exact ⟨rfl, hb⟩

set_option maxHeartbeats 400000 in
theorem eqTree_step (n : Nat) (IH : EqSaid n) : EqSaid (n + 1) := by
  intro t hn P Q c d w hP hQ hrep hrep2
  obtain ⟨c0, c1, c2, c3, c4⟩ := c
  obtain ⟨d0, d1, d2, d3, d4⟩ := d
  obtain ⟨e0, e1, e2, -, -, -, hns, a, cap, e4, hlen, hks⟩ := hrep.open
  obtain ⟨g0, g1, g2, -, -, -, hns2, a2, cap2, g4, -, hks2⟩ := hrep2.open
  simp only at e0 e1 e2 e4 hns g0 g1 g2 g4 hns2
  subst e0 e1 e2 e4 g0 g1 g2 g4
  have HP := hide hP; have HK := hide hks; have HN := hide hns; have HI := hide IH; have HQ := hide hQ; have HK2 := hide hks2; have HN2 := hide hns2
  clear hP hQ hks hns hks2 hns2 IH hrep hrep2
  have hbx : ∀ o o2, Below w.heap.size w ((w.alloc o).alloc o2) := fun o o2 => ((Below.refl _ _).alloc (Nat.le_refl _) o).alloc (by simp) o2
  have HBX := hide hbx; clear hbx
  go_enter Tryz.func51, Tryz.ntmps51
  go_wp2_with fail
  refine (eqStringS_any c3 d3 t.names _ (P := P) (Q := Q) ((unhide HN).carry (fun b hb => (unhide HBX _ _).block b (unhide HP b hb)) (fun _ h => h)) ((unhide HN2).carry (fun b hb => (unhide HBX _ _).block b (unhide HQ b hb)) (fun _ h => h)) (fun b hb => Nat.lt_of_lt_of_le (unhide HP b hb) (unhide HBX _ _).size) (fun b hb => Nat.lt_of_lt_of_le (unhide HQ b hb) (unhide HBX _ _).size)).mono ?_
  rintro e w1 ⟨rfl, hb1⟩
  obtain ⟨q0, q1, hsz1, hb01⟩ := box2 hb1
  have k0 := q0.cell (i := 4) (by omega)
  have k1 := q1.cell (i := 4) (by omega)
  simp only [row5] at k0 k1
  have HB1 := hide hb01
  clear hb1 q0 q1 hb01
  go_wp2_with fail
  refine (eqTreeS_any n (unhide HI) t (by omega) P Q a a2 cap cap2 w1 (fun b hb => Nat.lt_of_lt_of_le (unhide HP b hb) (unhide HB1).size) (fun b hb => Nat.lt_of_lt_of_le (unhide HQ b hb) (unhide HB1).size) hlen (fun i hi => ?_) (fun i hi => ?_)).mono ?_
  · obtain ⟨b, o, c, h1, h2, h3, h4⟩ := unhide HK i hi
    exact ⟨b, o, c, h1, h2, h3.carry ((unhide HB1).block b (unhide HP b h2)), Rep.carry (fun b hb => (unhide HB1).block b (unhide HP b hb)) (fun _ h => h) _ _ h4⟩
  · obtain ⟨b, o, c, h1, h2, h3, h4⟩ := unhide HK2 i hi
    exact ⟨b, o, c, h1, h2, h3.carry ((unhide HB1).block b (unhide HQ b h2)), Rep.carry (fun b hb => (unhide HB1).block b (unhide HQ b hb)) (fun _ h => h) _ _ h4⟩
  rintro e w2 ⟨rfl, hb2⟩
  have hb3 := (unhide HB1).trans (hb2.mono (unhide HB1).size)
  go_wp2_with fail
  go_ret
  exact ⟨rfl, hb3⟩

theorem eqTree_all : ∀ n, EqSaid n
  | 0 => fun t h => by omega
  | n + 1 => eqTree_step n (eqTree_all n)

theorem eqTree_any (t : Tr) (P Q : Nat → Prop) (c d : C5) (w : World) (hP : ∀ b, P b → b < w.heap.size) (hQ : ∀ b, Q b → b < w.heap.size) (h1 : Rep P w t c) (h2 : Rep Q w t d) :
    Calls Tryz.prog 51 #[.agg #[c.c0, c.c1, c.c2, c.c3, c.c4], .agg #[d.c0, d.c1, d.c2, d.c3, d.c4]] w fun e w' => e = .returned (.bool true) ∧ Below w.heap.size w w' :=
  eqTree_all (tsz t + 1) t (by omega) P Q c d w hP hQ h1 h2
end Go.Proofs.YtiflfcjocngiiaaGreatDoor

/- The walk of the law's own eqEvent: two events that are the same. No conditions. -/

namespace Go.Proofs.YtiflfcjocngiiaaGreatDoor
open Go Go.RowKit

set_option maxRecDepth 100000 in
set_option maxHeartbeats 1600000 in
theorem eqEvent_any (ty : ByteArray) (ver : Int) (t : Tr) (P Q : Nat → Prop) (c d : C5) (w : World) (hP : ∀ b, P b → b < w.heap.size) (hQ : ∀ b, Q b → b < w.heap.size) (h1 : Rep P w t c) (h2 : Rep Q w t d) :
    Calls Tryz.prog 34 #[.agg #[.string ty, .int .i64 ver, c.c0, c.c1, c.c2, c.c3, c.c4], .agg #[.string ty, .int .i64 ver, d.c0, d.c1, d.c2, d.c3, d.c4]] w fun e w' => e = .returned (.bool true) ∧ Below w.heap.size w w' := by
  obtain ⟨c0, c1, c2, c3, c4⟩ := c
  obtain ⟨d0, d1, d2, d3, d4⟩ := d
  have hbx : ∀ o o2, Below w.heap.size w ((w.alloc o).alloc o2) := fun o o2 => ((Below.refl _ _).alloc (Nat.le_refl _) o).alloc (by simp) o2
  have hcall := fun (W : World) (hW : Below w.heap.size w W) => eqTree_any t P Q ⟨c0, c1, c2, c3, c4⟩ ⟨d0, d1, d2, d3, d4⟩ W (fun b hb => Nat.lt_of_lt_of_le (hP b hb) hW.size) (fun b hb => Nat.lt_of_lt_of_le (hQ b hb) hW.size) (Rep.carry (fun b hb => hW.block b (hP b hb)) (fun _ h => h) _ _ h1) (Rep.carry (fun b hb => hW.block b (hQ b hb)) (fun _ h => h) _ _ h2)
  have HBX := hide hbx; have HCALL := hide hcall
  clear hbx hcall hP hQ h1 h2
  go_enter Tryz.func34, Tryz.ntmps34
  go_wp2_with fail
  refine (unhide HCALL _ (unhide HBX _ _)).mono ?_
  rintro e w1 ⟨rfl, hb1⟩
  have hb2 := (unhide HBX _ _).trans (hb1.mono (unhide HBX _ _).size)
  have HB := hide hb2
  clear hb1 hb2
  go_wp2_with fail
  go_ret
  exact ⟨rfl, unhide HB⟩
end Go.Proofs.YtiflfcjocngiiaaGreatDoor

/- Events in memory (a struct of a string, a number and a tree: seven cells), and the walks of the law's own szEvent, toEvent, eqEvent. No conditions. -/

namespace Go.Proofs.YtiflfcjocngiiaaGreatDoor
open Go Go.RowKit

end Go.Proofs.YtiflfcjocngiiaaGreatDoor

/- The walks of the law's own szEventS, szRecord, toEventS, toRecord, eqEventS, eqRecord. No conditions but the weight, at most 2^20. -/

namespace Go.Proofs.YtiflfcjocngiiaaGreatDoor
open Go Go.RowKit

/-- The seven zero cells of an event. -/
def z7 : Array Value := #[.string ByteArray.empty, .int .i64 0, .int .i64 0, .int .i64 0, .string ByteArray.empty, .slice none 0 0, .slice none 0 0]
theorem infoEvent : (Tryz.prog.info? 41).map (fun i => (i.zero, i.size, i.bytes)) = some (some (.agg z7), 7, 104) := by kernel_rfl
set_option maxRecDepth 100000 in
set_option maxHeartbeats 800000 in
theorem eqEventS_any (es : List Ev) (P Q : Nat → Prop) (v u : Value) (w : World) (hP : ∀ b, P b → b < w.heap.size) (hQ : ∀ b, Q b → b < w.heap.size) (hv : EvsAt P w v es) (hu : EvsAt Q w u es) :
    Calls Tryz.prog 18 #[v, u] w fun e w' => e = .returned (.bool true) ∧ Below w.heap.size w w' := by
  obtain ⟨a, cap, rfl, hlen, hc⟩ := hv
  obtain ⟨a2, cap2, rfl, -, hc2⟩ := hu
  have HC := hide hc; clear hc
  have HC2 := hide hc2; clear hc2
  have HP := hide hP; clear hP
  have HQ := hide hQ; clear hQ
  go_enter Tryz.func18, Tryz.ntmps18
  go_wp2_with fail
  go_loopw [5] (fun i wr => ∃ (k : Nat), k ≤ es.length ∧ i = .int .i64 k ∧ Below w.heap.size w wr) (fun i _ => es.length - (intOf i).toNat)
  case atStart => exact ⟨0, Nat.zero_le _, rfl, Below.refl _ _⟩
  case round =>
    obtain ⟨k, hk, rfl, hb⟩ := hrel
    by_cases hlt : k < es.length
    · obtain ⟨b, o, rfl, hpb, c, hcell, hrep, -, -⟩ := unhide HC k hlt
      obtain ⟨b2, o2, rfl, hpb2, d, hcell2, hrep2, -, -⟩ := unhide HC2 k hlt
      have hcell' := hcell.carry (hb.block b (unhide HP b hpb))
      have hcell2' := hcell2.carry (hb.block b2 (unhide HQ b2 hpb2))
      obtain ⟨c0, c1, c2, c3, c4⟩ := c
      obtain ⟨d0, d1, d2, d3, d4⟩ := d
      obtain ⟨e0, e1, e2, e3, e4, e5, e6⟩ := hcell'
      obtain ⟨g0, g1, g2, g3, g4, g5, g6⟩ := hcell2'
      simp only at e0 e1 e2 e3 e4 e5 e6 g0 g1 g2 g3 g4 g5 g6
      have hcall := eqEvent_any es[k].ty es[k].ver es[k].t P Q ⟨c0, c1, c2, c3, c4⟩ ⟨d0, d1, d2, d3, d4⟩ wr.drew (fun b hb' => Nat.lt_of_lt_of_le (unhide HP b hb') hb.size) (fun b hb' => Nat.lt_of_lt_of_le (unhide HQ b hb') hb.size) (Rep.carry (w' := wr.drew) (fun b hb' => hb.drew.block b (unhide HP b hb')) (fun _ h => h) _ _ hrep) (Rep.carry (w' := wr.drew) (fun b hb' => hb.drew.block b (unhide HQ b hb')) (fun _ h => h) _ _ hrep2)
      have HCALL := hide hcall
      clear hrep hcell hpb hrep2 hcell2 hpb2 hcall HC HC2
      go_wp2_with fail
      go_region_with (go_at_call 34; refine (unhide HCALL).mono ?_; rintro e w' ⟨rfl, hb'⟩)
      all_goals
        have hb2 := hb.drew.trans (hb'.mono hb.drew.size)
        go_wp2_with fail
        go_roundw
        case rel => exact ⟨k + 1, by omega, by go_num, hb2⟩
        case measure => simp [intOf]; omega
    · go_wp2_with fail
      go_ret
      exact ⟨rfl, hb⟩

set_option maxRecDepth 100000 in
set_option maxHeartbeats 800000 in
theorem eqRecord_any (pos : Int) (key : ByteArray) (es : List Ev) (P Q : Nat → Prop) (v u : Value) (w : World) (hP : ∀ b, P b → b < w.heap.size) (hQ : ∀ b, Q b → b < w.heap.size) (hv : EvsAt P w v es) (hu : EvsAt Q w u es) :
    Calls Tryz.prog 6 #[.agg #[.int .i64 pos, .string key, v], .agg #[.int .i64 pos, .string key, u]] w fun e w' => e = .returned (.bool true) ∧ Below w.heap.size w w' := by
  have hbx : ∀ o o2, Below w.heap.size w ((w.alloc o).alloc o2) := fun o o2 => ((Below.refl _ _).alloc (Nat.le_refl _) o).alloc (by simp) o2
  have hcall := fun (W : World) (hW : Below w.heap.size w W) => eqEventS_any es P Q v u W (fun b hb => Nat.lt_of_lt_of_le (hP b hb) hW.size) (fun b hb => Nat.lt_of_lt_of_le (hQ b hb) hW.size) (hv.carry (fun b hb => hW.block b (hP b hb)) (fun _ h => h)) (hu.carry (fun b hb => hW.block b (hQ b hb)) (fun _ h => h))
  have HBX := hide hbx; have HCALL := hide hcall
  clear hbx hcall hP hQ hv hu
  go_enter Tryz.func6, Tryz.ntmps6
  go_wp2_with fail
  refine (unhide HCALL _ (unhide HBX _ _)).mono ?_
  rintro e w1 ⟨rfl, hb1⟩
  have hb2 := (unhide HBX _ _).trans (hb1.mono (unhide HBX _ _).size)
  have HB := hide hb2
  clear hb1 hb2
  go_wp2_with fail
  go_ret
  exact ⟨rfl, unhide HB⟩
end Go.Proofs.YtiflfcjocngiiaaGreatDoor
