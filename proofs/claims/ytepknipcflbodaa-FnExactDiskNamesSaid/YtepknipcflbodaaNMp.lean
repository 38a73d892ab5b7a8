/- Names with the places at which they stand, in a map of the call's own. No conditions. -/
import Derived.Test.YtepknipcflbodaaStrD
import Derived.Test.YtepknipcflbodaaKData
import Derived.Maps.OwnSet
import Derived.Maps.OwnOps
import Derived.Maps.Views
import Derived.Deep.Draws
namespace Go.Proofs.Ytepknipcflbodaa
open Go Go.RowKit Go.WideMaps Go.Maps

/-- What a name reads as, where it is a key. -/
def nkey (s : ByteArray) : Lit := .string s.data.toList
/-- The map behind k names. -/
def nmap (ns : List ByteArray) : Nat → DataW Unit
  | 0 => .map []
  | k + 1 => (nmap ns k).put (nkey (ns.getD k ByteArray.empty)) (.lit (.int .i64 k))
theorem nmap_map (ns : List ByteArray) : ∀ k, IsMap (nmap ns k)
  | 0 => ⟨[], rfl⟩
  | k + 1 => (nmap_map ns k).put _ _
theorem nkey_inj {a b : ByteArray} (h : nkey a = nkey b) : a = b := by
  simp only [nkey, Lit.string.injEq] at h
  exact ByteArray.ext (Array.toList_inj.1 h)
theorem nkey_ok (s : ByteArray) : WideAt.IsKeyLit (nkey s) := trivial
theorem has_nmap (ns : List ByteArray) (x : ByteArray) : ∀ k, k ≤ ns.length → (Maps.has (nmap ns k) (nkey x) = true ↔ x ∈ ns.take k)
  | 0, _ => by simp [nmap, Maps.has]
  | k + 1, h => by
    have hg : ns.getD k ByteArray.empty = ns[k] := by simp [List.getD, show k < ns.length by omega]
    rw [nmap, hg, List.take_succ_eq_append_getElem (by omega), List.mem_append]
    by_cases e : x = ns[k]
    · rw [e, has_put_same (nmap_map ns k) (nkey_ok _)]
      simp
    · rw [has_put_other (fun h => e (nkey_inj h)), has_nmap ns x k (by omega)]
      simp [e]
theorem at_nmap (ns : List ByteArray) (hnd : ns.Nodup) (i : Nat) (hi : i < ns.length) : ∀ k, k ≤ ns.length → i < k → (nmap ns k).atKey (nkey ns[i]) (.lit (.int .i64 0)) = .lit (.int .i64 i)
  | 0, _, h => by omega
  | k + 1, h, hk => by
    have hg : ns.getD k ByteArray.empty = ns[k] := by simp [List.getD, show k < ns.length by omega]
    rw [nmap, hg]
    by_cases e : i = k
    · subst e
      exact atKey_put_same (nmap_map ns i) (nkey_ok _) _ _
    · rw [atKey_put_other (fun hh => e ((List.getElem_inj hnd).1 (nkey_inj hh)))]
      exact at_nmap ns hnd i hi k (by omega) (by omega)

theorem keyLaw : Keyed Try.prog 9 := string_keyed Try.underlying9
theorem zeroInt (w : World) : (zeroValue 3).run Try.prog w = .ok (.int .i64 0) w := by kernel_rfl
set_option maxRecDepth 100000 in
theorem runMake (n : Int) (w : World) : (Instr.makeMap 82 (some (.int .i64 n))).run Try.prog w = .ok (.map (some w.heap.size)) (w.alloc (.map #[] 0)) := by rfl

/-- The names and the map of their places. -/
def NMap (w : World) (B : Nat) (ns : List ByteArray) : Prop := w.ownsMap Try.prog 9 (plainElem (H := Unit) Try.prog 3) B ns.length (nmap ns ns.length)

def rowO (c0 c1 : Value) : Nat → Value
  | 0 => c0
  | _ => c1
theorem rowO_alloc (w : World) (c0 c1 : Value) (t : TypeId) : (w.alloc (.cells #[c0, c1] t)).rowIs w.heap.size t 2 (rowO c0 c1) :=
  World.rowIs_alloc w #[c0, c1] t _ (fun i hi => by
    have hi' : i < 2 := hi
    match i, hi' with
    | 0, _ => rfl
    | 1, _ => rfl)


/-- A map is where its block is as it was. -/
theorem ownsMap_block {w w' : World} {B n : Nat} {D : DataW Unit} (h : w.ownsMap Try.prog 9 (plainElem (H := Unit) Try.prog 3) B n D) (hb : w'.heap[B]? = w.heap[B]?) : w'.ownsMap Try.prog 9 (plainElem (H := Unit) Try.prog 3) B n D := by
  obtain ⟨es, clock, h1, F, hs, rfl⟩ := h
  exact ⟨es, clock, by rw [hb]; exact h1, F, hs, rfl⟩
/-- A look at the map, whatever was drawn: what it gives. -/
theorem look_all {w : World} {B n : Nat} {D : DataW Unit} (h : w.ownsMap Try.prog 9 (plainElem (H := Unit) Try.prog 3) B n D) (nm : ByteArray) (hz : nm.size ≤ 9223372036854775807) :
    ∃ c : Int, (∀ m, (Instr.lookup 82 (.map (some B)) (.string nm) true).run Try.prog (w.drewN m) = .ok (.tuple #[.int .i64 c, .bool (Maps.has D (nkey nm))]) (w.drewN m)) ∧ D.atKey (nkey nm) (.lit (.int .i64 0)) = .lit (.int .i64 c) ∧ (Lit.int .i64 c).wf = true := by
  have hkey : keyOf Try.prog 9 (.string nm) = some (nkey nm) := keyOf_string_mk Try.underlying9 (by unfold maxLen; omega)
  have hall : ∀ m, ∃ c : Int, (Instr.lookup 82 (.map (some B)) (.string nm) true).run Try.prog (w.drewN m) = .ok (.tuple #[.int .i64 c, .bool (Maps.has D (nkey nm))]) (w.drewN m) ∧ D.atKey (nkey nm) (.lit (.int .i64 0)) = .lit (.int .i64 c) ∧ (Lit.int .i64 c).wf = true := fun m => by
    obtain ⟨v, ps, hrun, hv⟩ := (ownsMap_block (w' := w.drewN m) h rfl).look_ok keyLaw Try.underlying82 (zeroInt _) (plainElem_int Try.underlying3 (a := 0) (by decide)) hkey
    obtain ⟨c, rfl, hc, hwc⟩ := plainElem_int_inv Try.underlying3 hv
    exact ⟨c, hrun, congrArg Prod.fst hc, hwc⟩
  obtain ⟨c, -, hc, hw⟩ := hall 0
  refine ⟨c, fun m => ?_, hc, hw⟩
  obtain ⟨c', hr, hc', -⟩ := hall m
  have : c' = c := by
    have := hc'.symm.trans hc
    simpa using this
  rw [← this]; exact hr
end Go.Proofs.Ytepknipcflbodaa
