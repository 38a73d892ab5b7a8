/- The program's fileOk, and filesNamed: whether a disk's files are just those that are named or made. Conditions: at most 1000 names and moves. -/
import Derived.Test.YtgdiankfnemjjaaGreatPart03
import Derived.Test.YtgdiankfnemjjaaGreatPart04
import Derived.Test.YtgdiankfnemjjaaGreatPart00
import Derived.Maps.OwnSet
import Derived.Maps.OwnOps
import Derived.Maps.Views
import Derived.Deep.Draws
namespace Go.Proofs.YtgdiankfnemjjaaGreat
open Go Go.RowKit

/-- A file is ok. -/
def fOkB (f : Df) : Bool := nameOkB f.name && decide (f.data.size ≤ 20000) && decide (0 ≤ f.kept ∧ f.kept ≤ f.data.size)

set_option maxHeartbeats 400000 in
theorem isIn_any (n lo hi : Int) (w : World) :
    Calls Tryz.prog 85 #[.int .i64 n, .int .i64 lo, .int .i64 hi] w fun e w' => e = .returned (.bool (decide (lo ≤ n ∧ n ≤ hi))) ∧ w' = w := by
  by_cases h1 : lo ≤ n
  · by_cases h2 : n ≤ hi
    · go_enter Tryz.func85, Tryz.ntmps85
      go_wp2_with fail
      go_ret
      exact ⟨by simp [h1, h2], rfl⟩
    · go_enter Tryz.func85, Tryz.ntmps85
      go_wp2_with fail
      go_ret
      exact ⟨ret_bool (by symm; simp; omega), rfl⟩
  · go_enter Tryz.func85, Tryz.ntmps85
    go_wp2_with fail
    go_ret
    exact ⟨ret_bool (by symm; simp; omega), rfl⟩

set_option maxHeartbeats 800000 in
theorem fileOk_any (f : Df) (hf : f.okM) (w : World) :
    Calls Tryz.prog 71 #[.agg #[.string f.name, .string f.data, .int .i64 f.kept]] w fun e w' => e = .returned (.bool (fOkB f)) ∧ Below w.heap.size w w' := by
  obtain ⟨fn, fd, fk⟩ := f
  obtain ⟨h1, h2, h3⟩ := hf
  simp only at h1 h2 h3
  have hbx : ∀ o, Below w.heap.size w (w.alloc o) := fun o => (Below.refl _ _).alloc (Nat.le_refl _) o
  have HN := hide (fun W => nameOk_any fn W h1)
  have HI := hide (fun W => isIn_any fk 0 fd.size W)
  have HR := hide (show fOkB ⟨fn, fd, fk⟩ = (nameOkB fn && decide (fd.size ≤ 20000) && decide (0 ≤ fk ∧ fk ≤ (fd.size : Int))) from rfl)
  generalize fOkB ⟨fn, fd, fk⟩ = res at *
  have HBX := hide hbx
  clear hbx
  cases c1 : nameOkB fn with
  | false =>
    rw [c1] at HN HR
    go_enter Tryz.func71, Tryz.ntmps71
    go_wp2_with (first
      | (go_at_call 84; refine (unhide HN _).mono ?_; rintro e w' ⟨rfl, rfl⟩))
    go_ret
    exact ⟨by rw [unhide HR]; rfl, unhide HBX _⟩
  | true =>
    rw [c1] at HN HR
    by_cases c2 : fd.size ≤ 20000
    · rw [decide_eq_true c2] at HR
      have c2' : decide ((fd.size : Int) ≤ 20000) = true := by simp; omega
      go_enter Tryz.func71, Tryz.ntmps71
      go_wp2_with (first
        | (go_at_call 84; refine (unhide HN _).mono ?_; rintro e w' ⟨rfl, rfl⟩)
        | (go_at_call 85; refine (unhide HI _).mono ?_; rintro e w' ⟨rfl, rfl⟩))
      go_ret
      exact ⟨by rw [unhide HR]; simp, unhide HBX _⟩
    · rw [decide_eq_false c2] at HR
      have c2' : decide ((fd.size : Int) ≤ 20000) = false := by simp; omega
      go_enter Tryz.func71, Tryz.ntmps71
      go_wp2_with (first
        | (go_at_call 84; refine (unhide HN _).mono ?_; rintro e w' ⟨rfl, rfl⟩))
      go_ret
      exact ⟨by rw [unhide HR]; rfl, unhide HBX _⟩

set_option maxHeartbeats 400000 in
theorem nameIs_any (f : Df) (x : ByteArray) (w : World) :
    Calls Tryz.prog 83 #[.agg #[.string f.name, .string f.data, .int .i64 f.kept], .string x] w fun e w' => e = .returned (.bool (sameB f.name x)) ∧ Below w.heap.size w w' := by
  obtain ⟨fn, fd, fk⟩ := f
  have hbx : ∀ o, Below w.heap.size w (w.alloc o) := fun o => (Below.refl _ _).alloc (Nat.le_refl _) o
  have HBX := hide hbx; clear hbx
  go_enter Tryz.func83, Tryz.ntmps83
  go_wp2_with fail
  go_ret
  exact ⟨rfl, unhide HBX _⟩

/-- The files are just those of the names. -/
structure FNamed (fs : List Df) (ns : List ByteArray) : Prop where
  len : fs.length = ns.length
  same : ∀ i (h : i < fs.length) (h2 : i < ns.length), sameB fs[i].name ns[i] = true

set_option maxRecDepth 100000 in
set_option maxHeartbeats 1600000 in
theorem equalFunc_any (fs : List Df) (ns : List ByteArray) (v u : Value) (w : World) {P Q : Nat → Prop} (hP : ∀ b, P b → b < w.heap.size) (hQ : ∀ b, Q b → b < w.heap.size) (hv : FsAt P w v fs) (hu : StrsAt Q w u ns) :
    Calls Tryz.prog 82 #[v, u, .func (.func 83) #[] #[]] w fun e w' => RetIff e (FNamed fs ns) ∧ Below w.heap.size w w' := by
  obtain ⟨a, cap, rfl, hlen, hc⟩ := hv.open
  obtain ⟨a1, cap1, rfl, hlen1, hc1⟩ := hu
  have HC := hide hc; have HC1 := hide hc1; have HP := hide hP; have HQ' := hide hQ
  clear hv hc hc1 hP hQ
  by_cases hle : fs.length = ns.length
  rotate_left
  · have HNO := hide (show ¬ FNamed fs ns from fun h => hle h.len)
    have hle' : decide ((fs.length : Int) = (ns.length : Int)) = false := by simp; omega
    go_enter Tryz.func82, Tryz.ntmps82
    go_wp2_with fail
    go_ret
    exact ⟨RetIff.no (unhide HNO), Below.refl _ _⟩
  have HLE := hide hle
  rw [← hle] at hlen1 ⊢
  clear hle
  go_enter Tryz.func82, Tryz.ntmps82
  go_wp2_with fail
  go_loopw [17] (fun i wr => ∃ (k : Nat), k ≤ fs.length ∧ i = .int .i64 k ∧ Hid (∀ i (h : i < fs.length) (h2 : i < ns.length), i < k → sameB fs[i].name ns[i] = true) ∧ Hid (Below w.heap.size w wr)) (fun i _ => fs.length - (intOf i).toNat)
  case atStart => exact ⟨0, Nat.zero_le _, rfl, fun j _ _ hj => by omega, Below.refl _ _⟩
  case round =>
    obtain ⟨k, hk, rfl, HS, HB⟩ := hrel
    by_cases hlt : k < fs.length
    rotate_left
    · go_wp2_with fail
      go_ret
      exact ⟨RetIff.yes ⟨unhide HLE, fun i h h2 => HS.out i h h2 (by omega)⟩, HB.out⟩
    · have hln : k < ns.length := by rw [← unhide HLE]; exact hlt
      obtain ⟨b, o, rfl, hpb, hcell, -⟩ := unhide HC k hlt
      obtain ⟨b1, o1, rfl, hpb1, hcell1, -⟩ := unhide HC1 k hln
      obtain ⟨e0, e1, e2⟩ := hcell.carry (HB.out.block b (unhide HP b hpb))
      have e4 : wr.cell? ⟨b1, o1 + k, none⟩ = some (.string ns[k]) := by rw [HB.out.cell (p := ⟨b1, o1 + k, none⟩) (unhide HQ' b1 hpb1)]; exact hcell1
      have e5 : ∀ o', (wr.alloc o').cell? ⟨b1, o1 + k, none⟩ = some (.string ns[k]) := fun o' => by rw [World.cell?_of_block (w := wr) (Below.heap_alloc _ _ _ (World.block_lt_of_cell? wr _ e4))]; exact e4
      simp only at e0 e1 e2
      have HNA := hide (fun W => nameIs_any fs[k] ns[k] W)
      have HBA := hide (fun o' => HB.out.alloc HB.out.size o')
      have hi1 : (k : Int) < (fs.length : Int) := by omega
      cases c : sameB fs[k].name ns[k] with
      | false =>
        have HNO := hide (show ¬ FNamed fs ns from fun h => by have := h.same k hlt hln; rw [c] at this; cases this)
        rw [c] at HNA
        clear hcell hcell1 hpb hpb1 c
        generalize fs[k] = f at *
        generalize ns[k] = x at *
        obtain ⟨fn, fd, fk⟩ := f
        simp only at *
        go_wp2_with (go_at_call 83; refine (unhide HNA _).mono ?_; rintro e w5 ⟨rfl, hb5⟩; have HB5 := hide ((unhide HBA _).trans (hb5.mono (unhide HBA _).size)); clear hb5)
        go_ret
        exact ⟨RetIff.no (unhide HNO), unhide HB5⟩
      | true =>
        have HYES := hide (show ∀ j (h : j < fs.length) (h2 : j < ns.length), j = k → sameB fs[j].name ns[j] = true from fun j h h2 e => by subst e; exact c)
        rw [c] at HNA
        clear hcell hcell1 hpb hpb1 c
        generalize fs[k] = f at *
        generalize ns[k] = x at *
        obtain ⟨fn, fd, fk⟩ := f
        simp only at *
        go_wp2_with (go_at_call 83; refine (unhide HNA _).mono ?_; rintro e w5 ⟨rfl, hb5⟩; have HB5 := hide ((unhide HBA _).trans (hb5.mono (unhide HBA _).size)); clear hb5)
        go_roundw
        case rel => exact ⟨k + 1, by omega, by go_num, fun j h h2 hj => by
          by_cases e : j = k
          · exact unhide HYES j h h2 e
          · exact HS.out j h h2 (by omega), unhide HB5⟩
        case measure => simp [intOf]; omega

/-- The files are those that are named or made, and there are no fewer than names. -/
structure FMade (d : Dk) : Prop where
  le : d.names.length ≤ d.files.length
  named : FNamed d.files (madeD d.names d.moves)

set_option maxRecDepth 100000 in
set_option maxHeartbeats 3200000 in
theorem filesNamed_any (d : Dk) (P : Nat → Prop) (c : C3) (w : World) (hP : ∀ b, P b → b < w.heap.size) (hd : DkAt P w d c) (hl0 : d.files.length ≤ 1000) (hl2 : d.moves.length ≤ 1000) :
    Calls Tryz.prog 70 #[.agg #[c.c0, c.c1, c.c2]] w fun e w' => RetIff e (FMade d) ∧ Below w.heap.size w w' := by
  obtain ⟨c0, c1, c2⟩ := c
  have HD := hide hd
  obtain ⟨a0, p0, g0, -, -⟩ := hd.fs.open
  obtain ⟨a1, p1, g1, hl1, -⟩ := hd.ns
  obtain ⟨a2, p2, g2, -, hmc⟩ := hd.ms.open
  simp only at g0 g1 g2
  subst g0 g1 g2
  have hbx : ∀ o, Below w.heap.size w (w.alloc o) := fun o => (Below.refl _ _).alloc (Nat.le_refl _) o
  have HBX := hide hbx
  by_cases hle : d.names.length ≤ d.files.length
  rotate_left
  · have HNO := hide (show ¬ FMade d from fun h => hle h.le)
    have hle' : decide ((d.files.length : Int) < (d.names.length : Int)) = true := by simp; omega
    clear hd hmc hbx hP
    go_enter Tryz.func70, Tryz.ntmps70
    go_wp2_with fail
    go_ret
    exact ⟨RetIff.no (unhide HNO), unhide HBX _⟩
  have HCL := hide (fun o => cloneNs_any (.slice a1 d.names.length p1) d.names (w.alloc o) (P := P) (hd.ns.carry (fun b hb => (hbx o).block b (hP b hb)) (fun _ h => h)) (by omega))
  obtain ⟨j0, hj, hy0, hy1, hy2⟩ := infoStrD
  have HJJ := hide hj; have HY0 := hide hy0; have HY1 := hide hy1; have HY2 := hide hy2
  have HMC := hide hmc; have HP := hide hP
  have HROW := hide (row3_alloc w (.slice a0 d.files.length p0) (.slice a1 d.names.length p1) (.slice a2 d.moves.length p2) 37)
  have HMM := hide (fun k (hk : k < d.moves.length) => made_take (ns := d.names) hk)
  have HM0 := hide (show madeD d.names (d.moves.take 0) = d.names by simp [madeD])
  have HLN := hide (fun k => made_len d.names (d.moves.take k))
  clear hd hmc hbx hP hj hy0 hy1 hy2
  go_enter Tryz.func70, Tryz.ntmps70
  go_wp2_with fail
  refine (unhide HCL _).mono ?_
  rintro e w1 ⟨v1, rfl, hnm⟩
  have hb1 := hnm.below
  have hs1 : w.heap.size + 1 ≤ w1.heap.size := by have := hb1.size; simpa using this
  have hq1 := (unhide HROW).of_block (hb1.block w.heap.size (by simp))
  have k2 := hq1.cell (i := 2) (by omega)
  simp only [row3] at k2
  have HNM := hide hnm
  clear hnm hb1 hq1 HCL
  go_wp2_with fail
  generalize hW1 : w.alloc (.cells #[.slice a0 d.files.length p0, .slice a1 d.names.length p1, .slice a2 d.moves.length p2] 37) = W1 at *
  have hsW : W1.heap.size = w.heap.size + 1 := by rw [← hW1]; simp
  have hbW : Below w.heap.size w W1 := by rw [← hW1]; exact unhide HBX _
  have HBW := hide hbW; have HSW := hide hsW
  clear k2 hW1 hbW hsW
  go_loopw [3, 19] (fun vo i wr => ∃ (k : Nat) (vk : Value), k ≤ d.moves.length ∧ i = .int .i64 k ∧ vk = vo ∧ Hid (NmOwn W1 wr vk (madeD d.names (d.moves.take k)).length (madeD d.names (d.moves.take k)))) (fun _ i _ => d.moves.length - (intOf i).toNat)
  case atStart => exact ⟨0, _, Nat.zero_le _, rfl, rfl, hide (by rw [unhide HM0]; exact unhide HNM)⟩
  case round =>
    obtain ⟨k, vk, hk, rfl, rfl, HK⟩ := hrel
    have hbk := HK.out.below
    have hws : W1.heap.size ≤ wr.heap.size := hbk.size
    have hq2 := (unhide HROW).of_block (hbk.block w.heap.size (by have := unhide HSW; omega))
    have k0 := hq2.cell (i := 0) (by omega)
    simp only [row3] at k0
    have HBK := hide ((unhide HBW).trans (hbk.mono (by have := unhide HSW; omega)))
    by_cases hlt : k < d.moves.length
    rotate_left
    · obtain rfl : k = d.moves.length := by omega
      have hne := HK.out
      rw [List.take_of_length_le (Nat.le_refl _)] at hne
      have HEQ := hide (equalFunc_any d.files (madeD d.names d.moves) (.slice a0 d.files.length p0) vk wr (P := P) (fun b hb => Nat.lt_of_lt_of_le (unhide HP b hb) (unhide HBK).size) (fun b hb => hb.2) ((unhide HD).fs.carry (fun b hb => (unhide HBK).block b (unhide HP b hb)) (fun _ h => h)) hne.strs)
      clear hbk hq2 hne
      go_wp2_with (go_at_call 82; refine (unhide HEQ).mono ?_; rintro e w5 ⟨⟨r, rfl, hr⟩, hb5⟩; have HR := hide hr; have HB5 := hide ((unhide HBK).trans (hb5.mono (unhide HBK).size)); clear hb5 hr)
      go_ret
      exact ⟨⟨r, rfl, ⟨fun h => ⟨hle, (unhide HR).1 h⟩, fun h => (unhide HR).2 h.named⟩⟩, unhide HB5⟩
    · obtain ⟨b, o, rfl, hpb, hc0, hc1, hok⟩ := unhide HMC k hlt
      have e0 : wr.cell? ⟨b, o + k * 2, none⟩ = some (.bool d.moves[k].gone) := by rw [(unhide HBK).cell (p := ⟨b, o + k * 2, none⟩) (unhide HP b hpb)]; exact hc0
      have e1 : wr.cell? ⟨b, o + k * 2 + 1, none⟩ = some (.string d.moves[k].name) := by rw [(unhide HBK).cell (p := ⟨b, o + k * 2 + 1, none⟩) (unhide HP b hpb)]; exact hc1
      have HT := hide (unhide HMM k hlt)
      have hn2 := unhide HLN k
      rw [List.length_take, Nat.min_eq_left (by omega)] at hn2
      have hmz : d.moves[k].name.size ≤ 9223372036854775807 := hok
      clear hc0 hc1 hpb hok hbk hq2
      cases e : d.moves[k].gone with
      | true =>
        rw [e] at HT e0
        simp only [if_true] at HT
        generalize d.moves[k].name = y at *
        go_wp2_with fail
        go_roundw
        case rel => exact ⟨k + 1, _, by omega, by go_num, rfl, hide (by rw [unhide HT]; have h := HK.out; exact ⟨h.own.alloc _, h.len, h.sz, h.below.alloc h.below.size _⟩)⟩
        case measure => simp [intOf]; omega
      | false =>
        rw [e] at HT e0
        simp only [Bool.false_eq_true, if_false] at HT
        generalize d.moves[k].name = y at *
        generalize hml : madeD d.names (d.moves.take k) = ml at *
        have hle3 : ml.length ≤ 2000 := by omega
        have HCO := hide (fun o1 t => show ∀ j u, ([Value.string y])[j]? = some u → ((wr.alloc o1).alloc (.cells #[.string y] t)).cell? ((⟨wr.heap.size + 1, 0, none⟩ : Addr).add j) = some u from fun j u h => by have := cell_one (wr.alloc o1) (.string y) t j u h; simpa using this)
        have HBK2 := hide (fun o1 o2 => (HK.out.below.alloc HK.out.below.size o1).alloc (HK.out.below.alloc HK.out.below.size o1).size o2)
        have hmz2 := hmz
        have HYE := hide e0
        go_wp2_with (at_builtin; (refine append_row _ rfl _ _ 23 rfl W1.heap.size 9 j0 (.string ByteArray.empty) 1 16 Tryz.underlying23 (unhide HJJ) (unhide HY0) (unhide HY1) (unhide HY2) rfl (by decide) vk ml.length (ml.map Value.string) rfl (World.ownsRow.alloc (World.ownsRow.alloc HK.out.own _) _) ⟨wr.heap.size + 1, 0, none⟩ 1 1 [.string y] rfl rfl (unhide HCO _ _) (fun u hu => by simp at hu; subst hu; rfl) (by decide) (by unfold maxLen; omega) (by omega) (by simp; omega) ?_; intro v' w5 hown5 hgrow5 hat5; have HO5 := hide hown5; have HB5 := hide (below_grown (by simp; omega) (unhide HBK2 _ _) hgrow5 (fun b e => (HK.out.own.lt b e).1)); clear hown5 hgrow5 hat5))
        go_roundw
        case rel => exact ⟨k + 1, _, by omega, by go_num, rfl, hide (by
          rw [unhide HT]
          refine ⟨by simpa using unhide HO5, rfl, fun z hz => ?_, unhide HB5⟩
          rcases List.mem_append.1 hz with h1 | h1
          · exact HK.out.sz z h1
          · simp at h1; rw [h1]; exact hmz2)⟩
        case measure => simp [intOf]; omega
end Go.Proofs.YtgdiankfnemjjaaGreat

/- Names with the places at which they stand, in a map of the call's own. No conditions. -/

namespace Go.Proofs.YtgdiankfnemjjaaGreat
open Go Go.RowKit Go.WideMaps Go.Maps

/-- What a name reads as, where it is a key. -/
def nkey (s : ByteArray) : Lit := .string s.data.toList
/-- The map behind k names. -/
def nmap (ns : List ByteArray) : Nat → DataW Unit
  | 0 => .map []
  | k + 1 => (nmap ns k).put (nkey (ns.getD k ByteArray.empty)) (.lit (.int .i64 k))
theorem nmap_map (ns : List ByteArray) : ∀ k, IsMap (nmap ns k)
  | 0 => ⟨[], rfl⟩
  | k + 1 => (nmap_map ns k).put _ _
theorem nkey_inj {a b : ByteArray} (h : nkey a = nkey b) : a = b := by
  simp only [nkey, Lit.string.injEq] at h
  exact ByteArray.ext (Array.toList_inj.1 h)
theorem nkey_ok (s : ByteArray) : WideAt.IsKeyLit (nkey s) := trivial
theorem has_nmap (ns : List ByteArray) (x : ByteArray) : ∀ k, k ≤ ns.length → (Maps.has (nmap ns k) (nkey x) = true ↔ x ∈ ns.take k)
  | 0, _ => by simp [nmap, Maps.has]
  | k + 1, h => by
    have hg : ns.getD k ByteArray.empty = ns[k] := by simp [List.getD, show k < ns.length by omega]
    rw [nmap, hg, List.take_succ_eq_append_getElem (by omega), List.mem_append]
    by_cases e : x = ns[k]
    · rw [e, has_put_same (nmap_map ns k) (nkey_ok _)]
      simp
    · rw [has_put_other (fun h => e (nkey_inj h)), has_nmap ns x k (by omega)]
      simp [e]
theorem at_nmap (ns : List ByteArray) (hnd : ns.Nodup) (i : Nat) (hi : i < ns.length) : ∀ k, k ≤ ns.length → i < k → (nmap ns k).atKey (nkey ns[i]) (.lit (.int .i64 0)) = .lit (.int .i64 i)
  | 0, _, h => by omega
  | k + 1, h, hk => by
    have hg : ns.getD k ByteArray.empty = ns[k] := by simp [List.getD, show k < ns.length by omega]
    rw [nmap, hg]
    by_cases e : i = k
    · subst e
      exact atKey_put_same (nmap_map ns i) (nkey_ok _) _ _
    · rw [atKey_put_other (fun hh => e ((List.getElem_inj hnd).1 (nkey_inj hh)))]
      exact at_nmap ns hnd i hi k (by omega) (by omega)

theorem keyLaw : Keyed Tryz.prog 9 := string_keyed Tryz.underlying9
theorem zeroInt (w : World) : (zeroValue 3).run Tryz.prog w = .ok (.int .i64 0) w := by kernel_rfl
set_option maxRecDepth 100000 in
theorem runMake (n : Int) (w : World) : (Instr.makeMap 112 (some (.int .i64 n))).run Tryz.prog w = .ok (.map (some w.heap.size)) (w.alloc (.map #[] 0)) := by rfl

/-- The names and the map of their places. -/
def NMap (w : World) (B : Nat) (ns : List ByteArray) : Prop := w.ownsMap Tryz.prog 9 (plainElem (H := Unit) Tryz.prog 3) B ns.length (nmap ns ns.length)

def rowO (c0 c1 : Value) : Nat → Value
  | 0 => c0
  | _ => c1
theorem rowO_alloc (w : World) (c0 c1 : Value) (t : TypeId) : (w.alloc (.cells #[c0, c1] t)).rowIs w.heap.size t 2 (rowO c0 c1) :=
  World.rowIs_alloc w #[c0, c1] t _ (fun i hi => by
    have hi' : i < 2 := hi
    match i, hi' with
    | 0, _ => rfl
    | 1, _ => rfl)


/-- A map is where its block is as it was. -/
theorem ownsMap_block {w w' : World} {B n : Nat} {D : DataW Unit} (h : w.ownsMap Tryz.prog 9 (plainElem (H := Unit) Tryz.prog 3) B n D) (hb : w'.heap[B]? = w.heap[B]?) : w'.ownsMap Tryz.prog 9 (plainElem (H := Unit) Tryz.prog 3) B n D := by
  obtain ⟨es, clock, h1, F, hs, rfl⟩ := h
  exact ⟨es, clock, by rw [hb]; exact h1, F, hs, rfl⟩
/-- A look at the map, whatever was drawn: what it gives. -/
theorem look_all {w : World} {B n : Nat} {D : DataW Unit} (h : w.ownsMap Tryz.prog 9 (plainElem (H := Unit) Tryz.prog 3) B n D) (nm : ByteArray) (hz : nm.size ≤ 9223372036854775807) :
    ∃ c : Int, (∀ m, (Instr.lookup 112 (.map (some B)) (.string nm) true).run Tryz.prog (w.drewN m) = .ok (.tuple #[.int .i64 c, .bool (Maps.has D (nkey nm))]) (w.drewN m)) ∧ D.atKey (nkey nm) (.lit (.int .i64 0)) = .lit (.int .i64 c) ∧ (Lit.int .i64 c).wf = true := by
  have hkey : keyOf Tryz.prog 9 (.string nm) = some (nkey nm) := keyOf_string_mk Tryz.underlying9 (by unfold maxLen; omega)
  have hall : ∀ m, ∃ c : Int, (Instr.lookup 112 (.map (some B)) (.string nm) true).run Tryz.prog (w.drewN m) = .ok (.tuple #[.int .i64 c, .bool (Maps.has D (nkey nm))]) (w.drewN m) ∧ D.atKey (nkey nm) (.lit (.int .i64 0)) = .lit (.int .i64 c) ∧ (Lit.int .i64 c).wf = true := fun m => by
    obtain ⟨v, ps, hrun, hv⟩ := (ownsMap_block (w' := w.drewN m) h rfl).look_ok keyLaw Tryz.underlying112 (zeroInt _) (plainElem_int Tryz.underlying3 (a := 0) (by decide)) hkey
    obtain ⟨c, rfl, hc, hwc⟩ := plainElem_int_inv Tryz.underlying3 hv
    exact ⟨c, hrun, congrArg Prod.fst hc, hwc⟩
  obtain ⟨c, -, hc, hw⟩ := hall 0
  refine ⟨c, fun m => ?_, hc, hw⟩
  obtain ⟨c', hr, hc', -⟩ := hall m
  have : c' = c := by
    have := hc'.symm.trans hc
    simpa using this
  rw [← this]; exact hr
end Go.Proofs.YtgdiankfnemjjaaGreat
