/- The program's copyKind: a schema anew, in memory of its own. Conditions: bounded schemas. -/
import Derived.Test.YtenpghndgdemnaaGreatDoorPart01
import Derived.Test.YtenpghndgdemnaaGreatDoorPart21
import Derived.Test.YtenpghndgdemnaaGreatDoorPart09
import Derived.Test.YtenpghndgdemnaaGreatDoorPart10
import Derived.Deep.CutRange
import Derived.Deep.RegionHeld3
namespace Go.Proofs.YtenpghndgdemnaaGreatDoor
open Go Go.RowKit

theorem infoKindG : (Tryz.prog.info? 26).map (fun i => (i.zero, i.size, i.bytes)) = some (some (.agg #[.int .i64 0, .slice none 0 0, .slice none 0 0]), 3, 56) := by kernel_rfl
theorem ldIntJ (w : World) (ad : Addr) (v : Value) (h : w.cell? ad = some v) : (Instr.loadAt 3 (.pointer (some ad))).run Tryz.prog w = .ok v w := by
  simp [Instr.loadAt, Instr.sureAddr, loadVar, Tryz.isAgg3, h, go_sem]
noncomputable def jc1Ops : Array Oper := fops Tryz.f92 1
theorem jc1_neat : Region.noSelect jc1Ops = true ∧ neat jc1Ops = true := ⟨by kernel_rfl, by kernel_rfl⟩
set_option maxRecDepth 100000 in
set_option maxHeartbeats 3200000 in
theorem jc1 (A R : Nat) (s : Int) (c1 c2 : Value) (aK : Option Addr) (nK cK : Nat) (ns : List ByteArray) (f : Nat → Value) (W0 : World) {l : List Value} (Q : Exit → Act → World → Prop) (hQ : ∀ c a d v w, Q (.panic c) (Act.put a d v) w → Q (.panic c) a w)
    (hA : W0.drew.rowIs A 26 3 (row3 (.int .i64 s) c1 c2)) (hR : W0.drew.rowIs R 26 3 f) (hAR : A ≠ R)
    (HC : Calls Tryz.prog 74 #[c1] W0.drew fun e w' => ∃ v' F, e = .returned v' ∧ StrsOwn w' v' ns F ∧ F.Nodup ∧ (∀ b, b ∈ F → W0.drew.heap.size ≤ b ∧ b < w'.heap.size) ∧ Below W0.drew.heap.size W0.drew w')
    (hl : lookL [(1, .slice aK nK cK), (2, .pointer (some ⟨A, 0, none⟩)), (4, .pointer (some ⟨R, 0, none⟩))] l = (12, ([(1, .slice aK nK cK), (2, .pointer (some ⟨A, 0, none⟩)), (4, .pointer (some ⟨R, 0, none⟩))] : List (Nat × Value)).map (·.2)))
    (hend : ∀ (u : Nat → Value) (a' : Option Addr) (cap' : Nat) (F : List Nat) (W' : World), StrsOwn W' (.slice a' ns.length cap') ns F → F.Nodup → (∀ b, b ∈ F → W0.drew.heap.size ≤ b ∧ b < W'.heap.size) → W'.rowIs R 26 3 (row3 (.int .i64 s) (.slice a' ns.length cap') (.slice aK nK cK)) → But R W0.drew W' → Q .normal ⟨(frL u 12 [(1, .slice aK nK cK), (2, .pointer (some ⟨A, 0, none⟩)), (4, .pointer (some ⟨R, 0, none⟩))]).toArray, []⟩ W') : (Code.region 1 jc1Ops true).wp Tryz.prog Q ⟨l.toArray, []⟩ W0 := by
  obtain ⟨v0, rfl⟩ := look_fr hl
  have hq : NtQ jc1Ops Q := ⟨jc1_neat, hQ⟩
  refine T_start (S := fun W => W.heap[A]? = W0.drew.heap[A]?) (by kernel_rfl) rfl ?_
  clear hl hQ
  generalize W0.drew = B at hA hR HC hend ⊢
  have P0 : ∀ (u : Nat → Value), wpS Tryz.prog jc1Ops Q (fun W => W.heap[A]? = B.heap[A]?) (unl 8 [4, 6, 7], frL u 12 [(1, .slice aK nK cK), (2, .pointer (some ⟨A, 0, none⟩)), (4, .pointer (some ⟨R, 0, none⟩)), (6, .int .i64 s), (8, c1), (10, .slice aK nK cK)]) [] B := by
    intro u
    refine T_one 4 (by kernel_rfl) fun _ => ?_
    refine O_go HC (by kernel_rfl) ?_
    rintro e W ⟨v', F, rfl, ho, hnd, hF, hb⟩
    obtain ⟨a', cap', rfl, ho2⟩ := id ho
    refine ⟨_, rfl, hb.block A hA.lt, ?_⟩
    refine T_z hq [6] (by kernel_rfl) ?_
    refine T_one 7 (by kernel_rfl) fun _ => ?_
    have hg := hR.of_block (hb.block _ hR.lt)
    obtain ⟨hs3, hs4⟩ := set3f W R (.int .i64 s) (.slice a' ns.length cap') (.slice aK nK cK)
    refine O_store_mid none 26 (.tmp 4) (.tmp 11) R 0 #[.int .i64 s, .slice a' ns.length cap', .slice aK nK cK] (by kernel_rfl) (by kernel_rfl) (by kernel_rfl) (there3f hg) sizeKd (by rw [← Array.all_toList]; rfl) ((hs3.at (Nat.lt_of_lt_of_le hA.lt hb.size) hAR).trans (hb.block A hA.lt)) ?_
    exact T_end 12 [(1, .slice aK nK cK), (2, .pointer (some ⟨A, 0, none⟩)), (4, .pointer (some ⟨R, 0, none⟩))] (by kernel_rfl) (by kernel_rfl) fun _ u => hend u a' cap' F _ (ho.carry (fun b hb' => hs3.at (hF b hb').2 (by have := (hF b hb').1; have := hR.lt; omega))) hnd (fun b hb' => ⟨(hF b hb').1, Nat.lt_of_lt_of_le (hF b hb').2 hs3.size⟩) (hs4 _ _ hg) ((But.of_below hb).trans hs3)
  refine T_z hq [0, 2, 5] (by kernel_rfl) ?_
  refine T_a hq [1, 3] (fun w' h => .cons (ldIntJ _ ⟨A, 0, none⟩ (.int .i64 s) ((hA.of_block h).cell (i := 0) (by omega))) (.cons (ldStrsF _ ⟨A, 1, none⟩ c1 ((hA.of_block h).cell (i := 1) (by omega))) Lds.nil)) (by kernel_rfl) ?_
  exact T_fr 8 12 [4, 6, 7] [(1, .slice aK nK cK), (2, .pointer (some ⟨A, 0, none⟩)), (4, .pointer (some ⟨R, 0, none⟩)), (6, .int .i64 s), (8, c1), (10, .slice aK nK cK)] (by kernel_rfl) fun u => P0 u
theorem wS_mem1 {x : ByteArray} : ∀ {l : List ByteArray}, x ∈ l → x.size ≤ wS l
  | [], h => by simp at h
  | a :: r, h => by
    rw [wS]
    rcases List.mem_cons.1 h with rfl | h
    · omega
    · have := wS_mem1 h; omega
theorem heap_set3j (w : World) (b : Nat) (c0 c1 c2 : Value) (k : Nat) (h : k ≠ b) : (((w.setCell ⟨b, 0, none⟩ c0).setCell ⟨b, 1, none⟩ c1).setCell ⟨b, 2, none⟩ c2).heap[k]? = w.heap[k]? := by
  rw [Below.heap_setCell _ _ _ _ h, Below.heap_setCell _ _ _ _ h, Below.heap_setCell _ _ _ _ h]
theorem size_set3j (w : World) (b : Nat) (c0 c1 c2 : Value) : (((w.setCell ⟨b, 0, none⟩ c0).setCell ⟨b, 1, none⟩ c1).setCell ⟨b, 2, none⟩ c2).heap.size = w.heap.size := by simp [World.setCell]
theorem below_set3j {B : Nat} {a w : World} (h : Below B a w) (b : Nat) (c0 c1 c2 : Value) (hb : B ≤ b) : Below B a (((w.setCell ⟨b, 0, none⟩ c0).setCell ⟨b, 1, none⟩ c1).setCell ⟨b, 2, none⟩ c2) := ((h.setCell hb _).setCell hb _).setCell hb _
/-- An answer that is a schema in memory of its own. -/
def DE (t : Kd) (w : World) (e : Ending) (w' : World) : Prop := ∃ (d : C3) (F : List Nat), e = .returned (.agg #[d.c0, d.c1, d.c2]) ∧ OwnD w' t d F ∧ F.Nodup ∧ (∀ b, b ∈ F → w.heap.size ≤ b ∧ b < w'.heap.size) ∧ Below w.heap.size w w'
set_option maxRecDepth 100000 in
set_option maxHeartbeats 1600000 in
theorem copyK1_any (base : Nat) (t : Kd) (P : Nat → Prop) (c1 c2 : Value) (aK : Option Addr) (cK : Nat) (G : List Nat) (w : World) (hP : ∀ b, P b → b < w.heap.size) (hI : I64 t.sort) (hst : StrsAt P w c1 t.names) (hK : KidsD w (.slice aK t.kids.length cK) t.kids G) (hnd : G.Nodup) (hG : ∀ b, b ∈ G → base ≤ b ∧ b < w.heap.size) (hbase : base ≤ w.heap.size) (hl : t.names.length ≤ 1048576) (hsz : ∀ x, x ∈ t.names → x.size ≤ 1099511627776) :
    Calls Tryz.prog 92 #[.agg #[.int .i64 t.sort, c1, c2], .slice aK t.kids.length cK] w fun e w' => ∃ (d : C3) (F : List Nat), e = .returned (.agg #[d.c0, d.c1, d.c2]) ∧ OwnD w' t d F ∧ F.Nodup ∧ (∀ b, b ∈ F → base ≤ b ∧ b < w'.heap.size) ∧ Below w.heap.size w w' := by
  have HCN := hide (fun W (hW : Below w.heap.size w W) => copyNames_any c1 t.names W (P := P) (fun b hb => Nat.lt_of_lt_of_le (hP b hb) hW.size) (hst.carry (fun b hb => hW.block b (hP b hb)) (fun _ h => h)) hl hsz)
  have hrk := (row3_alloc w (.int .i64 t.sort) c1 c2 26).alloc (.cells #[.int .i64 0, .slice none 0 0, .slice none 0 0] 26)
  have hrz := row3_alloc (w.alloc (.cells #[.int .i64 t.sort, c1, c2] 26)) (.int .i64 0) (.slice none 0 0) (.slice none 0 0) 26
  rw [World.size_alloc] at hrz
  have hbw : Below w.heap.size w ((w.alloc (.cells #[.int .i64 t.sort, c1, c2] 26)).alloc (.cells #[.int .i64 0, .slice none 0 0, .slice none 0 0] 26)) := ((Below.refl _ _).alloc (Nat.le_refl _) _).alloc (by simp) _
  have hs2 : ((w.alloc (.cells #[.int .i64 t.sort, c1, c2] 26)).alloc (.cells #[.int .i64 0, .slice none 0 0, .slice none 0 0] 26)).heap.size = w.heap.size + 2 := by simp
  have HRK := hide hrk; have HRZ := hide hrz; have HBW := hide hbw; have HS2 := hide hs2; have HKO := hide hK; have HG := hide hG; have HND := hide hnd
  obtain ⟨a0, p0, rfl, -⟩ := id hst
  clear hrk hrz hbw hs2 hK hG hnd hst hl hsz hP
  go_enter Tryz.func92, Tryz.ntmps92
  go_upto_region 1 with fail
  generalize ((w.alloc (.cells #[.int .i64 t.sort, .slice a0 t.names.length p0, c2] 26)).alloc (.cells #[.int .i64 0, .slice none 0 0, .slice none 0 0] 26)) = W0 at HRK HRZ HBW HS2 ⊢
  have hs2 := unhide HS2
  refine wp_swap (c' := Code.region 1 jc1Ops true) (by kernel_rfl) ?_
  refine wp_region_noPanic ?_
  refine jc1 w.heap.size (w.heap.size + 1) t.sort (.slice a0 t.names.length p0) c2 aK t.kids.length cK t.names _ W0 _ (fun _ _ _ _ _ h => h) ((unhide HRK).of_block rfl) ((unhide HRZ).of_block rfl) (by omega) (unhide HCN W0.drew (unhide HBW).drew) (by kernel_rfl) ?_
  intro u a' cap' F W' ho hnd hF hrow hbut
  refine NoPanic.normal ?_
  simp only [frL_eq, frG, List.lookup, Nat.reduceBEq, Nat.reduceAdd, Option.getD_some, Option.getD_none]
  have y0 := hrow.cell (i := 0) (by omega); have y1 := hrow.cell (i := 1) (by omega); have y2 := hrow.cell (i := 2) (by omega)
  simp only [row3] at y0 y1 y2
  have hsd : W0.drew.heap.size = W0.heap.size := rfl
  have hkk : ∀ b, b < w.heap.size → W'.heap[b]? = w.heap[b]? := fun b hb => (hbut.at (by omega) (by omega)).trans ((unhide HBW).drew.block b hb)
  have hbW : Below w.heap.size w W' := (unhide HBW).drew.trans ⟨hbut.os, hbut.tape, hbut.output, hbut.size, fun i hi => hbut.at (by omega) (by omega)⟩
  have hOD : OwnD W' t ⟨.int .i64 t.sort, .slice a' t.names.length cap', .slice aK t.kids.length cK⟩ (F ++ G) := OwnD.make rfl hI ho ((unhide HKO).carry (fun b hb => hkk b (unhide HG b hb).2))
  have HEND : Hid (∃ (d : C3) (F : List Nat), Ending.returned (.agg #[.int .i64 t.sort, .slice a' t.names.length cap', .slice aK t.kids.length cK]) = .returned (.agg #[d.c0, d.c1, d.c2]) ∧ OwnD W' t d F ∧ F.Nodup ∧ (∀ b, b ∈ F → base ≤ b ∧ b < W'.heap.size) ∧ Below w.heap.size w W') :=
    ⟨⟨_, _, _⟩, F ++ G, rfl, hOD, List.nodup_append.2 ⟨hnd, unhide HND, fun a ha b hb e => by have := (hF a ha).1; have := (unhide HG b hb).2; omega⟩, fun b hb => by
      rcases List.mem_append.1 hb with hb | hb
      · have := hF b hb; exact ⟨by omega, this.2⟩
      · have h1 := unhide HG b hb; have h2 := hbW.size; exact ⟨h1.1, by omega⟩, hbW⟩
  clear ho hnd hF hrow hbut hkk hbW hOD HCN HRK HRZ HBW HS2 HKO HG HND
  go_wp2_with fail
  exact bodyPost_ret (v := .agg #[.int .i64 t.sort, .slice a' t.names.length cap', .slice aK t.kids.length cK]) (by simp [results, Tryz.results92, go_sem, y0, y1, y2]) rfl (unhide HEND)
def CSaid (n : Nat) : Prop := ∀ (t : Kd), ksz t < n → ∀ (P : Nat → Prop) (c : C3) (w : World), (∀ b, P b → b < w.heap.size) → KRep P w t c → ksz t ≤ 1000000 → wKd t ≤ 1048576 →
    Calls Tryz.prog 91 #[.agg #[c.c0, c.c1, c.c2], .func (.func 92) #[] #[]] w (DE t w)
set_option maxRecDepth 100000 in
set_option maxHeartbeats 1600000 in
theorem gatherC_step (n : Nat) (IH : CSaid n) : CSaid (n + 1) := by
  intro t hn P c w hP hrep hsz hwt
  have hks1 : t.kids.length ≤ 1000000 := by
    have := klszLen t.kids
    have e : ksz t = 1 + klsz t.kids := by obtain ⟨s, ns, ks⟩ := t; rw [ksz]; rfl
    omega
  have hwe : wKd t = wS t.names + wKs t.kids := by obtain ⟨s, ns, ks⟩ := t; rfl
  have hnl : t.names.length ≤ 1048576 := by have := wS_len t.names; omega
  obtain ⟨c0, c1, c2⟩ := c
  obtain ⟨e0, hI0, hns, a, cap, e2, hlk8, hks⟩ := hrep.open
  simp only at e0 e2 hns
  have hnsK := hns
  obtain ⟨a3, cap3, e1, -, -⟩ := hns
  subst e0 e1 e2
  obtain ⟨i0, hi, hz0, hz1, hz2⟩ := info_parts infoKindG
  have hm : ∀ w, (method 309 26 (.agg #[.int .i64 t.sort, .slice a3 t.names.length cap3, .slice a t.kids.length cap]) "loop.example/teagle/impl.kids").run Tryz.prog w = .ok (146, .agg #[.int .i64 t.sort, .slice a3 t.names.length cap3, .slice a t.kids.length cap]) w := fun _ => by kernel_rfl
  have hsz8 : ∀ x, x ∈ t.names → x.size ≤ 1099511627776 := fun x hx => by have := wS_mem1 hx; omega
  have hft := fun (aK : Option Addr) (cK : Nat) (W : World) (G : List Nat) (hW : Below w.heap.size w W) (hK : KidsD W (.slice aK t.kids.length cK) t.kids G) (hnd : G.Nodup) (hG : ∀ b, b ∈ G → w.heap.size + 2 ≤ b ∧ b < W.heap.size) (hsw : w.heap.size + 2 ≤ W.heap.size) =>
    copyK1_any (w.heap.size + 2) t P (.slice a3 t.names.length cap3) (.slice a t.kids.length cap) aK cK G W (fun b hb => Nat.lt_of_lt_of_le (hP b hb) hW.size) hI0 (hnsK.carry (fun b hb => hW.block b (hP b hb)) (fun _ h => h)) hK hnd hG hsw hnl hsz8
  have HFT := hide hft; have HP := hide hP; have HI := hide IH; have HK := hide hks
  have HII := hide hi; have HZ0 := hide hz0; have HZ1 := hide hz1; have HZ2 := hide hz2
  have hkw : ∀ i (hi : i < t.kids.length), wKd t.kids[i] ≤ 1048576 := fun i hi => by have := wKs_mem (List.getElem_mem hi); omega
  have HKW := hide hkw
  clear hft hP IH hks hi hz0 hz1 hz2 hrep hwt hwe hkw hnsK hI0 hsz8 hlk8
  go_enter Tryz.func91, Tryz.ntmps91
  go_wp2_with (go_at_call 146; refine (kidsP_any _ _ _ _ _ _).mono ?_; rintro e w' ⟨rfl, rfl⟩)
  clear hm
  obtain ⟨W0, hW0⟩ : ∃ W0, (((w.alloc (.cells #[.int .i64 t.sort, .slice a3 t.names.length cap3, .slice a t.kids.length cap] 26)).alloc (.cells #[.int .i64 0, .slice none 0 0, .slice none 0 0] 26)).alloc (.cells #[.int .i64 t.sort, .slice a3 t.names.length cap3, .slice a t.kids.length cap] 26)) = W0 := ⟨_, rfl⟩
  have hs0 : W0.heap.size = w.heap.size + 3 := by rw [← hW0]; simp
  have hbl : Below w.heap.size w W0 := by rw [← hW0]; exact (((Below.refl _ _).alloc (Nat.le_refl _) _).alloc (by simp) _).alloc (by simp; omega) _
  have hr0 : W0.rowIs w.heap.size 26 3 (row3 (.int .i64 t.sort) (.slice a3 t.names.length cap3) (.slice a t.kids.length cap)) := by rw [← hW0]; exact ((row3_alloc w _ _ _ _).alloc _).alloc _
  have hr1 : W0.rowIs (w.heap.size + 1) 26 3 (row3 (.int .i64 0) (.slice none 0 0) (.slice none 0 0)) := by
    rw [← hW0]
    have q := row3_alloc (w.alloc (.cells #[.int .i64 t.sort, .slice a3 t.names.length cap3, .slice a t.kids.length cap] 26)) (.int .i64 0) (.slice none 0 0) (.slice none 0 0) 26
    rw [World.size_alloc] at q
    exact q.alloc _
  rw [hW0]
  have HBL := hide hbl; have HR0 := hide hr0; have HR1 := hide hr1
  clear hW0 hbl hr0 hr1
  generalize hkk : t.kids = ks at *
  have HKS := hide hkk; clear hkk
  go_loopw [5, 12] (fun s i wr => ∃ (k : Nat) (a' : Option Addr) (cap' : Nat) (xs : List Value) (G : List Nat), k ≤ ks.length ∧ i = .int .i64 k ∧ s = .slice a' k cap' ∧ Hid (GotD (w.heap.size + 2) wr (.slice a' k cap') (ks.take k) xs G) ∧ Hid (Below (w.heap.size + 2) W0 wr)) (fun _ i _ => ks.length - (intOf i).toNat)
  case atStart => exact ⟨0, none, 0, [], [], Nat.zero_le _, rfl, rfl, GotD.start _ _, Below.refl _ _⟩
  case round =>
    obtain ⟨k, a', cap', xs, G, hk, rfl, rfl, HG, HB⟩ := hrel
    have hsw := HB.out.size
    have hkl : (ks.take k).length = k := by simp; omega
    have HKL := hide hkl; clear hkl
    have hbw : Below w.heap.size w wr := (unhide HBL).trans (HB.out.mono (by omega))
    have HBW := hide hbw; clear hbw
    by_cases hlt : k < ks.length
    · obtain ⟨b, o, c, rfl, hpb, hcell, hrp⟩ := unhide HK k hlt
      have hcell' := hcell.carry ((unhide HBW).block b (unhide HP b hpb))
      obtain ⟨d0, d1, d2⟩ := c
      have hrw : KRep P wr ks[k] ⟨d0, d1, d2⟩ := KRep.carry (fun b hb => (unhide HBW).block b (unhide HP b hb)) (fun _ h => h) _ _ hrp
      obtain ⟨g0, -, ⟨a5, cap5, g1, -⟩, a6, cap6, g2, -⟩ := hrp.open
      simp only at g0 g1 g2
      subst g0 g1 g2
      obtain ⟨f0, f1, f2⟩ := hcell'
      simp only at f0 f1 f2
      have hmem : ks[k] ∈ t.kids := by rw [unhide HKS]; exact List.getElem_mem hlt
      have hsm : ksz ks[k] < n := by have := ksz_kid hmem; omega
      have hsm' : ksz ks[k] < ksz t := ksz_kid hmem
      have hba : ∀ ob, Below wr.heap.size wr (wr.alloc ob) := fun ob => (Below.refl _ _).alloc (Nat.le_refl _) ob
      have hcall : ∀ ob, Calls Tryz.prog 91 #[.agg #[.int .i64 ks[k].sort, .slice a5 ks[k].names.length cap5, .slice a6 ks[k].kids.length cap6], .func (.func 92) #[] #[]] (wr.alloc ob) fun e w' => ∃ (d : C3) (F : List Nat), e = .returned (.agg #[d.c0, d.c1, d.c2]) ∧ OwnD w' ks[k] d F ∧ F.Nodup ∧ (∀ b, b ∈ F → wr.heap.size ≤ b ∧ b < w'.heap.size) ∧ Below wr.heap.size wr w' := fun ob =>
        (unhide HI ks[k] hsm P ⟨_, _, _⟩ (wr.alloc ob) (fun b hb => by have := unhide HP b hb; simp; omega) (KRep.carry (fun b hb => (hba ob).block b (by have := unhide HP b hb; omega)) (fun _ h => h) _ _ hrw) (by omega) (unhide HKW k hlt)).mono
          fun e w' ⟨d, F, h1, h2, h3, h4, h5⟩ => ⟨d, F, h1, h2, h3, fun b hb => ⟨by have := (h4 b hb).1; simp at this; omega, (h4 b hb).2⟩, (hba ob).trans (h5.mono (hba ob).size)⟩
      have htk : ks.take (k + 1) = ks.take k ++ [ks[k]] := List.take_succ_eq_append_getElem hlt
      generalize hkk2 : ks[k] = tk at *
      clear hkk2
      have HCALL := hide hcall; have HTK := hide htk
      clear hcall htk hcell hrp hrw hmem hsm hsm' hba hpb
      go_wp2_with fail
      refine (unhide HCALL _).mono ?_
      rintro e w2 ⟨⟨d0, d1, d2⟩, F, rfl, hown, hFn, hFl, hb2⟩
      have hs2 := hb2.size
      have hg2 : wr.grownBy w2 none := ⟨hb2.os, hb2.tape, hb2.output, hb2.size, fun i hi _ => hb2.block i hi⟩
      have hgot2 := HG.out.other hg2 (fun b e => by cases e)
      have hGm : ∀ b, b ∈ G → b < wr.heap.size := fun b hb => (HG.out.lt b hb).2.1
      have hvm : ∀ b, (Value.slice a' k cap').ownBlock = some b → b < wr.heap.size := fun b hb => (HG.out.row.lt b hb).2
      obtain ⟨y0, -, F1, F2, -, ⟨a7, cap7, y3, -⟩, a8, cap8, y4, -⟩ := hown.open
      have hone := hown.one
      simp only at y0 y3 y4
      subst y0 y3 y4
      have HOWN := hide hown; have HFL := hide hFl; have HGOT := hide hgot2; have HGM := hide hGm; have HVM := hide hvm; have HONE := hide hone; have HB2 := hide (HB.out.trans (hb2.mono (by omega)))
      clear hown hFl hb2 hg2 hgot2 hGm hvm hone f0 f1 f2 HCALL
      go_wp2_with (at_builtin; refine append_row _ rfl _ _ 24 rfl (w.heap.size + 2) 26 i0 _ 3 56 Tryz.underlying24 (unhide HII) (unhide HZ0) (unhide HZ1) (unhide HZ2) rfl (by decide) (.slice a' k cap') k xs rfl (by have := (unhide HGOT).row; rw [unhide HKL] at this; exact this.alloc _) ⟨w2.heap.size, 0, none⟩ 1 1 (c3l ⟨_, _, _⟩) rfl rfl (cell_three _ _ _) (unhide HONE) (by decide) (by unfold maxLen; omega) (by omega) (by simp; omega) ?_; intro v' w4 hown4 hgrow4 hv4)
      obtain ⟨g', cap'', hv''⟩ : ∃ g' cap'', v' = .slice (some ⟨g', 0, none⟩) (k + 1) cap'' := by
        rcases hown4.2 with ⟨_, h⟩ | ⟨g', cap'', _, h, _⟩
        · omega
        · exact ⟨g', cap'', h⟩
      have hal := World.grownBy_alloc w2 (.cells #[.int .i64 tk.sort, .slice a7 tk.names.length cap7, .slice a8 tk.kids.length cap8] 26) none
      have hlt4 := (unhide HGOT).row.lt
      have hpush := GotD.push (m := wr.heap.size) ((unhide HGOT).other hal (fun b e => by cases e)) (OwnD.carry tk _ F (fun b hb => hal.block b (unhide HFL b hb).2 (by simp)) (unhide HOWN)) hFn (fun b hb => ⟨(unhide HFL b hb).1, by have := (unhide HFL b hb).2; simp; omega⟩) (unhide HGM) (unhide HVM) (by omega) (by rw [unhide HKL]; exact hown4) hgrow4 hv4
      rw [← unhide HTK] at hpush
      have hb4 : Below (w.heap.size + 2) w2 w4 := ((Below.refl _ w2).alloc (by omega) _).trans ((Below.refl _ _).grown hgrow4 (by simp; omega) (fun k e => (hlt4 k e).1))
      subst hv''
      have HPU := hide hpush; have HB4 := hide ((unhide HB2).trans hb4)
      clear hown4 hgrow4 hv4 hpush hb4 hlt4 hal
      go_roundw
      case rel => exact ⟨k + 1, some ⟨g', 0, none⟩, cap'', _, _, by omega, by go_num, rfl, unhide HPU, unhide HB4⟩
      case measure => simp [intOf]; omega
    · obtain rfl : k = ks.length := by omega
      have hg := HG.out
      rw [List.take_length] at hg
      obtain ⟨F, hKO, hnd, hFl, -⟩ := hg.done
      have hcall := unhide HFT a' cap' wr F (unhide HBW) hKO hnd hFl (by omega)
      have q0 := (unhide HR0).of_block (HB.out.block w.heap.size (by omega))
      have q1 := (unhide HR1).of_block (HB.out.block (w.heap.size + 1) (by omega))
      have k0 := q0.cell (i := 0) (by omega); have k1 := q0.cell (i := 1) (by omega); have k2 := q0.cell (i := 2) (by omega)
      simp only [row3] at k0 k1 k2
      have HCALL := hide hcall; have Q1 := hide q1
      clear hcall hKO hFl hg q0 q1
      go_wp2_with fail
      refine (unhide HCALL).mono ?_
      rintro e w2 ⟨⟨d0, d1, d2⟩, F', rfl, hown, hFn, hFl, hb2⟩
      have hs2 := hb2.size
      have q2 := (unhide Q1).of_block (hb2.block (w.heap.size + 1) (by omega))
      have z := q2.frozen
      have y0 := q2.cell (i := 0) (by omega); have y1 := q2.cell (i := 1) (by omega); have y2 := q2.cell (i := 2) (by omega)
      simp only [row3] at y0 y1 y2
      obtain ⟨x0, -, F1, F2, -, ⟨a7, cap7, x3, -⟩, a8, cap8, x4, -⟩ := hown.open
      simp only at x0 x3 x4
      subst x0 x3 x4
      have HOWN := hide hown; have HFL := hide hFl; have HB2 := hide ((unhide HBW).trans (hb2.mono (by omega)))
      clear hown hFl hb2 q2 HCALL
      go_wp2_with fail
      refine bodyPost_ret (v := .agg #[.int .i64 t.sort, .slice a7 t.names.length cap7, .slice a8 t.kids.length cap8]) (by simp [results, Tryz.results91, go_sem, y0, y1, y2]) rfl ⟨⟨_, _, _⟩, F', rfl, ?_, hFn, ?_, ?_⟩
      · exact OwnD.carry t _ F' (fun b hb => heap_set3j _ _ _ _ _ _ (by have := (unhide HFL b hb).1; omega)) (unhide HOWN)
      · intro b hb
        rw [size_set3j]
        have := unhide HFL b hb; omega
      · exact below_set3j (unhide HB2) _ _ _ _ (by omega)

theorem gatherC_all : ∀ n, CSaid n
  | 0 => fun t h => by omega
  | n + 1 => gatherC_step n (gatherC_all n)

set_option maxRecDepth 100000 in
theorem copyKind_any (t : Kd) (P : Nat → Prop) (c : C3) (w : World) (hP : ∀ b, P b → b < w.heap.size) (hrep : KRep P w t c) (hsz : ksz t ≤ 1000000) (hwt : wKd t ≤ 1048576) :
    Calls Tryz.prog 72 #[.agg #[c.c0, c.c1, c.c2]] w (DE t w) := by
  have hcall := fun W (hW : Below w.heap.size w W) => gatherC_all (ksz t + 1) t (by omega) P c W (fun b hb => Nat.lt_of_lt_of_le (hP b hb) hW.size) (KRep.carry (fun b hb => hW.block b (hP b hb)) (fun _ h => h) _ _ hrep) hsz hwt
  obtain ⟨c0, c1, c2⟩ := c
  have hrk := (row3_alloc w c0 c1 c2 26).alloc (.cells #[.int .i64 0, .slice none 0 0, .slice none 0 0] 26)
  have hrz := row3_alloc (w.alloc (.cells #[c0, c1, c2] 26)) (.int .i64 0) (.slice none 0 0) (.slice none 0 0) 26
  rw [World.size_alloc] at hrz
  have hbw : Below w.heap.size w ((w.alloc (.cells #[c0, c1, c2] 26)).alloc (.cells #[.int .i64 0, .slice none 0 0, .slice none 0 0] 26)) := ((Below.refl _ _).alloc (Nat.le_refl _) _).alloc (by simp) _
  have HC := hide hcall; have HRZ := hide hrz; have HBW := hide hbw
  obtain ⟨e0, -, ⟨a3, cap3, e1, -, -⟩, a, cap, e2, -, -⟩ := hrep.open
  simp only at e0 e1 e2
  subst e0 e1 e2
  have k0 := hrk.cell (i := 0) (by omega); have k1 := hrk.cell (i := 1) (by omega); have k2 := hrk.cell (i := 2) (by omega)
  simp only [row3] at k0 k1 k2
  clear hcall hrk hrz hbw hrep hP hsz hwt
  go_enter Tryz.func72, Tryz.ntmps72
  go_wp2_with fail
  generalize ((w.alloc (.cells #[.int .i64 t.sort, .slice a3 t.names.length cap3, .slice a t.kids.length cap] 26)).alloc (.cells #[.int .i64 0, .slice none 0 0, .slice none 0 0] 26)) = W0 at HRZ HBW k0 k1 k2 ⊢
  refine (unhide HC W0 (unhide HBW)).mono ?_
  rintro e w2 ⟨⟨d0, d1, d2⟩, F, rfl, hown, hnd, hF, hb2⟩
  have q2 := (unhide HRZ).of_block (hb2.block _ (unhide HRZ).lt)
  have z := q2.frozen
  have y0 := q2.cell (i := 0) (by omega); have y1 := q2.cell (i := 1) (by omega); have y2 := q2.cell (i := 2) (by omega)
  simp only [row3] at y0 y1 y2
  obtain ⟨x0, -, F1, F2, -, ⟨a7, cap7, x3, -⟩, a8, cap8, x4, -⟩ := hown.open
  simp only at x0 x3 x4
  subst x0 x3 x4
  have hlz := (unhide HRZ).lt
  have HOWN := hide hown; have HF := hide hF; have HB2 := hide ((unhide HBW).trans (hb2.mono (unhide HBW).size)); have HSZ := hide (unhide HBW).size
  clear hown hF hb2 q2 k0 k1 k2 HC
  go_wp2_with fail
  refine bodyPost_ret (v := .agg #[.int .i64 t.sort, .slice a7 t.names.length cap7, .slice a8 t.kids.length cap8]) (by simp [results, Tryz.results72, go_sem, y0, y1, y2]) rfl ⟨⟨_, _, _⟩, F, rfl, ?_, hnd, ?_, ?_⟩
  · exact OwnD.carry t _ F (fun b hb => heap_set3j _ _ _ _ _ _ (by have := (unhide HF b hb).1; omega)) (unhide HOWN)
  · intro b hb
    rw [size_set3j]
    have h1 := unhide HF b hb; have h2 := unhide HSZ; exact ⟨by omega, h1.2⟩
  · exact below_set3j (unhide HB2) _ _ _ _ (by omega)
end Go.Proofs.YtenpghndgdemnaaGreatDoor
