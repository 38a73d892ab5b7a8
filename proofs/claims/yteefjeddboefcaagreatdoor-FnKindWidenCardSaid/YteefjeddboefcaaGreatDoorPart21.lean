/- A part. -/
import Derived.Test.YteefjeddboefcaaGreatDoorPart20
namespace Go.Proofs.YteefjeddboefcaaGreatDoor
open Go Go.RowKit
set_option maxHeartbeats 800000
theorem newNum_yes (n:Int) (w:World) (h:-999999999≤n∧n≤999999999):Calls Tryz.prog 101 #[.int .i64 n] w fun e w'=>e=.returned (.int .i64 n)∧w'=w:=by
 obtain ⟨h1,h2⟩:=h
 have d2:decide (n≤999999999)=true:=by simp;omega
 go_enter Tryz.func101,Tryz.ntmps101
 go_wp2_with (go_at_call 87;refine (treeWant_yes _).mono ?_;rintro e w' ⟨rfl,rfl⟩)
 go_ret
 exact ⟨rfl,rfl⟩
theorem newNum_no (n:Int) (w:World) (h:¬ (-999999999≤n∧n≤999999999)):Calls Tryz.prog 101 #[.int .i64 n] w fun e w'=>e=fltE∧w'=w:=by
 have h':n < -999999999∨999999999 < n:=by omega
 clear h
 rcases h' with h | h
 · go_enter Tryz.func101,Tryz.ntmps101
   go_wp2_with (go_at_call 87;refine (treeWant_no _).mono ?_;rintro e w' ⟨rfl,rfl⟩)
   exact ⟨rfl,rfl,rfl⟩
 · have d2:decide (n≤999999999)=false:=by simp;omega
   go_enter Tryz.func101,Tryz.ntmps101
   go_wp2_with (go_at_call 87;refine (treeWant_no _).mono ?_;rintro e w' ⟨rfl,rfl⟩)
   exact ⟨rfl,rfl,rfl⟩
theorem newList_yes (a:Option Addr) (n cap:Nat) (w:World) (h:n≤20):Calls Tryz.prog 104 #[.slice a n cap] w fun e w'=>e=.returned (.slice a n cap)∧w'=w:=by
 have d:decide ((n:Int)≤20)=true:=by simp;omega
 go_enter Tryz.func104,Tryz.ntmps104
 go_wp2_with (go_at_call 87;refine (treeWant_yes _).mono ?_;rintro e w' ⟨rfl,rfl⟩)
 go_ret
 exact ⟨rfl,rfl⟩
theorem newList_no (a:Option Addr) (n cap:Nat) (w:World) (h:¬ n≤20):Calls Tryz.prog 104 #[.slice a n cap] w fun e w'=>e=fltE∧w'=w:=by
 have d:decide ((n:Int)≤20)=false:=by simp;omega
 go_enter Tryz.func104,Tryz.ntmps104
 go_wp2_with (go_at_call 87;refine (treeWant_no _).mono ?_;rintro e w' ⟨rfl,rfl⟩)
 exact ⟨rfl,rfl,rfl⟩
theorem newMaybe_yes (a:Option Addr) (n cap:Nat) (w:World) (h:n≤1):Calls Tryz.prog 107 #[.slice a n cap] w fun e w'=>e=.returned (.slice a n cap)∧w'=w:=by
 have d:decide ((n:Int)≤1)=true:=by simp;omega
 go_enter Tryz.func107,Tryz.ntmps107
 go_wp2_with (go_at_call 87;refine (treeWant_yes _).mono ?_;rintro e w' ⟨rfl,rfl⟩)
 go_ret
 exact ⟨rfl,rfl⟩
theorem newMaybe_no (a:Option Addr) (n cap:Nat) (w:World) (h:¬ n≤1):Calls Tryz.prog 107 #[.slice a n cap] w fun e w'=>e=fltE∧w'=w:=by
 have d:decide ((n:Int)≤1)=false:=by simp;omega
 go_enter Tryz.func107,Tryz.ntmps107
 go_wp2_with (go_at_call 87;refine (treeWant_no _).mono ?_;rintro e w' ⟨rfl,rfl⟩)
 exact ⟨rfl,rfl,rfl⟩
theorem newText_any (s:ByteArray) (w:World) (hs:s.size≤9223372036854775807) :
 Calls Tryz.prog 102 #[.string s] w fun e w'=>(textOkB s=true∧e=.returned (.string s)∨textOkB s=false∧e=fltE)∧w'=w:=by
 by_cases h60:s.size≤60
 · have d:decide ((s.size:Int)≤60)=true:=by simp;omega
   go_enter Tryz.func102,Tryz.ntmps102
   go_wp2_with (go_at_call 87;refine (treeWant_yes _).mono ?_;rintro e w' ⟨rfl,rfl⟩)
   go_loop [10] (fun i=>∃ k:Nat,k≤s.size∧i=.int .i64 k∧Hid (allTo textByte s k)) (fun i=>s.size - (intOf i).toNat)
   case atStart=>exact ⟨0,Nat.zero_le _,rfl,fun j hj=>by omega⟩
   case round =>
    obtain ⟨k,hk,rfl,HA⟩:=hrel
    by_cases hlt:k < s.size
    · have hc:s[k].toNat < 32∨126 < s[k].toNat∨s[k].toNat=34∨(32≤s[k].toNat∧s[k].toNat≤126∧s[k].toNat≠34):=by omega
      rcases hc with hc | hc | hc | hc
      · have HN:=xH (textOk_not hlt (textByte_no (Or.inl hc)))
        go_wp2_with (go_at_call 87;refine (treeWant_no _).mono ?_;rintro e w' ⟨rfl,rfl⟩)
        exact ⟨rfl,Or.inr ⟨xU HN,rfl⟩,rfl⟩
      · have HN:=xH (textOk_not hlt (textByte_no (Or.inr (Or.inl hc))))
        have d1:decide ((32:Int)≤s[k].toNat)=true:=by simp;omega
        have d2:decide ((s[k].toNat:Int)≤126)=false:=by simp;omega
        go_wp2_with (go_at_call 87;refine (treeWant_no _).mono ?_;rintro e w' ⟨rfl,rfl⟩)
        exact ⟨rfl,Or.inr ⟨xU HN,rfl⟩,rfl⟩
      · have HN:=xH (textOk_not hlt (textByte_no (Or.inr (Or.inr hc))))
        have d1:decide ((32:Int)≤s[k].toNat)=true:=by simp;omega
        have d2:decide ((s[k].toNat:Int)≤126)=true:=by simp;omega
        have d3:((s[k].toNat:Int) != 34)=false:=by simp;omega
        clear hc
        go_wp2_with (go_at_call 87;refine (treeWant_no _).mono ?_;rintro e w' ⟨rfl,rfl⟩)
        exact ⟨rfl,Or.inr ⟨xU HN,rfl⟩,rfl⟩
      · have HN:=xH (allTo_succ HA.out hlt (textByte_yes hc))
        obtain ⟨hc1,hc2,hc3⟩:=hc
        have d1:decide ((32:Int)≤s[k].toNat)=true:=by simp;omega
        have d2:decide ((s[k].toNat:Int)≤126)=true:=by simp;omega
        have d3:((s[k].toNat:Int) != 34)=true:=by simp;omega
        go_wp2_with (go_at_call 87;refine (treeWant_yes _).mono ?_;rintro e w' ⟨rfl,rfl⟩)
        go_round
        case rel=>exact ⟨k+1,by omega,by go_num,HN⟩
        case measure=>simp [intOf];omega
    · go_wp2_with fail
      go_ret
      obtain rfl:k=s.size:=by omega
      exact ⟨Or.inl ⟨textOk_yes h60 HA.out,rfl⟩,rfl⟩
 · have HN:Hid (textOkB s=false):=by show _=_;unfold textOkB;rw [decide_eq_false h60];rfl
   have d:decide ((s.size:Int)≤60)=false:=by simp;omega
   go_enter Tryz.func102,Tryz.ntmps102
   go_wp2_with (go_at_call 87;refine (treeWant_no _).mono ?_;rintro e w' ⟨rfl,rfl⟩)
   exact ⟨rfl,Or.inr ⟨xU HN,rfl⟩,rfl⟩
structure Bnd (w:World) (B:Nat) (p l:Int):Prop where
 c0:w.cell? ⟨B,0,none⟩=some (.int .i64 p)
 c1:w.cell? ⟨B,1,none⟩=some (.int .i64 l)
 f0:w.frozen? ⟨B,0,none⟩=false
 f1:w.frozen? ⟨B,1,none⟩=false
theorem Bnd.lt {w:World} {B:Nat} {p l:Int} (h:Bnd w B p l):B < w.heap.size:=World.block_lt_of_cell? w _ h.c0
theorem Bnd.of_block {w w':World} {B:Nat} {p l:Int} (h:Bnd w B p l) (e:w'.heap[B]? = w.heap[B]?):Bnd w' B p l :=
 ⟨by rw [World.cell?_of_block (w:=w) e];exact h.c0,by rw [World.cell?_of_block (w:=w) e];exact h.c1,by rw [World.frozen?_of_block (w:=w) e];exact h.f0,by rw [World.frozen?_of_block (w:=w) e];exact h.f1⟩
theorem enter_yes (B:Nat) (p l:Int) (w:World) (hB:Bnd w B p l) (hp:0≤p) (hl:0≤l) (h1:p+1≤120) (h2:l+1≤6) :
 Calls Tryz.prog 86 #[.pointer (some ⟨B,0,none⟩)] w fun e w'=>e=.returned (.tuple #[])∧w'=(w.setCell ⟨B,0,none⟩ (.int .i64 (p+1))).setCell ⟨B,1,none⟩ (.int .i64 (l+1)):=by
 obtain ⟨c0,c1,f0,f1⟩:=hB
 have d1:decide (p+1≤120)=true:=by simp;omega
 have d2:decide (l+1≤6)=true:=by simp;omega
 go_enter Tryz.func86,Tryz.ntmps86
 go_wp2_with (go_at_call 87;refine (treeWant_yes _).mono ?_;rintro e w' ⟨rfl,rfl⟩)
 go_end0
 exact ⟨rfl,rfl⟩
theorem enter_no (B:Nat) (p l:Int) (w:World) (hB:Bnd w B p l) (hp:0≤p) (hl:0≤l) (hp1:p≤120) (hl1:l≤6) (h:¬ (p+1≤120∧l+1≤6)) :
 Calls Tryz.prog 86 #[.pointer (some ⟨B,0,none⟩)] w fun e w'=>e=fltE∧w'=(w.setCell ⟨B,0,none⟩ (.int .i64 (p+1))).setCell ⟨B,1,none⟩ (.int .i64 (l+1)):=by
 obtain ⟨c0,c1,f0,f1⟩:=hB
 by_cases h1:p+1≤120
 · have d1:decide (p+1≤120)=true:=by simp;omega
   have d2:decide (l+1≤6)=false:=by simp;omega
   clear h
   go_enter Tryz.func86,Tryz.ntmps86
   go_wp2_with (go_at_call 87;refine (treeWant_no _).mono ?_;rintro e w' ⟨rfl,rfl⟩)
   exact ⟨rfl,rfl,rfl⟩
 · have d1:decide (p+1≤120)=false:=by simp;omega
   clear h
   go_enter Tryz.func86,Tryz.ntmps86
   go_wp2_with (go_at_call 87;refine (treeWant_no _).mono ?_;rintro e w' ⟨rfl,rfl⟩)
   exact ⟨rfl,rfl,rfl⟩
theorem leave_any (B:Nat) (p l:Int) (w:World) (hB:Bnd w B p l) (hl:0≤l) (hl1:l≤10) :
 Calls Tryz.prog 90 #[.pointer (some ⟨B,0,none⟩)] w fun e w'=>e=.returned (.tuple #[])∧w'=w.setCell ⟨B,1,none⟩ (.int .i64 (l - 1)):=by
 obtain ⟨c0,c1,f0,f1⟩:=hB
 go_enter Tryz.func90,Tryz.ntmps90
 go_wp2_with fail
 go_end0
 exact ⟨rfl,rfl⟩
theorem newForm_any (v:Value) (ss:List ByteArray) (a:Option Addr) (n cap:Nat) (w:World) {P:Nat→Prop} (hP:∀ b,P b→b < w.heap.size) (hv:StrsAt P w v ss) :
 Calls Tryz.prog 106 #[v,.slice a n cap] w fun e w'=>((ss.length=n∧riseB ss=true)∧e=.returned (.agg #[v,.slice a n cap])∨¬ (ss.length=n∧riseB ss=true)∧e=fltE)∧Below w.heap.size w w':=by
 have hbx:∀ o,Below w.heap.size w (w.alloc o):=fun o=>(Below.refl _ _).alloc (Nat.le_refl _) o
 have hasc:∀ o,Calls Tryz.prog 84 #[v] (w.alloc o) fun e w'=>e=.returned (.bool (riseB ss))∧w'=w.alloc o:=fun o =>
  namesAscend_any v ss (w.alloc o) (P:=P) (fun b hb=>Nat.lt_of_lt_of_le (hP b hb) (hbx o).size) (hv.carry (fun b hb=>(hbx o).block b (hP b hb)) (fun _ h=>h))
 have HA:=xH hasc;have HBX:=xH hbx
 obtain ⟨a3,cap3,rfl,hlen,-⟩:=hv
 clear hasc hbx hP
 by_cases hnl:ss.length=n
 · have d:((ss.length:Int)==(n:Int))=true:=by simp;omega
   have HNL:=xH hnl;clear hnl
   cases hr:riseB ss
   · rw [hr] at HA
     go_enter Tryz.func106,Tryz.ntmps106
     go_wp2_with (first | (go_at_call 84;refine (xU HA _).mono ?_;rintro e w' ⟨rfl,rfl⟩) | (go_at_call 87;refine (treeWant_no _).mono ?_;rintro e w' ⟨rfl,rfl⟩))
     exact ⟨rfl,Or.inr ⟨fun h=>Bool.false_ne_true h.2,rfl⟩,xU HBX _⟩
   · rw [hr] at HA
     go_enter Tryz.func106,Tryz.ntmps106
     go_wp2_with (first | (go_at_call 84;refine (xU HA _).mono ?_;rintro e w' ⟨rfl,rfl⟩) | (go_at_call 87;refine (treeWant_yes _).mono ?_;rintro e w' ⟨rfl,rfl⟩))
     refine bodyPost_ret (v:=.agg #[.slice a3 ss.length cap3,.slice a n cap]) (by simp [results,Tryz.results106,go_sem]) rfl ⟨Or.inl ⟨⟨xU HNL,by simp⟩,rfl⟩,xU HBX _⟩
 · have d:((ss.length:Int)==(n:Int))=false:=by simp;omega
   have HNL:=xH hnl;clear hnl
   go_enter Tryz.func106,Tryz.ntmps106
   go_wp2_with (go_at_call 87;refine (treeWant_no _).mono ?_;rintro e w' ⟨rfl,rfl⟩)
   exact ⟨rfl,Or.inr ⟨fun h=>xU HNL h.1,rfl⟩,xU HBX _⟩

mutual
def wlk:Tr→Int→Int→Option Int
 | .mk s n tx ns ks,p,l =>
   if p+1≤120∧l+1≤6 then
    if ownB (.mk s n tx ns ks)=true then
     match wlkK ks (p+1) (l+1) with
     | none=>none
     | some q=>if newB (.mk s n tx ns ks)=true then some q else none
    else none
   else none
def wlkK:List Tr→Int→Int→Option Int
 | [],p,_=>some p
 | t::r,p,l=>match wlk t p l with
   | none=>none
   | some q=>wlkK r q l
end
theorem wlk_eq (t:Tr) (p l:Int):wlk t p l=if p+1≤120∧l+1≤6 then
 if ownB t=true then
  match wlkK t.kids (p+1) (l+1) with
  | none=>none
  | some q=>if newB t=true then some q else none
 else none
 else none:=by
 obtain ⟨s,n,tx,ns,ks⟩:=t
 rw [wlk];rfl
def onto (p k:Int):Option Int:=if k < 0∨120 < p+k then none else some (p+k)
mutual
theorem wlk_is:∀ (t:Tr) (p l:Int),0≤p→p≤120→wlk t p l=onto p (pT t (l+1))
 | .mk s n tx ns ks,p,l=>by
   intro hp hp1
   rw [wlk,pT]
   by_cases h:p+1≤120∧l+1≤6
   · rw [if_pos h]
     rw [alone_eq]
     by_cases ho:ownB (.mk s n tx ns ks)=true
     · rw [if_pos ho,ho,wlkK_is ks (p+1) (l+1) 1 (by omega) (by omega) (by omega)]
       have hbd:=pK_bd ks (l+1) 1 (by omega) (by omega)
       generalize pK ks (l+1) 1=r at hbd
       by_cases hn:newB (.mk s n tx ns ks)=true
       · rw [hn]
         simp only [Bool.and_self,Bool.true_eq_false,or_false]
         rw [if_neg (by omega)]
         unfold onto
         by_cases hx:r < 0∨120 < p+r
         · rw [if_pos (by omega),if_pos hx]
         · rw [if_neg (by omega),if_neg hx]
           simp
       · have hn':newB (.mk s n tx ns ks)=false:=by simpa using hn
         rw [hn']
         simp only [Bool.and_false,or_true,if_true]
         have:onto p (-1)=none:=by unfold onto;rw [if_pos (by omega)]
         rw [this]
         unfold onto
         split <;> rfl
     · have ho':ownB (.mk s n tx ns ks)=false:=by simpa using ho
       rw [if_neg ho,ho']
       simp only [Bool.false_and,or_true,if_true]
       unfold onto;rw [if_pos (by omega)]
   · rw [if_neg h]
     unfold onto
     by_cases h6:6 < l+1
     · rw [if_pos (Or.inl h6),if_pos (by omega)]
     · split
       · rw [if_pos (by omega)]
       · have hbd:=pK_bd ks (l+1) 1 (by omega) (by omega)
         rw [if_pos (by omega)]
theorem wlkK_is:∀ (ks:List Tr) (p l n:Int),1≤n→n≤p→p≤120→wlkK ks p l=onto (p - n) (pK ks l n)
 | [],p,l,n=>by
   intro h1 h2 h3
   rw [wlkK,pK]
   unfold onto
   rw [if_neg (by omega)]
   congr 1;omega
 | t::r,p,l,n=>by
   intro h1 h2 h3
   rw [wlkK,pK,wlk_is t p l (by omega) h3]
   have hbd:=pT_bd t (l+1)
   generalize pT t (l+1)=k at hbd
   by_cases hx:k < 0∨120 < p+k
   · have:onto p k=none:=by unfold onto;rw [if_pos hx]
     rw [this]
     simp only
     by_cases hy:k < 0∨120 < n+k
     · rw [if_pos hy];unfold onto;rw [if_pos (by omega)]
     · rw [if_neg hy]
       have hbd2:=pK_bd r l (n+k) (by omega) (by omega)
       have hge:=pK_ge r l (n+k)
       unfold onto;rw [if_pos (by omega)]
   · have:onto p k=some (p+k):=by unfold onto;rw [if_neg hx]
     rw [this]
     simp only
     rw [wlkK_is r (p+k) l (n+k) (by omega) (by omega) (by omega),if_neg (by omega),show p+k - (n+k)=p - n from by omega]
theorem pK_ge:∀ (ks:List Tr) (l n:Int),pK ks l n=-1∨n≤pK ks l n
 | [],l,n=>by rw [pK];exact Or.inr (Int.le_refl _)
 | t::r,l,n=>by
   rw [pK]
   split
   · exact Or.inl rfl
   · have:=pK_ge r l (n+pT t (l+1));omega
end
theorem wlk_start (t:Tr):wlk t 0 0=if pT t 1 < 0 then none else some (pT t 1):=by
 rw [wlk_is t 0 0 (by omega) (by omega)]
 have hbd:=pT_bd t 1
 unfold onto
 rw [show (0:Int)+1=1 from rfl]
 by_cases h:pT t 1 < 0
 · rw [if_pos (Or.inl h),if_pos h]
 · rw [if_neg (by omega),if_neg h];simp
theorem wlk_bd (t:Tr) (p l q:Int) (hp:0≤p) (hp1:p≤120) (h:wlk t p l=some q):p+1≤q∧q≤120:=by
 rw [wlk_is t p l hp hp1] at h
 have hbd:=pT_bd t (l+1)
 unfold onto at h
 split at h
 · cases h
 · simp only [Option.some.injEq] at h;omega
theorem wlkK_step {ks:List Tr} {k:Nat} (hk:k < ks.length) (p l:Int):wlkK (ks.drop k) p l=match wlk ks[k] p l with
 | none=>none
 | some q=>wlkK (ks.drop (k+1)) q l:=by
 rw [List.drop_eq_getElem_cons hk,wlkK]

mutual
def SRep (Q:Nat→Prop) (w:World):Tr→Value→Prop
 | .mk s n tx ns ks,v =>
   (s=1∧v=.iface 173 (.int .i64 n)) ∨
   (s=2∧v=.iface 175 (.string tx)) ∨
   (s=3∧v=.iface 177 (.bool (n==1))) ∨
   (s=4∧∃ a cap,v=.iface 180 (.slice a ks.length cap)∧(ks≠[]→∃ b,a=some ⟨b,0,none⟩∧Q b∧SRepK Q w b 0 ks)) ∨
   (s=5∧∃ v3 a cap,v=.iface 184 (.agg #[v3,.slice a ks.length cap])∧StrsAt Q w v3 ns∧(ks≠[]→∃ b,a=some ⟨b,0,none⟩∧Q b∧SRepK Q w b 0 ks)) ∨
   (s=6∧∃ a cap,v=.iface 186 (.slice a ks.length cap)∧(ks≠[]→∃ b,a=some ⟨b,0,none⟩∧Q b∧SRepK Q w b 0 ks))
def SRepK (Q:Nat→Prop) (w:World) (b:Nat) (o:Nat):List Tr→Prop
 | []=>True
 | t::r=>(∃ x,w.cell? ⟨b,o,none⟩=some x∧SRep Q w t x)∧SRepK Q w b (o+1) r
end
theorem SRepK.mk {Q:Nat→Prop} {w:World} {b o:Nat} {ks:List Tr} (h:∀ i,(hi:i < ks.length)→∃ x,w.cell? ⟨b,o+i,none⟩=some x∧SRep Q w ks[i] x):SRepK Q w b o ks:=by
 induction ks generalizing o with
 | nil=>rw [SRepK];trivial
 | cons t r ih =>
   rw [SRepK]
   refine ⟨h 0 (by simp),ih fun i hi=>?_⟩
   obtain ⟨c,h1,h2⟩:=h (i+1) (by simpa using hi)
   exact ⟨c,by rw [show o+1+i=o+(i+1) from by omega];exact h1,h2⟩
mutual
theorem SRep.carry {P Q:Nat→Prop} {w w':World} (hP:∀ b,P b→w'.heap[b]? = w.heap[b]?) (hQ:∀ b,P b→Q b):∀ (t:Tr) (v:Value),SRep P w t v→SRep Q w' t v
 | .mk s n tx ns ks,v=>by
   intro h
   rw [SRep] at h ⊢
   rcases h with h | h | h | ⟨hs,a,cap,h1,h2⟩ | ⟨hs,v3,a,cap,h1,h3,h2⟩ | ⟨hs,a,cap,h1,h2⟩
   · exact Or.inl h
   · exact Or.inr (Or.inl h)
   · exact Or.inr (Or.inr (Or.inl h))
   · refine Or.inr (Or.inr (Or.inr (Or.inl ⟨hs,a,cap,h1,fun hk=>?_⟩)))
     obtain ⟨b,e,p,hr⟩:=h2 hk
     exact ⟨b,e,hQ b p,SRepK.carry hP hQ b 0 (hP b p) ks hr⟩
   · refine Or.inr (Or.inr (Or.inr (Or.inr (Or.inl ⟨hs,v3,a,cap,h1,h3.carry hP hQ,fun hk=>?_⟩))))
     obtain ⟨b,e,p,hr⟩:=h2 hk
     exact ⟨b,e,hQ b p,SRepK.carry hP hQ b 0 (hP b p) ks hr⟩
   · refine Or.inr (Or.inr (Or.inr (Or.inr (Or.inr ⟨hs,a,cap,h1,fun hk=>?_⟩))))
     obtain ⟨b,e,p,hr⟩:=h2 hk
     exact ⟨b,e,hQ b p,SRepK.carry hP hQ b 0 (hP b p) ks hr⟩
theorem SRepK.carry {P Q:Nat→Prop} {w w':World} (hP:∀ b,P b→w'.heap[b]? = w.heap[b]?) (hQ:∀ b,P b→Q b) (b:Nat) (o:Nat) (hb:w'.heap[b]? = w.heap[b]?):∀ (ks:List Tr),SRepK P w b o ks→SRepK Q w' b o ks
 | []=>by intro _;rw [SRepK];trivial
 | t::r=>by
   intro h
   rw [SRepK] at h ⊢
   obtain ⟨⟨c,h1,h2⟩,h3⟩:=h
   exact ⟨⟨c,by rw [World.cell?_of_block (w:=w) hb];exact h1,SRep.carry hP hQ t c h2⟩,SRepK.carry hP hQ b (o+1) hb r h3⟩
end
theorem SRep.iface {Q:Nat→Prop} {w:World} {t:Tr} {v:Value} (h:SRep Q w t v):∃ T x,v=.iface T x:=by
 obtain ⟨s,n,tx,ns,ks⟩:=t
 rw [SRep] at h
 rcases h with h | h | h | ⟨hs,a,cap,h1,h2⟩ | ⟨hs,v3,a,cap,h1,h3,h2⟩ | ⟨hs,a,cap,h1,h2⟩
 · exact ⟨_,_,h.2⟩
 · exact ⟨_,_,h.2⟩
 · exact ⟨_,_,h.2⟩
 · exact ⟨_,_,h1⟩
 · exact ⟨_,_,h1⟩
 · exact ⟨_,_,h1⟩
def SKids (Q:Nat→Prop) (w:World) (v:Value) (ks:List Tr):Prop :=
 ∃ a cap,v=.slice a ks.length cap∧(ks≠[]→∃ b,a=some ⟨b,0,none⟩∧Q b∧SRepK Q w b 0 ks)
theorem SKids.carry {P Q:Nat→Prop} {w w':World} {v:Value} {ks:List Tr} (h:SKids P w v ks) (hP:∀ b,P b→w'.heap[b]? = w.heap[b]?) (hQ:∀ b,P b→Q b):SKids Q w' v ks:=by
 obtain ⟨a,cap,h1,h2⟩:=h
 refine ⟨a,cap,h1,fun hk=>?_⟩
 obtain ⟨b,e,p,hr⟩:=h2 hk
 exact ⟨b,e,hQ b p,SRepK.carry hP hQ b 0 (hP b p) ks hr⟩
theorem Bnd.below {w w':World} {B:Nat} {p l:Int} (h:Bnd w B p l) (hb:Below w.heap.size w w'):Bnd w' B p l:=h.of_block (hb.block B h.lt)
theorem Bnd.alloc {w:World} {B:Nat} {p l:Int} (h:Bnd w B p l) (o:Obj):Bnd (w.alloc o) B p l:=h.of_block (Below.heap_alloc _ _ _ h.lt)
theorem Bnd.set2 {w:World} {B:Nat} {p l:Int} (h:Bnd w B p l) (p' l':Int):Bnd ((w.setCell ⟨B,0,none⟩ (.int .i64 p')).setCell ⟨B,1,none⟩ (.int .i64 l')) B p' l':=by
 obtain ⟨c0,c1,f0,f1⟩:=h
 exact ⟨by simp [go_sem,c0],by simp [go_sem,c1],by simp [go_sem,f0],by simp [go_sem,f1]⟩
theorem Bnd.set1 {w:World} {B:Nat} {p l:Int} (h:Bnd w B p l) (l':Int):Bnd (w.setCell ⟨B,1,none⟩ (.int .i64 l')) B p l':=by
 obtain ⟨c0,c1,f0,f1⟩:=h
 exact ⟨by simp [go_sem,c0],by simp [go_sem,c1],by simp [go_sem,f0],by simp [go_sem,f1]⟩
def Got (P:Nat→Prop) (w wr:World) (v:Value) (ks:List Tr) (k:Nat):Prop :=
 ∃ xs,wr.ownsRow w.heap.size 82 1 v k xs∧∀ i,i < k→(hi:i < ks.length)→∃ x,xs[i]? = some x∧SRep (fun b=>P b∨(w.heap.size≤b∧b < wr.heap.size∧some b≠v.ownBlock)) wr ks[i] x
theorem Got.start (P:Nat→Prop) (w:World) (ks:List Tr):Got P w w (.slice none 0 0) ks 0 :=
 ⟨[],World.ownsRow_nil _ _ _ _,fun i hi=>by omega⟩
theorem Got.kept {P:Nat→Prop} {w wr wr':World} {v:Value} {ks:List Tr} {k:Nat} {B:Nat} (hP:∀ b,P b→b < w.heap.size∧b≠B) (hBw:B < w.heap.size) (hw:w.heap.size≤wr.heap.size) (h:Got P w wr v ks k) (hb:But B wr wr'):Got P w wr' v ks k:=by
 obtain ⟨xs,hown,hx⟩:=h
 have hne:v.ownBlock≠some B:=fun e=>by have:=(hown.lt B e).1;omega
 refine ⟨xs,hown.kept hb (Or.inr hne),fun i hi hil=>?_⟩
 obtain ⟨x,h1,h2⟩:=hx i hi hil
 refine ⟨x,h1,SRep.carry (fun b hb'=>?_) (fun b hb'=>?_) _ _ h2⟩
 · rcases hb' with hp | ⟨hp1,hp2,_⟩
   · have:=hP b hp;exact hb.at (by omega) this.2
   · exact hb.at hp2 (by omega)
 · rcases hb' with hp | ⟨hp1,hp2,hp3⟩
   · exact Or.inl hp
   · exact Or.inr ⟨hp1,Nat.lt_of_lt_of_le hp2 hb.size,hp3⟩
theorem Got.push {P:Nat→Prop} {w w2 w3 w4:World} {v v' x:Value} {ks:List Tr} {k:Nat} {xs:List Value} {B:Nat} (hP:∀ b,P b→b < w.heap.size∧b≠B) (hlt:k < ks.length) (hw:w.heap.size≤w2.heap.size)
 (hown:w2.ownsRow w.heap.size 82 1 v k xs) (hx:∀ i,i < k→(hi:i < ks.length)→∃ x,xs[i]? = some x∧SRep (fun b=>P b∨(w.heap.size≤b∧b < w2.heap.size∧some b≠v.ownBlock)) w2 ks[i] x)
 (hnew:SRep (fun b=>P b∨(w.heap.size≤b∧b < w2.heap.size∧some b≠v.ownBlock)) w2 ks[k] x)
 (hb3:Below w2.heap.size w2 w3)
 (hown':w4.ownsRow w.heap.size 82 1 v' (k+1) (xs++[x])) (hg:w3.grownBy w4 v.ownBlock) (hv':v'.ownBlock=v.ownBlock∨∃ g,v'.ownBlock=some g∧w3.heap.size≤g):Got P w w4 v' ks (k+1):=by
 have hxl:xs.length=k:=by have:=hown.1;omega
 have hcarry:∀ (t:Tr) (y:Value),SRep (fun b=>P b∨(w.heap.size≤b∧b < w2.heap.size∧some b≠v.ownBlock)) w2 t y→SRep (fun b=>P b∨(w.heap.size≤b∧b < w4.heap.size∧some b≠v'.ownBlock)) w4 t y:=fun t y h=>by
  have s3:=hb3.size;have s4:=hg.size
  refine SRep.carry (fun b hb'=>?_) (fun b hb'=>?_) _ _ h
  · have hb2:b < w2.heap.size:=by
     rcases hb' with hp | ⟨_,hp2,_⟩
     · have:=hP b hp;omega
     · exact hp2
    rw [hg.block b (by omega) ?_,hb3.block b hb2]
    rcases hb' with hp | ⟨_,_,hp3⟩
    · intro e;have:=(hown.lt b e.symm).1;have:=(hP b hp).1;omega
    · exact hp3
  · rcases hb' with hp | ⟨hp1,hp2,hp3⟩
    · exact Or.inl hp
    · refine Or.inr ⟨hp1,by omega,?_⟩
      rcases hv' with e | ⟨g,e,hge⟩
      · rw [e];exact hp3
      · rw [e];intro e2;simp only [Option.some.injEq] at e2;omega
 refine ⟨xs++[x],hown',fun i hi hil=>?_⟩
 by_cases e:i=k
 · subst e
   exact ⟨x,by rw [← hxl];simp,hcarry _ _ hnew⟩
 · obtain ⟨y,h1,h2⟩:=hx i (by omega) hil
   exact ⟨y,by rw [List.getElem?_append_left (by omega)];exact h1,hcarry _ _ h2⟩
theorem Got.done {P:Nat→Prop} {w wr:World} {v:Value} {ks:List Tr} (h:Got P w wr v ks ks.length):SKids (fun b=>P b∨(w.heap.size≤b∧b < wr.heap.size)) wr v ks:=by
 obtain ⟨xs,hown,hx⟩:=h
 rcases hown.2 with ⟨hv,hn0⟩ | ⟨g,cap,cur,hv,hgb,hh,hle,hm2,hsz,htk⟩
 · refine ⟨none,0,by rw [hv,hn0],fun hk=>?_⟩
   exact absurd (List.eq_nil_of_length_eq_zero hn0) hk
 · refine ⟨some ⟨g,0,none⟩,cap,hv,fun _=>⟨g,rfl,Or.inr ⟨hgb,(Array.getElem?_eq_some_iff.1 hh).1⟩,SRepK.mk fun i hi=>?_⟩⟩
   obtain ⟨x,h1,h2⟩:=hx i hi hi
   refine ⟨x,?_,SRep.carry (fun _ _=>rfl) (fun b hb=>?_) _ _ h2⟩
   · have hj':cur.toList[i]? = some x:=by
      rw [← htk] at h1
      rw [List.getElem?_take] at h1
      split at h1
      · exact h1
      · cases h1
     simp only [Nat.zero_add,World.cell?, hh]
     simpa using hj'
   · rcases hb with hp | ⟨hp1,hp2,_⟩
     · exact Or.inl hp
     · exact Or.inr ⟨hp1,hp2⟩
theorem srep1 {Q:Nat→Prop} {w:World} {t:Tr} (h:t.sort=1):SRep Q w t (.iface 173 (.int .i64 t.num)):=by
 obtain ⟨s,n,tx,ns,ks⟩:=t;rw [SRep];exact Or.inl ⟨h,rfl⟩
theorem srep2 {Q:Nat→Prop} {w:World} {t:Tr} (h:t.sort=2):SRep Q w t (.iface 175 (.string t.text)):=by
 obtain ⟨s,n,tx,ns,ks⟩:=t;rw [SRep];exact Or.inr (Or.inl ⟨h,rfl⟩)
theorem srep3 {Q:Nat→Prop} {w:World} {t:Tr} (h:t.sort=3):SRep Q w t (.iface 177 (.bool (t.num==1))):=by
 obtain ⟨s,n,tx,ns,ks⟩:=t;rw [SRep];exact Or.inr (Or.inr (Or.inl ⟨h,rfl⟩))
theorem srep4 {Q:Nat→Prop} {w:World} {t:Tr} {v:Value} (h:t.sort=4) (hk:SKids Q w v t.kids):SRep Q w t (.iface 180 v):=by
 obtain ⟨s,n,tx,ns,ks⟩:=t;obtain ⟨a,cap,rfl,hk⟩:=hk;rw [SRep];exact Or.inr (Or.inr (Or.inr (Or.inl ⟨h,a,cap,rfl,hk⟩)))
theorem srep5 {Q:Nat→Prop} {w:World} {t:Tr} {v v3:Value} (h:t.sort=5) (h3:StrsAt Q w v3 t.names) (hk:SKids Q w v t.kids):SRep Q w t (.iface 184 (.agg #[v3,v])):=by
 obtain ⟨s,n,tx,ns,ks⟩:=t;obtain ⟨a,cap,rfl,hk⟩:=hk;rw [SRep];exact Or.inr (Or.inr (Or.inr (Or.inr (Or.inl ⟨h,v3,a,cap,rfl,h3,hk⟩))))
theorem srep6 {Q:Nat→Prop} {w:World} {t:Tr} {v:Value} (h:t.sort=6) (hk:SKids Q w v t.kids):SRep Q w t (.iface 186 v):=by
 obtain ⟨s,n,tx,ns,ks⟩:=t;obtain ⟨a,cap,rfl,hk⟩:=hk;rw [SRep];exact Or.inr (Or.inr (Or.inr (Or.inr (Or.inr ⟨h,a,cap,rfl,hk⟩))))

def tbl:List Bool:=[false,false,false,false,true,false,false,false,false,true,false,false,true,false,false,false,false,false,false,true,false,false,true,true,false,false,false,true]
def Tab (w:World):Prop:=∀ i,i < 28→w.cell? ⟨1,i,none⟩=some (.bool (tbl.getD i false))
theorem own_1 (t:Tr) (P:Nat→Prop) (c:C5) (w:World) (hrep:Rep P w t c) (hT:Tab w) (hw:1 < w.heap.size) (hs:t.sort=1) :
 Calls Tryz.prog 88 #[.agg #[c.c0,c.c1,c.c2,c.c3,c.c4]] w fun e w'=>e=.returned (.bool (ownB t))∧Below w.heap.size w w':=by
 obtain ⟨c0,c1,c2,c3,c4⟩:=c
 obtain ⟨e0,e1,e2,-,-,htx,⟨a3,cap3,e3,hl3,-⟩,a,cap,e4,hlen,-⟩:=hrep.open
 simp only at e0 e1 e2 e3 e4
 subst e0 e1 e2 e3 e4
 clear hrep
 have hbx:∀ o,Below w.heap.size w (w.alloc o):=fun o=>(Below.refl _ _).alloc (Nat.le_refl _) o
 have hbx2:∀ o o2,Below w.heap.size w ((w.alloc o).alloc o2):=fun o o2=>((Below.refl _ _).alloc (Nat.le_refl _) o).alloc (by simp) o2
 have HBX:=xH hbx;have HBX2:=xH hbx2;clear hbx hbx2
 have g0:=hT 4 (by omega);have g1:=hT 5 (by omega);have g2:=hT 6 (by omega);have g3:=hT 7 (by omega)
 simp only [tbl,List.getD_cons_succ,List.getD_cons_zero] at g0 g1 g2 g3
 clear hT
 go_enter Tryz.func88,Tryz.ntmps88
 go_wp2_with fail
 all_goals
  go_ret
  refine ⟨ret_bool ?_,by first | exact xU HBX2 _ _ | exact xU HBX _⟩
  try simp_all [ownB]
 all_goals first | (rw [Bool.eq_iff_iff];simp;done) | (intros;omega)
theorem own_2 (t:Tr) (P:Nat→Prop) (c:C5) (w:World) (hrep:Rep P w t c) (hT:Tab w) (hw:1 < w.heap.size) (hs:t.sort=2) :
 Calls Tryz.prog 88 #[.agg #[c.c0,c.c1,c.c2,c.c3,c.c4]] w fun e w'=>e=.returned (.bool (ownB t))∧Below w.heap.size w w':=by
 obtain ⟨c0,c1,c2,c3,c4⟩:=c
 obtain ⟨e0,e1,e2,-,-,htx,⟨a3,cap3,e3,hl3,-⟩,a,cap,e4,hlen,-⟩:=hrep.open
 simp only at e0 e1 e2 e3 e4
 subst e0 e1 e2 e3 e4
 clear hrep
 have hbx:∀ o,Below w.heap.size w (w.alloc o):=fun o=>(Below.refl _ _).alloc (Nat.le_refl _) o
 have hbx2:∀ o o2,Below w.heap.size w ((w.alloc o).alloc o2):=fun o o2=>((Below.refl _ _).alloc (Nat.le_refl _) o).alloc (by simp) o2
 have HBX:=xH hbx;have HBX2:=xH hbx2;clear hbx hbx2
 have g0:=hT 8 (by omega);have g1:=hT 9 (by omega);have g2:=hT 10 (by omega);have g3:=hT 11 (by omega)
 simp only [tbl,List.getD_cons_succ,List.getD_cons_zero] at g0 g1 g2 g3
 clear hT
 go_enter Tryz.func88,Tryz.ntmps88
 go_wp2_with fail
 all_goals
  go_ret
  refine ⟨ret_bool ?_,by first | exact xU HBX2 _ _ | exact xU HBX _⟩
  try simp_all [ownB]
 all_goals first | (rw [Bool.eq_iff_iff];simp;done) | (intros;omega)
theorem own_3 (t:Tr) (P:Nat→Prop) (c:C5) (w:World) (hrep:Rep P w t c) (hT:Tab w) (hw:1 < w.heap.size) (hs:t.sort=3) :
 Calls Tryz.prog 88 #[.agg #[c.c0,c.c1,c.c2,c.c3,c.c4]] w fun e w'=>e=.returned (.bool (ownB t))∧Below w.heap.size w w':=by
 obtain ⟨c0,c1,c2,c3,c4⟩:=c
 obtain ⟨e0,e1,e2,-,-,htx,⟨a3,cap3,e3,hl3,-⟩,a,cap,e4,hlen,-⟩:=hrep.open
 simp only at e0 e1 e2 e3 e4
 subst e0 e1 e2 e3 e4
 clear hrep
 have hbx:∀ o,Below w.heap.size w (w.alloc o):=fun o=>(Below.refl _ _).alloc (Nat.le_refl _) o
 have hbx2:∀ o o2,Below w.heap.size w ((w.alloc o).alloc o2):=fun o o2=>((Below.refl _ _).alloc (Nat.le_refl _) o).alloc (by simp) o2
 have HBX:=xH hbx;have HBX2:=xH hbx2;clear hbx hbx2
 have g0:=hT 12 (by omega);have g1:=hT 13 (by omega);have g2:=hT 14 (by omega);have g3:=hT 15 (by omega)
 simp only [tbl,List.getD_cons_succ,List.getD_cons_zero] at g0 g1 g2 g3
 clear hT
 go_enter Tryz.func88,Tryz.ntmps88
 go_wp2_with fail
 all_goals
  go_ret
  refine ⟨ret_bool ?_,by first | exact xU HBX2 _ _ | exact xU HBX _⟩
  try simp_all [ownB]
 all_goals first | (rw [Bool.eq_iff_iff];simp;done) | (intros;omega)
theorem own_4 (t:Tr) (P:Nat→Prop) (c:C5) (w:World) (hrep:Rep P w t c) (hT:Tab w) (hw:1 < w.heap.size) (hs:t.sort=4) :
 Calls Tryz.prog 88 #[.agg #[c.c0,c.c1,c.c2,c.c3,c.c4]] w fun e w'=>e=.returned (.bool (ownB t))∧Below w.heap.size w w':=by
 obtain ⟨c0,c1,c2,c3,c4⟩:=c
 obtain ⟨e0,e1,e2,-,-,htx,⟨a3,cap3,e3,hl3,-⟩,a,cap,e4,hlen,-⟩:=hrep.open
 simp only at e0 e1 e2 e3 e4
 subst e0 e1 e2 e3 e4
 clear hrep
 have hbx:∀ o,Below w.heap.size w (w.alloc o):=fun o=>(Below.refl _ _).alloc (Nat.le_refl _) o
 have hbx2:∀ o o2,Below w.heap.size w ((w.alloc o).alloc o2):=fun o o2=>((Below.refl _ _).alloc (Nat.le_refl _) o).alloc (by simp) o2
 have HBX:=xH hbx;have HBX2:=xH hbx2;clear hbx hbx2
 have g0:=hT 16 (by omega);have g1:=hT 17 (by omega);have g2:=hT 18 (by omega);have g3:=hT 19 (by omega)
 simp only [tbl,List.getD_cons_succ,List.getD_cons_zero] at g0 g1 g2 g3
 clear hT
 go_enter Tryz.func88,Tryz.ntmps88
 go_wp2_with fail
 all_goals
  go_ret
  refine ⟨ret_bool ?_,by first | exact xU HBX2 _ _ | exact xU HBX _⟩
  try simp_all [ownB]
 all_goals first | (rw [Bool.eq_iff_iff];simp;done) | (intros;omega)
theorem own_5 (t:Tr) (P:Nat→Prop) (c:C5) (w:World) (hrep:Rep P w t c) (hT:Tab w) (hw:1 < w.heap.size) (hs:t.sort=5) :
 Calls Tryz.prog 88 #[.agg #[c.c0,c.c1,c.c2,c.c3,c.c4]] w fun e w'=>e=.returned (.bool (ownB t))∧Below w.heap.size w w':=by
 obtain ⟨c0,c1,c2,c3,c4⟩:=c
 obtain ⟨e0,e1,e2,-,-,htx,⟨a3,cap3,e3,hl3,-⟩,a,cap,e4,hlen,-⟩:=hrep.open
 simp only at e0 e1 e2 e3 e4
 subst e0 e1 e2 e3 e4
 clear hrep
 have hbx:∀ o,Below w.heap.size w (w.alloc o):=fun o=>(Below.refl _ _).alloc (Nat.le_refl _) o
 have hbx2:∀ o o2,Below w.heap.size w ((w.alloc o).alloc o2):=fun o o2=>((Below.refl _ _).alloc (Nat.le_refl _) o).alloc (by simp) o2
 have HBX:=xH hbx;have HBX2:=xH hbx2;clear hbx hbx2
 have g0:=hT 20 (by omega);have g1:=hT 21 (by omega);have g2:=hT 22 (by omega);have g3:=hT 23 (by omega)
 simp only [tbl,List.getD_cons_succ,List.getD_cons_zero] at g0 g1 g2 g3
 clear hT
 go_enter Tryz.func88,Tryz.ntmps88
 go_wp2_with fail
 all_goals
  go_ret
  refine ⟨ret_bool ?_,by first | exact xU HBX2 _ _ | exact xU HBX _⟩
  try simp_all [ownB]
 all_goals first | (rw [Bool.eq_iff_iff];simp;done) | (intros;omega)
theorem own_6 (t:Tr) (P:Nat→Prop) (c:C5) (w:World) (hrep:Rep P w t c) (hT:Tab w) (hw:1 < w.heap.size) (hs:t.sort=6) :
 Calls Tryz.prog 88 #[.agg #[c.c0,c.c1,c.c2,c.c3,c.c4]] w fun e w'=>e=.returned (.bool (ownB t))∧Below w.heap.size w w':=by
 obtain ⟨c0,c1,c2,c3,c4⟩:=c
 obtain ⟨e0,e1,e2,-,-,htx,⟨a3,cap3,e3,hl3,-⟩,a,cap,e4,hlen,-⟩:=hrep.open
 simp only at e0 e1 e2 e3 e4
 subst e0 e1 e2 e3 e4
 clear hrep
 have hbx:∀ o,Below w.heap.size w (w.alloc o):=fun o=>(Below.refl _ _).alloc (Nat.le_refl _) o
 have hbx2:∀ o o2,Below w.heap.size w ((w.alloc o).alloc o2):=fun o o2=>((Below.refl _ _).alloc (Nat.le_refl _) o).alloc (by simp) o2
 have HBX:=xH hbx;have HBX2:=xH hbx2;clear hbx hbx2
 have g0:=hT 24 (by omega);have g1:=hT 25 (by omega);have g2:=hT 26 (by omega);have g3:=hT 27 (by omega)
 simp only [tbl,List.getD_cons_succ,List.getD_cons_zero] at g0 g1 g2 g3
 clear hT
 go_enter Tryz.func88,Tryz.ntmps88
 go_wp2_with fail
 all_goals
  go_ret
  refine ⟨ret_bool ?_,by first | exact xU HBX2 _ _ | exact xU HBX _⟩
  try simp_all [ownB]
 all_goals first | (rw [Bool.eq_iff_iff];simp;done) | (intros;omega)
theorem own_out {t:Tr} (h:t.sort < 1∨6 < t.sort):ownB t=false:=by
 unfold ownB
 rw [if_neg (by omega),if_neg (by omega),if_neg (by omega),if_neg (by omega),if_neg (by omega),if_neg (by omega)]
theorem own_lo (t:Tr) (P:Nat→Prop) (c:C5) (w:World) (hrep:Rep P w t c) (hs:t.sort < 1) :
 Calls Tryz.prog 88 #[.agg #[c.c0,c.c1,c.c2,c.c3,c.c4]] w fun e w'=>e=.returned (.bool (ownB t))∧Below w.heap.size w w':=by
 obtain ⟨c0,c1,c2,c3,c4⟩:=c
 obtain ⟨e0,e1,e2,-,-,htx,⟨a3,cap3,e3,hl3,-⟩,a,cap,e4,hlen,-⟩:=hrep.open
 simp only at e0 e1 e2 e3 e4
 subst e0 e1 e2 e3 e4
 clear hrep
 have hbx:∀ o,Below w.heap.size w (w.alloc o):=fun o=>(Below.refl _ _).alloc (Nat.le_refl _) o
 have HBX:=xH hbx;clear hbx
 have HO:=xH (own_out (Or.inl hs))
 go_enter Tryz.func88,Tryz.ntmps88
 go_wp2_with fail
 all_goals
  go_ret
  exact ⟨ret_bool (xU HO).symm,xU HBX _⟩
theorem own_hi (t:Tr) (P:Nat→Prop) (c:C5) (w:World) (hrep:Rep P w t c) (hs:6 < t.sort) :
 Calls Tryz.prog 88 #[.agg #[c.c0,c.c1,c.c2,c.c3,c.c4]] w fun e w'=>e=.returned (.bool (ownB t))∧Below w.heap.size w w':=by
 obtain ⟨c0,c1,c2,c3,c4⟩:=c
 obtain ⟨e0,e1,e2,-,-,htx,⟨a3,cap3,e3,hl3,-⟩,a,cap,e4,hlen,-⟩:=hrep.open
 simp only at e0 e1 e2 e3 e4
 subst e0 e1 e2 e3 e4
 clear hrep
 have hbx:∀ o,Below w.heap.size w (w.alloc o):=fun o=>(Below.refl _ _).alloc (Nat.le_refl _) o
 have HBX:=xH hbx;clear hbx
 have HO:=xH (own_out (Or.inr hs))
 go_enter Tryz.func88,Tryz.ntmps88
 go_wp2_with fail
 all_goals
  go_ret
  exact ⟨ret_bool (xU HO).symm,xU HBX _⟩
theorem own_any (t:Tr) (P:Nat→Prop) (c:C5) (w:World) (hrep:Rep P w t c) (hT:Tab w) (hw:1 < w.heap.size) :
 Calls Tryz.prog 88 #[.agg #[c.c0,c.c1,c.c2,c.c3,c.c4]] w fun e w'=>e=.returned (.bool (ownB t))∧Below w.heap.size w w':=by
 have h:t.sort < 1∨6 < t.sort∨t.sort=1∨t.sort=2∨t.sort=3∨t.sort=4∨t.sort=5∨t.sort=6:=by omega
 rcases h with h | h | h | h | h | h | h | h
 · exact own_lo t P c w hrep h
 · exact own_hi t P c w hrep h
 · exact own_1 t P c w hrep hT hw h
 · exact own_2 t P c w hrep hT hw h
 · exact own_3 t P c w hrep hT hw h
 · exact own_4 t P c w hrep hT hw h
 · exact own_5 t P c w hrep hT hw h
 · exact own_6 t P c w hrep hT hw h

theorem Tab.lt {w:World} (h:Tab w):1 < w.heap.size:=World.block_lt_of_cell? w _ (h 0 (by omega))
theorem Tab.of_block {w w':World} (h:Tab w) (e:w'.heap[1]? = w.heap[1]?):Tab w':=fun i hi=>by
 rw [World.cell?_of_block (w:=w) (a:=⟨1,i,none⟩) e];exact h i hi
theorem Tab.but {w w':World} {B:Nat} (h:Tab w) (hb:But B w w') (hB:1 < B):Tab w':=h.of_block (hb.at h.lt (by omega))

theorem infoSorted:(Tryz.prog.info? 82).map (fun i=>(i.zero,i.size,i.bytes))=some (some .nilIface,1,16):=by kernel_rfl
def TreeSaid (n:Nat):Prop:=∀ (t:Tr),tsz t < n→∀ (P:Nat→Prop) (c:C5) (w:World) (B:Nat) (p l:Int),(∀ b,P b→b < w.heap.size∧b≠B)→Rep P w t c→Bnd w B p l→Tab w→1 < B→0≤p→p≤120→0≤l→l≤6 →
    Calls Tryz.prog 63 #[.pointer (some ⟨B,0,none⟩),.agg #[c.c0,c.c1,c.c2,c.c3,c.c4]] w fun e w'=>But B w w' ∧
     ((∃ q v,wlk t p l=some q∧e=.returned v∧SRep (fun b=>P b∨(w.heap.size≤b∧b < w'.heap.size)) w' t v∧Bnd w' B q l)∨(wlk t p l=none∧e=fltE))
theorem trees_any (n:Nat) (IH:TreeSaid n) (t:Tr) (hn:tsz t≤n) (P:Nat→Prop) (a:Option Addr) (cap:Nat) (w:World) (B:Nat) (p l:Int) (hP:∀ b,P b→b < w.heap.size∧b≠B)
 (hlen:t.kids.length≤9223372036854775807)
 (hc:∀ i,(hi:i < t.kids.length)→∃ b o c,a=some ⟨b,o,none⟩∧P b∧C5.at w b (o+i * 5) c∧Rep P w t.kids[i] c)
 (hB:Bnd w B p l) (hT:Tab w) (hB0:1 < B) (hp0:0≤p) (hp1:p≤120) (hl0:0≤l) (hl1:l≤6) :
 Calls Tryz.prog 105 #[.pointer (some ⟨B,0,none⟩),.slice a t.kids.length cap] w fun e w'=>But B w w' ∧
  ((∃ q v,wlkK t.kids p l=some q∧e=.returned v∧SKids (fun b=>P b∨(w.heap.size≤b∧b < w'.heap.size)) w' v t.kids∧Bnd w' B q l)∨(wlkK t.kids p l=none∧e=fltE)):=by
 have hBw:=hB.lt
 obtain ⟨i0,hi,hz0,hz1,hz2⟩:=info_parts infoSorted
 generalize hks:t.kids=ks at *
 have HK:=xH hks;clear hks
 have HC:=xH hc;clear hc
 have HP:=xH hP;clear hP
 have HI:=xH IH;clear IH
 have HT:=xH hT;clear hT
 have HB:=xH hB;clear hB
 have HIF:=xH (And.intro hi (And.intro hz0 (And.intro hz1 hz2)));clear hi hz0 hz1 hz2
 go_enter Tryz.func105,Tryz.ntmps105
 go_wp2_with fail
 go_loopw [5,10] (fun s i wr=>∃ (k:Nat) (q:Int) (a':Option Addr) (cap':Nat),k≤ks.length∧i=.int .i64 k∧s=.slice a' k cap'∧0≤q∧q≤120∧Hid (wlkK (ks.drop k) q l=wlkK ks p l)∧Hid (Got P w wr s ks k)∧Hid (Bnd wr B q l)∧Hid (But B w wr)∧(k:Int)≤q) (fun _ i _=>ks.length - (intOf i).toNat)
 case atStart=>exact ⟨0,p,none,0,Nat.zero_le _,rfl,rfl,hp0,hp1,rfl,xH (Got.start P w ks),HB,xH (But.refl B w),by simpa using hp0⟩
 case round =>
  obtain ⟨k,q,a',cap',hk,rfl,rfl,hq0,hq1,HQ,HG,HBQ,HBT,hkq⟩:=hrel
  by_cases hlt:k < ks.length
  · obtain ⟨b,o,c,rfl,hpb,hcell,hrep⟩:=xU HC k hlt
    have hsw:=HBT.out.size
    have hcell':=hcell.carry (HBT.out.at (xU HP b hpb).1 (xU HP b hpb).2)
    obtain ⟨c0,c1,c2,c3,c4⟩:=c
    obtain ⟨e0,e1,e2,e3,e4⟩:=hcell'
    simp only at e0 e1 e2 e3 e4
    have HR:=xH hrep;clear hrep hcell hpb
    have hmem:ks[k]∈t.kids:=by rw [xU HK];exact List.getElem_mem hlt
    have hsm:tsz ks[k] < n:=by have:=tsz_kid hmem;omega
    clear hmem
    have hrw:Rep P wr ks[k] ⟨c0,c1,c2,c3,c4⟩:=Rep.carry (fun b hb=>HBT.out.at (xU HP b hb).1 (xU HP b hb).2) (fun _ h=>h) _ _ (xU HR)
    have hcall:∀ o,Calls Tryz.prog 63 #[.pointer (some ⟨B,0,none⟩),.agg #[c0,c1,c2,c3,c4]] (wr.alloc o) fun e w'=>But B (wr.alloc o) w' ∧
     ((∃ q' v,wlk ks[k] q l=some q'∧e=.returned v∧SRep (fun b=>P b∨((wr.alloc o).heap.size≤b∧b < w'.heap.size)) w' ks[k] v∧Bnd w' B q' l)∨(wlk ks[k] q l=none∧e=fltE)):=fun o =>
     xU HI ks[k] hsm P ⟨c0,c1,c2,c3,c4⟩ (wr.alloc o) B q l (fun b hb=>⟨by have:=(xU HP b hb).1;simp;omega,(xU HP b hb).2⟩) (Rep.carry (fun b hb=>Below.heap_alloc _ _ _ (by have:=(xU HP b hb).1;omega)) (fun _ h=>h) _ _ hrw) (HBQ.out.alloc o) ((xU HT).but (HBT.out.trans (But.alloc B wr o)) hB0) hB0 hq0 hq1 hl0 hl1
    have HCALL:=xH hcall
    obtain ⟨g0,g1,g2,-,-,-,⟨a3,cap3,g3,-⟩,a4,cap4,g4,-⟩:=hrw.open
    simp only at g0 g1 g2 g3 g4
    subst g0 g1 g2 g3 g4
    clear hcall hrw HR
    have HST:=xH (wlkK_step hlt q l)
    go_wp2_with fail
    refine (xU HCALL _).mono ?_
    rintro e w2 ⟨hbt,⟨q',v,hwl,rfl,hsr,hbnd⟩ | ⟨hwl,rfl⟩⟩
    · have hst:=xU HST
      rw [hwl] at hst
      simp only at hst
      have hbd:=wlk_bd _ _ _ _ hq0 hq1 hwl
      have hfin:wlkK (ks.drop (k+1)) q' l=wlkK ks p l:=by rw [← HQ.out,hst]
      have HFIN:=xH hfin
      have hbt1:=(But.alloc B wr _).trans hbt
      have hg0:=HG.out
      have hg2:=hg0.kept (xU HP) hBw hsw hbt1
      obtain ⟨xs0,hown0,-⟩:=hg0
      obtain ⟨xs,hown,hx⟩:=hg2
      have hnew:SRep (fun b=>P b∨(w.heap.size≤b∧b < w2.heap.size∧some b≠(Value.slice a' k cap').ownBlock)) w2 ks[k] v:=by
       refine SRep.carry (fun _ _=>rfl) (fun b hb=>?_) _ _ hsr
       rcases hb with hb | ⟨hb1,hb2⟩
       · exact Or.inl hb
       · have hb1':wr.heap.size+1≤b:=by simpa using hb1
         exact Or.inr ⟨by omega,hb2,fun e=>by have:=(hown0.lt b e.symm).2;omega⟩
      obtain ⟨T,x,rfl⟩:=hsr.iface
      have hbt2:=HBT.out.trans hbt1
      have hs2:=hbt2.size
      have HBT2:=xH hbt2;have HX:=xH hx;have HNEW:=xH hnew;have HOWN:=xH hown;have HBN:=xH hbnd
      obtain ⟨hi,hz0,hz1,hz2⟩:=xU HIF
      clear hfin hst hwl hbt hbt1 hbt2 hown0 hx hnew hsr hbnd hown e0 e1 e2 e3 e4 HCALL HST HBQ
      have HII:=xH hi;have HZ0:=xH hz0;have HZ1:=xH hz1;have HZ2:=xH hz2
      clear hi hz0 hz1 hz2
      go_wp2_with (at_builtin;refine append_row _ rfl _ _ 179 rfl w.heap.size 82 i0 .nilIface 1 16 Tryz.underlying179 (xU HII) (xU HZ0) (xU HZ1) (xU HZ2) rfl (by decide) (.slice a' k cap') k xs rfl ((xU HOWN).alloc _) ⟨w2.heap.size,0,none⟩ 1 1 [.iface T x] rfl rfl (cell_one _ _ _) (fun u hu=>by simp at hu;subst hu;rfl) (by decide) (by unfold maxLen;omega) (by omega) (by simp;omega) ?_;intro v' w4 hown' hgrow hv')
      have hown2:=xU HOWN
      obtain ⟨g',cap'',hv''⟩:∃ g' cap'',v'=.slice (some ⟨g',0,none⟩) (k+1) cap'':=by
       rcases hown'.2 with ⟨_,h⟩ | ⟨g',cap'',_,h,_⟩
       · omega
       · exact ⟨g',cap'',h⟩
      have hb3:Below w2.heap.size w2 (w2.alloc (.cells #[.iface T x] 82)):=(Below.refl _ _).alloc (Nat.le_refl _) _
      have hgot:=Got.push (xU HP) hlt hs2 hown2 (xU HX) (xU HNEW) hb3 hown' hgrow hv'
      have hs3:=hb3.size
      have hs4:=hgrow.size
      have hbnd4:Bnd w4 B q' l:=by
       refine (xU HBN).of_block ?_
       rw [hgrow.block B (by omega) (fun e=>by have:=(hown2.lt B e.symm).1;omega),hb3.block B (by omega)]
      have hbut4:But B w w4:=by
       have h2:=xU HBT2
       refine ⟨hgrow.os.trans (hb3.os.trans h2.os),hgrow.tape.trans (hb3.tape.trans h2.tape),hgrow.output.trans (hb3.output.trans h2.output),by omega,fun i hi hne=>?_⟩
       rw [hgrow.block i (by omega) (fun e=>by have:=(hown2.lt i e.symm).1;omega),hb3.block i (by omega),h2.block i hi hne]
      clear hown2
      go_roundw
      case rel=>exact ⟨k+1,q',some ⟨g',0,none⟩,cap'',by omega,by go_num,hv'',by omega,hbd.2,HFIN,hgot,hbnd4,hbut4,by omega⟩
      case measure=>simp [intOf];omega
    · have hfin:wlkK ks p l=none:=by rw [← HQ.out,xU HST,hwl]
      have HFIN:=xH hfin
      have hbt2:=HBT.out.trans ((But.alloc B wr _).trans hbt)
      have HBT2:=xH hbt2
      clear hfin hbt hwl hbt2
      go_wp2_with fail
      exact ⟨rfl,xU HBT2,Or.inr ⟨xU HFIN,rfl⟩⟩
  · go_wp2_with fail
    go_ret
    obtain rfl:k=ks.length:=by omega
    refine ⟨HBT.out,Or.inl ⟨q,_,?_,rfl,HG.out.done,HBQ.out⟩⟩
    rw [← HQ.out,List.drop_of_length_le (Nat.le_refl _),wlkK]

theorem newFlag_yes (n:Int) (w:World) (h:0≤n∧n≤1):Calls Tryz.prog 103 #[.int .i64 n] w fun e w'=>e=.returned (.bool (n==1))∧w'=w:=by
 have h':n=0∨n=1:=by omega
 clear h
 rcases h' with rfl | rfl
 · go_enter Tryz.func103,Tryz.ntmps103
   go_wp2_with (go_at_call 87;refine (treeWant_yes _).mono ?_;rintro e w' ⟨rfl,rfl⟩)
   go_ret
   exact ⟨rfl,rfl⟩
 · go_enter Tryz.func103,Tryz.ntmps103
   go_wp2_with (go_at_call 87;refine (treeWant_yes _).mono ?_;rintro e w' ⟨rfl,rfl⟩)
   go_ret
   exact ⟨rfl,rfl⟩
theorem newFlag_no (n:Int) (w:World) (h:¬ (0≤n∧n≤1)):Calls Tryz.prog 103 #[.int .i64 n] w fun e w'=>e=fltE∧w'=w:=by
 have h0:(n==0)=false:=by simp;omega
 have h1:(n==1)=false:=by simp;omega
 clear h
 go_enter Tryz.func103,Tryz.ntmps103
 go_wp2_with (go_at_call 87;refine (treeWant_no _).mono ?_;rintro e w' ⟨rfl,rfl⟩)
 exact ⟨rfl,rfl,rfl⟩
end Go.Proofs.YteefjeddboefcaaGreatDoor
