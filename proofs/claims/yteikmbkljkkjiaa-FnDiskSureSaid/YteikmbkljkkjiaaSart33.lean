/- What was synced is never lost: whatever bytes come in, a file of the disk that is drawn of them, synced, and then the directory, is left whole by any loss of power: the law FnDiskSure returns true, and its arguments read behind the call as they read before.
   Conditions: those of the given row alone. -/
import Derived.Test.YteikmbkljkkjiaaSart32
import Derived.Deep.DeepHandedRow
namespace Go.Proofs.Yteikmbkljkkjiaa
open Go.ChangeShapes Go.WideShapes Go.ChangeAt Go.RowKit
theorem own:ownKnob Try.prog.godebug=none:=by kernel_rfl
theorem laidOut:laidOutB Try.prog=true:=by kernel_rfl
theorem readBy:Try.prog.readableRec 22=true:=by kernel_rfl
theorem rowBy:22 < Try.prog.types.size:=of_decide_eq_true (by kernel_rfl)
def zeroText:Value:=.slice none 0 0
set_option maxRecDepth 100000 in
theorem diskSureP_lifted (os:Os) (started:os.Started) (H:Type) (enc:TypeId × Value→H) :
 ReturnsInHanded {} Try.checked os 5 .any (Rows.fnDiskSureSpec.pre6 enc Try.prog Try.f5 Rows.fnDiskSureRow.domain false) (Rows.fnDiskSureSpec.post enc Try.prog Try.f5 false true false false):=by
 refine returnsInHanded_of_change (C:=Try.checked) own started (by kernel_rfl) Try.func5
  (ChangeSpec.witness6 (enc:=enc) (C:=Try.checked) false ⟨#[],#[zeroText,zeroText],[]⟩ 8 (by kernel_rfl) (by kernel_rfl) (by kernel_rfl) (by kernel_rfl)) ?_
 intro W base args ds gs before hval0 hW hcnd _
 have hval:∀ (j:Nat) t v,Try.f5.params[j]? = some t→args[j]? = some v→Value.okWide Try.prog W .any base t v:=hval0
 have hW':=hW
 have hlt:=hW.lt
 obtain ⟨p,q,hA0,hV,hpq,hfz,hnd⟩:=hW
 have hA:DataW.TrodAll enc Try.prog W 0 (fun _=>true) true Try.f5.params.toList args.toList ds p:=hA0
 rw [Try.params5] at hA hval
 obtain ⟨v0,vs0,d0,ds0,p0,q0,hargs,hds,hp,h0,r0⟩:=trodAll_cons hA
 obtain ⟨v1,vs1,d1,ds1,p1,q1,hargs1,hds1,hp1,h1,r1⟩:=trodAll_cons r0
 obtain ⟨hvs,hds0,hq0⟩:=trodAll_nil r1
 subst hvs hds0 hq0 hargs1 hds1
 obtain rfl:args=#[v0,v1]:=by cases args;simp_all
 subst hds
 obtain ⟨hgs,hq⟩:=trodVars_none hV
 subst hgs hq
 obtain ⟨a0,len0,cap0,hv0⟩:=okWide_slice Try.underlying22 (hval 0 22 v0 rfl rfl)
 have h0k:=h0
 obtain ⟨fl0,hf0⟩:=h0
 subst hv0
 have hcap0:=bytes_cap hf0
 obtain ⟨l0,hby0⟩:=bytes_of_trod hf0
 obtain rfl:len0=l0.length:=by obtain ⟨_,_,e,-⟩:=hby0;simp only [Value.slice.injEq] at e;exact e.2.1
 have hlen0:l0.length≤9223372036854775807:=by obtain ⟨_,_,_,h,-⟩:=hby0;exact h
 obtain ⟨a1,len1,cap1,hv1⟩:=okWide_slice Try.underlying22 (hval 1 22 v1 rfl rfl)
 have h1k:=h1
 obtain ⟨fl1,hf1⟩:=h1
 subst hv1
 have hcap1:=bytes_cap hf1
 obtain ⟨l1,hby1⟩:=bytes_of_trod hf1
 obtain rfl:len1=l1.length:=by obtain ⟨_,_,e,-⟩:=hby1;simp only [Value.slice.injEq] at e;exact e.2.1
 have hlen1:l1.length≤9223372036854775807:=by obtain ⟨_,_,_,h,-⟩:=hby1;exact h
 refine (lawDiskSure_any W a0 a1 cap0 cap1 l0 l1 hby0 hcap0 hlen0 hby1 hcap1 hlen1).mono fun e W' ⟨he,hb⟩=>?_
 subst he
 have hltp:∀ x∈p0,x.block < W.heap.size:=fun x hx=>hlt x (by rw [hpq,hp];simp [hx])
 have hltp1:∀ x∈p1,x.block < W.heap.size:=fun x hx=>hlt x (by rw [hpq,hp,hp1];simp [hx])
 refine ⟨_,rfl,_,_,before,[],(p0++p1),[],hW',?_,?_,?_,hb.frame _,fun h=>by cases h⟩
 · exact trodAll_mk1 (shut_bool Try.underlying4 true)
 · exact trodAll_mk2 (hb.trod laidOut readBy rowBy h0k hltp) (hb.trod laidOut readBy rowBy h1k hltp1)
 · rfl
theorem diskSureP_said:Rows.FnDiskSureSaid :=
 OpenClaim.holds_of_wide 5 Try.f5 rfl rfl rfl rfl rfl rfl rfl ⟨rfl,rfl,rfl,rfl,rfl⟩ rfl rfl rfl rfl rfl (by kernel_rfl) Try.func5 (by kernel_rfl)
  (of_decide_eq_true (by kernel_rfl)) (by unfold Func.isWrapper;first | (rw [if_pos (by decide +kernel)];kernel_rfl) | (rw [if_neg (by decide +kernel)];exact ⟨rfl,rfl⟩))
  (fun os started H enc _=>diskSureP_lifted os started H enc)
end Go.Proofs.Yteikmbkljkkjiaa
