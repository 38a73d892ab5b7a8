/- For every row of bytes that comes in, and so for every disk and write that is drawn of it, DiskDo answers as the specification's does; a disk that is ok stays ok, with a code it stays as it is, and without one just its file is changed: the law FnDiskDo returns true, and its argument reads behind the call as it read before.
   Conditions: those of the given row alone. -/
import Derived.Test.YteikmbkljkkjiaaPart33
import Derived.Deep.DeepHandedRow
namespace Go.Proofs.Yteikmbkljkkjiaa
open Go.ChangeShapes Go.WideShapes Go.ChangeAt Go.RowKit
theorem own:ownKnob Try.prog.godebug=none:=by kernel_rfl
theorem laidOut:laidOutB Try.prog=true:=by kernel_rfl
theorem readBy:Try.prog.readableRec 22=true:=by kernel_rfl
theorem rowBy:22 < Try.prog.types.size:=of_decide_eq_true (by kernel_rfl)
def zeroText:Value:=.slice none 0 0
set_option maxRecDepth 100000 in
theorem diskDoP_lifted (os:Os) (started:os.Started) (H:Type) (enc:TypeId × Value→H) :
 ReturnsInHanded {} Try.checked os 3 .any (Rows.fnDiskDoSpec.pre6 enc Try.prog Try.f3 Rows.fnDiskDoRow.domain false) (Rows.fnDiskDoSpec.post enc Try.prog Try.f3 false true false false):=by
 refine returnsInHanded_of_change (C:=Try.checked) own started (by kernel_rfl) Try.func3
  (ChangeSpec.witness6 (enc:=enc) (C:=Try.checked) false ⟨#[],#[zeroText],[]⟩ 8 (by kernel_rfl) (by kernel_rfl) (by kernel_rfl) (by kernel_rfl)) ?_
 intro W base args ds gs before hval0 hW hcnd _
 have hval:∀ (j:Nat) t v,Try.f3.params[j]? = some t→args[j]? = some v→Value.okWide Try.prog W .any base t v:=hval0
 have hW':=hW
 have hlt:=hW.lt
 obtain ⟨p,q,hA0,hV,hpq,hfz,hnd⟩:=hW
 have hA:DataW.TrodAll enc Try.prog W 0 (fun _=>true) true Try.f3.params.toList args.toList ds p:=hA0
 rw [Try.params3] at hA hval
 obtain ⟨v0,vs0,d0,ds0,p0,q0,hargs,hds,hp,h0,r0⟩:=trodAll_cons hA
 obtain ⟨hvs,hds0,hq0⟩:=trodAll_nil r0
 subst hvs hds0 hq0
 obtain rfl:args=#[v0]:=by cases args;simp_all
 subst hds
 obtain ⟨hgs,hq⟩:=trodVars_none hV
 subst hgs hq
 have h0k:=h0
 obtain ⟨fl,hf⟩:=h0
 obtain ⟨sa,sl,sc,hv0⟩:=okWide_slice Try.underlying22 (hval 0 22 v0 rfl rfl)
 subst hv0
 obtain ⟨l,hl⟩:=bytes_of_trod hf
 have hcap:=bytes_cap hf
 have hll:=hl
 obtain ⟨a',c',e',hlen,-⟩:=hll
 simp only [Value.slice.injEq] at e'
 obtain ⟨rfl,rfl,rfl⟩:=e'
 refine (lawDiskDo_any W _ _ l hl hcap hlen).mono fun e W' ⟨he,hb⟩=>?_
 subst he
 have hltp:∀ x∈p0,x.block < W.heap.size:=fun x hx=>hlt x (by rw [hpq,hp];simp [hx])
 refine ⟨_,rfl,_,_,before,[],p0,[],hW',?_,?_,?_,hb.frame _,fun h=>by cases h⟩
 · exact trodAll_mk1 (shut_bool Try.underlying4 true)
 · exact trodAll_mk1 (hb.trod laidOut readBy rowBy h0k hltp)
 · rfl
theorem diskDoP_said:Rows.FnDiskDoSaid :=
 OpenClaim.holds_of_wide 3 Try.f3 rfl rfl rfl rfl rfl rfl rfl ⟨rfl,rfl,rfl,rfl,rfl⟩ rfl rfl rfl rfl rfl (by kernel_rfl) Try.func3 (by kernel_rfl)
  (of_decide_eq_true (by kernel_rfl)) (by unfold Func.isWrapper;first | (rw [if_pos (by decide +kernel)];kernel_rfl) | (rw [if_neg (by decide +kernel)];exact ⟨rfl,rfl⟩))
  (fun os started H enc _=>diskDoP_lifted os started H enc)
end Go.Proofs.Yteikmbkljkkjiaa
