/- A part. -/
import Derived.Test.YteikmbkljkkjiaaPart12
namespace Go.Proofs.Yteikmbkljkkjiaa
open Go Go.RowKit
set_option maxRecDepth 100000
set_option maxHeartbeats 800000
theorem l6Many_huge (w:World) (s:ByteArray) (n:Nat) (hs:s.size≤2) (hn:n≤30000) :
 Calls Try.prog 23 #[.string s,.int .i64 (n:Int)] w fun e w'=>∃ out:ByteArray,e=.returned (.string out)∧out.size≤60000∧w'=w:=by
 have h0:n * s.size≤60000:=Nat.le_trans (Nat.mul_le_mul hn hs) (by decide)
 go_enter Try.func23,Try.ntmps23
 go_wp2_with fail
 go_loopw [0,1,5] (fun s0 nn oo wr=>∃ (m:Nat) (x out:ByteArray),s0=.string x∧nn=.int .i64 (m:Int)∧oo=.string out∧m≤30000∧out.size+m * x.size≤60000∧x.size≤120000∧Hid (wr=w)) (fun _ nn _ _=>(intOf nn).toNat)
 case atStart=>exact ⟨n,s,⟨#[]⟩,rfl,rfl,rfl,hn,by show 0+_≤_;omega,by omega,rfl⟩
 case round =>
  obtain ⟨m,x,out,rfl,rfl,rfl,hm,hmx,hx,HW⟩:=hrel
  by_cases hm0:m=0
  · have hq:decide ((0:Int) < (m:Int))=false:=by simp;omega
    have hqn:decide (0 < m)=false:=by simp;omega
    clear hm0
    go_wp2_with fail
    go_ret
    exact ⟨out,rfl,by omega,HW.out⟩
  · have hq:decide ((0:Int) < (m:Int))=true:=by simp;omega
    have hqn:decide (0 < m)=true:=by simp;omega
    have hxm:x.size≤m * x.size:=Nat.le_mul_of_pos_left _ (by omega)
    have hl1:¬ (9223372036854775807 < x.size+x.size):=by omega
    have hl2:¬ (9223372036854775807 < out.size+x.size):=by omega
    have hsx:(x++x).size=x.size+x.size:=ByteArray.size_append
    have hso:(out++x).size=out.size+x.size:=ByteArray.size_append
    rcases (show (m:Int) % 2=0∨(m:Int) % 2=1 by omega) with he | he
    · have hh:=half_even m x.size (by omega)
      go_wp2_with fail
      go_roundw
      case rel=>exact ⟨m / 2,x++x,out,rfl,by go_num,rfl,by omega,by rw [hsx];omega,by rw [hsx];omega,HW⟩
      case measure=>simp [intOf];omega
    · have hh:=half_odd m x.size (by omega)
      go_wp2_with fail
      go_roundw
      case rel=>exact ⟨m / 2,x++x,out++x,rfl,by go_num,rfl,by omega,by rw [hsx,hso];omega,by rw [hsx];omega,HW⟩
      case measure=>simp [intOf];omega
end Go.Proofs.Yteikmbkljkkjiaa
