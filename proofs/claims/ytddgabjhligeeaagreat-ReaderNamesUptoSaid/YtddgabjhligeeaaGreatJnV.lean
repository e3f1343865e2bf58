import Derived.Test.YtddgabjhligeeaaGreatJnT
import Derived.Test.YtddgabjhligeeaaGreatJnD
set_option maxHeartbeats 1000000
namespace Go.Proofs.YtddgabjhligeeaaGreat.mk
open Go.RowKit
theorem zoq{p:UInt8->Bool}(h:((List.range 256).all fun n=>p (UInt8.ofNat n))=true)(b:UInt8):p b=true:=by
  have h1:=List.all_eq_true.1 h b.toNat (List.mem_range.2 b.toNat_lt)
  simpa using h1
def hexB(b:UInt8):Int:=
  if 48<=b.toNat/\b.toNat<=57 then (b.toNat:Int) - 48 else if 65<=b.toNat/\b.toNat<=70 then (b.toNat:Int) - 55 else if 97<=b.toNat/\b.toNat<=102 then (b.toNat:Int) - 87 else -1
theorem zor(b:UInt8):-1<=hexB b/\hexB b<=15:=by unfold hexB;split<;>(try split)<;>(try split)<;>omega
theorem zkt(b:UInt8)(w:World) :
    Calls Tryz.prog 202 #[.int .u8 b.toNat] w fun e w'=>e=.returned (.int .i64 (hexB b))/\w'=w:=by
  have hb:=b.toNat_lt
  go_enter Tryz.func202,Tryz.ntmps202
  go_wp2
  all_goals
    go_ret
    refine⟨zdZ ?_,rfl⟩
    unfold hexB
    have hw1:=IntWalk.u8_in ((b.toNat:Int) - 48)
    have hw2:=IntWalk.u8_in ((b.toNat:Int) - 65)
    have hw3:=IntWalk.u8_in ((b.toNat:Int) - 97)
    first
      | (rw[hw1 (by omega)];(repeat' split)<;>omega)
      | (rw[hw2 (by omega)];(repeat' split)<;>omega)
      | (rw[hw3 (by omega)];(repeat' split)<;>omega)
      | ((repeat' split)<;>omega)
end Go.Proofs.YtddgabjhligeeaaGreat.mk
