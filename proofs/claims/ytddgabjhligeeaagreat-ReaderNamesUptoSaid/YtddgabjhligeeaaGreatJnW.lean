import Derived.Test.YtddgabjhligeeaaGreatJnP
import Derived.Test.YtddgabjhligeeaaGreatJnT
namespace Go.Proofs.YtddgabjhligeeaaGreat.mk
open Go.RowKit
theorem zmQ(a b:UInt8):((a.toNat:Int) == (b.toNat:Int))=(a == b):=by
  rw[Bool.eq_iff_iff]
  simp [<-UInt8.toNat_inj]
  try omega
end Go.Proofs.YtddgabjhligeeaaGreat.mk
