import Derived.Test.YtddgabjhligeeaaGreatJoinE
import Derived.Test.YtddgabjhligeeaaGreatProg
namespace Go.Proofs
open Go.Shelf
def Tryz.lays150_ren:Go.Shelf.Ren:=⟨fun | 150=>159 | 153=>170 | 152=>182 | 137=>173 | 119=>197 | 217=>188 | 224=>190 | 225=>189 | 226=>183 | 227=>184 | 228=>185 | 266=>198 | n=>n,fun | 9=>9 | 3=>3 | 4=>4 | 5=>5 | 21=>21 | 46=>192 | 116=>188 | 117=>189 | 124=>204 | n=>n,fun | n=>n⟩
theorem Tryz.lays150:Go.Proofs.Lays.n150 Tryz.prog Tryz.lays150_ren:={
  mixed:=by kernel_rfl
  f119:=Tryz.func197.trans (congrArg some (by kernel_rfl))
  f137:=Tryz.func173.trans (congrArg some (by kernel_rfl))
  f150:=Tryz.func159.trans (congrArg some (by kernel_rfl))
  f152:=Tryz.func182.trans (congrArg some (by kernel_rfl))
  f153:=Tryz.func170.trans (congrArg some (by kernel_rfl))
  f217:=Tryz.func188.trans (congrArg some (by kernel_rfl))
  f224:=Tryz.func190.trans (congrArg some (by kernel_rfl))
  f225:=Tryz.func189.trans (congrArg some (by kernel_rfl))
  f226:=Tryz.func183.trans (congrArg some (by kernel_rfl))
  f227:=Tryz.func184.trans (congrArg some (by kernel_rfl))
  f228:=Tryz.func185.trans (congrArg some (by kernel_rfl))
  f266:=Tryz.func198.trans (congrArg some (by kernel_rfl))
  t0:=by kernel_rfl
  a0:=fun w=>by kernel_rfl
  z0:=fun w=>by kernel_rfl
  v0:=fun w=>by kernel_rfl
  t3:=Tryz.underlying3
  a3:=Tryz.isAgg3
  z3:=Tryz.sizeOf3
  v3:=Tryz.zeroValue3
  t4:=Tryz.underlying4
  a4:=Tryz.isAgg4
  z4:=Tryz.sizeOf4
  v4:=Tryz.zeroValue4
  t5:=Tryz.underlying5
  a5:=Tryz.isAgg5
  z5:=Tryz.sizeOf5
  v5:=Tryz.zeroValue5
  t9:=Tryz.underlying9
  a9:=Tryz.isAgg9
  z9:=Tryz.sizeOf9
  v9:=Tryz.zeroValue9
  t21:=Tryz.underlying21
  a21:=Tryz.isAgg21
  z21:=Tryz.sizeOf21
  v21:=Tryz.zeroValue21
  t46:=Tryz.underlying192
  a46:=Tryz.isAgg192
  z46:=Tryz.sizeOf192
  v46:=Tryz.zeroValue192
  t116:=by kernel_rfl
  a116:=fun w=>by kernel_rfl
  z116:=fun w=>by kernel_rfl
  t117:=by kernel_rfl
  a117:=fun w=>by kernel_rfl
  z117:=fun w=>by kernel_rfl
  v117:=fun w=>by kernel_rfl
  t124:=by kernel_rfl
  a124:=fun w=>by kernel_rfl
  z124:=fun w=>by kernel_rfl
  v124:=fun w=>by kernel_rfl }
theorem Tryz.set150:(Tryz.prog.info? (Tryz.lays150_ren.t 116)).map (fun i=>(i.zero,i.size))=some (some (.agg (Array.replicate 256 (.bool false))),256):=by kernel_rfl
open Go.RowKit Go.Lib in
theorem Tryz.strings_ContainsAny_two(s chars:ByteArray)(w:World)(hs:s.size < 4294967281)(h2:chars.size=2)(hl:∀ (i:Nat) (h:i < chars.size),(chars[i]'h).toNat < 128) :
    Calls Tryz.prog 159 #[.string s,.string chars] w fun e w'=>e=.returned (.bool (s.data.toList.any (fun b=>chars.data.toList.contains b)))/\Below w.heap.size w w':=by
  rw[<-YtddgabjhligeeaaGreat.containsAny_any]
  exact YtddgabjhligeeaaGreat.containsAny_two Tryz.lays150 Tryz.set150 s chars w hs h2 hl
end Go.Proofs
