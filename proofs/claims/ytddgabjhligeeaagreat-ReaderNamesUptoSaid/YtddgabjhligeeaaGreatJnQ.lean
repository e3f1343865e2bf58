import Derived.Deep.RegionLaw
import Derived.Laws.IdiomStrings
import Derived.Test.YtddgabjhligeeaaGreatJnP
set_option maxHeartbeats 1000000
namespace Go.Proofs.YtddgabjhligeeaaGreat.mk
open Go.RowKit
theorem za3{a b:Bool}(h:a=b):Ending.returned (.bool a)=.returned (.bool b):=by rw[h]
theorem zbz(t p:ByteArray)(w:World) :
    Calls Tryz.prog 74 #[.string t,.string p] w fun e w'=>e=.returned (.bool (t.data.toList.take p.size == p.data.toList))/\w=w':=by
  have htl:t.data.toList.length=t.size:=by rw[Array.length_toList];rfl
  have hpl:p.data.toList.length=p.size:=by rw[Array.length_toList];rfl
  by_cases h:p.size<=t.size
  . have h1:(p.size:Int)<=(t.size:Int):=by omega
    have h0:(0:Int)<=(p.size:Int):=Int.natCast_nonneg _
    have HX:Hid ((t.extract 0 p.size).toList=t.data.toList.take p.size):=by
      show _=_
      rw[ByteArray.toList_eq,ByteArray.data_extract,Array.toList_extract,List.extract_eq_take_drop]
      simp
    have HP:Hid (p.toList=p.data.toList):=ByteArray.toList_eq p
    clear htl hpl
    go_enter Tryz.func74,Tryz.ntmps74
    go_wp2_with fail
    all_goals
      go_ret
      refine⟨za3 ?_,rfl⟩
      first | rw[HX.out,HP.out] | simp [HX.out,HP.out]
  . have h1:¬ (p.size:Int)<=(t.size:Int):=by omega
    have HF:Hid ((t.data.toList.take p.size == p.data.toList)=false):=by
      show _=_
      rw[beq_eq_false_iff_ne]
      intro e
      have:=congrArg List.length e
      rw[List.length_take,htl,hpl]at this
      omega
    clear htl hpl
    go_enter Tryz.func74,Tryz.ntmps74
    go_wp2_with fail
    all_goals
      go_ret
      refine⟨za3 ?_,rfl⟩
      rw[HF.out]
theorem zaR(t p:ByteArray)(w:World) :
    Calls Tryz.prog 45 #[.string t,.string p] w fun e w'=>e=.returned (.bool (t.data.toList.take p.size == p.data.toList))/\w=w':=by
  go_enter Tryz.func45,Tryz.ntmps45
  go_wp2_with fail
  refine(zbz t p _).mono ?_
  rintro e w' ⟨rfl,rfl⟩
  go_wp2
  go_ret
  exact⟨rfl,rfl⟩
theorem zmH(t p:ByteArray)(h:(t.data.toList.take p.size == p.data.toList)=true)(w:World) :
    Calls Tryz.prog 143 #[.string t,.string p] w fun e w'=>e=.returned (.tuple #[.string (t.extract p.size t.size),.bool true])/\w=w':=by
  have hle:p.size<=t.size:=by
    have:=congrArg List.length (beq_iff_eq.1 h)
    rw[List.length_take,Array.length_toList,Array.length_toList]at this
    show p.data.size<=t.data.size
    omega
  have h1:(p.size:Int)<=(t.size:Int):=by omega
  have h0:(0:Int)<=(p.size:Int):=Int.natCast_nonneg _
  go_enter Tryz.func143,Tryz.ntmps143
  go_wp2_with fail
  refine(zbz t p _).mono ?_
  rw[h]
  rintro e w' ⟨rfl,rfl⟩
  go_wp2_with fail
  go_ret2
  exact⟨rfl,rfl⟩
theorem zoi(t p:ByteArray)(h:(t.data.toList.take p.size == p.data.toList)=false)(w:World) :
    Calls Tryz.prog 143 #[.string t,.string p] w fun e w'=>e=.returned (.tuple #[.string t,.bool false])/\w=w':=by
  go_enter Tryz.func143,Tryz.ntmps143
  go_wp2_with fail
  refine(zbz t p _).mono ?_
  rw[h]
  rintro e w' ⟨rfl,rfl⟩
  go_wp2_with fail
  go_ret2
  exact⟨rfl,rfl⟩
theorem zhw(t p:ByteArray)(h:(t.data.toList.take p.size == p.data.toList)=true)(w:World) :
    Calls Tryz.prog 105 #[.string t,.string p] w fun e w'=>e=.returned (.tuple #[.string (t.extract p.size t.size),.bool true])/\w=w':=by
  go_enter Tryz.func105,Tryz.ntmps105
  go_wp2_with fail
  refine(zmH t p h _).mono ?_
  rintro e w' ⟨rfl,rfl⟩
  go_wp2_with fail
  go_ret2
  exact⟨rfl,rfl⟩
theorem zkl(t p:ByteArray)(h:(t.data.toList.take p.size == p.data.toList)=false)(w:World) :
    Calls Tryz.prog 105 #[.string t,.string p] w fun e w'=>e=.returned (.tuple #[.string t,.bool false])/\w=w':=by
  go_enter Tryz.func105,Tryz.ntmps105
  go_wp2_with fail
  refine(zoi t p h _).mono ?_
  rintro e w' ⟨rfl,rfl⟩
  go_wp2_with fail
  go_ret2
  exact⟨rfl,rfl⟩
def isIn(l:List UInt8)(x:UInt8):Bool:=l.contains x
end Go.Proofs.YtddgabjhligeeaaGreat.mk
