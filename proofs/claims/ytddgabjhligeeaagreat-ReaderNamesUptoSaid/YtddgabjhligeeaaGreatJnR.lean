import Derived.Test.YtddgabjhligeeaaGreatJnL
import Derived.Test.YtddgabjhligeeaaGreatJnQ
set_option maxHeartbeats 1000000
set_option maxRecDepth 100000
namespace Go.Proofs.YtddgabjhligeeaaGreat.mk
open Go.RowKit
theorem zd2(s:ByteArray)(i j:Nat):(s.extract i j).data.toList=(s.data.toList.drop i).take (j - i):=by
  simp [ByteArray.data_extract,List.extract_eq_take_drop]
theorem zd3(s:ByteArray)(i:Nat):(s.extract i s.size).data.toList=s.data.toList.drop i:=by
  rw[zd2]
  refine List.take_of_length_le ?_
  rw[List.length_drop,Array.length_toList]
  exact Nat.le_refl _
theorem zgs(s:ByteArray)(b:Bool)(w:World) :
    Calls Tryz.prog 40 #[.string s,.bool b] w fun e w'=>e=.returned (.bool (!b || s.data.toList == [0]))/\w=w':=by
  cases b
  . go_enter Tryz.func40,Tryz.ntmps40
    go_wp2_with fail
    go_ret
    exact⟨rfl,rfl⟩
  . go_enter Tryz.func40,Tryz.ntmps40
    go_wp2_with fail
    go_ret
    exact⟨by simp [ByteArray.toList_eq],rfl⟩
theorem zkm(l:List UInt8):(!(nx l).2 || l.take (nx l).1 == [0])=zaj l:=by
  unfold zaj
  cases h:(nx l).2 with
  | false=>rfl
  | true=>
    have:=zft h
    rw[Bool.eq_iff_iff]
    simpa using this
theorem znX{l:List UInt8}{a b:Nat}{x y:Int}(h:fr l=(a,b))(hx:x=a)(hy:y=b):Ending.returned (.tuple #[.int .i64 x,.int .i64 y])=.returned (.tuple #[.int .i64 (fr l).1,.int .i64 (fr l).2]):=by
  rw[h,hx,hy]
def zoj(l:List UInt8)(at':Value):Prop:=
  ∃ k:Nat,k<=l.length/\at'=.int .i64 (k:Int)/\fr l=(k+(fr (l.drop k)).1,(fr (l.drop k)).2)
theorem zkn(s:ByteArray)(w:World)(hs:s.size<=4294967296) :
    Calls Tryz.prog 39 #[.string s,.func (.func 40) #[] #[]] w fun e w'=>e=.returned (.tuple #[.int .i64 (fr s.data.toList).1,.int .i64 (fr s.data.toList).2])/\w=w':=by
  have hsl:s.data.toList.length=s.size:=by rw[Array.length_toList];rfl
  have HSL:=Lib.hid hsl
  clear hsl
  go_enter Tryz.func39,Tryz.ntmps39
  go_wp2_with fail
  go_loop [4] (zoj s.data.toList) (fun i=>s.size - (intOf i).toNat)
  case atStart=>exact⟨0,Nat.zero_le _,rfl,by simp⟩
  case round=>
    obtain⟨k,hk,rfl,hfr⟩:=hrel
    rw[HSL.out]at hk
    have HF:=Lib.hid hfr
    clear hfr
    by_cases hlt:k < s.size
    . have hne:s.data.toList.drop k≠[]:=by
        intro h
        have:=congrArg List.length h
        rw[List.length_drop,HSL.out]at this
        simp at this
        omega
      have hb:=zeE hne
      rw[List.length_drop,HSL.out]at hb
      go_wp2_with fail
      refine(zmD (s.extract k s.size) _ (by rw[ByteArray.size_extract];omega)).mono ?_
      rintro e w' ⟨rfl,rfl⟩
      rw[zd3]
      have HSO:=Lib.hid (zkm (s.data.toList.drop k))
      have HN:=Lib.hid hne
      generalize hq:nx (s.data.toList.drop k)=q at *
      obtain⟨n,ok⟩:=q
      have HQ:=Lib.hid hq
      simp only at hb
      have hkn:k+n<=s.size:=by omega
      clear hq hne
      go_wp2_with fail
      refine(zgs _ _ _).mono ?_
      rintro e w' ⟨rfl,rfl⟩
      rw[zd2,show k+n - k=n by omega,HSO.out]
      cases hso:zaj (s.data.toList.drop k) with
      | true=>
        have HX:Hid (fr s.data.toList=(k,n)):=by
          show _=_
          rw[HF.out,zdS HN.out hso,HQ.out]
          rfl
        clear hso
        go_wp2_with fail
        go_ret2
        exact⟨znX HX.out rfl rfl,rfl⟩
      | false=>
        have HX:Hid (fr s.data.toList=(k+n+(fr (s.data.toList.drop (k+n))).1,(fr (s.data.toList.drop (k+n))).2)):=by
          show _=_
          rw[HF.out,zdT HN.out hso,HQ.out]
          simp only[List.drop_drop,Nat.add_assoc]
        clear hso
        go_wp2_with fail
        go_round
        case rel=>exact⟨k+n,by rw[HSL.out];omega,by go_num,HX.out⟩
        case measure=>simp [intOf];omega
    . have HX:Hid (fr s.data.toList=(k,0)):=by
        show _=_
        rw[HF.out,List.drop_of_length_le (by rw[HSL.out];omega),zih]
        rfl
      go_wp2_with fail
      go_ret2
      exact⟨znX HX.out rfl rfl,rfl⟩
end Go.Proofs.YtddgabjhligeeaaGreat.mk
