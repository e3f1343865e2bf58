import Derived.Test.YtddgabjhligeeaaGreatJoinO
import Derived.Laws.Runes
set_option maxHeartbeats 400000
namespace Go.Proofs.YtddgabjhligeeaaGreat.mk
open Go.RowKit
def zdP(n:Int):Int:=if 1<=n/\n<=1114111/\¬ (55296<=n/\n<=57343) then n else 65533
theorem zli(n:Int):1<=zdP n/\zdP n<=1114111/\¬ (55296<=zdP n/\zdP n<=57343):=by unfold zdP;split<;>omega
theorem znU(n:Nat)(h:n < 256):(UInt8.ofNat n).toNat=n:=by simp;omega
def runL(c:Nat):List Nat:=
  if c < 128 then [c] else if c < 2048 then [192+c / 64,128+c % 64] else if c < 65536 then [224+c / 4096,128+c / 64 % 64,128+c % 64]
  else [240+c / 262144,128+c / 4096 % 64,128+c / 64 % 64,128+c % 64]
theorem zkd{n:Int}(h1:1<=n)(h2:n<=1114111)(h3:¬ (55296<=n/\n<=57343)):(Utf8.encode n).data.toList=(runL n.toNat).map UInt8.ofNat:=by
  have hv:Utf8.valid n=true:=by unfold Utf8.valid;simp;omega
  unfold Utf8.encode runL
  simp only[hv,if_true]
  by_cases c1:n.toNat < 128
  . simp only[c1,if_true];rfl
  by_cases c2:n.toNat < 2048
  . simp only[c1,c2,if_true,if_false];rfl
  by_cases c3:n.toNat < 65536
  . simp only[c1,c2,c3,if_true,if_false];rfl
  . simp only[c1,c2,c3,if_false];rfl
theorem zbo{m lo hi x:Nat}(hx:x < 256)(t:List UInt8)(h:lo<=x/\x<=hi):fit (m+1) lo hi (UInt8.ofNat x::t)=fit m 128 191 t+1:=by
  rw[fit,if_pos (by rw[znU x hx];exact h)]
theorem zuk{c:Nat}(h1:1<=c)(h2:c<=1114111)(h3:¬ (55296<=c/\c<=57343)):nx ((runL c).map UInt8.ofNat)=((runL c).length,true):=by
  unfold runL
  by_cases c1:c < 128
  . have hs:shp c=(1,0,0):=by unfold shp;rw[if_pos c1]
    simp only[c1,if_true,List.map_cons,List.map_nil,nx,znU c (by omega),hs,List.length_cons,List.length_nil]
    rfl
  by_cases c2:c < 2048
  . have hs:shp (192+c / 64)=(2,128,191):=by unfold shp;rw[if_neg (by omega),if_neg (by omega),if_pos (by omega)]
    simp only[c1,c2,if_true,if_false,List.map_cons,List.map_nil,nx,znU (192+c / 64) (by omega),hs,List.length_cons,List.length_nil]
    rw[zbo (m:=0) (by omega) _ (by omega)]
    rfl
  by_cases c3:c < 65536
  . simp only[c1,c2,c3,if_true,if_false,List.map_cons,List.map_nil,nx,znU (224+c / 4096) (by omega),List.length_cons,List.length_nil]
    have hs:(shp (224+c / 4096)).1=3/\(shp (224+c / 4096)).2.1<=128+c / 64 % 64/\128+c / 64 % 64<=(shp (224+c / 4096)).2.2:=by
      unfold shp
      rw[if_neg (by omega),if_neg (by omega),if_neg (by omega)]
      by_cases d1:224+c / 4096=224
      . rw[if_pos d1];refine⟨rfl,?_,?_⟩<;>simp only<;>omega
      rw[if_neg d1]
      by_cases d2:224+c / 4096=237
      . rw[if_pos d2];refine⟨rfl,?_,?_⟩<;>simp only<;>omega
      rw[if_neg d2,if_pos (by omega)]
      refine⟨rfl,?_,?_⟩<;>simp only<;>omega
    obtain⟨e1,e2,e3⟩:=hs
    rw[e1,zbo (m:=1) (by omega) _ ⟨e2,e3⟩,zbo (m:=0) (by omega) _ (by omega)]
    rfl
  . simp only[c1,c2,c3,if_false,List.map_cons,List.map_nil,nx,znU (240+c / 262144) (by omega),List.length_cons,List.length_nil]
    have hs:(shp (240+c / 262144)).1=4/\(shp (240+c / 262144)).2.1<=128+c / 4096 % 64/\128+c / 4096 % 64<=(shp (240+c / 262144)).2.2:=by
      unfold shp
      rw[if_neg (by omega),if_neg (by omega),if_neg (by omega),if_neg (by omega),if_neg (by omega),if_neg (by omega)]
      by_cases d1:240+c / 262144=240
      . rw[if_pos d1];refine⟨rfl,?_,?_⟩<;>simp only<;>omega
      rw[if_neg d1]
      by_cases d2:240+c / 262144 < 244
      . rw[if_pos d2];refine⟨rfl,?_,?_⟩<;>simp only<;>omega
      rw[if_neg d2,if_pos (by omega)]
      refine⟨rfl,?_,?_⟩<;>simp only<;>omega
    obtain⟨e1,e2,e3⟩:=hs
    rw[e1,zbo (m:=2) (by omega) _ ⟨e2,e3⟩,zbo (m:=1) (by omega) _ (by omega),zbo (m:=0) (by omega) _ (by omega)]
    rfl
theorem zsS(c:Nat):runL c≠[]:=by
  unfold runL
  split
  . simp
  split
  . simp
  split
  . simp
  . simp
def zb4(n:Int):ByteArray:=Utf8.encode (zdP n)
theorem zen(n:Int):(zb4 n).data.toList=(runL (zdP n).toNat).map UInt8.ofNat:=by
  have h:=zli n
  exact zkd h.1 h.2.1 h.2.2
theorem zqN(n:Int):nx (zb4 n).data.toList=((zb4 n).size,true):=by
  have h:=zli n
  have e:(zb4 n).size=(runL (zdP n).toNat).length:=by
    have:=congrArg List.length (zen n)
    rw[List.length_map,Array.length_toList]at this
    exact this
  rw[e,zen,zuk (by omega) (by omega) (by omega)]
theorem zqO(n:Int):(zb4 n).data.toList≠[]:=by rw[zen];simp [zsS]
theorem znV(n:Int):(zb4 n).size<=4:=by
  have h:=zsx (zb4 n).data.toList
  rw[zqN]at h
  exact h
theorem zhP(n:Int)(w:World) :
    Calls Tryz.prog 201 #[.int .i64 n] w fun e w'=>e=.returned (.string (zb4 n))/\w=w':=by
  by_cases h1:1<=n
  . by_cases h2:n<=1114111
    . by_cases h3:55296<=n
      . by_cases h4:n<=57343
        . have HR:Hid (zb4 n=Utf8.encode 65533):=by show _=_;unfold zb4 zdP;rw[if_neg (by omega)]
          go_enter Tryz.func201,Tryz.ntmps201
          go_wp2_with fail
          go_ret
          exact⟨by rw[HR.out];rfl,rfl⟩
        . have HR:Hid (zb4 n=Utf8.encode n):=by show _=_;unfold zb4 zdP;rw[if_pos (by omega)]
          go_enter Tryz.func201,Tryz.ntmps201
          go_wp2_with fail
          go_ret
          exact⟨by rw[HR.out];rfl,rfl⟩
      . have HR:Hid (zb4 n=Utf8.encode n):=by show _=_;unfold zb4 zdP;rw[if_pos (by omega)]
        go_enter Tryz.func201,Tryz.ntmps201
        go_wp2_with fail
        go_ret
        exact⟨by rw[HR.out];rfl,rfl⟩
    . have HR:Hid (zb4 n=Utf8.encode 65533):=by show _=_;unfold zb4 zdP;rw[if_neg (by omega)]
      go_enter Tryz.func201,Tryz.ntmps201
      go_wp2_with fail
      go_ret
      exact⟨by rw[HR.out];rfl,rfl⟩
  . have HR:Hid (zb4 n=Utf8.encode 65533):=by show _=_;unfold zb4 zdP;rw[if_neg (by omega)]
    go_enter Tryz.func201,Tryz.ntmps201
    go_wp2_with fail
    go_ret
    exact⟨by rw[HR.out];rfl,rfl⟩
end Go.Proofs.YtddgabjhligeeaaGreat.mk
