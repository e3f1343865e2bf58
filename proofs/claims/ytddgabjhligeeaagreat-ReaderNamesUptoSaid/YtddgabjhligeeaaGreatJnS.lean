import Derived.Test.YtddgabjhligeeaaGreatJnR
import Derived.Laws.Runes
set_option maxHeartbeats 400000
namespace Go.Proofs.YtddgabjhligeeaaGreat.mk
open Go.RowKit
def zcP(n:Int):Int:=if 1<=n/\n<=1114111/\¬ (55296<=n/\n<=57343) then n else 65533
theorem zin(n:Int):1<=zcP n/\zcP n<=1114111/\¬ (55296<=zcP n/\zcP n<=57343):=by unfold zcP;split<;>omega
theorem zko(n:Nat)(h:n < 256):(UInt8.ofNat n).toNat=n:=by simp;omega
def runL(c:Nat):List Nat:=
  if c < 128 then [c] else if c < 2048 then [192+c / 64,128+c % 64] else if c < 65536 then [224+c / 4096,128+c / 64 % 64,128+c % 64]
  else [240+c / 262144,128+c / 4096 % 64,128+c / 64 % 64,128+c % 64]
theorem zhx{n:Int}(h1:1<=n)(h2:n<=1114111)(h3:¬ (55296<=n/\n<=57343)):(Utf8.encode n).data.toList=(runL n.toNat).map UInt8.ofNat:=by
  have hv:Utf8.valid n=true:=by unfold Utf8.valid;simp;omega
  unfold Utf8.encode runL
  simp only[hv,if_true]
  by_cases c1:n.toNat < 128
  . simp only[c1,if_true];rfl
  by_cases c2:n.toNat < 2048
  . simp only[c1,c2,if_true,if_false];rfl
  by_cases c3:n.toNat < 65536
  . simp only[c1,c2,c3,if_true,if_false];rfl
  . simp only[c1,c2,c3,if_false];rfl
theorem zaX{m lo hi x:Nat}(hx:x < 256)(t:List UInt8)(h:lo<=x/\x<=hi):fit (m+1) lo hi (UInt8.ofNat x::t)=fit m 128 191 t+1:=by
  rw[fit,if_pos (by rw[zko x hx];exact h)]
theorem zpk{c:Nat}(h1:1<=c)(h2:c<=1114111)(h3:¬ (55296<=c/\c<=57343)):nx ((runL c).map UInt8.ofNat)=((runL c).length,true):=by
  unfold runL
  by_cases c1:c < 128
  . have hs:shp c=(1,0,0):=by unfold shp;rw[if_pos c1]
    simp only[c1,if_true,List.map_cons,List.map_nil,nx,zko c (by omega),hs,List.length_cons,List.length_nil]
    rfl
  by_cases c2:c < 2048
  . have hs:shp (192+c / 64)=(2,128,191):=by unfold shp;rw[if_neg (by omega),if_neg (by omega),if_pos (by omega)]
    simp only[c1,c2,if_true,if_false,List.map_cons,List.map_nil,nx,zko (192+c / 64) (by omega),hs,List.length_cons,List.length_nil]
    rw[zaX (m:=0) (by omega) _ (by omega)]
    rfl
  by_cases c3:c < 65536
  . simp only[c1,c2,c3,if_true,if_false,List.map_cons,List.map_nil,nx,zko (224+c / 4096) (by omega),List.length_cons,List.length_nil]
    have hs:(shp (224+c / 4096)).1=3/\(shp (224+c / 4096)).2.1<=128+c / 64 % 64/\128+c / 64 % 64<=(shp (224+c / 4096)).2.2:=by
      unfold shp
      rw[if_neg (by omega),if_neg (by omega),if_neg (by omega)]
      by_cases d1:224+c / 4096=224
      . rw[if_pos d1];refine⟨rfl,?_,?_⟩<;>simp only<;>omega
      rw[if_neg d1]
      by_cases d2:224+c / 4096=237
      . rw[if_pos d2];refine⟨rfl,?_,?_⟩<;>simp only<;>omega
      rw[if_neg d2,if_pos (by omega)]
      refine⟨rfl,?_,?_⟩<;>simp only<;>omega
    obtain⟨e1,e2,e3⟩:=hs
    rw[e1,zaX (m:=1) (by omega) _ ⟨e2,e3⟩,zaX (m:=0) (by omega) _ (by omega)]
    rfl
  . simp only[c1,c2,c3,if_false,List.map_cons,List.map_nil,nx,zko (240+c / 262144) (by omega),List.length_cons,List.length_nil]
    have hs:(shp (240+c / 262144)).1=4/\(shp (240+c / 262144)).2.1<=128+c / 4096 % 64/\128+c / 4096 % 64<=(shp (240+c / 262144)).2.2:=by
      unfold shp
      rw[if_neg (by omega),if_neg (by omega),if_neg (by omega),if_neg (by omega),if_neg (by omega),if_neg (by omega)]
      by_cases d1:240+c / 262144=240
      . rw[if_pos d1];refine⟨rfl,?_,?_⟩<;>simp only<;>omega
      rw[if_neg d1]
      by_cases d2:240+c / 262144 < 244
      . rw[if_pos d2];refine⟨rfl,?_,?_⟩<;>simp only<;>omega
      rw[if_neg d2,if_pos (by omega)]
      refine⟨rfl,?_,?_⟩<;>simp only<;>omega
    obtain⟨e1,e2,e3⟩:=hs
    rw[e1,zaX (m:=2) (by omega) _ ⟨e2,e3⟩,zaX (m:=1) (by omega) _ (by omega),zaX (m:=0) (by omega) _ (by omega)]
    rfl
theorem zok(c:Nat):runL c≠[]:=by
  unfold runL
  split
  . simp
  split
  . simp
  split
  . simp
  . simp
def zbn(n:Int):ByteArray:=Utf8.encode (zcP n)
theorem zc4(n:Int):(zbn n).data.toList=(runL (zcP n).toNat).map UInt8.ofNat:=by
  have h:=zin n
  exact zhx h.1 h.2.1 h.2.2
theorem zmI(n:Int):nx (zbn n).data.toList=((zbn n).size,true):=by
  have h:=zin n
  have e:(zbn n).size=(runL (zcP n).toNat).length:=by
    have:=congrArg List.length (zc4 n)
    rw[List.length_map,Array.length_toList]at this
    exact this
  rw[e,zc4,zpk (by omega) (by omega) (by omega)]
theorem zmJ(n:Int):(zbn n).data.toList≠[]:=by rw[zc4];simp [zok]
theorem zkp(n:Int):(zbn n).size<=4:=by
  have h:=znW (zbn n).data.toList
  rw[zmI]at h
  exact h
theorem zfv(n:Int)(w:World) :
    Calls Tryz.prog 201 #[.int .i64 n] w fun e w'=>e=.returned (.string (zbn n))/\w=w':=by
  by_cases h1:1<=n
  . by_cases h2:n<=1114111
    . by_cases h3:55296<=n
      . by_cases h4:n<=57343
        . have HR:Hid (zbn n=Utf8.encode 65533):=by show _=_;unfold zbn zcP;rw[if_neg (by omega)]
          go_enter Tryz.func201,Tryz.ntmps201
          go_wp2_with fail
          go_ret
          exact⟨by rw[HR.out];rfl,rfl⟩
        . have HR:Hid (zbn n=Utf8.encode n):=by show _=_;unfold zbn zcP;rw[if_pos (by omega)]
          go_enter Tryz.func201,Tryz.ntmps201
          go_wp2_with fail
          go_ret
          exact⟨by rw[HR.out];rfl,rfl⟩
      . have HR:Hid (zbn n=Utf8.encode n):=by show _=_;unfold zbn zcP;rw[if_pos (by omega)]
        go_enter Tryz.func201,Tryz.ntmps201
        go_wp2_with fail
        go_ret
        exact⟨by rw[HR.out];rfl,rfl⟩
    . have HR:Hid (zbn n=Utf8.encode 65533):=by show _=_;unfold zbn zcP;rw[if_neg (by omega)]
      go_enter Tryz.func201,Tryz.ntmps201
      go_wp2_with fail
      go_ret
      exact⟨by rw[HR.out];rfl,rfl⟩
  . have HR:Hid (zbn n=Utf8.encode 65533):=by show _=_;unfold zbn zcP;rw[if_neg (by omega)]
    go_enter Tryz.func201,Tryz.ntmps201
    go_wp2_with fail
    go_ret
    exact⟨by rw[HR.out];rfl,rfl⟩
end Go.Proofs.YtddgabjhligeeaaGreat.mk
