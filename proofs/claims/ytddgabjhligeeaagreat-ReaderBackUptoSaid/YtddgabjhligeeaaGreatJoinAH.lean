import Derived.Test.YtddgabjhligeeaaGreatJoinAC
import Derived.Deep.DeepCutAuto
import Derived.Deep.CutBlock
namespace Go.Proofs.YtddgabjhligeeaaGreat.mk
open Go.RowKit
def zL(rr:List (Int × Int))(k:Nat):Nat:=(ze (rr.take k)).length
theorem zhl(rr:List (Int × Int)):zL rr 0=0:=by simp [zL,ze]
theorem zeL{rr:List (Int × Int)}{k:Nat}{l o:Int}(h:rr[k]?=some (l,o)):zL rr (k+1)=zL rr k+l.toNat:=by
  unfold zL
  rw[zdC h,List.length_append,List.length_replicate]
theorem zpj{rr:List (Int × Int)}{k:Nat}(h:rr.length<=k):zL rr k=(ze rr).length:=by
  unfold zL;rw[List.take_of_length_le h]
theorem zfa(rr:List (Int × Int))(k n:Nat):ze rr=ze (rr.take k)++ ze ((rr.drop k).take n)++ ze (rr.drop (k+n)):=by
  rw[<-zl,<-zl]
  congr 1
  rw[List.append_assoc,<-List.drop_drop,List.take_append_drop,List.take_append_drop]
theorem zjB(rr:List (Int × Int))(k n:Nat):zL rr (k+n)=zL rr k+(ze ((rr.drop k).take n)).length:=by
  unfold zL
  rw[List.take_add,zl,List.length_append]
theorem zig(rr:List (Int × Int))(k:Nat):zL rr k<=(ze rr).length:=by
  have h:=zfa rr k 0
  have:=congrArg List.length h
  rw[List.length_append,List.length_append]at this
  unfold zL
  omega
theorem zpk{α:Type}(x y z:List α)(f t:Nat)(h1:x.length<=f)(h2:x.length<=t)(h3:t<=x.length+y.length):(y.take (t - x.length)).drop (f - x.length)=((x++ y++ z).take t).drop f:=by
  have e1:(x++ y++ z).take t=x++ y.take (t - x.length):=by
    rw[List.append_assoc,List.take_append,List.take_of_length_le h2,List.take_append,show t - x.length - y.length=0 by omega,List.take_zero,List.append_nil]
  have e2:x.drop f=[]:=List.drop_of_length_le h1
  rw[e1,List.drop_append,e2,List.nil_append]
theorem zrH{n:Nat}{rs:List (Int × Int)}(hg:Good rs)(h:(ze rs).length<=n):pre n rs=ze rs:=by
  induction rs using za1 with
  | nil=>rfl
  | append_singleton rs r ih=>
    have hr:=hg r (by simp)
    rw[zl,List.length_append]at h
    have h1:(ze [r]).length=r.1.toNat:=by simp [ze]
    rw[zcD,ih (fun x hx=>hg x (by simp [hx])) (by omega),zl,show min r.1.toNat (n - (ze rs).length)=r.1.toNat by omega,zhK hr.2.1 hr.2.2]
    simp [ze]
theorem zjC{n:Nat}{rs:List (Int × Int)}(hg:Good rs)(h:(ze rs).length=n):zN n rs=ze rs:=by
  unfold zN
  rw[zrH hg (by omega),h]
  simp
theorem zm4{w:World}{B:Nat}{A:Option Addr}{a b:List (Int × Int)}(h:Lies w B A (zd (a++ b))):Lies w B A (zd a):=by
  intro j u hu
  refine h j u ?_
  rw[zaf,List.getElem?_append_left (List.getElem?_eq_some_iff.1 hu).1]
  exact hu
theorem zpl{w:World}{B:Nat}{ad:Addr}{x:Int × Int}{l:List (Int × Int)}(h:Lies w B (some ad) (zd (x::l))):Lies w B (some (ad.add 2)) (zd l):=by
  intro j u hu
  obtain⟨ad',e,hb,hc⟩:=h (2+j) u (by rw[show 2+j=j+1+1 by omega];exact hu)
  injection e with e
  subst e
  exact⟨_,rfl,by rw[zW];exact hb,by rw[zdO];exact hc⟩
theorem Moved.drewN{S:Nat->Prop}{a w:World}(h:Moved S a w)(n:Nat):Moved S a (w.drewN n):=⟨h.os,h.tape,h.output,h.size,h.block⟩
theorem zih(ad:Addr):ad.add 2=⟨ad.block,ad.off+2,none⟩:=by unfold Addr.add;rw[if_neg (by omega)]
theorem zpm(ad:Addr):ad.add (0 * 2)=ad:=by unfold Addr.add;rfl
theorem Moved.setNew{S:Nat->Prop}{a w:World}(h:Moved S a w){p:Addr}(hp:a.heap.size<=p.block)(u:Value):Moved S a (w.setCell p u):=
  ⟨h.os,h.tape,h.output,by have:=h.size;simpa [World.setCell]using this,fun k hk hs=>(Below.heap_setCell w p u k (by omega)).trans (h.block k hk hs)⟩
def ztD(rr:List (Int × Int))(k:Nat)(n e:Value):Prop:=
  ∃ j:Nat,k+j<=rr.length/\n=.int .i64 (j:Int)/\e=.int .i64 (zL rr (k+j):Int)
end Go.Proofs.YtddgabjhligeeaaGreat.mk
