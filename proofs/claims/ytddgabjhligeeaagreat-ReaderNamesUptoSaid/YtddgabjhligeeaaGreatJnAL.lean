import Derived.Test.YtddgabjhligeeaaGreatJnAI
import Derived.Deep.DeepCutAuto
import Derived.Deep.CutBlock
namespace Go.Proofs.YtddgabjhligeeaaGreat.mk
open Go.RowKit
def zB(rr:List (Int × Int))(k:Nat):Nat:=(zd (rr.take k)).length
theorem zfa(rr:List (Int × Int)):zB rr 0=0:=by simp [zB,zd]
theorem zdm{rr:List (Int × Int)}{k:Nat}{l o:Int}(h:rr[k]?=some (l,o)):zB rr (k+1)=zB rr k+l.toNat:=by
  unfold zB
  rw[zcF h,List.length_append,List.length_replicate]
theorem zlu{rr:List (Int × Int)}{k:Nat}(h:rr.length<=k):zB rr k=(zd rr).length:=by
  unfold zB;rw[List.take_of_length_le h]
theorem zdC(rr:List (Int × Int))(k n:Nat):zd rr=zd (rr.take k)++ zd ((rr.drop k).take n)++ zd (rr.drop (k+n)):=by
  rw[<-zk,<-zk]
  congr 1
  rw[List.append_assoc,<-List.drop_drop,List.take_append_drop,List.take_append_drop]
theorem zg1(rr:List (Int × Int))(k n:Nat):zB rr (k+n)=zB rr k+(zd ((rr.drop k).take n)).length:=by
  unfold zB
  rw[List.take_add,zk,List.length_append]
theorem zfP(rr:List (Int × Int))(k:Nat):zB rr k<=(zd rr).length:=by
  have h:=zdC rr k 0
  have:=congrArg List.length h
  rw[List.length_append,List.length_append]at this
  unfold zB
  omega
theorem zlv{α:Type}(x y z:List α)(f t:Nat)(h1:x.length<=f)(h2:x.length<=t)(h3:t<=x.length+y.length):(y.take (t - x.length)).drop (f - x.length)=((x++ y++ z).take t).drop f:=by
  have e1:(x++ y++ z).take t=x++ y.take (t - x.length):=by
    rw[List.append_assoc,List.take_append,List.take_of_length_le h2,List.take_append,show t - x.length - y.length=0 by omega,List.take_zero,List.append_nil]
  have e2:x.drop f=[]:=List.drop_of_length_le h1
  rw[e1,List.drop_append,e2,List.nil_append]
theorem zns{n:Nat}{rs:List (Int × Int)}(hg:Good rs)(h:(zd rs).length<=n):pre n rs=zd rs:=by
  induction rs using zbw with
  | nil=>rfl
  | append_singleton rs r ih=>
    have hr:=hg r (by simp)
    rw[zk,List.length_append]at h
    have h1:(zd [r]).length=r.1.toNat:=by simp [zd]
    rw[zbp,ih (fun x hx=>hg x (by simp [hx])) (by omega),zk,show min r.1.toNat (n - (zd rs).length)=r.1.toNat by omega,zfq hr.2.1 hr.2.2]
    simp [zd]
theorem zg2{n:Nat}{rs:List (Int × Int)}(hg:Good rs)(h:(zd rs).length=n):zF n rs=zd rs:=by
  unfold zF
  rw[zns hg (by omega),h]
  simp
theorem zjM{w:World}{B:Nat}{A:Option Addr}{a b:List (Int × Int)}(h:Lies w B A (zc (a++ b))):Lies w B A (zc a):=by
  intro j u hu
  refine h j u ?_
  rw[zQ,List.getElem?_append_left (List.getElem?_eq_some_iff.1 hu).1]
  exact hu
theorem zlw{w:World}{B:Nat}{ad:Addr}{x:Int × Int}{l:List (Int × Int)}(h:Lies w B (some ad) (zc (x::l))):Lies w B (some (ad.add 2)) (zc l):=by
  intro j u hu
  obtain⟨ad',e,hb,hc⟩:=h (2+j) u (by rw[show 2+j=j+1+1 by omega];exact hu)
  injection e with e
  subst e
  exact⟨_,rfl,by rw[zU];exact hb,by rw[zcN];exact hc⟩
theorem Moved.drewN{S:Nat->Prop}{a w:World}(h:Moved S a w)(n:Nat):Moved S a (w.drewN n):=⟨h.os,h.tape,h.output,h.size,h.block⟩
theorem zfQ(ad:Addr):ad.add 2=⟨ad.block,ad.off+2,none⟩:=by unfold Addr.add;rw[if_neg (by omega)]
theorem zlx(ad:Addr):ad.add (0 * 2)=ad:=by unfold Addr.add;rfl
theorem Moved.setNew{S:Nat->Prop}{a w:World}(h:Moved S a w){p:Addr}(hp:a.heap.size<=p.block)(u:Value):Moved S a (w.setCell p u):=
  ⟨h.os,h.tape,h.output,by have:=h.size;simpa [World.setCell]using this,fun k hk hs=>(Below.heap_setCell w p u k (by omega)).trans (h.block k hk hs)⟩
def zoW(rr:List (Int × Int))(k:Nat)(n e:Value):Prop:=
  ∃ j:Nat,k+j<=rr.length/\n=.int .i64 (j:Int)/\e=.int .i64 (zB rr (k+j):Int)
end Go.Proofs.YtddgabjhligeeaaGreat.mk
