import Derived.Test.YtddgabjhligeeaaGreatJnJ
import Derived.Test.YtddgabjhligeeaaGreatJnR
import Derived.Test.YtddgabjhligeeaaGreatJnY
namespace Go.Proofs.YtddgabjhligeeaaGreat.mk
open Go.RowKit
theorem zlJ{b:UInt8}(h0:1<=b.toNat)(h1:b.toNat < 128)(l:List UInt8):zb5 (b::l)=zb5 l:=by
  have hn:nx (b::l)=(1,true):=by
    have hs:shp b.toNat=(1,0,0):=by unfold shp;rw[if_pos h1]
    simp only[nx,hs]
    rfl
  have hs:zaj (b::l)=false:=by
    unfold zaj
    rw[hn]
    simp only[Bool.not_true,Bool.false_or,List.head?_cons]
    rw[beq_eq_false_iff_ne]
    intro h
    injection h with h
    subst h
    simp at h0
  rw[zdU (by simp),hs,hn]
  rfl
theorem zjS{l:List UInt8}(h:∀ b∈l,1<=b.toNat/\b.toNat < 128):zb5 l=true:=by
  induction l with
  | nil=>exact zi7
  | cons b l ih=>
    have hb:=h b (by simp)
    rw[zlJ hb.1 hb.2]
    exact ih fun c hc=>h c (List.mem_cons_of_mem _ hc)
end Go.Proofs.YtddgabjhligeeaaGreat.mk
