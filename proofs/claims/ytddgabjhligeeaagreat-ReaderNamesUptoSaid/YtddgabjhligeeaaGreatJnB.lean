import Derived.Test.YtddgabjhligeeaaGreatJnA
import GoSem.Core.Utf8
namespace Go.Proofs.YtddgabjhligeeaaGreat.mk
def shp(n:Nat):Nat × Nat × Nat:=
  if n < 128 then (1,0,0) else if n < 194 then (0,0,0) else if n < 224 then (2,128,191) else if n=224 then (3,160,191) else if n=237 then (3,128,159) else
  if n < 240 then (3,128,191) else if n=240 then (4,144,191) else if n < 244 then (4,128,191) else if n=244 then (4,128,143) else (0,0,0)
theorem znU(n:Nat):(shp n).1<=4/\(shp n).2.1<=160/\(shp n).2.2<=191:=by
  generalize hq:shp n=q
  unfold shp at hq
  iterate 9 (split at hq;· subst hq;decide)
  subst hq
  decide
def fit:Nat->Nat->Nat->List UInt8->Nat
  | 0,_,_,_=>0
  | _+1,_,_,[]=>0
  | m+1,lo,hi,c::t=>if lo<=c.toNat/\c.toNat<=hi then fit m 128 191 t+1 else 0
theorem znV(m lo hi:Nat)(t:List UInt8):fit m lo hi t<=m/\fit m lo hi t<=t.length:=by
  induction t generalizing m lo hi with
  | nil=>cases m<;>simp [fit]
  | cons c t ih=>
    cases m with
    | zero=>simp [fit]
    | succ m=>
      unfold fit
      split
      . have:=ih m 128 191;simp;omega
      . simp
theorem zmw{m lo hi:Nat}{t:List UInt8}{c:UInt8}(h:t.head?=some c)(hc:lo<=c.toNat/\c.toNat<=hi):fit (m+1) lo hi t=fit m 128 191 (t.drop 1)+1:=by
  cases t with
  | nil=>simp at h
  | cons x t=>simp at h;subst h;simp only[List.drop_succ_cons,List.drop_zero];rw[fit,if_pos hc]
theorem zmx{m lo hi:Nat}{t:List UInt8}{c:UInt8}(h:t.head?=some c)(hc:¬ (lo<=c.toNat/\c.toNat<=hi)):fit m lo hi t=0:=by
  cases t with
  | nil=>simp at h
  | cons x t=>simp at h;subst h;cases m with
    | zero=>rfl
    | succ m=>rw[fit,if_neg hc]
theorem zob(m lo hi:Nat):fit m lo hi []=0:=by cases m<;>rfl
def nx:List UInt8->Nat × Bool
  | []=>(0,false)
  | b::t=>(fit ((shp b.toNat).1 - 1) (shp b.toNat).2.1 (shp b.toNat).2.2 t+1,decide (fit ((shp b.toNat).1 - 1) (shp b.toNat).2.1 (shp b.toNat).2.2 t+1=(shp b.toNat).1))
theorem zeE{l:List UInt8}(h:l≠[]):1<=(nx l).1/\(nx l).1<=l.length:=by
  cases l with
  | nil=>exact absurd rfl h
  | cons b t=>
    have:=znV ((shp b.toNat).1 - 1) (shp b.toNat).2.1 (shp b.toNat).2.2 t
    simp only[nx,List.length_cons]
    omega
theorem znW(l:List UInt8):(nx l).1<=4:=by
  cases l with
  | nil=>simp [nx]
  | cons b t=>
    have:=znV ((shp b.toNat).1 - 1) (shp b.toNat).2.1 (shp b.toNat).2.2 t
    have:=znU b.toNat
    simp only[nx]
    omega
theorem zoc{p:List UInt8->Prop}(nil:p [])(next:∀ l,l≠[]->p (l.drop (nx l).1)->p l)(l:List UInt8):p l:=by
  have h:∀ n,∀ l:List UInt8,l.length<=n->p l:=by
    intro n
    induction n with
    | zero=>intro l hl;have e:l=[]:=List.eq_nil_of_length_eq_zero (by omega);subst e;exact nil
    | succ n ih=>
      intro l hl
      by_cases e:l=[]
      . subst e;exact nil
      . exact next l e (ih _ (by have:=zeE e;rw[List.length_drop];omega))
  exact h l.length l (Nat.le_refl _)
def zaj(l:List UInt8):Bool:=!(nx l).2 || (l.head? == some 0)
def fr(l:List UInt8):Nat × Nat:=if _h:l=[] then (0,0) else if zaj l then (0,(nx l).1) else ((nx l).1+(fr (l.drop (nx l).1)).1,(fr (l.drop (nx l).1)).2)
termination_by l.length
decreasing_by all_goals (have:=zeE _h;have:0 < l.length:=List.length_pos_iff.2 _h;rw[List.length_drop];omega)
theorem zih:fr []=(0,0):=by rw[fr];rfl
theorem zdS{l:List UInt8}(h:l≠[])(hs:zaj l=true):fr l=(0,(nx l).1):=by rw[fr,dif_neg h,if_pos hs]
theorem zdT{l:List UInt8}(h:l≠[])(hs:zaj l=false):fr l=((nx l).1+(fr (l.drop (nx l).1)).1,(fr (l.drop (nx l).1)).2):=by
  conv=>lhs;rw[fr,dif_neg h,if_neg (by rw[hs];decide)]
theorem fr_bd(l:List UInt8):(fr l).1+(fr l).2<=l.length/\((fr l).2=0->(fr l).1=l.length)/\(fr l).2<=4:=by
  induction l using zoc with
  | nil=>rw[zih];simp
  | next l h ih=>
    have hb:=zeE h
    have h4:=znW l
    cases hs:zaj l with
    | true=>rw[zdS h hs];simp only;omega
    | false=>rw[zdT h hs];rw[List.length_drop]at ih;simp only;omega
def zb5(l:List UInt8):Bool:=(fr l).2 == 0
theorem zi7:zb5 []=true:=by unfold zb5;rw[zih];rfl
theorem zdU{l:List UInt8}(h:l≠[]):zb5 l=(!zaj l && zb5 (l.drop (nx l).1)):=by
  unfold zb5
  have hb:=zeE h
  cases hs:zaj l with
  | true=>rw[zdS h hs];simp;omega
  | false=>rw[zdT h hs];simp
def badB:List UInt8:=[239,191,189]
theorem zft{l:List UInt8}(h:(nx l).2=true):l.take (nx l).1=[0]↔l.head?=some 0:=by
  cases l with
  | nil=>simp [nx]at h
  | cons b t=>
    have hb:=zeE (l:=b::t) (by simp)
    constructor
    . intro e
      have:=congrArg List.head? e
      rw[List.head?_take,if_neg (by omega)]at this
      simpa using this
    . intro e
      simp at e
      subst e
      rfl
end Go.Proofs.YtddgabjhligeeaaGreat.mk
