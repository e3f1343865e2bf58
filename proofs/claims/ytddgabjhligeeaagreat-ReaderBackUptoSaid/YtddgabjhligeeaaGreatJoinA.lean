import Derived.Test.YtddgabjhligeeaaGreatRows
import GoSem.Core.Utf8
import Derived.Lib.Index
import Derived.JoinedCond
namespace Go.Proofs.YtddgabjhligeeaaGreat.mk
theorem zlA{α:Type _}(l:List α)(i:Nat)(a:α):l.toArray.setIfInBounds i a=(l.set i a).toArray:=List.setIfInBounds_toArray ..
theorem zlB{α:Type _}{x a:α}{l:List α}:(x::l).set 0 a=a::l:=rfl
theorem zlC{α:Type _}{x a:α}{l:List α}{n:Nat}:(x::l).set (n+1) a=x::l.set n a:=rfl
theorem zlD{α:Type _}{l:List α}{i:Nat}:l.toArray[i]?=l[i]?:=List.getElem?_toArray ..
theorem zlE{α:Type _}{x:α}{l:List α}:(x::l)[0]?=some x:=rfl
theorem zlF{α:Type _}{x:α}{l:List α}{n:Nat}:(x::l)[n+1]?=l[n]?:=rfl
def zaq(o:Int):Int:=min (max o 0) 65536
theorem zhI(o:Int):0<=zaq o:=by unfold zaq;omega
theorem zhJ(o:Int):zaq o<=65536:=by unfold zaq;omega
theorem zhK{o:Int}(h0:0<=o)(h1:o<=65536):zaq o=o:=by unfold zaq;omega
def zbP(rs:List (Int × Int))(n o:Int):List (Int × Int):=
  if n < 1 then rs else
    match rs.getLast? with
    | some (l,p)=>if p=o then rs.dropLast++ [(l+n,o)] else rs++ [(n,o)]
    | none=>[(n,o)]
theorem za4{rs:List (Int × Int)}{n o:Int}(h:n < 1):zbP rs n o=rs:=by unfold zbP;rw[if_pos h]
theorem zbb{n o:Int}(h:¬ n < 1):zbP [] n o=[(n,o)]:=by unfold zbP;rw[if_neg h];rfl
theorem zar{rs:List (Int × Int)}{l n o:Int}(h:¬ n < 1):zbP (rs++ [(l,o)]) n o=rs++ [(l+n,o)]:=by
  unfold zbP;rw[if_neg h];simp
theorem zaz{rs:List (Int × Int)}{l p n o:Int}(h:¬ n < 1)(hp:p≠o):zbP (rs++ [(l,p)]) n o=rs++ [(l,p)]++ [(n,o)]:=by
  unfold zbP;rw[if_neg h];simp [hp]
theorem za5{α:Type}(l:List α):l=[]\/∃ r x,l=r++ [x]:=by
  rcases List.eq_nil_or_concat l with h | ⟨r,x,h⟩
  . exact .inl h
  . exact .inr ⟨r,x,by simpa using h⟩
theorem za1{α:Type}{p:List α->Prop}(nil:p [])(append_singleton:∀ l x,p l->p (l++ [x]))(l:List α):p l:=by
  have h:∀ m:List α,p m.reverse:=by
    intro m
    induction m with
    | nil=>simpa using nil
    | cons x m ih=>rw[List.reverse_cons];exact append_singleton _ _ ih
  simpa using h l.reverse
theorem zj6(rs:List (Int × Int))(m n o:Int)(hm:0<=m)(hn:0<=n):zbP (zbP rs m o) n o=zbP rs (m+n) o:=by
  by_cases h1:m < 1
  . rw[za4 h1];congr 1;omega
  by_cases h2:n < 1
  . rw[za4 h2];congr 1;omega
  have h3:¬ m+n < 1:=by omega
  rcases za5 rs with rfl | ⟨r,⟨l,p⟩,rfl⟩
  . rw[zbb h1,zbb h3];exact zar (rs:=[]) h2
  . by_cases hp:p=o
    . subst hp;rw[zar h1,zar h2,zar h3,Int.add_assoc]
    . rw[zaz h1 hp,zar h2,zaz h3 hp]
def comp(l:List Int):List (Int × Int):=l.foldl (fun rs o=>zbP rs 1 o) []
theorem zdM(l:List Int)(o:Int):comp (l++ [o])=zbP (comp l) 1 o:=by simp [comp,List.foldl_append]
theorem zcd(l:List Int)(n:Nat)(o:Int):comp (l++ List.replicate n o)=zbP (comp l) n o:=by
  induction n with
  | zero=>simp [zbP]
  | succ n ih=>
    rw[List.replicate_succ',<-List.append_assoc,zdM,ih,zj6 _ _ _ _ (by omega) (by omega)]
    congr 1
theorem zgY(l:List Int)(n o:Int):zbP (comp l) n o=comp (l++ List.replicate n.toNat o):=by
  rw[zcd]
  by_cases h:n < 1
  . rw[za4 h,za4 (by omega)]
  . congr 1;omega
theorem zE(l:List Int):(comp l).length<=l.length:=by
  induction l using za1 with
  | nil=>simp [comp]
  | append_singleton l o ih=>
    rw[zdM]
    rcases za5 (comp l)with h | ⟨r,⟨m,p⟩,h⟩
    . rw[h,zbb (by omega)];simp
    . by_cases hp:p=o
      . subst hp;rw[h,zar (by omega)];rw[h]at ih;simp at ih ⊢;omega
      . rw[h,zaz (by omega) hp];rw[h]at ih;simp at ih ⊢;omega
theorem zbc(l:List Int):∀ r∈comp l,1<=r.1:=by
  induction l using za1 with
  | nil=>simp [comp]
  | append_singleton l o ih=>
    rw[zdM]
    rcases za5 (comp l)with h | ⟨r,⟨m,p⟩,h⟩
    . rw[h,zbb (by omega)];simp
    . have hm:1<=m:=ih (m,p) (by rw[h];simp)
      by_cases hp:p=o
      . subst hp;rw[h,zar (by omega)]
        intro q hq
        simp only[List.mem_append,List.mem_singleton]at hq
        rcases hq with hq | hq
        . exact ih q (by rw[h];simp [hq])
        . subst hq;show 1<=m+1;omega
      . rw[h,zaz (by omega) hp]
        intro q hq
        simp only[List.mem_append,List.mem_singleton]at hq
        rcases hq with hq | hq
        . exact ih q (by rw[h];simpa using hq)
        . subst hq;show(1:Int)<=1;omega
def ze(rs:List (Int × Int)):List Int:=rs.flatMap fun r=>List.replicate r.1.toNat r.2
theorem zl(a b:List (Int × Int)):ze (a++ b)=ze a++ ze b:=by simp [ze]
theorem ziC(rs:List (Int × Int))(n o:Int)(hpos:∀ r∈rs,1<=r.1):ze (zbP rs n o)=ze rs++ List.replicate n.toNat o:=by
  by_cases h:n < 1
  . rw[za4 h,show n.toNat=0 by omega];simp
  rcases za5 rs with rfl | ⟨r,⟨m,p⟩,rfl⟩
  . rw[zbb h];simp [ze]
  . have hm:1<=m:=hpos (m,p) (by simp)
    by_cases hp:p=o
    . subst hp;rw[zar h,zl,zl]
      simp only[ze,List.flatMap_cons,List.flatMap_nil,List.append_nil,List.append_assoc,List.replicate_append_replicate]
      congr 2;omega
    . rw[zaz h hp,zl];simp [ze]
theorem zU(l:List Int):ze (comp l)=l:=by
  induction l using za1 with
  | nil=>rfl
  | append_singleton l o ih=>rw[zdM,ziC _ _ _ (zbc l),ih];rfl
theorem zqC{a b:List Int}(h:comp a=comp b):a=b:=by rw[<-zU a,h,zU]
theorem zfD(l:List Int):∀ r∈comp l,r.1<=l.length:=by
  intro r hr
  have h:(ze (comp l)).length=l.length:=by rw[zU]
  obtain⟨a,b,e⟩:=List.append_of_mem hr
  rw[e,zl]at h
  simp [ze]at h
  omega
def pre(n:Nat)(rs:List (Int × Int)):List Int:=rs.foldl (fun acc r=>acc++ List.replicate (min r.1.toNat (n - acc.length)) (zaq r.2)) []
theorem zcD(n:Nat)(rs:List (Int × Int))(r:Int × Int):pre n (rs++ [r])=pre n rs++ List.replicate (min r.1.toNat (n - (pre n rs).length)) (zaq r.2):=by
  simp [pre,List.foldl_append]
theorem zdN(n:Nat)(rs:List (Int × Int)):(pre n rs).length<=n:=by
  induction rs using za1 with
  | nil=>simp [pre]
  | append_singleton rs r ih=>rw[zcD];simp;omega
def zN(n:Nat)(rs:List (Int × Int)):List Int:=pre n rs++ List.replicate (n - (pre n rs).length) 65536
theorem zF(n:Nat)(rs:List (Int × Int)):(zN n rs).length=n:=by
  have:=zdN n rs
  simp [zN];omega
theorem zuh(n:Nat)(rs:List (Int × Int)):∀ o∈pre n rs,0<=o/\o<=65536:=by
  induction rs using za1 with
  | nil=>simp [pre]
  | append_singleton rs r ih=>
    rw[zcD]
    intro o ho
    rcases List.mem_append.1 ho with ho | ho
    . exact ih o ho
    . rw[(List.mem_replicate.1 ho).2];exact⟨zhI _,zhJ _⟩
theorem zdf(n:Nat)(rs:List (Int × Int)):∀ o∈zN n rs,0<=o/\o<=65536:=by
  intro o ho
  rcases List.mem_append.1 ho with ho | ho
  . exact zuh n rs o ho
  . rw[(List.mem_replicate.1 ho).2];omega
def zal(n:Nat)(rs:List (Int × Int)):List (Int × Int):=comp (zN n rs)
def zd(rs:List (Int × Int)):List Value:=rs.flatMap fun r=>[.int .i64 r.1,.int .i64 r.2]
theorem zaw(rs:List (Int × Int)):(zd rs).length=rs.length * 2:=by
  induction rs with
  | nil=>rfl
  | cons r rs ih=>simp only[zd,List.flatMap_cons,List.length_append,List.length_cons,List.length_nil]at ih ⊢;omega
theorem zaf(a b:List (Int × Int)):zd (a++ b)=zd a++ zd b:=by simp [zd]
theorem ziD(n o:Int):zd [(n,o)]=[.int .i64 n,.int .i64 o]:=rfl
theorem zbA(rs:List (Int × Int))(k:Nat)(h:k < rs.length):(zd rs)[k * 2]?=some (.int .i64 (rs.getD k (0,0)).1):=by
  have e:rs=rs.take k++ (rs.getD k (0,0)::rs.drop (k+1)):=by
    conv=>lhs;rw[<-List.take_append_drop k rs]
    rw[List.drop_eq_getElem_cons h];simp [List.getD,List.getElem?_eq_getElem h]
  have hl:(zd (rs.take k)).length=k * 2:=by rw[zaw,List.length_take];omega
  have e2:=congrArg zd e
  rw[zaf]at e2
  rw[e2,List.getElem?_append_right (by omega),hl]
  simp [zd]
theorem zay(rs:List (Int × Int))(k:Nat)(h:k < rs.length):(zd rs)[k * 2+1]?=some (.int .i64 (rs.getD k (0,0)).2):=by
  have e:rs=rs.take k++ (rs.getD k (0,0)::rs.drop (k+1)):=by
    conv=>lhs;rw[<-List.take_append_drop k rs]
    rw[List.drop_eq_getElem_cons h];simp [List.getD,List.getElem?_eq_getElem h]
  have hl:(zd (rs.take k)).length=k * 2:=by rw[zaw,List.length_take];omega
  have e2:=congrArg zd e
  rw[zaf]at e2
  rw[e2,List.getElem?_append_right (by omega),hl,show k * 2+1 - k * 2=1 by omega]
  simp [zd]
theorem zhL(rs:List (Int × Int)):∀ u∈zd rs,u.oneCell'=true:=by
  intro u hu
  simp only[zd,List.mem_flatMap,List.mem_cons,List.not_mem_nil,or_false]at hu
  obtain⟨r,_,h | h⟩:=hu<;>subst h<;>rfl
def chars(s:List UInt8)(rs:List (Int × Int)):List (UInt8 × Int):=s.zip (zN s.length rs)
theorem zbQ(s:List UInt8)(rs:List (Int × Int)):(chars s rs).map (·.1)=s:=by
  unfold chars;rw[List.map_fst_zip];rw[zF];exact Nat.le_refl _
theorem zbB(s:List UInt8)(rs:List (Int × Int)):(chars s rs).map (·.2)=zN s.length rs:=by
  unfold chars;rw[List.map_snd_zip];rw[zF];exact Nat.le_refl _
theorem zbC(s:List UInt8)(rs:List (Int × Int)):(chars s rs).length=s.length:=by
  unfold chars;rw[List.length_zip,zF];omega
theorem ziE{a b:List (UInt8 × Int)}(h1:a.map (·.1)=b.map (·.1))(h2:a.map (·.2)=b.map (·.2)):a=b:=by
  induction a generalizing b with
  | nil=>cases b with
    | nil=>rfl
    | cons y b=>simp at h1
  | cons x a ih=>cases b with
    | nil=>simp at h1
    | cons y b=>
      simp only[List.map_cons,List.cons.injEq]at h1 h2
      rw[ih h1.2 h2.2,Prod.ext h1.1 h2.1]
def shp(n:Nat):Nat × Nat × Nat:=
  if n < 128 then (1,0,0) else if n < 194 then (0,0,0) else if n < 224 then (2,128,191) else if n=224 then (3,160,191) else if n=237 then (3,128,159) else
  if n < 240 then (3,128,191) else if n=240 then (4,144,191) else if n < 244 then (4,128,191) else if n=244 then (4,128,143) else (0,0,0)
theorem zsv(n:Nat):(shp n).1<=4/\(shp n).2.1<=160/\(shp n).2.2<=191:=by
  generalize hq:shp n=q
  unfold shp at hq
  iterate 9 (split at hq;· subst hq;decide)
  subst hq
  decide
def fit:Nat->Nat->Nat->List UInt8->Nat
  | 0,_,_,_=>0
  | _+1,_,_,[]=>0
  | m+1,lo,hi,c::t=>if lo<=c.toNat/\c.toNat<=hi then fit m 128 191 t+1 else 0
theorem zsw(m lo hi:Nat)(t:List UInt8):fit m lo hi t<=m/\fit m lo hi t<=t.length:=by
  induction t generalizing m lo hi with
  | nil=>cases m<;>simp [fit]
  | cons c t ih=>
    cases m with
    | zero=>simp [fit]
    | succ m=>
      unfold fit
      split
      . have:=ih m 128 191;simp;omega
      . simp
theorem zqD(m lo hi:Nat)(t u:List UInt8)(h:fit m lo hi t=m):fit m lo hi (t.take m++ u)=m:=by
  induction t generalizing m lo hi with
  | nil=>cases m with
    | zero=>simp [fit]
    | succ m=>simp [fit]at h
  | cons c t ih=>
    cases m with
    | zero=>simp [fit]
    | succ m=>
      unfold fit at h
      split at h
      . rename_i hc
        simp only[List.take_succ_cons,List.cons_append]
        unfold fit
        rw[if_pos hc,ih m 128 191 (by omega)]
      . omega
theorem zqE{m lo hi:Nat}{t:List UInt8}{c:UInt8}(h:t.head?=some c)(hc:lo<=c.toNat/\c.toNat<=hi):fit (m+1) lo hi t=fit m 128 191 (t.drop 1)+1:=by
  cases t with
  | nil=>simp at h
  | cons x t=>simp at h;subst h;simp only[List.drop_succ_cons,List.drop_zero];rw[fit,if_pos hc]
theorem zqF{m lo hi:Nat}{t:List UInt8}{c:UInt8}(h:t.head?=some c)(hc:¬ (lo<=c.toNat/\c.toNat<=hi)):fit m lo hi t=0:=by
  cases t with
  | nil=>simp at h
  | cons x t=>simp at h;subst h;cases m with
    | zero=>rfl
    | succ m=>rw[fit,if_neg hc]
theorem zsM(m lo hi:Nat):fit m lo hi []=0:=by cases m<;>rfl
def nx:List UInt8->Nat × Bool
  | []=>(0,false)
  | b::t=>(fit ((shp b.toNat).1 - 1) (shp b.toNat).2.1 (shp b.toNat).2.2 t+1,decide (fit ((shp b.toNat).1 - 1) (shp b.toNat).2.1 (shp b.toNat).2.2 t+1=(shp b.toNat).1))
theorem zfi{l:List UInt8}(h:l≠[]):1<=(nx l).1/\(nx l).1<=l.length:=by
  cases l with
  | nil=>exact absurd rfl h
  | cons b t=>
    have:=zsw ((shp b.toNat).1 - 1) (shp b.toNat).2.1 (shp b.toNat).2.2 t
    simp only[nx,List.length_cons]
    omega
theorem zsx(l:List UInt8):(nx l).1<=4:=by
  cases l with
  | nil=>simp [nx]
  | cons b t=>
    have:=zsw ((shp b.toNat).1 - 1) (shp b.toNat).2.1 (shp b.toNat).2.2 t
    have:=zsv b.toNat
    simp only[nx]
    omega
theorem zlb{l:List UInt8}(h:(nx l).2=true)(u:List UInt8):nx (l.take (nx l).1++ u)=nx l:=by
  cases l with
  | nil=>simp [nx]at h
  | cons b t=>
    simp only[nx,decide_eq_true_eq]at h
    have e:fit ((shp b.toNat).1 - 1) (shp b.toNat).2.1 (shp b.toNat).2.2 t=(shp b.toNat).1 - 1:=by omega
    have hf:=zqD _ _ _ t u e
    have hn:(nx (b::t)).1=(shp b.toNat).1 - 1+1:=by simp only[nx,e]
    rw[hn,List.take_succ_cons,List.cons_append]
    simp only[nx,hf,e]
theorem zj7{p:List UInt8->Prop}(nil:p [])(next:∀ l,l≠[]->p (l.drop (nx l).1)->p l)(l:List UInt8):p l:=by
  have h:∀ n,∀ l:List UInt8,l.length<=n->p l:=by
    intro n
    induction n with
    | zero=>intro l hl;have e:l=[]:=List.eq_nil_of_length_eq_zero (by omega);subst e;exact nil
    | succ n ih=>
      intro l hl
      by_cases e:l=[]
      . subst e;exact nil
      . exact next l e (ih _ (by have:=zfi e;rw[List.length_drop];omega))
  exact h l.length l (Nat.le_refl _)
def zac(l:List UInt8):Bool:=!(nx l).2 || (l.head? == some 0)
def fr(l:List UInt8):Nat × Nat:=if _h:l=[] then (0,0) else if zac l then (0,(nx l).1) else ((nx l).1+(fr (l.drop (nx l).1)).1,(fr (l.drop (nx l).1)).2)
termination_by l.length
decreasing_by all_goals (have:=zfi _h;have:0 < l.length:=List.length_pos_iff.2 _h;rw[List.length_drop];omega)
theorem zlc:fr []=(0,0):=by rw[fr];rfl
theorem zfE{l:List UInt8}(h:l≠[])(hs:zac l=true):fr l=(0,(nx l).1):=by rw[fr,dif_neg h,if_pos hs]
theorem zfF{l:List UInt8}(h:l≠[])(hs:zac l=false):fr l=((nx l).1+(fr (l.drop (nx l).1)).1,(fr (l.drop (nx l).1)).2):=by
  conv=>lhs;rw[fr,dif_neg h,if_neg (by rw[hs];decide)]
theorem zui(l:List UInt8):(fr l).1+(fr l).2<=l.length/\((fr l).2=0->(fr l).1=l.length)/\(fr l).2<=4:=by
  induction l using zj7 with
  | nil=>rw[zlc];simp
  | next l h ih=>
    have hb:=zfi h
    have h4:=zsx l
    cases hs:zac l with
    | true=>rw[zfE h hs];simp only;omega
    | false=>rw[zfF h hs];rw[List.length_drop]at ih;simp only;omega
def zai(l:List UInt8):Bool:=(fr l).2 == 0
theorem zek:zai []=true:=by unfold zai;rw[zlc];rfl
theorem zbn{l:List UInt8}(h:l≠[]):zai l=(!zac l && zai (l.drop (nx l).1)):=by
  unfold zai
  have hb:=zfi h
  cases hs:zac l with
  | true=>rw[zfE h hs];simp;omega
  | false=>rw[zfF h hs];simp
def badB:List UInt8:=[239,191,189]
theorem zhM{l:List UInt8}(h:(nx l).2=true):l.take (nx l).1=[0]↔l.head?=some 0:=by
  cases l with
  | nil=>simp [nx]at h
  | cons b t=>
    have hb:=zfi (l:=b::t) (by simp)
    constructor
    . intro e
      have:=congrArg List.head? e
      rw[List.head?_take,if_neg (by omega)]at this
      simpa using this
    . intro e
      simp at e
      subst e
      rfl
def atN(m:Nat)(f:Int):Nat:=(min (max f 0) (m:Int)).toNat
def zfj(l p:List UInt8)(f:Int):Int:=
  if Lib.index (l.drop (atN l.length f)) p < 0 then -1 else (atN l.length f:Int)+Lib.index (l.drop (atN l.length f)) p
theorem zqG(l p:List UInt8):Lib.index l p<=l.length:=by
  induction l with
  | nil=>unfold Lib.index;split<;>simp
  | cons b l ih=>
    unfold Lib.index
    split
    . simp;omega
    . split
      . simp;omega
      . simp;omega
def zbR(f:UInt8->UInt8)(l p:List UInt8):Bool:=decide (p.length<=l.length) && ((l.map f).take p.length == p.map f)
def zbd(l:List UInt8)(p:UInt8->Bool):Nat:=(l.takeWhile p).length
theorem zel{l:List UInt8}{p:UInt8->Bool}{k:Nat}{x:UInt8}(h:∀ y∈l.take k,p y=true)(hx:l[k]?=some x)(hp:p x=false):zbd l p=k:=by
  unfold zbd
  have hk:k < l.length:=(List.getElem?_eq_some_iff.1 hx).1
  have e:l=l.take k++ x::l.drop (k+1):=by
    conv=>lhs;rw[<-List.take_append_drop k l]
    rw[List.drop_eq_getElem_cons hk]
    rw[List.getElem?_eq_getElem hk]at hx
    injection hx with hx
    rw[hx]
  rw[e,List.takeWhile_append_of_pos h,List.takeWhile_cons_of_neg (by simp [hp]),List.append_nil,List.length_take]
  omega
theorem ziF{l:List UInt8}{p:UInt8->Bool}(h:∀ y∈l,p y=true):zbd l p=l.length:=by
  unfold zbd
  have:=List.takeWhile_append_of_pos (l₂:=[]) h
  simp at this
  rw[this]
def zsy{α:Type}(p:α->Bool)(l:List α):List (List α) × List α:=
  l.foldl (fun acc x=>if p x then (acc.1++ [acc.2],[]) else (acc.1,acc.2++ [x])) ([],[])
def parts{α:Type}(p:α->Bool)(l:List α):List (List α):=(zsy p l).1++ [(zsy p l).2]
end Go.Proofs.YtddgabjhligeeaaGreat.mk
namespace Go.Proofs.YtddgabjhligeeaaGreat.mk
open Go.ChangeShapes
section
variable {H : Type} {enc : TypeId × Value → H}
theorem zhN{a:Assume}{C:Checked}{os:Os}{f:FuncId}{fn:Func}{s:OpenSpec}{k:(H:Type)->List (DataW H)->Bool}(hk:s.cond=some k){F:Stop.Interp}{conds:List PathCond}{apart fresh handsOn again:Bool}
    (own:ownKnob C.prog.godebug=none) (started:os.Started) (noInit:C.prog.inits.idxOf? f=none) (hfn:C.prog.funcs[f]?=some fn)
    (witness:∃ (w:World) (tape:Tape) (i:Input),w.os=os/\(w.forCall tape i).Shaped C.prog/\i.vars=[]/\Input.okWide C.prog (w.forCall tape i) .any w.heap.size f i/\
      s.pre6 enc C.prog fn conds apart (w.forCall tape i).memory i.args/\a.holds C.prog (lone (Frame.enter C.prog f i.args .normal) [] (w.forCall tape i)))
    (contract:∀ (W:World) (base:Nat) (args:Array Value) (ds gs:List (DataW H)) (before:List MemPlace),W.ShapedOpen C.prog->
      (∀ (j:Nat) t v,fn.params[j]?=some t->args[j]?=some v->Value.okWide C.prog W .any base t v)->
      DataW.Whole enc C.prog fn.params.toList s.vars apart W args.toList ds gs before->k H (ds++ gs)=true->
      Calls C.prog f args W fun e W'=>∃ v,e=.returned v/\(s.at F).post enc C.prog fn apart fresh handsOn again W args v W') :
    ReturnsInHanded a C os f .any (s.pre6 enc C.prog fn conds apart) ((s.at F).post enc C.prog fn apart fresh handsOn again):=by
  refine returnsInHanded_of_calls own started noInit witness ?_
  intro w tape i _ hsh _ hok hpre _
  obtain⟨_,_,_,fn2,hfn2,_,_,_,_,hval⟩:=hok
  obtain rfl:fn2=fn:=Option.some.inj (hfn2.symm.trans hfn)
  obtain⟨ds,gs,before,hw,_,hkk⟩:=(OpenSpec.pre_some hk conds apart _ _).1 hpre.1
  refine(contract (w.forCall tape i) w.heap.size i.args ds gs before hsh hval (DataW.Whole.of_heap (w':=w.forCall tape i) (by rfl) hw) hkk).mono fun e W' ⟨v,he,hp⟩=>?_
  subst he
  exact ChangeSpec.post_blind hp
end
end Go.Proofs.YtddgabjhligeeaaGreat.mk
