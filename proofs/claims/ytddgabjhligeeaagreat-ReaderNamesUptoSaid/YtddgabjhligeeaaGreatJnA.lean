import Derived.Test.YtddgabjhligeeaaGreatRows
import Derived.Lib.Index
import Derived.JoinedCond
namespace Go.Proofs.YtddgabjhligeeaaGreat.mk
theorem zlA{α:Type _}(l:List α)(i:Nat)(a:α):l.toArray.setIfInBounds i a=(l.set i a).toArray:=List.setIfInBounds_toArray ..
theorem zlB{α:Type _}{x a:α}{l:List α}:(x::l).set 0 a=a::l:=rfl
theorem zlC{α:Type _}{x a:α}{l:List α}{n:Nat}:(x::l).set (n+1) a=x::l.set n a:=rfl
theorem zlD{α:Type _}{l:List α}{i:Nat}:l.toArray[i]?=l[i]?:=List.getElem?_toArray ..
theorem zlE{α:Type _}{x:α}{l:List α}:(x::l)[0]?=some x:=rfl
theorem zlF{α:Type _}{x:α}{l:List α}{n:Nat}:(x::l)[n+1]?=l[n]?:=rfl
def zaa(o:Int):Int:=min (max o 0) 65536
theorem zfo(o:Int):0<=zaa o:=by unfold zaa;omega
theorem zfp(o:Int):zaa o<=65536:=by unfold zaa;omega
theorem zfq{o:Int}(h0:0<=o)(h1:o<=65536):zaa o=o:=by unfold zaa;omega
def zbg(rs:List (Int × Int))(n o:Int):List (Int × Int):=
  if n < 1 then rs else
    match rs.getLast? with
    | some (l,p)=>if p=o then rs.dropLast++ [(l+n,o)] else rs++ [(n,o)]
    | none=>[(n,o)]
theorem zaK{rs:List (Int × Int)}{n o:Int}(h:n < 1):zbg rs n o=rs:=by unfold zbg;rw[if_pos h]
theorem zaO{n o:Int}(h:¬ n < 1):zbg [] n o=[(n,o)]:=by unfold zbg;rw[if_neg h];rfl
theorem zab{rs:List (Int × Int)}{l n o:Int}(h:¬ n < 1):zbg (rs++ [(l,o)]) n o=rs++ [(l+n,o)]:=by
  unfold zbg;rw[if_neg h];simp
theorem zal{rs:List (Int × Int)}{l p n o:Int}(h:¬ n < 1)(hp:p≠o):zbg (rs++ [(l,p)]) n o=rs++ [(l,p)]++ [(n,o)]:=by
  unfold zbg;rw[if_neg h];simp [hp]
theorem zaL{α:Type}(l:List α):l=[]\/∃ r x,l=r++ [x]:=by
  rcases List.eq_nil_or_concat l with h | ⟨r,x,h⟩
  . exact .inl h
  . exact .inr ⟨r,x,by simpa using h⟩
theorem zbw{α:Type}{p:List α->Prop}(nil:p [])(append_singleton:∀ l x,p l->p (l++ [x]))(l:List α):p l:=by
  have h:∀ m:List α,p m.reverse:=by
    intro m
    induction m with
    | nil=>simpa using nil
    | cons x m ih=>rw[List.reverse_cons];exact append_singleton _ _ ih
  simpa using h l.reverse
theorem zhp(rs:List (Int × Int))(m n o:Int)(hm:0<=m)(hn:0<=n):zbg (zbg rs m o) n o=zbg rs (m+n) o:=by
  by_cases h1:m < 1
  . rw[zaK h1];congr 1;omega
  by_cases h2:n < 1
  . rw[zaK h2];congr 1;omega
  have h3:¬ m+n < 1:=by omega
  rcases zaL rs with rfl | ⟨r,⟨l,p⟩,rfl⟩
  . rw[zaO h1,zaO h3];exact zab (rs:=[]) h2
  . by_cases hp:p=o
    . subst hp;rw[zab h1,zab h2,zab h3,Int.add_assoc]
    . rw[zal h1 hp,zab h2,zal h3 hp]
def comp(l:List Int):List (Int × Int):=l.foldl (fun rs o=>zbg rs 1 o) []
theorem zcM(l:List Int)(o:Int):comp (l++ [o])=zbg (comp l) 1 o:=by simp [comp,List.foldl_append]
theorem zbx(l:List Int)(n:Nat)(o:Int):comp (l++ List.replicate n o)=zbg (comp l) n o:=by
  induction n with
  | zero=>simp [zbg]
  | succ n ih=>
    rw[List.replicate_succ',<-List.append_assoc,zcM,ih,zhp _ _ _ _ (by omega) (by omega)]
    congr 1
theorem zeR(l:List Int)(n o:Int):zbg (comp l) n o=comp (l++ List.replicate n.toNat o):=by
  rw[zbx]
  by_cases h:n < 1
  . rw[zaK h,zaK (by omega)]
  . congr 1;omega
theorem zD(l:List Int):(comp l).length<=l.length:=by
  induction l using zbw with
  | nil=>simp [comp]
  | append_singleton l o ih=>
    rw[zcM]
    rcases zaL (comp l)with h | ⟨r,⟨m,p⟩,h⟩
    . rw[h,zaO (by omega)];simp
    . by_cases hp:p=o
      . subst hp;rw[h,zab (by omega)];rw[h]at ih;simp at ih ⊢;omega
      . rw[h,zal (by omega) hp];rw[h]at ih;simp at ih ⊢;omega
theorem zaP(l:List Int):∀ r∈comp l,1<=r.1:=by
  induction l using zbw with
  | nil=>simp [comp]
  | append_singleton l o ih=>
    rw[zcM]
    rcases zaL (comp l)with h | ⟨r,⟨m,p⟩,h⟩
    . rw[h,zaO (by omega)];simp
    . have hm:1<=m:=ih (m,p) (by rw[h];simp)
      by_cases hp:p=o
      . subst hp;rw[h,zab (by omega)]
        intro q hq
        simp only[List.mem_append,List.mem_singleton]at hq
        rcases hq with hq | hq
        . exact ih q (by rw[h];simp [hq])
        . subst hq;show 1<=m+1;omega
      . rw[h,zal (by omega) hp]
        intro q hq
        simp only[List.mem_append,List.mem_singleton]at hq
        rcases hq with hq | hq
        . exact ih q (by rw[h];simpa using hq)
        . subst hq;show(1:Int)<=1;omega
def zd(rs:List (Int × Int)):List Int:=rs.flatMap fun r=>List.replicate r.1.toNat r.2
theorem zk(a b:List (Int × Int)):zd (a++ b)=zd a++ zd b:=by simp [zd]
theorem zgd(rs:List (Int × Int))(n o:Int)(hpos:∀ r∈rs,1<=r.1):zd (zbg rs n o)=zd rs++ List.replicate n.toNat o:=by
  by_cases h:n < 1
  . rw[zaK h,show n.toNat=0 by omega];simp
  rcases zaL rs with rfl | ⟨r,⟨m,p⟩,rfl⟩
  . rw[zaO h];simp [zd]
  . have hm:1<=m:=hpos (m,p) (by simp)
    by_cases hp:p=o
    . subst hp;rw[zab h,zk,zk]
      simp only[zd,List.flatMap_cons,List.flatMap_nil,List.append_nil,List.append_assoc,List.replicate_append_replicate]
      congr 2;omega
    . rw[zal h hp,zk];simp [zd]
theorem zM(l:List Int):zd (comp l)=l:=by
  induction l using zbw with
  | nil=>rfl
  | append_singleton l o ih=>rw[zcM,zgd _ _ _ (zaP l),ih];rfl
theorem zdR(l:List Int):∀ r∈comp l,r.1<=l.length:=by
  intro r hr
  have h:(zd (comp l)).length=l.length:=by rw[zM]
  obtain⟨a,b,e⟩:=List.append_of_mem hr
  rw[e,zk]at h
  simp [zd]at h
  omega
def pre(n:Nat)(rs:List (Int × Int)):List Int:=rs.foldl (fun acc r=>acc++ List.replicate (min r.1.toNat (n - acc.length)) (zaa r.2)) []
theorem zbp(n:Nat)(rs:List (Int × Int))(r:Int × Int):pre n (rs++ [r])=pre n rs++ List.replicate (min r.1.toNat (n - (pre n rs).length)) (zaa r.2):=by
  simp [pre,List.foldl_append]
theorem zbc(n:Nat)(rs:List (Int × Int)):(pre n rs).length<=n:=by
  induction rs using zbw with
  | nil=>simp [pre]
  | append_singleton rs r ih=>rw[zbp];simp;omega
def zF(n:Nat)(rs:List (Int × Int)):List Int:=pre n rs++ List.replicate (n - (pre n rs).length) 65536
theorem zC(n:Nat)(rs:List (Int × Int)):(zF n rs).length=n:=by
  have:=zbc n rs
  simp [zF];omega
theorem zpi(n:Nat)(rs:List (Int × Int)):∀ o∈pre n rs,0<=o/\o<=65536:=by
  induction rs using zbw with
  | nil=>simp [pre]
  | append_singleton rs r ih=>
    rw[zbp]
    intro o ho
    rcases List.mem_append.1 ho with ho | ho
    . exact ih o ho
    . rw[(List.mem_replicate.1 ho).2];exact⟨zfo _,zfp _⟩
theorem zco(n:Nat)(rs:List (Int × Int)):∀ o∈zF n rs,0<=o/\o<=65536:=by
  intro o ho
  rcases List.mem_append.1 ho with ho | ho
  . exact zpi n rs o ho
  . rw[(List.mem_replicate.1 ho).2];omega
def zan(n:Nat)(rs:List (Int × Int)):List (Int × Int):=comp (zF n rs)
def zc(rs:List (Int × Int)):List Value:=rs.flatMap fun r=>[.int .i64 r.1,.int .i64 r.2]
theorem zai(rs:List (Int × Int)):(zc rs).length=rs.length * 2:=by
  induction rs with
  | nil=>rfl
  | cons r rs ih=>simp only[zc,List.flatMap_cons,List.length_append,List.length_cons,List.length_nil]at ih ⊢;omega
theorem zQ(a b:List (Int × Int)):zc (a++ b)=zc a++ zc b:=by simp [zc]
theorem zge(n o:Int):zc [(n,o)]=[.int .i64 n,.int .i64 o]:=rfl
theorem za4(rs:List (Int × Int))(k:Nat)(h:k < rs.length):(zc rs)[k * 2]?=some (.int .i64 (rs.getD k (0,0)).1):=by
  have e:rs=rs.take k++ (rs.getD k (0,0)::rs.drop (k+1)):=by
    conv=>lhs;rw[<-List.take_append_drop k rs]
    rw[List.drop_eq_getElem_cons h];simp [List.getD,List.getElem?_eq_getElem h]
  have hl:(zc (rs.take k)).length=k * 2:=by rw[zai,List.length_take];omega
  have e2:=congrArg zc e
  rw[zQ]at e2
  rw[e2,List.getElem?_append_right (by omega),hl]
  simp [zc]
theorem zak(rs:List (Int × Int))(k:Nat)(h:k < rs.length):(zc rs)[k * 2+1]?=some (.int .i64 (rs.getD k (0,0)).2):=by
  have e:rs=rs.take k++ (rs.getD k (0,0)::rs.drop (k+1)):=by
    conv=>lhs;rw[<-List.take_append_drop k rs]
    rw[List.drop_eq_getElem_cons h];simp [List.getD,List.getElem?_eq_getElem h]
  have hl:(zc (rs.take k)).length=k * 2:=by rw[zai,List.length_take];omega
  have e2:=congrArg zc e
  rw[zQ]at e2
  rw[e2,List.getElem?_append_right (by omega),hl,show k * 2+1 - k * 2=1 by omega]
  simp [zc]
theorem zfr(rs:List (Int × Int)):∀ u∈zc rs,u.oneCell'=true:=by
  intro u hu
  simp only[zc,List.mem_flatMap,List.mem_cons,List.not_mem_nil,or_false]at hu
  obtain⟨r,_,h | h⟩:=hu<;>subst h<;>rfl
def zR(l:List (UInt8 × Int)):List Value:=l.flatMap fun c=>[.int .u8 c.1.toNat,.int .i64 c.2]
theorem zcA(l:List (UInt8 × Int)):(zR l).length=l.length * 2:=by
  induction l with
  | nil=>rfl
  | cons r l ih=>simp only[zR,List.flatMap_cons,List.length_append,List.length_cons,List.length_nil]at ih ⊢;omega
theorem zby(a b:List (UInt8 × Int)):zR (a++ b)=zR a++ zR b:=by simp [zR]
theorem zhq(l:List (UInt8 × Int))(k:Nat)(h:k < l.length):(zR l)[k * 2]?=some (.int .u8 (l.getD k (0,0)).1.toNat):=by
  have e:l=l.take k++ (l.getD k (0,0)::l.drop (k+1)):=by
    conv=>lhs;rw[<-List.take_append_drop k l]
    rw[List.drop_eq_getElem_cons h];simp [List.getD,List.getElem?_eq_getElem h]
  have hl:(zR (l.take k)).length=k * 2:=by rw[zcA,List.length_take];omega
  have e2:=congrArg zR e
  rw[zby]at e2
  rw[e2,List.getElem?_append_right (by omega),hl]
  simp [zR]
theorem zhr(l:List (UInt8 × Int))(k:Nat)(h:k < l.length):(zR l)[k * 2+1]?=some (.int .i64 (l.getD k (0,0)).2):=by
  have e:l=l.take k++ (l.getD k (0,0)::l.drop (k+1)):=by
    conv=>lhs;rw[<-List.take_append_drop k l]
    rw[List.drop_eq_getElem_cons h];simp [List.getD,List.getElem?_eq_getElem h]
  have hl:(zR (l.take k)).length=k * 2:=by rw[zcA,List.length_take];omega
  have e2:=congrArg zR e
  rw[zby]at e2
  rw[e2,List.getElem?_append_right (by omega),hl,show k * 2+1 - k * 2=1 by omega]
  simp [zR]
theorem zig(bs:List UInt8)(os:List Int)(b:UInt8)(o:Int)(h:bs[os.length]?=some b):bs.zip (os++ [o])=bs.zip os++ [(b,o)]:=by
  induction os generalizing bs with
  | nil=>cases bs with
    | nil=>simp at h
    | cons x bs=>simp at h;subst h;simp
  | cons y os ih=>cases bs with
    | nil=>simp at h
    | cons x bs=>simp only[List.cons_append,List.zip_cons_cons];rw[ih bs (by simpa using h)]
theorem zds(l:List (UInt8 × Int))(b:UInt8)(o:Int):zR (l++ [(b,o)])=zR l++ [.int .u8 b.toNat,.int .i64 o]:=by rw[zby];rfl
def chars(s:List UInt8)(rs:List (Int × Int)):List (UInt8 × Int):=s.zip (zF s.length rs)
theorem zbG(s:List UInt8)(rs:List (Int × Int)):(chars s rs).map (·.1)=s:=by
  unfold chars;rw[List.map_fst_zip];rw[zC];exact Nat.le_refl _
theorem za5(s:List UInt8)(rs:List (Int × Int)):(chars s rs).map (·.2)=zF s.length rs:=by
  unfold chars;rw[List.map_snd_zip];rw[zC];exact Nat.le_refl _
theorem zbq(s:List UInt8)(rs:List (Int × Int)):(chars s rs).length=s.length:=by
  unfold chars;rw[List.length_zip,zC];omega
theorem zkd{a b:List (UInt8 × Int)}(h1:a.map (·.1)=b.map (·.1))(h2:a.map (·.2)=b.map (·.2)):a=b:=by
  induction a generalizing b with
  | nil=>cases b with
    | nil=>rfl
    | cons y b=>simp at h1
  | cons x a ih=>cases b with
    | nil=>simp at h1
    | cons y b=>
      simp only[List.map_cons,List.cons.injEq]at h1 h2
      rw[ih h1.2 h2.2,Prod.ext h1.1 h2.1]
def atN(m:Nat)(f:Int):Nat:=(min (max f 0) (m:Int)).toNat
def zdI(l p:List UInt8)(f:Int):Int:=
  if Lib.index (l.drop (atN l.length f)) p < 0 then -1 else (atN l.length f:Int)+Lib.index (l.drop (atN l.length f)) p
theorem zmv(l p:List UInt8):Lib.index l p<=l.length:=by
  induction l with
  | nil=>unfold Lib.index;split<;>simp
  | cons b l ih=>
    unfold Lib.index
    split
    . simp;omega
    . split
      . simp;omega
      . simp;omega
def zbh(f:UInt8->UInt8)(l p:List UInt8):Bool:=decide (p.length<=l.length) && ((l.map f).take p.length == p.map f)
def zaQ(l:List UInt8)(p:UInt8->Bool):Nat:=(l.takeWhile p).length
theorem zc3{l:List UInt8}{p:UInt8->Bool}{k:Nat}{x:UInt8}(h:∀ y∈l.take k,p y=true)(hx:l[k]?=some x)(hp:p x=false):zaQ l p=k:=by
  unfold zaQ
  have hk:k < l.length:=(List.getElem?_eq_some_iff.1 hx).1
  have e:l=l.take k++ x::l.drop (k+1):=by
    conv=>lhs;rw[<-List.take_append_drop k l]
    rw[List.drop_eq_getElem_cons hk]
    rw[List.getElem?_eq_getElem hk]at hx
    injection hx with hx
    rw[hx]
  rw[e,List.takeWhile_append_of_pos h,List.takeWhile_cons_of_neg (by simp [hp]),List.append_nil,List.length_take]
  omega
theorem zgf{l:List UInt8}{p:UInt8->Bool}(h:∀ y∈l,p y=true):zaQ l p=l.length:=by
  unfold zaQ
  have:=List.takeWhile_append_of_pos (l₂:=[]) h
  simp at this
  rw[this]
def znT{α:Type}(p:α->Bool)(l:List α):List (List α) × List α:=
  l.foldl (fun acc x=>if p x then (acc.1++ [acc.2],[]) else (acc.1,acc.2++ [x])) ([],[])
def parts{α:Type}(p:α->Bool)(l:List α):List (List α):=(znT p l).1++ [(znT p l).2]
end Go.Proofs.YtddgabjhligeeaaGreat.mk
namespace Go.Proofs.YtddgabjhligeeaaGreat.mk
open Go.ChangeShapes
section
variable {H : Type} {enc : TypeId × Value → H}
theorem zfs{a:Assume}{C:Checked}{os:Os}{f:FuncId}{fn:Func}{s:OpenSpec}{k:(H:Type)->List (DataW H)->Bool}(hk:s.cond=some k){F:Stop.Interp}{conds:List PathCond}{apart fresh handsOn again:Bool}
    (own:ownKnob C.prog.godebug=none) (started:os.Started) (noInit:C.prog.inits.idxOf? f=none) (hfn:C.prog.funcs[f]?=some fn)
    (witness:∃ (w:World) (tape:Tape) (i:Input),w.os=os/\(w.forCall tape i).Shaped C.prog/\i.vars=[]/\Input.okWide C.prog (w.forCall tape i) .any w.heap.size f i/\
      s.pre6 enc C.prog fn conds apart (w.forCall tape i).memory i.args/\a.holds C.prog (lone (Frame.enter C.prog f i.args .normal) [] (w.forCall tape i)))
    (contract:∀ (W:World) (base:Nat) (args:Array Value) (ds gs:List (DataW H)) (before:List MemPlace),W.ShapedOpen C.prog->
      (∀ (j:Nat) t v,fn.params[j]?=some t->args[j]?=some v->Value.okWide C.prog W .any base t v)->
      DataW.Whole enc C.prog fn.params.toList s.vars apart W args.toList ds gs before->k H (ds++ gs)=true->
      Calls C.prog f args W fun e W'=>∃ v,e=.returned v/\(s.at F).post enc C.prog fn apart fresh handsOn again W args v W') :
    ReturnsInHanded a C os f .any (s.pre6 enc C.prog fn conds apart) ((s.at F).post enc C.prog fn apart fresh handsOn again):=by
  refine returnsInHanded_of_calls own started noInit witness ?_
  intro w tape i _ hsh _ hok hpre _
  obtain⟨_,_,_,fn2,hfn2,_,_,_,_,hval⟩:=hok
  obtain rfl:fn2=fn:=Option.some.inj (hfn2.symm.trans hfn)
  obtain⟨ds,gs,before,hw,_,hkk⟩:=(OpenSpec.pre_some hk conds apart _ _).1 hpre.1
  refine(contract (w.forCall tape i) w.heap.size i.args ds gs before hsh hval (DataW.Whole.of_heap (w':=w.forCall tape i) (by rfl) hw) hkk).mono fun e W' ⟨v,he,hp⟩=>?_
  subst he
  exact ChangeSpec.post_blind hp
end
end Go.Proofs.YtddgabjhligeeaaGreat.mk
